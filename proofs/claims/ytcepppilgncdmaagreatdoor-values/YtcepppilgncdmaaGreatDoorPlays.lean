/-
  What 'masonlaw.Values' answers: true, whatever script it is given.
-/
import Derived.Test.YtcepppilgncdmaaGreatDoorStep
import Derived.Laws.AppendOwnNone
import Derived.Deep.AppendLies
namespace Go.Proofs.YtcepppilgncdmaaGreatDoor
open Go.RowKit

/-- One step of a script, as plain data, and where its names lie. -/
structure OpD where
  kind : Int
  A : Int
  S : ByteArray
  la : Option Addr
  lc : Nat
  ns : List (ByteArray × Int)

def cellsO (os : List OpD) : List Value := os.flatMap fun o => [.int .i64 o.kind, .int .i64 o.A, .string o.S, .slice o.la o.ns.length o.lc]

def OpOk (w : World) (o : OpD) : Prop :=
  o.S.size ≤ 140737488351232 ∧ ((o.la = none ∧ o.ns = [] ∧ o.lc = 0) ∨ ∃ a, o.la = some a ∧ o.ns.length ≤ 5864062014634 ∧ NamesAt w (some a) o.ns)

theorem OpOk.below {w w' : World} {o : OpD} (h : OpOk w o) (hb : Below w.heap.size w w') : OpOk w' o := by
  obtain ⟨h1, h⟩ := h
  refine ⟨h1, ?_⟩
  rcases h with h | ⟨a, h2, h3, h4⟩
  · exact Or.inl h
  · exact Or.inr ⟨a, h2, h3, h4.below hb⟩

/-- A script lies in the world: four cells a step. -/
def OpsAt (w : World) (a : Option Addr) (os : List OpD) : Prop :=
  (a = none ∧ os = []) ∨ ∃ ad, a = some ad ∧ ∀ j v, (cellsO os)[j]? = some v → w.cell? (ad.add j) = some v

theorem cellsO_cons (o : OpD) (os : List OpD) : cellsO (o :: os) = .int .i64 o.kind :: .int .i64 o.A :: .string o.S :: .slice o.la o.ns.length o.lc :: cellsO os := rfl
theorem cellsO_length (os : List OpD) : (cellsO os).length = os.length * 4 := by
  induction os with
  | nil => rfl
  | cons p os ih => rw [cellsO_cons]; simp [ih]; omega
theorem cellsO_append (l m : List OpD) : cellsO (l ++ m) = cellsO l ++ cellsO m := by simp [cellsO]
theorem cellsO_one (os : List OpD) : ∀ u ∈ cellsO os, u.oneCell' = true := by
  intro u hu
  obtain ⟨p, _, hp⟩ := List.mem_flatMap.1 hu
  simp at hp
  rcases hp with rfl | rfl | rfl | rfl <;> rfl
theorem cellsO_at : ∀ (os : List OpD) (i : Nat) (h : i < os.length), (cellsO os)[i * 4]? = some (.int .i64 os[i].kind) ∧ (cellsO os)[i * 4 + 1]? = some (.int .i64 os[i].A) ∧ (cellsO os)[i * 4 + 2]? = some (.string os[i].S) ∧ (cellsO os)[i * 4 + 3]? = some (.slice os[i].la os[i].ns.length os[i].lc) := by
  intro os
  induction os with
  | nil => intro i h; simp at h
  | cons p os ih =>
    intro i h
    rw [cellsO_cons]
    cases i with
    | zero => exact ⟨rfl, rfl, rfl, rfl⟩
    | succ i =>
      have := ih i (by simpa using h)
      rw [show (i + 1) * 4 = i * 4 + 1 + 1 + 1 + 1 from by omega]
      simpa using this

theorem ownsRow_below' {w w' : World} {base e size : Nat} {v : Value} {n : Nat} {xs : List Value} (h : w.ownsRow base e size v n xs) (hb : Below w.heap.size w w') : w'.ownsRow base e size v n xs := by
  obtain ⟨hl, h⟩ := h
  refine ⟨hl, ?_⟩
  rcases h with h | ⟨g, cap, cur, h1, h2, h3, h4⟩
  · exact Or.inl h
  · refine Or.inr ⟨g, cap, cur, h1, h2, ?_, h4⟩
    rw [hb.block g (Array.getElem?_eq_some_iff.1 h3).1]
    exact h3

def firstOps : List OpD := [⟨1, 0, ⟨#[50, 43, 51, 42, 52]⟩, none, 0, []⟩,
  ⟨2, 0, ⟨#[46, 109, 97, 99, 114, 111, 32, 116, 119, 105, 99, 101, 44, 97, 10, 97, 100, 100, 32, 92, 97, 44, 92, 97, 10, 46, 101, 110, 100, 10, 104, 101, 114, 101, 58, 32, 116, 119, 105, 99, 101, 32, 114, 49, 32, 59, 32, 115, 111]⟩, none, 0, []⟩,
  ⟨3, 0, ⟨#[106, 109, 112, 32, 101, 110, 100, 10, 46, 115, 112, 97, 99, 101, 32, 49, 50, 56, 10, 101, 110, 100, 58, 32, 114, 101, 116]⟩, none, 0, []⟩]
theorem firstOps_cells : cellsO firstOps = firstCells := rfl
theorem firstOps_ok (w : World) : ∀ o ∈ firstOps, OpOk w o := by
  intro o ho
  simp only [firstOps, List.mem_cons, List.not_mem_nil, or_false] at ho
  rcases ho with rfl | rfl | rfl
  all_goals exact ⟨by decide, Or.inl ⟨rfl, rfl, rfl⟩⟩

theorem infoOp : (Tryz.prog.info? 57).map (fun i => (i.zero, i.size, i.bytes)) = some (some (.agg #[.int .i64 0, .int .i64 0, .string ⟨#[]⟩, .slice none 0 0]), 4, 56) := by kernel_rfl

theorem owns_first (w : World) : (w.alloc (.cells firstCells.toArray 57)).ownsRow w.heap.size 57 4 (.slice (some ⟨w.heap.size, 0, none⟩) 3 3) 3 firstCells :=
  ⟨rfl, Or.inr ⟨w.heap.size, 3, _, rfl, Nat.le_refl _, heap_alloc_new w _, Nat.le_refl _, by decide, rfl, rfl⟩⟩

set_option maxRecDepth 100000 in
set_option maxHeartbeats 1000000 in
theorem plays_values (a : Option Addr) (cap : Nat) (os : List OpD) (w : World) (hl : os.length * 56 ≤ 140737488351232) (hat : OpsAt w a os) (hok : ∀ o ∈ os, OpOk w o) :
    Calls Tryz.prog 9 #[.slice a os.length cap, .int .i64 1, .int .i64 1] w fun e w' => e = .returned (.bool true) ∧ Below w.heap.size w w' := by
  have HAT := hid hat
  have HOK := hid hok
  clear hat hok
  obtain ⟨i0, hi0, hz0, hz1, hz2⟩ := info_parts infoOp
  go_enter Tryz.func9, Tryz.ntmps9
  go_upto_region 2 with (first | (go_at_call 17; refine (first_any _).mono ?_; rintro e w1 ⟨rfl, rfl⟩))
  have hown0 := owns_first w
  have hb0 : Below w.heap.size w (w.alloc (.cells firstCells.toArray 57)) := (Below.refl _ _).alloc (Nat.le_refl _) _
  have hsz0 : (w.alloc (.cells firstCells.toArray 57)).heap.size = w.heap.size + 1 := by simp
  generalize hw1 : w.alloc (.cells firstCells.toArray 57) = w1 at *
  have HB0 := hid hb0
  clear hw1 hb0
  go_cut [7] (fun v wx => ∃ g c, v = .slice (some ⟨g, 0, none⟩) (3 + os.length) c ∧ wx.ownsRow w.heap.size 57 4 (.slice (some ⟨g, 0, none⟩) (3 + os.length) c) (3 + os.length) (cellsO (firstOps ++ os)) ∧ Below w.heap.size w wx)
  case first =>
    rcases HAT.out with ⟨rfl, rfl⟩ | ⟨ad, rfl, hc⟩
    · go_wp2
      go_meet
      case rel => exact ⟨w.heap.size, 3, rfl, by simpa [firstOps_cells] using hown0, HB0.out⟩
    · have hc1 : ∀ j v, (cellsO os)[j]? = some v → w1.cell? (ad.add j) = some v := fun j v hv => by
        have h := hc j v hv
        rw [HB0.out.cell (p := ad.add j) (World.block_lt_of_cell? w _ h)]; exact h
      go_wp2_with ((at_builtin; refine wpList_append_own _ rfl (.tmp 13) (.tmp 14) 22 rfl w.heap.size 57 i0 _ 4 56 Tryz.underlying22 hi0 hz0 hz1 hz2 rfl (by omega) _ 3 firstCells rfl hown0 ad os.length cap (cellsO os) rfl (cellsO_length os) hc1 (cellsO_one os) (by unfold maxLen; omega) (by omega) (by omega) ?_; intro v' w2 hown2 hgrow2 hnil2; obtain ⟨g, c, hv, hgb, hgl⟩ := hown2.form (by omega); subst hv))
      go_meet
      case rel => exact ⟨g, c, rfl, by rw [cellsO_append, firstOps_cells]; exact hown2, HB0.out.grown hgrow2 HB0.out.size (fun k hk => by have h : some w.heap.size = some k := hk; injection h with h; omega)⟩
  case rest =>
    obtain ⟨g, c, rfl, hown, hbel⟩ := hcut
    have HOWN := hid hown
    have HBEL := hid hbel
    clear hown hbel hown0 HB0 hsz0 hi0 hz0 hz1 hz2 HAT
    obtain ⟨al, hal⟩ : ∃ al, firstOps ++ os = al := ⟨_, rfl⟩
    have hall : al.length = 3 + os.length := by rw [← hal, List.length_append]; rfl
    have hgok : ∀ o ∈ al, OpOk w o := by
      rw [← hal]
      intro o ho
      rcases List.mem_append.1 ho with h | h
      · exact firstOps_ok w o h
      · exact HOK.out o h
    have HGOK := hid hgok
    have HOWN1 := hid (show wc.ownsRow w.heap.size 57 4 (.slice (some ⟨g, 0, none⟩) (3 + os.length) c) (3 + os.length) (cellsO al) by rw [← hal]; exact HOWN.out)
    clear hal hgok HOWN HOK
    go_wp2_with fail
    have hkb : (wc.alloc (Obj.cells #[Value.slice none 0 0, Value.slice none 0 0, Value.slice none 0 0] 55)).cell? ⟨wc.heap.size, 0, none⟩ = some (.slice none 0 0) ∧ (wc.alloc (Obj.cells #[Value.slice none 0 0, Value.slice none 0 0, Value.slice none 0 0] 55)).cell? ⟨wc.heap.size, 1, none⟩ = some (.slice none 0 0) ∧ (wc.alloc (Obj.cells #[Value.slice none 0 0, Value.slice none 0 0, Value.slice none 0 0] 55)).cell? ⟨wc.heap.size, 2, none⟩ = some (.slice none 0 0) := ⟨by simp [go_sem], by simp [go_sem], by simp [go_sem]⟩
    have hkz : wc.heap.size < (wc.alloc (Obj.cells #[Value.slice none 0 0, Value.slice none 0 0, Value.slice none 0 0] 55)).heap.size := by simp
    have hownk := HOWN1.out.alloc (Obj.cells #[Value.slice none 0 0, Value.slice none 0 0, Value.slice none 0 0] 55)
    have hbk : Below w.heap.size w (wc.alloc (Obj.cells #[Value.slice none 0 0, Value.slice none 0 0, Value.slice none 0 0] 55)) := HBEL.out.alloc HBEL.out.size _
    generalize wc.heap.size = kb at *
    generalize hwk : wc.alloc (Obj.cells #[Value.slice none 0 0, Value.slice none 0 0, Value.slice none 0 0] 55) = wk at *
    have HKB := hid hkb
    have HOWNK := hid hownk
    have HBK := hid hbk
    clear hkb hownk hbk HOWN1 hwk HBEL
    go_loopw [9] (fun i wr => ∃ j : Nat, j ≤ 3 + os.length ∧ i = .int .i64 j ∧ Below wk.heap.size wk wr) (fun i _ => 3 + os.length - (intOf i).toNat)
    case atStart => exact ⟨0, Nat.zero_le _, rfl, Below.refl _ _⟩
    case round =>
      obtain ⟨j, hj, rfl, hbr⟩ := hrel
      have HBR := hid hbr
      have HBW := hid (HBK.out.trans (hbr.mono HBK.out.size))
      have hk0 := (hbr.cell (p := ⟨kb, 0, none⟩) hkz).trans HKB.out.1
      have hk1 := (hbr.cell (p := ⟨kb, 1, none⟩) hkz).trans HKB.out.2.1
      have hk2 := (hbr.cell (p := ⟨kb, 2, none⟩) hkz).trans HKB.out.2.2
      have hkz2 : kb < wr.heap.size := Nat.lt_of_lt_of_le hkz hbr.size
      clear hbr
      by_cases hlt : j < 3 + os.length
      · have d1 : decide ((j : Int) < 3 + (os.length : Int)) = true := by simp; omega
        have d2 : decide ((j : Int) < 288230376151711744) = true := by simp; omega
        have hown := ownsRow_below' HOWNK.out HBR.out
        obtain ⟨e0, e1, e2, e3⟩ := cellsO_at al j (by omega)
        have q0 := (hown.cellAt (j * 4) (by omega)).trans e0
        have q1 := (hown.cellAt (j * 4 + 1) (by omega)).trans e1
        have q2 := (hown.cellAt (j * 4 + 2) (by omega)).trans e2
        have q3 := (hown.cellAt (j * 4 + 3) (by omega)).trans e3
        have hop : OpOk wr al[j] := (HGOK.out _ (List.getElem_mem _)).below HBW.out
        clear hown e0 e1 e2 e3
        obtain ⟨o, ho⟩ : ∃ o, al[j] = o := ⟨_, rfl⟩
        rw [ho] at q0 q1 q2 q3 hop
        clear ho
        obtain ⟨kind, A, S, la, lc, ns⟩ := o
        simp only at q0 q1 q2 q3
        obtain ⟨hs, hcs⟩ := hop
        simp only at hs hcs
        have HCS := hid hcs
        clear hcs
        by_cases hk : kind = 1
        · subst hk
          rcases HCS.out with ⟨rfl, rfl, rfl⟩ | ⟨a', rfl, hl', hn'⟩
          · go_wp2_with fail
            refine (step_nil _ A S _ hs).mono ?_
            rintro e w5 ⟨rfl, hb5⟩
            have m0 := (hb5.cell (p := ⟨kb, 0, none⟩) hkz2).trans hk0
            have m1 := (hb5.cell (p := ⟨kb, 1, none⟩) hkz2).trans hk1
            have m2 := (hb5.cell (p := ⟨kb, 2, none⟩) hkz2).trans hk2
            have HB5 := hid (HBR.out.trans (hb5.mono HBR.out.size))
            clear hb5
            go_wp2_with fail
            refine (looks_empty kb _ m0 m1 m2).mono ?_
            rintro e w6 ⟨rfl, rfl⟩
            go_wp2
            go_roundw
            case rel => exact ⟨j + 1, by omega, by go_num, HB5.out⟩
            case measure => simp [intOf]; omega
          · have HN' := hid hn'
            clear hn'
            go_wp2_with fail
            refine (step_some _ A S a' lc ns _ hs hl' HN'.out).mono ?_
            rintro e w5 ⟨rfl, hb5⟩
            have m0 := (hb5.cell (p := ⟨kb, 0, none⟩) hkz2).trans hk0
            have m1 := (hb5.cell (p := ⟨kb, 1, none⟩) hkz2).trans hk1
            have m2 := (hb5.cell (p := ⟨kb, 2, none⟩) hkz2).trans hk2
            have HB5 := hid (HBR.out.trans (hb5.mono HBR.out.size))
            clear hb5
            go_wp2_with fail
            refine (looks_empty kb _ m0 m1 m2).mono ?_
            rintro e w6 ⟨rfl, rfl⟩
            go_wp2
            go_roundw
            case rel => exact ⟨j + 1, by omega, by go_num, HB5.out⟩
            case measure => simp [intOf]; omega
        · by_cases hk1' : kind < 1
          · have t1 : decide (kind < 1) = true := by simpa using hk1'
            go_wp2_with fail
            go_roundw
            case rel => exact ⟨j + 1, by omega, by go_num, HBR.out⟩
            case measure => simp [intOf]; omega
          · have t1 : decide (kind < 1) = false := by simpa using hk1'
            have t2 : decide (1 < kind) = true := by simp; omega
            go_wp2_with fail
            go_roundw
            case rel => exact ⟨j + 1, by omega, by go_num, HBR.out⟩
            case measure => simp [intOf]; omega
      · have d1 : decide ((j : Int) < 3 + (os.length : Int)) = false := by simp; omega
        go_wp2_with fail
        go_ret
        exact ⟨rfl, HBW.out⟩

theorem Values_any (a : Option Addr) (cap : Nat) (os : List OpD) (w : World) (hl : os.length * 56 ≤ 140737488351232) (hat : OpsAt w a os) (hok : ∀ o ∈ os, OpOk w o) :
    Calls Tryz.prog 3 #[.slice a os.length cap] w fun e w' => e = .returned (.bool true) ∧ Below w.heap.size w w' := by
  have HAT := hid hat
  have HOK := hid hok
  clear hat hok
  go_enter Tryz.func3, Tryz.ntmps3
  go_wp2_with fail
  refine (plays_values a cap os _ hl HAT.out HOK.out).mono ?_
  rintro e w1 ⟨rfl, hb⟩
  go_wp2
  go_ret
  exact ⟨rfl, hb⟩

end Go.Proofs.YtcepppilgncdmaaGreatDoor
