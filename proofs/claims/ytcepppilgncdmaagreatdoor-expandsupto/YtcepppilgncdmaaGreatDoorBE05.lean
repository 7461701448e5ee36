/-
  What 'masonlaw.Values' answers: true, whatever script it is given.
  Rows of cells that are known whole, and what a call may turn of them.
  append, and what becomes of the slice that was appended to: it still reads as it did. Nothing of the program stands here.
  The contracts of the library that the walks here lean on, at this dump (laid by the kit's own commands), and the builder's writer by the same.
-/
import Derived.Test.YtcepppilgncdmaaGreatDoorBE04
import Derived.Laws.AppendOwnNone
import Derived.Deep.AppendLies
import Derived.Test.YtcepppilgncdmaaGreatDoorBE01
import Derived.OwnWalk
import Derived.ArgAppend
import Derived.Shelf.Strings.BuilderF
import Derived.Shelf.Strings.Trim
import Derived.Shelf.Small.Wraps
import Derived.Shelf.Strings.Cut
import Derived.Shelf.Strings.Prefix
import Derived.Shelf.Strings.Split
import Derived.Shelf.Strings.Replace
import Derived.Shelf.Slices.Turned
import Derived.Test.YtcepppilgncdmaaGreatDoorProg
namespace Go.Proofs.YtcepppilgncdmaaGreatDoor
open Go.RowKit

/-- One step of a script, as plain data, and where its names lie. -/
structure OpD where
  kind : Int
  A : Int
  S : ByteArray
  la : Option Addr
  lc : Nat
  ns : List (ByteArray × Int)

def cellsO (os : List OpD) : List Value := os.flatMap fun o => [.int .i64 o.kind, .int .i64 o.A, .string o.S, .slice o.la o.ns.length o.lc]

def OpOk (w : World) (o : OpD) : Prop :=
  o.S.size ≤ 140737488351232 ∧ ((o.la = none ∧ o.ns = [] ∧ o.lc = 0) ∨ ∃ a, o.la = some a ∧ o.ns.length ≤ 5864062014634 ∧ NamesAt w (some a) o.ns)

theorem OpOk.below {w w' : World} {o : OpD} (h : OpOk w o) (hb : Below w.heap.size w w') : OpOk w' o := by
  obtain ⟨h1, h⟩ := h
  refine ⟨h1, ?_⟩
  rcases h with h | ⟨a, h2, h3, h4⟩
  · exact Or.inl h
  · exact Or.inr ⟨a, h2, h3, h4.below hb⟩

/-- A script lies in the world: four cells a step. -/
def OpsAt (w : World) (a : Option Addr) (os : List OpD) : Prop :=
  (a = none ∧ os = []) ∨ ∃ ad, a = some ad ∧ ∀ j v, (cellsO os)[j]? = some v → w.cell? (ad.add j) = some v

theorem cellsO_cons (o : OpD) (os : List OpD) : cellsO (o :: os) = .int .i64 o.kind :: .int .i64 o.A :: .string o.S :: .slice o.la o.ns.length o.lc :: cellsO os := rfl
theorem cellsO_length (os : List OpD) : (cellsO os).length = os.length * 4 := by
  induction os with
  | nil => rfl
  | cons p os ih => rw [cellsO_cons]; simp [ih]; omega
theorem cellsO_append (l m : List OpD) : cellsO (l ++ m) = cellsO l ++ cellsO m := by simp [cellsO]
theorem cellsO_one (os : List OpD) : ∀ u ∈ cellsO os, u.oneCell' = true := by
  intro u hu
  obtain ⟨p, _, hp⟩ := List.mem_flatMap.1 hu
  simp at hp
  rcases hp with rfl | rfl | rfl | rfl <;> rfl
theorem cellsO_at : ∀ (os : List OpD) (i : Nat) (h : i < os.length), (cellsO os)[i * 4]? = some (.int .i64 os[i].kind) ∧ (cellsO os)[i * 4 + 1]? = some (.int .i64 os[i].A) ∧ (cellsO os)[i * 4 + 2]? = some (.string os[i].S) ∧ (cellsO os)[i * 4 + 3]? = some (.slice os[i].la os[i].ns.length os[i].lc) := by
  intro os
  induction os with
  | nil => intro i h; simp at h
  | cons p os ih =>
    intro i h
    rw [cellsO_cons]
    cases i with
    | zero => exact ⟨rfl, rfl, rfl, rfl⟩
    | succ i =>
      have := ih i (by simpa using h)
      rw [show (i + 1) * 4 = i * 4 + 1 + 1 + 1 + 1 from by omega]
      simpa using this

theorem ownsRow_below' {w w' : World} {base e size : Nat} {v : Value} {n : Nat} {xs : List Value} (h : w.ownsRow base e size v n xs) (hb : Below w.heap.size w w') : w'.ownsRow base e size v n xs := by
  obtain ⟨hl, h⟩ := h
  refine ⟨hl, ?_⟩
  rcases h with h | ⟨g, cap, cur, h1, h2, h3, h4⟩
  · exact Or.inl h
  · refine Or.inr ⟨g, cap, cur, h1, h2, ?_, h4⟩
    rw [hb.block g (Array.getElem?_eq_some_iff.1 h3).1]
    exact h3

def firstOps : List OpD := [⟨1, 0, ⟨#[50, 43, 51, 42, 52]⟩, none, 0, []⟩,
  ⟨2, 0, ⟨#[46, 109, 97, 99, 114, 111, 32, 116, 119, 105, 99, 101, 44, 97, 10, 97, 100, 100, 32, 92, 97, 44, 92, 97, 10, 46, 101, 110, 100, 10, 104, 101, 114, 101, 58, 32, 116, 119, 105, 99, 101, 32, 114, 49, 32, 59, 32, 115, 111]⟩, none, 0, []⟩,
  ⟨3, 0, ⟨#[106, 109, 112, 32, 101, 110, 100, 10, 46, 115, 112, 97, 99, 101, 32, 49, 50, 56, 10, 101, 110, 100, 58, 32, 114, 101, 116]⟩, none, 0, []⟩]
theorem firstOps_cells : cellsO firstOps = firstCells := rfl
theorem firstOps_ok (w : World) : ∀ o ∈ firstOps, OpOk w o := by
  intro o ho
  simp only [firstOps, List.mem_cons, List.not_mem_nil, or_false] at ho
  rcases ho with rfl | rfl | rfl
  all_goals exact ⟨by decide, Or.inl ⟨rfl, rfl, rfl⟩⟩

theorem infoOp : (Tryz.prog.info? 57).map (fun i => (i.zero, i.size, i.bytes)) = some (some (.agg #[.int .i64 0, .int .i64 0, .string ⟨#[]⟩, .slice none 0 0]), 4, 56) := by kernel_rfl

theorem owns_first (w : World) : (w.alloc (.cells firstCells.toArray 57)).ownsRow w.heap.size 57 4 (.slice (some ⟨w.heap.size, 0, none⟩) 3 3) 3 firstCells :=
  ⟨rfl, Or.inr ⟨w.heap.size, 3, _, rfl, Nat.le_refl _, heap_alloc_new w _, Nat.le_refl _, by decide, rfl, rfl⟩⟩

set_option maxRecDepth 100000 in
set_option maxHeartbeats 1000000 in
theorem plays_values (a : Option Addr) (cap : Nat) (os : List OpD) (w : World) (hl : os.length * 56 ≤ 140737488351232) (hat : OpsAt w a os) (hok : ∀ o ∈ os, OpOk w o) :
    Calls Tryz.prog 9 #[.slice a os.length cap, .int .i64 1, .int .i64 1] w fun e w' => e = .returned (.bool true) ∧ Below w.heap.size w w' := by
  have HAT := hid hat
  have HOK := hid hok
  clear hat hok
  obtain ⟨i0, hi0, hz0, hz1, hz2⟩ := info_parts infoOp
  go_enter Tryz.func9, Tryz.ntmps9
  go_upto_region 2 with (first | (go_at_call 17; refine (first_any _).mono ?_; rintro e w1 ⟨rfl, rfl⟩))
  have hown0 := owns_first w
  have hb0 : Below w.heap.size w (w.alloc (.cells firstCells.toArray 57)) := (Below.refl _ _).alloc (Nat.le_refl _) _
  have hsz0 : (w.alloc (.cells firstCells.toArray 57)).heap.size = w.heap.size + 1 := by simp
  generalize hw1 : w.alloc (.cells firstCells.toArray 57) = w1 at *
  have HB0 := hid hb0
  clear hw1 hb0
  go_cut [7] (fun v wx => ∃ g c, v = .slice (some ⟨g, 0, none⟩) (3 + os.length) c ∧ wx.ownsRow w.heap.size 57 4 (.slice (some ⟨g, 0, none⟩) (3 + os.length) c) (3 + os.length) (cellsO (firstOps ++ os)) ∧ Below w.heap.size w wx)
  case first =>
    rcases HAT.out with ⟨rfl, rfl⟩ | ⟨ad, rfl, hc⟩
    · go_wp2
      go_meet
      case rel => exact ⟨w.heap.size, 3, rfl, by simpa [firstOps_cells] using hown0, HB0.out⟩
    · have hc1 : ∀ j v, (cellsO os)[j]? = some v → w1.cell? (ad.add j) = some v := fun j v hv => by
        have h := hc j v hv
        rw [HB0.out.cell (p := ad.add j) (World.block_lt_of_cell? w _ h)]; exact h
      go_wp2_with ((at_builtin; refine wpList_append_own _ rfl (.tmp 13) (.tmp 14) 22 rfl w.heap.size 57 i0 _ 4 56 Tryz.underlying22 hi0 hz0 hz1 hz2 rfl (by omega) _ 3 firstCells rfl hown0 ad os.length cap (cellsO os) rfl (cellsO_length os) hc1 (cellsO_one os) (by unfold maxLen; omega) (by omega) (by omega) ?_; intro v' w2 hown2 hgrow2 hnil2; obtain ⟨g, c, hv, hgb, hgl⟩ := hown2.form (by omega); subst hv))
      go_meet
      case rel => exact ⟨g, c, rfl, by rw [cellsO_append, firstOps_cells]; exact hown2, HB0.out.grown hgrow2 HB0.out.size (fun k hk => by have h : some w.heap.size = some k := hk; injection h with h; omega)⟩
  case rest =>
    obtain ⟨g, c, rfl, hown, hbel⟩ := hcut
    have HOWN := hid hown
    have HBEL := hid hbel
    clear hown hbel hown0 HB0 hsz0 hi0 hz0 hz1 hz2 HAT
    obtain ⟨al, hal⟩ : ∃ al, firstOps ++ os = al := ⟨_, rfl⟩
    have hall : al.length = 3 + os.length := by rw [← hal, List.length_append]; rfl
    have hgok : ∀ o ∈ al, OpOk w o := by
      rw [← hal]
      intro o ho
      rcases List.mem_append.1 ho with h | h
      · exact firstOps_ok w o h
      · exact HOK.out o h
    have HGOK := hid hgok
    have HOWN1 := hid (show wc.ownsRow w.heap.size 57 4 (.slice (some ⟨g, 0, none⟩) (3 + os.length) c) (3 + os.length) (cellsO al) by rw [← hal]; exact HOWN.out)
    clear hal hgok HOWN HOK
    go_wp2_with fail
    have hkb : (wc.alloc (Obj.cells #[Value.slice none 0 0, Value.slice none 0 0, Value.slice none 0 0] 55)).cell? ⟨wc.heap.size, 0, none⟩ = some (.slice none 0 0) ∧ (wc.alloc (Obj.cells #[Value.slice none 0 0, Value.slice none 0 0, Value.slice none 0 0] 55)).cell? ⟨wc.heap.size, 1, none⟩ = some (.slice none 0 0) ∧ (wc.alloc (Obj.cells #[Value.slice none 0 0, Value.slice none 0 0, Value.slice none 0 0] 55)).cell? ⟨wc.heap.size, 2, none⟩ = some (.slice none 0 0) := ⟨by simp [go_sem], by simp [go_sem], by simp [go_sem]⟩
    have hkz : wc.heap.size < (wc.alloc (Obj.cells #[Value.slice none 0 0, Value.slice none 0 0, Value.slice none 0 0] 55)).heap.size := by simp
    have hownk := HOWN1.out.alloc (Obj.cells #[Value.slice none 0 0, Value.slice none 0 0, Value.slice none 0 0] 55)
    have hbk : Below w.heap.size w (wc.alloc (Obj.cells #[Value.slice none 0 0, Value.slice none 0 0, Value.slice none 0 0] 55)) := HBEL.out.alloc HBEL.out.size _
    generalize wc.heap.size = kb at *
    generalize hwk : wc.alloc (Obj.cells #[Value.slice none 0 0, Value.slice none 0 0, Value.slice none 0 0] 55) = wk at *
    have HKB := hid hkb
    have HOWNK := hid hownk
    have HBK := hid hbk
    clear hkb hownk hbk HOWN1 hwk HBEL
    go_loopw [9] (fun i wr => ∃ j : Nat, j ≤ 3 + os.length ∧ i = .int .i64 j ∧ Below wk.heap.size wk wr) (fun i _ => 3 + os.length - (intOf i).toNat)
    case atStart => exact ⟨0, Nat.zero_le _, rfl, Below.refl _ _⟩
    case round =>
      obtain ⟨j, hj, rfl, hbr⟩ := hrel
      have HBR := hid hbr
      have HBW := hid (HBK.out.trans (hbr.mono HBK.out.size))
      have hk0 := (hbr.cell (p := ⟨kb, 0, none⟩) hkz).trans HKB.out.1
      have hk1 := (hbr.cell (p := ⟨kb, 1, none⟩) hkz).trans HKB.out.2.1
      have hk2 := (hbr.cell (p := ⟨kb, 2, none⟩) hkz).trans HKB.out.2.2
      have hkz2 : kb < wr.heap.size := Nat.lt_of_lt_of_le hkz hbr.size
      clear hbr
      by_cases hlt : j < 3 + os.length
      · have d1 : decide ((j : Int) < 3 + (os.length : Int)) = true := by simp; omega
        have d2 : decide ((j : Int) < 288230376151711744) = true := by simp; omega
        have hown := ownsRow_below' HOWNK.out HBR.out
        obtain ⟨e0, e1, e2, e3⟩ := cellsO_at al j (by omega)
        have q0 := (hown.cellAt (j * 4) (by omega)).trans e0
        have q1 := (hown.cellAt (j * 4 + 1) (by omega)).trans e1
        have q2 := (hown.cellAt (j * 4 + 2) (by omega)).trans e2
        have q3 := (hown.cellAt (j * 4 + 3) (by omega)).trans e3
        have hop : OpOk wr al[j] := (HGOK.out _ (List.getElem_mem _)).below HBW.out
        clear hown e0 e1 e2 e3
        obtain ⟨o, ho⟩ : ∃ o, al[j] = o := ⟨_, rfl⟩
        rw [ho] at q0 q1 q2 q3 hop
        clear ho
        obtain ⟨kind, A, S, la, lc, ns⟩ := o
        simp only at q0 q1 q2 q3
        obtain ⟨hs, hcs⟩ := hop
        simp only at hs hcs
        have HCS := hid hcs
        clear hcs
        by_cases hk : kind = 1
        · subst hk
          rcases HCS.out with ⟨rfl, rfl, rfl⟩ | ⟨a', rfl, hl', hn'⟩
          · go_wp2_with fail
            refine (step_nil _ A S _ hs).mono ?_
            rintro e w5 ⟨rfl, hb5⟩
            have m0 := (hb5.cell (p := ⟨kb, 0, none⟩) hkz2).trans hk0
            have m1 := (hb5.cell (p := ⟨kb, 1, none⟩) hkz2).trans hk1
            have m2 := (hb5.cell (p := ⟨kb, 2, none⟩) hkz2).trans hk2
            have HB5 := hid (HBR.out.trans (hb5.mono HBR.out.size))
            clear hb5
            go_wp2_with fail
            refine (looks_empty kb _ m0 m1 m2).mono ?_
            rintro e w6 ⟨rfl, rfl⟩
            go_wp2
            go_roundw
            case rel => exact ⟨j + 1, by omega, by go_num, HB5.out⟩
            case measure => simp [intOf]; omega
          · have HN' := hid hn'
            clear hn'
            go_wp2_with fail
            refine (step_some _ A S a' lc ns _ hs hl' HN'.out).mono ?_
            rintro e w5 ⟨rfl, hb5⟩
            have m0 := (hb5.cell (p := ⟨kb, 0, none⟩) hkz2).trans hk0
            have m1 := (hb5.cell (p := ⟨kb, 1, none⟩) hkz2).trans hk1
            have m2 := (hb5.cell (p := ⟨kb, 2, none⟩) hkz2).trans hk2
            have HB5 := hid (HBR.out.trans (hb5.mono HBR.out.size))
            clear hb5
            go_wp2_with fail
            refine (looks_empty kb _ m0 m1 m2).mono ?_
            rintro e w6 ⟨rfl, rfl⟩
            go_wp2
            go_roundw
            case rel => exact ⟨j + 1, by omega, by go_num, HB5.out⟩
            case measure => simp [intOf]; omega
        · by_cases hk1' : kind < 1
          · have t1 : decide (kind < 1) = true := by simpa using hk1'
            go_wp2_with fail
            go_roundw
            case rel => exact ⟨j + 1, by omega, by go_num, HBR.out⟩
            case measure => simp [intOf]; omega
          · have t1 : decide (kind < 1) = false := by simpa using hk1'
            have t2 : decide (1 < kind) = true := by simp; omega
            go_wp2_with fail
            go_roundw
            case rel => exact ⟨j + 1, by omega, by go_num, HBR.out⟩
            case measure => simp [intOf]; omega
      · have d1 : decide ((j : Int) < 3 + (os.length : Int)) = false := by simp; omega
        go_wp2_with fail
        go_ret
        exact ⟨rfl, HBW.out⟩

theorem Values_any (a : Option Addr) (cap : Nat) (os : List OpD) (w : World) (hl : os.length * 56 ≤ 140737488351232) (hat : OpsAt w a os) (hok : ∀ o ∈ os, OpOk w o) :
    Calls Tryz.prog 3 #[.slice a os.length cap] w fun e w' => e = .returned (.bool true) ∧ Below w.heap.size w w' := by
  have HAT := hid hat
  have HOK := hid hok
  clear hat hok
  go_enter Tryz.func3, Tryz.ntmps3
  go_wp2_with fail
  refine (plays_values a cap os _ hl HAT.out HOK.out).mono ?_
  rintro e w1 ⟨rfl, hb⟩
  go_wp2
  go_ret
  exact ⟨rfl, hb⟩

end Go.Proofs.YtcepppilgncdmaaGreatDoor

namespace Go.Proofs.YtcepppilgncdmaaGreatDoor
open Go.RowKit

/-- A block of cells, known whole. -/
def RowT (w : World) (t g : Nat) (xs : List Value) : Prop := w.heap[g]? = some (.cells xs.toArray t (0, 0))
theorem RowT.cell {w : World} {t g : Nat} {xs : List Value} (h : RowT w t g xs) (j : Nat) (hj : j < xs.length) : w.cell? ⟨g, j, none⟩ = some xs[j] := by
  unfold RowT at h
  simp [World.cell?, h, hj]
theorem RowT.free {w : World} {t g : Nat} {xs : List Value} (h : RowT w t g xs) (j : Nat) : w.frozen? ⟨g, j, none⟩ = false := by
  unfold RowT at h
  simp [World.frozen?, h]
theorem RowT.lt {w : World} {t g : Nat} {xs : List Value} (h : RowT w t g xs) : g < w.heap.size := (Array.getElem?_eq_some_iff.1 h).1
theorem RowT.set {w : World} {t g : Nat} {xs : List Value} (h : RowT w t g xs) (j : Nat) (u : Value) : RowT (w.setCell ⟨g, j, none⟩ u) t g (xs.set j u) := by
  unfold RowT at h ⊢
  rw [heap_setCell_same w g j xs.toArray t u h]
  simp
theorem RowT.other {w : World} {t g : Nat} {xs : List Value} (h : RowT w t g xs) (b j : Nat) (hb : g ≠ b) (u : Value) : RowT (w.setCell ⟨b, j, none⟩ u) t g xs := by
  unfold RowT at h ⊢
  rw [heap_setCell_other w ⟨b, j, none⟩ g u hb]; exact h

/-- Nothing has turned but the listed blocks; there may be new ones. -/
structure Keeps (M : List Nat) (w w' : World) : Prop where
  os : w'.os = w.os
  tape : w'.tape = w.tape
  output : w'.output = w.output
  size : w.heap.size ≤ w'.heap.size
  block : ∀ k, k < w.heap.size → k ∉ M → w'.heap[k]? = w.heap[k]?

theorem Keeps.refl (M : List Nat) (w : World) : Keeps M w w := ⟨rfl, rfl, rfl, Nat.le_refl _, fun _ _ _ => rfl⟩
theorem Keeps.trans {M : List Nat} {a b c : World} (h : Keeps M a b) (k : Keeps M b c) : Keeps M a c :=
  ⟨k.os.trans h.os, k.tape.trans h.tape, k.output.trans h.output, Nat.le_trans h.size k.size, fun i hi hm => (k.block i (Nat.lt_of_lt_of_le hi h.size) hm).trans (h.block i hi hm)⟩
theorem Keeps.mono {M N : List Nat} {w w' : World} (h : Keeps M w w') (hs : ∀ k, k ∈ M → k ∈ N) : Keeps N w w' :=
  ⟨h.os, h.tape, h.output, h.size, fun k hk hm => h.block k hk (fun hk' => hm (hs k hk'))⟩
theorem Keeps.of_below {M : List Nat} {w w' : World} (h : Below w.heap.size w w') : Keeps M w w' := ⟨h.os, h.tape, h.output, h.size, fun k hk _ => h.block k hk⟩
/-- Where all that may have turned is new, nothing old has. -/
theorem Keeps.below {M : List Nat} {w w' : World} {B : Nat} (h : Keeps M w w') (hB : B ≤ w.heap.size) (hM : ∀ k, k ∈ M → B ≤ k) : Below B w w' :=
  ⟨h.os, h.tape, h.output, h.size, fun k hk => h.block k (Nat.lt_of_lt_of_le hk hB) (fun hm => by have := hM k hm; omega)⟩
theorem Keeps.alloc {M : List Nat} {a w : World} (h : Keeps M a w) (o : Obj) : Keeps M a (w.alloc o) := h.trans (Keeps.of_below ((Below.refl _ _).alloc (Nat.le_refl _) o))
theorem Keeps.drew {M : List Nat} {a w : World} (h : Keeps M a w) : Keeps M a w.drew := ⟨h.os, h.tape, h.output, h.size, h.block⟩
theorem Keeps.drewN {M : List Nat} {a w : World} (h : Keeps M a w) (n : Nat) : Keeps M a (w.drewN n) := ⟨h.os, h.tape, h.output, h.size, h.block⟩
theorem Keeps.setCell {M : List Nat} {a w : World} (h : Keeps M a w) {p : Addr} (hp : p.block ∈ M) (u : Value) : Keeps M a (w.setCell p u) :=
  h.trans ⟨rfl, rfl, rfl, by simp [World.setCell], fun k _ hm => heap_setCell_other w p k u (fun e => hm (e ▸ hp))⟩
theorem Keeps.grown {M : List Nat} {a w w' : World} {row : Option Nat} (h : Keeps M a w) (hg : w.grownBy w' row) (hr : ∀ k, row = some k → k ∈ M ∨ a.heap.size ≤ k) : Keeps M a w' :=
  ⟨hg.os.trans h.os, hg.tape.trans h.tape, hg.output.trans h.output, Nat.le_trans h.size hg.size, fun k hk hm => by
    rw [hg.block k (Nat.lt_of_lt_of_le hk h.size) (fun e => by rcases hr k e.symm with h' | h'; exact hm h'; omega)]
    exact h.block k hk hm⟩
theorem RowT.keeps {M : List Nat} {w w' : World} {t g : Nat} {xs : List Value} (h : RowT w t g xs) (hk : Keeps M w w') (hg : g ∉ M) : RowT w' t g xs := by
  have hl := h.lt
  unfold RowT at h ⊢
  rw [hk.block g hl hg]; exact h
theorem RowT.below {w w' : World} {t g : Nat} {xs : List Value} (h : RowT w t g xs) (hb : Below w.heap.size w w') : RowT w' t g xs := h.keeps (M := []) (Keeps.of_below hb) (by simp)
theorem RowT.alloc {w : World} {t g : Nat} {xs : List Value} (h : RowT w t g xs) (o : Obj) : RowT (w.alloc o) t g xs := h.below ((Below.refl _ _).alloc (Nat.le_refl _) o)
theorem RowT.new (w : World) (t : Nat) (xs : List Value) : RowT (w.alloc (.cells xs.toArray t)) t w.heap.size xs := heap_alloc_new w _
theorem Keeps.cell {M : List Nat} {w w' : World} (h : Keeps M w w') {p : Addr} (hp : p.block < w.heap.size) (hm : p.block ∉ M) : w'.cell? p = w.cell? p := World.cell?_of_block (w := w) (h.block p.block hp hm)

/-- A list of texts lies in the world, in blocks that are not among the listed ones. -/
def StrsAt (w : World) (M : List Nat) (a : Option Addr) (ss : List ByteArray) : Prop :=
  ss = [] ∨ ∃ b off, a = some ⟨b, off, none⟩ ∧ b < w.heap.size ∧ b ∉ M ∧ ∀ i (h : i < ss.length), w.cell? ⟨b, off + i, none⟩ = some (.string ss[i])
theorem StrsAt.keeps {M : List Nat} {w w' : World} {a : Option Addr} {ss : List ByteArray} (h : StrsAt w M a ss) (hk : Keeps M w w') : StrsAt w' M a ss := by
  rcases h with h | ⟨b, off, h1, h2, h3, h4⟩
  · exact Or.inl h
  · refine Or.inr ⟨b, off, h1, Nat.lt_of_lt_of_le h2 hk.size, h3, fun i hi => ?_⟩
    rw [hk.cell (p := ⟨b, off + i, none⟩) h2 h3]; exact h4 i hi

end Go.Proofs.YtcepppilgncdmaaGreatDoor

namespace Go.Proofs.YtcepppilgncdmaaGreatDoor
open Go.RowKit

theorem own_mono {w : World} {b c e size n : Nat} {v : Value} {xs : List Value} (h : w.ownsRow b e size v n xs) (hc : c ≤ b) : w.ownsRow c e size v n xs :=
  ⟨h.1, h.2.imp id fun ⟨g, cap, cur, h1, h2, h3⟩ => ⟨g, cap, cur, h1, Nat.le_trans hc h2, h3⟩⟩
theorem own_prefix {w : World} {b e size g cap n m : Nat} {xs ys : List Value} (h : w.ownsRow b e size (.slice (some ⟨g, 0, none⟩) (n + m) cap) (n + m) (xs ++ ys)) (hx : xs.length = n * size) : w.ownsRow b e size (.slice (some ⟨g, 0, none⟩) n cap) n xs := by
  rcases h.2 with ⟨h0, _⟩ | ⟨g', cap', cur, hv, hb, hh, hn, hc, hs, ht⟩
  · cases h0
  · cases hv
    refine ⟨hx, Or.inr ⟨g, cap, cur, rfl, hb, hh, by omega, hc, hs, ?_⟩⟩
    have h2 : (cur.toList.take ((n + m) * size)).take (n * size) = (xs ++ ys).take (n * size) := by rw [ht]
    rw [List.take_take, Nat.min_eq_left (Nat.mul_le_mul_right _ (by omega)), ← hx] at h2
    rw [← hx, h2]
    exact List.take_left
theorem grown_any {w w' : World} {row : Option Nat} (h : w.grownBy w' none) : w.grownBy w' row := ⟨h.os, h.tape, h.output, h.size, fun k hk _ => h.block k hk (by simp)⟩

section
variable {P : Program} (w : World)
theorem run_append_both (t ty : TypeId) (base : Nat) (e : TypeId) (i : TypeInfo) (z : Value) (size bytes : Nat) (ht : P.underlying t = some (.slice e)) (hi : P.info? e = some i) (hz : i.zero = some z)
    (hsize : i.size = size) (hby : i.bytes = bytes) (hzs : z.cells.size = size) (hsz : 0 < size)
    (v : Value) (n : Nat) (xs : List Value) (hown : w.ownsRow base e size v n xs)
    (ad : Addr) (m c : Nat) (news : List Value) (hl : news.length = m * size) (hnews : ∀ j u, news[j]? = some u → w.cell? (ad.add j) = some u) (h1 : ∀ u ∈ news, u.oneCell' = true)
    (hm : 0 < m) (h63 : n + m ≤ maxLen) (hbytes : (n + m) * bytes ≤ 140737488355328) (hbase : base ≤ w.heap.size) :
    ∃ g cap w', (Builtin.append_ #[t, t] ty #[v, .slice (some ad) m c]).run P w = .ok (.slice (some ⟨g, 0, none⟩) (n + m) cap) w' ∧
      w'.ownsRow base e size (.slice (some ⟨g, 0, none⟩) (n + m) cap) (n + m) (xs ++ news) ∧ w.grownBy w' v.ownBlock ∧ g < w'.heap.size ∧ (v = .slice (some ⟨g, 0, none⟩) n cap ∨ (w.heap.size ≤ g ∧ w.grownBy w' none)) := by
  rcases hown.2 with ⟨rfl, rfl⟩ | ⟨g0, cap0, cur, rfl, hb, hh, hn, hc, hs, htk⟩
  · obtain ⟨g, cap, w', h2, h3, h4, h5, h6⟩ := run_append_lies (P := P) w t ty base e i z size bytes ht hi hz hsize hby hzs hsz (.slice none 0 0) 0 xs hown ad m c news hl hnews h1 hm h63 hbytes hbase w.heap.size rfl
    refine ⟨g, cap, w', h2, h3, h4, h6, Or.inr ⟨?_, h4⟩⟩
    rcases h5 with h5 | h5
    · cases h5
    · omega
  · by_cases hr : n + m ≤ cap0
    · obtain ⟨w', h2, h3, h4⟩ := run_append_fits (P := P) w base t ty e i size ht hi hsize g0 n cap0 xs hown ad m c news hl hnews h1 hr
      obtain ⟨_, _, hv, _, hlt⟩ := h3.form (by omega)
      cases hv
      exact ⟨g0, cap0, w', h2, h3, h4, hlt, Or.inl rfl⟩
    · obtain ⟨v', w', h2, h3, h4⟩ := run_append_arg_grows (P := P) w t ty e i z size bytes ht hi hz hsize hby hzs hsz ⟨g0, 0, none⟩ n cap0 xs hown.1 (hown.cells (g := g0) rfl) ad m c news hl hnews (by omega) h63 hbytes
      obtain ⟨g, cap, rfl, hge, hlt⟩ := h3.form (by omega)
      exact ⟨g, cap, w', h2, own_mono h3 hbase, grown_any h4, hlt, Or.inr ⟨hge, h4⟩⟩

/-- At the list of a plain region's operations. -/
theorem wpList_append_both {ops : Array Oper} {rest : List Oper} {o : Oper} {a : Act} {Q : Exit → Act → World → Prop} (hgd : o.guard = none) (s x : Operand) (t : TypeId)
    (ho : o.op = .call { callee := .builtin .append, args := #[s, x], argTypes := #[t, t] })
    (base : Nat) (e : TypeId) (i : TypeInfo) (z : Value) (size bytes : Nat) (ht : P.underlying t = some (.slice e)) (hi : P.info? e = some i) (hz : i.zero = some z)
    (hsize : i.size = size) (hby : i.bytes = bytes) (hzs : z.cells.size = size) (hsz : 0 < size)
    (v : Value) (n : Nat) (xs : List Value) (hs : a.eval s = v) (hown : w.ownsRow base e size v n xs)
    (ad : Addr) (m c : Nat) (news : List Value) (hx : a.eval x = .slice (some ad) m c) (hl : news.length = m * size) (hnews : ∀ j u, news[j]? = some u → w.cell? (ad.add j) = some u) (h1 : ∀ u ∈ news, u.oneCell' = true)
    (hm : 0 < m) (h63 : n + m ≤ maxLen) (hbytes : (n + m) * bytes ≤ 140737488355328) (hbase : base ≤ w.heap.size)
    (h : ∀ g cap w', w'.ownsRow base e size (.slice (some ⟨g, 0, none⟩) (n + m) cap) (n + m) (xs ++ news) → w.grownBy w' v.ownBlock → g < w'.heap.size → (v = .slice (some ⟨g, 0, none⟩) n cap ∨ (w.heap.size ≤ g ∧ w.grownBy w' none)) → wpList P ops Q rest (a.put o.dst (.slice (some ⟨g, 0, none⟩) (n + m) cap)) w') : wpList P ops Q (o :: rest) a w := by
  obtain ⟨g, cap, w', hr, h2, h3, h4, h5⟩ := run_append_both (P := P) w t o.type base e i z size bytes ht hi hz hsize hby hzs hsz v n xs hown ad m c news hl hnews h1 hm h63 hbytes hbase
  refine wpList_plain hgd fun _ hK => ?_
  unfold Oper.wp execOp
  simp only [ho, resolve, invoke, builtin, Sem.run_bind, Sem.run_pure, Result.andThen_ok, List.map_toArray, List.map_cons, List.map_nil, hs, hx, hr]
  exact hK _ _ (h g cap w' h2 h3 h4 h5)
end

/-- So many marks, one behind the other. -/
def reps (mk : List Value) : Nat → List Value
  | 0 => []
  | n + 1 => reps mk n ++ mk
theorem reps_length (mk : List Value) (n : Nat) : (reps mk n).length = n * mk.length := by
  induction n with
  | zero => simp [reps]
  | succ n ih => simp only [reps, List.length_append, ih]; rw [Nat.succ_mul]
theorem reps_add (mk : List Value) (n m : Nat) : reps mk (n + m) = reps mk n ++ reps mk m := by
  induction m with
  | zero => simp [reps]
  | succ m ih => rw [← Nat.add_assoc]; simp only [reps, ih, List.append_assoc]
/-- A list of marks, behind an append of as many marks or more to a list that it may share a block with, is still one. -/
theorem marks_stay {w w' : World} {b d e size g cap n m k : Nat} {mk : List Value} {v u : Value} (hmk : mk.length = size) (hu : w.ownsRow b e size u k (reps mk k)) (hg : w.grownBy w' v.ownBlock)
    (hn : w'.ownsRow d e size (.slice (some ⟨g, 0, none⟩) (n + m) cap) (n + m) (reps mk n ++ reps mk m)) (hor : v = .slice (some ⟨g, 0, none⟩) n cap ∨ (w.heap.size ≤ g ∧ w.grownBy w' none))
    (hs : ∀ q, u.ownBlock = some q → v.ownBlock = some q → k ≤ n + m ∧ ∃ c, v = .slice (some ⟨q, 0, none⟩) n c ∧ u = .slice (some ⟨q, 0, none⟩) k c) : w'.ownsRow b e size u k (reps mk k) := by
  cases hub : u.ownBlock with
  | none => exact hu.kept hg (Or.inl hub)
  | some q =>
    by_cases hq : v.ownBlock = some q
    · rcases hor with h1 | ⟨_, h1⟩
      · obtain ⟨hk, c, hv2, hu2⟩ := hs q hub hq
        rw [h1] at hv2
        cases hv2
        subst hu2
        rw [← reps_add] at hn
        obtain ⟨m', hm'⟩ : ∃ m', n + m = k + m' := ⟨n + m - k, by omega⟩
        rw [hm', reps_add] at hn
        have h2 := own_prefix hn (by rw [reps_length, hmk])
        refine ⟨h2.1, h2.2.imp id ?_⟩
        rintro ⟨g', cap', cur, h3, _, h4⟩
        cases h3
        refine ⟨g, cap, cur, rfl, ?_, h4⟩
        rcases hu.2 with ⟨h5, _⟩ | ⟨g2, _, _, h5, h6, _⟩
        · cases h5
        · cases h5; exact h6
      · exact hu.kept h1 (Or.inr (by rw [hub]; simp))
    · exact hu.kept hg (Or.inr (fun e1 => hq (by rw [← hub, e1])))
end Go.Proofs.YtcepppilgncdmaaGreatDoor

namespace Go.Proofs
open Go.Shelf
def Tryz.lays170_ren : Go.Shelf.Ren := ⟨fun | 170 => 205 | n => n, fun | 70 => 219 | 3 => 3 | 0 => 0 | 72 => 221 | 37 => 30 | 5 => 5 | n => n, fun | n => n⟩
theorem Tryz.lays170 : Go.Proofs.Lays.n170 Tryz.prog Tryz.lays170_ren := {
  mixed := by kernel_rfl
  f170 := Tryz.func205.trans (congrArg some (by kernel_rfl))
  t0 := Tryz.underlying0
  a0 := Tryz.isAgg0
  z0 := Tryz.sizeOf0
  v0 := Tryz.zeroValue0
  t3 := Tryz.underlying3
  a3 := Tryz.isAgg3
  z3 := Tryz.sizeOf3
  v3 := Tryz.zeroValue3
  t37 := Tryz.underlying30
  a37 := Tryz.isAgg30
  z37 := Tryz.sizeOf30
  v37 := Tryz.zeroValue30
  t70 := Tryz.underlying219
  a70 := Tryz.isAgg219
  z70 := Tryz.sizeOf219
  v70 := Tryz.zeroValue219
  t72 := Tryz.underlying221
  a72 := Tryz.isAgg221
  z72 := Tryz.sizeOf221
  v72 := Tryz.zeroValue221 }
def Tryz.lays169_ren : Go.Shelf.Ren := ⟨fun | 169 => 154 | n => n, fun | 70 => 219 | 9 => 9 | 0 => 0 | 72 => 221 | 37 => 30 | 127 => 229 | 3 => 3 | 5 => 5 | n => n, fun | n => n⟩
theorem Tryz.lays169 : Go.Proofs.Lays.n169 Tryz.prog Tryz.lays169_ren := {
  mixed := by kernel_rfl
  f169 := Tryz.func154.trans (congrArg some (by kernel_rfl))
  t0 := Tryz.underlying0
  a0 := Tryz.isAgg0
  z0 := Tryz.sizeOf0
  v0 := Tryz.zeroValue0
  t3 := Tryz.underlying3
  a3 := Tryz.isAgg3
  z3 := Tryz.sizeOf3
  v3 := Tryz.zeroValue3
  t9 := Tryz.underlying9
  a9 := Tryz.isAgg9
  z9 := Tryz.sizeOf9
  v9 := Tryz.zeroValue9
  t37 := Tryz.underlying30
  a37 := Tryz.isAgg30
  z37 := Tryz.sizeOf30
  v37 := Tryz.zeroValue30
  t70 := Tryz.underlying219
  a70 := Tryz.isAgg219
  z70 := Tryz.sizeOf219
  v70 := Tryz.zeroValue219
  t72 := Tryz.underlying221
  a72 := Tryz.isAgg221
  z72 := Tryz.sizeOf221
  v72 := Tryz.zeroValue221
  t127 := Tryz.underlying229
  a127 := Tryz.isAgg229
  z127 := Tryz.sizeOf229
  v127 := Tryz.zeroValue229 }
theorem Tryz.Builder_Extra_169 : Builder.Extra Tryz.prog Tryz.lays169_ren := {
  sizeBuilder := by kernel_rfl
  liesBuilder := by kernel_rfl
  t5 := Tryz.underlying5
  a5 := Tryz.isAgg5
  z5 := Tryz.sizeOf5
  v5 := Tryz.zeroValue5
  infoByte := by kernel_rfl
  cellsByte := by kernel_rfl
  sizeByte := by kernel_rfl
  neB5 := by decide }
def Tryz.lays161_ren : Go.Shelf.Ren := ⟨fun | 161 => 117 | 231 => 147 | 227 => 148 | 233 => 149 | 235 => 150 | 228 => 167 | 197 => 138 | 151 => 168 | 260 => 157 | 152 => 175 | 137 => 178 | 119 => 179 | 224 => 160 | 225 => 159 | 217 => 158 | 266 => 171 | n => n, fun | 9 => 9 | 4 => 4 | 3 => 3 | 5 => 5 | 117 => 214 | 116 => 213 | 0 => 0 | 124 => 217 | 105 => 198 | 21 => 21 | 119 => 230 | 46 => 226 | 139 => 233 | 138 => 232 | n => n, fun | 3 => 1 | 4 => 2 | n => n⟩
theorem Tryz.lays161 : Go.Proofs.Lays.n161 Tryz.prog Tryz.lays161_ren := {
  mixed := by kernel_rfl
  f119 := Tryz.func179.trans (congrArg some (by kernel_rfl))
  f137 := Tryz.func178.trans (congrArg some (by kernel_rfl))
  f151 := Tryz.func168.trans (congrArg some (by kernel_rfl))
  f152 := Tryz.func175.trans (congrArg some (by kernel_rfl))
  f161 := Tryz.func117.trans (congrArg some (by kernel_rfl))
  f197 := Tryz.func138.trans (congrArg some (by kernel_rfl))
  f217 := Tryz.func158.trans (congrArg some (by kernel_rfl))
  f224 := Tryz.func160.trans (congrArg some (by kernel_rfl))
  f225 := Tryz.func159.trans (congrArg some (by kernel_rfl))
  f227 := Tryz.func148.trans (congrArg some (by kernel_rfl))
  f228 := Tryz.func167.trans (congrArg some (by kernel_rfl))
  f231 := Tryz.func147.trans (congrArg some (by kernel_rfl))
  f233 := Tryz.func149.trans (congrArg some (by kernel_rfl))
  f235 := Tryz.func150.trans (congrArg some (by kernel_rfl))
  f260 := Tryz.func157.trans (congrArg some (by kernel_rfl))
  f266 := Tryz.func171.trans (congrArg some (by kernel_rfl))
  t0 := Tryz.underlying0
  a0 := Tryz.isAgg0
  z0 := Tryz.sizeOf0
  v0 := Tryz.zeroValue0
  t3 := Tryz.underlying3
  a3 := Tryz.isAgg3
  z3 := Tryz.sizeOf3
  v3 := Tryz.zeroValue3
  t4 := Tryz.underlying4
  a4 := Tryz.isAgg4
  z4 := Tryz.sizeOf4
  v4 := Tryz.zeroValue4
  t5 := Tryz.underlying5
  a5 := Tryz.isAgg5
  z5 := Tryz.sizeOf5
  v5 := Tryz.zeroValue5
  t9 := Tryz.underlying9
  a9 := Tryz.isAgg9
  z9 := Tryz.sizeOf9
  v9 := Tryz.zeroValue9
  t21 := Tryz.underlying21
  a21 := Tryz.isAgg21
  z21 := Tryz.sizeOf21
  v21 := Tryz.zeroValue21
  t46 := Tryz.underlying226
  a46 := Tryz.isAgg226
  z46 := Tryz.sizeOf226
  v46 := Tryz.zeroValue226
  t105 := Tryz.underlying198
  a105 := Tryz.isAgg198
  z105 := Tryz.sizeOf198
  v105 := Tryz.zeroValue198
  t116 := Tryz.underlying213
  a116 := Tryz.isAgg213
  z116 := Tryz.sizeOf213
  t117 := Tryz.underlying214
  a117 := Tryz.isAgg214
  z117 := Tryz.sizeOf214
  v117 := Tryz.zeroValue214
  t119 := Tryz.underlying230
  a119 := Tryz.isAgg230
  z119 := Tryz.sizeOf230
  t124 := Tryz.underlying217
  a124 := Tryz.isAgg217
  z124 := Tryz.sizeOf217
  v124 := Tryz.zeroValue217
  t138 := Tryz.underlying232
  a138 := Tryz.isAgg232
  z138 := Tryz.sizeOf232
  v138 := Tryz.zeroValue232
  t139 := Tryz.underlying233
  a139 := Tryz.isAgg233
  z139 := Tryz.sizeOf233
  v139 := Tryz.zeroValue233
  g3 := by kernel_rfl
  g4 := by kernel_rfl }
open Go.RowKit in
theorem Tryz.strings_TrimLeft_one (s : ByteArray) (c : UInt8) (hc : c.toNat < 128) (w : World) :
    Calls Tryz.prog 117 #[.string s, .string ⟨#[c]⟩] w fun e w' => e = .returned (.string ⟨(Lib.trimLeftB s.data.toList c).toArray⟩) ∧ w' = w := Any.strings_TrimLeft_one Tryz.lays161 s c hc w
def Tryz.lays104_ren : Go.Shelf.Ren := ⟨fun | 104 => 77 | 211 => 118 | 207 => 151 | n => n, fun | 9 => 9 | 4 => 4 | 24 => 151 | 3 => 3 | n => n, fun | n => n⟩
theorem Tryz.lays104 : Go.Proofs.Lays.n104 Tryz.prog Tryz.lays104_ren := {
  mixed := by kernel_rfl
  f104 := Tryz.func77.trans (congrArg some (by kernel_rfl))
  f207 := Tryz.func151.trans (congrArg some (by kernel_rfl))
  f211 := Tryz.func118.trans (congrArg some (by kernel_rfl))
  t3 := Tryz.underlying3
  a3 := Tryz.isAgg3
  z3 := Tryz.sizeOf3
  v3 := Tryz.zeroValue3
  t4 := Tryz.underlying4
  a4 := Tryz.isAgg4
  z4 := Tryz.sizeOf4
  v4 := Tryz.zeroValue4
  t9 := Tryz.underlying9
  a9 := Tryz.isAgg9
  z9 := Tryz.sizeOf9
  v9 := Tryz.zeroValue9
  t24 := Tryz.underlying151
  a24 := Tryz.isAgg151
  z24 := Tryz.sizeOf151
  v24 := Tryz.zeroValue151 }
open Go.RowKit in
theorem Tryz.strings_CutSuffix (s p : ByteArray) (w : World) (hs : s.size ≤ 9223372036854775807) :
    Calls Tryz.prog 77 #[.string s, .string p] w fun e w' => e = .returned (.tuple #[.string ⟨(Lib.trimSuffix s.data.toList p.data.toList).toArray⟩, .bool (Lib.hasSuffix s.data.toList p.data.toList)]) ∧ w' = w := Any.strings_CutSuffix Tryz.lays104 s p w hs
open Go.RowKit in
theorem Tryz.Builder_Len_f (B b : Nat) (bs : List Value) (w : World) (h : Lib.IsBuilderF 221 5 B b bs w) :
    Calls Tryz.prog 205 #[.pointer (some ⟨b, 0, none⟩)] w fun e w' => e = .returned (.int .i64 bs.length) ∧ w' = w := Any.Builder_Len_f Tryz.lays170 B b bs w h
open Go.RowKit in
theorem Tryz.Builder_String_any_f (B b : Nat) (l : List UInt8) (w : World) (h : Lib.IsBuilderF 221 5 B b (Lib.byteCells l) w) (hBw : B ≤ w.heap.size) :
    Calls Tryz.prog 154 #[.pointer (some ⟨b, 0, none⟩)] w fun e w' => e = .returned (.string ⟨l.toArray⟩) ∧ (Lib.IsBuilderF 221 5 B b (Lib.byteCells l) w' ∧ Below B w w') := Any.Builder_String_any_f Tryz.lays169 Tryz.Builder_Extra_169 B b l w h hBw
def Tryz.lays145_ren : Go.Shelf.Ren := ⟨fun | 145 => 116 | 220 => 146 | 219 => 140 | 217 => 158 | 225 => 159 | 224 => 160 | 267 => 161 | 266 => 171 | 314 => 172 | n => n, fun | 9 => 9 | 4 => 4 | 59 => 180 | 3 => 3 | 5 => 5 | 46 => 226 | 146 => 235 | 51 => 234 | n => n, fun | 1 => 0 | n => n⟩
theorem Tryz.lays145 : Go.Proofs.Lays.n145 Tryz.prog Tryz.lays145_ren := {
  mixed := by kernel_rfl
  f145 := Tryz.func116.trans (congrArg some (by kernel_rfl))
  f217 := Tryz.func158.trans (congrArg some (by kernel_rfl))
  f219 := Tryz.func140.trans (congrArg some (by kernel_rfl))
  f220 := Tryz.func146.trans (congrArg some (by kernel_rfl))
  f224 := Tryz.func160.trans (congrArg some (by kernel_rfl))
  f225 := Tryz.func159.trans (congrArg some (by kernel_rfl))
  f266 := Tryz.func171.trans (congrArg some (by kernel_rfl))
  f267 := Tryz.func161.trans (congrArg some (by kernel_rfl))
  f314 := Tryz.func172.trans (congrArg some (by kernel_rfl))
  t3 := Tryz.underlying3
  a3 := Tryz.isAgg3
  z3 := Tryz.sizeOf3
  v3 := Tryz.zeroValue3
  t4 := Tryz.underlying4
  a4 := Tryz.isAgg4
  z4 := Tryz.sizeOf4
  v4 := Tryz.zeroValue4
  t5 := Tryz.underlying5
  a5 := Tryz.isAgg5
  z5 := Tryz.sizeOf5
  v5 := Tryz.zeroValue5
  t9 := Tryz.underlying9
  a9 := Tryz.isAgg9
  z9 := Tryz.sizeOf9
  v9 := Tryz.zeroValue9
  t46 := Tryz.underlying226
  a46 := Tryz.isAgg226
  z46 := Tryz.sizeOf226
  v46 := Tryz.zeroValue226
  t51 := Tryz.underlying234
  a51 := Tryz.isAgg234
  z51 := Tryz.sizeOf234
  v51 := Tryz.zeroValue234
  t59 := Tryz.underlying180
  a59 := Tryz.isAgg180
  z59 := Tryz.sizeOf180
  v59 := Tryz.zeroValue180
  t146 := Tryz.underlying235
  a146 := Tryz.isAgg235
  z146 := Tryz.sizeOf235
  v146 := Tryz.zeroValue235
  g1 := by kernel_rfl }
open Go.RowKit Go.Lib in
theorem Tryz.strings_Cut (s sep : ByteArray) (m : Int) (w : World) (hs : s.size < 4294967281) (hm : w.cell? ⟨0, 0, none⟩ = some (.int .i64 m)) :
    Calls Tryz.prog 116 #[.string s, .string sep] w fun e w' => e = .returned (.tuple #[.string ⟨(Lib.cut s.data.toList sep.data.toList).1.toArray⟩, .string ⟨(Lib.cut s.data.toList sep.data.toList).2.1.toArray⟩, .bool (Lib.cut s.data.toList sep.data.toList).2.2]) ∧ ∃ n, w' = w.drewN n := Any.strings_Cut Tryz.lays145 s sep m w hs hm
def Tryz.lays99_ren : Go.Shelf.Ren := ⟨fun | 99 => 206 | 206 => 207 | n => n, fun | 9 => 9 | 4 => 4 | 3 => 3 | n => n, fun | n => n⟩
theorem Tryz.lays99 : Go.Proofs.Lays.n99 Tryz.prog Tryz.lays99_ren := {
  mixed := by kernel_rfl
  f99 := Tryz.func206.trans (congrArg some (by kernel_rfl))
  f206 := Tryz.func207.trans (congrArg some (by kernel_rfl))
  t3 := Tryz.underlying3
  a3 := Tryz.isAgg3
  z3 := Tryz.sizeOf3
  v3 := Tryz.zeroValue3
  t4 := Tryz.underlying4
  a4 := Tryz.isAgg4
  z4 := Tryz.sizeOf4
  v4 := Tryz.zeroValue4
  t9 := Tryz.underlying9
  a9 := Tryz.isAgg9
  z9 := Tryz.sizeOf9
  v9 := Tryz.zeroValue9 }
open Go.RowKit Go.Lib in
theorem Tryz.strings_HasPrefix (s p : ByteArray) (w : World) :
    Calls Tryz.prog 206 #[.string s, .string p] w fun e w' => e = .returned (.bool (Lib.hasPrefix s.data.toList p.data.toList)) ∧ w' = w := Any.strings_HasPrefix Tryz.lays99 s p w
def Tryz.lays146_ren : Go.Shelf.Ren := ⟨fun | 146 => 44 | 221 => 69 | 268 => 103 | 138 => 104 | 143 => 105 | 195 => 137 | 197 => 138 | 218 => 139 | 219 => 140 | 260 => 157 | 217 => 158 | 225 => 159 | 224 => 160 | 267 => 161 | 266 => 171 | 314 => 172 | n => n, fun | 9 => 9 | 31 => 65 | 3 => 3 | 4 => 4 | 0 => 0 | 105 => 198 | 21 => 21 | 5 => 5 | 46 => 226 | 119 => 230 | 139 => 233 | 138 => 232 | 146 => 235 | 51 => 234 | n => n, fun | 1 => 0 | 3 => 1 | 4 => 2 | n => n⟩
theorem Tryz.lays146 : Go.Proofs.Lays.n146 Tryz.prog Tryz.lays146_ren := {
  mixed := by kernel_rfl
  f138 := Tryz.func104.trans (congrArg some (by kernel_rfl))
  f143 := Tryz.func105.trans (congrArg some (by kernel_rfl))
  f146 := Tryz.func44.trans (congrArg some (by kernel_rfl))
  f195 := Tryz.func137.trans (congrArg some (by kernel_rfl))
  f197 := Tryz.func138.trans (congrArg some (by kernel_rfl))
  f217 := Tryz.func158.trans (congrArg some (by kernel_rfl))
  f218 := Tryz.func139.trans (congrArg some (by kernel_rfl))
  f219 := Tryz.func140.trans (congrArg some (by kernel_rfl))
  f221 := Tryz.func69.trans (congrArg some (by kernel_rfl))
  f224 := Tryz.func160.trans (congrArg some (by kernel_rfl))
  f225 := Tryz.func159.trans (congrArg some (by kernel_rfl))
  f260 := Tryz.func157.trans (congrArg some (by kernel_rfl))
  f266 := Tryz.func171.trans (congrArg some (by kernel_rfl))
  f267 := Tryz.func161.trans (congrArg some (by kernel_rfl))
  f268 := Tryz.func103.trans (congrArg some (by kernel_rfl))
  f314 := Tryz.func172.trans (congrArg some (by kernel_rfl))
  t0 := Tryz.underlying0
  a0 := Tryz.isAgg0
  z0 := Tryz.sizeOf0
  v0 := Tryz.zeroValue0
  t3 := Tryz.underlying3
  a3 := Tryz.isAgg3
  z3 := Tryz.sizeOf3
  v3 := Tryz.zeroValue3
  t4 := Tryz.underlying4
  a4 := Tryz.isAgg4
  z4 := Tryz.sizeOf4
  v4 := Tryz.zeroValue4
  t5 := Tryz.underlying5
  a5 := Tryz.isAgg5
  z5 := Tryz.sizeOf5
  v5 := Tryz.zeroValue5
  t9 := Tryz.underlying9
  a9 := Tryz.isAgg9
  z9 := Tryz.sizeOf9
  v9 := Tryz.zeroValue9
  t21 := Tryz.underlying21
  a21 := Tryz.isAgg21
  z21 := Tryz.sizeOf21
  v21 := Tryz.zeroValue21
  t31 := Tryz.underlying65
  a31 := Tryz.isAgg65
  z31 := Tryz.sizeOf65
  v31 := Tryz.zeroValue65
  t46 := Tryz.underlying226
  a46 := Tryz.isAgg226
  z46 := Tryz.sizeOf226
  v46 := Tryz.zeroValue226
  t51 := Tryz.underlying234
  a51 := Tryz.isAgg234
  z51 := Tryz.sizeOf234
  v51 := Tryz.zeroValue234
  t105 := Tryz.underlying198
  a105 := Tryz.isAgg198
  z105 := Tryz.sizeOf198
  v105 := Tryz.zeroValue198
  t119 := Tryz.underlying230
  a119 := Tryz.isAgg230
  z119 := Tryz.sizeOf230
  t138 := Tryz.underlying232
  a138 := Tryz.isAgg232
  z138 := Tryz.sizeOf232
  v138 := Tryz.zeroValue232
  t139 := Tryz.underlying233
  a139 := Tryz.isAgg233
  z139 := Tryz.sizeOf233
  v139 := Tryz.zeroValue233
  t146 := Tryz.underlying235
  a146 := Tryz.isAgg235
  z146 := Tryz.sizeOf235
  v146 := Tryz.zeroValue235
  g1 := by kernel_rfl
  g3 := by kernel_rfl
  g4 := by kernel_rfl }
open Go.RowKit Go.Lib in
theorem Tryz.strings_Split (s sep : ByteArray) (m : Int) (w : World) (hs : s.size < 4294967281) (hm : w.cell? ⟨0, 0, none⟩ = some (.int .i64 m)) (h1 : 1 ≤ sep.size) :
    Calls Tryz.prog 44 #[.string s, .string sep] w fun e w' =>
      e = .returned (.slice (some ⟨w.heap.size, 0, none⟩) (Lib.countB s sep + 1) (Lib.countB s sep + 1)) ∧ w' = w.alloc (.cells ((Lib.splitB sep 0 (Lib.countB s sep) s).map Value.string).toArray 9) := Any.strings_Split Tryz.lays146 (by kernel_rfl) s sep m w hs hm h1
def Tryz.lays155_ren : Go.Shelf.Ren := ⟨fun | 155 => 79 | 154 => 121 | 138 => 104 | 165 => 152 | 143 => 105 | 166 => 153 | 197 => 138 | 169 => 154 | 195 => 137 | 218 => 139 | 240 => 169 | 241 => 170 | 219 => 140 | 260 => 157 | 276 => 176 | 277 => 177 | 217 => 158 | 225 => 159 | 224 => 160 | 267 => 161 | 266 => 171 | 314 => 172 | n => n, fun | 9 => 9 | 3 => 3 | 4 => 4 | 72 => 221 | 0 => 0 | 76 => 224 | 105 => 198 | 21 => 21 | 5 => 5 | 70 => 219 | 20 => 20 | 37 => 30 | 75 => 223 | 127 => 229 | 164 => 239 | 46 => 226 | 119 => 230 | 139 => 233 | 138 => 232 | 146 => 235 | 51 => 234 | 80 => 210 | n => n, fun | 1 => 0 | 3 => 1 | 4 => 2 | n => n⟩
theorem Tryz.lays155 : Go.Proofs.Lays.n155 Tryz.prog Tryz.lays155_ren := {
  mixed := by kernel_rfl
  f138 := Tryz.func104.trans (congrArg some (by kernel_rfl))
  f143 := Tryz.func105.trans (congrArg some (by kernel_rfl))
  f154 := Tryz.func121.trans (congrArg some (by kernel_rfl))
  f155 := Tryz.func79.trans (congrArg some (by kernel_rfl))
  f165 := Tryz.func152.trans (congrArg some (by kernel_rfl))
  f166 := Tryz.func153.trans (congrArg some (by kernel_rfl))
  f169 := Tryz.func154.trans (congrArg some (by kernel_rfl))
  f195 := Tryz.func137.trans (congrArg some (by kernel_rfl))
  f197 := Tryz.func138.trans (congrArg some (by kernel_rfl))
  f217 := Tryz.func158.trans (congrArg some (by kernel_rfl))
  f218 := Tryz.func139.trans (congrArg some (by kernel_rfl))
  f219 := Tryz.func140.trans (congrArg some (by kernel_rfl))
  f224 := Tryz.func160.trans (congrArg some (by kernel_rfl))
  f225 := Tryz.func159.trans (congrArg some (by kernel_rfl))
  f240 := Tryz.func169.trans (congrArg some (by kernel_rfl))
  f241 := Tryz.func170.trans (congrArg some (by kernel_rfl))
  f260 := Tryz.func157.trans (congrArg some (by kernel_rfl))
  f266 := Tryz.func171.trans (congrArg some (by kernel_rfl))
  f267 := Tryz.func161.trans (congrArg some (by kernel_rfl))
  f276 := Tryz.func176.trans (congrArg some (by kernel_rfl))
  f277 := Tryz.func177.trans (congrArg some (by kernel_rfl))
  f314 := Tryz.func172.trans (congrArg some (by kernel_rfl))
  t0 := Tryz.underlying0
  a0 := Tryz.isAgg0
  z0 := Tryz.sizeOf0
  v0 := Tryz.zeroValue0
  t3 := Tryz.underlying3
  a3 := Tryz.isAgg3
  z3 := Tryz.sizeOf3
  v3 := Tryz.zeroValue3
  t4 := Tryz.underlying4
  a4 := Tryz.isAgg4
  z4 := Tryz.sizeOf4
  v4 := Tryz.zeroValue4
  t5 := Tryz.underlying5
  a5 := Tryz.isAgg5
  z5 := Tryz.sizeOf5
  v5 := Tryz.zeroValue5
  t9 := Tryz.underlying9
  a9 := Tryz.isAgg9
  z9 := Tryz.sizeOf9
  v9 := Tryz.zeroValue9
  t20 := Tryz.underlying20
  a20 := Tryz.isAgg20
  z20 := Tryz.sizeOf20
  v20 := Tryz.zeroValue20
  t21 := Tryz.underlying21
  a21 := Tryz.isAgg21
  z21 := Tryz.sizeOf21
  v21 := Tryz.zeroValue21
  t37 := Tryz.underlying30
  a37 := Tryz.isAgg30
  z37 := Tryz.sizeOf30
  v37 := Tryz.zeroValue30
  t46 := Tryz.underlying226
  a46 := Tryz.isAgg226
  z46 := Tryz.sizeOf226
  v46 := Tryz.zeroValue226
  t51 := Tryz.underlying234
  a51 := Tryz.isAgg234
  z51 := Tryz.sizeOf234
  v51 := Tryz.zeroValue234
  t70 := Tryz.underlying219
  a70 := Tryz.isAgg219
  z70 := Tryz.sizeOf219
  v70 := Tryz.zeroValue219
  t72 := Tryz.underlying221
  a72 := Tryz.isAgg221
  z72 := Tryz.sizeOf221
  v72 := Tryz.zeroValue221
  t75 := Tryz.underlying223
  a75 := Tryz.isAgg223
  z75 := Tryz.sizeOf223
  v75 := Tryz.zeroValue223
  t76 := Tryz.underlying224
  a76 := Tryz.isAgg224
  z76 := Tryz.sizeOf224
  v76 := Tryz.zeroValue224
  t105 := Tryz.underlying198
  a105 := Tryz.isAgg198
  z105 := Tryz.sizeOf198
  v105 := Tryz.zeroValue198
  t119 := Tryz.underlying230
  a119 := Tryz.isAgg230
  z119 := Tryz.sizeOf230
  t127 := Tryz.underlying229
  a127 := Tryz.isAgg229
  z127 := Tryz.sizeOf229
  v127 := Tryz.zeroValue229
  t138 := Tryz.underlying232
  a138 := Tryz.isAgg232
  z138 := Tryz.sizeOf232
  v138 := Tryz.zeroValue232
  t139 := Tryz.underlying233
  a139 := Tryz.isAgg233
  z139 := Tryz.sizeOf233
  v139 := Tryz.zeroValue233
  t146 := Tryz.underlying235
  a146 := Tryz.isAgg235
  z146 := Tryz.sizeOf235
  v146 := Tryz.zeroValue235
  t164 := Tryz.underlying239
  a164 := Tryz.isAgg239
  z164 := Tryz.sizeOf239
  v164 := Tryz.zeroValue239
  g1 := by kernel_rfl
  g3 := by kernel_rfl
  g4 := by kernel_rfl }
theorem Tryz.Builder_Extra_155 : Builder.Extra Tryz.prog Tryz.lays155_ren := {
  sizeBuilder := by kernel_rfl
  liesBuilder := by kernel_rfl
  t5 := Tryz.underlying5
  a5 := Tryz.isAgg5
  z5 := Tryz.sizeOf5
  v5 := Tryz.zeroValue5
  infoByte := by kernel_rfl
  cellsByte := by kernel_rfl
  sizeByte := by kernel_rfl
  neB5 := by decide }
open Go.RowKit Go.Lib in
theorem Tryz.strings_ReplaceAll (s old new : ByteArray) (m : Int) (w : World) (hs : s.size < 4294967281) (hm : w.cell? ⟨0, 0, none⟩ = some (.int .i64 m)) (h1 : 1 ≤ old.size) (hlen : s.size + Lib.countB s old * new.size ≤ 140737488355328) :
    Calls Tryz.prog 79 #[.string s, .string old, .string new] w fun e w' =>
      e = .returned (.string ⟨(Lib.replaceAll s.data.toList old.data.toList new.data.toList).toArray⟩) ∧ Below w.heap.size w w' := Any.strings_ReplaceAll Tryz.lays155 Tryz.Builder_Extra_155 s old new m w hs hm h1 hlen
def Tryz.lays110_ren : Go.Shelf.Ren := ⟨fun | 110 => 162 | 109 => 173 | n => n, fun | 31 => 65 | 9 => 9 | 4 => 4 | 3 => 3 | 0 => 0 | n => n, fun | n => n⟩
theorem Tryz.lays110 : Go.Proofs.Lays.n110 Tryz.prog Tryz.lays110_ren := {
  mixed := by kernel_rfl
  f109 := Tryz.func173.trans (congrArg some (by kernel_rfl))
  f110 := Tryz.func162.trans (congrArg some (by kernel_rfl))
  t0 := Tryz.underlying0
  a0 := Tryz.isAgg0
  z0 := Tryz.sizeOf0
  v0 := Tryz.zeroValue0
  t3 := Tryz.underlying3
  a3 := Tryz.isAgg3
  z3 := Tryz.sizeOf3
  v3 := Tryz.zeroValue3
  t4 := Tryz.underlying4
  a4 := Tryz.isAgg4
  z4 := Tryz.sizeOf4
  v4 := Tryz.zeroValue4
  t9 := Tryz.underlying9
  a9 := Tryz.isAgg9
  z9 := Tryz.sizeOf9
  v9 := Tryz.zeroValue9
  t31 := Tryz.underlying65
  a31 := Tryz.isAgg65
  z31 := Tryz.sizeOf65
  v31 := Tryz.zeroValue65 }
open Go.Lib in
theorem Tryz.slices_Contains_string (b off n c : Nat) (zs : List ByteArray) (x : ByteArray) (w : World) (hz : n ≤ zs.length) (hbig : n ≤ 9223372036854775807) (hc : ∀ j, j < zs.length → w.cell? ⟨b, off + j, none⟩ = some (.string (zs.getD j ByteArray.empty))) :
    Calls Tryz.prog 162 #[.slice (some ⟨b, off, none⟩) n c, .string x] w fun e w' => e = .returned (.bool (Lib.containsS (zs.take n) x)) ∧ w' = w := Any.slices_Contains_string Tryz.lays110 b off n c zs x w hz hbig hc
open Go.Lib in
theorem Tryz.slices_Contains_string_empty (a : Option Addr) (c : Nat) (x : ByteArray) (w : World) :
    Calls Tryz.prog 162 #[.slice a 0 c, .string x] w fun e w' => e = .returned (.bool false) ∧ w' = w := Any.slices_Contains_string_empty Tryz.lays110 a c x w
open Go.RowKit in
theorem Tryz.Builder_WriteString_f (B b : Nat) (bs : List Value) (s : ByteArray) (w : World) (h : Lib.IsBuilderF 221 5 B b bs w) (hlen : bs.length + s.size ≤ 140737488355328) (hBw : B ≤ w.heap.size) :
    Calls Tryz.prog 153 #[.pointer (some ⟨b, 0, none⟩), .string s] w fun e w' => e = .returned (.tuple #[.int .i64 s.size, .nilIface]) ∧ (Lib.BuilderAtF 221 5 B b (.pointer (some ⟨b, 0, none⟩)) (bs ++ Lib.strCells s) w' ∧ Below B w w') :=
  Any.Builder_WriteString_f (ρ := Tryz.lays155_ren) { Tryz.lays155 with } Tryz.Builder_Extra_155 B b bs s w h hlen hBw
end Go.Proofs
