/-
  What 'masonlaw.Expands' answers: true, whatever script it is given.
-/
import Derived.Test.YtcepppilgncdmaaGreatDoorPlays
import Derived.Test.YtcepppilgncdmaaGreatDoorBkStep
namespace Go.Proofs.YtcepppilgncdmaaGreatDoor
open Go.RowKit

set_option maxRecDepth 100000 in
set_option maxHeartbeats 1000000 in
theorem plays_expands (a : Option Addr) (cap : Nat) (os : List OpD) (w : World) (hl : os.length ≤ 1048576) (hat : OpsAt w a os) (hok : ∀ o ∈ os, OpOk w o) (hmax : MaxAt w) :
    Calls Tryz.prog 9 #[.slice a os.length cap, .int .i64 2, .int .i64 2] w fun e w' => e = .returned (.bool true) ∧ Below w.heap.size w w' := by
  have HAT := hid hat
  have HOK := hid hok
  have HMAX := hid hmax
  clear hat hok hmax
  obtain ⟨i0, hi0, hz0, hz1, hz2⟩ := info_parts infoOp
  go_enter Tryz.func9, Tryz.ntmps9
  go_upto_region 2 with (first | (go_at_call 17; refine (first_any _).mono ?_; rintro e w1 ⟨rfl, rfl⟩))
  have hown0 := owns_first w
  have hb0 : Below w.heap.size w (w.alloc (.cells firstCells.toArray 57)) := (Below.refl _ _).alloc (Nat.le_refl _) _
  have hsz0 : (w.alloc (.cells firstCells.toArray 57)).heap.size = w.heap.size + 1 := by simp
  generalize hw1 : w.alloc (.cells firstCells.toArray 57) = w1 at *
  have HB0 := hid hb0
  clear hw1 hb0
  go_cut [7] (fun v wx => ∃ g c, v = .slice (some ⟨g, 0, none⟩) (3 + os.length) c ∧ wx.ownsRow w.heap.size 57 4 (.slice (some ⟨g, 0, none⟩) (3 + os.length) c) (3 + os.length) (cellsO (firstOps ++ os)) ∧ Below w.heap.size w wx)
  case first =>
    rcases HAT.out with ⟨rfl, rfl⟩ | ⟨ad, rfl, hc⟩
    · go_wp2
      go_meet
      case rel => exact ⟨w.heap.size, 3, rfl, by simpa [firstOps_cells] using hown0, HB0.out⟩
    · have hc1 : ∀ j v, (cellsO os)[j]? = some v → w1.cell? (ad.add j) = some v := fun j v hv => by
        have h := hc j v hv
        rw [HB0.out.cell (p := ad.add j) (World.block_lt_of_cell? w _ h)]; exact h
      go_wp2_with ((at_builtin; refine wpList_append_own _ rfl (.tmp 13) (.tmp 14) 22 rfl w.heap.size 57 i0 _ 4 56 Tryz.underlying22 hi0 hz0 hz1 hz2 rfl (by omega) _ 3 firstCells rfl hown0 ad os.length cap (cellsO os) rfl (cellsO_length os) hc1 (cellsO_one os) (by unfold maxLen; omega) (by omega) (by omega) ?_; intro v' w2 hown2 hgrow2 hnil2; obtain ⟨g, c, hv, hgb, hgl⟩ := hown2.form (by omega); subst hv))
      go_meet
      case rel => exact ⟨g, c, rfl, by rw [cellsO_append, firstOps_cells]; exact hown2, HB0.out.grown hgrow2 HB0.out.size (fun k hk => by have h : some w.heap.size = some k := hk; injection h with h; omega)⟩
  case rest =>
    obtain ⟨g, c, rfl, hown, hbel⟩ := hcut
    have HOWN := hid hown
    have HBEL := hid hbel
    clear hown hbel hown0 HB0 hsz0 hi0 hz0 hz1 hz2 HAT
    obtain ⟨al, hal⟩ : ∃ al, firstOps ++ os = al := ⟨_, rfl⟩
    have hall : al.length = 3 + os.length := by rw [← hal, List.length_append]; rfl
    have hgok : ∀ o ∈ al, OpOk w o := by
      rw [← hal]
      intro o ho
      rcases List.mem_append.1 ho with h | h
      · exact firstOps_ok w o h
      · exact HOK.out o h
    have HGOK := hid hgok
    have HOWN1 := hid (show wc.ownsRow w.heap.size 57 4 (.slice (some ⟨g, 0, none⟩) (3 + os.length) c) (3 + os.length) (cellsO al) by rw [← hal]; exact HOWN.out)
    clear hal hgok HOWN HOK
    go_wp2_with fail
    have hkb : (wc.alloc (Obj.cells #[Value.slice none 0 0, Value.slice none 0 0, Value.slice none 0 0] 55)).cell? ⟨wc.heap.size, 0, none⟩ = some (.slice none 0 0) ∧ (wc.alloc (Obj.cells #[Value.slice none 0 0, Value.slice none 0 0, Value.slice none 0 0] 55)).cell? ⟨wc.heap.size, 1, none⟩ = some (.slice none 0 0) ∧ (wc.alloc (Obj.cells #[Value.slice none 0 0, Value.slice none 0 0, Value.slice none 0 0] 55)).cell? ⟨wc.heap.size, 2, none⟩ = some (.slice none 0 0) := ⟨by simp [go_sem], by simp [go_sem], by simp [go_sem]⟩
    have hkz : wc.heap.size < (wc.alloc (Obj.cells #[Value.slice none 0 0, Value.slice none 0 0, Value.slice none 0 0] 55)).heap.size := by simp
    have hownk := HOWN1.out.alloc (Obj.cells #[Value.slice none 0 0, Value.slice none 0 0, Value.slice none 0 0] 55)
    have hbk : Below w.heap.size w (wc.alloc (Obj.cells #[Value.slice none 0 0, Value.slice none 0 0, Value.slice none 0 0] 55)) := HBEL.out.alloc HBEL.out.size _
    have hrow := RowT.new wc 55 [Value.slice none 0 0, Value.slice none 0 0, Value.slice none 0 0]
    simp only [List.toArray] at hrow
    have hgk : g < wc.heap.size := (HOWN1.out.form (by omega)).elim fun _ h => h.elim fun _ h => by cases h.1; exact h.2.2
    have hwk0 : w.heap.size ≤ wc.heap.size := HBEL.out.size
    generalize wc.heap.size = kb at *
    generalize hwk : wc.alloc (Obj.cells #[Value.slice none 0 0, Value.slice none 0 0, Value.slice none 0 0] 55) = wk at *
    have HKB := hid hkb
    have HOWNK := hid hownk
    have HBK := hid hbk
    clear hkb hownk hbk HOWN1 hwk HBEL
    have hmg : 0 < w.heap.size := by
      obtain ⟨m, h1⟩ := HMAX.out
      exact World.block_lt_of_cell? _ _ h1
    have hbk0 : BookAt wk kb wk.heap.size kb (.slice none 0 0) (.slice none 0 0) (.slice none 0 0) [] := ⟨hrow, Nat.le_refl _, hkz, World.ownsRow_nil _ _ _ _, (fun q h => by cases h), (fun i u h => by simp at h)⟩
    have HBK0 := hid hbk0
    have HMK := hid (HMAX.out.below (HBK.out.mono (Nat.le_refl _)))
    clear hbk0 hrow
    go_loopw [9] (fun i wr => ∃ (j : Nat) (vb : Value) (us : List Value), j ≤ 3 + os.length ∧ i = .int .i64 j ∧ us.length % 4 = 0 ∧ us.length ≤ 4 * j ∧ BookAt wr kb wr.heap.size kb vb (.slice none 0 0) (.slice none 0 0) us ∧ Below kb wk wr) (fun i _ => 3 + os.length - (intOf i).toNat)
    case atStart => exact ⟨0, _, [], Nat.zero_le _, rfl, rfl, Nat.zero_le _, HBK0.out, Below.refl _ _⟩
    case round =>
      obtain ⟨j, vb, us, hj, rfl, hu4, huj, hbk, hbr⟩ := hrel
      have HBKR := hid hbk
      have HBR := hid hbr
      have hkr : kb < wr.heap.size := hbk.row.lt
      have HBW := hid (HBK.out.trans (hbr.mono hwk0))
      clear hbk hbr
      by_cases hlt : j < 3 + os.length
      · have d1 : decide ((j : Int) < 3 + (os.length : Int)) = true := by simp; omega
        have d2 : decide ((j : Int) < 288230376151711744) = true := by simp; omega
        obtain ⟨e0, e1, e2, e3⟩ := cellsO_at al j (by omega)
        have q0 := (HBR.out.cell (p := ⟨g, j * 4, none⟩) hgk).trans ((HOWNK.out.cellAt (j * 4) (by omega)).trans e0)
        have q1 := (HBR.out.cell (p := ⟨g, j * 4 + 1, none⟩) hgk).trans ((HOWNK.out.cellAt (j * 4 + 1) (by omega)).trans e1)
        have q2 := (HBR.out.cell (p := ⟨g, j * 4 + 2, none⟩) hgk).trans ((HOWNK.out.cellAt (j * 4 + 2) (by omega)).trans e2)
        have q3 := (HBR.out.cell (p := ⟨g, j * 4 + 3, none⟩) hgk).trans ((HOWNK.out.cellAt (j * 4 + 3) (by omega)).trans e3)
        have hop : OpOk w al[j] := HGOK.out _ (List.getElem_mem _)
        clear e0 e1 e2 e3
        obtain ⟨o, ho⟩ : ∃ o, al[j] = o := ⟨_, rfl⟩
        rw [ho] at q0 q1 q2 q3 hop
        clear ho
        obtain ⟨kind, A, S, la, lc, ns⟩ := o
        simp only at q0 q1 q2 q3
        have hs : S.size ≤ 140737488351232 := hop.1
        clear hop
        by_cases hk : kind = 2
        · subst hk
          go_wp2_with fail
          refine (step_exp wr kb kb vb us A S _ _ la ns.length lc hs (HMAX.out.below HBW.out) HBKR.out (by omega) hu4 (by omega)).mono ?_
          rintro e w5 ⟨rfl, vb', us', h1, h2, h3, h4⟩
          have HBK5 := hid h2
          have HB5 := hid (HBR.out.trans (h4.below (B := kb) (Nat.le_of_lt hkr) (fun k hk => by
            simp only [List.mem_cons, Option.mem_toList] at hk
            rcases hk with hk | hk
            · omega
            · exact own_ge HBKR.out.own hk)))
          have hul : (us ++ us').length = us.length + 4 := by rw [List.length_append, h1]
          generalize us ++ us' = us2 at *
          clear h1 h2 h3 h4
          go_wp2_with fail
          refine (looks_any w5 kb w5.heap.size kb vb' us2 HBK5.out (by unfold maxLen; omega)).mono ?_
          rintro e w6 ⟨rfl, rfl⟩
          go_wp2
          go_roundw
          case rel => exact ⟨j + 1, vb', us2, by omega, by go_num, by omega, by omega, HBK5.out, HB5.out⟩
          case measure => simp [intOf]; omega
        · by_cases hk1' : kind < 2
          · have t1 : decide (kind < 2) = true := by simpa using hk1'
            go_wp2_with fail
            go_roundw
            case rel => exact ⟨j + 1, vb, us, by omega, by go_num, hu4, by omega, HBKR.out, HBR.out⟩
            case measure => simp [intOf]; omega
          · have t1 : decide (kind < 2) = false := by simpa using hk1'
            have t2 : decide (2 < kind) = true := by simp; omega
            go_wp2_with fail
            go_roundw
            case rel => exact ⟨j + 1, vb, us, by omega, by go_num, hu4, by omega, HBKR.out, HBR.out⟩
            case measure => simp [intOf]; omega
      · have d1 : decide ((j : Int) < 3 + (os.length : Int)) = false := by simp; omega
        go_wp2_with fail
        go_ret
        exact ⟨rfl, HBW.out⟩

theorem Expands_any (a : Option Addr) (cap : Nat) (os : List OpD) (w : World) (hl : os.length ≤ 1048576) (hat : OpsAt w a os) (hok : ∀ o ∈ os, OpOk w o) (hmax : MaxAt w) :
    Calls Tryz.prog 4 #[.slice a os.length cap] w fun e w' => e = .returned (.bool true) ∧ Below w.heap.size w w' := by
  have HAT := hid hat
  have HOK := hid hok
  have HMAX := hid hmax
  clear hat hok hmax
  go_enter Tryz.func4, Tryz.ntmps4
  go_wp2_with fail
  refine (plays_expands a cap os _ hl HAT.out HOK.out HMAX.out).mono ?_
  rintro e w1 ⟨rfl, hb⟩
  go_wp2
  go_ret
  exact ⟨rfl, hb⟩

end Go.Proofs.YtcepppilgncdmaaGreatDoor
