/-
  The book of lists that came out (package masonlaw): 'same'.
-/
import Derived.Test.YtcepppilgncdmaaGreatDoorBkLook
import Derived.Test.YtcepppilgncdmaaGreatDoorQTop
import Derived.Deep.CutBlock
import Derived.Deep.DeepCutAuto
import Derived.Deep.LoopGhost
import Derived.Deep.QuietTactic
import Derived.BigQuiet
namespace Go.Proofs.YtcepppilgncdmaaGreatDoor
open Go.RowKit

theorem lineCells_len2 (outs : List (ByteArray × Nat)) : (lineCells outs).length = outs.length * 4 := by
  induction outs with
  | nil => rfl
  | cons x r ih => simp only [lineCells, List.length_cons, ih]; omega
theorem lineCells_at2 (outs : List (ByteArray × Nat)) : ∀ (i : Nat) (h : i < outs.length), (lineCells outs)[i * 4]? = some (.string outs[i].1) ∧ (lineCells outs)[i * 4 + 1]? = some (.int .i64 (outs[i].2 : Nat)) ∧ (lineCells outs)[i * 4 + 2]? = some (.int .i64 0) ∧ (lineCells outs)[i * 4 + 3]? = some (.int .i64 0) := by
  induction outs with
  | nil => intro i h; simp at h
  | cons x r ih =>
    intro i h
    cases i with
    | zero => simp [lineCells]
    | succ i =>
      have := ih i (by simpa using h)
      rw [show (i + 1) * 4 = i * 4 + 1 + 1 + 1 + 1 from by omega]
      simp only [lineCells, show i * 4 + 1 + 1 + 1 + 1 + 1 = (i * 4 + 1) + 1 + 1 + 1 + 1 from rfl, show i * 4 + 1 + 1 + 1 + 1 + 2 = (i * 4 + 2) + 1 + 1 + 1 + 1 from by omega, show i * 4 + 1 + 1 + 1 + 1 + 3 = (i * 4 + 3) + 1 + 1 + 1 + 1 from by omega, List.getElem?_cons_succ, List.getElem_cons_succ]
      exact this

/-- The lines of an answer lie in the world. -/
theorem lines_lie2 {w : World} {base : Nat} {vl : Value} {outs : List (ByteArray × Nat)} (h : w.ownsRow base 38 4 vl outs.length (lineCells outs)) (h0 : 0 < outs.length) :
    ∃ g cap, vl = .slice (some ⟨g, 0, none⟩) outs.length cap ∧ base ≤ g ∧ g < w.heap.size ∧ ∀ i (h : i < outs.length), w.cell? ⟨g, i * 4, none⟩ = some (.string outs[i].1) ∧ w.cell? ⟨g, i * 4 + 1, none⟩ = some (.int .i64 (outs[i].2 : Nat)) ∧ w.cell? ⟨g, i * 4 + 2, none⟩ = some (.int .i64 0) ∧ w.cell? ⟨g, i * 4 + 3, none⟩ = some (.int .i64 0) := by
  obtain ⟨g, cap, rfl, hb, hlt⟩ := h.form (by omega)
  refine ⟨g, cap, rfl, hb, hlt, fun i hi => ?_⟩
  obtain ⟨c1, c2, c3, c4⟩ := lineCells_at2 outs i hi
  rw [h.cellAt (i * 4) (by omega), h.cellAt (i * 4 + 1) (by omega), h.cellAt (i * 4 + 2) (by omega), h.cellAt (i * 4 + 3) (by omega)]
  exact ⟨c1, c2, c3, c4⟩


theorem grown_below {w w' : World} (h : Below w.heap.size w w') : w.grownBy w' none := ⟨h.os, h.tape, h.output, h.size, fun k hk _ => h.block k hk⟩
theorem own_grown {w w' : World} {b e s n : Nat} {v : Value} {xs : List Value} (h : w.ownsRow b e s v n xs) (hg : w.grownBy w' none) : w'.ownsRow b e s v n xs := h.kept hg (by cases hub : v.ownBlock <;> simp)

set_option maxRecDepth 100000 in
set_option maxHeartbeats 800000 in
theorem same_any (w : World) (lo B kb : Nat) (vb nv bv : Value) (us : List Value) (a b : Option Addr) (cap cap2 : Nat) (outs : List (ByteArray × Nat)) (er : Int) (hbk : BookAt w lo B kb vb nv bv us) (hB : B ≤ w.heap.size) (hlo : lo ≤ B)
    (hl : w.ownsRow B 38 4 (.slice a outs.length cap) outs.length (lineCells outs)) (hm : w.ownsRow B 38 4 (.slice b outs.length cap2) outs.length (lineCells outs)) (hn : outs.length ≤ 300) (hus : us.length % 4 = 0) (hN : (us.length + 4) * 24 ≤ 140737488355328) (her : er ≠ 0 → a = none) :
    Calls Tryz.prog 27 #[.pointer (some ⟨kb, 0, none⟩), .slice a outs.length cap, .slice b outs.length cap2, .int .i64 er] w fun e w' => e = .returned (.bool true) ∧ ∃ vb' us', us'.length = 4 ∧ BookAt w' lo w'.heap.size kb vb' nv bv (us ++ us') ∧ (∀ p, vb'.ownBlock = some p → vb.ownBlock = some p ∨ B ≤ p) ∧ Keeps (kb :: (vb.ownBlock.toList ++ (Value.slice a outs.length cap).ownBlock.toList)) w w' := by
  obtain ⟨n, hne⟩ : ∃ n, outs.length = n := ⟨_, rfl⟩
  rw [hne] at hl hm hn ⊢
  have HBK := hid hbk
  have HL := hid hl
  have HM := hid hm
  have HER := hid her
  clear hbk hl hm her
  have heq := fun (wx : World) => Lib.run_eql_slice_nil (P := Tryz.prog) wx 26 38 a n cap 0 0 Tryz.underlying26
  have hcase : a = none ∨ (∃ p, a = some p) ∧ er = 0 := by
    cases a with
    | none => exact Or.inl rfl
    | some p => exact Or.inr ⟨⟨p, rfl⟩, Classical.byContradiction fun h => by cases HER.out h⟩
  go_enter Tryz.func27, Tryz.ntmps27
  rcases hcase with rfl | ⟨⟨p, rfl⟩, rfl⟩
  · have hn0 : n = 0 := by
      rcases HL.out.2 with ⟨h, h0⟩ | ⟨g, c', cur, h, _⟩
      · exact h0
      · cases h
    subst hn0
    go_wp2_with fail
    refine wp_loop_rounds 1 ?_
    rw [rounds_succ]
    go_wp2_with fail
    refine (keepsLines_any w lo B kb vb nv bv us none 0 cap _ HBK.out hB hlo HL.out (by omega) hus hN).mono ?_
    rintro e w2 ⟨rfl, hrest⟩
    have HREST := hid hrest
    clear hrest
    go_wp2
    go_ret
    exact ⟨rfl, HREST.out⟩
  · obtain ⟨g, hp, hBg, hgl⟩ : ∃ g, p = ⟨g, 0, none⟩ ∧ B ≤ g ∧ g < w.heap.size := by
      rcases HL.out.2 with ⟨h, h0⟩ | ⟨g, c', cur, h, h1, h2, _⟩
      · cases h
      · cases h; exact ⟨g, rfl, h1, (Array.getElem?_eq_some_iff.1 h2).1⟩
    subst hp
    go_wp2_with fail
    go_loopw [9, 10] (fun ok i wr => ∃ t : Nat, t ≤ n ∧ ok = .bool true ∧ i = .int .i64 t ∧ Below w.heap.size w wr) (fun _ i _ => n - (intOf i).toNat)
    case atStart => exact ⟨0, Nat.zero_le _, rfl, rfl, Below.refl _ _⟩
    case round =>
      obtain ⟨t, ht, rfl, rfl, hbr⟩ := hrel
      have HBR := hid hbr
      have hgr := grown_below hbr
      have HLR := hid (own_grown HL.out hgr)
      have HMR := hid (own_grown HM.out hgr)
      clear hbr hgr
      by_cases hlt : t < n
      · have d1 : decide ((t : Int) < (n : Int)) = true := by simp; omega
        obtain ⟨gm, cm, hv, _, _⟩ := HMR.out.form (by omega)
        simp only [Value.slice.injEq, true_and] at hv
        obtain ⟨rfl, rfl⟩ := hv
        obtain ⟨x0, x1, x2, x3⟩ := lineCells_at2 outs t (by omega)
        have l0 := (HLR.out.cellAt (t * 4) (by omega)).trans x0
        have l1 := (HLR.out.cellAt (t * 4 + 1) (by omega)).trans x1
        have l2 := (HLR.out.cellAt (t * 4 + 2) (by omega)).trans x2
        have l3 := (HLR.out.cellAt (t * 4 + 3) (by omega)).trans x3
        have m0 := (HMR.out.cellAt (t * 4) (by omega)).trans x0
        have m1 := (HMR.out.cellAt (t * 4 + 1) (by omega)).trans x1
        have m2 := (HMR.out.cellAt (t * 4 + 2) (by omega)).trans x2
        have m3 := (HMR.out.cellAt (t * 4 + 3) (by omega)).trans x3
        clear x0 x1 x2 x3
        obtain ⟨o, ho⟩ : ∃ o, outs[t] = o := ⟨_, rfl⟩
        rw [ho] at l0 l1 m0 m1
        clear ho
        obtain ⟨tx, fr⟩ := o
        simp only at l0 l1 m0 m1
        go_wp2_with fail
        go_quiet (fail)
        go_wp2_with fail
        go_roundw
        case rel => exact ⟨t + 1, by omega, by simp, by go_num, below_drewN HBR.out _⟩
        case measure => simp [intOf]; omega
      · have d1 : decide ((t : Int) < (n : Int)) = false := by simp; omega
        have htn : t = n := by omega
        go_wp2_with fail
        refine (keepsLines_any wr lo B kb vb nv bv us (some ⟨g, 0, none⟩) n cap _ (HBK.out.grown (grown_below HBR.out) (by simp)) (Nat.le_trans hB HBR.out.size) hlo HLR.out (by omega) hus hN).mono ?_
        rintro e w2 ⟨rfl, vb', us', h1, h2, h3, h4⟩
        have H2 := hid h2
        have H3 := hid h3
        have H4 := hid h4
        clear h2 h3 h4
        go_wp2
        go_ret
        exact ⟨rfl, vb', us', h1, H2.out, H3.out, (Keeps.of_below HBR.out).trans H4.out⟩

end Go.Proofs.YtcepppilgncdmaaGreatDoor
