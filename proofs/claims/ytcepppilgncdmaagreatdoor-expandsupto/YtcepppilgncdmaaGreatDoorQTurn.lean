/-
  What the document's own function of a condition's turn and end (package masonref) answers, said by the plain functions.
-/
import Derived.Test.YtcepppilgncdmaaGreatDoorQIf
namespace Go.Proofs.YtcepppilgncdmaaGreatDoor
open Go.RowKit
attribute [local go_sem ↓] Go.wp_at_zero Go.wp_at_succ

theorem openCells_els (o : OpenP) (r : List OpenP) (u : Bool) : (openCells (o :: r)).set (r.length * 3 + 1) (.bool u) = openCells (⟨o.yes, u, o.over⟩ :: r) := by
  simp only [openCells]
  rw [List.set_append_right _ _ (by rw [openCells_length]; omega), openCells_length]
  simp
theorem openCells_yes (o : OpenP) (r : List OpenP) (u : Bool) : (openCells (o :: r)).set (r.length * 3) (.bool u) = openCells (⟨u, o.els, o.over⟩ :: r) := by
  simp only [openCells]
  rw [List.set_append_right _ _ (by rw [openCells_length]; omega), openCells_length]
  simp
/-- A cell of the innermost condition is stored. -/
theorem BkAt.store {w : World} {B b g cap : Nat} {lv fv mv pv dv xd : Value} {o o' : OpenP} {r : List OpenP} (h : BkAt w B b lv fv mv pv dv (.slice (some ⟨g, 0, none⟩) (r.length + 1) cap) xd (o :: r)) (j : Nat) (u : Value) (hs : (openCells (o :: r)).set j u = openCells (o' :: r)) :
    BkAt (w.setCell ⟨g, j, none⟩ u) B b lv fv mv pv dv (.slice (some ⟨g, 0, none⟩) (r.length + 1) cap) xd (o' :: r) ∧ Fc B (bkM b (.slice (some ⟨g, 0, none⟩) (r.length + 1) cap)) w (w.setCell ⟨g, j, none⟩ u) := by
  have hne := own_row_ne h.own h.row (by decide)
  refine ⟨⟨h.row.other g j (fun e => hne (by rw [e]; rfl)) u, ?_, by simpa using h.few, h.at_⟩, ?_⟩
  · have := (h.own.stored j u).1
    rw [hs] at this
    exact this
  · exact (FrQ.refl noT r1 B _ w).setCell (p := ⟨g, j, none⟩) (own_mayQ h.own (fun k hk => Or.inr ⟨rfl, by unfold bkM; rw [hk]; simp⟩) g rfl) _

set_option maxRecDepth 100000 in
set_option maxHeartbeats 1600000 in
theorem turnsElse_any (w : World) (B b r : Nat) (lv fv mv pv dv vo : Value) (p : Option Addr) (opens : List OpenP) (at_ : Nat) (st : StP) (lb op : ByteArray) (va : Option Addr) (vc : Nat) (os : List ByteArray) (W : WordsP) (C : Nat)
    (h : BkAt w B b lv fv mv pv dv vo (.pointer p) opens) (hx : RdSt w B r st) (hp : PartsV w C lb op (.slice va os.length vc) os W) (hop : W.op = opElse) :
    Calls Tryz.prog 129 #[.pointer (some ⟨b, 0, none⟩), .pointer (some ⟨r, 0, none⟩), .agg #[.string lb, .string op, .slice va os.length vc], .int .i64 (at_ : Nat)] w (BkPost B b r lv fv mv pv dv vo p at_ (elseP W opens) st w) := by
  obtain ⟨vm, vn, vl, ms, ns, outs, calls, hx, hst⟩ := hx
  obtain ⟨x, hxr⟩ : ∃ x, elseP W opens = x := ⟨_, rfl⟩
  rw [hxr]
  have HXR := hid hxr
  obtain ⟨t1, t2, t3⟩ := hp.two
  have HST := hid hst
  have kop : (op.toList == [46, 101, 108, 115, 101]) = true := op_is (hp.op.trans hop)
  have kop2 : (op.toList == [46, 101, 110, 100, 105, 102]) = false := op_not (by rw [hp.op, hop]; decide)
  have hb0 : Below w.heap.size w (w.alloc (.cells #[.string lb, .string op, .slice va os.length vc] 134)) := (Below.refl _ _).alloc (Nat.le_refl _) _
  have HX := hid (hx.below hb0)
  have HBK := hid (h.below hb0)
  have HF := hid (show Fq B (bkM b vo) w (w.alloc (.cells #[.string lb, .string op, .slice va os.length vc] 134)) from Fq.of_below hb0)
  have HBX := hid (show RowT (w.alloc (.cells #[.string lb, .string op, .slice va os.length vc] 134)) 134 w.heap.size [.string lb, .string op, .slice va os.length vc] from RowT.new w 134 [.string lb, .string op, .slice va os.length vc])
  have hbare : bareW W = (decide (lb.size = 0) && decide (os.length = 0)) := by
    unfold bareW
    rw [← hp.label, ← hp.ops]
    congr 1
    · rw [decide_eq_decide]
      exact ⟨fun e => by rw [size_L, e]; rfl, L_zero⟩
    · rw [decide_eq_decide]
      cases os <;> simp
  clear hx h hp hb0 hst t3 hxr hop t1 t2
  go_enter Tryz.func129, Tryz.ntmps129
  go_upto_region 1 with fail
  generalize w.alloc (.cells #[.string lb, .string op, .slice va os.length vc] 134) = w1 at HX HBK HF HBX ⊢
  obtain ⟨bx, hbx⟩ : ∃ bx, w.heap.size = bx := ⟨_, rfl⟩
  rw [hbx] at HBX ⊢
  clear hbx
  have y0 := HBX.out.cell 0 (by simp)
  have y1 := HBX.out.cell 1 (by simp)
  have y2 := HBX.out.cell 2 (by simp)
  have c5 : w1.cell? ⟨b, 5, none⟩ = some vo := HBK.out.row.cell 5 (by simp)
  have f5 := HBK.out.row.free 5
  have hltb := HBK.out.row.lt
  have hfew := HBK.out.few
  cases opens with
  | nil =>
    obtain ⟨a5, k5, hv5⟩ := own_form HBK.out.own
    rw [List.length_nil] at hv5
    subst hv5
    have hxr : (2, []) = x := HXR.out
    have HXR := hid hxr
    clear hxr
    go_wp2_with (first | (go_at_call 60; refine (bad_any _ r _ _ _ _ _ 2 at_ HX.out.row).mono ?_; rintro e w2 ⟨rfl, rfl⟩))
    go_end0
    rw [← HXR.out]
    exact bk_bad HX.out HBK.out HF.out (by decide)
  | cons o rs =>
    obtain ⟨g, cap, hv5, hBg, hgl, hcap, z0, z1, z2⟩ := HBK.out.slot
    subst hv5
    have HO := hid (show w1.ownsRow B 190 3 (.slice (some ⟨g, 0, none⟩) (rs.length + 1) cap) (rs.length + 1) (openCells (o :: rs)) from HBK.out.own)
    have fz0 := HO.out.frozenAt (rs.length * 3)
    have fz1 := HO.out.frozenAt (rs.length * 3 + 1)
    obtain ⟨yes, els, over⟩ := o
    simp only at z0 z1 z2
    rw [List.length_cons] at hfew
    have i2 : ((rs.length + 1 : Nat) : Int) - 1 = (rs.length : Int) := by omega
    have i3 : (0 : Int) ≤ (rs.length : Int) := Int.natCast_nonneg _
    have hgb : ¬ g = b := fun e => own_row_ne HBK.out.own HBK.out.row (by decide) (by rw [e]; rfl)
    have hbg : ¬ b = g := fun e => hgb e.symm
    have hxr := HXR.out
    simp only [elseP] at hxr
    cases els with
    | true =>
      rw [if_pos rfl] at hxr
      have HXR := hid hxr
      clear hxr
      go_wp2_with (first | (go_at_call 60; refine (bad_any _ r _ _ _ _ _ 2 at_ HX.out.row).mono ?_; rintro e w2 ⟨rfl, rfl⟩))
      go_end0
      rw [← HXR.out]
      exact bk_bad HX.out HBK.out HF.out (by decide)
    | false =>
      rw [if_neg (by simp)] at hxr
      cases over with
      | true =>
        rw [if_neg (by simp)] at hxr
        have HXR := hid hxr
        clear hxr hbare
        go_wp2_with fail
        go_region
        have HS1 := hid (HBK.out.store (rs.length * 3 + 1) (.bool true) (openCells_els _ _ _))
        have HS2 := hid ((HS1.out.1.below ((Below.refl _ _).drew)).store (rs.length * 3) (.bool (!yes)) (openCells_yes _ _ _))
        have HFQ := hid (HF.out.trans (Fc.to ((HS1.out.2.trans (FrQ.of_below ((Below.refl _ _).drew))).trans HS2.out.2)))
        have HXQ := hid (((HX.out.fc HS1.out.2).below ((Below.refl _ _).drew)).fc HS2.out.2)
        go_wp2_with fail
        go_end0
        rw [← HXR.out, HST.out]
        exact ⟨rfl, HFQ.out, fun _ => ⟨⟨_, HS2.out.1, fun g hg => Or.inl hg⟩, vm, vn, vl, ms, ns, outs, calls, HXQ.out, rfl⟩, fun c => absurd rfl c⟩
      | false =>
        by_cases hlb : lb.size = 0
        · have kl := is_empty lb hlb
          by_cases h1 : os.length = 0
          · rw [if_neg (by rw [hbare]; simp [hlb, h1])] at hxr
            have k1 : ((os.length : Int) != 0) = false := by rw [bne_eq_false_iff_eq]; omega
            have HXR := hid hxr
            clear hxr hbare hlb h1
            go_wp2_with fail
            go_region
            have HS1 := hid (HBK.out.store (rs.length * 3 + 1) (.bool true) (openCells_els _ _ _))
            have HS2 := hid ((HS1.out.1.below ((Below.refl _ _).drew)).store (rs.length * 3) (.bool (!yes)) (openCells_yes _ _ _))
            have HFQ := hid (HF.out.trans (Fc.to ((HS1.out.2.trans (FrQ.of_below ((Below.refl _ _).drew))).trans HS2.out.2)))
            have HXQ := hid (((HX.out.fc HS1.out.2).below ((Below.refl _ _).drew)).fc HS2.out.2)
            go_wp2_with fail
            go_end0
            rw [← HXR.out, HST.out]
            exact ⟨rfl, HFQ.out, fun _ => ⟨⟨_, HS2.out.1, fun g hg => Or.inl hg⟩, vm, vn, vl, ms, ns, outs, calls, HXQ.out, rfl⟩, fun c => absurd rfl c⟩
          · rw [if_pos (by rw [hbare]; simp [h1])] at hxr
            have k1 : ((os.length : Int) != 0) = true := by rw [bne_iff_ne]; omega
            have HXR := hid hxr
            clear hxr hbare hlb h1
            go_wp2_with (first | (go_at_call 60; refine (bad_any _ r _ _ _ _ _ 4 at_ HX.out.row).mono ?_; rintro e w2 ⟨rfl, rfl⟩))
            go_end0
            rw [← HXR.out]
            exact bk_bad HX.out HBK.out HF.out (by decide)
        · rw [if_pos (by rw [hbare]; simp [hlb])] at hxr
          have kl := not_empty lb (by omega)
          have HXR := hid hxr
          clear hxr hbare hlb
          go_wp2_with (first | (go_at_call 60; refine (bad_any _ r _ _ _ _ _ 4 at_ HX.out.row).mono ?_; rintro e w2 ⟨rfl, rfl⟩))
          go_end0
          rw [← HXR.out]
          exact bk_bad HX.out HBK.out HF.out (by decide)

set_option maxRecDepth 100000 in
set_option maxHeartbeats 1600000 in
theorem turnsEnd_any (w : World) (B b r : Nat) (lv fv mv pv dv vo : Value) (p : Option Addr) (opens : List OpenP) (at_ : Nat) (st : StP) (lb op : ByteArray) (va : Option Addr) (vc : Nat) (os : List ByteArray) (W : WordsP) (C : Nat)
    (h : BkAt w B b lv fv mv pv dv vo (.pointer p) opens) (hx : RdSt w B r st) (hp : PartsV w C lb op (.slice va os.length vc) os W) (hop : W.op = opEndif) :
    Calls Tryz.prog 129 #[.pointer (some ⟨b, 0, none⟩), .pointer (some ⟨r, 0, none⟩), .agg #[.string lb, .string op, .slice va os.length vc], .int .i64 (at_ : Nat)] w (BkPost B b r lv fv mv pv dv vo p at_ (endifP W opens) st w) := by
  obtain ⟨vm, vn, vl, ms, ns, outs, calls, hx, hst⟩ := hx
  obtain ⟨x, hxr⟩ : ∃ x, endifP W opens = x := ⟨_, rfl⟩
  rw [hxr]
  have HXR := hid hxr
  obtain ⟨t1, t2, t3⟩ := hp.two
  have HST := hid hst
  have kop : (op.toList == [46, 101, 108, 115, 101]) = false := op_not (by rw [hp.op, hop]; decide)
  have kop2 : (op.toList == [46, 101, 110, 100, 105, 102]) = true := op_is (hp.op.trans hop)
  have hb0 : Below w.heap.size w (w.alloc (.cells #[.string lb, .string op, .slice va os.length vc] 134)) := (Below.refl _ _).alloc (Nat.le_refl _) _
  have HX := hid (hx.below hb0)
  have HBK := hid (h.below hb0)
  have HF := hid (show Fq B (bkM b vo) w (w.alloc (.cells #[.string lb, .string op, .slice va os.length vc] 134)) from Fq.of_below hb0)
  have HBX := hid (show RowT (w.alloc (.cells #[.string lb, .string op, .slice va os.length vc] 134)) 134 w.heap.size [.string lb, .string op, .slice va os.length vc] from RowT.new w 134 [.string lb, .string op, .slice va os.length vc])
  have hbare : bareW W = (decide (lb.size = 0) && decide (os.length = 0)) := by
    unfold bareW
    rw [← hp.label, ← hp.ops]
    congr 1
    · rw [decide_eq_decide]
      exact ⟨fun e => by rw [size_L, e]; rfl, L_zero⟩
    · rw [decide_eq_decide]
      cases os <;> simp
  clear hx h hp hb0 hst t3 hxr hop t1 t2
  go_enter Tryz.func129, Tryz.ntmps129
  go_upto_region 1 with fail
  generalize w.alloc (.cells #[.string lb, .string op, .slice va os.length vc] 134) = w1 at HX HBK HF HBX ⊢
  obtain ⟨bx, hbx⟩ : ∃ bx, w.heap.size = bx := ⟨_, rfl⟩
  rw [hbx] at HBX ⊢
  clear hbx
  have y0 := HBX.out.cell 0 (by simp)
  have y1 := HBX.out.cell 1 (by simp)
  have y2 := HBX.out.cell 2 (by simp)
  have c5 : w1.cell? ⟨b, 5, none⟩ = some vo := HBK.out.row.cell 5 (by simp)
  have f5 := HBK.out.row.free 5
  have hltb := HBK.out.row.lt
  have hfew := HBK.out.few
  cases opens with
  | nil =>
    obtain ⟨a5, k5, hv5⟩ := own_form HBK.out.own
    rw [List.length_nil] at hv5
    subst hv5
    have hxr : (2, []) = x := HXR.out
    have HXR := hid hxr
    clear hxr
    go_wp2_with (first | (go_at_call 60; refine (bad_any _ r _ _ _ _ _ 2 at_ HX.out.row).mono ?_; rintro e w2 ⟨rfl, rfl⟩))
    go_end0
    rw [← HXR.out]
    exact bk_bad HX.out HBK.out HF.out (by decide)
  | cons o rs =>
    obtain ⟨g, cap, hv5, hBg, hgl, hcap, z0, z1, z2⟩ := HBK.out.slot
    subst hv5
    have HO := hid (show w1.ownsRow B 190 3 (.slice (some ⟨g, 0, none⟩) (rs.length + 1) cap) (rs.length + 1) (openCells (o :: rs)) from HBK.out.own)
    have fz0 := HO.out.frozenAt (rs.length * 3)
    have fz1 := HO.out.frozenAt (rs.length * 3 + 1)
    obtain ⟨yes, els, over⟩ := o
    simp only at z0 z1 z2
    rw [List.length_cons] at hfew
    have i2 : ((rs.length + 1 : Nat) : Int) - 1 = (rs.length : Int) := by omega
    have i3 : (0 : Int) ≤ (rs.length : Int) := Int.natCast_nonneg _
    have hgb : ¬ g = b := fun e => own_row_ne HBK.out.own HBK.out.row (by decide) (by rw [e]; rfl)
    have hbg : ¬ b = g := fun e => hgb e.symm
    have hpop : w1.ownsRow B 190 3 (.slice (some ⟨g, 0, none⟩) rs.length cap) rs.length (openCells rs) := ownsRow_pop (n := rs.length) (last := [.bool yes, .bool els, .bool over]) (openCells_length rs) HO.out
    have HPK := hid (show BkAt (w1.setCell ⟨b, 5, none⟩ (.slice (some ⟨g, 0, none⟩) rs.length cap)) B b lv fv mv pv dv (.slice (some ⟨g, 0, none⟩) rs.length cap) (.pointer p) rs from
      ⟨HBK.out.row.set 5 _, ownsRow_setCell_other hpop (a := ⟨b, 5, none⟩) (own_row_ne hpop HBK.out.row (by decide)) _, by omega, HBK.out.at_⟩)
    have HPF := hid (show Fc B (bkM b (.slice (some ⟨g, 0, none⟩) (rs.length + 1) cap)) w1 (w1.setCell ⟨b, 5, none⟩ (.slice (some ⟨g, 0, none⟩) rs.length cap)) from (FrQ.refl noT r1 B _ w1).setCell (p := ⟨b, 5, none⟩) (HBK.out.row.mayQ HBK.out.at_ (Or.inr ⟨rfl, by simp [bkM]⟩)) _)
    clear hpop
    have hxr := HXR.out
    simp only [endifP] at hxr
    have j1 : (rs.length : Int) ≤ (cap : Int) := by omega
    cases over with
    | true =>
      rw [if_neg (by simp)] at hxr
      have HXR := hid hxr
      clear hxr hbare
      go_wp2_with fail
      go_end0
      rw [← HXR.out, HST.out]
      exact ⟨rfl, HF.out.trans (Fc.to HPF.out), fun _ => ⟨⟨_, HPK.out, fun g hg => Or.inl hg⟩, vm, vn, vl, ms, ns, outs, calls, HX.out.fc HPF.out, rfl⟩, fun c => absurd rfl c⟩
    | false =>
      by_cases hlb : lb.size = 0
      · have kl := is_empty lb hlb
        by_cases h1 : os.length = 0
        · rw [if_neg (by rw [hbare]; simp [hlb, h1])] at hxr
          have k1 : ((os.length : Int) != 0) = false := by rw [bne_eq_false_iff_eq]; omega
          have HXR := hid hxr
          clear hxr hbare hlb h1
          go_wp2_with fail
          go_end0
          rw [← HXR.out, HST.out]
          exact ⟨rfl, HF.out.trans (Fc.to HPF.out), fun _ => ⟨⟨_, HPK.out, fun g hg => Or.inl hg⟩, vm, vn, vl, ms, ns, outs, calls, HX.out.fc HPF.out, rfl⟩, fun c => absurd rfl c⟩
        · rw [if_pos (by rw [hbare]; simp [h1])] at hxr
          have k1 : ((os.length : Int) != 0) = true := by rw [bne_iff_ne]; omega
          have HXR := hid hxr
          clear hxr hbare hlb h1
          go_wp2_with (first | (go_at_call 60; refine (bad_any _ r _ _ _ _ _ 4 at_ HX.out.row).mono ?_; rintro e w2 ⟨rfl, rfl⟩))
          go_end0
          rw [← HXR.out]
          exact bk_bad HX.out HBK.out HF.out (by decide)
      · rw [if_pos (by rw [hbare]; simp [hlb])] at hxr
        have kl := not_empty lb (by omega)
        have HXR := hid hxr
        clear hxr hbare hlb
        go_wp2_with (first | (go_at_call 60; refine (bad_any _ r _ _ _ _ _ 4 at_ HX.out.row).mono ?_; rintro e w2 ⟨rfl, rfl⟩))
        go_end0
        rw [← HXR.out]
        exact bk_bad HX.out HBK.out HF.out (by decide)

end Go.Proofs.YtcepppilgncdmaaGreatDoor
