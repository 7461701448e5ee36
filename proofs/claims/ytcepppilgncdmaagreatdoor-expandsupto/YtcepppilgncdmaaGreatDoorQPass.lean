/-
  What the document's own package (masonref) does with a line that is passed over.
-/
import Derived.Test.YtcepppilgncdmaaGreatDoorQDoes
namespace Go.Proofs.YtcepppilgncdmaaGreatDoor
open Go.RowKit
attribute [local go_sem ↓] Go.wp_at_zero Go.wp_at_succ

theorem bk_before {B b r : Nat} {lv fv mv pv dv vo : Value} {p : Option Addr} {st : StP} {at_ : Nat} {y : Int × List OpenP} {w w2 w' : World} {e : Ending} (hb : Below w.heap.size w w2) (h : BkPost B b r lv fv mv pv dv vo p at_ y st w2 e w') : BkPost B b r lv fv mv pv dv vo p at_ y st w e w' := by
  obtain ⟨h1, h2, h3, h4⟩ := h
  refine ⟨h1, (Fq.of_below hb).trans h2, fun h0 => ?_, h4⟩
  obtain ⟨⟨vo', hk, hg⟩, hr⟩ := h3 h0
  refine ⟨⟨vo', hk, fun g h => (hg g h).imp id fun h5 => ?_⟩, hr⟩
  have := hb.size
  omega

set_option maxRecDepth 100000 in
set_option maxHeartbeats 1600000 in
theorem passes_any (w : World) (B b r : Nat) (lv fv mv pv dv vo : Value) (opens : List OpenP) (at_ : Nat) (st : StP) (s : ByteArray) (k : Nat)
    (h : BkAt w B b lv fv mv pv dv vo (.pointer none) opens) (hx : RdSt w B r st) (hs : s.size ≤ 100) (hse : noSemi (L s)) (hok : StOk st k) (hB : B ≤ w.heap.size) :
    Calls Tryz.prog 91 #[.pointer (some ⟨b, 0, none⟩), .pointer (some ⟨r, 0, none⟩), .string s, .int .i64 (at_ : Nat)] w (BkPost B b r lv fv mv pv dv vo none at_ (passP (wordsP (L s)) opens st) st w) := by
  obtain ⟨vm, vn, vl, ms, ns, outs, calls, hx, hst⟩ := hx
  subst hst
  obtain ⟨x, hxr⟩ : ∃ x, passP (wordsP (L s)) opens (stQ ms ns outs calls) = x := ⟨_, rfl⟩
  rw [hxr]
  have hml : ms.length ≤ 3001 := by
    have h1 := hok.few
    have h2 := hok.taken
    simp only [stQ, List.length_map] at h1
    omega
  have hnl : (stQ ms ns outs calls).names.length ≤ 1000 := by have h1 := hok.names; have h2 := hok.out; omega
  have hol : outs.length ≤ 300 := by simpa [stQ] using hok.out
  have hwok : WOk (wordsP (L s)) := ⟨L s, by rw [L_length]; exact hs, by rw [cutL_id hse]⟩
  have HSE := hid (words_noSemi hse)
  have HWOK := hid hwok
  have HOK := hid hok
  have HX := hid hx
  have HBK := hid h
  clear hx h hok hwok
  go_enter Tryz.func91, Tryz.ntmps91
  go_upto_region 1 with (first | (go_at_call 63; refine (words_any s _ (by omega)).mono ?_; rintro e w1 ⟨lb, op, oa, oc, os, rfl, hp, hb1⟩))
  have hb2 : Below w1.heap.size w1 (w1.alloc (.cells #[.string lb, .string op, .slice oa os.length oc] 134)) := (Below.refl _ _).alloc (Nat.le_refl _) _
  have HF := hid (hb1.trans (hb2.mono hb1.size))
  have HX := hid (HX.out.below HF.out)
  have HBK := hid (HBK.out.below HF.out)
  have HP := hid (hp.below hb2)
  have HBX := hid (show RowT (w1.alloc (.cells #[.string lb, .string op, .slice oa os.length oc] 134)) 134 w1.heap.size [.string lb, .string op, .slice oa os.length oc] from RowT.new w1 134 [.string lb, .string op, .slice oa os.length oc])
  clear hb1 hb2 hp hse
  generalize w1.alloc (.cells #[.string lb, .string op, .slice oa os.length oc] 134) = w2 at HX HBK HP HF HBX ⊢
  generalize w1.heap.size = bx at HBX ⊢
  obtain ⟨W, hW⟩ : ∃ W, wordsP (L s) = W := ⟨_, rfl⟩
  have HNOP := hid (show (wordsP (L s)).op = [] → (wordsP (L s)).operands = [] from words_noop (L s))
  rw [hW] at HP HSE HWOK hxr HNOP
  clear hW
  obtain ⟨b1, b2, b3⟩ := HWOK.out.parts HP.out
  have HSZ := hid (show ∀ i (hi : i < os.length), os[i].size ≤ 1000 from fun i hi => Nat.le_trans (b2 i hi) (by omega))
  have HOP := hid HP.out.op
  obtain ⟨t1, t2, t3⟩ := HP.out.two
  clear b2 t3
  have y0 := HBX.out.cell 0 (by simp)
  have y1 := HBX.out.cell 1 (by simp)
  have y2 := HBX.out.cell 2 (by simp)
  have hB2 : B ≤ w2.heap.size := Nat.le_trans hB HF.out.size
  unfold passP at hxr
  by_cases hop : W.op = opIf
  · rw [if_pos hop] at hxr
    have kopIf : (op.toList == [46, 105, 102]) = true := op_is (HOP.out.trans hop)
    have kopElse : (op.toList == [46, 101, 108, 115, 101]) = false := op_not (by rw [HOP.out, hop]; decide)
    have kopEndif : (op.toList == [46, 101, 110, 100, 105, 102]) = false := op_not (by rw [HOP.out, hop]; decide)
    have HXR := hid hxr
    clear hxr
    go_wp2_with fail
    refine (begins_any w2 B b r lv fv mv pv dv vo none opens at_ (stQ ms ns outs calls) lb op oa oc os W w.heap.size HBK.out ⟨_, _, _, _, _, _, _, HX.out, rfl⟩ HP.out HSZ.out hnl hB2).mono ?_
    rintro e w4 hpost
    obtain ⟨rfl, _⟩ := id hpost
    have HPO := hid hpost
    clear hpost
    go_wp2_with fail
    first | go_end0 | refine bodyPost_ret (results_none rfl _ _ _) rfl ?_
    rw [← HXR.out]
    exact bk_before HF.out HPO.out
  · have hopIf := hop
    clear hop
    by_cases hop : W.op = opElse
    · rw [if_neg (by rw [hop]; decide), if_pos hop] at hxr
      have kopIf : (op.toList == [46, 105, 102]) = false := op_not (by rw [HOP.out, hop]; decide)
      have kopElse : (op.toList == [46, 101, 108, 115, 101]) = true := op_is (HOP.out.trans hop)
      have kopEndif : (op.toList == [46, 101, 110, 100, 105, 102]) = false := op_not (by rw [HOP.out, hop]; decide)
      have HXR := hid hxr
      clear hxr
      go_wp2_with fail
      refine (turnsElse_any w2 B b r lv fv mv pv dv vo none opens at_ (stQ ms ns outs calls) lb op oa oc os W w.heap.size HBK.out ⟨_, _, _, _, _, _, _, HX.out, rfl⟩ HP.out hop).mono ?_
      rintro e w4 hpost
      obtain ⟨rfl, _⟩ := id hpost
      have HPO := hid hpost
      clear hpost
      go_wp2_with fail
      first | go_end0 | refine bodyPost_ret (results_none rfl _ _ _) rfl ?_
      rw [← HXR.out]
      exact bk_before HF.out HPO.out
    · have hopElse := hop
      clear hop
      by_cases hop : W.op = opEndif
      · rw [if_neg (by rw [hop]; decide), if_neg (by rw [hop]; decide), if_pos hop] at hxr
        have kopIf : (op.toList == [46, 105, 102]) = false := op_not (by rw [HOP.out, hop]; decide)
        have kopElse : (op.toList == [46, 101, 108, 115, 101]) = false := op_not (by rw [HOP.out, hop]; decide)
        have kopEndif : (op.toList == [46, 101, 110, 100, 105, 102]) = true := op_is (HOP.out.trans hop)
        have HXR := hid hxr
        clear hxr
        go_wp2_with fail
        refine (turnsEnd_any w2 B b r lv fv mv pv dv vo none opens at_ (stQ ms ns outs calls) lb op oa oc os W w.heap.size HBK.out ⟨_, _, _, _, _, _, _, HX.out, rfl⟩ HP.out hop).mono ?_
        rintro e w4 hpost
        obtain ⟨rfl, _⟩ := id hpost
        have HPO := hid hpost
        clear hpost
        go_wp2_with fail
        first | go_end0 | refine bodyPost_ret (results_none rfl _ _ _) rfl ?_
        rw [← HXR.out]
        exact bk_before HF.out HPO.out
      · have hopEndif := hop
        clear hop
        rw [if_neg hopIf, if_neg hopElse, if_neg hopEndif] at hxr
        have kopIf : (op.toList == [46, 105, 102]) = false := op_not (fun c => hopIf (HOP.out.symm.trans c))
        have kopElse : (op.toList == [46, 101, 108, 115, 101]) = false := op_not (fun c => hopElse (HOP.out.symm.trans c))
        have kopEndif : (op.toList == [46, 101, 110, 100, 105, 102]) = false := op_not (fun c => hopEndif (HOP.out.symm.trans c))
        have HXR := hid hxr
        clear hxr
        go_wp2_with fail
        first | go_end0 | refine bodyPost_ret (results_none rfl _ _ _) rfl ?_
        rw [← HXR.out]
        exact ⟨rfl, Fq.of_below HF.out, fun _ => ⟨⟨vo, HBK.out, fun g h => Or.inl h⟩, ⟨_, _, _, _, _, _, _, HX.out, rfl⟩⟩, fun c => absurd rfl c⟩

end Go.Proofs.YtcepppilgncdmaaGreatDoor
