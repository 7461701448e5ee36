/-
  What the document's own package (masonref) does with a line: one that is not passed over, and one that is.
-/
import Derived.Test.YtcepppilgncdmaaGreatDoorQCall
import Derived.Test.YtcepppilgncdmaaGreatDoorQTurn
namespace Go.Proofs.YtcepppilgncdmaaGreatDoor
open Go.RowKit
attribute [local go_sem ↓] Go.wp_at_zero Go.wp_at_succ

theorem cutL_noSemi (l : List UInt8) : noSemi (cutL l) := by
  induction l with
  | nil => intro c hc; simp [cutL] at hc
  | cons c r ih =>
    simp only [cutL]
    split
    · intro c hc; simp at hc
    · rename_i h
      intro d hd
      rcases List.mem_cons.1 hd with rfl | h2
      · exact h
      · exact ih d h2
theorem cutL_id {l : List UInt8} (h : noSemi l) : cutL l = l := by
  induction l with
  | nil => rfl
  | cons c r ih =>
    simp only [cutL]
    rw [if_neg (h c (by simp)), ih (fun d hd => h d (by simp [hd]))]
theorem splitB_mem (b : Int) (l : List UInt8) : ∀ x ∈ splitB b l, ∀ c ∈ x, c ∈ l := by
  induction l with
  | nil => intro x hx c hc; simp [splitB] at hx; rw [hx] at hc; simp at hc
  | cons d r ih =>
    intro x hx c hc
    simp only [splitB] at hx
    split at hx
    · rcases List.mem_cons.1 hx with rfl | h
      · simp at hc
      · exact List.mem_cons_of_mem _ (ih x h c hc)
    · split at hx
      · rename_i q t h
        rcases List.mem_cons.1 hx with rfl | h2
        · rcases List.mem_cons.1 hc with rfl | h3
          · simp
          · exact List.mem_cons_of_mem _ (ih q (by rw [h]; simp) c h3)
        · exact List.mem_cons_of_mem _ (ih x (by rw [h]; simp [h2]) c hc)
      · simp at hx
        rw [hx] at hc
        simp at hc
        rw [hc]; simp
theorem operands_mem (l : List UInt8) : ∀ o ∈ operandsOf l, ∀ c ∈ o, c ∈ l := by
  intro o ho c hc
  unfold operandsOf at ho
  split at ho
  · simp at ho
  · exact (List.mem_filter.1 (splitB_mem 44 _ o ho c hc)).1
theorem words_noSemi {l : List UInt8} (h : noSemi l) : ∀ o ∈ (wordsP l).operands, noSemi o := by
  intro o ho c hc
  unfold wordsP at ho
  split at ho
  · exact h c (List.mem_of_mem_drop (List.mem_of_mem_drop (operands_mem _ o ho c hc)))
  · exact h c (List.mem_of_mem_drop (operands_mem _ o ho c hc))

theorem wordOf_nil {l : List UInt8} (h : wordOf l = []) : restOf l = [] := by
  unfold wordOf at h
  unfold restOf
  have h1 : solid (l.drop (blanks l)) = 0 := by
    have h2 := congrArg List.length h
    rw [List.length_take, List.length_nil] at h2
    have h3 := solid_le (l.drop (blanks l))
    omega
  rw [h1, Nat.add_zero]
  have key : ∀ l : List UInt8, solid (l.drop (blanks l)) = 0 → l.drop (blanks l) = [] := by
    intro l
    induction l with
    | nil => intro _; rfl
    | cons c r ih =>
      simp only [blanks]
      split
      · rename_i hc
        simpa using ih
      · rename_i hc
        intro h
        simp only [List.drop_zero, solid] at h
        rw [if_neg hc] at h
        omega
  exact key l h1
theorem words_noop (l : List UInt8) : (wordsP l).op = [] → (wordsP l).operands = [] := by
  unfold wordsP
  split
  · intro h
    show operandsOf (restOf (restOf l)) = []
    rw [wordOf_nil h]
    rfl
  · intro h
    show operandsOf (restOf l) = []
    rw [wordOf_nil h]
    rfl

/-- What a line that is not passed over has to do. -/
def LinePost (B b r : Nat) (lv fv mv pv dv vo : Value) (opens : List OpenP) (st : StP) (at_ : Nat) (x : Int × List OpenP × Option MacP × StP) (w : World) (e : Ending) (w' : World) : Prop :=
  e = .returned (.tuple #[]) ∧ (x.1 ≠ 0 → Fq B (bkM b vo) w w' ∧ RdErr w' r x.1 at_ ∧ BkRow w' b lv fv mv pv dv) ∧
    (x.1 = 0 → x.2.2.1 = none → Fq B (bkM b vo) w w' ∧ (∃ vo', BkAt w' B b lv fv mv pv dv vo' (.pointer none) x.2.1 ∧ ∀ g, vo'.ownBlock = some g → vo.ownBlock = some g ∨ w.heap.size ≤ g) ∧ RdSt w' B r x.2.2.2) ∧
    (x.1 = 0 → ∀ d, x.2.2.1 = some d → x.2.1 = opens ∧ x.2.2.2 = st ∧ ∃ w1 gd nm qv ps, Below w.heap.size w w1 ∧ d = ⟨L nm, ps.map L, []⟩ ∧ Keeps [b] w1 w' ∧ RowT w' 130 b [lv, fv, mv, pv, dv, vo, .pointer (some ⟨gd, 0, none⟩)] ∧ w1.heap.size ≤ gd ∧ RowT w' 192 gd [.string nm, qv, .slice none 0 0] ∧ StrV w' 0 qv ps ∧ StrLt w1.heap.size qv)
theorem line_of_bk {B b r : Nat} {lv fv mv pv dv vo : Value} {opens : List OpenP} {st : StP} {at_ : Nat} {y : Int × List OpenP} {w w2 w' : World} {e : Ending} (hb : Below w.heap.size w w2) (h : BkPost B b r lv fv mv pv dv vo none at_ y st w2 e w') : LinePost B b r lv fv mv pv dv vo opens st at_ (y.1, y.2, none, st) w e w' := by
  obtain ⟨h1, h2, h3, h4⟩ := h
  refine ⟨h1, fun h0 => ⟨(Fq.of_below hb).trans h2, (h4 h0).1, (h4 h0).2⟩, fun h0 _ => ?_, fun _ d hd => by cases hd⟩
  obtain ⟨⟨vo', hk, hg⟩, hr⟩ := h3 h0
  refine ⟨(Fq.of_below hb).trans h2, ⟨vo', hk, fun g h => (hg g h).imp id fun h5 => ?_⟩, hr⟩
  have := hb.size
  omega
theorem line_of_rd {B b r : Nat} {lv fv mv pv dv vo : Value} {opens : List OpenP} {st : StP} {at_ : Nat} {y : Int × StP} {w w2 w' : World} {e : Ending} (hb : Below w.heap.size w w2) (hk : BkAt w2 B b lv fv mv pv dv vo (.pointer none) opens) (h : RdPost B r [] at_ y w2 e w') : LinePost B b r lv fv mv pv dv vo opens st at_ (y.1, opens, none, y.2) w e w' := by
  obtain ⟨h1, h2, h3, h4⟩ := h
  have hk2 := hk.fq h2 (by simp) (fun _ _ => by simp)
  exact ⟨h1, fun h0 => ⟨(Fq.of_below hb).trans h2.wide, h4 h0, hk2.toRow⟩, fun h0 _ => ⟨(Fq.of_below hb).trans h2.wide, ⟨vo, hk2, fun g h => Or.inl h⟩, h3 h0⟩, fun _ d hd => by cases hd⟩

set_option maxRecDepth 100000 in
set_option maxHeartbeats 3200000 in
theorem does_any (n : Nat) (hc : CallsOk n) (w : World) (B b r : Nat) (lv fv pv vo : Value) (mp : Option Addr) (opens : List OpenP) (at_ : Nat) (st : StP) (s : ByteArray) (k : Nat)
    (h : BkAt w B b lv fv (.pointer mp) pv (.int .i64 ((8 - n : Nat) : Int)) vo (.pointer none) opens) (hx : RdSt w B r st) (hs : s.size ≤ 100) (hse : noSemi (L s)) (hok : StOk st k) (hB : B ≤ w.heap.size) :
    Calls Tryz.prog 92 #[.pointer (some ⟨b, 0, none⟩), .pointer (some ⟨r, 0, none⟩), .string s, .int .i64 (at_ : Nat)] w (LinePost B b r lv fv (.pointer mp) pv (.int .i64 ((8 - n : Nat) : Int)) vo opens st at_ (lineP (callN n) mp.isSome (wordsP (L s)) at_ opens st) w) := by
  obtain ⟨vm, vn, vl, ms, ns, outs, calls, hx, hst⟩ := hx
  subst hst
  obtain ⟨x, hxr⟩ : ∃ x, lineP (callN n) mp.isSome (wordsP (L s)) at_ opens (stQ ms ns outs calls) = x := ⟨_, rfl⟩
  rw [hxr]
  have hml : ms.length ≤ 3001 := by
    have h1 := hok.few
    have h2 := hok.taken
    simp only [stQ, List.length_map] at h1
    omega
  have hnl : (stQ ms ns outs calls).names.length ≤ 1000 := by have h1 := hok.names; have h2 := hok.out; omega
  have hol : outs.length ≤ 300 := by simpa [stQ] using hok.out
  have hwok : WOk (wordsP (L s)) := ⟨L s, by rw [L_length]; exact hs, by rw [cutL_id hse]⟩
  have HSE := hid (words_noSemi hse)
  have HWOK := hid hwok
  have HOK := hid hok
  have HX := hid hx
  have HBK := hid h
  clear hx h hok hwok
  go_enter Tryz.func92, Tryz.ntmps92
  go_upto_region 1 with (first | (go_at_call 63; refine (words_any s _ (by omega)).mono ?_; rintro e w1 ⟨lb, op, oa, oc, os, rfl, hp, hb1⟩))
  have hb2 : Below w1.heap.size w1 (w1.alloc (.cells #[.string lb, .string op, .slice oa os.length oc] 134)) := (Below.refl _ _).alloc (Nat.le_refl _) _
  have HF := hid (hb1.trans (hb2.mono hb1.size))
  have HX := hid (HX.out.below HF.out)
  have HBK := hid (HBK.out.below HF.out)
  have HP := hid (hp.below hb2)
  have HBX := hid (show RowT (w1.alloc (.cells #[.string lb, .string op, .slice oa os.length oc] 134)) 134 w1.heap.size [.string lb, .string op, .slice oa os.length oc] from RowT.new w1 134 [.string lb, .string op, .slice oa os.length oc])
  clear hb1 hb2 hp hse
  generalize w1.alloc (.cells #[.string lb, .string op, .slice oa os.length oc] 134) = w2 at HX HBK HP HF HBX ⊢
  generalize w1.heap.size = bx at HBX ⊢
  obtain ⟨W, hW⟩ : ∃ W, wordsP (L s) = W := ⟨_, rfl⟩
  have HNOP := hid (show (wordsP (L s)).op = [] → (wordsP (L s)).operands = [] from words_noop (L s))
  rw [hW] at HP HSE HWOK hxr HNOP
  clear hW
  obtain ⟨b1, b2, b3⟩ := HWOK.out.parts HP.out
  have HSZ := hid (show ∀ i (hi : i < os.length), os[i].size ≤ 1000 from fun i hi => Nat.le_trans (b2 i hi) (by omega))
  have HOP := hid HP.out.op
  obtain ⟨t1, t2, t3⟩ := HP.out.two
  clear b2 t3
  have y0 := HBX.out.cell 0 (by simp)
  have y1 := HBX.out.cell 1 (by simp)
  have y2 := HBX.out.cell 2 (by simp)
  have hB2 : B ≤ w2.heap.size := Nat.le_trans hB HF.out.size
  have HM := hid (macro_any w2 B r vm vn vl ms ns outs calls HX.out hml op)
  unfold lineP at hxr
  have HC := hid hc
  clear hc
  have HNO := hid (show W.op = [] → W.operands = [] from HNOP.out)
  go_wp2_with fail
  refine HM.out.mono ?_
  rintro e w3 ⟨hw3, hcase⟩
  obtain rfl := hw3.symm
  rcases hcase with ⟨hf, rfl⟩ | ⟨m, hm, hf, rfl⟩
  · clear HM
    by_cases hop : W.op = opIf
    · rw [if_pos hop] at hxr
      have kopMacro : (op.toList == [46, 109, 97, 99, 114, 111]) = false := op_not (by rw [HOP.out, hop]; decide)
      have kopEnd : (op.toList == [46, 101, 110, 100]) = false := op_not (by rw [HOP.out, hop]; decide)
      have kopIf : (op.toList == [46, 105, 102]) = true := op_is (HOP.out.trans hop)
      have kopElse : (op.toList == [46, 101, 108, 115, 101]) = false := op_not (by rw [HOP.out, hop]; decide)
      have kopEndif : (op.toList == [46, 101, 110, 100, 105, 102]) = false := op_not (by rw [HOP.out, hop]; decide)
      have kopSet : (op.toList == [46, 115, 101, 116]) = false := op_not (by rw [HOP.out, hop]; decide)
      have HXR := hid hxr
      clear hxr
      go_wp2_with fail
      refine (begins_any w2 B b r lv fv (.pointer mp) pv (.int .i64 ((8 - n : Nat) : Int)) vo none opens at_ (stQ ms ns outs calls) lb op oa oc os W w.heap.size HBK.out ⟨_, _, _, _, _, _, _, HX.out, rfl⟩ HP.out HSZ.out hnl hB2).mono ?_
      rintro e w4 hpost
      obtain ⟨rfl, _⟩ := id hpost
      have HPO := hid hpost
      clear hpost
      go_wp2_with fail
      first | go_end0 | refine bodyPost_ret (results_none rfl _ _ _) rfl ?_
      rw [← HXR.out]
      exact line_of_bk HF.out HPO.out
    · have hopIf := hop
      clear hop
      by_cases hop : W.op = opElse
      · rw [if_neg (by rw [hop]; decide), if_pos hop] at hxr
        have kopMacro : (op.toList == [46, 109, 97, 99, 114, 111]) = false := op_not (by rw [HOP.out, hop]; decide)
        have kopEnd : (op.toList == [46, 101, 110, 100]) = false := op_not (by rw [HOP.out, hop]; decide)
        have kopIf : (op.toList == [46, 105, 102]) = false := op_not (by rw [HOP.out, hop]; decide)
        have kopElse : (op.toList == [46, 101, 108, 115, 101]) = true := op_is (HOP.out.trans hop)
        have kopEndif : (op.toList == [46, 101, 110, 100, 105, 102]) = false := op_not (by rw [HOP.out, hop]; decide)
        have kopSet : (op.toList == [46, 115, 101, 116]) = false := op_not (by rw [HOP.out, hop]; decide)
        have HXR := hid hxr
        clear hxr
        go_wp2_with fail
        refine (turnsElse_any w2 B b r lv fv (.pointer mp) pv (.int .i64 ((8 - n : Nat) : Int)) vo none opens at_ (stQ ms ns outs calls) lb op oa oc os W w.heap.size HBK.out ⟨_, _, _, _, _, _, _, HX.out, rfl⟩ HP.out hop).mono ?_
        rintro e w4 hpost
        obtain ⟨rfl, _⟩ := id hpost
        have HPO := hid hpost
        clear hpost
        go_wp2_with fail
        first | go_end0 | refine bodyPost_ret (results_none rfl _ _ _) rfl ?_
        rw [← HXR.out]
        exact line_of_bk HF.out HPO.out
      · have hopElse := hop
        clear hop
        by_cases hop : W.op = opEndif
        · rw [if_neg (by rw [hop]; decide), if_neg (by rw [hop]; decide), if_pos hop] at hxr
          have kopMacro : (op.toList == [46, 109, 97, 99, 114, 111]) = false := op_not (by rw [HOP.out, hop]; decide)
          have kopEnd : (op.toList == [46, 101, 110, 100]) = false := op_not (by rw [HOP.out, hop]; decide)
          have kopIf : (op.toList == [46, 105, 102]) = false := op_not (by rw [HOP.out, hop]; decide)
          have kopElse : (op.toList == [46, 101, 108, 115, 101]) = false := op_not (by rw [HOP.out, hop]; decide)
          have kopEndif : (op.toList == [46, 101, 110, 100, 105, 102]) = true := op_is (HOP.out.trans hop)
          have kopSet : (op.toList == [46, 115, 101, 116]) = false := op_not (by rw [HOP.out, hop]; decide)
          have HXR := hid hxr
          clear hxr
          go_wp2_with fail
          refine (turnsEnd_any w2 B b r lv fv (.pointer mp) pv (.int .i64 ((8 - n : Nat) : Int)) vo none opens at_ (stQ ms ns outs calls) lb op oa oc os W w.heap.size HBK.out ⟨_, _, _, _, _, _, _, HX.out, rfl⟩ HP.out hop).mono ?_
          rintro e w4 hpost
          obtain ⟨rfl, _⟩ := id hpost
          have HPO := hid hpost
          clear hpost
          go_wp2_with fail
          first | go_end0 | refine bodyPost_ret (results_none rfl _ _ _) rfl ?_
          rw [← HXR.out]
          exact line_of_bk HF.out HPO.out
        · have hopEndif := hop
          clear hop
          by_cases hop : W.op = opMacro
          · rw [if_neg (by rw [hop]; decide), if_neg (by rw [hop]; decide), if_neg (by rw [hop]; decide), if_pos hop] at hxr
            have kopMacro : (op.toList == [46, 109, 97, 99, 114, 111]) = true := op_is (HOP.out.trans hop)
            have kopEnd : (op.toList == [46, 101, 110, 100]) = false := op_not (by rw [HOP.out, hop]; decide)
            have kopIf : (op.toList == [46, 105, 102]) = false := op_not (by rw [HOP.out, hop]; decide)
            have kopElse : (op.toList == [46, 101, 108, 115, 101]) = false := op_not (by rw [HOP.out, hop]; decide)
            have kopEndif : (op.toList == [46, 101, 110, 100, 105, 102]) = false := op_not (by rw [HOP.out, hop]; decide)
            have kopSet : (op.toList == [46, 115, 101, 116]) = false := op_not (by rw [HOP.out, hop]; decide)
            have HXR := hid hxr
            clear hxr
            go_wp2_with fail
            refine (defines_any w2 B b r lv fv pv (.int .i64 ((8 - n : Nat) : Int)) vo mp none opens at_ (stQ ms ns outs calls) lb op oa oc os W w.heap.size k HBK.out ⟨_, _, _, _, _, _, _, HX.out, rfl⟩ HP.out HWOK.out HOK.out).mono ?_
            rintro e w4 ⟨rfl, hp1, hp2⟩
            have HP1 := hid hp1
            have HP2 := hid hp2
            clear hp1 hp2
            go_wp2_with fail
            first | go_end0 | refine bodyPost_ret (results_none rfl _ _ _) rfl ?_
            rw [← HXR.out]
            refine ⟨rfl, fun h0 => ⟨(Fq.of_below HF.out).trans (HP1.out h0).1.wide, (HP1.out h0).2.1, (HP1.out h0).2.2⟩, fun h0 hn => ?_, fun h0 d hd => ⟨rfl, rfl, ?_⟩⟩
            · obtain ⟨gd, nm, qv, ps, hs2, _⟩ := HP2.out h0
              rw [hs2] at hn
              cases hn
            · obtain ⟨gd, nm, qv, ps, hs2, h5, h6, h7, h8, h9, h10⟩ := HP2.out h0
              rw [hs2] at hd
              injection hd with hd
              exact ⟨w2, gd, nm, qv, ps, HF.out, hd.symm, h5, h6, h7, h8, h9, h10⟩
          · have hopMacro := hop
            clear hop
            by_cases hop : W.op = opEnd
            · rw [if_neg (by rw [hop]; decide), if_neg (by rw [hop]; decide), if_neg (by rw [hop]; decide), if_neg (by rw [hop]; decide), if_pos hop] at hxr
              have kopMacro : (op.toList == [46, 109, 97, 99, 114, 111]) = false := op_not (by rw [HOP.out, hop]; decide)
              have kopEnd : (op.toList == [46, 101, 110, 100]) = true := op_is (HOP.out.trans hop)
              have kopIf : (op.toList == [46, 105, 102]) = false := op_not (by rw [HOP.out, hop]; decide)
              have kopElse : (op.toList == [46, 101, 108, 115, 101]) = false := op_not (by rw [HOP.out, hop]; decide)
              have kopEndif : (op.toList == [46, 101, 110, 100, 105, 102]) = false := op_not (by rw [HOP.out, hop]; decide)
              have kopSet : (op.toList == [46, 115, 101, 116]) = false := op_not (by rw [HOP.out, hop]; decide)
              have HXR := hid hxr
              clear hxr
              go_wp2_with (first | (go_at_call 60; refine (bad_rd _ B r (stQ ms ns outs calls) 2 at_ ⟨_, _, _, _, _, _, _, HX.out, rfl⟩ (by decide)).mono ?_; rintro e w4 hpost; obtain ⟨rfl, _⟩ := id hpost; have HPO := hid hpost; clear hpost))
              first | go_end0 | refine bodyPost_ret (results_none rfl _ _ _) rfl ?_
              rw [← HXR.out]
              exact line_of_rd HF.out HBK.out HPO.out
            · have hopEnd := hop
              clear hop
              by_cases hop : W.op = opSet
              · rw [if_neg (by rw [hop]; decide), if_neg (by rw [hop]; decide), if_neg (by rw [hop]; decide), if_neg (by rw [hop]; decide), if_neg (by rw [hop]; decide), if_pos hop] at hxr
                have kopMacro : (op.toList == [46, 109, 97, 99, 114, 111]) = false := op_not (by rw [HOP.out, hop]; decide)
                have kopEnd : (op.toList == [46, 101, 110, 100]) = false := op_not (by rw [HOP.out, hop]; decide)
                have kopIf : (op.toList == [46, 105, 102]) = false := op_not (by rw [HOP.out, hop]; decide)
                have kopElse : (op.toList == [46, 101, 108, 115, 101]) = false := op_not (by rw [HOP.out, hop]; decide)
                have kopEndif : (op.toList == [46, 101, 110, 100, 105, 102]) = false := op_not (by rw [HOP.out, hop]; decide)
                have kopSet : (op.toList == [46, 115, 101, 116]) = true := op_is (HOP.out.trans hop)
                have HXR := hid hxr
                clear hxr
                go_wp2_with fail
                refine (sets_any w2 B r at_ (stQ ms ns outs calls) lb op oa oc os W w.heap.size k ⟨_, _, _, _, _, _, _, HX.out, rfl⟩ HP.out HWOK.out HOK.out hB2).mono ?_
                rintro e w4 hpost
                obtain ⟨rfl, _⟩ := id hpost
                have HPO := hid hpost
                clear hpost
                go_wp2_with fail
                first | go_end0 | refine bodyPost_ret (results_none rfl _ _ _) rfl ?_
                rw [← HXR.out]
                exact line_of_rd HF.out HBK.out HPO.out
              · have hopSet := hop
                clear hop
                rw [if_neg hopIf, if_neg hopElse, if_neg hopEndif, if_neg hopMacro, if_neg hopEnd, if_neg hopSet] at hxr
                have hf' : findM (stQ ms ns outs calls).macros W.op = none := by rw [← HOP.out]; exact hf
                rw [hf'] at hxr
                have kopMacro : (op.toList == [46, 109, 97, 99, 114, 111]) = false := op_not (fun c => hopMacro (HOP.out.symm.trans c))
                have kopEnd : (op.toList == [46, 101, 110, 100]) = false := op_not (fun c => hopEnd (HOP.out.symm.trans c))
                have kopIf : (op.toList == [46, 105, 102]) = false := op_not (fun c => hopIf (HOP.out.symm.trans c))
                have kopElse : (op.toList == [46, 101, 108, 115, 101]) = false := op_not (fun c => hopElse (HOP.out.symm.trans c))
                have kopEndif : (op.toList == [46, 101, 110, 100, 105, 102]) = false := op_not (fun c => hopEndif (HOP.out.symm.trans c))
                have kopSet : (op.toList == [46, 115, 101, 116]) = false := op_not (fun c => hopSet (HOP.out.symm.trans c))
                have HXR := hid (show ((leaveP W at_ (stQ ms ns outs calls)).1, opens, none, (leaveP W at_ (stQ ms ns outs calls)).2) = x from hxr)
                clear hxr hf hf' hopIf hopElse hopEndif hopMacro hopEnd hopSet
                by_cases hnt : lb.size = 0 ∧ op.size = 0
                · have kl := is_empty lb hnt.1
                  have ko := is_empty op hnt.2
                  have htx : textP W = [] := by
                    have e1 : W.label = [] := t1.2 hnt.1
                    have e2 : W.op = [] := by rw [← HOP.out]; exact L_zero hnt.2
                    have e3 : W.operands = [] := HNO.out e2
                    unfold textP
                    rw [e1, e2, e3]
                    rfl
                  have hlv : leaveP W at_ (stQ ms ns outs calls) = (0, stQ ms ns outs calls) := by unfold leaveP; rw [if_pos htx]
                  have HLV := hid hlv
                  clear hnt htx hlv
                  go_wp2_with fail
                  first | go_end0 | refine bodyPost_ret (results_none rfl _ _ _) rfl ?_
                  rw [← HXR.out, HLV.out]
                  exact ⟨rfl, fun c => absurd rfl c, fun _ _ => ⟨Fq.of_below HF.out, ⟨vo, HBK.out, fun g h => Or.inl h⟩, ⟨_, _, _, _, _, _, _, HX.out, rfl⟩⟩, fun _ d hd => by cases hd⟩
                · have htx : textP W ≠ [] := by
                    rw [textP_head]
                    intro c
                    rw [List.append_eq_nil_iff] at c
                    have c1 := c.1
                    unfold headP at c1
                    by_cases hl0 : lb.size = 0
                    · have ho0 : ¬ op.size = 0 := fun c => hnt ⟨hl0, c⟩
                      have e2 : W.op ≠ [] := fun e => ho0 (by rw [size_L, HOP.out, e]; rfl)
                      rw [t1.2 hl0] at c1
                      simp [e2] at c1
                    · have e1 : W.label ≠ [] := fun e => hl0 (t1.1 e)
                      split at c1
                      · simp [e1] at c1
                      · simp at c1
                  have HTX := hid htx
                  have hor : lb.toList.isEmpty = false ∨ (lb.toList.isEmpty = true ∧ op.toList.isEmpty = false) := by
                    by_cases hl0 : lb.size = 0
                    · exact Or.inr ⟨is_empty lb hl0, not_empty op (by omega)⟩
                    · exact Or.inl (not_empty lb (by omega))
                  clear hnt htx
                  rcases hor with kl | ⟨kl, ko⟩
                  all_goals
                    go_wp2_with fail
                    refine (left_any w2 B r at_ vm vn vl ms ns outs calls lb op oa oc os W w.heap.size HX.out HP.out (Or.inl HWOK.out) HTX.out hol hB2).mono ?_
                    rintro e w4 ⟨rfl, hf4, hst4, her4⟩
                    have HPO := hid (show RdPost B r [] at_ (leaveP W at_ (stQ ms ns outs calls)) w2 (.returned (.tuple #[])) w4 from ⟨rfl, hf4, fun h0 => by obtain ⟨_, _, q1, q2⟩ := hst4 h0; exact ⟨_, _, _, _, _, _, _, q1, q2⟩, her4⟩)
                    clear hf4 hst4 her4
                    go_wp2_with fail
                    first | go_end0 | refine bodyPost_ret (results_none rfl _ _ _) rfl ?_
                    rw [← HXR.out]
                    exact line_of_rd HF.out HBK.out HPO.out
  · clear HM
    have HMR := hid (HX.out.macs m hm)
    have HMO := hid (show MacOk (plainQ m) from HOK.out.macs _ (List.mem_map.2 ⟨m, hm, rfl⟩))
    clear hm
    by_cases hop : W.op = opIf
    · rw [if_pos hop] at hxr
      have kopMacro : (op.toList == [46, 109, 97, 99, 114, 111]) = false := op_not (by rw [HOP.out, hop]; decide)
      have kopEnd : (op.toList == [46, 101, 110, 100]) = false := op_not (by rw [HOP.out, hop]; decide)
      have kopIf : (op.toList == [46, 105, 102]) = true := op_is (HOP.out.trans hop)
      have kopElse : (op.toList == [46, 101, 108, 115, 101]) = false := op_not (by rw [HOP.out, hop]; decide)
      have kopEndif : (op.toList == [46, 101, 110, 100, 105, 102]) = false := op_not (by rw [HOP.out, hop]; decide)
      have kopSet : (op.toList == [46, 115, 101, 116]) = false := op_not (by rw [HOP.out, hop]; decide)
      have HXR := hid hxr
      clear hxr
      go_wp2_with fail
      refine (begins_any w2 B b r lv fv (.pointer mp) pv (.int .i64 ((8 - n : Nat) : Int)) vo none opens at_ (stQ ms ns outs calls) lb op oa oc os W w.heap.size HBK.out ⟨_, _, _, _, _, _, _, HX.out, rfl⟩ HP.out HSZ.out hnl hB2).mono ?_
      rintro e w4 hpost
      obtain ⟨rfl, _⟩ := id hpost
      have HPO := hid hpost
      clear hpost
      go_wp2_with fail
      first | go_end0 | refine bodyPost_ret (results_none rfl _ _ _) rfl ?_
      rw [← HXR.out]
      exact line_of_bk HF.out HPO.out
    · have hopIf := hop
      clear hop
      by_cases hop : W.op = opElse
      · rw [if_neg (by rw [hop]; decide), if_pos hop] at hxr
        have kopMacro : (op.toList == [46, 109, 97, 99, 114, 111]) = false := op_not (by rw [HOP.out, hop]; decide)
        have kopEnd : (op.toList == [46, 101, 110, 100]) = false := op_not (by rw [HOP.out, hop]; decide)
        have kopIf : (op.toList == [46, 105, 102]) = false := op_not (by rw [HOP.out, hop]; decide)
        have kopElse : (op.toList == [46, 101, 108, 115, 101]) = true := op_is (HOP.out.trans hop)
        have kopEndif : (op.toList == [46, 101, 110, 100, 105, 102]) = false := op_not (by rw [HOP.out, hop]; decide)
        have kopSet : (op.toList == [46, 115, 101, 116]) = false := op_not (by rw [HOP.out, hop]; decide)
        have HXR := hid hxr
        clear hxr
        go_wp2_with fail
        refine (turnsElse_any w2 B b r lv fv (.pointer mp) pv (.int .i64 ((8 - n : Nat) : Int)) vo none opens at_ (stQ ms ns outs calls) lb op oa oc os W w.heap.size HBK.out ⟨_, _, _, _, _, _, _, HX.out, rfl⟩ HP.out hop).mono ?_
        rintro e w4 hpost
        obtain ⟨rfl, _⟩ := id hpost
        have HPO := hid hpost
        clear hpost
        go_wp2_with fail
        first | go_end0 | refine bodyPost_ret (results_none rfl _ _ _) rfl ?_
        rw [← HXR.out]
        exact line_of_bk HF.out HPO.out
      · have hopElse := hop
        clear hop
        by_cases hop : W.op = opEndif
        · rw [if_neg (by rw [hop]; decide), if_neg (by rw [hop]; decide), if_pos hop] at hxr
          have kopMacro : (op.toList == [46, 109, 97, 99, 114, 111]) = false := op_not (by rw [HOP.out, hop]; decide)
          have kopEnd : (op.toList == [46, 101, 110, 100]) = false := op_not (by rw [HOP.out, hop]; decide)
          have kopIf : (op.toList == [46, 105, 102]) = false := op_not (by rw [HOP.out, hop]; decide)
          have kopElse : (op.toList == [46, 101, 108, 115, 101]) = false := op_not (by rw [HOP.out, hop]; decide)
          have kopEndif : (op.toList == [46, 101, 110, 100, 105, 102]) = true := op_is (HOP.out.trans hop)
          have kopSet : (op.toList == [46, 115, 101, 116]) = false := op_not (by rw [HOP.out, hop]; decide)
          have HXR := hid hxr
          clear hxr
          go_wp2_with fail
          refine (turnsEnd_any w2 B b r lv fv (.pointer mp) pv (.int .i64 ((8 - n : Nat) : Int)) vo none opens at_ (stQ ms ns outs calls) lb op oa oc os W w.heap.size HBK.out ⟨_, _, _, _, _, _, _, HX.out, rfl⟩ HP.out hop).mono ?_
          rintro e w4 hpost
          obtain ⟨rfl, _⟩ := id hpost
          have HPO := hid hpost
          clear hpost
          go_wp2_with fail
          first | go_end0 | refine bodyPost_ret (results_none rfl _ _ _) rfl ?_
          rw [← HXR.out]
          exact line_of_bk HF.out HPO.out
        · have hopEndif := hop
          clear hop
          by_cases hop : W.op = opMacro
          · rw [if_neg (by rw [hop]; decide), if_neg (by rw [hop]; decide), if_neg (by rw [hop]; decide), if_pos hop] at hxr
            have kopMacro : (op.toList == [46, 109, 97, 99, 114, 111]) = true := op_is (HOP.out.trans hop)
            have kopEnd : (op.toList == [46, 101, 110, 100]) = false := op_not (by rw [HOP.out, hop]; decide)
            have kopIf : (op.toList == [46, 105, 102]) = false := op_not (by rw [HOP.out, hop]; decide)
            have kopElse : (op.toList == [46, 101, 108, 115, 101]) = false := op_not (by rw [HOP.out, hop]; decide)
            have kopEndif : (op.toList == [46, 101, 110, 100, 105, 102]) = false := op_not (by rw [HOP.out, hop]; decide)
            have kopSet : (op.toList == [46, 115, 101, 116]) = false := op_not (by rw [HOP.out, hop]; decide)
            have HXR := hid hxr
            clear hxr
            go_wp2_with fail
            refine (defines_any w2 B b r lv fv pv (.int .i64 ((8 - n : Nat) : Int)) vo mp none opens at_ (stQ ms ns outs calls) lb op oa oc os W w.heap.size k HBK.out ⟨_, _, _, _, _, _, _, HX.out, rfl⟩ HP.out HWOK.out HOK.out).mono ?_
            rintro e w4 ⟨rfl, hp1, hp2⟩
            have HP1 := hid hp1
            have HP2 := hid hp2
            clear hp1 hp2
            go_wp2_with fail
            first | go_end0 | refine bodyPost_ret (results_none rfl _ _ _) rfl ?_
            rw [← HXR.out]
            refine ⟨rfl, fun h0 => ⟨(Fq.of_below HF.out).trans (HP1.out h0).1.wide, (HP1.out h0).2.1, (HP1.out h0).2.2⟩, fun h0 hn => ?_, fun h0 d hd => ⟨rfl, rfl, ?_⟩⟩
            · obtain ⟨gd, nm, qv, ps, hs2, _⟩ := HP2.out h0
              rw [hs2] at hn
              cases hn
            · obtain ⟨gd, nm, qv, ps, hs2, h5, h6, h7, h8, h9, h10⟩ := HP2.out h0
              rw [hs2] at hd
              injection hd with hd
              exact ⟨w2, gd, nm, qv, ps, HF.out, hd.symm, h5, h6, h7, h8, h9, h10⟩
          · have hopMacro := hop
            clear hop
            by_cases hop : W.op = opEnd
            · rw [if_neg (by rw [hop]; decide), if_neg (by rw [hop]; decide), if_neg (by rw [hop]; decide), if_neg (by rw [hop]; decide), if_pos hop] at hxr
              have kopMacro : (op.toList == [46, 109, 97, 99, 114, 111]) = false := op_not (by rw [HOP.out, hop]; decide)
              have kopEnd : (op.toList == [46, 101, 110, 100]) = true := op_is (HOP.out.trans hop)
              have kopIf : (op.toList == [46, 105, 102]) = false := op_not (by rw [HOP.out, hop]; decide)
              have kopElse : (op.toList == [46, 101, 108, 115, 101]) = false := op_not (by rw [HOP.out, hop]; decide)
              have kopEndif : (op.toList == [46, 101, 110, 100, 105, 102]) = false := op_not (by rw [HOP.out, hop]; decide)
              have kopSet : (op.toList == [46, 115, 101, 116]) = false := op_not (by rw [HOP.out, hop]; decide)
              have HXR := hid hxr
              clear hxr
              go_wp2_with (first | (go_at_call 60; refine (bad_rd _ B r (stQ ms ns outs calls) 2 at_ ⟨_, _, _, _, _, _, _, HX.out, rfl⟩ (by decide)).mono ?_; rintro e w4 hpost; obtain ⟨rfl, _⟩ := id hpost; have HPO := hid hpost; clear hpost))
              first | go_end0 | refine bodyPost_ret (results_none rfl _ _ _) rfl ?_
              rw [← HXR.out]
              exact line_of_rd HF.out HBK.out HPO.out
            · have hopEnd := hop
              clear hop
              by_cases hop : W.op = opSet
              · rw [if_neg (by rw [hop]; decide), if_neg (by rw [hop]; decide), if_neg (by rw [hop]; decide), if_neg (by rw [hop]; decide), if_neg (by rw [hop]; decide), if_pos hop] at hxr
                have kopMacro : (op.toList == [46, 109, 97, 99, 114, 111]) = false := op_not (by rw [HOP.out, hop]; decide)
                have kopEnd : (op.toList == [46, 101, 110, 100]) = false := op_not (by rw [HOP.out, hop]; decide)
                have kopIf : (op.toList == [46, 105, 102]) = false := op_not (by rw [HOP.out, hop]; decide)
                have kopElse : (op.toList == [46, 101, 108, 115, 101]) = false := op_not (by rw [HOP.out, hop]; decide)
                have kopEndif : (op.toList == [46, 101, 110, 100, 105, 102]) = false := op_not (by rw [HOP.out, hop]; decide)
                have kopSet : (op.toList == [46, 115, 101, 116]) = true := op_is (HOP.out.trans hop)
                have HXR := hid hxr
                clear hxr
                go_wp2_with fail
                refine (sets_any w2 B r at_ (stQ ms ns outs calls) lb op oa oc os W w.heap.size k ⟨_, _, _, _, _, _, _, HX.out, rfl⟩ HP.out HWOK.out HOK.out hB2).mono ?_
                rintro e w4 hpost
                obtain ⟨rfl, _⟩ := id hpost
                have HPO := hid hpost
                clear hpost
                go_wp2_with fail
                first | go_end0 | refine bodyPost_ret (results_none rfl _ _ _) rfl ?_
                rw [← HXR.out]
                exact line_of_rd HF.out HBK.out HPO.out
              · have hopSet := hop
                clear hop
                rw [if_neg hopIf, if_neg hopElse, if_neg hopEndif, if_neg hopMacro, if_neg hopEnd, if_neg hopSet] at hxr
                have hf' : findM (stQ ms ns outs calls).macros W.op = some (plainQ m) := by rw [← HOP.out]; exact hf
                rw [hf'] at hxr
                have kopMacro : (op.toList == [46, 109, 97, 99, 114, 111]) = false := op_not (fun c => hopMacro (HOP.out.symm.trans c))
                have kopEnd : (op.toList == [46, 101, 110, 100]) = false := op_not (fun c => hopEnd (HOP.out.symm.trans c))
                have kopIf : (op.toList == [46, 105, 102]) = false := op_not (fun c => hopIf (HOP.out.symm.trans c))
                have kopElse : (op.toList == [46, 101, 108, 115, 101]) = false := op_not (fun c => hopElse (HOP.out.symm.trans c))
                have kopEndif : (op.toList == [46, 101, 110, 100, 105, 102]) = false := op_not (fun c => hopEndif (HOP.out.symm.trans c))
                have kopSet : (op.toList == [46, 115, 101, 116]) = false := op_not (fun c => hopSet (HOP.out.symm.trans c))
                have HXR := hid (show ((callN n (plainQ m) W at_ (stQ ms ns outs calls)).1, opens, none, (callN n (plainQ m) W at_ (stQ ms ns outs calls)).2) = x from hxr)
                clear hxr hf hf' hopIf hopElse hopEndif hopMacro hopEnd hopSet
                go_wp2_with fail
                refine (HC.out w2 B b r at_ k lv fv (.pointer mp) pv vo (.pointer none) m (stQ ms ns outs calls) lb op oa oc os W w.heap.size HBK.out.row ⟨_, _, _, _, _, _, _, HX.out, rfl⟩ HMR.out HMO.out HP.out HWOK.out HSE.out HOK.out hB2).mono ?_
                rintro e w4 hpost
                obtain ⟨rfl, _⟩ := id hpost
                have HPO := hid hpost
                clear hpost
                go_wp2_with fail
                first | go_end0 | refine bodyPost_ret (results_none rfl _ _ _) rfl ?_
                rw [← HXR.out]
                exact line_of_rd HF.out HBK.out HPO.out

end Go.Proofs.YtcepppilgncdmaaGreatDoor
