/-
  What the document's own package (masonref) does with a line: one that is not passed over, and one that is.
  What the document's own package (masonref) does with a line that is passed over.
  What keeps the state within bounds, where a macro's lines are gone through. Nothing of the program stands here.
  How the document's own package (masonref) goes through a macro's lines.
  How the document's own package (masonref) goes through the text's lines.
-/
import Derived.Test.YtcepppilgncdmaaGreatDoorBE17
import Derived.Test.YtcepppilgncdmaaGreatDoorBE13
namespace Go.Proofs.YtcepppilgncdmaaGreatDoor
open Go.RowKit
attribute [local go_sem ↓] Go.wp_at_zero Go.wp_at_succ

theorem cutL_noSemi (l : List UInt8) : noSemi (cutL l) := by
  induction l with
  | nil => intro c hc; simp [cutL] at hc
  | cons c r ih =>
    simp only [cutL]
    split
    · intro c hc; simp at hc
    · rename_i h
      intro d hd
      rcases List.mem_cons.1 hd with rfl | h2
      · exact h
      · exact ih d h2
theorem cutL_id {l : List UInt8} (h : noSemi l) : cutL l = l := by
  induction l with
  | nil => rfl
  | cons c r ih =>
    simp only [cutL]
    rw [if_neg (h c (by simp)), ih (fun d hd => h d (by simp [hd]))]
theorem splitB_mem (b : Int) (l : List UInt8) : ∀ x ∈ splitB b l, ∀ c ∈ x, c ∈ l := by
  induction l with
  | nil => intro x hx c hc; simp [splitB] at hx; rw [hx] at hc; simp at hc
  | cons d r ih =>
    intro x hx c hc
    simp only [splitB] at hx
    split at hx
    · rcases List.mem_cons.1 hx with rfl | h
      · simp at hc
      · exact List.mem_cons_of_mem _ (ih x h c hc)
    · split at hx
      · rename_i q t h
        rcases List.mem_cons.1 hx with rfl | h2
        · rcases List.mem_cons.1 hc with rfl | h3
          · simp
          · exact List.mem_cons_of_mem _ (ih q (by rw [h]; simp) c h3)
        · exact List.mem_cons_of_mem _ (ih x (by rw [h]; simp [h2]) c hc)
      · simp at hx
        rw [hx] at hc
        simp at hc
        rw [hc]; simp
theorem operands_mem (l : List UInt8) : ∀ o ∈ operandsOf l, ∀ c ∈ o, c ∈ l := by
  intro o ho c hc
  unfold operandsOf at ho
  split at ho
  · simp at ho
  · exact (List.mem_filter.1 (splitB_mem 44 _ o ho c hc)).1
theorem words_noSemi {l : List UInt8} (h : noSemi l) : ∀ o ∈ (wordsP l).operands, noSemi o := by
  intro o ho c hc
  unfold wordsP at ho
  split at ho
  · exact h c (List.mem_of_mem_drop (List.mem_of_mem_drop (operands_mem _ o ho c hc)))
  · exact h c (List.mem_of_mem_drop (operands_mem _ o ho c hc))

theorem wordOf_nil {l : List UInt8} (h : wordOf l = []) : restOf l = [] := by
  unfold wordOf at h
  unfold restOf
  have h1 : solid (l.drop (blanks l)) = 0 := by
    have h2 := congrArg List.length h
    rw [List.length_take, List.length_nil] at h2
    have h3 := solid_le (l.drop (blanks l))
    omega
  rw [h1, Nat.add_zero]
  have key : ∀ l : List UInt8, solid (l.drop (blanks l)) = 0 → l.drop (blanks l) = [] := by
    intro l
    induction l with
    | nil => intro _; rfl
    | cons c r ih =>
      simp only [blanks]
      split
      · rename_i hc
        simpa using ih
      · rename_i hc
        intro h
        simp only [List.drop_zero, solid] at h
        rw [if_neg hc] at h
        omega
  exact key l h1
theorem words_noop (l : List UInt8) : (wordsP l).op = [] → (wordsP l).operands = [] := by
  unfold wordsP
  split
  · intro h
    show operandsOf (restOf (restOf l)) = []
    rw [wordOf_nil h]
    rfl
  · intro h
    show operandsOf (restOf l) = []
    rw [wordOf_nil h]
    rfl

/-- What a line that is not passed over has to do. -/
def LinePost (B b r : Nat) (lv fv mv pv dv vo : Value) (opens : List OpenP) (st : StP) (at_ : Nat) (x : Int × List OpenP × Option MacP × StP) (w : World) (e : Ending) (w' : World) : Prop :=
  e = .returned (.tuple #[]) ∧ (x.1 ≠ 0 → Fq B (bkM b vo) w w' ∧ RdErr w' r x.1 at_ ∧ BkRow w' b lv fv mv pv dv) ∧
    (x.1 = 0 → x.2.2.1 = none → Fq B (bkM b vo) w w' ∧ (∃ vo', BkAt w' B b lv fv mv pv dv vo' (.pointer none) x.2.1 ∧ ∀ g, vo'.ownBlock = some g → vo.ownBlock = some g ∨ w.heap.size ≤ g) ∧ RdSt w' B r x.2.2.2) ∧
    (x.1 = 0 → ∀ d, x.2.2.1 = some d → x.2.1 = opens ∧ x.2.2.2 = st ∧ ∃ w1 gd nm qv ps, Below w.heap.size w w1 ∧ d = ⟨L nm, ps.map L, []⟩ ∧ Keeps [b] w1 w' ∧ RowT w' 130 b [lv, fv, mv, pv, dv, vo, .pointer (some ⟨gd, 0, none⟩)] ∧ w1.heap.size ≤ gd ∧ RowT w' 192 gd [.string nm, qv, .slice none 0 0] ∧ StrV w' 0 qv ps ∧ StrLt w1.heap.size qv)
theorem line_of_bk {B b r : Nat} {lv fv mv pv dv vo : Value} {opens : List OpenP} {st : StP} {at_ : Nat} {y : Int × List OpenP} {w w2 w' : World} {e : Ending} (hb : Below w.heap.size w w2) (h : BkPost B b r lv fv mv pv dv vo none at_ y st w2 e w') : LinePost B b r lv fv mv pv dv vo opens st at_ (y.1, y.2, none, st) w e w' := by
  obtain ⟨h1, h2, h3, h4⟩ := h
  refine ⟨h1, fun h0 => ⟨(Fq.of_below hb).trans h2, (h4 h0).1, (h4 h0).2⟩, fun h0 _ => ?_, fun _ d hd => by cases hd⟩
  obtain ⟨⟨vo', hk, hg⟩, hr⟩ := h3 h0
  refine ⟨(Fq.of_below hb).trans h2, ⟨vo', hk, fun g h => (hg g h).imp id fun h5 => ?_⟩, hr⟩
  have := hb.size
  omega
theorem line_of_rd {B b r : Nat} {lv fv mv pv dv vo : Value} {opens : List OpenP} {st : StP} {at_ : Nat} {y : Int × StP} {w w2 w' : World} {e : Ending} (hb : Below w.heap.size w w2) (hk : BkAt w2 B b lv fv mv pv dv vo (.pointer none) opens) (h : RdPost B r [] at_ y w2 e w') : LinePost B b r lv fv mv pv dv vo opens st at_ (y.1, opens, none, y.2) w e w' := by
  obtain ⟨h1, h2, h3, h4⟩ := h
  have hk2 := hk.fq h2 (by simp) (fun _ _ => by simp)
  exact ⟨h1, fun h0 => ⟨(Fq.of_below hb).trans h2.wide, h4 h0, hk2.toRow⟩, fun h0 _ => ⟨(Fq.of_below hb).trans h2.wide, ⟨vo, hk2, fun g h => Or.inl h⟩, h3 h0⟩, fun _ d hd => by cases hd⟩

set_option maxRecDepth 100000 in
set_option maxHeartbeats 3200000 in
theorem does_any (n : Nat) (hc : CallsOk n) (w : World) (B b r : Nat) (lv fv pv vo : Value) (mp : Option Addr) (opens : List OpenP) (at_ : Nat) (st : StP) (s : ByteArray) (k : Nat)
    (h : BkAt w B b lv fv (.pointer mp) pv (.int .i64 ((8 - n : Nat) : Int)) vo (.pointer none) opens) (hx : RdSt w B r st) (hs : s.size ≤ 100) (hse : noSemi (L s)) (hok : StOk st k) (hB : B ≤ w.heap.size) :
    Calls Tryz.prog 92 #[.pointer (some ⟨b, 0, none⟩), .pointer (some ⟨r, 0, none⟩), .string s, .int .i64 (at_ : Nat)] w (LinePost B b r lv fv (.pointer mp) pv (.int .i64 ((8 - n : Nat) : Int)) vo opens st at_ (lineP (callN n) mp.isSome (wordsP (L s)) at_ opens st) w) := by
  obtain ⟨vm, vn, vl, ms, ns, outs, calls, hx, hst⟩ := hx
  subst hst
  obtain ⟨x, hxr⟩ : ∃ x, lineP (callN n) mp.isSome (wordsP (L s)) at_ opens (stQ ms ns outs calls) = x := ⟨_, rfl⟩
  rw [hxr]
  have hml : ms.length ≤ 3001 := by
    have h1 := hok.few
    have h2 := hok.taken
    simp only [stQ, List.length_map] at h1
    omega
  have hnl : (stQ ms ns outs calls).names.length ≤ 1000 := by have h1 := hok.names; have h2 := hok.out; omega
  have hol : outs.length ≤ 300 := by simpa [stQ] using hok.out
  have hwok : WOk (wordsP (L s)) := ⟨L s, by rw [L_length]; exact hs, by rw [cutL_id hse]⟩
  have HSE := hid (words_noSemi hse)
  have HWOK := hid hwok
  have HOK := hid hok
  have HX := hid hx
  have HBK := hid h
  clear hx h hok hwok
  go_enter Tryz.func92, Tryz.ntmps92
  go_upto_region 1 with (first | (go_at_call 63; refine (words_any s _ (by omega)).mono ?_; rintro e w1 ⟨lb, op, oa, oc, os, rfl, hp, hb1⟩))
  have hb2 : Below w1.heap.size w1 (w1.alloc (.cells #[.string lb, .string op, .slice oa os.length oc] 134)) := (Below.refl _ _).alloc (Nat.le_refl _) _
  have HF := hid (hb1.trans (hb2.mono hb1.size))
  have HX := hid (HX.out.below HF.out)
  have HBK := hid (HBK.out.below HF.out)
  have HP := hid (hp.below hb2)
  have HBX := hid (show RowT (w1.alloc (.cells #[.string lb, .string op, .slice oa os.length oc] 134)) 134 w1.heap.size [.string lb, .string op, .slice oa os.length oc] from RowT.new w1 134 [.string lb, .string op, .slice oa os.length oc])
  clear hb1 hb2 hp hse
  generalize w1.alloc (.cells #[.string lb, .string op, .slice oa os.length oc] 134) = w2 at HX HBK HP HF HBX ⊢
  generalize w1.heap.size = bx at HBX ⊢
  obtain ⟨W, hW⟩ : ∃ W, wordsP (L s) = W := ⟨_, rfl⟩
  have HNOP := hid (show (wordsP (L s)).op = [] → (wordsP (L s)).operands = [] from words_noop (L s))
  rw [hW] at HP HSE HWOK hxr HNOP
  clear hW
  obtain ⟨b1, b2, b3⟩ := HWOK.out.parts HP.out
  have HSZ := hid (show ∀ i (hi : i < os.length), os[i].size ≤ 1000 from fun i hi => Nat.le_trans (b2 i hi) (by omega))
  have HOP := hid HP.out.op
  obtain ⟨t1, t2, t3⟩ := HP.out.two
  clear b2 t3
  have y0 := HBX.out.cell 0 (by simp)
  have y1 := HBX.out.cell 1 (by simp)
  have y2 := HBX.out.cell 2 (by simp)
  have hB2 : B ≤ w2.heap.size := Nat.le_trans hB HF.out.size
  have HM := hid (macro_any w2 B r vm vn vl ms ns outs calls HX.out hml op)
  unfold lineP at hxr
  have HC := hid hc
  clear hc
  have HNO := hid (show W.op = [] → W.operands = [] from HNOP.out)
  go_wp2_with fail
  refine HM.out.mono ?_
  rintro e w3 ⟨hw3, hcase⟩
  obtain rfl := hw3.symm
  rcases hcase with ⟨hf, rfl⟩ | ⟨m, hm, hf, rfl⟩
  · clear HM
    by_cases hop : W.op = opIf
    · rw [if_pos hop] at hxr
      have kopMacro : (op.toList == [46, 109, 97, 99, 114, 111]) = false := op_not (by rw [HOP.out, hop]; decide)
      have kopEnd : (op.toList == [46, 101, 110, 100]) = false := op_not (by rw [HOP.out, hop]; decide)
      have kopIf : (op.toList == [46, 105, 102]) = true := op_is (HOP.out.trans hop)
      have kopElse : (op.toList == [46, 101, 108, 115, 101]) = false := op_not (by rw [HOP.out, hop]; decide)
      have kopEndif : (op.toList == [46, 101, 110, 100, 105, 102]) = false := op_not (by rw [HOP.out, hop]; decide)
      have kopSet : (op.toList == [46, 115, 101, 116]) = false := op_not (by rw [HOP.out, hop]; decide)
      have HXR := hid hxr
      clear hxr
      go_wp2_with fail
      refine (begins_any w2 B b r lv fv (.pointer mp) pv (.int .i64 ((8 - n : Nat) : Int)) vo none opens at_ (stQ ms ns outs calls) lb op oa oc os W w.heap.size HBK.out ⟨_, _, _, _, _, _, _, HX.out, rfl⟩ HP.out HSZ.out hnl hB2).mono ?_
      rintro e w4 hpost
      obtain ⟨rfl, _⟩ := id hpost
      have HPO := hid hpost
      clear hpost
      go_wp2_with fail
      first | go_end0 | refine bodyPost_ret (results_none rfl _ _ _) rfl ?_
      rw [← HXR.out]
      exact line_of_bk HF.out HPO.out
    · have hopIf := hop
      clear hop
      by_cases hop : W.op = opElse
      · rw [if_neg (by rw [hop]; decide), if_pos hop] at hxr
        have kopMacro : (op.toList == [46, 109, 97, 99, 114, 111]) = false := op_not (by rw [HOP.out, hop]; decide)
        have kopEnd : (op.toList == [46, 101, 110, 100]) = false := op_not (by rw [HOP.out, hop]; decide)
        have kopIf : (op.toList == [46, 105, 102]) = false := op_not (by rw [HOP.out, hop]; decide)
        have kopElse : (op.toList == [46, 101, 108, 115, 101]) = true := op_is (HOP.out.trans hop)
        have kopEndif : (op.toList == [46, 101, 110, 100, 105, 102]) = false := op_not (by rw [HOP.out, hop]; decide)
        have kopSet : (op.toList == [46, 115, 101, 116]) = false := op_not (by rw [HOP.out, hop]; decide)
        have HXR := hid hxr
        clear hxr
        go_wp2_with fail
        refine (turnsElse_any w2 B b r lv fv (.pointer mp) pv (.int .i64 ((8 - n : Nat) : Int)) vo none opens at_ (stQ ms ns outs calls) lb op oa oc os W w.heap.size HBK.out ⟨_, _, _, _, _, _, _, HX.out, rfl⟩ HP.out hop).mono ?_
        rintro e w4 hpost
        obtain ⟨rfl, _⟩ := id hpost
        have HPO := hid hpost
        clear hpost
        go_wp2_with fail
        first | go_end0 | refine bodyPost_ret (results_none rfl _ _ _) rfl ?_
        rw [← HXR.out]
        exact line_of_bk HF.out HPO.out
      · have hopElse := hop
        clear hop
        by_cases hop : W.op = opEndif
        · rw [if_neg (by rw [hop]; decide), if_neg (by rw [hop]; decide), if_pos hop] at hxr
          have kopMacro : (op.toList == [46, 109, 97, 99, 114, 111]) = false := op_not (by rw [HOP.out, hop]; decide)
          have kopEnd : (op.toList == [46, 101, 110, 100]) = false := op_not (by rw [HOP.out, hop]; decide)
          have kopIf : (op.toList == [46, 105, 102]) = false := op_not (by rw [HOP.out, hop]; decide)
          have kopElse : (op.toList == [46, 101, 108, 115, 101]) = false := op_not (by rw [HOP.out, hop]; decide)
          have kopEndif : (op.toList == [46, 101, 110, 100, 105, 102]) = true := op_is (HOP.out.trans hop)
          have kopSet : (op.toList == [46, 115, 101, 116]) = false := op_not (by rw [HOP.out, hop]; decide)
          have HXR := hid hxr
          clear hxr
          go_wp2_with fail
          refine (turnsEnd_any w2 B b r lv fv (.pointer mp) pv (.int .i64 ((8 - n : Nat) : Int)) vo none opens at_ (stQ ms ns outs calls) lb op oa oc os W w.heap.size HBK.out ⟨_, _, _, _, _, _, _, HX.out, rfl⟩ HP.out hop).mono ?_
          rintro e w4 hpost
          obtain ⟨rfl, _⟩ := id hpost
          have HPO := hid hpost
          clear hpost
          go_wp2_with fail
          first | go_end0 | refine bodyPost_ret (results_none rfl _ _ _) rfl ?_
          rw [← HXR.out]
          exact line_of_bk HF.out HPO.out
        · have hopEndif := hop
          clear hop
          by_cases hop : W.op = opMacro
          · rw [if_neg (by rw [hop]; decide), if_neg (by rw [hop]; decide), if_neg (by rw [hop]; decide), if_pos hop] at hxr
            have kopMacro : (op.toList == [46, 109, 97, 99, 114, 111]) = true := op_is (HOP.out.trans hop)
            have kopEnd : (op.toList == [46, 101, 110, 100]) = false := op_not (by rw [HOP.out, hop]; decide)
            have kopIf : (op.toList == [46, 105, 102]) = false := op_not (by rw [HOP.out, hop]; decide)
            have kopElse : (op.toList == [46, 101, 108, 115, 101]) = false := op_not (by rw [HOP.out, hop]; decide)
            have kopEndif : (op.toList == [46, 101, 110, 100, 105, 102]) = false := op_not (by rw [HOP.out, hop]; decide)
            have kopSet : (op.toList == [46, 115, 101, 116]) = false := op_not (by rw [HOP.out, hop]; decide)
            have HXR := hid hxr
            clear hxr
            go_wp2_with fail
            refine (defines_any w2 B b r lv fv pv (.int .i64 ((8 - n : Nat) : Int)) vo mp none opens at_ (stQ ms ns outs calls) lb op oa oc os W w.heap.size k HBK.out ⟨_, _, _, _, _, _, _, HX.out, rfl⟩ HP.out HWOK.out HOK.out).mono ?_
            rintro e w4 ⟨rfl, hp1, hp2⟩
            have HP1 := hid hp1
            have HP2 := hid hp2
            clear hp1 hp2
            go_wp2_with fail
            first | go_end0 | refine bodyPost_ret (results_none rfl _ _ _) rfl ?_
            rw [← HXR.out]
            refine ⟨rfl, fun h0 => ⟨(Fq.of_below HF.out).trans (HP1.out h0).1.wide, (HP1.out h0).2.1, (HP1.out h0).2.2⟩, fun h0 hn => ?_, fun h0 d hd => ⟨rfl, rfl, ?_⟩⟩
            · obtain ⟨gd, nm, qv, ps, hs2, _⟩ := HP2.out h0
              rw [hs2] at hn
              cases hn
            · obtain ⟨gd, nm, qv, ps, hs2, h5, h6, h7, h8, h9, h10⟩ := HP2.out h0
              rw [hs2] at hd
              injection hd with hd
              exact ⟨w2, gd, nm, qv, ps, HF.out, hd.symm, h5, h6, h7, h8, h9, h10⟩
          · have hopMacro := hop
            clear hop
            by_cases hop : W.op = opEnd
            · rw [if_neg (by rw [hop]; decide), if_neg (by rw [hop]; decide), if_neg (by rw [hop]; decide), if_neg (by rw [hop]; decide), if_pos hop] at hxr
              have kopMacro : (op.toList == [46, 109, 97, 99, 114, 111]) = false := op_not (by rw [HOP.out, hop]; decide)
              have kopEnd : (op.toList == [46, 101, 110, 100]) = true := op_is (HOP.out.trans hop)
              have kopIf : (op.toList == [46, 105, 102]) = false := op_not (by rw [HOP.out, hop]; decide)
              have kopElse : (op.toList == [46, 101, 108, 115, 101]) = false := op_not (by rw [HOP.out, hop]; decide)
              have kopEndif : (op.toList == [46, 101, 110, 100, 105, 102]) = false := op_not (by rw [HOP.out, hop]; decide)
              have kopSet : (op.toList == [46, 115, 101, 116]) = false := op_not (by rw [HOP.out, hop]; decide)
              have HXR := hid hxr
              clear hxr
              go_wp2_with (first | (go_at_call 60; refine (bad_rd _ B r (stQ ms ns outs calls) 2 at_ ⟨_, _, _, _, _, _, _, HX.out, rfl⟩ (by decide)).mono ?_; rintro e w4 hpost; obtain ⟨rfl, _⟩ := id hpost; have HPO := hid hpost; clear hpost))
              first | go_end0 | refine bodyPost_ret (results_none rfl _ _ _) rfl ?_
              rw [← HXR.out]
              exact line_of_rd HF.out HBK.out HPO.out
            · have hopEnd := hop
              clear hop
              by_cases hop : W.op = opSet
              · rw [if_neg (by rw [hop]; decide), if_neg (by rw [hop]; decide), if_neg (by rw [hop]; decide), if_neg (by rw [hop]; decide), if_neg (by rw [hop]; decide), if_pos hop] at hxr
                have kopMacro : (op.toList == [46, 109, 97, 99, 114, 111]) = false := op_not (by rw [HOP.out, hop]; decide)
                have kopEnd : (op.toList == [46, 101, 110, 100]) = false := op_not (by rw [HOP.out, hop]; decide)
                have kopIf : (op.toList == [46, 105, 102]) = false := op_not (by rw [HOP.out, hop]; decide)
                have kopElse : (op.toList == [46, 101, 108, 115, 101]) = false := op_not (by rw [HOP.out, hop]; decide)
                have kopEndif : (op.toList == [46, 101, 110, 100, 105, 102]) = false := op_not (by rw [HOP.out, hop]; decide)
                have kopSet : (op.toList == [46, 115, 101, 116]) = true := op_is (HOP.out.trans hop)
                have HXR := hid hxr
                clear hxr
                go_wp2_with fail
                refine (sets_any w2 B r at_ (stQ ms ns outs calls) lb op oa oc os W w.heap.size k ⟨_, _, _, _, _, _, _, HX.out, rfl⟩ HP.out HWOK.out HOK.out hB2).mono ?_
                rintro e w4 hpost
                obtain ⟨rfl, _⟩ := id hpost
                have HPO := hid hpost
                clear hpost
                go_wp2_with fail
                first | go_end0 | refine bodyPost_ret (results_none rfl _ _ _) rfl ?_
                rw [← HXR.out]
                exact line_of_rd HF.out HBK.out HPO.out
              · have hopSet := hop
                clear hop
                rw [if_neg hopIf, if_neg hopElse, if_neg hopEndif, if_neg hopMacro, if_neg hopEnd, if_neg hopSet] at hxr
                have hf' : findM (stQ ms ns outs calls).macros W.op = none := by rw [← HOP.out]; exact hf
                rw [hf'] at hxr
                have kopMacro : (op.toList == [46, 109, 97, 99, 114, 111]) = false := op_not (fun c => hopMacro (HOP.out.symm.trans c))
                have kopEnd : (op.toList == [46, 101, 110, 100]) = false := op_not (fun c => hopEnd (HOP.out.symm.trans c))
                have kopIf : (op.toList == [46, 105, 102]) = false := op_not (fun c => hopIf (HOP.out.symm.trans c))
                have kopElse : (op.toList == [46, 101, 108, 115, 101]) = false := op_not (fun c => hopElse (HOP.out.symm.trans c))
                have kopEndif : (op.toList == [46, 101, 110, 100, 105, 102]) = false := op_not (fun c => hopEndif (HOP.out.symm.trans c))
                have kopSet : (op.toList == [46, 115, 101, 116]) = false := op_not (fun c => hopSet (HOP.out.symm.trans c))
                have HXR := hid (show ((leaveP W at_ (stQ ms ns outs calls)).1, opens, none, (leaveP W at_ (stQ ms ns outs calls)).2) = x from hxr)
                clear hxr hf hf' hopIf hopElse hopEndif hopMacro hopEnd hopSet
                by_cases hnt : lb.size = 0 ∧ op.size = 0
                · have kl := is_empty lb hnt.1
                  have ko := is_empty op hnt.2
                  have htx : textP W = [] := by
                    have e1 : W.label = [] := t1.2 hnt.1
                    have e2 : W.op = [] := by rw [← HOP.out]; exact L_zero hnt.2
                    have e3 : W.operands = [] := HNO.out e2
                    unfold textP
                    rw [e1, e2, e3]
                    rfl
                  have hlv : leaveP W at_ (stQ ms ns outs calls) = (0, stQ ms ns outs calls) := by unfold leaveP; rw [if_pos htx]
                  have HLV := hid hlv
                  clear hnt htx hlv
                  go_wp2_with fail
                  first | go_end0 | refine bodyPost_ret (results_none rfl _ _ _) rfl ?_
                  rw [← HXR.out, HLV.out]
                  exact ⟨rfl, fun c => absurd rfl c, fun _ _ => ⟨Fq.of_below HF.out, ⟨vo, HBK.out, fun g h => Or.inl h⟩, ⟨_, _, _, _, _, _, _, HX.out, rfl⟩⟩, fun _ d hd => by cases hd⟩
                · have htx : textP W ≠ [] := by
                    rw [textP_head]
                    intro c
                    rw [List.append_eq_nil_iff] at c
                    have c1 := c.1
                    unfold headP at c1
                    by_cases hl0 : lb.size = 0
                    · have ho0 : ¬ op.size = 0 := fun c => hnt ⟨hl0, c⟩
                      have e2 : W.op ≠ [] := fun e => ho0 (by rw [size_L, HOP.out, e]; rfl)
                      rw [t1.2 hl0] at c1
                      simp [e2] at c1
                    · have e1 : W.label ≠ [] := fun e => hl0 (t1.1 e)
                      split at c1
                      · simp [e1] at c1
                      · simp at c1
                  have HTX := hid htx
                  have hor : lb.toList.isEmpty = false ∨ (lb.toList.isEmpty = true ∧ op.toList.isEmpty = false) := by
                    by_cases hl0 : lb.size = 0
                    · exact Or.inr ⟨is_empty lb hl0, not_empty op (by omega)⟩
                    · exact Or.inl (not_empty lb (by omega))
                  clear hnt htx
                  rcases hor with kl | ⟨kl, ko⟩
                  all_goals
                    go_wp2_with fail
                    refine (left_any w2 B r at_ vm vn vl ms ns outs calls lb op oa oc os W w.heap.size HX.out HP.out (Or.inl HWOK.out) HTX.out hol hB2).mono ?_
                    rintro e w4 ⟨rfl, hf4, hst4, her4⟩
                    have HPO := hid (show RdPost B r [] at_ (leaveP W at_ (stQ ms ns outs calls)) w2 (.returned (.tuple #[])) w4 from ⟨rfl, hf4, fun h0 => by obtain ⟨_, _, q1, q2⟩ := hst4 h0; exact ⟨_, _, _, _, _, _, _, q1, q2⟩, her4⟩)
                    clear hf4 hst4 her4
                    go_wp2_with fail
                    first | go_end0 | refine bodyPost_ret (results_none rfl _ _ _) rfl ?_
                    rw [← HXR.out]
                    exact line_of_rd HF.out HBK.out HPO.out
  · clear HM
    have HMR := hid (HX.out.macs m hm)
    have HMO := hid (show MacOk (plainQ m) from HOK.out.macs _ (List.mem_map.2 ⟨m, hm, rfl⟩))
    clear hm
    by_cases hop : W.op = opIf
    · rw [if_pos hop] at hxr
      have kopMacro : (op.toList == [46, 109, 97, 99, 114, 111]) = false := op_not (by rw [HOP.out, hop]; decide)
      have kopEnd : (op.toList == [46, 101, 110, 100]) = false := op_not (by rw [HOP.out, hop]; decide)
      have kopIf : (op.toList == [46, 105, 102]) = true := op_is (HOP.out.trans hop)
      have kopElse : (op.toList == [46, 101, 108, 115, 101]) = false := op_not (by rw [HOP.out, hop]; decide)
      have kopEndif : (op.toList == [46, 101, 110, 100, 105, 102]) = false := op_not (by rw [HOP.out, hop]; decide)
      have kopSet : (op.toList == [46, 115, 101, 116]) = false := op_not (by rw [HOP.out, hop]; decide)
      have HXR := hid hxr
      clear hxr
      go_wp2_with fail
      refine (begins_any w2 B b r lv fv (.pointer mp) pv (.int .i64 ((8 - n : Nat) : Int)) vo none opens at_ (stQ ms ns outs calls) lb op oa oc os W w.heap.size HBK.out ⟨_, _, _, _, _, _, _, HX.out, rfl⟩ HP.out HSZ.out hnl hB2).mono ?_
      rintro e w4 hpost
      obtain ⟨rfl, _⟩ := id hpost
      have HPO := hid hpost
      clear hpost
      go_wp2_with fail
      first | go_end0 | refine bodyPost_ret (results_none rfl _ _ _) rfl ?_
      rw [← HXR.out]
      exact line_of_bk HF.out HPO.out
    · have hopIf := hop
      clear hop
      by_cases hop : W.op = opElse
      · rw [if_neg (by rw [hop]; decide), if_pos hop] at hxr
        have kopMacro : (op.toList == [46, 109, 97, 99, 114, 111]) = false := op_not (by rw [HOP.out, hop]; decide)
        have kopEnd : (op.toList == [46, 101, 110, 100]) = false := op_not (by rw [HOP.out, hop]; decide)
        have kopIf : (op.toList == [46, 105, 102]) = false := op_not (by rw [HOP.out, hop]; decide)
        have kopElse : (op.toList == [46, 101, 108, 115, 101]) = true := op_is (HOP.out.trans hop)
        have kopEndif : (op.toList == [46, 101, 110, 100, 105, 102]) = false := op_not (by rw [HOP.out, hop]; decide)
        have kopSet : (op.toList == [46, 115, 101, 116]) = false := op_not (by rw [HOP.out, hop]; decide)
        have HXR := hid hxr
        clear hxr
        go_wp2_with fail
        refine (turnsElse_any w2 B b r lv fv (.pointer mp) pv (.int .i64 ((8 - n : Nat) : Int)) vo none opens at_ (stQ ms ns outs calls) lb op oa oc os W w.heap.size HBK.out ⟨_, _, _, _, _, _, _, HX.out, rfl⟩ HP.out hop).mono ?_
        rintro e w4 hpost
        obtain ⟨rfl, _⟩ := id hpost
        have HPO := hid hpost
        clear hpost
        go_wp2_with fail
        first | go_end0 | refine bodyPost_ret (results_none rfl _ _ _) rfl ?_
        rw [← HXR.out]
        exact line_of_bk HF.out HPO.out
      · have hopElse := hop
        clear hop
        by_cases hop : W.op = opEndif
        · rw [if_neg (by rw [hop]; decide), if_neg (by rw [hop]; decide), if_pos hop] at hxr
          have kopMacro : (op.toList == [46, 109, 97, 99, 114, 111]) = false := op_not (by rw [HOP.out, hop]; decide)
          have kopEnd : (op.toList == [46, 101, 110, 100]) = false := op_not (by rw [HOP.out, hop]; decide)
          have kopIf : (op.toList == [46, 105, 102]) = false := op_not (by rw [HOP.out, hop]; decide)
          have kopElse : (op.toList == [46, 101, 108, 115, 101]) = false := op_not (by rw [HOP.out, hop]; decide)
          have kopEndif : (op.toList == [46, 101, 110, 100, 105, 102]) = true := op_is (HOP.out.trans hop)
          have kopSet : (op.toList == [46, 115, 101, 116]) = false := op_not (by rw [HOP.out, hop]; decide)
          have HXR := hid hxr
          clear hxr
          go_wp2_with fail
          refine (turnsEnd_any w2 B b r lv fv (.pointer mp) pv (.int .i64 ((8 - n : Nat) : Int)) vo none opens at_ (stQ ms ns outs calls) lb op oa oc os W w.heap.size HBK.out ⟨_, _, _, _, _, _, _, HX.out, rfl⟩ HP.out hop).mono ?_
          rintro e w4 hpost
          obtain ⟨rfl, _⟩ := id hpost
          have HPO := hid hpost
          clear hpost
          go_wp2_with fail
          first | go_end0 | refine bodyPost_ret (results_none rfl _ _ _) rfl ?_
          rw [← HXR.out]
          exact line_of_bk HF.out HPO.out
        · have hopEndif := hop
          clear hop
          by_cases hop : W.op = opMacro
          · rw [if_neg (by rw [hop]; decide), if_neg (by rw [hop]; decide), if_neg (by rw [hop]; decide), if_pos hop] at hxr
            have kopMacro : (op.toList == [46, 109, 97, 99, 114, 111]) = true := op_is (HOP.out.trans hop)
            have kopEnd : (op.toList == [46, 101, 110, 100]) = false := op_not (by rw [HOP.out, hop]; decide)
            have kopIf : (op.toList == [46, 105, 102]) = false := op_not (by rw [HOP.out, hop]; decide)
            have kopElse : (op.toList == [46, 101, 108, 115, 101]) = false := op_not (by rw [HOP.out, hop]; decide)
            have kopEndif : (op.toList == [46, 101, 110, 100, 105, 102]) = false := op_not (by rw [HOP.out, hop]; decide)
            have kopSet : (op.toList == [46, 115, 101, 116]) = false := op_not (by rw [HOP.out, hop]; decide)
            have HXR := hid hxr
            clear hxr
            go_wp2_with fail
            refine (defines_any w2 B b r lv fv pv (.int .i64 ((8 - n : Nat) : Int)) vo mp none opens at_ (stQ ms ns outs calls) lb op oa oc os W w.heap.size k HBK.out ⟨_, _, _, _, _, _, _, HX.out, rfl⟩ HP.out HWOK.out HOK.out).mono ?_
            rintro e w4 ⟨rfl, hp1, hp2⟩
            have HP1 := hid hp1
            have HP2 := hid hp2
            clear hp1 hp2
            go_wp2_with fail
            first | go_end0 | refine bodyPost_ret (results_none rfl _ _ _) rfl ?_
            rw [← HXR.out]
            refine ⟨rfl, fun h0 => ⟨(Fq.of_below HF.out).trans (HP1.out h0).1.wide, (HP1.out h0).2.1, (HP1.out h0).2.2⟩, fun h0 hn => ?_, fun h0 d hd => ⟨rfl, rfl, ?_⟩⟩
            · obtain ⟨gd, nm, qv, ps, hs2, _⟩ := HP2.out h0
              rw [hs2] at hn
              cases hn
            · obtain ⟨gd, nm, qv, ps, hs2, h5, h6, h7, h8, h9, h10⟩ := HP2.out h0
              rw [hs2] at hd
              injection hd with hd
              exact ⟨w2, gd, nm, qv, ps, HF.out, hd.symm, h5, h6, h7, h8, h9, h10⟩
          · have hopMacro := hop
            clear hop
            by_cases hop : W.op = opEnd
            · rw [if_neg (by rw [hop]; decide), if_neg (by rw [hop]; decide), if_neg (by rw [hop]; decide), if_neg (by rw [hop]; decide), if_pos hop] at hxr
              have kopMacro : (op.toList == [46, 109, 97, 99, 114, 111]) = false := op_not (by rw [HOP.out, hop]; decide)
              have kopEnd : (op.toList == [46, 101, 110, 100]) = true := op_is (HOP.out.trans hop)
              have kopIf : (op.toList == [46, 105, 102]) = false := op_not (by rw [HOP.out, hop]; decide)
              have kopElse : (op.toList == [46, 101, 108, 115, 101]) = false := op_not (by rw [HOP.out, hop]; decide)
              have kopEndif : (op.toList == [46, 101, 110, 100, 105, 102]) = false := op_not (by rw [HOP.out, hop]; decide)
              have kopSet : (op.toList == [46, 115, 101, 116]) = false := op_not (by rw [HOP.out, hop]; decide)
              have HXR := hid hxr
              clear hxr
              go_wp2_with (first | (go_at_call 60; refine (bad_rd _ B r (stQ ms ns outs calls) 2 at_ ⟨_, _, _, _, _, _, _, HX.out, rfl⟩ (by decide)).mono ?_; rintro e w4 hpost; obtain ⟨rfl, _⟩ := id hpost; have HPO := hid hpost; clear hpost))
              first | go_end0 | refine bodyPost_ret (results_none rfl _ _ _) rfl ?_
              rw [← HXR.out]
              exact line_of_rd HF.out HBK.out HPO.out
            · have hopEnd := hop
              clear hop
              by_cases hop : W.op = opSet
              · rw [if_neg (by rw [hop]; decide), if_neg (by rw [hop]; decide), if_neg (by rw [hop]; decide), if_neg (by rw [hop]; decide), if_neg (by rw [hop]; decide), if_pos hop] at hxr
                have kopMacro : (op.toList == [46, 109, 97, 99, 114, 111]) = false := op_not (by rw [HOP.out, hop]; decide)
                have kopEnd : (op.toList == [46, 101, 110, 100]) = false := op_not (by rw [HOP.out, hop]; decide)
                have kopIf : (op.toList == [46, 105, 102]) = false := op_not (by rw [HOP.out, hop]; decide)
                have kopElse : (op.toList == [46, 101, 108, 115, 101]) = false := op_not (by rw [HOP.out, hop]; decide)
                have kopEndif : (op.toList == [46, 101, 110, 100, 105, 102]) = false := op_not (by rw [HOP.out, hop]; decide)
                have kopSet : (op.toList == [46, 115, 101, 116]) = true := op_is (HOP.out.trans hop)
                have HXR := hid hxr
                clear hxr
                go_wp2_with fail
                refine (sets_any w2 B r at_ (stQ ms ns outs calls) lb op oa oc os W w.heap.size k ⟨_, _, _, _, _, _, _, HX.out, rfl⟩ HP.out HWOK.out HOK.out hB2).mono ?_
                rintro e w4 hpost
                obtain ⟨rfl, _⟩ := id hpost
                have HPO := hid hpost
                clear hpost
                go_wp2_with fail
                first | go_end0 | refine bodyPost_ret (results_none rfl _ _ _) rfl ?_
                rw [← HXR.out]
                exact line_of_rd HF.out HBK.out HPO.out
              · have hopSet := hop
                clear hop
                rw [if_neg hopIf, if_neg hopElse, if_neg hopEndif, if_neg hopMacro, if_neg hopEnd, if_neg hopSet] at hxr
                have hf' : findM (stQ ms ns outs calls).macros W.op = some (plainQ m) := by rw [← HOP.out]; exact hf
                rw [hf'] at hxr
                have kopMacro : (op.toList == [46, 109, 97, 99, 114, 111]) = false := op_not (fun c => hopMacro (HOP.out.symm.trans c))
                have kopEnd : (op.toList == [46, 101, 110, 100]) = false := op_not (fun c => hopEnd (HOP.out.symm.trans c))
                have kopIf : (op.toList == [46, 105, 102]) = false := op_not (fun c => hopIf (HOP.out.symm.trans c))
                have kopElse : (op.toList == [46, 101, 108, 115, 101]) = false := op_not (fun c => hopElse (HOP.out.symm.trans c))
                have kopEndif : (op.toList == [46, 101, 110, 100, 105, 102]) = false := op_not (fun c => hopEndif (HOP.out.symm.trans c))
                have kopSet : (op.toList == [46, 115, 101, 116]) = false := op_not (fun c => hopSet (HOP.out.symm.trans c))
                have HXR := hid (show ((callN n (plainQ m) W at_ (stQ ms ns outs calls)).1, opens, none, (callN n (plainQ m) W at_ (stQ ms ns outs calls)).2) = x from hxr)
                clear hxr hf hf' hopIf hopElse hopEndif hopMacro hopEnd hopSet
                go_wp2_with fail
                refine (HC.out w2 B b r at_ k lv fv (.pointer mp) pv vo (.pointer none) m (stQ ms ns outs calls) lb op oa oc os W w.heap.size HBK.out.row ⟨_, _, _, _, _, _, _, HX.out, rfl⟩ HMR.out HMO.out HP.out HWOK.out HSE.out HOK.out hB2).mono ?_
                rintro e w4 hpost
                obtain ⟨rfl, _⟩ := id hpost
                have HPO := hid hpost
                clear hpost
                go_wp2_with fail
                first | go_end0 | refine bodyPost_ret (results_none rfl _ _ _) rfl ?_
                rw [← HXR.out]
                exact line_of_rd HF.out HBK.out HPO.out

end Go.Proofs.YtcepppilgncdmaaGreatDoor

namespace Go.Proofs.YtcepppilgncdmaaGreatDoor
open Go.RowKit
attribute [local go_sem ↓] Go.wp_at_zero Go.wp_at_succ

theorem bk_before {B b r : Nat} {lv fv mv pv dv vo : Value} {p : Option Addr} {st : StP} {at_ : Nat} {y : Int × List OpenP} {w w2 w' : World} {e : Ending} (hb : Below w.heap.size w w2) (h : BkPost B b r lv fv mv pv dv vo p at_ y st w2 e w') : BkPost B b r lv fv mv pv dv vo p at_ y st w e w' := by
  obtain ⟨h1, h2, h3, h4⟩ := h
  refine ⟨h1, (Fq.of_below hb).trans h2, fun h0 => ?_, h4⟩
  obtain ⟨⟨vo', hk, hg⟩, hr⟩ := h3 h0
  refine ⟨⟨vo', hk, fun g h => (hg g h).imp id fun h5 => ?_⟩, hr⟩
  have := hb.size
  omega

set_option maxRecDepth 100000 in
set_option maxHeartbeats 1600000 in
theorem passes_any (w : World) (B b r : Nat) (lv fv mv pv dv vo : Value) (opens : List OpenP) (at_ : Nat) (st : StP) (s : ByteArray) (k : Nat)
    (h : BkAt w B b lv fv mv pv dv vo (.pointer none) opens) (hx : RdSt w B r st) (hs : s.size ≤ 100) (hse : noSemi (L s)) (hok : StOk st k) (hB : B ≤ w.heap.size) :
    Calls Tryz.prog 91 #[.pointer (some ⟨b, 0, none⟩), .pointer (some ⟨r, 0, none⟩), .string s, .int .i64 (at_ : Nat)] w (BkPost B b r lv fv mv pv dv vo none at_ (passP (wordsP (L s)) opens st) st w) := by
  obtain ⟨vm, vn, vl, ms, ns, outs, calls, hx, hst⟩ := hx
  subst hst
  obtain ⟨x, hxr⟩ : ∃ x, passP (wordsP (L s)) opens (stQ ms ns outs calls) = x := ⟨_, rfl⟩
  rw [hxr]
  have hml : ms.length ≤ 3001 := by
    have h1 := hok.few
    have h2 := hok.taken
    simp only [stQ, List.length_map] at h1
    omega
  have hnl : (stQ ms ns outs calls).names.length ≤ 1000 := by have h1 := hok.names; have h2 := hok.out; omega
  have hol : outs.length ≤ 300 := by simpa [stQ] using hok.out
  have hwok : WOk (wordsP (L s)) := ⟨L s, by rw [L_length]; exact hs, by rw [cutL_id hse]⟩
  have HSE := hid (words_noSemi hse)
  have HWOK := hid hwok
  have HOK := hid hok
  have HX := hid hx
  have HBK := hid h
  clear hx h hok hwok
  go_enter Tryz.func91, Tryz.ntmps91
  go_upto_region 1 with (first | (go_at_call 63; refine (words_any s _ (by omega)).mono ?_; rintro e w1 ⟨lb, op, oa, oc, os, rfl, hp, hb1⟩))
  have hb2 : Below w1.heap.size w1 (w1.alloc (.cells #[.string lb, .string op, .slice oa os.length oc] 134)) := (Below.refl _ _).alloc (Nat.le_refl _) _
  have HF := hid (hb1.trans (hb2.mono hb1.size))
  have HX := hid (HX.out.below HF.out)
  have HBK := hid (HBK.out.below HF.out)
  have HP := hid (hp.below hb2)
  have HBX := hid (show RowT (w1.alloc (.cells #[.string lb, .string op, .slice oa os.length oc] 134)) 134 w1.heap.size [.string lb, .string op, .slice oa os.length oc] from RowT.new w1 134 [.string lb, .string op, .slice oa os.length oc])
  clear hb1 hb2 hp hse
  generalize w1.alloc (.cells #[.string lb, .string op, .slice oa os.length oc] 134) = w2 at HX HBK HP HF HBX ⊢
  generalize w1.heap.size = bx at HBX ⊢
  obtain ⟨W, hW⟩ : ∃ W, wordsP (L s) = W := ⟨_, rfl⟩
  have HNOP := hid (show (wordsP (L s)).op = [] → (wordsP (L s)).operands = [] from words_noop (L s))
  rw [hW] at HP HSE HWOK hxr HNOP
  clear hW
  obtain ⟨b1, b2, b3⟩ := HWOK.out.parts HP.out
  have HSZ := hid (show ∀ i (hi : i < os.length), os[i].size ≤ 1000 from fun i hi => Nat.le_trans (b2 i hi) (by omega))
  have HOP := hid HP.out.op
  obtain ⟨t1, t2, t3⟩ := HP.out.two
  clear b2 t3
  have y0 := HBX.out.cell 0 (by simp)
  have y1 := HBX.out.cell 1 (by simp)
  have y2 := HBX.out.cell 2 (by simp)
  have hB2 : B ≤ w2.heap.size := Nat.le_trans hB HF.out.size
  unfold passP at hxr
  by_cases hop : W.op = opIf
  · rw [if_pos hop] at hxr
    have kopIf : (op.toList == [46, 105, 102]) = true := op_is (HOP.out.trans hop)
    have kopElse : (op.toList == [46, 101, 108, 115, 101]) = false := op_not (by rw [HOP.out, hop]; decide)
    have kopEndif : (op.toList == [46, 101, 110, 100, 105, 102]) = false := op_not (by rw [HOP.out, hop]; decide)
    have HXR := hid hxr
    clear hxr
    go_wp2_with fail
    refine (begins_any w2 B b r lv fv mv pv dv vo none opens at_ (stQ ms ns outs calls) lb op oa oc os W w.heap.size HBK.out ⟨_, _, _, _, _, _, _, HX.out, rfl⟩ HP.out HSZ.out hnl hB2).mono ?_
    rintro e w4 hpost
    obtain ⟨rfl, _⟩ := id hpost
    have HPO := hid hpost
    clear hpost
    go_wp2_with fail
    first | go_end0 | refine bodyPost_ret (results_none rfl _ _ _) rfl ?_
    rw [← HXR.out]
    exact bk_before HF.out HPO.out
  · have hopIf := hop
    clear hop
    by_cases hop : W.op = opElse
    · rw [if_neg (by rw [hop]; decide), if_pos hop] at hxr
      have kopIf : (op.toList == [46, 105, 102]) = false := op_not (by rw [HOP.out, hop]; decide)
      have kopElse : (op.toList == [46, 101, 108, 115, 101]) = true := op_is (HOP.out.trans hop)
      have kopEndif : (op.toList == [46, 101, 110, 100, 105, 102]) = false := op_not (by rw [HOP.out, hop]; decide)
      have HXR := hid hxr
      clear hxr
      go_wp2_with fail
      refine (turnsElse_any w2 B b r lv fv mv pv dv vo none opens at_ (stQ ms ns outs calls) lb op oa oc os W w.heap.size HBK.out ⟨_, _, _, _, _, _, _, HX.out, rfl⟩ HP.out hop).mono ?_
      rintro e w4 hpost
      obtain ⟨rfl, _⟩ := id hpost
      have HPO := hid hpost
      clear hpost
      go_wp2_with fail
      first | go_end0 | refine bodyPost_ret (results_none rfl _ _ _) rfl ?_
      rw [← HXR.out]
      exact bk_before HF.out HPO.out
    · have hopElse := hop
      clear hop
      by_cases hop : W.op = opEndif
      · rw [if_neg (by rw [hop]; decide), if_neg (by rw [hop]; decide), if_pos hop] at hxr
        have kopIf : (op.toList == [46, 105, 102]) = false := op_not (by rw [HOP.out, hop]; decide)
        have kopElse : (op.toList == [46, 101, 108, 115, 101]) = false := op_not (by rw [HOP.out, hop]; decide)
        have kopEndif : (op.toList == [46, 101, 110, 100, 105, 102]) = true := op_is (HOP.out.trans hop)
        have HXR := hid hxr
        clear hxr
        go_wp2_with fail
        refine (turnsEnd_any w2 B b r lv fv mv pv dv vo none opens at_ (stQ ms ns outs calls) lb op oa oc os W w.heap.size HBK.out ⟨_, _, _, _, _, _, _, HX.out, rfl⟩ HP.out hop).mono ?_
        rintro e w4 hpost
        obtain ⟨rfl, _⟩ := id hpost
        have HPO := hid hpost
        clear hpost
        go_wp2_with fail
        first | go_end0 | refine bodyPost_ret (results_none rfl _ _ _) rfl ?_
        rw [← HXR.out]
        exact bk_before HF.out HPO.out
      · have hopEndif := hop
        clear hop
        rw [if_neg hopIf, if_neg hopElse, if_neg hopEndif] at hxr
        have kopIf : (op.toList == [46, 105, 102]) = false := op_not (fun c => hopIf (HOP.out.symm.trans c))
        have kopElse : (op.toList == [46, 101, 108, 115, 101]) = false := op_not (fun c => hopElse (HOP.out.symm.trans c))
        have kopEndif : (op.toList == [46, 101, 110, 100, 105, 102]) = false := op_not (fun c => hopEndif (HOP.out.symm.trans c))
        have HXR := hid hxr
        clear hxr
        go_wp2_with fail
        first | go_end0 | refine bodyPost_ret (results_none rfl _ _ _) rfl ?_
        rw [← HXR.out]
        exact ⟨rfl, Fq.of_below HF.out, fun _ => ⟨⟨vo, HBK.out, fun g h => Or.inl h⟩, ⟨_, _, _, _, _, _, _, HX.out, rfl⟩⟩, fun c => absurd rfl c⟩

end Go.Proofs.YtcepppilgncdmaaGreatDoor

namespace Go.Proofs.YtcepppilgncdmaaGreatDoor

def KeepsOk (call : MacP → WordsP → Nat → StP → Int × StP) (k : Nat) : Prop := ∀ m W at_ st, StOk st k → (call m W at_ st).1 = 0 → StOk (call m W at_ st).2 k
theorem line_ok {call : MacP → WordsP → Nat → StP → Int × StP} {k : Nat} (hc : KeepsOk call k) {inM : Bool} {W : WordsP} {at_ : Nat} {opens : List OpenP} {st : StP} (h : StOk st k) (h0 : (lineP call inM W at_ opens st).1 = 0) : StOk (lineP call inM W at_ opens st).2.2.2 k := by
  unfold lineP at h0 ⊢
  split at h0
  · rw [if_pos (by assumption)]; exact h
  rename_i h1; rw [if_neg h1]
  split at h0
  · rw [if_pos (by assumption)]; exact h
  rename_i h2; rw [if_neg h2]
  split at h0
  · rw [if_pos (by assumption)]; exact h
  rename_i h3; rw [if_neg h3]
  split at h0
  · rw [if_pos (by assumption)]; exact h
  rename_i h4; rw [if_neg h4]
  split at h0
  · rw [if_pos (by assumption)]; exact h
  rename_i h5; rw [if_neg h5]
  split at h0
  · rw [if_pos (by assumption)]; exact setP_ok h h0
  rename_i h6; rw [if_neg h6]
  cases hf : findM st.macros W.op with
  | some m => rw [hf] at h0; exact hc m W at_ st h h0
  | none => rw [hf] at h0; exact leaveP_ok h h0
theorem line_nodef {call : MacP → WordsP → Nat → StP → Int × StP} {W : WordsP} {at_ : Nat} {opens : List OpenP} {st : StP} (h0 : (lineP call true W at_ opens st).1 = 0) : (lineP call true W at_ opens st).2.2.1 = none := by
  unfold lineP at h0 ⊢
  split at h0
  · rw [if_pos (by assumption)]
  rename_i h1; rw [if_neg h1]
  split at h0
  · rw [if_pos (by assumption)]
  rename_i h2; rw [if_neg h2]
  split at h0
  · rw [if_pos (by assumption)]
  rename_i h3; rw [if_neg h3]
  split at h0
  · simp [defP] at h0
  rename_i h4; rw [if_neg h4]
  split at h0
  · rw [if_pos (by assumption)]
  rename_i h5; rw [if_neg h5]
  split at h0
  · rw [if_pos (by assumption)]
  rename_i h6; rw [if_neg h6]
  cases hf : findM st.macros W.op <;> rfl
theorem block_ok {call : MacP → WordsP → Nat → StP → Int × StP} {k : Nat} (hc : KeepsOk call k) (sub : List (List UInt8) × List (List UInt8)) (inc : Nat) : ∀ (ls : List (List UInt8)) (at_ : Nat) (opens : List OpenP) (st : StP), StOk st k → (blockP call (some sub) inc ls at_ opens none st).1 = 0 → StOk (blockP call (some sub) inc ls at_ opens none st).2.2 k
  | [], at_, opens, st, h, h0 => by
    simp only [blockP] at h0 ⊢
    split <;> exact h
  | l :: r, at_, opens, st, h, h0 => by
    simp only [blockP] at h0 ⊢
    split at h0
    · rename_i ho
      rw [if_pos ho]
      split at h0
      · rename_i h1; exact absurd h0 h1
      · rename_i h1; rw [if_neg h1]; exact block_ok hc sub inc r _ _ _ h h0
    · rename_i ho
      rw [if_neg ho]
      split at h0
      · rename_i h1; exact absurd h0 h1
      · rename_i h1
        rw [if_neg h1]
        split at h0
        · rename_i h2; exact absurd h0 h2
        · rename_i h2
          rw [if_neg h2]
          have h3 : (lineP call true (readP (some sub) false (cutL l)).2 (at_ + inc) opens st).1 = 0 := by simpa using h2
          have h4 := line_nodef h3
          rw [show (some sub).isSome = true from rfl, h4] at h0 ⊢
          exact block_ok hc sub inc r _ _ _ (line_ok hc h h3) h0
theorem call_ok : ∀ (n k : Nat), KeepsOk (callN n) k
  | 0, k => fun m W at_ st h h0 => by cases h0
  | n + 1, k => fun m W at_ st h h0 => by
    rw [callN] at h0 ⊢
    split at h0
    · cases h0
    rename_i h1; rw [if_neg h1]
    split at h0
    · cases h0
    rename_i h2; rw [if_neg h2]
    split at h0
    · rename_i h3; exact absurd h0 h3
    rename_i h3; rw [if_neg h3]
    have h4 := leaveP_ok h (by simpa using h3)
    refine block_ok (call_ok n k) _ 0 _ _ _ _ ⟨h4.macs, h4.names, h4.out, ?_, h4.few, h4.taken⟩ h0
    have h5 : ¬ 200 ≤ st.calls := h2
    show st.calls + 1 ≤ 200
    omega
end Go.Proofs.YtcepppilgncdmaaGreatDoor

namespace Go.Proofs.YtcepppilgncdmaaGreatDoor
open Go.RowKit
attribute [local go_sem ↓] Go.wp_at_zero Go.wp_at_succ

/-- What is so where a macro's lines are gone through, behind some of them. -/
def GInv (n : Nat) (w : World) (B x r at_ k : Nat) (lv ov : Value) (m : MacQ) (os : List ByteArray) (R : Int × Nat × StP) (j : Nat) (wr : World) : Prop :=
  (∃ vo opens st, BkAt wr B x lv (.int .i64 (at_ : Nat)) (.pointer (some ⟨m.g, 0, none⟩)) ov (.int .i64 ((8 - n : Nat) : Int)) vo (.pointer none) opens ∧ (∀ g, vo.ownBlock = some g → w.heap.size ≤ g) ∧ RdSt wr B r st ∧ StOk st k ∧ Fq B [x] w wr ∧ R = blockP (callN n) (some (m.ps.map L, os.map L)) 0 ((m.bs.drop j).map L) at_ opens none st) ∨
    (R.1 ≠ 0 ∧ RdErr wr r R.1 at_ ∧ BkRow wr x lv (.int .i64 (at_ : Nat)) (.pointer (some ⟨m.g, 0, none⟩)) ov (.int .i64 ((8 - n : Nat) : Int)) ∧ Fq B [x] w wr)
theorem fq_step {B x : Nat} {w wr w' : World} {vo : Value} (h : Fq B [x] w wr) (ho : ∀ g, vo.ownBlock = some g → w.heap.size ≤ g) (h2 : Fq B (bkM x vo) wr w') : Fq B [x] w w' :=
  h.trans' h2 (fun i hi => by
    unfold bkM at hi
    rcases List.mem_cons.1 hi with rfl | h3
    · exact Or.inl (by simp)
    · exact Or.inr (ho i (by simpa using h3)))

theorem fillP_noSemi (ps os : List (List UInt8)) (ho : ∀ o ∈ os, noSemi o) : ∀ (n : Nat) (l t : List UInt8), noSemi l → fillP ps os n l = some t → noSemi t
  | 0, l, t, _, h => by
    simp only [fillP, Option.some.injEq] at h
    subst h
    intro c hc; simp at hc
  | n + 1, [], t, _, h => by
    simp only [fillP, Option.some.injEq] at h
    subst h
    intro c hc; simp at hc
  | n + 1, c :: r, t, hl, h => by
    simp only [fillP] at h
    split at h
    · split at h
      · cases h
      · rename_i i q _
        obtain ⟨u, hu, rfl⟩ := Option.map_eq_some_iff.1 h
        have h1 := fillP_noSemi ps os ho n (r.drop q) u (fun d hd => hl d (List.mem_cons_of_mem _ (List.mem_of_mem_drop hd))) hu
        intro d hd
        rcases List.mem_append.1 hd with h2 | h2
        · rw [List.getD_eq_getElem?_getD] at h2
          cases hg : os[i]? with
          | none => rw [hg] at h2; simp at h2
          | some o => rw [hg] at h2; exact ho o (List.mem_of_getElem? hg) d h2
        · exact h1 d h2
    · obtain ⟨u, hu, rfl⟩ := Option.map_eq_some_iff.1 h
      have h1 := fillP_noSemi ps os ho n r u (fun d hd => hl d (List.mem_cons_of_mem _ hd)) hu
      intro d hd
      rcases List.mem_cons.1 hd with rfl | h2
      · exact hl d (by simp)
      · exact h1 d h2
theorem filledP_ok {ps os : List (List UInt8)} {l t : List UInt8} (ho : ∀ o ∈ os, noSemi o) (hl : noSemi l) (h : filledP ps os l = (0, t)) : noSemi t ∧ t.length ≤ 80 := by
  unfold filledP at h
  cases hf : fillP ps os l.length l with
  | none => rw [hf] at h; cases h
  | some u =>
    rw [hf] at h
    simp only at h
    split at h
    · cases h
    · rename_i h8
      injection h with _ h
      subst h
      exact ⟨fillP_noSemi ps os ho _ l u hl hf, by omega⟩

set_option maxRecDepth 100000 in
set_option maxHeartbeats 3200000 in
theorem goesM_of (n : Nat) (hc : CallsOk n) : GoesM n := by
  intro w B x r at_ k ov m os st C hrow hBx hm hmo hso hlen hse hx hok hB
  obtain ⟨R, hR⟩ : ∃ R, blockP (callN n) (some (m.ps.map L, os.map L)) 0 (m.bs.map L) at_ [] none st = R := ⟨_, rfl⟩
  rw [hR]
  obtain ⟨ba, bc, hbv⟩ := hm.bs.form
  rw [hbv] at hrow
  have hmx : m.g ≠ x := by
    intro e
    have h1 := hm.row
    rw [e] at h1
    unfold RowT at h1 hrow
    rw [h1] at hrow
    injection hrow with hrow
    injection hrow with _ hrow
    exact absurd hrow (by decide)
  have HI := hid (show GInv n w B x r at_ k (.slice ba m.bs.length bc) ov m os R 0 w from Or.inl ⟨.slice none 0 0, [], st, ⟨hrow, World.ownsRow_nil _ _ _ _, by simp, hBx⟩, (fun g h => by cases h), hx, hok, Fq.refl _ _ _, by rw [List.drop_zero]; exact hR.symm⟩)
  have HM := hid hm
  have HMO := hid hmo
  have HSO := hid hso
  have HLEN := hid hlen
  have HSE := hid hse
  have HC := hid hc
  have hbl : m.bs.length ≤ 3001 := by simpa [plainQ] using hmo.2.2.1
  have HLN := hid (show ∀ j (h : j < m.bs.length), m.bs[j].size ≤ 100 ∧ cutL (L m.bs[j]) = L m.bs[j] from fun j h => by
    have := hmo.2.2.2 (L m.bs[j]) (by simp only [plainQ]; exact List.mem_map.2 ⟨_, List.getElem_mem h, rfl⟩)
    rw [L_length] at this
    exact this)
  have HBV := hid hbv
  have c1 : w.cell? ⟨x, 1, none⟩ = some (.int .i64 (at_ : Nat)) := hrow.cell 1 (by simp)
  clear hR hbv hrow hm hmo hso hlen hse hx hok hc
  go_enter Tryz.func62, Tryz.ntmps62
  go_wp2_with fail
  go_loopw [4, 5] (fun a i wr => ∃ j : Nat, j ≤ m.bs.length ∧ a = .int .i64 (at_ : Nat) ∧ i = .int .i64 j ∧ GInv n w B x r at_ k (.slice ba m.bs.length bc) ov m os R j wr) (fun _ i _ => m.bs.length - (intOf i).toNat)
  case atStart => exact ⟨0, Nat.zero_le _, rfl, rfl, HI.out⟩
  case round =>
    obtain ⟨j, hj, rfl, rfl, hinv⟩ := hrel
    clear c1 HI
    rcases hinv with ⟨vo, opens, st1, hk, hvo, hst, hok1, hf, hRe⟩ | ⟨h0, hre, hbr, hf⟩
    · have c0 : wr.cell? ⟨x, 0, none⟩ = some (.slice ba m.bs.length bc) := hk.row.cell 0 (by simp)
      have c2 : wr.cell? ⟨x, 2, none⟩ = some (.pointer (some ⟨m.g, 0, none⟩)) := hk.row.cell 2 (by simp)
      have c6 : wr.cell? ⟨x, 6, none⟩ = some (.pointer none) := hk.row.cell 6 (by simp)
      have c5 : wr.cell? ⟨x, 5, none⟩ = some vo := hk.row.cell 5 (by simp)
      obtain ⟨_, _, _, _, _, _, _, hxa, _⟩ := id hst
      have e4 : wr.cell? ⟨r, 4, none⟩ = some (.int .i64 0) := hxa.row.cell 4 (by simp)
      have HK := hid hk
      have HVO := hid hvo
      have HST := hid hst
      have HOK := hid hok1
      have HF := hid hf
      have HXA := hid hxa
      have HMR := hid (HM.out.fq hf (by simpa using hmx))
      have HSR := hid (HSO.out.fq hf)
      have hBr : B ≤ wr.heap.size := Nat.le_trans hB hf.size
      clear hk hvo hst hok1 hf hxa
      by_cases hlt : j < m.bs.length
      · have kd : decide ((j : Int) < m.bs.length) = true := by simp; omega
        have ij0 : (0 : Int) ≤ (j : Int) := Int.natCast_nonneg _
        have ij1 : (j : Int) < (m.bs.length : Int) := by omega
        obtain ⟨bl, offl, cl, hv, hbll, cj⟩ := HMR.out.bs.cell j hlt
        rw [HBV.out] at hv
        injection hv with hv1 _ hv2
        subst hv1 hv2
        obtain ⟨hls, hlc⟩ := HLN.out j hlt
        rw [List.drop_eq_getElem_cons hlt, List.map_cons] at hRe
        obtain ⟨l, hl⟩ : ∃ l, m.bs[j] = l := ⟨_, rfl⟩
        rw [hl] at cj hls hlc hRe
        clear hl
        have hcut := cut_any l wr (by unfold maxLen; omega)
        have hnl : noSemi (L l) := by rw [← hlc]; exact cutL_noSemi _
        rw [hlc] at hcut
        simp only [blockP, hlc] at hRe
        have HCUT := hid hcut
        have HNL := hid hnl
        have HOV := hid (over_any wr B x _ _ _ _ _ vo _ opens HK.out)
        have HRE := hid hRe
        clear hcut hnl hlc hRe
        obtain ⟨ov2, hov2⟩ : ∃ o, overP opens = o := ⟨_, rfl⟩
        rw [hov2] at HOV HRE
        cases ov2 with
        | true =>
          have hre : R = if (passP (wordsP (L l)) opens st1).1 ≠ 0 then ((passP (wordsP (L l)) opens st1).1, at_ + 0, st1) else blockP (callN n) (some (m.ps.map L, os.map L)) 0 ((m.bs.drop (j + 1)).map L) (at_ + 0) (passP (wordsP (L l)) opens st1).2 none st1 := HRE.out
          clear HRE
          have HRE := hid hre
          clear hre
          go_wp2_with (first | (go_at_call 88; refine HCUT.out.mono ?_; rintro e w' ⟨t, ht, hts, rfl, hw'⟩; obtain rfl : l = t := (L_inj ht).symm; obtain rfl := hw'.symm; clear ht hts) | (go_at_call 89; refine HOV.out.mono ?_; rintro e w' ⟨rfl, hw'⟩; obtain rfl := hw'.symm))
          refine (passes_any wr B x r _ _ _ _ _ vo opens at_ st1 l k HK.out HST.out hls HNL.out HOK.out hBr).mono ?_
          rintro e w4 ⟨rfl, hp2, hp3, hp4⟩
          have HNI := hid (show GInv n w B x r at_ k (.slice (some ⟨bl, offl, none⟩) m.bs.length bc) ov m os R (j + 1) w4 by
            by_cases h0 : (passP (wordsP (L l)) opens st1).1 = 0
            · obtain ⟨⟨vo', hk', hg'⟩, hr'⟩ := hp3 h0
              refine Or.inl ⟨vo', _, st1, hk', fun g hg => ?_, hr', HOK.out, fq_step HF.out HVO.out hp2, ?_⟩
              · rcases hg' g hg with h5 | h5
                · exact HVO.out g h5
                · exact Nat.le_trans HF.out.size h5
              · have h6 := HRE.out
                rw [if_neg (by simp [h0])] at h6
                exact h6
            · have h6 := HRE.out
              rw [if_pos h0] at h6
              rw [h6]
              exact Or.inr ⟨h0, (hp4 h0).1, (hp4 h0).2, fq_step HF.out HVO.out hp2⟩)
          clear hp2 hp3 hp4
          go_wp2_with fail
          go_roundw
          case rel => exact ⟨j + 1, by omega, rfl, by go_num, HNI.out⟩
          case measure => simp [intOf]; omega
        | false =>
          have hre := HRE.out
          rw [if_neg (by simp)] at hre
          obtain ⟨fp, hfp⟩ : ∃ fp, filledP (m.ps.map L) (os.map L) (L l) = fp := ⟨_, rfl⟩
          obtain ⟨fe, ft⟩ := fp
          have hfl := filled_any wr x _ _ ov _ _ _ m os l C HK.out.row HMR.out HSR.out HLEN.out (by have := HMO.out.1; simp only [plainQ, List.length_map] at this; omega) (by omega) (fun q hq => by have := HMO.out.2.1 (L m.ps[q]) (by simp only [plainQ]; exact List.mem_map.2 ⟨_, List.getElem_mem hq, rfl⟩); rw [L_length] at this; omega) (fun q hq => (HSE.out os[q] (List.getElem_mem hq)).1)
          unfold FilledPost at hfl
          rw [hfp] at hfl
          have HFL := hid hfl
          have HFP := hid hfp
          by_cases h0 : fe = 0
          · subst h0
            obtain ⟨hns, h80⟩ := filledP_ok (fun o ho => by obtain ⟨q, hq, rfl⟩ := List.mem_map.1 ho; exact (HSE.out q hq).2) HNL.out hfp
            rw [show readP (some (m.ps.map L, os.map L)) false (L l) = (0, wordsP ft) from by simp only [readP, hfp]; rw [if_neg (by simp), cutL_id hns], if_neg (by simp)] at hre
            have HRE := hid hre
            have HNS := hid hns
            clear hre hfl hfp hns
            go_wp2_with (first | (go_at_call 88; refine HCUT.out.mono ?_; rintro e w' ⟨t, ht, hts, rfl, hw'⟩; obtain rfl : l = t := (L_inj ht).symm; obtain rfl := hw'.symm; clear ht hts) | (go_at_call 89; refine HOV.out.mono ?_; rintro e w' ⟨rfl, hw'⟩; obtain rfl := hw'.symm) | (go_at_call 93; refine HFL.out.mono ?_; rintro e w' ⟨t, rfl, ht, hw'⟩; obtain rfl := hw'.symm))
            have HT := hid ht
            have hts : t.size ≤ 100 := by rw [size_L, ht]; show ft.length ≤ 100; omega
            have hdo := does_any n HC.out wr B x r _ _ ov vo _ opens at_ st1 t k HK.out HST.out hts (by rw [ht]; exact HNS.out) HOK.out hBr
            rw [ht] at hdo
            clear ht
            refine hdo.mono ?_
            clear hdo
            rintro e w4 ⟨rfl, hp2, hp3, _⟩
            have HNI := hid (show GInv n w B x r at_ k (.slice (some ⟨bl, offl, none⟩) m.bs.length bc) ov m os R (j + 1) w4 by
              by_cases h0 : (lineP (callN n) true (wordsP ft) at_ opens st1).1 = 0
              · have hnd := line_nodef h0
                obtain ⟨hf4, ⟨vo', hk', hg'⟩, hr'⟩ := hp3 h0 hnd
                refine Or.inl ⟨vo', _, _, hk', fun g hg => ?_, hr', line_ok (call_ok n k) HOK.out h0, fq_step HF.out HVO.out hf4, ?_⟩
                · rcases hg' g hg with h5 | h5
                  · exact HVO.out g h5
                  · exact Nat.le_trans HF.out.size h5
                · have h6 := HRE.out
                  rw [show (some (m.ps.map L, os.map L)).isSome = true from rfl, Nat.add_zero, if_neg (by simp [h0]), hnd] at h6
                  exact h6
              · have h6 := HRE.out
                rw [show (some (m.ps.map L, os.map L)).isSome = true from rfl, Nat.add_zero, if_pos h0] at h6
                rw [h6]
                exact Or.inr ⟨h0, (hp2 h0).2.1, (hp2 h0).2.2, fq_step HF.out HVO.out (hp2 h0).1⟩)
            clear hp2 hp3
            go_wp2_with fail
            go_roundw
            case rel => exact ⟨j + 1, by omega, rfl, by go_num, HNI.out⟩
            case measure => simp [intOf]; omega
          · rw [show readP (some (m.ps.map L, os.map L)) false (L l) = (fe, ⟨[], [], []⟩) from by simp only [readP, hfp]; rw [if_pos h0], if_pos h0] at hre
            have HRE := hid hre
            have k0 : (fe != 0) = true := by rw [bne_iff_ne]; exact h0
            have H0 := hid h0
            clear hre hfl hfp h0
            go_wp2_with (first | (go_at_call 88; refine HCUT.out.mono ?_; rintro e w' ⟨t, ht, hts, rfl, hw'⟩; obtain rfl : l = t := (L_inj ht).symm; obtain rfl := hw'.symm; clear ht hts) | (go_at_call 89; refine HOV.out.mono ?_; rintro e w' ⟨rfl, hw'⟩; obtain rfl := hw'.symm) | (go_at_call 93; refine HFL.out.mono ?_; rintro e w' ⟨t, rfl, ht, hw'⟩; obtain rfl := hw'.symm) | (go_at_call 60; refine (bad_any _ r _ _ _ _ _ fe at_ HXA.out.row).mono ?_; rintro e w4 ⟨rfl, rfl⟩))
            first | go_end0 | refine bodyPost_ret (results_none rfl _ _ _) rfl ?_
            obtain ⟨p1, p2⟩ := bad_post (er := fe) (at_ := at_) HXA.out.row HXA.out.at_
            rw [HRE.out]
            exact ⟨rfl, HF.out.trans p1.wide, fun c => absurd c H0.out, fun _ => p2⟩
      · have kd : decide ((j : Int) < m.bs.length) = false := by simp; omega
        rw [List.drop_eq_nil_of_le (by omega), List.map_nil] at hRe
        simp only [blockP, Option.isNone_none, and_true] at hRe
        obtain ⟨av, cv, hvv⟩ := own_form HK.out.own
        subst hvv
        by_cases hop : opens = []
        · rw [if_pos hop] at hRe
          subst hop
          have HRE := hid hRe
          clear hRe
          go_wp2_with fail
          first | go_end0 | refine bodyPost_ret (results_none rfl _ _ _) rfl ?_
          rw [HRE.out]
          exact ⟨rfl, HF.out, fun _ => HST.out, fun c => absurd rfl c⟩
        · rw [if_neg hop] at hRe
          have hlo : 0 < opens.length := List.length_pos_iff.2 hop
          have ko : decide ((0 : Int) < opens.length) = true := by simp; omega
          have HRE := hid hRe
          clear hRe hop
          go_wp2_with (first | (go_at_call 60; refine (bad_any _ r _ _ _ _ _ 2 at_ HXA.out.row).mono ?_; rintro e w4 ⟨rfl, rfl⟩))
          first | go_end0 | refine bodyPost_ret (results_none rfl _ _ _) rfl ?_
          obtain ⟨p1, p2⟩ := bad_post (er := 2) (at_ := at_) HXA.out.row HXA.out.at_
          rw [HRE.out]
          exact ⟨rfl, HF.out.trans p1.wide, (fun c => by cases c), fun _ => p2⟩
    · obtain ⟨q1, q2, q3, q4, hre⟩ := hre
      obtain ⟨ao, no, co, po, hbr⟩ := hbr
      obtain ⟨er, her⟩ : ∃ er, R.1 = er := ⟨_, rfl⟩
      rw [her] at h0 hre
      have e4 : wr.cell? ⟨r, 4, none⟩ = some (.int .i64 er) := hre.cell 4 (by simp)
      have c0 : wr.cell? ⟨x, 0, none⟩ = some (.slice ba m.bs.length bc) := hbr.cell 0 (by simp)
      have c5 : wr.cell? ⟨x, 5, none⟩ = some (.slice ao no co) := hbr.cell 5 (by simp)
      have c6 : wr.cell? ⟨x, 6, none⟩ = some (.pointer po) := hbr.cell 6 (by simp)
      have k0 : (er == 0) = false := by rw [beq_eq_false_iff_ne]; exact h0
      have HBA := hid (bad_again wr r q1 q2 q3 q4 _ er 2 at_ hre h0)
      have HFIN := hid (show RdPost B r [x] at_ (R.1, R.2.2) w (.returned (.tuple #[])) wr from ⟨rfl, hf, fun c => absurd (her.symm.trans c) h0, fun _ => ⟨q1, q2, q3, q4, by rw [her]; exact hre⟩⟩)
      clear hre hbr h0 her hf
      have hor : decide ((0 : Int) < no) = true ∨ (decide ((0 : Int) < no) = false ∧ ∃ pp, po = some pp) ∨ (decide ((0 : Int) < no) = false ∧ po = none) := by
        cases hd : decide ((0 : Int) < no) with
        | true => exact Or.inl rfl
        | false =>
          cases po with
          | none => exact Or.inr (Or.inr ⟨rfl, rfl⟩)
          | some pp => exact Or.inr (Or.inl ⟨rfl, pp, rfl⟩)
      by_cases hlt : j < m.bs.length
      · have kd : decide ((j : Int) < m.bs.length) = true := by simp; omega
        rcases hor with ko | ⟨ko, pp, rfl⟩ | ⟨ko, rfl⟩
        all_goals
          go_wp2_with (first | (go_at_call 60; refine HBA.out.mono ?_; rintro e w4 ⟨rfl, hw4⟩; obtain rfl := hw4.symm))
          all_goals
            first | go_end0 | refine bodyPost_ret (results_none rfl _ _ _) rfl ?_
            exact HFIN.out
      · have kd : decide ((j : Int) < m.bs.length) = false := by simp; omega
        rcases hor with ko | ⟨ko, pp, rfl⟩ | ⟨ko, rfl⟩
        all_goals
          go_wp2_with (first | (go_at_call 60; refine HBA.out.mono ?_; rintro e w4 ⟨rfl, hw4⟩; obtain rfl := hw4.symm))
          all_goals
            first | go_end0 | refine bodyPost_ret (results_none rfl _ _ _) rfl ?_
            exact HFIN.out

end Go.Proofs.YtcepppilgncdmaaGreatDoor

namespace Go.Proofs.YtcepppilgncdmaaGreatDoor
open Go.RowKit
attribute [local go_sem ↓] Go.wp_at_zero Go.wp_at_succ

theorem goes_all : ∀ n, n ≤ 8 → CallsOk n ∧ GoesM n
  | 0, _ => ⟨calls_zero, goesM_of 0 calls_zero⟩
  | n + 1, h => by
    have h1 := calls_succ n h (goes_all n (by omega)).2
    exact ⟨h1, goesM_of (n + 1) h1⟩

theorem StrV.keeps {M : List Nat} {w w' : World} {B : Nat} {v : Value} {ss : List ByteArray} (h : StrV w B v ss) (hk : Keeps M w w') (hm : ∀ b cur, w.heap[b]? = some (.cells cur 9 (0, 0)) → b ∉ M) : StrV w' B v ss := by
  rcases h with h | ⟨b, off, cap, cur, h1, h2, h3, h4⟩
  · exact Or.inl h
  · exact Or.inr ⟨b, off, cap, cur, h1, h2, by rw [hk.block b (Array.getElem?_eq_some_iff.1 h3).1 (hm b cur h3)]; exact h3, h4⟩
theorem ownsRow_keeps {M : List Nat} {w w' : World} {base e size n : Nat} {v : Value} {xs : List Value} (h : w.ownsRow base e size v n xs) (hk : Keeps M w w') (hm : ∀ g, v.ownBlock = some g → g ∉ M) : w'.ownsRow base e size v n xs := by
  refine ⟨h.1, h.2.imp id ?_⟩
  rintro ⟨g, cap, cur, rfl, h2, h3, h4⟩
  exact ⟨g, cap, cur, rfl, h2, by rw [hk.block g (Array.getElem?_eq_some_iff.1 h3).1 (hm g rfl)]; exact h3, h4⟩
theorem row_ne {w : World} {t u g x : Nat} {xs ys : List Value} (h : RowT w t g xs) (k : RowT w u x ys) (ht : t ≠ u) : g ≠ x := by
  rintro rfl
  unfold RowT at h k
  rw [h] at k
  injection k with k
  injection k with _ k
  exact ht k
theorem RdAt.keeps {w w' : World} {B r x : Nat} {vm vn vo : Value} {ms : List MacQ} {ns : List (ByteArray × Int)} {outs : List (ByteArray × Nat)} {calls : Nat} {ys : List Value} (h : RdAt w B r vm vn vo ms ns outs calls) (hk : Keeps [x] w w') (hx : RowT w 130 x ys) : RdAt w' B r vm vn vo ms ns outs calls := by
  have hs : ∀ b cur, w.heap[b]? = some (.cells cur 9 (0, 0)) → b ∉ [x] := fun b cur hb => by simpa using RowT.notStr hx (by decide) b cur hb
  refine ⟨h.row.keeps hk (by simpa using row_ne h.row hx (by decide)), ownsRow_keeps h.mown hk (fun g hg => ?_), ownsRow_keeps h.nown hk (fun g hg => ?_), ownsRow_keeps h.lown hk (fun g hg => ?_), fun m hm => ⟨(h.macs m hm).row.keeps hk (by simpa using row_ne (h.macs m hm).row hx (by decide)), (h.macs m hm).ps.keeps hk hs, (h.macs m hm).bs.keeps hk hs⟩, h.at_⟩
  · have := own_row_ne h.mown hx (by decide); simp only [List.mem_singleton]; intro e; exact this (by rw [hg, e])
  · have := own_row_ne h.nown hx (by decide); simp only [List.mem_singleton]; intro e; exact this (by rw [hg, e])
  · have := own_row_ne h.lown hx (by decide); simp only [List.mem_singleton]; intro e; exact this (by rw [hg, e])
theorem Keeps.then_below {M : List Nat} {a b c : World} (h : Keeps M a b) (k : Below a.heap.size b c) : Keeps M a c :=
  ⟨k.os.trans h.os, k.tape.trans h.tape, k.output.trans h.output, Nat.le_trans h.size k.size, fun i hi hm => by rw [k.block i hi]; exact h.block i hi hm⟩

theorem line_def {call : MacP → WordsP → Nat → StP → Int × StP} {inM : Bool} {W : WordsP} {at_ : Nat} {opens : List OpenP} {st : StP} {d : MacP} (hw : WOk W) (hd : (lineP call inM W at_ opens st).2.2.1 = some d) : MacOk d := by
  have key : ∀ d, (defP inM W st).2 = some d → MacOk d := by
    intro d hd
    unfold defP at hd
    split at hd
    · cases hd
    split at hd
    · cases hd
    split at hd
    · cases hd
    split at hd
    · cases hd
    injection hd with hd
    subst hd
    obtain ⟨_, _, h3, h4, _⟩ := hw.bd
    exact ⟨by simp; omega, fun p hp => h4 p (List.mem_of_mem_tail hp), by simp, fun l hl => by cases hl⟩
  unfold lineP at hd
  split at hd
  · cases hd
  split at hd
  · cases hd
  split at hd
  · cases hd
  split at hd
  · exact key d hd
  split at hd
  · cases hd
  split at hd
  · cases hd
  split at hd
  · cases hd
  · cases hd

/-- What is so where the text's lines are gone through, behind some of them. -/
def TInv (w : World) (B x r : Nat) (lv pv : Value) (ls : List ByteArray) (R : Int × Nat × StP) (j : Nat) (wr : World) : Prop :=
  (∃ vo opens st, BkAt wr B x lv (.int .i64 0) (.pointer none) pv (.int .i64 0) vo (.pointer none) opens ∧ RdSt wr B r st ∧ StOk st j ∧ StrV wr 0 lv ls ∧ Below B w wr ∧ R = blockP (callN 8) none 1 ((ls.drop j).map L) j opens none st) ∨
    (∃ w0 vo opens st gd nm qv ps dl bs, BkAt w0 B x lv (.int .i64 0) (.pointer none) pv (.int .i64 0) vo (.pointer none) opens ∧ RdSt w0 B r st ∧ (∃ i, i < j ∧ StOk st i) ∧ StrV w0 0 lv ls ∧ Below B w w0 ∧ Keeps [x] w0 wr ∧ RowT wr 130 x [lv, .int .i64 0, .pointer none, pv, .int .i64 0, vo, .pointer (some ⟨gd, 0, none⟩)] ∧ DefAt wr w0.heap.size gd nm qv ps dl bs ∧
      MacOk ⟨L nm, ps.map L, bs.map L⟩ ∧ bs.length ≤ j ∧ R = blockP (callN 8) none 1 ((ls.drop j).map L) j opens (some ⟨L nm, ps.map L, bs.map L⟩) st)
/-- The first error has been told. -/
def TErr (w : World) (B x r : Nat) (lv pv : Value) (R : Int × Nat × StP) (wr : World) : Prop := R.1 ≠ 0 ∧ RdErr wr r R.1 R.2.1 ∧ BkRow wr x lv (.int .i64 0) (.pointer none) pv (.int .i64 0) ∧ Below B w wr
def TPost (w : World) (B r : Nat) (R : Int × Nat × StP) (e : Ending) (w' : World) : Prop := e = .returned (.tuple #[]) ∧ Below B w w' ∧ (R.1 = 0 → RdSt w' B r R.2.2) ∧ (R.1 ≠ 0 → RdErr w' r R.1 R.2.1)

end Go.Proofs.YtcepppilgncdmaaGreatDoor
