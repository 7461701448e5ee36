/-
  What the program's function that defines a macro answers (package expand).
  What the program does with a line that is not passed over and is no condition (package expand).
  What the program does with a line, and with all lines of a block (package expand).
  What the program does with one line (package expand).
  A block's lines, one after another: what the program's way through them has to do with the document's.
  All lines of a block (package expand): the text's.
-/
import Derived.Test.YtcepppilgncdmaaGreatDoorBS31
import Derived.Deep.DeepFit
namespace Go.Proofs.YtcepppilgncdmaaGreatDoor
open Go.RowKit
attribute [local go_sem ↓] Go.wp_at_zero Go.wp_at_succ

/-- What becomes of a macro's definition: the error, how many lines were taken, the state. -/
def macR (wi k : Nat) (W : WordsP) (st : StP) (ls : List (List UInt8)) : Int × Nat × StP :=
  if 0 < wi then (2, k, st)
  else if headBad W = true then (4, k, st)
  else match findM st.macros (W.operands.headD []) with
    | some _ => (5, k, st)
    | none => ((bodyP [] (ls.drop k)).1, k + (bodyP [] (ls.drop k)).2.2, { st with macros := st.macros ++ [⟨W.operands.headD [], W.operands.tail, (bodyP [] (ls.drop k)).2.1⟩] })
/-- Which reader may have turned: the text's, where no macro is called. -/
def frM (wi bt : Nat) : List Nat := if wi = 0 then [bt] else []
def MacPost (B be bt wi : Nat) (v lv : Value) (ls : List ByteArray) (rest : List Value) (opens : List OpenP) (r : Int × Nat × StP) (w : World) (e : Ending) (w' : World) : Prop :=
  e = .returned (.int .i64 r.1) ∧ Fr B (frM wi bt) w w' ∧ NumAt w' be bt wi r.2.1 ∧ (r.1 = 0 → ExpSt w' B be bt wi r.2.1 r.2.2 ∧ ReadAt w' B 74 bt v lv ls r.2.1 rest opens)

/-- A macro more. -/
theorem ExpAt.maced {w w4 : World} {B be bt wi k : Nat} {vm vn vl : Value} {ms : List MacV} {ns : List (ByteArray × Int)} {outs : List (ByteArray × Nat)} {calls : Nat} (h : ExpAt w B be bt wi k vm vn vl ms ns outs calls) (hg : w.grownBy w4 vm.ownBlock) {gg cap : Nat} {n0 : ByteArray} {pv bv : Value}
    (ho : w4.ownsRow B 202 3 (.slice (some ⟨gg, 0, none⟩) (ms.length + 1) cap) (ms.length + 1) (macCells ms ++ [.string n0, pv, bv])) :
    (∀ ps bs, StrV w 0 pv ps → StrV w 0 bv bs → ExpAt (w4.setCell ⟨be, 1, none⟩ (.slice (some ⟨gg, 0, none⟩) (ms.length + 1) cap)) B be bt wi k (.slice (some ⟨gg, 0, none⟩) (ms.length + 1) cap) vn vl (ms ++ [⟨n0, pv, ps, bv, bs⟩]) ns outs calls) ∧
    NumAt (w4.setCell ⟨be, 1, none⟩ (.slice (some ⟨gg, 0, none⟩) (ms.length + 1) cap)) be bt wi k ∧
    Fr B [] w (w4.setCell ⟨be, 1, none⟩ (.slice (some ⟨gg, 0, none⟩) (ms.length + 1) cap)) := by
  have hne : vm.ownBlock ≠ some be := own_row_ne h.mown h.row (by decide)
  have hr4 : RowT w4 77 be [.pointer (some ⟨bt, 0, none⟩), vm, vn, .int .i64 (wi : Nat), .int .i64 (calls : Nat), vl] := RowT.grown' h.row hg (Ne.symm hne)
  have hn4 := h.nown.kept hg (by
    cases hv : vn.ownBlock with
    | none => exact Or.inl rfl
    | some g => exact Or.inr (fun e1 => own_own_ne h.nown h.mown (by decide) (g := g) (by rw [← e1]) hv))
  have hl4 := h.lown.kept hg (by
    cases hv : vl.ownBlock with
    | none => exact Or.inl rfl
    | some g => exact Or.inr (fun e1 => own_own_ne h.lown h.mown (by decide) (g := g) (by rw [← e1]) hv))
  have hf4 : Fr B [] w w4 := (Fr.refl B [] w).grown hg (own_may h.mown (fun _ _ => Or.inl rfl))
  have hf5 := hf4.setCell (p := ⟨be, 1, none⟩) (hr4.may h.at_ (Or.inl rfl)) (.slice (some ⟨gg, 0, none⟩) (ms.length + 1) cap)
  obtain ⟨xs, hx1, hx2⟩ := h.text
  have htx := hx1.fr hf5 rfl (fun _ => by simp)
  refine ⟨fun ps bs hps hbs => ⟨hr4.set 1 _, ?_, ?_, ?_, fun m hm => ?_, h.at_, xs, htx, hx2⟩, ⟨_, xs, hr4.set 1 _, rfl, htx, hx2⟩, hf5⟩
  · rw [macCells_append, List.length_append]
    exact ownsRow_setCell_other ho (a := ⟨be, 1, none⟩) (own_row_ne ho hr4 (by decide)) _
  · exact ownsRow_setCell_other hn4 (a := ⟨be, 1, none⟩) (own_row_ne hn4 hr4 (by decide)) _
  · exact ownsRow_setCell_other hl4 (a := ⟨be, 1, none⟩) (own_row_ne hl4 hr4 (by decide)) _
  · rcases List.mem_append.1 hm with h1 | h1
    · exact ⟨(h.mstr m h1).1.fr hf5, (h.mstr m h1).2.fr hf5⟩
    · rw [List.mem_singleton] at h1
      subst h1
      exact ⟨hps.fr hf5, hbs.fr hf5⟩

/-- A store into a macro's own block, which is not in the list of macros. -/
theorem ExpAt.offD {w : World} {B be bt wi k : Nat} {vm vn vl : Value} {ms : List MacV} {ns : List (ByteArray × Int)} {outs : List (ByteArray × Nat)} {calls : Nat} (h : ExpAt w B be bt wi k vm vn vl ms ns outs calls) {d j : Nat} {xs : List Value} (hr : RowT w 202 d xs) (hd : vm.ownBlock ≠ some d) (u : Value) :
    ExpAt (w.setCell ⟨d, j, none⟩ u) B be bt wi k vm vn vl ms ns outs calls := by
  obtain ⟨ys, h1, h2⟩ := h.text
  exact ⟨h.row.other d j (fun e => by subst e; exact rowT_ne h.row hr (by decide) rfl) u, ownsRow_setCell_other h.mown (a := ⟨d, j, none⟩) hd _, ownsRow_setCell_other h.nown (a := ⟨d, j, none⟩) (own_row_ne h.nown hr (by decide)) _, ownsRow_setCell_other h.lown (a := ⟨d, j, none⟩) (own_row_ne h.lown hr (by decide)) _, fun m hm => ⟨(h.mstr m hm).1.set d j u (RowT.notStr hr (by decide)), (h.mstr m hm).2.set d j u (RowT.notStr hr (by decide))⟩, h.at_, ys, h1.other d j (fun e => by subst e; exact rowT_ne h1 hr (by decide) rfl) u, h2⟩

set_option maxRecDepth 100000 in
set_option maxHeartbeats 800000 in
theorem doMacro_any (w : World) (B be bt wi k : Nat) (st : StP) (v lv : Value) (ls : List ByteArray) (rest : List Value) (opens : List OpenP) (lb op : ByteArray) (va : Option Addr) (vc : Nat) (os : List ByteArray) (W : WordsP) (C : Nat)
    (h : ExpSt w B be bt wi k st) (hra : wi = 0 → ReadAt w B 74 bt v lv ls k rest opens) (hp : PartsV w C lb op (.slice va os.length vc) os W) (hn : os.length ≤ 1000) (hsz : ∀ i (hi : i < os.length), os[i].size ≤ 1000) (hls : ∀ i (hi : i < ls.length), ls[i].size ≤ 100) (hok : StOk st k) (hwi : wi ≤ 8) (hm : MaxAt w) (hgB : 0 < B) (hB : B ≤ w.heap.size) (hbt : B ≤ bt) :
    Calls Tryz.prog 106 #[.pointer (some ⟨be, 0, none⟩), .agg #[.string lb, .string op, .slice va os.length vc]] w (MacPost B be bt wi v lv ls rest opens (macR wi k W st (ls.map L)) w) := by
  obtain ⟨vm, vn, vl, ms, ns, outs, calls, hx, rfl⟩ := h
  obtain ⟨i0, hi0, hz0, hz1, hz2⟩ := info_parts info_mac
  have hb0 : Below w.heap.size w (w.alloc (.cells #[.string lb, .string op, .slice va os.length vc] 101)) := (Below.refl _ _).alloc (Nat.le_refl _) _
  have HX := hid (hx.below hb0)
  have HP := hid (hp.below hb0)
  have HF := hid (show Fr B (frM wi bt) w (w.alloc (.cells #[.string lb, .string op, .slice va os.length vc] 101)) from Fr.of_below hb0)
  have HBX := hid (RowT.new w 101 [.string lb, .string op, .slice va os.length vc])
  have HM := hid (hm.below hb0)
  have HRA := hid (fun h0 => (hra h0).below hb0)
  have HSZ := hid hsz
  have HLS := hid hls
  have hml : ms.length ≤ 3001 := by
    have h1 := hok.few
    have h2 := hok.taken
    simp only [stOf, List.length_map] at h1
    omega
  have c3 : (w.alloc (.cells #[.string lb, .string op, .slice va os.length vc] 101)).cell? ⟨be, 3, none⟩ = some (.int .i64 (wi : Nat)) := HX.out.row.cell 3 (by simp)
  obtain ⟨r, hr⟩ : ∃ r, macR wi k W (stOf ms ns outs calls) (ls.map L) = r := ⟨_, rfl⟩
  rw [hr]
  unfold macR at hr
  clear hx hp hb0 hm hra hsz hls hok
  by_cases hw0 : 0 < wi
  · rw [if_pos hw0] at hr
    subst hr
    have kw : decide ((0 : Int) < (wi : Int)) = true := by simp; omega
    go_enter Tryz.func106, Tryz.ntmps106
    go_wp2
    go_ret
    exact ⟨rfl, HF.out, HX.out.num, fun h => by cases h⟩
  · rw [if_neg hw0] at hr
    have hwz : wi = 0 := by omega
    subst hwz
    have HRB := hid (HRA.out rfl)
    have HRX := hid hr
    clear hr hw0 HRA
    go_enter Tryz.func106, Tryz.ntmps106
    go_wp2_with fail
    generalize (w.alloc (.cells #[.string lb, .string op, .slice va os.length vc] 101)) = w0 at HX HP HF HBX HM HRB c3 ⊢
    refine (readHead_any w0 lb op va vc os W C HP.out hn HSZ.out).mono ?_
    rintro e w1 ⟨hb1, hcase⟩
    have HX := hid (HX.out.below hb1)
    have HF := hid (HF.out.trans (Fr.of_below hb1))
    have HM := hid (HM.out.below hb1)
    have HRA := hid (HRB.out.below hb1)
    have HPO := hid HP.out.two
    clear hb1 c3
    rcases hcase with ⟨hbad, rfl⟩ | ⟨hbad, n0, pa, pc, hpos, hn0, rfl, hst⟩
    · have hr := HRX.out
      rw [if_pos hbad] at hr
      subst hr
      have HB2 := hid (show Below w1.heap.size w1 (w1.alloc (.cells #[.string ⟨#[]⟩, .slice none 0 0, .slice none 0 0] 202)) from (Below.refl _ _).alloc (Nat.le_refl _) _)
      go_wp2
      go_ret
      exact ⟨rfl, HF.out.trans (Fr.of_below HB2.out), (HX.out.below HB2.out).num, fun h => by cases h⟩
    · have hr := HRX.out
      rw [if_neg (by rw [hbad]; simp)] at hr
      have e0 : W.operands.headD [] = L n0 := by rw [headD_get, HPO.out.2.2 0 hpos, hn0]
      rw [e0] at hr
      have HRY := hid hr
      have HOPS := hid HP.out.ops
      have HST := hid hst
      have HB2 := hid (show Below w1.heap.size w1 (w1.alloc (.cells #[.string n0, .slice pa (os.length - 1) pc, .slice none 0 0] 202)) from (Below.refl _ _).alloc (Nat.le_refl _) _)
      have HLT := hid HX.out.mown.lt
      have hwl : w.heap.size ≤ w1.heap.size := HF.out.size
      have HX := hid (HX.out.below HB2.out)
      have HF := hid (HF.out.trans (Fr.of_below HB2.out))
      have HM := hid (HM.out.below HB2.out)
      have HRA := hid (HRA.out.below HB2.out)
      have HST := hid (HST.out.below HB2.out)
      have HD := hid (RowT.new w1 202 [.string n0, .slice pa (os.length - 1) pc, .slice none 0 0])
      have HN0 := hid hn0
      clear hr e0 hst hbad hn0
      go_wp2_with fail
      generalize (w1.alloc (.cells #[.string n0, .slice pa (os.length - 1) pc, .slice none 0 0] 202)) = w2 at HX HF HM HRA HST HD ⊢
      go_fit (find_any' w2 B be bt 0 k vm vn vl ms ns outs calls HX.out hml n0)
      rintro e w3 ⟨hw3, hcase⟩
      subst hw3
      rcases hcase with ⟨hf, rfl⟩ | ⟨i, g, cap, hi, hf, hvm, rfl⟩
      · have hr := HRY.out
        have hf' : findM (stOf ms ns outs calls).macros (L n0) = none := hf
        rw [hf'] at hr
        have HRZ := hid hr
        obtain ⟨bp, hbp⟩ : ∃ bp, bodyP [] ((ls.drop k).map L) = bp := ⟨_, rfl⟩
        have HBP := hid hbp
        have c0 := HX.out.row.cell 0 (by simp)
        have hvmd : vm.ownBlock ≠ some w1.heap.size := fun e => by have := (HLT.out _ e).2; omega
        clear hr hf' hf hbp
        go_wp2_with fail
        go_fit (takeBody_any w3 B 74 bt v lv ls k rest opens HRA.out (by decide) (by decide) rfl hbt HLS.out HM.out hgB bp HBP.out)
        rintro e w4 ⟨bv, rfl, hra4, hfr4, ⟨ba, bn, bc, hbv⟩, hbs⟩
        subst hbv
        have HX4 := hid (HX.out.frc hfr4 (k' := k + bp.2.2) ⟨_, hra4.cond.row, by simp⟩)
        have HF4 := hid (show Fr B (frM 0 bt) w w4 from HF.out.trans hfr4.to)
        have HD4 := hid (HD.out.fr hfr4 rfl (fun h => by cases h))
        have HST4 := hid (HST.out.frc hfr4)
        have HX5 := hid (HX4.out.offD (j := 2) HD4.out hvmd (.slice ba bn bc))
        have HF5 := hid (HF4.out.setNew (p := ⟨w1.heap.size, 2, none⟩) hwl (.slice ba bn bc))
        have HD5 := hid (HD4.out.set 2 (.slice ba bn bc))
        have HST5 := hid (HST4.out.set w1.heap.size 2 (.slice ba bn bc) (RowT.notStr HD4.out (by decide)))
        have HRA5 := hid (hra4.off (j := 2) HD4.out (by decide) (by decide) (by decide) (.slice ba bn bc))
        have HBS5 := hid (show bp.1 = 0 → ∃ bs, bs.map L = bp.2.1 ∧ StrV (w4.setCell ⟨w1.heap.size, 2, none⟩ (.slice ba bn bc)) 0 (.slice ba bn bc) bs from fun h0 => by
          obtain ⟨bs, h1, h2⟩ := hbs h0
          exact ⟨bs, h1, (h2.mono (Nat.zero_le _)).set w1.heap.size 2 _ (RowT.notStr HD4.out (by decide))⟩)
        have x2 := HD4.out.cell 2 (by simp)
        have f2 := HD4.out.free 2
        obtain ⟨er, bl, cn⟩ := bp
        clear hra4 hfr4 hbs HX4 HF4 c0
        go_upto_region 9 with fail
        generalize w4.setCell ⟨w1.heap.size, 2, none⟩ (.slice ba bn bc) = w5 at HX5 HF5 HD5 HST5 HRA5 HBS5 ⊢
        obtain ⟨ma, mc, hmv⟩ := own_form HX5.out.mown
        subst hmv
        have c1 : w5.cell? ⟨be, 1, none⟩ = some (.slice ma ms.length mc) := HX5.out.row.cell 1 (by simp)
        have f1 := HX5.out.row.free 1
        have hlt5 := HX5.out.row.lt
        have y0 := HD5.out.cell 0 (by simp)
        have y1 := HD5.out.cell 1 (by simp)
        have y2 := HD5.out.cell 2 (by simp)
        have hneb : (Value.slice ma ms.length mc).ownBlock ≠ some be := own_row_ne HX5.out.mown HX5.out.row (by decide)
        have hB5 : B ≤ w5.heap.size := Nat.le_trans hB HF5.out.size
        clear x2 f2
        go_region_law
          (refine step_append_lies _ (by rfl) _ _ _ (by rfl) B 202 i0 _ 3 64 Tryz.underlying75 hi0 hz0 hz1 hz2 rfl (by omega) (.slice ma ms.length mc) ms.length (macCells ms) (by rfl) ((HX5.out.mown.alloc _).drew) ⟨_, 0, none⟩ 1 1 [.string n0, .slice pa (os.length - 1) pc, .slice ba bn bc] (by rfl) (by rfl) (World.news_of_block (cs := #[.string n0, .slice pa (os.length - 1) pc, .slice ba bn bc]) (t := 202) (fr := (0, 0)) (heap_alloc_new _ _)) (by simp [Value.oneCell']) (by omega) (by unfold maxLen; omega) (by omega) (by simp; omega) _ rfl ?_; intro gg cap' w6 hown6 hgrow hat hlt6; have hc6 := (hgrow.cell_far ⟨be, 1, none⟩ (by simp; omega) (Ne.symm hneb)).trans ((((Below.refl w5.heap.size w5).alloc (Nat.le_refl _) _).drew.cell (p := ⟨be, 1, none⟩) hlt5).trans c1); have hf6 := (hgrow.frozen_far ⟨be, 1, none⟩ (by simp; omega) (Ne.symm hneb)).trans ((((Below.refl w5.heap.size w5).alloc (Nat.le_refl _) _).drew.frozen (p := ⟨be, 1, none⟩) hlt5).trans f1))
        all_goals
          have hb6 : Below w5.heap.size w5 (w5.alloc (.cells #[.string n0, .slice pa (os.length - 1) pc, .slice ba bn bc] 202)).drew := ((Below.refl _ _).alloc (Nat.le_refl _) _).drew
          have HL := hid ((HX5.out.below hb6).maced hgrow hown6)
          have HF7 := hid ((HF5.out.trans (Fr.of_below hb6)).trans (HL.out.2.2.mono (fun k h => by cases h)))
          have HST6 := hid (HST5.out.below hb6)
          have HRA7 := hid ((HRA5.out.below hb6).fr HL.out.2.2 rfl rfl rfl (by simp) (fun g _ => by simp))
          clear hown6 hgrow hat hc6 hf6
          go_wp2
          go_ret
          have hr := HRZ.out
          rw [← List.map_drop, HBP.out] at hr
          subst hr
          refine ⟨rfl, HF7.out, HL.out.2.1, fun h0 => ?_⟩
          obtain ⟨bs, hbs1, hbs2⟩ := HBS5.out h0
          refine ⟨⟨_, _, _, _, _, _, _, HL.out.1 os.tail bs HST6.out (hbs2.below hb6), ?_⟩, HRA7.out⟩
          simp [stOf, plainM, hbs1, ← HOPS.out]
      · have hr := HRY.out
        have hf' : findM (stOf ms ns outs calls).macros (L n0) = some (plainM ms[i]) := hf
        rw [hf'] at hr
        have hr' : (5, k, stOf ms ns outs calls) = r := hr
        subst hr'
        clear hr hf'
        go_wp2
        go_ret
        exact ⟨rfl, HF.out, HX.out.num, fun h => by cases h⟩

end Go.Proofs.YtcepppilgncdmaaGreatDoor

namespace Go.Proofs.YtcepppilgncdmaaGreatDoor
open Go.RowKit
attribute [local go_sem ↓] Go.wp_at_zero Go.wp_at_succ

/-- The words of a short line. -/
def WOk (W : WordsP) : Prop := ∃ l : List UInt8, l.length ≤ 100 ∧ W = wordsP (cutL l)
theorem sumLen_bd (l : List (List UInt8)) (m : Nat) (h : ∀ x ∈ l, x.length ≤ m) : sumLen l ≤ l.length * (m + 1) := by
  induction l with
  | nil => simp [sumLen]
  | cons x r ih =>
    have h1 := ih (fun y hy => h y (by simp [hy]))
    have h2 := h x (by simp)
    unfold sumLen at h1 ⊢
    simp only [List.map_cons, List.sum_cons, List.length_cons]
    rw [Nat.succ_mul]
    omega
theorem WOk.bd {W : WordsP} (h : WOk W) : W.label.length ≤ 100 ∧ W.op.length ≤ 100 ∧ W.operands.length ≤ 101 ∧ (∀ x ∈ W.operands, x.length ≤ 100) ∧ (textP W).length ≤ 1000000 := by
  obtain ⟨l, hl, rfl⟩ := h
  have h0 := cutL_le l
  obtain ⟨h1, h2, h3, h4⟩ := wordsP_bd (cutL l)
  have h5 : ∀ x ∈ (wordsP (cutL l)).operands, x.length ≤ 100 := fun x hx => Nat.le_trans (h4 x hx) (by omega)
  refine ⟨by omega, by omega, by omega, h5, ?_⟩
  rw [textP_head, List.length_append, joined_len]
  have h6 := sumLen_bd _ 100 h5
  have h7 : (wordsP (cutL l)).operands.length * (100 + 1) ≤ 101 * 101 := Nat.mul_le_mul (by omega) (by omega)
  have h8 : (headP (wordsP (cutL l)).label (wordsP (cutL l)).op).length ≤ 300 := by
    unfold headP
    split
    · split
      · simp
      · simp only [List.length_append, List.length_cons, List.length_nil]; omega
    · split
      · omega
      · simp only [List.length_append, List.length_cons, List.length_nil]; omega
  omega
theorem WOk.parts {W : WordsP} (h : WOk W) {w : World} {C : Nat} {lb op : ByteArray} {v : Value} {os : List ByteArray} (hp : PartsV w C lb op v os W) : os.length ≤ 101 ∧ (∀ i (hi : i < os.length), os[i].size ≤ 100) ∧ lb.size ≤ 100 := by
  obtain ⟨h1, h2, h3, h4, _⟩ := h.bd
  refine ⟨by rw [← hp.two.2.1]; exact h3, fun i hi => ?_, by rw [size_L, hp.label]; exact h1⟩
  rw [size_L]
  exact h4 _ (by rw [← hp.ops]; exact List.mem_map.2 ⟨_, List.getElem_mem hi, rfl⟩)

theorem leaveP_ok {W : WordsP} {at_ k : Nat} {st : StP} (h : StOk st k) (he : (leaveP W at_ st).1 = 0) : StOk (leaveP W at_ st).2 k := by
  unfold leaveP at he ⊢
  split at he
  · rw [if_pos (by assumption)]; exact h
  · rename_i h1
    rw [if_neg h1]
    split at he
    · cases he
    · rename_i h2
      rw [if_neg h2]
      have := h.names
      exact ⟨h.macs, by simp; omega, by simp; omega, h.calls, h.few, h.taken⟩
theorem textP_ne {W : WordsP} (h : W.operands ≠ []) : textP W ≠ [] := by
  rw [textP_head]
  cases ho : W.operands with
  | nil => exact absurd ho h
  | cons a b => simp [joined]
theorem setP_ok {W : WordsP} {at_ k : Nat} {st : StP} (h : StOk st k) (he : (setP W at_ st).1 = 0) : StOk (setP W at_ st).2 k := by
  unfold setP at he ⊢
  split at he
  · cases he
  · rename_i h1
    rw [if_neg h1]
    split at he
    · cases he
    · rename_i h2
      rw [if_neg h2]
      split at he
      · rename_i h3; exact absurd he h3
      · rename_i h3
        rw [if_neg h3]
        unfold leaveP at he ⊢
        have hn := h.names
        split at he
        · rename_i h4
          exact absurd h4 (textP_ne (fun e => h1 (Or.inr (by rw [e]; simp))))
        · rename_i h4
          rw [if_neg h4]
          split at he
          · cases he
          · rename_i h5
            rw [if_neg h5]
            simp only at h5
            exact ⟨h.macs, by simp; omega, by simp; omega, h.calls, h.few, h.taken⟩

theorem bodyP_lines (ls : List (List UInt8)) (hl : ∀ l ∈ ls, l.length ≤ 100) : ∀ d, (∀ l ∈ d, l.length ≤ 100 ∧ cutL l = l) → (∀ l ∈ (bodyP d ls).2.1, l.length ≤ 100 ∧ cutL l = l) ∧ (bodyP d ls).2.1.length ≤ d.length + (bodyP d ls).2.2 := by
  induction ls with
  | nil => intro d hd; exact ⟨hd, by simp [bodyP]⟩
  | cons l r ih =>
    intro d hd
    simp only [bodyP]
    split
    · exact ⟨hd, by simp⟩
    · split
      · exact ⟨hd, by simp⟩
      · have h1 := ih (fun x hx => hl x (by simp [hx])) (d ++ [cutL l]) (fun x hx => by
          rcases List.mem_append.1 hx with h | h
          · exact hd x h
          · rw [List.mem_singleton] at h
            subst h
            exact ⟨Nat.le_trans (cutL_le l) (hl l (by simp)), cutL_twice l⟩)
        refine ⟨h1.1, ?_⟩
        have := h1.2
        simp only [List.length_append, List.length_cons, List.length_nil] at this ⊢
        omega
theorem bodyP_took {ls : List (List UInt8)} : ∀ {d}, (bodyP d ls).1 = 0 → 1 ≤ (bodyP d ls).2.2 := by
  induction ls with
  | nil => intro d h; cases h
  | cons l r ih =>
    intro d h
    simp only [bodyP] at h ⊢
    split
    · simp
    · split
      · simp
      · simp
theorem macR_ok {wi k : Nat} {W : WordsP} {st : StP} {ls : List (List UInt8)} (hW : WOk W) (h : StOk st k) (hk : k ≤ ls.length) (hll : ls.length ≤ 3001) (hl : ∀ l ∈ ls, l.length ≤ 100) (he : (macR wi k W st ls).1 = 0) : StOk (macR wi k W st ls).2.2 (macR wi k W st ls).2.1 := by
  unfold macR at he ⊢
  split at he
  · cases he
  · rename_i h1
    rw [if_neg h1]
    split at he
    · cases he
    · rename_i h2
      rw [if_neg h2]
      cases hf : findM st.macros (W.operands.headD []) with
      | some m => rw [hf] at he; cases he
      | none =>
        rw [hf] at he
        have he' : (bodyP [] (ls.drop k)).1 = 0 := he
        have hb := bodyP_lines (ls.drop k) (fun l hm => hl l (List.mem_of_mem_drop hm)) [] (fun _ h => by cases h)
        have ht := bodyP_took he'
        have hn := bodyP_len (ls.drop k) []
        rw [List.length_drop] at hn
        obtain ⟨_, _, b3, b4, _⟩ := hW.bd
        have hfew := h.few
        refine ⟨fun m hm => ?_, h.names, h.out, h.calls, ?_, ?_⟩
        · rcases List.mem_append.1 hm with h3 | h3
          · exact h.macs m h3
          · rw [List.mem_singleton] at h3
            subst h3
            refine ⟨by simp; omega, fun p hp => b4 p (List.mem_of_mem_tail hp), ?_, hb.1⟩
            have := hb.2
            simp only [List.length_nil] at this
            show (bodyP [] (ls.drop k)).2.1.length ≤ 3001
            omega
        · show (st.macros ++ [_]).length ≤ k + (bodyP [] (ls.drop k)).2.2
          rw [List.length_append]
          simp only [List.length_cons, List.length_nil]
          omega
        · show k + (bodyP [] (ls.drop k)).2.2 ≤ 3001
          omega

end Go.Proofs.YtcepppilgncdmaaGreatDoor

namespace Go.Proofs.YtcepppilgncdmaaGreatDoor
open Go.RowKit
attribute [local go_sem ↓] Go.wp_at_zero Go.wp_at_succ

/-- What a call answers: the text's reader is as it was. -/
def CalPost (B be bt wi k : Nat) (r : Int × StP) (w : World) (e : Ending) (w' : World) : Prop :=
  e = .returned (.int .i64 r.1) ∧ Fr B [] w w' ∧ NumAt w' be bt wi k ∧ (r.1 = 0 → ExpSt w' B be bt wi k r.2 ∧ StOk r.2 k)
/-- A macro that is called with so many more to be called within one another. -/
def CallOk (n : Nat) : Prop := ∀ (w : World) (B be bt wi k : Nat) (vm vn vl : Value) (ms : List MacV) (ns : List (ByteArray × Int)) (outs : List (ByteArray × Nat)) (calls i g cap : Nat) (lb op : ByteArray) (va : Option Addr) (vc : Nat) (os : List ByteArray) (W : WordsP) (C : Nat) (hi : i < ms.length),
  wi + n = 8 → ExpAt w B be bt wi k vm vn vl ms ns outs calls → StOk (stOf ms ns outs calls) k → vm = .slice (some ⟨g, 0, none⟩) ms.length cap → PartsV w C lb op (.slice va os.length vc) os W → WOk W → MaxAt w → 0 < B → B ≤ w.heap.size → B ≤ bt →
  Calls Tryz.prog 109 #[.pointer (some ⟨be, 0, none⟩), .pointer (some ⟨g, i * 3, none⟩), .agg #[.string lb, .string op, .slice va os.length vc]] w (CalPost B be bt wi k (callN n (plainM ms[i]) W k (stOf ms ns outs calls)) w)

/-- What becomes of a line that is no condition. -/
def otherP (call : MacP → WordsP → Nat → StP → Int × StP) (wi k : Nat) (W : WordsP) (st : StP) (ls : List (List UInt8)) : Int × Nat × StP :=
  if W.op = opMacro then macR wi k W st ls
  else if W.op = opEnd then (2, k, st)
  else if W.op = opSet then ((setP W k st).1, k, (setP W k st).2)
  else match findM st.macros W.op with
    | some m => ((call m W k st).1, k, (call m W k st).2)
    | none => ((leaveP W k st).1, k, (leaveP W k st).2)
def OthPost (B be bt wi : Nat) (v lv : Value) (ls : List ByteArray) (rest : List Value) (opens : List OpenP) (r : Int × Nat × StP) (w : World) (e : Ending) (w' : World) : Prop :=
  e = .returned (.int .i64 r.1) ∧ Fr B (frM wi bt) w w' ∧ NumAt w' be bt wi r.2.1 ∧ (r.1 = 0 → ExpSt w' B be bt wi r.2.1 r.2.2 ∧ StOk r.2.2 r.2.1 ∧ (wi = 0 → ReadAt w' B 74 bt v lv ls r.2.1 rest opens))

theorem ReadAt.frE {w w' : World} {B bm : Nat} {v lv : Value} {ls : List ByteArray} {k : Nat} {rest : List Value} {opens : List OpenP} {t : Nat} (h : ReadAt w B t bm v lv ls k rest opens) (ht : eT t = false) (hf : Fr B [] w w') : ReadAt w' B t bm v lv ls k rest opens :=
  h.fr hf ht rfl rfl (by simp) (fun _ _ => by simp)

set_option maxRecDepth 100000 in
set_option maxHeartbeats 800000 in
theorem doOther_any (n : Nat) (hcall : CallOk n) (w : World) (B be bt wi k : Nat) (st : StP) (v lv : Value) (ls : List ByteArray) (rest : List Value) (opens : List OpenP) (lb op : ByteArray) (va : Option Addr) (vc : Nat) (os : List ByteArray) (W : WordsP) (C : Nat) (hwn : wi + n = 8)
    (h : ExpSt w B be bt wi k st) (hra : wi = 0 → ReadAt w B 74 bt v lv ls k rest opens) (hp : PartsV w C lb op (.slice va os.length vc) os W) (hW : WOk W) (hls : ∀ i (hi : i < ls.length), ls[i].size ≤ 100) (hok : StOk st k) (hm : MaxAt w) (hgB : 0 < B) (hB : B ≤ w.heap.size) (hbt : B ≤ bt) :
    Calls Tryz.prog 71 #[.pointer (some ⟨be, 0, none⟩), .agg #[.string lb, .string op, .slice va os.length vc]] w (OthPost B be bt wi v lv ls rest opens (otherP (callN n) wi k W st (ls.map L)) w) := by
  obtain ⟨q1, q2, q3⟩ := hW.parts hp
  have hb0 : Below w.heap.size w (w.alloc (.cells #[.string lb, .string op, .slice va os.length vc] 101)) := (Below.refl _ _).alloc (Nat.le_refl _) _
  have HS := hid (h.below hb0)
  have HP := hid (hp.below hb0)
  have HF0 := hid (show Fr B [] w (w.alloc (.cells #[.string lb, .string op, .slice va os.length vc] 101)) from Fr.of_below hb0)
  have HF := hid (show Fr B (frM wi bt) w (w.alloc (.cells #[.string lb, .string op, .slice va os.length vc] 101)) from Fr.of_below hb0)
  have HBX := hid (RowT.new w 101 [.string lb, .string op, .slice va os.length vc])
  have HM := hid (hm.below hb0)
  have HRA := hid (fun h0 => (hra h0).below hb0)
  have HQ2 := hid q2
  have HLS := hid hls
  have HWK := hid hW
  have hb5 := hW.bd.2.2.2.2
  have hB0 : B ≤ (w.alloc (.cells #[.string lb, .string op, .slice va os.length vc] 101)).heap.size := Nat.le_trans hB hb0.size
  have HOK := hid hok
  obtain ⟨r, hr⟩ : ∃ r, otherP (callN n) wi k W st (ls.map L) = r := ⟨_, rfl⟩
  rw [hr]
  unfold otherP at hr
  have HOP := hid hp.op
  clear h hp hb0 hm hra hls hok hW q2
  have y0 := HBX.out.cell 0 (by simp)
  have y1 := HBX.out.cell 1 (by simp)
  have y2 := HBX.out.cell 2 (by simp)
  by_cases h1 : W.op = opMacro
  · rw [if_pos h1] at hr
    have k1 : (op.toList == [46, 109, 97, 99, 114, 111]) = true := op_is (by rw [HOP.out, h1]; rfl)
    have HR := hid hr
    clear hr h1
    go_enter Tryz.func71, Tryz.ntmps71
    go_wp2_with fail
    refine (doMacro_any _ B be bt wi k st v lv ls rest opens lb op va vc os W C HS.out HRA.out HP.out (by omega) (fun i hi => by have := HQ2.out i hi; omega) HLS.out HOK.out (by omega) HM.out hgB hB0 hbt).mono ?_
    rw [HR.out]
    rintro e w1 ⟨rfl, hf1, hn1, hs1⟩
    go_wp2
    go_ret
    refine ⟨rfl, HF.out.trans hf1, hn1, fun h0 => ⟨(hs1 h0).1, ?_, fun _ => (hs1 h0).2⟩⟩
    rw [← HR.out] at h0 ⊢
    by_cases hw0 : 0 < wi
    · unfold macR at h0
      rw [if_pos hw0] at h0
      cases h0
    · have hr0 := HRA.out (by omega)
      refine macR_ok HWK.out HOK.out (by rw [List.length_map]; exact hr0.le) (by rw [List.length_map]; exact hr0.few) (fun l hl => ?_) h0
      obtain ⟨x, hx, rfl⟩ := List.mem_map.1 hl
      obtain ⟨i, hi, rfl⟩ := List.getElem_of_mem hx
      rw [L_length]
      exact HLS.out i hi
  · rw [if_neg h1] at hr
    have k1 : (op.toList == [46, 109, 97, 99, 114, 111]) = false := op_not (by rw [HOP.out]; exact h1)
    clear h1
    by_cases h2 : W.op = opEnd
    · rw [if_pos h2] at hr
      subst hr
      have k2 : (op.toList == [46, 101, 110, 100]) = true := op_is (by rw [HOP.out, h2]; rfl)
      clear h2
      go_enter Tryz.func71, Tryz.ntmps71
      go_wp2
      go_ret
      exact ⟨rfl, HF.out, HS.out.num, fun h => by cases h⟩
    · rw [if_neg h2] at hr
      have k2 : (op.toList == [46, 101, 110, 100]) = false := op_not (by rw [HOP.out]; exact h2)
      clear h2
      by_cases h3 : W.op = opSet
      · rw [if_pos h3] at hr
        have k3 : (op.toList == [46, 115, 101, 116]) = true := op_is (by rw [HOP.out, h3]; rfl)
        have HR := hid hr
        clear hr h3
        go_enter Tryz.func71, Tryz.ntmps71
        go_wp2_with fail
        refine (doSet_any _ B be bt wi k st lb op va vc os W C HS.out HP.out hb5 (by omega) (fun i hi => by have := HQ2.out i hi; omega) HOK.out hB0).mono ?_
        rintro e w1 ⟨rfl, hf1, hs1, hn1⟩
        go_wp2
        go_ret
        rw [← HR.out]
        exact ⟨rfl, (HF0.out.trans hf1).mono (fun _ h => by cases h), hn1, fun h0 => ⟨hs1 h0, setP_ok HOK.out h0, fun hw => (HRA.out hw).frE rfl hf1⟩⟩
      · rw [if_neg h3] at hr
        have k3 : (op.toList == [46, 115, 101, 116]) = false := op_not (by rw [HOP.out]; exact h3)
        have HR := hid hr
        clear hr h3
        obtain ⟨vm, vn, vl, ms, ns, outs, calls, hx, hst⟩ := HS.out
        subst hst
        have hml : ms.length ≤ 3001 := by
          have h1 := HOK.out.few
          have h2 := HOK.out.taken
          simp only [stOf, List.length_map] at h1
          omega
        have HX := hid hx
        clear hx
        go_enter Tryz.func71, Tryz.ntmps71
        go_wp2_with fail
        refine (find_any' _ B be bt wi k vm vn vl ms ns outs calls HX.out hml op).mono ?_
        rintro e w1 ⟨hw1, hcase⟩
        subst hw1
        rcases hcase with ⟨hf, rfl⟩ | ⟨i, g, cap, hi, hf, hvm, rfl⟩
        · have HR2 := hid (show ((leaveP W k (stOf ms ns outs calls)).1, k, (leaveP W k (stOf ms ns outs calls)).2) = r by
            rw [← HR.out]
            have hf' : findM (stOf ms ns outs calls).macros W.op = none := by rw [← HOP.out]; exact hf
            rw [hf'])
          clear hf
          go_wp2_with fail
          refine (leave_any _ B be bt wi k (stOf ms ns outs calls) lb op va vc os W C HS.out HP.out hb5 (by omega) HOK.out.out hB0).mono ?_
          rintro e w2 ⟨rfl, hf1, hs1, hn1⟩
          go_wp2
          go_ret
          rw [← HR2.out]
          exact ⟨rfl, (HF0.out.trans hf1).mono (fun _ h => by cases h), hn1, fun h0 => ⟨hs1 h0, leaveP_ok HOK.out h0, fun hw => (HRA.out hw).frE rfl hf1⟩⟩
        · have HR2 := hid (show ((callN n (plainM ms[i]) W k (stOf ms ns outs calls)).1, k, (callN n (plainM ms[i]) W k (stOf ms ns outs calls)).2) = r by
            rw [← HR.out]
            have hf' : findM (stOf ms ns outs calls).macros W.op = some (plainM ms[i]) := by rw [← HOP.out]; exact hf
            rw [hf'])
          clear hf
          go_wp2_with fail
          refine (hcall _ B be bt wi k vm vn vl ms ns outs calls i g cap lb op va vc os W C hi hwn HX.out HOK.out hvm HP.out HWK.out HM.out hgB hB0 hbt).mono ?_
          rintro e w2 ⟨rfl, hf1, hn1, hs1⟩
          go_wp2
          go_ret
          rw [← HR2.out]
          exact ⟨rfl, (HF0.out.trans hf1).mono (fun _ h => by cases h), hn1, fun h0 => ⟨(hs1 h0).1, (hs1 h0).2, fun hw => (HRA.out hw).frE rfl hf1⟩⟩

end Go.Proofs.YtcepppilgncdmaaGreatDoor

namespace Go.Proofs.YtcepppilgncdmaaGreatDoor
open Go.RowKit
attribute [local go_sem ↓] Go.wp_at_zero Go.wp_at_succ

def doP (call : MacP → WordsP → Nat → StP → Int × StP) (wi k : Nat) (W : WordsP) (opens : List OpenP) (st : StP) (ls : List (List UInt8)) : Int × Nat × List OpenP × StP :=
  if W.op = opIf then ((ifP W opens st).1, k, (ifP W opens st).2, st)
  else if W.op = opElse then ((elseP W opens).1, k, (elseP W opens).2, st)
  else if W.op = opEndif then ((endifP W opens).1, k, (endifP W opens).2, st)
  else if overP opens = true then (0, k, opens, st)
  else ((otherP call wi k W st ls).1, (otherP call wi k W st ls).2.1, opens, (otherP call wi k W st ls).2.2)
/-- The text's reader, where no macro is called; or a macro's. -/
def Kind (wi bt k T t bm j : Nat) : Prop := (wi = 0 ∧ T = 69 ∧ t = 74 ∧ bm = bt ∧ j = k) ∨ (0 < wi ∧ T = 207 ∧ t = 209)
theorem Kind.rd {wi bt k T t bm j : Nat} (h : Kind wi bt k T t bm j) : Rd T t := by
  rcases h with ⟨_, h1, h2, _⟩ | ⟨_, h1, h2⟩
  · exact Or.inl ⟨h1, h2⟩
  · exact Or.inr ⟨h1, h2⟩
def nextJ (wi k j : Nat) : Nat := if wi = 0 then k else j
theorem Kind.same {wi bt k T t bm j : Nat} (h : Kind wi bt k T t bm j) : nextJ wi k j = j := by
  unfold nextJ
  rcases h with ⟨h0, _, _, _, h1⟩ | ⟨h0, _⟩
  · rw [if_pos h0, h1]
  · rw [if_neg (by omega)]
def DoPost (B be bt wi t bm j : Nat) (v lv : Value) (ls : List ByteArray) (rest : List Value) (r : Int × Nat × List OpenP × StP) (w : World) (e : Ending) (w' : World) : Prop :=
  e = .returned (.int .i64 r.1) ∧ Fr B (condM bm v) w w' ∧ NumAt w' be bt wi r.2.1 ∧
  (r.1 = 0 → ExpSt w' B be bt wi r.2.1 r.2.2.2 ∧ StOk r.2.2.2 r.2.1 ∧ ∃ v', (∀ g, v'.ownBlock = some g → v.ownBlock = some g ∨ w.heap.size ≤ g) ∧ ReadAt w' B t bm v' lv ls (nextJ wi r.2.1 j) rest r.2.2.1)

theorem IfPost.doPost {B be bt wi k t bm T j : Nat} {v lv : Value} {ls : List ByteArray} {rest : List Value} {st : StP} {r : Int × List OpenP} {w0 w : World} {e : Ending} {w' : World} (h : IfPost B be bt wi k t bm v (lv :: .int .i64 (j : Nat) :: rest) st r w0 e w') (hb : Below w.heap.size w w0) (hk : Kind wi bt k T t bm j) (hok : StOk st k) {opens : List OpenP} (hra : ReadAt w0 B t bm v lv ls j rest opens) :
    DoPost B be bt wi t bm j v lv ls rest (r.1, k, r.2, st) w e w' := by
  obtain ⟨h1, h2, h3, h4⟩ := h
  refine ⟨h1, (Fr.of_below hb).trans h2.to, h4, fun h0 => ?_⟩
  obtain ⟨h5, v', h6, h7⟩ := h3 h0
  refine ⟨h5, hok, v', fun g hg => (h6 g hg).imp id (fun h => Nat.le_trans hb.size h), ?_⟩
  show ReadAt w' B t bm v' lv ls (nextJ wi k j) rest r.2
  rw [hk.same]
  exact ⟨h7, hra.strs.frc h2, hra.le, hra.few⟩

set_option maxRecDepth 100000 in
set_option maxHeartbeats 800000 in
theorem do_any (n : Nat) (hcall : CallOk n) (w : World) (B be bt wi k T t bm j : Nat) (st : StP) (v lv : Value) (ls : List ByteArray) (rest : List Value) (opens : List OpenP) (lb op : ByteArray) (va : Option Addr) (vc : Nat) (os : List ByteArray) (W : WordsP) (C : Nat) (hwn : wi + n = 8)
    (hk : Kind wi bt k T t bm j) (h : ExpSt w B be bt wi k st) (hra : ReadAt w B t bm v lv ls j rest opens) (hch : Chain opens) (hp : PartsV w C lb op (.slice va os.length vc) os W) (hW : WOk W) (hls : ∀ i (hi : i < ls.length), ls[i].size ≤ 100) (hok : StOk st k) (hm : MaxAt w) (hgB : 0 < B) (hB : B ≤ w.heap.size) (hbt : B ≤ bt) (hbm : B ≤ bm) :
    Calls Tryz.prog 46 #[.pointer (some ⟨be, 0, none⟩), .iface T (.pointer (some ⟨bm, 0, none⟩)), .agg #[.string lb, .string op, .slice va os.length vc]] w (DoPost B be bt wi t bm j v lv ls rest (doP (callN n) wi k W opens st (ls.map L)) w) := by
  obtain ⟨q1, q2, q3⟩ := hW.parts hp
  have hrd := hk.rd
  obtain ⟨htc, hts, htp, hrt, het⟩ := hrd.facts
  have hb0 : Below w.heap.size w (w.alloc (.cells #[.string lb, .string op, .slice va os.length vc] 101)) := (Below.refl _ _).alloc (Nat.le_refl _) _
  have HS := hid (h.below hb0)
  have HP := hid (hp.below hb0)
  have HB0 := hid hb0
  have HBX := hid (RowT.new w 101 [.string lb, .string op, .slice va os.length vc])
  have HM := hid (hm.below hb0)
  have HRA := hid (hra.below hb0)
  have HQ2 := hid q2
  have HLS := hid hls
  have HWK := hid hW
  have HCH := hid hch
  have HBR := hid hp.bare
  have hB0 : B ≤ (w.alloc (.cells #[.string lb, .string op, .slice va os.length vc] 101)).heap.size := Nat.le_trans hB hb0.size
  have HOK := hid hok
  have HK := hid hk
  have hnl : st.names.length ≤ 1000 := by have h1 := hok.names; have h2 := hok.out; omega
  have m2 := fun w => ask_passing hrd bm w
  have m4 := fun w => ask_turn hrd bm w
  have m5 := fun w => ask_finish hrd bm w
  obtain ⟨r, hr⟩ : ∃ r, doP (callN n) wi k W opens st (ls.map L) = r := ⟨_, rfl⟩
  rw [hr]
  unfold doP at hr
  have HOP := hid hp.op
  clear h hp hb0 hm hra hls hok hW q2 hch hk
  have y0 := HBX.out.cell 0 (by simp)
  have y1 := HBX.out.cell 1 (by simp)
  have y2 := HBX.out.cell 2 (by simp)
  by_cases h1 : W.op = opIf
  · rw [if_pos h1] at hr
    have k1 : (op.toList == [46, 105, 102]) = true := op_is (by rw [HOP.out, h1]; rfl)
    subst hr
    clear h1
    go_enter Tryz.func46, Tryz.ntmps46
    go_wp2_with fail
    refine (doIf_any _ B be bt wi k T t bm st v lv j rest opens lb op va vc os W C hrd HS.out HRA.out.cond HP.out (fun i hi => by have := HQ2.out i hi; omega) hnl hB0 hbm).mono ?_
    rintro e w1 hpost
    obtain ⟨hv1, hrest⟩ := hpost
    subst hv1
    go_wp2
    go_ret
    exact IfPost.doPost ⟨rfl, hrest⟩ HB0.out HK.out HOK.out HRA.out
  · rw [if_neg h1] at hr
    have k1 : (op.toList == [46, 105, 102]) = false := op_not (by rw [HOP.out]; exact h1)
    clear h1
    by_cases h2 : W.op = opElse
    · rw [if_pos h2] at hr
      have k2 : (op.toList == [46, 101, 108, 115, 101]) = true := op_is (by rw [HOP.out, h2]; rfl)
      subst hr
      clear h2
      go_enter Tryz.func46, Tryz.ntmps46
      go_wp2_with fail
      refine (turn_any _ B t bm v _ opens lb op va os.length vc W (elseP W opens).1 (elseP W opens).2 HRA.out.cond HCH.out htc (by unfold maxLen; omega) HBR.out.symm rfl).mono ?_
      rintro e w1 hpost
      have hif := CondPost.ifPost (r := elseP W opens) hpost HS.out HRA.out.cond
      obtain ⟨hv1, hrest⟩ := hif
      subst hv1
      clear hpost
      go_wp2
      go_ret
      exact IfPost.doPost ⟨rfl, hrest⟩ HB0.out HK.out HOK.out HRA.out
    · rw [if_neg h2] at hr
      have k2 : (op.toList == [46, 101, 108, 115, 101]) = false := op_not (by rw [HOP.out]; exact h2)
      clear h2
      by_cases h3 : W.op = opEndif
      · rw [if_pos h3] at hr
        have k3 : (op.toList == [46, 101, 110, 100, 105, 102]) = true := op_is (by rw [HOP.out, h3]; rfl)
        subst hr
        clear h3
        go_enter Tryz.func46, Tryz.ntmps46
        go_wp2_with fail
        refine (finish_any _ B t bm v _ opens lb op va os.length vc W (endifP W opens).1 (endifP W opens).2 HRA.out.cond HCH.out htc hrt hbm (by unfold maxLen; omega) HBR.out.symm rfl).mono ?_
        rintro e w1 hpost
        have hif := CondPost.ifPost (r := endifP W opens) hpost HS.out HRA.out.cond
        obtain ⟨hv1, hrest⟩ := hif
        subst hv1
        clear hpost
        go_wp2
        go_ret
        exact IfPost.doPost ⟨rfl, hrest⟩ HB0.out HK.out HOK.out HRA.out
      · rw [if_neg h3] at hr
        have k3 : (op.toList == [46, 101, 110, 100, 105, 102]) = false := op_not (by rw [HOP.out]; exact h3)
        have HR := hid hr
        clear h3 hr
        go_enter Tryz.func46, Tryz.ntmps46
        go_wp2_with fail
        refine (passing_any _ B t bm v _ opens HRA.out.cond).mono ?_
        cases hov : overP opens with
        | true =>
          rintro e w1 ⟨rfl, rfl⟩
          have hr := HR.out
          rw [if_pos hov] at hr
          subst hr
          clear hov
          go_wp2
          go_ret
          refine ⟨rfl, Fr.of_below HB0.out, HS.out.num, fun _ => ⟨HS.out, HOK.out, v, fun g hg => Or.inl hg, ?_⟩⟩
          show ReadAt _ B t bm v lv ls (nextJ wi k j) rest opens
          rw [HK.out.same]
          exact HRA.out
        | false =>
          rintro e w1 ⟨rfl, rfl⟩
          have hr := HR.out
          rw [if_neg (by rw [hov]; simp)] at hr
          have HR2 := hid hr
          clear hov hr
          go_wp2_with fail
          refine (doOther_any n hcall _ B be bt wi k st v lv ls rest opens lb op va vc os W C hwn HS.out (fun hw => ?_) HP.out HWK.out HLS.out HOK.out HM.out hgB hB0 hbt).mono ?_
          · rcases HK.out with ⟨_, _, h5, h6, h7⟩ | ⟨h5, _⟩
            · have := HRA.out
              rw [h5, h6, h7] at this
              exact this
            · omega
          · rintro e w2 ⟨rfl, hf2, hn2, hs2⟩
            go_wp2
            go_ret
            rw [← HR2.out]
            have hmem : ∀ i, i ∈ frM wi bt → i ∈ condM bm v := by
              intro i hi
              unfold frM at hi
              rcases HK.out with ⟨h4, _, _, h6, _⟩ | ⟨h5, _⟩
              · rw [if_pos h4, List.mem_singleton] at hi
                rw [hi, ← h6]; simp [condM]
              · rw [if_neg (by omega)] at hi; cases hi
            refine ⟨rfl, (Fr.of_below HB0.out).trans (hf2.mono hmem), hn2, fun h0 => ?_⟩
            obtain ⟨g1, g2, g3⟩ := hs2 h0
            refine ⟨g1, g2, v, fun g hg => Or.inl hg, ?_⟩
            rcases HK.out with ⟨h4, _, h5, h6, _⟩ | ⟨h4, _, h5⟩
            · have := g3 h4
              show ReadAt _ B t bm v lv ls (nextJ wi _ j) rest opens
              unfold nextJ
              rw [if_pos h4, h5, h6]
              exact this
            · show ReadAt _ B t bm v lv ls (nextJ wi _ j) rest opens
              unfold nextJ
              rw [if_neg (by omega)]
              refine HRA.out.frE het ?_
              have : frM wi bt = [] := by unfold frM; rw [if_neg (by omega)]
              rw [this] at hf2
              exact hf2

end Go.Proofs.YtcepppilgncdmaaGreatDoor

namespace Go.Proofs.YtcepppilgncdmaaGreatDoor
open Go.RowKit

theorem ifP_chain {W : WordsP} {opens : List OpenP} {st : StP} (h : Chain opens) (he : (ifP W opens st).1 = 0) : Chain (ifP W opens st).2 := by
  unfold ifP at he ⊢
  split at he
  · simp at he
  · rename_i h8
    rw [if_neg h8]
    split at he
    · rename_i ho
      rw [if_pos ho]
      exact ⟨by rw [ho], h⟩
    · rename_i ho
      rw [if_neg ho]
      split at he
      · simp at he
      · rename_i hl
        rw [if_neg hl]
        split at he
        · rename_i hv
          exact absurd he hv
        · rename_i hv
          rw [if_neg hv]
          exact ⟨by simp [Bool.not_eq_true] at ho; rw [ho], h⟩
theorem elseP_chain {W : WordsP} {opens : List OpenP} (h : Chain opens) (he : (elseP W opens).1 = 0) : Chain (elseP W opens).2 := by
  cases opens with
  | nil => simp [elseP] at he
  | cons o r =>
    simp only [elseP] at he ⊢
    split at he
    · simp at he
    · rename_i h1
      rw [if_neg h1]
      split at he
      · simp at he
      · rename_i h2
        rw [if_neg h2]
        exact h
theorem endifP_chain {W : WordsP} {opens : List OpenP} (h : Chain opens) (he : (endifP W opens).1 = 0) : Chain (endifP W opens).2 := by
  cases opens with
  | nil => simp [endifP] at he
  | cons o r =>
    simp only [endifP] at he ⊢
    split at he
    · simp at he
    · rename_i h1
      rw [if_neg h1]
      exact h.2
theorem doP_chain {call : MacP → WordsP → Nat → StP → Int × StP} {wi k : Nat} {W : WordsP} {opens : List OpenP} {st : StP} {ls : List (List UInt8)} (h : Chain opens) (he : (doP call wi k W opens st ls).1 = 0) : Chain (doP call wi k W opens st ls).2.2.1 := by
  unfold doP at he ⊢
  by_cases h1 : W.op = opIf
  · rw [if_pos h1] at he ⊢; exact ifP_chain h he
  · rw [if_neg h1] at he ⊢
    by_cases h2 : W.op = opElse
    · rw [if_pos h2] at he ⊢; exact elseP_chain h he
    · rw [if_neg h2] at he ⊢
      by_cases h3 : W.op = opEndif
      · rw [if_pos h3] at he ⊢; exact endifP_chain h he
      · rw [if_neg h3] at he ⊢
        by_cases h4 : overP opens = true
        · rw [if_pos h4] at he ⊢; exact h
        · rw [if_neg h4] at he ⊢; exact h
theorem doP_at {call : MacP → WordsP → Nat → StP → Int × StP} {wi k : Nat} {W : WordsP} {opens : List OpenP} {st : StP} {ls : List (List UInt8)} (hw : 0 < wi) : (doP call wi k W opens st ls).2.1 = k := by
  unfold doP
  split
  · rfl
  · split
    · rfl
    · split
      · rfl
      · split
        · rfl
        · show (otherP call wi k W st ls).2.1 = k
          unfold otherP macR
          rw [if_pos hw]
          split
          · rfl
          · split
            · rfl
            · split
              · rfl
              · split <;> rfl

def headR (W : WordsP) (st : StP) : Int × Option MacP :=
  if headBad W = true then (4, none) else match findM st.macros (W.operands.headD []) with
    | some _ => (5, none)
    | none => (0, some ⟨W.operands.headD [], W.operands.tail, []⟩)
theorem defP_head (W : WordsP) (st : StP) : defP false W st = headR W st := by
  unfold defP headR headBad
  by_cases h1 : W.label = [] <;> by_cases h2 : W.operands = [] <;> cases h3 : allNames W.operands <;> cases h4 : apartP W.operands.tail <;> simp [h1, h2] <;> (cases findM st.macros (W.operands.head?.getD []) <;> rfl)

theorem blockP_over (call : MacP → WordsP → Nat → StP → Int × StP) (sub : Option (List (List UInt8) × List (List UInt8))) (inc : Nat) (l : List UInt8) (r : List (List UInt8)) (at_ : Nat) (opens : List OpenP) (st : StP) (ho : overP opens = true) :
    blockP call sub inc (l :: r) at_ opens none st = if (passP (wordsP (cutL l)) opens st).1 ≠ 0 then ((passP (wordsP (cutL l)) opens st).1, at_ + inc, st) else blockP call sub inc r (at_ + inc) (passP (wordsP (cutL l)) opens st).2 none st := by
  rw [blockP, if_pos ho]
theorem blockP_line (call : MacP → WordsP → Nat → StP → Int × StP) (sub : Option (List (List UInt8) × List (List UInt8))) (inc : Nat) (l : List UInt8) (r : List (List UInt8)) (at_ : Nat) (opens : List OpenP) (st : StP) (ho : ¬ overP opens = true) (W : WordsP) (hW : readP sub false (cutL l) = (0, W)) :
    blockP call sub inc (l :: r) at_ opens none st = if (lineP call sub.isSome W (at_ + inc) opens st).1 ≠ 0 then ((lineP call sub.isSome W (at_ + inc) opens st).1, at_ + inc, st) else blockP call sub inc r (at_ + inc) (lineP call sub.isSome W (at_ + inc) opens st).2.1 (lineP call sub.isSome W (at_ + inc) opens st).2.2.1 (lineP call sub.isSome W (at_ + inc) opens st).2.2.2 := by
  rw [blockP, if_neg ho, hW, if_neg (fun h => h rfl)]

/-- A text's line. -/
theorem block_text (call : MacP → WordsP → Nat → StP → Int × StP) (ls : List (List UInt8)) (k : Nat) (hk : k < ls.length) (opens : List OpenP) (st : StP) (r : Int × Nat × List OpenP × StP) (hr : doP call 0 (k + 1) (wordsP (cutL ls[k])) opens st ls = r) :
    (r.1 ≠ 0 → (blockP call none 1 (ls.drop k) k opens none st).1 = r.1 ∧ (blockP call none 1 (ls.drop k) k opens none st).2.1 = r.2.1) ∧
    (r.1 = 0 → blockP call none 1 (ls.drop k) k opens none st = blockP call none 1 (ls.drop r.2.1) r.2.1 r.2.2.1 none r.2.2.2) := by
  rw [List.drop_eq_getElem_cons hk]
  obtain ⟨W, hW⟩ : ∃ W, wordsP (cutL ls[k]) = W := ⟨_, rfl⟩
  rw [hW] at hr
  unfold doP at hr
  by_cases ho : overP opens = true
  · rw [blockP_over _ _ _ _ _ _ _ _ ho, hW]
    simp only [if_pos ho] at hr
    unfold passP
    by_cases h1 : W.op = opIf
    · simp only [if_pos h1] at hr ⊢
      subst hr
      exact ⟨fun h => by rw [if_pos h]; exact ⟨rfl, rfl⟩, fun h => if_neg (fun c => c h)⟩
    · simp only [if_neg h1] at hr ⊢
      by_cases h2 : W.op = opElse
      · simp only [if_pos h2] at hr ⊢
        subst hr
        exact ⟨fun h => by rw [if_pos h]; exact ⟨rfl, rfl⟩, fun h => if_neg (fun c => c h)⟩
      · simp only [if_neg h2] at hr ⊢
        by_cases h3 : W.op = opEndif
        · simp only [if_pos h3] at hr ⊢
          subst hr
          exact ⟨fun h => by rw [if_pos h]; exact ⟨rfl, rfl⟩, fun h => if_neg (fun c => c h)⟩
        · simp only [if_neg h3] at hr ⊢
          subst hr
          exact ⟨fun h => absurd rfl h, fun h => if_neg (fun c => c h)⟩
  · rw [blockP_line _ _ _ _ _ _ _ _ ho W (by rw [← hW]; simp [readP, cutL_twice])]
    simp only [if_neg ho] at hr
    simp only [Option.isSome_none]
    unfold lineP
    by_cases h1 : W.op = opIf
    · simp only [if_pos h1] at hr ⊢
      subst hr
      exact ⟨fun h => by rw [if_pos h]; exact ⟨rfl, rfl⟩, fun h => if_neg (fun c => c h)⟩
    · simp only [if_neg h1] at hr ⊢
      by_cases h2 : W.op = opElse
      · simp only [if_pos h2] at hr ⊢
        subst hr
        exact ⟨fun h => by rw [if_pos h]; exact ⟨rfl, rfl⟩, fun h => if_neg (fun c => c h)⟩
      · simp only [if_neg h2] at hr ⊢
        by_cases h3 : W.op = opEndif
        · simp only [if_pos h3] at hr ⊢
          subst hr
          exact ⟨fun h => by rw [if_pos h]; exact ⟨rfl, rfl⟩, fun h => if_neg (fun c => c h)⟩
        · simp only [if_neg h3] at hr ⊢
          unfold otherP at hr
          by_cases h4 : W.op = opMacro
          · simp only [if_pos h4] at hr ⊢
            simp only [defP_head]
            unfold headR
            unfold macR at hr
            rw [if_neg (Nat.lt_irrefl 0)] at hr
            by_cases h5 : headBad W = true
            · simp only [if_pos h5] at hr ⊢
              subst hr
              exact ⟨fun h => by rw [if_pos h]; exact ⟨rfl, rfl⟩, fun h => absurd h (by simp)⟩
            · simp only [if_neg h5] at hr ⊢
              cases h6 : findM st.macros (W.operands.headD []) with
              | some m =>
                simp only [h6] at hr ⊢
                subst hr
                exact ⟨fun h => by rw [if_pos h]; exact ⟨rfl, rfl⟩, fun h => absurd h (by simp)⟩
              | none =>
                simp only [h6] at hr ⊢
                subst hr
                rw [if_neg (fun c => c rfl), blockP_def]
                exact ⟨fun h => by rw [if_pos h]; exact ⟨rfl, rfl⟩, fun h => by rw [if_neg (fun c => c h), List.drop_drop]⟩
          · simp only [if_neg h4] at hr ⊢
            by_cases h5 : W.op = opEnd
            · simp only [if_pos h5] at hr ⊢
              subst hr
              exact ⟨fun h => by rw [if_pos h]; exact ⟨rfl, rfl⟩, fun h => absurd h (by simp)⟩
            · simp only [if_neg h5] at hr ⊢
              by_cases h6 : W.op = opSet
              · simp only [if_pos h6] at hr ⊢
                subst hr
                exact ⟨fun h => by rw [if_pos h]; exact ⟨rfl, rfl⟩, fun h => if_neg (fun c => c h)⟩
              · simp only [if_neg h6] at hr ⊢
                cases h7 : findM st.macros W.op with
                | some m =>
                  simp only [h7] at hr ⊢
                  subst hr
                  exact ⟨fun h => by rw [if_pos h]; exact ⟨rfl, rfl⟩, fun h => if_neg (fun c => c h)⟩
                | none =>
                  simp only [h7] at hr ⊢
                  subst hr
                  exact ⟨fun h => by rw [if_pos h]; exact ⟨rfl, rfl⟩, fun h => if_neg (fun c => c h)⟩

/-- A macro's line that cannot be filled. -/
theorem block_unread (call : MacP → WordsP → Nat → StP → Int × StP) (ps os : List (List UInt8)) (ls : List (List UInt8)) (j k : Nat) (hk : j < ls.length) (opens : List OpenP) (st : StP) (he : (readP (some (ps, os)) (overP opens) (cutL ls[j])).1 ≠ 0) :
    (blockP call (some (ps, os)) 0 (ls.drop j) k opens none st).1 = (readP (some (ps, os)) (overP opens) (cutL ls[j])).1 ∧ (blockP call (some (ps, os)) 0 (ls.drop j) k opens none st).2.1 = k := by
  rw [List.drop_eq_getElem_cons hk]
  cases ho : overP opens with
  | true => rw [ho] at he; simp [readP] at he
  | false =>
    rw [ho] at he
    rw [blockP, if_neg (by rw [ho]; decide), if_pos he]
    exact ⟨rfl, rfl⟩

/-- A macro's line. -/
theorem block_mac (call : MacP → WordsP → Nat → StP → Int × StP) (ps os : List (List UInt8)) (ls : List (List UInt8)) (wi j k : Nat) (hw : 0 < wi) (hk : j < ls.length) (hcut : cutL ls[j] = ls[j]) (opens : List OpenP) (st : StP) (he : (readP (some (ps, os)) (overP opens) (cutL ls[j])).1 = 0) (xs : List (List UInt8)) (r : Int × Nat × List OpenP × StP) (hr : doP call wi k (readP (some (ps, os)) (overP opens) (cutL ls[j])).2 opens st xs = r) :
    (r.1 ≠ 0 → (blockP call (some (ps, os)) 0 (ls.drop j) k opens none st).1 = r.1 ∧ (blockP call (some (ps, os)) 0 (ls.drop j) k opens none st).2.1 = k) ∧
    (r.1 = 0 → blockP call (some (ps, os)) 0 (ls.drop j) k opens none st = blockP call (some (ps, os)) 0 (ls.drop (j + 1)) k r.2.2.1 none r.2.2.2) := by
  rw [List.drop_eq_getElem_cons hk]
  unfold doP at hr
  by_cases ho : overP opens = true
  · have hW : (readP (some (ps, os)) (overP opens) (cutL ls[j])).2 = wordsP (cutL ls[j]) := by
      rw [ho]; simp only [readP, hcut]
    rw [hW] at hr
    rw [blockP_over _ _ _ _ _ _ _ _ ho]
    generalize wordsP (cutL ls[j]) = W at hr
    simp only [if_pos ho] at hr
    unfold passP
    by_cases h1 : W.op = opIf
    · simp only [if_pos h1] at hr ⊢
      subst hr
      exact ⟨fun h => by rw [if_pos h]; exact ⟨rfl, rfl⟩, fun h => if_neg (fun c => c h)⟩
    · simp only [if_neg h1] at hr ⊢
      by_cases h2 : W.op = opElse
      · simp only [if_pos h2] at hr ⊢
        subst hr
        exact ⟨fun h => by rw [if_pos h]; exact ⟨rfl, rfl⟩, fun h => if_neg (fun c => c h)⟩
      · simp only [if_neg h2] at hr ⊢
        by_cases h3 : W.op = opEndif
        · simp only [if_pos h3] at hr ⊢
          subst hr
          exact ⟨fun h => by rw [if_pos h]; exact ⟨rfl, rfl⟩, fun h => if_neg (fun c => c h)⟩
        · simp only [if_neg h3] at hr ⊢
          subst hr
          exact ⟨fun h => absurd rfl h, fun h => if_neg (fun c => c h)⟩
  · have ho' : overP opens = false := by simpa using ho
    simp only [if_neg ho] at hr
    rw [ho'] at hr he
    obtain ⟨W, hW⟩ : ∃ W, (readP (some (ps, os)) false (cutL ls[j])).2 = W := ⟨_, rfl⟩
    rw [hW] at hr
    rw [blockP_line _ _ _ _ _ _ _ _ ho W (Prod.ext he hW)]
    simp only [Option.isSome_some, Nat.add_zero]
    unfold lineP
    by_cases h1 : W.op = opIf
    · simp only [if_pos h1] at hr ⊢
      subst hr
      exact ⟨fun h => by rw [if_pos h]; exact ⟨rfl, rfl⟩, fun h => if_neg (fun c => c h)⟩
    · simp only [if_neg h1] at hr ⊢
      by_cases h2 : W.op = opElse
      · simp only [if_pos h2] at hr ⊢
        subst hr
        exact ⟨fun h => by rw [if_pos h]; exact ⟨rfl, rfl⟩, fun h => if_neg (fun c => c h)⟩
      · simp only [if_neg h2] at hr ⊢
        by_cases h3 : W.op = opEndif
        · simp only [if_pos h3] at hr ⊢
          subst hr
          exact ⟨fun h => by rw [if_pos h]; exact ⟨rfl, rfl⟩, fun h => if_neg (fun c => c h)⟩
        · simp only [if_neg h3] at hr ⊢
          unfold otherP at hr
          by_cases h4 : W.op = opMacro
          · simp only [if_pos h4] at hr ⊢
            unfold macR at hr
            rw [if_pos hw] at hr
            simp only [defP, if_true]
            subst hr
            exact ⟨fun h => by rw [if_pos h]; exact ⟨rfl, rfl⟩, fun h => absurd h (by simp)⟩
          · simp only [if_neg h4] at hr ⊢
            by_cases h5 : W.op = opEnd
            · simp only [if_pos h5] at hr ⊢
              subst hr
              exact ⟨fun h => by rw [if_pos h]; exact ⟨rfl, rfl⟩, fun h => absurd h (by simp)⟩
            · simp only [if_neg h5] at hr ⊢
              by_cases h6 : W.op = opSet
              · simp only [if_pos h6] at hr ⊢
                subst hr
                exact ⟨fun h => by rw [if_pos h]; exact ⟨rfl, rfl⟩, fun h => if_neg (fun c => c h)⟩
              · simp only [if_neg h6] at hr ⊢
                cases h7 : findM st.macros W.op with
                | some m =>
                  simp only [h7] at hr ⊢
                  subst hr
                  exact ⟨fun h => by rw [if_pos h]; exact ⟨rfl, rfl⟩, fun h => if_neg (fun c => c h)⟩
                | none =>
                  simp only [h7] at hr ⊢
                  subst hr
                  exact ⟨fun h => by rw [if_pos h]; exact ⟨rfl, rfl⟩, fun h => if_neg (fun c => c h)⟩

theorem WOk.line {l : List UInt8} (h : l.length ≤ 100) : WOk (wordsP (cutL l)) := ⟨l, h, rfl⟩
theorem WOk.read {sub : Option (List (List UInt8) × List (List UInt8))} {ov : Bool} {l : List UInt8} (h : l.length ≤ 100) : WOk (readP sub ov l).2 := by
  unfold readP
  split
  · rename_i ps os
    split
    · exact ⟨[], by simp, by rfl⟩
    · rename_i hz
      refine ⟨(filledP ps os l).2, ?_, rfl⟩
      unfold filledP at hz ⊢
      cases hf : fillP ps os l.length l with
      | none => rw [hf] at hz; simp at hz
      | some t =>
        simp only [hf] at hz ⊢
        split at hz
        · simp at hz
        · rename_i h80
          rw [if_neg h80]
          show t.length ≤ 100
          omega
  · exact ⟨l, h, rfl⟩

end Go.Proofs.YtcepppilgncdmaaGreatDoor

namespace Go.Proofs.YtcepppilgncdmaaGreatDoor
open Go.RowKit
attribute [local go_sem ↓] Go.wp_at_zero Go.wp_at_succ

def GoPost (B be bt wi : Nat) (M : List Nat) (r : Int × Nat × StP) (w : World) (e : Ending) (w' : World) : Prop :=
  e = .returned (.int .i64 r.1) ∧ Fr B M w w' ∧ NumAt w' be bt wi r.2.1 ∧ (r.1 = 0 → ExpSt w' B be bt wi r.2.1 r.2.2 ∧ StOk r.2.2 r.2.1)

theorem doP_ge {call : MacP → WordsP → Nat → StP → Int × StP} {wi k : Nat} {W : WordsP} {opens : List OpenP} {st : StP} {ls : List (List UInt8)} : k ≤ (doP call wi k W opens st ls).2.1 := by
  unfold doP
  split
  · exact Nat.le_refl _
  · split
    · exact Nat.le_refl _
    · split
      · exact Nat.le_refl _
      · split
        · exact Nat.le_refl _
        · show k ≤ (otherP call wi k W st ls).2.1
          unfold otherP
          split
          · unfold macR
            split
            · exact Nat.le_refl _
            · split
              · exact Nat.le_refl _
              · split
                · exact Nat.le_refl _
                · exact Nat.le_add_right _ _
          · split
            · exact Nat.le_refl _
            · split
              · exact Nat.le_refl _
              · split <;> exact Nat.le_refl _
theorem blockP_nil (call : MacP → WordsP → Nat → StP → Int × StP) (sub : Option (List (List UInt8) × List (List UInt8))) (inc at_ : Nat) (opens : List OpenP) (st : StP) :
    blockP call sub inc [] at_ opens none st = if opens = [] then (0, at_, st) else (2, at_, st) := by
  rw [blockP]; simp
theorem StOk.later {st : StP} {k : Nat} (h : StOk st k) {j : Nat} (hk : k ≤ j) (hj : j ≤ 3001) : StOk st j := ⟨h.macs, h.names, h.out, h.calls, Nat.le_trans h.few hk, hj⟩

set_option maxRecDepth 100000 in
set_option maxHeartbeats 800000 in
theorem goT_any (hcall : CallOk 8) (w : World) (B be bt : Nat) (st0 : StP) (lv : Value) (ls : List ByteArray)
    (h : ExpSt w B be bt 0 0 st0) (hra : ReadAt w B 74 bt (.slice none 0 0) lv ls 0 [] []) (hls : ∀ i (hi : i < ls.length), ls[i].size ≤ 100) (hok : StOk st0 0) (hm : MaxAt w) (hgB : 0 < B) (hB : B ≤ w.heap.size) (hbt : B ≤ bt) (R : Int × Nat × StP) (hR : blockP (callN 8) none 1 (ls.map L) 0 [] none st0 = R) :
    Calls Tryz.prog 31 #[.pointer (some ⟨be, 0, none⟩), .iface 69 (.pointer (some ⟨bt, 0, none⟩))] w (GoPost B be bt 0 [bt] R w) := by
  have hrd : Rd 69 74 := Or.inl ⟨rfl, rfl⟩
  have hfew := hra.few
  have m1 := fun w => ask_more hrd bt w
  have m2 := fun w => ask_lread bt w
  have m3 := fun w => ask_depth hrd bt w
  have HS := hid h
  have HRA := hid hra
  have HLS := hid hls
  have HOK := hid hok
  have HM := hid hm
  have HR := hid hR
  clear h hra hls hok hm hR
  go_enter Tryz.func31, Tryz.ntmps31
  go_wp2_with fail
  go_loopg [4] (ls.length + 1) (fun q x wr => ∃ (k : Nat) (opens : List OpenP) (st : StP) (v : Value), q + k = ls.length + 1 ∧ ExpSt wr B be bt 0 k st ∧ ReadAt wr B 74 bt v lv ls k [] opens ∧ Chain opens ∧ StOk st k ∧ Fr B [bt] w wr ∧ (∀ g, v.ownBlock = some g → w.heap.size ≤ g) ∧ blockP (callN 8) none 1 ((ls.map L).drop k) k opens none st = R)
  case atStart => exact ⟨0, [], st0, .slice none 0 0, by simp, HS.out, HRA.out, trivial, HOK.out, Fr.refl _ _ _, (fun g hg => by cases hg), HR.out⟩
  case round =>
    obtain ⟨k, opens, st, v, hq, hs, hra, hch, hok, hfr, hvn, hbr⟩ := hrel
    have HS := hid hs
    have HRA := hid hra
    have HCH := hid hch
    have HOK := hid hok
    have HFR := hid hfr
    have HVN := hid hvn
    have HBR := hid hbr
    have HMr := hid (HM.out.fr hfr hgB)
    have hBr : B ≤ wr.heap.size := Nat.le_trans hB hfr.size
    have hop8 := hra.cond.few
    clear hs hra hch hok hfr hvn hbr
    go_wp2_with fail
    refine (more_any _ B _ bt v lv ls k [] opens HRA.out).mono ?_
    by_cases hlt : k < ls.length
    · rw [decide_eq_true hlt]
      rintro e w1 ⟨rfl, hb1⟩
      have HS := hid (HS.out.below hb1)
      have HRA := hid (HRA.out.below hb1)
      have HFR := hid (HFR.out.trans (Fr.of_below hb1))
      have HMr := hid (HMr.out.below hb1)
      have hBr : B ≤ w1.heap.size := Nat.le_trans hBr hb1.size
      clear hb1
      have hls := HLS.out k hlt
      go_wp2_with fail
      refine (lread_any _ B _ bt v lv ls k [] opens HRA.out hlt (by decide) (by decide) (by decide) rfl hbt (by omega) HMr.out hgB).mono ?_
      rintro e w2 ⟨lb, op, va, vc, os, rfl, hpv, hra, hfr⟩
      have HS := hid (HS.out.frc hfr ⟨_, hra.cond.row, rfl⟩ : ExpSt w2 B be bt 0 (k + 1) st)
      have HRA := hid hra
      have HFR := hid (HFR.out.trans hfr.to)
      have HMr := hid (HMr.out.fr hfr hgB)
      have hBr : B ≤ w2.heap.size := Nat.le_trans hBr hfr.size
      have HPV := hid hpv
      clear hpv hra hfr
      have hb4 : Below w2.heap.size w2 (w2.alloc (.cells #[.string lb, .string op, .slice va os.length vc] 101)) := (Below.refl _ _).alloc (Nat.le_refl _) _
      have HS := hid (HS.out.below hb4)
      have HRA := hid (HRA.out.below hb4)
      have HFR := hid (HFR.out.trans (Fr.of_below hb4))
      have HMr := hid (HMr.out.below hb4)
      have HPV := hid (HPV.out.below hb4)
      have hBr := Nat.le_trans hBr hb4.size
      clear hb4
      go_wp2_with fail
      refine (do_any 8 hcall _ B be bt 0 (k + 1) _ _ bt (k + 1) st v lv ls [] opens lb op va vc os _ 0 rfl (Or.inl ⟨rfl, rfl, rfl, rfl, rfl⟩) HS.out HRA.out HCH.out HPV.out (WOk.line (by rw [L_length]; exact hls)) HLS.out (HOK.out.later (Nat.le_succ k) (by omega)) HMr.out hgB hBr hbt hbt).mono ?_
      obtain ⟨r, hr⟩ : ∃ r, doP (callN 8) 0 (k + 1) (wordsP (cutL (L ls[k]))) opens st (ls.map L) = r := ⟨_, rfl⟩
      have hge : k + 1 ≤ r.2.1 := by rw [← hr]; exact doP_ge
      have hcr : r.1 = 0 → Chain r.2.2.1 := by rw [← hr]; exact doP_chain HCH.out
      have hbt2 := block_text (callN 8) (ls.map L) k (by simpa using hlt) opens st r (by rw [List.getElem_map]; exact hr)
      rw [hr]
      have HCR := hid hcr
      have HBT := hid hbt2
      clear hr hcr hbt2
      rintro e w3 ⟨rfl, hf3, hn3, hs3⟩
      have HF3 := hid (HFR.out.trans' hf3 (fun i hi => by
        unfold condM at hi
        rcases List.mem_cons.1 hi with h1 | h1
        · exact Or.inl (by rw [h1]; simp)
        · exact Or.inr (HVN.out i (by cases hv : v.ownBlock with
            | none => rw [hv] at h1; cases h1
            | some g => rw [hv] at h1; simp at h1; rw [h1]))))
      have HN3 := hid hn3
      have HS3 := hid hs3
      have hsz := HFR.out.size
      clear hf3 hn3 hs3
      by_cases h0 : r.1 = 0
      · have k0 : decide (r.1 = 0) = true := decide_eq_true h0
        go_wp2_with fail
        go_roundg (ls.length + 1 - r.2.1)
        case measure => omega
        case rel =>
          obtain ⟨h1, h2, v', h3, h4⟩ := HS3.out h0
          refine ⟨r.2.1, r.2.2.1, r.2.2.2, v', ?_, h1, h4, HCR.out h0, h2, HF3.out, fun g hg => ?_, ?_⟩
          · have := h4.le; have e1 : nextJ 0 r.2.1 (k + 1) = r.2.1 := rfl; rw [e1] at this; omega
          · rcases h3 g hg with h5 | h5
            · exact HVN.out g h5
            · omega
          · rw [← HBT.out.2 h0]; exact HBR.out
      · have k0 : decide (r.1 = 0) = false := decide_eq_false h0
        go_wp2_with fail
        go_ret
        obtain ⟨h1, h2⟩ := HBT.out.1 h0
        rw [HBR.out] at h1 h2
        refine ⟨by rw [h1]; rfl, HF3.out, by rw [h2]; exact HN3.out, fun h5 => absurd (h1.symm.trans h5) h0⟩
    · rw [decide_eq_false hlt]
      have hbr := HBR.out
      rw [List.drop_eq_nil_of_le (by simp; omega), blockP_nil] at hbr
      rintro e w1 ⟨rfl, hb1⟩
      have HBR := hid hbr
      have HS := hid (HS.out.below hb1)
      have HRA := hid (HRA.out.below hb1)
      have HFR := hid (HFR.out.trans (Fr.of_below hb1))
      clear hbr hb1
      go_wp2_with fail
      refine (depth_any _ B _ bt v _ opens HRA.out.cond).mono ?_
      rintro e w2 ⟨rfl, rfl⟩
      by_cases ho : opens = []
      · subst ho
        have hbr := HBR.out
        rw [if_pos rfl] at hbr
        subst hbr
        go_wp2_with fail
        go_ret
        exact ⟨rfl, HFR.out, HS.out.num, fun _ => ⟨HS.out, HOK.out⟩⟩
      · have hbr := HBR.out
        rw [if_neg ho] at hbr
        subst hbr
        have hl : 0 < opens.length := List.length_pos_iff.2 ho
        have k0 : decide ((opens.length : Int) > 0) = true := decide_eq_true (by omega)
        clear ho
        go_wp2_with fail
        go_ret
        exact ⟨rfl, HFR.out, HS.out.num, fun h => by cases h⟩

end Go.Proofs.YtcepppilgncdmaaGreatDoor
