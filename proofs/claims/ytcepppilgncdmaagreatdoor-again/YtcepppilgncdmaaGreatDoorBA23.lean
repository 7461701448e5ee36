/-
  What the program's function that defines a macro answers (package expand).
  What the program does with a line that is not passed over and is no condition (package expand).
-/
import Derived.Test.YtcepppilgncdmaaGreatDoorBA22
import Derived.Deep.DeepFit
namespace Go.Proofs.YtcepppilgncdmaaGreatDoor
open Go.RowKit
attribute [local go_sem ↓] Go.wp_at_zero Go.wp_at_succ

/-- What becomes of a macro's definition: the error, how many lines were taken, the state. -/
def macR (wi k : Nat) (W : WordsP) (st : StP) (ls : List (List UInt8)) : Int × Nat × StP :=
  if 0 < wi then (2, k, st)
  else if headBad W = true then (4, k, st)
  else match findM st.macros (W.operands.headD []) with
    | some _ => (5, k, st)
    | none => ((bodyP [] (ls.drop k)).1, k + (bodyP [] (ls.drop k)).2.2, { st with macros := st.macros ++ [⟨W.operands.headD [], W.operands.tail, (bodyP [] (ls.drop k)).2.1⟩] })
/-- Which reader may have turned: the text's, where no macro is called. -/
def frM (wi bt : Nat) : List Nat := if wi = 0 then [bt] else []
def MacPost (B be bt wi : Nat) (v lv : Value) (ls : List ByteArray) (rest : List Value) (opens : List OpenP) (r : Int × Nat × StP) (w : World) (e : Ending) (w' : World) : Prop :=
  e = .returned (.int .i64 r.1) ∧ Fr B (frM wi bt) w w' ∧ NumAt w' be bt wi r.2.1 ∧ (r.1 = 0 → ExpSt w' B be bt wi r.2.1 r.2.2 ∧ ReadAt w' B 74 bt v lv ls r.2.1 rest opens)

/-- A macro more. -/
theorem ExpAt.maced {w w4 : World} {B be bt wi k : Nat} {vm vn vl : Value} {ms : List MacV} {ns : List (ByteArray × Int)} {outs : List (ByteArray × Nat)} {calls : Nat} (h : ExpAt w B be bt wi k vm vn vl ms ns outs calls) (hg : w.grownBy w4 vm.ownBlock) {gg cap : Nat} {n0 : ByteArray} {pv bv : Value}
    (ho : w4.ownsRow B 202 3 (.slice (some ⟨gg, 0, none⟩) (ms.length + 1) cap) (ms.length + 1) (macCells ms ++ [.string n0, pv, bv])) :
    (∀ ps bs, StrV w 0 pv ps → StrV w 0 bv bs → ExpAt (w4.setCell ⟨be, 1, none⟩ (.slice (some ⟨gg, 0, none⟩) (ms.length + 1) cap)) B be bt wi k (.slice (some ⟨gg, 0, none⟩) (ms.length + 1) cap) vn vl (ms ++ [⟨n0, pv, ps, bv, bs⟩]) ns outs calls) ∧
    NumAt (w4.setCell ⟨be, 1, none⟩ (.slice (some ⟨gg, 0, none⟩) (ms.length + 1) cap)) be bt wi k ∧
    Fr B [] w (w4.setCell ⟨be, 1, none⟩ (.slice (some ⟨gg, 0, none⟩) (ms.length + 1) cap)) := by
  have hne : vm.ownBlock ≠ some be := own_row_ne h.mown h.row (by decide)
  have hr4 : RowT w4 77 be [.pointer (some ⟨bt, 0, none⟩), vm, vn, .int .i64 (wi : Nat), .int .i64 (calls : Nat), vl] := RowT.grown' h.row hg (Ne.symm hne)
  have hn4 := h.nown.kept hg (by
    cases hv : vn.ownBlock with
    | none => exact Or.inl rfl
    | some g => exact Or.inr (fun e1 => own_own_ne h.nown h.mown (by decide) (g := g) (by rw [← e1]) hv))
  have hl4 := h.lown.kept hg (by
    cases hv : vl.ownBlock with
    | none => exact Or.inl rfl
    | some g => exact Or.inr (fun e1 => own_own_ne h.lown h.mown (by decide) (g := g) (by rw [← e1]) hv))
  have hf4 : Fr B [] w w4 := (Fr.refl B [] w).grown hg (own_may h.mown (fun _ _ => Or.inl rfl))
  have hf5 := hf4.setCell (p := ⟨be, 1, none⟩) (hr4.may h.at_ (Or.inl rfl)) (.slice (some ⟨gg, 0, none⟩) (ms.length + 1) cap)
  obtain ⟨xs, hx1, hx2⟩ := h.text
  have htx := hx1.fr hf5 rfl (fun _ => by simp)
  refine ⟨fun ps bs hps hbs => ⟨hr4.set 1 _, ?_, ?_, ?_, fun m hm => ?_, h.at_, xs, htx, hx2⟩, ⟨_, xs, hr4.set 1 _, rfl, htx, hx2⟩, hf5⟩
  · rw [macCells_append, List.length_append]
    exact ownsRow_setCell_other ho (a := ⟨be, 1, none⟩) (own_row_ne ho hr4 (by decide)) _
  · exact ownsRow_setCell_other hn4 (a := ⟨be, 1, none⟩) (own_row_ne hn4 hr4 (by decide)) _
  · exact ownsRow_setCell_other hl4 (a := ⟨be, 1, none⟩) (own_row_ne hl4 hr4 (by decide)) _
  · rcases List.mem_append.1 hm with h1 | h1
    · exact ⟨(h.mstr m h1).1.fr hf5, (h.mstr m h1).2.fr hf5⟩
    · rw [List.mem_singleton] at h1
      subst h1
      exact ⟨hps.fr hf5, hbs.fr hf5⟩

/-- A store into a macro's own block, which is not in the list of macros. -/
theorem ExpAt.offD {w : World} {B be bt wi k : Nat} {vm vn vl : Value} {ms : List MacV} {ns : List (ByteArray × Int)} {outs : List (ByteArray × Nat)} {calls : Nat} (h : ExpAt w B be bt wi k vm vn vl ms ns outs calls) {d j : Nat} {xs : List Value} (hr : RowT w 202 d xs) (hd : vm.ownBlock ≠ some d) (u : Value) :
    ExpAt (w.setCell ⟨d, j, none⟩ u) B be bt wi k vm vn vl ms ns outs calls := by
  obtain ⟨ys, h1, h2⟩ := h.text
  exact ⟨h.row.other d j (fun e => by subst e; exact rowT_ne h.row hr (by decide) rfl) u, ownsRow_setCell_other h.mown (a := ⟨d, j, none⟩) hd _, ownsRow_setCell_other h.nown (a := ⟨d, j, none⟩) (own_row_ne h.nown hr (by decide)) _, ownsRow_setCell_other h.lown (a := ⟨d, j, none⟩) (own_row_ne h.lown hr (by decide)) _, fun m hm => ⟨(h.mstr m hm).1.set d j u (RowT.notStr hr (by decide)), (h.mstr m hm).2.set d j u (RowT.notStr hr (by decide))⟩, h.at_, ys, h1.other d j (fun e => by subst e; exact rowT_ne h1 hr (by decide) rfl) u, h2⟩

set_option maxRecDepth 100000 in
set_option maxHeartbeats 800000 in
theorem doMacro_any (w : World) (B be bt wi k : Nat) (st : StP) (v lv : Value) (ls : List ByteArray) (rest : List Value) (opens : List OpenP) (lb op : ByteArray) (va : Option Addr) (vc : Nat) (os : List ByteArray) (W : WordsP) (C : Nat)
    (h : ExpSt w B be bt wi k st) (hra : wi = 0 → ReadAt w B 74 bt v lv ls k rest opens) (hp : PartsV w C lb op (.slice va os.length vc) os W) (hn : os.length ≤ 1000) (hsz : ∀ i (hi : i < os.length), os[i].size ≤ 1000) (hls : ∀ i (hi : i < ls.length), ls[i].size ≤ 100) (hok : StOk st k) (hwi : wi ≤ 8) (hm : MaxAt w) (hgB : 0 < B) (hB : B ≤ w.heap.size) (hbt : B ≤ bt) :
    Calls Tryz.prog 106 #[.pointer (some ⟨be, 0, none⟩), .agg #[.string lb, .string op, .slice va os.length vc]] w (MacPost B be bt wi v lv ls rest opens (macR wi k W st (ls.map L)) w) := by
  obtain ⟨vm, vn, vl, ms, ns, outs, calls, hx, rfl⟩ := h
  obtain ⟨i0, hi0, hz0, hz1, hz2⟩ := info_parts info_mac
  have hb0 : Below w.heap.size w (w.alloc (.cells #[.string lb, .string op, .slice va os.length vc] 101)) := (Below.refl _ _).alloc (Nat.le_refl _) _
  have HX := hid (hx.below hb0)
  have HP := hid (hp.below hb0)
  have HF := hid (show Fr B (frM wi bt) w (w.alloc (.cells #[.string lb, .string op, .slice va os.length vc] 101)) from Fr.of_below hb0)
  have HBX := hid (RowT.new w 101 [.string lb, .string op, .slice va os.length vc])
  have HM := hid (hm.below hb0)
  have HRA := hid (fun h0 => (hra h0).below hb0)
  have HSZ := hid hsz
  have HLS := hid hls
  have hml : ms.length ≤ 3001 := by
    have h1 := hok.few
    have h2 := hok.taken
    simp only [stOf, List.length_map] at h1
    omega
  have c3 : (w.alloc (.cells #[.string lb, .string op, .slice va os.length vc] 101)).cell? ⟨be, 3, none⟩ = some (.int .i64 (wi : Nat)) := HX.out.row.cell 3 (by simp)
  obtain ⟨r, hr⟩ : ∃ r, macR wi k W (stOf ms ns outs calls) (ls.map L) = r := ⟨_, rfl⟩
  rw [hr]
  unfold macR at hr
  clear hx hp hb0 hm hra hsz hls hok
  by_cases hw0 : 0 < wi
  · rw [if_pos hw0] at hr
    subst hr
    have kw : decide ((0 : Int) < (wi : Int)) = true := by simp; omega
    go_enter Tryz.func106, Tryz.ntmps106
    go_wp2
    go_ret
    exact ⟨rfl, HF.out, HX.out.num, fun h => by cases h⟩
  · rw [if_neg hw0] at hr
    have hwz : wi = 0 := by omega
    subst hwz
    have HRB := hid (HRA.out rfl)
    have HRX := hid hr
    clear hr hw0 HRA
    go_enter Tryz.func106, Tryz.ntmps106
    go_wp2_with fail
    generalize (w.alloc (.cells #[.string lb, .string op, .slice va os.length vc] 101)) = w0 at HX HP HF HBX HM HRB c3 ⊢
    refine (readHead_any w0 lb op va vc os W C HP.out hn HSZ.out).mono ?_
    rintro e w1 ⟨hb1, hcase⟩
    have HX := hid (HX.out.below hb1)
    have HF := hid (HF.out.trans (Fr.of_below hb1))
    have HM := hid (HM.out.below hb1)
    have HRA := hid (HRB.out.below hb1)
    have HPO := hid HP.out.two
    clear hb1 c3
    rcases hcase with ⟨hbad, rfl⟩ | ⟨hbad, n0, pa, pc, hpos, hn0, rfl, hst⟩
    · have hr := HRX.out
      rw [if_pos hbad] at hr
      subst hr
      have HB2 := hid (show Below w1.heap.size w1 (w1.alloc (.cells #[.string ⟨#[]⟩, .slice none 0 0, .slice none 0 0] 202)) from (Below.refl _ _).alloc (Nat.le_refl _) _)
      go_wp2
      go_ret
      exact ⟨rfl, HF.out.trans (Fr.of_below HB2.out), (HX.out.below HB2.out).num, fun h => by cases h⟩
    · have hr := HRX.out
      rw [if_neg (by rw [hbad]; simp)] at hr
      have e0 : W.operands.headD [] = L n0 := by rw [headD_get, HPO.out.2.2 0 hpos, hn0]
      rw [e0] at hr
      have HRY := hid hr
      have HOPS := hid HP.out.ops
      have HST := hid hst
      have HB2 := hid (show Below w1.heap.size w1 (w1.alloc (.cells #[.string n0, .slice pa (os.length - 1) pc, .slice none 0 0] 202)) from (Below.refl _ _).alloc (Nat.le_refl _) _)
      have HLT := hid HX.out.mown.lt
      have hwl : w.heap.size ≤ w1.heap.size := HF.out.size
      have HX := hid (HX.out.below HB2.out)
      have HF := hid (HF.out.trans (Fr.of_below HB2.out))
      have HM := hid (HM.out.below HB2.out)
      have HRA := hid (HRA.out.below HB2.out)
      have HST := hid (HST.out.below HB2.out)
      have HD := hid (RowT.new w1 202 [.string n0, .slice pa (os.length - 1) pc, .slice none 0 0])
      have HN0 := hid hn0
      clear hr e0 hst hbad hn0
      go_wp2_with fail
      generalize (w1.alloc (.cells #[.string n0, .slice pa (os.length - 1) pc, .slice none 0 0] 202)) = w2 at HX HF HM HRA HST HD ⊢
      go_fit (find_any' w2 B be bt 0 k vm vn vl ms ns outs calls HX.out hml n0)
      rintro e w3 ⟨hw3, hcase⟩
      subst hw3
      rcases hcase with ⟨hf, rfl⟩ | ⟨i, g, cap, hi, hf, hvm, rfl⟩
      · have hr := HRY.out
        have hf' : findM (stOf ms ns outs calls).macros (L n0) = none := hf
        rw [hf'] at hr
        have HRZ := hid hr
        obtain ⟨bp, hbp⟩ : ∃ bp, bodyP [] ((ls.drop k).map L) = bp := ⟨_, rfl⟩
        have HBP := hid hbp
        have c0 := HX.out.row.cell 0 (by simp)
        have hvmd : vm.ownBlock ≠ some w1.heap.size := fun e => by have := (HLT.out _ e).2; omega
        clear hr hf' hf hbp
        go_wp2_with fail
        go_fit (takeBody_any w3 B 74 bt v lv ls k rest opens HRA.out (by decide) (by decide) rfl hbt HLS.out HM.out hgB bp HBP.out)
        rintro e w4 ⟨bv, rfl, hra4, hfr4, ⟨ba, bn, bc, hbv⟩, hbs⟩
        subst hbv
        have HX4 := hid (HX.out.frc hfr4 (k' := k + bp.2.2) ⟨_, hra4.cond.row, by simp⟩)
        have HF4 := hid (show Fr B (frM 0 bt) w w4 from HF.out.trans hfr4.to)
        have HD4 := hid (HD.out.fr hfr4 rfl (fun h => by cases h))
        have HST4 := hid (HST.out.frc hfr4)
        have HX5 := hid (HX4.out.offD (j := 2) HD4.out hvmd (.slice ba bn bc))
        have HF5 := hid (HF4.out.setNew (p := ⟨w1.heap.size, 2, none⟩) hwl (.slice ba bn bc))
        have HD5 := hid (HD4.out.set 2 (.slice ba bn bc))
        have HST5 := hid (HST4.out.set w1.heap.size 2 (.slice ba bn bc) (RowT.notStr HD4.out (by decide)))
        have HRA5 := hid (hra4.off (j := 2) HD4.out (by decide) (by decide) (by decide) (.slice ba bn bc))
        have HBS5 := hid (show bp.1 = 0 → ∃ bs, bs.map L = bp.2.1 ∧ StrV (w4.setCell ⟨w1.heap.size, 2, none⟩ (.slice ba bn bc)) 0 (.slice ba bn bc) bs from fun h0 => by
          obtain ⟨bs, h1, h2⟩ := hbs h0
          exact ⟨bs, h1, (h2.mono (Nat.zero_le _)).set w1.heap.size 2 _ (RowT.notStr HD4.out (by decide))⟩)
        have x2 := HD4.out.cell 2 (by simp)
        have f2 := HD4.out.free 2
        obtain ⟨er, bl, cn⟩ := bp
        clear hra4 hfr4 hbs HX4 HF4 c0
        go_upto_region 9 with fail
        generalize w4.setCell ⟨w1.heap.size, 2, none⟩ (.slice ba bn bc) = w5 at HX5 HF5 HD5 HST5 HRA5 HBS5 ⊢
        obtain ⟨ma, mc, hmv⟩ := own_form HX5.out.mown
        subst hmv
        have c1 : w5.cell? ⟨be, 1, none⟩ = some (.slice ma ms.length mc) := HX5.out.row.cell 1 (by simp)
        have f1 := HX5.out.row.free 1
        have hlt5 := HX5.out.row.lt
        have y0 := HD5.out.cell 0 (by simp)
        have y1 := HD5.out.cell 1 (by simp)
        have y2 := HD5.out.cell 2 (by simp)
        have hneb : (Value.slice ma ms.length mc).ownBlock ≠ some be := own_row_ne HX5.out.mown HX5.out.row (by decide)
        have hB5 : B ≤ w5.heap.size := Nat.le_trans hB HF5.out.size
        clear x2 f2
        go_region_law
          (refine step_append_lies _ (by rfl) _ _ _ (by rfl) B 202 i0 _ 3 64 Tryz.underlying75 hi0 hz0 hz1 hz2 rfl (by omega) (.slice ma ms.length mc) ms.length (macCells ms) (by rfl) ((HX5.out.mown.alloc _).drew) ⟨_, 0, none⟩ 1 1 [.string n0, .slice pa (os.length - 1) pc, .slice ba bn bc] (by rfl) (by rfl) (World.news_of_block (cs := #[.string n0, .slice pa (os.length - 1) pc, .slice ba bn bc]) (t := 202) (fr := (0, 0)) (heap_alloc_new _ _)) (by simp [Value.oneCell']) (by omega) (by unfold maxLen; omega) (by omega) (by simp; omega) _ rfl ?_; intro gg cap' w6 hown6 hgrow hat hlt6; have hc6 := (hgrow.cell_far ⟨be, 1, none⟩ (by simp; omega) (Ne.symm hneb)).trans ((((Below.refl w5.heap.size w5).alloc (Nat.le_refl _) _).drew.cell (p := ⟨be, 1, none⟩) hlt5).trans c1); have hf6 := (hgrow.frozen_far ⟨be, 1, none⟩ (by simp; omega) (Ne.symm hneb)).trans ((((Below.refl w5.heap.size w5).alloc (Nat.le_refl _) _).drew.frozen (p := ⟨be, 1, none⟩) hlt5).trans f1))
        all_goals
          have hb6 : Below w5.heap.size w5 (w5.alloc (.cells #[.string n0, .slice pa (os.length - 1) pc, .slice ba bn bc] 202)).drew := ((Below.refl _ _).alloc (Nat.le_refl _) _).drew
          have HL := hid ((HX5.out.below hb6).maced hgrow hown6)
          have HF7 := hid ((HF5.out.trans (Fr.of_below hb6)).trans (HL.out.2.2.mono (fun k h => by cases h)))
          have HST6 := hid (HST5.out.below hb6)
          have HRA7 := hid ((HRA5.out.below hb6).fr HL.out.2.2 rfl rfl rfl (by simp) (fun g _ => by simp))
          clear hown6 hgrow hat hc6 hf6
          go_wp2
          go_ret
          have hr := HRZ.out
          rw [← List.map_drop, HBP.out] at hr
          subst hr
          refine ⟨rfl, HF7.out, HL.out.2.1, fun h0 => ?_⟩
          obtain ⟨bs, hbs1, hbs2⟩ := HBS5.out h0
          refine ⟨⟨_, _, _, _, _, _, _, HL.out.1 os.tail bs HST6.out (hbs2.below hb6), ?_⟩, HRA7.out⟩
          simp [stOf, plainM, hbs1, ← HOPS.out]
      · have hr := HRY.out
        have hf' : findM (stOf ms ns outs calls).macros (L n0) = some (plainM ms[i]) := hf
        rw [hf'] at hr
        have hr' : (5, k, stOf ms ns outs calls) = r := hr
        subst hr'
        clear hr hf'
        go_wp2
        go_ret
        exact ⟨rfl, HF.out, HX.out.num, fun h => by cases h⟩

end Go.Proofs.YtcepppilgncdmaaGreatDoor

namespace Go.Proofs.YtcepppilgncdmaaGreatDoor
open Go.RowKit
attribute [local go_sem ↓] Go.wp_at_zero Go.wp_at_succ

/-- The words of a short line. -/
def WOk (W : WordsP) : Prop := ∃ l : List UInt8, l.length ≤ 100 ∧ W = wordsP (cutL l)
theorem sumLen_bd (l : List (List UInt8)) (m : Nat) (h : ∀ x ∈ l, x.length ≤ m) : sumLen l ≤ l.length * (m + 1) := by
  induction l with
  | nil => simp [sumLen]
  | cons x r ih =>
    have h1 := ih (fun y hy => h y (by simp [hy]))
    have h2 := h x (by simp)
    unfold sumLen at h1 ⊢
    simp only [List.map_cons, List.sum_cons, List.length_cons]
    rw [Nat.succ_mul]
    omega
theorem WOk.bd {W : WordsP} (h : WOk W) : W.label.length ≤ 100 ∧ W.op.length ≤ 100 ∧ W.operands.length ≤ 101 ∧ (∀ x ∈ W.operands, x.length ≤ 100) ∧ (textP W).length ≤ 1000000 := by
  obtain ⟨l, hl, rfl⟩ := h
  have h0 := cutL_le l
  obtain ⟨h1, h2, h3, h4⟩ := wordsP_bd (cutL l)
  have h5 : ∀ x ∈ (wordsP (cutL l)).operands, x.length ≤ 100 := fun x hx => Nat.le_trans (h4 x hx) (by omega)
  refine ⟨by omega, by omega, by omega, h5, ?_⟩
  rw [textP_head, List.length_append, joined_len]
  have h6 := sumLen_bd _ 100 h5
  have h7 : (wordsP (cutL l)).operands.length * (100 + 1) ≤ 101 * 101 := Nat.mul_le_mul (by omega) (by omega)
  have h8 : (headP (wordsP (cutL l)).label (wordsP (cutL l)).op).length ≤ 300 := by
    unfold headP
    split
    · split
      · simp
      · simp only [List.length_append, List.length_cons, List.length_nil]; omega
    · split
      · omega
      · simp only [List.length_append, List.length_cons, List.length_nil]; omega
  omega
theorem WOk.parts {W : WordsP} (h : WOk W) {w : World} {C : Nat} {lb op : ByteArray} {v : Value} {os : List ByteArray} (hp : PartsV w C lb op v os W) : os.length ≤ 101 ∧ (∀ i (hi : i < os.length), os[i].size ≤ 100) ∧ lb.size ≤ 100 := by
  obtain ⟨h1, h2, h3, h4, _⟩ := h.bd
  refine ⟨by rw [← hp.two.2.1]; exact h3, fun i hi => ?_, by rw [size_L, hp.label]; exact h1⟩
  rw [size_L]
  exact h4 _ (by rw [← hp.ops]; exact List.mem_map.2 ⟨_, List.getElem_mem hi, rfl⟩)

theorem leaveP_ok {W : WordsP} {at_ k : Nat} {st : StP} (h : StOk st k) (he : (leaveP W at_ st).1 = 0) : StOk (leaveP W at_ st).2 k := by
  unfold leaveP at he ⊢
  split at he
  · rw [if_pos (by assumption)]; exact h
  · rename_i h1
    rw [if_neg h1]
    split at he
    · cases he
    · rename_i h2
      rw [if_neg h2]
      have := h.names
      exact ⟨h.macs, by simp; omega, by simp; omega, h.calls, h.few, h.taken⟩
theorem textP_ne {W : WordsP} (h : W.operands ≠ []) : textP W ≠ [] := by
  rw [textP_head]
  cases ho : W.operands with
  | nil => exact absurd ho h
  | cons a b => simp [joined]
theorem setP_ok {W : WordsP} {at_ k : Nat} {st : StP} (h : StOk st k) (he : (setP W at_ st).1 = 0) : StOk (setP W at_ st).2 k := by
  unfold setP at he ⊢
  split at he
  · cases he
  · rename_i h1
    rw [if_neg h1]
    split at he
    · cases he
    · rename_i h2
      rw [if_neg h2]
      split at he
      · rename_i h3; exact absurd he h3
      · rename_i h3
        rw [if_neg h3]
        unfold leaveP at he ⊢
        have hn := h.names
        split at he
        · rename_i h4
          exact absurd h4 (textP_ne (fun e => h1 (Or.inr (by rw [e]; simp))))
        · rename_i h4
          rw [if_neg h4]
          split at he
          · cases he
          · rename_i h5
            rw [if_neg h5]
            simp only at h5
            exact ⟨h.macs, by simp; omega, by simp; omega, h.calls, h.few, h.taken⟩

theorem bodyP_lines (ls : List (List UInt8)) (hl : ∀ l ∈ ls, l.length ≤ 100) : ∀ d, (∀ l ∈ d, l.length ≤ 100 ∧ cutL l = l) → (∀ l ∈ (bodyP d ls).2.1, l.length ≤ 100 ∧ cutL l = l) ∧ (bodyP d ls).2.1.length ≤ d.length + (bodyP d ls).2.2 := by
  induction ls with
  | nil => intro d hd; exact ⟨hd, by simp [bodyP]⟩
  | cons l r ih =>
    intro d hd
    simp only [bodyP]
    split
    · exact ⟨hd, by simp⟩
    · split
      · exact ⟨hd, by simp⟩
      · have h1 := ih (fun x hx => hl x (by simp [hx])) (d ++ [cutL l]) (fun x hx => by
          rcases List.mem_append.1 hx with h | h
          · exact hd x h
          · rw [List.mem_singleton] at h
            subst h
            exact ⟨Nat.le_trans (cutL_le l) (hl l (by simp)), cutL_twice l⟩)
        refine ⟨h1.1, ?_⟩
        have := h1.2
        simp only [List.length_append, List.length_cons, List.length_nil] at this ⊢
        omega
theorem bodyP_took {ls : List (List UInt8)} : ∀ {d}, (bodyP d ls).1 = 0 → 1 ≤ (bodyP d ls).2.2 := by
  induction ls with
  | nil => intro d h; cases h
  | cons l r ih =>
    intro d h
    simp only [bodyP] at h ⊢
    split
    · simp
    · split
      · simp
      · simp
theorem macR_ok {wi k : Nat} {W : WordsP} {st : StP} {ls : List (List UInt8)} (hW : WOk W) (h : StOk st k) (hk : k ≤ ls.length) (hll : ls.length ≤ 3001) (hl : ∀ l ∈ ls, l.length ≤ 100) (he : (macR wi k W st ls).1 = 0) : StOk (macR wi k W st ls).2.2 (macR wi k W st ls).2.1 := by
  unfold macR at he ⊢
  split at he
  · cases he
  · rename_i h1
    rw [if_neg h1]
    split at he
    · cases he
    · rename_i h2
      rw [if_neg h2]
      cases hf : findM st.macros (W.operands.headD []) with
      | some m => rw [hf] at he; cases he
      | none =>
        rw [hf] at he
        have he' : (bodyP [] (ls.drop k)).1 = 0 := he
        have hb := bodyP_lines (ls.drop k) (fun l hm => hl l (List.mem_of_mem_drop hm)) [] (fun _ h => by cases h)
        have ht := bodyP_took he'
        have hn := bodyP_len (ls.drop k) []
        rw [List.length_drop] at hn
        obtain ⟨_, _, b3, b4, _⟩ := hW.bd
        have hfew := h.few
        refine ⟨fun m hm => ?_, h.names, h.out, h.calls, ?_, ?_⟩
        · rcases List.mem_append.1 hm with h3 | h3
          · exact h.macs m h3
          · rw [List.mem_singleton] at h3
            subst h3
            refine ⟨by simp; omega, fun p hp => b4 p (List.mem_of_mem_tail hp), ?_, hb.1⟩
            have := hb.2
            simp only [List.length_nil] at this
            show (bodyP [] (ls.drop k)).2.1.length ≤ 3001
            omega
        · show (st.macros ++ [_]).length ≤ k + (bodyP [] (ls.drop k)).2.2
          rw [List.length_append]
          simp only [List.length_cons, List.length_nil]
          omega
        · show k + (bodyP [] (ls.drop k)).2.2 ≤ 3001
          omega

end Go.Proofs.YtcepppilgncdmaaGreatDoor
