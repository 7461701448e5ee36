/-
  What the document's own function that gives a name a value (package masonref) answers.
-/
import Derived.Test.YtcepppilgncdmaaGreatDoorQLeft
namespace Go.Proofs.YtcepppilgncdmaaGreatDoor
open Go.RowKit
attribute [local go_sem ↓] Go.wp_at_zero Go.wp_at_succ

/-- A name more has a value. -/
theorem RdAt.named {w w4 : World} {B r : Nat} {vm vn vl : Value} {ms : List MacQ} {ns : List (ByteArray × Int)} {outs : List (ByteArray × Nat)} {calls : Nat} (h : RdAt w B r vm vn vl ms ns outs calls) (hg : w.grownBy w4 vn.ownBlock) {gg cap : Nat} {t : ByteArray} {z : Int}
    (ho : w4.ownsRow B 40 2 (.slice (some ⟨gg, 0, none⟩) (ns.length + 1) cap) (ns.length + 1) (nameCells ns ++ [.string t, .int .i64 z])) :
    RdAt (w4.setCell ⟨r, 1, none⟩ (.slice (some ⟨gg, 0, none⟩) (ns.length + 1) cap)) B r vm (.slice (some ⟨gg, 0, none⟩) (ns.length + 1) cap) vl ms (ns ++ [(t, z)]) outs calls ∧
    Fq B [] w (w4.setCell ⟨r, 1, none⟩ (.slice (some ⟨gg, 0, none⟩) (ns.length + 1) cap)) := by
  have hne : vn.ownBlock ≠ some r := own_row_ne h.nown h.row (by decide)
  have hr4 := RowT.grown' h.row hg (Ne.symm hne)
  have hm4 := h.mown.kept hg (by
    cases hv : vm.ownBlock with
    | none => exact Or.inl rfl
    | some g => exact Or.inr (fun e1 => own_own_ne h.mown h.nown (by decide) (g := g) (by rw [← e1]) hv))
  have hl4 := h.lown.kept hg (by
    cases hv : vl.ownBlock with
    | none => exact Or.inl rfl
    | some g => exact Or.inr (fun e1 => own_own_ne h.lown h.nown (by decide) (g := g) (by rw [← e1]) hv))
  have hf4 : Fq B [] w w4 := (Fq.refl B [] w).grown hg (own_mayQ h.nown (fun _ _ => Or.inl rfl))
  have hf5 := hf4.setCell (p := ⟨r, 1, none⟩) (hr4.mayQ h.at_ (Or.inl rfl)) (.slice (some ⟨gg, 0, none⟩) (ns.length + 1) cap)
  refine ⟨⟨hr4.set 1 _, ?_, ?_, ?_, fun m hm => (h.macs m hm).fq hf5 (by simp), h.at_⟩, hf5⟩
  · exact ownsRow_setCell_other hm4 (a := ⟨r, 1, none⟩) (own_row_ne hm4 hr4 (by decide)) _
  · rw [nameCells_append, List.length_append]
    exact ownsRow_setCell_other ho (a := ⟨r, 1, none⟩) (own_row_ne ho hr4 (by decide)) _
  · exact ownsRow_setCell_other hl4 (a := ⟨r, 1, none⟩) (own_row_ne hl4 hr4 (by decide)) _

theorem rd_bad {w w1 : World} {B r : Nat} {vm vn vl : Value} {at_ calls : Nat} {st : StP} {ms : List MacQ} {ns : List (ByteArray × Int)} {outs : List (ByteArray × Nat)} {er : Int} {M : List Nat} (hx : RdAt w1 B r vm vn vl ms ns outs calls) (hf : Fq B M w w1) (h0 : er ≠ 0) :
    RdPost B r M at_ (er, st) w (.returned (.tuple #[])) ((w1.setCell ⟨r, 4, none⟩ (.int .i64 er)).setCell ⟨r, 5, none⟩ (.int .i64 (at_ : Nat))) := by
  obtain ⟨p1, p2⟩ := bad_post (er := er) (at_ := at_) hx.row hx.at_
  exact ⟨rfl, hf.trans p1.wide, fun c => absurd c h0, fun _ => p2⟩

set_option maxRecDepth 100000 in
set_option maxHeartbeats 1600000 in
theorem sets_any (w : World) (B r at_ : Nat) (st : StP) (lb op : ByteArray) (va : Option Addr) (vc : Nat) (os : List ByteArray) (W : WordsP) (C k : Nat) (hx : RdSt w B r st) (hp : PartsV w C lb op (.slice va os.length vc) os W) (hw : WOk W) (hok : StOk st k) (hB : B ≤ w.heap.size) :
    Calls Tryz.prog 132 #[.pointer (some ⟨r, 0, none⟩), .agg #[.string lb, .string op, .slice va os.length vc], .int .i64 (at_ : Nat)] w (RdPost B r [] at_ (setP W at_ st) w) := by
  obtain ⟨vm, vn, vl, ms, ns, outs, calls, hx, hst⟩ := hx
  subst hst
  obtain ⟨i0, hi0, hz0, hz1, hz2⟩ := info_parts info_name
  obtain ⟨x, hxr⟩ : ∃ x, setP W at_ (stQ ms ns outs calls) = x := ⟨_, rfl⟩
  rw [hxr]
  obtain ⟨b1, b2, b3⟩ := hw.parts hp
  have hol : outs.length ≤ 300 := by simpa [stQ] using hok.out
  have hnl : ns.length ≤ 300 := by
    have h1 := hok.names
    simp only [stQ, plainN, List.length_map] at h1
    omega
  obtain ⟨an, cn, hvn, hna⟩ := hx.namesAt
  subst hvn
  obtain ⟨t1, t2, t3⟩ := hp.two
  have hb0 : Below w.heap.size w (w.alloc (.cells #[.string lb, .string op, .slice va os.length vc] 134)) := (Below.refl _ _).alloc (Nat.le_refl _) _
  have HX := hid (hx.below hb0)
  have HP := hid (hp.below hb0)
  have HW := hid hw
  have HNA := hid (hna.below hb0)
  have HF := hid (show Fq B [] w (w.alloc (.cells #[.string lb, .string op, .slice va os.length vc] 134)) from Fq.of_below hb0)
  have HBX := hid (show RowT (w.alloc (.cells #[.string lb, .string op, .slice va os.length vc] 134)) 134 w.heap.size [.string lb, .string op, .slice va os.length vc] from RowT.new w 134 [.string lb, .string op, .slice va os.length vc])
  have HSZ := hid b2
  have HT3 := hid t3
  have hB1 : B ≤ (w.alloc (.cells #[.string lb, .string op, .slice va os.length vc] 134)).heap.size := Nat.le_trans hB HF.out.size
  clear hx hp hb0 b2 t3 hw hna hok
  unfold setP at hxr
  rw [t2] at hxr
  go_enter Tryz.func132, Tryz.ntmps132
  go_upto_region 1 with fail
  generalize w.alloc (.cells #[.string lb, .string op, .slice va os.length vc] 134) = w1 at HX HP HNA HF HBX hB1 ⊢
  obtain ⟨bx, hbx⟩ : ∃ bx, w.heap.size = bx := ⟨_, rfl⟩
  rw [hbx] at HBX ⊢
  clear hbx
  have y0 := HBX.out.cell 0 (by simp)
  have y1 := HBX.out.cell 1 (by simp)
  have y2 := HBX.out.cell 2 (by simp)
  have n1 : w1.cell? ⟨r, 1, none⟩ = some (.slice an ns.length cn) := HX.out.row.cell 1 (by simp)
  by_cases hlb : lb.size = 0
  · rw [t1.2 hlb] at hxr
    have kl := is_empty lb hlb
    by_cases h2 : os.length = 2
    · rw [if_neg (by simp [h2])] at hxr
      have k2 : ((os.length : Int) != 2) = false := by rw [bne_eq_false_iff_eq]; omega
      have hpos0 : 0 < os.length := by omega
      have hpos1 : 1 < os.length := by omega
      obtain ⟨n0, hn0⟩ : ∃ n0, os[0] = n0 := ⟨_, rfl⟩
      obtain ⟨x1, hx1⟩ : ∃ x1, os[1] = x1 := ⟨_, rfl⟩
      have e0 : W.operands.headD [] = L n0 := by rw [headD_get, ← hn0]; exact HT3.out 0 hpos0
      have e1 : W.operands.getD 1 [] = L x1 := by rw [← hx1]; exact HT3.out 1 hpos1
      rw [e0, e1] at hxr
      have hs0 : n0.size ≤ 100 := by rw [← hn0]; exact HSZ.out 0 hpos0
      have hs1 : x1.size ≤ 100 := by rw [← hx1]; exact HSZ.out 1 hpos1
      obtain ⟨bo, off, cap, hv, hbl, d0⟩ := HP.out.at_.cell 0 hpos0
      injection hv with hv1 _ hv2
      subst hv1 hv2
      obtain ⟨_, _, _, hv', _, d1⟩ := HP.out.at_.cell 1 hpos1
      injection hv' with hv11 _ hv12
      injection hv11 with hv11
      injection hv11 with hv13 hv14
      subst hv13 hv14
      clear hv12
      rw [Nat.add_zero, hn0] at d0
      rw [hx1] at d1
      have i1 : (0 : Int) < (os.length : Int) := by omega
      have i2 : (1 : Int) < (os.length : Int) := by omega
      have HNE := hid (show textP W ≠ [] from textP_ne (fun e => by rw [e] at t2; simp at t2; omega))
      clear hn0 hx1 e0 e1 h2 hlb
      obtain ⟨o, ho⟩ : ∃ o, findN (plainN ns) (L n0) = o := ⟨_, rfl⟩
      obtain ⟨v, er, hv⟩ : ∃ v er, value 0 (plainN ns) (L x1) = (v, er) := ⟨_, _, rfl⟩
      have HFN := hid (fun (wx : World) (k : Nat) (hw : NamesAt (wx.drewN k) an ns) => Calls.quiet_of_same (w := wx) (n := k) (find_any n0 an cn ns _ o (by unfold maxLen; omega) hw ho))
      have HVL := hid (fun (wx : World) (k : Nat) (hw : NamesAt (wx.drewN k) an ns) => Calls.quiet_of_same (w := wx) (n := k) (refValue_any x1 0 an cn ns _ v er (by omega) (by unfold maxLen; omega) hw hv))
      have hxr : (if nameB (L n0) = false ∨ o.isSome = true then (5, stQ ms ns outs calls) else if er ≠ 0 then (er, stQ ms ns outs calls) else leaveP W at_ (stQ ms (ns ++ [(n0, v)]) outs calls)) = x := by
        rw [← hxr, show (stQ ms ns outs calls).names = plainN ns from rfl, hv]
        have e : plainN (ns ++ [(n0, v)]) = plainN ns ++ [(L n0, v)] := by simp [plainN]
        have e2 : hasN (plainN ns) (L n0) = o.isSome := by unfold hasN; rw [ho]
        simp only [stQ, e, e2]
      clear ho hv
      obtain ⟨nm, hnm⟩ : ∃ nm, nameB (L n0) = nm := ⟨_, rfl⟩
      have hrn := refName_any n0 w1 (by unfold maxLen; omega)
      rw [hnm] at hrn hxr
      have HRN := hid hrn
      have HXR := hid hxr
      clear hrn hnm hxr
      go_upto_region 4 with (first | (go_at_call 58; refine HRN.out.mono ?_; rintro e w2 ⟨rfl, hw2⟩; obtain rfl := hw2.symm))
      go_big_quiet ((with_reducible exact HFN.out _ _ (HNA.out.below (below_drewN (Below.refl _ _) _))))
      have hbq : Below w1.heap.size w1 (w1.drewN nq) := below_drewN (Below.refl _ _) _
      have HX := hid (HX.out.below hbq)
      have HF := hid (HF.out.trans (Fq.of_below hbq))
      have HP := hid (HP.out.below hbq)
      have HNA := hid (HNA.out.below hbq)
      have HBX := hid (HBX.out.below hbq)
      have d0 := (hbq.cell (p := ⟨bo, off, none⟩) hbl).trans d0
      have d1 := (hbq.cell (p := ⟨bo, off + 1, none⟩) hbl).trans d1
      have hbl : bo < (w1.drewN nq).heap.size := hbl
      have hB1 : B ≤ (w1.drewN nq).heap.size := hB1
      clear hbq HRN y0 y1 y2 n1 HFN
      generalize w1.drewN nq = wq at HX HF HP HNA HBX d0 d1 hbl hB1 ⊢
      have y0 := HBX.out.cell 0 (by simp)
      have y1 := HBX.out.cell 1 (by simp)
      have y2 := HBX.out.cell 2 (by simp)
      have n1 : wq.cell? ⟨r, 1, none⟩ = some (.slice an ns.length cn) := HX.out.row.cell 1 (by simp)
      cases nm with
      | false =>
        have hxr := HXR.out
        rw [if_pos (Or.inl rfl)] at hxr
        have HXR := hid hxr
        clear hxr
        go_wp2_with (first | (go_at_call 60; refine (bad_any _ r _ _ _ _ _ 5 at_ HX.out.row).mono ?_; rintro e w2 ⟨rfl, rfl⟩))
        first | go_end0 | refine bodyPost_ret (results_none rfl _ _ _) rfl ?_
        rw [← HXR.out]
        exact rd_bad HX.out HF.out (by decide)
      | true =>
        cases o with
        | some z =>
          have hxr := HXR.out
          rw [if_pos (by simp)] at hxr
          have HXR := hid hxr
          clear hxr
          go_wp2_with (first | (go_at_call 60; refine (bad_any _ r _ _ _ _ _ 5 at_ HX.out.row).mono ?_; rintro e w2 ⟨rfl, rfl⟩))
          first | go_end0 | refine bodyPost_ret (results_none rfl _ _ _) rfl ?_
          rw [← HXR.out]
          exact rd_bad HX.out HF.out (by decide)
        | none =>
          have hxr := HXR.out
          rw [if_neg (by simp)] at hxr
          have HXR := hid hxr
          clear hxr
          go_upto_region 7 with fail
          go_big_quiet ((with_reducible exact HVL.out _ _ (HNA.out.below (below_drewN (Below.refl _ _) _))))
          have hbq : Below wq.heap.size wq (wq.drewN nq) := below_drewN (Below.refl _ _) _
          have HX := hid (HX.out.below hbq)
          have HF := hid (HF.out.trans (Fq.of_below hbq))
          have HP := hid (HP.out.below hbq)
          have HBX := hid (HBX.out.below hbq)
          have d0 := (hbq.cell (p := ⟨bo, off, none⟩) hbl).trans d0
          have hB1 : B ≤ (wq.drewN nq).heap.size := hB1
          have hbl : bo < (wq.drewN nq).heap.size := hbl
          clear hbq y0 y1 y2 n1 HNA HVL d1
          generalize wq.drewN nq = wv at HX HF HP HBX d0 hB1 hbl ⊢
          by_cases h0 : er = 0
          · subst h0
            have hxr := HXR.out
            rw [if_neg (by simp)] at hxr
            have HXR := hid hxr
            clear hxr
            have y2 := HBX.out.cell 2 (by simp)
            have n1 : wv.cell? ⟨r, 1, none⟩ = some (.slice an ns.length cn) := HX.out.row.cell 1 (by simp)
            have f1 := HX.out.row.free 1
            have hlt := HX.out.row.lt
            have hltx := HBX.out.lt
            have HNO := hid (show wv.ownsRow B 40 2 (.slice an ns.length cn) ns.length (nameCells ns) from HX.out.nown)
            have hneb : (Value.slice an ns.length cn).ownBlock ≠ some r := own_row_ne HNO.out HX.out.row (by decide)
            go_wp2_with fail
            go_region_law
              ((refine step_append_lies _ (by rfl) _ _ _ (by rfl) B 40 i0 _ 2 24 Tryz.underlying31 hi0 hz0 hz1 hz2 rfl (by omega) (.slice an ns.length cn) ns.length (nameCells ns) (by rfl) ((HNO.out.alloc _).drew) ⟨_, 0, none⟩ 1 1 [.string n0, .int .i64 v] (by rfl) (by rfl) (World.news_of_block (cs := #[.string n0, .int .i64 v]) (t := 40) (fr := (0, 0)) (heap_alloc_new _ _)) (by simp [Value.oneCell']) (by omega) (by unfold maxLen; omega) (by omega) (by simp; omega) _ rfl ?_; intro gg cap' w4 hown4 hgrow hat hlt4; have hc4 := (hgrow.cell_far ⟨r, 1, none⟩ (by simp; omega) (Ne.symm hneb)).trans ((((Below.refl wv.heap.size wv).alloc (Nat.le_refl _) _).drew.cell (p := ⟨r, 1, none⟩) hlt).trans n1); have hf4 := (hgrow.frozen_far ⟨r, 1, none⟩ (by simp; omega) (Ne.symm hneb)).trans ((((Below.refl wv.heap.size wv).alloc (Nat.le_refl _) _).drew.frozen (p := ⟨r, 1, none⟩) hlt).trans f1)))
            all_goals
              have hb2 : Below wv.heap.size wv (wv.alloc (.cells #[.string n0, .int .i64 v] 40)).drew := ((Below.refl _ _).alloc (Nat.le_refl _) _).drew
              have HL := hid ((HX.out.below hb2).named hgrow hown4)
              have HF5 := hid ((HF.out.trans (Fq.of_below hb2)).trans HL.out.2)
              have HP5 := hid (show PartsV _ C lb op _ os W from ⟨HP.out.label, HP.out.op, HP.out.ops, (HP.out.at_.below hb2).fq HL.out.2⟩)
              have HB5 := hid ((HBX.out.below hb2).frQ HL.out.2 rfl (fun h => by cases h))
              clear hown4 hgrow hat hc4 hf4 hb2 y2 n1 f1 d0
              have z0 := HB5.out.cell 0 (by simp)
              have z1 := HB5.out.cell 1 (by simp)
              have z2 := HB5.out.cell 2 (by simp)
              go_wp2_with fail
              have hlv := left_any _ B r at_ vm _ vl ms _ outs calls lb op _ _ os W C HL.out.1 HP5.out (Or.inl HW.out) HNE.out hol (Nat.le_trans hB HF5.out.size)
              rw [HXR.out] at hlv
              refine hlv.mono ?_
              rintro e w6 ⟨rfl, hf6, hst6, her6⟩
              go_wp2_with fail
              first | go_end0 | refine bodyPost_ret (results_none rfl _ _ _) rfl ?_
              refine ⟨rfl, HF5.out.trans hf6, fun h0 => ?_, her6⟩
              obtain ⟨vl', outs', h1, h2⟩ := hst6 h0
              exact ⟨_, _, _, _, _, _, _, h1, h2⟩
          · have k0 : (er != 0) = true := by simpa using h0
            have hxr := HXR.out
            rw [if_pos h0] at hxr
            have HXR := hid hxr
            have H0 := hid h0
            clear hxr h0
            go_wp2_with (first | (go_at_call 60; refine (bad_any _ r _ _ _ _ _ er at_ HX.out.row).mono ?_; rintro e w2 ⟨rfl, rfl⟩))
            first | go_end0 | refine bodyPost_ret (results_none rfl _ _ _) rfl ?_
            rw [← HXR.out]
            exact rd_bad HX.out HF.out H0.out
    · rw [if_pos (Or.inr h2)] at hxr
      have k2 : ((os.length : Int) != 2) = true := by rw [bne_iff_ne]; omega
      have HXR := hid hxr
      clear hxr h2 hlb
      go_wp2_with (first | (go_at_call 60; refine (bad_any _ r _ _ _ _ _ 4 at_ HX.out.row).mono ?_; rintro e w2 ⟨rfl, rfl⟩))
      first | go_end0 | refine bodyPost_ret (results_none rfl _ _ _) rfl ?_
      rw [← HXR.out]
      exact rd_bad HX.out HF.out (by decide)
  · rw [if_pos (Or.inl (fun c => hlb (t1.1 c)))] at hxr
    have kl := not_empty lb (by omega)
    have HXR := hid hxr
    clear hxr hlb
    go_wp2_with (first | (go_at_call 60; refine (bad_any _ r _ _ _ _ _ 4 at_ HX.out.row).mono ?_; rintro e w2 ⟨rfl, rfl⟩))
    first | go_end0 | refine bodyPost_ret (results_none rfl _ _ _) rfl ?_
    rw [← HXR.out]
    exact rd_bad HX.out HF.out (by decide)

end Go.Proofs.YtcepppilgncdmaaGreatDoor
