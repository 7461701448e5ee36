/-
  What the document's own functions of conditions (package masonref) answer, said by the plain functions.
-/
import Derived.Test.YtcepppilgncdmaaGreatDoorQBlk
import Derived.Test.YtcepppilgncdmaaGreatDoorPSet
namespace Go.Proofs.YtcepppilgncdmaaGreatDoor
open Go.RowKit
attribute [local go_sem ↓] Go.wp_at_zero Go.wp_at_succ

/-- What a function answers that turns a block's conditions. -/
def BkPost (B b r : Nat) (lv fv mv pv dv vo : Value) (p : Option Addr) (at_ : Nat) (x : Int × List OpenP) (st : StP) (w : World) (e : Ending) (w' : World) : Prop :=
  e = .returned (.tuple #[]) ∧ Fq B (bkM b vo) w w' ∧ (x.1 = 0 → (∃ vo', BkAt w' B b lv fv mv pv dv vo' (.pointer p) x.2 ∧ ∀ g, vo'.ownBlock = some g → vo.ownBlock = some g ∨ w.heap.size ≤ g) ∧ RdSt w' B r st) ∧ (x.1 ≠ 0 → RdErr w' r x.1 at_ ∧ BkRow w' b lv fv mv pv dv)

/-- A condition more is open. -/
theorem BkAt.push {w w4 : World} {B b : Nat} {lv fv mv pv dv vo xd : Value} {opens : List OpenP} (h : BkAt w B b lv fv mv pv dv vo xd opens) (h8 : opens.length < 8) (hg : w.grownBy w4 vo.ownBlock) {gg cap : Nat} {o : OpenP}
    (ho : w4.ownsRow B 190 3 (.slice (some ⟨gg, 0, none⟩) (opens.length + 1) cap) (opens.length + 1) (openCells opens ++ [.bool o.yes, .bool o.els, .bool o.over])) :
    BkAt (w4.setCell ⟨b, 5, none⟩ (.slice (some ⟨gg, 0, none⟩) (opens.length + 1) cap)) B b lv fv mv pv dv (.slice (some ⟨gg, 0, none⟩) (opens.length + 1) cap) xd (o :: opens) ∧
    Fc B (bkM b vo) w (w4.setCell ⟨b, 5, none⟩ (.slice (some ⟨gg, 0, none⟩) (opens.length + 1) cap)) := by
  have hne : vo.ownBlock ≠ some b := own_row_ne h.own h.row (by decide)
  have hr4 : RowT w4 130 b [lv, fv, mv, pv, dv, vo, xd] := RowT.grown' h.row hg (Ne.symm hne)
  have hgne : (Value.slice (some ⟨gg, 0, none⟩) (opens.length + 1) cap).ownBlock ≠ some b := own_row_ne ho hr4 (by decide)
  refine ⟨⟨hr4.set 5 _, ?_, by simp; omega, h.at_⟩, ?_⟩
  · rw [List.length_cons]
    exact ownsRow_setCell_other ho (a := ⟨b, 5, none⟩) hgne _
  · refine ((FrQ.refl noT r1 B (bkM b vo) w).grown hg (own_mayQ h.own fun g hg => Or.inr ⟨rfl, ?_⟩)).setCell (p := ⟨b, 5, none⟩) (hr4.mayQ h.at_ (Or.inr ⟨rfl, by simp [bkM]⟩)) _
    unfold bkM
    rw [hg]; simp

theorem FrQ.wide {E R : TypeId → Bool} {B : Nat} {M : List Nat} {w w' : World} (h : FrQ E R B [] w w') : FrQ E R B M w w' := h.mono (fun _ h => by cases h)
theorem bk_bad {w w1 : World} {B b r : Nat} {lv fv mv pv dv vo vm vn vl : Value} {p : Option Addr} {opens y : List OpenP} {at_ calls : Nat} {st : StP} {ms : List MacQ} {ns : List (ByteArray × Int)} {outs : List (ByteArray × Nat)} {er : Int} (hx : RdAt w1 B r vm vn vl ms ns outs calls) (hk : BkAt w1 B b lv fv mv pv dv vo (.pointer p) opens) (hf : Fq B (bkM b vo) w w1) (h0 : er ≠ 0) :
    BkPost B b r lv fv mv pv dv vo p at_ (er, y) st w (.returned (.tuple #[])) ((w1.setCell ⟨r, 4, none⟩ (.int .i64 er)).setCell ⟨r, 5, none⟩ (.int .i64 (at_ : Nat))) := by
  obtain ⟨p1, p2⟩ := bad_post (er := er) (at_ := at_) hx.row hx.at_
  exact ⟨rfl, hf.trans p1.wide, fun c => absurd c h0, fun _ => ⟨p2, (hk.fq p1 (by simp) (fun _ _ => by simp)).toRow⟩⟩
theorem bk_push {w w1 w2 w4 : World} {B b r : Nat} {lv fv mv pv dv vo vm vn vl : Value} {p : Option Addr} {opens : List OpenP} {at_ calls : Nat} {ms : List MacQ} {ns : List (ByteArray × Int)} {outs : List (ByteArray × Nat)} (hx : RdAt w1 B r vm vn vl ms ns outs calls) (hk : BkAt w1 B b lv fv mv pv dv vo (.pointer p) opens) (hf : Fq B (bkM b vo) w w1) (h8 : opens.length < 8)
    (hb : Below w1.heap.size w1 w2) (hg : w2.grownBy w4 vo.ownBlock) {gg cap : Nat} {o : OpenP} (hat : vo.ownBlock = some gg ∨ gg = w2.heap.size)
    (ho : w4.ownsRow B 190 3 (.slice (some ⟨gg, 0, none⟩) (opens.length + 1) cap) (opens.length + 1) (openCells opens ++ [.bool o.yes, .bool o.els, .bool o.over])) :
    BkPost B b r lv fv mv pv dv vo p at_ (0, o :: opens) (stQ ms ns outs calls) w (.returned (.tuple #[])) (w4.setCell ⟨b, 5, none⟩ (.slice (some ⟨gg, 0, none⟩) (opens.length + 1) cap)) := by
  obtain ⟨q1, q2⟩ := (hk.below hb).push h8 hg ho
  have hf2 : Fq B (bkM b vo) w w2 := hf.trans (Fq.of_below hb)
  refine ⟨rfl, hf2.trans q2.to, fun _ => ⟨⟨_, q1, ?_⟩, vm, vn, vl, ms, ns, outs, calls, (hx.below hb).fc q2, rfl⟩, fun c => absurd rfl c⟩
  intro g hgg
  have hg' : gg = g := by simpa [Value.ownBlock] using hgg
  subst hg'
  rcases hat with h1 | h1
  · exact Or.inl h1
  · right
    rw [h1]
    exact hf2.size

set_option maxRecDepth 100000 in
set_option maxHeartbeats 1600000 in
theorem begins_any (w : World) (B b r : Nat) (lv fv mv pv dv vo : Value) (p : Option Addr) (opens : List OpenP) (at_ : Nat) (st : StP) (lb op : ByteArray) (va : Option Addr) (vc : Nat) (os : List ByteArray) (W : WordsP) (C : Nat)
    (h : BkAt w B b lv fv mv pv dv vo (.pointer p) opens) (hx : RdSt w B r st) (hp : PartsV w C lb op (.slice va os.length vc) os W) (hsz : ∀ i (hi : i < os.length), os[i].size ≤ 1000) (hnl : st.names.length ≤ 1000) (hB : B ≤ w.heap.size) :
    Calls Tryz.prog 128 #[.pointer (some ⟨b, 0, none⟩), .pointer (some ⟨r, 0, none⟩), .agg #[.string lb, .string op, .slice va os.length vc], .int .i64 (at_ : Nat)] w (BkPost B b r lv fv mv pv dv vo p at_ (ifP W opens st) st w) := by
  obtain ⟨vm, vn, vl, ms, ns, outs, calls, hx, hst⟩ := hx
  obtain ⟨i0, hi0, hz0, hz1, hz2⟩ := info_parts info_open
  obtain ⟨x, hxr⟩ : ∃ x, ifP W opens st = x := ⟨_, rfl⟩
  rw [hxr]
  have HXR := hid hxr
  have hnl : ns.length ≤ 1000 := by rw [hst] at hnl; simpa [stQ, plainN] using hnl
  obtain ⟨an, cn, hvn, hna⟩ := hx.namesAt
  subst hvn
  obtain ⟨t1, t2, t3⟩ := hp.two
  have HST := hid hst
  have hb0 : Below w.heap.size w (w.alloc (.cells #[.string lb, .string op, .slice va os.length vc] 134)) := (Below.refl _ _).alloc (Nat.le_refl _) _
  have HX := hid (hx.below hb0)
  have HBK := hid (h.below hb0)
  have HP := hid (hp.below hb0)
  have HNA := hid (hna.below hb0)
  have HF := hid (show Fq B (bkM b vo) w (w.alloc (.cells #[.string lb, .string op, .slice va os.length vc] 134)) from Fq.of_below hb0)
  have HBX := hid (RowT.new w 134 [.string lb, .string op, .slice va os.length vc])
  have HSZ := hid hsz
  have HT3 := hid t3
  clear hx h hp hna hb0 hsz t3 hst
  go_enter Tryz.func128, Tryz.ntmps128
  go_upto_region 1 with fail
  have hB1 : B ≤ (w.alloc (.cells #[.string lb, .string op, .slice va os.length vc] 134)).heap.size := Nat.le_trans hB HF.out.size
  have HBX := hid (show RowT (w.alloc (.cells #[.string lb, .string op, .slice va os.length vc] 134)) 134 w.heap.size [.string lb, .string op, .slice va os.length vc] from HBX.out)
  have HSIZE := hid (show w.heap.size ≤ (w.alloc (.cells #[.string lb, .string op, .slice va os.length vc] 134)).heap.size from HF.out.size)
  generalize w.alloc (.cells #[.string lb, .string op, .slice va os.length vc] 134) = w1 at HX HBK HP HNA HF HBX hB1 HSIZE ⊢
  obtain ⟨bx, hbx⟩ : ∃ bx, w.heap.size = bx := ⟨_, rfl⟩
  rw [hbx] at HBX HSIZE ⊢
  clear hbx
  have y0 := HBX.out.cell 0 (by simp)
  have y2 := HBX.out.cell 2 (by simp)
  have c5 : w1.cell? ⟨b, 5, none⟩ = some vo := HBK.out.row.cell 5 (by simp)
  have f5 := HBK.out.row.free 5
  have hltb := HBK.out.row.lt
  have n1 : w1.cell? ⟨r, 1, none⟩ = some (.slice an ns.length cn) := HX.out.row.cell 1 (by simp)
  have hneb : vo.ownBlock ≠ some b := own_row_ne HBK.out.own HBK.out.row (by decide)
  have HOWN := hid HBK.out.own
  obtain ⟨a5, k5, hv5⟩ := own_form HBK.out.own
  have hxr := HXR.out
  unfold ifP at hxr
  rw [t2] at hxr
  by_cases h8 : 8 ≤ opens.length
  · rw [if_pos h8] at hxr
    have d8 : decide ((8 : Int) ≤ opens.length) = true := by simp; omega
    subst hv5
    clear HXR
    go_wp2_with (first | (go_at_call 60; refine (bad_any _ r _ _ _ _ _ 2 at_ HX.out.row).mono ?_; rintro e w2 ⟨rfl, rfl⟩))
    go_end0
    rw [← hxr]
    exact bk_bad HX.out HBK.out HF.out (by decide)
  · rw [if_neg h8] at hxr
    have d8 : decide ((8 : Int) ≤ opens.length) = false := by simp; omega
    have h8' : opens.length < 8 := by omega
    have hov := over_any w1 B b lv fv mv pv dv vo _ opens HBK.out
    subst hv5
    obtain ⟨ov, hove⟩ : ∃ ov, overP opens = ov := ⟨_, rfl⟩
    rw [hove] at hov hxr
    have HOV := hid hov
    have HXR := hid hxr
    clear hov hove hxr
    obtain ⟨n, hn'⟩ : ∃ n, opens.length = n := ⟨_, rfl⟩
    have HN := hid hn'
    rw [hn'] at d8 h8' c5 hneb
    have hown := HOWN.out
    rw [hn'] at hown
    have HOWN := hid hown
    rw [hn']
    clear hown hn' h8
    cases ov with
    | true =>
      have hxr := HXR.out
      rw [if_pos rfl] at hxr
      have HXR := hid hxr
      clear hxr
      go_wp2_with (first | (go_at_call 89; refine HOV.out.mono ?_; rintro e w2 ⟨rfl, hw2⟩; obtain rfl := hw2.symm) | (at_builtin; refine wpList_append_lies _ rfl (.tmp 27) (.tmp 29) 128 rfl B 190 i0 _ 3 3 Tryz.underlying128 hi0 hz0 hz1 hz2 rfl (by omega) (.slice a5 n k5) n (openCells opens) rfl (HOWN.out.alloc _) ⟨_, 0, none⟩ 1 1 [.bool false, .bool false, .bool true] rfl rfl (World.news_of_block (cs := #[.bool false, .bool false, .bool true]) (t := 190) (fr := (0, 0)) (heap_alloc_new _ _)) (by simp [Value.oneCell']) (by omega) (by unfold maxLen; omega) (by omega) (by simp; omega) _ rfl ?_; intro gg cap' w4 hown4 hgrow hat hlt4; have hc4 := (hgrow.cell_far ⟨b, 5, none⟩ (by simp; omega) (Ne.symm hneb)).trans (((Below.refl w1.heap.size w1).alloc (Nat.le_refl _) (.cells #[.bool false, .bool false, .bool true] 190)).cell (p := ⟨b, 5, none⟩) hltb |>.trans c5); have hf4 := (hgrow.frozen_far ⟨b, 5, none⟩ (by simp; omega) (Ne.symm hneb)).trans (((Below.refl w1.heap.size w1).alloc (Nat.le_refl _) (.cells #[.bool false, .bool false, .bool true] 190)).frozen (p := ⟨b, 5, none⟩) hltb |>.trans f5)))
      go_end0
      rw [← HXR.out, HST.out]
      obtain rfl := HN.out
      exact bk_push (o := ⟨false, false, true⟩) HX.out HBK.out HF.out h8' ((Below.refl _ _).alloc (Nat.le_refl _) _) hgrow hat hown4
    | false =>
      have hxr := HXR.out
      rw [if_neg (by simp)] at hxr
      by_cases hlb : lb.size = 0
      · rw [t1.2 hlb] at hxr
        have kl := is_empty lb hlb
        by_cases h1 : os.length = 1
        · rw [if_neg (by simp [h1])] at hxr
          have hpos0 : 0 < os.length := by omega
          obtain ⟨x0, hx0⟩ : ∃ x0, os[0] = x0 := ⟨_, rfl⟩
          have e0 : W.operands.headD [] = L x0 := by rw [headD_get, ← hx0]; exact HT3.out 0 hpos0
          rw [e0] at hxr
          have hs0 : x0.size ≤ 1000 := by rw [← hx0]; exact HSZ.out 0 hpos0
          obtain ⟨bo, off, cap, hv, hbl, d0⟩ := HP.out.at_.cell 0 hpos0
          injection hv with hv1 _ hv2
          subst hv1 hv2
          rw [Nat.add_zero, hx0] at d0
          have k1 : ((os.length : Int) != 1) = false := by simp; omega
          have i1 : (0 : Int) < (os.length : Int) := by omega
          obtain ⟨v, er, hv⟩ : ∃ v er, value 0 (plainN ns) (L x0) = (v, er) := ⟨_, _, rfl⟩
          rw [HST.out, show (stQ ms ns outs calls).names = plainN ns from rfl, hv] at hxr
          have HV := hid (fun (wx : World) (k : Nat) (hw : NamesAt (wx.drewN k) an ns) => Calls.quiet_of_same (w := wx) (n := k) (refValue_any x0 0 an cn ns _ v er (by omega) (by unfold maxLen; omega) hw hv))
          have HXR := hid hxr
          clear hxr hv e0 hx0 h1 hlb
          go_upto_region 8 with (first | (go_at_call 89; refine HOV.out.mono ?_; rintro e w2 ⟨rfl, hw2⟩; obtain rfl := hw2.symm))
          go_big_quiet ((with_reducible exact HV.out _ _ (HNA.out.below (below_drewN (Below.refl _ _) _))))
          have hbq : Below w1.heap.size w1 (w1.drewN nq) := below_drewN (Below.refl _ _) _
          have HX := hid (HX.out.below hbq)
          have HBK := hid (HBK.out.below hbq)
          have HF := hid (HF.out.trans (Fq.of_below hbq))
          have HOWN := hid (ownsRow_belowP HOWN.out hbq)
          have c5 := (hbq.cell (p := ⟨b, 5, none⟩) hltb).trans c5
          have f5 := HBK.out.row.free 5
          have hltb := HBK.out.row.lt
          have hB1 : B ≤ (w1.drewN nq).heap.size := hB1
          clear hbq HNA HOV HP HV y0 y2 d0 n1
          generalize w1.drewN nq = wq at HX HBK HF HOWN c5 f5 hltb hB1 ⊢
          by_cases h0 : er = 0
          · subst h0
            have hxr := HXR.out
            rw [if_neg (by simp)] at hxr
            have HXR := hid hxr
            clear hxr
            by_cases hv0 : v = 0
            · subst hv0
              go_wp2_with (first | (at_builtin; refine wpList_append_lies _ rfl (.tmp 67) (.tmp 71) 128 rfl B 190 i0 _ 3 3 Tryz.underlying128 hi0 hz0 hz1 hz2 rfl (by omega) (.slice a5 n k5) n (openCells opens) rfl (HOWN.out.alloc _) ⟨_, 0, none⟩ 1 1 [.bool false, .bool false, .bool false] rfl rfl (World.news_of_block (cs := #[.bool false, .bool false, .bool false]) (t := 190) (fr := (0, 0)) (heap_alloc_new _ _)) (by simp [Value.oneCell']) (by omega) (by unfold maxLen; omega) (by omega) (by simp; omega) _ rfl ?_; intro gg cap' w4 hown4 hgrow hat hlt4; have hc4 := (hgrow.cell_far ⟨b, 5, none⟩ (by simp; omega) (Ne.symm hneb)).trans (((Below.refl wq.heap.size wq).alloc (Nat.le_refl _) (.cells #[.bool false, .bool false, .bool false] 190)).cell (p := ⟨b, 5, none⟩) hltb |>.trans c5); have hf4 := (hgrow.frozen_far ⟨b, 5, none⟩ (by simp; omega) (Ne.symm hneb)).trans (((Below.refl wq.heap.size wq).alloc (Nat.le_refl _) (.cells #[.bool false, .bool false, .bool false] 190)).frozen (p := ⟨b, 5, none⟩) hltb |>.trans f5)))
              go_end0
              rw [← HXR.out, HST.out]
              obtain rfl := HN.out
              exact bk_push (o := ⟨false, false, false⟩) HX.out HBK.out HF.out h8' ((Below.refl _ _).alloc (Nat.le_refl _) _) hgrow hat hown4
            · have kv : (v != 0) = true := by simpa using hv0
              have HXR := hid (show (0, ⟨true, false, false⟩ :: opens) = x by have := HXR.out; rwa [decide_eq_true (show (v, (0 : Int)).1 ≠ 0 from hv0)] at this)
              clear hv0
              go_wp2_with (first | (at_builtin; refine wpList_append_lies _ rfl (.tmp 67) (.tmp 71) 128 rfl B 190 i0 _ 3 3 Tryz.underlying128 hi0 hz0 hz1 hz2 rfl (by omega) (.slice a5 n k5) n (openCells opens) rfl (HOWN.out.alloc _) ⟨_, 0, none⟩ 1 1 [.bool true, .bool false, .bool false] rfl rfl (World.news_of_block (cs := #[.bool true, .bool false, .bool false]) (t := 190) (fr := (0, 0)) (heap_alloc_new _ _)) (by simp [Value.oneCell']) (by omega) (by unfold maxLen; omega) (by omega) (by simp; omega) _ rfl ?_; intro gg cap' w4 hown4 hgrow hat hlt4; have hc4 := (hgrow.cell_far ⟨b, 5, none⟩ (by simp; omega) (Ne.symm hneb)).trans (((Below.refl wq.heap.size wq).alloc (Nat.le_refl _) (.cells #[.bool true, .bool false, .bool false] 190)).cell (p := ⟨b, 5, none⟩) hltb |>.trans c5); have hf4 := (hgrow.frozen_far ⟨b, 5, none⟩ (by simp; omega) (Ne.symm hneb)).trans (((Below.refl wq.heap.size wq).alloc (Nat.le_refl _) (.cells #[.bool true, .bool false, .bool false] 190)).frozen (p := ⟨b, 5, none⟩) hltb |>.trans f5)))
              go_end0
              rw [← HXR.out, HST.out]
              obtain rfl := HN.out
              exact bk_push (o := ⟨true, false, false⟩) HX.out HBK.out HF.out h8' ((Below.refl _ _).alloc (Nat.le_refl _) _) hgrow hat hown4
          · have k0 : (er != 0) = true := by simpa using h0
            have hxr := HXR.out
            rw [if_pos (by simpa using h0)] at hxr
            have HXR := hid hxr
            have H0 := hid h0
            clear hxr h0
            go_wp2_with (first | (go_at_call 60; refine (bad_any _ r _ _ _ _ _ er at_ HX.out.row).mono ?_; rintro e w2 ⟨rfl, rfl⟩))
            go_end0
            rw [← HXR.out]
            exact bk_bad HX.out HBK.out HF.out H0.out
        · rw [if_pos (Or.inr h1)] at hxr
          have k1 : ((os.length : Int) != 1) = true := by simp; omega
          have HXR := hid hxr
          clear hxr h1 hlb
          go_wp2_with (first | (go_at_call 89; refine HOV.out.mono ?_; rintro e w2 ⟨rfl, hw2⟩; obtain rfl := hw2.symm) | (go_at_call 60; refine (bad_any _ r _ _ _ _ _ 4 at_ HX.out.row).mono ?_; rintro e w2 ⟨rfl, rfl⟩))
          go_end0
          rw [← HXR.out]
          exact bk_bad HX.out HBK.out HF.out (by decide)
      · rw [if_pos (Or.inl (fun c => hlb (t1.1 c)))] at hxr
        have kl := not_empty lb (by omega)
        have HXR := hid hxr
        clear hxr hlb
        go_wp2_with (first | (go_at_call 89; refine HOV.out.mono ?_; rintro e w2 ⟨rfl, hw2⟩; obtain rfl := hw2.symm) | (go_at_call 60; refine (bad_any _ r _ _ _ _ _ 4 at_ HX.out.row).mono ?_; rintro e w2 ⟨rfl, rfl⟩))
        go_end0
        rw [← HXR.out]
        exact bk_bad HX.out HBK.out HF.out (by decide)

end Go.Proofs.YtcepppilgncdmaaGreatDoor
