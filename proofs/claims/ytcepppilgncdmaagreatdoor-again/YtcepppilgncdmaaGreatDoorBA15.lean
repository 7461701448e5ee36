/-
  What the program's function that gives a name a value answers (package expand).
-/
import Derived.Test.YtcepppilgncdmaaGreatDoorBA12
import Derived.Deep.RegionWith
namespace Go.Proofs.YtcepppilgncdmaaGreatDoor
open Go.RowKit
attribute [local go_sem ↓] Go.wp_at_zero Go.wp_at_succ

set_option maxHeartbeats 800000 in
theorem hasValue_any (w : World) (B be bt wi k : Nat) (vm vn vl : Value) (ms : List MacV) (ns : List (ByteArray × Int)) (outs : List (ByteArray × Nat)) (calls : Nat) (h : ExpAt w B be bt wi k vm vn vl ms ns outs calls) (hnl : ns.length ≤ 1000) (s : ByteArray) (r : Bool) (hr : hasN (plainN ns) (L s) = r) :
    Calls Tryz.prog 143 #[.pointer (some ⟨be, 0, none⟩), .string s] w fun e w' => e = .returned (.bool r) ∧ Below w.heap.size w w' := by
  obtain ⟨a, cap, hv, hna⟩ := h.namesAt
  have c2 : w.cell? ⟨be, 2, none⟩ = some (.slice a ns.length cap) := by rw [← hv]; exact h.row.cell 2 (by simp)
  have HNA := hid hna
  have HR := hid hr
  clear h hna hr hv
  go_enter Tryz.func143, Tryz.ntmps143
  go_wp2
  go_loopg [12] ns.length (fun q i wr => ∃ j : Nat, q + j = ns.length ∧ i = .int .i64 j ∧ Below w.heap.size w wr ∧ r = (findN (plainN (ns.drop j)) (L s)).isSome)
  case atStart => exact ⟨0, rfl, rfl, Below.refl _ _, by rw [List.drop_zero]; exact HR.out.symm⟩
  case round =>
    obtain ⟨j, hq, rfl, hb, ha⟩ := hrel
    have HB := hid hb
    have HA := hid ha
    clear ha hb
    by_cases hlt : j < ns.length
    · have kd : decide ((j : Int) < (ns.length : Int)) = true := by simp; omega
      rcases (HNA.out.below HB.out) with h0 | ⟨g, off, hv, hgl, hc⟩
      · rw [h0] at hlt; simp at hlt
      · subst hv
        obtain ⟨d0, d1⟩ := hc j hlt
        have hA := HA.out
        rw [findN_at _ _ _ hlt] at hA
        clear hc
        by_cases he : L ns[j].1 = L s
        · rw [if_pos he] at hA
          have hr1 : r = true := hA
          subst hr1
          have kb : (ns[j].1.toList == s.toList) = true := beq_of_L he
          clear hA he
          go_wp2
          go_ret
          exact ⟨rfl, HB.out.alloc HB.out.size _⟩
        · rw [if_neg he] at hA
          have HF := hid hA
          have kb : (ns[j].1.toList == s.toList) = false := nbeq_of_L he
          clear hA he
          go_wp2
          go_roundg (gk - 1)
          case measure => omega
          case rel => exact ⟨j + 1, by omega, by go_num, HB.out.alloc HB.out.size _, HF.out⟩
    · have kd : decide ((j : Int) < (ns.length : Int)) = false := by simp; omega
      have hr1 : r = false := by rw [HA.out, findN_end _ _ _ (by omega)]; rfl
      subst hr1
      go_wp2
      go_ret
      exact ⟨rfl, HB.out⟩

/-- A name more has a value. -/
theorem ExpAt.named {w w4 : World} {B be bt wi k : Nat} {vm vn vl : Value} {ms : List MacV} {ns : List (ByteArray × Int)} {outs : List (ByteArray × Nat)} {calls : Nat} (h : ExpAt w B be bt wi k vm vn vl ms ns outs calls) (hg : w.grownBy w4 vn.ownBlock) {gg cap : Nat} {t : ByteArray} {z : Int}
    (ho : w4.ownsRow B 40 2 (.slice (some ⟨gg, 0, none⟩) (ns.length + 1) cap) (ns.length + 1) (nameCells ns ++ [.string t, .int .i64 z])) :
    ExpAt (w4.setCell ⟨be, 2, none⟩ (.slice (some ⟨gg, 0, none⟩) (ns.length + 1) cap)) B be bt wi k vm (.slice (some ⟨gg, 0, none⟩) (ns.length + 1) cap) vl ms (ns ++ [(t, z)]) outs calls ∧
    Fr B [] w (w4.setCell ⟨be, 2, none⟩ (.slice (some ⟨gg, 0, none⟩) (ns.length + 1) cap)) := by
  have hne : vn.ownBlock ≠ some be := own_row_ne h.nown h.row (by decide)
  have hr4 : RowT w4 77 be [.pointer (some ⟨bt, 0, none⟩), vm, vn, .int .i64 (wi : Nat), .int .i64 (calls : Nat), vl] := RowT.grown' h.row hg (Ne.symm hne)
  have hm4 := h.mown.kept hg (by
    cases hv : vm.ownBlock with
    | none => exact Or.inl rfl
    | some g => exact Or.inr (fun e1 => own_own_ne h.mown h.nown (by decide) (g := g) (by rw [← e1]) hv))
  have hl4 := h.lown.kept hg (by
    cases hv : vl.ownBlock with
    | none => exact Or.inl rfl
    | some g => exact Or.inr (fun e1 => own_own_ne h.lown h.nown (by decide) (g := g) (by rw [← e1]) hv))
  have hf4 : Fr B [] w w4 := (Fr.refl B [] w).grown hg (own_may h.nown (fun _ _ => Or.inl rfl))
  have hf5 := hf4.setCell (p := ⟨be, 2, none⟩) (hr4.may h.at_ (Or.inl rfl)) (.slice (some ⟨gg, 0, none⟩) (ns.length + 1) cap)
  refine ⟨⟨hr4.set 2 _, ?_, ?_, ?_, fun m hm => ⟨(h.mstr m hm).1.fr hf5, (h.mstr m hm).2.fr hf5⟩, h.at_, ?_⟩, hf5⟩
  · exact ownsRow_setCell_other hm4 (a := ⟨be, 2, none⟩) (own_row_ne hm4 hr4 (by decide)) _
  · rw [nameCells_append, List.length_append]
    exact ownsRow_setCell_other ho (a := ⟨be, 2, none⟩) (own_row_ne ho hr4 (by decide)) _
  · exact ownsRow_setCell_other hl4 (a := ⟨be, 2, none⟩) (own_row_ne hl4 hr4 (by decide)) _
  · obtain ⟨xs, h1, h2⟩ := h.text
    exact ⟨xs, h1.fr hf5 rfl (fun _ => by simp), h2⟩

theorem PartsV.two {w : World} {C : Nat} {lb op : ByteArray} {v : Value} {os : List ByteArray} {W : WordsP} (h : PartsV w C lb op v os W) : (W.label = [] ↔ lb.size = 0) ∧ W.operands.length = os.length ∧ ∀ i (hi : i < os.length), W.operands.getD i [] = L os[i] := by
  refine ⟨?_, by rw [← h.ops, List.length_map], fun i hi => ?_⟩
  · rw [← h.label]
    exact ⟨fun e => by rw [size_L, e]; rfl, L_zero⟩
  · rw [← h.ops, List.getD_eq_getElem?_getD, List.getElem?_map, List.getElem?_eq_getElem hi]; rfl
theorem headD_get (l : List (List UInt8)) : l.headD [] = l.getD 0 [] := by cases l <;> rfl

set_option maxRecDepth 100000 in
set_option maxHeartbeats 1600000 in
theorem doSet_any (w : World) (B be bt wi k : Nat) (st : StP) (lb op : ByteArray) (va : Option Addr) (vc : Nat) (os : List ByteArray) (W : WordsP) (C : Nat) (h : ExpSt w B be bt wi k st) (hp : PartsV w C lb op (.slice va os.length vc) os W) (hl : (textP W).length ≤ 1000000) (hn : os.length ≤ 1000) (hsz : ∀ i (hi : i < os.length), os[i].size ≤ 1000) (hok : StOk st k) (hB : B ≤ w.heap.size) :
    Calls Tryz.prog 107 #[.pointer (some ⟨be, 0, none⟩), .agg #[.string lb, .string op, .slice va os.length vc]] w (ExpPost B be bt wi k [] (setP W k st) w) := by
  obtain ⟨vm, vn, vl, ms, ns, outs, calls, hx, rfl⟩ := h
  obtain ⟨i0, hi0, hz0, hz1, hz2⟩ := info_parts info_name
  have hb0 : Below w.heap.size w (w.alloc (.cells #[.string lb, .string op, .slice va os.length vc] 101)) := (Below.refl _ _).alloc (Nat.le_refl _) _
  have HX := hid (hx.below hb0)
  have HP := hid (hp.below hb0)
  have HF := hid (show Fr B [] w (w.alloc (.cells #[.string lb, .string op, .slice va os.length vc] 101)) from Fr.of_below hb0)
  have HB := hid (RowT.new w 101 [.string lb, .string op, .slice va os.length vc])
  obtain ⟨t1, t2, t3⟩ := hp.two
  have hnl : ns.length ≤ 300 := by
    have h1 := hok.names
    have h2 := hok.out
    simp only [stOf, plainN, List.length_map] at h1 h2
    omega
  have hol : (stOf ms ns outs calls).out.length ≤ 300 := hok.out
  have HOK := hid hol
  have HSZ := hid hsz
  have HT3 := hid t3
  obtain ⟨r, hr⟩ : ∃ r, setP W k (stOf ms ns outs calls) = r := ⟨_, rfl⟩
  rw [hr]
  have HR := hid hr
  unfold setP at hr
  rw [t2] at hr
  clear hx hp hb0 hok hol hsz t3
  by_cases hlb : lb.size = 0
  · rw [t1.2 hlb] at hr
    have kl := is_empty lb hlb
    by_cases h2 : os.length = 2
    · rw [if_neg (by simp [h2])] at hr
      have hpos0 : 0 < os.length := by omega
      have hpos1 : 1 < os.length := by omega
      obtain ⟨n0, hn0⟩ : ∃ n0, os[0] = n0 := ⟨_, rfl⟩
      obtain ⟨x1, hx1⟩ : ∃ x1, os[1] = x1 := ⟨_, rfl⟩
      have e0 : W.operands.headD [] = L n0 := by rw [headD_get, ← hn0]; exact HT3.out 0 hpos0
      have e1 : W.operands.getD 1 [] = L x1 := by rw [← hx1]; exact HT3.out 1 hpos1
      rw [e0, e1] at hr
      have hs0 : n0.size ≤ 1000 := by rw [← hn0]; exact HSZ.out 0 hpos0
      have hs1 : x1.size ≤ 1000 := by rw [← hx1]; exact HSZ.out 1 hpos1
      obtain ⟨b, off, cap, hv, hbl, d0⟩ := HP.out.at_.cell 0 hpos0
      injection hv with hv1 _ hv2
      subst hv1 hv2
      obtain ⟨_, _, _, hv', _, d1⟩ := HP.out.at_.cell 1 hpos1
      injection hv' with hv11 _ hv12
      injection hv11 with hv11
      injection hv11 with hv13 hv14
      subst hv13 hv14
      rw [Nat.add_zero, hn0] at d0
      rw [hx1] at d1
      have HM2 := hid h2
      rw [h2] at HX HP HF HB d0 d1 hbl
      rw [h2]
      clear hv12 hn0 hx1 hpos0 hpos1 h2 e0 e1
      have hr : (if nameB (L n0) = false ∨ hasN (plainN ns) (L n0) = true then (5, stOf ms ns outs calls) else if (value 0 (plainN ns) (L x1)).2 ≠ 0 then ((value 0 (plainN ns) (L x1)).2, stOf ms ns outs calls) else leaveP W k (stOf ms (ns ++ [(n0, (value 0 (plainN ns) (L x1)).1)]) outs calls)) = r := by
        rw [← hr]
        have e : ∀ v, plainN (ns ++ [(n0, v)]) = plainN ns ++ [(L n0, v)] := fun v => by simp [plainN]
        simp only [stOf, e]
        rfl
      by_cases hnm : nameB (L n0) = false
      · rw [if_pos (Or.inl hnm)] at hr
        subst hr
        have HNM := hid hnm
        clear hnm
        go_enter Tryz.func107, Tryz.ntmps107
        go_wp2_with (first | (go_at_call 78; refine (IsName_any n0 _ (by unfold maxLen; omega)).mono ?_; rw [HNM.out]; rintro e w1 ⟨rfl, rfl⟩))
        go_ret
        exact ⟨rfl, HF.out, (fun h => by cases h), HX.out.num⟩
      · have HNM := hid (show nameB (L n0) = true by simpa using hnm)
        have hnm' : ¬ nameB (L n0) = false := hnm
        clear hnm
        by_cases hhas : hasN (plainN ns) (L n0) = true
        · rw [if_pos (Or.inr hhas)] at hr
          subst hr
          have HHAS := hid hhas
          clear hhas hnm'
          go_enter Tryz.func107, Tryz.ntmps107
          go_wp2_with (first | (go_at_call 78; refine (IsName_any n0 _ (by unfold maxLen; omega)).mono ?_; rw [HNM.out]; rintro e w1 ⟨rfl, rfl⟩) | (go_at_call 143; refine (hasValue_any _ B be bt wi k vm vn vl ms ns outs calls HX.out (by omega) n0 true HHAS.out).mono ?_; rintro e w2 ⟨rfl, hb2⟩))
          go_ret
          exact ⟨rfl, HF.out.trans (Fr.of_below hb2), (fun h => by cases h), (HX.out.below hb2).num⟩
        · rw [if_neg (by intro h; rcases h with h | h; exact hnm' h; exact hhas h)] at hr
          have HHAS := hid (show hasN (plainN ns) (L n0) = false by simpa using hhas)
          clear hhas hnm'
          obtain ⟨q, hq⟩ : ∃ q, value 0 (plainN ns) (L x1) = q := ⟨_, rfl⟩
          obtain ⟨z, er⟩ := q
          rw [hq] at hr
          have HQ := hid hq
          clear hq
          have HRX := hid hr
          clear hr
          go_enter Tryz.func107, Tryz.ntmps107
          go_wp2_with (first | (go_at_call 78; refine (IsName_any n0 _ (by unfold maxLen; omega)).mono ?_; rw [HNM.out]; rintro e w1 ⟨rfl, rfl⟩) | fail)
          refine (hasValue_any _ B be bt wi k vm vn vl ms ns outs calls HX.out (by omega) n0 false HHAS.out).mono ?_
          rintro e w2 ⟨rfl, hb2⟩
          have HX := hid (HX.out.below hb2)
          have HF := hid (HF.out.trans (Fr.of_below hb2))
          have HP := hid (HP.out.below hb2)
          have HB := hid (HB.out.below hb2)
          have d1 : w2.cell? ⟨b, off + 1, none⟩ = some (.string x1) := by rw [hb2.cell (p := ⟨b, off + 1, none⟩) hbl]; exact d1
          clear hb2 d0
          obtain ⟨na, nc, hnv, hna⟩ := HX.out.namesAt
          subst hnv
          have y0 := HB.out.cell 0 (by simp)
          have y1 := HB.out.cell 1 (by simp)
          have y2 := HB.out.cell 2 (by simp)
          have c2 : w2.cell? ⟨be, 2, none⟩ = some (.slice na ns.length nc) := HX.out.row.cell 2 (by simp)
          have f2 := HX.out.row.free 2
          have HNA := hid hna
          clear hna
          go_wp2_with fail
          go_region_with (go_at_call 36; refine (xValue_any x1 0 na nc ns _ z er (by unfold maxLen; omega) (by unfold maxLen; omega) (HNA.out.below ((Below.refl _ _).drew)) HQ.out).mono ?_; rintro e w3 ⟨rfl, hb3⟩)
          all_goals
            have HX3 := hid (HX.out.below (((Below.refl _ _).drew).trans (hb3.mono (Nat.le_refl _))))
            have HF3 := hid ((HF.out.drew).trans (Fr.of_below hb3))
            have HP3 := hid (HP.out.below (((Below.refl _ _).drew).trans (hb3.mono (Nat.le_refl _))))
            have HB3 := hid (HB.out.below (((Below.refl _ _).drew).trans (hb3.mono (Nat.le_refl _))))
            have hlt3 := HX3.out.row.lt
            have hB3 : B ≤ w3.heap.size := Nat.le_trans hB HF3.out.size
            clear hb3 y0 y1 y2 c2 f2 d1
            have hr := HRX.out
            by_cases her : er = 0
            · subst her
              rw [if_neg (by simp)] at hr
              have HRY := hid hr
              have c2 : w3.cell? ⟨be, 2, none⟩ = some (.slice na ns.length nc) := HX3.out.row.cell 2 (by simp)
              have f2 := HX3.out.row.free 2
              have HNO := hid (show w3.ownsRow B 40 2 (.slice na ns.length nc) ns.length (nameCells ns) from HX3.out.nown)
              have hneb : (Value.slice na ns.length nc).ownBlock ≠ some be := own_row_ne HNO.out HX3.out.row (by decide)
              clear hr
              go_wp2_with ((at_builtin; refine wpList_append_lies _ rfl (.tmp 48) (.tmp 52) 31 rfl B 40 i0 _ 2 24 Tryz.underlying31 hi0 hz0 hz1 hz2 rfl (by omega) (.slice na ns.length nc) ns.length (nameCells ns) rfl (HNO.out.alloc _) ⟨w3.heap.size, 0, none⟩ 1 1 [.string n0, .int .i64 z] rfl rfl (World.news_of_block (cs := #[.string n0, .int .i64 z]) (t := 40) (fr := (0, 0)) (heap_alloc_new _ _)) (by simp [Value.oneCell']) (by omega) (by unfold maxLen; omega) (by omega) (by simp; omega) _ rfl ?_; intro gg cap' w4 hown4 hgrow hat hlt4; have hc4 := (hgrow.cell_far ⟨be, 2, none⟩ (by simp; omega) (Ne.symm hneb)).trans (((Below.refl w3.heap.size w3).alloc (Nat.le_refl _) (.cells #[.string n0, .int .i64 z] 40)).cell (p := ⟨be, 2, none⟩) hlt3 |>.trans c2); have hf4 := (hgrow.frozen_far ⟨be, 2, none⟩ (by simp; omega) (Ne.symm hneb)).trans (((Below.refl w3.heap.size w3).alloc (Nat.le_refl _) (.cells #[.string n0, .int .i64 z] 40)).frozen (p := ⟨be, 2, none⟩) hlt3 |>.trans f2); have HL := hid ((HX3.out.below ((Below.refl w3.heap.size w3).alloc (Nat.le_refl _) (.cells #[.string n0, .int .i64 z] 40))).named hgrow hown4); have HB5 := hid ((HB3.out.alloc _).fr HL.out.2 rfl (fun h => by cases h)); have z0 := HB5.out.cell 0 (by simp); have z1 := HB5.out.cell 1 (by simp); have z2 := HB5.out.cell 2 (by simp)))
              have HF5 := hid ((HF3.out.alloc _).trans HL.out.2)
              have hp5 := (HP3.out.below ((Below.refl w3.heap.size w3).alloc (Nat.le_refl _) (.cells #[.string n0, .int .i64 z] 40))).fr HL.out.2
              have hB5 := Nat.le_trans hB HF5.out.size
              have hlv := leave_any _ B be bt wi k (stOf ms (ns ++ [(n0, z)]) outs calls) lb op (some ⟨b, off, none⟩) vc os W C ⟨_, _, _, _, _, _, _, HL.out.1, rfl⟩ (by rw [HM2.out]; exact hp5) hl (by omega) (by simpa [stOf] using HOK.out) hB5
              rw [HM2.out] at hlv
              refine hlv.mono ?_
              rw [HRY.out]
              rintro e w6 ⟨rfl, hf6, hst6, hnu6⟩
              go_wp2
              go_ret
              exact ⟨rfl, HF5.out.trans hf6, hst6, hnu6⟩
            · have ke : (er != 0) = true := by simpa using her
              rw [if_pos her] at hr
              subst hr
              go_wp2
              go_ret
              exact ⟨rfl, HF3.out, fun h => absurd h her, HX3.out.num⟩
    · rw [if_pos (Or.inr h2)] at hr
      subst hr
      have k2 : ((os.length : Int) != 2) = true := by simp; omega
      go_enter Tryz.func107, Tryz.ntmps107
      go_wp2
      go_ret
      exact ⟨rfl, HF.out, (fun h => by cases h), HX.out.num⟩
  · rw [if_pos (Or.inl (fun e => hlb (t1.1 e)))] at hr
    subst hr
    have kl := not_empty lb (by omega)
    go_enter Tryz.func107, Tryz.ntmps107
    go_wp2
    go_ret
    exact ⟨rfl, HF.out, (fun h => by cases h), HX.out.num⟩

end Go.Proofs.YtcepppilgncdmaaGreatDoor
