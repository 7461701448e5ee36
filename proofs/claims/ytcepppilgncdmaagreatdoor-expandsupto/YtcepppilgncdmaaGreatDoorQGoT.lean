/-
  What the document's own package (masonref) makes of the text's lines, all of them.
-/
import Derived.Test.YtcepppilgncdmaaGreatDoorQText
import Derived.Test.YtcepppilgncdmaaGreatDoorPThr
namespace Go.Proofs.YtcepppilgncdmaaGreatDoor
open Go.RowKit
attribute [local go_sem ↓] Go.wp_at_zero Go.wp_at_succ

theorem coll_end {d : MacP} {l : List UInt8} {st : StP} (h : (collP d l st).2.1 = none) (h0 : (collP d l st).1 = 0) : (collP d l st).2.2 = { st with macros := st.macros ++ [d] } := by
  unfold collP at h h0 ⊢
  split at h0
  · cases h0
  rename_i h1; rw [if_neg h1] at h ⊢
  split at h0
  · rename_i h2
    rw [if_pos h2]
    split at h0
    · rename_i h3; rw [if_pos h3]
    · cases h0
  · rename_i h2; rw [if_neg h2] at h; cases h
theorem coll_mid {d d' : MacP} {l : List UInt8} {st : StP} (h : (collP d l st).2.1 = some d') : d' = { d with lines := d.lines ++ [l] } ∧ (collP d l st).2.2 = st := by
  unfold collP at h ⊢
  split at h
  · cases h
  rename_i h1; rw [if_neg h1]
  split at h
  · split at h <;> cases h
  rename_i h2; rw [if_neg h2]
  injection h with h
  exact ⟨h.symm, rfl⟩

set_option maxRecDepth 100000 in
set_option maxHeartbeats 6400000 in
theorem goesT_any (w : World) (B x r : Nat) (lv pv : Value) (ls : List ByteArray) (hrow : RowT w 130 x [lv, .int .i64 0, .pointer none, pv, .int .i64 0, .slice none 0 0, .pointer none]) (hBx : B ≤ x) (hst : RdSt w B r noSt) (hls : StrV w 0 lv ls) (hlen : ls.length ≤ 3001) (hsz : ∀ j (h : j < ls.length), ls[j].size ≤ 100) (hB : B ≤ w.heap.size) :
    Calls Tryz.prog 62 #[.pointer (some ⟨x, 0, none⟩), .pointer (some ⟨r, 0, none⟩)] w (TPost w B r (blockP (callN 8) none 1 (ls.map L) 0 [] none noSt)) := by
  obtain ⟨R, hR⟩ : ∃ R, blockP (callN 8) none 1 (ls.map L) 0 [] none noSt = R := ⟨_, rfl⟩
  rw [hR]
  have HC := hid (goes_all 8 (Nat.le_refl _)).1
  have HI := hid (show TInv w B x r lv pv ls R 0 w from Or.inl ⟨.slice none 0 0, [], noSt, ⟨hrow, World.ownsRow_nil _ _ _ _, by simp, hBx⟩, hst, ⟨(fun m hm => by cases hm), Nat.zero_le _, Nat.zero_le _, Nat.zero_le _, Nat.zero_le _, Nat.zero_le _⟩, hls, Below.refl _ _, by rw [List.drop_zero]; exact hR.symm⟩)
  have HSZ := hid hsz
  have c1 : w.cell? ⟨x, 1, none⟩ = some (.int .i64 0) := hrow.cell 1 (by simp)
  obtain ⟨ba, bc, hbv⟩ := hls.form
  subst hbv
  clear hR hrow hst hls hsz
  go_enter Tryz.func62, Tryz.ntmps62
  go_wp2_with fail
  go_loopw [4, 5] (fun a i wr => ∃ j aN : Nat, j ≤ ls.length ∧ a = .int .i64 (aN : Nat) ∧ i = .int .i64 j ∧ ((aN = j ∧ TInv w B x r (.slice ba ls.length bc) pv ls R j wr) ∨ TErr w B x r (.slice ba ls.length bc) pv R wr)) (fun _ i _ => ls.length - (intOf i).toNat)
  case atStart => exact ⟨0, 0, Nat.zero_le _, rfl, rfl, Or.inl ⟨rfl, HI.out⟩⟩
  case round =>
    obtain ⟨j, aN, hj, rfl, rfl, hinv⟩ := hrel
    clear c1 HI
    rcases hinv with ⟨haj, hinv⟩ | ⟨h0, hre, hbr, hbw⟩
    · obtain rfl : j = aN := haj.symm
      rcases hinv with ⟨vo, opens, st1, hk, hst, hok1, hstr, hbw, hRe⟩ | ⟨w0, vo, opens, st1, gd, nm, qv, ps, dl, bs, hk0, hst0, ⟨i1, hi1, hok1⟩, hstr0, hbw0, hkp, hrowx, hdef, hmac, hbsj, hRe⟩
      · have c0 : wr.cell? ⟨x, 0, none⟩ = some (.slice ba ls.length bc) := hk.row.cell 0 (by simp)
        have c2 : wr.cell? ⟨x, 2, none⟩ = some (.pointer none) := hk.row.cell 2 (by simp)
        have c6 : wr.cell? ⟨x, 6, none⟩ = some (.pointer none) := hk.row.cell 6 (by simp)
        have c5 : wr.cell? ⟨x, 5, none⟩ = some vo := hk.row.cell 5 (by simp)
        obtain ⟨_, _, _, _, _, _, _, hxa, hste⟩ := id hst
        have e4 : wr.cell? ⟨r, 4, none⟩ = some (.int .i64 0) := hxa.row.cell 4 (by simp)
        have HK := hid hk
        have HST := hid hst
        have HOK := hid hok1
        have HSTR := hid hstr
        have HBW := hid hbw
        have HXA := hid hxa
        have hBr : B ≤ wr.heap.size := Nat.le_trans hB hbw.size
        clear hk hst hok1 hstr hbw hxa hste
        by_cases hlt : j < ls.length
        · have kd : decide ((j : Int) < ls.length) = true := by simp; omega
          have ij0 : (0 : Int) ≤ (j : Int) := Int.natCast_nonneg _
          have ij1 : (j : Int) < (ls.length : Int) := by omega
          obtain ⟨bl, offl, cl, hv, hbll, cj⟩ := HSTR.out.cell j hlt
          injection hv with hv1 _ hv2
          subst hv1 hv2
          have hl1 := HSZ.out j hlt
          rw [List.drop_eq_getElem_cons hlt, List.map_cons] at hRe
          obtain ⟨l, hl⟩ : ∃ l, ls[j] = l := ⟨_, rfl⟩
          rw [hl] at cj hl1 hRe
          clear hl
          simp only [blockP, readP, cutL_id (cutL_noSemi (L l))] at hRe
          have HCUT := hid (cut_any l wr (by unfold maxLen; omega))
          have HOV := hid (over_any wr B x _ _ _ _ _ vo _ opens HK.out)
          have HRE := hid hRe
          clear hRe
          obtain ⟨ov2, hov2⟩ : ∃ o, overP opens = o := ⟨_, rfl⟩
          rw [hov2] at HOV HRE
          cases ov2 with
          | true =>
            have hre : R = if (passP (wordsP (cutL (L l))) opens st1).1 ≠ 0 then ((passP (wordsP (cutL (L l))) opens st1).1, j + 1, st1) else blockP (callN 8) none 1 ((ls.drop (j + 1)).map L) (j + 1) (passP (wordsP (cutL (L l))) opens st1).2 none st1 := HRE.out
            clear HRE
            have HRE := hid hre
            clear hre
            go_wp2_with (first | (go_at_call 88; refine HCUT.out.mono ?_; rintro e w' ⟨t, ht, hts, rfl, hw'⟩; obtain rfl := hw'.symm) | (go_at_call 89; refine HOV.out.mono ?_; rintro e w' ⟨rfl, hw'⟩; obtain rfl := hw'.symm))
            rw [show ((j : Int) + 1) = ((j + 1 : Nat) : Int) from by omega]
            have hpa := passes_any wr B x r _ _ _ _ _ vo opens (j + 1) st1 t j HK.out HST.out (by omega) (by rw [ht]; exact cutL_noSemi _) HOK.out hBr
            rw [ht] at hpa
            refine hpa.mono ?_
            clear hpa
            rintro e w4 ⟨rfl, hp2, hp3, hp4⟩
            have hb4 : Below B w w4 := HBW.out.trans (hp2.below hBr)
            have HNI := hid (show TInv w B x r (.slice (some ⟨bl, offl, none⟩) ls.length bc) pv ls R (j + 1) w4 ∨ TErr w B x r (.slice (some ⟨bl, offl, none⟩) ls.length bc) pv R w4 by
              by_cases h0 : (passP (wordsP (cutL (L l))) opens st1).1 = 0
              · obtain ⟨⟨vo', hk', hg'⟩, hr'⟩ := hp3 h0
                refine Or.inl (Or.inl ⟨vo', _, st1, hk', hr', HOK.out.later (by omega) (by omega), HSTR.out.fq hp2, hb4, ?_⟩)
                have h6 := HRE.out
                rw [if_neg (by simp [h0])] at h6
                exact h6
              · have h6 := HRE.out
                rw [if_pos h0] at h6
                rw [h6]
                exact Or.inr ⟨h0, (hp4 h0).1, (hp4 h0).2, hb4⟩)
            clear hp2 hp3 hp4 hb4 ht hts
            go_wp2_with fail
            go_roundw
            case rel => exact ⟨j + 1, j + 1, by omega, rfl, by go_num, HNI.out.imp (fun h => ⟨rfl, h⟩) id⟩
            case measure => simp [intOf]; omega
          | false =>
            have hre : R = if (lineP (callN 8) false (wordsP (cutL (L l))) (j + 1) opens st1).1 ≠ 0 then ((lineP (callN 8) false (wordsP (cutL (L l))) (j + 1) opens st1).1, j + 1, st1) else blockP (callN 8) none 1 ((ls.drop (j + 1)).map L) (j + 1) (lineP (callN 8) false (wordsP (cutL (L l))) (j + 1) opens st1).2.1 (lineP (callN 8) false (wordsP (cutL (L l))) (j + 1) opens st1).2.2.1 (lineP (callN 8) false (wordsP (cutL (L l))) (j + 1) opens st1).2.2.2 := HRE.out
            clear HRE
            have HRE := hid hre
            clear hre
            go_wp2_with (first | (go_at_call 88; refine HCUT.out.mono ?_; rintro e w' ⟨t, ht, hts, rfl, hw'⟩; obtain rfl := hw'.symm) | (go_at_call 89; refine HOV.out.mono ?_; rintro e w' ⟨rfl, hw'⟩; obtain rfl := hw'.symm))
            rw [show ((j : Int) + 1) = ((j + 1 : Nat) : Int) from by omega]
            have hdo := does_any 8 HC.out wr B x r (.slice (some ⟨bl, offl, none⟩) ls.length bc) (.int .i64 0) pv vo none opens (j + 1) st1 t j HK.out HST.out (by omega) (by rw [ht]; exact cutL_noSemi _) HOK.out hBr
            rw [ht] at hdo
            refine hdo.mono ?_
            clear hdo
            rintro e w4 ⟨rfl, hp2, hp3, hp4⟩
            have HNI := hid (show TInv w B x r (.slice (some ⟨bl, offl, none⟩) ls.length bc) pv ls R (j + 1) w4 ∨ TErr w B x r (.slice (some ⟨bl, offl, none⟩) ls.length bc) pv R w4 by
              by_cases h0 : (lineP (callN 8) false (wordsP (cutL (L l))) (j + 1) opens st1).1 = 0
              · have h6 := HRE.out
                rw [if_neg (by simp [h0])] at h6
                cases hdf : (lineP (callN 8) false (wordsP (cutL (L l))) (j + 1) opens st1).2.2.1 with
                | none =>
                  obtain ⟨hf4, ⟨vo', hk', hg'⟩, hr'⟩ := hp3 h0 hdf
                  rw [hdf] at h6
                  exact Or.inl (Or.inl ⟨vo', _, _, hk', hr', (line_ok (call_ok 8 j) HOK.out h0).later (by omega) (by omega), HSTR.out.fq hf4, HBW.out.trans (hf4.below hBr), h6⟩)
                | some d =>
                  obtain ⟨q1, q2, w1, gd, nm, qv, ps, hb1, rfl, hkp, hrx, hgd, hrm, hqs, hlt1⟩ := hp4 h0 d hdf
                  have hmo := line_def ⟨L l, by rw [L_length]; exact hl1, rfl⟩ hdf
                  have q1' : (lineP (callN 8) false (wordsP (cutL (L l))) (j + 1) opens st1).2.1 = opens := q1
                  have q2' : (lineP (callN 8) false (wordsP (cutL (L l))) (j + 1) opens st1).2.2.2 = st1 := q2
                  rw [hdf, q1', q2'] at h6
                  exact Or.inl (Or.inr ⟨w1, vo, opens, st1, gd, nm, qv, ps, .slice none 0 0, [], HK.out.below hb1, HST.out.below hb1, ⟨j, by omega, HOK.out⟩, HSTR.out.below hb1, HBW.out.trans (hb1.mono hBr), hkp, hrx, ⟨hrm, hgd, hqs, World.ownsRow_nil _ _ _ _, hlt1⟩, hmo, Nat.zero_le _, h6⟩)
              · have h6 := HRE.out
                rw [if_pos h0] at h6
                rw [h6]
                exact Or.inr ⟨h0, (hp2 h0).2.1, (hp2 h0).2.2, HBW.out.trans ((hp2 h0).1.below hBr)⟩)
            clear hp2 hp3 hp4 ht hts
            go_wp2_with fail
            go_roundw
            case rel => exact ⟨j + 1, j + 1, by omega, rfl, by go_num, HNI.out.imp (fun h => ⟨rfl, h⟩) id⟩
            case measure => simp [intOf]; omega
        · have kd : decide ((j : Int) < ls.length) = false := by simp; omega
          rw [List.drop_eq_nil_of_le (by omega), List.map_nil] at hRe
          simp only [blockP, Option.isNone_none, and_true] at hRe
          obtain ⟨av, cv, hvv⟩ := own_form HK.out.own
          subst hvv
          by_cases hop : opens = []
          · rw [if_pos hop] at hRe
            subst hop
            have HRE := hid hRe
            clear hRe
            go_wp2_with fail
            first | go_end0 | refine bodyPost_ret (results_none rfl _ _ _) rfl ?_
            rw [HRE.out]
            exact ⟨rfl, HBW.out, fun _ => HST.out, fun c => absurd rfl c⟩
          · rw [if_neg hop] at hRe
            have hlo : 0 < opens.length := List.length_pos_iff.2 hop
            have ko : decide ((0 : Int) < opens.length) = true := by simp; omega
            have HRE := hid hRe
            clear hRe hop
            go_wp2_with (first | (go_at_call 60; refine (bad_any _ r _ _ _ _ _ 2 j HXA.out.row).mono ?_; rintro e w4 ⟨rfl, rfl⟩))
            first | go_end0 | refine bodyPost_ret (results_none rfl _ _ _) rfl ?_
            obtain ⟨p1, p2⟩ := bad_post (er := 2) (at_ := j) HXA.out.row HXA.out.at_
            rw [HRE.out]
            exact ⟨rfl, HBW.out.trans (p1.below hBr), (fun c => by cases c), fun _ => p2⟩
      · have hkB : BkAt wr B x (.slice ba ls.length bc) (.int .i64 0) (.pointer none) pv (.int .i64 0) vo (.pointer (some ⟨gd, 0, none⟩)) opens := ⟨hrowx, ownsRow_keeps hk0.own hkp (fun g hg => by have h9 := own_row_ne hk0.own hk0.row (by decide); simp only [List.mem_singleton]; intro e; exact h9 (by rw [hg, e])), hk0.few, hk0.at_⟩
        obtain ⟨vm, vn, vl, ms, ns, outs, calls, hxa0, hste⟩ := hst0
        have hxa := hxa0.keeps hkp hk0.row
        have HST := hid (show RdSt wr B r st1 from ⟨vm, vn, vl, ms, ns, outs, calls, hxa, hste⟩)
        have HSTR := hid (hstr0.keeps hkp (fun b cur hb => by simpa using RowT.notStr hk0.row (by decide) b cur hb))
        have hBw : B ≤ w0.heap.size := Nat.le_trans hB hbw0.size
        have HBW := hid (hbw0.trans (hkp.below hBw (fun q hq => by rw [List.mem_singleton.1 hq]; exact hBx)))
        have hBr : B ≤ wr.heap.size := Nat.le_trans hB HBW.out.size
        have c0 : wr.cell? ⟨x, 0, none⟩ = some (.slice ba ls.length bc) := hkB.row.cell 0 (by simp)
        have c2 : wr.cell? ⟨x, 2, none⟩ = some (.pointer none) := hkB.row.cell 2 (by simp)
        have c6 : wr.cell? ⟨x, 6, none⟩ = some (.pointer (some ⟨gd, 0, none⟩)) := hkB.row.cell 6 (by simp)
        have c5 : wr.cell? ⟨x, 5, none⟩ = some vo := hkB.row.cell 5 (by simp)
        have e4 : wr.cell? ⟨r, 4, none⟩ = some (.int .i64 0) := hxa.row.cell 4 (by simp)
        have HK := hid hkB
        have HXA := hid hxa
        have HK0 := hid hk0
        have HST0 := hid (show RdSt w0 B r st1 from ⟨vm, vn, vl, ms, ns, outs, calls, hxa0, hste⟩)
        have HOK := hid hok1
        have HSTR0 := hid hstr0
        have HBW0 := hid hbw0
        have HKP := hid hkp
        have HDEF := hid hdef
        have HMAC := hid hmac
        have HRX := hid hrowx
        have HRE := hid hRe
        clear hkB hxa hxa0 hste hk0 hok1 hstr0 hbw0 hkp hdef hmac hrowx hRe
        by_cases hlt : j < ls.length
        · have kd : decide ((j : Int) < ls.length) = true := by simp; omega
          have ij0 : (0 : Int) ≤ (j : Int) := Int.natCast_nonneg _
          have ij1 : (j : Int) < (ls.length : Int) := by omega
          obtain ⟨bl, offl, cl, hv, hbll, cj⟩ := HSTR.out.cell j hlt
          injection hv with hv1 _ hv2
          subst hv1 hv2
          have hl1 := HSZ.out j hlt
          have hRe := HRE.out
          clear HRE
          rw [List.drop_eq_getElem_cons hlt, List.map_cons] at hRe
          obtain ⟨l, hl⟩ : ∃ l, ls[j] = l := ⟨_, rfl⟩
          rw [hl] at cj hl1 hRe
          clear hl
          simp only [blockP] at hRe
          have HCUT := hid (cut_any l wr (by unfold maxLen; omega))
          have HOV := hid (over_any wr B x _ _ _ _ _ vo _ opens HK.out)
          have HRE := hid hRe
          clear hRe
          go_wp2_with (first | (go_at_call 88; refine HCUT.out.mono ?_; rintro e w' ⟨t, ht, hts, rfl, hw'⟩; obtain rfl := hw'.symm) | (go_at_call 89; refine HOV.out.mono ?_; rintro e w' ⟨rfl, hw'⟩; obtain rfl := hw'.symm))
          rw [show ((j : Int) + 1) = ((j + 1 : Nat) : Int) from by omega]
          have hco := collects_any wr B x r w0.heap.size _ _ _ _ _ vo opens (j + 1) gd nm qv ps dl bs st1 t i1 HK.out HST.out HDEF.out HKP.out.size (by omega) (by omega) HOK.out hBr
          rw [ht] at hco
          refine hco.mono ?_
          clear hco
          rintro e w4 ⟨rfl, hp2, hp3⟩
          have HNI := hid (show TInv w B x r (.slice (some ⟨bl, offl, none⟩) ls.length bc) pv ls R (j + 1) w4 ∨ TErr w B x r (.slice (some ⟨bl, offl, none⟩) ls.length bc) pv R w4 by
            by_cases h0 : (collP ⟨L nm, ps.map L, bs.map L⟩ (cutL (L l)) st1).1 = 0
            · have h6 := HRE.out
              rw [if_neg (by simp [h0])] at h6
              obtain ⟨h7, h8⟩ := hp3 h0
              cases hdf : (collP ⟨L nm, ps.map L, bs.map L⟩ (cutL (L l)) st1).2.1 with
              | none =>
                obtain ⟨hf4, hr', hk'⟩ := h8 hdf
                rw [hdf] at h6
                have hce := coll_end hdf h0
                refine Or.inl (Or.inl ⟨vo, opens, _, hk', hr', ?_, HSTR.out.fq hf4, HBW.out.trans (hf4.below hBr), h6⟩)
                rw [hce]
                refine ⟨fun q hq => ?_, HOK.out.names, HOK.out.out, HOK.out.calls, ?_, by omega⟩
                · rcases List.mem_append.1 hq with h9 | h9
                  · exact HOK.out.macs q h9
                  · rw [List.mem_singleton.1 h9]; exact HMAC.out
                · have h9 := HOK.out.few
                  show (st1.macros ++ [_]).length ≤ _
                  rw [List.length_append, List.length_singleton]
                  omega
              | some d =>
                obtain ⟨hb4, dl', bs', hd', hbl', hde⟩ := h7 d hdf
                obtain ⟨hcm, hcs⟩ := coll_mid hdf
                rw [hdf, hcs, hde] at h6
                have hmo : MacOk ⟨L nm, ps.map L, bs'.map L⟩ := by
                  rw [← hde, hcm]
                  obtain ⟨m1, m2, m3, m4⟩ := HMAC.out
                  refine ⟨m1, m2, ?_, fun q hq => ?_⟩
                  · show (bs.map L ++ [_]).length ≤ 3001
                    rw [List.length_append, List.length_map, List.length_singleton]
                    omega
                  · rcases List.mem_append.1 hq with h9 | h9
                    · exact m4 q h9
                    · rw [List.mem_singleton.1 h9]
                      exact ⟨by have h10 := cutL_le (L l); rw [L_length] at h10; omega, cutL_id (cutL_noSemi _)⟩
                refine Or.inl (Or.inr ⟨w0, vo, opens, st1, gd, nm, qv, ps, dl', bs', HK0.out, HST0.out, ⟨i1, by omega, HOK.out⟩, HSTR0.out, HBW0.out, HKP.out.then_below hb4, ?_, hd', hmo, by omega, h6⟩)
                have h9 := HRX.out
                unfold RowT at h9 ⊢
                rw [hb4.block x HK0.out.row.lt]
                exact h9
            · have h6 := HRE.out
              rw [if_pos h0] at h6
              rw [h6]
              obtain ⟨hf4, he4, hbr4⟩ := hp2 h0
              exact Or.inr ⟨h0, he4, hbr4, HBW.out.trans (hf4.below hBr)⟩)
          clear hp2 hp3 ht hts
          go_wp2_with fail
          go_roundw
          case rel => exact ⟨j + 1, j + 1, by omega, rfl, by go_num, HNI.out.imp (fun h => ⟨rfl, h⟩) id⟩
          case measure => simp [intOf]; omega
        · have kd : decide ((j : Int) < ls.length) = false := by simp; omega
          have hRe := HRE.out
          rw [List.drop_eq_nil_of_le (by omega), List.map_nil] at hRe
          simp only [blockP, Option.isNone_some, Bool.false_eq_true, and_false, if_false] at hRe
          clear HRE
          have HRE := hid hRe
          obtain ⟨av, cv, hvv⟩ := own_form HK.out.own
          subst hvv
          clear hRe
          have HFIN := hid (show TPost w B r R (.returned (.tuple #[])) ((wr.setCell ⟨r, 4, none⟩ (.int .i64 2)).setCell ⟨r, 5, none⟩ (.int .i64 (j : Nat))) by
            obtain ⟨p1, p2⟩ := bad_post (er := 2) (at_ := j) HXA.out.row HXA.out.at_
            rw [HRE.out]
            exact ⟨rfl, HBW.out.trans (p1.below hBr), (fun c => by cases c), fun _ => p2⟩)
          by_cases hop : opens = []
          · subst hop
            go_wp2_with (first | (go_at_call 60; refine (bad_any _ r _ _ _ _ _ 2 j HXA.out.row).mono ?_; rintro e w4 ⟨rfl, rfl⟩))
            first | go_end0 | refine bodyPost_ret (results_none rfl _ _ _) rfl ?_
            exact HFIN.out
          · have hlo : 0 < opens.length := List.length_pos_iff.2 hop
            have ko : decide ((0 : Int) < opens.length) = true := by simp; omega
            clear hop
            go_wp2_with (first | (go_at_call 60; refine (bad_any _ r _ _ _ _ _ 2 j HXA.out.row).mono ?_; rintro e w4 ⟨rfl, rfl⟩))
            first | go_end0 | refine bodyPost_ret (results_none rfl _ _ _) rfl ?_
            exact HFIN.out
    · obtain ⟨q1, q2, q3, q4, hre⟩ := hre
      obtain ⟨ao, no, co, po, hbr⟩ := hbr
      obtain ⟨er, her⟩ : ∃ er, R.1 = er := ⟨_, rfl⟩
      rw [her] at h0 hre
      have e4 : wr.cell? ⟨r, 4, none⟩ = some (.int .i64 er) := hre.cell 4 (by simp)
      have c0 : wr.cell? ⟨x, 0, none⟩ = some (.slice ba ls.length bc) := hbr.cell 0 (by simp)
      have c5 : wr.cell? ⟨x, 5, none⟩ = some (.slice ao no co) := hbr.cell 5 (by simp)
      have c6 : wr.cell? ⟨x, 6, none⟩ = some (.pointer po) := hbr.cell 6 (by simp)
      have k0 : (er == 0) = false := by rw [beq_eq_false_iff_ne]; exact h0
      have HBA := hid (bad_again wr r q1 q2 q3 q4 _ er 2 aN hre h0)
      have HFIN := hid (show TPost w B r R (.returned (.tuple #[])) wr from ⟨rfl, hbw, fun c => absurd (her.symm.trans c) h0, fun _ => ⟨q1, q2, q3, q4, by rw [her]; exact hre⟩⟩)
      clear hre hbr h0 her hbw
      have hor : decide ((0 : Int) < no) = true ∨ (decide ((0 : Int) < no) = false ∧ ∃ pp, po = some pp) ∨ (decide ((0 : Int) < no) = false ∧ po = none) := by
        cases hd : decide ((0 : Int) < no) with
        | true => exact Or.inl rfl
        | false =>
          cases po with
          | none => exact Or.inr (Or.inr ⟨rfl, rfl⟩)
          | some pp => exact Or.inr (Or.inl ⟨rfl, pp, rfl⟩)
      by_cases hlt : j < ls.length
      · have kd : decide ((j : Int) < ls.length) = true := by simp; omega
        rcases hor with ko | ⟨ko, pp, rfl⟩ | ⟨ko, rfl⟩
        all_goals
          go_wp2_with (first | (go_at_call 60; refine HBA.out.mono ?_; rintro e w4 ⟨rfl, hw4⟩; obtain rfl := hw4.symm))
          all_goals
            first | go_end0 | refine bodyPost_ret (results_none rfl _ _ _) rfl ?_
            exact HFIN.out
      · have kd : decide ((j : Int) < ls.length) = false := by simp; omega
        rcases hor with ko | ⟨ko, pp, rfl⟩ | ⟨ko, rfl⟩
        all_goals
          go_wp2_with (first | (go_at_call 60; refine HBA.out.mono ?_; rintro e w4 ⟨rfl, hw4⟩; obtain rfl := hw4.symm))
          all_goals
            first | go_end0 | refine bodyPost_ret (results_none rfl _ _ _) rfl ?_
            exact HFIN.out

end Go.Proofs.YtcepppilgncdmaaGreatDoor
