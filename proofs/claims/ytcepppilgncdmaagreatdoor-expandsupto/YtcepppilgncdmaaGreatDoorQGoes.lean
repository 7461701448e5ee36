/-
  How the document's own package (masonref) goes through a macro's lines.
-/
import Derived.Test.YtcepppilgncdmaaGreatDoorQPass
import Derived.Test.YtcepppilgncdmaaGreatDoorQOk
namespace Go.Proofs.YtcepppilgncdmaaGreatDoor
open Go.RowKit
attribute [local go_sem ↓] Go.wp_at_zero Go.wp_at_succ

/-- What is so where a macro's lines are gone through, behind some of them. -/
def GInv (n : Nat) (w : World) (B x r at_ k : Nat) (lv ov : Value) (m : MacQ) (os : List ByteArray) (R : Int × Nat × StP) (j : Nat) (wr : World) : Prop :=
  (∃ vo opens st, BkAt wr B x lv (.int .i64 (at_ : Nat)) (.pointer (some ⟨m.g, 0, none⟩)) ov (.int .i64 ((8 - n : Nat) : Int)) vo (.pointer none) opens ∧ (∀ g, vo.ownBlock = some g → w.heap.size ≤ g) ∧ RdSt wr B r st ∧ StOk st k ∧ Fq B [x] w wr ∧ R = blockP (callN n) (some (m.ps.map L, os.map L)) 0 ((m.bs.drop j).map L) at_ opens none st) ∨
    (R.1 ≠ 0 ∧ RdErr wr r R.1 at_ ∧ BkRow wr x lv (.int .i64 (at_ : Nat)) (.pointer (some ⟨m.g, 0, none⟩)) ov (.int .i64 ((8 - n : Nat) : Int)) ∧ Fq B [x] w wr)
theorem fq_step {B x : Nat} {w wr w' : World} {vo : Value} (h : Fq B [x] w wr) (ho : ∀ g, vo.ownBlock = some g → w.heap.size ≤ g) (h2 : Fq B (bkM x vo) wr w') : Fq B [x] w w' :=
  h.trans' h2 (fun i hi => by
    unfold bkM at hi
    rcases List.mem_cons.1 hi with rfl | h3
    · exact Or.inl (by simp)
    · exact Or.inr (ho i (by simpa using h3)))

theorem fillP_noSemi (ps os : List (List UInt8)) (ho : ∀ o ∈ os, noSemi o) : ∀ (n : Nat) (l t : List UInt8), noSemi l → fillP ps os n l = some t → noSemi t
  | 0, l, t, _, h => by
    simp only [fillP, Option.some.injEq] at h
    subst h
    intro c hc; simp at hc
  | n + 1, [], t, _, h => by
    simp only [fillP, Option.some.injEq] at h
    subst h
    intro c hc; simp at hc
  | n + 1, c :: r, t, hl, h => by
    simp only [fillP] at h
    split at h
    · split at h
      · cases h
      · rename_i i q _
        obtain ⟨u, hu, rfl⟩ := Option.map_eq_some_iff.1 h
        have h1 := fillP_noSemi ps os ho n (r.drop q) u (fun d hd => hl d (List.mem_cons_of_mem _ (List.mem_of_mem_drop hd))) hu
        intro d hd
        rcases List.mem_append.1 hd with h2 | h2
        · rw [List.getD_eq_getElem?_getD] at h2
          cases hg : os[i]? with
          | none => rw [hg] at h2; simp at h2
          | some o => rw [hg] at h2; exact ho o (List.mem_of_getElem? hg) d h2
        · exact h1 d h2
    · obtain ⟨u, hu, rfl⟩ := Option.map_eq_some_iff.1 h
      have h1 := fillP_noSemi ps os ho n r u (fun d hd => hl d (List.mem_cons_of_mem _ hd)) hu
      intro d hd
      rcases List.mem_cons.1 hd with rfl | h2
      · exact hl d (by simp)
      · exact h1 d h2
theorem filledP_ok {ps os : List (List UInt8)} {l t : List UInt8} (ho : ∀ o ∈ os, noSemi o) (hl : noSemi l) (h : filledP ps os l = (0, t)) : noSemi t ∧ t.length ≤ 80 := by
  unfold filledP at h
  cases hf : fillP ps os l.length l with
  | none => rw [hf] at h; cases h
  | some u =>
    rw [hf] at h
    simp only at h
    split at h
    · cases h
    · rename_i h8
      injection h with _ h
      subst h
      exact ⟨fillP_noSemi ps os ho _ l u hl hf, by omega⟩

set_option maxRecDepth 100000 in
set_option maxHeartbeats 3200000 in
theorem goesM_of (n : Nat) (hc : CallsOk n) : GoesM n := by
  intro w B x r at_ k ov m os st C hrow hBx hm hmo hso hlen hse hx hok hB
  obtain ⟨R, hR⟩ : ∃ R, blockP (callN n) (some (m.ps.map L, os.map L)) 0 (m.bs.map L) at_ [] none st = R := ⟨_, rfl⟩
  rw [hR]
  obtain ⟨ba, bc, hbv⟩ := hm.bs.form
  rw [hbv] at hrow
  have hmx : m.g ≠ x := by
    intro e
    have h1 := hm.row
    rw [e] at h1
    unfold RowT at h1 hrow
    rw [h1] at hrow
    injection hrow with hrow
    injection hrow with _ hrow
    exact absurd hrow (by decide)
  have HI := hid (show GInv n w B x r at_ k (.slice ba m.bs.length bc) ov m os R 0 w from Or.inl ⟨.slice none 0 0, [], st, ⟨hrow, World.ownsRow_nil _ _ _ _, by simp, hBx⟩, (fun g h => by cases h), hx, hok, Fq.refl _ _ _, by rw [List.drop_zero]; exact hR.symm⟩)
  have HM := hid hm
  have HMO := hid hmo
  have HSO := hid hso
  have HLEN := hid hlen
  have HSE := hid hse
  have HC := hid hc
  have hbl : m.bs.length ≤ 3001 := by simpa [plainQ] using hmo.2.2.1
  have HLN := hid (show ∀ j (h : j < m.bs.length), m.bs[j].size ≤ 100 ∧ cutL (L m.bs[j]) = L m.bs[j] from fun j h => by
    have := hmo.2.2.2 (L m.bs[j]) (by simp only [plainQ]; exact List.mem_map.2 ⟨_, List.getElem_mem h, rfl⟩)
    rw [L_length] at this
    exact this)
  have HBV := hid hbv
  have c1 : w.cell? ⟨x, 1, none⟩ = some (.int .i64 (at_ : Nat)) := hrow.cell 1 (by simp)
  clear hR hbv hrow hm hmo hso hlen hse hx hok hc
  go_enter Tryz.func62, Tryz.ntmps62
  go_wp2_with fail
  go_loopw [4, 5] (fun a i wr => ∃ j : Nat, j ≤ m.bs.length ∧ a = .int .i64 (at_ : Nat) ∧ i = .int .i64 j ∧ GInv n w B x r at_ k (.slice ba m.bs.length bc) ov m os R j wr) (fun _ i _ => m.bs.length - (intOf i).toNat)
  case atStart => exact ⟨0, Nat.zero_le _, rfl, rfl, HI.out⟩
  case round =>
    obtain ⟨j, hj, rfl, rfl, hinv⟩ := hrel
    clear c1 HI
    rcases hinv with ⟨vo, opens, st1, hk, hvo, hst, hok1, hf, hRe⟩ | ⟨h0, hre, hbr, hf⟩
    · have c0 : wr.cell? ⟨x, 0, none⟩ = some (.slice ba m.bs.length bc) := hk.row.cell 0 (by simp)
      have c2 : wr.cell? ⟨x, 2, none⟩ = some (.pointer (some ⟨m.g, 0, none⟩)) := hk.row.cell 2 (by simp)
      have c6 : wr.cell? ⟨x, 6, none⟩ = some (.pointer none) := hk.row.cell 6 (by simp)
      have c5 : wr.cell? ⟨x, 5, none⟩ = some vo := hk.row.cell 5 (by simp)
      obtain ⟨_, _, _, _, _, _, _, hxa, _⟩ := id hst
      have e4 : wr.cell? ⟨r, 4, none⟩ = some (.int .i64 0) := hxa.row.cell 4 (by simp)
      have HK := hid hk
      have HVO := hid hvo
      have HST := hid hst
      have HOK := hid hok1
      have HF := hid hf
      have HXA := hid hxa
      have HMR := hid (HM.out.fq hf (by simpa using hmx))
      have HSR := hid (HSO.out.fq hf)
      have hBr : B ≤ wr.heap.size := Nat.le_trans hB hf.size
      clear hk hvo hst hok1 hf hxa
      by_cases hlt : j < m.bs.length
      · have kd : decide ((j : Int) < m.bs.length) = true := by simp; omega
        have ij0 : (0 : Int) ≤ (j : Int) := Int.natCast_nonneg _
        have ij1 : (j : Int) < (m.bs.length : Int) := by omega
        obtain ⟨bl, offl, cl, hv, hbll, cj⟩ := HMR.out.bs.cell j hlt
        rw [HBV.out] at hv
        injection hv with hv1 _ hv2
        subst hv1 hv2
        obtain ⟨hls, hlc⟩ := HLN.out j hlt
        rw [List.drop_eq_getElem_cons hlt, List.map_cons] at hRe
        obtain ⟨l, hl⟩ : ∃ l, m.bs[j] = l := ⟨_, rfl⟩
        rw [hl] at cj hls hlc hRe
        clear hl
        have hcut := cut_any l wr (by unfold maxLen; omega)
        have hnl : noSemi (L l) := by rw [← hlc]; exact cutL_noSemi _
        rw [hlc] at hcut
        simp only [blockP, hlc] at hRe
        have HCUT := hid hcut
        have HNL := hid hnl
        have HOV := hid (over_any wr B x _ _ _ _ _ vo _ opens HK.out)
        have HRE := hid hRe
        clear hcut hnl hlc hRe
        obtain ⟨ov2, hov2⟩ : ∃ o, overP opens = o := ⟨_, rfl⟩
        rw [hov2] at HOV HRE
        cases ov2 with
        | true =>
          have hre : R = if (passP (wordsP (L l)) opens st1).1 ≠ 0 then ((passP (wordsP (L l)) opens st1).1, at_ + 0, st1) else blockP (callN n) (some (m.ps.map L, os.map L)) 0 ((m.bs.drop (j + 1)).map L) (at_ + 0) (passP (wordsP (L l)) opens st1).2 none st1 := HRE.out
          clear HRE
          have HRE := hid hre
          clear hre
          go_wp2_with (first | (go_at_call 88; refine HCUT.out.mono ?_; rintro e w' ⟨t, ht, hts, rfl, hw'⟩; obtain rfl : l = t := (L_inj ht).symm; obtain rfl := hw'.symm; clear ht hts) | (go_at_call 89; refine HOV.out.mono ?_; rintro e w' ⟨rfl, hw'⟩; obtain rfl := hw'.symm))
          refine (passes_any wr B x r _ _ _ _ _ vo opens at_ st1 l k HK.out HST.out hls HNL.out HOK.out hBr).mono ?_
          rintro e w4 ⟨rfl, hp2, hp3, hp4⟩
          have HNI := hid (show GInv n w B x r at_ k (.slice (some ⟨bl, offl, none⟩) m.bs.length bc) ov m os R (j + 1) w4 by
            by_cases h0 : (passP (wordsP (L l)) opens st1).1 = 0
            · obtain ⟨⟨vo', hk', hg'⟩, hr'⟩ := hp3 h0
              refine Or.inl ⟨vo', _, st1, hk', fun g hg => ?_, hr', HOK.out, fq_step HF.out HVO.out hp2, ?_⟩
              · rcases hg' g hg with h5 | h5
                · exact HVO.out g h5
                · exact Nat.le_trans HF.out.size h5
              · have h6 := HRE.out
                rw [if_neg (by simp [h0])] at h6
                exact h6
            · have h6 := HRE.out
              rw [if_pos h0] at h6
              rw [h6]
              exact Or.inr ⟨h0, (hp4 h0).1, (hp4 h0).2, fq_step HF.out HVO.out hp2⟩)
          clear hp2 hp3 hp4
          go_wp2_with fail
          go_roundw
          case rel => exact ⟨j + 1, by omega, rfl, by go_num, HNI.out⟩
          case measure => simp [intOf]; omega
        | false =>
          have hre := HRE.out
          rw [if_neg (by simp)] at hre
          obtain ⟨fp, hfp⟩ : ∃ fp, filledP (m.ps.map L) (os.map L) (L l) = fp := ⟨_, rfl⟩
          obtain ⟨fe, ft⟩ := fp
          have hfl := filled_any wr x _ _ ov _ _ _ m os l C HK.out.row HMR.out HSR.out HLEN.out (by have := HMO.out.1; simp only [plainQ, List.length_map] at this; omega) (by omega) (fun q hq => by have := HMO.out.2.1 (L m.ps[q]) (by simp only [plainQ]; exact List.mem_map.2 ⟨_, List.getElem_mem hq, rfl⟩); rw [L_length] at this; omega) (fun q hq => (HSE.out os[q] (List.getElem_mem hq)).1)
          unfold FilledPost at hfl
          rw [hfp] at hfl
          have HFL := hid hfl
          have HFP := hid hfp
          by_cases h0 : fe = 0
          · subst h0
            obtain ⟨hns, h80⟩ := filledP_ok (fun o ho => by obtain ⟨q, hq, rfl⟩ := List.mem_map.1 ho; exact (HSE.out q hq).2) HNL.out hfp
            rw [show readP (some (m.ps.map L, os.map L)) false (L l) = (0, wordsP ft) from by simp only [readP, hfp]; rw [if_neg (by simp), cutL_id hns], if_neg (by simp)] at hre
            have HRE := hid hre
            have HNS := hid hns
            clear hre hfl hfp hns
            go_wp2_with (first | (go_at_call 88; refine HCUT.out.mono ?_; rintro e w' ⟨t, ht, hts, rfl, hw'⟩; obtain rfl : l = t := (L_inj ht).symm; obtain rfl := hw'.symm; clear ht hts) | (go_at_call 89; refine HOV.out.mono ?_; rintro e w' ⟨rfl, hw'⟩; obtain rfl := hw'.symm) | (go_at_call 93; refine HFL.out.mono ?_; rintro e w' ⟨t, rfl, ht, hw'⟩; obtain rfl := hw'.symm))
            have HT := hid ht
            have hts : t.size ≤ 100 := by rw [size_L, ht]; show ft.length ≤ 100; omega
            have hdo := does_any n HC.out wr B x r _ _ ov vo _ opens at_ st1 t k HK.out HST.out hts (by rw [ht]; exact HNS.out) HOK.out hBr
            rw [ht] at hdo
            clear ht
            refine hdo.mono ?_
            clear hdo
            rintro e w4 ⟨rfl, hp2, hp3, _⟩
            have HNI := hid (show GInv n w B x r at_ k (.slice (some ⟨bl, offl, none⟩) m.bs.length bc) ov m os R (j + 1) w4 by
              by_cases h0 : (lineP (callN n) true (wordsP ft) at_ opens st1).1 = 0
              · have hnd := line_nodef h0
                obtain ⟨hf4, ⟨vo', hk', hg'⟩, hr'⟩ := hp3 h0 hnd
                refine Or.inl ⟨vo', _, _, hk', fun g hg => ?_, hr', line_ok (call_ok n k) HOK.out h0, fq_step HF.out HVO.out hf4, ?_⟩
                · rcases hg' g hg with h5 | h5
                  · exact HVO.out g h5
                  · exact Nat.le_trans HF.out.size h5
                · have h6 := HRE.out
                  rw [show (some (m.ps.map L, os.map L)).isSome = true from rfl, Nat.add_zero, if_neg (by simp [h0]), hnd] at h6
                  exact h6
              · have h6 := HRE.out
                rw [show (some (m.ps.map L, os.map L)).isSome = true from rfl, Nat.add_zero, if_pos h0] at h6
                rw [h6]
                exact Or.inr ⟨h0, (hp2 h0).2.1, (hp2 h0).2.2, fq_step HF.out HVO.out (hp2 h0).1⟩)
            clear hp2 hp3
            go_wp2_with fail
            go_roundw
            case rel => exact ⟨j + 1, by omega, rfl, by go_num, HNI.out⟩
            case measure => simp [intOf]; omega
          · rw [show readP (some (m.ps.map L, os.map L)) false (L l) = (fe, ⟨[], [], []⟩) from by simp only [readP, hfp]; rw [if_pos h0], if_pos h0] at hre
            have HRE := hid hre
            have k0 : (fe != 0) = true := by rw [bne_iff_ne]; exact h0
            have H0 := hid h0
            clear hre hfl hfp h0
            go_wp2_with (first | (go_at_call 88; refine HCUT.out.mono ?_; rintro e w' ⟨t, ht, hts, rfl, hw'⟩; obtain rfl : l = t := (L_inj ht).symm; obtain rfl := hw'.symm; clear ht hts) | (go_at_call 89; refine HOV.out.mono ?_; rintro e w' ⟨rfl, hw'⟩; obtain rfl := hw'.symm) | (go_at_call 93; refine HFL.out.mono ?_; rintro e w' ⟨t, rfl, ht, hw'⟩; obtain rfl := hw'.symm) | (go_at_call 60; refine (bad_any _ r _ _ _ _ _ fe at_ HXA.out.row).mono ?_; rintro e w4 ⟨rfl, rfl⟩))
            first | go_end0 | refine bodyPost_ret (results_none rfl _ _ _) rfl ?_
            obtain ⟨p1, p2⟩ := bad_post (er := fe) (at_ := at_) HXA.out.row HXA.out.at_
            rw [HRE.out]
            exact ⟨rfl, HF.out.trans p1.wide, fun c => absurd c H0.out, fun _ => p2⟩
      · have kd : decide ((j : Int) < m.bs.length) = false := by simp; omega
        rw [List.drop_eq_nil_of_le (by omega), List.map_nil] at hRe
        simp only [blockP, Option.isNone_none, and_true] at hRe
        obtain ⟨av, cv, hvv⟩ := own_form HK.out.own
        subst hvv
        by_cases hop : opens = []
        · rw [if_pos hop] at hRe
          subst hop
          have HRE := hid hRe
          clear hRe
          go_wp2_with fail
          first | go_end0 | refine bodyPost_ret (results_none rfl _ _ _) rfl ?_
          rw [HRE.out]
          exact ⟨rfl, HF.out, fun _ => HST.out, fun c => absurd rfl c⟩
        · rw [if_neg hop] at hRe
          have hlo : 0 < opens.length := List.length_pos_iff.2 hop
          have ko : decide ((0 : Int) < opens.length) = true := by simp; omega
          have HRE := hid hRe
          clear hRe hop
          go_wp2_with (first | (go_at_call 60; refine (bad_any _ r _ _ _ _ _ 2 at_ HXA.out.row).mono ?_; rintro e w4 ⟨rfl, rfl⟩))
          first | go_end0 | refine bodyPost_ret (results_none rfl _ _ _) rfl ?_
          obtain ⟨p1, p2⟩ := bad_post (er := 2) (at_ := at_) HXA.out.row HXA.out.at_
          rw [HRE.out]
          exact ⟨rfl, HF.out.trans p1.wide, (fun c => by cases c), fun _ => p2⟩
    · obtain ⟨q1, q2, q3, q4, hre⟩ := hre
      obtain ⟨ao, no, co, po, hbr⟩ := hbr
      obtain ⟨er, her⟩ : ∃ er, R.1 = er := ⟨_, rfl⟩
      rw [her] at h0 hre
      have e4 : wr.cell? ⟨r, 4, none⟩ = some (.int .i64 er) := hre.cell 4 (by simp)
      have c0 : wr.cell? ⟨x, 0, none⟩ = some (.slice ba m.bs.length bc) := hbr.cell 0 (by simp)
      have c5 : wr.cell? ⟨x, 5, none⟩ = some (.slice ao no co) := hbr.cell 5 (by simp)
      have c6 : wr.cell? ⟨x, 6, none⟩ = some (.pointer po) := hbr.cell 6 (by simp)
      have k0 : (er == 0) = false := by rw [beq_eq_false_iff_ne]; exact h0
      have HBA := hid (bad_again wr r q1 q2 q3 q4 _ er 2 at_ hre h0)
      have HFIN := hid (show RdPost B r [x] at_ (R.1, R.2.2) w (.returned (.tuple #[])) wr from ⟨rfl, hf, fun c => absurd (her.symm.trans c) h0, fun _ => ⟨q1, q2, q3, q4, by rw [her]; exact hre⟩⟩)
      clear hre hbr h0 her hf
      have hor : decide ((0 : Int) < no) = true ∨ (decide ((0 : Int) < no) = false ∧ ∃ pp, po = some pp) ∨ (decide ((0 : Int) < no) = false ∧ po = none) := by
        cases hd : decide ((0 : Int) < no) with
        | true => exact Or.inl rfl
        | false =>
          cases po with
          | none => exact Or.inr (Or.inr ⟨rfl, rfl⟩)
          | some pp => exact Or.inr (Or.inl ⟨rfl, pp, rfl⟩)
      by_cases hlt : j < m.bs.length
      · have kd : decide ((j : Int) < m.bs.length) = true := by simp; omega
        rcases hor with ko | ⟨ko, pp, rfl⟩ | ⟨ko, rfl⟩
        all_goals
          go_wp2_with (first | (go_at_call 60; refine HBA.out.mono ?_; rintro e w4 ⟨rfl, hw4⟩; obtain rfl := hw4.symm))
          all_goals
            first | go_end0 | refine bodyPost_ret (results_none rfl _ _ _) rfl ?_
            exact HFIN.out
      · have kd : decide ((j : Int) < m.bs.length) = false := by simp; omega
        rcases hor with ko | ⟨ko, pp, rfl⟩ | ⟨ko, rfl⟩
        all_goals
          go_wp2_with (first | (go_at_call 60; refine HBA.out.mono ?_; rintro e w4 ⟨rfl, hw4⟩; obtain rfl := hw4.symm))
          all_goals
            first | go_end0 | refine bodyPost_ret (results_none rfl _ _ _) rfl ?_
            exact HFIN.out

end Go.Proofs.YtcepppilgncdmaaGreatDoor
