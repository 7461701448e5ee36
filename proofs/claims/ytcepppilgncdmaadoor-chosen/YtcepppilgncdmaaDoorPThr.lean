/-
  All lines of a block (package expand): the text's.
-/
import Derived.Test.YtcepppilgncdmaaDoorPBlk
namespace Go.Proofs.YtcepppilgncdmaaDoor
open Go.RowKit
attribute [local go_sem ↓] Go.wp_at_zero Go.wp_at_succ

def GoPost (B be bt wi : Nat) (M : List Nat) (r : Int × Nat × StP) (w : World) (e : Ending) (w' : World) : Prop :=
  e = .returned (.int .i64 r.1) ∧ Fr B M w w' ∧ NumAt w' be bt wi r.2.1 ∧ (r.1 = 0 → ExpSt w' B be bt wi r.2.1 r.2.2 ∧ StOk r.2.2 r.2.1)

theorem doP_ge {call : MacP → WordsP → Nat → StP → Int × StP} {wi k : Nat} {W : WordsP} {opens : List OpenP} {st : StP} {ls : List (List UInt8)} : k ≤ (doP call wi k W opens st ls).2.1 := by
  unfold doP
  split
  · exact Nat.le_refl _
  · split
    · exact Nat.le_refl _
    · split
      · exact Nat.le_refl _
      · split
        · exact Nat.le_refl _
        · show k ≤ (otherP call wi k W st ls).2.1
          unfold otherP
          split
          · unfold macR
            split
            · exact Nat.le_refl _
            · split
              · exact Nat.le_refl _
              · split
                · exact Nat.le_refl _
                · exact Nat.le_add_right _ _
          · split
            · exact Nat.le_refl _
            · split
              · exact Nat.le_refl _
              · split <;> exact Nat.le_refl _
theorem blockP_nil (call : MacP → WordsP → Nat → StP → Int × StP) (sub : Option (List (List UInt8) × List (List UInt8))) (inc at_ : Nat) (opens : List OpenP) (st : StP) :
    blockP call sub inc [] at_ opens none st = if opens = [] then (0, at_, st) else (2, at_, st) := by
  rw [blockP]; simp
theorem StOk.later {st : StP} {k : Nat} (h : StOk st k) {j : Nat} (hk : k ≤ j) (hj : j ≤ 3001) : StOk st j := ⟨h.macs, h.names, h.out, h.calls, Nat.le_trans h.few hk, hj⟩

set_option maxRecDepth 100000 in
set_option maxHeartbeats 800000 in
theorem goT_any (hcall : CallOk 8) (w : World) (B be bt : Nat) (st0 : StP) (lv : Value) (ls : List ByteArray)
    (h : ExpSt w B be bt 0 0 st0) (hra : ReadAt w B 49 bt (.slice none 0 0) lv ls 0 [] []) (hls : ∀ i (hi : i < ls.length), ls[i].size ≤ 100) (hok : StOk st0 0) (hm : MaxAt w) (hgB : 0 < B) (hB : B ≤ w.heap.size) (hbt : B ≤ bt) (R : Int × Nat × StP) (hR : blockP (callN 8) none 1 (ls.map L) 0 [] none st0 = R) :
    Calls Tryd.prog 12 #[.pointer (some ⟨be, 0, none⟩), .iface 44 (.pointer (some ⟨bt, 0, none⟩))] w (GoPost B be bt 0 [bt] R w) := by
  have hrd : Rd 44 49 := Or.inl ⟨rfl, rfl⟩
  have hfew := hra.few
  have m1 := fun w => ask_more hrd bt w
  have m2 := fun w => ask_lread bt w
  have m3 := fun w => ask_depth hrd bt w
  have HS := hid h
  have HRA := hid hra
  have HLS := hid hls
  have HOK := hid hok
  have HM := hid hm
  have HR := hid hR
  clear h hra hls hok hm hR
  go_enter Tryd.func12, Tryd.ntmps12
  go_wp2_with fail
  go_loopg [4] (ls.length + 1) (fun q x wr => ∃ (k : Nat) (opens : List OpenP) (st : StP) (v : Value), q + k = ls.length + 1 ∧ ExpSt wr B be bt 0 k st ∧ ReadAt wr B 49 bt v lv ls k [] opens ∧ Chain opens ∧ StOk st k ∧ Fr B [bt] w wr ∧ (∀ g, v.ownBlock = some g → w.heap.size ≤ g) ∧ blockP (callN 8) none 1 ((ls.map L).drop k) k opens none st = R)
  case atStart => exact ⟨0, [], st0, .slice none 0 0, by simp, HS.out, HRA.out, trivial, HOK.out, Fr.refl _ _ _, (fun g hg => by cases hg), HR.out⟩
  case round =>
    obtain ⟨k, opens, st, v, hq, hs, hra, hch, hok, hfr, hvn, hbr⟩ := hrel
    have HS := hid hs
    have HRA := hid hra
    have HCH := hid hch
    have HOK := hid hok
    have HFR := hid hfr
    have HVN := hid hvn
    have HBR := hid hbr
    have HMr := hid (HM.out.fr hfr hgB)
    have hBr : B ≤ wr.heap.size := Nat.le_trans hB hfr.size
    have hop8 := hra.cond.few
    clear hs hra hch hok hfr hvn hbr
    go_wp2_with fail
    refine (more_any _ B _ bt v lv ls k [] opens HRA.out).mono ?_
    by_cases hlt : k < ls.length
    · rw [decide_eq_true hlt]
      rintro e w1 ⟨rfl, hb1⟩
      have HS := hid (HS.out.below hb1)
      have HRA := hid (HRA.out.below hb1)
      have HFR := hid (HFR.out.trans (Fr.of_below hb1))
      have HMr := hid (HMr.out.below hb1)
      have hBr : B ≤ w1.heap.size := Nat.le_trans hBr hb1.size
      clear hb1
      have hls := HLS.out k hlt
      go_wp2_with fail
      refine (lread_any _ B _ bt v lv ls k [] opens HRA.out hlt (by decide) (by decide) (by decide) rfl hbt (by omega) HMr.out hgB).mono ?_
      rintro e w2 ⟨lb, op, va, vc, os, rfl, hpv, hra, hfr⟩
      have HS := hid (HS.out.frc hfr ⟨_, hra.cond.row, rfl⟩ : ExpSt w2 B be bt 0 (k + 1) st)
      have HRA := hid hra
      have HFR := hid (HFR.out.trans hfr.to)
      have HMr := hid (HMr.out.fr hfr hgB)
      have hBr : B ≤ w2.heap.size := Nat.le_trans hBr hfr.size
      have HPV := hid hpv
      clear hpv hra hfr
      have hb4 : Below w2.heap.size w2 (w2.alloc (.cells #[.string lb, .string op, .slice va os.length vc] 61)) := (Below.refl _ _).alloc (Nat.le_refl _) _
      have HS := hid (HS.out.below hb4)
      have HRA := hid (HRA.out.below hb4)
      have HFR := hid (HFR.out.trans (Fr.of_below hb4))
      have HMr := hid (HMr.out.below hb4)
      have HPV := hid (HPV.out.below hb4)
      have hBr := Nat.le_trans hBr hb4.size
      clear hb4
      go_wp2_with fail
      refine (do_any 8 hcall _ B be bt 0 (k + 1) _ _ bt (k + 1) st v lv ls [] opens lb op va vc os _ 0 rfl (Or.inl ⟨rfl, rfl, rfl, rfl, rfl⟩) HS.out HRA.out HCH.out HPV.out (WOk.line (by rw [L_length]; exact hls)) HLS.out (HOK.out.later (Nat.le_succ k) (by omega)) HMr.out hgB hBr hbt hbt).mono ?_
      obtain ⟨r, hr⟩ : ∃ r, doP (callN 8) 0 (k + 1) (wordsP (cutL (L ls[k]))) opens st (ls.map L) = r := ⟨_, rfl⟩
      have hge : k + 1 ≤ r.2.1 := by rw [← hr]; exact doP_ge
      have hcr : r.1 = 0 → Chain r.2.2.1 := by rw [← hr]; exact doP_chain HCH.out
      have hbt2 := block_text (callN 8) (ls.map L) k (by simpa using hlt) opens st r (by rw [List.getElem_map]; exact hr)
      rw [hr]
      have HCR := hid hcr
      have HBT := hid hbt2
      clear hr hcr hbt2
      rintro e w3 ⟨rfl, hf3, hn3, hs3⟩
      have HF3 := hid (HFR.out.trans' hf3 (fun i hi => by
        unfold condM at hi
        rcases List.mem_cons.1 hi with h1 | h1
        · exact Or.inl (by rw [h1]; simp)
        · exact Or.inr (HVN.out i (by cases hv : v.ownBlock with
            | none => rw [hv] at h1; cases h1
            | some g => rw [hv] at h1; simp at h1; rw [h1]))))
      have HN3 := hid hn3
      have HS3 := hid hs3
      have hsz := HFR.out.size
      clear hf3 hn3 hs3
      by_cases h0 : r.1 = 0
      · have k0 : decide (r.1 = 0) = true := decide_eq_true h0
        go_wp2_with fail
        go_roundg (ls.length + 1 - r.2.1)
        case measure => omega
        case rel =>
          obtain ⟨h1, h2, v', h3, h4⟩ := HS3.out h0
          refine ⟨r.2.1, r.2.2.1, r.2.2.2, v', ?_, h1, h4, HCR.out h0, h2, HF3.out, fun g hg => ?_, ?_⟩
          · have := h4.le; have e1 : nextJ 0 r.2.1 (k + 1) = r.2.1 := rfl; rw [e1] at this; omega
          · rcases h3 g hg with h5 | h5
            · exact HVN.out g h5
            · omega
          · rw [← HBT.out.2 h0]; exact HBR.out
      · have k0 : decide (r.1 = 0) = false := decide_eq_false h0
        go_wp2_with fail
        go_ret
        obtain ⟨h1, h2⟩ := HBT.out.1 h0
        rw [HBR.out] at h1 h2
        refine ⟨by rw [h1]; rfl, HF3.out, by rw [h2]; exact HN3.out, fun h5 => absurd (h1.symm.trans h5) h0⟩
    · rw [decide_eq_false hlt]
      have hbr := HBR.out
      rw [List.drop_eq_nil_of_le (by simp; omega), blockP_nil] at hbr
      rintro e w1 ⟨rfl, hb1⟩
      have HBR := hid hbr
      have HS := hid (HS.out.below hb1)
      have HRA := hid (HRA.out.below hb1)
      have HFR := hid (HFR.out.trans (Fr.of_below hb1))
      clear hbr hb1
      go_wp2_with fail
      refine (depth_any _ B _ bt v _ opens HRA.out.cond).mono ?_
      rintro e w2 ⟨rfl, rfl⟩
      by_cases ho : opens = []
      · subst ho
        have hbr := HBR.out
        rw [if_pos rfl] at hbr
        subst hbr
        go_wp2_with fail
        go_ret
        exact ⟨rfl, HFR.out, HS.out.num, fun _ => ⟨HS.out, HOK.out⟩⟩
      · have hbr := HBR.out
        rw [if_neg ho] at hbr
        subst hbr
        have hl : 0 < opens.length := List.length_pos_iff.2 ho
        have k0 : decide ((opens.length : Int) > 0) = true := decide_eq_true (by omega)
        clear ho
        go_wp2_with fail
        go_ret
        exact ⟨rfl, HFR.out, HS.out.num, fun h => by cases h⟩

end Go.Proofs.YtcepppilgncdmaaDoor
