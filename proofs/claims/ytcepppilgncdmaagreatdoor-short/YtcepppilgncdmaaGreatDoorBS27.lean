/-
  All lines of a block (package expand): a macro's.
-/
import Derived.Test.YtcepppilgncdmaaGreatDoorBS26
namespace Go.Proofs.YtcepppilgncdmaaGreatDoor
open Go.RowKit
attribute [local go_sem ↓] Go.wp_at_zero Go.wp_at_succ

theorem blockP_stays (call : MacP → WordsP → Nat → StP → Int × StP) (sub : Option (List (List UInt8) × List (List UInt8))) (ls : List (List UInt8)) : ∀ (k : Nat) (opens : List OpenP) (d : Option MacP) (st : StP), (blockP call sub 0 ls k opens d st).2.1 = k := by
  induction ls with
  | nil => intro k opens d st; rw [blockP]; split <;> rfl
  | cons l r ih =>
    intro k opens d st
    cases d with
    | some d =>
      rw [blockP]
      split
      · rfl
      · exact ih _ _ _ _
    | none =>
      rw [blockP]
      split
      · split
        · rfl
        · exact ih _ _ _ _
      · split
        · rfl
        · split
          · rfl
          · exact ih _ _ _ _

set_option maxRecDepth 100000 in
set_option maxHeartbeats 800000 in
theorem goM_any (n : Nat) (hcall : CallOk n) (w : World) (B be bt wi k bm : Nat) (st0 : StP) (lv pv ov : Value) (ls ps os : List ByteArray) (hwn : wi + n = 8) (hwi : 0 < wi)
    (h : ExpSt w B be bt wi k st0) (hra : ReadAt w B 209 bm (.slice none 0 0) lv ls 0 [pv, ov] []) (hls : ∀ i (hi : i < ls.length), ls[i].size ≤ 100) (hcut : ∀ i (hi : i < ls.length), cutL (L ls[i]) = L ls[i])
    (hps : StrV w 0 pv ps) (hos : StrV w 0 ov os) (hlen : ps.length = os.length) (hl : ps.length ≤ 1000) (hz : ∀ k (h : k < ps.length), ps[k].size ≤ 100) (hz2 : ∀ k (h : k < os.length), os[k].size ≤ 100)
    (hok : StOk st0 k) (hm : MaxAt w) (hgB : 0 < B) (hB : B ≤ w.heap.size) (hbt : B ≤ bt) (hbm : B ≤ bm) (hne : bt ≠ bm) (R : Int × Nat × StP) (hR : blockP (callN n) (some (ps.map L, os.map L)) 0 (ls.map L) k [] none st0 = R) :
    Calls Tryz.prog 31 #[.pointer (some ⟨be, 0, none⟩), .iface 207 (.pointer (some ⟨bm, 0, none⟩))] w (GoPost B be bt wi [bm] R w) := by
  have hrd : Rd 207 209 := Or.inr ⟨rfl, rfl⟩
  have hfew := hra.few
  have m1 := fun w => ask_more hrd bm w
  have m2 := fun w => ask_mread bm w
  have m3 := fun w => ask_depth hrd bm w
  have hRk : R.2.1 = k := by rw [← hR]; exact blockP_stays _ _ _ _ _ _ _
  have HS := hid h
  have HRA := hid hra
  have HLS := hid hls
  have HOK := hid hok
  have HM := hid hm
  have HR := hid hR
  have HCUT := hid hcut
  have HPS := hid hps
  have HOS := hid hos
  have HZ := hid hz
  have HZ2 := hid hz2
  clear h hra hls hok hm hR hcut hps hos hz hz2
  go_enter Tryz.func31, Tryz.ntmps31
  go_wp2_with fail
  go_loopg [4] ls.length (fun q x wr => ∃ (j : Nat) (opens : List OpenP) (st : StP) (v : Value), q + j = ls.length ∧ ExpSt wr B be bt wi k st ∧ ReadAt wr B 209 bm v lv ls j [pv, ov] opens ∧ Chain opens ∧ StOk st k ∧ Fr B [bm] w wr ∧ (∀ g, v.ownBlock = some g → w.heap.size ≤ g) ∧ blockP (callN n) (some (ps.map L, os.map L)) 0 ((ls.map L).drop j) k opens none st = R)
  case atStart => exact ⟨0, [], st0, .slice none 0 0, by simp, HS.out, HRA.out, trivial, HOK.out, Fr.refl _ _ _, (fun g hg => by cases hg), HR.out⟩
  case round =>
    obtain ⟨j, opens, st, v, hq, hs, hra, hch, hok, hfr, hvn, hbr⟩ := hrel
    have HS := hid hs
    have HRA := hid hra
    have HCH := hid hch
    have HOK := hid hok
    have HFR := hid hfr
    have HVN := hid hvn
    have HBR := hid hbr
    have HPS := hid (HPS.out.fr hfr)
    have HOS := hid (HOS.out.fr hfr)
    have HMr := hid (HM.out.fr hfr hgB)
    have hBr : B ≤ wr.heap.size := Nat.le_trans hB hfr.size
    have hop8 := hra.cond.few
    clear hs hra hch hok hfr hvn hbr
    go_wp2_with fail
    refine (more_any _ B _ bm v lv ls j _ opens HRA.out).mono ?_
    by_cases hlt : j < ls.length
    · rw [decide_eq_true hlt]
      rintro e w1 ⟨rfl, hb1⟩
      have HS := hid (HS.out.below hb1)
      have HRA := hid (HRA.out.below hb1)
      have HFR := hid (HFR.out.trans (Fr.of_below hb1))
      have HMr := hid (HMr.out.below hb1)
      have HPS := hid (HPS.out.below hb1)
      have HOS := hid (HOS.out.below hb1)
      have hBr : B ≤ w1.heap.size := Nat.le_trans hBr hb1.size
      clear hb1
      have hls := HLS.out j hlt
      have hwk : WOk (readP (some (ps.map L, os.map L)) (overP opens) (cutL (L ls[j]))).2 := WOk.read (by have := cutL_le (L ls[j]); rw [L_length] at this; omega)
      have HWK := hid hwk
      clear hwk
      go_wp2_with fail
      refine (mread_any _ B bm v lv ls j pv ov ps os opens HRA.out hlt hbm hls (HCUT.out j hlt) HMr.out hgB HPS.out HOS.out hlen hl HZ.out HZ2.out).mono ?_
      by_cases hrd0 : (readP (some (ps.map L, os.map L)) (overP opens) (cutL (L ls[j]))).1 = 0
      · rintro e w2 ⟨hpost, _⟩
        obtain ⟨lb, op, va, vc, os', rfl, hpv, hra, hfr⟩ := hpost hrd0
        obtain ⟨xs, hx1, hx2⟩ := HS.out.text
        have HS := hid (HS.out.frc hfr ⟨xs, hx1.fr hfr rfl (fun _ => by simp; exact hne), hx2⟩ : ExpSt w2 B be bt wi k st)
        have HRA := hid hra
        have HFR := hid (HFR.out.trans hfr.to)
        have HMr := hid (HMr.out.fr hfr hgB)
        have hBr : B ≤ w2.heap.size := Nat.le_trans hBr hfr.size
        have HPV := hid hpv
        clear hpv hra hfr hpost hx1 hx2
        have hb4 : Below w2.heap.size w2 (w2.alloc (.cells #[.string lb, .string op, .slice va os'.length vc] 101)) := (Below.refl _ _).alloc (Nat.le_refl _) _
        have HS := hid (HS.out.below hb4)
        have HRA := hid (HRA.out.below hb4)
        have HFR := hid (HFR.out.trans (Fr.of_below hb4))
        have HMr := hid (HMr.out.below hb4)
        have HPV := hid (HPV.out.below hb4)
        have hBr := Nat.le_trans hBr hb4.size
        clear hb4
        have hbm2 := fun r => block_mac (callN n) (ps.map L) (os.map L) (ls.map L) wi j k hwi (by simpa using hlt) (by rw [List.getElem_map]; exact HCUT.out j hlt) opens st (by rw [List.getElem_map]; exact hrd0) (ls.map L) r
        rw [List.getElem_map] at hbm2
        have HBM := hid hbm2
        have HRD0 := hid hrd0
        clear hbm2 hrd0
        go_wp2_with fail
        refine (do_any n hcall _ B be bt wi k _ _ bm (j + 1) st v lv ls [pv, ov] opens lb op va vc os' _ 0 hwn (Or.inr ⟨hwi, rfl, rfl⟩) HS.out HRA.out HCH.out HPV.out HWK.out HLS.out HOK.out HMr.out hgB hBr hbt hbm).mono ?_
        obtain ⟨r, hr⟩ : ∃ r, doP (callN n) wi k (readP (some (ps.map L, os.map L)) (overP opens) (cutL (L ls[j]))).2 opens st (ls.map L) = r := ⟨_, rfl⟩
        have hrk : r.2.1 = k := by rw [← hr]; exact doP_at hwi
        have hcr : r.1 = 0 → Chain r.2.2.1 := by rw [← hr]; exact doP_chain HCH.out
        have HBT := hid (HBM.out r hr)
        rw [hr]
        have HCR := hid hcr
        clear hr hcr
        rintro e w3 ⟨rfl, hf3, hn3, hs3⟩
        have HF3 := hid (HFR.out.trans' hf3 (fun i hi => by
          unfold condM at hi
          rcases List.mem_cons.1 hi with h1 | h1
          · exact Or.inl (by rw [h1]; simp)
          · exact Or.inr (HVN.out i (by cases hv : v.ownBlock with
              | none => rw [hv] at h1; cases h1
              | some g => rw [hv] at h1; simp at h1; rw [h1]))))
        rw [hrk] at hn3 hs3
        have HN3 := hid hn3
        have HS3 := hid hs3
        have hsz := HFR.out.size
        clear hf3 hn3 hs3
        by_cases h0 : r.1 = 0
        · have k0 : decide (r.1 = 0) = true := decide_eq_true h0
          go_wp2_with fail
          go_roundg (gk - 1)
          case measure => omega
          case rel =>
            obtain ⟨h1, h2, v', h3, h4⟩ := HS3.out h0
            refine ⟨j + 1, r.2.2.1, r.2.2.2, v', by omega, h1, ?_, HCR.out h0, h2, HF3.out, fun g hg => ?_, ?_⟩
            · have e1 : nextJ wi k (j + 1) = j + 1 := by unfold nextJ; rw [if_neg (by omega)]
              rw [e1] at h4
              exact h4
            · rcases h3 g hg with h5 | h5
              · exact HVN.out g h5
              · omega
            · rw [← HBT.out.2 h0]; exact HBR.out
        · have k0 : decide (r.1 = 0) = false := decide_eq_false h0
          go_wp2_with fail
          go_ret
          obtain ⟨h1, h2⟩ := HBT.out.1 h0
          rw [HBR.out] at h1 h2
          refine ⟨by rw [h1]; rfl, HF3.out, by rw [hRk]; exact HN3.out, fun h5 => absurd (h1.symm.trans h5) h0⟩
      · rintro e w2 ⟨_, hpost⟩
        obtain ⟨he, hfr⟩ := hpost hrd0
        rw [show noParts.toArray = #[.string ⟨#[]⟩, .string ⟨#[]⟩, .slice none 0 0] from rfl] at he
        subst he
        obtain ⟨h1, h2⟩ := block_unread (callN n) (ps.map L) (os.map L) (ls.map L) j k (by simpa using hlt) opens st (by rw [List.getElem_map]; exact hrd0)
        rw [HBR.out] at h1 h2
        rw [List.getElem_map] at h1
        rw [← h1] at hrd0 ⊢
        obtain ⟨xs, hx1, hx2⟩ := HS.out.text
        have HS := hid (HS.out.frc hfr ⟨xs, hx1.fr hfr rfl (fun _ => by simp; exact hne), hx2⟩ : ExpSt w2 B be bt wi k st)
        have HFR := hid (HFR.out.trans hfr.to)
        clear hfr hpost hx1 hx2 h1 h2
        have hb4 : Below w2.heap.size w2 (w2.alloc (.cells #[.string ⟨#[]⟩, .string ⟨#[]⟩, .slice none 0 0] 101)) := (Below.refl _ _).alloc (Nat.le_refl _) _
        have HS := hid (HS.out.below hb4)
        have HFR := hid (HFR.out.trans (Fr.of_below hb4))
        clear hb4
        have k0 : decide (R.1 = 0) = false := decide_eq_false hrd0
        go_wp2_with fail
        go_ret
        exact ⟨rfl, HFR.out, by rw [hRk]; exact HS.out.num, fun h5 => absurd h5 hrd0⟩
    · rw [decide_eq_false hlt]
      have hbr := HBR.out
      rw [List.drop_eq_nil_of_le (by simp; omega), blockP_nil] at hbr
      rintro e w1 ⟨rfl, hb1⟩
      have HBR := hid hbr
      have HS := hid (HS.out.below hb1)
      have HRA := hid (HRA.out.below hb1)
      have HFR := hid (HFR.out.trans (Fr.of_below hb1))
      clear hbr hb1
      go_wp2_with fail
      refine (depth_any _ B _ bm v _ opens HRA.out.cond).mono ?_
      rintro e w2 ⟨rfl, rfl⟩
      by_cases ho : opens = []
      · subst ho
        have hbr := HBR.out
        rw [if_pos rfl] at hbr
        subst hbr
        go_wp2_with fail
        go_ret
        exact ⟨rfl, HFR.out, HS.out.num, fun _ => ⟨HS.out, HOK.out⟩⟩
      · have hbr := HBR.out
        rw [if_neg ho] at hbr
        subst hbr
        have hl : 0 < opens.length := List.length_pos_iff.2 ho
        have k0 : decide ((opens.length : Int) > 0) = true := decide_eq_true (by omega)
        clear ho
        go_wp2_with fail
        go_ret
        exact ⟨rfl, HFR.out, HS.out.num, fun h => by cases h⟩

end Go.Proofs.YtcepppilgncdmaaGreatDoor
