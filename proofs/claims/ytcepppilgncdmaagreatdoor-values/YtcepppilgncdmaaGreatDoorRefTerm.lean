/-
  What the document's own reading of a term and of an expression (package masonref) answers, said by the same plain functions.
-/
import Derived.Test.YtcepppilgncdmaaGreatDoorRef
namespace Go.Proofs.YtcepppilgncdmaaGreatDoor
open Go.RowKit

theorem L_mid (s : ByteArray) (i n : Nat) : L (s.extract i (i + n)) = ((L s).drop i).take n := by
  rw [L_extract, List.take_drop]

set_option maxHeartbeats 1000000 in
theorem refTerm_any (s : ByteArray) (i : Nat) (at_ : Int) (a : Option Addr) (cap : Nat) (ns : List (ByteArray × Int)) (w : World) (v : Int) (n : Nat) (er : Int) (hs' : s.size ≤ 140737488351232) (hi : i ≤ s.size) (hl : ns.length ≤ maxLen) (hn : NamesAt w a ns) (hv : term at_ (plainN ns) ((L s).drop i) = (v, n, er)) :
    Calls Tryz.prog 37 #[.string s, .int .i64 i, .int .i64 at_, .slice a ns.length cap] w fun e w' => e = .returned (.tuple #[.int .i64 v, .int .i64 n, .int .i64 er]) ∧ w' = w := by
  have hs : s.size ≤ maxLen := by unfold maxLen; omega
  have HN := hid hn
  clear hn
  by_cases h0 : i < s.size
  · have HL := hid (L_drop s i h0)
    have hby := byte_bd s[i]
    rw [HL.out] at hv
    simp only [term] at hv
    rw [← HL.out] at hv
    have hb := nb_eq (s[i].toNat : Int)
    have k0 : decide ((s.size : Int) ≤ i) = false := by simp; omega
    by_cases hd : digB (s[i].toNat : Int) = true
    · rw [if_pos hd] at hv
      obtain ⟨rfl, rfl, rfl⟩ := trip_eq hv
      clear hv hb
      rcases hg : digs 10 0 0 ((L s).drop i) with ⟨x, k⟩
      have HG := hid hg
      clear hg
      simp only
      go_enter Tryz.func37, Tryz.ntmps37
      go_wp2_with (first | (go_at_call 54; refine (digit_any _ _).mono ?_; rintro e w' ⟨rfl, rfl⟩) | (go_at_call 55; refine (letter_any _ _).mono ?_; rintro e w' ⟨rfl, rfl⟩) | (go_at_call 56; refine (refNumber_any s i 10 _ x k hs hi (Or.inl rfl) HG.out).mono ?_; rintro e w' ⟨rfl, rfl⟩))
      go_ret3
      exact ⟨rfl, rfl⟩
    · have kd : digB (s[i].toNat : Int) = false := by simpa using hd
      rw [if_neg hd] at hv
      by_cases h36 : (s[i].toNat : Int) = 36
      · rw [if_pos h36] at hv
        have k36 : ((s[i].toNat : Int) == 36) = true := by simpa using h36
        unfold base16 at hv
        have hle := digs_le 16 ((L s).drop (i + 1)) 0 0
        rw [List.length_drop, L_length] at hle
        rcases hg : digs 16 0 0 ((L s).drop (i + 1)) with ⟨x, k⟩
        rw [hg] at hv hle
        have HG := hid hg
        simp only at hv hle
        clear hg h36 hb
        by_cases hk : k = 0
        · subst hk
          rw [if_pos rfl] at hv
          obtain ⟨rfl, rfl, rfl⟩ := trip_eq hv
          clear hv
          go_enter Tryz.func37, Tryz.ntmps37
          go_wp2_with (first | (go_at_call 54; refine (digit_any _ _).mono ?_; rintro e w' ⟨rfl, rfl⟩) | (go_at_call 55; refine (letter_any _ _).mono ?_; rintro e w' ⟨rfl, rfl⟩) | (go_at_call 56; refine (refNumber_any s (i + 1) 16 _ x 0 hs (by omega) (Or.inr rfl) HG.out).mono ?_; rintro e w' ⟨rfl, rfl⟩))
          go_ret3
          exact ⟨rfl, rfl⟩
        · rw [if_neg hk] at hv
          obtain ⟨rfl, rfl, rfl⟩ := trip_eq hv
          have kk : ((k : Int) == 0) = false := by rw [beq_eq_false_iff_ne]; omega
          clear hv
          go_enter Tryz.func37, Tryz.ntmps37
          go_wp2_with (first | (go_at_call 54; refine (digit_any _ _).mono ?_; rintro e w' ⟨rfl, rfl⟩) | (go_at_call 55; refine (letter_any _ _).mono ?_; rintro e w' ⟨rfl, rfl⟩) | (go_at_call 56; refine (refNumber_any s (i + 1) 16 _ x k hs (by omega) (Or.inr rfl) HG.out).mono ?_; rintro e w' ⟨rfl, rfl⟩))
          go_ret3
          exact ⟨ret_three rfl (by rw [show (((1 + k : Nat)) : Int) = (k : Int) + 1 from by omega]; rfl) rfl, rfl⟩
      · rw [if_neg h36] at hv
        have k36 : ((s[i].toNat : Int) == 36) = false := by simpa using h36
        by_cases h39 : (s[i].toNat : Int) = 39
        · rw [if_pos h39] at hv
          have k39 : ((s[i].toNat : Int) == 39) = true := by simpa using h39
          clear h36 h39 hb
          by_cases h3 : i + 2 < s.size
          · rw [L_drop s (i + 1) (by omega), L_drop s (i + 2) (by omega)] at hv
            have k3 : decide ((s.size : Int) ≤ (i : Int) + 2) = false := by simp; omega
            simp only [quoted] at hv
            have hy := byte_bd s[i + 1]
            by_cases ha : (s[i + 1].toNat : Int) = 39
            · rw [if_pos (Or.inl ha)] at hv
              obtain ⟨rfl, rfl, rfl⟩ := trip_eq hv
              have ka : ((s[i + 1].toNat : Int) == 39) = true := by simpa using ha
              clear hv ha
              go_enter Tryz.func37, Tryz.ntmps37
              go_wp2_with (first | (go_at_call 54; refine (digit_any _ _).mono ?_; rintro e w' ⟨rfl, rfl⟩) | (go_at_call 55; refine (letter_any _ _).mono ?_; rintro e w' ⟨rfl, rfl⟩))
              go_ret3
              exact ⟨rfl, rfl⟩
            · have ka : ((s[i + 1].toNat : Int) == 39) = false := by simpa using ha
              by_cases hc : (s[i + 2].toNat : Int) = 39
              · have kc : ((s[i + 2].toNat : Int) != 39) = false := by simpa using hc
                rw [if_neg (by omega)] at hv
                obtain ⟨rfl, rfl, rfl⟩ := trip_eq hv
                clear hv ha hc
                go_enter Tryz.func37, Tryz.ntmps37
                go_wp2_with (first | (go_at_call 54; refine (digit_any _ _).mono ?_; rintro e w' ⟨rfl, rfl⟩) | (go_at_call 55; refine (letter_any _ _).mono ?_; rintro e w' ⟨rfl, rfl⟩))
                go_ret3
                exact ⟨rfl, rfl⟩
              · have kc : ((s[i + 2].toNat : Int) != 39) = true := by simpa using hc
                rw [if_pos (Or.inr hc)] at hv
                obtain ⟨rfl, rfl, rfl⟩ := trip_eq hv
                clear hv ha hc
                go_enter Tryz.func37, Tryz.ntmps37
                go_wp2_with (first | (go_at_call 54; refine (digit_any _ _).mono ?_; rintro e w' ⟨rfl, rfl⟩) | (go_at_call 55; refine (letter_any _ _).mono ?_; rintro e w' ⟨rfl, rfl⟩))
                go_ret3
                exact ⟨rfl, rfl⟩
          · have k3 : decide ((s.size : Int) ≤ (i : Int) + 2) = true := by simp; omega
            have hq : quoted ((L s).drop (i + 1)) = (0, 0, 4) := by
              have hlen := L_length s
              match hm : (L s).drop (i + 1) with
              | [] => rfl
              | [c] => rfl
              | c :: d :: r => have h := congrArg List.length hm; rw [List.length_drop, hlen] at h; simp at h; omega
            obtain ⟨rfl, rfl, rfl⟩ := trip_eq (hv.symm.trans hq)
            clear hv hq
            go_enter Tryz.func37, Tryz.ntmps37
            go_wp2_with (first | (go_at_call 54; refine (digit_any _ _).mono ?_; rintro e w' ⟨rfl, rfl⟩) | (go_at_call 55; refine (letter_any _ _).mono ?_; rintro e w' ⟨rfl, rfl⟩))
            go_ret3
            exact ⟨rfl, rfl⟩
        · rw [if_neg h39] at hv
          have k39 : ((s[i].toNat : Int) == 39) = false := by simpa using h39
          by_cases h46 : (s[i].toNat : Int) = 46
          · rw [if_pos h46] at hv
            have k46 : ((s[i].toNat : Int) == 46) = true := by simpa using h46
            obtain ⟨rfl, rfl, rfl⟩ := trip_eq hv
            clear hv hb h36 h39 h46
            go_enter Tryz.func37, Tryz.ntmps37
            go_wp2_with (first | (go_at_call 54; refine (digit_any _ _).mono ?_; rintro e w' ⟨rfl, rfl⟩) | (go_at_call 55; refine (letter_any _ _).mono ?_; rintro e w' ⟨rfl, rfl⟩))
            go_ret3
            exact ⟨rfl, rfl⟩
          · rw [if_neg h46] at hv
            have k46 : ((s[i].toNat : Int) == 46) = false := by simpa using h46
            rw [kd, Bool.or_false] at hb
            obtain ⟨m, hm⟩ : ∃ m, wordLen ((L s).drop i) = m := ⟨_, rfl⟩
            have hml := wordLen_le ((L s).drop i)
            rw [hm, List.length_drop, L_length] at hml
            unfold named at hv
            rw [hm, ← L_mid] at hv
            have HM := hid hm
            have hex : (s.extract i (i + m)).size ≤ maxLen := by rw [ByteArray.size_extract]; omega
            by_cases hlet : letB (s[i].toNat : Int) = true
            · clear h36 h39 h46 hb hm
              by_cases hnm : nameB (L (s.extract i (i + m))) = true
              · rw [if_pos hnm] at hv
                rcases hf : findN (plainN ns) (L (s.extract i (i + m))) with _ | z
                · rw [hf] at hv
                  obtain ⟨rfl, rfl, rfl⟩ := trip_eq hv
                  have HF := hid hf
                  clear hv hf
                  go_enter Tryz.func37, Tryz.ntmps37
                  go_wp2_with (first | (go_at_call 54; refine (digit_any _ _).mono ?_; rintro e w' ⟨rfl, rfl⟩) | (go_at_call 55; refine (letter_any _ _).mono ?_; rintro e w' ⟨rfl, rfl⟩) | (go_at_call 57; refine (word_any s i _ m hs hi HM.out).mono ?_; rintro e w' ⟨rfl, rfl⟩) | (go_at_call 58; refine (refName_any _ _ hex).mono ?_; rintro e w' ⟨rfl, rfl⟩) | (go_at_call 59; refine (find_any _ a cap ns _ none hl HN.out HF.out).mono ?_; rintro e w' ⟨rfl, rfl⟩))
                  go_ret3
                  exact ⟨rfl, rfl⟩
                · rw [hf] at hv
                  obtain ⟨rfl, rfl, rfl⟩ := trip_eq hv
                  have HF := hid hf
                  clear hv hf
                  go_enter Tryz.func37, Tryz.ntmps37
                  go_wp2_with (first | (go_at_call 54; refine (digit_any _ _).mono ?_; rintro e w' ⟨rfl, rfl⟩) | (go_at_call 55; refine (letter_any _ _).mono ?_; rintro e w' ⟨rfl, rfl⟩) | (go_at_call 57; refine (word_any s i _ m hs hi HM.out).mono ?_; rintro e w' ⟨rfl, rfl⟩) | (go_at_call 58; refine (refName_any _ _ hex).mono ?_; rintro e w' ⟨rfl, rfl⟩) | (go_at_call 59; refine (find_any _ a cap ns _ (some z) hl HN.out HF.out).mono ?_; rintro e w' ⟨rfl, rfl⟩))
                  go_ret3
                  exact ⟨rfl, rfl⟩
              · have knm : nameB (L (s.extract i (i + m))) = false := by simpa using hnm
                rw [if_neg hnm] at hv
                obtain ⟨rfl, rfl, rfl⟩ := trip_eq hv
                clear hv
                go_enter Tryz.func37, Tryz.ntmps37
                go_wp2_with (first | (go_at_call 54; refine (digit_any _ _).mono ?_; rintro e w' ⟨rfl, rfl⟩) | (go_at_call 55; refine (letter_any _ _).mono ?_; rintro e w' ⟨rfl, rfl⟩) | (go_at_call 57; refine (word_any s i _ m hs hi HM.out).mono ?_; rintro e w' ⟨rfl, rfl⟩) | (go_at_call 58; refine (refName_any _ _ hex).mono ?_; rintro e w' ⟨rfl, rfl⟩))
                go_ret3
                exact ⟨rfl, rfl⟩
            · have klet : letB (s[i].toNat : Int) = false := by simpa using hlet
              rw [klet] at hb
              have hm0 : m = 0 := by rw [← hm]; exact wordLen_no s i h0 hb
              subst hm0
              have hnf : nameB (L (s.extract i (i + 0))) = false := by rw [L_mid, List.take_zero]; rfl
              rw [hnf, if_neg (by simp)] at hv
              obtain ⟨rfl, rfl, rfl⟩ := trip_eq hv
              clear hv hb h36 h39 h46 hnf hm
              go_enter Tryz.func37, Tryz.ntmps37
              go_wp2_with (first | (go_at_call 54; refine (digit_any _ _).mono ?_; rintro e w' ⟨rfl, rfl⟩) | (go_at_call 55; refine (letter_any _ _).mono ?_; rintro e w' ⟨rfl, rfl⟩))
              go_ret3
              exact ⟨rfl, rfl⟩
  · have k0 : decide ((s.size : Int) ≤ i) = true := by simp; omega
    rw [L_end s i (by omega)] at hv
    obtain ⟨rfl, rfl, rfl⟩ := trip_eq (show (0, 0, 4) = (v, n, er) from hv)
    clear hv
    go_enter Tryz.func37, Tryz.ntmps37
    go_wp2_with fail
    go_ret3
    exact ⟨rfl, rfl⟩

end Go.Proofs.YtcepppilgncdmaaGreatDoor
