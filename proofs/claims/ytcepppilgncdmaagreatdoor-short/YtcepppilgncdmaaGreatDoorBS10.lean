/-
  What each reading function of package expression answers, said by the plain functions; a text has at most as many bytes as a Go text can have.
-/
import Derived.Test.YtcepppilgncdmaaGreatDoorBS04
namespace Go.Proofs.YtcepppilgncdmaaGreatDoor
open Go.RowKit

theorem wordLen_at (s : ByteArray) (k : Nat) (h : k < s.size) (hb : nbB (s[k].toNat : Int) = true) : wordLen ((L s).drop k) = wordLen ((L s).drop (k + 1)) + 1 := by
  rw [L_drop s k h]; simp [wordLen, hb]
theorem wordLen_no (s : ByteArray) (k : Nat) (h : k < s.size) (hb : nbB (s[k].toNat : Int) = false) : wordLen ((L s).drop k) = 0 := by
  rw [L_drop s k h]; simp [wordLen, hb]

theorem digs_at (base v : Int) (n : Nat) (s : ByteArray) (k : Nat) (h : k < s.size) (hb : hexv (s[k].toNat : Int) < base) : digs base v n ((L s).drop k) = digs base (min (v * base + hexv (s[k].toNat : Int)) 1000001) (n + 1) ((L s).drop (k + 1)) := by
  rw [L_drop s k h]; simp only [digs]; rw [if_pos hb]
theorem digs_no (base v : Int) (n : Nat) (s : ByteArray) (k : Nat) (h : k < s.size) (hb : ¬ hexv (s[k].toNat : Int) < base) : digs base v n ((L s).drop k) = (v, n) := by
  rw [L_drop s k h]; simp only [digs]; rw [if_neg hb]
theorem digs_out (base v : Int) (n : Nat) (s : ByteArray) (k : Nat) (h : s.size ≤ k) : digs base v n ((L s).drop k) = (v, n) := by
  rw [L_end s k h]; rfl
theorem min_if (x : Int) : (if 1000001 < x then 1000001 else x) = min x 1000001 := by
  split <;> omega
theorem byte_bd (c : UInt8) : 0 ≤ (c.toNat : Int) ∧ (c.toNat : Int) ≤ 255 := by
  have := c.toNat_lt
  omega
theorem pair_eq {α β : Type} {a c : α} {b d : β} (h : (a, b) = (c, d)) : a = c ∧ b = d := by injection h with h1 h2; exact ⟨h1, h2⟩
theorem trip_eq {α β γ : Type} {a c : α} {b d : β} {x y : γ} (h : (a, b, x) = (c, d, y)) : a = c ∧ b = d ∧ x = y := by
  injection h with h1 h2; injection h2 with h2 h3; exact ⟨h1, h2, h3⟩

set_option maxHeartbeats 400000 in
theorem readDigits_any (s : ByteArray) (base : Int) (w : World) (v : Int) (n : Nat) (hs : s.size ≤ maxLen) (hb : base = 10 ∨ base = 16) (hv : Hid (digs base 0 0 (L s) = (v, n))) :
    Calls Tryz.prog 124 #[.string s, .int .i64 base] w fun e w' => e = .returned (.tuple #[.int .i64 v, .int .i64 n]) ∧ w' = w := by
  unfold maxLen at hs
  have hb0 : 0 ≤ base := by omega
  have hb1 : base ≤ 16 := by omega
  clear hb
  go_enter Tryz.func124, Tryz.ntmps124
  go_wp2
  go_loop [6, 7] (fun v i => ∃ (x : Int) (k : Nat), k ≤ s.size ∧ 0 ≤ x ∧ x ≤ 1000001 ∧ i = .int .i64 k ∧ v = .int .i64 x ∧ digs base 0 0 (L s) = digs base x k ((L s).drop k)) (fun _ i => s.size - (intOf i).toNat)
  case atStart => exact ⟨0, 0, Nat.zero_le _, by omega, by omega, rfl, rfl, by rw [List.drop_zero]⟩
  case round =>
    obtain ⟨x, k, hk, hx0, hx1, rfl, rfl, hd⟩ := hrel
    have HD := hid hd
    clear hd
    by_cases hlt : k < s.size
    · have hx2 : 0 ≤ x * base := Int.mul_nonneg hx0 hb0
      have hx3 : x * base ≤ 1000001 * 16 := Int.mul_le_mul hx1 hb1 hb0 (by omega)
      have hh := hexv_lo (s[k].toNat : Int)
      by_cases hdg : hexv (s[k].toNat : Int) < base
      · have HS := hid (digs_at base x k s k hlt hdg)
        go_wp2_with (go_at_call 155; refine (digitValue_any _ _).mono ?_; rintro e w' ⟨rfl, rfl⟩)
        all_goals
          go_round
          case rel => exact ⟨min (x * base + hexv (s[k].toNat : Int)) 1000001, k + 1, by omega, by omega, by omega, by go_num, congrArg (Value.int IntKind.i64) (min_if _), by rw [HD.out, HS.out]⟩
          case measure => simp [intOf]; omega
      · have HS := hid (pair_eq (hv.out.symm.trans (HD.out.trans (digs_no base x k s k hlt hdg))))
        go_wp2_with (go_at_call 155; refine (digitValue_any _ _).mono ?_; rintro e w' ⟨rfl, rfl⟩)
        go_ret2
        obtain ⟨h1, h2⟩ := HS.out
        rw [h1, h2]
        exact ⟨rfl, rfl⟩
    · have HS := hid (pair_eq (hv.out.symm.trans (HD.out.trans (digs_out base x k s k (by omega)))))
      go_wp2
      go_ret2
      obtain ⟨h1, h2⟩ := HS.out
      rw [h1, h2]
      exact ⟨rfl, rfl⟩

set_option maxHeartbeats 400000 in
theorem findBase16_any (s : ByteArray) (w : World) (v : Int) (n : Nat) (er : Int) (hs : s.size ≤ maxLen) (h1 : 1 ≤ s.size) (hv : base16 ((L s).drop 1) = (v, n, er)) :
    Calls Tryz.prog 125 #[.string s] w fun e w' => e = .returned (.tuple #[.int .i64 v, .int .i64 n, .int .i64 er]) ∧ w' = w := by
  have hs' : (s.extract 1 s.size).size ≤ maxLen := by rw [ByteArray.size_extract]; omega
  have hle := digs_le 16 ((L s).drop 1) 0 0
  rw [List.length_drop, L_length] at hle
  unfold maxLen at hs
  rcases hg : digs 16 0 0 ((L s).drop 1) with ⟨x, k⟩
  have HG : Hid (digs 16 0 0 (L (s.extract 1 s.size)) = (x, k)) := by rw [L_suffix]; exact hg
  unfold base16 at hv
  rw [hg] at hv hle
  clear hg
  simp only at hle hv
  by_cases hn : k = 0
  · subst hn
    rw [if_pos rfl] at hv
    obtain ⟨rfl, rfl, rfl⟩ := trip_eq hv
    go_enter Tryz.func125, Tryz.ntmps125
    go_wp2_with (go_at_call 124; refine (readDigits_any _ _ _ _ _ hs' (Or.inr rfl) HG).mono ?_; rintro e w' ⟨rfl, rfl⟩)
    go_ret3
    exact ⟨rfl, rfl⟩
  · have hn' : ((k : Int) == 0) = false := by simp; omega
    rw [if_neg hn] at hv
    obtain ⟨rfl, rfl, rfl⟩ := trip_eq hv
    clear hv
    go_enter Tryz.func125, Tryz.ntmps125
    go_wp2_with (go_at_call 124; refine (readDigits_any _ _ _ _ _ hs' (Or.inr rfl) HG).mono ?_; rintro e w' ⟨rfl, rfl⟩)
    go_ret3
    exact ⟨ret_three rfl (by go_num) rfl, rfl⟩

set_option maxHeartbeats 400000 in
theorem findQuoted_any (s : ByteArray) (w : World) (v : Int) (n : Nat) (er : Int) (h1 : 1 ≤ s.size) (hv : quoted ((L s).drop 1) = (v, n, er)) :
    Calls Tryz.prog 126 #[.string s] w fun e w' => e = .returned (.tuple #[.int .i64 v, .int .i64 n, .int .i64 er]) ∧ w' = w := by
  by_cases h3 : s.size < 3
  · have hq : quoted ((L s).drop 1) = (0, 0, 4) := by
      have := L_length s
      match hl : (L s).drop 1 with
      | [] => rfl
      | [a] => rfl
      | a :: b :: r => have h := congrArg List.length hl; rw [List.length_drop, this] at h; simp at h; omega
    obtain ⟨rfl, rfl, rfl⟩ := trip_eq (hv.symm.trans hq)
    clear hv hq
    go_enter Tryz.func126, Tryz.ntmps126
    go_wp2
    go_ret3
    exact ⟨rfl, rfl⟩
  · rw [L_drop s 1 (by omega), L_drop s 2 (by omega)] at hv
    simp only [quoted] at hv
    have k3 : decide ((s.size : Int) < 3) = false := by simp; omega
    have hy := byte_bd s[1]
    by_cases ha : (s[1].toNat : Int) = 39
    · rw [if_pos (Or.inl ha)] at hv
      obtain ⟨rfl, rfl, rfl⟩ := trip_eq hv
      clear hv
      go_enter Tryz.func126, Tryz.ntmps126
      go_wp2
      go_ret3
      exact ⟨rfl, rfl⟩
    · have ka : ((s[1].toNat : Int) == 39) = false := by simp; omega
      by_cases hb : (s[2].toNat : Int) = 39
      · have kb : ((s[2].toNat : Int) != 39) = false := by simp; omega
        rw [if_neg (by omega)] at hv
        obtain ⟨rfl, rfl, rfl⟩ := trip_eq hv
        clear hv
        go_enter Tryz.func126, Tryz.ntmps126
        go_wp2
        go_ret3
        exact ⟨rfl, rfl⟩
      · have kb : ((s[2].toNat : Int) != 39) = true := by simp; omega
        rw [if_pos (Or.inr hb)] at hv
        obtain ⟨rfl, rfl, rfl⟩ := trip_eq hv
        clear hv
        go_enter Tryz.func126, Tryz.ntmps126
        go_wp2
        go_ret3
        exact ⟨rfl, rfl⟩

theorem nameB_nil (s : ByteArray) (h : s.size = 0) : nameB (L s) = false := by
  have := L_end s 0 (by omega)
  rw [List.drop_zero] at this
  rw [this]; rfl
theorem nameB_eq (s : ByteArray) (h : 0 < s.size) : nameB (L s) = (decide (s.size ≤ 8) && !digB (s[0].toNat : Int) && !regB (L s) && allNb (L s)) := by
  have h0 := L_drop s 0 h
  rw [List.drop_zero] at h0
  have hl := L_length s
  rw [h0] at hl ⊢
  rw [← hl]
  rfl
theorem allNb_at (s : ByteArray) (k : Nat) (h : k < s.size) : allNb ((L s).drop k) = (nbB (s[k].toNat : Int) && allNb ((L s).drop (k + 1))) := by
  rw [L_drop s k h]; rfl

theorem empty_of (s : ByteArray) (h : s.size = 0) : s = ⟨#[]⟩ := by
  apply L_inj
  have := L_end s 0 (by omega)
  rw [List.drop_zero] at this
  rw [this]; rfl
theorem not_empty (s : ByteArray) (h : 0 < s.size) : s.toList.isEmpty = false := by
  rw [ByteArray.toList_eq]
  have := L_length s
  unfold L at this
  cases hl : s.data.toList with
  | nil => rw [hl] at this; simp at this; omega
  | cons => rfl

set_option maxHeartbeats 800000 in
theorem IsName_any (s : ByteArray) (w : World) (hs : s.size ≤ maxLen) :
    Calls Tryz.prog 78 #[.string s] w fun e w' => e = .returned (.bool (nameB (L s))) ∧ w' = w := by
  unfold maxLen at hs
  by_cases h0 : s.size = 0
  · have HN := hid (nameB_nil s h0)
    have he := empty_of s h0
    subst he
    clear h0 hs
    go_enter Tryz.func78, Tryz.ntmps78
    go_wp2_with fail
    go_ret
    rw [HN.out]
    exact ⟨rfl, rfl⟩
  · have hpos : 0 < s.size := by omega
    have ke := not_empty s hpos
    have HN := hid (nameB_eq s hpos)
    by_cases h8 : 8 < s.size
    · have HF := hid (show nameB (L s) = false by rw [HN.out, decide_eq_false (by omega)]; rfl)
      go_enter Tryz.func78, Tryz.ntmps78
      go_wp2_with fail
      go_ret
      rw [HF.out]
      exact ⟨rfl, rfl⟩
    · have k8 : decide ((8 : Int) < s.size) = false := by simp; omega
      by_cases hd : digB (s[0].toNat : Int) = true
      · have HF := hid (show nameB (L s) = false by rw [HN.out]; simp [hd])
        go_enter Tryz.func78, Tryz.ntmps78
        go_wp2_with (first | (go_at_call 119; refine (isDigit_any _ _).mono ?_; rintro e w' ⟨rfl, rfl⟩))
        go_ret
        rw [HF.out]
        exact ⟨rfl, rfl⟩
      · have kd : digB (s[0].toNat : Int) = false := by simpa using hd
        by_cases hr : regB (L s) = true
        · have HF := hid (show nameB (L s) = false by rw [HN.out]; simp [hr])
          go_enter Tryz.func78, Tryz.ntmps78
          go_wp2_with (first | (go_at_call 119; refine (isDigit_any _ _).mono ?_; rintro e w' ⟨rfl, rfl⟩) | (go_at_call 114; refine (Register_any _ _).mono ?_; rintro e w' ⟨rfl, rfl⟩))
          go_ret
          rw [HF.out]
          exact ⟨rfl, rfl⟩
        · have kr : regB (L s) = false := by simpa using hr
          have HF := hid (show nameB (L s) = allNb (L s) by rw [HN.out, kr, kd, decide_eq_true (by omega)]; rfl)
          clear HN
          go_enter Tryz.func78, Tryz.ntmps78
          go_wp2_with (first | (go_at_call 119; refine (isDigit_any _ _).mono ?_; rintro e w' ⟨rfl, rfl⟩) | (go_at_call 114; refine (Register_any _ _).mono ?_; rintro e w' ⟨rfl, rfl⟩))
          go_loop [26] (fun i => ∃ k : Nat, k ≤ s.size ∧ i = .int .i64 k ∧ allNb (L s) = allNb ((L s).drop k)) (fun i => s.size - (intOf i).toNat)
          case atStart => exact ⟨0, Nat.zero_le _, rfl, by rw [List.drop_zero]⟩
          case round =>
            obtain ⟨k, hk, rfl, ha⟩ := hrel
            have HA := hid ha
            clear ha
            by_cases hlt : k < s.size
            · have HS := hid (allNb_at s k hlt)
              by_cases hn : nbB (s[k].toNat : Int) = true
              · go_wp2_with (first | (go_at_call 120; refine (isNameByte_any _ _).mono ?_; rintro e w' ⟨rfl, rfl⟩))
                go_round
                case rel => exact ⟨k + 1, by omega, by go_num, by rw [HA.out, HS.out, hn, Bool.true_and]⟩
                case measure => simp [intOf]; omega
              · have kn : nbB (s[k].toNat : Int) = false := by simpa using hn
                go_wp2_with (first | (go_at_call 120; refine (isNameByte_any _ _).mono ?_; rintro e w' ⟨rfl, rfl⟩))
                go_ret
                rw [HF.out, HA.out, HS.out, kn]
                exact ⟨rfl, rfl⟩
            · go_wp2
              go_ret
              rw [HF.out, HA.out, L_end s k (by omega)]
              exact ⟨rfl, rfl⟩

end Go.Proofs.YtcepppilgncdmaaGreatDoor
