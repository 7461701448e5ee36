/-
  What the document's own functions of bytes and words (package masonref) answer, said by the same plain functions.
-/
import Derived.Test.YtcepppilgncdmaaGreatDoorName
namespace Go.Proofs.YtcepppilgncdmaaGreatDoor
open Go.RowKit

def letB (b : Int) : Bool := decide ((97 ≤ b ∧ b ≤ 122) ∨ (65 ≤ b ∧ b ≤ 90) ∨ b = 95)
def hexI (b : Int) : Int := if 48 ≤ b ∧ b ≤ 57 then b - 48 else if 97 ≤ b ∧ b ≤ 102 then b - 87 else -1

theorem nb_eq (b : Int) : nbB b = (letB b || digB b) := by
  rw [Bool.eq_iff_iff]; simp [nbB, letB, digB]; omega
theorem hexI_in (b base : Int) (h : base = 10 ∨ base = 16) (hb : hexv b < base) : 0 ≤ hexI b ∧ hexI b < base ∧ hexI b = hexv b := by
  unfold hexI; unfold hexv at hb ⊢
  split
  · rename_i h1; rw [if_pos h1] at hb; omega
  · rename_i h1; rw [if_neg h1] at hb
    split
    · rename_i h2; rw [if_pos h2] at hb; omega
    · rename_i h2; rw [if_neg h2] at hb; omega
theorem hexI_out (b base : Int) (_h : base = 10 ∨ base = 16) (hb : ¬ hexv b < base) : hexI b < 0 ∨ base ≤ hexI b := by
  unfold hexI; unfold hexv at hb
  split
  · rename_i h1; rw [if_pos h1] at hb; omega
  · rename_i h1; rw [if_neg h1] at hb
    split
    · rename_i h2; rw [if_pos h2] at hb; omega
    · omega

set_option maxHeartbeats 400000 in
theorem in_any (n lo hi : Int) (w : World) :
    Calls Tryz.prog 38 #[.int .i64 n, .int .i64 lo, .int .i64 hi] w fun e w' => e = .returned (.bool (decide (lo ≤ n ∧ n ≤ hi))) ∧ w' = w := by
  by_cases h1 : lo ≤ n <;> by_cases h2 : n ≤ hi
  all_goals
    go_enter Tryz.func38, Tryz.ntmps38
    go_wp2
    go_ret
    exact ⟨ret_bool (by simp [h1, h2]), rfl⟩

set_option maxHeartbeats 400000 in
theorem digit_any (b : Int) (w : World) :
    Calls Tryz.prog 54 #[.int .u8 b] w fun e w' => e = .returned (.bool (digB b)) ∧ w' = w := by
  by_cases h1 : 48 ≤ b <;> by_cases h2 : b ≤ 57
  all_goals
    go_enter Tryz.func54, Tryz.ntmps54
    go_wp2
    go_ret
    exact ⟨ret_bool (by simp [digB, h1, h2]), rfl⟩

set_option maxHeartbeats 400000 in
theorem letter_any (b : Int) (w : World) :
    Calls Tryz.prog 55 #[.int .u8 b] w fun e w' => e = .returned (.bool (letB b)) ∧ w' = w := by
  have hcs : b < 65 ∨ (65 ≤ b ∧ b ≤ 90) ∨ (91 ≤ b ∧ b ≤ 94) ∨ b = 95 ∨ b = 96 ∨ (97 ≤ b ∧ b ≤ 122) ∨ 123 ≤ b := by omega
  rcases hcs with h | h | h | h | h | h | h
  all_goals
    first | obtain ⟨h1, h2⟩ := h | subst h | have _ := h
    go_enter Tryz.func55, Tryz.ntmps55
    go_wp2
    go_ret
    refine ⟨ret_bool ?_, rfl⟩
    unfold letB
    rw [Bool.eq_iff_iff]
    simp
    try omega

set_option maxHeartbeats 400000 in
theorem hex_any (b : Int) (w : World) :
    Calls Tryz.prog 86 #[.int .u8 b] w fun e w' => e = .returned (.int .i64 (hexI b)) ∧ w' = w := by
  have hcs : b < 48 ∨ (48 ≤ b ∧ b ≤ 57) ∨ (58 ≤ b ∧ b ≤ 96) ∨ (97 ≤ b ∧ b ≤ 102) ∨ 103 ≤ b := by omega
  rcases hcs with h | h | h | h | h
  all_goals
    first | obtain ⟨h1, h2⟩ := h | have _ := h
    go_enter Tryz.func86, Tryz.ntmps86
    go_wp2
    go_ret
    refine ⟨ret_int ?_, rfl⟩
    unfold hexI
    first | (rw [if_neg (by omega), if_neg (by omega)]) | (rw [if_pos (by omega)]) | (rw [if_neg (by omega), if_pos (by omega)]; omega)

def regI (l : List UInt8) : Int := if regB l then ((l.getD 1 0).toNat : Int) - 48 else -1
theorem regI_neg (l : List UInt8) : decide (regI l < 0) = !regB l := by
  unfold regI
  cases h : regB l with
  | true =>
    unfold regB at h
    split at h
    · simp at h; simp; omega
    · cases h
  | false => simp

set_option maxHeartbeats 400000 in
theorem register_any (s : ByteArray) (w : World) :
    Calls Tryz.prog 87 #[.string s] w fun e w' => e = .returned (.int .i64 (regI (L s))) ∧ w' = w := by
  by_cases h2 : s.size = 2
  · have hr := regB_two s h2
    have hb := byte_bd s[1]
    have HI := hid (show (L s).getD 1 0 = s[1] by
      have h0 := L_drop s 0 (by omega)
      have h1 := L_drop s 1 (by omega)
      rw [List.drop_zero] at h0
      rw [h0, h1]; rfl)
    by_cases a1 : (s[0].toNat : Int) = 114
    · by_cases a2 : (48 : Int) ≤ (s[1].toNat : Int)
      · by_cases a3 : (s[1].toNat : Int) ≤ 51
        · have HR := hid (show regI (L s) = (s[1].toNat : Int) - 48 by unfold regI; rw [hr, HI.out, decide_eq_true a1, decide_eq_true (show ((48 : Nat) : Int) ≤ _ from a2), decide_eq_true a3]; rfl)
          clear hr
          have k1 : ((s[0].toNat : Int) == 114) = true := by simpa using a1
          clear a1
          go_enter Tryz.func87, Tryz.ntmps87
          go_wp2
          go_ret
          rw [HR.out]
          exact ⟨ret_int rfl, rfl⟩
        · have HR := hid (show regI (L s) = -1 by unfold regI; rw [hr, decide_eq_false a3, Bool.and_false]; rfl)
          clear hr
          go_enter Tryz.func87, Tryz.ntmps87
          go_wp2
          go_ret
          rw [HR.out]
          exact ⟨ret_int rfl, rfl⟩
      · have HR := hid (show regI (L s) = -1 by unfold regI; rw [hr, decide_eq_false (show ¬ ((48 : Nat) : Int) ≤ _ from a2), Bool.and_false, Bool.false_and]; rfl)
        clear hr
        go_enter Tryz.func87, Tryz.ntmps87
        go_wp2
        go_ret
        rw [HR.out]
        exact ⟨ret_int rfl, rfl⟩
    · have HR := hid (show regI (L s) = -1 by unfold regI; rw [hr, decide_eq_false a1, Bool.false_and, Bool.false_and]; rfl)
      clear hr
      go_enter Tryz.func87, Tryz.ntmps87
      go_wp2
      go_ret
      rw [HR.out]
      exact ⟨ret_int rfl, rfl⟩
  · have HR := hid (show regI (L s) = -1 by unfold regI; rw [regB_not s h2]; rfl)
    go_enter Tryz.func87, Tryz.ntmps87
    go_wp2
    go_ret
    rw [HR.out]
    exact ⟨ret_int rfl, rfl⟩

set_option maxHeartbeats 400000 in
theorem word_any (s : ByteArray) (i : Nat) (w : World) (m : Nat) (hs : s.size ≤ maxLen) (hi : i ≤ s.size) (hv : wordLen ((L s).drop i) = m) :
    Calls Tryz.prog 57 #[.string s, .int .i64 i] w fun e w' => e = .returned (.int .i64 m) ∧ w' = w := by
  unfold maxLen at hs
  have HV := hid hv
  have hm : m ≤ s.size - i := by
    have := wordLen_le ((L s).drop i)
    rw [hv, List.length_drop, L_length] at this
    exact this
  clear hv
  go_enter Tryz.func57, Tryz.ntmps57
  go_wp2
  go_loop [5] (fun n => ∃ k : Nat, i + k ≤ s.size ∧ k ≤ m ∧ n = .int .i64 k ∧ m = k + wordLen ((L s).drop (i + k))) (fun n => s.size - (intOf n).toNat)
  case atStart => exact ⟨0, by omega, by omega, rfl, by rw [Nat.add_zero, HV.out]; omega⟩
  case round =>
    obtain ⟨k, hk, hkm, rfl, ha⟩ := hrel
    have HA := hid ha
    clear ha
    by_cases hlt : i + k < s.size
    · have hb := nb_eq (s[i + k].toNat : Int)
      by_cases hn : nbB (s[i + k].toNat : Int) = true
      · have HS := hid (wordLen_at s (i + k) hlt hn)
        have hor : letB (s[i + k].toNat : Int) = true ∨ (letB (s[i + k].toNat : Int) = false ∧ digB (s[i + k].toNat : Int) = true) := by
          rw [hn] at hb
          cases h1 : letB (s[i + k].toNat : Int) <;> simp [h1] at hb ⊢
          exact hb
        have hkm' : k < m := by have := HA.out; rw [HS.out] at this; omega
        clear hb hn
        rcases hor with h1 | ⟨h1, h2⟩
        all_goals
          go_wp2_with (first | (go_at_call 55; refine (letter_any _ _).mono ?_; rintro e w' ⟨rfl, rfl⟩) | (go_at_call 54; refine (digit_any _ _).mono ?_; rintro e w' ⟨rfl, rfl⟩))
          go_round
          case rel => exact ⟨k + 1, by omega, by omega, by go_num, by rw [show i + (k + 1) = i + k + 1 from by omega]; have := HA.out; rw [HS.out] at this; omega⟩
          case measure => simp [intOf]; omega
      · have hn' : nbB (s[i + k].toNat : Int) = false := by simpa using hn
        have HS := hid (wordLen_no s (i + k) hlt hn')
        have hkm' : k = m := by have := HA.out; rw [HS.out] at this; omega
        rw [hn'] at hb
        have h1 : letB (s[i + k].toNat : Int) = false := by cases h1 : letB (s[i + k].toNat : Int) <;> simp [h1] at hb ⊢
        have h2 : digB (s[i + k].toNat : Int) = false := by cases h2 : digB (s[i + k].toNat : Int) <;> simp [h2] at hb ⊢
        clear hb hn hn' HA HS HV
        subst hkm'
        go_wp2_with (first | (go_at_call 55; refine (letter_any _ _).mono ?_; rintro e w' ⟨rfl, rfl⟩) | (go_at_call 54; refine (digit_any _ _).mono ?_; rintro e w' ⟨rfl, rfl⟩))
        go_ret
        exact ⟨rfl, rfl⟩
    · have hkm' : k = m := by have := HA.out; rw [L_end s (i + k) (by omega)] at this; simp [wordLen] at this; omega
      clear HA HV
      subst hkm'
      go_wp2
      go_ret
      exact ⟨rfl, rfl⟩

theorem L_head' (s : ByteArray) (h : 0 < s.size) : L s = s[0] :: (L s).drop 1 := by
  have := L_drop s 0 h
  rw [List.drop_zero] at this
  exact this

theorem word_all (s : ByteArray) : (wordLen (L s) = s.size) ↔ allNb (L s) = true := by
  rw [← L_length]
  generalize L s = l
  induction l with
  | nil => simp [wordLen, allNb]
  | cons c r ih =>
    have hle := wordLen_le r
    simp only [wordLen, allNb, List.all_cons, Bool.and_eq_true, List.length_cons]
    cases h : nbB (c.toNat : Int) with
    | true =>
      rw [if_pos rfl]
      unfold allNb at ih
      rw [← ih]
      simp
    | false => rw [if_neg (by simp)]; simp

theorem name_ref (s : ByteArray) (h1 : 1 ≤ s.size) (h8 : s.size ≤ 8) : nameB (L s) = (decide (wordLen (L s) = s.size) && letB (s[0].toNat : Int) && decide (regI (L s) < 0)) := by
  rw [nameB_eq s h1, regI_neg, decide_eq_true h8]
  have hb := nb_eq (s[0].toNat : Int)
  have ha := word_all s
  cases hall : allNb (L s) with
  | false =>
    rw [hall] at ha
    rw [decide_eq_false (by rw [ha]; simp)]
    simp
  | true =>
    rw [hall] at ha
    rw [decide_eq_true (ha.2 rfl)]
    have hn : nbB (s[0].toNat : Int) = true := by
      rw [L_head' s h1] at hall
      simp only [allNb, List.all_cons, Bool.and_eq_true] at hall
      exact hall.1
    rw [hn] at hb
    have hx : letB (s[0].toNat : Int) = !digB (s[0].toNat : Int) := by
      cases hl : letB (s[0].toNat : Int) with
      | true =>
        cases hd : digB (s[0].toNat : Int) with
        | true => exfalso; simp [letB] at hl; simp [digB] at hd; omega
        | false => rfl
      | false => rw [hl, Bool.false_or] at hb; rw [← hb]; rfl
    rw [hx]
    simp

set_option maxHeartbeats 800000 in
theorem refName_any (s : ByteArray) (w : World) (hs : s.size ≤ maxLen) :
    Calls Tryz.prog 58 #[.string s] w fun e w' => e = .returned (.bool (nameB (L s))) ∧ w' = w := by
  have hs' := hs
  unfold maxLen at hs'
  by_cases h1 : s.size < 1
  · have HN := hid (nameB_nil s (by omega))
    have k1 : decide ((s.size : Int) < 1) = true := by simp; omega
    go_enter Tryz.func58, Tryz.ntmps58
    go_wp2_with fail
    go_ret
    rw [HN.out]
    exact ⟨rfl, rfl⟩
  · have k1 : decide ((s.size : Int) < 1) = false := by simp; omega
    by_cases h8 : 8 < s.size
    · have HN := hid (show nameB (L s) = false by rw [nameB_eq s (by omega), decide_eq_false (by omega)]; rfl)
      have k8 : decide ((8 : Int) < s.size) = true := by simp; omega
      go_enter Tryz.func58, Tryz.ntmps58
      go_wp2_with fail
      go_ret
      rw [HN.out]
      exact ⟨rfl, rfl⟩
    · have k8 : decide ((8 : Int) < s.size) = false := by simp; omega
      have HN := hid (name_ref s (by omega) (by omega))
      obtain ⟨m, hm⟩ : ∃ m, wordLen (L s) = m := ⟨_, rfl⟩
      obtain ⟨q, hq⟩ : ∃ q, regI (L s) = q := ⟨_, rfl⟩
      obtain ⟨lt, hlt⟩ : ∃ q, letB (s[0].toNat : Int) = q := ⟨_, rfl⟩
      have HM := hid (show wordLen ((L s).drop 0) = m by rw [List.drop_zero]; exact hm)
      have HQ := hid hq
      have HLT := hid hlt
      have hN := HN.out
      rw [hm, hq, hlt] at hN
      have HN2 := hid hN
      clear hN HN hm hq hlt
      by_cases e1 : m = s.size
      · have b1 : ((m : Int) == (s.size : Int)) = true := by rw [beq_iff_eq]; omega
        cases lt with
        | true =>
          go_enter Tryz.func58, Tryz.ntmps58
          go_wp2_with (first | (go_at_call 57; refine (word_any s 0 _ m hs (Nat.zero_le _) HM.out).mono ?_; rintro e w' ⟨rfl, rfl⟩) | (go_at_call 55; refine (letter_any _ _).mono ?_; rw [HLT.out]; rintro e w' ⟨rfl, rfl⟩) | (go_at_call 87; refine (register_any _ _).mono ?_; rw [HQ.out]; rintro e w' ⟨rfl, rfl⟩))
          go_ret
          rw [HN2.out]
          exact ⟨ret_bool (by simp [e1]), rfl⟩
        | false =>
          go_enter Tryz.func58, Tryz.ntmps58
          go_wp2_with (first | (go_at_call 57; refine (word_any s 0 _ m hs (Nat.zero_le _) HM.out).mono ?_; rintro e w' ⟨rfl, rfl⟩) | (go_at_call 55; refine (letter_any _ _).mono ?_; rw [HLT.out]; rintro e w' ⟨rfl, rfl⟩) | (go_at_call 87; refine (register_any _ _).mono ?_; rw [HQ.out]; rintro e w' ⟨rfl, rfl⟩))
          go_ret
          rw [HN2.out]
          exact ⟨ret_bool (by simp), rfl⟩
      · have b1 : ((m : Int) == (s.size : Int)) = false := by rw [beq_eq_false_iff_ne]; omega
        go_enter Tryz.func58, Tryz.ntmps58
        go_wp2_with (first | (go_at_call 57; refine (word_any s 0 _ m hs (Nat.zero_le _) HM.out).mono ?_; rintro e w' ⟨rfl, rfl⟩) | (go_at_call 55; refine (letter_any _ _).mono ?_; rw [HLT.out]; rintro e w' ⟨rfl, rfl⟩) | (go_at_call 87; refine (register_any _ _).mono ?_; rw [HQ.out]; rintro e w' ⟨rfl, rfl⟩))
        go_ret
        rw [HN2.out]
        exact ⟨ret_bool (by simp [e1]), rfl⟩

def foundI : Option Int → Int
  | some v => v
  | none => 0

set_option maxHeartbeats 800000 in
theorem find_any (s : ByteArray) (a : Option Addr) (cap : Nat) (ns : List (ByteArray × Int)) (w : World) (o : Option Int) (hl : ns.length ≤ maxLen) (hn : NamesAt w a ns) (hv : findN (plainN ns) (L s) = o) :
    Calls Tryz.prog 59 #[.slice a ns.length cap, .string s] w fun e w' => e = .returned (.tuple #[.int .i64 (foundI o), .bool o.isSome]) ∧ w' = w := by
  unfold maxLen at hl
  have HV := hid hv
  have HN := hid hn
  clear hv hn
  go_enter Tryz.func59, Tryz.ntmps59
  go_wp2
  go_loop [6] (fun i => ∃ j : Nat, j ≤ ns.length ∧ i = .int .i64 j ∧ findN (plainN (ns.drop j)) (L s) = o) (fun i => ns.length - (intOf i).toNat)
  case atStart => exact ⟨0, Nat.zero_le _, rfl, by rw [List.drop_zero]; exact HV.out⟩
  case round =>
    obtain ⟨j, hj, rfl, hfd⟩ := hrel
    have HFD := hid hfd
    clear hfd
    by_cases hjl : j < ns.length
    · rcases HN.out with h | ⟨b, off, ha, hbl, hc⟩
      · rw [h] at hjl; simp at hjl
      · subst ha
        obtain ⟨c1, c2⟩ := hc j hjl
        clear hc
        have HS := hid (findN_at ns (L s) j hjl)
        by_cases heq : L ns[j].1 = L s
        · have ke := beq_of_L heq
          have hr : some ns[j].2 = o := by have := HFD.out; rw [HS.out, if_pos heq] at this; exact this
          clear HS HFD heq HV
          subst hr
          go_wp2
          go_ret2
          exact ⟨rfl, rfl⟩
        · have ke := nbeq_of_L heq
          have HR := hid (show findN (plainN (ns.drop (j + 1))) (L s) = o by have := HFD.out; rw [HS.out, if_neg heq] at this; exact this)
          clear HS HFD heq
          go_wp2
          go_round
          case rel => exact ⟨j + 1, by omega, by go_num, HR.out⟩
          case measure => simp [intOf]; omega
    · have hr : none = o := by have := HFD.out; rw [findN_end _ _ _ (by omega)] at this; exact this
      clear HFD HV
      subst hr
      go_wp2
      go_ret2
      exact ⟨rfl, rfl⟩

set_option maxHeartbeats 800000 in
theorem refNumber_any (s : ByteArray) (i : Nat) (base : Int) (w : World) (v : Int) (n : Nat) (hs : s.size ≤ maxLen) (hi : i ≤ s.size) (hb : base = 10 ∨ base = 16) (hv : digs base 0 0 ((L s).drop i) = (v, n)) :
    Calls Tryz.prog 56 #[.string s, .int .i64 i, .int .i64 base] w fun e w' => e = .returned (.tuple #[.int .i64 v, .int .i64 n]) ∧ w' = w := by
  unfold maxLen at hs
  have HV := hid hv
  have HBS := hid hb
  have hb0 : 0 ≤ base := by omega
  have hb1 : base ≤ 16 := by omega
  clear hb hv
  go_enter Tryz.func56, Tryz.ntmps56
  go_wp2
  go_loop [8, 9] (fun x y => ∃ (z : Int) (k : Nat), i + k ≤ s.size ∧ 0 ≤ z ∧ z ≤ 1000001 ∧ y = .int .i64 k ∧ x = .int .i64 z ∧ digs base z k ((L s).drop (i + k)) = (v, n)) (fun _ y => s.size - (intOf y).toNat)
  case atStart => exact ⟨0, 0, by omega, by omega, by omega, rfl, rfl, HV.out⟩
  case round =>
    obtain ⟨z, k, hk, hx0, hx1, rfl, rfl, hd⟩ := hrel
    have HD := hid hd
    clear hd
    by_cases hlt : i + k < s.size
    · have hx2 : 0 ≤ z * base := Int.mul_nonneg hx0 hb0
      have hx3 : z * base ≤ 1000001 * 16 := Int.mul_le_mul hx1 hb1 hb0 (by omega)
      by_cases hdg : hexv (s[i + k].toNat : Int) < base
      · obtain ⟨q1, q2, q3⟩ := hexI_in _ _ HBS.out hdg
        have HS := hid (digs_at base z k s (i + k) hlt hdg)
        have HQ := hid q3
        have k1 : decide (hexI (s[i + k].toNat : Int) < 0) = false := by simpa using q1
        have k2 : decide (base ≤ hexI (s[i + k].toNat : Int)) = false := by simpa using q2
        clear q3 hdg
        go_wp2_with (first | (go_at_call 86; refine (hex_any _ _).mono ?_; rintro e w' ⟨rfl, rfl⟩))
        all_goals
          go_round
          case rel => exact ⟨min (z * base + hexI (s[i + k].toNat : Int)) 1000001, k + 1, by omega, by omega, by omega, by go_num, congrArg (Value.int IntKind.i64) (min_if _), by rw [HQ.out, show i + (k + 1) = i + k + 1 from by omega, ← HS.out]; exact HD.out⟩
          case measure => simp [intOf]; omega
      · have hq := hexI_out _ _ HBS.out hdg
        obtain ⟨h1, h2⟩ := pair_eq (HD.out.symm.trans (digs_no base z k s (i + k) hlt hdg))
        clear hdg HD HV
        subst h1 h2
        by_cases hneg : hexI (s[i + n].toNat : Int) < 0
        · have k1 : decide (hexI (s[i + n].toNat : Int) < 0) = true := by simpa using hneg
          go_wp2_with (first | (go_at_call 86; refine (hex_any _ _).mono ?_; rintro e w' ⟨rfl, rfl⟩))
          go_ret2
          exact ⟨rfl, rfl⟩
        · have k1 : decide (hexI (s[i + n].toNat : Int) < 0) = false := by simpa using hneg
          have k2 : decide (base ≤ hexI (s[i + n].toNat : Int)) = true := by simp; omega
          go_wp2_with (first | (go_at_call 86; refine (hex_any _ _).mono ?_; rintro e w' ⟨rfl, rfl⟩))
          go_ret2
          exact ⟨rfl, rfl⟩
    · obtain ⟨h1, h2⟩ := pair_eq (HD.out.symm.trans (digs_out base z k s (i + k) (by omega)))
      clear HD HV
      subst h1 h2
      go_wp2
      go_ret2
      exact ⟨rfl, rfl⟩

end Go.Proofs.YtcepppilgncdmaaGreatDoor
