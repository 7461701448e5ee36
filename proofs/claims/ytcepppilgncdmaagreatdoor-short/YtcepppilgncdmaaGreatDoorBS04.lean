/-
  What each small function of bytes of the program answers, for every byte and every word; no conditions.
-/
import Derived.Test.YtcepppilgncdmaaGreatDoorRows
import Derived.Test.YtcepppilgncdmaaGreatDoorBS01
import Derived.WalkKit
import Derived.WalkSpells
import Derived.WalkLawsBesides
namespace Go.Proofs.YtcepppilgncdmaaGreatDoor
open Go.RowKit

theorem hid {p : Prop} (h : p) : Hid p := h
theorem ret_int {k : IntKind} {a b : Int} (h : a = b) : Ending.returned (.int k a) = .returned (.int k b) := by rw [h]
theorem ret_bool {a b : Bool} (h : a = b) : Ending.returned (.bool a) = .returned (.bool b) := by rw [h]
theorem ret_two {v0 v1 u0 u1 : Value} (h0 : v0 = u0) (h1 : v1 = u1) : Ending.returned (.tuple #[v0, v1]) = .returned (.tuple #[u0, u1]) := by rw [h0, h1]
theorem ret_three {v0 v1 v2 u0 u1 u2 : Value} (h0 : v0 = u0) (h1 : v1 = u1) (h2 : v2 = u2) : Ending.returned (.tuple #[v0, v1, v2]) = .returned (.tuple #[u0, u1, u2]) := by rw [h0, h1, h2]

set_option maxHeartbeats 400000 in
theorem isDigit_any (b : Int) (w : World) :
    Calls Tryz.prog 119 #[.int .u8 b] w fun e w' => e = .returned (.bool (digB b)) ∧ w' = w := by
  by_cases h1 : 48 ≤ b <;> by_cases h2 : b ≤ 57
  all_goals
    go_enter Tryz.func119, Tryz.ntmps119
    go_wp2
    go_ret
    exact ⟨ret_bool (by simp [digB, h1, h2]), rfl⟩

set_option maxHeartbeats 400000 in
theorem isNameByte_any (b : Int) (w : World) :
    Calls Tryz.prog 120 #[.int .u8 b] w fun e w' => e = .returned (.bool (nbB b)) ∧ w' = w := by
  have hcs : b < 48 ∨ (48 ≤ b ∧ b ≤ 57) ∨ (58 ≤ b ∧ b ≤ 64) ∨ (65 ≤ b ∧ b ≤ 90) ∨ (91 ≤ b ∧ b ≤ 94) ∨ b = 95 ∨ b = 96 ∨ (97 ≤ b ∧ b ≤ 122) ∨ 123 ≤ b := by omega
  rcases hcs with h | h | h | h | h | h | h | h | h
  all_goals
    first | obtain ⟨h1, h2⟩ := h | subst h | have _ := h
    go_enter Tryz.func120, Tryz.ntmps120
    go_wp2
    go_ret
    refine ⟨ret_bool ?_, rfl⟩
    unfold nbB
    rw [Bool.eq_iff_iff]
    simp
    try omega

set_option maxHeartbeats 400000 in
theorem digitValue_any (b : Int) (w : World) :
    Calls Tryz.prog 155 #[.int .u8 b] w fun e w' => e = .returned (.int .i64 (hexv b)) ∧ w' = w := by
  have hcs : b < 48 ∨ (48 ≤ b ∧ b ≤ 57) ∨ (58 ≤ b ∧ b ≤ 96) ∨ (97 ≤ b ∧ b ≤ 102) ∨ 103 ≤ b := by omega
  rcases hcs with h | h | h | h | h
  all_goals
    first | obtain ⟨h1, h2⟩ := h | have _ := h
    go_enter Tryz.func155, Tryz.ntmps155
    go_wp2
    go_ret
    refine ⟨ret_int ?_, rfl⟩
    unfold hexv
    first | (rw [if_neg (by omega), if_neg (by omega)]) | (rw [if_pos (by omega)]) | (rw [if_neg (by omega), if_pos (by omega)]; omega)

set_option maxRecDepth 100000 in
set_option maxHeartbeats 400000 in
theorem Register_any (s : ByteArray) (w : World) :
    Calls Tryz.prog 114 #[.string s] w fun e w' => e = .returned (.tuple #[.int .i64 (regV (L s)), .bool (regB (L s))]) ∧ w' = w := by
  by_cases h2 : s.size = 2
  · have hr := regB_two s h2
    have hv := regV_two s h2
    have hz : regB (L s) = false → regV (L s) = 0 := fun h => by unfold regV; rw [h]; rfl
    have hlt : (s[1].toNat : Int) < 256 := by have := s[1].toNat_lt; omega
    obtain ⟨r, er⟩ : ∃ r, regB (L s) = r := ⟨_, rfl⟩
    obtain ⟨v, ev⟩ : ∃ v, regV (L s) = v := ⟨_, rfl⟩
    rw [er] at hr hv hz
    rw [ev] at hv hz
    rw [er, ev]
    clear er ev
    cases r with
    | true =>
      have h1 : (s[0].toNat : Int) = 114 ∧ 48 ≤ (s[1].toNat : Int) ∧ (s[1].toNat : Int) ≤ 51 := by
        have := hr.symm
        simp only [Bool.and_eq_true, decide_eq_true_eq] at this
        exact ⟨this.1.1, this.1.2, this.2⟩
      obtain ⟨h0, h3, h4⟩ := h1
      have HV := hid (hv rfl)
      clear hr hv hz
      go_enter Tryz.func114, Tryz.ntmps114
      go_wp2
      go_ret2
      rw [HV.out]
      exact ⟨rfl, rfl⟩
    | false =>
      have h1 : (¬ (s[0].toNat : Int) = 114) ∨ ((s[0].toNat : Int) = 114 ∧ (s[1].toNat : Int) < 48) ∨ ((s[0].toNat : Int) = 114 ∧ 48 ≤ (s[1].toNat : Int) ∧ 51 < (s[1].toNat : Int)) := by
        have := hr.symm
        simp only [Bool.and_eq_false_iff, decide_eq_false_iff_not] at this
        omega
      have HZ := hid (hz rfl)
      clear hr hv hz
      rcases h1 with h0 | ⟨h0, h3⟩ | ⟨h0, h3, h4⟩
      all_goals
        go_enter Tryz.func114, Tryz.ntmps114
        go_wp2
        go_ret2
        rw [HZ.out]
        exact ⟨rfl, rfl⟩
  · have HR := hid (regB_not s h2)
    have HV := hid (show regV (L s) = 0 by unfold regV; rw [regB_not s h2]; rfl)
    go_enter Tryz.func114, Tryz.ntmps114
    go_wp2
    go_ret2
    rw [HR.out, HV.out]
    exact ⟨rfl, rfl⟩

end Go.Proofs.YtcepppilgncdmaaGreatDoor
