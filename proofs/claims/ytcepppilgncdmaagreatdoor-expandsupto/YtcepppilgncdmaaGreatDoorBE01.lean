/-
  The plain functions on bytes and numbers by which the program's answers are said, and what holds of them; nothing of the program stands here.
  What each small function of bytes of the program answers, for every byte and every word; no conditions.
  What each reading function of package expression answers, said by the plain functions; a text has at most as many bytes as a Go text can have.
-/
import Derived.KernelRfl
import Derived.Test.YtcepppilgncdmaaGreatDoorRows
import Derived.WalkKit
import Derived.WalkSpells
import Derived.WalkLawsBesides
namespace Go.Proofs.YtcepppilgncdmaaGreatDoor

def digB (b : Int) : Bool := decide (48 ≤ b ∧ b ≤ 57)
def nbB (b : Int) : Bool := decide ((97 ≤ b ∧ b ≤ 122) ∨ (65 ≤ b ∧ b ≤ 90) ∨ (48 ≤ b ∧ b ≤ 57) ∨ b = 95)
def hexv (b : Int) : Int := if 48 ≤ b ∧ b ≤ 57 then b - 48 else if 97 ≤ b ∧ b ≤ 102 then b - 87 else 16

/-- The bytes of a text. -/
def L (s : ByteArray) : List UInt8 := s.data.toList

theorem L_length (s : ByteArray) : (L s).length = s.size := by unfold L; rw [Array.length_toList]; rfl
theorem L_drop (s : ByteArray) (k : Nat) (h : k < s.size) : (L s).drop k = s[k] :: (L s).drop (k + 1) := by
  unfold L
  rw [List.drop_eq_getElem_cons (by simpa using h)]
  rfl
theorem L_end (s : ByteArray) (k : Nat) (h : s.size ≤ k) : (L s).drop k = [] := by
  apply List.drop_eq_nil_of_le; rw [L_length]; exact h
theorem L_inj {s t : ByteArray} (h : L s = L t) : s = t := by
  unfold L at h
  exact ByteArray.ext (Array.toList_inj.1 h)
theorem L_extract (s : ByteArray) (a b : Nat) : L (s.extract a b) = ((L s).take b).drop a := by
  unfold L
  rw [ByteArray.data_extract, Array.toList_extract, List.extract_eq_drop_take', List.drop_take]
theorem L_suffix (s : ByteArray) (a : Nat) : L (s.extract a s.size) = (L s).drop a := by
  rw [L_extract, List.take_of_length_le (by rw [L_length]; exact Nat.le_refl _)]
theorem L_prefix (s : ByteArray) (b : Nat) : L (s.extract 0 b) = (L s).take b := by
  rw [L_extract, List.drop_zero]

theorem L_append (a b : ByteArray) : L (a ++ b) = L a ++ L b := by
  unfold L
  rw [ByteArray.data_append, Array.toList_append]
theorem L_push (c : UInt8) (b : ByteArray) : L ((⟨#[c]⟩ : ByteArray) ++ b) = c :: L b := by
  rw [L_append]; rfl

def regB (l : List UInt8) : Bool := match l with
  | [a, b] => decide ((a.toNat : Int) = 114) && decide (48 ≤ (b.toNat : Int)) && decide ((b.toNat : Int) ≤ 51)
  | _ => false

theorem regB_two (s : ByteArray) (h : s.size = 2) : regB (L s) = (decide ((s[0].toNat : Int) = 114) && decide (48 ≤ (s[1].toNat : Int)) && decide ((s[1].toNat : Int) ≤ 51)) := by
  have h0 := L_drop s 0 (by omega)
  have h1 := L_drop s 1 (by omega)
  have h2 := L_end s 2 (by omega)
  rw [List.drop_zero] at h0
  rw [h0, h1, h2]
  rfl
/-- The number of a register; 0: it is none. -/
def regV (l : List UInt8) : Int := if regB l then ((l.getD 1 0).toNat : Int) - 48 else 0
theorem regV_two (s : ByteArray) (h : s.size = 2) (hr : regB (L s) = true) : regV (L s) = (s[1].toNat : Int) - 48 := by
  have h1 : (L s).getD 1 0 = s[1] := by
    have : 1 < (L s).length := by rw [L_length]; omega
    rw [List.getD_eq_getElem?_getD, List.getElem?_eq_getElem this]
    rfl
  unfold regV
  rw [if_pos hr, h1]
theorem regB_not (s : ByteArray) (h : s.size ≠ 2) : regB (L s) = false := by
  have h0 := L_length s
  unfold regB
  split
  · rename_i e; rw [e] at h0; simp at h0; omega
  · rfl

def allNb (l : List UInt8) : Bool := l.all fun c => nbB c.toNat
def nameB (l : List UInt8) : Bool := match l with
  | [] => false
  | c :: r => decide ((c :: r).length ≤ 8) && !digB c.toNat && !regB (c :: r) && allNb (c :: r)

def wordLen : List UInt8 → Nat
  | [] => 0
  | c :: r => if nbB c.toNat then wordLen r + 1 else 0

def digs (base : Int) : Int → Nat → List UInt8 → Int × Nat
  | v, n, [] => (v, n)
  | v, n, c :: r => if hexv c.toNat < base then digs base (min (v * base + hexv c.toNat) 1000001) (n + 1) r else (v, n)

def findN : List (List UInt8 × Int) → List UInt8 → Option Int
  | [], _ => none
  | (n, v) :: r, w => if n = w then some v else findN r w

def quoted : List UInt8 → Int × Nat × Int
  | a :: b :: _ => if (a.toNat : Int) = 39 ∨ (b.toNat : Int) ≠ 39 then (0, 0, 4) else (a.toNat, 3, 0)
  | _ => (0, 0, 4)

def named (l : List UInt8) (ns : List (List UInt8 × Int)) : Int × Nat × Int :=
  if nameB (l.take (wordLen l)) then
    match findN ns (l.take (wordLen l)) with
    | some v => (v, wordLen l, 0)
    | none => (0, 0, 6)
  else (0, 0, 4)

def base16 (r : List UInt8) : Int × Nat × Int := if (digs 16 0 0 r).2 = 0 then (0, 0, 4) else ((digs 16 0 0 r).1, 1 + (digs 16 0 0 r).2, 0)

def term (at_ : Int) (ns : List (List UInt8 × Int)) : List UInt8 → Int × Nat × Int
  | [] => (0, 0, 4)
  | c :: r =>
    if digB c.toNat then ((digs 10 0 0 (c :: r)).1, (digs 10 0 0 (c :: r)).2, 0)
    else if (c.toNat : Int) = 36 then base16 r
    else if (c.toNat : Int) = 39 then quoted r
    else if (c.toNat : Int) = 46 then (at_, 1, 0)
    else named (c :: r) ns

def readT (at_ : Int) (ns : List (List UInt8 × Int)) (l : List UInt8) : Int × List UInt8 × Int :=
  if (term at_ ns l).2.2 ≠ 0 then (0, [], (term at_ ns l).2.2)
  else if (term at_ ns l).1 < -1000000 ∨ 1000000 < (term at_ ns l).1 then (0, [], 7)
  else ((term at_ ns l).1, l.drop (term at_ ns l).2.1, 0)

def step (sum sign number : Int) : Int := if sign = 43 then sum + number else if sign = 45 then sum - number else if sign = 42 then sum * number else sum
def reck (sum sign number : Int) : Int × Int := if step sum sign number < -1000000 ∨ 1000000 < step sum sign number then (0, 7) else (step sum sign number, 0)

def eval (at_ : Int) (ns : List (List UInt8 × Int)) : Nat → Int → Int → List UInt8 → Int × Int
  | 0, _, _, _ => (0, 0)
  | f + 1, sum, sign, l =>
    if (readT at_ ns l).2.2 ≠ 0 then (0, (readT at_ ns l).2.2)
    else if (reck sum sign (readT at_ ns l).1).2 ≠ 0 then (0, (reck sum sign (readT at_ ns l).1).2)
    else match (readT at_ ns l).2.1 with
      | [] => ((reck sum sign (readT at_ ns l).1).1, 0)
      | c :: r => if (c.toNat : Int) = 43 ∨ (c.toNat : Int) = 45 ∨ (c.toNat : Int) = 42 then eval at_ ns f (reck sum sign (readT at_ ns l).1).1 c.toNat r else (0, 4)

def value (at_ : Int) (ns : List (List UInt8 × Int)) (l : List UInt8) : Int × Int :=
  match l with
  | [] => eval at_ ns 1 0 43 []
  | c :: r => if (c.toNat : Int) = 45 then eval at_ ns (r.length + 1) 0 45 r else eval at_ ns (r.length + 2) 0 43 (c :: r)

def evalS (at_ : Int) (ns : List (List UInt8 × Int)) (f : Nat) (sum : Int) : List UInt8 → Int × Int
  | [] => (sum, 0)
  | c :: r => if (c.toNat : Int) = 43 ∨ (c.toNat : Int) = 45 ∨ (c.toNat : Int) = 42 then eval at_ ns f sum c.toNat r else (0, 4)

theorem eval_bad {at_ : Int} {ns : List (List UInt8 × Int)} {l r : List UInt8} {x y : Int} (h : readT at_ ns l = (x, r, y)) (hy : y ≠ 0) (f : Nat) (sm sg : Int) : eval at_ ns (f + 1) sm sg l = (0, y) := by
  simp only [eval, h]; rw [if_pos hy]
theorem eval_far {at_ : Int} {ns : List (List UInt8 × Int)} {l r : List UInt8} {x : Int} (h : readT at_ ns l = (x, r, 0)) (f : Nat) {sm sg z q : Int} (hr : reck sm sg x = (z, q)) (hq : q ≠ 0) : eval at_ ns (f + 1) sm sg l = (0, q) := by
  simp only [eval, h, hr]; rw [if_neg (by simp), if_pos hq]
theorem eval_on {at_ : Int} {ns : List (List UInt8 × Int)} {l r : List UInt8} {x : Int} (h : readT at_ ns l = (x, r, 0)) (f : Nat) {sm sg z : Int} (hr : reck sm sg x = (z, 0)) : eval at_ ns (f + 1) sm sg l = evalS at_ ns f z r := by
  simp only [eval, h, hr]; rw [if_neg (by simp), if_neg (by simp)]
  cases r <;> rfl
theorem readT_bd {at_ : Int} {ns : List (List UInt8 × Int)} {l r : List UInt8} {x : Int} (h : readT at_ ns l = (x, r, 0)) : -1000000 ≤ x ∧ x ≤ 1000000 := by
  unfold readT at h
  split at h
  · rename_i h1; injection h with _ h; injection h with _ h; exact absurd h h1
  · split at h
    · injection h with _ h; injection h with _ h; omega
    · injection h with h _; omega
theorem reck_bd {sm sg x z : Int} (h : reck sm sg x = (z, 0)) : -1000000 ≤ z ∧ z ≤ 1000000 := by
  unfold reck at h
  split at h
  · injection h with _ h; omega
  · injection h with h _; omega
theorem value_minus (at_ : Int) (ns : List (List UInt8 × Int)) (c : UInt8) (r : List UInt8) (h : (c.toNat : Int) = 45) : value at_ ns (c :: r) = evalS at_ ns (r.length + 1) 0 (c :: r) := by
  simp only [value, evalS]; rw [if_pos h, if_pos (Or.inr (Or.inl h)), h]
theorem value_plain (at_ : Int) (ns : List (List UInt8 × Int)) (c : UInt8) (r : List UInt8) (h : ¬ (c.toNat : Int) = 45) : value at_ ns (c :: r) = eval at_ ns (r.length + 2) 0 43 (c :: r) := by
  simp only [value]; rw [if_neg h]
theorem value_nil (at_ : Int) (ns : List (List UInt8 × Int)) : value at_ ns [] = eval at_ ns 1 0 43 [] := rfl

theorem mul_bd (a b : Int) (a1 : -1000000 ≤ a) (a2 : a ≤ 1000000) (b1 : -1000000 ≤ b) (b2 : b ≤ 1000000) : -1000000000000 ≤ a * b ∧ a * b ≤ 1000000000000 := by
  have h1 : (a.natAbs) * (b.natAbs) ≤ 1000000 * 1000000 := Nat.mul_le_mul (by omega) (by omega)
  rw [← Int.natAbs_mul] at h1
  omega

theorem hexv_lo (b : Int) : 0 ≤ hexv b ∧ hexv b ≤ 16 := by unfold hexv; split <;> (try split) <;> omega

theorem digs_le (base : Int) (l : List UInt8) : ∀ v n, n ≤ (digs base v n l).2 ∧ (digs base v n l).2 ≤ n + l.length := by
  induction l with
  | nil => intro v n; simp [digs]
  | cons c r ih =>
    intro v n
    simp only [digs]
    split
    · have := ih (min (v * base + hexv c.toNat) 1000001) (n + 1)
      simp only [List.length_cons]; omega
    · simp

theorem digs_bd (base : Int) (hb : 0 ≤ base) (l : List UInt8) : ∀ v n, 0 ≤ v → v ≤ 1000001 → 0 ≤ (digs base v n l).1 ∧ (digs base v n l).1 ≤ 1000001 := by
  induction l with
  | nil => intro v n h0 h1; exact ⟨h0, h1⟩
  | cons c r ih =>
    intro v n h0 h1
    simp only [digs]
    split
    · have := hexv_lo c.toNat
      have h2 : 0 ≤ v * base := Int.mul_nonneg h0 hb
      exact ih _ _ (by omega) (by omega)
    · exact ⟨h0, h1⟩

theorem wordLen_le (l : List UInt8) : wordLen l ≤ l.length := by
  induction l with
  | nil => simp [wordLen]
  | cons c r ih => simp only [wordLen]; split <;> simp <;> omega

theorem quoted_len (r : List UInt8) : (quoted r).2.1 ≤ r.length + 1 := by
  unfold quoted
  split
  · split <;> simp
  · simp

theorem term_len (at_ : Int) (ns : List (List UInt8 × Int)) (l : List UInt8) : (term at_ ns l).2.1 ≤ l.length := by
  unfold term
  split
  · simp
  · rename_i c r
    split
    · have := (digs_le 10 (c :: r) 0 0).2; simpa using this
    · split
      · have := (digs_le 16 r 0 0).2
        unfold base16; split <;> simp; omega
      · split
        · simpa using quoted_len r
        · split
          · simp
          · have := wordLen_le (c :: r)
            unfold named; split
            · split <;> simp_all
            · simp

end Go.Proofs.YtcepppilgncdmaaGreatDoor

namespace Go.Proofs.YtcepppilgncdmaaGreatDoor
open Go.RowKit

theorem hid {p : Prop} (h : p) : Hid p := h
theorem ret_int {k : IntKind} {a b : Int} (h : a = b) : Ending.returned (.int k a) = .returned (.int k b) := by rw [h]
theorem ret_bool {a b : Bool} (h : a = b) : Ending.returned (.bool a) = .returned (.bool b) := by rw [h]
theorem ret_two {v0 v1 u0 u1 : Value} (h0 : v0 = u0) (h1 : v1 = u1) : Ending.returned (.tuple #[v0, v1]) = .returned (.tuple #[u0, u1]) := by rw [h0, h1]
theorem ret_three {v0 v1 v2 u0 u1 u2 : Value} (h0 : v0 = u0) (h1 : v1 = u1) (h2 : v2 = u2) : Ending.returned (.tuple #[v0, v1, v2]) = .returned (.tuple #[u0, u1, u2]) := by rw [h0, h1, h2]

set_option maxHeartbeats 400000 in
theorem isDigit_any (b : Int) (w : World) :
    Calls Tryz.prog 119 #[.int .u8 b] w fun e w' => e = .returned (.bool (digB b)) ∧ w' = w := by
  by_cases h1 : 48 ≤ b <;> by_cases h2 : b ≤ 57
  all_goals
    go_enter Tryz.func119, Tryz.ntmps119
    go_wp2
    go_ret
    exact ⟨ret_bool (by simp [digB, h1, h2]), rfl⟩

set_option maxHeartbeats 400000 in
theorem isNameByte_any (b : Int) (w : World) :
    Calls Tryz.prog 120 #[.int .u8 b] w fun e w' => e = .returned (.bool (nbB b)) ∧ w' = w := by
  have hcs : b < 48 ∨ (48 ≤ b ∧ b ≤ 57) ∨ (58 ≤ b ∧ b ≤ 64) ∨ (65 ≤ b ∧ b ≤ 90) ∨ (91 ≤ b ∧ b ≤ 94) ∨ b = 95 ∨ b = 96 ∨ (97 ≤ b ∧ b ≤ 122) ∨ 123 ≤ b := by omega
  rcases hcs with h | h | h | h | h | h | h | h | h
  all_goals
    first | obtain ⟨h1, h2⟩ := h | subst h | have _ := h
    go_enter Tryz.func120, Tryz.ntmps120
    go_wp2
    go_ret
    refine ⟨ret_bool ?_, rfl⟩
    unfold nbB
    rw [Bool.eq_iff_iff]
    simp
    try omega

set_option maxHeartbeats 400000 in
theorem digitValue_any (b : Int) (w : World) :
    Calls Tryz.prog 155 #[.int .u8 b] w fun e w' => e = .returned (.int .i64 (hexv b)) ∧ w' = w := by
  have hcs : b < 48 ∨ (48 ≤ b ∧ b ≤ 57) ∨ (58 ≤ b ∧ b ≤ 96) ∨ (97 ≤ b ∧ b ≤ 102) ∨ 103 ≤ b := by omega
  rcases hcs with h | h | h | h | h
  all_goals
    first | obtain ⟨h1, h2⟩ := h | have _ := h
    go_enter Tryz.func155, Tryz.ntmps155
    go_wp2
    go_ret
    refine ⟨ret_int ?_, rfl⟩
    unfold hexv
    first | (rw [if_neg (by omega), if_neg (by omega)]) | (rw [if_pos (by omega)]) | (rw [if_neg (by omega), if_pos (by omega)]; omega)

set_option maxRecDepth 100000 in
set_option maxHeartbeats 400000 in
theorem Register_any (s : ByteArray) (w : World) :
    Calls Tryz.prog 114 #[.string s] w fun e w' => e = .returned (.tuple #[.int .i64 (regV (L s)), .bool (regB (L s))]) ∧ w' = w := by
  by_cases h2 : s.size = 2
  · have hr := regB_two s h2
    have hv := regV_two s h2
    have hz : regB (L s) = false → regV (L s) = 0 := fun h => by unfold regV; rw [h]; rfl
    have hlt : (s[1].toNat : Int) < 256 := by have := s[1].toNat_lt; omega
    obtain ⟨r, er⟩ : ∃ r, regB (L s) = r := ⟨_, rfl⟩
    obtain ⟨v, ev⟩ : ∃ v, regV (L s) = v := ⟨_, rfl⟩
    rw [er] at hr hv hz
    rw [ev] at hv hz
    rw [er, ev]
    clear er ev
    cases r with
    | true =>
      have h1 : (s[0].toNat : Int) = 114 ∧ 48 ≤ (s[1].toNat : Int) ∧ (s[1].toNat : Int) ≤ 51 := by
        have := hr.symm
        simp only [Bool.and_eq_true, decide_eq_true_eq] at this
        exact ⟨this.1.1, this.1.2, this.2⟩
      obtain ⟨h0, h3, h4⟩ := h1
      have HV := hid (hv rfl)
      clear hr hv hz
      go_enter Tryz.func114, Tryz.ntmps114
      go_wp2
      go_ret2
      rw [HV.out]
      exact ⟨rfl, rfl⟩
    | false =>
      have h1 : (¬ (s[0].toNat : Int) = 114) ∨ ((s[0].toNat : Int) = 114 ∧ (s[1].toNat : Int) < 48) ∨ ((s[0].toNat : Int) = 114 ∧ 48 ≤ (s[1].toNat : Int) ∧ 51 < (s[1].toNat : Int)) := by
        have := hr.symm
        simp only [Bool.and_eq_false_iff, decide_eq_false_iff_not] at this
        omega
      have HZ := hid (hz rfl)
      clear hr hv hz
      rcases h1 with h0 | ⟨h0, h3⟩ | ⟨h0, h3, h4⟩
      all_goals
        go_enter Tryz.func114, Tryz.ntmps114
        go_wp2
        go_ret2
        rw [HZ.out]
        exact ⟨rfl, rfl⟩
  · have HR := hid (regB_not s h2)
    have HV := hid (show regV (L s) = 0 by unfold regV; rw [regB_not s h2]; rfl)
    go_enter Tryz.func114, Tryz.ntmps114
    go_wp2
    go_ret2
    rw [HR.out, HV.out]
    exact ⟨rfl, rfl⟩

end Go.Proofs.YtcepppilgncdmaaGreatDoor

namespace Go.Proofs.YtcepppilgncdmaaGreatDoor
open Go.RowKit

theorem wordLen_at (s : ByteArray) (k : Nat) (h : k < s.size) (hb : nbB (s[k].toNat : Int) = true) : wordLen ((L s).drop k) = wordLen ((L s).drop (k + 1)) + 1 := by
  rw [L_drop s k h]; simp [wordLen, hb]
theorem wordLen_no (s : ByteArray) (k : Nat) (h : k < s.size) (hb : nbB (s[k].toNat : Int) = false) : wordLen ((L s).drop k) = 0 := by
  rw [L_drop s k h]; simp [wordLen, hb]

theorem digs_at (base v : Int) (n : Nat) (s : ByteArray) (k : Nat) (h : k < s.size) (hb : hexv (s[k].toNat : Int) < base) : digs base v n ((L s).drop k) = digs base (min (v * base + hexv (s[k].toNat : Int)) 1000001) (n + 1) ((L s).drop (k + 1)) := by
  rw [L_drop s k h]; simp only [digs]; rw [if_pos hb]
theorem digs_no (base v : Int) (n : Nat) (s : ByteArray) (k : Nat) (h : k < s.size) (hb : ¬ hexv (s[k].toNat : Int) < base) : digs base v n ((L s).drop k) = (v, n) := by
  rw [L_drop s k h]; simp only [digs]; rw [if_neg hb]
theorem digs_out (base v : Int) (n : Nat) (s : ByteArray) (k : Nat) (h : s.size ≤ k) : digs base v n ((L s).drop k) = (v, n) := by
  rw [L_end s k h]; rfl
theorem min_if (x : Int) : (if 1000001 < x then 1000001 else x) = min x 1000001 := by
  split <;> omega
theorem byte_bd (c : UInt8) : 0 ≤ (c.toNat : Int) ∧ (c.toNat : Int) ≤ 255 := by
  have := c.toNat_lt
  omega
theorem pair_eq {α β : Type} {a c : α} {b d : β} (h : (a, b) = (c, d)) : a = c ∧ b = d := by injection h with h1 h2; exact ⟨h1, h2⟩
theorem trip_eq {α β γ : Type} {a c : α} {b d : β} {x y : γ} (h : (a, b, x) = (c, d, y)) : a = c ∧ b = d ∧ x = y := by
  injection h with h1 h2; injection h2 with h2 h3; exact ⟨h1, h2, h3⟩

set_option maxHeartbeats 400000 in
theorem readDigits_any (s : ByteArray) (base : Int) (w : World) (v : Int) (n : Nat) (hs : s.size ≤ maxLen) (hb : base = 10 ∨ base = 16) (hv : Hid (digs base 0 0 (L s) = (v, n))) :
    Calls Tryz.prog 124 #[.string s, .int .i64 base] w fun e w' => e = .returned (.tuple #[.int .i64 v, .int .i64 n]) ∧ w' = w := by
  unfold maxLen at hs
  have hb0 : 0 ≤ base := by omega
  have hb1 : base ≤ 16 := by omega
  clear hb
  go_enter Tryz.func124, Tryz.ntmps124
  go_wp2
  go_loop [6, 7] (fun v i => ∃ (x : Int) (k : Nat), k ≤ s.size ∧ 0 ≤ x ∧ x ≤ 1000001 ∧ i = .int .i64 k ∧ v = .int .i64 x ∧ digs base 0 0 (L s) = digs base x k ((L s).drop k)) (fun _ i => s.size - (intOf i).toNat)
  case atStart => exact ⟨0, 0, Nat.zero_le _, by omega, by omega, rfl, rfl, by rw [List.drop_zero]⟩
  case round =>
    obtain ⟨x, k, hk, hx0, hx1, rfl, rfl, hd⟩ := hrel
    have HD := hid hd
    clear hd
    by_cases hlt : k < s.size
    · have hx2 : 0 ≤ x * base := Int.mul_nonneg hx0 hb0
      have hx3 : x * base ≤ 1000001 * 16 := Int.mul_le_mul hx1 hb1 hb0 (by omega)
      have hh := hexv_lo (s[k].toNat : Int)
      by_cases hdg : hexv (s[k].toNat : Int) < base
      · have HS := hid (digs_at base x k s k hlt hdg)
        go_wp2_with (go_at_call 155; refine (digitValue_any _ _).mono ?_; rintro e w' ⟨rfl, rfl⟩)
        all_goals
          go_round
          case rel => exact ⟨min (x * base + hexv (s[k].toNat : Int)) 1000001, k + 1, by omega, by omega, by omega, by go_num, congrArg (Value.int IntKind.i64) (min_if _), by rw [HD.out, HS.out]⟩
          case measure => simp [intOf]; omega
      · have HS := hid (pair_eq (hv.out.symm.trans (HD.out.trans (digs_no base x k s k hlt hdg))))
        go_wp2_with (go_at_call 155; refine (digitValue_any _ _).mono ?_; rintro e w' ⟨rfl, rfl⟩)
        go_ret2
        obtain ⟨h1, h2⟩ := HS.out
        rw [h1, h2]
        exact ⟨rfl, rfl⟩
    · have HS := hid (pair_eq (hv.out.symm.trans (HD.out.trans (digs_out base x k s k (by omega)))))
      go_wp2
      go_ret2
      obtain ⟨h1, h2⟩ := HS.out
      rw [h1, h2]
      exact ⟨rfl, rfl⟩

set_option maxHeartbeats 400000 in
theorem findBase16_any (s : ByteArray) (w : World) (v : Int) (n : Nat) (er : Int) (hs : s.size ≤ maxLen) (h1 : 1 ≤ s.size) (hv : base16 ((L s).drop 1) = (v, n, er)) :
    Calls Tryz.prog 125 #[.string s] w fun e w' => e = .returned (.tuple #[.int .i64 v, .int .i64 n, .int .i64 er]) ∧ w' = w := by
  have hs' : (s.extract 1 s.size).size ≤ maxLen := by rw [ByteArray.size_extract]; omega
  have hle := digs_le 16 ((L s).drop 1) 0 0
  rw [List.length_drop, L_length] at hle
  unfold maxLen at hs
  rcases hg : digs 16 0 0 ((L s).drop 1) with ⟨x, k⟩
  have HG : Hid (digs 16 0 0 (L (s.extract 1 s.size)) = (x, k)) := by rw [L_suffix]; exact hg
  unfold base16 at hv
  rw [hg] at hv hle
  clear hg
  simp only at hle hv
  by_cases hn : k = 0
  · subst hn
    rw [if_pos rfl] at hv
    obtain ⟨rfl, rfl, rfl⟩ := trip_eq hv
    go_enter Tryz.func125, Tryz.ntmps125
    go_wp2_with (go_at_call 124; refine (readDigits_any _ _ _ _ _ hs' (Or.inr rfl) HG).mono ?_; rintro e w' ⟨rfl, rfl⟩)
    go_ret3
    exact ⟨rfl, rfl⟩
  · have hn' : ((k : Int) == 0) = false := by simp; omega
    rw [if_neg hn] at hv
    obtain ⟨rfl, rfl, rfl⟩ := trip_eq hv
    clear hv
    go_enter Tryz.func125, Tryz.ntmps125
    go_wp2_with (go_at_call 124; refine (readDigits_any _ _ _ _ _ hs' (Or.inr rfl) HG).mono ?_; rintro e w' ⟨rfl, rfl⟩)
    go_ret3
    exact ⟨ret_three rfl (by go_num) rfl, rfl⟩

set_option maxHeartbeats 400000 in
theorem findQuoted_any (s : ByteArray) (w : World) (v : Int) (n : Nat) (er : Int) (h1 : 1 ≤ s.size) (hv : quoted ((L s).drop 1) = (v, n, er)) :
    Calls Tryz.prog 126 #[.string s] w fun e w' => e = .returned (.tuple #[.int .i64 v, .int .i64 n, .int .i64 er]) ∧ w' = w := by
  by_cases h3 : s.size < 3
  · have hq : quoted ((L s).drop 1) = (0, 0, 4) := by
      have := L_length s
      match hl : (L s).drop 1 with
      | [] => rfl
      | [a] => rfl
      | a :: b :: r => have h := congrArg List.length hl; rw [List.length_drop, this] at h; simp at h; omega
    obtain ⟨rfl, rfl, rfl⟩ := trip_eq (hv.symm.trans hq)
    clear hv hq
    go_enter Tryz.func126, Tryz.ntmps126
    go_wp2
    go_ret3
    exact ⟨rfl, rfl⟩
  · rw [L_drop s 1 (by omega), L_drop s 2 (by omega)] at hv
    simp only [quoted] at hv
    have k3 : decide ((s.size : Int) < 3) = false := by simp; omega
    have hy := byte_bd s[1]
    by_cases ha : (s[1].toNat : Int) = 39
    · rw [if_pos (Or.inl ha)] at hv
      obtain ⟨rfl, rfl, rfl⟩ := trip_eq hv
      clear hv
      go_enter Tryz.func126, Tryz.ntmps126
      go_wp2
      go_ret3
      exact ⟨rfl, rfl⟩
    · have ka : ((s[1].toNat : Int) == 39) = false := by simp; omega
      by_cases hb : (s[2].toNat : Int) = 39
      · have kb : ((s[2].toNat : Int) != 39) = false := by simp; omega
        rw [if_neg (by omega)] at hv
        obtain ⟨rfl, rfl, rfl⟩ := trip_eq hv
        clear hv
        go_enter Tryz.func126, Tryz.ntmps126
        go_wp2
        go_ret3
        exact ⟨rfl, rfl⟩
      · have kb : ((s[2].toNat : Int) != 39) = true := by simp; omega
        rw [if_pos (Or.inr hb)] at hv
        obtain ⟨rfl, rfl, rfl⟩ := trip_eq hv
        clear hv
        go_enter Tryz.func126, Tryz.ntmps126
        go_wp2
        go_ret3
        exact ⟨rfl, rfl⟩

theorem nameB_nil (s : ByteArray) (h : s.size = 0) : nameB (L s) = false := by
  have := L_end s 0 (by omega)
  rw [List.drop_zero] at this
  rw [this]; rfl
theorem nameB_eq (s : ByteArray) (h : 0 < s.size) : nameB (L s) = (decide (s.size ≤ 8) && !digB (s[0].toNat : Int) && !regB (L s) && allNb (L s)) := by
  have h0 := L_drop s 0 h
  rw [List.drop_zero] at h0
  have hl := L_length s
  rw [h0] at hl ⊢
  rw [← hl]
  rfl
theorem allNb_at (s : ByteArray) (k : Nat) (h : k < s.size) : allNb ((L s).drop k) = (nbB (s[k].toNat : Int) && allNb ((L s).drop (k + 1))) := by
  rw [L_drop s k h]; rfl

theorem empty_of (s : ByteArray) (h : s.size = 0) : s = ⟨#[]⟩ := by
  apply L_inj
  have := L_end s 0 (by omega)
  rw [List.drop_zero] at this
  rw [this]; rfl
theorem not_empty (s : ByteArray) (h : 0 < s.size) : s.toList.isEmpty = false := by
  rw [ByteArray.toList_eq]
  have := L_length s
  unfold L at this
  cases hl : s.data.toList with
  | nil => rw [hl] at this; simp at this; omega
  | cons => rfl

set_option maxHeartbeats 800000 in
theorem IsName_any (s : ByteArray) (w : World) (hs : s.size ≤ maxLen) :
    Calls Tryz.prog 78 #[.string s] w fun e w' => e = .returned (.bool (nameB (L s))) ∧ w' = w := by
  unfold maxLen at hs
  by_cases h0 : s.size = 0
  · have HN := hid (nameB_nil s h0)
    have he := empty_of s h0
    subst he
    clear h0 hs
    go_enter Tryz.func78, Tryz.ntmps78
    go_wp2_with fail
    go_ret
    rw [HN.out]
    exact ⟨rfl, rfl⟩
  · have hpos : 0 < s.size := by omega
    have ke := not_empty s hpos
    have HN := hid (nameB_eq s hpos)
    by_cases h8 : 8 < s.size
    · have HF := hid (show nameB (L s) = false by rw [HN.out, decide_eq_false (by omega)]; rfl)
      go_enter Tryz.func78, Tryz.ntmps78
      go_wp2_with fail
      go_ret
      rw [HF.out]
      exact ⟨rfl, rfl⟩
    · have k8 : decide ((8 : Int) < s.size) = false := by simp; omega
      by_cases hd : digB (s[0].toNat : Int) = true
      · have HF := hid (show nameB (L s) = false by rw [HN.out]; simp [hd])
        go_enter Tryz.func78, Tryz.ntmps78
        go_wp2_with (first | (go_at_call 119; refine (isDigit_any _ _).mono ?_; rintro e w' ⟨rfl, rfl⟩))
        go_ret
        rw [HF.out]
        exact ⟨rfl, rfl⟩
      · have kd : digB (s[0].toNat : Int) = false := by simpa using hd
        by_cases hr : regB (L s) = true
        · have HF := hid (show nameB (L s) = false by rw [HN.out]; simp [hr])
          go_enter Tryz.func78, Tryz.ntmps78
          go_wp2_with (first | (go_at_call 119; refine (isDigit_any _ _).mono ?_; rintro e w' ⟨rfl, rfl⟩) | (go_at_call 114; refine (Register_any _ _).mono ?_; rintro e w' ⟨rfl, rfl⟩))
          go_ret
          rw [HF.out]
          exact ⟨rfl, rfl⟩
        · have kr : regB (L s) = false := by simpa using hr
          have HF := hid (show nameB (L s) = allNb (L s) by rw [HN.out, kr, kd, decide_eq_true (by omega)]; rfl)
          clear HN
          go_enter Tryz.func78, Tryz.ntmps78
          go_wp2_with (first | (go_at_call 119; refine (isDigit_any _ _).mono ?_; rintro e w' ⟨rfl, rfl⟩) | (go_at_call 114; refine (Register_any _ _).mono ?_; rintro e w' ⟨rfl, rfl⟩))
          go_loop [26] (fun i => ∃ k : Nat, k ≤ s.size ∧ i = .int .i64 k ∧ allNb (L s) = allNb ((L s).drop k)) (fun i => s.size - (intOf i).toNat)
          case atStart => exact ⟨0, Nat.zero_le _, rfl, by rw [List.drop_zero]⟩
          case round =>
            obtain ⟨k, hk, rfl, ha⟩ := hrel
            have HA := hid ha
            clear ha
            by_cases hlt : k < s.size
            · have HS := hid (allNb_at s k hlt)
              by_cases hn : nbB (s[k].toNat : Int) = true
              · go_wp2_with (first | (go_at_call 120; refine (isNameByte_any _ _).mono ?_; rintro e w' ⟨rfl, rfl⟩))
                go_round
                case rel => exact ⟨k + 1, by omega, by go_num, by rw [HA.out, HS.out, hn, Bool.true_and]⟩
                case measure => simp [intOf]; omega
              · have kn : nbB (s[k].toNat : Int) = false := by simpa using hn
                go_wp2_with (first | (go_at_call 120; refine (isNameByte_any _ _).mono ?_; rintro e w' ⟨rfl, rfl⟩))
                go_ret
                rw [HF.out, HA.out, HS.out, kn]
                exact ⟨rfl, rfl⟩
            · go_wp2
              go_ret
              rw [HF.out, HA.out, L_end s k (by omega)]
              exact ⟨rfl, rfl⟩

end Go.Proofs.YtcepppilgncdmaaGreatDoor
