/-
  Names that are no name, or stand there twice: as the document's own package looks for them. Nothing of the program stands here.
-/
import Derived.Test.YtcepppilgncdmaaGreatDoorExp
namespace Go.Proofs.YtcepppilgncdmaaGreatDoor

def neqTo (l : List (List UInt8)) (i : Nat) : Nat → Bool
  | 0 => true
  | k + 1 => neqTo l i k && (decide (k = 0) || decide (l.getD k [] ≠ l.getD i []))
def okAt (l : List (List UInt8)) (i : Nat) : Bool := nameB (l.getD i []) && neqTo l i i
theorem neqTo_iff (l : List (List UInt8)) (i : Nat) : ∀ k, neqTo l i k = true ↔ ∀ j, j < k → j ≠ 0 → l.getD j [] ≠ l.getD i []
  | 0 => by simp [neqTo]
  | k + 1 => by
    have ih := neqTo_iff l i k
    simp only [neqTo, Bool.and_eq_true, Bool.or_eq_true, decide_eq_true_eq, ih]
    constructor
    · rintro ⟨h1, h2⟩ j hj h0
      rcases Nat.lt_or_ge j k with h | h
      · exact h1 j h h0
      · obtain rfl : j = k := by omega
        rcases h2 with h2 | h2
        · exact absurd h2 h0
        · exact h2
    · intro h
      exact ⟨fun j hj h0 => h j (by omega) h0, if hk : k = 0 then Or.inl hk else Or.inr (h k (by omega) hk)⟩
theorem neqTo_one (l : List (List UInt8)) (i : Nat) : neqTo l i 1 = true := rfl
theorem allNames_iff : ∀ l : List (List UInt8), allNames l = true ↔ ∀ i, i < l.length → nameB (l.getD i []) = true
  | [] => by simp [allNames]
  | a :: r => by
    have ih := allNames_iff r
    simp only [allNames, Bool.and_eq_true, ih]
    constructor
    · rintro ⟨h1, h2⟩ i hi
      cases i with
      | zero => exact h1
      | succ i => exact h2 i (by simpa using hi)
    · intro h
      exact ⟨h 0 (by simp), fun i hi => h (i + 1) (by simpa using hi)⟩
theorem apartF_iff : ∀ (r seen : List (List UInt8)), apartF seen r = true ↔ ∀ i, i < r.length → r.getD i [] ∉ seen ∧ ∀ k, k < i → r.getD k [] ≠ r.getD i []
  | [], seen => by simp [apartF]
  | a :: r, seen => by
    have ih := apartF_iff r (seen ++ [a])
    simp only [apartF, Bool.and_eq_true, Bool.not_eq_true', List.contains_eq_mem, decide_eq_false_iff_not, ih]
    constructor
    · rintro ⟨h1, h2⟩ i hi
      cases i with
      | zero => exact ⟨h1, fun k hk => by omega⟩
      | succ i =>
        obtain ⟨h3, h4⟩ := h2 i (by simpa using hi)
        simp only [List.mem_append, List.mem_singleton, not_or] at h3
        refine ⟨h3.1, fun k hk => ?_⟩
        cases k with
        | zero => exact fun e => h3.2 e.symm
        | succ k => exact h4 k (by omega)
    · intro h
      refine ⟨(h 0 (by simp)).1, fun i hi => ?_⟩
      obtain ⟨h3, h4⟩ := h (i + 1) (by simpa using hi)
      refine ⟨?_, fun k hk => h4 (k + 1) (by omega)⟩
      simp only [List.mem_append, List.mem_singleton, not_or]
      exact ⟨h3, fun e => h4 0 (by omega) e.symm⟩
theorem heads_ok (l : List (List UInt8)) : (allNames l = true ∧ apartP l.tail = true) ↔ ∀ i, i < l.length → okAt l i = true := by
  unfold apartP
  rw [allNames_iff, apartF_iff]
  unfold okAt
  simp only [Bool.and_eq_true, neqTo_iff]
  constructor
  · rintro ⟨h1, h2⟩ i hi
    refine ⟨h1 i hi, fun j hj h0 => ?_⟩
    have := (h2 (i - 1) (by rw [List.length_tail]; omega)).2 (j - 1) (by omega)
    obtain ⟨j, rfl⟩ : ∃ j', j = j' + 1 := ⟨j - 1, by omega⟩
    obtain ⟨i, rfl⟩ : ∃ i', i = i' + 1 := ⟨i - 1, by omega⟩
    cases l with
    | nil => simp at hi
    | cons a r => simpa using this
  · intro h
    refine ⟨fun i hi => (h i hi).1, fun i hi => ⟨by simp, fun k hk => ?_⟩⟩
    rw [List.length_tail] at hi
    have := (h (i + 1) (by omega)).2 (k + 1) (by omega) (by omega)
    cases l with
    | nil => simp at hi
    | cons a r => simpa using this
theorem heads_bad {l : List (List UInt8)} {i : Nat} (hi : i < l.length) (h : okAt l i = false) : allNames l = false ∨ apartP l.tail = false := by
  cases h1 : allNames l with
  | false => exact Or.inl rfl
  | true =>
    cases h2 : apartP l.tail with
    | false => exact Or.inr rfl
    | true =>
      have := (heads_ok l).1 ⟨h1, h2⟩ i hi
      rw [h] at this
      cases this
end Go.Proofs.YtcepppilgncdmaaGreatDoor
