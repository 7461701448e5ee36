/-
  Plain facts on lines as they are left; nothing of the program stands here.
-/
import Derived.Test.YtcepppilgncdmaaDoorLines
namespace Go.Proofs.YtcepppilgncdmaaDoor

/-- The head of a line as it is left. -/
def headP (lb op : List UInt8) : List UInt8 :=
  if op = [] then (if lb = [] then [] else lb ++ [58]) else if lb = [] then op else lb ++ [58] ++ [32] ++ op
theorem textP_head (w : WordsP) : textP w = headP w.label w.op ++ joined true w.operands := by
  unfold textP headP
  by_cases h1 : w.label = [] <;> by_cases h2 : w.op = [] <;> simp [h1, h2]

def sumLen (l : List (List UInt8)) : Nat := (l.map fun x => x.length + 1).sum
theorem joined_len (b : Bool) (l : List (List UInt8)) : (joined b l).length = sumLen l := by
  induction l generalizing b with
  | nil => cases b <;> rfl
  | cons x r ih => cases b <;> simp [joined, sumLen, ih] <;> omega

def joinedTo (ops : List ByteArray) (k : Nat) : List UInt8 := joined true ((ops.take k).map L)
theorem joined_snoc (b : Bool) (l : List (List UInt8)) (x : List UInt8) : joined b (l ++ [x]) = joined b l ++ ((if b && l.isEmpty then 32 else 44) :: x) := by
  induction l generalizing b with
  | nil => cases b <;> simp [joined]
  | cons y r ih => cases b <;> simp [joined, ih]
theorem joinedTo_succ (ops : List ByteArray) (k : Nat) (h : k < ops.length) : joinedTo ops (k + 1) = joinedTo ops k ++ ((if k = 0 then 32 else 44) :: L ops[k]) := by
  unfold joinedTo
  rw [List.take_succ_eq_append_getElem h, List.map_append, List.map_singleton, joined_snoc]
  congr 2
  cases k with
  | zero => rfl
  | succ k =>
    have : ((ops.take (k + 1)).map L).isEmpty = false := by
      cases ops with
      | nil => simp at h
      | cons a r => simp
    rw [this, Bool.and_false]
    simp

theorem sumLen_take (l : List (List UInt8)) : ∀ k, sumLen (l.take k) ≤ sumLen l := by
  induction l with
  | nil => intro k; simp
  | cons x r ih =>
    intro k
    cases k with
    | zero => simp [sumLen]
    | succ k =>
      have := ih k
      simp only [List.take_succ_cons, sumLen, List.map_cons, List.sum_cons] at this ⊢
      omega
theorem joinedTo_len (ops : List ByteArray) (k : Nat) : (joinedTo ops k).length ≤ sumLen (ops.map L) := by
  unfold joinedTo
  rw [joined_len, List.map_take]
  exact sumLen_take _ _
theorem ne_of_size (s : ByteArray) (h : ¬ s.size = 0) : L s ≠ [] := fun e => h (by rw [← L_length, e]; rfl)

end Go.Proofs.YtcepppilgncdmaaDoor
