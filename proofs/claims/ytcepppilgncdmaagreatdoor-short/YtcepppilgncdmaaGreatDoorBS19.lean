/-
  Lines and statements of an assembly, as they lie in memory (package assemble).
-/
import Derived.Test.YtcepppilgncdmaaGreatDoorBS09
import Derived.Test.YtcepppilgncdmaaGreatDoorBS02
namespace Go.Proofs.YtcepppilgncdmaaGreatDoor
open Go.RowKit

/-- A line, as it lies in memory. -/
structure LnV where
  t : ByteArray
  frm : Nat
  at_ : Nat
  size : Nat
def lnCells : List LnV → List Value
  | [] => []
  | l :: r => .string l.t :: .int .i64 (l.frm : Nat) :: .int .i64 (l.at_ : Nat) :: .int .i64 (l.size : Nat) :: lnCells r
theorem lnCells_length (l : List LnV) : (lnCells l).length = l.length * 4 := by
  induction l with
  | nil => rfl
  | cons x r ih => simp only [lnCells, List.length_cons, ih]; omega
theorem lnCells_at (l : List LnV) (i : Nat) (h : i < l.length) : (lnCells l)[i * 4]? = some (.string l[i].t) ∧ (lnCells l)[i * 4 + 1]? = some (.int .i64 (l[i].frm : Nat)) ∧ (lnCells l)[i * 4 + 2]? = some (.int .i64 (l[i].at_ : Nat)) ∧ (lnCells l)[i * 4 + 3]? = some (.int .i64 (l[i].size : Nat)) := by
  induction l generalizing i with
  | nil => simp at h
  | cons x r ih =>
    cases i with
    | zero => simp [lnCells]
    | succ i =>
      have := ih i (by simpa using h)
      simp only [lnCells, show (i + 1) * 4 = i * 4 + 1 + 1 + 1 + 1 from by omega, List.getElem?_cons_succ, List.getElem_cons_succ]
      exact this
theorem lnCells_set (l : List LnV) (i : Nat) (h : i < l.length) (a z : Nat) : ((lnCells l).set (i * 4 + 2) (.int .i64 (a : Nat))).set (i * 4 + 3) (.int .i64 (z : Nat)) = lnCells (l.set i ⟨l[i].t, l[i].frm, a, z⟩) := by
  induction l generalizing i with
  | nil => simp at h
  | cons x r ih =>
    cases i with
    | zero => simp [lnCells]
    | succ i =>
      have := ih i (by simpa using h)
      simp only [lnCells, show (i + 1) * 4 = i * 4 + 1 + 1 + 1 + 1 from by omega, List.set_cons_succ, List.getElem_cons_succ]
      rw [this]

/-- A statement, as it lies in memory. -/
structure StV where
  o : OpnP
  lab : Nat
  has : Bool
  added : Nat
  v : Value
  es : List ByteArray
  count : Nat
  long : Bool
def stOne (x : StV) : List Value := [.int .i64 (x.o.kind : Nat), .int .i64 (x.o.regs : Nat), .int .i64 (x.o.code : Nat), .int .i64 (x.o.long : Nat), .int .i64 (x.o.width : Nat), .int .i64 (x.lab : Nat), .bool x.has, .int .i64 (x.added : Nat), x.v, .int .i64 (x.count : Nat), .bool x.long]
def stCells : List StV → List Value
  | [] => []
  | x :: r => stOne x ++ stCells r
theorem stCells_append (a b : List StV) : stCells (a ++ b) = stCells a ++ stCells b := by
  induction a with
  | nil => rfl
  | cons x r ih => simp [stCells, ih]
theorem stCells_one (x : StV) : stCells [x] = stOne x := by simp [stCells]
theorem stCells_length (l : List StV) : (stCells l).length = l.length * 11 := by
  induction l with
  | nil => rfl
  | cons x r ih => simp only [stCells, List.length_append, List.length_cons, ih, stOne, List.length_nil]; omega
theorem stCells_at (l : List StV) (i k : Nat) (h : i < l.length) (hk : k < 11) : (stCells l)[i * 11 + k]? = (stOne l[i])[k]? := by
  induction l generalizing i with
  | nil => simp at h
  | cons x r ih =>
    cases i with
    | zero =>
      simp only [stCells, Nat.zero_mul, Nat.zero_add, List.getElem_cons_zero]
      rw [List.getElem?_append_left (by simp [stOne]; omega)]
    | succ i =>
      have := ih i (by simpa using h)
      simp only [stCells, List.getElem_cons_succ]
      rw [List.getElem?_append_right (by simp [stOne]; omega)]
      rw [show (i + 1) * 11 + k - (stOne x).length = i * 11 + k from by simp [stOne]; omega]
      exact this
theorem stCells_set (l : List StV) (i : Nat) (h : i < l.length) (b : Bool) : (stCells l).set (i * 11 + 10) (.bool b) = stCells (l.set i { l[i] with long := b }) := by
  induction l generalizing i with
  | nil => simp at h
  | cons x r ih =>
    cases i with
    | zero => simp [stCells, stOne]
    | succ i =>
      have := ih i (by simpa using h)
      simp only [stCells, List.set_cons_succ, List.getElem_cons_succ]
      rw [List.set_append_right _ _ (by simp [stOne]; omega), show (i + 1) * 11 + 10 - (stOne x).length = i * 11 + 10 from by simp [stOne]; omega, this]

/-- A statement lies at a place. -/
def StAt (w : World) (b off : Nat) (x : StV) : Prop := b < w.heap.size ∧ ∀ k v, (stOne x)[k]? = some v → w.cell? ⟨b, off + k, none⟩ = some v
theorem StAt.below {w w' : World} {b off : Nat} {x : StV} (h : StAt w b off x) (hb : Below w.heap.size w w') : StAt w' b off x :=
  ⟨Nat.lt_of_lt_of_le h.1 hb.size, fun k v hk => by rw [hb.cell (p := ⟨b, off + k, none⟩) h.1]; exact h.2 k v hk⟩
theorem StAt.of_row {w : World} {b : Nat} {x : StV} (h : RowT w 113 b (stOne x)) : StAt w b 0 x := ⟨h.lt, fun k v hk => by
  obtain ⟨h1, h2⟩ := List.getElem?_eq_some_iff.1 hk
  rw [Nat.zero_add, h.cell k h1, h2]⟩
/-- How many bytes a statement makes at an address. -/
def sizeV (x : StV) (a : Nat) : Nat :=
  if x.o.kind = 1 then 1
  else if x.o.kind = 2 then 1 + x.o.width
  else if x.o.kind = 3 then (if x.long then 3 else 2)
  else if x.o.kind = 4 then x.o.width * x.es.length
  else if x.o.kind = 5 then x.count
  else if x.o.kind = 6 then (x.count - a % x.count) % x.count
  else 0
end Go.Proofs.YtcepppilgncdmaaGreatDoor
