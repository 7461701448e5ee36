/-
  The plain functions on bytes by which lines, words and texts are said; nothing of the program stands here.
-/
import Derived.Test.YtcepppilgncdmaaDoorMath
namespace Go.Proofs.YtcepppilgncdmaaDoor

/-- A line without what stands behind a semicolon. -/
def cutL : List UInt8 → List UInt8
  | [] => []
  | c :: r => if (c.toNat : Int) = 59 then [] else c :: cutL r

/-- How many blanks stand ahead; how many bytes the word has. -/
def blanks : List UInt8 → Nat
  | [] => 0
  | c :: r => if (c.toNat : Int) = 32 then blanks r + 1 else 0
def solid : List UInt8 → Nat
  | [] => 0
  | c :: r => if (c.toNat : Int) = 32 then 0 else solid r + 1

theorem blanks_le (l : List UInt8) : blanks l ≤ l.length := by
  induction l with
  | nil => simp [blanks]
  | cons c r ih => simp only [blanks]; split <;> simp <;> omega
theorem solid_le (l : List UInt8) : solid l ≤ l.length := by
  induction l with
  | nil => simp [solid]
  | cons c r ih => simp only [solid]; split <;> simp <;> omega

def wordOf (l : List UInt8) : List UInt8 := (l.drop (blanks l)).take (solid (l.drop (blanks l)))
def restOf (l : List UInt8) : List UInt8 := l.drop (blanks l + solid (l.drop (blanks l)))

/-- The parts of a text between bytes of one kind. -/
def splitB (b : Int) : List UInt8 → List (List UInt8)
  | [] => [[]]
  | c :: r => if (c.toNat : Int) = b then [] :: splitB b r else match splitB b r with
    | h :: t => (c :: h) :: t
    | [] => [[c]]

/-- The parts, the first of which has begun already. -/
def splitOn (b : Int) (s l : List UInt8) : List (List UInt8) := match splitB b l with
  | h :: t => (s ++ h) :: t
  | [] => [s]

theorem splitB_ne (b : Int) (l : List UInt8) : splitB b l ≠ [] := by
  cases l with
  | nil => simp [splitB]
  | cons c r =>
    simp only [splitB]
    split
    · simp
    · split <;> simp
theorem splitOn_nil (b : Int) (l : List UInt8) : splitOn b [] l = splitB b l := by
  unfold splitOn
  have := splitB_ne b l
  cases h : splitB b l with
  | nil => exact absurd h this
  | cons x y => simp
theorem splitOn_end (b : Int) (s : List UInt8) : splitOn b s [] = [s] := by simp [splitOn, splitB]
theorem splitOn_hit (b : Int) (s : List UInt8) (c : UInt8) (r : List UInt8) (h : (c.toNat : Int) = b) : splitOn b s (c :: r) = s :: splitOn b [] r := by
  rw [splitOn_nil]; unfold splitOn; simp [splitB, h]
theorem splitOn_miss (b : Int) (s : List UInt8) (c : UInt8) (r : List UInt8) (h : ¬ (c.toNat : Int) = b) : splitOn b s (c :: r) = splitOn b (s ++ [c]) r := by
  unfold splitOn
  simp only [splitB]
  rw [if_neg h]
  have := splitB_ne b r
  cases hs : splitB b r with
  | nil => exact absurd hs this
  | cons x y => simp

def noBlank (l : List UInt8) : List UInt8 := l.filter fun c => decide ¬ (c.toNat : Int) = 32

structure WordsP where
  label : List UInt8
  op : List UInt8
  operands : List (List UInt8)

def operandsOf (l : List UInt8) : List (List UInt8) := if noBlank l = [] then [] else splitB 44 (noBlank l)

/-- Is it a label: a name and a colon? -/
def labelB (a : List UInt8) : Bool := decide (1 < a.length) && decide (((a.getLastD 0).toNat : Int) = 58) && nameB (a.dropLast)

def wordsP (l : List UInt8) : WordsP :=
  if labelB (wordOf l) then ⟨(wordOf l).dropLast, wordOf (restOf l), operandsOf (restOf (restOf l))⟩ else ⟨[], wordOf l, operandsOf (restOf l)⟩

/-- Operands with signs between. -/
def joined : Bool → List (List UInt8) → List UInt8
  | _, [] => []
  | true, o :: r => 32 :: o ++ joined false r
  | false, o :: r => 44 :: o ++ joined false r

def textP (w : WordsP) : List UInt8 :=
  let a := if w.label = [] then [] else w.label ++ [58]
  let b := if w.op = [] then a else if a = [] then w.op else a ++ [32] ++ w.op
  b ++ joined true w.operands

def okByte (c : UInt8) : Bool := decide (32 ≤ (c.toNat : Int)) && decide ((c.toNat : Int) ≤ 126)
def okLine (l : List UInt8) : Bool := decide (l.length ≤ 80) && l.all okByte

end Go.Proofs.YtcepppilgncdmaaDoor
