/-
  The plain functions on bytes and numbers by which the program's answers are said, and what holds of them; nothing of the program stands here.
  The plain functions on bytes by which lines, words and texts are said; nothing of the program stands here.
  Plain facts on lines as they are left; nothing of the program stands here.
  The plain functions by which macros, conditions and what Expand answers are said; nothing of the program stands here.
-/
import Derived.KernelRfl
namespace Go.Proofs.YtcepppilgncdmaaGreatDoor

def digB (b : Int) : Bool := decide (48 ≤ b ∧ b ≤ 57)
def nbB (b : Int) : Bool := decide ((97 ≤ b ∧ b ≤ 122) ∨ (65 ≤ b ∧ b ≤ 90) ∨ (48 ≤ b ∧ b ≤ 57) ∨ b = 95)
def hexv (b : Int) : Int := if 48 ≤ b ∧ b ≤ 57 then b - 48 else if 97 ≤ b ∧ b ≤ 102 then b - 87 else 16

/-- The bytes of a text. -/
def L (s : ByteArray) : List UInt8 := s.data.toList

theorem L_length (s : ByteArray) : (L s).length = s.size := by unfold L; rw [Array.length_toList]; rfl
theorem L_drop (s : ByteArray) (k : Nat) (h : k < s.size) : (L s).drop k = s[k] :: (L s).drop (k + 1) := by
  unfold L
  rw [List.drop_eq_getElem_cons (by simpa using h)]
  rfl
theorem L_end (s : ByteArray) (k : Nat) (h : s.size ≤ k) : (L s).drop k = [] := by
  apply List.drop_eq_nil_of_le; rw [L_length]; exact h
theorem L_inj {s t : ByteArray} (h : L s = L t) : s = t := by
  unfold L at h
  exact ByteArray.ext (Array.toList_inj.1 h)
theorem L_extract (s : ByteArray) (a b : Nat) : L (s.extract a b) = ((L s).take b).drop a := by
  unfold L
  rw [ByteArray.data_extract, Array.toList_extract, List.extract_eq_drop_take', List.drop_take]
theorem L_suffix (s : ByteArray) (a : Nat) : L (s.extract a s.size) = (L s).drop a := by
  rw [L_extract, List.take_of_length_le (by rw [L_length]; exact Nat.le_refl _)]
theorem L_prefix (s : ByteArray) (b : Nat) : L (s.extract 0 b) = (L s).take b := by
  rw [L_extract, List.drop_zero]

theorem L_append (a b : ByteArray) : L (a ++ b) = L a ++ L b := by
  unfold L
  rw [ByteArray.data_append, Array.toList_append]
theorem L_push (c : UInt8) (b : ByteArray) : L ((⟨#[c]⟩ : ByteArray) ++ b) = c :: L b := by
  rw [L_append]; rfl

def regB (l : List UInt8) : Bool := match l with
  | [a, b] => decide ((a.toNat : Int) = 114) && decide (48 ≤ (b.toNat : Int)) && decide ((b.toNat : Int) ≤ 51)
  | _ => false

theorem regB_two (s : ByteArray) (h : s.size = 2) : regB (L s) = (decide ((s[0].toNat : Int) = 114) && decide (48 ≤ (s[1].toNat : Int)) && decide ((s[1].toNat : Int) ≤ 51)) := by
  have h0 := L_drop s 0 (by omega)
  have h1 := L_drop s 1 (by omega)
  have h2 := L_end s 2 (by omega)
  rw [List.drop_zero] at h0
  rw [h0, h1, h2]
  rfl
/-- The number of a register; 0: it is none. -/
def regV (l : List UInt8) : Int := if regB l then ((l.getD 1 0).toNat : Int) - 48 else 0
theorem regV_two (s : ByteArray) (h : s.size = 2) (hr : regB (L s) = true) : regV (L s) = (s[1].toNat : Int) - 48 := by
  have h1 : (L s).getD 1 0 = s[1] := by
    have : 1 < (L s).length := by rw [L_length]; omega
    rw [List.getD_eq_getElem?_getD, List.getElem?_eq_getElem this]
    rfl
  unfold regV
  rw [if_pos hr, h1]
theorem regB_not (s : ByteArray) (h : s.size ≠ 2) : regB (L s) = false := by
  have h0 := L_length s
  unfold regB
  split
  · rename_i e; rw [e] at h0; simp at h0; omega
  · rfl

def allNb (l : List UInt8) : Bool := l.all fun c => nbB c.toNat
def nameB (l : List UInt8) : Bool := match l with
  | [] => false
  | c :: r => decide ((c :: r).length ≤ 8) && !digB c.toNat && !regB (c :: r) && allNb (c :: r)

def wordLen : List UInt8 → Nat
  | [] => 0
  | c :: r => if nbB c.toNat then wordLen r + 1 else 0

def digs (base : Int) : Int → Nat → List UInt8 → Int × Nat
  | v, n, [] => (v, n)
  | v, n, c :: r => if hexv c.toNat < base then digs base (min (v * base + hexv c.toNat) 1000001) (n + 1) r else (v, n)

def findN : List (List UInt8 × Int) → List UInt8 → Option Int
  | [], _ => none
  | (n, v) :: r, w => if n = w then some v else findN r w

def quoted : List UInt8 → Int × Nat × Int
  | a :: b :: _ => if (a.toNat : Int) = 39 ∨ (b.toNat : Int) ≠ 39 then (0, 0, 4) else (a.toNat, 3, 0)
  | _ => (0, 0, 4)

def named (l : List UInt8) (ns : List (List UInt8 × Int)) : Int × Nat × Int :=
  if nameB (l.take (wordLen l)) then
    match findN ns (l.take (wordLen l)) with
    | some v => (v, wordLen l, 0)
    | none => (0, 0, 6)
  else (0, 0, 4)

def base16 (r : List UInt8) : Int × Nat × Int := if (digs 16 0 0 r).2 = 0 then (0, 0, 4) else ((digs 16 0 0 r).1, 1 + (digs 16 0 0 r).2, 0)

def term (at_ : Int) (ns : List (List UInt8 × Int)) : List UInt8 → Int × Nat × Int
  | [] => (0, 0, 4)
  | c :: r =>
    if digB c.toNat then ((digs 10 0 0 (c :: r)).1, (digs 10 0 0 (c :: r)).2, 0)
    else if (c.toNat : Int) = 36 then base16 r
    else if (c.toNat : Int) = 39 then quoted r
    else if (c.toNat : Int) = 46 then (at_, 1, 0)
    else named (c :: r) ns

def readT (at_ : Int) (ns : List (List UInt8 × Int)) (l : List UInt8) : Int × List UInt8 × Int :=
  if (term at_ ns l).2.2 ≠ 0 then (0, [], (term at_ ns l).2.2)
  else if (term at_ ns l).1 < -1000000 ∨ 1000000 < (term at_ ns l).1 then (0, [], 7)
  else ((term at_ ns l).1, l.drop (term at_ ns l).2.1, 0)

def step (sum sign number : Int) : Int := if sign = 43 then sum + number else if sign = 45 then sum - number else if sign = 42 then sum * number else sum
def reck (sum sign number : Int) : Int × Int := if step sum sign number < -1000000 ∨ 1000000 < step sum sign number then (0, 7) else (step sum sign number, 0)

def eval (at_ : Int) (ns : List (List UInt8 × Int)) : Nat → Int → Int → List UInt8 → Int × Int
  | 0, _, _, _ => (0, 0)
  | f + 1, sum, sign, l =>
    if (readT at_ ns l).2.2 ≠ 0 then (0, (readT at_ ns l).2.2)
    else if (reck sum sign (readT at_ ns l).1).2 ≠ 0 then (0, (reck sum sign (readT at_ ns l).1).2)
    else match (readT at_ ns l).2.1 with
      | [] => ((reck sum sign (readT at_ ns l).1).1, 0)
      | c :: r => if (c.toNat : Int) = 43 ∨ (c.toNat : Int) = 45 ∨ (c.toNat : Int) = 42 then eval at_ ns f (reck sum sign (readT at_ ns l).1).1 c.toNat r else (0, 4)

def value (at_ : Int) (ns : List (List UInt8 × Int)) (l : List UInt8) : Int × Int :=
  match l with
  | [] => eval at_ ns 1 0 43 []
  | c :: r => if (c.toNat : Int) = 45 then eval at_ ns (r.length + 1) 0 45 r else eval at_ ns (r.length + 2) 0 43 (c :: r)

def evalS (at_ : Int) (ns : List (List UInt8 × Int)) (f : Nat) (sum : Int) : List UInt8 → Int × Int
  | [] => (sum, 0)
  | c :: r => if (c.toNat : Int) = 43 ∨ (c.toNat : Int) = 45 ∨ (c.toNat : Int) = 42 then eval at_ ns f sum c.toNat r else (0, 4)

theorem eval_bad {at_ : Int} {ns : List (List UInt8 × Int)} {l r : List UInt8} {x y : Int} (h : readT at_ ns l = (x, r, y)) (hy : y ≠ 0) (f : Nat) (sm sg : Int) : eval at_ ns (f + 1) sm sg l = (0, y) := by
  simp only [eval, h]; rw [if_pos hy]
theorem eval_far {at_ : Int} {ns : List (List UInt8 × Int)} {l r : List UInt8} {x : Int} (h : readT at_ ns l = (x, r, 0)) (f : Nat) {sm sg z q : Int} (hr : reck sm sg x = (z, q)) (hq : q ≠ 0) : eval at_ ns (f + 1) sm sg l = (0, q) := by
  simp only [eval, h, hr]; rw [if_neg (by simp), if_pos hq]
theorem eval_on {at_ : Int} {ns : List (List UInt8 × Int)} {l r : List UInt8} {x : Int} (h : readT at_ ns l = (x, r, 0)) (f : Nat) {sm sg z : Int} (hr : reck sm sg x = (z, 0)) : eval at_ ns (f + 1) sm sg l = evalS at_ ns f z r := by
  simp only [eval, h, hr]; rw [if_neg (by simp), if_neg (by simp)]
  cases r <;> rfl
theorem readT_bd {at_ : Int} {ns : List (List UInt8 × Int)} {l r : List UInt8} {x : Int} (h : readT at_ ns l = (x, r, 0)) : -1000000 ≤ x ∧ x ≤ 1000000 := by
  unfold readT at h
  split at h
  · rename_i h1; injection h with _ h; injection h with _ h; exact absurd h h1
  · split at h
    · injection h with _ h; injection h with _ h; omega
    · injection h with h _; omega
theorem reck_bd {sm sg x z : Int} (h : reck sm sg x = (z, 0)) : -1000000 ≤ z ∧ z ≤ 1000000 := by
  unfold reck at h
  split at h
  · injection h with _ h; omega
  · injection h with h _; omega
theorem value_minus (at_ : Int) (ns : List (List UInt8 × Int)) (c : UInt8) (r : List UInt8) (h : (c.toNat : Int) = 45) : value at_ ns (c :: r) = evalS at_ ns (r.length + 1) 0 (c :: r) := by
  simp only [value, evalS]; rw [if_pos h, if_pos (Or.inr (Or.inl h)), h]
theorem value_plain (at_ : Int) (ns : List (List UInt8 × Int)) (c : UInt8) (r : List UInt8) (h : ¬ (c.toNat : Int) = 45) : value at_ ns (c :: r) = eval at_ ns (r.length + 2) 0 43 (c :: r) := by
  simp only [value]; rw [if_neg h]
theorem value_nil (at_ : Int) (ns : List (List UInt8 × Int)) : value at_ ns [] = eval at_ ns 1 0 43 [] := rfl

theorem mul_bd (a b : Int) (a1 : -1000000 ≤ a) (a2 : a ≤ 1000000) (b1 : -1000000 ≤ b) (b2 : b ≤ 1000000) : -1000000000000 ≤ a * b ∧ a * b ≤ 1000000000000 := by
  have h1 : (a.natAbs) * (b.natAbs) ≤ 1000000 * 1000000 := Nat.mul_le_mul (by omega) (by omega)
  rw [← Int.natAbs_mul] at h1
  omega

theorem hexv_lo (b : Int) : 0 ≤ hexv b ∧ hexv b ≤ 16 := by unfold hexv; split <;> (try split) <;> omega

theorem digs_le (base : Int) (l : List UInt8) : ∀ v n, n ≤ (digs base v n l).2 ∧ (digs base v n l).2 ≤ n + l.length := by
  induction l with
  | nil => intro v n; simp [digs]
  | cons c r ih =>
    intro v n
    simp only [digs]
    split
    · have := ih (min (v * base + hexv c.toNat) 1000001) (n + 1)
      simp only [List.length_cons]; omega
    · simp

theorem digs_bd (base : Int) (hb : 0 ≤ base) (l : List UInt8) : ∀ v n, 0 ≤ v → v ≤ 1000001 → 0 ≤ (digs base v n l).1 ∧ (digs base v n l).1 ≤ 1000001 := by
  induction l with
  | nil => intro v n h0 h1; exact ⟨h0, h1⟩
  | cons c r ih =>
    intro v n h0 h1
    simp only [digs]
    split
    · have := hexv_lo c.toNat
      have h2 : 0 ≤ v * base := Int.mul_nonneg h0 hb
      exact ih _ _ (by omega) (by omega)
    · exact ⟨h0, h1⟩

theorem wordLen_le (l : List UInt8) : wordLen l ≤ l.length := by
  induction l with
  | nil => simp [wordLen]
  | cons c r ih => simp only [wordLen]; split <;> simp <;> omega

theorem quoted_len (r : List UInt8) : (quoted r).2.1 ≤ r.length + 1 := by
  unfold quoted
  split
  · split <;> simp
  · simp

theorem term_len (at_ : Int) (ns : List (List UInt8 × Int)) (l : List UInt8) : (term at_ ns l).2.1 ≤ l.length := by
  unfold term
  split
  · simp
  · rename_i c r
    split
    · have := (digs_le 10 (c :: r) 0 0).2; simpa using this
    · split
      · have := (digs_le 16 r 0 0).2
        unfold base16; split <;> simp; omega
      · split
        · simpa using quoted_len r
        · split
          · simp
          · have := wordLen_le (c :: r)
            unfold named; split
            · split <;> simp_all
            · simp

end Go.Proofs.YtcepppilgncdmaaGreatDoor

namespace Go.Proofs.YtcepppilgncdmaaGreatDoor

/-- A line without what stands behind a semicolon. -/
def cutL : List UInt8 → List UInt8
  | [] => []
  | c :: r => if (c.toNat : Int) = 59 then [] else c :: cutL r

/-- How many blanks stand ahead; how many bytes the word has. -/
def blanks : List UInt8 → Nat
  | [] => 0
  | c :: r => if (c.toNat : Int) = 32 then blanks r + 1 else 0
def solid : List UInt8 → Nat
  | [] => 0
  | c :: r => if (c.toNat : Int) = 32 then 0 else solid r + 1

theorem blanks_le (l : List UInt8) : blanks l ≤ l.length := by
  induction l with
  | nil => simp [blanks]
  | cons c r ih => simp only [blanks]; split <;> simp <;> omega
theorem solid_le (l : List UInt8) : solid l ≤ l.length := by
  induction l with
  | nil => simp [solid]
  | cons c r ih => simp only [solid]; split <;> simp <;> omega

def wordOf (l : List UInt8) : List UInt8 := (l.drop (blanks l)).take (solid (l.drop (blanks l)))
def restOf (l : List UInt8) : List UInt8 := l.drop (blanks l + solid (l.drop (blanks l)))

/-- The parts of a text between bytes of one kind. -/
def splitB (b : Int) : List UInt8 → List (List UInt8)
  | [] => [[]]
  | c :: r => if (c.toNat : Int) = b then [] :: splitB b r else match splitB b r with
    | h :: t => (c :: h) :: t
    | [] => [[c]]

/-- The parts, the first of which has begun already. -/
def splitOn (b : Int) (s l : List UInt8) : List (List UInt8) := match splitB b l with
  | h :: t => (s ++ h) :: t
  | [] => [s]

theorem splitB_ne (b : Int) (l : List UInt8) : splitB b l ≠ [] := by
  cases l with
  | nil => simp [splitB]
  | cons c r =>
    simp only [splitB]
    split
    · simp
    · split <;> simp
theorem splitOn_nil (b : Int) (l : List UInt8) : splitOn b [] l = splitB b l := by
  unfold splitOn
  have := splitB_ne b l
  cases h : splitB b l with
  | nil => exact absurd h this
  | cons x y => simp
theorem splitOn_end (b : Int) (s : List UInt8) : splitOn b s [] = [s] := by simp [splitOn, splitB]
theorem splitOn_hit (b : Int) (s : List UInt8) (c : UInt8) (r : List UInt8) (h : (c.toNat : Int) = b) : splitOn b s (c :: r) = s :: splitOn b [] r := by
  rw [splitOn_nil]; unfold splitOn; simp [splitB, h]
theorem splitOn_miss (b : Int) (s : List UInt8) (c : UInt8) (r : List UInt8) (h : ¬ (c.toNat : Int) = b) : splitOn b s (c :: r) = splitOn b (s ++ [c]) r := by
  unfold splitOn
  simp only [splitB]
  rw [if_neg h]
  have := splitB_ne b r
  cases hs : splitB b r with
  | nil => exact absurd hs this
  | cons x y => simp

def noBlank (l : List UInt8) : List UInt8 := l.filter fun c => decide ¬ (c.toNat : Int) = 32

structure WordsP where
  label : List UInt8
  op : List UInt8
  operands : List (List UInt8)

def operandsOf (l : List UInt8) : List (List UInt8) := if noBlank l = [] then [] else splitB 44 (noBlank l)

/-- Is it a label: a name and a colon? -/
def labelB (a : List UInt8) : Bool := decide (1 < a.length) && decide (((a.getLastD 0).toNat : Int) = 58) && nameB (a.dropLast)

def wordsP (l : List UInt8) : WordsP :=
  if labelB (wordOf l) then ⟨(wordOf l).dropLast, wordOf (restOf l), operandsOf (restOf (restOf l))⟩ else ⟨[], wordOf l, operandsOf (restOf l)⟩

/-- Operands with signs between. -/
def joined : Bool → List (List UInt8) → List UInt8
  | _, [] => []
  | true, o :: r => 32 :: o ++ joined false r
  | false, o :: r => 44 :: o ++ joined false r

def textP (w : WordsP) : List UInt8 :=
  let a := if w.label = [] then [] else w.label ++ [58]
  let b := if w.op = [] then a else if a = [] then w.op else a ++ [32] ++ w.op
  b ++ joined true w.operands

def okByte (c : UInt8) : Bool := decide (32 ≤ (c.toNat : Int)) && decide ((c.toNat : Int) ≤ 126)
def okLine (l : List UInt8) : Bool := decide (l.length ≤ 80) && l.all okByte

end Go.Proofs.YtcepppilgncdmaaGreatDoor

namespace Go.Proofs.YtcepppilgncdmaaGreatDoor

/-- The head of a line as it is left. -/
def headP (lb op : List UInt8) : List UInt8 :=
  if op = [] then (if lb = [] then [] else lb ++ [58]) else if lb = [] then op else lb ++ [58] ++ [32] ++ op
theorem textP_head (w : WordsP) : textP w = headP w.label w.op ++ joined true w.operands := by
  unfold textP headP
  by_cases h1 : w.label = [] <;> by_cases h2 : w.op = [] <;> simp [h1, h2]

def sumLen (l : List (List UInt8)) : Nat := (l.map fun x => x.length + 1).sum
theorem joined_len (b : Bool) (l : List (List UInt8)) : (joined b l).length = sumLen l := by
  induction l generalizing b with
  | nil => cases b <;> rfl
  | cons x r ih => cases b <;> simp [joined, sumLen, ih] <;> omega

def joinedTo (ops : List ByteArray) (k : Nat) : List UInt8 := joined true ((ops.take k).map L)
theorem joined_snoc (b : Bool) (l : List (List UInt8)) (x : List UInt8) : joined b (l ++ [x]) = joined b l ++ ((if b && l.isEmpty then 32 else 44) :: x) := by
  induction l generalizing b with
  | nil => cases b <;> simp [joined]
  | cons y r ih => cases b <;> simp [joined, ih]
theorem joinedTo_succ (ops : List ByteArray) (k : Nat) (h : k < ops.length) : joinedTo ops (k + 1) = joinedTo ops k ++ ((if k = 0 then 32 else 44) :: L ops[k]) := by
  unfold joinedTo
  rw [List.take_succ_eq_append_getElem h, List.map_append, List.map_singleton, joined_snoc]
  congr 2
  cases k with
  | zero => rfl
  | succ k =>
    have : ((ops.take (k + 1)).map L).isEmpty = false := by
      cases ops with
      | nil => simp at h
      | cons a r => simp
    rw [this, Bool.and_false]
    simp

theorem sumLen_take (l : List (List UInt8)) : ∀ k, sumLen (l.take k) ≤ sumLen l := by
  induction l with
  | nil => intro k; simp
  | cons x r ih =>
    intro k
    cases k with
    | zero => simp [sumLen]
    | succ k =>
      have := ih k
      simp only [List.take_succ_cons, sumLen, List.map_cons, List.sum_cons] at this ⊢
      omega
theorem joinedTo_len (ops : List ByteArray) (k : Nat) : (joinedTo ops k).length ≤ sumLen (ops.map L) := by
  unfold joinedTo
  rw [joined_len, List.map_take]
  exact sumLen_take _ _
theorem ne_of_size (s : ByteArray) (h : ¬ s.size = 0) : L s ≠ [] := fun e => h (by rw [← L_length, e]; rfl)

end Go.Proofs.YtcepppilgncdmaaGreatDoor

namespace Go.Proofs.YtcepppilgncdmaaGreatDoor

structure MacP where
  name : List UInt8
  params : List (List UInt8)
  lines : List (List UInt8)
structure StP where
  macros : List MacP
  names : List (List UInt8 × Int)
  out : List (List UInt8 × Nat)
  calls : Nat
structure OpenP where
  yes : Bool
  els : Bool
  over : Bool

def opIf : List UInt8 := [46, 105, 102]
def opElse : List UInt8 := [46, 101, 108, 115, 101]
def opEndif : List UInt8 := [46, 101, 110, 100, 105, 102]
def opMacro : List UInt8 := [46, 109, 97, 99, 114, 111]
def opEnd : List UInt8 := [46, 101, 110, 100]
def opSet : List UInt8 := [46, 115, 101, 116]

def passOf (o : OpenP) : Bool := o.over || !o.yes
/-- Are lines passed over? (The innermost condition comes first.) -/
def overP : List OpenP → Bool
  | [] => false
  | o :: _ => passOf o
/-- Each condition knows whether it stands among lines that are passed over. -/
def Chain : List OpenP → Prop
  | [] => True
  | o :: r => o.over = overP r ∧ Chain r

/-- Which of some words is the longest with which a text begins, and how long it is. -/
def ahead (l : List UInt8) : List (List UInt8) → Nat → Option (Nat × Nat) → Option (Nat × Nat)
  | [], _, b => b
  | p :: r, i, b => ahead l r (i + 1) (if p.isPrefixOf l && (match b with | none => true | some (_, n) => decide (n < p.length)) then some (i, p.length) else b)

/-- Operands in the place of parameters; none: there is a stroke with no parameter behind. -/
def fillP (ps os : List (List UInt8)) : Nat → List UInt8 → Option (List UInt8)
  | 0, _ => some []
  | _ + 1, [] => some []
  | n + 1, c :: r =>
    if (c.toNat : Int) = 92 then
      match ahead r ps 0 none with
      | none => none
      | some (i, k) => (fillP ps os n (r.drop k)).map ((os.getD i []) ++ ·)
    else (fillP ps os n r).map (c :: ·)
def filledP (ps os : List (List UInt8)) (l : List UInt8) : Int × List UInt8 :=
  match fillP ps os l.length l with
  | none => (4, [])
  | some t => if 80 < t.length then (1, []) else (0, t)

def findM : List MacP → List UInt8 → Option MacP
  | [], _ => none
  | m :: r, s => if m.name = s then some m else findM r s
def bareW (w : WordsP) : Bool := decide (w.label = []) && decide (w.operands = [])

def leaveP (w : WordsP) (at_ : Nat) (st : StP) : Int × StP :=
  if textP w = [] then (0, st) else if 300 ≤ st.out.length then (8, st) else (0, { st with out := st.out ++ [(textP w, at_)] })

def ifP (w : WordsP) (opens : List OpenP) (st : StP) : Int × List OpenP :=
  if 8 ≤ opens.length then (2, opens)
  else if overP opens then (0, ⟨false, false, true⟩ :: opens)
  else if ¬ w.label = [] ∨ ¬ w.operands.length = 1 then (4, opens)
  else if (value 0 st.names (w.operands.headD [])).2 ≠ 0 then ((value 0 st.names (w.operands.headD [])).2, opens)
  else (0, ⟨decide ((value 0 st.names (w.operands.headD [])).1 ≠ 0), false, false⟩ :: opens)

def elseP (w : WordsP) : List OpenP → Int × List OpenP
  | [] => (2, [])
  | o :: r => if o.els then (2, o :: r) else if o.over = false ∧ bareW w = false then (4, o :: r) else (0, ⟨!o.yes, true, o.over⟩ :: r)
def endifP (w : WordsP) : List OpenP → Int × List OpenP
  | [] => (2, [])
  | o :: r => if o.over = false ∧ bareW w = false then (4, o :: r) else (0, r)

def allNames : List (List UInt8) → Bool
  | [] => true
  | o :: r => nameB o && allNames r
/-- No word stands there twice, nor among those that were seen. -/
def apartF (seen : List (List UInt8)) : List (List UInt8) → Bool
  | [] => true
  | o :: r => !seen.contains o && apartF (seen ++ [o]) r
def apartP (l : List (List UInt8)) : Bool := apartF [] l
def defP (inM : Bool) (w : WordsP) (st : StP) : Int × Option MacP :=
  if inM then (2, none)
  else if ¬ w.label = [] ∨ w.operands = [] then (4, none)
  else if allNames w.operands = false ∨ apartP w.operands.tail = false then (4, none)
  else match findM st.macros (w.operands.headD []) with
    | some _ => (5, none)
    | none => (0, some ⟨w.operands.headD [], w.operands.tail, []⟩)
def collP (d : MacP) (s : List UInt8) (st : StP) : Int × Option MacP × StP :=
  if (wordsP s).op = opMacro then (2, none, st)
  else if (wordsP s).op = opEnd then (if bareW (wordsP s) then (0, none, { st with macros := st.macros ++ [d] }) else (4, none, st))
  else (0, some { d with lines := d.lines ++ [s] }, st)

def hasN (ns : List (List UInt8 × Int)) (s : List UInt8) : Bool := (findN ns s).isSome
def setP (w : WordsP) (at_ : Nat) (st : StP) : Int × StP :=
  if ¬ w.label = [] ∨ ¬ w.operands.length = 2 then (4, st)
  else if nameB (w.operands.headD []) = false ∨ hasN st.names (w.operands.headD []) = true then (5, st)
  else if (value 0 st.names (w.operands.getD 1 [])).2 ≠ 0 then ((value 0 st.names (w.operands.getD 1 [])).2, st)
  else leaveP w at_ { st with names := st.names ++ [(w.operands.headD [], (value 0 st.names (w.operands.getD 1 [])).1)] }

/-- A line that is not passed over. -/
def lineP (call : MacP → WordsP → Nat → StP → Int × StP) (inM : Bool) (w : WordsP) (at_ : Nat) (opens : List OpenP) (st : StP) : Int × List OpenP × Option MacP × StP :=
  if w.op = opIf then ((ifP w opens st).1, (ifP w opens st).2, none, st)
  else if w.op = opElse then ((elseP w opens).1, (elseP w opens).2, none, st)
  else if w.op = opEndif then ((endifP w opens).1, (endifP w opens).2, none, st)
  else if w.op = opMacro then ((defP inM w st).1, opens, (defP inM w st).2, st)
  else if w.op = opEnd then (2, opens, none, st)
  else if w.op = opSet then ((setP w at_ st).1, opens, none, (setP w at_ st).2)
  else match findM st.macros w.op with
    | some m => ((call m w at_ st).1, opens, none, (call m w at_ st).2)
    | none => ((leaveP w at_ st).1, opens, none, (leaveP w at_ st).2)
/-- A line that is passed over. -/
def passP (w : WordsP) (opens : List OpenP) (st : StP) : Int × List OpenP :=
  if w.op = opIf then ifP w opens st else if w.op = opElse then elseP w opens else if w.op = opEndif then endifP w opens else (0, opens)

/-- What a block's line says: its words, or an error. -/
def readP (sub : Option (List (List UInt8) × List (List UInt8))) (over : Bool) (s : List UInt8) : Int × WordsP :=
  match sub, over with
  | some (ps, os), false => if (filledP ps os s).1 ≠ 0 then ((filledP ps os s).1, ⟨[], [], []⟩) else (0, wordsP (cutL (filledP ps os s).2))
  | _, _ => (0, wordsP (cutL s))

def blockP (call : MacP → WordsP → Nat → StP → Int × StP) (sub : Option (List (List UInt8) × List (List UInt8))) (inc : Nat) : List (List UInt8) → Nat → List OpenP → Option MacP → StP → Int × Nat × StP
  | [], at_, opens, d, st => if opens = [] ∧ d.isNone then (0, at_, st) else (2, at_, st)
  | l :: r, at_, opens, some d, st =>
    if (collP d (cutL l) st).1 ≠ 0 then ((collP d (cutL l) st).1, at_ + inc, st)
    else blockP call sub inc r (at_ + inc) opens (collP d (cutL l) st).2.1 (collP d (cutL l) st).2.2
  | l :: r, at_, opens, none, st =>
    if overP opens then
      if (passP (wordsP (cutL l)) opens st).1 ≠ 0 then ((passP (wordsP (cutL l)) opens st).1, at_ + inc, st)
      else blockP call sub inc r (at_ + inc) (passP (wordsP (cutL l)) opens st).2 none st
    else if (readP sub false (cutL l)).1 ≠ 0 then ((readP sub false (cutL l)).1, at_ + inc, st)
    else if (lineP call sub.isSome (readP sub false (cutL l)).2 (at_ + inc) opens st).1 ≠ 0 then ((lineP call sub.isSome (readP sub false (cutL l)).2 (at_ + inc) opens st).1, at_ + inc, st)
    else blockP call sub inc r (at_ + inc) (lineP call sub.isSome (readP sub false (cutL l)).2 (at_ + inc) opens st).2.1 (lineP call sub.isSome (readP sub false (cutL l)).2 (at_ + inc) opens st).2.2.1 (lineP call sub.isSome (readP sub false (cutL l)).2 (at_ + inc) opens st).2.2.2

/-- A macro is called, with so many still to be called within one another. -/
def callN : Nat → MacP → WordsP → Nat → StP → Int × StP
  | 0, _, _, _, st => (2, st)
  | n + 1, m, w, at_, st =>
    if ¬ w.operands.length = m.params.length then (4, st)
    else if 200 ≤ st.calls then (8, st)
    else if (leaveP ⟨w.label, [], []⟩ at_ st).1 ≠ 0 then ((leaveP ⟨w.label, [], []⟩ at_ st).1, st)
    else ((blockP (callN n) (some (m.params, w.operands)) 0 m.lines at_ [] none { (leaveP ⟨w.label, [], []⟩ at_ st).2 with calls := st.calls + 1 }).1,
      (blockP (callN n) (some (m.params, w.operands)) 0 m.lines at_ [] none { (leaveP ⟨w.label, [], []⟩ at_ st).2 with calls := st.calls + 1 }).2.2)

/-- The number of the first line that may not be; 0: all may be. -/
def badLine : List (List UInt8) → Nat → Nat
  | [], _ => 0
  | l :: r, k => if okLine l then badLine r (k + 1) else k

def noSt : StP := ⟨[], [], [], 0⟩
def expandP (s : List UInt8) : Int × Nat × List (List UInt8 × Nat) :=
  if 3000 < s.length then (1, 0, [])
  else if badLine (splitB 10 s) 1 ≠ 0 then (1, badLine (splitB 10 s) 1, [])
  else if (blockP (callN 8) none 1 (splitB 10 s) 0 [] none noSt).1 ≠ 0 then ((blockP (callN 8) none 1 (splitB 10 s) 0 [] none noSt).1, (blockP (callN 8) none 1 (splitB 10 s) 0 [] none noSt).2.1, [])
  else (0, 0, (blockP (callN 8) none 1 (splitB 10 s) 0 [] none noSt).2.2.out)

/-- A macro's lines, up to its end: its error, its lines, how many were taken (with the end's). -/
def bodyP (d : List (List UInt8)) : List (List UInt8) → Int × List (List UInt8) × Nat
  | [] => (2, d, 0)
  | l :: r =>
    if (wordsP (cutL l)).op = opMacro then (2, d, 1)
    else if (wordsP (cutL l)).op = opEnd then (if bareW (wordsP (cutL l)) then 0 else 4, d, 1)
    else ((bodyP (d ++ [cutL l]) r).1, (bodyP (d ++ [cutL l]) r).2.1, (bodyP (d ++ [cutL l]) r).2.2 + 1)

theorem bodyP_len (ls : List (List UInt8)) : ∀ d, (bodyP d ls).2.2 ≤ ls.length := by
  induction ls with
  | nil => intro d; simp [bodyP]
  | cons l r ih =>
    intro d
    simp only [bodyP]
    split
    · simp
    · split
      · simp
      · have := ih (d ++ [cutL l]); simp; omega

/-- What a block makes of a macro that is being defined, by 'bodyP' (inc 1: of a text's lines). -/
theorem blockP_def (call : MacP → WordsP → Nat → StP → Int × StP) (sub : Option (List (List UInt8) × List (List UInt8))) (opens : List OpenP) (st : StP) (ls : List (List UInt8)) :
    ∀ (at_ : Nat) (d : MacP), blockP call sub 1 ls at_ opens (some d) st =
      if (bodyP d.lines ls).1 ≠ 0 then ((bodyP d.lines ls).1, at_ + (bodyP d.lines ls).2.2, st)
      else blockP call sub 1 (ls.drop (bodyP d.lines ls).2.2) (at_ + (bodyP d.lines ls).2.2) opens none { st with macros := st.macros ++ [{ d with lines := (bodyP d.lines ls).2.1 }] } := by
  induction ls with
  | nil => intro at_ d; simp [blockP, bodyP]
  | cons l r ih =>
    intro at_ d
    simp only [blockP, bodyP, collP]
    by_cases h1 : (wordsP (cutL l)).op = opMacro
    · simp [h1]
    · by_cases h2 : (wordsP (cutL l)).op = opEnd
      · by_cases h3 : bareW (wordsP (cutL l)) = true
        · simp [h2, h3, show ¬ opEnd = opMacro by decide]
        · simp [h2, h3, show ¬ opEnd = opMacro by decide]
      · simp only [if_neg h1, if_neg h2, ne_eq, not_true_eq_false, if_false]
        rw [ih]
        simp only [show ∀ n : Nat, at_ + 1 + n = at_ + (n + 1) from fun n => by omega, List.drop_succ_cons]

end Go.Proofs.YtcepppilgncdmaaGreatDoor
