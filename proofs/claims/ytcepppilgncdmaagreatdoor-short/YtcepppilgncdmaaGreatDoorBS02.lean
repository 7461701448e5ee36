/-
  Plain facts on lines as they are left; nothing of the program stands here.
  The plain functions by which macros, conditions and what Expand answers are said; nothing of the program stands here.
-/
import Derived.Test.YtcepppilgncdmaaGreatDoorBS01
namespace Go.Proofs.YtcepppilgncdmaaGreatDoor

/-- The head of a line as it is left. -/
def headP (lb op : List UInt8) : List UInt8 :=
  if op = [] then (if lb = [] then [] else lb ++ [58]) else if lb = [] then op else lb ++ [58] ++ [32] ++ op
theorem textP_head (w : WordsP) : textP w = headP w.label w.op ++ joined true w.operands := by
  unfold textP headP
  by_cases h1 : w.label = [] <;> by_cases h2 : w.op = [] <;> simp [h1, h2]

def sumLen (l : List (List UInt8)) : Nat := (l.map fun x => x.length + 1).sum
theorem joined_len (b : Bool) (l : List (List UInt8)) : (joined b l).length = sumLen l := by
  induction l generalizing b with
  | nil => cases b <;> rfl
  | cons x r ih => cases b <;> simp [joined, sumLen, ih] <;> omega

def joinedTo (ops : List ByteArray) (k : Nat) : List UInt8 := joined true ((ops.take k).map L)
theorem joined_snoc (b : Bool) (l : List (List UInt8)) (x : List UInt8) : joined b (l ++ [x]) = joined b l ++ ((if b && l.isEmpty then 32 else 44) :: x) := by
  induction l generalizing b with
  | nil => cases b <;> simp [joined]
  | cons y r ih => cases b <;> simp [joined, ih]
theorem joinedTo_succ (ops : List ByteArray) (k : Nat) (h : k < ops.length) : joinedTo ops (k + 1) = joinedTo ops k ++ ((if k = 0 then 32 else 44) :: L ops[k]) := by
  unfold joinedTo
  rw [List.take_succ_eq_append_getElem h, List.map_append, List.map_singleton, joined_snoc]
  congr 2
  cases k with
  | zero => rfl
  | succ k =>
    have : ((ops.take (k + 1)).map L).isEmpty = false := by
      cases ops with
      | nil => simp at h
      | cons a r => simp
    rw [this, Bool.and_false]
    simp

theorem sumLen_take (l : List (List UInt8)) : ∀ k, sumLen (l.take k) ≤ sumLen l := by
  induction l with
  | nil => intro k; simp
  | cons x r ih =>
    intro k
    cases k with
    | zero => simp [sumLen]
    | succ k =>
      have := ih k
      simp only [List.take_succ_cons, sumLen, List.map_cons, List.sum_cons] at this ⊢
      omega
theorem joinedTo_len (ops : List ByteArray) (k : Nat) : (joinedTo ops k).length ≤ sumLen (ops.map L) := by
  unfold joinedTo
  rw [joined_len, List.map_take]
  exact sumLen_take _ _
theorem ne_of_size (s : ByteArray) (h : ¬ s.size = 0) : L s ≠ [] := fun e => h (by rw [← L_length, e]; rfl)

end Go.Proofs.YtcepppilgncdmaaGreatDoor

namespace Go.Proofs.YtcepppilgncdmaaGreatDoor

structure MacP where
  name : List UInt8
  params : List (List UInt8)
  lines : List (List UInt8)
structure StP where
  macros : List MacP
  names : List (List UInt8 × Int)
  out : List (List UInt8 × Nat)
  calls : Nat
structure OpenP where
  yes : Bool
  els : Bool
  over : Bool

def opIf : List UInt8 := [46, 105, 102]
def opElse : List UInt8 := [46, 101, 108, 115, 101]
def opEndif : List UInt8 := [46, 101, 110, 100, 105, 102]
def opMacro : List UInt8 := [46, 109, 97, 99, 114, 111]
def opEnd : List UInt8 := [46, 101, 110, 100]
def opSet : List UInt8 := [46, 115, 101, 116]

def passOf (o : OpenP) : Bool := o.over || !o.yes
/-- Are lines passed over? (The innermost condition comes first.) -/
def overP : List OpenP → Bool
  | [] => false
  | o :: _ => passOf o
/-- Each condition knows whether it stands among lines that are passed over. -/
def Chain : List OpenP → Prop
  | [] => True
  | o :: r => o.over = overP r ∧ Chain r

/-- Which of some words is the longest with which a text begins, and how long it is. -/
def ahead (l : List UInt8) : List (List UInt8) → Nat → Option (Nat × Nat) → Option (Nat × Nat)
  | [], _, b => b
  | p :: r, i, b => ahead l r (i + 1) (if p.isPrefixOf l && (match b with | none => true | some (_, n) => decide (n < p.length)) then some (i, p.length) else b)

/-- Operands in the place of parameters; none: there is a stroke with no parameter behind. -/
def fillP (ps os : List (List UInt8)) : Nat → List UInt8 → Option (List UInt8)
  | 0, _ => some []
  | _ + 1, [] => some []
  | n + 1, c :: r =>
    if (c.toNat : Int) = 92 then
      match ahead r ps 0 none with
      | none => none
      | some (i, k) => (fillP ps os n (r.drop k)).map ((os.getD i []) ++ ·)
    else (fillP ps os n r).map (c :: ·)
def filledP (ps os : List (List UInt8)) (l : List UInt8) : Int × List UInt8 :=
  match fillP ps os l.length l with
  | none => (4, [])
  | some t => if 80 < t.length then (1, []) else (0, t)

def findM : List MacP → List UInt8 → Option MacP
  | [], _ => none
  | m :: r, s => if m.name = s then some m else findM r s
def bareW (w : WordsP) : Bool := decide (w.label = []) && decide (w.operands = [])

def leaveP (w : WordsP) (at_ : Nat) (st : StP) : Int × StP :=
  if textP w = [] then (0, st) else if 300 ≤ st.out.length then (8, st) else (0, { st with out := st.out ++ [(textP w, at_)] })

def ifP (w : WordsP) (opens : List OpenP) (st : StP) : Int × List OpenP :=
  if 8 ≤ opens.length then (2, opens)
  else if overP opens then (0, ⟨false, false, true⟩ :: opens)
  else if ¬ w.label = [] ∨ ¬ w.operands.length = 1 then (4, opens)
  else if (value 0 st.names (w.operands.headD [])).2 ≠ 0 then ((value 0 st.names (w.operands.headD [])).2, opens)
  else (0, ⟨decide ((value 0 st.names (w.operands.headD [])).1 ≠ 0), false, false⟩ :: opens)

def elseP (w : WordsP) : List OpenP → Int × List OpenP
  | [] => (2, [])
  | o :: r => if o.els then (2, o :: r) else if o.over = false ∧ bareW w = false then (4, o :: r) else (0, ⟨!o.yes, true, o.over⟩ :: r)
def endifP (w : WordsP) : List OpenP → Int × List OpenP
  | [] => (2, [])
  | o :: r => if o.over = false ∧ bareW w = false then (4, o :: r) else (0, r)

def allNames : List (List UInt8) → Bool
  | [] => true
  | o :: r => nameB o && allNames r
/-- No word stands there twice, nor among those that were seen. -/
def apartF (seen : List (List UInt8)) : List (List UInt8) → Bool
  | [] => true
  | o :: r => !seen.contains o && apartF (seen ++ [o]) r
def apartP (l : List (List UInt8)) : Bool := apartF [] l
def defP (inM : Bool) (w : WordsP) (st : StP) : Int × Option MacP :=
  if inM then (2, none)
  else if ¬ w.label = [] ∨ w.operands = [] then (4, none)
  else if allNames w.operands = false ∨ apartP w.operands.tail = false then (4, none)
  else match findM st.macros (w.operands.headD []) with
    | some _ => (5, none)
    | none => (0, some ⟨w.operands.headD [], w.operands.tail, []⟩)
def collP (d : MacP) (s : List UInt8) (st : StP) : Int × Option MacP × StP :=
  if (wordsP s).op = opMacro then (2, none, st)
  else if (wordsP s).op = opEnd then (if bareW (wordsP s) then (0, none, { st with macros := st.macros ++ [d] }) else (4, none, st))
  else (0, some { d with lines := d.lines ++ [s] }, st)

def hasN (ns : List (List UInt8 × Int)) (s : List UInt8) : Bool := (findN ns s).isSome
def setP (w : WordsP) (at_ : Nat) (st : StP) : Int × StP :=
  if ¬ w.label = [] ∨ ¬ w.operands.length = 2 then (4, st)
  else if nameB (w.operands.headD []) = false ∨ hasN st.names (w.operands.headD []) = true then (5, st)
  else if (value 0 st.names (w.operands.getD 1 [])).2 ≠ 0 then ((value 0 st.names (w.operands.getD 1 [])).2, st)
  else leaveP w at_ { st with names := st.names ++ [(w.operands.headD [], (value 0 st.names (w.operands.getD 1 [])).1)] }

/-- A line that is not passed over. -/
def lineP (call : MacP → WordsP → Nat → StP → Int × StP) (inM : Bool) (w : WordsP) (at_ : Nat) (opens : List OpenP) (st : StP) : Int × List OpenP × Option MacP × StP :=
  if w.op = opIf then ((ifP w opens st).1, (ifP w opens st).2, none, st)
  else if w.op = opElse then ((elseP w opens).1, (elseP w opens).2, none, st)
  else if w.op = opEndif then ((endifP w opens).1, (endifP w opens).2, none, st)
  else if w.op = opMacro then ((defP inM w st).1, opens, (defP inM w st).2, st)
  else if w.op = opEnd then (2, opens, none, st)
  else if w.op = opSet then ((setP w at_ st).1, opens, none, (setP w at_ st).2)
  else match findM st.macros w.op with
    | some m => ((call m w at_ st).1, opens, none, (call m w at_ st).2)
    | none => ((leaveP w at_ st).1, opens, none, (leaveP w at_ st).2)
/-- A line that is passed over. -/
def passP (w : WordsP) (opens : List OpenP) (st : StP) : Int × List OpenP :=
  if w.op = opIf then ifP w opens st else if w.op = opElse then elseP w opens else if w.op = opEndif then endifP w opens else (0, opens)

/-- What a block's line says: its words, or an error. -/
def readP (sub : Option (List (List UInt8) × List (List UInt8))) (over : Bool) (s : List UInt8) : Int × WordsP :=
  match sub, over with
  | some (ps, os), false => if (filledP ps os s).1 ≠ 0 then ((filledP ps os s).1, ⟨[], [], []⟩) else (0, wordsP (cutL (filledP ps os s).2))
  | _, _ => (0, wordsP (cutL s))

def blockP (call : MacP → WordsP → Nat → StP → Int × StP) (sub : Option (List (List UInt8) × List (List UInt8))) (inc : Nat) : List (List UInt8) → Nat → List OpenP → Option MacP → StP → Int × Nat × StP
  | [], at_, opens, d, st => if opens = [] ∧ d.isNone then (0, at_, st) else (2, at_, st)
  | l :: r, at_, opens, some d, st =>
    if (collP d (cutL l) st).1 ≠ 0 then ((collP d (cutL l) st).1, at_ + inc, st)
    else blockP call sub inc r (at_ + inc) opens (collP d (cutL l) st).2.1 (collP d (cutL l) st).2.2
  | l :: r, at_, opens, none, st =>
    if overP opens then
      if (passP (wordsP (cutL l)) opens st).1 ≠ 0 then ((passP (wordsP (cutL l)) opens st).1, at_ + inc, st)
      else blockP call sub inc r (at_ + inc) (passP (wordsP (cutL l)) opens st).2 none st
    else if (readP sub false (cutL l)).1 ≠ 0 then ((readP sub false (cutL l)).1, at_ + inc, st)
    else if (lineP call sub.isSome (readP sub false (cutL l)).2 (at_ + inc) opens st).1 ≠ 0 then ((lineP call sub.isSome (readP sub false (cutL l)).2 (at_ + inc) opens st).1, at_ + inc, st)
    else blockP call sub inc r (at_ + inc) (lineP call sub.isSome (readP sub false (cutL l)).2 (at_ + inc) opens st).2.1 (lineP call sub.isSome (readP sub false (cutL l)).2 (at_ + inc) opens st).2.2.1 (lineP call sub.isSome (readP sub false (cutL l)).2 (at_ + inc) opens st).2.2.2

/-- A macro is called, with so many still to be called within one another. -/
def callN : Nat → MacP → WordsP → Nat → StP → Int × StP
  | 0, _, _, _, st => (2, st)
  | n + 1, m, w, at_, st =>
    if ¬ w.operands.length = m.params.length then (4, st)
    else if 200 ≤ st.calls then (8, st)
    else if (leaveP ⟨w.label, [], []⟩ at_ st).1 ≠ 0 then ((leaveP ⟨w.label, [], []⟩ at_ st).1, st)
    else ((blockP (callN n) (some (m.params, w.operands)) 0 m.lines at_ [] none { (leaveP ⟨w.label, [], []⟩ at_ st).2 with calls := st.calls + 1 }).1,
      (blockP (callN n) (some (m.params, w.operands)) 0 m.lines at_ [] none { (leaveP ⟨w.label, [], []⟩ at_ st).2 with calls := st.calls + 1 }).2.2)

/-- The number of the first line that may not be; 0: all may be. -/
def badLine : List (List UInt8) → Nat → Nat
  | [], _ => 0
  | l :: r, k => if okLine l then badLine r (k + 1) else k

def noSt : StP := ⟨[], [], [], 0⟩
def expandP (s : List UInt8) : Int × Nat × List (List UInt8 × Nat) :=
  if 3000 < s.length then (1, 0, [])
  else if badLine (splitB 10 s) 1 ≠ 0 then (1, badLine (splitB 10 s) 1, [])
  else if (blockP (callN 8) none 1 (splitB 10 s) 0 [] none noSt).1 ≠ 0 then ((blockP (callN 8) none 1 (splitB 10 s) 0 [] none noSt).1, (blockP (callN 8) none 1 (splitB 10 s) 0 [] none noSt).2.1, [])
  else (0, 0, (blockP (callN 8) none 1 (splitB 10 s) 0 [] none noSt).2.2.out)

/-- A macro's lines, up to its end: its error, its lines, how many were taken (with the end's). -/
def bodyP (d : List (List UInt8)) : List (List UInt8) → Int × List (List UInt8) × Nat
  | [] => (2, d, 0)
  | l :: r =>
    if (wordsP (cutL l)).op = opMacro then (2, d, 1)
    else if (wordsP (cutL l)).op = opEnd then (if bareW (wordsP (cutL l)) then 0 else 4, d, 1)
    else ((bodyP (d ++ [cutL l]) r).1, (bodyP (d ++ [cutL l]) r).2.1, (bodyP (d ++ [cutL l]) r).2.2 + 1)

theorem bodyP_len (ls : List (List UInt8)) : ∀ d, (bodyP d ls).2.2 ≤ ls.length := by
  induction ls with
  | nil => intro d; simp [bodyP]
  | cons l r ih =>
    intro d
    simp only [bodyP]
    split
    · simp
    · split
      · simp
      · have := ih (d ++ [cutL l]); simp; omega

/-- What a block makes of a macro that is being defined, by 'bodyP' (inc 1: of a text's lines). -/
theorem blockP_def (call : MacP → WordsP → Nat → StP → Int × StP) (sub : Option (List (List UInt8) × List (List UInt8))) (opens : List OpenP) (st : StP) (ls : List (List UInt8)) :
    ∀ (at_ : Nat) (d : MacP), blockP call sub 1 ls at_ opens (some d) st =
      if (bodyP d.lines ls).1 ≠ 0 then ((bodyP d.lines ls).1, at_ + (bodyP d.lines ls).2.2, st)
      else blockP call sub 1 (ls.drop (bodyP d.lines ls).2.2) (at_ + (bodyP d.lines ls).2.2) opens none { st with macros := st.macros ++ [{ d with lines := (bodyP d.lines ls).2.1 }] } := by
  induction ls with
  | nil => intro at_ d; simp [blockP, bodyP]
  | cons l r ih =>
    intro at_ d
    simp only [blockP, bodyP, collP]
    by_cases h1 : (wordsP (cutL l)).op = opMacro
    · simp [h1]
    · by_cases h2 : (wordsP (cutL l)).op = opEnd
      · by_cases h3 : bareW (wordsP (cutL l)) = true
        · simp [h2, h3, show ¬ opEnd = opMacro by decide]
        · simp [h2, h3, show ¬ opEnd = opMacro by decide]
      · simp only [if_neg h1, if_neg h2, ne_eq, not_true_eq_false, if_false]
        rw [ih]
        simp only [show ∀ n : Nat, at_ + 1 + n = at_ + (n + 1) from fun n => by omega, List.drop_succ_cons]

end Go.Proofs.YtcepppilgncdmaaGreatDoor
