/-
  The plain functions by which programs and what Assemble answers are said; nothing of the program stands here.
  What is left of a line reads the same again. Nothing of the program stands here.
  What holds of all lines that are left of a text: each reads the same again, is no longer than a line may be, and asks for nothing but what it makes. Nothing of the program stands here.
  P6, in plain words: what is left of a text, line by line, is a text of which the same is left, and of which the same is made. Nothing of the program stands here.
  What an expression that is put together term by term comes to, by the plain functions; nothing of the program stands here.
  A text of conditions, line by line: the plain side of Chosen. Nothing of the program stands here.
  P7, in plain words: a program of jumps to any places, and of room between. Nothing of the program stands here.
-/
import Derived.Test.YtcepppilgncdmaaGreatDoorBS01
namespace Go.Proofs.YtcepppilgncdmaaGreatDoor

/-- An operation: in which way it makes bytes (1: a code, 2: a code and an expression, 3: a jump, 4: data, 5: room, 6: up to a multiple; 0: none), how many registers, its code, its long code, how many bytes an expression has. -/
structure OpnP where
  kind : Nat
  regs : Nat
  code : Nat
  long : Nat
  width : Nat
def noOpn : OpnP := ⟨0, 0, 0, 0, 0⟩
def oNop : List UInt8 := [110, 111, 112]
def oRet : List UInt8 := [114, 101, 116]
def oMov : List UInt8 := [109, 111, 118]
def oAdd : List UInt8 := [97, 100, 100]
def oSub : List UInt8 := [115, 117, 98]
def oLoad : List UInt8 := [108, 111, 97, 100]
def oCall : List UInt8 := [99, 97, 108, 108]
def oJmp : List UInt8 := [106, 109, 112]
def oJz : List UInt8 := [106, 122]
def oByte : List UInt8 := [46, 98, 121, 116, 101]
def oWord : List UInt8 := [46, 119, 111, 114, 100]
def oSpace : List UInt8 := [46, 115, 112, 97, 99, 101]
def oAlign : List UInt8 := [46, 97, 108, 105, 103, 110]

def opnP (op : List UInt8) : Option OpnP :=
  if op = oNop then some ⟨1, 0, 0, 0, 0⟩
  else if op = oRet then some ⟨1, 0, 161, 0, 0⟩
  else if op = oMov then some ⟨1, 2, 64, 0, 0⟩
  else if op = oAdd then some ⟨1, 2, 80, 0, 0⟩
  else if op = oSub then some ⟨1, 2, 96, 0, 0⟩
  else if op = oLoad then some ⟨2, 1, 16, 0, 1⟩
  else if op = oCall then some ⟨2, 0, 160, 0, 2⟩
  else if op = oJmp then some ⟨3, 0, 128, 129, 2⟩
  else if op = oJz then some ⟨3, 1, 132, 136, 2⟩
  else if op = oByte then some ⟨4, 0, 0, 0, 1⟩
  else if op = oWord then some ⟨4, 0, 0, 0, 2⟩
  else if op = oSpace then some ⟨5, 0, 0, 0, 0⟩
  else if op = oAlign then some ⟨6, 0, 0, 0, 0⟩
  else none

/-- A line of a program: its words, its text, the line it comes from; its operation; what its registers add; its number (.space, .align); the value of .set; its address; of a jump: is it long? -/
structure StmP where
  w : WordsP
  txt : List UInt8
  frm : Nat
  o : OpnP
  added : Nat
  count : Nat
  val : Int
  at_ : Int
  long : Bool
def StmP.exprs (s : StmP) : List (List UInt8) := s.w.operands.drop s.o.regs

/-- The names that a line defines. -/
def nameP (s : StmP) : List (List UInt8 × Int) := if s.w.op = opSet then [(s.w.operands.headD [], s.val)] else if s.w.label = [] then [] else [(s.w.label, s.at_)]
def namesP (l : List StmP) : List (List UInt8 × Int) := l.flatMap nameP
def setOf (s : StmP) : List (List UInt8 × Int) := if s.w.op = opSet then [(s.w.operands.headD [], s.val)] else []
def setsP (l : List StmP) : List (List UInt8 × Int) := l.flatMap setOf

def regsP : List (List UInt8) → Nat → Option Nat
  | [], a => some a
  | r :: t, a => if regB r then regsP t (4 * a + (regV r).toNat) else none
def takesP (o : OpnP) (n : Nat) : Bool := if o.kind = 1 then decide (n = o.regs) else if o.kind = 4 then decide (o.regs + 1 ≤ n) else decide (n = o.regs + 1)
def alignB (v : Int) : Bool := decide (v = 1 ∨ v = 2 ∨ v = 4 ∨ v = 8 ∨ v = 16)
/-- The number of .space and .align: its error, itself. -/
def countP (kind : Nat) (sets : List (List UInt8 × Int)) (e : List UInt8) : Int × Nat :=
  if (value 0 sets e).2 ≠ 0 then ((value 0 sets e).2, 0)
  else if (value 0 sets e).1 < 0 ∨ 1000 < (value 0 sets e).1 ∨ (kind = 6 ∧ alignB (value 0 sets e).1 = false) then (7, 0)
  else (0, (value 0 sets e).1.toNat)
/-- Operands: their error, what registers add, the number. -/
def operandsP (o : OpnP) (ops : List (List UInt8)) (sets : List (List UInt8 × Int)) : Int × Nat × Nat :=
  if takesP o ops.length = false then (4, 0, 0)
  else match regsP (ops.take o.regs) 0 with
    | none => (4, 0, 0)
    | some a => if o.kind = 5 ∨ o.kind = 6 then ((countP o.kind sets ((ops.drop o.regs).headD [])).1, a, (countP o.kind sets ((ops.drop o.regs).headD [])).2) else (0, a, 0)

/-- What one line says behind others: its error, itself. -/
def lookP (l : List StmP) (W : WordsP) (txt : List UInt8) (frm : Nat) : Int × StmP :=
  if W.op = opSet then
    if hasN (namesP l) (W.operands.headD []) then (5, ⟨W, txt, frm, noOpn, 0, 0, 0, 0, false⟩)
    else (0, ⟨W, txt, frm, noOpn, 0, 0, (value 0 (setsP l) (W.operands.getD 1 [])).1, 0, false⟩)
  else if (opnP W.op).isNone ∧ W.op ≠ [] then (3, ⟨W, txt, frm, noOpn, 0, 0, 0, 0, false⟩)
  else if W.label ≠ [] ∧ hasN (namesP l) W.label then (5, ⟨W, txt, frm, noOpn, 0, 0, 0, 0, false⟩)
  else match opnP W.op with
    | none => (0, ⟨W, txt, frm, noOpn, 0, 0, 0, 0, false⟩)
    | some o => ((operandsP o W.operands (setsP l)).1, ⟨W, txt, frm, o, (operandsP o W.operands (setsP l)).2.1, (operandsP o W.operands (setsP l)).2.2, 0, 0, false⟩)
def lookAll : List (List UInt8 × Nat) → List StmP → Int × Nat × List StmP
  | [], l => (0, 0, l)
  | (t, n) :: r, l => if (lookP l (wordsP t) t n).1 ≠ 0 then ((lookP l (wordsP t) t n).1, n, l) else lookAll r (l ++ [(lookP l (wordsP t) t n).2])

/-- How many bytes a line makes. -/
def sizeP (s : StmP) : Nat :=
  if s.o.kind = 1 then 1
  else if s.o.kind = 2 then 1 + s.o.width
  else if s.o.kind = 3 then (if s.long then 3 else 2)
  else if s.o.kind = 4 then s.o.width * s.exprs.length
  else if s.o.kind = 5 then s.count
  else if s.o.kind = 6 then (s.count - s.at_.toNat % s.count) % s.count
  else 0
/-- All lines get their addresses. -/
def laidP : List StmP → Nat → List StmP
  | [], _ => []
  | s :: r, a => { s with at_ := a } :: laidP r (a + sizeP { s with at_ := a })
def endP : List StmP → Nat → Nat
  | [], a => a
  | s :: r, a => endP r (a + sizeP { s with at_ := a })

/-- How far a short jump is. -/
def farP (all : List (List UInt8 × Int)) (s : StmP) : Int := (value s.at_ all (s.exprs.headD [])).1 - (s.at_ + 2)
def growsP (all : List (List UInt8 × Int)) (s : StmP) : Bool :=
  decide (s.o.kind = 3) && !s.long && decide ((value s.at_ all (s.exprs.headD [])).2 = 0) && (decide (farP all s < -128) || decide (127 < farP all s))
def longP (all : List (List UInt8 × Int)) (s : StmP) : StmP := if growsP all s then { s with long := true } else s
def findP : Nat → List StmP → List StmP
  | 0, l => l
  | n + 1, l => if l.any (growsP (namesP l)) then findP n (laidP (l.map (longP (namesP l))) 0) else l

def byteP (v : Int) : UInt8 := UInt8.ofNat (v % 256).toNat
/-- A number in one byte or two: its error, its bytes. -/
def numP (width : Nat) (v : Int) : Int × List UInt8 :=
  if width = 1 then (if v < -128 ∨ 255 < v then (7, []) else (0, [byteP v]))
  else (if v < -32768 ∨ 65535 < v then (7, []) else (0, [byteP v, byteP (v / 256)]))
def exprsP (all : List (List UInt8 × Int)) (at_ : Int) (width : Nat) : List (List UInt8) → Int × List UInt8
  | [] => (0, [])
  | e :: r =>
    if (value at_ all e).2 ≠ 0 then ((value at_ all e).2, [])
    else if (numP width (value at_ all e).1).1 ≠ 0 then ((numP width (value at_ all e).1).1, [])
    else if (exprsP all at_ width r).1 ≠ 0 then ((exprsP all at_ width r).1, [])
    else (0, (numP width (value at_ all e).1).2 ++ (exprsP all at_ width r).2)
def behind (c : Int) (x : Int × List UInt8) : Int × List UInt8 := if x.1 ≠ 0 then (x.1, []) else (0, byteP c :: x.2)
/-- A line's bytes, or its error. -/
def bytesP (all : List (List UInt8 × Int)) (s : StmP) : Int × List UInt8 :=
  if s.o.kind = 1 ∨ s.o.kind = 2 then behind (s.o.code + s.added : Nat) (exprsP all s.at_ s.o.width s.exprs)
  else if s.o.kind = 3 then
    if s.long then behind (s.o.long + s.added : Nat) (exprsP all s.at_ s.o.width s.exprs)
    else if (value s.at_ all (s.exprs.headD [])).2 ≠ 0 then ((value s.at_ all (s.exprs.headD [])).2, [])
    else (0, [byteP (s.o.code + s.added : Nat), byteP (farP all s)])
  else if s.o.kind = 4 then exprsP all s.at_ s.o.width s.exprs
  else if s.o.kind = 5 ∨ s.o.kind = 6 then (0, List.replicate (sizeP s) 0)
  else (0, [])
def allBytes (all : List (List UInt8 × Int)) : List StmP → Int × Nat × List UInt8
  | [] => (0, 0, [])
  | s :: r =>
    if (bytesP all s).1 ≠ 0 then ((bytesP all s).1, s.frm, [])
    else if (allBytes all r).1 ≠ 0 then ((allBytes all r).1, (allBytes all r).2.1, [])
    else (0, 0, (bytesP all s).2 ++ (allBytes all r).2.2)

structure ProgP where
  bytes : List UInt8
  stms : List StmP
def noProg : ProgP := ⟨[], []⟩
/-- The lines of a program in the end. -/
def placedP (l : List StmP) : List StmP := findP (l.length + 1) (laidP l 0)
/-- What is made of lines: an error and where, or a program. -/
def makeP (l : List StmP) : Int × Nat × ProgP :=
  if 1000 < endP (placedP l) 0 then (8, 0, noProg)
  else if (allBytes (namesP (placedP l)) (placedP l)).1 ≠ 0 then ((allBytes (namesP (placedP l)) (placedP l)).1, (allBytes (namesP (placedP l)) (placedP l)).2.1, noProg)
  else (0, 0, ⟨(allBytes (namesP (placedP l)) (placedP l)).2.2, placedP l⟩)
def assembleP (s : List UInt8) : Int × Nat × ProgP :=
  if (expandP s).1 ≠ 0 then ((expandP s).1, (expandP s).2.1, noProg)
  else if (lookAll (expandP s).2.2 []).1 ≠ 0 then ((lookAll (expandP s).2.2 []).1, (lookAll (expandP s).2.2 []).2.1, noProg)
  else makeP (lookAll (expandP s).2.2 []).2.2

/-! The addresses are those that the lines have by their sizes; the sizes do not hang on addresses, but for .align's. -/
theorem laidP_len (l : List StmP) : ∀ a, (laidP l a).length = l.length := by
  induction l with
  | nil => intro a; rfl
  | cons s r ih => intro a; simp [laidP, ih]
theorem endP_laid (l : List StmP) : ∀ a, endP (laidP l a) a = endP l a := by
  induction l with
  | nil => intro a; rfl
  | cons s r ih => intro a; simp only [laidP, endP]; exact ih _
theorem findP_len : ∀ (n : Nat) (l : List StmP), (findP n l).length = l.length
  | 0, l => rfl
  | n + 1, l => by
    simp only [findP]
    split
    · rw [findP_len n, laidP_len, List.length_map]
    · rfl
theorem any_map_id {all : List (List UInt8 × Int)} {l : List StmP} (h : l.any (growsP all) = false) : l.map (longP all) = l := by
  induction l with
  | nil => rfl
  | cons s r ih =>
    simp only [List.any_cons, Bool.or_eq_false_iff] at h
    simp [longP, h.1, ih h.2]

/-- How many jumps are short yet. -/
def shorts (l : List StmP) : Nat := l.countP fun s => !s.long
theorem shorts_laid (l : List StmP) : ∀ a, shorts (laidP l a) = shorts l := by
  induction l with
  | nil => intro a; rfl
  | cons s r ih =>
    intro a
    have := ih (a + sizeP { s with at_ := a })
    simp only [shorts] at this ⊢
    simp only [laidP, List.countP_cons, this]
theorem longP_short (all : List (List UInt8 × Int)) (s : StmP) (h : (!(longP all s).long) = true) : (!s.long) = true := by
  unfold longP at h
  split at h
  · simp at h
  · exact h
theorem shorts_map (all : List (List UInt8 × Int)) (l : List StmP) : shorts (l.map (longP all)) ≤ shorts l := by
  induction l with
  | nil => simp [shorts]
  | cons s r ih =>
    simp only [shorts] at ih ⊢
    simp only [List.map_cons, List.countP_cons]
    have h := longP_short all s
    split <;> split <;> first | omega | (rename_i a b; exact absurd (h a) b)
theorem shorts_less {all : List (List UInt8 × Int)} {l : List StmP} (h : l.any (growsP all) = true) : shorts (l.map (longP all)) < shorts l := by
  induction l with
  | nil => simp at h
  | cons s r ih =>
    simp only [List.any_cons, Bool.or_eq_true] at h
    have h2 := shorts_map all r
    simp only [shorts] at ih h2 ⊢
    simp only [List.map_cons, List.countP_cons]
    rcases h with h | h
    · have h3 : s.long = false := by unfold growsP at h; simp at h; exact h.1.1.2
      have h5 : (!(longP all s).long) = false := by simp [longP, h]
      have h6 : (!s.long) = true := by simp [h3]
      rw [if_neg (by simp [h5]), if_pos h6]
      omega
    · have h1 := ih h
      have h4 := longP_short all s
      split <;> split <;> first | omega | (rename_i a b; exact absurd (h4 a) b)
theorem shorts_le (l : List StmP) : shorts l ≤ l.length := List.countP_le_length

end Go.Proofs.YtcepppilgncdmaaGreatDoor

namespace Go.Proofs.YtcepppilgncdmaaGreatDoor

def isBl (c : UInt8) : Bool := decide ((c.toNat : Int) = 32)
def noBl (l : List UInt8) : Prop := ∀ c ∈ l, ¬ (c.toNat : Int) = 32
def noCm (l : List UInt8) : Prop := ∀ c ∈ l, ¬ (c.toNat : Int) = 44
/-- Words as a line has them. -/
structure GoodW (W : WordsP) : Prop where
  label : W.label = [] ∨ nameB W.label = true
  op : noBl W.op
  first : W.label = [] → labelB W.op = false
  none : W.op = [] → W.operands = []
  ops : ∀ o ∈ W.operands, noBl o ∧ noCm o
  some : W.operands ≠ [[]]

theorem blanks_noBl {l : List UInt8} (h : noBl l) : blanks l = 0 := by
  cases l with
  | nil => rfl
  | cons c r => simp [blanks, h c (by simp)]
theorem solid_app {a b : List UInt8} (h : noBl a) : solid (a ++ b) = a.length + solid b := by
  induction a with
  | nil => simp
  | cons c r ih =>
    simp only [List.cons_append, solid, if_neg (h c (by simp)), List.length_cons]
    rw [ih (fun x hx => h x (by simp [hx]))]; omega
theorem solid_blank (l : List UInt8) : solid (32 :: l) = 0 := by simp [solid]
theorem blanks_blank (l : List UInt8) : blanks (32 :: l) = blanks l + 1 := by simp [blanks]
theorem solid_nil : solid [] = 0 := rfl
theorem wordOf_word {a b : List UInt8} (ha : noBl a) (h0 : a ≠ []) (hb : b = [] ∨ ∃ c, b = 32 :: c) : wordOf (a ++ b) = a ∧ restOf (a ++ b) = b := by
  have h1 : blanks (a ++ b) = 0 := by
    cases a with
    | nil => exact absurd rfl h0
    | cons c r => simp [blanks, ha c (by simp)]
  have h2 : solid (a ++ b) = a.length := by
    rw [solid_app ha]
    rcases hb with rfl | ⟨c, rfl⟩
    · simp [solid_nil]
    · simp [solid_blank]
  unfold wordOf restOf
  rw [h1, List.drop_zero, h2]
  simp
theorem wordOf_blank (l : List UInt8) : wordOf (32 :: l) = wordOf l ∧ restOf (32 :: l) = restOf l := by
  unfold wordOf restOf
  rw [blanks_blank, List.drop_succ_cons]
  refine ⟨rfl, ?_⟩
  rw [show blanks l + 1 + solid (List.drop (blanks l) l) = (blanks l + solid (List.drop (blanks l) l)) + 1 from by omega, List.drop_succ_cons]
theorem wordOf_nil : wordOf [] = [] ∧ restOf [] = [] := ⟨rfl, rfl⟩

theorem noBlank_app (a b : List UInt8) : noBlank (a ++ b) = noBlank a ++ noBlank b := List.filter_append ..
theorem noBlank_id {l : List UInt8} (h : noBl l) : noBlank l = l := by
  unfold noBlank
  rw [List.filter_eq_self]
  intro c hc; simpa using h c hc
theorem noBlank_joined (ops : List (List UInt8)) (h : ∀ o ∈ ops, noBl o) : noBlank (joined false ops) = joined false ops := by
  induction ops with
  | nil => rfl
  | cons o r ih =>
    simp only [joined]
    rw [show (44 :: o ++ joined false r : List UInt8) = [44] ++ (o ++ joined false r) from rfl, noBlank_app, noBlank_app, ih (fun x hx => h x (by simp [hx])), noBlank_id (h o (by simp))]
    rfl
theorem splitOn_skip (s o l : List UInt8) (h : noCm o) : splitOn 44 s (o ++ l) = splitOn 44 (s ++ o) l := by
  induction o generalizing s with
  | nil => simp
  | cons c r ih =>
    rw [List.cons_append, splitOn_miss _ _ _ _ (h c (by simp)), ih _ (fun x hx => h x (by simp [hx]))]
    simp
theorem splitOn_joined (ops : List (List UInt8)) (h : ∀ o ∈ ops, noCm o) : ∀ s, splitOn 44 s (joined false ops) = s :: ops := by
  induction ops with
  | nil => intro s; rw [joined, splitOn_end]
  | cons o r ih =>
    intro s
    simp only [joined]
    rw [show (44 :: o ++ joined false r : List UInt8) = 44 :: (o ++ joined false r) from rfl, splitOn_hit _ _ _ _ (by rfl), splitOn_skip _ _ _ (h o (by simp)), List.nil_append, ih (fun x hx => h x (by simp [hx]))]
theorem operandsOf_joined {ops : List (List UInt8)} (h : ∀ o ∈ ops, noBl o ∧ noCm o) (hs : ops ≠ [[]]) : operandsOf (joined true ops) = ops := by
  cases ops with
  | nil => rfl
  | cons o r =>
    have h1 : noBlank (joined true (o :: r)) = o ++ joined false r := by
      simp only [joined]
      rw [show (32 :: o ++ joined false r : List UInt8) = [32] ++ (o ++ joined false r) from rfl, noBlank_app, noBlank_app, noBlank_joined r (fun x hx => (h x (by simp [hx])).1), noBlank_id (h o (by simp)).1]
      rfl
    have h2 : o ++ joined false r ≠ [] := by
      intro e
      rw [List.append_eq_nil_iff] at e
      obtain ⟨e1, e2⟩ := e
      cases r with
      | nil => exact hs (by rw [e1])
      | cons a b => simp [joined] at e2
    unfold operandsOf
    rw [h1, if_neg h2, ← splitOn_nil, splitOn_skip _ _ _ (h o (by simp)).2, List.nil_append, splitOn_joined r (fun x hx => (h x (by simp [hx])).2)]
theorem joined_head (ops : List (List UInt8)) : joined true ops = [] ∨ ∃ c, joined true ops = 32 :: c := by
  cases ops with
  | nil => exact Or.inl rfl
  | cons o r => exact Or.inr ⟨o ++ joined false r, rfl⟩

theorem nameB_noBl {l : List UInt8} (h : nameB l = true) : noBl l ∧ l ≠ [] := by
  cases l with
  | nil => cases h
  | cons c r =>
    refine ⟨?_, by simp⟩
    simp only [nameB, Bool.and_eq_true] at h
    intro x hx
    have h1 := h.2
    unfold allNb at h1
    rw [List.all_eq_true] at h1
    have := h1 x hx
    simp only [nbB, decide_eq_true_eq] at this
    omega
theorem labelB_name {l : List UInt8} (h : nameB l = true) : labelB (l ++ [58]) = true := by
  have h0 := (nameB_noBl h).2
  have h1 : 0 < l.length := List.length_pos_iff.2 h0
  unfold labelB
  simp only [Bool.and_eq_true, decide_eq_true_eq, List.dropLast_concat]
  refine ⟨⟨by simp; omega, ?_⟩, h⟩
  rw [List.getLastD_eq_getLast?, List.getLast?_concat]
  rfl
theorem reread {W : WordsP} (h : GoodW W) : wordsP (textP W) = W := by
  obtain ⟨lb, op, ops⟩ := W
  rw [textP_head]
  simp only at *
  have hops := operandsOf_joined h.ops h.some
  have hj := joined_head ops
  rcases h.label with hl | hl
  · have hl' : lb = [] := hl
    subst hl'
    by_cases h0 : op = []
    · have h1 : ops = [] := h.none h0
      subst h0 h1
      rfl
    · obtain ⟨h1, h2⟩ := wordOf_word h.op h0 hj
      have h3 : labelB op = false := h.first rfl
      have h4 : headP [] op = op := by unfold headP; simp [h0]
      rw [h4]
      unfold wordsP
      rw [h1, h3, if_neg (by simp), h2, hops]
  · have hl' : nameB lb = true := hl
    obtain ⟨hn1, hn2⟩ := nameB_noBl hl'
    have hlb := labelB_name hl'
    have hc : noBl (lb ++ [58]) := by
      intro x hx
      rcases List.mem_append.1 hx with hx | hx
      · exact hn1 x hx
      · rw [List.mem_singleton] at hx; subst hx; decide
    by_cases h0 : op = []
    · have h1 : ops = [] := h.none h0
      subst h0 h1
      have h4 : headP lb [] = lb ++ [58] := by unfold headP; simp [hn2]
      rw [h4]
      obtain ⟨h5, h6⟩ := wordOf_word hc (by simp) (b := joined true []) hj
      unfold wordsP
      rw [h5, hlb, if_pos rfl, h6]
      simp [joined, wordOf_nil]
      rfl
    · have h4 : headP lb op = (lb ++ [58]) ++ (32 :: op) := by unfold headP; simp [hn2, h0]
      rw [h4, List.append_assoc]
      obtain ⟨h5, h6⟩ := wordOf_word hc (by simp) (b := 32 :: op ++ joined true ops) (Or.inr ⟨op ++ joined true ops, rfl⟩)
      obtain ⟨h7, h8⟩ := wordOf_word h.op h0 hj
      obtain ⟨h9, h10⟩ := wordOf_blank (op ++ joined true ops)
      unfold wordsP
      rw [h5, hlb, if_pos rfl, h6]
      simp only [List.cons_append] at *
      rw [h9, h10, h7, h8, hops]
      simp

/-! What is read of any line. -/
theorem solid_noBl (l : List UInt8) : noBl (l.take (solid l)) := by
  induction l with
  | nil => intro c hc; simp at hc
  | cons c r ih =>
    simp only [solid]
    split
    · intro x hx; simp at hx
    · rename_i h
      intro x hx
      simp only [List.take_succ_cons, List.mem_cons] at hx
      rcases hx with rfl | hx
      · exact h
      · exact ih x hx
theorem wordOf_noBl (l : List UInt8) : noBl (wordOf l) := solid_noBl _
theorem blanks_drop (l : List UInt8) : l.drop (blanks l) = [] ∨ ∃ c r, l.drop (blanks l) = c :: r ∧ ¬ (c.toNat : Int) = 32 := by
  induction l with
  | nil => exact Or.inl rfl
  | cons c r ih =>
    simp only [blanks]
    split
    · simpa using ih
    · rename_i h
      exact Or.inr ⟨c, r, rfl, h⟩
theorem wordOf_none {l : List UInt8} (h : wordOf l = []) : restOf l = [] := by
  unfold wordOf at h
  unfold restOf
  rcases blanks_drop l with h1 | ⟨c, r, h1, h2⟩
  · rw [h1, solid_nil, Nat.add_zero, h1]
  · rw [h1] at h
    simp [solid, h2] at h
theorem splitB_parts (l : List UInt8) : (∀ o ∈ splitB 44 l, noCm o ∧ ∀ c ∈ o, c ∈ l) ∧ (splitB 44 l = [[]] → l = []) := by
  induction l with
  | nil => simp [splitB, noCm]
  | cons c r ih =>
    have hne := splitB_ne 44 r
    simp only [splitB]
    split
    · rename_i hc
      refine ⟨fun o ho => ?_, fun e => ?_⟩
      · rcases List.mem_cons.1 ho with rfl | ho
        · exact ⟨(fun x hx => by cases hx), (fun x hx => by cases hx)⟩
        · exact ⟨(ih.1 o ho).1, fun x hx => List.mem_cons_of_mem _ ((ih.1 o ho).2 x hx)⟩
      · simp at e; exact absurd e hne
    · rename_i hc
      cases hs : splitB 44 r with
      | nil => exact absurd hs hne
      | cons a b =>
        rw [hs] at ih
        refine ⟨fun o ho => ?_, fun e => by simp at e⟩
        rcases List.mem_cons.1 ho with rfl | ho
        · have h1 := ih.1 a (by simp)
          refine ⟨fun x hx => ?_, fun x hx => ?_⟩
          · rcases List.mem_cons.1 hx with rfl | hx
            · exact hc
            · exact h1.1 x hx
          · rcases List.mem_cons.1 hx with rfl | hx
            · simp
            · exact List.mem_cons_of_mem _ (h1.2 x hx)
        · have h1 := ih.1 o (by simp [ho])
          exact ⟨h1.1, fun x hx => List.mem_cons_of_mem _ (h1.2 x hx)⟩
theorem operandsOf_good (l : List UInt8) : (∀ o ∈ operandsOf l, noBl o ∧ noCm o) ∧ operandsOf l ≠ [[]] := by
  unfold operandsOf
  split
  · exact ⟨(fun o ho => by cases ho), by simp⟩
  · rename_i h
    obtain ⟨h1, h2⟩ := splitB_parts (noBlank l)
    refine ⟨fun o ho => ⟨fun c hc => ?_, (h1 o ho).1⟩, fun e => h (h2 e)⟩
    have := (h1 o ho).2 c hc
    unfold noBlank at this
    simpa using (List.mem_filter.1 this).2
theorem operandsOf_nil : operandsOf [] = [] := rfl
theorem good_words (l : List UInt8) : GoodW (wordsP l) := by
  unfold wordsP
  split
  · rename_i h
    have h1 : nameB (wordOf l).dropLast = true := by unfold labelB at h; simp only [Bool.and_eq_true] at h; exact h.2
    obtain ⟨h2, h3⟩ := operandsOf_good (restOf (restOf l))
    exact ⟨Or.inr h1, wordOf_noBl _, (fun e => by have h0 := (nameB_noBl h1).2; exact absurd e h0), (fun e => by show operandsOf _ = []; rw [wordOf_none e]; rfl), h2, h3⟩
  · rename_i h
    obtain ⟨h2, h3⟩ := operandsOf_good (restOf l)
    exact ⟨Or.inl rfl, wordOf_noBl _, (fun _ => by simpa using h), (fun e => by show operandsOf _ = []; rw [wordOf_none e]; rfl), h2, h3⟩
theorem good_label {W : WordsP} (h : GoodW W) : GoodW ⟨W.label, [], []⟩ :=
  ⟨h.label, (fun c hc => by cases hc), (fun _ => rfl), (fun _ => rfl), (fun o ho => by cases ho), by simp⟩
end Go.Proofs.YtcepppilgncdmaaGreatDoor

namespace Go.Proofs.YtcepppilgncdmaaGreatDoor

theorem wordRest_len (l : List UInt8) : (wordOf l).length + (restOf l).length ≤ l.length := by
  unfold wordOf restOf
  have h1 := blanks_le l
  have h2 := solid_le (l.drop (blanks l))
  simp only [List.length_drop, List.length_take] at *
  omega
theorem restOf_head (l : List UInt8) : restOf l = [] ∨ ∃ c, restOf l = 32 :: c := by
  unfold restOf
  rw [← List.drop_drop]
  generalize l.drop (blanks l) = m
  induction m with
  | nil => exact Or.inl rfl
  | cons c r ih =>
    simp only [solid]
    split
    · rename_i h
      refine Or.inr ⟨r, ?_⟩
      rw [List.drop_zero]
      congr 1
      apply UInt8.toNat_inj.1
      have : c.toNat = 32 := by omega
      rw [this]; rfl
    · simpa using ih
theorem splitB_sum (l : List UInt8) : sumLen (splitB 44 l) = l.length + 1 := by
  induction l with
  | nil => rfl
  | cons c r ih =>
    simp only [splitB]
    split
    · unfold sumLen at ih ⊢
      simp only [List.map_cons, List.sum_cons, ih, List.length_cons, List.length_nil]; omega
    · have hne := splitB_ne 44 r
      cases hs : splitB 44 r with
      | nil => exact absurd hs hne
      | cons a b =>
        rw [hs] at ih
        unfold sumLen at ih ⊢
        simp only [List.map_cons, List.sum_cons, List.length_cons] at ih ⊢
        omega
theorem joined_rest {r : List UInt8} (h : r = [] ∨ ∃ c, r = 32 :: c) : (joined true (operandsOf r)).length ≤ r.length := by
  unfold operandsOf
  split
  · simp [joined]
  · rename_i h0
    rw [joined_len, splitB_sum]
    rcases h with rfl | ⟨c, rfl⟩
    · exact absurd rfl h0
    · have h1 : noBlank (32 :: c) = noBlank c := rfl
      rw [h1]
      have : (noBlank c).length ≤ c.length := List.length_filter_le _ _
      simp only [List.length_cons]; omega
theorem headP_lab {lb : List UInt8} (h : lb ≠ []) : (headP lb []).length = lb.length + 1 := by simp [headP, h]
theorem headP_op {op : List UInt8} (h : op ≠ []) : (headP [] op).length = op.length := by simp [headP, h]
theorem headP_both {lb op : List UInt8} (h : lb ≠ []) (k : op ≠ []) : (headP lb op).length = lb.length + 2 + op.length := by simp [headP, h, k]; omega
theorem textP_len (l : List UInt8) : (textP (wordsP l)).length ≤ l.length := by
  have h1 := wordRest_len l
  have h2 := restOf_head l
  rw [textP_head]
  unfold wordsP
  split
  · rename_i h
    have h3 : 1 < (wordOf l).length := by unfold labelB at h; simp only [Bool.and_eq_true, decide_eq_true_eq] at h; exact h.1.1
    have h4 := wordRest_len (restOf l)
    have h5 := joined_rest (restOf_head (restOf l))
    show (headP (wordOf l).dropLast (wordOf (restOf l)) ++ joined true (operandsOf (restOf (restOf l)))).length ≤ _
    have hd : (wordOf l).dropLast ≠ [] := by
      intro e
      have := congrArg List.length e
      simp at this
      omega
    have hdl : (wordOf l).dropLast.length = (wordOf l).length - 1 := List.length_dropLast
    by_cases h0 : wordOf (restOf l) = []
    · rw [h0, wordOf_none h0, operandsOf_nil, List.length_append, headP_lab hd]
      simp only [joined, List.length_nil]
      omega
    · rw [List.length_append, headP_both hd h0]
      rcases h2 with h2 | ⟨c, h2⟩
      · rw [h2] at h0; exact absurd rfl h0
      · rw [h2] at h1 h4 h5 ⊢
        obtain ⟨h6, h7⟩ := wordOf_blank c
        rw [h6, h7] at h4
        rw [h7] at h5
        rw [h6, h7]
        have h8 := wordRest_len c
        simp only [List.length_cons] at h1 h4 h5
        omega
  · have h5 := joined_rest h2
    show (headP [] (wordOf l) ++ joined true (operandsOf (restOf l))).length ≤ _
    by_cases h0 : wordOf l = []
    · rw [h0, wordOf_none h0, operandsOf_nil]
      simp [joined, headP]
    · rw [List.length_append, headP_op h0]
      omega

/-! Which bytes stand there. -/
def okC (c : UInt8) : Prop := okByte c = true ∧ ¬ (c.toNat : Int) = 59
theorem ok_32 : okC 32 ∧ okC 44 ∧ okC 58 := by unfold okC; decide
theorem mem_joined {c : UInt8} (ops : List (List UInt8)) : ∀ b, c ∈ joined b ops → c = 32 ∨ c = 44 ∨ ∃ o ∈ ops, c ∈ o := by
  induction ops with
  | nil => intro b h; cases b <;> cases h
  | cons o r ih =>
    intro b h
    have h' : (c = 32 ∨ c = 44) ∨ c ∈ o ∨ c ∈ joined false r := by
      cases b
      · simp only [joined, List.cons_append, List.mem_cons, List.mem_append] at h
        rcases h with h | h | h
        · exact Or.inl (Or.inr h)
        · exact Or.inr (Or.inl h)
        · exact Or.inr (Or.inr h)
      · simp only [joined, List.cons_append, List.mem_cons, List.mem_append] at h
        rcases h with h | h | h
        · exact Or.inl (Or.inl h)
        · exact Or.inr (Or.inl h)
        · exact Or.inr (Or.inr h)
    rcases h' with (h | h) | h | h
    · exact Or.inl h
    · exact Or.inr (Or.inl h)
    · exact Or.inr (Or.inr ⟨o, by simp, h⟩)
    · rcases ih false h with h | h | ⟨o', h1, h2⟩
      · exact Or.inl h
      · exact Or.inr (Or.inl h)
      · exact Or.inr (Or.inr ⟨o', by simp [h1], h2⟩)
/-- All bytes of words are such as may stand in a line. -/
structure OkW (W : WordsP) : Prop where
  label : ∀ c ∈ W.label, okC c
  op : ∀ c ∈ W.op, okC c
  ops : ∀ o ∈ W.operands, ∀ c ∈ o, okC c
theorem OkW.text {W : WordsP} (h : OkW W) : ∀ c ∈ textP W, okC c := by
  intro c hc
  rw [textP_head] at hc
  rcases List.mem_append.1 hc with hc | hc
  · unfold headP at hc
    have h1 := h.label c
    have h2 := h.op c
    split at hc
    · split at hc
      · cases hc
      · rcases List.mem_append.1 hc with hc | hc
        · exact h1 hc
        · rw [List.mem_singleton] at hc; rw [hc]; exact ok_32.2.2
    · split at hc
      · exact h2 hc
      · simp only [List.mem_append, List.mem_cons, List.mem_nil_iff, or_false] at hc
        rcases hc with ((hc | hc) | hc) | hc
        · exact h1 hc
        · rw [hc]; exact ok_32.2.2
        · rw [hc]; exact ok_32.1
        · exact h2 hc
  · rcases mem_joined _ _ hc with rfl | rfl | ⟨o, ho, hc⟩
    · exact ok_32.1
    · exact ok_32.2.1
    · exact h.ops o ho c hc
theorem mem_word {c : UInt8} {l : List UInt8} (h : c ∈ wordOf l) : c ∈ l := List.mem_of_mem_drop (List.mem_of_mem_take h)
theorem mem_rest {c : UInt8} {l : List UInt8} (h : c ∈ restOf l) : c ∈ l := List.mem_of_mem_drop h
theorem mem_opsOf {c : UInt8} {l o : List UInt8} (ho : o ∈ operandsOf l) (h : c ∈ o) : c ∈ l := by
  unfold operandsOf at ho
  split at ho
  · cases ho
  · exact (List.mem_filter.1 (((splitB_parts (noBlank l)).1 o ho).2 c h)).1
theorem okW_words {l : List UInt8} (h : ∀ c ∈ l, okC c) : OkW (wordsP l) := by
  unfold wordsP
  split
  · exact ⟨fun c hc => h c (mem_word ((List.dropLast_sublist _).mem hc)), fun c hc => h c (mem_rest (mem_word hc)), fun o ho c hc => h c (mem_rest (mem_rest (mem_opsOf ho hc)))⟩
  · exact ⟨(fun c hc => by cases hc), fun c hc => h c (mem_word hc), fun o ho c hc => h c (mem_rest (mem_opsOf ho hc))⟩
theorem cut_mem {l : List UInt8} : ∀ c ∈ cutL l, c ∈ l ∧ ¬ (c.toNat : Int) = 59 := by
  induction l with
  | nil => intro c hc; cases hc
  | cons d r ih =>
    intro c hc
    simp only [cutL] at hc
    split at hc
    · cases hc
    · rename_i h
      rcases List.mem_cons.1 hc with rfl | hc
      · exact ⟨by simp, h⟩
      · exact ⟨by simp [(ih c hc).1], (ih c hc).2⟩
theorem cut_len (l : List UInt8) : (cutL l).length ≤ l.length := by
  induction l with
  | nil => simp [cutL]
  | cons c r ih => simp only [cutL]; split <;> simp <;> omega
theorem cut_same {l : List UInt8} (h : ∀ c ∈ l, okC c) : cutL l = l := by
  induction l with
  | nil => rfl
  | cons c r ih =>
    simp only [cutL]
    rw [if_neg (h c (by simp)).2, ih (fun d hd => h d (by simp [hd]))]

/-- Words that were read out of a line. -/
structure SrcW (W : WordsP) : Prop where
  good : GoodW W
  ok : OkW W
  len : (textP W).length ≤ 80
theorem src_words {l : List UInt8} (h : ∀ c ∈ l, okByte c = true) (hl : l.length ≤ 80) : SrcW (wordsP (cutL l)) :=
  ⟨good_words _, okW_words (fun c hc => ⟨h c (cut_mem c hc).1, (cut_mem c hc).2⟩), Nat.le_trans (textP_len _) (Nat.le_trans (cut_len l) hl)⟩
theorem src_label {W : WordsP} (h : SrcW W) : SrcW ⟨W.label, [], []⟩ := by
  refine ⟨good_label h.good, ⟨h.ok.label, (fun c hc => by cases hc), (fun o ho => by cases ho)⟩, ?_⟩
  have h1 := h.len
  rw [textP_head] at h1 ⊢
  simp only [joined, List.append_nil, List.length_append] at h1 ⊢
  unfold headP at h1 ⊢
  by_cases h0 : W.label = []
  · simp [h0]
  · simp only [h0, if_false, if_true] at h1 ⊢
    split at h1 <;> simp only [List.length_append] at h1 ⊢ <;> omega

/-! What is kept of the state. -/
def ctlB (op : List UInt8) : Bool := decide (op = opIf) || decide (op = opElse) || decide (op = opEndif) || decide (op = opMacro) || decide (op = opEnd)
/-- A line that is left, behind names. -/
structure LeftW (ns : List (List UInt8 × Int)) (W : WordsP) : Prop where
  src : SrcW W
  some : textP W ≠ []
  ctl : ctlB W.op = false
  set : W.op = opSet → W.label = [] ∧ W.operands.length = 2 ∧ nameB (W.operands.headD []) = true ∧ hasN ns (W.operands.headD []) = false ∧ (value 0 ns (W.operands.getD 1 [])).2 = 0
def nextN (ns : List (List UInt8 × Int)) (W : WordsP) : List (List UInt8 × Int) := if W.op = opSet then ns ++ [(W.operands.headD [], (value 0 ns (W.operands.getD 1 [])).1)] else ns
def endN (ns : List (List UInt8 × Int)) : List (List UInt8 × Nat) → List (List UInt8 × Int)
  | [] => ns
  | x :: r => endN (nextN ns (wordsP x.1)) r
def ChainN (ns : List (List UInt8 × Int)) : List (List UInt8 × Nat) → Prop
  | [] => True
  | x :: r => LeftW ns (wordsP x.1) ∧ textP (wordsP x.1) = x.1 ∧ ChainN (nextN ns (wordsP x.1)) r
theorem endN_app (a b : List (List UInt8 × Nat)) : ∀ ns, endN ns (a ++ b) = endN (endN ns a) b := by
  induction a with
  | nil => intro ns; rfl
  | cons x r ih => intro ns; exact ih _
theorem chainN_app (a b : List (List UInt8 × Nat)) : ∀ ns, ChainN ns a → ChainN (endN ns a) b → ChainN ns (a ++ b) := by
  induction a with
  | nil => intro ns _ h; exact h
  | cons x r ih => intro ns h1 h2; exact ⟨h1.1, h1.2.1, ih _ h1.2.2 h2⟩
structure InvSt (st : StP) : Prop where
  macs : ∀ m ∈ st.macros, ∀ l ∈ m.lines, ∀ c ∈ l, okByte c = true
  names : endN [] st.out = st.names
  chain : ChainN [] st.out
  few : st.out.length ≤ 300
theorem chain_more {st : StP} (h : InvSt st) {W : WordsP} (hl : LeftW st.names W) (at_ : Nat) : endN [] (st.out ++ [(textP W, at_)]) = nextN st.names W ∧ ChainN [] (st.out ++ [(textP W, at_)]) := by
  have hr := reread hl.src.good
  refine ⟨?_, chainN_app _ _ _ h.chain ?_⟩
  · rw [endN_app, h.names]
    simp only [endN]
    rw [hr]
  · rw [h.names]
    simp only [ChainN]
    rw [hr]
    exact ⟨hl, rfl, trivial⟩
theorem leave_inv {st : StP} (h : InvSt st) {W : WordsP} (hs : SrcW W) (hc : ctlB W.op = false) (ho : ¬ W.op = opSet) (at_ : Nat) (h0 : (leaveP W at_ st).1 = 0) : InvSt (leaveP W at_ st).2 := by
  unfold leaveP at h0 ⊢
  split at h0
  · rw [if_pos (by assumption)]; exact h
  · rename_i h1
    rw [if_neg h1]
    split at h0
    · cases h0
    · rename_i h2
      rw [if_neg h2]
      obtain ⟨h3, h4⟩ := chain_more h (W := W) ⟨hs, h1, hc, fun e => absurd e ho⟩ at_
      refine ⟨h.macs, ?_, h4, ?_⟩
      · show endN [] (st.out ++ [(textP W, at_)]) = st.names
        rw [h3, nextN, if_neg ho]
      · show (st.out ++ [(textP W, at_)]).length ≤ 300
        rw [List.length_append]
        simp only [List.length_cons, List.length_nil]
        omega
theorem text_ops {W : WordsP} (h : W.operands ≠ []) : textP W ≠ [] := by
  rw [textP_head]
  cases ho : W.operands with
  | nil => exact absurd ho h
  | cons a b => simp [joined]
theorem set_inv {st : StP} (h : InvSt st) {W : WordsP} (hs : SrcW W) (ho : W.op = opSet) (at_ : Nat) (h0 : (setP W at_ st).1 = 0) : InvSt (setP W at_ st).2 := by
  unfold setP at h0 ⊢
  split at h0
  · cases h0
  · rename_i h1
    rw [if_neg h1]
    split at h0
    · cases h0
    · rename_i h2
      rw [if_neg h2]
      split at h0
      · rename_i h3; exact absurd h0 h3
      · rename_i h3
        rw [if_neg h3]
        have h1' : W.label = [] ∧ W.operands.length = 2 := by
          by_cases ha : W.label = []
          · by_cases hb : W.operands.length = 2
            · exact ⟨ha, hb⟩
            · exact absurd (Or.inr hb) h1
          · exact absurd (Or.inl ha) h1
        have h4 : textP W ≠ [] := text_ops (fun e => by rw [e] at h1'; simp at h1')
        have hl : LeftW st.names W := ⟨hs, h4, by rw [ho]; decide, fun _ => ⟨h1'.1, h1'.2, by
          cases hn : nameB (W.operands.headD []) with
          | true => rfl
          | false => exact absurd (Or.inl hn) h2, by
          cases hn : hasN st.names (W.operands.headD []) with
          | false => rfl
          | true => exact absurd (Or.inr hn) h2, by simpa using h3⟩⟩
        unfold leaveP at h0 ⊢
        rw [if_neg h4] at h0 ⊢
        split at h0
        · cases h0
        · rename_i h5
          rw [if_neg h5]
          obtain ⟨h6, h7⟩ := chain_more h hl at_
          refine ⟨h.macs, ?_, h7, ?_⟩
          · show endN [] (st.out ++ [(textP W, at_)]) = st.names ++ _
            rw [h6, nextN, if_pos ho]
          · show (st.out ++ [(textP W, at_)]).length ≤ 300
            rw [List.length_append]
            simp only [List.length_cons, List.length_nil]
            simp only at h5
            omega

def KeepsInv (call : MacP → WordsP → Nat → StP → Int × StP) : Prop := ∀ m W at_ st, SrcW W → ctlB W.op = false → ¬ W.op = opSet → m ∈ st.macros → InvSt st → (call m W at_ st).1 = 0 → InvSt (call m W at_ st).2
theorem findM_mem {ms : List MacP} {s : List UInt8} {m : MacP} (h : findM ms s = some m) : m ∈ ms := by
  induction ms with
  | nil => cases h
  | cons a r ih =>
    simp only [findM] at h
    split at h
    · cases h; simp
    · simp [ih h]
theorem line_inv {call : MacP → WordsP → Nat → StP → Int × StP} (hc : KeepsInv call) {inM : Bool} {W : WordsP} {at_ : Nat} {opens : List OpenP} {st : StP} (hs : SrcW W) (h : InvSt st) (h0 : (lineP call inM W at_ opens st).1 = 0) :
    InvSt (lineP call inM W at_ opens st).2.2.2 ∧ ∀ d, (lineP call inM W at_ opens st).2.2.1 = some d → d.lines = [] := by
  unfold lineP at h0 ⊢
  split at h0
  · rw [if_pos (by assumption)]; exact ⟨h, by simp⟩
  rename_i h1; rw [if_neg h1]
  split at h0
  · rw [if_pos (by assumption)]; exact ⟨h, by simp⟩
  rename_i h2; rw [if_neg h2]
  split at h0
  · rw [if_pos (by assumption)]; exact ⟨h, by simp⟩
  rename_i h3; rw [if_neg h3]
  split at h0
  · rw [if_pos (by assumption)]
    refine ⟨h, fun d hd => ?_⟩
    have hd' : (defP inM W st).2 = some d := hd
    unfold defP at hd'
    split at hd'
    · cases hd'
    · split at hd'
      · cases hd'
      · split at hd'
        · cases hd'
        · split at hd'
          · cases hd'
          · simp only [Option.some.injEq] at hd'; rw [← hd']
  rename_i h4; rw [if_neg h4]
  split at h0
  · rw [if_pos (by assumption)]; exact ⟨h, by simp⟩
  rename_i h5; rw [if_neg h5]
  split at h0
  · rename_i h6; rw [if_pos h6]; exact ⟨set_inv h hs h6 at_ h0, by simp⟩
  rename_i h6; rw [if_neg h6]
  have hctl : ctlB W.op = false := by simp [ctlB, h1, h2, h3, h4, h5]
  cases hf : findM st.macros W.op with
  | some m => rw [hf] at h0; exact ⟨hc m W at_ st hs hctl h6 (findM_mem hf) h h0, by simp⟩
  | none => rw [hf] at h0; exact ⟨leave_inv h hs hctl h6 at_ h0, by simp⟩

theorem fill_mem {ps os : List (List UInt8)} (ho : ∀ o ∈ os, ∀ c ∈ o, okC c) : ∀ (n : Nat) (l t : List UInt8), (∀ c ∈ l, okByte c = true) → fillP ps os n l = some t → ∀ c ∈ t, okByte c = true
  | 0, l, t, _, h => by simp only [fillP, Option.some.injEq] at h; subst h; intro c hc; cases hc
  | n + 1, [], t, _, h => by simp only [fillP, Option.some.injEq] at h; subst h; intro c hc; cases hc
  | n + 1, d :: r, t, hl, h => by
    simp only [fillP] at h
    split at h
    · split at h
      · cases h
      · rename_i i k _
        cases hf : fillP ps os n (r.drop k) with
        | none => rw [hf] at h; cases h
        | some t2 =>
          rw [hf] at h
          simp only [Option.map_some, Option.some.injEq] at h
          subst h
          intro c hc
          rcases List.mem_append.1 hc with hc | hc
          · rw [List.getD_eq_getElem?_getD] at hc
            cases hg : os[i]? with
            | none => rw [hg] at hc; cases hc
            | some o => rw [hg] at hc; exact (ho o (List.mem_of_getElem? hg) c hc).1
          · exact fill_mem ho n _ _ (fun x hx => hl x (by simp [List.mem_of_mem_drop hx])) hf c hc
    · cases hf : fillP ps os n r with
      | none => rw [hf] at h; cases h
      | some t2 =>
        rw [hf] at h
        simp only [Option.map_some, Option.some.injEq] at h
        subst h
        intro c hc
        rcases List.mem_cons.1 hc with rfl | hc
        · exact hl _ (by simp)
        · exact fill_mem ho n _ _ (fun x hx => hl x (by simp [hx])) hf c hc
theorem read_src {sub : Option (List (List UInt8) × List (List UInt8))} {l : List UInt8} (hs : ∀ p, sub = some p → ∀ o ∈ p.2, ∀ c ∈ o, okC c) (hl : ∀ c ∈ l, okByte c = true) (hn : sub = none → l.length ≤ 80) (h0 : (readP sub false (cutL l)).1 = 0) : SrcW (readP sub false (cutL l)).2 := by
  have hcl : ∀ c ∈ cutL l, okByte c = true := fun c hc => hl c (cut_mem c hc).1
  cases sub with
  | none => exact src_words hcl (Nat.le_trans (cut_len l) (hn rfl))
  | some p =>
    obtain ⟨ps, os⟩ := p
    simp only [readP] at h0 ⊢
    split at h0
    · rename_i h1; exact absurd h0 h1
    · rename_i h1
      rw [if_neg h1]
      unfold filledP at h1 ⊢
      cases hf : fillP ps os (cutL l).length (cutL l) with
      | none => rw [hf] at h1; simp at h1
      | some t =>
        rw [hf] at h1
        simp only at h1 ⊢
        split at h1
        · simp at h1
        · rename_i h2
          rw [if_neg h2]
          exact src_words (fill_mem (hs _ rfl) _ _ _ hcl hf) (Nat.le_of_not_lt h2)
theorem coll_inv {d : MacP} {s : List UInt8} {st : StP} (h : InvSt st) (hd : ∀ l ∈ d.lines, ∀ c ∈ l, okByte c = true) (hs : ∀ c ∈ s, okByte c = true) (h0 : (collP d s st).1 = 0) : InvSt (collP d s st).2.2 ∧ ∀ d', (collP d s st).2.1 = some d' → ∀ l ∈ d'.lines, ∀ c ∈ l, okByte c = true := by
  unfold collP at h0 ⊢
  split at h0
  · cases h0
  · rename_i h1
    rw [if_neg h1]
    split at h0
    · rename_i h2
      rw [if_pos h2]
      split at h0
      · rename_i h3
        rw [if_pos h3]
        refine ⟨⟨fun m hm => ?_, h.names, h.chain, h.few⟩, by simp⟩
        rcases List.mem_append.1 hm with hm | hm
        · exact h.macs m hm
        · rw [List.mem_singleton] at hm; rw [hm]; exact hd
      · cases h0
    · rename_i h2
      rw [if_neg h2]
      refine ⟨h, fun d' hd' => ?_⟩
      simp only [Option.some.injEq] at hd'
      subst hd'
      intro l hl
      rcases List.mem_append.1 hl with hl | hl
      · exact hd l hl
      · rw [List.mem_singleton] at hl; rw [hl]; exact hs
theorem block_inv {call : MacP → WordsP → Nat → StP → Int × StP} (hc : KeepsInv call) (sub : Option (List (List UInt8) × List (List UInt8))) (hsub : ∀ p, sub = some p → ∀ o ∈ p.2, ∀ c ∈ o, okC c) (inc : Nat) : ∀ (ls : List (List UInt8)) (at_ : Nat) (opens : List OpenP) (d : Option MacP) (st : StP),
    (∀ l ∈ ls, (∀ c ∈ l, okByte c = true) ∧ (sub = none → l.length ≤ 80)) → (∀ m, d = some m → ∀ l ∈ m.lines, ∀ c ∈ l, okByte c = true) → InvSt st → (blockP call sub inc ls at_ opens d st).1 = 0 → InvSt (blockP call sub inc ls at_ opens d st).2.2
  | [], at_, opens, d, st, _, _, h, h0 => by
    simp only [blockP] at h0 ⊢
    split <;> exact h
  | l :: r, at_, opens, some d, st, hl, hd, h, h0 => by
    simp only [blockP] at h0 ⊢
    split at h0
    · rename_i h1; exact absurd h0 h1
    · rename_i h1
      rw [if_neg h1]
      have h2 := coll_inv h (hd d rfl) (s := cutL l) (fun c hc => (hl l (by simp)).1 c (cut_mem c hc).1) (by simpa using h1)
      exact block_inv hc sub hsub inc r _ _ _ _ (fun x hx => hl x (by simp [hx])) h2.2 h2.1 h0
  | l :: r, at_, opens, none, st, hl, hd, h, h0 => by
    simp only [blockP] at h0 ⊢
    have hr := fun x hx => hl x (List.mem_cons_of_mem l hx)
    split at h0
    · rename_i ho
      rw [if_pos ho]
      split at h0
      · rename_i h1; exact absurd h0 h1
      · rename_i h1; rw [if_neg h1]; exact block_inv hc sub hsub inc r _ _ _ _ hr (by simp) h h0
    · rename_i ho
      rw [if_neg ho]
      split at h0
      · rename_i h1; exact absurd h0 h1
      · rename_i h1
        rw [if_neg h1]
        split at h0
        · rename_i h2; exact absurd h0 h2
        · rename_i h2
          rw [if_neg h2]
          have hs := read_src hsub (hl l (by simp)).1 (hl l (by simp)).2 (by simpa using h1)
          obtain ⟨h3, h4⟩ := line_inv hc hs h (by simpa using h2)
          exact block_inv hc sub hsub inc r _ _ _ _ hr (fun m hm => by rw [h4 m hm]; intro l hl; cases hl) h3 h0
theorem call_inv : ∀ n, KeepsInv (callN n)
  | 0 => fun m W at_ st _ _ _ _ h h0 => by cases h0
  | n + 1 => fun m W at_ st hs hctl hset hm h h0 => by
    rw [callN] at h0 ⊢
    split at h0
    · cases h0
    rename_i h1; rw [if_neg h1]
    split at h0
    · cases h0
    rename_i h2; rw [if_neg h2]
    split at h0
    · rename_i h3; exact absurd h0 h3
    rename_i h3; rw [if_neg h3]
    have h4 := leave_inv h (src_label hs) (show ctlB [] = false by decide) (show ¬ ([] : List UInt8) = opSet by decide) at_ (by simpa using h3)
    refine block_inv (call_inv n) _ (fun p hp => ?_) 0 _ _ _ _ _ (fun l hl => ⟨?_, by simp⟩) (by simp) ⟨h4.macs, h4.names, h4.chain, h4.few⟩ h0
    · simp only [Option.some.injEq] at hp
      subst hp
      exact hs.ok.ops
    · exact h.macs m hm l hl

theorem badLine_none (ls : List (List UInt8)) : ∀ k, 0 < k → badLine ls k = 0 → ∀ l ∈ ls, okLine l = true := by
  induction ls with
  | nil => intro k _ _ l hl; cases hl
  | cons a r ih =>
    intro k hk h l hl
    unfold badLine at h
    split at h
    · rename_i ho
      rcases List.mem_cons.1 hl with h1 | h1
      · rw [h1]; exact ho
      · exact ih (k + 1) (by omega) h l h1
    · omega
/-- What is left of a text without an error. -/
theorem expand_inv (s : List UInt8) (h0 : (expandP s).1 = 0) : ChainN [] (expandP s).2.2 ∧ (expandP s).2.2.length ≤ 300 := by
  unfold expandP at h0 ⊢
  split at h0
  · cases h0
  · rename_i h1
    rw [if_neg h1]
    split at h0
    · cases h0
    · rename_i h2
      rw [if_neg h2]
      split at h0
      · rename_i h3; exact absurd h0 h3
      · rename_i h3
        rw [if_neg h3]
        have h4 := badLine_none (splitB 10 s) 1 (by omega) (by simpa using h2)
        have h5 := block_inv (call_inv 8) none (by simp) 1 (splitB 10 s) 0 [] none noSt (fun l hl => by
          have := h4 l hl
          unfold okLine at this
          simp only [Bool.and_eq_true, decide_eq_true_eq, List.all_eq_true] at this
          exact ⟨this.2, fun _ => this.1⟩) (by simp) ⟨(fun m hm => by cases hm), rfl, trivial, by simp [noSt]⟩ (by simpa using h3)
        exact ⟨h5.chain, h5.few⟩
end Go.Proofs.YtcepppilgncdmaaGreatDoor

namespace Go.Proofs.YtcepppilgncdmaaGreatDoor

/-- Lines as a text. -/
def joinL : List (List UInt8) → List UInt8
  | [] => []
  | [t] => t
  | t :: u :: r => t ++ 10 :: joinL (u :: r)
/-- The lines, each from its own. -/
def numbered (k : Nat) : List (List UInt8) → List (List UInt8 × Nat)
  | [] => []
  | t :: r => (t, k) :: numbered (k + 1) r
theorem numbered_len (ts : List (List UInt8)) : ∀ k, (numbered k ts).length = ts.length := by
  induction ts with
  | nil => intro k; rfl
  | cons t r ih => intro k; simp [numbered, ih]
theorem numbered_at (ts : List (List UInt8)) : ∀ (k i : Nat) (h : i < ts.length), (numbered k ts)[i]? = some (ts[i], k + i) := by
  induction ts with
  | nil => intro k i h; simp at h
  | cons t r ih =>
    intro k i h
    cases i with
    | zero => rfl
    | succ i =>
      simp only [numbered, List.getElem?_cons_succ, List.getElem_cons_succ]
      rw [ih (k + 1) i (by simpa using h)]
      rw [show k + 1 + i = k + (i + 1) from by omega]
theorem numbered_fst (ts : List (List UInt8)) : ∀ k, (numbered k ts).map (·.1) = ts := by
  induction ts with
  | nil => intro k; rfl
  | cons t r ih => intro k; simp [numbered, ih]

def noNl (l : List UInt8) : Prop := ∀ c ∈ l, ¬ (c.toNat : Int) = 10
theorem splitOn10_skip (s o l : List UInt8) (h : noNl o) : splitOn 10 s (o ++ l) = splitOn 10 (s ++ o) l := by
  induction o generalizing s with
  | nil => simp
  | cons c r ih =>
    rw [List.cons_append, splitOn_miss _ _ _ _ (h c (by simp)), ih _ (fun x hx => h x (by simp [hx]))]
    simp
theorem split_join : ∀ (ts : List (List UInt8)), ts ≠ [] → (∀ t ∈ ts, noNl t) → splitB 10 (joinL ts) = ts
  | [], h, _ => absurd rfl h
  | [t], _, h => by
    rw [joinL, ← splitOn_nil, ← List.append_nil t, splitOn10_skip _ _ _ (h t (by simp)), splitOn_end]
    simp
  | t :: u :: r, _, h => by
    have ih := split_join (u :: r) (by simp) (fun x hx => h x (List.mem_cons_of_mem _ hx))
    rw [joinL, ← splitOn_nil, splitOn10_skip _ _ _ (h t (by simp)), splitOn_hit _ _ _ _ (by rfl), splitOn_nil, ih]
    simp

theorem chain_left {ns : List (List UInt8 × Int)} {outs : List (List UInt8 × Nat)} (h : ChainN ns outs) : ∀ x ∈ outs, okLine x.1 = true ∧ noNl x.1 := by
  induction outs generalizing ns with
  | nil => intro x hx; cases hx
  | cons y r ih =>
    intro x hx
    rcases List.mem_cons.1 hx with rfl | hx
    · have h1 := h.1.src.len
      have h2 := h.1.src.ok.text
      rw [h.2.1] at h1 h2
      refine ⟨?_, fun c hc => ?_⟩
      · unfold okLine
        simp only [Bool.and_eq_true, decide_eq_true_eq, List.all_eq_true]
        exact ⟨h1, fun c hc => (h2 c hc).1⟩
      · have := (h2 c hc).1
        unfold okByte at this
        simp only [Bool.and_eq_true, decide_eq_true_eq] at this
        omega
    · exact ih h.2.2 x hx
theorem leave_one {W : WordsP} {at_ : Nat} {st : StP} (h : textP W ≠ []) (hl : st.out.length < 300) : leaveP W at_ st = (0, { st with out := st.out ++ [(textP W, at_)] }) := by
  unfold leaveP
  rw [if_neg h, if_neg (by omega)]
theorem line_again (call : MacP → WordsP → Nat → StP → Int × StP) (W : WordsP) (at_ : Nat) (st : StP) (hm : st.macros = []) (hl : LeftW st.names W) (hn : st.out.length < 300) : lineP call false W at_ [] st = (0, [], none, { st with names := nextN st.names W, out := st.out ++ [(textP W, at_)] }) := by
  have hc := hl.ctl
  unfold ctlB at hc
  simp only [Bool.or_eq_false_iff, decide_eq_false_iff_not] at hc
  obtain ⟨⟨⟨⟨c1, c2⟩, c3⟩, c4⟩, c5⟩ := hc
  unfold lineP
  rw [if_neg c1, if_neg c2, if_neg c3, if_neg c4, if_neg c5]
  by_cases hs : W.op = opSet
  · obtain ⟨s1, s2, s3, s4, s5⟩ := hl.set hs
    rw [if_pos hs]
    have : setP W at_ st = (0, { st with names := nextN st.names W, out := st.out ++ [(textP W, at_)] }) := by
      unfold setP
      rw [if_neg (by simp [s1, s2]), if_neg (by rw [s3, s4]; rintro (h | h) <;> cases h), if_neg (fun h => h s5)]
      unfold leaveP
      rw [if_neg hl.some, if_neg (show ¬ 300 ≤ st.out.length by omega), nextN, if_pos hs]
    rw [this]
  · rw [if_neg hs, show findM st.macros W.op = none from by rw [hm]; rfl]
    simp only
    rw [leave_one hl.some hn, nextN, if_neg hs]
theorem block_again (call : MacP → WordsP → Nat → StP → Int × StP) : ∀ (outs : List (List UInt8 × Nat)) (at_ : Nat) (st : StP), st.macros = [] → ChainN st.names outs → st.out.length + outs.length ≤ 300 →
    blockP call none 1 (outs.map (·.1)) at_ [] none st = (0, at_ + outs.length, { st with names := endN st.names outs, out := st.out ++ numbered (at_ + 1) (outs.map (·.1)) })
  | [], at_, st, hm, hc, hl => by simp [blockP, endN, numbered]
  | x :: r, at_, st, hm, hc, hl => by
    obtain ⟨h1, h2, h3⟩ := hc
    have hcut : cutL x.1 = x.1 := cut_same (by rw [← h2]; exact h1.src.ok.text)
    simp only [List.length_cons] at hl
    have h4 := line_again call (wordsP x.1) (at_ + 1) st hm h1 (by omega)
    rw [h2] at h4
    simp only [List.map_cons, blockP, overP, readP, hcut]
    simp only [Option.isSome_none, h4]
    rw [if_neg (by simp), if_neg (by simp), if_neg (by simp)]
    rw [block_again call r (at_ + 1) { st with names := nextN st.names (wordsP x.1), out := st.out ++ [(x.1, at_ + 1)] } hm h3 (by simp; omega)]
    simp only [List.append_assoc, endN, numbered, List.length_cons, List.cons_append, List.nil_append]
    rw [show at_ + 1 + r.length = at_ + (r.length + 1) from by omega]
theorem expand_again (s : List UInt8) (h0 : (expandP s).1 = 0) (hl : (joinL ((expandP s).2.2.map (·.1))).length ≤ 3000) :
    expandP (joinL ((expandP s).2.2.map (·.1))) = (0, 0, numbered 1 ((expandP s).2.2.map (·.1))) := by
  obtain ⟨hc, hn⟩ := expand_inv s h0
  generalize (expandP s).2.2 = outs at hc hn hl ⊢
  have hall := chain_left hc
  unfold expandP
  rw [if_neg (by omega)]
  by_cases he : outs = []
  · subst he
    decide
  · have hs : splitB 10 (joinL (outs.map (·.1))) = outs.map (·.1) := split_join _ (by simpa using he) (fun t ht => by
      obtain ⟨x, hx, rfl⟩ := List.mem_map.1 ht
      exact (hall x hx).2)
    have hb : ∀ (ls : List (List UInt8)) (k : Nat), (∀ l ∈ ls, okLine l = true) → badLine ls k = 0 := by
      intro ls
      induction ls with
      | nil => intro k _; rfl
      | cons a r ih => intro k h; simp only [badLine]; rw [if_pos (h a (by simp))]; exact ih _ (fun l hl => h l (by simp [hl]))
    have hbl := hb (outs.map (·.1)) 1 (fun t ht => by
      obtain ⟨x, hx, rfl⟩ := List.mem_map.1 ht
      exact (hall x hx).1)
    rw [hs, hbl, if_neg (by simp), block_again _ outs 0 noSt rfl hc (by simpa [noSt] using hn)]
    simp [noSt]

/-! From which line a line comes says nothing of what is made of it. -/
def strip (s : StmP) : StmP := { s with frm := 0 }
def strips (l : List StmP) : List StmP := l.map strip
theorem names_strip (l : List StmP) : namesP (strips l) = namesP l := by
  unfold namesP strips
  rw [List.flatMap_map]
  rfl
theorem sets_strip (l : List StmP) : setsP (strips l) = setsP l := by
  unfold setsP strips
  rw [List.flatMap_map]
  rfl
theorem look_strip (l : List StmP) (W : WordsP) (t : List UInt8) (n : Nat) : (lookP l W t n).1 = (lookP (strips l) W t 0).1 ∧ strip (lookP l W t n).2 = (lookP (strips l) W t 0).2 := by
  unfold lookP
  rw [names_strip, sets_strip]
  split
  · split <;> exact ⟨rfl, rfl⟩
  · split
    · exact ⟨rfl, rfl⟩
    · split
      · exact ⟨rfl, rfl⟩
      · split <;> exact ⟨rfl, rfl⟩
theorem lookAll_strip (outs : List (List UInt8 × Nat)) : ∀ l, (lookAll outs l).1 = (lookAll (outs.map fun x => (x.1, 0)) (strips l)).1 ∧ strips (lookAll outs l).2.2 = (lookAll (outs.map fun x => (x.1, 0)) (strips l)).2.2 := by
  induction outs with
  | nil => intro l; exact ⟨rfl, rfl⟩
  | cons x r ih =>
    intro l
    obtain ⟨t, n⟩ := x
    obtain ⟨h1, h2⟩ := look_strip l (wordsP t) t n
    simp only [lookAll, List.map_cons]
    rw [← h1]
    split
    · exact ⟨rfl, rfl⟩
    · have h3 := ih (l ++ [(lookP l (wordsP t) t n).2])
      rw [← h2]
      have h4 : strips (l ++ [(lookP l (wordsP t) t n).2]) = strips l ++ [strip (lookP l (wordsP t) t n).2] := by simp [strips]
      rw [h4] at h3
      exact h3
theorem laid_strip (l : List StmP) : ∀ a, laidP (strips l) a = strips (laidP l a) ∧ endP (strips l) a = endP l a := by
  induction l with
  | nil => intro a; exact ⟨rfl, rfl⟩
  | cons s r ih =>
    intro a
    obtain ⟨h1, h2⟩ := ih (a + sizeP { s with at_ := a })
    refine ⟨?_, h2⟩
    show { strip s with at_ := (a : Int) } :: laidP (strips r) (a + sizeP { s with at_ := a }) = strip { s with at_ := a } :: strips (laidP r (a + sizeP { s with at_ := a }))
    rw [h1]
    rfl
theorem long_strip (all : List (List UInt8 × Int)) (s : StmP) : longP all (strip s) = strip (longP all s) := by
  unfold longP
  show (if growsP all s then _ else _) = _
  split <;> rfl
theorem find_strip : ∀ (n : Nat) (l : List StmP), findP n (strips l) = strips (findP n l)
  | 0, l => rfl
  | n + 1, l => by
    simp only [findP]
    rw [names_strip]
    have h1 : (strips l).any (growsP (namesP l)) = l.any (growsP (namesP l)) := by unfold strips; rw [List.any_map]; rfl
    rw [h1]
    split
    · have h2 : (strips l).map (longP (namesP l)) = strips (l.map (longP (namesP l))) := by
        unfold strips
        rw [List.map_map, List.map_map]
        exact List.map_congr_left (fun s _ => long_strip _ s)
      rw [h2, (laid_strip _ 0).1, find_strip n]
    · rfl
theorem bytes_strip (all : List (List UInt8 × Int)) (l : List StmP) : (allBytes all (strips l)).1 = (allBytes all l).1 ∧ (allBytes all (strips l)).2.2 = (allBytes all l).2.2 := by
  induction l with
  | nil => exact ⟨rfl, rfl⟩
  | cons s r ih =>
    show (allBytes all (strip s :: strips r)).1 = _ ∧ (allBytes all (strip s :: strips r)).2.2 = _
    simp only [allBytes]
    rw [show bytesP all (strip s) = bytesP all s from rfl, ih.1, ih.2]
    split
    · exact ⟨rfl, rfl⟩
    · split <;> exact ⟨rfl, rfl⟩
theorem placed_strip (l : List StmP) : placedP (strips l) = strips (placedP l) := by
  unfold placedP
  rw [(laid_strip l 0).1, find_strip]
  simp [strips]
theorem make_strip (l : List StmP) : (makeP (strips l)).1 = (makeP l).1 ∧ (makeP (strips l)).2.2.bytes = (makeP l).2.2.bytes ∧ (makeP (strips l)).2.2.stms = strips (makeP l).2.2.stms := by
  unfold makeP
  rw [placed_strip, (laid_strip _ 0).2, names_strip, (bytes_strip _ _).1, (bytes_strip _ _).2]
  split
  · exact ⟨rfl, rfl, rfl⟩
  · split <;> exact ⟨rfl, rfl, rfl⟩
/-- P6 of programs: the same error (wherever it is met), the same bytes, the same names. -/
theorem assemble_again (s : List UInt8) (h0 : (expandP s).1 = 0) (hl : (joinL ((expandP s).2.2.map (·.1))).length ≤ 3000) :
    (assembleP (joinL ((expandP s).2.2.map (·.1)))).1 = (assembleP s).1 ∧ (assembleP (joinL ((expandP s).2.2.map (·.1)))).2.2.bytes = (assembleP s).2.2.bytes ∧
      namesP (assembleP (joinL ((expandP s).2.2.map (·.1)))).2.2.stms = namesP (assembleP s).2.2.stms := by
  have he := expand_again s h0 hl
  unfold assembleP
  rw [he]
  generalize (expandP s).2.2 = outs at *
  obtain ⟨a1, a2⟩ := lookAll_strip outs []
  obtain ⟨b1, b2⟩ := lookAll_strip (numbered 1 (outs.map (·.1))) []
  have e : (numbered 1 (outs.map (·.1))).map (fun x => (x.1, 0)) = outs.map fun x => (x.1, (0 : Nat)) := by
    have := numbered_fst (outs.map (·.1)) 1
    have h2 : (numbered 1 (outs.map (·.1))).map (fun x => (x.1, (0 : Nat))) = ((numbered 1 (outs.map (·.1))).map (·.1)).map (fun t => (t, 0)) := by rw [List.map_map]; rfl
    rw [h2, this, List.map_map]
    rfl
  rw [e] at b1 b2
  rw [if_neg (show ¬ (expandP s).1 ≠ 0 from fun h => h h0)]
  simp only [ne_eq, not_true_eq_false, if_false]
  rw [b1, ← a1]
  split
  · exact ⟨rfl, rfl, rfl⟩
  · obtain ⟨c1, c2, c3⟩ := make_strip (lookAll (numbered 1 (outs.map (·.1))) []).2.2
    obtain ⟨d1, d2, d3⟩ := make_strip (lookAll outs []).2.2
    rw [b2, ← a2] at c1 c2 c3
    refine ⟨c1.symm.trans d1, c2.symm.trans d2, ?_⟩
    rw [← names_strip, ← c3, d3, names_strip]
end Go.Proofs.YtcepppilgncdmaaGreatDoor

namespace Go.Proofs.YtcepppilgncdmaaGreatDoor

/-- The digits of a number, ahead of more. -/
def digitsTo : Nat → Nat → List UInt8 → List UInt8
  | 0, _, l => l
  | f + 1, n, l => if n < 10 then (48 + UInt8.ofNat n) :: l else digitsTo f (n / 10) ((48 + UInt8.ofNat (n % 10)) :: l)

def pickI (c n : Int) : Int := (if c < 0 then -(c + 1) else c) % n

theorem pickI_bd (c n : Int) (h : 0 < n) : 0 ≤ pickI c n ∧ pickI c n < n := by
  unfold pickI
  exact ⟨Int.emod_nonneg _ (by omega), Int.emod_lt_of_pos _ h⟩

def signish : List UInt8 → Prop
  | [] => True
  | c :: _ => (c.toNat : Int) = 43 ∨ (c.toNat : Int) = 45 ∨ (c.toNat : Int) = 42

/-- t is a text of a term of the number n, whatever sign follows. -/
structure TermOf (at_ : Int) (N : List (List UInt8 × Int)) (t : List UInt8) (n : Int) : Prop where
  reads : ∀ r, signish r → term at_ N (t ++ r) = (n, t.length, 0)
  lo : -1000000 ≤ n
  hi : n ≤ 1000000
  head : ∃ c r, t = c :: r ∧ (c.toNat : Int) ≠ 45

theorem TermOf.readT {at_ : Int} {N : List (List UInt8 × Int)} {t : List UInt8} {n : Int} (h : TermOf at_ N t n) (r : List UInt8) (hr : signish r) : readT at_ N (t ++ r) = (n, r, 0) := by
  have h1 := h.lo
  have h2 := h.hi
  unfold Go.Proofs.YtcepppilgncdmaaGreatDoor.readT
  rw [h.reads r hr]
  simp only
  rw [if_neg (by simp), if_neg (by omega), List.drop_left]

theorem readT_len (at_ : Int) (N : List (List UInt8 × Int)) (l : List UInt8) {x : Int} {r : List UInt8} {y : Int} (h : readT at_ N l = (x, r, y)) : r.length ≤ l.length := by
  unfold readT at h
  split at h
  · injection h with _ h; injection h with h _; rw [← h]; simp
  · split at h
    · injection h with _ h; injection h with h _; rw [← h]; simp
    · injection h with _ h; injection h with h _; rw [← h]; simp

theorem eval_fuel (at_ : Int) (N : List (List UInt8 × Int)) : ∀ (n : Nat) (l : List UInt8), l.length ≤ n → ∀ f g sm sg, l.length ≤ f → l.length ≤ g → eval at_ N (f + 1) sm sg l = eval at_ N (g + 1) sm sg l := by
  intro n
  induction n with
  | zero =>
    intro l hl f g sm sg _ _
    have : l = [] := List.eq_nil_of_length_eq_zero (by omega)
    subst this
    rw [eval_bad (x := 0) (r := []) (y := 4) rfl (by omega), eval_bad (x := 0) (r := []) (y := 4) rfl (by omega)]
  | succ n ih =>
    intro l hl f g sm sg hf hg
    rcases hr : readT at_ N l with ⟨x, r, y⟩
    have hlen := readT_len at_ N l hr
    by_cases hy : y = 0
    · subst hy
      rcases hk : reck sm sg x with ⟨z, q⟩
      by_cases hq : q = 0
      · subst hq
        rw [eval_on hr f hk, eval_on hr g hk]
        cases r with
        | nil => rfl
        | cons c r =>
          simp only [evalS]
          simp only [List.length_cons] at hlen
          split
          · obtain ⟨f', rfl⟩ : ∃ f', f = f' + 1 := ⟨f - 1, by omega⟩
            obtain ⟨g', rfl⟩ : ∃ g', g = g' + 1 := ⟨g - 1, by omega⟩
            exact ih r (by omega) f' g' z _ (by omega) (by omega)
          · rfl
      · rw [eval_far hr f hk hq, eval_far hr g hk hq]
    · rw [eval_bad hr hy, eval_bad hr hy]

theorem evalS_fuel (at_ : Int) (N : List (List UInt8 × Int)) (r : List UInt8) (f g : Nat) (v : Int) (hf : r.length ≤ f) (hg : r.length ≤ g) : evalS at_ N f v r = evalS at_ N g v r := by
  cases r with
  | nil => rfl
  | cons c r =>
    simp only [List.length_cons] at hf hg
    simp only [evalS]
    split
    · obtain ⟨f', rfl⟩ : ∃ f', f = f' + 1 := ⟨f - 1, by omega⟩
      obtain ⟨g', rfl⟩ : ∃ g', g = g' + 1 := ⟨g - 1, by omega⟩
      exact eval_fuel at_ N _ r (Nat.le_refl _) f' g' v _ (by omega) (by omega)
    · rfl

/-- l is the text so far, v what it comes to. -/
structure SoFar (at_ : Int) (N : List (List UInt8 × Int)) (l : List UInt8) (v : Int) : Prop where
  goes : ∀ r, signish r → ∀ f, r.length ≤ f → value at_ N (l ++ r) = evalS at_ N f v r
  lo : -1000000 ≤ v
  hi : v ≤ 1000000

theorem SoFar.first {at_ : Int} {N : List (List UInt8 × Int)} {t : List UInt8} {n : Int} (h : TermOf at_ N t n) : SoFar at_ N t n := by
  have h1 := h.lo
  have h2 := h.hi
  refine ⟨fun r hr f hf => ?_, h1, h2⟩
  have hrd := h.readT r hr
  obtain ⟨c, t', rfl, hc⟩ := h.head
  have hk : reck 0 43 n = (n, 0) := by
    unfold reck step
    simp only [Int.zero_add, if_true]
    rw [if_neg (by omega)]
  rw [List.cons_append, value_plain _ _ _ _ hc, ← List.cons_append, eval_on hrd _ hk]
  exact evalS_fuel _ _ _ _ _ _ (by simp; omega) hf

theorem SoFar.minus {at_ : Int} {N : List (List UInt8 × Int)} {t : List UInt8} {n : Int} (h : TermOf at_ N t n) : SoFar at_ N (45 :: t) (-n) := by
  have h1 := h.lo
  have h2 := h.hi
  refine ⟨fun r hr f hf => ?_, by omega, by omega⟩
  have hrd := h.readT r hr
  have hk : reck 0 45 n = (-n, 0) := by
    unfold reck step
    simp
    omega
  rw [List.cons_append, value_minus _ _ _ _ (by decide)]
  simp only [evalS]
  rw [if_pos (by decide)]
  rw [show ((45 : UInt8).toNat : Int) = 45 from by decide, eval_on hrd _ hk]
  exact evalS_fuel _ _ _ _ _ _ (by simp) hf

theorem SoFar.more {at_ : Int} {N : List (List UInt8 × Int)} {l t : List UInt8} {v n z : Int} (h : SoFar at_ N l v) (ht : TermOf at_ N t n) (c : UInt8) (hc : (c.toNat : Int) = 43 ∨ (c.toNat : Int) = 45 ∨ (c.toNat : Int) = 42)
    (hk : reck v c.toNat n = (z, 0)) : SoFar at_ N (l ++ c :: t) z := by
  obtain ⟨z1, z2⟩ := reck_bd hk
  refine ⟨fun r hr f hf => ?_, z1, z2⟩
  have hrd := ht.readT r hr
  rw [List.append_assoc, List.cons_append, h.goes (c :: (t ++ r)) hc ((t ++ r).length + 1) (by simp)]
  simp only [evalS]
  rw [if_pos hc, eval_on hrd _ hk]
  exact evalS_fuel _ _ _ _ _ _ (by simp) hf

theorem SoFar.far {at_ : Int} {N : List (List UInt8 × Int)} {l t : List UInt8} {v n z : Int} (h : SoFar at_ N l v) (ht : TermOf at_ N t n) (c : UInt8) (hc : (c.toNat : Int) = 43 ∨ (c.toNat : Int) = 45 ∨ (c.toNat : Int) = 42)
    (hk : reck v c.toNat n = (z, 7)) : value at_ N (l ++ c :: t) = (0, 7) := by
  have hrd := ht.readT [] trivial
  rw [List.append_nil] at hrd
  rw [h.goes (c :: t) hc (t.length + 1) (by simp)]
  simp only [evalS]
  rw [if_pos hc, eval_far hrd _ hk (by omega)]

theorem SoFar.done {at_ : Int} {N : List (List UInt8 × Int)} {l : List UInt8} {v : Int} (h : SoFar at_ N l v) : value at_ N l = (v, 0) := by
  have := h.goes [] trivial 0 (by simp)
  rw [List.append_nil] at this
  rw [this]; rfl

theorem reck_in {v c n : Int} (h1 : -1000000 ≤ step v c n) (h2 : step v c n ≤ 1000000) : reck v c n = (step v c n, 0) := by
  unfold reck; rw [if_neg (by omega)]
theorem reck_out {v c n : Int} (h : step v c n < -1000000 ∨ 1000000 < step v c n) : reck v c n = (0, 7) := by
  unfold reck; rw [if_pos h]

/-! The terms: the address, a number's digits, a name. -/

theorem termOf_dot (at_ : Int) (N : List (List UInt8 × Int)) (h1 : -1000000 ≤ at_) (h2 : at_ ≤ 1000000) : TermOf at_ N [46] at_ :=
  ⟨fun r _ => rfl, h1, h2, 46, [], rfl, by decide⟩

def foldD : Int → List UInt8 → Int
  | v, [] => v
  | v, c :: r => foldD (min (v * 10 + hexv c.toNat) 1000001) r

theorem digit_byte (d : Nat) (h : d < 10) : ((48 + UInt8.ofNat d).toNat : Int) = 48 + d := by
  rw [UInt8.toNat_add, UInt8.toNat_ofNat']
  have : (48 : UInt8).toNat = 48 := rfl
  omega

theorem hexv_digit (d : Nat) (h : d < 10) : hexv ((48 + UInt8.ofNat d).toNat : Int) = d := by
  rw [digit_byte d h]; unfold hexv; rw [if_pos (by omega)]; omega

def allDig (l : List UInt8) : Prop := ∀ c ∈ l, 48 ≤ (c.toNat : Int) ∧ (c.toNat : Int) ≤ 57

theorem digitsTo_all : ∀ (f n : Nat) (l : List UInt8), allDig l → allDig (digitsTo f n l) := by
  intro f
  induction f with
  | zero => intro n l h; exact h
  | succ f ih =>
    intro n l h
    simp only [digitsTo]
    split
    · rename_i hn
      intro c hc
      rcases List.mem_cons.1 hc with rfl | hc
      · rw [digit_byte n hn]; omega
      · exact h c hc
    · apply ih
      intro c hc
      rcases List.mem_cons.1 hc with rfl | hc
      · rw [digit_byte (n % 10) (by omega)]; omega
      · exact h c hc

theorem digitsTo_fold : ∀ (f n : Nat) (l : List UInt8), n < f → n ≤ 1000000 → foldD 0 (digitsTo f n l) = foldD n l := by
  intro f
  induction f with
  | zero => intro n l h _; omega
  | succ f ih =>
    intro n l h hn
    simp only [digitsTo]
    split
    · rename_i h10
      simp only [foldD]
      rw [hexv_digit n h10]
      congr 1
      omega
    · rename_i h10
      rw [ih (n / 10) _ (by omega) (by omega)]
      simp only [foldD]
      rw [hexv_digit (n % 10) (by omega)]
      congr 1
      omega

theorem digitsTo_ne : ∀ (f n : Nat) (l : List UInt8), 0 < f → ∃ c r, digitsTo f n l = c :: r := by
  intro f
  induction f with
  | zero => intro n l h; omega
  | succ f ih =>
    intro n l _
    simp only [digitsTo]
    split
    · exact ⟨_, _, rfl⟩
    · cases f with
      | zero => exact ⟨_, _, rfl⟩
      | succ f => exact ih _ _ (by omega)

theorem digs_stop (v : Int) (k : Nat) (r : List UInt8) (h : signish r) : digs 10 v k r = (v, k) := by
  cases r with
  | nil => rfl
  | cons c r =>
    have hx : hexv (c.toNat : Int) = 16 := by
      unfold hexv
      have h' : (c.toNat : Int) = 43 ∨ (c.toNat : Int) = 45 ∨ (c.toNat : Int) = 42 := h
      rw [if_neg (by omega), if_neg (by omega)]
    simp only [digs]
    rw [if_neg (by rw [hx]; omega)]

theorem digs_digits : ∀ (ds : List UInt8) (v : Int) (k : Nat) (r : List UInt8), allDig ds → digs 10 v k (ds ++ r) = digs 10 (foldD v ds) (k + ds.length) r := by
  intro ds
  induction ds with
  | nil => intro v k r _; rfl
  | cons c ds ih =>
    intro v k r h
    have hc := h c (List.mem_cons_self ..)
    have hx : hexv (c.toNat : Int) < 10 := by unfold hexv; rw [if_pos hc]; omega
    simp only [List.cons_append, digs, foldD]
    rw [if_pos hx, ih _ _ _ (fun d hd => h d (List.mem_cons_of_mem _ hd))]
    simp only [List.length_cons]
    congr 1
    omega

theorem termOf_number (at_ : Int) (N : List (List UInt8 × Int)) (n : Nat) (hn : n ≤ 1000000) : TermOf at_ N (digitsTo (n + 1) n []) n := by
  have ha := digitsTo_all (n + 1) n [] (by intro c hc; cases hc)
  have hf := digitsTo_fold (n + 1) n [] (by omega) hn
  obtain ⟨c, t, ht⟩ := digitsTo_ne (n + 1) n [] (by omega)
  have hc := ha c (by rw [ht]; exact List.mem_cons_self ..)
  refine ⟨fun r hr => ?_, by omega, by omega, c, t, ht, by omega⟩
  have hd := digs_digits (digitsTo (n + 1) n []) 0 0 r ha
  rw [digs_stop _ _ r hr, hf] at hd
  have hd2 : digs 10 0 0 (digitsTo (n + 1) n [] ++ r) = ((n : Int), (digitsTo (n + 1) n []).length) := by rw [hd, Nat.zero_add]; rfl
  have hdig : digB (c.toNat : Int) = true := by unfold digB; simp; omega
  rw [ht] at hd2 ⊢
  rw [List.cons_append] at hd2 ⊢
  simp only [term]
  rw [if_pos hdig, hd2]

theorem wordLen_all : ∀ (t r : List UInt8), allNb t = true → signish r → wordLen (t ++ r) = t.length := by
  intro t
  induction t with
  | nil =>
    intro r _ hr
    cases r with
    | nil => rfl
    | cons c r =>
      have h' : (c.toNat : Int) = 43 ∨ (c.toNat : Int) = 45 ∨ (c.toNat : Int) = 42 := hr
      have hn : nbB (c.toNat : Int) = false := by unfold nbB; apply decide_eq_false; omega
      simp [wordLen, hn]
  | cons c t ih =>
    intro r h hr
    simp only [allNb, List.all_cons, Bool.and_eq_true] at h
    simp only [List.cons_append, wordLen]
    rw [if_pos h.1, ih r h.2 hr]
    rfl

theorem termOf_name (at_ : Int) (N : List (List UInt8 × Int)) (t : List UInt8) (n : Int) (hn : nameB t = true) (hf : findN N t = some n) (h1 : -1000000 ≤ n) (h2 : n ≤ 1000000) : TermOf at_ N t n := by
  cases t with
  | nil => simp [nameB] at hn
  | cons c t =>
    have hn0 := hn
    simp only [nameB, Bool.and_eq_true, Bool.not_eq_true'] at hn
    obtain ⟨⟨⟨_, hd⟩, _⟩, ha⟩ := hn
    have hc : nbB (c.toNat : Int) = true := by simp only [allNb, List.all_cons, Bool.and_eq_true] at ha; exact ha.1
    have hc' := of_decide_eq_true hc
    refine ⟨fun r hr => ?_, h1, h2, c, t, rfl, by omega⟩
    have hw := wordLen_all (c :: t) r ha hr
    have hnm : named ((c :: t) ++ r) N = (n, (c :: t).length, 0) := by
      unfold named
      rw [hw, List.take_left, if_pos hn0, hf]
    rw [List.cons_append] at hnm ⊢
    simp only [term]
    rw [if_neg (by rw [hd]; simp), if_neg (by omega), if_neg (by omega), if_neg (by omega), hnm]

/-! The names that are handed in. -/

/-- The names that are handed in: "one", and a name for each of the first k values. -/
def namesOf (zs : List Int) (k : Nat) : List (List UInt8 × Int) := ([111, 110, 101], 1) :: (List.range k).map fun j => ([118, 48 + UInt8.ofNat j], pickI (zs.getD j 0) 2000001 - 1000000)

theorem namesOf_succ (zs : List Int) (k : Nat) : namesOf zs (k + 1) = namesOf zs k ++ [([118, 48 + UInt8.ofNat k], pickI (zs.getD k 0) 2000001 - 1000000)] := by
  unfold namesOf
  rw [List.range_succ, List.map_append, List.cons_append]; rfl
theorem namesOf_length (zs : List Int) (k : Nat) : (namesOf zs k).length = k + 1 := by simp [namesOf]

theorem findN_append (l m : List (List UInt8 × Int)) (x : List UInt8) (h : ∀ p ∈ l, p.1 ≠ x) : findN (l ++ m) x = findN m x := by
  induction l with
  | nil => rfl
  | cons p l ih =>
    obtain ⟨a, b⟩ := p
    have hp : a ≠ x := h (a, b) (List.mem_cons_self ..)
    simp only [List.cons_append, findN]
    rw [if_neg hp, ih (fun p hp => h p (List.mem_cons_of_mem _ hp))]
theorem findN_more (l m : List (List UInt8 × Int)) (x : List UInt8) (v : Int) (h : findN l x = some v) : findN (l ++ m) x = some v := by
  induction l with
  | nil => cases h
  | cons p l ih =>
    obtain ⟨a, b⟩ := p
    simp only [List.cons_append, findN] at h ⊢
    split
    · rename_i ha; rw [if_pos ha] at h; exact h
    · rename_i ha; rw [if_neg ha] at h; exact ih h

theorem names_apart (zs : List Int) (k j : Nat) (hk : k ≤ j) (hj : j < 10) : ∀ p ∈ namesOf zs k, p.1 ≠ [118, 48 + UInt8.ofNat j] := by
  intro p hp
  unfold namesOf at hp
  rcases List.mem_cons.1 hp with rfl | hp
  · intro h; injection h with h _; exact absurd h (by decide)
  · obtain ⟨i, hi, rfl⟩ := List.mem_map.1 hp
    have hi := List.mem_range.1 hi
    intro h
    injection h with _ h
    injection h with h _
    have e1 := digit_byte i (by omega)
    have e2 := digit_byte j (by omega)
    rw [h] at e1
    omega

theorem find_names (zs : List Int) (k : Nat) (hk : k ≤ 9) : ∀ i (h : i < (namesOf zs k).length), findN (namesOf zs k) (namesOf zs k)[i].1 = some (namesOf zs k)[i].2 := by
  induction k with
  | zero =>
    intro i h
    rw [namesOf_length] at h
    have : i = 0 := by omega
    subst this
    rfl
  | succ k ih =>
    intro i h
    rw [namesOf_length] at h
    have hl := namesOf_length zs k
    simp only [namesOf_succ]
    by_cases hi : i < k + 1
    · rw [List.getElem_append_left (by omega)]
      exact findN_more _ _ _ _ (ih (by omega) i (by omega))
    · have : i = k + 1 := by omega
      subst this
      rw [List.getElem_append_right (by omega)]
      simp only [hl, Nat.sub_self, List.getElem_cons_zero]
      rw [findN_append _ _ _ (names_apart zs k k (Nat.le_refl _) (by omega))]
      simp [findN]

theorem names_good (zs : List Int) (k : Nat) (hk : k ≤ 9) : ∀ i (h : i < (namesOf zs k).length), nameB (namesOf zs k)[i].1 = true ∧ -1000000 ≤ (namesOf zs k)[i].2 ∧ (namesOf zs k)[i].2 ≤ 1000000 ∧ (namesOf zs k)[i].1.length ≤ 3 := by
  intro i h
  have hm : (namesOf zs k)[i] ∈ namesOf zs k := List.getElem_mem h
  generalize (namesOf zs k)[i] = p at hm ⊢
  unfold namesOf at hm
  rcases List.mem_cons.1 hm with rfl | hm
  · exact ⟨by decide, by decide, by decide, by decide⟩
  · obtain ⟨j, hj, rfl⟩ := List.mem_map.1 hm
    have hj := List.mem_range.1 hj
    have hb := pickI_bd (zs.getD j 0) 2000001 (by omega)
    refine ⟨?_, by show -1000000 ≤ pickI (zs.getD j 0) 2000001 - 1000000; omega, by show pickI (zs.getD j 0) 2000001 - 1000000 ≤ 1000000; omega, by show 2 ≤ 3; decide⟩
    show nameB [118, 48 + UInt8.ofNat j] = true
    have hd := digit_byte j (by omega)
    have h1 : nbB ((48 + UInt8.ofNat j).toNat : Int) = true := by rw [hd]; unfold nbB; apply decide_eq_true; omega
    have h2 : regB [118, 48 + UInt8.ofNat j] = false := by simp [regB]
    simp only [nameB, allNb, List.all_cons, List.all_nil, h1, h2]
    rfl

theorem termOf_names (at_ : Int) (zs : List Int) (k : Nat) (hk : k ≤ 9) (i : Nat) (h : i < (namesOf zs k).length) : TermOf at_ (namesOf zs k) (namesOf zs k)[i].1 (namesOf zs k)[i].2 := by
  obtain ⟨h1, h2, h3, _⟩ := names_good zs k hk i h
  exact termOf_name at_ _ _ _ h1 (find_names zs k hk i h) h2 h3

end Go.Proofs.YtcepppilgncdmaaGreatDoor

namespace Go.Proofs.YtcepppilgncdmaaGreatDoor

/-- A text of whole lines. -/
def textL (ls : List (List UInt8)) : List UInt8 := ls.flatMap (· ++ [10])

theorem textL_append (a b : List (List UInt8)) : textL (a ++ b) = textL a ++ textL b := by simp [textL]
theorem textL_one (a : List UInt8) : textL [a] = a ++ [10] := by simp [textL]

theorem okLine_no {a : List UInt8} (h : okLine a = true) : ∀ c ∈ a, ¬ (c.toNat : Int) = 10 := by
  intro c hc hx
  unfold okLine at h
  rw [Bool.and_eq_true] at h
  have := List.all_eq_true.1 h.2 c hc
  unfold okByte at this
  simp at this
  omega
theorem splitB_line (r : List UInt8) : ∀ a : List UInt8, (∀ c ∈ a, ¬ (c.toNat : Int) = 10) → splitB 10 (a ++ 10 :: r) = a :: splitB 10 r
  | [], _ => by
    show splitB 10 (10 :: r) = _
    simp only [splitB]
    rw [if_pos (by decide)]
  | c :: a, h => by
    have ih := splitB_line r a fun x hx => h x (List.mem_cons_of_mem _ hx)
    show splitB 10 (c :: (a ++ 10 :: r)) = _
    simp only [splitB]
    rw [if_neg (h c List.mem_cons_self), ih]
theorem splitB_textL (r : List UInt8) : ∀ ls : List (List UInt8), (∀ l ∈ ls, okLine l = true) → splitB 10 (textL ls ++ r) = ls ++ splitB 10 r
  | [], _ => by simp [textL]
  | a :: ls, h => by
    have ih := splitB_textL r ls fun x hx => h x (List.mem_cons_of_mem _ hx)
    have := splitB_line (textL ls ++ r) a (okLine_no (h a List.mem_cons_self))
    rw [ih] at this
    rw [← List.singleton_append, textL_append, textL_one]
    simpa using this
theorem splitB_alone : ∀ a : List UInt8, (∀ c ∈ a, ¬ (c.toNat : Int) = 10) → splitB 10 a = [a]
  | [], _ => by simp [splitB]
  | c :: a, h => by
    simp only [splitB]
    rw [if_neg (h c List.mem_cons_self), splitB_alone a fun x hx => h x (List.mem_cons_of_mem _ hx)]
theorem badLine_zero : ∀ (ls : List (List UInt8)) (k : Nat), (∀ l ∈ ls, okLine l = true) → badLine ls k = 0
  | [], _, _ => by simp [badLine]
  | a :: ls, k, h => by
    unfold badLine
    rw [if_pos (h a List.mem_cons_self)]
    exact badLine_zero ls (k + 1) fun x hx => h x (List.mem_cons_of_mem _ hx)

/-- What Expand answers of whole lines and a last one, when the block of them says no error. -/
theorem expandP_lines (ls : List (List UInt8)) (a : List UInt8) (at_ : Nat) (st : StP) (hl : ∀ l ∈ ls, okLine l = true) (ha : okLine a = true) (hs : (textL ls ++ a).length ≤ 3000)
    (h : blockP (callN 8) none 1 (ls ++ [a]) 0 [] none noSt = (0, at_, st)) : expandP (textL ls ++ a) = (0, 0, st.out) := by
  have e1 : splitB 10 (textL ls ++ a) = ls ++ [a] := by rw [splitB_textL _ _ hl, splitB_alone a (okLine_no ha)]
  have e2 : badLine (ls ++ [a]) 1 = 0 := badLine_zero _ _ fun l h => by
    rcases List.mem_append.1 h with h | h
    · exact hl l h
    · rw [List.mem_singleton.1 h]; exact ha
  unfold expandP
  rw [if_neg (by omega), e1, e2, if_neg (by decide), h]
  simp

theorem cutL_again : ∀ l : List UInt8, cutL (cutL l) = cutL l
  | [] => rfl
  | c :: r => by
    simp only [cutL]
    by_cases h : (c.toNat : Int) = 59
    · rw [if_pos h]; rfl
    · rw [if_neg h]; simp only [cutL]; rw [if_neg h, cutL_again r]

/-- One line of a block, where no macro is being defined. -/
theorem block_one {call : MacP → WordsP → Nat → StP → Int × StP} {l : List UInt8} {k : Nat} {o o' : List OpenP} {d : Option MacP} {st st' : StP} (W : WordsP) (hw : wordsP (cutL l) = W)
    (hp : overP o = true → passP W o st = (0, o') ∧ st' = st ∧ d = none) (hl : overP o = false → lineP call false W (k + 1) o st = (0, o', d, st')) (rest : List (List UInt8)) :
    blockP call none 1 (l :: rest) k o none st = blockP call none 1 rest (k + 1) o' d st' := by
  subst hw
  have e : readP none false (cutL l) = (0, wordsP (cutL l)) := by
    show (0, wordsP (cutL (cutL l))) = _
    rw [cutL_again]
  rw [blockP]
  cases hx : overP o with
  | true => obtain ⟨h1, rfl, rfl⟩ := hp hx; rw [if_pos rfl, h1]; rfl
  | false =>
    have h1 := hl hx
    rw [if_neg (by simp), e]
    simp only [ne_eq, not_true_eq_false, if_false, Option.isSome_none]
    rw [h1]
    rfl

/-- The conditions that are open, innermost first, against: is it so now, and has it turned? -/
def SoP : List OpenP → List (Bool × Bool) → Prop
  | [], [] => True
  | o :: r, p :: q => o.els = p.2 ∧ o.over = overP r ∧ (o.over = false → o.yes = p.1) ∧ SoP r q
  | _, _ => False
theorem SoP.so : ∀ {o : List OpenP} {q : List (Bool × Bool)}, SoP o q → overP o = !(q.all (·.1))
  | [], [], _ => rfl
  | [], _ :: _, h => h.elim
  | _ :: _, [], h => h.elim
  | o :: r, p :: q, h => by
    obtain ⟨_, h2, h3, h4⟩ := h
    have ih := h4.so
    show passOf o = _
    unfold passOf
    rw [List.all_cons, h2, ih]
    cases hq : q.all (·.1) with
    | false => simp
    | true =>
      rw [ih, hq] at h2
      rw [h3 h2]
      simp
theorem SoP.len : ∀ {o : List OpenP} {q : List (Bool × Bool)}, SoP o q → o.length = q.length
  | [], [], _ => rfl
  | [], _ :: _, h => h.elim
  | _ :: _, [], h => h.elim
  | o :: r, p :: q, h => by simp [h.2.2.2.len]

def yesB : List UInt8 := [121, 101, 115]
def nopB : List UInt8 := [110, 111, 112]
def setLn : List UInt8 := [46, 115, 101, 116, 32, 121, 101, 115, 44, 49]
def exprOf (c : Nat) : List UInt8 := if c = 0 then yesB else if c = 1 then [121, 101, 115, 45, 49] else [50]
def endifB : List UInt8 := [46, 101, 110, 100, 105, 102, 32, 59, 32, 98, 101, 104, 105, 110, 100]
/-- What is known at a place of the text: the names, and the lines that are left. -/
def chSt (fs : List Nat) : StP := ⟨[], [(yesB, 1)], (setLn, 1) :: fs.map (nopB, ·), 0⟩

/-- Behind these lines of the text, which conditions are open, and from where the lines come that are left. -/
def ChRun (ls : List (List UInt8)) (q : List (Bool × Bool)) (fs : List Nat) : Prop :=
  (∀ l ∈ ls, okLine l = true) ∧ ∃ o, SoP o q ∧ ∀ rest, blockP (callN 8) none 1 (ls ++ rest) 0 [] none noSt = blockP (callN 8) none 1 rest ls.length o none (chSt fs)

theorem ChRun.more {ls : List (List UInt8)} {q q' : List (Bool × Bool)} {fs fs' : List Nat} (h : ChRun ls q fs) (l : List UInt8) (W : WordsP) (hw : wordsP (cutL l) = W) (hl : okLine l = true)
    (hx : ∀ o, SoP o q → ∃ o', SoP o' q' ∧ (overP o = true → passP W o (chSt fs) = (0, o') ∧ chSt fs' = chSt fs) ∧ (overP o = false → lineP (callN 8) false W (ls.length + 1) o (chSt fs) = (0, o', none, chSt fs'))) : ChRun (ls ++ [l]) q' fs' := by
  obtain ⟨h1, o, h2, h3⟩ := h
  obtain ⟨o', h4, h5, h6⟩ := hx o h2
  refine ⟨fun x hx => ?_, o', h4, fun rest => ?_⟩
  · rcases List.mem_append.1 hx with h | h
    · exact h1 x h
    · rw [List.mem_singleton.1 h]; exact hl
  · rw [List.append_assoc, h3, List.singleton_append, block_one W hw (fun h => ⟨(h5 h).1, (h5 h).2, rfl⟩) h6 rest, List.length_append]
    rfl

theorem ChRun.start : ChRun [setLn] [] [] := by
  refine ⟨by decide +kernel, [], trivial, fun rest => ?_⟩
  rw [List.singleton_append, block_one (o' := []) (d := none) (st' := chSt []) ⟨[], opSet, [yesB, [49]]⟩ (by kernel_rfl) (by intro h; cases h) (fun _ => by kernel_rfl) rest]
  rfl

def ifLn (c : Nat) : List UInt8 := [46, 105, 102, 32] ++ exprOf c

theorem ChRun.ifs {ls : List (List UInt8)} {q : List (Bool × Bool)} {fs : List Nat} (h : ChRun ls q fs) (c : Nat) (hc : c < 3) (hq : q.length < 8) : ChRun (ls ++ [ifLn c]) ((decide (c ≠ 1), false) :: q) fs := by
  refine h.more _ ⟨[], opIf, [exprOf c]⟩ ?_ ?_ fun o ho => ⟨⟨decide (c ≠ 1) && !overP o, false, overP o⟩ :: o, ⟨rfl, rfl, fun h => ?_, ho⟩, fun h => ⟨?_, rfl⟩, fun h => ?_⟩
  · match c, hc with
    | 0, _ => rfl
    | 1, _ => rfl
    | 2, _ => rfl
  · match c, hc with
    | 0, _ => rfl
    | 1, _ => rfl
    | 2, _ => rfl
  · simp only at h; simp [h]
  · unfold passP ifP
    rw [if_pos rfl, if_neg (by rw [ho.len]; omega), if_pos h, h]
    simp
  · unfold lineP ifP
    simp only [if_true]
    rw [if_neg (by rw [ho.len]; omega), h, if_neg (by simp), if_neg (by simp)]
    have hv : value 0 (chSt fs).names ((⟨[], opIf, [exprOf c]⟩ : WordsP).operands.headD []) = ((if c = 1 then 0 else if c = 0 then 1 else 2 : Int), (0 : Int)) := by
      show value 0 [(yesB, 1)] (exprOf c) = _
      match c, hc with
      | 0, _ => rfl
      | 1, _ => rfl
      | 2, _ => rfl
    rw [hv]
    match c, hc with
    | 0, _ => simp
    | 1, _ => simp
    | 2, _ => simp

theorem ChRun.turn {ls : List (List UInt8)} {b : Bool} {q : List (Bool × Bool)} {fs : List Nat} (h : ChRun ls ((b, false) :: q) fs) : ChRun (ls ++ [opElse]) ((!b, true) :: q) fs := by
  refine h.more _ ⟨[], opElse, []⟩ (by kernel_rfl) (by kernel_rfl) fun o ho => ?_
  match o, ho with
  | ⟨y, e, ov⟩ :: r, ⟨h1, h2, h3, h4⟩ =>
    simp only at h1 h2 h3
    subst h1
    have he : elseP ⟨[], opElse, []⟩ (⟨y, false, ov⟩ :: r) = (0, ⟨!y, true, ov⟩ :: r) := by simp [elseP, bareW]
    exact ⟨⟨!y, true, ov⟩ :: r, ⟨rfl, h2, fun h => by rw [h3 h], h4⟩, fun _ => ⟨by unfold passP; rw [if_neg (show ¬ (⟨[], opElse, []⟩ : WordsP).op = opIf by decide), if_pos rfl, he], rfl⟩,
      fun _ => by unfold lineP; rw [if_neg (show ¬ (⟨[], opElse, []⟩ : WordsP).op = opIf by decide), if_pos rfl, he]⟩
theorem ChRun.close {ls : List (List UInt8)} {p : Bool × Bool} {q : List (Bool × Bool)} {fs : List Nat} (h : ChRun ls (p :: q) fs) (l : List UInt8) (hw : wordsP (cutL l) = ⟨[], opEndif, []⟩) (hl : okLine l = true) : ChRun (ls ++ [l]) q fs := by
  refine h.more _ _ hw hl fun o ho => ?_
  match o, ho with
  | ⟨y, e, ov⟩ :: r, ⟨h1, h2, h3, h4⟩ =>
    have he : endifP ⟨[], opEndif, []⟩ (⟨y, e, ov⟩ :: r) = (0, r) := by simp [endifP, bareW]
    exact ⟨r, h4, fun _ => ⟨by unfold passP; rw [if_neg (show ¬ (⟨[], opEndif, []⟩ : WordsP).op = opIf by decide), if_neg (show ¬ (⟨[], opEndif, []⟩ : WordsP).op = opElse by decide), if_pos rfl, he], rfl⟩,
      fun _ => by unfold lineP; rw [if_neg (show ¬ (⟨[], opEndif, []⟩ : WordsP).op = opIf by decide), if_neg (show ¬ (⟨[], opEndif, []⟩ : WordsP).op = opElse by decide), if_pos rfl, he]⟩
theorem ChRun.ends {ls : List (List UInt8)} {p : Bool × Bool} {q : List (Bool × Bool)} {fs : List Nat} (h : ChRun ls (p :: q) fs) : ChRun (ls ++ [endifB]) q fs := h.close _ (by kernel_rfl) (by kernel_rfl)
theorem ChRun.shut {ls : List (List UInt8)} {p : Bool × Bool} {q : List (Bool × Bool)} {fs : List Nat} (h : ChRun ls (p :: q) fs) : ChRun (ls ++ [opEndif]) q fs := h.close _ (by kernel_rfl) (by kernel_rfl)

theorem ChRun.nop {ls : List (List UInt8)} {q : List (Bool × Bool)} {fs : List Nat} (h : ChRun ls q fs) (hf : fs.length < 200) : ChRun (ls ++ [nopB]) q (if q.all (·.1) then fs ++ [ls.length + 1] else fs) := by
  refine h.more _ ⟨[], nopB, []⟩ (by kernel_rfl) (by kernel_rfl) fun o ho => ⟨o, ho, fun h => ⟨by kernel_rfl, ?_⟩, fun h => ?_⟩
  · rw [ho.so] at h
    rw [if_neg (fun c => by rw [c] at h; cases h)]
  · rw [ho.so] at h
    rw [if_pos (by simpa using h)]
    have hv : leaveP ⟨[], nopB, []⟩ (ls.length + 1) (chSt fs) = (0, chSt (fs ++ [ls.length + 1])) := by
      unfold leaveP
      have : textP ⟨[], nopB, []⟩ = nopB := by kernel_rfl
      rw [this, if_neg (by decide), if_neg (by simp [chSt]; omega)]
      simp [chSt]
    unfold lineP
    rw [if_neg (show ¬ (⟨[], nopB, []⟩ : WordsP).op = opIf by decide), if_neg (show ¬ (⟨[], nopB, []⟩ : WordsP).op = opElse by decide), if_neg (show ¬ (⟨[], nopB, []⟩ : WordsP).op = opEndif by decide), if_neg (show ¬ (⟨[], nopB, []⟩ : WordsP).op = opMacro by decide), if_neg (show ¬ (⟨[], nopB, []⟩ : WordsP).op = opEnd by decide), if_neg (show ¬ (⟨[], nopB, []⟩ : WordsP).op = opSet by decide)]
    show ((leaveP _ _ (chSt fs)).1, o, none, (leaveP _ _ (chSt fs)).2) = _
    rw [hv]

theorem ChRun.done {ls : List (List UInt8)} {fs : List Nat} (h : ChRun ls [] fs) (hs : (textL ls).length ≤ 3000) : expandP (textL ls) = (0, 0, (setLn, 1) :: fs.map (nopB, ·)) := by
  obtain ⟨h1, o, h2, h3⟩ := h
  have := expandP_lines ls [] (ls.length + 1) (chSt fs) h1 (by decide) (by simpa using hs) (by
    rw [h3]
    match o, h2 with
    | [], _ => rfl)
  rw [List.append_nil] at this
  exact this

end Go.Proofs.YtcepppilgncdmaaGreatDoor

namespace Go.Proofs.YtcepppilgncdmaaGreatDoor

/-! Addresses, where there is no .align. -/
def offs (l : List StmP) (i : Nat) : Nat := ((l.take i).map sizeP).sum
theorem offs_zero (l : List StmP) : offs l 0 = 0 := by simp [offs]
theorem offs_cons (s : StmP) (r : List StmP) (i : Nat) : offs (s :: r) (i + 1) = sizeP s + offs r i := by simp [offs]
theorem offs_succ {l : List StmP} {i : Nat} {s : StmP} (h : l[i]? = some s) : offs l (i + 1) = offs l i + sizeP s := by
  unfold offs
  rw [List.take_add_one, h]
  simp
theorem offs_past {l : List StmP} {i : Nat} (h : l[i]? = none) : offs l (i + 1) = offs l i := by
  unfold offs
  rw [List.take_add_one, h]
  simp
def NoAl (l : List StmP) : Prop := ∀ s ∈ l, ¬ s.o.kind = 6
theorem size_at {s : StmP} (h : ¬ s.o.kind = 6) (a : Int) : sizeP { s with at_ := a } = sizeP s := by
  unfold sizeP StmP.exprs
  simp [h]
theorem laid_off (l : List StmP) : NoAl l → ∀ (a i : Nat), (∀ s, (laidP l a)[i]? = some s → s.at_ = ((a + offs l i : Nat) : Int)) ∧ offs (laidP l a) i = offs l i ∧ endP l a = a + offs l l.length := by
  induction l with
  | nil => intro _ a i; exact ⟨by simp [laidP], by simp [laidP], by simp [endP, offs]⟩
  | cons s r ih =>
    intro h a i
    have hs := size_at (h s (by simp)) (a : Int)
    have hr := ih (fun x hx => h x (by simp [hx])) (a + sizeP s)
    refine ⟨?_, ?_, ?_⟩
    · cases i with
      | zero => intro x hx; simp only [laidP, List.getElem?_cons_zero, Option.some.injEq] at hx; subst hx; simp [offs]
      | succ i =>
        intro x hx
        simp only [laidP, List.getElem?_cons_succ, hs] at hx
        rw [(hr i).1 x hx, offs_cons, Nat.add_assoc]
    · cases i with
      | zero => simp [offs]
      | succ i =>
        simp only [laidP, hs]
        rw [offs_cons, offs_cons, hs, (hr i).2.1]
    · simp only [endP, hs, List.length_cons]
      rw [(hr 0).2.2, offs_cons]; omega
/-- Where sizes only grow, all that lies between does. -/
theorem offs_grow {l m : List StmP} (h : ∀ (i : Nat) s, l[i]? = some s → ∃ t, m[i]? = some t ∧ sizeP s ≤ sizeP t) (a : Nat) : ∀ d, offs l (a + d) + offs m a ≤ offs m (a + d) + offs l a
  | 0 => by simp; omega
  | d + 1 => by
    have ih := offs_grow h a d
    cases hl : l[a + d]? with
    | none =>
      have h1 := offs_past hl
      cases hm : m[a + d]? with
      | none => have h2 := offs_past hm; rw [← Nat.add_assoc, h1, h2]; exact ih
      | some t => have h2 := offs_succ hm; rw [← Nat.add_assoc, h1, h2]; omega
    | some s =>
      obtain ⟨t, h3, h4⟩ := h _ _ hl
      have h1 := offs_succ hl
      have h2 := offs_succ h3
      rw [← Nat.add_assoc, h1, h2]; omega
theorem offs_mono (l : List StmP) (a : Nat) : ∀ d, offs l a ≤ offs l (a + d)
  | 0 => Nat.le_refl _
  | d + 1 => by
    have ih := offs_mono l a d
    cases hl : l[a + d]? with
    | none => rw [← Nat.add_assoc, offs_past hl]; exact ih
    | some s => rw [← Nat.add_assoc, offs_succ hl]; omega

/-- In the end no jump grows any more. -/
theorem find_done : ∀ (n : Nat) (l : List StmP), shorts l < n → (findP n l).any (growsP (namesP (findP n l))) = false
  | 0, l, h => by omega
  | n + 1, l, h => by
    simp only [findP]
    split
    · rename_i h1
      exact find_done n _ (by rw [shorts_laid]; have := shorts_less h1; omega)
    · rename_i h1; simpa using h1
theorem placed_done (l : List StmP) : (placedP l).any (growsP (namesP (placedP l))) = false :=
  find_done _ _ (by rw [shorts_laid]; have := shorts_le l; omega)

/-! The program of jumps. -/
structure JmpP where
  kind : Nat
  to : Nat
  reg : Nat
  room : Nat
def digN (n : Nat) : List UInt8 := digitsTo (n + 1) n []
def pN (i : Nat) : List UInt8 := 112 :: digN i
def rN (i : Nat) : List UInt8 := 114 :: digN i
def opJ (j : JmpP) : List UInt8 := if j.kind < 4 then oJmp else if j.kind < 6 then oJz else if j.kind < 9 then oSpace else oNop
def opsJ (j : JmpP) : List (List UInt8) := if j.kind < 4 then [pN j.to] else if j.kind < 6 then [rN j.reg, pN j.to] else if j.kind < 9 then [digN j.room] else []
def opnJ (j : JmpP) : OpnP := if j.kind < 4 then ⟨3, 0, 128, 129, 2⟩ else if j.kind < 6 then ⟨3, 1, 132, 136, 2⟩ else if j.kind < 9 then ⟨5, 0, 0, 0, 0⟩ else ⟨1, 0, 0, 0, 0⟩
def addJ (j : JmpP) : Nat := if j.kind < 4 then 0 else if j.kind < 6 then j.reg else 0
def cntJ (j : JmpP) : Nat := if j.kind < 6 then 0 else if j.kind < 9 then j.room else 0
def shW (i : Nat) (j : JmpP) : WordsP := ⟨pN i, opJ j, opsJ j⟩
def shLn (i : Nat) (j : JmpP) : List UInt8 := textP (shW i j)
def stmJ (i : Nat) (j : JmpP) : StmP := ⟨shW i j, shLn i j, i + 1, opnJ j, addJ j, cntJ j, 0, 0, false⟩
def shLns : Nat → List JmpP → List (List UInt8)
  | _, [] => []
  | k, j :: r => shLn k j :: shLns (k + 1) r
def stms : Nat → List JmpP → List StmP
  | _, [] => []
  | k, j :: r => stmJ k j :: stms (k + 1) r
structure OkJ (n : Nat) (j : JmpP) : Prop where
  kind : j.kind < 10
  to : j.to < n
  reg : j.reg < 4
  room : j.room < 60

theorem digN_fold (n : Nat) (h : n ≤ 1000000) : foldD 0 (digN n) = n := by
  unfold digN
  rw [digitsTo_fold (n + 1) n [] (by omega) h]
  rfl
theorem pN_inj {i k : Nat} (hi : i ≤ 1000000) (hk : k ≤ 1000000) (h : pN i = pN k) : i = k := by
  unfold pN at h
  injection h with _ h
  have h1 := digN_fold i hi
  rw [h, digN_fold k hk] at h1
  omega
theorem pN_name : ∀ i < 90, nameB (pN i) = true ∧ (pN i).length ≤ 3 := by decide +kernel
theorem digN_len : ∀ i < 60, (digN i).length ≤ 2 := by decide +kernel
theorem rN_reg : ∀ i < 4, regB (rN i) = true ∧ regV (rN i) = i ∧ (rN i).length = 2 := by decide +kernel
theorem digN_dig (i : Nat) : allDig (digN i) := digitsTo_all _ _ _ (fun c hc => by cases hc)
theorem digN_ne (i : Nat) : digN i ≠ [] := by
  obtain ⟨c, r, h⟩ := digitsTo_ne (i + 1) i [] (by omega)
  unfold digN; rw [h]; simp
theorem dig_ok {l : List UInt8} (h : allDig l) : noBl l ∧ noCm l ∧ ∀ c ∈ l, okC c := by
  refine ⟨fun c hc => ?_, fun c hc => ?_, fun c hc => ?_⟩
  · have := h c hc; omega
  · have := h c hc; omega
  · have := h c hc
    unfold okC okByte
    simp only [Bool.and_eq_true, decide_eq_true_eq]
    omega
theorem head_ok {l : List UInt8} (h : allDig l) (c : UInt8) (hc : (c.toNat : Int) = 112 ∨ (c.toNat : Int) = 114) : noBl (c :: l) ∧ noCm (c :: l) ∧ ∀ d ∈ c :: l, okC d := by
  obtain ⟨h1, h2, h3⟩ := dig_ok h
  refine ⟨fun d hd => ?_, fun d hd => ?_, fun d hd => ?_⟩
  · rcases List.mem_cons.1 hd with rfl | hd
    · omega
    · exact h1 d hd
  · rcases List.mem_cons.1 hd with rfl | hd
    · omega
    · exact h2 d hd
  · rcases List.mem_cons.1 hd with rfl | hd
    · unfold okC okByte
      simp only [Bool.and_eq_true, decide_eq_true_eq]
      omega
    · exact h3 d hd
theorem pN_ok (i : Nat) : noBl (pN i) ∧ noCm (pN i) ∧ ∀ d ∈ pN i, okC d := head_ok (digN_dig i) 112 (Or.inl rfl)
theorem rN_ok (i : Nat) : noBl (rN i) ∧ noCm (rN i) ∧ ∀ d ∈ rN i, okC d := head_ok (digN_dig i) 114 (Or.inr rfl)

/-- The four kinds. -/
inductive KindJ (j : JmpP) : Prop
  | jmp (h : j.kind < 4) (op : opJ j = oJmp) (ops : opsJ j = [pN j.to]) (o : opnJ j = ⟨3, 0, 128, 129, 2⟩) (a : addJ j = 0) (c : cntJ j = 0)
  | jz (h : 4 ≤ j.kind ∧ j.kind < 6) (op : opJ j = oJz) (ops : opsJ j = [rN j.reg, pN j.to]) (o : opnJ j = ⟨3, 1, 132, 136, 2⟩) (a : addJ j = j.reg) (c : cntJ j = 0)
  | space (h : 6 ≤ j.kind ∧ j.kind < 9) (op : opJ j = oSpace) (ops : opsJ j = [digN j.room]) (o : opnJ j = ⟨5, 0, 0, 0, 0⟩) (a : addJ j = 0) (c : cntJ j = j.room)
  | nop (h : 9 ≤ j.kind) (op : opJ j = oNop) (ops : opsJ j = []) (o : opnJ j = ⟨1, 0, 0, 0, 0⟩) (a : addJ j = 0) (c : cntJ j = 0)
theorem kindJ (j : JmpP) : KindJ j := by
  by_cases h1 : j.kind < 4
  · exact .jmp h1 (by simp [opJ, h1]) (by simp [opsJ, h1]) (by simp [opnJ, h1]) (by simp [addJ, h1]) (by simp [cntJ, show j.kind < 6 by omega])
  · by_cases h2 : j.kind < 6
    · exact .jz ⟨by omega, h2⟩ (by simp [opJ, h1, h2]) (by simp [opsJ, h1, h2]) (by simp [opnJ, h1, h2]) (by simp [addJ, h1, h2]) (by simp [cntJ, h2])
    · by_cases h3 : j.kind < 9
      · exact .space ⟨by omega, h3⟩ (by simp [opJ, h1, h2, h3]) (by simp [opsJ, h1, h2, h3]) (by simp [opnJ, h1, h2, h3]) (by simp [addJ, h1, h2]) (by simp [cntJ, h2, h3])
      · exact .nop (by omega) (by simp [opJ, h1, h2, h3]) (by simp [opsJ, h1, h2, h3]) (by simp [opnJ, h1, h2, h3]) (by simp [addJ, h1, h2]) (by simp [cntJ, h2, h3])
theorem opJ_cases (j : JmpP) : opJ j = oJmp ∨ opJ j = oJz ∨ opJ j = oSpace ∨ opJ j = oNop := by
  cases kindJ j with
  | jmp _ h => exact Or.inl h
  | jz _ h => exact Or.inr (Or.inl h)
  | space _ h => exact Or.inr (Or.inr (Or.inl h))
  | nop _ h => exact Or.inr (Or.inr (Or.inr h))
theorem opJ_facts (j : JmpP) : opJ j ≠ [] ∧ noBl (opJ j) ∧ (∀ c ∈ opJ j, okC c) ∧ ctlB (opJ j) = false ∧ opJ j ≠ opSet ∧ (opJ j).length ≤ 6 := by
  rcases opJ_cases j with h | h | h | h <;> rw [h] <;> (unfold noBl okC; decide)
theorem shW_src (n i : Nat) (j : JmpP) (hi : i < 90) (hn : n ≤ 90) (hj : OkJ n j) : SrcW (shW i j) := by
  obtain ⟨o1, o2, o3, o4, o5, o6⟩ := opJ_facts j
  obtain ⟨n1, n2⟩ := pN_name i hi
  obtain ⟨p1, p2, p3⟩ := pN_ok j.to
  obtain ⟨q1, q2, q3⟩ := rN_ok j.reg
  obtain ⟨d1, d2, d3⟩ := dig_ok (digN_dig j.room)
  have hto := (pN_name j.to (by have := hj.to; omega)).2
  have hrl := (rN_reg j.reg hj.reg).2.2
  have hdl := digN_len j.room hj.room
  have hops : (∀ o ∈ opsJ j, (noBl o ∧ noCm o) ∧ ∀ c ∈ o, okC c) ∧ opsJ j ≠ [[]] ∧ sumLen (opsJ j) ≤ 7 := by
    cases kindJ j with
    | jmp _ _ h => rw [h]; exact ⟨by simpa using ⟨⟨p1, p2⟩, p3⟩, by simp [pN], by simp [sumLen]; omega⟩
    | jz _ _ h => rw [h]; exact ⟨by simpa using ⟨⟨⟨q1, q2⟩, q3⟩, ⟨p1, p2⟩, p3⟩, by simp, by simp [sumLen]; omega⟩
    | space _ _ h => rw [h]; exact ⟨by simpa using ⟨⟨d1, d2⟩, d3⟩, by simp [digN_ne], by simp [sumLen]; omega⟩
    | nop _ _ h => rw [h]; exact ⟨by simp, by simp, by simp [sumLen]⟩
  refine ⟨⟨Or.inr n1, o2, (fun h => absurd h (by simp [shW, pN])), (fun h => absurd h o1), fun o ho => (hops.1 o ho).1, hops.2.1⟩, ⟨(pN_ok i).2.2, o3, fun o ho => (hops.1 o ho).2⟩, ?_⟩
  rw [textP_head, List.length_append, joined_len]
  show (headP (pN i) (opJ j)).length + sumLen (opsJ j) ≤ 80
  rw [headP_both (by simp [pN]) o1]
  omega
theorem shW_left (ns : List (List UInt8 × Int)) (n i : Nat) (j : JmpP) (hi : i < 90) (hn : n ≤ 90) (hj : OkJ n j) : LeftW ns (shW i j) := by
  obtain ⟨o1, _, _, o4, o5, _⟩ := opJ_facts j
  refine ⟨shW_src n i j hi hn hj, ?_, o4, fun h => absurd h o5⟩
  rw [textP_head]
  show headP (pN i) (opJ j) ++ _ ≠ []
  intro h
  have := congrArg List.length h
  rw [List.length_append, headP_both (by simp [pN]) o1] at this
  simp at this
theorem sh_chain (n : Nat) (hn : n ≤ 90) : ∀ (js : List JmpP) (k : Nat) (ns : List (List UInt8 × Int)), k + js.length ≤ 90 → (∀ j ∈ js, OkJ n j) → ChainN ns (numbered (k + 1) (shLns k js)) ∧ endN ns (numbered (k + 1) (shLns k js)) = ns
  | [], k, ns, _, _ => ⟨trivial, rfl⟩
  | j :: r, k, ns, hk, hj => by
    have hl := shW_left ns n k j (by simp at hk; omega) hn (hj j (by simp))
    have hr := reread hl.src.good
    have hx : nextN ns (shW k j) = ns := if_neg (opJ_facts j).2.2.2.2.1
    have ih := sh_chain n hn r (k + 1) ns (by simp at hk; omega) (fun x hx => hj x (by simp [hx]))
    simp only [shLns, numbered, ChainN, endN]
    unfold shLn
    rw [hr, hx]
    exact ⟨⟨hl, rfl, ih.1⟩, ih.2⟩

theorem block_front (call : MacP → WordsP → Nat → StP → Int × StP) (rest : List (List UInt8)) : ∀ (outs : List (List UInt8 × Nat)) (at_ : Nat) (st : StP), st.macros = [] → ChainN st.names outs → st.out.length + outs.length ≤ 300 →
    blockP call none 1 (outs.map (·.1) ++ rest) at_ [] none st = blockP call none 1 rest (at_ + outs.length) [] none { st with names := endN st.names outs, out := st.out ++ numbered (at_ + 1) (outs.map (·.1)) }
  | [], at_, st, hm, hc, hl => by simp [endN, numbered]
  | x :: r, at_, st, hm, hc, hl => by
    obtain ⟨h1, h2, h3⟩ := hc
    have hcut : cutL x.1 = x.1 := cut_same (by rw [← h2]; exact h1.src.ok.text)
    simp only [List.length_cons] at hl
    have h4 := line_again call (wordsP x.1) (at_ + 1) st hm h1 (by omega)
    rw [h2] at h4
    simp only [List.map_cons, List.cons_append, blockP, overP, readP, hcut]
    simp only [Option.isSome_none, h4]
    rw [if_neg (by simp), if_neg (by simp), if_neg (by simp)]
    rw [block_front call rest r (at_ + 1) { st with names := nextN st.names (wordsP x.1), out := st.out ++ [(x.1, at_ + 1)] } hm h3 (by simp; omega)]
    simp only [List.append_assoc, endN, numbered, List.length_cons, List.cons_append, List.nil_append]
    rw [show at_ + 1 + r.length = at_ + (r.length + 1) from by omega]
theorem shLns_len : ∀ (js : List JmpP) (k : Nat), (shLns k js).length = js.length
  | [], k => rfl
  | j :: r, k => by simp [shLns, shLns_len r]
theorem sh_expand (js : List JmpP) (hn : js.length ≤ 90) (hj : ∀ j ∈ js, OkJ js.length j) (hl : (textL (shLns 0 js)).length ≤ 3000) : expandP (textL (shLns 0 js)) = (0, 0, numbered 1 (shLns 0 js)) := by
  obtain ⟨hc, he⟩ := sh_chain js.length hn js 0 [] (by omega) hj
  have hall := chain_left hc
  have hf := numbered_fst (shLns 0 js) 1
  have hok : ∀ t ∈ shLns 0 js, okLine t = true := fun t ht => by
    rw [← hf] at ht
    obtain ⟨x, hx, rfl⟩ := List.mem_map.1 ht
    exact (hall x hx).1
  have hs : splitB 10 (textL (shLns 0 js)) = shLns 0 js ++ [[]] := by
    have := splitB_textL [] (shLns 0 js) hok
    rw [List.append_nil] at this
    rw [this]; rfl
  have hb : badLine (shLns 0 js ++ [[]]) 1 = 0 := badLine_zero _ _ (fun l hl => by
    rcases List.mem_append.1 hl with h | h
    · exact hok l h
    · rw [List.mem_singleton] at h; rw [h]; rfl)
  have h1 := block_front (callN 8) [[]] (numbered 1 (shLns 0 js)) 0 noSt rfl hc (by rw [numbered_len, shLns_len]; simp [noSt]; omega)
  rw [hf] at h1
  unfold expandP
  rw [if_neg (by omega), hs, hb, if_neg (by simp), h1]
  rfl

/-! Lines are looked at. -/
def baseS (s : StmP) : StmP := { s with at_ := 0, long := false }
theorem stms_len : ∀ (js : List JmpP) (k : Nat), (stms k js).length = js.length
  | [], k => rfl
  | j :: r, k => by simp [stms, stms_len r]
theorem base_names {l : List StmP} : ∀ {js : List JmpP} {k : Nat}, l.map baseS = stms k js → k + js.length ≤ 1000 → (∀ (i : Nat) s, l[i]? = some s → findN (namesP l) (pN (k + i)) = some s.at_) ∧ (∀ m, k + l.length ≤ m → m ≤ 1000 → findN (namesP l) (pN m) = none) ∧ setsP l = [] ∧ (∀ m, m < k → findN (namesP l) (pN m) = none) := by
  induction l with
  | nil => intro js k _ _; exact ⟨by simp, fun m _ _ => rfl, rfl, fun m _ => rfl⟩
  | cons s r ih =>
    intro js k h hk
    cases js with
    | nil => simp [stms] at h
    | cons j t =>
      simp only [List.map_cons, stms, List.cons.injEq] at h
      simp only [List.length_cons] at hk
      obtain ⟨h1, h2, h3, h4⟩ := ih h.2 (by omega)
      have hw : s.w = shW k j := congrArg StmP.w h.1
      have hnm : nameP s = [(pN k, s.at_)] := by
        unfold nameP
        rw [hw]
        exact (if_neg (opJ_facts j).2.2.2.2.1).trans (if_neg (show ¬ (shW k j).label = [] by simp [shW, pN]))
      have hns : namesP (s :: r) = (pN k, s.at_) :: namesP r := by
        show nameP s ++ namesP r = _
        rw [hnm]; rfl
      rw [hns]
      have hlen : r.length = t.length := by
        have := congrArg List.length h.2
        rw [List.length_map] at this
        rw [this, stms_len]
      refine ⟨fun i x hx => ?_, fun m hm hm2 => ?_, ?_, fun m hm => ?_⟩
      · cases i with
        | zero =>
          simp only [List.getElem?_cons_zero, Option.some.injEq] at hx
          subst hx
          simp [findN]
        | succ i =>
          simp only [List.getElem?_cons_succ] at hx
          have hi : i < r.length := (List.getElem?_eq_some_iff.1 hx).1
          simp only [findN]
          rw [if_neg (fun e => by have := pN_inj (by omega) (by omega) e; omega)]
          have := h1 i x hx
          rw [show k + 1 + i = k + (i + 1) from by omega] at this
          exact this
      · simp only [List.length_cons] at hm
        simp only [findN]
        rw [if_neg (fun e => by have := pN_inj (by omega) (by omega) e; omega)]
        exact h2 m (by omega) hm2
      · show setOf s ++ setsP r = []
        rw [h3]
        unfold setOf
        rw [hw]
        exact congrArg (· ++ []) (if_neg (opJ_facts j).2.2.2.2.1)
      · simp only [findN]
        rw [if_neg (fun e => by have := pN_inj (by omega) (by omega) e; omega)]
        exact h4 m (by omega)
theorem stms_base : ∀ (js : List JmpP) (k : Nat), (stms k js).map baseS = stms k js
  | [], k => rfl
  | j :: r, k => by simp [stms, stms_base r, baseS, stmJ]
theorem stms_append : ∀ (a b : List JmpP) (k : Nat), stms k (a ++ b) = stms k a ++ stms (k + a.length) b
  | [], b, k => by simp [stms]
  | j :: r, b, k => by
    simp only [List.cons_append, stms, stms_append r b (k + 1), List.length_cons]
    rw [show k + 1 + r.length = k + (r.length + 1) from by omega]
theorem value_digits (n : Nat) (h : n ≤ 1000000) (N : List (List UInt8 × Int)) (a : Int) : value a N (digN n) = ((n : Int), 0) := (SoFar.first (termOf_number a N n h)).done
theorem value_name {N : List (List UInt8 × Int)} {i : Nat} {v : Int} (hi : i < 90) (h : findN N (pN i) = some v) (h1 : -1000000 ≤ v) (h2 : v ≤ 1000000) (a : Int) : value a N (pN i) = (v, 0) := (SoFar.first (termOf_name a N (pN i) v (pN_name i hi).1 h h1 h2)).done
theorem look_one (n : Nat) (l : List StmP) (i : Nat) (j : JmpP) (hj : OkJ n j) (hf : findN (namesP l) (pN i) = none) : lookP l (shW i j) (shLn i j) (i + 1) = (0, stmJ i j) := by
  obtain ⟨o1, _, _, _, o5, _⟩ := opJ_facts j
  have hh : hasN (namesP l) (pN i) = false := by unfold hasN; rw [hf]; rfl
  have hop : opnP (opJ j) = some (opnJ j) := by
    cases kindJ j with
    | jmp _ h _ ho => rw [h, ho]; rfl
    | jz _ h _ ho => rw [h, ho]; rfl
    | space _ h _ ho => rw [h, ho]; rfl
    | nop _ h _ ho => rw [h, ho]; rfl
  have hps : operandsP (opnJ j) (opsJ j) (setsP l) = (0, addJ j, cntJ j) := by
    cases kindJ j with
    | jmp _ _ h ho ha hc => rw [h, ho, ha, hc]; rfl
    | jz _ _ h ho ha hc =>
      rw [h, ho, ha, hc]
      obtain ⟨r1, r2, _⟩ := rN_reg j.reg hj.reg
      have hr : regsP [rN j.reg] 0 = some j.reg := by
        simp only [regsP, r1, r2]
        simp
      show (match regsP [rN j.reg] 0 with | none => _ | some a => _) = _
      rw [hr]
      rfl
    | space _ _ h ho ha hc =>
      rw [h, ho, ha, hc]
      have hv := value_digits j.room (by have := hj.room; omega) (setsP l) 0
      have hct : countP 5 (setsP l) (digN j.room) = (0, j.room) := by
        unfold countP
        rw [hv, if_neg (by simp), if_neg (by have := hj.room; simp; omega)]
        simp
      show ((countP 5 (setsP l) (digN j.room)).1, 0, (countP 5 (setsP l) (digN j.room)).2) = _
      rw [hct]
    | nop _ _ h ho ha hc => rw [h, ho, ha, hc]; rfl
  unfold lookP
  show (if opJ j = opSet then _ else if (opnP (opJ j)).isNone ∧ opJ j ≠ [] then _ else if pN i ≠ [] ∧ hasN (namesP l) (pN i) then _ else match opnP (opJ j) with | none => _ | some o => _) = _
  rw [if_neg o5, hop, if_neg (by simp), hh, if_neg (by simp)]
  show ((operandsP (opnJ j) (opsJ j) (setsP l)).1, (⟨shW i j, shLn i j, i + 1, opnJ j, (operandsP (opnJ j) (opsJ j) (setsP l)).2.1, (operandsP (opnJ j) (opsJ j) (setsP l)).2.2, 0, 0, false⟩ : StmP)) = _
  rw [hps]
  rfl
theorem look_all (n : Nat) (hn : n ≤ 90) : ∀ (r a : List JmpP), a.length + r.length ≤ 90 → (∀ j ∈ r, OkJ n j) → lookAll (numbered (a.length + 1) (shLns a.length r)) (stms 0 a) = (0, 0, stms 0 (a ++ r))
  | [], a, _, _ => by simp [shLns, numbered, lookAll]
  | j :: r, a, hl, hj => by
    simp only [List.length_cons] at hl
    have hjj := hj j (by simp)
    have hg := reread (shW_src n a.length j (by omega) hn hjj).good
    obtain ⟨_, h2, _, _⟩ := base_names (k := 0) (stms_base a 0) (by omega)
    have h3 := look_one n (stms 0 a) a.length j hjj (h2 a.length (by rw [stms_len]; omega) (by omega))
    have hg' : wordsP (shLn a.length j) = shW a.length j := hg
    simp only [shLns, numbered, lookAll]
    rw [hg', h3, if_neg (by simp)]
    have ih := look_all n hn r (a ++ [j]) (by simp; omega) (fun x hx => hj x (by simp [hx]))
    rw [List.length_append, stms_append] at ih
    simp only [List.length_cons, List.length_nil, Nat.zero_add, stms, List.append_assoc, List.cons_append, List.nil_append] at ih
    exact ih

/-! Addresses are found. -/
theorem base_laid (l : List StmP) : ∀ a, (laidP l a).map baseS = l.map baseS := by
  induction l with
  | nil => intro a; rfl
  | cons s r ih => intro a; simp only [laidP, List.map_cons, ih]; rfl
theorem base_long (all : List (List UInt8 × Int)) (l : List StmP) : (l.map (longP all)).map baseS = l.map baseS := by
  rw [List.map_map]
  apply List.map_congr_left
  intro s _
  show baseS (longP all s) = baseS s
  unfold longP
  split <;> rfl
theorem base_at {l : List StmP} {js : List JmpP} (h : l.map baseS = stms 0 js) {i : Nat} {s : StmP} (hs : l[i]? = some s) : ∃ j, js[i]? = some j ∧ baseS s = stmJ i j := by
  have h1 : (stms 0 js)[i]? = some (baseS s) := by rw [← h, List.getElem?_map, hs]; rfl
  have : ∀ (js : List JmpP) (k i : Nat) (x : StmP), (stms k js)[i]? = some x → ∃ j, js[i]? = some j ∧ x = stmJ (k + i) j := by
    intro js
    induction js with
    | nil => intro k i x h; simp [stms] at h
    | cons j r ih =>
      intro k i x h
      cases i with
      | zero => simp only [stms, List.getElem?_cons_zero, Option.some.injEq] at h; exact ⟨j, rfl, h.symm⟩
      | succ i =>
        simp only [stms, List.getElem?_cons_succ] at h
        obtain ⟨j', h1, h2⟩ := ih (k + 1) i x h
        exact ⟨j', by simpa using h1, by rw [h2]; congr 1; omega⟩
  obtain ⟨j, h2, h3⟩ := this js 0 i _ h1
  exact ⟨j, h2, by rw [h3, Nat.zero_add]⟩
theorem base_fields {s : StmP} {i : Nat} {j : JmpP} (h : baseS s = stmJ i j) : s.w = shW i j ∧ s.txt = shLn i j ∧ s.frm = i + 1 ∧ s.o = opnJ j ∧ s.added = addJ j ∧ s.count = cntJ j :=
  ⟨congrArg StmP.w h, congrArg StmP.txt h, congrArg StmP.frm h, congrArg StmP.o h, congrArg StmP.added h, congrArg StmP.count h⟩
theorem base_size {s : StmP} {i n : Nat} {j : JmpP} (hj : OkJ n j) (h : baseS s = stmJ i j) : sizeP s ≤ 60 ∧ ¬ s.o.kind = 6 ∧ (j.kind < 6 → sizeP s = if s.long then 3 else 2) := by
  obtain ⟨hw, _, _, ho, _, hc⟩ := base_fields h
  unfold sizeP
  rw [ho, hc]
  have hr := hj.room
  cases kindJ j with
  | jmp _ _ _ h1 _ h2 => rw [h1]; exact ⟨by simp; split <;> omega, by simp, by simp⟩
  | jz _ _ _ h1 _ h2 => rw [h1]; exact ⟨by simp; split <;> omega, by simp, by simp⟩
  | space hk _ _ h1 _ h2 => rw [h1, h2]; exact ⟨by simp; omega, by simp, fun h => by omega⟩
  | nop hk _ _ h1 _ h2 => rw [h1]; exact ⟨by simp, by simp, fun h => by omega⟩

/-- Addresses by sizes; each long jump had a reason to be so, and has it still. -/
structure Laid (js : List JmpP) (l : List StmP) : Prop where
  base : l.map baseS = stms 0 js
  addr : ∀ (i : Nat) s, l[i]? = some s → s.at_ = ((offs l i : Nat) : Int)
  why : ∀ (i : Nat) s j, l[i]? = some s → js[i]? = some j → s.long = true → j.kind < 6 ∧ (i < j.to → offs l (i + 1) + 127 < offs l j.to) ∧ (j.to ≤ i → offs l j.to + 126 < offs l i)
theorem Laid.len {js : List JmpP} {l : List StmP} (h : l.map baseS = stms 0 js) : l.length = js.length := by
  have := congrArg List.length h
  rwa [List.length_map, stms_len] at this
theorem base_noAl {js : List JmpP} {l : List StmP} (h : l.map baseS = stms 0 js) (hj : ∀ j ∈ js, OkJ js.length j) : NoAl l := by
  intro s hs
  obtain ⟨i, hi⟩ := List.mem_iff_getElem?.1 hs
  obtain ⟨j, h1, h2⟩ := base_at h hi
  exact (base_size (hj j (List.mem_of_getElem? h1)) h2).2.1
theorem base_offs {js : List JmpP} {l : List StmP} (h : l.map baseS = stms 0 js) (hj : ∀ j ∈ js, OkJ js.length j) : ∀ i, offs l i ≤ 60 * i
  | 0 => by simp [offs]
  | i + 1 => by
    have ih := base_offs h hj i
    cases hl : l[i]? with
    | none => rw [offs_past hl]; omega
    | some s =>
      obtain ⟨j, h1, h2⟩ := base_at h hl
      have := (base_size (hj j (List.mem_of_getElem? h1)) h2).1
      rw [offs_succ hl]; omega
theorem Laid.start (js : List JmpP) (hj : ∀ j ∈ js, OkJ js.length j) : Laid js (laidP (stms 0 js) 0) := by
  have hb : (laidP (stms 0 js) 0).map baseS = stms 0 js := by rw [base_laid, stms_base]
  have hna := base_noAl (stms_base js 0) hj
  refine ⟨hb, fun i s hs => ?_, fun i s j hs _ hlong => ?_⟩
  · obtain ⟨h1, h2, _⟩ := laid_off (stms 0 js) hna 0 i
    rw [h1 s hs, h2, Nat.zero_add]
  · exfalso
    have : ∀ (l : List StmP) (a i : Nat) (s : StmP), (∀ x ∈ l, x.long = false) → (laidP l a)[i]? = some s → s.long = false := by
      intro l
      induction l with
      | nil => intro a i s _ h; simp [laidP] at h
      | cons x r ih =>
        intro a i s h hs
        cases i with
        | zero => simp only [laidP, List.getElem?_cons_zero, Option.some.injEq] at hs; subst hs; exact h x (by simp)
        | succ i => simp only [laidP, List.getElem?_cons_succ] at hs; exact ih _ i s (fun y hy => h y (by simp [hy])) hs
    have h2 := this (stms 0 js) 0 i s (fun x hx => by
      obtain ⟨i, hi⟩ := List.mem_iff_getElem?.1 hx
      have h3 := congrArg (·[i]?) (stms_base js 0)
      simp only [List.getElem?_map, hi, Option.map_some, Option.some.injEq] at h3
      rw [← h3]; rfl) hs
    rw [h2] at hlong
    cases hlong
/-- Where a jump goes to. -/
theorem Laid.goal {js : List JmpP} {l : List StmP} (h : Laid js l) (hn : js.length ≤ 90) (hj : ∀ j ∈ js, OkJ js.length j) {j : JmpP} (hjj : j ∈ js) (a : Int) : value a (namesP l) (pN j.to) = (((offs l j.to : Nat) : Int), 0) := by
  have hto := (hj j hjj).to
  have hlen := Laid.len h.base
  obtain ⟨h1, _⟩ := base_names (k := 0) h.base (by omega)
  have hx : l[j.to]? = some l[j.to] := List.getElem?_eq_getElem (by omega)
  have h2 := h1 j.to _ hx
  rw [Nat.zero_add, h.addr j.to _ hx] at h2
  have := base_offs h.base hj j.to
  exact value_name (by omega) h2 (by omega) (by omega) a
theorem exprs_jump {s : StmP} {i : Nat} {j : JmpP} (h : baseS s = stmJ i j) (hk : j.kind < 6) : s.exprs = [pN j.to] ∧ s.o.kind = 3 ∧ s.o.width = 2 := by
  obtain ⟨hw, _, _, ho, _⟩ := base_fields h
  unfold StmP.exprs
  rw [hw, ho]
  show (opsJ j).drop (opnJ j).regs = _ ∧ _
  cases kindJ j with
  | jmp _ _ h1 h2 => rw [h1, h2]; exact ⟨rfl, rfl, rfl⟩
  | jz _ _ h1 h2 => rw [h1, h2]; exact ⟨rfl, rfl, rfl⟩
  | space hh => omega
  | nop hh => omega
theorem Laid.grows {js : List JmpP} {l : List StmP} (h : Laid js l) (hn : js.length ≤ 90) (hj : ∀ j ∈ js, OkJ js.length j) {i : Nat} {s : StmP} {j : JmpP} (hs : l[i]? = some s) (hji : js[i]? = some j) (hb : baseS s = stmJ i j) (hk : j.kind < 6) :
    growsP (namesP l) s = (!s.long && (decide (((offs l j.to : Nat) : Int) - ((offs l i : Nat) + 2) < -128) || decide (127 < ((offs l j.to : Nat) : Int) - ((offs l i : Nat) + 2)))) ∧ farP (namesP l) s = ((offs l j.to : Nat) : Int) - ((offs l i : Nat) + 2) := by
  obtain ⟨e1, e2, _⟩ := exprs_jump hb hk
  have hg := h.goal hn hj (List.mem_of_getElem? hji) s.at_
  have hf : farP (namesP l) s = ((offs l j.to : Nat) : Int) - ((offs l i : Nat) + 2) := by
    unfold farP
    rw [e1]
    show (value s.at_ (namesP l) (pN j.to)).1 - _ = _
    rw [hg, h.addr i s hs]
  refine ⟨?_, hf⟩
  unfold growsP
  rw [hf, e1]
  show (decide (s.o.kind = 3) && !s.long && decide ((value s.at_ (namesP l) (pN j.to)).2 = 0) && _) = _
  rw [hg, e2]
  simp
theorem grows_jump {all : List (List UInt8 × Int)} {s : StmP} {i : Nat} {j : JmpP} (hb : baseS s = stmJ i j) (h : growsP all s = true) : j.kind < 6 := by
  unfold growsP at h
  simp only [Bool.and_eq_true, decide_eq_true_eq] at h
  have h1 := h.1.1.1
  rw [(base_fields hb).2.2.2.1] at h1
  cases kindJ j with
  | jmp hh => omega
  | jz hh => omega
  | space hh _ _ ho => rw [ho] at h1; simp at h1
  | nop hh _ _ ho => rw [ho] at h1; simp at h1
theorem Laid.next {js : List JmpP} {l : List StmP} (h : Laid js l) (hn : js.length ≤ 90) (hj : ∀ j ∈ js, OkJ js.length j) : Laid js (laidP (l.map (longP (namesP l))) 0) := by
  obtain ⟨m, hm⟩ : ∃ m, l.map (longP (namesP l)) = m := ⟨_, rfl⟩
  have hmb : m.map baseS = stms 0 js := by rw [← hm, base_long]; exact h.base
  have hna := base_noAl hmb hj
  have hat : ∀ (i : Nat), m[i]? = (l[i]?).map (longP (namesP l)) := fun i => by rw [← hm, List.getElem?_map]
  rw [hm]
  have hoff : ∀ i, offs (laidP m 0) i = offs m i := fun i => (laid_off m hna 0 i).2.1
  have hlong : ∀ (i : Nat) s, (laidP m 0)[i]? = some s → ∃ t, m[i]? = some t ∧ t.long = s.long := by
    have : ∀ (m : List StmP) (a i : Nat) (s : StmP), (laidP m a)[i]? = some s → ∃ t, m[i]? = some t ∧ t.long = s.long := by
      intro m
      induction m with
      | nil => intro a i s h; simp [laidP] at h
      | cons x r ih =>
        intro a i s hs
        cases i with
        | zero => simp only [laidP, List.getElem?_cons_zero, Option.some.injEq] at hs; subst hs; exact ⟨x, rfl, rfl⟩
        | succ i => simp only [laidP, List.getElem?_cons_succ] at hs ⊢; exact ih _ i s hs
    exact this m 0
  have hgrow : ∀ (i : Nat) s, l[i]? = some s → ∃ t, m[i]? = some t ∧ sizeP s ≤ sizeP t := by
    intro i s hs
    refine ⟨longP (namesP l) s, by rw [hat, hs]; rfl, ?_⟩
    unfold longP
    split
    · rename_i hg
      have h3 : s.o.kind = 3 := by unfold growsP at hg; simp only [Bool.and_eq_true, decide_eq_true_eq] at hg; exact hg.1.1.1
      unfold sizeP
      simp [h3]
      split <;> omega
    · exact Nat.le_refl _
  refine ⟨by rw [base_laid]; exact hmb, fun i s hs => ?_, fun i s j hs hji hl => ?_⟩
  · rw [(laid_off m hna 0 i).1 s hs, hoff, Nat.zero_add]
  · rw [hoff, hoff, hoff]
    obtain ⟨t, ht, htl⟩ := hlong i s hs
    rw [hl] at htl
    rw [hat] at ht
    cases hx : l[i]? with
    | none => rw [hx] at ht; cases ht
    | some x =>
      rw [hx] at ht
      simp only [Option.map_some, Option.some.injEq] at ht
      obtain ⟨j', hj1, hj2⟩ := base_at h.base hx
      have hjj : j' = j := by rw [hji] at hj1; simpa using hj1.symm
      subst hjj
      have key : j'.kind < 6 ∧ (i < j'.to → offs l (i + 1) + 127 < offs l j'.to) ∧ (j'.to ≤ i → offs l j'.to + 126 < offs l i) := by
        by_cases hxl : x.long = true
        · exact h.why i x j' hx hji hxl
        · have hg : growsP (namesP l) x = true := by
            cases hg : growsP (namesP l) x with
            | true => rfl
            | false => unfold longP at ht; rw [hg] at ht; simp at ht; rw [ht] at hxl; exact absurd htl hxl
          have hk := grows_jump hj2 hg
          obtain ⟨h1, _⟩ := h.grows hn hj hx hji hj2 hk
          rw [hg] at h1
          have h2 := h1.symm
          simp only [Bool.and_eq_true, Bool.or_eq_true, decide_eq_true_eq] at h2
          have hsz := (base_size (hj j' (List.mem_of_getElem? hji)) hj2).2.2 hk
          have hxf : x.long = false := by simpa using hxl
          rw [hxf] at hsz
          have hsu := offs_succ hx
          refine ⟨hk, fun hlt => ?_, fun hle => ?_⟩
          · have := offs_mono l (i + 1) (j'.to - (i + 1))
            rw [show i + 1 + (j'.to - (i + 1)) = j'.to from by omega] at this
            simp at hsz
            omega
          · have := offs_mono l j'.to (i - j'.to)
            rw [show j'.to + (i - j'.to) = i from by omega] at this
            omega
      refine ⟨key.1, fun hlt => ?_, fun hle => ?_⟩
      · have h1 := key.2.1 hlt
        have h2 := offs_grow hgrow (i + 1) (j'.to - (i + 1))
        rw [show i + 1 + (j'.to - (i + 1)) = j'.to from by omega] at h2
        omega
      · have h1 := key.2.2 hle
        have h2 := offs_grow hgrow j'.to (i - j'.to)
        rw [show j'.to + (i - j'.to) = i from by omega] at h2
        omega
theorem Laid.find {js : List JmpP} (hn : js.length ≤ 90) (hj : ∀ j ∈ js, OkJ js.length j) : ∀ (n : Nat) (l : List StmP), Laid js l → Laid js (findP n l)
  | 0, l, h => h
  | n + 1, l, h => by
    simp only [findP]
    split
    · exact Laid.find hn hj n _ (h.next hn hj)
    · exact h
theorem Laid.placed (js : List JmpP) (hn : js.length ≤ 90) (hj : ∀ j ∈ js, OkJ js.length j) : Laid js (placedP (stms 0 js)) := Laid.find hn hj _ _ (Laid.start js hj)

/-! The bytes. -/
theorem Laid.bytes {js : List JmpP} {l : List StmP} (h : Laid js l) (hn : js.length ≤ 90) (hj : ∀ j ∈ js, OkJ js.length j) (hend : offs l l.length ≤ 1000) {i : Nat} {s : StmP} {j : JmpP} (hs : l[i]? = some s) (hji : js[i]? = some j) :
    (bytesP (namesP l) s).1 = 0 ∧ (bytesP (namesP l) s).2.length = sizeP s ∧
    (j.kind < 6 → (bytesP (namesP l) s).2 = if s.long then [byteP ((opnJ j).long + addJ j : Nat), byteP (offs l j.to : Nat), byteP ((offs l j.to : Nat) / 256 : Int)] else [byteP ((opnJ j).code + addJ j : Nat), byteP (((offs l j.to : Nat) : Int) - ((offs l i : Nat) + 2))]) := by
  obtain ⟨j', hj1, hb⟩ := base_at h.base hs
  have hjj : j' = j := by rw [hji] at hj1; simpa using hj1.symm
  subst hjj
  obtain ⟨hw, _, _, ho, ha, hc⟩ := base_fields hb
  by_cases hk : j'.kind < 6
  · obtain ⟨e1, e2, e3⟩ := exprs_jump hb hk
    obtain ⟨_, hf⟩ := h.grows hn hj hs hji hb hk
    have hg := h.goal hn hj (List.mem_of_getElem? hji) s.at_
    have hsz := (base_size (hj j' (List.mem_of_getElem? hji)) hb).2.2 hk
    have hto : offs l j'.to ≤ 1000 := by
      have h1 := (hj j' (List.mem_of_getElem? hji)).to
      have h2 := Laid.len h.base
      have h3 := offs_mono l j'.to (l.length - j'.to)
      rw [show j'.to + (l.length - j'.to) = l.length from by omega] at h3
      omega
    have hx : exprsP (namesP l) s.at_ 2 [pN j'.to] = (0, [byteP (offs l j'.to : Nat), byteP ((offs l j'.to : Nat) / 256 : Int)]) := by
      simp only [exprsP, hg]
      have hnum : numP 2 ((offs l j'.to : Nat) : Int) = (0, [byteP (offs l j'.to : Nat), byteP ((offs l j'.to : Nat) / 256 : Int)]) := by
        unfold numP
        rw [if_neg (by simp), if_neg (by omega)]
      rw [hnum]
      simp
    unfold bytesP
    rw [hsz, e1, e3, hx, hf, e2, if_neg (by simp), if_pos rfl]
    cases hl : s.long with
    | true =>
      rw [if_pos rfl, if_pos rfl, ho, ha]
      exact ⟨rfl, rfl, fun _ => rfl⟩
    | false =>
      rw [if_neg (by simp), if_neg (show ¬ (value s.at_ (namesP l) ([pN j'.to].headD [])).2 ≠ 0 by rw [show ([pN j'.to] : List (List UInt8)).headD [] = pN j'.to from rfl, hg]; simp), ho, ha]
      exact ⟨rfl, rfl, fun _ => rfl⟩
  · refine ⟨?_, ?_, fun h => absurd h hk⟩
    all_goals
      unfold bytesP sizeP StmP.exprs
      rw [ho, hc, hw]
      cases kindJ j' with
      | jmp hh => omega
      | jz hh => omega
      | space hh h0 h1 h2 _ h3 => rw [h2]; simp
      | nop hh h0 h1 h2 _ h3 =>
        rw [h2]
        show _ = _
        simp only [shW, h1]
        simp [exprsP, behind]
theorem allBytes_ok {all : List (List UInt8 × Int)} : ∀ {l : List StmP}, (∀ s ∈ l, (bytesP all s).1 = 0) → allBytes all l = (0, 0, l.flatMap fun s => (bytesP all s).2)
  | [], _ => rfl
  | s :: r, h => by
    simp only [allBytes]
    rw [if_neg (by simp [h s (by simp)]), allBytes_ok (fun x hx => h x (by simp [hx])), if_neg (by simp)]
    simp
/-- What is made of such a text. -/
theorem short_plain (js : List JmpP) (hn : js.length ≤ 90) (hj : ∀ j ∈ js, OkJ js.length j) (hl : (textL (shLns 0 js)).length ≤ 3000) :
    ∃ l, Laid js l ∧ l.any (growsP (namesP l)) = false ∧ assembleP (textL (shLns 0 js)) = if 1000 < offs l l.length then (8, 0, noProg) else (0, 0, ⟨l.flatMap fun s => (bytesP (namesP l) s).2, l⟩) := by
  have hp := Laid.placed js hn hj
  refine ⟨placedP (stms 0 js), hp, placed_done _, ?_⟩
  have hla := look_all js.length hn js [] (by simpa using hn) hj
  simp only [List.length_nil, List.nil_append, Nat.zero_add] at hla
  have hst : (stms 0 ([] : List JmpP)) = [] := rfl
  rw [hst] at hla
  unfold assembleP
  rw [sh_expand js hn hj hl]
  simp only [ne_eq, not_true_eq_false, if_false]
  rw [hla]
  simp only [not_true_eq_false, if_false]
  unfold makeP
  have hend : endP (placedP (stms 0 js)) 0 = offs (placedP (stms 0 js)) (placedP (stms 0 js)).length := by
    have := (laid_off _ (base_noAl hp.base hj) 0 0).2.2
    rw [this, Nat.zero_add]
  rw [hend]
  split
  · rfl
  · rename_i h1
    have hab := allBytes_ok (all := namesP (placedP (stms 0 js))) (l := placedP (stms 0 js)) (fun s hs => by
      obtain ⟨i, hi⟩ := List.mem_iff_getElem?.1 hs
      obtain ⟨j, h2, _⟩ := base_at hp.base hi
      exact (hp.bytes hn hj (by omega) hi h2).1)
    rw [hab, if_neg (by simp)]
end Go.Proofs.YtcepppilgncdmaaGreatDoor
