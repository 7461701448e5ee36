/-
  A text of conditions, line by line: the plain side of Chosen. Nothing of the program stands here.
  P7, in plain words: a program of jumps to any places, and of room between. Nothing of the program stands here.
-/
import Derived.Test.YtcepppilgncdmaaGreatDoorBS02
import Derived.Test.YtcepppilgncdmaaGreatDoorBS03
namespace Go.Proofs.YtcepppilgncdmaaGreatDoor

/-- A text of whole lines. -/
def textL (ls : List (List UInt8)) : List UInt8 := ls.flatMap (· ++ [10])

theorem textL_append (a b : List (List UInt8)) : textL (a ++ b) = textL a ++ textL b := by simp [textL]
theorem textL_one (a : List UInt8) : textL [a] = a ++ [10] := by simp [textL]

theorem okLine_no {a : List UInt8} (h : okLine a = true) : ∀ c ∈ a, ¬ (c.toNat : Int) = 10 := by
  intro c hc hx
  unfold okLine at h
  rw [Bool.and_eq_true] at h
  have := List.all_eq_true.1 h.2 c hc
  unfold okByte at this
  simp at this
  omega
theorem splitB_line (r : List UInt8) : ∀ a : List UInt8, (∀ c ∈ a, ¬ (c.toNat : Int) = 10) → splitB 10 (a ++ 10 :: r) = a :: splitB 10 r
  | [], _ => by
    show splitB 10 (10 :: r) = _
    simp only [splitB]
    rw [if_pos (by decide)]
  | c :: a, h => by
    have ih := splitB_line r a fun x hx => h x (List.mem_cons_of_mem _ hx)
    show splitB 10 (c :: (a ++ 10 :: r)) = _
    simp only [splitB]
    rw [if_neg (h c List.mem_cons_self), ih]
theorem splitB_textL (r : List UInt8) : ∀ ls : List (List UInt8), (∀ l ∈ ls, okLine l = true) → splitB 10 (textL ls ++ r) = ls ++ splitB 10 r
  | [], _ => by simp [textL]
  | a :: ls, h => by
    have ih := splitB_textL r ls fun x hx => h x (List.mem_cons_of_mem _ hx)
    have := splitB_line (textL ls ++ r) a (okLine_no (h a List.mem_cons_self))
    rw [ih] at this
    rw [← List.singleton_append, textL_append, textL_one]
    simpa using this
theorem splitB_alone : ∀ a : List UInt8, (∀ c ∈ a, ¬ (c.toNat : Int) = 10) → splitB 10 a = [a]
  | [], _ => by simp [splitB]
  | c :: a, h => by
    simp only [splitB]
    rw [if_neg (h c List.mem_cons_self), splitB_alone a fun x hx => h x (List.mem_cons_of_mem _ hx)]
theorem badLine_zero : ∀ (ls : List (List UInt8)) (k : Nat), (∀ l ∈ ls, okLine l = true) → badLine ls k = 0
  | [], _, _ => by simp [badLine]
  | a :: ls, k, h => by
    unfold badLine
    rw [if_pos (h a List.mem_cons_self)]
    exact badLine_zero ls (k + 1) fun x hx => h x (List.mem_cons_of_mem _ hx)

/-- What Expand answers of whole lines and a last one, when the block of them says no error. -/
theorem expandP_lines (ls : List (List UInt8)) (a : List UInt8) (at_ : Nat) (st : StP) (hl : ∀ l ∈ ls, okLine l = true) (ha : okLine a = true) (hs : (textL ls ++ a).length ≤ 3000)
    (h : blockP (callN 8) none 1 (ls ++ [a]) 0 [] none noSt = (0, at_, st)) : expandP (textL ls ++ a) = (0, 0, st.out) := by
  have e1 : splitB 10 (textL ls ++ a) = ls ++ [a] := by rw [splitB_textL _ _ hl, splitB_alone a (okLine_no ha)]
  have e2 : badLine (ls ++ [a]) 1 = 0 := badLine_zero _ _ fun l h => by
    rcases List.mem_append.1 h with h | h
    · exact hl l h
    · rw [List.mem_singleton.1 h]; exact ha
  unfold expandP
  rw [if_neg (by omega), e1, e2, if_neg (by decide), h]
  simp

theorem cutL_again : ∀ l : List UInt8, cutL (cutL l) = cutL l
  | [] => rfl
  | c :: r => by
    simp only [cutL]
    by_cases h : (c.toNat : Int) = 59
    · rw [if_pos h]; rfl
    · rw [if_neg h]; simp only [cutL]; rw [if_neg h, cutL_again r]

/-- One line of a block, where no macro is being defined. -/
theorem block_one {call : MacP → WordsP → Nat → StP → Int × StP} {l : List UInt8} {k : Nat} {o o' : List OpenP} {d : Option MacP} {st st' : StP} (W : WordsP) (hw : wordsP (cutL l) = W)
    (hp : overP o = true → passP W o st = (0, o') ∧ st' = st ∧ d = none) (hl : overP o = false → lineP call false W (k + 1) o st = (0, o', d, st')) (rest : List (List UInt8)) :
    blockP call none 1 (l :: rest) k o none st = blockP call none 1 rest (k + 1) o' d st' := by
  subst hw
  have e : readP none false (cutL l) = (0, wordsP (cutL l)) := by
    show (0, wordsP (cutL (cutL l))) = _
    rw [cutL_again]
  rw [blockP]
  cases hx : overP o with
  | true => obtain ⟨h1, rfl, rfl⟩ := hp hx; rw [if_pos rfl, h1]; rfl
  | false =>
    have h1 := hl hx
    rw [if_neg (by simp), e]
    simp only [ne_eq, not_true_eq_false, if_false, Option.isSome_none]
    rw [h1]
    rfl

/-- The conditions that are open, innermost first, against: is it so now, and has it turned? -/
def SoP : List OpenP → List (Bool × Bool) → Prop
  | [], [] => True
  | o :: r, p :: q => o.els = p.2 ∧ o.over = overP r ∧ (o.over = false → o.yes = p.1) ∧ SoP r q
  | _, _ => False
theorem SoP.so : ∀ {o : List OpenP} {q : List (Bool × Bool)}, SoP o q → overP o = !(q.all (·.1))
  | [], [], _ => rfl
  | [], _ :: _, h => h.elim
  | _ :: _, [], h => h.elim
  | o :: r, p :: q, h => by
    obtain ⟨_, h2, h3, h4⟩ := h
    have ih := h4.so
    show passOf o = _
    unfold passOf
    rw [List.all_cons, h2, ih]
    cases hq : q.all (·.1) with
    | false => simp
    | true =>
      rw [ih, hq] at h2
      rw [h3 h2]
      simp
theorem SoP.len : ∀ {o : List OpenP} {q : List (Bool × Bool)}, SoP o q → o.length = q.length
  | [], [], _ => rfl
  | [], _ :: _, h => h.elim
  | _ :: _, [], h => h.elim
  | o :: r, p :: q, h => by simp [h.2.2.2.len]

def yesB : List UInt8 := [121, 101, 115]
def nopB : List UInt8 := [110, 111, 112]
def setLn : List UInt8 := [46, 115, 101, 116, 32, 121, 101, 115, 44, 49]
def exprOf (c : Nat) : List UInt8 := if c = 0 then yesB else if c = 1 then [121, 101, 115, 45, 49] else [50]
def endifB : List UInt8 := [46, 101, 110, 100, 105, 102, 32, 59, 32, 98, 101, 104, 105, 110, 100]
/-- What is known at a place of the text: the names, and the lines that are left. -/
def chSt (fs : List Nat) : StP := ⟨[], [(yesB, 1)], (setLn, 1) :: fs.map (nopB, ·), 0⟩

/-- Behind these lines of the text, which conditions are open, and from where the lines come that are left. -/
def ChRun (ls : List (List UInt8)) (q : List (Bool × Bool)) (fs : List Nat) : Prop :=
  (∀ l ∈ ls, okLine l = true) ∧ ∃ o, SoP o q ∧ ∀ rest, blockP (callN 8) none 1 (ls ++ rest) 0 [] none noSt = blockP (callN 8) none 1 rest ls.length o none (chSt fs)

theorem ChRun.more {ls : List (List UInt8)} {q q' : List (Bool × Bool)} {fs fs' : List Nat} (h : ChRun ls q fs) (l : List UInt8) (W : WordsP) (hw : wordsP (cutL l) = W) (hl : okLine l = true)
    (hx : ∀ o, SoP o q → ∃ o', SoP o' q' ∧ (overP o = true → passP W o (chSt fs) = (0, o') ∧ chSt fs' = chSt fs) ∧ (overP o = false → lineP (callN 8) false W (ls.length + 1) o (chSt fs) = (0, o', none, chSt fs'))) : ChRun (ls ++ [l]) q' fs' := by
  obtain ⟨h1, o, h2, h3⟩ := h
  obtain ⟨o', h4, h5, h6⟩ := hx o h2
  refine ⟨fun x hx => ?_, o', h4, fun rest => ?_⟩
  · rcases List.mem_append.1 hx with h | h
    · exact h1 x h
    · rw [List.mem_singleton.1 h]; exact hl
  · rw [List.append_assoc, h3, List.singleton_append, block_one W hw (fun h => ⟨(h5 h).1, (h5 h).2, rfl⟩) h6 rest, List.length_append]
    rfl

theorem ChRun.start : ChRun [setLn] [] [] := by
  refine ⟨by decide +kernel, [], trivial, fun rest => ?_⟩
  rw [List.singleton_append, block_one (o' := []) (d := none) (st' := chSt []) ⟨[], opSet, [yesB, [49]]⟩ (by kernel_rfl) (by intro h; cases h) (fun _ => by kernel_rfl) rest]
  rfl

def ifLn (c : Nat) : List UInt8 := [46, 105, 102, 32] ++ exprOf c

theorem ChRun.ifs {ls : List (List UInt8)} {q : List (Bool × Bool)} {fs : List Nat} (h : ChRun ls q fs) (c : Nat) (hc : c < 3) (hq : q.length < 8) : ChRun (ls ++ [ifLn c]) ((decide (c ≠ 1), false) :: q) fs := by
  refine h.more _ ⟨[], opIf, [exprOf c]⟩ ?_ ?_ fun o ho => ⟨⟨decide (c ≠ 1) && !overP o, false, overP o⟩ :: o, ⟨rfl, rfl, fun h => ?_, ho⟩, fun h => ⟨?_, rfl⟩, fun h => ?_⟩
  · match c, hc with
    | 0, _ => rfl
    | 1, _ => rfl
    | 2, _ => rfl
  · match c, hc with
    | 0, _ => rfl
    | 1, _ => rfl
    | 2, _ => rfl
  · simp only at h; simp [h]
  · unfold passP ifP
    rw [if_pos rfl, if_neg (by rw [ho.len]; omega), if_pos h, h]
    simp
  · unfold lineP ifP
    simp only [if_true]
    rw [if_neg (by rw [ho.len]; omega), h, if_neg (by simp), if_neg (by simp)]
    have hv : value 0 (chSt fs).names ((⟨[], opIf, [exprOf c]⟩ : WordsP).operands.headD []) = ((if c = 1 then 0 else if c = 0 then 1 else 2 : Int), (0 : Int)) := by
      show value 0 [(yesB, 1)] (exprOf c) = _
      match c, hc with
      | 0, _ => rfl
      | 1, _ => rfl
      | 2, _ => rfl
    rw [hv]
    match c, hc with
    | 0, _ => simp
    | 1, _ => simp
    | 2, _ => simp

theorem ChRun.turn {ls : List (List UInt8)} {b : Bool} {q : List (Bool × Bool)} {fs : List Nat} (h : ChRun ls ((b, false) :: q) fs) : ChRun (ls ++ [opElse]) ((!b, true) :: q) fs := by
  refine h.more _ ⟨[], opElse, []⟩ (by kernel_rfl) (by kernel_rfl) fun o ho => ?_
  match o, ho with
  | ⟨y, e, ov⟩ :: r, ⟨h1, h2, h3, h4⟩ =>
    simp only at h1 h2 h3
    subst h1
    have he : elseP ⟨[], opElse, []⟩ (⟨y, false, ov⟩ :: r) = (0, ⟨!y, true, ov⟩ :: r) := by simp [elseP, bareW]
    exact ⟨⟨!y, true, ov⟩ :: r, ⟨rfl, h2, fun h => by rw [h3 h], h4⟩, fun _ => ⟨by unfold passP; rw [if_neg (show ¬ (⟨[], opElse, []⟩ : WordsP).op = opIf by decide), if_pos rfl, he], rfl⟩,
      fun _ => by unfold lineP; rw [if_neg (show ¬ (⟨[], opElse, []⟩ : WordsP).op = opIf by decide), if_pos rfl, he]⟩
theorem ChRun.close {ls : List (List UInt8)} {p : Bool × Bool} {q : List (Bool × Bool)} {fs : List Nat} (h : ChRun ls (p :: q) fs) (l : List UInt8) (hw : wordsP (cutL l) = ⟨[], opEndif, []⟩) (hl : okLine l = true) : ChRun (ls ++ [l]) q fs := by
  refine h.more _ _ hw hl fun o ho => ?_
  match o, ho with
  | ⟨y, e, ov⟩ :: r, ⟨h1, h2, h3, h4⟩ =>
    have he : endifP ⟨[], opEndif, []⟩ (⟨y, e, ov⟩ :: r) = (0, r) := by simp [endifP, bareW]
    exact ⟨r, h4, fun _ => ⟨by unfold passP; rw [if_neg (show ¬ (⟨[], opEndif, []⟩ : WordsP).op = opIf by decide), if_neg (show ¬ (⟨[], opEndif, []⟩ : WordsP).op = opElse by decide), if_pos rfl, he], rfl⟩,
      fun _ => by unfold lineP; rw [if_neg (show ¬ (⟨[], opEndif, []⟩ : WordsP).op = opIf by decide), if_neg (show ¬ (⟨[], opEndif, []⟩ : WordsP).op = opElse by decide), if_pos rfl, he]⟩
theorem ChRun.ends {ls : List (List UInt8)} {p : Bool × Bool} {q : List (Bool × Bool)} {fs : List Nat} (h : ChRun ls (p :: q) fs) : ChRun (ls ++ [endifB]) q fs := h.close _ (by kernel_rfl) (by kernel_rfl)
theorem ChRun.shut {ls : List (List UInt8)} {p : Bool × Bool} {q : List (Bool × Bool)} {fs : List Nat} (h : ChRun ls (p :: q) fs) : ChRun (ls ++ [opEndif]) q fs := h.close _ (by kernel_rfl) (by kernel_rfl)

theorem ChRun.nop {ls : List (List UInt8)} {q : List (Bool × Bool)} {fs : List Nat} (h : ChRun ls q fs) (hf : fs.length < 200) : ChRun (ls ++ [nopB]) q (if q.all (·.1) then fs ++ [ls.length + 1] else fs) := by
  refine h.more _ ⟨[], nopB, []⟩ (by kernel_rfl) (by kernel_rfl) fun o ho => ⟨o, ho, fun h => ⟨by kernel_rfl, ?_⟩, fun h => ?_⟩
  · rw [ho.so] at h
    rw [if_neg (fun c => by rw [c] at h; cases h)]
  · rw [ho.so] at h
    rw [if_pos (by simpa using h)]
    have hv : leaveP ⟨[], nopB, []⟩ (ls.length + 1) (chSt fs) = (0, chSt (fs ++ [ls.length + 1])) := by
      unfold leaveP
      have : textP ⟨[], nopB, []⟩ = nopB := by kernel_rfl
      rw [this, if_neg (by decide), if_neg (by simp [chSt]; omega)]
      simp [chSt]
    unfold lineP
    rw [if_neg (show ¬ (⟨[], nopB, []⟩ : WordsP).op = opIf by decide), if_neg (show ¬ (⟨[], nopB, []⟩ : WordsP).op = opElse by decide), if_neg (show ¬ (⟨[], nopB, []⟩ : WordsP).op = opEndif by decide), if_neg (show ¬ (⟨[], nopB, []⟩ : WordsP).op = opMacro by decide), if_neg (show ¬ (⟨[], nopB, []⟩ : WordsP).op = opEnd by decide), if_neg (show ¬ (⟨[], nopB, []⟩ : WordsP).op = opSet by decide)]
    show ((leaveP _ _ (chSt fs)).1, o, none, (leaveP _ _ (chSt fs)).2) = _
    rw [hv]

theorem ChRun.done {ls : List (List UInt8)} {fs : List Nat} (h : ChRun ls [] fs) (hs : (textL ls).length ≤ 3000) : expandP (textL ls) = (0, 0, (setLn, 1) :: fs.map (nopB, ·)) := by
  obtain ⟨h1, o, h2, h3⟩ := h
  have := expandP_lines ls [] (ls.length + 1) (chSt fs) h1 (by decide) (by simpa using hs) (by
    rw [h3]
    match o, h2 with
    | [], _ => rfl)
  rw [List.append_nil] at this
  exact this

end Go.Proofs.YtcepppilgncdmaaGreatDoor

namespace Go.Proofs.YtcepppilgncdmaaGreatDoor

/-! Addresses, where there is no .align. -/
def offs (l : List StmP) (i : Nat) : Nat := ((l.take i).map sizeP).sum
theorem offs_zero (l : List StmP) : offs l 0 = 0 := by simp [offs]
theorem offs_cons (s : StmP) (r : List StmP) (i : Nat) : offs (s :: r) (i + 1) = sizeP s + offs r i := by simp [offs]
theorem offs_succ {l : List StmP} {i : Nat} {s : StmP} (h : l[i]? = some s) : offs l (i + 1) = offs l i + sizeP s := by
  unfold offs
  rw [List.take_add_one, h]
  simp
theorem offs_past {l : List StmP} {i : Nat} (h : l[i]? = none) : offs l (i + 1) = offs l i := by
  unfold offs
  rw [List.take_add_one, h]
  simp
def NoAl (l : List StmP) : Prop := ∀ s ∈ l, ¬ s.o.kind = 6
theorem size_at {s : StmP} (h : ¬ s.o.kind = 6) (a : Int) : sizeP { s with at_ := a } = sizeP s := by
  unfold sizeP StmP.exprs
  simp [h]
theorem laid_off (l : List StmP) : NoAl l → ∀ (a i : Nat), (∀ s, (laidP l a)[i]? = some s → s.at_ = ((a + offs l i : Nat) : Int)) ∧ offs (laidP l a) i = offs l i ∧ endP l a = a + offs l l.length := by
  induction l with
  | nil => intro _ a i; exact ⟨by simp [laidP], by simp [laidP], by simp [endP, offs]⟩
  | cons s r ih =>
    intro h a i
    have hs := size_at (h s (by simp)) (a : Int)
    have hr := ih (fun x hx => h x (by simp [hx])) (a + sizeP s)
    refine ⟨?_, ?_, ?_⟩
    · cases i with
      | zero => intro x hx; simp only [laidP, List.getElem?_cons_zero, Option.some.injEq] at hx; subst hx; simp [offs]
      | succ i =>
        intro x hx
        simp only [laidP, List.getElem?_cons_succ, hs] at hx
        rw [(hr i).1 x hx, offs_cons, Nat.add_assoc]
    · cases i with
      | zero => simp [offs]
      | succ i =>
        simp only [laidP, hs]
        rw [offs_cons, offs_cons, hs, (hr i).2.1]
    · simp only [endP, hs, List.length_cons]
      rw [(hr 0).2.2, offs_cons]; omega
/-- Where sizes only grow, all that lies between does. -/
theorem offs_grow {l m : List StmP} (h : ∀ (i : Nat) s, l[i]? = some s → ∃ t, m[i]? = some t ∧ sizeP s ≤ sizeP t) (a : Nat) : ∀ d, offs l (a + d) + offs m a ≤ offs m (a + d) + offs l a
  | 0 => by simp; omega
  | d + 1 => by
    have ih := offs_grow h a d
    cases hl : l[a + d]? with
    | none =>
      have h1 := offs_past hl
      cases hm : m[a + d]? with
      | none => have h2 := offs_past hm; rw [← Nat.add_assoc, h1, h2]; exact ih
      | some t => have h2 := offs_succ hm; rw [← Nat.add_assoc, h1, h2]; omega
    | some s =>
      obtain ⟨t, h3, h4⟩ := h _ _ hl
      have h1 := offs_succ hl
      have h2 := offs_succ h3
      rw [← Nat.add_assoc, h1, h2]; omega
theorem offs_mono (l : List StmP) (a : Nat) : ∀ d, offs l a ≤ offs l (a + d)
  | 0 => Nat.le_refl _
  | d + 1 => by
    have ih := offs_mono l a d
    cases hl : l[a + d]? with
    | none => rw [← Nat.add_assoc, offs_past hl]; exact ih
    | some s => rw [← Nat.add_assoc, offs_succ hl]; omega

/-- In the end no jump grows any more. -/
theorem find_done : ∀ (n : Nat) (l : List StmP), shorts l < n → (findP n l).any (growsP (namesP (findP n l))) = false
  | 0, l, h => by omega
  | n + 1, l, h => by
    simp only [findP]
    split
    · rename_i h1
      exact find_done n _ (by rw [shorts_laid]; have := shorts_less h1; omega)
    · rename_i h1; simpa using h1
theorem placed_done (l : List StmP) : (placedP l).any (growsP (namesP (placedP l))) = false :=
  find_done _ _ (by rw [shorts_laid]; have := shorts_le l; omega)

/-! The program of jumps. -/
structure JmpP where
  kind : Nat
  to : Nat
  reg : Nat
  room : Nat
def digN (n : Nat) : List UInt8 := digitsTo (n + 1) n []
def pN (i : Nat) : List UInt8 := 112 :: digN i
def rN (i : Nat) : List UInt8 := 114 :: digN i
def opJ (j : JmpP) : List UInt8 := if j.kind < 4 then oJmp else if j.kind < 6 then oJz else if j.kind < 9 then oSpace else oNop
def opsJ (j : JmpP) : List (List UInt8) := if j.kind < 4 then [pN j.to] else if j.kind < 6 then [rN j.reg, pN j.to] else if j.kind < 9 then [digN j.room] else []
def opnJ (j : JmpP) : OpnP := if j.kind < 4 then ⟨3, 0, 128, 129, 2⟩ else if j.kind < 6 then ⟨3, 1, 132, 136, 2⟩ else if j.kind < 9 then ⟨5, 0, 0, 0, 0⟩ else ⟨1, 0, 0, 0, 0⟩
def addJ (j : JmpP) : Nat := if j.kind < 4 then 0 else if j.kind < 6 then j.reg else 0
def cntJ (j : JmpP) : Nat := if j.kind < 6 then 0 else if j.kind < 9 then j.room else 0
def shW (i : Nat) (j : JmpP) : WordsP := ⟨pN i, opJ j, opsJ j⟩
def shLn (i : Nat) (j : JmpP) : List UInt8 := textP (shW i j)
def stmJ (i : Nat) (j : JmpP) : StmP := ⟨shW i j, shLn i j, i + 1, opnJ j, addJ j, cntJ j, 0, 0, false⟩
def shLns : Nat → List JmpP → List (List UInt8)
  | _, [] => []
  | k, j :: r => shLn k j :: shLns (k + 1) r
def stms : Nat → List JmpP → List StmP
  | _, [] => []
  | k, j :: r => stmJ k j :: stms (k + 1) r
structure OkJ (n : Nat) (j : JmpP) : Prop where
  kind : j.kind < 10
  to : j.to < n
  reg : j.reg < 4
  room : j.room < 60

theorem digN_fold (n : Nat) (h : n ≤ 1000000) : foldD 0 (digN n) = n := by
  unfold digN
  rw [digitsTo_fold (n + 1) n [] (by omega) h]
  rfl
theorem pN_inj {i k : Nat} (hi : i ≤ 1000000) (hk : k ≤ 1000000) (h : pN i = pN k) : i = k := by
  unfold pN at h
  injection h with _ h
  have h1 := digN_fold i hi
  rw [h, digN_fold k hk] at h1
  omega
theorem pN_name : ∀ i < 90, nameB (pN i) = true ∧ (pN i).length ≤ 3 := by decide +kernel
theorem digN_len : ∀ i < 60, (digN i).length ≤ 2 := by decide +kernel
theorem rN_reg : ∀ i < 4, regB (rN i) = true ∧ regV (rN i) = i ∧ (rN i).length = 2 := by decide +kernel
theorem digN_dig (i : Nat) : allDig (digN i) := digitsTo_all _ _ _ (fun c hc => by cases hc)
theorem digN_ne (i : Nat) : digN i ≠ [] := by
  obtain ⟨c, r, h⟩ := digitsTo_ne (i + 1) i [] (by omega)
  unfold digN; rw [h]; simp
theorem dig_ok {l : List UInt8} (h : allDig l) : noBl l ∧ noCm l ∧ ∀ c ∈ l, okC c := by
  refine ⟨fun c hc => ?_, fun c hc => ?_, fun c hc => ?_⟩
  · have := h c hc; omega
  · have := h c hc; omega
  · have := h c hc
    unfold okC okByte
    simp only [Bool.and_eq_true, decide_eq_true_eq]
    omega
theorem head_ok {l : List UInt8} (h : allDig l) (c : UInt8) (hc : (c.toNat : Int) = 112 ∨ (c.toNat : Int) = 114) : noBl (c :: l) ∧ noCm (c :: l) ∧ ∀ d ∈ c :: l, okC d := by
  obtain ⟨h1, h2, h3⟩ := dig_ok h
  refine ⟨fun d hd => ?_, fun d hd => ?_, fun d hd => ?_⟩
  · rcases List.mem_cons.1 hd with rfl | hd
    · omega
    · exact h1 d hd
  · rcases List.mem_cons.1 hd with rfl | hd
    · omega
    · exact h2 d hd
  · rcases List.mem_cons.1 hd with rfl | hd
    · unfold okC okByte
      simp only [Bool.and_eq_true, decide_eq_true_eq]
      omega
    · exact h3 d hd
theorem pN_ok (i : Nat) : noBl (pN i) ∧ noCm (pN i) ∧ ∀ d ∈ pN i, okC d := head_ok (digN_dig i) 112 (Or.inl rfl)
theorem rN_ok (i : Nat) : noBl (rN i) ∧ noCm (rN i) ∧ ∀ d ∈ rN i, okC d := head_ok (digN_dig i) 114 (Or.inr rfl)

/-- The four kinds. -/
inductive KindJ (j : JmpP) : Prop
  | jmp (h : j.kind < 4) (op : opJ j = oJmp) (ops : opsJ j = [pN j.to]) (o : opnJ j = ⟨3, 0, 128, 129, 2⟩) (a : addJ j = 0) (c : cntJ j = 0)
  | jz (h : 4 ≤ j.kind ∧ j.kind < 6) (op : opJ j = oJz) (ops : opsJ j = [rN j.reg, pN j.to]) (o : opnJ j = ⟨3, 1, 132, 136, 2⟩) (a : addJ j = j.reg) (c : cntJ j = 0)
  | space (h : 6 ≤ j.kind ∧ j.kind < 9) (op : opJ j = oSpace) (ops : opsJ j = [digN j.room]) (o : opnJ j = ⟨5, 0, 0, 0, 0⟩) (a : addJ j = 0) (c : cntJ j = j.room)
  | nop (h : 9 ≤ j.kind) (op : opJ j = oNop) (ops : opsJ j = []) (o : opnJ j = ⟨1, 0, 0, 0, 0⟩) (a : addJ j = 0) (c : cntJ j = 0)
theorem kindJ (j : JmpP) : KindJ j := by
  by_cases h1 : j.kind < 4
  · exact .jmp h1 (by simp [opJ, h1]) (by simp [opsJ, h1]) (by simp [opnJ, h1]) (by simp [addJ, h1]) (by simp [cntJ, show j.kind < 6 by omega])
  · by_cases h2 : j.kind < 6
    · exact .jz ⟨by omega, h2⟩ (by simp [opJ, h1, h2]) (by simp [opsJ, h1, h2]) (by simp [opnJ, h1, h2]) (by simp [addJ, h1, h2]) (by simp [cntJ, h2])
    · by_cases h3 : j.kind < 9
      · exact .space ⟨by omega, h3⟩ (by simp [opJ, h1, h2, h3]) (by simp [opsJ, h1, h2, h3]) (by simp [opnJ, h1, h2, h3]) (by simp [addJ, h1, h2]) (by simp [cntJ, h2, h3])
      · exact .nop (by omega) (by simp [opJ, h1, h2, h3]) (by simp [opsJ, h1, h2, h3]) (by simp [opnJ, h1, h2, h3]) (by simp [addJ, h1, h2]) (by simp [cntJ, h2, h3])
theorem opJ_cases (j : JmpP) : opJ j = oJmp ∨ opJ j = oJz ∨ opJ j = oSpace ∨ opJ j = oNop := by
  cases kindJ j with
  | jmp _ h => exact Or.inl h
  | jz _ h => exact Or.inr (Or.inl h)
  | space _ h => exact Or.inr (Or.inr (Or.inl h))
  | nop _ h => exact Or.inr (Or.inr (Or.inr h))
theorem opJ_facts (j : JmpP) : opJ j ≠ [] ∧ noBl (opJ j) ∧ (∀ c ∈ opJ j, okC c) ∧ ctlB (opJ j) = false ∧ opJ j ≠ opSet ∧ (opJ j).length ≤ 6 := by
  rcases opJ_cases j with h | h | h | h <;> rw [h] <;> (unfold noBl okC; decide)
theorem shW_src (n i : Nat) (j : JmpP) (hi : i < 90) (hn : n ≤ 90) (hj : OkJ n j) : SrcW (shW i j) := by
  obtain ⟨o1, o2, o3, o4, o5, o6⟩ := opJ_facts j
  obtain ⟨n1, n2⟩ := pN_name i hi
  obtain ⟨p1, p2, p3⟩ := pN_ok j.to
  obtain ⟨q1, q2, q3⟩ := rN_ok j.reg
  obtain ⟨d1, d2, d3⟩ := dig_ok (digN_dig j.room)
  have hto := (pN_name j.to (by have := hj.to; omega)).2
  have hrl := (rN_reg j.reg hj.reg).2.2
  have hdl := digN_len j.room hj.room
  have hops : (∀ o ∈ opsJ j, (noBl o ∧ noCm o) ∧ ∀ c ∈ o, okC c) ∧ opsJ j ≠ [[]] ∧ sumLen (opsJ j) ≤ 7 := by
    cases kindJ j with
    | jmp _ _ h => rw [h]; exact ⟨by simpa using ⟨⟨p1, p2⟩, p3⟩, by simp [pN], by simp [sumLen]; omega⟩
    | jz _ _ h => rw [h]; exact ⟨by simpa using ⟨⟨⟨q1, q2⟩, q3⟩, ⟨p1, p2⟩, p3⟩, by simp, by simp [sumLen]; omega⟩
    | space _ _ h => rw [h]; exact ⟨by simpa using ⟨⟨d1, d2⟩, d3⟩, by simp [digN_ne], by simp [sumLen]; omega⟩
    | nop _ _ h => rw [h]; exact ⟨by simp, by simp, by simp [sumLen]⟩
  refine ⟨⟨Or.inr n1, o2, (fun h => absurd h (by simp [shW, pN])), (fun h => absurd h o1), fun o ho => (hops.1 o ho).1, hops.2.1⟩, ⟨(pN_ok i).2.2, o3, fun o ho => (hops.1 o ho).2⟩, ?_⟩
  rw [textP_head, List.length_append, joined_len]
  show (headP (pN i) (opJ j)).length + sumLen (opsJ j) ≤ 80
  rw [headP_both (by simp [pN]) o1]
  omega
theorem shW_left (ns : List (List UInt8 × Int)) (n i : Nat) (j : JmpP) (hi : i < 90) (hn : n ≤ 90) (hj : OkJ n j) : LeftW ns (shW i j) := by
  obtain ⟨o1, _, _, o4, o5, _⟩ := opJ_facts j
  refine ⟨shW_src n i j hi hn hj, ?_, o4, fun h => absurd h o5⟩
  rw [textP_head]
  show headP (pN i) (opJ j) ++ _ ≠ []
  intro h
  have := congrArg List.length h
  rw [List.length_append, headP_both (by simp [pN]) o1] at this
  simp at this
theorem sh_chain (n : Nat) (hn : n ≤ 90) : ∀ (js : List JmpP) (k : Nat) (ns : List (List UInt8 × Int)), k + js.length ≤ 90 → (∀ j ∈ js, OkJ n j) → ChainN ns (numbered (k + 1) (shLns k js)) ∧ endN ns (numbered (k + 1) (shLns k js)) = ns
  | [], k, ns, _, _ => ⟨trivial, rfl⟩
  | j :: r, k, ns, hk, hj => by
    have hl := shW_left ns n k j (by simp at hk; omega) hn (hj j (by simp))
    have hr := reread hl.src.good
    have hx : nextN ns (shW k j) = ns := if_neg (opJ_facts j).2.2.2.2.1
    have ih := sh_chain n hn r (k + 1) ns (by simp at hk; omega) (fun x hx => hj x (by simp [hx]))
    simp only [shLns, numbered, ChainN, endN]
    unfold shLn
    rw [hr, hx]
    exact ⟨⟨hl, rfl, ih.1⟩, ih.2⟩

theorem block_front (call : MacP → WordsP → Nat → StP → Int × StP) (rest : List (List UInt8)) : ∀ (outs : List (List UInt8 × Nat)) (at_ : Nat) (st : StP), st.macros = [] → ChainN st.names outs → st.out.length + outs.length ≤ 300 →
    blockP call none 1 (outs.map (·.1) ++ rest) at_ [] none st = blockP call none 1 rest (at_ + outs.length) [] none { st with names := endN st.names outs, out := st.out ++ numbered (at_ + 1) (outs.map (·.1)) }
  | [], at_, st, hm, hc, hl => by simp [endN, numbered]
  | x :: r, at_, st, hm, hc, hl => by
    obtain ⟨h1, h2, h3⟩ := hc
    have hcut : cutL x.1 = x.1 := cut_same (by rw [← h2]; exact h1.src.ok.text)
    simp only [List.length_cons] at hl
    have h4 := line_again call (wordsP x.1) (at_ + 1) st hm h1 (by omega)
    rw [h2] at h4
    simp only [List.map_cons, List.cons_append, blockP, overP, readP, hcut]
    simp only [Option.isSome_none, h4]
    rw [if_neg (by simp), if_neg (by simp), if_neg (by simp)]
    rw [block_front call rest r (at_ + 1) { st with names := nextN st.names (wordsP x.1), out := st.out ++ [(x.1, at_ + 1)] } hm h3 (by simp; omega)]
    simp only [List.append_assoc, endN, numbered, List.length_cons, List.cons_append, List.nil_append]
    rw [show at_ + 1 + r.length = at_ + (r.length + 1) from by omega]
theorem shLns_len : ∀ (js : List JmpP) (k : Nat), (shLns k js).length = js.length
  | [], k => rfl
  | j :: r, k => by simp [shLns, shLns_len r]
theorem sh_expand (js : List JmpP) (hn : js.length ≤ 90) (hj : ∀ j ∈ js, OkJ js.length j) (hl : (textL (shLns 0 js)).length ≤ 3000) : expandP (textL (shLns 0 js)) = (0, 0, numbered 1 (shLns 0 js)) := by
  obtain ⟨hc, he⟩ := sh_chain js.length hn js 0 [] (by omega) hj
  have hall := chain_left hc
  have hf := numbered_fst (shLns 0 js) 1
  have hok : ∀ t ∈ shLns 0 js, okLine t = true := fun t ht => by
    rw [← hf] at ht
    obtain ⟨x, hx, rfl⟩ := List.mem_map.1 ht
    exact (hall x hx).1
  have hs : splitB 10 (textL (shLns 0 js)) = shLns 0 js ++ [[]] := by
    have := splitB_textL [] (shLns 0 js) hok
    rw [List.append_nil] at this
    rw [this]; rfl
  have hb : badLine (shLns 0 js ++ [[]]) 1 = 0 := badLine_zero _ _ (fun l hl => by
    rcases List.mem_append.1 hl with h | h
    · exact hok l h
    · rw [List.mem_singleton] at h; rw [h]; rfl)
  have h1 := block_front (callN 8) [[]] (numbered 1 (shLns 0 js)) 0 noSt rfl hc (by rw [numbered_len, shLns_len]; simp [noSt]; omega)
  rw [hf] at h1
  unfold expandP
  rw [if_neg (by omega), hs, hb, if_neg (by simp), h1]
  rfl

/-! Lines are looked at. -/
def baseS (s : StmP) : StmP := { s with at_ := 0, long := false }
theorem stms_len : ∀ (js : List JmpP) (k : Nat), (stms k js).length = js.length
  | [], k => rfl
  | j :: r, k => by simp [stms, stms_len r]
theorem base_names {l : List StmP} : ∀ {js : List JmpP} {k : Nat}, l.map baseS = stms k js → k + js.length ≤ 1000 → (∀ (i : Nat) s, l[i]? = some s → findN (namesP l) (pN (k + i)) = some s.at_) ∧ (∀ m, k + l.length ≤ m → m ≤ 1000 → findN (namesP l) (pN m) = none) ∧ setsP l = [] ∧ (∀ m, m < k → findN (namesP l) (pN m) = none) := by
  induction l with
  | nil => intro js k _ _; exact ⟨by simp, fun m _ _ => rfl, rfl, fun m _ => rfl⟩
  | cons s r ih =>
    intro js k h hk
    cases js with
    | nil => simp [stms] at h
    | cons j t =>
      simp only [List.map_cons, stms, List.cons.injEq] at h
      simp only [List.length_cons] at hk
      obtain ⟨h1, h2, h3, h4⟩ := ih h.2 (by omega)
      have hw : s.w = shW k j := congrArg StmP.w h.1
      have hnm : nameP s = [(pN k, s.at_)] := by
        unfold nameP
        rw [hw]
        exact (if_neg (opJ_facts j).2.2.2.2.1).trans (if_neg (show ¬ (shW k j).label = [] by simp [shW, pN]))
      have hns : namesP (s :: r) = (pN k, s.at_) :: namesP r := by
        show nameP s ++ namesP r = _
        rw [hnm]; rfl
      rw [hns]
      have hlen : r.length = t.length := by
        have := congrArg List.length h.2
        rw [List.length_map] at this
        rw [this, stms_len]
      refine ⟨fun i x hx => ?_, fun m hm hm2 => ?_, ?_, fun m hm => ?_⟩
      · cases i with
        | zero =>
          simp only [List.getElem?_cons_zero, Option.some.injEq] at hx
          subst hx
          simp [findN]
        | succ i =>
          simp only [List.getElem?_cons_succ] at hx
          have hi : i < r.length := (List.getElem?_eq_some_iff.1 hx).1
          simp only [findN]
          rw [if_neg (fun e => by have := pN_inj (by omega) (by omega) e; omega)]
          have := h1 i x hx
          rw [show k + 1 + i = k + (i + 1) from by omega] at this
          exact this
      · simp only [List.length_cons] at hm
        simp only [findN]
        rw [if_neg (fun e => by have := pN_inj (by omega) (by omega) e; omega)]
        exact h2 m (by omega) hm2
      · show setOf s ++ setsP r = []
        rw [h3]
        unfold setOf
        rw [hw]
        exact congrArg (· ++ []) (if_neg (opJ_facts j).2.2.2.2.1)
      · simp only [findN]
        rw [if_neg (fun e => by have := pN_inj (by omega) (by omega) e; omega)]
        exact h4 m (by omega)
theorem stms_base : ∀ (js : List JmpP) (k : Nat), (stms k js).map baseS = stms k js
  | [], k => rfl
  | j :: r, k => by simp [stms, stms_base r, baseS, stmJ]
theorem stms_append : ∀ (a b : List JmpP) (k : Nat), stms k (a ++ b) = stms k a ++ stms (k + a.length) b
  | [], b, k => by simp [stms]
  | j :: r, b, k => by
    simp only [List.cons_append, stms, stms_append r b (k + 1), List.length_cons]
    rw [show k + 1 + r.length = k + (r.length + 1) from by omega]
theorem value_digits (n : Nat) (h : n ≤ 1000000) (N : List (List UInt8 × Int)) (a : Int) : value a N (digN n) = ((n : Int), 0) := (SoFar.first (termOf_number a N n h)).done
theorem value_name {N : List (List UInt8 × Int)} {i : Nat} {v : Int} (hi : i < 90) (h : findN N (pN i) = some v) (h1 : -1000000 ≤ v) (h2 : v ≤ 1000000) (a : Int) : value a N (pN i) = (v, 0) := (SoFar.first (termOf_name a N (pN i) v (pN_name i hi).1 h h1 h2)).done
theorem look_one (n : Nat) (l : List StmP) (i : Nat) (j : JmpP) (hj : OkJ n j) (hf : findN (namesP l) (pN i) = none) : lookP l (shW i j) (shLn i j) (i + 1) = (0, stmJ i j) := by
  obtain ⟨o1, _, _, _, o5, _⟩ := opJ_facts j
  have hh : hasN (namesP l) (pN i) = false := by unfold hasN; rw [hf]; rfl
  have hop : opnP (opJ j) = some (opnJ j) := by
    cases kindJ j with
    | jmp _ h _ ho => rw [h, ho]; rfl
    | jz _ h _ ho => rw [h, ho]; rfl
    | space _ h _ ho => rw [h, ho]; rfl
    | nop _ h _ ho => rw [h, ho]; rfl
  have hps : operandsP (opnJ j) (opsJ j) (setsP l) = (0, addJ j, cntJ j) := by
    cases kindJ j with
    | jmp _ _ h ho ha hc => rw [h, ho, ha, hc]; rfl
    | jz _ _ h ho ha hc =>
      rw [h, ho, ha, hc]
      obtain ⟨r1, r2, _⟩ := rN_reg j.reg hj.reg
      have hr : regsP [rN j.reg] 0 = some j.reg := by
        simp only [regsP, r1, r2]
        simp
      show (match regsP [rN j.reg] 0 with | none => _ | some a => _) = _
      rw [hr]
      rfl
    | space _ _ h ho ha hc =>
      rw [h, ho, ha, hc]
      have hv := value_digits j.room (by have := hj.room; omega) (setsP l) 0
      have hct : countP 5 (setsP l) (digN j.room) = (0, j.room) := by
        unfold countP
        rw [hv, if_neg (by simp), if_neg (by have := hj.room; simp; omega)]
        simp
      show ((countP 5 (setsP l) (digN j.room)).1, 0, (countP 5 (setsP l) (digN j.room)).2) = _
      rw [hct]
    | nop _ _ h ho ha hc => rw [h, ho, ha, hc]; rfl
  unfold lookP
  show (if opJ j = opSet then _ else if (opnP (opJ j)).isNone ∧ opJ j ≠ [] then _ else if pN i ≠ [] ∧ hasN (namesP l) (pN i) then _ else match opnP (opJ j) with | none => _ | some o => _) = _
  rw [if_neg o5, hop, if_neg (by simp), hh, if_neg (by simp)]
  show ((operandsP (opnJ j) (opsJ j) (setsP l)).1, (⟨shW i j, shLn i j, i + 1, opnJ j, (operandsP (opnJ j) (opsJ j) (setsP l)).2.1, (operandsP (opnJ j) (opsJ j) (setsP l)).2.2, 0, 0, false⟩ : StmP)) = _
  rw [hps]
  rfl
theorem look_all (n : Nat) (hn : n ≤ 90) : ∀ (r a : List JmpP), a.length + r.length ≤ 90 → (∀ j ∈ r, OkJ n j) → lookAll (numbered (a.length + 1) (shLns a.length r)) (stms 0 a) = (0, 0, stms 0 (a ++ r))
  | [], a, _, _ => by simp [shLns, numbered, lookAll]
  | j :: r, a, hl, hj => by
    simp only [List.length_cons] at hl
    have hjj := hj j (by simp)
    have hg := reread (shW_src n a.length j (by omega) hn hjj).good
    obtain ⟨_, h2, _, _⟩ := base_names (k := 0) (stms_base a 0) (by omega)
    have h3 := look_one n (stms 0 a) a.length j hjj (h2 a.length (by rw [stms_len]; omega) (by omega))
    have hg' : wordsP (shLn a.length j) = shW a.length j := hg
    simp only [shLns, numbered, lookAll]
    rw [hg', h3, if_neg (by simp)]
    have ih := look_all n hn r (a ++ [j]) (by simp; omega) (fun x hx => hj x (by simp [hx]))
    rw [List.length_append, stms_append] at ih
    simp only [List.length_cons, List.length_nil, Nat.zero_add, stms, List.append_assoc, List.cons_append, List.nil_append] at ih
    exact ih

/-! Addresses are found. -/
theorem base_laid (l : List StmP) : ∀ a, (laidP l a).map baseS = l.map baseS := by
  induction l with
  | nil => intro a; rfl
  | cons s r ih => intro a; simp only [laidP, List.map_cons, ih]; rfl
theorem base_long (all : List (List UInt8 × Int)) (l : List StmP) : (l.map (longP all)).map baseS = l.map baseS := by
  rw [List.map_map]
  apply List.map_congr_left
  intro s _
  show baseS (longP all s) = baseS s
  unfold longP
  split <;> rfl
theorem base_at {l : List StmP} {js : List JmpP} (h : l.map baseS = stms 0 js) {i : Nat} {s : StmP} (hs : l[i]? = some s) : ∃ j, js[i]? = some j ∧ baseS s = stmJ i j := by
  have h1 : (stms 0 js)[i]? = some (baseS s) := by rw [← h, List.getElem?_map, hs]; rfl
  have : ∀ (js : List JmpP) (k i : Nat) (x : StmP), (stms k js)[i]? = some x → ∃ j, js[i]? = some j ∧ x = stmJ (k + i) j := by
    intro js
    induction js with
    | nil => intro k i x h; simp [stms] at h
    | cons j r ih =>
      intro k i x h
      cases i with
      | zero => simp only [stms, List.getElem?_cons_zero, Option.some.injEq] at h; exact ⟨j, rfl, h.symm⟩
      | succ i =>
        simp only [stms, List.getElem?_cons_succ] at h
        obtain ⟨j', h1, h2⟩ := ih (k + 1) i x h
        exact ⟨j', by simpa using h1, by rw [h2]; congr 1; omega⟩
  obtain ⟨j, h2, h3⟩ := this js 0 i _ h1
  exact ⟨j, h2, by rw [h3, Nat.zero_add]⟩
theorem base_fields {s : StmP} {i : Nat} {j : JmpP} (h : baseS s = stmJ i j) : s.w = shW i j ∧ s.txt = shLn i j ∧ s.frm = i + 1 ∧ s.o = opnJ j ∧ s.added = addJ j ∧ s.count = cntJ j :=
  ⟨congrArg StmP.w h, congrArg StmP.txt h, congrArg StmP.frm h, congrArg StmP.o h, congrArg StmP.added h, congrArg StmP.count h⟩
theorem base_size {s : StmP} {i n : Nat} {j : JmpP} (hj : OkJ n j) (h : baseS s = stmJ i j) : sizeP s ≤ 60 ∧ ¬ s.o.kind = 6 ∧ (j.kind < 6 → sizeP s = if s.long then 3 else 2) := by
  obtain ⟨hw, _, _, ho, _, hc⟩ := base_fields h
  unfold sizeP
  rw [ho, hc]
  have hr := hj.room
  cases kindJ j with
  | jmp _ _ _ h1 _ h2 => rw [h1]; exact ⟨by simp; split <;> omega, by simp, by simp⟩
  | jz _ _ _ h1 _ h2 => rw [h1]; exact ⟨by simp; split <;> omega, by simp, by simp⟩
  | space hk _ _ h1 _ h2 => rw [h1, h2]; exact ⟨by simp; omega, by simp, fun h => by omega⟩
  | nop hk _ _ h1 _ h2 => rw [h1]; exact ⟨by simp, by simp, fun h => by omega⟩

/-- Addresses by sizes; each long jump had a reason to be so, and has it still. -/
structure Laid (js : List JmpP) (l : List StmP) : Prop where
  base : l.map baseS = stms 0 js
  addr : ∀ (i : Nat) s, l[i]? = some s → s.at_ = ((offs l i : Nat) : Int)
  why : ∀ (i : Nat) s j, l[i]? = some s → js[i]? = some j → s.long = true → j.kind < 6 ∧ (i < j.to → offs l (i + 1) + 127 < offs l j.to) ∧ (j.to ≤ i → offs l j.to + 126 < offs l i)
theorem Laid.len {js : List JmpP} {l : List StmP} (h : l.map baseS = stms 0 js) : l.length = js.length := by
  have := congrArg List.length h
  rwa [List.length_map, stms_len] at this
theorem base_noAl {js : List JmpP} {l : List StmP} (h : l.map baseS = stms 0 js) (hj : ∀ j ∈ js, OkJ js.length j) : NoAl l := by
  intro s hs
  obtain ⟨i, hi⟩ := List.mem_iff_getElem?.1 hs
  obtain ⟨j, h1, h2⟩ := base_at h hi
  exact (base_size (hj j (List.mem_of_getElem? h1)) h2).2.1
theorem base_offs {js : List JmpP} {l : List StmP} (h : l.map baseS = stms 0 js) (hj : ∀ j ∈ js, OkJ js.length j) : ∀ i, offs l i ≤ 60 * i
  | 0 => by simp [offs]
  | i + 1 => by
    have ih := base_offs h hj i
    cases hl : l[i]? with
    | none => rw [offs_past hl]; omega
    | some s =>
      obtain ⟨j, h1, h2⟩ := base_at h hl
      have := (base_size (hj j (List.mem_of_getElem? h1)) h2).1
      rw [offs_succ hl]; omega
theorem Laid.start (js : List JmpP) (hj : ∀ j ∈ js, OkJ js.length j) : Laid js (laidP (stms 0 js) 0) := by
  have hb : (laidP (stms 0 js) 0).map baseS = stms 0 js := by rw [base_laid, stms_base]
  have hna := base_noAl (stms_base js 0) hj
  refine ⟨hb, fun i s hs => ?_, fun i s j hs _ hlong => ?_⟩
  · obtain ⟨h1, h2, _⟩ := laid_off (stms 0 js) hna 0 i
    rw [h1 s hs, h2, Nat.zero_add]
  · exfalso
    have : ∀ (l : List StmP) (a i : Nat) (s : StmP), (∀ x ∈ l, x.long = false) → (laidP l a)[i]? = some s → s.long = false := by
      intro l
      induction l with
      | nil => intro a i s _ h; simp [laidP] at h
      | cons x r ih =>
        intro a i s h hs
        cases i with
        | zero => simp only [laidP, List.getElem?_cons_zero, Option.some.injEq] at hs; subst hs; exact h x (by simp)
        | succ i => simp only [laidP, List.getElem?_cons_succ] at hs; exact ih _ i s (fun y hy => h y (by simp [hy])) hs
    have h2 := this (stms 0 js) 0 i s (fun x hx => by
      obtain ⟨i, hi⟩ := List.mem_iff_getElem?.1 hx
      have h3 := congrArg (·[i]?) (stms_base js 0)
      simp only [List.getElem?_map, hi, Option.map_some, Option.some.injEq] at h3
      rw [← h3]; rfl) hs
    rw [h2] at hlong
    cases hlong
/-- Where a jump goes to. -/
theorem Laid.goal {js : List JmpP} {l : List StmP} (h : Laid js l) (hn : js.length ≤ 90) (hj : ∀ j ∈ js, OkJ js.length j) {j : JmpP} (hjj : j ∈ js) (a : Int) : value a (namesP l) (pN j.to) = (((offs l j.to : Nat) : Int), 0) := by
  have hto := (hj j hjj).to
  have hlen := Laid.len h.base
  obtain ⟨h1, _⟩ := base_names (k := 0) h.base (by omega)
  have hx : l[j.to]? = some l[j.to] := List.getElem?_eq_getElem (by omega)
  have h2 := h1 j.to _ hx
  rw [Nat.zero_add, h.addr j.to _ hx] at h2
  have := base_offs h.base hj j.to
  exact value_name (by omega) h2 (by omega) (by omega) a
theorem exprs_jump {s : StmP} {i : Nat} {j : JmpP} (h : baseS s = stmJ i j) (hk : j.kind < 6) : s.exprs = [pN j.to] ∧ s.o.kind = 3 ∧ s.o.width = 2 := by
  obtain ⟨hw, _, _, ho, _⟩ := base_fields h
  unfold StmP.exprs
  rw [hw, ho]
  show (opsJ j).drop (opnJ j).regs = _ ∧ _
  cases kindJ j with
  | jmp _ _ h1 h2 => rw [h1, h2]; exact ⟨rfl, rfl, rfl⟩
  | jz _ _ h1 h2 => rw [h1, h2]; exact ⟨rfl, rfl, rfl⟩
  | space hh => omega
  | nop hh => omega
theorem Laid.grows {js : List JmpP} {l : List StmP} (h : Laid js l) (hn : js.length ≤ 90) (hj : ∀ j ∈ js, OkJ js.length j) {i : Nat} {s : StmP} {j : JmpP} (hs : l[i]? = some s) (hji : js[i]? = some j) (hb : baseS s = stmJ i j) (hk : j.kind < 6) :
    growsP (namesP l) s = (!s.long && (decide (((offs l j.to : Nat) : Int) - ((offs l i : Nat) + 2) < -128) || decide (127 < ((offs l j.to : Nat) : Int) - ((offs l i : Nat) + 2)))) ∧ farP (namesP l) s = ((offs l j.to : Nat) : Int) - ((offs l i : Nat) + 2) := by
  obtain ⟨e1, e2, _⟩ := exprs_jump hb hk
  have hg := h.goal hn hj (List.mem_of_getElem? hji) s.at_
  have hf : farP (namesP l) s = ((offs l j.to : Nat) : Int) - ((offs l i : Nat) + 2) := by
    unfold farP
    rw [e1]
    show (value s.at_ (namesP l) (pN j.to)).1 - _ = _
    rw [hg, h.addr i s hs]
  refine ⟨?_, hf⟩
  unfold growsP
  rw [hf, e1]
  show (decide (s.o.kind = 3) && !s.long && decide ((value s.at_ (namesP l) (pN j.to)).2 = 0) && _) = _
  rw [hg, e2]
  simp
theorem grows_jump {all : List (List UInt8 × Int)} {s : StmP} {i : Nat} {j : JmpP} (hb : baseS s = stmJ i j) (h : growsP all s = true) : j.kind < 6 := by
  unfold growsP at h
  simp only [Bool.and_eq_true, decide_eq_true_eq] at h
  have h1 := h.1.1.1
  rw [(base_fields hb).2.2.2.1] at h1
  cases kindJ j with
  | jmp hh => omega
  | jz hh => omega
  | space hh _ _ ho => rw [ho] at h1; simp at h1
  | nop hh _ _ ho => rw [ho] at h1; simp at h1
theorem Laid.next {js : List JmpP} {l : List StmP} (h : Laid js l) (hn : js.length ≤ 90) (hj : ∀ j ∈ js, OkJ js.length j) : Laid js (laidP (l.map (longP (namesP l))) 0) := by
  obtain ⟨m, hm⟩ : ∃ m, l.map (longP (namesP l)) = m := ⟨_, rfl⟩
  have hmb : m.map baseS = stms 0 js := by rw [← hm, base_long]; exact h.base
  have hna := base_noAl hmb hj
  have hat : ∀ (i : Nat), m[i]? = (l[i]?).map (longP (namesP l)) := fun i => by rw [← hm, List.getElem?_map]
  rw [hm]
  have hoff : ∀ i, offs (laidP m 0) i = offs m i := fun i => (laid_off m hna 0 i).2.1
  have hlong : ∀ (i : Nat) s, (laidP m 0)[i]? = some s → ∃ t, m[i]? = some t ∧ t.long = s.long := by
    have : ∀ (m : List StmP) (a i : Nat) (s : StmP), (laidP m a)[i]? = some s → ∃ t, m[i]? = some t ∧ t.long = s.long := by
      intro m
      induction m with
      | nil => intro a i s h; simp [laidP] at h
      | cons x r ih =>
        intro a i s hs
        cases i with
        | zero => simp only [laidP, List.getElem?_cons_zero, Option.some.injEq] at hs; subst hs; exact ⟨x, rfl, rfl⟩
        | succ i => simp only [laidP, List.getElem?_cons_succ] at hs ⊢; exact ih _ i s hs
    exact this m 0
  have hgrow : ∀ (i : Nat) s, l[i]? = some s → ∃ t, m[i]? = some t ∧ sizeP s ≤ sizeP t := by
    intro i s hs
    refine ⟨longP (namesP l) s, by rw [hat, hs]; rfl, ?_⟩
    unfold longP
    split
    · rename_i hg
      have h3 : s.o.kind = 3 := by unfold growsP at hg; simp only [Bool.and_eq_true, decide_eq_true_eq] at hg; exact hg.1.1.1
      unfold sizeP
      simp [h3]
      split <;> omega
    · exact Nat.le_refl _
  refine ⟨by rw [base_laid]; exact hmb, fun i s hs => ?_, fun i s j hs hji hl => ?_⟩
  · rw [(laid_off m hna 0 i).1 s hs, hoff, Nat.zero_add]
  · rw [hoff, hoff, hoff]
    obtain ⟨t, ht, htl⟩ := hlong i s hs
    rw [hl] at htl
    rw [hat] at ht
    cases hx : l[i]? with
    | none => rw [hx] at ht; cases ht
    | some x =>
      rw [hx] at ht
      simp only [Option.map_some, Option.some.injEq] at ht
      obtain ⟨j', hj1, hj2⟩ := base_at h.base hx
      have hjj : j' = j := by rw [hji] at hj1; simpa using hj1.symm
      subst hjj
      have key : j'.kind < 6 ∧ (i < j'.to → offs l (i + 1) + 127 < offs l j'.to) ∧ (j'.to ≤ i → offs l j'.to + 126 < offs l i) := by
        by_cases hxl : x.long = true
        · exact h.why i x j' hx hji hxl
        · have hg : growsP (namesP l) x = true := by
            cases hg : growsP (namesP l) x with
            | true => rfl
            | false => unfold longP at ht; rw [hg] at ht; simp at ht; rw [ht] at hxl; exact absurd htl hxl
          have hk := grows_jump hj2 hg
          obtain ⟨h1, _⟩ := h.grows hn hj hx hji hj2 hk
          rw [hg] at h1
          have h2 := h1.symm
          simp only [Bool.and_eq_true, Bool.or_eq_true, decide_eq_true_eq] at h2
          have hsz := (base_size (hj j' (List.mem_of_getElem? hji)) hj2).2.2 hk
          have hxf : x.long = false := by simpa using hxl
          rw [hxf] at hsz
          have hsu := offs_succ hx
          refine ⟨hk, fun hlt => ?_, fun hle => ?_⟩
          · have := offs_mono l (i + 1) (j'.to - (i + 1))
            rw [show i + 1 + (j'.to - (i + 1)) = j'.to from by omega] at this
            simp at hsz
            omega
          · have := offs_mono l j'.to (i - j'.to)
            rw [show j'.to + (i - j'.to) = i from by omega] at this
            omega
      refine ⟨key.1, fun hlt => ?_, fun hle => ?_⟩
      · have h1 := key.2.1 hlt
        have h2 := offs_grow hgrow (i + 1) (j'.to - (i + 1))
        rw [show i + 1 + (j'.to - (i + 1)) = j'.to from by omega] at h2
        omega
      · have h1 := key.2.2 hle
        have h2 := offs_grow hgrow j'.to (i - j'.to)
        rw [show j'.to + (i - j'.to) = i from by omega] at h2
        omega
theorem Laid.find {js : List JmpP} (hn : js.length ≤ 90) (hj : ∀ j ∈ js, OkJ js.length j) : ∀ (n : Nat) (l : List StmP), Laid js l → Laid js (findP n l)
  | 0, l, h => h
  | n + 1, l, h => by
    simp only [findP]
    split
    · exact Laid.find hn hj n _ (h.next hn hj)
    · exact h
theorem Laid.placed (js : List JmpP) (hn : js.length ≤ 90) (hj : ∀ j ∈ js, OkJ js.length j) : Laid js (placedP (stms 0 js)) := Laid.find hn hj _ _ (Laid.start js hj)

/-! The bytes. -/
theorem Laid.bytes {js : List JmpP} {l : List StmP} (h : Laid js l) (hn : js.length ≤ 90) (hj : ∀ j ∈ js, OkJ js.length j) (hend : offs l l.length ≤ 1000) {i : Nat} {s : StmP} {j : JmpP} (hs : l[i]? = some s) (hji : js[i]? = some j) :
    (bytesP (namesP l) s).1 = 0 ∧ (bytesP (namesP l) s).2.length = sizeP s ∧
    (j.kind < 6 → (bytesP (namesP l) s).2 = if s.long then [byteP ((opnJ j).long + addJ j : Nat), byteP (offs l j.to : Nat), byteP ((offs l j.to : Nat) / 256 : Int)] else [byteP ((opnJ j).code + addJ j : Nat), byteP (((offs l j.to : Nat) : Int) - ((offs l i : Nat) + 2))]) := by
  obtain ⟨j', hj1, hb⟩ := base_at h.base hs
  have hjj : j' = j := by rw [hji] at hj1; simpa using hj1.symm
  subst hjj
  obtain ⟨hw, _, _, ho, ha, hc⟩ := base_fields hb
  by_cases hk : j'.kind < 6
  · obtain ⟨e1, e2, e3⟩ := exprs_jump hb hk
    obtain ⟨_, hf⟩ := h.grows hn hj hs hji hb hk
    have hg := h.goal hn hj (List.mem_of_getElem? hji) s.at_
    have hsz := (base_size (hj j' (List.mem_of_getElem? hji)) hb).2.2 hk
    have hto : offs l j'.to ≤ 1000 := by
      have h1 := (hj j' (List.mem_of_getElem? hji)).to
      have h2 := Laid.len h.base
      have h3 := offs_mono l j'.to (l.length - j'.to)
      rw [show j'.to + (l.length - j'.to) = l.length from by omega] at h3
      omega
    have hx : exprsP (namesP l) s.at_ 2 [pN j'.to] = (0, [byteP (offs l j'.to : Nat), byteP ((offs l j'.to : Nat) / 256 : Int)]) := by
      simp only [exprsP, hg]
      have hnum : numP 2 ((offs l j'.to : Nat) : Int) = (0, [byteP (offs l j'.to : Nat), byteP ((offs l j'.to : Nat) / 256 : Int)]) := by
        unfold numP
        rw [if_neg (by simp), if_neg (by omega)]
      rw [hnum]
      simp
    unfold bytesP
    rw [hsz, e1, e3, hx, hf, e2, if_neg (by simp), if_pos rfl]
    cases hl : s.long with
    | true =>
      rw [if_pos rfl, if_pos rfl, ho, ha]
      exact ⟨rfl, rfl, fun _ => rfl⟩
    | false =>
      rw [if_neg (by simp), if_neg (show ¬ (value s.at_ (namesP l) ([pN j'.to].headD [])).2 ≠ 0 by rw [show ([pN j'.to] : List (List UInt8)).headD [] = pN j'.to from rfl, hg]; simp), ho, ha]
      exact ⟨rfl, rfl, fun _ => rfl⟩
  · refine ⟨?_, ?_, fun h => absurd h hk⟩
    all_goals
      unfold bytesP sizeP StmP.exprs
      rw [ho, hc, hw]
      cases kindJ j' with
      | jmp hh => omega
      | jz hh => omega
      | space hh h0 h1 h2 _ h3 => rw [h2]; simp
      | nop hh h0 h1 h2 _ h3 =>
        rw [h2]
        show _ = _
        simp only [shW, h1]
        simp [exprsP, behind]
theorem allBytes_ok {all : List (List UInt8 × Int)} : ∀ {l : List StmP}, (∀ s ∈ l, (bytesP all s).1 = 0) → allBytes all l = (0, 0, l.flatMap fun s => (bytesP all s).2)
  | [], _ => rfl
  | s :: r, h => by
    simp only [allBytes]
    rw [if_neg (by simp [h s (by simp)]), allBytes_ok (fun x hx => h x (by simp [hx])), if_neg (by simp)]
    simp
/-- What is made of such a text. -/
theorem short_plain (js : List JmpP) (hn : js.length ≤ 90) (hj : ∀ j ∈ js, OkJ js.length j) (hl : (textL (shLns 0 js)).length ≤ 3000) :
    ∃ l, Laid js l ∧ l.any (growsP (namesP l)) = false ∧ assembleP (textL (shLns 0 js)) = if 1000 < offs l l.length then (8, 0, noProg) else (0, 0, ⟨l.flatMap fun s => (bytesP (namesP l) s).2, l⟩) := by
  have hp := Laid.placed js hn hj
  refine ⟨placedP (stms 0 js), hp, placed_done _, ?_⟩
  have hla := look_all js.length hn js [] (by simpa using hn) hj
  simp only [List.length_nil, List.nil_append, Nat.zero_add] at hla
  have hst : (stms 0 ([] : List JmpP)) = [] := rfl
  rw [hst] at hla
  unfold assembleP
  rw [sh_expand js hn hj hl]
  simp only [ne_eq, not_true_eq_false, if_false]
  rw [hla]
  simp only [not_true_eq_false, if_false]
  unfold makeP
  have hend : endP (placedP (stms 0 js)) 0 = offs (placedP (stms 0 js)) (placedP (stms 0 js)).length := by
    have := (laid_off _ (base_noAl hp.base hj) 0 0).2.2
    rw [this, Nat.zero_add]
  rw [hend]
  split
  · rfl
  · rename_i h1
    have hab := allBytes_ok (all := namesP (placedP (stms 0 js))) (l := placedP (stms 0 js)) (fun s hs => by
      obtain ⟨i, hi⟩ := List.mem_iff_getElem?.1 hs
      obtain ⟨j, h2, _⟩ := base_at hp.base hi
      exact (hp.bytes hn hj (by omega) hi h2).1)
    rw [hab, if_neg (by simp)]
end Go.Proofs.YtcepppilgncdmaaGreatDoor
