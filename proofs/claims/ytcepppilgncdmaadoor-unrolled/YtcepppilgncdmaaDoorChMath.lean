/-
  A text of conditions, line by line: the plain side of Chosen. Nothing of the program stands here.
-/
import Derived.Test.YtcepppilgncdmaaDoorExp
namespace Go.Proofs.YtcepppilgncdmaaDoor

/-- A text of whole lines. -/
def textL (ls : List (List UInt8)) : List UInt8 := ls.flatMap (· ++ [10])

theorem textL_append (a b : List (List UInt8)) : textL (a ++ b) = textL a ++ textL b := by simp [textL]
theorem textL_one (a : List UInt8) : textL [a] = a ++ [10] := by simp [textL]

theorem okLine_no {a : List UInt8} (h : okLine a = true) : ∀ c ∈ a, ¬ (c.toNat : Int) = 10 := by
  intro c hc hx
  unfold okLine at h
  rw [Bool.and_eq_true] at h
  have := List.all_eq_true.1 h.2 c hc
  unfold okByte at this
  simp at this
  omega
theorem splitB_line (r : List UInt8) : ∀ a : List UInt8, (∀ c ∈ a, ¬ (c.toNat : Int) = 10) → splitB 10 (a ++ 10 :: r) = a :: splitB 10 r
  | [], _ => by
    show splitB 10 (10 :: r) = _
    simp only [splitB]
    rw [if_pos (by decide)]
  | c :: a, h => by
    have ih := splitB_line r a fun x hx => h x (List.mem_cons_of_mem _ hx)
    show splitB 10 (c :: (a ++ 10 :: r)) = _
    simp only [splitB]
    rw [if_neg (h c List.mem_cons_self), ih]
theorem splitB_textL (r : List UInt8) : ∀ ls : List (List UInt8), (∀ l ∈ ls, okLine l = true) → splitB 10 (textL ls ++ r) = ls ++ splitB 10 r
  | [], _ => by simp [textL]
  | a :: ls, h => by
    have ih := splitB_textL r ls fun x hx => h x (List.mem_cons_of_mem _ hx)
    have := splitB_line (textL ls ++ r) a (okLine_no (h a List.mem_cons_self))
    rw [ih] at this
    rw [← List.singleton_append, textL_append, textL_one]
    simpa using this
theorem splitB_alone : ∀ a : List UInt8, (∀ c ∈ a, ¬ (c.toNat : Int) = 10) → splitB 10 a = [a]
  | [], _ => by simp [splitB]
  | c :: a, h => by
    simp only [splitB]
    rw [if_neg (h c List.mem_cons_self), splitB_alone a fun x hx => h x (List.mem_cons_of_mem _ hx)]
theorem badLine_zero : ∀ (ls : List (List UInt8)) (k : Nat), (∀ l ∈ ls, okLine l = true) → badLine ls k = 0
  | [], _, _ => by simp [badLine]
  | a :: ls, k, h => by
    unfold badLine
    rw [if_pos (h a List.mem_cons_self)]
    exact badLine_zero ls (k + 1) fun x hx => h x (List.mem_cons_of_mem _ hx)

/-- What Expand answers of whole lines and a last one, when the block of them says no error. -/
theorem expandP_lines (ls : List (List UInt8)) (a : List UInt8) (at_ : Nat) (st : StP) (hl : ∀ l ∈ ls, okLine l = true) (ha : okLine a = true) (hs : (textL ls ++ a).length ≤ 3000)
    (h : blockP (callN 8) none 1 (ls ++ [a]) 0 [] none noSt = (0, at_, st)) : expandP (textL ls ++ a) = (0, 0, st.out) := by
  have e1 : splitB 10 (textL ls ++ a) = ls ++ [a] := by rw [splitB_textL _ _ hl, splitB_alone a (okLine_no ha)]
  have e2 : badLine (ls ++ [a]) 1 = 0 := badLine_zero _ _ fun l h => by
    rcases List.mem_append.1 h with h | h
    · exact hl l h
    · rw [List.mem_singleton.1 h]; exact ha
  unfold expandP
  rw [if_neg (by omega), e1, e2, if_neg (by decide), h]
  simp

theorem cutL_again : ∀ l : List UInt8, cutL (cutL l) = cutL l
  | [] => rfl
  | c :: r => by
    simp only [cutL]
    by_cases h : (c.toNat : Int) = 59
    · rw [if_pos h]; rfl
    · rw [if_neg h]; simp only [cutL]; rw [if_neg h, cutL_again r]

/-- One line of a block, where no macro is being defined. -/
theorem block_one {call : MacP → WordsP → Nat → StP → Int × StP} {l : List UInt8} {k : Nat} {o o' : List OpenP} {d : Option MacP} {st st' : StP} (W : WordsP) (hw : wordsP (cutL l) = W)
    (hp : overP o = true → passP W o st = (0, o') ∧ st' = st ∧ d = none) (hl : overP o = false → lineP call false W (k + 1) o st = (0, o', d, st')) (rest : List (List UInt8)) :
    blockP call none 1 (l :: rest) k o none st = blockP call none 1 rest (k + 1) o' d st' := by
  subst hw
  have e : readP none false (cutL l) = (0, wordsP (cutL l)) := by
    show (0, wordsP (cutL (cutL l))) = _
    rw [cutL_again]
  rw [blockP]
  cases hx : overP o with
  | true => obtain ⟨h1, rfl, rfl⟩ := hp hx; rw [if_pos rfl, h1]; rfl
  | false =>
    have h1 := hl hx
    rw [if_neg (by simp), e]
    simp only [ne_eq, not_true_eq_false, if_false, Option.isSome_none]
    rw [h1]
    rfl

/-- The conditions that are open, innermost first, against: is it so now, and has it turned? -/
def SoP : List OpenP → List (Bool × Bool) → Prop
  | [], [] => True
  | o :: r, p :: q => o.els = p.2 ∧ o.over = overP r ∧ (o.over = false → o.yes = p.1) ∧ SoP r q
  | _, _ => False
theorem SoP.so : ∀ {o : List OpenP} {q : List (Bool × Bool)}, SoP o q → overP o = !(q.all (·.1))
  | [], [], _ => rfl
  | [], _ :: _, h => h.elim
  | _ :: _, [], h => h.elim
  | o :: r, p :: q, h => by
    obtain ⟨_, h2, h3, h4⟩ := h
    have ih := h4.so
    show passOf o = _
    unfold passOf
    rw [List.all_cons, h2, ih]
    cases hq : q.all (·.1) with
    | false => simp
    | true =>
      rw [ih, hq] at h2
      rw [h3 h2]
      simp
theorem SoP.len : ∀ {o : List OpenP} {q : List (Bool × Bool)}, SoP o q → o.length = q.length
  | [], [], _ => rfl
  | [], _ :: _, h => h.elim
  | _ :: _, [], h => h.elim
  | o :: r, p :: q, h => by simp [h.2.2.2.len]

def yesB : List UInt8 := [121, 101, 115]
def nopB : List UInt8 := [110, 111, 112]
def setLn : List UInt8 := [46, 115, 101, 116, 32, 121, 101, 115, 44, 49]
def exprOf (c : Nat) : List UInt8 := if c = 0 then yesB else if c = 1 then [121, 101, 115, 45, 49] else [50]
def endifB : List UInt8 := [46, 101, 110, 100, 105, 102, 32, 59, 32, 98, 101, 104, 105, 110, 100]
/-- What is known at a place of the text: the names, and the lines that are left. -/
def chSt (fs : List Nat) : StP := ⟨[], [(yesB, 1)], (setLn, 1) :: fs.map (nopB, ·), 0⟩

/-- Behind these lines of the text, which conditions are open, and from where the lines come that are left. -/
def ChRun (ls : List (List UInt8)) (q : List (Bool × Bool)) (fs : List Nat) : Prop :=
  (∀ l ∈ ls, okLine l = true) ∧ ∃ o, SoP o q ∧ ∀ rest, blockP (callN 8) none 1 (ls ++ rest) 0 [] none noSt = blockP (callN 8) none 1 rest ls.length o none (chSt fs)

theorem ChRun.more {ls : List (List UInt8)} {q q' : List (Bool × Bool)} {fs fs' : List Nat} (h : ChRun ls q fs) (l : List UInt8) (W : WordsP) (hw : wordsP (cutL l) = W) (hl : okLine l = true)
    (hx : ∀ o, SoP o q → ∃ o', SoP o' q' ∧ (overP o = true → passP W o (chSt fs) = (0, o') ∧ chSt fs' = chSt fs) ∧ (overP o = false → lineP (callN 8) false W (ls.length + 1) o (chSt fs) = (0, o', none, chSt fs'))) : ChRun (ls ++ [l]) q' fs' := by
  obtain ⟨h1, o, h2, h3⟩ := h
  obtain ⟨o', h4, h5, h6⟩ := hx o h2
  refine ⟨fun x hx => ?_, o', h4, fun rest => ?_⟩
  · rcases List.mem_append.1 hx with h | h
    · exact h1 x h
    · rw [List.mem_singleton.1 h]; exact hl
  · rw [List.append_assoc, h3, List.singleton_append, block_one W hw (fun h => ⟨(h5 h).1, (h5 h).2, rfl⟩) h6 rest, List.length_append]
    rfl

theorem ChRun.start : ChRun [setLn] [] [] := by
  refine ⟨by decide +kernel, [], trivial, fun rest => ?_⟩
  rw [List.singleton_append, block_one (o' := []) (d := none) (st' := chSt []) ⟨[], opSet, [yesB, [49]]⟩ (by kernel_rfl) (by intro h; cases h) (fun _ => by kernel_rfl) rest]
  rfl

def ifLn (c : Nat) : List UInt8 := [46, 105, 102, 32] ++ exprOf c

theorem ChRun.ifs {ls : List (List UInt8)} {q : List (Bool × Bool)} {fs : List Nat} (h : ChRun ls q fs) (c : Nat) (hc : c < 3) (hq : q.length < 8) : ChRun (ls ++ [ifLn c]) ((decide (c ≠ 1), false) :: q) fs := by
  refine h.more _ ⟨[], opIf, [exprOf c]⟩ ?_ ?_ fun o ho => ⟨⟨decide (c ≠ 1) && !overP o, false, overP o⟩ :: o, ⟨rfl, rfl, fun h => ?_, ho⟩, fun h => ⟨?_, rfl⟩, fun h => ?_⟩
  · match c, hc with
    | 0, _ => rfl
    | 1, _ => rfl
    | 2, _ => rfl
  · match c, hc with
    | 0, _ => rfl
    | 1, _ => rfl
    | 2, _ => rfl
  · simp only at h; simp [h]
  · unfold passP ifP
    rw [if_pos rfl, if_neg (by rw [ho.len]; omega), if_pos h, h]
    simp
  · unfold lineP ifP
    simp only [if_true]
    rw [if_neg (by rw [ho.len]; omega), h, if_neg (by simp), if_neg (by simp)]
    have hv : value 0 (chSt fs).names ((⟨[], opIf, [exprOf c]⟩ : WordsP).operands.headD []) = ((if c = 1 then 0 else if c = 0 then 1 else 2 : Int), (0 : Int)) := by
      show value 0 [(yesB, 1)] (exprOf c) = _
      match c, hc with
      | 0, _ => rfl
      | 1, _ => rfl
      | 2, _ => rfl
    rw [hv]
    match c, hc with
    | 0, _ => simp
    | 1, _ => simp
    | 2, _ => simp

theorem ChRun.turn {ls : List (List UInt8)} {b : Bool} {q : List (Bool × Bool)} {fs : List Nat} (h : ChRun ls ((b, false) :: q) fs) : ChRun (ls ++ [opElse]) ((!b, true) :: q) fs := by
  refine h.more _ ⟨[], opElse, []⟩ (by kernel_rfl) (by kernel_rfl) fun o ho => ?_
  match o, ho with
  | ⟨y, e, ov⟩ :: r, ⟨h1, h2, h3, h4⟩ =>
    simp only at h1 h2 h3
    subst h1
    have he : elseP ⟨[], opElse, []⟩ (⟨y, false, ov⟩ :: r) = (0, ⟨!y, true, ov⟩ :: r) := by simp [elseP, bareW]
    exact ⟨⟨!y, true, ov⟩ :: r, ⟨rfl, h2, fun h => by rw [h3 h], h4⟩, fun _ => ⟨by unfold passP; rw [if_neg (show ¬ (⟨[], opElse, []⟩ : WordsP).op = opIf by decide), if_pos rfl, he], rfl⟩,
      fun _ => by unfold lineP; rw [if_neg (show ¬ (⟨[], opElse, []⟩ : WordsP).op = opIf by decide), if_pos rfl, he]⟩
theorem ChRun.close {ls : List (List UInt8)} {p : Bool × Bool} {q : List (Bool × Bool)} {fs : List Nat} (h : ChRun ls (p :: q) fs) (l : List UInt8) (hw : wordsP (cutL l) = ⟨[], opEndif, []⟩) (hl : okLine l = true) : ChRun (ls ++ [l]) q fs := by
  refine h.more _ _ hw hl fun o ho => ?_
  match o, ho with
  | ⟨y, e, ov⟩ :: r, ⟨h1, h2, h3, h4⟩ =>
    have he : endifP ⟨[], opEndif, []⟩ (⟨y, e, ov⟩ :: r) = (0, r) := by simp [endifP, bareW]
    exact ⟨r, h4, fun _ => ⟨by unfold passP; rw [if_neg (show ¬ (⟨[], opEndif, []⟩ : WordsP).op = opIf by decide), if_neg (show ¬ (⟨[], opEndif, []⟩ : WordsP).op = opElse by decide), if_pos rfl, he], rfl⟩,
      fun _ => by unfold lineP; rw [if_neg (show ¬ (⟨[], opEndif, []⟩ : WordsP).op = opIf by decide), if_neg (show ¬ (⟨[], opEndif, []⟩ : WordsP).op = opElse by decide), if_pos rfl, he]⟩
theorem ChRun.ends {ls : List (List UInt8)} {p : Bool × Bool} {q : List (Bool × Bool)} {fs : List Nat} (h : ChRun ls (p :: q) fs) : ChRun (ls ++ [endifB]) q fs := h.close _ (by kernel_rfl) (by kernel_rfl)
theorem ChRun.shut {ls : List (List UInt8)} {p : Bool × Bool} {q : List (Bool × Bool)} {fs : List Nat} (h : ChRun ls (p :: q) fs) : ChRun (ls ++ [opEndif]) q fs := h.close _ (by kernel_rfl) (by kernel_rfl)

theorem ChRun.nop {ls : List (List UInt8)} {q : List (Bool × Bool)} {fs : List Nat} (h : ChRun ls q fs) (hf : fs.length < 200) : ChRun (ls ++ [nopB]) q (if q.all (·.1) then fs ++ [ls.length + 1] else fs) := by
  refine h.more _ ⟨[], nopB, []⟩ (by kernel_rfl) (by kernel_rfl) fun o ho => ⟨o, ho, fun h => ⟨by kernel_rfl, ?_⟩, fun h => ?_⟩
  · rw [ho.so] at h
    rw [if_neg (fun c => by rw [c] at h; cases h)]
  · rw [ho.so] at h
    rw [if_pos (by simpa using h)]
    have hv : leaveP ⟨[], nopB, []⟩ (ls.length + 1) (chSt fs) = (0, chSt (fs ++ [ls.length + 1])) := by
      unfold leaveP
      have : textP ⟨[], nopB, []⟩ = nopB := by kernel_rfl
      rw [this, if_neg (by decide), if_neg (by simp [chSt]; omega)]
      simp [chSt]
    unfold lineP
    rw [if_neg (show ¬ (⟨[], nopB, []⟩ : WordsP).op = opIf by decide), if_neg (show ¬ (⟨[], nopB, []⟩ : WordsP).op = opElse by decide), if_neg (show ¬ (⟨[], nopB, []⟩ : WordsP).op = opEndif by decide), if_neg (show ¬ (⟨[], nopB, []⟩ : WordsP).op = opMacro by decide), if_neg (show ¬ (⟨[], nopB, []⟩ : WordsP).op = opEnd by decide), if_neg (show ¬ (⟨[], nopB, []⟩ : WordsP).op = opSet by decide)]
    show ((leaveP _ _ (chSt fs)).1, o, none, (leaveP _ _ (chSt fs)).2) = _
    rw [hv]

theorem ChRun.done {ls : List (List UInt8)} {fs : List Nat} (h : ChRun ls [] fs) (hs : (textL ls).length ≤ 3000) : expandP (textL ls) = (0, 0, (setLn, 1) :: fs.map (nopB, ·)) := by
  obtain ⟨h1, o, h2, h3⟩ := h
  have := expandP_lines ls [] (ls.length + 1) (chSt fs) h1 (by decide) (by simpa using hs) (by
    rw [h3]
    match o, h2 with
    | [], _ => rfl)
  rw [List.append_nil] at this
  exact this

end Go.Proofs.YtcepppilgncdmaaDoor
