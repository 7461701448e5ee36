/-
  A text of two macros and of calls, line by line: the plain side of Unrolled. Nothing of the program stands here.
-/
import Derived.Test.YtcepppilgncdmaaDoorChMath
namespace Go.Proofs.YtcepppilgncdmaaDoor

def oneB : List UInt8 := [111, 110, 101]
def twoB : List UInt8 := [116, 119, 111]
def opB (k : Nat) : List UInt8 := if k = 0 then [109, 111, 118] else if k = 1 then [97, 100, 100] else [115, 117, 98]
def parB (k : Nat) : List UInt8 := if k = 0 then [97] else [97, 98]
def rgB (k : Nat) : List UInt8 := [114, if k = 0 then 48 else if k = 1 then 49 else if k = 2 then 50 else 51]
def selB (x y : List UInt8) (k : Nat) : List UInt8 := if k = 0 then x else y
/-- A line of the first macro; which operation, which parameters. -/
def bodyLn (b : Nat × Nat × Nat) : List UInt8 := opB b.1 ++ [32, 92] ++ parB b.2.1 ++ [44, 32, 92] ++ parB b.2.2 ++ [32, 59, 32, 92, 110, 111]
/-- What somebody would write by hand. -/
def wantLn (x y : List UInt8) (b : Nat × Nat × Nat) : List UInt8 := opB b.1 ++ [32] ++ selB x y b.2.1 ++ [44] ++ selB x y b.2.2
def callLn (c : Nat × Nat) : List UInt8 := [32, 111, 110, 101, 32] ++ rgB c.1 ++ [32, 44, 32] ++ rgB c.2
def macOneLn : List UInt8 := [46, 109, 97, 99, 114, 111, 32, 111, 110, 101, 44, 97, 44, 97, 98]
def macTwoLn : List UInt8 := [46, 109, 97, 99, 114, 111, 32, 116, 119, 111, 44, 120]
def twoLnA : List UInt8 := [111, 110, 101, 32, 92, 120, 44, 114, 48]
def twoLnB : List UInt8 := [108, 92, 120, 58, 32, 111, 110, 101, 32, 114, 51, 44, 92, 120]
def goLn (x : Nat) : List UInt8 := [103, 111, 58, 32, 116, 119, 111, 32] ++ rgB x
def bodyOk (b : Nat × Nat × Nat) : Prop := b.1 < 3 ∧ b.2.1 < 2 ∧ b.2.2 < 2

def macOne (bs : List (Nat × Nat × Nat)) : MacP := ⟨oneB, [parB 0, parB 1], bs.map fun b => cutL (bodyLn b)⟩
def macTwo : MacP := ⟨twoB, [[120]], [twoLnA, twoLnB]⟩
def unSt (bs : List (Nat × Nat × Nat)) (out : List (List UInt8 × Nat)) (calls : Nat) : StP := ⟨[macOne bs, macTwo], [], out, calls⟩

/-- One line of a macro's, where nothing is open and no macro is being defined. -/
theorem block_sub {call : MacP → WordsP → Nat → StP → Int × StP} {ps os : List (List UInt8)} {l : List UInt8} {k : Nat} {st st' : StP} (W : WordsP) (h1 : (readP (some (ps, os)) false (cutL l)).1 = 0) (hw : (readP (some (ps, os)) false (cutL l)).2 = W)
    (hl : lineP call true W k [] st = (0, [], none, st')) (rest : List (List UInt8)) :
    blockP call (some (ps, os)) 0 (l :: rest) k [] none st = blockP call (some (ps, os)) 0 rest k [] none st' := by
  subst hw
  rw [blockP]
  simp only [overP, Bool.false_eq_true, if_false, h1, ne_eq, not_true_eq_false, Nat.add_zero, Option.isSome_some, hl]

theorem words_eq {W : WordsP} {a b : List UInt8} {c : List (List UInt8)} (h : W.label = a ∧ W.op = b ∧ W.operands = c) : W = ⟨a, b, c⟩ := by
  obtain ⟨h1, h2, h3⟩ := h
  cases W
  simp only at h1 h2 h3
  rw [h1, h2, h3]

/-- A line of the first macro, with operands, says what it should. -/
def bodyReadB (x y a b c : Nat) : Bool :=
  decide ((readP (some ([parB 0, parB 1], [rgB x, rgB y])) false (cutL (cutL (bodyLn (a, b, c))))).1 = 0) && decide ((readP (some ([parB 0, parB 1], [rgB x, rgB y])) false (cutL (cutL (bodyLn (a, b, c))))).2.label = []) &&
    decide ((readP (some ([parB 0, parB 1], [rgB x, rgB y])) false (cutL (cutL (bodyLn (a, b, c))))).2.op = opB a) && decide ((readP (some ([parB 0, parB 1], [rgB x, rgB y])) false (cutL (cutL (bodyLn (a, b, c))))).2.operands = [selB (rgB x) (rgB y) b, selB (rgB x) (rgB y) c])
theorem body_readB : ∀ x < 4, ∀ y < 4, ∀ a < 3, ∀ b < 2, ∀ c < 2, bodyReadB x y a b c = true := by decide +kernel
theorem body_read (x : Nat) (hx : x < 4) (y : Nat) (hy : y < 4) (a : Nat) (ha : a < 3) (b : Nat) (hb : b < 2) (c : Nat) (hc : c < 2) : (readP (some ([parB 0, parB 1], [rgB x, rgB y])) false (cutL (cutL (bodyLn (a, b, c))))).1 = 0 ∧ (readP (some ([parB 0, parB 1], [rgB x, rgB y])) false (cutL (cutL (bodyLn (a, b, c))))).2.label = [] ∧
    (readP (some ([parB 0, parB 1], [rgB x, rgB y])) false (cutL (cutL (bodyLn (a, b, c))))).2.op = opB a ∧ (readP (some ([parB 0, parB 1], [rgB x, rgB y])) false (cutL (cutL (bodyLn (a, b, c))))).2.operands = [selB (rgB x) (rgB y) b, selB (rgB x) (rgB y) c] := by
  have h := body_readB x hx y hy a ha b hb c hc
  unfold bodyReadB at h
  simp only [Bool.and_eq_true, decide_eq_true_eq] at h
  exact ⟨h.1.1.1, h.1.1.2, h.1.2, h.2⟩

theorem opB_no (a : Nat) : ¬ opB a = opIf ∧ ¬ opB a = opElse ∧ ¬ opB a = opEndif ∧ ¬ opB a = opMacro ∧ ¬ opB a = opEnd ∧ ¬ opB a = opSet ∧ ¬ oneB = opB a ∧ ¬ twoB = opB a ∧ ¬ opB a = [] := by
  unfold opB
  split
  · decide
  · split <;> decide

theorem text_body (x y : List UInt8) (b : Nat × Nat × Nat) : textP ⟨[], opB b.1, [selB x y b.2.1, selB x y b.2.2]⟩ = wantLn x y b := by
  unfold textP wantLn
  simp [(opB_no b.1).2.2.2.2.2.2.2.2, joined]

theorem line_body (call : MacP → WordsP → Nat → StP → Int × StP) (inM : Bool) (bs : List (Nat × Nat × Nat)) (x y : List UInt8) (b : Nat × Nat × Nat) (k : Nat) (out : List (List UInt8 × Nat)) (n : Nat) (ho : out.length < 300) :
    lineP call inM ⟨[], opB b.1, [selB x y b.2.1, selB x y b.2.2]⟩ k [] (unSt bs out n) = (0, [], none, unSt bs (out ++ [(wantLn x y b, k)]) n) := by
  obtain ⟨h1, h2, h3, h4, h5, h6, h7, h8, h9⟩ := opB_no b.1
  have hf : findM (unSt bs out n).macros (opB b.1) = none := by
    unfold unSt
    simp [findM, macOne, macTwo, h7, h8]
  have hv : leaveP ⟨[], opB b.1, [selB x y b.2.1, selB x y b.2.2]⟩ k (unSt bs out n) = (0, unSt bs (out ++ [(wantLn x y b, k)]) n) := by
    unfold leaveP
    rw [text_body, if_neg (by unfold wantLn; simp [h9]), if_neg (by simp [unSt]; omega)]
    rfl
  unfold lineP
  simp only [h1, h2, h3, h4, h5, h6, if_false, hf, hv]

theorem body_block (call : MacP → WordsP → Nat → StP → Int × StP) (B : List (Nat × Nat × Nat)) (x y : Nat) (hx : x < 4) (hy : y < 4) (k n : Nat) : ∀ (bs : List (Nat × Nat × Nat)) (out : List (List UInt8 × Nat)), (∀ b ∈ bs, bodyOk b) → out.length + bs.length ≤ 300 →
    blockP call (some ([parB 0, parB 1], [rgB x, rgB y])) 0 (bs.map fun b => cutL (bodyLn b)) k [] none (unSt B out n) = (0, k, unSt B (out ++ bs.map fun b => (wantLn (rgB x) (rgB y) b, k)) n)
  | [], out, _, _ => by simp [blockP]
  | (a, b, c) :: bs, out, h, hl => by
    obtain ⟨ha, hb, hc⟩ := h _ List.mem_cons_self
    obtain ⟨r1, r2, r3, r4⟩ := body_read x hx y hy a ha b hb c hc
    have ih := body_block call B x y hx hy k n bs (out ++ [(wantLn (rgB x) (rgB y) (a, b, c), k)]) (fun z hz => h z (List.mem_cons_of_mem _ hz)) (by simp at hl ⊢; omega)
    rw [List.map_cons, block_sub _ r1 (words_eq ⟨r2, r3, r4⟩) (line_body call true B (rgB x) (rgB y) (a, b, c) k out n (by simp at hl; omega)), ih]
    simp

theorem callN_ok {i : Nat} {m : MacP} {w : WordsP} {k k' : Nat} {st st1 st2 : StP} (h1 : w.operands.length = m.params.length) (h2 : st.calls < 200) (hv : leaveP ⟨w.label, [], []⟩ k st = (0, st1)) (hb : blockP (callN i) (some (m.params, w.operands)) 0 m.lines k [] none { st1 with calls := st.calls + 1 } = (0, k', st2)) :
    callN (i + 1) m w k st = (0, st2) := by
  rw [callN, if_neg (fun c => c h1), if_neg (by omega), hv, if_neg (by simp)]
  show ((blockP (callN i) (some (m.params, w.operands)) 0 m.lines k [] none { st1 with calls := st.calls + 1 }).1, (blockP (callN i) (some (m.params, w.operands)) 0 m.lines k [] none { st1 with calls := st.calls + 1 }).2.2) = _
  rw [hb]

/-- The first macro is called. -/
theorem call_one (i : Nat) (bs : List (Nat × Nat × Nat)) (x y : Nat) (hx : x < 4) (hy : y < 4) (lab : List UInt8) (k n : Nat) (out : List (List UInt8 × Nat)) (hb : ∀ b ∈ bs, bodyOk b) (ho : out.length + 1 + bs.length ≤ 300) (hn : n < 200) :
    callN (i + 1) (macOne bs) ⟨lab, oneB, [rgB x, rgB y]⟩ k (unSt bs out n) = (0, unSt bs (out ++ (if lab = [] then [] else [(lab ++ [58], k)]) ++ bs.map fun b => (wantLn (rgB x) (rgB y) b, k)) (n + 1)) := by
  have hv : leaveP ⟨lab, [], []⟩ k (unSt bs out n) = (0, unSt bs (out ++ (if lab = [] then [] else [(lab ++ [58], k)])) n) := by
    by_cases hl : lab = []
    · subst hl
      simp [leaveP, textP, joined]
    · have ht : textP ⟨lab, [], []⟩ = lab ++ [58] := by simp [textP, joined, hl]
      unfold leaveP
      rw [ht, if_neg (by simp), if_neg (by simp [unSt]; omega), if_neg hl]
      rfl
  have hlen : (out ++ (if lab = [] then [] else [(lab ++ [58], k)])).length + bs.length ≤ 300 := by
    split <;> simp <;> omega
  have hb2 := body_block (callN i) bs x y hx hy k (n + 1) bs _ hb hlen
  unfold callN
  rw [hv, if_neg (by simp [macOne]), if_neg (by simp [unSt]; omega), if_neg (by simp)]
  have hb3 := congrArg (fun z : Int × Nat × StP => (z.1, z.2.2)) hb2
  exact hb3

theorem line_one (i : Nat) (inM : Bool) (bs : List (Nat × Nat × Nat)) (x y : Nat) (hx : x < 4) (hy : y < 4) (lab : List UInt8) (k n : Nat) (out : List (List UInt8 × Nat)) (hb : ∀ b ∈ bs, bodyOk b) (ho : out.length + 1 + bs.length ≤ 300) (hn : n < 200) :
    lineP (callN (i + 1)) inM ⟨lab, oneB, [rgB x, rgB y]⟩ k [] (unSt bs out n) = (0, [], none, unSt bs (out ++ (if lab = [] then [] else [(lab ++ [58], k)]) ++ bs.map fun b => (wantLn (rgB x) (rgB y) b, k)) (n + 1)) := by
  have hc := call_one i bs x y hx hy lab k n out hb ho hn
  have hf : findM (unSt bs out n).macros oneB = some (macOne bs) := by
    unfold unSt
    simp [findM, macOne]
  unfold lineP
  simp only [show ¬ oneB = opIf by decide, show ¬ oneB = opElse by decide, show ¬ oneB = opEndif by decide, show ¬ oneB = opMacro by decide, show ¬ oneB = opEnd by decide, show ¬ oneB = opSet by decide, if_false, hf, hc]

theorem two_read : ∀ x < 4, (readP (some ([[120]], [rgB x])) false (cutL twoLnA)).1 = 0 ∧ (readP (some ([[120]], [rgB x])) false (cutL twoLnB)).1 = 0 ∧
    ((readP (some ([[120]], [rgB x])) false (cutL twoLnA)).2.label = [] ∧ (readP (some ([[120]], [rgB x])) false (cutL twoLnA)).2.op = oneB ∧ (readP (some ([[120]], [rgB x])) false (cutL twoLnA)).2.operands = [rgB x, rgB 0]) ∧
    ((readP (some ([[120]], [rgB x])) false (cutL twoLnB)).2.label = 108 :: rgB x ∧ (readP (some ([[120]], [rgB x])) false (cutL twoLnB)).2.op = oneB ∧ (readP (some ([[120]], [rgB x])) false (cutL twoLnB)).2.operands = [rgB 3, rgB x]) := by
  decide +kernel
theorem go_read : ∀ x < 4, (wordsP (cutL (goLn x))).label = [103, 111] ∧ (wordsP (cutL (goLn x))).op = twoB ∧ (wordsP (cutL (goLn x))).operands = [rgB x] := by decide +kernel
theorem call_read : ∀ x < 4, ∀ y < 4, (wordsP (cutL (callLn (x, y)))).label = [] ∧ (wordsP (cutL (callLn (x, y)))).op = oneB ∧ (wordsP (cutL (callLn (x, y)))).operands = [rgB x, rgB y] := by decide +kernel
theorem lines_ok : (∀ a < 3, ∀ b < 2, ∀ c < 2, okLine (bodyLn (a, b, c)) = true ∧ (wordsP (cutL (bodyLn (a, b, c)))).op = opB a) ∧ (∀ x < 4, okLine (goLn x) = true) ∧ (∀ x < 4, ∀ y < 4, okLine (callLn (x, y)) = true) ∧ okLine macOneLn = true ∧ okLine macTwoLn = true ∧ okLine twoLnA = true ∧ okLine twoLnB = true ∧ okLine opEnd = true := by decide +kernel

theorem body_taken : ∀ (bs : List (Nat × Nat × Nat)) (d rest : List (List UInt8)), (∀ b ∈ bs, bodyOk b) → bodyP d (bs.map bodyLn ++ opEnd :: rest) = (0, d ++ bs.map (fun b => cutL (bodyLn b)), bs.length + 1)
  | [], d, rest, _ => by
    have h1 : (wordsP (cutL opEnd)).op = opEnd := by kernel_rfl
    have h2 : bareW (wordsP (cutL opEnd)) = true := by kernel_rfl
    simp [bodyP, h1, h2, show ¬ opEnd = opMacro by decide]
  | (a, b, c) :: bs, d, rest, h => by
    obtain ⟨ha, hb, hc⟩ := h _ List.mem_cons_self
    have ih := body_taken bs (d ++ [cutL (bodyLn (a, b, c))]) rest fun z hz => h z (List.mem_cons_of_mem _ hz)
    have ho := (lines_ok.1 a ha b hb c hc).2
    rw [List.map_cons, List.cons_append]
    unfold bodyP
    rw [ho, if_neg (opB_no a).2.2.2.1, if_neg (opB_no a).2.2.2.2.1, ih]
    simp

def headLs (bs : List (Nat × Nat × Nat)) : List (List UInt8) := macOneLn :: (bs.map bodyLn ++ [opEnd, macTwoLn, twoLnA, twoLnB, opEnd])

/-- Behind these lines of the text, both macros are there, and these lines are left. -/
def UnRun (bs : List (Nat × Nat × Nat)) (ls : List (List UInt8)) (out : List (List UInt8 × Nat)) (n : Nat) : Prop :=
  (∀ l ∈ ls, okLine l = true) ∧ ∀ rest, blockP (callN 8) none 1 (ls ++ rest) 0 [] none noSt = blockP (callN 8) none 1 rest ls.length [] none (unSt bs out n)

theorem UnRun.start (bs : List (Nat × Nat × Nat)) (hb : ∀ b ∈ bs, bodyOk b) : UnRun bs (headLs bs) [] 0 := by
  obtain ⟨k1, k2, k3, k4, k5, k6, k7, k8⟩ := lines_ok
  refine ⟨fun l hl => ?_, fun rest => ?_⟩
  · simp only [headLs, List.mem_cons, List.mem_append, List.mem_map, List.not_mem_nil, or_false] at hl
    rcases hl with rfl | ⟨⟨a, b, c⟩, h1, rfl⟩ | rfl | rfl | rfl | rfl | rfl
    · exact k4
    · obtain ⟨ha, hb, hc⟩ := hb _ h1
      exact (k1 a ha b hb c hc).1
    · exact k8
    · exact k5
    · exact k6
    · exact k7
    · exact k8
  · have e1 : headLs bs ++ rest = macOneLn :: (bs.map bodyLn ++ opEnd :: macTwoLn :: twoLnA :: twoLnB :: opEnd :: rest) := by simp [headLs]
    rw [e1, block_one (o' := []) (d := some ⟨oneB, [parB 0, parB 1], []⟩) (st' := noSt) ⟨[], opMacro, [oneB, parB 0, parB 1]⟩ (by kernel_rfl) (by intro h; cases h) (fun _ => by kernel_rfl), blockP_def, body_taken _ _ _ hb]
    simp only [ne_eq, not_true_eq_false, if_false]
    have e2 : (bs.map bodyLn ++ opEnd :: macTwoLn :: twoLnA :: twoLnB :: opEnd :: rest).drop (bs.length + 1) = macTwoLn :: twoLnA :: twoLnB :: opEnd :: rest := by
      have e0 : (bs.map bodyLn).drop bs.length = [] := List.drop_eq_nil_of_le (by simp)
      rw [← List.drop_drop, List.drop_append_of_le_length (by simp), e0]
      rfl
    rw [e2, block_one (o' := []) (d := some ⟨twoB, [[120]], []⟩) (st' := ⟨[macOne bs], [], [], 0⟩) ⟨[], opMacro, [twoB, [120]]⟩ (by kernel_rfl) (by intro h; cases h) (fun _ => by rfl), blockP_def]
    have e3 : bodyP [] (twoLnA :: twoLnB :: opEnd :: rest) = (0, [twoLnA, twoLnB], 3) := by rfl
    rw [e3]
    simp only [ne_eq, not_true_eq_false, if_false]
    have e4 : 0 + 1 + (bs.length + 1) + 1 + 3 = (headLs bs).length := by simp [headLs]; omega
    rw [e4]
    rfl

theorem UnRun.call {bs : List (Nat × Nat × Nat)} {ls : List (List UInt8)} {out : List (List UInt8 × Nat)} {n : Nat} (h : UnRun bs ls out n) (hb : ∀ b ∈ bs, bodyOk b) (x y : Nat) (hx : x < 4) (hy : y < 4) (ho : out.length + 1 + bs.length ≤ 300) (hn : n < 200) :
    UnRun bs (ls ++ [callLn (x, y)]) (out ++ bs.map fun b => (wantLn (rgB x) (rgB y) b, ls.length + 1)) (n + 1) := by
  obtain ⟨h1, h2⟩ := h
  refine ⟨fun l hl => ?_, fun rest => ?_⟩
  · rcases List.mem_append.1 hl with h | h
    · exact h1 l h
    · rw [List.mem_singleton.1 h]; exact lines_ok.2.2.1 x hx y hy
  · have hl := line_one 7 false bs x y hx hy [] (ls.length + 1) n out hb ho hn
    rw [if_pos rfl, List.append_nil] at hl
    rw [List.append_assoc, h2, List.singleton_append, block_one _ (words_eq (call_read x hx y hy)) (by intro h; cases h) (fun _ => hl), List.length_append]
    rfl

theorem UnRun.done {bs : List (Nat × Nat × Nat)} {ls : List (List UInt8)} {out : List (List UInt8 × Nat)} {n : Nat} (h : UnRun bs ls out n) (hs : (textL ls).length ≤ 3000) : expandP (textL ls) = (0, 0, out) := by
  obtain ⟨h1, h2⟩ := h
  have := expandP_lines ls [] (ls.length + 1) (unSt bs out n) h1 (by decide) (by simpa using hs) (by
    rw [h2]
    rfl)
  rw [List.append_nil] at this
  exact this

/-- The second macro is called. -/
theorem call_two (i : Nat) (bs : List (Nat × Nat × Nat)) (hb : ∀ b ∈ bs, bodyOk b) (x : Nat) (hx : x < 4) (k n : Nat) (out : List (List UInt8 × Nat)) (ho : out.length + 2 + bs.length + bs.length ≤ 300) (hn : n + 2 < 200) :
    callN (i + 1 + 1) macTwo ⟨[103, 111], twoB, [rgB x]⟩ k (unSt bs out n) = (0, unSt bs (out ++ [([103, 111, 58], k)] ++ bs.map (fun b => (wantLn (rgB x) (rgB 0) b, k)) ++ [(108 :: rgB x ++ [58], k)] ++ bs.map fun b => (wantLn (rgB 3) (rgB x) b, k)) (n + 1 + 1 + 1)) := by
  obtain ⟨r1, r2, r3, r4⟩ := two_read x hx
  obtain ⟨o1, ho1⟩ : ∃ o1, o1 = out ++ [([103, 111, 58], k)] := ⟨_, rfl⟩
  have l1 : o1.length = out.length + 1 := by rw [ho1]; simp
  have la := line_one i true bs x 0 hx (by decide) [] k (n + 1) o1 hb (by omega) (by omega)
  rw [if_pos rfl, List.append_nil] at la
  obtain ⟨o2, ho2⟩ : ∃ o2, o2 = o1 ++ bs.map (fun b => (wantLn (rgB x) (rgB 0) b, k)) := ⟨_, rfl⟩
  have l2 : o2.length = out.length + 1 + bs.length := by rw [ho2]; simp [l1]
  rw [← ho2] at la
  have lb := line_one i true bs 3 x (by decide) hx (108 :: rgB x) k (n + 1 + 1) o2 hb (by omega) (by omega)
  rw [if_neg (by simp)] at lb
  have hv : leaveP ⟨[103, 111], [], []⟩ k (unSt bs out n) = (0, unSt bs o1 n) := by
    have ht : textP ⟨[103, 111], [], []⟩ = [103, 111, 58] := by kernel_rfl
    unfold leaveP
    rw [ht, if_neg (by simp), if_neg (by simp [unSt]; omega), ho1]
    rfl
  have hk : blockP (callN (i + 1)) (some ([[120]], [rgB x])) 0 [twoLnA, twoLnB] k [] none (unSt bs o1 (n + 1)) = (0, k, unSt bs (o2 ++ [(108 :: rgB x ++ [58], k)] ++ bs.map fun b => (wantLn (rgB 3) (rgB x) b, k)) (n + 1 + 1 + 1)) := by
    rw [block_sub _ r1 (words_eq r3) la, block_sub _ r2 (words_eq r4) lb]
    simp [blockP]
  rw [← ho1, ← ho2]
  exact callN_ok (by simp [macTwo]) (by simp [unSt]; omega) hv hk

theorem UnRun.goes {bs : List (Nat × Nat × Nat)} {ls : List (List UInt8)} {out : List (List UInt8 × Nat)} {n : Nat} (h : UnRun bs ls out n) (hb : ∀ b ∈ bs, bodyOk b) (x : Nat) (hx : x < 4) (ho : out.length + 2 + bs.length + bs.length ≤ 300) (hn : n + 2 < 200) (hs : (textL ls).length ≤ 2980) :
    expandP (textL ls ++ goLn x) = (0, 0, out ++ [([103, 111, 58], ls.length + 1)] ++ bs.map (fun b => (wantLn (rgB x) (rgB 0) b, ls.length + 1)) ++ [(108 :: rgB x ++ [58], ls.length + 1)] ++ bs.map fun b => (wantLn (rgB 3) (rgB x) b, ls.length + 1)) := by
  obtain ⟨h1, h2⟩ := h
  have hc := call_two 6 bs hb x hx (ls.length + 1) n out ho hn
  have hf : findM (unSt bs out n).macros twoB = some macTwo := by
    unfold unSt
    simp [findM, macOne, macTwo, show ¬ oneB = twoB by decide]
  generalize hS : unSt bs (out ++ [([103, 111, 58], ls.length + 1)] ++ bs.map (fun b => (wantLn (rgB x) (rgB 0) b, ls.length + 1)) ++ [(108 :: rgB x ++ [58], ls.length + 1)] ++ bs.map fun b => (wantLn (rgB 3) (rgB x) b, ls.length + 1)) (n + 1 + 1 + 1) = S at hc
  have hline : lineP (callN 8) false ⟨[103, 111], twoB, [rgB x]⟩ (ls.length + 1) [] (unSt bs out n) = (0, [], none, S) := by
    unfold lineP
    simp only [show ¬ twoB = opIf by decide, show ¬ twoB = opElse by decide, show ¬ twoB = opEndif by decide, show ¬ twoB = opMacro by decide, show ¬ twoB = opEnd by decide, show ¬ twoB = opSet by decide, if_false, hf]
    rw [show callN 8 macTwo ⟨[103, 111], twoB, [rgB x]⟩ (ls.length + 1) (unSt bs out n) = (0, S) from hc]
  have := expandP_lines ls (goLn x) (ls.length + 1) S h1 (lines_ok.2.1 x hx) (by
    rw [List.length_append]
    have : (goLn x).length = 10 := by simp [goLn, rgB]
    omega) (by
    rw [h2, block_one _ (words_eq (go_read x hx)) (by intro h; cases h) (fun _ => hline)]
    simp [blockP])
  rw [this, ← hS]
  rfl

end Go.Proofs.YtcepppilgncdmaaDoor
