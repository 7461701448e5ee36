/-
  A block's lines, one after another: what the program's way through them has to do with the document's.
-/
import Derived.Test.YtcepppilgncdmaaDoorPDo
namespace Go.Proofs.YtcepppilgncdmaaDoor
open Go.RowKit

theorem ifP_chain {W : WordsP} {opens : List OpenP} {st : StP} (h : Chain opens) (he : (ifP W opens st).1 = 0) : Chain (ifP W opens st).2 := by
  unfold ifP at he ⊢
  split at he
  · simp at he
  · rename_i h8
    rw [if_neg h8]
    split at he
    · rename_i ho
      rw [if_pos ho]
      exact ⟨by rw [ho], h⟩
    · rename_i ho
      rw [if_neg ho]
      split at he
      · simp at he
      · rename_i hl
        rw [if_neg hl]
        split at he
        · rename_i hv
          exact absurd he hv
        · rename_i hv
          rw [if_neg hv]
          exact ⟨by simp [Bool.not_eq_true] at ho; rw [ho], h⟩
theorem elseP_chain {W : WordsP} {opens : List OpenP} (h : Chain opens) (he : (elseP W opens).1 = 0) : Chain (elseP W opens).2 := by
  cases opens with
  | nil => simp [elseP] at he
  | cons o r =>
    simp only [elseP] at he ⊢
    split at he
    · simp at he
    · rename_i h1
      rw [if_neg h1]
      split at he
      · simp at he
      · rename_i h2
        rw [if_neg h2]
        exact h
theorem endifP_chain {W : WordsP} {opens : List OpenP} (h : Chain opens) (he : (endifP W opens).1 = 0) : Chain (endifP W opens).2 := by
  cases opens with
  | nil => simp [endifP] at he
  | cons o r =>
    simp only [endifP] at he ⊢
    split at he
    · simp at he
    · rename_i h1
      rw [if_neg h1]
      exact h.2
theorem doP_chain {call : MacP → WordsP → Nat → StP → Int × StP} {wi k : Nat} {W : WordsP} {opens : List OpenP} {st : StP} {ls : List (List UInt8)} (h : Chain opens) (he : (doP call wi k W opens st ls).1 = 0) : Chain (doP call wi k W opens st ls).2.2.1 := by
  unfold doP at he ⊢
  by_cases h1 : W.op = opIf
  · rw [if_pos h1] at he ⊢; exact ifP_chain h he
  · rw [if_neg h1] at he ⊢
    by_cases h2 : W.op = opElse
    · rw [if_pos h2] at he ⊢; exact elseP_chain h he
    · rw [if_neg h2] at he ⊢
      by_cases h3 : W.op = opEndif
      · rw [if_pos h3] at he ⊢; exact endifP_chain h he
      · rw [if_neg h3] at he ⊢
        by_cases h4 : overP opens = true
        · rw [if_pos h4] at he ⊢; exact h
        · rw [if_neg h4] at he ⊢; exact h
theorem doP_at {call : MacP → WordsP → Nat → StP → Int × StP} {wi k : Nat} {W : WordsP} {opens : List OpenP} {st : StP} {ls : List (List UInt8)} (hw : 0 < wi) : (doP call wi k W opens st ls).2.1 = k := by
  unfold doP
  split
  · rfl
  · split
    · rfl
    · split
      · rfl
      · split
        · rfl
        · show (otherP call wi k W st ls).2.1 = k
          unfold otherP macR
          rw [if_pos hw]
          split
          · rfl
          · split
            · rfl
            · split
              · rfl
              · split <;> rfl

def headR (W : WordsP) (st : StP) : Int × Option MacP :=
  if headBad W = true then (4, none) else match findM st.macros (W.operands.headD []) with
    | some _ => (5, none)
    | none => (0, some ⟨W.operands.headD [], W.operands.tail, []⟩)
theorem defP_head (W : WordsP) (st : StP) : defP false W st = headR W st := by
  unfold defP headR headBad
  by_cases h1 : W.label = [] <;> by_cases h2 : W.operands = [] <;> cases h3 : allNames W.operands <;> cases h4 : apartP W.operands.tail <;> simp [h1, h2] <;> (cases findM st.macros (W.operands.head?.getD []) <;> rfl)

theorem blockP_over (call : MacP → WordsP → Nat → StP → Int × StP) (sub : Option (List (List UInt8) × List (List UInt8))) (inc : Nat) (l : List UInt8) (r : List (List UInt8)) (at_ : Nat) (opens : List OpenP) (st : StP) (ho : overP opens = true) :
    blockP call sub inc (l :: r) at_ opens none st = if (passP (wordsP (cutL l)) opens st).1 ≠ 0 then ((passP (wordsP (cutL l)) opens st).1, at_ + inc, st) else blockP call sub inc r (at_ + inc) (passP (wordsP (cutL l)) opens st).2 none st := by
  rw [blockP, if_pos ho]
theorem blockP_line (call : MacP → WordsP → Nat → StP → Int × StP) (sub : Option (List (List UInt8) × List (List UInt8))) (inc : Nat) (l : List UInt8) (r : List (List UInt8)) (at_ : Nat) (opens : List OpenP) (st : StP) (ho : ¬ overP opens = true) (W : WordsP) (hW : readP sub false (cutL l) = (0, W)) :
    blockP call sub inc (l :: r) at_ opens none st = if (lineP call sub.isSome W (at_ + inc) opens st).1 ≠ 0 then ((lineP call sub.isSome W (at_ + inc) opens st).1, at_ + inc, st) else blockP call sub inc r (at_ + inc) (lineP call sub.isSome W (at_ + inc) opens st).2.1 (lineP call sub.isSome W (at_ + inc) opens st).2.2.1 (lineP call sub.isSome W (at_ + inc) opens st).2.2.2 := by
  rw [blockP, if_neg ho, hW, if_neg (fun h => h rfl)]

/-- A text's line. -/
theorem block_text (call : MacP → WordsP → Nat → StP → Int × StP) (ls : List (List UInt8)) (k : Nat) (hk : k < ls.length) (opens : List OpenP) (st : StP) (r : Int × Nat × List OpenP × StP) (hr : doP call 0 (k + 1) (wordsP (cutL ls[k])) opens st ls = r) :
    (r.1 ≠ 0 → (blockP call none 1 (ls.drop k) k opens none st).1 = r.1 ∧ (blockP call none 1 (ls.drop k) k opens none st).2.1 = r.2.1) ∧
    (r.1 = 0 → blockP call none 1 (ls.drop k) k opens none st = blockP call none 1 (ls.drop r.2.1) r.2.1 r.2.2.1 none r.2.2.2) := by
  rw [List.drop_eq_getElem_cons hk]
  obtain ⟨W, hW⟩ : ∃ W, wordsP (cutL ls[k]) = W := ⟨_, rfl⟩
  rw [hW] at hr
  unfold doP at hr
  by_cases ho : overP opens = true
  · rw [blockP_over _ _ _ _ _ _ _ _ ho, hW]
    simp only [if_pos ho] at hr
    unfold passP
    by_cases h1 : W.op = opIf
    · simp only [if_pos h1] at hr ⊢
      subst hr
      exact ⟨fun h => by rw [if_pos h]; exact ⟨rfl, rfl⟩, fun h => if_neg (fun c => c h)⟩
    · simp only [if_neg h1] at hr ⊢
      by_cases h2 : W.op = opElse
      · simp only [if_pos h2] at hr ⊢
        subst hr
        exact ⟨fun h => by rw [if_pos h]; exact ⟨rfl, rfl⟩, fun h => if_neg (fun c => c h)⟩
      · simp only [if_neg h2] at hr ⊢
        by_cases h3 : W.op = opEndif
        · simp only [if_pos h3] at hr ⊢
          subst hr
          exact ⟨fun h => by rw [if_pos h]; exact ⟨rfl, rfl⟩, fun h => if_neg (fun c => c h)⟩
        · simp only [if_neg h3] at hr ⊢
          subst hr
          exact ⟨fun h => absurd rfl h, fun h => if_neg (fun c => c h)⟩
  · rw [blockP_line _ _ _ _ _ _ _ _ ho W (by rw [← hW]; simp [readP, cutL_twice])]
    simp only [if_neg ho] at hr
    simp only [Option.isSome_none]
    unfold lineP
    by_cases h1 : W.op = opIf
    · simp only [if_pos h1] at hr ⊢
      subst hr
      exact ⟨fun h => by rw [if_pos h]; exact ⟨rfl, rfl⟩, fun h => if_neg (fun c => c h)⟩
    · simp only [if_neg h1] at hr ⊢
      by_cases h2 : W.op = opElse
      · simp only [if_pos h2] at hr ⊢
        subst hr
        exact ⟨fun h => by rw [if_pos h]; exact ⟨rfl, rfl⟩, fun h => if_neg (fun c => c h)⟩
      · simp only [if_neg h2] at hr ⊢
        by_cases h3 : W.op = opEndif
        · simp only [if_pos h3] at hr ⊢
          subst hr
          exact ⟨fun h => by rw [if_pos h]; exact ⟨rfl, rfl⟩, fun h => if_neg (fun c => c h)⟩
        · simp only [if_neg h3] at hr ⊢
          unfold otherP at hr
          by_cases h4 : W.op = opMacro
          · simp only [if_pos h4] at hr ⊢
            simp only [defP_head]
            unfold headR
            unfold macR at hr
            rw [if_neg (Nat.lt_irrefl 0)] at hr
            by_cases h5 : headBad W = true
            · simp only [if_pos h5] at hr ⊢
              subst hr
              exact ⟨fun h => by rw [if_pos h]; exact ⟨rfl, rfl⟩, fun h => absurd h (by simp)⟩
            · simp only [if_neg h5] at hr ⊢
              cases h6 : findM st.macros (W.operands.headD []) with
              | some m =>
                simp only [h6] at hr ⊢
                subst hr
                exact ⟨fun h => by rw [if_pos h]; exact ⟨rfl, rfl⟩, fun h => absurd h (by simp)⟩
              | none =>
                simp only [h6] at hr ⊢
                subst hr
                rw [if_neg (fun c => c rfl), blockP_def]
                exact ⟨fun h => by rw [if_pos h]; exact ⟨rfl, rfl⟩, fun h => by rw [if_neg (fun c => c h), List.drop_drop]⟩
          · simp only [if_neg h4] at hr ⊢
            by_cases h5 : W.op = opEnd
            · simp only [if_pos h5] at hr ⊢
              subst hr
              exact ⟨fun h => by rw [if_pos h]; exact ⟨rfl, rfl⟩, fun h => absurd h (by simp)⟩
            · simp only [if_neg h5] at hr ⊢
              by_cases h6 : W.op = opSet
              · simp only [if_pos h6] at hr ⊢
                subst hr
                exact ⟨fun h => by rw [if_pos h]; exact ⟨rfl, rfl⟩, fun h => if_neg (fun c => c h)⟩
              · simp only [if_neg h6] at hr ⊢
                cases h7 : findM st.macros W.op with
                | some m =>
                  simp only [h7] at hr ⊢
                  subst hr
                  exact ⟨fun h => by rw [if_pos h]; exact ⟨rfl, rfl⟩, fun h => if_neg (fun c => c h)⟩
                | none =>
                  simp only [h7] at hr ⊢
                  subst hr
                  exact ⟨fun h => by rw [if_pos h]; exact ⟨rfl, rfl⟩, fun h => if_neg (fun c => c h)⟩

/-- A macro's line that cannot be filled. -/
theorem block_unread (call : MacP → WordsP → Nat → StP → Int × StP) (ps os : List (List UInt8)) (ls : List (List UInt8)) (j k : Nat) (hk : j < ls.length) (opens : List OpenP) (st : StP) (he : (readP (some (ps, os)) (overP opens) (cutL ls[j])).1 ≠ 0) :
    (blockP call (some (ps, os)) 0 (ls.drop j) k opens none st).1 = (readP (some (ps, os)) (overP opens) (cutL ls[j])).1 ∧ (blockP call (some (ps, os)) 0 (ls.drop j) k opens none st).2.1 = k := by
  rw [List.drop_eq_getElem_cons hk]
  cases ho : overP opens with
  | true => rw [ho] at he; simp [readP] at he
  | false =>
    rw [ho] at he
    rw [blockP, if_neg (by rw [ho]; decide), if_pos he]
    exact ⟨rfl, rfl⟩

/-- A macro's line. -/
theorem block_mac (call : MacP → WordsP → Nat → StP → Int × StP) (ps os : List (List UInt8)) (ls : List (List UInt8)) (wi j k : Nat) (hw : 0 < wi) (hk : j < ls.length) (hcut : cutL ls[j] = ls[j]) (opens : List OpenP) (st : StP) (he : (readP (some (ps, os)) (overP opens) (cutL ls[j])).1 = 0) (xs : List (List UInt8)) (r : Int × Nat × List OpenP × StP) (hr : doP call wi k (readP (some (ps, os)) (overP opens) (cutL ls[j])).2 opens st xs = r) :
    (r.1 ≠ 0 → (blockP call (some (ps, os)) 0 (ls.drop j) k opens none st).1 = r.1 ∧ (blockP call (some (ps, os)) 0 (ls.drop j) k opens none st).2.1 = k) ∧
    (r.1 = 0 → blockP call (some (ps, os)) 0 (ls.drop j) k opens none st = blockP call (some (ps, os)) 0 (ls.drop (j + 1)) k r.2.2.1 none r.2.2.2) := by
  rw [List.drop_eq_getElem_cons hk]
  unfold doP at hr
  by_cases ho : overP opens = true
  · have hW : (readP (some (ps, os)) (overP opens) (cutL ls[j])).2 = wordsP (cutL ls[j]) := by
      rw [ho]; simp only [readP, hcut]
    rw [hW] at hr
    rw [blockP_over _ _ _ _ _ _ _ _ ho]
    generalize wordsP (cutL ls[j]) = W at hr
    simp only [if_pos ho] at hr
    unfold passP
    by_cases h1 : W.op = opIf
    · simp only [if_pos h1] at hr ⊢
      subst hr
      exact ⟨fun h => by rw [if_pos h]; exact ⟨rfl, rfl⟩, fun h => if_neg (fun c => c h)⟩
    · simp only [if_neg h1] at hr ⊢
      by_cases h2 : W.op = opElse
      · simp only [if_pos h2] at hr ⊢
        subst hr
        exact ⟨fun h => by rw [if_pos h]; exact ⟨rfl, rfl⟩, fun h => if_neg (fun c => c h)⟩
      · simp only [if_neg h2] at hr ⊢
        by_cases h3 : W.op = opEndif
        · simp only [if_pos h3] at hr ⊢
          subst hr
          exact ⟨fun h => by rw [if_pos h]; exact ⟨rfl, rfl⟩, fun h => if_neg (fun c => c h)⟩
        · simp only [if_neg h3] at hr ⊢
          subst hr
          exact ⟨fun h => absurd rfl h, fun h => if_neg (fun c => c h)⟩
  · have ho' : overP opens = false := by simpa using ho
    simp only [if_neg ho] at hr
    rw [ho'] at hr he
    obtain ⟨W, hW⟩ : ∃ W, (readP (some (ps, os)) false (cutL ls[j])).2 = W := ⟨_, rfl⟩
    rw [hW] at hr
    rw [blockP_line _ _ _ _ _ _ _ _ ho W (Prod.ext he hW)]
    simp only [Option.isSome_some, Nat.add_zero]
    unfold lineP
    by_cases h1 : W.op = opIf
    · simp only [if_pos h1] at hr ⊢
      subst hr
      exact ⟨fun h => by rw [if_pos h]; exact ⟨rfl, rfl⟩, fun h => if_neg (fun c => c h)⟩
    · simp only [if_neg h1] at hr ⊢
      by_cases h2 : W.op = opElse
      · simp only [if_pos h2] at hr ⊢
        subst hr
        exact ⟨fun h => by rw [if_pos h]; exact ⟨rfl, rfl⟩, fun h => if_neg (fun c => c h)⟩
      · simp only [if_neg h2] at hr ⊢
        by_cases h3 : W.op = opEndif
        · simp only [if_pos h3] at hr ⊢
          subst hr
          exact ⟨fun h => by rw [if_pos h]; exact ⟨rfl, rfl⟩, fun h => if_neg (fun c => c h)⟩
        · simp only [if_neg h3] at hr ⊢
          unfold otherP at hr
          by_cases h4 : W.op = opMacro
          · simp only [if_pos h4] at hr ⊢
            unfold macR at hr
            rw [if_pos hw] at hr
            simp only [defP, if_true]
            subst hr
            exact ⟨fun h => by rw [if_pos h]; exact ⟨rfl, rfl⟩, fun h => absurd h (by simp)⟩
          · simp only [if_neg h4] at hr ⊢
            by_cases h5 : W.op = opEnd
            · simp only [if_pos h5] at hr ⊢
              subst hr
              exact ⟨fun h => by rw [if_pos h]; exact ⟨rfl, rfl⟩, fun h => absurd h (by simp)⟩
            · simp only [if_neg h5] at hr ⊢
              by_cases h6 : W.op = opSet
              · simp only [if_pos h6] at hr ⊢
                subst hr
                exact ⟨fun h => by rw [if_pos h]; exact ⟨rfl, rfl⟩, fun h => if_neg (fun c => c h)⟩
              · simp only [if_neg h6] at hr ⊢
                cases h7 : findM st.macros W.op with
                | some m =>
                  simp only [h7] at hr ⊢
                  subst hr
                  exact ⟨fun h => by rw [if_pos h]; exact ⟨rfl, rfl⟩, fun h => if_neg (fun c => c h)⟩
                | none =>
                  simp only [h7] at hr ⊢
                  subst hr
                  exact ⟨fun h => by rw [if_pos h]; exact ⟨rfl, rfl⟩, fun h => if_neg (fun c => c h)⟩

theorem WOk.line {l : List UInt8} (h : l.length ≤ 100) : WOk (wordsP (cutL l)) := ⟨l, h, rfl⟩
theorem WOk.read {sub : Option (List (List UInt8) × List (List UInt8))} {ov : Bool} {l : List UInt8} (h : l.length ≤ 100) : WOk (readP sub ov l).2 := by
  unfold readP
  split
  · rename_i ps os
    split
    · exact ⟨[], by simp, by rfl⟩
    · rename_i hz
      refine ⟨(filledP ps os l).2, ?_, rfl⟩
      unfold filledP at hz ⊢
      cases hf : fillP ps os l.length l with
      | none => rw [hf] at hz; simp at hz
      | some t =>
        simp only [hf] at hz ⊢
        split at hz
        · simp at hz
        · rename_i h80
          rw [if_neg h80]
          show t.length ≤ 100
          omega
  · exact ⟨l, h, rfl⟩

end Go.Proofs.YtcepppilgncdmaaDoor
