/-
  A block's lines, one after another: what the program's way through them has to do with the document's.
  All lines of a block (package expand): the text's.
-/
import Derived.Test.YtcepppilgncdmaaGreatDoorBA24
namespace Go.Proofs.YtcepppilgncdmaaGreatDoor
open Go.RowKit

theorem ifP_chain {W : WordsP} {opens : List OpenP} {st : StP} (h : Chain opens) (he : (ifP W opens st).1 = 0) : Chain (ifP W opens st).2 := by
  unfold ifP at he ⊢
  split at he
  · simp at he
  · rename_i h8
    rw [if_neg h8]
    split at he
    · rename_i ho
      rw [if_pos ho]
      exact ⟨by rw [ho], h⟩
    · rename_i ho
      rw [if_neg ho]
      split at he
      · simp at he
      · rename_i hl
        rw [if_neg hl]
        split at he
        · rename_i hv
          exact absurd he hv
        · rename_i hv
          rw [if_neg hv]
          exact ⟨by simp [Bool.not_eq_true] at ho; rw [ho], h⟩
theorem elseP_chain {W : WordsP} {opens : List OpenP} (h : Chain opens) (he : (elseP W opens).1 = 0) : Chain (elseP W opens).2 := by
  cases opens with
  | nil => simp [elseP] at he
  | cons o r =>
    simp only [elseP] at he ⊢
    split at he
    · simp at he
    · rename_i h1
      rw [if_neg h1]
      split at he
      · simp at he
      · rename_i h2
        rw [if_neg h2]
        exact h
theorem endifP_chain {W : WordsP} {opens : List OpenP} (h : Chain opens) (he : (endifP W opens).1 = 0) : Chain (endifP W opens).2 := by
  cases opens with
  | nil => simp [endifP] at he
  | cons o r =>
    simp only [endifP] at he ⊢
    split at he
    · simp at he
    · rename_i h1
      rw [if_neg h1]
      exact h.2
theorem doP_chain {call : MacP → WordsP → Nat → StP → Int × StP} {wi k : Nat} {W : WordsP} {opens : List OpenP} {st : StP} {ls : List (List UInt8)} (h : Chain opens) (he : (doP call wi k W opens st ls).1 = 0) : Chain (doP call wi k W opens st ls).2.2.1 := by
  unfold doP at he ⊢
  by_cases h1 : W.op = opIf
  · rw [if_pos h1] at he ⊢; exact ifP_chain h he
  · rw [if_neg h1] at he ⊢
    by_cases h2 : W.op = opElse
    · rw [if_pos h2] at he ⊢; exact elseP_chain h he
    · rw [if_neg h2] at he ⊢
      by_cases h3 : W.op = opEndif
      · rw [if_pos h3] at he ⊢; exact endifP_chain h he
      · rw [if_neg h3] at he ⊢
        by_cases h4 : overP opens = true
        · rw [if_pos h4] at he ⊢; exact h
        · rw [if_neg h4] at he ⊢; exact h
theorem doP_at {call : MacP → WordsP → Nat → StP → Int × StP} {wi k : Nat} {W : WordsP} {opens : List OpenP} {st : StP} {ls : List (List UInt8)} (hw : 0 < wi) : (doP call wi k W opens st ls).2.1 = k := by
  unfold doP
  split
  · rfl
  · split
    · rfl
    · split
      · rfl
      · split
        · rfl
        · show (otherP call wi k W st ls).2.1 = k
          unfold otherP macR
          rw [if_pos hw]
          split
          · rfl
          · split
            · rfl
            · split
              · rfl
              · split <;> rfl

def headR (W : WordsP) (st : StP) : Int × Option MacP :=
  if headBad W = true then (4, none) else match findM st.macros (W.operands.headD []) with
    | some _ => (5, none)
    | none => (0, some ⟨W.operands.headD [], W.operands.tail, []⟩)
theorem defP_head (W : WordsP) (st : StP) : defP false W st = headR W st := by
  unfold defP headR headBad
  by_cases h1 : W.label = [] <;> by_cases h2 : W.operands = [] <;> cases h3 : allNames W.operands <;> cases h4 : apartP W.operands.tail <;> simp [h1, h2] <;> (cases findM st.macros (W.operands.head?.getD []) <;> rfl)

theorem blockP_over (call : MacP → WordsP → Nat → StP → Int × StP) (sub : Option (List (List UInt8) × List (List UInt8))) (inc : Nat) (l : List UInt8) (r : List (List UInt8)) (at_ : Nat) (opens : List OpenP) (st : StP) (ho : overP opens = true) :
    blockP call sub inc (l :: r) at_ opens none st = if (passP (wordsP (cutL l)) opens st).1 ≠ 0 then ((passP (wordsP (cutL l)) opens st).1, at_ + inc, st) else blockP call sub inc r (at_ + inc) (passP (wordsP (cutL l)) opens st).2 none st := by
  rw [blockP, if_pos ho]
theorem blockP_line (call : MacP → WordsP → Nat → StP → Int × StP) (sub : Option (List (List UInt8) × List (List UInt8))) (inc : Nat) (l : List UInt8) (r : List (List UInt8)) (at_ : Nat) (opens : List OpenP) (st : StP) (ho : ¬ overP opens = true) (W : WordsP) (hW : readP sub false (cutL l) = (0, W)) :
    blockP call sub inc (l :: r) at_ opens none st = if (lineP call sub.isSome W (at_ + inc) opens st).1 ≠ 0 then ((lineP call sub.isSome W (at_ + inc) opens st).1, at_ + inc, st) else blockP call sub inc r (at_ + inc) (lineP call sub.isSome W (at_ + inc) opens st).2.1 (lineP call sub.isSome W (at_ + inc) opens st).2.2.1 (lineP call sub.isSome W (at_ + inc) opens st).2.2.2 := by
  rw [blockP, if_neg ho, hW, if_neg (fun h => h rfl)]

/-- A text's line. -/
theorem block_text (call : MacP → WordsP → Nat → StP → Int × StP) (ls : List (List UInt8)) (k : Nat) (hk : k < ls.length) (opens : List OpenP) (st : StP) (r : Int × Nat × List OpenP × StP) (hr : doP call 0 (k + 1) (wordsP (cutL ls[k])) opens st ls = r) :
    (r.1 ≠ 0 → (blockP call none 1 (ls.drop k) k opens none st).1 = r.1 ∧ (blockP call none 1 (ls.drop k) k opens none st).2.1 = r.2.1) ∧
    (r.1 = 0 → blockP call none 1 (ls.drop k) k opens none st = blockP call none 1 (ls.drop r.2.1) r.2.1 r.2.2.1 none r.2.2.2) := by
  rw [List.drop_eq_getElem_cons hk]
  obtain ⟨W, hW⟩ : ∃ W, wordsP (cutL ls[k]) = W := ⟨_, rfl⟩
  rw [hW] at hr
  unfold doP at hr
  by_cases ho : overP opens = true
  · rw [blockP_over _ _ _ _ _ _ _ _ ho, hW]
    simp only [if_pos ho] at hr
    unfold passP
    by_cases h1 : W.op = opIf
    · simp only [if_pos h1] at hr ⊢
      subst hr
      exact ⟨fun h => by rw [if_pos h]; exact ⟨rfl, rfl⟩, fun h => if_neg (fun c => c h)⟩
    · simp only [if_neg h1] at hr ⊢
      by_cases h2 : W.op = opElse
      · simp only [if_pos h2] at hr ⊢
        subst hr
        exact ⟨fun h => by rw [if_pos h]; exact ⟨rfl, rfl⟩, fun h => if_neg (fun c => c h)⟩
      · simp only [if_neg h2] at hr ⊢
        by_cases h3 : W.op = opEndif
        · simp only [if_pos h3] at hr ⊢
          subst hr
          exact ⟨fun h => by rw [if_pos h]; exact ⟨rfl, rfl⟩, fun h => if_neg (fun c => c h)⟩
        · simp only [if_neg h3] at hr ⊢
          subst hr
          exact ⟨fun h => absurd rfl h, fun h => if_neg (fun c => c h)⟩
  · rw [blockP_line _ _ _ _ _ _ _ _ ho W (by rw [← hW]; simp [readP, cutL_twice])]
    simp only [if_neg ho] at hr
    simp only [Option.isSome_none]
    unfold lineP
    by_cases h1 : W.op = opIf
    · simp only [if_pos h1] at hr ⊢
      subst hr
      exact ⟨fun h => by rw [if_pos h]; exact ⟨rfl, rfl⟩, fun h => if_neg (fun c => c h)⟩
    · simp only [if_neg h1] at hr ⊢
      by_cases h2 : W.op = opElse
      · simp only [if_pos h2] at hr ⊢
        subst hr
        exact ⟨fun h => by rw [if_pos h]; exact ⟨rfl, rfl⟩, fun h => if_neg (fun c => c h)⟩
      · simp only [if_neg h2] at hr ⊢
        by_cases h3 : W.op = opEndif
        · simp only [if_pos h3] at hr ⊢
          subst hr
          exact ⟨fun h => by rw [if_pos h]; exact ⟨rfl, rfl⟩, fun h => if_neg (fun c => c h)⟩
        · simp only [if_neg h3] at hr ⊢
          unfold otherP at hr
          by_cases h4 : W.op = opMacro
          · simp only [if_pos h4] at hr ⊢
            simp only [defP_head]
            unfold headR
            unfold macR at hr
            rw [if_neg (Nat.lt_irrefl 0)] at hr
            by_cases h5 : headBad W = true
            · simp only [if_pos h5] at hr ⊢
              subst hr
              exact ⟨fun h => by rw [if_pos h]; exact ⟨rfl, rfl⟩, fun h => absurd h (by simp)⟩
            · simp only [if_neg h5] at hr ⊢
              cases h6 : findM st.macros (W.operands.headD []) with
              | some m =>
                simp only [h6] at hr ⊢
                subst hr
                exact ⟨fun h => by rw [if_pos h]; exact ⟨rfl, rfl⟩, fun h => absurd h (by simp)⟩
              | none =>
                simp only [h6] at hr ⊢
                subst hr
                rw [if_neg (fun c => c rfl), blockP_def]
                exact ⟨fun h => by rw [if_pos h]; exact ⟨rfl, rfl⟩, fun h => by rw [if_neg (fun c => c h), List.drop_drop]⟩
          · simp only [if_neg h4] at hr ⊢
            by_cases h5 : W.op = opEnd
            · simp only [if_pos h5] at hr ⊢
              subst hr
              exact ⟨fun h => by rw [if_pos h]; exact ⟨rfl, rfl⟩, fun h => absurd h (by simp)⟩
            · simp only [if_neg h5] at hr ⊢
              by_cases h6 : W.op = opSet
              · simp only [if_pos h6] at hr ⊢
                subst hr
                exact ⟨fun h => by rw [if_pos h]; exact ⟨rfl, rfl⟩, fun h => if_neg (fun c => c h)⟩
              · simp only [if_neg h6] at hr ⊢
                cases h7 : findM st.macros W.op with
                | some m =>
                  simp only [h7] at hr ⊢
                  subst hr
                  exact ⟨fun h => by rw [if_pos h]; exact ⟨rfl, rfl⟩, fun h => if_neg (fun c => c h)⟩
                | none =>
                  simp only [h7] at hr ⊢
                  subst hr
                  exact ⟨fun h => by rw [if_pos h]; exact ⟨rfl, rfl⟩, fun h => if_neg (fun c => c h)⟩

/-- A macro's line that cannot be filled. -/
theorem block_unread (call : MacP → WordsP → Nat → StP → Int × StP) (ps os : List (List UInt8)) (ls : List (List UInt8)) (j k : Nat) (hk : j < ls.length) (opens : List OpenP) (st : StP) (he : (readP (some (ps, os)) (overP opens) (cutL ls[j])).1 ≠ 0) :
    (blockP call (some (ps, os)) 0 (ls.drop j) k opens none st).1 = (readP (some (ps, os)) (overP opens) (cutL ls[j])).1 ∧ (blockP call (some (ps, os)) 0 (ls.drop j) k opens none st).2.1 = k := by
  rw [List.drop_eq_getElem_cons hk]
  cases ho : overP opens with
  | true => rw [ho] at he; simp [readP] at he
  | false =>
    rw [ho] at he
    rw [blockP, if_neg (by rw [ho]; decide), if_pos he]
    exact ⟨rfl, rfl⟩

/-- A macro's line. -/
theorem block_mac (call : MacP → WordsP → Nat → StP → Int × StP) (ps os : List (List UInt8)) (ls : List (List UInt8)) (wi j k : Nat) (hw : 0 < wi) (hk : j < ls.length) (hcut : cutL ls[j] = ls[j]) (opens : List OpenP) (st : StP) (he : (readP (some (ps, os)) (overP opens) (cutL ls[j])).1 = 0) (xs : List (List UInt8)) (r : Int × Nat × List OpenP × StP) (hr : doP call wi k (readP (some (ps, os)) (overP opens) (cutL ls[j])).2 opens st xs = r) :
    (r.1 ≠ 0 → (blockP call (some (ps, os)) 0 (ls.drop j) k opens none st).1 = r.1 ∧ (blockP call (some (ps, os)) 0 (ls.drop j) k opens none st).2.1 = k) ∧
    (r.1 = 0 → blockP call (some (ps, os)) 0 (ls.drop j) k opens none st = blockP call (some (ps, os)) 0 (ls.drop (j + 1)) k r.2.2.1 none r.2.2.2) := by
  rw [List.drop_eq_getElem_cons hk]
  unfold doP at hr
  by_cases ho : overP opens = true
  · have hW : (readP (some (ps, os)) (overP opens) (cutL ls[j])).2 = wordsP (cutL ls[j]) := by
      rw [ho]; simp only [readP, hcut]
    rw [hW] at hr
    rw [blockP_over _ _ _ _ _ _ _ _ ho]
    generalize wordsP (cutL ls[j]) = W at hr
    simp only [if_pos ho] at hr
    unfold passP
    by_cases h1 : W.op = opIf
    · simp only [if_pos h1] at hr ⊢
      subst hr
      exact ⟨fun h => by rw [if_pos h]; exact ⟨rfl, rfl⟩, fun h => if_neg (fun c => c h)⟩
    · simp only [if_neg h1] at hr ⊢
      by_cases h2 : W.op = opElse
      · simp only [if_pos h2] at hr ⊢
        subst hr
        exact ⟨fun h => by rw [if_pos h]; exact ⟨rfl, rfl⟩, fun h => if_neg (fun c => c h)⟩
      · simp only [if_neg h2] at hr ⊢
        by_cases h3 : W.op = opEndif
        · simp only [if_pos h3] at hr ⊢
          subst hr
          exact ⟨fun h => by rw [if_pos h]; exact ⟨rfl, rfl⟩, fun h => if_neg (fun c => c h)⟩
        · simp only [if_neg h3] at hr ⊢
          subst hr
          exact ⟨fun h => absurd rfl h, fun h => if_neg (fun c => c h)⟩
  · have ho' : overP opens = false := by simpa using ho
    simp only [if_neg ho] at hr
    rw [ho'] at hr he
    obtain ⟨W, hW⟩ : ∃ W, (readP (some (ps, os)) false (cutL ls[j])).2 = W := ⟨_, rfl⟩
    rw [hW] at hr
    rw [blockP_line _ _ _ _ _ _ _ _ ho W (Prod.ext he hW)]
    simp only [Option.isSome_some, Nat.add_zero]
    unfold lineP
    by_cases h1 : W.op = opIf
    · simp only [if_pos h1] at hr ⊢
      subst hr
      exact ⟨fun h => by rw [if_pos h]; exact ⟨rfl, rfl⟩, fun h => if_neg (fun c => c h)⟩
    · simp only [if_neg h1] at hr ⊢
      by_cases h2 : W.op = opElse
      · simp only [if_pos h2] at hr ⊢
        subst hr
        exact ⟨fun h => by rw [if_pos h]; exact ⟨rfl, rfl⟩, fun h => if_neg (fun c => c h)⟩
      · simp only [if_neg h2] at hr ⊢
        by_cases h3 : W.op = opEndif
        · simp only [if_pos h3] at hr ⊢
          subst hr
          exact ⟨fun h => by rw [if_pos h]; exact ⟨rfl, rfl⟩, fun h => if_neg (fun c => c h)⟩
        · simp only [if_neg h3] at hr ⊢
          unfold otherP at hr
          by_cases h4 : W.op = opMacro
          · simp only [if_pos h4] at hr ⊢
            unfold macR at hr
            rw [if_pos hw] at hr
            simp only [defP, if_true]
            subst hr
            exact ⟨fun h => by rw [if_pos h]; exact ⟨rfl, rfl⟩, fun h => absurd h (by simp)⟩
          · simp only [if_neg h4] at hr ⊢
            by_cases h5 : W.op = opEnd
            · simp only [if_pos h5] at hr ⊢
              subst hr
              exact ⟨fun h => by rw [if_pos h]; exact ⟨rfl, rfl⟩, fun h => absurd h (by simp)⟩
            · simp only [if_neg h5] at hr ⊢
              by_cases h6 : W.op = opSet
              · simp only [if_pos h6] at hr ⊢
                subst hr
                exact ⟨fun h => by rw [if_pos h]; exact ⟨rfl, rfl⟩, fun h => if_neg (fun c => c h)⟩
              · simp only [if_neg h6] at hr ⊢
                cases h7 : findM st.macros W.op with
                | some m =>
                  simp only [h7] at hr ⊢
                  subst hr
                  exact ⟨fun h => by rw [if_pos h]; exact ⟨rfl, rfl⟩, fun h => if_neg (fun c => c h)⟩
                | none =>
                  simp only [h7] at hr ⊢
                  subst hr
                  exact ⟨fun h => by rw [if_pos h]; exact ⟨rfl, rfl⟩, fun h => if_neg (fun c => c h)⟩

theorem WOk.line {l : List UInt8} (h : l.length ≤ 100) : WOk (wordsP (cutL l)) := ⟨l, h, rfl⟩
theorem WOk.read {sub : Option (List (List UInt8) × List (List UInt8))} {ov : Bool} {l : List UInt8} (h : l.length ≤ 100) : WOk (readP sub ov l).2 := by
  unfold readP
  split
  · rename_i ps os
    split
    · exact ⟨[], by simp, by rfl⟩
    · rename_i hz
      refine ⟨(filledP ps os l).2, ?_, rfl⟩
      unfold filledP at hz ⊢
      cases hf : fillP ps os l.length l with
      | none => rw [hf] at hz; simp at hz
      | some t =>
        simp only [hf] at hz ⊢
        split at hz
        · simp at hz
        · rename_i h80
          rw [if_neg h80]
          show t.length ≤ 100
          omega
  · exact ⟨l, h, rfl⟩

end Go.Proofs.YtcepppilgncdmaaGreatDoor

namespace Go.Proofs.YtcepppilgncdmaaGreatDoor
open Go.RowKit
attribute [local go_sem ↓] Go.wp_at_zero Go.wp_at_succ

def GoPost (B be bt wi : Nat) (M : List Nat) (r : Int × Nat × StP) (w : World) (e : Ending) (w' : World) : Prop :=
  e = .returned (.int .i64 r.1) ∧ Fr B M w w' ∧ NumAt w' be bt wi r.2.1 ∧ (r.1 = 0 → ExpSt w' B be bt wi r.2.1 r.2.2 ∧ StOk r.2.2 r.2.1)

theorem doP_ge {call : MacP → WordsP → Nat → StP → Int × StP} {wi k : Nat} {W : WordsP} {opens : List OpenP} {st : StP} {ls : List (List UInt8)} : k ≤ (doP call wi k W opens st ls).2.1 := by
  unfold doP
  split
  · exact Nat.le_refl _
  · split
    · exact Nat.le_refl _
    · split
      · exact Nat.le_refl _
      · split
        · exact Nat.le_refl _
        · show k ≤ (otherP call wi k W st ls).2.1
          unfold otherP
          split
          · unfold macR
            split
            · exact Nat.le_refl _
            · split
              · exact Nat.le_refl _
              · split
                · exact Nat.le_refl _
                · exact Nat.le_add_right _ _
          · split
            · exact Nat.le_refl _
            · split
              · exact Nat.le_refl _
              · split <;> exact Nat.le_refl _
theorem blockP_nil (call : MacP → WordsP → Nat → StP → Int × StP) (sub : Option (List (List UInt8) × List (List UInt8))) (inc at_ : Nat) (opens : List OpenP) (st : StP) :
    blockP call sub inc [] at_ opens none st = if opens = [] then (0, at_, st) else (2, at_, st) := by
  rw [blockP]; simp
theorem StOk.later {st : StP} {k : Nat} (h : StOk st k) {j : Nat} (hk : k ≤ j) (hj : j ≤ 3001) : StOk st j := ⟨h.macs, h.names, h.out, h.calls, Nat.le_trans h.few hk, hj⟩

set_option maxRecDepth 100000 in
set_option maxHeartbeats 800000 in
theorem goT_any (hcall : CallOk 8) (w : World) (B be bt : Nat) (st0 : StP) (lv : Value) (ls : List ByteArray)
    (h : ExpSt w B be bt 0 0 st0) (hra : ReadAt w B 74 bt (.slice none 0 0) lv ls 0 [] []) (hls : ∀ i (hi : i < ls.length), ls[i].size ≤ 100) (hok : StOk st0 0) (hm : MaxAt w) (hgB : 0 < B) (hB : B ≤ w.heap.size) (hbt : B ≤ bt) (R : Int × Nat × StP) (hR : blockP (callN 8) none 1 (ls.map L) 0 [] none st0 = R) :
    Calls Tryz.prog 31 #[.pointer (some ⟨be, 0, none⟩), .iface 69 (.pointer (some ⟨bt, 0, none⟩))] w (GoPost B be bt 0 [bt] R w) := by
  have hrd : Rd 69 74 := Or.inl ⟨rfl, rfl⟩
  have hfew := hra.few
  have m1 := fun w => ask_more hrd bt w
  have m2 := fun w => ask_lread bt w
  have m3 := fun w => ask_depth hrd bt w
  have HS := hid h
  have HRA := hid hra
  have HLS := hid hls
  have HOK := hid hok
  have HM := hid hm
  have HR := hid hR
  clear h hra hls hok hm hR
  go_enter Tryz.func31, Tryz.ntmps31
  go_wp2_with fail
  go_loopg [4] (ls.length + 1) (fun q x wr => ∃ (k : Nat) (opens : List OpenP) (st : StP) (v : Value), q + k = ls.length + 1 ∧ ExpSt wr B be bt 0 k st ∧ ReadAt wr B 74 bt v lv ls k [] opens ∧ Chain opens ∧ StOk st k ∧ Fr B [bt] w wr ∧ (∀ g, v.ownBlock = some g → w.heap.size ≤ g) ∧ blockP (callN 8) none 1 ((ls.map L).drop k) k opens none st = R)
  case atStart => exact ⟨0, [], st0, .slice none 0 0, by simp, HS.out, HRA.out, trivial, HOK.out, Fr.refl _ _ _, (fun g hg => by cases hg), HR.out⟩
  case round =>
    obtain ⟨k, opens, st, v, hq, hs, hra, hch, hok, hfr, hvn, hbr⟩ := hrel
    have HS := hid hs
    have HRA := hid hra
    have HCH := hid hch
    have HOK := hid hok
    have HFR := hid hfr
    have HVN := hid hvn
    have HBR := hid hbr
    have HMr := hid (HM.out.fr hfr hgB)
    have hBr : B ≤ wr.heap.size := Nat.le_trans hB hfr.size
    have hop8 := hra.cond.few
    clear hs hra hch hok hfr hvn hbr
    go_wp2_with fail
    refine (more_any _ B _ bt v lv ls k [] opens HRA.out).mono ?_
    by_cases hlt : k < ls.length
    · rw [decide_eq_true hlt]
      rintro e w1 ⟨rfl, hb1⟩
      have HS := hid (HS.out.below hb1)
      have HRA := hid (HRA.out.below hb1)
      have HFR := hid (HFR.out.trans (Fr.of_below hb1))
      have HMr := hid (HMr.out.below hb1)
      have hBr : B ≤ w1.heap.size := Nat.le_trans hBr hb1.size
      clear hb1
      have hls := HLS.out k hlt
      go_wp2_with fail
      refine (lread_any _ B _ bt v lv ls k [] opens HRA.out hlt (by decide) (by decide) (by decide) rfl hbt (by omega) HMr.out hgB).mono ?_
      rintro e w2 ⟨lb, op, va, vc, os, rfl, hpv, hra, hfr⟩
      have HS := hid (HS.out.frc hfr ⟨_, hra.cond.row, rfl⟩ : ExpSt w2 B be bt 0 (k + 1) st)
      have HRA := hid hra
      have HFR := hid (HFR.out.trans hfr.to)
      have HMr := hid (HMr.out.fr hfr hgB)
      have hBr : B ≤ w2.heap.size := Nat.le_trans hBr hfr.size
      have HPV := hid hpv
      clear hpv hra hfr
      have hb4 : Below w2.heap.size w2 (w2.alloc (.cells #[.string lb, .string op, .slice va os.length vc] 101)) := (Below.refl _ _).alloc (Nat.le_refl _) _
      have HS := hid (HS.out.below hb4)
      have HRA := hid (HRA.out.below hb4)
      have HFR := hid (HFR.out.trans (Fr.of_below hb4))
      have HMr := hid (HMr.out.below hb4)
      have HPV := hid (HPV.out.below hb4)
      have hBr := Nat.le_trans hBr hb4.size
      clear hb4
      go_wp2_with fail
      refine (do_any 8 hcall _ B be bt 0 (k + 1) _ _ bt (k + 1) st v lv ls [] opens lb op va vc os _ 0 rfl (Or.inl ⟨rfl, rfl, rfl, rfl, rfl⟩) HS.out HRA.out HCH.out HPV.out (WOk.line (by rw [L_length]; exact hls)) HLS.out (HOK.out.later (Nat.le_succ k) (by omega)) HMr.out hgB hBr hbt hbt).mono ?_
      obtain ⟨r, hr⟩ : ∃ r, doP (callN 8) 0 (k + 1) (wordsP (cutL (L ls[k]))) opens st (ls.map L) = r := ⟨_, rfl⟩
      have hge : k + 1 ≤ r.2.1 := by rw [← hr]; exact doP_ge
      have hcr : r.1 = 0 → Chain r.2.2.1 := by rw [← hr]; exact doP_chain HCH.out
      have hbt2 := block_text (callN 8) (ls.map L) k (by simpa using hlt) opens st r (by rw [List.getElem_map]; exact hr)
      rw [hr]
      have HCR := hid hcr
      have HBT := hid hbt2
      clear hr hcr hbt2
      rintro e w3 ⟨rfl, hf3, hn3, hs3⟩
      have HF3 := hid (HFR.out.trans' hf3 (fun i hi => by
        unfold condM at hi
        rcases List.mem_cons.1 hi with h1 | h1
        · exact Or.inl (by rw [h1]; simp)
        · exact Or.inr (HVN.out i (by cases hv : v.ownBlock with
            | none => rw [hv] at h1; cases h1
            | some g => rw [hv] at h1; simp at h1; rw [h1]))))
      have HN3 := hid hn3
      have HS3 := hid hs3
      have hsz := HFR.out.size
      clear hf3 hn3 hs3
      by_cases h0 : r.1 = 0
      · have k0 : decide (r.1 = 0) = true := decide_eq_true h0
        go_wp2_with fail
        go_roundg (ls.length + 1 - r.2.1)
        case measure => omega
        case rel =>
          obtain ⟨h1, h2, v', h3, h4⟩ := HS3.out h0
          refine ⟨r.2.1, r.2.2.1, r.2.2.2, v', ?_, h1, h4, HCR.out h0, h2, HF3.out, fun g hg => ?_, ?_⟩
          · have := h4.le; have e1 : nextJ 0 r.2.1 (k + 1) = r.2.1 := rfl; rw [e1] at this; omega
          · rcases h3 g hg with h5 | h5
            · exact HVN.out g h5
            · omega
          · rw [← HBT.out.2 h0]; exact HBR.out
      · have k0 : decide (r.1 = 0) = false := decide_eq_false h0
        go_wp2_with fail
        go_ret
        obtain ⟨h1, h2⟩ := HBT.out.1 h0
        rw [HBR.out] at h1 h2
        refine ⟨by rw [h1]; rfl, HF3.out, by rw [h2]; exact HN3.out, fun h5 => absurd (h1.symm.trans h5) h0⟩
    · rw [decide_eq_false hlt]
      have hbr := HBR.out
      rw [List.drop_eq_nil_of_le (by simp; omega), blockP_nil] at hbr
      rintro e w1 ⟨rfl, hb1⟩
      have HBR := hid hbr
      have HS := hid (HS.out.below hb1)
      have HRA := hid (HRA.out.below hb1)
      have HFR := hid (HFR.out.trans (Fr.of_below hb1))
      clear hbr hb1
      go_wp2_with fail
      refine (depth_any _ B _ bt v _ opens HRA.out.cond).mono ?_
      rintro e w2 ⟨rfl, rfl⟩
      by_cases ho : opens = []
      · subst ho
        have hbr := HBR.out
        rw [if_pos rfl] at hbr
        subst hbr
        go_wp2_with fail
        go_ret
        exact ⟨rfl, HFR.out, HS.out.num, fun _ => ⟨HS.out, HOK.out⟩⟩
      · have hbr := HBR.out
        rw [if_neg ho] at hbr
        subst hbr
        have hl : 0 < opens.length := List.length_pos_iff.2 ho
        have k0 : decide ((opens.length : Int) > 0) = true := decide_eq_true (by omega)
        clear ho
        go_wp2_with fail
        go_ret
        exact ⟨rfl, HFR.out, HS.out.num, fun h => by cases h⟩

end Go.Proofs.YtcepppilgncdmaaGreatDoor
