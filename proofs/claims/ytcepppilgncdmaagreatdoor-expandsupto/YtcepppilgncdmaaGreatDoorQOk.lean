/-
  What keeps the state within bounds, where a macro's lines are gone through. Nothing of the program stands here.
-/
import Derived.Test.YtcepppilgncdmaaGreatDoorPOther
namespace Go.Proofs.YtcepppilgncdmaaGreatDoor

def KeepsOk (call : MacP → WordsP → Nat → StP → Int × StP) (k : Nat) : Prop := ∀ m W at_ st, StOk st k → (call m W at_ st).1 = 0 → StOk (call m W at_ st).2 k
theorem line_ok {call : MacP → WordsP → Nat → StP → Int × StP} {k : Nat} (hc : KeepsOk call k) {inM : Bool} {W : WordsP} {at_ : Nat} {opens : List OpenP} {st : StP} (h : StOk st k) (h0 : (lineP call inM W at_ opens st).1 = 0) : StOk (lineP call inM W at_ opens st).2.2.2 k := by
  unfold lineP at h0 ⊢
  split at h0
  · rw [if_pos (by assumption)]; exact h
  rename_i h1; rw [if_neg h1]
  split at h0
  · rw [if_pos (by assumption)]; exact h
  rename_i h2; rw [if_neg h2]
  split at h0
  · rw [if_pos (by assumption)]; exact h
  rename_i h3; rw [if_neg h3]
  split at h0
  · rw [if_pos (by assumption)]; exact h
  rename_i h4; rw [if_neg h4]
  split at h0
  · rw [if_pos (by assumption)]; exact h
  rename_i h5; rw [if_neg h5]
  split at h0
  · rw [if_pos (by assumption)]; exact setP_ok h h0
  rename_i h6; rw [if_neg h6]
  cases hf : findM st.macros W.op with
  | some m => rw [hf] at h0; exact hc m W at_ st h h0
  | none => rw [hf] at h0; exact leaveP_ok h h0
theorem line_nodef {call : MacP → WordsP → Nat → StP → Int × StP} {W : WordsP} {at_ : Nat} {opens : List OpenP} {st : StP} (h0 : (lineP call true W at_ opens st).1 = 0) : (lineP call true W at_ opens st).2.2.1 = none := by
  unfold lineP at h0 ⊢
  split at h0
  · rw [if_pos (by assumption)]
  rename_i h1; rw [if_neg h1]
  split at h0
  · rw [if_pos (by assumption)]
  rename_i h2; rw [if_neg h2]
  split at h0
  · rw [if_pos (by assumption)]
  rename_i h3; rw [if_neg h3]
  split at h0
  · simp [defP] at h0
  rename_i h4; rw [if_neg h4]
  split at h0
  · rw [if_pos (by assumption)]
  rename_i h5; rw [if_neg h5]
  split at h0
  · rw [if_pos (by assumption)]
  rename_i h6; rw [if_neg h6]
  cases hf : findM st.macros W.op <;> rfl
theorem block_ok {call : MacP → WordsP → Nat → StP → Int × StP} {k : Nat} (hc : KeepsOk call k) (sub : List (List UInt8) × List (List UInt8)) (inc : Nat) : ∀ (ls : List (List UInt8)) (at_ : Nat) (opens : List OpenP) (st : StP), StOk st k → (blockP call (some sub) inc ls at_ opens none st).1 = 0 → StOk (blockP call (some sub) inc ls at_ opens none st).2.2 k
  | [], at_, opens, st, h, h0 => by
    simp only [blockP] at h0 ⊢
    split <;> exact h
  | l :: r, at_, opens, st, h, h0 => by
    simp only [blockP] at h0 ⊢
    split at h0
    · rename_i ho
      rw [if_pos ho]
      split at h0
      · rename_i h1; exact absurd h0 h1
      · rename_i h1; rw [if_neg h1]; exact block_ok hc sub inc r _ _ _ h h0
    · rename_i ho
      rw [if_neg ho]
      split at h0
      · rename_i h1; exact absurd h0 h1
      · rename_i h1
        rw [if_neg h1]
        split at h0
        · rename_i h2; exact absurd h0 h2
        · rename_i h2
          rw [if_neg h2]
          have h3 : (lineP call true (readP (some sub) false (cutL l)).2 (at_ + inc) opens st).1 = 0 := by simpa using h2
          have h4 := line_nodef h3
          rw [show (some sub).isSome = true from rfl, h4] at h0 ⊢
          exact block_ok hc sub inc r _ _ _ (line_ok hc h h3) h0
theorem call_ok : ∀ (n k : Nat), KeepsOk (callN n) k
  | 0, k => fun m W at_ st h h0 => by cases h0
  | n + 1, k => fun m W at_ st h h0 => by
    rw [callN] at h0 ⊢
    split at h0
    · cases h0
    rename_i h1; rw [if_neg h1]
    split at h0
    · cases h0
    rename_i h2; rw [if_neg h2]
    split at h0
    · rename_i h3; exact absurd h0 h3
    rename_i h3; rw [if_neg h3]
    have h4 := leaveP_ok h (by simpa using h3)
    refine block_ok (call_ok n k) _ 0 _ _ _ _ ⟨h4.macs, h4.names, h4.out, ?_, h4.few, h4.taken⟩ h0
    have h5 : ¬ 200 ≤ st.calls := h2
    show st.calls + 1 ≤ 200
    omega
end Go.Proofs.YtcepppilgncdmaaGreatDoor
