/-
  What the program does with a line that is not passed over and is no condition (package expand).
-/
import Derived.Test.YtcepppilgncdmaaDoorPDef
namespace Go.Proofs.YtcepppilgncdmaaDoor
open Go.RowKit
attribute [local go_sem ↓] Go.wp_at_zero Go.wp_at_succ

/-- The words of a short line. -/
def WOk (W : WordsP) : Prop := ∃ l : List UInt8, l.length ≤ 100 ∧ W = wordsP (cutL l)
theorem sumLen_bd (l : List (List UInt8)) (m : Nat) (h : ∀ x ∈ l, x.length ≤ m) : sumLen l ≤ l.length * (m + 1) := by
  induction l with
  | nil => simp [sumLen]
  | cons x r ih =>
    have h1 := ih (fun y hy => h y (by simp [hy]))
    have h2 := h x (by simp)
    unfold sumLen at h1 ⊢
    simp only [List.map_cons, List.sum_cons, List.length_cons]
    rw [Nat.succ_mul]
    omega
theorem WOk.bd {W : WordsP} (h : WOk W) : W.label.length ≤ 100 ∧ W.op.length ≤ 100 ∧ W.operands.length ≤ 101 ∧ (∀ x ∈ W.operands, x.length ≤ 100) ∧ (textP W).length ≤ 1000000 := by
  obtain ⟨l, hl, rfl⟩ := h
  have h0 := cutL_le l
  obtain ⟨h1, h2, h3, h4⟩ := wordsP_bd (cutL l)
  have h5 : ∀ x ∈ (wordsP (cutL l)).operands, x.length ≤ 100 := fun x hx => Nat.le_trans (h4 x hx) (by omega)
  refine ⟨by omega, by omega, by omega, h5, ?_⟩
  rw [textP_head, List.length_append, joined_len]
  have h6 := sumLen_bd _ 100 h5
  have h7 : (wordsP (cutL l)).operands.length * (100 + 1) ≤ 101 * 101 := Nat.mul_le_mul (by omega) (by omega)
  have h8 : (headP (wordsP (cutL l)).label (wordsP (cutL l)).op).length ≤ 300 := by
    unfold headP
    split
    · split
      · simp
      · simp only [List.length_append, List.length_cons, List.length_nil]; omega
    · split
      · omega
      · simp only [List.length_append, List.length_cons, List.length_nil]; omega
  omega
theorem WOk.parts {W : WordsP} (h : WOk W) {w : World} {C : Nat} {lb op : ByteArray} {v : Value} {os : List ByteArray} (hp : PartsV w C lb op v os W) : os.length ≤ 101 ∧ (∀ i (hi : i < os.length), os[i].size ≤ 100) ∧ lb.size ≤ 100 := by
  obtain ⟨h1, h2, h3, h4, _⟩ := h.bd
  refine ⟨by rw [← hp.two.2.1]; exact h3, fun i hi => ?_, by rw [size_L, hp.label]; exact h1⟩
  rw [size_L]
  exact h4 _ (by rw [← hp.ops]; exact List.mem_map.2 ⟨_, List.getElem_mem hi, rfl⟩)

theorem leaveP_ok {W : WordsP} {at_ k : Nat} {st : StP} (h : StOk st k) (he : (leaveP W at_ st).1 = 0) : StOk (leaveP W at_ st).2 k := by
  unfold leaveP at he ⊢
  split at he
  · rw [if_pos (by assumption)]; exact h
  · rename_i h1
    rw [if_neg h1]
    split at he
    · cases he
    · rename_i h2
      rw [if_neg h2]
      have := h.names
      exact ⟨h.macs, by simp; omega, by simp; omega, h.calls, h.few, h.taken⟩
theorem textP_ne {W : WordsP} (h : W.operands ≠ []) : textP W ≠ [] := by
  rw [textP_head]
  cases ho : W.operands with
  | nil => exact absurd ho h
  | cons a b => simp [joined]
theorem setP_ok {W : WordsP} {at_ k : Nat} {st : StP} (h : StOk st k) (he : (setP W at_ st).1 = 0) : StOk (setP W at_ st).2 k := by
  unfold setP at he ⊢
  split at he
  · cases he
  · rename_i h1
    rw [if_neg h1]
    split at he
    · cases he
    · rename_i h2
      rw [if_neg h2]
      split at he
      · rename_i h3; exact absurd he h3
      · rename_i h3
        rw [if_neg h3]
        unfold leaveP at he ⊢
        have hn := h.names
        split at he
        · rename_i h4
          exact absurd h4 (textP_ne (fun e => h1 (Or.inr (by rw [e]; simp))))
        · rename_i h4
          rw [if_neg h4]
          split at he
          · cases he
          · rename_i h5
            rw [if_neg h5]
            simp only at h5
            exact ⟨h.macs, by simp; omega, by simp; omega, h.calls, h.few, h.taken⟩

theorem bodyP_lines (ls : List (List UInt8)) (hl : ∀ l ∈ ls, l.length ≤ 100) : ∀ d, (∀ l ∈ d, l.length ≤ 100 ∧ cutL l = l) → (∀ l ∈ (bodyP d ls).2.1, l.length ≤ 100 ∧ cutL l = l) ∧ (bodyP d ls).2.1.length ≤ d.length + (bodyP d ls).2.2 := by
  induction ls with
  | nil => intro d hd; exact ⟨hd, by simp [bodyP]⟩
  | cons l r ih =>
    intro d hd
    simp only [bodyP]
    split
    · exact ⟨hd, by simp⟩
    · split
      · exact ⟨hd, by simp⟩
      · have h1 := ih (fun x hx => hl x (by simp [hx])) (d ++ [cutL l]) (fun x hx => by
          rcases List.mem_append.1 hx with h | h
          · exact hd x h
          · rw [List.mem_singleton] at h
            subst h
            exact ⟨Nat.le_trans (cutL_le l) (hl l (by simp)), cutL_twice l⟩)
        refine ⟨h1.1, ?_⟩
        have := h1.2
        simp only [List.length_append, List.length_cons, List.length_nil] at this ⊢
        omega
theorem bodyP_took {ls : List (List UInt8)} : ∀ {d}, (bodyP d ls).1 = 0 → 1 ≤ (bodyP d ls).2.2 := by
  induction ls with
  | nil => intro d h; cases h
  | cons l r ih =>
    intro d h
    simp only [bodyP] at h ⊢
    split
    · simp
    · split
      · simp
      · simp
theorem macR_ok {wi k : Nat} {W : WordsP} {st : StP} {ls : List (List UInt8)} (hW : WOk W) (h : StOk st k) (hk : k ≤ ls.length) (hll : ls.length ≤ 3001) (hl : ∀ l ∈ ls, l.length ≤ 100) (he : (macR wi k W st ls).1 = 0) : StOk (macR wi k W st ls).2.2 (macR wi k W st ls).2.1 := by
  unfold macR at he ⊢
  split at he
  · cases he
  · rename_i h1
    rw [if_neg h1]
    split at he
    · cases he
    · rename_i h2
      rw [if_neg h2]
      cases hf : findM st.macros (W.operands.headD []) with
      | some m => rw [hf] at he; cases he
      | none =>
        rw [hf] at he
        have he' : (bodyP [] (ls.drop k)).1 = 0 := he
        have hb := bodyP_lines (ls.drop k) (fun l hm => hl l (List.mem_of_mem_drop hm)) [] (fun _ h => by cases h)
        have ht := bodyP_took he'
        have hn := bodyP_len (ls.drop k) []
        rw [List.length_drop] at hn
        obtain ⟨_, _, b3, b4, _⟩ := hW.bd
        have hfew := h.few
        refine ⟨fun m hm => ?_, h.names, h.out, h.calls, ?_, ?_⟩
        · rcases List.mem_append.1 hm with h3 | h3
          · exact h.macs m h3
          · rw [List.mem_singleton] at h3
            subst h3
            refine ⟨by simp; omega, fun p hp => b4 p (List.mem_of_mem_tail hp), ?_, hb.1⟩
            have := hb.2
            simp only [List.length_nil] at this
            show (bodyP [] (ls.drop k)).2.1.length ≤ 3001
            omega
        · show (st.macros ++ [_]).length ≤ k + (bodyP [] (ls.drop k)).2.2
          rw [List.length_append]
          simp only [List.length_cons, List.length_nil]
          omega
        · show k + (bodyP [] (ls.drop k)).2.2 ≤ 3001
          omega

end Go.Proofs.YtcepppilgncdmaaDoor
