/-
  Lists of texts, and what was read of a line, as they lie in memory.
-/
import Derived.Test.YtcepppilgncdmaaGreatDoorBS05
import Derived.Test.YtcepppilgncdmaaGreatDoorBS01
namespace Go.Proofs.YtcepppilgncdmaaGreatDoor
open Go.RowKit

/-- A list of texts lies in the world, in a row of texts at or behind a place. -/
def StrV (w : World) (B : Nat) (v : Value) (ss : List ByteArray) : Prop :=
  (v = .slice none 0 0 ∧ ss = []) ∨ ∃ b off cap cur, v = .slice (some ⟨b, off, none⟩) ss.length cap ∧ B ≤ b ∧ w.heap[b]? = some (.cells cur 9 (0, 0)) ∧ ss.length ≤ cap ∧ ∀ i (h : i < ss.length), cur[off + i]? = some (.string ss[i])
theorem StrV.below {w w' : World} {B : Nat} {v : Value} {ss : List ByteArray} (h : StrV w B v ss) (hb : Below w.heap.size w w') : StrV w' B v ss := by
  rcases h with h | ⟨b, off, cap, cur, h1, h2, h3, h4⟩
  · exact Or.inl h
  · exact Or.inr ⟨b, off, cap, cur, h1, h2, by rw [hb.block b (Array.getElem?_eq_some_iff.1 h3).1]; exact h3, h4⟩
theorem StrV.mono {w : World} {B C : Nat} {v : Value} {ss : List ByteArray} (h : StrV w B v ss) (hc : C ≤ B) : StrV w C v ss := by
  rcases h with h | ⟨b, off, cap, cur, h1, h2, h3⟩
  · exact Or.inl h
  · exact Or.inr ⟨b, off, cap, cur, h1, Nat.le_trans hc h2, h3⟩
theorem StrV.form {w : World} {B : Nat} {v : Value} {ss : List ByteArray} (h : StrV w B v ss) : ∃ a cap, v = .slice a ss.length cap := by
  rcases h with ⟨h1, h2⟩ | ⟨b, off, cap, cur, h1, _⟩
  · subst h2; exact ⟨none, 0, h1⟩
  · exact ⟨_, cap, h1⟩

theorem StrV.set {w : World} {B : Nat} {v : Value} {ss : List ByteArray} (h : StrV w B v ss) (b j : Nat) (u : Value) (hb : ∀ k cur, w.heap[k]? = some (.cells cur 9 (0, 0)) → k ≠ b) : StrV (w.setCell ⟨b, j, none⟩ u) B v ss := by
  rcases h with h | ⟨k, off, cap, cur, h1, h2, h3, h4⟩
  · exact Or.inl h
  · exact Or.inr ⟨k, off, cap, cur, h1, h2, by rw [heap_setCell_other w ⟨b, j, none⟩ k u (hb k cur h3)]; exact h3, h4⟩

theorem RowT.notStr {w : World} {t g : Nat} {xs : List Value} (h : RowT w t g xs) (ht : t ≠ 9) : ∀ k cur, w.heap[k]? = some (.cells cur 9 (0, 0)) → k ≠ g := by
  rintro k cur hk rfl
  unfold RowT at h
  rw [h] at hk
  injection hk with hk
  injection hk with _ hk
  exact ht hk

/-- What was read of a line: three values, which say these words. -/
structure PartsV (w : World) (B : Nat) (lb op : ByteArray) (v : Value) (os : List ByteArray) (W : WordsP) : Prop where
  label : L lb = W.label
  op : L op = W.op
  ops : os.map L = W.operands
  at_ : StrV w B v os
theorem PartsV.below {w w' : World} {B : Nat} {lb op : ByteArray} {v : Value} {os : List ByteArray} {W : WordsP} (h : PartsV w B lb op v os W) (hb : Below w.heap.size w w') : PartsV w' B lb op v os W := ⟨h.label, h.op, h.ops, h.at_.below hb⟩

theorem StrV.cell {w : World} {B : Nat} {v : Value} {ss : List ByteArray} (h : StrV w B v ss) (k : Nat) (hk : k < ss.length) : ∃ b off cap, v = .slice (some ⟨b, off, none⟩) ss.length cap ∧ b < w.heap.size ∧ w.cell? ⟨b, off + k, none⟩ = some (.string ss[k]) := by
  rcases h with ⟨_, h⟩ | ⟨b, off, cap, cur, h1, h2, h3, h4, h5⟩
  · rw [h] at hk; simp at hk
  · exact ⟨b, off, cap, h1, (Array.getElem?_eq_some_iff.1 h3).1, by simp [World.cell?, h3, h5 k hk]⟩
end Go.Proofs.YtcepppilgncdmaaGreatDoor
