/-
  What of the memory a function of the document's own package may turn: rows of the types E at or behind a place, and of the types R those that are listed.
-/
import Derived.Test.YtcepppilgncdmaaGreatDoorFrame
import Derived.Test.YtcepppilgncdmaaGreatDoorRefText
namespace Go.Proofs.YtcepppilgncdmaaGreatDoor
open Go.RowKit

def keptQ (E R : TypeId → Bool) (M : List Nat) (k : Nat) : Obj → Bool
  | .cells _ t _ => !E t && (!R t || !M.contains k)
  | _ => true

/-- Rows at or behind B of the types E, and of readers those of M, may have turned; no others that were there. -/
structure FrQ (E R : TypeId → Bool) (B : Nat) (M : List Nat) (w w' : World) : Prop where
  os : w'.os = w.os
  tape : w'.tape = w.tape
  output : w'.output = w.output
  size : w.heap.size ≤ w'.heap.size
  block : ∀ k o, w.heap[k]? = some o → (k < B ∨ keptQ E R M k o = true) → w'.heap[k]? = some o

theorem FrQ.refl (E R : TypeId → Bool) (B : Nat) (M : List Nat) (w : World) : FrQ E R B M w w := ⟨rfl, rfl, rfl, Nat.le_refl _, fun _ _ h _ => h⟩
theorem FrQ.trans {E R : TypeId → Bool} {B : Nat} {M : List Nat} {a b c : World} (h : FrQ E R B M a b) (k : FrQ E R B M b c) : FrQ E R B M a c :=
  ⟨k.os.trans h.os, k.tape.trans h.tape, k.output.trans h.output, Nat.le_trans h.size k.size, fun i o ho hk => k.block i o (h.block i o ho hk) hk⟩
theorem keptQ_mono {E R : TypeId → Bool} {M N : List Nat} (hs : ∀ k, k ∈ M → k ∈ N) {k : Nat} {o : Obj} (h : keptQ E R N k o = true) : keptQ E R M k o = true := by
  cases o with
  | cells cur t fz =>
    simp only [keptQ, Bool.and_eq_true, Bool.or_eq_true, Bool.not_eq_true', List.contains_eq_mem, decide_eq_false_iff_not] at h ⊢
    exact ⟨h.1, h.2.imp id (fun h hm => h (hs k hm))⟩
  | _ => rfl
theorem FrQ.mono {E R : TypeId → Bool} {B : Nat} {M N : List Nat} {w w' : World} (h : FrQ E R B M w w') (hs : ∀ k, k ∈ M → k ∈ N) : FrQ E R B N w w' :=
  ⟨h.os, h.tape, h.output, h.size, fun k o ho hk => h.block k o ho (hk.imp id (keptQ_mono hs))⟩
/-- Where a block that may turn by the second frame is new, or may turn by the first. -/
theorem FrQ.trans' {E R : TypeId → Bool} {B : Nat} {M N : List Nat} {a b c : World} (h : FrQ E R B M a b) (k : FrQ E R B N b c) (hN : ∀ i, i ∈ N → i ∈ M ∨ a.heap.size ≤ i) : FrQ E R B M a c :=
  ⟨k.os.trans h.os, k.tape.trans h.tape, k.output.trans h.output, Nat.le_trans h.size k.size, fun i o ho hk => by
    refine k.block i o (h.block i o ho hk) (hk.imp id fun hm => ?_)
    have hi : i < a.heap.size := (Array.getElem?_eq_some_iff.1 ho).1
    cases o with
    | cells cur t fz =>
      simp only [keptQ, Bool.and_eq_true, Bool.or_eq_true, Bool.not_eq_true', List.contains_eq_mem, decide_eq_false_iff_not] at hm ⊢
      refine ⟨hm.1, hm.2.imp id fun h2 h3 => ?_⟩
      rcases hN i h3 with h4 | h4
      · exact h2 h4
      · omega
    | _ => rfl⟩
theorem FrQ.of_below {E R : TypeId → Bool} {B : Nat} {M : List Nat} {w w' : World} (h : Below w.heap.size w w') : FrQ E R B M w w' :=
  ⟨h.os, h.tape, h.output, h.size, fun k o ho _ => by rw [h.block k (Array.getElem?_eq_some_iff.1 ho).1]; exact ho⟩
theorem FrQ.below {E R : TypeId → Bool} {B : Nat} {M : List Nat} {w w' : World} (h : FrQ E R B M w w') (hB : B ≤ w.heap.size) : Below B w w' :=
  ⟨h.os, h.tape, h.output, h.size, fun k hk => by
    have hk2 : k < w.heap.size := Nat.lt_of_lt_of_le hk hB
    rw [h.block k _ (Array.getElem?_eq_getElem hk2) (Or.inl hk), Array.getElem?_eq_getElem hk2]⟩
theorem FrQ.alloc {E R : TypeId → Bool} {B : Nat} {M : List Nat} {a w : World} (h : FrQ E R B M a w) (o : Obj) : FrQ E R B M a (w.alloc o) := h.trans (FrQ.of_below ((Below.refl _ _).alloc (Nat.le_refl _) o))
theorem FrQ.drew {E R : TypeId → Bool} {B : Nat} {M : List Nat} {a w : World} (h : FrQ E R B M a w) : FrQ E R B M a w.drew := ⟨h.os, h.tape, h.output, h.size, h.block⟩
theorem FrQ.drewN {E R : TypeId → Bool} {B : Nat} {M : List Nat} {a w : World} (h : FrQ E R B M a w) (n : Nat) : FrQ E R B M a (w.drewN n) := ⟨h.os, h.tape, h.output, h.size, h.block⟩

/-- A block that may turn. -/
def MayQ (E R : TypeId → Bool) (B : Nat) (M : List Nat) (w : World) (g : Nat) : Prop := B ≤ g ∧ ∃ cur t fz, w.heap[g]? = some (.cells cur t fz) ∧ (E t = true ∨ (R t = true ∧ g ∈ M))
theorem MayQ.not {E R : TypeId → Bool} {B : Nat} {M : List Nat} {w : World} {g : Nat} (h : MayQ E R B M w g) {k : Nat} {o : Obj} (ho : w.heap[k]? = some o) (hk : k < B ∨ keptQ E R M k o = true) : k ≠ g := by
  rintro rfl
  obtain ⟨hB, cur, t, fz, hc, ht⟩ := h
  rw [ho] at hc
  injection hc with hc
  subst hc
  rcases hk with hk | hk
  · omega
  · simp only [keptQ, Bool.and_eq_true, Bool.or_eq_true, Bool.not_eq_true', List.contains_eq_mem, decide_eq_false_iff_not] at hk
    rcases ht with ht | ⟨ht, hm⟩
    · rw [ht] at hk; cases hk.1
    · rcases hk.2 with h2 | h2
      · rw [ht] at h2; cases h2
      · exact h2 hm
theorem FrQ.setCell {E R : TypeId → Bool} {B : Nat} {M : List Nat} {a w : World} (h : FrQ E R B M a w) {p : Addr} (hp : MayQ E R B M w p.block) (u : Value) : FrQ E R B M a (w.setCell p u) :=
  h.trans ⟨rfl, rfl, rfl, by simp [World.setCell], fun k o ho hk => by rw [heap_setCell_other w p k u (hp.not ho hk)]; exact ho⟩
theorem FrQ.grown {E R : TypeId → Bool} {B : Nat} {M : List Nat} {a w w' : World} {row : Option Nat} (h : FrQ E R B M a w) (hg : w.grownBy w' row) (hr : ∀ g, row = some g → MayQ E R B M w g) : FrQ E R B M a w' :=
  h.trans ⟨hg.os, hg.tape, hg.output, hg.size, fun k o ho hk => by
    rw [hg.block k (Array.getElem?_eq_some_iff.1 ho).1 (fun e => (hr k e.symm).not ho hk rfl)]; exact ho⟩
theorem RowT.mayQ {E R : TypeId → Bool} {B : Nat} {M : List Nat} {w : World} {t g : Nat} {xs : List Value} (h : RowT w t g xs) (hB : B ≤ g) (ht : E t = true ∨ (R t = true ∧ g ∈ M)) : MayQ E R B M w g := ⟨hB, _, t, _, h, ht⟩

/-- Rows of a type that stays. -/
theorem RowT.frQ {E R : TypeId → Bool} {B : Nat} {M : List Nat} {w w' : World} {t g : Nat} {xs : List Value} (h : RowT w t g xs) (hf : FrQ E R B M w w') (ht : E t = false) (hm : R t = true → g ∉ M) : RowT w' t g xs := by
  unfold RowT at h ⊢
  refine hf.block g _ h (Or.inr ?_)
  simp only [keptQ, Bool.and_eq_true, Bool.or_eq_true, Bool.not_eq_true', List.contains_eq_mem, decide_eq_false_iff_not, ht, true_and]
  cases hr : R t with
  | false => exact Or.inl rfl
  | true => exact Or.inr (hm hr)
theorem StrV.frG {E R : TypeId → Bool} {B C : Nat} {M : List Nat} {w w' : World} {v : Value} {ss : List ByteArray} (h : StrV w C v ss) (hf : FrQ E R B M w w') (hE : E 9 = false) (hR : R 9 = false) : StrV w' C v ss := by
  rcases h with h | ⟨b, off, cap, cur, h1, h2, h3, h4⟩
  · exact Or.inl h
  · exact Or.inr ⟨b, off, cap, cur, h1, h2, hf.block b _ h3 (Or.inr (by simp [keptQ, hE, hR])), h4⟩
theorem ownsRow_frQ {E R : TypeId → Bool} {B C : Nat} {M : List Nat} {w w' : World} {e size n : Nat} {v : Value} {xs : List Value} (h : w.ownsRow C e size v n xs) (hf : FrQ E R B M w w') (ht : E e = false) (hm : R e = true → ∀ g, v.ownBlock = some g → g ∉ M) : w'.ownsRow C e size v n xs := by
  refine ⟨h.1, ?_⟩
  rcases h.2 with hn | ⟨g, cap, cur, rfl, hb, hgg, rest⟩
  · exact .inl hn
  · refine .inr ⟨g, cap, cur, rfl, hb, hf.block g _ hgg (Or.inr ?_), rest⟩
    simp only [keptQ, Bool.and_eq_true, Bool.or_eq_true, Bool.not_eq_true', List.contains_eq_mem, decide_eq_false_iff_not, ht, true_and]
    cases hr : R e with
    | false => exact Or.inl rfl
    | true => exact Or.inr (hm hr g rfl)
theorem own_mayQ {E R : TypeId → Bool} {B : Nat} {M : List Nat} {w : World} {e size n : Nat} {v : Value} {xs : List Value} (h : w.ownsRow B e size v n xs) (ht : ∀ g, v.ownBlock = some g → E e = true ∨ (R e = true ∧ g ∈ M)) : ∀ g, v.ownBlock = some g → MayQ E R B M w g := by
  intro g hg
  rcases h.2 with ⟨rfl, _⟩ | ⟨k, cap, cur, rfl, hb, hk, _⟩
  · cases hg
  · simp [Value.ownBlock] at hg
    subst hg
    exact ⟨hb, cur, e, _, hk, ht k rfl⟩

/-- Types of what a reader of the document's own package holds; of what a block of lines holds. -/
def eQ (t : TypeId) : Bool := t == 93 || t == 127 || t == 40 || t == 38
def rQ (t : TypeId) : Bool := t == 130 || t == 190 || t == 192
abbrev Fq := FrQ eQ rQ
theorem StrV.fq {B C : Nat} {M : List Nat} {w w' : World} {v : Value} {ss : List ByteArray} (h : StrV w C v ss) (hf : Fq B M w w') : StrV w' C v ss := h.frG hf rfl rfl
theorem Fq.refl (B : Nat) (M : List Nat) (w : World) : Fq B M w w := FrQ.refl _ _ _ _ _
theorem Fq.of_below {B : Nat} {M : List Nat} {w w' : World} (h : Below w.heap.size w w') : Fq B M w w' := FrQ.of_below h
end Go.Proofs.YtcepppilgncdmaaGreatDoor
