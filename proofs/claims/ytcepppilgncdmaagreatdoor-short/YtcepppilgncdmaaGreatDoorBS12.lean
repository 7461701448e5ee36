/-
  What of the memory a function of package expand may turn: rows of some types at or behind a place, and of readers those that are listed.
-/
import Derived.Test.YtcepppilgncdmaaGreatDoorBS11
import Derived.Deep.RegionHeld3
import Derived.Deep.RegionLaw
import Derived.Deep.DrawnRows
import Derived.WalkSmall
namespace Go.Proofs.YtcepppilgncdmaaGreatDoor
open Go.RowKit

/-- Types of what an expansion holds; of what a reader holds. -/
def eT (t : TypeId) : Bool := t == 77 || t == 202 || t == 40 || t == 38
def rT (t : TypeId) : Bool := t == 74 || t == 209 || t == 257
def keptO (E : TypeId → Bool) (M : List Nat) (k : Nat) : Obj → Bool
  | .cells _ t _ => !E t && (!rT t || !M.contains k)
  | _ => true

/-- Rows at or behind B of the types E, and of readers those of M, may have turned; no others that were there. -/
structure FrE (E : TypeId → Bool) (B : Nat) (M : List Nat) (w w' : World) : Prop where
  os : w'.os = w.os
  tape : w'.tape = w.tape
  output : w'.output = w.output
  size : w.heap.size ≤ w'.heap.size
  block : ∀ k o, w.heap[k]? = some o → (k < B ∨ keptO E M k o = true) → w'.heap[k]? = some o

theorem FrE.refl (E : TypeId → Bool) (B : Nat) (M : List Nat) (w : World) : FrE E B M w w := ⟨rfl, rfl, rfl, Nat.le_refl _, fun _ _ h _ => h⟩
theorem FrE.trans {E : TypeId → Bool} {B : Nat} {M : List Nat} {a b c : World} (h : FrE E B M a b) (k : FrE E B M b c) : FrE E B M a c :=
  ⟨k.os.trans h.os, k.tape.trans h.tape, k.output.trans h.output, Nat.le_trans h.size k.size, fun i o ho hk => k.block i o (h.block i o ho hk) hk⟩
theorem keptO_mono {E : TypeId → Bool} {M N : List Nat} (hs : ∀ k, k ∈ M → k ∈ N) {k : Nat} {o : Obj} (h : keptO E N k o = true) : keptO E M k o = true := by
  cases o with
  | cells cur t fz =>
    simp only [keptO, Bool.and_eq_true, Bool.or_eq_true, Bool.not_eq_true', List.contains_eq_mem, decide_eq_false_iff_not] at h ⊢
    exact ⟨h.1, h.2.imp id (fun h hm => h (hs k hm))⟩
  | _ => rfl
theorem FrE.mono {E : TypeId → Bool} {B : Nat} {M N : List Nat} {w w' : World} (h : FrE E B M w w') (hs : ∀ k, k ∈ M → k ∈ N) : FrE E B N w w' :=
  ⟨h.os, h.tape, h.output, h.size, fun k o ho hk => h.block k o ho (hk.imp id (keptO_mono hs))⟩
/-- Where a block that may turn by the second frame is new, or may turn by the first. -/
theorem FrE.trans' {E : TypeId → Bool} {B : Nat} {M N : List Nat} {a b c : World} (h : FrE E B M a b) (k : FrE E B N b c) (hN : ∀ i, i ∈ N → i ∈ M ∨ a.heap.size ≤ i) : FrE E B M a c :=
  ⟨k.os.trans h.os, k.tape.trans h.tape, k.output.trans h.output, Nat.le_trans h.size k.size, fun i o ho hk => by
    refine k.block i o (h.block i o ho hk) (hk.imp id fun hm => ?_)
    have hi : i < a.heap.size := (Array.getElem?_eq_some_iff.1 ho).1
    cases o with
    | cells cur t fz =>
      simp only [keptO, Bool.and_eq_true, Bool.or_eq_true, Bool.not_eq_true', List.contains_eq_mem, decide_eq_false_iff_not] at hm ⊢
      refine ⟨hm.1, hm.2.imp id fun h2 h3 => ?_⟩
      rcases hN i h3 with h4 | h4
      · exact h2 h4
      · omega
    | _ => rfl⟩
theorem FrE.of_below {E : TypeId → Bool} {B : Nat} {M : List Nat} {w w' : World} (h : Below w.heap.size w w') : FrE E B M w w' :=
  ⟨h.os, h.tape, h.output, h.size, fun k o ho _ => by rw [h.block k (Array.getElem?_eq_some_iff.1 ho).1]; exact ho⟩
theorem FrE.below {E : TypeId → Bool} {B : Nat} {M : List Nat} {w w' : World} (h : FrE E B M w w') (hB : B ≤ w.heap.size) : Below B w w' :=
  ⟨h.os, h.tape, h.output, h.size, fun k hk => by
    have hk2 : k < w.heap.size := Nat.lt_of_lt_of_le hk hB
    rw [h.block k _ (Array.getElem?_eq_getElem hk2) (Or.inl hk), Array.getElem?_eq_getElem hk2]⟩
theorem FrE.alloc {E : TypeId → Bool} {B : Nat} {M : List Nat} {a w : World} (h : FrE E B M a w) (o : Obj) : FrE E B M a (w.alloc o) := h.trans (FrE.of_below ((Below.refl _ _).alloc (Nat.le_refl _) o))
theorem FrE.drew {E : TypeId → Bool} {B : Nat} {M : List Nat} {a w : World} (h : FrE E B M a w) : FrE E B M a w.drew := ⟨h.os, h.tape, h.output, h.size, h.block⟩
theorem FrE.drewN {E : TypeId → Bool} {B : Nat} {M : List Nat} {a w : World} (h : FrE E B M a w) (n : Nat) : FrE E B M a (w.drewN n) := ⟨h.os, h.tape, h.output, h.size, h.block⟩

/-- A block that may turn. -/
def MayT (E : TypeId → Bool) (B : Nat) (M : List Nat) (w : World) (g : Nat) : Prop := B ≤ g ∧ ∃ cur t fz, w.heap[g]? = some (.cells cur t fz) ∧ (E t = true ∨ (rT t = true ∧ g ∈ M))
theorem MayT.not {E : TypeId → Bool} {B : Nat} {M : List Nat} {w : World} {g : Nat} (h : MayT E B M w g) {k : Nat} {o : Obj} (ho : w.heap[k]? = some o) (hk : k < B ∨ keptO E M k o = true) : k ≠ g := by
  rintro rfl
  obtain ⟨hB, cur, t, fz, hc, ht⟩ := h
  rw [ho] at hc
  injection hc with hc
  subst hc
  rcases hk with hk | hk
  · omega
  · simp only [keptO, Bool.and_eq_true, Bool.or_eq_true, Bool.not_eq_true', List.contains_eq_mem, decide_eq_false_iff_not] at hk
    rcases ht with ht | ⟨ht, hm⟩
    · rw [ht] at hk; cases hk.1
    · rcases hk.2 with h2 | h2
      · rw [ht] at h2; cases h2
      · exact h2 hm
theorem FrE.setCell {E : TypeId → Bool} {B : Nat} {M : List Nat} {a w : World} (h : FrE E B M a w) {p : Addr} (hp : MayT E B M w p.block) (u : Value) : FrE E B M a (w.setCell p u) :=
  h.trans ⟨rfl, rfl, rfl, by simp [World.setCell], fun k o ho hk => by rw [heap_setCell_other w p k u (hp.not ho hk)]; exact ho⟩
theorem FrE.grown {E : TypeId → Bool} {B : Nat} {M : List Nat} {a w w' : World} {row : Option Nat} (h : FrE E B M a w) (hg : w.grownBy w' row) (hr : ∀ g, row = some g → MayT E B M w g) : FrE E B M a w' :=
  h.trans ⟨hg.os, hg.tape, hg.output, hg.size, fun k o ho hk => by
    rw [hg.block k (Array.getElem?_eq_some_iff.1 ho).1 (fun e => (hr k e.symm).not ho hk rfl)]; exact ho⟩
theorem RowT.may {E : TypeId → Bool} {B : Nat} {M : List Nat} {w : World} {t g : Nat} {xs : List Value} (h : RowT w t g xs) (hB : B ≤ g) (ht : E t = true ∨ (rT t = true ∧ g ∈ M)) : MayT E B M w g := ⟨hB, _, t, _, h, ht⟩

/-- Rows of a type that stays. -/
theorem RowT.fr {E : TypeId → Bool} {B : Nat} {M : List Nat} {w w' : World} {t g : Nat} {xs : List Value} (h : RowT w t g xs) (hf : FrE E B M w w') (ht : E t = false) (hm : rT t = true → g ∉ M) : RowT w' t g xs := by
  unfold RowT at h ⊢
  refine hf.block g _ h (Or.inr ?_)
  simp only [keptO, Bool.and_eq_true, Bool.or_eq_true, Bool.not_eq_true', List.contains_eq_mem, decide_eq_false_iff_not, ht, true_and]
  cases hr : rT t with
  | false => exact Or.inl rfl
  | true => exact Or.inr (hm hr)
theorem StrV.frE {E : TypeId → Bool} {B C : Nat} {M : List Nat} {w w' : World} {v : Value} {ss : List ByteArray} (h : StrV w C v ss) (hf : FrE E B M w w') (hE : E 9 = false) : StrV w' C v ss := by
  rcases h with h | ⟨b, off, cap, cur, h1, h2, h3, h4⟩
  · exact Or.inl h
  · exact Or.inr ⟨b, off, cap, cur, h1, h2, hf.block b _ h3 (Or.inr (by simp [keptO, hE, rT])), h4⟩
theorem ownsRow_fr {E : TypeId → Bool} {B C : Nat} {M : List Nat} {w w' : World} {e size n : Nat} {v : Value} {xs : List Value} (h : w.ownsRow C e size v n xs) (hf : FrE E B M w w') (ht : E e = false) (hm : rT e = true → ∀ g, v.ownBlock = some g → g ∉ M) : w'.ownsRow C e size v n xs := by
  refine ⟨h.1, ?_⟩
  rcases h.2 with hn | ⟨g, cap, cur, rfl, hb, hgg, rest⟩
  · exact .inl hn
  · refine .inr ⟨g, cap, cur, rfl, hb, hf.block g _ hgg (Or.inr ?_), rest⟩
    simp only [keptO, Bool.and_eq_true, Bool.or_eq_true, Bool.not_eq_true', List.contains_eq_mem, decide_eq_false_iff_not, ht, true_and]
    cases hr : rT e with
    | false => exact Or.inl rfl
    | true => exact Or.inr (hm hr g rfl)
/-- Rows of two types are two. -/
theorem own_row_ne {C : Nat} {w : World} {e size n t g : Nat} {v : Value} {xs ys : List Value} (h : w.ownsRow C e size v n xs) (hr : RowT w t g ys) (ht : e ≠ t) : v.ownBlock ≠ some g := by
  rcases h.2 with ⟨rfl, _⟩ | ⟨k, cap, cur, rfl, _, hk, _⟩
  · intro h; cases h
  · intro hh
    simp [Value.ownBlock] at hh
    subst hh
    unfold RowT at hr
    rw [hr] at hk
    injection hk with hk
    injection hk with _ hk
    exact ht hk.symm
theorem own_own_ne {C D : Nat} {w : World} {e f size m n k g : Nat} {v u : Value} {xs ys : List Value} (h : w.ownsRow C e size v n xs) (hr : w.ownsRow D f m u k ys) (ht : e ≠ f) (hg : u.ownBlock = some g) : v.ownBlock ≠ some g := by
  rcases h.2 with ⟨rfl, _⟩ | ⟨a, cap, cur, rfl, _, hk, _⟩
  · intro h; cases h
  · intro hh
    simp [Value.ownBlock] at hh
    subst hh
    rcases hr.2 with ⟨rfl, _⟩ | ⟨b, cap', cur', rfl, _, hk', _⟩
    · cases hg
    · simp [Value.ownBlock] at hg
      subst hg
      rw [hk] at hk'
      injection hk' with hk'
      injection hk' with _ hk'
      exact ht hk'
theorem own_may {E : TypeId → Bool} {B : Nat} {M : List Nat} {w : World} {e size n : Nat} {v : Value} {xs : List Value} (h : w.ownsRow B e size v n xs) (ht : ∀ g, v.ownBlock = some g → E e = true ∨ (rT e = true ∧ g ∈ M)) : ∀ g, v.ownBlock = some g → MayT E B M w g := by
  intro g hg
  rcases h.2 with ⟨rfl, _⟩ | ⟨k, cap, cur, rfl, hb, hk, _⟩
  · cases hg
  · simp [Value.ownBlock] at hg
    subst hg
    exact ⟨hb, cur, e, _, hk, ht k rfl⟩
theorem MaxAt.fr {E : TypeId → Bool} {B : Nat} {M : List Nat} {w w' : World} (h : MaxAt w) (hf : FrE E B M w w') (hB : 0 < B) : MaxAt w' := by
  obtain ⟨m, hm⟩ := h
  have hlt := World.block_lt_of_cell? _ _ hm
  refine ⟨m, (World.cell?_of_block (a := ⟨0, 0, none⟩) ?_).trans hm⟩
  rw [hf.block _ _ (Array.getElem?_eq_getElem hlt) (Or.inl hB), Array.getElem?_eq_getElem hlt]

/-- All that an expansion holds may have turned; or nothing of that. -/
abbrev Fr := FrE eT
def noT (_ : TypeId) : Bool := false
abbrev FrC := FrE noT
theorem Fr.refl (B : Nat) (M : List Nat) (w : World) : Fr B M w w := FrE.refl _ _ _ _
theorem FrC.refl (B : Nat) (M : List Nat) (w : World) : FrC B M w w := FrE.refl _ _ _ _
theorem Fr.of_below {B : Nat} {M : List Nat} {w w' : World} (h : Below w.heap.size w w') : Fr B M w w' := FrE.of_below h
theorem FrC.of_below {B : Nat} {M : List Nat} {w w' : World} (h : Below w.heap.size w w') : FrC B M w w' := FrE.of_below h
theorem StrV.fr {B C : Nat} {M : List Nat} {w w' : World} {v : Value} {ss : List ByteArray} (h : StrV w C v ss) (hf : Fr B M w w') : StrV w' C v ss := h.frE hf rfl
theorem StrV.frc {B C : Nat} {M : List Nat} {w w' : World} {v : Value} {ss : List ByteArray} (h : StrV w C v ss) (hf : FrC B M w w') : StrV w' C v ss := h.frE hf rfl
theorem FrC.to {B : Nat} {M : List Nat} {w w' : World} (h : FrC B M w w') : Fr B M w w' :=
  ⟨h.os, h.tape, h.output, h.size, fun k o ho hk => h.block k o ho (hk.imp id fun hm => by
    cases o with
    | cells cur t fz =>
      simp only [keptO, Bool.and_eq_true] at hm ⊢
      exact ⟨rfl, hm.2⟩
    | _ => rfl)⟩

end Go.Proofs.YtcepppilgncdmaaGreatDoor
