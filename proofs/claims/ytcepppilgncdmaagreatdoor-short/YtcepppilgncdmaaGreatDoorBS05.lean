/-
  Rows of cells that are known whole, and what a call may turn of them.
-/
import Derived.Test.YtcepppilgncdmaaGreatDoorBS04
import Derived.OwnWalk
import Derived.Deep.AppendLies
namespace Go.Proofs.YtcepppilgncdmaaGreatDoor
open Go.RowKit

/-- A block of cells, known whole. -/
def RowT (w : World) (t g : Nat) (xs : List Value) : Prop := w.heap[g]? = some (.cells xs.toArray t (0, 0))
theorem RowT.cell {w : World} {t g : Nat} {xs : List Value} (h : RowT w t g xs) (j : Nat) (hj : j < xs.length) : w.cell? ⟨g, j, none⟩ = some xs[j] := by
  unfold RowT at h
  simp [World.cell?, h, hj]
theorem RowT.free {w : World} {t g : Nat} {xs : List Value} (h : RowT w t g xs) (j : Nat) : w.frozen? ⟨g, j, none⟩ = false := by
  unfold RowT at h
  simp [World.frozen?, h]
theorem RowT.lt {w : World} {t g : Nat} {xs : List Value} (h : RowT w t g xs) : g < w.heap.size := (Array.getElem?_eq_some_iff.1 h).1
theorem RowT.set {w : World} {t g : Nat} {xs : List Value} (h : RowT w t g xs) (j : Nat) (u : Value) : RowT (w.setCell ⟨g, j, none⟩ u) t g (xs.set j u) := by
  unfold RowT at h ⊢
  rw [heap_setCell_same w g j xs.toArray t u h]
  simp
theorem RowT.other {w : World} {t g : Nat} {xs : List Value} (h : RowT w t g xs) (b j : Nat) (hb : g ≠ b) (u : Value) : RowT (w.setCell ⟨b, j, none⟩ u) t g xs := by
  unfold RowT at h ⊢
  rw [heap_setCell_other w ⟨b, j, none⟩ g u hb]; exact h

/-- Nothing has turned but the listed blocks; there may be new ones. -/
structure Keeps (M : List Nat) (w w' : World) : Prop where
  os : w'.os = w.os
  tape : w'.tape = w.tape
  output : w'.output = w.output
  size : w.heap.size ≤ w'.heap.size
  block : ∀ k, k < w.heap.size → k ∉ M → w'.heap[k]? = w.heap[k]?

theorem Keeps.refl (M : List Nat) (w : World) : Keeps M w w := ⟨rfl, rfl, rfl, Nat.le_refl _, fun _ _ _ => rfl⟩
theorem Keeps.trans {M : List Nat} {a b c : World} (h : Keeps M a b) (k : Keeps M b c) : Keeps M a c :=
  ⟨k.os.trans h.os, k.tape.trans h.tape, k.output.trans h.output, Nat.le_trans h.size k.size, fun i hi hm => (k.block i (Nat.lt_of_lt_of_le hi h.size) hm).trans (h.block i hi hm)⟩
theorem Keeps.mono {M N : List Nat} {w w' : World} (h : Keeps M w w') (hs : ∀ k, k ∈ M → k ∈ N) : Keeps N w w' :=
  ⟨h.os, h.tape, h.output, h.size, fun k hk hm => h.block k hk (fun hk' => hm (hs k hk'))⟩
theorem Keeps.of_below {M : List Nat} {w w' : World} (h : Below w.heap.size w w') : Keeps M w w' := ⟨h.os, h.tape, h.output, h.size, fun k hk _ => h.block k hk⟩
/-- Where all that may have turned is new, nothing old has. -/
theorem Keeps.below {M : List Nat} {w w' : World} {B : Nat} (h : Keeps M w w') (hB : B ≤ w.heap.size) (hM : ∀ k, k ∈ M → B ≤ k) : Below B w w' :=
  ⟨h.os, h.tape, h.output, h.size, fun k hk => h.block k (Nat.lt_of_lt_of_le hk hB) (fun hm => by have := hM k hm; omega)⟩
theorem Keeps.alloc {M : List Nat} {a w : World} (h : Keeps M a w) (o : Obj) : Keeps M a (w.alloc o) := h.trans (Keeps.of_below ((Below.refl _ _).alloc (Nat.le_refl _) o))
theorem Keeps.drew {M : List Nat} {a w : World} (h : Keeps M a w) : Keeps M a w.drew := ⟨h.os, h.tape, h.output, h.size, h.block⟩
theorem Keeps.drewN {M : List Nat} {a w : World} (h : Keeps M a w) (n : Nat) : Keeps M a (w.drewN n) := ⟨h.os, h.tape, h.output, h.size, h.block⟩
theorem Keeps.setCell {M : List Nat} {a w : World} (h : Keeps M a w) {p : Addr} (hp : p.block ∈ M) (u : Value) : Keeps M a (w.setCell p u) :=
  h.trans ⟨rfl, rfl, rfl, by simp [World.setCell], fun k _ hm => heap_setCell_other w p k u (fun e => hm (e ▸ hp))⟩
theorem Keeps.grown {M : List Nat} {a w w' : World} {row : Option Nat} (h : Keeps M a w) (hg : w.grownBy w' row) (hr : ∀ k, row = some k → k ∈ M ∨ a.heap.size ≤ k) : Keeps M a w' :=
  ⟨hg.os.trans h.os, hg.tape.trans h.tape, hg.output.trans h.output, Nat.le_trans h.size hg.size, fun k hk hm => by
    rw [hg.block k (Nat.lt_of_lt_of_le hk h.size) (fun e => by rcases hr k e.symm with h' | h'; exact hm h'; omega)]
    exact h.block k hk hm⟩
theorem RowT.keeps {M : List Nat} {w w' : World} {t g : Nat} {xs : List Value} (h : RowT w t g xs) (hk : Keeps M w w') (hg : g ∉ M) : RowT w' t g xs := by
  have hl := h.lt
  unfold RowT at h ⊢
  rw [hk.block g hl hg]; exact h
theorem RowT.below {w w' : World} {t g : Nat} {xs : List Value} (h : RowT w t g xs) (hb : Below w.heap.size w w') : RowT w' t g xs := h.keeps (M := []) (Keeps.of_below hb) (by simp)
theorem RowT.alloc {w : World} {t g : Nat} {xs : List Value} (h : RowT w t g xs) (o : Obj) : RowT (w.alloc o) t g xs := h.below ((Below.refl _ _).alloc (Nat.le_refl _) o)
theorem RowT.new (w : World) (t : Nat) (xs : List Value) : RowT (w.alloc (.cells xs.toArray t)) t w.heap.size xs := heap_alloc_new w _
theorem Keeps.cell {M : List Nat} {w w' : World} (h : Keeps M w w') {p : Addr} (hp : p.block < w.heap.size) (hm : p.block ∉ M) : w'.cell? p = w.cell? p := World.cell?_of_block (w := w) (h.block p.block hp hm)

/-- A list of texts lies in the world, in blocks that are not among the listed ones. -/
def StrsAt (w : World) (M : List Nat) (a : Option Addr) (ss : List ByteArray) : Prop :=
  ss = [] ∨ ∃ b off, a = some ⟨b, off, none⟩ ∧ b < w.heap.size ∧ b ∉ M ∧ ∀ i (h : i < ss.length), w.cell? ⟨b, off + i, none⟩ = some (.string ss[i])
theorem StrsAt.keeps {M : List Nat} {w w' : World} {a : Option Addr} {ss : List ByteArray} (h : StrsAt w M a ss) (hk : Keeps M w w') : StrsAt w' M a ss := by
  rcases h with h | ⟨b, off, h1, h2, h3, h4⟩
  · exact Or.inl h
  · refine Or.inr ⟨b, off, h1, Nat.lt_of_lt_of_le h2 hk.size, h3, fun i hi => ?_⟩
    rw [hk.cell (p := ⟨b, off + i, none⟩) h2 h3]; exact h4 i hi

end Go.Proofs.YtcepppilgncdmaaGreatDoor
