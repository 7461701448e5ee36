/-
  The book of lists that came out (package masonlaw): 'keepsLines'.
-/
import Derived.Test.YtcepppilgncdmaaGreatDoorAppBoth
import Derived.Test.YtcepppilgncdmaaGreatDoorPLeave
namespace Go.Proofs.YtcepppilgncdmaaGreatDoor
open Go.RowKit

/-- What the caller writes into the lines that came out. -/
def markL (j : Nat) : List Value := [.string ⟨#[]⟩, .int .i64 (-1000 - (j : Int)), .int .i64 0, .int .i64 0]

theorem grown_trans {a b c : World} {row : Option Nat} (h : a.grownBy b row) (k : b.grownBy c row) : a.grownBy c row :=
  ⟨k.os.trans h.os, k.tape.trans h.tape, k.output.trans h.output, Nat.le_trans h.size k.size, fun i hi hn => (k.block i (Nat.lt_of_lt_of_le hi h.size) hn).trans (h.block i hi hn)⟩
theorem grown_set (w : World) (p : Addr) (u : Value) {row : Option Nat} (h : row = some p.block) : w.grownBy (w.setCell p u) row :=
  ⟨rfl, rfl, rfl, by simp [World.setCell], fun k _ hn => heap_setCell_other w p k u (fun e => hn (by rw [h, e]))⟩
theorem own_set {w : World} {base e size g n cap : Nat} {xs : List Value} (h : w.ownsRow base e size (.slice (some ⟨g, 0, none⟩) n cap) n xs) (j : Nat) (u : Value) : (w.setCell ⟨g, j, none⟩ u).ownsRow base e size (.slice (some ⟨g, 0, none⟩) n cap) n (xs.set j u) := by
  rcases h with ⟨hl, ⟨h0, _⟩ | ⟨g', cap', cur, hv, hb, hh, hn, hc, hs, ht⟩⟩
  · cases h0
  · cases hv
    refine ⟨by simp [hl], Or.inr ⟨g, cap, cur.setIfInBounds j u, rfl, hb, ?_, hn, hc, by simp [hs], ?_⟩⟩
    · exact heap_setCell_same w g j cur e u hh
    · rw [← ht]
      simp [List.take_set]

theorem take_marks {xs mk : List Value} {j n : Nat} {a b c d : Value} (hm : mk = [a, b, c, d]) (hx : xs.length = n * 4) (hj : j < n) (ht : xs.take (j * 4) = reps mk j) :
    ((((xs.set (j * 4) a).set (j * 4 + 1) b).set (j * 4 + 2) c).set (j * 4 + 3) d).take ((j + 1) * 4) = reps mk (j + 1) := by
  have h1 : xs = reps mk j ++ xs.drop (j * 4) := by rw [← ht, List.take_append_drop]
  have h2 : (xs.drop (j * 4)).length = n * 4 - j * 4 := by rw [List.length_drop, hx]
  have h3 : (reps mk j).length = j * 4 := by rw [reps_length, hm]; rfl
  generalize hd : xs.drop (j * 4) = ys at *
  match ys, h2 with
  | x0 :: x1 :: x2 :: x3 :: r, _ =>
    rw [h1, ← h3]
    rw [List.set_append_right _ _ (by omega), List.set_append_right _ _ (by omega), List.set_append_right _ _ (by omega), List.set_append_right _ _ (by omega)]
    rw [List.take_append, List.take_of_length_le (by omega)]
    simp only [reps, Nat.sub_self, Nat.add_sub_cancel_left, hm]
    rw [show (j + 1) * 4 - (reps [a, b, c, d] j).length = 4 from by rw [← hm]; omega]
    simp
  | [], h => simp at h; omega
  | [_], h => simp at h; omega
  | [_, _], h => simp at h; omega
  | [_, _, _], h => simp at h; omega
theorem grown_set4 {w1 w : World} {g n cap : Nat} (h : w1.grownBy w (Value.slice (some ⟨g, 0, none⟩) n cap).ownBlock) (i j k l : Nat) (a b c d : Value) :
    w1.grownBy ((((w.setCell ⟨g, i, none⟩ a).setCell ⟨g, j, none⟩ b).setCell ⟨g, k, none⟩ c).setCell ⟨g, l, none⟩ d) (Value.slice (some ⟨g, 0, none⟩) n cap).ownBlock :=
  grown_trans (grown_trans (grown_trans (grown_trans h (grown_set _ ⟨g, i, none⟩ _ rfl)) (grown_set _ ⟨g, j, none⟩ _ rfl)) (grown_set _ ⟨g, k, none⟩ _ rfl)) (grown_set _ ⟨g, l, none⟩ _ rfl)
theorem own_types {w : World} {b d e f s t n m : Nat} {u v : Value} {xs ys : List Value} (h : w.ownsRow b e s u n xs) (k : w.ownsRow d f t v m ys) (hne : e ≠ f) : u.ownBlock = none ∨ u.ownBlock ≠ v.ownBlock := by
  rcases h.2 with ⟨rfl, _⟩ | ⟨g, cap, cur, rfl, _, hk, _⟩
  · exact Or.inl rfl
  · right
    intro hh
    rcases k.2 with ⟨rfl, _⟩ | ⟨g', cap', cur', rfl, _, hk', _⟩
    · cases hh
    · simp only [Value.ownBlock, Option.some.injEq] at hh
      subst hh
      rw [hk] at hk'
      simp only [Option.some.injEq, Obj.cells.injEq] at hk'
      exact hne hk'.2.1

/-- Two lists that lie in one block: one is as the other, but longer. -/
def Share (n : Nat) (v u : Value) (k : Nat) : Prop := ∀ p, u.ownBlock = some p → v.ownBlock = some p → ∃ c, v = .slice (some ⟨p, 0, none⟩) n c ∧ u = .slice (some ⟨p, 0, none⟩) k c
theorem share_self {w : World} {b e s n : Nat} {v : Value} {xs : List Value} (h : w.ownsRow b e s v n xs) : Share n v v n := by
  intro p h1 _
  rcases h.2 with ⟨rfl, _⟩ | ⟨g, cap, cur, rfl, _⟩
  · cases h1
  · simp only [Value.ownBlock, Option.some.injEq] at h1
    subst h1
    exact ⟨cap, rfl, rfl⟩
theorem share_or {w w' : World} {b e s n g cap k : Nat} {v : Value} {xs : List Value} (h : w.ownsRow b e s v n xs) (hor : v = .slice (some ⟨g, 0, none⟩) n cap ∨ (w.heap.size ≤ g ∧ w.grownBy w' none)) : Share n v (.slice (some ⟨g, 0, none⟩) k cap) k := by
  intro p h1 h2
  simp only [Value.ownBlock, Option.some.injEq] at h1
  subst h1
  rcases hor with rfl | ⟨h3, _⟩
  · exact ⟨cap, rfl, rfl⟩
  · exfalso
    rcases h.2 with ⟨rfl, _⟩ | ⟨g', cap', cur, rfl, _, hh, _⟩
    · cases h2
    · simp only [Value.ownBlock, Option.some.injEq] at h2
      subst h2
      have := (Array.getElem?_eq_some_iff.1 hh).1
      omega
theorem own_lt {w : World} {b e s n p : Nat} {v : Value} {xs : List Value} (h : w.ownsRow b e s v n xs) (hp : v.ownBlock = some p) : p < w.heap.size := by
  rcases h.2 with ⟨rfl, _⟩ | ⟨g', cap', cur, rfl, _, hh, _⟩
  · cases hp
  · simp only [Value.ownBlock, Option.some.injEq] at hp
    subst hp
    exact (Array.getElem?_eq_some_iff.1 hh).1
theorem own_ge {w : World} {b e s n p : Nat} {v : Value} {xs : List Value} (h : w.ownsRow b e s v n xs) (hp : v.ownBlock = some p) : b ≤ p := by
  rcases h.2 with ⟨rfl, _⟩ | ⟨g', cap', cur, rfl, hb, _⟩
  · cases hp
  · simp only [Value.ownBlock, Option.some.injEq] at hp
    subst hp
    exact hb

/-- The lists that were kept still read as the caller has written them. -/
def KeptAt (w : World) (B : Nat) (us : List Value) : Prop :=
  ∀ i u, us[i]? = some u → ∃ k, w.ownsRow 0 38 4 u k (reps (markL (i / 4)) k) ∧ ∀ q, u.ownBlock = some q → q < B
/-- The book: its lines, four lists for each that came out; its names, its bytes. -/
structure BookAt (w : World) (lo B kb : Nat) (vb nv bv : Value) (us : List Value) : Prop where
  row : RowT w 55 kb [vb, nv, bv]
  ge : lo ≤ kb
  hi : kb < B
  own : w.ownsRow lo 26 1 vb us.length us
  far : ∀ q, vb.ownBlock = some q → q < B
  kept : KeptAt w B us

theorem KeptAt.grown {w w' : World} {B : Nat} {us : List Value} {row : Option Nat} (h : KeptAt w B us) (hg : w.grownBy w' row) (hr : ∀ p, row = some p → B ≤ p) : KeptAt w' B us := by
  intro i u hu
  obtain ⟨k, h1, h2⟩ := h i u hu
  refine ⟨k, h1.kept hg ?_, h2⟩
  cases hub : u.ownBlock with
  | none => exact Or.inl rfl
  | some p =>
    right
    intro e
    have := h2 p hub
    have := hr p e.symm
    omega
theorem BookAt.grown {w w' : World} {lo B kb : Nat} {vb nv bv : Value} {us : List Value} {row : Option Nat} (h : BookAt w lo B kb vb nv bv us) (hg : w.grownBy w' row) (hr : ∀ p, row = some p → B ≤ p) : BookAt w' lo B kb vb nv bv us := by
  refine ⟨h.row.grown' hg (fun e => ?_), h.ge, h.hi, h.own.kept hg ?_, h.far, h.kept.grown hg hr⟩
  · have := hr kb e.symm
    have := h.hi
    omega
  · cases hub : vb.ownBlock with
    | none => exact Or.inl rfl
    | some p =>
      right
      intro e
      have := h.far p hub
      have := hr p e.symm
      omega
theorem own_set_book {w : World} {b n kb : Nat} {u x : Value} {xs ys : List Value} (h : w.ownsRow b 38 4 u n xs) (hr : RowT w 55 kb ys) : (w.setCell ⟨kb, 0, none⟩ x).ownsRow b 38 4 u n xs :=
  h.kept (grown_set w ⟨kb, 0, none⟩ x rfl) (Or.inr (own_row_ne h hr (by decide)))
theorem own_set_book' {w : World} {b n kb : Nat} {u x : Value} {xs ys : List Value} (h : w.ownsRow b 26 1 u n xs) (hr : RowT w 55 kb ys) : (w.setCell ⟨kb, 0, none⟩ x).ownsRow b 26 1 u n xs :=
  h.kept (grown_set w ⟨kb, 0, none⟩ x rfl) (Or.inr (own_row_ne h hr (by decide)))
/-- One list more in the book: the book, behind it, and another list of lines. -/
theorem BookAt.more {w w2 w4 : World} {lo B kb g cap : Nat} {vb nv bv u : Value} {us : List Value} (h : BookAt w lo B kb vb nv bv us) (hB : B ≤ w.heap.size) (ha : w.grownBy w2 none) (hg : w2.grownBy w4 vb.ownBlock)
    (ho : w4.ownsRow lo 26 1 (.slice (some ⟨g, 0, none⟩) (us.length + 1) cap) (us.length + 1) (us ++ [u])) (hl : g < w4.heap.size) (hu : ∃ k, w.ownsRow 0 38 4 u k (reps (markL (us.length / 4)) k)) :
    BookAt (w4.setCell ⟨kb, 0, none⟩ (.slice (some ⟨g, 0, none⟩) (us.length + 1) cap)) lo w4.heap.size kb (.slice (some ⟨g, 0, none⟩) (us.length + 1) cap) nv bv (us ++ [u]) := by
  have hs : w.heap.size ≤ w4.heap.size := Nat.le_trans ha.size hg.size
  have hne : vb.ownBlock ≠ some kb := own_row_ne h.own h.row (by decide)
  have hr2 : RowT w2 55 kb [vb, nv, bv] := h.row.grown' ha (by simp)
  have hr4 : RowT w4 55 kb [vb, nv, bv] := hr2.grown' hg (Ne.symm hne)
  have hvb2 : w2.ownsRow lo 26 1 vb us.length us := h.own.kept ha (by cases hub : vb.ownBlock <;> simp)
  have hst : ∀ {b n : Nat} {u : Value} {xs : List Value}, w.ownsRow b 38 4 u n xs → w4.ownsRow b 38 4 u n xs := by
    intro b n u xs h1
    have h2 : w2.ownsRow b 38 4 u n xs := h1.kept ha (by cases hub : u.ownBlock <;> simp)
    exact h2.kept hg (own_types h2 hvb2 (by decide))
  refine ⟨hr4.set 0 _, h.ge, Nat.lt_of_lt_of_le h.row.lt hs, ?_, ?_, ?_⟩
  · rw [List.length_append]
    exact own_set_book' ho hr4
  · intro p hp
    simp only [Value.ownBlock, Option.some.injEq] at hp
    omega
  · intro i v hv
    rw [List.getElem?_append] at hv
    split at hv
    · obtain ⟨k, h1, h2⟩ := h.kept i v hv
      exact ⟨k, own_set_book (hst h1) hr4, fun p hp => Nat.lt_of_lt_of_le (h2 p hp) (Nat.le_trans hB hs)⟩
    · obtain ⟨k, h1⟩ := hu
      have hi : i = us.length ∧ u = v := by
        have : i - us.length = 0 := by
          by_cases h0 : i - us.length = 0
          · exact h0
          · rw [List.getElem?_eq_none (by simp; omega)] at hv; cases hv
        rw [this] at hv
        simp at hv
        exact ⟨by omega, hv⟩
      obtain ⟨rfl, rfl⟩ := hi
      exact ⟨k, own_set_book (hst h1) hr4, fun p hp => Nat.lt_of_lt_of_le (own_lt h1 hp) hs⟩
theorem BookAt.stays {w w2 w4 : World} {lo B kb b n : Nat} {vb nv bv u x : Value} {us xs : List Value} (h : BookAt w lo B kb vb nv bv us) (ha : w.grownBy w2 none) (hg : w2.grownBy w4 vb.ownBlock)
    (h1 : w.ownsRow b 38 4 u n xs) : (w4.setCell ⟨kb, 0, none⟩ x).ownsRow b 38 4 u n xs := by
  have hne : vb.ownBlock ≠ some kb := own_row_ne h.own h.row (by decide)
  have hr4 : RowT w4 55 kb [vb, nv, bv] := (h.row.grown' ha (by simp)).grown' hg (Ne.symm hne)
  have hvb2 : w2.ownsRow lo 26 1 vb us.length us := h.own.kept ha (by cases hub : vb.ownBlock <;> simp)
  have h2 : w2.ownsRow b 38 4 u n xs := h1.kept ha (by cases hub : u.ownBlock <;> simp)
  exact own_set_book (h2.kept hg (own_types h2 hvb2 (by decide))) hr4

theorem info_lines : (Tryz.prog.info? 26).map (fun i => (i.zero, i.size, i.bytes)) = some (some (.slice none 0 0), 1, 24) := by kernel_rfl


end Go.Proofs.YtcepppilgncdmaaGreatDoor
