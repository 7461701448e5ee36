/-
  How the document's own package (masonref) goes through the text's lines.
-/
import Derived.Test.YtcepppilgncdmaaGreatDoorQGoes
namespace Go.Proofs.YtcepppilgncdmaaGreatDoor
open Go.RowKit
attribute [local go_sem ↓] Go.wp_at_zero Go.wp_at_succ

theorem goes_all : ∀ n, n ≤ 8 → CallsOk n ∧ GoesM n
  | 0, _ => ⟨calls_zero, goesM_of 0 calls_zero⟩
  | n + 1, h => by
    have h1 := calls_succ n h (goes_all n (by omega)).2
    exact ⟨h1, goesM_of (n + 1) h1⟩

theorem StrV.keeps {M : List Nat} {w w' : World} {B : Nat} {v : Value} {ss : List ByteArray} (h : StrV w B v ss) (hk : Keeps M w w') (hm : ∀ b cur, w.heap[b]? = some (.cells cur 9 (0, 0)) → b ∉ M) : StrV w' B v ss := by
  rcases h with h | ⟨b, off, cap, cur, h1, h2, h3, h4⟩
  · exact Or.inl h
  · exact Or.inr ⟨b, off, cap, cur, h1, h2, by rw [hk.block b (Array.getElem?_eq_some_iff.1 h3).1 (hm b cur h3)]; exact h3, h4⟩
theorem ownsRow_keeps {M : List Nat} {w w' : World} {base e size n : Nat} {v : Value} {xs : List Value} (h : w.ownsRow base e size v n xs) (hk : Keeps M w w') (hm : ∀ g, v.ownBlock = some g → g ∉ M) : w'.ownsRow base e size v n xs := by
  refine ⟨h.1, h.2.imp id ?_⟩
  rintro ⟨g, cap, cur, rfl, h2, h3, h4⟩
  exact ⟨g, cap, cur, rfl, h2, by rw [hk.block g (Array.getElem?_eq_some_iff.1 h3).1 (hm g rfl)]; exact h3, h4⟩
theorem row_ne {w : World} {t u g x : Nat} {xs ys : List Value} (h : RowT w t g xs) (k : RowT w u x ys) (ht : t ≠ u) : g ≠ x := by
  rintro rfl
  unfold RowT at h k
  rw [h] at k
  injection k with k
  injection k with _ k
  exact ht k
theorem RdAt.keeps {w w' : World} {B r x : Nat} {vm vn vo : Value} {ms : List MacQ} {ns : List (ByteArray × Int)} {outs : List (ByteArray × Nat)} {calls : Nat} {ys : List Value} (h : RdAt w B r vm vn vo ms ns outs calls) (hk : Keeps [x] w w') (hx : RowT w 130 x ys) : RdAt w' B r vm vn vo ms ns outs calls := by
  have hs : ∀ b cur, w.heap[b]? = some (.cells cur 9 (0, 0)) → b ∉ [x] := fun b cur hb => by simpa using RowT.notStr hx (by decide) b cur hb
  refine ⟨h.row.keeps hk (by simpa using row_ne h.row hx (by decide)), ownsRow_keeps h.mown hk (fun g hg => ?_), ownsRow_keeps h.nown hk (fun g hg => ?_), ownsRow_keeps h.lown hk (fun g hg => ?_), fun m hm => ⟨(h.macs m hm).row.keeps hk (by simpa using row_ne (h.macs m hm).row hx (by decide)), (h.macs m hm).ps.keeps hk hs, (h.macs m hm).bs.keeps hk hs⟩, h.at_⟩
  · have := own_row_ne h.mown hx (by decide); simp only [List.mem_singleton]; intro e; exact this (by rw [hg, e])
  · have := own_row_ne h.nown hx (by decide); simp only [List.mem_singleton]; intro e; exact this (by rw [hg, e])
  · have := own_row_ne h.lown hx (by decide); simp only [List.mem_singleton]; intro e; exact this (by rw [hg, e])
theorem Keeps.then_below {M : List Nat} {a b c : World} (h : Keeps M a b) (k : Below a.heap.size b c) : Keeps M a c :=
  ⟨k.os.trans h.os, k.tape.trans h.tape, k.output.trans h.output, Nat.le_trans h.size k.size, fun i hi hm => by rw [k.block i hi]; exact h.block i hi hm⟩

theorem line_def {call : MacP → WordsP → Nat → StP → Int × StP} {inM : Bool} {W : WordsP} {at_ : Nat} {opens : List OpenP} {st : StP} {d : MacP} (hw : WOk W) (hd : (lineP call inM W at_ opens st).2.2.1 = some d) : MacOk d := by
  have key : ∀ d, (defP inM W st).2 = some d → MacOk d := by
    intro d hd
    unfold defP at hd
    split at hd
    · cases hd
    split at hd
    · cases hd
    split at hd
    · cases hd
    split at hd
    · cases hd
    injection hd with hd
    subst hd
    obtain ⟨_, _, h3, h4, _⟩ := hw.bd
    exact ⟨by simp; omega, fun p hp => h4 p (List.mem_of_mem_tail hp), by simp, fun l hl => by cases hl⟩
  unfold lineP at hd
  split at hd
  · cases hd
  split at hd
  · cases hd
  split at hd
  · cases hd
  split at hd
  · exact key d hd
  split at hd
  · cases hd
  split at hd
  · cases hd
  split at hd
  · cases hd
  · cases hd

/-- What is so where the text's lines are gone through, behind some of them. -/
def TInv (w : World) (B x r : Nat) (lv pv : Value) (ls : List ByteArray) (R : Int × Nat × StP) (j : Nat) (wr : World) : Prop :=
  (∃ vo opens st, BkAt wr B x lv (.int .i64 0) (.pointer none) pv (.int .i64 0) vo (.pointer none) opens ∧ RdSt wr B r st ∧ StOk st j ∧ StrV wr 0 lv ls ∧ Below B w wr ∧ R = blockP (callN 8) none 1 ((ls.drop j).map L) j opens none st) ∨
    (∃ w0 vo opens st gd nm qv ps dl bs, BkAt w0 B x lv (.int .i64 0) (.pointer none) pv (.int .i64 0) vo (.pointer none) opens ∧ RdSt w0 B r st ∧ (∃ i, i < j ∧ StOk st i) ∧ StrV w0 0 lv ls ∧ Below B w w0 ∧ Keeps [x] w0 wr ∧ RowT wr 130 x [lv, .int .i64 0, .pointer none, pv, .int .i64 0, vo, .pointer (some ⟨gd, 0, none⟩)] ∧ DefAt wr w0.heap.size gd nm qv ps dl bs ∧
      MacOk ⟨L nm, ps.map L, bs.map L⟩ ∧ bs.length ≤ j ∧ R = blockP (callN 8) none 1 ((ls.drop j).map L) j opens (some ⟨L nm, ps.map L, bs.map L⟩) st)
/-- The first error has been told. -/
def TErr (w : World) (B x r : Nat) (lv pv : Value) (R : Int × Nat × StP) (wr : World) : Prop := R.1 ≠ 0 ∧ RdErr wr r R.1 R.2.1 ∧ BkRow wr x lv (.int .i64 0) (.pointer none) pv (.int .i64 0) ∧ Below B w wr
def TPost (w : World) (B r : Nat) (R : Int × Nat × StP) (e : Ending) (w' : World) : Prop := e = .returned (.tuple #[]) ∧ Below B w w' ∧ (R.1 = 0 → RdSt w' B r R.2.2) ∧ (R.1 ≠ 0 → RdErr w' r R.1 R.2.1)

end Go.Proofs.YtcepppilgncdmaaGreatDoor
