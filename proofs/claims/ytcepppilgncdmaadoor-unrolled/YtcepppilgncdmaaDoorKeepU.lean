/-
  What the statements on Expand of package masonkeep share: lists of numbers, the lines of an answer in memory, and the first look.
-/
import Derived.Test.YtcepppilgncdmaaDoorKeep
import Derived.Test.YtcepppilgncdmaaDoorPTop
import Derived.Test.YtcepppilgncdmaaDoorUnMath
import Derived.Deep.CutBlock
import Derived.Deep.DeepCutAuto
import Derived.Deep.LoopGhost
namespace Go.Proofs.YtcepppilgncdmaaDoor
open Go.RowKit
attribute [local go_sem ↓] Go.wp_at_zero Go.wp_at_succ

def i64ok (z : Int) : Prop := -9223372036854775808 ≤ z ∧ z ≤ 9223372036854775807
theorem pickI_nat (c n : Int) (h : 0 < n) : ∃ m : Nat, pickI c n = m ∧ (m : Int) < n := by
  have := pickI_bd c n h
  exact ⟨(pickI c n).toNat, by omega, by omega⟩
theorem pick_nat (c n : Int) (m : Nat) (w : World) (hc : i64ok c) (hn : 0 < n ∧ n ≤ 9223372036854775807) (hm : pickI c n = m) :
    Calls Tryd.prog 6 #[.int .i64 c, .int .i64 n] w fun e w' => e = .returned (.int .i64 (m : Int)) ∧ w' = w := by
  rw [← hm]; exact pick_any c n w hc hn

/-- A list of numbers lies in the world. -/
def IntsAt (w : World) (a : Option Addr) (zs : List Int) : Prop :=
  zs = [] ∨ ∃ b off, a = some ⟨b, off, none⟩ ∧ b < w.heap.size ∧ ∀ i (h : i < zs.length), w.cell? ⟨b, off + i, none⟩ = some (.int .i64 zs[i]) ∧ i64ok zs[i]

theorem lineCells_length (outs : List (ByteArray × Nat)) : (lineCells outs).length = outs.length * 4 := by
  induction outs with
  | nil => rfl
  | cons x r ih => simp only [lineCells, List.length_cons, ih]; omega
theorem lineCells_at (outs : List (ByteArray × Nat)) : ∀ (i : Nat) (h : i < outs.length), (lineCells outs)[i * 4]? = some (.string outs[i].1) ∧ (lineCells outs)[i * 4 + 1]? = some (.int .i64 (outs[i].2 : Nat)) ∧ (lineCells outs)[i * 4 + 2]? = some (.int .i64 0) ∧ (lineCells outs)[i * 4 + 3]? = some (.int .i64 0) := by
  induction outs with
  | nil => intro i h; simp at h
  | cons x r ih =>
    intro i h
    cases i with
    | zero => simp [lineCells]
    | succ i =>
      have := ih i (by simpa using h)
      rw [show (i + 1) * 4 = i * 4 + 1 + 1 + 1 + 1 from by omega]
      simp only [lineCells, show i * 4 + 1 + 1 + 1 + 1 + 1 = (i * 4 + 1) + 1 + 1 + 1 + 1 from rfl, show i * 4 + 1 + 1 + 1 + 1 + 2 = (i * 4 + 2) + 1 + 1 + 1 + 1 from by omega, show i * 4 + 1 + 1 + 1 + 1 + 3 = (i * 4 + 3) + 1 + 1 + 1 + 1 from by omega, List.getElem?_cons_succ, List.getElem_cons_succ]
      exact this

/-- The lines of an answer lie in the world. -/
theorem lines_lie {w : World} {base : Nat} {vl : Value} {outs : List (ByteArray × Nat)} (h : w.ownsRow base 35 4 vl outs.length (lineCells outs)) (h0 : 0 < outs.length) :
    ∃ g cap, vl = .slice (some ⟨g, 0, none⟩) outs.length cap ∧ base ≤ g ∧ g < w.heap.size ∧ ∀ i (h : i < outs.length), w.cell? ⟨g, i * 4, none⟩ = some (.string outs[i].1) ∧ w.cell? ⟨g, i * 4 + 1, none⟩ = some (.int .i64 (outs[i].2 : Nat)) ∧ w.cell? ⟨g, i * 4 + 2, none⟩ = some (.int .i64 0) ∧ w.cell? ⟨g, i * 4 + 3, none⟩ = some (.int .i64 0) := by
  obtain ⟨g, cap, rfl, hb, hlt⟩ := h.form (by omega)
  refine ⟨g, cap, rfl, hb, hlt, fun i hi => ?_⟩
  obtain ⟨c1, c2, c3, c4⟩ := lineCells_at outs i hi
  rw [h.cellAt (i * 4) (by omega), h.cellAt (i * 4 + 1) (by omega), h.cellAt (i * 4 + 2) (by omega), h.cellAt (i * 4 + 3) (by omega)]
  exact ⟨c1, c2, c3, c4⟩

/-- An answer's lines, as texts and numbers. -/
theorem outs_get {outs : List (ByteArray × Nat)} {r : List (List UInt8 × Nat)} (h : (outs.map fun x : ByteArray × Nat => (L x.1, x.2)) = r) (i : Nat) (hi : i < outs.length) (hr : i < r.length) : L outs[i].1 = r[i].1 ∧ outs[i].2 = r[i].2 := by
  subst h
  simp
theorem outs_len {outs : List (ByteArray × Nat)} {r : List (List UInt8 × Nat)} (h : (outs.map fun x : ByteArray × Nat => (L x.1, x.2)) = r) : outs.length = r.length := by
  subst h
  simp

def worksT : ByteArray := ⟨#[46, 109, 97, 99, 114, 111, 32, 116, 119, 105, 99, 101, 44, 97, 10, 97, 100, 100, 32, 92, 97, 44, 92, 97, 10, 46, 101, 110, 100, 10, 104, 101, 114, 101, 58, 32, 116, 119, 105, 99, 101, 32, 114, 49, 32, 59, 32, 115, 111]⟩
theorem works_plain : expandP (L worksT) = (0, 0, [([104, 101, 114, 101, 58], 4), ([97, 100, 100, 32, 114, 49, 44, 114, 49], 4)]) := by decide +kernel
theorem outs_two {outs : List (ByteArray × Nat)} {a b : ByteArray} {m n : Nat} (h : (outs.map fun x : ByteArray × Nat => (L x.1, x.2)) = [(L a, m), (L b, n)]) : outs = [(a, m), (b, n)] := by
  match outs, h with
  | [], h => simp at h
  | [_], h => simp at h
  | _ :: _ :: _ :: _, h => simp at h
  | [(x, i), (y, j)], h =>
    simp only [List.map_cons, List.map_nil, List.cons.injEq, Prod.mk.injEq, and_true] at h
    obtain ⟨⟨h1, rfl⟩, h2, rfl⟩ := h
    rw [L_inj h1, L_inj h2]

set_option maxRecDepth 100000 in
set_option maxHeartbeats 800000 in
theorem works_any (w : World) (hm : MaxAt w) :
    Calls Tryd.prog 5 #[] w fun e w' => e = .returned (.bool true) ∧ Below w.heap.size w w' := by
  have hc := mExpand_any worksT w (by unfold maxLen worksT; decide) hm
  rw [works_plain] at hc
  have HC := hid hc
  clear hc hm
  go_enter Tryd.func5, Tryd.ntmps5
  go_wp2_with fail
  refine HC.out.mono ?_
  rintro e w1 ⟨hb, vl, outs, rfl, ho, h3, hown⟩
  have ho := outs_two (a := ⟨#[104, 101, 114, 101, 58]⟩) (b := ⟨#[97, 100, 100, 32, 114, 49, 44, 114, 49]⟩) ho
  subst ho
  obtain ⟨g, cap, rfl, _, hlt, hcs⟩ := lines_lie hown (by simp)
  have c0 := hcs 0 (by simp)
  have c1 := hcs 1 (by simp)
  simp only [List.getElem_cons_zero, List.getElem_cons_succ, Nat.zero_mul, Nat.one_mul, Nat.zero_add, Nat.reduceAdd] at c0 c1
  obtain ⟨c00, c01, c02, c03⟩ := c0
  obtain ⟨c10, c11, c12, c13⟩ := c1
  have HB := hid hb
  clear hown hcs hb h3
  simp only [List.length_cons, List.length_nil, Nat.zero_add, Nat.reduceAdd]
  go_wp2_with fail
  go_ret
  exact ⟨rfl, HB.out⟩

end Go.Proofs.YtcepppilgncdmaaDoor
