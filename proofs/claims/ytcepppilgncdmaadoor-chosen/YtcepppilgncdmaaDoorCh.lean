/-
  What Chosen answers: true, whatever numbers it is given.
-/
import Derived.Test.YtcepppilgncdmaaDoorKeepU
namespace Go.Proofs.YtcepppilgncdmaaDoor
open Go.RowKit
attribute [local go_sem ↓] Go.wp_at_zero Go.wp_at_succ

def opC (q : List (Bool × Bool)) : List Value := q.reverse.map fun p => .bool p.1
def tuC (q : List (Bool × Bool)) : List Value := q.reverse.map fun p => .bool p.2
def frC (fs : List Nat) : List Value := .int .i64 1 :: fs.map fun k : Nat => .int .i64 (k : Int)

theorem opC_cons (p : Bool × Bool) (q : List (Bool × Bool)) : opC (p :: q) = opC q ++ [.bool p.1] := by simp [opC]
theorem tuC_cons (p : Bool × Bool) (q : List (Bool × Bool)) : tuC (p :: q) = tuC q ++ [.bool p.2] := by simp [tuC]
theorem opC_length (q : List (Bool × Bool)) : (opC q).length = q.length := by simp [opC]
theorem tuC_length (q : List (Bool × Bool)) : (tuC q).length = q.length := by simp [tuC]
theorem frC_snoc (fs : List Nat) (k : Nat) : frC (fs ++ [k]) = frC fs ++ [.int .i64 (k : Int)] := by simp [frC]

theorem own_lt {w : World} {base e size n g : Nat} {v : Value} {xs : List Value} (h : w.ownsRow base e size v n xs) (hg : v.ownBlock = some g) : g < w.heap.size ∧ base ≤ g := by
  rcases h.2 with ⟨rfl, _⟩ | ⟨g', cap, cur, rfl, h2, h3, _⟩
  · cases hg
  · simp only [Value.ownBlock, Option.some.injEq] at hg
    subst hg
    exact ⟨(Array.getElem?_eq_some_iff.1 h3).1, h2⟩
theorem own_grown {w w' : World} {base e size n : Nat} {v : Value} {xs : List Value} {row : Option Nat} (h : w.ownsRow base e size v n xs) (hg : w.grownBy w' row) (hne : ∀ g, v.ownBlock = some g → row ≠ some g) : w'.ownsRow base e size v n xs := by
  refine ⟨h.1, h.2.imp id ?_⟩
  rintro ⟨g, cap, cur, rfl, h2, h3, h4⟩
  refine ⟨g, cap, cur, rfl, h2, ?_, h4⟩
  rw [hg.block g (Array.getElem?_eq_some_iff.1 h3).1 (fun c => hne g rfl c.symm)]
  exact h3

/-- What the statement holds of conditions and lines, in memory. -/
structure ChW (B : Nat) (w : World) (v5 v6 v8 : Value) (n m : Nat) (q : List (Bool × Bool)) (fs : List Nat) : Prop where
  opn : w.ownsRow B 4 1 v5 n (opC q)
  trn : w.ownsRow B 4 1 v6 n (tuC q)
  frm : w.ownsRow B 3 1 v8 m (frC fs)
  apart : ∀ g, v5.ownBlock = some g → v6.ownBlock ≠ some g
  len : q.length = n
  flen : fs.length + 1 = m
theorem ChW.below {B : Nat} {w w' : World} {v5 v6 v8 : Value} {n m : Nat} {q : List (Bool × Bool)} {fs : List Nat} (h : ChW B w v5 v6 v8 n m q fs) (hb : Below w.heap.size w w') : ChW B w' v5 v6 v8 n m q fs :=
  ⟨ownsRow_belowP h.opn hb, ownsRow_belowP h.trn hb, ownsRow_belowP h.frm hb, h.apart, h.len, h.flen⟩
theorem ChW.pop {B : Nat} {w : World} {v8 : Value} {n m g5 g6 c5 c6 : Nat} {p : Bool × Bool} {q : List (Bool × Bool)} {fs : List Nat} (h : ChW B w (.slice (some ⟨g5, 0, none⟩) (n + 1) c5) (.slice (some ⟨g6, 0, none⟩) (n + 1) c6) v8 (n + 1) m (p :: q) fs) :
    ChW B w (.slice (some ⟨g5, 0, none⟩) n c5) (.slice (some ⟨g6, 0, none⟩) n c6) v8 n m q fs := by
  have hl : q.length = n := by have := h.len; simp at this; exact this
  have h1 := h.opn
  have h2 := h.trn
  rw [opC_cons] at h1
  rw [tuC_cons] at h2
  exact ⟨ownsRow_pop (by rw [opC_length, hl]; omega) h1, ownsRow_pop (by rw [tuC_length, hl]; omega) h2, h.frm, h.apart, hl, h.flen⟩
theorem ChW.turn {B : Nat} {w : World} {v8 : Value} {n m g5 g6 c5 c6 : Nat} {b t : Bool} {q : List (Bool × Bool)} {fs : List Nat} (h : ChW B w (.slice (some ⟨g5, 0, none⟩) (n + 1) c5) (.slice (some ⟨g6, 0, none⟩) (n + 1) c6) v8 (n + 1) m ((b, t) :: q) fs) (b' t' : Bool) :
    ChW B ((w.setCell ⟨g5, n, none⟩ (.bool b')).setCell ⟨g6, n, none⟩ (.bool t')) (.slice (some ⟨g5, 0, none⟩) (n + 1) c5) (.slice (some ⟨g6, 0, none⟩) (n + 1) c6) v8 (n + 1) m ((b', t') :: q) fs := by
  have hl : q.length = n := by have := h.len; simp at this; exact this
  have hne : (Value.slice (some ⟨g6, 0, none⟩) (n + 1) c6).ownBlock ≠ some g5 := h.apart g5 rfl
  have hne' : (Value.slice (some ⟨g5, 0, none⟩) (n + 1) c5).ownBlock ≠ some g6 := fun c => h.apart g6 c rfl
  have f5 : v8.ownBlock ≠ some g5 := own_own_ne h.frm h.opn (by decide) rfl
  have f6 : v8.ownBlock ≠ some g6 := own_own_ne h.frm h.trn (by decide) rfl
  have e1 : (opC ((b, t) :: q)).set n (.bool b') = opC ((b', t') :: q) := by
    rw [opC_cons, opC_cons, List.set_append_right _ _ (by rw [opC_length]; omega), opC_length, hl]; simp
  have e2 : (tuC ((b, t) :: q)).set n (.bool t') = tuC ((b', t') :: q) := by
    rw [tuC_cons, tuC_cons, List.set_append_right _ _ (by rw [tuC_length]; omega), tuC_length, hl]; simp
  have r1 := (h.opn.stored n (.bool b')).1
  rw [e1] at r1
  have r2 := ((ownsRow_setCell_other h.trn (a := ⟨g5, n, none⟩) hne (.bool b')).stored n (.bool t')).1
  rw [e2] at r2
  exact ⟨ownsRow_setCell_other r1 (a := ⟨g6, n, none⟩) hne' _, r2, ownsRow_setCell_other (ownsRow_setCell_other h.frm (a := ⟨g5, n, none⟩) f5 _) (a := ⟨g6, n, none⟩) f6 _, h.apart, by simp [hl], h.flen⟩
theorem ChW.ne {B : Nat} {w : World} {v5 v6 v8 : Value} {n m : Nat} {q : List (Bool × Bool)} {fs : List Nat} (h : ChW B w v5 v6 v8 n m q fs) : (∀ g, v6.ownBlock = some g → v5.ownBlock ≠ some g) ∧ (∀ g, v8.ownBlock = some g → v5.ownBlock ≠ some g) ∧ (∀ g, v8.ownBlock = some g → v6.ownBlock ≠ some g) ∧ (∀ g, v5.ownBlock = some g → v8.ownBlock ≠ some g) ∧ (∀ g, v6.ownBlock = some g → v8.ownBlock ≠ some g) :=
  ⟨fun g hg c => h.apart g c hg, fun g hg c => own_own_ne h.frm h.opn (by decide) c hg, fun g hg c => own_own_ne h.frm h.trn (by decide) c hg, fun _ hg => own_own_ne h.frm h.opn (by decide) hg, fun _ hg => own_own_ne h.frm h.trn (by decide) hg⟩
/-- The second list, behind an append to the first. -/
theorem ChW.mid {B : Nat} {w w1 : World} {v5 v6 v8 : Value} {n m : Nat} {q : List (Bool × Bool)} {fs : List Nat} (h : ChW B w v5 v6 v8 n m q fs) (k1 : w.grownBy w1 v5.ownBlock) : w1.ownsRow B 4 1 v6 n (tuC q) := own_grown h.trn k1 h.ne.1
theorem ChW.push {B : Nat} {w w1 w2 : World} {v5 v6 v8 : Value} {n m g1 g2 c1 c2 : Nat} {q : List (Bool × Bool)} {fs : List Nat} {o2 : Obj} (h : ChW B w v5 v6 v8 n m q fs) (b : Bool)
    (r1 : w1.ownsRow B 4 1 (.slice (some ⟨g1, 0, none⟩) (n + 1) c1) (n + 1) (opC q ++ [.bool b])) (k1 : w.grownBy w1 v5.ownBlock) (a1 : v5.ownBlock = some g1 ∨ g1 = w.heap.size) (l1 : g1 < w1.heap.size)
    (r2 : w2.ownsRow B 4 1 (.slice (some ⟨g2, 0, none⟩) (n + 1) c2) (n + 1) (tuC q ++ [.bool false])) (k2 : (w1.alloc o2).grownBy w2 v6.ownBlock) (a2 : v6.ownBlock = some g2 ∨ g2 = (w1.alloc o2).heap.size) :
    ChW B w2 (.slice (some ⟨g1, 0, none⟩) (n + 1) c1) (.slice (some ⟨g2, 0, none⟩) (n + 1) c2) v8 (n + 1) m ((b, false) :: q) fs := by
  obtain ⟨n1, n2, n3, n4, n5⟩ := h.ne
  have hg : v6.ownBlock ≠ some g1 := by
    rcases a1 with a1 | a1
    · exact h.apart g1 a1
    · intro c; have := (own_lt h.trn c).1; omega
  have hs : (w1.alloc o2).heap.size = w1.heap.size + 1 := by simp
  refine ⟨?_, ?_, ?_, ?_, by simp [h.len], h.flen⟩
  · rw [opC_cons]
    exact own_grown (r1.alloc o2) k2 fun g hx => by
      simp only [Value.ownBlock, Option.some.injEq] at hx
      subst hx
      exact hg
  · rw [tuC_cons]; exact r2
  · exact own_grown ((own_grown h.frm k1 n2).alloc o2) k2 n3
  · intro g hx c
    simp only [Value.ownBlock, Option.some.injEq] at hx c
    subst hx
    subst c
    rcases a2 with a2 | a2
    · exact hg a2
    · omega
theorem ChW.line {B : Nat} {w w1 : World} {v5 v6 v8 : Value} {n m g c : Nat} {q : List (Bool × Bool)} {fs : List Nat} (h : ChW B w v5 v6 v8 n m q fs) (k : Nat)
    (r : w1.ownsRow B 3 1 (.slice (some ⟨g, 0, none⟩) (m + 1) c) (m + 1) (frC fs ++ [.int .i64 (k : Int)])) (k1 : w.grownBy w1 v8.ownBlock) : ChW B w1 v5 v6 (.slice (some ⟨g, 0, none⟩) (m + 1) c) n (m + 1) q (fs ++ [k]) := by
  obtain ⟨n1, n2, n3, n4, n5⟩ := h.ne
  exact ⟨own_grown h.opn k1 n4, own_grown h.trn k1 n5, by rw [frC_snoc]; exact r, h.apart, h.len, by simp [h.flen]⟩

theorem infoBool : (Tryd.prog.info? 4).map (fun i => (i.zero, i.size, i.bytes)) = some (some (.bool false), 1, 1) := by kernel_rfl
theorem infoInt : (Tryd.prog.info? 3).map (fun i => (i.zero, i.size, i.bytes)) = some (some (.int .i64 0), 1, 8) := by kernel_rfl

/-- Of the text so far: its lines, which conditions are open, which lines are left. -/
def ChAll (sB : ByteArray) (ls : List (List UInt8)) (q : List (Bool × Bool)) (fs : List Nat) (k : Nat) : Prop :=
  L sB = textL ls ∧ sB.size ≤ 11 + 16 * k ∧ ls.length = k + 1 ∧ fs.length ≤ k ∧ ChRun ls q fs
theorem ChAll.more {sB sC : ByteArray} {ls : List (List UInt8)} {q q' : List (Bool × Bool)} {fs fs' : List Nat} {k : Nat} (h : ChAll sB ls q fs k) (l : List UInt8) (hl : L sC = L sB ++ (l ++ [10])) (h15 : l.length ≤ 15) (hr : ChRun (ls ++ [l]) q' fs') (hf : fs'.length ≤ fs.length + 1) : ChAll sC (ls ++ [l]) q' fs' (k + 1) := by
  have hz : sC.size = sB.size + (l.length + 1) := by rw [← L_length, hl, List.length_append, L_length]; simp
  have h2 := h.2.1
  have h3 := h.2.2.2.1
  exact ⟨by rw [hl, h.1, textL_append, textL_one], by omega, by simp [h.2.2.1], by omega, hr⟩

end Go.Proofs.YtcepppilgncdmaaDoor
