/-
  The parts of a long list, and of what Unrolled looks at behind its loops.
-/
import Derived.Test.YtcepppilgncdmaaDoorUnAll
namespace Go.Proofs.YtcepppilgncdmaaDoor
open Go.RowKit

theorem parts_get {α : Type} (a : List α) (b : α) (c : List α) (d : α) (e : List α) : (a ++ [b] ++ c ++ [d] ++ e)[a.length]? = some b ∧ (∀ i, i < c.length → (a ++ [b] ++ c ++ [d] ++ e)[a.length + (1 + i)]? = c[i]?) ∧ (a ++ [b] ++ c ++ [d] ++ e)[a.length + (c.length + 1)]? = some d ∧ ∀ i, i < e.length → (a ++ [b] ++ c ++ [d] ++ e)[a.length + (2 + c.length + i)]? = e[i]? := by
  refine ⟨?_, fun i hi => ?_, ?_, fun i hi => ?_⟩
  · simp
  · simp [List.getElem?_append_right, List.getElem?_append, hi, Nat.add_comm 1 i]
  · simp
  · have h1 : 2 + c.length + i = (c.length + 1 + i) + 1 := by omega
    have h2 : c.length + 1 + i - c.length = i + 1 := by omega
    simp [List.getElem?_append_right, h1, List.getElem?_cons_succ]
    rw [List.getElem?_append_right (by omega), h2]
    simp

/-- An answer's line, by its number. -/
theorem outs_at {outs : List (ByteArray × Nat)} {r : List (List UInt8 × Nat)} (h : (outs.map fun x : ByteArray × Nat => (L x.1, x.2)) = r) (i : Nat) (hi : i < outs.length) (p : List UInt8 × Nat) (hp : r[i]? = some p) : L outs[i].1 = p.1 ∧ outs[i].2 = p.2 := by
  subst h
  rw [List.getElem?_map, List.getElem?_eq_getElem hi] at hp
  simp only [Option.map_some, Option.some.injEq] at hp
  rw [← hp]
  exact ⟨rfl, rfl⟩
theorem fromOf_int (n j d : Nat) (hd : max n 1 = d) : ((fromOf n j : Nat) : Int) = (n : Int) + 7 + (j : Int) / (d : Int) := by
  unfold fromOf
  rw [hd]
  simp
theorem own_cap2 {w : World} {base e size n g cap : Nat} {xs : List Value} (h : w.ownsRow base e size (.slice (some ⟨g, 0, none⟩) n cap) n xs) : n ≤ cap := by
  rcases h.2 with ⟨h', _⟩ | ⟨g', cap', cur, h', _, _, hc, _⟩
  · simp at h'
  · simp only [Value.slice.injEq, true_and] at h'
    omega
/-- The parts of the second answer. -/
theorem two_parts {bs : List (Nat × Nat × Nat)} {x f : Nat} {out : List (List UInt8 × Nat)} {outs : List (ByteArray × Nat)} (h : (outs.map fun p : ByteArray × Nat => (L p.1, p.2)) = out ++ [([103, 111, 58], f)] ++ bs.map (fun b => (wantLn (rgB x) (rgB 0) b, f)) ++ [(108 :: rgB x ++ [58], f)] ++ bs.map fun b => (wantLn (rgB 3) (rgB x) b, f)) (m : Nat) (hm : out.length = m) :
    outs.length = m + (2 + bs.length + bs.length) ∧ (∀ hi : m < outs.length, L outs[m].1 = [103, 111, 58] ∧ outs[m].2 = f) ∧ (∀ hi : m + (bs.length + 1) < outs.length, L outs[m + (bs.length + 1)].1 = 108 :: rgB x ++ [58]) ∧
    (∀ (i : Nat) (b : Nat × Nat × Nat) (_ : bs[i]? = some b) (hi : m + (1 + i) < outs.length), L outs[m + (1 + i)].1 = wantLn (rgB x) (rgB 0) b) ∧ (∀ (i : Nat) (b : Nat × Nat × Nat) (_ : bs[i]? = some b) (hi : m + (2 + bs.length + i) < outs.length), L outs[m + (2 + bs.length + i)].1 = wantLn (rgB 3) (rgB x) b ∧ outs[m + (2 + bs.length + i)].2 = f) := by
  subst hm
  obtain ⟨p1, p2, p3, p4⟩ := parts_get out ([103, 111, 58], f) (bs.map (fun b => (wantLn (rgB x) (rgB 0) b, f))) (108 :: rgB x ++ [58], f) (bs.map fun b => (wantLn (rgB 3) (rgB x) b, f))
  rw [← h] at p1 p2 p3 p4
  simp only [List.length_map] at p2 p3 p4
  have hl := congrArg List.length h
  simp only [List.length_map, List.length_append, List.length_singleton] at hl
  refine ⟨by omega, fun hi => outs_at rfl _ hi _ p1, fun hi => (outs_at rfl _ hi _ p3).1, fun i b hb hi => ?_, fun i b hb hi => ?_⟩
  · have hbl := (List.getElem?_eq_some_iff.1 hb).1
    have := p2 i hbl
    have e : (bs.map (fun b => (wantLn (rgB x) (rgB 0) b, f)))[i]? = some (wantLn (rgB x) (rgB 0) b, f) := by rw [List.getElem?_map, hb]; rfl
    exact (outs_at rfl _ hi _ (this.trans e)).1
  · have hbl := (List.getElem?_eq_some_iff.1 hb).1
    have := p4 i hbl
    have e : (bs.map (fun b => (wantLn (rgB 3) (rgB x) b, f)))[i]? = some (wantLn (rgB 3) (rgB x) b, f) := by rw [List.getElem?_map, hb]; rfl
    exact outs_at rfl _ hi _ (this.trans e)
end Go.Proofs.YtcepppilgncdmaaDoor
