/-
  One step of a script that asks for an Expand (package masonlaw): true, and the book holds four lists more.
-/
import Derived.Test.YtcepppilgncdmaaGreatDoorBkSame
namespace Go.Proofs.YtcepppilgncdmaaGreatDoor
open Go.RowKit

theorem outs_same {xs ys : List (ByteArray × Nat)} {r : List (List UInt8 × Nat)} (h : (xs.map fun x : ByteArray × Nat => (L x.1, x.2)) = r) (k : (ys.map fun x : ByteArray × Nat => (L x.1, x.2)) = r) : ys = xs := by
  refine (List.map_inj_right (f := fun x : ByteArray × Nat => (L x.1, x.2)) ?_).1 (k.trans h.symm)
  rintro ⟨a, m⟩ ⟨b, n⟩ e
  simp only [Prod.mk.injEq] at e
  rw [L_inj e.1, e.2]
theorem own_slice {w : World} {b e s n : Nat} {v : Value} {xs : List Value} (h : w.ownsRow b e s v n xs) : ∃ a c, v = .slice a n c := by
  rcases h.2 with ⟨rfl, rfl⟩ | ⟨g, cap, cur, rfl, _⟩
  · exact ⟨_, _, rfl⟩
  · exact ⟨_, _, rfl⟩

set_option maxRecDepth 100000 in
set_option maxHeartbeats 800000 in
theorem step_exp (w : World) (lo kb : Nat) (vb : Value) (us : List Value) (A : Int) (S : ByteArray) (nv bv : Value) (la : Option Addr) (ln lc : Nat) (hs : S.size ≤ 140737488351232) (hmax : MaxAt w) (hbk : BookAt w lo w.heap.size kb vb nv bv us) (hlo : lo ≤ w.heap.size) (hus : us.length % 4 = 0) (hN : (us.length + 4) * 24 ≤ 140737488355328) :
    Calls Tryz.prog 18 #[.pointer (some ⟨kb, 0, none⟩), .agg #[.int .i64 2, .int .i64 A, .string S, .slice la ln lc]] w fun e w' => e = .returned (.bool true) ∧ ∃ vb' us', us'.length = 4 ∧ BookAt w' lo w'.heap.size kb vb' nv bv (us ++ us') ∧ (∀ p, vb'.ownBlock = some p → vb.ownBlock = some p ∨ w.heap.size ≤ p) ∧ Keeps (kb :: vb.ownBlock.toList) w w' := by
  have hs2 : S.size ≤ maxLen := by unfold maxLen; omega
  have HBK := hid hbk
  have HMAX := hid hmax
  clear hbk hmax
  obtain ⟨r, hr⟩ : ∃ r, expandP (L S) = r := ⟨_, rfl⟩
  have HR := hid hr
  clear hr
  go_enter Tryz.func18, Tryz.ntmps18
  go_wp2_with fail
  have hb0 : Below w.heap.size w (w.alloc (Obj.cells #[Value.int IntKind.i64 2, Value.int IntKind.i64 A, Value.string S, Value.slice la ln lc] 57)) := (Below.refl _ _).alloc (Nat.le_refl _) _
  have hc0 : (w.alloc (Obj.cells #[Value.int IntKind.i64 2, Value.int IntKind.i64 A, Value.string S, Value.slice la ln lc] 57)).cell? ⟨w.heap.size, 2, none⟩ = some (.string S) := by simp
  have hz0 : w.heap.size < (w.alloc (Obj.cells #[Value.int IntKind.i64 2, Value.int IntKind.i64 A, Value.string S, Value.slice la ln lc] 57)).heap.size := by simp
  generalize w.alloc (Obj.cells #[Value.int IntKind.i64 2, Value.int IntKind.i64 A, Value.string S, Value.slice la ln lc] 57) = w1 at *
  have HB0 := hid hb0
  have HMAX1 := hid (HMAX.out.below hb0)
  clear hb0
  refine (mExpand_nil S w1 hs2 HMAX1.out).mono ?_
  rintro e w2 ⟨⟨hb2, vl, outs, rfl, ho, hle, hown⟩, hnil⟩
  rw [HR.out] at ho hnil ⊢
  have hc2 := (hb2.cell (p := ⟨w.heap.size, 2, none⟩) hz0).trans hc0
  have HNIL := hid hnil
  have HO := hid ho
  have HB2 := hid (HB0.out.trans (hb2.mono (Nat.le_of_lt hz0)))
  have HOWN := hid (own_mono hown (Nat.le_of_lt hz0))
  obtain ⟨a, ca, hv⟩ := own_slice hown
  subst hv
  have hz2 : w.heap.size < w2.heap.size := Nat.lt_of_lt_of_le hz0 hb2.size
  clear hb2 ho hnil hown hc0
  go_wp2_with fail
  refine (rExpand_any S w2 hs2).mono ?_
  rintro e w3 ⟨hb3, vm, outs2, rfl, ho2, hown3⟩
  rw [HR.out] at ho2 ⊢
  have he := outs_same HO.out ho2
  subst he
  obtain ⟨b, cb, hv⟩ := own_slice hown3
  subst hv
  have HB3 := hid (HB2.out.trans (hb3.mono (Nat.le_of_lt hz2)))
  have HL3 := hid (own_grown HOWN.out (grown_below hb3))
  have HM3 := hid (own_mono hown3 (Nat.le_of_lt hz2))
  clear hb3 ho2 hown3 HOWN HO
  have hbk3 := HBK.out.grown (grown_below HB3.out) (by simp)
  have HBK3 := hid hbk3
  clear hbk3
  have hne : r.1 ≠ 0 → a = none := fun h => by
    obtain ⟨x, y, h1⟩ := HNIL.out h
    simp only [Ending.returned.injEq, Value.tuple.injEq] at h1
    injection h1 with h1
    injection h1 with h1 _
    injection h1
  have HNE := hid hne
  clear hne HNIL
  go_wp2_with fail
  refine (same_any w3 lo w.heap.size kb vb nv bv us a b ca cb outs2 r.1 HBK3.out HB3.out.size hlo HL3.out HM3.out hle hus hN HNE.out).mono ?_
  rintro e w4 ⟨rfl, vb', us', h1, h2, h3, h4⟩
  have H2 := hid h2
  have H3 := hid h3
  have H4 := hid h4
  clear h2 h3 h4
  go_wp2_with fail
  go_ret
  refine ⟨rfl, vb', us', h1, H2.out, H3.out, ?_⟩
  have h4 := H4.out
  have h3 := HB3.out
  refine ⟨h4.os.trans h3.os, h4.tape.trans h3.tape, h4.output.trans h3.output, Nat.le_trans h3.size h4.size, fun k hk hm => ?_⟩
  rw [h4.block k (Nat.lt_of_lt_of_le hk h3.size) ?_]
  · exact h3.block k hk
  · intro hh
    simp only [List.mem_cons, List.mem_append, Option.mem_toList] at hh hm
    rcases hh with hh | hh | hh
    · exact hm (Or.inl hh)
    · exact hm (Or.inr hh)
    · have := own_ge HL3.out hh
      omega

end Go.Proofs.YtcepppilgncdmaaGreatDoor
