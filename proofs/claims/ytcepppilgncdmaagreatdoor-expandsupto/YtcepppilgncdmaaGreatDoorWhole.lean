/-
  What 'masonlaw.whole' answers of a list that was lent and not written into: true.
-/
import Derived.Test.YtcepppilgncdmaaGreatDoorLent
namespace Go.Proofs.YtcepppilgncdmaaGreatDoor
open Go.RowKit

/-- The list of names lies below block B. -/
def NamesBelow (B : Nat) (w : World) (a : Option Addr) (ns : List (ByteArray × Int)) : Prop :=
  ns = [] ∨ ∃ b off, a = some ⟨b, off, none⟩ ∧ b < B ∧ b < w.heap.size ∧ ∀ i (h : i < ns.length), w.cell? ⟨b, off + i * 2, none⟩ = some (.string ns[i].1) ∧ w.cell? ⟨b, off + i * 2 + 1, none⟩ = some (.int .i64 ns[i].2)

theorem NamesBelow.names {B : Nat} {w : World} {a : Option Addr} {ns : List (ByteArray × Int)} (h : NamesBelow B w a ns) : NamesAt w a ns := by
  rcases h with h | ⟨b, off, h1, _, h3, h4⟩
  · exact Or.inl h
  · exact Or.inr ⟨b, off, h1, h3, h4⟩
theorem NamesBelow.below {B : Nat} {w w' : World} {a : Option Addr} {ns : List (ByteArray × Int)} (h : NamesBelow B w a ns) (hb : Below B w w') : NamesBelow B w' a ns := by
  rcases h with h | ⟨b, off, h1, h2, h3, h4⟩
  · exact Or.inl h
  · refine Or.inr ⟨b, off, h1, h2, Nat.lt_of_lt_of_le h3 hb.size, fun i hi => ?_⟩
    rw [hb.cell (p := ⟨b, off + i * 2, none⟩) h2, hb.cell (p := ⟨b, off + i * 2 + 1, none⟩) h2]
    exact h4 i hi
theorem NamesAt.under {w : World} {a : Option Addr} {ns : List (ByteArray × Int)} (h : NamesAt w a ns) : NamesBelow w.heap.size w a ns := by
  rcases h with h | ⟨b, off, h1, h3, h4⟩
  · exact Or.inl h
  · exact Or.inr ⟨b, off, h1, h3, h3, h4⟩

theorem drop_two (xs : List Value) (j : Nat) (u v : Value) : ((xs.set j u).set (j + 1) v).drop (j + 2) = xs.drop (j + 2) := by
  rw [List.drop_set_of_lt (by omega), List.drop_set_of_lt (by omega)]

theorem get_of_drop {xs ys : List Value} {j i : Nat} (h : xs.drop j = ys.drop j) (hij : j ≤ i) : xs[i]? = ys[i]? := by
  have := congrArg (fun l => l[i - j]?) h
  simp only [List.getElem?_drop] at this
  rwa [show j + (i - j) = i from by omega] at this

set_option maxRecDepth 100000 in
set_option maxHeartbeats 1000000 in
theorem whole_any (g : Nat) (a : Addr) (cap : Nat) (ns : List (ByteArray × Int)) (B : Nat) (w : World) (hl : ns.length ≤ 5864062014634) (hB1 : B ≤ g) (hB2 : B ≤ w.heap.size) (hn : NamesBelow B w (some a) ns) (hrow : RowN w g (cellsN (ns ++ List.replicate 8 beyondB))) :
    Calls Tryz.prog 25 #[.slice (some ⟨g, 0, none⟩) ns.length (ns.length + 8), .slice (some a) ns.length cap] w fun e w' => e = .returned (.bool true) ∧ Below B w w' := by
  have HN := hid hn
  have HROW0 := hid hrow
  clear hn hrow
  have heq := fun (wx : World) => Lib.run_eql_slice_nil (P := Tryz.prog) wx 31 40 (some a) ns.length cap 0 0 Tryz.underlying31
  obtain ⟨all, hall⟩ : ∃ all, ns ++ List.replicate 8 beyondB = all := ⟨_, rfl⟩
  have hal : all.length = ns.length + 8 := by rw [← hall]; simp
  have HALL := hid hall
  have HROW1 := hid (show RowN w g (cellsN all) by rw [← hall]; exact HROW0.out)
  clear hall HROW0
  go_enter Tryz.func25, Tryz.ntmps25
  go_wp2
  go_loopw [7, 8] (fun ok i wr => ∃ (j : Nat) (xs : List Value), j ≤ ns.length + 8 ∧ i = .int .i64 j ∧ ok = .bool true ∧ xs.length = (ns.length + 8) * 2 ∧ xs.drop (j * 2) = (cellsN all).drop (j * 2) ∧ RowN wr g xs ∧ Below B w wr) (fun _ i _ => ns.length + 8 - (intOf i).toNat)
  case atStart => exact ⟨0, _, by omega, rfl, rfl, by rw [cellsN_length, hal], rfl, HROW1.out, Below.refl _ _⟩
  case round =>
    obtain ⟨j, xs, hj2, rfl, rfl, hxl, hxd, hrow, hbr⟩ := hrel
    have HROW := hid hrow
    have HXD := hid hxd
    have HBR := hid hbr
    clear hrow hxd hbr
    have hgw : g < wr.heap.size := HROW.out.lt
    have hBw : B ≤ wr.heap.size := Nat.le_trans hB2 HBR.out.size
    by_cases hlt : j < ns.length + 8
    · obtain ⟨d1, d2⟩ := cellsN_at all j (by omega)
      have c1 : wr.cell? ⟨g, j * 2, none⟩ = some (.string all[j].1) := by
        rw [HROW.out.cell (j * 2) (by omega), ← List.getElem?_eq_getElem, get_of_drop HXD.out (Nat.le_refl _), d1]
      have c2 : wr.cell? ⟨g, j * 2 + 1, none⟩ = some (.int .i64 all[j].2) := by
        rw [HROW.out.cell (j * 2 + 1) (by omega), ← List.getElem?_eq_getElem, get_of_drop HXD.out (by omega), d2]
      have f1 := HROW.out.free (j * 2)
      have f2 := HROW.out.free (j * 2 + 1)
      clear d1 d2
      by_cases hjn : j < ns.length
      · have hej : all[j] = ns[j] := by have := HALL.out; subst this; rw [List.getElem_append_left hjn]
        rw [hej] at c1 c2
        rcases (HN.out.below HBR.out) with h | ⟨b, off, ha, hbB, hbl, hc⟩
        · rw [h] at hjn; simp at hjn
        · simp only [Option.some.injEq] at ha
          subst ha
          obtain ⟨e1, e2⟩ := hc j hjn
          clear hc hej
          obtain ⟨p, hp⟩ : ∃ p, ns[j] = p := ⟨_, rfl⟩
          rw [hp] at c1 c2 e1 e2
          clear hp
          obtain ⟨nm, vl⟩ := p
          simp only at c1 c2 e1 e2
          have hne : ¬ b = wr.heap.size := by omega
          have i1 : (0 : Int) ≤ (j : Int) := Int.natCast_nonneg _
          have i2 : (j : Int) < (ns.length : Int) + 8 := by omega
          go_wp2
          go_quiet (fail)
          go_wp2
          go_roundw
          case rel => exact ⟨j + 1, _, by omega, by go_num, by simp, by simp [hxl], by rw [show (j + 1) * 2 = j * 2 + 2 from by omega, drop_two, ← List.drop_drop, HXD.out, List.drop_drop], (((HROW.out.alloc _).drewN _).set (j * 2) _).set (j * 2 + 1) _, ((below_drewN (HBR.out.alloc hBw _) _).setCell hB1 _).setCell hB1 _⟩
          case measure => simp [intOf]; omega
      · have hej : all[j] = beyondB := by have := HALL.out; subst this; rw [List.getElem_append_right (by omega), List.getElem_replicate]
        rw [hej] at c1 c2
        simp only [beyondB] at c1 c2
        have i1 : (0 : Int) ≤ (j : Int) := Int.natCast_nonneg _
        have i2 : (j : Int) < (ns.length : Int) + 8 := by omega
        clear hej
        go_wp2
        go_quiet (fail)
        go_wp2
        go_roundw
        case rel => exact ⟨j + 1, _, by omega, by go_num, by simp, by simp [hxl], by rw [show (j + 1) * 2 = j * 2 + 2 from by omega, drop_two, ← List.drop_drop, HXD.out, List.drop_drop], (((HROW.out.alloc _).drewN _).set (j * 2) _).set (j * 2 + 1) _, ((below_drewN (HBR.out.alloc hBw _) _).setCell hB1 _).setCell hB1 _⟩
        case measure => simp [intOf]; omega
    · go_wp2
      go_ret
      exact ⟨rfl, HBR.out⟩

end Go.Proofs.YtcepppilgncdmaaGreatDoor
