/-
  What the small functions of package masonkeep answer: which of n things a number speaks of, and the digits of a number.
-/
import Derived.Test.YtcepppilgncdmaaGreatDoorBS17
import Derived.Test.YtcepppilgncdmaaGreatDoorBS02
namespace Go.Proofs.YtcepppilgncdmaaGreatDoor
open Go.RowKit

set_option maxHeartbeats 400000 in
theorem pick_any (c n : Int) (w : World) (hc : -9223372036854775808 ≤ c ∧ c ≤ 9223372036854775807) (hn : 0 < n ∧ n ≤ 9223372036854775807) :
    Calls Tryz.prog 15 #[.int .i64 c, .int .i64 n] w fun e w' => e = .returned (.int .i64 (pickI c n)) ∧ w' = w := by
  obtain ⟨c1, c2⟩ := hc
  obtain ⟨n1, n2⟩ := hn
  by_cases h : c < 0
  · have HP := hid (show -(c + 1).tmod n = pickI c n by
      unfold pickI
      rw [if_pos h, ← Int.neg_tmod, Int.tmod_eq_emod_of_nonneg (by omega)])
    go_enter Tryz.func15, Tryz.ntmps15
    go_wp2
    go_ret
    exact ⟨ret_int HP.out, rfl⟩
  · have HP := hid (show c % n = pickI c n by
      unfold pickI
      rw [if_neg h])
    go_enter Tryz.func15, Tryz.ntmps15
    go_wp2
    go_ret
    exact ⟨ret_int HP.out, rfl⟩

theorem conv_one (w : World) (x : Int) : (convert 30 9 (.slice (some ⟨w.heap.size, 0, none⟩) 1 1)).run Tryz.prog (w.alloc (.cells #[.int .u8 x] 5)) = .ok (.string ⟨#[UInt8.ofNat x.toNat]⟩) (w.alloc (.cells #[.int .u8 x] 5)) := by
  rw [run_convert_bytes_string _ 30 9 5 _ 1 1 Tryz.underlying30 Tryz.underlying5 Tryz.underlying9]
  rw [run_bytesToString _ _ 1 1 [x]]
  · rfl
  · refine run_loadCells_list (P := Tryz.prog) (w := w.alloc (.cells #[.int .u8 x] 5)) ⟨w.heap.size, 0, none⟩ [Value.int IntKind.u8 x] ?_
    intro j v hv
    cases j with
    | zero =>
      simp at hv
      subst hv
      simp [go_sem, Addr.add]
    | succ j => simp at hv

set_option maxRecDepth 100000 in
set_option maxHeartbeats 400000 in
theorem number_any (n : Nat) (w : World) (hn : n < 1000000) :
    Calls Tryz.prog 14 #[.int .i64 n] w fun e w' => ∃ t : ByteArray, L t = digitsTo (n + 1) n [] ∧ t.size ≤ n + 1 ∧ e = .returned (.string t) ∧ Below w.heap.size w w' := by
  have hcv := conv_one
  go_enter Tryz.func14, Tryz.ntmps14
  go_wp2
  go_loopw [0, 3] (fun x y wr => ∃ (k f : Nat) (t : ByteArray), k ≤ n ∧ k < f ∧ x = .int .i64 k ∧ y = .string t ∧ t.size + k ≤ n ∧ digitsTo (n + 1) n [] = digitsTo f k (L t) ∧ Below w.heap.size w wr) (fun x _ _ => (intOf x).toNat)
  case atStart => exact ⟨n, n + 1, ⟨#[]⟩, Nat.le_refl _, by omega, rfl, rfl, by show 0 + n ≤ n; omega, rfl, Below.refl _ _⟩
  case round =>
    obtain ⟨k, f, t, hk, hkf, rfl, rfl, hts, hd, hb⟩ := hrel
    have HB := hid hb
    have HD := hid hd
    clear hd hb
    have hbz : w.heap.size ≤ wr.heap.size := HB.out.size
    by_cases h10 : 10 ≤ k
    · have hi : (10 : Int) ≤ k := by omega
      go_wp2
      go_roundw
      case rel =>
        refine ⟨k / 10, f - 1, _, by omega, by omega, by go_num, rfl, ?_, ?_, HB.out.alloc hbz _⟩
        · rw [ByteArray.size_append]; show 1 + t.size + k / 10 ≤ n; omega
        · rw [HD.out, L_push]
          obtain ⟨g, rfl⟩ : ∃ g, f = g + 1 := ⟨f - 1, by omega⟩
          simp only [digitsTo]
          rw [if_neg (by omega)]
          rfl
      case measure => simp [intOf]; omega
    · have hi : ¬ (10 : Int) ≤ k := by omega
      go_wp2
      go_ret
      refine ⟨_, ?_, ?_, rfl, HB.out.alloc hbz _⟩
      · rw [HD.out, L_push]
        obtain ⟨g, rfl⟩ : ∃ g, f = g + 1 := ⟨f - 1, by omega⟩
        simp only [digitsTo]
        rw [if_pos (by omega)]
      · rw [ByteArray.size_append]; show 1 + t.size ≤ n + 1; omega

end Go.Proofs.YtcepppilgncdmaaGreatDoor
