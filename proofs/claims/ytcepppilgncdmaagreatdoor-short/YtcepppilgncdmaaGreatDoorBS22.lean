/-
  What the small functions of package assemble answer: isAlignment, takes, operationOf.
-/
import Derived.Test.YtcepppilgncdmaaGreatDoorBS09
import Derived.Test.YtcepppilgncdmaaGreatDoorBS10
import Derived.Test.YtcepppilgncdmaaGreatDoorBS02
namespace Go.Proofs.YtcepppilgncdmaaGreatDoor
open Go.RowKit


set_option maxHeartbeats 400000 in
theorem isAlignment_any (z : Int) (w : World) : Calls Tryz.prog 145 #[.int .i64 z] w fun e w' => e = .returned (.bool (alignB z)) ∧ w' = w := by
  have hcs : z = 1 ∨ z = 2 ∨ z = 4 ∨ z = 8 ∨ z = 16 ∨ (¬ z = 1 ∧ ¬ z = 2 ∧ ¬ z = 4 ∧ ¬ z = 8 ∧ ¬ z = 16) := by omega
  rcases hcs with h | h | h | h | h | ⟨h1, h2, h3, h4, h5⟩
  case inr.inr.inr.inr.inr =>
    go_enter Tryz.func145, Tryz.ntmps145
    go_wp2
    go_ret
    exact ⟨ret_bool (by simp [alignB, h1, h2, h3, h4, h5]), rfl⟩
  all_goals
    subst h
    go_enter Tryz.func145, Tryz.ntmps145
    go_wp2
    go_ret
    exact ⟨rfl, rfl⟩

/-- An operation, as a value. -/
def opnV (o : OpnP) : Value := .agg #[.int .i64 (o.kind : Nat), .int .i64 (o.regs : Nat), .int .i64 (o.code : Nat), .int .i64 (o.long : Nat), .int .i64 (o.width : Nat)]
set_option maxHeartbeats 400000 in
theorem takes_any (o : OpnP) (n : Nat) (w : World) (hn : n ≤ 100000) (ho : o.regs ≤ 10) :
    Calls Tryz.prog 113 #[.agg #[.int .i64 (o.kind : Nat), .int .i64 (o.regs : Nat), .int .i64 (o.code : Nat), .int .i64 (o.long : Nat), .int .i64 (o.width : Nat)], .int .i64 (n : Nat)] w fun e w' => e = .returned (.bool (takesP o n)) ∧ Below w.heap.size w w' := by
  obtain ⟨k, r, c, l, d⟩ := o
  simp only at ho ⊢
  have hb : Below w.heap.size w (w.alloc (.cells #[.int .i64 (k : Nat), .int .i64 (r : Nat), .int .i64 (c : Nat), .int .i64 (l : Nat), .int .i64 (d : Nat)] 111)) := (Below.refl _ _).alloc (Nat.le_refl _) _
  have HB := hid hb
  clear hb
  by_cases h1 : k = 1
  · subst h1
    go_enter Tryz.func113, Tryz.ntmps113
    go_wp2
    go_ret
    refine ⟨ret_bool ?_, HB.out⟩
    unfold takesP
    rw [Bool.eq_iff_iff]
    simp
    try omega
  · have k1 : ((k : Int) == 1) = false := by rw [beq_eq_false_iff_ne]; omega
    by_cases h4 : k = 4
    · subst h4
      go_enter Tryz.func113, Tryz.ntmps113
      go_wp2
      go_ret
      refine ⟨ret_bool ?_, HB.out⟩
      unfold takesP
      rw [Bool.eq_iff_iff]
      simp
      try omega
    · have k4 : ((k : Int) == 4) = false := by rw [beq_eq_false_iff_ne]; omega
      go_enter Tryz.func113, Tryz.ntmps113
      go_wp2
      go_ret
      refine ⟨ret_bool ?_, HB.out⟩
      unfold takesP
      simp only [if_neg h1, if_neg h4]
      rw [Bool.eq_iff_iff]
      simp
      try omega

theorem opn_is {op : ByteArray} {l : List UInt8} (h : L op = l) : (op.toList == l) = true := by
  rw [ByteArray.toList_eq]; unfold L at h; rw [h]; simp
theorem opn_not {op : ByteArray} {l : List UInt8} (h : ¬ L op = l) : (op.toList == l) = false := by
  rw [ByteArray.toList_eq, beq_eq_false_iff_ne]; exact h
/-- What operationOf answers. -/
def OpnPost (s : ByteArray) (w : World) (e : Ending) (w' : World) : Prop := e = .returned (.tuple #[opnV ((opnP (L s)).getD noOpn), .bool (opnP (L s)).isSome]) ∧ Below w.heap.size w w'
set_option maxRecDepth 100000 in
set_option maxHeartbeats 3200000 in
theorem operationOf_any (s : ByteArray) (w : World) : Calls Tryz.prog 72 #[.string s] w (OpnPost s w) := by
  have hb : ∀ v0 v1 v2 v3 v4 : Value, Below w.heap.size w (w.alloc (.cells #[v0, v1, v2, v3, v4] 111)) := fun v0 v1 v2 v3 v4 => (Below.refl _ _).alloc (Nat.le_refl _) _
  have HB := hid hb
  clear hb
  by_cases h0 : L s = [110, 111, 112]
  · have HR := hid (show opnP (L s) = some ⟨1, 0, 0, 0, 0⟩ by rw [h0]; rfl)
    have k0 := opn_is h0
    clear h0
    go_enter Tryz.func72, Tryz.ntmps72
    go_wp2
    refine bodyPost_ret (v := .tuple #[opnV ⟨1, 0, 0, 0, 0⟩, .bool true]) (by simp [results, Tryz.results72, go_sem, opnV]) rfl ?_
    unfold OpnPost
    rw [HR.out]
    exact ⟨rfl, HB.out _ _ _ _ _⟩
  have k0 := opn_not h0
  by_cases h1 : L s = [114, 101, 116]
  · have HR := hid (show opnP (L s) = some ⟨1, 0, 161, 0, 0⟩ by rw [h1]; rfl)
    have k1 := opn_is h1
    clear h1
    go_enter Tryz.func72, Tryz.ntmps72
    go_wp2
    refine bodyPost_ret (v := .tuple #[opnV ⟨1, 0, 161, 0, 0⟩, .bool true]) (by simp [results, Tryz.results72, go_sem, opnV]) rfl ?_
    unfold OpnPost
    rw [HR.out]
    exact ⟨rfl, HB.out _ _ _ _ _⟩
  have k1 := opn_not h1
  by_cases h2 : L s = [109, 111, 118]
  · have HR := hid (show opnP (L s) = some ⟨1, 2, 64, 0, 0⟩ by rw [h2]; rfl)
    have k2 := opn_is h2
    clear h2
    go_enter Tryz.func72, Tryz.ntmps72
    go_wp2
    refine bodyPost_ret (v := .tuple #[opnV ⟨1, 2, 64, 0, 0⟩, .bool true]) (by simp [results, Tryz.results72, go_sem, opnV]) rfl ?_
    unfold OpnPost
    rw [HR.out]
    exact ⟨rfl, HB.out _ _ _ _ _⟩
  have k2 := opn_not h2
  by_cases h3 : L s = [97, 100, 100]
  · have HR := hid (show opnP (L s) = some ⟨1, 2, 80, 0, 0⟩ by rw [h3]; rfl)
    have k3 := opn_is h3
    clear h3
    go_enter Tryz.func72, Tryz.ntmps72
    go_wp2
    refine bodyPost_ret (v := .tuple #[opnV ⟨1, 2, 80, 0, 0⟩, .bool true]) (by simp [results, Tryz.results72, go_sem, opnV]) rfl ?_
    unfold OpnPost
    rw [HR.out]
    exact ⟨rfl, HB.out _ _ _ _ _⟩
  have k3 := opn_not h3
  by_cases h4 : L s = [115, 117, 98]
  · have HR := hid (show opnP (L s) = some ⟨1, 2, 96, 0, 0⟩ by rw [h4]; rfl)
    have k4 := opn_is h4
    clear h4
    go_enter Tryz.func72, Tryz.ntmps72
    go_wp2
    refine bodyPost_ret (v := .tuple #[opnV ⟨1, 2, 96, 0, 0⟩, .bool true]) (by simp [results, Tryz.results72, go_sem, opnV]) rfl ?_
    unfold OpnPost
    rw [HR.out]
    exact ⟨rfl, HB.out _ _ _ _ _⟩
  have k4 := opn_not h4
  by_cases h5 : L s = [108, 111, 97, 100]
  · have HR := hid (show opnP (L s) = some ⟨2, 1, 16, 0, 1⟩ by rw [h5]; rfl)
    have k5 := opn_is h5
    clear h5
    go_enter Tryz.func72, Tryz.ntmps72
    go_wp2
    refine bodyPost_ret (v := .tuple #[opnV ⟨2, 1, 16, 0, 1⟩, .bool true]) (by simp [results, Tryz.results72, go_sem, opnV]) rfl ?_
    unfold OpnPost
    rw [HR.out]
    exact ⟨rfl, HB.out _ _ _ _ _⟩
  have k5 := opn_not h5
  by_cases h6 : L s = [99, 97, 108, 108]
  · have HR := hid (show opnP (L s) = some ⟨2, 0, 160, 0, 2⟩ by rw [h6]; rfl)
    have k6 := opn_is h6
    clear h6
    go_enter Tryz.func72, Tryz.ntmps72
    go_wp2
    refine bodyPost_ret (v := .tuple #[opnV ⟨2, 0, 160, 0, 2⟩, .bool true]) (by simp [results, Tryz.results72, go_sem, opnV]) rfl ?_
    unfold OpnPost
    rw [HR.out]
    exact ⟨rfl, HB.out _ _ _ _ _⟩
  have k6 := opn_not h6
  by_cases h7 : L s = [106, 109, 112]
  · have HR := hid (show opnP (L s) = some ⟨3, 0, 128, 129, 2⟩ by rw [h7]; rfl)
    have k7 := opn_is h7
    clear h7
    go_enter Tryz.func72, Tryz.ntmps72
    go_wp2
    refine bodyPost_ret (v := .tuple #[opnV ⟨3, 0, 128, 129, 2⟩, .bool true]) (by simp [results, Tryz.results72, go_sem, opnV]) rfl ?_
    unfold OpnPost
    rw [HR.out]
    exact ⟨rfl, HB.out _ _ _ _ _⟩
  have k7 := opn_not h7
  by_cases h8 : L s = [106, 122]
  · have HR := hid (show opnP (L s) = some ⟨3, 1, 132, 136, 2⟩ by rw [h8]; rfl)
    have k8 := opn_is h8
    clear h8
    go_enter Tryz.func72, Tryz.ntmps72
    go_wp2
    refine bodyPost_ret (v := .tuple #[opnV ⟨3, 1, 132, 136, 2⟩, .bool true]) (by simp [results, Tryz.results72, go_sem, opnV]) rfl ?_
    unfold OpnPost
    rw [HR.out]
    exact ⟨rfl, HB.out _ _ _ _ _⟩
  have k8 := opn_not h8
  by_cases h9 : L s = [46, 98, 121, 116, 101]
  · have HR := hid (show opnP (L s) = some ⟨4, 0, 0, 0, 1⟩ by rw [h9]; rfl)
    have k9 := opn_is h9
    clear h9
    go_enter Tryz.func72, Tryz.ntmps72
    go_wp2
    refine bodyPost_ret (v := .tuple #[opnV ⟨4, 0, 0, 0, 1⟩, .bool true]) (by simp [results, Tryz.results72, go_sem, opnV]) rfl ?_
    unfold OpnPost
    rw [HR.out]
    exact ⟨rfl, HB.out _ _ _ _ _⟩
  have k9 := opn_not h9
  by_cases h10 : L s = [46, 119, 111, 114, 100]
  · have HR := hid (show opnP (L s) = some ⟨4, 0, 0, 0, 2⟩ by rw [h10]; rfl)
    have k10 := opn_is h10
    clear h10
    go_enter Tryz.func72, Tryz.ntmps72
    go_wp2
    refine bodyPost_ret (v := .tuple #[opnV ⟨4, 0, 0, 0, 2⟩, .bool true]) (by simp [results, Tryz.results72, go_sem, opnV]) rfl ?_
    unfold OpnPost
    rw [HR.out]
    exact ⟨rfl, HB.out _ _ _ _ _⟩
  have k10 := opn_not h10
  by_cases h11 : L s = [46, 115, 112, 97, 99, 101]
  · have HR := hid (show opnP (L s) = some ⟨5, 0, 0, 0, 0⟩ by rw [h11]; rfl)
    have k11 := opn_is h11
    clear h11
    go_enter Tryz.func72, Tryz.ntmps72
    go_wp2
    refine bodyPost_ret (v := .tuple #[opnV ⟨5, 0, 0, 0, 0⟩, .bool true]) (by simp [results, Tryz.results72, go_sem, opnV]) rfl ?_
    unfold OpnPost
    rw [HR.out]
    exact ⟨rfl, HB.out _ _ _ _ _⟩
  have k11 := opn_not h11
  by_cases h12 : L s = [46, 97, 108, 105, 103, 110]
  · have HR := hid (show opnP (L s) = some ⟨6, 0, 0, 0, 0⟩ by rw [h12]; rfl)
    have k12 := opn_is h12
    clear h12
    go_enter Tryz.func72, Tryz.ntmps72
    go_wp2
    refine bodyPost_ret (v := .tuple #[opnV ⟨6, 0, 0, 0, 0⟩, .bool true]) (by simp [results, Tryz.results72, go_sem, opnV]) rfl ?_
    unfold OpnPost
    rw [HR.out]
    exact ⟨rfl, HB.out _ _ _ _ _⟩
  have k12 := opn_not h12
  have HR := hid (show opnP (L s) = none by unfold opnP oNop oRet oMov oAdd oSub oLoad oCall oJmp oJz oByte oWord oSpace oAlign; simp only [h0, h1, h2, h3, h4, h5, h6, h7, h8, h9, h10, h11, h12, if_false])
  clear h0 h1 h2 h3 h4 h5 h6 h7 h8 h9 h10 h11 h12
  go_enter Tryz.func72, Tryz.ntmps72
  go_wp2
  refine bodyPost_ret (v := .tuple #[opnV noOpn, .bool false]) (by simp [results, Tryz.results72, go_sem, opnV, noOpn]) rfl ?_
  unfold OpnPost
  rw [HR.out]
  exact ⟨rfl, HB.out _ _ _ _ _⟩

end Go.Proofs.YtcepppilgncdmaaGreatDoor
