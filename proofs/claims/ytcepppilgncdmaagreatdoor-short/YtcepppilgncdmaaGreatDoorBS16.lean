/-
  What the small functions of package assemble answer: isAlignment, takes, operationOf.
  How a statement's operands are read (package assemble): readCount, readOperands.
-/
import Derived.Test.YtcepppilgncdmaaGreatDoorBS08
import Derived.Test.YtcepppilgncdmaaGreatDoorBS09
import Derived.Test.YtcepppilgncdmaaGreatDoorBS03
import Derived.Test.YtcepppilgncdmaaGreatDoorBS15
import Derived.Test.YtcepppilgncdmaaGreatDoorBS14
import Derived.Deep.RegionWith
import Derived.Deep.LoopGhost
namespace Go.Proofs.YtcepppilgncdmaaGreatDoor
open Go.RowKit


set_option maxHeartbeats 400000 in
theorem isAlignment_any (z : Int) (w : World) : Calls Tryz.prog 145 #[.int .i64 z] w fun e w' => e = .returned (.bool (alignB z)) ∧ w' = w := by
  have hcs : z = 1 ∨ z = 2 ∨ z = 4 ∨ z = 8 ∨ z = 16 ∨ (¬ z = 1 ∧ ¬ z = 2 ∧ ¬ z = 4 ∧ ¬ z = 8 ∧ ¬ z = 16) := by omega
  rcases hcs with h | h | h | h | h | ⟨h1, h2, h3, h4, h5⟩
  case inr.inr.inr.inr.inr =>
    go_enter Tryz.func145, Tryz.ntmps145
    go_wp2
    go_ret
    exact ⟨ret_bool (by simp [alignB, h1, h2, h3, h4, h5]), rfl⟩
  all_goals
    subst h
    go_enter Tryz.func145, Tryz.ntmps145
    go_wp2
    go_ret
    exact ⟨rfl, rfl⟩

/-- An operation, as a value. -/
def opnV (o : OpnP) : Value := .agg #[.int .i64 (o.kind : Nat), .int .i64 (o.regs : Nat), .int .i64 (o.code : Nat), .int .i64 (o.long : Nat), .int .i64 (o.width : Nat)]
set_option maxHeartbeats 400000 in
theorem takes_any (o : OpnP) (n : Nat) (w : World) (hn : n ≤ 100000) (ho : o.regs ≤ 10) :
    Calls Tryz.prog 113 #[.agg #[.int .i64 (o.kind : Nat), .int .i64 (o.regs : Nat), .int .i64 (o.code : Nat), .int .i64 (o.long : Nat), .int .i64 (o.width : Nat)], .int .i64 (n : Nat)] w fun e w' => e = .returned (.bool (takesP o n)) ∧ Below w.heap.size w w' := by
  obtain ⟨k, r, c, l, d⟩ := o
  simp only at ho ⊢
  have hb : Below w.heap.size w (w.alloc (.cells #[.int .i64 (k : Nat), .int .i64 (r : Nat), .int .i64 (c : Nat), .int .i64 (l : Nat), .int .i64 (d : Nat)] 111)) := (Below.refl _ _).alloc (Nat.le_refl _) _
  have HB := hid hb
  clear hb
  by_cases h1 : k = 1
  · subst h1
    go_enter Tryz.func113, Tryz.ntmps113
    go_wp2
    go_ret
    refine ⟨ret_bool ?_, HB.out⟩
    unfold takesP
    rw [Bool.eq_iff_iff]
    simp
    try omega
  · have k1 : ((k : Int) == 1) = false := by rw [beq_eq_false_iff_ne]; omega
    by_cases h4 : k = 4
    · subst h4
      go_enter Tryz.func113, Tryz.ntmps113
      go_wp2
      go_ret
      refine ⟨ret_bool ?_, HB.out⟩
      unfold takesP
      rw [Bool.eq_iff_iff]
      simp
      try omega
    · have k4 : ((k : Int) == 4) = false := by rw [beq_eq_false_iff_ne]; omega
      go_enter Tryz.func113, Tryz.ntmps113
      go_wp2
      go_ret
      refine ⟨ret_bool ?_, HB.out⟩
      unfold takesP
      simp only [if_neg h1, if_neg h4]
      rw [Bool.eq_iff_iff]
      simp
      try omega

theorem opn_is {op : ByteArray} {l : List UInt8} (h : L op = l) : (op.toList == l) = true := by
  rw [ByteArray.toList_eq]; unfold L at h; rw [h]; simp
theorem opn_not {op : ByteArray} {l : List UInt8} (h : ¬ L op = l) : (op.toList == l) = false := by
  rw [ByteArray.toList_eq, beq_eq_false_iff_ne]; exact h
/-- What operationOf answers. -/
def OpnPost (s : ByteArray) (w : World) (e : Ending) (w' : World) : Prop := e = .returned (.tuple #[opnV ((opnP (L s)).getD noOpn), .bool (opnP (L s)).isSome]) ∧ Below w.heap.size w w'
set_option maxRecDepth 100000 in
set_option maxHeartbeats 3200000 in
theorem operationOf_any (s : ByteArray) (w : World) : Calls Tryz.prog 72 #[.string s] w (OpnPost s w) := by
  have hb : ∀ v0 v1 v2 v3 v4 : Value, Below w.heap.size w (w.alloc (.cells #[v0, v1, v2, v3, v4] 111)) := fun v0 v1 v2 v3 v4 => (Below.refl _ _).alloc (Nat.le_refl _) _
  have HB := hid hb
  clear hb
  by_cases h0 : L s = [110, 111, 112]
  · have HR := hid (show opnP (L s) = some ⟨1, 0, 0, 0, 0⟩ by rw [h0]; rfl)
    have k0 := opn_is h0
    clear h0
    go_enter Tryz.func72, Tryz.ntmps72
    go_wp2
    refine bodyPost_ret (v := .tuple #[opnV ⟨1, 0, 0, 0, 0⟩, .bool true]) (by simp [results, Tryz.results72, go_sem, opnV]) rfl ?_
    unfold OpnPost
    rw [HR.out]
    exact ⟨rfl, HB.out _ _ _ _ _⟩
  have k0 := opn_not h0
  by_cases h1 : L s = [114, 101, 116]
  · have HR := hid (show opnP (L s) = some ⟨1, 0, 161, 0, 0⟩ by rw [h1]; rfl)
    have k1 := opn_is h1
    clear h1
    go_enter Tryz.func72, Tryz.ntmps72
    go_wp2
    refine bodyPost_ret (v := .tuple #[opnV ⟨1, 0, 161, 0, 0⟩, .bool true]) (by simp [results, Tryz.results72, go_sem, opnV]) rfl ?_
    unfold OpnPost
    rw [HR.out]
    exact ⟨rfl, HB.out _ _ _ _ _⟩
  have k1 := opn_not h1
  by_cases h2 : L s = [109, 111, 118]
  · have HR := hid (show opnP (L s) = some ⟨1, 2, 64, 0, 0⟩ by rw [h2]; rfl)
    have k2 := opn_is h2
    clear h2
    go_enter Tryz.func72, Tryz.ntmps72
    go_wp2
    refine bodyPost_ret (v := .tuple #[opnV ⟨1, 2, 64, 0, 0⟩, .bool true]) (by simp [results, Tryz.results72, go_sem, opnV]) rfl ?_
    unfold OpnPost
    rw [HR.out]
    exact ⟨rfl, HB.out _ _ _ _ _⟩
  have k2 := opn_not h2
  by_cases h3 : L s = [97, 100, 100]
  · have HR := hid (show opnP (L s) = some ⟨1, 2, 80, 0, 0⟩ by rw [h3]; rfl)
    have k3 := opn_is h3
    clear h3
    go_enter Tryz.func72, Tryz.ntmps72
    go_wp2
    refine bodyPost_ret (v := .tuple #[opnV ⟨1, 2, 80, 0, 0⟩, .bool true]) (by simp [results, Tryz.results72, go_sem, opnV]) rfl ?_
    unfold OpnPost
    rw [HR.out]
    exact ⟨rfl, HB.out _ _ _ _ _⟩
  have k3 := opn_not h3
  by_cases h4 : L s = [115, 117, 98]
  · have HR := hid (show opnP (L s) = some ⟨1, 2, 96, 0, 0⟩ by rw [h4]; rfl)
    have k4 := opn_is h4
    clear h4
    go_enter Tryz.func72, Tryz.ntmps72
    go_wp2
    refine bodyPost_ret (v := .tuple #[opnV ⟨1, 2, 96, 0, 0⟩, .bool true]) (by simp [results, Tryz.results72, go_sem, opnV]) rfl ?_
    unfold OpnPost
    rw [HR.out]
    exact ⟨rfl, HB.out _ _ _ _ _⟩
  have k4 := opn_not h4
  by_cases h5 : L s = [108, 111, 97, 100]
  · have HR := hid (show opnP (L s) = some ⟨2, 1, 16, 0, 1⟩ by rw [h5]; rfl)
    have k5 := opn_is h5
    clear h5
    go_enter Tryz.func72, Tryz.ntmps72
    go_wp2
    refine bodyPost_ret (v := .tuple #[opnV ⟨2, 1, 16, 0, 1⟩, .bool true]) (by simp [results, Tryz.results72, go_sem, opnV]) rfl ?_
    unfold OpnPost
    rw [HR.out]
    exact ⟨rfl, HB.out _ _ _ _ _⟩
  have k5 := opn_not h5
  by_cases h6 : L s = [99, 97, 108, 108]
  · have HR := hid (show opnP (L s) = some ⟨2, 0, 160, 0, 2⟩ by rw [h6]; rfl)
    have k6 := opn_is h6
    clear h6
    go_enter Tryz.func72, Tryz.ntmps72
    go_wp2
    refine bodyPost_ret (v := .tuple #[opnV ⟨2, 0, 160, 0, 2⟩, .bool true]) (by simp [results, Tryz.results72, go_sem, opnV]) rfl ?_
    unfold OpnPost
    rw [HR.out]
    exact ⟨rfl, HB.out _ _ _ _ _⟩
  have k6 := opn_not h6
  by_cases h7 : L s = [106, 109, 112]
  · have HR := hid (show opnP (L s) = some ⟨3, 0, 128, 129, 2⟩ by rw [h7]; rfl)
    have k7 := opn_is h7
    clear h7
    go_enter Tryz.func72, Tryz.ntmps72
    go_wp2
    refine bodyPost_ret (v := .tuple #[opnV ⟨3, 0, 128, 129, 2⟩, .bool true]) (by simp [results, Tryz.results72, go_sem, opnV]) rfl ?_
    unfold OpnPost
    rw [HR.out]
    exact ⟨rfl, HB.out _ _ _ _ _⟩
  have k7 := opn_not h7
  by_cases h8 : L s = [106, 122]
  · have HR := hid (show opnP (L s) = some ⟨3, 1, 132, 136, 2⟩ by rw [h8]; rfl)
    have k8 := opn_is h8
    clear h8
    go_enter Tryz.func72, Tryz.ntmps72
    go_wp2
    refine bodyPost_ret (v := .tuple #[opnV ⟨3, 1, 132, 136, 2⟩, .bool true]) (by simp [results, Tryz.results72, go_sem, opnV]) rfl ?_
    unfold OpnPost
    rw [HR.out]
    exact ⟨rfl, HB.out _ _ _ _ _⟩
  have k8 := opn_not h8
  by_cases h9 : L s = [46, 98, 121, 116, 101]
  · have HR := hid (show opnP (L s) = some ⟨4, 0, 0, 0, 1⟩ by rw [h9]; rfl)
    have k9 := opn_is h9
    clear h9
    go_enter Tryz.func72, Tryz.ntmps72
    go_wp2
    refine bodyPost_ret (v := .tuple #[opnV ⟨4, 0, 0, 0, 1⟩, .bool true]) (by simp [results, Tryz.results72, go_sem, opnV]) rfl ?_
    unfold OpnPost
    rw [HR.out]
    exact ⟨rfl, HB.out _ _ _ _ _⟩
  have k9 := opn_not h9
  by_cases h10 : L s = [46, 119, 111, 114, 100]
  · have HR := hid (show opnP (L s) = some ⟨4, 0, 0, 0, 2⟩ by rw [h10]; rfl)
    have k10 := opn_is h10
    clear h10
    go_enter Tryz.func72, Tryz.ntmps72
    go_wp2
    refine bodyPost_ret (v := .tuple #[opnV ⟨4, 0, 0, 0, 2⟩, .bool true]) (by simp [results, Tryz.results72, go_sem, opnV]) rfl ?_
    unfold OpnPost
    rw [HR.out]
    exact ⟨rfl, HB.out _ _ _ _ _⟩
  have k10 := opn_not h10
  by_cases h11 : L s = [46, 115, 112, 97, 99, 101]
  · have HR := hid (show opnP (L s) = some ⟨5, 0, 0, 0, 0⟩ by rw [h11]; rfl)
    have k11 := opn_is h11
    clear h11
    go_enter Tryz.func72, Tryz.ntmps72
    go_wp2
    refine bodyPost_ret (v := .tuple #[opnV ⟨5, 0, 0, 0, 0⟩, .bool true]) (by simp [results, Tryz.results72, go_sem, opnV]) rfl ?_
    unfold OpnPost
    rw [HR.out]
    exact ⟨rfl, HB.out _ _ _ _ _⟩
  have k11 := opn_not h11
  by_cases h12 : L s = [46, 97, 108, 105, 103, 110]
  · have HR := hid (show opnP (L s) = some ⟨6, 0, 0, 0, 0⟩ by rw [h12]; rfl)
    have k12 := opn_is h12
    clear h12
    go_enter Tryz.func72, Tryz.ntmps72
    go_wp2
    refine bodyPost_ret (v := .tuple #[opnV ⟨6, 0, 0, 0, 0⟩, .bool true]) (by simp [results, Tryz.results72, go_sem, opnV]) rfl ?_
    unfold OpnPost
    rw [HR.out]
    exact ⟨rfl, HB.out _ _ _ _ _⟩
  have k12 := opn_not h12
  have HR := hid (show opnP (L s) = none by unfold opnP oNop oRet oMov oAdd oSub oLoad oCall oJmp oJz oByte oWord oSpace oAlign; simp only [h0, h1, h2, h3, h4, h5, h6, h7, h8, h9, h10, h11, h12, if_false])
  clear h0 h1 h2 h3 h4 h5 h6 h7 h8 h9 h10 h11 h12
  go_enter Tryz.func72, Tryz.ntmps72
  go_wp2
  refine bodyPost_ret (v := .tuple #[opnV noOpn, .bool false]) (by simp [results, Tryz.results72, go_sem, opnV, noOpn]) rfl ?_
  unfold OpnPost
  rw [HR.out]
  exact ⟨rfl, HB.out _ _ _ _ _⟩

end Go.Proofs.YtcepppilgncdmaaGreatDoor

namespace Go.Proofs.YtcepppilgncdmaaGreatDoor
open Go.RowKit

/-- What readCount answers. -/
def RcPost (b : Nat) (x : StV) (r : Int × Nat) (w : World) (e : Ending) (w' : World) : Prop :=
  e = .returned (.int .i64 r.1) ∧ Keeps [b] w w' ∧ (r.1 = 0 → RowT w' 113 b (stOne { x with count := r.2 }))
theorem value_bd {a : Int} {N : List (List UInt8 × Int)} {l : List UInt8} {z : Int} (h : value a N l = (z, 0)) : -1000000 ≤ z ∧ z ≤ 1000000 := by
  have hev : ∀ (f : Nat) (sm sg : Int) (l : List UInt8), -1000000 ≤ sm ∧ sm ≤ 1000000 → eval a N f sm sg l = (z, 0) → -1000000 ≤ z ∧ z ≤ 1000000 := by
    intro f
    induction f with
    | zero => intro sm sg l _ h; simp only [eval, Prod.mk.injEq] at h; omega
    | succ f ih =>
      intro sm sg l hs h
      simp only [eval] at h
      split at h
      · rename_i h1; simp only [Prod.mk.injEq] at h; exact absurd h.2 h1
      · split at h
        · rename_i h1; simp only [Prod.mk.injEq] at h; exact absurd h.2 h1
        · rename_i h1
          have hb : -1000000 ≤ (reck sm sg (readT a N l).1).1 ∧ (reck sm sg (readT a N l).1).1 ≤ 1000000 := reck_bd (sm := sm) (sg := sg) (x := (readT a N l).1) (by
            have : (reck sm sg (readT a N l).1).2 = 0 := by simpa using h1
            rw [← this])
          split at h
          · simp only [Prod.mk.injEq] at h; omega
          · split at h
            · exact ih _ _ _ hb h
            · simp at h
  unfold value at h
  split at h
  · exact hev _ _ _ _ (by omega) h
  · split at h
    · exact hev _ _ _ _ (by omega) h
    · exact hev _ _ _ _ (by omega) h

set_option maxRecDepth 100000 in
set_option maxHeartbeats 1600000 in
theorem readCount_any (w : World) (b : Nat) (x : StV) (na : Option Addr) (nc : Nat) (ts : List (ByteArray × Int)) (e0 : ByteArray) (hx : RowT w 113 b (stOne x)) (hs : StrV w 0 x.v x.es) (he : x.es[0]? = some e0) (hes : e0.size ≤ 1000) (hn : NamesAt w na ts) (ht : ts.length ≤ 1000) :
    Calls Tryz.prog 115 #[.pointer (some ⟨b, 0, none⟩), .slice na ts.length nc] w (RcPost b x (countP x.o.kind (plainN ts) (L e0)) w) := by
  obtain ⟨r, hr⟩ : ∃ r, countP x.o.kind (plainN ts) (L e0) = r := ⟨_, rfl⟩
  rw [hr]
  unfold countP at hr
  obtain ⟨q, hq⟩ : ∃ q, value 0 (plainN ts) (L e0) = q := ⟨_, rfl⟩
  obtain ⟨z, er⟩ := q
  rw [hq] at hr
  have hbd : er = 0 → -1000000 ≤ z ∧ z ≤ 1000000 := fun h => value_bd (by rw [hq, h])
  obtain ⟨hlt, hel⟩ := List.getElem?_eq_some_iff.1 he
  obtain ⟨g, off, cap, hv, hgl, hc⟩ := hs.cell 0 hlt
  rw [hel, Nat.add_zero] at hc
  obtain ⟨⟨k, rg, c, l, d⟩, lab, has, added, v, es, count, long⟩ := x
  simp only at hv hr hlt ⊢
  subst hv
  have c0 : w.cell? ⟨b, 0, none⟩ = some (.int .i64 (k : Nat)) := hx.cell 0 (by simp [stOne])
  have c8 : w.cell? ⟨b, 8, none⟩ = some (.slice (some ⟨g, off, none⟩) es.length cap) := hx.cell 8 (by simp [stOne])
  have c9 : w.cell? ⟨b, 9, none⟩ = some (.int .i64 (count : Nat)) := hx.cell 9 (by simp [stOne])
  have f9 := hx.free 9
  have hbl := hx.lt
  have HX := hid hx
  have HN := hid hn
  have HQ := hid hq
  have HR := hid hr
  have HBD := hid hbd
  clear hx hn hq hr hs he hel hbd
  go_enter Tryz.func115, Tryz.ntmps115
  go_wp2_with fail
  refine (xValue_any e0 0 na nc ts _ z er (by unfold maxLen; omega) (by unfold maxLen; omega) HN.out HQ.out).mono ?_
  rintro e w1 ⟨rfl, hb1⟩
  have c0 : w1.cell? ⟨b, 0, none⟩ = some (.int .i64 (k : Nat)) := by rw [hb1.cell (p := ⟨b, 0, none⟩) hbl]; exact c0
  have c9 : w1.cell? ⟨b, 9, none⟩ = some (.int .i64 (count : Nat)) := by rw [hb1.cell (p := ⟨b, 9, none⟩) hbl]; exact c9
  have f9 : w1.frozen? ⟨b, 9, none⟩ = false := by rw [hb1.frozen (p := ⟨b, 9, none⟩) hbl]; exact f9
  have HX1 := hid (HX.out.below hb1)
  have HK := hid (Keeps.of_below (M := [b]) hb1)
  clear hb1 c8 hc
  have hr := HR.out
  by_cases her : er = 0
  · subst her
    obtain ⟨z1, z2⟩ := HBD.out rfl
    rw [if_neg (by simp)] at hr
    by_cases hz : z < 0
    · rw [if_pos (Or.inl hz)] at hr
      subst hr
      go_wp2
      go_ret
      exact ⟨rfl, HK.out, (fun h => by cases h)⟩
    · by_cases hz2 : 1000 < z
      · rw [if_pos (Or.inr (Or.inl hz2))] at hr
        subst hr
        go_wp2
        go_ret
        exact ⟨rfl, HK.out, (fun h => by cases h)⟩
      · by_cases h6 : k = 6
        · subst h6
          cases hal : alignB z with
          | false =>
            rw [if_pos (Or.inr (Or.inr ⟨rfl, hal⟩))] at hr
            subst hr
            have HAL := hid hal
            clear hal
            go_wp2_with (first | (go_at_call 145; refine (isAlignment_any z _).mono ?_; rw [HAL.out]; rintro e w2 ⟨rfl, rfl⟩))
            go_ret
            exact ⟨rfl, HK.out, (fun h => by cases h)⟩
          | true =>
            rw [if_neg (by rw [hal]; rintro (h | h | ⟨_, h⟩); exact hz h; exact hz2 h; cases h)] at hr
            subst hr
            have HAL := hid hal
            clear hal
            go_wp2_with (first | (go_at_call 145; refine (isAlignment_any z _).mono ?_; rw [HAL.out]; rintro e w2 ⟨rfl, rfl⟩))
            go_ret
            refine ⟨rfl, HK.out.setCell (p := ⟨b, 9, none⟩) (by simp) _, fun _ => ?_⟩
            have := HX1.out.set 9 (.int .i64 z)
            simp only [stOne, List.set_cons_succ, List.set_cons_zero] at this ⊢
            rw [show ((z.toNat : Nat) : Int) = z from by omega]
            exact this
        · have k6 : ((k : Int) == 6) = false := by rw [beq_eq_false_iff_ne]; omega
          rw [if_neg (by omega)] at hr
          subst hr
          go_wp2
          go_ret
          refine ⟨rfl, HK.out.setCell (p := ⟨b, 9, none⟩) (by simp) _, fun _ => ?_⟩
          have := HX1.out.set 9 (.int .i64 z)
          simp only [stOne, List.set_cons_succ, List.set_cons_zero] at this ⊢
          rw [show ((z.toNat : Nat) : Int) = z from by omega]
          exact this
  · have ke : (er != 0) = true := by simpa using her
    rw [if_pos her] at hr
    subst hr
    go_wp2
    go_ret
    exact ⟨rfl, HK.out, fun h => absurd h her⟩

end Go.Proofs.YtcepppilgncdmaaGreatDoor
