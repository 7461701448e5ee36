/-
  What the statements of package masonkeep share: lists of numbers, the lines of an answer in memory.
  What the statements on programs of package masonkeep share: the first look.
  Lines as a text (package masonkeep).
-/
import Derived.Test.YtcepppilgncdmaaGreatDoorBS35
import Derived.Test.YtcepppilgncdmaaGreatDoorBS33
import Derived.Deep.CutBlock
import Derived.Deep.DeepCutAuto
import Derived.Deep.LoopGhost
import Derived.Test.YtcepppilgncdmaaGreatDoorBS34
import Derived.Test.YtcepppilgncdmaaGreatDoorBS02
namespace Go.Proofs.YtcepppilgncdmaaGreatDoor
open Go.RowKit
attribute [local go_sem ↓] Go.wp_at_zero Go.wp_at_succ

def i64ok (z : Int) : Prop := -9223372036854775808 ≤ z ∧ z ≤ 9223372036854775807
theorem pickI_nat (c n : Int) (h : 0 < n) : ∃ m : Nat, pickI c n = m ∧ (m : Int) < n := by
  have := pickI_bd c n h
  exact ⟨(pickI c n).toNat, by omega, by omega⟩
theorem pick_nat (c n : Int) (m : Nat) (w : World) (hc : i64ok c) (hn : 0 < n ∧ n ≤ 9223372036854775807) (hm : pickI c n = m) :
    Calls Tryz.prog 15 #[.int .i64 c, .int .i64 n] w fun e w' => e = .returned (.int .i64 (m : Int)) ∧ w' = w := by
  rw [← hm]; exact pick_any c n w hc hn

/-- A list of numbers lies in the world. -/
def IntsAt (w : World) (a : Option Addr) (zs : List Int) : Prop :=
  zs = [] ∨ ∃ b off, a = some ⟨b, off, none⟩ ∧ b < w.heap.size ∧ ∀ i (h : i < zs.length), w.cell? ⟨b, off + i, none⟩ = some (.int .i64 zs[i]) ∧ i64ok zs[i]

theorem lineCells_length (outs : List (ByteArray × Nat)) : (lineCells outs).length = outs.length * 4 := by
  induction outs with
  | nil => rfl
  | cons x r ih => simp only [lineCells, List.length_cons, ih]; omega
theorem lineCells_at (outs : List (ByteArray × Nat)) : ∀ (i : Nat) (h : i < outs.length), (lineCells outs)[i * 4]? = some (.string outs[i].1) ∧ (lineCells outs)[i * 4 + 1]? = some (.int .i64 (outs[i].2 : Nat)) ∧ (lineCells outs)[i * 4 + 2]? = some (.int .i64 0) ∧ (lineCells outs)[i * 4 + 3]? = some (.int .i64 0) := by
  induction outs with
  | nil => intro i h; simp at h
  | cons x r ih =>
    intro i h
    cases i with
    | zero => simp [lineCells]
    | succ i =>
      have := ih i (by simpa using h)
      rw [show (i + 1) * 4 = i * 4 + 1 + 1 + 1 + 1 from by omega]
      simp only [lineCells, show i * 4 + 1 + 1 + 1 + 1 + 1 = (i * 4 + 1) + 1 + 1 + 1 + 1 from rfl, show i * 4 + 1 + 1 + 1 + 1 + 2 = (i * 4 + 2) + 1 + 1 + 1 + 1 from by omega, show i * 4 + 1 + 1 + 1 + 1 + 3 = (i * 4 + 3) + 1 + 1 + 1 + 1 from by omega, List.getElem?_cons_succ, List.getElem_cons_succ]
      exact this

/-- The lines of an answer lie in the world. -/
theorem lines_lie {w : World} {base : Nat} {vl : Value} {outs : List (ByteArray × Nat)} (h : w.ownsRow base 38 4 vl outs.length (lineCells outs)) (h0 : 0 < outs.length) :
    ∃ g cap, vl = .slice (some ⟨g, 0, none⟩) outs.length cap ∧ base ≤ g ∧ g < w.heap.size ∧ ∀ i (h : i < outs.length), w.cell? ⟨g, i * 4, none⟩ = some (.string outs[i].1) ∧ w.cell? ⟨g, i * 4 + 1, none⟩ = some (.int .i64 (outs[i].2 : Nat)) ∧ w.cell? ⟨g, i * 4 + 2, none⟩ = some (.int .i64 0) ∧ w.cell? ⟨g, i * 4 + 3, none⟩ = some (.int .i64 0) := by
  obtain ⟨g, cap, rfl, hb, hlt⟩ := h.form (by omega)
  refine ⟨g, cap, rfl, hb, hlt, fun i hi => ?_⟩
  obtain ⟨c1, c2, c3, c4⟩ := lineCells_at outs i hi
  rw [h.cellAt (i * 4) (by omega), h.cellAt (i * 4 + 1) (by omega), h.cellAt (i * 4 + 2) (by omega), h.cellAt (i * 4 + 3) (by omega)]
  exact ⟨c1, c2, c3, c4⟩

/-- An answer's lines, as texts and numbers. -/
theorem outs_get {outs : List (ByteArray × Nat)} {r : List (List UInt8 × Nat)} (h : (outs.map fun x : ByteArray × Nat => (L x.1, x.2)) = r) (i : Nat) (hi : i < outs.length) (hr : i < r.length) : L outs[i].1 = r[i].1 ∧ outs[i].2 = r[i].2 := by
  subst h
  simp
theorem outs_len {outs : List (ByteArray × Nat)} {r : List (List UInt8 × Nat)} (h : (outs.map fun x : ByteArray × Nat => (L x.1, x.2)) = r) : outs.length = r.length := by
  subst h
  simp

end Go.Proofs.YtcepppilgncdmaaGreatDoor

namespace Go.Proofs.YtcepppilgncdmaaGreatDoor
open Go.RowKit
attribute [local go_sem ↓] Go.wp_at_zero Go.wp_at_succ

def firstT : ByteArray := ⟨#[106, 109, 112, 32, 101, 110, 100, 10, 46, 115, 112, 97, 99, 101, 32, 49, 50, 56, 10, 101, 110, 100, 58, 32, 114, 101, 116]⟩
theorem first_plain : (assembleP (L firstT)).1 = 0 ∧ (assembleP (L firstT)).2.1 = 0 ∧ (assembleP (L firstT)).2.2.bytes = [129, 131, 0] ++ List.replicate 128 0 ++ [161] ∧ namesP (assembleP (L firstT)).2.2.stms = [([101, 110, 100], 131)] ∧ (assembleP (L firstT)).2.2.stms.map (·.at_) = [0, 3, 131] := by decide +kernel

theorem say_at : ∀ {k : Nat} {ls : List LnV} {ss : List StV} {l : List StmP}, Say k ls ss l → ls.map (fun ln => (ln.at_ : Int)) = l.map (·.at_)
  | _, [], [], [], _ => rfl
  | _, ln :: lr, x :: xr, s :: sr, h => by
    simp only [List.map_cons]
    rw [h.1.at_, say_at h.2]
  | _, [], [], _ :: _, h => h.elim
  | _, [], _ :: _, _, h => h.elim
  | _, _ :: _, [], _, h => h.elim
  | _, _ :: _, _ :: _, [], h => h.elim
theorem byCells_at (bs : List UInt8) (i : Nat) (h : i < bs.length) : (byCells bs)[i]? = some (.int .u8 (bs[i].toNat : Nat)) := by
  simp [byCells, h]
set_option maxRecDepth 100000 in
set_option maxHeartbeats 1600000 in
theorem first_any (w : World) (hm : MaxAt w) :
    Calls Tryz.prog 10 #[] w fun e w' => e = .returned (.bool true) ∧ Below w.heap.size w w' := by
  have hc := mAssemble_any firstT w (by unfold maxLen firstT; decide) hm
  obtain ⟨h1, h2, h3, h4, h5⟩ := first_plain
  obtain ⟨r, hr⟩ : ∃ r, assembleP (L firstT) = r := ⟨_, rfl⟩
  rw [hr] at hc h1 h2 h3 h4 h5
  have HC := hid hc
  have H3 := hid h3
  have H4 := hid h4
  have H5 := hid h5
  have H1 := hid h1
  clear hc hm hr h3 h4 h5
  go_enter Tryz.func10, Tryz.ntmps10
  go_wp2_with fail
  refine HC.out.mono ?_
  rintro e w1 ⟨hb, vb, vl, vn, rfl, hrows⟩
  rw [h1, h2]
  clear h1 h2
  rcases hrows with ⟨h0, _⟩ | ⟨_, ls, ss, ns, ob, ol, on, hsay, _, hpn, _, _, _⟩
  · exact absurd H1.out h0
  rw [H3.out] at ob
  have hat := say_at hsay
  rw [H5.out] at hat
  have hll : ls.length = 3 := by have := congrArg List.length hat; simpa using this
  rw [H4.out] at hpn
  have hnl : ns.length = 1 := by have := congrArg List.length hpn; simpa [plainN] using this
  obtain ⟨gb, cb, rfl, _, hltb⟩ := ob.form (by simp)
  obtain ⟨gl, cl, rfl, _, hltl⟩ := ol.form (by omega)
  obtain ⟨gn, cn, rfl, _, hltn⟩ := on.form (by omega)
  have ob := ob.alloc (.cells #[.slice (some ⟨gb, 0, none⟩) 132 cb, .slice (some ⟨gl, 0, none⟩) 3 cl, .slice (some ⟨gn, 0, none⟩) 1 cn] 33)
  have ol := ol.alloc (.cells #[.slice (some ⟨gb, 0, none⟩) 132 cb, .slice (some ⟨gl, 0, none⟩) 3 cl, .slice (some ⟨gn, 0, none⟩) 1 cn] 33)
  have on := on.alloc (.cells #[.slice (some ⟨gb, 0, none⟩) 132 cb, .slice (some ⟨gl, 0, none⟩) 3 cl, .slice (some ⟨gn, 0, none⟩) 1 cn] 33)
  have HP := hid (show RowT (w1.alloc (.cells #[.slice (some ⟨gb, 0, none⟩) 132 cb, .slice (some ⟨gl, 0, none⟩) 3 cl, .slice (some ⟨gn, 0, none⟩) 1 cn] 33)) 33 w1.heap.size [.slice (some ⟨gb, 0, none⟩) 132 cb, .slice (some ⟨gl, 0, none⟩) 3 cl, .slice (some ⟨gn, 0, none⟩) 1 cn] from RowT.new w1 33 [.slice (some ⟨gb, 0, none⟩) 132 cb, .slice (some ⟨gl, 0, none⟩) 3 cl, .slice (some ⟨gn, 0, none⟩) 1 cn])
  have HB := hid (show Below w.heap.size w (w1.alloc (.cells #[.slice (some ⟨gb, 0, none⟩) 132 cb, .slice (some ⟨gl, 0, none⟩) 3 cl, .slice (some ⟨gn, 0, none⟩) 1 cn] 33)) from hb.alloc hb.size _)
  have b0 : (w1.alloc (.cells #[.slice (some ⟨gb, 0, none⟩) 132 cb, .slice (some ⟨gl, 0, none⟩) 3 cl, .slice (some ⟨gn, 0, none⟩) 1 cn] 33)).cell? ⟨gb, 0, none⟩ = some (.int .u8 129) := (ob.cellAt 0 (by simp)).trans (by rfl)
  have b1 : (w1.alloc (.cells #[.slice (some ⟨gb, 0, none⟩) 132 cb, .slice (some ⟨gl, 0, none⟩) 3 cl, .slice (some ⟨gn, 0, none⟩) 1 cn] 33)).cell? ⟨gb, 1, none⟩ = some (.int .u8 131) := (ob.cellAt 1 (by simp)).trans (by rfl)
  have b2 : (w1.alloc (.cells #[.slice (some ⟨gb, 0, none⟩) 132 cb, .slice (some ⟨gl, 0, none⟩) 3 cl, .slice (some ⟨gn, 0, none⟩) 1 cn] 33)).cell? ⟨gb, 131, none⟩ = some (.int .u8 161) := (ob.cellAt 131 (by simp)).trans (byCells_at _ 131 (by simp))
  have hl2 : ls[2].at_ = 131 := by
    have := congrArg (fun l : List Int => l[2]?) hat
    simp only [List.getElem?_map, List.getElem?_eq_getElem (show 2 < ls.length by omega), Option.map_some, List.getElem?_cons_succ, List.getElem?_cons_zero, Option.some.injEq] at this
    omega
  have l0 : (w1.alloc (.cells #[.slice (some ⟨gb, 0, none⟩) 132 cb, .slice (some ⟨gl, 0, none⟩) 3 cl, .slice (some ⟨gn, 0, none⟩) 1 cn] 33)).cell? ⟨gl, 10, none⟩ = some (.int .i64 131) := by
    have := (ol.cellAt (2 * 4 + 2) (by omega)).trans (lnCells_at ls 2 (by omega)).2.2.1
    rw [hl2] at this
    exact this
  obtain ⟨n0, rfl⟩ : ∃ n0, ns = [n0] := List.length_eq_one_iff.1 hnl
  have hn0 : n0 = (⟨#[101, 110, 100]⟩, 131) := by
    have : (L n0.1, n0.2) = (L ⟨#[101, 110, 100]⟩, (131 : Int)) := List.head_eq_of_cons_eq hpn
    injection this with q1 q2
    exact Prod.ext (L_inj q1) q2
  subst hn0
  have n0 : (w1.alloc (.cells #[.slice (some ⟨gb, 0, none⟩) 132 cb, .slice (some ⟨gl, 0, none⟩) 3 cl, .slice (some ⟨gn, 0, none⟩) 1 cn] 33)).cell? ⟨gn, 0, none⟩ = some (.string ⟨#[101, 110, 100]⟩) := (on.cellAt 0 (by simp)).trans rfl
  have n1 : (w1.alloc (.cells #[.slice (some ⟨gb, 0, none⟩) 132 cb, .slice (some ⟨gl, 0, none⟩) 3 cl, .slice (some ⟨gn, 0, none⟩) 1 cn] 33)).cell? ⟨gn, 1, none⟩ = some (.int .i64 131) := (on.cellAt 1 (by simp)).trans rfl
  have hbl : ([129, 131, 0] ++ List.replicate 128 0 ++ [161] : List UInt8).length = 132 := by simp
  rw [hbl, hll, hnl]
  clear hb ob ol on hsay hat hll hpn hnl hbl hl2
  go_upto_region 2 with fail
  generalize w1.alloc (.cells #[.slice (some ⟨gb, 0, none⟩) 132 cb, .slice (some ⟨gl, 0, none⟩) 3 cl, .slice (some ⟨gn, 0, none⟩) 1 cn] 33) = w2 at *
  generalize w1.heap.size = gp at *
  have p0 : w2.cell? ⟨gp, 0, none⟩ = some (.slice (some ⟨gb, 0, none⟩) 132 cb) := HP.out.cell 0 (by simp)
  have p1 : w2.cell? ⟨gp, 1, none⟩ = some (.slice (some ⟨gl, 0, none⟩) 3 cl) := HP.out.cell 1 (by simp)
  have p2 : w2.cell? ⟨gp, 2, none⟩ = some (.slice (some ⟨gn, 0, none⟩) 1 cn) := HP.out.cell 2 (by simp)
  go_wp2_with fail
  go_ret
  exact ⟨rfl, HB.out⟩

end Go.Proofs.YtcepppilgncdmaaGreatDoor

namespace Go.Proofs.YtcepppilgncdmaaGreatDoor
open Go.RowKit
attribute [local go_sem ↓] Go.wp_at_zero Go.wp_at_succ

theorem joinL_snoc (t : List UInt8) : ∀ ts : List (List UInt8), ts ≠ [] → joinL (ts ++ [t]) = joinL ts ++ 10 :: t
  | [], h => absurd rfl h
  | [a], _ => rfl
  | a :: b :: r, _ => by
    have ih := joinL_snoc t (b :: r) (by simp)
    simp only [List.cons_append, joinL] at ih ⊢
    rw [ih]
    simp
theorem joinL_take (ts : List (List UInt8)) (j : Nat) (h : j < ts.length) : joinL (ts.take (j + 1)) = if j = 0 then ts[j] else joinL (ts.take j) ++ 10 :: ts[j] := by
  rw [List.take_succ_eq_append_getElem h]
  by_cases h0 : j = 0
  · subst h0; simp [joinL]
  · rw [if_neg h0, joinL_snoc _ _ (by intro e; have := congrArg List.length e; rw [List.length_take, List.length_nil] at this; omega)]

set_option maxHeartbeats 800000 in
theorem join_any (w : World) (B : Nat) (v : Value) (outs : List (ByteArray × Nat)) (hown : w.ownsRow B 38 4 v outs.length (lineCells outs)) (hn : outs.length ≤ 300) (hz : ∀ x ∈ outs, x.1.size ≤ 80) :
    Calls Tryz.prog 13 #[v] w fun e w' => (∃ s, e = .returned (.string s) ∧ L s = joinL (outs.map fun x => L x.1) ∧ s.size ≤ 24300) ∧ w' = w := by
  obtain ⟨a, c, hv⟩ := own_form hown
  subst hv
  have HO := hid hown
  have HZ := hid hz
  clear hown hz
  go_enter Tryz.func13, Tryz.ntmps13
  go_wp2_with fail
  go_loop [3, 4] (fun s i => ∃ (sC : ByteArray) (j : Nat), j ≤ outs.length ∧ s = .string sC ∧ i = .int .i64 j ∧ sC.size ≤ 81 * j ∧ L sC = joinL ((outs.map fun x => L x.1).take j)) (fun _ i => outs.length - (intOf i).toNat)
  case atStart => exact ⟨⟨#[]⟩, 0, Nat.zero_le _, rfl, rfl, Nat.zero_le _, rfl⟩
  case round =>
    obtain ⟨sC, j, hj, rfl, rfl, hsz, hL⟩ := hrel
    have HL := hid hL
    clear hL
    by_cases hlt : j < outs.length
    · obtain ⟨g, cap, hf, _, hgl, hcs⟩ := lines_lie HO.out (by omega)
      simp only [Value.slice.injEq, true_and] at hf
      obtain ⟨rfl, rfl⟩ := hf
      have c0 := (hcs j hlt).1
      have hzj := HZ.out outs[j] (List.getElem_mem hlt)
      have HT := hid (joinL_take (outs.map fun x => L x.1) j (by simpa using hlt))
      have dn : decide ((j : Int) < outs.length) = true := by simp; omega
      obtain ⟨t, ht⟩ : ∃ t, outs[j].1 = t := ⟨_, rfl⟩
      rw [ht] at c0 hzj
      have HTT := hid ht
      have hj0 : (0 : Int) ≤ (j : Int) := Int.natCast_nonneg _
      have hj1 : (j : Int) < (outs.length : Int) := by omega
      clear hcs ht
      by_cases h0 : j = 0
      · subst h0
        rw [Nat.zero_mul] at c0
        go_wp2_with fail
        go_round
        case rel =>
          refine ⟨sC ++ t, 1, by omega, rfl, by go_num, ?_, ?_⟩
          · rw [ByteArray.size_append]; omega
          · have := HT.out
            rw [Nat.zero_add] at this
            rw [L_append, HL.out, this, if_pos rfl, ← HTT.out]
            simp [joinL]
        case measure => simp [intOf]; omega
      · have d0 : 0 < j := by omega
        have d1 : (0 : Int) < (j : Int) := by omega
        have HJ := hid h0
        clear h0
        go_wp2_with fail
        go_round
        case rel =>
          refine ⟨sC ++ ⟨#[10]⟩ ++ t, j + 1, by omega, rfl, by go_num, ?_, ?_⟩
          · rw [ByteArray.size_append, ByteArray.size_append]; show sC.size + 1 + t.size ≤ _; omega
          · rw [L_append, L_append, HL.out, HT.out, if_neg HJ.out, ← HTT.out, List.append_assoc]
            simp only [List.getElem_map]
            rfl
        case measure => simp [intOf]; omega
    · have hjm : j = outs.length := by omega
      have dn : decide ((j : Int) < outs.length) = false := by simp; omega
      have HJ := hid hjm
      clear hjm
      go_wp2_with fail
      go_ret
      refine ⟨⟨sC, rfl, ?_, by omega⟩, rfl⟩
      rw [HL.out, HJ.out, List.take_of_length_le (by simp)]

end Go.Proofs.YtcepppilgncdmaaGreatDoor
