/-
  Do bytes jump to where they should (package masonkeep)?
  The bytes of a jump, as Short of package masonkeep looks at them.
-/
import Derived.Test.YtcepppilgncdmaaGreatDoorBS36
import Derived.BigQuiet
import Derived.Test.YtcepppilgncdmaaGreatDoorBS03
namespace Go.Proofs.YtcepppilgncdmaaGreatDoor
open Go.RowKit
attribute [local go_sem ↓] Go.wp_at_zero Go.wp_at_succ

set_option maxRecDepth 100000 in
set_option maxHeartbeats 1600000 in
theorem jumps_short (w : World) (g off cp : Nat) (op : Nat) (far : Int) (at_ tt : Nat) (ho : op ≤ 255) (_ha : at_ ≤ 100000) (_ht : tt ≤ 100000) (hf : far = (tt : Int) - at_ - 2) (h1 : -128 ≤ far) (h2 : far ≤ 127)
    (c0 : w.cell? ⟨g, off, none⟩ = some (.int .u8 (op : Nat))) (c1 : w.cell? ⟨g, off + 1, none⟩ = some (.int .u8 ((byteP far).toNat : Nat))) :
    Calls Tryz.prog 16 #[.slice (some ⟨g, off, none⟩) 2 cp, .int .i64 (op : Nat), .int .i64 (at_ : Nat), .int .i64 (tt : Nat)] w fun e w' => e = .returned (.bool true) ∧ w' = w := by
  have hw := wrap_byte far
  have k1 : decide ((-128 : Int) ≤ far) = true := decide_eq_true h1
  have k2 : decide (far ≤ (127 : Int)) = true := decide_eq_true h2
  have hff : (tt : Int) - at_ - 2 = far := hf.symm
  clear hf
  go_enter Tryz.func16, Tryz.ntmps16
  go_wp2_with fail
  go_ret
  exact ⟨rfl, rfl⟩

set_option maxRecDepth 100000 in
set_option maxHeartbeats 1600000 in
theorem jumps_long (w : World) (g off cp : Nat) (op lg : Nat) (far : Int) (at_ tt : Nat) (ho : op ≤ 255) (hlg : lg = if 128 < op then op + 4 else 129) (hl2 : lg ≤ 255) (ha : at_ ≤ 1000) (ht : tt ≤ 1000) (hf : far = if at_ < tt then (tt : Int) - at_ - 3 else (tt : Int) - at_ - 2) (h1 : far < -128 ∨ 127 < far)
    (c0 : w.cell? ⟨g, off, none⟩ = some (.int .u8 (lg : Nat))) (c1 : w.cell? ⟨g, off + 1, none⟩ = some (.int .u8 ((byteP (tt : Int)).toNat : Nat))) (c2 : w.cell? ⟨g, off + 2, none⟩ = some (.int .u8 ((byteP ((tt : Int) / 256)).toNat : Nat))) :
    Calls Tryz.prog 16 #[.slice (some ⟨g, off, none⟩) 3 cp, .int .i64 (op : Nat), .int .i64 (at_ : Nat), .int .i64 (tt : Nat)] w fun e w' => e = .returned (.bool true) ∧ Below w.heap.size w w' := by
  have e1 := byteP_nat (tt : Int)
  have e2 := byteP_nat ((tt : Int) / 256)
  have e3 : ((tt : Int) % 256) + 256 * (((tt : Int) / 256) % 256) = tt := by omega
  rw [e1] at c1
  rw [e2] at c2
  have hx0 : (0 : Int) ≤ (tt : Int) % 256 ∧ (tt : Int) % 256 < 256 := by omega
  have hx1 : (0 : Int) ≤ (tt : Int) / 256 % 256 ∧ (tt : Int) / 256 % 256 < 256 := by omega
  generalize (tt : Int) % 256 = y1 at *
  generalize (tt : Int) / 256 % 256 = y2 at *
  have HE := hid e3
  clear e1 e2 e3
  have wm : IntKind.i64.wrap (256 * y2) = 256 * y2 := Go.IntWalk.i64_in _ (by omega)
  have wa : IntKind.i64.wrap (y1 + 256 * y2) = y1 + 256 * y2 := Go.IntWalk.i64_in _ (by omega)
  have ke : (y1 + 256 * y2 == (tt : Int)) = true := by simpa using HE.out
  by_cases hat : at_ < tt
  · rw [if_pos hat] at hf
    have ka : decide ((at_ : Int) < (tt : Int)) = true := decide_eq_true (by omega)
    by_cases hop : 128 < op
    · rw [if_pos hop] at hlg
      have ko : decide ((128 : Int) < (op : Int)) = true := decide_eq_true (by omega)
      have HG := hid (show (op : Int) + 4 = (lg : Int) by omega)
      clear hlg
      go_enter Tryz.func16, Tryz.ntmps16
      go_wp2_with fail
      have HF := hid (show (tt : Int) - at_ - 2 - 1 = far by omega)
      clear hf
      rw [HF.out]
      rw [HG.out]
      rcases h1 with h1 | h1
      · have k1 : decide (far < (-128 : Int)) = true := decide_eq_true h1
        go_quiet (fail)
        go_wp2_with fail
        go_ret
        exact ⟨rfl, below_drewN (Below.refl _ _) _⟩
      · have k1 : decide (far < (-128 : Int)) = false := decide_eq_false (by omega)
        have k2 : decide ((127 : Int) < far) = true := decide_eq_true h1
        go_quiet (fail)
        go_wp2_with fail
        go_ret
        exact ⟨rfl, below_drewN (Below.refl _ _) _⟩
    · rw [if_neg hop] at hlg
      have ko : decide ((128 : Int) < (op : Int)) = false := decide_eq_false (by omega)
      subst hlg
      go_enter Tryz.func16, Tryz.ntmps16
      go_wp2_with fail
      have HF := hid (show (tt : Int) - at_ - 2 - 1 = far by omega)
      clear hf
      rw [HF.out]
      rcases h1 with h1 | h1
      · have k1 : decide (far < (-128 : Int)) = true := decide_eq_true h1
        go_quiet (fail)
        go_wp2_with fail
        go_ret
        exact ⟨rfl, below_drewN (Below.refl _ _) _⟩
      · have k1 : decide (far < (-128 : Int)) = false := decide_eq_false (by omega)
        have k2 : decide ((127 : Int) < far) = true := decide_eq_true h1
        go_quiet (fail)
        go_wp2_with fail
        go_ret
        exact ⟨rfl, below_drewN (Below.refl _ _) _⟩
  · rw [if_neg hat] at hf
    have ka : decide ((at_ : Int) < (tt : Int)) = false := decide_eq_false (by omega)
    by_cases hop : 128 < op
    · rw [if_pos hop] at hlg
      have ko : decide ((128 : Int) < (op : Int)) = true := decide_eq_true (by omega)
      have HG := hid (show (op : Int) + 4 = (lg : Int) by omega)
      clear hlg
      go_enter Tryz.func16, Tryz.ntmps16
      go_wp2_with fail
      have HF := hid (show (tt : Int) - at_ - 2 = far by omega)
      clear hf
      rw [HF.out]
      rw [HG.out]
      rcases h1 with h1 | h1
      · have k1 : decide (far < (-128 : Int)) = true := decide_eq_true h1
        go_quiet (fail)
        go_wp2_with fail
        go_ret
        exact ⟨rfl, below_drewN (Below.refl _ _) _⟩
      · have k1 : decide (far < (-128 : Int)) = false := decide_eq_false (by omega)
        have k2 : decide ((127 : Int) < far) = true := decide_eq_true h1
        go_quiet (fail)
        go_wp2_with fail
        go_ret
        exact ⟨rfl, below_drewN (Below.refl _ _) _⟩
    · rw [if_neg hop] at hlg
      have ko : decide ((128 : Int) < (op : Int)) = false := decide_eq_false (by omega)
      subst hlg
      go_enter Tryz.func16, Tryz.ntmps16
      go_wp2_with fail
      have HF := hid (show (tt : Int) - at_ - 2 = far by omega)
      clear hf
      rw [HF.out]
      rcases h1 with h1 | h1
      · have k1 : decide (far < (-128 : Int)) = true := decide_eq_true h1
        go_quiet (fail)
        go_wp2_with fail
        go_ret
        exact ⟨rfl, below_drewN (Below.refl _ _) _⟩
      · have k1 : decide (far < (-128 : Int)) = false := decide_eq_false (by omega)
        have k2 : decide ((127 : Int) < far) = true := decide_eq_true h1
        go_quiet (fail)
        go_wp2_with fail
        go_ret
        exact ⟨rfl, below_drewN (Below.refl _ _) _⟩

end Go.Proofs.YtcepppilgncdmaaGreatDoor

namespace Go.Proofs.YtcepppilgncdmaaGreatDoor
open Go.RowKit

/-- The operation that Short expects. -/
def opK (J : JmpP) : Nat := if J.kind < 4 then 128 else 132 + J.reg
/-- The bytes of a short jump within reach, or of a long one that is out of reach. -/
def JmpB (op at_ tt : Nat) (bs : List UInt8) : Prop :=
  (bs = [byteP (op : Nat), byteP ((tt : Int) - at_ - 2)] ∧ -128 ≤ (tt : Int) - at_ - 2 ∧ (tt : Int) - at_ - 2 ≤ 127) ∨
  (bs = [byteP ((if 128 < op then op + 4 else 129 : Nat) : Int), byteP (tt : Nat), byteP ((tt : Nat) / 256 : Int)] ∧ ((if at_ < tt then (tt : Int) - at_ - 3 else (tt : Int) - at_ - 2) < -128 ∨ 127 < (if at_ < tt then (tt : Int) - at_ - 3 else (tt : Int) - at_ - 2)))
theorem jump_plain {js : List JmpP} {l : List StmP} (h : Laid js l) (hn : js.length ≤ 90) (hj : ∀ j ∈ js, OkJ js.length j) (hend : offs l l.length ≤ 1000) (hgr : l.any (growsP (namesP l)) = false) {i : Nat} {s : StmP} {j : JmpP} (hs : l[i]? = some s) (hji : js[i]? = some j) (hb : baseS s = stmJ i j) (hk : j.kind < 6) :
    JmpB (opK j) (offs l i) (offs l j.to) (bytesP (namesP l) s).2 := by
  have h3 := (h.bytes hn hj hend hs hji).2.2 hk
  obtain ⟨g1, _⟩ := h.grows hn hj hs hji hb hk
  have hg0 : growsP (namesP l) s = false := by
    rw [List.any_eq_false] at hgr
    simpa using hgr s (List.mem_of_getElem? hs)
  rw [hg0] at g1
  have hreg := (hj j (List.mem_of_getElem? hji)).reg
  have hop : ((opnJ j).code + addJ j : Nat) = opK j ∧ ((opnJ j).long + addJ j : Nat) = if 128 < opK j then opK j + 4 else 129 := by
    unfold opK
    cases kindJ j with
    | jmp k _ _ o a _ => rw [o, a, if_pos k]; simp
    | jz k _ _ o a _ =>
      rw [o, a, if_neg (by omega)]
      refine ⟨rfl, ?_⟩
      rw [if_pos (by omega)]
      simp only
      omega
    | space k => omega
    | nop k => omega
  rw [h3]
  cases hl : s.long with
  | false =>
    rw [hl] at g1
    simp only [Bool.not_false, Bool.true_and] at g1
    have g2 := g1.symm
    rw [Bool.or_eq_false_iff, decide_eq_false_iff_not, decide_eq_false_iff_not] at g2
    refine Or.inl ⟨?_, by omega, by omega⟩
    rw [if_neg (by simp), hop.1, show ((offs l j.to : Nat) : Int) - ((offs l i : Nat) + 2) = ((offs l j.to : Nat) : Int) - (offs l i : Nat) - 2 by omega]
  | true =>
    obtain ⟨_, w1, w2⟩ := h.why i s j hs hji hl
    have hsu := offs_succ hs
    have hsz : sizeP s = 3 := by
      obtain ⟨_, e2, _⟩ := exprs_jump hb hk
      unfold sizeP
      rw [e2, hl]
      rfl
    refine Or.inr ⟨?_, ?_⟩
    · rw [if_pos rfl, hop.2]
    · by_cases hi : i < j.to
      · have := w1 hi
        rw [if_pos (by omega)]
        right; omega
      · have := w2 (by omega)
        rw [if_neg (by omega)]
        left; omega
theorem jumps_bel (w : World) (g off n cp op at_ tt : Nat) (bs : List UInt8) (hb : JmpB op at_ tt bs) (hn : bs.length = n) (ho : op ≤ 251) (ha : at_ ≤ 1000) (ht : tt ≤ 1000) (hc : ∀ d (h : d < bs.length), w.cell? ⟨g, off + d, none⟩ = some (.int .u8 (bs[d].toNat : Nat))) :
    Calls Tryz.prog 16 #[.slice (some ⟨g, off, none⟩) n cp, .int .i64 (op : Nat), .int .i64 (at_ : Nat), .int .i64 (tt : Nat)] w fun e w' => e = .returned (.bool true) ∧ Below w.heap.size w w' := by
  rcases hb with ⟨rfl, h1, h2⟩ | ⟨rfl, h1⟩
  · have c0 := hc 0 (by simp)
    have c1 := hc 1 (by simp)
    simp only [List.getElem_cons_zero, List.getElem_cons_succ, Nat.add_zero] at c0 c1
    rw [byteP_nat, show ((op : Nat) : Int) % 256 = (op : Nat) by omega] at c0
    simp only [List.length_cons, List.length_nil, Nat.zero_add, Nat.reduceAdd] at hn
    subst hn
    exact (jumps_short w g off cp op _ at_ tt (by omega) (by omega) (by omega) rfl h1 h2 c0 c1).mono fun _ _ ⟨k1, k2⟩ => ⟨k1, by rw [k2]; exact Below.refl _ _⟩
  · have c0 := hc 0 (by simp)
    have c1 := hc 1 (by simp)
    have c2 := hc 2 (by simp)
    simp only [List.getElem_cons_zero, List.getElem_cons_succ, Nat.add_zero] at c0 c1 c2
    have hlg : (if 128 < op then op + 4 else 129) ≤ 255 := by split <;> omega
    rw [byteP_nat, show ((if 128 < op then op + 4 else 129 : Nat) : Int) % 256 = (if 128 < op then op + 4 else 129 : Nat) by omega] at c0
    simp only [List.length_cons, List.length_nil, Nat.zero_add, Nat.reduceAdd] at hn
    subst hn
    exact jumps_long w g off cp op _ _ at_ tt (by omega) rfl hlg ha ht rfl h1 c0 c1 c2

end Go.Proofs.YtcepppilgncdmaaGreatDoor
