/-
  What the program's functions on parts of lines and on the lines of a text (package lines) answer, said by the plain functions.
  What of the memory a function of package expand may turn: rows of some types at or behind a place, and of readers those that are listed.
-/
import Derived.Test.YtcepppilgncdmaaGreatDoorBS09
import Derived.Test.YtcepppilgncdmaaGreatDoorBS02
import Derived.Deep.RegionHeld3
import Derived.Deep.RegionLaw
import Derived.Deep.DrawnRows
import Derived.WalkSmall
namespace Go.Proofs.YtcepppilgncdmaaGreatDoor
open Go.RowKit

theorem is_empty (s : ByteArray) (h : s.size = 0) : s.toList.isEmpty = true := by
  rw [ByteArray.toList_eq]
  have := L_length s
  unfold L at this
  cases hl : s.data.toList with
  | nil => rfl
  | cons a b => rw [hl] at this; simp at this; omega
theorem L_zero {s : ByteArray} (h : s.size = 0) : L s = [] := by rw [empty_of s h]; rfl
theorem PartsV.bare {w : World} {B : Nat} {lb op : ByteArray} {v : Value} {os : List ByteArray} {W : WordsP} (h : PartsV w B lb op v os W) : bareW W = (decide (lb.size = 0) && decide (os.length = 0)) := by
  unfold bareW
  rw [← h.label, ← h.ops]
  congr 1
  · rw [decide_eq_decide]
    constructor
    · intro e; rw [size_L, e]; rfl
    · exact L_zero
  · rw [decide_eq_decide]
    constructor
    · intro e; have := congrArg List.length e; simpa using this
    · intro e; have : os = [] := List.eq_nil_of_length_eq_zero e; rw [this]; rfl

set_option maxHeartbeats 400000 in
theorem IsBare_any (lb op : ByteArray) (va : Option Addr) (n vc : Nat) (w : World) (b : Bool) (hn : n ≤ maxLen) (hb : (decide (lb.size = 0) && decide (n = 0)) = b) :
    Calls Tryz.prog 174 #[.agg #[.string lb, .string op, .slice va n vc]] w fun e w' => e = .returned (.bool b) ∧ Below w.heap.size w w' := by
  unfold maxLen at hn
  have HBL := hid (show Below w.heap.size w (w.alloc (.cells #[.string lb, .string op, .slice va n vc] 101)) from (Below.refl _ _).alloc (Nat.le_refl _) _)
  by_cases h1 : lb.size = 0
  · have h1' := empty_of lb h1
    subst h1'
    by_cases h2 : n = 0
    · subst h2
      have hb' : true = b := hb
      subst hb'
      go_enter Tryz.func174, Tryz.ntmps174
      go_wp2
      go_ret
      exact ⟨rfl, HBL.out⟩
    · have hb' : false = b := by rw [← hb, decide_eq_false h2, Bool.and_false]
      subst hb'
      have k : ((n : Int) == 0) = false := by rw [beq_eq_false_iff_ne]; omega
      clear hb
      go_enter Tryz.func174, Tryz.ntmps174
      go_wp2
      go_ret
      exact ⟨rfl, HBL.out⟩
  · have hb' : false = b := by rw [← hb, decide_eq_false h1, Bool.false_and]
    subst hb'
    have k := not_empty lb (by omega)
    clear hb
    go_enter Tryz.func174, Tryz.ntmps174
    go_wp2
    go_ret
    exact ⟨rfl, HBL.out⟩

set_option maxHeartbeats 400000 in
theorem needBare_any (lb op : ByteArray) (va : Option Addr) (n vc : Nat) (w : World) (b : Bool) (hn : n ≤ maxLen) (hb : (decide (lb.size = 0) && decide (n = 0)) = b) :
    Calls Tryz.prog 165 #[.agg #[.string lb, .string op, .slice va n vc]] w fun e w' => e = .returned (.int .i64 (if b then 0 else 4)) ∧ Below w.heap.size w w' := by
  have HBL := hid (show Below w.heap.size w (w.alloc (.cells #[.string lb, .string op, .slice va n vc] 101)) from (Below.refl _ _).alloc (Nat.le_refl _) _)
  have HB := hid hb
  clear hb
  cases b with
  | true =>
    go_enter Tryz.func165, Tryz.ntmps165
    go_wp2_with (first | (go_at_call 174; refine (IsBare_any lb op va n vc _ true hn HB.out).mono ?_; rintro e w1 ⟨rfl, hb1⟩))
    go_ret
    exact ⟨rfl, below_on HBL.out (Nat.le_refl _) hb1⟩
  | false =>
    go_enter Tryz.func165, Tryz.ntmps165
    go_wp2_with (first | (go_at_call 174; refine (IsBare_any lb op va n vc _ false hn HB.out).mono ?_; rintro e w1 ⟨rfl, hb1⟩))
    go_ret
    exact ⟨rfl, below_on HBL.out (Nat.le_refl _) hb1⟩

set_option maxHeartbeats 400000 in
theorem between_any (k : Nat) (w : World) (c : UInt8) (hc : (if k = 0 then 32 else 44) = c) : Calls Tryz.prog 166 #[.int .i64 k] w fun e w' => e = .returned (.string ⟨#[c]⟩) ∧ w' = w := by
  by_cases h : k = 0
  · subst h
    subst hc
    go_enter Tryz.func166, Tryz.ntmps166
    go_wp2
    go_ret
    exact ⟨rfl, rfl⟩
  · have kk : ((k : Int) == 0) = false := by rw [beq_eq_false_iff_ne]; omega
    rw [if_neg h] at hc
    subst hc
    go_enter Tryz.func166, Tryz.ntmps166
    go_wp2
    go_ret
    exact ⟨rfl, rfl⟩

theorem okByte_iff (c : UInt8) : okByte c = (decide (32 ≤ (c.toNat : Int)) && decide ((c.toNat : Int) ≤ 126)) := rfl
theorem all_at (s : ByteArray) (k : Nat) (h : k < s.size) : ((L s).drop k).all okByte = (okByte s[k] && ((L s).drop (k + 1)).all okByte) := by
  rw [L_drop s k h]; rfl

set_option maxHeartbeats 400000 in
theorem mayBe_any (s : ByteArray) (w : World) (hs : s.size ≤ maxLen) : Calls Tryz.prog 45 #[.string s] w fun e w' => e = .returned (.bool (okLine (L s))) ∧ w' = w := by
  unfold maxLen at hs
  go_enter Tryz.func45, Tryz.ntmps45
  go_wp2
  go_loop [6] (fun i => ∃ k : Nat, k ≤ s.size ∧ i = .int .i64 k ∧ (L s).all okByte = ((L s).drop k).all okByte) (fun i => s.size - (intOf i).toNat)
  case atStart => exact ⟨0, Nat.zero_le _, rfl, by simp⟩
  case round =>
    obtain ⟨k, hk, rfl, ha⟩ := hrel
    have HA := hid ha
    clear ha
    by_cases hlt : k < s.size
    · have hcs : ((s[k].toNat : Int) < 32) ∨ (32 ≤ (s[k].toNat : Int) ∧ 126 < (s[k].toNat : Int)) ∨ (32 ≤ (s[k].toNat : Int) ∧ (s[k].toNat : Int) ≤ 126) := by omega
      rcases hcs with h | ⟨h0, h⟩ | ⟨h0, h⟩
      · have HF := hid (show okLine (L s) = false by
          unfold okLine; rw [HA.out, all_at s k hlt, okByte_iff, decide_eq_false (show ¬ 32 ≤ (s[k].toNat : Int) by omega)]; simp)
        have d1 : decide ((s[k].toNat : Int) < 32) = true := by simpa using h
        clear h
        go_wp2
        go_ret
        exact ⟨ret_bool HF.out.symm, rfl⟩
      · have HF := hid (show okLine (L s) = false by
          unfold okLine; rw [HA.out, all_at s k hlt, okByte_iff, decide_eq_false (show ¬ (s[k].toNat : Int) ≤ 126 by omega)]; simp)
        have d1 : decide ((s[k].toNat : Int) < 32) = false := by simp; omega
        have d2 : decide (126 < (s[k].toNat : Int)) = true := by simp; omega
        clear h h0
        go_wp2
        go_ret
        exact ⟨ret_bool HF.out.symm, rfl⟩
      · have HF := hid (show (L s).all okByte = ((L s).drop (k + 1)).all okByte by
          rw [HA.out, all_at s k hlt, okByte_iff, decide_eq_true h0, decide_eq_true h]; simp)
        have d1 : decide ((s[k].toNat : Int) < 32) = false := by simp; omega
        have d2 : decide (126 < (s[k].toNat : Int)) = false := by simp; omega
        clear h h0
        go_wp2
        go_round
        case rel => exact ⟨k + 1, by omega, by go_num, HF.out⟩
        case measure => simp [intOf]; omega
    · have HF := hid (show okLine (L s) = decide (s.size ≤ 80) by
        unfold okLine; rw [HA.out, L_end s k (by omega), L_length]; simp)
      by_cases h80 : s.size ≤ 80
      · have d : decide ((s.size : Int) ≤ 80) = true := by simp; omega
        go_wp2
        go_ret
        exact ⟨ret_bool (by rw [HF.out, decide_eq_true h80]), rfl⟩
      · have d : decide ((s.size : Int) ≤ 80) = false := by simp; omega
        go_wp2
        go_ret
        exact ⟨ret_bool (by rw [HF.out, decide_eq_false h80]), rfl⟩

theorem RowT.upto {B : Nat} {w w' : World} {t g : Nat} {xs : List Value} (h : RowT w t g xs) (hb : Below B w w') (hg : g < B) : RowT w' t g xs := by
  unfold RowT at h ⊢
  rw [hb.block g hg]; exact h
/-- A builder that holds these bytes. -/
def BuildAt (w : World) (B b : Nat) (acc : List UInt8) : Prop := Lib.IsBuilderF 221 5 B b (Lib.byteCells acc) w
theorem write_any (B b : Nat) (acc : List UInt8) (s : ByteArray) (w : World) (h : BuildAt w B b acc) (hlen : acc.length + s.size ≤ 100000000) (hB : B ≤ w.heap.size) :
    Calls Tryz.prog 153 #[.pointer (some ⟨b, 0, none⟩), .string s] w fun e w' => e = .returned (.tuple #[.int .i64 s.size, .nilIface]) ∧ BuildAt w' B b (acc ++ L s) ∧ Below B w w' := by
  refine (Tryz.Builder_WriteString_f B b (Lib.byteCells acc) s w h (by rw [Lib.byteCells_length]; omega) hB).mono ?_
  rintro e w' ⟨rfl, h1, h2⟩
  refine ⟨rfl, Or.inr ?_, h2⟩
  rw [Lib.byteCells_append]
  exact h1
theorem string_any (B b : Nat) (acc : List UInt8) (w : World) (h : BuildAt w B b acc) (hB : B ≤ w.heap.size) :
    Calls Tryz.prog 154 #[.pointer (some ⟨b, 0, none⟩)] w fun e w' => e = .returned (.string ⟨acc.toArray⟩) ∧ Below B w w' := by
  refine (Tryz.Builder_String_any_f B b acc w h hB).mono ?_
  rintro e w' ⟨rfl, _, h2⟩
  exact ⟨rfl, h2⟩

set_option maxHeartbeats 1600000 in
theorem Text_any (lb op : ByteArray) (va : Option Addr) (vc : Nat) (os : List ByteArray) (w : World) (C : Nat) (W : WordsP) (h : PartsV w C lb op (.slice va os.length vc) os W) (hl : (textP W).length ≤ 1000000) (hn : os.length ≤ 1000000) :
    Calls Tryz.prog 144 #[.agg #[.string lb, .string op, .slice va os.length vc]] w fun e w' => ∃ t, L t = textP W ∧ e = .returned (.string t) ∧ Below w.heap.size w w' := by
  obtain ⟨B, hB⟩ : ∃ B, w.heap.size = B := ⟨_, rfl⟩
  have HB := hid hB
  have hb2 : Below B w ((w.alloc (.cells #[.string lb, .string op, .slice va os.length vc] 101)).alloc (.cells #[.pointer none, .slice none 0 0] 221)) := ((Below.refl B w).alloc (by omega) _).alloc (by simp; omega) _
  have HR := hid (show RowT ((w.alloc (.cells #[.string lb, .string op, .slice va os.length vc] 101)).alloc (.cells #[.pointer none, .slice none 0 0] 221)) 101 B [.string lb, .string op, .slice va os.length vc] from (hB ▸ RowT.new w 101 [.string lb, .string op, .slice va os.length vc]).alloc _)
  have HBD := hid (show BuildAt ((w.alloc (.cells #[.string lb, .string op, .slice va os.length vc] 101)).alloc (.cells #[.pointer none, .slice none 0 0] 221)) (B + 1) (B + 1) [] by
    have := Lib.IsBuilderF.of (Lib.fresh_isBuilder 221 5 (w.alloc (.cells #[.string lb, .string op, .slice va os.length vc] 101)))
    rw [show (w.alloc (.cells #[.string lb, .string op, .slice va os.length vc] 101)).heap.size = B + 1 from by simp [hB]] at this
    exact this)
  have hz2 : B + 1 < ((w.alloc (.cells #[.string lb, .string op, .slice va os.length vc] 101)).alloc (.cells #[.pointer none, .slice none 0 0] 221)).heap.size := by simp [hB]
  have HZ := hid hz2
  have HB2 := hid hb2
  have HH := hid h
  have hsum := hl
  rw [textP_head, List.length_append, joined_len, ← h.ops] at hsum
  have hlen : lb.size ≤ 1000000 ∧ op.size ≤ 1000000 := by
    rw [size_L, size_L, h.label, h.op]
    unfold headP at hsum
    constructor
    · split at hsum <;> (try split at hsum) <;> simp_all <;> omega
    · split at hsum <;> (try split at hsum) <;> simp_all <;> omega
  have HTX := hid (show textP W = headP (L lb) (L op) ++ joinedTo os os.length by
    rw [textP_head, h.label, h.op]; unfold joinedTo; rw [List.take_of_length_le (Nat.le_refl _), h.ops])
  have hjl : ∀ k, (joinedTo os k).length ≤ 1000000 := fun k => Nat.le_trans (joinedTo_len os k) (by omega)
  have HJL := hid hjl
  clear h hl hb2 hz2 hsum hjl
  obtain ⟨hlb, hop⟩ := hlen
  have hcs : lb.size = 0 ∨ (¬ lb.size = 0 ∧ op.size = 0) ∨ (¬ lb.size = 0 ∧ ¬ op.size = 0) := by omega
  go_enter Tryz.func144, Tryz.ntmps144
  rcases hcs with h1 | ⟨h1, h2⟩ | ⟨h1, h2⟩
  focus
    have HAC := hid (show headP (L lb) (L op) = ([] : List UInt8) ++ L op by
      unfold headP; rw [L_zero h1]; by_cases ho : L op = []
      · simp [ho]
      · rw [if_neg ho]; rfl)
    obtain ⟨ac, hac⟩ : ∃ x : List UInt8, x = [] := ⟨_, rfl⟩
    have kl := is_empty lb h1
    rw [← hac] at HAC HBD
    have hacl : ac.length ≤ 1000002 := by rw [hac]; simp
    clear h1 hac
    go_upto_region 7 with fail
    generalize ((w.alloc (.cells #[.string lb, .string op, .slice va os.length vc] 101)).alloc (.cells #[.pointer none, .slice none 0 0] 221)) = wF at HR HBD HZ HB2 ⊢
  rotate_left
  focus
    have k1 := not_empty lb (by omega)
    have HAC := hid (show headP (L lb) (L op) = (L lb ++ [58]) ++ L op by
      unfold headP; rw [L_zero h2, if_pos rfl, if_neg (ne_of_size lb h1), List.append_nil])
    have k2 := is_empty op h2
    clear h1 h2
    go_wp2_with fail
    refine (write_any (B + 1) (B + 1) [] lb _ HBD.out (by simp; omega) (Nat.le_of_lt HZ.out)).mono ?_
    rintro e w3 ⟨rfl, hbd3, hb3⟩
    have HBD := hid hbd3
    have HR := hid (HR.out.upto hb3 (Nat.lt_succ_self _))
    have HZ := hid (Nat.lt_of_lt_of_le HZ.out hb3.size)
    have HB2 := hid (HB2.out.trans (hb3.mono (Nat.le_succ _)))
    have d0 := HR.out.cell 0 (by simp)
    clear hbd3 hb3
    go_wp2_with fail
    refine (write_any (B + 1) (B + 1) _ ⟨#[58]⟩ _ HBD.out (by show _ + 1 ≤ _; rw [List.nil_append, L_length]; omega) (Nat.le_of_lt HZ.out)).mono ?_
    rintro e wF ⟨rfl, hbd3, hb3⟩
    obtain ⟨ac, hac⟩ : ∃ x, x = L lb ++ [58] := ⟨_, rfl⟩
    rw [← hac] at HAC
    have HBD := hid (show BuildAt wF (B + 1) (B + 1) ac from hac ▸ hbd3)
    have HR := hid (HR.out.upto hb3 (Nat.lt_succ_self _))
    have HZ := hid (Nat.lt_of_lt_of_le HZ.out hb3.size)
    have HB2 := hid (HB2.out.trans (hb3.mono (Nat.le_succ _)))
    have hacl : ac.length ≤ 1000002 := by rw [hac, List.length_append, L_length]; simp; omega
    clear hbd3 hb3 hac d0
    have d0 := HR.out.cell 0 (by simp)
    have d1 := HR.out.cell 1 (by simp)
    go_upto_region 7 with fail
    clear d0 d1
  rotate_left
  focus
    have k1 := not_empty lb (by omega)
    have k2 := not_empty op (by omega)
    have HAC := hid (show headP (L lb) (L op) = (L lb ++ [58] ++ [32]) ++ L op by
      unfold headP; rw [if_neg (ne_of_size op h2), if_neg (ne_of_size lb h1)])
    clear h1 h2
    go_wp2_with fail
    refine (write_any (B + 1) (B + 1) [] lb _ HBD.out (by simp; omega) (Nat.le_of_lt HZ.out)).mono ?_
    rintro e w3 ⟨rfl, hbd3, hb3⟩
    have HBD := hid hbd3
    have HR := hid (HR.out.upto hb3 (Nat.lt_succ_self _))
    have HZ := hid (Nat.lt_of_lt_of_le HZ.out hb3.size)
    have HB2 := hid (HB2.out.trans (hb3.mono (Nat.le_succ _)))
    have d0 := HR.out.cell 0 (by simp)
    clear hbd3 hb3
    go_wp2_with fail
    refine (write_any (B + 1) (B + 1) _ ⟨#[58]⟩ _ HBD.out (by show _ + 1 ≤ _; rw [List.nil_append, L_length]; omega) (Nat.le_of_lt HZ.out)).mono ?_
    rintro e w4 ⟨rfl, hbd3, hb3⟩
    have HBD := hid hbd3
    have HR := hid (HR.out.upto hb3 (Nat.lt_succ_self _))
    have HZ := hid (Nat.lt_of_lt_of_le HZ.out hb3.size)
    have HB2 := hid (HB2.out.trans (hb3.mono (Nat.le_succ _)))
    clear hbd3 hb3 d0
    have d0 := HR.out.cell 0 (by simp)
    have d1 := HR.out.cell 1 (by simp)
    go_wp2_with fail
    refine (write_any (B + 1) (B + 1) _ ⟨#[32]⟩ _ HBD.out (by show _ + 1 ≤ _; rw [List.nil_append, List.length_append, L_length]; show _ + 1 + 1 ≤ _; omega) (Nat.le_of_lt HZ.out)).mono ?_
    rintro e wF ⟨rfl, hbd3, hb3⟩
    obtain ⟨ac, hac⟩ : ∃ x, x = L lb ++ [58] ++ [32] := ⟨_, rfl⟩
    rw [← hac] at HAC
    have HBD := hid (show BuildAt wF (B + 1) (B + 1) ac from hac ▸ hbd3)
    have HR := hid (HR.out.upto hb3 (Nat.lt_succ_self _))
    have HZ := hid (Nat.lt_of_lt_of_le HZ.out hb3.size)
    have HB2 := hid (HB2.out.trans (hb3.mono (Nat.le_succ _)))
    have hacl : ac.length ≤ 1000002 := by rw [hac, List.length_append, List.length_append, L_length]; simp; omega
    clear hbd3 hb3 hac d0 d1
    go_upto_region 7 with fail
  rotate_left
  all_goals
    have d1 := HR.out.cell 1 (by simp)
    go_wp2_with fail
    refine (write_any (B + 1) (B + 1) ac op _ HBD.out (by omega) (Nat.le_of_lt HZ.out)).mono ?_
    rintro e w5 ⟨rfl, hbd5, hb5⟩
    have HBD := hid hbd5
    have HR := hid (HR.out.upto hb5 (Nat.lt_succ_self _))
    have HZ := hid (Nat.lt_of_lt_of_le HZ.out hb5.size)
    have HB2 := hid (HB2.out.trans (hb5.mono (Nat.le_succ _)))
    have HBW := hid HB2.out
    have hacl2 : (ac ++ L op).length ≤ 2000002 := by rw [List.length_append, L_length]; omega
    clear hbd5 hb5 d1
    have d2 := HR.out.cell 2 (by simp)
    go_wp2_with fail
    go_loopg [28] os.length (fun q i wr => ∃ k : Nat, q + k = os.length ∧ i = .int .i64 k ∧ BuildAt wr (B + 1) (B + 1) ((ac ++ L op) ++ joinedTo os k) ∧ Below (B + 1) w5 wr)
    case atStart => exact ⟨0, rfl, rfl, by rw [show joinedTo os 0 = [] from rfl, List.append_nil]; exact HBD.out, Below.refl _ _⟩
    case round =>
      obtain ⟨k, hq, rfl, hbk, hbl⟩ := hrel
      have HBK := hid hbk
      have HBL := hid hbl
      have hZk : B + 1 < wr.heap.size := Nat.lt_of_lt_of_le HZ.out hbl.size
      have HJ := hid (HJL.out k)
      clear hbk hbl
      by_cases hlt : k < os.length
      · have kd : decide ((k : Int) < (os.length : Int)) = true := by simp; omega
        rcases HH.out.at_ with ⟨_, hos⟩ | ⟨b, off, cap, cur, hv, _, hcur, _, hcell⟩
        · rw [hos] at hlt; simp at hlt
        · injection hv with hv1 _ hv2
          subst hv1 hv2
          have hbB : b < B := by rw [← HB.out]; exact (Array.getElem?_eq_some_iff.1 hcur).1
          have ck : wr.cell? ⟨b, off + k, none⟩ = some (.string os[k]) := by
            have e1 : wr.heap[b]? = some (.cells cur 9 (0, 0)) := by
              rw [HBL.out.block b (by omega), HBW.out.block b hbB]; exact hcur
            simp [World.cell?, e1, hcell k hlt]
          have hok : os[k].size ≤ 1000000 := by
            have h3 := HJL.out (k + 1)
            rw [joinedTo_succ os k hlt, List.length_append, List.length_cons, L_length] at h3
            omega
          obtain ⟨c, hc⟩ : ∃ c : UInt8, (if k = 0 then 32 else 44) = c := ⟨_, rfl⟩
          have HC := hid hc
          have HJS := hid (joinedTo_succ os k hlt)
          clear hcell hcur hc
          go_wp2_with fail
          refine (between_any k _ c HC.out).mono ?_
          rintro e wb ⟨rfl, rfl⟩
          go_wp2_with fail
          refine (write_any (B + 1) (B + 1) _ ⟨#[c]⟩ _ HBK.out (by have := HJ.out; show _ + 1 ≤ _; rw [List.length_append]; omega) (Nat.le_of_lt hZk)).mono ?_
          rintro e w6 ⟨rfl, hbd6, hb6⟩
          have HBK6 := hid hbd6
          have HB6 := hid hb6
          clear hbd6 hb6
          go_wp2_with fail
          refine (write_any (B + 1) (B + 1) _ os[k] _ HBK6.out (by have := HJ.out; rw [List.length_append, List.length_append]; show _ + _ + 1 + _ ≤ _; omega) (Nat.le_trans (Nat.le_of_lt hZk) HB6.out.size)).mono ?_
          rintro e w7 ⟨rfl, hbd7, hb7⟩
          have HBK7 := hid hbd7
          have HB7 := hid hb7
          clear hbd7 hb7
          go_wp2
          go_roundg (gk - 1)
          case measure => omega
          case rel =>
            refine ⟨k + 1, by omega, by go_num, ?_, (HBL.out.trans HB6.out).trans HB7.out⟩
            have e2 : (ac ++ L op ++ joinedTo os k ++ L (⟨#[c]⟩ : ByteArray) ++ L os[k]) = ac ++ L op ++ joinedTo os (k + 1) := by
              rw [HJS.out, HC.out, List.append_assoc, List.append_assoc (ac ++ L op)]; rfl
            rw [← e2]; exact HBK7.out
      · have kd : decide ((k : Int) < (os.length : Int)) = false := by simp; omega
        have hk : k = os.length := by omega
        subst hk
        go_wp2_with fail
        refine (string_any (B + 1) (B + 1) _ _ HBK.out (Nat.le_of_lt hZk)).mono ?_
        rintro e w6 ⟨rfl, hb6⟩
        go_wp2
        go_ret
        refine ⟨_, ?_, rfl, ?_⟩
        · rw [L_mk, HTX.out, HAC.out, List.append_assoc]
        · rw [HB.out]; exact (HBW.out.trans (HBL.out.mono (Nat.le_succ _))).trans (hb6.mono (Nat.le_succ _))

theorem badLine_at (ls : List ByteArray) (k : Nat) (h : k < ls.length) : badLine ((ls.drop k).map L) (k + 1) = if okLine (L ls[k]) then badLine ((ls.drop (k + 1)).map L) (k + 1 + 1) else k + 1 := by
  rw [List.drop_eq_getElem_cons h, List.map_cons]; rfl
theorem splitB_len (b : Int) (l : List UInt8) : (splitB b l).length ≤ l.length + 1 := by
  induction l with
  | nil => simp [splitB]
  | cons c r ih =>
    simp only [splitB]
    split
    · simp; omega
    · split
      · rename_i h; rw [h] at ih; simp at ih ⊢; omega
      · simp
theorem splitB_each (b : Int) (l : List UInt8) : ∀ x ∈ splitB b l, x.length ≤ l.length := by
  induction l with
  | nil => simp [splitB]
  | cons c r ih =>
    intro x hx
    simp only [splitB] at hx
    split at hx
    · rcases List.mem_cons.1 hx with rfl | h
      · simp
      · have := ih x h; simp; omega
    · split at hx
      · rename_i q t h
        rw [h] at ih
        rcases List.mem_cons.1 hx with rfl | h2
        · have := ih q (by simp); simp; omega
        · have := ih x (by simp [h2]); simp; omega
      · simp at hx; rw [hx]; simp

/-- What Split answers. -/
def SplitPost (s : ByteArray) (w : World) (e : Ending) (w' : World) : Prop := Below w.heap.size w w' ∧
      ((3000 < s.size ∧ e = .returned (.tuple #[.slice none 0 0, .int .i64 1, .int .i64 0])) ∨
       (¬ 3000 < s.size ∧ badLine (splitB 10 (L s)) 1 ≠ 0 ∧ e = .returned (.tuple #[.slice none 0 0, .int .i64 1, .int .i64 (badLine (splitB 10 (L s)) 1 : Nat)])) ∨
       (¬ 3000 < s.size ∧ badLine (splitB 10 (L s)) 1 = 0 ∧ ∃ v ls, ls.map L = splitB 10 (L s) ∧ StrV w' w.heap.size v ls ∧ e = .returned (.tuple #[v, .int .i64 0, .int .i64 0])))

set_option maxHeartbeats 800000 in
theorem Split_any (s : ByteArray) (w : World) (hs : s.size ≤ maxLen) (hm : MaxAt w) :
    Calls Tryz.prog 30 #[.string s] w (SplitPost s w) := by
  unfold maxLen at hs
  have HM := hid hm
  clear hm
  by_cases h3 : 3000 < s.size
  · have d : decide (3000 < (s.size : Int)) = true := by simp; omega
    go_enter Tryz.func30, Tryz.ntmps30
    go_wp2
    refine bodyPost_ret (v := .tuple #[.slice none 0 0, .int .i64 1, .int .i64 0]) (by simp [results, Tryz.results30]) rfl ⟨Below.refl _ _, Or.inl ⟨h3, rfl⟩⟩
  · have d : decide (3000 < (s.size : Int)) = false := by simp; omega
    obtain ⟨r, hr⟩ : ∃ r, badLine (splitB 10 (L s)) 1 = r := ⟨_, rfl⟩
    have HR := hid hr
    clear hr
    go_enter Tryz.func30, Tryz.ntmps30
    go_wp2_with fail
    refine (split_any s 10 _ (by omega) HM.out).mono ?_
    rintro e w1 ⟨v, ls, rfl, hst, hls, hb1⟩
    obtain ⟨va, vc, hv⟩ := hst.form
    subst hv
    have hlen : ls.length ≤ 3001 := by
      have h5 := congrArg List.length hls
      rw [List.length_map] at h5
      have := splitB_len (10 : UInt8).toNat (L s)
      rw [L_length] at this
      omega
    have hsz : ∀ k (h : k < ls.length), ls[k].size ≤ 3000 := fun k h => by
      have h6 : L ls[k] ∈ splitB (10 : UInt8).toNat (L s) := by rw [← hls]; exact List.mem_map.2 ⟨_, List.getElem_mem h, rfl⟩
      have := splitB_each _ _ _ h6
      rw [L_length, L_length] at this
      omega
    have HSZ := hid hsz
    have HST := hid hst
    have HLS := hid hls
    have HB1 := hid hb1
    clear hst hls hb1 hsz
    go_wp2_with fail
    go_loop [15] (fun i => ∃ k : Nat, k ≤ ls.length ∧ i = .int .i64 k ∧ r = badLine ((ls.drop k).map L) (k + 1)) (fun i => ls.length - (intOf i).toNat)
    case atStart => exact ⟨0, Nat.zero_le _, rfl, by rw [List.drop_zero, HLS.out]; exact HR.out.symm⟩
    case round =>
      obtain ⟨k, hk, rfl, ha⟩ := hrel
      have HA := hid ha
      clear ha
      by_cases hlt : k < ls.length
      · have kd : decide ((k : Int) < (ls.length : Int)) = true := by simp; omega
        obtain ⟨b, off, cap, hv, hbl, ck⟩ := HST.out.cell k hlt
        injection hv with hv1 _ hv2
        subst hv1 hv2
        have hks := HSZ.out k hlt
        obtain ⟨ok, hok⟩ : ∃ ok, okLine (L ls[k]) = ok := ⟨_, rfl⟩
        have HOK := hid hok
        have hA := HA.out
        rw [badLine_at ls k hlt, hok] at hA
        clear hok
        cases ok with
        | true =>
          have HA2 := hid hA
          clear hA
          go_wp2_with (first | (go_at_call 45; refine (mayBe_any _ _ (by unfold maxLen; omega)).mono ?_; rw [HOK.out]; rintro e w' ⟨rfl, rfl⟩))
          go_round
          case rel => exact ⟨k + 1, by omega, by go_num, HA2.out⟩
          case measure => simp [intOf]; omega
        | false =>
          have hA' : r = k + 1 := hA
          subst hA'
          clear hA
          go_wp2_with (first | (go_at_call 45; refine (mayBe_any _ _ (by unfold maxLen; omega)).mono ?_; rw [HOK.out]; rintro e w' ⟨rfl, rfl⟩))
          refine bodyPost_ret (v := .tuple #[.slice none 0 0, .int .i64 1, .int .i64 ((k + 1 : Nat) : Int)]) (by simp [results, Tryz.results30]) rfl ⟨HB1.out, Or.inr (Or.inl ⟨h3, by rw [HR.out]; omega, by rw [HR.out]⟩)⟩
      · have kd : decide ((k : Int) < (ls.length : Int)) = false := by simp; omega
        have hr0 : r = 0 := by rw [HA.out, List.drop_eq_nil_of_le (by omega)]; rfl
        subst hr0
        go_wp2
        refine bodyPost_ret (v := .tuple #[.slice va ls.length vc, .int .i64 0, .int .i64 0]) (by simp [results, Tryz.results30]) rfl ⟨HB1.out, Or.inr (Or.inr ⟨h3, HR.out, _, ls, HLS.out, HST.out, rfl⟩)⟩

end Go.Proofs.YtcepppilgncdmaaGreatDoor

namespace Go.Proofs.YtcepppilgncdmaaGreatDoor
open Go.RowKit

/-- Types of what an expansion holds; of what a reader holds. -/
def eT (t : TypeId) : Bool := t == 77 || t == 202 || t == 40 || t == 38
def rT (t : TypeId) : Bool := t == 74 || t == 209 || t == 257
def keptO (E : TypeId → Bool) (M : List Nat) (k : Nat) : Obj → Bool
  | .cells _ t _ => !E t && (!rT t || !M.contains k)
  | _ => true

/-- Rows at or behind B of the types E, and of readers those of M, may have turned; no others that were there. -/
structure FrE (E : TypeId → Bool) (B : Nat) (M : List Nat) (w w' : World) : Prop where
  os : w'.os = w.os
  tape : w'.tape = w.tape
  output : w'.output = w.output
  size : w.heap.size ≤ w'.heap.size
  block : ∀ k o, w.heap[k]? = some o → (k < B ∨ keptO E M k o = true) → w'.heap[k]? = some o

theorem FrE.refl (E : TypeId → Bool) (B : Nat) (M : List Nat) (w : World) : FrE E B M w w := ⟨rfl, rfl, rfl, Nat.le_refl _, fun _ _ h _ => h⟩
theorem FrE.trans {E : TypeId → Bool} {B : Nat} {M : List Nat} {a b c : World} (h : FrE E B M a b) (k : FrE E B M b c) : FrE E B M a c :=
  ⟨k.os.trans h.os, k.tape.trans h.tape, k.output.trans h.output, Nat.le_trans h.size k.size, fun i o ho hk => k.block i o (h.block i o ho hk) hk⟩
theorem keptO_mono {E : TypeId → Bool} {M N : List Nat} (hs : ∀ k, k ∈ M → k ∈ N) {k : Nat} {o : Obj} (h : keptO E N k o = true) : keptO E M k o = true := by
  cases o with
  | cells cur t fz =>
    simp only [keptO, Bool.and_eq_true, Bool.or_eq_true, Bool.not_eq_true', List.contains_eq_mem, decide_eq_false_iff_not] at h ⊢
    exact ⟨h.1, h.2.imp id (fun h hm => h (hs k hm))⟩
  | _ => rfl
theorem FrE.mono {E : TypeId → Bool} {B : Nat} {M N : List Nat} {w w' : World} (h : FrE E B M w w') (hs : ∀ k, k ∈ M → k ∈ N) : FrE E B N w w' :=
  ⟨h.os, h.tape, h.output, h.size, fun k o ho hk => h.block k o ho (hk.imp id (keptO_mono hs))⟩
/-- Where a block that may turn by the second frame is new, or may turn by the first. -/
theorem FrE.trans' {E : TypeId → Bool} {B : Nat} {M N : List Nat} {a b c : World} (h : FrE E B M a b) (k : FrE E B N b c) (hN : ∀ i, i ∈ N → i ∈ M ∨ a.heap.size ≤ i) : FrE E B M a c :=
  ⟨k.os.trans h.os, k.tape.trans h.tape, k.output.trans h.output, Nat.le_trans h.size k.size, fun i o ho hk => by
    refine k.block i o (h.block i o ho hk) (hk.imp id fun hm => ?_)
    have hi : i < a.heap.size := (Array.getElem?_eq_some_iff.1 ho).1
    cases o with
    | cells cur t fz =>
      simp only [keptO, Bool.and_eq_true, Bool.or_eq_true, Bool.not_eq_true', List.contains_eq_mem, decide_eq_false_iff_not] at hm ⊢
      refine ⟨hm.1, hm.2.imp id fun h2 h3 => ?_⟩
      rcases hN i h3 with h4 | h4
      · exact h2 h4
      · omega
    | _ => rfl⟩
theorem FrE.of_below {E : TypeId → Bool} {B : Nat} {M : List Nat} {w w' : World} (h : Below w.heap.size w w') : FrE E B M w w' :=
  ⟨h.os, h.tape, h.output, h.size, fun k o ho _ => by rw [h.block k (Array.getElem?_eq_some_iff.1 ho).1]; exact ho⟩
theorem FrE.below {E : TypeId → Bool} {B : Nat} {M : List Nat} {w w' : World} (h : FrE E B M w w') (hB : B ≤ w.heap.size) : Below B w w' :=
  ⟨h.os, h.tape, h.output, h.size, fun k hk => by
    have hk2 : k < w.heap.size := Nat.lt_of_lt_of_le hk hB
    rw [h.block k _ (Array.getElem?_eq_getElem hk2) (Or.inl hk), Array.getElem?_eq_getElem hk2]⟩
theorem FrE.alloc {E : TypeId → Bool} {B : Nat} {M : List Nat} {a w : World} (h : FrE E B M a w) (o : Obj) : FrE E B M a (w.alloc o) := h.trans (FrE.of_below ((Below.refl _ _).alloc (Nat.le_refl _) o))
theorem FrE.drew {E : TypeId → Bool} {B : Nat} {M : List Nat} {a w : World} (h : FrE E B M a w) : FrE E B M a w.drew := ⟨h.os, h.tape, h.output, h.size, h.block⟩
theorem FrE.drewN {E : TypeId → Bool} {B : Nat} {M : List Nat} {a w : World} (h : FrE E B M a w) (n : Nat) : FrE E B M a (w.drewN n) := ⟨h.os, h.tape, h.output, h.size, h.block⟩

/-- A block that may turn. -/
def MayT (E : TypeId → Bool) (B : Nat) (M : List Nat) (w : World) (g : Nat) : Prop := B ≤ g ∧ ∃ cur t fz, w.heap[g]? = some (.cells cur t fz) ∧ (E t = true ∨ (rT t = true ∧ g ∈ M))
theorem MayT.not {E : TypeId → Bool} {B : Nat} {M : List Nat} {w : World} {g : Nat} (h : MayT E B M w g) {k : Nat} {o : Obj} (ho : w.heap[k]? = some o) (hk : k < B ∨ keptO E M k o = true) : k ≠ g := by
  rintro rfl
  obtain ⟨hB, cur, t, fz, hc, ht⟩ := h
  rw [ho] at hc
  injection hc with hc
  subst hc
  rcases hk with hk | hk
  · omega
  · simp only [keptO, Bool.and_eq_true, Bool.or_eq_true, Bool.not_eq_true', List.contains_eq_mem, decide_eq_false_iff_not] at hk
    rcases ht with ht | ⟨ht, hm⟩
    · rw [ht] at hk; cases hk.1
    · rcases hk.2 with h2 | h2
      · rw [ht] at h2; cases h2
      · exact h2 hm
theorem FrE.setCell {E : TypeId → Bool} {B : Nat} {M : List Nat} {a w : World} (h : FrE E B M a w) {p : Addr} (hp : MayT E B M w p.block) (u : Value) : FrE E B M a (w.setCell p u) :=
  h.trans ⟨rfl, rfl, rfl, by simp [World.setCell], fun k o ho hk => by rw [heap_setCell_other w p k u (hp.not ho hk)]; exact ho⟩
theorem FrE.grown {E : TypeId → Bool} {B : Nat} {M : List Nat} {a w w' : World} {row : Option Nat} (h : FrE E B M a w) (hg : w.grownBy w' row) (hr : ∀ g, row = some g → MayT E B M w g) : FrE E B M a w' :=
  h.trans ⟨hg.os, hg.tape, hg.output, hg.size, fun k o ho hk => by
    rw [hg.block k (Array.getElem?_eq_some_iff.1 ho).1 (fun e => (hr k e.symm).not ho hk rfl)]; exact ho⟩
theorem RowT.may {E : TypeId → Bool} {B : Nat} {M : List Nat} {w : World} {t g : Nat} {xs : List Value} (h : RowT w t g xs) (hB : B ≤ g) (ht : E t = true ∨ (rT t = true ∧ g ∈ M)) : MayT E B M w g := ⟨hB, _, t, _, h, ht⟩

/-- Rows of a type that stays. -/
theorem RowT.fr {E : TypeId → Bool} {B : Nat} {M : List Nat} {w w' : World} {t g : Nat} {xs : List Value} (h : RowT w t g xs) (hf : FrE E B M w w') (ht : E t = false) (hm : rT t = true → g ∉ M) : RowT w' t g xs := by
  unfold RowT at h ⊢
  refine hf.block g _ h (Or.inr ?_)
  simp only [keptO, Bool.and_eq_true, Bool.or_eq_true, Bool.not_eq_true', List.contains_eq_mem, decide_eq_false_iff_not, ht, true_and]
  cases hr : rT t with
  | false => exact Or.inl rfl
  | true => exact Or.inr (hm hr)
theorem StrV.frE {E : TypeId → Bool} {B C : Nat} {M : List Nat} {w w' : World} {v : Value} {ss : List ByteArray} (h : StrV w C v ss) (hf : FrE E B M w w') (hE : E 9 = false) : StrV w' C v ss := by
  rcases h with h | ⟨b, off, cap, cur, h1, h2, h3, h4⟩
  · exact Or.inl h
  · exact Or.inr ⟨b, off, cap, cur, h1, h2, hf.block b _ h3 (Or.inr (by simp [keptO, hE, rT])), h4⟩
theorem ownsRow_fr {E : TypeId → Bool} {B C : Nat} {M : List Nat} {w w' : World} {e size n : Nat} {v : Value} {xs : List Value} (h : w.ownsRow C e size v n xs) (hf : FrE E B M w w') (ht : E e = false) (hm : rT e = true → ∀ g, v.ownBlock = some g → g ∉ M) : w'.ownsRow C e size v n xs := by
  refine ⟨h.1, ?_⟩
  rcases h.2 with hn | ⟨g, cap, cur, rfl, hb, hgg, rest⟩
  · exact .inl hn
  · refine .inr ⟨g, cap, cur, rfl, hb, hf.block g _ hgg (Or.inr ?_), rest⟩
    simp only [keptO, Bool.and_eq_true, Bool.or_eq_true, Bool.not_eq_true', List.contains_eq_mem, decide_eq_false_iff_not, ht, true_and]
    cases hr : rT e with
    | false => exact Or.inl rfl
    | true => exact Or.inr (hm hr g rfl)
/-- Rows of two types are two. -/
theorem own_row_ne {C : Nat} {w : World} {e size n t g : Nat} {v : Value} {xs ys : List Value} (h : w.ownsRow C e size v n xs) (hr : RowT w t g ys) (ht : e ≠ t) : v.ownBlock ≠ some g := by
  rcases h.2 with ⟨rfl, _⟩ | ⟨k, cap, cur, rfl, _, hk, _⟩
  · intro h; cases h
  · intro hh
    simp [Value.ownBlock] at hh
    subst hh
    unfold RowT at hr
    rw [hr] at hk
    injection hk with hk
    injection hk with _ hk
    exact ht hk.symm
theorem own_own_ne {C D : Nat} {w : World} {e f size m n k g : Nat} {v u : Value} {xs ys : List Value} (h : w.ownsRow C e size v n xs) (hr : w.ownsRow D f m u k ys) (ht : e ≠ f) (hg : u.ownBlock = some g) : v.ownBlock ≠ some g := by
  rcases h.2 with ⟨rfl, _⟩ | ⟨a, cap, cur, rfl, _, hk, _⟩
  · intro h; cases h
  · intro hh
    simp [Value.ownBlock] at hh
    subst hh
    rcases hr.2 with ⟨rfl, _⟩ | ⟨b, cap', cur', rfl, _, hk', _⟩
    · cases hg
    · simp [Value.ownBlock] at hg
      subst hg
      rw [hk] at hk'
      injection hk' with hk'
      injection hk' with _ hk'
      exact ht hk'
theorem own_may {E : TypeId → Bool} {B : Nat} {M : List Nat} {w : World} {e size n : Nat} {v : Value} {xs : List Value} (h : w.ownsRow B e size v n xs) (ht : ∀ g, v.ownBlock = some g → E e = true ∨ (rT e = true ∧ g ∈ M)) : ∀ g, v.ownBlock = some g → MayT E B M w g := by
  intro g hg
  rcases h.2 with ⟨rfl, _⟩ | ⟨k, cap, cur, rfl, hb, hk, _⟩
  · cases hg
  · simp [Value.ownBlock] at hg
    subst hg
    exact ⟨hb, cur, e, _, hk, ht k rfl⟩
theorem MaxAt.fr {E : TypeId → Bool} {B : Nat} {M : List Nat} {w w' : World} (h : MaxAt w) (hf : FrE E B M w w') (hB : 0 < B) : MaxAt w' := by
  obtain ⟨m, hm⟩ := h
  have hlt := World.block_lt_of_cell? _ _ hm
  refine ⟨m, (World.cell?_of_block (a := ⟨0, 0, none⟩) ?_).trans hm⟩
  rw [hf.block _ _ (Array.getElem?_eq_getElem hlt) (Or.inl hB), Array.getElem?_eq_getElem hlt]

/-- All that an expansion holds may have turned; or nothing of that. -/
abbrev Fr := FrE eT
def noT (_ : TypeId) : Bool := false
abbrev FrC := FrE noT
theorem Fr.refl (B : Nat) (M : List Nat) (w : World) : Fr B M w w := FrE.refl _ _ _ _
theorem FrC.refl (B : Nat) (M : List Nat) (w : World) : FrC B M w w := FrE.refl _ _ _ _
theorem Fr.of_below {B : Nat} {M : List Nat} {w w' : World} (h : Below w.heap.size w w') : Fr B M w w' := FrE.of_below h
theorem FrC.of_below {B : Nat} {M : List Nat} {w w' : World} (h : Below w.heap.size w w') : FrC B M w w' := FrE.of_below h
theorem StrV.fr {B C : Nat} {M : List Nat} {w w' : World} {v : Value} {ss : List ByteArray} (h : StrV w C v ss) (hf : Fr B M w w') : StrV w' C v ss := h.frE hf rfl
theorem StrV.frc {B C : Nat} {M : List Nat} {w w' : World} {v : Value} {ss : List ByteArray} (h : StrV w C v ss) (hf : FrC B M w w') : StrV w' C v ss := h.frE hf rfl
theorem FrC.to {B : Nat} {M : List Nat} {w w' : World} (h : FrC B M w w') : Fr B M w w' :=
  ⟨h.os, h.tape, h.output, h.size, fun k o ho hk => h.block k o ho (hk.imp id fun hm => by
    cases o with
    | cells cur t fz =>
      simp only [keptO, Bool.and_eq_true] at hm ⊢
      exact ⟨rfl, hm.2⟩
    | _ => rfl)⟩

end Go.Proofs.YtcepppilgncdmaaGreatDoor
