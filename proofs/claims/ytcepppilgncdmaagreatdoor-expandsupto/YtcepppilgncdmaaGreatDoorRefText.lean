/-
  What the document's own 'text' and 'lines' (package masonref) answer, said by the plain functions.
-/
import Derived.Test.YtcepppilgncdmaaGreatDoorRefWords
import Derived.Test.YtcepppilgncdmaaGreatDoorTextMath
namespace Go.Proofs.YtcepppilgncdmaaGreatDoor
open Go.RowKit

set_option maxRecDepth 100000 in
set_option maxHeartbeats 1000000 in
theorem text_any (lb op : ByteArray) (oa : Option Addr) (oc : Nat) (ops : List ByteArray) (M : List Nat) (w : World) (h1 : lb.size ≤ 1000000) (h2 : op.size ≤ 1000000) (h3 : sumLen (ops.map L) ≤ 1000000) (h4 : ops.length ≤ 1000000) (hst : StrsAt w M oa ops) :
    Calls Tryz.prog 156 #[.agg #[.string lb, .string op, .slice oa ops.length oc]] w fun e w' => ∃ t : ByteArray, L t = textP ⟨L lb, L op, ops.map L⟩ ∧ e = .returned (.string t) ∧ Below w.heap.size w w' := by
  have HST := hid hst
  have HTX := hid (textP_head ⟨L lb, L op, ops.map L⟩)
  clear hst
  have hjl : ∀ k, (joinedTo ops k).length ≤ 1000000 := fun k => Nat.le_trans (joinedTo_len ops k) h3
  have HJL := hid hjl
  clear hjl
  by_cases e1 : lb.size = 0
  · obtain rfl := empty_of lb e1
    by_cases e2 : op.size = 0
    · obtain rfl := empty_of op e2
      have hhl : (headP (L ⟨#[]⟩) (L ⟨#[]⟩)).length ≤ 2000002 := by decide
      go_enter Tryz.func156, Tryz.ntmps156
      go_upto_block 0 with fail
      go_wp2_with fail
      go_loopg [3, 4] ops.length (fun q x i wr => ∃ (k : Nat) (cur : ByteArray), q + k = ops.length ∧ i = .int .i64 k ∧ x = .string cur ∧ L cur = headP (L ⟨#[]⟩) (L ⟨#[]⟩) ++ joinedTo ops k ∧ wr = w.alloc (Obj.cells #[Value.string ⟨#[]⟩, Value.string ⟨#[]⟩, Value.slice oa ops.length oc] 134))
      case atStart => exact ⟨0, _, rfl, rfl, rfl, by simp [joinedTo, joined, headP, L], rfl⟩
      case round =>
        obtain ⟨k, cur, hq, rfl, rfl, hcur, rfl⟩ := hrel
        have HC := hid hcur
        have hcl : cur.size ≤ 3000002 := by rw [← L_length, hcur, List.length_append]; have := HJL.out k; omega
        clear hcur
        by_cases hlt : k < ops.length
        · rcases HST.out with h | ⟨b, off, ha, hbl, _, hc⟩
          · rw [h] at hlt; simp at hlt
          · subst ha
            have c1 := hc k hlt
            have hol : ops[k].size ≤ 1000000 := by
              have h5 := HJL.out (k + 1)
              rw [joinedTo_succ ops k hlt, List.length_append, List.length_cons, L_length] at h5
              omega
            have HS := hid (joinedTo_succ ops k hlt)
            clear hc
            by_cases hk0 : k = 0
            · subst hk0
              rw [Nat.add_zero] at c1
              go_wp2
              go_roundg (gk - 1)
              case measure => omega
              case rel => exact ⟨0 + 1, _, by omega, by go_num, rfl, by rw [HS.out, L_append, L_append, HC.out]; simp; rfl, rfl⟩
            · have kk : ((k : Int) == 0) = false := by rw [beq_eq_false_iff_ne]; omega
              go_wp2
              go_roundg (gk - 1)
              case measure => omega
              case rel => exact ⟨k + 1, _, by omega, by go_num, rfl, by rw [HS.out, L_append, L_append, HC.out, if_neg hk0]; simp; rfl, rfl⟩
        · have HE := hid (show L cur = textP ⟨L ⟨#[]⟩, L ⟨#[]⟩, ops.map L⟩ by rw [HTX.out, HC.out]; unfold joinedTo; rw [List.take_of_length_le (by omega)])
          go_wp2
          go_ret
          exact ⟨cur, HE.out, rfl, (Below.refl _ _).alloc (Nat.le_refl _) _⟩
    · have k2 := not_empty op (by omega)
      have HHD := hid (show L (⟨#[]⟩ ++ op) = headP (L ⟨#[]⟩) (L op) by unfold headP; rw [if_neg (ne_of_size op e2), if_pos (show L ⟨#[]⟩ = [] from rfl), L_append]; rfl)
      have hhl : (headP (L ⟨#[]⟩) (L op)).length ≤ 2000002 := by rw [← HHD.out, L_length, ByteArray.size_append]; show 0 + op.size ≤ 2000002; omega
      go_enter Tryz.func156, Tryz.ntmps156
      go_upto_block 0 with fail
      go_wp2_with fail
      go_loopg [3, 4] ops.length (fun q x i wr => ∃ (k : Nat) (cur : ByteArray), q + k = ops.length ∧ i = .int .i64 k ∧ x = .string cur ∧ L cur = headP (L ⟨#[]⟩) (L op) ++ joinedTo ops k ∧ wr = w.alloc (Obj.cells #[Value.string ⟨#[]⟩, Value.string op, Value.slice oa ops.length oc] 134))
      case atStart => exact ⟨0, _, rfl, rfl, rfl, by rw [HHD.out]; simp [joinedTo, joined], rfl⟩
      case round =>
        obtain ⟨k, cur, hq, rfl, rfl, hcur, rfl⟩ := hrel
        have HC := hid hcur
        have hcl : cur.size ≤ 3000002 := by rw [← L_length, hcur, List.length_append]; have := HJL.out k; omega
        clear hcur
        by_cases hlt : k < ops.length
        · rcases HST.out with h | ⟨b, off, ha, hbl, _, hc⟩
          · rw [h] at hlt; simp at hlt
          · subst ha
            have c1 := hc k hlt
            have hol : ops[k].size ≤ 1000000 := by
              have h5 := HJL.out (k + 1)
              rw [joinedTo_succ ops k hlt, List.length_append, List.length_cons, L_length] at h5
              omega
            have HS := hid (joinedTo_succ ops k hlt)
            clear hc
            by_cases hk0 : k = 0
            · subst hk0
              rw [Nat.add_zero] at c1
              go_wp2
              go_roundg (gk - 1)
              case measure => omega
              case rel => exact ⟨0 + 1, _, by omega, by go_num, rfl, by rw [HS.out, L_append, L_append, HC.out]; simp; rfl, rfl⟩
            · have kk : ((k : Int) == 0) = false := by rw [beq_eq_false_iff_ne]; omega
              go_wp2
              go_roundg (gk - 1)
              case measure => omega
              case rel => exact ⟨k + 1, _, by omega, by go_num, rfl, by rw [HS.out, L_append, L_append, HC.out, if_neg hk0]; simp; rfl, rfl⟩
        · have HE := hid (show L cur = textP ⟨L ⟨#[]⟩, L op, ops.map L⟩ by rw [HTX.out, HC.out]; unfold joinedTo; rw [List.take_of_length_le (by omega)])
          go_wp2
          go_ret
          exact ⟨cur, HE.out, rfl, (Below.refl _ _).alloc (Nat.le_refl _) _⟩
  · have k1 := not_empty lb (by omega)
    by_cases e2 : op.size = 0
    · obtain rfl := empty_of op e2
      have HHD := hid (show L (lb ++ ⟨#[58]⟩) = headP (L lb) (L ⟨#[]⟩) by unfold headP; rw [if_pos (show L ⟨#[]⟩ = [] from rfl), if_neg (ne_of_size lb e1), L_append]; rfl)
      have hhl : (headP (L lb) (L ⟨#[]⟩)).length ≤ 2000002 := by rw [← HHD.out, L_length, ByteArray.size_append]; show lb.size + 1 ≤ 2000002; omega
      go_enter Tryz.func156, Tryz.ntmps156
      go_upto_block 0 with fail
      go_wp2_with fail
      go_loopg [3, 4] ops.length (fun q x i wr => ∃ (k : Nat) (cur : ByteArray), q + k = ops.length ∧ i = .int .i64 k ∧ x = .string cur ∧ L cur = headP (L lb) (L ⟨#[]⟩) ++ joinedTo ops k ∧ wr = w.alloc (Obj.cells #[Value.string lb, Value.string ⟨#[]⟩, Value.slice oa ops.length oc] 134))
      case atStart => exact ⟨0, _, rfl, rfl, rfl, by rw [HHD.out]; simp [joinedTo, joined], rfl⟩
      case round =>
        obtain ⟨k, cur, hq, rfl, rfl, hcur, rfl⟩ := hrel
        have HC := hid hcur
        have hcl : cur.size ≤ 3000002 := by rw [← L_length, hcur, List.length_append]; have := HJL.out k; omega
        clear hcur
        by_cases hlt : k < ops.length
        · rcases HST.out with h | ⟨b, off, ha, hbl, _, hc⟩
          · rw [h] at hlt; simp at hlt
          · subst ha
            have c1 := hc k hlt
            have hol : ops[k].size ≤ 1000000 := by
              have h5 := HJL.out (k + 1)
              rw [joinedTo_succ ops k hlt, List.length_append, List.length_cons, L_length] at h5
              omega
            have HS := hid (joinedTo_succ ops k hlt)
            clear hc
            by_cases hk0 : k = 0
            · subst hk0
              rw [Nat.add_zero] at c1
              go_wp2
              go_roundg (gk - 1)
              case measure => omega
              case rel => exact ⟨0 + 1, _, by omega, by go_num, rfl, by rw [HS.out, L_append, L_append, HC.out]; simp; rfl, rfl⟩
            · have kk : ((k : Int) == 0) = false := by rw [beq_eq_false_iff_ne]; omega
              go_wp2
              go_roundg (gk - 1)
              case measure => omega
              case rel => exact ⟨k + 1, _, by omega, by go_num, rfl, by rw [HS.out, L_append, L_append, HC.out, if_neg hk0]; simp; rfl, rfl⟩
        · have HE := hid (show L cur = textP ⟨L lb, L ⟨#[]⟩, ops.map L⟩ by rw [HTX.out, HC.out]; unfold joinedTo; rw [List.take_of_length_le (by omega)])
          go_wp2
          go_ret
          exact ⟨cur, HE.out, rfl, (Below.refl _ _).alloc (Nat.le_refl _) _⟩
    · have k2 := not_empty op (by omega)
      have k3 := not_empty (lb ++ ⟨#[58]⟩) (by rw [ByteArray.size_append]; show 0 < lb.size + 1; omega)
      have HHD := hid (show L (lb ++ ⟨#[58]⟩ ++ ⟨#[32]⟩ ++ op) = headP (L lb) (L op) by unfold headP; rw [if_neg (ne_of_size op e2), if_neg (ne_of_size lb e1), L_append, L_append, L_append]; rfl)
      have hhl : (headP (L lb) (L op)).length ≤ 2000002 := by rw [← HHD.out, L_length, ByteArray.size_append, ByteArray.size_append, ByteArray.size_append]; show lb.size + 1 + 1 + op.size ≤ 2000002; omega
      go_enter Tryz.func156, Tryz.ntmps156
      go_upto_block 0 with fail
      go_wp2_with fail
      go_loopg [3, 4] ops.length (fun q x i wr => ∃ (k : Nat) (cur : ByteArray), q + k = ops.length ∧ i = .int .i64 k ∧ x = .string cur ∧ L cur = headP (L lb) (L op) ++ joinedTo ops k ∧ wr = w.alloc (Obj.cells #[Value.string lb, Value.string op, Value.slice oa ops.length oc] 134))
      case atStart => exact ⟨0, _, rfl, rfl, rfl, by rw [HHD.out]; simp [joinedTo, joined], rfl⟩
      case round =>
        obtain ⟨k, cur, hq, rfl, rfl, hcur, rfl⟩ := hrel
        have HC := hid hcur
        have hcl : cur.size ≤ 3000002 := by rw [← L_length, hcur, List.length_append]; have := HJL.out k; omega
        clear hcur
        by_cases hlt : k < ops.length
        · rcases HST.out with h | ⟨b, off, ha, hbl, _, hc⟩
          · rw [h] at hlt; simp at hlt
          · subst ha
            have c1 := hc k hlt
            have hol : ops[k].size ≤ 1000000 := by
              have h5 := HJL.out (k + 1)
              rw [joinedTo_succ ops k hlt, List.length_append, List.length_cons, L_length] at h5
              omega
            have HS := hid (joinedTo_succ ops k hlt)
            clear hc
            by_cases hk0 : k = 0
            · subst hk0
              rw [Nat.add_zero] at c1
              go_wp2
              go_roundg (gk - 1)
              case measure => omega
              case rel => exact ⟨0 + 1, _, by omega, by go_num, rfl, by rw [HS.out, L_append, L_append, HC.out]; simp; rfl, rfl⟩
            · have kk : ((k : Int) == 0) = false := by rw [beq_eq_false_iff_ne]; omega
              go_wp2
              go_roundg (gk - 1)
              case measure => omega
              case rel => exact ⟨k + 1, _, by omega, by go_num, rfl, by rw [HS.out, L_append, L_append, HC.out, if_neg hk0]; simp; rfl, rfl⟩
        · have HE := hid (show L cur = textP ⟨L lb, L op, ops.map L⟩ by rw [HTX.out, HC.out]; unfold joinedTo; rw [List.take_of_length_le (by omega)])
          go_wp2
          go_ret
          exact ⟨cur, HE.out, rfl, (Below.refl _ _).alloc (Nat.le_refl _) _⟩

end Go.Proofs.YtcepppilgncdmaaGreatDoor
