/-
  What the document's own 'lines' (package masonref) answers: the lines of a text, or the first that may not be.
-/
import Derived.Test.YtcepppilgncdmaaGreatDoorQGoT
namespace Go.Proofs.YtcepppilgncdmaaGreatDoor
open Go.RowKit
attribute [local go_sem ↓] Go.wp_at_zero Go.wp_at_succ

def SplitB10 (l : List UInt8) (parts : List ByteArray) (fr k : Nat) : Prop :=
  (k ≤ l.length ∧ splitB 10 l = parts.map L ++ splitOn 10 ((l.take k).drop fr) (l.drop k)) ∨ (k = l.length + 1 ∧ splitB 10 l = parts.map L)
theorem SplitB10.last {A : ByteArray} {parts : List ByteArray} {fr : Nat} (h : SplitB10 (L A) parts fr A.size) : SplitB10 (L A) (parts ++ [A.extract fr A.size]) (A.size + 1) (A.size + 1) := by
  rcases h with ⟨_, h⟩ | ⟨h, _⟩
  · refine Or.inr ⟨by rw [L_length], ?_⟩
    rw [h, L_end A A.size (Nat.le_refl _), splitOn_end, List.map_append, List.map_singleton, L_extract]
  · rw [L_length] at h; omega
theorem SplitB10.hit {A : ByteArray} {parts : List ByteArray} {fr k : Nat} (h : SplitB10 (L A) parts fr k) (hk : k < A.size) (hb : (A[k].toNat : Int) = 10) : SplitB10 (L A) (parts ++ [A.extract fr k]) (k + 1) (k + 1) := by
  rcases h with ⟨_, h⟩ | ⟨h, _⟩
  · refine Or.inl ⟨by rw [L_length]; omega, ?_⟩
    have e : ((L A).take (k + 1)).drop (k + 1) = [] := List.drop_eq_nil_of_le (by rw [List.length_take]; omega)
    rw [h, L_drop A k hk, splitOn_hit _ _ _ _ hb, List.map_append, List.map_singleton, L_extract, List.append_assoc, e]
    rfl
  · rw [L_length] at h; omega
theorem SplitB10.miss {A : ByteArray} {parts : List ByteArray} {fr k : Nat} (h : SplitB10 (L A) parts fr k) (hf : fr ≤ k) (hk : k < A.size) (hb : ¬ (A[k].toNat : Int) = 10) : SplitB10 (L A) parts fr (k + 1) := by
  rcases h with ⟨_, h⟩ | ⟨h, _⟩
  · refine Or.inl ⟨by rw [L_length]; omega, ?_⟩
    rw [h, L_drop A k hk, splitOn_miss _ _ _ _ hb, take_snoc A k hk, List.drop_append_of_le_length (by rw [List.length_take, L_length]; omega)]
  · rw [L_length] at h; omega
def LinesPost (s : ByteArray) (w : World) (e : Ending) (w' : World) : Prop := Below w.heap.size w w' ∧
  ((badLine (splitB 10 (L s)) 1 ≠ 0 ∧ e = .returned (.tuple #[.slice none 0 0, .int .i64 (badLine (splitB 10 (L s)) 1 : Nat)])) ∨
    (badLine (splitB 10 (L s)) 1 = 0 ∧ ∃ v ls, e = .returned (.tuple #[v, .int .i64 0]) ∧ ls.map L = splitB 10 (L s) ∧ StrV w' w.heap.size v ls))
set_option maxRecDepth 100000 in
set_option maxHeartbeats 3200000 in
theorem lines_any (s : ByteArray) (w : World) (hs : s.size ≤ 3000) : Calls Tryz.prog 61 #[.string s] w (LinesPost s w) := by
  obtain ⟨i0, hi0, hz0, hz1, hz2⟩ := info_parts info_str
  obtain ⟨B, hB⟩ : ∃ B, w.heap.size = B := ⟨_, rfl⟩
  go_enter Tryz.func61, Tryz.ntmps61
  go_upto_block 0 with fail
  go_cut [4] (fun v wx => ∃ ls : List ByteArray, ls.map L = splitB 10 (L s) ∧ wx.ownsRow B 9 1 v ls.length (ls.map Value.string) ∧ Below B w wx)
  case first =>
    go_wp2_with fail
    go_loopw [4, 5, 6] (fun v f i wr => ∃ (k fr : Nat) (parts : List ByteArray), k ≤ s.size + 1 ∧ i = .int .i64 k ∧ f = .int .i64 fr ∧ fr ≤ k ∧ parts.length ≤ k ∧ wr.ownsRow B 9 1 v parts.length (parts.map Value.string) ∧ Below B w wr ∧ SplitB10 (L s) parts fr k) (fun _ _ i _ => s.size + 1 - (intOf i).toNat)
    case atStart => exact ⟨0, 0, [], Nat.zero_le _, rfl, rfl, Nat.le_refl _, Nat.le_refl _, World.ownsRow_nil _ _ _ _, Below.refl _ _, Or.inl ⟨Nat.zero_le _, by simp [splitOn_nil]⟩⟩
    case round =>
      obtain ⟨k, fr, parts, hk, rfl, rfl, hfk, hpk, hown, hbr, hsp⟩ := hrel
      obtain ⟨a4, k4, hv4⟩ := own_form hown
      subst hv4
      have HOWN := hid hown
      have HBR := hid hbr
      have HSP := hid hsp
      have hBr : B ≤ wr.heap.size := by rw [← hB]; exact hbr.size
      clear hown hbr hsp
      by_cases hle : k ≤ s.size
      · have kd : decide ((k : Int) ≤ s.size) = true := by simp; omega
        by_cases hhit : k = s.size ∨ ∃ h : k < s.size, (s[k].toNat : Int) = 10
        · have HSN := hid (show SplitB10 (L s) (parts ++ [s.extract fr k]) (k + 1) (k + 1) by
            rcases hhit with rfl | ⟨h1, h2⟩
            · exact HSP.out.last
            · exact HSP.out.hit h1 h2)
          have hor : ((k : Int) == s.size) = true ∨ (((k : Int) == s.size) = false ∧ ∃ h : k < s.size, ((s[k].toNat : Int) == 10) = true) := by
            rcases hhit with h | ⟨h1, h2⟩
            · exact Or.inl (by rw [beq_iff_eq]; omega)
            · exact Or.inr ⟨by rw [beq_eq_false_iff_ne]; omega, h1, by simpa using h2⟩
          have if0 : (0 : Int) ≤ (fr : Int) := Int.natCast_nonneg _
          have if1 : (fr : Int) ≤ (k : Int) := by omega
          clear hhit HSP
          rcases hor with k1 | ⟨k1, hks, k2⟩
          all_goals
            go_wp2_with (first | (at_builtin; refine wpList_append_lies _ rfl (.tmp 25) (.tmp 30) 65 rfl B 9 i0 _ 1 16 Tryz.underlying65 hi0 hz0 hz1 hz2 rfl (by omega) (.slice a4 parts.length k4) parts.length (parts.map Value.string) rfl (HOWN.out.alloc _) ⟨_, 0, none⟩ 1 1 [.string (s.extract fr k)] rfl rfl (World.news_of_block (cs := #[.string (s.extract fr k)]) (t := 9) (fr := (0, 0)) (heap_alloc_new _ _)) (by simp [Value.oneCell']) (by omega) (by unfold maxLen; omega) (by omega) (by simp; omega) _ rfl ?_; intro gg cap' w4 hown4 hgrow hat hlt4))
            have HO4 := hid hown4
            have HB4 := hid ((HBR.out.alloc hBr (.cells #[.string (s.extract fr k)] 9)).grown hgrow (by simp; omega) (fun q hq => own_ge HOWN.out hq))
            clear hown4 hgrow hat
            go_roundw
            case rel => exact ⟨k + 1, k + 1, parts ++ [s.extract fr k], by omega, by go_num, by go_num, Nat.le_refl _, by simp; omega, by simpa using HO4.out, HB4.out, HSN.out⟩
            case measure => simp [intOf]; omega
        · have hk2 : k < s.size := by
            rcases Nat.lt_or_ge k s.size with h | h
            · exact h
            · exact absurd (Or.inl (by omega)) hhit
          have hb10 : ¬ (s[k].toNat : Int) = 10 := fun h => hhit (Or.inr ⟨hk2, h⟩)
          have k1 : ((k : Int) == s.size) = false := by rw [beq_eq_false_iff_ne]; omega
          have k2 : ((s[k].toNat : Int) == 10) = false := by simpa using hb10
          have HSN := hid (HSP.out.miss hfk hk2 hb10)
          clear hhit hb10 HSP
          go_wp2_with fail
          go_roundw
          case rel => exact ⟨k + 1, fr, parts, by omega, by go_num, rfl, by omega, by omega, HOWN.out, HBR.out, HSN.out⟩
          case measure => simp [intOf]; omega
      · have kd : decide ((k : Int) ≤ s.size) = false := by simp; omega
        have HFIN := hid (show parts.map L = splitB 10 (L s) by
          rcases HSP.out with ⟨h, _⟩ | ⟨_, h⟩
          · rw [L_length] at h; omega
          · exact h.symm)
        go_wp2_with fail
        go_meet
        case rel => exact ⟨parts, HFIN.out, HOWN.out, HBR.out⟩
  case rest =>
    obtain ⟨ls, hls, hown, hbx⟩ := hcut
    obtain ⟨oa, oc, hv, hst⟩ := owns_strs hown rfl
    subst hv
    have hll : ls.length ≤ 3001 := by
      have h1 := congrArg List.length hls
      have h2 := splitB_len 10 (L s)
      rw [List.length_map] at h1
      rw [L_length] at h2
      omega
    have HSZ := hid (show ∀ j (h : j < ls.length), ls[j].size ≤ 3000 from fun j h => by
      have h1 := splitB_each 10 (L s) (L ls[j]) (by rw [← hls]; exact List.mem_map.2 ⟨_, List.getElem_mem h, rfl⟩)
      rw [L_length, L_length] at h1
      omega)
    obtain ⟨V, hV⟩ : ∃ V, badLine (splitB 10 (L s)) 1 = V := ⟨_, rfl⟩
    have HV := hid hV
    have HLS := hid hls
    have HST := hid hst
    have HBX := hid (hB ▸ hbx : Below w.heap.size w wc)
    have HBQ := hid hB
    clear hV hls hst hbx hown
    go_wp2_with fail
    go_loop [7] (fun i => ∃ k : Nat, k ≤ ls.length ∧ i = .int .i64 k ∧ V = badLine ((ls.drop k).map L) (k + 1)) (fun i => ls.length - (intOf i).toNat)
    case atStart => exact ⟨0, Nat.zero_le _, rfl, by rw [List.drop_zero, HLS.out]; exact HV.out.symm⟩
    case round =>
      obtain ⟨k, hk, rfl, ha⟩ := hrel
      have HA := hid ha
      clear ha
      by_cases hlt : k < ls.length
      · have kd : decide ((k : Int) < ls.length) = true := by simp; omega
        have ik0 : (0 : Int) ≤ (k : Int) := Int.natCast_nonneg _
        have ik1 : (k : Int) < (ls.length : Int) := by omega
        obtain ⟨bl, offl, cl, hv, hbll, ck⟩ := HST.out.cell k hlt
        injection hv with hv1 _ hv2
        subst hv1 hv2
        have hA := HA.out
        rw [badLine_at ls k hlt] at hA
        have hlz := HSZ.out k hlt
        obtain ⟨l, hl⟩ : ∃ l, ls[k] = l := ⟨_, rfl⟩
        rw [hl] at ck hA hlz
        clear hl
        by_cases h80 : 80 < l.size
        · have k8 : decide ((80 : Int) < l.size) = true := by simp; omega
          rw [if_neg (by unfold okLine; rw [L_length]; simp; omega)] at hA
          have HF := hid (show badLine (splitB 10 (L s)) 1 = k + 1 from HV.out.trans hA)
          clear hA
          go_wp2_with fail
          go_ret2
          refine ⟨HBX.out, Or.inl ⟨by rw [HF.out]; omega, by rw [HF.out]; simp⟩⟩
        · have k8 : decide ((80 : Int) < l.size) = false := by simp; omega
          have HA2 := hid hA
          clear hA
          go_wp2_with fail
          go_loop [8] (fun i => ∃ q : Nat, q ≤ l.size ∧ i = .int .i64 q ∧ ((L l).take q).all okByte = true) (fun i => l.size - (intOf i).toNat)
          case atStart => exact ⟨0, Nat.zero_le _, rfl, rfl⟩
          case round =>
            obtain ⟨q, hq, rfl, hall⟩ := hrel
            have HALL := hid hall
            clear hall
            by_cases hql : q < l.size
            · have kq : decide ((q : Int) < l.size) = true := by simp; omega
              by_cases hb : okByte l[q] = true
              · have HN := hid (show ((L l).take (q + 1)).all okByte = true by rw [take_snoc l q hql, List.all_append, HALL.out]; simp [hb])
                unfold okByte at hb
                simp only [Bool.and_eq_true, decide_eq_true_eq] at hb
                have k3 : decide ((l[q].toNat : Int) < 32) = false := by simp; omega
                have k4 : decide ((126 : Int) < (l[q].toNat : Int)) = false := by simp; omega
                clear hb
                go_wp2_with fail
                go_round
                case rel => exact ⟨q + 1, by omega, by go_num, HN.out⟩
                case measure => simp [intOf]; omega
              · have hnk : okLine (L l) = false := by
                  unfold okLine
                  rw [Bool.and_eq_false_iff]
                  right
                  rw [List.all_eq_false]
                  exact ⟨l[q], by have := L_drop l q hql; exact List.mem_of_mem_drop (by rw [this]; simp), hb⟩
                have hA := HA2.out
                rw [if_neg (by simp [hnk])] at hA
                have HF := hid (show badLine (splitB 10 (L s)) 1 = k + 1 from HV.out.trans hA)
                have hor : decide ((l[q].toNat : Int) < 32) = true ∨ (decide ((l[q].toNat : Int) < 32) = false ∧ decide ((126 : Int) < (l[q].toNat : Int)) = true) := by
                  unfold okByte at hb
                  simp only [Bool.and_eq_true, decide_eq_true_eq] at hb
                  by_cases h3 : (l[q].toNat : Int) < 32
                  · exact Or.inl (by simpa using h3)
                  · exact Or.inr ⟨by simpa using h3, by simp; omega⟩
                clear hA hnk hb
                rcases hor with k3 | ⟨k3, k4⟩
                all_goals
                  go_wp2_with fail
                  go_ret2
                  exact ⟨HBX.out, Or.inl ⟨by rw [HF.out]; omega, by rw [HF.out]; simp⟩⟩
            · have kq : decide ((q : Int) < l.size) = false := by simp; omega
              have HN := hid (show V = badLine ((ls.drop (k + 1)).map L) (k + 1 + 1) by
                have h9 := HA2.out
                rw [if_pos (by
                  unfold okLine
                  rw [Bool.and_eq_true]
                  refine ⟨by rw [L_length]; simp; omega, ?_⟩
                  have h8 := HALL.out
                  rwa [List.take_of_length_le (by rw [L_length]; omega)] at h8)] at h9
                exact h9)
              go_wp2_with fail
              go_round
              case rel => exact ⟨k + 1, by omega, by go_num, HN.out⟩
              case measure => simp [intOf]; omega
      · have kd : decide ((k : Int) < ls.length) = false := by simp; omega
        have HF := hid (show badLine (splitB 10 (L s)) 1 = 0 by
          rw [HV.out, HA.out, List.drop_eq_nil_of_le (by omega)]
          rfl)
        go_wp2_with fail
        go_ret2
        refine ⟨HBX.out, Or.inr ⟨HF.out, _, ls, rfl, HLS.out, ?_⟩⟩
        rw [HBQ.out]
        exact HST.out

end Go.Proofs.YtcepppilgncdmaaGreatDoor
