/-
  The book of lists that came out (package masonlaw): 'looks', where only lines were kept.
  What the document's own functions of lines and words (package masonref) answer, said by the plain functions.
  What the document's own 'words' (package masonref) answers: the words of a line, as the plain function 'wordsP' has them.
  What the document's own 'text' and 'lines' (package masonref) answer, said by the plain functions.
  What of the memory a function of the document's own package may turn: rows of the types E at or behind a place, and of the types R those that are listed.
  What the document's own reader (package masonref) holds in memory, and what its small functions answer.
  What a block of lines of the document's own package (masonref) holds in memory, and what its functions of conditions answer.
-/
import Derived.Test.YtcepppilgncdmaaGreatDoorBE10
import Derived.LoopN
import Derived.Test.YtcepppilgncdmaaGreatDoorBE03
import Derived.Test.YtcepppilgncdmaaGreatDoorBE06
import Derived.OwnWalk
import Derived.Deep.QuietTactic
import Derived.BigQuiet
import Derived.Deep.CutBlock
import Derived.Deep.DeepCutAuto
import Derived.Deep.LoopGhost
import Derived.Deep.RegionHeld3
import Derived.Deep.RegionLaw
import Derived.Deep.DrawnRows
import Derived.Test.YtcepppilgncdmaaGreatDoorBE07
import Derived.Test.YtcepppilgncdmaaGreatDoorBE08
import Derived.Test.YtcepppilgncdmaaGreatDoorBE04
namespace Go.Proofs.YtcepppilgncdmaaGreatDoor
open Go.RowKit

theorem reps_get {mk : List Value} (hm : mk.length = 4) : ∀ (k j r : Nat), j < k → r < 4 → (reps mk k)[j * 4 + r]? = mk[r]? := by
  intro k
  induction k with
  | zero => intro j r h; omega
  | succ k ih =>
    intro j r hj hr
    have hl := reps_length mk k
    rw [hm] at hl
    rw [reps]
    by_cases h : j < k
    · rw [List.getElem?_append_left (by omega)]
      exact ih j r h hr
    · have hjk : j = k := by omega
      subst hjk
      rw [List.getElem?_append_right (by omega), hl, Nat.add_sub_cancel_left]

theorem kept_form {w : World} {B i : Nat} {us : List Value} (h : KeptAt w B us) (hi : i < us.length) : ∃ a n c, us[i] = .slice a n c ∧ n ≤ maxLen ∧ (n = 0 ∨ ∃ g, a = some ⟨g, 0, none⟩ ∧ ∀ j, j < n → w.cell? ⟨g, j * 4, none⟩ = some (.string ⟨#[]⟩) ∧ w.cell? ⟨g, j * 4 + 1, none⟩ = some (.int .i64 (-1000 - ((i / 4 : Nat) : Int))) ∧ w.cell? ⟨g, j * 4 + 2, none⟩ = some (.int .i64 0) ∧ w.cell? ⟨g, j * 4 + 3, none⟩ = some (.int .i64 0)) := by
  obtain ⟨k, h1, _⟩ := h i us[i] (List.getElem?_eq_getElem hi)
  rcases h1.2 with ⟨h2, rfl⟩ | ⟨g, cap, cur, h2, h3, h4, h5, h6, h7, h8⟩
  · exact ⟨none, 0, 0, h2, Nat.zero_le _, Or.inl rfl⟩
  · refine ⟨_, _, _, h2, Nat.le_trans h5 h6, Or.inr ⟨g, rfl, fun j hj => ?_⟩⟩
    rw [h2] at h1
    rw [h1.cellAt (j * 4) (by omega), h1.cellAt (j * 4 + 1) (by omega), h1.cellAt (j * 4 + 2) (by omega), h1.cellAt (j * 4 + 3) (by omega), reps_get rfl k j 1 hj (by omega), reps_get rfl k j 2 hj (by omega), reps_get rfl k j 3 hj (by omega)]
    exact ⟨reps_get rfl k j 0 hj (by omega), rfl, rfl, rfl⟩

set_option maxRecDepth 100000 in
set_option maxHeartbeats 800000 in
theorem looks_any (w : World) (lo B kb : Nat) (vb : Value) (us : List Value) (hbk : BookAt w lo B kb vb (.slice none 0 0) (.slice none 0 0) us) (hN : us.length ≤ maxLen) :
    Calls Tryz.prog 19 #[.pointer (some ⟨kb, 0, none⟩)] w fun e w' => e = .returned (.bool true) ∧ w' = w := by
  have c0 : w.cell? ⟨kb, 0, none⟩ = some vb := hbk.row.cell 0 (by simp)
  have c1 : w.cell? ⟨kb, 1, none⟩ = some (.slice none 0 0) := hbk.row.cell 1 (by simp)
  have c2 : w.cell? ⟨kb, 2, none⟩ = some (.slice none 0 0) := hbk.row.cell 2 (by simp)
  have hv : ∃ ab cb, vb = .slice ab us.length cb ∧ (us.length = 0 ∨ ∃ g, ab = some ⟨g, 0, none⟩ ∧ ∀ i (h : i < us.length), w.cell? ⟨g, i, none⟩ = some us[i]) := by
    have ho := hbk.own
    rcases ho.2 with ⟨h2, h0⟩ | ⟨g, cap', cur, h2, _⟩
    · exact ⟨none, 0, by rw [h2, h0], Or.inl h0⟩
    · refine ⟨_, _, h2, Or.inr ⟨g, rfl, fun i hi => ?_⟩⟩
      rw [h2] at ho
      rw [ho.cellAt i (by omega), List.getElem?_eq_getElem hi]
  obtain ⟨ab, cb, rfl, hcs⟩ := hv
  obtain ⟨N, hNe⟩ : ∃ N, us.length = N := ⟨_, rfl⟩
  rw [hNe] at c0
  have hN2 : N ≤ maxLen := by omega
  unfold maxLen at hN2
  have HCS := hid hcs
  have HKP := hid hbk.kept
  clear hcs hbk
  go_enter Tryz.func19, Tryz.ntmps19
  go_wp2_with fail
  go_loopw [3] (fun i wr => ∃ t : Nat, t ≤ N ∧ i = .int .i64 t ∧ wr = w) (fun i _ => N - (intOf i).toNat)
  case atStart => exact ⟨0, Nat.zero_le _, rfl, rfl⟩
  case round =>
    obtain ⟨t, ht, rfl, rfl⟩ := hrel
    by_cases hlt : t < N
    · have d1 : decide ((t : Int) < (N : Int)) = true := by simp; omega
      obtain ⟨q, hq⟩ : ∃ q, t / 4 = q := ⟨_, rfl⟩
      have hq1 : Int.tdiv (t : Int) 4 = (q : Int) := by rw [Int.tdiv_eq_ediv_of_nonneg (by omega)]; omega
      rcases HCS.out with h0 | ⟨gb, rfl, hcs⟩
      · omega
      · have e0 := hcs t (by omega)
        clear hcs
        obtain ⟨a, n, c, hu, hn, hm⟩ := kept_form HKP.out (i := t) (by omega)
        rw [hu] at e0
        rw [hq] at hm
        have HM := hid hm
        unfold maxLen at hn
        clear hm hu
        go_wp2_with fail
        go_loopw [4] (fun i wx => ∃ s : Nat, s ≤ n ∧ i = .int .i64 s ∧ wx = wr) (fun i _ => n - (intOf i).toNat)
        case atStart => exact ⟨0, Nat.zero_le _, rfl, rfl⟩
        case round =>
          obtain ⟨s, hs, rfl, rfl⟩ := hrel
          by_cases hls : s < n
          · have d2 : decide ((s : Int) < (n : Int)) = true := by simp; omega
            rcases HM.out with h0 | ⟨g, rfl, hm⟩
            · omega
            · obtain ⟨m0, m1, m2, m3⟩ := hm s hls
              clear hm
              go_wp2_with fail
              go_roundw
              case rel => exact ⟨s + 1, by omega, by go_num, by trivial⟩
              case measure => simp [intOf]; omega
          · have d2 : decide ((s : Int) < (n : Int)) = false := by simp; omega
            go_wp2_with fail
            go_roundw
            case rel => exact ⟨t + 1, by omega, by go_num, by trivial⟩
            case measure => simp [intOf]; omega
    · have d1 : decide ((t : Int) < (N : Int)) = false := by simp; omega
      go_wp2
      refine wp_loop_rounds 1 ?_
      rw [rounds_succ]
      go_wp2
      refine wp_loop_rounds 1 ?_
      rw [rounds_succ]
      go_wp2
      go_ret
      exact ⟨rfl, rfl⟩

end Go.Proofs.YtcepppilgncdmaaGreatDoor

namespace Go.Proofs.YtcepppilgncdmaaGreatDoor
open Go.RowKit

theorem cutL_hit (s : ByteArray) (k : Nat) (h : k < s.size) (hb : (s[k].toNat : Int) = 59) : cutL ((L s).drop k) = [] := by
  rw [L_drop s k h]; simp [cutL, hb]
theorem cutL_miss (s : ByteArray) (k : Nat) (h : k < s.size) (hb : ¬ (s[k].toNat : Int) = 59) : cutL ((L s).drop k) = s[k] :: cutL ((L s).drop (k + 1)) := by
  rw [L_drop s k h]; simp [cutL, hb]
theorem take_snoc (s : ByteArray) (k : Nat) (h : k < s.size) : (L s).take (k + 1) = (L s).take k ++ [s[k]] := by
  have hl : k < (L s).length := by rw [L_length]; exact h
  rw [List.take_succ_eq_append_getElem hl]; rfl

set_option maxHeartbeats 400000 in
theorem cut_any (s : ByteArray) (w : World) (hs : s.size ≤ maxLen) :
    Calls Tryz.prog 88 #[.string s] w fun e w' => ∃ t, L t = cutL (L s) ∧ t.size ≤ s.size ∧ e = .returned (.string t) ∧ w' = w := by
  unfold maxLen at hs
  go_enter Tryz.func88, Tryz.ntmps88
  go_wp2
  go_loop [3] (fun i => ∃ k : Nat, k ≤ s.size ∧ i = .int .i64 k ∧ cutL (L s) = (L s).take k ++ cutL ((L s).drop k)) (fun i => s.size - (intOf i).toNat)
  case atStart => exact ⟨0, Nat.zero_le _, rfl, by simp⟩
  case round =>
    obtain ⟨k, hk, rfl, ha⟩ := hrel
    have HA := hid ha
    clear ha
    by_cases hlt : k < s.size
    · by_cases hb : (s[k].toNat : Int) = 59
      · have kb : ((s[k].toNat : Int) == 59) = true := by simpa using hb
        have HC := hid (show L (s.extract 0 k) = cutL (L s) by rw [HA.out, cutL_hit s k hlt hb, L_prefix, List.append_nil])
        clear hb
        go_wp2
        go_ret
        exact ⟨_, HC.out, by rw [ByteArray.size_extract]; omega, rfl, rfl⟩
      · have kb : ((s[k].toNat : Int) == 59) = false := by simpa using hb
        have HC := hid (show cutL (L s) = (L s).take (k + 1) ++ cutL ((L s).drop (k + 1)) by rw [HA.out, cutL_miss s k hlt hb, take_snoc s k hlt, List.append_assoc]; rfl)
        clear hb
        go_wp2
        go_round
        case rel => exact ⟨k + 1, by omega, by go_num, HC.out⟩
        case measure => simp [intOf]; omega
    · have HC := hid (show L s = cutL (L s) by rw [HA.out, L_end s k (by omega), List.take_of_length_le (by rw [L_length]; omega)]; simp [cutL])
      go_wp2
      go_ret
      exact ⟨_, HC.out, Nat.le_refl _, rfl, rfl⟩

theorem blanks_at (s : ByteArray) (k : Nat) (h : k < s.size) (hb : (s[k].toNat : Int) = 32) : blanks ((L s).drop k) = blanks ((L s).drop (k + 1)) + 1 := by
  rw [L_drop s k h]; simp [blanks, hb]
theorem blanks_no (s : ByteArray) (k : Nat) (h : k < s.size) (hb : ¬ (s[k].toNat : Int) = 32) : blanks ((L s).drop k) = 0 := by
  rw [L_drop s k h]; simp [blanks, hb]
theorem solid_at (s : ByteArray) (k : Nat) (h : k < s.size) (hb : ¬ (s[k].toNat : Int) = 32) : solid ((L s).drop k) = solid ((L s).drop (k + 1)) + 1 := by
  rw [L_drop s k h]; simp [solid, hb]
theorem solid_no (s : ByteArray) (k : Nat) (h : k < s.size) (hb : (s[k].toNat : Int) = 32) : solid ((L s).drop k) = 0 := by
  rw [L_drop s k h]; simp [solid, hb]

set_option maxHeartbeats 800000 in
theorem first2_any (s : ByteArray) (w : World) (hs : s.size ≤ maxLen) :
    Calls Tryz.prog 94 #[.string s] w fun e w' => ∃ a r, L a = wordOf (L s) ∧ L r = restOf (L s) ∧ a.size ≤ s.size ∧ r.size ≤ s.size ∧ e = .returned (.tuple #[.string a, .string r]) ∧ Below w.heap.size w w' := by
  unfold maxLen at hs
  obtain ⟨i, hi⟩ : ∃ i, blanks (L s) = i := ⟨_, rfl⟩
  obtain ⟨n, hn⟩ : ∃ n, solid ((L s).drop i) = n := ⟨_, rfl⟩
  have hil := blanks_le (L s)
  have hnl := solid_le ((L s).drop i)
  rw [hi, L_length] at hil
  rw [hn, List.length_drop, L_length] at hnl
  have HW := hid (show wordOf (L s) = ((L s).drop i).take n by unfold wordOf; rw [hi, hn])
  have HR := hid (show restOf (L s) = (L s).drop (i + n) by unfold restOf; rw [hi, hn])
  have HI := hid hi
  have HN := hid hn
  clear hi hn
  go_enter Tryz.func94, Tryz.ntmps94
  go_wp2
  go_loop [4] (fun x => ∃ k : Nat, k ≤ i ∧ x = .int .i64 k ∧ i = k + blanks ((L s).drop k)) (fun x => s.size - (intOf x).toNat)
  case atStart => exact ⟨0, Nat.zero_le _, rfl, by rw [List.drop_zero, HI.out]; omega⟩
  case round =>
    obtain ⟨k, hk, rfl, ha⟩ := hrel
    have HA := hid ha
    clear ha
    by_cases hlt : k < i
    · have hlt' : k < s.size := by omega
      have hb : (s[k].toNat : Int) = 32 := by
        rcases Int.decEq (s[k].toNat : Int) 32 with h | h
        · have := blanks_no s k hlt' h; have := HA.out; omega
        · exact h
      have HS := hid (blanks_at s k hlt' hb)
      have kb : ((s[k].toNat : Int) == 32) = true := by simpa using hb
      have kd : decide ((k : Int) < s.size) = true := by simp; omega
      clear hb
      go_wp2
      go_round
      case rel => exact ⟨k + 1, by omega, by go_num, by have := HA.out; rw [HS.out] at this; omega⟩
      case measure => simp [intOf]; omega
    · have hki : k = i := by omega
      subst hki
      have hstop : s.size ≤ k ∨ (decide ((k : Int) < s.size) = true ∧ ∃ h : k < s.size, ((s[k].toNat : Int) == 32) = false) := by
        by_cases h : k < s.size
        · refine Or.inr ⟨by simpa using h, h, ?_⟩
          rw [beq_eq_false_iff_ne]
          intro hb
          have := blanks_at s k h hb
          have := HA.out
          omega
        · exact Or.inl (by omega)
      clear hlt HA HI
      rcases hstop with kd | ⟨kd, hks, kb⟩
      all_goals
        go_wp2
        go_loop [5] (fun x => ∃ m : Nat, m ≤ n ∧ x = .int .i64 ((k + m : Nat) : Int) ∧ n = m + solid ((L s).drop (k + m))) (fun x => s.size - (intOf x).toNat)
        case atStart => exact ⟨0, Nat.zero_le _, by go_num, by rw [Nat.add_zero, HN.out]; omega⟩
        case round =>
          obtain ⟨m, hm, rfl, ha⟩ := hrel
          have HA := hid ha
          clear ha
          obtain ⟨j, hj⟩ : ∃ j, k + m = j := ⟨_, rfl⟩
          rw [hj]
          by_cases hlt : m < n
          · have hlt' : j < s.size := by omega
            have hb : ¬ (s[j].toNat : Int) = 32 := by
              intro h
              have := solid_no s j hlt' h; have h2 := HA.out; rw [hj] at h2; omega
            have HS := hid (solid_at s j hlt' hb)
            have kb2 : ((s[j].toNat : Int) != 32) = true := by simpa using hb
            have kd2 : decide ((j : Int) < s.size) = true := by simp; omega
            clear hb
            have HJ := hid hj
            clear hj
            go_wp2
            go_round
            case rel => exact ⟨m + 1, by omega, by have := HJ.out; go_num, by have h1 := HA.out; have h2 := HJ.out; rw [h2, HS.out] at h1; rw [show k + (m + 1) = j + 1 from by omega]; omega⟩
            case measure => simp [intOf]; omega
          · have hmn : m = n := by omega
            subst hmn
            have hstop : s.size ≤ j ∨ (decide ((j : Int) < s.size) = true ∧ ∃ h : j < s.size, ((s[j].toNat : Int) != 32) = false) := by
              by_cases h : j < s.size
              · refine Or.inr ⟨by simpa using h, h, ?_⟩
                rw [bne_eq_false_iff_eq]
                rcases Int.decEq (s[j].toNat : Int) 32 with hb | hb
                · have := solid_at s j h hb
                  have h2 := HA.out
                  rw [hj] at h2
                  omega
                · exact hb
              · exact Or.inl (by omega)
            have b1 : (0 : Int) ≤ k := Int.natCast_nonneg _
            have b2 : (k : Int) ≤ j := by omega
            have b3 : (j : Int) ≤ s.size := by omega
            have HJ := hid hj
            clear hj hlt HA HN
            rcases hstop with kd3 | ⟨kd3, hjs, kb3⟩
            all_goals
              go_wp2
              go_quiet (fail)
              go_wp2
              go_ret2
              exact ⟨s.extract k j, s.extract j s.size, by rw [HW.out, ← HJ.out, L_extract, List.take_drop], by rw [HR.out, HJ.out, L_suffix], by rw [ByteArray.size_extract]; omega, by rw [ByteArray.size_extract]; omega, rfl, below_drewN (Below.refl _ _) _⟩

end Go.Proofs.YtcepppilgncdmaaGreatDoor

namespace Go.Proofs.YtcepppilgncdmaaGreatDoor
open Go.RowKit
attribute [local go_sem ↓] Go.wp_at_zero Go.wp_at_succ

theorem last_of (a : ByteArray) (h : 0 < a.size) : (L a).getLastD 0 = a[a.size - 1] := by
  have h1 := L_drop a (a.size - 1) (by omega)
  rw [L_end a (a.size - 1 + 1) (by omega)] at h1
  have h2 := List.take_append_drop (a.size - 1) (L a)
  rw [h1] at h2
  rw [← h2, List.getLastD_eq_getLast?]
  simp
theorem but_last (a : ByteArray) : L (a.extract 0 (a.size - 1)) = (L a).dropLast := by
  rw [L_prefix, List.dropLast_eq_take, L_length]

/-- Three cells of words: nothing yet. -/
def noWords : List Value := [.string ⟨#[]⟩, .string ⟨#[]⟩, .slice none 0 0]

theorem infoString : (Tryz.prog.info? 9).map (fun i => (i.zero, i.size, i.bytes)) = some (some (.string ⟨#[]⟩), 1, 16) := by kernel_rfl

theorem own_ne {w : World} {e size n b : Nat} {v : Value} {xs : List Value} (h : w.ownsRow (b + 1) e size v n xs) : some b ≠ v.ownBlock := by
  rcases h.2 with ⟨rfl, _⟩ | ⟨g, cap, cur, rfl, hg, _⟩
  · intro h; cases h
  · intro h
    have : some b = some g := h
    injection this with this
    omega

theorem own_ge {w : World} {base e size n k : Nat} {v : Value} {xs : List Value} (h : w.ownsRow base e size v n xs) (hk : v.ownBlock = some k) : base ≤ k := by
  rcases h.2 with ⟨rfl, _⟩ | ⟨g, cap, cur, rfl, hg, _⟩
  · cases hk
  · have : some g = some k := hk
    injection this with this
    omega
theorem RowT.grown {w w' : World} {t g : Nat} {xs : List Value} {row : Option Nat} (h : RowT w t g xs) (hg : w.grownBy w' row) (hr : row ≠ some g) : RowT w' t g xs := by
  have hl := h.lt
  unfold RowT at h ⊢
  rw [hg.block g hl (fun e => hr e.symm)]; exact h
theorem owns_strs {w : World} {base n : Nat} {v : Value} {ss : List ByteArray} (h : w.ownsRow base 9 1 v n (ss.map Value.string)) (hn : n = ss.length) : ∃ oa oc, v = .slice oa n oc ∧ StrV w base v ss := by
  subst hn
  rcases h.2 with ⟨rfl, h0⟩ | ⟨g, cap, cur, rfl, hg, hh, hc, _⟩
  · exact ⟨none, 0, by rw [h0], Or.inl ⟨rfl, List.eq_nil_of_length_eq_zero h0⟩⟩
  · refine ⟨some ⟨g, 0, none⟩, cap, rfl, Or.inr ⟨g, 0, cap, cur, rfl, hg, hh, hc, fun i hi => ?_⟩⟩
    have hx := h.cellAt i (by omega)
    rw [List.getElem?_map, List.getElem?_eq_getElem hi] at hx
    simp only [World.cell?, hh] at hx
    rw [Nat.zero_add]
    simpa using hx
/-- A store into a block that is no new one leaves the list of texts. -/
theorem StrV.past {B b0 : Nat} {w : World} {v : Value} {ss : List ByteArray} {u0 u1 u2 : Value} (h : StrV w (B + 2) v ss) : StrV (((w.setCell ⟨B, b0, none⟩ u0).setCell ⟨B, 1, none⟩ u1).setCell ⟨B, 2, none⟩ u2) B v ss := by
  rcases h with h | ⟨b, off, cap, cur, h1, h2, h3, h4⟩
  · exact Or.inl h
  · refine Or.inr ⟨b, off, cap, cur, h1, by omega, ?_, h4⟩
    rw [heap_setCell_other _ ⟨B, 2, none⟩ b _ (by show b ≠ B; omega), heap_setCell_other _ ⟨B, 1, none⟩ b _ (by show b ≠ B; omega), heap_setCell_other _ ⟨B, b0, none⟩ b _ (by show b ≠ B; omega)]
    exact h3

/-- The parts so far, the next of which begins at fr, of a text that is read up to k. -/
def SplitAt (l : List UInt8) (parts : List ByteArray) (fr k : Nat) : Prop :=
  (k ≤ l.length ∧ splitB 44 l = parts.map L ++ splitOn 44 ((l.take k).drop fr) (l.drop k)) ∨ (k = l.length + 1 ∧ splitB 44 l = parts.map L)

theorem SplitAt.last {A : ByteArray} {parts : List ByteArray} {fr : Nat} (h : SplitAt (L A) parts fr A.size) : SplitAt (L A) (parts ++ [A.extract fr A.size]) (A.size + 1) (A.size + 1) := by
  rcases h with ⟨_, h⟩ | ⟨h, _⟩
  · refine Or.inr ⟨by rw [L_length], ?_⟩
    rw [h, L_end A A.size (Nat.le_refl _), splitOn_end, List.map_append, List.map_singleton, L_extract]
  · rw [L_length] at h; omega
theorem SplitAt.hit {A : ByteArray} {parts : List ByteArray} {fr k : Nat} (h : SplitAt (L A) parts fr k) (hk : k < A.size) (hb : (A[k].toNat : Int) = 44) : SplitAt (L A) (parts ++ [A.extract fr k]) (k + 1) (k + 1) := by
  rcases h with ⟨_, h⟩ | ⟨h, _⟩
  · refine Or.inl ⟨by rw [L_length]; omega, ?_⟩
    have e : ((L A).take (k + 1)).drop (k + 1) = [] := List.drop_eq_nil_of_le (by rw [List.length_take]; omega)
    rw [h, L_drop A k hk, splitOn_hit _ _ _ _ hb, List.map_append, List.map_singleton, L_extract, List.append_assoc, e]
    rfl
  · rw [L_length] at h; omega
theorem SplitAt.miss {A : ByteArray} {parts : List ByteArray} {fr k : Nat} (h : SplitAt (L A) parts fr k) (hf : fr ≤ k) (hk : k < A.size) (hb : ¬ (A[k].toNat : Int) = 44) : SplitAt (L A) parts fr (k + 1) := by
  rcases h with ⟨_, h⟩ | ⟨h, _⟩
  · refine Or.inl ⟨by rw [L_length]; omega, ?_⟩
    rw [h, L_drop A k hk, splitOn_miss _ _ _ _ hb, take_snoc A k hk, List.drop_append_of_le_length (by rw [List.length_take, L_length]; omega)]
  · rw [L_length] at h; omega

set_option maxRecDepth 100000 in
set_option maxHeartbeats 1000000 in
theorem words_any (s : ByteArray) (w : World) (hs : s.size ≤ 1000000) :
    Calls Tryz.prog 63 #[.string s] w fun e w' => ∃ (lb op : ByteArray) (oa : Option Addr) (oc : Nat) (ops : List ByteArray), e = .returned (.agg #[.string lb, .string op, .slice oa ops.length oc]) ∧
      PartsV w' w.heap.size lb op (.slice oa ops.length oc) ops (wordsP (L s)) ∧ Below w.heap.size w w' := by
  have hs2 : s.size ≤ maxLen := by unfold maxLen; omega
  go_enter Tryz.func63, Tryz.ntmps63
  go_upto_region 3 with (first | (go_at_call 94; refine (first2_any s _ hs2).mono ?_; rintro e w1 ⟨a, r, ha, hr, has, hrs, rfl, hb1⟩))
  have HR0 := hid (((RowT.new w 134 noWords).alloc _).below hb1)
  have HR1 := hid ((RowT.new (w.alloc (.cells noWords.toArray 134)) 134 noWords).below hb1)
  rw [show (w.alloc (.cells noWords.toArray 134)).heap.size = w.heap.size + 1 from by simp] at HR1
  have HB1 := hid (((((Below.refl w.heap.size w).alloc (Nat.le_refl _) _).alloc (by simp) _).trans (hb1.mono (by simp; omega))))
  have HA := hid ha
  have HRR := hid hr
  have hz1 : w.heap.size + 1 < w1.heap.size := HR1.out.lt
  clear hb1 ha hr
  obtain ⟨B, hB⟩ : ∃ B, w.heap.size = B := ⟨_, rfl⟩
  rw [hB] at HR0 HR1 HB1 hz1 ⊢
  have HBQ := hid hB
  clear hB
  obtain ⟨cb, hcb⟩ : ∃ cb : Bool, (decide (1 < (L a).length) && decide ((((L a).getLastD 0).toNat : Int) = 58)) = cb := ⟨_, rfl⟩
  have HCB := hid hcb
  clear hcb
  go_cut [27] (fun c wx => c = .bool cb ∧ wx = w1)
  case first =>
    by_cases h1 : 1 < a.size
    · by_cases h58 : (a[a.size - 1].toNat : Int) = 58
      · have hc : true = cb := by rw [← HCB.out, last_of a (by omega), L_length, decide_eq_true h1, decide_eq_true h58]; rfl
        have k58 : ((a[a.size - 1].toNat : Int) == 58) = true := by simpa using h58
        subst hc
        clear h58
        go_wp2
        go_meet
        case rel => exact ⟨rfl, rfl⟩
      · have hc : false = cb := by rw [← HCB.out, last_of a (by omega), L_length, decide_eq_false h58, Bool.and_false]
        have k58 : ((a[a.size - 1].toNat : Int) == 58) = false := by simpa using h58
        subst hc
        clear h58
        go_wp2
        go_meet
        case rel => exact ⟨rfl, rfl⟩
    · have hc : false = cb := by rw [← HCB.out, L_length, decide_eq_false h1, Bool.false_and]
      subst hc
      go_wp2
      go_meet
      case rel => exact ⟨rfl, rfl⟩
  case rest =>
    obtain ⟨rfl, rfl⟩ := hcut
    go_upto_if 27 with fail
    go_cut [4, 5] (fun x y wx => ∃ lb op r', x = .string op ∧ y = .string r' ∧ r'.size ≤ s.size ∧ L lb = (wordsP (L s)).label ∧ L op = (wordsP (L s)).op ∧ operandsOf (L r') = (wordsP (L s)).operands ∧ RowT wx 134 (B + 1) [.string lb, .string ⟨#[]⟩, .slice none 0 0] ∧ RowT wx 134 B noWords ∧ Below B w wx)
    case first =>
      cases cb with
      | false =>
        have HL := hid (show labelB (wordOf (L s)) = false by unfold labelB; rw [← HA.out, HCB.out, Bool.false_and])
        go_wp2
        go_meet
        case rel => exact ⟨⟨#[]⟩, a, r, rfl, rfl, hrs, by unfold wordsP; rw [HL.out]; rfl, by unfold wordsP; rw [HL.out]; exact HA.out, by unfold wordsP; rw [HL.out, HRR.out]; rfl, HR1.out, HR0.out, HB1.out⟩
      | true =>
        have ha1 : 1 < a.size := by
          have := HCB.out
          rw [Bool.and_eq_true, decide_eq_true_eq, L_length] at this
          exact this.1
        have hex : (a.extract 0 (a.size - 1)).size ≤ maxLen := by rw [ByteArray.size_extract]; unfold maxLen; omega
        have HBL := hid (but_last a)
        obtain ⟨nb, hnb⟩ : ∃ nb, nameB (L (a.extract 0 (a.size - 1))) = nb := ⟨_, rfl⟩
        have HNB := hid hnb
        have HLB := hid (show labelB (wordOf (L s)) = nb by unfold labelB; rw [← HA.out, HCB.out, Bool.true_and, ← HBL.out]; exact hnb)
        clear hnb
        have c0 := HR1.out.cell 0 (by decide)
        have f0 := HR1.out.free 0
        cases nb with
        | false =>
          go_wp2_with (first | (go_at_call 58; refine (refName_any _ _ hex).mono ?_; rw [HNB.out]; rintro e wn ⟨rfl, rfl⟩))
          go_meet
          case rel => exact ⟨⟨#[]⟩, a, r, rfl, rfl, hrs, by unfold wordsP; rw [HLB.out]; rfl, by unfold wordsP; rw [HLB.out]; exact HA.out, by unfold wordsP; rw [HLB.out, HRR.out]; rfl, HR1.out, HR0.out, HB1.out⟩
        | true =>
          have hr2 : r.size ≤ maxLen := by unfold maxLen; omega
          have HRN := hid (HR1.out.set 0 (.string (a.extract 0 (a.size - 1))))
          have HRM := hid (HR0.out.other (B + 1) 0 (by omega) (.string (a.extract 0 (a.size - 1))))
          go_wp2_with (first | (go_at_call 58; refine (refName_any _ _ hex).mono ?_; rw [HNB.out]; rintro e wn ⟨rfl, rfl⟩) | (go_at_call 94; refine (first2_any r _ hr2).mono ?_; rintro e w2 ⟨a2, r2, ha2, hr2', has2, hrs2, rfl, hb2⟩))
          go_meet
          case rel => exact ⟨a.extract 0 (a.size - 1), a2, r2, rfl, rfl, by omega, by unfold wordsP; rw [HLB.out, but_last, HA.out]; rfl, by unfold wordsP; rw [HLB.out, ha2, HRR.out]; rfl, by unfold wordsP; rw [HLB.out, hr2', HRR.out]; rfl, HRN.out.below hb2, HRM.out.below hb2, (HB1.out.setCell (by show B ≤ B + 1; omega) _).trans (hb2.mono (by simp [World.setCell]; omega))⟩
    case rest =>
      obtain ⟨lb, op, r', rfl, rfl, hr's, hlb, hop, hopr, hrow1, hrow0, hbx⟩ := hcut
      have HLBL := hid hlb
      have HOP := hid hop
      have HOPR := hid hopr
      have q1 := hrow1.cell 1 (by simp)
      have g1 := hrow1.free 1
      have HW1 := hid (show RowT _ 134 (B + 1) [.string lb, .string op, .slice none 0 0] from hrow1.set 1 (.string op))
      have HW0 := hid (hrow0.other (B + 1) 1 (by omega) (.string op))
      have HBX := hid (hbx.setCell (p := ⟨B + 1, 1, none⟩) (by show B ≤ B + 1; omega) (.string op))
      clear hlb hop hopr hrow1 hrow0 hbx HA HRR HR0 HR1 HB1 HCB
      go_upto_block 0 with fail
      clear q1 g1
      generalize wc.setCell ⟨B + 1, 1, none⟩ (.string op) = wd at *
      go_cut [7] (fun x wx => ∃ A : ByteArray, x = .string A ∧ A.size ≤ r'.size ∧ L A = noBlank (L r') ∧ wx = wd)
      case first =>
        go_wp2_with fail
        go_loopg [7, 8] r'.size (fun q x i wr => ∃ (k : Nat) (A : ByteArray), q + k = r'.size ∧ i = .int .i64 k ∧ x = .string A ∧ A.size ≤ k ∧ L A = noBlank ((L r').take k) ∧ wr = wd)
        case atStart => exact ⟨0, ⟨#[]⟩, rfl, rfl, rfl, Nat.zero_le _, rfl, rfl⟩
        case round =>
          obtain ⟨k, A, hq, rfl, rfl, hAk, hA, rfl⟩ := hrel
          have HAA := hid hA
          clear hA
          by_cases hlt : k < r'.size
          · by_cases h32 : (r'[k].toNat : Int) = 32
            · have k32 : ((r'[k].toNat : Int) != 32) = false := by simpa using h32
              have HN := hid (show L A = noBlank ((L r').take (k + 1)) by rw [take_snoc r' k hlt, HAA.out]; simp [noBlank, h32])
              clear h32
              go_wp2
              go_roundg (gk - 1)
              case measure => omega
              case rel => exact ⟨k + 1, A, by omega, by go_num, rfl, by omega, HN.out, rfl⟩
            · have k32 : ((r'[k].toNat : Int) != 32) = true := by simpa using h32
              have HN := hid (show L (A ++ r'.extract k (k + 1)) = noBlank ((L r').take (k + 1)) by
                rw [L_append, take_snoc r' k hlt, L_extract, HAA.out]
                have e : ((L r').take (k + 1)).drop k = [r'[k]] := by
                  rw [take_snoc r' k hlt, List.drop_append_of_le_length (by rw [List.length_take, L_length]; omega), List.drop_eq_nil_of_le (by rw [List.length_take, L_length]; omega)]; rfl
                rw [e]; simp [noBlank, h32])
              clear h32
              go_wp2
              go_roundg (gk - 1)
              case measure => omega
              case rel => exact ⟨k + 1, A ++ r'.extract k (k + 1), by omega, by go_num, rfl, by rw [ByteArray.size_append, ByteArray.size_extract]; omega, HN.out, rfl⟩
          · have HN := hid (show L A = noBlank (L r') by rw [HAA.out, List.take_of_length_le (by rw [L_length]; omega)])
            go_wp2
            go_meet
            case rel => exact ⟨A, rfl, by omega, HN.out, rfl⟩
      case rest =>
        obtain ⟨A, rfl, hAs, hA, rfl⟩ := hcut
        have HAN := hid hA
        clear hA
        by_cases hz : A.size = 0
        · have hAe := empty_of A hz
          subst hAe
          have HO := hid (show (wordsP (L s)).operands = [] by rw [← HOPR.out]; unfold operandsOf; rw [if_pos (by rw [← HAN.out]; rfl)])
          have y0 := HW1.out.cell 0 (by simp)
          have y1 := HW1.out.cell 1 (by simp)
          have y2 := HW1.out.cell 2 (by simp)
          have x0 := HW0.out.cell 0 (by decide)
          have x1 := HW0.out.cell 1 (by decide)
          have x2 := HW0.out.cell 2 (by decide)
          have z0 := HW0.out.free 0
          have z1 := HW0.out.free 1
          have z2 := HW0.out.free 2
          have hlt0 := HW0.out.lt
          clear hz
          go_wp2
          refine bodyPost_ret (v := .agg #[.string lb, .string op, .slice none 0 0]) (by simp [results, Tryz.results63, go_sem, x0, x1, x2]) rfl ⟨lb, op, none, 0, [], rfl, ⟨HLBL.out, HOP.out, HO.out.symm, Or.inl ⟨rfl, rfl⟩⟩, ?_⟩
          rw [HBQ.out]
          exact ((HBX.out.setCell (Nat.le_refl _) _).setCell (Nat.le_refl _) _).setCell (Nat.le_refl _) _
        · have hne := not_empty A (by omega)
          have HO := hid (show (wordsP (L s)).operands = splitB 44 (L A) by
            rw [← HOPR.out]; unfold operandsOf
            rw [if_neg (by rw [← HAN.out]; intro h; exact hz (by rw [← L_length, h]; rfl)), HAN.out])
          clear HOPR HAN
          obtain ⟨i0, hi0, hz0, hz1', hz2⟩ := info_parts infoString
          go_wp2_with fail
          go_loopg [9, 10] (A.size + 1) (fun q f i wr => ∃ (fr k : Nat) (parts : List ByteArray) (v : Value), q + k = A.size + 1 ∧ f = .int .i64 fr ∧ i = .int .i64 k ∧ fr ≤ k ∧ parts.length ≤ k ∧ RowT wr 134 (B + 1) [.string lb, .string op, v] ∧ RowT wr 134 B noWords ∧ wr.ownsRow (B + 2) 9 1 v parts.length (parts.map Value.string) ∧ Below B w wr ∧ SplitAt (L A) parts fr k)
          case atStart => exact ⟨0, 0, [], .slice none 0 0, rfl, rfl, rfl, Nat.le_refl _, Nat.le_refl _, HW1.out, HW0.out, World.ownsRow_nil _ _ _ _, HBX.out, Or.inl ⟨Nat.zero_le _, by simp [splitOn_nil]⟩⟩
          case round =>
            obtain ⟨fr, k, parts, v, hq, rfl, rfl, hfk, hpk, hrow1, hrow0, hown, hbr, hsp⟩ := hrel
            have HSP := hid hsp
            clear hsp
            by_cases hle : k ≤ A.size
            · have kle : decide ((k : Int) ≤ A.size) = true := by simp; omega
              have b1 : (0 : Int) ≤ (fr : Int) := Int.natCast_nonneg _
              have b2 : (fr : Int) ≤ (k : Int) := by omega
              have b3 : (k : Int) ≤ (A.size : Int) := by omega
              by_cases hhit : k = A.size ∨ ∃ h : k < A.size, (A[k].toNat : Int) = 44
              · have HSN := hid (show SplitAt (L A) (parts ++ [A.extract fr k]) (k + 1) (k + 1) by
                  rcases hhit with rfl | ⟨h1, h2⟩
                  · exact HSP.out.last
                  · exact HSP.out.hit h1 h2)
                have hor : ((k : Int) == (A.size : Int)) = true ∨ (((k : Int) == (A.size : Int)) = false ∧ ∃ h : k < A.size, ((A[k].toNat : Int) == 44) = true) := by
                  rcases hhit with h | ⟨h1, h2⟩
                  · exact Or.inl (by rw [beq_iff_eq]; omega)
                  · exact Or.inr ⟨by rw [beq_eq_false_iff_ne]; omega, h1, by simpa using h2⟩
                have HOWN := hid hown
                have HBR := hid hbr
                have HRW1 := hid hrow1
                have HRW0 := hid hrow0
                have cc : wr.cell? ⟨B + 1, 2, none⟩ = some v := hrow1.cell 2 (by simp)
                have ff : wr.frozen? ⟨B + 1, 2, none⟩ = false := hrow1.free 2
                have hzz : B + 1 < wr.heap.size := hrow1.lt
                clear hown hbr hrow1 hrow0 HSP hhit HW1 HW0 HBX
                rcases hor with k1 | ⟨k1, hks, k2⟩
                all_goals
                  go_wp2_with fail
                  go_region_law
                    ((refine step_append_lies _ (by rfl) _ _ _ (by rfl) (B + 2) 9 i0 _ 1 16 Tryz.underlying65 hi0 hz0 hz1' hz2 rfl (by omega) v parts.length (parts.map Value.string) (by rfl) ((HOWN.out.alloc _).drew) ⟨_, 0, none⟩ 1 1 [.string (A.extract fr k)] (by rfl) (by rfl) (World.news_of_block (cs := #[.string (A.extract fr k)]) (t := 9) (fr := (0, 0)) (heap_alloc_new _ _)) (by simp [Value.oneCell']) (by omega) (by unfold maxLen; omega) (by omega) (by simp; omega) _ rfl ?_; intro gg cap' w4 hown4 hgrow hat hlt4; have hc4 := (hgrow.cell_far ⟨B + 1, 2, none⟩ (by simp; omega) (own_ne HOWN.out)).trans ((((Below.refl wr.heap.size wr).alloc (Nat.le_refl _) _).drew.cell (p := ⟨B + 1, 2, none⟩) hzz).trans cc); have hf4 := (hgrow.frozen_far ⟨B + 1, 2, none⟩ (by simp; omega) (own_ne HOWN.out)).trans ((((Below.refl wr.heap.size wr).alloc (Nat.le_refl _) _).drew.frozen (p := ⟨B + 1, 2, none⟩) hzz).trans ff); have hzw : B + 1 < w4.heap.size := Nat.lt_of_lt_of_le hzz (Nat.le_trans (by simp) hgrow.size)))
                  all_goals
                    have hb4 : Below B w w4 := ((HBR.out.alloc (by omega) _).drew).grown hgrow (by simp; omega) (fun j hj => by have := own_ge HOWN.out hj; omega)
                    have hr1 : RowT w4 134 (B + 1) [.string lb, .string op, v] := RowT.grown (w := (wr.alloc (Obj.cells #[Value.string (A.extract fr k)] 9)).drew) (HRW1.out.alloc _) hgrow (own_ne HOWN.out).symm
                    have hr0 : RowT w4 134 B noWords := RowT.grown (w := (wr.alloc (Obj.cells #[Value.string (A.extract fr k)] 9)).drew) (HRW0.out.alloc _) hgrow (fun e => by have := own_ge HOWN.out e; omega)
                    have HN1 := hid (hr1.set 2 (.slice (some ⟨gg, 0, none⟩) (parts.length + 1) cap'))
                    have HN0 := hid (hr0.other (B + 1) 2 (by omega) (.slice (some ⟨gg, 0, none⟩) (parts.length + 1) cap'))
                    have HNB := hid (hb4.setCell (p := ⟨B + 1, 2, none⟩) (by show B ≤ B + 1; omega) (.slice (some ⟨gg, 0, none⟩) (parts.length + 1) cap'))
                    have HNO := hid (ownsRow_setCell_below hown4 (a := ⟨B + 1, 2, none⟩) (by show B + 1 < B + 2; omega) (.slice (some ⟨gg, 0, none⟩) (parts.length + 1) cap'))
                    clear hb4 hr1 hr0 hown4 hgrow hat hc4 hf4 cc ff
                    go_wp2
                    go_roundg (gk - 1)
                    case measure => omega
                    case rel => exact ⟨k + 1, k + 1, parts ++ [A.extract fr k], _, by omega, by go_num, by go_num, Nat.le_refl _, by simp; omega, HN1.out, HN0.out, by simpa using HNO.out, HNB.out, HSN.out⟩
              · have hk2 : k < A.size := by
                  rcases Nat.lt_or_ge k A.size with h | h
                  · exact h
                  · exact absurd (Or.inl (by omega)) hhit
                have hb44 : ¬ (A[k].toNat : Int) = 44 := fun h => hhit (Or.inr ⟨hk2, h⟩)
                have k1 : ((k : Int) == (A.size : Int)) = false := by rw [beq_eq_false_iff_ne]; omega
                have k2 : ((A[k].toNat : Int) == 44) = false := by simpa using hb44
                have HSN := hid (HSP.out.miss hfk hk2 hb44)
                have HOWN := hid hown
                have HBR := hid hbr
                have HRW1 := hid hrow1
                have HRW0 := hid hrow0
                clear hown hbr hrow1 hrow0 HSP hhit HW1 HW0 HBX hb44
                go_wp2
                go_roundg (gk - 1)
                case measure => omega
                case rel => exact ⟨fr, k + 1, parts, v, by omega, rfl, by go_num, by omega, by omega, HRW1.out, HRW0.out, HOWN.out, HBR.out, HSN.out⟩
            · have HP := hid (show parts.map L = (wordsP (L s)).operands by
                rw [HO.out]
                rcases HSP.out with ⟨h, _⟩ | ⟨_, h⟩
                · rw [L_length] at h; omega
                · exact h.symm)
              have hkz : decide ((k : Int) ≤ A.size) = false := by simp; omega
              have hform : ∃ oa oc, v = .slice oa parts.length oc ∧ StrV wr (B + 2) v parts := owns_strs hown rfl
              obtain ⟨oa, oc, hv, hst⟩ := hform
              subst hv
              have HST := hid hst
              have y0 := hrow1.cell 0 (by simp)
              have y1 := hrow1.cell 1 (by simp)
              have y2 := hrow1.cell 2 (by simp)
              have x0 := hrow0.cell 0 (by decide)
              have x1 := hrow0.cell 1 (by decide)
              have x2 := hrow0.cell 2 (by decide)
              have z0 := hrow0.free 0
              have z1 := hrow0.free 1
              have z2 := hrow0.free 2
              have HBR := hid hbr
              clear hown hbr hrow1 hrow0 HSP HW1 HW0 HBX hst
              go_wp2
              refine bodyPost_ret (v := .agg #[.string lb, .string op, .slice oa parts.length oc]) (by simp [results, Tryz.results63, go_sem, x0, x1, x2]) rfl ⟨lb, op, oa, oc, parts, rfl, ⟨HLBL.out, HOP.out, HP.out, ?_⟩, ?_⟩
              · rw [HBQ.out]
                exact HST.out.past
              · rw [HBQ.out]
                exact ((HBR.out.setCell (Nat.le_refl _) _).setCell (Nat.le_refl _) _).setCell (Nat.le_refl _) _

end Go.Proofs.YtcepppilgncdmaaGreatDoor

namespace Go.Proofs.YtcepppilgncdmaaGreatDoor
open Go.RowKit

set_option maxRecDepth 100000 in
set_option maxHeartbeats 1000000 in
theorem text_any (lb op : ByteArray) (oa : Option Addr) (oc : Nat) (ops : List ByteArray) (M : List Nat) (w : World) (h1 : lb.size ≤ 1000000) (h2 : op.size ≤ 1000000) (h3 : sumLen (ops.map L) ≤ 1000000) (h4 : ops.length ≤ 1000000) (hst : StrsAt w M oa ops) :
    Calls Tryz.prog 156 #[.agg #[.string lb, .string op, .slice oa ops.length oc]] w fun e w' => ∃ t : ByteArray, L t = textP ⟨L lb, L op, ops.map L⟩ ∧ e = .returned (.string t) ∧ Below w.heap.size w w' := by
  have HST := hid hst
  have HTX := hid (textP_head ⟨L lb, L op, ops.map L⟩)
  clear hst
  have hjl : ∀ k, (joinedTo ops k).length ≤ 1000000 := fun k => Nat.le_trans (joinedTo_len ops k) h3
  have HJL := hid hjl
  clear hjl
  by_cases e1 : lb.size = 0
  · obtain rfl := empty_of lb e1
    by_cases e2 : op.size = 0
    · obtain rfl := empty_of op e2
      have hhl : (headP (L ⟨#[]⟩) (L ⟨#[]⟩)).length ≤ 2000002 := by decide
      go_enter Tryz.func156, Tryz.ntmps156
      go_upto_block 0 with fail
      go_wp2_with fail
      go_loopg [3, 4] ops.length (fun q x i wr => ∃ (k : Nat) (cur : ByteArray), q + k = ops.length ∧ i = .int .i64 k ∧ x = .string cur ∧ L cur = headP (L ⟨#[]⟩) (L ⟨#[]⟩) ++ joinedTo ops k ∧ wr = w.alloc (Obj.cells #[Value.string ⟨#[]⟩, Value.string ⟨#[]⟩, Value.slice oa ops.length oc] 134))
      case atStart => exact ⟨0, _, rfl, rfl, rfl, by simp [joinedTo, joined, headP, L], rfl⟩
      case round =>
        obtain ⟨k, cur, hq, rfl, rfl, hcur, rfl⟩ := hrel
        have HC := hid hcur
        have hcl : cur.size ≤ 3000002 := by rw [← L_length, hcur, List.length_append]; have := HJL.out k; omega
        clear hcur
        by_cases hlt : k < ops.length
        · rcases HST.out with h | ⟨b, off, ha, hbl, _, hc⟩
          · rw [h] at hlt; simp at hlt
          · subst ha
            have c1 := hc k hlt
            have hol : ops[k].size ≤ 1000000 := by
              have h5 := HJL.out (k + 1)
              rw [joinedTo_succ ops k hlt, List.length_append, List.length_cons, L_length] at h5
              omega
            have HS := hid (joinedTo_succ ops k hlt)
            clear hc
            by_cases hk0 : k = 0
            · subst hk0
              rw [Nat.add_zero] at c1
              go_wp2
              go_roundg (gk - 1)
              case measure => omega
              case rel => exact ⟨0 + 1, _, by omega, by go_num, rfl, by rw [HS.out, L_append, L_append, HC.out]; simp; rfl, rfl⟩
            · have kk : ((k : Int) == 0) = false := by rw [beq_eq_false_iff_ne]; omega
              go_wp2
              go_roundg (gk - 1)
              case measure => omega
              case rel => exact ⟨k + 1, _, by omega, by go_num, rfl, by rw [HS.out, L_append, L_append, HC.out, if_neg hk0]; simp; rfl, rfl⟩
        · have HE := hid (show L cur = textP ⟨L ⟨#[]⟩, L ⟨#[]⟩, ops.map L⟩ by rw [HTX.out, HC.out]; unfold joinedTo; rw [List.take_of_length_le (by omega)])
          go_wp2
          go_ret
          exact ⟨cur, HE.out, rfl, (Below.refl _ _).alloc (Nat.le_refl _) _⟩
    · have k2 := not_empty op (by omega)
      have HHD := hid (show L (⟨#[]⟩ ++ op) = headP (L ⟨#[]⟩) (L op) by unfold headP; rw [if_neg (ne_of_size op e2), if_pos (show L ⟨#[]⟩ = [] from rfl), L_append]; rfl)
      have hhl : (headP (L ⟨#[]⟩) (L op)).length ≤ 2000002 := by rw [← HHD.out, L_length, ByteArray.size_append]; show 0 + op.size ≤ 2000002; omega
      go_enter Tryz.func156, Tryz.ntmps156
      go_upto_block 0 with fail
      go_wp2_with fail
      go_loopg [3, 4] ops.length (fun q x i wr => ∃ (k : Nat) (cur : ByteArray), q + k = ops.length ∧ i = .int .i64 k ∧ x = .string cur ∧ L cur = headP (L ⟨#[]⟩) (L op) ++ joinedTo ops k ∧ wr = w.alloc (Obj.cells #[Value.string ⟨#[]⟩, Value.string op, Value.slice oa ops.length oc] 134))
      case atStart => exact ⟨0, _, rfl, rfl, rfl, by rw [HHD.out]; simp [joinedTo, joined], rfl⟩
      case round =>
        obtain ⟨k, cur, hq, rfl, rfl, hcur, rfl⟩ := hrel
        have HC := hid hcur
        have hcl : cur.size ≤ 3000002 := by rw [← L_length, hcur, List.length_append]; have := HJL.out k; omega
        clear hcur
        by_cases hlt : k < ops.length
        · rcases HST.out with h | ⟨b, off, ha, hbl, _, hc⟩
          · rw [h] at hlt; simp at hlt
          · subst ha
            have c1 := hc k hlt
            have hol : ops[k].size ≤ 1000000 := by
              have h5 := HJL.out (k + 1)
              rw [joinedTo_succ ops k hlt, List.length_append, List.length_cons, L_length] at h5
              omega
            have HS := hid (joinedTo_succ ops k hlt)
            clear hc
            by_cases hk0 : k = 0
            · subst hk0
              rw [Nat.add_zero] at c1
              go_wp2
              go_roundg (gk - 1)
              case measure => omega
              case rel => exact ⟨0 + 1, _, by omega, by go_num, rfl, by rw [HS.out, L_append, L_append, HC.out]; simp; rfl, rfl⟩
            · have kk : ((k : Int) == 0) = false := by rw [beq_eq_false_iff_ne]; omega
              go_wp2
              go_roundg (gk - 1)
              case measure => omega
              case rel => exact ⟨k + 1, _, by omega, by go_num, rfl, by rw [HS.out, L_append, L_append, HC.out, if_neg hk0]; simp; rfl, rfl⟩
        · have HE := hid (show L cur = textP ⟨L ⟨#[]⟩, L op, ops.map L⟩ by rw [HTX.out, HC.out]; unfold joinedTo; rw [List.take_of_length_le (by omega)])
          go_wp2
          go_ret
          exact ⟨cur, HE.out, rfl, (Below.refl _ _).alloc (Nat.le_refl _) _⟩
  · have k1 := not_empty lb (by omega)
    by_cases e2 : op.size = 0
    · obtain rfl := empty_of op e2
      have HHD := hid (show L (lb ++ ⟨#[58]⟩) = headP (L lb) (L ⟨#[]⟩) by unfold headP; rw [if_pos (show L ⟨#[]⟩ = [] from rfl), if_neg (ne_of_size lb e1), L_append]; rfl)
      have hhl : (headP (L lb) (L ⟨#[]⟩)).length ≤ 2000002 := by rw [← HHD.out, L_length, ByteArray.size_append]; show lb.size + 1 ≤ 2000002; omega
      go_enter Tryz.func156, Tryz.ntmps156
      go_upto_block 0 with fail
      go_wp2_with fail
      go_loopg [3, 4] ops.length (fun q x i wr => ∃ (k : Nat) (cur : ByteArray), q + k = ops.length ∧ i = .int .i64 k ∧ x = .string cur ∧ L cur = headP (L lb) (L ⟨#[]⟩) ++ joinedTo ops k ∧ wr = w.alloc (Obj.cells #[Value.string lb, Value.string ⟨#[]⟩, Value.slice oa ops.length oc] 134))
      case atStart => exact ⟨0, _, rfl, rfl, rfl, by rw [HHD.out]; simp [joinedTo, joined], rfl⟩
      case round =>
        obtain ⟨k, cur, hq, rfl, rfl, hcur, rfl⟩ := hrel
        have HC := hid hcur
        have hcl : cur.size ≤ 3000002 := by rw [← L_length, hcur, List.length_append]; have := HJL.out k; omega
        clear hcur
        by_cases hlt : k < ops.length
        · rcases HST.out with h | ⟨b, off, ha, hbl, _, hc⟩
          · rw [h] at hlt; simp at hlt
          · subst ha
            have c1 := hc k hlt
            have hol : ops[k].size ≤ 1000000 := by
              have h5 := HJL.out (k + 1)
              rw [joinedTo_succ ops k hlt, List.length_append, List.length_cons, L_length] at h5
              omega
            have HS := hid (joinedTo_succ ops k hlt)
            clear hc
            by_cases hk0 : k = 0
            · subst hk0
              rw [Nat.add_zero] at c1
              go_wp2
              go_roundg (gk - 1)
              case measure => omega
              case rel => exact ⟨0 + 1, _, by omega, by go_num, rfl, by rw [HS.out, L_append, L_append, HC.out]; simp; rfl, rfl⟩
            · have kk : ((k : Int) == 0) = false := by rw [beq_eq_false_iff_ne]; omega
              go_wp2
              go_roundg (gk - 1)
              case measure => omega
              case rel => exact ⟨k + 1, _, by omega, by go_num, rfl, by rw [HS.out, L_append, L_append, HC.out, if_neg hk0]; simp; rfl, rfl⟩
        · have HE := hid (show L cur = textP ⟨L lb, L ⟨#[]⟩, ops.map L⟩ by rw [HTX.out, HC.out]; unfold joinedTo; rw [List.take_of_length_le (by omega)])
          go_wp2
          go_ret
          exact ⟨cur, HE.out, rfl, (Below.refl _ _).alloc (Nat.le_refl _) _⟩
    · have k2 := not_empty op (by omega)
      have k3 := not_empty (lb ++ ⟨#[58]⟩) (by rw [ByteArray.size_append]; show 0 < lb.size + 1; omega)
      have HHD := hid (show L (lb ++ ⟨#[58]⟩ ++ ⟨#[32]⟩ ++ op) = headP (L lb) (L op) by unfold headP; rw [if_neg (ne_of_size op e2), if_neg (ne_of_size lb e1), L_append, L_append, L_append]; rfl)
      have hhl : (headP (L lb) (L op)).length ≤ 2000002 := by rw [← HHD.out, L_length, ByteArray.size_append, ByteArray.size_append, ByteArray.size_append]; show lb.size + 1 + 1 + op.size ≤ 2000002; omega
      go_enter Tryz.func156, Tryz.ntmps156
      go_upto_block 0 with fail
      go_wp2_with fail
      go_loopg [3, 4] ops.length (fun q x i wr => ∃ (k : Nat) (cur : ByteArray), q + k = ops.length ∧ i = .int .i64 k ∧ x = .string cur ∧ L cur = headP (L lb) (L op) ++ joinedTo ops k ∧ wr = w.alloc (Obj.cells #[Value.string lb, Value.string op, Value.slice oa ops.length oc] 134))
      case atStart => exact ⟨0, _, rfl, rfl, rfl, by rw [HHD.out]; simp [joinedTo, joined], rfl⟩
      case round =>
        obtain ⟨k, cur, hq, rfl, rfl, hcur, rfl⟩ := hrel
        have HC := hid hcur
        have hcl : cur.size ≤ 3000002 := by rw [← L_length, hcur, List.length_append]; have := HJL.out k; omega
        clear hcur
        by_cases hlt : k < ops.length
        · rcases HST.out with h | ⟨b, off, ha, hbl, _, hc⟩
          · rw [h] at hlt; simp at hlt
          · subst ha
            have c1 := hc k hlt
            have hol : ops[k].size ≤ 1000000 := by
              have h5 := HJL.out (k + 1)
              rw [joinedTo_succ ops k hlt, List.length_append, List.length_cons, L_length] at h5
              omega
            have HS := hid (joinedTo_succ ops k hlt)
            clear hc
            by_cases hk0 : k = 0
            · subst hk0
              rw [Nat.add_zero] at c1
              go_wp2
              go_roundg (gk - 1)
              case measure => omega
              case rel => exact ⟨0 + 1, _, by omega, by go_num, rfl, by rw [HS.out, L_append, L_append, HC.out]; simp; rfl, rfl⟩
            · have kk : ((k : Int) == 0) = false := by rw [beq_eq_false_iff_ne]; omega
              go_wp2
              go_roundg (gk - 1)
              case measure => omega
              case rel => exact ⟨k + 1, _, by omega, by go_num, rfl, by rw [HS.out, L_append, L_append, HC.out, if_neg hk0]; simp; rfl, rfl⟩
        · have HE := hid (show L cur = textP ⟨L lb, L op, ops.map L⟩ by rw [HTX.out, HC.out]; unfold joinedTo; rw [List.take_of_length_le (by omega)])
          go_wp2
          go_ret
          exact ⟨cur, HE.out, rfl, (Below.refl _ _).alloc (Nat.le_refl _) _⟩

end Go.Proofs.YtcepppilgncdmaaGreatDoor

namespace Go.Proofs.YtcepppilgncdmaaGreatDoor
open Go.RowKit

def keptQ (E R : TypeId → Bool) (M : List Nat) (k : Nat) : Obj → Bool
  | .cells _ t _ => !E t && (!R t || !M.contains k)
  | _ => true

/-- Rows at or behind B of the types E, and of readers those of M, may have turned; no others that were there. -/
structure FrQ (E R : TypeId → Bool) (B : Nat) (M : List Nat) (w w' : World) : Prop where
  os : w'.os = w.os
  tape : w'.tape = w.tape
  output : w'.output = w.output
  size : w.heap.size ≤ w'.heap.size
  block : ∀ k o, w.heap[k]? = some o → (k < B ∨ keptQ E R M k o = true) → w'.heap[k]? = some o

theorem FrQ.refl (E R : TypeId → Bool) (B : Nat) (M : List Nat) (w : World) : FrQ E R B M w w := ⟨rfl, rfl, rfl, Nat.le_refl _, fun _ _ h _ => h⟩
theorem FrQ.trans {E R : TypeId → Bool} {B : Nat} {M : List Nat} {a b c : World} (h : FrQ E R B M a b) (k : FrQ E R B M b c) : FrQ E R B M a c :=
  ⟨k.os.trans h.os, k.tape.trans h.tape, k.output.trans h.output, Nat.le_trans h.size k.size, fun i o ho hk => k.block i o (h.block i o ho hk) hk⟩
theorem keptQ_mono {E R : TypeId → Bool} {M N : List Nat} (hs : ∀ k, k ∈ M → k ∈ N) {k : Nat} {o : Obj} (h : keptQ E R N k o = true) : keptQ E R M k o = true := by
  cases o with
  | cells cur t fz =>
    simp only [keptQ, Bool.and_eq_true, Bool.or_eq_true, Bool.not_eq_true', List.contains_eq_mem, decide_eq_false_iff_not] at h ⊢
    exact ⟨h.1, h.2.imp id (fun h hm => h (hs k hm))⟩
  | _ => rfl
theorem FrQ.mono {E R : TypeId → Bool} {B : Nat} {M N : List Nat} {w w' : World} (h : FrQ E R B M w w') (hs : ∀ k, k ∈ M → k ∈ N) : FrQ E R B N w w' :=
  ⟨h.os, h.tape, h.output, h.size, fun k o ho hk => h.block k o ho (hk.imp id (keptQ_mono hs))⟩
/-- Where a block that may turn by the second frame is new, or may turn by the first. -/
theorem FrQ.trans' {E R : TypeId → Bool} {B : Nat} {M N : List Nat} {a b c : World} (h : FrQ E R B M a b) (k : FrQ E R B N b c) (hN : ∀ i, i ∈ N → i ∈ M ∨ a.heap.size ≤ i) : FrQ E R B M a c :=
  ⟨k.os.trans h.os, k.tape.trans h.tape, k.output.trans h.output, Nat.le_trans h.size k.size, fun i o ho hk => by
    refine k.block i o (h.block i o ho hk) (hk.imp id fun hm => ?_)
    have hi : i < a.heap.size := (Array.getElem?_eq_some_iff.1 ho).1
    cases o with
    | cells cur t fz =>
      simp only [keptQ, Bool.and_eq_true, Bool.or_eq_true, Bool.not_eq_true', List.contains_eq_mem, decide_eq_false_iff_not] at hm ⊢
      refine ⟨hm.1, hm.2.imp id fun h2 h3 => ?_⟩
      rcases hN i h3 with h4 | h4
      · exact h2 h4
      · omega
    | _ => rfl⟩
theorem FrQ.of_below {E R : TypeId → Bool} {B : Nat} {M : List Nat} {w w' : World} (h : Below w.heap.size w w') : FrQ E R B M w w' :=
  ⟨h.os, h.tape, h.output, h.size, fun k o ho _ => by rw [h.block k (Array.getElem?_eq_some_iff.1 ho).1]; exact ho⟩
theorem FrQ.below {E R : TypeId → Bool} {B : Nat} {M : List Nat} {w w' : World} (h : FrQ E R B M w w') (hB : B ≤ w.heap.size) : Below B w w' :=
  ⟨h.os, h.tape, h.output, h.size, fun k hk => by
    have hk2 : k < w.heap.size := Nat.lt_of_lt_of_le hk hB
    rw [h.block k _ (Array.getElem?_eq_getElem hk2) (Or.inl hk), Array.getElem?_eq_getElem hk2]⟩
theorem FrQ.alloc {E R : TypeId → Bool} {B : Nat} {M : List Nat} {a w : World} (h : FrQ E R B M a w) (o : Obj) : FrQ E R B M a (w.alloc o) := h.trans (FrQ.of_below ((Below.refl _ _).alloc (Nat.le_refl _) o))
theorem FrQ.drew {E R : TypeId → Bool} {B : Nat} {M : List Nat} {a w : World} (h : FrQ E R B M a w) : FrQ E R B M a w.drew := ⟨h.os, h.tape, h.output, h.size, h.block⟩
theorem FrQ.drewN {E R : TypeId → Bool} {B : Nat} {M : List Nat} {a w : World} (h : FrQ E R B M a w) (n : Nat) : FrQ E R B M a (w.drewN n) := ⟨h.os, h.tape, h.output, h.size, h.block⟩

/-- A block that may turn. -/
def MayQ (E R : TypeId → Bool) (B : Nat) (M : List Nat) (w : World) (g : Nat) : Prop := B ≤ g ∧ ∃ cur t fz, w.heap[g]? = some (.cells cur t fz) ∧ (E t = true ∨ (R t = true ∧ g ∈ M))
theorem MayQ.not {E R : TypeId → Bool} {B : Nat} {M : List Nat} {w : World} {g : Nat} (h : MayQ E R B M w g) {k : Nat} {o : Obj} (ho : w.heap[k]? = some o) (hk : k < B ∨ keptQ E R M k o = true) : k ≠ g := by
  rintro rfl
  obtain ⟨hB, cur, t, fz, hc, ht⟩ := h
  rw [ho] at hc
  injection hc with hc
  subst hc
  rcases hk with hk | hk
  · omega
  · simp only [keptQ, Bool.and_eq_true, Bool.or_eq_true, Bool.not_eq_true', List.contains_eq_mem, decide_eq_false_iff_not] at hk
    rcases ht with ht | ⟨ht, hm⟩
    · rw [ht] at hk; cases hk.1
    · rcases hk.2 with h2 | h2
      · rw [ht] at h2; cases h2
      · exact h2 hm
theorem FrQ.setCell {E R : TypeId → Bool} {B : Nat} {M : List Nat} {a w : World} (h : FrQ E R B M a w) {p : Addr} (hp : MayQ E R B M w p.block) (u : Value) : FrQ E R B M a (w.setCell p u) :=
  h.trans ⟨rfl, rfl, rfl, by simp [World.setCell], fun k o ho hk => by rw [heap_setCell_other w p k u (hp.not ho hk)]; exact ho⟩
theorem FrQ.grown {E R : TypeId → Bool} {B : Nat} {M : List Nat} {a w w' : World} {row : Option Nat} (h : FrQ E R B M a w) (hg : w.grownBy w' row) (hr : ∀ g, row = some g → MayQ E R B M w g) : FrQ E R B M a w' :=
  h.trans ⟨hg.os, hg.tape, hg.output, hg.size, fun k o ho hk => by
    rw [hg.block k (Array.getElem?_eq_some_iff.1 ho).1 (fun e => (hr k e.symm).not ho hk rfl)]; exact ho⟩
theorem RowT.mayQ {E R : TypeId → Bool} {B : Nat} {M : List Nat} {w : World} {t g : Nat} {xs : List Value} (h : RowT w t g xs) (hB : B ≤ g) (ht : E t = true ∨ (R t = true ∧ g ∈ M)) : MayQ E R B M w g := ⟨hB, _, t, _, h, ht⟩

/-- Rows of a type that stays. -/
theorem RowT.frQ {E R : TypeId → Bool} {B : Nat} {M : List Nat} {w w' : World} {t g : Nat} {xs : List Value} (h : RowT w t g xs) (hf : FrQ E R B M w w') (ht : E t = false) (hm : R t = true → g ∉ M) : RowT w' t g xs := by
  unfold RowT at h ⊢
  refine hf.block g _ h (Or.inr ?_)
  simp only [keptQ, Bool.and_eq_true, Bool.or_eq_true, Bool.not_eq_true', List.contains_eq_mem, decide_eq_false_iff_not, ht, true_and]
  cases hr : R t with
  | false => exact Or.inl rfl
  | true => exact Or.inr (hm hr)
theorem StrV.frG {E R : TypeId → Bool} {B C : Nat} {M : List Nat} {w w' : World} {v : Value} {ss : List ByteArray} (h : StrV w C v ss) (hf : FrQ E R B M w w') (hE : E 9 = false) (hR : R 9 = false) : StrV w' C v ss := by
  rcases h with h | ⟨b, off, cap, cur, h1, h2, h3, h4⟩
  · exact Or.inl h
  · exact Or.inr ⟨b, off, cap, cur, h1, h2, hf.block b _ h3 (Or.inr (by simp [keptQ, hE, hR])), h4⟩
theorem ownsRow_frQ {E R : TypeId → Bool} {B C : Nat} {M : List Nat} {w w' : World} {e size n : Nat} {v : Value} {xs : List Value} (h : w.ownsRow C e size v n xs) (hf : FrQ E R B M w w') (ht : E e = false) (hm : R e = true → ∀ g, v.ownBlock = some g → g ∉ M) : w'.ownsRow C e size v n xs := by
  refine ⟨h.1, ?_⟩
  rcases h.2 with hn | ⟨g, cap, cur, rfl, hb, hgg, rest⟩
  · exact .inl hn
  · refine .inr ⟨g, cap, cur, rfl, hb, hf.block g _ hgg (Or.inr ?_), rest⟩
    simp only [keptQ, Bool.and_eq_true, Bool.or_eq_true, Bool.not_eq_true', List.contains_eq_mem, decide_eq_false_iff_not, ht, true_and]
    cases hr : R e with
    | false => exact Or.inl rfl
    | true => exact Or.inr (hm hr g rfl)
theorem own_mayQ {E R : TypeId → Bool} {B : Nat} {M : List Nat} {w : World} {e size n : Nat} {v : Value} {xs : List Value} (h : w.ownsRow B e size v n xs) (ht : ∀ g, v.ownBlock = some g → E e = true ∨ (R e = true ∧ g ∈ M)) : ∀ g, v.ownBlock = some g → MayQ E R B M w g := by
  intro g hg
  rcases h.2 with ⟨rfl, _⟩ | ⟨k, cap, cur, rfl, hb, hk, _⟩
  · cases hg
  · simp [Value.ownBlock] at hg
    subst hg
    exact ⟨hb, cur, e, _, hk, ht k rfl⟩

/-- Types of what a reader of the document's own package holds; of what a block of lines holds. -/
def eQ (t : TypeId) : Bool := t == 93 || t == 127 || t == 40 || t == 38
def rQ (t : TypeId) : Bool := t == 130 || t == 190 || t == 192
abbrev Fq := FrQ eQ rQ
theorem StrV.fq {B C : Nat} {M : List Nat} {w w' : World} {v : Value} {ss : List ByteArray} (h : StrV w C v ss) (hf : Fq B M w w') : StrV w' C v ss := h.frG hf rfl rfl
theorem Fq.refl (B : Nat) (M : List Nat) (w : World) : Fq B M w w := FrQ.refl _ _ _ _ _
theorem Fq.of_below {B : Nat} {M : List Nat} {w w' : World} (h : Below w.heap.size w w') : Fq B M w w' := FrQ.of_below h
end Go.Proofs.YtcepppilgncdmaaGreatDoor

namespace Go.Proofs.YtcepppilgncdmaaGreatDoor
open Go.RowKit
attribute [local go_sem ↓] Go.wp_at_zero Go.wp_at_succ

/-- A macro of the document's own package, in memory: where it lies, and what it holds. -/
structure MacQ where
  g : Nat
  name : ByteArray
  pv : Value
  ps : List ByteArray
  bv : Value
  bs : List ByteArray
def plainQ (m : MacQ) : MacP := ⟨L m.name, m.ps.map L, m.bs.map L⟩
structure MacRow (w : World) (m : MacQ) : Prop where
  row : RowT w 192 m.g [.string m.name, m.pv, m.bv]
  ps : StrV w 0 m.pv m.ps
  bs : StrV w 0 m.bv m.bs
def ptrCells (ms : List MacQ) : List Value := ms.map fun m => .pointer (some ⟨m.g, 0, none⟩)

structure RdAt (w : World) (B r : Nat) (vm vn vo : Value) (ms : List MacQ) (ns : List (ByteArray × Int)) (outs : List (ByteArray × Nat)) (calls : Nat) : Prop where
  row : RowT w 93 r [vm, vn, vo, .int .i64 (calls : Nat), .int .i64 0, .int .i64 0]
  mown : w.ownsRow B 127 1 vm ms.length (ptrCells ms)
  nown : w.ownsRow B 40 2 vn ns.length (nameCells ns)
  lown : w.ownsRow B 38 4 vo outs.length (lineCells outs)
  macs : ∀ m ∈ ms, MacRow w m
  at_ : B ≤ r
def stQ (ms : List MacQ) (ns : List (ByteArray × Int)) (outs : List (ByteArray × Nat)) (calls : Nat) : StP := ⟨ms.map plainQ, plainN ns, outs.map fun x => (L x.1, x.2), calls⟩
/-- A reader in this state; one that holds an error. -/
def RdSt (w : World) (B r : Nat) (st : StP) : Prop := ∃ vm vn vo ms ns outs calls, RdAt w B r vm vn vo ms ns outs calls ∧ st = stQ ms ns outs calls
def RdErr (w : World) (r : Nat) (er : Int) (at_ : Nat) : Prop := ∃ a b c d, RowT w 93 r [a, b, c, d, .int .i64 er, .int .i64 (at_ : Nat)]
/-- What a function answers that turns a reader: its state, or an error and where. -/
def RdPost (B r : Nat) (M : List Nat) (at_ : Nat) (x : Int × StP) (w : World) (e : Ending) (w' : World) : Prop :=
  e = .returned (.tuple #[]) ∧ Fq B M w w' ∧ (x.1 = 0 → RdSt w' B r x.2) ∧ (x.1 ≠ 0 → RdErr w' r x.1 at_)

theorem MacRow.below {w w' : World} {m : MacQ} (h : MacRow w m) (hb : Below w.heap.size w w') : MacRow w' m := ⟨h.row.below hb, h.ps.below hb, h.bs.below hb⟩
theorem MacRow.fq {w w' : World} {m : MacQ} {B : Nat} {M : List Nat} (h : MacRow w m) (hf : Fq B M w w') (hm : m.g ∉ M) : MacRow w' m := ⟨h.row.frQ hf rfl (fun _ => hm), h.ps.fq hf, h.bs.fq hf⟩
theorem RdAt.below {w w' : World} {B r : Nat} {vm vn vo : Value} {ms : List MacQ} {ns : List (ByteArray × Int)} {outs : List (ByteArray × Nat)} {calls : Nat} (h : RdAt w B r vm vn vo ms ns outs calls) (hb : Below w.heap.size w w') : RdAt w' B r vm vn vo ms ns outs calls :=
  ⟨h.row.below hb, ownsRow_belowP h.mown hb, ownsRow_belowP h.nown hb, ownsRow_belowP h.lown hb, fun m hm => (h.macs m hm).below hb, h.at_⟩
theorem RdErr.below {w w' : World} {r : Nat} {er : Int} {at_ : Nat} (h : RdErr w r er at_) (hb : Below w.heap.size w w') : RdErr w' r er at_ := by
  obtain ⟨a, b, c, d, h⟩ := h
  exact ⟨a, b, c, d, h.below hb⟩
theorem RdSt.below {w w' : World} {B r : Nat} {st : StP} (h : RdSt w B r st) (hb : Below w.heap.size w w') : RdSt w' B r st := by
  obtain ⟨vm, vn, vo, ms, ns, outs, calls, h1, h2⟩ := h
  exact ⟨vm, vn, vo, ms, ns, outs, calls, h1.below hb, h2⟩
theorem RdAt.namesAt {w : World} {B r : Nat} {vm vn vo : Value} {ms : List MacQ} {ns : List (ByteArray × Int)} {outs : List (ByteArray × Nat)} {calls : Nat} (h : RdAt w B r vm vn vo ms ns outs calls) : ∃ a cap, vn = .slice a ns.length cap ∧ NamesAt w a ns := by
  rcases h.nown.2 with ⟨rfl, h0⟩ | ⟨g, cap, cur, rfl, hb, hg, _⟩
  · exact ⟨none, 0, by rw [h0], Or.inl (List.eq_nil_of_length_eq_zero h0)⟩
  · refine ⟨_, cap, rfl, Or.inr ⟨g, 0, rfl, (Array.getElem?_eq_some_iff.1 hg).1, fun i hi => ?_⟩⟩
    have h1 := h.nown.cellAt (i * 2) (by omega)
    have h2 := h.nown.cellAt (i * 2 + 1) (by omega)
    rw [(nameCells_at ns i hi).1] at h1
    rw [(nameCells_at ns i hi).2] at h2
    rw [Nat.zero_add]
    exact ⟨h1, h2⟩

set_option maxHeartbeats 400000 in
/-- An error is told, the first. -/
theorem bad_any (w : World) (r : Nat) (a b c d z : Value) (er : Int) (at_ : Nat) (h : RowT w 93 r [a, b, c, d, .int .i64 0, z]) :
    Calls Tryz.prog 60 #[.pointer (some ⟨r, 0, none⟩), .int .i64 er, .int .i64 (at_ : Nat)] w fun e w' => e = .returned (.tuple #[]) ∧ w' = (w.setCell ⟨r, 4, none⟩ (.int .i64 er)).setCell ⟨r, 5, none⟩ (.int .i64 (at_ : Nat)) := by
  have c4 := h.cell 4 (by simp)
  have f4 := h.free 4
  have c5 := h.cell 5 (by simp)
  have f5 := h.free 5
  have hlt := h.lt
  clear h
  go_enter Tryz.func60, Tryz.ntmps60
  go_wp2
  go_end0
  exact ⟨rfl, rfl⟩
set_option maxHeartbeats 400000 in
/-- An error is told behind another. -/
theorem bad_again (w : World) (r : Nat) (a b c d z : Value) (er0 er : Int) (at_ : Nat) (h : RowT w 93 r [a, b, c, d, .int .i64 er0, z]) (h0 : er0 ≠ 0) :
    Calls Tryz.prog 60 #[.pointer (some ⟨r, 0, none⟩), .int .i64 er, .int .i64 (at_ : Nat)] w fun e w' => e = .returned (.tuple #[]) ∧ w' = w := by
  have c4 := h.cell 4 (by simp)
  have k4 : (er0 == 0) = false := by rw [beq_eq_false_iff_ne]; exact h0
  clear h h0
  go_enter Tryz.func60, Tryz.ntmps60
  go_wp2
  go_end0
  exact ⟨rfl, rfl⟩
/-- What is there behind an error that was told. -/
theorem bad_post {w : World} {B r : Nat} {a b c d z : Value} {er : Int} {at_ : Nat} (h : RowT w 93 r [a, b, c, d, .int .i64 0, z]) (hB : B ≤ r) :
    Fq B [] w ((w.setCell ⟨r, 4, none⟩ (.int .i64 er)).setCell ⟨r, 5, none⟩ (.int .i64 (at_ : Nat))) ∧ RdErr ((w.setCell ⟨r, 4, none⟩ (.int .i64 er)).setCell ⟨r, 5, none⟩ (.int .i64 (at_ : Nat))) r er at_ := by
  have h1 := h.set 4 (.int .i64 er)
  have h2 := h1.set 5 (.int .i64 (at_ : Nat))
  exact ⟨((Fq.refl B [] w).setCell (p := ⟨r, 4, none⟩) (h.mayQ hB (Or.inl rfl)) _).setCell (p := ⟨r, 5, none⟩) (h1.mayQ hB (Or.inl rfl)) _, a, b, c, d, h2⟩
theorem bad_rd (w : World) (B r : Nat) (st : StP) (er : Int) (at_ : Nat) (h : RdSt w B r st) (h0 : er ≠ 0) :
    Calls Tryz.prog 60 #[.pointer (some ⟨r, 0, none⟩), .int .i64 er, .int .i64 (at_ : Nat)] w (RdPost B r [] at_ (er, st) w) := by
  obtain ⟨vm, vn, vo, ms, ns, outs, calls, h1, h2⟩ := h
  refine (bad_any w r _ _ _ _ _ er at_ h1.row).mono ?_
  rintro e w' ⟨rfl, rfl⟩
  obtain ⟨p1, p2⟩ := bad_post (er := er) (at_ := at_) h1.row h1.at_
  exact ⟨rfl, p1, fun c => absurd c h0, fun _ => p2⟩

theorem findQ_at (ms : List MacQ) (s : List UInt8) (k : Nat) (h : k < ms.length) : findM ((ms.drop k).map plainQ) s = if L ms[k].name = s then some (plainQ ms[k]) else findM ((ms.drop (k + 1)).map plainQ) s := by
  rw [List.drop_eq_getElem_cons h, List.map_cons]; rfl
/-- What macro answers. -/
def MacroPost (ms : List MacQ) (s : List UInt8) (w : World) (e : Ending) (w' : World) : Prop := w' = w ∧
  ((findM (ms.map plainQ) s = none ∧ e = .returned (.pointer none)) ∨ ∃ m ∈ ms, findM (ms.map plainQ) s = some (plainQ m) ∧ e = .returned (.pointer (some ⟨m.g, 0, none⟩)))

set_option maxHeartbeats 800000 in
theorem macro_any (w : World) (B r : Nat) (vm vn vo : Value) (ms : List MacQ) (ns : List (ByteArray × Int)) (outs : List (ByteArray × Nat)) (calls : Nat) (h : RdAt w B r vm vn vo ms ns outs calls) (hml : ms.length ≤ 3001) (s : ByteArray) :
    Calls Tryz.prog 130 #[.pointer (some ⟨r, 0, none⟩), .string s] w (MacroPost ms (L s) w) := by
  have c0 := h.row.cell 0 (by simp)
  obtain ⟨a, cap, hv⟩ := own_form h.mown
  subst hv
  have HOWN := hid h.mown
  have HM := hid h.macs
  have c0 : w.cell? ⟨r, 0, none⟩ = some (.slice a ms.length cap) := c0
  clear h
  go_enter Tryz.func130, Tryz.ntmps130
  go_wp2
  go_loop [5] (fun i => ∃ j : Nat, j ≤ ms.length ∧ i = .int .i64 j ∧ findM (ms.map plainQ) (L s) = findM ((ms.drop j).map plainQ) (L s)) (fun i => ms.length - (intOf i).toNat)
  case atStart => exact ⟨0, Nat.zero_le _, rfl, by rw [List.drop_zero]⟩
  case round =>
    obtain ⟨j, hj, rfl, ha⟩ := hrel
    have HA := hid ha
    clear ha
    by_cases hlt : j < ms.length
    · have kd : decide ((j : Int) < (ms.length : Int)) = true := by simp; omega
      obtain ⟨g, cap2, hv, hBg, hgl⟩ := HOWN.out.form (by omega)
      injection hv with hv1 _ hv2
      subst hv1 hv2
      have cm : w.cell? ⟨g, j, none⟩ = some (.pointer (some ⟨ms[j].g, 0, none⟩)) := by
        rw [HOWN.out.cellAt j (by omega)]
        unfold ptrCells
        rw [List.getElem?_map, List.getElem?_eq_getElem hlt]
        rfl
      have cn : w.cell? ⟨ms[j].g, 0, none⟩ = some (.string ms[j].name) := (HM.out ms[j] (List.getElem_mem _)).row.cell 0 (by simp)
      have hA := HA.out
      rw [findQ_at _ _ _ hlt] at hA
      by_cases he : L ms[j].name = L s
      · rw [if_pos he] at hA
        have HF := hid hA
        have kb : (ms[j].name.toList == s.toList) = true := beq_of_L he
        clear hA he
        go_wp2
        go_ret
        exact ⟨rfl, Or.inr ⟨ms[j], List.getElem_mem _, HF.out, rfl⟩⟩
      · rw [if_neg he] at hA
        have HF := hid hA
        have kb : (ms[j].name.toList == s.toList) = false := nbeq_of_L he
        clear hA he
        go_wp2
        go_round
        case rel => exact ⟨j + 1, by omega, by go_num, HF.out⟩
        case measure => simp [intOf]; omega
    · have kd : decide ((j : Int) < (ms.length : Int)) = false := by simp; omega
      have HF := hid (show findM (ms.map plainQ) (L s) = none by rw [HA.out, List.drop_eq_nil_of_le (by omega)]; rfl)
      go_wp2
      go_ret
      exact ⟨rfl, Or.inl ⟨HF.out, rfl⟩⟩

end Go.Proofs.YtcepppilgncdmaaGreatDoor

namespace Go.Proofs.YtcepppilgncdmaaGreatDoor
open Go.RowKit
attribute [local go_sem ↓] Go.wp_at_zero Go.wp_at_succ

theorem FrQ.lift {E R E' R' : TypeId → Bool} {B : Nat} {M : List Nat} {w w' : World} (h : FrQ E R B M w w') (hE : ∀ t, E t = true → E' t = true) (hR : ∀ t, R t = true → R' t = true) : FrQ E' R' B M w w' :=
  ⟨h.os, h.tape, h.output, h.size, fun k o ho hk => h.block k o ho (hk.imp id fun hm => by
    cases o with
    | cells cur t fz =>
      simp only [keptQ, Bool.and_eq_true, Bool.or_eq_true, Bool.not_eq_true', List.contains_eq_mem, decide_eq_false_iff_not] at hm ⊢
      refine ⟨?_, hm.2.imp (fun h1 => ?_) id⟩
      · cases he : E t with
        | false => rfl
        | true => rw [hE t he] at hm; cases hm.1
      · cases hr : R t with
        | false => rfl
        | true => rw [hR t hr] at h1; cases h1
    | _ => rfl)⟩
/-- What a block of lines alone may turn. -/
def r1 (t : TypeId) : Bool := t == 130 || t == 190
abbrev Fc := FrQ noT r1
theorem Fc.to {B : Nat} {M : List Nat} {w w' : World} (h : Fc B M w w') : Fq B M w w' := h.lift (fun _ h => by cases h) (fun t h => by
  simp only [r1, rQ, Bool.or_eq_true] at h ⊢
  exact Or.inl h)
theorem RdAt.fc {w w' : World} {B r : Nat} {M : List Nat} {vm vn vo : Value} {ms : List MacQ} {ns : List (ByteArray × Int)} {outs : List (ByteArray × Nat)} {calls : Nat} (h : RdAt w B r vm vn vo ms ns outs calls) (hf : Fc B M w w') : RdAt w' B r vm vn vo ms ns outs calls :=
  ⟨h.row.frQ hf rfl (fun h => by cases h), ownsRow_frQ h.mown hf rfl (fun h => by cases h), ownsRow_frQ h.nown hf rfl (fun h => by cases h), ownsRow_frQ h.lown hf rfl (fun h => by cases h),
    fun m hm => ⟨(h.macs m hm).row.frQ hf rfl (fun h => by cases h), (h.macs m hm).ps.frG hf rfl rfl, (h.macs m hm).bs.frG hf rfl rfl⟩, h.at_⟩

def openCells : List OpenP → List Value
  | [] => []
  | o :: r => openCells r ++ [.bool o.yes, .bool o.els, .bool o.over]
theorem openCells_length (l : List OpenP) : (openCells l).length = l.length * 3 := by
  induction l with
  | nil => rfl
  | cons o r ih => simp only [openCells, List.length_append, ih, List.length_cons, List.length_nil]; omega

/-- A block of lines, in memory: its conditions, and what else it holds. -/
structure BkAt (w : World) (B b : Nat) (lv fv mv pv dv vo xd : Value) (opens : List OpenP) : Prop where
  row : RowT w 130 b [lv, fv, mv, pv, dv, vo, xd]
  own : w.ownsRow B 190 3 vo opens.length (openCells opens)
  few : opens.length ≤ 8
  at_ : B ≤ b
def bkM (b : Nat) (vo : Value) : List Nat := b :: vo.ownBlock.toList
/-- What of a block can be read in any case. -/
def BkRow (w : World) (b : Nat) (lv fv mv pv dv : Value) : Prop := ∃ a n c p, RowT w 130 b [lv, fv, mv, pv, dv, .slice a n c, .pointer p]
theorem BkAt.below {w w' : World} {B b : Nat} {lv fv mv pv dv vo xd : Value} {opens : List OpenP} (h : BkAt w B b lv fv mv pv dv vo xd opens) (hb : Below w.heap.size w w') : BkAt w' B b lv fv mv pv dv vo xd opens := ⟨h.row.below hb, ownsRow_belowP h.own hb, h.few, h.at_⟩
theorem BkAt.fq {w w' : World} {B b : Nat} {M : List Nat} {lv fv mv pv dv vo xd : Value} {opens : List OpenP} (h : BkAt w B b lv fv mv pv dv vo xd opens) (hf : Fq B M w w') (hb : b ∉ M) (ho : ∀ g, vo.ownBlock = some g → g ∉ M) : BkAt w' B b lv fv mv pv dv vo xd opens :=
  ⟨h.row.frQ hf rfl (fun _ => hb), ownsRow_frQ h.own hf rfl (fun _ => ho), h.few, h.at_⟩
theorem BkAt.toRow {w : World} {B b : Nat} {lv fv mv pv dv vo : Value} {p : Option Addr} {opens : List OpenP} (h : BkAt w B b lv fv mv pv dv vo (.pointer p) opens) : BkRow w b lv fv mv pv dv := by
  obtain ⟨a, cap, hv⟩ := own_form h.own
  have := h.row
  rw [hv] at this
  exact ⟨a, _, cap, p, this⟩
theorem BkAt.slot {w : World} {B b : Nat} {lv fv mv pv dv vo xd : Value} {o : OpenP} {r : List OpenP} (h : BkAt w B b lv fv mv pv dv vo xd (o :: r)) :
    ∃ g cap, vo = .slice (some ⟨g, 0, none⟩) (r.length + 1) cap ∧ B ≤ g ∧ g < w.heap.size ∧ r.length + 1 ≤ cap ∧ w.cell? ⟨g, r.length * 3, none⟩ = some (.bool o.yes) ∧ w.cell? ⟨g, r.length * 3 + 1, none⟩ = some (.bool o.els) ∧ w.cell? ⟨g, r.length * 3 + 2, none⟩ = some (.bool o.over) := by
  rcases h.own.2 with ⟨_, h0⟩ | ⟨g, cap, cur, rfl, hb, hg, hc, _⟩
  · simp at h0
  · have hl := openCells_length r
    have e : ∀ j, j < 3 → (openCells (o :: r))[r.length * 3 + j]? = [Value.bool o.yes, .bool o.els, .bool o.over][j]? := by
      intro j hj
      simp only [openCells]
      rw [List.getElem?_append_right (by omega), hl, Nat.add_sub_cancel_left]
    refine ⟨g, cap, rfl, hb, (Array.getElem?_eq_some_iff.1 hg).1, by simpa using hc, ?_, ?_, ?_⟩
    · rw [h.own.cellAt (r.length * 3) (by simp)]; exact e 0 (by omega)
    · rw [h.own.cellAt (r.length * 3 + 1) (by simp; omega)]; exact e 1 (by omega)
    · rw [h.own.cellAt (r.length * 3 + 2) (by simp; omega)]; exact e 2 (by omega)

theorem info_open : (Tryz.prog.info? 190).map (fun i => (i.zero, i.size, i.bytes)) = some (some (.agg #[.bool false, .bool false, .bool false]), 3, 3) := by kernel_rfl

set_option maxHeartbeats 400000 in
theorem over_any (w : World) (B b : Nat) (lv fv mv pv dv vo xd : Value) (opens : List OpenP) (h : BkAt w B b lv fv mv pv dv vo xd opens) :
    Calls Tryz.prog 89 #[.pointer (some ⟨b, 0, none⟩)] w fun e w' => e = .returned (.bool (overP opens)) ∧ w' = w := by
  have c5 : w.cell? ⟨b, 5, none⟩ = some vo := h.row.cell 5 (by simp)
  have hf := h.few
  cases opens with
  | nil =>
    obtain ⟨a, cap, hv⟩ := own_form h.own
    rw [List.length_nil] at hv
    subst hv
    clear h
    go_enter Tryz.func89, Tryz.ntmps89
    go_wp2
    go_ret
    exact ⟨rfl, rfl⟩
  | cons o r =>
    obtain ⟨g, cap, hv, _, hgl, hc, y0, y1, y2⟩ := h.slot
    subst hv
    rw [List.length_cons] at hf
    obtain ⟨n, hn⟩ : ∃ n, r.length = n := ⟨_, rfl⟩
    rw [hn] at c5 hf y0 y1 y2
    have hov : overP (o :: r) = (o.over || !o.yes) := rfl
    rw [hov]
    obtain ⟨yes, els, over⟩ := o
    simp only at y0 y1 y2
    clear h hov hn
    have i1 : (0 : Int) < ((n + 1 : Nat) : Int) := by omega
    have i2 : ((n + 1 : Nat) : Int) - 1 = (n : Int) := by omega
    have d0 : decide ((0 : Int) < ((n + 1 : Nat) : Int)) = true := by simp
    cases over with
    | true =>
      go_enter Tryz.func89, Tryz.ntmps89
      go_wp2
      go_ret
      exact ⟨rfl, rfl⟩
    | false =>
      go_enter Tryz.func89, Tryz.ntmps89
      go_wp2
      go_ret
      exact ⟨rfl, rfl⟩

end Go.Proofs.YtcepppilgncdmaaGreatDoor
