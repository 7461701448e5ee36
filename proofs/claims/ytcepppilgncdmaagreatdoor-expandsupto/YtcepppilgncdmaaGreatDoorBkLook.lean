/-
  The book of lists that came out (package masonlaw): 'looks', where only lines were kept.
-/
import Derived.Test.YtcepppilgncdmaaGreatDoorBkKeep
import Derived.LoopN
namespace Go.Proofs.YtcepppilgncdmaaGreatDoor
open Go.RowKit

theorem reps_get {mk : List Value} (hm : mk.length = 4) : ∀ (k j r : Nat), j < k → r < 4 → (reps mk k)[j * 4 + r]? = mk[r]? := by
  intro k
  induction k with
  | zero => intro j r h; omega
  | succ k ih =>
    intro j r hj hr
    have hl := reps_length mk k
    rw [hm] at hl
    rw [reps]
    by_cases h : j < k
    · rw [List.getElem?_append_left (by omega)]
      exact ih j r h hr
    · have hjk : j = k := by omega
      subst hjk
      rw [List.getElem?_append_right (by omega), hl, Nat.add_sub_cancel_left]

theorem kept_form {w : World} {B i : Nat} {us : List Value} (h : KeptAt w B us) (hi : i < us.length) : ∃ a n c, us[i] = .slice a n c ∧ n ≤ maxLen ∧ (n = 0 ∨ ∃ g, a = some ⟨g, 0, none⟩ ∧ ∀ j, j < n → w.cell? ⟨g, j * 4, none⟩ = some (.string ⟨#[]⟩) ∧ w.cell? ⟨g, j * 4 + 1, none⟩ = some (.int .i64 (-1000 - ((i / 4 : Nat) : Int))) ∧ w.cell? ⟨g, j * 4 + 2, none⟩ = some (.int .i64 0) ∧ w.cell? ⟨g, j * 4 + 3, none⟩ = some (.int .i64 0)) := by
  obtain ⟨k, h1, _⟩ := h i us[i] (List.getElem?_eq_getElem hi)
  rcases h1.2 with ⟨h2, rfl⟩ | ⟨g, cap, cur, h2, h3, h4, h5, h6, h7, h8⟩
  · exact ⟨none, 0, 0, h2, Nat.zero_le _, Or.inl rfl⟩
  · refine ⟨_, _, _, h2, Nat.le_trans h5 h6, Or.inr ⟨g, rfl, fun j hj => ?_⟩⟩
    rw [h2] at h1
    rw [h1.cellAt (j * 4) (by omega), h1.cellAt (j * 4 + 1) (by omega), h1.cellAt (j * 4 + 2) (by omega), h1.cellAt (j * 4 + 3) (by omega), reps_get rfl k j 1 hj (by omega), reps_get rfl k j 2 hj (by omega), reps_get rfl k j 3 hj (by omega)]
    exact ⟨reps_get rfl k j 0 hj (by omega), rfl, rfl, rfl⟩

set_option maxRecDepth 100000 in
set_option maxHeartbeats 800000 in
theorem looks_any (w : World) (lo B kb : Nat) (vb : Value) (us : List Value) (hbk : BookAt w lo B kb vb (.slice none 0 0) (.slice none 0 0) us) (hN : us.length ≤ maxLen) :
    Calls Tryz.prog 19 #[.pointer (some ⟨kb, 0, none⟩)] w fun e w' => e = .returned (.bool true) ∧ w' = w := by
  have c0 : w.cell? ⟨kb, 0, none⟩ = some vb := hbk.row.cell 0 (by simp)
  have c1 : w.cell? ⟨kb, 1, none⟩ = some (.slice none 0 0) := hbk.row.cell 1 (by simp)
  have c2 : w.cell? ⟨kb, 2, none⟩ = some (.slice none 0 0) := hbk.row.cell 2 (by simp)
  have hv : ∃ ab cb, vb = .slice ab us.length cb ∧ (us.length = 0 ∨ ∃ g, ab = some ⟨g, 0, none⟩ ∧ ∀ i (h : i < us.length), w.cell? ⟨g, i, none⟩ = some us[i]) := by
    have ho := hbk.own
    rcases ho.2 with ⟨h2, h0⟩ | ⟨g, cap', cur, h2, _⟩
    · exact ⟨none, 0, by rw [h2, h0], Or.inl h0⟩
    · refine ⟨_, _, h2, Or.inr ⟨g, rfl, fun i hi => ?_⟩⟩
      rw [h2] at ho
      rw [ho.cellAt i (by omega), List.getElem?_eq_getElem hi]
  obtain ⟨ab, cb, rfl, hcs⟩ := hv
  obtain ⟨N, hNe⟩ : ∃ N, us.length = N := ⟨_, rfl⟩
  rw [hNe] at c0
  have hN2 : N ≤ maxLen := by omega
  unfold maxLen at hN2
  have HCS := hid hcs
  have HKP := hid hbk.kept
  clear hcs hbk
  go_enter Tryz.func19, Tryz.ntmps19
  go_wp2_with fail
  go_loopw [3] (fun i wr => ∃ t : Nat, t ≤ N ∧ i = .int .i64 t ∧ wr = w) (fun i _ => N - (intOf i).toNat)
  case atStart => exact ⟨0, Nat.zero_le _, rfl, rfl⟩
  case round =>
    obtain ⟨t, ht, rfl, rfl⟩ := hrel
    by_cases hlt : t < N
    · have d1 : decide ((t : Int) < (N : Int)) = true := by simp; omega
      obtain ⟨q, hq⟩ : ∃ q, t / 4 = q := ⟨_, rfl⟩
      have hq1 : Int.tdiv (t : Int) 4 = (q : Int) := by rw [Int.tdiv_eq_ediv_of_nonneg (by omega)]; omega
      rcases HCS.out with h0 | ⟨gb, rfl, hcs⟩
      · omega
      · have e0 := hcs t (by omega)
        clear hcs
        obtain ⟨a, n, c, hu, hn, hm⟩ := kept_form HKP.out (i := t) (by omega)
        rw [hu] at e0
        rw [hq] at hm
        have HM := hid hm
        unfold maxLen at hn
        clear hm hu
        go_wp2_with fail
        go_loopw [4] (fun i wx => ∃ s : Nat, s ≤ n ∧ i = .int .i64 s ∧ wx = wr) (fun i _ => n - (intOf i).toNat)
        case atStart => exact ⟨0, Nat.zero_le _, rfl, rfl⟩
        case round =>
          obtain ⟨s, hs, rfl, rfl⟩ := hrel
          by_cases hls : s < n
          · have d2 : decide ((s : Int) < (n : Int)) = true := by simp; omega
            rcases HM.out with h0 | ⟨g, rfl, hm⟩
            · omega
            · obtain ⟨m0, m1, m2, m3⟩ := hm s hls
              clear hm
              go_wp2_with fail
              go_roundw
              case rel => exact ⟨s + 1, by omega, by go_num, by trivial⟩
              case measure => simp [intOf]; omega
          · have d2 : decide ((s : Int) < (n : Int)) = false := by simp; omega
            go_wp2_with fail
            go_roundw
            case rel => exact ⟨t + 1, by omega, by go_num, by trivial⟩
            case measure => simp [intOf]; omega
    · have d1 : decide ((t : Int) < (N : Int)) = false := by simp; omega
      go_wp2
      refine wp_loop_rounds 1 ?_
      rw [rounds_succ]
      go_wp2
      refine wp_loop_rounds 1 ?_
      rw [rounds_succ]
      go_wp2
      go_ret
      exact ⟨rfl, rfl⟩

end Go.Proofs.YtcepppilgncdmaaGreatDoor
