/-
  What each reading function of package expression answers, said by the plain functions; a text has at most as many bytes as a Go text can have.
  What the program's functions of one line (package lines) answer, said by the plain functions; the variable MaxLen of the library holds some number.
-/
import Derived.Test.YtcepppilgncdmaaGreatDoorBS06
import Derived.Test.YtcepppilgncdmaaGreatDoorBS07
import Derived.Test.YtcepppilgncdmaaGreatDoorBS08
import Derived.OwnWalk
import Derived.Deep.QuietTactic
import Derived.BigQuiet
import Derived.Deep.CutBlock
import Derived.Deep.DeepCutAuto
import Derived.Deep.LoopGhost
namespace Go.Proofs.YtcepppilgncdmaaGreatDoor
open Go.RowKit

theorem wordLen_at (s : ByteArray) (k : Nat) (h : k < s.size) (hb : nbB (s[k].toNat : Int) = true) : wordLen ((L s).drop k) = wordLen ((L s).drop (k + 1)) + 1 := by
  rw [L_drop s k h]; simp [wordLen, hb]
theorem wordLen_no (s : ByteArray) (k : Nat) (h : k < s.size) (hb : nbB (s[k].toNat : Int) = false) : wordLen ((L s).drop k) = 0 := by
  rw [L_drop s k h]; simp [wordLen, hb]

theorem digs_at (base v : Int) (n : Nat) (s : ByteArray) (k : Nat) (h : k < s.size) (hb : hexv (s[k].toNat : Int) < base) : digs base v n ((L s).drop k) = digs base (min (v * base + hexv (s[k].toNat : Int)) 1000001) (n + 1) ((L s).drop (k + 1)) := by
  rw [L_drop s k h]; simp only [digs]; rw [if_pos hb]
theorem digs_no (base v : Int) (n : Nat) (s : ByteArray) (k : Nat) (h : k < s.size) (hb : ¬ hexv (s[k].toNat : Int) < base) : digs base v n ((L s).drop k) = (v, n) := by
  rw [L_drop s k h]; simp only [digs]; rw [if_neg hb]
theorem digs_out (base v : Int) (n : Nat) (s : ByteArray) (k : Nat) (h : s.size ≤ k) : digs base v n ((L s).drop k) = (v, n) := by
  rw [L_end s k h]; rfl
theorem min_if (x : Int) : (if 1000001 < x then 1000001 else x) = min x 1000001 := by
  split <;> omega
theorem byte_bd (c : UInt8) : 0 ≤ (c.toNat : Int) ∧ (c.toNat : Int) ≤ 255 := by
  have := c.toNat_lt
  omega
theorem pair_eq {α β : Type} {a c : α} {b d : β} (h : (a, b) = (c, d)) : a = c ∧ b = d := by injection h with h1 h2; exact ⟨h1, h2⟩
theorem trip_eq {α β γ : Type} {a c : α} {b d : β} {x y : γ} (h : (a, b, x) = (c, d, y)) : a = c ∧ b = d ∧ x = y := by
  injection h with h1 h2; injection h2 with h2 h3; exact ⟨h1, h2, h3⟩

set_option maxHeartbeats 400000 in
theorem readDigits_any (s : ByteArray) (base : Int) (w : World) (v : Int) (n : Nat) (hs : s.size ≤ maxLen) (hb : base = 10 ∨ base = 16) (hv : Hid (digs base 0 0 (L s) = (v, n))) :
    Calls Tryz.prog 124 #[.string s, .int .i64 base] w fun e w' => e = .returned (.tuple #[.int .i64 v, .int .i64 n]) ∧ w' = w := by
  unfold maxLen at hs
  have hb0 : 0 ≤ base := by omega
  have hb1 : base ≤ 16 := by omega
  clear hb
  go_enter Tryz.func124, Tryz.ntmps124
  go_wp2
  go_loop [6, 7] (fun v i => ∃ (x : Int) (k : Nat), k ≤ s.size ∧ 0 ≤ x ∧ x ≤ 1000001 ∧ i = .int .i64 k ∧ v = .int .i64 x ∧ digs base 0 0 (L s) = digs base x k ((L s).drop k)) (fun _ i => s.size - (intOf i).toNat)
  case atStart => exact ⟨0, 0, Nat.zero_le _, by omega, by omega, rfl, rfl, by rw [List.drop_zero]⟩
  case round =>
    obtain ⟨x, k, hk, hx0, hx1, rfl, rfl, hd⟩ := hrel
    have HD := hid hd
    clear hd
    by_cases hlt : k < s.size
    · have hx2 : 0 ≤ x * base := Int.mul_nonneg hx0 hb0
      have hx3 : x * base ≤ 1000001 * 16 := Int.mul_le_mul hx1 hb1 hb0 (by omega)
      have hh := hexv_lo (s[k].toNat : Int)
      by_cases hdg : hexv (s[k].toNat : Int) < base
      · have HS := hid (digs_at base x k s k hlt hdg)
        go_wp2_with (go_at_call 155; refine (digitValue_any _ _).mono ?_; rintro e w' ⟨rfl, rfl⟩)
        all_goals
          go_round
          case rel => exact ⟨min (x * base + hexv (s[k].toNat : Int)) 1000001, k + 1, by omega, by omega, by omega, by go_num, congrArg (Value.int IntKind.i64) (min_if _), by rw [HD.out, HS.out]⟩
          case measure => simp [intOf]; omega
      · have HS := hid (pair_eq (hv.out.symm.trans (HD.out.trans (digs_no base x k s k hlt hdg))))
        go_wp2_with (go_at_call 155; refine (digitValue_any _ _).mono ?_; rintro e w' ⟨rfl, rfl⟩)
        go_ret2
        obtain ⟨h1, h2⟩ := HS.out
        rw [h1, h2]
        exact ⟨rfl, rfl⟩
    · have HS := hid (pair_eq (hv.out.symm.trans (HD.out.trans (digs_out base x k s k (by omega)))))
      go_wp2
      go_ret2
      obtain ⟨h1, h2⟩ := HS.out
      rw [h1, h2]
      exact ⟨rfl, rfl⟩

set_option maxHeartbeats 400000 in
theorem findBase16_any (s : ByteArray) (w : World) (v : Int) (n : Nat) (er : Int) (hs : s.size ≤ maxLen) (h1 : 1 ≤ s.size) (hv : base16 ((L s).drop 1) = (v, n, er)) :
    Calls Tryz.prog 125 #[.string s] w fun e w' => e = .returned (.tuple #[.int .i64 v, .int .i64 n, .int .i64 er]) ∧ w' = w := by
  have hs' : (s.extract 1 s.size).size ≤ maxLen := by rw [ByteArray.size_extract]; omega
  have hle := digs_le 16 ((L s).drop 1) 0 0
  rw [List.length_drop, L_length] at hle
  unfold maxLen at hs
  rcases hg : digs 16 0 0 ((L s).drop 1) with ⟨x, k⟩
  have HG : Hid (digs 16 0 0 (L (s.extract 1 s.size)) = (x, k)) := by rw [L_suffix]; exact hg
  unfold base16 at hv
  rw [hg] at hv hle
  clear hg
  simp only at hle hv
  by_cases hn : k = 0
  · subst hn
    rw [if_pos rfl] at hv
    obtain ⟨rfl, rfl, rfl⟩ := trip_eq hv
    go_enter Tryz.func125, Tryz.ntmps125
    go_wp2_with (go_at_call 124; refine (readDigits_any _ _ _ _ _ hs' (Or.inr rfl) HG).mono ?_; rintro e w' ⟨rfl, rfl⟩)
    go_ret3
    exact ⟨rfl, rfl⟩
  · have hn' : ((k : Int) == 0) = false := by simp; omega
    rw [if_neg hn] at hv
    obtain ⟨rfl, rfl, rfl⟩ := trip_eq hv
    clear hv
    go_enter Tryz.func125, Tryz.ntmps125
    go_wp2_with (go_at_call 124; refine (readDigits_any _ _ _ _ _ hs' (Or.inr rfl) HG).mono ?_; rintro e w' ⟨rfl, rfl⟩)
    go_ret3
    exact ⟨ret_three rfl (by go_num) rfl, rfl⟩

set_option maxHeartbeats 400000 in
theorem findQuoted_any (s : ByteArray) (w : World) (v : Int) (n : Nat) (er : Int) (h1 : 1 ≤ s.size) (hv : quoted ((L s).drop 1) = (v, n, er)) :
    Calls Tryz.prog 126 #[.string s] w fun e w' => e = .returned (.tuple #[.int .i64 v, .int .i64 n, .int .i64 er]) ∧ w' = w := by
  by_cases h3 : s.size < 3
  · have hq : quoted ((L s).drop 1) = (0, 0, 4) := by
      have := L_length s
      match hl : (L s).drop 1 with
      | [] => rfl
      | [a] => rfl
      | a :: b :: r => have h := congrArg List.length hl; rw [List.length_drop, this] at h; simp at h; omega
    obtain ⟨rfl, rfl, rfl⟩ := trip_eq (hv.symm.trans hq)
    clear hv hq
    go_enter Tryz.func126, Tryz.ntmps126
    go_wp2
    go_ret3
    exact ⟨rfl, rfl⟩
  · rw [L_drop s 1 (by omega), L_drop s 2 (by omega)] at hv
    simp only [quoted] at hv
    have k3 : decide ((s.size : Int) < 3) = false := by simp; omega
    have hy := byte_bd s[1]
    by_cases ha : (s[1].toNat : Int) = 39
    · rw [if_pos (Or.inl ha)] at hv
      obtain ⟨rfl, rfl, rfl⟩ := trip_eq hv
      clear hv
      go_enter Tryz.func126, Tryz.ntmps126
      go_wp2
      go_ret3
      exact ⟨rfl, rfl⟩
    · have ka : ((s[1].toNat : Int) == 39) = false := by simp; omega
      by_cases hb : (s[2].toNat : Int) = 39
      · have kb : ((s[2].toNat : Int) != 39) = false := by simp; omega
        rw [if_neg (by omega)] at hv
        obtain ⟨rfl, rfl, rfl⟩ := trip_eq hv
        clear hv
        go_enter Tryz.func126, Tryz.ntmps126
        go_wp2
        go_ret3
        exact ⟨rfl, rfl⟩
      · have kb : ((s[2].toNat : Int) != 39) = true := by simp; omega
        rw [if_pos (Or.inr hb)] at hv
        obtain ⟨rfl, rfl, rfl⟩ := trip_eq hv
        clear hv
        go_enter Tryz.func126, Tryz.ntmps126
        go_wp2
        go_ret3
        exact ⟨rfl, rfl⟩

theorem nameB_nil (s : ByteArray) (h : s.size = 0) : nameB (L s) = false := by
  have := L_end s 0 (by omega)
  rw [List.drop_zero] at this
  rw [this]; rfl
theorem nameB_eq (s : ByteArray) (h : 0 < s.size) : nameB (L s) = (decide (s.size ≤ 8) && !digB (s[0].toNat : Int) && !regB (L s) && allNb (L s)) := by
  have h0 := L_drop s 0 h
  rw [List.drop_zero] at h0
  have hl := L_length s
  rw [h0] at hl ⊢
  rw [← hl]
  rfl
theorem allNb_at (s : ByteArray) (k : Nat) (h : k < s.size) : allNb ((L s).drop k) = (nbB (s[k].toNat : Int) && allNb ((L s).drop (k + 1))) := by
  rw [L_drop s k h]; rfl

theorem empty_of (s : ByteArray) (h : s.size = 0) : s = ⟨#[]⟩ := by
  apply L_inj
  have := L_end s 0 (by omega)
  rw [List.drop_zero] at this
  rw [this]; rfl
theorem not_empty (s : ByteArray) (h : 0 < s.size) : s.toList.isEmpty = false := by
  rw [ByteArray.toList_eq]
  have := L_length s
  unfold L at this
  cases hl : s.data.toList with
  | nil => rw [hl] at this; simp at this; omega
  | cons => rfl

set_option maxHeartbeats 800000 in
theorem IsName_any (s : ByteArray) (w : World) (hs : s.size ≤ maxLen) :
    Calls Tryz.prog 78 #[.string s] w fun e w' => e = .returned (.bool (nameB (L s))) ∧ w' = w := by
  unfold maxLen at hs
  by_cases h0 : s.size = 0
  · have HN := hid (nameB_nil s h0)
    have he := empty_of s h0
    subst he
    clear h0 hs
    go_enter Tryz.func78, Tryz.ntmps78
    go_wp2_with fail
    go_ret
    rw [HN.out]
    exact ⟨rfl, rfl⟩
  · have hpos : 0 < s.size := by omega
    have ke := not_empty s hpos
    have HN := hid (nameB_eq s hpos)
    by_cases h8 : 8 < s.size
    · have HF := hid (show nameB (L s) = false by rw [HN.out, decide_eq_false (by omega)]; rfl)
      go_enter Tryz.func78, Tryz.ntmps78
      go_wp2_with fail
      go_ret
      rw [HF.out]
      exact ⟨rfl, rfl⟩
    · have k8 : decide ((8 : Int) < s.size) = false := by simp; omega
      by_cases hd : digB (s[0].toNat : Int) = true
      · have HF := hid (show nameB (L s) = false by rw [HN.out]; simp [hd])
        go_enter Tryz.func78, Tryz.ntmps78
        go_wp2_with (first | (go_at_call 119; refine (isDigit_any _ _).mono ?_; rintro e w' ⟨rfl, rfl⟩))
        go_ret
        rw [HF.out]
        exact ⟨rfl, rfl⟩
      · have kd : digB (s[0].toNat : Int) = false := by simpa using hd
        by_cases hr : regB (L s) = true
        · have HF := hid (show nameB (L s) = false by rw [HN.out]; simp [hr])
          go_enter Tryz.func78, Tryz.ntmps78
          go_wp2_with (first | (go_at_call 119; refine (isDigit_any _ _).mono ?_; rintro e w' ⟨rfl, rfl⟩) | (go_at_call 114; refine (Register_any _ _).mono ?_; rintro e w' ⟨rfl, rfl⟩))
          go_ret
          rw [HF.out]
          exact ⟨rfl, rfl⟩
        · have kr : regB (L s) = false := by simpa using hr
          have HF := hid (show nameB (L s) = allNb (L s) by rw [HN.out, kr, kd, decide_eq_true (by omega)]; rfl)
          clear HN
          go_enter Tryz.func78, Tryz.ntmps78
          go_wp2_with (first | (go_at_call 119; refine (isDigit_any _ _).mono ?_; rintro e w' ⟨rfl, rfl⟩) | (go_at_call 114; refine (Register_any _ _).mono ?_; rintro e w' ⟨rfl, rfl⟩))
          go_loop [26] (fun i => ∃ k : Nat, k ≤ s.size ∧ i = .int .i64 k ∧ allNb (L s) = allNb ((L s).drop k)) (fun i => s.size - (intOf i).toNat)
          case atStart => exact ⟨0, Nat.zero_le _, rfl, by rw [List.drop_zero]⟩
          case round =>
            obtain ⟨k, hk, rfl, ha⟩ := hrel
            have HA := hid ha
            clear ha
            by_cases hlt : k < s.size
            · have HS := hid (allNb_at s k hlt)
              by_cases hn : nbB (s[k].toNat : Int) = true
              · go_wp2_with (first | (go_at_call 120; refine (isNameByte_any _ _).mono ?_; rintro e w' ⟨rfl, rfl⟩))
                go_round
                case rel => exact ⟨k + 1, by omega, by go_num, by rw [HA.out, HS.out, hn, Bool.true_and]⟩
                case measure => simp [intOf]; omega
              · have kn : nbB (s[k].toNat : Int) = false := by simpa using hn
                go_wp2_with (first | (go_at_call 120; refine (isNameByte_any _ _).mono ?_; rintro e w' ⟨rfl, rfl⟩))
                go_ret
                rw [HF.out, HA.out, HS.out, kn]
                exact ⟨rfl, rfl⟩
            · go_wp2
              go_ret
              rw [HF.out, HA.out, L_end s k (by omega)]
              exact ⟨rfl, rfl⟩

end Go.Proofs.YtcepppilgncdmaaGreatDoor

namespace Go.Proofs.YtcepppilgncdmaaGreatDoor
open Go.RowKit

def MaxAt (w : World) : Prop := ∃ m, w.cell? ⟨0, 0, none⟩ = some (.int .i64 m)
theorem MaxAt.below {w w' : World} (h : MaxAt w) (hb : Below w.heap.size w w') : MaxAt w' := by
  obtain ⟨m, hm⟩ := h
  exact ⟨m, (hb.cell (p := ⟨0, 0, none⟩) (World.block_lt_of_cell? _ _ hm)).trans hm⟩
theorem MaxAt.set {w : World} (h : MaxAt w) {p : Addr} {u : Value} (hp : w.cell? p = some u) (hu : ∀ m, u ≠ .int .i64 m) (v : Value) : MaxAt (w.setCell p v) := by
  obtain ⟨m, hm⟩ := h
  refine ⟨m, (World.cell?_setCell_other _ _ _ _ ?_).trans hm⟩
  rintro rfl
  rw [hm] at hp
  exact hu m (Option.some.inj hp).symm
theorem below_on {B : Nat} {w w0 w1 : World} (h : Below B w w0) (hB : B ≤ w.heap.size) (h1 : Below w0.heap.size w0 w1) : Below B w w1 := h.trans (h1.mono (Nat.le_trans hB h.size))
theorem L_mk (l : List UInt8) : L ⟨l.toArray⟩ = l := rfl
theorem size_L (s : ByteArray) : s.size = (L s).length := (L_length s).symm

theorem wordOf_le (l : List UInt8) : (wordOf l).length ≤ l.length := by
  unfold wordOf; rw [List.length_take, List.length_drop]; omega
theorem restOf_le (l : List UInt8) : (restOf l).length ≤ l.length := by
  unfold restOf; rw [List.length_drop]; omega
theorem noBlank_le (l : List UInt8) : (noBlank l).length ≤ l.length := List.length_filter_le _ _

set_option maxHeartbeats 400000 in
theorem WithoutRemark_any (s : ByteArray) (w : World) (hs : s.size < 4294967281) (hm : MaxAt w) :
    Calls Tryz.prog 76 #[.string s] w fun e w' => ∃ t, L t = cutL (L s) ∧ e = .returned (.string t) ∧ Below w.heap.size w w' := by
  obtain ⟨m, hm⟩ := hm
  have HM := hid hm
  have HS := hid hs
  clear hm hs
  go_enter Tryz.func76, Tryz.ntmps76
  go_wp2_with (first | (go_at_call 116; refine (Tryz.strings_Cut s _ m _ HS.out HM.out).mono ?_; rintro e w' ⟨rfl, n, rfl⟩))
  go_ret
  exact ⟨_, by rw [L_mk]; exact cut_semi _, rfl, below_drewN (Below.refl _ _) _⟩

set_option maxHeartbeats 400000 in
theorem cutWord_any (s : ByteArray) (w : World) (hs : s.size < 4294967281) (hm : MaxAt w) :
    Calls Tryz.prog 75 #[.string s] w fun e w' => ∃ a r, L a = wordOf (L s) ∧ SameW (L r) (restOf (L s)) ∧ r.size ≤ s.size ∧ e = .returned (.tuple #[.string a, .string r]) ∧ Below w.heap.size w w' := by
  obtain ⟨m, hm⟩ := hm
  have HM := hid hm
  have hd : (⟨(Lib.trimLeftB s.data.toList 32).toArray⟩ : ByteArray).size ≤ s.size := by
    rw [size_L, L_mk, trim_blanks, List.length_drop]; show (L s).length - _ ≤ _; rw [L_length]; omega
  have HS := hid (show (⟨(Lib.trimLeftB s.data.toList 32).toArray⟩ : ByteArray).size < 4294967281 by omega)
  have HW := hid (cut_word (L s))
  have HL := hid (show (Lib.cut (Lib.trimLeftB s.data.toList 32) [32]).2.1.length ≤ s.size by
    rw [trim_blanks]
    rcases cut_one 32 (s.data.toList.drop (blanks s.data.toList)) with ⟨h1, _⟩ | ⟨p, r, h1, _, h3⟩
    · rw [h1]; simp
    · rw [h3]
      have := congrArg List.length h1
      rw [List.length_drop, List.length_append, List.length_cons] at this
      have h4 := L_length s
      unfold L at h4
      show r.length ≤ s.size
      omega)
  clear hm hs hd
  go_enter Tryz.func75, Tryz.ntmps75
  go_wp2_with (first | (go_at_call 117; refine (Tryz.strings_TrimLeft_one s 32 (by decide) _).mono ?_; rintro e w' ⟨rfl, rfl⟩) | (go_at_call 116; refine (Tryz.strings_Cut _ _ m _ HS.out HM.out).mono ?_; rintro e w' ⟨rfl, n, rfl⟩))
  go_ret2
  refine ⟨_, _, ?_, ?_, ?_, rfl, below_drewN (Below.refl _ _) _⟩
  · rw [L_mk, L_mk, trim_blanks]; exact HW.out.1
  · rw [L_mk, L_mk, trim_blanks]; exact HW.out.2
  · rw [size_L, L_mk]; exact HL.out

def noParts : List Value := [.string ⟨#[]⟩, .string ⟨#[]⟩, .slice none 0 0]

theorem split_row (w : World) (A : ByteArray) (c : UInt8) :
    StrV (w.alloc (.cells ((Lib.splitB ⟨#[c]⟩ 0 (Lib.countB A ⟨#[c]⟩) A).map Value.string).toArray 9)) w.heap.size (.slice (some ⟨w.heap.size, 0, none⟩) (Lib.countB A ⟨#[c]⟩ + 1) (Lib.countB A ⟨#[c]⟩ + 1)) (Lib.splitB ⟨#[c]⟩ 0 (Lib.countB A ⟨#[c]⟩) A) ∧
    (Lib.splitB ⟨#[c]⟩ 0 (Lib.countB A ⟨#[c]⟩) A).map L = splitB c.toNat (L A) := by
  have hl : (Lib.splitB ⟨#[c]⟩ 0 (Lib.countB A ⟨#[c]⟩) A).length = Lib.countB A ⟨#[c]⟩ + 1 := Lib.splitB_all ⟨#[c]⟩ (Nat.le_refl 1) 0 _ A rfl
  refine ⟨Or.inr ⟨w.heap.size, 0, Lib.countB A ⟨#[c]⟩ + 1, _, by rw [hl], Nat.le_refl _, heap_alloc_new w _, by omega, fun i hi => ?_⟩, ?_⟩
  · simp [hi]
  · have := Lib.splitB_data ⟨#[c]⟩ 0 (Lib.countB A ⟨#[c]⟩) A
    refine this.trans ?_
    exact splitK_one c _ (L A) (Nat.le_refl _)

theorem suffix_any (a : ByteArray) (w : World) (mk : Bool) (lb : ByteArray) (hs : a.size ≤ 100000) (h1 : Lib.hasSuffix (L a) [58] = mk) (h2 : L lb = Lib.trimSuffix (L a) [58]) :
    Calls Tryz.prog 77 #[.string a, .string ⟨#[58]⟩] w fun e w' => e = .returned (.tuple #[.string lb, .bool mk]) ∧ w' = w := by
  refine (Tryz.strings_CutSuffix a ⟨#[58]⟩ w (by omega)).mono ?_
  rintro e w' ⟨rfl, rfl⟩
  refine ⟨?_, rfl⟩
  have e1 : (⟨(Lib.trimSuffix a.data.toList (⟨#[58]⟩ : ByteArray).data.toList).toArray⟩ : ByteArray) = lb := L_inj h2.symm
  have e2 : Lib.hasSuffix a.data.toList (⟨#[58]⟩ : ByteArray).data.toList = mk := h1
  rw [e1, e2]
theorem replace_any (r : ByteArray) (w : World) (A : ByteArray) (hs : r.size ≤ 100000) (hm : MaxAt w) (h : L A = noBlank (L r)) :
    Calls Tryz.prog 79 #[.string r, .string ⟨#[32]⟩, .string ⟨#[]⟩] w fun e w' => e = .returned (.string A) ∧ Below w.heap.size w w' := by
  obtain ⟨m, hm⟩ := hm
  refine (Tryz.strings_ReplaceAll r ⟨#[32]⟩ ⟨#[]⟩ m w (by omega) hm (Nat.le_refl 1) (by show r.size + _ * 0 ≤ _; omega)).mono ?_
  rintro e w' ⟨rfl, hb⟩
  refine ⟨?_, hb⟩
  have e1 : (⟨(Lib.replaceAll r.data.toList (⟨#[32]⟩ : ByteArray).data.toList (⟨#[]⟩ : ByteArray).data.toList).toArray⟩ : ByteArray) = A := L_inj ((replaceAll_blanks (L r)).trans h.symm)
  rw [e1]
theorem split_any (A : ByteArray) (c : UInt8) (w : World) (hs : A.size ≤ 100000) (hm : MaxAt w) :
    Calls Tryz.prog 44 #[.string A, .string ⟨#[c]⟩] w fun e w' => ∃ v parts, e = .returned v ∧ StrV w' w.heap.size v parts ∧ parts.map L = splitB c.toNat (L A) ∧ Below w.heap.size w w' := by
  obtain ⟨m, hm⟩ := hm
  refine (Tryz.strings_Split A ⟨#[c]⟩ m w (by omega) hm (Nat.le_refl 1)).mono ?_
  rintro e w' ⟨rfl, rfl⟩
  exact ⟨_, _, rfl, (split_row w A c).1, (split_row w A c).2, (Below.refl _ _).alloc (Nat.le_refl _) _⟩

set_option maxHeartbeats 1600000 in
theorem Read_any (s : ByteArray) (w : World) (hs : s.size ≤ 100000) (hm : MaxAt w) :
    Calls Tryz.prog 48 #[.string s] w fun e w' => ∃ lb op v os, e = .returned (.agg #[.string lb, .string op, v]) ∧ PartsV w' w.heap.size lb op v os (wordsP (cutL (L s))) ∧ Below w.heap.size w w' := by
  obtain ⟨B, hB⟩ : ∃ B, w.heap.size = B := ⟨_, rfl⟩
  have HB := hid hB
  have HM := hid hm
  have HS := hid hs
  have HR0 := hid (show RowT ((w.alloc (.cells noParts.toArray 101)).alloc (.cells noParts.toArray 101)) 101 B noParts from (hB ▸ RowT.new w 101 noParts).alloc _)
  have HR1 := hid (show RowT ((w.alloc (.cells noParts.toArray 101)).alloc (.cells noParts.toArray 101)) 101 (B + 1) noParts from by
    have := RowT.new (w.alloc (.cells noParts.toArray 101)) 101 noParts
    rw [show (w.alloc (.cells noParts.toArray 101)).heap.size = B + 1 from by simp [hB]] at this
    exact this)
  have HB1 := hid (show Below B w ((w.alloc (.cells noParts.toArray 101)).alloc (.cells noParts.toArray 101)) from ((Below.refl B w).alloc (by omega) _).alloc (by simp; omega) _)
  have HM1 := hid (show MaxAt ((w.alloc (.cells noParts.toArray 101)).alloc (.cells noParts.toArray 101)) from hm.below (((Below.refl _ w).alloc (Nat.le_refl _) _).alloc (by simp) _))
  clear hm hs
  go_enter Tryz.func48, Tryz.ntmps48
  go_wp2_with fail
  refine (WithoutRemark_any s _ (by have := HS.out; omega) HM1.out).mono ?_
  rintro e w1 ⟨t, ht, rfl, hb1⟩
  have hts : t.size ≤ 100000 := by rw [size_L, ht]; have := cutL_le (L s); rw [L_length] at this; have := HS.out; omega
  have HT := hid ht
  have HR0 := hid (HR0.out.below hb1)
  have HR1 := hid (HR1.out.below hb1)
  have HB1 := hid (below_on HB1.out (Nat.le_of_eq hB.symm) hb1)
  have HM1 := hid (HM1.out.below hb1)
  clear hb1 ht
  go_wp2_with fail
  refine (cutWord_any t _ (by omega) HM1.out).mono ?_
  rintro e w2 ⟨a, r, ha, hr, hrs, rfl, hb2⟩
  have has : a.size ≤ 100000 := by rw [size_L, ha]; have := wordOf_le (L t); rw [L_length] at this; omega
  have HA := hid ha
  have HRR := hid hr
  have HR0 := hid (HR0.out.below hb2)
  have HR1 := hid (HR1.out.below hb2)
  have HB1 := hid (below_on HB1.out (Nat.le_of_eq hB.symm) hb2)
  have HM1 := hid (HM1.out.below hb2)
  clear hb2 ha hr HM HS
  obtain ⟨mk, hmk⟩ : ∃ mk, Lib.hasSuffix (L a) [58] = mk := ⟨_, rfl⟩
  obtain ⟨lb, hlb⟩ : ∃ lb, L lb = Lib.trimSuffix (L a) [58] := ⟨⟨(Lib.trimSuffix (L a) [58]).toArray⟩, rfl⟩
  have HMK := hid hmk
  have HLB := hid hlb
  clear hmk hlb
  have hex : lb.size ≤ maxLen := by
    rw [size_L, HLB.out]; unfold Lib.trimSuffix maxLen
    have := L_length a
    split
    · rw [List.length_take]; omega
    · omega
  have hrs' : r.size ≤ 100000 := by omega
  have hand := (label_suffix (L a)).1
  rw [HMK.out, ← HLB.out] at hand
  have hcs : (labelB (L a) = false ∧ mk = false) ∨ (labelB (L a) = false ∧ mk = true ∧ nameB (L lb) = false) ∨ (labelB (L a) = true ∧ mk = true ∧ nameB (L lb) = true) := by
    cases mk <;> cases hn : nameB (L lb) <;> simp_all
  clear hand
  have HLAB := hid (show labelB (wordOf (cutL (L s))) = labelB (L a) by rw [← HT.out, ← HA.out])
  have HF := hid (show labelB (L a) = false → L (⟨#[]⟩ : ByteArray) = (wordsP (cutL (L s))).label ∧ L a = (wordsP (cutL (L s))).op ∧ operandsOf (L r) = (wordsP (cutL (L s))).operands by
    intro hml
    unfold wordsP; rw [HLAB.out, hml, ← HT.out]
    refine ⟨rfl, HA.out, ?_⟩
    have := HRR.out.1
    unfold operandsOf
    rw [this]; rfl)
  have HG := hid (show labelB (L a) = true → L lb = (wordsP (cutL (L s))).label by
    intro hml
    unfold wordsP; rw [HLAB.out, hml, HLB.out, (label_suffix (L a)).2 hml, HA.out, HT.out]; rfl)
  rcases hcs with ⟨hml, rfl⟩ | ⟨hml, rfl, hn⟩ | ⟨hml, rfl, hn⟩
  obtain ⟨f1, f2, f3⟩ := HF.out hml
  have HF1 := hid f1
  have HF2 := hid f2
  have HF3 := hid f3
  clear f1 f2 f3 hml
  obtain ⟨lF, hlF⟩ : ∃ x, x = (⟨#[]⟩ : ByteArray) := ⟨_, rfl⟩
  rw [← hlF] at HF1
  have HR1 := hid (show RowT w2 101 (B + 1) [.string lF, .string ⟨#[]⟩, .slice none 0 0] by rw [hlF]; exact HR1.out)
  obtain ⟨opF, hoF⟩ : ∃ x, x = a := ⟨_, rfl⟩
  subst hoF
  obtain ⟨rF, hrF⟩ : ∃ x, x = r := ⟨_, rfl⟩
  subst hrF
  clear hlF
  go_upto_region 7 with (first | (go_at_call 77; refine (suffix_any opF _ false lb has HMK.out HLB.out).mono ?_; rintro e wF ⟨rfl, rfl⟩))
  rotate_left
  obtain ⟨f1, f2, f3⟩ := HF.out hml
  have HF1 := hid f1
  have HF2 := hid f2
  have HF3 := hid f3
  have HN := hid hn
  clear f1 f2 f3 hml hn
  obtain ⟨lF, hlF⟩ : ∃ x, x = (⟨#[]⟩ : ByteArray) := ⟨_, rfl⟩
  rw [← hlF] at HF1
  have HR1 := hid (show RowT w2 101 (B + 1) [.string lF, .string ⟨#[]⟩, .slice none 0 0] by rw [hlF]; exact HR1.out)
  obtain ⟨opF, hoF⟩ : ∃ x, x = a := ⟨_, rfl⟩
  subst hoF
  obtain ⟨rF, hrF⟩ : ∃ x, x = r := ⟨_, rfl⟩
  subst hrF
  clear hlF
  go_upto_region 7 with (first | (go_at_call 77; refine (suffix_any opF _ true lb has HMK.out HLB.out).mono ?_; rintro e w' ⟨rfl, rfl⟩) | (go_at_call 78; refine (IsName_any _ _ hex).mono ?_; rw [HN.out]; rintro e wF ⟨rfl, rfl⟩))
  rotate_left
  have HF1 := hid (HG.out hml)
  have HN := hid hn
  have HL := hid (HLAB.out.trans hml)
  have c0 := HR1.out.cell 0 (by decide)
  have f0 := HR1.out.free 0
  have HR1 := hid (HR1.out.set 0 (.string lb))
  have HR0 := hid (HR0.out.other (B + 1) 0 (by omega) (.string lb))
  have HB1 := hid (HB1.out.setCell (p := ⟨B + 1, 0, none⟩) (by show B ≤ B + 1; omega) (.string lb))
  have HM1 := hid (MaxAt.set HM1.out c0 (by intro m; simp [noParts]) (.string lb))
  obtain ⟨lF, hlF⟩ : ∃ x, x = lb := ⟨_, rfl⟩
  subst hlF
  clear hn hml
  go_upto_region 7 with (first | (go_at_call 77; refine (suffix_any a _ true lF has HMK.out HLB.out).mono ?_; rintro e w' ⟨rfl, rfl⟩) | (go_at_call 78; refine (IsName_any _ _ hex).mono ?_; rw [HN.out]; rintro e wn ⟨rfl, rfl⟩) | (go_at_call 75; refine (cutWord_any r _ (by omega) HM1.out).mono ?_; rintro e wF ⟨opF, rF, ha2, hr2, hrs2, rfl, hb3⟩))
  have HF2 := hid (show L opF = (wordsP (cutL (L s))).op by unfold wordsP; rw [HL.out, ha2, HRR.out.2.1, HT.out]; rfl)
  have HF3 := hid (show operandsOf (L rF) = (wordsP (cutL (L s))).operands by
    unfold wordsP; rw [HL.out, ← HT.out]
    have h3 := hr2.1
    rw [HRR.out.2.2] at h3
    unfold operandsOf
    rw [h3]; rfl)
  have hrs' : rF.size ≤ 100000 := by omega
  have HR0 := hid (HR0.out.below hb3)
  have HR1 := hid (show RowT wF 101 (B + 1) [.string lF, .string ⟨#[]⟩, .slice none 0 0] from HR1.out.below hb3)
  have HB1 := hid (below_on HB1.out (Nat.le_of_eq hB.symm) hb3)
  have HM1 := hid (HM1.out.below hb3)
  clear ha2 hr2 hrs2 hb3 c0 f0
  rotate_left
  all_goals
    have c1 := HR1.out.cell 1 (by simp)
    have f1 := HR1.out.free 1
    have HR1 := hid (show RowT _ 101 (B + 1) [.string lF, .string opF, .slice none 0 0] from HR1.out.set 1 (.string opF))
    have HR0 := hid (HR0.out.other (B + 1) 1 (by omega) (.string opF))
    have HB1 := hid (HB1.out.setCell (p := ⟨B + 1, 1, none⟩) (by show B ≤ B + 1; omega) (.string opF))
    have HM1 := hid (MaxAt.set HM1.out c1 (by intro m; simp) (.string opF))
    obtain ⟨A, hA⟩ : ∃ A, L A = noBlank (L rF) := ⟨⟨(noBlank (L rF)).toArray⟩, rfl⟩
    have hAs : A.size ≤ 100000 := by rw [size_L, hA]; have := noBlank_le (L rF); rw [L_length] at this; omega
    have HAN := hid hA
    clear hA
    go_wp2_with fail
    refine (replace_any rF _ A hrs' HM1.out HAN.out).mono ?_
    rintro e w4 ⟨rfl, hb4⟩
    have HR1 := hid (HR1.out.below hb4)
    have HR0 := hid (HR0.out.below hb4)
    have HB1 := hid (below_on HB1.out (Nat.le_of_eq hB.symm) hb4)
    have HM1 := hid (HM1.out.below hb4)
    have hlt1 := HR1.out.lt
    clear hb4 c1 f1
    by_cases hz : A.size = 0
    · have hAe := empty_of A hz
      subst hAe
      have HO := hid (show (wordsP (cutL (L s))).operands = [] by rw [← HF3.out]; unfold operandsOf; rw [if_pos (by rw [← HAN.out]; rfl)])
      have y0 := HR1.out.cell 0 (by simp)
      have y1 := HR1.out.cell 1 (by simp)
      have y2 := HR1.out.cell 2 (by simp)
      have x0 := HR0.out.cell 0 (by decide)
      have x1 := HR0.out.cell 1 (by decide)
      have x2 := HR0.out.cell 2 (by decide)
      have z0 := HR0.out.free 0
      have z1 := HR0.out.free 1
      have z2 := HR0.out.free 2
      have hlt0 := HR0.out.lt
      clear hz
      go_wp2
      refine bodyPost_ret (v := .agg #[.string lF, .string opF, .slice none 0 0]) (by simp [results, Tryz.results48, go_sem, x0, x1, x2]) rfl ⟨lF, opF, _, [], rfl, ⟨HF1.out, HF2.out, HO.out.symm, Or.inl ⟨rfl, rfl⟩⟩, ?_⟩
      rw [HB.out]
      exact ((HB1.out.setCell (Nat.le_refl _) _).setCell (Nat.le_refl _) _).setCell (Nat.le_refl _) _
    · have hne := not_empty A (by omega)
      have HO := hid (show (wordsP (cutL (L s))).operands = splitB 44 (L A) by
        rw [← HF3.out]; unfold operandsOf
        rw [if_neg (by rw [← HAN.out]; intro h; exact hz (by rw [← L_length, h]; rfl)), HAN.out])
      clear HF3 HAN hz
      go_wp2_with fail
      refine (split_any A 44 _ hAs HM1.out).mono ?_
      rintro e w5 ⟨v, os, rfl, hst, hos, hb5⟩
      obtain ⟨va, vc, hv⟩ := hst.form
      subst hv
      have HR1 := hid (HR1.out.below hb5)
      have HR0 := hid (HR0.out.below hb5)
      have HB1 := hid (below_on HB1.out (Nat.le_of_eq hB.symm) hb5)
      have hne1 := RowT.notStr HR1.out (by decide)
      have k2 := HR1.out.cell 2 (by simp)
      have m2 := HR1.out.free 2
      have HR1 := hid (show RowT _ 101 (B + 1) [.string lF, .string opF, .slice va os.length vc] from HR1.out.set 2 (.slice va os.length vc))
      have HR0 := hid (HR0.out.other (B + 1) 2 (by omega) (.slice va os.length vc))
      have HB1 := hid (HB1.out.setCell (p := ⟨B + 1, 2, none⟩) (by show B ≤ B + 1; omega) (.slice va os.length vc))
      have HST := hid (((hst.mono (C := B) (by omega)).set (B + 1) 2 (.slice va os.length vc) hne1))
      have hcl := HST.out
      have y0 := HR1.out.cell 0 (by simp)
      have y1 := HR1.out.cell 1 (by simp)
      have y2 := HR1.out.cell 2 (by simp)
      have x0 := HR0.out.cell 0 (by decide)
      have x1 := HR0.out.cell 1 (by decide)
      have x2 := HR0.out.cell 2 (by decide)
      have z0 := HR0.out.free 0
      have z1 := HR0.out.free 1
      have z2 := HR0.out.free 2
      have hlt0 := HR0.out.lt
      have HOS := hid hos
      clear hst hos hb5 hcl hne1
      go_wp2
      refine bodyPost_ret (v := .agg #[.string lF, .string opF, .slice va os.length vc]) (by simp [results, Tryz.results48, go_sem, x0, x1, x2]) rfl ⟨lF, opF, .slice va os.length vc, os, rfl, ⟨HF1.out, HF2.out, HOS.out.trans HO.out.symm, ?_⟩, ?_⟩
      · rw [HB.out]
        exact ((HST.out.set B 0 _ (RowT.notStr HR0.out (by decide))).set B 1 _ (RowT.notStr (HR0.out.set 0 _) (by decide))).set B 2 _ (RowT.notStr ((HR0.out.set 0 _).set 1 _) (by decide))
      · rw [HB.out]
        exact ((HB1.out.setCell (Nat.le_refl _) _).setCell (Nat.le_refl _) _).setCell (Nat.le_refl _) _

end Go.Proofs.YtcepppilgncdmaaGreatDoor
