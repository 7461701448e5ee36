/-
  What the document's own reading of a term and of an expression (package masonref) answers, said by the same plain functions.
  What an expression that is put together term by term comes to, by the plain functions; nothing of the program stands here.
  What the document's own Value (package masonref) answers: the same plain function 'value'.
  What one step of a script that asks for a Value answers: true; what 'looks' answers of a book in which nothing is written: true; what 'first' answers.
-/
import Derived.Test.YtcepppilgncdmaaGreatDoorBE03
import Derived.Test.YtcepppilgncdmaaGreatDoorBE01
import Derived.Test.YtcepppilgncdmaaGreatDoorBE02
import Derived.LoopN
namespace Go.Proofs.YtcepppilgncdmaaGreatDoor
open Go.RowKit

theorem L_mid (s : ByteArray) (i n : Nat) : L (s.extract i (i + n)) = ((L s).drop i).take n := by
  rw [L_extract, List.take_drop]

set_option maxHeartbeats 1000000 in
theorem refTerm_any (s : ByteArray) (i : Nat) (at_ : Int) (a : Option Addr) (cap : Nat) (ns : List (ByteArray × Int)) (w : World) (v : Int) (n : Nat) (er : Int) (hs' : s.size ≤ 140737488351232) (hi : i ≤ s.size) (hl : ns.length ≤ maxLen) (hn : NamesAt w a ns) (hv : term at_ (plainN ns) ((L s).drop i) = (v, n, er)) :
    Calls Tryz.prog 37 #[.string s, .int .i64 i, .int .i64 at_, .slice a ns.length cap] w fun e w' => e = .returned (.tuple #[.int .i64 v, .int .i64 n, .int .i64 er]) ∧ w' = w := by
  have hs : s.size ≤ maxLen := by unfold maxLen; omega
  have HN := hid hn
  clear hn
  by_cases h0 : i < s.size
  · have HL := hid (L_drop s i h0)
    have hby := byte_bd s[i]
    rw [HL.out] at hv
    simp only [term] at hv
    rw [← HL.out] at hv
    have hb := nb_eq (s[i].toNat : Int)
    have k0 : decide ((s.size : Int) ≤ i) = false := by simp; omega
    by_cases hd : digB (s[i].toNat : Int) = true
    · rw [if_pos hd] at hv
      obtain ⟨rfl, rfl, rfl⟩ := trip_eq hv
      clear hv hb
      rcases hg : digs 10 0 0 ((L s).drop i) with ⟨x, k⟩
      have HG := hid hg
      clear hg
      simp only
      go_enter Tryz.func37, Tryz.ntmps37
      go_wp2_with (first | (go_at_call 54; refine (digit_any _ _).mono ?_; rintro e w' ⟨rfl, rfl⟩) | (go_at_call 55; refine (letter_any _ _).mono ?_; rintro e w' ⟨rfl, rfl⟩) | (go_at_call 56; refine (refNumber_any s i 10 _ x k hs hi (Or.inl rfl) HG.out).mono ?_; rintro e w' ⟨rfl, rfl⟩))
      go_ret3
      exact ⟨rfl, rfl⟩
    · have kd : digB (s[i].toNat : Int) = false := by simpa using hd
      rw [if_neg hd] at hv
      by_cases h36 : (s[i].toNat : Int) = 36
      · rw [if_pos h36] at hv
        have k36 : ((s[i].toNat : Int) == 36) = true := by simpa using h36
        unfold base16 at hv
        have hle := digs_le 16 ((L s).drop (i + 1)) 0 0
        rw [List.length_drop, L_length] at hle
        rcases hg : digs 16 0 0 ((L s).drop (i + 1)) with ⟨x, k⟩
        rw [hg] at hv hle
        have HG := hid hg
        simp only at hv hle
        clear hg h36 hb
        by_cases hk : k = 0
        · subst hk
          rw [if_pos rfl] at hv
          obtain ⟨rfl, rfl, rfl⟩ := trip_eq hv
          clear hv
          go_enter Tryz.func37, Tryz.ntmps37
          go_wp2_with (first | (go_at_call 54; refine (digit_any _ _).mono ?_; rintro e w' ⟨rfl, rfl⟩) | (go_at_call 55; refine (letter_any _ _).mono ?_; rintro e w' ⟨rfl, rfl⟩) | (go_at_call 56; refine (refNumber_any s (i + 1) 16 _ x 0 hs (by omega) (Or.inr rfl) HG.out).mono ?_; rintro e w' ⟨rfl, rfl⟩))
          go_ret3
          exact ⟨rfl, rfl⟩
        · rw [if_neg hk] at hv
          obtain ⟨rfl, rfl, rfl⟩ := trip_eq hv
          have kk : ((k : Int) == 0) = false := by rw [beq_eq_false_iff_ne]; omega
          clear hv
          go_enter Tryz.func37, Tryz.ntmps37
          go_wp2_with (first | (go_at_call 54; refine (digit_any _ _).mono ?_; rintro e w' ⟨rfl, rfl⟩) | (go_at_call 55; refine (letter_any _ _).mono ?_; rintro e w' ⟨rfl, rfl⟩) | (go_at_call 56; refine (refNumber_any s (i + 1) 16 _ x k hs (by omega) (Or.inr rfl) HG.out).mono ?_; rintro e w' ⟨rfl, rfl⟩))
          go_ret3
          exact ⟨ret_three rfl (by rw [show (((1 + k : Nat)) : Int) = (k : Int) + 1 from by omega]; rfl) rfl, rfl⟩
      · rw [if_neg h36] at hv
        have k36 : ((s[i].toNat : Int) == 36) = false := by simpa using h36
        by_cases h39 : (s[i].toNat : Int) = 39
        · rw [if_pos h39] at hv
          have k39 : ((s[i].toNat : Int) == 39) = true := by simpa using h39
          clear h36 h39 hb
          by_cases h3 : i + 2 < s.size
          · rw [L_drop s (i + 1) (by omega), L_drop s (i + 2) (by omega)] at hv
            have k3 : decide ((s.size : Int) ≤ (i : Int) + 2) = false := by simp; omega
            simp only [quoted] at hv
            have hy := byte_bd s[i + 1]
            by_cases ha : (s[i + 1].toNat : Int) = 39
            · rw [if_pos (Or.inl ha)] at hv
              obtain ⟨rfl, rfl, rfl⟩ := trip_eq hv
              have ka : ((s[i + 1].toNat : Int) == 39) = true := by simpa using ha
              clear hv ha
              go_enter Tryz.func37, Tryz.ntmps37
              go_wp2_with (first | (go_at_call 54; refine (digit_any _ _).mono ?_; rintro e w' ⟨rfl, rfl⟩) | (go_at_call 55; refine (letter_any _ _).mono ?_; rintro e w' ⟨rfl, rfl⟩))
              go_ret3
              exact ⟨rfl, rfl⟩
            · have ka : ((s[i + 1].toNat : Int) == 39) = false := by simpa using ha
              by_cases hc : (s[i + 2].toNat : Int) = 39
              · have kc : ((s[i + 2].toNat : Int) != 39) = false := by simpa using hc
                rw [if_neg (by omega)] at hv
                obtain ⟨rfl, rfl, rfl⟩ := trip_eq hv
                clear hv ha hc
                go_enter Tryz.func37, Tryz.ntmps37
                go_wp2_with (first | (go_at_call 54; refine (digit_any _ _).mono ?_; rintro e w' ⟨rfl, rfl⟩) | (go_at_call 55; refine (letter_any _ _).mono ?_; rintro e w' ⟨rfl, rfl⟩))
                go_ret3
                exact ⟨rfl, rfl⟩
              · have kc : ((s[i + 2].toNat : Int) != 39) = true := by simpa using hc
                rw [if_pos (Or.inr hc)] at hv
                obtain ⟨rfl, rfl, rfl⟩ := trip_eq hv
                clear hv ha hc
                go_enter Tryz.func37, Tryz.ntmps37
                go_wp2_with (first | (go_at_call 54; refine (digit_any _ _).mono ?_; rintro e w' ⟨rfl, rfl⟩) | (go_at_call 55; refine (letter_any _ _).mono ?_; rintro e w' ⟨rfl, rfl⟩))
                go_ret3
                exact ⟨rfl, rfl⟩
          · have k3 : decide ((s.size : Int) ≤ (i : Int) + 2) = true := by simp; omega
            have hq : quoted ((L s).drop (i + 1)) = (0, 0, 4) := by
              have hlen := L_length s
              match hm : (L s).drop (i + 1) with
              | [] => rfl
              | [c] => rfl
              | c :: d :: r => have h := congrArg List.length hm; rw [List.length_drop, hlen] at h; simp at h; omega
            obtain ⟨rfl, rfl, rfl⟩ := trip_eq (hv.symm.trans hq)
            clear hv hq
            go_enter Tryz.func37, Tryz.ntmps37
            go_wp2_with (first | (go_at_call 54; refine (digit_any _ _).mono ?_; rintro e w' ⟨rfl, rfl⟩) | (go_at_call 55; refine (letter_any _ _).mono ?_; rintro e w' ⟨rfl, rfl⟩))
            go_ret3
            exact ⟨rfl, rfl⟩
        · rw [if_neg h39] at hv
          have k39 : ((s[i].toNat : Int) == 39) = false := by simpa using h39
          by_cases h46 : (s[i].toNat : Int) = 46
          · rw [if_pos h46] at hv
            have k46 : ((s[i].toNat : Int) == 46) = true := by simpa using h46
            obtain ⟨rfl, rfl, rfl⟩ := trip_eq hv
            clear hv hb h36 h39 h46
            go_enter Tryz.func37, Tryz.ntmps37
            go_wp2_with (first | (go_at_call 54; refine (digit_any _ _).mono ?_; rintro e w' ⟨rfl, rfl⟩) | (go_at_call 55; refine (letter_any _ _).mono ?_; rintro e w' ⟨rfl, rfl⟩))
            go_ret3
            exact ⟨rfl, rfl⟩
          · rw [if_neg h46] at hv
            have k46 : ((s[i].toNat : Int) == 46) = false := by simpa using h46
            rw [kd, Bool.or_false] at hb
            obtain ⟨m, hm⟩ : ∃ m, wordLen ((L s).drop i) = m := ⟨_, rfl⟩
            have hml := wordLen_le ((L s).drop i)
            rw [hm, List.length_drop, L_length] at hml
            unfold named at hv
            rw [hm, ← L_mid] at hv
            have HM := hid hm
            have hex : (s.extract i (i + m)).size ≤ maxLen := by rw [ByteArray.size_extract]; omega
            by_cases hlet : letB (s[i].toNat : Int) = true
            · clear h36 h39 h46 hb hm
              by_cases hnm : nameB (L (s.extract i (i + m))) = true
              · rw [if_pos hnm] at hv
                rcases hf : findN (plainN ns) (L (s.extract i (i + m))) with _ | z
                · rw [hf] at hv
                  obtain ⟨rfl, rfl, rfl⟩ := trip_eq hv
                  have HF := hid hf
                  clear hv hf
                  go_enter Tryz.func37, Tryz.ntmps37
                  go_wp2_with (first | (go_at_call 54; refine (digit_any _ _).mono ?_; rintro e w' ⟨rfl, rfl⟩) | (go_at_call 55; refine (letter_any _ _).mono ?_; rintro e w' ⟨rfl, rfl⟩) | (go_at_call 57; refine (word_any s i _ m hs hi HM.out).mono ?_; rintro e w' ⟨rfl, rfl⟩) | (go_at_call 58; refine (refName_any _ _ hex).mono ?_; rintro e w' ⟨rfl, rfl⟩) | (go_at_call 59; refine (find_any _ a cap ns _ none hl HN.out HF.out).mono ?_; rintro e w' ⟨rfl, rfl⟩))
                  go_ret3
                  exact ⟨rfl, rfl⟩
                · rw [hf] at hv
                  obtain ⟨rfl, rfl, rfl⟩ := trip_eq hv
                  have HF := hid hf
                  clear hv hf
                  go_enter Tryz.func37, Tryz.ntmps37
                  go_wp2_with (first | (go_at_call 54; refine (digit_any _ _).mono ?_; rintro e w' ⟨rfl, rfl⟩) | (go_at_call 55; refine (letter_any _ _).mono ?_; rintro e w' ⟨rfl, rfl⟩) | (go_at_call 57; refine (word_any s i _ m hs hi HM.out).mono ?_; rintro e w' ⟨rfl, rfl⟩) | (go_at_call 58; refine (refName_any _ _ hex).mono ?_; rintro e w' ⟨rfl, rfl⟩) | (go_at_call 59; refine (find_any _ a cap ns _ (some z) hl HN.out HF.out).mono ?_; rintro e w' ⟨rfl, rfl⟩))
                  go_ret3
                  exact ⟨rfl, rfl⟩
              · have knm : nameB (L (s.extract i (i + m))) = false := by simpa using hnm
                rw [if_neg hnm] at hv
                obtain ⟨rfl, rfl, rfl⟩ := trip_eq hv
                clear hv
                go_enter Tryz.func37, Tryz.ntmps37
                go_wp2_with (first | (go_at_call 54; refine (digit_any _ _).mono ?_; rintro e w' ⟨rfl, rfl⟩) | (go_at_call 55; refine (letter_any _ _).mono ?_; rintro e w' ⟨rfl, rfl⟩) | (go_at_call 57; refine (word_any s i _ m hs hi HM.out).mono ?_; rintro e w' ⟨rfl, rfl⟩) | (go_at_call 58; refine (refName_any _ _ hex).mono ?_; rintro e w' ⟨rfl, rfl⟩))
                go_ret3
                exact ⟨rfl, rfl⟩
            · have klet : letB (s[i].toNat : Int) = false := by simpa using hlet
              rw [klet] at hb
              have hm0 : m = 0 := by rw [← hm]; exact wordLen_no s i h0 hb
              subst hm0
              have hnf : nameB (L (s.extract i (i + 0))) = false := by rw [L_mid, List.take_zero]; rfl
              rw [hnf, if_neg (by simp)] at hv
              obtain ⟨rfl, rfl, rfl⟩ := trip_eq hv
              clear hv hb h36 h39 h46 hnf hm
              go_enter Tryz.func37, Tryz.ntmps37
              go_wp2_with (first | (go_at_call 54; refine (digit_any _ _).mono ?_; rintro e w' ⟨rfl, rfl⟩) | (go_at_call 55; refine (letter_any _ _).mono ?_; rintro e w' ⟨rfl, rfl⟩))
              go_ret3
              exact ⟨rfl, rfl⟩
  · have k0 : decide ((s.size : Int) ≤ i) = true := by simp; omega
    rw [L_end s i (by omega)] at hv
    obtain ⟨rfl, rfl, rfl⟩ := trip_eq (show (0, 0, 4) = (v, n, er) from hv)
    clear hv
    go_enter Tryz.func37, Tryz.ntmps37
    go_wp2_with fail
    go_ret3
    exact ⟨rfl, rfl⟩

end Go.Proofs.YtcepppilgncdmaaGreatDoor

namespace Go.Proofs.YtcepppilgncdmaaGreatDoor

/-- The digits of a number, ahead of more. -/
def digitsTo : Nat → Nat → List UInt8 → List UInt8
  | 0, _, l => l
  | f + 1, n, l => if n < 10 then (48 + UInt8.ofNat n) :: l else digitsTo f (n / 10) ((48 + UInt8.ofNat (n % 10)) :: l)

def pickI (c n : Int) : Int := (if c < 0 then -(c + 1) else c) % n

theorem pickI_bd (c n : Int) (h : 0 < n) : 0 ≤ pickI c n ∧ pickI c n < n := by
  unfold pickI
  exact ⟨Int.emod_nonneg _ (by omega), Int.emod_lt_of_pos _ h⟩

def signish : List UInt8 → Prop
  | [] => True
  | c :: _ => (c.toNat : Int) = 43 ∨ (c.toNat : Int) = 45 ∨ (c.toNat : Int) = 42

/-- t is a text of a term of the number n, whatever sign follows. -/
structure TermOf (at_ : Int) (N : List (List UInt8 × Int)) (t : List UInt8) (n : Int) : Prop where
  reads : ∀ r, signish r → term at_ N (t ++ r) = (n, t.length, 0)
  lo : -1000000 ≤ n
  hi : n ≤ 1000000
  head : ∃ c r, t = c :: r ∧ (c.toNat : Int) ≠ 45

theorem TermOf.readT {at_ : Int} {N : List (List UInt8 × Int)} {t : List UInt8} {n : Int} (h : TermOf at_ N t n) (r : List UInt8) (hr : signish r) : readT at_ N (t ++ r) = (n, r, 0) := by
  have h1 := h.lo
  have h2 := h.hi
  unfold Go.Proofs.YtcepppilgncdmaaGreatDoor.readT
  rw [h.reads r hr]
  simp only
  rw [if_neg (by simp), if_neg (by omega), List.drop_left]

theorem readT_len (at_ : Int) (N : List (List UInt8 × Int)) (l : List UInt8) {x : Int} {r : List UInt8} {y : Int} (h : readT at_ N l = (x, r, y)) : r.length ≤ l.length := by
  unfold readT at h
  split at h
  · injection h with _ h; injection h with h _; rw [← h]; simp
  · split at h
    · injection h with _ h; injection h with h _; rw [← h]; simp
    · injection h with _ h; injection h with h _; rw [← h]; simp

theorem eval_fuel (at_ : Int) (N : List (List UInt8 × Int)) : ∀ (n : Nat) (l : List UInt8), l.length ≤ n → ∀ f g sm sg, l.length ≤ f → l.length ≤ g → eval at_ N (f + 1) sm sg l = eval at_ N (g + 1) sm sg l := by
  intro n
  induction n with
  | zero =>
    intro l hl f g sm sg _ _
    have : l = [] := List.eq_nil_of_length_eq_zero (by omega)
    subst this
    rw [eval_bad (x := 0) (r := []) (y := 4) rfl (by omega), eval_bad (x := 0) (r := []) (y := 4) rfl (by omega)]
  | succ n ih =>
    intro l hl f g sm sg hf hg
    rcases hr : readT at_ N l with ⟨x, r, y⟩
    have hlen := readT_len at_ N l hr
    by_cases hy : y = 0
    · subst hy
      rcases hk : reck sm sg x with ⟨z, q⟩
      by_cases hq : q = 0
      · subst hq
        rw [eval_on hr f hk, eval_on hr g hk]
        cases r with
        | nil => rfl
        | cons c r =>
          simp only [evalS]
          simp only [List.length_cons] at hlen
          split
          · obtain ⟨f', rfl⟩ : ∃ f', f = f' + 1 := ⟨f - 1, by omega⟩
            obtain ⟨g', rfl⟩ : ∃ g', g = g' + 1 := ⟨g - 1, by omega⟩
            exact ih r (by omega) f' g' z _ (by omega) (by omega)
          · rfl
      · rw [eval_far hr f hk hq, eval_far hr g hk hq]
    · rw [eval_bad hr hy, eval_bad hr hy]

theorem evalS_fuel (at_ : Int) (N : List (List UInt8 × Int)) (r : List UInt8) (f g : Nat) (v : Int) (hf : r.length ≤ f) (hg : r.length ≤ g) : evalS at_ N f v r = evalS at_ N g v r := by
  cases r with
  | nil => rfl
  | cons c r =>
    simp only [List.length_cons] at hf hg
    simp only [evalS]
    split
    · obtain ⟨f', rfl⟩ : ∃ f', f = f' + 1 := ⟨f - 1, by omega⟩
      obtain ⟨g', rfl⟩ : ∃ g', g = g' + 1 := ⟨g - 1, by omega⟩
      exact eval_fuel at_ N _ r (Nat.le_refl _) f' g' v _ (by omega) (by omega)
    · rfl

/-- l is the text so far, v what it comes to. -/
structure SoFar (at_ : Int) (N : List (List UInt8 × Int)) (l : List UInt8) (v : Int) : Prop where
  goes : ∀ r, signish r → ∀ f, r.length ≤ f → value at_ N (l ++ r) = evalS at_ N f v r
  lo : -1000000 ≤ v
  hi : v ≤ 1000000

theorem SoFar.first {at_ : Int} {N : List (List UInt8 × Int)} {t : List UInt8} {n : Int} (h : TermOf at_ N t n) : SoFar at_ N t n := by
  have h1 := h.lo
  have h2 := h.hi
  refine ⟨fun r hr f hf => ?_, h1, h2⟩
  have hrd := h.readT r hr
  obtain ⟨c, t', rfl, hc⟩ := h.head
  have hk : reck 0 43 n = (n, 0) := by
    unfold reck step
    simp only [Int.zero_add, if_true]
    rw [if_neg (by omega)]
  rw [List.cons_append, value_plain _ _ _ _ hc, ← List.cons_append, eval_on hrd _ hk]
  exact evalS_fuel _ _ _ _ _ _ (by simp; omega) hf

theorem SoFar.minus {at_ : Int} {N : List (List UInt8 × Int)} {t : List UInt8} {n : Int} (h : TermOf at_ N t n) : SoFar at_ N (45 :: t) (-n) := by
  have h1 := h.lo
  have h2 := h.hi
  refine ⟨fun r hr f hf => ?_, by omega, by omega⟩
  have hrd := h.readT r hr
  have hk : reck 0 45 n = (-n, 0) := by
    unfold reck step
    simp
    omega
  rw [List.cons_append, value_minus _ _ _ _ (by decide)]
  simp only [evalS]
  rw [if_pos (by decide)]
  rw [show ((45 : UInt8).toNat : Int) = 45 from by decide, eval_on hrd _ hk]
  exact evalS_fuel _ _ _ _ _ _ (by simp) hf

theorem SoFar.more {at_ : Int} {N : List (List UInt8 × Int)} {l t : List UInt8} {v n z : Int} (h : SoFar at_ N l v) (ht : TermOf at_ N t n) (c : UInt8) (hc : (c.toNat : Int) = 43 ∨ (c.toNat : Int) = 45 ∨ (c.toNat : Int) = 42)
    (hk : reck v c.toNat n = (z, 0)) : SoFar at_ N (l ++ c :: t) z := by
  obtain ⟨z1, z2⟩ := reck_bd hk
  refine ⟨fun r hr f hf => ?_, z1, z2⟩
  have hrd := ht.readT r hr
  rw [List.append_assoc, List.cons_append, h.goes (c :: (t ++ r)) hc ((t ++ r).length + 1) (by simp)]
  simp only [evalS]
  rw [if_pos hc, eval_on hrd _ hk]
  exact evalS_fuel _ _ _ _ _ _ (by simp) hf

theorem SoFar.far {at_ : Int} {N : List (List UInt8 × Int)} {l t : List UInt8} {v n z : Int} (h : SoFar at_ N l v) (ht : TermOf at_ N t n) (c : UInt8) (hc : (c.toNat : Int) = 43 ∨ (c.toNat : Int) = 45 ∨ (c.toNat : Int) = 42)
    (hk : reck v c.toNat n = (z, 7)) : value at_ N (l ++ c :: t) = (0, 7) := by
  have hrd := ht.readT [] trivial
  rw [List.append_nil] at hrd
  rw [h.goes (c :: t) hc (t.length + 1) (by simp)]
  simp only [evalS]
  rw [if_pos hc, eval_far hrd _ hk (by omega)]

theorem SoFar.done {at_ : Int} {N : List (List UInt8 × Int)} {l : List UInt8} {v : Int} (h : SoFar at_ N l v) : value at_ N l = (v, 0) := by
  have := h.goes [] trivial 0 (by simp)
  rw [List.append_nil] at this
  rw [this]; rfl

theorem reck_in {v c n : Int} (h1 : -1000000 ≤ step v c n) (h2 : step v c n ≤ 1000000) : reck v c n = (step v c n, 0) := by
  unfold reck; rw [if_neg (by omega)]
theorem reck_out {v c n : Int} (h : step v c n < -1000000 ∨ 1000000 < step v c n) : reck v c n = (0, 7) := by
  unfold reck; rw [if_pos h]

/-! The terms: the address, a number's digits, a name. -/

theorem termOf_dot (at_ : Int) (N : List (List UInt8 × Int)) (h1 : -1000000 ≤ at_) (h2 : at_ ≤ 1000000) : TermOf at_ N [46] at_ :=
  ⟨fun r _ => rfl, h1, h2, 46, [], rfl, by decide⟩

def foldD : Int → List UInt8 → Int
  | v, [] => v
  | v, c :: r => foldD (min (v * 10 + hexv c.toNat) 1000001) r

theorem digit_byte (d : Nat) (h : d < 10) : ((48 + UInt8.ofNat d).toNat : Int) = 48 + d := by
  rw [UInt8.toNat_add, UInt8.toNat_ofNat']
  have : (48 : UInt8).toNat = 48 := rfl
  omega

theorem hexv_digit (d : Nat) (h : d < 10) : hexv ((48 + UInt8.ofNat d).toNat : Int) = d := by
  rw [digit_byte d h]; unfold hexv; rw [if_pos (by omega)]; omega

def allDig (l : List UInt8) : Prop := ∀ c ∈ l, 48 ≤ (c.toNat : Int) ∧ (c.toNat : Int) ≤ 57

theorem digitsTo_all : ∀ (f n : Nat) (l : List UInt8), allDig l → allDig (digitsTo f n l) := by
  intro f
  induction f with
  | zero => intro n l h; exact h
  | succ f ih =>
    intro n l h
    simp only [digitsTo]
    split
    · rename_i hn
      intro c hc
      rcases List.mem_cons.1 hc with rfl | hc
      · rw [digit_byte n hn]; omega
      · exact h c hc
    · apply ih
      intro c hc
      rcases List.mem_cons.1 hc with rfl | hc
      · rw [digit_byte (n % 10) (by omega)]; omega
      · exact h c hc

theorem digitsTo_fold : ∀ (f n : Nat) (l : List UInt8), n < f → n ≤ 1000000 → foldD 0 (digitsTo f n l) = foldD n l := by
  intro f
  induction f with
  | zero => intro n l h _; omega
  | succ f ih =>
    intro n l h hn
    simp only [digitsTo]
    split
    · rename_i h10
      simp only [foldD]
      rw [hexv_digit n h10]
      congr 1
      omega
    · rename_i h10
      rw [ih (n / 10) _ (by omega) (by omega)]
      simp only [foldD]
      rw [hexv_digit (n % 10) (by omega)]
      congr 1
      omega

theorem digitsTo_ne : ∀ (f n : Nat) (l : List UInt8), 0 < f → ∃ c r, digitsTo f n l = c :: r := by
  intro f
  induction f with
  | zero => intro n l h; omega
  | succ f ih =>
    intro n l _
    simp only [digitsTo]
    split
    · exact ⟨_, _, rfl⟩
    · cases f with
      | zero => exact ⟨_, _, rfl⟩
      | succ f => exact ih _ _ (by omega)

theorem digs_stop (v : Int) (k : Nat) (r : List UInt8) (h : signish r) : digs 10 v k r = (v, k) := by
  cases r with
  | nil => rfl
  | cons c r =>
    have hx : hexv (c.toNat : Int) = 16 := by
      unfold hexv
      have h' : (c.toNat : Int) = 43 ∨ (c.toNat : Int) = 45 ∨ (c.toNat : Int) = 42 := h
      rw [if_neg (by omega), if_neg (by omega)]
    simp only [digs]
    rw [if_neg (by rw [hx]; omega)]

theorem digs_digits : ∀ (ds : List UInt8) (v : Int) (k : Nat) (r : List UInt8), allDig ds → digs 10 v k (ds ++ r) = digs 10 (foldD v ds) (k + ds.length) r := by
  intro ds
  induction ds with
  | nil => intro v k r _; rfl
  | cons c ds ih =>
    intro v k r h
    have hc := h c (List.mem_cons_self ..)
    have hx : hexv (c.toNat : Int) < 10 := by unfold hexv; rw [if_pos hc]; omega
    simp only [List.cons_append, digs, foldD]
    rw [if_pos hx, ih _ _ _ (fun d hd => h d (List.mem_cons_of_mem _ hd))]
    simp only [List.length_cons]
    congr 1
    omega

theorem termOf_number (at_ : Int) (N : List (List UInt8 × Int)) (n : Nat) (hn : n ≤ 1000000) : TermOf at_ N (digitsTo (n + 1) n []) n := by
  have ha := digitsTo_all (n + 1) n [] (by intro c hc; cases hc)
  have hf := digitsTo_fold (n + 1) n [] (by omega) hn
  obtain ⟨c, t, ht⟩ := digitsTo_ne (n + 1) n [] (by omega)
  have hc := ha c (by rw [ht]; exact List.mem_cons_self ..)
  refine ⟨fun r hr => ?_, by omega, by omega, c, t, ht, by omega⟩
  have hd := digs_digits (digitsTo (n + 1) n []) 0 0 r ha
  rw [digs_stop _ _ r hr, hf] at hd
  have hd2 : digs 10 0 0 (digitsTo (n + 1) n [] ++ r) = ((n : Int), (digitsTo (n + 1) n []).length) := by rw [hd, Nat.zero_add]; rfl
  have hdig : digB (c.toNat : Int) = true := by unfold digB; simp; omega
  rw [ht] at hd2 ⊢
  rw [List.cons_append] at hd2 ⊢
  simp only [term]
  rw [if_pos hdig, hd2]

theorem wordLen_all : ∀ (t r : List UInt8), allNb t = true → signish r → wordLen (t ++ r) = t.length := by
  intro t
  induction t with
  | nil =>
    intro r _ hr
    cases r with
    | nil => rfl
    | cons c r =>
      have h' : (c.toNat : Int) = 43 ∨ (c.toNat : Int) = 45 ∨ (c.toNat : Int) = 42 := hr
      have hn : nbB (c.toNat : Int) = false := by unfold nbB; apply decide_eq_false; omega
      simp [wordLen, hn]
  | cons c t ih =>
    intro r h hr
    simp only [allNb, List.all_cons, Bool.and_eq_true] at h
    simp only [List.cons_append, wordLen]
    rw [if_pos h.1, ih r h.2 hr]
    rfl

theorem termOf_name (at_ : Int) (N : List (List UInt8 × Int)) (t : List UInt8) (n : Int) (hn : nameB t = true) (hf : findN N t = some n) (h1 : -1000000 ≤ n) (h2 : n ≤ 1000000) : TermOf at_ N t n := by
  cases t with
  | nil => simp [nameB] at hn
  | cons c t =>
    have hn0 := hn
    simp only [nameB, Bool.and_eq_true, Bool.not_eq_true'] at hn
    obtain ⟨⟨⟨_, hd⟩, _⟩, ha⟩ := hn
    have hc : nbB (c.toNat : Int) = true := by simp only [allNb, List.all_cons, Bool.and_eq_true] at ha; exact ha.1
    have hc' := of_decide_eq_true hc
    refine ⟨fun r hr => ?_, h1, h2, c, t, rfl, by omega⟩
    have hw := wordLen_all (c :: t) r ha hr
    have hnm : named ((c :: t) ++ r) N = (n, (c :: t).length, 0) := by
      unfold named
      rw [hw, List.take_left, if_pos hn0, hf]
    rw [List.cons_append] at hnm ⊢
    simp only [term]
    rw [if_neg (by rw [hd]; simp), if_neg (by omega), if_neg (by omega), if_neg (by omega), hnm]

/-! The names that are handed in. -/

/-- The names that are handed in: "one", and a name for each of the first k values. -/
def namesOf (zs : List Int) (k : Nat) : List (List UInt8 × Int) := ([111, 110, 101], 1) :: (List.range k).map fun j => ([118, 48 + UInt8.ofNat j], pickI (zs.getD j 0) 2000001 - 1000000)

theorem namesOf_succ (zs : List Int) (k : Nat) : namesOf zs (k + 1) = namesOf zs k ++ [([118, 48 + UInt8.ofNat k], pickI (zs.getD k 0) 2000001 - 1000000)] := by
  unfold namesOf
  rw [List.range_succ, List.map_append, List.cons_append]; rfl
theorem namesOf_length (zs : List Int) (k : Nat) : (namesOf zs k).length = k + 1 := by simp [namesOf]

theorem findN_append (l m : List (List UInt8 × Int)) (x : List UInt8) (h : ∀ p ∈ l, p.1 ≠ x) : findN (l ++ m) x = findN m x := by
  induction l with
  | nil => rfl
  | cons p l ih =>
    obtain ⟨a, b⟩ := p
    have hp : a ≠ x := h (a, b) (List.mem_cons_self ..)
    simp only [List.cons_append, findN]
    rw [if_neg hp, ih (fun p hp => h p (List.mem_cons_of_mem _ hp))]
theorem findN_more (l m : List (List UInt8 × Int)) (x : List UInt8) (v : Int) (h : findN l x = some v) : findN (l ++ m) x = some v := by
  induction l with
  | nil => cases h
  | cons p l ih =>
    obtain ⟨a, b⟩ := p
    simp only [List.cons_append, findN] at h ⊢
    split
    · rename_i ha; rw [if_pos ha] at h; exact h
    · rename_i ha; rw [if_neg ha] at h; exact ih h

theorem names_apart (zs : List Int) (k j : Nat) (hk : k ≤ j) (hj : j < 10) : ∀ p ∈ namesOf zs k, p.1 ≠ [118, 48 + UInt8.ofNat j] := by
  intro p hp
  unfold namesOf at hp
  rcases List.mem_cons.1 hp with rfl | hp
  · intro h; injection h with h _; exact absurd h (by decide)
  · obtain ⟨i, hi, rfl⟩ := List.mem_map.1 hp
    have hi := List.mem_range.1 hi
    intro h
    injection h with _ h
    injection h with h _
    have e1 := digit_byte i (by omega)
    have e2 := digit_byte j (by omega)
    rw [h] at e1
    omega

theorem find_names (zs : List Int) (k : Nat) (hk : k ≤ 9) : ∀ i (h : i < (namesOf zs k).length), findN (namesOf zs k) (namesOf zs k)[i].1 = some (namesOf zs k)[i].2 := by
  induction k with
  | zero =>
    intro i h
    rw [namesOf_length] at h
    have : i = 0 := by omega
    subst this
    rfl
  | succ k ih =>
    intro i h
    rw [namesOf_length] at h
    have hl := namesOf_length zs k
    simp only [namesOf_succ]
    by_cases hi : i < k + 1
    · rw [List.getElem_append_left (by omega)]
      exact findN_more _ _ _ _ (ih (by omega) i (by omega))
    · have : i = k + 1 := by omega
      subst this
      rw [List.getElem_append_right (by omega)]
      simp only [hl, Nat.sub_self, List.getElem_cons_zero]
      rw [findN_append _ _ _ (names_apart zs k k (Nat.le_refl _) (by omega))]
      simp [findN]

theorem names_good (zs : List Int) (k : Nat) (hk : k ≤ 9) : ∀ i (h : i < (namesOf zs k).length), nameB (namesOf zs k)[i].1 = true ∧ -1000000 ≤ (namesOf zs k)[i].2 ∧ (namesOf zs k)[i].2 ≤ 1000000 ∧ (namesOf zs k)[i].1.length ≤ 3 := by
  intro i h
  have hm : (namesOf zs k)[i] ∈ namesOf zs k := List.getElem_mem h
  generalize (namesOf zs k)[i] = p at hm ⊢
  unfold namesOf at hm
  rcases List.mem_cons.1 hm with rfl | hm
  · exact ⟨by decide, by decide, by decide, by decide⟩
  · obtain ⟨j, hj, rfl⟩ := List.mem_map.1 hm
    have hj := List.mem_range.1 hj
    have hb := pickI_bd (zs.getD j 0) 2000001 (by omega)
    refine ⟨?_, by show -1000000 ≤ pickI (zs.getD j 0) 2000001 - 1000000; omega, by show pickI (zs.getD j 0) 2000001 - 1000000 ≤ 1000000; omega, by show 2 ≤ 3; decide⟩
    show nameB [118, 48 + UInt8.ofNat j] = true
    have hd := digit_byte j (by omega)
    have h1 : nbB ((48 + UInt8.ofNat j).toNat : Int) = true := by rw [hd]; unfold nbB; apply decide_eq_true; omega
    have h2 : regB [118, 48 + UInt8.ofNat j] = false := by simp [regB]
    simp only [nameB, allNb, List.all_cons, List.all_nil, h1, h2]
    rfl

theorem termOf_names (at_ : Int) (zs : List Int) (k : Nat) (hk : k ≤ 9) (i : Nat) (h : i < (namesOf zs k).length) : TermOf at_ (namesOf zs k) (namesOf zs k)[i].1 (namesOf zs k)[i].2 := by
  obtain ⟨h1, h2, h3, _⟩ := names_good zs k hk i h
  exact termOf_name at_ _ _ _ h1 (find_names zs k hk i h) h2 h3

end Go.Proofs.YtcepppilgncdmaaGreatDoor

namespace Go.Proofs.YtcepppilgncdmaaGreatDoor
open Go.RowKit

theorem readT_bad {at_ : Int} {N : List (List UInt8 × Int)} {l : List UInt8} {x y : Int} {n : Nat} (h : term at_ N l = (x, n, y)) (hy : y ≠ 0) : readT at_ N l = (0, [], y) := by
  unfold readT; rw [h]; simp only; rw [if_pos hy]
theorem readT_out {at_ : Int} {N : List (List UInt8 × Int)} {l : List UInt8} {x : Int} {n : Nat} (h : term at_ N l = (x, n, 0)) (hx : x < -1000000 ∨ 1000000 < x) : readT at_ N l = (0, [], 7) := by
  unfold readT; rw [h]; simp only; rw [if_neg (by simp), if_pos hx]
theorem readT_ok {at_ : Int} {N : List (List UInt8 × Int)} {l : List UInt8} {x : Int} {n : Nat} (h : term at_ N l = (x, n, 0)) (h1 : -1000000 ≤ x) (h2 : x ≤ 1000000) : readT at_ N l = (x, l.drop n, 0) := by
  unfold readT; rw [h]; simp only; rw [if_neg (by simp), if_neg (by omega)]
theorem reck_plus (x : Int) (h1 : -1000000 ≤ x) (h2 : x ≤ 1000000) : reck 0 43 x = (x, 0) := by
  unfold reck step; simp only [Int.zero_add, if_true]; rw [if_neg (by omega)]
theorem reck_minus (x : Int) (h1 : -1000000 ≤ x) (h2 : x ≤ 1000000) : reck 0 45 x = (-x, 0) := by
  unfold reck step; simp; omega

set_option maxRecDepth 100000 in
set_option maxHeartbeats 3000000 in
theorem refValue_minus (s : ByteArray) (at_ : Int) (a : Option Addr) (cap : Nat) (ns : List (ByteArray × Int)) (w : World) (V ER : Int) (hs' : s.size ≤ 140737488351232) (hl : ns.length ≤ maxLen) (hn : NamesAt w a ns) (hpos : 0 < s.size) (h45 : (s[0].toNat : Int) = 45) (f : Nat) (hf : s.size - 1 ≤ f) (he : eval at_ (plainN ns) (f + 1) 0 45 ((L s).drop 1) = (V, ER)) :
    Calls Tryz.prog 24 #[.string s, .int .i64 at_, .slice a ns.length cap] w fun e w' => e = .returned (.tuple #[.int .i64 V, .int .i64 ER]) ∧ w' = w := by
  have k0 : decide ((0 : Int) < s.size) = true := by simp; omega
  have k45 : ((s[0].toNat : Int) == 45) = true := by simpa using h45
  have HF := hid (show s.size - (1 + 0) ≤ f by omega)
  clear h45
  have HN := hid hn
  clear hn
  rcases hg : term at_ (plainN ns) ((L s).drop 1) with ⟨x, n, y⟩
  have hnl := term_len at_ (plainN ns) ((L s).drop 1)
  rw [hg, List.length_drop, L_length] at hnl
  simp only at hnl
  have HG := hid hg
  by_cases hy : y = 0
  · subst hy
    by_cases hx : x < -1000000 ∨ 1000000 < x
    · rw [eval_bad (readT_out hg hx) (by omega)] at he
      obtain ⟨rfl, rfl⟩ := pair_eq he
      have hnin : decide (-1000000 ≤ x ∧ x ≤ 1000000) = false := by apply decide_eq_false; omega
      clear he hg hx
      go_enter Tryz.func24, Tryz.ntmps24
      go_wp2_with (first | (go_at_call 37; refine (refTerm_any s 1 at_ a cap ns _ x n 0 hs' (by omega) hl HN.out HG.out).mono ?_; rintro e w' ⟨rfl, rfl⟩) | (go_at_call 38; refine (in_any _ _ _ _).mono ?_; rw [hnin]; rintro e w' ⟨rfl, rfl⟩))
      go_ret2
      exact ⟨rfl, rfl⟩
    · have x1 : -1000000 ≤ x := by omega
      have x2 : x ≤ 1000000 := by omega
      have hin : decide (-1000000 ≤ x ∧ x ≤ 1000000) = true := by apply decide_eq_true; omega
      rw [eval_on (readT_ok hg x1 x2) _ (reck_minus x x1 x2), List.drop_drop] at he
      have HE := hid he
      clear he hg hx
      go_enter Tryz.func24, Tryz.ntmps24
      go_wp2_with (first | (go_at_call 37; refine (refTerm_any s 1 at_ a cap ns _ x n 0 hs' (by omega) hl HN.out HG.out).mono ?_; rintro e w' ⟨rfl, rfl⟩) | (go_at_call 38; refine (in_any _ _ _ _).mono ?_; rw [hin]; rintro e w' ⟨rfl, rfl⟩))
      go_loop [8, 10] (fun i z => ∃ (j : Nat) (q : Int) (f : Nat), j ≤ s.size ∧ i = .int .i64 j ∧ z = .int .i64 q ∧ -1000000 ≤ q ∧ q ≤ 1000000 ∧ s.size - j ≤ f ∧ evalS at_ (plainN ns) f q ((L s).drop j) = (V, ER)) (fun i _ => s.size - (intOf i).toNat)
      case atStart => exact ⟨1 + n, -x, _, by omega, by go_num, by go_num, by omega, by omega, by have := HF.out; omega, HE.out⟩
      case round =>
        obtain ⟨j, q, f, hj, rfl, rfl, q1, q2, hf, he⟩ := hrel
        clear HE HG HF
        by_cases hlt : j < s.size
        · rw [L_drop s j hlt] at he
          simp only [evalS] at he
          have hby := byte_bd s[j]
          by_cases hsn : (s[j].toNat : Int) = 43 ∨ (s[j].toNat : Int) = 45 ∨ (s[j].toNat : Int) = 42
          · rw [if_pos hsn] at he
            obtain ⟨g, rfl⟩ : ∃ g, f = g + 1 := ⟨f - 1, by omega⟩
            rcases hg : term at_ (plainN ns) ((L s).drop (j + 1)) with ⟨x', m, y'⟩
            have hml := term_len at_ (plainN ns) ((L s).drop (j + 1))
            rw [hg, List.length_drop, L_length] at hml
            simp only at hml
            have HG := hid hg
            have hor : (((s[j].toNat : Int) != 43) = false ∧ ((s[j].toNat : Int) == 43) = true) ∨ (((s[j].toNat : Int) != 43) = true ∧ ((s[j].toNat : Int) != 45) = false ∧ ((s[j].toNat : Int) == 43) = false ∧ ((s[j].toNat : Int) == 45) = true) ∨ (((s[j].toNat : Int) != 43) = true ∧ ((s[j].toNat : Int) != 45) = true ∧ ((s[j].toNat : Int) != 42) = false ∧ ((s[j].toNat : Int) == 43) = false ∧ ((s[j].toNat : Int) == 45) = false) := by
              simp; omega
            by_cases hy : y' = 0
            · subst hy
              by_cases hx : x' < -1000000 ∨ 1000000 < x'
              · rw [eval_bad (readT_out hg hx) (by omega)] at he
                obtain ⟨rfl, rfl⟩ := pair_eq he
                have hnin : decide (-1000000 ≤ x' ∧ x' ≤ 1000000) = false := by apply decide_eq_false; omega
                clear he hg hx hsn
                rcases hor with ⟨n1, n2⟩ | ⟨n1, n2, n3, n4⟩ | ⟨n1, n2, n3, n4, n5⟩
                all_goals
                  go_wp2_with (first | (go_at_call 37; refine (refTerm_any s (j + 1) at_ a cap ns _ x' m 0 hs' (by omega) hl HN.out HG.out).mono ?_; rintro e w' ⟨rfl, rfl⟩) | (go_at_call 38; refine (in_any _ _ _ _).mono ?_; rw [hnin]; rintro e w' ⟨rfl, rfl⟩))
                  go_ret2
                  exact ⟨rfl, rfl⟩
              · have y1 : -1000000 ≤ x' := by omega
                have y2 : x' ≤ 1000000 := by omega
                have hin1 : decide (-1000000 ≤ x' ∧ x' ≤ 1000000) = true := by apply decide_eq_true; omega
                obtain ⟨m1, m2⟩ := mul_bd q x' q1 q2 y1 y2
                obtain ⟨st, hst⟩ : ∃ z, step q (s[j].toNat : Int) x' = z := ⟨_, rfl⟩
                have hstv : ((s[j].toNat : Int) = 43 ∧ st = q + x') ∨ ((s[j].toNat : Int) = 45 ∧ st = q - x') ∨ ((s[j].toNat : Int) = 42 ∧ st = q * x') := by
                  rw [← hst]; unfold step
                  rcases hsn with h | h | h
                  · left; rw [h]; simp
                  · right; left; rw [h]; simp
                  · right; right; rw [h]; simp
                by_cases hfar : st < -1000000 ∨ 1000000 < st
                · rw [eval_far (readT_ok hg y1 y2) _ (reck_out (by rw [hst]; exact hfar)) (by omega)] at he
                  obtain ⟨rfl, rfl⟩ := pair_eq he
                  have hnin : decide (-1000000 ≤ st ∧ st ≤ 1000000) = false := by apply decide_eq_false; omega
                  clear he hg hx hsn hfar hst
                  rcases hor with ⟨n1, n2⟩ | ⟨n1, n2, n3, n4⟩ | ⟨n1, n2, n3, n4, n5⟩
                  · have hs1 : st = q + x' := by rcases hstv with h | h | h <;> simp_all
                    subst hs1
                    clear hstv
                    go_wp2_with (first | (go_at_call 37; refine (refTerm_any s (j + 1) at_ a cap ns _ x' m 0 hs' (by omega) hl HN.out HG.out).mono ?_; rintro e w' ⟨rfl, rfl⟩) | (go_at_call 38; refine (in_any _ _ _ _).mono ?_; (first | rw [hin1] | rw [hnin]); rintro e w' ⟨rfl, rfl⟩))
                    go_ret2
                    exact ⟨rfl, rfl⟩
                  · have hs1 : st = q - x' := by rcases hstv with h | h | h <;> simp_all
                    subst hs1
                    clear hstv
                    go_wp2_with (first | (go_at_call 37; refine (refTerm_any s (j + 1) at_ a cap ns _ x' m 0 hs' (by omega) hl HN.out HG.out).mono ?_; rintro e w' ⟨rfl, rfl⟩) | (go_at_call 38; refine (in_any _ _ _ _).mono ?_; (first | rw [hin1] | rw [hnin]); rintro e w' ⟨rfl, rfl⟩))
                    go_ret2
                    exact ⟨rfl, rfl⟩
                  · have hs1 : st = q * x' := by rcases hstv with h | h | h <;> simp_all
                    subst hs1
                    clear hstv
                    go_wp2_with (first | (go_at_call 37; refine (refTerm_any s (j + 1) at_ a cap ns _ x' m 0 hs' (by omega) hl HN.out HG.out).mono ?_; rintro e w' ⟨rfl, rfl⟩) | (go_at_call 38; refine (in_any _ _ _ _).mono ?_; (first | rw [hin1] | rw [hnin]); rintro e w' ⟨rfl, rfl⟩))
                    go_ret2
                    exact ⟨rfl, rfl⟩
                · rw [eval_on (readT_ok hg y1 y2) _ (by rw [reck_in (by rw [hst]; omega) (by rw [hst]; omega), hst]), List.drop_drop] at he
                  have HE := hid he
                  have hin2 : decide (-1000000 ≤ st ∧ st ≤ 1000000) = true := by apply decide_eq_true; omega
                  have s1 : -1000000 ≤ st := by omega
                  have s2 : st ≤ 1000000 := by omega
                  clear he hg hx hsn hfar hst
                  rcases hor with ⟨n1, n2⟩ | ⟨n1, n2, n3, n4⟩ | ⟨n1, n2, n3, n4, n5⟩
                  · have hs1 : st = q + x' := by rcases hstv with h | h | h <;> simp_all
                    subst hs1
                    clear hstv
                    go_wp2_with (first | (go_at_call 37; refine (refTerm_any s (j + 1) at_ a cap ns _ x' m 0 hs' (by omega) hl HN.out HG.out).mono ?_; rintro e w' ⟨rfl, rfl⟩) | (go_at_call 38; refine (in_any _ _ _ _).mono ?_; (first | rw [hin1] | rw [hin2]); rintro e w' ⟨rfl, rfl⟩))
                    go_round
                    case rel => exact ⟨j + 1 + m, _, g, by omega, by go_num, rfl, s1, s2, by omega, HE.out⟩
                    case measure => simp [intOf]; omega
                  · have hs1 : st = q - x' := by rcases hstv with h | h | h <;> simp_all
                    subst hs1
                    clear hstv
                    go_wp2_with (first | (go_at_call 37; refine (refTerm_any s (j + 1) at_ a cap ns _ x' m 0 hs' (by omega) hl HN.out HG.out).mono ?_; rintro e w' ⟨rfl, rfl⟩) | (go_at_call 38; refine (in_any _ _ _ _).mono ?_; (first | rw [hin1] | rw [hin2]); rintro e w' ⟨rfl, rfl⟩))
                    go_round
                    case rel => exact ⟨j + 1 + m, _, g, by omega, by go_num, rfl, s1, s2, by omega, HE.out⟩
                    case measure => simp [intOf]; omega
                  · have hs1 : st = q * x' := by rcases hstv with h | h | h <;> simp_all
                    subst hs1
                    clear hstv
                    go_wp2_with (first | (go_at_call 37; refine (refTerm_any s (j + 1) at_ a cap ns _ x' m 0 hs' (by omega) hl HN.out HG.out).mono ?_; rintro e w' ⟨rfl, rfl⟩) | (go_at_call 38; refine (in_any _ _ _ _).mono ?_; (first | rw [hin1] | rw [hin2]); rintro e w' ⟨rfl, rfl⟩))
                    go_round
                    case rel => exact ⟨j + 1 + m, _, g, by omega, by go_num, rfl, s1, s2, by omega, HE.out⟩
                    case measure => simp [intOf]; omega
            · rw [eval_bad (readT_bad hg hy) hy] at he
              obtain ⟨rfl, rfl⟩ := pair_eq he
              have ky : (y' != 0) = true := by simpa using hy
              clear he hg hsn
              rcases hor with ⟨n1, n2⟩ | ⟨n1, n2, n3, n4⟩ | ⟨n1, n2, n3, n4, n5⟩
              all_goals
                go_wp2_with (first | (go_at_call 37; refine (refTerm_any s (j + 1) at_ a cap ns _ x' m y' hs' (by omega) hl HN.out HG.out).mono ?_; rintro e w' ⟨rfl, rfl⟩))
                go_ret2
                exact ⟨rfl, rfl⟩
          · rw [if_neg hsn] at he
            obtain ⟨rfl, rfl⟩ := pair_eq he
            have n1 : ((s[j].toNat : Int) != 43) = true := by simp; omega
            have n2 : ((s[j].toNat : Int) != 45) = true := by simp; omega
            have n3 : ((s[j].toNat : Int) != 42) = true := by simp; omega
            clear he hsn
            go_wp2_with fail
            go_ret2
            exact ⟨rfl, rfl⟩
        · rw [L_end s j (by omega)] at he
          obtain ⟨rfl, rfl⟩ := pair_eq (show (q, 0) = (V, ER) from he)
          clear he
          go_wp2_with fail
          go_ret2
          exact ⟨rfl, rfl⟩
  · rw [eval_bad (readT_bad hg hy) hy] at he
    obtain ⟨rfl, rfl⟩ := pair_eq he
    have ky : (y != 0) = true := by simpa using hy
    clear he hg
    go_enter Tryz.func24, Tryz.ntmps24
    go_wp2_with (first | (go_at_call 37; refine (refTerm_any s 1 at_ a cap ns _ x n y hs' (by omega) hl HN.out HG.out).mono ?_; rintro e w' ⟨rfl, rfl⟩))
    go_ret2
    exact ⟨rfl, rfl⟩

set_option maxRecDepth 100000 in
set_option maxHeartbeats 3000000 in
theorem refValue_plus (s : ByteArray) (at_ : Int) (a : Option Addr) (cap : Nat) (ns : List (ByteArray × Int)) (w : World) (V ER : Int) (hs' : s.size ≤ 140737488351232) (hl : ns.length ≤ maxLen) (hn : NamesAt w a ns) (hpos : 0 < s.size) (h45 : ¬ (s[0].toNat : Int) = 45) (f : Nat) (hf : s.size ≤ f) (he : eval at_ (plainN ns) (f + 1) 0 43 ((L s).drop 0) = (V, ER)) :
    Calls Tryz.prog 24 #[.string s, .int .i64 at_, .slice a ns.length cap] w fun e w' => e = .returned (.tuple #[.int .i64 V, .int .i64 ER]) ∧ w' = w := by
  have k0 : decide ((0 : Int) < s.size) = true := by simp; omega
  have k45 : ((s[0].toNat : Int) == 45) = false := by simpa using h45
  have HN := hid hn
  clear hn h45
  rcases hg : term at_ (plainN ns) ((L s).drop 0) with ⟨x, n, y⟩
  have hnl := term_len at_ (plainN ns) ((L s).drop 0)
  rw [hg, List.length_drop, L_length] at hnl
  simp only at hnl
  have HG := hid hg
  by_cases hy : y = 0
  · subst hy
    by_cases hx : x < -1000000 ∨ 1000000 < x
    · rw [eval_bad (readT_out hg hx) (by omega)] at he
      obtain ⟨rfl, rfl⟩ := pair_eq he
      have hnin : decide (-1000000 ≤ x ∧ x ≤ 1000000) = false := by apply decide_eq_false; omega
      clear he hg hx
      go_enter Tryz.func24, Tryz.ntmps24
      go_wp2_with (first | (go_at_call 37; refine (refTerm_any s 0 at_ a cap ns _ x n 0 hs' (by omega) hl HN.out HG.out).mono ?_; rintro e w' ⟨rfl, rfl⟩) | (go_at_call 38; refine (in_any _ _ _ _).mono ?_; rw [hnin]; rintro e w' ⟨rfl, rfl⟩))
      go_ret2
      exact ⟨rfl, rfl⟩
    · have x1 : -1000000 ≤ x := by omega
      have x2 : x ≤ 1000000 := by omega
      have hin : decide (-1000000 ≤ x ∧ x ≤ 1000000) = true := by apply decide_eq_true; omega
      rw [eval_on (readT_ok hg x1 x2) _ (reck_plus x x1 x2), List.drop_drop] at he
      have HE := hid he
      clear he hg hx
      go_enter Tryz.func24, Tryz.ntmps24
      go_wp2_with (first | (go_at_call 37; refine (refTerm_any s 0 at_ a cap ns _ x n 0 hs' (by omega) hl HN.out HG.out).mono ?_; rintro e w' ⟨rfl, rfl⟩) | (go_at_call 38; refine (in_any _ _ _ _).mono ?_; rw [hin]; rintro e w' ⟨rfl, rfl⟩))
      go_loop [8, 10] (fun i z => ∃ (j : Nat) (q : Int) (f : Nat), j ≤ s.size ∧ i = .int .i64 j ∧ z = .int .i64 q ∧ -1000000 ≤ q ∧ q ≤ 1000000 ∧ s.size - j ≤ f ∧ evalS at_ (plainN ns) f q ((L s).drop j) = (V, ER)) (fun i _ => s.size - (intOf i).toNat)
      case atStart => exact ⟨0 + n, x, _, by omega, by go_num, by go_num, by omega, by omega, by omega, HE.out⟩
      case round =>
        obtain ⟨j, q, f, hj, rfl, rfl, q1, q2, hf, he⟩ := hrel
        clear HE HG
        by_cases hlt : j < s.size
        · rw [L_drop s j hlt] at he
          simp only [evalS] at he
          have hby := byte_bd s[j]
          by_cases hsn : (s[j].toNat : Int) = 43 ∨ (s[j].toNat : Int) = 45 ∨ (s[j].toNat : Int) = 42
          · rw [if_pos hsn] at he
            obtain ⟨g, rfl⟩ : ∃ g, f = g + 1 := ⟨f - 1, by omega⟩
            rcases hg : term at_ (plainN ns) ((L s).drop (j + 1)) with ⟨x', m, y'⟩
            have hml := term_len at_ (plainN ns) ((L s).drop (j + 1))
            rw [hg, List.length_drop, L_length] at hml
            simp only at hml
            have HG := hid hg
            have hor : (((s[j].toNat : Int) != 43) = false ∧ ((s[j].toNat : Int) == 43) = true) ∨ (((s[j].toNat : Int) != 43) = true ∧ ((s[j].toNat : Int) != 45) = false ∧ ((s[j].toNat : Int) == 43) = false ∧ ((s[j].toNat : Int) == 45) = true) ∨ (((s[j].toNat : Int) != 43) = true ∧ ((s[j].toNat : Int) != 45) = true ∧ ((s[j].toNat : Int) != 42) = false ∧ ((s[j].toNat : Int) == 43) = false ∧ ((s[j].toNat : Int) == 45) = false) := by
              simp; omega
            by_cases hy : y' = 0
            · subst hy
              by_cases hx : x' < -1000000 ∨ 1000000 < x'
              · rw [eval_bad (readT_out hg hx) (by omega)] at he
                obtain ⟨rfl, rfl⟩ := pair_eq he
                have hnin : decide (-1000000 ≤ x' ∧ x' ≤ 1000000) = false := by apply decide_eq_false; omega
                clear he hg hx hsn
                rcases hor with ⟨n1, n2⟩ | ⟨n1, n2, n3, n4⟩ | ⟨n1, n2, n3, n4, n5⟩
                all_goals
                  go_wp2_with (first | (go_at_call 37; refine (refTerm_any s (j + 1) at_ a cap ns _ x' m 0 hs' (by omega) hl HN.out HG.out).mono ?_; rintro e w' ⟨rfl, rfl⟩) | (go_at_call 38; refine (in_any _ _ _ _).mono ?_; rw [hnin]; rintro e w' ⟨rfl, rfl⟩))
                  go_ret2
                  exact ⟨rfl, rfl⟩
              · have y1 : -1000000 ≤ x' := by omega
                have y2 : x' ≤ 1000000 := by omega
                have hin1 : decide (-1000000 ≤ x' ∧ x' ≤ 1000000) = true := by apply decide_eq_true; omega
                obtain ⟨m1, m2⟩ := mul_bd q x' q1 q2 y1 y2
                obtain ⟨st, hst⟩ : ∃ z, step q (s[j].toNat : Int) x' = z := ⟨_, rfl⟩
                have hstv : ((s[j].toNat : Int) = 43 ∧ st = q + x') ∨ ((s[j].toNat : Int) = 45 ∧ st = q - x') ∨ ((s[j].toNat : Int) = 42 ∧ st = q * x') := by
                  rw [← hst]; unfold step
                  rcases hsn with h | h | h
                  · left; rw [h]; simp
                  · right; left; rw [h]; simp
                  · right; right; rw [h]; simp
                by_cases hfar : st < -1000000 ∨ 1000000 < st
                · rw [eval_far (readT_ok hg y1 y2) _ (reck_out (by rw [hst]; exact hfar)) (by omega)] at he
                  obtain ⟨rfl, rfl⟩ := pair_eq he
                  have hnin : decide (-1000000 ≤ st ∧ st ≤ 1000000) = false := by apply decide_eq_false; omega
                  clear he hg hx hsn hfar hst
                  rcases hor with ⟨n1, n2⟩ | ⟨n1, n2, n3, n4⟩ | ⟨n1, n2, n3, n4, n5⟩
                  · have hs1 : st = q + x' := by rcases hstv with h | h | h <;> simp_all
                    subst hs1
                    clear hstv
                    go_wp2_with (first | (go_at_call 37; refine (refTerm_any s (j + 1) at_ a cap ns _ x' m 0 hs' (by omega) hl HN.out HG.out).mono ?_; rintro e w' ⟨rfl, rfl⟩) | (go_at_call 38; refine (in_any _ _ _ _).mono ?_; (first | rw [hin1] | rw [hnin]); rintro e w' ⟨rfl, rfl⟩))
                    go_ret2
                    exact ⟨rfl, rfl⟩
                  · have hs1 : st = q - x' := by rcases hstv with h | h | h <;> simp_all
                    subst hs1
                    clear hstv
                    go_wp2_with (first | (go_at_call 37; refine (refTerm_any s (j + 1) at_ a cap ns _ x' m 0 hs' (by omega) hl HN.out HG.out).mono ?_; rintro e w' ⟨rfl, rfl⟩) | (go_at_call 38; refine (in_any _ _ _ _).mono ?_; (first | rw [hin1] | rw [hnin]); rintro e w' ⟨rfl, rfl⟩))
                    go_ret2
                    exact ⟨rfl, rfl⟩
                  · have hs1 : st = q * x' := by rcases hstv with h | h | h <;> simp_all
                    subst hs1
                    clear hstv
                    go_wp2_with (first | (go_at_call 37; refine (refTerm_any s (j + 1) at_ a cap ns _ x' m 0 hs' (by omega) hl HN.out HG.out).mono ?_; rintro e w' ⟨rfl, rfl⟩) | (go_at_call 38; refine (in_any _ _ _ _).mono ?_; (first | rw [hin1] | rw [hnin]); rintro e w' ⟨rfl, rfl⟩))
                    go_ret2
                    exact ⟨rfl, rfl⟩
                · rw [eval_on (readT_ok hg y1 y2) _ (by rw [reck_in (by rw [hst]; omega) (by rw [hst]; omega), hst]), List.drop_drop] at he
                  have HE := hid he
                  have hin2 : decide (-1000000 ≤ st ∧ st ≤ 1000000) = true := by apply decide_eq_true; omega
                  have s1 : -1000000 ≤ st := by omega
                  have s2 : st ≤ 1000000 := by omega
                  clear he hg hx hsn hfar hst
                  rcases hor with ⟨n1, n2⟩ | ⟨n1, n2, n3, n4⟩ | ⟨n1, n2, n3, n4, n5⟩
                  · have hs1 : st = q + x' := by rcases hstv with h | h | h <;> simp_all
                    subst hs1
                    clear hstv
                    go_wp2_with (first | (go_at_call 37; refine (refTerm_any s (j + 1) at_ a cap ns _ x' m 0 hs' (by omega) hl HN.out HG.out).mono ?_; rintro e w' ⟨rfl, rfl⟩) | (go_at_call 38; refine (in_any _ _ _ _).mono ?_; (first | rw [hin1] | rw [hin2]); rintro e w' ⟨rfl, rfl⟩))
                    go_round
                    case rel => exact ⟨j + 1 + m, _, g, by omega, by go_num, rfl, s1, s2, by omega, HE.out⟩
                    case measure => simp [intOf]; omega
                  · have hs1 : st = q - x' := by rcases hstv with h | h | h <;> simp_all
                    subst hs1
                    clear hstv
                    go_wp2_with (first | (go_at_call 37; refine (refTerm_any s (j + 1) at_ a cap ns _ x' m 0 hs' (by omega) hl HN.out HG.out).mono ?_; rintro e w' ⟨rfl, rfl⟩) | (go_at_call 38; refine (in_any _ _ _ _).mono ?_; (first | rw [hin1] | rw [hin2]); rintro e w' ⟨rfl, rfl⟩))
                    go_round
                    case rel => exact ⟨j + 1 + m, _, g, by omega, by go_num, rfl, s1, s2, by omega, HE.out⟩
                    case measure => simp [intOf]; omega
                  · have hs1 : st = q * x' := by rcases hstv with h | h | h <;> simp_all
                    subst hs1
                    clear hstv
                    go_wp2_with (first | (go_at_call 37; refine (refTerm_any s (j + 1) at_ a cap ns _ x' m 0 hs' (by omega) hl HN.out HG.out).mono ?_; rintro e w' ⟨rfl, rfl⟩) | (go_at_call 38; refine (in_any _ _ _ _).mono ?_; (first | rw [hin1] | rw [hin2]); rintro e w' ⟨rfl, rfl⟩))
                    go_round
                    case rel => exact ⟨j + 1 + m, _, g, by omega, by go_num, rfl, s1, s2, by omega, HE.out⟩
                    case measure => simp [intOf]; omega
            · rw [eval_bad (readT_bad hg hy) hy] at he
              obtain ⟨rfl, rfl⟩ := pair_eq he
              have ky : (y' != 0) = true := by simpa using hy
              clear he hg hsn
              rcases hor with ⟨n1, n2⟩ | ⟨n1, n2, n3, n4⟩ | ⟨n1, n2, n3, n4, n5⟩
              all_goals
                go_wp2_with (first | (go_at_call 37; refine (refTerm_any s (j + 1) at_ a cap ns _ x' m y' hs' (by omega) hl HN.out HG.out).mono ?_; rintro e w' ⟨rfl, rfl⟩))
                go_ret2
                exact ⟨rfl, rfl⟩
          · rw [if_neg hsn] at he
            obtain ⟨rfl, rfl⟩ := pair_eq he
            have n1 : ((s[j].toNat : Int) != 43) = true := by simp; omega
            have n2 : ((s[j].toNat : Int) != 45) = true := by simp; omega
            have n3 : ((s[j].toNat : Int) != 42) = true := by simp; omega
            clear he hsn
            go_wp2_with fail
            go_ret2
            exact ⟨rfl, rfl⟩
        · rw [L_end s j (by omega)] at he
          obtain ⟨rfl, rfl⟩ := pair_eq (show (q, 0) = (V, ER) from he)
          clear he
          go_wp2_with fail
          go_ret2
          exact ⟨rfl, rfl⟩
  · rw [eval_bad (readT_bad hg hy) hy] at he
    obtain ⟨rfl, rfl⟩ := pair_eq he
    have ky : (y != 0) = true := by simpa using hy
    clear he hg
    go_enter Tryz.func24, Tryz.ntmps24
    go_wp2_with (first | (go_at_call 37; refine (refTerm_any s 0 at_ a cap ns _ x n y hs' (by omega) hl HN.out HG.out).mono ?_; rintro e w' ⟨rfl, rfl⟩))
    go_ret2
    exact ⟨rfl, rfl⟩

set_option maxHeartbeats 400000 in
theorem refValue_any (s : ByteArray) (at_ : Int) (a : Option Addr) (cap : Nat) (ns : List (ByteArray × Int)) (w : World) (v er : Int) (hs : s.size ≤ 140737488351232) (hl : ns.length ≤ maxLen) (hn : NamesAt w a ns) (hv : value at_ (plainN ns) (L s) = (v, er)) :
    Calls Tryz.prog 24 #[.string s, .int .i64 at_, .slice a ns.length cap] w fun e w' => e = .returned (.tuple #[.int .i64 v, .int .i64 er]) ∧ w' = w := by
  by_cases hpos : 0 < s.size
  · have hL := L_head' s hpos
    have hlen : ((L s).drop 1).length + 1 = s.size := by rw [List.length_drop, L_length]; omega
    by_cases h45 : (s[0].toNat : Int) = 45
    · rw [hL] at hv
      simp only [value] at hv
      rw [if_pos h45] at hv
      exact refValue_minus s at_ a cap ns w v er hs hl hn hpos h45 _ (by omega) hv
    · rw [hL, value_plain _ _ _ _ h45, ← hL] at hv
      exact refValue_plus s at_ a cap ns w v er hs hl hn hpos h45 (((L s).drop 1).length + 1) (by omega) (by rw [List.drop_zero]; exact hv)
  · obtain rfl := empty_of s (by omega)
    obtain ⟨rfl, rfl⟩ := pair_eq (show (0, 4) = (v, er) from hv)
    have HN := hid hn
    clear hn hv hpos hs
    go_enter Tryz.func24, Tryz.ntmps24
    go_wp2_with (first | (go_at_call 37; refine (refTerm_any ⟨#[]⟩ 0 at_ a cap ns _ 0 0 4 (by decide) (by decide) hl HN.out rfl).mono ?_; rintro e w' ⟨rfl, rfl⟩))
    go_ret2
    exact ⟨rfl, rfl⟩

end Go.Proofs.YtcepppilgncdmaaGreatDoor

namespace Go.Proofs.YtcepppilgncdmaaGreatDoor
open Go.RowKit

set_option maxHeartbeats 400000 in
theorem lent_nil (w : World) : Calls Tryz.prog 22 #[.slice none 0 0] w fun e w' => e = .returned (.slice none 0 0) ∧ w' = w := by
  have heq := fun (wx : World) => Lib.run_eql_slice_nil (P := Tryz.prog) wx 31 40 none 0 0 0 0 Tryz.underlying31
  go_enter Tryz.func22, Tryz.ntmps22
  go_wp2
  go_ret
  exact ⟨rfl, rfl⟩

set_option maxHeartbeats 400000 in
theorem whole_nil (v : Value) (w : World) : Calls Tryz.prog 25 #[v, .slice none 0 0] w fun e w' => e = .returned (.bool true) ∧ w' = w := by
  have heq := fun (wx : World) => Lib.run_eql_slice_nil (P := Tryz.prog) wx 31 40 none 0 0 0 0 Tryz.underlying31
  go_enter Tryz.func25, Tryz.ntmps25
  go_wp2
  go_ret
  exact ⟨rfl, rfl⟩

theorem RowN.names {w : World} {g : Nat} {ns more : List (ByteArray × Int)} (h : RowN w g (cellsN (ns ++ more))) : NamesAt w (some ⟨g, 0, none⟩) ns := by
  refine Or.inr ⟨g, 0, rfl, h.lt, fun i hi => ?_⟩
  have hi' : i < (ns ++ more).length := by rw [List.length_append]; omega
  have hlen := cellsN_length (ns ++ more)
  obtain ⟨c1, c2⟩ := cellsN_at (ns ++ more) i hi'
  rw [Nat.zero_add, h.cell (i * 2) (by omega), h.cell (i * 2 + 1) (by omega), ← List.getElem?_eq_getElem, ← List.getElem?_eq_getElem, c1, c2, List.getElem_append_left hi]
  exact ⟨rfl, rfl⟩

set_option maxRecDepth 100000 in
set_option maxHeartbeats 800000 in
theorem step_nil (k : Value) (A : Int) (S : ByteArray) (w : World) (hs : S.size ≤ 140737488351232) :
    Calls Tryz.prog 18 #[k, .agg #[.int .i64 1, .int .i64 A, .string S, .slice none 0 0]] w fun e w' => e = .returned (.bool true) ∧ Below w.heap.size w w' := by
  have hs2 : S.size ≤ maxLen := by unfold maxLen; omega
  rcases hv : value A (plainN []) (L S) with ⟨v, er⟩
  have HV := hid hv
  clear hv
  go_enter Tryz.func18, Tryz.ntmps18
  go_wp2_with fail
  refine (lent_nil _).mono ?_
  rintro e w1 ⟨rfl, rfl⟩
  go_wp2_with fail
  refine (Value_any S A none 0 [] _ v er hs2 (by decide) (Or.inl rfl) HV.out).mono ?_
  rintro e w2 ⟨rfl, hb2⟩
  have c1 := hb2.cell (p := ⟨w.heap.size, 1, none⟩) (by simp)
  have c2 := hb2.cell (p := ⟨w.heap.size, 2, none⟩) (by simp)
  have c3 := hb2.cell (p := ⟨w.heap.size, 3, none⟩) (by simp)
  have HB2 := hid hb2
  clear hb2
  go_wp2_with fail
  refine (refValue_any S A none 0 [] _ v er hs (by decide) (Or.inl rfl) HV.out).mono ?_
  rintro e w3 ⟨rfl, rfl⟩
  go_wp2_with fail
  refine (whole_nil _ _).mono ?_
  rintro e w4 ⟨rfl, rfl⟩
  go_wp2
  go_ret
  exact ⟨rfl, ((Below.refl _ _).alloc (Nat.le_refl _) _).trans (HB2.out.mono (by simp))⟩

set_option maxRecDepth 100000 in
set_option maxHeartbeats 1000000 in
theorem step_some (k : Value) (A : Int) (S : ByteArray) (a : Addr) (cap : Nat) (ns : List (ByteArray × Int)) (w : World) (hs : S.size ≤ 140737488351232) (hl : ns.length ≤ 5864062014634) (hn : NamesAt w (some a) ns) :
    Calls Tryz.prog 18 #[k, .agg #[.int .i64 1, .int .i64 A, .string S, .slice (some a) ns.length cap]] w fun e w' => e = .returned (.bool true) ∧ Below w.heap.size w w' := by
  have hs2 : S.size ≤ maxLen := by unfold maxLen; omega
  have hl2 : ns.length ≤ maxLen := by unfold maxLen; omega
  have HN := hid hn.under
  rcases hv : value A (plainN ns) (L S) with ⟨v, er⟩
  have HV := hid hv
  clear hv hn
  go_enter Tryz.func18, Tryz.ntmps18
  go_wp2_with fail
  have hb0 : Below w.heap.size w (w.alloc (Obj.cells #[Value.int IntKind.i64 1, Value.int IntKind.i64 A, Value.string S, Value.slice (some a) ns.length cap] 57)) := (Below.refl _ _).alloc (Nat.le_refl _) _
  have HB0 := hid hb0
  clear hb0
  refine (lent_any a cap ns _ hl (HN.out.below HB0.out).names).mono ?_
  rintro e w1 ⟨g, rfl, hg1, hg2, hrow, hb1⟩
  have hgw : w.heap.size < g := by simp at hg1; omega
  have c1 := hb1.cell (p := ⟨w.heap.size, 1, none⟩) (by simp)
  have c2 := hb1.cell (p := ⟨w.heap.size, 2, none⟩) (by simp)
  have c3 := hb1.cell (p := ⟨w.heap.size, 3, none⟩) (by simp)
  simp [go_sem] at c1 c2 c3
  have HB1 := hid (HB0.out.trans (hb1.mono (by simp)))
  have HROW := hid (show RowN w1 g (cellsN (ns ++ List.replicate 8 beyondB)) from hrow)
  have hz1 : w.heap.size < w1.heap.size := by omega
  clear hb1 hrow hg1
  go_wp2_with fail
  refine (Value_any S A (some ⟨g, 0, none⟩) (ns.length + 8) ns _ v er hs2 hl2 HROW.out.names HV.out).mono ?_
  rintro e w2 ⟨rfl, hb2⟩
  have d1 := (hb2.cell (p := ⟨w.heap.size, 1, none⟩) hz1).trans c1
  have d2 := (hb2.cell (p := ⟨w.heap.size, 2, none⟩) hz1).trans c2
  have d3 := (hb2.cell (p := ⟨w.heap.size, 3, none⟩) hz1).trans c3
  have HB2 := hid (HB1.out.trans (hb2.mono HB1.out.size))
  have HROW2 := hid (HROW.out.below hb2)
  have hz2 : w.heap.size ≤ w2.heap.size := HB2.out.size
  clear hb2 c1 c2 c3
  go_wp2_with fail
  refine (refValue_any S A (some a) cap ns _ v er hs hl2 (HN.out.below HB2.out).names HV.out).mono ?_
  rintro e w3 ⟨rfl, hw3⟩
  subst hw3
  go_wp2_with fail
  refine (whole_any g a cap ns w.heap.size _ hl (by omega) HB2.out.size (HN.out.below HB2.out) HROW2.out).mono ?_
  rintro e w4 ⟨rfl, hb4⟩
  have HB4 := hid (HB2.out.trans hb4)
  clear hb4
  go_wp2
  go_ret
  exact ⟨rfl, HB4.out⟩

set_option maxRecDepth 100000 in
set_option maxHeartbeats 800000 in
theorem looks_empty (kb : Nat) (w : World) (h0 : w.cell? ⟨kb, 0, none⟩ = some (.slice none 0 0)) (h1 : w.cell? ⟨kb, 1, none⟩ = some (.slice none 0 0)) (h2 : w.cell? ⟨kb, 2, none⟩ = some (.slice none 0 0)) :
    Calls Tryz.prog 19 #[.pointer (some ⟨kb, 0, none⟩)] w fun e w' => e = .returned (.bool true) ∧ w' = w := by
  go_enter Tryz.func19, Tryz.ntmps19
  go_wp2
  refine wp_loop_rounds 1 ?_
  rw [rounds_succ]
  go_wp2
  refine wp_loop_rounds 1 ?_
  rw [rounds_succ]
  go_wp2
  refine wp_loop_rounds 1 ?_
  rw [rounds_succ]
  go_wp2
  go_ret
  exact ⟨rfl, rfl⟩

def firstCells : List Value := [.int .i64 1, .int .i64 0, .string ⟨#[50, 43, 51, 42, 52]⟩, .slice none 0 0,
  .int .i64 2, .int .i64 0, .string ⟨#[46, 109, 97, 99, 114, 111, 32, 116, 119, 105, 99, 101, 44, 97, 10, 97, 100, 100, 32, 92, 97, 44, 92, 97, 10, 46, 101, 110, 100, 10, 104, 101, 114, 101, 58, 32, 116, 119, 105, 99, 101, 32, 114, 49, 32, 59, 32, 115, 111]⟩, .slice none 0 0,
  .int .i64 3, .int .i64 0, .string ⟨#[106, 109, 112, 32, 101, 110, 100, 10, 46, 115, 112, 97, 99, 101, 32, 49, 50, 56, 10, 101, 110, 100, 58, 32, 114, 101, 116]⟩, .slice none 0 0]

set_option maxRecDepth 100000 in
set_option maxHeartbeats 800000 in
theorem first_any (w : World) : Calls Tryz.prog 17 #[] w fun e w' => e = .returned (.slice (some ⟨w.heap.size, 0, none⟩) 3 3) ∧ w' = w.alloc (.cells firstCells.toArray 57) := by
  go_enter Tryz.func17, Tryz.ntmps17
  go_wp2
  go_ret
  exact ⟨rfl, rfl⟩

end Go.Proofs.YtcepppilgncdmaaGreatDoor
