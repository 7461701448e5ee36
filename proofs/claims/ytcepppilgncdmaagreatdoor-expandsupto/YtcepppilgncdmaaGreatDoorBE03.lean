/-
  What Value answers: the plain function 'value'; the names lie in memory as a Go list of names does.
  What mason.Value answers: the plain function 'value'.
  What the document's own functions of bytes and words (package masonref) answer, said by the same plain functions.
-/
import Derived.Test.YtcepppilgncdmaaGreatDoorBE02
import Derived.WalkMore
import Derived.Scope
namespace Go.Proofs.YtcepppilgncdmaaGreatDoor
open Go.RowKit

/-- As Q; by a goto to a label: what is asked at that label. -/
def jumps (J : Nat → Act → World → Prop) (Q : Exit → Act → World → Prop) : Exit → Act → World → Prop
  | .goto l, a, w => J l a w
  | e, a, w => Q e a w

theorem wp_scope_many {P : Program} {a : Act} {w : World} {Q : Exit → Act → World → Prop} {c : Code} (J : Nat → Act → World → Prop) (m : Act → World → Nat)
    (pass0 : ∀ l a w, J l a w → ∃ rest, findLabel c l = some (.seq .skip rest) ∧ rest.wp P (jumps (fun l' a' w' => J l' a' w' ∧ m a' w' < m a w) Q) a w)
    (first0 : (∀ l rest a w, findLabel c l = some (.seq .skip rest) → J l a w → rest.wp P (jumps J Q) a w) → c.wp P (jumps J Q) a w) : (Code.scope c).wp P Q a w := by
  have first := first0 (fun l rest a w hf hJ => by
    obtain ⟨rest', hf', hp⟩ := pass0 l a w hJ
    rw [hf] at hf'
    injection hf' with hf'
    injection hf' with _ hf'
    subst hf'
    exact Go.wp_mono hp (fun e a w h => by cases e <;> first | exact h | exact h.1))
  have pass : ∀ l a w, J l a w → ∃ rest, findLabel c l = some rest ∧ rest.wp P (jumps (fun l' a' w' => J l' a' w' ∧ m a' w' < m a w) Q) a w := fun l a w hJ => by
    obtain ⟨rest, hf, hp⟩ := pass0 l a w hJ
    exact ⟨_, hf, wp_seq (wp_skip hp)⟩
  intro b k cs
  have key : ∀ n l a w, m a w = n → J l a w → ∃ rest, findLabel c l = some rest ∧ ∃ e a' w', Q e a' w' ∧ Arrives P (lone (b.at a (.code rest :: .inScope c :: k)) cs w) b k cs e a' w' := by
    intro n
    induction n using Nat.strongRecOn with
    | _ n ih =>
      intro l a w hn hJ
      obtain ⟨rest, hf, hp⟩ := pass l a w hJ
      refine ⟨rest, hf, ?_⟩
      obtain ⟨e, a₁, w₁, hq, harr⟩ := hp b (.inScope c :: k) cs
      cases e with
      | normal => exact ⟨.normal, a₁, w₁, hq, Steps.trans harr (.one step_inScope)⟩
      | exit id => exact ⟨.exit id, a₁, w₁, hq, fun k' hk => harr k' (by simp [exitTo, hk])⟩
      | goto l' =>
        obtain ⟨hJ', hlt⟩ := hq
        obtain ⟨rest₂, hf₂, e₂, a₂, w₂, hq₂, harr₂⟩ := ih _ (by omega) l' a₁ w₁ rfl hJ'
        have hg : gotoIn l' (.inScope c :: k) = some (.code rest₂ :: .inScope c :: k) := by simp [gotoIn, hf₂]
        exact ⟨e₂, a₂, w₂, hq₂, .of_steps (harr _ hg) harr₂⟩
      | ret => exact ⟨_, a₁, w₁, hq, harr⟩
      | panic ch => exact ⟨_, a₁, w₁, hq, harr⟩
      | outgrown => exact ⟨_, a₁, w₁, hq, harr⟩
  obtain ⟨e, a₁, w₁, hq, harr⟩ := first b (.inScope c :: k) cs
  cases e with
  | normal => exact ⟨.normal, a₁, w₁, hq, .head step_scope (Steps.trans harr (.one step_inScope))⟩
  | exit id => exact ⟨.exit id, a₁, w₁, hq, fun k' hk => .head step_scope (harr k' (by simp [exitTo, hk]))⟩
  | goto l' =>
    obtain ⟨rest, hf, e₂, a₂, w₂, hq₂, harr₂⟩ := key _ l' a₁ w₁ rfl hq
    have hg : gotoIn l' (.inScope c :: k) = some (.code rest :: .inScope c :: k) := by simp [gotoIn, hf]
    exact ⟨e₂, a₂, w₂, hq₂, .of_steps (.head step_scope (harr _ hg)) harr₂⟩
  | ret => exact ⟨_, a₁, w₁, hq, .of_steps (.one step_scope) harr⟩
  | panic ch => exact ⟨_, a₁, w₁, hq, .of_steps (.one step_scope) harr⟩
  | outgrown => exact ⟨_, a₁, w₁, hq, .of_steps (.one step_scope) harr⟩

theorem L_nil {t : ByteArray} (h : L t = []) : t = ⟨#[]⟩ := L_inj h

def strSize : Value → Nat
  | .string s => s.size
  | _ => 0

/-- What holds at a jump: to label 1 (a term is read next), to label 0 (a sign is read next). -/
def AtJump (s : ByteArray) (at_ : Int) (a : Option Addr) (cap : Nat) (ns : List (ByteArray × Int)) (w : World) (v er : Int) (l : Nat) (a' : Act) (w' : World) : Prop :=
  ∃ (t : ByteArray) (sg sm : Int) (u11 u12 u13 u14 u15 u16 u17 u18 u19 u20 u21 u22 u23 u24 u25 u26 u27 u28 u29 u30 u31 u32 u33 u34 u35 u36 u37 u38 u39 u40 u41 u42 u43 u44 u45 u46 u47 u48 u49 u50 u51 u52 u53 u54 u55 u56 u57 u58 : Value),
    a' = { tmps := #[.string s, .int .i64 at_, .slice a ns.length cap, undef, undef, undef, .int .i64 0, .int .i64 0, .string t, .int .u8 sg, .int .i64 sm, u11, u12, u13, u14, u15, u16, u17, u18, u19, u20, u21, u22, u23, u24, u25, u26, u27, u28, u29, u30, u31, u32, u33, u34, u35, u36, u37, u38, u39, u40, u41, u42, u43, u44, u45, u46, u47, u48, u49, u50, u51, u52, u53, u54, u55, u56, u57, u58], defers := [] } ∧
    t.size ≤ maxLen ∧ Below w.heap.size w w' ∧ -1000000 ≤ sm ∧ sm ≤ 1000000 ∧
    ((l = 1 ∧ (sg = 43 ∨ sg = 45 ∨ sg = 42) ∧ ∃ f, t.size ≤ f ∧ eval at_ (plainN ns) (f + 1) sm sg (L t) = (v, er)) ∨
     (l = 0 ∧ 0 < t.size ∧ ∃ f, t.size ≤ f ∧ evalS at_ (plainN ns) f sm (L t) = (v, er)))

set_option maxHeartbeats 800000 in
theorem xValue_any (s : ByteArray) (at_ : Int) (a : Option Addr) (cap : Nat) (ns : List (ByteArray × Int)) (w : World) (v er : Int) (hs : s.size ≤ maxLen) (hl : ns.length ≤ maxLen) (hn : NamesAt w a ns) (hv : value at_ (plainN ns) (L s) = (v, er)) :
    Calls Tryz.prog 36 #[.string s, .int .i64 at_, .slice a ns.length cap] w fun e w' => e = .returned (.tuple #[.int .i64 v, .int .i64 er]) ∧ Below w.heap.size w w' := by
  have HN := hid hn
  have HV := hid hv
  clear hn hv
  go_enter Tryz.func36, Tryz.ntmps36
  go_wp2
  refine wp_scope_many (AtJump s at_ a cap ns w v er) (fun a' _ => strSize (a'.tmps.getD 8 undef)) ?_ ?_
  · rintro l a' w' ⟨t, sg, sm, u11, u12, u13, u14, u15, u16, u17, u18, u19, u20, u21, u22, u23, u24, u25, u26, u27, u28, u29, u30, u31, u32, u33, u34, u35, u36, u37, u38, u39, u40, u41, u42, u43, u44, u45, u46, u47, u48, u49, u50, u51, u52, u53, u54, u55, u56, u57, u58, rfl, ht, hb, b1, b2, hc⟩
    have HB := hid hb
    have ht' := ht
    unfold maxLen at ht'
    clear hb HV hs
    rcases hc with ⟨rfl, hsg, f, hf, he⟩ | ⟨rfl, hpos, f, hf, he⟩
    · refine ⟨_, rfl, ?_⟩
      rcases hr : readT at_ (plainN ns) (L t) with ⟨x, r, y⟩
      have HR := hid hr
      by_cases hy : y = 0
      · subst hy
        obtain ⟨x1, x2⟩ := readT_bd hr
        rcases hk : reck sm sg x with ⟨z, q⟩
        have HK := hid hk
        by_cases hq : q = 0
        · subst hq
          obtain ⟨z1, z2⟩ := reck_bd hk
          rw [eval_on hr f hk] at he
          have HE := hid he
          have HSG := hid hsg
          clear he hr hk hsg
          match r with
          | [] =>
            obtain ⟨rfl, rfl⟩ := pair_eq HE.out
            go_wp2_with (first | (go_at_call 52; refine (readTerm_any t at_ a cap ns _ x _ 0 ht hl (HN.out.below HB.out) HR.out).mono ?_; rintro e w' ⟨t', ht1, ht2, rfl, hb'⟩; obtain rfl := L_nil ht1) | (go_at_call 53; refine (reckon_any sm sg x _ z 0 ⟨b1, b2⟩ ⟨x1, x2⟩ HK.out HSG.out).mono ?_; rintro e w' ⟨rfl, rfl⟩))
            simp only [jumps]
            go_ret2
            exact ⟨rfl, HB.out.trans (hb'.mono HB.out.size)⟩
          | c :: r =>
            go_wp2_with fail
            refine (readTerm_any t at_ a cap ns _ x _ 0 ht hl (HN.out.below HB.out) HR.out).mono ?_
            rintro e w1 ⟨t', ht1, ht2, rfl, hb'⟩
            have hpos : 0 < t'.size := by
              have h := congrArg List.length ht1
              rw [L_length, List.length_cons] at h
              omega
            have ke := not_empty t' hpos
            have HL := hid (L_head t' hpos)
            have he := HE.out
            rw [← ht1, HL.out] at he
            simp only [evalS] at he
            have HBT := hid (HB.out.trans (hb'.mono HB.out.size))
            clear HE ht1 hb'
            have h0i : (0 : Int) < (t'.size : Int) := by omega
            have h1i : (1 : Int) ≤ (t'.size : Int) := by omega
            by_cases hsn : (t'[0].toNat : Int) = 43 ∨ (t'[0].toNat : Int) = 45 ∨ (t'[0].toNat : Int) = 42
            · rw [if_pos hsn] at he
              obtain ⟨g, rfl⟩ : ∃ g, f = g + 1 := ⟨f - 1, by omega⟩
              have HE := hid he
              have HSN := hid hsn
              clear he
              have hor : (((t'[0].toNat : Int) != 43) = false) ∨ (((t'[0].toNat : Int) != 43) = true ∧ ((t'[0].toNat : Int) != 45) = false) ∨ (((t'[0].toNat : Int) != 43) = true ∧ ((t'[0].toNat : Int) != 45) = true ∧ ((t'[0].toNat : Int) != 42) = false) := by
                simp; omega
              clear hsn
              rcases hor with n1 | ⟨n1, n2⟩ | ⟨n1, n2, n3⟩
              all_goals
                go_wp2_with (first | (go_at_call 53; refine (reckon_any sm sg x _ z 0 ⟨b1, b2⟩ ⟨x1, x2⟩ HK.out HSG.out).mono ?_; rintro e w' ⟨rfl, rfl⟩))
                go_step3
                go_wp2
                go_quiet (fail)
                go_wp2
                go_step3
                exact ⟨⟨t'.extract 1 t'.size, _, z, _, _, _, _, _, _, _, _, _, _, _, _, _, _, _, _, _, _, _, _, _, _, _, _, _, _, _, _, _, _, _, _, _, _, _, _, _, _, _, _, _, _, _, _, _, _, _, _, rfl, by rw [ByteArray.size_extract]; unfold maxLen; omega, below_drewN (HBT.out) _, z1, z2, Or.inl ⟨rfl, HSN.out, g, by rw [ByteArray.size_extract]; omega, by rw [L_suffix]; exact HE.out⟩⟩, by show (t'.extract 1 t'.size).size < t.size; rw [ByteArray.size_extract]; omega⟩
            · rw [if_neg hsn] at he
              obtain ⟨rfl, rfl⟩ := pair_eq he
              have n1 : ((t'[0].toNat : Int) != 43) = true := by simp; omega
              have n2 : ((t'[0].toNat : Int) != 45) = true := by simp; omega
              have n3 : ((t'[0].toNat : Int) != 42) = true := by simp; omega
              clear he hsn
              go_wp2_with (first | (go_at_call 53; refine (reckon_any sm sg x _ z 0 ⟨b1, b2⟩ ⟨x1, x2⟩ HK.out HSG.out).mono ?_; rintro e w' ⟨rfl, rfl⟩))
              go_step3
              go_wp2
              go_quiet (fail)
              go_wp2
              simp only [jumps]
              go_ret2
              exact ⟨rfl, below_drewN (HBT.out) _⟩
        · rw [eval_far hr f hk hq] at he
          obtain ⟨rfl, rfl⟩ := pair_eq he
          have kq : (q != 0) = true := by simpa using hq
          have HSG := hid hsg
          clear he hr hk hsg
          go_wp2_with (first | (go_at_call 52; refine (readTerm_any t at_ a cap ns _ x r 0 ht hl (HN.out.below HB.out) HR.out).mono ?_; rintro e w' ⟨t', ht1, ht2, rfl, hb'⟩) | (go_at_call 53; refine (reckon_any sm sg x _ z q ⟨b1, b2⟩ ⟨x1, x2⟩ HK.out HSG.out).mono ?_; rintro e w' ⟨rfl, rfl⟩))
          simp only [jumps]
          go_ret2
          exact ⟨rfl, HB.out.trans (hb'.mono HB.out.size)⟩
      · rw [eval_bad hr hy] at he
        obtain ⟨rfl, rfl⟩ := pair_eq he
        have ky : (y != 0) = true := by simpa using hy
        have HSG := hid hsg
        clear he hr hsg
        go_wp2_with (first | (go_at_call 52; refine (readTerm_any t at_ a cap ns _ x r y ht hl (HN.out.below HB.out) HR.out).mono ?_; rintro e w' ⟨t', ht1, ht2, rfl, hb'⟩))
        simp only [jumps]
        go_ret2
        exact ⟨rfl, HB.out.trans (hb'.mono HB.out.size)⟩
    · refine ⟨_, rfl, ?_⟩
      have HL := hid (L_head t hpos)
      rw [HL.out] at he
      simp only [evalS] at he
      have h0i : (0 : Int) < (t.size : Int) := by omega
      have h1i : (1 : Int) ≤ (t.size : Int) := by omega
      by_cases hsn : (t[0].toNat : Int) = 43 ∨ (t[0].toNat : Int) = 45 ∨ (t[0].toNat : Int) = 42
      · rw [if_pos hsn] at he
        obtain ⟨g, rfl⟩ : ∃ g, f = g + 1 := ⟨f - 1, by omega⟩
        have HE := hid he
        have HSN := hid hsn
        clear he
        have hor : (((t[0].toNat : Int) != 43) = false) ∨ (((t[0].toNat : Int) != 43) = true ∧ ((t[0].toNat : Int) != 45) = false) ∨ (((t[0].toNat : Int) != 43) = true ∧ ((t[0].toNat : Int) != 45) = true ∧ ((t[0].toNat : Int) != 42) = false) := by
          simp; omega
        clear hsn
        rcases hor with n1 | ⟨n1, n2⟩ | ⟨n1, n2, n3⟩
        all_goals
          go_wp2
          go_quiet (fail)
          go_wp2
          go_step3
          exact ⟨⟨t.extract 1 t.size, _, sm, _, _, _, _, _, _, _, _, _, _, _, _, _, _, _, _, _, _, _, _, _, _, _, _, _, _, _, _, _, _, _, _, _, _, _, _, _, _, _, _, _, _, _, _, _, _, _, _, rfl, by rw [ByteArray.size_extract]; unfold maxLen; omega, below_drewN (HB.out) _, b1, b2, Or.inl ⟨rfl, HSN.out, g, by rw [ByteArray.size_extract]; omega, by rw [L_suffix]; exact HE.out⟩⟩, by show (t.extract 1 t.size).size < t.size; rw [ByteArray.size_extract]; omega⟩
      · rw [if_neg hsn] at he
        obtain ⟨rfl, rfl⟩ := pair_eq he
        have n1 : ((t[0].toNat : Int) != 43) = true := by simp; omega
        have n2 : ((t[0].toNat : Int) != 45) = true := by simp; omega
        have n3 : ((t[0].toNat : Int) != 42) = true := by simp; omega
        clear he hsn
        go_wp2
        go_quiet (fail)
        go_wp2
        simp only [jumps]
        go_ret2
        exact ⟨rfl, below_drewN (HB.out) _⟩
  · intro hp
    have HP := hid hp
    clear hp
    by_cases h0 : s.size = 0
    · have hse := empty_of s h0
      subst hse
      go_wp2
      go_step3
      rename_i K hK
      exact hK _ _ (HP.out 1 _ _ _ rfl ⟨⟨#[]⟩, 43, 0, _, _, _, _, _, _, _, _, _, _, _, _, _, _, _, _, _, _, _, _, _, _, _, _, _, _, _, _, _, _, _, _, _, _, _, _, _, _, _, _, _, _, _, _, _, _, _, _, rfl, hs, Below.refl _ _, by omega, by omega, Or.inl ⟨rfl, Or.inl rfl, 0, Nat.le_refl _, HV.out⟩⟩)
    · have hpos : 0 < s.size := by omega
      have ke := not_empty s hpos
      have HL := hid (L_head s hpos)
      have hlen : ((L s).drop 1).length + 1 = s.size := by rw [List.length_drop, L_length]; omega
      have HLN := hid hlen
      clear hlen
      by_cases h45 : (s[0].toNat : Int) = 45
      · have hv := HV.out
        rw [HL.out, value_minus _ _ _ _ h45, ← HL.out] at hv
        have HV' := hid hv
        have k45 : ((s[0].toNat : Int) == 45) = true := by simpa using h45
        clear hv h45
        go_wp2
        go_step3
        exact ⟨s, 43, 0, _, _, _, _, _, _, _, _, _, _, _, _, _, _, _, _, _, _, _, _, _, _, _, _, _, _, _, _, _, _, _, _, _, _, _, _, _, _, _, _, _, _, _, _, _, _, _, _, rfl, hs, Below.refl _ _, by omega, by omega, Or.inr ⟨rfl, hpos, _, by have := HLN.out; omega, HV'.out⟩⟩
      · have hv := HV.out
        rw [HL.out, value_plain _ _ _ _ h45, ← HL.out] at hv
        have HV' := hid hv
        have k45 : ((s[0].toNat : Int) == 45) = false := by simpa using h45
        clear hv h45
        go_wp2
        go_step3
        rename_i K hK
        exact hK _ _ (HP.out 1 _ _ _ rfl ⟨s, 43, 0, _, _, _, _, _, _, _, _, _, _, _, _, _, _, _, _, _, _, _, _, _, _, _, _, _, _, _, _, _, _, _, _, _, _, _, _, _, _, _, _, _, _, _, _, _, _, _, _, rfl, hs, Below.refl _ _, by omega, by omega, Or.inl ⟨rfl, Or.inl rfl, _, by have := HLN.out; omega, HV'.out⟩⟩)

end Go.Proofs.YtcepppilgncdmaaGreatDoor

namespace Go.Proofs.YtcepppilgncdmaaGreatDoor
open Go.RowKit

set_option maxHeartbeats 400000 in
theorem Value_any (s : ByteArray) (at_ : Int) (a : Option Addr) (cap : Nat) (ns : List (ByteArray × Int)) (w : World) (v er : Int) (hs : s.size ≤ maxLen) (hl : ns.length ≤ maxLen) (hn : NamesAt w a ns) (hv : value at_ (plainN ns) (L s) = (v, er)) :
    Calls Tryz.prog 23 #[.string s, .int .i64 at_, .slice a ns.length cap] w fun e w' => e = .returned (.tuple #[.int .i64 v, .int .i64 er]) ∧ Below w.heap.size w w' := by
  have HN := hid hn
  have HV := hid hv
  clear hn hv
  go_enter Tryz.func23, Tryz.ntmps23
  go_wp2_with (first | (go_at_call 36; refine (xValue_any s at_ a cap ns _ v er hs hl HN.out HV.out).mono ?_; rintro e w' ⟨rfl, hb⟩))
  go_ret2
  exact ⟨rfl, hb⟩

end Go.Proofs.YtcepppilgncdmaaGreatDoor

namespace Go.Proofs.YtcepppilgncdmaaGreatDoor
open Go.RowKit

def letB (b : Int) : Bool := decide ((97 ≤ b ∧ b ≤ 122) ∨ (65 ≤ b ∧ b ≤ 90) ∨ b = 95)
def hexI (b : Int) : Int := if 48 ≤ b ∧ b ≤ 57 then b - 48 else if 97 ≤ b ∧ b ≤ 102 then b - 87 else -1

theorem nb_eq (b : Int) : nbB b = (letB b || digB b) := by
  rw [Bool.eq_iff_iff]; simp [nbB, letB, digB]; omega
theorem hexI_in (b base : Int) (h : base = 10 ∨ base = 16) (hb : hexv b < base) : 0 ≤ hexI b ∧ hexI b < base ∧ hexI b = hexv b := by
  unfold hexI; unfold hexv at hb ⊢
  split
  · rename_i h1; rw [if_pos h1] at hb; omega
  · rename_i h1; rw [if_neg h1] at hb
    split
    · rename_i h2; rw [if_pos h2] at hb; omega
    · rename_i h2; rw [if_neg h2] at hb; omega
theorem hexI_out (b base : Int) (_h : base = 10 ∨ base = 16) (hb : ¬ hexv b < base) : hexI b < 0 ∨ base ≤ hexI b := by
  unfold hexI; unfold hexv at hb
  split
  · rename_i h1; rw [if_pos h1] at hb; omega
  · rename_i h1; rw [if_neg h1] at hb
    split
    · rename_i h2; rw [if_pos h2] at hb; omega
    · omega

set_option maxHeartbeats 400000 in
theorem in_any (n lo hi : Int) (w : World) :
    Calls Tryz.prog 38 #[.int .i64 n, .int .i64 lo, .int .i64 hi] w fun e w' => e = .returned (.bool (decide (lo ≤ n ∧ n ≤ hi))) ∧ w' = w := by
  by_cases h1 : lo ≤ n <;> by_cases h2 : n ≤ hi
  all_goals
    go_enter Tryz.func38, Tryz.ntmps38
    go_wp2
    go_ret
    exact ⟨ret_bool (by simp [h1, h2]), rfl⟩

set_option maxHeartbeats 400000 in
theorem digit_any (b : Int) (w : World) :
    Calls Tryz.prog 54 #[.int .u8 b] w fun e w' => e = .returned (.bool (digB b)) ∧ w' = w := by
  by_cases h1 : 48 ≤ b <;> by_cases h2 : b ≤ 57
  all_goals
    go_enter Tryz.func54, Tryz.ntmps54
    go_wp2
    go_ret
    exact ⟨ret_bool (by simp [digB, h1, h2]), rfl⟩

set_option maxHeartbeats 400000 in
theorem letter_any (b : Int) (w : World) :
    Calls Tryz.prog 55 #[.int .u8 b] w fun e w' => e = .returned (.bool (letB b)) ∧ w' = w := by
  have hcs : b < 65 ∨ (65 ≤ b ∧ b ≤ 90) ∨ (91 ≤ b ∧ b ≤ 94) ∨ b = 95 ∨ b = 96 ∨ (97 ≤ b ∧ b ≤ 122) ∨ 123 ≤ b := by omega
  rcases hcs with h | h | h | h | h | h | h
  all_goals
    first | obtain ⟨h1, h2⟩ := h | subst h | have _ := h
    go_enter Tryz.func55, Tryz.ntmps55
    go_wp2
    go_ret
    refine ⟨ret_bool ?_, rfl⟩
    unfold letB
    rw [Bool.eq_iff_iff]
    simp
    try omega

set_option maxHeartbeats 400000 in
theorem hex_any (b : Int) (w : World) :
    Calls Tryz.prog 86 #[.int .u8 b] w fun e w' => e = .returned (.int .i64 (hexI b)) ∧ w' = w := by
  have hcs : b < 48 ∨ (48 ≤ b ∧ b ≤ 57) ∨ (58 ≤ b ∧ b ≤ 96) ∨ (97 ≤ b ∧ b ≤ 102) ∨ 103 ≤ b := by omega
  rcases hcs with h | h | h | h | h
  all_goals
    first | obtain ⟨h1, h2⟩ := h | have _ := h
    go_enter Tryz.func86, Tryz.ntmps86
    go_wp2
    go_ret
    refine ⟨ret_int ?_, rfl⟩
    unfold hexI
    first | (rw [if_neg (by omega), if_neg (by omega)]) | (rw [if_pos (by omega)]) | (rw [if_neg (by omega), if_pos (by omega)]; omega)

def regI (l : List UInt8) : Int := if regB l then ((l.getD 1 0).toNat : Int) - 48 else -1
theorem regI_neg (l : List UInt8) : decide (regI l < 0) = !regB l := by
  unfold regI
  cases h : regB l with
  | true =>
    unfold regB at h
    split at h
    · simp at h; simp; omega
    · cases h
  | false => simp

set_option maxHeartbeats 400000 in
theorem register_any (s : ByteArray) (w : World) :
    Calls Tryz.prog 87 #[.string s] w fun e w' => e = .returned (.int .i64 (regI (L s))) ∧ w' = w := by
  by_cases h2 : s.size = 2
  · have hr := regB_two s h2
    have hb := byte_bd s[1]
    have HI := hid (show (L s).getD 1 0 = s[1] by
      have h0 := L_drop s 0 (by omega)
      have h1 := L_drop s 1 (by omega)
      rw [List.drop_zero] at h0
      rw [h0, h1]; rfl)
    by_cases a1 : (s[0].toNat : Int) = 114
    · by_cases a2 : (48 : Int) ≤ (s[1].toNat : Int)
      · by_cases a3 : (s[1].toNat : Int) ≤ 51
        · have HR := hid (show regI (L s) = (s[1].toNat : Int) - 48 by unfold regI; rw [hr, HI.out, decide_eq_true a1, decide_eq_true (show ((48 : Nat) : Int) ≤ _ from a2), decide_eq_true a3]; rfl)
          clear hr
          have k1 : ((s[0].toNat : Int) == 114) = true := by simpa using a1
          clear a1
          go_enter Tryz.func87, Tryz.ntmps87
          go_wp2
          go_ret
          rw [HR.out]
          exact ⟨ret_int rfl, rfl⟩
        · have HR := hid (show regI (L s) = -1 by unfold regI; rw [hr, decide_eq_false a3, Bool.and_false]; rfl)
          clear hr
          go_enter Tryz.func87, Tryz.ntmps87
          go_wp2
          go_ret
          rw [HR.out]
          exact ⟨ret_int rfl, rfl⟩
      · have HR := hid (show regI (L s) = -1 by unfold regI; rw [hr, decide_eq_false (show ¬ ((48 : Nat) : Int) ≤ _ from a2), Bool.and_false, Bool.false_and]; rfl)
        clear hr
        go_enter Tryz.func87, Tryz.ntmps87
        go_wp2
        go_ret
        rw [HR.out]
        exact ⟨ret_int rfl, rfl⟩
    · have HR := hid (show regI (L s) = -1 by unfold regI; rw [hr, decide_eq_false a1, Bool.false_and, Bool.false_and]; rfl)
      clear hr
      go_enter Tryz.func87, Tryz.ntmps87
      go_wp2
      go_ret
      rw [HR.out]
      exact ⟨ret_int rfl, rfl⟩
  · have HR := hid (show regI (L s) = -1 by unfold regI; rw [regB_not s h2]; rfl)
    go_enter Tryz.func87, Tryz.ntmps87
    go_wp2
    go_ret
    rw [HR.out]
    exact ⟨ret_int rfl, rfl⟩

set_option maxHeartbeats 400000 in
theorem word_any (s : ByteArray) (i : Nat) (w : World) (m : Nat) (hs : s.size ≤ maxLen) (hi : i ≤ s.size) (hv : wordLen ((L s).drop i) = m) :
    Calls Tryz.prog 57 #[.string s, .int .i64 i] w fun e w' => e = .returned (.int .i64 m) ∧ w' = w := by
  unfold maxLen at hs
  have HV := hid hv
  have hm : m ≤ s.size - i := by
    have := wordLen_le ((L s).drop i)
    rw [hv, List.length_drop, L_length] at this
    exact this
  clear hv
  go_enter Tryz.func57, Tryz.ntmps57
  go_wp2
  go_loop [5] (fun n => ∃ k : Nat, i + k ≤ s.size ∧ k ≤ m ∧ n = .int .i64 k ∧ m = k + wordLen ((L s).drop (i + k))) (fun n => s.size - (intOf n).toNat)
  case atStart => exact ⟨0, by omega, by omega, rfl, by rw [Nat.add_zero, HV.out]; omega⟩
  case round =>
    obtain ⟨k, hk, hkm, rfl, ha⟩ := hrel
    have HA := hid ha
    clear ha
    by_cases hlt : i + k < s.size
    · have hb := nb_eq (s[i + k].toNat : Int)
      by_cases hn : nbB (s[i + k].toNat : Int) = true
      · have HS := hid (wordLen_at s (i + k) hlt hn)
        have hor : letB (s[i + k].toNat : Int) = true ∨ (letB (s[i + k].toNat : Int) = false ∧ digB (s[i + k].toNat : Int) = true) := by
          rw [hn] at hb
          cases h1 : letB (s[i + k].toNat : Int) <;> simp [h1] at hb ⊢
          exact hb
        have hkm' : k < m := by have := HA.out; rw [HS.out] at this; omega
        clear hb hn
        rcases hor with h1 | ⟨h1, h2⟩
        all_goals
          go_wp2_with (first | (go_at_call 55; refine (letter_any _ _).mono ?_; rintro e w' ⟨rfl, rfl⟩) | (go_at_call 54; refine (digit_any _ _).mono ?_; rintro e w' ⟨rfl, rfl⟩))
          go_round
          case rel => exact ⟨k + 1, by omega, by omega, by go_num, by rw [show i + (k + 1) = i + k + 1 from by omega]; have := HA.out; rw [HS.out] at this; omega⟩
          case measure => simp [intOf]; omega
      · have hn' : nbB (s[i + k].toNat : Int) = false := by simpa using hn
        have HS := hid (wordLen_no s (i + k) hlt hn')
        have hkm' : k = m := by have := HA.out; rw [HS.out] at this; omega
        rw [hn'] at hb
        have h1 : letB (s[i + k].toNat : Int) = false := by cases h1 : letB (s[i + k].toNat : Int) <;> simp [h1] at hb ⊢
        have h2 : digB (s[i + k].toNat : Int) = false := by cases h2 : digB (s[i + k].toNat : Int) <;> simp [h2] at hb ⊢
        clear hb hn hn' HA HS HV
        subst hkm'
        go_wp2_with (first | (go_at_call 55; refine (letter_any _ _).mono ?_; rintro e w' ⟨rfl, rfl⟩) | (go_at_call 54; refine (digit_any _ _).mono ?_; rintro e w' ⟨rfl, rfl⟩))
        go_ret
        exact ⟨rfl, rfl⟩
    · have hkm' : k = m := by have := HA.out; rw [L_end s (i + k) (by omega)] at this; simp [wordLen] at this; omega
      clear HA HV
      subst hkm'
      go_wp2
      go_ret
      exact ⟨rfl, rfl⟩

theorem L_head' (s : ByteArray) (h : 0 < s.size) : L s = s[0] :: (L s).drop 1 := by
  have := L_drop s 0 h
  rw [List.drop_zero] at this
  exact this

theorem word_all (s : ByteArray) : (wordLen (L s) = s.size) ↔ allNb (L s) = true := by
  rw [← L_length]
  generalize L s = l
  induction l with
  | nil => simp [wordLen, allNb]
  | cons c r ih =>
    have hle := wordLen_le r
    simp only [wordLen, allNb, List.all_cons, Bool.and_eq_true, List.length_cons]
    cases h : nbB (c.toNat : Int) with
    | true =>
      rw [if_pos rfl]
      unfold allNb at ih
      rw [← ih]
      simp
    | false => rw [if_neg (by simp)]; simp

theorem name_ref (s : ByteArray) (h1 : 1 ≤ s.size) (h8 : s.size ≤ 8) : nameB (L s) = (decide (wordLen (L s) = s.size) && letB (s[0].toNat : Int) && decide (regI (L s) < 0)) := by
  rw [nameB_eq s h1, regI_neg, decide_eq_true h8]
  have hb := nb_eq (s[0].toNat : Int)
  have ha := word_all s
  cases hall : allNb (L s) with
  | false =>
    rw [hall] at ha
    rw [decide_eq_false (by rw [ha]; simp)]
    simp
  | true =>
    rw [hall] at ha
    rw [decide_eq_true (ha.2 rfl)]
    have hn : nbB (s[0].toNat : Int) = true := by
      rw [L_head' s h1] at hall
      simp only [allNb, List.all_cons, Bool.and_eq_true] at hall
      exact hall.1
    rw [hn] at hb
    have hx : letB (s[0].toNat : Int) = !digB (s[0].toNat : Int) := by
      cases hl : letB (s[0].toNat : Int) with
      | true =>
        cases hd : digB (s[0].toNat : Int) with
        | true => exfalso; simp [letB] at hl; simp [digB] at hd; omega
        | false => rfl
      | false => rw [hl, Bool.false_or] at hb; rw [← hb]; rfl
    rw [hx]
    simp

set_option maxHeartbeats 800000 in
theorem refName_any (s : ByteArray) (w : World) (hs : s.size ≤ maxLen) :
    Calls Tryz.prog 58 #[.string s] w fun e w' => e = .returned (.bool (nameB (L s))) ∧ w' = w := by
  have hs' := hs
  unfold maxLen at hs'
  by_cases h1 : s.size < 1
  · have HN := hid (nameB_nil s (by omega))
    have k1 : decide ((s.size : Int) < 1) = true := by simp; omega
    go_enter Tryz.func58, Tryz.ntmps58
    go_wp2_with fail
    go_ret
    rw [HN.out]
    exact ⟨rfl, rfl⟩
  · have k1 : decide ((s.size : Int) < 1) = false := by simp; omega
    by_cases h8 : 8 < s.size
    · have HN := hid (show nameB (L s) = false by rw [nameB_eq s (by omega), decide_eq_false (by omega)]; rfl)
      have k8 : decide ((8 : Int) < s.size) = true := by simp; omega
      go_enter Tryz.func58, Tryz.ntmps58
      go_wp2_with fail
      go_ret
      rw [HN.out]
      exact ⟨rfl, rfl⟩
    · have k8 : decide ((8 : Int) < s.size) = false := by simp; omega
      have HN := hid (name_ref s (by omega) (by omega))
      obtain ⟨m, hm⟩ : ∃ m, wordLen (L s) = m := ⟨_, rfl⟩
      obtain ⟨q, hq⟩ : ∃ q, regI (L s) = q := ⟨_, rfl⟩
      obtain ⟨lt, hlt⟩ : ∃ q, letB (s[0].toNat : Int) = q := ⟨_, rfl⟩
      have HM := hid (show wordLen ((L s).drop 0) = m by rw [List.drop_zero]; exact hm)
      have HQ := hid hq
      have HLT := hid hlt
      have hN := HN.out
      rw [hm, hq, hlt] at hN
      have HN2 := hid hN
      clear hN HN hm hq hlt
      by_cases e1 : m = s.size
      · have b1 : ((m : Int) == (s.size : Int)) = true := by rw [beq_iff_eq]; omega
        cases lt with
        | true =>
          go_enter Tryz.func58, Tryz.ntmps58
          go_wp2_with (first | (go_at_call 57; refine (word_any s 0 _ m hs (Nat.zero_le _) HM.out).mono ?_; rintro e w' ⟨rfl, rfl⟩) | (go_at_call 55; refine (letter_any _ _).mono ?_; rw [HLT.out]; rintro e w' ⟨rfl, rfl⟩) | (go_at_call 87; refine (register_any _ _).mono ?_; rw [HQ.out]; rintro e w' ⟨rfl, rfl⟩))
          go_ret
          rw [HN2.out]
          exact ⟨ret_bool (by simp [e1]), rfl⟩
        | false =>
          go_enter Tryz.func58, Tryz.ntmps58
          go_wp2_with (first | (go_at_call 57; refine (word_any s 0 _ m hs (Nat.zero_le _) HM.out).mono ?_; rintro e w' ⟨rfl, rfl⟩) | (go_at_call 55; refine (letter_any _ _).mono ?_; rw [HLT.out]; rintro e w' ⟨rfl, rfl⟩) | (go_at_call 87; refine (register_any _ _).mono ?_; rw [HQ.out]; rintro e w' ⟨rfl, rfl⟩))
          go_ret
          rw [HN2.out]
          exact ⟨ret_bool (by simp), rfl⟩
      · have b1 : ((m : Int) == (s.size : Int)) = false := by rw [beq_eq_false_iff_ne]; omega
        go_enter Tryz.func58, Tryz.ntmps58
        go_wp2_with (first | (go_at_call 57; refine (word_any s 0 _ m hs (Nat.zero_le _) HM.out).mono ?_; rintro e w' ⟨rfl, rfl⟩) | (go_at_call 55; refine (letter_any _ _).mono ?_; rw [HLT.out]; rintro e w' ⟨rfl, rfl⟩) | (go_at_call 87; refine (register_any _ _).mono ?_; rw [HQ.out]; rintro e w' ⟨rfl, rfl⟩))
        go_ret
        rw [HN2.out]
        exact ⟨ret_bool (by simp [e1]), rfl⟩

def foundI : Option Int → Int
  | some v => v
  | none => 0

set_option maxHeartbeats 800000 in
theorem find_any (s : ByteArray) (a : Option Addr) (cap : Nat) (ns : List (ByteArray × Int)) (w : World) (o : Option Int) (hl : ns.length ≤ maxLen) (hn : NamesAt w a ns) (hv : findN (plainN ns) (L s) = o) :
    Calls Tryz.prog 59 #[.slice a ns.length cap, .string s] w fun e w' => e = .returned (.tuple #[.int .i64 (foundI o), .bool o.isSome]) ∧ w' = w := by
  unfold maxLen at hl
  have HV := hid hv
  have HN := hid hn
  clear hv hn
  go_enter Tryz.func59, Tryz.ntmps59
  go_wp2
  go_loop [6] (fun i => ∃ j : Nat, j ≤ ns.length ∧ i = .int .i64 j ∧ findN (plainN (ns.drop j)) (L s) = o) (fun i => ns.length - (intOf i).toNat)
  case atStart => exact ⟨0, Nat.zero_le _, rfl, by rw [List.drop_zero]; exact HV.out⟩
  case round =>
    obtain ⟨j, hj, rfl, hfd⟩ := hrel
    have HFD := hid hfd
    clear hfd
    by_cases hjl : j < ns.length
    · rcases HN.out with h | ⟨b, off, ha, hbl, hc⟩
      · rw [h] at hjl; simp at hjl
      · subst ha
        obtain ⟨c1, c2⟩ := hc j hjl
        clear hc
        have HS := hid (findN_at ns (L s) j hjl)
        by_cases heq : L ns[j].1 = L s
        · have ke := beq_of_L heq
          have hr : some ns[j].2 = o := by have := HFD.out; rw [HS.out, if_pos heq] at this; exact this
          clear HS HFD heq HV
          subst hr
          go_wp2
          go_ret2
          exact ⟨rfl, rfl⟩
        · have ke := nbeq_of_L heq
          have HR := hid (show findN (plainN (ns.drop (j + 1))) (L s) = o by have := HFD.out; rw [HS.out, if_neg heq] at this; exact this)
          clear HS HFD heq
          go_wp2
          go_round
          case rel => exact ⟨j + 1, by omega, by go_num, HR.out⟩
          case measure => simp [intOf]; omega
    · have hr : none = o := by have := HFD.out; rw [findN_end _ _ _ (by omega)] at this; exact this
      clear HFD HV
      subst hr
      go_wp2
      go_ret2
      exact ⟨rfl, rfl⟩

set_option maxHeartbeats 800000 in
theorem refNumber_any (s : ByteArray) (i : Nat) (base : Int) (w : World) (v : Int) (n : Nat) (hs : s.size ≤ maxLen) (hi : i ≤ s.size) (hb : base = 10 ∨ base = 16) (hv : digs base 0 0 ((L s).drop i) = (v, n)) :
    Calls Tryz.prog 56 #[.string s, .int .i64 i, .int .i64 base] w fun e w' => e = .returned (.tuple #[.int .i64 v, .int .i64 n]) ∧ w' = w := by
  unfold maxLen at hs
  have HV := hid hv
  have HBS := hid hb
  have hb0 : 0 ≤ base := by omega
  have hb1 : base ≤ 16 := by omega
  clear hb hv
  go_enter Tryz.func56, Tryz.ntmps56
  go_wp2
  go_loop [8, 9] (fun x y => ∃ (z : Int) (k : Nat), i + k ≤ s.size ∧ 0 ≤ z ∧ z ≤ 1000001 ∧ y = .int .i64 k ∧ x = .int .i64 z ∧ digs base z k ((L s).drop (i + k)) = (v, n)) (fun _ y => s.size - (intOf y).toNat)
  case atStart => exact ⟨0, 0, by omega, by omega, by omega, rfl, rfl, HV.out⟩
  case round =>
    obtain ⟨z, k, hk, hx0, hx1, rfl, rfl, hd⟩ := hrel
    have HD := hid hd
    clear hd
    by_cases hlt : i + k < s.size
    · have hx2 : 0 ≤ z * base := Int.mul_nonneg hx0 hb0
      have hx3 : z * base ≤ 1000001 * 16 := Int.mul_le_mul hx1 hb1 hb0 (by omega)
      by_cases hdg : hexv (s[i + k].toNat : Int) < base
      · obtain ⟨q1, q2, q3⟩ := hexI_in _ _ HBS.out hdg
        have HS := hid (digs_at base z k s (i + k) hlt hdg)
        have HQ := hid q3
        have k1 : decide (hexI (s[i + k].toNat : Int) < 0) = false := by simpa using q1
        have k2 : decide (base ≤ hexI (s[i + k].toNat : Int)) = false := by simpa using q2
        clear q3 hdg
        go_wp2_with (first | (go_at_call 86; refine (hex_any _ _).mono ?_; rintro e w' ⟨rfl, rfl⟩))
        all_goals
          go_round
          case rel => exact ⟨min (z * base + hexI (s[i + k].toNat : Int)) 1000001, k + 1, by omega, by omega, by omega, by go_num, congrArg (Value.int IntKind.i64) (min_if _), by rw [HQ.out, show i + (k + 1) = i + k + 1 from by omega, ← HS.out]; exact HD.out⟩
          case measure => simp [intOf]; omega
      · have hq := hexI_out _ _ HBS.out hdg
        obtain ⟨h1, h2⟩ := pair_eq (HD.out.symm.trans (digs_no base z k s (i + k) hlt hdg))
        clear hdg HD HV
        subst h1 h2
        by_cases hneg : hexI (s[i + n].toNat : Int) < 0
        · have k1 : decide (hexI (s[i + n].toNat : Int) < 0) = true := by simpa using hneg
          go_wp2_with (first | (go_at_call 86; refine (hex_any _ _).mono ?_; rintro e w' ⟨rfl, rfl⟩))
          go_ret2
          exact ⟨rfl, rfl⟩
        · have k1 : decide (hexI (s[i + n].toNat : Int) < 0) = false := by simpa using hneg
          have k2 : decide (base ≤ hexI (s[i + n].toNat : Int)) = true := by simp; omega
          go_wp2_with (first | (go_at_call 86; refine (hex_any _ _).mono ?_; rintro e w' ⟨rfl, rfl⟩))
          go_ret2
          exact ⟨rfl, rfl⟩
    · obtain ⟨h1, h2⟩ := pair_eq (HD.out.symm.trans (digs_out base z k s (i + k) (by omega)))
      clear HD HV
      subst h1 h2
      go_wp2
      go_ret2
      exact ⟨rfl, rfl⟩

end Go.Proofs.YtcepppilgncdmaaGreatDoor
