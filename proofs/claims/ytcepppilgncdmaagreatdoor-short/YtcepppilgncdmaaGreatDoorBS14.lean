/-
  What Value answers: the plain function 'value'; the names lie in memory as a Go list of names does.
  What an expansion holds in memory (package expand), and what its small functions answer.
-/
import Derived.Test.YtcepppilgncdmaaGreatDoorBS13
import Derived.WalkMore
import Derived.Scope
namespace Go.Proofs.YtcepppilgncdmaaGreatDoor
open Go.RowKit

/-- As Q; by a goto to a label: what is asked at that label. -/
def jumps (J : Nat → Act → World → Prop) (Q : Exit → Act → World → Prop) : Exit → Act → World → Prop
  | .goto l, a, w => J l a w
  | e, a, w => Q e a w

theorem wp_scope_many {P : Program} {a : Act} {w : World} {Q : Exit → Act → World → Prop} {c : Code} (J : Nat → Act → World → Prop) (m : Act → World → Nat)
    (pass0 : ∀ l a w, J l a w → ∃ rest, findLabel c l = some (.seq .skip rest) ∧ rest.wp P (jumps (fun l' a' w' => J l' a' w' ∧ m a' w' < m a w) Q) a w)
    (first0 : (∀ l rest a w, findLabel c l = some (.seq .skip rest) → J l a w → rest.wp P (jumps J Q) a w) → c.wp P (jumps J Q) a w) : (Code.scope c).wp P Q a w := by
  have first := first0 (fun l rest a w hf hJ => by
    obtain ⟨rest', hf', hp⟩ := pass0 l a w hJ
    rw [hf] at hf'
    injection hf' with hf'
    injection hf' with _ hf'
    subst hf'
    exact Go.wp_mono hp (fun e a w h => by cases e <;> first | exact h | exact h.1))
  have pass : ∀ l a w, J l a w → ∃ rest, findLabel c l = some rest ∧ rest.wp P (jumps (fun l' a' w' => J l' a' w' ∧ m a' w' < m a w) Q) a w := fun l a w hJ => by
    obtain ⟨rest, hf, hp⟩ := pass0 l a w hJ
    exact ⟨_, hf, wp_seq (wp_skip hp)⟩
  intro b k cs
  have key : ∀ n l a w, m a w = n → J l a w → ∃ rest, findLabel c l = some rest ∧ ∃ e a' w', Q e a' w' ∧ Arrives P (lone (b.at a (.code rest :: .inScope c :: k)) cs w) b k cs e a' w' := by
    intro n
    induction n using Nat.strongRecOn with
    | _ n ih =>
      intro l a w hn hJ
      obtain ⟨rest, hf, hp⟩ := pass l a w hJ
      refine ⟨rest, hf, ?_⟩
      obtain ⟨e, a₁, w₁, hq, harr⟩ := hp b (.inScope c :: k) cs
      cases e with
      | normal => exact ⟨.normal, a₁, w₁, hq, Steps.trans harr (.one step_inScope)⟩
      | exit id => exact ⟨.exit id, a₁, w₁, hq, fun k' hk => harr k' (by simp [exitTo, hk])⟩
      | goto l' =>
        obtain ⟨hJ', hlt⟩ := hq
        obtain ⟨rest₂, hf₂, e₂, a₂, w₂, hq₂, harr₂⟩ := ih _ (by omega) l' a₁ w₁ rfl hJ'
        have hg : gotoIn l' (.inScope c :: k) = some (.code rest₂ :: .inScope c :: k) := by simp [gotoIn, hf₂]
        exact ⟨e₂, a₂, w₂, hq₂, .of_steps (harr _ hg) harr₂⟩
      | ret => exact ⟨_, a₁, w₁, hq, harr⟩
      | panic ch => exact ⟨_, a₁, w₁, hq, harr⟩
      | outgrown => exact ⟨_, a₁, w₁, hq, harr⟩
  obtain ⟨e, a₁, w₁, hq, harr⟩ := first b (.inScope c :: k) cs
  cases e with
  | normal => exact ⟨.normal, a₁, w₁, hq, .head step_scope (Steps.trans harr (.one step_inScope))⟩
  | exit id => exact ⟨.exit id, a₁, w₁, hq, fun k' hk => .head step_scope (harr k' (by simp [exitTo, hk]))⟩
  | goto l' =>
    obtain ⟨rest, hf, e₂, a₂, w₂, hq₂, harr₂⟩ := key _ l' a₁ w₁ rfl hq
    have hg : gotoIn l' (.inScope c :: k) = some (.code rest :: .inScope c :: k) := by simp [gotoIn, hf]
    exact ⟨e₂, a₂, w₂, hq₂, .of_steps (.head step_scope (harr _ hg)) harr₂⟩
  | ret => exact ⟨_, a₁, w₁, hq, .of_steps (.one step_scope) harr⟩
  | panic ch => exact ⟨_, a₁, w₁, hq, .of_steps (.one step_scope) harr⟩
  | outgrown => exact ⟨_, a₁, w₁, hq, .of_steps (.one step_scope) harr⟩

theorem L_nil {t : ByteArray} (h : L t = []) : t = ⟨#[]⟩ := L_inj h

def strSize : Value → Nat
  | .string s => s.size
  | _ => 0

/-- What holds at a jump: to label 1 (a term is read next), to label 0 (a sign is read next). -/
def AtJump (s : ByteArray) (at_ : Int) (a : Option Addr) (cap : Nat) (ns : List (ByteArray × Int)) (w : World) (v er : Int) (l : Nat) (a' : Act) (w' : World) : Prop :=
  ∃ (t : ByteArray) (sg sm : Int) (u11 u12 u13 u14 u15 u16 u17 u18 u19 u20 u21 u22 u23 u24 u25 u26 u27 u28 u29 u30 u31 u32 u33 u34 u35 u36 u37 u38 u39 u40 u41 u42 u43 u44 u45 u46 u47 u48 u49 u50 u51 u52 u53 u54 u55 u56 u57 u58 : Value),
    a' = { tmps := #[.string s, .int .i64 at_, .slice a ns.length cap, undef, undef, undef, .int .i64 0, .int .i64 0, .string t, .int .u8 sg, .int .i64 sm, u11, u12, u13, u14, u15, u16, u17, u18, u19, u20, u21, u22, u23, u24, u25, u26, u27, u28, u29, u30, u31, u32, u33, u34, u35, u36, u37, u38, u39, u40, u41, u42, u43, u44, u45, u46, u47, u48, u49, u50, u51, u52, u53, u54, u55, u56, u57, u58], defers := [] } ∧
    t.size ≤ maxLen ∧ Below w.heap.size w w' ∧ -1000000 ≤ sm ∧ sm ≤ 1000000 ∧
    ((l = 1 ∧ (sg = 43 ∨ sg = 45 ∨ sg = 42) ∧ ∃ f, t.size ≤ f ∧ eval at_ (plainN ns) (f + 1) sm sg (L t) = (v, er)) ∨
     (l = 0 ∧ 0 < t.size ∧ ∃ f, t.size ≤ f ∧ evalS at_ (plainN ns) f sm (L t) = (v, er)))

set_option maxHeartbeats 800000 in
theorem xValue_any (s : ByteArray) (at_ : Int) (a : Option Addr) (cap : Nat) (ns : List (ByteArray × Int)) (w : World) (v er : Int) (hs : s.size ≤ maxLen) (hl : ns.length ≤ maxLen) (hn : NamesAt w a ns) (hv : value at_ (plainN ns) (L s) = (v, er)) :
    Calls Tryz.prog 36 #[.string s, .int .i64 at_, .slice a ns.length cap] w fun e w' => e = .returned (.tuple #[.int .i64 v, .int .i64 er]) ∧ Below w.heap.size w w' := by
  have HN := hid hn
  have HV := hid hv
  clear hn hv
  go_enter Tryz.func36, Tryz.ntmps36
  go_wp2
  refine wp_scope_many (AtJump s at_ a cap ns w v er) (fun a' _ => strSize (a'.tmps.getD 8 undef)) ?_ ?_
  · rintro l a' w' ⟨t, sg, sm, u11, u12, u13, u14, u15, u16, u17, u18, u19, u20, u21, u22, u23, u24, u25, u26, u27, u28, u29, u30, u31, u32, u33, u34, u35, u36, u37, u38, u39, u40, u41, u42, u43, u44, u45, u46, u47, u48, u49, u50, u51, u52, u53, u54, u55, u56, u57, u58, rfl, ht, hb, b1, b2, hc⟩
    have HB := hid hb
    have ht' := ht
    unfold maxLen at ht'
    clear hb HV hs
    rcases hc with ⟨rfl, hsg, f, hf, he⟩ | ⟨rfl, hpos, f, hf, he⟩
    · refine ⟨_, rfl, ?_⟩
      rcases hr : readT at_ (plainN ns) (L t) with ⟨x, r, y⟩
      have HR := hid hr
      by_cases hy : y = 0
      · subst hy
        obtain ⟨x1, x2⟩ := readT_bd hr
        rcases hk : reck sm sg x with ⟨z, q⟩
        have HK := hid hk
        by_cases hq : q = 0
        · subst hq
          obtain ⟨z1, z2⟩ := reck_bd hk
          rw [eval_on hr f hk] at he
          have HE := hid he
          have HSG := hid hsg
          clear he hr hk hsg
          match r with
          | [] =>
            obtain ⟨rfl, rfl⟩ := pair_eq HE.out
            go_wp2_with (first | (go_at_call 52; refine (readTerm_any t at_ a cap ns _ x _ 0 ht hl (HN.out.below HB.out) HR.out).mono ?_; rintro e w' ⟨t', ht1, ht2, rfl, hb'⟩; obtain rfl := L_nil ht1) | (go_at_call 53; refine (reckon_any sm sg x _ z 0 ⟨b1, b2⟩ ⟨x1, x2⟩ HK.out HSG.out).mono ?_; rintro e w' ⟨rfl, rfl⟩))
            simp only [jumps]
            go_ret2
            exact ⟨rfl, HB.out.trans (hb'.mono HB.out.size)⟩
          | c :: r =>
            go_wp2_with fail
            refine (readTerm_any t at_ a cap ns _ x _ 0 ht hl (HN.out.below HB.out) HR.out).mono ?_
            rintro e w1 ⟨t', ht1, ht2, rfl, hb'⟩
            have hpos : 0 < t'.size := by
              have h := congrArg List.length ht1
              rw [L_length, List.length_cons] at h
              omega
            have ke := not_empty t' hpos
            have HL := hid (L_head t' hpos)
            have he := HE.out
            rw [← ht1, HL.out] at he
            simp only [evalS] at he
            have HBT := hid (HB.out.trans (hb'.mono HB.out.size))
            clear HE ht1 hb'
            have h0i : (0 : Int) < (t'.size : Int) := by omega
            have h1i : (1 : Int) ≤ (t'.size : Int) := by omega
            by_cases hsn : (t'[0].toNat : Int) = 43 ∨ (t'[0].toNat : Int) = 45 ∨ (t'[0].toNat : Int) = 42
            · rw [if_pos hsn] at he
              obtain ⟨g, rfl⟩ : ∃ g, f = g + 1 := ⟨f - 1, by omega⟩
              have HE := hid he
              have HSN := hid hsn
              clear he
              have hor : (((t'[0].toNat : Int) != 43) = false) ∨ (((t'[0].toNat : Int) != 43) = true ∧ ((t'[0].toNat : Int) != 45) = false) ∨ (((t'[0].toNat : Int) != 43) = true ∧ ((t'[0].toNat : Int) != 45) = true ∧ ((t'[0].toNat : Int) != 42) = false) := by
                simp; omega
              clear hsn
              rcases hor with n1 | ⟨n1, n2⟩ | ⟨n1, n2, n3⟩
              all_goals
                go_wp2_with (first | (go_at_call 53; refine (reckon_any sm sg x _ z 0 ⟨b1, b2⟩ ⟨x1, x2⟩ HK.out HSG.out).mono ?_; rintro e w' ⟨rfl, rfl⟩))
                go_step3
                go_wp2
                go_quiet (fail)
                go_wp2
                go_step3
                exact ⟨⟨t'.extract 1 t'.size, _, z, _, _, _, _, _, _, _, _, _, _, _, _, _, _, _, _, _, _, _, _, _, _, _, _, _, _, _, _, _, _, _, _, _, _, _, _, _, _, _, _, _, _, _, _, _, _, _, _, rfl, by rw [ByteArray.size_extract]; unfold maxLen; omega, below_drewN (HBT.out) _, z1, z2, Or.inl ⟨rfl, HSN.out, g, by rw [ByteArray.size_extract]; omega, by rw [L_suffix]; exact HE.out⟩⟩, by show (t'.extract 1 t'.size).size < t.size; rw [ByteArray.size_extract]; omega⟩
            · rw [if_neg hsn] at he
              obtain ⟨rfl, rfl⟩ := pair_eq he
              have n1 : ((t'[0].toNat : Int) != 43) = true := by simp; omega
              have n2 : ((t'[0].toNat : Int) != 45) = true := by simp; omega
              have n3 : ((t'[0].toNat : Int) != 42) = true := by simp; omega
              clear he hsn
              go_wp2_with (first | (go_at_call 53; refine (reckon_any sm sg x _ z 0 ⟨b1, b2⟩ ⟨x1, x2⟩ HK.out HSG.out).mono ?_; rintro e w' ⟨rfl, rfl⟩))
              go_step3
              go_wp2
              go_quiet (fail)
              go_wp2
              simp only [jumps]
              go_ret2
              exact ⟨rfl, below_drewN (HBT.out) _⟩
        · rw [eval_far hr f hk hq] at he
          obtain ⟨rfl, rfl⟩ := pair_eq he
          have kq : (q != 0) = true := by simpa using hq
          have HSG := hid hsg
          clear he hr hk hsg
          go_wp2_with (first | (go_at_call 52; refine (readTerm_any t at_ a cap ns _ x r 0 ht hl (HN.out.below HB.out) HR.out).mono ?_; rintro e w' ⟨t', ht1, ht2, rfl, hb'⟩) | (go_at_call 53; refine (reckon_any sm sg x _ z q ⟨b1, b2⟩ ⟨x1, x2⟩ HK.out HSG.out).mono ?_; rintro e w' ⟨rfl, rfl⟩))
          simp only [jumps]
          go_ret2
          exact ⟨rfl, HB.out.trans (hb'.mono HB.out.size)⟩
      · rw [eval_bad hr hy] at he
        obtain ⟨rfl, rfl⟩ := pair_eq he
        have ky : (y != 0) = true := by simpa using hy
        have HSG := hid hsg
        clear he hr hsg
        go_wp2_with (first | (go_at_call 52; refine (readTerm_any t at_ a cap ns _ x r y ht hl (HN.out.below HB.out) HR.out).mono ?_; rintro e w' ⟨t', ht1, ht2, rfl, hb'⟩))
        simp only [jumps]
        go_ret2
        exact ⟨rfl, HB.out.trans (hb'.mono HB.out.size)⟩
    · refine ⟨_, rfl, ?_⟩
      have HL := hid (L_head t hpos)
      rw [HL.out] at he
      simp only [evalS] at he
      have h0i : (0 : Int) < (t.size : Int) := by omega
      have h1i : (1 : Int) ≤ (t.size : Int) := by omega
      by_cases hsn : (t[0].toNat : Int) = 43 ∨ (t[0].toNat : Int) = 45 ∨ (t[0].toNat : Int) = 42
      · rw [if_pos hsn] at he
        obtain ⟨g, rfl⟩ : ∃ g, f = g + 1 := ⟨f - 1, by omega⟩
        have HE := hid he
        have HSN := hid hsn
        clear he
        have hor : (((t[0].toNat : Int) != 43) = false) ∨ (((t[0].toNat : Int) != 43) = true ∧ ((t[0].toNat : Int) != 45) = false) ∨ (((t[0].toNat : Int) != 43) = true ∧ ((t[0].toNat : Int) != 45) = true ∧ ((t[0].toNat : Int) != 42) = false) := by
          simp; omega
        clear hsn
        rcases hor with n1 | ⟨n1, n2⟩ | ⟨n1, n2, n3⟩
        all_goals
          go_wp2
          go_quiet (fail)
          go_wp2
          go_step3
          exact ⟨⟨t.extract 1 t.size, _, sm, _, _, _, _, _, _, _, _, _, _, _, _, _, _, _, _, _, _, _, _, _, _, _, _, _, _, _, _, _, _, _, _, _, _, _, _, _, _, _, _, _, _, _, _, _, _, _, _, rfl, by rw [ByteArray.size_extract]; unfold maxLen; omega, below_drewN (HB.out) _, b1, b2, Or.inl ⟨rfl, HSN.out, g, by rw [ByteArray.size_extract]; omega, by rw [L_suffix]; exact HE.out⟩⟩, by show (t.extract 1 t.size).size < t.size; rw [ByteArray.size_extract]; omega⟩
      · rw [if_neg hsn] at he
        obtain ⟨rfl, rfl⟩ := pair_eq he
        have n1 : ((t[0].toNat : Int) != 43) = true := by simp; omega
        have n2 : ((t[0].toNat : Int) != 45) = true := by simp; omega
        have n3 : ((t[0].toNat : Int) != 42) = true := by simp; omega
        clear he hsn
        go_wp2
        go_quiet (fail)
        go_wp2
        simp only [jumps]
        go_ret2
        exact ⟨rfl, below_drewN (HB.out) _⟩
  · intro hp
    have HP := hid hp
    clear hp
    by_cases h0 : s.size = 0
    · have hse := empty_of s h0
      subst hse
      go_wp2
      go_step3
      rename_i K hK
      exact hK _ _ (HP.out 1 _ _ _ rfl ⟨⟨#[]⟩, 43, 0, _, _, _, _, _, _, _, _, _, _, _, _, _, _, _, _, _, _, _, _, _, _, _, _, _, _, _, _, _, _, _, _, _, _, _, _, _, _, _, _, _, _, _, _, _, _, _, _, rfl, hs, Below.refl _ _, by omega, by omega, Or.inl ⟨rfl, Or.inl rfl, 0, Nat.le_refl _, HV.out⟩⟩)
    · have hpos : 0 < s.size := by omega
      have ke := not_empty s hpos
      have HL := hid (L_head s hpos)
      have hlen : ((L s).drop 1).length + 1 = s.size := by rw [List.length_drop, L_length]; omega
      have HLN := hid hlen
      clear hlen
      by_cases h45 : (s[0].toNat : Int) = 45
      · have hv := HV.out
        rw [HL.out, value_minus _ _ _ _ h45, ← HL.out] at hv
        have HV' := hid hv
        have k45 : ((s[0].toNat : Int) == 45) = true := by simpa using h45
        clear hv h45
        go_wp2
        go_step3
        exact ⟨s, 43, 0, _, _, _, _, _, _, _, _, _, _, _, _, _, _, _, _, _, _, _, _, _, _, _, _, _, _, _, _, _, _, _, _, _, _, _, _, _, _, _, _, _, _, _, _, _, _, _, _, rfl, hs, Below.refl _ _, by omega, by omega, Or.inr ⟨rfl, hpos, _, by have := HLN.out; omega, HV'.out⟩⟩
      · have hv := HV.out
        rw [HL.out, value_plain _ _ _ _ h45, ← HL.out] at hv
        have HV' := hid hv
        have k45 : ((s[0].toNat : Int) == 45) = false := by simpa using h45
        clear hv h45
        go_wp2
        go_step3
        rename_i K hK
        exact hK _ _ (HP.out 1 _ _ _ rfl ⟨s, 43, 0, _, _, _, _, _, _, _, _, _, _, _, _, _, _, _, _, _, _, _, _, _, _, _, _, _, _, _, _, _, _, _, _, _, _, _, _, _, _, _, _, _, _, _, _, _, _, _, _, rfl, hs, Below.refl _ _, by omega, by omega, Or.inl ⟨rfl, Or.inl rfl, _, by have := HLN.out; omega, HV'.out⟩⟩)

end Go.Proofs.YtcepppilgncdmaaGreatDoor

namespace Go.Proofs.YtcepppilgncdmaaGreatDoor
open Go.RowKit
attribute [local go_sem ↓] Go.wp_at_zero Go.wp_at_succ

/-- A macro, as it lies in memory. -/
structure MacV where
  name : ByteArray
  pv : Value
  ps : List ByteArray
  bv : Value
  bs : List ByteArray
def plainM (m : MacV) : MacP := ⟨L m.name, m.ps.map L, m.bs.map L⟩
def macCells : List MacV → List Value
  | [] => []
  | m :: r => .string m.name :: m.pv :: m.bv :: macCells r
def nameCells : List (ByteArray × Int) → List Value
  | [] => []
  | n :: r => .string n.1 :: .int .i64 n.2 :: nameCells r
def lineCells : List (ByteArray × Nat) → List Value
  | [] => []
  | l :: r => .string l.1 :: .int .i64 (l.2 : Nat) :: .int .i64 0 :: .int .i64 0 :: lineCells r
theorem macCells_append (a b : List MacV) : macCells (a ++ b) = macCells a ++ macCells b := by
  induction a with
  | nil => rfl
  | cons x r ih => simp [macCells, ih]
theorem nameCells_append (a b : List (ByteArray × Int)) : nameCells (a ++ b) = nameCells a ++ nameCells b := by
  induction a with
  | nil => rfl
  | cons x r ih => simp [nameCells, ih]
theorem lineCells_append (a b : List (ByteArray × Nat)) : lineCells (a ++ b) = lineCells a ++ lineCells b := by
  induction a with
  | nil => rfl
  | cons x r ih => simp [lineCells, ih]
theorem macCells_length (l : List MacV) : (macCells l).length = l.length * 3 := by
  induction l with
  | nil => rfl
  | cons x r ih => simp only [macCells, List.length_cons, ih]; omega
theorem nameCells_length (l : List (ByteArray × Int)) : (nameCells l).length = l.length * 2 := by
  induction l with
  | nil => rfl
  | cons x r ih => simp only [nameCells, List.length_cons, ih]; omega
theorem nameCells_at (l : List (ByteArray × Int)) (i : Nat) (h : i < l.length) : (nameCells l)[i * 2]? = some (.string l[i].1) ∧ (nameCells l)[i * 2 + 1]? = some (.int .i64 l[i].2) := by
  induction l generalizing i with
  | nil => simp at h
  | cons x r ih =>
    cases i with
    | zero => simp [nameCells]
    | succ i =>
      have := ih i (by simpa using h)
      simp only [nameCells, show (i + 1) * 2 = i * 2 + 1 + 1 from by omega, List.getElem?_cons_succ, List.getElem_cons_succ]
      exact ⟨this.1, this.2⟩
theorem macCells_at (l : List MacV) (i : Nat) (h : i < l.length) : (macCells l)[i * 3]? = some (.string l[i].name) ∧ (macCells l)[i * 3 + 1]? = some l[i].pv ∧ (macCells l)[i * 3 + 2]? = some l[i].bv := by
  induction l generalizing i with
  | nil => simp at h
  | cons x r ih =>
    cases i with
    | zero => simp [macCells]
    | succ i =>
      have := ih i (by simpa using h)
      simp only [macCells, show (i + 1) * 3 = i * 3 + 1 + 1 + 1 from by omega, show i * 3 + 1 + 1 + 1 + 1 = i * 3 + 1 + 1 + 1 + 1 from rfl, List.getElem?_cons_succ, List.getElem_cons_succ]
      exact ⟨this.1, this.2.1, this.2.2⟩

/-- Macros that can be called: short, without semicolons. -/
def MacOk (m : MacP) : Prop := m.params.length ≤ 100 ∧ (∀ p ∈ m.params, p.length ≤ 100) ∧ m.lines.length ≤ 3001 ∧ ∀ l ∈ m.lines, l.length ≤ 100 ∧ cutL l = l
structure StOk (st : StP) (k : Nat) : Prop where
  macs : ∀ m ∈ st.macros, MacOk m
  names : st.names.length ≤ st.out.length
  out : st.out.length ≤ 300
  calls : st.calls ≤ 200
  few : st.macros.length ≤ k
  taken : k ≤ 3001

structure ExpAt (w : World) (B be bt : Nat) (wi k : Nat) (vm vn vl : Value) (ms : List MacV) (ns : List (ByteArray × Int)) (outs : List (ByteArray × Nat)) (calls : Nat) : Prop where
  row : RowT w 77 be [.pointer (some ⟨bt, 0, none⟩), vm, vn, .int .i64 (wi : Nat), .int .i64 (calls : Nat), vl]
  mown : w.ownsRow B 202 3 vm ms.length (macCells ms)
  nown : w.ownsRow B 40 2 vn ns.length (nameCells ns)
  lown : w.ownsRow B 38 4 vl outs.length (lineCells outs)
  mstr : ∀ m ∈ ms, StrV w 0 m.pv m.ps ∧ StrV w 0 m.bv m.bs
  at_ : B ≤ be
  text : ∃ xs, RowT w 74 bt xs ∧ xs[2]? = some (.int .i64 (k : Nat))
/-- Where the number of the line is found. -/
def NumAt (w : World) (be bt wi k : Nat) : Prop := ∃ ys xs, RowT w 77 be (.pointer (some ⟨bt, 0, none⟩) :: ys) ∧ ys[2]? = some (.int .i64 (wi : Nat)) ∧ RowT w 74 bt xs ∧ xs[2]? = some (.int .i64 (k : Nat))
theorem ExpAt.num {w : World} {B be bt wi k : Nat} {vm vn vl : Value} {ms : List MacV} {ns : List (ByteArray × Int)} {outs : List (ByteArray × Nat)} {calls : Nat} (h : ExpAt w B be bt wi k vm vn vl ms ns outs calls) : NumAt w be bt wi k := by
  obtain ⟨xs, h1, h2⟩ := h.text
  exact ⟨_, xs, h.row, rfl, h1, h2⟩
theorem NumAt.below {w w' : World} {be bt wi k : Nat} (h : NumAt w be bt wi k) (hb : Below w.heap.size w w') : NumAt w' be bt wi k := by
  obtain ⟨ys, xs, h1, h0, h2, h3⟩ := h
  exact ⟨ys, xs, h1.below hb, h0, h2.below hb, h3⟩
def stOf (ms : List MacV) (ns : List (ByteArray × Int)) (outs : List (ByteArray × Nat)) (calls : Nat) : StP := ⟨ms.map plainM, plainN ns, outs.map fun x => (L x.1, x.2), calls⟩

theorem own_form {w : World} {C e size n : Nat} {v : Value} {xs : List Value} (h : w.ownsRow C e size v n xs) : ∃ a cap, v = .slice a n cap := by
  rcases h.2 with ⟨rfl, h0⟩ | ⟨g, cap, cur, rfl, _⟩
  · rw [h0]; exact ⟨none, 0, rfl⟩
  · exact ⟨_, cap, rfl⟩

set_option maxHeartbeats 400000 in
theorem number_any' (w : World) (B be bt wi k : Nat) (vm vn vl : Value) (ms : List MacV) (ns : List (ByteArray × Int)) (outs : List (ByteArray × Nat)) (calls : Nat) (h : ExpAt w B be bt wi k vm vn vl ms ns outs calls) :
    Calls Tryz.prog 32 #[.pointer (some ⟨be, 0, none⟩)] w fun e w' => e = .returned (.int .i64 (k : Nat)) ∧ w' = w := by
  have c0 := h.row.cell 0 (by simp)
  obtain ⟨xs, hx, hx2⟩ := h.text
  have hlt : 2 < xs.length := by
    rcases Nat.lt_or_ge 2 xs.length with h | h
    · exact h
    · rw [List.getElem?_eq_none h] at hx2; cases hx2
  have c2 : w.cell? ⟨bt, 2, none⟩ = some (.int .i64 (k : Nat)) := by
    rw [hx.cell 2 hlt, ← hx2, List.getElem?_eq_getElem hlt]
  clear h hx hx2
  go_enter Tryz.func32, Tryz.ntmps32
  go_wp2
  go_ret
  exact ⟨rfl, rfl⟩

theorem findM_at (ms : List MacV) (s : List UInt8) (k : Nat) (h : k < ms.length) : findM ((ms.drop k).map plainM) s = if L ms[k].name = s then some (plainM ms[k]) else findM ((ms.drop (k + 1)).map plainM) s := by
  rw [List.drop_eq_getElem_cons h, List.map_cons]; rfl

/-- What find answers. -/
def FindPost (ms : List MacV) (vm : Value) (s : List UInt8) (w : World) (e : Ending) (w' : World) : Prop := w' = w ∧
  ((findM (ms.map plainM) s = none ∧ e = .returned (.pointer none)) ∨ ∃ i g cap, ∃ h : i < ms.length, findM (ms.map plainM) s = some (plainM ms[i]) ∧ vm = .slice (some ⟨g, 0, none⟩) ms.length cap ∧ e = .returned (.pointer (some ⟨g, i * 3, none⟩)))

set_option maxHeartbeats 800000 in
theorem find_any' (w : World) (B be bt wi k : Nat) (vm vn vl : Value) (ms : List MacV) (ns : List (ByteArray × Int)) (outs : List (ByteArray × Nat)) (calls : Nat) (h : ExpAt w B be bt wi k vm vn vl ms ns outs calls) (hml : ms.length ≤ 3001) (s : ByteArray) :
    Calls Tryz.prog 108 #[.pointer (some ⟨be, 0, none⟩), .string s] w (FindPost ms vm (L s) w) := by
  have c1 := h.row.cell 1 (by simp)
  obtain ⟨a, cap, hv⟩ := own_form h.mown
  subst hv
  have HOWN := hid h.mown
  have c1 : w.cell? ⟨be, 1, none⟩ = some (.slice a ms.length cap) := c1
  clear h
  go_enter Tryz.func108, Tryz.ntmps108
  go_wp2
  go_loop [11] (fun i => ∃ j : Nat, j ≤ ms.length ∧ i = .int .i64 j ∧ findM (ms.map plainM) (L s) = findM ((ms.drop j).map plainM) (L s)) (fun i => ms.length - (intOf i).toNat)
  case atStart => exact ⟨0, Nat.zero_le _, rfl, by rw [List.drop_zero]⟩
  case round =>
    obtain ⟨j, hj, rfl, ha⟩ := hrel
    have HA := hid ha
    clear ha
    by_cases hlt : j < ms.length
    · have kd : decide ((j : Int) < (ms.length : Int)) = true := by simp; omega
      obtain ⟨g, cap2, hv, hBg, hgl⟩ := HOWN.out.form (by omega)
      injection hv with hv1 _ hv2
      subst hv1 hv2
      have cm : w.cell? ⟨g, j * 3, none⟩ = some (.string ms[j].name) := by
        rw [HOWN.out.cellAt (j * 3) (by omega)]; exact (macCells_at ms j hlt).1
      have hA := HA.out
      rw [findM_at _ _ _ hlt] at hA
      by_cases he : L ms[j].name = L s
      · rw [if_pos he] at hA
        have HF := hid hA
        have kb : (ms[j].name.toList == s.toList) = true := beq_of_L he
        clear hA he
        go_wp2
        go_ret
        exact ⟨rfl, Or.inr ⟨j, g, cap, hlt, HF.out, rfl, rfl⟩⟩
      · rw [if_neg he] at hA
        have HF := hid hA
        have kb : (ms[j].name.toList == s.toList) = false := nbeq_of_L he
        clear hA he
        go_wp2
        go_round
        case rel => exact ⟨j + 1, by omega, by go_num, HF.out⟩
        case measure => simp [intOf]; omega
    · have kd : decide ((j : Int) < (ms.length : Int)) = false := by simp; omega
      have HF := hid (show findM (ms.map plainM) (L s) = none by rw [HA.out, List.drop_eq_nil_of_le (by omega)]; rfl)
      go_wp2
      go_ret
      exact ⟨rfl, Or.inl ⟨HF.out, rfl⟩⟩

end Go.Proofs.YtcepppilgncdmaaGreatDoor
