/-
  What the program makes of a macro's line: operands in the place of parameters (package expand).
  What the functions of package expression that look names up answer; the names lie in memory as a Go list of names does.
-/
import Derived.Test.YtcepppilgncdmaaGreatDoorBS11
import Derived.Test.YtcepppilgncdmaaGreatDoorBS09
namespace Go.Proofs.YtcepppilgncdmaaGreatDoor
open Go.RowKit
attribute [local go_sem ↓] Go.wp_at_zero Go.wp_at_succ

def whichOf : Option (Nat × Nat) → Int
  | none => -1
  | some (i, _) => (i : Nat)
def CurOk (ss : List ByteArray) (cur : Option (Nat × Nat)) : Prop := ∀ i n, cur = some (i, n) → ∃ h : i < ss.length, n = ss[i].size

theorem ahead_at (l : List UInt8) (ss : List ByteArray) (k : Nat) (h : k < ss.length) (cur : Option (Nat × Nat)) :
    ahead l ((ss.drop k).map L) k cur = ahead l ((ss.drop (k + 1)).map L) (k + 1) (if (L ss[k]).isPrefixOf l && (match cur with | none => true | some (_, n) => decide (n < (L ss[k]).length)) then some (k, (L ss[k]).length) else cur) := by
  rw [List.drop_eq_getElem_cons h, List.map_cons]; rfl

set_option maxHeartbeats 1600000 in
theorem longest_any (v : Value) (ss : List ByteArray) (s : ByteArray) (w : World) (C : Nat) (r : Option (Nat × Nat)) (hst : StrV w C v ss) (hl : ss.length ≤ 100000) (hsz : ∀ k (h : k < ss.length), ss[k].size ≤ 100000) (hr : ahead (L s) (ss.map L) 0 none = r) :
    Calls Tryz.prog 204 #[v, .string s] w fun e w' => e = .returned (.int .i64 (whichOf r)) ∧ w' = w := by
  obtain ⟨va, vc, hv⟩ := hst.form
  subst hv
  have HST := hid hst
  have HSZ := hid hsz
  have HR := hid hr
  clear hst hsz hr
  go_enter Tryz.func204, Tryz.ntmps204
  go_wp2
  go_loop [5, 10] (fun x i => ∃ (k : Nat) (cur : Option (Nat × Nat)) (z : Int), k ≤ ss.length ∧ i = .int .i64 k ∧ x = .int .i64 z ∧ whichOf cur = z ∧ CurOk ss cur ∧ ahead (L s) ((ss.drop k).map L) k cur = r) (fun _ i => ss.length - (intOf i).toNat)
  case atStart => exact ⟨0, none, -1, Nat.zero_le _, rfl, rfl, rfl, (fun i n h => by cases h), by rw [List.drop_zero]; exact HR.out⟩
  case round =>
    obtain ⟨k, cur, z, hk, rfl, rfl, hz, hok, ha⟩ := hrel
    have HA := hid ha
    have HZ := hid hz
    have HOK := hid hok
    clear ha hok hz
    by_cases hlt : k < ss.length
    · have kd : decide ((k : Int) < (ss.length : Int)) = true := by simp; omega
      obtain ⟨b, off, cap, hv, hbl, ck⟩ := HST.out.cell k hlt
      injection hv with hv1 _ hv2
      subst hv1 hv2
      have hA := HA.out
      rw [ahead_at _ _ _ hlt] at hA
      have hks := HSZ.out k hlt
      cases hpre : (L ss[k]).isPrefixOf (L s) with
      | false =>
        rw [hpre, Bool.false_and, if_neg (by simp)] at hA
        have HA2 := hid hA
        have HPRE := hid (show Lib.hasPrefix s.data.toList ss[k].data.toList = false from hpre)
        clear hA hpre
        go_wp2_with (first | (go_at_call 206; refine (Tryz.strings_HasPrefix s ss[k] _).mono ?_; rw [HPRE.out]; rintro e w' ⟨rfl, rfl⟩))
        go_round
        case rel => exact ⟨k + 1, cur, z, by omega, by go_num, rfl, HZ.out, HOK.out, HA2.out⟩
        case measure => simp [intOf]; omega
      | true =>
        rw [hpre, Bool.true_and] at hA
        have HPRE := hid (show Lib.hasPrefix s.data.toList ss[k].data.toList = true from hpre)
        clear hpre
        cases cur with
        | none =>
          obtain rfl : -1 = z := HZ.out
          have hA' : ahead (L s) ((ss.drop (k + 1)).map L) (k + 1) (some (k, (L ss[k]).length)) = r := hA
          have HA2 := hid hA'
          clear hA hA'
          go_wp2_with (first | (go_at_call 206; refine (Tryz.strings_HasPrefix s ss[k] _).mono ?_; rw [HPRE.out]; rintro e w' ⟨rfl, rfl⟩))
          all_goals
            go_round
            case rel => exact ⟨k + 1, some (k, (L ss[k]).length), (k : Nat), by omega, by go_num, rfl, rfl, (fun i n h => by injection h with h; obtain ⟨rfl, rfl⟩ := pair_eq h; exact ⟨hlt, L_length _⟩), HA2.out⟩
            case measure => simp [intOf]; omega
        | some q =>
          obtain ⟨i, n⟩ := q
          obtain rfl : ((i : Nat) : Int) = z := HZ.out
          obtain ⟨hi, hn⟩ := HOK.out i n rfl
          subst hn
          obtain ⟨_, _, _, hvi, _, ci⟩ := HST.out.cell i hi
          injection hvi with hvi1 _ hvi2
          injection hvi1 with hvi1
          injection hvi1 with hvi3 hvi4
          subst hvi3 hvi4
          clear hvi2
          have his := HSZ.out i hi
          have kw : decide (((i : Nat) : Int) < 0) = false := by simp
          have kw2 : decide (((i : Nat) : Int) < (ss.length : Int)) = true := by simp; omega
          have hA' : ahead (L s) ((ss.drop (k + 1)).map L) (k + 1) (if decide (ss[i].size < (L ss[k]).length) then some (k, (L ss[k]).length) else some (i, ss[i].size)) = r := hA
          rw [L_length] at hA'
          clear hA
          by_cases hgt : ss[i].size < ss[k].size
          · rw [decide_eq_true hgt, if_pos rfl] at hA'
            have HA2 := hid hA'
            have kg : decide (ss[i].size < ss[k].size) = true := by simpa using hgt
            clear hA'
            go_wp2_with (first | (go_at_call 206; refine (Tryz.strings_HasPrefix s ss[k] _).mono ?_; rw [HPRE.out]; rintro e w' ⟨rfl, rfl⟩))
            go_round
            case rel => exact ⟨k + 1, some (k, ss[k].size), (k : Nat), by omega, by go_num, rfl, rfl, (fun i n h => by injection h with h; obtain ⟨rfl, rfl⟩ := pair_eq h; exact ⟨hlt, rfl⟩), HA2.out⟩
            case measure => simp [intOf]; omega
          · rw [decide_eq_false hgt, if_neg (by simp)] at hA'
            have HA2 := hid hA'
            have kg : decide (ss[i].size < ss[k].size) = false := by simpa using hgt
            clear hA'
            go_wp2_with (first | (go_at_call 206; refine (Tryz.strings_HasPrefix s ss[k] _).mono ?_; rw [HPRE.out]; rintro e w' ⟨rfl, rfl⟩))
            go_round
            case rel => exact ⟨k + 1, some (i, ss[i].size), (i : Nat), by omega, by go_num, rfl, rfl, HOK.out, HA2.out⟩
            case measure => simp [intOf]; omega
    · have kd : decide ((k : Int) < (ss.length : Int)) = false := by simp; omega
      have hrc : r = cur := by rw [← HA.out, List.drop_eq_nil_of_le (by omega)]; rfl
      subst hrc
      go_wp2
      go_ret
      exact ⟨ret_int HZ.out.symm, rfl⟩

theorem fillP_fuel (ps os : List (List UInt8)) : ∀ (n m : Nat) (l : List UInt8), l.length ≤ n → l.length ≤ m → fillP ps os n l = fillP ps os m l
  | 0, 0, _, _, _ => rfl
  | 0, m + 1, l, h1, _ => by
    have : l = [] := List.eq_nil_of_length_eq_zero (by omega)
    subst this; rfl
  | n + 1, 0, l, _, h2 => by
    have : l = [] := List.eq_nil_of_length_eq_zero (by omega)
    subst this; rfl
  | n + 1, m + 1, [], _, _ => rfl
  | n + 1, m + 1, c :: r, h1, h2 => by
    simp only [List.length_cons] at h1 h2
    simp only [fillP]
    split
    · split
      · rfl
      · rename_i i k _
        rw [fillP_fuel ps os n m (r.drop k) (by rw [List.length_drop]; omega) (by rw [List.length_drop]; omega)]
    · rw [fillP_fuel ps os n m r (by omega) (by omega)]
/-- With as much fuel as there are bytes. -/
def fillF (ps os : List (List UInt8)) (l : List UInt8) : Option (List UInt8) := fillP ps os l.length l
theorem fillF_none (ps os : List (List UInt8)) (l : List UInt8) (h : ∀ b ∈ l, b ≠ 92) : fillF ps os l = some l := by
  unfold fillF
  induction l with
  | nil => rfl
  | cons c r ih =>
    have hb : ¬ (c.toNat : Int) = 92 := fun e => h c (by simp) ((byte_eq c 92).1 e)
    simp only [List.length_cons, fillP]
    rw [if_neg hb, ih (fun b hb => h b (by simp [hb]))]; rfl
theorem fillF_at (ps os : List (List UInt8)) (p b : List UInt8) (h : ∀ x ∈ p, x ≠ 92) : fillF ps os (p ++ 92 :: b) = match ahead b ps 0 none with
    | none => none
    | some (i, k) => (fillF ps os (b.drop k)).map ((p ++ os.getD i []) ++ ·) := by
  unfold fillF
  induction p with
  | nil =>
    simp only [List.nil_append, List.length_cons, fillP]
    rw [if_pos (show ((92 : UInt8).toNat : Int) = 92 from rfl)]
    cases ahead b ps 0 none with
    | none => rfl
    | some q =>
      obtain ⟨i, k⟩ := q
      show Option.map _ (fillP ps os b.length (b.drop k)) = _
      rw [fillP_fuel ps os b.length (b.drop k).length (b.drop k) (by rw [List.length_drop]; omega) (Nat.le_refl _)]
  | cons c r ih =>
    have hb : ¬ (c.toNat : Int) = 92 := fun e => h c (by simp) ((byte_eq c 92).1 e)
    simp only [List.cons_append, List.length_cons, fillP]
    rw [if_neg hb, ih (fun x hx => h x (by simp [hx]))]
    cases ahead b ps 0 none with
    | none => rfl
    | some q =>
      obtain ⟨i, k⟩ := q
      show Option.map _ (Option.map _ _) = _
      rw [Option.map_map]; rfl
theorem ahead_ok (l : List UInt8) (ss : List ByteArray) : ∀ (k : Nat) (cur : Option (Nat × Nat)), k ≤ ss.length → CurOk ss cur → (∀ i n, cur = some (i, n) → n ≤ l.length) → CurOk ss (ahead l ((ss.drop k).map L) k cur) ∧ ∀ i n, ahead l ((ss.drop k).map L) k cur = some (i, n) → n ≤ l.length := by
  intro k
  induction hn : ss.length - k generalizing k with
  | zero =>
    intro cur hk h1 h2
    rw [List.drop_eq_nil_of_le (by omega)]
    exact ⟨h1, h2⟩
  | succ m ih =>
    intro cur hk h1 h2
    have hlt : k < ss.length := by omega
    rw [ahead_at l ss k hlt]
    have key : ∀ q : Bool, CurOk ss (if ((L ss[k]).isPrefixOf l && q) = true then some (k, (L ss[k]).length) else cur) ∧ ∀ i n, (if ((L ss[k]).isPrefixOf l && q) = true then some (k, (L ss[k]).length) else cur) = some (i, n) → n ≤ l.length := by
      intro q
      by_cases hc : ((L ss[k]).isPrefixOf l && q) = true
      · rw [if_pos hc]
        refine ⟨fun i n h => ?_, fun i n h => ?_⟩
        · injection h with h
          obtain ⟨rfl, rfl⟩ := pair_eq h
          exact ⟨hlt, L_length _⟩
        · injection h with h
          obtain ⟨rfl, rfl⟩ := pair_eq h
          rw [Bool.and_eq_true] at hc
          exact (List.isPrefixOf_iff_prefix.1 hc.1).length_le
      · rw [if_neg hc]
        exact ⟨h1, h2⟩
    exact ih (k + 1) (by omega) _ (by omega) (key _).1 (key _).2

theorem cutb_any (rs : ByteArray) (w : World) (p b : ByteArray) (f : Bool) (hs : rs.size ≤ 100000) (hm : MaxAt w) (h : Lib.cut (L rs) [92] = (L p, L b, f)) :
    Calls Tryz.prog 116 #[.string rs, .string ⟨#[92]⟩] w fun e w' => e = .returned (.tuple #[.string p, .string b, .bool f]) ∧ Below w.heap.size w w' := by
  obtain ⟨m, hm⟩ := hm
  refine (Tryz.strings_Cut rs ⟨#[92]⟩ m w (by omega) hm).mono ?_
  rintro e w' ⟨rfl, n, rfl⟩
  refine ⟨?_, below_drewN (Below.refl _ _) _⟩
  have h' : Lib.cut rs.data.toList (⟨#[92]⟩ : ByteArray).data.toList = (L p, L b, f) := h
  rw [h']
  rfl
theorem len_any (B b : Nat) (acc : List UInt8) (w : World) (h : BuildAt w B b acc) :
    Calls Tryz.prog 205 #[.pointer (some ⟨b, 0, none⟩)] w fun e w' => e = .returned (.int .i64 (acc.length : Nat)) ∧ w' = w := by
  have := Tryz.Builder_Len_f B b (Lib.byteCells acc) w h
  rw [Lib.byteCells_length] at this
  exact this
theorem BuildAt.below {w w' : World} {B b : Nat} {acc : List UInt8} (h : BuildAt w B b acc) (hb : Below w.heap.size w w') : BuildAt w' B b acc := by
  have key : ∀ p, Lib.BuilderAtF 221 5 B b p (Lib.byteCells acc) w → Lib.BuilderAtF 221 5 B b p (Lib.byteCells acc) w' := by
    rintro p ⟨h1, v, h2, h3, h4⟩
    refine ⟨h1, v, by rw [hb.block b (Array.getElem?_eq_some_iff.1 h2).1]; exact h2, ⟨h3.1, ?_⟩, h4⟩
    rcases h3.2 with h5 | ⟨g, cap, cur, fz, h5, h6, h7, h8⟩
    · exact Or.inl h5
    · exact Or.inr ⟨g, cap, cur, fz, h5, h6, by rw [hb.block g (Array.getElem?_eq_some_iff.1 h7).1]; exact h7, h8⟩
  exact Or.imp (key _) (key _) h

/-- What fill answers. -/
def FillPost (r : Int × List UInt8) (w : World) (e : Ending) (w' : World) : Prop := ∃ t, L t = r.2 ∧ e = .returned (.tuple #[.string t, .int .i64 r.1]) ∧ Below w.heap.size w w'

set_option maxRecDepth 100000 in
set_option maxHeartbeats 1600000 in
theorem fill_any (w : World) (bm : Nat) (c0 c1 c2 pv ov : Value) (ps os : List ByteArray) (s : ByteArray) (hrow : RowT w 209 bm [c0, c1, c2, pv, ov]) (hps : StrV w 0 pv ps) (hos : StrV w 0 ov os) (hlen : ps.length = os.length) (hl : ps.length ≤ 1000)
    (hz : ∀ k (h : k < ps.length), ps[k].size ≤ 100) (hz2 : ∀ k (h : k < os.length), os[k].size ≤ 100) (hs : s.size ≤ 1000) (hm : MaxAt w) :
    Calls Tryz.prog 203 #[.pointer (some ⟨bm, 0, none⟩), .string s] w (FillPost (filledP (ps.map L) (os.map L) (L s)) w) := by
  obtain ⟨B, hB⟩ : ∃ B, w.heap.size = B := ⟨_, rfl⟩
  obtain ⟨pa, pc, hpv⟩ := hps.form
  subst hpv
  obtain ⟨oa, oc, hov⟩ := hos.form
  subst hov
  have hb1 : Below B w (w.alloc (.cells #[.pointer none, .slice none 0 0] 221)) := (Below.refl B w).alloc (by omega) _
  have hbd : BuildAt (w.alloc (.cells #[.pointer none, .slice none 0 0] 221)) B B [] := by
    have := Lib.IsBuilderF.of (Lib.fresh_isBuilder 221 5 w)
    rw [hB] at this
    exact this
  have hzz : B < (w.alloc (.cells #[.pointer none, .slice none 0 0] 221)).heap.size := by simp [hB]
  have HROW := hid hrow
  have HPS := hid hps
  have HOS := hid hos
  have HZ := hid hz
  have HZ2 := hid hz2
  have HM := hid hm
  have HB := hid hB
  have hbmB : bm < B := by rw [← hB]; exact hrow.lt
  have HLEN := hid hlen
  clear hrow hps hos hz hz2 hm hlen
  have HFP := hid (show filledP (ps.map L) (os.map L) (L s) = match fillF (ps.map L) (os.map L) (L s) with | none => (4, []) | some t => if 80 < t.length then (1, []) else (0, t) from rfl)
  go_enter Tryz.func203, Tryz.ntmps203
  go_wp2_with fail
  generalize w.alloc (.cells #[.pointer none, .slice none 0 0] 221) = w1 at hb1 hbd hzz ⊢
  have HB1 := hid hb1
  go_loopg [7] (s.size + 1) (fun q x wr => ∃ (rs : ByteArray) (acc : List UInt8), q = rs.size + 1 ∧ x = .string rs ∧ rs.size ≤ s.size ∧ acc.length + 100 * rs.size ≤ 100 * s.size ∧ fillF (ps.map L) (os.map L) (L s) = (fillF (ps.map L) (os.map L) (L rs)).map (acc ++ ·) ∧ BuildAt wr B B acc ∧ Below B w wr ∧ B < wr.heap.size)
  case atStart => exact ⟨s, [], rfl, rfl, Nat.le_refl _, by simp, by simp, hbd, hb1, hzz⟩
  case round =>
    obtain ⟨rs, acc, hq, rfl, hrs, hacc, hfl, hbk, hbl, hzr⟩ := hrel
    have HFL := hid hfl
    have HBK := hid hbk
    have HBL := hid hbl
    have HMr := hid (HM.out.below (by rw [HB.out]; exact hbl))
    clear hfl hbk hbl hbd
    rcases cut_one 92 (L rs) with ⟨hcut, hno⟩ | ⟨p, b, hrl, hno, hcut⟩
    · have HC := hid (show Lib.cut (L rs) [92] = (L rs, L (⟨#[]⟩ : ByteArray), false) from hcut)
      have HR := hid (show fillF (ps.map L) (os.map L) (L s) = some (acc ++ L rs) by rw [HFL.out, fillF_none _ _ _ hno]; rfl)
      clear hcut hno HFL
      go_wp2_with fail
      refine (cutb_any rs _ rs ⟨#[]⟩ false (by omega) HMr.out HC.out).mono ?_
      rintro e w2 ⟨rfl, hb2⟩
      have HBK := hid (HBK.out.below hb2)
      have HBL := hid (HBL.out.trans (hb2.mono (Nat.le_of_lt hzr)))
      have hzr2 : B < w2.heap.size := Nat.lt_of_lt_of_le hzr hb2.size
      clear hb2
      go_wp2_with fail
      refine (write_any B B acc rs _ HBK.out (by omega) (Nat.le_of_lt hzr2)).mono ?_
      rintro e w3 ⟨rfl, hbd3, hb3⟩
      have HBK := hid hbd3
      have HBL := hid (HBL.out.trans hb3)
      have hzr3 : B < w3.heap.size := Nat.lt_of_lt_of_le hzr2 hb3.size
      clear hbd3 hb3
      obtain ⟨n, hn⟩ : ∃ n, (acc ++ L rs).length = n := ⟨_, rfl⟩
      have HN := hid hn
      have hnb : n ≤ 1000000 := by rw [← hn, List.length_append, L_length]; omega
      clear hn
      by_cases h80 : 80 < n
      · have HF := hid (show filledP (ps.map L) (os.map L) (L s) = (1, []) by rw [HFP.out, HR.out]; show (if 80 < (acc ++ L rs).length then _ else _) = _; rw [HN.out, if_pos h80])
        have kd : decide (80 < (n : Int)) = true := by simp; omega
        go_wp2_with (first | (go_at_call 205; refine (len_any B B _ _ HBK.out).mono ?_; rw [HN.out]; rintro e w4 ⟨rfl, rfl⟩))
        go_ret2
        exact ⟨⟨#[]⟩, by rw [HF.out]; rfl, by rw [HF.out]; rfl, by rw [HB.out]; exact HBL.out⟩
      · have HF := hid (show filledP (ps.map L) (os.map L) (L s) = (0, acc ++ L rs) by rw [HFP.out, HR.out]; show (if 80 < (acc ++ L rs).length then _ else _) = _; rw [HN.out, if_neg h80])
        have kd : decide (80 < (n : Int)) = false := by simp; omega
        go_wp2_with (first | (go_at_call 205; refine (len_any B B _ _ HBK.out).mono ?_; rw [HN.out]; rintro e w4 ⟨rfl, rfl⟩) | (go_at_call 154; refine (string_any B B _ _ HBK.out (Nat.le_of_lt hzr3)).mono ?_; rintro e w5 ⟨rfl, hb5⟩))
        go_ret2
        exact ⟨⟨(acc ++ L rs).toArray⟩, by rw [HF.out]; rfl, by rw [HF.out]; rfl, by rw [HB.out]; exact HBL.out.trans hb5⟩
    · obtain ⟨pB, hpB⟩ : ∃ x : ByteArray, L x = p := ⟨⟨p.toArray⟩, rfl⟩
      obtain ⟨bB, hbB⟩ : ∃ x : ByteArray, L x = b := ⟨⟨b.toArray⟩, rfl⟩
      subst hpB hbB
      have HC := hid hcut
      have hsz : pB.size + 1 + bB.size = rs.size := by
        have := congrArg List.length hrl
        rw [List.length_append, List.length_cons, L_length, L_length, L_length] at this
        omega
      have HFA := hid (show fillF (ps.map L) (os.map L) (L rs) = _ from hrl ▸ fillF_at (ps.map L) (os.map L) (L pB) (L bB) hno)
      obtain ⟨r, hr⟩ : ∃ r, ahead (L bB) (ps.map L) 0 none = r := ⟨_, rfl⟩
      have HRR := hid hr
      have hok := ahead_ok (L bB) ps 0 none (Nat.zero_le _) (fun i n h => by cases h) (fun i n h => by cases h)
      rw [List.drop_zero, hr] at hok
      have HOK := hid hok
      clear hcut hno hrl hr hok
      go_wp2_with fail
      refine (cutb_any rs _ pB bB true (by omega) HMr.out HC.out).mono ?_
      rintro e w2 ⟨rfl, hb2⟩
      have HBK := hid (HBK.out.below hb2)
      have HBL := hid (HBL.out.trans (hb2.mono (Nat.le_of_lt hzr)))
      have hzr2 : B < w2.heap.size := Nat.lt_of_lt_of_le hzr hb2.size
      clear hb2
      go_wp2_with fail
      refine (write_any B B acc pB _ HBK.out (by omega) (Nat.le_of_lt hzr2)).mono ?_
      rintro e w3 ⟨rfl, hbd3, hb3⟩
      have HBK := hid hbd3
      have HBL := hid (HBL.out.trans hb3)
      have hzr3 : B < w3.heap.size := Nat.lt_of_lt_of_le hzr2 hb3.size
      clear hbd3 hb3
      have HROW3 := hid (HROW.out.upto HBL.out hbmB)
      have d3 := HROW3.out.cell 3 (by simp)
      have d4 := HROW3.out.cell 4 (by simp)
      have HPS3 := hid (HPS.out.below (by rw [HB.out]; exact HBL.out))
      go_wp2_with fail
      refine (longest_any _ ps bB _ 0 r HPS3.out (by omega) (fun k h => by have := HZ.out k h; omega) HRR.out).mono ?_
      cases r with
      | none =>
        have HF := hid (show filledP (ps.map L) (os.map L) (L s) = (4, []) by rw [HFP.out, HFL.out, HFA.out, HRR.out]; rfl)
        rintro e w4 ⟨rfl, rfl⟩
        go_wp2
        go_ret2
        exact ⟨⟨#[]⟩, by rw [HF.out]; rfl, by rw [HF.out]; rfl, by rw [HB.out]; exact HBL.out⟩
      | some q =>
        obtain ⟨i, n⟩ := q
        obtain ⟨hi, hn⟩ := HOK.out.1 i n rfl
        have hnl : n ≤ bB.size := by have := HOK.out.2 i n rfl; rwa [L_length] at this
        subst hn
        have hi2 : i < os.length := by have := HLEN.out; omega
        have HOS3 := hid (HOS.out.below (by rw [HB.out]; exact HBL.out))
        obtain ⟨b1, o1, k1, hv1, hb1', ci1⟩ := HPS3.out.cell i hi
        obtain ⟨b2, o2, k2, hv2, hb2', ci2⟩ := HOS3.out.cell i hi2
        injection hv1 with hv11 _ hv12
        injection hv2 with hv21 _ hv22
        subst hv11 hv21
        clear hv12 hv22
        have hpi := HZ.out i hi
        have hoi := HZ2.out i hi2
        have HFN := hid (show fillF (ps.map L) (os.map L) (L s) = (fillF (ps.map L) (os.map L) (L (bB.extract ps[i].size bB.size))).map ((acc ++ L pB ++ L os[i]) ++ ·) by
          rw [HFL.out, HFA.out, HRR.out]
          show Option.map _ (Option.map _ _) = _
          rw [Option.map_map, L_suffix]
          congr 1
          funext x
          have e1 : (os.map L).getD i [] = L os[i] := by rw [List.getD_eq_getElem?_getD, List.getElem?_map, List.getElem?_eq_getElem hi2]; rfl
          simp only [Function.comp_apply, e1, List.append_assoc])
        rintro e w4 ⟨rfl, rfl⟩
        have kw : decide (((i : Nat) : Int) < 0) = false := by simp
        have kw1 : decide (((i : Nat) : Int) < (ps.length : Int)) = true := by simp; omega
        have kw2 : decide (((i : Nat) : Int) < (os.length : Int)) = true := by simp; omega
        have hb3 : ((ps[i].size : Nat) : Int) ≤ ((bB.size : Nat) : Int) := by omega
        have hwi : whichOf (some (i, ps[i].size)) = ((i : Nat) : Int) := rfl
        rw [hwi]
        go_wp2_with fail
        refine (write_any B B _ os[i] _ HBK.out (by rw [List.length_append, L_length]; omega) (Nat.le_of_lt hzr3)).mono ?_
        rintro e w5 ⟨rfl, hbd5, hb5⟩
        have HBK5 := hid hbd5
        have HBL5 := hid (HBL.out.trans hb5)
        have hzr5 : B < w5.heap.size := Nat.lt_of_lt_of_le hzr3 hb5.size
        have e3 := (HROW.out.upto HBL5.out hbmB).cell 3 (by simp)
        have ci5 := ((HPS.out.below (by rw [HB.out]; exact HBL5.out)).cell i hi)
        obtain ⟨_, _, _, hv5, _, ci5⟩ := ci5
        injection hv5 with hv51 _ hv52
        injection hv51 with hv51
        injection hv51 with hv53 hv54
        subst hv53 hv54
        clear hbd5 hb5 hv52
        go_wp2
        go_roundg ((bB.extract ps[i].size bB.size).size + 1)
        case measure => rw [ByteArray.size_extract]; omega
        case rel => exact ⟨bB.extract ps[i].size bB.size, acc ++ L pB ++ L os[i], rfl, rfl, by rw [ByteArray.size_extract]; omega, by rw [List.length_append, List.length_append, L_length, L_length, ByteArray.size_extract]; omega, HFN.out, HBK5.out, HBL5.out, hzr5⟩

end Go.Proofs.YtcepppilgncdmaaGreatDoor

namespace Go.Proofs.YtcepppilgncdmaaGreatDoor
open Go.RowKit

/-- The names of a list, as plain data. -/
def plainN (ns : List (ByteArray × Int)) : List (List UInt8 × Int) := ns.map fun p => (L p.1, p.2)

/-- The list of names lies in the world: two cells a name. -/
def NamesAt (w : World) (a : Option Addr) (ns : List (ByteArray × Int)) : Prop :=
  ns = [] ∨ ∃ b off, a = some ⟨b, off, none⟩ ∧ b < w.heap.size ∧ ∀ i (h : i < ns.length), w.cell? ⟨b, off + i * 2, none⟩ = some (.string ns[i].1) ∧ w.cell? ⟨b, off + i * 2 + 1, none⟩ = some (.int .i64 ns[i].2)

theorem NamesAt.below {w w' : World} {a : Option Addr} {ns : List (ByteArray × Int)} (h : NamesAt w a ns) (hb : Below w.heap.size w w') : NamesAt w' a ns := by
  rcases h with h | ⟨b, off, ha, hl, hc⟩
  · exact Or.inl h
  · refine Or.inr ⟨b, off, ha, by have := hb.size; omega, fun i hi => ?_⟩
    obtain ⟨h1, h2⟩ := hc i hi
    exact ⟨by rw [hb.cell (p := ⟨b, off + i * 2, none⟩) hl]; exact h1, by rw [hb.cell (p := ⟨b, off + i * 2 + 1, none⟩) hl]; exact h2⟩

theorem findN_at (ns : List (ByteArray × Int)) (x : List UInt8) (k : Nat) (h : k < ns.length) : findN (plainN (ns.drop k)) x = if L ns[k].1 = x then some ns[k].2 else findN (plainN (ns.drop (k + 1))) x := by
  rw [List.drop_eq_getElem_cons h]; rfl
theorem findN_end (ns : List (ByteArray × Int)) (x : List UInt8) (k : Nat) (h : ns.length ≤ k) : findN (plainN (ns.drop k)) x = none := by
  rw [List.drop_eq_nil_of_le h]; rfl

theorem beq_of_L {s t : ByteArray} (h : L s = L t) : (s.toList == t.toList) = true := by
  rw [ByteArray.toList_eq, ByteArray.toList_eq, beq_iff_eq]; exact h
theorem nbeq_of_L {s t : ByteArray} (h : ¬ L s = L t) : (s.toList == t.toList) = false := by
  rw [ByteArray.toList_eq, ByteArray.toList_eq, beq_eq_false_iff_ne]; exact h

set_option maxHeartbeats 800000 in
theorem findName_any (s : ByteArray) (a : Option Addr) (cap : Nat) (ns : List (ByteArray × Int)) (w : World) (v : Int) (n : Nat) (er : Int) (hs : s.size ≤ maxLen) (hl : ns.length ≤ maxLen) (hn : NamesAt w a ns) (hv : named (L s) (plainN ns) = (v, n, er)) :
    Calls Tryz.prog 127 #[.string s, .slice a ns.length cap] w fun e w' => e = .returned (.tuple #[.int .i64 v, .int .i64 n, .int .i64 er]) ∧ Below w.heap.size w w' := by
  have hs0 := hs
  unfold maxLen at hs hl
  have HV := hid hv
  have HN := hid hn
  clear hv hn
  have hwl := wordLen_le (L s)
  rw [L_length] at hwl
  obtain ⟨m, hm⟩ : ∃ m, wordLen (L s) = m := ⟨_, rfl⟩
  rw [hm] at hwl
  have HM := hid hm
  clear hm
  go_enter Tryz.func127, Tryz.ntmps127
  go_wp2
  go_loop [7] (fun i => ∃ k : Nat, k ≤ m ∧ i = .int .i64 k ∧ m = k + wordLen ((L s).drop k)) (fun i => s.size - (intOf i).toNat)
  case atStart => exact ⟨0, Nat.zero_le _, rfl, by rw [List.drop_zero, HM.out]; omega⟩
  case round =>
    obtain ⟨k, hk, rfl, ha⟩ := hrel
    have HA := hid ha
    clear ha
    have hks : k ≤ s.size := by omega
    by_cases hlt : k < m
    · have hlt' : k < s.size := by omega
      have kn : nbB (s[k].toNat : Int) = true := by
        cases hb : nbB (s[k].toNat : Int) with
        | true => rfl
        | false => have := wordLen_no s k hlt' hb; have := HA.out; omega
      have HS := hid (wordLen_at s k hlt' kn)
      have hdec : decide ((k : Int) < s.size) = true := by simp; omega
      go_wp2_with (first | (go_at_call 120; refine (isNameByte_any _ _).mono ?_; rintro e w' ⟨rfl, rfl⟩))
      go_round
      case rel => exact ⟨k + 1, by omega, by go_num, by rw [HA.out, HS.out]; omega⟩
      case measure => simp [intOf]; omega
    · have hkm : k = m := by omega
      subst hkm
      have hstop : ∀ h : k < s.size, nbB (s[k].toNat : Int) = false := by
        intro h
        cases hb : nbB (s[k].toNat : Int) with
        | false => rfl
        | true => have := wordLen_at s k h hb; have := HA.out; omega
      clear hlt HA
      have hex : (s.extract 0 k).size ≤ maxLen := by rw [ByteArray.size_extract]; omega
      have HX := hid (L_prefix s k)
      have hv := HV.out
      unfold named at hv
      rw [HM.out, ← HX.out] at hv
      clear HV
      by_cases hnm : nameB (L (s.extract 0 k)) = true
      · rw [if_pos hnm] at hv
        have HF := hid hv
        clear hv
        by_cases hlt : k < s.size
        all_goals
          try have kn := hstop hlt
          clear hstop
          go_wp2_with (first | (go_at_call 120; refine (isNameByte_any _ _).mono ?_; rintro e w' ⟨rfl, rfl⟩) | (go_at_call 78; refine (IsName_any _ _ hex).mono ?_; rintro e w' ⟨rfl, rfl⟩))
          go_loopw [31] (fun i wr => ∃ j : Nat, j ≤ ns.length ∧ i = .int .i64 j ∧ Below w'.heap.size w' wr ∧ findN (plainN ns) (L (s.extract 0 k)) = findN (plainN (ns.drop j)) (L (s.extract 0 k))) (fun i _ => ns.length - (intOf i).toNat)
          case atStart => exact ⟨0, Nat.zero_le _, rfl, Below.refl _ _, by rw [List.drop_zero]⟩
          case round =>
            obtain ⟨j, hj, rfl, hbel, hfd⟩ := hrel
            have HB := hid hbel
            have HFD := hid hfd
            clear hbel hfd
            by_cases hjl : j < ns.length
            · rcases HN.out with h | ⟨b, off, ha, hbl, hc⟩
              · rw [h] at hjl; simp at hjl
              · subst ha
                obtain ⟨c1, c2⟩ := hc j hjl
                rw [← HB.out.cell (p := ⟨b, off + j * 2, none⟩) hbl] at c1
                rw [← HB.out.cell (p := ⟨b, off + j * 2 + 1, none⟩) hbl] at c2
                clear hc
                have HS := hid (findN_at ns (L (s.extract 0 k)) j hjl)
                by_cases heq : L ns[j].1 = L (s.extract 0 k)
                · have ke := beq_of_L heq
                  have hr : findN (plainN ns) (L (s.extract 0 k)) = some ns[j].2 := by rw [HFD.out, HS.out, if_pos heq]
                  have hf := HF.out
                  rw [hr] at hf
                  obtain ⟨rfl, rfl, rfl⟩ := trip_eq hf
                  clear hf hr HS HFD HF heq
                  go_wp2
                  go_ret3
                  exact ⟨rfl, HB.out.alloc (by have := HB.out.size; exact this) _⟩
                · have ke := nbeq_of_L heq
                  have HR := hid (show findN (plainN ns) (L (s.extract 0 k)) = findN (plainN (ns.drop (j + 1))) (L (s.extract 0 k)) by rw [HFD.out, HS.out, if_neg heq])
                  clear HS HFD heq
                  go_wp2
                  go_roundw
                  case rel => exact ⟨j + 1, by omega, by go_num, HB.out.alloc (by have := HB.out.size; exact this) _, HR.out⟩
                  case measure => simp [intOf]; omega
            · have hr : findN (plainN ns) (L (s.extract 0 k)) = none := by rw [HFD.out, findN_end _ _ _ (by omega)]
              have hf := HF.out
              rw [hr] at hf
              obtain ⟨rfl, rfl, rfl⟩ := trip_eq hf
              clear hf hr HFD HF
              go_wp2
              go_ret3
              exact ⟨rfl, HB.out⟩
      · have hnf : nameB (L (s.extract 0 k)) = false := by simpa using hnm
        rw [if_neg hnm] at hv
        obtain ⟨rfl, rfl, rfl⟩ := trip_eq hv
        clear hv
        by_cases hlt : k < s.size
        all_goals
          try have kn := hstop hlt
          clear hstop
          go_wp2_with (first | (go_at_call 120; refine (isNameByte_any _ _).mono ?_; rintro e w' ⟨rfl, rfl⟩) | (go_at_call 78; refine (IsName_any _ _ hex).mono ?_; rintro e w' ⟨rfl, rfl⟩))
          go_ret3
          exact ⟨rfl, Below.refl _ _⟩

end Go.Proofs.YtcepppilgncdmaaGreatDoor
