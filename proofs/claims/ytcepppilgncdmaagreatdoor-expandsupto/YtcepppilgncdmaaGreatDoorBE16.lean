/-
  What the document's own package (masonref) makes of a macro's line: operands in the place of parameters.
  What the program does with a line, and with all lines of a block (package expand).
-/
import Derived.Test.YtcepppilgncdmaaGreatDoorBE15
import Derived.Test.YtcepppilgncdmaaGreatDoorBE09
import Derived.Test.YtcepppilgncdmaaGreatDoorBE13
namespace Go.Proofs.YtcepppilgncdmaaGreatDoor
open Go.RowKit
attribute [local go_sem ↓] Go.wp_at_zero Go.wp_at_succ

theorem pre_iff (s p : ByteArray) (i : Nat) : (L p).isPrefixOf ((L s).drop i) = true ↔ i + p.size ≤ s.size + (i - s.size) ∧ L (s.extract i (i + p.size)) = L p := by
  rw [List.isPrefixOf_iff_prefix, L_extract, List.prefix_iff_eq_take, List.drop_take, Nat.add_sub_cancel_left, L_length]
  constructor
  · intro h
    refine ⟨?_, h.symm⟩
    have h2 := congrArg List.length h
    rw [List.length_take, List.length_drop, L_length, L_length] at h2
    omega
  · rintro ⟨_, h⟩
    exact h.symm
theorem fillF_step (ps os : List (List UInt8)) (c : UInt8) (r : List UInt8) (h : ¬ (c.toNat : Int) = 92) : fillF ps os (c :: r) = (fillF ps os r).map (c :: ·) := by
  unfold fillF
  simp only [List.length_cons, fillP]
  rw [if_neg h]
theorem fillF_stroke (ps os : List (List UInt8)) (c : UInt8) (r : List UInt8) (h : (c.toNat : Int) = 92) : fillF ps os (c :: r) = match ahead r ps 0 none with
    | none => none
    | some (i, k) => (fillF ps os (r.drop k)).map (os.getD i [] ++ ·) := by
  have := fillF_at ps os [] r (by simp)
  rw [List.nil_append] at this
  rw [(byte_eq c 92).1 h]
  exact this
def FilledPost (ps os : List (List UInt8)) (l : List UInt8) (w : World) (e : Ending) (w' : World) : Prop := ∃ t : ByteArray, e = .returned (.tuple #[.string t, .int .i64 (filledP ps os l).1]) ∧ L t = (filledP ps os l).2 ∧ w' = w

set_option maxRecDepth 100000 in
set_option maxHeartbeats 3200000 in
theorem filled_any (w : World) (b : Nat) (lv fv ov dv vo xd : Value) (m : MacQ) (os : List ByteArray) (s : ByteArray) (C : Nat)
    (h : RowT w 130 b [lv, fv, .pointer (some ⟨m.g, 0, none⟩), ov, dv, vo, xd]) (hm : MacRow w m) (ho : StrV w C ov os) (hl : os.length = m.ps.length) (hn : m.ps.length ≤ 1000) (hs : s.size ≤ 1000) (hp1 : ∀ k (h : k < m.ps.length), m.ps[k].size ≤ 1000) (hp2 : ∀ k (h : k < os.length), os[k].size ≤ 100) :
    Calls Tryz.prog 93 #[.pointer (some ⟨b, 0, none⟩), .string s] w (FilledPost (m.ps.map L) (os.map L) (L s) w) := by
  have c2 : w.cell? ⟨b, 2, none⟩ = some (.pointer (some ⟨m.g, 0, none⟩)) := h.cell 2 (by simp)
  have c3 : w.cell? ⟨b, 3, none⟩ = some ov := h.cell 3 (by simp)
  obtain ⟨oa, oc, hov⟩ := ho.form
  subst hov
  obtain ⟨pa, pc, hpv⟩ := hm.ps.form
  have d1 : w.cell? ⟨m.g, 1, none⟩ = some (.slice pa m.ps.length pc) := by rw [← hpv]; exact hm.row.cell 1 (by simp)
  have HST := hid (hpv ▸ hm.ps)
  have HSO := hid ho
  obtain ⟨ps, hps⟩ : ∃ ps, m.ps = ps := ⟨_, rfl⟩
  rw [hps] at d1 hl hn hp1 HST ⊢
  generalize m.g = g at c2 d1
  have HP1 := hid hp1
  have HP2 := hid hp2
  have HLO := hid hl
  obtain ⟨F, hF⟩ : ∃ F, fillF (ps.map L) (os.map L) (L s) = F := ⟨_, rfl⟩
  have HF := hid hF
  clear h hm ho hpv hps hp1 hp2 hF hl
  go_enter Tryz.func93, Tryz.ntmps93
  go_wp2_with fail
  go_loop [6, 7] (fun o i => ∃ (k : Nat) (oB : ByteArray), k ≤ s.size ∧ i = .int .i64 k ∧ o = .string oB ∧ oB.size ≤ 101 * k ∧ F = (fillF (ps.map L) (os.map L) ((L s).drop k)).map (L oB ++ ·)) (fun _ i => s.size - (intOf i).toNat)
  case atStart => exact ⟨0, ⟨#[]⟩, Nat.zero_le _, rfl, rfl, by decide, by rw [List.drop_zero, HF.out]; cases F <;> simp [L]⟩
  case round =>
    obtain ⟨k, oB, hk, rfl, rfl, hsz, ha⟩ := hrel
    have HA := hid ha
    clear ha
    by_cases hlt : k < s.size
    · have kd : decide ((k : Int) < s.size) = true := by simp; omega
      have hA := HA.out
      rw [L_drop s k hlt] at hA
      by_cases h92 : (s[k].toNat : Int) = 92
      · rw [fillF_stroke _ _ _ _ h92] at hA
        have k92 : ((s[k].toNat : Int) != 92) = false := by rw [bne_eq_false_iff_eq]; exact h92
        obtain ⟨r, hr⟩ : ∃ r, ahead ((L s).drop (k + 1)) (ps.map L) 0 none = r := ⟨_, rfl⟩
        have hao := ahead_ok ((L s).drop (k + 1)) ps 0 none (Nat.zero_le _) (fun i n h => by cases h) (fun i n h => by cases h)
        rw [List.drop_zero, hr] at hao
        rw [hr] at hA
        have HR := hid hr
        have HA := hid hA
        have HAO := hid hao
        clear hr hA h92 hao
        go_wp2_with fail
        go_loop [8, 9] (fun x i => ∃ (j : Nat) (cur : Option (Nat × Nat)) (z : Int), j ≤ ps.length ∧ i = .int .i64 j ∧ x = .int .i64 z ∧ whichOf cur = z ∧ CurOk ps cur ∧ ahead ((L s).drop (k + 1)) ((ps.drop j).map L) j cur = r) (fun _ i => ps.length - (intOf i).toNat)
        case atStart => exact ⟨0, none, -1, Nat.zero_le _, rfl, rfl, rfl, (fun i n h => by cases h), by rw [List.drop_zero]; exact HR.out⟩
        case round =>
          obtain ⟨j, cur, z, hj, rfl, rfl, hz, hok, ha⟩ := hrel
          have HB := hid ha
          have HZ := hid hz
          have HOK := hid hok
          clear ha hok hz
          by_cases hjl : j < ps.length
          · have kj : decide ((j : Int) < ps.length) = true := by simp; omega
            obtain ⟨bp, offp, cp, hv, hbl, ck⟩ := HST.out.cell j hjl
            injection hv with hv1 _ hv2
            subst hv1 hv2
            have hB := HB.out
            rw [ahead_at _ _ _ hjl] at hB
            have hks := HP1.out j hjl
            have ij0 : (0 : Int) ≤ (j : Int) := Int.natCast_nonneg _
            have ij1 : (j : Int) < (ps.length : Int) := by omega
            obtain ⟨pj, hpj⟩ : ∃ q, ps[j] = q := ⟨_, rfl⟩
            rw [hpj] at ck hB hks
            have HPJ := hid hpj
            clear hpj
            have hpi := pre_iff s pj (k + 1)
            rw [show k + 1 - s.size = 0 from by omega, Nat.add_zero] at hpi
            cases hpre : (L pj).isPrefixOf ((L s).drop (k + 1)) with
            | false =>
              rw [hpre, Bool.false_and, if_neg (by simp)] at hB
              have HB2 := hid hB
              by_cases hle : k + 1 + pj.size ≤ s.size
              · have kle : decide ((k : Int) + 1 + pj.size ≤ s.size) = true := by simp; omega
                have hne : ¬ L (s.extract (k + 1) (k + 1 + pj.size)) = L pj := fun e => by rw [hpi.2 ⟨hle, e⟩] at hpre; cases hpre
                have kb : ((s.extract (k + 1) (k + 1 + pj.size)).toList == pj.toList) = false := nbeq_of_L hne
                clear hB hpre hpi hne
                go_wp2_with fail
                go_round
                case rel => exact ⟨j + 1, cur, z, by omega, by go_num, rfl, HZ.out, HOK.out, HB2.out⟩
                case measure => simp [intOf]; omega
              · have kle : decide ((k : Int) + 1 + pj.size ≤ s.size) = false := by simp; omega
                clear hB hpre hpi
                go_wp2_with fail
                go_round
                case rel => exact ⟨j + 1, cur, z, by omega, by go_num, rfl, HZ.out, HOK.out, HB2.out⟩
                case measure => simp [intOf]; omega
            | true =>
              rw [hpre, Bool.true_and] at hB
              obtain ⟨hle, heq⟩ := hpi.1 hpre
              have kle : decide ((k : Int) + 1 + pj.size ≤ s.size) = true := by simp; omega
              have kb : ((s.extract (k + 1) (k + 1 + pj.size)).toList == pj.toList) = true := beq_of_L heq
              clear hpre hpi heq
              cases cur with
              | none =>
                obtain rfl : -1 = z := HZ.out
                have HB2 := hid (show ahead ((L s).drop (k + 1)) ((ps.drop (j + 1)).map L) (j + 1) (some (j, (L pj).length)) = r from hB)
                clear hB
                go_wp2_with fail
                go_round
                case rel => exact ⟨j + 1, some (j, (L pj).length), (j : Nat), by omega, by go_num, rfl, rfl, (fun i n h => by injection h with h; obtain ⟨rfl, rfl⟩ := pair_eq h; exact ⟨hjl, by rw [HPJ.out]; exact L_length _⟩), HB2.out⟩
                case measure => simp [intOf]; omega
              | some q =>
                obtain ⟨i, n⟩ := q
                obtain rfl : ((i : Nat) : Int) = z := HZ.out
                obtain ⟨hi, hn'⟩ := HOK.out i n rfl
                subst hn'
                obtain ⟨_, _, _, hvi, _, ci⟩ := HST.out.cell i hi
                injection hvi with hvi1 _ hvi2
                injection hvi1 with hvi1
                injection hvi1 with hvi3 hvi4
                subst hvi3 hvi4
                clear hvi2
                have his := HP1.out i hi
                have kw : decide (((i : Nat) : Int) < 0) = false := by simp
                have ii0 : (0 : Int) ≤ (i : Int) := Int.natCast_nonneg _
                have ii1 : (i : Int) < (ps.length : Int) := by omega
                have hB' : ahead ((L s).drop (k + 1)) ((ps.drop (j + 1)).map L) (j + 1) (if decide (ps[i].size < (L pj).length) then some (j, (L pj).length) else some (i, ps[i].size)) = r := hB
                rw [L_length] at hB'
                clear hB
                by_cases hgt : ps[i].size < pj.size
                · rw [decide_eq_true hgt, if_pos rfl] at hB'
                  have HB2 := hid hB'
                  have kg : decide (ps[i].size < pj.size) = true := by simpa using hgt
                  clear hB'
                  go_wp2_with fail
                  go_round
                  case rel => exact ⟨j + 1, some (j, pj.size), (j : Nat), by omega, by go_num, rfl, rfl, (fun i n h => by injection h with h; obtain ⟨rfl, rfl⟩ := pair_eq h; exact ⟨hjl, by rw [HPJ.out]⟩), HB2.out⟩
                  case measure => simp [intOf]; omega
                · rw [decide_eq_false hgt, if_neg (by simp)] at hB'
                  have HB2 := hid hB'
                  have kg : decide (ps[i].size < pj.size) = false := by simpa using hgt
                  clear hB'
                  go_wp2_with fail
                  go_round
                  case rel => exact ⟨j + 1, some (i, ps[i].size), (i : Nat), by omega, by go_num, rfl, rfl, HOK.out, HB2.out⟩
                  case measure => simp [intOf]; omega
          · have kj : decide ((j : Int) < ps.length) = false := by simp; omega
            have hrc : r = cur := by rw [← HB.out, show ps.drop j = [] from List.drop_eq_nil_of_le (by omega)]; rfl
            subst hrc
            cases r with
            | none =>
              obtain rfl : -1 = z := HZ.out
              have hfp : filledP (ps.map L) (os.map L) (L s) = (4, []) := by
                unfold filledP
                rw [show fillP (ps.map L) (os.map L) (L s).length (L s) = none from HF.out.trans HA.out]
              have HFP := hid hfp
              clear hfp
              go_wp2_with fail
              go_ret2
              unfold FilledPost
              rw [HFP.out]
              exact ⟨_, rfl, rfl, rfl⟩
            | some q =>
              obtain ⟨i, n⟩ := q
              obtain rfl : ((i : Nat) : Int) = z := HZ.out
              obtain ⟨hi, hn'⟩ := HOK.out i n rfl
              subst hn'
              have hnl := HAO.out.2 i _ rfl
              rw [List.length_drop, L_length] at hnl
              obtain ⟨bp, offp, cp, hvi, _, ci⟩ := HST.out.cell i hi
              injection hvi with hvi1 _ hvi2
              subst hvi1 hvi2
              have hio : i < os.length := by rw [HLO.out]; exact hi
              obtain ⟨bo, offo, co, hvo, _, cio⟩ := HSO.out.cell i hio
              injection hvo with hvo1 _ hvo2
              subst hvo1 hvo2
              have his := HP1.out i hi
              have hos := HP2.out i hio
              have kw : decide (((i : Nat) : Int) < 0) = false := by simp
              have ii0 : (0 : Int) ≤ (i : Int) := Int.natCast_nonneg _
              have ii1 : (i : Int) < (ps.length : Int) := by omega
              have ii2 : (i : Int) < (os.length : Int) := by omega
              have HE := hid (show F = (fillF (ps.map L) (os.map L) ((L s).drop (k + ps[i].size + 1))).map (L (oB ++ os[i]) ++ ·) by
                have h9 := HA.out
                simp only at h9
                rw [h9, List.drop_drop, Option.map_map, show k + 1 + ps[i].size = k + ps[i].size + 1 from by omega]
                congr 1
                funext x
                simp only [Function.comp, L_append, List.append_assoc]
                rw [show (os.map L).getD i [] = L os[i] from by rw [List.getD_eq_getElem?_getD, List.getElem?_map, List.getElem?_eq_getElem hio]; rfl])
              go_wp2_with fail
              go_round
              case rel =>
                refine ⟨k + ps[i].size + 1, _, by omega, by go_num, rfl, ?_, HE.out⟩
                rw [ByteArray.size_append]
                omega
              case measure => simp [intOf]; omega
      · rw [fillF_step _ _ _ _ h92] at hA
        have k92 : ((s[k].toNat : Int) != 92) = true := by rw [bne_iff_ne]; exact h92
        have HE := hid (show F = (fillF (ps.map L) (os.map L) ((L s).drop (k + 1))).map (L (oB ++ s.extract k (k + 1)) ++ ·) by
          rw [hA, Option.map_map]
          congr 1
          funext x
          simp only [Function.comp, L_append, L_extract]
          rw [take_snoc s k hlt, List.drop_append_of_le_length (by rw [List.length_take, L_length]; omega), List.drop_eq_nil_of_le (by rw [List.length_take, L_length]; omega)]
          simp)
        clear hA h92
        go_wp2_with fail
        go_round
        case rel =>
          refine ⟨k + 1, _, by omega, by go_num, rfl, ?_, HE.out⟩
          have h9 : (s.extract k (k + 1)).size ≤ 1 := by simp; omega
          rw [ByteArray.size_append]
          omega
        case measure => simp [intOf]; omega
    · have kd : decide ((k : Int) < s.size) = false := by simp; omega
      have HF2 := hid (show F = some (L oB) by
        rw [HA.out, L_end s k (by omega)]
        simp [fillF, fillP])
      have hfp : filledP (ps.map L) (os.map L) (L s) = if 80 < (L oB).length then (1, []) else (0, L oB) := by
        unfold filledP
        rw [show fillP (ps.map L) (os.map L) (L s).length (L s) = some (L oB) from HF.out.trans HF2.out]
      rw [L_length] at hfp
      by_cases h80 : 80 < oB.size
      · have k8 : decide ((80 : Int) < oB.size) = true := by simp; omega
        rw [if_pos h80] at hfp
        have HFP := hid hfp
        clear hfp
        go_wp2_with fail
        go_ret2
        unfold FilledPost
        rw [HFP.out]
        exact ⟨_, rfl, rfl, rfl⟩
      · have k8 : decide ((80 : Int) < oB.size) = false := by simp; omega
        rw [if_neg h80] at hfp
        have HFP := hid hfp
        clear hfp
        go_wp2_with fail
        go_ret2
        unfold FilledPost
        rw [HFP.out]
        exact ⟨_, rfl, rfl, rfl⟩

end Go.Proofs.YtcepppilgncdmaaGreatDoor

namespace Go.Proofs.YtcepppilgncdmaaGreatDoor
open Go.RowKit
attribute [local go_sem ↓] Go.wp_at_zero Go.wp_at_succ

/-- What a call answers: the text's reader is as it was. -/
def CalPost (B be bt wi k : Nat) (r : Int × StP) (w : World) (e : Ending) (w' : World) : Prop :=
  e = .returned (.int .i64 r.1) ∧ Fr B [] w w' ∧ NumAt w' be bt wi k ∧ (r.1 = 0 → ExpSt w' B be bt wi k r.2 ∧ StOk r.2 k)
/-- A macro that is called with so many more to be called within one another. -/
def CallOk (n : Nat) : Prop := ∀ (w : World) (B be bt wi k : Nat) (vm vn vl : Value) (ms : List MacV) (ns : List (ByteArray × Int)) (outs : List (ByteArray × Nat)) (calls i g cap : Nat) (lb op : ByteArray) (va : Option Addr) (vc : Nat) (os : List ByteArray) (W : WordsP) (C : Nat) (hi : i < ms.length),
  wi + n = 8 → ExpAt w B be bt wi k vm vn vl ms ns outs calls → StOk (stOf ms ns outs calls) k → vm = .slice (some ⟨g, 0, none⟩) ms.length cap → PartsV w C lb op (.slice va os.length vc) os W → WOk W → MaxAt w → 0 < B → B ≤ w.heap.size → B ≤ bt →
  Calls Tryz.prog 109 #[.pointer (some ⟨be, 0, none⟩), .pointer (some ⟨g, i * 3, none⟩), .agg #[.string lb, .string op, .slice va os.length vc]] w (CalPost B be bt wi k (callN n (plainM ms[i]) W k (stOf ms ns outs calls)) w)

/-- What becomes of a line that is no condition. -/
def otherP (call : MacP → WordsP → Nat → StP → Int × StP) (wi k : Nat) (W : WordsP) (st : StP) (ls : List (List UInt8)) : Int × Nat × StP :=
  if W.op = opMacro then macR wi k W st ls
  else if W.op = opEnd then (2, k, st)
  else if W.op = opSet then ((setP W k st).1, k, (setP W k st).2)
  else match findM st.macros W.op with
    | some m => ((call m W k st).1, k, (call m W k st).2)
    | none => ((leaveP W k st).1, k, (leaveP W k st).2)
def OthPost (B be bt wi : Nat) (v lv : Value) (ls : List ByteArray) (rest : List Value) (opens : List OpenP) (r : Int × Nat × StP) (w : World) (e : Ending) (w' : World) : Prop :=
  e = .returned (.int .i64 r.1) ∧ Fr B (frM wi bt) w w' ∧ NumAt w' be bt wi r.2.1 ∧ (r.1 = 0 → ExpSt w' B be bt wi r.2.1 r.2.2 ∧ StOk r.2.2 r.2.1 ∧ (wi = 0 → ReadAt w' B 74 bt v lv ls r.2.1 rest opens))

theorem ReadAt.frE {w w' : World} {B bm : Nat} {v lv : Value} {ls : List ByteArray} {k : Nat} {rest : List Value} {opens : List OpenP} {t : Nat} (h : ReadAt w B t bm v lv ls k rest opens) (ht : eT t = false) (hf : Fr B [] w w') : ReadAt w' B t bm v lv ls k rest opens :=
  h.fr hf ht rfl rfl (by simp) (fun _ _ => by simp)

set_option maxRecDepth 100000 in
set_option maxHeartbeats 800000 in
theorem doOther_any (n : Nat) (hcall : CallOk n) (w : World) (B be bt wi k : Nat) (st : StP) (v lv : Value) (ls : List ByteArray) (rest : List Value) (opens : List OpenP) (lb op : ByteArray) (va : Option Addr) (vc : Nat) (os : List ByteArray) (W : WordsP) (C : Nat) (hwn : wi + n = 8)
    (h : ExpSt w B be bt wi k st) (hra : wi = 0 → ReadAt w B 74 bt v lv ls k rest opens) (hp : PartsV w C lb op (.slice va os.length vc) os W) (hW : WOk W) (hls : ∀ i (hi : i < ls.length), ls[i].size ≤ 100) (hok : StOk st k) (hm : MaxAt w) (hgB : 0 < B) (hB : B ≤ w.heap.size) (hbt : B ≤ bt) :
    Calls Tryz.prog 71 #[.pointer (some ⟨be, 0, none⟩), .agg #[.string lb, .string op, .slice va os.length vc]] w (OthPost B be bt wi v lv ls rest opens (otherP (callN n) wi k W st (ls.map L)) w) := by
  obtain ⟨q1, q2, q3⟩ := hW.parts hp
  have hb0 : Below w.heap.size w (w.alloc (.cells #[.string lb, .string op, .slice va os.length vc] 101)) := (Below.refl _ _).alloc (Nat.le_refl _) _
  have HS := hid (h.below hb0)
  have HP := hid (hp.below hb0)
  have HF0 := hid (show Fr B [] w (w.alloc (.cells #[.string lb, .string op, .slice va os.length vc] 101)) from Fr.of_below hb0)
  have HF := hid (show Fr B (frM wi bt) w (w.alloc (.cells #[.string lb, .string op, .slice va os.length vc] 101)) from Fr.of_below hb0)
  have HBX := hid (RowT.new w 101 [.string lb, .string op, .slice va os.length vc])
  have HM := hid (hm.below hb0)
  have HRA := hid (fun h0 => (hra h0).below hb0)
  have HQ2 := hid q2
  have HLS := hid hls
  have HWK := hid hW
  have hb5 := hW.bd.2.2.2.2
  have hB0 : B ≤ (w.alloc (.cells #[.string lb, .string op, .slice va os.length vc] 101)).heap.size := Nat.le_trans hB hb0.size
  have HOK := hid hok
  obtain ⟨r, hr⟩ : ∃ r, otherP (callN n) wi k W st (ls.map L) = r := ⟨_, rfl⟩
  rw [hr]
  unfold otherP at hr
  have HOP := hid hp.op
  clear h hp hb0 hm hra hls hok hW q2
  have y0 := HBX.out.cell 0 (by simp)
  have y1 := HBX.out.cell 1 (by simp)
  have y2 := HBX.out.cell 2 (by simp)
  by_cases h1 : W.op = opMacro
  · rw [if_pos h1] at hr
    have k1 : (op.toList == [46, 109, 97, 99, 114, 111]) = true := op_is (by rw [HOP.out, h1]; rfl)
    have HR := hid hr
    clear hr h1
    go_enter Tryz.func71, Tryz.ntmps71
    go_wp2_with fail
    refine (doMacro_any _ B be bt wi k st v lv ls rest opens lb op va vc os W C HS.out HRA.out HP.out (by omega) (fun i hi => by have := HQ2.out i hi; omega) HLS.out HOK.out (by omega) HM.out hgB hB0 hbt).mono ?_
    rw [HR.out]
    rintro e w1 ⟨rfl, hf1, hn1, hs1⟩
    go_wp2
    go_ret
    refine ⟨rfl, HF.out.trans hf1, hn1, fun h0 => ⟨(hs1 h0).1, ?_, fun _ => (hs1 h0).2⟩⟩
    rw [← HR.out] at h0 ⊢
    by_cases hw0 : 0 < wi
    · unfold macR at h0
      rw [if_pos hw0] at h0
      cases h0
    · have hr0 := HRA.out (by omega)
      refine macR_ok HWK.out HOK.out (by rw [List.length_map]; exact hr0.le) (by rw [List.length_map]; exact hr0.few) (fun l hl => ?_) h0
      obtain ⟨x, hx, rfl⟩ := List.mem_map.1 hl
      obtain ⟨i, hi, rfl⟩ := List.getElem_of_mem hx
      rw [L_length]
      exact HLS.out i hi
  · rw [if_neg h1] at hr
    have k1 : (op.toList == [46, 109, 97, 99, 114, 111]) = false := op_not (by rw [HOP.out]; exact h1)
    clear h1
    by_cases h2 : W.op = opEnd
    · rw [if_pos h2] at hr
      subst hr
      have k2 : (op.toList == [46, 101, 110, 100]) = true := op_is (by rw [HOP.out, h2]; rfl)
      clear h2
      go_enter Tryz.func71, Tryz.ntmps71
      go_wp2
      go_ret
      exact ⟨rfl, HF.out, HS.out.num, fun h => by cases h⟩
    · rw [if_neg h2] at hr
      have k2 : (op.toList == [46, 101, 110, 100]) = false := op_not (by rw [HOP.out]; exact h2)
      clear h2
      by_cases h3 : W.op = opSet
      · rw [if_pos h3] at hr
        have k3 : (op.toList == [46, 115, 101, 116]) = true := op_is (by rw [HOP.out, h3]; rfl)
        have HR := hid hr
        clear hr h3
        go_enter Tryz.func71, Tryz.ntmps71
        go_wp2_with fail
        refine (doSet_any _ B be bt wi k st lb op va vc os W C HS.out HP.out hb5 (by omega) (fun i hi => by have := HQ2.out i hi; omega) HOK.out hB0).mono ?_
        rintro e w1 ⟨rfl, hf1, hs1, hn1⟩
        go_wp2
        go_ret
        rw [← HR.out]
        exact ⟨rfl, (HF0.out.trans hf1).mono (fun _ h => by cases h), hn1, fun h0 => ⟨hs1 h0, setP_ok HOK.out h0, fun hw => (HRA.out hw).frE rfl hf1⟩⟩
      · rw [if_neg h3] at hr
        have k3 : (op.toList == [46, 115, 101, 116]) = false := op_not (by rw [HOP.out]; exact h3)
        have HR := hid hr
        clear hr h3
        obtain ⟨vm, vn, vl, ms, ns, outs, calls, hx, hst⟩ := HS.out
        subst hst
        have hml : ms.length ≤ 3001 := by
          have h1 := HOK.out.few
          have h2 := HOK.out.taken
          simp only [stOf, List.length_map] at h1
          omega
        have HX := hid hx
        clear hx
        go_enter Tryz.func71, Tryz.ntmps71
        go_wp2_with fail
        refine (find_any' _ B be bt wi k vm vn vl ms ns outs calls HX.out hml op).mono ?_
        rintro e w1 ⟨hw1, hcase⟩
        subst hw1
        rcases hcase with ⟨hf, rfl⟩ | ⟨i, g, cap, hi, hf, hvm, rfl⟩
        · have HR2 := hid (show ((leaveP W k (stOf ms ns outs calls)).1, k, (leaveP W k (stOf ms ns outs calls)).2) = r by
            rw [← HR.out]
            have hf' : findM (stOf ms ns outs calls).macros W.op = none := by rw [← HOP.out]; exact hf
            rw [hf'])
          clear hf
          go_wp2_with fail
          refine (leave_any _ B be bt wi k (stOf ms ns outs calls) lb op va vc os W C HS.out HP.out hb5 (by omega) HOK.out.out hB0).mono ?_
          rintro e w2 ⟨rfl, hf1, hs1, hn1⟩
          go_wp2
          go_ret
          rw [← HR2.out]
          exact ⟨rfl, (HF0.out.trans hf1).mono (fun _ h => by cases h), hn1, fun h0 => ⟨hs1 h0, leaveP_ok HOK.out h0, fun hw => (HRA.out hw).frE rfl hf1⟩⟩
        · have HR2 := hid (show ((callN n (plainM ms[i]) W k (stOf ms ns outs calls)).1, k, (callN n (plainM ms[i]) W k (stOf ms ns outs calls)).2) = r by
            rw [← HR.out]
            have hf' : findM (stOf ms ns outs calls).macros W.op = some (plainM ms[i]) := by rw [← HOP.out]; exact hf
            rw [hf'])
          clear hf
          go_wp2_with fail
          refine (hcall _ B be bt wi k vm vn vl ms ns outs calls i g cap lb op va vc os W C hi hwn HX.out HOK.out hvm HP.out HWK.out HM.out hgB hB0 hbt).mono ?_
          rintro e w2 ⟨rfl, hf1, hn1, hs1⟩
          go_wp2
          go_ret
          rw [← HR2.out]
          exact ⟨rfl, (HF0.out.trans hf1).mono (fun _ h => by cases h), hn1, fun h0 => ⟨(hs1 h0).1, (hs1 h0).2, fun hw => (HRA.out hw).frE rfl hf1⟩⟩

end Go.Proofs.YtcepppilgncdmaaGreatDoor
