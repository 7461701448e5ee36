/-
  What the program does with a line, and with all lines of a block (package expand).
  What the program does with one line (package expand).
-/
import Derived.Test.YtcepppilgncdmaaGreatDoorBA23
namespace Go.Proofs.YtcepppilgncdmaaGreatDoor
open Go.RowKit
attribute [local go_sem ↓] Go.wp_at_zero Go.wp_at_succ

/-- What a call answers: the text's reader is as it was. -/
def CalPost (B be bt wi k : Nat) (r : Int × StP) (w : World) (e : Ending) (w' : World) : Prop :=
  e = .returned (.int .i64 r.1) ∧ Fr B [] w w' ∧ NumAt w' be bt wi k ∧ (r.1 = 0 → ExpSt w' B be bt wi k r.2 ∧ StOk r.2 k)
/-- A macro that is called with so many more to be called within one another. -/
def CallOk (n : Nat) : Prop := ∀ (w : World) (B be bt wi k : Nat) (vm vn vl : Value) (ms : List MacV) (ns : List (ByteArray × Int)) (outs : List (ByteArray × Nat)) (calls i g cap : Nat) (lb op : ByteArray) (va : Option Addr) (vc : Nat) (os : List ByteArray) (W : WordsP) (C : Nat) (hi : i < ms.length),
  wi + n = 8 → ExpAt w B be bt wi k vm vn vl ms ns outs calls → StOk (stOf ms ns outs calls) k → vm = .slice (some ⟨g, 0, none⟩) ms.length cap → PartsV w C lb op (.slice va os.length vc) os W → WOk W → MaxAt w → 0 < B → B ≤ w.heap.size → B ≤ bt →
  Calls Tryz.prog 109 #[.pointer (some ⟨be, 0, none⟩), .pointer (some ⟨g, i * 3, none⟩), .agg #[.string lb, .string op, .slice va os.length vc]] w (CalPost B be bt wi k (callN n (plainM ms[i]) W k (stOf ms ns outs calls)) w)

/-- What becomes of a line that is no condition. -/
def otherP (call : MacP → WordsP → Nat → StP → Int × StP) (wi k : Nat) (W : WordsP) (st : StP) (ls : List (List UInt8)) : Int × Nat × StP :=
  if W.op = opMacro then macR wi k W st ls
  else if W.op = opEnd then (2, k, st)
  else if W.op = opSet then ((setP W k st).1, k, (setP W k st).2)
  else match findM st.macros W.op with
    | some m => ((call m W k st).1, k, (call m W k st).2)
    | none => ((leaveP W k st).1, k, (leaveP W k st).2)
def OthPost (B be bt wi : Nat) (v lv : Value) (ls : List ByteArray) (rest : List Value) (opens : List OpenP) (r : Int × Nat × StP) (w : World) (e : Ending) (w' : World) : Prop :=
  e = .returned (.int .i64 r.1) ∧ Fr B (frM wi bt) w w' ∧ NumAt w' be bt wi r.2.1 ∧ (r.1 = 0 → ExpSt w' B be bt wi r.2.1 r.2.2 ∧ StOk r.2.2 r.2.1 ∧ (wi = 0 → ReadAt w' B 74 bt v lv ls r.2.1 rest opens))

theorem ReadAt.frE {w w' : World} {B bm : Nat} {v lv : Value} {ls : List ByteArray} {k : Nat} {rest : List Value} {opens : List OpenP} {t : Nat} (h : ReadAt w B t bm v lv ls k rest opens) (ht : eT t = false) (hf : Fr B [] w w') : ReadAt w' B t bm v lv ls k rest opens :=
  h.fr hf ht rfl rfl (by simp) (fun _ _ => by simp)

set_option maxRecDepth 100000 in
set_option maxHeartbeats 800000 in
theorem doOther_any (n : Nat) (hcall : CallOk n) (w : World) (B be bt wi k : Nat) (st : StP) (v lv : Value) (ls : List ByteArray) (rest : List Value) (opens : List OpenP) (lb op : ByteArray) (va : Option Addr) (vc : Nat) (os : List ByteArray) (W : WordsP) (C : Nat) (hwn : wi + n = 8)
    (h : ExpSt w B be bt wi k st) (hra : wi = 0 → ReadAt w B 74 bt v lv ls k rest opens) (hp : PartsV w C lb op (.slice va os.length vc) os W) (hW : WOk W) (hls : ∀ i (hi : i < ls.length), ls[i].size ≤ 100) (hok : StOk st k) (hm : MaxAt w) (hgB : 0 < B) (hB : B ≤ w.heap.size) (hbt : B ≤ bt) :
    Calls Tryz.prog 71 #[.pointer (some ⟨be, 0, none⟩), .agg #[.string lb, .string op, .slice va os.length vc]] w (OthPost B be bt wi v lv ls rest opens (otherP (callN n) wi k W st (ls.map L)) w) := by
  obtain ⟨q1, q2, q3⟩ := hW.parts hp
  have hb0 : Below w.heap.size w (w.alloc (.cells #[.string lb, .string op, .slice va os.length vc] 101)) := (Below.refl _ _).alloc (Nat.le_refl _) _
  have HS := hid (h.below hb0)
  have HP := hid (hp.below hb0)
  have HF0 := hid (show Fr B [] w (w.alloc (.cells #[.string lb, .string op, .slice va os.length vc] 101)) from Fr.of_below hb0)
  have HF := hid (show Fr B (frM wi bt) w (w.alloc (.cells #[.string lb, .string op, .slice va os.length vc] 101)) from Fr.of_below hb0)
  have HBX := hid (RowT.new w 101 [.string lb, .string op, .slice va os.length vc])
  have HM := hid (hm.below hb0)
  have HRA := hid (fun h0 => (hra h0).below hb0)
  have HQ2 := hid q2
  have HLS := hid hls
  have HWK := hid hW
  have hb5 := hW.bd.2.2.2.2
  have hB0 : B ≤ (w.alloc (.cells #[.string lb, .string op, .slice va os.length vc] 101)).heap.size := Nat.le_trans hB hb0.size
  have HOK := hid hok
  obtain ⟨r, hr⟩ : ∃ r, otherP (callN n) wi k W st (ls.map L) = r := ⟨_, rfl⟩
  rw [hr]
  unfold otherP at hr
  have HOP := hid hp.op
  clear h hp hb0 hm hra hls hok hW q2
  have y0 := HBX.out.cell 0 (by simp)
  have y1 := HBX.out.cell 1 (by simp)
  have y2 := HBX.out.cell 2 (by simp)
  by_cases h1 : W.op = opMacro
  · rw [if_pos h1] at hr
    have k1 : (op.toList == [46, 109, 97, 99, 114, 111]) = true := op_is (by rw [HOP.out, h1]; rfl)
    have HR := hid hr
    clear hr h1
    go_enter Tryz.func71, Tryz.ntmps71
    go_wp2_with fail
    refine (doMacro_any _ B be bt wi k st v lv ls rest opens lb op va vc os W C HS.out HRA.out HP.out (by omega) (fun i hi => by have := HQ2.out i hi; omega) HLS.out HOK.out (by omega) HM.out hgB hB0 hbt).mono ?_
    rw [HR.out]
    rintro e w1 ⟨rfl, hf1, hn1, hs1⟩
    go_wp2
    go_ret
    refine ⟨rfl, HF.out.trans hf1, hn1, fun h0 => ⟨(hs1 h0).1, ?_, fun _ => (hs1 h0).2⟩⟩
    rw [← HR.out] at h0 ⊢
    by_cases hw0 : 0 < wi
    · unfold macR at h0
      rw [if_pos hw0] at h0
      cases h0
    · have hr0 := HRA.out (by omega)
      refine macR_ok HWK.out HOK.out (by rw [List.length_map]; exact hr0.le) (by rw [List.length_map]; exact hr0.few) (fun l hl => ?_) h0
      obtain ⟨x, hx, rfl⟩ := List.mem_map.1 hl
      obtain ⟨i, hi, rfl⟩ := List.getElem_of_mem hx
      rw [L_length]
      exact HLS.out i hi
  · rw [if_neg h1] at hr
    have k1 : (op.toList == [46, 109, 97, 99, 114, 111]) = false := op_not (by rw [HOP.out]; exact h1)
    clear h1
    by_cases h2 : W.op = opEnd
    · rw [if_pos h2] at hr
      subst hr
      have k2 : (op.toList == [46, 101, 110, 100]) = true := op_is (by rw [HOP.out, h2]; rfl)
      clear h2
      go_enter Tryz.func71, Tryz.ntmps71
      go_wp2
      go_ret
      exact ⟨rfl, HF.out, HS.out.num, fun h => by cases h⟩
    · rw [if_neg h2] at hr
      have k2 : (op.toList == [46, 101, 110, 100]) = false := op_not (by rw [HOP.out]; exact h2)
      clear h2
      by_cases h3 : W.op = opSet
      · rw [if_pos h3] at hr
        have k3 : (op.toList == [46, 115, 101, 116]) = true := op_is (by rw [HOP.out, h3]; rfl)
        have HR := hid hr
        clear hr h3
        go_enter Tryz.func71, Tryz.ntmps71
        go_wp2_with fail
        refine (doSet_any _ B be bt wi k st lb op va vc os W C HS.out HP.out hb5 (by omega) (fun i hi => by have := HQ2.out i hi; omega) HOK.out hB0).mono ?_
        rintro e w1 ⟨rfl, hf1, hs1, hn1⟩
        go_wp2
        go_ret
        rw [← HR.out]
        exact ⟨rfl, (HF0.out.trans hf1).mono (fun _ h => by cases h), hn1, fun h0 => ⟨hs1 h0, setP_ok HOK.out h0, fun hw => (HRA.out hw).frE rfl hf1⟩⟩
      · rw [if_neg h3] at hr
        have k3 : (op.toList == [46, 115, 101, 116]) = false := op_not (by rw [HOP.out]; exact h3)
        have HR := hid hr
        clear hr h3
        obtain ⟨vm, vn, vl, ms, ns, outs, calls, hx, hst⟩ := HS.out
        subst hst
        have hml : ms.length ≤ 3001 := by
          have h1 := HOK.out.few
          have h2 := HOK.out.taken
          simp only [stOf, List.length_map] at h1
          omega
        have HX := hid hx
        clear hx
        go_enter Tryz.func71, Tryz.ntmps71
        go_wp2_with fail
        refine (find_any' _ B be bt wi k vm vn vl ms ns outs calls HX.out hml op).mono ?_
        rintro e w1 ⟨hw1, hcase⟩
        subst hw1
        rcases hcase with ⟨hf, rfl⟩ | ⟨i, g, cap, hi, hf, hvm, rfl⟩
        · have HR2 := hid (show ((leaveP W k (stOf ms ns outs calls)).1, k, (leaveP W k (stOf ms ns outs calls)).2) = r by
            rw [← HR.out]
            have hf' : findM (stOf ms ns outs calls).macros W.op = none := by rw [← HOP.out]; exact hf
            rw [hf'])
          clear hf
          go_wp2_with fail
          refine (leave_any _ B be bt wi k (stOf ms ns outs calls) lb op va vc os W C HS.out HP.out hb5 (by omega) HOK.out.out hB0).mono ?_
          rintro e w2 ⟨rfl, hf1, hs1, hn1⟩
          go_wp2
          go_ret
          rw [← HR2.out]
          exact ⟨rfl, (HF0.out.trans hf1).mono (fun _ h => by cases h), hn1, fun h0 => ⟨hs1 h0, leaveP_ok HOK.out h0, fun hw => (HRA.out hw).frE rfl hf1⟩⟩
        · have HR2 := hid (show ((callN n (plainM ms[i]) W k (stOf ms ns outs calls)).1, k, (callN n (plainM ms[i]) W k (stOf ms ns outs calls)).2) = r by
            rw [← HR.out]
            have hf' : findM (stOf ms ns outs calls).macros W.op = some (plainM ms[i]) := by rw [← HOP.out]; exact hf
            rw [hf'])
          clear hf
          go_wp2_with fail
          refine (hcall _ B be bt wi k vm vn vl ms ns outs calls i g cap lb op va vc os W C hi hwn HX.out HOK.out hvm HP.out HWK.out HM.out hgB hB0 hbt).mono ?_
          rintro e w2 ⟨rfl, hf1, hn1, hs1⟩
          go_wp2
          go_ret
          rw [← HR2.out]
          exact ⟨rfl, (HF0.out.trans hf1).mono (fun _ h => by cases h), hn1, fun h0 => ⟨(hs1 h0).1, (hs1 h0).2, fun hw => (HRA.out hw).frE rfl hf1⟩⟩

end Go.Proofs.YtcepppilgncdmaaGreatDoor

namespace Go.Proofs.YtcepppilgncdmaaGreatDoor
open Go.RowKit
attribute [local go_sem ↓] Go.wp_at_zero Go.wp_at_succ

def doP (call : MacP → WordsP → Nat → StP → Int × StP) (wi k : Nat) (W : WordsP) (opens : List OpenP) (st : StP) (ls : List (List UInt8)) : Int × Nat × List OpenP × StP :=
  if W.op = opIf then ((ifP W opens st).1, k, (ifP W opens st).2, st)
  else if W.op = opElse then ((elseP W opens).1, k, (elseP W opens).2, st)
  else if W.op = opEndif then ((endifP W opens).1, k, (endifP W opens).2, st)
  else if overP opens = true then (0, k, opens, st)
  else ((otherP call wi k W st ls).1, (otherP call wi k W st ls).2.1, opens, (otherP call wi k W st ls).2.2)
/-- The text's reader, where no macro is called; or a macro's. -/
def Kind (wi bt k T t bm j : Nat) : Prop := (wi = 0 ∧ T = 69 ∧ t = 74 ∧ bm = bt ∧ j = k) ∨ (0 < wi ∧ T = 207 ∧ t = 209)
theorem Kind.rd {wi bt k T t bm j : Nat} (h : Kind wi bt k T t bm j) : Rd T t := by
  rcases h with ⟨_, h1, h2, _⟩ | ⟨_, h1, h2⟩
  · exact Or.inl ⟨h1, h2⟩
  · exact Or.inr ⟨h1, h2⟩
def nextJ (wi k j : Nat) : Nat := if wi = 0 then k else j
theorem Kind.same {wi bt k T t bm j : Nat} (h : Kind wi bt k T t bm j) : nextJ wi k j = j := by
  unfold nextJ
  rcases h with ⟨h0, _, _, _, h1⟩ | ⟨h0, _⟩
  · rw [if_pos h0, h1]
  · rw [if_neg (by omega)]
def DoPost (B be bt wi t bm j : Nat) (v lv : Value) (ls : List ByteArray) (rest : List Value) (r : Int × Nat × List OpenP × StP) (w : World) (e : Ending) (w' : World) : Prop :=
  e = .returned (.int .i64 r.1) ∧ Fr B (condM bm v) w w' ∧ NumAt w' be bt wi r.2.1 ∧
  (r.1 = 0 → ExpSt w' B be bt wi r.2.1 r.2.2.2 ∧ StOk r.2.2.2 r.2.1 ∧ ∃ v', (∀ g, v'.ownBlock = some g → v.ownBlock = some g ∨ w.heap.size ≤ g) ∧ ReadAt w' B t bm v' lv ls (nextJ wi r.2.1 j) rest r.2.2.1)

theorem IfPost.doPost {B be bt wi k t bm T j : Nat} {v lv : Value} {ls : List ByteArray} {rest : List Value} {st : StP} {r : Int × List OpenP} {w0 w : World} {e : Ending} {w' : World} (h : IfPost B be bt wi k t bm v (lv :: .int .i64 (j : Nat) :: rest) st r w0 e w') (hb : Below w.heap.size w w0) (hk : Kind wi bt k T t bm j) (hok : StOk st k) {opens : List OpenP} (hra : ReadAt w0 B t bm v lv ls j rest opens) :
    DoPost B be bt wi t bm j v lv ls rest (r.1, k, r.2, st) w e w' := by
  obtain ⟨h1, h2, h3, h4⟩ := h
  refine ⟨h1, (Fr.of_below hb).trans h2.to, h4, fun h0 => ?_⟩
  obtain ⟨h5, v', h6, h7⟩ := h3 h0
  refine ⟨h5, hok, v', fun g hg => (h6 g hg).imp id (fun h => Nat.le_trans hb.size h), ?_⟩
  show ReadAt w' B t bm v' lv ls (nextJ wi k j) rest r.2
  rw [hk.same]
  exact ⟨h7, hra.strs.frc h2, hra.le, hra.few⟩

set_option maxRecDepth 100000 in
set_option maxHeartbeats 800000 in
theorem do_any (n : Nat) (hcall : CallOk n) (w : World) (B be bt wi k T t bm j : Nat) (st : StP) (v lv : Value) (ls : List ByteArray) (rest : List Value) (opens : List OpenP) (lb op : ByteArray) (va : Option Addr) (vc : Nat) (os : List ByteArray) (W : WordsP) (C : Nat) (hwn : wi + n = 8)
    (hk : Kind wi bt k T t bm j) (h : ExpSt w B be bt wi k st) (hra : ReadAt w B t bm v lv ls j rest opens) (hch : Chain opens) (hp : PartsV w C lb op (.slice va os.length vc) os W) (hW : WOk W) (hls : ∀ i (hi : i < ls.length), ls[i].size ≤ 100) (hok : StOk st k) (hm : MaxAt w) (hgB : 0 < B) (hB : B ≤ w.heap.size) (hbt : B ≤ bt) (hbm : B ≤ bm) :
    Calls Tryz.prog 46 #[.pointer (some ⟨be, 0, none⟩), .iface T (.pointer (some ⟨bm, 0, none⟩)), .agg #[.string lb, .string op, .slice va os.length vc]] w (DoPost B be bt wi t bm j v lv ls rest (doP (callN n) wi k W opens st (ls.map L)) w) := by
  obtain ⟨q1, q2, q3⟩ := hW.parts hp
  have hrd := hk.rd
  obtain ⟨htc, hts, htp, hrt, het⟩ := hrd.facts
  have hb0 : Below w.heap.size w (w.alloc (.cells #[.string lb, .string op, .slice va os.length vc] 101)) := (Below.refl _ _).alloc (Nat.le_refl _) _
  have HS := hid (h.below hb0)
  have HP := hid (hp.below hb0)
  have HB0 := hid hb0
  have HBX := hid (RowT.new w 101 [.string lb, .string op, .slice va os.length vc])
  have HM := hid (hm.below hb0)
  have HRA := hid (hra.below hb0)
  have HQ2 := hid q2
  have HLS := hid hls
  have HWK := hid hW
  have HCH := hid hch
  have HBR := hid hp.bare
  have hB0 : B ≤ (w.alloc (.cells #[.string lb, .string op, .slice va os.length vc] 101)).heap.size := Nat.le_trans hB hb0.size
  have HOK := hid hok
  have HK := hid hk
  have hnl : st.names.length ≤ 1000 := by have h1 := hok.names; have h2 := hok.out; omega
  have m2 := fun w => ask_passing hrd bm w
  have m4 := fun w => ask_turn hrd bm w
  have m5 := fun w => ask_finish hrd bm w
  obtain ⟨r, hr⟩ : ∃ r, doP (callN n) wi k W opens st (ls.map L) = r := ⟨_, rfl⟩
  rw [hr]
  unfold doP at hr
  have HOP := hid hp.op
  clear h hp hb0 hm hra hls hok hW q2 hch hk
  have y0 := HBX.out.cell 0 (by simp)
  have y1 := HBX.out.cell 1 (by simp)
  have y2 := HBX.out.cell 2 (by simp)
  by_cases h1 : W.op = opIf
  · rw [if_pos h1] at hr
    have k1 : (op.toList == [46, 105, 102]) = true := op_is (by rw [HOP.out, h1]; rfl)
    subst hr
    clear h1
    go_enter Tryz.func46, Tryz.ntmps46
    go_wp2_with fail
    refine (doIf_any _ B be bt wi k T t bm st v lv j rest opens lb op va vc os W C hrd HS.out HRA.out.cond HP.out (fun i hi => by have := HQ2.out i hi; omega) hnl hB0 hbm).mono ?_
    rintro e w1 hpost
    obtain ⟨hv1, hrest⟩ := hpost
    subst hv1
    go_wp2
    go_ret
    exact IfPost.doPost ⟨rfl, hrest⟩ HB0.out HK.out HOK.out HRA.out
  · rw [if_neg h1] at hr
    have k1 : (op.toList == [46, 105, 102]) = false := op_not (by rw [HOP.out]; exact h1)
    clear h1
    by_cases h2 : W.op = opElse
    · rw [if_pos h2] at hr
      have k2 : (op.toList == [46, 101, 108, 115, 101]) = true := op_is (by rw [HOP.out, h2]; rfl)
      subst hr
      clear h2
      go_enter Tryz.func46, Tryz.ntmps46
      go_wp2_with fail
      refine (turn_any _ B t bm v _ opens lb op va os.length vc W (elseP W opens).1 (elseP W opens).2 HRA.out.cond HCH.out htc (by unfold maxLen; omega) HBR.out.symm rfl).mono ?_
      rintro e w1 hpost
      have hif := CondPost.ifPost (r := elseP W opens) hpost HS.out HRA.out.cond
      obtain ⟨hv1, hrest⟩ := hif
      subst hv1
      clear hpost
      go_wp2
      go_ret
      exact IfPost.doPost ⟨rfl, hrest⟩ HB0.out HK.out HOK.out HRA.out
    · rw [if_neg h2] at hr
      have k2 : (op.toList == [46, 101, 108, 115, 101]) = false := op_not (by rw [HOP.out]; exact h2)
      clear h2
      by_cases h3 : W.op = opEndif
      · rw [if_pos h3] at hr
        have k3 : (op.toList == [46, 101, 110, 100, 105, 102]) = true := op_is (by rw [HOP.out, h3]; rfl)
        subst hr
        clear h3
        go_enter Tryz.func46, Tryz.ntmps46
        go_wp2_with fail
        refine (finish_any _ B t bm v _ opens lb op va os.length vc W (endifP W opens).1 (endifP W opens).2 HRA.out.cond HCH.out htc hrt hbm (by unfold maxLen; omega) HBR.out.symm rfl).mono ?_
        rintro e w1 hpost
        have hif := CondPost.ifPost (r := endifP W opens) hpost HS.out HRA.out.cond
        obtain ⟨hv1, hrest⟩ := hif
        subst hv1
        clear hpost
        go_wp2
        go_ret
        exact IfPost.doPost ⟨rfl, hrest⟩ HB0.out HK.out HOK.out HRA.out
      · rw [if_neg h3] at hr
        have k3 : (op.toList == [46, 101, 110, 100, 105, 102]) = false := op_not (by rw [HOP.out]; exact h3)
        have HR := hid hr
        clear h3 hr
        go_enter Tryz.func46, Tryz.ntmps46
        go_wp2_with fail
        refine (passing_any _ B t bm v _ opens HRA.out.cond).mono ?_
        cases hov : overP opens with
        | true =>
          rintro e w1 ⟨rfl, rfl⟩
          have hr := HR.out
          rw [if_pos hov] at hr
          subst hr
          clear hov
          go_wp2
          go_ret
          refine ⟨rfl, Fr.of_below HB0.out, HS.out.num, fun _ => ⟨HS.out, HOK.out, v, fun g hg => Or.inl hg, ?_⟩⟩
          show ReadAt _ B t bm v lv ls (nextJ wi k j) rest opens
          rw [HK.out.same]
          exact HRA.out
        | false =>
          rintro e w1 ⟨rfl, rfl⟩
          have hr := HR.out
          rw [if_neg (by rw [hov]; simp)] at hr
          have HR2 := hid hr
          clear hov hr
          go_wp2_with fail
          refine (doOther_any n hcall _ B be bt wi k st v lv ls rest opens lb op va vc os W C hwn HS.out (fun hw => ?_) HP.out HWK.out HLS.out HOK.out HM.out hgB hB0 hbt).mono ?_
          · rcases HK.out with ⟨_, _, h5, h6, h7⟩ | ⟨h5, _⟩
            · have := HRA.out
              rw [h5, h6, h7] at this
              exact this
            · omega
          · rintro e w2 ⟨rfl, hf2, hn2, hs2⟩
            go_wp2
            go_ret
            rw [← HR2.out]
            have hmem : ∀ i, i ∈ frM wi bt → i ∈ condM bm v := by
              intro i hi
              unfold frM at hi
              rcases HK.out with ⟨h4, _, _, h6, _⟩ | ⟨h5, _⟩
              · rw [if_pos h4, List.mem_singleton] at hi
                rw [hi, ← h6]; simp [condM]
              · rw [if_neg (by omega)] at hi; cases hi
            refine ⟨rfl, (Fr.of_below HB0.out).trans (hf2.mono hmem), hn2, fun h0 => ?_⟩
            obtain ⟨g1, g2, g3⟩ := hs2 h0
            refine ⟨g1, g2, v, fun g hg => Or.inl hg, ?_⟩
            rcases HK.out with ⟨h4, _, h5, h6, _⟩ | ⟨h4, _, h5⟩
            · have := g3 h4
              show ReadAt _ B t bm v lv ls (nextJ wi _ j) rest opens
              unfold nextJ
              rw [if_pos h4, h5, h6]
              exact this
            · show ReadAt _ B t bm v lv ls (nextJ wi _ j) rest opens
              unfold nextJ
              rw [if_neg (by omega)]
              refine HRA.out.frE het ?_
              have : frM wi bt = [] := by unfold frM; rw [if_neg (by omega)]
              rw [this] at hf2
              exact hf2

end Go.Proofs.YtcepppilgncdmaaGreatDoor
