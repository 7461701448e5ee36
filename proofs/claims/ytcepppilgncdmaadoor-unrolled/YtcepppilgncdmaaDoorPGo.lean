/-
  What the program does with a line, and with all lines of a block (package expand).
-/
import Derived.Test.YtcepppilgncdmaaDoorPOther
namespace Go.Proofs.YtcepppilgncdmaaDoor
open Go.RowKit
attribute [local go_sem ↓] Go.wp_at_zero Go.wp_at_succ

/-- What a call answers: the text's reader is as it was. -/
def CalPost (B be bt wi k : Nat) (r : Int × StP) (w : World) (e : Ending) (w' : World) : Prop :=
  e = .returned (.int .i64 r.1) ∧ Fr B [] w w' ∧ NumAt w' be bt wi k ∧ (r.1 = 0 → ExpSt w' B be bt wi k r.2 ∧ StOk r.2 k)
/-- A macro that is called with so many more to be called within one another. -/
def CallOk (n : Nat) : Prop := ∀ (w : World) (B be bt wi k : Nat) (vm vn vl : Value) (ms : List MacV) (ns : List (ByteArray × Int)) (outs : List (ByteArray × Nat)) (calls i g cap : Nat) (lb op : ByteArray) (va : Option Addr) (vc : Nat) (os : List ByteArray) (W : WordsP) (C : Nat) (hi : i < ms.length),
  wi + n = 8 → ExpAt w B be bt wi k vm vn vl ms ns outs calls → StOk (stOf ms ns outs calls) k → vm = .slice (some ⟨g, 0, none⟩) ms.length cap → PartsV w C lb op (.slice va os.length vc) os W → WOk W → MaxAt w → 0 < B → B ≤ w.heap.size → B ≤ bt →
  Calls Tryd.prog 27 #[.pointer (some ⟨be, 0, none⟩), .pointer (some ⟨g, i * 3, none⟩), .agg #[.string lb, .string op, .slice va os.length vc]] w (CalPost B be bt wi k (callN n (plainM ms[i]) W k (stOf ms ns outs calls)) w)

/-- What becomes of a line that is no condition. -/
def otherP (call : MacP → WordsP → Nat → StP → Int × StP) (wi k : Nat) (W : WordsP) (st : StP) (ls : List (List UInt8)) : Int × Nat × StP :=
  if W.op = opMacro then macR wi k W st ls
  else if W.op = opEnd then (2, k, st)
  else if W.op = opSet then ((setP W k st).1, k, (setP W k st).2)
  else match findM st.macros W.op with
    | some m => ((call m W k st).1, k, (call m W k st).2)
    | none => ((leaveP W k st).1, k, (leaveP W k st).2)
def OthPost (B be bt wi : Nat) (v lv : Value) (ls : List ByteArray) (rest : List Value) (opens : List OpenP) (r : Int × Nat × StP) (w : World) (e : Ending) (w' : World) : Prop :=
  e = .returned (.int .i64 r.1) ∧ Fr B (frM wi bt) w w' ∧ NumAt w' be bt wi r.2.1 ∧ (r.1 = 0 → ExpSt w' B be bt wi r.2.1 r.2.2 ∧ StOk r.2.2 r.2.1 ∧ (wi = 0 → ReadAt w' B 49 bt v lv ls r.2.1 rest opens))

theorem ReadAt.frE {w w' : World} {B bm : Nat} {v lv : Value} {ls : List ByteArray} {k : Nat} {rest : List Value} {opens : List OpenP} {t : Nat} (h : ReadAt w B t bm v lv ls k rest opens) (ht : eT t = false) (hf : Fr B [] w w') : ReadAt w' B t bm v lv ls k rest opens :=
  h.fr hf ht rfl rfl (by simp) (fun _ _ => by simp)

set_option maxRecDepth 100000 in
set_option maxHeartbeats 800000 in
theorem doOther_any (n : Nat) (hcall : CallOk n) (w : World) (B be bt wi k : Nat) (st : StP) (v lv : Value) (ls : List ByteArray) (rest : List Value) (opens : List OpenP) (lb op : ByteArray) (va : Option Addr) (vc : Nat) (os : List ByteArray) (W : WordsP) (C : Nat) (hwn : wi + n = 8)
    (h : ExpSt w B be bt wi k st) (hra : wi = 0 → ReadAt w B 49 bt v lv ls k rest opens) (hp : PartsV w C lb op (.slice va os.length vc) os W) (hW : WOk W) (hls : ∀ i (hi : i < ls.length), ls[i].size ≤ 100) (hok : StOk st k) (hm : MaxAt w) (hgB : 0 < B) (hB : B ≤ w.heap.size) (hbt : B ≤ bt) :
    Calls Tryd.prog 19 #[.pointer (some ⟨be, 0, none⟩), .agg #[.string lb, .string op, .slice va os.length vc]] w (OthPost B be bt wi v lv ls rest opens (otherP (callN n) wi k W st (ls.map L)) w) := by
  obtain ⟨q1, q2, q3⟩ := hW.parts hp
  have hb0 : Below w.heap.size w (w.alloc (.cells #[.string lb, .string op, .slice va os.length vc] 61)) := (Below.refl _ _).alloc (Nat.le_refl _) _
  have HS := hid (h.below hb0)
  have HP := hid (hp.below hb0)
  have HF0 := hid (show Fr B [] w (w.alloc (.cells #[.string lb, .string op, .slice va os.length vc] 61)) from Fr.of_below hb0)
  have HF := hid (show Fr B (frM wi bt) w (w.alloc (.cells #[.string lb, .string op, .slice va os.length vc] 61)) from Fr.of_below hb0)
  have HBX := hid (RowT.new w 61 [.string lb, .string op, .slice va os.length vc])
  have HM := hid (hm.below hb0)
  have HRA := hid (fun h0 => (hra h0).below hb0)
  have HQ2 := hid q2
  have HLS := hid hls
  have HWK := hid hW
  have hb5 := hW.bd.2.2.2.2
  have hB0 : B ≤ (w.alloc (.cells #[.string lb, .string op, .slice va os.length vc] 61)).heap.size := Nat.le_trans hB hb0.size
  have HOK := hid hok
  obtain ⟨r, hr⟩ : ∃ r, otherP (callN n) wi k W st (ls.map L) = r := ⟨_, rfl⟩
  rw [hr]
  unfold otherP at hr
  have HOP := hid hp.op
  clear h hp hb0 hm hra hls hok hW q2
  have y0 := HBX.out.cell 0 (by simp)
  have y1 := HBX.out.cell 1 (by simp)
  have y2 := HBX.out.cell 2 (by simp)
  by_cases h1 : W.op = opMacro
  · rw [if_pos h1] at hr
    have k1 : (op.toList == [46, 109, 97, 99, 114, 111]) = true := op_is (by rw [HOP.out, h1]; rfl)
    have HR := hid hr
    clear hr h1
    go_enter Tryd.func19, Tryd.ntmps19
    go_wp2_with fail
    refine (doMacro_any _ B be bt wi k st v lv ls rest opens lb op va vc os W C HS.out HRA.out HP.out (by omega) (fun i hi => by have := HQ2.out i hi; omega) HLS.out HOK.out (by omega) HM.out hgB hB0 hbt).mono ?_
    rw [HR.out]
    rintro e w1 ⟨rfl, hf1, hn1, hs1⟩
    go_wp2
    go_ret
    refine ⟨rfl, HF.out.trans hf1, hn1, fun h0 => ⟨(hs1 h0).1, ?_, fun _ => (hs1 h0).2⟩⟩
    rw [← HR.out] at h0 ⊢
    by_cases hw0 : 0 < wi
    · unfold macR at h0
      rw [if_pos hw0] at h0
      cases h0
    · have hr0 := HRA.out (by omega)
      refine macR_ok HWK.out HOK.out (by rw [List.length_map]; exact hr0.le) (by rw [List.length_map]; exact hr0.few) (fun l hl => ?_) h0
      obtain ⟨x, hx, rfl⟩ := List.mem_map.1 hl
      obtain ⟨i, hi, rfl⟩ := List.getElem_of_mem hx
      rw [L_length]
      exact HLS.out i hi
  · rw [if_neg h1] at hr
    have k1 : (op.toList == [46, 109, 97, 99, 114, 111]) = false := op_not (by rw [HOP.out]; exact h1)
    clear h1
    by_cases h2 : W.op = opEnd
    · rw [if_pos h2] at hr
      subst hr
      have k2 : (op.toList == [46, 101, 110, 100]) = true := op_is (by rw [HOP.out, h2]; rfl)
      clear h2
      go_enter Tryd.func19, Tryd.ntmps19
      go_wp2
      go_ret
      exact ⟨rfl, HF.out, HS.out.num, fun h => by cases h⟩
    · rw [if_neg h2] at hr
      have k2 : (op.toList == [46, 101, 110, 100]) = false := op_not (by rw [HOP.out]; exact h2)
      clear h2
      by_cases h3 : W.op = opSet
      · rw [if_pos h3] at hr
        have k3 : (op.toList == [46, 115, 101, 116]) = true := op_is (by rw [HOP.out, h3]; rfl)
        have HR := hid hr
        clear hr h3
        go_enter Tryd.func19, Tryd.ntmps19
        go_wp2_with fail
        refine (doSet_any _ B be bt wi k st lb op va vc os W C HS.out HP.out hb5 (by omega) (fun i hi => by have := HQ2.out i hi; omega) HOK.out hB0).mono ?_
        rintro e w1 ⟨rfl, hf1, hs1, hn1⟩
        go_wp2
        go_ret
        rw [← HR.out]
        exact ⟨rfl, (HF0.out.trans hf1).mono (fun _ h => by cases h), hn1, fun h0 => ⟨hs1 h0, setP_ok HOK.out h0, fun hw => (HRA.out hw).frE rfl hf1⟩⟩
      · rw [if_neg h3] at hr
        have k3 : (op.toList == [46, 115, 101, 116]) = false := op_not (by rw [HOP.out]; exact h3)
        have HR := hid hr
        clear hr h3
        obtain ⟨vm, vn, vl, ms, ns, outs, calls, hx, hst⟩ := HS.out
        subst hst
        have hml : ms.length ≤ 3001 := by
          have h1 := HOK.out.few
          have h2 := HOK.out.taken
          simp only [stOf, List.length_map] at h1
          omega
        have HX := hid hx
        clear hx
        go_enter Tryd.func19, Tryd.ntmps19
        go_wp2_with fail
        refine (find_any' _ B be bt wi k vm vn vl ms ns outs calls HX.out hml op).mono ?_
        rintro e w1 ⟨hw1, hcase⟩
        subst hw1
        rcases hcase with ⟨hf, rfl⟩ | ⟨i, g, cap, hi, hf, hvm, rfl⟩
        · have HR2 := hid (show ((leaveP W k (stOf ms ns outs calls)).1, k, (leaveP W k (stOf ms ns outs calls)).2) = r by
            rw [← HR.out]
            have hf' : findM (stOf ms ns outs calls).macros W.op = none := by rw [← HOP.out]; exact hf
            rw [hf'])
          clear hf
          go_wp2_with fail
          refine (leave_any _ B be bt wi k (stOf ms ns outs calls) lb op va vc os W C HS.out HP.out hb5 (by omega) HOK.out.out hB0).mono ?_
          rintro e w2 ⟨rfl, hf1, hs1, hn1⟩
          go_wp2
          go_ret
          rw [← HR2.out]
          exact ⟨rfl, (HF0.out.trans hf1).mono (fun _ h => by cases h), hn1, fun h0 => ⟨hs1 h0, leaveP_ok HOK.out h0, fun hw => (HRA.out hw).frE rfl hf1⟩⟩
        · have HR2 := hid (show ((callN n (plainM ms[i]) W k (stOf ms ns outs calls)).1, k, (callN n (plainM ms[i]) W k (stOf ms ns outs calls)).2) = r by
            rw [← HR.out]
            have hf' : findM (stOf ms ns outs calls).macros W.op = some (plainM ms[i]) := by rw [← HOP.out]; exact hf
            rw [hf'])
          clear hf
          go_wp2_with fail
          refine (hcall _ B be bt wi k vm vn vl ms ns outs calls i g cap lb op va vc os W C hi hwn HX.out HOK.out hvm HP.out HWK.out HM.out hgB hB0 hbt).mono ?_
          rintro e w2 ⟨rfl, hf1, hn1, hs1⟩
          go_wp2
          go_ret
          rw [← HR2.out]
          exact ⟨rfl, (HF0.out.trans hf1).mono (fun _ h => by cases h), hn1, fun h0 => ⟨(hs1 h0).1, (hs1 h0).2, fun hw => (HRA.out hw).frE rfl hf1⟩⟩

end Go.Proofs.YtcepppilgncdmaaDoor
