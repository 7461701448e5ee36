/-
  A macro that is called (package expand).
  The program's Expand (packages expand and mason).
  What the document's own 'read' and 'Expand' (package masonref) answer: for every text, what the plain function says.
  The book of lists that came out (package masonlaw): 'same'.
  One step of a script that asks for an Expand (package masonlaw): true, and the book holds four lists more.
  What 'masonlaw.Expands' answers: true, whatever script it is given.
-/
import Derived.Test.YtcepppilgncdmaaGreatDoorBE20
import Derived.Test.YtcepppilgncdmaaGreatDoorBE11
import Derived.Deep.CutBlock
import Derived.Deep.DeepCutAuto
import Derived.Deep.LoopGhost
import Derived.Deep.QuietTactic
import Derived.BigQuiet
import Derived.Test.YtcepppilgncdmaaGreatDoorBE05
namespace Go.Proofs.YtcepppilgncdmaaGreatDoor
open Go.RowKit
attribute [local go_sem ↓] Go.wp_at_zero Go.wp_at_succ

/-- A number of the expansion's own turns. -/
theorem ExpAt.count {w : World} {B be bt wi k : Nat} {vm vn vl : Value} {ms : List MacV} {ns : List (ByteArray × Int)} {outs : List (ByteArray × Nat)} {calls : Nat} (h : ExpAt w B be bt wi k vm vn vl ms ns outs calls) (j : Nat) (u : Value) (wi' calls' : Nat)
    (hs : [.pointer (some ⟨bt, 0, none⟩), vm, vn, .int .i64 (wi : Nat), .int .i64 (calls : Nat), vl].set j u = [.pointer (some ⟨bt, 0, none⟩), vm, vn, .int .i64 (wi' : Nat), .int .i64 (calls' : Nat), vl]) :
    ExpAt (w.setCell ⟨be, j, none⟩ u) B be bt wi' k vm vn vl ms ns outs calls' ∧ Fr B [] w (w.setCell ⟨be, j, none⟩ u) := by
  have hf : Fr B [] w (w.setCell ⟨be, j, none⟩ u) := (Fr.refl B [] w).setCell (p := ⟨be, j, none⟩) (h.row.may h.at_ (Or.inl rfl)) u
  obtain ⟨xs, h1, h2⟩ := h.text
  have hr := h.row.set j u
  rw [hs] at hr
  exact ⟨⟨hr, ownsRow_setCell_other h.mown (a := ⟨be, j, none⟩) (own_row_ne h.mown h.row (by decide)) _, ownsRow_setCell_other h.nown (a := ⟨be, j, none⟩) (own_row_ne h.nown h.row (by decide)) _, ownsRow_setCell_other h.lown (a := ⟨be, j, none⟩) (own_row_ne h.lown h.row (by decide)) _, fun m hm => ⟨(h.mstr m hm).1.fr hf, (h.mstr m hm).2.fr hf⟩, h.at_, xs, h1.fr hf rfl (fun _ => by simp), h2⟩, hf⟩
theorem NumAt.cell {w : World} {be bt wi k : Nat} (h : NumAt w be bt wi k) : w.cell? ⟨be, 3, none⟩ = some (.int .i64 (wi : Nat)) ∧ w.frozen? ⟨be, 3, none⟩ = false := by
  obtain ⟨ys, xs, h1, h0, h2, h3⟩ := h
  obtain ⟨hl, hy⟩ := List.getElem?_eq_some_iff.1 h0
  refine ⟨?_, h1.free 3⟩
  rw [h1.cell 3 (by simp; omega)]
  exact congrArg some hy
theorem NumAt.count {w : World} {B be bt wi k : Nat} (h : NumAt w be bt wi k) (hB : B ≤ be) (wi' : Nat) : NumAt (w.setCell ⟨be, 3, none⟩ (.int .i64 (wi' : Nat))) be bt wi' k ∧ Fr B [] w (w.setCell ⟨be, 3, none⟩ (.int .i64 (wi' : Nat))) := by
  obtain ⟨ys, xs, h1, h0, h2, h3⟩ := h
  obtain ⟨hl, hy⟩ := List.getElem?_eq_some_iff.1 h0
  have hf : Fr B [] w (w.setCell ⟨be, 3, none⟩ (.int .i64 (wi' : Nat))) := (Fr.refl B [] w).setCell (p := ⟨be, 3, none⟩) (h1.may hB (Or.inl rfl)) _
  exact ⟨⟨ys.set 2 (.int .i64 (wi' : Nat)), xs, h1.set 3 _, by rw [List.getElem?_set_self hl], h2.fr hf rfl (fun _ => by simp), h3⟩, hf⟩
theorem ExpSt.count {w : World} {B be bt wi k : Nat} {st : StP} (h : ExpSt w B be bt wi k st) (wi' : Nat) : ExpSt (w.setCell ⟨be, 3, none⟩ (.int .i64 (wi' : Nat))) B be bt wi' k st := by
  obtain ⟨vm, vn, vl, ms, ns, outs, calls, hx, rfl⟩ := h
  exact ⟨vm, vn, vl, ms, ns, outs, calls, (hx.count 3 _ wi' calls rfl).1, rfl⟩

theorem ExpAt.macAt {w : World} {B be bt wi k : Nat} {vm vn vl : Value} {ms : List MacV} {ns : List (ByteArray × Int)} {outs : List (ByteArray × Nat)} {calls : Nat} (h : ExpAt w B be bt wi k vm vn vl ms ns outs calls) {g cap i : Nat} (hvm : vm = .slice (some ⟨g, 0, none⟩) ms.length cap) (hi : i < ms.length) :
    w.cell? ⟨g, i * 3 + 1, none⟩ = some ms[i].pv ∧ w.cell? ⟨g, i * 3 + 2, none⟩ = some ms[i].bv := by
  have ho := h.mown
  rw [hvm] at ho
  exact ⟨(ho.cellAt (i * 3 + 1) (by omega)).trans (macCells_at ms i hi).2.1, (ho.cellAt (i * 3 + 2) (by omega)).trans (macCells_at ms i hi).2.2⟩

theorem call_zero : CallOk 0 := by
  intro w B be bt wi k vm vn vl ms ns outs calls i g cap lb op va vc os W C hi hwn hx hok hvm hp hW hm hgB hB hbt
  have hwi : wi = 8 := by omega
  subst hwi
  have hb0 : Below w.heap.size w (w.alloc (.cells #[.string lb, .string op, .slice va os.length vc] 101)) := (Below.refl _ _).alloc (Nat.le_refl _) _
  have HX := hid (hx.below hb0)
  have HF := hid (show Fr B [] w (w.alloc (.cells #[.string lb, .string op, .slice va os.length vc] 101)) from Fr.of_below hb0)
  have c3 := HX.out.row.cell 3 (by simp)
  clear hx hok hp hW hm hb0
  go_enter Tryz.func109, Tryz.ntmps109
  go_wp2_with fail
  go_ret
  exact ⟨rfl, HF.out, HX.out.num, fun h => by cases h⟩

theorem label_text (l : List UInt8) (h : l.length ≤ 100) : (textP ⟨l, [], []⟩).length ≤ 1000000 := by
  have : (textP ⟨l, [], []⟩).length ≤ l.length + 1 := by
    unfold textP
    simp only [joined]
    by_cases hl : l = [] <;> simp [hl]
  omega

set_option maxRecDepth 100000 in
set_option maxHeartbeats 1600000 in
theorem call_succ (n : Nat) (hcall : CallOk n) : CallOk (n + 1) := by
  intro w B be bt wi k vm vn vl ms ns outs calls i g cap lb op va vc os W C hi hwn hx hok hvm hp hW hm hgB hB hbt
  have hb0 : Below w.heap.size w (w.alloc (.cells #[.string lb, .string op, .slice va os.length vc] 101)) := (Below.refl _ _).alloc (Nat.le_refl _) _
  obtain ⟨q1, q2, q3⟩ := hW.parts hp
  have hB0 : B ≤ (w.alloc (.cells #[.string lb, .string op, .slice va os.length vc] 101)).heap.size := Nat.le_trans hB hb0.size
  have HX := hid (hx.below hb0)
  have HP := hid (hp.below hb0)
  have HBX := hid (RowT.new w 101 [.string lb, .string op, .slice va os.length vc])
  have HF := hid (show Fr B [] w (w.alloc (.cells #[.string lb, .string op, .slice va os.length vc] 101)) from Fr.of_below hb0)
  have HM := hid (hm.below hb0)
  have HOK := hid hok
  have HWK := hid hW
  have HQ2 := hid q2
  have hmac : MacOk (plainM ms[i]) := hok.macs _ (by simp only [stOf]; exact List.mem_map.2 ⟨_, List.getElem_mem hi, rfl⟩)
  have HMAC := hid hmac
  have hcl : calls ≤ 200 := hok.calls
  have c3 := HX.out.row.cell 3 (by simp)
  have c4 := HX.out.row.cell 4 (by simp)
  have f3 := HX.out.row.free 3
  have f4 := HX.out.row.free 4
  have y0 := HBX.out.cell 0 (by simp)
  have y1 := HBX.out.cell 1 (by simp)
  have y2 := HBX.out.cell 2 (by simp)
  have HSTR := hid (HX.out.mstr ms[i] (List.getElem_mem hi))
  obtain ⟨pa, pc, hpv⟩ := HSTR.out.1.form
  obtain ⟨ba, bc, hbv⟩ := HSTR.out.2.form
  have HPVE := hid hpv
  have HBVE := hid hbv
  have cm1 := (HX.out.macAt hvm hi).1
  have cm2 := (HX.out.macAt hvm hi).2
  rw [hpv] at cm1
  rw [hbv] at cm2
  have hops : W.operands.length = os.length := by rw [← hp.ops, List.length_map]
  have hpar : (plainM ms[i]).params.length = ms[i].ps.length := by simp [plainM]
  have hlp : ms[i].ps.length ≤ 100 := by have := hmac.1; rw [hpar] at this; exact this
  have kw : ((wi : Int) == 8) = false := by rw [beq_eq_false_iff_ne]; omega
  obtain ⟨r, hr⟩ : ∃ r, callN (n + 1) (plainM ms[i]) W k (stOf ms ns outs calls) = r := ⟨_, rfl⟩
  rw [hr]
  rw [callN, hops, hpar] at hr
  have HR := hid hr
  have hlab : W.label.length ≤ 100 := hW.bd.1
  have HLB := hid hp.label
  clear hx hp hb0 hm hok hW q2 hmac hpv hbv hr
  by_cases h1 : os.length = ms[i].ps.length
  · have k1 : ((os.length : Int) != (ms[i].ps.length : Int)) = false := by simp [h1]
    by_cases h2 : calls = 200
    · have k2 : ((calls : Int) == 200) = true := by rw [beq_iff_eq]; omega
      have hr := HR.out
      rw [if_neg (fun c => c h1), if_pos (by simp [stOf, h2])] at hr
      subst hr
      clear h1 h2
      go_enter Tryz.func109, Tryz.ntmps109
      go_wp2_with fail
      go_quiet (fail)
      go_wp2_with fail
      go_ret
      exact ⟨rfl, HF.out.drewN _, HX.out.num, fun h => by cases h⟩
    · have k2 : ((calls : Int) == 200) = false := by rw [beq_eq_false_iff_ne]; omega
      have hr := HR.out
      rw [if_neg (fun c => c h1), if_neg (by simp [stOf]; omega)] at hr
      have HR := hid hr
      clear hr
      have H1 := hid h1
      have hc2 : calls < 200 := by omega
      clear h1 h2
      go_enter Tryz.func109, Tryz.ntmps109
      go_wp2_with fail
      go_quiet (fail)
      go_wp2_with fail
      obtain ⟨q, hq⟩ : ∃ q, leaveP ⟨W.label, [], []⟩ k (stOf ms ns outs calls) = q := ⟨_, rfl⟩
      have hqok : q.1 = 0 → StOk q.2 k := by rw [← hq]; exact leaveP_ok HOK.out
      have HQOK := hid hqok
      have HF := hid (HF.out.drewN nq)
      have hbn : Below (w.alloc (.cells #[.string lb, .string op, .slice va os.length vc] 101)).heap.size (w.alloc (.cells #[.string lb, .string op, .slice va os.length vc] 101)) ((w.alloc (.cells #[.string lb, .string op, .slice va os.length vc] 101)).drewN nq) := below_drewN (Below.refl _ _) _
      have HX := hid (HX.out.below hbn)
      have HP := hid (HP.out.below hbn)
      have HM := hid (HM.out.below hbn)
      have HBX := hid (HBX.out.below hbn)
      clear hbn
      refine (leave_any' _ B be bt wi k vm vn vl ms ns outs calls lb ⟨#[]⟩ none 0 [] ⟨W.label, [], []⟩ 0 HX.out ⟨HLB.out, rfl, rfl, Or.inl ⟨rfl, rfl⟩⟩ (label_text _ hlab) (by simp) HOK.out.out hB0).mono ?_
      have hr := HR.out
      rw [hq] at hr ⊢
      have HR := hid hr
      clear hr hq hqok
      rintro e w1 ⟨rfl, hf1, hs1, hn1⟩
      by_cases h0 : q.1 = 0
      · obtain ⟨vl1, outs1, hx1, hst1⟩ := hs1 h0
        have k0 : (q.1 != 0) = false := by simp [h0]
        have c3 := hx1.row.cell 3 (by simp)
        have c4 := hx1.row.cell 4 (by simp)
        have f3 := hx1.row.free 3
        have f4 := hx1.row.free 4
        have cm1 := (hx1.macAt hvm hi).1
        have cm2 := (hx1.macAt hvm hi).2
        rw [HPVE.out] at cm1
        rw [HBVE.out] at cm2
        have hr := HR.out
        rw [if_neg (fun c => c h0), hst1] at hr
        have HR := hid hr
        have HX1 := hid hx1
        have HF1 := hid (HF.out.trans hf1)
        have HM1 := hid (HM.out.fr hf1 hgB)
        have HBX1 := hid (HBX.out.fr hf1 rfl (fun h => by cases h))
        have y2 := HBX1.out.cell 2 (by simp)
        have HOK1 := hid (hst1 ▸ HQOK.out h0)
        have HP1 := hid (HP.out.fr hf1)
        clear hr hx1 hf1 hs1 hn1 hst1 h0
        go_wp2_with fail
        have he := HX1.out.count 4 (.int .i64 ((calls : Int) + 1)) wi (calls + 1) rfl
        have he2 := he.1.count 3 (.int .i64 ((wi : Int) + 1)) (wi + 1) (calls + 1) rfl
        have HX2 := hid he2.1
        have HF2 := hid (HF1.out.trans (he.2.trans he2.2))
        have HM2 := hid (HM1.out.fr (he.2.trans he2.2) hgB)
        have HBX2 := hid (HBX1.out.fr (he.2.trans he2.2) rfl (fun h => by cases h))
        have HP2 := hid (HP1.out.fr (he.2.trans he2.2))
        have hB2 : B ≤ ((w1.setCell ⟨be, 4, none⟩ (.int .i64 ((calls : Int) + 1))).setCell ⟨be, 3, none⟩ (.int .i64 ((wi : Int) + 1))).heap.size := Nat.le_trans hB HF2.out.size
        clear he he2 c3 c4 f3 f4 cm1 cm2 y2
        generalize (w1.setCell ⟨be, 4, none⟩ (.int .i64 ((calls : Int) + 1))).setCell ⟨be, 3, none⟩ (.int .i64 ((wi : Int) + 1)) = w2 at HX2 HF2 HM2 HBX2 HP2 hB2 ⊢
        have cm1 := (HX2.out.macAt hvm hi).1
        have cm2 := (HX2.out.macAt hvm hi).2
        rw [HPVE.out] at cm1
        rw [HBVE.out] at cm2
        have y2 := HBX2.out.cell 2 (by simp)
        have hb3 : Below w2.heap.size w2 (w2.alloc (.cells #[.slice none 0 0, .slice ba ms[i].bs.length bc, .int .i64 0, .slice pa ms[i].ps.length pc, .slice va os.length vc] 209)).drew := ((Below.refl _ _).alloc (Nat.le_refl _) _).drew
        have hrow : RowT (w2.alloc (.cells #[.slice none 0 0, .slice ba ms[i].bs.length bc, .int .i64 0, .slice pa ms[i].ps.length pc, .slice va os.length vc] 209)).drew 209 w2.heap.size [.slice none 0 0, .slice ba ms[i].bs.length bc, .int .i64 0, .slice pa ms[i].ps.length pc, .slice va os.length vc] := RowT.new w2 _ _
        have hstr := HX2.out.mstr ms[i] (List.getElem_mem hi)
        rw [HPVE.out, HBVE.out] at hstr
        have hmac := HMAC.out
        have hlines : ∀ j (hj : j < ms[i].bs.length), ms[i].bs[j].size ≤ 100 ∧ cutL (L ms[i].bs[j]) = L ms[i].bs[j] := fun j hj => by
          have := hmac.2.2.2 (L ms[i].bs[j]) (List.mem_map.2 ⟨_, List.getElem_mem hj, rfl⟩)
          rw [L_length] at this
          exact this
        have hpars : ∀ j (hj : j < ms[i].ps.length), ms[i].ps[j].size ≤ 100 := fun j hj => by
          have := hmac.2.1 (L ms[i].ps[j]) (List.mem_map.2 ⟨_, List.getElem_mem hj, rfl⟩)
          rw [L_length] at this
          exact this
        have hbl : ms[i].bs.length ≤ 3001 := by have := hmac.2.2.1; simp [plainM] at this; exact this
        have htb : bt ≠ w2.heap.size := by
          obtain ⟨xs, h1, _⟩ := HX2.out.text
          have := h1.lt
          omega
        have hok2 : StOk (stOf ms ns outs1 (calls + 1)) k := ⟨HOK1.out.macs, HOK1.out.names, HOK1.out.out, by show calls + 1 ≤ 200; omega, HOK1.out.few, HOK1.out.taken⟩
        obtain ⟨R, hR⟩ : ∃ R, blockP (callN n) (some (ms[i].ps.map L, os.map L)) 0 (ms[i].bs.map L) k [] none (stOf ms ns outs1 (calls + 1)) = R := ⟨_, rfl⟩
        have hRk : R.2.1 = k := by rw [← hR]; exact blockP_stays _ _ _ _ _ _ _
        have HRR := hid (show r = (R.1, R.2.2) by
          rw [← HR.out, ← HP2.out.ops, ← hR]; rfl)
        have hc := goM_any n hcall _ B be bt (wi + 1) k w2.heap.size (stOf ms ns outs1 (calls + 1)) (.slice ba ms[i].bs.length bc) (.slice pa ms[i].ps.length pc) (.slice va os.length vc) ms[i].bs ms[i].ps os (by omega) (by omega)
          ⟨_, _, _, _, _, _, _, HX2.out.below hb3, rfl⟩ ⟨⟨hrow, World.ownsRow_nil _ _ _ _, by simp⟩, hstr.2.below hb3, by simp, hbl⟩ (fun j hj => (hlines j hj).1) (fun j hj => (hlines j hj).2)
          (hstr.1.below hb3) ((HP2.out.at_.below hb3).mono (Nat.zero_le _)) H1.out.symm (by omega) hpars HQ2.out hok2 (HM2.out.below hb3) hgB (Nat.le_trans hB2 hb3.size) hbt hB2 htb R hR
        have HC := hid hc
        have HF3 := hid (HF2.out.trans (Fr.of_below hb3))
        have hsz2 := HF2.out.size
        clear hc hb3 hrow hstr hmac hlines hpars hok2 hR
        go_region_with (go_at_call 31; refine HC.out.mono ?_; rintro e w3 ⟨rfl, hf3, hn3, hs3⟩)
        all_goals
          rw [hRk] at hn3 hs3
          have c3 := hn3.cell.1
          have f3 := hn3.cell.2
          have HF4 := hid (HF3.out.trans' hf3 (fun j hj => Or.inr (by rw [List.mem_singleton] at hj; rw [hj]; exact hsz2)))
          have HN3 := hid hn3
          have HS3 := hid hs3
          clear hf3 hn3 hs3
          go_wp2_with fail
          go_ret
          have hcn := HN3.out.count HX2.out.at_ wi
          refine ⟨by rw [HRR.out]; rfl, HF4.out.trans hcn.2, hcn.1, fun h0 => ?_⟩
          rw [HRR.out] at h0 ⊢
          exact ⟨(HS3.out h0).1.count wi, (HS3.out h0).2⟩
      · have k0 : (q.1 != 0) = true := by simp [h0]
        have hr := HR.out
        rw [if_pos h0] at hr
        subst hr
        clear hs1
        go_wp2_with fail
        go_ret
        exact ⟨rfl, HF.out.trans hf1, hn1, fun h => absurd h h0⟩
  · have k1 : ((os.length : Int) != (ms[i].ps.length : Int)) = true := by simp; omega
    have hr := HR.out
    rw [if_pos h1] at hr
    subst hr
    clear h1
    go_enter Tryz.func109, Tryz.ntmps109
    go_wp2_with fail
    go_quiet (fail)
    go_wp2_with fail
    go_ret
    exact ⟨rfl, HF.out.drewN _, HX.out.num, fun h => by cases h⟩

end Go.Proofs.YtcepppilgncdmaaGreatDoor

namespace Go.Proofs.YtcepppilgncdmaaGreatDoor
open Go.RowKit
attribute [local go_sem ↓] Go.wp_at_zero Go.wp_at_succ

theorem call_all : ∀ n, CallOk n
  | 0 => call_zero
  | n + 1 => call_succ n (call_all n)

/-- What Expand answers: the lines, in rows of their own; or the error and where. -/
def ExpandPost (r : Int × Nat × List (List UInt8 × Nat)) (w : World) (e : Ending) (w' : World) : Prop :=
  Below w.heap.size w w' ∧ ∃ vl outs, e = .returned (.tuple #[vl, .int .i64 r.1, .int .i64 (r.2.1 : Nat)]) ∧ (outs.map fun x : ByteArray × Nat => (L x.1, x.2)) = r.2.2 ∧ outs.length ≤ 300 ∧ w'.ownsRow w.heap.size 38 4 vl outs.length (lineCells outs)

/-- No lines with an error. -/
def ExpandNil (r : Int × Nat × List (List UInt8 × Nat)) (e : Ending) : Prop := r.1 ≠ 0 → ∃ x y, e = .returned (.tuple #[.slice none 0 0, x, y])

theorem badLine_ok (ls : List (List UInt8)) : ∀ k, 0 < k → badLine ls k = 0 → ∀ l ∈ ls, l.length ≤ 80 := by
  induction ls with
  | nil => intro k _ _ l hl; cases hl
  | cons a r ih =>
    intro k hk h l hl
    unfold badLine at h
    split at h
    · rename_i ho
      rcases List.mem_cons.1 hl with h1 | h1
      · rw [h1]; unfold okLine at ho; simp at ho; exact ho.1
      · exact ih (k + 1) (by omega) h l h1
    · omega
set_option maxHeartbeats 400000 in
theorem number_num (w : World) (be bt wi k : Nat) (h : NumAt w be bt wi k) :
    Calls Tryz.prog 32 #[.pointer (some ⟨be, 0, none⟩)] w fun e w' => e = .returned (.int .i64 (k : Nat)) ∧ w' = w := by
  obtain ⟨ys, xs, h1, _, hx, hx2⟩ := h
  have c0 : w.cell? ⟨be, 0, none⟩ = some (.pointer (some ⟨bt, 0, none⟩)) := h1.cell 0 (by simp)
  obtain ⟨hlt, hy⟩ := List.getElem?_eq_some_iff.1 hx2
  have c2 : w.cell? ⟨bt, 2, none⟩ = some (.int .i64 (k : Nat)) := by rw [hx.cell 2 hlt, hy]
  clear h1 hx hx2 hy
  go_enter Tryz.func32, Tryz.ntmps32
  go_wp2
  go_ret
  exact ⟨rfl, rfl⟩

set_option maxRecDepth 100000 in
set_option maxHeartbeats 800000 in
theorem Expand_nil (s : ByteArray) (w : World) (hs : s.size ≤ maxLen) (hm : MaxAt w) :
    Calls Tryz.prog 20 #[.string s] w (fun e w' => ExpandPost (expandP (L s)) w e w' ∧ ExpandNil (expandP (L s)) e) := by
  have hg : 0 < w.heap.size := by
    obtain ⟨m, h1⟩ := hm
    exact World.block_lt_of_cell? _ _ h1
  obtain ⟨r, hr⟩ : ∃ r, expandP (L s) = r := ⟨_, rfl⟩
  rw [hr]
  unfold expandP at hr
  rw [L_length] at hr
  have HR := hid hr
  have HM := hid hm
  clear hr hm
  go_enter Tryz.func20, Tryz.ntmps20
  go_wp2_with fail
  refine (Split_any s _ hs HM.out).mono ?_
  rintro e w1 ⟨hb1, hcase⟩
  rcases hcase with ⟨h1, rfl⟩ | ⟨h1, h2, rfl⟩ | ⟨h1, h2, v, ls, h3, h4, rfl⟩
  · have hr := HR.out
    rw [if_pos h1] at hr
    subst hr
    go_wp2
    refine bodyPost_ret (v := .tuple #[.slice none 0 0, .int .i64 1, .int .i64 0]) (by simp [results, Tryz.results20]) rfl ?_
    exact ⟨⟨hb1, .slice none 0 0, [], rfl, rfl, by simp, World.ownsRow_nil _ _ _ _⟩, fun _ => ⟨_, _, rfl⟩⟩
  · have hr := HR.out
    rw [if_neg h1, if_pos h2] at hr
    subst hr
    clear h1 h2
    go_wp2
    refine bodyPost_ret (v := .tuple #[.slice none 0 0, .int .i64 1, .int .i64 (badLine (splitB 10 (L s)) 1 : Nat)]) (by simp [results, Tryz.results20]) rfl ?_
    exact ⟨⟨hb1, .slice none 0 0, [], rfl, rfl, by simp, World.ownsRow_nil _ _ _ _⟩, fun _ => ⟨_, _, rfl⟩⟩
  · have hr := HR.out
    rw [if_neg h1, if_neg (fun c => c h2), ← h3] at hr
    have HR := hid hr
    have hfew : ls.length ≤ 3001 := by
      have := splitB_len 10 (L s)
      rw [← h3, List.length_map, L_length] at this
      omega
    have HLS := hid (show ∀ i (hi : i < ls.length), ls[i].size ≤ 100 from fun i hi => by
      have := badLine_ok _ 1 (by omega) h2 (L ls[i]) (by rw [← h3]; exact List.mem_map.2 ⟨_, List.getElem_mem hi, rfl⟩)
      rw [L_length] at this
      omega)
    obtain ⟨la, lc, hv⟩ := h4.form
    subst hv
    have hal : (w1.alloc (.cells #[.slice none 0 0, .slice la ls.length lc, .int .i64 0] 74)).heap.size = w1.heap.size + 1 := Array.size_push _
    have hb2 : Below w1.heap.size w1 ((w1.alloc (.cells #[.slice none 0 0, .slice la ls.length lc, .int .i64 0] 74)).alloc (.cells #[.pointer (some ⟨w1.heap.size, 0, none⟩), .slice none 0 0, .slice none 0 0, .int .i64 0, .int .i64 0, .slice none 0 0] 77)) := ((Below.refl _ _).alloc (Nat.le_refl _) _).alloc (by rw [hal]; exact Nat.le_succ _) _
    have hrt : RowT ((w1.alloc (.cells #[.slice none 0 0, .slice la ls.length lc, .int .i64 0] 74)).alloc (.cells #[.pointer (some ⟨w1.heap.size, 0, none⟩), .slice none 0 0, .slice none 0 0, .int .i64 0, .int .i64 0, .slice none 0 0] 77)) 74 w1.heap.size [.slice none 0 0, .slice la ls.length lc, .int .i64 0] := (RowT.new w1 _ _).alloc _
    have hre : RowT ((w1.alloc (.cells #[.slice none 0 0, .slice la ls.length lc, .int .i64 0] 74)).alloc (.cells #[.pointer (some ⟨w1.heap.size, 0, none⟩), .slice none 0 0, .slice none 0 0, .int .i64 0, .int .i64 0, .slice none 0 0] 77)) 77 (w1.heap.size + 1) [.pointer (some ⟨w1.heap.size, 0, none⟩), .slice none 0 0, .slice none 0 0, .int .i64 0, .int .i64 0, .slice none 0 0] := by
      have := RowT.new (w1.alloc (.cells #[.slice none 0 0, .slice la ls.length lc, .int .i64 0] 74)) 77 [.pointer (some ⟨w1.heap.size, 0, none⟩), .slice none 0 0, .slice none 0 0, .int .i64 0, .int .i64 0, .slice none 0 0]
      rw [hal] at this
      exact this
    have hbw := Nat.le_trans hb1.size hb2.size
    have hx : ExpSt ((w1.alloc (.cells #[.slice none 0 0, .slice la ls.length lc, .int .i64 0] 74)).alloc (.cells #[.pointer (some ⟨w1.heap.size, 0, none⟩), .slice none 0 0, .slice none 0 0, .int .i64 0, .int .i64 0, .slice none 0 0] 77)) w.heap.size (w1.heap.size + 1) w1.heap.size 0 0 noSt := ⟨_, _, _, [], [], [], 0, ⟨hre, World.ownsRow_nil _ _ _ _, World.ownsRow_nil _ _ _ _, World.ownsRow_nil _ _ _ _, (fun m hm => by cases hm), Nat.le_succ_of_le hb1.size, _, hrt, rfl⟩, rfl⟩
    obtain ⟨R, hR⟩ : ∃ R, blockP (callN 8) none 1 (ls.map L) 0 [] none noSt = R := ⟨_, rfl⟩
    have hc := goT_any (call_all 8) _ w.heap.size (w1.heap.size + 1) w1.heap.size noSt (.slice la ls.length lc) ls hx ⟨⟨hrt, World.ownsRow_nil _ _ _ _, by simp⟩, (h4.below hb2).mono (Nat.zero_le _), by simp, hfew⟩ HLS.out ⟨(fun m hm => by cases hm), by simp [noSt], by simp [noSt], by simp [noSt], by simp [noSt], by simp⟩ ((HM.out.below hb1).below hb2) hg hbw hb1.size R hR
    have HC := hid hc
    have HB2 := hid ((hb1.trans (hb2.mono hb1.size)))
    rw [hR] at hr
    have HR := hid hr
    clear hal hr h1 h2 h3 hc hb1 hb2 hrt hre hx hR h4
    go_wp2_with fail
    refine HC.out.mono ?_
    rintro e w3 ⟨rfl, hf3, hn3, hs3⟩
    have HB3 := hid (HB2.out.trans (hf3.below hbw))
    have hr := HR.out
    by_cases h0 : R.1 = 0
    · have k0 : (R.1 != 0) = false := by simp [h0]
      rw [if_neg (fun c => c h0)] at hr
      subst hr
      obtain ⟨⟨vm, vn, vl, ms, ns, outs, calls, hx, hst⟩, hok⟩ := hs3 h0
      have c5 := hx.row.cell 5 (by simp)
      have HOUT := hid hok.out
      have HL := hid hx.lown
      have HST := hid hst
      clear hf3 hn3 hs3 hx hst hok
      go_wp2_with fail
      refine bodyPost_ret (v := .tuple #[vl, .int .i64 0, .int .i64 0]) (by simp [results, Tryz.results20]) rfl ?_
      refine ⟨⟨HB3.out, vl, outs, rfl, ?_, ?_, HL.out⟩, fun h => absurd rfl h⟩
      · rw [HST.out]; rfl
      · have := HOUT.out; rw [HST.out] at this; simpa [stOf] using this
    · have k0 : (R.1 != 0) = true := by simp [h0]
      rw [if_pos h0] at hr
      subst hr
      have HN := hid hn3
      clear hf3 hn3 hs3
      go_wp2_with fail
      refine (number_num _ _ _ _ _ HN.out).mono ?_
      rintro e w4 ⟨rfl, rfl⟩
      go_wp2_with fail
      refine bodyPost_ret (v := .tuple #[.slice none 0 0, .int .i64 R.1, .int .i64 (R.2.1 : Nat)]) (by simp [results, Tryz.results20]) rfl ?_
      exact ⟨⟨HB3.out, .slice none 0 0, [], rfl, rfl, by simp, World.ownsRow_nil _ _ _ _⟩, fun _ => ⟨_, _, rfl⟩⟩

theorem Expand_any (s : ByteArray) (w : World) (hs : s.size ≤ maxLen) (hm : MaxAt w) :
    Calls Tryz.prog 20 #[.string s] w (ExpandPost (expandP (L s)) w) := (Expand_nil s w hs hm).mono (fun _ _ h => h.1)

set_option maxHeartbeats 400000 in
theorem mExpand_nil (s : ByteArray) (w : World) (hs : s.size ≤ maxLen) (hm : MaxAt w) :
    Calls Tryz.prog 11 #[.string s] w (fun e w' => ExpandPost (expandP (L s)) w e w' ∧ ExpandNil (expandP (L s)) e) := by
  obtain ⟨r, hr⟩ : ∃ r, expandP (L s) = r := ⟨_, rfl⟩
  have hc := Expand_nil s w hs hm
  rw [hr] at hc ⊢
  have HC := hid hc
  clear hc hr hm
  go_enter Tryz.func11, Tryz.ntmps11
  go_wp2_with fail
  refine HC.out.mono ?_
  rintro e w1 ⟨⟨hb, vl, outs, rfl, hrest⟩, hnil⟩
  have HREST := hid hrest
  have HNIL := hid hnil
  clear hrest hnil
  go_wp2_with fail
  refine bodyPost_ret (v := .tuple #[vl, .int .i64 r.1, .int .i64 (r.2.1 : Nat)]) (by simp [results, Tryz.results11]) rfl ?_
  exact ⟨⟨hb, vl, outs, rfl, HREST.out⟩, HNIL.out⟩
theorem mExpand_any (s : ByteArray) (w : World) (hs : s.size ≤ maxLen) (hm : MaxAt w) :
    Calls Tryz.prog 11 #[.string s] w (ExpandPost (expandP (L s)) w) := (mExpand_nil s w hs hm).mono (fun _ _ h => h.1)

end Go.Proofs.YtcepppilgncdmaaGreatDoor

namespace Go.Proofs.YtcepppilgncdmaaGreatDoor
open Go.RowKit
attribute [local go_sem ↓] Go.wp_at_zero Go.wp_at_succ

/-- What read answers: a reader that holds an error, or all lines that are left. -/
def ReadRPost (s : ByteArray) (w : World) (e : Ending) (w' : World) : Prop := Below w.heap.size w w' ∧ ∃ r, w.heap.size ≤ r ∧ e = .returned (.pointer (some ⟨r, 0, none⟩)) ∧
  (((expandP (L s)).1 ≠ 0 ∧ (expandP (L s)).2.2 = [] ∧ RdErr w' r (expandP (L s)).1 (expandP (L s)).2.1) ∨ ((expandP (L s)).1 = 0 ∧ (expandP (L s)).2.1 = 0 ∧ ∃ st, RdSt w' w.heap.size r st ∧ (expandP (L s)).2.2 = st.out))
/-- What Expand of the document's own package answers. -/
def RExpandPost (r : Int × Nat × List (List UInt8 × Nat)) (w : World) (e : Ending) (w' : World) : Prop :=
  Below w.heap.size w w' ∧ ∃ vl outs, e = .returned (.tuple #[vl, .int .i64 r.1, .int .i64 (r.2.1 : Nat)]) ∧ (outs.map fun x : ByteArray × Nat => (L x.1, x.2)) = r.2.2 ∧ w'.ownsRow w.heap.size 38 4 vl outs.length (lineCells outs)

set_option maxRecDepth 100000 in
set_option maxHeartbeats 1600000 in
theorem read_any (s : ByteArray) (w : World) (hs : s.size ≤ maxLen) : Calls Tryz.prog 39 #[.string s] w (ReadRPost s w) := by
  unfold maxLen at hs
  have hb0 : Below w.heap.size w (w.alloc (.cells #[.slice none 0 0, .slice none 0 0, .slice none 0 0, .int .i64 0, .int .i64 0, .int .i64 0] 93)) := (Below.refl _ _).alloc (Nat.le_refl _) _
  have hrow : RowT (w.alloc (.cells #[.slice none 0 0, .slice none 0 0, .slice none 0 0, .int .i64 0, .int .i64 0, .int .i64 0] 93)) 93 w.heap.size [.slice none 0 0, .slice none 0 0, .slice none 0 0, .int .i64 0, .int .i64 0, .int .i64 0] := RowT.new w 93 [.slice none 0 0, .slice none 0 0, .slice none 0 0, .int .i64 0, .int .i64 0, .int .i64 0]
  have HX := hid (show RdAt (w.alloc (.cells #[.slice none 0 0, .slice none 0 0, .slice none 0 0, .int .i64 0, .int .i64 0, .int .i64 0] 93)) w.heap.size w.heap.size (.slice none 0 0) (.slice none 0 0) (.slice none 0 0) [] [] [] 0 from ⟨hrow, World.ownsRow_nil _ _ _ _, World.ownsRow_nil _ _ _ _, World.ownsRow_nil _ _ _ _, (fun m hm => by cases hm), Nat.le_refl _⟩)
  have HB := hid hb0
  obtain ⟨X, hX⟩ : ∃ X, expandP (L s) = X := ⟨_, rfl⟩
  have HXP := hid hX
  unfold expandP at hX
  rw [L_length] at hX
  clear hb0 hrow
  go_enter Tryz.func39, Tryz.ntmps39
  go_upto_region 2 with fail
  generalize w.alloc (.cells #[.slice none 0 0, .slice none 0 0, .slice none 0 0, .int .i64 0, .int .i64 0, .int .i64 0] 93) = w1 at HX HB ⊢
  by_cases h3 : 3000 < s.size
  · rw [if_pos h3] at hX
    have k3 : decide ((3000 : Int) < s.size) = true := by simp; omega
    have HXR := hid hX
    clear hX
    go_wp2_with (first | (go_at_call 60; refine (bad_any _ w.heap.size _ _ _ _ _ 1 0 HX.out.row).mono ?_; rintro e w2 ⟨rfl, rfl⟩))
    go_ret
    obtain ⟨p1, p2⟩ := bad_post (B := w.heap.size) (er := 1) (at_ := 0) HX.out.row (Nat.le_refl _)
    refine ⟨HB.out.trans (p1.below HB.out.size), w.heap.size, Nat.le_refl _, rfl, Or.inl ?_⟩
    rw [HXP.out, ← HXR.out]
    exact ⟨by decide, rfl, p2⟩
  · rw [if_neg h3] at hX
    have k3 : decide ((3000 : Int) < s.size) = false := by simp; omega
    go_wp2_with fail
    refine (lines_any s w1 (by omega)).mono ?_
    rintro e w2 ⟨hb2, hcase⟩
    have HX := hid (HX.out.below hb2)
    have HB := hid (HB.out.trans (hb2.mono HB.out.size))
    rcases hcase with ⟨hbad, rfl⟩ | ⟨hgood, lv, ls, rfl, hls, hst⟩
    · rw [if_pos hbad] at hX
      obtain ⟨bn, hbn⟩ : ∃ bn, badLine (splitB 10 (L s)) 1 = bn := ⟨_, rfl⟩
      rw [hbn] at hX hbad ⊢
      have hbp : 0 < bn := by omega
      have k5 : (0 : Int) < (bn : Int) := by omega
      have HXR := hid hX
      clear hX hb2 hbn hbad
      go_wp2_with (first | (go_at_call 60; refine (bad_any _ w.heap.size _ _ _ _ _ 1 bn HX.out.row).mono ?_; rintro e w3 ⟨rfl, rfl⟩))
      go_ret
      obtain ⟨p1, p2⟩ := bad_post (B := w.heap.size) (er := 1) (at_ := bn) HX.out.row (Nat.le_refl _)
      refine ⟨HB.out.trans (p1.below HB.out.size), w.heap.size, Nat.le_refl _, rfl, Or.inl ?_⟩
      rw [HXP.out, ← HXR.out]
      exact ⟨by simp, rfl, p2⟩
    · rw [if_neg (by simp [hgood])] at hX
      obtain ⟨la, lc, hlv⟩ := hst.form
      subst hlv
      have HXR := hid hX
      have HLS := hid hls
      have hlen : ls.length ≤ 3001 := by
        have h1 := congrArg List.length hls
        have h2 := splitB_len 10 (L s)
        rw [List.length_map] at h1
        rw [L_length] at h2
        omega
      have HSZ := hid (show ∀ j (h : j < ls.length), ls[j].size ≤ 100 from fun j h => by
        have h1 := badLine_ok (splitB 10 (L s)) 1 (by omega) hgood (L ls[j]) (by rw [← hls]; exact List.mem_map.2 ⟨_, List.getElem_mem h, rfl⟩)
        rw [L_length] at h1
        omega)
      have hb3 : Below w2.heap.size w2 (w2.alloc (.cells #[.slice la ls.length lc, .int .i64 0, .pointer none, .slice none 0 0, .int .i64 0, .slice none 0 0, .pointer none] 130)) := (Below.refl _ _).alloc (Nat.le_refl _) _
      have HX3 := hid (HX.out.below hb3)
      have HB3 := hid (HB.out.trans (hb3.mono HB.out.size))
      have HST3 := hid ((hst.mono (Nat.zero_le _)).below hb3)
      have HRX := hid (show RowT (w2.alloc (.cells #[.slice la ls.length lc, .int .i64 0, .pointer none, .slice none 0 0, .int .i64 0, .slice none 0 0, .pointer none] 130)) 130 w2.heap.size [.slice la ls.length lc, .int .i64 0, .pointer none, .slice none 0 0, .int .i64 0, .slice none 0 0, .pointer none] from RowT.new w2 130 [.slice la ls.length lc, .int .i64 0, .pointer none, .slice none 0 0, .int .i64 0, .slice none 0 0, .pointer none])
      have hBx : w.heap.size ≤ w2.heap.size := HB.out.size
      clear hX hb2 hb3 hls hst hgood HX HB
      go_upto_region 10 with fail
      generalize w2.alloc (.cells #[.slice la ls.length lc, .int .i64 0, .pointer none, .slice none 0 0, .int .i64 0, .slice none 0 0, .pointer none] 130) = w3 at HX3 HB3 HST3 HRX ⊢
      go_wp2_with fail
      refine (goesT_any w3 w.heap.size w2.heap.size w.heap.size _ _ ls HRX.out hBx ⟨_, _, _, _, _, _, _, HX3.out, rfl⟩ HST3.out hlen HSZ.out HB3.out.size).mono ?_
      rintro e w4 ⟨rfl, hb4, hok4, her4⟩
      have HB4 := hid (HB3.out.trans hb4)
      have HOK4 := hid hok4
      have HER4 := hid her4
      clear hb4 hok4 her4
      go_wp2_with fail
      go_ret
      refine ⟨HB4.out, w.heap.size, Nat.le_refl _, rfl, ?_⟩
      rw [HXP.out]
      have h5 := HOK4.out
      have h6 := HER4.out
      rw [HLS.out] at h5 h6
      have h7 := HXR.out
      by_cases h0 : (blockP (callN 8) none 1 (splitB 10 (L s)) 0 [] none noSt).1 = 0
      · rw [if_neg (by simp [h0])] at h7
        rw [← h7]
        exact Or.inr ⟨rfl, rfl, _, h5 h0, rfl⟩
      · rw [if_pos h0] at h7
        rw [← h7]
        exact Or.inl ⟨h0, rfl, h6 h0⟩

set_option maxRecDepth 100000 in
set_option maxHeartbeats 1600000 in
theorem rExpand_any (s : ByteArray) (w : World) (hs : s.size ≤ maxLen) : Calls Tryz.prog 26 #[.string s] w (RExpandPost (expandP (L s)) w) := by
  have hc := read_any s w hs
  have HC := hid hc
  clear hc
  go_enter Tryz.func26, Tryz.ntmps26
  go_wp2_with fail
  refine HC.out.mono ?_
  rintro e w1 ⟨hb1, r, hr, rfl, hcase⟩
  have HB := hid hb1
  clear hb1 HC
  rcases hcase with ⟨h0, ho, hre⟩ | ⟨h0, hp, st, hst, ho⟩
  · obtain ⟨a, b, c, d, hre⟩ := hre
    obtain ⟨er, her⟩ : ∃ er, (expandP (L s)).1 = er := ⟨_, rfl⟩
    obtain ⟨an, han⟩ : ∃ an, (expandP (L s)).2.1 = an := ⟨_, rfl⟩
    rw [her] at h0 hre
    rw [han] at hre
    have e4 : w1.cell? ⟨r, 4, none⟩ = some (.int .i64 er) := hre.cell 4 (by simp)
    have e5 : w1.cell? ⟨r, 5, none⟩ = some (.int .i64 (an : Nat)) := hre.cell 5 (by simp)
    have k0 : (er != 0) = true := by rw [bne_iff_ne]; exact h0
    have HO := hid ho
    have HER := hid her
    have HAN := hid han
    clear hre h0 ho her han
    go_upto_region 3 with fail
    go_quiet (fail)
    go_wp2_with fail
    refine bodyPost_ret (v := .tuple #[.slice none 0 0, .int .i64 er, .int .i64 (an : Nat)]) (by simp [results, Tryz.results26]) rfl ?_
    refine ⟨below_drewN HB.out _, .slice none 0 0, [], ?_, ?_, World.ownsRow_nil _ _ _ _⟩
    · rw [HER.out, HAN.out]
    · rw [HO.out]; rfl
  · obtain ⟨vm, vn, vl, ms, ns, outs, calls, hx, rfl⟩ := hst
    have e4 : w1.cell? ⟨r, 4, none⟩ = some (.int .i64 0) := hx.row.cell 4 (by simp)
    have e2 : w1.cell? ⟨r, 2, none⟩ = some vl := hx.row.cell 2 (by simp)
    obtain ⟨al, cl, hvl⟩ := own_form hx.lown
    subst hvl
    have HX := hid hx
    have HO := hid ho
    have H0 := hid h0
    have HP := hid hp
    clear hx h0 hp ho
    go_wp2_with fail
    refine bodyPost_ret (v := .tuple #[.slice al outs.length cl, .int .i64 0, .int .i64 0]) (by simp [results, Tryz.results26]) rfl ?_
    refine ⟨HB.out, .slice al outs.length cl, outs, ?_, ?_, HX.out.lown⟩
    · rw [H0.out, HP.out]; rfl
    · rw [HO.out]; rfl

end Go.Proofs.YtcepppilgncdmaaGreatDoor

namespace Go.Proofs.YtcepppilgncdmaaGreatDoor
open Go.RowKit

theorem lineCells_len2 (outs : List (ByteArray × Nat)) : (lineCells outs).length = outs.length * 4 := by
  induction outs with
  | nil => rfl
  | cons x r ih => simp only [lineCells, List.length_cons, ih]; omega
theorem lineCells_at2 (outs : List (ByteArray × Nat)) : ∀ (i : Nat) (h : i < outs.length), (lineCells outs)[i * 4]? = some (.string outs[i].1) ∧ (lineCells outs)[i * 4 + 1]? = some (.int .i64 (outs[i].2 : Nat)) ∧ (lineCells outs)[i * 4 + 2]? = some (.int .i64 0) ∧ (lineCells outs)[i * 4 + 3]? = some (.int .i64 0) := by
  induction outs with
  | nil => intro i h; simp at h
  | cons x r ih =>
    intro i h
    cases i with
    | zero => simp [lineCells]
    | succ i =>
      have := ih i (by simpa using h)
      rw [show (i + 1) * 4 = i * 4 + 1 + 1 + 1 + 1 from by omega]
      simp only [lineCells, show i * 4 + 1 + 1 + 1 + 1 + 1 = (i * 4 + 1) + 1 + 1 + 1 + 1 from rfl, show i * 4 + 1 + 1 + 1 + 1 + 2 = (i * 4 + 2) + 1 + 1 + 1 + 1 from by omega, show i * 4 + 1 + 1 + 1 + 1 + 3 = (i * 4 + 3) + 1 + 1 + 1 + 1 from by omega, List.getElem?_cons_succ, List.getElem_cons_succ]
      exact this

/-- The lines of an answer lie in the world. -/
theorem lines_lie2 {w : World} {base : Nat} {vl : Value} {outs : List (ByteArray × Nat)} (h : w.ownsRow base 38 4 vl outs.length (lineCells outs)) (h0 : 0 < outs.length) :
    ∃ g cap, vl = .slice (some ⟨g, 0, none⟩) outs.length cap ∧ base ≤ g ∧ g < w.heap.size ∧ ∀ i (h : i < outs.length), w.cell? ⟨g, i * 4, none⟩ = some (.string outs[i].1) ∧ w.cell? ⟨g, i * 4 + 1, none⟩ = some (.int .i64 (outs[i].2 : Nat)) ∧ w.cell? ⟨g, i * 4 + 2, none⟩ = some (.int .i64 0) ∧ w.cell? ⟨g, i * 4 + 3, none⟩ = some (.int .i64 0) := by
  obtain ⟨g, cap, rfl, hb, hlt⟩ := h.form (by omega)
  refine ⟨g, cap, rfl, hb, hlt, fun i hi => ?_⟩
  obtain ⟨c1, c2, c3, c4⟩ := lineCells_at2 outs i hi
  rw [h.cellAt (i * 4) (by omega), h.cellAt (i * 4 + 1) (by omega), h.cellAt (i * 4 + 2) (by omega), h.cellAt (i * 4 + 3) (by omega)]
  exact ⟨c1, c2, c3, c4⟩


theorem grown_below {w w' : World} (h : Below w.heap.size w w') : w.grownBy w' none := ⟨h.os, h.tape, h.output, h.size, fun k hk _ => h.block k hk⟩
theorem own_grown {w w' : World} {b e s n : Nat} {v : Value} {xs : List Value} (h : w.ownsRow b e s v n xs) (hg : w.grownBy w' none) : w'.ownsRow b e s v n xs := h.kept hg (by cases hub : v.ownBlock <;> simp)

set_option maxRecDepth 100000 in
set_option maxHeartbeats 800000 in
theorem same_any (w : World) (lo B kb : Nat) (vb nv bv : Value) (us : List Value) (a b : Option Addr) (cap cap2 : Nat) (outs : List (ByteArray × Nat)) (er : Int) (hbk : BookAt w lo B kb vb nv bv us) (hB : B ≤ w.heap.size) (hlo : lo ≤ B)
    (hl : w.ownsRow B 38 4 (.slice a outs.length cap) outs.length (lineCells outs)) (hm : w.ownsRow B 38 4 (.slice b outs.length cap2) outs.length (lineCells outs)) (hn : outs.length ≤ 300) (hus : us.length % 4 = 0) (hN : (us.length + 4) * 24 ≤ 140737488355328) (her : er ≠ 0 → a = none) :
    Calls Tryz.prog 27 #[.pointer (some ⟨kb, 0, none⟩), .slice a outs.length cap, .slice b outs.length cap2, .int .i64 er] w fun e w' => e = .returned (.bool true) ∧ ∃ vb' us', us'.length = 4 ∧ BookAt w' lo w'.heap.size kb vb' nv bv (us ++ us') ∧ (∀ p, vb'.ownBlock = some p → vb.ownBlock = some p ∨ B ≤ p) ∧ Keeps (kb :: (vb.ownBlock.toList ++ (Value.slice a outs.length cap).ownBlock.toList)) w w' := by
  obtain ⟨n, hne⟩ : ∃ n, outs.length = n := ⟨_, rfl⟩
  rw [hne] at hl hm hn ⊢
  have HBK := hid hbk
  have HL := hid hl
  have HM := hid hm
  have HER := hid her
  clear hbk hl hm her
  have heq := fun (wx : World) => Lib.run_eql_slice_nil (P := Tryz.prog) wx 26 38 a n cap 0 0 Tryz.underlying26
  have hcase : a = none ∨ (∃ p, a = some p) ∧ er = 0 := by
    cases a with
    | none => exact Or.inl rfl
    | some p => exact Or.inr ⟨⟨p, rfl⟩, Classical.byContradiction fun h => by cases HER.out h⟩
  go_enter Tryz.func27, Tryz.ntmps27
  rcases hcase with rfl | ⟨⟨p, rfl⟩, rfl⟩
  · have hn0 : n = 0 := by
      rcases HL.out.2 with ⟨h, h0⟩ | ⟨g, c', cur, h, _⟩
      · exact h0
      · cases h
    subst hn0
    go_wp2_with fail
    refine wp_loop_rounds 1 ?_
    rw [rounds_succ]
    go_wp2_with fail
    refine (keepsLines_any w lo B kb vb nv bv us none 0 cap _ HBK.out hB hlo HL.out (by omega) hus hN).mono ?_
    rintro e w2 ⟨rfl, hrest⟩
    have HREST := hid hrest
    clear hrest
    go_wp2
    go_ret
    exact ⟨rfl, HREST.out⟩
  · obtain ⟨g, hp, hBg, hgl⟩ : ∃ g, p = ⟨g, 0, none⟩ ∧ B ≤ g ∧ g < w.heap.size := by
      rcases HL.out.2 with ⟨h, h0⟩ | ⟨g, c', cur, h, h1, h2, _⟩
      · cases h
      · cases h; exact ⟨g, rfl, h1, (Array.getElem?_eq_some_iff.1 h2).1⟩
    subst hp
    go_wp2_with fail
    go_loopw [9, 10] (fun ok i wr => ∃ t : Nat, t ≤ n ∧ ok = .bool true ∧ i = .int .i64 t ∧ Below w.heap.size w wr) (fun _ i _ => n - (intOf i).toNat)
    case atStart => exact ⟨0, Nat.zero_le _, rfl, rfl, Below.refl _ _⟩
    case round =>
      obtain ⟨t, ht, rfl, rfl, hbr⟩ := hrel
      have HBR := hid hbr
      have hgr := grown_below hbr
      have HLR := hid (own_grown HL.out hgr)
      have HMR := hid (own_grown HM.out hgr)
      clear hbr hgr
      by_cases hlt : t < n
      · have d1 : decide ((t : Int) < (n : Int)) = true := by simp; omega
        obtain ⟨gm, cm, hv, _, _⟩ := HMR.out.form (by omega)
        simp only [Value.slice.injEq, true_and] at hv
        obtain ⟨rfl, rfl⟩ := hv
        obtain ⟨x0, x1, x2, x3⟩ := lineCells_at2 outs t (by omega)
        have l0 := (HLR.out.cellAt (t * 4) (by omega)).trans x0
        have l1 := (HLR.out.cellAt (t * 4 + 1) (by omega)).trans x1
        have l2 := (HLR.out.cellAt (t * 4 + 2) (by omega)).trans x2
        have l3 := (HLR.out.cellAt (t * 4 + 3) (by omega)).trans x3
        have m0 := (HMR.out.cellAt (t * 4) (by omega)).trans x0
        have m1 := (HMR.out.cellAt (t * 4 + 1) (by omega)).trans x1
        have m2 := (HMR.out.cellAt (t * 4 + 2) (by omega)).trans x2
        have m3 := (HMR.out.cellAt (t * 4 + 3) (by omega)).trans x3
        clear x0 x1 x2 x3
        obtain ⟨o, ho⟩ : ∃ o, outs[t] = o := ⟨_, rfl⟩
        rw [ho] at l0 l1 m0 m1
        clear ho
        obtain ⟨tx, fr⟩ := o
        simp only at l0 l1 m0 m1
        go_wp2_with fail
        go_quiet (fail)
        go_wp2_with fail
        go_roundw
        case rel => exact ⟨t + 1, by omega, by simp, by go_num, below_drewN HBR.out _⟩
        case measure => simp [intOf]; omega
      · have d1 : decide ((t : Int) < (n : Int)) = false := by simp; omega
        have htn : t = n := by omega
        go_wp2_with fail
        refine (keepsLines_any wr lo B kb vb nv bv us (some ⟨g, 0, none⟩) n cap _ (HBK.out.grown (grown_below HBR.out) (by simp)) (Nat.le_trans hB HBR.out.size) hlo HLR.out (by omega) hus hN).mono ?_
        rintro e w2 ⟨rfl, vb', us', h1, h2, h3, h4⟩
        have H2 := hid h2
        have H3 := hid h3
        have H4 := hid h4
        clear h2 h3 h4
        go_wp2
        go_ret
        exact ⟨rfl, vb', us', h1, H2.out, H3.out, (Keeps.of_below HBR.out).trans H4.out⟩

end Go.Proofs.YtcepppilgncdmaaGreatDoor

namespace Go.Proofs.YtcepppilgncdmaaGreatDoor
open Go.RowKit

theorem outs_same {xs ys : List (ByteArray × Nat)} {r : List (List UInt8 × Nat)} (h : (xs.map fun x : ByteArray × Nat => (L x.1, x.2)) = r) (k : (ys.map fun x : ByteArray × Nat => (L x.1, x.2)) = r) : ys = xs := by
  refine (List.map_inj_right (f := fun x : ByteArray × Nat => (L x.1, x.2)) ?_).1 (k.trans h.symm)
  rintro ⟨a, m⟩ ⟨b, n⟩ e
  simp only [Prod.mk.injEq] at e
  rw [L_inj e.1, e.2]
theorem own_slice {w : World} {b e s n : Nat} {v : Value} {xs : List Value} (h : w.ownsRow b e s v n xs) : ∃ a c, v = .slice a n c := by
  rcases h.2 with ⟨rfl, rfl⟩ | ⟨g, cap, cur, rfl, _⟩
  · exact ⟨_, _, rfl⟩
  · exact ⟨_, _, rfl⟩

set_option maxRecDepth 100000 in
set_option maxHeartbeats 800000 in
theorem step_exp (w : World) (lo kb : Nat) (vb : Value) (us : List Value) (A : Int) (S : ByteArray) (nv bv : Value) (la : Option Addr) (ln lc : Nat) (hs : S.size ≤ 140737488351232) (hmax : MaxAt w) (hbk : BookAt w lo w.heap.size kb vb nv bv us) (hlo : lo ≤ w.heap.size) (hus : us.length % 4 = 0) (hN : (us.length + 4) * 24 ≤ 140737488355328) :
    Calls Tryz.prog 18 #[.pointer (some ⟨kb, 0, none⟩), .agg #[.int .i64 2, .int .i64 A, .string S, .slice la ln lc]] w fun e w' => e = .returned (.bool true) ∧ ∃ vb' us', us'.length = 4 ∧ BookAt w' lo w'.heap.size kb vb' nv bv (us ++ us') ∧ (∀ p, vb'.ownBlock = some p → vb.ownBlock = some p ∨ w.heap.size ≤ p) ∧ Keeps (kb :: vb.ownBlock.toList) w w' := by
  have hs2 : S.size ≤ maxLen := by unfold maxLen; omega
  have HBK := hid hbk
  have HMAX := hid hmax
  clear hbk hmax
  obtain ⟨r, hr⟩ : ∃ r, expandP (L S) = r := ⟨_, rfl⟩
  have HR := hid hr
  clear hr
  go_enter Tryz.func18, Tryz.ntmps18
  go_wp2_with fail
  have hb0 : Below w.heap.size w (w.alloc (Obj.cells #[Value.int IntKind.i64 2, Value.int IntKind.i64 A, Value.string S, Value.slice la ln lc] 57)) := (Below.refl _ _).alloc (Nat.le_refl _) _
  have hc0 : (w.alloc (Obj.cells #[Value.int IntKind.i64 2, Value.int IntKind.i64 A, Value.string S, Value.slice la ln lc] 57)).cell? ⟨w.heap.size, 2, none⟩ = some (.string S) := by simp
  have hz0 : w.heap.size < (w.alloc (Obj.cells #[Value.int IntKind.i64 2, Value.int IntKind.i64 A, Value.string S, Value.slice la ln lc] 57)).heap.size := by simp
  generalize w.alloc (Obj.cells #[Value.int IntKind.i64 2, Value.int IntKind.i64 A, Value.string S, Value.slice la ln lc] 57) = w1 at *
  have HB0 := hid hb0
  have HMAX1 := hid (HMAX.out.below hb0)
  clear hb0
  refine (mExpand_nil S w1 hs2 HMAX1.out).mono ?_
  rintro e w2 ⟨⟨hb2, vl, outs, rfl, ho, hle, hown⟩, hnil⟩
  rw [HR.out] at ho hnil ⊢
  have hc2 := (hb2.cell (p := ⟨w.heap.size, 2, none⟩) hz0).trans hc0
  have HNIL := hid hnil
  have HO := hid ho
  have HB2 := hid (HB0.out.trans (hb2.mono (Nat.le_of_lt hz0)))
  have HOWN := hid (own_mono hown (Nat.le_of_lt hz0))
  obtain ⟨a, ca, hv⟩ := own_slice hown
  subst hv
  have hz2 : w.heap.size < w2.heap.size := Nat.lt_of_lt_of_le hz0 hb2.size
  clear hb2 ho hnil hown hc0
  go_wp2_with fail
  refine (rExpand_any S w2 hs2).mono ?_
  rintro e w3 ⟨hb3, vm, outs2, rfl, ho2, hown3⟩
  rw [HR.out] at ho2 ⊢
  have he := outs_same HO.out ho2
  subst he
  obtain ⟨b, cb, hv⟩ := own_slice hown3
  subst hv
  have HB3 := hid (HB2.out.trans (hb3.mono (Nat.le_of_lt hz2)))
  have HL3 := hid (own_grown HOWN.out (grown_below hb3))
  have HM3 := hid (own_mono hown3 (Nat.le_of_lt hz2))
  clear hb3 ho2 hown3 HOWN HO
  have hbk3 := HBK.out.grown (grown_below HB3.out) (by simp)
  have HBK3 := hid hbk3
  clear hbk3
  have hne : r.1 ≠ 0 → a = none := fun h => by
    obtain ⟨x, y, h1⟩ := HNIL.out h
    simp only [Ending.returned.injEq, Value.tuple.injEq] at h1
    injection h1 with h1
    injection h1 with h1 _
    injection h1
  have HNE := hid hne
  clear hne HNIL
  go_wp2_with fail
  refine (same_any w3 lo w.heap.size kb vb nv bv us a b ca cb outs2 r.1 HBK3.out HB3.out.size hlo HL3.out HM3.out hle hus hN HNE.out).mono ?_
  rintro e w4 ⟨rfl, vb', us', h1, h2, h3, h4⟩
  have H2 := hid h2
  have H3 := hid h3
  have H4 := hid h4
  clear h2 h3 h4
  go_wp2_with fail
  go_ret
  refine ⟨rfl, vb', us', h1, H2.out, H3.out, ?_⟩
  have h4 := H4.out
  have h3 := HB3.out
  refine ⟨h4.os.trans h3.os, h4.tape.trans h3.tape, h4.output.trans h3.output, Nat.le_trans h3.size h4.size, fun k hk hm => ?_⟩
  rw [h4.block k (Nat.lt_of_lt_of_le hk h3.size) ?_]
  · exact h3.block k hk
  · intro hh
    simp only [List.mem_cons, List.mem_append, Option.mem_toList] at hh hm
    rcases hh with hh | hh | hh
    · exact hm (Or.inl hh)
    · exact hm (Or.inr hh)
    · have := own_geK HL3.out hh
      omega

end Go.Proofs.YtcepppilgncdmaaGreatDoor

namespace Go.Proofs.YtcepppilgncdmaaGreatDoor
open Go.RowKit

set_option maxRecDepth 100000 in
set_option maxHeartbeats 1000000 in
theorem plays_expands (a : Option Addr) (cap : Nat) (os : List OpD) (w : World) (hl : os.length ≤ 1048576) (hat : OpsAt w a os) (hok : ∀ o ∈ os, OpOk w o) (hmax : MaxAt w) :
    Calls Tryz.prog 9 #[.slice a os.length cap, .int .i64 2, .int .i64 2] w fun e w' => e = .returned (.bool true) ∧ Below w.heap.size w w' := by
  have HAT := hid hat
  have HOK := hid hok
  have HMAX := hid hmax
  clear hat hok hmax
  obtain ⟨i0, hi0, hz0, hz1, hz2⟩ := info_parts infoOp
  go_enter Tryz.func9, Tryz.ntmps9
  go_upto_region 2 with (first | (go_at_call 17; refine (first_any _).mono ?_; rintro e w1 ⟨rfl, rfl⟩))
  have hown0 := owns_first w
  have hb0 : Below w.heap.size w (w.alloc (.cells firstCells.toArray 57)) := (Below.refl _ _).alloc (Nat.le_refl _) _
  have hsz0 : (w.alloc (.cells firstCells.toArray 57)).heap.size = w.heap.size + 1 := by simp
  generalize hw1 : w.alloc (.cells firstCells.toArray 57) = w1 at *
  have HB0 := hid hb0
  clear hw1 hb0
  go_cut [7] (fun v wx => ∃ g c, v = .slice (some ⟨g, 0, none⟩) (3 + os.length) c ∧ wx.ownsRow w.heap.size 57 4 (.slice (some ⟨g, 0, none⟩) (3 + os.length) c) (3 + os.length) (cellsO (firstOps ++ os)) ∧ Below w.heap.size w wx)
  case first =>
    rcases HAT.out with ⟨rfl, rfl⟩ | ⟨ad, rfl, hc⟩
    · go_wp2
      go_meet
      case rel => exact ⟨w.heap.size, 3, rfl, by simpa [firstOps_cells] using hown0, HB0.out⟩
    · have hc1 : ∀ j v, (cellsO os)[j]? = some v → w1.cell? (ad.add j) = some v := fun j v hv => by
        have h := hc j v hv
        rw [HB0.out.cell (p := ad.add j) (World.block_lt_of_cell? w _ h)]; exact h
      go_wp2_with ((at_builtin; refine wpList_append_own _ rfl (.tmp 13) (.tmp 14) 22 rfl w.heap.size 57 i0 _ 4 56 Tryz.underlying22 hi0 hz0 hz1 hz2 rfl (by omega) _ 3 firstCells rfl hown0 ad os.length cap (cellsO os) rfl (cellsO_length os) hc1 (cellsO_one os) (by unfold maxLen; omega) (by omega) (by omega) ?_; intro v' w2 hown2 hgrow2 hnil2; obtain ⟨g, c, hv, hgb, hgl⟩ := hown2.form (by omega); subst hv))
      go_meet
      case rel => exact ⟨g, c, rfl, by rw [cellsO_append, firstOps_cells]; exact hown2, HB0.out.grown hgrow2 HB0.out.size (fun k hk => by have h : some w.heap.size = some k := hk; injection h with h; omega)⟩
  case rest =>
    obtain ⟨g, c, rfl, hown, hbel⟩ := hcut
    have HOWN := hid hown
    have HBEL := hid hbel
    clear hown hbel hown0 HB0 hsz0 hi0 hz0 hz1 hz2 HAT
    obtain ⟨al, hal⟩ : ∃ al, firstOps ++ os = al := ⟨_, rfl⟩
    have hall : al.length = 3 + os.length := by rw [← hal, List.length_append]; rfl
    have hgok : ∀ o ∈ al, OpOk w o := by
      rw [← hal]
      intro o ho
      rcases List.mem_append.1 ho with h | h
      · exact firstOps_ok w o h
      · exact HOK.out o h
    have HGOK := hid hgok
    have HOWN1 := hid (show wc.ownsRow w.heap.size 57 4 (.slice (some ⟨g, 0, none⟩) (3 + os.length) c) (3 + os.length) (cellsO al) by rw [← hal]; exact HOWN.out)
    clear hal hgok HOWN HOK
    go_wp2_with fail
    have hkb : (wc.alloc (Obj.cells #[Value.slice none 0 0, Value.slice none 0 0, Value.slice none 0 0] 55)).cell? ⟨wc.heap.size, 0, none⟩ = some (.slice none 0 0) ∧ (wc.alloc (Obj.cells #[Value.slice none 0 0, Value.slice none 0 0, Value.slice none 0 0] 55)).cell? ⟨wc.heap.size, 1, none⟩ = some (.slice none 0 0) ∧ (wc.alloc (Obj.cells #[Value.slice none 0 0, Value.slice none 0 0, Value.slice none 0 0] 55)).cell? ⟨wc.heap.size, 2, none⟩ = some (.slice none 0 0) := ⟨by simp [go_sem], by simp [go_sem], by simp [go_sem]⟩
    have hkz : wc.heap.size < (wc.alloc (Obj.cells #[Value.slice none 0 0, Value.slice none 0 0, Value.slice none 0 0] 55)).heap.size := by simp
    have hownk := HOWN1.out.alloc (Obj.cells #[Value.slice none 0 0, Value.slice none 0 0, Value.slice none 0 0] 55)
    have hbk : Below w.heap.size w (wc.alloc (Obj.cells #[Value.slice none 0 0, Value.slice none 0 0, Value.slice none 0 0] 55)) := HBEL.out.alloc HBEL.out.size _
    have hrow := RowT.new wc 55 [Value.slice none 0 0, Value.slice none 0 0, Value.slice none 0 0]
    simp only [List.toArray] at hrow
    have hgk : g < wc.heap.size := (HOWN1.out.form (by omega)).elim fun _ h => h.elim fun _ h => by cases h.1; exact h.2.2
    have hwk0 : w.heap.size ≤ wc.heap.size := HBEL.out.size
    generalize wc.heap.size = kb at *
    generalize hwk : wc.alloc (Obj.cells #[Value.slice none 0 0, Value.slice none 0 0, Value.slice none 0 0] 55) = wk at *
    have HKB := hid hkb
    have HOWNK := hid hownk
    have HBK := hid hbk
    clear hkb hownk hbk HOWN1 hwk HBEL
    have hmg : 0 < w.heap.size := by
      obtain ⟨m, h1⟩ := HMAX.out
      exact World.block_lt_of_cell? _ _ h1
    have hbk0 : BookAt wk kb wk.heap.size kb (.slice none 0 0) (.slice none 0 0) (.slice none 0 0) [] := ⟨hrow, Nat.le_refl _, hkz, World.ownsRow_nil _ _ _ _, (fun q h => by cases h), (fun i u h => by simp at h)⟩
    have HBK0 := hid hbk0
    have HMK := hid (HMAX.out.below (HBK.out.mono (Nat.le_refl _)))
    clear hbk0 hrow
    go_loopw [9] (fun i wr => ∃ (j : Nat) (vb : Value) (us : List Value), j ≤ 3 + os.length ∧ i = .int .i64 j ∧ us.length % 4 = 0 ∧ us.length ≤ 4 * j ∧ BookAt wr kb wr.heap.size kb vb (.slice none 0 0) (.slice none 0 0) us ∧ Below kb wk wr) (fun i _ => 3 + os.length - (intOf i).toNat)
    case atStart => exact ⟨0, _, [], Nat.zero_le _, rfl, rfl, Nat.zero_le _, HBK0.out, Below.refl _ _⟩
    case round =>
      obtain ⟨j, vb, us, hj, rfl, hu4, huj, hbk, hbr⟩ := hrel
      have HBKR := hid hbk
      have HBR := hid hbr
      have hkr : kb < wr.heap.size := hbk.row.lt
      have HBW := hid (HBK.out.trans (hbr.mono hwk0))
      clear hbk hbr
      by_cases hlt : j < 3 + os.length
      · have d1 : decide ((j : Int) < 3 + (os.length : Int)) = true := by simp; omega
        have d2 : decide ((j : Int) < 288230376151711744) = true := by simp; omega
        obtain ⟨e0, e1, e2, e3⟩ := cellsO_at al j (by omega)
        have q0 := (HBR.out.cell (p := ⟨g, j * 4, none⟩) hgk).trans ((HOWNK.out.cellAt (j * 4) (by omega)).trans e0)
        have q1 := (HBR.out.cell (p := ⟨g, j * 4 + 1, none⟩) hgk).trans ((HOWNK.out.cellAt (j * 4 + 1) (by omega)).trans e1)
        have q2 := (HBR.out.cell (p := ⟨g, j * 4 + 2, none⟩) hgk).trans ((HOWNK.out.cellAt (j * 4 + 2) (by omega)).trans e2)
        have q3 := (HBR.out.cell (p := ⟨g, j * 4 + 3, none⟩) hgk).trans ((HOWNK.out.cellAt (j * 4 + 3) (by omega)).trans e3)
        have hop : OpOk w al[j] := HGOK.out _ (List.getElem_mem _)
        clear e0 e1 e2 e3
        obtain ⟨o, ho⟩ : ∃ o, al[j] = o := ⟨_, rfl⟩
        rw [ho] at q0 q1 q2 q3 hop
        clear ho
        obtain ⟨kind, A, S, la, lc, ns⟩ := o
        simp only at q0 q1 q2 q3
        have hs : S.size ≤ 140737488351232 := hop.1
        clear hop
        by_cases hk : kind = 2
        · subst hk
          go_wp2_with fail
          refine (step_exp wr kb kb vb us A S _ _ la ns.length lc hs (HMAX.out.below HBW.out) HBKR.out (by omega) hu4 (by omega)).mono ?_
          rintro e w5 ⟨rfl, vb', us', h1, h2, h3, h4⟩
          have HBK5 := hid h2
          have HB5 := hid (HBR.out.trans (h4.below (B := kb) (Nat.le_of_lt hkr) (fun k hk => by
            simp only [List.mem_cons, Option.mem_toList] at hk
            rcases hk with hk | hk
            · omega
            · exact own_geK HBKR.out.own hk)))
          have hul : (us ++ us').length = us.length + 4 := by rw [List.length_append, h1]
          generalize us ++ us' = us2 at *
          clear h1 h2 h3 h4
          go_wp2_with fail
          refine (looks_any w5 kb w5.heap.size kb vb' us2 HBK5.out (by unfold maxLen; omega)).mono ?_
          rintro e w6 ⟨rfl, rfl⟩
          go_wp2
          go_roundw
          case rel => exact ⟨j + 1, vb', us2, by omega, by go_num, by omega, by omega, HBK5.out, HB5.out⟩
          case measure => simp [intOf]; omega
        · by_cases hk1' : kind < 2
          · have t1 : decide (kind < 2) = true := by simpa using hk1'
            go_wp2_with fail
            go_roundw
            case rel => exact ⟨j + 1, vb, us, by omega, by go_num, hu4, by omega, HBKR.out, HBR.out⟩
            case measure => simp [intOf]; omega
          · have t1 : decide (kind < 2) = false := by simpa using hk1'
            have t2 : decide (2 < kind) = true := by simp; omega
            go_wp2_with fail
            go_roundw
            case rel => exact ⟨j + 1, vb, us, by omega, by go_num, hu4, by omega, HBKR.out, HBR.out⟩
            case measure => simp [intOf]; omega
      · have d1 : decide ((j : Int) < 3 + (os.length : Int)) = false := by simp; omega
        go_wp2_with fail
        go_ret
        exact ⟨rfl, HBW.out⟩

theorem Expands_any (a : Option Addr) (cap : Nat) (os : List OpD) (w : World) (hl : os.length ≤ 1048576) (hat : OpsAt w a os) (hok : ∀ o ∈ os, OpOk w o) (hmax : MaxAt w) :
    Calls Tryz.prog 4 #[.slice a os.length cap] w fun e w' => e = .returned (.bool true) ∧ Below w.heap.size w w' := by
  have HAT := hid hat
  have HOK := hid hok
  have HMAX := hid hmax
  clear hat hok hmax
  go_enter Tryz.func4, Tryz.ntmps4
  go_wp2_with fail
  refine (plays_expands a cap os _ hl HAT.out HOK.out HMAX.out).mono ?_
  rintro e w1 ⟨rfl, hb⟩
  go_wp2
  go_ret
  exact ⟨rfl, hb⟩

end Go.Proofs.YtcepppilgncdmaaGreatDoor
