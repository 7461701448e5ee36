/-
  What the document's own function that calls a macro (package masonref) answers, if what goes through the macro's lines answers as it should.
  What the document's own function of a condition's turn and end (package masonref) answers, said by the plain functions.
-/
import Derived.Test.YtcepppilgncdmaaGreatDoorBE16
import Derived.Test.YtcepppilgncdmaaGreatDoorBE12
namespace Go.Proofs.YtcepppilgncdmaaGreatDoor
open Go.RowKit
attribute [local go_sem ↓] Go.wp_at_zero Go.wp_at_succ

def noSemi (l : List UInt8) : Prop := ∀ c ∈ l, ¬ (c.toNat : Int) = 59
/-- What goes through a macro's lines has to answer, where n more macros may be called. -/
def GoesM (n : Nat) : Prop := ∀ (w : World) (B x r at_ k : Nat) (ov : Value) (m : MacQ) (os : List ByteArray) (st : StP) (C : Nat), RowT w 130 x [m.bv, .int .i64 (at_ : Nat), .pointer (some ⟨m.g, 0, none⟩), ov, .int .i64 ((8 - n : Nat) : Int), .slice none 0 0, .pointer none] → B ≤ x → MacRow w m → MacOk (plainQ m) →
  StrV w C ov os → os.length = m.ps.length → (∀ o ∈ os, o.size ≤ 100 ∧ noSemi (L o)) → RdSt w B r st → StOk st k → B ≤ w.heap.size →
  Calls Tryz.prog 62 #[.pointer (some ⟨x, 0, none⟩), .pointer (some ⟨r, 0, none⟩)] w (RdPost B r [x] at_ ((blockP (callN n) (some (m.ps.map L, os.map L)) 0 (m.bs.map L) at_ [] none st).1, (blockP (callN n) (some (m.ps.map L, os.map L)) 0 (m.bs.map L) at_ [] none st).2.2) w)
/-- What a call of a macro has to answer, where n more may be called. -/
def CallsOk (n : Nat) : Prop := ∀ (w : World) (B b r at_ k : Nat) (lv fv mv pv vo xd : Value) (m : MacQ) (st : StP) (lb op : ByteArray) (va : Option Addr) (vc : Nat) (os : List ByteArray) (W : WordsP) (C : Nat), RowT w 130 b [lv, fv, mv, pv, .int .i64 ((8 - n : Nat) : Int), vo, xd] → RdSt w B r st → MacRow w m → MacOk (plainQ m) →
  PartsV w C lb op (.slice va os.length vc) os W → WOk W → (∀ o ∈ W.operands, noSemi o) → StOk st k → B ≤ w.heap.size →
  Calls Tryz.prog 133 #[.pointer (some ⟨b, 0, none⟩), .pointer (some ⟨r, 0, none⟩), .pointer (some ⟨m.g, 0, none⟩), .agg #[.string lb, .string op, .slice va os.length vc], .int .i64 (at_ : Nat)] w (RdPost B r [] at_ (callN n (plainQ m) W at_ st) w)

theorem RdAt.counted {w : World} {B r : Nat} {vm vn vl : Value} {ms : List MacQ} {ns : List (ByteArray × Int)} {outs : List (ByteArray × Nat)} {calls : Nat} (h : RdAt w B r vm vn vl ms ns outs calls) (n : Nat) :
    RdAt (w.setCell ⟨r, 3, none⟩ (.int .i64 (n : Nat))) B r vm vn vl ms ns outs n ∧ Fq B [] w (w.setCell ⟨r, 3, none⟩ (.int .i64 (n : Nat))) := by
  have hf : Fq B [] w (w.setCell ⟨r, 3, none⟩ (.int .i64 (n : Nat))) := (Fq.refl B [] w).setCell (p := ⟨r, 3, none⟩) (h.row.mayQ h.at_ (Or.inl rfl)) _
  exact ⟨⟨h.row.set 3 _, ownsRow_setCell_other h.mown (a := ⟨r, 3, none⟩) (own_row_ne h.mown h.row (by decide)) _, ownsRow_setCell_other h.nown (a := ⟨r, 3, none⟩) (own_row_ne h.nown h.row (by decide)) _, ownsRow_setCell_other h.lown (a := ⟨r, 3, none⟩) (own_row_ne h.lown h.row (by decide)) _, fun m hm => (h.macs m hm).fq hf (by simp), h.at_⟩, hf⟩

set_option maxRecDepth 100000 in
set_option maxHeartbeats 1600000 in
theorem calls_zero : CallsOk 0 := by
  intro w B b r at_ k lv fv mv pv vo xd m st lb op va vc os W C h hx hm hmo hp hw hse hok hB
  obtain ⟨vm, vn, vl, ms, ns, outs, calls, hx, hst⟩ := hx
  have hb0 : Below w.heap.size w (w.alloc (.cells #[.string lb, .string op, .slice va os.length vc] 134)) := (Below.refl _ _).alloc (Nat.le_refl _) _
  have HX := hid (hx.below hb0)
  have HR := hid (h.below hb0)
  have HF := hid (show Fq B [] w (w.alloc (.cells #[.string lb, .string op, .slice va os.length vc] 134)) from Fq.of_below hb0)
  clear hx h hm hmo hp hw hse hok hB hb0 hst
  go_enter Tryz.func133, Tryz.ntmps133
  go_upto_region 1 with fail
  generalize w.alloc (.cells #[.string lb, .string op, .slice va os.length vc] 134) = w1 at HX HR HF ⊢
  have c4 : w1.cell? ⟨b, 4, none⟩ = some (.int .i64 8) := HR.out.cell 4 (by simp)
  go_wp2_with (first | (go_at_call 60; refine (bad_any _ r _ _ _ _ _ 2 at_ HX.out.row).mono ?_; rintro e w2 ⟨rfl, rfl⟩))
  first | go_end0 | refine bodyPost_ret (results_none rfl _ _ _) rfl ?_
  exact rd_bad HX.out HF.out (by decide)

set_option maxRecDepth 100000 in
set_option maxHeartbeats 3200000 in
theorem calls_succ (n : Nat) (hn : n + 1 ≤ 8) (hg : GoesM n) : CallsOk (n + 1) := by
  intro w B b r at_ k lv fv mv pv vo xd m st lb op va vc os W C h hx hm hmo hp hw hse hok hB
  obtain ⟨vm, vn, vl, ms, ns, outs, calls, hx, hst⟩ := hx
  subst hst
  obtain ⟨x, hxr⟩ : ∃ x, callN (n + 1) (plainQ m) W at_ (stQ ms ns outs calls) = x := ⟨_, rfl⟩
  rw [hxr]
  obtain ⟨t1, t2, t3⟩ := hp.two
  obtain ⟨b1, b2, b3⟩ := hw.parts hp
  have hcl : calls ≤ 200 := by simpa [stQ] using hok.calls
  have hol : outs.length ≤ 300 := by simpa [stQ] using hok.out
  have hpl : m.ps.length ≤ 100 := by simpa [plainQ] using hmo.1
  have HSE := hid (show ∀ o ∈ os, o.size ≤ 100 ∧ noSemi (L o) from fun o ho => by
    obtain ⟨i, hi, rfl⟩ := List.getElem_of_mem ho
    exact ⟨b2 i hi, hse _ (by rw [← hp.ops]; exact List.mem_map.2 ⟨_, ho, rfl⟩)⟩)
  have hb0 : Below w.heap.size w (w.alloc (.cells #[.string lb, .string op, .slice va os.length vc] 134)) := (Below.refl _ _).alloc (Nat.le_refl _) _
  have HX := hid (hx.below hb0)
  have HR := hid (h.below hb0)
  have HM := hid (hm.below hb0)
  have HP := hid (hp.below hb0)
  have HMO := hid hmo
  have HOK := hid hok
  have HF := hid (show Fq B [] w (w.alloc (.cells #[.string lb, .string op, .slice va os.length vc] 134)) from Fq.of_below hb0)
  have HBX := hid (show RowT (w.alloc (.cells #[.string lb, .string op, .slice va os.length vc] 134)) 134 w.heap.size [.string lb, .string op, .slice va os.length vc] from RowT.new w 134 [.string lb, .string op, .slice va os.length vc])
  have HG := hid hg
  have hxl : w.heap.size ≤ (w.alloc (.cells #[.string lb, .string op, .slice va os.length vc] 134)).heap.size := HF.out.size
  clear hx h hm hmo hp hw hse hok hb0 b2 t3 hg
  rw [callN, t2] at hxr
  go_enter Tryz.func133, Tryz.ntmps133
  go_upto_region 1 with fail
  generalize w.alloc (.cells #[.string lb, .string op, .slice va os.length vc] 134) = w1 at HX HR HM HP HF HBX hxl ⊢
  obtain ⟨bx, hbx⟩ : ∃ bx, w.heap.size = bx := ⟨_, rfl⟩
  rw [hbx] at HBX ⊢
  clear hbx
  have y0 := HBX.out.cell 0 (by simp)
  have y2 := HBX.out.cell 2 (by simp)
  have c4 : w1.cell? ⟨b, 4, none⟩ = some (.int .i64 ((8 - (n + 1) : Nat) : Int)) := HR.out.cell 4 (by simp)
  obtain ⟨d, hd⟩ : ∃ d, 8 - (n + 1) = d := ⟨_, rfl⟩
  rw [hd] at c4 HR
  have hd8 : d < 8 := by omega
  have k4 : decide ((8 : Int) ≤ d) = false := by simp; omega
  obtain ⟨pa, pc, hpv⟩ := HM.out.ps.form
  have m1 : w1.cell? ⟨m.g, 1, none⟩ = some (.slice pa m.ps.length pc) := by rw [← hpv]; exact HM.out.row.cell 1 (by simp)
  have r3 : w1.cell? ⟨r, 3, none⟩ = some (.int .i64 (calls : Nat)) := HX.out.row.cell 3 (by simp)
  have hpl2 : (plainQ m).params.length = m.ps.length := by simp [plainQ]
  rw [hpl2] at hxr
  have HD := hid (show 8 - n = d + 1 by omega)
  clear hpv hpl2 hd
  by_cases hne : os.length = m.ps.length
  · rw [if_neg (fun c => c hne)] at hxr
    have kn : ((os.length : Int) != (m.ps.length : Int)) = false := by rw [bne_eq_false_iff_eq]; omega
    have HNE := hid hne
    clear hne
    go_upto_region 3 with fail
    go_quiet (fail)
    have hbq : Below w1.heap.size w1 (w1.drewN nq) := below_drewN (Below.refl _ _) _
    have HX := hid (HX.out.below hbq)
    have HF := hid (HF.out.trans (Fq.of_below hbq))
    have HM := hid (HM.out.below hbq)
    have HP := hid (HP.out.below hbq)
    have HBX := hid (HBX.out.below hbq)
    have HR := hid (HR.out.below hbq)
    clear hbq y0 y2 c4 m1 r3 hxl
    generalize w1.drewN nq = wq at HX HF HM HP HBX HR ⊢
    have r3 : wq.cell? ⟨r, 3, none⟩ = some (.int .i64 (calls : Nat)) := HX.out.row.cell 3 (by simp)
    have f3 := HX.out.row.free 3
    have hltr := HX.out.row.lt
    by_cases h200 : 200 ≤ calls
    · rw [if_pos (show 200 ≤ (stQ ms ns outs calls).calls from h200)] at hxr
      have k2 : decide ((200 : Int) ≤ calls) = true := by simp; omega
      have HXR := hid hxr
      clear hxr
      go_wp2_with (first | (go_at_call 60; refine (bad_any _ r _ _ _ _ _ 8 at_ HX.out.row).mono ?_; rintro e w2 ⟨rfl, rfl⟩))
      first | go_end0 | refine bodyPost_ret (results_none rfl _ _ _) rfl ?_
      rw [← HXR.out]
      exact rd_bad HX.out HF.out (by decide)
    · rw [if_neg (show ¬ 200 ≤ (stQ ms ns outs calls).calls from h200)] at hxr
      have k2 : decide ((200 : Int) ≤ calls) = false := by simp; omega
      have HOKC := hid (show StOk (stQ ms ns outs (calls + 1)) k from ⟨HOK.out.macs, HOK.out.names, HOK.out.out, by show calls + 1 ≤ 200; omega, HOK.out.few, HOK.out.taken⟩)
      have hlp : ∀ Z, (leaveP Z at_ (stQ ms ns outs calls)).1 = (leaveP Z at_ (stQ ms ns outs (calls + 1))).1 ∧ { (leaveP Z at_ (stQ ms ns outs calls)).2 with calls := (stQ ms ns outs calls).calls + 1 } = (leaveP Z at_ (stQ ms ns outs (calls + 1))).2 := by
        intro Z
        unfold leaveP
        by_cases h1 : textP Z = []
        · rw [if_pos h1, if_pos h1]; exact ⟨rfl, rfl⟩
        · rw [if_neg h1, if_neg h1]
          by_cases h2 : 300 ≤ (stQ ms ns outs calls).out.length
          · rw [if_pos h2, if_pos (show 300 ≤ (stQ ms ns outs (calls + 1)).out.length from h2)]; exact ⟨rfl, rfl⟩
          · rw [if_neg h2, if_neg (show ¬ 300 ≤ (stQ ms ns outs (calls + 1)).out.length from h2)]; exact ⟨rfl, rfl⟩
      rw [(hlp _).1, (hlp _).2] at hxr
      have HXR := hid hxr
      clear hxr hlp h200
      have hcn := HX.out.counted (calls + 1)
      have HX := hid hcn.1
      have HF := hid (HF.out.trans hcn.2)
      have HM := hid (HM.out.fq hcn.2 (by simp))
      have HP := hid (show PartsV _ C lb op _ os W from ⟨HP.out.label, HP.out.op, HP.out.ops, HP.out.at_.fq hcn.2⟩)
      have HBX := hid (HBX.out.frQ hcn.2 rfl (fun h => by cases h))
      have HR := hid (HR.out.frQ hcn.2 rfl (fun _ => by simp))
      clear hcn
      go_upto_region 8 with fail
      rw [show ((calls : Int) + 1) = ((calls + 1 : Nat) : Int) from by omega]
      generalize wq.setCell ⟨r, 3, none⟩ (.int .i64 ((calls + 1 : Nat) : Int)) = wl at HX HF HM HP HBX HR ⊢
      clear r3 f3 hltr
      have y0 := HBX.out.cell 0 (by simp)
      by_cases hlb : lb.size = 0
      · have kl := is_empty lb hlb
        have hxr := HXR.out
        rw [t1.2 hlb] at hxr
        have h00 : leaveP ⟨[], [], []⟩ at_ (stQ ms ns outs (calls + 1)) = (0, stQ ms ns outs (calls + 1)) := by unfold leaveP; rw [if_pos (by rfl)]
        rw [h00, if_neg (by simp)] at hxr
        have HXR := hid hxr
        have HOK2 := hid HOKC.out
        clear hxr h00 hlb
        have HM := hid (show MacRow wl m from HM.out)
        have y2 := HBX.out.cell 2 (by simp)
        have c4 : wl.cell? ⟨b, 4, none⟩ = some (.int .i64 (d : Nat)) := HR.out.cell 4 (by simp)
        obtain ⟨ba, bc, hbv⟩ := HM.out.bs.form
        have m2 : wl.cell? ⟨m.g, 2, none⟩ = some (.slice ba m.bs.length bc) := by rw [← hbv]; exact HM.out.row.cell 2 (by simp)
        have e4 : wl.cell? ⟨r, 4, none⟩ = some (.int .i64 0) := HX.out.row.cell 4 (by simp)
        have a1 : ∀ o, (wl.alloc o).cell? ⟨bx, 2, none⟩ = some (.slice va os.length vc) := fun o => (HBX.out.alloc o).cell 2 (by simp)
        have a2 : ∀ o, (wl.alloc o).cell? ⟨b, 4, none⟩ = some (.int .i64 (d : Nat)) := fun o => (HR.out.alloc o).cell 4 (by simp)
        have a3 : ∀ o, (wl.alloc o).cell? ⟨m.g, 2, none⟩ = some (.slice ba m.bs.length bc) := fun o => by rw [← hbv]; exact (HM.out.row.alloc o).cell 2 (by simp)
        go_upto_region 11 with fail
        go_region
        have hb5 : Below wl.heap.size wl (wl.alloc (.cells #[.slice ba m.bs.length bc, .int .i64 (at_ : Nat), .pointer (some ⟨m.g, 0, none⟩), .slice va os.length vc, .int .i64 ((d : Int) + 1), .slice none 0 0, .pointer none] 130)).drew := ((Below.refl _ _).alloc (Nat.le_refl _) _).drew
        have HX5 := hid (HX.out.below hb5)
        have HF5 := hid (HF.out.trans (Fq.of_below hb5))
        have HM5 := hid (HM.out.below hb5)
        have HP5 := hid (HP.out.below hb5)
        have HR5 := hid (show RowT (wl.alloc (.cells #[.slice ba m.bs.length bc, .int .i64 (at_ : Nat), .pointer (some ⟨m.g, 0, none⟩), .slice va os.length vc, .int .i64 ((d : Int) + 1), .slice none 0 0, .pointer none] 130)).drew 130 wl.heap.size [m.bv, .int .i64 (at_ : Nat), .pointer (some ⟨m.g, 0, none⟩), .slice va os.length vc, .int .i64 ((8 - n : Nat) : Int), .slice none 0 0, .pointer none] from by
          rw [HD.out, hbv]
          exact RowT.new wl 130 [.slice ba m.bs.length bc, .int .i64 (at_ : Nat), .pointer (some ⟨m.g, 0, none⟩), .slice va os.length vc, .int .i64 ((d : Int) + 1), .slice none 0 0, .pointer none])
        generalize (wl.alloc (.cells #[.slice ba m.bs.length bc, .int .i64 (at_ : Nat), .pointer (some ⟨m.g, 0, none⟩), .slice va os.length vc, .int .i64 ((d : Int) + 1), .slice none 0 0, .pointer none] 130)).drew = w5 at HX5 HF5 HM5 HP5 HR5 ⊢
        have HBV := hid hbv
        clear hbv
        have hxg : w.heap.size ≤ wl.heap.size := HF.out.size
        clear hb5 y2 c4 m2 e4 a1 a2 a3 HX HF HM HP HR HBX
        generalize wl.heap.size = gx at HR5 hxg ⊢
        go_wp2_with fail
        refine (HG.out w5 B gx r at_ k (.slice va os.length vc) m os _ C HR5.out (Nat.le_trans hB hxg) HM5.out HMO.out HP5.out.at_ HNE.out HSE.out ⟨_, _, _, _, _, _, _, HX5.out, rfl⟩ HOK2.out (Nat.le_trans hB HF5.out.size)).mono ?_
        rintro e w6 ⟨rfl, hf6, hst6, her6⟩
        go_wp2_with fail
        first | go_end0 | refine bodyPost_ret (results_none rfl _ _ _) rfl ?_
        rw [← HXR.out, ← HP5.out.ops]
        exact ⟨rfl, HF5.out.trans' hf6 (fun i hi => by rw [List.mem_singleton.1 hi]; exact Or.inr hxg), hst6, her6⟩
      · have kl := not_empty lb (by omega)
        have hnl : ¬ W.label = [] := fun c => hlb (t1.1 c)
        obtain ⟨Z, hZ⟩ : ∃ Z : WordsP, (⟨W.label, [], []⟩ : WordsP) = Z := ⟨_, rfl⟩
        have hne : textP Z ≠ [] := by
          rw [← hZ]
          simp [textP, hnl, joined]
        have hpz : PartsV wl C lb ⟨#[]⟩ (.slice none 0 0) [] Z := by
          rw [← hZ]
          exact ⟨HP.out.label, rfl, rfl, Or.inl ⟨rfl, rfl⟩⟩
        rw [hZ] at HXR
        have hlv := left_any wl B r at_ vm vn vl ms ns outs (calls + 1) lb ⟨#[]⟩ none 0 [] Z C HX.out hpz (Or.inr ⟨rfl, by omega, by decide⟩) hne hol (Nat.le_trans hB HF.out.size)
        have HLV := hid hlv
        clear hlv hpz hZ hne hnl hlb
        go_upto_region 10 with (first | (go_at_call 134; refine HLV.out.mono ?_; rintro e w2 ⟨rfl, hf2, hst2, her2⟩))
        have HR := hid (HR.out.frQ hf2 rfl (fun _ => by simp))
        have HM := hid (HM.out.fq hf2 (by simp))
        have HP := hid (show PartsV w2 C lb op _ os W from ⟨HP.out.label, HP.out.op, HP.out.ops, HP.out.at_.fq hf2⟩)
        have HBX := hid (HBX.out.frQ hf2 rfl (fun h => by cases h))
        have HF := hid (HF.out.trans hf2)
        clear hf2 y0
        by_cases h0 : (leaveP Z at_ (stQ ms ns outs (calls + 1))).1 = 0
        · obtain ⟨vl', outs', hx2, hs2⟩ := hst2 h0
          have hxr := HXR.out
          rw [if_neg (by simp [h0]), hs2] at hxr
          have HXR := hid hxr
          have HOK2 := hid (show StOk (stQ ms ns outs' (calls + 1)) k from hs2 ▸ leaveP_ok HOKC.out h0)
          have HX := hid hx2
          clear hxr hst2 her2 h0 hx2 hs2 HLV
          have HM := hid (show MacRow w2 m from HM.out)
          have y2 := HBX.out.cell 2 (by simp)
          have c4 : w2.cell? ⟨b, 4, none⟩ = some (.int .i64 (d : Nat)) := HR.out.cell 4 (by simp)
          obtain ⟨ba, bc, hbv⟩ := HM.out.bs.form
          have m2 : w2.cell? ⟨m.g, 2, none⟩ = some (.slice ba m.bs.length bc) := by rw [← hbv]; exact HM.out.row.cell 2 (by simp)
          have e4 : w2.cell? ⟨r, 4, none⟩ = some (.int .i64 0) := HX.out.row.cell 4 (by simp)
          have a1 : ∀ o, (w2.alloc o).cell? ⟨bx, 2, none⟩ = some (.slice va os.length vc) := fun o => (HBX.out.alloc o).cell 2 (by simp)
          have a2 : ∀ o, (w2.alloc o).cell? ⟨b, 4, none⟩ = some (.int .i64 (d : Nat)) := fun o => (HR.out.alloc o).cell 4 (by simp)
          have a3 : ∀ o, (w2.alloc o).cell? ⟨m.g, 2, none⟩ = some (.slice ba m.bs.length bc) := fun o => by rw [← hbv]; exact (HM.out.row.alloc o).cell 2 (by simp)
          go_upto_region 11 with fail
          go_region
          have hb5 : Below w2.heap.size w2 (w2.alloc (.cells #[.slice ba m.bs.length bc, .int .i64 (at_ : Nat), .pointer (some ⟨m.g, 0, none⟩), .slice va os.length vc, .int .i64 ((d : Int) + 1), .slice none 0 0, .pointer none] 130)).drew := ((Below.refl _ _).alloc (Nat.le_refl _) _).drew
          have HX5 := hid (HX.out.below hb5)
          have HF5 := hid (HF.out.trans (Fq.of_below hb5))
          have HM5 := hid (HM.out.below hb5)
          have HP5 := hid (HP.out.below hb5)
          have HR5 := hid (show RowT (w2.alloc (.cells #[.slice ba m.bs.length bc, .int .i64 (at_ : Nat), .pointer (some ⟨m.g, 0, none⟩), .slice va os.length vc, .int .i64 ((d : Int) + 1), .slice none 0 0, .pointer none] 130)).drew 130 w2.heap.size [m.bv, .int .i64 (at_ : Nat), .pointer (some ⟨m.g, 0, none⟩), .slice va os.length vc, .int .i64 ((8 - n : Nat) : Int), .slice none 0 0, .pointer none] from by
            rw [HD.out, hbv]
            exact RowT.new w2 130 [.slice ba m.bs.length bc, .int .i64 (at_ : Nat), .pointer (some ⟨m.g, 0, none⟩), .slice va os.length vc, .int .i64 ((d : Int) + 1), .slice none 0 0, .pointer none])
          generalize (w2.alloc (.cells #[.slice ba m.bs.length bc, .int .i64 (at_ : Nat), .pointer (some ⟨m.g, 0, none⟩), .slice va os.length vc, .int .i64 ((d : Int) + 1), .slice none 0 0, .pointer none] 130)).drew = w5 at HX5 HF5 HM5 HP5 HR5 ⊢
          have HBV := hid hbv
          clear hbv
          have hxg : w.heap.size ≤ w2.heap.size := HF.out.size
          clear hb5 y2 c4 m2 e4 a1 a2 a3 HX HF HM HP HR HBX
          generalize w2.heap.size = gx at HR5 hxg ⊢
          go_wp2_with fail
          refine (HG.out w5 B gx r at_ k (.slice va os.length vc) m os _ C HR5.out (Nat.le_trans hB hxg) HM5.out HMO.out HP5.out.at_ HNE.out HSE.out ⟨_, _, _, _, _, _, _, HX5.out, rfl⟩ HOK2.out (Nat.le_trans hB HF5.out.size)).mono ?_
          rintro e w6 ⟨rfl, hf6, hst6, her6⟩
          go_wp2_with fail
          first | go_end0 | refine bodyPost_ret (results_none rfl _ _ _) rfl ?_
          rw [← HXR.out, ← HP5.out.ops]
          exact ⟨rfl, HF5.out.trans' hf6 (fun i hi => by rw [List.mem_singleton.1 hi]; exact Or.inr hxg), hst6, her6⟩
        · have hxr := HXR.out
          rw [if_pos h0] at hxr
          obtain ⟨a, b', c, d', hre⟩ := her2 h0
          have e4 : w2.cell? ⟨r, 4, none⟩ = some (.int .i64 (leaveP Z at_ (stQ ms ns outs (calls + 1))).1) := hre.cell 4 (by simp)
          have HXR := hid hxr
          have HRE := hid hre
          obtain ⟨ez, hez⟩ : ∃ ez, (leaveP Z at_ (stQ ms ns outs (calls + 1))).1 = ez := ⟨_, rfl⟩
          rw [hez] at e4 h0 HRE HXR
          have k0 : (ez == 0) = false := by rw [beq_eq_false_iff_ne]; exact h0
          have H0 := hid h0
          clear hxr hst2 her2 hre HLV hez h0
          go_wp2_with fail
          first | go_end0 | refine bodyPost_ret (results_none rfl _ _ _) rfl ?_
          rw [← HXR.out]
          exact ⟨rfl, HF.out, fun c => absurd c H0.out, fun _ => ⟨_, _, _, _, HRE.out⟩⟩
  · rw [if_pos hne] at hxr
    have kn : ((os.length : Int) != (m.ps.length : Int)) = true := by rw [bne_iff_ne]; omega
    have HXR := hid hxr
    clear hxr hne
    go_upto_region 3 with fail
    go_quiet (fail)
    have hbq : Below w1.heap.size w1 (w1.drewN nq) := below_drewN (Below.refl _ _) _
    have HX := hid (HX.out.below hbq)
    have HF := hid (HF.out.trans (Fq.of_below hbq))
    clear hbq
    generalize w1.drewN nq = wq at HX HF ⊢
    go_wp2_with (first | (go_at_call 60; refine (bad_any _ r _ _ _ _ _ 4 at_ HX.out.row).mono ?_; rintro e w2 ⟨rfl, rfl⟩))
    first | go_end0 | refine bodyPost_ret (results_none rfl _ _ _) rfl ?_
    rw [← HXR.out]
    exact rd_bad HX.out HF.out (by decide)

end Go.Proofs.YtcepppilgncdmaaGreatDoor

namespace Go.Proofs.YtcepppilgncdmaaGreatDoor
open Go.RowKit
attribute [local go_sem ↓] Go.wp_at_zero Go.wp_at_succ

theorem openCells_els (o : OpenP) (r : List OpenP) (u : Bool) : (openCells (o :: r)).set (r.length * 3 + 1) (.bool u) = openCells (⟨o.yes, u, o.over⟩ :: r) := by
  simp only [openCells]
  rw [List.set_append_right _ _ (by rw [openCells_length]; omega), openCells_length]
  simp
theorem openCells_yes (o : OpenP) (r : List OpenP) (u : Bool) : (openCells (o :: r)).set (r.length * 3) (.bool u) = openCells (⟨u, o.els, o.over⟩ :: r) := by
  simp only [openCells]
  rw [List.set_append_right _ _ (by rw [openCells_length]; omega), openCells_length]
  simp
/-- A cell of the innermost condition is stored. -/
theorem BkAt.store {w : World} {B b g cap : Nat} {lv fv mv pv dv xd : Value} {o o' : OpenP} {r : List OpenP} (h : BkAt w B b lv fv mv pv dv (.slice (some ⟨g, 0, none⟩) (r.length + 1) cap) xd (o :: r)) (j : Nat) (u : Value) (hs : (openCells (o :: r)).set j u = openCells (o' :: r)) :
    BkAt (w.setCell ⟨g, j, none⟩ u) B b lv fv mv pv dv (.slice (some ⟨g, 0, none⟩) (r.length + 1) cap) xd (o' :: r) ∧ Fc B (bkM b (.slice (some ⟨g, 0, none⟩) (r.length + 1) cap)) w (w.setCell ⟨g, j, none⟩ u) := by
  have hne := own_row_ne h.own h.row (by decide)
  refine ⟨⟨h.row.other g j (fun e => hne (by rw [e]; rfl)) u, ?_, by simpa using h.few, h.at_⟩, ?_⟩
  · have := (h.own.stored j u).1
    rw [hs] at this
    exact this
  · exact (FrQ.refl noT r1 B _ w).setCell (p := ⟨g, j, none⟩) (own_mayQ h.own (fun k hk => Or.inr ⟨rfl, by unfold bkM; rw [hk]; simp⟩) g rfl) _

set_option maxRecDepth 100000 in
set_option maxHeartbeats 1600000 in
theorem turnsElse_any (w : World) (B b r : Nat) (lv fv mv pv dv vo : Value) (p : Option Addr) (opens : List OpenP) (at_ : Nat) (st : StP) (lb op : ByteArray) (va : Option Addr) (vc : Nat) (os : List ByteArray) (W : WordsP) (C : Nat)
    (h : BkAt w B b lv fv mv pv dv vo (.pointer p) opens) (hx : RdSt w B r st) (hp : PartsV w C lb op (.slice va os.length vc) os W) (hop : W.op = opElse) :
    Calls Tryz.prog 129 #[.pointer (some ⟨b, 0, none⟩), .pointer (some ⟨r, 0, none⟩), .agg #[.string lb, .string op, .slice va os.length vc], .int .i64 (at_ : Nat)] w (BkPost B b r lv fv mv pv dv vo p at_ (elseP W opens) st w) := by
  obtain ⟨vm, vn, vl, ms, ns, outs, calls, hx, hst⟩ := hx
  obtain ⟨x, hxr⟩ : ∃ x, elseP W opens = x := ⟨_, rfl⟩
  rw [hxr]
  have HXR := hid hxr
  obtain ⟨t1, t2, t3⟩ := hp.two
  have HST := hid hst
  have kop : (op.toList == [46, 101, 108, 115, 101]) = true := op_is (hp.op.trans hop)
  have kop2 : (op.toList == [46, 101, 110, 100, 105, 102]) = false := op_not (by rw [hp.op, hop]; decide)
  have hb0 : Below w.heap.size w (w.alloc (.cells #[.string lb, .string op, .slice va os.length vc] 134)) := (Below.refl _ _).alloc (Nat.le_refl _) _
  have HX := hid (hx.below hb0)
  have HBK := hid (h.below hb0)
  have HF := hid (show Fq B (bkM b vo) w (w.alloc (.cells #[.string lb, .string op, .slice va os.length vc] 134)) from Fq.of_below hb0)
  have HBX := hid (show RowT (w.alloc (.cells #[.string lb, .string op, .slice va os.length vc] 134)) 134 w.heap.size [.string lb, .string op, .slice va os.length vc] from RowT.new w 134 [.string lb, .string op, .slice va os.length vc])
  have hbare : bareW W = (decide (lb.size = 0) && decide (os.length = 0)) := by
    unfold bareW
    rw [← hp.label, ← hp.ops]
    congr 1
    · rw [decide_eq_decide]
      exact ⟨fun e => by rw [size_L, e]; rfl, L_zero⟩
    · rw [decide_eq_decide]
      cases os <;> simp
  clear hx h hp hb0 hst t3 hxr hop t1 t2
  go_enter Tryz.func129, Tryz.ntmps129
  go_upto_region 1 with fail
  generalize w.alloc (.cells #[.string lb, .string op, .slice va os.length vc] 134) = w1 at HX HBK HF HBX ⊢
  obtain ⟨bx, hbx⟩ : ∃ bx, w.heap.size = bx := ⟨_, rfl⟩
  rw [hbx] at HBX ⊢
  clear hbx
  have y0 := HBX.out.cell 0 (by simp)
  have y1 := HBX.out.cell 1 (by simp)
  have y2 := HBX.out.cell 2 (by simp)
  have c5 : w1.cell? ⟨b, 5, none⟩ = some vo := HBK.out.row.cell 5 (by simp)
  have f5 := HBK.out.row.free 5
  have hltb := HBK.out.row.lt
  have hfew := HBK.out.few
  cases opens with
  | nil =>
    obtain ⟨a5, k5, hv5⟩ := own_form HBK.out.own
    rw [List.length_nil] at hv5
    subst hv5
    have hxr : (2, []) = x := HXR.out
    have HXR := hid hxr
    clear hxr
    go_wp2_with (first | (go_at_call 60; refine (bad_any _ r _ _ _ _ _ 2 at_ HX.out.row).mono ?_; rintro e w2 ⟨rfl, rfl⟩))
    go_end0
    rw [← HXR.out]
    exact bk_bad HX.out HBK.out HF.out (by decide)
  | cons o rs =>
    obtain ⟨g, cap, hv5, hBg, hgl, hcap, z0, z1, z2⟩ := HBK.out.slot
    subst hv5
    have HO := hid (show w1.ownsRow B 190 3 (.slice (some ⟨g, 0, none⟩) (rs.length + 1) cap) (rs.length + 1) (openCells (o :: rs)) from HBK.out.own)
    have fz0 := HO.out.frozenAt (rs.length * 3)
    have fz1 := HO.out.frozenAt (rs.length * 3 + 1)
    obtain ⟨yes, els, over⟩ := o
    simp only at z0 z1 z2
    rw [List.length_cons] at hfew
    have i2 : ((rs.length + 1 : Nat) : Int) - 1 = (rs.length : Int) := by omega
    have i3 : (0 : Int) ≤ (rs.length : Int) := Int.natCast_nonneg _
    have hgb : ¬ g = b := fun e => own_row_ne HBK.out.own HBK.out.row (by decide) (by rw [e]; rfl)
    have hbg : ¬ b = g := fun e => hgb e.symm
    have hxr := HXR.out
    simp only [elseP] at hxr
    cases els with
    | true =>
      rw [if_pos rfl] at hxr
      have HXR := hid hxr
      clear hxr
      go_wp2_with (first | (go_at_call 60; refine (bad_any _ r _ _ _ _ _ 2 at_ HX.out.row).mono ?_; rintro e w2 ⟨rfl, rfl⟩))
      go_end0
      rw [← HXR.out]
      exact bk_bad HX.out HBK.out HF.out (by decide)
    | false =>
      rw [if_neg (by simp)] at hxr
      cases over with
      | true =>
        rw [if_neg (by simp)] at hxr
        have HXR := hid hxr
        clear hxr hbare
        go_wp2_with fail
        go_region
        have HS1 := hid (HBK.out.store (rs.length * 3 + 1) (.bool true) (openCells_els _ _ _))
        have HS2 := hid ((HS1.out.1.below ((Below.refl _ _).drew)).store (rs.length * 3) (.bool (!yes)) (openCells_yes _ _ _))
        have HFQ := hid (HF.out.trans (Fc.to ((HS1.out.2.trans (FrQ.of_below ((Below.refl _ _).drew))).trans HS2.out.2)))
        have HXQ := hid (((HX.out.fc HS1.out.2).below ((Below.refl _ _).drew)).fc HS2.out.2)
        go_wp2_with fail
        go_end0
        rw [← HXR.out, HST.out]
        exact ⟨rfl, HFQ.out, fun _ => ⟨⟨_, HS2.out.1, fun g hg => Or.inl hg⟩, vm, vn, vl, ms, ns, outs, calls, HXQ.out, rfl⟩, fun c => absurd rfl c⟩
      | false =>
        by_cases hlb : lb.size = 0
        · have kl := is_empty lb hlb
          by_cases h1 : os.length = 0
          · rw [if_neg (by rw [hbare]; simp [hlb, h1])] at hxr
            have k1 : ((os.length : Int) != 0) = false := by rw [bne_eq_false_iff_eq]; omega
            have HXR := hid hxr
            clear hxr hbare hlb h1
            go_wp2_with fail
            go_region
            have HS1 := hid (HBK.out.store (rs.length * 3 + 1) (.bool true) (openCells_els _ _ _))
            have HS2 := hid ((HS1.out.1.below ((Below.refl _ _).drew)).store (rs.length * 3) (.bool (!yes)) (openCells_yes _ _ _))
            have HFQ := hid (HF.out.trans (Fc.to ((HS1.out.2.trans (FrQ.of_below ((Below.refl _ _).drew))).trans HS2.out.2)))
            have HXQ := hid (((HX.out.fc HS1.out.2).below ((Below.refl _ _).drew)).fc HS2.out.2)
            go_wp2_with fail
            go_end0
            rw [← HXR.out, HST.out]
            exact ⟨rfl, HFQ.out, fun _ => ⟨⟨_, HS2.out.1, fun g hg => Or.inl hg⟩, vm, vn, vl, ms, ns, outs, calls, HXQ.out, rfl⟩, fun c => absurd rfl c⟩
          · rw [if_pos (by rw [hbare]; simp [h1])] at hxr
            have k1 : ((os.length : Int) != 0) = true := by rw [bne_iff_ne]; omega
            have HXR := hid hxr
            clear hxr hbare hlb h1
            go_wp2_with (first | (go_at_call 60; refine (bad_any _ r _ _ _ _ _ 4 at_ HX.out.row).mono ?_; rintro e w2 ⟨rfl, rfl⟩))
            go_end0
            rw [← HXR.out]
            exact bk_bad HX.out HBK.out HF.out (by decide)
        · rw [if_pos (by rw [hbare]; simp [hlb])] at hxr
          have kl := not_empty lb (by omega)
          have HXR := hid hxr
          clear hxr hbare hlb
          go_wp2_with (first | (go_at_call 60; refine (bad_any _ r _ _ _ _ _ 4 at_ HX.out.row).mono ?_; rintro e w2 ⟨rfl, rfl⟩))
          go_end0
          rw [← HXR.out]
          exact bk_bad HX.out HBK.out HF.out (by decide)

set_option maxRecDepth 100000 in
set_option maxHeartbeats 1600000 in
theorem turnsEnd_any (w : World) (B b r : Nat) (lv fv mv pv dv vo : Value) (p : Option Addr) (opens : List OpenP) (at_ : Nat) (st : StP) (lb op : ByteArray) (va : Option Addr) (vc : Nat) (os : List ByteArray) (W : WordsP) (C : Nat)
    (h : BkAt w B b lv fv mv pv dv vo (.pointer p) opens) (hx : RdSt w B r st) (hp : PartsV w C lb op (.slice va os.length vc) os W) (hop : W.op = opEndif) :
    Calls Tryz.prog 129 #[.pointer (some ⟨b, 0, none⟩), .pointer (some ⟨r, 0, none⟩), .agg #[.string lb, .string op, .slice va os.length vc], .int .i64 (at_ : Nat)] w (BkPost B b r lv fv mv pv dv vo p at_ (endifP W opens) st w) := by
  obtain ⟨vm, vn, vl, ms, ns, outs, calls, hx, hst⟩ := hx
  obtain ⟨x, hxr⟩ : ∃ x, endifP W opens = x := ⟨_, rfl⟩
  rw [hxr]
  have HXR := hid hxr
  obtain ⟨t1, t2, t3⟩ := hp.two
  have HST := hid hst
  have kop : (op.toList == [46, 101, 108, 115, 101]) = false := op_not (by rw [hp.op, hop]; decide)
  have kop2 : (op.toList == [46, 101, 110, 100, 105, 102]) = true := op_is (hp.op.trans hop)
  have hb0 : Below w.heap.size w (w.alloc (.cells #[.string lb, .string op, .slice va os.length vc] 134)) := (Below.refl _ _).alloc (Nat.le_refl _) _
  have HX := hid (hx.below hb0)
  have HBK := hid (h.below hb0)
  have HF := hid (show Fq B (bkM b vo) w (w.alloc (.cells #[.string lb, .string op, .slice va os.length vc] 134)) from Fq.of_below hb0)
  have HBX := hid (show RowT (w.alloc (.cells #[.string lb, .string op, .slice va os.length vc] 134)) 134 w.heap.size [.string lb, .string op, .slice va os.length vc] from RowT.new w 134 [.string lb, .string op, .slice va os.length vc])
  have hbare : bareW W = (decide (lb.size = 0) && decide (os.length = 0)) := by
    unfold bareW
    rw [← hp.label, ← hp.ops]
    congr 1
    · rw [decide_eq_decide]
      exact ⟨fun e => by rw [size_L, e]; rfl, L_zero⟩
    · rw [decide_eq_decide]
      cases os <;> simp
  clear hx h hp hb0 hst t3 hxr hop t1 t2
  go_enter Tryz.func129, Tryz.ntmps129
  go_upto_region 1 with fail
  generalize w.alloc (.cells #[.string lb, .string op, .slice va os.length vc] 134) = w1 at HX HBK HF HBX ⊢
  obtain ⟨bx, hbx⟩ : ∃ bx, w.heap.size = bx := ⟨_, rfl⟩
  rw [hbx] at HBX ⊢
  clear hbx
  have y0 := HBX.out.cell 0 (by simp)
  have y1 := HBX.out.cell 1 (by simp)
  have y2 := HBX.out.cell 2 (by simp)
  have c5 : w1.cell? ⟨b, 5, none⟩ = some vo := HBK.out.row.cell 5 (by simp)
  have f5 := HBK.out.row.free 5
  have hltb := HBK.out.row.lt
  have hfew := HBK.out.few
  cases opens with
  | nil =>
    obtain ⟨a5, k5, hv5⟩ := own_form HBK.out.own
    rw [List.length_nil] at hv5
    subst hv5
    have hxr : (2, []) = x := HXR.out
    have HXR := hid hxr
    clear hxr
    go_wp2_with (first | (go_at_call 60; refine (bad_any _ r _ _ _ _ _ 2 at_ HX.out.row).mono ?_; rintro e w2 ⟨rfl, rfl⟩))
    go_end0
    rw [← HXR.out]
    exact bk_bad HX.out HBK.out HF.out (by decide)
  | cons o rs =>
    obtain ⟨g, cap, hv5, hBg, hgl, hcap, z0, z1, z2⟩ := HBK.out.slot
    subst hv5
    have HO := hid (show w1.ownsRow B 190 3 (.slice (some ⟨g, 0, none⟩) (rs.length + 1) cap) (rs.length + 1) (openCells (o :: rs)) from HBK.out.own)
    have fz0 := HO.out.frozenAt (rs.length * 3)
    have fz1 := HO.out.frozenAt (rs.length * 3 + 1)
    obtain ⟨yes, els, over⟩ := o
    simp only at z0 z1 z2
    rw [List.length_cons] at hfew
    have i2 : ((rs.length + 1 : Nat) : Int) - 1 = (rs.length : Int) := by omega
    have i3 : (0 : Int) ≤ (rs.length : Int) := Int.natCast_nonneg _
    have hgb : ¬ g = b := fun e => own_row_ne HBK.out.own HBK.out.row (by decide) (by rw [e]; rfl)
    have hbg : ¬ b = g := fun e => hgb e.symm
    have hpop : w1.ownsRow B 190 3 (.slice (some ⟨g, 0, none⟩) rs.length cap) rs.length (openCells rs) := ownsRow_pop (n := rs.length) (last := [.bool yes, .bool els, .bool over]) (openCells_length rs) HO.out
    have HPK := hid (show BkAt (w1.setCell ⟨b, 5, none⟩ (.slice (some ⟨g, 0, none⟩) rs.length cap)) B b lv fv mv pv dv (.slice (some ⟨g, 0, none⟩) rs.length cap) (.pointer p) rs from
      ⟨HBK.out.row.set 5 _, ownsRow_setCell_other hpop (a := ⟨b, 5, none⟩) (own_row_ne hpop HBK.out.row (by decide)) _, by omega, HBK.out.at_⟩)
    have HPF := hid (show Fc B (bkM b (.slice (some ⟨g, 0, none⟩) (rs.length + 1) cap)) w1 (w1.setCell ⟨b, 5, none⟩ (.slice (some ⟨g, 0, none⟩) rs.length cap)) from (FrQ.refl noT r1 B _ w1).setCell (p := ⟨b, 5, none⟩) (HBK.out.row.mayQ HBK.out.at_ (Or.inr ⟨rfl, by simp [bkM]⟩)) _)
    clear hpop
    have hxr := HXR.out
    simp only [endifP] at hxr
    have j1 : (rs.length : Int) ≤ (cap : Int) := by omega
    cases over with
    | true =>
      rw [if_neg (by simp)] at hxr
      have HXR := hid hxr
      clear hxr hbare
      go_wp2_with fail
      go_end0
      rw [← HXR.out, HST.out]
      exact ⟨rfl, HF.out.trans (Fc.to HPF.out), fun _ => ⟨⟨_, HPK.out, fun g hg => Or.inl hg⟩, vm, vn, vl, ms, ns, outs, calls, HX.out.fc HPF.out, rfl⟩, fun c => absurd rfl c⟩
    | false =>
      by_cases hlb : lb.size = 0
      · have kl := is_empty lb hlb
        by_cases h1 : os.length = 0
        · rw [if_neg (by rw [hbare]; simp [hlb, h1])] at hxr
          have k1 : ((os.length : Int) != 0) = false := by rw [bne_eq_false_iff_eq]; omega
          have HXR := hid hxr
          clear hxr hbare hlb h1
          go_wp2_with fail
          go_end0
          rw [← HXR.out, HST.out]
          exact ⟨rfl, HF.out.trans (Fc.to HPF.out), fun _ => ⟨⟨_, HPK.out, fun g hg => Or.inl hg⟩, vm, vn, vl, ms, ns, outs, calls, HX.out.fc HPF.out, rfl⟩, fun c => absurd rfl c⟩
        · rw [if_pos (by rw [hbare]; simp [h1])] at hxr
          have k1 : ((os.length : Int) != 0) = true := by rw [bne_iff_ne]; omega
          have HXR := hid hxr
          clear hxr hbare hlb h1
          go_wp2_with (first | (go_at_call 60; refine (bad_any _ r _ _ _ _ _ 4 at_ HX.out.row).mono ?_; rintro e w2 ⟨rfl, rfl⟩))
          go_end0
          rw [← HXR.out]
          exact bk_bad HX.out HBK.out HF.out (by decide)
      · rw [if_pos (by rw [hbare]; simp [hlb])] at hxr
        have kl := not_empty lb (by omega)
        have HXR := hid hxr
        clear hxr hbare hlb
        go_wp2_with (first | (go_at_call 60; refine (bad_any _ r _ _ _ _ _ 4 at_ HX.out.row).mono ?_; rintro e w2 ⟨rfl, rfl⟩))
        go_end0
        rw [← HXR.out]
        exact bk_bad HX.out HBK.out HF.out (by decide)

end Go.Proofs.YtcepppilgncdmaaGreatDoor
