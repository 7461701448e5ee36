/-
  What the document's own function that begins a macro (package masonref) answers.
-/
import Derived.Test.YtcepppilgncdmaaGreatDoorQSet
import Derived.Test.YtcepppilgncdmaaGreatDoorQMath
namespace Go.Proofs.YtcepppilgncdmaaGreatDoor
open Go.RowKit
attribute [local go_sem ↓] Go.wp_at_zero Go.wp_at_succ

/-- A list lies ahead of a place. -/
def StrLt (D : Nat) (v : Value) : Prop := ∀ b off n c, v = .slice (some ⟨b, off, none⟩) n c → b < D
theorem StrV.lt {w : World} {B : Nat} {v : Value} {ss : List ByteArray} (h : StrV w B v ss) : StrLt w.heap.size v := by
  rintro b off n c rfl
  rcases h with ⟨h, _⟩ | ⟨b', _, _, _, h1, _, h3, _⟩
  · cases h
  · injection h1 with h1 _ _
    injection h1 with h1
    injection h1 with h1 _
    subst h1
    exact (Array.getElem?_eq_some_iff.1 h3).1
theorem StrV.ahead {w w' : World} {B D : Nat} {v : Value} {ss : List ByteArray} (h : StrV w B v ss) (hl : StrLt D v) (hb : Below D w w') : StrV w' B v ss := by
  rcases h with h | ⟨b, off, cap, cur, h1, h2, h3, h4⟩
  · exact Or.inl h
  · exact Or.inr ⟨b, off, cap, cur, h1, h2, by rw [hb.block b (hl b off _ _ h1)]; exact h3, h4⟩
/-- What defines answers: an error, or a macro that has been begun, in new memory. -/
def DefPost (B b r : Nat) (lv fv mv pv dv vo : Value) (at_ : Nat) (x : Int × Option MacP) (w : World) (e : Ending) (w' : World) : Prop :=
  e = .returned (.tuple #[]) ∧ (x.1 ≠ 0 → Fq B [] w w' ∧ RdErr w' r x.1 at_ ∧ BkRow w' b lv fv mv pv dv) ∧
    (x.1 = 0 → ∃ gd nm qv ps, x.2 = some ⟨L nm, ps.map L, []⟩ ∧ Keeps [b] w w' ∧ RowT w' 130 b [lv, fv, mv, pv, dv, vo, .pointer (some ⟨gd, 0, none⟩)] ∧ w.heap.size ≤ gd ∧ RowT w' 192 gd [.string nm, qv, .slice none 0 0] ∧ StrV w' 0 qv ps ∧ StrLt w.heap.size qv)
theorem def_bad {w w1 : World} {B b r : Nat} {lv fv mv pv dv vo vm vn vl : Value} {p : Option Addr} {opens : List OpenP} {y : Option MacP} {at_ calls : Nat} {ms : List MacQ} {ns : List (ByteArray × Int)} {outs : List (ByteArray × Nat)} {er : Int} (hx : RdAt w1 B r vm vn vl ms ns outs calls) (hk : BkAt w1 B b lv fv mv pv dv vo (.pointer p) opens) (hf : Fq B [] w w1) (h0 : er ≠ 0) :
    DefPost B b r lv fv mv pv dv vo at_ (er, y) w (.returned (.tuple #[])) ((w1.setCell ⟨r, 4, none⟩ (.int .i64 er)).setCell ⟨r, 5, none⟩ (.int .i64 (at_ : Nat))) := by
  obtain ⟨p1, p2⟩ := bad_post (er := er) (at_ := at_) hx.row hx.at_
  exact ⟨rfl, fun _ => ⟨hf.trans p1, p2, (hk.fq p1 (by simp) (fun _ _ => by simp)).toRow⟩, fun c => absurd c h0⟩

set_option maxRecDepth 100000 in
set_option maxHeartbeats 3200000 in
theorem defines_any (w : World) (B b r : Nat) (lv fv pv dv vo : Value) (mp p : Option Addr) (opens : List OpenP) (at_ : Nat) (st : StP) (lb op : ByteArray) (va : Option Addr) (vc : Nat) (os : List ByteArray) (W : WordsP) (C k : Nat)
    (h : BkAt w B b lv fv (.pointer mp) pv dv vo (.pointer p) opens) (hx : RdSt w B r st) (hp : PartsV w C lb op (.slice va os.length vc) os W) (hw : WOk W) (hok : StOk st k) :
    Calls Tryz.prog 131 #[.pointer (some ⟨b, 0, none⟩), .pointer (some ⟨r, 0, none⟩), .agg #[.string lb, .string op, .slice va os.length vc], .int .i64 (at_ : Nat)] w (DefPost B b r lv fv (.pointer mp) pv dv vo at_ (defP mp.isSome W st) w) := by
  obtain ⟨vm, vn, vl, ms, ns, outs, calls, hx, hst⟩ := hx
  subst hst
  obtain ⟨x, hxr⟩ : ∃ x, defP mp.isSome W (stQ ms ns outs calls) = x := ⟨_, rfl⟩
  rw [hxr]
  obtain ⟨b1, b2, b3⟩ := hw.parts hp
  have hml : ms.length ≤ 3001 := by
    have h1 := hok.few
    have h2 := hok.taken
    simp only [stQ, List.length_map] at h1
    omega
  obtain ⟨t1, t2, t3⟩ := hp.two
  have HLT := hid hp.at_.lt
  have hb0 : Below w.heap.size w (w.alloc (.cells #[.string lb, .string op, .slice va os.length vc] 134)) := (Below.refl _ _).alloc (Nat.le_refl _) _
  have HX := hid (hx.below hb0)
  have HBK := hid (h.below hb0)
  have HP := hid (hp.below hb0)
  have HF := hid hb0
  have HBX := hid (show RowT (w.alloc (.cells #[.string lb, .string op, .slice va os.length vc] 134)) 134 w.heap.size [.string lb, .string op, .slice va os.length vc] from RowT.new w 134 [.string lb, .string op, .slice va os.length vc])
  have HSZ := hid b2
  have HT3 := hid t3
  clear hx hp hb0 b2 t3 hw h hok
  unfold defP at hxr
  go_enter Tryz.func131, Tryz.ntmps131
  go_upto_region 1 with fail
  generalize w.alloc (.cells #[.string lb, .string op, .slice va os.length vc] 134) = w1 at HX HBK HP HF HBX ⊢
  obtain ⟨bx, hbx⟩ : ∃ bx, w.heap.size = bx := ⟨_, rfl⟩
  rw [hbx] at HBX ⊢
  have HBQ := hid hbx
  clear hbx
  have y0 := HBX.out.cell 0 (by simp)
  have y2 := HBX.out.cell 2 (by simp)
  have c2 : w1.cell? ⟨b, 2, none⟩ = some (.pointer mp) := HBK.out.row.cell 2 (by simp)
  cases mp with
  | some am =>
    rw [if_pos (by simp)] at hxr
    have HXR := hid hxr
    clear hxr
    go_wp2_with (first | (go_at_call 60; refine (bad_any _ r _ _ _ _ _ 2 at_ HX.out.row).mono ?_; rintro e w2 ⟨rfl, rfl⟩))
    first | go_end0 | refine bodyPost_ret (results_none rfl _ _ _) rfl ?_
    rw [← HXR.out]
    exact def_bad HX.out HBK.out (Fq.of_below HF.out) (by decide)
  | none =>
    rw [if_neg (by simp)] at hxr
    by_cases hlb : lb.size = 0
    · rw [t1.2 hlb] at hxr
      have kl := is_empty lb hlb
      by_cases h0 : os.length = 0
      · rw [if_pos (Or.inr (List.eq_nil_of_length_eq_zero (by omega)))] at hxr
        have k0 : ((os.length : Int) == 0) = true := by rw [beq_iff_eq]; omega
        have HXR := hid hxr
        clear hxr hlb h0
        go_wp2_with (first | (go_at_call 60; refine (bad_any _ r _ _ _ _ _ 4 at_ HX.out.row).mono ?_; rintro e w2 ⟨rfl, rfl⟩))
        first | go_end0 | refine bodyPost_ret (results_none rfl _ _ _) rfl ?_
        rw [← HXR.out]
        exact def_bad HX.out HBK.out (Fq.of_below HF.out) (by decide)
      · rw [if_neg (by
          rintro (h | h)
          · exact h rfl
          · rw [h] at t2; simp at t2; omega)] at hxr
        have k0 : ((os.length : Int) == 0) = false := by rw [beq_eq_false_iff_ne]; omega
        have HXR := hid hxr
        have hcellA := fun i (hi : i < os.length) => HP.out.at_.cell i hi
        have hpos : 0 < os.length := by omega
        obtain ⟨bo, off, cap, hv, hbl, d0⟩ := hcellA 0 hpos
        injection hv with hv1 _ hv2
        subst hv1 hv2
        have hcell : ∀ i (hi : i < os.length), w1.cell? ⟨bo, off + i, none⟩ = some (.string os[i]) := fun i hi => by
          obtain ⟨_, _, _, hv', _, d1⟩ := hcellA i hi
          injection hv' with h1 _ _
          injection h1 with h1
          injection h1 with h2 h3
          subst h2 h3
          exact d1
        have HC := hid hcell
        clear hcell hcellA d0 hxr h0 hlb
        go_wp2_with fail
        go_loopw [8] (fun i wr => ∃ j : Nat, j ≤ os.length ∧ i = .int .i64 j ∧ Below w1.heap.size w1 wr ∧ ∀ i, i < j → okAt W.operands i = true) (fun i _ => os.length - (intOf i).toNat)
        case atStart => exact ⟨0, Nat.zero_le _, rfl, Below.refl _ _, fun i hi => by omega⟩
        case round =>
          obtain ⟨j, hj, rfl, hbr, hall⟩ := hrel
          have HBR := hid hbr
          have HALL := hid hall
          clear hbr hall
          have z2 := (HBR.out.cell (p := ⟨bx, 2, none⟩) HBX.out.lt).trans y2
          by_cases hlt : j < os.length
          · have kd : decide ((j : Int) < os.length) = true := by simp; omega
            have cj := (HBR.out.cell (p := ⟨bo, off + j, none⟩) hbl).trans (HC.out j hlt)
            have ij0 : (0 : Int) ≤ (j : Int) := Int.natCast_nonneg _
            have ij1 : (j : Int) < (os.length : Int) := by omega
            have hgj : W.operands.getD j [] = L os[j] := HT3.out j hlt
            have HRN := hid (refName_any os[j] wr (by have := HSZ.out j hlt; unfold maxLen; omega))
            have HGJ := hid hgj
            obtain ⟨sj, hsj⟩ : ∃ s, os[j] = s := ⟨_, rfl⟩
            rw [hsj] at cj HRN HGJ
            have HSJ := hid hsj
            clear hgj hsj
            go_wp2_with (first | (go_at_call 58; refine HRN.out.mono ?_; rintro e w2 ⟨rfl, hw2⟩; obtain rfl := hw2.symm))
            go_loopw [9, 10] (fun ok i wy => ∃ m : Nat, 1 ≤ m ∧ (m = 1 ∨ m ≤ j) ∧ i = .int .i64 m ∧ ok = .bool (nameB (L sj) && neqTo W.operands j m) ∧ Below w1.heap.size w1 wy) (fun _ i _ => j - (intOf i).toNat)
            case atStart => exact ⟨1, Nat.le_refl _, Or.inl rfl, rfl, by rw [neqTo_one, Bool.and_true], HBR.out⟩
            case round =>
              obtain ⟨m, hm1, hmj, rfl, rfl, hby⟩ := hrel
              have HBY := hid hby
              clear hby
              have z2 := (HBY.out.cell (p := ⟨bx, 2, none⟩) HBX.out.lt).trans y2
              obtain ⟨ob, hob⟩ : ∃ ob, (nameB (L sj) && neqTo W.operands j m) = ob := ⟨_, rfl⟩
              rw [hob]
              have HOB := hid hob
              clear hob
              by_cases hmlt : m < j
              · have km : decide ((m : Int) < j) = true := by simp; omega
                have hml' : m < os.length := by omega
                have cm := (HBY.out.cell (p := ⟨bo, off + m, none⟩) hbl).trans (HC.out m hml')
                have cj2 := (HBY.out.cell (p := ⟨bo, off + j, none⟩) hbl).trans (HC.out j hlt)
                rw [HSJ.out] at cj2
                have hgm : W.operands.getD m [] = L os[m] := HT3.out m hml'
                obtain ⟨sm, hsm⟩ : ∃ s, os[m] = s := ⟨_, rfl⟩
                rw [hsm] at cm hgm
                have HGM := hid hgm
                clear hsm hgm
                have im0 : (0 : Int) ≤ (m : Int) := Int.natCast_nonneg _
                have im1 : (m : Int) < (os.length : Int) := by omega
                cases ob with
                | true =>
                  by_cases he : L sm = L sj
                  · have kb : (sm.toList == sj.toList) = true := beq_of_L he
                    have HE := hid (show (nameB (L sj) && neqTo W.operands j (m + 1)) = false by
                      show (nameB (L sj) && (neqTo W.operands j m && (decide (m = 0) || decide (W.operands.getD m [] ≠ W.operands.getD j [])))) = false
                      rw [HGM.out, HGJ.out, decide_eq_false (show ¬ m = 0 by omega), decide_eq_false (fun c : L sm ≠ L sj => c he)]
                      simp)
                    clear he
                    go_wp2_with fail
                    go_quiet (fail)
                    go_wp2_with fail
                    go_roundw
                    case rel => exact ⟨m + 1, by omega, Or.inr (by omega), by go_num, by rw [HE.out], below_drewN HBY.out _⟩
                    case measure => simp [intOf]; omega
                  · have kb : (sm.toList == sj.toList) = false := nbeq_of_L he
                    have HE := hid (show (nameB (L sj) && neqTo W.operands j (m + 1)) = true by
                      have h2 := HOB.out
                      rw [Bool.and_eq_true] at h2
                      show (nameB (L sj) && (neqTo W.operands j m && (decide (m = 0) || decide (W.operands.getD m [] ≠ W.operands.getD j [])))) = true
                      rw [HGM.out, HGJ.out, decide_eq_true (show L sm ≠ L sj from he), h2.1, h2.2]
                      simp)
                    clear he
                    go_wp2_with fail
                    go_quiet (fail)
                    go_wp2_with fail
                    go_roundw
                    case rel => exact ⟨m + 1, by omega, Or.inr (by omega), by go_num, by rw [HE.out], below_drewN HBY.out _⟩
                    case measure => simp [intOf]; omega
                | false =>
                  have HE := hid (show (nameB (L sj) && neqTo W.operands j (m + 1)) = false by
                    have := HOB.out
                    rw [Bool.and_eq_false_iff] at this ⊢
                    rcases this with h | h
                    · exact Or.inl h
                    · exact Or.inr (by simp [neqTo, h]))
                  go_wp2_with fail
                  go_quiet (fail)
                  go_wp2_with fail
                  go_roundw
                  case rel => exact ⟨m + 1, by omega, Or.inr (by omega), by go_num, by rw [HE.out], below_drewN HBY.out _⟩
                  case measure => simp [intOf]; omega
              · have km : decide ((m : Int) < j) = false := by simp; omega
                have HOK := hid (show okAt W.operands j = ob by
                  rw [← HOB.out]
                  unfold okAt
                  rw [HGJ.out]
                  congr 1
                  rcases hmj with rfl | h
                  · rcases (show j = 0 ∨ j = 1 by omega) with rfl | rfl <;> rfl
                  · obtain rfl : m = j := by omega
                    rfl)
                cases ob with
                | false =>
                  have hxr := HXR.out
                  rw [if_pos (heads_bad (by rw [t2]; exact hlt) HOK.out)] at hxr
                  have HXR := hid hxr
                  clear hxr
                  have HX := hid (HX.out.below HBY.out)
                  have HBK := hid (HBK.out.below HBY.out)
                  have HF := hid (HF.out.trans (HBY.out.mono HF.out.size))
                  go_wp2_with (first | (go_at_call 60; refine (bad_any _ r _ _ _ _ _ 4 at_ HX.out.row).mono ?_; rintro e w2 ⟨rfl, rfl⟩))
                  first | go_end0 | refine bodyPost_ret (results_none rfl _ _ _) rfl ?_
                  rw [← HXR.out]
                  exact def_bad HX.out HBK.out (Fq.of_below HF.out) (by decide)
                | true =>
                  go_wp2_with fail
                  go_roundw
                  case rel =>
                    refine ⟨j + 1, by omega, by go_num, HBY.out, fun i hi => ?_⟩
                    rcases Nat.lt_or_ge i j with h | h
                    · exact HALL.out i h
                    · obtain rfl : i = j := by omega
                      exact HOK.out
                  case measure => simp [intOf]; omega
          · have kd : decide ((j : Int) < os.length) = false := by simp; omega
            have hxr := HXR.out
            obtain ⟨q1, q2⟩ := (heads_ok W.operands).2 (fun i hi => HALL.out i (by omega))
            rw [if_neg (by rw [q1, q2]; simp)] at hxr
            obtain ⟨n0, hn0⟩ : ∃ n0, os[0] = n0 := ⟨_, rfl⟩
            have e0 : W.operands.headD [] = L n0 := by rw [headD_get, ← hn0]; exact HT3.out 0 hpos
            have e1 : W.operands.tail = os.tail.map L := by rw [← HP.out.ops]; cases os <;> rfl
            rw [e0, e1] at hxr
            have HXR := hid hxr
            have c0 : wr.cell? ⟨bo, off, none⟩ = some (.string n0) := by
              have h9 := HC.out 0 hpos
              rw [Nat.add_zero, hn0] at h9
              rw [HBR.out.cell (p := ⟨bo, off, none⟩) hbl]
              exact h9
            have HX := hid (HX.out.below HBR.out)
            have HBK := hid (HBK.out.below HBR.out)
            have HP := hid (HP.out.below HBR.out)
            have HBX := hid (HBX.out.below HBR.out)
            have HF := hid (HF.out.trans (HBR.out.mono HF.out.size))
            have hblr : bo < wr.heap.size := Nat.lt_of_lt_of_le hbl HBR.out.size
            have hpos1 : (1 : Int) ≤ (os.length : Int) := by omega
            have hpos2 : (0 : Int) < (os.length : Int) := by omega
            clear hxr q1 q2 e0 e1 HBR HALL HC hn0 hbl y0 y2 c2
            go_wp2_with fail
            refine (macro_any _ B r vm vn vl ms ns outs calls HX.out hml n0).mono ?_
            rintro e w2 ⟨hw2, hcase⟩
            obtain rfl := hw2.symm
            rcases hcase with ⟨hf, rfl⟩ | ⟨m, hm, hf, rfl⟩
            · have hxr := HXR.out
              rw [show (stQ ms ns outs calls).macros = ms.map plainQ from rfl, hf] at hxr
              have HXR := hid (show (0, some ⟨L n0, os.tail.map L, []⟩) = x from hxr)
              clear hxr hf
              have hcap : os.length ≤ vc := by
                rcases HP.out.at_ with ⟨h1, _⟩ | ⟨_, _, _, _, h1, _, _, h2, _⟩
                · cases h1
                · injection h1 with _ _ h3; omega
              obtain ⟨pa, hpa⟩ : ∃ pa : Option Addr, (if vc = 1 then some ⟨bo, off, none⟩ else some ⟨bo, off + 1, none⟩) = pa := ⟨_, rfl⟩
              have HST := hid (show StrV wr 0 (.slice pa (os.length - 1) (vc - 1)) os.tail by
                rcases HP.out.at_ with ⟨h1, _⟩ | ⟨b', off', cap', cur, h1, _, h3, h4, h5⟩
                · cases h1
                · injection h1 with h6 _ h7
                  injection h6 with h6
                  injection h6 with h8 h9
                  subst h8 h9
                  by_cases hv1 : vc = 1
                  · rw [if_pos hv1] at hpa
                    have h0 : os.tail = [] := List.eq_nil_of_length_eq_zero (by rw [List.length_tail]; omega)
                    exact Or.inr ⟨bo, off, vc - 1, cur, by rw [h0, ← hpa, show os.length - 1 = 0 from by omega]; rfl, Nat.zero_le _, h3, by rw [h0]; simp, fun i hi => by rw [h0] at hi; simp at hi⟩
                  · rw [if_neg hv1] at hpa
                    refine Or.inr ⟨bo, off + 1, vc - 1, cur, by rw [List.length_tail, ← hpa], Nat.zero_le _, h3, by rw [List.length_tail]; omega, fun i hi => ?_⟩
                    rw [List.length_tail] at hi
                    rw [show off + 1 + i = off + (i + 1) from by omega, h5 (i + 1) (by omega)]
                    simp)
              have HPA := hid hpa
              have a2 : ∀ o, (wr.alloc o).cell? ⟨bx, 2, none⟩ = some (.slice (some ⟨bo, off, none⟩) os.length vc) := fun o => (HBX.out.alloc o).cell 2 (by simp)
              have ak : ∀ o, (wr.alloc o).cell? ⟨bo, off, none⟩ = some (.string n0) := fun o => by
                rw [((Below.refl wr.heap.size wr).alloc (Nat.le_refl _) o).cell (p := ⟨bo, off, none⟩) hblr]; exact c0
              have hp1 : 1 ≤ os.length := by omega
              have f6 := HBK.out.row.free 6
              have c6 := HBK.out.row.cell 6 (by simp)
              have c6 : wr.cell? ⟨b, 6, none⟩ = some (.pointer p) := c6
              have a6 : ∀ o, (wr.alloc o).cell? ⟨b, 6, none⟩ = some (.pointer p) := fun o => (HBK.out.row.alloc o).cell 6 (by simp)
              have b6 : ∀ o, (wr.alloc o).frozen? ⟨b, 6, none⟩ = false := fun o => (HBK.out.row.alloc o).free 6
              have hltb := HBK.out.row.lt
              clear hpa hcap
              go_wp2_with fail
              go_region
              rw [HPA.out]
              go_end0
              rw [← HXR.out]
              have hrow : RowT ((wr.setCell ⟨b, 6, none⟩ (.pointer (some ⟨wr.heap.size, 0, none⟩))).alloc (.cells #[.string n0, .slice pa (os.length - 1) (vc - 1), .slice none 0 0] 192)).drew 192 wr.heap.size [.string n0, .slice pa (os.length - 1) (vc - 1), .slice none 0 0] := by
                have h9 := RowT.new (wr.setCell ⟨b, 6, none⟩ (.pointer (some ⟨wr.heap.size, 0, none⟩))) 192 [.string n0, .slice pa (os.length - 1) (vc - 1), .slice none 0 0]
                rw [show (wr.setCell ⟨b, 6, none⟩ (.pointer (some ⟨wr.heap.size, 0, none⟩))).heap.size = wr.heap.size from by simp] at h9
                exact h9
              refine ⟨rfl, fun c => absurd rfl c, fun _ => ⟨wr.heap.size, n0, _, os.tail, rfl, ?_, ?_, HF.out.size, hrow, ?_, ?_⟩⟩
              · exact (((Keeps.of_below HF.out).setCell (p := ⟨b, 6, none⟩) (by simp) _).alloc _).drew
              · exact ((HBK.out.row.set 6 _).alloc _).below ((Below.refl _ _).drew)
              · exact (HST.out.set b 6 _ (RowT.notStr HBK.out.row (by decide))).below (((Below.refl _ _).alloc (Nat.le_refl _) _).drew)
              · intro b' off' n' c' he
                injection he with he _ _
                have hbo := HLT.out bo off _ _ rfl
                rw [← HPA.out] at he
                split at he
                · injection he with he; injection he with he _; omega
                · injection he with he; injection he with he _; omega
            · have hxr := HXR.out
              rw [show (stQ ms ns outs calls).macros = ms.map plainQ from rfl, hf] at hxr
              have HXR := hid (show (5, none) = x from hxr)
              clear hxr hf hm
              go_wp2_with (first | (go_at_call 60; refine (bad_any _ r _ _ _ _ _ 5 at_ HX.out.row).mono ?_; rintro e w3 ⟨rfl, rfl⟩))
              first | go_end0 | refine bodyPost_ret (results_none rfl _ _ _) rfl ?_
              rw [← HXR.out]
              exact def_bad HX.out HBK.out (Fq.of_below HF.out) (by decide)
    · rw [if_pos (Or.inl (fun c => hlb (t1.1 c)))] at hxr
      have kl := not_empty lb (by omega)
      have HXR := hid hxr
      clear hxr hlb
      go_wp2_with (first | (go_at_call 60; refine (bad_any _ r _ _ _ _ _ 4 at_ HX.out.row).mono ?_; rintro e w2 ⟨rfl, rfl⟩))
      first | go_end0 | refine bodyPost_ret (results_none rfl _ _ _) rfl ?_
      rw [← HXR.out]
      exact def_bad HX.out HBK.out (Fq.of_below HF.out) (by decide)

end Go.Proofs.YtcepppilgncdmaaGreatDoor
