/-
  What the program's function that reads a macro's head answers (package expand).
  What the program's function of a condition answers (package expand), and what a reader is asked through its interface.
-/
import Derived.Test.YtcepppilgncdmaaGreatDoorBS24
namespace Go.Proofs.YtcepppilgncdmaaGreatDoor
open Go.RowKit
attribute [local go_sem ↓] Go.wp_at_zero Go.wp_at_succ

def noMac : List Value := [.string ⟨#[]⟩, .slice none 0 0, .slice none 0 0]
/-- Is a macro's head wrong? -/
def headBad (W : WordsP) : Bool := decide (¬ W.label = []) || decide (W.operands = []) || !allNames W.operands || !apartP W.operands.tail
/-- What readHead answers. -/
def HeadPost (W : WordsP) (os : List ByteArray) (w : World) (e : Ending) (w' : World) : Prop := Below w.heap.size w w' ∧
  ((headBad W = true ∧ e = .returned (.tuple #[.agg #[.string ⟨#[]⟩, .slice none 0 0, .slice none 0 0], .int .i64 4])) ∨
   (headBad W = false ∧ ∃ n0 pa pc, ∃ h : 0 < os.length, n0 = os[0] ∧ e = .returned (.tuple #[.agg #[.string n0, .slice pa (os.length - 1) pc, .slice none 0 0], .int .i64 0]) ∧ StrV w' 0 (.slice pa (os.length - 1) pc) os.tail))

theorem allNames_at (os : List ByteArray) (k : Nat) (h : k < os.length) : allNames ((os.drop k).map L) = (nameB (L os[k]) && allNames ((os.drop (k + 1)).map L)) := by
  rw [List.drop_eq_getElem_cons h, List.map_cons]; rfl
theorem apartF_at (os : List ByteArray) (k : Nat) (h : k < os.length) : apartF ((os.take k).map L) ((os.drop k).map L) = (!((os.take k).map L).contains (L os[k]) && apartF ((os.take (k + 1)).map L) ((os.drop (k + 1)).map L)) := by
  rw [List.drop_eq_getElem_cons h, List.map_cons, List.take_succ_eq_append_getElem h, List.map_append]; rfl

set_option maxRecDepth 100000 in
set_option maxHeartbeats 1600000 in
theorem readHead_any (w : World) (lb op : ByteArray) (va : Option Addr) (vc : Nat) (os : List ByteArray) (W : WordsP) (C : Nat) (hp : PartsV w C lb op (.slice va os.length vc) os W) (hn : os.length ≤ 1000) (hsz : ∀ i (hi : i < os.length), os[i].size ≤ 1000) :
    Calls Tryz.prog 141 #[.agg #[.string lb, .string op, .slice va os.length vc]] w (HeadPost W os w) := by
  obtain ⟨t1, t2, t3⟩ := hp.two
  have hb0 : Below w.heap.size w ((w.alloc (.cells #[.string lb, .string op, .slice va os.length vc] 101)).alloc (.cells #[.string ⟨#[]⟩, .slice none 0 0, .slice none 0 0] 202)) := ((Below.refl _ _).alloc (Nat.le_refl _) _).alloc (by simp) _
  have HP := hid (hp.below hb0)
  have HPS := hid hp.ops
  have HB0 := hid hb0
  have HR0 := hid (show RowT ((w.alloc (.cells #[.string lb, .string op, .slice va os.length vc] 101)).alloc (.cells #[.string ⟨#[]⟩, .slice none 0 0, .slice none 0 0] 202)) 101 w.heap.size [.string lb, .string op, .slice va os.length vc] from (RowT.new w 101 [.string lb, .string op, .slice va os.length vc]).alloc _)
  have HR1 := hid (show RowT ((w.alloc (.cells #[.string lb, .string op, .slice va os.length vc] 101)).alloc (.cells #[.string ⟨#[]⟩, .slice none 0 0, .slice none 0 0] 202)) 202 (w.heap.size + 1) noMac from by
    have := RowT.new (w.alloc (.cells #[.string lb, .string op, .slice va os.length vc] 101)) 202 noMac
    rw [show (w.alloc (.cells #[.string lb, .string op, .slice va os.length vc] 101)).heap.size = w.heap.size + 1 from by simp] at this
    exact this)
  have HSZ := hid hsz
  clear hp hb0 hsz t3
  by_cases hlb : lb.size = 0
  · have kl := is_empty lb hlb
    by_cases h0 : os.length = 0
    · have HX := hid (show headBad W = true by unfold headBad; rw [decide_eq_true (show W.operands = [] from List.eq_nil_of_length_eq_zero (by rw [t2]; exact h0)), Bool.or_true]; rfl)
      have kn : ((os.length : Int) == 0) = true := by rw [beq_iff_eq]; omega
      have HH0 := hid h0
      clear h0
      go_enter Tryz.func141, Tryz.ntmps141
      go_wp2
      refine bodyPost_ret (v := .tuple #[.agg noMac.toArray, .int .i64 4]) (by simp [results, Tryz.results141, go_sem, noMac]) rfl ⟨?_, Or.inl ⟨HX.out, rfl⟩⟩
      exact HB0.out
    · have kn : ((os.length : Int) == 0) = false := by rw [beq_eq_false_iff_ne]; omega
      obtain ⟨b, off, cap, hv, hbl⟩ : ∃ b off cap, Value.slice va os.length vc = .slice (some ⟨b, off, none⟩) os.length cap ∧ b < _ := by
        obtain ⟨b, off, cap, hv, hbl, _⟩ := HP.out.at_.cell 0 (by omega)
        exact ⟨b, off, cap, hv, hbl⟩
      injection hv with hv1 _ hv2
      subst hv1 hv2
      go_enter Tryz.func141, Tryz.ntmps141
      go_wp2_with fail
      generalize ((w.alloc (.cells #[.string lb, .string op, .slice (some ⟨b, off, none⟩) os.length vc] 101)).alloc (.cells #[.string ⟨#[]⟩, .slice none 0 0, .slice none 0 0] 202)) = w1 at HP HR0 HR1 HB0 hbl ⊢
      have c0 := HR0.out.cell 0 (by simp)
      have c1 := HR0.out.cell 1 (by simp)
      have c2 := HR0.out.cell 2 (by simp)
      have d0 := HR1.out.cell 0 (by decide)
      have d1 := HR1.out.cell 1 (by decide)
      have d2 := HR1.out.cell 2 (by decide)
      have f0 := HR1.out.free 0
      have f1 := HR1.out.free 1
      have f2 := HR1.out.free 2
      have hlt1 := HR1.out.lt
      have HBAD := hid (show headBad W = (!allNames (os.map L) || !apartP (os.tail.map L)) by
        unfold headBad
        rw [t1.2 hlb, ← HPS.out]
        have : ¬ os.map L = [] := fun e => h0 (by simpa using congrArg List.length e)
        simp only [List.map_tail]
        simp [this])
      have HH0 := hid h0
      have HHL := hid hlb
      clear h0 hlb
      go_loop [22] (fun i => ∃ k : Nat, k ≤ os.length ∧ i = .int .i64 k ∧ allNames (os.map L) = allNames ((os.drop k).map L)) (fun i => os.length - (intOf i).toNat)
      case atStart => exact ⟨0, Nat.zero_le _, rfl, by rw [List.drop_zero]⟩
      case round =>
        obtain ⟨k, hk, rfl, ha⟩ := hrel
        have HA := hid ha
        clear ha
        by_cases hlt : k < os.length
        · have kd : decide ((k : Int) < (os.length : Int)) = true := by simp; omega
          obtain ⟨_, _, _, hv', _, ck⟩ := HP.out.at_.cell k hlt
          injection hv' with hv11 _ hv12
          injection hv11 with hv11
          injection hv11 with hv13 hv14
          subst hv13 hv14
          clear hv12
          have hks := HSZ.out k hlt
          have hA := HA.out
          rw [allNames_at _ _ hlt] at hA
          cases hnm : nameB (L os[k]) with
          | true =>
            rw [hnm, Bool.true_and] at hA
            have HA2 := hid hA
            have HNM := hid hnm
            clear hA hnm
            go_wp2_with (first | (go_at_call 78; refine (IsName_any _ _ (by unfold maxLen; omega)).mono ?_; rw [HNM.out]; rintro e w' ⟨rfl, rfl⟩))
            go_round
            case rel => exact ⟨k + 1, by omega, by go_num, HA2.out⟩
            case measure => simp [intOf]; omega
          | false =>
            rw [hnm, Bool.false_and] at hA
            have HX := hid (show headBad W = true by rw [HBAD.out, hA]; rfl)
            have HNM := hid hnm
            clear hA hnm
            go_wp2_with (first | (go_at_call 78; refine (IsName_any _ _ (by unfold maxLen; omega)).mono ?_; rw [HNM.out]; rintro e w' ⟨rfl, rfl⟩))
            refine bodyPost_ret (v := .tuple #[.agg noMac.toArray, .int .i64 4]) (by simp [results, Tryz.results141, go_sem, d0, d1, d2, noMac]) rfl ⟨?_, Or.inl ⟨HX.out, rfl⟩⟩
            exact ((HB0.out.setCell (Nat.le_succ _) _).setCell (Nat.le_succ _) _).setCell (Nat.le_succ _) _
        · have kd : decide ((k : Int) < (os.length : Int)) = false := by simp; omega
          have HAN := hid (show allNames (os.map L) = true by rw [HA.out, List.drop_eq_nil_of_le (by omega)]; rfl)
          obtain ⟨n0, hn0⟩ : ∃ n0, os[0]'(by have := HH0.out; omega) = n0 := ⟨_, rfl⟩
          obtain ⟨_, _, _, hv', _, ck⟩ := HP.out.at_.cell 0 (by have := HH0.out; omega)
          injection hv' with hv11 _ hv12
          injection hv11 with hv11
          injection hv11 with hv13 hv14
          subst hv13 hv14
          rw [Nat.add_zero, hn0] at ck
          have hpos : (1 : Int) ≤ (os.length : Int) := by have := HH0.out; omega
          have hpos2 : (0 : Int) < (os.length : Int) := by have := HH0.out; omega
          clear hv12
          have hcap : os.length ≤ vc := by
            rcases HP.out.at_ with ⟨h1, _⟩ | ⟨_, _, _, _, h1, _, _, h2, _⟩
            · cases h1
            · injection h1 with _ _ h3; omega
          have a2 : ∀ o, (w1.alloc o).cell? ⟨w.heap.size, 2, none⟩ = some (.slice (some ⟨b, off, none⟩) os.length vc) := fun o => (HR0.out.alloc o).cell 2 (by simp)
          have ak : ∀ o, (w1.alloc o).cell? ⟨b, off, none⟩ = some (.string n0) := fun o => by
            rw [((Below.refl w1.heap.size w1).alloc (Nat.le_refl _) o).cell (p := ⟨b, off, none⟩) hbl]; exact ck
          have hp0 : 0 < os.length := by omega
          have hp1 : 1 ≤ os.length := by omega
          obtain ⟨pa, hpa⟩ : ∃ pa : Option Addr, (if vc = 1 then some ⟨b, off, none⟩ else some ⟨b, off + 1, none⟩) = pa := ⟨_, rfl⟩
          have hst : StrV w1 0 (.slice pa (os.length - 1) (vc - 1)) os.tail := by
            rcases HP.out.at_ with ⟨h1, _⟩ | ⟨b', off', cap', cur, h1, _, h3, h4, h5⟩
            · cases h1
            · injection h1 with h6 _ h7
              injection h6 with h6
              injection h6 with h8 h9
              subst h8 h9
              by_cases hv1 : vc = 1
              · rw [if_pos hv1] at hpa
                have h0 : os.tail = [] := List.eq_nil_of_length_eq_zero (by rw [List.length_tail]; omega)
                exact Or.inr ⟨b, off, vc - 1, cur, by rw [h0, ← hpa, show os.length - 1 = 0 from by omega]; rfl, Nat.zero_le _, h3, by rw [h0]; simp, fun i hi => by rw [h0] at hi; simp at hi⟩
              · rw [if_neg hv1] at hpa
                refine Or.inr ⟨b, off + 1, vc - 1, cur, by rw [List.length_tail, ← hpa], Nat.zero_le _, h3, by rw [List.length_tail]; omega, fun i hi => ?_⟩
                rw [List.length_tail] at hi
                rw [show off + 1 + i = off + (i + 1) from by omega, h5 (i + 1) (by omega)]
                simp
          have HST := hid hst
          have HPA := hid hpa
          clear hst hpa
          go_wp2_with fail
          go_region
          rw [HPA.out]
          have hb2 : Below w1.heap.size w1 (w1.alloc (.cells #[.string n0, .slice pa (os.length - 1) (vc - 1), .slice none 0 0] 202)).drew := ((Below.refl _ _).alloc (Nat.le_refl _) _).drew
          have HB2 := hid (below_on HB0.out (Nat.le_refl _) hb2)
          have HR2 := hid (show RowT (w1.alloc (.cells #[.string n0, .slice pa (os.length - 1) (vc - 1), .slice none 0 0] 202)).drew 202 w1.heap.size [.string n0, .slice pa (os.length - 1) (vc - 1), .slice none 0 0] from RowT.new w1 202 [.string n0, .slice pa (os.length - 1) (vc - 1), .slice none 0 0])
          have HR1' := hid (HR1.out.below hb2)
          have HST2 := hid (HST.out.below hb2)
          generalize (w1.alloc (.cells #[.string n0, .slice pa (os.length - 1) (vc - 1), .slice none 0 0] 202)).drew = w2 at HB2 HR2 HR1' HST2 ⊢
          have hw1 : w.heap.size + 1 < w1.heap.size := hlt1
          clear hb2 c0 c1 c2 d0 d1 d2 f0 f1 f2 ck a2 ak HR1 HST
          have g0 := HR2.out.cell 0 (by simp)
          have g1 := HR2.out.cell 1 (by simp)
          have g2 := HR2.out.cell 2 (by simp)
          have d0 := HR1'.out.cell 0 (by decide)
          have d1 := HR1'.out.cell 1 (by decide)
          have d2 := HR1'.out.cell 2 (by decide)
          have f0 := HR1'.out.free 0
          have f1 := HR1'.out.free 1
          have f2 := HR1'.out.free 2
          have hvc : os.length - 1 ≤ vc - 1 := by omega
          obtain ⟨tl, htl⟩ : ∃ tl, os.tail = tl := ⟨_, rfl⟩
          have htll : os.length - 1 = tl.length := by rw [← htl, List.length_tail]
          have htlb : tl.length ≤ 1000 := by omega
          have HTL := hid htl
          have HNM0 := hid hn0
          have HTLL := hid htll
          have HBD2 := hid (show headBad W = !apartP (tl.map L) by rw [HBAD.out, HAN.out, htl]; rfl)
          have hszt : ∀ i (hi : i < tl.length), tl[i].size ≤ 1000 := fun i hi => by
            subst htl
            rw [List.getElem_tail]
            exact HSZ.out (i + 1) (by rw [List.length_tail] at hi; omega)
          have HSZT := hid hszt
          rw [htl, htll] at HST2
          rw [htll] at g1 hvc HR2
          rw [htll]
          clear htl hn0 htll hszt HA kd
          go_wp2_with fail
          go_loop [42] (fun i => ∃ j : Nat, j ≤ tl.length ∧ i = .int .i64 j ∧ apartP (tl.map L) = apartF ((tl.take j).map L) ((tl.drop j).map L)) (fun i => tl.length - (intOf i).toNat)
          case atStart => exact ⟨0, Nat.zero_le _, rfl, by simp [apartP]⟩
          case round =>
            obtain ⟨j, hj, rfl, ha⟩ := hrel
            have HA := hid ha
            clear ha
            by_cases hlt2 : j < tl.length
            · have kd2 : decide ((j : Int) < (tl.length : Int)) = true := by simp; omega
              obtain ⟨b2, o2, cp2, hv', hb2', ck⟩ := HST2.out.cell j hlt2
              injection hv' with hv11 _ hv12
              subst hv11
              clear hv12
              have hjs := HSZT.out j hlt2
              have hA := HA.out
              rw [apartF_at _ _ hlt2] at hA
              have hcell : ∀ i, i < tl.length → w2.cell? ⟨b2, o2 + i, none⟩ = some (.string (tl.getD i ByteArray.empty)) := fun i hi => by
                obtain ⟨_, _, _, hv2', _, c2⟩ := HST2.out.cell i hi
                injection hv2' with h1 _ _
                injection h1 with h1
                injection h1 with h2 h3
                subst h2 h3
                rw [c2, List.getD_eq_getElem?_getD, List.getElem?_eq_getElem hi]; rfl
              have HCELL := hid hcell
              have hcon : Lib.containsS (tl.take j) tl[j] = ((tl.take j).map L).contains (L tl[j]) := by
                rw [Bool.eq_iff_iff, Lib.containsS_iff, List.contains_iff_mem, List.mem_map]
                exact ⟨fun h => ⟨_, h, rfl⟩, fun ⟨x, h1, h2⟩ => by rwa [L_inj h2] at h1⟩
              obtain ⟨cb, hcb⟩ : ∃ cb, ((tl.take j).map L).contains (L tl[j]) = cb := ⟨_, rfl⟩
              rw [hcb] at hA hcon
              have HCON := hid hcon
              have kj0 : (0 : Int) ≤ (j : Int) := Int.natCast_nonneg _
              have kj1 : (j : Int) ≤ ((vc - 1 : Nat) : Int) := by omega
              clear hcell hcon hcb
              cases cb with
              | true =>
                have hA' : apartP (tl.map L) = false := hA
                have HX := hid (show headBad W = true by rw [HBD2.out, hA']; rfl)
                clear hA hA'
                go_wp2_with (first | (go_at_call 162; refine (Tryz.slices_Contains_string b2 o2 j _ tl tl[j] _ hj (by omega) HCELL.out).mono ?_; rw [HCON.out]; rintro e w' ⟨rfl, rfl⟩))
                refine bodyPost_ret (v := .tuple #[.agg noMac.toArray, .int .i64 4]) (by simp [results, Tryz.results141, go_sem, d0, d1, d2, noMac]) rfl ⟨?_, Or.inl ⟨HX.out, rfl⟩⟩
                exact ((HB2.out.setCell (Nat.le_succ _) _).setCell (Nat.le_succ _) _).setCell (Nat.le_succ _) _
              | false =>
                have hA' : apartP (tl.map L) = apartF ((tl.take (j + 1)).map L) ((tl.drop (j + 1)).map L) := by rw [hA]; rfl
                have HA2 := hid hA'
                clear hA hA'
                go_wp2_with (first | (go_at_call 162; refine (Tryz.slices_Contains_string b2 o2 j _ tl tl[j] _ hj (by omega) HCELL.out).mono ?_; rw [HCON.out]; rintro e w' ⟨rfl, rfl⟩))
                go_round
                case rel => exact ⟨j + 1, by omega, by go_num, HA2.out⟩
                case measure => simp [intOf]; omega
            · have kd2 : decide ((j : Int) < (tl.length : Int)) = false := by simp; omega
              have HX := hid (show headBad W = false by rw [HBD2.out, HA.out, List.drop_eq_nil_of_le (by omega)]; rfl)
              go_wp2
              refine bodyPost_ret (v := .tuple #[.agg #[.string n0, .slice pa tl.length (vc - 1), .slice none 0 0], .int .i64 0]) (by simp [results, Tryz.results141, go_sem, d0, d1, d2, noMac]) rfl ⟨?_, Or.inr ⟨HX.out, n0, pa, vc - 1, by omega, HNM0.out.symm, by rw [HTLL.out], ?_⟩⟩
              · exact ((HB2.out.setCell (Nat.le_succ _) _).setCell (Nat.le_succ _) _).setCell (Nat.le_succ _) _
              · rw [HTLL.out, HTL.out]
                exact ((HST2.out.set _ _ _ (RowT.notStr HR1'.out (by decide))).set _ _ _ (RowT.notStr (HR1'.out.set 0 _) (by decide))).set _ _ _ (RowT.notStr ((HR1'.out.set 0 _).set 1 _) (by decide))
  · have kl := not_empty lb (by omega)
    have HX := hid (show headBad W = true by unfold headBad; rw [decide_eq_true (show ¬ W.label = [] from fun e => hlb (t1.1 e))]; rfl)
    go_enter Tryz.func141, Tryz.ntmps141
    go_wp2
    refine bodyPost_ret (v := .tuple #[.agg noMac.toArray, .int .i64 4]) (by simp [results, Tryz.results141, go_sem, noMac]) rfl ⟨?_, Or.inl ⟨HX.out, rfl⟩⟩
    exact HB0.out

end Go.Proofs.YtcepppilgncdmaaGreatDoor

namespace Go.Proofs.YtcepppilgncdmaaGreatDoor
open Go.RowKit
attribute [local go_sem ↓] Go.wp_at_zero Go.wp_at_succ

/-- A reader's two types: the pointer's, the block's. -/
def Rd (T t : Nat) : Prop := (T = 69 ∧ t = 74) ∨ (T = 207 ∧ t = 209)
theorem Rd.facts {T t : Nat} (h : Rd T t) : 257 ≠ t ∧ t ≠ 9 ∧ t ≠ 101 ∧ rT t = true ∧ eT t = false := by
  rcases h with ⟨_, rfl⟩ | ⟨_, rfl⟩ <;> exact ⟨by decide, by decide, by decide, rfl, rfl⟩
theorem ask_depth {T t : Nat} (h : Rd T t) (bm : Nat) (w : World) : (method 359 T (.pointer (some ⟨bm, 0, none⟩)) "mason/expand.depth").run Tryz.prog w = .ok (196, .pointer (some ⟨bm, 0, none⟩)) w := by
  rcases h with ⟨rfl, _⟩ | ⟨rfl, _⟩ <;> kernel_rfl
theorem ask_passing {T t : Nat} (h : Rd T t) (bm : Nat) (w : World) : (method 359 T (.pointer (some ⟨bm, 0, none⟩)) "mason/expand.passing").run Tryz.prog w = .ok (198, .pointer (some ⟨bm, 0, none⟩)) w := by
  rcases h with ⟨rfl, _⟩ | ⟨rfl, _⟩ <;> kernel_rfl
theorem ask_begin {T t : Nat} (h : Rd T t) (bm : Nat) (w : World) : (method 359 T (.pointer (some ⟨bm, 0, none⟩)) "mason/expand.begin").run Tryz.prog w = .ok (195, .pointer (some ⟨bm, 0, none⟩)) w := by
  rcases h with ⟨rfl, _⟩ | ⟨rfl, _⟩ <;> kernel_rfl
theorem ask_turn {T t : Nat} (h : Rd T t) (bm : Nat) (w : World) : (method 359 T (.pointer (some ⟨bm, 0, none⟩)) "mason/expand.turn").run Tryz.prog w = .ok (200, .pointer (some ⟨bm, 0, none⟩)) w := by
  rcases h with ⟨rfl, _⟩ | ⟨rfl, _⟩ <;> kernel_rfl
theorem ask_finish {T t : Nat} (h : Rd T t) (bm : Nat) (w : World) : (method 359 T (.pointer (some ⟨bm, 0, none⟩)) "mason/expand.finish").run Tryz.prog w = .ok (197, .pointer (some ⟨bm, 0, none⟩)) w := by
  rcases h with ⟨rfl, _⟩ | ⟨rfl, _⟩ <;> kernel_rfl
theorem ask_more {T t : Nat} (h : Rd T t) (bm : Nat) (w : World) : (method 359 T (.pointer (some ⟨bm, 0, none⟩)) "mason/expand.more").run Tryz.prog w = .ok (163, .pointer (some ⟨bm, 0, none⟩)) w := by
  rcases h with ⟨rfl, _⟩ | ⟨rfl, _⟩ <;> kernel_rfl
theorem ask_lread (bm : Nat) (w : World) : (method 359 69 (.pointer (some ⟨bm, 0, none⟩)) "mason/expand.read").run Tryz.prog w = .ok (199, .pointer (some ⟨bm, 0, none⟩)) w := by kernel_rfl
theorem ask_mread (bm : Nat) (w : World) : (method 359 207 (.pointer (some ⟨bm, 0, none⟩)) "mason/expand.read").run Tryz.prog w = .ok (202, .pointer (some ⟨bm, 0, none⟩)) w := by kernel_rfl

/-- What a function that may turn a reader's conditions answers: the expansion is as it was. -/
def IfPost (B be bt wi k t bm : Nat) (v : Value) (rest : List Value) (st : StP) (r : Int × List OpenP) (w : World) (e : Ending) (w' : World) : Prop :=
  e = .returned (.int .i64 r.1) ∧ FrC B (condM bm v) w w' ∧ (r.1 = 0 → ExpSt w' B be bt wi k st ∧ ∃ v', (∀ g, v'.ownBlock = some g → v.ownBlock = some g ∨ w.heap.size ≤ g) ∧ CondAt w' B t bm v' rest r.2) ∧ NumAt w' be bt wi k

theorem ExpAt.frc {w w' : World} {B be bt wi k : Nat} {vm vn vl : Value} {ms : List MacV} {ns : List (ByteArray × Int)} {outs : List (ByteArray × Nat)} {calls : Nat} (h : ExpAt w B be bt wi k vm vn vl ms ns outs calls) {M : List Nat} (hf : FrC B M w w') {k' : Nat} (ht : ∃ xs, RowT w' 74 bt xs ∧ xs[2]? = some (.int .i64 (k' : Nat))) : ExpAt w' B be bt wi k' vm vn vl ms ns outs calls :=
  ⟨h.row.fr hf rfl (fun h => by cases h), ownsRow_fr h.mown hf rfl (fun h => by cases h), ownsRow_fr h.nown hf rfl (fun h => by cases h), ownsRow_fr h.lown hf rfl (fun h => by cases h), fun m hm => ⟨(h.mstr m hm).1.frc hf, (h.mstr m hm).2.frc hf⟩, h.at_, ht⟩
theorem ExpSt.frc {w w' : World} {B be bt wi k : Nat} {st : StP} (h : ExpSt w B be bt wi k st) {M : List Nat} (hf : FrC B M w w') {k' : Nat} (ht : ∃ xs, RowT w' 74 bt xs ∧ xs[2]? = some (.int .i64 (k' : Nat))) : ExpSt w' B be bt wi k' st := by
  obtain ⟨vm, vn, vl, ms, ns, outs, calls, hx, rfl⟩ := h
  exact ⟨vm, vn, vl, ms, ns, outs, calls, hx.frc hf ht, rfl⟩
theorem ExpSt.below {w w' : World} {B be bt wi k : Nat} {st : StP} (h : ExpSt w B be bt wi k st) (hb : Below w.heap.size w w') : ExpSt w' B be bt wi k st := by
  obtain ⟨vm, vn, vl, ms, ns, outs, calls, hx, rfl⟩ := h
  exact ⟨vm, vn, vl, ms, ns, outs, calls, hx.below hb, rfl⟩
theorem ExpSt.text {w : World} {B be bt wi k : Nat} {st : StP} (h : ExpSt w B be bt wi k st) : ∃ xs, RowT w 74 bt xs ∧ xs[2]? = some (.int .i64 (k : Nat)) := by
  obtain ⟨vm, vn, vl, ms, ns, outs, calls, hx, rfl⟩ := h
  exact hx.text
theorem ExpSt.num {w : World} {B be bt wi k : Nat} {st : StP} (h : ExpSt w B be bt wi k st) : NumAt w be bt wi k := by
  obtain ⟨vm, vn, vl, ms, ns, outs, calls, hx, rfl⟩ := h
  exact hx.num
theorem RowT.same {w : World} {t e g : Nat} {xs ys : List Value} (h : RowT w t g xs) (k : RowT w e g ys) : t = e ∧ xs = ys := by
  unfold RowT at h k
  rw [h] at k
  injection k with k
  injection k with k1 k2
  exact ⟨k2, by simpa using k1⟩
/-- The text's reader behind a turn of a reader's conditions: whether it is that one or not. -/
theorem text_after {w w' : World} {B be bt wi k t bm : Nat} {st : StP} {v v' lv : Value} {j : Nat} {rest : List Value} {opens : List OpenP} (h : ExpSt w B be bt wi k st) (hc : CondAt w B t bm v (lv :: .int .i64 (j : Nat) :: rest) opens) (hc' : RowT w' t bm (v' :: lv :: .int .i64 (j : Nat) :: rest)) (hf : FrC B (condM bm v) w w') : ∃ xs, RowT w' 74 bt xs ∧ xs[2]? = some (.int .i64 (k : Nat)) := by
  obtain ⟨xs, h1, h2⟩ := h.text
  by_cases hb : bm = bt
  · subst hb
    obtain ⟨h3, h4⟩ := h1.same hc.row
    rw [h4] at h2
    exact ⟨_, h3 ▸ hc', by simpa using h2⟩
  · refine ⟨xs, h1.fr hf rfl (fun _ hm => ?_), h2⟩
    unfold condM at hm
    rcases List.mem_cons.1 hm with h5 | h5
    · exact hb h5.symm
    · have h6 := own_row_ne hc.own h1 (by decide)
      rw [Option.mem_toList] at h5
      exact h6 h5
theorem CondPost.ifPost {B be bt wi k t bm : Nat} {v lv : Value} {j : Nat} {rest : List Value} {st : StP} {opens : List OpenP} {r : Int × List OpenP} {w : World} {e : Ending} {w' : World} (h : CondPost B t bm v (lv :: .int .i64 (j : Nat) :: rest) r.2 r.1 w e w') (hs : ExpSt w B be bt wi k st) (hc : CondAt w B t bm v (lv :: .int .i64 (j : Nat) :: rest) opens) :
    IfPost B be bt wi k t bm v (lv :: .int .i64 (j : Nat) :: rest) st r w e w' := by
  obtain ⟨h1, h2, h3, v2, h4⟩ := h
  have hst := hs.frc h2 (text_after hs hc h4 h2)
  refine ⟨h1, h2, fun h0 => ?_, hst.num⟩
  obtain ⟨v', h5, h6⟩ := h3 h0
  exact ⟨hst, v', fun g hg => Or.inl (h5 ▸ hg), h6⟩

set_option maxRecDepth 100000 in
set_option maxHeartbeats 1600000 in
theorem doIf_any (w : World) (B be bt wi k T t bm : Nat) (st : StP) (v lv : Value) (j : Nat) (rest : List Value) (opens : List OpenP) (lb op : ByteArray) (va : Option Addr) (vc : Nat) (os : List ByteArray) (W : WordsP) (C : Nat)
    (hrd : Rd T t) (h : ExpSt w B be bt wi k st) (hc : CondAt w B t bm v (lv :: .int .i64 (j : Nat) :: rest) opens) (hp : PartsV w C lb op (.slice va os.length vc) os W) (hsz : ∀ i (hi : i < os.length), os[i].size ≤ 1000) (hnl : st.names.length ≤ 1000) (hB : B ≤ w.heap.size) (hbm : B ≤ bm) :
    Calls Tryz.prog 70 #[.pointer (some ⟨be, 0, none⟩), .iface T (.pointer (some ⟨bm, 0, none⟩)), .agg #[.string lb, .string op, .slice va os.length vc]] w (IfPost B be bt wi k t bm v (lv :: .int .i64 (j : Nat) :: rest) st (ifP W opens st) w) := by
  have hb0 : Below w.heap.size w (w.alloc (.cells #[.string lb, .string op, .slice va os.length vc] 101)) := (Below.refl _ _).alloc (Nat.le_refl _) _
  have HS := hid (h.below hb0)
  have HC := hid (hc.below hb0)
  have HP := hid (hp.below hb0)
  have HF := hid (show FrC B (condM bm v) w (w.alloc (.cells #[.string lb, .string op, .slice va os.length vc] 101)) from FrC.of_below hb0)
  have HBX := hid (RowT.new w 101 [.string lb, .string op, .slice va os.length vc])
  obtain ⟨htc, hts, htp, hrt, het⟩ := hrd.facts
  obtain ⟨t1, t2, t3⟩ := hp.two
  have HSZ := hid hsz
  have HT3 := hid t3
  have hfew := hc.few
  have m1 := fun w => ask_depth hrd bm w
  have m2 := fun w => ask_passing hrd bm w
  have m3 := fun w => ask_begin hrd bm w
  obtain ⟨r, hr⟩ : ∃ r, ifP W opens st = r := ⟨_, rfl⟩
  rw [hr]
  unfold ifP at hr
  rw [t2] at hr
  clear h hc hp hb0 hsz t3
  have HRX := hid hr
  clear hr
  go_enter Tryz.func70, Tryz.ntmps70
  go_wp2_with fail
  generalize (w.alloc (.cells #[.string lb, .string op, .slice va os.length vc] 101)) = w0 at HS HC HP HF HBX ⊢
  refine (depth_any _ B t bm v _ opens HC.out).mono ?_
  rintro e w1 ⟨rfl, rfl⟩
  have hr := HRX.out
  by_cases h8 : 8 ≤ opens.length
  · rw [if_pos h8] at hr
    subst hr
    have k8 : ((opens.length : Int) == 8) = true := by rw [beq_iff_eq]; omega
    go_wp2
    go_ret
    exact ⟨rfl, HF.out, (fun h => by cases h), HS.out.num⟩
  · rw [if_neg h8] at hr
    have k8 : ((opens.length : Int) == 8) = false := by rw [beq_eq_false_iff_ne]; omega
    have HRY := hid hr
    clear hr
    go_wp2_with fail
    refine (passing_any _ B t bm v _ opens HC.out).mono ?_
    cases hov : overP opens with
    | true =>
      rintro e w2 ⟨rfl, rfl⟩
      have hr := HRY.out
      rw [hov, if_pos rfl] at hr
      subst hr
      clear hov
      go_wp2_with fail
      refine (begin_any _ B t bm v _ opens ⟨false, false, true⟩ HC.out (Nat.le_trans hB HF.out.size) hbm hrt htc (by omega) rfl).mono ?_
      rintro e w3 ⟨rfl, v', hc', hf', hg'⟩
      go_wp2
      go_ret
      refine ⟨rfl, HF.out.trans hf', fun _ => ⟨HS.out.frc hf' (text_after HS.out HC.out hc'.row hf'), v', fun g hg => (hg' g hg).imp id fun h => ?_, hc'⟩, (HS.out.frc hf' (text_after HS.out HC.out hc'.row hf')).num⟩
      exact Nat.le_trans HF.out.size h
    | false =>
      rintro e w2 ⟨rfl, rfl⟩
      have hr := HRY.out
      rw [hov, if_neg (by simp)] at hr
      clear hov
      by_cases hlb : lb.size = 0
      · rw [t1.2 hlb] at hr
        have kl := is_empty lb hlb
        by_cases h1 : os.length = 1
        · rw [if_neg (by simp [h1])] at hr
          have hpos0 : 0 < os.length := by omega
          obtain ⟨x1, hx1⟩ : ∃ x1, os[0] = x1 := ⟨_, rfl⟩
          have e0 : W.operands.headD [] = L x1 := by rw [headD_get, ← hx1]; exact HT3.out 0 hpos0
          rw [e0] at hr
          have hs1 : x1.size ≤ 1000 := by rw [← hx1]; exact HSZ.out 0 hpos0
          obtain ⟨b, off, cap, hv, hbl, d0⟩ := HP.out.at_.cell 0 hpos0
          injection hv with hv1 _ hv2
          subst hv1
          rw [Nat.add_zero, hx1] at d0
          obtain ⟨vm, vn, vl, ms, ns, outs, calls, hx, hst⟩ := HS.out
          obtain ⟨na, nc, hnv, hna⟩ := hx.namesAt
          subst hnv
          subst hst
          obtain ⟨q, hq⟩ : ∃ q, value 0 (plainN ns) (L x1) = q := ⟨_, rfl⟩
          obtain ⟨z, er⟩ := q
          have hq' : value 0 (stOf ms ns outs calls).names (L x1) = (z, er) := hq
          rw [hq'] at hr
          have HQ := hid hq
          have HRZ := hid hr
          have c2 : World.cell? _ ⟨be, 2, none⟩ = some (.slice na ns.length nc) := hx.row.cell 2 (by simp)
          have HNA := hid hna
          have hnl' : ns.length ≤ 1000 := by simpa [stOf, plainN] using hnl
          clear hx hna hq hq' hr hv2 hx1 hpos0 e0
          have y0 := HBX.out.cell 0 (by simp)
          have y1 := HBX.out.cell 1 (by simp)
          have y2 := HBX.out.cell 2 (by simp)
          rw [h1] at y2
          have HH1 := hid h1
          go_wp2_with fail
          go_region_with (go_at_call 36; refine (xValue_any x1 0 na nc ns _ z er (by unfold maxLen; omega) (by unfold maxLen; omega) (HNA.out.below ((Below.refl _ _).drew)) HQ.out).mono ?_; rintro e w3 ⟨rfl, hb3⟩)
          all_goals
            have hb3' := ((Below.refl _ _).drew).trans (hb3.mono (Nat.le_refl _))
            have HS3 := hid (HS.out.below hb3')
            have HC3 := hid (HC.out.below hb3')
            have HF3 := hid (HF.out.trans (FrC.of_below hb3'))
            clear hb3 hb3' y0 y1 y2 c2 d0 h1
            have hr := HRZ.out
            by_cases her : er = 0
            · subst her
              rw [if_neg (by simp)] at hr
              subst hr
              have kz : (z == 0) = passOf ⟨decide (z ≠ 0), false, false⟩ := by
                by_cases hz : z = 0 <;> simp [passOf, hz]
              have HKZ := hid kz
              clear kz
              go_wp2_with fail
              refine (by have := begin_any _ B t bm v _ opens ⟨decide (z ≠ 0), false, false⟩ HC3.out (Nat.le_trans hB HF3.out.size) hbm hrt htc (by omega) rfl; rw [← HKZ.out] at this; exact this : Calls Tryz.prog 195 #[.pointer (some ⟨bm, 0, none⟩), .bool (z == 0)] w3 _).mono ?_
              rintro e w4 ⟨rfl, v', hc', hf', hg'⟩
              go_wp2
              go_ret
              refine ⟨rfl, HF3.out.trans hf', fun _ => ⟨HS3.out.frc hf' (text_after HS3.out HC3.out hc'.row hf'), v', fun g hg => (hg' g hg).imp id fun h => ?_, hc'⟩, (HS3.out.frc hf' (text_after HS3.out HC3.out hc'.row hf')).num⟩
              exact Nat.le_trans HF3.out.size h
            · have ke : (er != 0) = true := by simpa using her
              rw [if_pos her] at hr
              subst hr
              go_wp2
              go_ret
              exact ⟨rfl, HF3.out, fun h => absurd h her, HS3.out.num⟩
        · rw [if_pos (Or.inr h1)] at hr
          subst hr
          have k2 : ((os.length : Int) != 1) = true := by simp; omega
          have y0 := HBX.out.cell 0 (by simp)
          have y2 := HBX.out.cell 2 (by simp)
          go_wp2
          go_ret
          exact ⟨rfl, HF.out, (fun h => by cases h), HS.out.num⟩
      · rw [if_pos (Or.inl (fun e => hlb (t1.1 e)))] at hr
        subst hr
        have kl := not_empty lb (by omega)
        have y0 := HBX.out.cell 0 (by simp)
        go_wp2
        go_ret
        exact ⟨rfl, HF.out, (fun h => by cases h), HS.out.num⟩

end Go.Proofs.YtcepppilgncdmaaGreatDoor
