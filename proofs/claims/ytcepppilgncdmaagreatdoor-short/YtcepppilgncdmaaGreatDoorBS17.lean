/-
  How a statement's operands are read (package assemble): readOperands.
  What the program's function that gives a name a value answers (package expand).
-/
import Derived.Test.YtcepppilgncdmaaGreatDoorBS16
import Derived.Test.YtcepppilgncdmaaGreatDoorBS15
import Derived.Deep.RegionWith
namespace Go.Proofs.YtcepppilgncdmaaGreatDoor
open Go.RowKit

/-- What readOperands answers. -/
def RoPost (b : Nat) (x : StV) (os : List ByteArray) (r : Int × Nat × Nat) (w : World) (e : Ending) (w' : World) : Prop :=
  e = .returned (.int .i64 r.1) ∧ Keeps [b] w w' ∧ (r.1 = 0 → ∃ v, StrV w' 0 v (os.drop x.o.regs) ∧ RowT w' 113 b (stOne { x with added := r.2.1, v := v, es := os.drop x.o.regs, count := r.2.2 }))
theorem regsP_bd : ∀ (l : List (List UInt8)) (a c : Nat), regsP l a = some c → c + 1 ≤ (a + 1) * 4 ^ l.length
  | [], a, c, h => by simp only [regsP, Option.some.injEq] at h; simp [h]
  | r :: t, a, c, h => by
    simp only [regsP] at h
    split at h
    · have h1 := regsP_bd t _ c h
      have h2 : (regV r).toNat ≤ 3 := by
        rename_i hr
        unfold regV
        rw [if_pos hr]
        unfold regB at hr
        split at hr
        · rename_i a b
          simp only [Bool.and_eq_true, decide_eq_true_eq] at hr
          show (((([a, b] : List UInt8).getD 1 0).toNat : Int) - 48).toNat ≤ 3
          simp only [List.getD_cons_succ, List.getD_cons_zero]
          omega
        · cases hr
      have h3 : (4 * a + (regV r).toNat + 1) * 4 ^ t.length ≤ ((a + 1) * 4) * 4 ^ t.length := Nat.mul_le_mul_right _ (by omega)
      rw [List.length_cons, Nat.pow_succ, Nat.mul_comm (4 ^ t.length) 4, ← Nat.mul_assoc]
      exact Nat.le_trans h1 h3
    · cases h
theorem StrV.keeps {w w' : World} {B b : Nat} {v : Value} {ss : List ByteArray} {xs : List Value} (h : StrV w B v ss) (hr : RowT w 113 b xs) (hk : Keeps [b] w w') : StrV w' B v ss := by
  rcases h with h | ⟨k, off, cap, cur, h1, h2, h3, h4⟩
  · exact Or.inl h
  · refine Or.inr ⟨k, off, cap, cur, h1, h2, ?_, h4⟩
    rw [hk.block k (Array.getElem?_eq_some_iff.1 h3).1 (by
      simp only [List.mem_singleton]
      exact hr.notStr (by decide) k cur h3)]
    exact h3
theorem NamesAt.keepsS {w w' : World} {b : Nat} {a : Option Addr} {ns : List (ByteArray × Int)} (h : NamesAt w a ns) (hk : Keeps [b] w w') (hb : ∀ k off, a = some ⟨k, off, none⟩ → k ≠ b) : NamesAt w' a ns := by
  rcases h with h | ⟨k, off, h1, h2, h3⟩
  · exact Or.inl h
  · refine Or.inr ⟨k, off, h1, Nat.lt_of_lt_of_le h2 hk.size, fun i hi => ?_⟩
    have hne : k ∉ [b] := by simpa using hb k off h1
    rw [hk.cell (p := ⟨k, off + i * 2, none⟩) h2 hne, hk.cell (p := ⟨k, off + i * 2 + 1, none⟩) h2 hne]
    exact h3 i hi

set_option maxRecDepth 100000 in
set_option maxHeartbeats 1600000 in
theorem readOperands_any (w : World) (b : Nat) (x : StV) (va na : Option Addr) (vc nc : Nat) (os : List ByteArray) (ts : List (ByteArray × Int)) (hx : RowT w 113 b (stOne x)) (hadd : x.added = 0) (hcnt : x.count = 0) (hs : StrV w 0 (.slice va os.length vc) os) (hos : os.length ≤ 1000) (hsz : ∀ i (h : i < os.length), os[i].size ≤ 1000) (hreg : x.o.regs ≤ 2) (hn : NamesAt w na ts) (hnb : ∀ k off, na = some ⟨k, off, none⟩ → k ≠ b) (ht : ts.length ≤ 1000) :
    Calls Tryz.prog 74 #[.pointer (some ⟨b, 0, none⟩), .slice va os.length vc, .slice na ts.length nc] w (RoPost b x os (operandsP x.o (os.map L) (plainN ts)) w) := by
  obtain ⟨r, hr⟩ : ∃ r, operandsP x.o (os.map L) (plainN ts) = r := ⟨_, rfl⟩
  rw [hr]
  unfold operandsP at hr
  rw [List.length_map] at hr
  obtain ⟨⟨k, rg, c, l, d⟩, lab, has, added, v0, es, count, long⟩ := x
  simp only at hr hadd hcnt hreg ⊢
  subst hadd hcnt
  have c0 : w.cell? ⟨b, 0, none⟩ = some (.int .i64 (k : Nat)) := hx.cell 0 (by simp [stOne])
  have c1 : w.cell? ⟨b, 1, none⟩ = some (.int .i64 (rg : Nat)) := hx.cell 1 (by simp [stOne])
  have c2 : w.cell? ⟨b, 2, none⟩ = some (.int .i64 (c : Nat)) := hx.cell 2 (by simp [stOne])
  have c3 : w.cell? ⟨b, 3, none⟩ = some (.int .i64 (l : Nat)) := hx.cell 3 (by simp [stOne])
  have c4 : w.cell? ⟨b, 4, none⟩ = some (.int .i64 (d : Nat)) := hx.cell 4 (by simp [stOne])
  have hbl := hx.lt
  have HX := hid hx
  have HN := hid hn
  have HS := hid hs
  have HSZ := hid hsz
  have HNB := hid hnb
  clear hx hn hs hsz hnb
  cases htk : takesP ⟨k, rg, c, l, d⟩ os.length with
  | false =>
    rw [htk, if_pos rfl] at hr
    subst hr
    have HT := hid htk
    clear htk
    go_enter Tryz.func74, Tryz.ntmps74
    go_wp2_with (first | (go_at_call 113; refine (takes_any ⟨k, rg, c, l, d⟩ os.length _ (by omega) (by simp only; omega)).mono ?_; rw [HT.out]; rintro e w1 ⟨rfl, hb1⟩))
    go_ret
    exact ⟨rfl, Keeps.of_below hb1, (fun h => by cases h)⟩
  | true =>
    rw [htk, if_neg (by simp)] at hr
    have hle : rg ≤ os.length ∧ ((k = 5 ∨ k = 6) → rg < os.length) := by
      unfold takesP at htk
      simp only at htk
      split at htk
      · simp only [decide_eq_true_eq] at htk; omega
      · split at htk
        · simp only [decide_eq_true_eq] at htk; omega
        · simp only [decide_eq_true_eq] at htk; omega
    obtain ⟨hle, hlt⟩ := hle
    have HT := hid htk
    have HR := hid hr
    clear htk hr
    go_enter Tryz.func74, Tryz.ntmps74
    go_wp2_with fail
    refine (takes_any ⟨k, rg, c, l, d⟩ os.length _ (by omega) (by simp only; omega)).mono ?_
    rw [HT.out]
    rintro e w1 ⟨rfl, hb1⟩
    have HX1 := hid (HX.out.below hb1)
    have HK1 := hid (Keeps.of_below (M := [b]) hb1)
    have HS1 := hid (HS.out.below hb1)
    have HN1 := hid (HN.out.below hb1)
    have c1 : w1.cell? ⟨b, 1, none⟩ = some (.int .i64 (rg : Nat)) := HX1.out.cell 1 (by simp [stOne])
    clear hb1 c0 c2 c3 c4 HX HS HN HT
    rcases HS1.out with ⟨hv, hz⟩ | ⟨g, off, cap, cur, hv, _, hg, hcap, hcur⟩
    · injection hv with hv1 hv2 hv3
      subst hv1 hv3 hz
      have hrg : rg = 0 := by simpa using hle
      subst hrg
      have hk : ¬ k = 5 ∧ ¬ k = 6 := ⟨fun h => by have := hlt (Or.inl h); simp at this, fun h => by have := hlt (Or.inr h); simp at this⟩
      have k5 : ((k : Int) == 5) = false := by rw [beq_eq_false_iff_ne]; omega
      have k6 : ((k : Int) == 6) = false := by rw [beq_eq_false_iff_ne]; omega
      have hr := HR.out
      simp only [List.map_nil, List.take_nil, regsP] at hr
      rw [if_neg (by omega)] at hr
      subst hr
      have c0 : w1.cell? ⟨b, 0, none⟩ = some (.int .i64 (k : Nat)) := HX1.out.cell 0 (by simp [stOne])
      have c8 : w1.cell? ⟨b, 8, none⟩ = some v0 := HX1.out.cell 8 (by simp [stOne])
      have f8 := HX1.out.free 8
      have hne8 : b ≠ b ∨ (0 : Nat) ≠ 8 := Or.inr (by decide)
      clear HR hv2 HSZ hos hle hlt
      go_wp2_with fail
      go_loopw [27] (fun i wr => i = .int .i64 0 ∧ wr = w1) (fun _ _ => 0)
      case atStart => exact ⟨rfl, rfl⟩
      case round =>
        obtain ⟨rfl, rfl⟩ := hrel
        go_wp2
        go_ret
        refine ⟨rfl, HK1.out.setCell (p := ⟨b, 8, none⟩) (by simp) _, fun _ => ⟨_, Or.inl ⟨rfl, rfl⟩, ?_⟩⟩
        exact HX1.out.set 8 _
    · injection hv with hv1 hv2 hv3
      subst hv1 hv3
      have hgl : g < w1.heap.size := (Array.getElem?_eq_some_iff.1 hg).1
      have hgb : g ≠ b := HX1.out.notStr (by decide) g cur hg
      have HG := hid hg
      have HCUR := hid hcur
      have hlen : (os.take rg).length = rg := by rw [List.length_take]; omega
      clear hg hcur hv2
      go_wp2_with fail
      go_loopw [27] (fun i wr => ∃ j a : Nat, i = .int .i64 j ∧ j ≤ rg ∧ regsP ((os.map L).take rg) 0 = regsP (((os.map L).take rg).drop j) a ∧ a + 1 ≤ 4 ^ j ∧ Keeps [b] w wr ∧ Keeps [b] w1 wr ∧ RowT wr 113 b (stOne ⟨⟨k, rg, c, l, d⟩, lab, has, a, v0, es, 0, long⟩)) (fun i _ => rg - (intOf i).toNat)
      case atStart => exact ⟨0, 0, rfl, Nat.zero_le _, by rw [List.drop_zero], by simp, HK1.out, Keeps.refl _ _, HX1.out⟩
      case round =>
        obtain ⟨j, a, rfl, hj, hrg, hab, hkw, hk1, hrow⟩ := hrel
        have HKW := hid hkw
        have HK2 := hid hk1
        have HROW := hid hrow
        have HRG := hid hrg
        clear hkw hk1 hrow hrg
        have ha16 : a + 1 ≤ 16 := Nat.le_trans hab (show 4 ^ j ≤ 4 ^ 2 from Nat.pow_le_pow_right (by decide) (by omega))
        by_cases hjr : j < rg
        · have d1 : decide ((j : Int) < (rg : Int)) = true := by simp; omega
          have hjo : j < os.length := by omega
          obtain ⟨word, hword⟩ : ∃ word, os[j] = word := ⟨_, rfl⟩
          have q0 : wr.cell? ⟨g, off + j, none⟩ = some (.string word) := by
            rw [HK2.out.cell (p := ⟨g, off + j, none⟩) hgl (by simpa using hgb)]
            have := HCUR.out j hjo
            rw [← hword]
            simp [World.cell?, HG.out, this]
          have hsp : ((os.map L).take rg).drop j = L word :: ((os.map L).take rg).drop (j + 1) := by
            rw [List.drop_eq_getElem_cons (by simp; omega)]
            simp [hword]
          have c7 : wr.cell? ⟨b, 7, none⟩ = some (.int .i64 (a : Nat)) := HROW.out.cell 7 (by simp [stOne])
          have f7 := HROW.out.free 7
          cases hreg2 : regB (L word) with
          | false =>
            have hrgn := HRG.out
            rw [hsp] at hrgn
            simp only [regsP, hreg2] at hrgn
            have hr := HR.out
            rw [hrgn] at hr
            simp only [Bool.false_eq_true, if_false] at hr
            subst hr
            have HRB := hid hreg2
            clear hreg2 hrgn hsp hword
            go_wp2_with (first | (go_at_call 114; refine (Register_any word _).mono ?_; rw [HRB.out]; rintro e w3 ⟨rfl, rfl⟩))
            go_ret
            exact ⟨rfl, HKW.out, (fun h => by cases h)⟩
          | true =>
            obtain ⟨rv, hrv⟩ : ∃ rv, regV (L word) = rv := ⟨_, rfl⟩
            have hrvb : 0 ≤ rv ∧ rv ≤ 3 := by
              rw [← hrv]
              unfold regV
              rw [if_pos hreg2]
              unfold regB at hreg2
              split at hreg2
              · rename_i x y heq
                rw [heq]
                simp only [Bool.and_eq_true, decide_eq_true_eq] at hreg2
                simp only [List.getD_cons_succ, List.getD_cons_zero]
                omega
              · cases hreg2
            have hrgn := HRG.out
            rw [hsp] at hrgn
            simp only [regsP, hreg2, hrv, if_true] at hrgn
            have HRB := hid hreg2
            have HRV := hid hrv
            have HRG2 := hid hrgn
            have hrvn : ((rv.toNat : Nat) : Int) = rv := by omega
            clear hreg2 hrgn hsp hword hrv
            go_wp2_with (first | (go_at_call 114; refine (Register_any word _).mono ?_; rw [HRB.out, HRV.out]; rintro e w3 ⟨rfl, rfl⟩))
            go_roundw
            case rel =>
              refine ⟨j + 1, 4 * a + rv.toNat, by go_num, by omega, HRG2.out, by rw [Nat.pow_succ]; omega, HKW.out.setCell (p := ⟨b, 7, none⟩) (by simp) _, HK2.out.setCell (p := ⟨b, 7, none⟩) (by simp) _, ?_⟩
              have := HROW.out.set 7 (.int .i64 ((4 * a + rv.toNat : Nat) : Int))
              have e1 : ((4 * a + rv.toNat : Nat) : Int) = 4 * (a : Int) + rv := by omega
              rw [e1] at this
              show RowT _ _ _ (stOne _)
              unfold stOne
              rw [e1]
              exact this
            case measure => simp [intOf]; omega
        · have hjj : j = rg := by omega
          subst hjj
          have hr := HR.out
          have hrg := HRG.out
          rw [List.drop_of_length_le (by simp; omega)] at hrg
          simp only [regsP] at hrg
          rw [hrg] at hr
          simp only at hr
          have d1 : decide ((j : Int) < (j : Int)) = false := by simp
          have c0 : wr.cell? ⟨b, 0, none⟩ = some (.int .i64 (k : Nat)) := HROW.out.cell 0 (by simp [stOne])
          have c1 : wr.cell? ⟨b, 1, none⟩ = some (.int .i64 (j : Nat)) := HROW.out.cell 1 (by simp [stOne])
          have c8 : wr.cell? ⟨b, 8, none⟩ = some v0 := HROW.out.cell 8 (by simp [stOne])
          have f8 := HROW.out.free 8
          have hgr : wr.heap[g]? = some (.cells cur 9 (0, 0)) := by rw [HK2.out.block g hgl (by simpa using hgb)]; exact HG.out
          have hstr : StrV wr 0 (.slice (some ⟨g, off + j, none⟩) (os.length - j) (vc - j)) (os.drop j) := by
            refine Or.inr ⟨g, off + j, vc - j, cur, by rw [List.length_drop], Nat.zero_le _, hgr, by rw [List.length_drop]; omega, fun i hi => ?_⟩
            rw [List.length_drop] at hi
            have := HCUR.out (j + i) (by omega)
            rw [← Nat.add_assoc] at this
            rw [this]
            simp
          have HSTR := hid hstr
          have hr2 := HROW.out.set 8 (.slice (some ⟨g, off + j, none⟩) (os.length - j) (vc - j))
          have HR2 := hid (show RowT (wr.setCell ⟨b, 8, none⟩ (.slice (some ⟨g, off + j, none⟩) (os.length - j) (vc - j))) 113 b (stOne ⟨⟨k, j, c, l, d⟩, lab, has, a, .slice (some ⟨g, off + j, none⟩) (os.length - j) (vc - j), os.drop j, 0, long⟩) from hr2)
          have HRX := hid hr
          clear hr hrg hgr hstr hr2
          by_cases hk56 : k = 5 ∨ k = 6
          · have hjl := hlt hk56
            have hr := HRX.out
            rw [if_pos hk56] at hr
            obtain ⟨e0, he0⟩ : ∃ e0, os[j] = e0 := ⟨_, rfl⟩
            have hhd : ((os.map L).drop j).headD [] = L e0 := by
              rw [List.drop_eq_getElem_cons (by simpa using hjl)]
              simp [he0]
            rw [hhd] at hr
            have hesz : e0.size ≤ 1000 := by rw [← he0]; exact HSZ.out j hjl
            have hes0 : (os.drop j)[0]? = some e0 := by rw [List.getElem?_drop, Nat.add_zero, List.getElem?_eq_getElem hjl, he0]
            have HES := hid hes0
            have HRY := hid hr
            clear hr hhd he0 hes0 HRX
            have hks : (wr.setCell ⟨b, 8, none⟩ (.slice (some ⟨g, off + j, none⟩) (os.length - j) (vc - j))).cell? ⟨b, 0, none⟩ = some (.int .i64 (k : Nat)) := HR2.out.cell 0 (by simp [stOne])
            have HKS := hid (HKW.out.setCell (p := ⟨b, 8, none⟩) (by simp) (.slice (some ⟨g, off + j, none⟩) (os.length - j) (vc - j)))
            have HK3 := hid (HK2.out.setCell (p := ⟨b, 8, none⟩) (by simp) (.slice (some ⟨g, off + j, none⟩) (os.length - j) (vc - j)))
            have HSS := hid (HSTR.out.keeps HROW.out ((Keeps.refl [b] wr).setCell (p := ⟨b, 8, none⟩) (by simp) (.slice (some ⟨g, off + j, none⟩) (os.length - j) (vc - j))))
            have HNN := hid (HN1.out.keepsS HK3.out HNB.out)
            have hb56 : ((k : Int) == 5) = true ∨ (((k : Int) == 5) = false ∧ ((k : Int) == 6) = true) := by
              rcases hk56 with h | h
              · exact Or.inl (by rw [beq_iff_eq]; omega)
              · exact Or.inr ⟨by rw [beq_eq_false_iff_ne]; omega, by rw [beq_iff_eq]; omega⟩
            rcases hb56 with k5 | ⟨k5, k6⟩
            all_goals
              go_wp2_with fail
              refine (readCount_any _ b ⟨⟨k, j, c, l, d⟩, lab, has, a, .slice (some ⟨g, off + j, none⟩) (os.length - j) (vc - j), os.drop j, 0, long⟩ na nc ts e0 HR2.out HSS.out HES.out hesz HNN.out ht).mono ?_
              rintro e w5 ⟨rfl, hk5, hrow5⟩
              have HK5 := hid (HKS.out.trans hk5)
              have HROW5 := hid hrow5
              have HSS5 := hid (HSS.out.keeps HR2.out hk5)
              have hr := HRY.out
              obtain ⟨cr, hcr⟩ : ∃ cr, countP k (plainN ts) (L e0) = cr := ⟨_, rfl⟩
              simp only [hcr] at hr HROW5 ⊢
              subst hr
              clear hk5 hrow5 hcr
              go_wp2
              go_ret
              exact ⟨rfl, HK5.out, fun h0 => ⟨_, HSS5.out, HROW5.out h0⟩⟩
          · have hr := HRX.out
            rw [if_neg hk56] at hr
            subst hr
            have k5 : ((k : Int) == 5) = false := by rw [beq_eq_false_iff_ne]; omega
            have k6 : ((k : Int) == 6) = false := by rw [beq_eq_false_iff_ne]; omega
            clear HRX
            by_cases hcv : j < vc
            · have hks : (wr.setCell ⟨b, 8, none⟩ (.slice (some ⟨g, off + j, none⟩) (os.length - j) (vc - j))).cell? ⟨b, 0, none⟩ = some (.int .i64 (k : Nat)) := HR2.out.cell 0 (by simp [stOne])
              go_wp2_with fail
              go_ret
              exact ⟨rfl, HKW.out.setCell (p := ⟨b, 8, none⟩) (by simp) _, fun _ => ⟨_, HSTR.out.keeps HROW.out ((Keeps.refl [b] wr).setCell (p := ⟨b, 8, none⟩) (by simp) _), HR2.out⟩⟩
            · have hr2 := HROW.out.set 8 (.slice (some ⟨g, off, none⟩) (os.length - j) (vc - j))
              have HR3 := hid (show RowT (wr.setCell ⟨b, 8, none⟩ (.slice (some ⟨g, off, none⟩) (os.length - j) (vc - j))) 113 b (stOne ⟨⟨k, j, c, l, d⟩, lab, has, a, .slice (some ⟨g, off, none⟩) (os.length - j) (vc - j), os.drop j, 0, long⟩) from hr2)
              have hnil : os.drop j = [] := List.drop_of_length_le (by omega)
              have HS3 := hid (show StrV wr 0 (.slice (some ⟨g, off, none⟩) (os.length - j) (vc - j)) (os.drop j) from by
                refine Or.inr ⟨g, off, vc - j, cur, by rw [List.length_drop], Nat.zero_le _, ?_, by rw [hnil]; simp, fun i hi => by rw [hnil] at hi; simp at hi⟩
                rw [HK2.out.block g hgl (by simpa using hgb)]; exact HG.out)
              have hks : (wr.setCell ⟨b, 8, none⟩ (.slice (some ⟨g, off, none⟩) (os.length - j) (vc - j))).cell? ⟨b, 0, none⟩ = some (.int .i64 (k : Nat)) := HR3.out.cell 0 (by simp [stOne])
              clear hr2 hnil
              go_wp2_with fail
              go_ret
              exact ⟨rfl, HKW.out.setCell (p := ⟨b, 8, none⟩) (by simp) _, fun _ => ⟨_, HS3.out.keeps HROW.out ((Keeps.refl [b] wr).setCell (p := ⟨b, 8, none⟩) (by simp) _), HR3.out⟩⟩

end Go.Proofs.YtcepppilgncdmaaGreatDoor

namespace Go.Proofs.YtcepppilgncdmaaGreatDoor
open Go.RowKit
attribute [local go_sem ↓] Go.wp_at_zero Go.wp_at_succ

set_option maxHeartbeats 800000 in
theorem hasValue_any (w : World) (B be bt wi k : Nat) (vm vn vl : Value) (ms : List MacV) (ns : List (ByteArray × Int)) (outs : List (ByteArray × Nat)) (calls : Nat) (h : ExpAt w B be bt wi k vm vn vl ms ns outs calls) (hnl : ns.length ≤ 1000) (s : ByteArray) (r : Bool) (hr : hasN (plainN ns) (L s) = r) :
    Calls Tryz.prog 143 #[.pointer (some ⟨be, 0, none⟩), .string s] w fun e w' => e = .returned (.bool r) ∧ Below w.heap.size w w' := by
  obtain ⟨a, cap, hv, hna⟩ := h.namesAt
  have c2 : w.cell? ⟨be, 2, none⟩ = some (.slice a ns.length cap) := by rw [← hv]; exact h.row.cell 2 (by simp)
  have HNA := hid hna
  have HR := hid hr
  clear h hna hr hv
  go_enter Tryz.func143, Tryz.ntmps143
  go_wp2
  go_loopg [12] ns.length (fun q i wr => ∃ j : Nat, q + j = ns.length ∧ i = .int .i64 j ∧ Below w.heap.size w wr ∧ r = (findN (plainN (ns.drop j)) (L s)).isSome)
  case atStart => exact ⟨0, rfl, rfl, Below.refl _ _, by rw [List.drop_zero]; exact HR.out.symm⟩
  case round =>
    obtain ⟨j, hq, rfl, hb, ha⟩ := hrel
    have HB := hid hb
    have HA := hid ha
    clear ha hb
    by_cases hlt : j < ns.length
    · have kd : decide ((j : Int) < (ns.length : Int)) = true := by simp; omega
      rcases (HNA.out.below HB.out) with h0 | ⟨g, off, hv, hgl, hc⟩
      · rw [h0] at hlt; simp at hlt
      · subst hv
        obtain ⟨d0, d1⟩ := hc j hlt
        have hA := HA.out
        rw [findN_at _ _ _ hlt] at hA
        clear hc
        by_cases he : L ns[j].1 = L s
        · rw [if_pos he] at hA
          have hr1 : r = true := hA
          subst hr1
          have kb : (ns[j].1.toList == s.toList) = true := beq_of_L he
          clear hA he
          go_wp2
          go_ret
          exact ⟨rfl, HB.out.alloc HB.out.size _⟩
        · rw [if_neg he] at hA
          have HF := hid hA
          have kb : (ns[j].1.toList == s.toList) = false := nbeq_of_L he
          clear hA he
          go_wp2
          go_roundg (gk - 1)
          case measure => omega
          case rel => exact ⟨j + 1, by omega, by go_num, HB.out.alloc HB.out.size _, HF.out⟩
    · have kd : decide ((j : Int) < (ns.length : Int)) = false := by simp; omega
      have hr1 : r = false := by rw [HA.out, findN_end _ _ _ (by omega)]; rfl
      subst hr1
      go_wp2
      go_ret
      exact ⟨rfl, HB.out⟩

/-- A name more has a value. -/
theorem ExpAt.named {w w4 : World} {B be bt wi k : Nat} {vm vn vl : Value} {ms : List MacV} {ns : List (ByteArray × Int)} {outs : List (ByteArray × Nat)} {calls : Nat} (h : ExpAt w B be bt wi k vm vn vl ms ns outs calls) (hg : w.grownBy w4 vn.ownBlock) {gg cap : Nat} {t : ByteArray} {z : Int}
    (ho : w4.ownsRow B 40 2 (.slice (some ⟨gg, 0, none⟩) (ns.length + 1) cap) (ns.length + 1) (nameCells ns ++ [.string t, .int .i64 z])) :
    ExpAt (w4.setCell ⟨be, 2, none⟩ (.slice (some ⟨gg, 0, none⟩) (ns.length + 1) cap)) B be bt wi k vm (.slice (some ⟨gg, 0, none⟩) (ns.length + 1) cap) vl ms (ns ++ [(t, z)]) outs calls ∧
    Fr B [] w (w4.setCell ⟨be, 2, none⟩ (.slice (some ⟨gg, 0, none⟩) (ns.length + 1) cap)) := by
  have hne : vn.ownBlock ≠ some be := own_row_ne h.nown h.row (by decide)
  have hr4 : RowT w4 77 be [.pointer (some ⟨bt, 0, none⟩), vm, vn, .int .i64 (wi : Nat), .int .i64 (calls : Nat), vl] := RowT.grown' h.row hg (Ne.symm hne)
  have hm4 := h.mown.kept hg (by
    cases hv : vm.ownBlock with
    | none => exact Or.inl rfl
    | some g => exact Or.inr (fun e1 => own_own_ne h.mown h.nown (by decide) (g := g) (by rw [← e1]) hv))
  have hl4 := h.lown.kept hg (by
    cases hv : vl.ownBlock with
    | none => exact Or.inl rfl
    | some g => exact Or.inr (fun e1 => own_own_ne h.lown h.nown (by decide) (g := g) (by rw [← e1]) hv))
  have hf4 : Fr B [] w w4 := (Fr.refl B [] w).grown hg (own_may h.nown (fun _ _ => Or.inl rfl))
  have hf5 := hf4.setCell (p := ⟨be, 2, none⟩) (hr4.may h.at_ (Or.inl rfl)) (.slice (some ⟨gg, 0, none⟩) (ns.length + 1) cap)
  refine ⟨⟨hr4.set 2 _, ?_, ?_, ?_, fun m hm => ⟨(h.mstr m hm).1.fr hf5, (h.mstr m hm).2.fr hf5⟩, h.at_, ?_⟩, hf5⟩
  · exact ownsRow_setCell_other hm4 (a := ⟨be, 2, none⟩) (own_row_ne hm4 hr4 (by decide)) _
  · rw [nameCells_append, List.length_append]
    exact ownsRow_setCell_other ho (a := ⟨be, 2, none⟩) (own_row_ne ho hr4 (by decide)) _
  · exact ownsRow_setCell_other hl4 (a := ⟨be, 2, none⟩) (own_row_ne hl4 hr4 (by decide)) _
  · obtain ⟨xs, h1, h2⟩ := h.text
    exact ⟨xs, h1.fr hf5 rfl (fun _ => by simp), h2⟩

theorem PartsV.two {w : World} {C : Nat} {lb op : ByteArray} {v : Value} {os : List ByteArray} {W : WordsP} (h : PartsV w C lb op v os W) : (W.label = [] ↔ lb.size = 0) ∧ W.operands.length = os.length ∧ ∀ i (hi : i < os.length), W.operands.getD i [] = L os[i] := by
  refine ⟨?_, by rw [← h.ops, List.length_map], fun i hi => ?_⟩
  · rw [← h.label]
    exact ⟨fun e => by rw [size_L, e]; rfl, L_zero⟩
  · rw [← h.ops, List.getD_eq_getElem?_getD, List.getElem?_map, List.getElem?_eq_getElem hi]; rfl
theorem headD_get (l : List (List UInt8)) : l.headD [] = l.getD 0 [] := by cases l <;> rfl

set_option maxRecDepth 100000 in
set_option maxHeartbeats 1600000 in
theorem doSet_any (w : World) (B be bt wi k : Nat) (st : StP) (lb op : ByteArray) (va : Option Addr) (vc : Nat) (os : List ByteArray) (W : WordsP) (C : Nat) (h : ExpSt w B be bt wi k st) (hp : PartsV w C lb op (.slice va os.length vc) os W) (hl : (textP W).length ≤ 1000000) (hn : os.length ≤ 1000) (hsz : ∀ i (hi : i < os.length), os[i].size ≤ 1000) (hok : StOk st k) (hB : B ≤ w.heap.size) :
    Calls Tryz.prog 107 #[.pointer (some ⟨be, 0, none⟩), .agg #[.string lb, .string op, .slice va os.length vc]] w (ExpPost B be bt wi k [] (setP W k st) w) := by
  obtain ⟨vm, vn, vl, ms, ns, outs, calls, hx, rfl⟩ := h
  obtain ⟨i0, hi0, hz0, hz1, hz2⟩ := info_parts info_name
  have hb0 : Below w.heap.size w (w.alloc (.cells #[.string lb, .string op, .slice va os.length vc] 101)) := (Below.refl _ _).alloc (Nat.le_refl _) _
  have HX := hid (hx.below hb0)
  have HP := hid (hp.below hb0)
  have HF := hid (show Fr B [] w (w.alloc (.cells #[.string lb, .string op, .slice va os.length vc] 101)) from Fr.of_below hb0)
  have HB := hid (RowT.new w 101 [.string lb, .string op, .slice va os.length vc])
  obtain ⟨t1, t2, t3⟩ := hp.two
  have hnl : ns.length ≤ 300 := by
    have h1 := hok.names
    have h2 := hok.out
    simp only [stOf, plainN, List.length_map] at h1 h2
    omega
  have hol : (stOf ms ns outs calls).out.length ≤ 300 := hok.out
  have HOK := hid hol
  have HSZ := hid hsz
  have HT3 := hid t3
  obtain ⟨r, hr⟩ : ∃ r, setP W k (stOf ms ns outs calls) = r := ⟨_, rfl⟩
  rw [hr]
  have HR := hid hr
  unfold setP at hr
  rw [t2] at hr
  clear hx hp hb0 hok hol hsz t3
  by_cases hlb : lb.size = 0
  · rw [t1.2 hlb] at hr
    have kl := is_empty lb hlb
    by_cases h2 : os.length = 2
    · rw [if_neg (by simp [h2])] at hr
      have hpos0 : 0 < os.length := by omega
      have hpos1 : 1 < os.length := by omega
      obtain ⟨n0, hn0⟩ : ∃ n0, os[0] = n0 := ⟨_, rfl⟩
      obtain ⟨x1, hx1⟩ : ∃ x1, os[1] = x1 := ⟨_, rfl⟩
      have e0 : W.operands.headD [] = L n0 := by rw [headD_get, ← hn0]; exact HT3.out 0 hpos0
      have e1 : W.operands.getD 1 [] = L x1 := by rw [← hx1]; exact HT3.out 1 hpos1
      rw [e0, e1] at hr
      have hs0 : n0.size ≤ 1000 := by rw [← hn0]; exact HSZ.out 0 hpos0
      have hs1 : x1.size ≤ 1000 := by rw [← hx1]; exact HSZ.out 1 hpos1
      obtain ⟨b, off, cap, hv, hbl, d0⟩ := HP.out.at_.cell 0 hpos0
      injection hv with hv1 _ hv2
      subst hv1 hv2
      obtain ⟨_, _, _, hv', _, d1⟩ := HP.out.at_.cell 1 hpos1
      injection hv' with hv11 _ hv12
      injection hv11 with hv11
      injection hv11 with hv13 hv14
      subst hv13 hv14
      rw [Nat.add_zero, hn0] at d0
      rw [hx1] at d1
      have HM2 := hid h2
      rw [h2] at HX HP HF HB d0 d1 hbl
      rw [h2]
      clear hv12 hn0 hx1 hpos0 hpos1 h2 e0 e1
      have hr : (if nameB (L n0) = false ∨ hasN (plainN ns) (L n0) = true then (5, stOf ms ns outs calls) else if (value 0 (plainN ns) (L x1)).2 ≠ 0 then ((value 0 (plainN ns) (L x1)).2, stOf ms ns outs calls) else leaveP W k (stOf ms (ns ++ [(n0, (value 0 (plainN ns) (L x1)).1)]) outs calls)) = r := by
        rw [← hr]
        have e : ∀ v, plainN (ns ++ [(n0, v)]) = plainN ns ++ [(L n0, v)] := fun v => by simp [plainN]
        simp only [stOf, e]
        rfl
      by_cases hnm : nameB (L n0) = false
      · rw [if_pos (Or.inl hnm)] at hr
        subst hr
        have HNM := hid hnm
        clear hnm
        go_enter Tryz.func107, Tryz.ntmps107
        go_wp2_with (first | (go_at_call 78; refine (IsName_any n0 _ (by unfold maxLen; omega)).mono ?_; rw [HNM.out]; rintro e w1 ⟨rfl, rfl⟩))
        go_ret
        exact ⟨rfl, HF.out, (fun h => by cases h), HX.out.num⟩
      · have HNM := hid (show nameB (L n0) = true by simpa using hnm)
        have hnm' : ¬ nameB (L n0) = false := hnm
        clear hnm
        by_cases hhas : hasN (plainN ns) (L n0) = true
        · rw [if_pos (Or.inr hhas)] at hr
          subst hr
          have HHAS := hid hhas
          clear hhas hnm'
          go_enter Tryz.func107, Tryz.ntmps107
          go_wp2_with (first | (go_at_call 78; refine (IsName_any n0 _ (by unfold maxLen; omega)).mono ?_; rw [HNM.out]; rintro e w1 ⟨rfl, rfl⟩) | (go_at_call 143; refine (hasValue_any _ B be bt wi k vm vn vl ms ns outs calls HX.out (by omega) n0 true HHAS.out).mono ?_; rintro e w2 ⟨rfl, hb2⟩))
          go_ret
          exact ⟨rfl, HF.out.trans (Fr.of_below hb2), (fun h => by cases h), (HX.out.below hb2).num⟩
        · rw [if_neg (by intro h; rcases h with h | h; exact hnm' h; exact hhas h)] at hr
          have HHAS := hid (show hasN (plainN ns) (L n0) = false by simpa using hhas)
          clear hhas hnm'
          obtain ⟨q, hq⟩ : ∃ q, value 0 (plainN ns) (L x1) = q := ⟨_, rfl⟩
          obtain ⟨z, er⟩ := q
          rw [hq] at hr
          have HQ := hid hq
          clear hq
          have HRX := hid hr
          clear hr
          go_enter Tryz.func107, Tryz.ntmps107
          go_wp2_with (first | (go_at_call 78; refine (IsName_any n0 _ (by unfold maxLen; omega)).mono ?_; rw [HNM.out]; rintro e w1 ⟨rfl, rfl⟩) | fail)
          refine (hasValue_any _ B be bt wi k vm vn vl ms ns outs calls HX.out (by omega) n0 false HHAS.out).mono ?_
          rintro e w2 ⟨rfl, hb2⟩
          have HX := hid (HX.out.below hb2)
          have HF := hid (HF.out.trans (Fr.of_below hb2))
          have HP := hid (HP.out.below hb2)
          have HB := hid (HB.out.below hb2)
          have d1 : w2.cell? ⟨b, off + 1, none⟩ = some (.string x1) := by rw [hb2.cell (p := ⟨b, off + 1, none⟩) hbl]; exact d1
          clear hb2 d0
          obtain ⟨na, nc, hnv, hna⟩ := HX.out.namesAt
          subst hnv
          have y0 := HB.out.cell 0 (by simp)
          have y1 := HB.out.cell 1 (by simp)
          have y2 := HB.out.cell 2 (by simp)
          have c2 : w2.cell? ⟨be, 2, none⟩ = some (.slice na ns.length nc) := HX.out.row.cell 2 (by simp)
          have f2 := HX.out.row.free 2
          have HNA := hid hna
          clear hna
          go_wp2_with fail
          go_region_with (go_at_call 36; refine (xValue_any x1 0 na nc ns _ z er (by unfold maxLen; omega) (by unfold maxLen; omega) (HNA.out.below ((Below.refl _ _).drew)) HQ.out).mono ?_; rintro e w3 ⟨rfl, hb3⟩)
          all_goals
            have HX3 := hid (HX.out.below (((Below.refl _ _).drew).trans (hb3.mono (Nat.le_refl _))))
            have HF3 := hid ((HF.out.drew).trans (Fr.of_below hb3))
            have HP3 := hid (HP.out.below (((Below.refl _ _).drew).trans (hb3.mono (Nat.le_refl _))))
            have HB3 := hid (HB.out.below (((Below.refl _ _).drew).trans (hb3.mono (Nat.le_refl _))))
            have hlt3 := HX3.out.row.lt
            have hB3 : B ≤ w3.heap.size := Nat.le_trans hB HF3.out.size
            clear hb3 y0 y1 y2 c2 f2 d1
            have hr := HRX.out
            by_cases her : er = 0
            · subst her
              rw [if_neg (by simp)] at hr
              have HRY := hid hr
              have c2 : w3.cell? ⟨be, 2, none⟩ = some (.slice na ns.length nc) := HX3.out.row.cell 2 (by simp)
              have f2 := HX3.out.row.free 2
              have HNO := hid (show w3.ownsRow B 40 2 (.slice na ns.length nc) ns.length (nameCells ns) from HX3.out.nown)
              have hneb : (Value.slice na ns.length nc).ownBlock ≠ some be := own_row_ne HNO.out HX3.out.row (by decide)
              clear hr
              go_wp2_with ((at_builtin; refine wpList_append_lies _ rfl (.tmp 48) (.tmp 52) 31 rfl B 40 i0 _ 2 24 Tryz.underlying31 hi0 hz0 hz1 hz2 rfl (by omega) (.slice na ns.length nc) ns.length (nameCells ns) rfl (HNO.out.alloc _) ⟨w3.heap.size, 0, none⟩ 1 1 [.string n0, .int .i64 z] rfl rfl (World.news_of_block (cs := #[.string n0, .int .i64 z]) (t := 40) (fr := (0, 0)) (heap_alloc_new _ _)) (by simp [Value.oneCell']) (by omega) (by unfold maxLen; omega) (by omega) (by simp; omega) _ rfl ?_; intro gg cap' w4 hown4 hgrow hat hlt4; have hc4 := (hgrow.cell_far ⟨be, 2, none⟩ (by simp; omega) (Ne.symm hneb)).trans (((Below.refl w3.heap.size w3).alloc (Nat.le_refl _) (.cells #[.string n0, .int .i64 z] 40)).cell (p := ⟨be, 2, none⟩) hlt3 |>.trans c2); have hf4 := (hgrow.frozen_far ⟨be, 2, none⟩ (by simp; omega) (Ne.symm hneb)).trans (((Below.refl w3.heap.size w3).alloc (Nat.le_refl _) (.cells #[.string n0, .int .i64 z] 40)).frozen (p := ⟨be, 2, none⟩) hlt3 |>.trans f2); have HL := hid ((HX3.out.below ((Below.refl w3.heap.size w3).alloc (Nat.le_refl _) (.cells #[.string n0, .int .i64 z] 40))).named hgrow hown4); have HB5 := hid ((HB3.out.alloc _).fr HL.out.2 rfl (fun h => by cases h)); have z0 := HB5.out.cell 0 (by simp); have z1 := HB5.out.cell 1 (by simp); have z2 := HB5.out.cell 2 (by simp)))
              have HF5 := hid ((HF3.out.alloc _).trans HL.out.2)
              have hp5 := (HP3.out.below ((Below.refl w3.heap.size w3).alloc (Nat.le_refl _) (.cells #[.string n0, .int .i64 z] 40))).fr HL.out.2
              have hB5 := Nat.le_trans hB HF5.out.size
              have hlv := leave_any _ B be bt wi k (stOf ms (ns ++ [(n0, z)]) outs calls) lb op (some ⟨b, off, none⟩) vc os W C ⟨_, _, _, _, _, _, _, HL.out.1, rfl⟩ (by rw [HM2.out]; exact hp5) hl (by omega) (by simpa [stOf] using HOK.out) hB5
              rw [HM2.out] at hlv
              refine hlv.mono ?_
              rw [HRY.out]
              rintro e w6 ⟨rfl, hf6, hst6, hnu6⟩
              go_wp2
              go_ret
              exact ⟨rfl, HF5.out.trans hf6, hst6, hnu6⟩
            · have ke : (er != 0) = true := by simpa using her
              rw [if_pos her] at hr
              subst hr
              go_wp2
              go_ret
              exact ⟨rfl, HF3.out, fun h => absurd h her, HX3.out.num⟩
    · rw [if_pos (Or.inr h2)] at hr
      subst hr
      have k2 : ((os.length : Int) != 2) = true := by simp; omega
      go_enter Tryz.func107, Tryz.ntmps107
      go_wp2
      go_ret
      exact ⟨rfl, HF.out, (fun h => by cases h), HX.out.num⟩
  · rw [if_pos (Or.inl (fun e => hlb (t1.1 e)))] at hr
    subst hr
    have kl := not_empty lb (by omega)
    go_enter Tryz.func107, Tryz.ntmps107
    go_wp2
    go_ret
    exact ⟨rfl, HF.out, (fun h => by cases h), HX.out.num⟩

end Go.Proofs.YtcepppilgncdmaaGreatDoor
