/-
  All lines of a block (package expand): a macro's.
  A macro that is called (package expand).
  The program's Expand (packages expand and mason).
-/
import Derived.Test.YtcepppilgncdmaaGreatDoorBS32
namespace Go.Proofs.YtcepppilgncdmaaGreatDoor
open Go.RowKit
attribute [local go_sem ↓] Go.wp_at_zero Go.wp_at_succ

theorem blockP_stays (call : MacP → WordsP → Nat → StP → Int × StP) (sub : Option (List (List UInt8) × List (List UInt8))) (ls : List (List UInt8)) : ∀ (k : Nat) (opens : List OpenP) (d : Option MacP) (st : StP), (blockP call sub 0 ls k opens d st).2.1 = k := by
  induction ls with
  | nil => intro k opens d st; rw [blockP]; split <;> rfl
  | cons l r ih =>
    intro k opens d st
    cases d with
    | some d =>
      rw [blockP]
      split
      · rfl
      · exact ih _ _ _ _
    | none =>
      rw [blockP]
      split
      · split
        · rfl
        · exact ih _ _ _ _
      · split
        · rfl
        · split
          · rfl
          · exact ih _ _ _ _

set_option maxRecDepth 100000 in
set_option maxHeartbeats 800000 in
theorem goM_any (n : Nat) (hcall : CallOk n) (w : World) (B be bt wi k bm : Nat) (st0 : StP) (lv pv ov : Value) (ls ps os : List ByteArray) (hwn : wi + n = 8) (hwi : 0 < wi)
    (h : ExpSt w B be bt wi k st0) (hra : ReadAt w B 209 bm (.slice none 0 0) lv ls 0 [pv, ov] []) (hls : ∀ i (hi : i < ls.length), ls[i].size ≤ 100) (hcut : ∀ i (hi : i < ls.length), cutL (L ls[i]) = L ls[i])
    (hps : StrV w 0 pv ps) (hos : StrV w 0 ov os) (hlen : ps.length = os.length) (hl : ps.length ≤ 1000) (hz : ∀ k (h : k < ps.length), ps[k].size ≤ 100) (hz2 : ∀ k (h : k < os.length), os[k].size ≤ 100)
    (hok : StOk st0 k) (hm : MaxAt w) (hgB : 0 < B) (hB : B ≤ w.heap.size) (hbt : B ≤ bt) (hbm : B ≤ bm) (hne : bt ≠ bm) (R : Int × Nat × StP) (hR : blockP (callN n) (some (ps.map L, os.map L)) 0 (ls.map L) k [] none st0 = R) :
    Calls Tryz.prog 31 #[.pointer (some ⟨be, 0, none⟩), .iface 207 (.pointer (some ⟨bm, 0, none⟩))] w (GoPost B be bt wi [bm] R w) := by
  have hrd : Rd 207 209 := Or.inr ⟨rfl, rfl⟩
  have hfew := hra.few
  have m1 := fun w => ask_more hrd bm w
  have m2 := fun w => ask_mread bm w
  have m3 := fun w => ask_depth hrd bm w
  have hRk : R.2.1 = k := by rw [← hR]; exact blockP_stays _ _ _ _ _ _ _
  have HS := hid h
  have HRA := hid hra
  have HLS := hid hls
  have HOK := hid hok
  have HM := hid hm
  have HR := hid hR
  have HCUT := hid hcut
  have HPS := hid hps
  have HOS := hid hos
  have HZ := hid hz
  have HZ2 := hid hz2
  clear h hra hls hok hm hR hcut hps hos hz hz2
  go_enter Tryz.func31, Tryz.ntmps31
  go_wp2_with fail
  go_loopg [4] ls.length (fun q x wr => ∃ (j : Nat) (opens : List OpenP) (st : StP) (v : Value), q + j = ls.length ∧ ExpSt wr B be bt wi k st ∧ ReadAt wr B 209 bm v lv ls j [pv, ov] opens ∧ Chain opens ∧ StOk st k ∧ Fr B [bm] w wr ∧ (∀ g, v.ownBlock = some g → w.heap.size ≤ g) ∧ blockP (callN n) (some (ps.map L, os.map L)) 0 ((ls.map L).drop j) k opens none st = R)
  case atStart => exact ⟨0, [], st0, .slice none 0 0, by simp, HS.out, HRA.out, trivial, HOK.out, Fr.refl _ _ _, (fun g hg => by cases hg), HR.out⟩
  case round =>
    obtain ⟨j, opens, st, v, hq, hs, hra, hch, hok, hfr, hvn, hbr⟩ := hrel
    have HS := hid hs
    have HRA := hid hra
    have HCH := hid hch
    have HOK := hid hok
    have HFR := hid hfr
    have HVN := hid hvn
    have HBR := hid hbr
    have HPS := hid (HPS.out.fr hfr)
    have HOS := hid (HOS.out.fr hfr)
    have HMr := hid (HM.out.fr hfr hgB)
    have hBr : B ≤ wr.heap.size := Nat.le_trans hB hfr.size
    have hop8 := hra.cond.few
    clear hs hra hch hok hfr hvn hbr
    go_wp2_with fail
    refine (more_any _ B _ bm v lv ls j _ opens HRA.out).mono ?_
    by_cases hlt : j < ls.length
    · rw [decide_eq_true hlt]
      rintro e w1 ⟨rfl, hb1⟩
      have HS := hid (HS.out.below hb1)
      have HRA := hid (HRA.out.below hb1)
      have HFR := hid (HFR.out.trans (Fr.of_below hb1))
      have HMr := hid (HMr.out.below hb1)
      have HPS := hid (HPS.out.below hb1)
      have HOS := hid (HOS.out.below hb1)
      have hBr : B ≤ w1.heap.size := Nat.le_trans hBr hb1.size
      clear hb1
      have hls := HLS.out j hlt
      have hwk : WOk (readP (some (ps.map L, os.map L)) (overP opens) (cutL (L ls[j]))).2 := WOk.read (by have := cutL_le (L ls[j]); rw [L_length] at this; omega)
      have HWK := hid hwk
      clear hwk
      go_wp2_with fail
      refine (mread_any _ B bm v lv ls j pv ov ps os opens HRA.out hlt hbm hls (HCUT.out j hlt) HMr.out hgB HPS.out HOS.out hlen hl HZ.out HZ2.out).mono ?_
      by_cases hrd0 : (readP (some (ps.map L, os.map L)) (overP opens) (cutL (L ls[j]))).1 = 0
      · rintro e w2 ⟨hpost, _⟩
        obtain ⟨lb, op, va, vc, os', rfl, hpv, hra, hfr⟩ := hpost hrd0
        obtain ⟨xs, hx1, hx2⟩ := HS.out.text
        have HS := hid (HS.out.frc hfr ⟨xs, hx1.fr hfr rfl (fun _ => by simp; exact hne), hx2⟩ : ExpSt w2 B be bt wi k st)
        have HRA := hid hra
        have HFR := hid (HFR.out.trans hfr.to)
        have HMr := hid (HMr.out.fr hfr hgB)
        have hBr : B ≤ w2.heap.size := Nat.le_trans hBr hfr.size
        have HPV := hid hpv
        clear hpv hra hfr hpost hx1 hx2
        have hb4 : Below w2.heap.size w2 (w2.alloc (.cells #[.string lb, .string op, .slice va os'.length vc] 101)) := (Below.refl _ _).alloc (Nat.le_refl _) _
        have HS := hid (HS.out.below hb4)
        have HRA := hid (HRA.out.below hb4)
        have HFR := hid (HFR.out.trans (Fr.of_below hb4))
        have HMr := hid (HMr.out.below hb4)
        have HPV := hid (HPV.out.below hb4)
        have hBr := Nat.le_trans hBr hb4.size
        clear hb4
        have hbm2 := fun r => block_mac (callN n) (ps.map L) (os.map L) (ls.map L) wi j k hwi (by simpa using hlt) (by rw [List.getElem_map]; exact HCUT.out j hlt) opens st (by rw [List.getElem_map]; exact hrd0) (ls.map L) r
        rw [List.getElem_map] at hbm2
        have HBM := hid hbm2
        have HRD0 := hid hrd0
        clear hbm2 hrd0
        go_wp2_with fail
        refine (do_any n hcall _ B be bt wi k _ _ bm (j + 1) st v lv ls [pv, ov] opens lb op va vc os' _ 0 hwn (Or.inr ⟨hwi, rfl, rfl⟩) HS.out HRA.out HCH.out HPV.out HWK.out HLS.out HOK.out HMr.out hgB hBr hbt hbm).mono ?_
        obtain ⟨r, hr⟩ : ∃ r, doP (callN n) wi k (readP (some (ps.map L, os.map L)) (overP opens) (cutL (L ls[j]))).2 opens st (ls.map L) = r := ⟨_, rfl⟩
        have hrk : r.2.1 = k := by rw [← hr]; exact doP_at hwi
        have hcr : r.1 = 0 → Chain r.2.2.1 := by rw [← hr]; exact doP_chain HCH.out
        have HBT := hid (HBM.out r hr)
        rw [hr]
        have HCR := hid hcr
        clear hr hcr
        rintro e w3 ⟨rfl, hf3, hn3, hs3⟩
        have HF3 := hid (HFR.out.trans' hf3 (fun i hi => by
          unfold condM at hi
          rcases List.mem_cons.1 hi with h1 | h1
          · exact Or.inl (by rw [h1]; simp)
          · exact Or.inr (HVN.out i (by cases hv : v.ownBlock with
              | none => rw [hv] at h1; cases h1
              | some g => rw [hv] at h1; simp at h1; rw [h1]))))
        rw [hrk] at hn3 hs3
        have HN3 := hid hn3
        have HS3 := hid hs3
        have hsz := HFR.out.size
        clear hf3 hn3 hs3
        by_cases h0 : r.1 = 0
        · have k0 : decide (r.1 = 0) = true := decide_eq_true h0
          go_wp2_with fail
          go_roundg (gk - 1)
          case measure => omega
          case rel =>
            obtain ⟨h1, h2, v', h3, h4⟩ := HS3.out h0
            refine ⟨j + 1, r.2.2.1, r.2.2.2, v', by omega, h1, ?_, HCR.out h0, h2, HF3.out, fun g hg => ?_, ?_⟩
            · have e1 : nextJ wi k (j + 1) = j + 1 := by unfold nextJ; rw [if_neg (by omega)]
              rw [e1] at h4
              exact h4
            · rcases h3 g hg with h5 | h5
              · exact HVN.out g h5
              · omega
            · rw [← HBT.out.2 h0]; exact HBR.out
        · have k0 : decide (r.1 = 0) = false := decide_eq_false h0
          go_wp2_with fail
          go_ret
          obtain ⟨h1, h2⟩ := HBT.out.1 h0
          rw [HBR.out] at h1 h2
          refine ⟨by rw [h1]; rfl, HF3.out, by rw [hRk]; exact HN3.out, fun h5 => absurd (h1.symm.trans h5) h0⟩
      · rintro e w2 ⟨_, hpost⟩
        obtain ⟨he, hfr⟩ := hpost hrd0
        rw [show noParts.toArray = #[.string ⟨#[]⟩, .string ⟨#[]⟩, .slice none 0 0] from rfl] at he
        subst he
        obtain ⟨h1, h2⟩ := block_unread (callN n) (ps.map L) (os.map L) (ls.map L) j k (by simpa using hlt) opens st (by rw [List.getElem_map]; exact hrd0)
        rw [HBR.out] at h1 h2
        rw [List.getElem_map] at h1
        rw [← h1] at hrd0 ⊢
        obtain ⟨xs, hx1, hx2⟩ := HS.out.text
        have HS := hid (HS.out.frc hfr ⟨xs, hx1.fr hfr rfl (fun _ => by simp; exact hne), hx2⟩ : ExpSt w2 B be bt wi k st)
        have HFR := hid (HFR.out.trans hfr.to)
        clear hfr hpost hx1 hx2 h1 h2
        have hb4 : Below w2.heap.size w2 (w2.alloc (.cells #[.string ⟨#[]⟩, .string ⟨#[]⟩, .slice none 0 0] 101)) := (Below.refl _ _).alloc (Nat.le_refl _) _
        have HS := hid (HS.out.below hb4)
        have HFR := hid (HFR.out.trans (Fr.of_below hb4))
        clear hb4
        have k0 : decide (R.1 = 0) = false := decide_eq_false hrd0
        go_wp2_with fail
        go_ret
        exact ⟨rfl, HFR.out, by rw [hRk]; exact HS.out.num, fun h5 => absurd h5 hrd0⟩
    · rw [decide_eq_false hlt]
      have hbr := HBR.out
      rw [List.drop_eq_nil_of_le (by simp; omega), blockP_nil] at hbr
      rintro e w1 ⟨rfl, hb1⟩
      have HBR := hid hbr
      have HS := hid (HS.out.below hb1)
      have HRA := hid (HRA.out.below hb1)
      have HFR := hid (HFR.out.trans (Fr.of_below hb1))
      clear hbr hb1
      go_wp2_with fail
      refine (depth_any _ B _ bm v _ opens HRA.out.cond).mono ?_
      rintro e w2 ⟨rfl, rfl⟩
      by_cases ho : opens = []
      · subst ho
        have hbr := HBR.out
        rw [if_pos rfl] at hbr
        subst hbr
        go_wp2_with fail
        go_ret
        exact ⟨rfl, HFR.out, HS.out.num, fun _ => ⟨HS.out, HOK.out⟩⟩
      · have hbr := HBR.out
        rw [if_neg ho] at hbr
        subst hbr
        have hl : 0 < opens.length := List.length_pos_iff.2 ho
        have k0 : decide ((opens.length : Int) > 0) = true := decide_eq_true (by omega)
        clear ho
        go_wp2_with fail
        go_ret
        exact ⟨rfl, HFR.out, HS.out.num, fun h => by cases h⟩

end Go.Proofs.YtcepppilgncdmaaGreatDoor

namespace Go.Proofs.YtcepppilgncdmaaGreatDoor
open Go.RowKit
attribute [local go_sem ↓] Go.wp_at_zero Go.wp_at_succ

/-- A number of the expansion's own turns. -/
theorem ExpAt.count {w : World} {B be bt wi k : Nat} {vm vn vl : Value} {ms : List MacV} {ns : List (ByteArray × Int)} {outs : List (ByteArray × Nat)} {calls : Nat} (h : ExpAt w B be bt wi k vm vn vl ms ns outs calls) (j : Nat) (u : Value) (wi' calls' : Nat)
    (hs : [.pointer (some ⟨bt, 0, none⟩), vm, vn, .int .i64 (wi : Nat), .int .i64 (calls : Nat), vl].set j u = [.pointer (some ⟨bt, 0, none⟩), vm, vn, .int .i64 (wi' : Nat), .int .i64 (calls' : Nat), vl]) :
    ExpAt (w.setCell ⟨be, j, none⟩ u) B be bt wi' k vm vn vl ms ns outs calls' ∧ Fr B [] w (w.setCell ⟨be, j, none⟩ u) := by
  have hf : Fr B [] w (w.setCell ⟨be, j, none⟩ u) := (Fr.refl B [] w).setCell (p := ⟨be, j, none⟩) (h.row.may h.at_ (Or.inl rfl)) u
  obtain ⟨xs, h1, h2⟩ := h.text
  have hr := h.row.set j u
  rw [hs] at hr
  exact ⟨⟨hr, ownsRow_setCell_other h.mown (a := ⟨be, j, none⟩) (own_row_ne h.mown h.row (by decide)) _, ownsRow_setCell_other h.nown (a := ⟨be, j, none⟩) (own_row_ne h.nown h.row (by decide)) _, ownsRow_setCell_other h.lown (a := ⟨be, j, none⟩) (own_row_ne h.lown h.row (by decide)) _, fun m hm => ⟨(h.mstr m hm).1.fr hf, (h.mstr m hm).2.fr hf⟩, h.at_, xs, h1.fr hf rfl (fun _ => by simp), h2⟩, hf⟩
theorem NumAt.cell {w : World} {be bt wi k : Nat} (h : NumAt w be bt wi k) : w.cell? ⟨be, 3, none⟩ = some (.int .i64 (wi : Nat)) ∧ w.frozen? ⟨be, 3, none⟩ = false := by
  obtain ⟨ys, xs, h1, h0, h2, h3⟩ := h
  obtain ⟨hl, hy⟩ := List.getElem?_eq_some_iff.1 h0
  refine ⟨?_, h1.free 3⟩
  rw [h1.cell 3 (by simp; omega)]
  exact congrArg some hy
theorem NumAt.count {w : World} {B be bt wi k : Nat} (h : NumAt w be bt wi k) (hB : B ≤ be) (wi' : Nat) : NumAt (w.setCell ⟨be, 3, none⟩ (.int .i64 (wi' : Nat))) be bt wi' k ∧ Fr B [] w (w.setCell ⟨be, 3, none⟩ (.int .i64 (wi' : Nat))) := by
  obtain ⟨ys, xs, h1, h0, h2, h3⟩ := h
  obtain ⟨hl, hy⟩ := List.getElem?_eq_some_iff.1 h0
  have hf : Fr B [] w (w.setCell ⟨be, 3, none⟩ (.int .i64 (wi' : Nat))) := (Fr.refl B [] w).setCell (p := ⟨be, 3, none⟩) (h1.may hB (Or.inl rfl)) _
  exact ⟨⟨ys.set 2 (.int .i64 (wi' : Nat)), xs, h1.set 3 _, by rw [List.getElem?_set_self hl], h2.fr hf rfl (fun _ => by simp), h3⟩, hf⟩
theorem ExpSt.count {w : World} {B be bt wi k : Nat} {st : StP} (h : ExpSt w B be bt wi k st) (wi' : Nat) : ExpSt (w.setCell ⟨be, 3, none⟩ (.int .i64 (wi' : Nat))) B be bt wi' k st := by
  obtain ⟨vm, vn, vl, ms, ns, outs, calls, hx, rfl⟩ := h
  exact ⟨vm, vn, vl, ms, ns, outs, calls, (hx.count 3 _ wi' calls rfl).1, rfl⟩

theorem ExpAt.macAt {w : World} {B be bt wi k : Nat} {vm vn vl : Value} {ms : List MacV} {ns : List (ByteArray × Int)} {outs : List (ByteArray × Nat)} {calls : Nat} (h : ExpAt w B be bt wi k vm vn vl ms ns outs calls) {g cap i : Nat} (hvm : vm = .slice (some ⟨g, 0, none⟩) ms.length cap) (hi : i < ms.length) :
    w.cell? ⟨g, i * 3 + 1, none⟩ = some ms[i].pv ∧ w.cell? ⟨g, i * 3 + 2, none⟩ = some ms[i].bv := by
  have ho := h.mown
  rw [hvm] at ho
  exact ⟨(ho.cellAt (i * 3 + 1) (by omega)).trans (macCells_at ms i hi).2.1, (ho.cellAt (i * 3 + 2) (by omega)).trans (macCells_at ms i hi).2.2⟩

theorem call_zero : CallOk 0 := by
  intro w B be bt wi k vm vn vl ms ns outs calls i g cap lb op va vc os W C hi hwn hx hok hvm hp hW hm hgB hB hbt
  have hwi : wi = 8 := by omega
  subst hwi
  have hb0 : Below w.heap.size w (w.alloc (.cells #[.string lb, .string op, .slice va os.length vc] 101)) := (Below.refl _ _).alloc (Nat.le_refl _) _
  have HX := hid (hx.below hb0)
  have HF := hid (show Fr B [] w (w.alloc (.cells #[.string lb, .string op, .slice va os.length vc] 101)) from Fr.of_below hb0)
  have c3 := HX.out.row.cell 3 (by simp)
  clear hx hok hp hW hm hb0
  go_enter Tryz.func109, Tryz.ntmps109
  go_wp2_with fail
  go_ret
  exact ⟨rfl, HF.out, HX.out.num, fun h => by cases h⟩

theorem label_text (l : List UInt8) (h : l.length ≤ 100) : (textP ⟨l, [], []⟩).length ≤ 1000000 := by
  have : (textP ⟨l, [], []⟩).length ≤ l.length + 1 := by
    unfold textP
    simp only [joined]
    by_cases hl : l = [] <;> simp [hl]
  omega

set_option maxRecDepth 100000 in
set_option maxHeartbeats 1600000 in
theorem call_succ (n : Nat) (hcall : CallOk n) : CallOk (n + 1) := by
  intro w B be bt wi k vm vn vl ms ns outs calls i g cap lb op va vc os W C hi hwn hx hok hvm hp hW hm hgB hB hbt
  have hb0 : Below w.heap.size w (w.alloc (.cells #[.string lb, .string op, .slice va os.length vc] 101)) := (Below.refl _ _).alloc (Nat.le_refl _) _
  obtain ⟨q1, q2, q3⟩ := hW.parts hp
  have hB0 : B ≤ (w.alloc (.cells #[.string lb, .string op, .slice va os.length vc] 101)).heap.size := Nat.le_trans hB hb0.size
  have HX := hid (hx.below hb0)
  have HP := hid (hp.below hb0)
  have HBX := hid (RowT.new w 101 [.string lb, .string op, .slice va os.length vc])
  have HF := hid (show Fr B [] w (w.alloc (.cells #[.string lb, .string op, .slice va os.length vc] 101)) from Fr.of_below hb0)
  have HM := hid (hm.below hb0)
  have HOK := hid hok
  have HWK := hid hW
  have HQ2 := hid q2
  have hmac : MacOk (plainM ms[i]) := hok.macs _ (by simp only [stOf]; exact List.mem_map.2 ⟨_, List.getElem_mem hi, rfl⟩)
  have HMAC := hid hmac
  have hcl : calls ≤ 200 := hok.calls
  have c3 := HX.out.row.cell 3 (by simp)
  have c4 := HX.out.row.cell 4 (by simp)
  have f3 := HX.out.row.free 3
  have f4 := HX.out.row.free 4
  have y0 := HBX.out.cell 0 (by simp)
  have y1 := HBX.out.cell 1 (by simp)
  have y2 := HBX.out.cell 2 (by simp)
  have HSTR := hid (HX.out.mstr ms[i] (List.getElem_mem hi))
  obtain ⟨pa, pc, hpv⟩ := HSTR.out.1.form
  obtain ⟨ba, bc, hbv⟩ := HSTR.out.2.form
  have HPVE := hid hpv
  have HBVE := hid hbv
  have cm1 := (HX.out.macAt hvm hi).1
  have cm2 := (HX.out.macAt hvm hi).2
  rw [hpv] at cm1
  rw [hbv] at cm2
  have hops : W.operands.length = os.length := by rw [← hp.ops, List.length_map]
  have hpar : (plainM ms[i]).params.length = ms[i].ps.length := by simp [plainM]
  have hlp : ms[i].ps.length ≤ 100 := by have := hmac.1; rw [hpar] at this; exact this
  have kw : ((wi : Int) == 8) = false := by rw [beq_eq_false_iff_ne]; omega
  obtain ⟨r, hr⟩ : ∃ r, callN (n + 1) (plainM ms[i]) W k (stOf ms ns outs calls) = r := ⟨_, rfl⟩
  rw [hr]
  rw [callN, hops, hpar] at hr
  have HR := hid hr
  have hlab : W.label.length ≤ 100 := hW.bd.1
  have HLB := hid hp.label
  clear hx hp hb0 hm hok hW q2 hmac hpv hbv hr
  by_cases h1 : os.length = ms[i].ps.length
  · have k1 : ((os.length : Int) != (ms[i].ps.length : Int)) = false := by simp [h1]
    by_cases h2 : calls = 200
    · have k2 : ((calls : Int) == 200) = true := by rw [beq_iff_eq]; omega
      have hr := HR.out
      rw [if_neg (fun c => c h1), if_pos (by simp [stOf, h2])] at hr
      subst hr
      clear h1 h2
      go_enter Tryz.func109, Tryz.ntmps109
      go_wp2_with fail
      go_quiet (fail)
      go_wp2_with fail
      go_ret
      exact ⟨rfl, HF.out.drewN _, HX.out.num, fun h => by cases h⟩
    · have k2 : ((calls : Int) == 200) = false := by rw [beq_eq_false_iff_ne]; omega
      have hr := HR.out
      rw [if_neg (fun c => c h1), if_neg (by simp [stOf]; omega)] at hr
      have HR := hid hr
      clear hr
      have H1 := hid h1
      have hc2 : calls < 200 := by omega
      clear h1 h2
      go_enter Tryz.func109, Tryz.ntmps109
      go_wp2_with fail
      go_quiet (fail)
      go_wp2_with fail
      obtain ⟨q, hq⟩ : ∃ q, leaveP ⟨W.label, [], []⟩ k (stOf ms ns outs calls) = q := ⟨_, rfl⟩
      have hqok : q.1 = 0 → StOk q.2 k := by rw [← hq]; exact leaveP_ok HOK.out
      have HQOK := hid hqok
      have HF := hid (HF.out.drewN nq)
      have hbn : Below (w.alloc (.cells #[.string lb, .string op, .slice va os.length vc] 101)).heap.size (w.alloc (.cells #[.string lb, .string op, .slice va os.length vc] 101)) ((w.alloc (.cells #[.string lb, .string op, .slice va os.length vc] 101)).drewN nq) := below_drewN (Below.refl _ _) _
      have HX := hid (HX.out.below hbn)
      have HP := hid (HP.out.below hbn)
      have HM := hid (HM.out.below hbn)
      have HBX := hid (HBX.out.below hbn)
      clear hbn
      refine (leave_any' _ B be bt wi k vm vn vl ms ns outs calls lb ⟨#[]⟩ none 0 [] ⟨W.label, [], []⟩ 0 HX.out ⟨HLB.out, rfl, rfl, Or.inl ⟨rfl, rfl⟩⟩ (label_text _ hlab) (by simp) HOK.out.out hB0).mono ?_
      have hr := HR.out
      rw [hq] at hr ⊢
      have HR := hid hr
      clear hr hq hqok
      rintro e w1 ⟨rfl, hf1, hs1, hn1⟩
      by_cases h0 : q.1 = 0
      · obtain ⟨vl1, outs1, hx1, hst1⟩ := hs1 h0
        have k0 : (q.1 != 0) = false := by simp [h0]
        have c3 := hx1.row.cell 3 (by simp)
        have c4 := hx1.row.cell 4 (by simp)
        have f3 := hx1.row.free 3
        have f4 := hx1.row.free 4
        have cm1 := (hx1.macAt hvm hi).1
        have cm2 := (hx1.macAt hvm hi).2
        rw [HPVE.out] at cm1
        rw [HBVE.out] at cm2
        have hr := HR.out
        rw [if_neg (fun c => c h0), hst1] at hr
        have HR := hid hr
        have HX1 := hid hx1
        have HF1 := hid (HF.out.trans hf1)
        have HM1 := hid (HM.out.fr hf1 hgB)
        have HBX1 := hid (HBX.out.fr hf1 rfl (fun h => by cases h))
        have y2 := HBX1.out.cell 2 (by simp)
        have HOK1 := hid (hst1 ▸ HQOK.out h0)
        have HP1 := hid (HP.out.fr hf1)
        clear hr hx1 hf1 hs1 hn1 hst1 h0
        go_wp2_with fail
        have he := HX1.out.count 4 (.int .i64 ((calls : Int) + 1)) wi (calls + 1) rfl
        have he2 := he.1.count 3 (.int .i64 ((wi : Int) + 1)) (wi + 1) (calls + 1) rfl
        have HX2 := hid he2.1
        have HF2 := hid (HF1.out.trans (he.2.trans he2.2))
        have HM2 := hid (HM1.out.fr (he.2.trans he2.2) hgB)
        have HBX2 := hid (HBX1.out.fr (he.2.trans he2.2) rfl (fun h => by cases h))
        have HP2 := hid (HP1.out.fr (he.2.trans he2.2))
        have hB2 : B ≤ ((w1.setCell ⟨be, 4, none⟩ (.int .i64 ((calls : Int) + 1))).setCell ⟨be, 3, none⟩ (.int .i64 ((wi : Int) + 1))).heap.size := Nat.le_trans hB HF2.out.size
        clear he he2 c3 c4 f3 f4 cm1 cm2 y2
        generalize (w1.setCell ⟨be, 4, none⟩ (.int .i64 ((calls : Int) + 1))).setCell ⟨be, 3, none⟩ (.int .i64 ((wi : Int) + 1)) = w2 at HX2 HF2 HM2 HBX2 HP2 hB2 ⊢
        have cm1 := (HX2.out.macAt hvm hi).1
        have cm2 := (HX2.out.macAt hvm hi).2
        rw [HPVE.out] at cm1
        rw [HBVE.out] at cm2
        have y2 := HBX2.out.cell 2 (by simp)
        have hb3 : Below w2.heap.size w2 (w2.alloc (.cells #[.slice none 0 0, .slice ba ms[i].bs.length bc, .int .i64 0, .slice pa ms[i].ps.length pc, .slice va os.length vc] 209)).drew := ((Below.refl _ _).alloc (Nat.le_refl _) _).drew
        have hrow : RowT (w2.alloc (.cells #[.slice none 0 0, .slice ba ms[i].bs.length bc, .int .i64 0, .slice pa ms[i].ps.length pc, .slice va os.length vc] 209)).drew 209 w2.heap.size [.slice none 0 0, .slice ba ms[i].bs.length bc, .int .i64 0, .slice pa ms[i].ps.length pc, .slice va os.length vc] := RowT.new w2 _ _
        have hstr := HX2.out.mstr ms[i] (List.getElem_mem hi)
        rw [HPVE.out, HBVE.out] at hstr
        have hmac := HMAC.out
        have hlines : ∀ j (hj : j < ms[i].bs.length), ms[i].bs[j].size ≤ 100 ∧ cutL (L ms[i].bs[j]) = L ms[i].bs[j] := fun j hj => by
          have := hmac.2.2.2 (L ms[i].bs[j]) (List.mem_map.2 ⟨_, List.getElem_mem hj, rfl⟩)
          rw [L_length] at this
          exact this
        have hpars : ∀ j (hj : j < ms[i].ps.length), ms[i].ps[j].size ≤ 100 := fun j hj => by
          have := hmac.2.1 (L ms[i].ps[j]) (List.mem_map.2 ⟨_, List.getElem_mem hj, rfl⟩)
          rw [L_length] at this
          exact this
        have hbl : ms[i].bs.length ≤ 3001 := by have := hmac.2.2.1; simp [plainM] at this; exact this
        have htb : bt ≠ w2.heap.size := by
          obtain ⟨xs, h1, _⟩ := HX2.out.text
          have := h1.lt
          omega
        have hok2 : StOk (stOf ms ns outs1 (calls + 1)) k := ⟨HOK1.out.macs, HOK1.out.names, HOK1.out.out, by show calls + 1 ≤ 200; omega, HOK1.out.few, HOK1.out.taken⟩
        obtain ⟨R, hR⟩ : ∃ R, blockP (callN n) (some (ms[i].ps.map L, os.map L)) 0 (ms[i].bs.map L) k [] none (stOf ms ns outs1 (calls + 1)) = R := ⟨_, rfl⟩
        have hRk : R.2.1 = k := by rw [← hR]; exact blockP_stays _ _ _ _ _ _ _
        have HRR := hid (show r = (R.1, R.2.2) by
          rw [← HR.out, ← HP2.out.ops, ← hR]; rfl)
        have hc := goM_any n hcall _ B be bt (wi + 1) k w2.heap.size (stOf ms ns outs1 (calls + 1)) (.slice ba ms[i].bs.length bc) (.slice pa ms[i].ps.length pc) (.slice va os.length vc) ms[i].bs ms[i].ps os (by omega) (by omega)
          ⟨_, _, _, _, _, _, _, HX2.out.below hb3, rfl⟩ ⟨⟨hrow, World.ownsRow_nil _ _ _ _, by simp⟩, hstr.2.below hb3, by simp, hbl⟩ (fun j hj => (hlines j hj).1) (fun j hj => (hlines j hj).2)
          (hstr.1.below hb3) ((HP2.out.at_.below hb3).mono (Nat.zero_le _)) H1.out.symm (by omega) hpars HQ2.out hok2 (HM2.out.below hb3) hgB (Nat.le_trans hB2 hb3.size) hbt hB2 htb R hR
        have HC := hid hc
        have HF3 := hid (HF2.out.trans (Fr.of_below hb3))
        have hsz2 := HF2.out.size
        clear hc hb3 hrow hstr hmac hlines hpars hok2 hR
        go_region_with (go_at_call 31; refine HC.out.mono ?_; rintro e w3 ⟨rfl, hf3, hn3, hs3⟩)
        all_goals
          rw [hRk] at hn3 hs3
          have c3 := hn3.cell.1
          have f3 := hn3.cell.2
          have HF4 := hid (HF3.out.trans' hf3 (fun j hj => Or.inr (by rw [List.mem_singleton] at hj; rw [hj]; exact hsz2)))
          have HN3 := hid hn3
          have HS3 := hid hs3
          clear hf3 hn3 hs3
          go_wp2_with fail
          go_ret
          have hcn := HN3.out.count HX2.out.at_ wi
          refine ⟨by rw [HRR.out]; rfl, HF4.out.trans hcn.2, hcn.1, fun h0 => ?_⟩
          rw [HRR.out] at h0 ⊢
          exact ⟨(HS3.out h0).1.count wi, (HS3.out h0).2⟩
      · have k0 : (q.1 != 0) = true := by simp [h0]
        have hr := HR.out
        rw [if_pos h0] at hr
        subst hr
        clear hs1
        go_wp2_with fail
        go_ret
        exact ⟨rfl, HF.out.trans hf1, hn1, fun h => absurd h h0⟩
  · have k1 : ((os.length : Int) != (ms[i].ps.length : Int)) = true := by simp; omega
    have hr := HR.out
    rw [if_pos h1] at hr
    subst hr
    clear h1
    go_enter Tryz.func109, Tryz.ntmps109
    go_wp2_with fail
    go_quiet (fail)
    go_wp2_with fail
    go_ret
    exact ⟨rfl, HF.out.drewN _, HX.out.num, fun h => by cases h⟩

end Go.Proofs.YtcepppilgncdmaaGreatDoor

namespace Go.Proofs.YtcepppilgncdmaaGreatDoor
open Go.RowKit
attribute [local go_sem ↓] Go.wp_at_zero Go.wp_at_succ

theorem call_all : ∀ n, CallOk n
  | 0 => call_zero
  | n + 1 => call_succ n (call_all n)

/-- What Expand answers: the lines, in rows of their own; or the error and where. -/
def ExpandPost (r : Int × Nat × List (List UInt8 × Nat)) (w : World) (e : Ending) (w' : World) : Prop :=
  Below w.heap.size w w' ∧ ∃ vl outs, e = .returned (.tuple #[vl, .int .i64 r.1, .int .i64 (r.2.1 : Nat)]) ∧ (outs.map fun x : ByteArray × Nat => (L x.1, x.2)) = r.2.2 ∧ outs.length ≤ 300 ∧ w'.ownsRow w.heap.size 38 4 vl outs.length (lineCells outs)

/-- No lines with an error. -/
def ExpandNil (r : Int × Nat × List (List UInt8 × Nat)) (e : Ending) : Prop := r.1 ≠ 0 → ∃ x y, e = .returned (.tuple #[.slice none 0 0, x, y])

theorem badLine_ok (ls : List (List UInt8)) : ∀ k, 0 < k → badLine ls k = 0 → ∀ l ∈ ls, l.length ≤ 80 := by
  induction ls with
  | nil => intro k _ _ l hl; cases hl
  | cons a r ih =>
    intro k hk h l hl
    unfold badLine at h
    split at h
    · rename_i ho
      rcases List.mem_cons.1 hl with h1 | h1
      · rw [h1]; unfold okLine at ho; simp at ho; exact ho.1
      · exact ih (k + 1) (by omega) h l h1
    · omega
set_option maxHeartbeats 400000 in
theorem number_num (w : World) (be bt wi k : Nat) (h : NumAt w be bt wi k) :
    Calls Tryz.prog 32 #[.pointer (some ⟨be, 0, none⟩)] w fun e w' => e = .returned (.int .i64 (k : Nat)) ∧ w' = w := by
  obtain ⟨ys, xs, h1, _, hx, hx2⟩ := h
  have c0 : w.cell? ⟨be, 0, none⟩ = some (.pointer (some ⟨bt, 0, none⟩)) := h1.cell 0 (by simp)
  obtain ⟨hlt, hy⟩ := List.getElem?_eq_some_iff.1 hx2
  have c2 : w.cell? ⟨bt, 2, none⟩ = some (.int .i64 (k : Nat)) := by rw [hx.cell 2 hlt, hy]
  clear h1 hx hx2 hy
  go_enter Tryz.func32, Tryz.ntmps32
  go_wp2
  go_ret
  exact ⟨rfl, rfl⟩

set_option maxRecDepth 100000 in
set_option maxHeartbeats 800000 in
theorem Expand_nil (s : ByteArray) (w : World) (hs : s.size ≤ maxLen) (hm : MaxAt w) :
    Calls Tryz.prog 20 #[.string s] w (fun e w' => ExpandPost (expandP (L s)) w e w' ∧ ExpandNil (expandP (L s)) e) := by
  have hg : 0 < w.heap.size := by
    obtain ⟨m, h1⟩ := hm
    exact World.block_lt_of_cell? _ _ h1
  obtain ⟨r, hr⟩ : ∃ r, expandP (L s) = r := ⟨_, rfl⟩
  rw [hr]
  unfold expandP at hr
  rw [L_length] at hr
  have HR := hid hr
  have HM := hid hm
  clear hr hm
  go_enter Tryz.func20, Tryz.ntmps20
  go_wp2_with fail
  refine (Split_any s _ hs HM.out).mono ?_
  rintro e w1 ⟨hb1, hcase⟩
  rcases hcase with ⟨h1, rfl⟩ | ⟨h1, h2, rfl⟩ | ⟨h1, h2, v, ls, h3, h4, rfl⟩
  · have hr := HR.out
    rw [if_pos h1] at hr
    subst hr
    go_wp2
    refine bodyPost_ret (v := .tuple #[.slice none 0 0, .int .i64 1, .int .i64 0]) (by simp [results, Tryz.results20]) rfl ?_
    exact ⟨⟨hb1, .slice none 0 0, [], rfl, rfl, by simp, World.ownsRow_nil _ _ _ _⟩, fun _ => ⟨_, _, rfl⟩⟩
  · have hr := HR.out
    rw [if_neg h1, if_pos h2] at hr
    subst hr
    clear h1 h2
    go_wp2
    refine bodyPost_ret (v := .tuple #[.slice none 0 0, .int .i64 1, .int .i64 (badLine (splitB 10 (L s)) 1 : Nat)]) (by simp [results, Tryz.results20]) rfl ?_
    exact ⟨⟨hb1, .slice none 0 0, [], rfl, rfl, by simp, World.ownsRow_nil _ _ _ _⟩, fun _ => ⟨_, _, rfl⟩⟩
  · have hr := HR.out
    rw [if_neg h1, if_neg (fun c => c h2), ← h3] at hr
    have HR := hid hr
    have hfew : ls.length ≤ 3001 := by
      have := splitB_len 10 (L s)
      rw [← h3, List.length_map, L_length] at this
      omega
    have HLS := hid (show ∀ i (hi : i < ls.length), ls[i].size ≤ 100 from fun i hi => by
      have := badLine_ok _ 1 (by omega) h2 (L ls[i]) (by rw [← h3]; exact List.mem_map.2 ⟨_, List.getElem_mem hi, rfl⟩)
      rw [L_length] at this
      omega)
    obtain ⟨la, lc, hv⟩ := h4.form
    subst hv
    have hal : (w1.alloc (.cells #[.slice none 0 0, .slice la ls.length lc, .int .i64 0] 74)).heap.size = w1.heap.size + 1 := Array.size_push _
    have hb2 : Below w1.heap.size w1 ((w1.alloc (.cells #[.slice none 0 0, .slice la ls.length lc, .int .i64 0] 74)).alloc (.cells #[.pointer (some ⟨w1.heap.size, 0, none⟩), .slice none 0 0, .slice none 0 0, .int .i64 0, .int .i64 0, .slice none 0 0] 77)) := ((Below.refl _ _).alloc (Nat.le_refl _) _).alloc (by rw [hal]; exact Nat.le_succ _) _
    have hrt : RowT ((w1.alloc (.cells #[.slice none 0 0, .slice la ls.length lc, .int .i64 0] 74)).alloc (.cells #[.pointer (some ⟨w1.heap.size, 0, none⟩), .slice none 0 0, .slice none 0 0, .int .i64 0, .int .i64 0, .slice none 0 0] 77)) 74 w1.heap.size [.slice none 0 0, .slice la ls.length lc, .int .i64 0] := (RowT.new w1 _ _).alloc _
    have hre : RowT ((w1.alloc (.cells #[.slice none 0 0, .slice la ls.length lc, .int .i64 0] 74)).alloc (.cells #[.pointer (some ⟨w1.heap.size, 0, none⟩), .slice none 0 0, .slice none 0 0, .int .i64 0, .int .i64 0, .slice none 0 0] 77)) 77 (w1.heap.size + 1) [.pointer (some ⟨w1.heap.size, 0, none⟩), .slice none 0 0, .slice none 0 0, .int .i64 0, .int .i64 0, .slice none 0 0] := by
      have := RowT.new (w1.alloc (.cells #[.slice none 0 0, .slice la ls.length lc, .int .i64 0] 74)) 77 [.pointer (some ⟨w1.heap.size, 0, none⟩), .slice none 0 0, .slice none 0 0, .int .i64 0, .int .i64 0, .slice none 0 0]
      rw [hal] at this
      exact this
    have hbw := Nat.le_trans hb1.size hb2.size
    have hx : ExpSt ((w1.alloc (.cells #[.slice none 0 0, .slice la ls.length lc, .int .i64 0] 74)).alloc (.cells #[.pointer (some ⟨w1.heap.size, 0, none⟩), .slice none 0 0, .slice none 0 0, .int .i64 0, .int .i64 0, .slice none 0 0] 77)) w.heap.size (w1.heap.size + 1) w1.heap.size 0 0 noSt := ⟨_, _, _, [], [], [], 0, ⟨hre, World.ownsRow_nil _ _ _ _, World.ownsRow_nil _ _ _ _, World.ownsRow_nil _ _ _ _, (fun m hm => by cases hm), Nat.le_succ_of_le hb1.size, _, hrt, rfl⟩, rfl⟩
    obtain ⟨R, hR⟩ : ∃ R, blockP (callN 8) none 1 (ls.map L) 0 [] none noSt = R := ⟨_, rfl⟩
    have hc := goT_any (call_all 8) _ w.heap.size (w1.heap.size + 1) w1.heap.size noSt (.slice la ls.length lc) ls hx ⟨⟨hrt, World.ownsRow_nil _ _ _ _, by simp⟩, (h4.below hb2).mono (Nat.zero_le _), by simp, hfew⟩ HLS.out ⟨(fun m hm => by cases hm), by simp [noSt], by simp [noSt], by simp [noSt], by simp [noSt], by simp⟩ ((HM.out.below hb1).below hb2) hg hbw hb1.size R hR
    have HC := hid hc
    have HB2 := hid ((hb1.trans (hb2.mono hb1.size)))
    rw [hR] at hr
    have HR := hid hr
    clear hal hr h1 h2 h3 hc hb1 hb2 hrt hre hx hR h4
    go_wp2_with fail
    refine HC.out.mono ?_
    rintro e w3 ⟨rfl, hf3, hn3, hs3⟩
    have HB3 := hid (HB2.out.trans (hf3.below hbw))
    have hr := HR.out
    by_cases h0 : R.1 = 0
    · have k0 : (R.1 != 0) = false := by simp [h0]
      rw [if_neg (fun c => c h0)] at hr
      subst hr
      obtain ⟨⟨vm, vn, vl, ms, ns, outs, calls, hx, hst⟩, hok⟩ := hs3 h0
      have c5 := hx.row.cell 5 (by simp)
      have HOUT := hid hok.out
      have HL := hid hx.lown
      have HST := hid hst
      clear hf3 hn3 hs3 hx hst hok
      go_wp2_with fail
      refine bodyPost_ret (v := .tuple #[vl, .int .i64 0, .int .i64 0]) (by simp [results, Tryz.results20]) rfl ?_
      refine ⟨⟨HB3.out, vl, outs, rfl, ?_, ?_, HL.out⟩, fun h => absurd rfl h⟩
      · rw [HST.out]; rfl
      · have := HOUT.out; rw [HST.out] at this; simpa [stOf] using this
    · have k0 : (R.1 != 0) = true := by simp [h0]
      rw [if_pos h0] at hr
      subst hr
      have HN := hid hn3
      clear hf3 hn3 hs3
      go_wp2_with fail
      refine (number_num _ _ _ _ _ HN.out).mono ?_
      rintro e w4 ⟨rfl, rfl⟩
      go_wp2_with fail
      refine bodyPost_ret (v := .tuple #[.slice none 0 0, .int .i64 R.1, .int .i64 (R.2.1 : Nat)]) (by simp [results, Tryz.results20]) rfl ?_
      exact ⟨⟨HB3.out, .slice none 0 0, [], rfl, rfl, by simp, World.ownsRow_nil _ _ _ _⟩, fun _ => ⟨_, _, rfl⟩⟩

theorem Expand_any (s : ByteArray) (w : World) (hs : s.size ≤ maxLen) (hm : MaxAt w) :
    Calls Tryz.prog 20 #[.string s] w (ExpandPost (expandP (L s)) w) := (Expand_nil s w hs hm).mono (fun _ _ h => h.1)

set_option maxHeartbeats 400000 in
theorem mExpand_nil (s : ByteArray) (w : World) (hs : s.size ≤ maxLen) (hm : MaxAt w) :
    Calls Tryz.prog 11 #[.string s] w (fun e w' => ExpandPost (expandP (L s)) w e w' ∧ ExpandNil (expandP (L s)) e) := by
  obtain ⟨r, hr⟩ : ∃ r, expandP (L s) = r := ⟨_, rfl⟩
  have hc := Expand_nil s w hs hm
  rw [hr] at hc ⊢
  have HC := hid hc
  clear hc hr hm
  go_enter Tryz.func11, Tryz.ntmps11
  go_wp2_with fail
  refine HC.out.mono ?_
  rintro e w1 ⟨⟨hb, vl, outs, rfl, hrest⟩, hnil⟩
  have HREST := hid hrest
  have HNIL := hid hnil
  clear hrest hnil
  go_wp2_with fail
  refine bodyPost_ret (v := .tuple #[vl, .int .i64 r.1, .int .i64 (r.2.1 : Nat)]) (by simp [results, Tryz.results11]) rfl ?_
  exact ⟨⟨hb, vl, outs, rfl, HREST.out⟩, HNIL.out⟩
theorem mExpand_any (s : ByteArray) (w : World) (hs : s.size ≤ maxLen) (hm : MaxAt w) :
    Calls Tryz.prog 11 #[.string s] w (ExpandPost (expandP (L s)) w) := (mExpand_nil s w hs hm).mono (fun _ _ h => h.1)

end Go.Proofs.YtcepppilgncdmaaGreatDoor
