/-
  What the program's reader of a macro's lines answers (package expand), and what the lines of a macro that is being defined come to.
-/
import Derived.Test.YtcepppilgncdmaaGreatDoorBS13
import Derived.Test.YtcepppilgncdmaaGreatDoorBS14
namespace Go.Proofs.YtcepppilgncdmaaGreatDoor
open Go.RowKit
attribute [local go_sem ↓] Go.wp_at_zero Go.wp_at_succ

theorem ownsRow_belowP {w w' : World} {base e size : Nat} {v : Value} {n : Nat} {xs : List Value} (h : w.ownsRow base e size v n xs) (hb : Below w.heap.size w w') : w'.ownsRow base e size v n xs :=
  ⟨h.1, h.2.imp id fun ⟨g, cap, cur, h1, h2, h3, h4⟩ => ⟨g, cap, cur, h1, h2, by rw [hb.block g (Array.getElem?_eq_some_iff.1 h3).1]; exact h3, h4⟩⟩

theorem filledP_len (ps os : List (List UInt8)) (l : List UInt8) : (filledP ps os l).2.length ≤ 80 := by
  unfold filledP
  split
  · simp
  · split
    · simp
    · simp; omega

/-- What a read answers, with an error too. -/
def MReadPost (B t bm : Nat) (v lv : Value) (ls : List ByteArray) (k : Nat) (rest : List Value) (opens : List OpenP) (r : Int × WordsP) (w : World) (e : Ending) (w' : World) : Prop :=
  (r.1 = 0 → ReadPost B t bm v lv ls k rest opens r.2 w e w') ∧ (r.1 ≠ 0 → e = .returned (.tuple #[.agg noParts.toArray, .int .i64 r.1]) ∧ FrC B [bm] w w')

set_option maxRecDepth 100000 in
set_option maxHeartbeats 1600000 in
theorem mread_any (w : World) (B bm : Nat) (v lv : Value) (ls : List ByteArray) (k : Nat) (pv ov : Value) (ps os : List ByteArray) (opens : List OpenP) (h : ReadAt w B 209 bm v lv ls k [pv, ov] opens) (hk : k < ls.length) (hbm : B ≤ bm) (hsz : ls[k].size ≤ 100) (hcut : cutL (L ls[k]) = L ls[k]) (hm : MaxAt w) (hB : 0 < B)
    (hps : StrV w 0 pv ps) (hos : StrV w 0 ov os) (hlen : ps.length = os.length) (hl : ps.length ≤ 1000) (hz : ∀ k (h : k < ps.length), ps[k].size ≤ 100) (hz2 : ∀ k (h : k < os.length), os[k].size ≤ 100) :
    Calls Tryz.prog 202 #[.pointer (some ⟨bm, 0, none⟩)] w (MReadPost B 209 bm v lv ls (k + 1) [pv, ov] opens (readP (some (ps.map L, os.map L)) (overP opens) (cutL (L ls[k]))) w) := by
  have HH := hid (h.below ((Below.refl w.heap.size w).alloc (Nat.le_refl _) (.cells noParts.toArray 101)))
  have HF := hid (show FrC B [bm] w (w.alloc (.cells noParts.toArray 101)) from (FrC.refl _ _ _).alloc _)
  have HR := hid (RowT.new w 101 noParts)
  have HM := hid (show MaxAt (w.alloc (.cells noParts.toArray 101)) from hm.below ((Below.refl _ _).alloc (Nat.le_refl _) _))
  have HPS := hid (hps.below ((Below.refl w.heap.size w).alloc (Nat.le_refl _) (.cells noParts.toArray 101)))
  have HOS := hid (hos.below ((Below.refl w.heap.size w).alloc (Nat.le_refl _) (.cells noParts.toArray 101)))
  have HCUT := hid hcut
  have HLEN := hid hlen
  have HZ := hid hz
  have HZ2 := hid hz2
  clear h hm hps hos hcut hlen hz hz2
  go_enter Tryz.func202, Tryz.ntmps202
  go_wp2_with fail
  refine (passing_any _ B 209 bm v _ opens HH.out.cond).mono ?_
  cases hov : overP opens with
  | true =>
    rintro e w0 ⟨rfl, rfl⟩
    go_wp2_with fail
    refine (lread_any _ B 209 bm v lv ls k [pv, ov] opens HH.out hk (by decide) (by decide) (by decide) rfl hbm (by omega) HM.out hB).mono ?_
    rintro e w1 ⟨lb, op, va, vc, ws, rfl, hpv, hra, hfr⟩
    have HPV := hid hpv
    have HRA := hid hra
    have HF := hid (HF.out.trans hfr)
    have HR := hid (HR.out.fr hfr rfl (fun h => by cases h))
    have x0 := HR.out.cell 0 (by decide)
    have x1 := HR.out.cell 1 (by decide)
    have x2 := HR.out.cell 2 (by decide)
    have z0 := HR.out.free 0
    have z1 := HR.out.free 1
    have z2 := HR.out.free 2
    have hlt := HR.out.lt
    clear hpv hra hfr
    go_wp2
    refine bodyPost_ret (v := .tuple #[.agg #[.string lb, .string op, .slice va ws.length vc], .int .i64 0]) (by simp [results, Tryz.results202, go_sem, x0, x1, x2]) rfl ?_
    rw [hov]
    refine ⟨fun _ => ⟨lb, op, va, vc, ws, rfl, ?_, ?_, ?_⟩, fun h => absurd rfl h⟩
    · rw [show (readP (some (ps.map L, os.map L)) true (cutL (L ls[k]))).2 = wordsP (cutL (cutL (L ls[k]))) from rfl, cutL_twice]
      exact ((HPV.out.set HR.out (by decide) _).set (HR.out.set 0 _) (by decide) _).set ((HR.out.set 0 _).set 1 _) (by decide) _
    · exact ((HRA.out.off HR.out (by decide) (by decide) (by decide) _).off (HR.out.set 0 _) (by decide) (by decide) (by decide) _).off ((HR.out.set 0 _).set 1 _) (by decide) (by decide) (by decide) _
    · exact ((HF.out.setNew (Nat.le_refl _) _).setNew (Nat.le_refl _) _).setNew (Nat.le_refl _) _
  | false =>
    rintro e w0 ⟨rfl, rfl⟩
    go_wp2_with fail
    refine (take_any _ B 209 bm v lv ls k [pv, ov] opens HH.out hk (by decide) (by decide) rfl hbm).mono ?_
    rintro e w1 ⟨rfl, hra, hfr⟩
    have HRA := hid hra
    have HF := hid (HF.out.trans hfr)
    have HR := hid (HR.out.fr hfr rfl (fun h => by cases h))
    have HM := hid (HM.out.fr hfr hB)
    have HPS := hid (HPS.out.frc hfr)
    have HOS := hid (HOS.out.frc hfr)
    clear hra hfr
    go_wp2_with fail
    refine (fill_any _ bm v lv _ pv ov ps os ls[k] HRA.out.cond.row HPS.out HOS.out HLEN.out hl HZ.out HZ2.out (by omega) HM.out).mono ?_
    obtain ⟨fr, hfr⟩ : ∃ fr, filledP (ps.map L) (os.map L) (L ls[k]) = fr := ⟨_, rfl⟩
    rw [hfr]
    obtain ⟨er, tl⟩ := fr
    have htl : tl.length ≤ 80 := by have := filledP_len (ps.map L) (os.map L) (L ls[k]); rw [hfr] at this; exact this
    rintro e w2 ⟨t, ht, rfl, hb2⟩
    have ht' : L t = tl := ht
    subst ht'
    have hts : t.size ≤ 100000 := by rw [L_length] at htl; omega
    have HRP := hid (show readP (some (ps.map L, os.map L)) false (cutL (L ls[k])) = if er ≠ 0 then (er, ⟨[], [], []⟩) else (0, wordsP (cutL (L t))) by
      rw [HCUT.out]; simp only [readP, hfr])
    have HRA := hid (HRA.out.below hb2)
    have HF := hid (HF.out.trans (FrC.of_below hb2))
    have HR := hid (HR.out.below hb2)
    have HM := hid (HM.out.below hb2)
    clear hb2 hfr ht htl
    by_cases her : er = 0
    · subst her
      go_wp2_with fail
      refine (Read_any t _ hts HM.out).mono ?_
      rintro e w3 ⟨lb, op, v2, ws, rfl, hpv, hb3⟩
      obtain ⟨va, vc, hv⟩ := hpv.at_.form
      subst hv
      have HPV := hid (hpv.mono (Nat.zero_le _))
      have HRA := hid (HRA.out.below hb3)
      have HF := hid (HF.out.trans (FrC.of_below hb3))
      have HR := hid (HR.out.below hb3)
      have x0 := HR.out.cell 0 (by decide)
      have x1 := HR.out.cell 1 (by decide)
      have x2 := HR.out.cell 2 (by decide)
      have z0 := HR.out.free 0
      have z1 := HR.out.free 1
      have z2 := HR.out.free 2
      have hlt := HR.out.lt
      clear hpv hb3
      go_wp2
      refine bodyPost_ret (v := .tuple #[.agg #[.string lb, .string op, .slice va ws.length vc], .int .i64 0]) (by simp [results, Tryz.results202, go_sem, x0, x1, x2]) rfl ?_
      rw [hov, HRP.out, if_neg (by simp)]
      refine ⟨fun _ => ⟨lb, op, va, vc, ws, rfl, ?_, ?_, ?_⟩, fun h => absurd rfl h⟩
      · exact ((HPV.out.set HR.out (by decide) _).set (HR.out.set 0 _) (by decide) _).set ((HR.out.set 0 _).set 1 _) (by decide) _
      · exact ((HRA.out.off HR.out (by decide) (by decide) (by decide) _).off (HR.out.set 0 _) (by decide) (by decide) (by decide) _).off ((HR.out.set 0 _).set 1 _) (by decide) (by decide) (by decide) _
      · exact ((HF.out.setNew (Nat.le_refl _) _).setNew (Nat.le_refl _) _).setNew (Nat.le_refl _) _
    · have ke : (er != 0) = true := by simpa using her
      have x0 := HR.out.cell 0 (by decide)
      have x1 := HR.out.cell 1 (by decide)
      have x2 := HR.out.cell 2 (by decide)
      have z0 := HR.out.free 0
      have z1 := HR.out.free 1
      have z2 := HR.out.free 2
      have hlt := HR.out.lt
      go_wp2
      refine bodyPost_ret (v := .tuple #[.agg noParts.toArray, .int .i64 er]) (by simp [results, Tryz.results202, go_sem, x0, x1, x2, noParts]) rfl ?_
      rw [hov, HRP.out, if_pos her]
      exact ⟨fun h => absurd h her, fun _ => ⟨rfl, ((HF.out.setNew (Nat.le_refl _) _).setNew (Nat.le_refl _) _).setNew (Nat.le_refl _) _⟩⟩

theorem op_is {op : ByteArray} {l : List UInt8} (h : L op = l) : (op.toList == l) = true := by
  rw [ByteArray.toList_eq]; unfold L at h; rw [h]; simp
theorem op_not {op : ByteArray} {l : List UInt8} (h : ¬ L op = l) : (op.toList == l) = false := by
  rw [ByteArray.toList_eq, beq_eq_false_iff_ne]; exact h
theorem operandsOf_bd (l : List UInt8) : (operandsOf l).length ≤ l.length + 1 ∧ ∀ x ∈ operandsOf l, x.length ≤ l.length := by
  unfold operandsOf
  have h := noBlank_le l
  split
  · exact ⟨by simp, by simp⟩
  · refine ⟨Nat.le_trans (splitB_len _ _) (by omega), fun x hx => Nat.le_trans (splitB_each _ _ x hx) h⟩
theorem wordsP_bd (l : List UInt8) : (wordsP l).label.length ≤ l.length ∧ (wordsP l).op.length ≤ l.length ∧ (wordsP l).operands.length ≤ l.length + 1 ∧ ∀ x ∈ (wordsP l).operands, x.length ≤ l.length := by
  have h1 := wordOf_le l
  have h2 := restOf_le l
  have h3 := wordOf_le (restOf l)
  have h4 := restOf_le (restOf l)
  unfold wordsP
  split
  · have h5 := operandsOf_bd (restOf (restOf l))
    exact ⟨by simp; omega, by simp; omega, by simp; omega, fun x hx => Nat.le_trans (h5.2 x hx) (by omega)⟩
  · have h5 := operandsOf_bd (restOf l)
    exact ⟨by simp, by simp; omega, by simp; omega, fun x hx => Nat.le_trans (h5.2 x hx) (by omega)⟩
theorem PartsV.bd {w : World} {C : Nat} {lb op : ByteArray} {v : Value} {os : List ByteArray} {l : List UInt8} (h : PartsV w C lb op v os (wordsP l)) : lb.size ≤ l.length ∧ op.size ≤ l.length ∧ os.length ≤ l.length + 1 ∧ ∀ k (hk : k < os.length), os[k].size ≤ l.length := by
  obtain ⟨h1, h2, h3, h4⟩ := wordsP_bd l
  refine ⟨by rw [size_L, h.label]; exact h1, by rw [size_L, h.op]; exact h2, ?_, fun k hk => ?_⟩
  · have := congrArg List.length h.ops; rw [List.length_map] at this; omega
  · rw [size_L]; exact h4 _ (by rw [← h.ops]; exact List.mem_map.2 ⟨_, List.getElem_mem hk, rfl⟩)
theorem own_strV {w : World} {C : Nat} {v : Value} {bs : List ByteArray} (h : w.ownsRow C 9 1 v bs.length (bs.map Value.string)) : StrV w C v bs := by
  rcases h.2 with ⟨rfl, h0⟩ | ⟨g, cap, cur, rfl, hg, hh, hc, _, _, htk⟩
  · exact Or.inl ⟨rfl, List.eq_nil_of_length_eq_zero h0⟩
  · refine Or.inr ⟨g, 0, cap, cur, rfl, hg, hh, hc, fun i hi => ?_⟩
    have h1 : (bs.map Value.string)[i]? = some (.string bs[i]) := by rw [List.getElem?_map, List.getElem?_eq_getElem hi]; rfl
    rw [← htk, Nat.mul_one, List.getElem?_take, if_pos hi] at h1
    rw [Nat.zero_add]
    simpa using h1

theorem infoString' : (Tryz.prog.info? 9).map (fun i => (i.zero, i.size, i.bytes)) = some (some (.string ⟨#[]⟩), 1, 16) := by kernel_rfl

theorem FrE.grownNew {E : TypeId → Bool} {B : Nat} {M : List Nat} {a w w' : World} {row : Option Nat} (h : FrE E B M a w) (hg : w.grownBy w' row) (hr : ∀ g, row = some g → a.heap.size ≤ g) : FrE E B M a w' :=
  ⟨hg.os.trans h.os, hg.tape.trans h.tape, hg.output.trans h.output, Nat.le_trans h.size hg.size, fun k o ho hk => by
    have hlt : k < a.heap.size := (Array.getElem?_eq_some_iff.1 ho).1
    have h1 := h.block k o ho hk
    rw [hg.block k (Array.getElem?_eq_some_iff.1 h1).1 (fun e => by have := hr k e.symm; omega)]; exact h1⟩
theorem CondAt.grownS {w w' : World} {B t bm : Nat} {v : Value} {rest : List Value} {opens : List OpenP} (h : CondAt w B t bm v rest opens) {C n size : Nat} {u : Value} {xs : List Value} {e : Nat} (hu : w.ownsRow C e size u n xs) (hg : w.grownBy w' u.ownBlock) (ht : e ≠ t) (hc : 257 ≠ e) : CondAt w' B t bm v rest opens :=
  ⟨RowT.grown' h.row hg (Ne.symm (own_row_ne hu h.row ht)), h.own.kept hg (by
    cases hv : v.ownBlock with
    | none => exact Or.inl rfl
    | some g =>
      right
      intro e1
      exact own_own_ne h.own hu hc (g := g) (by rw [← e1]) hv), h.few⟩

/-- What takeBody answers. -/
def BodyPost (B t bm : Nat) (v lv : Value) (ls : List ByteArray) (k : Nat) (rest : List Value) (opens : List OpenP) (r : Int × List (List UInt8) × Nat) (w : World) (e : Ending) (w' : World) : Prop :=
  ∃ bv, e = .returned (.tuple #[bv, .int .i64 r.1]) ∧ ReadAt w' B t bm v lv ls (k + r.2.2) rest opens ∧ FrC B [bm] w w' ∧ (∃ ba bn bc, bv = .slice ba bn bc) ∧ (r.1 = 0 → ∃ bs, bs.map L = r.2.1 ∧ StrV w' w.heap.size bv bs)

theorem bodyP_at (d : List (List UInt8)) (ls : List ByteArray) (k : Nat) (h : k < ls.length) : bodyP d ((ls.drop k).map L) =
    if (wordsP (cutL (L ls[k]))).op = opMacro then (2, d, 1)
    else if (wordsP (cutL (L ls[k]))).op = opEnd then (if bareW (wordsP (cutL (L ls[k]))) then 0 else 4, d, 1)
    else ((bodyP (d ++ [cutL (L ls[k])]) ((ls.drop (k + 1)).map L)).1, (bodyP (d ++ [cutL (L ls[k])]) ((ls.drop (k + 1)).map L)).2.1, (bodyP (d ++ [cutL (L ls[k])]) ((ls.drop (k + 1)).map L)).2.2 + 1) := by
  rw [List.drop_eq_getElem_cons h, List.map_cons]; rfl

set_option maxRecDepth 100000 in
set_option maxHeartbeats 1600000 in
theorem takeBody_any (w : World) (B t bm : Nat) (v lv : Value) (ls : List ByteArray) (k : Nat) (rest : List Value) (opens : List OpenP) (h : ReadAt w B t bm v lv ls k rest opens) (htc : 257 ≠ t) (hts : t ≠ 9) (ht : rT t = true) (hbm : B ≤ bm) (hsz : ∀ j (h : j < ls.length), ls[j].size ≤ 100) (hm : MaxAt w) (hB : 0 < B) (r : Int × List (List UInt8) × Nat) (hr : bodyP [] ((ls.drop k).map L) = r) :
    Calls Tryz.prog 142 #[.pointer (some ⟨bm, 0, none⟩)] w (BodyPost B t bm v lv ls k rest opens r w) := by
  obtain ⟨i0, hi0, hz0, hz1, hz2⟩ := info_parts infoString'
  have hfew := h.few
  have HH := hid h
  have HSZ := hid hsz
  have HM := hid hm
  have HR := hid hr
  clear h hsz hm hr
  go_enter Tryz.func142, Tryz.ntmps142
  go_wp2_with fail
  go_loopg [4] (ls.length - k + 1) (fun q x wr => ∃ (bs : List ByteArray) (bv : Value), q + bs.length = ls.length - k + 1 ∧ x = bv ∧ wr.ownsRow w.heap.size 9 1 bv bs.length (bs.map Value.string) ∧ ReadAt wr B t bm v lv ls (k + bs.length) rest opens ∧ FrC B [bm] w wr ∧ r = ((bodyP (bs.map L) ((ls.drop (k + bs.length)).map L)).1, (bodyP (bs.map L) ((ls.drop (k + bs.length)).map L)).2.1, (bodyP (bs.map L) ((ls.drop (k + bs.length)).map L)).2.2 + bs.length))
  case atStart => exact ⟨[], .slice none 0 0, by simp, rfl, World.ownsRow_nil _ _ _ _, HH.out, FrC.refl _ _ _, HR.out.symm⟩
  case round =>
    obtain ⟨bs, bv, hq, rfl, hown, hra, hfr, hrr⟩ := hrel
    have HOWN := hid hown
    have HRA := hid hra
    have HFR := hid hfr
    have HRR := hid hrr
    have HMr := hid (HM.out.fr hfr hB)
    obtain ⟨ba, bc, hbv⟩ := (own_strV hown).form
    subst hbv
    clear hown hra hfr hrr
    go_wp2_with fail
    refine (more_any _ B t bm v lv ls (k + bs.length) rest opens HRA.out).mono ?_
    by_cases hlt : k + bs.length < ls.length
    · rw [decide_eq_true hlt]
      rintro e w1 ⟨rfl, hb1⟩
      have HRA := hid (HRA.out.below hb1)
      have HFR := hid (HFR.out.trans (FrC.of_below hb1))
      have HMr := hid (HMr.out.below hb1)
      have HOWN := hid (ownsRow_belowP HOWN.out hb1)
      clear hb1
      go_wp2_with fail
      refine (take_any _ B t bm v lv ls (k + bs.length) rest opens HRA.out hlt htc hts ht hbm).mono ?_
      rintro e w2 ⟨rfl, hra, hfr⟩
      have HRA := hid hra
      have HFR := hid (HFR.out.trans hfr)
      have HMr := hid (HMr.out.fr hfr hB)
      have HOWN := hid (ownsRow_fr HOWN.out hfr rfl (fun h => by cases h))
      have hls := HSZ.out (k + bs.length) hlt
      clear hra hfr
      have hrr := HRR.out
      rw [bodyP_at _ _ _ hlt] at hrr
      obtain ⟨x, hx⟩ : ∃ x, ls[k + bs.length] = x := ⟨_, rfl⟩
      rw [hx] at hls hrr
      have HX := hid hx
      rw [hx]
      have HRRX := hid hrr
      clear hx hrr
      go_wp2_with fail
      refine (Read_any x _ (by omega) HMr.out).mono ?_
      rintro e w3 ⟨lb, op, v2, ws, rfl, hpv, hb3⟩
      obtain ⟨va, vc, hv⟩ := hpv.at_.form
      subst hv
      have hwl : ws.length ≤ 1000 := by
        have h5 := hpv.bd.2.2.1
        have := cutL_le (L x)
        rw [L_length] at this
        omega
      have HPV := hid hpv
      have HRA := hid (HRA.out.below hb3)
      have HFR := hid (HFR.out.trans (FrC.of_below hb3))
      have HMr := hid (HMr.out.below hb3)
      have HOWN := hid (ownsRow_belowP HOWN.out hb3)
      clear hpv hb3
      have hra4 := HRA.out.below ((Below.refl w3.heap.size w3).alloc (Nat.le_refl _) (.cells #[.string lb, .string op, .slice va ws.length vc] 101))
      have HRA4 := hid hra4
      have HFR4 := hid (HFR.out.alloc (.cells #[.string lb, .string op, .slice va ws.length vc] 101))
      have HMr4 := hid (HMr.out.below ((Below.refl w3.heap.size w3).alloc (Nat.le_refl _) (.cells #[.string lb, .string op, .slice va ws.length vc] 101)))
      have HOWN4 := hid (HOWN.out.alloc (.cells #[.string lb, .string op, .slice va ws.length vc] 101))
      clear hra4
      have hrr := HRRX.out
      by_cases h1 : (wordsP (cutL (L x))).op = opMacro
      · rw [if_pos h1] at hrr
        subst hrr
        have ko : (op.toList == [46, 109, 97, 99, 114, 111]) = true := op_is (by rw [HPV.out.op, h1]; rfl)
        clear h1
        go_wp2_with fail
        go_ret2
        refine ⟨_, rfl, ?_, HFR4.out, ⟨_, _, _, rfl⟩, fun h => by cases h⟩
        have := HRA4.out
        rw [show k + bs.length + 1 = k + (1 + bs.length) from by omega] at this
        exact this
      · rw [if_neg h1] at hrr
        have ko : (op.toList == [46, 109, 97, 99, 114, 111]) = false := op_not (by rw [HPV.out.op]; exact h1)
        clear h1
        by_cases h2 : (wordsP (cutL (L x))).op = opEnd
        · rw [if_pos h2] at hrr
          have ko2 : (op.toList == [46, 101, 110, 100]) = true := op_is (by rw [HPV.out.op, h2]; rfl)
          have HBW := hid HPV.out.bare
          clear h2
          cases hbw : bareW (wordsP (cutL (L x))) with
          | true =>
            rw [hbw, if_pos rfl] at hrr
            subst hrr
            have HB2 := hid (HBW.out.symm.trans hbw)
            clear hbw
            go_wp2_with (first | (go_at_call 165; refine (needBare_any lb op va ws.length vc _ true (by unfold maxLen; omega) HB2.out).mono ?_; rintro e w4 ⟨rfl, hb4⟩))
            go_ret2
            refine ⟨_, rfl, ?_, HFR4.out.trans (FrC.of_below hb4), ⟨_, _, _, rfl⟩, fun _ => ⟨bs, rfl, own_strV (ownsRow_belowP HOWN4.out hb4)⟩⟩
            have := HRA4.out.below hb4
            rw [show k + bs.length + 1 = k + (1 + bs.length) from by omega] at this
            exact this
          | false =>
            rw [hbw, if_neg (by simp)] at hrr
            subst hrr
            have HB2 := hid (HBW.out.symm.trans hbw)
            clear hbw
            go_wp2_with (first | (go_at_call 165; refine (needBare_any lb op va ws.length vc _ false (by unfold maxLen; omega) HB2.out).mono ?_; rintro e w4 ⟨rfl, hb4⟩))
            go_ret2
            refine ⟨_, rfl, ?_, HFR4.out.trans (FrC.of_below hb4), ⟨_, _, _, rfl⟩, fun h => by cases h⟩
            have := HRA4.out.below hb4
            rw [show k + bs.length + 1 = k + (1 + bs.length) from by omega] at this
            exact this
        · rw [if_neg h2] at hrr
          have ko2 : (op.toList == [46, 101, 110, 100]) = false := op_not (by rw [HPV.out.op]; exact h2)
          have HRN := hid hrr
          clear h2 hrr
          go_wp2_with fail
          refine (WithoutRemark_any x _ (by omega) HMr4.out).mono ?_
          rintro e w5 ⟨tt, htt, rfl, hb5⟩
          have HTT := hid htt
          have HRA5 := hid (HRA4.out.below hb5)
          have HFR5 := hid (HFR4.out.trans (FrC.of_below hb5))
          have HOWN5 := hid (ownsRow_belowP HOWN4.out hb5)
          have hsz5 : w.heap.size ≤ w5.heap.size := HFR5.out.size
          clear hb5 htt
          go_wp2_with ((at_builtin; refine wpList_append_lies _ rfl (.tmp 22) (.tmp 25) 65 rfl w.heap.size 9 i0 _ 1 16 Tryz.underlying65 hi0 hz0 hz1 hz2 rfl (by omega) (.slice ba bs.length bc) bs.length (bs.map Value.string) rfl (HOWN5.out.alloc _) ⟨w5.heap.size, 0, none⟩ 1 1 [.string tt] rfl rfl (World.news_of_block (cs := #[.string tt]) (t := 9) (fr := (0, 0)) (heap_alloc_new _ _)) (by simp [Value.oneCell']) (by omega) (by unfold maxLen; omega) (by omega) (by simp; omega) _ rfl ?_; intro gg cap' w6 hown6 hgrow hat hlt6))
          have HFR6 := hid ((HFR5.out.alloc _).grownNew hgrow (fun g hg => (HOWN5.out.lt g hg).1))
          have hra6 : ReadAt w6 B t bm v lv ls (k + bs.length + 1) rest opens := ⟨(HRA5.out.cond.alloc _).grownS (HOWN5.out.alloc _) hgrow (Ne.symm hts) (by decide), HH.out.strs.frc HFR6.out, HRA5.out.le, HRA5.out.few⟩
          have HRA6 := hid hra6
          have HOWN6 := hid hown6
          clear hown6 hgrow hat hra6
          go_wp2
          go_roundg (gk - 1)
          case measure => omega
          case rel =>
            refine ⟨bs ++ [tt], .slice (some ⟨gg, 0, none⟩) (bs.length + 1) cap', by rw [List.length_append]; simp; omega, rfl, ?_, ?_, HFR6.out, ?_⟩
            · have := HOWN6.out
              rw [List.map_append, List.length_append]
              exact this
            · rw [List.length_append]
              exact HRA6.out
            · rw [List.map_append, List.length_append, HRN.out]
              simp only [List.map_cons, List.map_nil, HTT.out, List.length_cons, List.length_nil]
              rw [show k + (bs.length + (0 + 1)) = k + bs.length + 1 from by omega, show bs.length + (0 + 1) = 1 + bs.length from by omega]
              simp only [Nat.add_assoc]
    · rw [decide_eq_false hlt]
      have hrr := HRR.out
      rw [List.drop_eq_nil_of_le (by omega)] at hrr
      have hrr' : r = (2, bs.map L, 0 + bs.length) := hrr
      subst hrr'
      clear hrr
      rintro e w1 ⟨rfl, hb1⟩
      go_wp2
      go_ret2
      refine ⟨_, rfl, ?_, HFR.out.trans (FrC.of_below hb1), ⟨_, _, _, rfl⟩, fun h => by cases h⟩
      have := HRA.out.below hb1
      rw [← Nat.zero_add bs.length] at this
      exact this

end Go.Proofs.YtcepppilgncdmaaGreatDoor
