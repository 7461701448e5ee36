/-
  What the program's readers (package expand) answer: of a text's lines as they stand, of a macro's lines with operands in the place of parameters.
-/
import Derived.Test.YtcepppilgncdmaaGreatDoorPCond
namespace Go.Proofs.YtcepppilgncdmaaGreatDoor
open Go.RowKit
attribute [local go_sem ↓] Go.wp_at_zero Go.wp_at_succ

/-- A reader: its conditions, its lines, how many were taken. -/
structure ReadAt (w : World) (B t bm : Nat) (v lv : Value) (ls : List ByteArray) (k : Nat) (rest : List Value) (opens : List OpenP) : Prop where
  cond : CondAt w B t bm v (lv :: .int .i64 (k : Nat) :: rest) opens
  strs : StrV w 0 lv ls
  le : k ≤ ls.length
  few : ls.length ≤ 3001
theorem ReadAt.below {w w' : World} {B t bm : Nat} {v lv : Value} {ls : List ByteArray} {k : Nat} {rest : List Value} {opens : List OpenP} (h : ReadAt w B t bm v lv ls k rest opens) (hb : Below w.heap.size w w') : ReadAt w' B t bm v lv ls k rest opens :=
  ⟨h.cond.below hb, h.strs.below hb, h.le, h.few⟩

set_option maxHeartbeats 400000 in
theorem more_any (w : World) (B t bm : Nat) (v lv : Value) (ls : List ByteArray) (k : Nat) (rest : List Value) (opens : List OpenP) (h : ReadAt w B t bm v lv ls k rest opens) :
    Calls Tryz.prog 163 #[.pointer (some ⟨bm, 0, none⟩)] w fun e w' => e = .returned (.bool (decide (k < ls.length))) ∧ Below w.heap.size w w' := by
  obtain ⟨a, cap, hv⟩ := h.strs.form
  subst hv
  have c1 := h.cond.row.cell 1 (by simp)
  have c2 := h.cond.row.cell 2 (by simp)
  have hf := h.few
  have hl := h.le
  have e1 : decide ((k : Int) < (ls.length : Int)) = decide (k < ls.length) := by rw [decide_eq_decide]; omega
  have HE := hid e1
  clear h e1
  go_enter Tryz.func163, Tryz.ntmps163
  go_wp2
  go_quiet (fail)
  go_wp2
  go_ret
  exact ⟨ret_bool (by rw [decide_eq_decide]), below_drewN (Below.refl _ _) _⟩

theorem rowT_ne {w : World} {t g : Nat} {xs : List Value} (h : RowT w t g xs) {k : Nat} {cur : Array Value} {e : Nat} {fz : Nat × Nat} (hk : w.heap[k]? = some (.cells cur e fz)) (ht : t ≠ e) : k ≠ g := by
  rintro rfl
  unfold RowT at h
  rw [h] at hk
  injection hk with hk
  injection hk with _ hk
  exact ht hk

/-- One more line is taken. -/
theorem ReadAt.took {w : World} {B t bm : Nat} {v lv : Value} {ls : List ByteArray} {k : Nat} {rest : List Value} {opens : List OpenP} (h : ReadAt w B t bm v lv ls k rest opens) (hk : k < ls.length) (htc : 257 ≠ t) (hts : t ≠ 9) :
    ReadAt (w.setCell ⟨bm, 2, none⟩ (.int .i64 ((k + 1 : Nat) : Int))) B t bm v lv ls (k + 1) rest opens :=
  ⟨⟨h.cond.row.set 2 _, ownsRow_setCell_other h.cond.own (a := ⟨bm, 2, none⟩) (own_row_ne h.cond.own h.cond.row htc) _, h.cond.few⟩, h.strs.set bm 2 _ (RowT.notStr h.cond.row hts), hk, h.few⟩

set_option maxHeartbeats 400000 in
theorem take_any (w : World) (B t bm : Nat) (v lv : Value) (ls : List ByteArray) (k : Nat) (rest : List Value) (opens : List OpenP) (h : ReadAt w B t bm v lv ls k rest opens) (hk : k < ls.length) (htc : 257 ≠ t) (hts : t ≠ 9) (ht : rT t = true) (hbm : B ≤ bm) :
    Calls Tryz.prog 164 #[.pointer (some ⟨bm, 0, none⟩)] w fun e w' => e = .returned (.string ls[k]) ∧ ReadAt w' B t bm v lv ls (k + 1) rest opens ∧ FrC B [bm] w w' := by
  obtain ⟨b, off, cap, hv, hbl, ck⟩ := h.strs.cell k hk
  subst hv
  have c1 := h.cond.row.cell 1 (by simp)
  have c2 := h.cond.row.cell 2 (by simp)
  have f2 := h.cond.row.free 2
  have hf := h.few
  have HH := hid h
  have kd : decide ((k : Int) < (ls.length : Int)) = true := by simp; omega
  clear h
  go_enter Tryz.func164, Tryz.ntmps164
  go_wp2
  go_quiet (fail)
  have HN := hid (show ReadAt (w.drewN nq) B t bm v _ ls k rest opens from HH.out.below (below_drewN (Below.refl _ _) _))
  have HF := hid (show FrC B [bm] w (w.drewN nq) from (FrC.refl _ _ _).drewN nq)
  have c2 : (w.drewN nq).cell? ⟨bm, 2, none⟩ = some (.int .i64 (k : Nat)) := c2
  have f2 : (w.drewN nq).frozen? ⟨bm, 2, none⟩ = false := f2
  generalize w.drewN nq = w1 at HN HF c2 f2 ⊢
  go_wp2
  go_ret
  refine ⟨rfl, HN.out.took hk htc hts, HF.out.setCell (p := ⟨bm, 2, none⟩) (HN.out.cond.row.may hbm (Or.inr ⟨ht, by simp⟩)) _⟩

theorem FrE.setNew {E : TypeId → Bool} {B : Nat} {M : List Nat} {a w : World} (h : FrE E B M a w) {p : Addr} (hp : a.heap.size ≤ p.block) (u : Value) : FrE E B M a (w.setCell p u) :=
  ⟨h.os, h.tape, h.output, by simpa using h.size, fun k o ho hk => by
    have hlt : k < a.heap.size := (Array.getElem?_eq_some_iff.1 ho).1
    rw [heap_setCell_other w p k u (by omega)]; exact h.block k o ho hk⟩
/-- A store into a row of another type. -/
theorem ReadAt.off {w : World} {B t bm : Nat} {v lv : Value} {ls : List ByteArray} {k : Nat} {rest : List Value} {opens : List OpenP} (h : ReadAt w B t bm v lv ls k rest opens) {e b j : Nat} {xs : List Value} (hr : RowT w e b xs) (ht : t ≠ e) (he : e ≠ 257) (hs : e ≠ 9) (u : Value) :
    ReadAt (w.setCell ⟨b, j, none⟩ u) B t bm v lv ls k rest opens :=
  ⟨⟨h.cond.row.other b j (fun x => by subst x; exact (rowT_ne h.cond.row hr ht) rfl) u, ownsRow_setCell_other h.cond.own (a := ⟨b, j, none⟩) (own_row_ne h.cond.own hr (Ne.symm he)) _, h.cond.few⟩, h.strs.set b j _ (RowT.notStr hr hs), h.le, h.few⟩
theorem ReadAt.fr {w w' : World} {B t bm : Nat} {v lv : Value} {ls : List ByteArray} {k : Nat} {rest : List Value} {opens : List OpenP} (h : ReadAt w B t bm v lv ls k rest opens) {E : TypeId → Bool} {M : List Nat} (hf : FrE E B M w w') (ht : E t = false) (hc : E 257 = false) (hs : E 9 = false) (hm : bm ∉ M) (hv : ∀ g, v.ownBlock = some g → g ∉ M) : ReadAt w' B t bm v lv ls k rest opens :=
  ⟨⟨h.cond.row.fr hf ht (fun _ => hm), ownsRow_fr h.cond.own hf hc (fun _ => hv), h.cond.few⟩, h.strs.frE hf hs, h.le, h.few⟩
theorem PartsV.fr {B C : Nat} {M : List Nat} {w w' : World} {lb op : ByteArray} {v : Value} {os : List ByteArray} {W : WordsP} (h : PartsV w C lb op v os W) (hf : Fr B M w w') : PartsV w' C lb op v os W := ⟨h.label, h.op, h.ops, h.at_.fr hf⟩
theorem PartsV.set {C : Nat} {w : World} {lb op : ByteArray} {v : Value} {os : List ByteArray} {W : WordsP} (h : PartsV w C lb op v os W) {e b j : Nat} {xs : List Value} (hr : RowT w e b xs) (hs : e ≠ 9) (u : Value) : PartsV (w.setCell ⟨b, j, none⟩ u) C lb op v os W := ⟨h.label, h.op, h.ops, h.at_.set b j u (RowT.notStr hr hs)⟩
theorem PartsV.mono {C D : Nat} {w : World} {lb op : ByteArray} {v : Value} {os : List ByteArray} {W : WordsP} (h : PartsV w C lb op v os W) (hc : D ≤ C) : PartsV w D lb op v os W := ⟨h.label, h.op, h.ops, h.at_.mono hc⟩

/-- What a reader's read answers, where it is no error. -/
def ReadPost (B t bm : Nat) (v lv : Value) (ls : List ByteArray) (k : Nat) (rest : List Value) (opens : List OpenP) (W : WordsP) (w : World) (e : Ending) (w' : World) : Prop :=
  ∃ lb op va vc os, e = .returned (.tuple #[.agg #[.string lb, .string op, .slice va (List.length os) vc], .int .i64 0]) ∧ PartsV w' 0 lb op (.slice va os.length vc) os W ∧ ReadAt w' B t bm v lv ls k rest opens ∧ FrC B [bm] w w'

set_option maxRecDepth 100000 in
set_option maxHeartbeats 800000 in
theorem lread_any (w : World) (B t bm : Nat) (v lv : Value) (ls : List ByteArray) (k : Nat) (rest : List Value) (opens : List OpenP) (h : ReadAt w B t bm v lv ls k rest opens) (hk : k < ls.length) (htc : 257 ≠ t) (hts : t ≠ 9) (htp : t ≠ 101) (ht : rT t = true) (hbm : B ≤ bm) (hsz : ls[k].size ≤ 100000) (hm : MaxAt w) (hB : 0 < B) :
    Calls Tryz.prog 199 #[.pointer (some ⟨bm, 0, none⟩)] w (ReadPost B t bm v lv ls (k + 1) rest opens (wordsP (cutL (L ls[k]))) w) := by
  have HH := hid (h.below ((Below.refl w.heap.size w).alloc (Nat.le_refl _) (.cells noParts.toArray 101)))
  have HF := hid (show FrC B [bm] w (w.alloc (.cells noParts.toArray 101)) from (FrC.refl _ _ _).alloc _)
  have HR := hid (RowT.new w 101 noParts)
  have HM := hid (show MaxAt (w.alloc (.cells noParts.toArray 101)) from hm.below ((Below.refl _ _).alloc (Nat.le_refl _) _))
  clear h hm
  go_enter Tryz.func199, Tryz.ntmps199
  go_wp2_with fail
  refine (take_any _ B t bm v lv ls k rest opens HH.out hk htc hts ht hbm).mono ?_
  rintro e w1 ⟨rfl, hr1, hf1⟩
  have HF := hid (HF.out.trans hf1)
  have HR := hid (HR.out.fr hf1 rfl (fun h => by cases h))
  have HM := hid (HM.out.fr hf1 hB)
  have HH := hid hr1
  clear hr1 hf1
  go_wp2_with fail
  refine (Read_any ls[k] _ hsz HM.out).mono ?_
  rintro e w2 ⟨lb, op, v2, os, rfl, hpv, hb2⟩
  obtain ⟨va, vc, hv⟩ := hpv.at_.form
  subst hv
  have HPV := hid (hpv.mono (Nat.zero_le _))
  have HH := hid (HH.out.below hb2)
  have HF := hid (HF.out.trans (FrC.of_below hb2))
  have HR := hid (HR.out.below hb2)
  have x0 := HR.out.cell 0 (by decide)
  have x1 := HR.out.cell 1 (by decide)
  have x2 := HR.out.cell 2 (by decide)
  have z0 := HR.out.free 0
  have z1 := HR.out.free 1
  have z2 := HR.out.free 2
  have hlt := HR.out.lt
  clear hpv hb2
  go_wp2
  refine bodyPost_ret (v := .tuple #[.agg #[.string lb, .string op, .slice va os.length vc], .int .i64 0]) (by simp [results, Tryz.results199, go_sem, x0, x1, x2]) rfl ⟨lb, op, va, vc, os, rfl, ?_, ?_, ?_⟩
  · exact ((HPV.out.set HR.out (by decide) _).set (HR.out.set 0 _) (by decide) _).set ((HR.out.set 0 _).set 1 _) (by decide) _
  · exact ((HH.out.off HR.out htp (by decide) (by decide) _).off (HR.out.set 0 _) htp (by decide) (by decide) _).off ((HR.out.set 0 _).set 1 _) htp (by decide) (by decide) _
  · exact ((HF.out.setNew (Nat.le_refl _) _).setNew (Nat.le_refl _) _).setNew (Nat.le_refl _) _

end Go.Proofs.YtcepppilgncdmaaGreatDoor
