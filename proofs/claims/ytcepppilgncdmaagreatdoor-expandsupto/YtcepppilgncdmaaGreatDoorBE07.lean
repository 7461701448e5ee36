/-
  What the program's functions of one line (package lines) answer, said by the plain functions; the variable MaxLen of the library holds some number.
  Plain facts on lines as they are left; nothing of the program stands here.
  The plain functions by which macros, conditions and what Expand answers are said; nothing of the program stands here.
-/
import Derived.Test.YtcepppilgncdmaaGreatDoorBE05
import Derived.Test.YtcepppilgncdmaaGreatDoorBE06
import Derived.Test.YtcepppilgncdmaaGreatDoorBE01
import Derived.OwnWalk
import Derived.Deep.QuietTactic
import Derived.BigQuiet
import Derived.Deep.CutBlock
import Derived.Deep.DeepCutAuto
import Derived.Deep.LoopGhost
namespace Go.Proofs.YtcepppilgncdmaaGreatDoor
open Go.RowKit

def MaxAt (w : World) : Prop := ∃ m, w.cell? ⟨0, 0, none⟩ = some (.int .i64 m)
theorem MaxAt.below {w w' : World} (h : MaxAt w) (hb : Below w.heap.size w w') : MaxAt w' := by
  obtain ⟨m, hm⟩ := h
  exact ⟨m, (hb.cell (p := ⟨0, 0, none⟩) (World.block_lt_of_cell? _ _ hm)).trans hm⟩
theorem MaxAt.set {w : World} (h : MaxAt w) {p : Addr} {u : Value} (hp : w.cell? p = some u) (hu : ∀ m, u ≠ .int .i64 m) (v : Value) : MaxAt (w.setCell p v) := by
  obtain ⟨m, hm⟩ := h
  refine ⟨m, (World.cell?_setCell_other _ _ _ _ ?_).trans hm⟩
  rintro rfl
  rw [hm] at hp
  exact hu m (Option.some.inj hp).symm
theorem below_on {B : Nat} {w w0 w1 : World} (h : Below B w w0) (hB : B ≤ w.heap.size) (h1 : Below w0.heap.size w0 w1) : Below B w w1 := h.trans (h1.mono (Nat.le_trans hB h.size))
theorem L_mk (l : List UInt8) : L ⟨l.toArray⟩ = l := rfl
theorem size_L (s : ByteArray) : s.size = (L s).length := (L_length s).symm

theorem wordOf_le (l : List UInt8) : (wordOf l).length ≤ l.length := by
  unfold wordOf; rw [List.length_take, List.length_drop]; omega
theorem restOf_le (l : List UInt8) : (restOf l).length ≤ l.length := by
  unfold restOf; rw [List.length_drop]; omega
theorem noBlank_le (l : List UInt8) : (noBlank l).length ≤ l.length := List.length_filter_le _ _

set_option maxHeartbeats 400000 in
theorem WithoutRemark_any (s : ByteArray) (w : World) (hs : s.size < 4294967281) (hm : MaxAt w) :
    Calls Tryz.prog 76 #[.string s] w fun e w' => ∃ t, L t = cutL (L s) ∧ e = .returned (.string t) ∧ Below w.heap.size w w' := by
  obtain ⟨m, hm⟩ := hm
  have HM := hid hm
  have HS := hid hs
  clear hm hs
  go_enter Tryz.func76, Tryz.ntmps76
  go_wp2_with (first | (go_at_call 116; refine (Tryz.strings_Cut s _ m _ HS.out HM.out).mono ?_; rintro e w' ⟨rfl, n, rfl⟩))
  go_ret
  exact ⟨_, by rw [L_mk]; exact cut_semi _, rfl, below_drewN (Below.refl _ _) _⟩

set_option maxHeartbeats 400000 in
theorem cutWord_any (s : ByteArray) (w : World) (hs : s.size < 4294967281) (hm : MaxAt w) :
    Calls Tryz.prog 75 #[.string s] w fun e w' => ∃ a r, L a = wordOf (L s) ∧ SameW (L r) (restOf (L s)) ∧ r.size ≤ s.size ∧ e = .returned (.tuple #[.string a, .string r]) ∧ Below w.heap.size w w' := by
  obtain ⟨m, hm⟩ := hm
  have HM := hid hm
  have hd : (⟨(Lib.trimLeftB s.data.toList 32).toArray⟩ : ByteArray).size ≤ s.size := by
    rw [size_L, L_mk, trim_blanks, List.length_drop]; show (L s).length - _ ≤ _; rw [L_length]; omega
  have HS := hid (show (⟨(Lib.trimLeftB s.data.toList 32).toArray⟩ : ByteArray).size < 4294967281 by omega)
  have HW := hid (cut_word (L s))
  have HL := hid (show (Lib.cut (Lib.trimLeftB s.data.toList 32) [32]).2.1.length ≤ s.size by
    rw [trim_blanks]
    rcases cut_one 32 (s.data.toList.drop (blanks s.data.toList)) with ⟨h1, _⟩ | ⟨p, r, h1, _, h3⟩
    · rw [h1]; simp
    · rw [h3]
      have := congrArg List.length h1
      rw [List.length_drop, List.length_append, List.length_cons] at this
      have h4 := L_length s
      unfold L at h4
      show r.length ≤ s.size
      omega)
  clear hm hs hd
  go_enter Tryz.func75, Tryz.ntmps75
  go_wp2_with (first | (go_at_call 117; refine (Tryz.strings_TrimLeft_one s 32 (by decide) _).mono ?_; rintro e w' ⟨rfl, rfl⟩) | (go_at_call 116; refine (Tryz.strings_Cut _ _ m _ HS.out HM.out).mono ?_; rintro e w' ⟨rfl, n, rfl⟩))
  go_ret2
  refine ⟨_, _, ?_, ?_, ?_, rfl, below_drewN (Below.refl _ _) _⟩
  · rw [L_mk, L_mk, trim_blanks]; exact HW.out.1
  · rw [L_mk, L_mk, trim_blanks]; exact HW.out.2
  · rw [size_L, L_mk]; exact HL.out

def noParts : List Value := [.string ⟨#[]⟩, .string ⟨#[]⟩, .slice none 0 0]

theorem split_row (w : World) (A : ByteArray) (c : UInt8) :
    StrV (w.alloc (.cells ((Lib.splitB ⟨#[c]⟩ 0 (Lib.countB A ⟨#[c]⟩) A).map Value.string).toArray 9)) w.heap.size (.slice (some ⟨w.heap.size, 0, none⟩) (Lib.countB A ⟨#[c]⟩ + 1) (Lib.countB A ⟨#[c]⟩ + 1)) (Lib.splitB ⟨#[c]⟩ 0 (Lib.countB A ⟨#[c]⟩) A) ∧
    (Lib.splitB ⟨#[c]⟩ 0 (Lib.countB A ⟨#[c]⟩) A).map L = splitB c.toNat (L A) := by
  have hl : (Lib.splitB ⟨#[c]⟩ 0 (Lib.countB A ⟨#[c]⟩) A).length = Lib.countB A ⟨#[c]⟩ + 1 := Lib.splitB_all ⟨#[c]⟩ (Nat.le_refl 1) 0 _ A rfl
  refine ⟨Or.inr ⟨w.heap.size, 0, Lib.countB A ⟨#[c]⟩ + 1, _, by rw [hl], Nat.le_refl _, heap_alloc_new w _, by omega, fun i hi => ?_⟩, ?_⟩
  · simp [hi]
  · have := Lib.splitB_data ⟨#[c]⟩ 0 (Lib.countB A ⟨#[c]⟩) A
    refine this.trans ?_
    exact splitK_one c _ (L A) (Nat.le_refl _)

theorem suffix_any (a : ByteArray) (w : World) (mk : Bool) (lb : ByteArray) (hs : a.size ≤ 100000) (h1 : Lib.hasSuffix (L a) [58] = mk) (h2 : L lb = Lib.trimSuffix (L a) [58]) :
    Calls Tryz.prog 77 #[.string a, .string ⟨#[58]⟩] w fun e w' => e = .returned (.tuple #[.string lb, .bool mk]) ∧ w' = w := by
  refine (Tryz.strings_CutSuffix a ⟨#[58]⟩ w (by omega)).mono ?_
  rintro e w' ⟨rfl, rfl⟩
  refine ⟨?_, rfl⟩
  have e1 : (⟨(Lib.trimSuffix a.data.toList (⟨#[58]⟩ : ByteArray).data.toList).toArray⟩ : ByteArray) = lb := L_inj h2.symm
  have e2 : Lib.hasSuffix a.data.toList (⟨#[58]⟩ : ByteArray).data.toList = mk := h1
  rw [e1, e2]
theorem replace_any (r : ByteArray) (w : World) (A : ByteArray) (hs : r.size ≤ 100000) (hm : MaxAt w) (h : L A = noBlank (L r)) :
    Calls Tryz.prog 79 #[.string r, .string ⟨#[32]⟩, .string ⟨#[]⟩] w fun e w' => e = .returned (.string A) ∧ Below w.heap.size w w' := by
  obtain ⟨m, hm⟩ := hm
  refine (Tryz.strings_ReplaceAll r ⟨#[32]⟩ ⟨#[]⟩ m w (by omega) hm (Nat.le_refl 1) (by show r.size + _ * 0 ≤ _; omega)).mono ?_
  rintro e w' ⟨rfl, hb⟩
  refine ⟨?_, hb⟩
  have e1 : (⟨(Lib.replaceAll r.data.toList (⟨#[32]⟩ : ByteArray).data.toList (⟨#[]⟩ : ByteArray).data.toList).toArray⟩ : ByteArray) = A := L_inj ((replaceAll_blanks (L r)).trans h.symm)
  rw [e1]
theorem split_any (A : ByteArray) (c : UInt8) (w : World) (hs : A.size ≤ 100000) (hm : MaxAt w) :
    Calls Tryz.prog 44 #[.string A, .string ⟨#[c]⟩] w fun e w' => ∃ v parts, e = .returned v ∧ StrV w' w.heap.size v parts ∧ parts.map L = splitB c.toNat (L A) ∧ Below w.heap.size w w' := by
  obtain ⟨m, hm⟩ := hm
  refine (Tryz.strings_Split A ⟨#[c]⟩ m w (by omega) hm (Nat.le_refl 1)).mono ?_
  rintro e w' ⟨rfl, rfl⟩
  exact ⟨_, _, rfl, (split_row w A c).1, (split_row w A c).2, (Below.refl _ _).alloc (Nat.le_refl _) _⟩

set_option maxHeartbeats 1600000 in
theorem Read_any (s : ByteArray) (w : World) (hs : s.size ≤ 100000) (hm : MaxAt w) :
    Calls Tryz.prog 48 #[.string s] w fun e w' => ∃ lb op v os, e = .returned (.agg #[.string lb, .string op, v]) ∧ PartsV w' w.heap.size lb op v os (wordsP (cutL (L s))) ∧ Below w.heap.size w w' := by
  obtain ⟨B, hB⟩ : ∃ B, w.heap.size = B := ⟨_, rfl⟩
  have HB := hid hB
  have HM := hid hm
  have HS := hid hs
  have HR0 := hid (show RowT ((w.alloc (.cells noParts.toArray 101)).alloc (.cells noParts.toArray 101)) 101 B noParts from (hB ▸ RowT.new w 101 noParts).alloc _)
  have HR1 := hid (show RowT ((w.alloc (.cells noParts.toArray 101)).alloc (.cells noParts.toArray 101)) 101 (B + 1) noParts from by
    have := RowT.new (w.alloc (.cells noParts.toArray 101)) 101 noParts
    rw [show (w.alloc (.cells noParts.toArray 101)).heap.size = B + 1 from by simp [hB]] at this
    exact this)
  have HB1 := hid (show Below B w ((w.alloc (.cells noParts.toArray 101)).alloc (.cells noParts.toArray 101)) from ((Below.refl B w).alloc (by omega) _).alloc (by simp; omega) _)
  have HM1 := hid (show MaxAt ((w.alloc (.cells noParts.toArray 101)).alloc (.cells noParts.toArray 101)) from hm.below (((Below.refl _ w).alloc (Nat.le_refl _) _).alloc (by simp) _))
  clear hm hs
  go_enter Tryz.func48, Tryz.ntmps48
  go_wp2_with fail
  refine (WithoutRemark_any s _ (by have := HS.out; omega) HM1.out).mono ?_
  rintro e w1 ⟨t, ht, rfl, hb1⟩
  have hts : t.size ≤ 100000 := by rw [size_L, ht]; have := cutL_le (L s); rw [L_length] at this; have := HS.out; omega
  have HT := hid ht
  have HR0 := hid (HR0.out.below hb1)
  have HR1 := hid (HR1.out.below hb1)
  have HB1 := hid (below_on HB1.out (Nat.le_of_eq hB.symm) hb1)
  have HM1 := hid (HM1.out.below hb1)
  clear hb1 ht
  go_wp2_with fail
  refine (cutWord_any t _ (by omega) HM1.out).mono ?_
  rintro e w2 ⟨a, r, ha, hr, hrs, rfl, hb2⟩
  have has : a.size ≤ 100000 := by rw [size_L, ha]; have := wordOf_le (L t); rw [L_length] at this; omega
  have HA := hid ha
  have HRR := hid hr
  have HR0 := hid (HR0.out.below hb2)
  have HR1 := hid (HR1.out.below hb2)
  have HB1 := hid (below_on HB1.out (Nat.le_of_eq hB.symm) hb2)
  have HM1 := hid (HM1.out.below hb2)
  clear hb2 ha hr HM HS
  obtain ⟨mk, hmk⟩ : ∃ mk, Lib.hasSuffix (L a) [58] = mk := ⟨_, rfl⟩
  obtain ⟨lb, hlb⟩ : ∃ lb, L lb = Lib.trimSuffix (L a) [58] := ⟨⟨(Lib.trimSuffix (L a) [58]).toArray⟩, rfl⟩
  have HMK := hid hmk
  have HLB := hid hlb
  clear hmk hlb
  have hex : lb.size ≤ maxLen := by
    rw [size_L, HLB.out]; unfold Lib.trimSuffix maxLen
    have := L_length a
    split
    · rw [List.length_take]; omega
    · omega
  have hrs' : r.size ≤ 100000 := by omega
  have hand := (label_suffix (L a)).1
  rw [HMK.out, ← HLB.out] at hand
  have hcs : (labelB (L a) = false ∧ mk = false) ∨ (labelB (L a) = false ∧ mk = true ∧ nameB (L lb) = false) ∨ (labelB (L a) = true ∧ mk = true ∧ nameB (L lb) = true) := by
    cases mk <;> cases hn : nameB (L lb) <;> simp_all
  clear hand
  have HLAB := hid (show labelB (wordOf (cutL (L s))) = labelB (L a) by rw [← HT.out, ← HA.out])
  have HF := hid (show labelB (L a) = false → L (⟨#[]⟩ : ByteArray) = (wordsP (cutL (L s))).label ∧ L a = (wordsP (cutL (L s))).op ∧ operandsOf (L r) = (wordsP (cutL (L s))).operands by
    intro hml
    unfold wordsP; rw [HLAB.out, hml, ← HT.out]
    refine ⟨rfl, HA.out, ?_⟩
    have := HRR.out.1
    unfold operandsOf
    rw [this]; rfl)
  have HG := hid (show labelB (L a) = true → L lb = (wordsP (cutL (L s))).label by
    intro hml
    unfold wordsP; rw [HLAB.out, hml, HLB.out, (label_suffix (L a)).2 hml, HA.out, HT.out]; rfl)
  rcases hcs with ⟨hml, rfl⟩ | ⟨hml, rfl, hn⟩ | ⟨hml, rfl, hn⟩
  obtain ⟨f1, f2, f3⟩ := HF.out hml
  have HF1 := hid f1
  have HF2 := hid f2
  have HF3 := hid f3
  clear f1 f2 f3 hml
  obtain ⟨lF, hlF⟩ : ∃ x, x = (⟨#[]⟩ : ByteArray) := ⟨_, rfl⟩
  rw [← hlF] at HF1
  have HR1 := hid (show RowT w2 101 (B + 1) [.string lF, .string ⟨#[]⟩, .slice none 0 0] by rw [hlF]; exact HR1.out)
  obtain ⟨opF, hoF⟩ : ∃ x, x = a := ⟨_, rfl⟩
  subst hoF
  obtain ⟨rF, hrF⟩ : ∃ x, x = r := ⟨_, rfl⟩
  subst hrF
  clear hlF
  go_upto_region 7 with (first | (go_at_call 77; refine (suffix_any opF _ false lb has HMK.out HLB.out).mono ?_; rintro e wF ⟨rfl, rfl⟩))
  rotate_left
  obtain ⟨f1, f2, f3⟩ := HF.out hml
  have HF1 := hid f1
  have HF2 := hid f2
  have HF3 := hid f3
  have HN := hid hn
  clear f1 f2 f3 hml hn
  obtain ⟨lF, hlF⟩ : ∃ x, x = (⟨#[]⟩ : ByteArray) := ⟨_, rfl⟩
  rw [← hlF] at HF1
  have HR1 := hid (show RowT w2 101 (B + 1) [.string lF, .string ⟨#[]⟩, .slice none 0 0] by rw [hlF]; exact HR1.out)
  obtain ⟨opF, hoF⟩ : ∃ x, x = a := ⟨_, rfl⟩
  subst hoF
  obtain ⟨rF, hrF⟩ : ∃ x, x = r := ⟨_, rfl⟩
  subst hrF
  clear hlF
  go_upto_region 7 with (first | (go_at_call 77; refine (suffix_any opF _ true lb has HMK.out HLB.out).mono ?_; rintro e w' ⟨rfl, rfl⟩) | (go_at_call 78; refine (IsName_any _ _ hex).mono ?_; rw [HN.out]; rintro e wF ⟨rfl, rfl⟩))
  rotate_left
  have HF1 := hid (HG.out hml)
  have HN := hid hn
  have HL := hid (HLAB.out.trans hml)
  have c0 := HR1.out.cell 0 (by decide)
  have f0 := HR1.out.free 0
  have HR1 := hid (HR1.out.set 0 (.string lb))
  have HR0 := hid (HR0.out.other (B + 1) 0 (by omega) (.string lb))
  have HB1 := hid (HB1.out.setCell (p := ⟨B + 1, 0, none⟩) (by show B ≤ B + 1; omega) (.string lb))
  have HM1 := hid (MaxAt.set HM1.out c0 (by intro m; simp [noParts]) (.string lb))
  obtain ⟨lF, hlF⟩ : ∃ x, x = lb := ⟨_, rfl⟩
  subst hlF
  clear hn hml
  go_upto_region 7 with (first | (go_at_call 77; refine (suffix_any a _ true lF has HMK.out HLB.out).mono ?_; rintro e w' ⟨rfl, rfl⟩) | (go_at_call 78; refine (IsName_any _ _ hex).mono ?_; rw [HN.out]; rintro e wn ⟨rfl, rfl⟩) | (go_at_call 75; refine (cutWord_any r _ (by omega) HM1.out).mono ?_; rintro e wF ⟨opF, rF, ha2, hr2, hrs2, rfl, hb3⟩))
  have HF2 := hid (show L opF = (wordsP (cutL (L s))).op by unfold wordsP; rw [HL.out, ha2, HRR.out.2.1, HT.out]; rfl)
  have HF3 := hid (show operandsOf (L rF) = (wordsP (cutL (L s))).operands by
    unfold wordsP; rw [HL.out, ← HT.out]
    have h3 := hr2.1
    rw [HRR.out.2.2] at h3
    unfold operandsOf
    rw [h3]; rfl)
  have hrs' : rF.size ≤ 100000 := by omega
  have HR0 := hid (HR0.out.below hb3)
  have HR1 := hid (show RowT wF 101 (B + 1) [.string lF, .string ⟨#[]⟩, .slice none 0 0] from HR1.out.below hb3)
  have HB1 := hid (below_on HB1.out (Nat.le_of_eq hB.symm) hb3)
  have HM1 := hid (HM1.out.below hb3)
  clear ha2 hr2 hrs2 hb3 c0 f0
  rotate_left
  all_goals
    have c1 := HR1.out.cell 1 (by simp)
    have f1 := HR1.out.free 1
    have HR1 := hid (show RowT _ 101 (B + 1) [.string lF, .string opF, .slice none 0 0] from HR1.out.set 1 (.string opF))
    have HR0 := hid (HR0.out.other (B + 1) 1 (by omega) (.string opF))
    have HB1 := hid (HB1.out.setCell (p := ⟨B + 1, 1, none⟩) (by show B ≤ B + 1; omega) (.string opF))
    have HM1 := hid (MaxAt.set HM1.out c1 (by intro m; simp) (.string opF))
    obtain ⟨A, hA⟩ : ∃ A, L A = noBlank (L rF) := ⟨⟨(noBlank (L rF)).toArray⟩, rfl⟩
    have hAs : A.size ≤ 100000 := by rw [size_L, hA]; have := noBlank_le (L rF); rw [L_length] at this; omega
    have HAN := hid hA
    clear hA
    go_wp2_with fail
    refine (replace_any rF _ A hrs' HM1.out HAN.out).mono ?_
    rintro e w4 ⟨rfl, hb4⟩
    have HR1 := hid (HR1.out.below hb4)
    have HR0 := hid (HR0.out.below hb4)
    have HB1 := hid (below_on HB1.out (Nat.le_of_eq hB.symm) hb4)
    have HM1 := hid (HM1.out.below hb4)
    have hlt1 := HR1.out.lt
    clear hb4 c1 f1
    by_cases hz : A.size = 0
    · have hAe := empty_of A hz
      subst hAe
      have HO := hid (show (wordsP (cutL (L s))).operands = [] by rw [← HF3.out]; unfold operandsOf; rw [if_pos (by rw [← HAN.out]; rfl)])
      have y0 := HR1.out.cell 0 (by simp)
      have y1 := HR1.out.cell 1 (by simp)
      have y2 := HR1.out.cell 2 (by simp)
      have x0 := HR0.out.cell 0 (by decide)
      have x1 := HR0.out.cell 1 (by decide)
      have x2 := HR0.out.cell 2 (by decide)
      have z0 := HR0.out.free 0
      have z1 := HR0.out.free 1
      have z2 := HR0.out.free 2
      have hlt0 := HR0.out.lt
      clear hz
      go_wp2
      refine bodyPost_ret (v := .agg #[.string lF, .string opF, .slice none 0 0]) (by simp [results, Tryz.results48, go_sem, x0, x1, x2]) rfl ⟨lF, opF, _, [], rfl, ⟨HF1.out, HF2.out, HO.out.symm, Or.inl ⟨rfl, rfl⟩⟩, ?_⟩
      rw [HB.out]
      exact ((HB1.out.setCell (Nat.le_refl _) _).setCell (Nat.le_refl _) _).setCell (Nat.le_refl _) _
    · have hne := not_empty A (by omega)
      have HO := hid (show (wordsP (cutL (L s))).operands = splitB 44 (L A) by
        rw [← HF3.out]; unfold operandsOf
        rw [if_neg (by rw [← HAN.out]; intro h; exact hz (by rw [← L_length, h]; rfl)), HAN.out])
      clear HF3 HAN hz
      go_wp2_with fail
      refine (split_any A 44 _ hAs HM1.out).mono ?_
      rintro e w5 ⟨v, os, rfl, hst, hos, hb5⟩
      obtain ⟨va, vc, hv⟩ := hst.form
      subst hv
      have HR1 := hid (HR1.out.below hb5)
      have HR0 := hid (HR0.out.below hb5)
      have HB1 := hid (below_on HB1.out (Nat.le_of_eq hB.symm) hb5)
      have hne1 := RowT.notStr HR1.out (by decide)
      have k2 := HR1.out.cell 2 (by simp)
      have m2 := HR1.out.free 2
      have HR1 := hid (show RowT _ 101 (B + 1) [.string lF, .string opF, .slice va os.length vc] from HR1.out.set 2 (.slice va os.length vc))
      have HR0 := hid (HR0.out.other (B + 1) 2 (by omega) (.slice va os.length vc))
      have HB1 := hid (HB1.out.setCell (p := ⟨B + 1, 2, none⟩) (by show B ≤ B + 1; omega) (.slice va os.length vc))
      have HST := hid (((hst.mono (C := B) (by omega)).set (B + 1) 2 (.slice va os.length vc) hne1))
      have hcl := HST.out
      have y0 := HR1.out.cell 0 (by simp)
      have y1 := HR1.out.cell 1 (by simp)
      have y2 := HR1.out.cell 2 (by simp)
      have x0 := HR0.out.cell 0 (by decide)
      have x1 := HR0.out.cell 1 (by decide)
      have x2 := HR0.out.cell 2 (by decide)
      have z0 := HR0.out.free 0
      have z1 := HR0.out.free 1
      have z2 := HR0.out.free 2
      have hlt0 := HR0.out.lt
      have HOS := hid hos
      clear hst hos hb5 hcl hne1
      go_wp2
      refine bodyPost_ret (v := .agg #[.string lF, .string opF, .slice va os.length vc]) (by simp [results, Tryz.results48, go_sem, x0, x1, x2]) rfl ⟨lF, opF, .slice va os.length vc, os, rfl, ⟨HF1.out, HF2.out, HOS.out.trans HO.out.symm, ?_⟩, ?_⟩
      · rw [HB.out]
        exact ((HST.out.set B 0 _ (RowT.notStr HR0.out (by decide))).set B 1 _ (RowT.notStr (HR0.out.set 0 _) (by decide))).set B 2 _ (RowT.notStr ((HR0.out.set 0 _).set 1 _) (by decide))
      · rw [HB.out]
        exact ((HB1.out.setCell (Nat.le_refl _) _).setCell (Nat.le_refl _) _).setCell (Nat.le_refl _) _

end Go.Proofs.YtcepppilgncdmaaGreatDoor

namespace Go.Proofs.YtcepppilgncdmaaGreatDoor

/-- The head of a line as it is left. -/
def headP (lb op : List UInt8) : List UInt8 :=
  if op = [] then (if lb = [] then [] else lb ++ [58]) else if lb = [] then op else lb ++ [58] ++ [32] ++ op
theorem textP_head (w : WordsP) : textP w = headP w.label w.op ++ joined true w.operands := by
  unfold textP headP
  by_cases h1 : w.label = [] <;> by_cases h2 : w.op = [] <;> simp [h1, h2]

def sumLen (l : List (List UInt8)) : Nat := (l.map fun x => x.length + 1).sum
theorem joined_len (b : Bool) (l : List (List UInt8)) : (joined b l).length = sumLen l := by
  induction l generalizing b with
  | nil => cases b <;> rfl
  | cons x r ih => cases b <;> simp [joined, sumLen, ih] <;> omega

def joinedTo (ops : List ByteArray) (k : Nat) : List UInt8 := joined true ((ops.take k).map L)
theorem joined_snoc (b : Bool) (l : List (List UInt8)) (x : List UInt8) : joined b (l ++ [x]) = joined b l ++ ((if b && l.isEmpty then 32 else 44) :: x) := by
  induction l generalizing b with
  | nil => cases b <;> simp [joined]
  | cons y r ih => cases b <;> simp [joined, ih]
theorem joinedTo_succ (ops : List ByteArray) (k : Nat) (h : k < ops.length) : joinedTo ops (k + 1) = joinedTo ops k ++ ((if k = 0 then 32 else 44) :: L ops[k]) := by
  unfold joinedTo
  rw [List.take_succ_eq_append_getElem h, List.map_append, List.map_singleton, joined_snoc]
  congr 2
  cases k with
  | zero => rfl
  | succ k =>
    have : ((ops.take (k + 1)).map L).isEmpty = false := by
      cases ops with
      | nil => simp at h
      | cons a r => simp
    rw [this, Bool.and_false]
    simp

theorem sumLen_take (l : List (List UInt8)) : ∀ k, sumLen (l.take k) ≤ sumLen l := by
  induction l with
  | nil => intro k; simp
  | cons x r ih =>
    intro k
    cases k with
    | zero => simp [sumLen]
    | succ k =>
      have := ih k
      simp only [List.take_succ_cons, sumLen, List.map_cons, List.sum_cons] at this ⊢
      omega
theorem joinedTo_len (ops : List ByteArray) (k : Nat) : (joinedTo ops k).length ≤ sumLen (ops.map L) := by
  unfold joinedTo
  rw [joined_len, List.map_take]
  exact sumLen_take _ _
theorem ne_of_size (s : ByteArray) (h : ¬ s.size = 0) : L s ≠ [] := fun e => h (by rw [← L_length, e]; rfl)

end Go.Proofs.YtcepppilgncdmaaGreatDoor

namespace Go.Proofs.YtcepppilgncdmaaGreatDoor

structure MacP where
  name : List UInt8
  params : List (List UInt8)
  lines : List (List UInt8)
structure StP where
  macros : List MacP
  names : List (List UInt8 × Int)
  out : List (List UInt8 × Nat)
  calls : Nat
structure OpenP where
  yes : Bool
  els : Bool
  over : Bool

def opIf : List UInt8 := [46, 105, 102]
def opElse : List UInt8 := [46, 101, 108, 115, 101]
def opEndif : List UInt8 := [46, 101, 110, 100, 105, 102]
def opMacro : List UInt8 := [46, 109, 97, 99, 114, 111]
def opEnd : List UInt8 := [46, 101, 110, 100]
def opSet : List UInt8 := [46, 115, 101, 116]

def passOf (o : OpenP) : Bool := o.over || !o.yes
/-- Are lines passed over? (The innermost condition comes first.) -/
def overP : List OpenP → Bool
  | [] => false
  | o :: _ => passOf o
/-- Each condition knows whether it stands among lines that are passed over. -/
def Chain : List OpenP → Prop
  | [] => True
  | o :: r => o.over = overP r ∧ Chain r

/-- Which of some words is the longest with which a text begins, and how long it is. -/
def ahead (l : List UInt8) : List (List UInt8) → Nat → Option (Nat × Nat) → Option (Nat × Nat)
  | [], _, b => b
  | p :: r, i, b => ahead l r (i + 1) (if p.isPrefixOf l && (match b with | none => true | some (_, n) => decide (n < p.length)) then some (i, p.length) else b)

/-- Operands in the place of parameters; none: there is a stroke with no parameter behind. -/
def fillP (ps os : List (List UInt8)) : Nat → List UInt8 → Option (List UInt8)
  | 0, _ => some []
  | _ + 1, [] => some []
  | n + 1, c :: r =>
    if (c.toNat : Int) = 92 then
      match ahead r ps 0 none with
      | none => none
      | some (i, k) => (fillP ps os n (r.drop k)).map ((os.getD i []) ++ ·)
    else (fillP ps os n r).map (c :: ·)
def filledP (ps os : List (List UInt8)) (l : List UInt8) : Int × List UInt8 :=
  match fillP ps os l.length l with
  | none => (4, [])
  | some t => if 80 < t.length then (1, []) else (0, t)

def findM : List MacP → List UInt8 → Option MacP
  | [], _ => none
  | m :: r, s => if m.name = s then some m else findM r s
def bareW (w : WordsP) : Bool := decide (w.label = []) && decide (w.operands = [])

def leaveP (w : WordsP) (at_ : Nat) (st : StP) : Int × StP :=
  if textP w = [] then (0, st) else if 300 ≤ st.out.length then (8, st) else (0, { st with out := st.out ++ [(textP w, at_)] })

def ifP (w : WordsP) (opens : List OpenP) (st : StP) : Int × List OpenP :=
  if 8 ≤ opens.length then (2, opens)
  else if overP opens then (0, ⟨false, false, true⟩ :: opens)
  else if ¬ w.label = [] ∨ ¬ w.operands.length = 1 then (4, opens)
  else if (value 0 st.names (w.operands.headD [])).2 ≠ 0 then ((value 0 st.names (w.operands.headD [])).2, opens)
  else (0, ⟨decide ((value 0 st.names (w.operands.headD [])).1 ≠ 0), false, false⟩ :: opens)

def elseP (w : WordsP) : List OpenP → Int × List OpenP
  | [] => (2, [])
  | o :: r => if o.els then (2, o :: r) else if o.over = false ∧ bareW w = false then (4, o :: r) else (0, ⟨!o.yes, true, o.over⟩ :: r)
def endifP (w : WordsP) : List OpenP → Int × List OpenP
  | [] => (2, [])
  | o :: r => if o.over = false ∧ bareW w = false then (4, o :: r) else (0, r)

def allNames : List (List UInt8) → Bool
  | [] => true
  | o :: r => nameB o && allNames r
/-- No word stands there twice, nor among those that were seen. -/
def apartF (seen : List (List UInt8)) : List (List UInt8) → Bool
  | [] => true
  | o :: r => !seen.contains o && apartF (seen ++ [o]) r
def apartP (l : List (List UInt8)) : Bool := apartF [] l
def defP (inM : Bool) (w : WordsP) (st : StP) : Int × Option MacP :=
  if inM then (2, none)
  else if ¬ w.label = [] ∨ w.operands = [] then (4, none)
  else if allNames w.operands = false ∨ apartP w.operands.tail = false then (4, none)
  else match findM st.macros (w.operands.headD []) with
    | some _ => (5, none)
    | none => (0, some ⟨w.operands.headD [], w.operands.tail, []⟩)
def collP (d : MacP) (s : List UInt8) (st : StP) : Int × Option MacP × StP :=
  if (wordsP s).op = opMacro then (2, none, st)
  else if (wordsP s).op = opEnd then (if bareW (wordsP s) then (0, none, { st with macros := st.macros ++ [d] }) else (4, none, st))
  else (0, some { d with lines := d.lines ++ [s] }, st)

def hasN (ns : List (List UInt8 × Int)) (s : List UInt8) : Bool := (findN ns s).isSome
def setP (w : WordsP) (at_ : Nat) (st : StP) : Int × StP :=
  if ¬ w.label = [] ∨ ¬ w.operands.length = 2 then (4, st)
  else if nameB (w.operands.headD []) = false ∨ hasN st.names (w.operands.headD []) = true then (5, st)
  else if (value 0 st.names (w.operands.getD 1 [])).2 ≠ 0 then ((value 0 st.names (w.operands.getD 1 [])).2, st)
  else leaveP w at_ { st with names := st.names ++ [(w.operands.headD [], (value 0 st.names (w.operands.getD 1 [])).1)] }

/-- A line that is not passed over. -/
def lineP (call : MacP → WordsP → Nat → StP → Int × StP) (inM : Bool) (w : WordsP) (at_ : Nat) (opens : List OpenP) (st : StP) : Int × List OpenP × Option MacP × StP :=
  if w.op = opIf then ((ifP w opens st).1, (ifP w opens st).2, none, st)
  else if w.op = opElse then ((elseP w opens).1, (elseP w opens).2, none, st)
  else if w.op = opEndif then ((endifP w opens).1, (endifP w opens).2, none, st)
  else if w.op = opMacro then ((defP inM w st).1, opens, (defP inM w st).2, st)
  else if w.op = opEnd then (2, opens, none, st)
  else if w.op = opSet then ((setP w at_ st).1, opens, none, (setP w at_ st).2)
  else match findM st.macros w.op with
    | some m => ((call m w at_ st).1, opens, none, (call m w at_ st).2)
    | none => ((leaveP w at_ st).1, opens, none, (leaveP w at_ st).2)
/-- A line that is passed over. -/
def passP (w : WordsP) (opens : List OpenP) (st : StP) : Int × List OpenP :=
  if w.op = opIf then ifP w opens st else if w.op = opElse then elseP w opens else if w.op = opEndif then endifP w opens else (0, opens)

/-- What a block's line says: its words, or an error. -/
def readP (sub : Option (List (List UInt8) × List (List UInt8))) (over : Bool) (s : List UInt8) : Int × WordsP :=
  match sub, over with
  | some (ps, os), false => if (filledP ps os s).1 ≠ 0 then ((filledP ps os s).1, ⟨[], [], []⟩) else (0, wordsP (cutL (filledP ps os s).2))
  | _, _ => (0, wordsP (cutL s))

def blockP (call : MacP → WordsP → Nat → StP → Int × StP) (sub : Option (List (List UInt8) × List (List UInt8))) (inc : Nat) : List (List UInt8) → Nat → List OpenP → Option MacP → StP → Int × Nat × StP
  | [], at_, opens, d, st => if opens = [] ∧ d.isNone then (0, at_, st) else (2, at_, st)
  | l :: r, at_, opens, some d, st =>
    if (collP d (cutL l) st).1 ≠ 0 then ((collP d (cutL l) st).1, at_ + inc, st)
    else blockP call sub inc r (at_ + inc) opens (collP d (cutL l) st).2.1 (collP d (cutL l) st).2.2
  | l :: r, at_, opens, none, st =>
    if overP opens then
      if (passP (wordsP (cutL l)) opens st).1 ≠ 0 then ((passP (wordsP (cutL l)) opens st).1, at_ + inc, st)
      else blockP call sub inc r (at_ + inc) (passP (wordsP (cutL l)) opens st).2 none st
    else if (readP sub false (cutL l)).1 ≠ 0 then ((readP sub false (cutL l)).1, at_ + inc, st)
    else if (lineP call sub.isSome (readP sub false (cutL l)).2 (at_ + inc) opens st).1 ≠ 0 then ((lineP call sub.isSome (readP sub false (cutL l)).2 (at_ + inc) opens st).1, at_ + inc, st)
    else blockP call sub inc r (at_ + inc) (lineP call sub.isSome (readP sub false (cutL l)).2 (at_ + inc) opens st).2.1 (lineP call sub.isSome (readP sub false (cutL l)).2 (at_ + inc) opens st).2.2.1 (lineP call sub.isSome (readP sub false (cutL l)).2 (at_ + inc) opens st).2.2.2

/-- A macro is called, with so many still to be called within one another. -/
def callN : Nat → MacP → WordsP → Nat → StP → Int × StP
  | 0, _, _, _, st => (2, st)
  | n + 1, m, w, at_, st =>
    if ¬ w.operands.length = m.params.length then (4, st)
    else if 200 ≤ st.calls then (8, st)
    else if (leaveP ⟨w.label, [], []⟩ at_ st).1 ≠ 0 then ((leaveP ⟨w.label, [], []⟩ at_ st).1, st)
    else ((blockP (callN n) (some (m.params, w.operands)) 0 m.lines at_ [] none { (leaveP ⟨w.label, [], []⟩ at_ st).2 with calls := st.calls + 1 }).1,
      (blockP (callN n) (some (m.params, w.operands)) 0 m.lines at_ [] none { (leaveP ⟨w.label, [], []⟩ at_ st).2 with calls := st.calls + 1 }).2.2)

/-- The number of the first line that may not be; 0: all may be. -/
def badLine : List (List UInt8) → Nat → Nat
  | [], _ => 0
  | l :: r, k => if okLine l then badLine r (k + 1) else k

def noSt : StP := ⟨[], [], [], 0⟩
def expandP (s : List UInt8) : Int × Nat × List (List UInt8 × Nat) :=
  if 3000 < s.length then (1, 0, [])
  else if badLine (splitB 10 s) 1 ≠ 0 then (1, badLine (splitB 10 s) 1, [])
  else if (blockP (callN 8) none 1 (splitB 10 s) 0 [] none noSt).1 ≠ 0 then ((blockP (callN 8) none 1 (splitB 10 s) 0 [] none noSt).1, (blockP (callN 8) none 1 (splitB 10 s) 0 [] none noSt).2.1, [])
  else (0, 0, (blockP (callN 8) none 1 (splitB 10 s) 0 [] none noSt).2.2.out)

/-- A macro's lines, up to its end: its error, its lines, how many were taken (with the end's). -/
def bodyP (d : List (List UInt8)) : List (List UInt8) → Int × List (List UInt8) × Nat
  | [] => (2, d, 0)
  | l :: r =>
    if (wordsP (cutL l)).op = opMacro then (2, d, 1)
    else if (wordsP (cutL l)).op = opEnd then (if bareW (wordsP (cutL l)) then 0 else 4, d, 1)
    else ((bodyP (d ++ [cutL l]) r).1, (bodyP (d ++ [cutL l]) r).2.1, (bodyP (d ++ [cutL l]) r).2.2 + 1)

theorem bodyP_len (ls : List (List UInt8)) : ∀ d, (bodyP d ls).2.2 ≤ ls.length := by
  induction ls with
  | nil => intro d; simp [bodyP]
  | cons l r ih =>
    intro d
    simp only [bodyP]
    split
    · simp
    · split
      · simp
      · have := ih (d ++ [cutL l]); simp; omega

/-- What a block makes of a macro that is being defined, by 'bodyP' (inc 1: of a text's lines). -/
theorem blockP_def (call : MacP → WordsP → Nat → StP → Int × StP) (sub : Option (List (List UInt8) × List (List UInt8))) (opens : List OpenP) (st : StP) (ls : List (List UInt8)) :
    ∀ (at_ : Nat) (d : MacP), blockP call sub 1 ls at_ opens (some d) st =
      if (bodyP d.lines ls).1 ≠ 0 then ((bodyP d.lines ls).1, at_ + (bodyP d.lines ls).2.2, st)
      else blockP call sub 1 (ls.drop (bodyP d.lines ls).2.2) (at_ + (bodyP d.lines ls).2.2) opens none { st with macros := st.macros ++ [{ d with lines := (bodyP d.lines ls).2.1 }] } := by
  induction ls with
  | nil => intro at_ d; simp [blockP, bodyP]
  | cons l r ih =>
    intro at_ d
    simp only [blockP, bodyP, collP]
    by_cases h1 : (wordsP (cutL l)).op = opMacro
    · simp [h1]
    · by_cases h2 : (wordsP (cutL l)).op = opEnd
      · by_cases h3 : bareW (wordsP (cutL l)) = true
        · simp [h2, h3, show ¬ opEnd = opMacro by decide]
        · simp [h2, h3, show ¬ opEnd = opMacro by decide]
      · simp only [if_neg h1, if_neg h2, ne_eq, not_true_eq_false, if_false]
        rw [ih]
        simp only [show ∀ n : Nat, at_ + 1 + n = at_ + (n + 1) from fun n => by omega, List.drop_succ_cons]

end Go.Proofs.YtcepppilgncdmaaGreatDoor
