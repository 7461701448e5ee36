/-
  What the program's functions of one line (package lines) answer, said by the plain functions; the variable MaxLen of the library holds some number.
-/
import Derived.Test.YtcepppilgncdmaaGreatDoorShelf
import Derived.Test.YtcepppilgncdmaaGreatDoorLibMath
import Derived.Test.YtcepppilgncdmaaGreatDoorParts
import Derived.Test.YtcepppilgncdmaaGreatDoorRead
import Derived.OwnWalk
import Derived.Deep.QuietTactic
import Derived.BigQuiet
import Derived.Deep.CutBlock
import Derived.Deep.DeepCutAuto
import Derived.Deep.LoopGhost
namespace Go.Proofs.YtcepppilgncdmaaGreatDoor
open Go.RowKit

def MaxAt (w : World) : Prop := ∃ m, w.cell? ⟨0, 0, none⟩ = some (.int .i64 m)
theorem MaxAt.below {w w' : World} (h : MaxAt w) (hb : Below w.heap.size w w') : MaxAt w' := by
  obtain ⟨m, hm⟩ := h
  exact ⟨m, (hb.cell (p := ⟨0, 0, none⟩) (World.block_lt_of_cell? _ _ hm)).trans hm⟩
theorem MaxAt.set {w : World} (h : MaxAt w) {p : Addr} {u : Value} (hp : w.cell? p = some u) (hu : ∀ m, u ≠ .int .i64 m) (v : Value) : MaxAt (w.setCell p v) := by
  obtain ⟨m, hm⟩ := h
  refine ⟨m, (World.cell?_setCell_other _ _ _ _ ?_).trans hm⟩
  rintro rfl
  rw [hm] at hp
  exact hu m (Option.some.inj hp).symm
theorem below_on {B : Nat} {w w0 w1 : World} (h : Below B w w0) (hB : B ≤ w.heap.size) (h1 : Below w0.heap.size w0 w1) : Below B w w1 := h.trans (h1.mono (Nat.le_trans hB h.size))
theorem L_mk (l : List UInt8) : L ⟨l.toArray⟩ = l := rfl
theorem size_L (s : ByteArray) : s.size = (L s).length := (L_length s).symm

theorem wordOf_le (l : List UInt8) : (wordOf l).length ≤ l.length := by
  unfold wordOf; rw [List.length_take, List.length_drop]; omega
theorem restOf_le (l : List UInt8) : (restOf l).length ≤ l.length := by
  unfold restOf; rw [List.length_drop]; omega
theorem noBlank_le (l : List UInt8) : (noBlank l).length ≤ l.length := List.length_filter_le _ _

set_option maxHeartbeats 400000 in
theorem WithoutRemark_any (s : ByteArray) (w : World) (hs : s.size < 4294967281) (hm : MaxAt w) :
    Calls Tryz.prog 76 #[.string s] w fun e w' => ∃ t, L t = cutL (L s) ∧ e = .returned (.string t) ∧ Below w.heap.size w w' := by
  obtain ⟨m, hm⟩ := hm
  have HM := hid hm
  have HS := hid hs
  clear hm hs
  go_enter Tryz.func76, Tryz.ntmps76
  go_wp2_with (first | (go_at_call 116; refine (Tryz.strings_Cut s _ m _ HS.out HM.out).mono ?_; rintro e w' ⟨rfl, n, rfl⟩))
  go_ret
  exact ⟨_, by rw [L_mk]; exact cut_semi _, rfl, below_drewN (Below.refl _ _) _⟩

set_option maxHeartbeats 400000 in
theorem cutWord_any (s : ByteArray) (w : World) (hs : s.size < 4294967281) (hm : MaxAt w) :
    Calls Tryz.prog 75 #[.string s] w fun e w' => ∃ a r, L a = wordOf (L s) ∧ SameW (L r) (restOf (L s)) ∧ r.size ≤ s.size ∧ e = .returned (.tuple #[.string a, .string r]) ∧ Below w.heap.size w w' := by
  obtain ⟨m, hm⟩ := hm
  have HM := hid hm
  have hd : (⟨(Lib.trimLeftB s.data.toList 32).toArray⟩ : ByteArray).size ≤ s.size := by
    rw [size_L, L_mk, trim_blanks, List.length_drop]; show (L s).length - _ ≤ _; rw [L_length]; omega
  have HS := hid (show (⟨(Lib.trimLeftB s.data.toList 32).toArray⟩ : ByteArray).size < 4294967281 by omega)
  have HW := hid (cut_word (L s))
  have HL := hid (show (Lib.cut (Lib.trimLeftB s.data.toList 32) [32]).2.1.length ≤ s.size by
    rw [trim_blanks]
    rcases cut_one 32 (s.data.toList.drop (blanks s.data.toList)) with ⟨h1, _⟩ | ⟨p, r, h1, _, h3⟩
    · rw [h1]; simp
    · rw [h3]
      have := congrArg List.length h1
      rw [List.length_drop, List.length_append, List.length_cons] at this
      have h4 := L_length s
      unfold L at h4
      show r.length ≤ s.size
      omega)
  clear hm hs hd
  go_enter Tryz.func75, Tryz.ntmps75
  go_wp2_with (first | (go_at_call 117; refine (Tryz.strings_TrimLeft_one s 32 (by decide) _).mono ?_; rintro e w' ⟨rfl, rfl⟩) | (go_at_call 116; refine (Tryz.strings_Cut _ _ m _ HS.out HM.out).mono ?_; rintro e w' ⟨rfl, n, rfl⟩))
  go_ret2
  refine ⟨_, _, ?_, ?_, ?_, rfl, below_drewN (Below.refl _ _) _⟩
  · rw [L_mk, L_mk, trim_blanks]; exact HW.out.1
  · rw [L_mk, L_mk, trim_blanks]; exact HW.out.2
  · rw [size_L, L_mk]; exact HL.out

def noParts : List Value := [.string ⟨#[]⟩, .string ⟨#[]⟩, .slice none 0 0]

theorem split_row (w : World) (A : ByteArray) (c : UInt8) :
    StrV (w.alloc (.cells ((Lib.splitB ⟨#[c]⟩ 0 (Lib.countB A ⟨#[c]⟩) A).map Value.string).toArray 9)) w.heap.size (.slice (some ⟨w.heap.size, 0, none⟩) (Lib.countB A ⟨#[c]⟩ + 1) (Lib.countB A ⟨#[c]⟩ + 1)) (Lib.splitB ⟨#[c]⟩ 0 (Lib.countB A ⟨#[c]⟩) A) ∧
    (Lib.splitB ⟨#[c]⟩ 0 (Lib.countB A ⟨#[c]⟩) A).map L = splitB c.toNat (L A) := by
  have hl : (Lib.splitB ⟨#[c]⟩ 0 (Lib.countB A ⟨#[c]⟩) A).length = Lib.countB A ⟨#[c]⟩ + 1 := Lib.splitB_all ⟨#[c]⟩ (Nat.le_refl 1) 0 _ A rfl
  refine ⟨Or.inr ⟨w.heap.size, 0, Lib.countB A ⟨#[c]⟩ + 1, _, by rw [hl], Nat.le_refl _, heap_alloc_new w _, by omega, fun i hi => ?_⟩, ?_⟩
  · simp [hi]
  · have := Lib.splitB_data ⟨#[c]⟩ 0 (Lib.countB A ⟨#[c]⟩) A
    refine this.trans ?_
    exact splitK_one c _ (L A) (Nat.le_refl _)

theorem suffix_any (a : ByteArray) (w : World) (mk : Bool) (lb : ByteArray) (hs : a.size ≤ 100000) (h1 : Lib.hasSuffix (L a) [58] = mk) (h2 : L lb = Lib.trimSuffix (L a) [58]) :
    Calls Tryz.prog 77 #[.string a, .string ⟨#[58]⟩] w fun e w' => e = .returned (.tuple #[.string lb, .bool mk]) ∧ w' = w := by
  refine (Tryz.strings_CutSuffix a ⟨#[58]⟩ w (by omega)).mono ?_
  rintro e w' ⟨rfl, rfl⟩
  refine ⟨?_, rfl⟩
  have e1 : (⟨(Lib.trimSuffix a.data.toList (⟨#[58]⟩ : ByteArray).data.toList).toArray⟩ : ByteArray) = lb := L_inj h2.symm
  have e2 : Lib.hasSuffix a.data.toList (⟨#[58]⟩ : ByteArray).data.toList = mk := h1
  rw [e1, e2]
theorem replace_any (r : ByteArray) (w : World) (A : ByteArray) (hs : r.size ≤ 100000) (hm : MaxAt w) (h : L A = noBlank (L r)) :
    Calls Tryz.prog 79 #[.string r, .string ⟨#[32]⟩, .string ⟨#[]⟩] w fun e w' => e = .returned (.string A) ∧ Below w.heap.size w w' := by
  obtain ⟨m, hm⟩ := hm
  refine (Tryz.strings_ReplaceAll r ⟨#[32]⟩ ⟨#[]⟩ m w (by omega) hm (Nat.le_refl 1) (by show r.size + _ * 0 ≤ _; omega)).mono ?_
  rintro e w' ⟨rfl, hb⟩
  refine ⟨?_, hb⟩
  have e1 : (⟨(Lib.replaceAll r.data.toList (⟨#[32]⟩ : ByteArray).data.toList (⟨#[]⟩ : ByteArray).data.toList).toArray⟩ : ByteArray) = A := L_inj ((replaceAll_blanks (L r)).trans h.symm)
  rw [e1]
theorem split_any (A : ByteArray) (c : UInt8) (w : World) (hs : A.size ≤ 100000) (hm : MaxAt w) :
    Calls Tryz.prog 44 #[.string A, .string ⟨#[c]⟩] w fun e w' => ∃ v parts, e = .returned v ∧ StrV w' w.heap.size v parts ∧ parts.map L = splitB c.toNat (L A) ∧ Below w.heap.size w w' := by
  obtain ⟨m, hm⟩ := hm
  refine (Tryz.strings_Split A ⟨#[c]⟩ m w (by omega) hm (Nat.le_refl 1)).mono ?_
  rintro e w' ⟨rfl, rfl⟩
  exact ⟨_, _, rfl, (split_row w A c).1, (split_row w A c).2, (Below.refl _ _).alloc (Nat.le_refl _) _⟩

set_option maxHeartbeats 1600000 in
theorem Read_any (s : ByteArray) (w : World) (hs : s.size ≤ 100000) (hm : MaxAt w) :
    Calls Tryz.prog 48 #[.string s] w fun e w' => ∃ lb op v os, e = .returned (.agg #[.string lb, .string op, v]) ∧ PartsV w' w.heap.size lb op v os (wordsP (cutL (L s))) ∧ Below w.heap.size w w' := by
  obtain ⟨B, hB⟩ : ∃ B, w.heap.size = B := ⟨_, rfl⟩
  have HB := hid hB
  have HM := hid hm
  have HS := hid hs
  have HR0 := hid (show RowT ((w.alloc (.cells noParts.toArray 101)).alloc (.cells noParts.toArray 101)) 101 B noParts from (hB ▸ RowT.new w 101 noParts).alloc _)
  have HR1 := hid (show RowT ((w.alloc (.cells noParts.toArray 101)).alloc (.cells noParts.toArray 101)) 101 (B + 1) noParts from by
    have := RowT.new (w.alloc (.cells noParts.toArray 101)) 101 noParts
    rw [show (w.alloc (.cells noParts.toArray 101)).heap.size = B + 1 from by simp [hB]] at this
    exact this)
  have HB1 := hid (show Below B w ((w.alloc (.cells noParts.toArray 101)).alloc (.cells noParts.toArray 101)) from ((Below.refl B w).alloc (by omega) _).alloc (by simp; omega) _)
  have HM1 := hid (show MaxAt ((w.alloc (.cells noParts.toArray 101)).alloc (.cells noParts.toArray 101)) from hm.below (((Below.refl _ w).alloc (Nat.le_refl _) _).alloc (by simp) _))
  clear hm hs
  go_enter Tryz.func48, Tryz.ntmps48
  go_wp2_with fail
  refine (WithoutRemark_any s _ (by have := HS.out; omega) HM1.out).mono ?_
  rintro e w1 ⟨t, ht, rfl, hb1⟩
  have hts : t.size ≤ 100000 := by rw [size_L, ht]; have := cutL_le (L s); rw [L_length] at this; have := HS.out; omega
  have HT := hid ht
  have HR0 := hid (HR0.out.below hb1)
  have HR1 := hid (HR1.out.below hb1)
  have HB1 := hid (below_on HB1.out (Nat.le_of_eq hB.symm) hb1)
  have HM1 := hid (HM1.out.below hb1)
  clear hb1 ht
  go_wp2_with fail
  refine (cutWord_any t _ (by omega) HM1.out).mono ?_
  rintro e w2 ⟨a, r, ha, hr, hrs, rfl, hb2⟩
  have has : a.size ≤ 100000 := by rw [size_L, ha]; have := wordOf_le (L t); rw [L_length] at this; omega
  have HA := hid ha
  have HRR := hid hr
  have HR0 := hid (HR0.out.below hb2)
  have HR1 := hid (HR1.out.below hb2)
  have HB1 := hid (below_on HB1.out (Nat.le_of_eq hB.symm) hb2)
  have HM1 := hid (HM1.out.below hb2)
  clear hb2 ha hr HM HS
  obtain ⟨mk, hmk⟩ : ∃ mk, Lib.hasSuffix (L a) [58] = mk := ⟨_, rfl⟩
  obtain ⟨lb, hlb⟩ : ∃ lb, L lb = Lib.trimSuffix (L a) [58] := ⟨⟨(Lib.trimSuffix (L a) [58]).toArray⟩, rfl⟩
  have HMK := hid hmk
  have HLB := hid hlb
  clear hmk hlb
  have hex : lb.size ≤ maxLen := by
    rw [size_L, HLB.out]; unfold Lib.trimSuffix maxLen
    have := L_length a
    split
    · rw [List.length_take]; omega
    · omega
  have hrs' : r.size ≤ 100000 := by omega
  have hand := (label_suffix (L a)).1
  rw [HMK.out, ← HLB.out] at hand
  have hcs : (labelB (L a) = false ∧ mk = false) ∨ (labelB (L a) = false ∧ mk = true ∧ nameB (L lb) = false) ∨ (labelB (L a) = true ∧ mk = true ∧ nameB (L lb) = true) := by
    cases mk <;> cases hn : nameB (L lb) <;> simp_all
  clear hand
  have HLAB := hid (show labelB (wordOf (cutL (L s))) = labelB (L a) by rw [← HT.out, ← HA.out])
  have HF := hid (show labelB (L a) = false → L (⟨#[]⟩ : ByteArray) = (wordsP (cutL (L s))).label ∧ L a = (wordsP (cutL (L s))).op ∧ operandsOf (L r) = (wordsP (cutL (L s))).operands by
    intro hml
    unfold wordsP; rw [HLAB.out, hml, ← HT.out]
    refine ⟨rfl, HA.out, ?_⟩
    have := HRR.out.1
    unfold operandsOf
    rw [this]; rfl)
  have HG := hid (show labelB (L a) = true → L lb = (wordsP (cutL (L s))).label by
    intro hml
    unfold wordsP; rw [HLAB.out, hml, HLB.out, (label_suffix (L a)).2 hml, HA.out, HT.out]; rfl)
  rcases hcs with ⟨hml, rfl⟩ | ⟨hml, rfl, hn⟩ | ⟨hml, rfl, hn⟩
  obtain ⟨f1, f2, f3⟩ := HF.out hml
  have HF1 := hid f1
  have HF2 := hid f2
  have HF3 := hid f3
  clear f1 f2 f3 hml
  obtain ⟨lF, hlF⟩ : ∃ x, x = (⟨#[]⟩ : ByteArray) := ⟨_, rfl⟩
  rw [← hlF] at HF1
  have HR1 := hid (show RowT w2 101 (B + 1) [.string lF, .string ⟨#[]⟩, .slice none 0 0] by rw [hlF]; exact HR1.out)
  obtain ⟨opF, hoF⟩ : ∃ x, x = a := ⟨_, rfl⟩
  subst hoF
  obtain ⟨rF, hrF⟩ : ∃ x, x = r := ⟨_, rfl⟩
  subst hrF
  clear hlF
  go_upto_region 7 with (first | (go_at_call 77; refine (suffix_any opF _ false lb has HMK.out HLB.out).mono ?_; rintro e wF ⟨rfl, rfl⟩))
  rotate_left
  obtain ⟨f1, f2, f3⟩ := HF.out hml
  have HF1 := hid f1
  have HF2 := hid f2
  have HF3 := hid f3
  have HN := hid hn
  clear f1 f2 f3 hml hn
  obtain ⟨lF, hlF⟩ : ∃ x, x = (⟨#[]⟩ : ByteArray) := ⟨_, rfl⟩
  rw [← hlF] at HF1
  have HR1 := hid (show RowT w2 101 (B + 1) [.string lF, .string ⟨#[]⟩, .slice none 0 0] by rw [hlF]; exact HR1.out)
  obtain ⟨opF, hoF⟩ : ∃ x, x = a := ⟨_, rfl⟩
  subst hoF
  obtain ⟨rF, hrF⟩ : ∃ x, x = r := ⟨_, rfl⟩
  subst hrF
  clear hlF
  go_upto_region 7 with (first | (go_at_call 77; refine (suffix_any opF _ true lb has HMK.out HLB.out).mono ?_; rintro e w' ⟨rfl, rfl⟩) | (go_at_call 78; refine (IsName_any _ _ hex).mono ?_; rw [HN.out]; rintro e wF ⟨rfl, rfl⟩))
  rotate_left
  have HF1 := hid (HG.out hml)
  have HN := hid hn
  have HL := hid (HLAB.out.trans hml)
  have c0 := HR1.out.cell 0 (by decide)
  have f0 := HR1.out.free 0
  have HR1 := hid (HR1.out.set 0 (.string lb))
  have HR0 := hid (HR0.out.other (B + 1) 0 (by omega) (.string lb))
  have HB1 := hid (HB1.out.setCell (p := ⟨B + 1, 0, none⟩) (by show B ≤ B + 1; omega) (.string lb))
  have HM1 := hid (MaxAt.set HM1.out c0 (by intro m; simp [noParts]) (.string lb))
  obtain ⟨lF, hlF⟩ : ∃ x, x = lb := ⟨_, rfl⟩
  subst hlF
  clear hn hml
  go_upto_region 7 with (first | (go_at_call 77; refine (suffix_any a _ true lF has HMK.out HLB.out).mono ?_; rintro e w' ⟨rfl, rfl⟩) | (go_at_call 78; refine (IsName_any _ _ hex).mono ?_; rw [HN.out]; rintro e wn ⟨rfl, rfl⟩) | (go_at_call 75; refine (cutWord_any r _ (by omega) HM1.out).mono ?_; rintro e wF ⟨opF, rF, ha2, hr2, hrs2, rfl, hb3⟩))
  have HF2 := hid (show L opF = (wordsP (cutL (L s))).op by unfold wordsP; rw [HL.out, ha2, HRR.out.2.1, HT.out]; rfl)
  have HF3 := hid (show operandsOf (L rF) = (wordsP (cutL (L s))).operands by
    unfold wordsP; rw [HL.out, ← HT.out]
    have h3 := hr2.1
    rw [HRR.out.2.2] at h3
    unfold operandsOf
    rw [h3]; rfl)
  have hrs' : rF.size ≤ 100000 := by omega
  have HR0 := hid (HR0.out.below hb3)
  have HR1 := hid (show RowT wF 101 (B + 1) [.string lF, .string ⟨#[]⟩, .slice none 0 0] from HR1.out.below hb3)
  have HB1 := hid (below_on HB1.out (Nat.le_of_eq hB.symm) hb3)
  have HM1 := hid (HM1.out.below hb3)
  clear ha2 hr2 hrs2 hb3 c0 f0
  rotate_left
  all_goals
    have c1 := HR1.out.cell 1 (by simp)
    have f1 := HR1.out.free 1
    have HR1 := hid (show RowT _ 101 (B + 1) [.string lF, .string opF, .slice none 0 0] from HR1.out.set 1 (.string opF))
    have HR0 := hid (HR0.out.other (B + 1) 1 (by omega) (.string opF))
    have HB1 := hid (HB1.out.setCell (p := ⟨B + 1, 1, none⟩) (by show B ≤ B + 1; omega) (.string opF))
    have HM1 := hid (MaxAt.set HM1.out c1 (by intro m; simp) (.string opF))
    obtain ⟨A, hA⟩ : ∃ A, L A = noBlank (L rF) := ⟨⟨(noBlank (L rF)).toArray⟩, rfl⟩
    have hAs : A.size ≤ 100000 := by rw [size_L, hA]; have := noBlank_le (L rF); rw [L_length] at this; omega
    have HAN := hid hA
    clear hA
    go_wp2_with fail
    refine (replace_any rF _ A hrs' HM1.out HAN.out).mono ?_
    rintro e w4 ⟨rfl, hb4⟩
    have HR1 := hid (HR1.out.below hb4)
    have HR0 := hid (HR0.out.below hb4)
    have HB1 := hid (below_on HB1.out (Nat.le_of_eq hB.symm) hb4)
    have HM1 := hid (HM1.out.below hb4)
    have hlt1 := HR1.out.lt
    clear hb4 c1 f1
    by_cases hz : A.size = 0
    · have hAe := empty_of A hz
      subst hAe
      have HO := hid (show (wordsP (cutL (L s))).operands = [] by rw [← HF3.out]; unfold operandsOf; rw [if_pos (by rw [← HAN.out]; rfl)])
      have y0 := HR1.out.cell 0 (by simp)
      have y1 := HR1.out.cell 1 (by simp)
      have y2 := HR1.out.cell 2 (by simp)
      have x0 := HR0.out.cell 0 (by decide)
      have x1 := HR0.out.cell 1 (by decide)
      have x2 := HR0.out.cell 2 (by decide)
      have z0 := HR0.out.free 0
      have z1 := HR0.out.free 1
      have z2 := HR0.out.free 2
      have hlt0 := HR0.out.lt
      clear hz
      go_wp2
      refine bodyPost_ret (v := .agg #[.string lF, .string opF, .slice none 0 0]) (by simp [results, Tryz.results48, go_sem, x0, x1, x2]) rfl ⟨lF, opF, _, [], rfl, ⟨HF1.out, HF2.out, HO.out.symm, Or.inl ⟨rfl, rfl⟩⟩, ?_⟩
      rw [HB.out]
      exact ((HB1.out.setCell (Nat.le_refl _) _).setCell (Nat.le_refl _) _).setCell (Nat.le_refl _) _
    · have hne := not_empty A (by omega)
      have HO := hid (show (wordsP (cutL (L s))).operands = splitB 44 (L A) by
        rw [← HF3.out]; unfold operandsOf
        rw [if_neg (by rw [← HAN.out]; intro h; exact hz (by rw [← L_length, h]; rfl)), HAN.out])
      clear HF3 HAN hz
      go_wp2_with fail
      refine (split_any A 44 _ hAs HM1.out).mono ?_
      rintro e w5 ⟨v, os, rfl, hst, hos, hb5⟩
      obtain ⟨va, vc, hv⟩ := hst.form
      subst hv
      have HR1 := hid (HR1.out.below hb5)
      have HR0 := hid (HR0.out.below hb5)
      have HB1 := hid (below_on HB1.out (Nat.le_of_eq hB.symm) hb5)
      have hne1 := RowT.notStr HR1.out (by decide)
      have k2 := HR1.out.cell 2 (by simp)
      have m2 := HR1.out.free 2
      have HR1 := hid (show RowT _ 101 (B + 1) [.string lF, .string opF, .slice va os.length vc] from HR1.out.set 2 (.slice va os.length vc))
      have HR0 := hid (HR0.out.other (B + 1) 2 (by omega) (.slice va os.length vc))
      have HB1 := hid (HB1.out.setCell (p := ⟨B + 1, 2, none⟩) (by show B ≤ B + 1; omega) (.slice va os.length vc))
      have HST := hid (((hst.mono (C := B) (by omega)).set (B + 1) 2 (.slice va os.length vc) hne1))
      have hcl := HST.out
      have y0 := HR1.out.cell 0 (by simp)
      have y1 := HR1.out.cell 1 (by simp)
      have y2 := HR1.out.cell 2 (by simp)
      have x0 := HR0.out.cell 0 (by decide)
      have x1 := HR0.out.cell 1 (by decide)
      have x2 := HR0.out.cell 2 (by decide)
      have z0 := HR0.out.free 0
      have z1 := HR0.out.free 1
      have z2 := HR0.out.free 2
      have hlt0 := HR0.out.lt
      have HOS := hid hos
      clear hst hos hb5 hcl hne1
      go_wp2
      refine bodyPost_ret (v := .agg #[.string lF, .string opF, .slice va os.length vc]) (by simp [results, Tryz.results48, go_sem, x0, x1, x2]) rfl ⟨lF, opF, .slice va os.length vc, os, rfl, ⟨HF1.out, HF2.out, HOS.out.trans HO.out.symm, ?_⟩, ?_⟩
      · rw [HB.out]
        exact ((HST.out.set B 0 _ (RowT.notStr HR0.out (by decide))).set B 1 _ (RowT.notStr (HR0.out.set 0 _) (by decide))).set B 2 _ (RowT.notStr ((HR0.out.set 0 _).set 1 _) (by decide))
      · rw [HB.out]
        exact ((HB1.out.setCell (Nat.le_refl _) _).setCell (Nat.le_refl _) _).setCell (Nat.le_refl _) _

end Go.Proofs.YtcepppilgncdmaaGreatDoor
