/-
  What the document's own functions that leave a line, and that give a name a value (package masonref), answer.
-/
import Derived.Test.YtcepppilgncdmaaGreatDoorQIf
import Derived.Test.YtcepppilgncdmaaGreatDoorPOther
namespace Go.Proofs.YtcepppilgncdmaaGreatDoor
open Go.RowKit
attribute [local go_sem ↓] Go.wp_at_zero Go.wp_at_succ

theorem StrV.strsAt {w : World} {B : Nat} {va : Option Addr} {vc : Nat} {ss : List ByteArray} (h : StrV w B (.slice va ss.length vc) ss) : StrsAt w [] va ss := by
  rcases h with ⟨_, h⟩ | ⟨b, off, cap, cur, h1, h2, h3, h4, h5⟩
  · exact Or.inl h
  · injection h1 with h1 _ _
    exact Or.inr ⟨b, off, h1, (Array.getElem?_eq_some_iff.1 h3).1, by simp, fun i hi => by simp [World.cell?, h3, h5 i hi]⟩
theorem qtext_any (lb op : ByteArray) (va : Option Addr) (vc : Nat) (os : List ByteArray) (w : World) (C : Nat) (W : WordsP) (h : PartsV w C lb op (.slice va os.length vc) os W) (hw : WOk W ∨ (os = [] ∧ lb.size ≤ 1000 ∧ op.size ≤ 1000)) :
    Calls Tryz.prog 156 #[.agg #[.string lb, .string op, .slice va os.length vc]] w fun e w' => ∃ t, L t = textP W ∧ e = .returned (.string t) ∧ Below w.heap.size w w' := by
  have hb : lb.size ≤ 1000000 ∧ op.size ≤ 1000000 ∧ sumLen (os.map L) ≤ 1000000 ∧ os.length ≤ 1000000 := by
    rcases hw with hw | ⟨rfl, h1, h2⟩
    · obtain ⟨b1, b2, b3, b4, b5⟩ := hw.bd
      have b6 := sumLen_bd _ 100 b4
      have b7 : W.operands.length * (100 + 1) ≤ 101 * 101 := Nat.mul_le_mul b3 (by omega)
      have b8 : W.operands.length = os.length := h.two.2.1
      refine ⟨by rw [size_L, h.label]; omega, by rw [size_L, h.op]; omega, by rw [h.ops]; omega, by omega⟩
    · exact ⟨by omega, by omega, by simp [sumLen], by simp⟩
  refine (text_any lb op va vc os [] w hb.1 hb.2.1 hb.2.2.1 hb.2.2.2 h.at_.strsAt).mono ?_
  rintro e w' ⟨t, ht, he, hbl⟩
  refine ⟨t, ?_, he, hbl⟩
  rw [ht, h.label, h.op, h.ops]

/-- A line more is left. -/
theorem RdAt.line {w w4 : World} {B r : Nat} {vm vn vl : Value} {ms : List MacQ} {ns : List (ByteArray × Int)} {outs : List (ByteArray × Nat)} {calls : Nat} (h : RdAt w B r vm vn vl ms ns outs calls) (hg : w.grownBy w4 vl.ownBlock) {gg cap : Nat} {t : ByteArray} {at_ : Nat}
    (ho : w4.ownsRow B 38 4 (.slice (some ⟨gg, 0, none⟩) (outs.length + 1) cap) (outs.length + 1) (lineCells outs ++ [.string t, .int .i64 (at_ : Nat), .int .i64 0, .int .i64 0])) :
    RdAt (w4.setCell ⟨r, 2, none⟩ (.slice (some ⟨gg, 0, none⟩) (outs.length + 1) cap)) B r vm vn (.slice (some ⟨gg, 0, none⟩) (outs.length + 1) cap) ms ns (outs ++ [(t, at_)]) calls ∧
    Fq B [] w (w4.setCell ⟨r, 2, none⟩ (.slice (some ⟨gg, 0, none⟩) (outs.length + 1) cap)) := by
  have hne : vl.ownBlock ≠ some r := own_row_ne h.lown h.row (by decide)
  have hr4 := RowT.grown' h.row hg (Ne.symm hne)
  have hm4 := h.mown.kept hg (by
    cases hv : vm.ownBlock with
    | none => exact Or.inl rfl
    | some g => exact Or.inr (fun e1 => own_own_ne h.mown h.lown (by decide) (g := g) (by rw [← e1]) hv))
  have hn4 := h.nown.kept hg (by
    cases hv : vn.ownBlock with
    | none => exact Or.inl rfl
    | some g => exact Or.inr (fun e1 => own_own_ne h.nown h.lown (by decide) (g := g) (by rw [← e1]) hv))
  have hf4 : Fq B [] w w4 := (Fq.refl B [] w).grown hg (own_mayQ h.lown (fun _ _ => Or.inl rfl))
  have hf5 := hf4.setCell (p := ⟨r, 2, none⟩) (hr4.mayQ h.at_ (Or.inl rfl)) (.slice (some ⟨gg, 0, none⟩) (outs.length + 1) cap)
  refine ⟨⟨hr4.set 2 _, ?_, ?_, ?_, fun m hm => (h.macs m hm).fq hf5 (by simp), h.at_⟩, hf5⟩
  · exact ownsRow_setCell_other hm4 (a := ⟨r, 2, none⟩) (own_row_ne hm4 hr4 (by decide)) _
  · exact ownsRow_setCell_other hn4 (a := ⟨r, 2, none⟩) (own_row_ne hn4 hr4 (by decide)) _
  · rw [lineCells_append, List.length_append]
    exact ownsRow_setCell_other ho (a := ⟨r, 2, none⟩) (own_row_ne ho hr4 (by decide)) _

set_option maxRecDepth 100000 in
set_option maxHeartbeats 1600000 in
theorem left_any (w : World) (B r at_ : Nat) (vm vn vl : Value) (ms : List MacQ) (ns : List (ByteArray × Int)) (outs : List (ByteArray × Nat)) (calls : Nat) (lb op : ByteArray) (va : Option Addr) (vc : Nat) (os : List ByteArray) (W : WordsP) (C : Nat) (hx : RdAt w B r vm vn vl ms ns outs calls) (hp : PartsV w C lb op (.slice va os.length vc) os W) (hw : WOk W ∨ (os = [] ∧ lb.size ≤ 1000 ∧ op.size ≤ 1000)) (hne : textP W ≠ []) (hol : outs.length ≤ 300) (hB : B ≤ w.heap.size) :
    Calls Tryz.prog 134 #[.pointer (some ⟨r, 0, none⟩), .agg #[.string lb, .string op, .slice va os.length vc], .int .i64 (at_ : Nat)] w fun e w' => e = .returned (.tuple #[]) ∧ Fq B [] w w' ∧
      ((leaveP W at_ (stQ ms ns outs calls)).1 = 0 → ∃ vl' outs', RdAt w' B r vm vn vl' ms ns outs' calls ∧ (leaveP W at_ (stQ ms ns outs calls)).2 = stQ ms ns outs' calls) ∧ ((leaveP W at_ (stQ ms ns outs calls)).1 ≠ 0 → RdErr w' r (leaveP W at_ (stQ ms ns outs calls)).1 at_) := by
  obtain ⟨i0, hi0, hz0, hz1, hz2⟩ := info_parts info_line
  obtain ⟨x, hxr⟩ : ∃ x, leaveP W at_ (stQ ms ns outs calls) = x := ⟨_, rfl⟩
  rw [hxr]
  unfold leaveP at hxr
  rw [if_neg hne] at hxr
  have hb0 : Below w.heap.size w (w.alloc (.cells #[.string lb, .string op, .slice va os.length vc] 134)) := (Below.refl _ _).alloc (Nat.le_refl _) _
  have HX := hid (hx.below hb0)
  have HP := hid (hp.below hb0)
  have HW := hid hw
  have HF := hid (show Fq B [] w (w.alloc (.cells #[.string lb, .string op, .slice va os.length vc] 134)) from Fq.of_below hb0)
  have HBX := hid (show RowT (w.alloc (.cells #[.string lb, .string op, .slice va os.length vc] 134)) 134 w.heap.size [.string lb, .string op, .slice va os.length vc] from RowT.new w 134 [.string lb, .string op, .slice va os.length vc])
  have hB1 : B ≤ (w.alloc (.cells #[.string lb, .string op, .slice va os.length vc] 134)).heap.size := Nat.le_trans hB HF.out.size
  clear hx hp hb0 hw hne
  go_enter Tryz.func134, Tryz.ntmps134
  go_upto_region 1 with fail
  generalize w.alloc (.cells #[.string lb, .string op, .slice va os.length vc] 134) = w1 at HX HP HF HBX hB1 ⊢
  obtain ⟨bx, hbx⟩ : ∃ bx, w.heap.size = bx := ⟨_, rfl⟩
  rw [hbx] at HBX ⊢
  clear hbx
  have y0 := HBX.out.cell 0 (by simp)
  have y1 := HBX.out.cell 1 (by simp)
  have y2 := HBX.out.cell 2 (by simp)
  obtain ⟨al, cl, hvl⟩ := own_form HX.out.lown
  subst hvl
  have c2 : w1.cell? ⟨r, 2, none⟩ = some (.slice al outs.length cl) := HX.out.row.cell 2 (by simp)
  by_cases h300 : 300 ≤ outs.length
  · rw [if_pos (by simpa [stQ] using h300)] at hxr
    have d3 : decide ((300 : Int) ≤ outs.length) = true := by simp; omega
    have HXR := hid hxr
    clear hxr
    go_wp2_with (first | (go_at_call 60; refine (bad_any _ r _ _ _ _ _ 8 at_ HX.out.row).mono ?_; rintro e w2 ⟨rfl, rfl⟩))
    refine bodyPost_ret (results_none rfl _ _ _) rfl ?_
    obtain ⟨p1, p2⟩ := bad_post (er := 8) (at_ := at_) HX.out.row HX.out.at_
    rw [← HXR.out]
    exact ⟨rfl, HF.out.trans p1, (fun c => by cases c), fun _ => p2⟩
  · rw [if_neg (by simp [stQ]; omega)] at hxr
    have d3 : decide ((300 : Int) ≤ outs.length) = false := by simp; omega
    have HXR := hid hxr
    clear hxr
    go_upto_region 4 with (first | (go_at_call 156; refine (qtext_any lb op va vc os _ C W HP.out HW.out).mono ?_; rintro e w2 ⟨t, ht, rfl, hb2⟩))
    have HX := hid (HX.out.below hb2)
    have HF := hid (HF.out.trans (Fq.of_below hb2))
    have hB2 : B ≤ w2.heap.size := Nat.le_trans hB HF.out.size
    have HT := hid ht
    clear ht hb2 y0 y1 y2 c2
    have c2 : w2.cell? ⟨r, 2, none⟩ = some (.slice al outs.length cl) := HX.out.row.cell 2 (by simp)
    have f2 := HX.out.row.free 2
    have hlt := HX.out.row.lt
    have hneb : (Value.slice al outs.length cl).ownBlock ≠ some r := own_row_ne HX.out.lown HX.out.row (by decide)
    go_wp2_with (first | (at_builtin; refine wpList_append_lies _ rfl (.tmp 22) (.tmp 26) 26 rfl B 38 i0 _ 4 40 Tryz.underlying26 hi0 hz0 hz1 hz2 rfl (by omega) (.slice al outs.length cl) outs.length (lineCells outs) rfl (HX.out.lown.alloc _) ⟨_, 0, none⟩ 1 1 [.string t, .int .i64 (at_ : Nat), .int .i64 0, .int .i64 0] rfl rfl (World.news_of_block (cs := #[.string t, .int .i64 (at_ : Nat), .int .i64 0, .int .i64 0]) (t := 38) (fr := (0, 0)) (heap_alloc_new _ _)) (by simp [Value.oneCell']) (by omega) (by unfold maxLen; omega) (by omega) (by simp; omega) _ rfl ?_; intro gg cap' w4 hown4 hgrow hat hlt4; have hc4 := (hgrow.cell_far ⟨r, 2, none⟩ (by simp; omega) (Ne.symm hneb)).trans (((Below.refl w2.heap.size w2).alloc (Nat.le_refl _) (.cells #[.string t, .int .i64 (at_ : Nat), .int .i64 0, .int .i64 0] 38)).cell (p := ⟨r, 2, none⟩) hlt |>.trans c2); have hf4 := (hgrow.frozen_far ⟨r, 2, none⟩ (by simp; omega) (Ne.symm hneb)).trans (((Below.refl w2.heap.size w2).alloc (Nat.le_refl _) (.cells #[.string t, .int .i64 (at_ : Nat), .int .i64 0, .int .i64 0] 38)).frozen (p := ⟨r, 2, none⟩) hlt |>.trans f2)))
    have hb2 : Below w2.heap.size w2 (w2.alloc (.cells #[.string t, .int .i64 (at_ : Nat), .int .i64 0, .int .i64 0] 38)) := (Below.refl _ _).alloc (Nat.le_refl _) _
    have HL := hid ((HX.out.below hb2).line hgrow hown4)
    have HF2 := hid ((HF.out.trans (Fq.of_below hb2)).trans HL.out.2)
    go_end0
    rw [← HXR.out]
    exact ⟨rfl, HF2.out, fun _ => ⟨_, _, HL.out.1, by simp [stQ, HT.out]⟩, fun c => absurd rfl c⟩

end Go.Proofs.YtcepppilgncdmaaGreatDoor
