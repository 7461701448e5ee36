/-
  What the program's functions that leave a line, and that give a name a value, answer (package expand).
-/
import Derived.Test.YtcepppilgncdmaaDoorPExp
namespace Go.Proofs.YtcepppilgncdmaaDoor
open Go.RowKit
attribute [local go_sem ↓] Go.wp_at_zero Go.wp_at_succ

theorem ExpAt.below {w w' : World} {B be bt wi k : Nat} {vm vn vl : Value} {ms : List MacV} {ns : List (ByteArray × Int)} {outs : List (ByteArray × Nat)} {calls : Nat} (h : ExpAt w B be bt wi k vm vn vl ms ns outs calls) (hb : Below w.heap.size w w') : ExpAt w' B be bt wi k vm vn vl ms ns outs calls :=
  ⟨h.row.below hb, ownsRow_belowP h.mown hb, ownsRow_belowP h.nown hb, ownsRow_belowP h.lown hb, fun m hm => ⟨(h.mstr m hm).1.below hb, (h.mstr m hm).2.below hb⟩, h.at_, by obtain ⟨xs, h1, h2⟩ := h.text; exact ⟨xs, h1.below hb, h2⟩⟩
theorem ExpAt.namesAt {w : World} {B be bt wi k : Nat} {vm vn vl : Value} {ms : List MacV} {ns : List (ByteArray × Int)} {outs : List (ByteArray × Nat)} {calls : Nat} (h : ExpAt w B be bt wi k vm vn vl ms ns outs calls) : ∃ a cap, vn = .slice a ns.length cap ∧ NamesAt w a ns := by
  rcases h.nown.2 with ⟨rfl, h0⟩ | ⟨g, cap, cur, rfl, hb, hg, _⟩
  · exact ⟨none, 0, by rw [h0], Or.inl (List.eq_nil_of_length_eq_zero h0)⟩
  · refine ⟨_, cap, rfl, Or.inr ⟨g, 0, rfl, (Array.getElem?_eq_some_iff.1 hg).1, fun i hi => ?_⟩⟩
    have h1 := h.nown.cellAt (i * 2) (by omega)
    have h2 := h.nown.cellAt (i * 2 + 1) (by omega)
    rw [(nameCells_at ns i hi).1] at h1
    rw [(nameCells_at ns i hi).2] at h2
    rw [Nat.zero_add]
    exact ⟨h1, h2⟩

theorem info_line : (Tryd.prog.info? 35).map (fun i => (i.zero, i.size, i.bytes)) = some (some (.agg #[.string ⟨#[]⟩, .int .i64 0, .int .i64 0, .int .i64 0]), 4, 40) := by kernel_rfl
theorem info_name : (Tryd.prog.info? 89).map (fun i => (i.zero, i.size, i.bytes)) = some (some (.agg #[.string ⟨#[]⟩, .int .i64 0]), 2, 24) := by kernel_rfl
theorem info_mac : (Tryd.prog.info? 83).map (fun i => (i.zero, i.size, i.bytes)) = some (some (.agg #[.string ⟨#[]⟩, .slice none 0 0, .slice none 0 0]), 3, 64) := by kernel_rfl

/-- An expansion in this state. -/
def ExpSt (w : World) (B be bt wi k : Nat) (st : StP) : Prop := ∃ vm vn vl ms ns outs calls, ExpAt w B be bt wi k vm vn vl ms ns outs calls ∧ st = stOf ms ns outs calls
def ExpPost (B be bt wi k : Nat) (M : List Nat) (r : Int × StP) (w : World) (e : Ending) (w' : World) : Prop :=
  e = .returned (.int .i64 r.1) ∧ Fr B M w w' ∧ (r.1 = 0 → ExpSt w' B be bt wi k r.2) ∧ NumAt w' be bt wi k

/-- A line more is left. -/
theorem ExpAt.line {w w4 : World} {B be bt wi k : Nat} {vm vn vl : Value} {ms : List MacV} {ns : List (ByteArray × Int)} {outs : List (ByteArray × Nat)} {calls : Nat} (h : ExpAt w B be bt wi k vm vn vl ms ns outs calls) (hg : w.grownBy w4 vl.ownBlock) {gg cap : Nat} {t : ByteArray} {at_ : Nat}
    (ho : w4.ownsRow B 35 4 (.slice (some ⟨gg, 0, none⟩) (outs.length + 1) cap) (outs.length + 1) (lineCells outs ++ [.string t, .int .i64 (at_ : Nat), .int .i64 0, .int .i64 0])) :
    ExpAt (w4.setCell ⟨be, 5, none⟩ (.slice (some ⟨gg, 0, none⟩) (outs.length + 1) cap)) B be bt wi k vm vn (.slice (some ⟨gg, 0, none⟩) (outs.length + 1) cap) ms ns (outs ++ [(t, at_)]) calls ∧
    Fr B [] w (w4.setCell ⟨be, 5, none⟩ (.slice (some ⟨gg, 0, none⟩) (outs.length + 1) cap)) := by
  have hne : vl.ownBlock ≠ some be := own_row_ne h.lown h.row (by decide)
  have hr4 : RowT w4 53 be [.pointer (some ⟨bt, 0, none⟩), vm, vn, .int .i64 (wi : Nat), .int .i64 (calls : Nat), vl] := RowT.grown' h.row hg (Ne.symm hne)
  have hm4 := h.mown.kept hg (by
    cases hv : vm.ownBlock with
    | none => exact Or.inl rfl
    | some g => exact Or.inr (fun e1 => own_own_ne h.mown h.lown (by decide) (g := g) (by rw [← e1]) hv))
  have hn4 := h.nown.kept hg (by
    cases hv : vn.ownBlock with
    | none => exact Or.inl rfl
    | some g => exact Or.inr (fun e1 => own_own_ne h.nown h.lown (by decide) (g := g) (by rw [← e1]) hv))
  have hf4 : Fr B [] w w4 := (Fr.refl B [] w).grown hg (own_may h.lown (fun _ _ => Or.inl rfl))
  have hf5 := hf4.setCell (p := ⟨be, 5, none⟩) (hr4.may h.at_ (Or.inl rfl)) (.slice (some ⟨gg, 0, none⟩) (outs.length + 1) cap)
  refine ⟨⟨hr4.set 5 _, ?_, ?_, ?_, fun m hm => ⟨(h.mstr m hm).1.fr hf5, (h.mstr m hm).2.fr hf5⟩, h.at_, ?_⟩, hf5⟩
  · exact ownsRow_setCell_other hm4 (a := ⟨be, 5, none⟩) (own_row_ne hm4 hr4 (by decide)) _
  · exact ownsRow_setCell_other hn4 (a := ⟨be, 5, none⟩) (own_row_ne hn4 hr4 (by decide)) _
  · rw [lineCells_append, List.length_append]
    exact ownsRow_setCell_other ho (a := ⟨be, 5, none⟩) (own_row_ne ho hr4 (by decide)) _
  · obtain ⟨xs, h1, h2⟩ := h.text
    exact ⟨xs, h1.fr hf5 rfl (fun _ => by simp), h2⟩

/-- What leave answers: the macros and the names stay. -/
def LeavePost (B be bt wi k : Nat) (vm vn : Value) (ms : List MacV) (ns : List (ByteArray × Int)) (calls : Nat) (r : Int × StP) (w : World) (e : Ending) (w' : World) : Prop :=
  e = .returned (.int .i64 r.1) ∧ Fr B [] w w' ∧ (r.1 = 0 → ∃ vl outs, ExpAt w' B be bt wi k vm vn vl ms ns outs calls ∧ r.2 = stOf ms ns outs calls) ∧ NumAt w' be bt wi k

set_option maxRecDepth 100000 in
set_option maxHeartbeats 1600000 in
theorem leave_any' (w : World) (B be bt wi k : Nat) (vm vn vl : Value) (ms : List MacV) (ns : List (ByteArray × Int)) (outs : List (ByteArray × Nat)) (calls : Nat) (lb op : ByteArray) (va : Option Addr) (vc : Nat) (os : List ByteArray) (W : WordsP) (C : Nat) (hx : ExpAt w B be bt wi k vm vn vl ms ns outs calls) (hp : PartsV w C lb op (.slice va os.length vc) os W) (hl : (textP W).length ≤ 1000000) (hn : os.length ≤ 1000000) (hok : (stOf ms ns outs calls).out.length ≤ 300) (hB : B ≤ w.heap.size) :
    Calls Tryd.prog 28 #[.pointer (some ⟨be, 0, none⟩), .agg #[.string lb, .string op, .slice va os.length vc]] w (LeavePost B be bt wi k vm vn ms ns calls (leaveP W k (stOf ms ns outs calls)) w) := by
  obtain ⟨i0, hi0, hz0, hz1, hz2⟩ := info_parts info_line
  have hb0 : Below w.heap.size w (w.alloc (.cells #[.string lb, .string op, .slice va os.length vc] 61)) := (Below.refl _ _).alloc (Nat.le_refl _) _
  have HX := hid (hx.below hb0)
  have HP := hid (hp.below hb0)
  have HF := hid (show Fr B [] w (w.alloc (.cells #[.string lb, .string op, .slice va os.length vc] 61)) from Fr.of_below hb0)
  have hol : outs.length ≤ 300 := by simpa [stOf] using hok
  clear hx hp hb0 hok
  go_enter Tryd.func28, Tryd.ntmps28
  go_wp2_with fail
  refine (Text_any lb op va vc os _ C W HP.out hl hn).mono ?_
  rintro e w1 ⟨t, ht, rfl, hb1⟩
  have HX := hid (HX.out.below hb1)
  have HF := hid (HF.out.trans (Fr.of_below hb1))
  have HT := hid ht
  have hB1 : B ≤ w1.heap.size := Nat.le_trans hB HF.out.size
  clear hb1 ht HP
  by_cases hz : t.size = 0
  · have kz := is_empty t hz
    have HR := hid (show leaveP W k (stOf ms ns outs calls) = (0, stOf ms ns outs calls) by unfold leaveP; rw [if_pos (by rw [← HT.out]; exact L_zero hz)])
    clear hz
    go_wp2
    go_ret
    rw [HR.out]
    exact ⟨rfl, HF.out, fun _ => ⟨vl, outs, HX.out, rfl⟩, HX.out.num⟩
  · have kz := not_empty t (by omega)
    have hne : ¬ textP W = [] := fun e => hz (by rw [size_L, HT.out, e]; rfl)
    obtain ⟨al, cl, hvl⟩ := own_form HX.out.lown
    have c5 := HX.out.row.cell 5 (by simp)
    have f5 := HX.out.row.free 5
    have c5 : w1.cell? ⟨be, 5, none⟩ = some (.slice al outs.length cl) := by rw [← hvl]; exact c5
    by_cases h300 : outs.length = 300
    · have kk : ((outs.length : Int) == 300) = true := by rw [beq_iff_eq]; omega
      have HR := hid (show leaveP W k (stOf ms ns outs calls) = (8, stOf ms ns outs calls) by unfold leaveP; rw [if_neg hne, if_pos (by simp [stOf, h300])])
      clear hz hne h300
      go_wp2
      go_ret
      rw [HR.out]
      exact ⟨rfl, HF.out, (fun h => by cases h), HX.out.num⟩
    · have kk : ((outs.length : Int) == 300) = false := by rw [beq_eq_false_iff_ne]; omega
      have HR := hid (show leaveP W k (stOf ms ns outs calls) = (0, stOf ms ns (outs ++ [(t, k)]) calls) by
        unfold leaveP; rw [if_neg hne, if_neg (by simp [stOf]; omega)]
        simp [stOf, HT.out])
      subst hvl
      have hlt := HX.out.row.lt
      have hneb : (Value.slice al outs.length cl).ownBlock ≠ some be := own_row_ne HX.out.lown HX.out.row (by decide)
      clear hz hne h300
      go_wp2_with fail
      go_region_law
        (first
          | (rw [if_pos (by rfl)]; go_simp; go_at_call 13; refine (number_any' _ B be bt wi k vm vn _ ms ns outs calls (HX.out.below ((Below.refl _ _).drew))).mono ?_; rintro e w' ⟨rfl, hw'⟩; subst hw')
          | (refine step_append_lies _ (by rfl) _ _ _ (by rfl) B 35 i0 _ 4 40 Tryd.underlying30 hi0 hz0 hz1 hz2 rfl (by omega) (.slice al outs.length cl) outs.length (lineCells outs) (by rfl) ((HX.out.lown.alloc _).drew) ⟨_, 0, none⟩ 1 1 [.string t, .int .i64 (k : Nat), .int .i64 0, .int .i64 0] (by rfl) (by rfl) (World.news_of_block (cs := #[.string t, .int .i64 (k : Nat), .int .i64 0, .int .i64 0]) (t := 35) (fr := (0, 0)) (heap_alloc_new _ _)) (by simp [Value.oneCell']) (by omega) (by unfold maxLen; omega) (by omega) (by simp; omega) _ rfl ?_; intro gg cap' w4 hown4 hgrow hat hlt4; have hc4 := (hgrow.cell_far ⟨be, 5, none⟩ (by simp; omega) (Ne.symm hneb)).trans ((((Below.refl w1.heap.size w1).alloc (Nat.le_refl _) _).drew.cell (p := ⟨be, 5, none⟩) hlt).trans c5); have hf4 := (hgrow.frozen_far ⟨be, 5, none⟩ (by simp; omega) (Ne.symm hneb)).trans ((((Below.refl w1.heap.size w1).alloc (Nat.le_refl _) _).drew.frozen (p := ⟨be, 5, none⟩) hlt).trans f5)))
      all_goals
        have hb2 : Below w1.heap.size w1 (w1.alloc (.cells #[.string t, .int .i64 (k : Nat), .int .i64 0, .int .i64 0] 35)).drew := ((Below.refl _ _).alloc (Nat.le_refl _) _).drew
        have HL := hid ((HX.out.below hb2).line hgrow hown4)
        have HF2 := hid ((HF.out.trans (Fr.of_below hb2)).trans HL.out.2)
        clear hown4 hgrow hat hc4 hf4
        go_wp2
        go_ret
        rw [HR.out]
        exact ⟨rfl, HF2.out, fun _ => ⟨_, _, HL.out.1, rfl⟩, HL.out.1.num⟩

theorem leave_any (w : World) (B be bt wi k : Nat) (st : StP) (lb op : ByteArray) (va : Option Addr) (vc : Nat) (os : List ByteArray) (W : WordsP) (C : Nat) (h : ExpSt w B be bt wi k st) (hp : PartsV w C lb op (.slice va os.length vc) os W) (hl : (textP W).length ≤ 1000000) (hn : os.length ≤ 1000000) (hok : st.out.length ≤ 300) (hB : B ≤ w.heap.size) :
    Calls Tryd.prog 28 #[.pointer (some ⟨be, 0, none⟩), .agg #[.string lb, .string op, .slice va os.length vc]] w (ExpPost B be bt wi k [] (leaveP W k st) w) := by
  obtain ⟨vm, vn, vl, ms, ns, outs, calls, hx, rfl⟩ := h
  refine (leave_any' w B be bt wi k vm vn vl ms ns outs calls lb op va vc os W C hx hp hl hn hok hB).mono ?_
  rintro e w' ⟨h1, h2, h3, h4⟩
  refine ⟨h1, h2, fun h0 => ?_, h4⟩
  obtain ⟨vl', outs', h5, h6⟩ := h3 h0
  exact ⟨vm, vn, vl', ms, ns, outs', calls, h5, h6⟩

end Go.Proofs.YtcepppilgncdmaaDoor
