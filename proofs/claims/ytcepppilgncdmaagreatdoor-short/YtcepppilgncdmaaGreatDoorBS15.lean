/-
  What the program's functions that leave a line, and that give a name a value, answer (package expand).
  Lines and statements of an assembly, as they lie in memory (package assemble).
  What an assembly holds in memory (package assemble).
  What an assembly holds, behind one thing more (package assemble).
  How many bytes a statement makes (package assemble).
-/
import Derived.Test.YtcepppilgncdmaaGreatDoorBS14
import Derived.Test.YtcepppilgncdmaaGreatDoorBS08
import Derived.Test.YtcepppilgncdmaaGreatDoorBS03
import Derived.Test.YtcepppilgncdmaaGreatDoorBS09
import Derived.BigQuiet
import Derived.Deep.QuietTactic
import Derived.Deep.CutBlock
import Derived.Deep.DeepCutAuto
import Derived.WalkSmall
namespace Go.Proofs.YtcepppilgncdmaaGreatDoor
open Go.RowKit
attribute [local go_sem ↓] Go.wp_at_zero Go.wp_at_succ

theorem ExpAt.below {w w' : World} {B be bt wi k : Nat} {vm vn vl : Value} {ms : List MacV} {ns : List (ByteArray × Int)} {outs : List (ByteArray × Nat)} {calls : Nat} (h : ExpAt w B be bt wi k vm vn vl ms ns outs calls) (hb : Below w.heap.size w w') : ExpAt w' B be bt wi k vm vn vl ms ns outs calls :=
  ⟨h.row.below hb, ownsRow_belowP h.mown hb, ownsRow_belowP h.nown hb, ownsRow_belowP h.lown hb, fun m hm => ⟨(h.mstr m hm).1.below hb, (h.mstr m hm).2.below hb⟩, h.at_, by obtain ⟨xs, h1, h2⟩ := h.text; exact ⟨xs, h1.below hb, h2⟩⟩
theorem ExpAt.namesAt {w : World} {B be bt wi k : Nat} {vm vn vl : Value} {ms : List MacV} {ns : List (ByteArray × Int)} {outs : List (ByteArray × Nat)} {calls : Nat} (h : ExpAt w B be bt wi k vm vn vl ms ns outs calls) : ∃ a cap, vn = .slice a ns.length cap ∧ NamesAt w a ns := by
  rcases h.nown.2 with ⟨rfl, h0⟩ | ⟨g, cap, cur, rfl, hb, hg, _⟩
  · exact ⟨none, 0, by rw [h0], Or.inl (List.eq_nil_of_length_eq_zero h0)⟩
  · refine ⟨_, cap, rfl, Or.inr ⟨g, 0, rfl, (Array.getElem?_eq_some_iff.1 hg).1, fun i hi => ?_⟩⟩
    have h1 := h.nown.cellAt (i * 2) (by omega)
    have h2 := h.nown.cellAt (i * 2 + 1) (by omega)
    rw [(nameCells_at ns i hi).1] at h1
    rw [(nameCells_at ns i hi).2] at h2
    rw [Nat.zero_add]
    exact ⟨h1, h2⟩

theorem info_line : (Tryz.prog.info? 38).map (fun i => (i.zero, i.size, i.bytes)) = some (some (.agg #[.string ⟨#[]⟩, .int .i64 0, .int .i64 0, .int .i64 0]), 4, 40) := by kernel_rfl
theorem info_name : (Tryz.prog.info? 40).map (fun i => (i.zero, i.size, i.bytes)) = some (some (.agg #[.string ⟨#[]⟩, .int .i64 0]), 2, 24) := by kernel_rfl
theorem info_mac : (Tryz.prog.info? 202).map (fun i => (i.zero, i.size, i.bytes)) = some (some (.agg #[.string ⟨#[]⟩, .slice none 0 0, .slice none 0 0]), 3, 64) := by kernel_rfl

/-- An expansion in this state. -/
def ExpSt (w : World) (B be bt wi k : Nat) (st : StP) : Prop := ∃ vm vn vl ms ns outs calls, ExpAt w B be bt wi k vm vn vl ms ns outs calls ∧ st = stOf ms ns outs calls
def ExpPost (B be bt wi k : Nat) (M : List Nat) (r : Int × StP) (w : World) (e : Ending) (w' : World) : Prop :=
  e = .returned (.int .i64 r.1) ∧ Fr B M w w' ∧ (r.1 = 0 → ExpSt w' B be bt wi k r.2) ∧ NumAt w' be bt wi k

/-- A line more is left. -/
theorem ExpAt.line {w w4 : World} {B be bt wi k : Nat} {vm vn vl : Value} {ms : List MacV} {ns : List (ByteArray × Int)} {outs : List (ByteArray × Nat)} {calls : Nat} (h : ExpAt w B be bt wi k vm vn vl ms ns outs calls) (hg : w.grownBy w4 vl.ownBlock) {gg cap : Nat} {t : ByteArray} {at_ : Nat}
    (ho : w4.ownsRow B 38 4 (.slice (some ⟨gg, 0, none⟩) (outs.length + 1) cap) (outs.length + 1) (lineCells outs ++ [.string t, .int .i64 (at_ : Nat), .int .i64 0, .int .i64 0])) :
    ExpAt (w4.setCell ⟨be, 5, none⟩ (.slice (some ⟨gg, 0, none⟩) (outs.length + 1) cap)) B be bt wi k vm vn (.slice (some ⟨gg, 0, none⟩) (outs.length + 1) cap) ms ns (outs ++ [(t, at_)]) calls ∧
    Fr B [] w (w4.setCell ⟨be, 5, none⟩ (.slice (some ⟨gg, 0, none⟩) (outs.length + 1) cap)) := by
  have hne : vl.ownBlock ≠ some be := own_row_ne h.lown h.row (by decide)
  have hr4 : RowT w4 77 be [.pointer (some ⟨bt, 0, none⟩), vm, vn, .int .i64 (wi : Nat), .int .i64 (calls : Nat), vl] := RowT.grown' h.row hg (Ne.symm hne)
  have hm4 := h.mown.kept hg (by
    cases hv : vm.ownBlock with
    | none => exact Or.inl rfl
    | some g => exact Or.inr (fun e1 => own_own_ne h.mown h.lown (by decide) (g := g) (by rw [← e1]) hv))
  have hn4 := h.nown.kept hg (by
    cases hv : vn.ownBlock with
    | none => exact Or.inl rfl
    | some g => exact Or.inr (fun e1 => own_own_ne h.nown h.lown (by decide) (g := g) (by rw [← e1]) hv))
  have hf4 : Fr B [] w w4 := (Fr.refl B [] w).grown hg (own_may h.lown (fun _ _ => Or.inl rfl))
  have hf5 := hf4.setCell (p := ⟨be, 5, none⟩) (hr4.may h.at_ (Or.inl rfl)) (.slice (some ⟨gg, 0, none⟩) (outs.length + 1) cap)
  refine ⟨⟨hr4.set 5 _, ?_, ?_, ?_, fun m hm => ⟨(h.mstr m hm).1.fr hf5, (h.mstr m hm).2.fr hf5⟩, h.at_, ?_⟩, hf5⟩
  · exact ownsRow_setCell_other hm4 (a := ⟨be, 5, none⟩) (own_row_ne hm4 hr4 (by decide)) _
  · exact ownsRow_setCell_other hn4 (a := ⟨be, 5, none⟩) (own_row_ne hn4 hr4 (by decide)) _
  · rw [lineCells_append, List.length_append]
    exact ownsRow_setCell_other ho (a := ⟨be, 5, none⟩) (own_row_ne ho hr4 (by decide)) _
  · obtain ⟨xs, h1, h2⟩ := h.text
    exact ⟨xs, h1.fr hf5 rfl (fun _ => by simp), h2⟩

/-- What leave answers: the macros and the names stay. -/
def LeavePost (B be bt wi k : Nat) (vm vn : Value) (ms : List MacV) (ns : List (ByteArray × Int)) (calls : Nat) (r : Int × StP) (w : World) (e : Ending) (w' : World) : Prop :=
  e = .returned (.int .i64 r.1) ∧ Fr B [] w w' ∧ (r.1 = 0 → ∃ vl outs, ExpAt w' B be bt wi k vm vn vl ms ns outs calls ∧ r.2 = stOf ms ns outs calls) ∧ NumAt w' be bt wi k

set_option maxRecDepth 100000 in
set_option maxHeartbeats 1600000 in
theorem leave_any' (w : World) (B be bt wi k : Nat) (vm vn vl : Value) (ms : List MacV) (ns : List (ByteArray × Int)) (outs : List (ByteArray × Nat)) (calls : Nat) (lb op : ByteArray) (va : Option Addr) (vc : Nat) (os : List ByteArray) (W : WordsP) (C : Nat) (hx : ExpAt w B be bt wi k vm vn vl ms ns outs calls) (hp : PartsV w C lb op (.slice va os.length vc) os W) (hl : (textP W).length ≤ 1000000) (hn : os.length ≤ 1000000) (hok : (stOf ms ns outs calls).out.length ≤ 300) (hB : B ≤ w.heap.size) :
    Calls Tryz.prog 110 #[.pointer (some ⟨be, 0, none⟩), .agg #[.string lb, .string op, .slice va os.length vc]] w (LeavePost B be bt wi k vm vn ms ns calls (leaveP W k (stOf ms ns outs calls)) w) := by
  obtain ⟨i0, hi0, hz0, hz1, hz2⟩ := info_parts info_line
  have hb0 : Below w.heap.size w (w.alloc (.cells #[.string lb, .string op, .slice va os.length vc] 101)) := (Below.refl _ _).alloc (Nat.le_refl _) _
  have HX := hid (hx.below hb0)
  have HP := hid (hp.below hb0)
  have HF := hid (show Fr B [] w (w.alloc (.cells #[.string lb, .string op, .slice va os.length vc] 101)) from Fr.of_below hb0)
  have hol : outs.length ≤ 300 := by simpa [stOf] using hok
  clear hx hp hb0 hok
  go_enter Tryz.func110, Tryz.ntmps110
  go_wp2_with fail
  refine (Text_any lb op va vc os _ C W HP.out hl hn).mono ?_
  rintro e w1 ⟨t, ht, rfl, hb1⟩
  have HX := hid (HX.out.below hb1)
  have HF := hid (HF.out.trans (Fr.of_below hb1))
  have HT := hid ht
  have hB1 : B ≤ w1.heap.size := Nat.le_trans hB HF.out.size
  clear hb1 ht HP
  by_cases hz : t.size = 0
  · have kz := is_empty t hz
    have HR := hid (show leaveP W k (stOf ms ns outs calls) = (0, stOf ms ns outs calls) by unfold leaveP; rw [if_pos (by rw [← HT.out]; exact L_zero hz)])
    clear hz
    go_wp2
    go_ret
    rw [HR.out]
    exact ⟨rfl, HF.out, fun _ => ⟨vl, outs, HX.out, rfl⟩, HX.out.num⟩
  · have kz := not_empty t (by omega)
    have hne : ¬ textP W = [] := fun e => hz (by rw [size_L, HT.out, e]; rfl)
    obtain ⟨al, cl, hvl⟩ := own_form HX.out.lown
    have c5 := HX.out.row.cell 5 (by simp)
    have f5 := HX.out.row.free 5
    have c5 : w1.cell? ⟨be, 5, none⟩ = some (.slice al outs.length cl) := by rw [← hvl]; exact c5
    by_cases h300 : outs.length = 300
    · have kk : ((outs.length : Int) == 300) = true := by rw [beq_iff_eq]; omega
      have HR := hid (show leaveP W k (stOf ms ns outs calls) = (8, stOf ms ns outs calls) by unfold leaveP; rw [if_neg hne, if_pos (by simp [stOf, h300])])
      clear hz hne h300
      go_wp2
      go_ret
      rw [HR.out]
      exact ⟨rfl, HF.out, (fun h => by cases h), HX.out.num⟩
    · have kk : ((outs.length : Int) == 300) = false := by rw [beq_eq_false_iff_ne]; omega
      have HR := hid (show leaveP W k (stOf ms ns outs calls) = (0, stOf ms ns (outs ++ [(t, k)]) calls) by
        unfold leaveP; rw [if_neg hne, if_neg (by simp [stOf]; omega)]
        simp [stOf, HT.out])
      subst hvl
      have hlt := HX.out.row.lt
      have hneb : (Value.slice al outs.length cl).ownBlock ≠ some be := own_row_ne HX.out.lown HX.out.row (by decide)
      clear hz hne h300
      go_wp2_with fail
      go_region_law
        (first
          | (rw [if_pos (by rfl)]; go_simp; go_at_call 32; refine (number_any' _ B be bt wi k vm vn _ ms ns outs calls (HX.out.below ((Below.refl _ _).drew))).mono ?_; rintro e w' ⟨rfl, hw'⟩; subst hw')
          | (refine step_append_lies _ (by rfl) _ _ _ (by rfl) B 38 i0 _ 4 40 Tryz.underlying26 hi0 hz0 hz1 hz2 rfl (by omega) (.slice al outs.length cl) outs.length (lineCells outs) (by rfl) ((HX.out.lown.alloc _).drew) ⟨_, 0, none⟩ 1 1 [.string t, .int .i64 (k : Nat), .int .i64 0, .int .i64 0] (by rfl) (by rfl) (World.news_of_block (cs := #[.string t, .int .i64 (k : Nat), .int .i64 0, .int .i64 0]) (t := 38) (fr := (0, 0)) (heap_alloc_new _ _)) (by simp [Value.oneCell']) (by omega) (by unfold maxLen; omega) (by omega) (by simp; omega) _ rfl ?_; intro gg cap' w4 hown4 hgrow hat hlt4; have hc4 := (hgrow.cell_far ⟨be, 5, none⟩ (by simp; omega) (Ne.symm hneb)).trans ((((Below.refl w1.heap.size w1).alloc (Nat.le_refl _) _).drew.cell (p := ⟨be, 5, none⟩) hlt).trans c5); have hf4 := (hgrow.frozen_far ⟨be, 5, none⟩ (by simp; omega) (Ne.symm hneb)).trans ((((Below.refl w1.heap.size w1).alloc (Nat.le_refl _) _).drew.frozen (p := ⟨be, 5, none⟩) hlt).trans f5)))
      all_goals
        have hb2 : Below w1.heap.size w1 (w1.alloc (.cells #[.string t, .int .i64 (k : Nat), .int .i64 0, .int .i64 0] 38)).drew := ((Below.refl _ _).alloc (Nat.le_refl _) _).drew
        have HL := hid ((HX.out.below hb2).line hgrow hown4)
        have HF2 := hid ((HF.out.trans (Fr.of_below hb2)).trans HL.out.2)
        clear hown4 hgrow hat hc4 hf4
        go_wp2
        go_ret
        rw [HR.out]
        exact ⟨rfl, HF2.out, fun _ => ⟨_, _, HL.out.1, rfl⟩, HL.out.1.num⟩

theorem leave_any (w : World) (B be bt wi k : Nat) (st : StP) (lb op : ByteArray) (va : Option Addr) (vc : Nat) (os : List ByteArray) (W : WordsP) (C : Nat) (h : ExpSt w B be bt wi k st) (hp : PartsV w C lb op (.slice va os.length vc) os W) (hl : (textP W).length ≤ 1000000) (hn : os.length ≤ 1000000) (hok : st.out.length ≤ 300) (hB : B ≤ w.heap.size) :
    Calls Tryz.prog 110 #[.pointer (some ⟨be, 0, none⟩), .agg #[.string lb, .string op, .slice va os.length vc]] w (ExpPost B be bt wi k [] (leaveP W k st) w) := by
  obtain ⟨vm, vn, vl, ms, ns, outs, calls, hx, rfl⟩ := h
  refine (leave_any' w B be bt wi k vm vn vl ms ns outs calls lb op va vc os W C hx hp hl hn hok hB).mono ?_
  rintro e w' ⟨h1, h2, h3, h4⟩
  refine ⟨h1, h2, fun h0 => ?_, h4⟩
  obtain ⟨vl', outs', h5, h6⟩ := h3 h0
  exact ⟨vm, vn, vl', ms, ns, outs', calls, h5, h6⟩

end Go.Proofs.YtcepppilgncdmaaGreatDoor

namespace Go.Proofs.YtcepppilgncdmaaGreatDoor
open Go.RowKit

/-- A line, as it lies in memory. -/
structure LnV where
  t : ByteArray
  frm : Nat
  at_ : Nat
  size : Nat
def lnCells : List LnV → List Value
  | [] => []
  | l :: r => .string l.t :: .int .i64 (l.frm : Nat) :: .int .i64 (l.at_ : Nat) :: .int .i64 (l.size : Nat) :: lnCells r
theorem lnCells_length (l : List LnV) : (lnCells l).length = l.length * 4 := by
  induction l with
  | nil => rfl
  | cons x r ih => simp only [lnCells, List.length_cons, ih]; omega
theorem lnCells_at (l : List LnV) (i : Nat) (h : i < l.length) : (lnCells l)[i * 4]? = some (.string l[i].t) ∧ (lnCells l)[i * 4 + 1]? = some (.int .i64 (l[i].frm : Nat)) ∧ (lnCells l)[i * 4 + 2]? = some (.int .i64 (l[i].at_ : Nat)) ∧ (lnCells l)[i * 4 + 3]? = some (.int .i64 (l[i].size : Nat)) := by
  induction l generalizing i with
  | nil => simp at h
  | cons x r ih =>
    cases i with
    | zero => simp [lnCells]
    | succ i =>
      have := ih i (by simpa using h)
      simp only [lnCells, show (i + 1) * 4 = i * 4 + 1 + 1 + 1 + 1 from by omega, List.getElem?_cons_succ, List.getElem_cons_succ]
      exact this
theorem lnCells_set (l : List LnV) (i : Nat) (h : i < l.length) (a z : Nat) : ((lnCells l).set (i * 4 + 2) (.int .i64 (a : Nat))).set (i * 4 + 3) (.int .i64 (z : Nat)) = lnCells (l.set i ⟨l[i].t, l[i].frm, a, z⟩) := by
  induction l generalizing i with
  | nil => simp at h
  | cons x r ih =>
    cases i with
    | zero => simp [lnCells]
    | succ i =>
      have := ih i (by simpa using h)
      simp only [lnCells, show (i + 1) * 4 = i * 4 + 1 + 1 + 1 + 1 from by omega, List.set_cons_succ, List.getElem_cons_succ]
      rw [this]

/-- A statement, as it lies in memory. -/
structure StV where
  o : OpnP
  lab : Nat
  has : Bool
  added : Nat
  v : Value
  es : List ByteArray
  count : Nat
  long : Bool
def stOne (x : StV) : List Value := [.int .i64 (x.o.kind : Nat), .int .i64 (x.o.regs : Nat), .int .i64 (x.o.code : Nat), .int .i64 (x.o.long : Nat), .int .i64 (x.o.width : Nat), .int .i64 (x.lab : Nat), .bool x.has, .int .i64 (x.added : Nat), x.v, .int .i64 (x.count : Nat), .bool x.long]
def stCells : List StV → List Value
  | [] => []
  | x :: r => stOne x ++ stCells r
theorem stCells_append (a b : List StV) : stCells (a ++ b) = stCells a ++ stCells b := by
  induction a with
  | nil => rfl
  | cons x r ih => simp [stCells, ih]
theorem stCells_one (x : StV) : stCells [x] = stOne x := by simp [stCells]
theorem stCells_length (l : List StV) : (stCells l).length = l.length * 11 := by
  induction l with
  | nil => rfl
  | cons x r ih => simp only [stCells, List.length_append, List.length_cons, ih, stOne, List.length_nil]; omega
theorem stCells_at (l : List StV) (i k : Nat) (h : i < l.length) (hk : k < 11) : (stCells l)[i * 11 + k]? = (stOne l[i])[k]? := by
  induction l generalizing i with
  | nil => simp at h
  | cons x r ih =>
    cases i with
    | zero =>
      simp only [stCells, Nat.zero_mul, Nat.zero_add, List.getElem_cons_zero]
      rw [List.getElem?_append_left (by simp [stOne]; omega)]
    | succ i =>
      have := ih i (by simpa using h)
      simp only [stCells, List.getElem_cons_succ]
      rw [List.getElem?_append_right (by simp [stOne]; omega)]
      rw [show (i + 1) * 11 + k - (stOne x).length = i * 11 + k from by simp [stOne]; omega]
      exact this
theorem stCells_set (l : List StV) (i : Nat) (h : i < l.length) (b : Bool) : (stCells l).set (i * 11 + 10) (.bool b) = stCells (l.set i { l[i] with long := b }) := by
  induction l generalizing i with
  | nil => simp at h
  | cons x r ih =>
    cases i with
    | zero => simp [stCells, stOne]
    | succ i =>
      have := ih i (by simpa using h)
      simp only [stCells, List.set_cons_succ, List.getElem_cons_succ]
      rw [List.set_append_right _ _ (by simp [stOne]; omega), show (i + 1) * 11 + 10 - (stOne x).length = i * 11 + 10 from by simp [stOne]; omega, this]

/-- A statement lies at a place. -/
def StAt (w : World) (b off : Nat) (x : StV) : Prop := b < w.heap.size ∧ ∀ k v, (stOne x)[k]? = some v → w.cell? ⟨b, off + k, none⟩ = some v
theorem StAt.below {w w' : World} {b off : Nat} {x : StV} (h : StAt w b off x) (hb : Below w.heap.size w w') : StAt w' b off x :=
  ⟨Nat.lt_of_lt_of_le h.1 hb.size, fun k v hk => by rw [hb.cell (p := ⟨b, off + k, none⟩) h.1]; exact h.2 k v hk⟩
theorem StAt.of_row {w : World} {b : Nat} {x : StV} (h : RowT w 113 b (stOne x)) : StAt w b 0 x := ⟨h.lt, fun k v hk => by
  obtain ⟨h1, h2⟩ := List.getElem?_eq_some_iff.1 hk
  rw [Nat.zero_add, h.cell k h1, h2]⟩
/-- How many bytes a statement makes at an address. -/
def sizeV (x : StV) (a : Nat) : Nat :=
  if x.o.kind = 1 then 1
  else if x.o.kind = 2 then 1 + x.o.width
  else if x.o.kind = 3 then (if x.long then 3 else 2)
  else if x.o.kind = 4 then x.o.width * x.es.length
  else if x.o.kind = 5 then x.count
  else if x.o.kind = 6 then (x.count - a % x.count) % x.count
  else 0
end Go.Proofs.YtcepppilgncdmaaGreatDoor

namespace Go.Proofs.YtcepppilgncdmaaGreatDoor
open Go.RowKit

theorem lnCells_lines (outs : List (ByteArray × Nat)) : lnCells (outs.map fun x => ⟨x.1, x.2, 0, 0⟩) = lineCells outs := by
  induction outs with
  | nil => rfl
  | cons x r ih => simp [lnCells, lineCells, ih]
theorem nameCells_set (l : List (ByteArray × Int)) (i : Nat) (h : i < l.length) (z : Int) : (nameCells l).set (i * 2 + 1) (.int .i64 z) = nameCells (l.set i (l[i].1, z)) := by
  induction l generalizing i with
  | nil => simp at h
  | cons x r ih =>
    cases i with
    | zero => simp [nameCells]
    | succ i =>
      have := ih i (by simpa using h)
      simp only [nameCells, show (i + 1) * 2 + 1 = (i * 2 + 1) + 1 + 1 from by omega, List.set_cons_succ, List.getElem_cons_succ, this]

def byCells (bs : List UInt8) : List Value := bs.map fun b => .int .u8 (b.toNat : Nat)
theorem byCells_append (a b : List UInt8) : byCells (a ++ b) = byCells a ++ byCells b := by simp [byCells]

/-- Types of what an assembly holds. -/
def aT (t : TypeId) : Bool := t == 83 || t == 113 || t == 40 || t == 38 || t == 5
abbrev FrA := FrE aT
/-- Those of them that putting bytes may turn. -/
def bT (t : TypeId) : Bool := t == 83 || t == 5
abbrev FrB := FrE bT
theorem FrB.refl (B : Nat) (w : World) : FrB B [] w w := FrE.refl _ _ _ _
theorem FrB.of_below {B : Nat} {w w' : World} (h : Below w.heap.size w w') : FrB B [] w w' := FrE.of_below h
theorem FrB.toA {B : Nat} {w w' : World} (h : FrB B [] w w') : FrA B [] w w' :=
  ⟨h.os, h.tape, h.output, h.size, fun k o ho hk => h.block k o ho (hk.imp id fun hm => by
    cases o with
    | cells cur t fz =>
      simp only [keptO, Bool.and_eq_true, Bool.not_eq_true'] at hm ⊢
      refine ⟨?_, hm.2⟩
      have h1 := hm.1
      unfold aT at h1
      unfold bT
      simp only [Bool.or_eq_false_iff] at h1 ⊢
      exact ⟨h1.1.1.1.1, h1.2⟩
    | _ => rfl)⟩
theorem FrA.refl (B : Nat) (w : World) : FrA B [] w w := FrE.refl _ _ _ _
theorem FrA.of_below {B : Nat} {w w' : World} (h : Below w.heap.size w w') : FrA B [] w w' := FrE.of_below h
/-- Those that taking lines in may turn. -/
def nT (t : TypeId) : Bool := t == 83 || t == 113 || t == 40
abbrev FrN := FrE nT
theorem FrN.refl (B : Nat) (w : World) : FrN B [] w w := FrE.refl _ _ _ _
theorem FrN.of_below {B : Nat} {w w' : World} (h : Below w.heap.size w w') : FrN B [] w w' := FrE.of_below h
theorem FrN.toA {B : Nat} {w w' : World} (h : FrN B [] w w') : FrA B [] w w' :=
  ⟨h.os, h.tape, h.output, h.size, fun k o ho hk => h.block k o ho (hk.imp id fun hm => by
    cases o with
    | cells cur t fz =>
      simp only [keptO, Bool.and_eq_true, Bool.not_eq_true'] at hm ⊢
      refine ⟨?_, hm.2⟩
      have h1 := hm.1
      unfold aT at h1
      unfold nT
      simp only [Bool.or_eq_false_iff] at h1 ⊢
      exact h1.1.1
    | _ => rfl)⟩
theorem StrV.frn {B C : Nat} {w w' : World} {v : Value} {ss : List ByteArray} (h : StrV w C v ss) (hf : FrN B [] w w') : StrV w' C v ss := h.frE hf rfl
theorem StrV.frb {B C : Nat} {w w' : World} {v : Value} {ss : List ByteArray} (h : StrV w C v ss) (hf : FrB B [] w w') : StrV w' C v ss := h.frE hf rfl
theorem StrV.fra {B C : Nat} {w w' : World} {v : Value} {ss : List ByteArray} (h : StrV w C v ss) (hf : FrA B [] w w') : StrV w' C v ss := h.frE hf rfl

/-- What an assembly holds: lines, statements, names, names of .set, the size, the bytes. -/
structure AsmAt (w : World) (B ba : Nat) (vl vs vn vt vb : Value) (ls : List LnV) (ss : List StV) (ns ts : List (ByteArray × Int)) (sz : Nat) (bs : List UInt8) : Prop where
  row : RowT w 83 ba [vl, vs, vn, vt, .int .i64 (sz : Nat), vb]
  at_ : B ≤ ba
  lown : w.ownsRow B 38 4 vl ls.length (lnCells ls)
  sown : w.ownsRow B 113 11 vs ss.length (stCells ss)
  nown : w.ownsRow B 40 2 vn ns.length (nameCells ns)
  town : w.ownsRow B 40 2 vt ts.length (nameCells ts)
  bown : w.ownsRow B 5 1 vb bs.length (byCells bs)
  apart : ∀ g, vn.ownBlock = some g → vt.ownBlock ≠ some g
  strs : ∀ x ∈ ss, StrV w 0 x.v x.es
theorem AsmAt.below {w w' : World} {B ba : Nat} {vl vs vn vt vb : Value} {ls : List LnV} {ss : List StV} {ns ts : List (ByteArray × Int)} {sz : Nat} {bs : List UInt8} (h : AsmAt w B ba vl vs vn vt vb ls ss ns ts sz bs) (hb : Below w.heap.size w w') : AsmAt w' B ba vl vs vn vt vb ls ss ns ts sz bs :=
  ⟨h.row.below hb, h.at_, ownsRow_belowP h.lown hb, ownsRow_belowP h.sown hb, ownsRow_belowP h.nown hb, ownsRow_belowP h.town hb, ownsRow_belowP h.bown hb, h.apart, fun x hx => (h.strs x hx).below hb⟩
theorem own_names {w : World} {B : Nat} {v : Value} {ns : List (ByteArray × Int)} (h : w.ownsRow B 40 2 v ns.length (nameCells ns)) : ∃ a cap, v = .slice a ns.length cap ∧ NamesAt w a ns := by
  rcases h.2 with ⟨rfl, h0⟩ | ⟨g, cap, cur, rfl, hb, hg, _⟩
  · exact ⟨none, 0, by rw [h0], Or.inl (List.eq_nil_of_length_eq_zero h0)⟩
  · refine ⟨_, cap, rfl, Or.inr ⟨g, 0, rfl, (Array.getElem?_eq_some_iff.1 hg).1, fun i hi => ?_⟩⟩
    have h1 := h.cellAt (i * 2) (by omega)
    have h2 := h.cellAt (i * 2 + 1) (by omega)
    rw [(nameCells_at ns i hi).1] at h1
    rw [(nameCells_at ns i hi).2] at h2
    rw [Nat.zero_add]
    exact ⟨h1, h2⟩
/-- Rows of another type, or other rows, stay where one row grows. -/
theorem own_keep {w w4 : World} {B C e f size m n k : Nat} {v u : Value} {xs ys : List Value} (h : w.ownsRow B e size v n xs) (hu : w.ownsRow C f m u k ys) (hg : w.grownBy w4 u.ownBlock) (ht : e ≠ f) : w4.ownsRow B e size v n xs :=
  h.kept hg (by
    cases hv : v.ownBlock with
    | none => exact Or.inl rfl
    | some g => exact Or.inr (fun e1 => own_own_ne h hu ht (g := g) (by rw [← e1]) hv))
theorem own_keepN {w w4 : World} {B size n : Nat} {e : Nat} {v u : Value} {xs : List Value} (h : w.ownsRow B e size v n xs) (hg : w.grownBy w4 u.ownBlock) (ht : ∀ g, v.ownBlock = some g → u.ownBlock ≠ some g) : w4.ownsRow B e size v n xs :=
  h.kept hg (by
    cases hv : v.ownBlock with
    | none => exact Or.inl rfl
    | some g => exact Or.inr (fun e1 => ht g hv (by rw [← e1])))

theorem info_stm : (Tryz.prog.info? 113).map (fun i => (i.zero, i.size, i.bytes)) = some (some (.agg #[.int .i64 0, .int .i64 0, .int .i64 0, .int .i64 0, .int .i64 0, .int .i64 0, .bool false, .int .i64 0, .slice none 0 0, .int .i64 0, .bool false]), 11, 104) := by kernel_rfl
theorem info_by : (Tryz.prog.info? 5).map (fun i => (i.zero, i.size, i.bytes)) = some (some (.int .u8 0), 1, 1) := by kernel_rfl

end Go.Proofs.YtcepppilgncdmaaGreatDoor

namespace Go.Proofs.YtcepppilgncdmaaGreatDoor
open Go.RowKit

theorem own_ltA {w : World} {b e s n p : Nat} {v : Value} {xs : List Value} (h : w.ownsRow b e s v n xs) (hp : v.ownBlock = some p) : p < w.heap.size := by
  rcases h.2 with ⟨rfl, _⟩ | ⟨g', cap', cur, rfl, _, hh, _⟩
  · cases hp
  · simp only [Value.ownBlock, Option.some.injEq] at hp
    subst hp
    exact (Array.getElem?_eq_some_iff.1 hh).1

theorem AsmAt.stm {w w4 : World} {B ba : Nat} {vl vs vn vt vb : Value} {ls : List LnV} {ss : List StV} {ns ts : List (ByteArray × Int)} {sz : Nat} {bs : List UInt8} (h : AsmAt w B ba vl vs vn vt vb ls ss ns ts sz bs) (hg : w.grownBy w4 vs.ownBlock) {gg cap : Nat} {x : StV} (hx : StrV w 0 x.v x.es)
    (ho : w4.ownsRow B 113 11 (.slice (some ⟨gg, 0, none⟩) (ss.length + 1) cap) (ss.length + 1) (stCells ss ++ stOne x)) :
    AsmAt (w4.setCell ⟨ba, 1, none⟩ (.slice (some ⟨gg, 0, none⟩) (ss.length + 1) cap)) B ba vl (.slice (some ⟨gg, 0, none⟩) (ss.length + 1) cap) vn vt vb ls (ss ++ [x]) ns ts sz bs ∧
    FrN B [] w (w4.setCell ⟨ba, 1, none⟩ (.slice (some ⟨gg, 0, none⟩) (ss.length + 1) cap)) := by
  have hne : vs.ownBlock ≠ some ba := own_row_ne h.sown h.row (by decide)
  have hr4 : RowT w4 83 ba [vl, vs, vn, vt, .int .i64 (sz : Nat), vb] := RowT.grown' h.row hg (Ne.symm hne)
  have kl := own_keep h.lown h.sown hg (by decide)
  have kn := own_keep h.nown h.sown hg (by decide)
  have kt := own_keep h.town h.sown hg (by decide)
  have kb := own_keep h.bown h.sown hg (by decide)
  have hf4 : FrN B [] w w4 := (FrN.refl B w).grown hg (own_may h.sown (fun _ _ => Or.inl rfl))
  have hf5 := hf4.setCell (p := ⟨ba, 1, none⟩) (hr4.may h.at_ (Or.inl rfl)) (.slice (some ⟨gg, 0, none⟩) (ss.length + 1) cap)
  refine ⟨⟨hr4.set 1 _, h.at_, ownsRow_setCell_other kl (a := ⟨ba, 1, none⟩) (own_row_ne kl hr4 (by decide)) _, ?_, ownsRow_setCell_other kn (a := ⟨ba, 1, none⟩) (own_row_ne kn hr4 (by decide)) _, ownsRow_setCell_other kt (a := ⟨ba, 1, none⟩) (own_row_ne kt hr4 (by decide)) _, ownsRow_setCell_other kb (a := ⟨ba, 1, none⟩) (own_row_ne kb hr4 (by decide)) _, h.apart, ?_⟩, hf5⟩
  · rw [stCells_append, stCells_one, List.length_append]
    exact ownsRow_setCell_other ho (a := ⟨ba, 1, none⟩) (own_row_ne ho hr4 (by decide)) _
  · intro y hy
    rcases List.mem_append.1 hy with hy | hy
    · exact (h.strs y hy).frn hf5
    · rw [List.mem_singleton] at hy
      rw [hy]
      exact hx.frn hf5

theorem AsmAt.name {w w4 : World} {B ba : Nat} {vl vs vn vt vb : Value} {ls : List LnV} {ss : List StV} {ns ts : List (ByteArray × Int)} {sz : Nat} {bs : List UInt8} (h : AsmAt w B ba vl vs vn vt vb ls ss ns ts sz bs) (hg : w.grownBy w4 vn.ownBlock) {gg cap : Nat} {t : ByteArray} {z : Int} (hat : vn.ownBlock = some gg ∨ gg = w.heap.size)
    (ho : w4.ownsRow B 40 2 (.slice (some ⟨gg, 0, none⟩) (ns.length + 1) cap) (ns.length + 1) (nameCells ns ++ [.string t, .int .i64 z])) :
    AsmAt (w4.setCell ⟨ba, 2, none⟩ (.slice (some ⟨gg, 0, none⟩) (ns.length + 1) cap)) B ba vl vs (.slice (some ⟨gg, 0, none⟩) (ns.length + 1) cap) vt vb ls ss (ns ++ [(t, z)]) ts sz bs ∧
    FrN B [] w (w4.setCell ⟨ba, 2, none⟩ (.slice (some ⟨gg, 0, none⟩) (ns.length + 1) cap)) := by
  have hne : vn.ownBlock ≠ some ba := own_row_ne h.nown h.row (by decide)
  have hr4 : RowT w4 83 ba [vl, vs, vn, vt, .int .i64 (sz : Nat), vb] := RowT.grown' h.row hg (Ne.symm hne)
  have kl := own_keep h.lown h.nown hg (by decide)
  have ks := own_keep h.sown h.nown hg (by decide)
  have kt := own_keepN h.town hg (fun g h1 h2 => h.apart g h2 h1)
  have kb := own_keep h.bown h.nown hg (by decide)
  have hf4 : FrN B [] w w4 := (FrN.refl B w).grown hg (own_may h.nown (fun _ _ => Or.inl rfl))
  have hf5 := hf4.setCell (p := ⟨ba, 2, none⟩) (hr4.may h.at_ (Or.inl rfl)) (.slice (some ⟨gg, 0, none⟩) (ns.length + 1) cap)
  refine ⟨⟨hr4.set 2 _, h.at_, ownsRow_setCell_other kl (a := ⟨ba, 2, none⟩) (own_row_ne kl hr4 (by decide)) _, ownsRow_setCell_other ks (a := ⟨ba, 2, none⟩) (own_row_ne ks hr4 (by decide)) _, ?_, ownsRow_setCell_other kt (a := ⟨ba, 2, none⟩) (own_row_ne kt hr4 (by decide)) _, ownsRow_setCell_other kb (a := ⟨ba, 2, none⟩) (own_row_ne kb hr4 (by decide)) _, ?_, fun x hx => (h.strs x hx).frn hf5⟩, hf5⟩
  · rw [nameCells_append, List.length_append]
    exact ownsRow_setCell_other ho (a := ⟨ba, 2, none⟩) (own_row_ne ho hr4 (by decide)) _
  · intro g h1 h2
    simp only [Value.ownBlock, Option.some.injEq] at h1
    subst h1
    rcases hat with h3 | h3
    · exact h.apart _ h3 h2
    · have := own_ltA h.town h2
      omega

theorem AsmAt.set {w w4 : World} {B ba : Nat} {vl vs vn vt vb : Value} {ls : List LnV} {ss : List StV} {ns ts : List (ByteArray × Int)} {sz : Nat} {bs : List UInt8} (h : AsmAt w B ba vl vs vn vt vb ls ss ns ts sz bs) (hg : w.grownBy w4 vt.ownBlock) {gg cap : Nat} {t : ByteArray} {z : Int} (hat : vt.ownBlock = some gg ∨ gg = w.heap.size)
    (ho : w4.ownsRow B 40 2 (.slice (some ⟨gg, 0, none⟩) (ts.length + 1) cap) (ts.length + 1) (nameCells ts ++ [.string t, .int .i64 z])) :
    AsmAt (w4.setCell ⟨ba, 3, none⟩ (.slice (some ⟨gg, 0, none⟩) (ts.length + 1) cap)) B ba vl vs vn (.slice (some ⟨gg, 0, none⟩) (ts.length + 1) cap) vb ls ss ns (ts ++ [(t, z)]) sz bs ∧
    FrN B [] w (w4.setCell ⟨ba, 3, none⟩ (.slice (some ⟨gg, 0, none⟩) (ts.length + 1) cap)) := by
  have hne : vt.ownBlock ≠ some ba := own_row_ne h.town h.row (by decide)
  have hr4 : RowT w4 83 ba [vl, vs, vn, vt, .int .i64 (sz : Nat), vb] := RowT.grown' h.row hg (Ne.symm hne)
  have kl := own_keep h.lown h.town hg (by decide)
  have ks := own_keep h.sown h.town hg (by decide)
  have kn := own_keepN h.nown hg h.apart
  have kb := own_keep h.bown h.town hg (by decide)
  have hf4 : FrN B [] w w4 := (FrN.refl B w).grown hg (own_may h.town (fun _ _ => Or.inl rfl))
  have hf5 := hf4.setCell (p := ⟨ba, 3, none⟩) (hr4.may h.at_ (Or.inl rfl)) (.slice (some ⟨gg, 0, none⟩) (ts.length + 1) cap)
  refine ⟨⟨hr4.set 3 _, h.at_, ownsRow_setCell_other kl (a := ⟨ba, 3, none⟩) (own_row_ne kl hr4 (by decide)) _, ownsRow_setCell_other ks (a := ⟨ba, 3, none⟩) (own_row_ne ks hr4 (by decide)) _, ownsRow_setCell_other kn (a := ⟨ba, 3, none⟩) (own_row_ne kn hr4 (by decide)) _, ?_, ownsRow_setCell_other kb (a := ⟨ba, 3, none⟩) (own_row_ne kb hr4 (by decide)) _, ?_, fun x hx => (h.strs x hx).frn hf5⟩, hf5⟩
  · rw [nameCells_append, List.length_append]
    exact ownsRow_setCell_other ho (a := ⟨ba, 3, none⟩) (own_row_ne ho hr4 (by decide)) _
  · intro g h1 h2
    simp only [Value.ownBlock, Option.some.injEq] at h2
    subst h2
    rcases hat with h3 | h3
    · exact h.apart _ h1 h3
    · have := own_ltA h.nown h1
      omega

theorem AsmAt.bytes {w w4 : World} {B ba : Nat} {vl vs vn vt vb : Value} {ls : List LnV} {ss : List StV} {ns ts : List (ByteArray × Int)} {sz : Nat} {bs : List UInt8} (h : AsmAt w B ba vl vs vn vt vb ls ss ns ts sz bs) (hg : w.grownBy w4 vb.ownBlock) {nv : Value} {more : List UInt8}
    (ho : w4.ownsRow B 5 1 nv (bs.length + more.length) (byCells bs ++ byCells more)) :
    AsmAt (w4.setCell ⟨ba, 5, none⟩ nv) B ba vl vs vn vt nv ls ss ns ts sz (bs ++ more) ∧
    FrB B [] w (w4.setCell ⟨ba, 5, none⟩ nv) := by
  have hne : vb.ownBlock ≠ some ba := own_row_ne h.bown h.row (by decide)
  have hr4 : RowT w4 83 ba [vl, vs, vn, vt, .int .i64 (sz : Nat), vb] := RowT.grown' h.row hg (Ne.symm hne)
  have kl := own_keep h.lown h.bown hg (by decide)
  have ks := own_keep h.sown h.bown hg (by decide)
  have kn := own_keep h.nown h.bown hg (by decide)
  have kt := own_keep h.town h.bown hg (by decide)
  have hf4 : FrB B [] w w4 := (FrB.refl B w).grown hg (own_may h.bown (fun _ _ => Or.inl rfl))
  have hf5 := hf4.setCell (p := ⟨ba, 5, none⟩) (hr4.may h.at_ (Or.inl rfl)) nv
  refine ⟨⟨hr4.set 5 _, h.at_, ownsRow_setCell_other kl (a := ⟨ba, 5, none⟩) (own_row_ne kl hr4 (by decide)) _, ownsRow_setCell_other ks (a := ⟨ba, 5, none⟩) (own_row_ne ks hr4 (by decide)) _, ownsRow_setCell_other kn (a := ⟨ba, 5, none⟩) (own_row_ne kn hr4 (by decide)) _, ownsRow_setCell_other kt (a := ⟨ba, 5, none⟩) (own_row_ne kt hr4 (by decide)) _, ?_, h.apart, fun x hx => (h.strs x hx).frb hf5⟩, hf5⟩
  · rw [byCells_append, List.length_append]
    exact ownsRow_setCell_other ho (a := ⟨ba, 5, none⟩) (own_row_ne ho hr4 (by decide)) _

end Go.Proofs.YtcepppilgncdmaaGreatDoor

namespace Go.Proofs.YtcepppilgncdmaaGreatDoor
open Go.RowKit

set_option maxRecDepth 100000 in
set_option maxHeartbeats 1600000 in
theorem size_any (b off : Nat) (x : StV) (a : Nat) (w : World) (hx : StAt w b off x) (va : Option Addr) (vc : Nat) (hv : x.v = .slice va x.es.length vc) (he : x.es.length ≤ 1000) (hw : x.o.width ≤ 10) (hc : x.count ≤ 1000000) (h6 : x.o.kind = 6 → 0 < x.count) :
    Calls Tryz.prog 80 #[.pointer (some ⟨b, off, none⟩), .int .i64 (a : Nat)] w fun e w' => e = .returned (.int .i64 (sizeV x a : Nat)) ∧ Below w.heap.size w w' := by
  obtain ⟨⟨k, r, c, l, d⟩, lab, has, added, v, es, count, long⟩ := x
  simp only at hv he hw hc h6
  subst hv
  have c0 : w.cell? ⟨b, off, none⟩ = some (.int .i64 (k : Nat)) := hx.2 0 _ rfl
  have c4 : w.cell? ⟨b, off + 4, none⟩ = some (.int .i64 (d : Nat)) := hx.2 4 _ rfl
  have c8 : w.cell? ⟨b, off + 8, none⟩ = some (.slice va es.length vc) := hx.2 8 _ rfl
  have c9 : w.cell? ⟨b, off + 9, none⟩ = some (.int .i64 (count : Nat)) := hx.2 9 _ rfl
  have c10 : w.cell? ⟨b, off + 10, none⟩ = some (.bool long) := hx.2 10 _ rfl
  clear hx
  by_cases h1 : k = 1
  · subst h1
    go_enter Tryz.func80, Tryz.ntmps80
    go_wp2
    go_ret
    exact ⟨rfl, Below.refl _ _⟩
  have k1 : ((k : Int) == 1) = false := by rw [beq_eq_false_iff_ne]; omega
  by_cases h2 : k = 2
  · subst h2
    go_enter Tryz.func80, Tryz.ntmps80
    go_wp2
    go_ret
    exact ⟨ret_int (by simp [sizeV]), Below.refl _ _⟩
  have k2 : ((k : Int) == 2) = false := by rw [beq_eq_false_iff_ne]; omega
  by_cases h3 : k = 3
  · subst h3
    cases long with
    | true =>
      go_enter Tryz.func80, Tryz.ntmps80
      go_wp2
      go_ret
      exact ⟨rfl, Below.refl _ _⟩
    | false =>
      go_enter Tryz.func80, Tryz.ntmps80
      go_wp2
      go_ret
      exact ⟨rfl, Below.refl _ _⟩
  have k3 : ((k : Int) == 3) = false := by rw [beq_eq_false_iff_ne]; omega
  by_cases h4 : k = 4
  · subst h4
    have hm : d * es.length ≤ 10 * 1000 := Nat.mul_le_mul hw he
    go_enter Tryz.func80, Tryz.ntmps80
    go_upto_region 11 with fail
    go_quiet (fail)
    go_wp2
    go_ret
    exact ⟨ret_int (by simp [sizeV]), below_drewN (Below.refl _ _) _⟩
  have k4 : ((k : Int) == 4) = false := by rw [beq_eq_false_iff_ne]; omega
  by_cases h5 : k = 5
  · subst h5
    go_enter Tryz.func80, Tryz.ntmps80
    go_wp2
    go_ret
    exact ⟨rfl, Below.refl _ _⟩
  have k5 : ((k : Int) == 5) = false := by rw [beq_eq_false_iff_ne]; omega
  by_cases h6' : k = 6
  · subst h6'
    have hpos := h6 rfl
    have hne : ¬ (count : Int) = 0 := by omega
    have t1 : Int.tmod (a : Int) (count : Int) = ((a % count : Nat) : Int) := rfl
    have t2 : Int.tmod ((count : Int) - ((a % count : Nat) : Int)) (count : Int) = (((count - a % count) % count : Nat) : Int) := by
      have : ((count : Int) - ((a % count : Nat) : Int)) = ((count - a % count : Nat) : Int) := by have := Nat.mod_lt a hpos; omega
      rw [this]; rfl
    have b1 : a % count < count := Nat.mod_lt a hpos
    have b2 : (count - a % count) % count < count := Nat.mod_lt _ hpos
    go_enter Tryz.func80, Tryz.ntmps80
    go_upto_region 15 with fail
    go_quiet (fail)
    go_wp2
    go_ret
    have e0 : ((count - a % count : Nat) : Int) = (count : Int) - (a : Int) % count := by
      have h : ((a % count : Nat) : Int) = (a : Int) % count := rfl
      omega
    exact ⟨ret_int (by simp [sizeV]; rw [e0]; simp), below_drewN (Below.refl _ _) _⟩
  have k6 : ((k : Int) == 6) = false := by rw [beq_eq_false_iff_ne]; omega
  have hz : sizeV ⟨⟨k, r, c, l, d⟩, lab, has, added, .slice va es.length vc, es, count, long⟩ a = 0 := by simp [sizeV, h1, h2, h3, h4, h5, h6']
  rw [hz]
  go_enter Tryz.func80, Tryz.ntmps80
  go_wp2
  go_ret
  exact ⟨rfl, Below.refl _ _⟩
end Go.Proofs.YtcepppilgncdmaaGreatDoor
