/-
  What an expansion holds in memory (package expand), and what its small functions answer.
  What the program's functions that leave a line, and that give a name a value, answer (package expand).
-/
import Derived.Test.YtcepppilgncdmaaGreatDoorBS15
import Derived.Test.YtcepppilgncdmaaGreatDoorBS17
namespace Go.Proofs.YtcepppilgncdmaaGreatDoor
open Go.RowKit
attribute [local go_sem ↓] Go.wp_at_zero Go.wp_at_succ

/-- A macro, as it lies in memory. -/
structure MacV where
  name : ByteArray
  pv : Value
  ps : List ByteArray
  bv : Value
  bs : List ByteArray
def plainM (m : MacV) : MacP := ⟨L m.name, m.ps.map L, m.bs.map L⟩
def macCells : List MacV → List Value
  | [] => []
  | m :: r => .string m.name :: m.pv :: m.bv :: macCells r
def nameCells : List (ByteArray × Int) → List Value
  | [] => []
  | n :: r => .string n.1 :: .int .i64 n.2 :: nameCells r
def lineCells : List (ByteArray × Nat) → List Value
  | [] => []
  | l :: r => .string l.1 :: .int .i64 (l.2 : Nat) :: .int .i64 0 :: .int .i64 0 :: lineCells r
theorem macCells_append (a b : List MacV) : macCells (a ++ b) = macCells a ++ macCells b := by
  induction a with
  | nil => rfl
  | cons x r ih => simp [macCells, ih]
theorem nameCells_append (a b : List (ByteArray × Int)) : nameCells (a ++ b) = nameCells a ++ nameCells b := by
  induction a with
  | nil => rfl
  | cons x r ih => simp [nameCells, ih]
theorem lineCells_append (a b : List (ByteArray × Nat)) : lineCells (a ++ b) = lineCells a ++ lineCells b := by
  induction a with
  | nil => rfl
  | cons x r ih => simp [lineCells, ih]
theorem macCells_length (l : List MacV) : (macCells l).length = l.length * 3 := by
  induction l with
  | nil => rfl
  | cons x r ih => simp only [macCells, List.length_cons, ih]; omega
theorem nameCells_length (l : List (ByteArray × Int)) : (nameCells l).length = l.length * 2 := by
  induction l with
  | nil => rfl
  | cons x r ih => simp only [nameCells, List.length_cons, ih]; omega
theorem nameCells_at (l : List (ByteArray × Int)) (i : Nat) (h : i < l.length) : (nameCells l)[i * 2]? = some (.string l[i].1) ∧ (nameCells l)[i * 2 + 1]? = some (.int .i64 l[i].2) := by
  induction l generalizing i with
  | nil => simp at h
  | cons x r ih =>
    cases i with
    | zero => simp [nameCells]
    | succ i =>
      have := ih i (by simpa using h)
      simp only [nameCells, show (i + 1) * 2 = i * 2 + 1 + 1 from by omega, List.getElem?_cons_succ, List.getElem_cons_succ]
      exact ⟨this.1, this.2⟩
theorem macCells_at (l : List MacV) (i : Nat) (h : i < l.length) : (macCells l)[i * 3]? = some (.string l[i].name) ∧ (macCells l)[i * 3 + 1]? = some l[i].pv ∧ (macCells l)[i * 3 + 2]? = some l[i].bv := by
  induction l generalizing i with
  | nil => simp at h
  | cons x r ih =>
    cases i with
    | zero => simp [macCells]
    | succ i =>
      have := ih i (by simpa using h)
      simp only [macCells, show (i + 1) * 3 = i * 3 + 1 + 1 + 1 from by omega, show i * 3 + 1 + 1 + 1 + 1 = i * 3 + 1 + 1 + 1 + 1 from rfl, List.getElem?_cons_succ, List.getElem_cons_succ]
      exact ⟨this.1, this.2.1, this.2.2⟩

/-- Macros that can be called: short, without semicolons. -/
def MacOk (m : MacP) : Prop := m.params.length ≤ 100 ∧ (∀ p ∈ m.params, p.length ≤ 100) ∧ m.lines.length ≤ 3001 ∧ ∀ l ∈ m.lines, l.length ≤ 100 ∧ cutL l = l
structure StOk (st : StP) (k : Nat) : Prop where
  macs : ∀ m ∈ st.macros, MacOk m
  names : st.names.length ≤ st.out.length
  out : st.out.length ≤ 300
  calls : st.calls ≤ 200
  few : st.macros.length ≤ k
  taken : k ≤ 3001

structure ExpAt (w : World) (B be bt : Nat) (wi k : Nat) (vm vn vl : Value) (ms : List MacV) (ns : List (ByteArray × Int)) (outs : List (ByteArray × Nat)) (calls : Nat) : Prop where
  row : RowT w 77 be [.pointer (some ⟨bt, 0, none⟩), vm, vn, .int .i64 (wi : Nat), .int .i64 (calls : Nat), vl]
  mown : w.ownsRow B 202 3 vm ms.length (macCells ms)
  nown : w.ownsRow B 40 2 vn ns.length (nameCells ns)
  lown : w.ownsRow B 38 4 vl outs.length (lineCells outs)
  mstr : ∀ m ∈ ms, StrV w 0 m.pv m.ps ∧ StrV w 0 m.bv m.bs
  at_ : B ≤ be
  text : ∃ xs, RowT w 74 bt xs ∧ xs[2]? = some (.int .i64 (k : Nat))
/-- Where the number of the line is found. -/
def NumAt (w : World) (be bt wi k : Nat) : Prop := ∃ ys xs, RowT w 77 be (.pointer (some ⟨bt, 0, none⟩) :: ys) ∧ ys[2]? = some (.int .i64 (wi : Nat)) ∧ RowT w 74 bt xs ∧ xs[2]? = some (.int .i64 (k : Nat))
theorem ExpAt.num {w : World} {B be bt wi k : Nat} {vm vn vl : Value} {ms : List MacV} {ns : List (ByteArray × Int)} {outs : List (ByteArray × Nat)} {calls : Nat} (h : ExpAt w B be bt wi k vm vn vl ms ns outs calls) : NumAt w be bt wi k := by
  obtain ⟨xs, h1, h2⟩ := h.text
  exact ⟨_, xs, h.row, rfl, h1, h2⟩
theorem NumAt.below {w w' : World} {be bt wi k : Nat} (h : NumAt w be bt wi k) (hb : Below w.heap.size w w') : NumAt w' be bt wi k := by
  obtain ⟨ys, xs, h1, h0, h2, h3⟩ := h
  exact ⟨ys, xs, h1.below hb, h0, h2.below hb, h3⟩
def stOf (ms : List MacV) (ns : List (ByteArray × Int)) (outs : List (ByteArray × Nat)) (calls : Nat) : StP := ⟨ms.map plainM, plainN ns, outs.map fun x => (L x.1, x.2), calls⟩

theorem own_form {w : World} {C e size n : Nat} {v : Value} {xs : List Value} (h : w.ownsRow C e size v n xs) : ∃ a cap, v = .slice a n cap := by
  rcases h.2 with ⟨rfl, h0⟩ | ⟨g, cap, cur, rfl, _⟩
  · rw [h0]; exact ⟨none, 0, rfl⟩
  · exact ⟨_, cap, rfl⟩

set_option maxHeartbeats 400000 in
theorem number_any' (w : World) (B be bt wi k : Nat) (vm vn vl : Value) (ms : List MacV) (ns : List (ByteArray × Int)) (outs : List (ByteArray × Nat)) (calls : Nat) (h : ExpAt w B be bt wi k vm vn vl ms ns outs calls) :
    Calls Tryz.prog 32 #[.pointer (some ⟨be, 0, none⟩)] w fun e w' => e = .returned (.int .i64 (k : Nat)) ∧ w' = w := by
  have c0 := h.row.cell 0 (by simp)
  obtain ⟨xs, hx, hx2⟩ := h.text
  have hlt : 2 < xs.length := by
    rcases Nat.lt_or_ge 2 xs.length with h | h
    · exact h
    · rw [List.getElem?_eq_none h] at hx2; cases hx2
  have c2 : w.cell? ⟨bt, 2, none⟩ = some (.int .i64 (k : Nat)) := by
    rw [hx.cell 2 hlt, ← hx2, List.getElem?_eq_getElem hlt]
  clear h hx hx2
  go_enter Tryz.func32, Tryz.ntmps32
  go_wp2
  go_ret
  exact ⟨rfl, rfl⟩

theorem findM_at (ms : List MacV) (s : List UInt8) (k : Nat) (h : k < ms.length) : findM ((ms.drop k).map plainM) s = if L ms[k].name = s then some (plainM ms[k]) else findM ((ms.drop (k + 1)).map plainM) s := by
  rw [List.drop_eq_getElem_cons h, List.map_cons]; rfl

/-- What find answers. -/
def FindPost (ms : List MacV) (vm : Value) (s : List UInt8) (w : World) (e : Ending) (w' : World) : Prop := w' = w ∧
  ((findM (ms.map plainM) s = none ∧ e = .returned (.pointer none)) ∨ ∃ i g cap, ∃ h : i < ms.length, findM (ms.map plainM) s = some (plainM ms[i]) ∧ vm = .slice (some ⟨g, 0, none⟩) ms.length cap ∧ e = .returned (.pointer (some ⟨g, i * 3, none⟩)))

set_option maxHeartbeats 800000 in
theorem find_any' (w : World) (B be bt wi k : Nat) (vm vn vl : Value) (ms : List MacV) (ns : List (ByteArray × Int)) (outs : List (ByteArray × Nat)) (calls : Nat) (h : ExpAt w B be bt wi k vm vn vl ms ns outs calls) (hml : ms.length ≤ 3001) (s : ByteArray) :
    Calls Tryz.prog 108 #[.pointer (some ⟨be, 0, none⟩), .string s] w (FindPost ms vm (L s) w) := by
  have c1 := h.row.cell 1 (by simp)
  obtain ⟨a, cap, hv⟩ := own_form h.mown
  subst hv
  have HOWN := hid h.mown
  have c1 : w.cell? ⟨be, 1, none⟩ = some (.slice a ms.length cap) := c1
  clear h
  go_enter Tryz.func108, Tryz.ntmps108
  go_wp2
  go_loop [11] (fun i => ∃ j : Nat, j ≤ ms.length ∧ i = .int .i64 j ∧ findM (ms.map plainM) (L s) = findM ((ms.drop j).map plainM) (L s)) (fun i => ms.length - (intOf i).toNat)
  case atStart => exact ⟨0, Nat.zero_le _, rfl, by rw [List.drop_zero]⟩
  case round =>
    obtain ⟨j, hj, rfl, ha⟩ := hrel
    have HA := hid ha
    clear ha
    by_cases hlt : j < ms.length
    · have kd : decide ((j : Int) < (ms.length : Int)) = true := by simp; omega
      obtain ⟨g, cap2, hv, hBg, hgl⟩ := HOWN.out.form (by omega)
      injection hv with hv1 _ hv2
      subst hv1 hv2
      have cm : w.cell? ⟨g, j * 3, none⟩ = some (.string ms[j].name) := by
        rw [HOWN.out.cellAt (j * 3) (by omega)]; exact (macCells_at ms j hlt).1
      have hA := HA.out
      rw [findM_at _ _ _ hlt] at hA
      by_cases he : L ms[j].name = L s
      · rw [if_pos he] at hA
        have HF := hid hA
        have kb : (ms[j].name.toList == s.toList) = true := beq_of_L he
        clear hA he
        go_wp2
        go_ret
        exact ⟨rfl, Or.inr ⟨j, g, cap, hlt, HF.out, rfl, rfl⟩⟩
      · rw [if_neg he] at hA
        have HF := hid hA
        have kb : (ms[j].name.toList == s.toList) = false := nbeq_of_L he
        clear hA he
        go_wp2
        go_round
        case rel => exact ⟨j + 1, by omega, by go_num, HF.out⟩
        case measure => simp [intOf]; omega
    · have kd : decide ((j : Int) < (ms.length : Int)) = false := by simp; omega
      have HF := hid (show findM (ms.map plainM) (L s) = none by rw [HA.out, List.drop_eq_nil_of_le (by omega)]; rfl)
      go_wp2
      go_ret
      exact ⟨rfl, Or.inl ⟨HF.out, rfl⟩⟩

end Go.Proofs.YtcepppilgncdmaaGreatDoor

namespace Go.Proofs.YtcepppilgncdmaaGreatDoor
open Go.RowKit
attribute [local go_sem ↓] Go.wp_at_zero Go.wp_at_succ

theorem ExpAt.below {w w' : World} {B be bt wi k : Nat} {vm vn vl : Value} {ms : List MacV} {ns : List (ByteArray × Int)} {outs : List (ByteArray × Nat)} {calls : Nat} (h : ExpAt w B be bt wi k vm vn vl ms ns outs calls) (hb : Below w.heap.size w w') : ExpAt w' B be bt wi k vm vn vl ms ns outs calls :=
  ⟨h.row.below hb, ownsRow_belowP h.mown hb, ownsRow_belowP h.nown hb, ownsRow_belowP h.lown hb, fun m hm => ⟨(h.mstr m hm).1.below hb, (h.mstr m hm).2.below hb⟩, h.at_, by obtain ⟨xs, h1, h2⟩ := h.text; exact ⟨xs, h1.below hb, h2⟩⟩
theorem ExpAt.namesAt {w : World} {B be bt wi k : Nat} {vm vn vl : Value} {ms : List MacV} {ns : List (ByteArray × Int)} {outs : List (ByteArray × Nat)} {calls : Nat} (h : ExpAt w B be bt wi k vm vn vl ms ns outs calls) : ∃ a cap, vn = .slice a ns.length cap ∧ NamesAt w a ns := by
  rcases h.nown.2 with ⟨rfl, h0⟩ | ⟨g, cap, cur, rfl, hb, hg, _⟩
  · exact ⟨none, 0, by rw [h0], Or.inl (List.eq_nil_of_length_eq_zero h0)⟩
  · refine ⟨_, cap, rfl, Or.inr ⟨g, 0, rfl, (Array.getElem?_eq_some_iff.1 hg).1, fun i hi => ?_⟩⟩
    have h1 := h.nown.cellAt (i * 2) (by omega)
    have h2 := h.nown.cellAt (i * 2 + 1) (by omega)
    rw [(nameCells_at ns i hi).1] at h1
    rw [(nameCells_at ns i hi).2] at h2
    rw [Nat.zero_add]
    exact ⟨h1, h2⟩

theorem info_line : (Tryz.prog.info? 38).map (fun i => (i.zero, i.size, i.bytes)) = some (some (.agg #[.string ⟨#[]⟩, .int .i64 0, .int .i64 0, .int .i64 0]), 4, 40) := by kernel_rfl
theorem info_name : (Tryz.prog.info? 40).map (fun i => (i.zero, i.size, i.bytes)) = some (some (.agg #[.string ⟨#[]⟩, .int .i64 0]), 2, 24) := by kernel_rfl
theorem info_mac : (Tryz.prog.info? 202).map (fun i => (i.zero, i.size, i.bytes)) = some (some (.agg #[.string ⟨#[]⟩, .slice none 0 0, .slice none 0 0]), 3, 64) := by kernel_rfl

/-- An expansion in this state. -/
def ExpSt (w : World) (B be bt wi k : Nat) (st : StP) : Prop := ∃ vm vn vl ms ns outs calls, ExpAt w B be bt wi k vm vn vl ms ns outs calls ∧ st = stOf ms ns outs calls
def ExpPost (B be bt wi k : Nat) (M : List Nat) (r : Int × StP) (w : World) (e : Ending) (w' : World) : Prop :=
  e = .returned (.int .i64 r.1) ∧ Fr B M w w' ∧ (r.1 = 0 → ExpSt w' B be bt wi k r.2) ∧ NumAt w' be bt wi k

/-- A line more is left. -/
theorem ExpAt.line {w w4 : World} {B be bt wi k : Nat} {vm vn vl : Value} {ms : List MacV} {ns : List (ByteArray × Int)} {outs : List (ByteArray × Nat)} {calls : Nat} (h : ExpAt w B be bt wi k vm vn vl ms ns outs calls) (hg : w.grownBy w4 vl.ownBlock) {gg cap : Nat} {t : ByteArray} {at_ : Nat}
    (ho : w4.ownsRow B 38 4 (.slice (some ⟨gg, 0, none⟩) (outs.length + 1) cap) (outs.length + 1) (lineCells outs ++ [.string t, .int .i64 (at_ : Nat), .int .i64 0, .int .i64 0])) :
    ExpAt (w4.setCell ⟨be, 5, none⟩ (.slice (some ⟨gg, 0, none⟩) (outs.length + 1) cap)) B be bt wi k vm vn (.slice (some ⟨gg, 0, none⟩) (outs.length + 1) cap) ms ns (outs ++ [(t, at_)]) calls ∧
    Fr B [] w (w4.setCell ⟨be, 5, none⟩ (.slice (some ⟨gg, 0, none⟩) (outs.length + 1) cap)) := by
  have hne : vl.ownBlock ≠ some be := own_row_ne h.lown h.row (by decide)
  have hr4 : RowT w4 77 be [.pointer (some ⟨bt, 0, none⟩), vm, vn, .int .i64 (wi : Nat), .int .i64 (calls : Nat), vl] := RowT.grown' h.row hg (Ne.symm hne)
  have hm4 := h.mown.kept hg (by
    cases hv : vm.ownBlock with
    | none => exact Or.inl rfl
    | some g => exact Or.inr (fun e1 => own_own_ne h.mown h.lown (by decide) (g := g) (by rw [← e1]) hv))
  have hn4 := h.nown.kept hg (by
    cases hv : vn.ownBlock with
    | none => exact Or.inl rfl
    | some g => exact Or.inr (fun e1 => own_own_ne h.nown h.lown (by decide) (g := g) (by rw [← e1]) hv))
  have hf4 : Fr B [] w w4 := (Fr.refl B [] w).grown hg (own_may h.lown (fun _ _ => Or.inl rfl))
  have hf5 := hf4.setCell (p := ⟨be, 5, none⟩) (hr4.may h.at_ (Or.inl rfl)) (.slice (some ⟨gg, 0, none⟩) (outs.length + 1) cap)
  refine ⟨⟨hr4.set 5 _, ?_, ?_, ?_, fun m hm => ⟨(h.mstr m hm).1.fr hf5, (h.mstr m hm).2.fr hf5⟩, h.at_, ?_⟩, hf5⟩
  · exact ownsRow_setCell_other hm4 (a := ⟨be, 5, none⟩) (own_row_ne hm4 hr4 (by decide)) _
  · exact ownsRow_setCell_other hn4 (a := ⟨be, 5, none⟩) (own_row_ne hn4 hr4 (by decide)) _
  · rw [lineCells_append, List.length_append]
    exact ownsRow_setCell_other ho (a := ⟨be, 5, none⟩) (own_row_ne ho hr4 (by decide)) _
  · obtain ⟨xs, h1, h2⟩ := h.text
    exact ⟨xs, h1.fr hf5 rfl (fun _ => by simp), h2⟩

/-- What leave answers: the macros and the names stay. -/
def LeavePost (B be bt wi k : Nat) (vm vn : Value) (ms : List MacV) (ns : List (ByteArray × Int)) (calls : Nat) (r : Int × StP) (w : World) (e : Ending) (w' : World) : Prop :=
  e = .returned (.int .i64 r.1) ∧ Fr B [] w w' ∧ (r.1 = 0 → ∃ vl outs, ExpAt w' B be bt wi k vm vn vl ms ns outs calls ∧ r.2 = stOf ms ns outs calls) ∧ NumAt w' be bt wi k

set_option maxRecDepth 100000 in
set_option maxHeartbeats 1600000 in
theorem leave_any' (w : World) (B be bt wi k : Nat) (vm vn vl : Value) (ms : List MacV) (ns : List (ByteArray × Int)) (outs : List (ByteArray × Nat)) (calls : Nat) (lb op : ByteArray) (va : Option Addr) (vc : Nat) (os : List ByteArray) (W : WordsP) (C : Nat) (hx : ExpAt w B be bt wi k vm vn vl ms ns outs calls) (hp : PartsV w C lb op (.slice va os.length vc) os W) (hl : (textP W).length ≤ 1000000) (hn : os.length ≤ 1000000) (hok : (stOf ms ns outs calls).out.length ≤ 300) (hB : B ≤ w.heap.size) :
    Calls Tryz.prog 110 #[.pointer (some ⟨be, 0, none⟩), .agg #[.string lb, .string op, .slice va os.length vc]] w (LeavePost B be bt wi k vm vn ms ns calls (leaveP W k (stOf ms ns outs calls)) w) := by
  obtain ⟨i0, hi0, hz0, hz1, hz2⟩ := info_parts info_line
  have hb0 : Below w.heap.size w (w.alloc (.cells #[.string lb, .string op, .slice va os.length vc] 101)) := (Below.refl _ _).alloc (Nat.le_refl _) _
  have HX := hid (hx.below hb0)
  have HP := hid (hp.below hb0)
  have HF := hid (show Fr B [] w (w.alloc (.cells #[.string lb, .string op, .slice va os.length vc] 101)) from Fr.of_below hb0)
  have hol : outs.length ≤ 300 := by simpa [stOf] using hok
  clear hx hp hb0 hok
  go_enter Tryz.func110, Tryz.ntmps110
  go_wp2_with fail
  refine (Text_any lb op va vc os _ C W HP.out hl hn).mono ?_
  rintro e w1 ⟨t, ht, rfl, hb1⟩
  have HX := hid (HX.out.below hb1)
  have HF := hid (HF.out.trans (Fr.of_below hb1))
  have HT := hid ht
  have hB1 : B ≤ w1.heap.size := Nat.le_trans hB HF.out.size
  clear hb1 ht HP
  by_cases hz : t.size = 0
  · have kz := is_empty t hz
    have HR := hid (show leaveP W k (stOf ms ns outs calls) = (0, stOf ms ns outs calls) by unfold leaveP; rw [if_pos (by rw [← HT.out]; exact L_zero hz)])
    clear hz
    go_wp2
    go_ret
    rw [HR.out]
    exact ⟨rfl, HF.out, fun _ => ⟨vl, outs, HX.out, rfl⟩, HX.out.num⟩
  · have kz := not_empty t (by omega)
    have hne : ¬ textP W = [] := fun e => hz (by rw [size_L, HT.out, e]; rfl)
    obtain ⟨al, cl, hvl⟩ := own_form HX.out.lown
    have c5 := HX.out.row.cell 5 (by simp)
    have f5 := HX.out.row.free 5
    have c5 : w1.cell? ⟨be, 5, none⟩ = some (.slice al outs.length cl) := by rw [← hvl]; exact c5
    by_cases h300 : outs.length = 300
    · have kk : ((outs.length : Int) == 300) = true := by rw [beq_iff_eq]; omega
      have HR := hid (show leaveP W k (stOf ms ns outs calls) = (8, stOf ms ns outs calls) by unfold leaveP; rw [if_neg hne, if_pos (by simp [stOf, h300])])
      clear hz hne h300
      go_wp2
      go_ret
      rw [HR.out]
      exact ⟨rfl, HF.out, (fun h => by cases h), HX.out.num⟩
    · have kk : ((outs.length : Int) == 300) = false := by rw [beq_eq_false_iff_ne]; omega
      have HR := hid (show leaveP W k (stOf ms ns outs calls) = (0, stOf ms ns (outs ++ [(t, k)]) calls) by
        unfold leaveP; rw [if_neg hne, if_neg (by simp [stOf]; omega)]
        simp [stOf, HT.out])
      subst hvl
      have hlt := HX.out.row.lt
      have hneb : (Value.slice al outs.length cl).ownBlock ≠ some be := own_row_ne HX.out.lown HX.out.row (by decide)
      clear hz hne h300
      go_wp2_with fail
      go_region_law
        (first
          | (rw [if_pos (by rfl)]; go_simp; go_at_call 32; refine (number_any' _ B be bt wi k vm vn _ ms ns outs calls (HX.out.below ((Below.refl _ _).drew))).mono ?_; rintro e w' ⟨rfl, hw'⟩; subst hw')
          | (refine step_append_lies _ (by rfl) _ _ _ (by rfl) B 38 i0 _ 4 40 Tryz.underlying26 hi0 hz0 hz1 hz2 rfl (by omega) (.slice al outs.length cl) outs.length (lineCells outs) (by rfl) ((HX.out.lown.alloc _).drew) ⟨_, 0, none⟩ 1 1 [.string t, .int .i64 (k : Nat), .int .i64 0, .int .i64 0] (by rfl) (by rfl) (World.news_of_block (cs := #[.string t, .int .i64 (k : Nat), .int .i64 0, .int .i64 0]) (t := 38) (fr := (0, 0)) (heap_alloc_new _ _)) (by simp [Value.oneCell']) (by omega) (by unfold maxLen; omega) (by omega) (by simp; omega) _ rfl ?_; intro gg cap' w4 hown4 hgrow hat hlt4; have hc4 := (hgrow.cell_far ⟨be, 5, none⟩ (by simp; omega) (Ne.symm hneb)).trans ((((Below.refl w1.heap.size w1).alloc (Nat.le_refl _) _).drew.cell (p := ⟨be, 5, none⟩) hlt).trans c5); have hf4 := (hgrow.frozen_far ⟨be, 5, none⟩ (by simp; omega) (Ne.symm hneb)).trans ((((Below.refl w1.heap.size w1).alloc (Nat.le_refl _) _).drew.frozen (p := ⟨be, 5, none⟩) hlt).trans f5)))
      all_goals
        have hb2 : Below w1.heap.size w1 (w1.alloc (.cells #[.string t, .int .i64 (k : Nat), .int .i64 0, .int .i64 0] 38)).drew := ((Below.refl _ _).alloc (Nat.le_refl _) _).drew
        have HL := hid ((HX.out.below hb2).line hgrow hown4)
        have HF2 := hid ((HF.out.trans (Fr.of_below hb2)).trans HL.out.2)
        clear hown4 hgrow hat hc4 hf4
        go_wp2
        go_ret
        rw [HR.out]
        exact ⟨rfl, HF2.out, fun _ => ⟨_, _, HL.out.1, rfl⟩, HL.out.1.num⟩

theorem leave_any (w : World) (B be bt wi k : Nat) (st : StP) (lb op : ByteArray) (va : Option Addr) (vc : Nat) (os : List ByteArray) (W : WordsP) (C : Nat) (h : ExpSt w B be bt wi k st) (hp : PartsV w C lb op (.slice va os.length vc) os W) (hl : (textP W).length ≤ 1000000) (hn : os.length ≤ 1000000) (hok : st.out.length ≤ 300) (hB : B ≤ w.heap.size) :
    Calls Tryz.prog 110 #[.pointer (some ⟨be, 0, none⟩), .agg #[.string lb, .string op, .slice va os.length vc]] w (ExpPost B be bt wi k [] (leaveP W k st) w) := by
  obtain ⟨vm, vn, vl, ms, ns, outs, calls, hx, rfl⟩ := h
  refine (leave_any' w B be bt wi k vm vn vl ms ns outs calls lb op va vc os W C hx hp hl hn hok hB).mono ?_
  rintro e w' ⟨h1, h2, h3, h4⟩
  refine ⟨h1, h2, fun h0 => ?_, h4⟩
  obtain ⟨vl', outs', h5, h6⟩ := h3 h0
  exact ⟨vm, vn, vl', ms, ns, outs', calls, h5, h6⟩

end Go.Proofs.YtcepppilgncdmaaGreatDoor
