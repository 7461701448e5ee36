/-
  What an expansion holds in memory (package expand), and what its small functions answer.
  What the program's functions that leave a line, and that give a name a value, answer (package expand).
  The book of lists that came out (package masonlaw): 'keepsLines'.
  The book of lists that came out (package masonlaw): 'keepsLines'.
-/
import Derived.Test.YtcepppilgncdmaaGreatDoorBE09
import Derived.Test.YtcepppilgncdmaaGreatDoorBE03
import Derived.Test.YtcepppilgncdmaaGreatDoorBE05
namespace Go.Proofs.YtcepppilgncdmaaGreatDoor
open Go.RowKit
attribute [local go_sem ↓] Go.wp_at_zero Go.wp_at_succ

/-- A macro, as it lies in memory. -/
structure MacV where
  name : ByteArray
  pv : Value
  ps : List ByteArray
  bv : Value
  bs : List ByteArray
def plainM (m : MacV) : MacP := ⟨L m.name, m.ps.map L, m.bs.map L⟩
def macCells : List MacV → List Value
  | [] => []
  | m :: r => .string m.name :: m.pv :: m.bv :: macCells r
def nameCells : List (ByteArray × Int) → List Value
  | [] => []
  | n :: r => .string n.1 :: .int .i64 n.2 :: nameCells r
def lineCells : List (ByteArray × Nat) → List Value
  | [] => []
  | l :: r => .string l.1 :: .int .i64 (l.2 : Nat) :: .int .i64 0 :: .int .i64 0 :: lineCells r
theorem macCells_append (a b : List MacV) : macCells (a ++ b) = macCells a ++ macCells b := by
  induction a with
  | nil => rfl
  | cons x r ih => simp [macCells, ih]
theorem nameCells_append (a b : List (ByteArray × Int)) : nameCells (a ++ b) = nameCells a ++ nameCells b := by
  induction a with
  | nil => rfl
  | cons x r ih => simp [nameCells, ih]
theorem lineCells_append (a b : List (ByteArray × Nat)) : lineCells (a ++ b) = lineCells a ++ lineCells b := by
  induction a with
  | nil => rfl
  | cons x r ih => simp [lineCells, ih]
theorem macCells_length (l : List MacV) : (macCells l).length = l.length * 3 := by
  induction l with
  | nil => rfl
  | cons x r ih => simp only [macCells, List.length_cons, ih]; omega
theorem nameCells_length (l : List (ByteArray × Int)) : (nameCells l).length = l.length * 2 := by
  induction l with
  | nil => rfl
  | cons x r ih => simp only [nameCells, List.length_cons, ih]; omega
theorem nameCells_at (l : List (ByteArray × Int)) (i : Nat) (h : i < l.length) : (nameCells l)[i * 2]? = some (.string l[i].1) ∧ (nameCells l)[i * 2 + 1]? = some (.int .i64 l[i].2) := by
  induction l generalizing i with
  | nil => simp at h
  | cons x r ih =>
    cases i with
    | zero => simp [nameCells]
    | succ i =>
      have := ih i (by simpa using h)
      simp only [nameCells, show (i + 1) * 2 = i * 2 + 1 + 1 from by omega, List.getElem?_cons_succ, List.getElem_cons_succ]
      exact ⟨this.1, this.2⟩
theorem macCells_at (l : List MacV) (i : Nat) (h : i < l.length) : (macCells l)[i * 3]? = some (.string l[i].name) ∧ (macCells l)[i * 3 + 1]? = some l[i].pv ∧ (macCells l)[i * 3 + 2]? = some l[i].bv := by
  induction l generalizing i with
  | nil => simp at h
  | cons x r ih =>
    cases i with
    | zero => simp [macCells]
    | succ i =>
      have := ih i (by simpa using h)
      simp only [macCells, show (i + 1) * 3 = i * 3 + 1 + 1 + 1 from by omega, show i * 3 + 1 + 1 + 1 + 1 = i * 3 + 1 + 1 + 1 + 1 from rfl, List.getElem?_cons_succ, List.getElem_cons_succ]
      exact ⟨this.1, this.2.1, this.2.2⟩

/-- Macros that can be called: short, without semicolons. -/
def MacOk (m : MacP) : Prop := m.params.length ≤ 100 ∧ (∀ p ∈ m.params, p.length ≤ 100) ∧ m.lines.length ≤ 3001 ∧ ∀ l ∈ m.lines, l.length ≤ 100 ∧ cutL l = l
structure StOk (st : StP) (k : Nat) : Prop where
  macs : ∀ m ∈ st.macros, MacOk m
  names : st.names.length ≤ st.out.length
  out : st.out.length ≤ 300
  calls : st.calls ≤ 200
  few : st.macros.length ≤ k
  taken : k ≤ 3001

structure ExpAt (w : World) (B be bt : Nat) (wi k : Nat) (vm vn vl : Value) (ms : List MacV) (ns : List (ByteArray × Int)) (outs : List (ByteArray × Nat)) (calls : Nat) : Prop where
  row : RowT w 77 be [.pointer (some ⟨bt, 0, none⟩), vm, vn, .int .i64 (wi : Nat), .int .i64 (calls : Nat), vl]
  mown : w.ownsRow B 202 3 vm ms.length (macCells ms)
  nown : w.ownsRow B 40 2 vn ns.length (nameCells ns)
  lown : w.ownsRow B 38 4 vl outs.length (lineCells outs)
  mstr : ∀ m ∈ ms, StrV w 0 m.pv m.ps ∧ StrV w 0 m.bv m.bs
  at_ : B ≤ be
  text : ∃ xs, RowT w 74 bt xs ∧ xs[2]? = some (.int .i64 (k : Nat))
/-- Where the number of the line is found. -/
def NumAt (w : World) (be bt wi k : Nat) : Prop := ∃ ys xs, RowT w 77 be (.pointer (some ⟨bt, 0, none⟩) :: ys) ∧ ys[2]? = some (.int .i64 (wi : Nat)) ∧ RowT w 74 bt xs ∧ xs[2]? = some (.int .i64 (k : Nat))
theorem ExpAt.num {w : World} {B be bt wi k : Nat} {vm vn vl : Value} {ms : List MacV} {ns : List (ByteArray × Int)} {outs : List (ByteArray × Nat)} {calls : Nat} (h : ExpAt w B be bt wi k vm vn vl ms ns outs calls) : NumAt w be bt wi k := by
  obtain ⟨xs, h1, h2⟩ := h.text
  exact ⟨_, xs, h.row, rfl, h1, h2⟩
theorem NumAt.below {w w' : World} {be bt wi k : Nat} (h : NumAt w be bt wi k) (hb : Below w.heap.size w w') : NumAt w' be bt wi k := by
  obtain ⟨ys, xs, h1, h0, h2, h3⟩ := h
  exact ⟨ys, xs, h1.below hb, h0, h2.below hb, h3⟩
def stOf (ms : List MacV) (ns : List (ByteArray × Int)) (outs : List (ByteArray × Nat)) (calls : Nat) : StP := ⟨ms.map plainM, plainN ns, outs.map fun x => (L x.1, x.2), calls⟩

theorem own_form {w : World} {C e size n : Nat} {v : Value} {xs : List Value} (h : w.ownsRow C e size v n xs) : ∃ a cap, v = .slice a n cap := by
  rcases h.2 with ⟨rfl, h0⟩ | ⟨g, cap, cur, rfl, _⟩
  · rw [h0]; exact ⟨none, 0, rfl⟩
  · exact ⟨_, cap, rfl⟩

set_option maxHeartbeats 400000 in
theorem number_any' (w : World) (B be bt wi k : Nat) (vm vn vl : Value) (ms : List MacV) (ns : List (ByteArray × Int)) (outs : List (ByteArray × Nat)) (calls : Nat) (h : ExpAt w B be bt wi k vm vn vl ms ns outs calls) :
    Calls Tryz.prog 32 #[.pointer (some ⟨be, 0, none⟩)] w fun e w' => e = .returned (.int .i64 (k : Nat)) ∧ w' = w := by
  have c0 := h.row.cell 0 (by simp)
  obtain ⟨xs, hx, hx2⟩ := h.text
  have hlt : 2 < xs.length := by
    rcases Nat.lt_or_ge 2 xs.length with h | h
    · exact h
    · rw [List.getElem?_eq_none h] at hx2; cases hx2
  have c2 : w.cell? ⟨bt, 2, none⟩ = some (.int .i64 (k : Nat)) := by
    rw [hx.cell 2 hlt, ← hx2, List.getElem?_eq_getElem hlt]
  clear h hx hx2
  go_enter Tryz.func32, Tryz.ntmps32
  go_wp2
  go_ret
  exact ⟨rfl, rfl⟩

theorem findM_at (ms : List MacV) (s : List UInt8) (k : Nat) (h : k < ms.length) : findM ((ms.drop k).map plainM) s = if L ms[k].name = s then some (plainM ms[k]) else findM ((ms.drop (k + 1)).map plainM) s := by
  rw [List.drop_eq_getElem_cons h, List.map_cons]; rfl

/-- What find answers. -/
def FindPost (ms : List MacV) (vm : Value) (s : List UInt8) (w : World) (e : Ending) (w' : World) : Prop := w' = w ∧
  ((findM (ms.map plainM) s = none ∧ e = .returned (.pointer none)) ∨ ∃ i g cap, ∃ h : i < ms.length, findM (ms.map plainM) s = some (plainM ms[i]) ∧ vm = .slice (some ⟨g, 0, none⟩) ms.length cap ∧ e = .returned (.pointer (some ⟨g, i * 3, none⟩)))

set_option maxHeartbeats 800000 in
theorem find_any' (w : World) (B be bt wi k : Nat) (vm vn vl : Value) (ms : List MacV) (ns : List (ByteArray × Int)) (outs : List (ByteArray × Nat)) (calls : Nat) (h : ExpAt w B be bt wi k vm vn vl ms ns outs calls) (hml : ms.length ≤ 3001) (s : ByteArray) :
    Calls Tryz.prog 108 #[.pointer (some ⟨be, 0, none⟩), .string s] w (FindPost ms vm (L s) w) := by
  have c1 := h.row.cell 1 (by simp)
  obtain ⟨a, cap, hv⟩ := own_form h.mown
  subst hv
  have HOWN := hid h.mown
  have c1 : w.cell? ⟨be, 1, none⟩ = some (.slice a ms.length cap) := c1
  clear h
  go_enter Tryz.func108, Tryz.ntmps108
  go_wp2
  go_loop [11] (fun i => ∃ j : Nat, j ≤ ms.length ∧ i = .int .i64 j ∧ findM (ms.map plainM) (L s) = findM ((ms.drop j).map plainM) (L s)) (fun i => ms.length - (intOf i).toNat)
  case atStart => exact ⟨0, Nat.zero_le _, rfl, by rw [List.drop_zero]⟩
  case round =>
    obtain ⟨j, hj, rfl, ha⟩ := hrel
    have HA := hid ha
    clear ha
    by_cases hlt : j < ms.length
    · have kd : decide ((j : Int) < (ms.length : Int)) = true := by simp; omega
      obtain ⟨g, cap2, hv, hBg, hgl⟩ := HOWN.out.form (by omega)
      injection hv with hv1 _ hv2
      subst hv1 hv2
      have cm : w.cell? ⟨g, j * 3, none⟩ = some (.string ms[j].name) := by
        rw [HOWN.out.cellAt (j * 3) (by omega)]; exact (macCells_at ms j hlt).1
      have hA := HA.out
      rw [findM_at _ _ _ hlt] at hA
      by_cases he : L ms[j].name = L s
      · rw [if_pos he] at hA
        have HF := hid hA
        have kb : (ms[j].name.toList == s.toList) = true := beq_of_L he
        clear hA he
        go_wp2
        go_ret
        exact ⟨rfl, Or.inr ⟨j, g, cap, hlt, HF.out, rfl, rfl⟩⟩
      · rw [if_neg he] at hA
        have HF := hid hA
        have kb : (ms[j].name.toList == s.toList) = false := nbeq_of_L he
        clear hA he
        go_wp2
        go_round
        case rel => exact ⟨j + 1, by omega, by go_num, HF.out⟩
        case measure => simp [intOf]; omega
    · have kd : decide ((j : Int) < (ms.length : Int)) = false := by simp; omega
      have HF := hid (show findM (ms.map plainM) (L s) = none by rw [HA.out, List.drop_eq_nil_of_le (by omega)]; rfl)
      go_wp2
      go_ret
      exact ⟨rfl, Or.inl ⟨HF.out, rfl⟩⟩

end Go.Proofs.YtcepppilgncdmaaGreatDoor

namespace Go.Proofs.YtcepppilgncdmaaGreatDoor
open Go.RowKit
attribute [local go_sem ↓] Go.wp_at_zero Go.wp_at_succ

theorem ExpAt.below {w w' : World} {B be bt wi k : Nat} {vm vn vl : Value} {ms : List MacV} {ns : List (ByteArray × Int)} {outs : List (ByteArray × Nat)} {calls : Nat} (h : ExpAt w B be bt wi k vm vn vl ms ns outs calls) (hb : Below w.heap.size w w') : ExpAt w' B be bt wi k vm vn vl ms ns outs calls :=
  ⟨h.row.below hb, ownsRow_belowP h.mown hb, ownsRow_belowP h.nown hb, ownsRow_belowP h.lown hb, fun m hm => ⟨(h.mstr m hm).1.below hb, (h.mstr m hm).2.below hb⟩, h.at_, by obtain ⟨xs, h1, h2⟩ := h.text; exact ⟨xs, h1.below hb, h2⟩⟩
theorem ExpAt.namesAt {w : World} {B be bt wi k : Nat} {vm vn vl : Value} {ms : List MacV} {ns : List (ByteArray × Int)} {outs : List (ByteArray × Nat)} {calls : Nat} (h : ExpAt w B be bt wi k vm vn vl ms ns outs calls) : ∃ a cap, vn = .slice a ns.length cap ∧ NamesAt w a ns := by
  rcases h.nown.2 with ⟨rfl, h0⟩ | ⟨g, cap, cur, rfl, hb, hg, _⟩
  · exact ⟨none, 0, by rw [h0], Or.inl (List.eq_nil_of_length_eq_zero h0)⟩
  · refine ⟨_, cap, rfl, Or.inr ⟨g, 0, rfl, (Array.getElem?_eq_some_iff.1 hg).1, fun i hi => ?_⟩⟩
    have h1 := h.nown.cellAt (i * 2) (by omega)
    have h2 := h.nown.cellAt (i * 2 + 1) (by omega)
    rw [(nameCells_at ns i hi).1] at h1
    rw [(nameCells_at ns i hi).2] at h2
    rw [Nat.zero_add]
    exact ⟨h1, h2⟩

theorem info_line : (Tryz.prog.info? 38).map (fun i => (i.zero, i.size, i.bytes)) = some (some (.agg #[.string ⟨#[]⟩, .int .i64 0, .int .i64 0, .int .i64 0]), 4, 40) := by kernel_rfl
theorem info_name : (Tryz.prog.info? 40).map (fun i => (i.zero, i.size, i.bytes)) = some (some (.agg #[.string ⟨#[]⟩, .int .i64 0]), 2, 24) := by kernel_rfl
theorem info_mac : (Tryz.prog.info? 202).map (fun i => (i.zero, i.size, i.bytes)) = some (some (.agg #[.string ⟨#[]⟩, .slice none 0 0, .slice none 0 0]), 3, 64) := by kernel_rfl

/-- An expansion in this state. -/
def ExpSt (w : World) (B be bt wi k : Nat) (st : StP) : Prop := ∃ vm vn vl ms ns outs calls, ExpAt w B be bt wi k vm vn vl ms ns outs calls ∧ st = stOf ms ns outs calls
def ExpPost (B be bt wi k : Nat) (M : List Nat) (r : Int × StP) (w : World) (e : Ending) (w' : World) : Prop :=
  e = .returned (.int .i64 r.1) ∧ Fr B M w w' ∧ (r.1 = 0 → ExpSt w' B be bt wi k r.2) ∧ NumAt w' be bt wi k

/-- A line more is left. -/
theorem ExpAt.line {w w4 : World} {B be bt wi k : Nat} {vm vn vl : Value} {ms : List MacV} {ns : List (ByteArray × Int)} {outs : List (ByteArray × Nat)} {calls : Nat} (h : ExpAt w B be bt wi k vm vn vl ms ns outs calls) (hg : w.grownBy w4 vl.ownBlock) {gg cap : Nat} {t : ByteArray} {at_ : Nat}
    (ho : w4.ownsRow B 38 4 (.slice (some ⟨gg, 0, none⟩) (outs.length + 1) cap) (outs.length + 1) (lineCells outs ++ [.string t, .int .i64 (at_ : Nat), .int .i64 0, .int .i64 0])) :
    ExpAt (w4.setCell ⟨be, 5, none⟩ (.slice (some ⟨gg, 0, none⟩) (outs.length + 1) cap)) B be bt wi k vm vn (.slice (some ⟨gg, 0, none⟩) (outs.length + 1) cap) ms ns (outs ++ [(t, at_)]) calls ∧
    Fr B [] w (w4.setCell ⟨be, 5, none⟩ (.slice (some ⟨gg, 0, none⟩) (outs.length + 1) cap)) := by
  have hne : vl.ownBlock ≠ some be := own_row_ne h.lown h.row (by decide)
  have hr4 : RowT w4 77 be [.pointer (some ⟨bt, 0, none⟩), vm, vn, .int .i64 (wi : Nat), .int .i64 (calls : Nat), vl] := RowT.grown' h.row hg (Ne.symm hne)
  have hm4 := h.mown.kept hg (by
    cases hv : vm.ownBlock with
    | none => exact Or.inl rfl
    | some g => exact Or.inr (fun e1 => own_own_ne h.mown h.lown (by decide) (g := g) (by rw [← e1]) hv))
  have hn4 := h.nown.kept hg (by
    cases hv : vn.ownBlock with
    | none => exact Or.inl rfl
    | some g => exact Or.inr (fun e1 => own_own_ne h.nown h.lown (by decide) (g := g) (by rw [← e1]) hv))
  have hf4 : Fr B [] w w4 := (Fr.refl B [] w).grown hg (own_may h.lown (fun _ _ => Or.inl rfl))
  have hf5 := hf4.setCell (p := ⟨be, 5, none⟩) (hr4.may h.at_ (Or.inl rfl)) (.slice (some ⟨gg, 0, none⟩) (outs.length + 1) cap)
  refine ⟨⟨hr4.set 5 _, ?_, ?_, ?_, fun m hm => ⟨(h.mstr m hm).1.fr hf5, (h.mstr m hm).2.fr hf5⟩, h.at_, ?_⟩, hf5⟩
  · exact ownsRow_setCell_other hm4 (a := ⟨be, 5, none⟩) (own_row_ne hm4 hr4 (by decide)) _
  · exact ownsRow_setCell_other hn4 (a := ⟨be, 5, none⟩) (own_row_ne hn4 hr4 (by decide)) _
  · rw [lineCells_append, List.length_append]
    exact ownsRow_setCell_other ho (a := ⟨be, 5, none⟩) (own_row_ne ho hr4 (by decide)) _
  · obtain ⟨xs, h1, h2⟩ := h.text
    exact ⟨xs, h1.fr hf5 rfl (fun _ => by simp), h2⟩

/-- What leave answers: the macros and the names stay. -/
def LeavePost (B be bt wi k : Nat) (vm vn : Value) (ms : List MacV) (ns : List (ByteArray × Int)) (calls : Nat) (r : Int × StP) (w : World) (e : Ending) (w' : World) : Prop :=
  e = .returned (.int .i64 r.1) ∧ Fr B [] w w' ∧ (r.1 = 0 → ∃ vl outs, ExpAt w' B be bt wi k vm vn vl ms ns outs calls ∧ r.2 = stOf ms ns outs calls) ∧ NumAt w' be bt wi k

set_option maxRecDepth 100000 in
set_option maxHeartbeats 1600000 in
theorem leave_any' (w : World) (B be bt wi k : Nat) (vm vn vl : Value) (ms : List MacV) (ns : List (ByteArray × Int)) (outs : List (ByteArray × Nat)) (calls : Nat) (lb op : ByteArray) (va : Option Addr) (vc : Nat) (os : List ByteArray) (W : WordsP) (C : Nat) (hx : ExpAt w B be bt wi k vm vn vl ms ns outs calls) (hp : PartsV w C lb op (.slice va os.length vc) os W) (hl : (textP W).length ≤ 1000000) (hn : os.length ≤ 1000000) (hok : (stOf ms ns outs calls).out.length ≤ 300) (hB : B ≤ w.heap.size) :
    Calls Tryz.prog 110 #[.pointer (some ⟨be, 0, none⟩), .agg #[.string lb, .string op, .slice va os.length vc]] w (LeavePost B be bt wi k vm vn ms ns calls (leaveP W k (stOf ms ns outs calls)) w) := by
  obtain ⟨i0, hi0, hz0, hz1, hz2⟩ := info_parts info_line
  have hb0 : Below w.heap.size w (w.alloc (.cells #[.string lb, .string op, .slice va os.length vc] 101)) := (Below.refl _ _).alloc (Nat.le_refl _) _
  have HX := hid (hx.below hb0)
  have HP := hid (hp.below hb0)
  have HF := hid (show Fr B [] w (w.alloc (.cells #[.string lb, .string op, .slice va os.length vc] 101)) from Fr.of_below hb0)
  have hol : outs.length ≤ 300 := by simpa [stOf] using hok
  clear hx hp hb0 hok
  go_enter Tryz.func110, Tryz.ntmps110
  go_wp2_with fail
  refine (Text_any lb op va vc os _ C W HP.out hl hn).mono ?_
  rintro e w1 ⟨t, ht, rfl, hb1⟩
  have HX := hid (HX.out.below hb1)
  have HF := hid (HF.out.trans (Fr.of_below hb1))
  have HT := hid ht
  have hB1 : B ≤ w1.heap.size := Nat.le_trans hB HF.out.size
  clear hb1 ht HP
  by_cases hz : t.size = 0
  · have kz := is_empty t hz
    have HR := hid (show leaveP W k (stOf ms ns outs calls) = (0, stOf ms ns outs calls) by unfold leaveP; rw [if_pos (by rw [← HT.out]; exact L_zero hz)])
    clear hz
    go_wp2
    go_ret
    rw [HR.out]
    exact ⟨rfl, HF.out, fun _ => ⟨vl, outs, HX.out, rfl⟩, HX.out.num⟩
  · have kz := not_empty t (by omega)
    have hne : ¬ textP W = [] := fun e => hz (by rw [size_L, HT.out, e]; rfl)
    obtain ⟨al, cl, hvl⟩ := own_form HX.out.lown
    have c5 := HX.out.row.cell 5 (by simp)
    have f5 := HX.out.row.free 5
    have c5 : w1.cell? ⟨be, 5, none⟩ = some (.slice al outs.length cl) := by rw [← hvl]; exact c5
    by_cases h300 : outs.length = 300
    · have kk : ((outs.length : Int) == 300) = true := by rw [beq_iff_eq]; omega
      have HR := hid (show leaveP W k (stOf ms ns outs calls) = (8, stOf ms ns outs calls) by unfold leaveP; rw [if_neg hne, if_pos (by simp [stOf, h300])])
      clear hz hne h300
      go_wp2
      go_ret
      rw [HR.out]
      exact ⟨rfl, HF.out, (fun h => by cases h), HX.out.num⟩
    · have kk : ((outs.length : Int) == 300) = false := by rw [beq_eq_false_iff_ne]; omega
      have HR := hid (show leaveP W k (stOf ms ns outs calls) = (0, stOf ms ns (outs ++ [(t, k)]) calls) by
        unfold leaveP; rw [if_neg hne, if_neg (by simp [stOf]; omega)]
        simp [stOf, HT.out])
      subst hvl
      have hlt := HX.out.row.lt
      have hneb : (Value.slice al outs.length cl).ownBlock ≠ some be := own_row_ne HX.out.lown HX.out.row (by decide)
      clear hz hne h300
      go_wp2_with fail
      go_region_law
        (first
          | (rw [if_pos (by rfl)]; go_simp; go_at_call 32; refine (number_any' _ B be bt wi k vm vn _ ms ns outs calls (HX.out.below ((Below.refl _ _).drew))).mono ?_; rintro e w' ⟨rfl, hw'⟩; subst hw')
          | (refine step_append_lies _ (by rfl) _ _ _ (by rfl) B 38 i0 _ 4 40 Tryz.underlying26 hi0 hz0 hz1 hz2 rfl (by omega) (.slice al outs.length cl) outs.length (lineCells outs) (by rfl) ((HX.out.lown.alloc _).drew) ⟨_, 0, none⟩ 1 1 [.string t, .int .i64 (k : Nat), .int .i64 0, .int .i64 0] (by rfl) (by rfl) (World.news_of_block (cs := #[.string t, .int .i64 (k : Nat), .int .i64 0, .int .i64 0]) (t := 38) (fr := (0, 0)) (heap_alloc_new _ _)) (by simp [Value.oneCell']) (by omega) (by unfold maxLen; omega) (by omega) (by simp; omega) _ rfl ?_; intro gg cap' w4 hown4 hgrow hat hlt4; have hc4 := (hgrow.cell_far ⟨be, 5, none⟩ (by simp; omega) (Ne.symm hneb)).trans ((((Below.refl w1.heap.size w1).alloc (Nat.le_refl _) _).drew.cell (p := ⟨be, 5, none⟩) hlt).trans c5); have hf4 := (hgrow.frozen_far ⟨be, 5, none⟩ (by simp; omega) (Ne.symm hneb)).trans ((((Below.refl w1.heap.size w1).alloc (Nat.le_refl _) _).drew.frozen (p := ⟨be, 5, none⟩) hlt).trans f5)))
      all_goals
        have hb2 : Below w1.heap.size w1 (w1.alloc (.cells #[.string t, .int .i64 (k : Nat), .int .i64 0, .int .i64 0] 38)).drew := ((Below.refl _ _).alloc (Nat.le_refl _) _).drew
        have HL := hid ((HX.out.below hb2).line hgrow hown4)
        have HF2 := hid ((HF.out.trans (Fr.of_below hb2)).trans HL.out.2)
        clear hown4 hgrow hat hc4 hf4
        go_wp2
        go_ret
        rw [HR.out]
        exact ⟨rfl, HF2.out, fun _ => ⟨_, _, HL.out.1, rfl⟩, HL.out.1.num⟩

theorem leave_any (w : World) (B be bt wi k : Nat) (st : StP) (lb op : ByteArray) (va : Option Addr) (vc : Nat) (os : List ByteArray) (W : WordsP) (C : Nat) (h : ExpSt w B be bt wi k st) (hp : PartsV w C lb op (.slice va os.length vc) os W) (hl : (textP W).length ≤ 1000000) (hn : os.length ≤ 1000000) (hok : st.out.length ≤ 300) (hB : B ≤ w.heap.size) :
    Calls Tryz.prog 110 #[.pointer (some ⟨be, 0, none⟩), .agg #[.string lb, .string op, .slice va os.length vc]] w (ExpPost B be bt wi k [] (leaveP W k st) w) := by
  obtain ⟨vm, vn, vl, ms, ns, outs, calls, hx, rfl⟩ := h
  refine (leave_any' w B be bt wi k vm vn vl ms ns outs calls lb op va vc os W C hx hp hl hn hok hB).mono ?_
  rintro e w' ⟨h1, h2, h3, h4⟩
  refine ⟨h1, h2, fun h0 => ?_, h4⟩
  obtain ⟨vl', outs', h5, h6⟩ := h3 h0
  exact ⟨vm, vn, vl', ms, ns, outs', calls, h5, h6⟩

end Go.Proofs.YtcepppilgncdmaaGreatDoor

namespace Go.Proofs.YtcepppilgncdmaaGreatDoor
open Go.RowKit

/-- What the caller writes into the lines that came out. -/
def markL (j : Nat) : List Value := [.string ⟨#[]⟩, .int .i64 (-1000 - (j : Int)), .int .i64 0, .int .i64 0]

theorem grown_trans {a b c : World} {row : Option Nat} (h : a.grownBy b row) (k : b.grownBy c row) : a.grownBy c row :=
  ⟨k.os.trans h.os, k.tape.trans h.tape, k.output.trans h.output, Nat.le_trans h.size k.size, fun i hi hn => (k.block i (Nat.lt_of_lt_of_le hi h.size) hn).trans (h.block i hi hn)⟩
theorem grown_set (w : World) (p : Addr) (u : Value) {row : Option Nat} (h : row = some p.block) : w.grownBy (w.setCell p u) row :=
  ⟨rfl, rfl, rfl, by simp [World.setCell], fun k _ hn => heap_setCell_other w p k u (fun e => hn (by rw [h, e]))⟩
theorem own_set {w : World} {base e size g n cap : Nat} {xs : List Value} (h : w.ownsRow base e size (.slice (some ⟨g, 0, none⟩) n cap) n xs) (j : Nat) (u : Value) : (w.setCell ⟨g, j, none⟩ u).ownsRow base e size (.slice (some ⟨g, 0, none⟩) n cap) n (xs.set j u) := by
  rcases h with ⟨hl, ⟨h0, _⟩ | ⟨g', cap', cur, hv, hb, hh, hn, hc, hs, ht⟩⟩
  · cases h0
  · cases hv
    refine ⟨by simp [hl], Or.inr ⟨g, cap, cur.setIfInBounds j u, rfl, hb, ?_, hn, hc, by simp [hs], ?_⟩⟩
    · exact heap_setCell_same w g j cur e u hh
    · rw [← ht]
      simp [List.take_set]

theorem take_marks {xs mk : List Value} {j n : Nat} {a b c d : Value} (hm : mk = [a, b, c, d]) (hx : xs.length = n * 4) (hj : j < n) (ht : xs.take (j * 4) = reps mk j) :
    ((((xs.set (j * 4) a).set (j * 4 + 1) b).set (j * 4 + 2) c).set (j * 4 + 3) d).take ((j + 1) * 4) = reps mk (j + 1) := by
  have h1 : xs = reps mk j ++ xs.drop (j * 4) := by rw [← ht, List.take_append_drop]
  have h2 : (xs.drop (j * 4)).length = n * 4 - j * 4 := by rw [List.length_drop, hx]
  have h3 : (reps mk j).length = j * 4 := by rw [reps_length, hm]; rfl
  generalize hd : xs.drop (j * 4) = ys at *
  match ys, h2 with
  | x0 :: x1 :: x2 :: x3 :: r, _ =>
    rw [h1, ← h3]
    rw [List.set_append_right _ _ (by omega), List.set_append_right _ _ (by omega), List.set_append_right _ _ (by omega), List.set_append_right _ _ (by omega)]
    rw [List.take_append, List.take_of_length_le (by omega)]
    simp only [reps, Nat.sub_self, Nat.add_sub_cancel_left, hm]
    rw [show (j + 1) * 4 - (reps [a, b, c, d] j).length = 4 from by rw [← hm]; omega]
    simp
  | [], h => simp at h; omega
  | [_], h => simp at h; omega
  | [_, _], h => simp at h; omega
  | [_, _, _], h => simp at h; omega
theorem grown_set4 {w1 w : World} {g n cap : Nat} (h : w1.grownBy w (Value.slice (some ⟨g, 0, none⟩) n cap).ownBlock) (i j k l : Nat) (a b c d : Value) :
    w1.grownBy ((((w.setCell ⟨g, i, none⟩ a).setCell ⟨g, j, none⟩ b).setCell ⟨g, k, none⟩ c).setCell ⟨g, l, none⟩ d) (Value.slice (some ⟨g, 0, none⟩) n cap).ownBlock :=
  grown_trans (grown_trans (grown_trans (grown_trans h (grown_set _ ⟨g, i, none⟩ _ rfl)) (grown_set _ ⟨g, j, none⟩ _ rfl)) (grown_set _ ⟨g, k, none⟩ _ rfl)) (grown_set _ ⟨g, l, none⟩ _ rfl)
theorem own_types {w : World} {b d e f s t n m : Nat} {u v : Value} {xs ys : List Value} (h : w.ownsRow b e s u n xs) (k : w.ownsRow d f t v m ys) (hne : e ≠ f) : u.ownBlock = none ∨ u.ownBlock ≠ v.ownBlock := by
  rcases h.2 with ⟨rfl, _⟩ | ⟨g, cap, cur, rfl, _, hk, _⟩
  · exact Or.inl rfl
  · right
    intro hh
    rcases k.2 with ⟨rfl, _⟩ | ⟨g', cap', cur', rfl, _, hk', _⟩
    · cases hh
    · simp only [Value.ownBlock, Option.some.injEq] at hh
      subst hh
      rw [hk] at hk'
      simp only [Option.some.injEq, Obj.cells.injEq] at hk'
      exact hne hk'.2.1

/-- Two lists that lie in one block: one is as the other, but longer. -/
def Share (n : Nat) (v u : Value) (k : Nat) : Prop := ∀ p, u.ownBlock = some p → v.ownBlock = some p → ∃ c, v = .slice (some ⟨p, 0, none⟩) n c ∧ u = .slice (some ⟨p, 0, none⟩) k c
theorem share_self {w : World} {b e s n : Nat} {v : Value} {xs : List Value} (h : w.ownsRow b e s v n xs) : Share n v v n := by
  intro p h1 _
  rcases h.2 with ⟨rfl, _⟩ | ⟨g, cap, cur, rfl, _⟩
  · cases h1
  · simp only [Value.ownBlock, Option.some.injEq] at h1
    subst h1
    exact ⟨cap, rfl, rfl⟩
theorem share_or {w w' : World} {b e s n g cap k : Nat} {v : Value} {xs : List Value} (h : w.ownsRow b e s v n xs) (hor : v = .slice (some ⟨g, 0, none⟩) n cap ∨ (w.heap.size ≤ g ∧ w.grownBy w' none)) : Share n v (.slice (some ⟨g, 0, none⟩) k cap) k := by
  intro p h1 h2
  simp only [Value.ownBlock, Option.some.injEq] at h1
  subst h1
  rcases hor with rfl | ⟨h3, _⟩
  · exact ⟨cap, rfl, rfl⟩
  · exfalso
    rcases h.2 with ⟨rfl, _⟩ | ⟨g', cap', cur, rfl, _, hh, _⟩
    · cases h2
    · simp only [Value.ownBlock, Option.some.injEq] at h2
      subst h2
      have := (Array.getElem?_eq_some_iff.1 hh).1
      omega
theorem own_lt {w : World} {b e s n p : Nat} {v : Value} {xs : List Value} (h : w.ownsRow b e s v n xs) (hp : v.ownBlock = some p) : p < w.heap.size := by
  rcases h.2 with ⟨rfl, _⟩ | ⟨g', cap', cur, rfl, _, hh, _⟩
  · cases hp
  · simp only [Value.ownBlock, Option.some.injEq] at hp
    subst hp
    exact (Array.getElem?_eq_some_iff.1 hh).1
theorem own_geK {w : World} {b e s n p : Nat} {v : Value} {xs : List Value} (h : w.ownsRow b e s v n xs) (hp : v.ownBlock = some p) : b ≤ p := by
  rcases h.2 with ⟨rfl, _⟩ | ⟨g', cap', cur, rfl, hb, _⟩
  · cases hp
  · simp only [Value.ownBlock, Option.some.injEq] at hp
    subst hp
    exact hb

/-- The lists that were kept still read as the caller has written them. -/
def KeptAt (w : World) (B : Nat) (us : List Value) : Prop :=
  ∀ i u, us[i]? = some u → ∃ k, w.ownsRow 0 38 4 u k (reps (markL (i / 4)) k) ∧ ∀ q, u.ownBlock = some q → q < B
/-- The book: its lines, four lists for each that came out; its names, its bytes. -/
structure BookAt (w : World) (lo B kb : Nat) (vb nv bv : Value) (us : List Value) : Prop where
  row : RowT w 55 kb [vb, nv, bv]
  ge : lo ≤ kb
  hi : kb < B
  own : w.ownsRow lo 26 1 vb us.length us
  far : ∀ q, vb.ownBlock = some q → q < B
  kept : KeptAt w B us

theorem KeptAt.grown {w w' : World} {B : Nat} {us : List Value} {row : Option Nat} (h : KeptAt w B us) (hg : w.grownBy w' row) (hr : ∀ p, row = some p → B ≤ p) : KeptAt w' B us := by
  intro i u hu
  obtain ⟨k, h1, h2⟩ := h i u hu
  refine ⟨k, h1.kept hg ?_, h2⟩
  cases hub : u.ownBlock with
  | none => exact Or.inl rfl
  | some p =>
    right
    intro e
    have := h2 p hub
    have := hr p e.symm
    omega
theorem BookAt.grown {w w' : World} {lo B kb : Nat} {vb nv bv : Value} {us : List Value} {row : Option Nat} (h : BookAt w lo B kb vb nv bv us) (hg : w.grownBy w' row) (hr : ∀ p, row = some p → B ≤ p) : BookAt w' lo B kb vb nv bv us := by
  refine ⟨h.row.grown' hg (fun e => ?_), h.ge, h.hi, h.own.kept hg ?_, h.far, h.kept.grown hg hr⟩
  · have := hr kb e.symm
    have := h.hi
    omega
  · cases hub : vb.ownBlock with
    | none => exact Or.inl rfl
    | some p =>
      right
      intro e
      have := h.far p hub
      have := hr p e.symm
      omega
theorem own_set_book {w : World} {b n kb : Nat} {u x : Value} {xs ys : List Value} (h : w.ownsRow b 38 4 u n xs) (hr : RowT w 55 kb ys) : (w.setCell ⟨kb, 0, none⟩ x).ownsRow b 38 4 u n xs :=
  h.kept (grown_set w ⟨kb, 0, none⟩ x rfl) (Or.inr (own_row_ne h hr (by decide)))
theorem own_set_book' {w : World} {b n kb : Nat} {u x : Value} {xs ys : List Value} (h : w.ownsRow b 26 1 u n xs) (hr : RowT w 55 kb ys) : (w.setCell ⟨kb, 0, none⟩ x).ownsRow b 26 1 u n xs :=
  h.kept (grown_set w ⟨kb, 0, none⟩ x rfl) (Or.inr (own_row_ne h hr (by decide)))
/-- One list more in the book: the book, behind it, and another list of lines. -/
theorem BookAt.more {w w2 w4 : World} {lo B kb g cap : Nat} {vb nv bv u : Value} {us : List Value} (h : BookAt w lo B kb vb nv bv us) (hB : B ≤ w.heap.size) (ha : w.grownBy w2 none) (hg : w2.grownBy w4 vb.ownBlock)
    (ho : w4.ownsRow lo 26 1 (.slice (some ⟨g, 0, none⟩) (us.length + 1) cap) (us.length + 1) (us ++ [u])) (hl : g < w4.heap.size) (hu : ∃ k, w.ownsRow 0 38 4 u k (reps (markL (us.length / 4)) k)) :
    BookAt (w4.setCell ⟨kb, 0, none⟩ (.slice (some ⟨g, 0, none⟩) (us.length + 1) cap)) lo w4.heap.size kb (.slice (some ⟨g, 0, none⟩) (us.length + 1) cap) nv bv (us ++ [u]) := by
  have hs : w.heap.size ≤ w4.heap.size := Nat.le_trans ha.size hg.size
  have hne : vb.ownBlock ≠ some kb := own_row_ne h.own h.row (by decide)
  have hr2 : RowT w2 55 kb [vb, nv, bv] := h.row.grown' ha (by simp)
  have hr4 : RowT w4 55 kb [vb, nv, bv] := hr2.grown' hg (Ne.symm hne)
  have hvb2 : w2.ownsRow lo 26 1 vb us.length us := h.own.kept ha (by cases hub : vb.ownBlock <;> simp)
  have hst : ∀ {b n : Nat} {u : Value} {xs : List Value}, w.ownsRow b 38 4 u n xs → w4.ownsRow b 38 4 u n xs := by
    intro b n u xs h1
    have h2 : w2.ownsRow b 38 4 u n xs := h1.kept ha (by cases hub : u.ownBlock <;> simp)
    exact h2.kept hg (own_types h2 hvb2 (by decide))
  refine ⟨hr4.set 0 _, h.ge, Nat.lt_of_lt_of_le h.row.lt hs, ?_, ?_, ?_⟩
  · rw [List.length_append]
    exact own_set_book' ho hr4
  · intro p hp
    simp only [Value.ownBlock, Option.some.injEq] at hp
    omega
  · intro i v hv
    rw [List.getElem?_append] at hv
    split at hv
    · obtain ⟨k, h1, h2⟩ := h.kept i v hv
      exact ⟨k, own_set_book (hst h1) hr4, fun p hp => Nat.lt_of_lt_of_le (h2 p hp) (Nat.le_trans hB hs)⟩
    · obtain ⟨k, h1⟩ := hu
      have hi : i = us.length ∧ u = v := by
        have : i - us.length = 0 := by
          by_cases h0 : i - us.length = 0
          · exact h0
          · rw [List.getElem?_eq_none (by simp; omega)] at hv; cases hv
        rw [this] at hv
        simp at hv
        exact ⟨by omega, hv⟩
      obtain ⟨rfl, rfl⟩ := hi
      exact ⟨k, own_set_book (hst h1) hr4, fun p hp => Nat.lt_of_lt_of_le (own_lt h1 hp) hs⟩
theorem BookAt.stays {w w2 w4 : World} {lo B kb b n : Nat} {vb nv bv u x : Value} {us xs : List Value} (h : BookAt w lo B kb vb nv bv us) (ha : w.grownBy w2 none) (hg : w2.grownBy w4 vb.ownBlock)
    (h1 : w.ownsRow b 38 4 u n xs) : (w4.setCell ⟨kb, 0, none⟩ x).ownsRow b 38 4 u n xs := by
  have hne : vb.ownBlock ≠ some kb := own_row_ne h.own h.row (by decide)
  have hr4 : RowT w4 55 kb [vb, nv, bv] := (h.row.grown' ha (by simp)).grown' hg (Ne.symm hne)
  have hvb2 : w2.ownsRow lo 26 1 vb us.length us := h.own.kept ha (by cases hub : vb.ownBlock <;> simp)
  have h2 : w2.ownsRow b 38 4 u n xs := h1.kept ha (by cases hub : u.ownBlock <;> simp)
  exact own_set_book (h2.kept hg (own_types h2 hvb2 (by decide))) hr4

theorem info_lines : (Tryz.prog.info? 26).map (fun i => (i.zero, i.size, i.bytes)) = some (some (.slice none 0 0), 1, 24) := by kernel_rfl


end Go.Proofs.YtcepppilgncdmaaGreatDoor

namespace Go.Proofs.YtcepppilgncdmaaGreatDoor
open Go.RowKit

theorem marks_append {w w2 w3 : World} {B e q n m g cap : Nat} {v : Value} {news : List Value} (hv : w.ownsRow B e 4 v n (reps (markL q) n)) (ha : w.grownBy w2 none) (hnews : news = reps (markL q) m)
    (ho : w3.ownsRow B e 4 (.slice (some ⟨g, 0, none⟩) (n + m) cap) (n + m) (reps (markL q) n ++ news)) (hg : w2.grownBy w3 v.ownBlock) (hor : v = .slice (some ⟨g, 0, none⟩) n cap ∨ (w2.heap.size ≤ g ∧ w2.grownBy w3 none)) :
    w3.ownsRow B e 4 v n (reps (markL q) n) ∧ (∀ u k, k ≤ n + m → Share n v u k → w.ownsRow B e 4 u k (reps (markL q) k) → w3.ownsRow B e 4 u k (reps (markL q) k)) ∧
      Share n v (.slice (some ⟨g, 0, none⟩) (n + m) cap) (n + m) ∧ w3.ownsRow B e 4 (.slice (some ⟨g, 0, none⟩) (n + m) cap) (n + m) (reps (markL q) (n + m)) ∧ w.grownBy w3 v.ownBlock := by
  subst hnews
  have al : ∀ {u : Value} {k : Nat} {xs : List Value}, w.ownsRow B e 4 u k xs → w2.ownsRow B e 4 u k xs := fun {u k xs} h => h.kept ha (by cases hub : u.ownBlock <;> simp)
  have st : ∀ u k, k ≤ n + m → Share n v u k → w.ownsRow B e 4 u k (reps (markL q) k) → w3.ownsRow B e 4 u k (reps (markL q) k) := fun u k hk hs hu =>
    marks_stay (mk := markL q) rfl (al hu) hg ho hor (fun p h1 h2 => ⟨hk, hs p h1 h2⟩)
  refine ⟨st v n (by omega) (share_self hv) hv, st, share_or (al hv) hor, ?_, grown_trans (grown_any ha) hg⟩
  rw [reps_add]; exact ho
theorem book_step {w0 w w2 w4 : World} {M : List Nat} {lo B kb g cap N : Nat} {v0 vb nv bv u : Value} {us : List Value} (hN : us.length = N) (hK : Keeps M w0 w) (hkM : kb ∈ M) (hv0 : ∀ p, v0.ownBlock = some p → p ∈ M)
    (hV : ∀ p, vb.ownBlock = some p → v0.ownBlock = some p ∨ w0.heap.size ≤ p) (h : BookAt w lo B kb vb nv bv us) (hB : B ≤ w.heap.size) (ha : w.grownBy w2 none) (hg : w2.grownBy w4 vb.ownBlock)
    (ho : w4.ownsRow lo 26 1 (.slice (some ⟨g, 0, none⟩) (N + 1) cap) (N + 1) (us ++ [u])) (hl : g < w4.heap.size) (hor : vb = .slice (some ⟨g, 0, none⟩) N cap ∨ (w2.heap.size ≤ g ∧ w2.grownBy w4 none))
    (hu : ∃ k, w.ownsRow 0 38 4 u k (reps (markL (N / 4)) k)) {w7 : World} (hw : w4.setCell ⟨kb, 0, none⟩ (.slice (some ⟨g, 0, none⟩) (N + 1) cap) = w7) :
    BookAt w7 lo w7.heap.size kb (.slice (some ⟨g, 0, none⟩) (N + 1) cap) nv bv (us ++ [u]) ∧ Keeps M w0 w7 ∧ (∀ p, (Value.slice (some ⟨g, 0, none⟩) (N + 1) cap).ownBlock = some p → v0.ownBlock = some p ∨ w0.heap.size ≤ p) ∧
      (∀ b n u xs, w.ownsRow b 38 4 u n xs → w7.ownsRow b 38 4 u n xs) := by
  subst hN
  have hs : w7.heap.size = w4.heap.size := by rw [← hw]; simp [World.setCell]
  refine ⟨by rw [hs, ← hw]; exact h.more hB ha hg ho hl hu, ?_, ?_, fun b n u xs h1 => by rw [← hw]; exact h.stays ha hg h1⟩
  · rw [← hw]
    refine ((hK.grown ha (by simp)).grown hg (fun p hp => ?_)).setCell (p := ⟨kb, 0, none⟩) hkM _
    exact (hV p hp).imp (hv0 p) id
  · intro p hp
    rcases hor with e | ⟨e, _⟩
    · exact hV p (by rw [e]; exact hp)
    · right
      simp only [Value.ownBlock, Option.some.injEq] at hp
      have h1 := hK.size
      have h2 := ha.size
      omega

set_option maxRecDepth 100000 in
set_option maxHeartbeats 800000 in
theorem keepsLines_any (w : World) (lo B kb : Nat) (vb nv bv : Value) (us : List Value) (a : Option Addr) (n cap : Nat) (xs : List Value) (hbk : BookAt w lo B kb vb nv bv us) (hB : B ≤ w.heap.size) (hlo : lo ≤ B)
    (hown : w.ownsRow B 38 4 (.slice a n cap) n xs) (hn : n ≤ 300) (hus : us.length % 4 = 0) (hN : (us.length + 4) * 24 ≤ 140737488355328) :
    Calls Tryz.prog 40 #[.pointer (some ⟨kb, 0, none⟩), .slice a n cap] w fun e w' => e = .returned (.tuple #[]) ∧ ∃ vb' us', us'.length = 4 ∧ BookAt w' lo w'.heap.size kb vb' nv bv (us ++ us') ∧ (∀ p, vb'.ownBlock = some p → vb.ownBlock = some p ∨ B ≤ p) ∧ Keeps (kb :: (vb.ownBlock.toList ++ (Value.slice a n cap).ownBlock.toList)) w w' := by
  obtain ⟨i0, hi0, hz0, hz1, hz2⟩ := info_parts info_line
  obtain ⟨il, hil, hl0, hl1, hl2⟩ := info_parts info_lines
  have c0 : w.cell? ⟨kb, 0, none⟩ = some vb := hbk.row.cell 0 (by simp)
  have hkl := hbk.row.lt
  obtain ⟨ab, cb, rfl⟩ : ∃ ab cb, vb = .slice ab us.length cb := by
    rcases hbk.own.2 with ⟨rfl, h0⟩ | ⟨g, cap', cur, rfl, _⟩
    · exact ⟨none, 0, by rw [h0]⟩
    · exact ⟨_, _, rfl⟩
  have hN1 : us.length ≤ 5864062014801 := by omega
  obtain ⟨N, hNe⟩ : ∃ N, us.length = N := ⟨_, rfl⟩
  obtain ⟨q, hq⟩ : ∃ q, N / 4 = q := ⟨_, rfl⟩
  rw [hNe] at c0 hN1
  have hq1 : Int.tdiv (N : Int) 4 = (q : Int) := by rw [Int.tdiv_eq_ediv_of_nonneg (by omega)]; omega
  have HBK := hid hbk
  have HOWN := hid hown
  clear hbk hown
  go_enter Tryz.func40, Tryz.ntmps40
  go_wp2_with fail
  have hmk : markL q = [.string ⟨#[]⟩, .int .i64 (-1000 - (q : Int)), .int .i64 0, .int .i64 0] := rfl
  generalize -1000 - (q : Int) = z at hmk ⊢
  have HMK := hid hmk
  clear hmk
  generalize hw1 : w.alloc (Obj.cells #[.string ⟨#[]⟩, .int .i64 z, .int .i64 0, .int .i64 0] 38) = w1
  have hm1 : RowT w1 38 w.heap.size [.string ⟨#[]⟩, .int .i64 z, .int .i64 0, .int .i64 0] := by rw [← hw1]; exact RowT.new w _ _
  have hown1 : w1.ownsRow B 38 4 (.slice a n cap) n xs := by rw [← hw1]; exact HOWN.out.alloc _
  have hg1 : w.grownBy w1 none := by rw [← hw1]; exact World.grownBy_alloc w _ none
  have hmb : w.heap.size < w1.heap.size := hm1.lt
  generalize hmbe : w.heap.size = mb at *
  have HM1 := hid hm1
  have HOWN1 := hid hown1
  have HG1 := hid hg1
  have hane : (Value.slice a n cap).ownBlock ≠ some mb := by
    rcases HOWN.out.2 with ⟨h, _⟩ | ⟨g, c', cur, h, _, hh, _⟩
    · rw [h]; simp [Value.ownBlock]
    · rw [h]
      simp only [Value.ownBlock, ne_eq, Option.some.injEq]
      have := (Array.getElem?_eq_some_iff.1 hh).1
      omega
  clear hm1 hown1 hg1 hw1
  go_loopw [5] (fun i wr => ∃ (j : Nat) (ys : List Value), j ≤ n ∧ i = .int .i64 j ∧ ys.take (j * 4) = reps (markL q) j ∧ wr.ownsRow B 38 4 (.slice a n cap) n ys ∧ w1.grownBy wr (Value.slice a n cap).ownBlock) (fun i _ => n - (intOf i).toNat)
  case atStart => exact ⟨0, xs, Nat.zero_le _, rfl, rfl, HOWN1.out, World.grownBy.refl _ _⟩
  case round =>
    obtain ⟨j, ys, hj, rfl, hys, hor, hgr⟩ := hrel
    have HYS := hid hys
    have HOR := hid hor
    have HGR := hid hgr
    have HMR := hid (HM1.out.grown' hgr (Ne.symm hane))
    have m0 := HMR.out.cell 0 (by simp)
    have m1 := HMR.out.cell 1 (by simp)
    have m2 := HMR.out.cell 2 (by simp)
    have m3 := HMR.out.cell 3 (by simp)
    simp only [List.getElem_cons_zero, List.getElem_cons_succ] at m0 m1 m2 m3
    have hmr := HMR.out.lt
    clear hys hor hgr
    by_cases hlt : j < n
    · obtain ⟨g, cap', hv, hBg, hgl⟩ := HOR.out.form (by omega)
      simp only [Value.slice.injEq, true_and] at hv
      obtain ⟨rfl, rfl⟩ := hv
      have d1 : decide ((j : Int) < (n : Int)) = true := by simp; omega
      have hyl := HOR.out.1
      have c0 := HOR.out.cellAt (j * 4) (by omega)
      have c1 := HOR.out.cellAt (j * 4 + 1) (by omega)
      have c2 := HOR.out.cellAt (j * 4 + 2) (by omega)
      have c3 := HOR.out.cellAt (j * 4 + 3) (by omega)
      rw [List.getElem?_eq_getElem (by omega)] at c0 c1 c2 c3
      have hfz : ∀ i, wr.frozen? ⟨g, i, none⟩ = false := fun i => by
        rcases HOR.out.2 with ⟨h, _⟩ | ⟨g', _, cur, h, _, hh, _⟩
        · cases h
        · cases h; simp [World.frozen?, hh]
      have f0 := hfz (j * 4)
      have f1 := hfz (j * 4 + 1)
      have f2 := hfz (j * 4 + 2)
      have f3 := hfz (j * 4 + 3)
      clear hfz
      go_wp2_with fail
      go_roundw
      case rel => exact ⟨j + 1, ((((ys.set (j * 4) (.string ⟨#[]⟩)).set (j * 4 + 1) (.int .i64 z)).set (j * 4 + 2) (.int .i64 0)).set (j * 4 + 3) (.int .i64 0)), by omega, by go_num, take_marks HMK.out hyl hlt HYS.out, own_set (own_set (own_set (own_set HOR.out (j * 4) _) (j * 4 + 1) _) (j * 4 + 2) _) (j * 4 + 3) _, grown_set4 HGR.out (j * 4) (j * 4 + 1) (j * 4 + 2) (j * 4 + 3) _ _ _ _⟩
      case measure => simp [intOf]; omega
    · have d1 : decide ((j : Int) < (n : Int)) = false := by simp; omega
      have hjn : j = n := by omega
      subst hjn
      have hors : wr.ownsRow B 38 4 (.slice a j cap) j (reps (markL q) j) := by
        have h := HYS.out
        rw [List.take_of_length_le (by rw [HOR.out.1]; omega)] at h
        rw [← h]; exact HOR.out
      have HORS := hid hors
      have HMR0 := HMR
      have hgw : w.grownBy wr (Value.slice a j cap).ownBlock := grown_trans (grown_any HG1.out) HGR.out
      have HGW := hid hgw
      clear hors hgw HYS HOR HGR HOWN1 HM1 HG1
      go_upto_region 6 with ((at_builtin; refine wpList_append_both _ rfl (.tmp 27) (.tmp 29) 26 rfl B 38 i0 _ 4 40 Tryz.underlying26 hi0 hz0 hz1 hz2 rfl (by omega) (.slice a j cap) j (reps (markL q) j) rfl (HORS.out.alloc _) ⟨wr.heap.size, 0, none⟩ 1 1 [.string ⟨#[]⟩, .int .i64 z, .int .i64 0, .int .i64 0] rfl rfl (World.news_of_block (cs := #[.string ⟨#[]⟩, .int .i64 z, .int .i64 0, .int .i64 0]) (t := 38) (fr := (0, 0)) (heap_alloc_new _ _)) (by simp [Value.oneCell']) (by omega) (by unfold maxLen; omega) (by omega) (by simp; omega) ?_; intro g1 cap1 w3 hownX hgrX hltX horX))
      obtain ⟨hl1', hst1, hsh1, ho1, hgr1⟩ := marks_append (m := 1) HORS.out (World.grownBy_alloc _ _ none) (by rw [HMK.out]; rfl) hownX hgrX horX
      have HMR1 := hid (HMR.out.grown' hgr1 (Ne.symm hane))
      have HL1 := hid hl1'
      have HO1 := hid ho1
      have HS1 := hid hsh1
      have HGW1 := hid (grown_trans HGW.out hgr1)
      have m0 := HMR1.out.cell 0 (by simp)
      have m1 := HMR1.out.cell 1 (by simp)
      have m2 := HMR1.out.cell 2 (by simp)
      have m3 := HMR1.out.cell 3 (by simp)
      simp only [List.getElem_cons_zero, List.getElem_cons_succ] at m0 m1 m2 m3
      have hmr := HMR1.out.lt
      have hs1 := HGW1.out.size
      clear hownX hgrX hltX horX hl1' hst1 hsh1 ho1 hgr1 HMR HORS HGW
      go_upto_region 7 with ((at_builtin; refine wpList_append_both _ rfl (.tmp 31) (.tmp 34) 26 rfl B 38 i0 _ 4 40 Tryz.underlying26 hi0 hz0 hz1 hz2 rfl (by omega) (.slice a j cap) j (reps (markL q) j) rfl (HL1.out.alloc _) ⟨w3.heap.size, 0, none⟩ 2 2 [.string ⟨#[]⟩, .int .i64 z, .int .i64 0, .int .i64 0, .string ⟨#[]⟩, .int .i64 z, .int .i64 0, .int .i64 0] rfl rfl (World.news_of_block (cs := #[.string ⟨#[]⟩, .int .i64 z, .int .i64 0, .int .i64 0, .string ⟨#[]⟩, .int .i64 z, .int .i64 0, .int .i64 0]) (t := 38) (fr := (0, 0)) (heap_alloc_new _ _)) (by simp [Value.oneCell']) (by omega) (by unfold maxLen; omega) (by omega) (by simp; omega) ?_; intro g2 cap2 w4 hownX hgrX hltX horX))
      obtain ⟨hl2', hst2, hsh2, ho2, hgr2⟩ := marks_append (m := 2) HL1.out (World.grownBy_alloc _ _ none) (by rw [HMK.out]; rfl) hownX hgrX horX
      have HMR2 := hid (HMR1.out.grown' hgr2 (Ne.symm hane))
      have HL2 := hid hl2'
      have HO12 := hid (hst2 _ (j + 1) (by omega) HS1.out HO1.out)
      have HO2 := hid ho2
      have HS2 := hid hsh2
      have HGW2 := hid (grown_trans HGW1.out hgr2)
      have m0 := HMR2.out.cell 0 (by simp)
      have m1 := HMR2.out.cell 1 (by simp)
      have m2 := HMR2.out.cell 2 (by simp)
      have m3 := HMR2.out.cell 3 (by simp)
      simp only [List.getElem_cons_zero, List.getElem_cons_succ] at m0 m1 m2 m3
      have hmr := HMR2.out.lt
      have hs2 := HGW2.out.size
      clear hownX hgrX hltX horX hl2' hst2 hsh2 ho2 hgr2 HMR1 HL1 HO1 HGW1
      go_upto_region 8 with ((at_builtin; refine wpList_append_both _ rfl (.tmp 36) (.tmp 40) 26 rfl B 38 i0 _ 4 40 Tryz.underlying26 hi0 hz0 hz1 hz2 rfl (by omega) (.slice a j cap) j (reps (markL q) j) rfl (HL2.out.alloc _) ⟨w4.heap.size, 0, none⟩ 3 3 [.string ⟨#[]⟩, .int .i64 z, .int .i64 0, .int .i64 0, .string ⟨#[]⟩, .int .i64 z, .int .i64 0, .int .i64 0, .string ⟨#[]⟩, .int .i64 z, .int .i64 0, .int .i64 0] rfl rfl (World.news_of_block (cs := #[.string ⟨#[]⟩, .int .i64 z, .int .i64 0, .int .i64 0, .string ⟨#[]⟩, .int .i64 z, .int .i64 0, .int .i64 0, .string ⟨#[]⟩, .int .i64 z, .int .i64 0, .int .i64 0]) (t := 38) (fr := (0, 0)) (heap_alloc_new _ _)) (by simp [Value.oneCell']) (by omega) (by unfold maxLen; omega) (by omega) (by simp; omega) ?_; intro g3 cap3 w5 hownX hgrX hltX horX))
      obtain ⟨hl3', hst3, hsh3, ho3, hgr3⟩ := marks_append (m := 3) HL2.out (World.grownBy_alloc _ _ none) (by rw [HMK.out]; rfl) hownX hgrX horX
      have HL3 := hid (own_mono hl3' (Nat.zero_le _))
      have HO13 := hid (own_mono (hst3 _ (j + 1) (by omega) HS1.out HO12.out) (Nat.zero_le _))
      have HO23 := hid (own_mono (hst3 _ (j + 2) (by omega) HS2.out HO2.out) (Nat.zero_le _))
      have HO3 := hid (own_mono ho3 (Nat.zero_le _))
      have HGW3 := hid (grown_trans HGW2.out hgr3)
      clear hownX hgrX hltX horX hl3' hst3 hsh3 ho3 hgr3 HMR2 HL2 HO12 HO2 HGW2 HS1 HS2 m0 m1 m2 m3 hmr hs1 hs2
      have hbk5 : BookAt w5 lo B kb (.slice ab us.length cb) nv bv us := HBK.out.grown HGW3.out (fun p hp => own_geK HOWN.out hp)
      have HBK5 := hid (show BookAt w5 lo B kb (.slice ab N cb) nv bv us by rw [← hNe]; exact hbk5)
      have hsz : w.heap.size ≤ w5.heap.size := HGW3.out.size
      clear hbk5
      obtain ⟨M, hM⟩ : ∃ M, kb :: ((Value.slice ab us.length cb).ownBlock.toList ++ (Value.slice a j cap).ownBlock.toList) = M := ⟨_, rfl⟩
      have hkM : kb ∈ M := by rw [← hM]; simp
      have HVM := hid (show ∀ p, (Value.slice ab us.length cb).ownBlock = some p → p ∈ M from fun p hp => by rw [← hM, hp]; simp)
      have HK5 := hid (show Keeps M w w5 from (Keeps.refl M w).grown HGW3.out (fun p hp => Or.inl (by rw [← hM, hp]; simp)))
      have HM := hid hM
      clear hM HGW3 HMK
      have HV5 := hid (show ∀ p, (Value.slice ab N cb).ownBlock = some p → (Value.slice ab us.length cb).ownBlock = some p ∨ w.heap.size ≤ p from fun p hp => Or.inl (by rw [hNe]; exact hp))
      have hc5 : w5.cell? ⟨kb, 0, none⟩ = some (.slice ab N cb) := by exact HBK5.out.row.cell 0 (by simp)
      have hq5 : N / 4 = q := hq
      have hne5 : (Value.slice ab N cb).ownBlock ≠ some kb := by exact own_row_ne HBK5.out.own HBK5.out.row (by decide)
      have hkl5 := HBK5.out.row.lt
      have hB5 : B ≤ w5.heap.size := by omega
      have HOB5 := hid (show w5.ownsRow lo 26 1 (.slice ab N cb) N us by have h := HBK5.out.own; rw [hNe] at h; exact h)
      have hf5 := HBK5.out.row.free 0
      go_upto_region 9 with ((at_builtin; refine wpList_append_both _ rfl (.tmp 46) (.tmp 48) 51 rfl lo 26 il _ 1 24 Tryz.underlying51 hil hl0 hl1 hl2 rfl (by omega) (.slice ab N cb) N us rfl (HOB5.out.alloc _) ⟨w5.heap.size, 0, none⟩ 1 1 [.slice a j cap] rfl rfl (World.news_of_block (cs := #[.slice a j cap]) (t := 26) (fr := (0, 0)) (heap_alloc_new _ _)) (by simp [Value.oneCell']) (by omega) (by unfold maxLen; omega) (by omega) (by simp; omega) ?_; intro b0 d0 wa0 hownX hgrX hltX horX; have hcX := (hgrX.cell_far ⟨kb, 0, none⟩ (by simp; omega) (Ne.symm hne5)).trans (((Below.refl w5.heap.size w5).alloc (Nat.le_refl _) (.cells #[.slice a j cap] 26)).cell (p := ⟨kb, 0, none⟩) hkl5 |>.trans hc5); have hfX := (hgrX.frozen_far ⟨kb, 0, none⟩ (by simp; omega) (Ne.symm hne5)).trans (((Below.refl w5.heap.size w5).alloc (Nat.le_refl _) (.cells #[.slice a j cap] 26)).frozen (p := ⟨kb, 0, none⟩) hkl5 |>.trans hf5)))
      generalize hwX : wa0.setCell ⟨kb, 0, none⟩ (.slice (some ⟨b0, 0, none⟩) (N + 1) d0) = w6 at *
      obtain ⟨hbk6, hK6, hV6, hst6⟩ := book_step hNe HK5.out hkM HVM.out HV5.out HBK5.out hB5 (World.grownBy_alloc _ _ none) hgrX hownX hltX horX ⟨_, by rw [hq5]; exact HL3.out⟩ hwX
      generalize hN6 : N + 1 = N6 at *
      obtain ⟨us6, hUe6⟩ : ∃ x, us ++ [.slice a j cap] = x := ⟨_, rfl⟩
      rw [hUe6] at hbk6
      have hU6 : us6.length = N6 := by rw [← hUe6, List.length_append, hNe]; exact hN6
      have HBK6 := hid hbk6
      have HK6 := hid hK6
      have HV6 := hid hV6
      have HO13 := hid (hst6 _ _ _ _ HO13.out)
      have HO23 := hid (hst6 _ _ _ _ HO23.out)
      have HO3 := hid (hst6 _ _ _ _ HO3.out)
      have hc6 : w6.cell? ⟨kb, 0, none⟩ = some (.slice (some ⟨b0, 0, none⟩) N6 d0) := HBK6.out.row.cell 0 (by simp)
      have hq6 : N6 / 4 = q := by omega
      have hne6 : (Value.slice (some ⟨b0, 0, none⟩) N6 d0).ownBlock ≠ some kb := own_row_ne HBK6.out.own HBK6.out.row (by decide)
      have hkl6 := HBK6.out.row.lt
      have HOB6 := hid (show w6.ownsRow lo 26 1 (.slice (some ⟨b0, 0, none⟩) N6 d0) N6 us6 by have h := HBK6.out.own; rw [hU6] at h; exact h)
      have hf6 := HBK6.out.row.free 0
      have hlo6 : lo ≤ w6.heap.size := Nat.le_of_lt (Nat.lt_of_le_of_lt HBK6.out.ge hkl6)
      have HUE6 := hid hUe6
      clear hwX hbk6 hK6 hV6 hst6 hownX hgrX hltX horX hcX hfX hc5 hf5 hne5 hkl5 HOB5 HBK5 HK5 HV5 hUe6
      go_upto_region 10 with ((at_builtin; refine wpList_append_both _ rfl (.tmp 56) (.tmp 58) 51 rfl lo 26 il _ 1 24 Tryz.underlying51 hil hl0 hl1 hl2 rfl (by omega) (.slice (some ⟨b0, 0, none⟩) N6 d0) N6 us6 rfl (HOB6.out.alloc _) ⟨w6.heap.size, 0, none⟩ 1 1 [.slice (some ⟨g1, 0, none⟩) (j + 1) cap1] rfl rfl (World.news_of_block (cs := #[.slice (some ⟨g1, 0, none⟩) (j + 1) cap1]) (t := 26) (fr := (0, 0)) (heap_alloc_new _ _)) (by simp [Value.oneCell']) (by omega) (by unfold maxLen; omega) (by omega) (by simp; omega) ?_; intro b1 d1 wa1 hownX hgrX hltX horX; have hcX := (hgrX.cell_far ⟨kb, 0, none⟩ (by simp; omega) (Ne.symm hne6)).trans (((Below.refl w6.heap.size w6).alloc (Nat.le_refl _) (.cells #[.slice (some ⟨g1, 0, none⟩) (j + 1) cap1] 26)).cell (p := ⟨kb, 0, none⟩) hkl6 |>.trans hc6); have hfX := (hgrX.frozen_far ⟨kb, 0, none⟩ (by simp; omega) (Ne.symm hne6)).trans (((Below.refl w6.heap.size w6).alloc (Nat.le_refl _) (.cells #[.slice (some ⟨g1, 0, none⟩) (j + 1) cap1] 26)).frozen (p := ⟨kb, 0, none⟩) hkl6 |>.trans hf6)))
      generalize hwX : wa1.setCell ⟨kb, 0, none⟩ (.slice (some ⟨b1, 0, none⟩) (N6 + 1) d1) = w7 at *
      obtain ⟨hbk7, hK7, hV7, hst7⟩ := book_step hU6 HK6.out hkM HVM.out HV6.out HBK6.out (Nat.le_refl _) (World.grownBy_alloc _ _ none) hgrX hownX hltX horX ⟨_, by rw [hq6]; exact HO13.out⟩ hwX
      generalize hN7 : N6 + 1 = N7 at *
      obtain ⟨us7, hUe7⟩ : ∃ x, us6 ++ [.slice (some ⟨g1, 0, none⟩) (j + 1) cap1] = x := ⟨_, rfl⟩
      rw [hUe7] at hbk7
      have hU7 : us7.length = N7 := by rw [← hUe7, List.length_append, hU6]; exact hN7
      have HBK7 := hid hbk7
      have HK7 := hid hK7
      have HV7 := hid hV7
      have HO23 := hid (hst7 _ _ _ _ HO23.out)
      have HO3 := hid (hst7 _ _ _ _ HO3.out)
      have hc7 : w7.cell? ⟨kb, 0, none⟩ = some (.slice (some ⟨b1, 0, none⟩) N7 d1) := HBK7.out.row.cell 0 (by simp)
      have hq7 : N7 / 4 = q := by omega
      have hne7 : (Value.slice (some ⟨b1, 0, none⟩) N7 d1).ownBlock ≠ some kb := own_row_ne HBK7.out.own HBK7.out.row (by decide)
      have hkl7 := HBK7.out.row.lt
      have HOB7 := hid (show w7.ownsRow lo 26 1 (.slice (some ⟨b1, 0, none⟩) N7 d1) N7 us7 by have h := HBK7.out.own; rw [hU7] at h; exact h)
      have hf7 := HBK7.out.row.free 0
      have hlo7 : lo ≤ w7.heap.size := Nat.le_of_lt (Nat.lt_of_le_of_lt HBK7.out.ge hkl7)
      have HUE7 := hid hUe7
      clear hwX hbk7 hK7 hV7 hst7 hownX hgrX hltX horX hcX hfX hc6 hf6 hne6 hkl6 HOB6 HBK6 HK6 HV6 hUe7
      go_upto_region 11 with ((at_builtin; refine wpList_append_both _ rfl (.tmp 66) (.tmp 68) 51 rfl lo 26 il _ 1 24 Tryz.underlying51 hil hl0 hl1 hl2 rfl (by omega) (.slice (some ⟨b1, 0, none⟩) N7 d1) N7 us7 rfl (HOB7.out.alloc _) ⟨w7.heap.size, 0, none⟩ 1 1 [.slice (some ⟨g2, 0, none⟩) (j + 2) cap2] rfl rfl (World.news_of_block (cs := #[.slice (some ⟨g2, 0, none⟩) (j + 2) cap2]) (t := 26) (fr := (0, 0)) (heap_alloc_new _ _)) (by simp [Value.oneCell']) (by omega) (by unfold maxLen; omega) (by omega) (by simp; omega) ?_; intro b2 d2 wa2 hownX hgrX hltX horX; have hcX := (hgrX.cell_far ⟨kb, 0, none⟩ (by simp; omega) (Ne.symm hne7)).trans (((Below.refl w7.heap.size w7).alloc (Nat.le_refl _) (.cells #[.slice (some ⟨g2, 0, none⟩) (j + 2) cap2] 26)).cell (p := ⟨kb, 0, none⟩) hkl7 |>.trans hc7); have hfX := (hgrX.frozen_far ⟨kb, 0, none⟩ (by simp; omega) (Ne.symm hne7)).trans (((Below.refl w7.heap.size w7).alloc (Nat.le_refl _) (.cells #[.slice (some ⟨g2, 0, none⟩) (j + 2) cap2] 26)).frozen (p := ⟨kb, 0, none⟩) hkl7 |>.trans hf7)))
      generalize hwX : wa2.setCell ⟨kb, 0, none⟩ (.slice (some ⟨b2, 0, none⟩) (N7 + 1) d2) = w8 at *
      obtain ⟨hbk8, hK8, hV8, hst8⟩ := book_step hU7 HK7.out hkM HVM.out HV7.out HBK7.out (Nat.le_refl _) (World.grownBy_alloc _ _ none) hgrX hownX hltX horX ⟨_, by rw [hq7]; exact HO23.out⟩ hwX
      generalize hN8 : N7 + 1 = N8 at *
      obtain ⟨us8, hUe8⟩ : ∃ x, us7 ++ [.slice (some ⟨g2, 0, none⟩) (j + 2) cap2] = x := ⟨_, rfl⟩
      rw [hUe8] at hbk8
      have hU8 : us8.length = N8 := by rw [← hUe8, List.length_append, hU7]; exact hN8
      have HBK8 := hid hbk8
      have HK8 := hid hK8
      have HV8 := hid hV8
      have HO3 := hid (hst8 _ _ _ _ HO3.out)
      have hc8 : w8.cell? ⟨kb, 0, none⟩ = some (.slice (some ⟨b2, 0, none⟩) N8 d2) := HBK8.out.row.cell 0 (by simp)
      have hq8 : N8 / 4 = q := by omega
      have hne8 : (Value.slice (some ⟨b2, 0, none⟩) N8 d2).ownBlock ≠ some kb := own_row_ne HBK8.out.own HBK8.out.row (by decide)
      have hkl8 := HBK8.out.row.lt
      have HOB8 := hid (show w8.ownsRow lo 26 1 (.slice (some ⟨b2, 0, none⟩) N8 d2) N8 us8 by have h := HBK8.out.own; rw [hU8] at h; exact h)
      have hf8 := HBK8.out.row.free 0
      have hlo8 : lo ≤ w8.heap.size := Nat.le_of_lt (Nat.lt_of_le_of_lt HBK8.out.ge hkl8)
      have HUE8 := hid hUe8
      clear hwX hbk8 hK8 hV8 hst8 hownX hgrX hltX horX hcX hfX hc7 hf7 hne7 hkl7 HOB7 HBK7 HK7 HV7 hUe8
      go_wp2_with ((at_builtin; refine wpList_append_both _ rfl (.tmp 76) (.tmp 78) 51 rfl lo 26 il _ 1 24 Tryz.underlying51 hil hl0 hl1 hl2 rfl (by omega) (.slice (some ⟨b2, 0, none⟩) N8 d2) N8 us8 rfl (HOB8.out.alloc _) ⟨w8.heap.size, 0, none⟩ 1 1 [.slice (some ⟨g3, 0, none⟩) (j + 3) cap3] rfl rfl (World.news_of_block (cs := #[.slice (some ⟨g3, 0, none⟩) (j + 3) cap3]) (t := 26) (fr := (0, 0)) (heap_alloc_new _ _)) (by simp [Value.oneCell']) (by omega) (by unfold maxLen; omega) (by omega) (by simp; omega) ?_; intro b3 d3 wa3 hownX hgrX hltX horX; have hcX := (hgrX.cell_far ⟨kb, 0, none⟩ (by simp; omega) (Ne.symm hne8)).trans (((Below.refl w8.heap.size w8).alloc (Nat.le_refl _) (.cells #[.slice (some ⟨g3, 0, none⟩) (j + 3) cap3] 26)).cell (p := ⟨kb, 0, none⟩) hkl8 |>.trans hc8); have hfX := (hgrX.frozen_far ⟨kb, 0, none⟩ (by simp; omega) (Ne.symm hne8)).trans (((Below.refl w8.heap.size w8).alloc (Nat.le_refl _) (.cells #[.slice (some ⟨g3, 0, none⟩) (j + 3) cap3] 26)).frozen (p := ⟨kb, 0, none⟩) hkl8 |>.trans hf8)))
      go_end0
      obtain ⟨hbk9, hK9, hV9, _⟩ := book_step hU8 HK8.out hkM HVM.out HV8.out HBK8.out (Nat.le_refl _) (World.grownBy_alloc _ _ none) hgrX hownX hltX horX ⟨_, by rw [hq8]; exact HO3.out⟩ rfl
      refine ⟨rfl, _, [.slice a j cap, .slice (some ⟨g1, 0, none⟩) (j + 1) cap1, .slice (some ⟨g2, 0, none⟩) (j + 2) cap2, .slice (some ⟨g3, 0, none⟩) (j + 3) cap3], rfl, ?_, fun p hp => (hV9 p hp).imp id (fun h => by omega), ?_⟩
      · rw [← HUE8.out, ← HUE7.out, ← HUE6.out] at hbk9
        simpa using hbk9
      · rw [HM.out]; exact hK9

end Go.Proofs.YtcepppilgncdmaaGreatDoor
