/-
  What an expansion holds in memory (package expand), and what its small functions answer.
-/
import Derived.Test.YtcepppilgncdmaaGreatDoorPMacro
import Derived.Test.YtcepppilgncdmaaGreatDoorVal
namespace Go.Proofs.YtcepppilgncdmaaGreatDoor
open Go.RowKit
attribute [local go_sem ↓] Go.wp_at_zero Go.wp_at_succ

/-- A macro, as it lies in memory. -/
structure MacV where
  name : ByteArray
  pv : Value
  ps : List ByteArray
  bv : Value
  bs : List ByteArray
def plainM (m : MacV) : MacP := ⟨L m.name, m.ps.map L, m.bs.map L⟩
def macCells : List MacV → List Value
  | [] => []
  | m :: r => .string m.name :: m.pv :: m.bv :: macCells r
def nameCells : List (ByteArray × Int) → List Value
  | [] => []
  | n :: r => .string n.1 :: .int .i64 n.2 :: nameCells r
def lineCells : List (ByteArray × Nat) → List Value
  | [] => []
  | l :: r => .string l.1 :: .int .i64 (l.2 : Nat) :: .int .i64 0 :: .int .i64 0 :: lineCells r
theorem macCells_append (a b : List MacV) : macCells (a ++ b) = macCells a ++ macCells b := by
  induction a with
  | nil => rfl
  | cons x r ih => simp [macCells, ih]
theorem nameCells_append (a b : List (ByteArray × Int)) : nameCells (a ++ b) = nameCells a ++ nameCells b := by
  induction a with
  | nil => rfl
  | cons x r ih => simp [nameCells, ih]
theorem lineCells_append (a b : List (ByteArray × Nat)) : lineCells (a ++ b) = lineCells a ++ lineCells b := by
  induction a with
  | nil => rfl
  | cons x r ih => simp [lineCells, ih]
theorem macCells_length (l : List MacV) : (macCells l).length = l.length * 3 := by
  induction l with
  | nil => rfl
  | cons x r ih => simp only [macCells, List.length_cons, ih]; omega
theorem nameCells_length (l : List (ByteArray × Int)) : (nameCells l).length = l.length * 2 := by
  induction l with
  | nil => rfl
  | cons x r ih => simp only [nameCells, List.length_cons, ih]; omega
theorem nameCells_at (l : List (ByteArray × Int)) (i : Nat) (h : i < l.length) : (nameCells l)[i * 2]? = some (.string l[i].1) ∧ (nameCells l)[i * 2 + 1]? = some (.int .i64 l[i].2) := by
  induction l generalizing i with
  | nil => simp at h
  | cons x r ih =>
    cases i with
    | zero => simp [nameCells]
    | succ i =>
      have := ih i (by simpa using h)
      simp only [nameCells, show (i + 1) * 2 = i * 2 + 1 + 1 from by omega, List.getElem?_cons_succ, List.getElem_cons_succ]
      exact ⟨this.1, this.2⟩
theorem macCells_at (l : List MacV) (i : Nat) (h : i < l.length) : (macCells l)[i * 3]? = some (.string l[i].name) ∧ (macCells l)[i * 3 + 1]? = some l[i].pv ∧ (macCells l)[i * 3 + 2]? = some l[i].bv := by
  induction l generalizing i with
  | nil => simp at h
  | cons x r ih =>
    cases i with
    | zero => simp [macCells]
    | succ i =>
      have := ih i (by simpa using h)
      simp only [macCells, show (i + 1) * 3 = i * 3 + 1 + 1 + 1 from by omega, show i * 3 + 1 + 1 + 1 + 1 = i * 3 + 1 + 1 + 1 + 1 from rfl, List.getElem?_cons_succ, List.getElem_cons_succ]
      exact ⟨this.1, this.2.1, this.2.2⟩

/-- Macros that can be called: short, without semicolons. -/
def MacOk (m : MacP) : Prop := m.params.length ≤ 100 ∧ (∀ p ∈ m.params, p.length ≤ 100) ∧ m.lines.length ≤ 3001 ∧ ∀ l ∈ m.lines, l.length ≤ 100 ∧ cutL l = l
structure StOk (st : StP) (k : Nat) : Prop where
  macs : ∀ m ∈ st.macros, MacOk m
  names : st.names.length ≤ st.out.length
  out : st.out.length ≤ 300
  calls : st.calls ≤ 200
  few : st.macros.length ≤ k
  taken : k ≤ 3001

structure ExpAt (w : World) (B be bt : Nat) (wi k : Nat) (vm vn vl : Value) (ms : List MacV) (ns : List (ByteArray × Int)) (outs : List (ByteArray × Nat)) (calls : Nat) : Prop where
  row : RowT w 77 be [.pointer (some ⟨bt, 0, none⟩), vm, vn, .int .i64 (wi : Nat), .int .i64 (calls : Nat), vl]
  mown : w.ownsRow B 202 3 vm ms.length (macCells ms)
  nown : w.ownsRow B 40 2 vn ns.length (nameCells ns)
  lown : w.ownsRow B 38 4 vl outs.length (lineCells outs)
  mstr : ∀ m ∈ ms, StrV w 0 m.pv m.ps ∧ StrV w 0 m.bv m.bs
  at_ : B ≤ be
  text : ∃ xs, RowT w 74 bt xs ∧ xs[2]? = some (.int .i64 (k : Nat))
/-- Where the number of the line is found. -/
def NumAt (w : World) (be bt wi k : Nat) : Prop := ∃ ys xs, RowT w 77 be (.pointer (some ⟨bt, 0, none⟩) :: ys) ∧ ys[2]? = some (.int .i64 (wi : Nat)) ∧ RowT w 74 bt xs ∧ xs[2]? = some (.int .i64 (k : Nat))
theorem ExpAt.num {w : World} {B be bt wi k : Nat} {vm vn vl : Value} {ms : List MacV} {ns : List (ByteArray × Int)} {outs : List (ByteArray × Nat)} {calls : Nat} (h : ExpAt w B be bt wi k vm vn vl ms ns outs calls) : NumAt w be bt wi k := by
  obtain ⟨xs, h1, h2⟩ := h.text
  exact ⟨_, xs, h.row, rfl, h1, h2⟩
theorem NumAt.below {w w' : World} {be bt wi k : Nat} (h : NumAt w be bt wi k) (hb : Below w.heap.size w w') : NumAt w' be bt wi k := by
  obtain ⟨ys, xs, h1, h0, h2, h3⟩ := h
  exact ⟨ys, xs, h1.below hb, h0, h2.below hb, h3⟩
def stOf (ms : List MacV) (ns : List (ByteArray × Int)) (outs : List (ByteArray × Nat)) (calls : Nat) : StP := ⟨ms.map plainM, plainN ns, outs.map fun x => (L x.1, x.2), calls⟩

theorem own_form {w : World} {C e size n : Nat} {v : Value} {xs : List Value} (h : w.ownsRow C e size v n xs) : ∃ a cap, v = .slice a n cap := by
  rcases h.2 with ⟨rfl, h0⟩ | ⟨g, cap, cur, rfl, _⟩
  · rw [h0]; exact ⟨none, 0, rfl⟩
  · exact ⟨_, cap, rfl⟩

set_option maxHeartbeats 400000 in
theorem number_any' (w : World) (B be bt wi k : Nat) (vm vn vl : Value) (ms : List MacV) (ns : List (ByteArray × Int)) (outs : List (ByteArray × Nat)) (calls : Nat) (h : ExpAt w B be bt wi k vm vn vl ms ns outs calls) :
    Calls Tryz.prog 32 #[.pointer (some ⟨be, 0, none⟩)] w fun e w' => e = .returned (.int .i64 (k : Nat)) ∧ w' = w := by
  have c0 := h.row.cell 0 (by simp)
  obtain ⟨xs, hx, hx2⟩ := h.text
  have hlt : 2 < xs.length := by
    rcases Nat.lt_or_ge 2 xs.length with h | h
    · exact h
    · rw [List.getElem?_eq_none h] at hx2; cases hx2
  have c2 : w.cell? ⟨bt, 2, none⟩ = some (.int .i64 (k : Nat)) := by
    rw [hx.cell 2 hlt, ← hx2, List.getElem?_eq_getElem hlt]
  clear h hx hx2
  go_enter Tryz.func32, Tryz.ntmps32
  go_wp2
  go_ret
  exact ⟨rfl, rfl⟩

theorem findM_at (ms : List MacV) (s : List UInt8) (k : Nat) (h : k < ms.length) : findM ((ms.drop k).map plainM) s = if L ms[k].name = s then some (plainM ms[k]) else findM ((ms.drop (k + 1)).map plainM) s := by
  rw [List.drop_eq_getElem_cons h, List.map_cons]; rfl

/-- What find answers. -/
def FindPost (ms : List MacV) (vm : Value) (s : List UInt8) (w : World) (e : Ending) (w' : World) : Prop := w' = w ∧
  ((findM (ms.map plainM) s = none ∧ e = .returned (.pointer none)) ∨ ∃ i g cap, ∃ h : i < ms.length, findM (ms.map plainM) s = some (plainM ms[i]) ∧ vm = .slice (some ⟨g, 0, none⟩) ms.length cap ∧ e = .returned (.pointer (some ⟨g, i * 3, none⟩)))

set_option maxHeartbeats 800000 in
theorem find_any' (w : World) (B be bt wi k : Nat) (vm vn vl : Value) (ms : List MacV) (ns : List (ByteArray × Int)) (outs : List (ByteArray × Nat)) (calls : Nat) (h : ExpAt w B be bt wi k vm vn vl ms ns outs calls) (hml : ms.length ≤ 3001) (s : ByteArray) :
    Calls Tryz.prog 108 #[.pointer (some ⟨be, 0, none⟩), .string s] w (FindPost ms vm (L s) w) := by
  have c1 := h.row.cell 1 (by simp)
  obtain ⟨a, cap, hv⟩ := own_form h.mown
  subst hv
  have HOWN := hid h.mown
  have c1 : w.cell? ⟨be, 1, none⟩ = some (.slice a ms.length cap) := c1
  clear h
  go_enter Tryz.func108, Tryz.ntmps108
  go_wp2
  go_loop [11] (fun i => ∃ j : Nat, j ≤ ms.length ∧ i = .int .i64 j ∧ findM (ms.map plainM) (L s) = findM ((ms.drop j).map plainM) (L s)) (fun i => ms.length - (intOf i).toNat)
  case atStart => exact ⟨0, Nat.zero_le _, rfl, by rw [List.drop_zero]⟩
  case round =>
    obtain ⟨j, hj, rfl, ha⟩ := hrel
    have HA := hid ha
    clear ha
    by_cases hlt : j < ms.length
    · have kd : decide ((j : Int) < (ms.length : Int)) = true := by simp; omega
      obtain ⟨g, cap2, hv, hBg, hgl⟩ := HOWN.out.form (by omega)
      injection hv with hv1 _ hv2
      subst hv1 hv2
      have cm : w.cell? ⟨g, j * 3, none⟩ = some (.string ms[j].name) := by
        rw [HOWN.out.cellAt (j * 3) (by omega)]; exact (macCells_at ms j hlt).1
      have hA := HA.out
      rw [findM_at _ _ _ hlt] at hA
      by_cases he : L ms[j].name = L s
      · rw [if_pos he] at hA
        have HF := hid hA
        have kb : (ms[j].name.toList == s.toList) = true := beq_of_L he
        clear hA he
        go_wp2
        go_ret
        exact ⟨rfl, Or.inr ⟨j, g, cap, hlt, HF.out, rfl, rfl⟩⟩
      · rw [if_neg he] at hA
        have HF := hid hA
        have kb : (ms[j].name.toList == s.toList) = false := nbeq_of_L he
        clear hA he
        go_wp2
        go_round
        case rel => exact ⟨j + 1, by omega, by go_num, HF.out⟩
        case measure => simp [intOf]; omega
    · have kd : decide ((j : Int) < (ms.length : Int)) = false := by simp; omega
      have HF := hid (show findM (ms.map plainM) (L s) = none by rw [HA.out, List.drop_eq_nil_of_le (by omega)]; rfl)
      go_wp2
      go_ret
      exact ⟨rfl, Or.inl ⟨HF.out, rfl⟩⟩

end Go.Proofs.YtcepppilgncdmaaGreatDoor
