/-
  What the document's own reader (package masonref) holds in memory, and what its small functions answer.
-/
import Derived.Test.YtcepppilgncdmaaGreatDoorQFrame
import Derived.Test.YtcepppilgncdmaaGreatDoorPLeave
import Derived.Test.YtcepppilgncdmaaGreatDoorRefVal
namespace Go.Proofs.YtcepppilgncdmaaGreatDoor
open Go.RowKit
attribute [local go_sem ↓] Go.wp_at_zero Go.wp_at_succ

/-- A macro of the document's own package, in memory: where it lies, and what it holds. -/
structure MacQ where
  g : Nat
  name : ByteArray
  pv : Value
  ps : List ByteArray
  bv : Value
  bs : List ByteArray
def plainQ (m : MacQ) : MacP := ⟨L m.name, m.ps.map L, m.bs.map L⟩
structure MacRow (w : World) (m : MacQ) : Prop where
  row : RowT w 192 m.g [.string m.name, m.pv, m.bv]
  ps : StrV w 0 m.pv m.ps
  bs : StrV w 0 m.bv m.bs
def ptrCells (ms : List MacQ) : List Value := ms.map fun m => .pointer (some ⟨m.g, 0, none⟩)

structure RdAt (w : World) (B r : Nat) (vm vn vo : Value) (ms : List MacQ) (ns : List (ByteArray × Int)) (outs : List (ByteArray × Nat)) (calls : Nat) : Prop where
  row : RowT w 93 r [vm, vn, vo, .int .i64 (calls : Nat), .int .i64 0, .int .i64 0]
  mown : w.ownsRow B 127 1 vm ms.length (ptrCells ms)
  nown : w.ownsRow B 40 2 vn ns.length (nameCells ns)
  lown : w.ownsRow B 38 4 vo outs.length (lineCells outs)
  macs : ∀ m ∈ ms, MacRow w m
  at_ : B ≤ r
def stQ (ms : List MacQ) (ns : List (ByteArray × Int)) (outs : List (ByteArray × Nat)) (calls : Nat) : StP := ⟨ms.map plainQ, plainN ns, outs.map fun x => (L x.1, x.2), calls⟩
/-- A reader in this state; one that holds an error. -/
def RdSt (w : World) (B r : Nat) (st : StP) : Prop := ∃ vm vn vo ms ns outs calls, RdAt w B r vm vn vo ms ns outs calls ∧ st = stQ ms ns outs calls
def RdErr (w : World) (r : Nat) (er : Int) (at_ : Nat) : Prop := ∃ a b c d, RowT w 93 r [a, b, c, d, .int .i64 er, .int .i64 (at_ : Nat)]
/-- What a function answers that turns a reader: its state, or an error and where. -/
def RdPost (B r : Nat) (M : List Nat) (at_ : Nat) (x : Int × StP) (w : World) (e : Ending) (w' : World) : Prop :=
  e = .returned (.tuple #[]) ∧ Fq B M w w' ∧ (x.1 = 0 → RdSt w' B r x.2) ∧ (x.1 ≠ 0 → RdErr w' r x.1 at_)

theorem MacRow.below {w w' : World} {m : MacQ} (h : MacRow w m) (hb : Below w.heap.size w w') : MacRow w' m := ⟨h.row.below hb, h.ps.below hb, h.bs.below hb⟩
theorem MacRow.fq {w w' : World} {m : MacQ} {B : Nat} {M : List Nat} (h : MacRow w m) (hf : Fq B M w w') (hm : m.g ∉ M) : MacRow w' m := ⟨h.row.frQ hf rfl (fun _ => hm), h.ps.fq hf, h.bs.fq hf⟩
theorem RdAt.below {w w' : World} {B r : Nat} {vm vn vo : Value} {ms : List MacQ} {ns : List (ByteArray × Int)} {outs : List (ByteArray × Nat)} {calls : Nat} (h : RdAt w B r vm vn vo ms ns outs calls) (hb : Below w.heap.size w w') : RdAt w' B r vm vn vo ms ns outs calls :=
  ⟨h.row.below hb, ownsRow_belowP h.mown hb, ownsRow_belowP h.nown hb, ownsRow_belowP h.lown hb, fun m hm => (h.macs m hm).below hb, h.at_⟩
theorem RdErr.below {w w' : World} {r : Nat} {er : Int} {at_ : Nat} (h : RdErr w r er at_) (hb : Below w.heap.size w w') : RdErr w' r er at_ := by
  obtain ⟨a, b, c, d, h⟩ := h
  exact ⟨a, b, c, d, h.below hb⟩
theorem RdSt.below {w w' : World} {B r : Nat} {st : StP} (h : RdSt w B r st) (hb : Below w.heap.size w w') : RdSt w' B r st := by
  obtain ⟨vm, vn, vo, ms, ns, outs, calls, h1, h2⟩ := h
  exact ⟨vm, vn, vo, ms, ns, outs, calls, h1.below hb, h2⟩
theorem RdAt.namesAt {w : World} {B r : Nat} {vm vn vo : Value} {ms : List MacQ} {ns : List (ByteArray × Int)} {outs : List (ByteArray × Nat)} {calls : Nat} (h : RdAt w B r vm vn vo ms ns outs calls) : ∃ a cap, vn = .slice a ns.length cap ∧ NamesAt w a ns := by
  rcases h.nown.2 with ⟨rfl, h0⟩ | ⟨g, cap, cur, rfl, hb, hg, _⟩
  · exact ⟨none, 0, by rw [h0], Or.inl (List.eq_nil_of_length_eq_zero h0)⟩
  · refine ⟨_, cap, rfl, Or.inr ⟨g, 0, rfl, (Array.getElem?_eq_some_iff.1 hg).1, fun i hi => ?_⟩⟩
    have h1 := h.nown.cellAt (i * 2) (by omega)
    have h2 := h.nown.cellAt (i * 2 + 1) (by omega)
    rw [(nameCells_at ns i hi).1] at h1
    rw [(nameCells_at ns i hi).2] at h2
    rw [Nat.zero_add]
    exact ⟨h1, h2⟩

set_option maxHeartbeats 400000 in
/-- An error is told, the first. -/
theorem bad_any (w : World) (r : Nat) (a b c d z : Value) (er : Int) (at_ : Nat) (h : RowT w 93 r [a, b, c, d, .int .i64 0, z]) :
    Calls Tryz.prog 60 #[.pointer (some ⟨r, 0, none⟩), .int .i64 er, .int .i64 (at_ : Nat)] w fun e w' => e = .returned (.tuple #[]) ∧ w' = (w.setCell ⟨r, 4, none⟩ (.int .i64 er)).setCell ⟨r, 5, none⟩ (.int .i64 (at_ : Nat)) := by
  have c4 := h.cell 4 (by simp)
  have f4 := h.free 4
  have c5 := h.cell 5 (by simp)
  have f5 := h.free 5
  have hlt := h.lt
  clear h
  go_enter Tryz.func60, Tryz.ntmps60
  go_wp2
  go_end0
  exact ⟨rfl, rfl⟩
set_option maxHeartbeats 400000 in
/-- An error is told behind another. -/
theorem bad_again (w : World) (r : Nat) (a b c d z : Value) (er0 er : Int) (at_ : Nat) (h : RowT w 93 r [a, b, c, d, .int .i64 er0, z]) (h0 : er0 ≠ 0) :
    Calls Tryz.prog 60 #[.pointer (some ⟨r, 0, none⟩), .int .i64 er, .int .i64 (at_ : Nat)] w fun e w' => e = .returned (.tuple #[]) ∧ w' = w := by
  have c4 := h.cell 4 (by simp)
  have k4 : (er0 == 0) = false := by rw [beq_eq_false_iff_ne]; exact h0
  clear h h0
  go_enter Tryz.func60, Tryz.ntmps60
  go_wp2
  go_end0
  exact ⟨rfl, rfl⟩
/-- What is there behind an error that was told. -/
theorem bad_post {w : World} {B r : Nat} {a b c d z : Value} {er : Int} {at_ : Nat} (h : RowT w 93 r [a, b, c, d, .int .i64 0, z]) (hB : B ≤ r) :
    Fq B [] w ((w.setCell ⟨r, 4, none⟩ (.int .i64 er)).setCell ⟨r, 5, none⟩ (.int .i64 (at_ : Nat))) ∧ RdErr ((w.setCell ⟨r, 4, none⟩ (.int .i64 er)).setCell ⟨r, 5, none⟩ (.int .i64 (at_ : Nat))) r er at_ := by
  have h1 := h.set 4 (.int .i64 er)
  have h2 := h1.set 5 (.int .i64 (at_ : Nat))
  exact ⟨((Fq.refl B [] w).setCell (p := ⟨r, 4, none⟩) (h.mayQ hB (Or.inl rfl)) _).setCell (p := ⟨r, 5, none⟩) (h1.mayQ hB (Or.inl rfl)) _, a, b, c, d, h2⟩
theorem bad_rd (w : World) (B r : Nat) (st : StP) (er : Int) (at_ : Nat) (h : RdSt w B r st) (h0 : er ≠ 0) :
    Calls Tryz.prog 60 #[.pointer (some ⟨r, 0, none⟩), .int .i64 er, .int .i64 (at_ : Nat)] w (RdPost B r [] at_ (er, st) w) := by
  obtain ⟨vm, vn, vo, ms, ns, outs, calls, h1, h2⟩ := h
  refine (bad_any w r _ _ _ _ _ er at_ h1.row).mono ?_
  rintro e w' ⟨rfl, rfl⟩
  obtain ⟨p1, p2⟩ := bad_post (er := er) (at_ := at_) h1.row h1.at_
  exact ⟨rfl, p1, fun c => absurd c h0, fun _ => p2⟩

theorem findQ_at (ms : List MacQ) (s : List UInt8) (k : Nat) (h : k < ms.length) : findM ((ms.drop k).map plainQ) s = if L ms[k].name = s then some (plainQ ms[k]) else findM ((ms.drop (k + 1)).map plainQ) s := by
  rw [List.drop_eq_getElem_cons h, List.map_cons]; rfl
/-- What macro answers. -/
def MacroPost (ms : List MacQ) (s : List UInt8) (w : World) (e : Ending) (w' : World) : Prop := w' = w ∧
  ((findM (ms.map plainQ) s = none ∧ e = .returned (.pointer none)) ∨ ∃ m ∈ ms, findM (ms.map plainQ) s = some (plainQ m) ∧ e = .returned (.pointer (some ⟨m.g, 0, none⟩)))

set_option maxHeartbeats 800000 in
theorem macro_any (w : World) (B r : Nat) (vm vn vo : Value) (ms : List MacQ) (ns : List (ByteArray × Int)) (outs : List (ByteArray × Nat)) (calls : Nat) (h : RdAt w B r vm vn vo ms ns outs calls) (hml : ms.length ≤ 3001) (s : ByteArray) :
    Calls Tryz.prog 130 #[.pointer (some ⟨r, 0, none⟩), .string s] w (MacroPost ms (L s) w) := by
  have c0 := h.row.cell 0 (by simp)
  obtain ⟨a, cap, hv⟩ := own_form h.mown
  subst hv
  have HOWN := hid h.mown
  have HM := hid h.macs
  have c0 : w.cell? ⟨r, 0, none⟩ = some (.slice a ms.length cap) := c0
  clear h
  go_enter Tryz.func130, Tryz.ntmps130
  go_wp2
  go_loop [5] (fun i => ∃ j : Nat, j ≤ ms.length ∧ i = .int .i64 j ∧ findM (ms.map plainQ) (L s) = findM ((ms.drop j).map plainQ) (L s)) (fun i => ms.length - (intOf i).toNat)
  case atStart => exact ⟨0, Nat.zero_le _, rfl, by rw [List.drop_zero]⟩
  case round =>
    obtain ⟨j, hj, rfl, ha⟩ := hrel
    have HA := hid ha
    clear ha
    by_cases hlt : j < ms.length
    · have kd : decide ((j : Int) < (ms.length : Int)) = true := by simp; omega
      obtain ⟨g, cap2, hv, hBg, hgl⟩ := HOWN.out.form (by omega)
      injection hv with hv1 _ hv2
      subst hv1 hv2
      have cm : w.cell? ⟨g, j, none⟩ = some (.pointer (some ⟨ms[j].g, 0, none⟩)) := by
        rw [HOWN.out.cellAt j (by omega)]
        unfold ptrCells
        rw [List.getElem?_map, List.getElem?_eq_getElem hlt]
        rfl
      have cn : w.cell? ⟨ms[j].g, 0, none⟩ = some (.string ms[j].name) := (HM.out ms[j] (List.getElem_mem _)).row.cell 0 (by simp)
      have hA := HA.out
      rw [findQ_at _ _ _ hlt] at hA
      by_cases he : L ms[j].name = L s
      · rw [if_pos he] at hA
        have HF := hid hA
        have kb : (ms[j].name.toList == s.toList) = true := beq_of_L he
        clear hA he
        go_wp2
        go_ret
        exact ⟨rfl, Or.inr ⟨ms[j], List.getElem_mem _, HF.out, rfl⟩⟩
      · rw [if_neg he] at hA
        have HF := hid hA
        have kb : (ms[j].name.toList == s.toList) = false := nbeq_of_L he
        clear hA he
        go_wp2
        go_round
        case rel => exact ⟨j + 1, by omega, by go_num, HF.out⟩
        case measure => simp [intOf]; omega
    · have kd : decide ((j : Int) < (ms.length : Int)) = false := by simp; omega
      have HF := hid (show findM (ms.map plainQ) (L s) = none by rw [HA.out, List.drop_eq_nil_of_le (by omega)]; rfl)
      go_wp2
      go_ret
      exact ⟨rfl, Or.inl ⟨HF.out, rfl⟩⟩

end Go.Proofs.YtcepppilgncdmaaGreatDoor
