/-
  What a block of lines of the document's own package (masonref) holds in memory, and what its functions of conditions answer.
-/
import Derived.Test.YtcepppilgncdmaaGreatDoorQSt
import Derived.Test.YtcepppilgncdmaaGreatDoorPLeave
namespace Go.Proofs.YtcepppilgncdmaaGreatDoor
open Go.RowKit
attribute [local go_sem ↓] Go.wp_at_zero Go.wp_at_succ

theorem FrQ.lift {E R E' R' : TypeId → Bool} {B : Nat} {M : List Nat} {w w' : World} (h : FrQ E R B M w w') (hE : ∀ t, E t = true → E' t = true) (hR : ∀ t, R t = true → R' t = true) : FrQ E' R' B M w w' :=
  ⟨h.os, h.tape, h.output, h.size, fun k o ho hk => h.block k o ho (hk.imp id fun hm => by
    cases o with
    | cells cur t fz =>
      simp only [keptQ, Bool.and_eq_true, Bool.or_eq_true, Bool.not_eq_true', List.contains_eq_mem, decide_eq_false_iff_not] at hm ⊢
      refine ⟨?_, hm.2.imp (fun h1 => ?_) id⟩
      · cases he : E t with
        | false => rfl
        | true => rw [hE t he] at hm; cases hm.1
      · cases hr : R t with
        | false => rfl
        | true => rw [hR t hr] at h1; cases h1
    | _ => rfl)⟩
/-- What a block of lines alone may turn. -/
def r1 (t : TypeId) : Bool := t == 130 || t == 190
abbrev Fc := FrQ noT r1
theorem Fc.to {B : Nat} {M : List Nat} {w w' : World} (h : Fc B M w w') : Fq B M w w' := h.lift (fun _ h => by cases h) (fun t h => by
  simp only [r1, rQ, Bool.or_eq_true] at h ⊢
  exact Or.inl h)
theorem RdAt.fc {w w' : World} {B r : Nat} {M : List Nat} {vm vn vo : Value} {ms : List MacQ} {ns : List (ByteArray × Int)} {outs : List (ByteArray × Nat)} {calls : Nat} (h : RdAt w B r vm vn vo ms ns outs calls) (hf : Fc B M w w') : RdAt w' B r vm vn vo ms ns outs calls :=
  ⟨h.row.frQ hf rfl (fun h => by cases h), ownsRow_frQ h.mown hf rfl (fun h => by cases h), ownsRow_frQ h.nown hf rfl (fun h => by cases h), ownsRow_frQ h.lown hf rfl (fun h => by cases h),
    fun m hm => ⟨(h.macs m hm).row.frQ hf rfl (fun h => by cases h), (h.macs m hm).ps.frG hf rfl rfl, (h.macs m hm).bs.frG hf rfl rfl⟩, h.at_⟩

def openCells : List OpenP → List Value
  | [] => []
  | o :: r => openCells r ++ [.bool o.yes, .bool o.els, .bool o.over]
theorem openCells_length (l : List OpenP) : (openCells l).length = l.length * 3 := by
  induction l with
  | nil => rfl
  | cons o r ih => simp only [openCells, List.length_append, ih, List.length_cons, List.length_nil]; omega

/-- A block of lines, in memory: its conditions, and what else it holds. -/
structure BkAt (w : World) (B b : Nat) (lv fv mv pv dv vo xd : Value) (opens : List OpenP) : Prop where
  row : RowT w 130 b [lv, fv, mv, pv, dv, vo, xd]
  own : w.ownsRow B 190 3 vo opens.length (openCells opens)
  few : opens.length ≤ 8
  at_ : B ≤ b
def bkM (b : Nat) (vo : Value) : List Nat := b :: vo.ownBlock.toList
/-- What of a block can be read in any case. -/
def BkRow (w : World) (b : Nat) (lv fv mv pv dv : Value) : Prop := ∃ a n c p, RowT w 130 b [lv, fv, mv, pv, dv, .slice a n c, .pointer p]
theorem BkAt.below {w w' : World} {B b : Nat} {lv fv mv pv dv vo xd : Value} {opens : List OpenP} (h : BkAt w B b lv fv mv pv dv vo xd opens) (hb : Below w.heap.size w w') : BkAt w' B b lv fv mv pv dv vo xd opens := ⟨h.row.below hb, ownsRow_belowP h.own hb, h.few, h.at_⟩
theorem BkAt.fq {w w' : World} {B b : Nat} {M : List Nat} {lv fv mv pv dv vo xd : Value} {opens : List OpenP} (h : BkAt w B b lv fv mv pv dv vo xd opens) (hf : Fq B M w w') (hb : b ∉ M) (ho : ∀ g, vo.ownBlock = some g → g ∉ M) : BkAt w' B b lv fv mv pv dv vo xd opens :=
  ⟨h.row.frQ hf rfl (fun _ => hb), ownsRow_frQ h.own hf rfl (fun _ => ho), h.few, h.at_⟩
theorem BkAt.toRow {w : World} {B b : Nat} {lv fv mv pv dv vo : Value} {p : Option Addr} {opens : List OpenP} (h : BkAt w B b lv fv mv pv dv vo (.pointer p) opens) : BkRow w b lv fv mv pv dv := by
  obtain ⟨a, cap, hv⟩ := own_form h.own
  have := h.row
  rw [hv] at this
  exact ⟨a, _, cap, p, this⟩
theorem BkAt.slot {w : World} {B b : Nat} {lv fv mv pv dv vo xd : Value} {o : OpenP} {r : List OpenP} (h : BkAt w B b lv fv mv pv dv vo xd (o :: r)) :
    ∃ g cap, vo = .slice (some ⟨g, 0, none⟩) (r.length + 1) cap ∧ B ≤ g ∧ g < w.heap.size ∧ r.length + 1 ≤ cap ∧ w.cell? ⟨g, r.length * 3, none⟩ = some (.bool o.yes) ∧ w.cell? ⟨g, r.length * 3 + 1, none⟩ = some (.bool o.els) ∧ w.cell? ⟨g, r.length * 3 + 2, none⟩ = some (.bool o.over) := by
  rcases h.own.2 with ⟨_, h0⟩ | ⟨g, cap, cur, rfl, hb, hg, hc, _⟩
  · simp at h0
  · have hl := openCells_length r
    have e : ∀ j, j < 3 → (openCells (o :: r))[r.length * 3 + j]? = [Value.bool o.yes, .bool o.els, .bool o.over][j]? := by
      intro j hj
      simp only [openCells]
      rw [List.getElem?_append_right (by omega), hl, Nat.add_sub_cancel_left]
    refine ⟨g, cap, rfl, hb, (Array.getElem?_eq_some_iff.1 hg).1, by simpa using hc, ?_, ?_, ?_⟩
    · rw [h.own.cellAt (r.length * 3) (by simp)]; exact e 0 (by omega)
    · rw [h.own.cellAt (r.length * 3 + 1) (by simp; omega)]; exact e 1 (by omega)
    · rw [h.own.cellAt (r.length * 3 + 2) (by simp; omega)]; exact e 2 (by omega)

theorem info_open : (Tryz.prog.info? 190).map (fun i => (i.zero, i.size, i.bytes)) = some (some (.agg #[.bool false, .bool false, .bool false]), 3, 3) := by kernel_rfl

set_option maxHeartbeats 400000 in
theorem over_any (w : World) (B b : Nat) (lv fv mv pv dv vo xd : Value) (opens : List OpenP) (h : BkAt w B b lv fv mv pv dv vo xd opens) :
    Calls Tryz.prog 89 #[.pointer (some ⟨b, 0, none⟩)] w fun e w' => e = .returned (.bool (overP opens)) ∧ w' = w := by
  have c5 : w.cell? ⟨b, 5, none⟩ = some vo := h.row.cell 5 (by simp)
  have hf := h.few
  cases opens with
  | nil =>
    obtain ⟨a, cap, hv⟩ := own_form h.own
    rw [List.length_nil] at hv
    subst hv
    clear h
    go_enter Tryz.func89, Tryz.ntmps89
    go_wp2
    go_ret
    exact ⟨rfl, rfl⟩
  | cons o r =>
    obtain ⟨g, cap, hv, _, hgl, hc, y0, y1, y2⟩ := h.slot
    subst hv
    rw [List.length_cons] at hf
    obtain ⟨n, hn⟩ : ∃ n, r.length = n := ⟨_, rfl⟩
    rw [hn] at c5 hf y0 y1 y2
    have hov : overP (o :: r) = (o.over || !o.yes) := rfl
    rw [hov]
    obtain ⟨yes, els, over⟩ := o
    simp only at y0 y1 y2
    clear h hov hn
    have i1 : (0 : Int) < ((n + 1 : Nat) : Int) := by omega
    have i2 : ((n + 1 : Nat) : Int) - 1 = (n : Int) := by omega
    have d0 : decide ((0 : Int) < ((n + 1 : Nat) : Int)) = true := by simp
    cases over with
    | true =>
      go_enter Tryz.func89, Tryz.ntmps89
      go_wp2
      go_ret
      exact ⟨rfl, rfl⟩
    | false =>
      go_enter Tryz.func89, Tryz.ntmps89
      go_wp2
      go_ret
      exact ⟨rfl, rfl⟩

end Go.Proofs.YtcepppilgncdmaaGreatDoor
