/-
  Lines and statements of an assembly, as they lie in memory (package assemble).
  What an assembly holds in memory (package assemble).
  What an assembly holds, behind one thing more (package assemble).
  How many bytes a statement makes (package assemble).
  What the small functions of package assemble answer: isAlignment, takes, operationOf.
-/
import Derived.Test.YtcepppilgncdmaaGreatDoorBA06
import Derived.Test.YtcepppilgncdmaaGreatDoorBA03
import Derived.Test.YtcepppilgncdmaaGreatDoorBA12
import Derived.BigQuiet
import Derived.Deep.QuietTactic
import Derived.Deep.CutBlock
import Derived.Deep.DeepCutAuto
import Derived.WalkSmall
namespace Go.Proofs.YtcepppilgncdmaaGreatDoor
open Go.RowKit

/-- A line, as it lies in memory. -/
structure LnV where
  t : ByteArray
  frm : Nat
  at_ : Nat
  size : Nat
def lnCells : List LnV → List Value
  | [] => []
  | l :: r => .string l.t :: .int .i64 (l.frm : Nat) :: .int .i64 (l.at_ : Nat) :: .int .i64 (l.size : Nat) :: lnCells r
theorem lnCells_length (l : List LnV) : (lnCells l).length = l.length * 4 := by
  induction l with
  | nil => rfl
  | cons x r ih => simp only [lnCells, List.length_cons, ih]; omega
theorem lnCells_at (l : List LnV) (i : Nat) (h : i < l.length) : (lnCells l)[i * 4]? = some (.string l[i].t) ∧ (lnCells l)[i * 4 + 1]? = some (.int .i64 (l[i].frm : Nat)) ∧ (lnCells l)[i * 4 + 2]? = some (.int .i64 (l[i].at_ : Nat)) ∧ (lnCells l)[i * 4 + 3]? = some (.int .i64 (l[i].size : Nat)) := by
  induction l generalizing i with
  | nil => simp at h
  | cons x r ih =>
    cases i with
    | zero => simp [lnCells]
    | succ i =>
      have := ih i (by simpa using h)
      simp only [lnCells, show (i + 1) * 4 = i * 4 + 1 + 1 + 1 + 1 from by omega, List.getElem?_cons_succ, List.getElem_cons_succ]
      exact this
theorem lnCells_set (l : List LnV) (i : Nat) (h : i < l.length) (a z : Nat) : ((lnCells l).set (i * 4 + 2) (.int .i64 (a : Nat))).set (i * 4 + 3) (.int .i64 (z : Nat)) = lnCells (l.set i ⟨l[i].t, l[i].frm, a, z⟩) := by
  induction l generalizing i with
  | nil => simp at h
  | cons x r ih =>
    cases i with
    | zero => simp [lnCells]
    | succ i =>
      have := ih i (by simpa using h)
      simp only [lnCells, show (i + 1) * 4 = i * 4 + 1 + 1 + 1 + 1 from by omega, List.set_cons_succ, List.getElem_cons_succ]
      rw [this]

/-- A statement, as it lies in memory. -/
structure StV where
  o : OpnP
  lab : Nat
  has : Bool
  added : Nat
  v : Value
  es : List ByteArray
  count : Nat
  long : Bool
def stOne (x : StV) : List Value := [.int .i64 (x.o.kind : Nat), .int .i64 (x.o.regs : Nat), .int .i64 (x.o.code : Nat), .int .i64 (x.o.long : Nat), .int .i64 (x.o.width : Nat), .int .i64 (x.lab : Nat), .bool x.has, .int .i64 (x.added : Nat), x.v, .int .i64 (x.count : Nat), .bool x.long]
def stCells : List StV → List Value
  | [] => []
  | x :: r => stOne x ++ stCells r
theorem stCells_append (a b : List StV) : stCells (a ++ b) = stCells a ++ stCells b := by
  induction a with
  | nil => rfl
  | cons x r ih => simp [stCells, ih]
theorem stCells_one (x : StV) : stCells [x] = stOne x := by simp [stCells]
theorem stCells_length (l : List StV) : (stCells l).length = l.length * 11 := by
  induction l with
  | nil => rfl
  | cons x r ih => simp only [stCells, List.length_append, List.length_cons, ih, stOne, List.length_nil]; omega
theorem stCells_at (l : List StV) (i k : Nat) (h : i < l.length) (hk : k < 11) : (stCells l)[i * 11 + k]? = (stOne l[i])[k]? := by
  induction l generalizing i with
  | nil => simp at h
  | cons x r ih =>
    cases i with
    | zero =>
      simp only [stCells, Nat.zero_mul, Nat.zero_add, List.getElem_cons_zero]
      rw [List.getElem?_append_left (by simp [stOne]; omega)]
    | succ i =>
      have := ih i (by simpa using h)
      simp only [stCells, List.getElem_cons_succ]
      rw [List.getElem?_append_right (by simp [stOne]; omega)]
      rw [show (i + 1) * 11 + k - (stOne x).length = i * 11 + k from by simp [stOne]; omega]
      exact this
theorem stCells_set (l : List StV) (i : Nat) (h : i < l.length) (b : Bool) : (stCells l).set (i * 11 + 10) (.bool b) = stCells (l.set i { l[i] with long := b }) := by
  induction l generalizing i with
  | nil => simp at h
  | cons x r ih =>
    cases i with
    | zero => simp [stCells, stOne]
    | succ i =>
      have := ih i (by simpa using h)
      simp only [stCells, List.set_cons_succ, List.getElem_cons_succ]
      rw [List.set_append_right _ _ (by simp [stOne]; omega), show (i + 1) * 11 + 10 - (stOne x).length = i * 11 + 10 from by simp [stOne]; omega, this]

/-- A statement lies at a place. -/
def StAt (w : World) (b off : Nat) (x : StV) : Prop := b < w.heap.size ∧ ∀ k v, (stOne x)[k]? = some v → w.cell? ⟨b, off + k, none⟩ = some v
theorem StAt.below {w w' : World} {b off : Nat} {x : StV} (h : StAt w b off x) (hb : Below w.heap.size w w') : StAt w' b off x :=
  ⟨Nat.lt_of_lt_of_le h.1 hb.size, fun k v hk => by rw [hb.cell (p := ⟨b, off + k, none⟩) h.1]; exact h.2 k v hk⟩
theorem StAt.of_row {w : World} {b : Nat} {x : StV} (h : RowT w 113 b (stOne x)) : StAt w b 0 x := ⟨h.lt, fun k v hk => by
  obtain ⟨h1, h2⟩ := List.getElem?_eq_some_iff.1 hk
  rw [Nat.zero_add, h.cell k h1, h2]⟩
/-- How many bytes a statement makes at an address. -/
def sizeV (x : StV) (a : Nat) : Nat :=
  if x.o.kind = 1 then 1
  else if x.o.kind = 2 then 1 + x.o.width
  else if x.o.kind = 3 then (if x.long then 3 else 2)
  else if x.o.kind = 4 then x.o.width * x.es.length
  else if x.o.kind = 5 then x.count
  else if x.o.kind = 6 then (x.count - a % x.count) % x.count
  else 0
end Go.Proofs.YtcepppilgncdmaaGreatDoor

namespace Go.Proofs.YtcepppilgncdmaaGreatDoor
open Go.RowKit

theorem lnCells_lines (outs : List (ByteArray × Nat)) : lnCells (outs.map fun x => ⟨x.1, x.2, 0, 0⟩) = lineCells outs := by
  induction outs with
  | nil => rfl
  | cons x r ih => simp [lnCells, lineCells, ih]
theorem nameCells_set (l : List (ByteArray × Int)) (i : Nat) (h : i < l.length) (z : Int) : (nameCells l).set (i * 2 + 1) (.int .i64 z) = nameCells (l.set i (l[i].1, z)) := by
  induction l generalizing i with
  | nil => simp at h
  | cons x r ih =>
    cases i with
    | zero => simp [nameCells]
    | succ i =>
      have := ih i (by simpa using h)
      simp only [nameCells, show (i + 1) * 2 + 1 = (i * 2 + 1) + 1 + 1 from by omega, List.set_cons_succ, List.getElem_cons_succ, this]

def byCells (bs : List UInt8) : List Value := bs.map fun b => .int .u8 (b.toNat : Nat)
theorem byCells_append (a b : List UInt8) : byCells (a ++ b) = byCells a ++ byCells b := by simp [byCells]

/-- Types of what an assembly holds. -/
def aT (t : TypeId) : Bool := t == 83 || t == 113 || t == 40 || t == 38 || t == 5
abbrev FrA := FrE aT
/-- Those of them that putting bytes may turn. -/
def bT (t : TypeId) : Bool := t == 83 || t == 5
abbrev FrB := FrE bT
theorem FrB.refl (B : Nat) (w : World) : FrB B [] w w := FrE.refl _ _ _ _
theorem FrB.of_below {B : Nat} {w w' : World} (h : Below w.heap.size w w') : FrB B [] w w' := FrE.of_below h
theorem FrB.toA {B : Nat} {w w' : World} (h : FrB B [] w w') : FrA B [] w w' :=
  ⟨h.os, h.tape, h.output, h.size, fun k o ho hk => h.block k o ho (hk.imp id fun hm => by
    cases o with
    | cells cur t fz =>
      simp only [keptO, Bool.and_eq_true, Bool.not_eq_true'] at hm ⊢
      refine ⟨?_, hm.2⟩
      have h1 := hm.1
      unfold aT at h1
      unfold bT
      simp only [Bool.or_eq_false_iff] at h1 ⊢
      exact ⟨h1.1.1.1.1, h1.2⟩
    | _ => rfl)⟩
theorem FrA.refl (B : Nat) (w : World) : FrA B [] w w := FrE.refl _ _ _ _
theorem FrA.of_below {B : Nat} {w w' : World} (h : Below w.heap.size w w') : FrA B [] w w' := FrE.of_below h
/-- Those that taking lines in may turn. -/
def nT (t : TypeId) : Bool := t == 83 || t == 113 || t == 40
abbrev FrN := FrE nT
theorem FrN.refl (B : Nat) (w : World) : FrN B [] w w := FrE.refl _ _ _ _
theorem FrN.of_below {B : Nat} {w w' : World} (h : Below w.heap.size w w') : FrN B [] w w' := FrE.of_below h
theorem FrN.toA {B : Nat} {w w' : World} (h : FrN B [] w w') : FrA B [] w w' :=
  ⟨h.os, h.tape, h.output, h.size, fun k o ho hk => h.block k o ho (hk.imp id fun hm => by
    cases o with
    | cells cur t fz =>
      simp only [keptO, Bool.and_eq_true, Bool.not_eq_true'] at hm ⊢
      refine ⟨?_, hm.2⟩
      have h1 := hm.1
      unfold aT at h1
      unfold nT
      simp only [Bool.or_eq_false_iff] at h1 ⊢
      exact h1.1.1
    | _ => rfl)⟩
theorem StrV.frn {B C : Nat} {w w' : World} {v : Value} {ss : List ByteArray} (h : StrV w C v ss) (hf : FrN B [] w w') : StrV w' C v ss := h.frE hf rfl
theorem StrV.frb {B C : Nat} {w w' : World} {v : Value} {ss : List ByteArray} (h : StrV w C v ss) (hf : FrB B [] w w') : StrV w' C v ss := h.frE hf rfl
theorem StrV.fra {B C : Nat} {w w' : World} {v : Value} {ss : List ByteArray} (h : StrV w C v ss) (hf : FrA B [] w w') : StrV w' C v ss := h.frE hf rfl

/-- What an assembly holds: lines, statements, names, names of .set, the size, the bytes. -/
structure AsmAt (w : World) (B ba : Nat) (vl vs vn vt vb : Value) (ls : List LnV) (ss : List StV) (ns ts : List (ByteArray × Int)) (sz : Nat) (bs : List UInt8) : Prop where
  row : RowT w 83 ba [vl, vs, vn, vt, .int .i64 (sz : Nat), vb]
  at_ : B ≤ ba
  lown : w.ownsRow B 38 4 vl ls.length (lnCells ls)
  sown : w.ownsRow B 113 11 vs ss.length (stCells ss)
  nown : w.ownsRow B 40 2 vn ns.length (nameCells ns)
  town : w.ownsRow B 40 2 vt ts.length (nameCells ts)
  bown : w.ownsRow B 5 1 vb bs.length (byCells bs)
  apart : ∀ g, vn.ownBlock = some g → vt.ownBlock ≠ some g
  strs : ∀ x ∈ ss, StrV w 0 x.v x.es
theorem AsmAt.below {w w' : World} {B ba : Nat} {vl vs vn vt vb : Value} {ls : List LnV} {ss : List StV} {ns ts : List (ByteArray × Int)} {sz : Nat} {bs : List UInt8} (h : AsmAt w B ba vl vs vn vt vb ls ss ns ts sz bs) (hb : Below w.heap.size w w') : AsmAt w' B ba vl vs vn vt vb ls ss ns ts sz bs :=
  ⟨h.row.below hb, h.at_, ownsRow_belowP h.lown hb, ownsRow_belowP h.sown hb, ownsRow_belowP h.nown hb, ownsRow_belowP h.town hb, ownsRow_belowP h.bown hb, h.apart, fun x hx => (h.strs x hx).below hb⟩
theorem own_names {w : World} {B : Nat} {v : Value} {ns : List (ByteArray × Int)} (h : w.ownsRow B 40 2 v ns.length (nameCells ns)) : ∃ a cap, v = .slice a ns.length cap ∧ NamesAt w a ns := by
  rcases h.2 with ⟨rfl, h0⟩ | ⟨g, cap, cur, rfl, hb, hg, _⟩
  · exact ⟨none, 0, by rw [h0], Or.inl (List.eq_nil_of_length_eq_zero h0)⟩
  · refine ⟨_, cap, rfl, Or.inr ⟨g, 0, rfl, (Array.getElem?_eq_some_iff.1 hg).1, fun i hi => ?_⟩⟩
    have h1 := h.cellAt (i * 2) (by omega)
    have h2 := h.cellAt (i * 2 + 1) (by omega)
    rw [(nameCells_at ns i hi).1] at h1
    rw [(nameCells_at ns i hi).2] at h2
    rw [Nat.zero_add]
    exact ⟨h1, h2⟩
/-- Rows of another type, or other rows, stay where one row grows. -/
theorem own_keep {w w4 : World} {B C e f size m n k : Nat} {v u : Value} {xs ys : List Value} (h : w.ownsRow B e size v n xs) (hu : w.ownsRow C f m u k ys) (hg : w.grownBy w4 u.ownBlock) (ht : e ≠ f) : w4.ownsRow B e size v n xs :=
  h.kept hg (by
    cases hv : v.ownBlock with
    | none => exact Or.inl rfl
    | some g => exact Or.inr (fun e1 => own_own_ne h hu ht (g := g) (by rw [← e1]) hv))
theorem own_keepN {w w4 : World} {B size n : Nat} {e : Nat} {v u : Value} {xs : List Value} (h : w.ownsRow B e size v n xs) (hg : w.grownBy w4 u.ownBlock) (ht : ∀ g, v.ownBlock = some g → u.ownBlock ≠ some g) : w4.ownsRow B e size v n xs :=
  h.kept hg (by
    cases hv : v.ownBlock with
    | none => exact Or.inl rfl
    | some g => exact Or.inr (fun e1 => ht g hv (by rw [← e1])))

theorem info_stm : (Tryz.prog.info? 113).map (fun i => (i.zero, i.size, i.bytes)) = some (some (.agg #[.int .i64 0, .int .i64 0, .int .i64 0, .int .i64 0, .int .i64 0, .int .i64 0, .bool false, .int .i64 0, .slice none 0 0, .int .i64 0, .bool false]), 11, 104) := by kernel_rfl
theorem info_by : (Tryz.prog.info? 5).map (fun i => (i.zero, i.size, i.bytes)) = some (some (.int .u8 0), 1, 1) := by kernel_rfl

end Go.Proofs.YtcepppilgncdmaaGreatDoor

namespace Go.Proofs.YtcepppilgncdmaaGreatDoor
open Go.RowKit

theorem own_ltA {w : World} {b e s n p : Nat} {v : Value} {xs : List Value} (h : w.ownsRow b e s v n xs) (hp : v.ownBlock = some p) : p < w.heap.size := by
  rcases h.2 with ⟨rfl, _⟩ | ⟨g', cap', cur, rfl, _, hh, _⟩
  · cases hp
  · simp only [Value.ownBlock, Option.some.injEq] at hp
    subst hp
    exact (Array.getElem?_eq_some_iff.1 hh).1

theorem AsmAt.stm {w w4 : World} {B ba : Nat} {vl vs vn vt vb : Value} {ls : List LnV} {ss : List StV} {ns ts : List (ByteArray × Int)} {sz : Nat} {bs : List UInt8} (h : AsmAt w B ba vl vs vn vt vb ls ss ns ts sz bs) (hg : w.grownBy w4 vs.ownBlock) {gg cap : Nat} {x : StV} (hx : StrV w 0 x.v x.es)
    (ho : w4.ownsRow B 113 11 (.slice (some ⟨gg, 0, none⟩) (ss.length + 1) cap) (ss.length + 1) (stCells ss ++ stOne x)) :
    AsmAt (w4.setCell ⟨ba, 1, none⟩ (.slice (some ⟨gg, 0, none⟩) (ss.length + 1) cap)) B ba vl (.slice (some ⟨gg, 0, none⟩) (ss.length + 1) cap) vn vt vb ls (ss ++ [x]) ns ts sz bs ∧
    FrN B [] w (w4.setCell ⟨ba, 1, none⟩ (.slice (some ⟨gg, 0, none⟩) (ss.length + 1) cap)) := by
  have hne : vs.ownBlock ≠ some ba := own_row_ne h.sown h.row (by decide)
  have hr4 : RowT w4 83 ba [vl, vs, vn, vt, .int .i64 (sz : Nat), vb] := RowT.grown' h.row hg (Ne.symm hne)
  have kl := own_keep h.lown h.sown hg (by decide)
  have kn := own_keep h.nown h.sown hg (by decide)
  have kt := own_keep h.town h.sown hg (by decide)
  have kb := own_keep h.bown h.sown hg (by decide)
  have hf4 : FrN B [] w w4 := (FrN.refl B w).grown hg (own_may h.sown (fun _ _ => Or.inl rfl))
  have hf5 := hf4.setCell (p := ⟨ba, 1, none⟩) (hr4.may h.at_ (Or.inl rfl)) (.slice (some ⟨gg, 0, none⟩) (ss.length + 1) cap)
  refine ⟨⟨hr4.set 1 _, h.at_, ownsRow_setCell_other kl (a := ⟨ba, 1, none⟩) (own_row_ne kl hr4 (by decide)) _, ?_, ownsRow_setCell_other kn (a := ⟨ba, 1, none⟩) (own_row_ne kn hr4 (by decide)) _, ownsRow_setCell_other kt (a := ⟨ba, 1, none⟩) (own_row_ne kt hr4 (by decide)) _, ownsRow_setCell_other kb (a := ⟨ba, 1, none⟩) (own_row_ne kb hr4 (by decide)) _, h.apart, ?_⟩, hf5⟩
  · rw [stCells_append, stCells_one, List.length_append]
    exact ownsRow_setCell_other ho (a := ⟨ba, 1, none⟩) (own_row_ne ho hr4 (by decide)) _
  · intro y hy
    rcases List.mem_append.1 hy with hy | hy
    · exact (h.strs y hy).frn hf5
    · rw [List.mem_singleton] at hy
      rw [hy]
      exact hx.frn hf5

theorem AsmAt.name {w w4 : World} {B ba : Nat} {vl vs vn vt vb : Value} {ls : List LnV} {ss : List StV} {ns ts : List (ByteArray × Int)} {sz : Nat} {bs : List UInt8} (h : AsmAt w B ba vl vs vn vt vb ls ss ns ts sz bs) (hg : w.grownBy w4 vn.ownBlock) {gg cap : Nat} {t : ByteArray} {z : Int} (hat : vn.ownBlock = some gg ∨ gg = w.heap.size)
    (ho : w4.ownsRow B 40 2 (.slice (some ⟨gg, 0, none⟩) (ns.length + 1) cap) (ns.length + 1) (nameCells ns ++ [.string t, .int .i64 z])) :
    AsmAt (w4.setCell ⟨ba, 2, none⟩ (.slice (some ⟨gg, 0, none⟩) (ns.length + 1) cap)) B ba vl vs (.slice (some ⟨gg, 0, none⟩) (ns.length + 1) cap) vt vb ls ss (ns ++ [(t, z)]) ts sz bs ∧
    FrN B [] w (w4.setCell ⟨ba, 2, none⟩ (.slice (some ⟨gg, 0, none⟩) (ns.length + 1) cap)) := by
  have hne : vn.ownBlock ≠ some ba := own_row_ne h.nown h.row (by decide)
  have hr4 : RowT w4 83 ba [vl, vs, vn, vt, .int .i64 (sz : Nat), vb] := RowT.grown' h.row hg (Ne.symm hne)
  have kl := own_keep h.lown h.nown hg (by decide)
  have ks := own_keep h.sown h.nown hg (by decide)
  have kt := own_keepN h.town hg (fun g h1 h2 => h.apart g h2 h1)
  have kb := own_keep h.bown h.nown hg (by decide)
  have hf4 : FrN B [] w w4 := (FrN.refl B w).grown hg (own_may h.nown (fun _ _ => Or.inl rfl))
  have hf5 := hf4.setCell (p := ⟨ba, 2, none⟩) (hr4.may h.at_ (Or.inl rfl)) (.slice (some ⟨gg, 0, none⟩) (ns.length + 1) cap)
  refine ⟨⟨hr4.set 2 _, h.at_, ownsRow_setCell_other kl (a := ⟨ba, 2, none⟩) (own_row_ne kl hr4 (by decide)) _, ownsRow_setCell_other ks (a := ⟨ba, 2, none⟩) (own_row_ne ks hr4 (by decide)) _, ?_, ownsRow_setCell_other kt (a := ⟨ba, 2, none⟩) (own_row_ne kt hr4 (by decide)) _, ownsRow_setCell_other kb (a := ⟨ba, 2, none⟩) (own_row_ne kb hr4 (by decide)) _, ?_, fun x hx => (h.strs x hx).frn hf5⟩, hf5⟩
  · rw [nameCells_append, List.length_append]
    exact ownsRow_setCell_other ho (a := ⟨ba, 2, none⟩) (own_row_ne ho hr4 (by decide)) _
  · intro g h1 h2
    simp only [Value.ownBlock, Option.some.injEq] at h1
    subst h1
    rcases hat with h3 | h3
    · exact h.apart _ h3 h2
    · have := own_ltA h.town h2
      omega

theorem AsmAt.set {w w4 : World} {B ba : Nat} {vl vs vn vt vb : Value} {ls : List LnV} {ss : List StV} {ns ts : List (ByteArray × Int)} {sz : Nat} {bs : List UInt8} (h : AsmAt w B ba vl vs vn vt vb ls ss ns ts sz bs) (hg : w.grownBy w4 vt.ownBlock) {gg cap : Nat} {t : ByteArray} {z : Int} (hat : vt.ownBlock = some gg ∨ gg = w.heap.size)
    (ho : w4.ownsRow B 40 2 (.slice (some ⟨gg, 0, none⟩) (ts.length + 1) cap) (ts.length + 1) (nameCells ts ++ [.string t, .int .i64 z])) :
    AsmAt (w4.setCell ⟨ba, 3, none⟩ (.slice (some ⟨gg, 0, none⟩) (ts.length + 1) cap)) B ba vl vs vn (.slice (some ⟨gg, 0, none⟩) (ts.length + 1) cap) vb ls ss ns (ts ++ [(t, z)]) sz bs ∧
    FrN B [] w (w4.setCell ⟨ba, 3, none⟩ (.slice (some ⟨gg, 0, none⟩) (ts.length + 1) cap)) := by
  have hne : vt.ownBlock ≠ some ba := own_row_ne h.town h.row (by decide)
  have hr4 : RowT w4 83 ba [vl, vs, vn, vt, .int .i64 (sz : Nat), vb] := RowT.grown' h.row hg (Ne.symm hne)
  have kl := own_keep h.lown h.town hg (by decide)
  have ks := own_keep h.sown h.town hg (by decide)
  have kn := own_keepN h.nown hg h.apart
  have kb := own_keep h.bown h.town hg (by decide)
  have hf4 : FrN B [] w w4 := (FrN.refl B w).grown hg (own_may h.town (fun _ _ => Or.inl rfl))
  have hf5 := hf4.setCell (p := ⟨ba, 3, none⟩) (hr4.may h.at_ (Or.inl rfl)) (.slice (some ⟨gg, 0, none⟩) (ts.length + 1) cap)
  refine ⟨⟨hr4.set 3 _, h.at_, ownsRow_setCell_other kl (a := ⟨ba, 3, none⟩) (own_row_ne kl hr4 (by decide)) _, ownsRow_setCell_other ks (a := ⟨ba, 3, none⟩) (own_row_ne ks hr4 (by decide)) _, ownsRow_setCell_other kn (a := ⟨ba, 3, none⟩) (own_row_ne kn hr4 (by decide)) _, ?_, ownsRow_setCell_other kb (a := ⟨ba, 3, none⟩) (own_row_ne kb hr4 (by decide)) _, ?_, fun x hx => (h.strs x hx).frn hf5⟩, hf5⟩
  · rw [nameCells_append, List.length_append]
    exact ownsRow_setCell_other ho (a := ⟨ba, 3, none⟩) (own_row_ne ho hr4 (by decide)) _
  · intro g h1 h2
    simp only [Value.ownBlock, Option.some.injEq] at h2
    subst h2
    rcases hat with h3 | h3
    · exact h.apart _ h1 h3
    · have := own_ltA h.nown h1
      omega

theorem AsmAt.bytes {w w4 : World} {B ba : Nat} {vl vs vn vt vb : Value} {ls : List LnV} {ss : List StV} {ns ts : List (ByteArray × Int)} {sz : Nat} {bs : List UInt8} (h : AsmAt w B ba vl vs vn vt vb ls ss ns ts sz bs) (hg : w.grownBy w4 vb.ownBlock) {nv : Value} {more : List UInt8}
    (ho : w4.ownsRow B 5 1 nv (bs.length + more.length) (byCells bs ++ byCells more)) :
    AsmAt (w4.setCell ⟨ba, 5, none⟩ nv) B ba vl vs vn vt nv ls ss ns ts sz (bs ++ more) ∧
    FrB B [] w (w4.setCell ⟨ba, 5, none⟩ nv) := by
  have hne : vb.ownBlock ≠ some ba := own_row_ne h.bown h.row (by decide)
  have hr4 : RowT w4 83 ba [vl, vs, vn, vt, .int .i64 (sz : Nat), vb] := RowT.grown' h.row hg (Ne.symm hne)
  have kl := own_keep h.lown h.bown hg (by decide)
  have ks := own_keep h.sown h.bown hg (by decide)
  have kn := own_keep h.nown h.bown hg (by decide)
  have kt := own_keep h.town h.bown hg (by decide)
  have hf4 : FrB B [] w w4 := (FrB.refl B w).grown hg (own_may h.bown (fun _ _ => Or.inl rfl))
  have hf5 := hf4.setCell (p := ⟨ba, 5, none⟩) (hr4.may h.at_ (Or.inl rfl)) nv
  refine ⟨⟨hr4.set 5 _, h.at_, ownsRow_setCell_other kl (a := ⟨ba, 5, none⟩) (own_row_ne kl hr4 (by decide)) _, ownsRow_setCell_other ks (a := ⟨ba, 5, none⟩) (own_row_ne ks hr4 (by decide)) _, ownsRow_setCell_other kn (a := ⟨ba, 5, none⟩) (own_row_ne kn hr4 (by decide)) _, ownsRow_setCell_other kt (a := ⟨ba, 5, none⟩) (own_row_ne kt hr4 (by decide)) _, ?_, h.apart, fun x hx => (h.strs x hx).frb hf5⟩, hf5⟩
  · rw [byCells_append, List.length_append]
    exact ownsRow_setCell_other ho (a := ⟨ba, 5, none⟩) (own_row_ne ho hr4 (by decide)) _

end Go.Proofs.YtcepppilgncdmaaGreatDoor

namespace Go.Proofs.YtcepppilgncdmaaGreatDoor
open Go.RowKit

set_option maxRecDepth 100000 in
set_option maxHeartbeats 1600000 in
theorem size_any (b off : Nat) (x : StV) (a : Nat) (w : World) (hx : StAt w b off x) (va : Option Addr) (vc : Nat) (hv : x.v = .slice va x.es.length vc) (he : x.es.length ≤ 1000) (hw : x.o.width ≤ 10) (hc : x.count ≤ 1000000) (h6 : x.o.kind = 6 → 0 < x.count) :
    Calls Tryz.prog 80 #[.pointer (some ⟨b, off, none⟩), .int .i64 (a : Nat)] w fun e w' => e = .returned (.int .i64 (sizeV x a : Nat)) ∧ Below w.heap.size w w' := by
  obtain ⟨⟨k, r, c, l, d⟩, lab, has, added, v, es, count, long⟩ := x
  simp only at hv he hw hc h6
  subst hv
  have c0 : w.cell? ⟨b, off, none⟩ = some (.int .i64 (k : Nat)) := hx.2 0 _ rfl
  have c4 : w.cell? ⟨b, off + 4, none⟩ = some (.int .i64 (d : Nat)) := hx.2 4 _ rfl
  have c8 : w.cell? ⟨b, off + 8, none⟩ = some (.slice va es.length vc) := hx.2 8 _ rfl
  have c9 : w.cell? ⟨b, off + 9, none⟩ = some (.int .i64 (count : Nat)) := hx.2 9 _ rfl
  have c10 : w.cell? ⟨b, off + 10, none⟩ = some (.bool long) := hx.2 10 _ rfl
  clear hx
  by_cases h1 : k = 1
  · subst h1
    go_enter Tryz.func80, Tryz.ntmps80
    go_wp2
    go_ret
    exact ⟨rfl, Below.refl _ _⟩
  have k1 : ((k : Int) == 1) = false := by rw [beq_eq_false_iff_ne]; omega
  by_cases h2 : k = 2
  · subst h2
    go_enter Tryz.func80, Tryz.ntmps80
    go_wp2
    go_ret
    exact ⟨ret_int (by simp [sizeV]), Below.refl _ _⟩
  have k2 : ((k : Int) == 2) = false := by rw [beq_eq_false_iff_ne]; omega
  by_cases h3 : k = 3
  · subst h3
    cases long with
    | true =>
      go_enter Tryz.func80, Tryz.ntmps80
      go_wp2
      go_ret
      exact ⟨rfl, Below.refl _ _⟩
    | false =>
      go_enter Tryz.func80, Tryz.ntmps80
      go_wp2
      go_ret
      exact ⟨rfl, Below.refl _ _⟩
  have k3 : ((k : Int) == 3) = false := by rw [beq_eq_false_iff_ne]; omega
  by_cases h4 : k = 4
  · subst h4
    have hm : d * es.length ≤ 10 * 1000 := Nat.mul_le_mul hw he
    go_enter Tryz.func80, Tryz.ntmps80
    go_upto_region 11 with fail
    go_quiet (fail)
    go_wp2
    go_ret
    exact ⟨ret_int (by simp [sizeV]), below_drewN (Below.refl _ _) _⟩
  have k4 : ((k : Int) == 4) = false := by rw [beq_eq_false_iff_ne]; omega
  by_cases h5 : k = 5
  · subst h5
    go_enter Tryz.func80, Tryz.ntmps80
    go_wp2
    go_ret
    exact ⟨rfl, Below.refl _ _⟩
  have k5 : ((k : Int) == 5) = false := by rw [beq_eq_false_iff_ne]; omega
  by_cases h6' : k = 6
  · subst h6'
    have hpos := h6 rfl
    have hne : ¬ (count : Int) = 0 := by omega
    have t1 : Int.tmod (a : Int) (count : Int) = ((a % count : Nat) : Int) := rfl
    have t2 : Int.tmod ((count : Int) - ((a % count : Nat) : Int)) (count : Int) = (((count - a % count) % count : Nat) : Int) := by
      have : ((count : Int) - ((a % count : Nat) : Int)) = ((count - a % count : Nat) : Int) := by have := Nat.mod_lt a hpos; omega
      rw [this]; rfl
    have b1 : a % count < count := Nat.mod_lt a hpos
    have b2 : (count - a % count) % count < count := Nat.mod_lt _ hpos
    go_enter Tryz.func80, Tryz.ntmps80
    go_upto_region 15 with fail
    go_quiet (fail)
    go_wp2
    go_ret
    have e0 : ((count - a % count : Nat) : Int) = (count : Int) - (a : Int) % count := by
      have h : ((a % count : Nat) : Int) = (a : Int) % count := rfl
      omega
    exact ⟨ret_int (by simp [sizeV]; rw [e0]; simp), below_drewN (Below.refl _ _) _⟩
  have k6 : ((k : Int) == 6) = false := by rw [beq_eq_false_iff_ne]; omega
  have hz : sizeV ⟨⟨k, r, c, l, d⟩, lab, has, added, .slice va es.length vc, es, count, long⟩ a = 0 := by simp [sizeV, h1, h2, h3, h4, h5, h6']
  rw [hz]
  go_enter Tryz.func80, Tryz.ntmps80
  go_wp2
  go_ret
  exact ⟨rfl, Below.refl _ _⟩
end Go.Proofs.YtcepppilgncdmaaGreatDoor

namespace Go.Proofs.YtcepppilgncdmaaGreatDoor
open Go.RowKit


set_option maxHeartbeats 400000 in
theorem isAlignment_any (z : Int) (w : World) : Calls Tryz.prog 145 #[.int .i64 z] w fun e w' => e = .returned (.bool (alignB z)) ∧ w' = w := by
  have hcs : z = 1 ∨ z = 2 ∨ z = 4 ∨ z = 8 ∨ z = 16 ∨ (¬ z = 1 ∧ ¬ z = 2 ∧ ¬ z = 4 ∧ ¬ z = 8 ∧ ¬ z = 16) := by omega
  rcases hcs with h | h | h | h | h | ⟨h1, h2, h3, h4, h5⟩
  case inr.inr.inr.inr.inr =>
    go_enter Tryz.func145, Tryz.ntmps145
    go_wp2
    go_ret
    exact ⟨ret_bool (by simp [alignB, h1, h2, h3, h4, h5]), rfl⟩
  all_goals
    subst h
    go_enter Tryz.func145, Tryz.ntmps145
    go_wp2
    go_ret
    exact ⟨rfl, rfl⟩

/-- An operation, as a value. -/
def opnV (o : OpnP) : Value := .agg #[.int .i64 (o.kind : Nat), .int .i64 (o.regs : Nat), .int .i64 (o.code : Nat), .int .i64 (o.long : Nat), .int .i64 (o.width : Nat)]
set_option maxHeartbeats 400000 in
theorem takes_any (o : OpnP) (n : Nat) (w : World) (hn : n ≤ 100000) (ho : o.regs ≤ 10) :
    Calls Tryz.prog 113 #[.agg #[.int .i64 (o.kind : Nat), .int .i64 (o.regs : Nat), .int .i64 (o.code : Nat), .int .i64 (o.long : Nat), .int .i64 (o.width : Nat)], .int .i64 (n : Nat)] w fun e w' => e = .returned (.bool (takesP o n)) ∧ Below w.heap.size w w' := by
  obtain ⟨k, r, c, l, d⟩ := o
  simp only at ho ⊢
  have hb : Below w.heap.size w (w.alloc (.cells #[.int .i64 (k : Nat), .int .i64 (r : Nat), .int .i64 (c : Nat), .int .i64 (l : Nat), .int .i64 (d : Nat)] 111)) := (Below.refl _ _).alloc (Nat.le_refl _) _
  have HB := hid hb
  clear hb
  by_cases h1 : k = 1
  · subst h1
    go_enter Tryz.func113, Tryz.ntmps113
    go_wp2
    go_ret
    refine ⟨ret_bool ?_, HB.out⟩
    unfold takesP
    rw [Bool.eq_iff_iff]
    simp
    try omega
  · have k1 : ((k : Int) == 1) = false := by rw [beq_eq_false_iff_ne]; omega
    by_cases h4 : k = 4
    · subst h4
      go_enter Tryz.func113, Tryz.ntmps113
      go_wp2
      go_ret
      refine ⟨ret_bool ?_, HB.out⟩
      unfold takesP
      rw [Bool.eq_iff_iff]
      simp
      try omega
    · have k4 : ((k : Int) == 4) = false := by rw [beq_eq_false_iff_ne]; omega
      go_enter Tryz.func113, Tryz.ntmps113
      go_wp2
      go_ret
      refine ⟨ret_bool ?_, HB.out⟩
      unfold takesP
      simp only [if_neg h1, if_neg h4]
      rw [Bool.eq_iff_iff]
      simp
      try omega

theorem opn_is {op : ByteArray} {l : List UInt8} (h : L op = l) : (op.toList == l) = true := by
  rw [ByteArray.toList_eq]; unfold L at h; rw [h]; simp
theorem opn_not {op : ByteArray} {l : List UInt8} (h : ¬ L op = l) : (op.toList == l) = false := by
  rw [ByteArray.toList_eq, beq_eq_false_iff_ne]; exact h
/-- What operationOf answers. -/
def OpnPost (s : ByteArray) (w : World) (e : Ending) (w' : World) : Prop := e = .returned (.tuple #[opnV ((opnP (L s)).getD noOpn), .bool (opnP (L s)).isSome]) ∧ Below w.heap.size w w'
set_option maxRecDepth 100000 in
set_option maxHeartbeats 3200000 in
theorem operationOf_any (s : ByteArray) (w : World) : Calls Tryz.prog 72 #[.string s] w (OpnPost s w) := by
  have hb : ∀ v0 v1 v2 v3 v4 : Value, Below w.heap.size w (w.alloc (.cells #[v0, v1, v2, v3, v4] 111)) := fun v0 v1 v2 v3 v4 => (Below.refl _ _).alloc (Nat.le_refl _) _
  have HB := hid hb
  clear hb
  by_cases h0 : L s = [110, 111, 112]
  · have HR := hid (show opnP (L s) = some ⟨1, 0, 0, 0, 0⟩ by rw [h0]; rfl)
    have k0 := opn_is h0
    clear h0
    go_enter Tryz.func72, Tryz.ntmps72
    go_wp2
    refine bodyPost_ret (v := .tuple #[opnV ⟨1, 0, 0, 0, 0⟩, .bool true]) (by simp [results, Tryz.results72, go_sem, opnV]) rfl ?_
    unfold OpnPost
    rw [HR.out]
    exact ⟨rfl, HB.out _ _ _ _ _⟩
  have k0 := opn_not h0
  by_cases h1 : L s = [114, 101, 116]
  · have HR := hid (show opnP (L s) = some ⟨1, 0, 161, 0, 0⟩ by rw [h1]; rfl)
    have k1 := opn_is h1
    clear h1
    go_enter Tryz.func72, Tryz.ntmps72
    go_wp2
    refine bodyPost_ret (v := .tuple #[opnV ⟨1, 0, 161, 0, 0⟩, .bool true]) (by simp [results, Tryz.results72, go_sem, opnV]) rfl ?_
    unfold OpnPost
    rw [HR.out]
    exact ⟨rfl, HB.out _ _ _ _ _⟩
  have k1 := opn_not h1
  by_cases h2 : L s = [109, 111, 118]
  · have HR := hid (show opnP (L s) = some ⟨1, 2, 64, 0, 0⟩ by rw [h2]; rfl)
    have k2 := opn_is h2
    clear h2
    go_enter Tryz.func72, Tryz.ntmps72
    go_wp2
    refine bodyPost_ret (v := .tuple #[opnV ⟨1, 2, 64, 0, 0⟩, .bool true]) (by simp [results, Tryz.results72, go_sem, opnV]) rfl ?_
    unfold OpnPost
    rw [HR.out]
    exact ⟨rfl, HB.out _ _ _ _ _⟩
  have k2 := opn_not h2
  by_cases h3 : L s = [97, 100, 100]
  · have HR := hid (show opnP (L s) = some ⟨1, 2, 80, 0, 0⟩ by rw [h3]; rfl)
    have k3 := opn_is h3
    clear h3
    go_enter Tryz.func72, Tryz.ntmps72
    go_wp2
    refine bodyPost_ret (v := .tuple #[opnV ⟨1, 2, 80, 0, 0⟩, .bool true]) (by simp [results, Tryz.results72, go_sem, opnV]) rfl ?_
    unfold OpnPost
    rw [HR.out]
    exact ⟨rfl, HB.out _ _ _ _ _⟩
  have k3 := opn_not h3
  by_cases h4 : L s = [115, 117, 98]
  · have HR := hid (show opnP (L s) = some ⟨1, 2, 96, 0, 0⟩ by rw [h4]; rfl)
    have k4 := opn_is h4
    clear h4
    go_enter Tryz.func72, Tryz.ntmps72
    go_wp2
    refine bodyPost_ret (v := .tuple #[opnV ⟨1, 2, 96, 0, 0⟩, .bool true]) (by simp [results, Tryz.results72, go_sem, opnV]) rfl ?_
    unfold OpnPost
    rw [HR.out]
    exact ⟨rfl, HB.out _ _ _ _ _⟩
  have k4 := opn_not h4
  by_cases h5 : L s = [108, 111, 97, 100]
  · have HR := hid (show opnP (L s) = some ⟨2, 1, 16, 0, 1⟩ by rw [h5]; rfl)
    have k5 := opn_is h5
    clear h5
    go_enter Tryz.func72, Tryz.ntmps72
    go_wp2
    refine bodyPost_ret (v := .tuple #[opnV ⟨2, 1, 16, 0, 1⟩, .bool true]) (by simp [results, Tryz.results72, go_sem, opnV]) rfl ?_
    unfold OpnPost
    rw [HR.out]
    exact ⟨rfl, HB.out _ _ _ _ _⟩
  have k5 := opn_not h5
  by_cases h6 : L s = [99, 97, 108, 108]
  · have HR := hid (show opnP (L s) = some ⟨2, 0, 160, 0, 2⟩ by rw [h6]; rfl)
    have k6 := opn_is h6
    clear h6
    go_enter Tryz.func72, Tryz.ntmps72
    go_wp2
    refine bodyPost_ret (v := .tuple #[opnV ⟨2, 0, 160, 0, 2⟩, .bool true]) (by simp [results, Tryz.results72, go_sem, opnV]) rfl ?_
    unfold OpnPost
    rw [HR.out]
    exact ⟨rfl, HB.out _ _ _ _ _⟩
  have k6 := opn_not h6
  by_cases h7 : L s = [106, 109, 112]
  · have HR := hid (show opnP (L s) = some ⟨3, 0, 128, 129, 2⟩ by rw [h7]; rfl)
    have k7 := opn_is h7
    clear h7
    go_enter Tryz.func72, Tryz.ntmps72
    go_wp2
    refine bodyPost_ret (v := .tuple #[opnV ⟨3, 0, 128, 129, 2⟩, .bool true]) (by simp [results, Tryz.results72, go_sem, opnV]) rfl ?_
    unfold OpnPost
    rw [HR.out]
    exact ⟨rfl, HB.out _ _ _ _ _⟩
  have k7 := opn_not h7
  by_cases h8 : L s = [106, 122]
  · have HR := hid (show opnP (L s) = some ⟨3, 1, 132, 136, 2⟩ by rw [h8]; rfl)
    have k8 := opn_is h8
    clear h8
    go_enter Tryz.func72, Tryz.ntmps72
    go_wp2
    refine bodyPost_ret (v := .tuple #[opnV ⟨3, 1, 132, 136, 2⟩, .bool true]) (by simp [results, Tryz.results72, go_sem, opnV]) rfl ?_
    unfold OpnPost
    rw [HR.out]
    exact ⟨rfl, HB.out _ _ _ _ _⟩
  have k8 := opn_not h8
  by_cases h9 : L s = [46, 98, 121, 116, 101]
  · have HR := hid (show opnP (L s) = some ⟨4, 0, 0, 0, 1⟩ by rw [h9]; rfl)
    have k9 := opn_is h9
    clear h9
    go_enter Tryz.func72, Tryz.ntmps72
    go_wp2
    refine bodyPost_ret (v := .tuple #[opnV ⟨4, 0, 0, 0, 1⟩, .bool true]) (by simp [results, Tryz.results72, go_sem, opnV]) rfl ?_
    unfold OpnPost
    rw [HR.out]
    exact ⟨rfl, HB.out _ _ _ _ _⟩
  have k9 := opn_not h9
  by_cases h10 : L s = [46, 119, 111, 114, 100]
  · have HR := hid (show opnP (L s) = some ⟨4, 0, 0, 0, 2⟩ by rw [h10]; rfl)
    have k10 := opn_is h10
    clear h10
    go_enter Tryz.func72, Tryz.ntmps72
    go_wp2
    refine bodyPost_ret (v := .tuple #[opnV ⟨4, 0, 0, 0, 2⟩, .bool true]) (by simp [results, Tryz.results72, go_sem, opnV]) rfl ?_
    unfold OpnPost
    rw [HR.out]
    exact ⟨rfl, HB.out _ _ _ _ _⟩
  have k10 := opn_not h10
  by_cases h11 : L s = [46, 115, 112, 97, 99, 101]
  · have HR := hid (show opnP (L s) = some ⟨5, 0, 0, 0, 0⟩ by rw [h11]; rfl)
    have k11 := opn_is h11
    clear h11
    go_enter Tryz.func72, Tryz.ntmps72
    go_wp2
    refine bodyPost_ret (v := .tuple #[opnV ⟨5, 0, 0, 0, 0⟩, .bool true]) (by simp [results, Tryz.results72, go_sem, opnV]) rfl ?_
    unfold OpnPost
    rw [HR.out]
    exact ⟨rfl, HB.out _ _ _ _ _⟩
  have k11 := opn_not h11
  by_cases h12 : L s = [46, 97, 108, 105, 103, 110]
  · have HR := hid (show opnP (L s) = some ⟨6, 0, 0, 0, 0⟩ by rw [h12]; rfl)
    have k12 := opn_is h12
    clear h12
    go_enter Tryz.func72, Tryz.ntmps72
    go_wp2
    refine bodyPost_ret (v := .tuple #[opnV ⟨6, 0, 0, 0, 0⟩, .bool true]) (by simp [results, Tryz.results72, go_sem, opnV]) rfl ?_
    unfold OpnPost
    rw [HR.out]
    exact ⟨rfl, HB.out _ _ _ _ _⟩
  have k12 := opn_not h12
  have HR := hid (show opnP (L s) = none by unfold opnP oNop oRet oMov oAdd oSub oLoad oCall oJmp oJz oByte oWord oSpace oAlign; simp only [h0, h1, h2, h3, h4, h5, h6, h7, h8, h9, h10, h11, h12, if_false])
  clear h0 h1 h2 h3 h4 h5 h6 h7 h8 h9 h10 h11 h12
  go_enter Tryz.func72, Tryz.ntmps72
  go_wp2
  refine bodyPost_ret (v := .tuple #[opnV noOpn, .bool false]) (by simp [results, Tryz.results72, go_sem, opnV, noOpn]) rfl ?_
  unfold OpnPost
  rw [HR.out]
  exact ⟨rfl, HB.out _ _ _ _ _⟩

end Go.Proofs.YtcepppilgncdmaaGreatDoor
