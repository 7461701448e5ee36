/-
  What an assembly holds in memory (package assemble).
  What an assembly holds, behind one thing more (package assemble).
-/
import Derived.Test.YtcepppilgncdmaaGreatDoorBS18
import Derived.Test.YtcepppilgncdmaaGreatDoorBS02
import Derived.Test.YtcepppilgncdmaaGreatDoorBS19
namespace Go.Proofs.YtcepppilgncdmaaGreatDoor
open Go.RowKit

theorem lnCells_lines (outs : List (ByteArray × Nat)) : lnCells (outs.map fun x => ⟨x.1, x.2, 0, 0⟩) = lineCells outs := by
  induction outs with
  | nil => rfl
  | cons x r ih => simp [lnCells, lineCells, ih]
theorem nameCells_set (l : List (ByteArray × Int)) (i : Nat) (h : i < l.length) (z : Int) : (nameCells l).set (i * 2 + 1) (.int .i64 z) = nameCells (l.set i (l[i].1, z)) := by
  induction l generalizing i with
  | nil => simp at h
  | cons x r ih =>
    cases i with
    | zero => simp [nameCells]
    | succ i =>
      have := ih i (by simpa using h)
      simp only [nameCells, show (i + 1) * 2 + 1 = (i * 2 + 1) + 1 + 1 from by omega, List.set_cons_succ, List.getElem_cons_succ, this]

def byCells (bs : List UInt8) : List Value := bs.map fun b => .int .u8 (b.toNat : Nat)
theorem byCells_append (a b : List UInt8) : byCells (a ++ b) = byCells a ++ byCells b := by simp [byCells]

/-- Types of what an assembly holds. -/
def aT (t : TypeId) : Bool := t == 83 || t == 113 || t == 40 || t == 38 || t == 5
abbrev FrA := FrE aT
/-- Those of them that putting bytes may turn. -/
def bT (t : TypeId) : Bool := t == 83 || t == 5
abbrev FrB := FrE bT
theorem FrB.refl (B : Nat) (w : World) : FrB B [] w w := FrE.refl _ _ _ _
theorem FrB.of_below {B : Nat} {w w' : World} (h : Below w.heap.size w w') : FrB B [] w w' := FrE.of_below h
theorem FrB.toA {B : Nat} {w w' : World} (h : FrB B [] w w') : FrA B [] w w' :=
  ⟨h.os, h.tape, h.output, h.size, fun k o ho hk => h.block k o ho (hk.imp id fun hm => by
    cases o with
    | cells cur t fz =>
      simp only [keptO, Bool.and_eq_true, Bool.not_eq_true'] at hm ⊢
      refine ⟨?_, hm.2⟩
      have h1 := hm.1
      unfold aT at h1
      unfold bT
      simp only [Bool.or_eq_false_iff] at h1 ⊢
      exact ⟨h1.1.1.1.1, h1.2⟩
    | _ => rfl)⟩
theorem FrA.refl (B : Nat) (w : World) : FrA B [] w w := FrE.refl _ _ _ _
theorem FrA.of_below {B : Nat} {w w' : World} (h : Below w.heap.size w w') : FrA B [] w w' := FrE.of_below h
/-- Those that taking lines in may turn. -/
def nT (t : TypeId) : Bool := t == 83 || t == 113 || t == 40
abbrev FrN := FrE nT
theorem FrN.refl (B : Nat) (w : World) : FrN B [] w w := FrE.refl _ _ _ _
theorem FrN.of_below {B : Nat} {w w' : World} (h : Below w.heap.size w w') : FrN B [] w w' := FrE.of_below h
theorem FrN.toA {B : Nat} {w w' : World} (h : FrN B [] w w') : FrA B [] w w' :=
  ⟨h.os, h.tape, h.output, h.size, fun k o ho hk => h.block k o ho (hk.imp id fun hm => by
    cases o with
    | cells cur t fz =>
      simp only [keptO, Bool.and_eq_true, Bool.not_eq_true'] at hm ⊢
      refine ⟨?_, hm.2⟩
      have h1 := hm.1
      unfold aT at h1
      unfold nT
      simp only [Bool.or_eq_false_iff] at h1 ⊢
      exact h1.1.1
    | _ => rfl)⟩
theorem StrV.frn {B C : Nat} {w w' : World} {v : Value} {ss : List ByteArray} (h : StrV w C v ss) (hf : FrN B [] w w') : StrV w' C v ss := h.frE hf rfl
theorem StrV.frb {B C : Nat} {w w' : World} {v : Value} {ss : List ByteArray} (h : StrV w C v ss) (hf : FrB B [] w w') : StrV w' C v ss := h.frE hf rfl
theorem StrV.fra {B C : Nat} {w w' : World} {v : Value} {ss : List ByteArray} (h : StrV w C v ss) (hf : FrA B [] w w') : StrV w' C v ss := h.frE hf rfl

/-- What an assembly holds: lines, statements, names, names of .set, the size, the bytes. -/
structure AsmAt (w : World) (B ba : Nat) (vl vs vn vt vb : Value) (ls : List LnV) (ss : List StV) (ns ts : List (ByteArray × Int)) (sz : Nat) (bs : List UInt8) : Prop where
  row : RowT w 83 ba [vl, vs, vn, vt, .int .i64 (sz : Nat), vb]
  at_ : B ≤ ba
  lown : w.ownsRow B 38 4 vl ls.length (lnCells ls)
  sown : w.ownsRow B 113 11 vs ss.length (stCells ss)
  nown : w.ownsRow B 40 2 vn ns.length (nameCells ns)
  town : w.ownsRow B 40 2 vt ts.length (nameCells ts)
  bown : w.ownsRow B 5 1 vb bs.length (byCells bs)
  apart : ∀ g, vn.ownBlock = some g → vt.ownBlock ≠ some g
  strs : ∀ x ∈ ss, StrV w 0 x.v x.es
theorem AsmAt.below {w w' : World} {B ba : Nat} {vl vs vn vt vb : Value} {ls : List LnV} {ss : List StV} {ns ts : List (ByteArray × Int)} {sz : Nat} {bs : List UInt8} (h : AsmAt w B ba vl vs vn vt vb ls ss ns ts sz bs) (hb : Below w.heap.size w w') : AsmAt w' B ba vl vs vn vt vb ls ss ns ts sz bs :=
  ⟨h.row.below hb, h.at_, ownsRow_belowP h.lown hb, ownsRow_belowP h.sown hb, ownsRow_belowP h.nown hb, ownsRow_belowP h.town hb, ownsRow_belowP h.bown hb, h.apart, fun x hx => (h.strs x hx).below hb⟩
theorem own_names {w : World} {B : Nat} {v : Value} {ns : List (ByteArray × Int)} (h : w.ownsRow B 40 2 v ns.length (nameCells ns)) : ∃ a cap, v = .slice a ns.length cap ∧ NamesAt w a ns := by
  rcases h.2 with ⟨rfl, h0⟩ | ⟨g, cap, cur, rfl, hb, hg, _⟩
  · exact ⟨none, 0, by rw [h0], Or.inl (List.eq_nil_of_length_eq_zero h0)⟩
  · refine ⟨_, cap, rfl, Or.inr ⟨g, 0, rfl, (Array.getElem?_eq_some_iff.1 hg).1, fun i hi => ?_⟩⟩
    have h1 := h.cellAt (i * 2) (by omega)
    have h2 := h.cellAt (i * 2 + 1) (by omega)
    rw [(nameCells_at ns i hi).1] at h1
    rw [(nameCells_at ns i hi).2] at h2
    rw [Nat.zero_add]
    exact ⟨h1, h2⟩
/-- Rows of another type, or other rows, stay where one row grows. -/
theorem own_keep {w w4 : World} {B C e f size m n k : Nat} {v u : Value} {xs ys : List Value} (h : w.ownsRow B e size v n xs) (hu : w.ownsRow C f m u k ys) (hg : w.grownBy w4 u.ownBlock) (ht : e ≠ f) : w4.ownsRow B e size v n xs :=
  h.kept hg (by
    cases hv : v.ownBlock with
    | none => exact Or.inl rfl
    | some g => exact Or.inr (fun e1 => own_own_ne h hu ht (g := g) (by rw [← e1]) hv))
theorem own_keepN {w w4 : World} {B size n : Nat} {e : Nat} {v u : Value} {xs : List Value} (h : w.ownsRow B e size v n xs) (hg : w.grownBy w4 u.ownBlock) (ht : ∀ g, v.ownBlock = some g → u.ownBlock ≠ some g) : w4.ownsRow B e size v n xs :=
  h.kept hg (by
    cases hv : v.ownBlock with
    | none => exact Or.inl rfl
    | some g => exact Or.inr (fun e1 => ht g hv (by rw [← e1])))

theorem info_stm : (Tryz.prog.info? 113).map (fun i => (i.zero, i.size, i.bytes)) = some (some (.agg #[.int .i64 0, .int .i64 0, .int .i64 0, .int .i64 0, .int .i64 0, .int .i64 0, .bool false, .int .i64 0, .slice none 0 0, .int .i64 0, .bool false]), 11, 104) := by kernel_rfl
theorem info_by : (Tryz.prog.info? 5).map (fun i => (i.zero, i.size, i.bytes)) = some (some (.int .u8 0), 1, 1) := by kernel_rfl

end Go.Proofs.YtcepppilgncdmaaGreatDoor

namespace Go.Proofs.YtcepppilgncdmaaGreatDoor
open Go.RowKit

theorem own_ltA {w : World} {b e s n p : Nat} {v : Value} {xs : List Value} (h : w.ownsRow b e s v n xs) (hp : v.ownBlock = some p) : p < w.heap.size := by
  rcases h.2 with ⟨rfl, _⟩ | ⟨g', cap', cur, rfl, _, hh, _⟩
  · cases hp
  · simp only [Value.ownBlock, Option.some.injEq] at hp
    subst hp
    exact (Array.getElem?_eq_some_iff.1 hh).1

theorem AsmAt.stm {w w4 : World} {B ba : Nat} {vl vs vn vt vb : Value} {ls : List LnV} {ss : List StV} {ns ts : List (ByteArray × Int)} {sz : Nat} {bs : List UInt8} (h : AsmAt w B ba vl vs vn vt vb ls ss ns ts sz bs) (hg : w.grownBy w4 vs.ownBlock) {gg cap : Nat} {x : StV} (hx : StrV w 0 x.v x.es)
    (ho : w4.ownsRow B 113 11 (.slice (some ⟨gg, 0, none⟩) (ss.length + 1) cap) (ss.length + 1) (stCells ss ++ stOne x)) :
    AsmAt (w4.setCell ⟨ba, 1, none⟩ (.slice (some ⟨gg, 0, none⟩) (ss.length + 1) cap)) B ba vl (.slice (some ⟨gg, 0, none⟩) (ss.length + 1) cap) vn vt vb ls (ss ++ [x]) ns ts sz bs ∧
    FrN B [] w (w4.setCell ⟨ba, 1, none⟩ (.slice (some ⟨gg, 0, none⟩) (ss.length + 1) cap)) := by
  have hne : vs.ownBlock ≠ some ba := own_row_ne h.sown h.row (by decide)
  have hr4 : RowT w4 83 ba [vl, vs, vn, vt, .int .i64 (sz : Nat), vb] := RowT.grown' h.row hg (Ne.symm hne)
  have kl := own_keep h.lown h.sown hg (by decide)
  have kn := own_keep h.nown h.sown hg (by decide)
  have kt := own_keep h.town h.sown hg (by decide)
  have kb := own_keep h.bown h.sown hg (by decide)
  have hf4 : FrN B [] w w4 := (FrN.refl B w).grown hg (own_may h.sown (fun _ _ => Or.inl rfl))
  have hf5 := hf4.setCell (p := ⟨ba, 1, none⟩) (hr4.may h.at_ (Or.inl rfl)) (.slice (some ⟨gg, 0, none⟩) (ss.length + 1) cap)
  refine ⟨⟨hr4.set 1 _, h.at_, ownsRow_setCell_other kl (a := ⟨ba, 1, none⟩) (own_row_ne kl hr4 (by decide)) _, ?_, ownsRow_setCell_other kn (a := ⟨ba, 1, none⟩) (own_row_ne kn hr4 (by decide)) _, ownsRow_setCell_other kt (a := ⟨ba, 1, none⟩) (own_row_ne kt hr4 (by decide)) _, ownsRow_setCell_other kb (a := ⟨ba, 1, none⟩) (own_row_ne kb hr4 (by decide)) _, h.apart, ?_⟩, hf5⟩
  · rw [stCells_append, stCells_one, List.length_append]
    exact ownsRow_setCell_other ho (a := ⟨ba, 1, none⟩) (own_row_ne ho hr4 (by decide)) _
  · intro y hy
    rcases List.mem_append.1 hy with hy | hy
    · exact (h.strs y hy).frn hf5
    · rw [List.mem_singleton] at hy
      rw [hy]
      exact hx.frn hf5

theorem AsmAt.name {w w4 : World} {B ba : Nat} {vl vs vn vt vb : Value} {ls : List LnV} {ss : List StV} {ns ts : List (ByteArray × Int)} {sz : Nat} {bs : List UInt8} (h : AsmAt w B ba vl vs vn vt vb ls ss ns ts sz bs) (hg : w.grownBy w4 vn.ownBlock) {gg cap : Nat} {t : ByteArray} {z : Int} (hat : vn.ownBlock = some gg ∨ gg = w.heap.size)
    (ho : w4.ownsRow B 40 2 (.slice (some ⟨gg, 0, none⟩) (ns.length + 1) cap) (ns.length + 1) (nameCells ns ++ [.string t, .int .i64 z])) :
    AsmAt (w4.setCell ⟨ba, 2, none⟩ (.slice (some ⟨gg, 0, none⟩) (ns.length + 1) cap)) B ba vl vs (.slice (some ⟨gg, 0, none⟩) (ns.length + 1) cap) vt vb ls ss (ns ++ [(t, z)]) ts sz bs ∧
    FrN B [] w (w4.setCell ⟨ba, 2, none⟩ (.slice (some ⟨gg, 0, none⟩) (ns.length + 1) cap)) := by
  have hne : vn.ownBlock ≠ some ba := own_row_ne h.nown h.row (by decide)
  have hr4 : RowT w4 83 ba [vl, vs, vn, vt, .int .i64 (sz : Nat), vb] := RowT.grown' h.row hg (Ne.symm hne)
  have kl := own_keep h.lown h.nown hg (by decide)
  have ks := own_keep h.sown h.nown hg (by decide)
  have kt := own_keepN h.town hg (fun g h1 h2 => h.apart g h2 h1)
  have kb := own_keep h.bown h.nown hg (by decide)
  have hf4 : FrN B [] w w4 := (FrN.refl B w).grown hg (own_may h.nown (fun _ _ => Or.inl rfl))
  have hf5 := hf4.setCell (p := ⟨ba, 2, none⟩) (hr4.may h.at_ (Or.inl rfl)) (.slice (some ⟨gg, 0, none⟩) (ns.length + 1) cap)
  refine ⟨⟨hr4.set 2 _, h.at_, ownsRow_setCell_other kl (a := ⟨ba, 2, none⟩) (own_row_ne kl hr4 (by decide)) _, ownsRow_setCell_other ks (a := ⟨ba, 2, none⟩) (own_row_ne ks hr4 (by decide)) _, ?_, ownsRow_setCell_other kt (a := ⟨ba, 2, none⟩) (own_row_ne kt hr4 (by decide)) _, ownsRow_setCell_other kb (a := ⟨ba, 2, none⟩) (own_row_ne kb hr4 (by decide)) _, ?_, fun x hx => (h.strs x hx).frn hf5⟩, hf5⟩
  · rw [nameCells_append, List.length_append]
    exact ownsRow_setCell_other ho (a := ⟨ba, 2, none⟩) (own_row_ne ho hr4 (by decide)) _
  · intro g h1 h2
    simp only [Value.ownBlock, Option.some.injEq] at h1
    subst h1
    rcases hat with h3 | h3
    · exact h.apart _ h3 h2
    · have := own_ltA h.town h2
      omega

theorem AsmAt.set {w w4 : World} {B ba : Nat} {vl vs vn vt vb : Value} {ls : List LnV} {ss : List StV} {ns ts : List (ByteArray × Int)} {sz : Nat} {bs : List UInt8} (h : AsmAt w B ba vl vs vn vt vb ls ss ns ts sz bs) (hg : w.grownBy w4 vt.ownBlock) {gg cap : Nat} {t : ByteArray} {z : Int} (hat : vt.ownBlock = some gg ∨ gg = w.heap.size)
    (ho : w4.ownsRow B 40 2 (.slice (some ⟨gg, 0, none⟩) (ts.length + 1) cap) (ts.length + 1) (nameCells ts ++ [.string t, .int .i64 z])) :
    AsmAt (w4.setCell ⟨ba, 3, none⟩ (.slice (some ⟨gg, 0, none⟩) (ts.length + 1) cap)) B ba vl vs vn (.slice (some ⟨gg, 0, none⟩) (ts.length + 1) cap) vb ls ss ns (ts ++ [(t, z)]) sz bs ∧
    FrN B [] w (w4.setCell ⟨ba, 3, none⟩ (.slice (some ⟨gg, 0, none⟩) (ts.length + 1) cap)) := by
  have hne : vt.ownBlock ≠ some ba := own_row_ne h.town h.row (by decide)
  have hr4 : RowT w4 83 ba [vl, vs, vn, vt, .int .i64 (sz : Nat), vb] := RowT.grown' h.row hg (Ne.symm hne)
  have kl := own_keep h.lown h.town hg (by decide)
  have ks := own_keep h.sown h.town hg (by decide)
  have kn := own_keepN h.nown hg h.apart
  have kb := own_keep h.bown h.town hg (by decide)
  have hf4 : FrN B [] w w4 := (FrN.refl B w).grown hg (own_may h.town (fun _ _ => Or.inl rfl))
  have hf5 := hf4.setCell (p := ⟨ba, 3, none⟩) (hr4.may h.at_ (Or.inl rfl)) (.slice (some ⟨gg, 0, none⟩) (ts.length + 1) cap)
  refine ⟨⟨hr4.set 3 _, h.at_, ownsRow_setCell_other kl (a := ⟨ba, 3, none⟩) (own_row_ne kl hr4 (by decide)) _, ownsRow_setCell_other ks (a := ⟨ba, 3, none⟩) (own_row_ne ks hr4 (by decide)) _, ownsRow_setCell_other kn (a := ⟨ba, 3, none⟩) (own_row_ne kn hr4 (by decide)) _, ?_, ownsRow_setCell_other kb (a := ⟨ba, 3, none⟩) (own_row_ne kb hr4 (by decide)) _, ?_, fun x hx => (h.strs x hx).frn hf5⟩, hf5⟩
  · rw [nameCells_append, List.length_append]
    exact ownsRow_setCell_other ho (a := ⟨ba, 3, none⟩) (own_row_ne ho hr4 (by decide)) _
  · intro g h1 h2
    simp only [Value.ownBlock, Option.some.injEq] at h2
    subst h2
    rcases hat with h3 | h3
    · exact h.apart _ h1 h3
    · have := own_ltA h.nown h1
      omega

theorem AsmAt.bytes {w w4 : World} {B ba : Nat} {vl vs vn vt vb : Value} {ls : List LnV} {ss : List StV} {ns ts : List (ByteArray × Int)} {sz : Nat} {bs : List UInt8} (h : AsmAt w B ba vl vs vn vt vb ls ss ns ts sz bs) (hg : w.grownBy w4 vb.ownBlock) {nv : Value} {more : List UInt8}
    (ho : w4.ownsRow B 5 1 nv (bs.length + more.length) (byCells bs ++ byCells more)) :
    AsmAt (w4.setCell ⟨ba, 5, none⟩ nv) B ba vl vs vn vt nv ls ss ns ts sz (bs ++ more) ∧
    FrB B [] w (w4.setCell ⟨ba, 5, none⟩ nv) := by
  have hne : vb.ownBlock ≠ some ba := own_row_ne h.bown h.row (by decide)
  have hr4 : RowT w4 83 ba [vl, vs, vn, vt, .int .i64 (sz : Nat), vb] := RowT.grown' h.row hg (Ne.symm hne)
  have kl := own_keep h.lown h.bown hg (by decide)
  have ks := own_keep h.sown h.bown hg (by decide)
  have kn := own_keep h.nown h.bown hg (by decide)
  have kt := own_keep h.town h.bown hg (by decide)
  have hf4 : FrB B [] w w4 := (FrB.refl B w).grown hg (own_may h.bown (fun _ _ => Or.inl rfl))
  have hf5 := hf4.setCell (p := ⟨ba, 5, none⟩) (hr4.may h.at_ (Or.inl rfl)) nv
  refine ⟨⟨hr4.set 5 _, h.at_, ownsRow_setCell_other kl (a := ⟨ba, 5, none⟩) (own_row_ne kl hr4 (by decide)) _, ownsRow_setCell_other ks (a := ⟨ba, 5, none⟩) (own_row_ne ks hr4 (by decide)) _, ownsRow_setCell_other kn (a := ⟨ba, 5, none⟩) (own_row_ne kn hr4 (by decide)) _, ownsRow_setCell_other kt (a := ⟨ba, 5, none⟩) (own_row_ne kt hr4 (by decide)) _, ?_, h.apart, fun x hx => (h.strs x hx).frb hf5⟩, hf5⟩
  · rw [byCells_append, List.length_append]
    exact ownsRow_setCell_other ho (a := ⟨ba, 5, none⟩) (own_row_ne ho hr4 (by decide)) _

end Go.Proofs.YtcepppilgncdmaaGreatDoor
