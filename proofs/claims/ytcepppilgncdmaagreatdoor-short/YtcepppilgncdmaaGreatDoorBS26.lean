/-
  What an assembly holds, behind one thing that was written over (package assemble).
-/
import Derived.Test.YtcepppilgncdmaaGreatDoorBS20
namespace Go.Proofs.YtcepppilgncdmaaGreatDoor
open Go.RowKit

theorem own_setA {w : World} {base e size g n cap : Nat} {xs : List Value} (h : w.ownsRow base e size (.slice (some ⟨g, 0, none⟩) n cap) n xs) (j : Nat) (u : Value) : (w.setCell ⟨g, j, none⟩ u).ownsRow base e size (.slice (some ⟨g, 0, none⟩) n cap) n (xs.set j u) := by
  rcases h with ⟨hl, ⟨h0, _⟩ | ⟨g', cap', cur, hv, hb, hh, hn, hc, hs, ht⟩⟩
  · cases h0
  · cases hv
    refine ⟨by simp [hl], Or.inr ⟨g, cap, cur.setIfInBounds j u, rfl, hb, ?_, hn, hc, by simp [hs], ?_⟩⟩
    · exact heap_setCell_same w g j cur e u hh
    · rw [← ht]
      simp [List.take_set]
theorem own_free {w : World} {B e size g m n cap o : Nat} {xs : List Value} (h : w.ownsRow B e size (.slice (some ⟨g, 0, none⟩) m cap) n xs) : w.frozen? ⟨g, o, none⟩ = false := by
  rcases h.2 with ⟨h0, _⟩ | ⟨g', cap', cur, hv, _, hh, _⟩
  · cases h0
  · injection hv with h1 _ _
    injection h1 with h1
    injection h1 with h1 _
    subst h1
    simp [World.frozen?, hh]
theorem set_next (w : World) (g a b : Nat) (u : Value) (h : a ≠ b) : (w.setCell ⟨g, a, none⟩ u).cell? ⟨g, b, none⟩ = w.cell? ⟨g, b, none⟩ := by
  apply World.cell?_setCell_other
  intro e
  injection e with _ e
  exact h e
theorem may_set {B e g : Nat} {w : World} {size n cap : Nat} {xs : List Value} (h : w.ownsRow B e size (.slice (some ⟨g, 0, none⟩) n cap) n xs) (he : aT e = true) : MayT aT B [] w g := own_may h (fun _ _ => Or.inl he) g rfl
theorem RowT.setO {w : World} {t g b j : Nat} {xs : List Value} {u : Value} (h : RowT w t g xs) (hb : g ≠ b) : RowT (w.setCell ⟨b, j, none⟩ u) t g xs := h.other b j hb u

section
variable {w : World} {B ba : Nat} {vl vs vn vt vb : Value} {ls : List LnV} {ss : List StV} {ns ts : List (ByteArray × Int)} {sz : Nat} {bs : List UInt8}
theorem AsmAt.nameV {g cap : Nat} (h : AsmAt w B ba vl vs (.slice (some ⟨g, 0, none⟩) ns.length cap) vt vb ls ss ns ts sz bs) (k : Nat) (hk : k < ns.length) (z : Int) :
    AsmAt (w.setCell ⟨g, k * 2 + 1, none⟩ (.int .i64 z)) B ba vl vs (.slice (some ⟨g, 0, none⟩) ns.length cap) vt vb ls ss (ns.set k (ns[k].1, z)) ts sz bs ∧ FrA B [] w (w.setCell ⟨g, k * 2 + 1, none⟩ (.int .i64 z)) := by
  have hf := (FrA.refl B w).setCell (p := ⟨g, k * 2 + 1, none⟩) (may_set h.nown rfl) (.int .i64 z)
  have hba : ba ≠ g := fun e => own_row_ne h.nown h.row (by decide) (by rw [e]; rfl)
  refine ⟨⟨h.row.setO hba, h.at_, ownsRow_setCell_other h.lown (a := ⟨g, k * 2 + 1, none⟩) (own_own_ne h.lown h.nown (by decide) rfl) _, ownsRow_setCell_other h.sown (a := ⟨g, k * 2 + 1, none⟩) (own_own_ne h.sown h.nown (by decide) rfl) _, ?_, ownsRow_setCell_other h.town (a := ⟨g, k * 2 + 1, none⟩) (h.apart g rfl) _, ownsRow_setCell_other h.bown (a := ⟨g, k * 2 + 1, none⟩) (own_own_ne h.bown h.nown (by decide) rfl) _, h.apart, fun x hx => (h.strs x hx).fra hf⟩, hf⟩
  have := own_setA h.nown (k * 2 + 1) (.int .i64 z)
  rw [nameCells_set ns k hk z] at this
  rw [List.length_set]
  exact this
theorem AsmAt.lineV {g cap : Nat} (h : AsmAt w B ba (.slice (some ⟨g, 0, none⟩) ls.length cap) vs vn vt vb ls ss ns ts sz bs) (k : Nat) (hk : k < ls.length) (a z : Nat) :
    AsmAt ((w.setCell ⟨g, k * 4 + 2, none⟩ (.int .i64 (a : Nat))).setCell ⟨g, k * 4 + 3, none⟩ (.int .i64 (z : Nat))) B ba (.slice (some ⟨g, 0, none⟩) ls.length cap) vs vn vt vb (ls.set k ⟨ls[k].t, ls[k].frm, a, z⟩) ss ns ts sz bs ∧ FrA B [] w ((w.setCell ⟨g, k * 4 + 2, none⟩ (.int .i64 (a : Nat))).setCell ⟨g, k * 4 + 3, none⟩ (.int .i64 (z : Nat))) := by
  have h1 := own_setA h.lown (k * 4 + 2) (.int .i64 (a : Nat))
  have h2 := own_setA h1 (k * 4 + 3) (.int .i64 (z : Nat))
  have hf1 := (FrA.refl B w).setCell (p := ⟨g, k * 4 + 2, none⟩) (may_set h.lown rfl) (.int .i64 (a : Nat))
  have hf := hf1.setCell (p := ⟨g, k * 4 + 3, none⟩) (may_set h1 rfl) (.int .i64 (z : Nat))
  have hba : ba ≠ g := fun e => own_row_ne h.lown h.row (by decide) (by rw [e]; rfl)
  refine ⟨⟨(h.row.setO hba).setO hba, h.at_, ?_, ?_, ?_, ?_, ?_, h.apart, fun x hx => (h.strs x hx).fra hf⟩, hf⟩
  · rw [lnCells_set ls k hk a z] at h2
    rw [List.length_set]
    exact h2
  · exact ownsRow_setCell_other (ownsRow_setCell_other h.sown (a := ⟨g, k * 4 + 2, none⟩) (own_own_ne h.sown h.lown (by decide) rfl) _) (a := ⟨g, k * 4 + 3, none⟩) (own_own_ne h.sown h.lown (by decide) rfl) _
  · exact ownsRow_setCell_other (ownsRow_setCell_other h.nown (a := ⟨g, k * 4 + 2, none⟩) (own_own_ne h.nown h.lown (by decide) rfl) _) (a := ⟨g, k * 4 + 3, none⟩) (own_own_ne h.nown h.lown (by decide) rfl) _
  · exact ownsRow_setCell_other (ownsRow_setCell_other h.town (a := ⟨g, k * 4 + 2, none⟩) (own_own_ne h.town h.lown (by decide) rfl) _) (a := ⟨g, k * 4 + 3, none⟩) (own_own_ne h.town h.lown (by decide) rfl) _
  · exact ownsRow_setCell_other (ownsRow_setCell_other h.bown (a := ⟨g, k * 4 + 2, none⟩) (own_own_ne h.bown h.lown (by decide) rfl) _) (a := ⟨g, k * 4 + 3, none⟩) (own_own_ne h.bown h.lown (by decide) rfl) _
theorem AsmAt.sized (h : AsmAt w B ba vl vs vn vt vb ls ss ns ts sz bs) (z : Nat) :
    AsmAt (w.setCell ⟨ba, 4, none⟩ (.int .i64 (z : Nat))) B ba vl vs vn vt vb ls ss ns ts z bs ∧ FrA B [] w (w.setCell ⟨ba, 4, none⟩ (.int .i64 (z : Nat))) := by
  have hf := (FrA.refl B w).setCell (p := ⟨ba, 4, none⟩) (h.row.may h.at_ (Or.inl rfl)) (.int .i64 (z : Nat))
  exact ⟨⟨h.row.set 4 _, h.at_, ownsRow_setCell_other h.lown (a := ⟨ba, 4, none⟩) (own_row_ne h.lown h.row (by decide)) _, ownsRow_setCell_other h.sown (a := ⟨ba, 4, none⟩) (own_row_ne h.sown h.row (by decide)) _, ownsRow_setCell_other h.nown (a := ⟨ba, 4, none⟩) (own_row_ne h.nown h.row (by decide)) _, ownsRow_setCell_other h.town (a := ⟨ba, 4, none⟩) (own_row_ne h.town h.row (by decide)) _, ownsRow_setCell_other h.bown (a := ⟨ba, 4, none⟩) (own_row_ne h.bown h.row (by decide)) _, h.apart, fun x hx => (h.strs x hx).fra hf⟩, hf⟩
theorem AsmAt.longV {g cap : Nat} (h : AsmAt w B ba vl (.slice (some ⟨g, 0, none⟩) ss.length cap) vn vt vb ls ss ns ts sz bs) (k : Nat) (hk : k < ss.length) :
    AsmAt (w.setCell ⟨g, k * 11 + 10, none⟩ (.bool true)) B ba vl (.slice (some ⟨g, 0, none⟩) ss.length cap) vn vt vb ls (ss.set k { ss[k] with long := true }) ns ts sz bs ∧ FrA B [] w (w.setCell ⟨g, k * 11 + 10, none⟩ (.bool true)) := by
  have hf := (FrA.refl B w).setCell (p := ⟨g, k * 11 + 10, none⟩) (may_set h.sown rfl) (.bool true)
  have hba : ba ≠ g := fun e => own_row_ne h.sown h.row (by decide) (by rw [e]; rfl)
  refine ⟨⟨h.row.setO hba, h.at_, ownsRow_setCell_other h.lown (a := ⟨g, k * 11 + 10, none⟩) (own_own_ne h.lown h.sown (by decide) rfl) _, ?_, ownsRow_setCell_other h.nown (a := ⟨g, k * 11 + 10, none⟩) (own_own_ne h.nown h.sown (by decide) rfl) _, ownsRow_setCell_other h.town (a := ⟨g, k * 11 + 10, none⟩) (own_own_ne h.town h.sown (by decide) rfl) _, ownsRow_setCell_other h.bown (a := ⟨g, k * 11 + 10, none⟩) (own_own_ne h.bown h.sown (by decide) rfl) _, h.apart, fun x hx => ?_⟩, hf⟩
  · have := own_setA h.sown (k * 11 + 10) (.bool true)
    rw [stCells_set ss k hk true] at this
    rw [List.length_set]
    exact this
  · rcases List.mem_or_eq_of_mem_set hx with hx | hx
    · exact (h.strs x hx).fra hf
    · rw [hx]
      exact (h.strs ss[k] (List.getElem_mem hk)).fra hf
end
end Go.Proofs.YtcepppilgncdmaaGreatDoor
