/-
  What the document's own 'read' and 'Expand' (package masonref) answer: for every text, what the plain function says.
-/
import Derived.Test.YtcepppilgncdmaaGreatDoorQLines
import Derived.Test.YtcepppilgncdmaaGreatDoorPTop
namespace Go.Proofs.YtcepppilgncdmaaGreatDoor
open Go.RowKit
attribute [local go_sem ↓] Go.wp_at_zero Go.wp_at_succ

/-- What read answers: a reader that holds an error, or all lines that are left. -/
def ReadRPost (s : ByteArray) (w : World) (e : Ending) (w' : World) : Prop := Below w.heap.size w w' ∧ ∃ r, w.heap.size ≤ r ∧ e = .returned (.pointer (some ⟨r, 0, none⟩)) ∧
  (((expandP (L s)).1 ≠ 0 ∧ (expandP (L s)).2.2 = [] ∧ RdErr w' r (expandP (L s)).1 (expandP (L s)).2.1) ∨ ((expandP (L s)).1 = 0 ∧ (expandP (L s)).2.1 = 0 ∧ ∃ st, RdSt w' w.heap.size r st ∧ (expandP (L s)).2.2 = st.out))
/-- What Expand of the document's own package answers. -/
def RExpandPost (r : Int × Nat × List (List UInt8 × Nat)) (w : World) (e : Ending) (w' : World) : Prop :=
  Below w.heap.size w w' ∧ ∃ vl outs, e = .returned (.tuple #[vl, .int .i64 r.1, .int .i64 (r.2.1 : Nat)]) ∧ (outs.map fun x : ByteArray × Nat => (L x.1, x.2)) = r.2.2 ∧ w'.ownsRow w.heap.size 38 4 vl outs.length (lineCells outs)

set_option maxRecDepth 100000 in
set_option maxHeartbeats 1600000 in
theorem read_any (s : ByteArray) (w : World) (hs : s.size ≤ maxLen) : Calls Tryz.prog 39 #[.string s] w (ReadRPost s w) := by
  unfold maxLen at hs
  have hb0 : Below w.heap.size w (w.alloc (.cells #[.slice none 0 0, .slice none 0 0, .slice none 0 0, .int .i64 0, .int .i64 0, .int .i64 0] 93)) := (Below.refl _ _).alloc (Nat.le_refl _) _
  have hrow : RowT (w.alloc (.cells #[.slice none 0 0, .slice none 0 0, .slice none 0 0, .int .i64 0, .int .i64 0, .int .i64 0] 93)) 93 w.heap.size [.slice none 0 0, .slice none 0 0, .slice none 0 0, .int .i64 0, .int .i64 0, .int .i64 0] := RowT.new w 93 [.slice none 0 0, .slice none 0 0, .slice none 0 0, .int .i64 0, .int .i64 0, .int .i64 0]
  have HX := hid (show RdAt (w.alloc (.cells #[.slice none 0 0, .slice none 0 0, .slice none 0 0, .int .i64 0, .int .i64 0, .int .i64 0] 93)) w.heap.size w.heap.size (.slice none 0 0) (.slice none 0 0) (.slice none 0 0) [] [] [] 0 from ⟨hrow, World.ownsRow_nil _ _ _ _, World.ownsRow_nil _ _ _ _, World.ownsRow_nil _ _ _ _, (fun m hm => by cases hm), Nat.le_refl _⟩)
  have HB := hid hb0
  obtain ⟨X, hX⟩ : ∃ X, expandP (L s) = X := ⟨_, rfl⟩
  have HXP := hid hX
  unfold expandP at hX
  rw [L_length] at hX
  clear hb0 hrow
  go_enter Tryz.func39, Tryz.ntmps39
  go_upto_region 2 with fail
  generalize w.alloc (.cells #[.slice none 0 0, .slice none 0 0, .slice none 0 0, .int .i64 0, .int .i64 0, .int .i64 0] 93) = w1 at HX HB ⊢
  by_cases h3 : 3000 < s.size
  · rw [if_pos h3] at hX
    have k3 : decide ((3000 : Int) < s.size) = true := by simp; omega
    have HXR := hid hX
    clear hX
    go_wp2_with (first | (go_at_call 60; refine (bad_any _ w.heap.size _ _ _ _ _ 1 0 HX.out.row).mono ?_; rintro e w2 ⟨rfl, rfl⟩))
    go_ret
    obtain ⟨p1, p2⟩ := bad_post (B := w.heap.size) (er := 1) (at_ := 0) HX.out.row (Nat.le_refl _)
    refine ⟨HB.out.trans (p1.below HB.out.size), w.heap.size, Nat.le_refl _, rfl, Or.inl ?_⟩
    rw [HXP.out, ← HXR.out]
    exact ⟨by decide, rfl, p2⟩
  · rw [if_neg h3] at hX
    have k3 : decide ((3000 : Int) < s.size) = false := by simp; omega
    go_wp2_with fail
    refine (lines_any s w1 (by omega)).mono ?_
    rintro e w2 ⟨hb2, hcase⟩
    have HX := hid (HX.out.below hb2)
    have HB := hid (HB.out.trans (hb2.mono HB.out.size))
    rcases hcase with ⟨hbad, rfl⟩ | ⟨hgood, lv, ls, rfl, hls, hst⟩
    · rw [if_pos hbad] at hX
      obtain ⟨bn, hbn⟩ : ∃ bn, badLine (splitB 10 (L s)) 1 = bn := ⟨_, rfl⟩
      rw [hbn] at hX hbad ⊢
      have hbp : 0 < bn := by omega
      have k5 : (0 : Int) < (bn : Int) := by omega
      have HXR := hid hX
      clear hX hb2 hbn hbad
      go_wp2_with (first | (go_at_call 60; refine (bad_any _ w.heap.size _ _ _ _ _ 1 bn HX.out.row).mono ?_; rintro e w3 ⟨rfl, rfl⟩))
      go_ret
      obtain ⟨p1, p2⟩ := bad_post (B := w.heap.size) (er := 1) (at_ := bn) HX.out.row (Nat.le_refl _)
      refine ⟨HB.out.trans (p1.below HB.out.size), w.heap.size, Nat.le_refl _, rfl, Or.inl ?_⟩
      rw [HXP.out, ← HXR.out]
      exact ⟨by simp, rfl, p2⟩
    · rw [if_neg (by simp [hgood])] at hX
      obtain ⟨la, lc, hlv⟩ := hst.form
      subst hlv
      have HXR := hid hX
      have HLS := hid hls
      have hlen : ls.length ≤ 3001 := by
        have h1 := congrArg List.length hls
        have h2 := splitB_len 10 (L s)
        rw [List.length_map] at h1
        rw [L_length] at h2
        omega
      have HSZ := hid (show ∀ j (h : j < ls.length), ls[j].size ≤ 100 from fun j h => by
        have h1 := badLine_ok (splitB 10 (L s)) 1 (by omega) hgood (L ls[j]) (by rw [← hls]; exact List.mem_map.2 ⟨_, List.getElem_mem h, rfl⟩)
        rw [L_length] at h1
        omega)
      have hb3 : Below w2.heap.size w2 (w2.alloc (.cells #[.slice la ls.length lc, .int .i64 0, .pointer none, .slice none 0 0, .int .i64 0, .slice none 0 0, .pointer none] 130)) := (Below.refl _ _).alloc (Nat.le_refl _) _
      have HX3 := hid (HX.out.below hb3)
      have HB3 := hid (HB.out.trans (hb3.mono HB.out.size))
      have HST3 := hid ((hst.mono (Nat.zero_le _)).below hb3)
      have HRX := hid (show RowT (w2.alloc (.cells #[.slice la ls.length lc, .int .i64 0, .pointer none, .slice none 0 0, .int .i64 0, .slice none 0 0, .pointer none] 130)) 130 w2.heap.size [.slice la ls.length lc, .int .i64 0, .pointer none, .slice none 0 0, .int .i64 0, .slice none 0 0, .pointer none] from RowT.new w2 130 [.slice la ls.length lc, .int .i64 0, .pointer none, .slice none 0 0, .int .i64 0, .slice none 0 0, .pointer none])
      have hBx : w.heap.size ≤ w2.heap.size := HB.out.size
      clear hX hb2 hb3 hls hst hgood HX HB
      go_upto_region 10 with fail
      generalize w2.alloc (.cells #[.slice la ls.length lc, .int .i64 0, .pointer none, .slice none 0 0, .int .i64 0, .slice none 0 0, .pointer none] 130) = w3 at HX3 HB3 HST3 HRX ⊢
      go_wp2_with fail
      refine (goesT_any w3 w.heap.size w2.heap.size w.heap.size _ _ ls HRX.out hBx ⟨_, _, _, _, _, _, _, HX3.out, rfl⟩ HST3.out hlen HSZ.out HB3.out.size).mono ?_
      rintro e w4 ⟨rfl, hb4, hok4, her4⟩
      have HB4 := hid (HB3.out.trans hb4)
      have HOK4 := hid hok4
      have HER4 := hid her4
      clear hb4 hok4 her4
      go_wp2_with fail
      go_ret
      refine ⟨HB4.out, w.heap.size, Nat.le_refl _, rfl, ?_⟩
      rw [HXP.out]
      have h5 := HOK4.out
      have h6 := HER4.out
      rw [HLS.out] at h5 h6
      have h7 := HXR.out
      by_cases h0 : (blockP (callN 8) none 1 (splitB 10 (L s)) 0 [] none noSt).1 = 0
      · rw [if_neg (by simp [h0])] at h7
        rw [← h7]
        exact Or.inr ⟨rfl, rfl, _, h5 h0, rfl⟩
      · rw [if_pos h0] at h7
        rw [← h7]
        exact Or.inl ⟨h0, rfl, h6 h0⟩

set_option maxRecDepth 100000 in
set_option maxHeartbeats 1600000 in
theorem rExpand_any (s : ByteArray) (w : World) (hs : s.size ≤ maxLen) : Calls Tryz.prog 26 #[.string s] w (RExpandPost (expandP (L s)) w) := by
  have hc := read_any s w hs
  have HC := hid hc
  clear hc
  go_enter Tryz.func26, Tryz.ntmps26
  go_wp2_with fail
  refine HC.out.mono ?_
  rintro e w1 ⟨hb1, r, hr, rfl, hcase⟩
  have HB := hid hb1
  clear hb1 HC
  rcases hcase with ⟨h0, ho, hre⟩ | ⟨h0, hp, st, hst, ho⟩
  · obtain ⟨a, b, c, d, hre⟩ := hre
    obtain ⟨er, her⟩ : ∃ er, (expandP (L s)).1 = er := ⟨_, rfl⟩
    obtain ⟨an, han⟩ : ∃ an, (expandP (L s)).2.1 = an := ⟨_, rfl⟩
    rw [her] at h0 hre
    rw [han] at hre
    have e4 : w1.cell? ⟨r, 4, none⟩ = some (.int .i64 er) := hre.cell 4 (by simp)
    have e5 : w1.cell? ⟨r, 5, none⟩ = some (.int .i64 (an : Nat)) := hre.cell 5 (by simp)
    have k0 : (er != 0) = true := by rw [bne_iff_ne]; exact h0
    have HO := hid ho
    have HER := hid her
    have HAN := hid han
    clear hre h0 ho her han
    go_upto_region 3 with fail
    go_quiet (fail)
    go_wp2_with fail
    refine bodyPost_ret (v := .tuple #[.slice none 0 0, .int .i64 er, .int .i64 (an : Nat)]) (by simp [results, Tryz.results26]) rfl ?_
    refine ⟨below_drewN HB.out _, .slice none 0 0, [], ?_, ?_, World.ownsRow_nil _ _ _ _⟩
    · rw [HER.out, HAN.out]
    · rw [HO.out]; rfl
  · obtain ⟨vm, vn, vl, ms, ns, outs, calls, hx, rfl⟩ := hst
    have e4 : w1.cell? ⟨r, 4, none⟩ = some (.int .i64 0) := hx.row.cell 4 (by simp)
    have e2 : w1.cell? ⟨r, 2, none⟩ = some vl := hx.row.cell 2 (by simp)
    obtain ⟨al, cl, hvl⟩ := own_form hx.lown
    subst hvl
    have HX := hid hx
    have HO := hid ho
    have H0 := hid h0
    have HP := hid hp
    clear hx h0 hp ho
    go_wp2_with fail
    refine bodyPost_ret (v := .tuple #[.slice al outs.length cl, .int .i64 0, .int .i64 0]) (by simp [results, Tryz.results26]) rfl ?_
    refine ⟨HB.out, .slice al outs.length cl, outs, ?_, ?_, HX.out.lown⟩
    · rw [H0.out, HP.out]; rfl
    · rw [HO.out]; rfl

end Go.Proofs.YtcepppilgncdmaaGreatDoor
