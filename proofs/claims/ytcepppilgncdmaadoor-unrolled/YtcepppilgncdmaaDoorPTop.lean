/-
  The program's Expand (packages expand and mason).
-/
import Derived.Test.YtcepppilgncdmaaDoorPCall
namespace Go.Proofs.YtcepppilgncdmaaDoor
open Go.RowKit
attribute [local go_sem ↓] Go.wp_at_zero Go.wp_at_succ

theorem call_all : ∀ n, CallOk n
  | 0 => call_zero
  | n + 1 => call_succ n (call_all n)

/-- What Expand answers: the lines, in rows of their own; or the error and where. -/
def ExpandPost (r : Int × Nat × List (List UInt8 × Nat)) (w : World) (e : Ending) (w' : World) : Prop :=
  Below w.heap.size w w' ∧ ∃ vl outs, e = .returned (.tuple #[vl, .int .i64 r.1, .int .i64 (r.2.1 : Nat)]) ∧ (outs.map fun x : ByteArray × Nat => (L x.1, x.2)) = r.2.2 ∧ outs.length ≤ 300 ∧ w'.ownsRow w.heap.size 35 4 vl outs.length (lineCells outs)

/-- No lines with an error. -/
def ExpandNil (r : Int × Nat × List (List UInt8 × Nat)) (e : Ending) : Prop := r.1 ≠ 0 → ∃ x y, e = .returned (.tuple #[.slice none 0 0, x, y])

theorem badLine_ok (ls : List (List UInt8)) : ∀ k, 0 < k → badLine ls k = 0 → ∀ l ∈ ls, l.length ≤ 80 := by
  induction ls with
  | nil => intro k _ _ l hl; cases hl
  | cons a r ih =>
    intro k hk h l hl
    unfold badLine at h
    split at h
    · rename_i ho
      rcases List.mem_cons.1 hl with h1 | h1
      · rw [h1]; unfold okLine at ho; simp at ho; exact ho.1
      · exact ih (k + 1) (by omega) h l h1
    · omega
set_option maxHeartbeats 400000 in
theorem number_num (w : World) (be bt wi k : Nat) (h : NumAt w be bt wi k) :
    Calls Tryd.prog 13 #[.pointer (some ⟨be, 0, none⟩)] w fun e w' => e = .returned (.int .i64 (k : Nat)) ∧ w' = w := by
  obtain ⟨ys, xs, h1, _, hx, hx2⟩ := h
  have c0 : w.cell? ⟨be, 0, none⟩ = some (.pointer (some ⟨bt, 0, none⟩)) := h1.cell 0 (by simp)
  obtain ⟨hlt, hy⟩ := List.getElem?_eq_some_iff.1 hx2
  have c2 : w.cell? ⟨bt, 2, none⟩ = some (.int .i64 (k : Nat)) := by rw [hx.cell 2 hlt, hy]
  clear h1 hx hx2 hy
  go_enter Tryd.func13, Tryd.ntmps13
  go_wp2
  go_ret
  exact ⟨rfl, rfl⟩

set_option maxRecDepth 100000 in
set_option maxHeartbeats 800000 in
theorem Expand_nil (s : ByteArray) (w : World) (hs : s.size ≤ maxLen) (hm : MaxAt w) :
    Calls Tryd.prog 10 #[.string s] w (fun e w' => ExpandPost (expandP (L s)) w e w' ∧ ExpandNil (expandP (L s)) e) := by
  have hg : 0 < w.heap.size := by
    obtain ⟨m, h1⟩ := hm
    exact World.block_lt_of_cell? _ _ h1
  obtain ⟨r, hr⟩ : ∃ r, expandP (L s) = r := ⟨_, rfl⟩
  rw [hr]
  unfold expandP at hr
  rw [L_length] at hr
  have HR := hid hr
  have HM := hid hm
  clear hr hm
  go_enter Tryd.func10, Tryd.ntmps10
  go_wp2_with fail
  refine (Split_any s _ hs HM.out).mono ?_
  rintro e w1 ⟨hb1, hcase⟩
  rcases hcase with ⟨h1, rfl⟩ | ⟨h1, h2, rfl⟩ | ⟨h1, h2, v, ls, h3, h4, rfl⟩
  · have hr := HR.out
    rw [if_pos h1] at hr
    subst hr
    go_wp2
    refine bodyPost_ret (v := .tuple #[.slice none 0 0, .int .i64 1, .int .i64 0]) (by simp [results, Tryd.results10]) rfl ?_
    exact ⟨⟨hb1, .slice none 0 0, [], rfl, rfl, by simp, World.ownsRow_nil _ _ _ _⟩, fun _ => ⟨_, _, rfl⟩⟩
  · have hr := HR.out
    rw [if_neg h1, if_pos h2] at hr
    subst hr
    clear h1 h2
    go_wp2
    refine bodyPost_ret (v := .tuple #[.slice none 0 0, .int .i64 1, .int .i64 (badLine (splitB 10 (L s)) 1 : Nat)]) (by simp [results, Tryd.results10]) rfl ?_
    exact ⟨⟨hb1, .slice none 0 0, [], rfl, rfl, by simp, World.ownsRow_nil _ _ _ _⟩, fun _ => ⟨_, _, rfl⟩⟩
  · have hr := HR.out
    rw [if_neg h1, if_neg (fun c => c h2), ← h3] at hr
    have HR := hid hr
    have hfew : ls.length ≤ 3001 := by
      have := splitB_len 10 (L s)
      rw [← h3, List.length_map, L_length] at this
      omega
    have HLS := hid (show ∀ i (hi : i < ls.length), ls[i].size ≤ 100 from fun i hi => by
      have := badLine_ok _ 1 (by omega) h2 (L ls[i]) (by rw [← h3]; exact List.mem_map.2 ⟨_, List.getElem_mem hi, rfl⟩)
      rw [L_length] at this
      omega)
    obtain ⟨la, lc, hv⟩ := h4.form
    subst hv
    have hal : (w1.alloc (.cells #[.slice none 0 0, .slice la ls.length lc, .int .i64 0] 49)).heap.size = w1.heap.size + 1 := Array.size_push _
    have hb2 : Below w1.heap.size w1 ((w1.alloc (.cells #[.slice none 0 0, .slice la ls.length lc, .int .i64 0] 49)).alloc (.cells #[.pointer (some ⟨w1.heap.size, 0, none⟩), .slice none 0 0, .slice none 0 0, .int .i64 0, .int .i64 0, .slice none 0 0] 53)) := ((Below.refl _ _).alloc (Nat.le_refl _) _).alloc (by rw [hal]; exact Nat.le_succ _) _
    have hrt : RowT ((w1.alloc (.cells #[.slice none 0 0, .slice la ls.length lc, .int .i64 0] 49)).alloc (.cells #[.pointer (some ⟨w1.heap.size, 0, none⟩), .slice none 0 0, .slice none 0 0, .int .i64 0, .int .i64 0, .slice none 0 0] 53)) 49 w1.heap.size [.slice none 0 0, .slice la ls.length lc, .int .i64 0] := (RowT.new w1 _ _).alloc _
    have hre : RowT ((w1.alloc (.cells #[.slice none 0 0, .slice la ls.length lc, .int .i64 0] 49)).alloc (.cells #[.pointer (some ⟨w1.heap.size, 0, none⟩), .slice none 0 0, .slice none 0 0, .int .i64 0, .int .i64 0, .slice none 0 0] 53)) 53 (w1.heap.size + 1) [.pointer (some ⟨w1.heap.size, 0, none⟩), .slice none 0 0, .slice none 0 0, .int .i64 0, .int .i64 0, .slice none 0 0] := by
      have := RowT.new (w1.alloc (.cells #[.slice none 0 0, .slice la ls.length lc, .int .i64 0] 49)) 53 [.pointer (some ⟨w1.heap.size, 0, none⟩), .slice none 0 0, .slice none 0 0, .int .i64 0, .int .i64 0, .slice none 0 0]
      rw [hal] at this
      exact this
    have hbw := Nat.le_trans hb1.size hb2.size
    have hx : ExpSt ((w1.alloc (.cells #[.slice none 0 0, .slice la ls.length lc, .int .i64 0] 49)).alloc (.cells #[.pointer (some ⟨w1.heap.size, 0, none⟩), .slice none 0 0, .slice none 0 0, .int .i64 0, .int .i64 0, .slice none 0 0] 53)) w.heap.size (w1.heap.size + 1) w1.heap.size 0 0 noSt := ⟨_, _, _, [], [], [], 0, ⟨hre, World.ownsRow_nil _ _ _ _, World.ownsRow_nil _ _ _ _, World.ownsRow_nil _ _ _ _, (fun m hm => by cases hm), Nat.le_succ_of_le hb1.size, _, hrt, rfl⟩, rfl⟩
    obtain ⟨R, hR⟩ : ∃ R, blockP (callN 8) none 1 (ls.map L) 0 [] none noSt = R := ⟨_, rfl⟩
    have hc := goT_any (call_all 8) _ w.heap.size (w1.heap.size + 1) w1.heap.size noSt (.slice la ls.length lc) ls hx ⟨⟨hrt, World.ownsRow_nil _ _ _ _, by simp⟩, (h4.below hb2).mono (Nat.zero_le _), by simp, hfew⟩ HLS.out ⟨(fun m hm => by cases hm), by simp [noSt], by simp [noSt], by simp [noSt], by simp [noSt], by simp⟩ ((HM.out.below hb1).below hb2) hg hbw hb1.size R hR
    have HC := hid hc
    have HB2 := hid ((hb1.trans (hb2.mono hb1.size)))
    rw [hR] at hr
    have HR := hid hr
    clear hal hr h1 h2 h3 hc hb1 hb2 hrt hre hx hR h4
    go_wp2_with fail
    refine HC.out.mono ?_
    rintro e w3 ⟨rfl, hf3, hn3, hs3⟩
    have HB3 := hid (HB2.out.trans (hf3.below hbw))
    have hr := HR.out
    by_cases h0 : R.1 = 0
    · have k0 : (R.1 != 0) = false := by simp [h0]
      rw [if_neg (fun c => c h0)] at hr
      subst hr
      obtain ⟨⟨vm, vn, vl, ms, ns, outs, calls, hx, hst⟩, hok⟩ := hs3 h0
      have c5 := hx.row.cell 5 (by simp)
      have HOUT := hid hok.out
      have HL := hid hx.lown
      have HST := hid hst
      clear hf3 hn3 hs3 hx hst hok
      go_wp2_with fail
      refine bodyPost_ret (v := .tuple #[vl, .int .i64 0, .int .i64 0]) (by simp [results, Tryd.results10]) rfl ?_
      refine ⟨⟨HB3.out, vl, outs, rfl, ?_, ?_, HL.out⟩, fun h => absurd rfl h⟩
      · rw [HST.out]; rfl
      · have := HOUT.out; rw [HST.out] at this; simpa [stOf] using this
    · have k0 : (R.1 != 0) = true := by simp [h0]
      rw [if_pos h0] at hr
      subst hr
      have HN := hid hn3
      clear hf3 hn3 hs3
      go_wp2_with fail
      refine (number_num _ _ _ _ _ HN.out).mono ?_
      rintro e w4 ⟨rfl, rfl⟩
      go_wp2_with fail
      refine bodyPost_ret (v := .tuple #[.slice none 0 0, .int .i64 R.1, .int .i64 (R.2.1 : Nat)]) (by simp [results, Tryd.results10]) rfl ?_
      exact ⟨⟨HB3.out, .slice none 0 0, [], rfl, rfl, by simp, World.ownsRow_nil _ _ _ _⟩, fun _ => ⟨_, _, rfl⟩⟩

theorem Expand_any (s : ByteArray) (w : World) (hs : s.size ≤ maxLen) (hm : MaxAt w) :
    Calls Tryd.prog 10 #[.string s] w (ExpandPost (expandP (L s)) w) := (Expand_nil s w hs hm).mono (fun _ _ h => h.1)

set_option maxHeartbeats 400000 in
theorem mExpand_nil (s : ByteArray) (w : World) (hs : s.size ≤ maxLen) (hm : MaxAt w) :
    Calls Tryd.prog 8 #[.string s] w (fun e w' => ExpandPost (expandP (L s)) w e w' ∧ ExpandNil (expandP (L s)) e) := by
  obtain ⟨r, hr⟩ : ∃ r, expandP (L s) = r := ⟨_, rfl⟩
  have hc := Expand_nil s w hs hm
  rw [hr] at hc ⊢
  have HC := hid hc
  clear hc hr hm
  go_enter Tryd.func8, Tryd.ntmps8
  go_wp2_with fail
  refine HC.out.mono ?_
  rintro e w1 ⟨⟨hb, vl, outs, rfl, hrest⟩, hnil⟩
  have HREST := hid hrest
  have HNIL := hid hnil
  clear hrest hnil
  go_wp2_with fail
  refine bodyPost_ret (v := .tuple #[vl, .int .i64 r.1, .int .i64 (r.2.1 : Nat)]) (by simp [results, Tryd.results8]) rfl ?_
  exact ⟨⟨hb, vl, outs, rfl, HREST.out⟩, HNIL.out⟩
theorem mExpand_any (s : ByteArray) (w : World) (hs : s.size ≤ maxLen) (hm : MaxAt w) :
    Calls Tryd.prog 8 #[.string s] w (ExpandPost (expandP (L s)) w) := (mExpand_nil s w hs hm).mono (fun _ _ h => h.1)

end Go.Proofs.YtcepppilgncdmaaDoor
