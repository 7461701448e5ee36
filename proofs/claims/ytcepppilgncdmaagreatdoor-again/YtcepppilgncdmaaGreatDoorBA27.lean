/-
  The program's Expand (packages expand and mason).
  The program's Assemble (packages assemble and mason).
  The program's Assemble, as package mason hands it on.
  What an expression that is put together term by term comes to, by the plain functions; nothing of the program stands here.
  What the small functions of package masonkeep answer: which of n things a number speaks of, and the digits of a number.
  What the statements of package masonkeep share: lists of numbers, the lines of an answer in memory.
-/
import Derived.Test.YtcepppilgncdmaaGreatDoorBA26
import Derived.Test.YtcepppilgncdmaaGreatDoorBA21
import Derived.Test.YtcepppilgncdmaaGreatDoorBA01
import Derived.Test.YtcepppilgncdmaaGreatDoorBA11
import Derived.Deep.CutBlock
import Derived.Deep.DeepCutAuto
import Derived.Deep.LoopGhost
namespace Go.Proofs.YtcepppilgncdmaaGreatDoor
open Go.RowKit
attribute [local go_sem ↓] Go.wp_at_zero Go.wp_at_succ

theorem call_all : ∀ n, CallOk n
  | 0 => call_zero
  | n + 1 => call_succ n (call_all n)

/-- What Expand answers: the lines, in rows of their own; or the error and where. -/
def ExpandPost (r : Int × Nat × List (List UInt8 × Nat)) (w : World) (e : Ending) (w' : World) : Prop :=
  Below w.heap.size w w' ∧ ∃ vl outs, e = .returned (.tuple #[vl, .int .i64 r.1, .int .i64 (r.2.1 : Nat)]) ∧ (outs.map fun x : ByteArray × Nat => (L x.1, x.2)) = r.2.2 ∧ outs.length ≤ 300 ∧ w'.ownsRow w.heap.size 38 4 vl outs.length (lineCells outs)

/-- No lines with an error. -/
def ExpandNil (r : Int × Nat × List (List UInt8 × Nat)) (e : Ending) : Prop := r.1 ≠ 0 → ∃ x y, e = .returned (.tuple #[.slice none 0 0, x, y])

theorem badLine_ok (ls : List (List UInt8)) : ∀ k, 0 < k → badLine ls k = 0 → ∀ l ∈ ls, l.length ≤ 80 := by
  induction ls with
  | nil => intro k _ _ l hl; cases hl
  | cons a r ih =>
    intro k hk h l hl
    unfold badLine at h
    split at h
    · rename_i ho
      rcases List.mem_cons.1 hl with h1 | h1
      · rw [h1]; unfold okLine at ho; simp at ho; exact ho.1
      · exact ih (k + 1) (by omega) h l h1
    · omega
set_option maxHeartbeats 400000 in
theorem number_num (w : World) (be bt wi k : Nat) (h : NumAt w be bt wi k) :
    Calls Tryz.prog 32 #[.pointer (some ⟨be, 0, none⟩)] w fun e w' => e = .returned (.int .i64 (k : Nat)) ∧ w' = w := by
  obtain ⟨ys, xs, h1, _, hx, hx2⟩ := h
  have c0 : w.cell? ⟨be, 0, none⟩ = some (.pointer (some ⟨bt, 0, none⟩)) := h1.cell 0 (by simp)
  obtain ⟨hlt, hy⟩ := List.getElem?_eq_some_iff.1 hx2
  have c2 : w.cell? ⟨bt, 2, none⟩ = some (.int .i64 (k : Nat)) := by rw [hx.cell 2 hlt, hy]
  clear h1 hx hx2 hy
  go_enter Tryz.func32, Tryz.ntmps32
  go_wp2
  go_ret
  exact ⟨rfl, rfl⟩

set_option maxRecDepth 100000 in
set_option maxHeartbeats 800000 in
theorem Expand_nil (s : ByteArray) (w : World) (hs : s.size ≤ maxLen) (hm : MaxAt w) :
    Calls Tryz.prog 20 #[.string s] w (fun e w' => ExpandPost (expandP (L s)) w e w' ∧ ExpandNil (expandP (L s)) e) := by
  have hg : 0 < w.heap.size := by
    obtain ⟨m, h1⟩ := hm
    exact World.block_lt_of_cell? _ _ h1
  obtain ⟨r, hr⟩ : ∃ r, expandP (L s) = r := ⟨_, rfl⟩
  rw [hr]
  unfold expandP at hr
  rw [L_length] at hr
  have HR := hid hr
  have HM := hid hm
  clear hr hm
  go_enter Tryz.func20, Tryz.ntmps20
  go_wp2_with fail
  refine (Split_any s _ hs HM.out).mono ?_
  rintro e w1 ⟨hb1, hcase⟩
  rcases hcase with ⟨h1, rfl⟩ | ⟨h1, h2, rfl⟩ | ⟨h1, h2, v, ls, h3, h4, rfl⟩
  · have hr := HR.out
    rw [if_pos h1] at hr
    subst hr
    go_wp2
    refine bodyPost_ret (v := .tuple #[.slice none 0 0, .int .i64 1, .int .i64 0]) (by simp [results, Tryz.results20]) rfl ?_
    exact ⟨⟨hb1, .slice none 0 0, [], rfl, rfl, by simp, World.ownsRow_nil _ _ _ _⟩, fun _ => ⟨_, _, rfl⟩⟩
  · have hr := HR.out
    rw [if_neg h1, if_pos h2] at hr
    subst hr
    clear h1 h2
    go_wp2
    refine bodyPost_ret (v := .tuple #[.slice none 0 0, .int .i64 1, .int .i64 (badLine (splitB 10 (L s)) 1 : Nat)]) (by simp [results, Tryz.results20]) rfl ?_
    exact ⟨⟨hb1, .slice none 0 0, [], rfl, rfl, by simp, World.ownsRow_nil _ _ _ _⟩, fun _ => ⟨_, _, rfl⟩⟩
  · have hr := HR.out
    rw [if_neg h1, if_neg (fun c => c h2), ← h3] at hr
    have HR := hid hr
    have hfew : ls.length ≤ 3001 := by
      have := splitB_len 10 (L s)
      rw [← h3, List.length_map, L_length] at this
      omega
    have HLS := hid (show ∀ i (hi : i < ls.length), ls[i].size ≤ 100 from fun i hi => by
      have := badLine_ok _ 1 (by omega) h2 (L ls[i]) (by rw [← h3]; exact List.mem_map.2 ⟨_, List.getElem_mem hi, rfl⟩)
      rw [L_length] at this
      omega)
    obtain ⟨la, lc, hv⟩ := h4.form
    subst hv
    have hal : (w1.alloc (.cells #[.slice none 0 0, .slice la ls.length lc, .int .i64 0] 74)).heap.size = w1.heap.size + 1 := Array.size_push _
    have hb2 : Below w1.heap.size w1 ((w1.alloc (.cells #[.slice none 0 0, .slice la ls.length lc, .int .i64 0] 74)).alloc (.cells #[.pointer (some ⟨w1.heap.size, 0, none⟩), .slice none 0 0, .slice none 0 0, .int .i64 0, .int .i64 0, .slice none 0 0] 77)) := ((Below.refl _ _).alloc (Nat.le_refl _) _).alloc (by rw [hal]; exact Nat.le_succ _) _
    have hrt : RowT ((w1.alloc (.cells #[.slice none 0 0, .slice la ls.length lc, .int .i64 0] 74)).alloc (.cells #[.pointer (some ⟨w1.heap.size, 0, none⟩), .slice none 0 0, .slice none 0 0, .int .i64 0, .int .i64 0, .slice none 0 0] 77)) 74 w1.heap.size [.slice none 0 0, .slice la ls.length lc, .int .i64 0] := (RowT.new w1 _ _).alloc _
    have hre : RowT ((w1.alloc (.cells #[.slice none 0 0, .slice la ls.length lc, .int .i64 0] 74)).alloc (.cells #[.pointer (some ⟨w1.heap.size, 0, none⟩), .slice none 0 0, .slice none 0 0, .int .i64 0, .int .i64 0, .slice none 0 0] 77)) 77 (w1.heap.size + 1) [.pointer (some ⟨w1.heap.size, 0, none⟩), .slice none 0 0, .slice none 0 0, .int .i64 0, .int .i64 0, .slice none 0 0] := by
      have := RowT.new (w1.alloc (.cells #[.slice none 0 0, .slice la ls.length lc, .int .i64 0] 74)) 77 [.pointer (some ⟨w1.heap.size, 0, none⟩), .slice none 0 0, .slice none 0 0, .int .i64 0, .int .i64 0, .slice none 0 0]
      rw [hal] at this
      exact this
    have hbw := Nat.le_trans hb1.size hb2.size
    have hx : ExpSt ((w1.alloc (.cells #[.slice none 0 0, .slice la ls.length lc, .int .i64 0] 74)).alloc (.cells #[.pointer (some ⟨w1.heap.size, 0, none⟩), .slice none 0 0, .slice none 0 0, .int .i64 0, .int .i64 0, .slice none 0 0] 77)) w.heap.size (w1.heap.size + 1) w1.heap.size 0 0 noSt := ⟨_, _, _, [], [], [], 0, ⟨hre, World.ownsRow_nil _ _ _ _, World.ownsRow_nil _ _ _ _, World.ownsRow_nil _ _ _ _, (fun m hm => by cases hm), Nat.le_succ_of_le hb1.size, _, hrt, rfl⟩, rfl⟩
    obtain ⟨R, hR⟩ : ∃ R, blockP (callN 8) none 1 (ls.map L) 0 [] none noSt = R := ⟨_, rfl⟩
    have hc := goT_any (call_all 8) _ w.heap.size (w1.heap.size + 1) w1.heap.size noSt (.slice la ls.length lc) ls hx ⟨⟨hrt, World.ownsRow_nil _ _ _ _, by simp⟩, (h4.below hb2).mono (Nat.zero_le _), by simp, hfew⟩ HLS.out ⟨(fun m hm => by cases hm), by simp [noSt], by simp [noSt], by simp [noSt], by simp [noSt], by simp⟩ ((HM.out.below hb1).below hb2) hg hbw hb1.size R hR
    have HC := hid hc
    have HB2 := hid ((hb1.trans (hb2.mono hb1.size)))
    rw [hR] at hr
    have HR := hid hr
    clear hal hr h1 h2 h3 hc hb1 hb2 hrt hre hx hR h4
    go_wp2_with fail
    refine HC.out.mono ?_
    rintro e w3 ⟨rfl, hf3, hn3, hs3⟩
    have HB3 := hid (HB2.out.trans (hf3.below hbw))
    have hr := HR.out
    by_cases h0 : R.1 = 0
    · have k0 : (R.1 != 0) = false := by simp [h0]
      rw [if_neg (fun c => c h0)] at hr
      subst hr
      obtain ⟨⟨vm, vn, vl, ms, ns, outs, calls, hx, hst⟩, hok⟩ := hs3 h0
      have c5 := hx.row.cell 5 (by simp)
      have HOUT := hid hok.out
      have HL := hid hx.lown
      have HST := hid hst
      clear hf3 hn3 hs3 hx hst hok
      go_wp2_with fail
      refine bodyPost_ret (v := .tuple #[vl, .int .i64 0, .int .i64 0]) (by simp [results, Tryz.results20]) rfl ?_
      refine ⟨⟨HB3.out, vl, outs, rfl, ?_, ?_, HL.out⟩, fun h => absurd rfl h⟩
      · rw [HST.out]; rfl
      · have := HOUT.out; rw [HST.out] at this; simpa [stOf] using this
    · have k0 : (R.1 != 0) = true := by simp [h0]
      rw [if_pos h0] at hr
      subst hr
      have HN := hid hn3
      clear hf3 hn3 hs3
      go_wp2_with fail
      refine (number_num _ _ _ _ _ HN.out).mono ?_
      rintro e w4 ⟨rfl, rfl⟩
      go_wp2_with fail
      refine bodyPost_ret (v := .tuple #[.slice none 0 0, .int .i64 R.1, .int .i64 (R.2.1 : Nat)]) (by simp [results, Tryz.results20]) rfl ?_
      exact ⟨⟨HB3.out, .slice none 0 0, [], rfl, rfl, by simp, World.ownsRow_nil _ _ _ _⟩, fun _ => ⟨_, _, rfl⟩⟩

theorem Expand_any (s : ByteArray) (w : World) (hs : s.size ≤ maxLen) (hm : MaxAt w) :
    Calls Tryz.prog 20 #[.string s] w (ExpandPost (expandP (L s)) w) := (Expand_nil s w hs hm).mono (fun _ _ h => h.1)

set_option maxHeartbeats 400000 in
theorem mExpand_nil (s : ByteArray) (w : World) (hs : s.size ≤ maxLen) (hm : MaxAt w) :
    Calls Tryz.prog 11 #[.string s] w (fun e w' => ExpandPost (expandP (L s)) w e w' ∧ ExpandNil (expandP (L s)) e) := by
  obtain ⟨r, hr⟩ : ∃ r, expandP (L s) = r := ⟨_, rfl⟩
  have hc := Expand_nil s w hs hm
  rw [hr] at hc ⊢
  have HC := hid hc
  clear hc hr hm
  go_enter Tryz.func11, Tryz.ntmps11
  go_wp2_with fail
  refine HC.out.mono ?_
  rintro e w1 ⟨⟨hb, vl, outs, rfl, hrest⟩, hnil⟩
  have HREST := hid hrest
  have HNIL := hid hnil
  clear hrest hnil
  go_wp2_with fail
  refine bodyPost_ret (v := .tuple #[vl, .int .i64 r.1, .int .i64 (r.2.1 : Nat)]) (by simp [results, Tryz.results11]) rfl ?_
  exact ⟨⟨hb, vl, outs, rfl, HREST.out⟩, HNIL.out⟩
theorem mExpand_any (s : ByteArray) (w : World) (hs : s.size ≤ maxLen) (hm : MaxAt w) :
    Calls Tryz.prog 11 #[.string s] w (ExpandPost (expandP (L s)) w) := (mExpand_nil s w hs hm).mono (fun _ _ h => h.1)

end Go.Proofs.YtcepppilgncdmaaGreatDoor

namespace Go.Proofs.YtcepppilgncdmaaGreatDoor
open Go.RowKit
attribute [local go_sem ↓] Go.wp_at_zero Go.wp_at_succ

/-- A program's lines, as they lie in memory, say what plain ones do. -/
def lnOf (s : StmP) (ln : LnV) : Prop := L ln.t = s.txt ∧ ln.frm = s.frm ∧ (ln.at_ : Int) = s.at_ ∧ ln.size = sizeP s
/-- What Assemble answers: an error and where, and nothing besides; or a program, in rows of its own. -/
def AssemblePost (r : Int × Nat × ProgP) (w : World) (e : Ending) (w' : World) : Prop :=
  Below w.heap.size w w' ∧ ∃ vb vl vn, e = .returned (.tuple #[.agg #[vb, vl, vn], .int .i64 r.1, .int .i64 (r.2.1 : Nat)]) ∧
    ((r.1 ≠ 0 ∧ vb = .slice none 0 0 ∧ vl = .slice none 0 0 ∧ vn = .slice none 0 0) ∨
     (r.1 = 0 ∧ ∃ ls ss ns, w'.ownsRow w.heap.size 5 1 vb r.2.2.bytes.length (byCells r.2.2.bytes) ∧ w'.ownsRow w.heap.size 38 4 vl ls.length (lnCells ls) ∧ w'.ownsRow w.heap.size 40 2 vn ns.length (nameCells ns) ∧ Say 0 ls ss r.2.2.stms ∧ Sized ls r.2.2.stms ∧ plainN ns = namesP r.2.2.stms ∧ ls.length ≤ 300 ∧ ns.length ≤ 300 ∧ r.2.2.bytes.length ≤ 300000))

theorem own_monoA {w : World} {b c e s n : Nat} {v : Value} {xs : List Value} (h : w.ownsRow b e s v n xs) (hc : c ≤ b) : w.ownsRow c e s v n xs := by
  refine ⟨h.1, ?_⟩
  rcases h.2 with h2 | ⟨g, cap, cur, h1, h2, h3⟩
  · exact Or.inl h2
  · exact Or.inr ⟨g, cap, cur, h1, Nat.le_trans hc h2, h3⟩
theorem chain_ok {ns : List (List UInt8 × Int)} {outs : List (ByteArray × Nat)} (h : ChainN ns (outs.map fun x => (L x.1, x.2))) : ∀ ln ∈ outs.map (fun x => (⟨x.1, x.2, 0, 0⟩ : LnV)), LnOk ln := by
  induction outs generalizing ns with
  | nil => intro ln hl; cases hl
  | cons y r ih =>
    intro ln hl
    rcases List.mem_cons.1 hl with rfl | hl
    · obtain ⟨h1, h2, _⟩ := h
      simp only at h1 h2
      refine ⟨cut_same (by rw [← h2]; exact h1.src.ok.text), by have := h1.src.len; rw [h2] at this; exact this, fun e => ?_, rfl, rfl⟩
      have h3 := h1.set e
      exact ⟨h3.1, h3.2.1⟩
    · exact ih h.2.2 ln hl
theorem allBytes_len (all : List (List UInt8 × Int)) : ∀ {k : Nat} {ls : List LnV} {ss : List StV} {l : List StmP}, Say k ls ss l → Sized ls l → (∀ x ∈ ss, x.es.length ≤ 200) → (∀ ln ∈ ls, ln.size ≤ 1000) → (allBytes all l).2.2.length ≤ 1000 * l.length
  | _, [], [], [], _, _, _, _ => by simp [allBytes]
  | k, ln :: lr, x :: xr, s :: sr, h, hz, he, hs => by
    have ih := allBytes_len all h.2 hz.2 (fun y hy => he y (by simp [hy])) (fun y hy => hs y (by simp [hy]))
    have hb := say_bytes h.1 all hz.1
    have hl := bytesV_len all ln.at_ ln.size x (he x (by simp)) (hs ln (by simp))
    rw [hb] at hl
    simp only [allBytes]
    split
    · simp
    · split
      · simp
      · simp only [List.length_append, List.length_cons]; omega
  | _, [], [], _ :: _, h, _, _, _ => h.elim
  | _, [], _ :: _, _, h, _, _, _ => h.elim
  | _, _ :: _, [], _, h, _, _, _ => h.elim
  | _, _ :: _, _ :: _, [], h, _, _, _ => h.elim
theorem findV_ok : ∀ (n : Nat) {ls : List LnV} {ss : List StV} {ns : List (ByteArray × Int)} {m : Nat}, AllOk ss m → ls.length = ss.length → ss.length ≤ 300 → (∀ l ∈ ls, l.at_ ≤ 1000000 ∧ l.size ≤ 1000) → AllOk (findV n ls ss ns).2.1 m ∧ (findV n ls ss ns).1.length = ls.length ∧ (findV n ls ss ns).2.1.length = ss.length ∧ (findV n ls ss ns).2.2.length = ns.length ∧ (∀ l ∈ (findV n ls ss ns).1, l.at_ ≤ 1000000 ∧ l.size ≤ 1000)
  | 0, ls, ss, ns, m, h, hl, h3, ha => ⟨h, rfl, rfl, rfl, ha⟩
  | n + 1, ls, ss, ns, m, h, hl, h3, ha => by
    simp only [findV]
    split
    · have hlen := lenL_length (plainN ns) ls ss
      have hok := h.len (plainN ns) ls
      have h5 := findV_ok n (ls := setL ls (lenL (plainN ns) ls ss) 0) (ss := lenL (plainN ns) ls ss) (ns := setN (lenL (plainN ns) ls ss) 0 ns) (m := m) hok (by rw [setL_length, hlen]; exact hl) (by rw [hlen]; exact h3) (fun l hh => by
        have := setL_at ls (lenL (plainN ns) ls ss) 0 m (by rw [hlen]; exact hl) (fun x hx => (hok x hx).2) l hh
        rw [hlen] at this
        omega)
      exact ⟨h5.1, by rw [h5.2.1, setL_length], by rw [h5.2.2.1, hlen], by rw [h5.2.2.2.1, setN_length], h5.2.2.2.2⟩
    · exact ⟨h, rfl, rfl, rfl, ha⟩

set_option maxRecDepth 100000 in
set_option maxHeartbeats 3200000 in
theorem Assemble_any (s : ByteArray) (w : World) (hs : s.size ≤ maxLen) (hm : MaxAt w) :
    Calls Tryz.prog 21 #[.string s] w (AssemblePost (assembleP (L s)) w) := by
  have hg : 0 < w.heap.size := by
    obtain ⟨m, h1⟩ := hm
    exact World.block_lt_of_cell? _ _ h1
  obtain ⟨r, hr⟩ : ∃ r, assembleP (L s) = r := ⟨_, rfl⟩
  rw [hr]
  unfold assembleP at hr
  have HR := hid hr
  have HM := hid hm
  clear hr hm
  have hb0 : Below w.heap.size w (w.alloc (.cells #[.slice none 0 0, .slice none 0 0, .slice none 0 0] 33)) := (Below.refl _ _).alloc (Nat.le_refl _) _
  have HP0 := hid (show RowT (w.alloc (.cells #[.slice none 0 0, .slice none 0 0, .slice none 0 0] 33)) 33 w.heap.size [.slice none 0 0, .slice none 0 0, .slice none 0 0] from RowT.new w 33 [.slice none 0 0, .slice none 0 0, .slice none 0 0])
  have HB0 := hid hb0
  have HM0 := hid (HM.out.below hb0)
  have hsz : w.heap.size ≤ (w.alloc (.cells #[.slice none 0 0, .slice none 0 0, .slice none 0 0] 33)).heap.size := hb0.size
  clear hb0
  go_enter Tryz.func21, Tryz.ntmps21
  go_upto_region 1 with fail
  generalize w.alloc (.cells #[.slice none 0 0, .slice none 0 0, .slice none 0 0] 33) = w0 at *
  go_wp2_with fail
  refine (Expand_nil s w0 hs HM0.out).mono ?_
  rintro e w1 ⟨⟨hb1, vl, outs, rfl, hout, hol, hown⟩, hnil⟩
  obtain ⟨X, hX⟩ : ∃ X, expandP (L s) = X := ⟨_, rfl⟩
  rw [hX] at hout hnil ⊢
  have HXX := hid hX
  have hr0 := HR.out
  rw [hX] at hr0
  have HRX := hid hr0
  have HOUT := hid hout
  have HOWN := hid (own_monoA hown hsz)
  have HB1 := hid (HB0.out.trans (hb1.mono hsz))
  have HPX := hid (HP0.out.below hb1)
  have HM1 := hid (HM0.out.below hb1)
  have hsz1 : w.heap.size < w1.heap.size := (HP0.out.below hb1).lt
  clear hX hr0 hout hown hb1 hnil HR HP0 HB0 HM0
  by_cases hx0 : X.1 = 0
  · have kx : (X.1 != 0) = false := by simp [hx0]
    have hr1 := HRX.out
    rw [if_neg (fun h => h hx0)] at hr1
    obtain ⟨hch, _⟩ := expand_inv (L s) (by rw [HXX.out]; exact hx0)
    rw [HXX.out, ← HOUT.out] at hch
    have HLN := hid (chain_ok hch)
    obtain ⟨ls, hls⟩ : ∃ ls, outs.map (fun x => (⟨x.1, x.2, 0, 0⟩ : LnV)) = ls := ⟨_, rfl⟩
    rw [hls] at HLN
    have hll : ls.length = outs.length := by rw [← hls, List.length_map]
    have hlc : lnCells ls = lineCells outs := by rw [← hls, lnCells_lines]
    have hmp : ls.map (fun ln => (L ln.t, ln.frm)) = X.2.2 := by rw [← HOUT.out, ← hls, List.map_map]; rfl
    have hown2 : w1.ownsRow w.heap.size 38 4 vl ls.length (lnCells ls) := by rw [hll, hlc]; exact HOWN.out
    have hl3 : ls.length ≤ 300 := by omega
    have hb2 : Below w1.heap.size w1 (w1.alloc (.cells #[vl, .slice none 0 0, .slice none 0 0, .slice none 0 0, .int .i64 0, .slice none 0 0] 83)) := (Below.refl _ _).alloc (Nat.le_refl _) _
    have HA := hid (show AsmAt (w1.alloc (.cells #[vl, .slice none 0 0, .slice none 0 0, .slice none 0 0, .int .i64 0, .slice none 0 0] 83)) w.heap.size w1.heap.size vl (.slice none 0 0) (.slice none 0 0) (.slice none 0 0) (.slice none 0 0) ls [] [] [] 0 [] from
      ⟨RowT.new w1 83 [vl, .slice none 0 0, .slice none 0 0, .slice none 0 0, .int .i64 0, .slice none 0 0], Nat.le_of_lt hsz1, hown2.alloc _, World.ownsRow_nil _ _ _ _, World.ownsRow_nil _ _ _ _, World.ownsRow_nil _ _ _ _, World.ownsRow_nil _ _ _ _, (fun g h => by cases h), (fun x hx => by cases hx)⟩)
    have HB2 := hid (HB1.out.trans (hb2.mono (Nat.le_of_lt hsz1)))
    have HM2 := hid (HM1.out.below hb2)
    have HPX := hid (HPX.out.below hb2)
    have hB2 : w.heap.size ≤ (w1.alloc (.cells #[vl, .slice none 0 0, .slice none 0 0, .slice none 0 0, .int .i64 0, .slice none 0 0] 83)).heap.size := HB2.out.size
    rw [← hmp] at hr1
    obtain ⟨R1, hR1⟩ : ∃ R1, lookAll (ls.map fun ln => (L ln.t, ln.frm)) [] = R1 := ⟨_, rfl⟩
    rw [hR1] at hr1
    have HR1 := hid hR1
    have HRY := hid hr1
    obtain ⟨al, cl, hvl⟩ := own_form hown2
    subst hvl
    clear hch hls hll hlc hmp hown2 hb2 hR1 hr1 HRX HOUT HOWN HB1 HM1
    rw [hx0]
    go_upto_region 5 with fail
    generalize w1.alloc (.cells #[.slice al ls.length cl, .slice none 0 0, .slice none 0 0, .slice none 0 0, .int .i64 0, .slice none 0 0] 83) = w2 at *
    generalize w1.heap.size = ba at *
    go_wp2_with fail
    refine (lookAtLines_any w2 w.heap.size ba (.slice al ls.length cl) ls HA.out hl3 HLN.out hB2 HM2.out hg R1 HR1.out).mono ?_
    rintro e w3 ⟨rfl, hf3, hx3⟩
    have HBX := hid (HB2.out.trans (hf3.below hB2))
    have HPX := hid (HPX.out.fr hf3 rfl (fun h => by cases h))
    have HX3 := hid hx3
    clear hf3 hx3
    have hr2 := HRY.out
    by_cases h10 : R1.1 = 0
    · have kr : (R1.1 != 0) = false := by simp [h10]
      rw [if_neg (fun h => h h10)] at hr2
      obtain ⟨vs, vn, vt, ss, ns, ts, ha3, hsay, hns, hok, hn3⟩ := HX3.out h10
      obtain ⟨l, hl⟩ : ∃ l, R1.2.2 = l := ⟨_, rfl⟩
      rw [hl] at hr2 hsay hns
      have hlen := hsay.len
      have hB3 : w.heap.size ≤ w3.heap.size := HBX.out.size
      obtain ⟨F, hF⟩ : ∃ F, findV (ss.length + 1) (setL ls ss 0) ss (setN ss 0 ns) = F := ⟨_, rfl⟩
      have hfd := findAddresses_any w3 w.heap.size ba (.slice al ls.length cl) vs vn vt (.slice none 0 0) ls ss ns ts 0 [] ha3 (by omega) hl3 (by omega) hok hB3 F hF
      have hp1 := (say_laid 0 hsay).1
      have hp2 := say_names 0 hsay (P := []) (ns := ns) rfl (by rw [List.nil_append]; exact hns)
      rw [List.nil_append] at hp2
      have hp3 := say_find (ss.length + 1) hp1 hp2
      have hp4 := sized_find (ss.length + 1) hp1 hp2 (sized_laid 0 hsay)
      have hlat := setL_at ls ss 0 ns.length (by omega) (fun x hx => (hok x hx).2)
      have hp5 := findV_ok (ss.length + 1) (ls := setL ls ss 0) (ss := ss) (ns := setN ss 0 ns) hok (by rw [setL_length]; omega) (by omega) (fun y hy => by have := hlat y hy; omega)
      rw [hF] at hp3 hp4 hp5
      rw [setL_length, setN_length] at hp5
      have hpl : findP (ss.length + 1) (laidP l 0) = placedP l := by unfold placedP; rw [hlen.2]
      rw [hpl] at hp3 hp4
      obtain ⟨f1, f2, f3, f4, f5⟩ := hp5
      have hend : endV F.2.1 0 = endP (placedP l) 0 := (say_laid 0 hp3.1).2
      have HFD := hid hfd
      have HP3' := hid hp3
      have HP4 := hid hp4
      have HF1 := hid f1
      have HF5 := hid f5
      have HRZ := hid hr2
      have HEND := hid hend
      clear hfd hp1 hp2 hp3 hp4 hlat hpl f1 f5 hF ha3 hsay hns hok hr2 hend hl HX3
      rw [h10]
      go_wp2_with fail
      refine HFD.out.mono ?_
      rintro e w4 ⟨rfl, hf4, ha4⟩
      have HBX := hid (HBX.out.trans (hf4.below hB3))
      have HPX := hid (HPX.out.fr hf4 rfl (fun h => by cases h))
      have HA4 := hid ha4
      have hB4 : w.heap.size ≤ w4.heap.size := HBX.out.size
      have c4 : w4.cell? ⟨ba, 4, none⟩ = some (.int .i64 (endV F.2.1 0 : Nat)) := ha4.row.cell 4 (by simp)
      clear hf4 ha4
      have hr3 := HRZ.out
      unfold makeP at hr3
      rw [← HEND.out] at hr3
      obtain ⟨ee, hee⟩ : ∃ ee, endV F.2.1 0 = ee := ⟨_, rfl⟩
      rw [hee] at hr3 c4
      by_cases h1k : 1000 < ee
      · rw [if_pos h1k] at hr3
        subst hr3
        have kk : decide ((1000 : Int) < (ee : Int)) = true := by simp; omega
        have HNZ := hid (show ((8 : Int), (0 : Nat), noProg).1 ≠ 0 by decide)
        have p0 : w4.cell? ⟨w.heap.size, 0, none⟩ = some (.slice none 0 0) := HPX.out.cell 0 (by simp)
        have p1 : w4.cell? ⟨w.heap.size, 1, none⟩ = some (.slice none 0 0) := HPX.out.cell 1 (by simp)
        have p2 : w4.cell? ⟨w.heap.size, 2, none⟩ = some (.slice none 0 0) := HPX.out.cell 2 (by simp)
        have g0 := HPX.out.free 0
        have g1 := HPX.out.free 1
        have g2 := HPX.out.free 2
        have HP3 := hid (((HPX.out.set 0 (.slice none 0 0)).set 1 (.slice none 0 0)).set 2 (.slice none 0 0))
        have HK3 := hid (((((Keeps.refl [w.heap.size] w4).setCell (p := ⟨w.heap.size, 0, none⟩) (by simp) (.slice none 0 0)).setCell (p := ⟨w.heap.size, 1, none⟩) (by simp) (.slice none 0 0)).setCell (p := ⟨w.heap.size, 2, none⟩) (by simp) (.slice none 0 0)).below (B := w.heap.size) HBX.out.size (fun k hk => by rw [List.mem_singleton] at hk; omega))
        go_wp2_with fail
        refine bodyPost_ret (v := .tuple #[.agg #[.slice none 0 0, .slice none 0 0, .slice none 0 0], .int .i64 8, .int .i64 0]) (by simp [results, Tryz.results21, go_sem, p0, p1, p2]) rfl ?_
        exact ⟨HBX.out.trans HK3.out, _, _, _, rfl, Or.inl ⟨HNZ.out, rfl, rfl, rfl⟩⟩
      · rw [if_neg h1k] at hr3
        have kk : decide ((1000 : Int) < (ee : Int)) = false := by simp; omega
        have hpn := HP3'.out.2
        have hal := say_all (plainN F.2.2) HP3'.out.1 HP4.out
        rw [hpn] at hal
        obtain ⟨M, hM⟩ : ∃ M, allBytes (namesP (placedP l)) (placedP l) = M := ⟨_, rfl⟩
        rw [hM] at hal hr3
        have hml : M.2.2.length ≤ 300000 := by
          have h1 := allBytes_len (namesP (placedP l)) HP3'.out.1 HP4.out (fun x hx => (HF1.out x hx).2.few) (fun ln hl => (HF5.out ln hl).2)
          rw [hM] at h1
          have h2 := HP3'.out.1.len
          omega
        have hma := makeAllBytes_any w4 w.heap.size ba (.slice al ls.length cl) vs vn vt (.slice none 0 0) F.1 F.2.1 F.2.2 ts ee (by rw [← hee]; exact HA4.out) (by omega) (by omega) (by omega) (fun x hx => ⟨(HF1.out x hx).1, (HF1.out x hx).2.few⟩) HF5.out hB4 M (by rw [hpn]; exact hal)
        have HMA := hid hma
        have HRW := hid hr3
        clear hpn hal hM hma hr3 hee
        go_wp2_with fail
        refine HMA.out.mono ?_
        rintro e w5 ⟨rfl, hf5, ha5⟩
        have HBX := hid (HBX.out.trans (hf5.below hB4))
        have HPX := hid (HPX.out.fr hf5 rfl (fun h => by cases h))
        have HA5 := hid ha5
        clear hf5 ha5 c4
        have hr4 := HRW.out
        by_cases hm0 : M.1 = 0
        · rw [if_neg (fun h => h hm0)] at hr4
          subst hr4
          obtain ⟨vb, ha6⟩ := HA5.out hm0
          rw [List.nil_append] at ha6
          have HA6 := hid ha6
          obtain ⟨bl, bc, hvb⟩ := own_form ha6.bown
          obtain ⟨nl, nc, hvn⟩ := own_form ha6.nown
          have q5 : w5.cell? ⟨ba, 5, none⟩ = some vb := ha6.row.cell 5 (by simp)
          have q0 : w5.cell? ⟨ba, 0, none⟩ = some (.slice al ls.length cl) := ha6.row.cell 0 (by simp)
          have q2 : w5.cell? ⟨ba, 2, none⟩ = some vn := ha6.row.cell 2 (by simp)
          subst hvb hvn
          have p0 : w5.cell? ⟨w.heap.size, 0, none⟩ = some (.slice none 0 0) := HPX.out.cell 0 (by simp)
          have p1 : w5.cell? ⟨w.heap.size, 1, none⟩ = some (.slice none 0 0) := HPX.out.cell 1 (by simp)
          have p2 : w5.cell? ⟨w.heap.size, 2, none⟩ = some (.slice none 0 0) := HPX.out.cell 2 (by simp)
          have g0 := HPX.out.free 0
          have g1 := HPX.out.free 1
          have g2 := HPX.out.free 2
          clear ha6
          rw [hlen.1] at q0
          rw [f4] at q2
          rw [hlen.1, f4] at HA6
          have HSL := hid (ownsRow_setCell_other (ownsRow_setCell_other (ownsRow_setCell_other HA6.out.lown (a := ⟨w.heap.size, 0, none⟩) (own_row_ne HA6.out.lown HPX.out (by decide)) (.slice bl M.2.2.length bc)) (a := ⟨w.heap.size, 1, none⟩) (own_row_ne HA6.out.lown HPX.out (by decide)) (.slice al l.length cl)) (a := ⟨w.heap.size, 2, none⟩) (own_row_ne HA6.out.lown HPX.out (by decide)) (.slice nl ns.length nc))
          have HSN := hid (ownsRow_setCell_other (ownsRow_setCell_other (ownsRow_setCell_other HA6.out.nown (a := ⟨w.heap.size, 0, none⟩) (own_row_ne HA6.out.nown HPX.out (by decide)) (.slice bl M.2.2.length bc)) (a := ⟨w.heap.size, 1, none⟩) (own_row_ne HA6.out.nown HPX.out (by decide)) (.slice al l.length cl)) (a := ⟨w.heap.size, 2, none⟩) (own_row_ne HA6.out.nown HPX.out (by decide)) (.slice nl ns.length nc))
          have HSB := hid (ownsRow_setCell_other (ownsRow_setCell_other (ownsRow_setCell_other HA6.out.bown (a := ⟨w.heap.size, 0, none⟩) (own_row_ne HA6.out.bown HPX.out (by decide)) (.slice bl M.2.2.length bc)) (a := ⟨w.heap.size, 1, none⟩) (own_row_ne HA6.out.bown HPX.out (by decide)) (.slice al l.length cl)) (a := ⟨w.heap.size, 2, none⟩) (own_row_ne HA6.out.bown HPX.out (by decide)) (.slice nl ns.length nc))
          have HPW := hid (((HPX.out.set 0 (.slice bl M.2.2.length bc)).set 1 (.slice al l.length cl)).set 2 (.slice nl ns.length nc))
          have HK3 := hid (((((Keeps.refl [w.heap.size] w5).setCell (p := ⟨w.heap.size, 0, none⟩) (by simp) (.slice bl M.2.2.length bc)).setCell (p := ⟨w.heap.size, 1, none⟩) (by simp) (.slice al l.length cl)).setCell (p := ⟨w.heap.size, 2, none⟩) (by simp) (.slice nl ns.length nc)).below (B := w.heap.size) HBX.out.size (fun k hk => by rw [List.mem_singleton] at hk; omega))
          rw [hm0]
          go_wp2_with fail
          go_region
          generalize ((w5.setCell ⟨w.heap.size, 0, none⟩ (.slice bl M.2.2.length bc)).setCell ⟨w.heap.size, 1, none⟩ (.slice al l.length cl)).setCell ⟨w.heap.size, 2, none⟩ (.slice nl ns.length nc) = w6 at HSL HSN HSB HPW HK3 ⊢
          have r0 : w6.cell? ⟨w.heap.size, 0, none⟩ = some (.slice bl M.2.2.length bc) := HPW.out.cell 0 (by simp)
          have r1 : w6.cell? ⟨w.heap.size, 1, none⟩ = some (.slice al l.length cl) := HPW.out.cell 1 (by simp)
          have r2 : w6.cell? ⟨w.heap.size, 2, none⟩ = some (.slice nl ns.length nc) := HPW.out.cell 2 (by simp)
          clear p0 p1 p2 g0 g1 g2 q0 q2 q5
          go_wp2_with fail
          refine bodyPost_ret (v := .tuple #[.agg #[.slice bl M.2.2.length bc, .slice al l.length cl, .slice nl ns.length nc], .int .i64 0, .int .i64 0]) (by simp [results, Tryz.results21, go_sem, r0, r1, r2]) rfl ?_
          exact ⟨(HBX.out.trans HK3.out).drew, _, _, _, rfl, Or.inr ⟨rfl, F.1, F.2.1, F.2.2, HSB.out, HSL.out, HSN.out, HP3'.out.1, HP4.out, HP3'.out.2, by omega, by omega, hml⟩⟩
        · have km : (M.1 != 0) = true := by simpa using hm0
          rw [if_pos hm0] at hr4
          subst hr4
          have HNZ := hid (show (M.1, M.2.1, noProg).1 ≠ 0 from hm0)
          have p0 : w5.cell? ⟨w.heap.size, 0, none⟩ = some (.slice none 0 0) := HPX.out.cell 0 (by simp)
          have p1 : w5.cell? ⟨w.heap.size, 1, none⟩ = some (.slice none 0 0) := HPX.out.cell 1 (by simp)
          have p2 : w5.cell? ⟨w.heap.size, 2, none⟩ = some (.slice none 0 0) := HPX.out.cell 2 (by simp)
          have g0 := HPX.out.free 0
          have g1 := HPX.out.free 1
          have g2 := HPX.out.free 2
          have HP3 := hid (((HPX.out.set 0 (.slice none 0 0)).set 1 (.slice none 0 0)).set 2 (.slice none 0 0))
          have HK3 := hid (((((Keeps.refl [w.heap.size] w5).setCell (p := ⟨w.heap.size, 0, none⟩) (by simp) (.slice none 0 0)).setCell (p := ⟨w.heap.size, 1, none⟩) (by simp) (.slice none 0 0)).setCell (p := ⟨w.heap.size, 2, none⟩) (by simp) (.slice none 0 0)).below (B := w.heap.size) HBX.out.size (fun k hk => by rw [List.mem_singleton] at hk; omega))
          go_wp2_with fail
          refine bodyPost_ret (v := .tuple #[.agg #[.slice none 0 0, .slice none 0 0, .slice none 0 0], .int .i64 M.1, .int .i64 (M.2.1 : Nat)]) (by simp [results, Tryz.results21, go_sem, p0, p1, p2]) rfl ?_
          exact ⟨HBX.out.trans HK3.out, _, _, _, rfl, Or.inl ⟨HNZ.out, rfl, rfl, rfl⟩⟩
    · have kr : (R1.1 != 0) = true := by simpa using h10
      rw [if_pos h10] at hr2
      subst hr2
      have HNZ := hid (show (R1.1, R1.2.1, noProg).1 ≠ 0 from h10)
      have p0 : w3.cell? ⟨w.heap.size, 0, none⟩ = some (.slice none 0 0) := HPX.out.cell 0 (by simp)
      have p1 : w3.cell? ⟨w.heap.size, 1, none⟩ = some (.slice none 0 0) := HPX.out.cell 1 (by simp)
      have p2 : w3.cell? ⟨w.heap.size, 2, none⟩ = some (.slice none 0 0) := HPX.out.cell 2 (by simp)
      have g0 := HPX.out.free 0
      have g1 := HPX.out.free 1
      have g2 := HPX.out.free 2
      have HP3 := hid (((HPX.out.set 0 (.slice none 0 0)).set 1 (.slice none 0 0)).set 2 (.slice none 0 0))
      have HK3 := hid (((((Keeps.refl [w.heap.size] w3).setCell (p := ⟨w.heap.size, 0, none⟩) (by simp) (.slice none 0 0)).setCell (p := ⟨w.heap.size, 1, none⟩) (by simp) (.slice none 0 0)).setCell (p := ⟨w.heap.size, 2, none⟩) (by simp) (.slice none 0 0)).below (B := w.heap.size) HBX.out.size (fun k hk => by rw [List.mem_singleton] at hk; omega))
      go_wp2_with fail
      refine bodyPost_ret (v := .tuple #[.agg #[.slice none 0 0, .slice none 0 0, .slice none 0 0], .int .i64 R1.1, .int .i64 (R1.2.1 : Nat)]) (by simp [results, Tryz.results21, go_sem, p0, p1, p2]) rfl ?_
      exact ⟨HBX.out.trans HK3.out, _, _, _, rfl, Or.inl ⟨HNZ.out, rfl, rfl, rfl⟩⟩
  · have kx : (X.1 != 0) = true := by simpa using hx0
    have hr1 := HRX.out
    rw [if_pos hx0] at hr1
    subst hr1
    have HNZ := hid (show (X.1, X.2.1, noProg).1 ≠ 0 from hx0)
    have HBX := hid HB1.out
    have p0 : w1.cell? ⟨w.heap.size, 0, none⟩ = some (.slice none 0 0) := HPX.out.cell 0 (by simp)
    have p1 : w1.cell? ⟨w.heap.size, 1, none⟩ = some (.slice none 0 0) := HPX.out.cell 1 (by simp)
    have p2 : w1.cell? ⟨w.heap.size, 2, none⟩ = some (.slice none 0 0) := HPX.out.cell 2 (by simp)
    have g0 := HPX.out.free 0
    have g1 := HPX.out.free 1
    have g2 := HPX.out.free 2
    have HP3 := hid (((HPX.out.set 0 (.slice none 0 0)).set 1 (.slice none 0 0)).set 2 (.slice none 0 0))
    have HK3 := hid (((((Keeps.refl [w.heap.size] w1).setCell (p := ⟨w.heap.size, 0, none⟩) (by simp) (.slice none 0 0)).setCell (p := ⟨w.heap.size, 1, none⟩) (by simp) (.slice none 0 0)).setCell (p := ⟨w.heap.size, 2, none⟩) (by simp) (.slice none 0 0)).below (B := w.heap.size) HBX.out.size (fun k hk => by rw [List.mem_singleton] at hk; omega))
    go_wp2_with fail
    refine bodyPost_ret (v := .tuple #[.agg #[.slice none 0 0, .slice none 0 0, .slice none 0 0], .int .i64 X.1, .int .i64 (X.2.1 : Nat)]) (by simp [results, Tryz.results21, go_sem, p0, p1, p2]) rfl ?_
    exact ⟨HBX.out.trans HK3.out, _, _, _, rfl, Or.inl ⟨HNZ.out, rfl, rfl, rfl⟩⟩

end Go.Proofs.YtcepppilgncdmaaGreatDoor

namespace Go.Proofs.YtcepppilgncdmaaGreatDoor
open Go.RowKit
attribute [local go_sem ↓] Go.wp_at_zero Go.wp_at_succ

/-- What lies in the rows that Assemble answers with, or nothing with an error. -/
def AsmRows (r : Int × Nat × ProgP) (B : Nat) (w : World) (vb vl vn : Value) : Prop :=
  (r.1 ≠ 0 ∧ vb = .slice none 0 0 ∧ vl = .slice none 0 0 ∧ vn = .slice none 0 0) ∨
     (r.1 = 0 ∧ ∃ ls ss ns, w.ownsRow B 5 1 vb r.2.2.bytes.length (byCells r.2.2.bytes) ∧ w.ownsRow B 38 4 vl ls.length (lnCells ls) ∧ w.ownsRow B 40 2 vn ns.length (nameCells ns) ∧ Say 0 ls ss r.2.2.stms ∧ Sized ls r.2.2.stms ∧ plainN ns = namesP r.2.2.stms ∧ ls.length ≤ 300 ∧ ns.length ≤ 300 ∧ r.2.2.bytes.length ≤ 300000)
theorem AsmRows.forms {r : Int × Nat × ProgP} {B : Nat} {w : World} {vb vl vn : Value} (h : AsmRows r B w vb vl vn) : (∃ a n c, vb = .slice a n c) ∧ (∃ a n c, vl = .slice a n c) ∧ (∃ a n c, vn = .slice a n c) := by
  rcases h with ⟨_, rfl, rfl, rfl⟩ | ⟨_, ls, ss, ns, h1, h2, h3, _⟩
  · exact ⟨⟨_, _, _, rfl⟩, ⟨_, _, _, rfl⟩, ⟨_, _, _, rfl⟩⟩
  · obtain ⟨a1, c1, rfl⟩ := own_form h1
    obtain ⟨a2, c2, rfl⟩ := own_form h2
    obtain ⟨a3, c3, rfl⟩ := own_form h3
    exact ⟨⟨_, _, _, rfl⟩, ⟨_, _, _, rfl⟩, ⟨_, _, _, rfl⟩⟩
theorem AsmRows.set {r : Int × Nat × ProgP} {B b : Nat} {w : World} {vb vl vn : Value} {xs : List Value} (h : AsmRows r B w vb vl vn) (hp : RowT w 33 b xs) (j : Nat) (u : Value) : AsmRows r B (w.setCell ⟨b, j, none⟩ u) vb vl vn := by
  rcases h with h | ⟨h0, ls, ss, ns, h1, h2, h3, h4⟩
  · exact Or.inl h
  · exact Or.inr ⟨h0, ls, ss, ns, ownsRow_setCell_other h1 (a := ⟨b, j, none⟩) (own_row_ne h1 hp (by decide)) u, ownsRow_setCell_other h2 (a := ⟨b, j, none⟩) (own_row_ne h2 hp (by decide)) u, ownsRow_setCell_other h3 (a := ⟨b, j, none⟩) (own_row_ne h3 hp (by decide)) u, h4⟩
theorem AsmRows.mono {r : Int × Nat × ProgP} {B C : Nat} {w : World} {vb vl vn : Value} (h : AsmRows r B w vb vl vn) (hc : C ≤ B) : AsmRows r C w vb vl vn := by
  rcases h with h | ⟨h0, ls, ss, ns, h1, h2, h3, h4⟩
  · exact Or.inl h
  · exact Or.inr ⟨h0, ls, ss, ns, own_monoA h1 hc, own_monoA h2 hc, own_monoA h3 hc, h4⟩
theorem AsmRows.below {r : Int × Nat × ProgP} {B : Nat} {w w' : World} {vb vl vn : Value} (h : AsmRows r B w vb vl vn) (hb : Below w.heap.size w w') : AsmRows r B w' vb vl vn := by
  rcases h with h | ⟨h0, ls, ss, ns, h1, h2, h3, h4⟩
  · exact Or.inl h
  · exact Or.inr ⟨h0, ls, ss, ns, ownsRow_belowP h1 hb, ownsRow_belowP h2 hb, ownsRow_belowP h3 hb, h4⟩
/-- The same, with the rows in one word. -/
def MasPost (r : Int × Nat × ProgP) (w : World) (e : Ending) (w' : World) : Prop :=
  Below w.heap.size w w' ∧ ∃ vb vl vn, e = .returned (.tuple #[.agg #[vb, vl, vn], .int .i64 r.1, .int .i64 (r.2.1 : Nat)]) ∧ AsmRows r w.heap.size w' vb vl vn

set_option maxRecDepth 100000 in
set_option maxHeartbeats 800000 in
theorem mAssemble_any (s : ByteArray) (w : World) (hs : s.size ≤ maxLen) (hm : MaxAt w) :
    Calls Tryz.prog 12 #[.string s] w (MasPost (assembleP (L s)) w) := by
  obtain ⟨r, hr⟩ : ∃ r, assembleP (L s) = r := ⟨_, rfl⟩
  have hb0 : Below w.heap.size w (w.alloc (.cells #[.slice none 0 0, .slice none 0 0, .slice none 0 0] 33)) := (Below.refl _ _).alloc (Nat.le_refl _) _
  have HP0 := hid (show RowT (w.alloc (.cells #[.slice none 0 0, .slice none 0 0, .slice none 0 0] 33)) 33 w.heap.size [.slice none 0 0, .slice none 0 0, .slice none 0 0] from RowT.new w 33 [.slice none 0 0, .slice none 0 0, .slice none 0 0])
  have hsz : w.heap.size ≤ (w.alloc (.cells #[.slice none 0 0, .slice none 0 0, .slice none 0 0] 33)).heap.size := hb0.size
  have HB0 := hid hb0
  have HC := hid (Assemble_any s (w.alloc (.cells #[.slice none 0 0, .slice none 0 0, .slice none 0 0] 33)) hs (hm.below hb0))
  rw [hr] at HC ⊢
  clear hm hb0 hr
  go_enter Tryz.func12, Tryz.ntmps12
  go_upto_region 1 with fail
  generalize w.alloc (.cells #[.slice none 0 0, .slice none 0 0, .slice none 0 0] 33) = w0 at *
  go_wp2_with fail
  refine HC.out.mono ?_
  rintro e w1 ⟨hb1, vb, vl, vn, rfl, hrows⟩
  have HR := hid (show AsmRows r w0.heap.size w1 vb vl vn from hrows)
  clear hrows
  have HB1 := hid (HB0.out.trans (hb1.mono hsz))
  have HPX := hid (HP0.out.below hb1)
  clear hb1 HP0 HC
  obtain ⟨⟨a1, n1, c1, h1⟩, ⟨a2, n2, c2, h2⟩, ⟨a3, n3, c3, h3⟩⟩ := HR.out.forms
  subst h1 h2 h3
  have p0 : w1.cell? ⟨w.heap.size, 0, none⟩ = some (.slice none 0 0) := HPX.out.cell 0 (by simp)
  have p1 : w1.cell? ⟨w.heap.size, 1, none⟩ = some (.slice none 0 0) := HPX.out.cell 1 (by simp)
  have p2 : w1.cell? ⟨w.heap.size, 2, none⟩ = some (.slice none 0 0) := HPX.out.cell 2 (by simp)
  have g0 := HPX.out.free 0
  have g1 := HPX.out.free 1
  have g2 := HPX.out.free 2
  have HR1 := hid ((HR.out.mono hsz).set HPX.out 0 (.slice a1 n1 c1))
  have HP1 := hid (HPX.out.set 0 (.slice a1 n1 c1))
  have HR2 := hid (HR1.out.set HP1.out 1 (.slice a2 n2 c2))
  have HP2 := hid (HP1.out.set 1 (.slice a2 n2 c2))
  have HR3 := hid (HR2.out.set HP2.out 2 (.slice a3 n3 c3))
  have HP3 := hid (HP2.out.set 2 (.slice a3 n3 c3))
  have HK3 := hid (((((Keeps.refl [w.heap.size] w1).setCell (p := ⟨w.heap.size, 0, none⟩) (by simp) (.slice a1 n1 c1)).setCell (p := ⟨w.heap.size, 1, none⟩) (by simp) (.slice a2 n2 c2)).setCell (p := ⟨w.heap.size, 2, none⟩) (by simp) (.slice a3 n3 c3)).below (B := w.heap.size) HB1.out.size (fun k hk => by rw [List.mem_singleton] at hk; omega))
  go_wp2_with fail
  generalize ((w1.setCell ⟨w.heap.size, 0, none⟩ (.slice a1 n1 c1)).setCell ⟨w.heap.size, 1, none⟩ (.slice a2 n2 c2)).setCell ⟨w.heap.size, 2, none⟩ (.slice a3 n3 c3) = w6 at HR3 HP3 HK3 ⊢
  have r0 : w6.cell? ⟨w.heap.size, 0, none⟩ = some (.slice a1 n1 c1) := HP3.out.cell 0 (by simp)
  have r1 : w6.cell? ⟨w.heap.size, 1, none⟩ = some (.slice a2 n2 c2) := HP3.out.cell 1 (by simp)
  have r2 : w6.cell? ⟨w.heap.size, 2, none⟩ = some (.slice a3 n3 c3) := HP3.out.cell 2 (by simp)
  refine bodyPost_ret (v := .tuple #[.agg #[.slice a1 n1 c1, .slice a2 n2 c2, .slice a3 n3 c3], .int .i64 r.1, .int .i64 (r.2.1 : Nat)]) (by simp [results, Tryz.results12, go_sem, r0, r1, r2]) rfl ?_
  exact ⟨HB1.out.trans HK3.out, _, _, _, rfl, HR3.out⟩

end Go.Proofs.YtcepppilgncdmaaGreatDoor

namespace Go.Proofs.YtcepppilgncdmaaGreatDoor

/-- The digits of a number, ahead of more. -/
def digitsTo : Nat → Nat → List UInt8 → List UInt8
  | 0, _, l => l
  | f + 1, n, l => if n < 10 then (48 + UInt8.ofNat n) :: l else digitsTo f (n / 10) ((48 + UInt8.ofNat (n % 10)) :: l)

def pickI (c n : Int) : Int := (if c < 0 then -(c + 1) else c) % n

theorem pickI_bd (c n : Int) (h : 0 < n) : 0 ≤ pickI c n ∧ pickI c n < n := by
  unfold pickI
  exact ⟨Int.emod_nonneg _ (by omega), Int.emod_lt_of_pos _ h⟩

def signish : List UInt8 → Prop
  | [] => True
  | c :: _ => (c.toNat : Int) = 43 ∨ (c.toNat : Int) = 45 ∨ (c.toNat : Int) = 42

/-- t is a text of a term of the number n, whatever sign follows. -/
structure TermOf (at_ : Int) (N : List (List UInt8 × Int)) (t : List UInt8) (n : Int) : Prop where
  reads : ∀ r, signish r → term at_ N (t ++ r) = (n, t.length, 0)
  lo : -1000000 ≤ n
  hi : n ≤ 1000000
  head : ∃ c r, t = c :: r ∧ (c.toNat : Int) ≠ 45

theorem TermOf.readT {at_ : Int} {N : List (List UInt8 × Int)} {t : List UInt8} {n : Int} (h : TermOf at_ N t n) (r : List UInt8) (hr : signish r) : readT at_ N (t ++ r) = (n, r, 0) := by
  have h1 := h.lo
  have h2 := h.hi
  unfold Go.Proofs.YtcepppilgncdmaaGreatDoor.readT
  rw [h.reads r hr]
  simp only
  rw [if_neg (by simp), if_neg (by omega), List.drop_left]

theorem readT_len (at_ : Int) (N : List (List UInt8 × Int)) (l : List UInt8) {x : Int} {r : List UInt8} {y : Int} (h : readT at_ N l = (x, r, y)) : r.length ≤ l.length := by
  unfold readT at h
  split at h
  · injection h with _ h; injection h with h _; rw [← h]; simp
  · split at h
    · injection h with _ h; injection h with h _; rw [← h]; simp
    · injection h with _ h; injection h with h _; rw [← h]; simp

theorem eval_fuel (at_ : Int) (N : List (List UInt8 × Int)) : ∀ (n : Nat) (l : List UInt8), l.length ≤ n → ∀ f g sm sg, l.length ≤ f → l.length ≤ g → eval at_ N (f + 1) sm sg l = eval at_ N (g + 1) sm sg l := by
  intro n
  induction n with
  | zero =>
    intro l hl f g sm sg _ _
    have : l = [] := List.eq_nil_of_length_eq_zero (by omega)
    subst this
    rw [eval_bad (x := 0) (r := []) (y := 4) rfl (by omega), eval_bad (x := 0) (r := []) (y := 4) rfl (by omega)]
  | succ n ih =>
    intro l hl f g sm sg hf hg
    rcases hr : readT at_ N l with ⟨x, r, y⟩
    have hlen := readT_len at_ N l hr
    by_cases hy : y = 0
    · subst hy
      rcases hk : reck sm sg x with ⟨z, q⟩
      by_cases hq : q = 0
      · subst hq
        rw [eval_on hr f hk, eval_on hr g hk]
        cases r with
        | nil => rfl
        | cons c r =>
          simp only [evalS]
          simp only [List.length_cons] at hlen
          split
          · obtain ⟨f', rfl⟩ : ∃ f', f = f' + 1 := ⟨f - 1, by omega⟩
            obtain ⟨g', rfl⟩ : ∃ g', g = g' + 1 := ⟨g - 1, by omega⟩
            exact ih r (by omega) f' g' z _ (by omega) (by omega)
          · rfl
      · rw [eval_far hr f hk hq, eval_far hr g hk hq]
    · rw [eval_bad hr hy, eval_bad hr hy]

theorem evalS_fuel (at_ : Int) (N : List (List UInt8 × Int)) (r : List UInt8) (f g : Nat) (v : Int) (hf : r.length ≤ f) (hg : r.length ≤ g) : evalS at_ N f v r = evalS at_ N g v r := by
  cases r with
  | nil => rfl
  | cons c r =>
    simp only [List.length_cons] at hf hg
    simp only [evalS]
    split
    · obtain ⟨f', rfl⟩ : ∃ f', f = f' + 1 := ⟨f - 1, by omega⟩
      obtain ⟨g', rfl⟩ : ∃ g', g = g' + 1 := ⟨g - 1, by omega⟩
      exact eval_fuel at_ N _ r (Nat.le_refl _) f' g' v _ (by omega) (by omega)
    · rfl

/-- l is the text so far, v what it comes to. -/
structure SoFar (at_ : Int) (N : List (List UInt8 × Int)) (l : List UInt8) (v : Int) : Prop where
  goes : ∀ r, signish r → ∀ f, r.length ≤ f → value at_ N (l ++ r) = evalS at_ N f v r
  lo : -1000000 ≤ v
  hi : v ≤ 1000000

theorem SoFar.first {at_ : Int} {N : List (List UInt8 × Int)} {t : List UInt8} {n : Int} (h : TermOf at_ N t n) : SoFar at_ N t n := by
  have h1 := h.lo
  have h2 := h.hi
  refine ⟨fun r hr f hf => ?_, h1, h2⟩
  have hrd := h.readT r hr
  obtain ⟨c, t', rfl, hc⟩ := h.head
  have hk : reck 0 43 n = (n, 0) := by
    unfold reck step
    simp only [Int.zero_add, if_true]
    rw [if_neg (by omega)]
  rw [List.cons_append, value_plain _ _ _ _ hc, ← List.cons_append, eval_on hrd _ hk]
  exact evalS_fuel _ _ _ _ _ _ (by simp; omega) hf

theorem SoFar.minus {at_ : Int} {N : List (List UInt8 × Int)} {t : List UInt8} {n : Int} (h : TermOf at_ N t n) : SoFar at_ N (45 :: t) (-n) := by
  have h1 := h.lo
  have h2 := h.hi
  refine ⟨fun r hr f hf => ?_, by omega, by omega⟩
  have hrd := h.readT r hr
  have hk : reck 0 45 n = (-n, 0) := by
    unfold reck step
    simp
    omega
  rw [List.cons_append, value_minus _ _ _ _ (by decide)]
  simp only [evalS]
  rw [if_pos (by decide)]
  rw [show ((45 : UInt8).toNat : Int) = 45 from by decide, eval_on hrd _ hk]
  exact evalS_fuel _ _ _ _ _ _ (by simp) hf

theorem SoFar.more {at_ : Int} {N : List (List UInt8 × Int)} {l t : List UInt8} {v n z : Int} (h : SoFar at_ N l v) (ht : TermOf at_ N t n) (c : UInt8) (hc : (c.toNat : Int) = 43 ∨ (c.toNat : Int) = 45 ∨ (c.toNat : Int) = 42)
    (hk : reck v c.toNat n = (z, 0)) : SoFar at_ N (l ++ c :: t) z := by
  obtain ⟨z1, z2⟩ := reck_bd hk
  refine ⟨fun r hr f hf => ?_, z1, z2⟩
  have hrd := ht.readT r hr
  rw [List.append_assoc, List.cons_append, h.goes (c :: (t ++ r)) hc ((t ++ r).length + 1) (by simp)]
  simp only [evalS]
  rw [if_pos hc, eval_on hrd _ hk]
  exact evalS_fuel _ _ _ _ _ _ (by simp) hf

theorem SoFar.far {at_ : Int} {N : List (List UInt8 × Int)} {l t : List UInt8} {v n z : Int} (h : SoFar at_ N l v) (ht : TermOf at_ N t n) (c : UInt8) (hc : (c.toNat : Int) = 43 ∨ (c.toNat : Int) = 45 ∨ (c.toNat : Int) = 42)
    (hk : reck v c.toNat n = (z, 7)) : value at_ N (l ++ c :: t) = (0, 7) := by
  have hrd := ht.readT [] trivial
  rw [List.append_nil] at hrd
  rw [h.goes (c :: t) hc (t.length + 1) (by simp)]
  simp only [evalS]
  rw [if_pos hc, eval_far hrd _ hk (by omega)]

theorem SoFar.done {at_ : Int} {N : List (List UInt8 × Int)} {l : List UInt8} {v : Int} (h : SoFar at_ N l v) : value at_ N l = (v, 0) := by
  have := h.goes [] trivial 0 (by simp)
  rw [List.append_nil] at this
  rw [this]; rfl

theorem reck_in {v c n : Int} (h1 : -1000000 ≤ step v c n) (h2 : step v c n ≤ 1000000) : reck v c n = (step v c n, 0) := by
  unfold reck; rw [if_neg (by omega)]
theorem reck_out {v c n : Int} (h : step v c n < -1000000 ∨ 1000000 < step v c n) : reck v c n = (0, 7) := by
  unfold reck; rw [if_pos h]

/-! The terms: the address, a number's digits, a name. -/

theorem termOf_dot (at_ : Int) (N : List (List UInt8 × Int)) (h1 : -1000000 ≤ at_) (h2 : at_ ≤ 1000000) : TermOf at_ N [46] at_ :=
  ⟨fun r _ => rfl, h1, h2, 46, [], rfl, by decide⟩

def foldD : Int → List UInt8 → Int
  | v, [] => v
  | v, c :: r => foldD (min (v * 10 + hexv c.toNat) 1000001) r

theorem digit_byte (d : Nat) (h : d < 10) : ((48 + UInt8.ofNat d).toNat : Int) = 48 + d := by
  rw [UInt8.toNat_add, UInt8.toNat_ofNat']
  have : (48 : UInt8).toNat = 48 := rfl
  omega

theorem hexv_digit (d : Nat) (h : d < 10) : hexv ((48 + UInt8.ofNat d).toNat : Int) = d := by
  rw [digit_byte d h]; unfold hexv; rw [if_pos (by omega)]; omega

def allDig (l : List UInt8) : Prop := ∀ c ∈ l, 48 ≤ (c.toNat : Int) ∧ (c.toNat : Int) ≤ 57

theorem digitsTo_all : ∀ (f n : Nat) (l : List UInt8), allDig l → allDig (digitsTo f n l) := by
  intro f
  induction f with
  | zero => intro n l h; exact h
  | succ f ih =>
    intro n l h
    simp only [digitsTo]
    split
    · rename_i hn
      intro c hc
      rcases List.mem_cons.1 hc with rfl | hc
      · rw [digit_byte n hn]; omega
      · exact h c hc
    · apply ih
      intro c hc
      rcases List.mem_cons.1 hc with rfl | hc
      · rw [digit_byte (n % 10) (by omega)]; omega
      · exact h c hc

theorem digitsTo_fold : ∀ (f n : Nat) (l : List UInt8), n < f → n ≤ 1000000 → foldD 0 (digitsTo f n l) = foldD n l := by
  intro f
  induction f with
  | zero => intro n l h _; omega
  | succ f ih =>
    intro n l h hn
    simp only [digitsTo]
    split
    · rename_i h10
      simp only [foldD]
      rw [hexv_digit n h10]
      congr 1
      omega
    · rename_i h10
      rw [ih (n / 10) _ (by omega) (by omega)]
      simp only [foldD]
      rw [hexv_digit (n % 10) (by omega)]
      congr 1
      omega

theorem digitsTo_ne : ∀ (f n : Nat) (l : List UInt8), 0 < f → ∃ c r, digitsTo f n l = c :: r := by
  intro f
  induction f with
  | zero => intro n l h; omega
  | succ f ih =>
    intro n l _
    simp only [digitsTo]
    split
    · exact ⟨_, _, rfl⟩
    · cases f with
      | zero => exact ⟨_, _, rfl⟩
      | succ f => exact ih _ _ (by omega)

theorem digs_stop (v : Int) (k : Nat) (r : List UInt8) (h : signish r) : digs 10 v k r = (v, k) := by
  cases r with
  | nil => rfl
  | cons c r =>
    have hx : hexv (c.toNat : Int) = 16 := by
      unfold hexv
      have h' : (c.toNat : Int) = 43 ∨ (c.toNat : Int) = 45 ∨ (c.toNat : Int) = 42 := h
      rw [if_neg (by omega), if_neg (by omega)]
    simp only [digs]
    rw [if_neg (by rw [hx]; omega)]

theorem digs_digits : ∀ (ds : List UInt8) (v : Int) (k : Nat) (r : List UInt8), allDig ds → digs 10 v k (ds ++ r) = digs 10 (foldD v ds) (k + ds.length) r := by
  intro ds
  induction ds with
  | nil => intro v k r _; rfl
  | cons c ds ih =>
    intro v k r h
    have hc := h c (List.mem_cons_self ..)
    have hx : hexv (c.toNat : Int) < 10 := by unfold hexv; rw [if_pos hc]; omega
    simp only [List.cons_append, digs, foldD]
    rw [if_pos hx, ih _ _ _ (fun d hd => h d (List.mem_cons_of_mem _ hd))]
    simp only [List.length_cons]
    congr 1
    omega

theorem termOf_number (at_ : Int) (N : List (List UInt8 × Int)) (n : Nat) (hn : n ≤ 1000000) : TermOf at_ N (digitsTo (n + 1) n []) n := by
  have ha := digitsTo_all (n + 1) n [] (by intro c hc; cases hc)
  have hf := digitsTo_fold (n + 1) n [] (by omega) hn
  obtain ⟨c, t, ht⟩ := digitsTo_ne (n + 1) n [] (by omega)
  have hc := ha c (by rw [ht]; exact List.mem_cons_self ..)
  refine ⟨fun r hr => ?_, by omega, by omega, c, t, ht, by omega⟩
  have hd := digs_digits (digitsTo (n + 1) n []) 0 0 r ha
  rw [digs_stop _ _ r hr, hf] at hd
  have hd2 : digs 10 0 0 (digitsTo (n + 1) n [] ++ r) = ((n : Int), (digitsTo (n + 1) n []).length) := by rw [hd, Nat.zero_add]; rfl
  have hdig : digB (c.toNat : Int) = true := by unfold digB; simp; omega
  rw [ht] at hd2 ⊢
  rw [List.cons_append] at hd2 ⊢
  simp only [term]
  rw [if_pos hdig, hd2]

theorem wordLen_all : ∀ (t r : List UInt8), allNb t = true → signish r → wordLen (t ++ r) = t.length := by
  intro t
  induction t with
  | nil =>
    intro r _ hr
    cases r with
    | nil => rfl
    | cons c r =>
      have h' : (c.toNat : Int) = 43 ∨ (c.toNat : Int) = 45 ∨ (c.toNat : Int) = 42 := hr
      have hn : nbB (c.toNat : Int) = false := by unfold nbB; apply decide_eq_false; omega
      simp [wordLen, hn]
  | cons c t ih =>
    intro r h hr
    simp only [allNb, List.all_cons, Bool.and_eq_true] at h
    simp only [List.cons_append, wordLen]
    rw [if_pos h.1, ih r h.2 hr]
    rfl

theorem termOf_name (at_ : Int) (N : List (List UInt8 × Int)) (t : List UInt8) (n : Int) (hn : nameB t = true) (hf : findN N t = some n) (h1 : -1000000 ≤ n) (h2 : n ≤ 1000000) : TermOf at_ N t n := by
  cases t with
  | nil => simp [nameB] at hn
  | cons c t =>
    have hn0 := hn
    simp only [nameB, Bool.and_eq_true, Bool.not_eq_true'] at hn
    obtain ⟨⟨⟨_, hd⟩, _⟩, ha⟩ := hn
    have hc : nbB (c.toNat : Int) = true := by simp only [allNb, List.all_cons, Bool.and_eq_true] at ha; exact ha.1
    have hc' := of_decide_eq_true hc
    refine ⟨fun r hr => ?_, h1, h2, c, t, rfl, by omega⟩
    have hw := wordLen_all (c :: t) r ha hr
    have hnm : named ((c :: t) ++ r) N = (n, (c :: t).length, 0) := by
      unfold named
      rw [hw, List.take_left, if_pos hn0, hf]
    rw [List.cons_append] at hnm ⊢
    simp only [term]
    rw [if_neg (by rw [hd]; simp), if_neg (by omega), if_neg (by omega), if_neg (by omega), hnm]

/-! The names that are handed in. -/

/-- The names that are handed in: "one", and a name for each of the first k values. -/
def namesOf (zs : List Int) (k : Nat) : List (List UInt8 × Int) := ([111, 110, 101], 1) :: (List.range k).map fun j => ([118, 48 + UInt8.ofNat j], pickI (zs.getD j 0) 2000001 - 1000000)

theorem namesOf_succ (zs : List Int) (k : Nat) : namesOf zs (k + 1) = namesOf zs k ++ [([118, 48 + UInt8.ofNat k], pickI (zs.getD k 0) 2000001 - 1000000)] := by
  unfold namesOf
  rw [List.range_succ, List.map_append, List.cons_append]; rfl
theorem namesOf_length (zs : List Int) (k : Nat) : (namesOf zs k).length = k + 1 := by simp [namesOf]

theorem findN_append (l m : List (List UInt8 × Int)) (x : List UInt8) (h : ∀ p ∈ l, p.1 ≠ x) : findN (l ++ m) x = findN m x := by
  induction l with
  | nil => rfl
  | cons p l ih =>
    obtain ⟨a, b⟩ := p
    have hp : a ≠ x := h (a, b) (List.mem_cons_self ..)
    simp only [List.cons_append, findN]
    rw [if_neg hp, ih (fun p hp => h p (List.mem_cons_of_mem _ hp))]
theorem findN_more (l m : List (List UInt8 × Int)) (x : List UInt8) (v : Int) (h : findN l x = some v) : findN (l ++ m) x = some v := by
  induction l with
  | nil => cases h
  | cons p l ih =>
    obtain ⟨a, b⟩ := p
    simp only [List.cons_append, findN] at h ⊢
    split
    · rename_i ha; rw [if_pos ha] at h; exact h
    · rename_i ha; rw [if_neg ha] at h; exact ih h

theorem names_apart (zs : List Int) (k j : Nat) (hk : k ≤ j) (hj : j < 10) : ∀ p ∈ namesOf zs k, p.1 ≠ [118, 48 + UInt8.ofNat j] := by
  intro p hp
  unfold namesOf at hp
  rcases List.mem_cons.1 hp with rfl | hp
  · intro h; injection h with h _; exact absurd h (by decide)
  · obtain ⟨i, hi, rfl⟩ := List.mem_map.1 hp
    have hi := List.mem_range.1 hi
    intro h
    injection h with _ h
    injection h with h _
    have e1 := digit_byte i (by omega)
    have e2 := digit_byte j (by omega)
    rw [h] at e1
    omega

theorem find_names (zs : List Int) (k : Nat) (hk : k ≤ 9) : ∀ i (h : i < (namesOf zs k).length), findN (namesOf zs k) (namesOf zs k)[i].1 = some (namesOf zs k)[i].2 := by
  induction k with
  | zero =>
    intro i h
    rw [namesOf_length] at h
    have : i = 0 := by omega
    subst this
    rfl
  | succ k ih =>
    intro i h
    rw [namesOf_length] at h
    have hl := namesOf_length zs k
    simp only [namesOf_succ]
    by_cases hi : i < k + 1
    · rw [List.getElem_append_left (by omega)]
      exact findN_more _ _ _ _ (ih (by omega) i (by omega))
    · have : i = k + 1 := by omega
      subst this
      rw [List.getElem_append_right (by omega)]
      simp only [hl, Nat.sub_self, List.getElem_cons_zero]
      rw [findN_append _ _ _ (names_apart zs k k (Nat.le_refl _) (by omega))]
      simp [findN]

theorem names_good (zs : List Int) (k : Nat) (hk : k ≤ 9) : ∀ i (h : i < (namesOf zs k).length), nameB (namesOf zs k)[i].1 = true ∧ -1000000 ≤ (namesOf zs k)[i].2 ∧ (namesOf zs k)[i].2 ≤ 1000000 ∧ (namesOf zs k)[i].1.length ≤ 3 := by
  intro i h
  have hm : (namesOf zs k)[i] ∈ namesOf zs k := List.getElem_mem h
  generalize (namesOf zs k)[i] = p at hm ⊢
  unfold namesOf at hm
  rcases List.mem_cons.1 hm with rfl | hm
  · exact ⟨by decide, by decide, by decide, by decide⟩
  · obtain ⟨j, hj, rfl⟩ := List.mem_map.1 hm
    have hj := List.mem_range.1 hj
    have hb := pickI_bd (zs.getD j 0) 2000001 (by omega)
    refine ⟨?_, by show -1000000 ≤ pickI (zs.getD j 0) 2000001 - 1000000; omega, by show pickI (zs.getD j 0) 2000001 - 1000000 ≤ 1000000; omega, by show 2 ≤ 3; decide⟩
    show nameB [118, 48 + UInt8.ofNat j] = true
    have hd := digit_byte j (by omega)
    have h1 : nbB ((48 + UInt8.ofNat j).toNat : Int) = true := by rw [hd]; unfold nbB; apply decide_eq_true; omega
    have h2 : regB [118, 48 + UInt8.ofNat j] = false := by simp [regB]
    simp only [nameB, allNb, List.all_cons, List.all_nil, h1, h2]
    rfl

theorem termOf_names (at_ : Int) (zs : List Int) (k : Nat) (hk : k ≤ 9) (i : Nat) (h : i < (namesOf zs k).length) : TermOf at_ (namesOf zs k) (namesOf zs k)[i].1 (namesOf zs k)[i].2 := by
  obtain ⟨h1, h2, h3, _⟩ := names_good zs k hk i h
  exact termOf_name at_ _ _ _ h1 (find_names zs k hk i h) h2 h3

end Go.Proofs.YtcepppilgncdmaaGreatDoor

namespace Go.Proofs.YtcepppilgncdmaaGreatDoor
open Go.RowKit

set_option maxHeartbeats 400000 in
theorem pick_any (c n : Int) (w : World) (hc : -9223372036854775808 ≤ c ∧ c ≤ 9223372036854775807) (hn : 0 < n ∧ n ≤ 9223372036854775807) :
    Calls Tryz.prog 15 #[.int .i64 c, .int .i64 n] w fun e w' => e = .returned (.int .i64 (pickI c n)) ∧ w' = w := by
  obtain ⟨c1, c2⟩ := hc
  obtain ⟨n1, n2⟩ := hn
  by_cases h : c < 0
  · have HP := hid (show -(c + 1).tmod n = pickI c n by
      unfold pickI
      rw [if_pos h, ← Int.neg_tmod, Int.tmod_eq_emod_of_nonneg (by omega)])
    go_enter Tryz.func15, Tryz.ntmps15
    go_wp2
    go_ret
    exact ⟨ret_int HP.out, rfl⟩
  · have HP := hid (show c % n = pickI c n by
      unfold pickI
      rw [if_neg h])
    go_enter Tryz.func15, Tryz.ntmps15
    go_wp2
    go_ret
    exact ⟨ret_int HP.out, rfl⟩

theorem conv_one (w : World) (x : Int) : (convert 30 9 (.slice (some ⟨w.heap.size, 0, none⟩) 1 1)).run Tryz.prog (w.alloc (.cells #[.int .u8 x] 5)) = .ok (.string ⟨#[UInt8.ofNat x.toNat]⟩) (w.alloc (.cells #[.int .u8 x] 5)) := by
  rw [run_convert_bytes_string _ 30 9 5 _ 1 1 Tryz.underlying30 Tryz.underlying5 Tryz.underlying9]
  rw [run_bytesToString _ _ 1 1 [x]]
  · rfl
  · refine run_loadCells_list (P := Tryz.prog) (w := w.alloc (.cells #[.int .u8 x] 5)) ⟨w.heap.size, 0, none⟩ [Value.int IntKind.u8 x] ?_
    intro j v hv
    cases j with
    | zero =>
      simp at hv
      subst hv
      simp [go_sem, Addr.add]
    | succ j => simp at hv

set_option maxRecDepth 100000 in
set_option maxHeartbeats 400000 in
theorem number_any (n : Nat) (w : World) (hn : n < 1000000) :
    Calls Tryz.prog 14 #[.int .i64 n] w fun e w' => ∃ t : ByteArray, L t = digitsTo (n + 1) n [] ∧ t.size ≤ n + 1 ∧ e = .returned (.string t) ∧ Below w.heap.size w w' := by
  have hcv := conv_one
  go_enter Tryz.func14, Tryz.ntmps14
  go_wp2
  go_loopw [0, 3] (fun x y wr => ∃ (k f : Nat) (t : ByteArray), k ≤ n ∧ k < f ∧ x = .int .i64 k ∧ y = .string t ∧ t.size + k ≤ n ∧ digitsTo (n + 1) n [] = digitsTo f k (L t) ∧ Below w.heap.size w wr) (fun x _ _ => (intOf x).toNat)
  case atStart => exact ⟨n, n + 1, ⟨#[]⟩, Nat.le_refl _, by omega, rfl, rfl, by show 0 + n ≤ n; omega, rfl, Below.refl _ _⟩
  case round =>
    obtain ⟨k, f, t, hk, hkf, rfl, rfl, hts, hd, hb⟩ := hrel
    have HB := hid hb
    have HD := hid hd
    clear hd hb
    have hbz : w.heap.size ≤ wr.heap.size := HB.out.size
    by_cases h10 : 10 ≤ k
    · have hi : (10 : Int) ≤ k := by omega
      go_wp2
      go_roundw
      case rel =>
        refine ⟨k / 10, f - 1, _, by omega, by omega, by go_num, rfl, ?_, ?_, HB.out.alloc hbz _⟩
        · rw [ByteArray.size_append]; show 1 + t.size + k / 10 ≤ n; omega
        · rw [HD.out, L_push]
          obtain ⟨g, rfl⟩ : ∃ g, f = g + 1 := ⟨f - 1, by omega⟩
          simp only [digitsTo]
          rw [if_neg (by omega)]
          rfl
      case measure => simp [intOf]; omega
    · have hi : ¬ (10 : Int) ≤ k := by omega
      go_wp2
      go_ret
      refine ⟨_, ?_, ?_, rfl, HB.out.alloc hbz _⟩
      · rw [HD.out, L_push]
        obtain ⟨g, rfl⟩ : ∃ g, f = g + 1 := ⟨f - 1, by omega⟩
        simp only [digitsTo]
        rw [if_pos (by omega)]
      · rw [ByteArray.size_append]; show 1 + t.size ≤ n + 1; omega

end Go.Proofs.YtcepppilgncdmaaGreatDoor

namespace Go.Proofs.YtcepppilgncdmaaGreatDoor
open Go.RowKit
attribute [local go_sem ↓] Go.wp_at_zero Go.wp_at_succ

def i64ok (z : Int) : Prop := -9223372036854775808 ≤ z ∧ z ≤ 9223372036854775807
theorem pickI_nat (c n : Int) (h : 0 < n) : ∃ m : Nat, pickI c n = m ∧ (m : Int) < n := by
  have := pickI_bd c n h
  exact ⟨(pickI c n).toNat, by omega, by omega⟩
theorem pick_nat (c n : Int) (m : Nat) (w : World) (hc : i64ok c) (hn : 0 < n ∧ n ≤ 9223372036854775807) (hm : pickI c n = m) :
    Calls Tryz.prog 15 #[.int .i64 c, .int .i64 n] w fun e w' => e = .returned (.int .i64 (m : Int)) ∧ w' = w := by
  rw [← hm]; exact pick_any c n w hc hn

/-- A list of numbers lies in the world. -/
def IntsAt (w : World) (a : Option Addr) (zs : List Int) : Prop :=
  zs = [] ∨ ∃ b off, a = some ⟨b, off, none⟩ ∧ b < w.heap.size ∧ ∀ i (h : i < zs.length), w.cell? ⟨b, off + i, none⟩ = some (.int .i64 zs[i]) ∧ i64ok zs[i]

theorem lineCells_length (outs : List (ByteArray × Nat)) : (lineCells outs).length = outs.length * 4 := by
  induction outs with
  | nil => rfl
  | cons x r ih => simp only [lineCells, List.length_cons, ih]; omega
theorem lineCells_at (outs : List (ByteArray × Nat)) : ∀ (i : Nat) (h : i < outs.length), (lineCells outs)[i * 4]? = some (.string outs[i].1) ∧ (lineCells outs)[i * 4 + 1]? = some (.int .i64 (outs[i].2 : Nat)) ∧ (lineCells outs)[i * 4 + 2]? = some (.int .i64 0) ∧ (lineCells outs)[i * 4 + 3]? = some (.int .i64 0) := by
  induction outs with
  | nil => intro i h; simp at h
  | cons x r ih =>
    intro i h
    cases i with
    | zero => simp [lineCells]
    | succ i =>
      have := ih i (by simpa using h)
      rw [show (i + 1) * 4 = i * 4 + 1 + 1 + 1 + 1 from by omega]
      simp only [lineCells, show i * 4 + 1 + 1 + 1 + 1 + 1 = (i * 4 + 1) + 1 + 1 + 1 + 1 from rfl, show i * 4 + 1 + 1 + 1 + 1 + 2 = (i * 4 + 2) + 1 + 1 + 1 + 1 from by omega, show i * 4 + 1 + 1 + 1 + 1 + 3 = (i * 4 + 3) + 1 + 1 + 1 + 1 from by omega, List.getElem?_cons_succ, List.getElem_cons_succ]
      exact this

/-- The lines of an answer lie in the world. -/
theorem lines_lie {w : World} {base : Nat} {vl : Value} {outs : List (ByteArray × Nat)} (h : w.ownsRow base 38 4 vl outs.length (lineCells outs)) (h0 : 0 < outs.length) :
    ∃ g cap, vl = .slice (some ⟨g, 0, none⟩) outs.length cap ∧ base ≤ g ∧ g < w.heap.size ∧ ∀ i (h : i < outs.length), w.cell? ⟨g, i * 4, none⟩ = some (.string outs[i].1) ∧ w.cell? ⟨g, i * 4 + 1, none⟩ = some (.int .i64 (outs[i].2 : Nat)) ∧ w.cell? ⟨g, i * 4 + 2, none⟩ = some (.int .i64 0) ∧ w.cell? ⟨g, i * 4 + 3, none⟩ = some (.int .i64 0) := by
  obtain ⟨g, cap, rfl, hb, hlt⟩ := h.form (by omega)
  refine ⟨g, cap, rfl, hb, hlt, fun i hi => ?_⟩
  obtain ⟨c1, c2, c3, c4⟩ := lineCells_at outs i hi
  rw [h.cellAt (i * 4) (by omega), h.cellAt (i * 4 + 1) (by omega), h.cellAt (i * 4 + 2) (by omega), h.cellAt (i * 4 + 3) (by omega)]
  exact ⟨c1, c2, c3, c4⟩

/-- An answer's lines, as texts and numbers. -/
theorem outs_get {outs : List (ByteArray × Nat)} {r : List (List UInt8 × Nat)} (h : (outs.map fun x : ByteArray × Nat => (L x.1, x.2)) = r) (i : Nat) (hi : i < outs.length) (hr : i < r.length) : L outs[i].1 = r[i].1 ∧ outs[i].2 = r[i].2 := by
  subst h
  simp
theorem outs_len {outs : List (ByteArray × Nat)} {r : List (List UInt8 × Nat)} (h : (outs.map fun x : ByteArray × Nat => (L x.1, x.2)) = r) : outs.length = r.length := by
  subst h
  simp

end Go.Proofs.YtcepppilgncdmaaGreatDoor
