/-
  The program's Assemble (packages assemble and mason).
  The program's Assemble, as package mason hands it on.
  What the small functions of package masonkeep answer: which of n things a number speaks of, and the digits of a number.
  What the statements of package masonkeep share: lists of numbers, the lines of an answer in memory.
  What the statements on programs of package masonkeep share: the first look.
  Lines as a text (package masonkeep).
  Again (package masonkeep): of any text, what Expand answers is a text of which the same is answered and made.
-/
import Derived.Test.YtcepppilgncdmaaGreatDoorBS23
import Derived.Test.YtcepppilgncdmaaGreatDoorBS28
import Derived.Test.YtcepppilgncdmaaGreatDoorBS14
import Derived.Test.YtcepppilgncdmaaGreatDoorBS03
import Derived.Deep.CutBlock
import Derived.Deep.DeepCutAuto
import Derived.Deep.LoopGhost
import Derived.BigQuiet
import Derived.Lib.BufferMore
import Derived.Laws.IdiomStrings
namespace Go.Proofs.YtcepppilgncdmaaGreatDoor
open Go.RowKit
attribute [local go_sem ↓] Go.wp_at_zero Go.wp_at_succ

/-- A program's lines, as they lie in memory, say what plain ones do. -/
def lnOf (s : StmP) (ln : LnV) : Prop := L ln.t = s.txt ∧ ln.frm = s.frm ∧ (ln.at_ : Int) = s.at_ ∧ ln.size = sizeP s
/-- What Assemble answers: an error and where, and nothing besides; or a program, in rows of its own. -/
def AssemblePost (r : Int × Nat × ProgP) (w : World) (e : Ending) (w' : World) : Prop :=
  Below w.heap.size w w' ∧ ∃ vb vl vn, e = .returned (.tuple #[.agg #[vb, vl, vn], .int .i64 r.1, .int .i64 (r.2.1 : Nat)]) ∧
    ((r.1 ≠ 0 ∧ vb = .slice none 0 0 ∧ vl = .slice none 0 0 ∧ vn = .slice none 0 0) ∨
     (r.1 = 0 ∧ ∃ ls ss ns, w'.ownsRow w.heap.size 5 1 vb r.2.2.bytes.length (byCells r.2.2.bytes) ∧ w'.ownsRow w.heap.size 38 4 vl ls.length (lnCells ls) ∧ w'.ownsRow w.heap.size 40 2 vn ns.length (nameCells ns) ∧ Say 0 ls ss r.2.2.stms ∧ Sized ls r.2.2.stms ∧ plainN ns = namesP r.2.2.stms ∧ ls.length ≤ 300 ∧ ns.length ≤ 300 ∧ r.2.2.bytes.length ≤ 300000))

theorem own_monoA {w : World} {b c e s n : Nat} {v : Value} {xs : List Value} (h : w.ownsRow b e s v n xs) (hc : c ≤ b) : w.ownsRow c e s v n xs := by
  refine ⟨h.1, ?_⟩
  rcases h.2 with h2 | ⟨g, cap, cur, h1, h2, h3⟩
  · exact Or.inl h2
  · exact Or.inr ⟨g, cap, cur, h1, Nat.le_trans hc h2, h3⟩
theorem chain_ok {ns : List (List UInt8 × Int)} {outs : List (ByteArray × Nat)} (h : ChainN ns (outs.map fun x => (L x.1, x.2))) : ∀ ln ∈ outs.map (fun x => (⟨x.1, x.2, 0, 0⟩ : LnV)), LnOk ln := by
  induction outs generalizing ns with
  | nil => intro ln hl; cases hl
  | cons y r ih =>
    intro ln hl
    rcases List.mem_cons.1 hl with rfl | hl
    · obtain ⟨h1, h2, _⟩ := h
      simp only at h1 h2
      refine ⟨cut_same (by rw [← h2]; exact h1.src.ok.text), by have := h1.src.len; rw [h2] at this; exact this, fun e => ?_, rfl, rfl⟩
      have h3 := h1.set e
      exact ⟨h3.1, h3.2.1⟩
    · exact ih h.2.2 ln hl
theorem allBytes_len (all : List (List UInt8 × Int)) : ∀ {k : Nat} {ls : List LnV} {ss : List StV} {l : List StmP}, Say k ls ss l → Sized ls l → (∀ x ∈ ss, x.es.length ≤ 200) → (∀ ln ∈ ls, ln.size ≤ 1000) → (allBytes all l).2.2.length ≤ 1000 * l.length
  | _, [], [], [], _, _, _, _ => by simp [allBytes]
  | k, ln :: lr, x :: xr, s :: sr, h, hz, he, hs => by
    have ih := allBytes_len all h.2 hz.2 (fun y hy => he y (by simp [hy])) (fun y hy => hs y (by simp [hy]))
    have hb := say_bytes h.1 all hz.1
    have hl := bytesV_len all ln.at_ ln.size x (he x (by simp)) (hs ln (by simp))
    rw [hb] at hl
    simp only [allBytes]
    split
    · simp
    · split
      · simp
      · simp only [List.length_append, List.length_cons]; omega
  | _, [], [], _ :: _, h, _, _, _ => h.elim
  | _, [], _ :: _, _, h, _, _, _ => h.elim
  | _, _ :: _, [], _, h, _, _, _ => h.elim
  | _, _ :: _, _ :: _, [], h, _, _, _ => h.elim
theorem findV_ok : ∀ (n : Nat) {ls : List LnV} {ss : List StV} {ns : List (ByteArray × Int)} {m : Nat}, AllOk ss m → ls.length = ss.length → ss.length ≤ 300 → (∀ l ∈ ls, l.at_ ≤ 1000000 ∧ l.size ≤ 1000) → AllOk (findV n ls ss ns).2.1 m ∧ (findV n ls ss ns).1.length = ls.length ∧ (findV n ls ss ns).2.1.length = ss.length ∧ (findV n ls ss ns).2.2.length = ns.length ∧ (∀ l ∈ (findV n ls ss ns).1, l.at_ ≤ 1000000 ∧ l.size ≤ 1000)
  | 0, ls, ss, ns, m, h, hl, h3, ha => ⟨h, rfl, rfl, rfl, ha⟩
  | n + 1, ls, ss, ns, m, h, hl, h3, ha => by
    simp only [findV]
    split
    · have hlen := lenL_length (plainN ns) ls ss
      have hok := h.len (plainN ns) ls
      have h5 := findV_ok n (ls := setL ls (lenL (plainN ns) ls ss) 0) (ss := lenL (plainN ns) ls ss) (ns := setN (lenL (plainN ns) ls ss) 0 ns) (m := m) hok (by rw [setL_length, hlen]; exact hl) (by rw [hlen]; exact h3) (fun l hh => by
        have := setL_at ls (lenL (plainN ns) ls ss) 0 m (by rw [hlen]; exact hl) (fun x hx => (hok x hx).2) l hh
        rw [hlen] at this
        omega)
      exact ⟨h5.1, by rw [h5.2.1, setL_length], by rw [h5.2.2.1, hlen], by rw [h5.2.2.2.1, setN_length], h5.2.2.2.2⟩
    · exact ⟨h, rfl, rfl, rfl, ha⟩

set_option maxRecDepth 100000 in
set_option maxHeartbeats 3200000 in
theorem Assemble_any (s : ByteArray) (w : World) (hs : s.size ≤ maxLen) (hm : MaxAt w) :
    Calls Tryz.prog 21 #[.string s] w (AssemblePost (assembleP (L s)) w) := by
  have hg : 0 < w.heap.size := by
    obtain ⟨m, h1⟩ := hm
    exact World.block_lt_of_cell? _ _ h1
  obtain ⟨r, hr⟩ : ∃ r, assembleP (L s) = r := ⟨_, rfl⟩
  rw [hr]
  unfold assembleP at hr
  have HR := hid hr
  have HM := hid hm
  clear hr hm
  have hb0 : Below w.heap.size w (w.alloc (.cells #[.slice none 0 0, .slice none 0 0, .slice none 0 0] 33)) := (Below.refl _ _).alloc (Nat.le_refl _) _
  have HP0 := hid (show RowT (w.alloc (.cells #[.slice none 0 0, .slice none 0 0, .slice none 0 0] 33)) 33 w.heap.size [.slice none 0 0, .slice none 0 0, .slice none 0 0] from RowT.new w 33 [.slice none 0 0, .slice none 0 0, .slice none 0 0])
  have HB0 := hid hb0
  have HM0 := hid (HM.out.below hb0)
  have hsz : w.heap.size ≤ (w.alloc (.cells #[.slice none 0 0, .slice none 0 0, .slice none 0 0] 33)).heap.size := hb0.size
  clear hb0
  go_enter Tryz.func21, Tryz.ntmps21
  go_upto_region 1 with fail
  generalize w.alloc (.cells #[.slice none 0 0, .slice none 0 0, .slice none 0 0] 33) = w0 at *
  go_wp2_with fail
  refine (Expand_nil s w0 hs HM0.out).mono ?_
  rintro e w1 ⟨⟨hb1, vl, outs, rfl, hout, hol, hown⟩, hnil⟩
  obtain ⟨X, hX⟩ : ∃ X, expandP (L s) = X := ⟨_, rfl⟩
  rw [hX] at hout hnil ⊢
  have HXX := hid hX
  have hr0 := HR.out
  rw [hX] at hr0
  have HRX := hid hr0
  have HOUT := hid hout
  have HOWN := hid (own_monoA hown hsz)
  have HB1 := hid (HB0.out.trans (hb1.mono hsz))
  have HPX := hid (HP0.out.below hb1)
  have HM1 := hid (HM0.out.below hb1)
  have hsz1 : w.heap.size < w1.heap.size := (HP0.out.below hb1).lt
  clear hX hr0 hout hown hb1 hnil HR HP0 HB0 HM0
  by_cases hx0 : X.1 = 0
  · have kx : (X.1 != 0) = false := by simp [hx0]
    have hr1 := HRX.out
    rw [if_neg (fun h => h hx0)] at hr1
    obtain ⟨hch, _⟩ := expand_inv (L s) (by rw [HXX.out]; exact hx0)
    rw [HXX.out, ← HOUT.out] at hch
    have HLN := hid (chain_ok hch)
    obtain ⟨ls, hls⟩ : ∃ ls, outs.map (fun x => (⟨x.1, x.2, 0, 0⟩ : LnV)) = ls := ⟨_, rfl⟩
    rw [hls] at HLN
    have hll : ls.length = outs.length := by rw [← hls, List.length_map]
    have hlc : lnCells ls = lineCells outs := by rw [← hls, lnCells_lines]
    have hmp : ls.map (fun ln => (L ln.t, ln.frm)) = X.2.2 := by rw [← HOUT.out, ← hls, List.map_map]; rfl
    have hown2 : w1.ownsRow w.heap.size 38 4 vl ls.length (lnCells ls) := by rw [hll, hlc]; exact HOWN.out
    have hl3 : ls.length ≤ 300 := by omega
    have hb2 : Below w1.heap.size w1 (w1.alloc (.cells #[vl, .slice none 0 0, .slice none 0 0, .slice none 0 0, .int .i64 0, .slice none 0 0] 83)) := (Below.refl _ _).alloc (Nat.le_refl _) _
    have HA := hid (show AsmAt (w1.alloc (.cells #[vl, .slice none 0 0, .slice none 0 0, .slice none 0 0, .int .i64 0, .slice none 0 0] 83)) w.heap.size w1.heap.size vl (.slice none 0 0) (.slice none 0 0) (.slice none 0 0) (.slice none 0 0) ls [] [] [] 0 [] from
      ⟨RowT.new w1 83 [vl, .slice none 0 0, .slice none 0 0, .slice none 0 0, .int .i64 0, .slice none 0 0], Nat.le_of_lt hsz1, hown2.alloc _, World.ownsRow_nil _ _ _ _, World.ownsRow_nil _ _ _ _, World.ownsRow_nil _ _ _ _, World.ownsRow_nil _ _ _ _, (fun g h => by cases h), (fun x hx => by cases hx)⟩)
    have HB2 := hid (HB1.out.trans (hb2.mono (Nat.le_of_lt hsz1)))
    have HM2 := hid (HM1.out.below hb2)
    have HPX := hid (HPX.out.below hb2)
    have hB2 : w.heap.size ≤ (w1.alloc (.cells #[vl, .slice none 0 0, .slice none 0 0, .slice none 0 0, .int .i64 0, .slice none 0 0] 83)).heap.size := HB2.out.size
    rw [← hmp] at hr1
    obtain ⟨R1, hR1⟩ : ∃ R1, lookAll (ls.map fun ln => (L ln.t, ln.frm)) [] = R1 := ⟨_, rfl⟩
    rw [hR1] at hr1
    have HR1 := hid hR1
    have HRY := hid hr1
    obtain ⟨al, cl, hvl⟩ := own_form hown2
    subst hvl
    clear hch hls hll hlc hmp hown2 hb2 hR1 hr1 HRX HOUT HOWN HB1 HM1
    rw [hx0]
    go_upto_region 5 with fail
    generalize w1.alloc (.cells #[.slice al ls.length cl, .slice none 0 0, .slice none 0 0, .slice none 0 0, .int .i64 0, .slice none 0 0] 83) = w2 at *
    generalize w1.heap.size = ba at *
    go_wp2_with fail
    refine (lookAtLines_any w2 w.heap.size ba (.slice al ls.length cl) ls HA.out hl3 HLN.out hB2 HM2.out hg R1 HR1.out).mono ?_
    rintro e w3 ⟨rfl, hf3, hx3⟩
    have HBX := hid (HB2.out.trans (hf3.below hB2))
    have HPX := hid (HPX.out.fr hf3 rfl (fun h => by cases h))
    have HX3 := hid hx3
    clear hf3 hx3
    have hr2 := HRY.out
    by_cases h10 : R1.1 = 0
    · have kr : (R1.1 != 0) = false := by simp [h10]
      rw [if_neg (fun h => h h10)] at hr2
      obtain ⟨vs, vn, vt, ss, ns, ts, ha3, hsay, hns, hok, hn3⟩ := HX3.out h10
      obtain ⟨l, hl⟩ : ∃ l, R1.2.2 = l := ⟨_, rfl⟩
      rw [hl] at hr2 hsay hns
      have hlen := hsay.len
      have hB3 : w.heap.size ≤ w3.heap.size := HBX.out.size
      obtain ⟨F, hF⟩ : ∃ F, findV (ss.length + 1) (setL ls ss 0) ss (setN ss 0 ns) = F := ⟨_, rfl⟩
      have hfd := findAddresses_any w3 w.heap.size ba (.slice al ls.length cl) vs vn vt (.slice none 0 0) ls ss ns ts 0 [] ha3 (by omega) hl3 (by omega) hok hB3 F hF
      have hp1 := (say_laid 0 hsay).1
      have hp2 := say_names 0 hsay (P := []) (ns := ns) rfl (by rw [List.nil_append]; exact hns)
      rw [List.nil_append] at hp2
      have hp3 := say_find (ss.length + 1) hp1 hp2
      have hp4 := sized_find (ss.length + 1) hp1 hp2 (sized_laid 0 hsay)
      have hlat := setL_at ls ss 0 ns.length (by omega) (fun x hx => (hok x hx).2)
      have hp5 := findV_ok (ss.length + 1) (ls := setL ls ss 0) (ss := ss) (ns := setN ss 0 ns) hok (by rw [setL_length]; omega) (by omega) (fun y hy => by have := hlat y hy; omega)
      rw [hF] at hp3 hp4 hp5
      rw [setL_length, setN_length] at hp5
      have hpl : findP (ss.length + 1) (laidP l 0) = placedP l := by unfold placedP; rw [hlen.2]
      rw [hpl] at hp3 hp4
      obtain ⟨f1, f2, f3, f4, f5⟩ := hp5
      have hend : endV F.2.1 0 = endP (placedP l) 0 := (say_laid 0 hp3.1).2
      have HFD := hid hfd
      have HP3' := hid hp3
      have HP4 := hid hp4
      have HF1 := hid f1
      have HF5 := hid f5
      have HRZ := hid hr2
      have HEND := hid hend
      clear hfd hp1 hp2 hp3 hp4 hlat hpl f1 f5 hF ha3 hsay hns hok hr2 hend hl HX3
      rw [h10]
      go_wp2_with fail
      refine HFD.out.mono ?_
      rintro e w4 ⟨rfl, hf4, ha4⟩
      have HBX := hid (HBX.out.trans (hf4.below hB3))
      have HPX := hid (HPX.out.fr hf4 rfl (fun h => by cases h))
      have HA4 := hid ha4
      have hB4 : w.heap.size ≤ w4.heap.size := HBX.out.size
      have c4 : w4.cell? ⟨ba, 4, none⟩ = some (.int .i64 (endV F.2.1 0 : Nat)) := ha4.row.cell 4 (by simp)
      clear hf4 ha4
      have hr3 := HRZ.out
      unfold makeP at hr3
      rw [← HEND.out] at hr3
      obtain ⟨ee, hee⟩ : ∃ ee, endV F.2.1 0 = ee := ⟨_, rfl⟩
      rw [hee] at hr3 c4
      by_cases h1k : 1000 < ee
      · rw [if_pos h1k] at hr3
        subst hr3
        have kk : decide ((1000 : Int) < (ee : Int)) = true := by simp; omega
        have HNZ := hid (show ((8 : Int), (0 : Nat), noProg).1 ≠ 0 by decide)
        have p0 : w4.cell? ⟨w.heap.size, 0, none⟩ = some (.slice none 0 0) := HPX.out.cell 0 (by simp)
        have p1 : w4.cell? ⟨w.heap.size, 1, none⟩ = some (.slice none 0 0) := HPX.out.cell 1 (by simp)
        have p2 : w4.cell? ⟨w.heap.size, 2, none⟩ = some (.slice none 0 0) := HPX.out.cell 2 (by simp)
        have g0 := HPX.out.free 0
        have g1 := HPX.out.free 1
        have g2 := HPX.out.free 2
        have HP3 := hid (((HPX.out.set 0 (.slice none 0 0)).set 1 (.slice none 0 0)).set 2 (.slice none 0 0))
        have HK3 := hid (((((Keeps.refl [w.heap.size] w4).setCell (p := ⟨w.heap.size, 0, none⟩) (by simp) (.slice none 0 0)).setCell (p := ⟨w.heap.size, 1, none⟩) (by simp) (.slice none 0 0)).setCell (p := ⟨w.heap.size, 2, none⟩) (by simp) (.slice none 0 0)).below (B := w.heap.size) HBX.out.size (fun k hk => by rw [List.mem_singleton] at hk; omega))
        go_wp2_with fail
        refine bodyPost_ret (v := .tuple #[.agg #[.slice none 0 0, .slice none 0 0, .slice none 0 0], .int .i64 8, .int .i64 0]) (by simp [results, Tryz.results21, go_sem, p0, p1, p2]) rfl ?_
        exact ⟨HBX.out.trans HK3.out, _, _, _, rfl, Or.inl ⟨HNZ.out, rfl, rfl, rfl⟩⟩
      · rw [if_neg h1k] at hr3
        have kk : decide ((1000 : Int) < (ee : Int)) = false := by simp; omega
        have hpn := HP3'.out.2
        have hal := say_all (plainN F.2.2) HP3'.out.1 HP4.out
        rw [hpn] at hal
        obtain ⟨M, hM⟩ : ∃ M, allBytes (namesP (placedP l)) (placedP l) = M := ⟨_, rfl⟩
        rw [hM] at hal hr3
        have hml : M.2.2.length ≤ 300000 := by
          have h1 := allBytes_len (namesP (placedP l)) HP3'.out.1 HP4.out (fun x hx => (HF1.out x hx).2.few) (fun ln hl => (HF5.out ln hl).2)
          rw [hM] at h1
          have h2 := HP3'.out.1.len
          omega
        have hma := makeAllBytes_any w4 w.heap.size ba (.slice al ls.length cl) vs vn vt (.slice none 0 0) F.1 F.2.1 F.2.2 ts ee (by rw [← hee]; exact HA4.out) (by omega) (by omega) (by omega) (fun x hx => ⟨(HF1.out x hx).1, (HF1.out x hx).2.few⟩) HF5.out hB4 M (by rw [hpn]; exact hal)
        have HMA := hid hma
        have HRW := hid hr3
        clear hpn hal hM hma hr3 hee
        go_wp2_with fail
        refine HMA.out.mono ?_
        rintro e w5 ⟨rfl, hf5, ha5⟩
        have HBX := hid (HBX.out.trans (hf5.below hB4))
        have HPX := hid (HPX.out.fr hf5 rfl (fun h => by cases h))
        have HA5 := hid ha5
        clear hf5 ha5 c4
        have hr4 := HRW.out
        by_cases hm0 : M.1 = 0
        · rw [if_neg (fun h => h hm0)] at hr4
          subst hr4
          obtain ⟨vb, ha6⟩ := HA5.out hm0
          rw [List.nil_append] at ha6
          have HA6 := hid ha6
          obtain ⟨bl, bc, hvb⟩ := own_form ha6.bown
          obtain ⟨nl, nc, hvn⟩ := own_form ha6.nown
          have q5 : w5.cell? ⟨ba, 5, none⟩ = some vb := ha6.row.cell 5 (by simp)
          have q0 : w5.cell? ⟨ba, 0, none⟩ = some (.slice al ls.length cl) := ha6.row.cell 0 (by simp)
          have q2 : w5.cell? ⟨ba, 2, none⟩ = some vn := ha6.row.cell 2 (by simp)
          subst hvb hvn
          have p0 : w5.cell? ⟨w.heap.size, 0, none⟩ = some (.slice none 0 0) := HPX.out.cell 0 (by simp)
          have p1 : w5.cell? ⟨w.heap.size, 1, none⟩ = some (.slice none 0 0) := HPX.out.cell 1 (by simp)
          have p2 : w5.cell? ⟨w.heap.size, 2, none⟩ = some (.slice none 0 0) := HPX.out.cell 2 (by simp)
          have g0 := HPX.out.free 0
          have g1 := HPX.out.free 1
          have g2 := HPX.out.free 2
          clear ha6
          rw [hlen.1] at q0
          rw [f4] at q2
          rw [hlen.1, f4] at HA6
          have HSL := hid (ownsRow_setCell_other (ownsRow_setCell_other (ownsRow_setCell_other HA6.out.lown (a := ⟨w.heap.size, 0, none⟩) (own_row_ne HA6.out.lown HPX.out (by decide)) (.slice bl M.2.2.length bc)) (a := ⟨w.heap.size, 1, none⟩) (own_row_ne HA6.out.lown HPX.out (by decide)) (.slice al l.length cl)) (a := ⟨w.heap.size, 2, none⟩) (own_row_ne HA6.out.lown HPX.out (by decide)) (.slice nl ns.length nc))
          have HSN := hid (ownsRow_setCell_other (ownsRow_setCell_other (ownsRow_setCell_other HA6.out.nown (a := ⟨w.heap.size, 0, none⟩) (own_row_ne HA6.out.nown HPX.out (by decide)) (.slice bl M.2.2.length bc)) (a := ⟨w.heap.size, 1, none⟩) (own_row_ne HA6.out.nown HPX.out (by decide)) (.slice al l.length cl)) (a := ⟨w.heap.size, 2, none⟩) (own_row_ne HA6.out.nown HPX.out (by decide)) (.slice nl ns.length nc))
          have HSB := hid (ownsRow_setCell_other (ownsRow_setCell_other (ownsRow_setCell_other HA6.out.bown (a := ⟨w.heap.size, 0, none⟩) (own_row_ne HA6.out.bown HPX.out (by decide)) (.slice bl M.2.2.length bc)) (a := ⟨w.heap.size, 1, none⟩) (own_row_ne HA6.out.bown HPX.out (by decide)) (.slice al l.length cl)) (a := ⟨w.heap.size, 2, none⟩) (own_row_ne HA6.out.bown HPX.out (by decide)) (.slice nl ns.length nc))
          have HPW := hid (((HPX.out.set 0 (.slice bl M.2.2.length bc)).set 1 (.slice al l.length cl)).set 2 (.slice nl ns.length nc))
          have HK3 := hid (((((Keeps.refl [w.heap.size] w5).setCell (p := ⟨w.heap.size, 0, none⟩) (by simp) (.slice bl M.2.2.length bc)).setCell (p := ⟨w.heap.size, 1, none⟩) (by simp) (.slice al l.length cl)).setCell (p := ⟨w.heap.size, 2, none⟩) (by simp) (.slice nl ns.length nc)).below (B := w.heap.size) HBX.out.size (fun k hk => by rw [List.mem_singleton] at hk; omega))
          rw [hm0]
          go_wp2_with fail
          go_region
          generalize ((w5.setCell ⟨w.heap.size, 0, none⟩ (.slice bl M.2.2.length bc)).setCell ⟨w.heap.size, 1, none⟩ (.slice al l.length cl)).setCell ⟨w.heap.size, 2, none⟩ (.slice nl ns.length nc) = w6 at HSL HSN HSB HPW HK3 ⊢
          have r0 : w6.cell? ⟨w.heap.size, 0, none⟩ = some (.slice bl M.2.2.length bc) := HPW.out.cell 0 (by simp)
          have r1 : w6.cell? ⟨w.heap.size, 1, none⟩ = some (.slice al l.length cl) := HPW.out.cell 1 (by simp)
          have r2 : w6.cell? ⟨w.heap.size, 2, none⟩ = some (.slice nl ns.length nc) := HPW.out.cell 2 (by simp)
          clear p0 p1 p2 g0 g1 g2 q0 q2 q5
          go_wp2_with fail
          refine bodyPost_ret (v := .tuple #[.agg #[.slice bl M.2.2.length bc, .slice al l.length cl, .slice nl ns.length nc], .int .i64 0, .int .i64 0]) (by simp [results, Tryz.results21, go_sem, r0, r1, r2]) rfl ?_
          exact ⟨(HBX.out.trans HK3.out).drew, _, _, _, rfl, Or.inr ⟨rfl, F.1, F.2.1, F.2.2, HSB.out, HSL.out, HSN.out, HP3'.out.1, HP4.out, HP3'.out.2, by omega, by omega, hml⟩⟩
        · have km : (M.1 != 0) = true := by simpa using hm0
          rw [if_pos hm0] at hr4
          subst hr4
          have HNZ := hid (show (M.1, M.2.1, noProg).1 ≠ 0 from hm0)
          have p0 : w5.cell? ⟨w.heap.size, 0, none⟩ = some (.slice none 0 0) := HPX.out.cell 0 (by simp)
          have p1 : w5.cell? ⟨w.heap.size, 1, none⟩ = some (.slice none 0 0) := HPX.out.cell 1 (by simp)
          have p2 : w5.cell? ⟨w.heap.size, 2, none⟩ = some (.slice none 0 0) := HPX.out.cell 2 (by simp)
          have g0 := HPX.out.free 0
          have g1 := HPX.out.free 1
          have g2 := HPX.out.free 2
          have HP3 := hid (((HPX.out.set 0 (.slice none 0 0)).set 1 (.slice none 0 0)).set 2 (.slice none 0 0))
          have HK3 := hid (((((Keeps.refl [w.heap.size] w5).setCell (p := ⟨w.heap.size, 0, none⟩) (by simp) (.slice none 0 0)).setCell (p := ⟨w.heap.size, 1, none⟩) (by simp) (.slice none 0 0)).setCell (p := ⟨w.heap.size, 2, none⟩) (by simp) (.slice none 0 0)).below (B := w.heap.size) HBX.out.size (fun k hk => by rw [List.mem_singleton] at hk; omega))
          go_wp2_with fail
          refine bodyPost_ret (v := .tuple #[.agg #[.slice none 0 0, .slice none 0 0, .slice none 0 0], .int .i64 M.1, .int .i64 (M.2.1 : Nat)]) (by simp [results, Tryz.results21, go_sem, p0, p1, p2]) rfl ?_
          exact ⟨HBX.out.trans HK3.out, _, _, _, rfl, Or.inl ⟨HNZ.out, rfl, rfl, rfl⟩⟩
    · have kr : (R1.1 != 0) = true := by simpa using h10
      rw [if_pos h10] at hr2
      subst hr2
      have HNZ := hid (show (R1.1, R1.2.1, noProg).1 ≠ 0 from h10)
      have p0 : w3.cell? ⟨w.heap.size, 0, none⟩ = some (.slice none 0 0) := HPX.out.cell 0 (by simp)
      have p1 : w3.cell? ⟨w.heap.size, 1, none⟩ = some (.slice none 0 0) := HPX.out.cell 1 (by simp)
      have p2 : w3.cell? ⟨w.heap.size, 2, none⟩ = some (.slice none 0 0) := HPX.out.cell 2 (by simp)
      have g0 := HPX.out.free 0
      have g1 := HPX.out.free 1
      have g2 := HPX.out.free 2
      have HP3 := hid (((HPX.out.set 0 (.slice none 0 0)).set 1 (.slice none 0 0)).set 2 (.slice none 0 0))
      have HK3 := hid (((((Keeps.refl [w.heap.size] w3).setCell (p := ⟨w.heap.size, 0, none⟩) (by simp) (.slice none 0 0)).setCell (p := ⟨w.heap.size, 1, none⟩) (by simp) (.slice none 0 0)).setCell (p := ⟨w.heap.size, 2, none⟩) (by simp) (.slice none 0 0)).below (B := w.heap.size) HBX.out.size (fun k hk => by rw [List.mem_singleton] at hk; omega))
      go_wp2_with fail
      refine bodyPost_ret (v := .tuple #[.agg #[.slice none 0 0, .slice none 0 0, .slice none 0 0], .int .i64 R1.1, .int .i64 (R1.2.1 : Nat)]) (by simp [results, Tryz.results21, go_sem, p0, p1, p2]) rfl ?_
      exact ⟨HBX.out.trans HK3.out, _, _, _, rfl, Or.inl ⟨HNZ.out, rfl, rfl, rfl⟩⟩
  · have kx : (X.1 != 0) = true := by simpa using hx0
    have hr1 := HRX.out
    rw [if_pos hx0] at hr1
    subst hr1
    have HNZ := hid (show (X.1, X.2.1, noProg).1 ≠ 0 from hx0)
    have HBX := hid HB1.out
    have p0 : w1.cell? ⟨w.heap.size, 0, none⟩ = some (.slice none 0 0) := HPX.out.cell 0 (by simp)
    have p1 : w1.cell? ⟨w.heap.size, 1, none⟩ = some (.slice none 0 0) := HPX.out.cell 1 (by simp)
    have p2 : w1.cell? ⟨w.heap.size, 2, none⟩ = some (.slice none 0 0) := HPX.out.cell 2 (by simp)
    have g0 := HPX.out.free 0
    have g1 := HPX.out.free 1
    have g2 := HPX.out.free 2
    have HP3 := hid (((HPX.out.set 0 (.slice none 0 0)).set 1 (.slice none 0 0)).set 2 (.slice none 0 0))
    have HK3 := hid (((((Keeps.refl [w.heap.size] w1).setCell (p := ⟨w.heap.size, 0, none⟩) (by simp) (.slice none 0 0)).setCell (p := ⟨w.heap.size, 1, none⟩) (by simp) (.slice none 0 0)).setCell (p := ⟨w.heap.size, 2, none⟩) (by simp) (.slice none 0 0)).below (B := w.heap.size) HBX.out.size (fun k hk => by rw [List.mem_singleton] at hk; omega))
    go_wp2_with fail
    refine bodyPost_ret (v := .tuple #[.agg #[.slice none 0 0, .slice none 0 0, .slice none 0 0], .int .i64 X.1, .int .i64 (X.2.1 : Nat)]) (by simp [results, Tryz.results21, go_sem, p0, p1, p2]) rfl ?_
    exact ⟨HBX.out.trans HK3.out, _, _, _, rfl, Or.inl ⟨HNZ.out, rfl, rfl, rfl⟩⟩

end Go.Proofs.YtcepppilgncdmaaGreatDoor

namespace Go.Proofs.YtcepppilgncdmaaGreatDoor
open Go.RowKit
attribute [local go_sem ↓] Go.wp_at_zero Go.wp_at_succ

/-- What lies in the rows that Assemble answers with, or nothing with an error. -/
def AsmRows (r : Int × Nat × ProgP) (B : Nat) (w : World) (vb vl vn : Value) : Prop :=
  (r.1 ≠ 0 ∧ vb = .slice none 0 0 ∧ vl = .slice none 0 0 ∧ vn = .slice none 0 0) ∨
     (r.1 = 0 ∧ ∃ ls ss ns, w.ownsRow B 5 1 vb r.2.2.bytes.length (byCells r.2.2.bytes) ∧ w.ownsRow B 38 4 vl ls.length (lnCells ls) ∧ w.ownsRow B 40 2 vn ns.length (nameCells ns) ∧ Say 0 ls ss r.2.2.stms ∧ Sized ls r.2.2.stms ∧ plainN ns = namesP r.2.2.stms ∧ ls.length ≤ 300 ∧ ns.length ≤ 300 ∧ r.2.2.bytes.length ≤ 300000)
theorem AsmRows.forms {r : Int × Nat × ProgP} {B : Nat} {w : World} {vb vl vn : Value} (h : AsmRows r B w vb vl vn) : (∃ a n c, vb = .slice a n c) ∧ (∃ a n c, vl = .slice a n c) ∧ (∃ a n c, vn = .slice a n c) := by
  rcases h with ⟨_, rfl, rfl, rfl⟩ | ⟨_, ls, ss, ns, h1, h2, h3, _⟩
  · exact ⟨⟨_, _, _, rfl⟩, ⟨_, _, _, rfl⟩, ⟨_, _, _, rfl⟩⟩
  · obtain ⟨a1, c1, rfl⟩ := own_form h1
    obtain ⟨a2, c2, rfl⟩ := own_form h2
    obtain ⟨a3, c3, rfl⟩ := own_form h3
    exact ⟨⟨_, _, _, rfl⟩, ⟨_, _, _, rfl⟩, ⟨_, _, _, rfl⟩⟩
theorem AsmRows.set {r : Int × Nat × ProgP} {B b : Nat} {w : World} {vb vl vn : Value} {xs : List Value} (h : AsmRows r B w vb vl vn) (hp : RowT w 33 b xs) (j : Nat) (u : Value) : AsmRows r B (w.setCell ⟨b, j, none⟩ u) vb vl vn := by
  rcases h with h | ⟨h0, ls, ss, ns, h1, h2, h3, h4⟩
  · exact Or.inl h
  · exact Or.inr ⟨h0, ls, ss, ns, ownsRow_setCell_other h1 (a := ⟨b, j, none⟩) (own_row_ne h1 hp (by decide)) u, ownsRow_setCell_other h2 (a := ⟨b, j, none⟩) (own_row_ne h2 hp (by decide)) u, ownsRow_setCell_other h3 (a := ⟨b, j, none⟩) (own_row_ne h3 hp (by decide)) u, h4⟩
theorem AsmRows.mono {r : Int × Nat × ProgP} {B C : Nat} {w : World} {vb vl vn : Value} (h : AsmRows r B w vb vl vn) (hc : C ≤ B) : AsmRows r C w vb vl vn := by
  rcases h with h | ⟨h0, ls, ss, ns, h1, h2, h3, h4⟩
  · exact Or.inl h
  · exact Or.inr ⟨h0, ls, ss, ns, own_monoA h1 hc, own_monoA h2 hc, own_monoA h3 hc, h4⟩
theorem AsmRows.below {r : Int × Nat × ProgP} {B : Nat} {w w' : World} {vb vl vn : Value} (h : AsmRows r B w vb vl vn) (hb : Below w.heap.size w w') : AsmRows r B w' vb vl vn := by
  rcases h with h | ⟨h0, ls, ss, ns, h1, h2, h3, h4⟩
  · exact Or.inl h
  · exact Or.inr ⟨h0, ls, ss, ns, ownsRow_belowP h1 hb, ownsRow_belowP h2 hb, ownsRow_belowP h3 hb, h4⟩
/-- The same, with the rows in one word. -/
def MasPost (r : Int × Nat × ProgP) (w : World) (e : Ending) (w' : World) : Prop :=
  Below w.heap.size w w' ∧ ∃ vb vl vn, e = .returned (.tuple #[.agg #[vb, vl, vn], .int .i64 r.1, .int .i64 (r.2.1 : Nat)]) ∧ AsmRows r w.heap.size w' vb vl vn

set_option maxRecDepth 100000 in
set_option maxHeartbeats 800000 in
theorem mAssemble_any (s : ByteArray) (w : World) (hs : s.size ≤ maxLen) (hm : MaxAt w) :
    Calls Tryz.prog 12 #[.string s] w (MasPost (assembleP (L s)) w) := by
  obtain ⟨r, hr⟩ : ∃ r, assembleP (L s) = r := ⟨_, rfl⟩
  have hb0 : Below w.heap.size w (w.alloc (.cells #[.slice none 0 0, .slice none 0 0, .slice none 0 0] 33)) := (Below.refl _ _).alloc (Nat.le_refl _) _
  have HP0 := hid (show RowT (w.alloc (.cells #[.slice none 0 0, .slice none 0 0, .slice none 0 0] 33)) 33 w.heap.size [.slice none 0 0, .slice none 0 0, .slice none 0 0] from RowT.new w 33 [.slice none 0 0, .slice none 0 0, .slice none 0 0])
  have hsz : w.heap.size ≤ (w.alloc (.cells #[.slice none 0 0, .slice none 0 0, .slice none 0 0] 33)).heap.size := hb0.size
  have HB0 := hid hb0
  have HC := hid (Assemble_any s (w.alloc (.cells #[.slice none 0 0, .slice none 0 0, .slice none 0 0] 33)) hs (hm.below hb0))
  rw [hr] at HC ⊢
  clear hm hb0 hr
  go_enter Tryz.func12, Tryz.ntmps12
  go_upto_region 1 with fail
  generalize w.alloc (.cells #[.slice none 0 0, .slice none 0 0, .slice none 0 0] 33) = w0 at *
  go_wp2_with fail
  refine HC.out.mono ?_
  rintro e w1 ⟨hb1, vb, vl, vn, rfl, hrows⟩
  have HR := hid (show AsmRows r w0.heap.size w1 vb vl vn from hrows)
  clear hrows
  have HB1 := hid (HB0.out.trans (hb1.mono hsz))
  have HPX := hid (HP0.out.below hb1)
  clear hb1 HP0 HC
  obtain ⟨⟨a1, n1, c1, h1⟩, ⟨a2, n2, c2, h2⟩, ⟨a3, n3, c3, h3⟩⟩ := HR.out.forms
  subst h1 h2 h3
  have p0 : w1.cell? ⟨w.heap.size, 0, none⟩ = some (.slice none 0 0) := HPX.out.cell 0 (by simp)
  have p1 : w1.cell? ⟨w.heap.size, 1, none⟩ = some (.slice none 0 0) := HPX.out.cell 1 (by simp)
  have p2 : w1.cell? ⟨w.heap.size, 2, none⟩ = some (.slice none 0 0) := HPX.out.cell 2 (by simp)
  have g0 := HPX.out.free 0
  have g1 := HPX.out.free 1
  have g2 := HPX.out.free 2
  have HR1 := hid ((HR.out.mono hsz).set HPX.out 0 (.slice a1 n1 c1))
  have HP1 := hid (HPX.out.set 0 (.slice a1 n1 c1))
  have HR2 := hid (HR1.out.set HP1.out 1 (.slice a2 n2 c2))
  have HP2 := hid (HP1.out.set 1 (.slice a2 n2 c2))
  have HR3 := hid (HR2.out.set HP2.out 2 (.slice a3 n3 c3))
  have HP3 := hid (HP2.out.set 2 (.slice a3 n3 c3))
  have HK3 := hid (((((Keeps.refl [w.heap.size] w1).setCell (p := ⟨w.heap.size, 0, none⟩) (by simp) (.slice a1 n1 c1)).setCell (p := ⟨w.heap.size, 1, none⟩) (by simp) (.slice a2 n2 c2)).setCell (p := ⟨w.heap.size, 2, none⟩) (by simp) (.slice a3 n3 c3)).below (B := w.heap.size) HB1.out.size (fun k hk => by rw [List.mem_singleton] at hk; omega))
  go_wp2_with fail
  generalize ((w1.setCell ⟨w.heap.size, 0, none⟩ (.slice a1 n1 c1)).setCell ⟨w.heap.size, 1, none⟩ (.slice a2 n2 c2)).setCell ⟨w.heap.size, 2, none⟩ (.slice a3 n3 c3) = w6 at HR3 HP3 HK3 ⊢
  have r0 : w6.cell? ⟨w.heap.size, 0, none⟩ = some (.slice a1 n1 c1) := HP3.out.cell 0 (by simp)
  have r1 : w6.cell? ⟨w.heap.size, 1, none⟩ = some (.slice a2 n2 c2) := HP3.out.cell 1 (by simp)
  have r2 : w6.cell? ⟨w.heap.size, 2, none⟩ = some (.slice a3 n3 c3) := HP3.out.cell 2 (by simp)
  refine bodyPost_ret (v := .tuple #[.agg #[.slice a1 n1 c1, .slice a2 n2 c2, .slice a3 n3 c3], .int .i64 r.1, .int .i64 (r.2.1 : Nat)]) (by simp [results, Tryz.results12, go_sem, r0, r1, r2]) rfl ?_
  exact ⟨HB1.out.trans HK3.out, _, _, _, rfl, HR3.out⟩

end Go.Proofs.YtcepppilgncdmaaGreatDoor

namespace Go.Proofs.YtcepppilgncdmaaGreatDoor
open Go.RowKit

set_option maxHeartbeats 400000 in
theorem pick_any (c n : Int) (w : World) (hc : -9223372036854775808 ≤ c ∧ c ≤ 9223372036854775807) (hn : 0 < n ∧ n ≤ 9223372036854775807) :
    Calls Tryz.prog 15 #[.int .i64 c, .int .i64 n] w fun e w' => e = .returned (.int .i64 (pickI c n)) ∧ w' = w := by
  obtain ⟨c1, c2⟩ := hc
  obtain ⟨n1, n2⟩ := hn
  by_cases h : c < 0
  · have HP := hid (show -(c + 1).tmod n = pickI c n by
      unfold pickI
      rw [if_pos h, ← Int.neg_tmod, Int.tmod_eq_emod_of_nonneg (by omega)])
    go_enter Tryz.func15, Tryz.ntmps15
    go_wp2
    go_ret
    exact ⟨ret_int HP.out, rfl⟩
  · have HP := hid (show c % n = pickI c n by
      unfold pickI
      rw [if_neg h])
    go_enter Tryz.func15, Tryz.ntmps15
    go_wp2
    go_ret
    exact ⟨ret_int HP.out, rfl⟩

theorem conv_one (w : World) (x : Int) : (convert 30 9 (.slice (some ⟨w.heap.size, 0, none⟩) 1 1)).run Tryz.prog (w.alloc (.cells #[.int .u8 x] 5)) = .ok (.string ⟨#[UInt8.ofNat x.toNat]⟩) (w.alloc (.cells #[.int .u8 x] 5)) := by
  rw [run_convert_bytes_string _ 30 9 5 _ 1 1 Tryz.underlying30 Tryz.underlying5 Tryz.underlying9]
  rw [run_bytesToString _ _ 1 1 [x]]
  · rfl
  · refine run_loadCells_list (P := Tryz.prog) (w := w.alloc (.cells #[.int .u8 x] 5)) ⟨w.heap.size, 0, none⟩ [Value.int IntKind.u8 x] ?_
    intro j v hv
    cases j with
    | zero =>
      simp at hv
      subst hv
      simp [go_sem, Addr.add]
    | succ j => simp at hv

set_option maxRecDepth 100000 in
set_option maxHeartbeats 400000 in
theorem number_any (n : Nat) (w : World) (hn : n < 1000000) :
    Calls Tryz.prog 14 #[.int .i64 n] w fun e w' => ∃ t : ByteArray, L t = digitsTo (n + 1) n [] ∧ t.size ≤ n + 1 ∧ e = .returned (.string t) ∧ Below w.heap.size w w' := by
  have hcv := conv_one
  go_enter Tryz.func14, Tryz.ntmps14
  go_wp2
  go_loopw [0, 3] (fun x y wr => ∃ (k f : Nat) (t : ByteArray), k ≤ n ∧ k < f ∧ x = .int .i64 k ∧ y = .string t ∧ t.size + k ≤ n ∧ digitsTo (n + 1) n [] = digitsTo f k (L t) ∧ Below w.heap.size w wr) (fun x _ _ => (intOf x).toNat)
  case atStart => exact ⟨n, n + 1, ⟨#[]⟩, Nat.le_refl _, by omega, rfl, rfl, by show 0 + n ≤ n; omega, rfl, Below.refl _ _⟩
  case round =>
    obtain ⟨k, f, t, hk, hkf, rfl, rfl, hts, hd, hb⟩ := hrel
    have HB := hid hb
    have HD := hid hd
    clear hd hb
    have hbz : w.heap.size ≤ wr.heap.size := HB.out.size
    by_cases h10 : 10 ≤ k
    · have hi : (10 : Int) ≤ k := by omega
      go_wp2
      go_roundw
      case rel =>
        refine ⟨k / 10, f - 1, _, by omega, by omega, by go_num, rfl, ?_, ?_, HB.out.alloc hbz _⟩
        · rw [ByteArray.size_append]; show 1 + t.size + k / 10 ≤ n; omega
        · rw [HD.out, L_push]
          obtain ⟨g, rfl⟩ : ∃ g, f = g + 1 := ⟨f - 1, by omega⟩
          simp only [digitsTo]
          rw [if_neg (by omega)]
          rfl
      case measure => simp [intOf]; omega
    · have hi : ¬ (10 : Int) ≤ k := by omega
      go_wp2
      go_ret
      refine ⟨_, ?_, ?_, rfl, HB.out.alloc hbz _⟩
      · rw [HD.out, L_push]
        obtain ⟨g, rfl⟩ : ∃ g, f = g + 1 := ⟨f - 1, by omega⟩
        simp only [digitsTo]
        rw [if_pos (by omega)]
      · rw [ByteArray.size_append]; show 1 + t.size ≤ n + 1; omega

end Go.Proofs.YtcepppilgncdmaaGreatDoor

namespace Go.Proofs.YtcepppilgncdmaaGreatDoor
open Go.RowKit
attribute [local go_sem ↓] Go.wp_at_zero Go.wp_at_succ

def i64ok (z : Int) : Prop := -9223372036854775808 ≤ z ∧ z ≤ 9223372036854775807
theorem pickI_nat (c n : Int) (h : 0 < n) : ∃ m : Nat, pickI c n = m ∧ (m : Int) < n := by
  have := pickI_bd c n h
  exact ⟨(pickI c n).toNat, by omega, by omega⟩
theorem pick_nat (c n : Int) (m : Nat) (w : World) (hc : i64ok c) (hn : 0 < n ∧ n ≤ 9223372036854775807) (hm : pickI c n = m) :
    Calls Tryz.prog 15 #[.int .i64 c, .int .i64 n] w fun e w' => e = .returned (.int .i64 (m : Int)) ∧ w' = w := by
  rw [← hm]; exact pick_any c n w hc hn

/-- A list of numbers lies in the world. -/
def IntsAt (w : World) (a : Option Addr) (zs : List Int) : Prop :=
  zs = [] ∨ ∃ b off, a = some ⟨b, off, none⟩ ∧ b < w.heap.size ∧ ∀ i (h : i < zs.length), w.cell? ⟨b, off + i, none⟩ = some (.int .i64 zs[i]) ∧ i64ok zs[i]

theorem lineCells_length (outs : List (ByteArray × Nat)) : (lineCells outs).length = outs.length * 4 := by
  induction outs with
  | nil => rfl
  | cons x r ih => simp only [lineCells, List.length_cons, ih]; omega
theorem lineCells_at (outs : List (ByteArray × Nat)) : ∀ (i : Nat) (h : i < outs.length), (lineCells outs)[i * 4]? = some (.string outs[i].1) ∧ (lineCells outs)[i * 4 + 1]? = some (.int .i64 (outs[i].2 : Nat)) ∧ (lineCells outs)[i * 4 + 2]? = some (.int .i64 0) ∧ (lineCells outs)[i * 4 + 3]? = some (.int .i64 0) := by
  induction outs with
  | nil => intro i h; simp at h
  | cons x r ih =>
    intro i h
    cases i with
    | zero => simp [lineCells]
    | succ i =>
      have := ih i (by simpa using h)
      rw [show (i + 1) * 4 = i * 4 + 1 + 1 + 1 + 1 from by omega]
      simp only [lineCells, show i * 4 + 1 + 1 + 1 + 1 + 1 = (i * 4 + 1) + 1 + 1 + 1 + 1 from rfl, show i * 4 + 1 + 1 + 1 + 1 + 2 = (i * 4 + 2) + 1 + 1 + 1 + 1 from by omega, show i * 4 + 1 + 1 + 1 + 1 + 3 = (i * 4 + 3) + 1 + 1 + 1 + 1 from by omega, List.getElem?_cons_succ, List.getElem_cons_succ]
      exact this

/-- The lines of an answer lie in the world. -/
theorem lines_lie {w : World} {base : Nat} {vl : Value} {outs : List (ByteArray × Nat)} (h : w.ownsRow base 38 4 vl outs.length (lineCells outs)) (h0 : 0 < outs.length) :
    ∃ g cap, vl = .slice (some ⟨g, 0, none⟩) outs.length cap ∧ base ≤ g ∧ g < w.heap.size ∧ ∀ i (h : i < outs.length), w.cell? ⟨g, i * 4, none⟩ = some (.string outs[i].1) ∧ w.cell? ⟨g, i * 4 + 1, none⟩ = some (.int .i64 (outs[i].2 : Nat)) ∧ w.cell? ⟨g, i * 4 + 2, none⟩ = some (.int .i64 0) ∧ w.cell? ⟨g, i * 4 + 3, none⟩ = some (.int .i64 0) := by
  obtain ⟨g, cap, rfl, hb, hlt⟩ := h.form (by omega)
  refine ⟨g, cap, rfl, hb, hlt, fun i hi => ?_⟩
  obtain ⟨c1, c2, c3, c4⟩ := lineCells_at outs i hi
  rw [h.cellAt (i * 4) (by omega), h.cellAt (i * 4 + 1) (by omega), h.cellAt (i * 4 + 2) (by omega), h.cellAt (i * 4 + 3) (by omega)]
  exact ⟨c1, c2, c3, c4⟩

/-- An answer's lines, as texts and numbers. -/
theorem outs_get {outs : List (ByteArray × Nat)} {r : List (List UInt8 × Nat)} (h : (outs.map fun x : ByteArray × Nat => (L x.1, x.2)) = r) (i : Nat) (hi : i < outs.length) (hr : i < r.length) : L outs[i].1 = r[i].1 ∧ outs[i].2 = r[i].2 := by
  subst h
  simp
theorem outs_len {outs : List (ByteArray × Nat)} {r : List (List UInt8 × Nat)} (h : (outs.map fun x : ByteArray × Nat => (L x.1, x.2)) = r) : outs.length = r.length := by
  subst h
  simp

end Go.Proofs.YtcepppilgncdmaaGreatDoor

namespace Go.Proofs.YtcepppilgncdmaaGreatDoor
open Go.RowKit
attribute [local go_sem ↓] Go.wp_at_zero Go.wp_at_succ

def firstT : ByteArray := ⟨#[106, 109, 112, 32, 101, 110, 100, 10, 46, 115, 112, 97, 99, 101, 32, 49, 50, 56, 10, 101, 110, 100, 58, 32, 114, 101, 116]⟩
theorem first_plain : (assembleP (L firstT)).1 = 0 ∧ (assembleP (L firstT)).2.1 = 0 ∧ (assembleP (L firstT)).2.2.bytes = [129, 131, 0] ++ List.replicate 128 0 ++ [161] ∧ namesP (assembleP (L firstT)).2.2.stms = [([101, 110, 100], 131)] ∧ (assembleP (L firstT)).2.2.stms.map (·.at_) = [0, 3, 131] := by decide +kernel

theorem say_at : ∀ {k : Nat} {ls : List LnV} {ss : List StV} {l : List StmP}, Say k ls ss l → ls.map (fun ln => (ln.at_ : Int)) = l.map (·.at_)
  | _, [], [], [], _ => rfl
  | _, ln :: lr, x :: xr, s :: sr, h => by
    simp only [List.map_cons]
    rw [h.1.at_, say_at h.2]
  | _, [], [], _ :: _, h => h.elim
  | _, [], _ :: _, _, h => h.elim
  | _, _ :: _, [], _, h => h.elim
  | _, _ :: _, _ :: _, [], h => h.elim
theorem byCells_at (bs : List UInt8) (i : Nat) (h : i < bs.length) : (byCells bs)[i]? = some (.int .u8 (bs[i].toNat : Nat)) := by
  simp [byCells, h]
set_option maxRecDepth 100000 in
set_option maxHeartbeats 1600000 in
theorem first_any (w : World) (hm : MaxAt w) :
    Calls Tryz.prog 10 #[] w fun e w' => e = .returned (.bool true) ∧ Below w.heap.size w w' := by
  have hc := mAssemble_any firstT w (by unfold maxLen firstT; decide) hm
  obtain ⟨h1, h2, h3, h4, h5⟩ := first_plain
  obtain ⟨r, hr⟩ : ∃ r, assembleP (L firstT) = r := ⟨_, rfl⟩
  rw [hr] at hc h1 h2 h3 h4 h5
  have HC := hid hc
  have H3 := hid h3
  have H4 := hid h4
  have H5 := hid h5
  have H1 := hid h1
  clear hc hm hr h3 h4 h5
  go_enter Tryz.func10, Tryz.ntmps10
  go_wp2_with fail
  refine HC.out.mono ?_
  rintro e w1 ⟨hb, vb, vl, vn, rfl, hrows⟩
  rw [h1, h2]
  clear h1 h2
  rcases hrows with ⟨h0, _⟩ | ⟨_, ls, ss, ns, ob, ol, on, hsay, _, hpn, _, _, _⟩
  · exact absurd H1.out h0
  rw [H3.out] at ob
  have hat := say_at hsay
  rw [H5.out] at hat
  have hll : ls.length = 3 := by have := congrArg List.length hat; simpa using this
  rw [H4.out] at hpn
  have hnl : ns.length = 1 := by have := congrArg List.length hpn; simpa [plainN] using this
  obtain ⟨gb, cb, rfl, _, hltb⟩ := ob.form (by simp)
  obtain ⟨gl, cl, rfl, _, hltl⟩ := ol.form (by omega)
  obtain ⟨gn, cn, rfl, _, hltn⟩ := on.form (by omega)
  have ob := ob.alloc (.cells #[.slice (some ⟨gb, 0, none⟩) 132 cb, .slice (some ⟨gl, 0, none⟩) 3 cl, .slice (some ⟨gn, 0, none⟩) 1 cn] 33)
  have ol := ol.alloc (.cells #[.slice (some ⟨gb, 0, none⟩) 132 cb, .slice (some ⟨gl, 0, none⟩) 3 cl, .slice (some ⟨gn, 0, none⟩) 1 cn] 33)
  have on := on.alloc (.cells #[.slice (some ⟨gb, 0, none⟩) 132 cb, .slice (some ⟨gl, 0, none⟩) 3 cl, .slice (some ⟨gn, 0, none⟩) 1 cn] 33)
  have HP := hid (show RowT (w1.alloc (.cells #[.slice (some ⟨gb, 0, none⟩) 132 cb, .slice (some ⟨gl, 0, none⟩) 3 cl, .slice (some ⟨gn, 0, none⟩) 1 cn] 33)) 33 w1.heap.size [.slice (some ⟨gb, 0, none⟩) 132 cb, .slice (some ⟨gl, 0, none⟩) 3 cl, .slice (some ⟨gn, 0, none⟩) 1 cn] from RowT.new w1 33 [.slice (some ⟨gb, 0, none⟩) 132 cb, .slice (some ⟨gl, 0, none⟩) 3 cl, .slice (some ⟨gn, 0, none⟩) 1 cn])
  have HB := hid (show Below w.heap.size w (w1.alloc (.cells #[.slice (some ⟨gb, 0, none⟩) 132 cb, .slice (some ⟨gl, 0, none⟩) 3 cl, .slice (some ⟨gn, 0, none⟩) 1 cn] 33)) from hb.alloc hb.size _)
  have b0 : (w1.alloc (.cells #[.slice (some ⟨gb, 0, none⟩) 132 cb, .slice (some ⟨gl, 0, none⟩) 3 cl, .slice (some ⟨gn, 0, none⟩) 1 cn] 33)).cell? ⟨gb, 0, none⟩ = some (.int .u8 129) := (ob.cellAt 0 (by simp)).trans (by rfl)
  have b1 : (w1.alloc (.cells #[.slice (some ⟨gb, 0, none⟩) 132 cb, .slice (some ⟨gl, 0, none⟩) 3 cl, .slice (some ⟨gn, 0, none⟩) 1 cn] 33)).cell? ⟨gb, 1, none⟩ = some (.int .u8 131) := (ob.cellAt 1 (by simp)).trans (by rfl)
  have b2 : (w1.alloc (.cells #[.slice (some ⟨gb, 0, none⟩) 132 cb, .slice (some ⟨gl, 0, none⟩) 3 cl, .slice (some ⟨gn, 0, none⟩) 1 cn] 33)).cell? ⟨gb, 131, none⟩ = some (.int .u8 161) := (ob.cellAt 131 (by simp)).trans (byCells_at _ 131 (by simp))
  have hl2 : ls[2].at_ = 131 := by
    have := congrArg (fun l : List Int => l[2]?) hat
    simp only [List.getElem?_map, List.getElem?_eq_getElem (show 2 < ls.length by omega), Option.map_some, List.getElem?_cons_succ, List.getElem?_cons_zero, Option.some.injEq] at this
    omega
  have l0 : (w1.alloc (.cells #[.slice (some ⟨gb, 0, none⟩) 132 cb, .slice (some ⟨gl, 0, none⟩) 3 cl, .slice (some ⟨gn, 0, none⟩) 1 cn] 33)).cell? ⟨gl, 10, none⟩ = some (.int .i64 131) := by
    have := (ol.cellAt (2 * 4 + 2) (by omega)).trans (lnCells_at ls 2 (by omega)).2.2.1
    rw [hl2] at this
    exact this
  obtain ⟨n0, rfl⟩ : ∃ n0, ns = [n0] := List.length_eq_one_iff.1 hnl
  have hn0 : n0 = (⟨#[101, 110, 100]⟩, 131) := by
    have : (L n0.1, n0.2) = (L ⟨#[101, 110, 100]⟩, (131 : Int)) := List.head_eq_of_cons_eq hpn
    injection this with q1 q2
    exact Prod.ext (L_inj q1) q2
  subst hn0
  have n0 : (w1.alloc (.cells #[.slice (some ⟨gb, 0, none⟩) 132 cb, .slice (some ⟨gl, 0, none⟩) 3 cl, .slice (some ⟨gn, 0, none⟩) 1 cn] 33)).cell? ⟨gn, 0, none⟩ = some (.string ⟨#[101, 110, 100]⟩) := (on.cellAt 0 (by simp)).trans rfl
  have n1 : (w1.alloc (.cells #[.slice (some ⟨gb, 0, none⟩) 132 cb, .slice (some ⟨gl, 0, none⟩) 3 cl, .slice (some ⟨gn, 0, none⟩) 1 cn] 33)).cell? ⟨gn, 1, none⟩ = some (.int .i64 131) := (on.cellAt 1 (by simp)).trans rfl
  have hbl : ([129, 131, 0] ++ List.replicate 128 0 ++ [161] : List UInt8).length = 132 := by simp
  rw [hbl, hll, hnl]
  clear hb ob ol on hsay hat hll hpn hnl hbl hl2
  go_upto_region 2 with fail
  generalize w1.alloc (.cells #[.slice (some ⟨gb, 0, none⟩) 132 cb, .slice (some ⟨gl, 0, none⟩) 3 cl, .slice (some ⟨gn, 0, none⟩) 1 cn] 33) = w2 at *
  generalize w1.heap.size = gp at *
  have p0 : w2.cell? ⟨gp, 0, none⟩ = some (.slice (some ⟨gb, 0, none⟩) 132 cb) := HP.out.cell 0 (by simp)
  have p1 : w2.cell? ⟨gp, 1, none⟩ = some (.slice (some ⟨gl, 0, none⟩) 3 cl) := HP.out.cell 1 (by simp)
  have p2 : w2.cell? ⟨gp, 2, none⟩ = some (.slice (some ⟨gn, 0, none⟩) 1 cn) := HP.out.cell 2 (by simp)
  go_wp2_with fail
  go_ret
  exact ⟨rfl, HB.out⟩

end Go.Proofs.YtcepppilgncdmaaGreatDoor

namespace Go.Proofs.YtcepppilgncdmaaGreatDoor
open Go.RowKit
attribute [local go_sem ↓] Go.wp_at_zero Go.wp_at_succ

theorem joinL_snoc (t : List UInt8) : ∀ ts : List (List UInt8), ts ≠ [] → joinL (ts ++ [t]) = joinL ts ++ 10 :: t
  | [], h => absurd rfl h
  | [a], _ => rfl
  | a :: b :: r, _ => by
    have ih := joinL_snoc t (b :: r) (by simp)
    simp only [List.cons_append, joinL] at ih ⊢
    rw [ih]
    simp
theorem joinL_take (ts : List (List UInt8)) (j : Nat) (h : j < ts.length) : joinL (ts.take (j + 1)) = if j = 0 then ts[j] else joinL (ts.take j) ++ 10 :: ts[j] := by
  rw [List.take_succ_eq_append_getElem h]
  by_cases h0 : j = 0
  · subst h0; simp [joinL]
  · rw [if_neg h0, joinL_snoc _ _ (by intro e; have := congrArg List.length e; rw [List.length_take, List.length_nil] at this; omega)]

set_option maxHeartbeats 800000 in
theorem join_any (w : World) (B : Nat) (v : Value) (outs : List (ByteArray × Nat)) (hown : w.ownsRow B 38 4 v outs.length (lineCells outs)) (hn : outs.length ≤ 300) (hz : ∀ x ∈ outs, x.1.size ≤ 80) :
    Calls Tryz.prog 13 #[v] w fun e w' => (∃ s, e = .returned (.string s) ∧ L s = joinL (outs.map fun x => L x.1) ∧ s.size ≤ 24300) ∧ w' = w := by
  obtain ⟨a, c, hv⟩ := own_form hown
  subst hv
  have HO := hid hown
  have HZ := hid hz
  clear hown hz
  go_enter Tryz.func13, Tryz.ntmps13
  go_wp2_with fail
  go_loop [3, 4] (fun s i => ∃ (sC : ByteArray) (j : Nat), j ≤ outs.length ∧ s = .string sC ∧ i = .int .i64 j ∧ sC.size ≤ 81 * j ∧ L sC = joinL ((outs.map fun x => L x.1).take j)) (fun _ i => outs.length - (intOf i).toNat)
  case atStart => exact ⟨⟨#[]⟩, 0, Nat.zero_le _, rfl, rfl, Nat.zero_le _, rfl⟩
  case round =>
    obtain ⟨sC, j, hj, rfl, rfl, hsz, hL⟩ := hrel
    have HL := hid hL
    clear hL
    by_cases hlt : j < outs.length
    · obtain ⟨g, cap, hf, _, hgl, hcs⟩ := lines_lie HO.out (by omega)
      simp only [Value.slice.injEq, true_and] at hf
      obtain ⟨rfl, rfl⟩ := hf
      have c0 := (hcs j hlt).1
      have hzj := HZ.out outs[j] (List.getElem_mem hlt)
      have HT := hid (joinL_take (outs.map fun x => L x.1) j (by simpa using hlt))
      have dn : decide ((j : Int) < outs.length) = true := by simp; omega
      obtain ⟨t, ht⟩ : ∃ t, outs[j].1 = t := ⟨_, rfl⟩
      rw [ht] at c0 hzj
      have HTT := hid ht
      have hj0 : (0 : Int) ≤ (j : Int) := Int.natCast_nonneg _
      have hj1 : (j : Int) < (outs.length : Int) := by omega
      clear hcs ht
      by_cases h0 : j = 0
      · subst h0
        rw [Nat.zero_mul] at c0
        go_wp2_with fail
        go_round
        case rel =>
          refine ⟨sC ++ t, 1, by omega, rfl, by go_num, ?_, ?_⟩
          · rw [ByteArray.size_append]; omega
          · have := HT.out
            rw [Nat.zero_add] at this
            rw [L_append, HL.out, this, if_pos rfl, ← HTT.out]
            simp [joinL]
        case measure => simp [intOf]; omega
      · have d0 : 0 < j := by omega
        have d1 : (0 : Int) < (j : Int) := by omega
        have HJ := hid h0
        clear h0
        go_wp2_with fail
        go_round
        case rel =>
          refine ⟨sC ++ ⟨#[10]⟩ ++ t, j + 1, by omega, rfl, by go_num, ?_, ?_⟩
          · rw [ByteArray.size_append, ByteArray.size_append]; show sC.size + 1 + t.size ≤ _; omega
          · rw [L_append, L_append, HL.out, HT.out, if_neg HJ.out, ← HTT.out, List.append_assoc]
            simp only [List.getElem_map]
            rfl
        case measure => simp [intOf]; omega
    · have hjm : j = outs.length := by omega
      have dn : decide ((j : Int) < outs.length) = false := by simp; omega
      have HJ := hid hjm
      clear hjm
      go_wp2_with fail
      go_ret
      refine ⟨⟨sC, rfl, ?_, by omega⟩, rfl⟩
      rw [HL.out, HJ.out, List.take_of_length_le (by simp)]

end Go.Proofs.YtcepppilgncdmaaGreatDoor

namespace Go.Proofs.YtcepppilgncdmaaGreatDoor
open Go.RowKit
attribute [local go_sem ↓] Go.wp_at_zero Go.wp_at_succ

theorem own_str {w : World} {B : Nat} {v : Value} {bs : List UInt8} (h : w.ownsRow B 5 1 v bs.length (byCells bs)) : (convert 30 9 v).run Tryz.prog w = .ok (.string ⟨bs.toArray⟩) w := by
  rcases h.2 with ⟨rfl, h0⟩ | ⟨g, cap, cur, rfl, hb, hg, _⟩
  · have : bs = [] := List.eq_nil_of_length_eq_zero h0
    subst this
    rw [run_convert_bytes_string w 30 9 5 none 0 0 Tryz.underlying30 Tryz.underlying5 Tryz.underlying9]
    rfl
  · refine run_convert_bytes_back w 30 9 5 ⟨g, 0, none⟩ cap bs Tryz.underlying30 Tryz.underlying5 Tryz.underlying9 (fun j hj => ?_)
    rw [Addr.add_lit, Nat.zero_add]
    exact (h.cellAt j (by omega)).trans (byCells_at bs j hj)
theorem fail_none (s : List UInt8) (h : (assembleP s).1 ≠ 0) : (assembleP s).2.2 = noProg := by
  unfold assembleP at h ⊢
  split
  · rfl
  · rename_i h1
    rw [if_neg h1] at h
    split
    · rfl
    · rename_i h2
      rw [if_neg h2] at h
      unfold makeP at h ⊢
      split
      · rfl
      · rename_i h3
        rw [if_neg h3] at h
        split
        · rfl
        · rename_i h4
          rw [if_neg h4] at h
          exact absurd rfl h
theorem fail_expand (s : List UInt8) (h : (expandP s).1 ≠ 0) : assembleP s = ((expandP s).1, (expandP s).2.1, noProg) := by
  unfold assembleP
  rw [if_pos h]
theorem numbered_length (ts : List (List UInt8)) : ∀ k, (numbered k ts).length = ts.length := by
  induction ts with
  | nil => intro k; rfl
  | cons t r ih => intro k; simp [numbered, ih]
theorem numbered_get (ts : List (List UInt8)) : ∀ (k i : Nat) (h : i < ts.length) (h' : i < (numbered k ts).length), (numbered k ts)[i] = (ts[i], k + i) := by
  induction ts with
  | nil => intro k i h; simp at h
  | cons t r ih =>
    intro k i h h'
    cases i with
    | zero => simp [numbered]
    | succ i =>
      simp only [numbered, List.getElem_cons_succ]
      rw [ih (k + 1) i (by simpa using h) (by simpa [numbered_length] using h)]
      simp only [Prod.mk.injEq, true_and]
      omega
/-- What Again reads of a program: bytes and names, none with an error. -/
structure AgRows (r : Int × Nat × ProgP) (B : Nat) (w : World) (vb vn : Value) (ns : List (ByteArray × Int)) : Prop where
  bown : w.ownsRow B 5 1 vb r.2.2.bytes.length (byCells r.2.2.bytes)
  nown : w.ownsRow B 40 2 vn ns.length (nameCells ns)
  names : plainN ns = namesP r.2.2.stms
  few : ns.length ≤ 300
  some : r.2.2.bytes.length ≤ 300000
theorem AgRows.below {r : Int × Nat × ProgP} {B : Nat} {w w' : World} {vb vn : Value} {ns : List (ByteArray × Int)} (h : AgRows r B w vb vn ns) (hb : Below w.heap.size w w') : AgRows r B w' vb vn ns :=
  ⟨ownsRow_belowP h.bown hb, ownsRow_belowP h.nown hb, h.names, h.few, h.some⟩
theorem AsmRows.ag {r : Int × Nat × ProgP} {B : Nat} {w : World} {vb vl vn : Value} (h : AsmRows r B w vb vl vn) (hn : r.1 ≠ 0 → r.2.2 = noProg) : ∃ ns, AgRows r B w vb vn ns := by
  rcases h with ⟨h0, rfl, rfl, rfl⟩ | ⟨_, ls, ss, ns, h1, h2, h3, h4, h5, h6, h7, h8, h9⟩
  · refine ⟨[], ?_, World.ownsRow_nil _ _ _ _, ?_, by simp, ?_⟩
    · rw [hn h0]; exact World.ownsRow_nil _ _ _ _
    · rw [hn h0]; rfl
    · rw [hn h0]; simp [noProg]
  · exact ⟨ns, h1, h3, h6, h8, h9⟩
theorem plainN_inj : ∀ {a b : List (ByteArray × Int)}, plainN a = plainN b → a = b
  | [], [], _ => rfl
  | x :: r, y :: t, h => by
    simp only [plainN, List.map_cons, List.cons.injEq, Prod.mk.injEq] at h
    rw [plainN_inj (a := r) (b := t) h.2, show x = y from Prod.ext (L_inj h.1.1) h.1.2]
  | [], _ :: _, h => by simp [plainN] at h
  | _ :: _, [], h => by simp [plainN] at h

set_option maxRecDepth 100000 in
set_option maxHeartbeats 3200000 in
theorem Again_any (s : ByteArray) (w : World) (hs : s.size ≤ maxLen) (hm : MaxAt w) :
    Calls Tryz.prog 6 #[.string s] w fun e w' => e = .returned (.bool true) ∧ Below w.heap.size w w' := by
  have HM := hid hm
  clear hm
  go_enter Tryz.func6, Tryz.ntmps6
  go_wp2_with fail
  refine (first_any w HM.out).mono ?_
  rintro e w1 ⟨rfl, hb1⟩
  have HB1 := hid hb1
  have HM1 := hid (HM.out.below hb1)
  clear hb1
  go_wp2_with fail
  refine (mExpand_nil s w1 hs HM1.out).mono ?_
  rintro e w2 ⟨⟨hb2, vl, outs, rfl, hout, hol, hown⟩, hnil⟩
  obtain ⟨X, hX⟩ : ∃ X, expandP (L s) = X := ⟨_, rfl⟩
  rw [hX] at hout hnil ⊢
  obtain ⟨al, cl, hvl⟩ := own_form hown
  subst hvl
  have HNIL := hid hnil
  have HX := hid hX
  have HOUT := hid hout
  have HOWN := hid hown
  have HB2 := hid (HB1.out.trans (hb2.mono HB1.out.size))
  have HM2 := hid (HM1.out.below hb2)
  clear hnil hX hout hown hb2
  go_wp2_with fail
  refine (mAssemble_any s w2 hs HM2.out).mono ?_
  rintro e w3 ⟨hb3, vb, vp, vn, rfl, hrows⟩
  obtain ⟨A, hA⟩ : ∃ A, assembleP (L s) = A := ⟨_, rfl⟩
  rw [hA] at hrows ⊢
  have HA := hid hA
  have HR := hid hrows
  obtain ⟨⟨a1, n1, c1, h1⟩, ⟨a2, n2, c2, h2⟩, ⟨a3, n3, c3, h3⟩⟩ := hrows.forms
  subst h1 h2 h3
  have hb4 := hb3.alloc hb3.size (.cells #[.slice a1 n1 c1, .slice a2 n2 c2, .slice a3 n3 c3] 33)
  have hb34 : Below w3.heap.size w3 (w3.alloc (.cells #[.slice a1 n1 c1, .slice a2 n2 c2, .slice a3 n3 c3] 33)) := (Below.refl _ _).alloc (Nat.le_refl _) _
  have HB4 := hid (HB2.out.trans (hb4.mono HB2.out.size))
  have HM4 := hid (HM2.out.below hb4)
  have HO4 := hid (ownsRow_belowP HOWN.out hb4)
  have HR4 := hid (HR.out.below hb34)
  have HP4 := hid (show RowT (w3.alloc (.cells #[.slice a1 n1 c1, .slice a2 n2 c2, .slice a3 n3 c3] 33)) 33 w3.heap.size [.slice a1 n1 c1, .slice a2 n2 c2, .slice a3 n3 c3] from RowT.new w3 33 [.slice a1 n1 c1, .slice a2 n2 c2, .slice a3 n3 c3])
  clear hA hrows hb3 hb4 hb34 HOWN HR HM1 HM2 HB1
  go_upto_region 4 with fail
  generalize w3.alloc (.cells #[.slice a1 n1 c1, .slice a2 n2 c2, .slice a3 n3 c3] 33) = w4 at *
  generalize w3.heap.size = gp at *
  have p0 : w4.cell? ⟨gp, 0, none⟩ = some (.slice a1 n1 c1) := HP4.out.cell 0 (by simp)
  have p2 : w4.cell? ⟨gp, 2, none⟩ = some (.slice a3 n3 c3) := HP4.out.cell 2 (by simp)
  by_cases hx0 : X.1 = 0
  · have hin := expand_inv (L s) (by rw [HX.out]; exact hx0)
    rw [HX.out, ← HOUT.out] at hin
    have hz : ∀ x ∈ outs, x.1.size ≤ 80 := fun x hx => by
      have := (chain_ok hin.1 ⟨x.1, x.2, 0, 0⟩ (List.mem_map.2 ⟨x, hx, rfl⟩)).len
      rw [L_length] at this
      exact this
    have HJ := hid (join_any w4 w1.heap.size (.slice al outs.length cl) outs HO4.out hol hz)
    obtain ⟨ns, hag⟩ := HR4.out.ag (fun h => by have := fail_none (L s) (by rw [HA.out]; exact h); rw [HA.out] at this; exact this)
    have HAG := hid hag
    clear hin hz hag
    rw [hx0]
    go_wp2_with fail
    refine HJ.out.mono ?_
    rintro e w5 ⟨⟨s1, rfl, hL1, hs1⟩, hw5⟩
    obtain rfl := hw5.symm
    have HL1 := hid hL1
    clear hL1 hw5 HJ
    by_cases hbig : 3000 < s1.size
    · have kb : decide ((3000 : Int) < (s1.size : Int)) = true := by simp; omega
      go_wp2_with fail
      go_ret
      exact ⟨rfl, HB4.out⟩
    · have kb : decide ((3000 : Int) < (s1.size : Int)) = false := by simp; omega
      have hjl : joinL ((expandP (L s)).2.2.map (·.1)) = L s1 := by
        rw [HX.out, ← HOUT.out, HL1.out, List.map_map]
        rfl
      have hmx : s1.size ≤ maxLen := by unfold maxLen; omega
      have hle : (joinL ((expandP (L s)).2.2.map (·.1))).length ≤ 3000 := by rw [hjl, L_length]; omega
      have hx2 := expand_again (L s) (by rw [HX.out]; exact hx0) hle
      obtain ⟨ga, gb, gc⟩ := assemble_again (L s) (by rw [HX.out]; exact hx0) hle
      rw [hjl] at hx2 ga gb gc
      rw [HA.out] at ga gb gc
      have hts : (expandP (L s)).2.2.map (·.1) = outs.map fun x => L x.1 := by
        rw [HX.out, ← HOUT.out, List.map_map]
        rfl
      rw [hts] at hx2
      have HC2 := mExpand_any s1 w4 hmx HM4.out
      rw [hx2] at HC2
      have HC2 := hid HC2
      have HGA := hid ga
      have HGB := hid gb
      have HGC := hid gc
      clear hjl hle hx2 ga gb gc hts
      go_wp2_with fail
      refine HC2.out.mono ?_
      rintro e w6 ⟨hb6, vm, outs2, rfl, hout2, hol2, hown2⟩
      have hlen2 : outs2.length = outs.length := by
        have := congrArg List.length hout2
        rw [numbered_length, List.length_map, List.length_map] at this
        exact this
      rw [hlen2] at hown2
      obtain ⟨am, cm, hvm⟩ := own_form hown2
      subst hvm
      have HOUT2 := hid hout2
      have HLEN2 := hid hlen2
      have HOM := hid hown2
      have HB6 := hid (HB4.out.trans (hb6.mono HB4.out.size))
      have HM6 := hid (HM4.out.below hb6)
      have HO6 := hid (ownsRow_belowP HO4.out hb6)
      have HP6 := hid (HP4.out.below hb6)
      have HAG6 := hid (HAG.out.below hb6)
      clear hout2 hlen2 hown2 hol2 hb6 HC2 HO4 HP4 HAG HM4 HB4 HR4 p0 p2
      go_wp2_with fail
      refine (mAssemble_any s1 w6 hmx HM6.out).mono ?_
      rintro e w7 ⟨hb7, vb2, vp2, vn2, rfl, hrows2⟩
      obtain ⟨A2, hA2⟩ : ∃ A2, assembleP (L s1) = A2 := ⟨_, rfl⟩
      rw [hA2] at hrows2 HGA HGB HGC ⊢
      obtain ⟨ns2, hag2⟩ := hrows2.ag (fun h => by have := fail_none (L s1) (by rw [hA2]; exact h); rw [hA2] at this; exact this)
      obtain ⟨⟨b1, m1, d1, h1⟩, ⟨b2, m2, d2, h2⟩, ⟨b3, m3, d3, h3⟩⟩ := hrows2.forms
      subst h1 h2 h3
      have hnn : ns2 = ns := plainN_inj (by rw [hag2.names, HGC.out, HAG6.out.names])
      subst hnn
      have hb8 := hb7.alloc hb7.size (.cells #[.slice b1 m1 d1, .slice b2 m2 d2, .slice b3 m3 d3] 33)
      have hb78 : Below w7.heap.size w7 (w7.alloc (.cells #[.slice b1 m1 d1, .slice b2 m2 d2, .slice b3 m3 d3] 33)) := (Below.refl _ _).alloc (Nat.le_refl _) _
      have HB8 := hid (HB6.out.trans (hb8.mono HB6.out.size))
      have HO8 := hid (ownsRow_belowP HO6.out hb8)
      have HOM8 := hid (ownsRow_belowP HOM.out hb8)
      have HAG8 := hid (HAG6.out.below hb8)
      have HAH8 := hid (hag2.below hb78)
      have HP8 := hid (HP6.out.below hb8)
      have HQ8 := hid (show RowT (w7.alloc (.cells #[.slice b1 m1 d1, .slice b2 m2 d2, .slice b3 m3 d3] 33)) 33 w7.heap.size [.slice b1 m1 d1, .slice b2 m2 d2, .slice b3 m3 d3] from RowT.new w7 33 [.slice b1 m1 d1, .slice b2 m2 d2, .slice b3 m3 d3])
      clear hA2 hrows2 hag2 hb7 hb8 hb78 HO6 HOM HAG6 HP6 HM6 HB6
      go_upto_region 13 with fail
      generalize w7.alloc (.cells #[.slice b1 m1 d1, .slice b2 m2 d2, .slice b3 m3 d3] 33) = w8 at *
      generalize w7.heap.size = gq at *
      have p0 : w8.cell? ⟨gp, 0, none⟩ = some (.slice a1 n1 c1) := HP8.out.cell 0 (by simp)
      have p2 : w8.cell? ⟨gp, 2, none⟩ = some (.slice a3 n3 c3) := HP8.out.cell 2 (by simp)
      have q0 : w8.cell? ⟨gq, 0, none⟩ = some (.slice b1 m1 d1) := HQ8.out.cell 0 (by simp)
      have q2 : w8.cell? ⟨gq, 2, none⟩ = some (.slice b3 m3 d3) := HQ8.out.cell 2 (by simp)
      have cv1 := own_str HAG8.out.bown
      have cv2 := own_str HAH8.out.bown
      rw [HGB.out] at cv2
      rw [HGA.out]
      obtain ⟨a3', c3', hf3⟩ := own_form HAG8.out.nown
      obtain ⟨b3', d3', hg3⟩ := own_form HAH8.out.nown
      injection hf3 with hf31 hf32 hf33
      injection hg3 with hg31 hg32 hg33
      subst hf31 hf32 hf33 hg31 hg32 hg33
      obtain ⟨bs, hbs⟩ : ∃ bs, A.2.2.bytes = bs := ⟨_, rfl⟩
      rw [hbs] at cv1 cv2
      clear hbs
      go_wp2_with fail
      all_goals
        go_loopw [16] (fun i wr => ∃ j : Nat, j ≤ outs.length ∧ i = .int .i64 j ∧ Below w8.heap.size w8 wr) (fun i _ => outs.length - (intOf i).toNat)
        case atStart => exact ⟨0, Nat.zero_le _, rfl, Below.refl _ _⟩
        case round =>
          obtain ⟨j, hj, rfl, hbr⟩ := hrel
          have HBR := hid hbr
          clear hbr
          by_cases hlt : j < outs.length
          · first
            | exact absurd hlt (by omega)
            | (obtain ⟨g, cap, hf, _, hgl, hcs⟩ := lines_lie HO8.out (by omega)
               simp only [Value.slice.injEq, true_and] at hf
               obtain ⟨rfl, rfl⟩ := hf
               have c0 := (hcs j hlt).1
               have ho2 := HOM8.out
               rw [← HLEN2.out] at ho2
               have hlt2 : j < outs2.length := by rw [HLEN2.out]; exact hlt
               obtain ⟨g2, cap2, hf2, _, hgl2, hcs2⟩ := lines_lie ho2 (by omega)
               simp only [Value.slice.injEq, true_and] at hf2
               obtain ⟨rfl, rfl⟩ := hf2
               obtain ⟨e0, e1, _, _⟩ := hcs2 j hlt2
               have hgt := outs_get HOUT2.out j hlt2 (by rw [numbered_length, List.length_map]; exact hlt)
               rw [numbered_get _ _ _ (by rw [List.length_map]; exact hlt)] at hgt
               simp only [List.getElem_map] at hgt
               rw [L_inj hgt.1] at e0
               rw [hgt.2, show ((1 + j : Nat) : Int) = (j : Int) + 1 from by omega] at e1
               generalize outs[j].1 = t at c0 e0
               rw [← HBR.out.cell (p := ⟨g, j * 4, none⟩) hgl] at c0
               rw [← HBR.out.cell (p := ⟨g2, j * 4, none⟩) hgl2] at e0
               rw [← HBR.out.cell (p := ⟨g2, j * 4 + 1, none⟩) hgl2] at e1
               clear hcs hcs2 ho2 hgt
               have i1 : (0 : Int) ≤ (j : Int) := Int.natCast_nonneg _
               have i2 : (j : Int) < (outs.length : Int) := by omega
               have dn : decide ((j : Int) < outs.length) = true := decide_eq_true (by omega)
               go_wp2_with fail
               go_quiet (fail)
               go_wp2_with fail
               go_roundw
               case rel => exact ⟨j + 1, by omega, by go_num, below_drewN HBR.out _⟩
               case measure => simp [intOf]; omega)
          · have dn : decide ((j : Int) < outs.length) = false := decide_eq_false (by omega)
            have HBW := hid HBR.out
            clear p0 p2 q0 q2 cv1 cv2
            go_wp2_with fail
            go_loopw [17] (fun i wr2 => ∃ k : Nat, k ≤ ns2.length ∧ i = .int .i64 k ∧ Below w8.heap.size w8 wr2) (fun i _ => ns2.length - (intOf i).toNat)
            case atStart => exact ⟨0, Nat.zero_le _, rfl, HBW.out⟩
            case round =>
              obtain ⟨k, hk, rfl, hbr⟩ := hrel
              have HBS := hid hbr
              have r2 : wr.cell? ⟨gp, 2, none⟩ = some (.slice a3 ns2.length c3) := (HP8.out.below hbr).cell 2 (by simp)
              have s2 : wr.cell? ⟨gq, 2, none⟩ = some (.slice b3 ns2.length d3) := (HQ8.out.below hbr).cell 2 (by simp)
              have o1 := ownsRow_belowP HAG8.out.nown hbr
              have o2 := ownsRow_belowP HAH8.out.nown hbr
              have hn3 := HAG8.out.few
              clear hbr
              by_cases hkl : k < ns2.length
              · obtain ⟨g, cap, hf, _, hgl⟩ := o1.form (by omega)
                simp only [Value.slice.injEq, true_and] at hf
                obtain ⟨rfl, rfl⟩ := hf
                obtain ⟨g2, cap2, hf2, _, hgl2⟩ := o2.form (by omega)
                simp only [Value.slice.injEq, true_and] at hf2
                obtain ⟨rfl, rfl⟩ := hf2
                have x0 := (o1.cellAt (k * 2) (by omega)).trans (nameCells_at ns2 k hkl).1
                have x1 := (o1.cellAt (k * 2 + 1) (by omega)).trans (nameCells_at ns2 k hkl).2
                have y0 := (o2.cellAt (k * 2) (by omega)).trans (nameCells_at ns2 k hkl).1
                have y1 := (o2.cellAt (k * 2 + 1) (by omega)).trans (nameCells_at ns2 k hkl).2
                generalize ns2[k] = nk at x0 x1 y0 y1
                have i1 : (0 : Int) ≤ (k : Int) := Int.natCast_nonneg _
                have i2 : (k : Int) < (ns2.length : Int) := by omega
                have dk : decide ((k : Int) < ns2.length) = true := decide_eq_true (by omega)
                clear o1 o2
                go_wp2_with fail
                go_quiet (fail)
                go_wp2_with fail
                go_roundw
                case rel => exact ⟨k + 1, by omega, by go_num, below_drewN HBS.out _⟩
                case measure => simp [intOf]; omega
              · have dk : decide ((k : Int) < ns2.length) = false := decide_eq_false (by omega)
                clear o1 o2
                go_wp2_with fail
                go_ret
                exact ⟨rfl, HB8.out.trans (HBS.out.mono HB8.out.size)⟩
  · have kx : (X.1 != 0) = true := by simpa using hx0
    have ha := fail_expand (L s) (by rw [HX.out]; exact hx0)
    rw [HX.out, HA.out] at ha
    subst ha
    obtain ⟨x, y, hv⟩ := HNIL.out hx0
    rcases HR4.out with ⟨_, h1, h2, h3⟩ | ⟨h0, _⟩
    · injection h1 with h11 h12 h13
      subst h11 h12 h13
      have hv' : (Value.slice al outs.length cl) = .slice none 0 0 := by
        injection hv with hv
        injection hv with hv
        injection hv with hv
        injection hv
      injection hv' with e1 e2 e3
      rw [e1, e2, e3]
      have HK := hid kx
      clear hv h2 h3 e1 e2 e3 HNIL HR4
      have k26 : (binOp .eql 26 (.slice none 0 0) (.slice none 0 0)).run Tryz.prog w4 = .ok (.bool true) w4 := Lib.run_eql_slice_nil_nil w4 _ _ Tryz.underlying26
      have k30 : (binOp .eql 30 (.slice none 0 0) (.slice none 0 0)).run Tryz.prog w4 = .ok (.bool true) w4 := Lib.run_eql_slice_nil_nil w4 _ _ Tryz.underlying30
      go_wp2_with fail
      go_ret
      exact ⟨rfl, HB4.out⟩
    · exact absurd h0 hx0

end Go.Proofs.YtcepppilgncdmaaGreatDoor
