/-
  The program's Assemble (packages assemble and mason).
  The program's Assemble, as package mason hands it on.
-/
import Derived.Test.YtcepppilgncdmaaGreatDoorBS30
import Derived.Test.YtcepppilgncdmaaGreatDoorBS33
namespace Go.Proofs.YtcepppilgncdmaaGreatDoor
open Go.RowKit
attribute [local go_sem ↓] Go.wp_at_zero Go.wp_at_succ

/-- A program's lines, as they lie in memory, say what plain ones do. -/
def lnOf (s : StmP) (ln : LnV) : Prop := L ln.t = s.txt ∧ ln.frm = s.frm ∧ (ln.at_ : Int) = s.at_ ∧ ln.size = sizeP s
/-- What Assemble answers: an error and where, and nothing besides; or a program, in rows of its own. -/
def AssemblePost (r : Int × Nat × ProgP) (w : World) (e : Ending) (w' : World) : Prop :=
  Below w.heap.size w w' ∧ ∃ vb vl vn, e = .returned (.tuple #[.agg #[vb, vl, vn], .int .i64 r.1, .int .i64 (r.2.1 : Nat)]) ∧
    ((r.1 ≠ 0 ∧ vb = .slice none 0 0 ∧ vl = .slice none 0 0 ∧ vn = .slice none 0 0) ∨
     (r.1 = 0 ∧ ∃ ls ss ns, w'.ownsRow w.heap.size 5 1 vb r.2.2.bytes.length (byCells r.2.2.bytes) ∧ w'.ownsRow w.heap.size 38 4 vl ls.length (lnCells ls) ∧ w'.ownsRow w.heap.size 40 2 vn ns.length (nameCells ns) ∧ Say 0 ls ss r.2.2.stms ∧ Sized ls r.2.2.stms ∧ plainN ns = namesP r.2.2.stms ∧ ls.length ≤ 300 ∧ ns.length ≤ 300 ∧ r.2.2.bytes.length ≤ 300000))

theorem own_monoA {w : World} {b c e s n : Nat} {v : Value} {xs : List Value} (h : w.ownsRow b e s v n xs) (hc : c ≤ b) : w.ownsRow c e s v n xs := by
  refine ⟨h.1, ?_⟩
  rcases h.2 with h2 | ⟨g, cap, cur, h1, h2, h3⟩
  · exact Or.inl h2
  · exact Or.inr ⟨g, cap, cur, h1, Nat.le_trans hc h2, h3⟩
theorem chain_ok {ns : List (List UInt8 × Int)} {outs : List (ByteArray × Nat)} (h : ChainN ns (outs.map fun x => (L x.1, x.2))) : ∀ ln ∈ outs.map (fun x => (⟨x.1, x.2, 0, 0⟩ : LnV)), LnOk ln := by
  induction outs generalizing ns with
  | nil => intro ln hl; cases hl
  | cons y r ih =>
    intro ln hl
    rcases List.mem_cons.1 hl with rfl | hl
    · obtain ⟨h1, h2, _⟩ := h
      simp only at h1 h2
      refine ⟨cut_same (by rw [← h2]; exact h1.src.ok.text), by have := h1.src.len; rw [h2] at this; exact this, fun e => ?_, rfl, rfl⟩
      have h3 := h1.set e
      exact ⟨h3.1, h3.2.1⟩
    · exact ih h.2.2 ln hl
theorem allBytes_len (all : List (List UInt8 × Int)) : ∀ {k : Nat} {ls : List LnV} {ss : List StV} {l : List StmP}, Say k ls ss l → Sized ls l → (∀ x ∈ ss, x.es.length ≤ 200) → (∀ ln ∈ ls, ln.size ≤ 1000) → (allBytes all l).2.2.length ≤ 1000 * l.length
  | _, [], [], [], _, _, _, _ => by simp [allBytes]
  | k, ln :: lr, x :: xr, s :: sr, h, hz, he, hs => by
    have ih := allBytes_len all h.2 hz.2 (fun y hy => he y (by simp [hy])) (fun y hy => hs y (by simp [hy]))
    have hb := say_bytes h.1 all hz.1
    have hl := bytesV_len all ln.at_ ln.size x (he x (by simp)) (hs ln (by simp))
    rw [hb] at hl
    simp only [allBytes]
    split
    · simp
    · split
      · simp
      · simp only [List.length_append, List.length_cons]; omega
  | _, [], [], _ :: _, h, _, _, _ => h.elim
  | _, [], _ :: _, _, h, _, _, _ => h.elim
  | _, _ :: _, [], _, h, _, _, _ => h.elim
  | _, _ :: _, _ :: _, [], h, _, _, _ => h.elim
theorem findV_ok : ∀ (n : Nat) {ls : List LnV} {ss : List StV} {ns : List (ByteArray × Int)} {m : Nat}, AllOk ss m → ls.length = ss.length → ss.length ≤ 300 → (∀ l ∈ ls, l.at_ ≤ 1000000 ∧ l.size ≤ 1000) → AllOk (findV n ls ss ns).2.1 m ∧ (findV n ls ss ns).1.length = ls.length ∧ (findV n ls ss ns).2.1.length = ss.length ∧ (findV n ls ss ns).2.2.length = ns.length ∧ (∀ l ∈ (findV n ls ss ns).1, l.at_ ≤ 1000000 ∧ l.size ≤ 1000)
  | 0, ls, ss, ns, m, h, hl, h3, ha => ⟨h, rfl, rfl, rfl, ha⟩
  | n + 1, ls, ss, ns, m, h, hl, h3, ha => by
    simp only [findV]
    split
    · have hlen := lenL_length (plainN ns) ls ss
      have hok := h.len (plainN ns) ls
      have h5 := findV_ok n (ls := setL ls (lenL (plainN ns) ls ss) 0) (ss := lenL (plainN ns) ls ss) (ns := setN (lenL (plainN ns) ls ss) 0 ns) (m := m) hok (by rw [setL_length, hlen]; exact hl) (by rw [hlen]; exact h3) (fun l hh => by
        have := setL_at ls (lenL (plainN ns) ls ss) 0 m (by rw [hlen]; exact hl) (fun x hx => (hok x hx).2) l hh
        rw [hlen] at this
        omega)
      exact ⟨h5.1, by rw [h5.2.1, setL_length], by rw [h5.2.2.1, hlen], by rw [h5.2.2.2.1, setN_length], h5.2.2.2.2⟩
    · exact ⟨h, rfl, rfl, rfl, ha⟩

set_option maxRecDepth 100000 in
set_option maxHeartbeats 3200000 in
theorem Assemble_any (s : ByteArray) (w : World) (hs : s.size ≤ maxLen) (hm : MaxAt w) :
    Calls Tryz.prog 21 #[.string s] w (AssemblePost (assembleP (L s)) w) := by
  have hg : 0 < w.heap.size := by
    obtain ⟨m, h1⟩ := hm
    exact World.block_lt_of_cell? _ _ h1
  obtain ⟨r, hr⟩ : ∃ r, assembleP (L s) = r := ⟨_, rfl⟩
  rw [hr]
  unfold assembleP at hr
  have HR := hid hr
  have HM := hid hm
  clear hr hm
  have hb0 : Below w.heap.size w (w.alloc (.cells #[.slice none 0 0, .slice none 0 0, .slice none 0 0] 33)) := (Below.refl _ _).alloc (Nat.le_refl _) _
  have HP0 := hid (show RowT (w.alloc (.cells #[.slice none 0 0, .slice none 0 0, .slice none 0 0] 33)) 33 w.heap.size [.slice none 0 0, .slice none 0 0, .slice none 0 0] from RowT.new w 33 [.slice none 0 0, .slice none 0 0, .slice none 0 0])
  have HB0 := hid hb0
  have HM0 := hid (HM.out.below hb0)
  have hsz : w.heap.size ≤ (w.alloc (.cells #[.slice none 0 0, .slice none 0 0, .slice none 0 0] 33)).heap.size := hb0.size
  clear hb0
  go_enter Tryz.func21, Tryz.ntmps21
  go_upto_region 1 with fail
  generalize w.alloc (.cells #[.slice none 0 0, .slice none 0 0, .slice none 0 0] 33) = w0 at *
  go_wp2_with fail
  refine (Expand_nil s w0 hs HM0.out).mono ?_
  rintro e w1 ⟨⟨hb1, vl, outs, rfl, hout, hol, hown⟩, hnil⟩
  obtain ⟨X, hX⟩ : ∃ X, expandP (L s) = X := ⟨_, rfl⟩
  rw [hX] at hout hnil ⊢
  have HXX := hid hX
  have hr0 := HR.out
  rw [hX] at hr0
  have HRX := hid hr0
  have HOUT := hid hout
  have HOWN := hid (own_monoA hown hsz)
  have HB1 := hid (HB0.out.trans (hb1.mono hsz))
  have HPX := hid (HP0.out.below hb1)
  have HM1 := hid (HM0.out.below hb1)
  have hsz1 : w.heap.size < w1.heap.size := (HP0.out.below hb1).lt
  clear hX hr0 hout hown hb1 hnil HR HP0 HB0 HM0
  by_cases hx0 : X.1 = 0
  · have kx : (X.1 != 0) = false := by simp [hx0]
    have hr1 := HRX.out
    rw [if_neg (fun h => h hx0)] at hr1
    obtain ⟨hch, _⟩ := expand_inv (L s) (by rw [HXX.out]; exact hx0)
    rw [HXX.out, ← HOUT.out] at hch
    have HLN := hid (chain_ok hch)
    obtain ⟨ls, hls⟩ : ∃ ls, outs.map (fun x => (⟨x.1, x.2, 0, 0⟩ : LnV)) = ls := ⟨_, rfl⟩
    rw [hls] at HLN
    have hll : ls.length = outs.length := by rw [← hls, List.length_map]
    have hlc : lnCells ls = lineCells outs := by rw [← hls, lnCells_lines]
    have hmp : ls.map (fun ln => (L ln.t, ln.frm)) = X.2.2 := by rw [← HOUT.out, ← hls, List.map_map]; rfl
    have hown2 : w1.ownsRow w.heap.size 38 4 vl ls.length (lnCells ls) := by rw [hll, hlc]; exact HOWN.out
    have hl3 : ls.length ≤ 300 := by omega
    have hb2 : Below w1.heap.size w1 (w1.alloc (.cells #[vl, .slice none 0 0, .slice none 0 0, .slice none 0 0, .int .i64 0, .slice none 0 0] 83)) := (Below.refl _ _).alloc (Nat.le_refl _) _
    have HA := hid (show AsmAt (w1.alloc (.cells #[vl, .slice none 0 0, .slice none 0 0, .slice none 0 0, .int .i64 0, .slice none 0 0] 83)) w.heap.size w1.heap.size vl (.slice none 0 0) (.slice none 0 0) (.slice none 0 0) (.slice none 0 0) ls [] [] [] 0 [] from
      ⟨RowT.new w1 83 [vl, .slice none 0 0, .slice none 0 0, .slice none 0 0, .int .i64 0, .slice none 0 0], Nat.le_of_lt hsz1, hown2.alloc _, World.ownsRow_nil _ _ _ _, World.ownsRow_nil _ _ _ _, World.ownsRow_nil _ _ _ _, World.ownsRow_nil _ _ _ _, (fun g h => by cases h), (fun x hx => by cases hx)⟩)
    have HB2 := hid (HB1.out.trans (hb2.mono (Nat.le_of_lt hsz1)))
    have HM2 := hid (HM1.out.below hb2)
    have HPX := hid (HPX.out.below hb2)
    have hB2 : w.heap.size ≤ (w1.alloc (.cells #[vl, .slice none 0 0, .slice none 0 0, .slice none 0 0, .int .i64 0, .slice none 0 0] 83)).heap.size := HB2.out.size
    rw [← hmp] at hr1
    obtain ⟨R1, hR1⟩ : ∃ R1, lookAll (ls.map fun ln => (L ln.t, ln.frm)) [] = R1 := ⟨_, rfl⟩
    rw [hR1] at hr1
    have HR1 := hid hR1
    have HRY := hid hr1
    obtain ⟨al, cl, hvl⟩ := own_form hown2
    subst hvl
    clear hch hls hll hlc hmp hown2 hb2 hR1 hr1 HRX HOUT HOWN HB1 HM1
    rw [hx0]
    go_upto_region 5 with fail
    generalize w1.alloc (.cells #[.slice al ls.length cl, .slice none 0 0, .slice none 0 0, .slice none 0 0, .int .i64 0, .slice none 0 0] 83) = w2 at *
    generalize w1.heap.size = ba at *
    go_wp2_with fail
    refine (lookAtLines_any w2 w.heap.size ba (.slice al ls.length cl) ls HA.out hl3 HLN.out hB2 HM2.out hg R1 HR1.out).mono ?_
    rintro e w3 ⟨rfl, hf3, hx3⟩
    have HBX := hid (HB2.out.trans (hf3.below hB2))
    have HPX := hid (HPX.out.fr hf3 rfl (fun h => by cases h))
    have HX3 := hid hx3
    clear hf3 hx3
    have hr2 := HRY.out
    by_cases h10 : R1.1 = 0
    · have kr : (R1.1 != 0) = false := by simp [h10]
      rw [if_neg (fun h => h h10)] at hr2
      obtain ⟨vs, vn, vt, ss, ns, ts, ha3, hsay, hns, hok, hn3⟩ := HX3.out h10
      obtain ⟨l, hl⟩ : ∃ l, R1.2.2 = l := ⟨_, rfl⟩
      rw [hl] at hr2 hsay hns
      have hlen := hsay.len
      have hB3 : w.heap.size ≤ w3.heap.size := HBX.out.size
      obtain ⟨F, hF⟩ : ∃ F, findV (ss.length + 1) (setL ls ss 0) ss (setN ss 0 ns) = F := ⟨_, rfl⟩
      have hfd := findAddresses_any w3 w.heap.size ba (.slice al ls.length cl) vs vn vt (.slice none 0 0) ls ss ns ts 0 [] ha3 (by omega) hl3 (by omega) hok hB3 F hF
      have hp1 := (say_laid 0 hsay).1
      have hp2 := say_names 0 hsay (P := []) (ns := ns) rfl (by rw [List.nil_append]; exact hns)
      rw [List.nil_append] at hp2
      have hp3 := say_find (ss.length + 1) hp1 hp2
      have hp4 := sized_find (ss.length + 1) hp1 hp2 (sized_laid 0 hsay)
      have hlat := setL_at ls ss 0 ns.length (by omega) (fun x hx => (hok x hx).2)
      have hp5 := findV_ok (ss.length + 1) (ls := setL ls ss 0) (ss := ss) (ns := setN ss 0 ns) hok (by rw [setL_length]; omega) (by omega) (fun y hy => by have := hlat y hy; omega)
      rw [hF] at hp3 hp4 hp5
      rw [setL_length, setN_length] at hp5
      have hpl : findP (ss.length + 1) (laidP l 0) = placedP l := by unfold placedP; rw [hlen.2]
      rw [hpl] at hp3 hp4
      obtain ⟨f1, f2, f3, f4, f5⟩ := hp5
      have hend : endV F.2.1 0 = endP (placedP l) 0 := (say_laid 0 hp3.1).2
      have HFD := hid hfd
      have HP3' := hid hp3
      have HP4 := hid hp4
      have HF1 := hid f1
      have HF5 := hid f5
      have HRZ := hid hr2
      have HEND := hid hend
      clear hfd hp1 hp2 hp3 hp4 hlat hpl f1 f5 hF ha3 hsay hns hok hr2 hend hl HX3
      rw [h10]
      go_wp2_with fail
      refine HFD.out.mono ?_
      rintro e w4 ⟨rfl, hf4, ha4⟩
      have HBX := hid (HBX.out.trans (hf4.below hB3))
      have HPX := hid (HPX.out.fr hf4 rfl (fun h => by cases h))
      have HA4 := hid ha4
      have hB4 : w.heap.size ≤ w4.heap.size := HBX.out.size
      have c4 : w4.cell? ⟨ba, 4, none⟩ = some (.int .i64 (endV F.2.1 0 : Nat)) := ha4.row.cell 4 (by simp)
      clear hf4 ha4
      have hr3 := HRZ.out
      unfold makeP at hr3
      rw [← HEND.out] at hr3
      obtain ⟨ee, hee⟩ : ∃ ee, endV F.2.1 0 = ee := ⟨_, rfl⟩
      rw [hee] at hr3 c4
      by_cases h1k : 1000 < ee
      · rw [if_pos h1k] at hr3
        subst hr3
        have kk : decide ((1000 : Int) < (ee : Int)) = true := by simp; omega
        have HNZ := hid (show ((8 : Int), (0 : Nat), noProg).1 ≠ 0 by decide)
        have p0 : w4.cell? ⟨w.heap.size, 0, none⟩ = some (.slice none 0 0) := HPX.out.cell 0 (by simp)
        have p1 : w4.cell? ⟨w.heap.size, 1, none⟩ = some (.slice none 0 0) := HPX.out.cell 1 (by simp)
        have p2 : w4.cell? ⟨w.heap.size, 2, none⟩ = some (.slice none 0 0) := HPX.out.cell 2 (by simp)
        have g0 := HPX.out.free 0
        have g1 := HPX.out.free 1
        have g2 := HPX.out.free 2
        have HP3 := hid (((HPX.out.set 0 (.slice none 0 0)).set 1 (.slice none 0 0)).set 2 (.slice none 0 0))
        have HK3 := hid (((((Keeps.refl [w.heap.size] w4).setCell (p := ⟨w.heap.size, 0, none⟩) (by simp) (.slice none 0 0)).setCell (p := ⟨w.heap.size, 1, none⟩) (by simp) (.slice none 0 0)).setCell (p := ⟨w.heap.size, 2, none⟩) (by simp) (.slice none 0 0)).below (B := w.heap.size) HBX.out.size (fun k hk => by rw [List.mem_singleton] at hk; omega))
        go_wp2_with fail
        refine bodyPost_ret (v := .tuple #[.agg #[.slice none 0 0, .slice none 0 0, .slice none 0 0], .int .i64 8, .int .i64 0]) (by simp [results, Tryz.results21, go_sem, p0, p1, p2]) rfl ?_
        exact ⟨HBX.out.trans HK3.out, _, _, _, rfl, Or.inl ⟨HNZ.out, rfl, rfl, rfl⟩⟩
      · rw [if_neg h1k] at hr3
        have kk : decide ((1000 : Int) < (ee : Int)) = false := by simp; omega
        have hpn := HP3'.out.2
        have hal := say_all (plainN F.2.2) HP3'.out.1 HP4.out
        rw [hpn] at hal
        obtain ⟨M, hM⟩ : ∃ M, allBytes (namesP (placedP l)) (placedP l) = M := ⟨_, rfl⟩
        rw [hM] at hal hr3
        have hml : M.2.2.length ≤ 300000 := by
          have h1 := allBytes_len (namesP (placedP l)) HP3'.out.1 HP4.out (fun x hx => (HF1.out x hx).2.few) (fun ln hl => (HF5.out ln hl).2)
          rw [hM] at h1
          have h2 := HP3'.out.1.len
          omega
        have hma := makeAllBytes_any w4 w.heap.size ba (.slice al ls.length cl) vs vn vt (.slice none 0 0) F.1 F.2.1 F.2.2 ts ee (by rw [← hee]; exact HA4.out) (by omega) (by omega) (by omega) (fun x hx => ⟨(HF1.out x hx).1, (HF1.out x hx).2.few⟩) HF5.out hB4 M (by rw [hpn]; exact hal)
        have HMA := hid hma
        have HRW := hid hr3
        clear hpn hal hM hma hr3 hee
        go_wp2_with fail
        refine HMA.out.mono ?_
        rintro e w5 ⟨rfl, hf5, ha5⟩
        have HBX := hid (HBX.out.trans (hf5.below hB4))
        have HPX := hid (HPX.out.fr hf5 rfl (fun h => by cases h))
        have HA5 := hid ha5
        clear hf5 ha5 c4
        have hr4 := HRW.out
        by_cases hm0 : M.1 = 0
        · rw [if_neg (fun h => h hm0)] at hr4
          subst hr4
          obtain ⟨vb, ha6⟩ := HA5.out hm0
          rw [List.nil_append] at ha6
          have HA6 := hid ha6
          obtain ⟨bl, bc, hvb⟩ := own_form ha6.bown
          obtain ⟨nl, nc, hvn⟩ := own_form ha6.nown
          have q5 : w5.cell? ⟨ba, 5, none⟩ = some vb := ha6.row.cell 5 (by simp)
          have q0 : w5.cell? ⟨ba, 0, none⟩ = some (.slice al ls.length cl) := ha6.row.cell 0 (by simp)
          have q2 : w5.cell? ⟨ba, 2, none⟩ = some vn := ha6.row.cell 2 (by simp)
          subst hvb hvn
          have p0 : w5.cell? ⟨w.heap.size, 0, none⟩ = some (.slice none 0 0) := HPX.out.cell 0 (by simp)
          have p1 : w5.cell? ⟨w.heap.size, 1, none⟩ = some (.slice none 0 0) := HPX.out.cell 1 (by simp)
          have p2 : w5.cell? ⟨w.heap.size, 2, none⟩ = some (.slice none 0 0) := HPX.out.cell 2 (by simp)
          have g0 := HPX.out.free 0
          have g1 := HPX.out.free 1
          have g2 := HPX.out.free 2
          clear ha6
          rw [hlen.1] at q0
          rw [f4] at q2
          rw [hlen.1, f4] at HA6
          have HSL := hid (ownsRow_setCell_other (ownsRow_setCell_other (ownsRow_setCell_other HA6.out.lown (a := ⟨w.heap.size, 0, none⟩) (own_row_ne HA6.out.lown HPX.out (by decide)) (.slice bl M.2.2.length bc)) (a := ⟨w.heap.size, 1, none⟩) (own_row_ne HA6.out.lown HPX.out (by decide)) (.slice al l.length cl)) (a := ⟨w.heap.size, 2, none⟩) (own_row_ne HA6.out.lown HPX.out (by decide)) (.slice nl ns.length nc))
          have HSN := hid (ownsRow_setCell_other (ownsRow_setCell_other (ownsRow_setCell_other HA6.out.nown (a := ⟨w.heap.size, 0, none⟩) (own_row_ne HA6.out.nown HPX.out (by decide)) (.slice bl M.2.2.length bc)) (a := ⟨w.heap.size, 1, none⟩) (own_row_ne HA6.out.nown HPX.out (by decide)) (.slice al l.length cl)) (a := ⟨w.heap.size, 2, none⟩) (own_row_ne HA6.out.nown HPX.out (by decide)) (.slice nl ns.length nc))
          have HSB := hid (ownsRow_setCell_other (ownsRow_setCell_other (ownsRow_setCell_other HA6.out.bown (a := ⟨w.heap.size, 0, none⟩) (own_row_ne HA6.out.bown HPX.out (by decide)) (.slice bl M.2.2.length bc)) (a := ⟨w.heap.size, 1, none⟩) (own_row_ne HA6.out.bown HPX.out (by decide)) (.slice al l.length cl)) (a := ⟨w.heap.size, 2, none⟩) (own_row_ne HA6.out.bown HPX.out (by decide)) (.slice nl ns.length nc))
          have HPW := hid (((HPX.out.set 0 (.slice bl M.2.2.length bc)).set 1 (.slice al l.length cl)).set 2 (.slice nl ns.length nc))
          have HK3 := hid (((((Keeps.refl [w.heap.size] w5).setCell (p := ⟨w.heap.size, 0, none⟩) (by simp) (.slice bl M.2.2.length bc)).setCell (p := ⟨w.heap.size, 1, none⟩) (by simp) (.slice al l.length cl)).setCell (p := ⟨w.heap.size, 2, none⟩) (by simp) (.slice nl ns.length nc)).below (B := w.heap.size) HBX.out.size (fun k hk => by rw [List.mem_singleton] at hk; omega))
          rw [hm0]
          go_wp2_with fail
          go_region
          generalize ((w5.setCell ⟨w.heap.size, 0, none⟩ (.slice bl M.2.2.length bc)).setCell ⟨w.heap.size, 1, none⟩ (.slice al l.length cl)).setCell ⟨w.heap.size, 2, none⟩ (.slice nl ns.length nc) = w6 at HSL HSN HSB HPW HK3 ⊢
          have r0 : w6.cell? ⟨w.heap.size, 0, none⟩ = some (.slice bl M.2.2.length bc) := HPW.out.cell 0 (by simp)
          have r1 : w6.cell? ⟨w.heap.size, 1, none⟩ = some (.slice al l.length cl) := HPW.out.cell 1 (by simp)
          have r2 : w6.cell? ⟨w.heap.size, 2, none⟩ = some (.slice nl ns.length nc) := HPW.out.cell 2 (by simp)
          clear p0 p1 p2 g0 g1 g2 q0 q2 q5
          go_wp2_with fail
          refine bodyPost_ret (v := .tuple #[.agg #[.slice bl M.2.2.length bc, .slice al l.length cl, .slice nl ns.length nc], .int .i64 0, .int .i64 0]) (by simp [results, Tryz.results21, go_sem, r0, r1, r2]) rfl ?_
          exact ⟨(HBX.out.trans HK3.out).drew, _, _, _, rfl, Or.inr ⟨rfl, F.1, F.2.1, F.2.2, HSB.out, HSL.out, HSN.out, HP3'.out.1, HP4.out, HP3'.out.2, by omega, by omega, hml⟩⟩
        · have km : (M.1 != 0) = true := by simpa using hm0
          rw [if_pos hm0] at hr4
          subst hr4
          have HNZ := hid (show (M.1, M.2.1, noProg).1 ≠ 0 from hm0)
          have p0 : w5.cell? ⟨w.heap.size, 0, none⟩ = some (.slice none 0 0) := HPX.out.cell 0 (by simp)
          have p1 : w5.cell? ⟨w.heap.size, 1, none⟩ = some (.slice none 0 0) := HPX.out.cell 1 (by simp)
          have p2 : w5.cell? ⟨w.heap.size, 2, none⟩ = some (.slice none 0 0) := HPX.out.cell 2 (by simp)
          have g0 := HPX.out.free 0
          have g1 := HPX.out.free 1
          have g2 := HPX.out.free 2
          have HP3 := hid (((HPX.out.set 0 (.slice none 0 0)).set 1 (.slice none 0 0)).set 2 (.slice none 0 0))
          have HK3 := hid (((((Keeps.refl [w.heap.size] w5).setCell (p := ⟨w.heap.size, 0, none⟩) (by simp) (.slice none 0 0)).setCell (p := ⟨w.heap.size, 1, none⟩) (by simp) (.slice none 0 0)).setCell (p := ⟨w.heap.size, 2, none⟩) (by simp) (.slice none 0 0)).below (B := w.heap.size) HBX.out.size (fun k hk => by rw [List.mem_singleton] at hk; omega))
          go_wp2_with fail
          refine bodyPost_ret (v := .tuple #[.agg #[.slice none 0 0, .slice none 0 0, .slice none 0 0], .int .i64 M.1, .int .i64 (M.2.1 : Nat)]) (by simp [results, Tryz.results21, go_sem, p0, p1, p2]) rfl ?_
          exact ⟨HBX.out.trans HK3.out, _, _, _, rfl, Or.inl ⟨HNZ.out, rfl, rfl, rfl⟩⟩
    · have kr : (R1.1 != 0) = true := by simpa using h10
      rw [if_pos h10] at hr2
      subst hr2
      have HNZ := hid (show (R1.1, R1.2.1, noProg).1 ≠ 0 from h10)
      have p0 : w3.cell? ⟨w.heap.size, 0, none⟩ = some (.slice none 0 0) := HPX.out.cell 0 (by simp)
      have p1 : w3.cell? ⟨w.heap.size, 1, none⟩ = some (.slice none 0 0) := HPX.out.cell 1 (by simp)
      have p2 : w3.cell? ⟨w.heap.size, 2, none⟩ = some (.slice none 0 0) := HPX.out.cell 2 (by simp)
      have g0 := HPX.out.free 0
      have g1 := HPX.out.free 1
      have g2 := HPX.out.free 2
      have HP3 := hid (((HPX.out.set 0 (.slice none 0 0)).set 1 (.slice none 0 0)).set 2 (.slice none 0 0))
      have HK3 := hid (((((Keeps.refl [w.heap.size] w3).setCell (p := ⟨w.heap.size, 0, none⟩) (by simp) (.slice none 0 0)).setCell (p := ⟨w.heap.size, 1, none⟩) (by simp) (.slice none 0 0)).setCell (p := ⟨w.heap.size, 2, none⟩) (by simp) (.slice none 0 0)).below (B := w.heap.size) HBX.out.size (fun k hk => by rw [List.mem_singleton] at hk; omega))
      go_wp2_with fail
      refine bodyPost_ret (v := .tuple #[.agg #[.slice none 0 0, .slice none 0 0, .slice none 0 0], .int .i64 R1.1, .int .i64 (R1.2.1 : Nat)]) (by simp [results, Tryz.results21, go_sem, p0, p1, p2]) rfl ?_
      exact ⟨HBX.out.trans HK3.out, _, _, _, rfl, Or.inl ⟨HNZ.out, rfl, rfl, rfl⟩⟩
  · have kx : (X.1 != 0) = true := by simpa using hx0
    have hr1 := HRX.out
    rw [if_pos hx0] at hr1
    subst hr1
    have HNZ := hid (show (X.1, X.2.1, noProg).1 ≠ 0 from hx0)
    have HBX := hid HB1.out
    have p0 : w1.cell? ⟨w.heap.size, 0, none⟩ = some (.slice none 0 0) := HPX.out.cell 0 (by simp)
    have p1 : w1.cell? ⟨w.heap.size, 1, none⟩ = some (.slice none 0 0) := HPX.out.cell 1 (by simp)
    have p2 : w1.cell? ⟨w.heap.size, 2, none⟩ = some (.slice none 0 0) := HPX.out.cell 2 (by simp)
    have g0 := HPX.out.free 0
    have g1 := HPX.out.free 1
    have g2 := HPX.out.free 2
    have HP3 := hid (((HPX.out.set 0 (.slice none 0 0)).set 1 (.slice none 0 0)).set 2 (.slice none 0 0))
    have HK3 := hid (((((Keeps.refl [w.heap.size] w1).setCell (p := ⟨w.heap.size, 0, none⟩) (by simp) (.slice none 0 0)).setCell (p := ⟨w.heap.size, 1, none⟩) (by simp) (.slice none 0 0)).setCell (p := ⟨w.heap.size, 2, none⟩) (by simp) (.slice none 0 0)).below (B := w.heap.size) HBX.out.size (fun k hk => by rw [List.mem_singleton] at hk; omega))
    go_wp2_with fail
    refine bodyPost_ret (v := .tuple #[.agg #[.slice none 0 0, .slice none 0 0, .slice none 0 0], .int .i64 X.1, .int .i64 (X.2.1 : Nat)]) (by simp [results, Tryz.results21, go_sem, p0, p1, p2]) rfl ?_
    exact ⟨HBX.out.trans HK3.out, _, _, _, rfl, Or.inl ⟨HNZ.out, rfl, rfl, rfl⟩⟩

end Go.Proofs.YtcepppilgncdmaaGreatDoor

namespace Go.Proofs.YtcepppilgncdmaaGreatDoor
open Go.RowKit
attribute [local go_sem ↓] Go.wp_at_zero Go.wp_at_succ

/-- What lies in the rows that Assemble answers with, or nothing with an error. -/
def AsmRows (r : Int × Nat × ProgP) (B : Nat) (w : World) (vb vl vn : Value) : Prop :=
  (r.1 ≠ 0 ∧ vb = .slice none 0 0 ∧ vl = .slice none 0 0 ∧ vn = .slice none 0 0) ∨
     (r.1 = 0 ∧ ∃ ls ss ns, w.ownsRow B 5 1 vb r.2.2.bytes.length (byCells r.2.2.bytes) ∧ w.ownsRow B 38 4 vl ls.length (lnCells ls) ∧ w.ownsRow B 40 2 vn ns.length (nameCells ns) ∧ Say 0 ls ss r.2.2.stms ∧ Sized ls r.2.2.stms ∧ plainN ns = namesP r.2.2.stms ∧ ls.length ≤ 300 ∧ ns.length ≤ 300 ∧ r.2.2.bytes.length ≤ 300000)
theorem AsmRows.forms {r : Int × Nat × ProgP} {B : Nat} {w : World} {vb vl vn : Value} (h : AsmRows r B w vb vl vn) : (∃ a n c, vb = .slice a n c) ∧ (∃ a n c, vl = .slice a n c) ∧ (∃ a n c, vn = .slice a n c) := by
  rcases h with ⟨_, rfl, rfl, rfl⟩ | ⟨_, ls, ss, ns, h1, h2, h3, _⟩
  · exact ⟨⟨_, _, _, rfl⟩, ⟨_, _, _, rfl⟩, ⟨_, _, _, rfl⟩⟩
  · obtain ⟨a1, c1, rfl⟩ := own_form h1
    obtain ⟨a2, c2, rfl⟩ := own_form h2
    obtain ⟨a3, c3, rfl⟩ := own_form h3
    exact ⟨⟨_, _, _, rfl⟩, ⟨_, _, _, rfl⟩, ⟨_, _, _, rfl⟩⟩
theorem AsmRows.set {r : Int × Nat × ProgP} {B b : Nat} {w : World} {vb vl vn : Value} {xs : List Value} (h : AsmRows r B w vb vl vn) (hp : RowT w 33 b xs) (j : Nat) (u : Value) : AsmRows r B (w.setCell ⟨b, j, none⟩ u) vb vl vn := by
  rcases h with h | ⟨h0, ls, ss, ns, h1, h2, h3, h4⟩
  · exact Or.inl h
  · exact Or.inr ⟨h0, ls, ss, ns, ownsRow_setCell_other h1 (a := ⟨b, j, none⟩) (own_row_ne h1 hp (by decide)) u, ownsRow_setCell_other h2 (a := ⟨b, j, none⟩) (own_row_ne h2 hp (by decide)) u, ownsRow_setCell_other h3 (a := ⟨b, j, none⟩) (own_row_ne h3 hp (by decide)) u, h4⟩
theorem AsmRows.mono {r : Int × Nat × ProgP} {B C : Nat} {w : World} {vb vl vn : Value} (h : AsmRows r B w vb vl vn) (hc : C ≤ B) : AsmRows r C w vb vl vn := by
  rcases h with h | ⟨h0, ls, ss, ns, h1, h2, h3, h4⟩
  · exact Or.inl h
  · exact Or.inr ⟨h0, ls, ss, ns, own_monoA h1 hc, own_monoA h2 hc, own_monoA h3 hc, h4⟩
theorem AsmRows.below {r : Int × Nat × ProgP} {B : Nat} {w w' : World} {vb vl vn : Value} (h : AsmRows r B w vb vl vn) (hb : Below w.heap.size w w') : AsmRows r B w' vb vl vn := by
  rcases h with h | ⟨h0, ls, ss, ns, h1, h2, h3, h4⟩
  · exact Or.inl h
  · exact Or.inr ⟨h0, ls, ss, ns, ownsRow_belowP h1 hb, ownsRow_belowP h2 hb, ownsRow_belowP h3 hb, h4⟩
/-- The same, with the rows in one word. -/
def MasPost (r : Int × Nat × ProgP) (w : World) (e : Ending) (w' : World) : Prop :=
  Below w.heap.size w w' ∧ ∃ vb vl vn, e = .returned (.tuple #[.agg #[vb, vl, vn], .int .i64 r.1, .int .i64 (r.2.1 : Nat)]) ∧ AsmRows r w.heap.size w' vb vl vn

set_option maxRecDepth 100000 in
set_option maxHeartbeats 800000 in
theorem mAssemble_any (s : ByteArray) (w : World) (hs : s.size ≤ maxLen) (hm : MaxAt w) :
    Calls Tryz.prog 12 #[.string s] w (MasPost (assembleP (L s)) w) := by
  obtain ⟨r, hr⟩ : ∃ r, assembleP (L s) = r := ⟨_, rfl⟩
  have hb0 : Below w.heap.size w (w.alloc (.cells #[.slice none 0 0, .slice none 0 0, .slice none 0 0] 33)) := (Below.refl _ _).alloc (Nat.le_refl _) _
  have HP0 := hid (show RowT (w.alloc (.cells #[.slice none 0 0, .slice none 0 0, .slice none 0 0] 33)) 33 w.heap.size [.slice none 0 0, .slice none 0 0, .slice none 0 0] from RowT.new w 33 [.slice none 0 0, .slice none 0 0, .slice none 0 0])
  have hsz : w.heap.size ≤ (w.alloc (.cells #[.slice none 0 0, .slice none 0 0, .slice none 0 0] 33)).heap.size := hb0.size
  have HB0 := hid hb0
  have HC := hid (Assemble_any s (w.alloc (.cells #[.slice none 0 0, .slice none 0 0, .slice none 0 0] 33)) hs (hm.below hb0))
  rw [hr] at HC ⊢
  clear hm hb0 hr
  go_enter Tryz.func12, Tryz.ntmps12
  go_upto_region 1 with fail
  generalize w.alloc (.cells #[.slice none 0 0, .slice none 0 0, .slice none 0 0] 33) = w0 at *
  go_wp2_with fail
  refine HC.out.mono ?_
  rintro e w1 ⟨hb1, vb, vl, vn, rfl, hrows⟩
  have HR := hid (show AsmRows r w0.heap.size w1 vb vl vn from hrows)
  clear hrows
  have HB1 := hid (HB0.out.trans (hb1.mono hsz))
  have HPX := hid (HP0.out.below hb1)
  clear hb1 HP0 HC
  obtain ⟨⟨a1, n1, c1, h1⟩, ⟨a2, n2, c2, h2⟩, ⟨a3, n3, c3, h3⟩⟩ := HR.out.forms
  subst h1 h2 h3
  have p0 : w1.cell? ⟨w.heap.size, 0, none⟩ = some (.slice none 0 0) := HPX.out.cell 0 (by simp)
  have p1 : w1.cell? ⟨w.heap.size, 1, none⟩ = some (.slice none 0 0) := HPX.out.cell 1 (by simp)
  have p2 : w1.cell? ⟨w.heap.size, 2, none⟩ = some (.slice none 0 0) := HPX.out.cell 2 (by simp)
  have g0 := HPX.out.free 0
  have g1 := HPX.out.free 1
  have g2 := HPX.out.free 2
  have HR1 := hid ((HR.out.mono hsz).set HPX.out 0 (.slice a1 n1 c1))
  have HP1 := hid (HPX.out.set 0 (.slice a1 n1 c1))
  have HR2 := hid (HR1.out.set HP1.out 1 (.slice a2 n2 c2))
  have HP2 := hid (HP1.out.set 1 (.slice a2 n2 c2))
  have HR3 := hid (HR2.out.set HP2.out 2 (.slice a3 n3 c3))
  have HP3 := hid (HP2.out.set 2 (.slice a3 n3 c3))
  have HK3 := hid (((((Keeps.refl [w.heap.size] w1).setCell (p := ⟨w.heap.size, 0, none⟩) (by simp) (.slice a1 n1 c1)).setCell (p := ⟨w.heap.size, 1, none⟩) (by simp) (.slice a2 n2 c2)).setCell (p := ⟨w.heap.size, 2, none⟩) (by simp) (.slice a3 n3 c3)).below (B := w.heap.size) HB1.out.size (fun k hk => by rw [List.mem_singleton] at hk; omega))
  go_wp2_with fail
  generalize ((w1.setCell ⟨w.heap.size, 0, none⟩ (.slice a1 n1 c1)).setCell ⟨w.heap.size, 1, none⟩ (.slice a2 n2 c2)).setCell ⟨w.heap.size, 2, none⟩ (.slice a3 n3 c3) = w6 at HR3 HP3 HK3 ⊢
  have r0 : w6.cell? ⟨w.heap.size, 0, none⟩ = some (.slice a1 n1 c1) := HP3.out.cell 0 (by simp)
  have r1 : w6.cell? ⟨w.heap.size, 1, none⟩ = some (.slice a2 n2 c2) := HP3.out.cell 1 (by simp)
  have r2 : w6.cell? ⟨w.heap.size, 2, none⟩ = some (.slice a3 n3 c3) := HP3.out.cell 2 (by simp)
  refine bodyPost_ret (v := .tuple #[.agg #[.slice a1 n1 c1, .slice a2 n2 c2, .slice a3 n3 c3], .int .i64 r.1, .int .i64 (r.2.1 : Nat)]) (by simp [results, Tryz.results12, go_sem, r0, r1, r2]) rfl ?_
  exact ⟨HB1.out.trans HK3.out, _, _, _, rfl, HR3.out⟩

end Go.Proofs.YtcepppilgncdmaaGreatDoor
