/-
  Again (package masonkeep): of any text, what Expand answers is a text of which the same is answered and made.
-/
import Derived.Test.YtcepppilgncdmaaGreatDoorBS36
import Derived.BigQuiet
import Derived.Lib.BufferMore
import Derived.Laws.IdiomStrings
namespace Go.Proofs.YtcepppilgncdmaaGreatDoor
open Go.RowKit
attribute [local go_sem ↓] Go.wp_at_zero Go.wp_at_succ

theorem own_str {w : World} {B : Nat} {v : Value} {bs : List UInt8} (h : w.ownsRow B 5 1 v bs.length (byCells bs)) : (convert 30 9 v).run Tryz.prog w = .ok (.string ⟨bs.toArray⟩) w := by
  rcases h.2 with ⟨rfl, h0⟩ | ⟨g, cap, cur, rfl, hb, hg, _⟩
  · have : bs = [] := List.eq_nil_of_length_eq_zero h0
    subst this
    rw [run_convert_bytes_string w 30 9 5 none 0 0 Tryz.underlying30 Tryz.underlying5 Tryz.underlying9]
    rfl
  · refine run_convert_bytes_back w 30 9 5 ⟨g, 0, none⟩ cap bs Tryz.underlying30 Tryz.underlying5 Tryz.underlying9 (fun j hj => ?_)
    rw [Addr.add_lit, Nat.zero_add]
    exact (h.cellAt j (by omega)).trans (byCells_at bs j hj)
theorem fail_none (s : List UInt8) (h : (assembleP s).1 ≠ 0) : (assembleP s).2.2 = noProg := by
  unfold assembleP at h ⊢
  split
  · rfl
  · rename_i h1
    rw [if_neg h1] at h
    split
    · rfl
    · rename_i h2
      rw [if_neg h2] at h
      unfold makeP at h ⊢
      split
      · rfl
      · rename_i h3
        rw [if_neg h3] at h
        split
        · rfl
        · rename_i h4
          rw [if_neg h4] at h
          exact absurd rfl h
theorem fail_expand (s : List UInt8) (h : (expandP s).1 ≠ 0) : assembleP s = ((expandP s).1, (expandP s).2.1, noProg) := by
  unfold assembleP
  rw [if_pos h]
theorem numbered_length (ts : List (List UInt8)) : ∀ k, (numbered k ts).length = ts.length := by
  induction ts with
  | nil => intro k; rfl
  | cons t r ih => intro k; simp [numbered, ih]
theorem numbered_get (ts : List (List UInt8)) : ∀ (k i : Nat) (h : i < ts.length) (h' : i < (numbered k ts).length), (numbered k ts)[i] = (ts[i], k + i) := by
  induction ts with
  | nil => intro k i h; simp at h
  | cons t r ih =>
    intro k i h h'
    cases i with
    | zero => simp [numbered]
    | succ i =>
      simp only [numbered, List.getElem_cons_succ]
      rw [ih (k + 1) i (by simpa using h) (by simpa [numbered_length] using h)]
      simp only [Prod.mk.injEq, true_and]
      omega
/-- What Again reads of a program: bytes and names, none with an error. -/
structure AgRows (r : Int × Nat × ProgP) (B : Nat) (w : World) (vb vn : Value) (ns : List (ByteArray × Int)) : Prop where
  bown : w.ownsRow B 5 1 vb r.2.2.bytes.length (byCells r.2.2.bytes)
  nown : w.ownsRow B 40 2 vn ns.length (nameCells ns)
  names : plainN ns = namesP r.2.2.stms
  few : ns.length ≤ 300
  some : r.2.2.bytes.length ≤ 300000
theorem AgRows.below {r : Int × Nat × ProgP} {B : Nat} {w w' : World} {vb vn : Value} {ns : List (ByteArray × Int)} (h : AgRows r B w vb vn ns) (hb : Below w.heap.size w w') : AgRows r B w' vb vn ns :=
  ⟨ownsRow_belowP h.bown hb, ownsRow_belowP h.nown hb, h.names, h.few, h.some⟩
theorem AsmRows.ag {r : Int × Nat × ProgP} {B : Nat} {w : World} {vb vl vn : Value} (h : AsmRows r B w vb vl vn) (hn : r.1 ≠ 0 → r.2.2 = noProg) : ∃ ns, AgRows r B w vb vn ns := by
  rcases h with ⟨h0, rfl, rfl, rfl⟩ | ⟨_, ls, ss, ns, h1, h2, h3, h4, h5, h6, h7, h8, h9⟩
  · refine ⟨[], ?_, World.ownsRow_nil _ _ _ _, ?_, by simp, ?_⟩
    · rw [hn h0]; exact World.ownsRow_nil _ _ _ _
    · rw [hn h0]; rfl
    · rw [hn h0]; simp [noProg]
  · exact ⟨ns, h1, h3, h6, h8, h9⟩
theorem plainN_inj : ∀ {a b : List (ByteArray × Int)}, plainN a = plainN b → a = b
  | [], [], _ => rfl
  | x :: r, y :: t, h => by
    simp only [plainN, List.map_cons, List.cons.injEq, Prod.mk.injEq] at h
    rw [plainN_inj (a := r) (b := t) h.2, show x = y from Prod.ext (L_inj h.1.1) h.1.2]
  | [], _ :: _, h => by simp [plainN] at h
  | _ :: _, [], h => by simp [plainN] at h

set_option maxRecDepth 100000 in
set_option maxHeartbeats 3200000 in
theorem Again_any (s : ByteArray) (w : World) (hs : s.size ≤ maxLen) (hm : MaxAt w) :
    Calls Tryz.prog 6 #[.string s] w fun e w' => e = .returned (.bool true) ∧ Below w.heap.size w w' := by
  have HM := hid hm
  clear hm
  go_enter Tryz.func6, Tryz.ntmps6
  go_wp2_with fail
  refine (first_any w HM.out).mono ?_
  rintro e w1 ⟨rfl, hb1⟩
  have HB1 := hid hb1
  have HM1 := hid (HM.out.below hb1)
  clear hb1
  go_wp2_with fail
  refine (mExpand_nil s w1 hs HM1.out).mono ?_
  rintro e w2 ⟨⟨hb2, vl, outs, rfl, hout, hol, hown⟩, hnil⟩
  obtain ⟨X, hX⟩ : ∃ X, expandP (L s) = X := ⟨_, rfl⟩
  rw [hX] at hout hnil ⊢
  obtain ⟨al, cl, hvl⟩ := own_form hown
  subst hvl
  have HNIL := hid hnil
  have HX := hid hX
  have HOUT := hid hout
  have HOWN := hid hown
  have HB2 := hid (HB1.out.trans (hb2.mono HB1.out.size))
  have HM2 := hid (HM1.out.below hb2)
  clear hnil hX hout hown hb2
  go_wp2_with fail
  refine (mAssemble_any s w2 hs HM2.out).mono ?_
  rintro e w3 ⟨hb3, vb, vp, vn, rfl, hrows⟩
  obtain ⟨A, hA⟩ : ∃ A, assembleP (L s) = A := ⟨_, rfl⟩
  rw [hA] at hrows ⊢
  have HA := hid hA
  have HR := hid hrows
  obtain ⟨⟨a1, n1, c1, h1⟩, ⟨a2, n2, c2, h2⟩, ⟨a3, n3, c3, h3⟩⟩ := hrows.forms
  subst h1 h2 h3
  have hb4 := hb3.alloc hb3.size (.cells #[.slice a1 n1 c1, .slice a2 n2 c2, .slice a3 n3 c3] 33)
  have hb34 : Below w3.heap.size w3 (w3.alloc (.cells #[.slice a1 n1 c1, .slice a2 n2 c2, .slice a3 n3 c3] 33)) := (Below.refl _ _).alloc (Nat.le_refl _) _
  have HB4 := hid (HB2.out.trans (hb4.mono HB2.out.size))
  have HM4 := hid (HM2.out.below hb4)
  have HO4 := hid (ownsRow_belowP HOWN.out hb4)
  have HR4 := hid (HR.out.below hb34)
  have HP4 := hid (show RowT (w3.alloc (.cells #[.slice a1 n1 c1, .slice a2 n2 c2, .slice a3 n3 c3] 33)) 33 w3.heap.size [.slice a1 n1 c1, .slice a2 n2 c2, .slice a3 n3 c3] from RowT.new w3 33 [.slice a1 n1 c1, .slice a2 n2 c2, .slice a3 n3 c3])
  clear hA hrows hb3 hb4 hb34 HOWN HR HM1 HM2 HB1
  go_upto_region 4 with fail
  generalize w3.alloc (.cells #[.slice a1 n1 c1, .slice a2 n2 c2, .slice a3 n3 c3] 33) = w4 at *
  generalize w3.heap.size = gp at *
  have p0 : w4.cell? ⟨gp, 0, none⟩ = some (.slice a1 n1 c1) := HP4.out.cell 0 (by simp)
  have p2 : w4.cell? ⟨gp, 2, none⟩ = some (.slice a3 n3 c3) := HP4.out.cell 2 (by simp)
  by_cases hx0 : X.1 = 0
  · have hin := expand_inv (L s) (by rw [HX.out]; exact hx0)
    rw [HX.out, ← HOUT.out] at hin
    have hz : ∀ x ∈ outs, x.1.size ≤ 80 := fun x hx => by
      have := (chain_ok hin.1 ⟨x.1, x.2, 0, 0⟩ (List.mem_map.2 ⟨x, hx, rfl⟩)).len
      rw [L_length] at this
      exact this
    have HJ := hid (join_any w4 w1.heap.size (.slice al outs.length cl) outs HO4.out hol hz)
    obtain ⟨ns, hag⟩ := HR4.out.ag (fun h => by have := fail_none (L s) (by rw [HA.out]; exact h); rw [HA.out] at this; exact this)
    have HAG := hid hag
    clear hin hz hag
    rw [hx0]
    go_wp2_with fail
    refine HJ.out.mono ?_
    rintro e w5 ⟨⟨s1, rfl, hL1, hs1⟩, hw5⟩
    obtain rfl := hw5.symm
    have HL1 := hid hL1
    clear hL1 hw5 HJ
    by_cases hbig : 3000 < s1.size
    · have kb : decide ((3000 : Int) < (s1.size : Int)) = true := by simp; omega
      go_wp2_with fail
      go_ret
      exact ⟨rfl, HB4.out⟩
    · have kb : decide ((3000 : Int) < (s1.size : Int)) = false := by simp; omega
      have hjl : joinL ((expandP (L s)).2.2.map (·.1)) = L s1 := by
        rw [HX.out, ← HOUT.out, HL1.out, List.map_map]
        rfl
      have hmx : s1.size ≤ maxLen := by unfold maxLen; omega
      have hle : (joinL ((expandP (L s)).2.2.map (·.1))).length ≤ 3000 := by rw [hjl, L_length]; omega
      have hx2 := expand_again (L s) (by rw [HX.out]; exact hx0) hle
      obtain ⟨ga, gb, gc⟩ := assemble_again (L s) (by rw [HX.out]; exact hx0) hle
      rw [hjl] at hx2 ga gb gc
      rw [HA.out] at ga gb gc
      have hts : (expandP (L s)).2.2.map (·.1) = outs.map fun x => L x.1 := by
        rw [HX.out, ← HOUT.out, List.map_map]
        rfl
      rw [hts] at hx2
      have HC2 := mExpand_any s1 w4 hmx HM4.out
      rw [hx2] at HC2
      have HC2 := hid HC2
      have HGA := hid ga
      have HGB := hid gb
      have HGC := hid gc
      clear hjl hle hx2 ga gb gc hts
      go_wp2_with fail
      refine HC2.out.mono ?_
      rintro e w6 ⟨hb6, vm, outs2, rfl, hout2, hol2, hown2⟩
      have hlen2 : outs2.length = outs.length := by
        have := congrArg List.length hout2
        rw [numbered_length, List.length_map, List.length_map] at this
        exact this
      rw [hlen2] at hown2
      obtain ⟨am, cm, hvm⟩ := own_form hown2
      subst hvm
      have HOUT2 := hid hout2
      have HLEN2 := hid hlen2
      have HOM := hid hown2
      have HB6 := hid (HB4.out.trans (hb6.mono HB4.out.size))
      have HM6 := hid (HM4.out.below hb6)
      have HO6 := hid (ownsRow_belowP HO4.out hb6)
      have HP6 := hid (HP4.out.below hb6)
      have HAG6 := hid (HAG.out.below hb6)
      clear hout2 hlen2 hown2 hol2 hb6 HC2 HO4 HP4 HAG HM4 HB4 HR4 p0 p2
      go_wp2_with fail
      refine (mAssemble_any s1 w6 hmx HM6.out).mono ?_
      rintro e w7 ⟨hb7, vb2, vp2, vn2, rfl, hrows2⟩
      obtain ⟨A2, hA2⟩ : ∃ A2, assembleP (L s1) = A2 := ⟨_, rfl⟩
      rw [hA2] at hrows2 HGA HGB HGC ⊢
      obtain ⟨ns2, hag2⟩ := hrows2.ag (fun h => by have := fail_none (L s1) (by rw [hA2]; exact h); rw [hA2] at this; exact this)
      obtain ⟨⟨b1, m1, d1, h1⟩, ⟨b2, m2, d2, h2⟩, ⟨b3, m3, d3, h3⟩⟩ := hrows2.forms
      subst h1 h2 h3
      have hnn : ns2 = ns := plainN_inj (by rw [hag2.names, HGC.out, HAG6.out.names])
      subst hnn
      have hb8 := hb7.alloc hb7.size (.cells #[.slice b1 m1 d1, .slice b2 m2 d2, .slice b3 m3 d3] 33)
      have hb78 : Below w7.heap.size w7 (w7.alloc (.cells #[.slice b1 m1 d1, .slice b2 m2 d2, .slice b3 m3 d3] 33)) := (Below.refl _ _).alloc (Nat.le_refl _) _
      have HB8 := hid (HB6.out.trans (hb8.mono HB6.out.size))
      have HO8 := hid (ownsRow_belowP HO6.out hb8)
      have HOM8 := hid (ownsRow_belowP HOM.out hb8)
      have HAG8 := hid (HAG6.out.below hb8)
      have HAH8 := hid (hag2.below hb78)
      have HP8 := hid (HP6.out.below hb8)
      have HQ8 := hid (show RowT (w7.alloc (.cells #[.slice b1 m1 d1, .slice b2 m2 d2, .slice b3 m3 d3] 33)) 33 w7.heap.size [.slice b1 m1 d1, .slice b2 m2 d2, .slice b3 m3 d3] from RowT.new w7 33 [.slice b1 m1 d1, .slice b2 m2 d2, .slice b3 m3 d3])
      clear hA2 hrows2 hag2 hb7 hb8 hb78 HO6 HOM HAG6 HP6 HM6 HB6
      go_upto_region 13 with fail
      generalize w7.alloc (.cells #[.slice b1 m1 d1, .slice b2 m2 d2, .slice b3 m3 d3] 33) = w8 at *
      generalize w7.heap.size = gq at *
      have p0 : w8.cell? ⟨gp, 0, none⟩ = some (.slice a1 n1 c1) := HP8.out.cell 0 (by simp)
      have p2 : w8.cell? ⟨gp, 2, none⟩ = some (.slice a3 n3 c3) := HP8.out.cell 2 (by simp)
      have q0 : w8.cell? ⟨gq, 0, none⟩ = some (.slice b1 m1 d1) := HQ8.out.cell 0 (by simp)
      have q2 : w8.cell? ⟨gq, 2, none⟩ = some (.slice b3 m3 d3) := HQ8.out.cell 2 (by simp)
      have cv1 := own_str HAG8.out.bown
      have cv2 := own_str HAH8.out.bown
      rw [HGB.out] at cv2
      rw [HGA.out]
      obtain ⟨a3', c3', hf3⟩ := own_form HAG8.out.nown
      obtain ⟨b3', d3', hg3⟩ := own_form HAH8.out.nown
      injection hf3 with hf31 hf32 hf33
      injection hg3 with hg31 hg32 hg33
      subst hf31 hf32 hf33 hg31 hg32 hg33
      obtain ⟨bs, hbs⟩ : ∃ bs, A.2.2.bytes = bs := ⟨_, rfl⟩
      rw [hbs] at cv1 cv2
      clear hbs
      go_wp2_with fail
      all_goals
        go_loopw [16] (fun i wr => ∃ j : Nat, j ≤ outs.length ∧ i = .int .i64 j ∧ Below w8.heap.size w8 wr) (fun i _ => outs.length - (intOf i).toNat)
        case atStart => exact ⟨0, Nat.zero_le _, rfl, Below.refl _ _⟩
        case round =>
          obtain ⟨j, hj, rfl, hbr⟩ := hrel
          have HBR := hid hbr
          clear hbr
          by_cases hlt : j < outs.length
          · first
            | exact absurd hlt (by omega)
            | (obtain ⟨g, cap, hf, _, hgl, hcs⟩ := lines_lie HO8.out (by omega)
               simp only [Value.slice.injEq, true_and] at hf
               obtain ⟨rfl, rfl⟩ := hf
               have c0 := (hcs j hlt).1
               have ho2 := HOM8.out
               rw [← HLEN2.out] at ho2
               have hlt2 : j < outs2.length := by rw [HLEN2.out]; exact hlt
               obtain ⟨g2, cap2, hf2, _, hgl2, hcs2⟩ := lines_lie ho2 (by omega)
               simp only [Value.slice.injEq, true_and] at hf2
               obtain ⟨rfl, rfl⟩ := hf2
               obtain ⟨e0, e1, _, _⟩ := hcs2 j hlt2
               have hgt := outs_get HOUT2.out j hlt2 (by rw [numbered_length, List.length_map]; exact hlt)
               rw [numbered_get _ _ _ (by rw [List.length_map]; exact hlt)] at hgt
               simp only [List.getElem_map] at hgt
               rw [L_inj hgt.1] at e0
               rw [hgt.2, show ((1 + j : Nat) : Int) = (j : Int) + 1 from by omega] at e1
               generalize outs[j].1 = t at c0 e0
               rw [← HBR.out.cell (p := ⟨g, j * 4, none⟩) hgl] at c0
               rw [← HBR.out.cell (p := ⟨g2, j * 4, none⟩) hgl2] at e0
               rw [← HBR.out.cell (p := ⟨g2, j * 4 + 1, none⟩) hgl2] at e1
               clear hcs hcs2 ho2 hgt
               have i1 : (0 : Int) ≤ (j : Int) := Int.natCast_nonneg _
               have i2 : (j : Int) < (outs.length : Int) := by omega
               have dn : decide ((j : Int) < outs.length) = true := decide_eq_true (by omega)
               go_wp2_with fail
               go_quiet (fail)
               go_wp2_with fail
               go_roundw
               case rel => exact ⟨j + 1, by omega, by go_num, below_drewN HBR.out _⟩
               case measure => simp [intOf]; omega)
          · have dn : decide ((j : Int) < outs.length) = false := decide_eq_false (by omega)
            have HBW := hid HBR.out
            clear p0 p2 q0 q2 cv1 cv2
            go_wp2_with fail
            go_loopw [17] (fun i wr2 => ∃ k : Nat, k ≤ ns2.length ∧ i = .int .i64 k ∧ Below w8.heap.size w8 wr2) (fun i _ => ns2.length - (intOf i).toNat)
            case atStart => exact ⟨0, Nat.zero_le _, rfl, HBW.out⟩
            case round =>
              obtain ⟨k, hk, rfl, hbr⟩ := hrel
              have HBS := hid hbr
              have r2 : wr.cell? ⟨gp, 2, none⟩ = some (.slice a3 ns2.length c3) := (HP8.out.below hbr).cell 2 (by simp)
              have s2 : wr.cell? ⟨gq, 2, none⟩ = some (.slice b3 ns2.length d3) := (HQ8.out.below hbr).cell 2 (by simp)
              have o1 := ownsRow_belowP HAG8.out.nown hbr
              have o2 := ownsRow_belowP HAH8.out.nown hbr
              have hn3 := HAG8.out.few
              clear hbr
              by_cases hkl : k < ns2.length
              · obtain ⟨g, cap, hf, _, hgl⟩ := o1.form (by omega)
                simp only [Value.slice.injEq, true_and] at hf
                obtain ⟨rfl, rfl⟩ := hf
                obtain ⟨g2, cap2, hf2, _, hgl2⟩ := o2.form (by omega)
                simp only [Value.slice.injEq, true_and] at hf2
                obtain ⟨rfl, rfl⟩ := hf2
                have x0 := (o1.cellAt (k * 2) (by omega)).trans (nameCells_at ns2 k hkl).1
                have x1 := (o1.cellAt (k * 2 + 1) (by omega)).trans (nameCells_at ns2 k hkl).2
                have y0 := (o2.cellAt (k * 2) (by omega)).trans (nameCells_at ns2 k hkl).1
                have y1 := (o2.cellAt (k * 2 + 1) (by omega)).trans (nameCells_at ns2 k hkl).2
                generalize ns2[k] = nk at x0 x1 y0 y1
                have i1 : (0 : Int) ≤ (k : Int) := Int.natCast_nonneg _
                have i2 : (k : Int) < (ns2.length : Int) := by omega
                have dk : decide ((k : Int) < ns2.length) = true := decide_eq_true (by omega)
                clear o1 o2
                go_wp2_with fail
                go_quiet (fail)
                go_wp2_with fail
                go_roundw
                case rel => exact ⟨k + 1, by omega, by go_num, below_drewN HBS.out _⟩
                case measure => simp [intOf]; omega
              · have dk : decide ((k : Int) < ns2.length) = false := decide_eq_false (by omega)
                clear o1 o2
                go_wp2_with fail
                go_ret
                exact ⟨rfl, HB8.out.trans (HBS.out.mono HB8.out.size)⟩
  · have kx : (X.1 != 0) = true := by simpa using hx0
    have ha := fail_expand (L s) (by rw [HX.out]; exact hx0)
    rw [HX.out, HA.out] at ha
    subst ha
    obtain ⟨x, y, hv⟩ := HNIL.out hx0
    rcases HR4.out with ⟨_, h1, h2, h3⟩ | ⟨h0, _⟩
    · injection h1 with h11 h12 h13
      subst h11 h12 h13
      have hv' : (Value.slice al outs.length cl) = .slice none 0 0 := by
        injection hv with hv
        injection hv with hv
        injection hv with hv
        injection hv
      injection hv' with e1 e2 e3
      rw [e1, e2, e3]
      have HK := hid kx
      clear hv h2 h3 e1 e2 e3 HNIL HR4
      have k26 : (binOp .eql 26 (.slice none 0 0) (.slice none 0 0)).run Tryz.prog w4 = .ok (.bool true) w4 := Lib.run_eql_slice_nil_nil w4 _ _ Tryz.underlying26
      have k30 : (binOp .eql 30 (.slice none 0 0) (.slice none 0 0)).run Tryz.prog w4 = .ok (.bool true) w4 := Lib.run_eql_slice_nil_nil w4 _ _ Tryz.underlying30
      go_wp2_with fail
      go_ret
      exact ⟨rfl, HB4.out⟩
    · exact absurd h0 hx0

end Go.Proofs.YtcepppilgncdmaaGreatDoor
