/-
  What the program's function of a condition answers (package expand), and what a reader is asked through its interface.
  What the program's function that defines a macro answers (package expand).
-/
import Derived.Test.YtcepppilgncdmaaGreatDoorBS17
import Derived.Test.YtcepppilgncdmaaGreatDoorBS24
import Derived.Deep.DeepFit
namespace Go.Proofs.YtcepppilgncdmaaGreatDoor
open Go.RowKit
attribute [local go_sem ↓] Go.wp_at_zero Go.wp_at_succ

/-- A reader's two types: the pointer's, the block's. -/
def Rd (T t : Nat) : Prop := (T = 69 ∧ t = 74) ∨ (T = 207 ∧ t = 209)
theorem Rd.facts {T t : Nat} (h : Rd T t) : 257 ≠ t ∧ t ≠ 9 ∧ t ≠ 101 ∧ rT t = true ∧ eT t = false := by
  rcases h with ⟨_, rfl⟩ | ⟨_, rfl⟩ <;> exact ⟨by decide, by decide, by decide, rfl, rfl⟩
theorem ask_depth {T t : Nat} (h : Rd T t) (bm : Nat) (w : World) : (method 359 T (.pointer (some ⟨bm, 0, none⟩)) "mason/expand.depth").run Tryz.prog w = .ok (196, .pointer (some ⟨bm, 0, none⟩)) w := by
  rcases h with ⟨rfl, _⟩ | ⟨rfl, _⟩ <;> kernel_rfl
theorem ask_passing {T t : Nat} (h : Rd T t) (bm : Nat) (w : World) : (method 359 T (.pointer (some ⟨bm, 0, none⟩)) "mason/expand.passing").run Tryz.prog w = .ok (198, .pointer (some ⟨bm, 0, none⟩)) w := by
  rcases h with ⟨rfl, _⟩ | ⟨rfl, _⟩ <;> kernel_rfl
theorem ask_begin {T t : Nat} (h : Rd T t) (bm : Nat) (w : World) : (method 359 T (.pointer (some ⟨bm, 0, none⟩)) "mason/expand.begin").run Tryz.prog w = .ok (195, .pointer (some ⟨bm, 0, none⟩)) w := by
  rcases h with ⟨rfl, _⟩ | ⟨rfl, _⟩ <;> kernel_rfl
theorem ask_turn {T t : Nat} (h : Rd T t) (bm : Nat) (w : World) : (method 359 T (.pointer (some ⟨bm, 0, none⟩)) "mason/expand.turn").run Tryz.prog w = .ok (200, .pointer (some ⟨bm, 0, none⟩)) w := by
  rcases h with ⟨rfl, _⟩ | ⟨rfl, _⟩ <;> kernel_rfl
theorem ask_finish {T t : Nat} (h : Rd T t) (bm : Nat) (w : World) : (method 359 T (.pointer (some ⟨bm, 0, none⟩)) "mason/expand.finish").run Tryz.prog w = .ok (197, .pointer (some ⟨bm, 0, none⟩)) w := by
  rcases h with ⟨rfl, _⟩ | ⟨rfl, _⟩ <;> kernel_rfl
theorem ask_more {T t : Nat} (h : Rd T t) (bm : Nat) (w : World) : (method 359 T (.pointer (some ⟨bm, 0, none⟩)) "mason/expand.more").run Tryz.prog w = .ok (163, .pointer (some ⟨bm, 0, none⟩)) w := by
  rcases h with ⟨rfl, _⟩ | ⟨rfl, _⟩ <;> kernel_rfl
theorem ask_lread (bm : Nat) (w : World) : (method 359 69 (.pointer (some ⟨bm, 0, none⟩)) "mason/expand.read").run Tryz.prog w = .ok (199, .pointer (some ⟨bm, 0, none⟩)) w := by kernel_rfl
theorem ask_mread (bm : Nat) (w : World) : (method 359 207 (.pointer (some ⟨bm, 0, none⟩)) "mason/expand.read").run Tryz.prog w = .ok (202, .pointer (some ⟨bm, 0, none⟩)) w := by kernel_rfl

/-- What a function that may turn a reader's conditions answers: the expansion is as it was. -/
def IfPost (B be bt wi k t bm : Nat) (v : Value) (rest : List Value) (st : StP) (r : Int × List OpenP) (w : World) (e : Ending) (w' : World) : Prop :=
  e = .returned (.int .i64 r.1) ∧ FrC B (condM bm v) w w' ∧ (r.1 = 0 → ExpSt w' B be bt wi k st ∧ ∃ v', (∀ g, v'.ownBlock = some g → v.ownBlock = some g ∨ w.heap.size ≤ g) ∧ CondAt w' B t bm v' rest r.2) ∧ NumAt w' be bt wi k

theorem ExpAt.frc {w w' : World} {B be bt wi k : Nat} {vm vn vl : Value} {ms : List MacV} {ns : List (ByteArray × Int)} {outs : List (ByteArray × Nat)} {calls : Nat} (h : ExpAt w B be bt wi k vm vn vl ms ns outs calls) {M : List Nat} (hf : FrC B M w w') {k' : Nat} (ht : ∃ xs, RowT w' 74 bt xs ∧ xs[2]? = some (.int .i64 (k' : Nat))) : ExpAt w' B be bt wi k' vm vn vl ms ns outs calls :=
  ⟨h.row.fr hf rfl (fun h => by cases h), ownsRow_fr h.mown hf rfl (fun h => by cases h), ownsRow_fr h.nown hf rfl (fun h => by cases h), ownsRow_fr h.lown hf rfl (fun h => by cases h), fun m hm => ⟨(h.mstr m hm).1.frc hf, (h.mstr m hm).2.frc hf⟩, h.at_, ht⟩
theorem ExpSt.frc {w w' : World} {B be bt wi k : Nat} {st : StP} (h : ExpSt w B be bt wi k st) {M : List Nat} (hf : FrC B M w w') {k' : Nat} (ht : ∃ xs, RowT w' 74 bt xs ∧ xs[2]? = some (.int .i64 (k' : Nat))) : ExpSt w' B be bt wi k' st := by
  obtain ⟨vm, vn, vl, ms, ns, outs, calls, hx, rfl⟩ := h
  exact ⟨vm, vn, vl, ms, ns, outs, calls, hx.frc hf ht, rfl⟩
theorem ExpSt.below {w w' : World} {B be bt wi k : Nat} {st : StP} (h : ExpSt w B be bt wi k st) (hb : Below w.heap.size w w') : ExpSt w' B be bt wi k st := by
  obtain ⟨vm, vn, vl, ms, ns, outs, calls, hx, rfl⟩ := h
  exact ⟨vm, vn, vl, ms, ns, outs, calls, hx.below hb, rfl⟩
theorem ExpSt.text {w : World} {B be bt wi k : Nat} {st : StP} (h : ExpSt w B be bt wi k st) : ∃ xs, RowT w 74 bt xs ∧ xs[2]? = some (.int .i64 (k : Nat)) := by
  obtain ⟨vm, vn, vl, ms, ns, outs, calls, hx, rfl⟩ := h
  exact hx.text
theorem ExpSt.num {w : World} {B be bt wi k : Nat} {st : StP} (h : ExpSt w B be bt wi k st) : NumAt w be bt wi k := by
  obtain ⟨vm, vn, vl, ms, ns, outs, calls, hx, rfl⟩ := h
  exact hx.num
theorem RowT.same {w : World} {t e g : Nat} {xs ys : List Value} (h : RowT w t g xs) (k : RowT w e g ys) : t = e ∧ xs = ys := by
  unfold RowT at h k
  rw [h] at k
  injection k with k
  injection k with k1 k2
  exact ⟨k2, by simpa using k1⟩
/-- The text's reader behind a turn of a reader's conditions: whether it is that one or not. -/
theorem text_after {w w' : World} {B be bt wi k t bm : Nat} {st : StP} {v v' lv : Value} {j : Nat} {rest : List Value} {opens : List OpenP} (h : ExpSt w B be bt wi k st) (hc : CondAt w B t bm v (lv :: .int .i64 (j : Nat) :: rest) opens) (hc' : RowT w' t bm (v' :: lv :: .int .i64 (j : Nat) :: rest)) (hf : FrC B (condM bm v) w w') : ∃ xs, RowT w' 74 bt xs ∧ xs[2]? = some (.int .i64 (k : Nat)) := by
  obtain ⟨xs, h1, h2⟩ := h.text
  by_cases hb : bm = bt
  · subst hb
    obtain ⟨h3, h4⟩ := h1.same hc.row
    rw [h4] at h2
    exact ⟨_, h3 ▸ hc', by simpa using h2⟩
  · refine ⟨xs, h1.fr hf rfl (fun _ hm => ?_), h2⟩
    unfold condM at hm
    rcases List.mem_cons.1 hm with h5 | h5
    · exact hb h5.symm
    · have h6 := own_row_ne hc.own h1 (by decide)
      rw [Option.mem_toList] at h5
      exact h6 h5
theorem CondPost.ifPost {B be bt wi k t bm : Nat} {v lv : Value} {j : Nat} {rest : List Value} {st : StP} {opens : List OpenP} {r : Int × List OpenP} {w : World} {e : Ending} {w' : World} (h : CondPost B t bm v (lv :: .int .i64 (j : Nat) :: rest) r.2 r.1 w e w') (hs : ExpSt w B be bt wi k st) (hc : CondAt w B t bm v (lv :: .int .i64 (j : Nat) :: rest) opens) :
    IfPost B be bt wi k t bm v (lv :: .int .i64 (j : Nat) :: rest) st r w e w' := by
  obtain ⟨h1, h2, h3, v2, h4⟩ := h
  have hst := hs.frc h2 (text_after hs hc h4 h2)
  refine ⟨h1, h2, fun h0 => ?_, hst.num⟩
  obtain ⟨v', h5, h6⟩ := h3 h0
  exact ⟨hst, v', fun g hg => Or.inl (h5 ▸ hg), h6⟩

set_option maxRecDepth 100000 in
set_option maxHeartbeats 1600000 in
theorem doIf_any (w : World) (B be bt wi k T t bm : Nat) (st : StP) (v lv : Value) (j : Nat) (rest : List Value) (opens : List OpenP) (lb op : ByteArray) (va : Option Addr) (vc : Nat) (os : List ByteArray) (W : WordsP) (C : Nat)
    (hrd : Rd T t) (h : ExpSt w B be bt wi k st) (hc : CondAt w B t bm v (lv :: .int .i64 (j : Nat) :: rest) opens) (hp : PartsV w C lb op (.slice va os.length vc) os W) (hsz : ∀ i (hi : i < os.length), os[i].size ≤ 1000) (hnl : st.names.length ≤ 1000) (hB : B ≤ w.heap.size) (hbm : B ≤ bm) :
    Calls Tryz.prog 70 #[.pointer (some ⟨be, 0, none⟩), .iface T (.pointer (some ⟨bm, 0, none⟩)), .agg #[.string lb, .string op, .slice va os.length vc]] w (IfPost B be bt wi k t bm v (lv :: .int .i64 (j : Nat) :: rest) st (ifP W opens st) w) := by
  have hb0 : Below w.heap.size w (w.alloc (.cells #[.string lb, .string op, .slice va os.length vc] 101)) := (Below.refl _ _).alloc (Nat.le_refl _) _
  have HS := hid (h.below hb0)
  have HC := hid (hc.below hb0)
  have HP := hid (hp.below hb0)
  have HF := hid (show FrC B (condM bm v) w (w.alloc (.cells #[.string lb, .string op, .slice va os.length vc] 101)) from FrC.of_below hb0)
  have HBX := hid (RowT.new w 101 [.string lb, .string op, .slice va os.length vc])
  obtain ⟨htc, hts, htp, hrt, het⟩ := hrd.facts
  obtain ⟨t1, t2, t3⟩ := hp.two
  have HSZ := hid hsz
  have HT3 := hid t3
  have hfew := hc.few
  have m1 := fun w => ask_depth hrd bm w
  have m2 := fun w => ask_passing hrd bm w
  have m3 := fun w => ask_begin hrd bm w
  obtain ⟨r, hr⟩ : ∃ r, ifP W opens st = r := ⟨_, rfl⟩
  rw [hr]
  unfold ifP at hr
  rw [t2] at hr
  clear h hc hp hb0 hsz t3
  have HRX := hid hr
  clear hr
  go_enter Tryz.func70, Tryz.ntmps70
  go_wp2_with fail
  generalize (w.alloc (.cells #[.string lb, .string op, .slice va os.length vc] 101)) = w0 at HS HC HP HF HBX ⊢
  refine (depth_any _ B t bm v _ opens HC.out).mono ?_
  rintro e w1 ⟨rfl, rfl⟩
  have hr := HRX.out
  by_cases h8 : 8 ≤ opens.length
  · rw [if_pos h8] at hr
    subst hr
    have k8 : ((opens.length : Int) == 8) = true := by rw [beq_iff_eq]; omega
    go_wp2
    go_ret
    exact ⟨rfl, HF.out, (fun h => by cases h), HS.out.num⟩
  · rw [if_neg h8] at hr
    have k8 : ((opens.length : Int) == 8) = false := by rw [beq_eq_false_iff_ne]; omega
    have HRY := hid hr
    clear hr
    go_wp2_with fail
    refine (passing_any _ B t bm v _ opens HC.out).mono ?_
    cases hov : overP opens with
    | true =>
      rintro e w2 ⟨rfl, rfl⟩
      have hr := HRY.out
      rw [hov, if_pos rfl] at hr
      subst hr
      clear hov
      go_wp2_with fail
      refine (begin_any _ B t bm v _ opens ⟨false, false, true⟩ HC.out (Nat.le_trans hB HF.out.size) hbm hrt htc (by omega) rfl).mono ?_
      rintro e w3 ⟨rfl, v', hc', hf', hg'⟩
      go_wp2
      go_ret
      refine ⟨rfl, HF.out.trans hf', fun _ => ⟨HS.out.frc hf' (text_after HS.out HC.out hc'.row hf'), v', fun g hg => (hg' g hg).imp id fun h => ?_, hc'⟩, (HS.out.frc hf' (text_after HS.out HC.out hc'.row hf')).num⟩
      exact Nat.le_trans HF.out.size h
    | false =>
      rintro e w2 ⟨rfl, rfl⟩
      have hr := HRY.out
      rw [hov, if_neg (by simp)] at hr
      clear hov
      by_cases hlb : lb.size = 0
      · rw [t1.2 hlb] at hr
        have kl := is_empty lb hlb
        by_cases h1 : os.length = 1
        · rw [if_neg (by simp [h1])] at hr
          have hpos0 : 0 < os.length := by omega
          obtain ⟨x1, hx1⟩ : ∃ x1, os[0] = x1 := ⟨_, rfl⟩
          have e0 : W.operands.headD [] = L x1 := by rw [headD_get, ← hx1]; exact HT3.out 0 hpos0
          rw [e0] at hr
          have hs1 : x1.size ≤ 1000 := by rw [← hx1]; exact HSZ.out 0 hpos0
          obtain ⟨b, off, cap, hv, hbl, d0⟩ := HP.out.at_.cell 0 hpos0
          injection hv with hv1 _ hv2
          subst hv1
          rw [Nat.add_zero, hx1] at d0
          obtain ⟨vm, vn, vl, ms, ns, outs, calls, hx, hst⟩ := HS.out
          obtain ⟨na, nc, hnv, hna⟩ := hx.namesAt
          subst hnv
          subst hst
          obtain ⟨q, hq⟩ : ∃ q, value 0 (plainN ns) (L x1) = q := ⟨_, rfl⟩
          obtain ⟨z, er⟩ := q
          have hq' : value 0 (stOf ms ns outs calls).names (L x1) = (z, er) := hq
          rw [hq'] at hr
          have HQ := hid hq
          have HRZ := hid hr
          have c2 : World.cell? _ ⟨be, 2, none⟩ = some (.slice na ns.length nc) := hx.row.cell 2 (by simp)
          have HNA := hid hna
          have hnl' : ns.length ≤ 1000 := by simpa [stOf, plainN] using hnl
          clear hx hna hq hq' hr hv2 hx1 hpos0 e0
          have y0 := HBX.out.cell 0 (by simp)
          have y1 := HBX.out.cell 1 (by simp)
          have y2 := HBX.out.cell 2 (by simp)
          rw [h1] at y2
          have HH1 := hid h1
          go_wp2_with fail
          go_region_with (go_at_call 36; refine (xValue_any x1 0 na nc ns _ z er (by unfold maxLen; omega) (by unfold maxLen; omega) (HNA.out.below ((Below.refl _ _).drew)) HQ.out).mono ?_; rintro e w3 ⟨rfl, hb3⟩)
          all_goals
            have hb3' := ((Below.refl _ _).drew).trans (hb3.mono (Nat.le_refl _))
            have HS3 := hid (HS.out.below hb3')
            have HC3 := hid (HC.out.below hb3')
            have HF3 := hid (HF.out.trans (FrC.of_below hb3'))
            clear hb3 hb3' y0 y1 y2 c2 d0 h1
            have hr := HRZ.out
            by_cases her : er = 0
            · subst her
              rw [if_neg (by simp)] at hr
              subst hr
              have kz : (z == 0) = passOf ⟨decide (z ≠ 0), false, false⟩ := by
                by_cases hz : z = 0 <;> simp [passOf, hz]
              have HKZ := hid kz
              clear kz
              go_wp2_with fail
              refine (by have := begin_any _ B t bm v _ opens ⟨decide (z ≠ 0), false, false⟩ HC3.out (Nat.le_trans hB HF3.out.size) hbm hrt htc (by omega) rfl; rw [← HKZ.out] at this; exact this : Calls Tryz.prog 195 #[.pointer (some ⟨bm, 0, none⟩), .bool (z == 0)] w3 _).mono ?_
              rintro e w4 ⟨rfl, v', hc', hf', hg'⟩
              go_wp2
              go_ret
              refine ⟨rfl, HF3.out.trans hf', fun _ => ⟨HS3.out.frc hf' (text_after HS3.out HC3.out hc'.row hf'), v', fun g hg => (hg' g hg).imp id fun h => ?_, hc'⟩, (HS3.out.frc hf' (text_after HS3.out HC3.out hc'.row hf')).num⟩
              exact Nat.le_trans HF3.out.size h
            · have ke : (er != 0) = true := by simpa using her
              rw [if_pos her] at hr
              subst hr
              go_wp2
              go_ret
              exact ⟨rfl, HF3.out, fun h => absurd h her, HS3.out.num⟩
        · rw [if_pos (Or.inr h1)] at hr
          subst hr
          have k2 : ((os.length : Int) != 1) = true := by simp; omega
          have y0 := HBX.out.cell 0 (by simp)
          have y2 := HBX.out.cell 2 (by simp)
          go_wp2
          go_ret
          exact ⟨rfl, HF.out, (fun h => by cases h), HS.out.num⟩
      · rw [if_pos (Or.inl (fun e => hlb (t1.1 e)))] at hr
        subst hr
        have kl := not_empty lb (by omega)
        have y0 := HBX.out.cell 0 (by simp)
        go_wp2
        go_ret
        exact ⟨rfl, HF.out, (fun h => by cases h), HS.out.num⟩

end Go.Proofs.YtcepppilgncdmaaGreatDoor

namespace Go.Proofs.YtcepppilgncdmaaGreatDoor
open Go.RowKit
attribute [local go_sem ↓] Go.wp_at_zero Go.wp_at_succ

/-- What becomes of a macro's definition: the error, how many lines were taken, the state. -/
def macR (wi k : Nat) (W : WordsP) (st : StP) (ls : List (List UInt8)) : Int × Nat × StP :=
  if 0 < wi then (2, k, st)
  else if headBad W = true then (4, k, st)
  else match findM st.macros (W.operands.headD []) with
    | some _ => (5, k, st)
    | none => ((bodyP [] (ls.drop k)).1, k + (bodyP [] (ls.drop k)).2.2, { st with macros := st.macros ++ [⟨W.operands.headD [], W.operands.tail, (bodyP [] (ls.drop k)).2.1⟩] })
/-- Which reader may have turned: the text's, where no macro is called. -/
def frM (wi bt : Nat) : List Nat := if wi = 0 then [bt] else []
def MacPost (B be bt wi : Nat) (v lv : Value) (ls : List ByteArray) (rest : List Value) (opens : List OpenP) (r : Int × Nat × StP) (w : World) (e : Ending) (w' : World) : Prop :=
  e = .returned (.int .i64 r.1) ∧ Fr B (frM wi bt) w w' ∧ NumAt w' be bt wi r.2.1 ∧ (r.1 = 0 → ExpSt w' B be bt wi r.2.1 r.2.2 ∧ ReadAt w' B 74 bt v lv ls r.2.1 rest opens)

/-- A macro more. -/
theorem ExpAt.maced {w w4 : World} {B be bt wi k : Nat} {vm vn vl : Value} {ms : List MacV} {ns : List (ByteArray × Int)} {outs : List (ByteArray × Nat)} {calls : Nat} (h : ExpAt w B be bt wi k vm vn vl ms ns outs calls) (hg : w.grownBy w4 vm.ownBlock) {gg cap : Nat} {n0 : ByteArray} {pv bv : Value}
    (ho : w4.ownsRow B 202 3 (.slice (some ⟨gg, 0, none⟩) (ms.length + 1) cap) (ms.length + 1) (macCells ms ++ [.string n0, pv, bv])) :
    (∀ ps bs, StrV w 0 pv ps → StrV w 0 bv bs → ExpAt (w4.setCell ⟨be, 1, none⟩ (.slice (some ⟨gg, 0, none⟩) (ms.length + 1) cap)) B be bt wi k (.slice (some ⟨gg, 0, none⟩) (ms.length + 1) cap) vn vl (ms ++ [⟨n0, pv, ps, bv, bs⟩]) ns outs calls) ∧
    NumAt (w4.setCell ⟨be, 1, none⟩ (.slice (some ⟨gg, 0, none⟩) (ms.length + 1) cap)) be bt wi k ∧
    Fr B [] w (w4.setCell ⟨be, 1, none⟩ (.slice (some ⟨gg, 0, none⟩) (ms.length + 1) cap)) := by
  have hne : vm.ownBlock ≠ some be := own_row_ne h.mown h.row (by decide)
  have hr4 : RowT w4 77 be [.pointer (some ⟨bt, 0, none⟩), vm, vn, .int .i64 (wi : Nat), .int .i64 (calls : Nat), vl] := RowT.grown' h.row hg (Ne.symm hne)
  have hn4 := h.nown.kept hg (by
    cases hv : vn.ownBlock with
    | none => exact Or.inl rfl
    | some g => exact Or.inr (fun e1 => own_own_ne h.nown h.mown (by decide) (g := g) (by rw [← e1]) hv))
  have hl4 := h.lown.kept hg (by
    cases hv : vl.ownBlock with
    | none => exact Or.inl rfl
    | some g => exact Or.inr (fun e1 => own_own_ne h.lown h.mown (by decide) (g := g) (by rw [← e1]) hv))
  have hf4 : Fr B [] w w4 := (Fr.refl B [] w).grown hg (own_may h.mown (fun _ _ => Or.inl rfl))
  have hf5 := hf4.setCell (p := ⟨be, 1, none⟩) (hr4.may h.at_ (Or.inl rfl)) (.slice (some ⟨gg, 0, none⟩) (ms.length + 1) cap)
  obtain ⟨xs, hx1, hx2⟩ := h.text
  have htx := hx1.fr hf5 rfl (fun _ => by simp)
  refine ⟨fun ps bs hps hbs => ⟨hr4.set 1 _, ?_, ?_, ?_, fun m hm => ?_, h.at_, xs, htx, hx2⟩, ⟨_, xs, hr4.set 1 _, rfl, htx, hx2⟩, hf5⟩
  · rw [macCells_append, List.length_append]
    exact ownsRow_setCell_other ho (a := ⟨be, 1, none⟩) (own_row_ne ho hr4 (by decide)) _
  · exact ownsRow_setCell_other hn4 (a := ⟨be, 1, none⟩) (own_row_ne hn4 hr4 (by decide)) _
  · exact ownsRow_setCell_other hl4 (a := ⟨be, 1, none⟩) (own_row_ne hl4 hr4 (by decide)) _
  · rcases List.mem_append.1 hm with h1 | h1
    · exact ⟨(h.mstr m h1).1.fr hf5, (h.mstr m h1).2.fr hf5⟩
    · rw [List.mem_singleton] at h1
      subst h1
      exact ⟨hps.fr hf5, hbs.fr hf5⟩

/-- A store into a macro's own block, which is not in the list of macros. -/
theorem ExpAt.offD {w : World} {B be bt wi k : Nat} {vm vn vl : Value} {ms : List MacV} {ns : List (ByteArray × Int)} {outs : List (ByteArray × Nat)} {calls : Nat} (h : ExpAt w B be bt wi k vm vn vl ms ns outs calls) {d j : Nat} {xs : List Value} (hr : RowT w 202 d xs) (hd : vm.ownBlock ≠ some d) (u : Value) :
    ExpAt (w.setCell ⟨d, j, none⟩ u) B be bt wi k vm vn vl ms ns outs calls := by
  obtain ⟨ys, h1, h2⟩ := h.text
  exact ⟨h.row.other d j (fun e => by subst e; exact rowT_ne h.row hr (by decide) rfl) u, ownsRow_setCell_other h.mown (a := ⟨d, j, none⟩) hd _, ownsRow_setCell_other h.nown (a := ⟨d, j, none⟩) (own_row_ne h.nown hr (by decide)) _, ownsRow_setCell_other h.lown (a := ⟨d, j, none⟩) (own_row_ne h.lown hr (by decide)) _, fun m hm => ⟨(h.mstr m hm).1.set d j u (RowT.notStr hr (by decide)), (h.mstr m hm).2.set d j u (RowT.notStr hr (by decide))⟩, h.at_, ys, h1.other d j (fun e => by subst e; exact rowT_ne h1 hr (by decide) rfl) u, h2⟩

set_option maxRecDepth 100000 in
set_option maxHeartbeats 800000 in
theorem doMacro_any (w : World) (B be bt wi k : Nat) (st : StP) (v lv : Value) (ls : List ByteArray) (rest : List Value) (opens : List OpenP) (lb op : ByteArray) (va : Option Addr) (vc : Nat) (os : List ByteArray) (W : WordsP) (C : Nat)
    (h : ExpSt w B be bt wi k st) (hra : wi = 0 → ReadAt w B 74 bt v lv ls k rest opens) (hp : PartsV w C lb op (.slice va os.length vc) os W) (hn : os.length ≤ 1000) (hsz : ∀ i (hi : i < os.length), os[i].size ≤ 1000) (hls : ∀ i (hi : i < ls.length), ls[i].size ≤ 100) (hok : StOk st k) (hwi : wi ≤ 8) (hm : MaxAt w) (hgB : 0 < B) (hB : B ≤ w.heap.size) (hbt : B ≤ bt) :
    Calls Tryz.prog 106 #[.pointer (some ⟨be, 0, none⟩), .agg #[.string lb, .string op, .slice va os.length vc]] w (MacPost B be bt wi v lv ls rest opens (macR wi k W st (ls.map L)) w) := by
  obtain ⟨vm, vn, vl, ms, ns, outs, calls, hx, rfl⟩ := h
  obtain ⟨i0, hi0, hz0, hz1, hz2⟩ := info_parts info_mac
  have hb0 : Below w.heap.size w (w.alloc (.cells #[.string lb, .string op, .slice va os.length vc] 101)) := (Below.refl _ _).alloc (Nat.le_refl _) _
  have HX := hid (hx.below hb0)
  have HP := hid (hp.below hb0)
  have HF := hid (show Fr B (frM wi bt) w (w.alloc (.cells #[.string lb, .string op, .slice va os.length vc] 101)) from Fr.of_below hb0)
  have HBX := hid (RowT.new w 101 [.string lb, .string op, .slice va os.length vc])
  have HM := hid (hm.below hb0)
  have HRA := hid (fun h0 => (hra h0).below hb0)
  have HSZ := hid hsz
  have HLS := hid hls
  have hml : ms.length ≤ 3001 := by
    have h1 := hok.few
    have h2 := hok.taken
    simp only [stOf, List.length_map] at h1
    omega
  have c3 : (w.alloc (.cells #[.string lb, .string op, .slice va os.length vc] 101)).cell? ⟨be, 3, none⟩ = some (.int .i64 (wi : Nat)) := HX.out.row.cell 3 (by simp)
  obtain ⟨r, hr⟩ : ∃ r, macR wi k W (stOf ms ns outs calls) (ls.map L) = r := ⟨_, rfl⟩
  rw [hr]
  unfold macR at hr
  clear hx hp hb0 hm hra hsz hls hok
  by_cases hw0 : 0 < wi
  · rw [if_pos hw0] at hr
    subst hr
    have kw : decide ((0 : Int) < (wi : Int)) = true := by simp; omega
    go_enter Tryz.func106, Tryz.ntmps106
    go_wp2
    go_ret
    exact ⟨rfl, HF.out, HX.out.num, fun h => by cases h⟩
  · rw [if_neg hw0] at hr
    have hwz : wi = 0 := by omega
    subst hwz
    have HRB := hid (HRA.out rfl)
    have HRX := hid hr
    clear hr hw0 HRA
    go_enter Tryz.func106, Tryz.ntmps106
    go_wp2_with fail
    generalize (w.alloc (.cells #[.string lb, .string op, .slice va os.length vc] 101)) = w0 at HX HP HF HBX HM HRB c3 ⊢
    refine (readHead_any w0 lb op va vc os W C HP.out hn HSZ.out).mono ?_
    rintro e w1 ⟨hb1, hcase⟩
    have HX := hid (HX.out.below hb1)
    have HF := hid (HF.out.trans (Fr.of_below hb1))
    have HM := hid (HM.out.below hb1)
    have HRA := hid (HRB.out.below hb1)
    have HPO := hid HP.out.two
    clear hb1 c3
    rcases hcase with ⟨hbad, rfl⟩ | ⟨hbad, n0, pa, pc, hpos, hn0, rfl, hst⟩
    · have hr := HRX.out
      rw [if_pos hbad] at hr
      subst hr
      have HB2 := hid (show Below w1.heap.size w1 (w1.alloc (.cells #[.string ⟨#[]⟩, .slice none 0 0, .slice none 0 0] 202)) from (Below.refl _ _).alloc (Nat.le_refl _) _)
      go_wp2
      go_ret
      exact ⟨rfl, HF.out.trans (Fr.of_below HB2.out), (HX.out.below HB2.out).num, fun h => by cases h⟩
    · have hr := HRX.out
      rw [if_neg (by rw [hbad]; simp)] at hr
      have e0 : W.operands.headD [] = L n0 := by rw [headD_get, HPO.out.2.2 0 hpos, hn0]
      rw [e0] at hr
      have HRY := hid hr
      have HOPS := hid HP.out.ops
      have HST := hid hst
      have HB2 := hid (show Below w1.heap.size w1 (w1.alloc (.cells #[.string n0, .slice pa (os.length - 1) pc, .slice none 0 0] 202)) from (Below.refl _ _).alloc (Nat.le_refl _) _)
      have HLT := hid HX.out.mown.lt
      have hwl : w.heap.size ≤ w1.heap.size := HF.out.size
      have HX := hid (HX.out.below HB2.out)
      have HF := hid (HF.out.trans (Fr.of_below HB2.out))
      have HM := hid (HM.out.below HB2.out)
      have HRA := hid (HRA.out.below HB2.out)
      have HST := hid (HST.out.below HB2.out)
      have HD := hid (RowT.new w1 202 [.string n0, .slice pa (os.length - 1) pc, .slice none 0 0])
      have HN0 := hid hn0
      clear hr e0 hst hbad hn0
      go_wp2_with fail
      generalize (w1.alloc (.cells #[.string n0, .slice pa (os.length - 1) pc, .slice none 0 0] 202)) = w2 at HX HF HM HRA HST HD ⊢
      go_fit (find_any' w2 B be bt 0 k vm vn vl ms ns outs calls HX.out hml n0)
      rintro e w3 ⟨hw3, hcase⟩
      subst hw3
      rcases hcase with ⟨hf, rfl⟩ | ⟨i, g, cap, hi, hf, hvm, rfl⟩
      · have hr := HRY.out
        have hf' : findM (stOf ms ns outs calls).macros (L n0) = none := hf
        rw [hf'] at hr
        have HRZ := hid hr
        obtain ⟨bp, hbp⟩ : ∃ bp, bodyP [] ((ls.drop k).map L) = bp := ⟨_, rfl⟩
        have HBP := hid hbp
        have c0 := HX.out.row.cell 0 (by simp)
        have hvmd : vm.ownBlock ≠ some w1.heap.size := fun e => by have := (HLT.out _ e).2; omega
        clear hr hf' hf hbp
        go_wp2_with fail
        go_fit (takeBody_any w3 B 74 bt v lv ls k rest opens HRA.out (by decide) (by decide) rfl hbt HLS.out HM.out hgB bp HBP.out)
        rintro e w4 ⟨bv, rfl, hra4, hfr4, ⟨ba, bn, bc, hbv⟩, hbs⟩
        subst hbv
        have HX4 := hid (HX.out.frc hfr4 (k' := k + bp.2.2) ⟨_, hra4.cond.row, by simp⟩)
        have HF4 := hid (show Fr B (frM 0 bt) w w4 from HF.out.trans hfr4.to)
        have HD4 := hid (HD.out.fr hfr4 rfl (fun h => by cases h))
        have HST4 := hid (HST.out.frc hfr4)
        have HX5 := hid (HX4.out.offD (j := 2) HD4.out hvmd (.slice ba bn bc))
        have HF5 := hid (HF4.out.setNew (p := ⟨w1.heap.size, 2, none⟩) hwl (.slice ba bn bc))
        have HD5 := hid (HD4.out.set 2 (.slice ba bn bc))
        have HST5 := hid (HST4.out.set w1.heap.size 2 (.slice ba bn bc) (RowT.notStr HD4.out (by decide)))
        have HRA5 := hid (hra4.off (j := 2) HD4.out (by decide) (by decide) (by decide) (.slice ba bn bc))
        have HBS5 := hid (show bp.1 = 0 → ∃ bs, bs.map L = bp.2.1 ∧ StrV (w4.setCell ⟨w1.heap.size, 2, none⟩ (.slice ba bn bc)) 0 (.slice ba bn bc) bs from fun h0 => by
          obtain ⟨bs, h1, h2⟩ := hbs h0
          exact ⟨bs, h1, (h2.mono (Nat.zero_le _)).set w1.heap.size 2 _ (RowT.notStr HD4.out (by decide))⟩)
        have x2 := HD4.out.cell 2 (by simp)
        have f2 := HD4.out.free 2
        obtain ⟨er, bl, cn⟩ := bp
        clear hra4 hfr4 hbs HX4 HF4 c0
        go_upto_region 9 with fail
        generalize w4.setCell ⟨w1.heap.size, 2, none⟩ (.slice ba bn bc) = w5 at HX5 HF5 HD5 HST5 HRA5 HBS5 ⊢
        obtain ⟨ma, mc, hmv⟩ := own_form HX5.out.mown
        subst hmv
        have c1 : w5.cell? ⟨be, 1, none⟩ = some (.slice ma ms.length mc) := HX5.out.row.cell 1 (by simp)
        have f1 := HX5.out.row.free 1
        have hlt5 := HX5.out.row.lt
        have y0 := HD5.out.cell 0 (by simp)
        have y1 := HD5.out.cell 1 (by simp)
        have y2 := HD5.out.cell 2 (by simp)
        have hneb : (Value.slice ma ms.length mc).ownBlock ≠ some be := own_row_ne HX5.out.mown HX5.out.row (by decide)
        have hB5 : B ≤ w5.heap.size := Nat.le_trans hB HF5.out.size
        clear x2 f2
        go_region_law
          (refine step_append_lies _ (by rfl) _ _ _ (by rfl) B 202 i0 _ 3 64 Tryz.underlying75 hi0 hz0 hz1 hz2 rfl (by omega) (.slice ma ms.length mc) ms.length (macCells ms) (by rfl) ((HX5.out.mown.alloc _).drew) ⟨_, 0, none⟩ 1 1 [.string n0, .slice pa (os.length - 1) pc, .slice ba bn bc] (by rfl) (by rfl) (World.news_of_block (cs := #[.string n0, .slice pa (os.length - 1) pc, .slice ba bn bc]) (t := 202) (fr := (0, 0)) (heap_alloc_new _ _)) (by simp [Value.oneCell']) (by omega) (by unfold maxLen; omega) (by omega) (by simp; omega) _ rfl ?_; intro gg cap' w6 hown6 hgrow hat hlt6; have hc6 := (hgrow.cell_far ⟨be, 1, none⟩ (by simp; omega) (Ne.symm hneb)).trans ((((Below.refl w5.heap.size w5).alloc (Nat.le_refl _) _).drew.cell (p := ⟨be, 1, none⟩) hlt5).trans c1); have hf6 := (hgrow.frozen_far ⟨be, 1, none⟩ (by simp; omega) (Ne.symm hneb)).trans ((((Below.refl w5.heap.size w5).alloc (Nat.le_refl _) _).drew.frozen (p := ⟨be, 1, none⟩) hlt5).trans f1))
        all_goals
          have hb6 : Below w5.heap.size w5 (w5.alloc (.cells #[.string n0, .slice pa (os.length - 1) pc, .slice ba bn bc] 202)).drew := ((Below.refl _ _).alloc (Nat.le_refl _) _).drew
          have HL := hid ((HX5.out.below hb6).maced hgrow hown6)
          have HF7 := hid ((HF5.out.trans (Fr.of_below hb6)).trans (HL.out.2.2.mono (fun k h => by cases h)))
          have HST6 := hid (HST5.out.below hb6)
          have HRA7 := hid ((HRA5.out.below hb6).fr HL.out.2.2 rfl rfl rfl (by simp) (fun g _ => by simp))
          clear hown6 hgrow hat hc6 hf6
          go_wp2
          go_ret
          have hr := HRZ.out
          rw [← List.map_drop, HBP.out] at hr
          subst hr
          refine ⟨rfl, HF7.out, HL.out.2.1, fun h0 => ?_⟩
          obtain ⟨bs, hbs1, hbs2⟩ := HBS5.out h0
          refine ⟨⟨_, _, _, _, _, _, _, HL.out.1 os.tail bs HST6.out (hbs2.below hb6), ?_⟩, HRA7.out⟩
          simp [stOf, plainM, hbs1, ← HOPS.out]
      · have hr := HRY.out
        have hf' : findM (stOf ms ns outs calls).macros (L n0) = some (plainM ms[i]) := hf
        rw [hf'] at hr
        have hr' : (5, k, stOf ms ns outs calls) = r := hr
        subst hr'
        clear hr hf'
        go_wp2
        go_ret
        exact ⟨rfl, HF.out, HX.out.num, fun h => by cases h⟩

end Go.Proofs.YtcepppilgncdmaaGreatDoor
