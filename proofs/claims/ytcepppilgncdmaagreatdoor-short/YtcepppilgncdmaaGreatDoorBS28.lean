/-
  How bytes are put (package assemble): putByte, putNumber.
  How numbers are put (package assemble): putNumber.
  How far a jump is; how a line's expressions are put (package assemble): howFar, fits, putExpressions, putJump.
  How a line's expressions are put (package assemble): putExpressions, putJump.
-/
import Derived.Test.YtcepppilgncdmaaGreatDoorBS20
import Derived.Test.YtcepppilgncdmaaGreatDoorBS24
import Derived.Test.YtcepppilgncdmaaGreatDoorBS23
namespace Go.Proofs.YtcepppilgncdmaaGreatDoor
open Go.RowKit
attribute [local go_sem ↓] Go.wp_at_zero Go.wp_at_succ

theorem byteP_nat (z : Int) : ((byteP z).toNat : Int) = z % 256 := by
  unfold byteP
  have h1 : 0 ≤ z % 256 := Int.emod_nonneg _ (by decide)
  have h2 : z % 256 < 256 := Int.emod_lt_of_pos _ (by decide)
  rw [UInt8.toNat_ofNat']
  have : (z % 256).toNat % 2 ^ 8 = (z % 256).toNat := Nat.mod_eq_of_lt (by omega)
  rw [this]
  omega
theorem wrap_byte (z : Int) : IntKind.u8.wrap z = ((byteP z).toNat : Int) := by
  rw [byteP_nat]
  have h1 : 0 ≤ z % 256 := Int.emod_nonneg _ (by decide)
  simp [IntKind.wrap, IntKind.bits, IntKind.signed]

/-- What is left to say behind bytes that were put. -/
def PutPost (B ba : Nat) (vl vs vn vt : Value) (ls : List LnV) (ss : List StV) (ns ts : List (ByteArray × Int)) (sz : Nat) (bs : List UInt8) (r : Int × List UInt8) (res : Value) (w : World) (e : Ending) (w' : World) : Prop :=
  e = .returned res ∧ FrB B [] w w' ∧ (r.1 = 0 → ∃ vb', AsmAt w' B ba vl vs vn vt vb' ls ss ns ts sz (bs ++ r.2))

set_option maxRecDepth 100000 in
set_option maxHeartbeats 1600000 in
theorem putByte_any (w : World) (B ba : Nat) (vl vs vn vt vb : Value) (ls : List LnV) (ss : List StV) (ns ts : List (ByteArray × Int)) (sz : Nat) (bs : List UInt8) (h : AsmAt w B ba vl vs vn vt vb ls ss ns ts sz bs) (hbl : bs.length ≤ 1000000) (z : Int) (hB : B ≤ w.heap.size) :
    Calls Tryz.prog 82 #[.pointer (some ⟨ba, 0, none⟩), .int .i64 z] w (PutPost B ba vl vs vn vt ls ss ns ts sz bs (0, [byteP z]) (.tuple #[]) w) := by
  obtain ⟨i0, hi0, hz0, hz1, hz2⟩ := info_parts info_by
  obtain ⟨a, cap, hv⟩ := own_form h.bown
  subst hv
  have c5 : w.cell? ⟨ba, 5, none⟩ = some (.slice a bs.length cap) := h.row.cell 5 (by simp)
  have f5 := h.row.free 5
  have hlb := h.row.lt
  have hneb : (Value.slice a bs.length cap).ownBlock ≠ some ba := own_row_ne h.bown h.row (by decide)
  obtain ⟨c, hc⟩ : ∃ c, byteP z = c := ⟨_, rfl⟩
  have hw := wrap_byte z
  rw [hc] at hw ⊢
  have HX := hid h
  clear h hc
  go_enter Tryz.func82, Tryz.ntmps82
  go_wp2_with ((at_builtin; refine wpList_append_lies _ rfl (.tmp 8) (.tmp 11) 30 rfl B 5 i0 _ 1 1 Tryz.underlying30 hi0 hz0 hz1 hz2 rfl (by omega) (.slice a bs.length cap) bs.length (byCells bs) rfl (HX.out.bown.alloc _) ⟨w.heap.size, 0, none⟩ 1 1 [.int .u8 (c.toNat : Nat)] rfl rfl (World.news_of_block (cs := #[.int .u8 (c.toNat : Nat)]) (t := 5) (fr := (0, 0)) (heap_alloc_new _ _)) (by simp [Value.oneCell']) (by omega) (by unfold maxLen; omega) (by omega) (by simp; omega) _ rfl ?_; intro gg cap' w4 hown4 hgrow hat hlt4; have hc4 := (hgrow.cell_far ⟨ba, 5, none⟩ (by simp; omega) (Ne.symm hneb)).trans (((Below.refl w.heap.size w).alloc (Nat.le_refl _) (.cells #[.int .u8 (c.toNat : Nat)] 5)).cell (p := ⟨ba, 5, none⟩) hlb |>.trans c5); have hf4 := (hgrow.frozen_far ⟨ba, 5, none⟩ (by simp; omega) (Ne.symm hneb)).trans (((Below.refl w.heap.size w).alloc (Nat.le_refl _) (.cells #[.int .u8 (c.toNat : Nat)] 5)).frozen (p := ⟨ba, 5, none⟩) hlb |>.trans f5); have HL := hid ((HX.out.below ((Below.refl w.heap.size w).alloc (Nat.le_refl _) (.cells #[.int .u8 (c.toNat : Nat)] 5))).bytes (more := [c]) hgrow hown4)))
  refine bodyPost_ret (v := .tuple #[]) (by simp [results, Tryz.results82]) rfl ?_
  exact ⟨rfl, (FrB.of_below ((Below.refl _ _).alloc (Nat.le_refl _) _)).trans HL.out.2, fun _ => ⟨_, HL.out.1⟩⟩

end Go.Proofs.YtcepppilgncdmaaGreatDoor

namespace Go.Proofs.YtcepppilgncdmaaGreatDoor
open Go.RowKit
attribute [local go_sem ↓] Go.wp_at_zero Go.wp_at_succ

/-- What is left of a number behind so many bytes. -/
def shrP (z : Int) : Nat → Int
  | 0 => z
  | 1 => z / 256
  | _ => z / 256 / 256
theorem shrP_bd (z : Int) (h : -1000000 ≤ z ∧ z ≤ 1000000) : ∀ j, -1000000 ≤ shrP z j ∧ shrP z j ≤ 1000000
  | 0 => h
  | 1 => by simp only [shrP]; omega
  | n + 2 => by simp only [shrP]; omega

set_option maxRecDepth 100000 in
set_option maxHeartbeats 1600000 in
theorem putNumber_any (w : World) (B ba : Nat) (vl vs vn vt vb : Value) (ls : List LnV) (ss : List StV) (ns ts : List (ByteArray × Int)) (sz : Nat) (bs : List UInt8) (h : AsmAt w B ba vl vs vn vt vb ls ss ns ts sz bs) (hbl : bs.length ≤ 900000) (z : Int) (hz : -1000000 ≤ z ∧ z ≤ 1000000) (d : Nat) (hd : d = 1 ∨ d = 2) (hB : B ≤ w.heap.size) :
    Calls Tryz.prog 123 #[.pointer (some ⟨ba, 0, none⟩), .int .i64 z, .int .i64 (d : Nat)] w (PutPost B ba vl vs vn vt ls ss ns ts sz bs (numP d z) (.int .i64 (numP d z).1) w) := by
  obtain ⟨z1, z2⟩ := hz
  have HX := hid h
  clear h
  obtain ⟨r, hr⟩ : ∃ r, numP d z = r := ⟨_, rfl⟩
  rw [hr]
  unfold numP at hr
  rcases hd with rfl | rfl
  · rw [if_pos rfl] at hr
    by_cases hlo : z < -128
    · rw [if_pos (Or.inl hlo)] at hr
      subst hr
      go_enter Tryz.func123, Tryz.ntmps123
      go_wp2
      go_ret
      exact ⟨rfl, FrB.refl _ _, (fun h => by cases h)⟩
    · by_cases hhi : 255 < z
      · rw [if_pos (Or.inr hhi)] at hr
        subst hr
        go_enter Tryz.func123, Tryz.ntmps123
        go_wp2
        go_ret
        exact ⟨rfl, FrB.refl _ _, (fun h => by cases h)⟩
      · rw [if_neg (by omega)] at hr
        subst hr
        go_enter Tryz.func123, Tryz.ntmps123
        go_wp2_with fail
        go_loopw [23, 1] (fun i v wr => ∃ (j : Nat) (vb' : Value), j ≤ 1 ∧ i = .int .i64 j ∧ v = .int .i64 (shrP z j) ∧ FrB B [] w wr ∧ AsmAt wr B ba vl vs vn vt vb' ls ss ns ts sz (bs ++ [byteP z].take j)) (fun i _ _ => 1 - (intOf i).toNat)
        case atStart => exact ⟨0, vb, Nat.zero_le _, rfl, rfl, FrB.refl _ _, by simpa using HX.out⟩
        case round =>
          obtain ⟨j, vb', hj, rfl, rfl, hf, hx⟩ := hrel
          have HF := hid hf
          have HXR := hid hx
          have hBr : B ≤ wr.heap.size := Nat.le_trans hB hf.size
          clear hf hx
          by_cases hj1 : j < 1
          · have hj0 : j = 0 := by omega
            subst hj0
            go_wp2_with fail
            refine (putByte_any wr B ba vl vs vn vt vb' ls ss ns ts sz _ HXR.out (by simp; omega) z hBr).mono ?_
            rintro e w2 ⟨rfl, hf2, hx2⟩
            obtain ⟨vb2, hx2⟩ := hx2 rfl
            have HF2 := hid (HF.out.trans hf2)
            have HX2 := hid hx2
            clear hf2 hx2
            go_wp2_with fail
            go_roundw
            case rel => exact ⟨1, vb2, by omega, rfl, rfl, HF2.out, by simpa using HX2.out⟩
            case measure => simp [intOf]
          · have hj0 : j = 1 := by omega
            subst hj0
            go_wp2_with fail
            go_ret
            exact ⟨rfl, HF.out, fun _ => ⟨vb', HXR.out⟩⟩
  · rw [if_neg (by decide)] at hr
    by_cases hlo : z < -32768
    · rw [if_pos (Or.inl hlo)] at hr
      subst hr
      go_enter Tryz.func123, Tryz.ntmps123
      go_wp2
      go_ret
      exact ⟨rfl, FrB.refl _ _, (fun h => by cases h)⟩
    · by_cases hhi : 65535 < z
      · rw [if_pos (Or.inr hhi)] at hr
        subst hr
        go_enter Tryz.func123, Tryz.ntmps123
        go_wp2
        go_ret
        exact ⟨rfl, FrB.refl _ _, (fun h => by cases h)⟩
      · rw [if_neg (by omega)] at hr
        subst hr
        go_enter Tryz.func123, Tryz.ntmps123
        go_wp2_with fail
        go_loopw [23, 1] (fun i v wr => ∃ (j : Nat) (vb' : Value), j ≤ 2 ∧ i = .int .i64 j ∧ v = .int .i64 (shrP z j) ∧ FrB B [] w wr ∧ AsmAt wr B ba vl vs vn vt vb' ls ss ns ts sz (bs ++ [byteP z, byteP (z / 256)].take j)) (fun i _ _ => 2 - (intOf i).toNat)
        case atStart => exact ⟨0, vb, Nat.zero_le _, rfl, rfl, FrB.refl _ _, by simpa using HX.out⟩
        case round =>
          obtain ⟨j, vb', hj, rfl, rfl, hf, hx⟩ := hrel
          have HF := hid hf
          have HXR := hid hx
          have hBr : B ≤ wr.heap.size := Nat.le_trans hB hf.size
          clear hf hx
          have hcs : j = 0 ∨ j = 1 ∨ j = 2 := by omega
          rcases hcs with rfl | rfl | rfl
          · go_wp2_with fail
            refine (putByte_any wr B ba vl vs vn vt vb' ls ss ns ts sz _ HXR.out (by simp; omega) z hBr).mono ?_
            rintro e w2 ⟨rfl, hf2, hx2⟩
            obtain ⟨vb2, hx2⟩ := hx2 rfl
            have HF2 := hid (HF.out.trans hf2)
            have HX2 := hid hx2
            clear hf2 hx2
            go_wp2_with fail
            go_roundw
            case rel => exact ⟨1, vb2, by omega, rfl, rfl, HF2.out, by simpa using HX2.out⟩
            case measure => simp [intOf]
          · go_wp2_with fail
            refine (putByte_any wr B ba vl vs vn vt vb' ls ss ns ts sz _ HXR.out (by simp; omega) (z / 256) hBr).mono ?_
            rintro e w2 ⟨rfl, hf2, hx2⟩
            obtain ⟨vb2, hx2⟩ := hx2 rfl
            have HF2 := hid (HF.out.trans hf2)
            have HX2 := hid hx2
            clear hf2 hx2
            go_wp2_with fail
            go_roundw
            case rel => exact ⟨2, vb2, by omega, rfl, rfl, HF2.out, by simpa using HX2.out⟩
            case measure => simp [intOf]
          · go_wp2_with fail
            go_ret
            exact ⟨rfl, HF.out, fun _ => ⟨vb', HXR.out⟩⟩

end Go.Proofs.YtcepppilgncdmaaGreatDoor

namespace Go.Proofs.YtcepppilgncdmaaGreatDoor
open Go.RowKit
attribute [local go_sem ↓] Go.wp_at_zero Go.wp_at_succ

/-- A statement of an assembly, where it lies. -/
theorem AsmAt.stAt {w : World} {B ba g sc : Nat} {vl vs vn vt vb : Value} {ls : List LnV} {ss : List StV} {ns ts : List (ByteArray × Int)} {sz : Nat} {bs : List UInt8} (h : AsmAt w B ba vl vs vn vt vb ls ss ns ts sz bs) (hv : vs = .slice (some ⟨g, 0, none⟩) ss.length sc) (i : Nat) (hi : i < ss.length) : StAt w g (i * 11) ss[i] := by
  subst hv
  have h1 := h.sown
  refine ⟨own_ltA h1 rfl, fun k v hk => ?_⟩
  have hk2 : k < 11 := by
    have := (List.getElem?_eq_some_iff.1 hk).1
    simpa [stOne] using this
  rw [h1.cellAt (i * 11 + k) (by omega), stCells_at ss i k hi hk2]
  exact hk

/-- What is known of a statement's expressions. -/
structure ExOk (x : StV) : Prop where
  few : x.es.length ≤ 1000
  short : ∀ i (h : i < x.es.length), x.es[i].size ≤ 1000

/-- What howFar answers. -/
def HfPost (z er : Int) (at_ : Nat) (w : World) (e : Ending) (w' : World) : Prop := e = .returned (.tuple #[.int .i64 (if er = 0 then z - (at_ + 2) else 0), .int .i64 er]) ∧ Below w.heap.size w w'
set_option maxRecDepth 100000 in
set_option maxHeartbeats 1600000 in
theorem howFar_any (w : World) (B ba g sc : Nat) (vl vs vn vt vb : Value) (ls : List LnV) (ss : List StV) (ns ts : List (ByteArray × Int)) (sz : Nat) (bs : List UInt8) (h : AsmAt w B ba vl vs vn vt vb ls ss ns ts sz bs) (hv : vs = .slice (some ⟨g, 0, none⟩) ss.length sc) (hnl : ns.length ≤ 1000) (i : Nat) (hi : i < ss.length) (e0 : ByteArray) (he : ss[i].es[0]? = some e0) (hes : e0.size ≤ 1000) (at_ : Nat) (ha : at_ ≤ 1000000) (z er : Int) (hq : value at_ (plainN ns) (L e0) = (z, er)) :
    Calls Tryz.prog 122 #[.pointer (some ⟨ba, 0, none⟩), .pointer (some ⟨g, i * 11, none⟩), .int .i64 (at_ : Nat)] w (HfPost z er at_ w) := by
  have hst := h.stAt hv i hi
  have hs := h.strs ss[i] (List.getElem_mem hi)
  obtain ⟨x, hx⟩ : ∃ x, ss[i] = x := ⟨_, rfl⟩
  rw [hx] at hst hs he
  obtain ⟨hlt, hel⟩ := List.getElem?_eq_some_iff.1 he
  obtain ⟨ge, off, cap, hve, hgl, hc⟩ := hs.cell 0 hlt
  rw [hel, Nat.add_zero] at hc
  obtain ⟨na, nc, hnv, hna⟩ := own_names h.nown
  subst hnv
  have c2 : w.cell? ⟨ba, 2, none⟩ = some (.slice na ns.length nc) := h.row.cell 2 (by simp)
  have c8 : w.cell? ⟨g, i * 11 + 8, none⟩ = some (.slice (some ⟨ge, off, none⟩) x.es.length cap) := by rw [← hve]; exact hst.2 8 _ rfl
  have hbd : er = 0 → -1000000 ≤ z ∧ z ≤ 1000000 := fun h0 => value_bd (by rw [hq, h0])
  have HNA := hid hna
  have HQ := hid hq
  have HBD := hid hbd
  clear h hst hs hx he hel hna hq hbd hve
  go_enter Tryz.func122, Tryz.ntmps122
  go_wp2_with fail
  go_region_with (go_at_call 36; refine (xValue_any e0 at_ na nc ns _ z er (by unfold maxLen; omega) (by unfold maxLen; omega) (HNA.out.below ((Below.refl _ _).drew)) HQ.out).mono ?_; rintro e w3 ⟨rfl, hb3⟩)
  all_goals
    have HB := hid (((Below.refl w.heap.size w).drew).trans (hb3.mono (Nat.le_refl _)))
    clear hb3 c2 c8 hc
    by_cases her : er = 0
    · subst her
      obtain ⟨q1, q2⟩ := HBD.out rfl
      go_wp2
      refine bodyPost_ret (v := .tuple #[.int .i64 (z - (at_ + 2)), .int .i64 0]) (by simp [results, Tryz.results122]) rfl ?_
      exact ⟨by rw [if_pos rfl], HB.out⟩
    · have ke : (er != 0) = true := by simpa using her
      go_wp2
      refine bodyPost_ret (v := .tuple #[.int .i64 0, .int .i64 er]) (by simp [results, Tryz.results122]) rfl ?_
      exact ⟨by rw [if_neg her], HB.out⟩

set_option maxRecDepth 100000 in
set_option maxHeartbeats 1600000 in
theorem fits_any (w : World) (B ba g sc : Nat) (vl vs vn vt vb : Value) (ls : List LnV) (ss : List StV) (ns ts : List (ByteArray × Int)) (sz : Nat) (bs : List UInt8) (h : AsmAt w B ba vl vs vn vt vb ls ss ns ts sz bs) (hv : vs = .slice (some ⟨g, 0, none⟩) ss.length sc) (hnl : ns.length ≤ 1000) (i : Nat) (hi : i < ss.length) (e0 : ByteArray) (he : ss[i].es[0]? = some e0) (hes : e0.size ≤ 1000) (at_ : Nat) (ha : at_ ≤ 1000000) (r : Bool) (hr : (!(decide ((value at_ (plainN ns) (L e0)).2 = 0) && (decide ((value at_ (plainN ns) (L e0)).1 - (at_ + 2) < -128) || decide (127 < (value at_ (plainN ns) (L e0)).1 - (at_ + 2))))) = r) :
    Calls Tryz.prog 81 #[.pointer (some ⟨ba, 0, none⟩), .pointer (some ⟨g, i * 11, none⟩), .int .i64 (at_ : Nat)] w fun e w' => e = .returned (.bool r) ∧ Below w.heap.size w w' := by
  obtain ⟨q, hq⟩ : ∃ q, value at_ (plainN ns) (L e0) = q := ⟨_, rfl⟩
  obtain ⟨z, er⟩ := q
  have hc := howFar_any w B ba g sc vl vs vn vt vb ls ss ns ts sz bs h hv hnl i hi e0 he hes at_ ha z er hq
  have hbd : er = 0 → -1000000 ≤ z ∧ z ≤ 1000000 := fun h0 => value_bd (by rw [hq, h0])
  rw [hq] at hr
  simp only at hr
  have HC := hid hc
  clear h hc he hq
  by_cases her : er = 0
  · subst her
    obtain ⟨q1, q2⟩ := hbd rfl
    have HC := hid (show Calls Tryz.prog 122 #[.pointer (some ⟨ba, 0, none⟩), .pointer (some ⟨g, i * 11, none⟩), .int .i64 (at_ : Nat)] w fun e w' => e = .returned (.tuple #[.int .i64 (z - (at_ + 2)), .int .i64 0]) ∧ Below w.heap.size w w' from HC.out.mono (fun e w' h => ⟨by rw [h.1, if_pos rfl], h.2⟩))
    have HR := hid hr
    clear hr hbd
    obtain ⟨f, hf⟩ : ∃ f, z - ((at_ : Int) + 2) = f := ⟨_, rfl⟩
    rw [hf] at HC HR
    have hfb : -3000000 ≤ f ∧ f ≤ 3000000 := by omega
    clear hf
    go_enter Tryz.func81, Tryz.ntmps81
    go_wp2_with fail
    refine HC.out.mono ?_
    rintro e w1 ⟨rfl, hb1⟩
    by_cases h1 : f < -128
    · have hr := HR.out
      have hr1 : r = false := by rw [← hr]; simp [h1]
      subst hr1
      clear HR hr
      go_wp2
      go_ret
      exact ⟨rfl, hb1⟩
    · by_cases h2 : 127 < f
      · have hr := HR.out
        have hr1 : r = false := by rw [← hr]; simp [h2]
        subst hr1
        clear HR hr
        go_wp2
        go_ret
        exact ⟨ret_bool (by simp; omega), hb1⟩
      · have hr := HR.out
        have hr1 : r = true := by rw [← hr]; simp; omega
        subst hr1
        clear HR hr
        go_wp2
        go_ret
        exact ⟨ret_bool (by simp), hb1⟩
  · have ke : (er != 0) = true := by simpa using her
    have hr1 : r = true := by rw [← hr]; simp [her]
    subst hr1
    have HC := hid (show Calls Tryz.prog 122 #[.pointer (some ⟨ba, 0, none⟩), .pointer (some ⟨g, i * 11, none⟩), .int .i64 (at_ : Nat)] w fun e w' => e = .returned (.tuple #[.int .i64 0, .int .i64 er]) ∧ Below w.heap.size w w' from HC.out.mono (fun e w' h => ⟨by rw [h.1, if_neg her], h.2⟩))
    clear hr hbd
    go_enter Tryz.func81, Tryz.ntmps81
    go_wp2_with fail
    refine HC.out.mono ?_
    rintro e w1 ⟨rfl, hb1⟩
    go_wp2
    go_ret
    exact ⟨rfl, hb1⟩

end Go.Proofs.YtcepppilgncdmaaGreatDoor

namespace Go.Proofs.YtcepppilgncdmaaGreatDoor
open Go.RowKit
attribute [local go_sem ↓] Go.wp_at_zero Go.wp_at_succ

theorem exprsP_err {all : List (List UInt8 × Int)} {a : Int} {d : Nat} : ∀ {l : List (List UInt8)}, (exprsP all a d l).1 ≠ 0 → (exprsP all a d l).2 = []
  | [], h => absurd rfl h
  | e :: r, h => by
    simp only [exprsP] at h ⊢
    split
    · rfl
    · split
      · rfl
      · split
        · rfl
        · rename_i h1 h2 h3
          rw [if_neg h1, if_neg h2, if_neg h3] at h
          exact absurd rfl h
/-- What comes of the rest, behind bytes that are there already. -/
def contP (done : List UInt8) (q : Int × List UInt8) : Int × List UInt8 := if q.1 ≠ 0 then (q.1, []) else (0, done ++ q.2)
theorem contP_nil {all : List (List UInt8 × Int)} {a : Int} {d : Nat} (l : List (List UInt8)) : contP [] (exprsP all a d l) = exprsP all a d l := by
  unfold contP
  split
  · rename_i h
    exact Prod.ext rfl (exprsP_err h).symm
  · rename_i h
    exact Prod.ext (by simpa using (Classical.byContradiction h).symm) rfl
theorem contP_step {all : List (List UInt8 × Int)} {a z : Int} {d : Nat} {e : List UInt8} {r : List (List UInt8)} {done : List UInt8} (hv : value a all e = (z, 0)) (hn : (numP d z).1 = 0) : contP done (exprsP all a d (e :: r)) = contP (done ++ (numP d z).2) (exprsP all a d r) := by
  simp only [exprsP, hv]
  rw [if_neg (by simp), if_neg (by simp [hn])]
  unfold contP
  by_cases h : (exprsP all a d r).1 = 0
  · simp [h]
  · simp [h]
theorem numP_len (d : Nat) (z : Int) : (numP d z).2.length ≤ 2 := by
  unfold numP
  split <;> split <;> simp

set_option maxRecDepth 100000 in
set_option maxHeartbeats 1600000 in
theorem putExpressions_any (w : World) (B ba g sc : Nat) (vl vs vn vt vb : Value) (ls : List LnV) (ss : List StV) (ns ts : List (ByteArray × Int)) (sz : Nat) (bs : List UInt8) (h : AsmAt w B ba vl vs vn vt vb ls ss ns ts sz bs) (hv : vs = .slice (some ⟨g, 0, none⟩) ss.length sc) (hnl : ns.length ≤ 1000) (hbl : bs.length ≤ 800000) (i : Nat) (hi : i < ss.length) (x : StV) (hx : ss[i] = x) (hok : ExOk x) (hw : x.es ≠ [] → x.o.width = 1 ∨ x.o.width = 2) (at_ : Nat) (hB : B ≤ w.heap.size) (R : Int × List UInt8) (hR : exprsP (plainN ns) at_ x.o.width (x.es.map L) = R) :
    Calls Tryz.prog 83 #[.pointer (some ⟨ba, 0, none⟩), .pointer (some ⟨g, i * 11, none⟩), .int .i64 (at_ : Nat)] w (PutPost B ba vl vs vn vt ls ss ns ts sz bs R (.int .i64 R.1) w) := by
  subst hv
  have hst := h.stAt rfl i hi
  have hstr := h.strs ss[i] (List.getElem_mem hi)
  rw [hx] at hst hstr
  obtain ⟨va, vc, hve⟩ := hstr.form
  have c8 : w.cell? ⟨g, i * 11 + 8, none⟩ = some (.slice va x.es.length vc) := by rw [← hve]; exact hst.2 8 _ rfl
  obtain ⟨na, nc, hnv, _⟩ := own_names h.nown
  subst hnv
  have HX := hid h
  have HR := hid hR
  have HOK := hid hok
  have HW := hid hw
  have HXX := hid hx
  have hfew := hok.few
  clear h hst hstr hR hok hw hx
  go_enter Tryz.func83, Tryz.ntmps83
  go_wp2_with fail
  go_loopw [16] (fun q wr => ∃ (j : Nat) (vb' : Value) (done : List UInt8), j ≤ x.es.length ∧ q = .int .i64 j ∧ done.length ≤ 2 * j ∧ R = contP done (exprsP (plainN ns) at_ x.o.width ((x.es.drop j).map L)) ∧ FrB B [] w wr ∧ AsmAt wr B ba vl (.slice (some ⟨g, 0, none⟩) ss.length sc) (.slice na ns.length nc) vt vb' ls ss ns ts sz (bs ++ done)) (fun q _ => x.es.length - (intOf q).toNat)
  case atStart => exact ⟨0, vb, [], Nat.zero_le _, rfl, by simp, by rw [contP_nil, List.drop_zero]; exact HR.out.symm, FrB.refl _ _, by simpa using HX.out⟩
  case round =>
    obtain ⟨j, vb', done, hj, rfl, hdl, hrr, hf, hxr⟩ := hrel
    have HRR := hid hrr
    have HF := hid hf
    have HXR := hid hxr
    have hBr : B ≤ wr.heap.size := Nat.le_trans hB hf.size
    clear hrr hf hxr
    by_cases hlt : j < x.es.length
    · have kd : decide ((j : Int) < (x.es.length : Int)) = true := by simp; omega
      have hstr := HXR.out.strs ss[i] (List.getElem_mem hi)
      rw [HXX.out] at hstr
      obtain ⟨ge, off, cap, hve2, hgl, hce⟩ := hstr.cell j hlt
      rw [hve] at hve2
      injection hve2 with e1 _ e2
      subst e1 e2
      obtain ⟨e, hee⟩ : ∃ e, x.es[j] = e := ⟨_, rfl⟩
      rw [hee] at hce
      have hesz : e.size ≤ 1000 := by rw [← hee]; exact HOK.out.short j hlt
      have hst := HXR.out.stAt rfl i hi
      rw [HXX.out] at hst
      have c2 : wr.cell? ⟨ba, 2, none⟩ = some (.slice na ns.length nc) := HXR.out.row.cell 2 (by simp)
      have hna : NamesAt wr na ns := by
        obtain ⟨na2, nc2, h1, h2⟩ := own_names HXR.out.nown
        injection h1 with h1 _ _
        rw [h1]; exact h2
      obtain ⟨q, hq⟩ : ∃ q, value at_ (plainN ns) (L e) = q := ⟨_, rfl⟩
      obtain ⟨z, er⟩ := q
      have hdr : (x.es.drop j).map L = L e :: (x.es.drop (j + 1)).map L := by rw [List.drop_eq_getElem_cons hlt, hee]; rfl
      have HNA := hid hna
      have HQ := hid hq
      have HDR := hid hdr
      have hlb := HXR.out.row.lt
      clear hna hq hdr hstr hee hst
      go_wp2_with fail
      refine (xValue_any e at_ na nc ns _ z er (by unfold maxLen; omega) (by unfold maxLen; omega) HNA.out HQ.out).mono ?_
      rintro e' w1 ⟨rfl, hb1⟩
      have HX1 := hid (HXR.out.below hb1)
      have HF1 := hid (HF.out.trans (FrB.of_below hb1))
      have hB1 : B ≤ w1.heap.size := Nat.le_trans hBr hb1.size
      clear hb1 c2 hce
      by_cases her : er = 0
      · subst her
        have hst := HX1.out.stAt rfl i hi
        rw [HXX.out] at hst
        have c4 : w1.cell? ⟨g, i * 11 + 4, none⟩ = some (.int .i64 (x.o.width : Nat)) := hst.2 4 _ rfl
        have hbz := value_bd HQ.out
        have hww := HW.out (fun e => by rw [e] at hlt; simp at hlt)
        obtain ⟨nr, hnr⟩ : ∃ nr, numP x.o.width z = nr := ⟨_, rfl⟩
        have hpn := putNumber_any w1 B ba vl _ _ vt vb' ls ss ns ts sz (bs ++ done) HX1.out (by rw [List.length_append]; omega) z hbz x.o.width hww hB1
        rw [hnr] at hpn
        have HPN := hid hpn
        have HNR := hid hnr
        have hnl2 : nr.2.length ≤ 2 := by rw [← hnr]; exact numP_len _ _
        clear hst hpn hnr hbz hww
        go_wp2_with fail
        refine HPN.out.mono ?_
        rintro e' w2 ⟨rfl, hf2, hx2⟩
        have HF2 := hid (HF1.out.trans hf2)
        have HX2 := hid hx2
        clear hf2 hx2 c4
        by_cases hn0 : nr.1 = 0
        · obtain ⟨vb2, hx2⟩ := HX2.out hn0
          have HX3 := hid hx2
          have kn : (nr.1 != 0) = false := by simp [hn0]
          clear hx2
          go_wp2_with fail
          go_roundw
          case rel =>
            refine ⟨j + 1, vb2, done ++ nr.2, by omega, by go_num, by rw [List.length_append]; omega, ?_, HF2.out, by rw [← List.append_assoc]; exact HX3.out⟩
            rw [HRR.out, HDR.out, contP_step HQ.out (by rw [HNR.out]; exact hn0), HNR.out]
          case measure => simp [intOf]; omega
        · have kn : (nr.1 != 0) = true := by simpa using hn0
          have hre : R = (nr.1, []) := by
            rw [HRR.out, HDR.out]
            simp only [exprsP, HQ.out]
            rw [if_neg (by simp), HNR.out, if_pos hn0]
            unfold contP
            rw [if_pos hn0]
          subst hre
          go_wp2_with fail
          go_ret
          exact ⟨rfl, HF2.out, fun h => absurd h hn0⟩
      · have ke : (er != 0) = true := by simpa using her
        have hre : R = (er, []) := by
          rw [HRR.out, HDR.out]
          simp only [exprsP, HQ.out]
          rw [if_pos her]
          unfold contP
          rw [if_pos her]
        subst hre
        go_wp2_with fail
        go_ret
        exact ⟨rfl, HF1.out, fun h => absurd h her⟩
    · have kd : decide ((j : Int) < (x.es.length : Int)) = false := by simp; omega
      have hre : R = (0, done) := by
        rw [HRR.out, List.drop_of_length_le (by omega)]
        simp [exprsP, contP]
      subst hre
      go_wp2_with fail
      go_ret
      exact ⟨rfl, HF.out, fun _ => ⟨vb', HXR.out⟩⟩

/-- A jump's bytes. -/
def jumpV (all : List (List UInt8 × Int)) (at_ : Nat) (x : StV) (e0 : List UInt8) : Int × List UInt8 :=
  if x.long then behind (x.o.long + x.added : Nat) (exprsP all at_ x.o.width (x.es.map L))
  else if (value at_ all e0).2 ≠ 0 then ((value at_ all e0).2, [])
  else (0, [byteP (x.o.code + x.added : Nat), byteP ((value at_ all e0).1 - (at_ + 2))])
set_option maxRecDepth 100000 in
set_option maxHeartbeats 1600000 in
theorem putJump_any (w : World) (B ba g sc : Nat) (vl vn vt vb : Value) (ls : List LnV) (ss : List StV) (ns ts : List (ByteArray × Int)) (sz : Nat) (bs : List UInt8) (h : AsmAt w B ba vl (.slice (some ⟨g, 0, none⟩) ss.length sc) vn vt vb ls ss ns ts sz bs) (hnl : ns.length ≤ 1000) (hbl : bs.length ≤ 700000) (i : Nat) (hi : i < ss.length) (x : StV) (hx : ss[i] = x) (hok : ExOk x) (hw : x.o.width = 2) (hc : x.o.code ≤ 1000 ∧ x.o.long ≤ 1000 ∧ x.added ≤ 1000) (e0 : ByteArray) (he : x.es[0]? = some e0) (at_ : Nat) (ha : at_ ≤ 1000000) (hB : B ≤ w.heap.size) (R : Int × List UInt8) (hR : jumpV (plainN ns) at_ x (L e0) = R) :
    Calls Tryz.prog 84 #[.pointer (some ⟨ba, 0, none⟩), .pointer (some ⟨g, i * 11, none⟩), .int .i64 (at_ : Nat)] w (PutPost B ba vl (.slice (some ⟨g, 0, none⟩) ss.length sc) vn vt ls ss ns ts sz bs R (.int .i64 R.1) w) := by
  have hst := h.stAt rfl i hi
  rw [hx] at hst
  obtain ⟨hc1, hc2, hc3⟩ := hc
  have hesz : e0.size ≤ 1000 := by
    obtain ⟨h1, h2⟩ := List.getElem?_eq_some_iff.1 he
    rw [← h2]; exact hok.short 0 h1
  obtain ⟨⟨k, rg, c, l, d⟩, lab, has, added, v, es, count, long⟩ := x
  simp only at hw he hc1 hc2 hc3
  subst hw
  have s2 : w.cell? ⟨g, i * 11 + 2, none⟩ = some (.int .i64 (c : Nat)) := hst.2 2 _ rfl
  have s3 : w.cell? ⟨g, i * 11 + 3, none⟩ = some (.int .i64 (l : Nat)) := hst.2 3 _ rfl
  have s7 : w.cell? ⟨g, i * 11 + 7, none⟩ = some (.int .i64 (added : Nat)) := hst.2 7 _ rfl
  have s10 : w.cell? ⟨g, i * 11 + 10, none⟩ = some (.bool long) := hst.2 10 _ rfl
  have hgl := hst.1
  have hwl : IntKind.i64.wrap ((l : Int) + (added : Int)) = (l : Int) + (added : Int) := Go.IntWalk.i64_in _ (by omega)
  have hwc : IntKind.i64.wrap ((c : Int) + (added : Int)) = (c : Int) + (added : Int) := Go.IntWalk.i64_in _ (by omega)
  have HX := hid h
  have HXX := hid hx
  have HOK := hid hok
  have HE := hid he
  unfold jumpV at hR
  simp only [Int.natCast_add] at hR
  have HR := hid hR
  clear h hst hx hok he hR
  cases long with
  | true =>
    have hr := HR.out
    rw [if_pos rfl] at hr
    have HRT := hid hr
    clear hr HR
    go_enter Tryz.func84, Tryz.ntmps84
    go_wp2_with fail
    go_region_with (go_at_call 82; refine (putByte_any _ B ba vl _ vn vt vb ls ss ns ts sz bs (HX.out.below ((Below.refl _ _).drew)) (by omega) ((l : Int) + (added : Int)) hB).mono ?_; rintro e w1 ⟨rfl, hf1, hx1⟩)
    all_goals
      obtain ⟨vb1, hx1⟩ := hx1 (by first | rfl | trivial)
      have HF1 := hid ((FrB.of_below (B := B) ((Below.refl w.heap.size w).drew)).trans hf1)
      have HX1 := hid hx1
      have hB1 : B ≤ w1.heap.size := Nat.le_trans hB HF1.out.size
      obtain ⟨Q, hQ⟩ : ∃ Q, exprsP (plainN ns) at_ 2 (es.map L) = Q := ⟨_, rfl⟩
      have HQ := hid hQ
      clear hf1 hx1 hQ s2 s3 s7 s10
      go_wp2_with fail
      refine (putExpressions_any w1 B ba g sc vl _ vn vt vb1 ls ss ns ts sz (bs ++ [byteP ((l : Int) + (added : Int))]) HX1.out rfl hnl (by simp; omega) i hi _ HXX.out HOK.out (fun _ => Or.inr rfl) at_ hB1 Q HQ.out).mono ?_
      rintro e w2 ⟨rfl, hf2, hx2⟩
      have HF2 := hid (HF1.out.trans hf2)
      have HX2 := hid hx2
      clear hf2 hx2
      have hr := HRT.out
      rw [HQ.out] at hr
      unfold behind at hr
      by_cases hq0 : Q.1 = 0
      · rw [if_neg (by simp [hq0])] at hr
        subst hr
        obtain ⟨vb2, hx3⟩ := HX2.out hq0
        have HX3 := hid hx3
        clear hx3
        rw [hq0]
        go_wp2_with fail
        go_ret
        exact ⟨rfl, HF2.out, fun _ => ⟨vb2, by rw [List.append_assoc] at HX3; exact HX3.out⟩⟩
      · rw [if_pos hq0] at hr
        subst hr
        go_wp2_with fail
        go_ret
        exact ⟨rfl, HF2.out, fun h => absurd h hq0⟩
  | false =>
    obtain ⟨q, hq⟩ : ∃ q, value at_ (plainN ns) (L e0) = q := ⟨_, rfl⟩
    obtain ⟨z, er⟩ := q
    have hr := HR.out
    rw [if_neg (by simp), hq] at hr
    have hhf := howFar_any w B ba g sc vl _ vn vt vb ls ss ns ts sz bs HX.out rfl hnl i hi e0 (by rw [HXX.out]; exact HE.out) hesz at_ ha z er hq
    have HBZ := hid (show er = 0 → -1000000 ≤ z ∧ z ≤ 1000000 from fun h0 => value_bd (by rw [hq, h0]))
    have HHF := hid hhf
    have HRX := hid hr
    clear hhf hq hr HR
    go_enter Tryz.func84, Tryz.ntmps84
    go_wp2_with fail
    refine HHF.out.mono ?_
    rintro e w1 ⟨rfl, hb1⟩
    have HX1 := hid (HX.out.below hb1)
    have HF1 := hid (show FrB B [] w w1 from FrB.of_below hb1)
    have hB1 : B ≤ w1.heap.size := Nat.le_trans hB hb1.size
    have s2 : w1.cell? ⟨g, i * 11 + 2, none⟩ = some (.int .i64 (c : Nat)) := by rw [hb1.cell (p := ⟨g, i * 11 + 2, none⟩) hgl]; exact s2
    have s7 : w1.cell? ⟨g, i * 11 + 7, none⟩ = some (.int .i64 (added : Nat)) := by rw [hb1.cell (p := ⟨g, i * 11 + 7, none⟩) hgl]; exact s7
    clear hb1 s10 s3
    have hr := HRX.out
    by_cases her : er = 0
    · subst her
      rw [if_neg (by simp)] at hr
      obtain ⟨q1, q2⟩ := HBZ.out rfl
      rw [if_pos rfl]
      obtain ⟨f, hf⟩ : ∃ f, z - ((at_ : Int) + 2) = f := ⟨_, rfl⟩
      rw [hf] at hr ⊢
      subst hr
      clear hf
      go_wp2_with fail
      go_region_with (go_at_call 82; refine (putByte_any _ B ba vl _ vn vt vb ls ss ns ts sz bs (HX1.out.below ((Below.refl _ _).drew)) (by omega) ((c : Int) + (added : Int)) hB1).mono ?_; rintro e w2 ⟨rfl, hf2, hx2⟩)
      all_goals
        obtain ⟨vb2, hx2⟩ := hx2 (by first | rfl | trivial)
        have HF2 := hid ((HF1.out.trans (FrB.of_below (B := B) ((Below.refl w1.heap.size w1).drew))).trans hf2)
        have HX2 := hid hx2
        have hB2 : B ≤ w2.heap.size := Nat.le_trans hB HF2.out.size
        clear hf2 hx2 s2 s7
        go_wp2_with fail
        refine (putByte_any w2 B ba vl _ vn vt vb2 ls ss ns ts sz (bs ++ [byteP ((c : Int) + (added : Int))]) HX2.out (by simp; omega) f hB2).mono ?_
        rintro e w3 ⟨rfl, hf3, hx3⟩
        obtain ⟨vb3, hx3⟩ := hx3 (by first | rfl | trivial)
        have HF3 := hid (HF2.out.trans hf3)
        have HX3 := hid hx3
        clear hf3 hx3
        go_wp2_with fail
        go_ret
        exact ⟨rfl, HF3.out, fun _ => ⟨vb3, by have := HX3.out; rw [List.append_assoc] at this; exact this⟩⟩
    · have ke : (er != 0) = true := by simpa using her
      rw [if_pos her] at hr
      subst hr
      rw [if_neg her]
      go_wp2_with fail
      go_ret
      exact ⟨rfl, HF1.out, fun h => absurd h her⟩

end Go.Proofs.YtcepppilgncdmaaGreatDoor
