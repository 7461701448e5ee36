/-
  What Reckoned answers: true, whatever terms, address and values it is given.
-/
import Derived.Test.YtcepppilgncdmaaKeep
import Derived.Test.YtcepppilgncdmaaValTop
import Derived.Deep.RegionHeld3
import Derived.Deep.AppendLies
import Derived.Deep.DrawnRows
import Derived.OwnWalk
import Derived.Deep.CutBlock
import Derived.Deep.DeepCutAuto
import Derived.Deep.LoopGhost
namespace Go.Proofs.Ytcepppilgncdmaa
open Go.RowKit
attribute [local go_sem ↓] Go.wp_at_zero Go.wp_at_succ

def i64ok (z : Int) : Prop := -9223372036854775808 ≤ z ∧ z ≤ 9223372036854775807

/-- A list of numbers lies in the world. -/
def IntsAt (w : World) (a : Option Addr) (zs : List Int) : Prop :=
  zs = [] ∨ ∃ b off, a = some ⟨b, off, none⟩ ∧ b < w.heap.size ∧ ∀ i (h : i < zs.length), w.cell? ⟨b, off + i, none⟩ = some (.int .i64 zs[i]) ∧ i64ok zs[i]

/-- A list of terms lies in the world: three cells a term. -/
def TermsAt (w : World) (a : Option Addr) (ts : List (Int × Int × Int)) : Prop :=
  ts = [] ∨ ∃ b off, a = some ⟨b, off, none⟩ ∧ b < w.heap.size ∧ ∀ i (h : i < ts.length), w.cell? ⟨b, off + i * 3, none⟩ = some (.int .i64 ts[i].1) ∧ w.cell? ⟨b, off + i * 3 + 1, none⟩ = some (.int .i64 ts[i].2.1) ∧ w.cell? ⟨b, off + i * 3 + 2, none⟩ = some (.int .i64 ts[i].2.2) ∧ i64ok ts[i].1 ∧ i64ok ts[i].2.1 ∧ i64ok ts[i].2.2

def cellsN (ns : List (ByteArray × Int)) : List Value := ns.flatMap fun p => [.string p.1, .int .i64 p.2]

theorem infoName : (Try.prog.info? 28).map (fun i => (i.zero, i.size, i.bytes)) = some (some (.agg #[.string ⟨#[]⟩, .int .i64 0]), 2, 24) := by kernel_rfl

theorem ownsRow_below {w w' : World} {base e size : Nat} {v : Value} {n : Nat} {xs : List Value} (h : w.ownsRow base e size v n xs) (hb : Below w.heap.size w w') : w'.ownsRow base e size v n xs := by
  obtain ⟨hl, h⟩ := h
  refine ⟨hl, ?_⟩
  rcases h with h | ⟨g, cap, cur, h1, h2, h3, h4⟩
  · exact Or.inl h
  · refine Or.inr ⟨g, cap, cur, h1, h2, ?_, h4⟩
    rw [hb.block g ?_]
    · exact h3
    · rcases Nat.lt_or_ge g w.heap.size with hlt | hge
      · exact hlt
      · rw [Array.getElem?_eq_none hge] at h3; cases h3

theorem digits_small (k : Nat) (h : k < 10) : digitsTo (k + 1) k [] = [48 + UInt8.ofNat k] := by
  simp only [digitsTo]; rw [if_pos h]
theorem plainN_length (ns : List (ByteArray × Int)) : (plainN ns).length = ns.length := by simp [plainN]

theorem owns_start (w : World) (base : Nat) (hb : base ≤ w.heap.size) : (w.alloc (Obj.cells #[Value.string ⟨#[111, 110, 101]⟩, Value.int IntKind.i64 1] 28)).ownsRow base 28 2 (.slice (some ⟨w.heap.size, 0, none⟩) 1 1) 1 (cellsN [(⟨#[111, 110, 101]⟩, 1)]) := by
  refine ⟨rfl, Or.inr ⟨w.heap.size, 1, _, rfl, hb, heap_alloc_new w _, Nat.le_refl _, by decide, rfl, rfl⟩⟩

/-- What holds all through the statement that appends a name. -/
structure Hold (w : World) (b o : Nat) (x : Int) (v : Value) (k : Nat) (ns : List (ByteArray × Int)) (w' : World) : Prop where
  cell : w'.cell? ⟨b, o, none⟩ = some (.int .i64 x)
  lt : b < w'.heap.size
  own : w'.ownsRow w.heap.size 28 2 v (k + 1) (cellsN ns)
  bel : Below w.heap.size w w'
theorem Hold.below {w : World} {b o : Nat} {x : Int} {v : Value} {k : Nat} {ns : List (ByteArray × Int)} {w1 w2 : World} (h : Hold w b o x v k ns w1) (hb : Below w1.heap.size w1 w2) : Hold w b o x v k ns w2 :=
  ⟨by rw [hb.cell (p := ⟨b, o, none⟩) h.lt]; exact h.cell, Nat.lt_of_lt_of_le h.lt hb.size, ownsRow_below h.own hb, h.bel.trans (hb.mono h.bel.size)⟩
theorem Hold.alloc {w : World} {b o : Nat} {x : Int} {v : Value} {k : Nat} {ns : List (ByteArray × Int)} {w1 : World} (h : Hold w b o x v k ns w1) (ob : Obj) : Hold w b o x v k ns (w1.alloc ob) :=
  h.below ((Below.refl _ _).alloc (Nat.le_refl _) ob)
theorem Hold.drew {w : World} {b o : Nat} {x : Int} {v : Value} {k : Nat} {ns : List (ByteArray × Int)} {w1 : World} (h : Hold w b o x v k ns w1) : Hold w b o x v k ns w1.drew :=
  h.below ((Below.refl _ _).drew)

theorem join_le (t : ByteArray) (k : Nat) (h : t.size ≤ k + 1) (hk : k ≤ 9) : (⟨#[118]⟩ : ByteArray).size + t.size ≤ 9223372036854775807 := by
  show 1 + t.size ≤ 9223372036854775807
  omega

theorem wrap_value (z : Int) : IntKind.i64.wrap (pickI z 2000001 - 1000000) = pickI z 2000001 - 1000000 := by
  have := pickI_bd z 2000001 (by omega)
  rw [IntKind.wrap_i64]
  omega

theorem Hold.ne {w : World} {b g n cap : Nat} (hb : b < w.heap.size) (hg : w.heap.size ≤ g) : some b ≠ Value.ownBlock (.slice (some ⟨g, 0, none⟩) n cap) := by
  intro h
  simp [Value.ownBlock] at h
  omega

theorem cellsN_snoc (ns : List (ByteArray × Int)) (t : ByteArray) (x : Int) : cellsN (ns ++ [(t, x)]) = cellsN ns ++ [.string t, .int .i64 x] := by simp [cellsN]
theorem names_step (zs : List Int) (k : Nat) (ns : List (ByteArray × Int)) (t : ByteArray) (h1 : k < zs.length) (h2 : k < 9) (hp : plainN ns = namesOf zs k) (ht : L t = digitsTo (k + 1) k []) : plainN (ns ++ [(⟨#[118]⟩ ++ t, pickI zs[k] 2000001 - 1000000)]) = namesOf zs (k + 1) := by
  rw [namesOf_succ, ← hp]
  rw [digits_small k (by omega)] at ht
  unfold plainN
  have e : zs.getD k 0 = zs[k] := by simp [List.getD, List.getElem?_eq_getElem h1]
  rw [List.map_append, List.map_singleton, L_push, ht, e]

theorem cellsN_at : ∀ (ns : List (ByteArray × Int)) (i : Nat) (h : i < ns.length), (cellsN ns)[i * 2]? = some (.string ns[i].1) ∧ (cellsN ns)[i * 2 + 1]? = some (.int .i64 ns[i].2) := by
  intro ns
  induction ns with
  | nil => intro i h; simp at h
  | cons p ns ih =>
    intro i h
    have e : cellsN (p :: ns) = .string p.1 :: .int .i64 p.2 :: cellsN ns := rfl
    rw [e]
    cases i with
    | zero => exact ⟨rfl, rfl⟩
    | succ i =>
      have := ih i (by simpa using h)
      rw [show (i + 1) * 2 = i * 2 + 1 + 1 from by omega]
      simpa using this
theorem cellsN_length (ns : List (ByteArray × Int)) : (cellsN ns).length = ns.length * 2 := by
  induction ns with
  | nil => rfl
  | cons p ns ih =>
    have e : cellsN (p :: ns) = .string p.1 :: .int .i64 p.2 :: cellsN ns := rfl
    rw [e]; simp [ih]; omega

theorem names_at {w : World} {base g n cap : Nat} {ns : List (ByteArray × Int)} (h : w.ownsRow base 28 2 (.slice (some ⟨g, 0, none⟩) n cap) n (cellsN ns)) : NamesAt w (some ⟨g, 0, none⟩) ns := by
  have hl := h.1
  rw [cellsN_length] at hl
  have hn : n = ns.length := by omega
  subst hn
  by_cases h0 : ns.length = 0
  · exact Or.inl (List.eq_nil_of_length_eq_zero h0)
  · obtain ⟨g', cap', hv, _, hlt⟩ := h.form (by omega)
    simp only [Value.slice.injEq, Option.some.injEq, Addr.mk.injEq, and_true, true_and] at hv
    obtain ⟨rfl, rfl⟩ := hv
    refine Or.inr ⟨g, 0, rfl, hlt, fun i hi => ?_⟩
    obtain ⟨c1, c2⟩ := cellsN_at ns i hi
    rw [Nat.zero_add, h.cellAt (i * 2) (by omega), h.cellAt (i * 2 + 1) (by omega)]
    exact ⟨c1, c2⟩

/-- What Value comes to behind the loop: there were no terms; it went too far; or x. -/
def Comes (n : Nat) (at_ : Int) (N : List (List UInt8 × Int)) (l : List UInt8) (x : Int) (far : Bool) : Prop :=
  (n = 0 ∧ value at_ N l = (0, 4)) ∨ (n ≠ 0 ∧ far = true ∧ value at_ N l = (0, 7)) ∨ (n ≠ 0 ∧ far = false ∧ value at_ N l = (x, 0))

/-- A text and what it comes to: near, or too far. -/
structure Next (at_ : Int) (N : List (List UInt8 × Int)) (l : List UInt8) (z : Int) : Prop where
  near : -1000000 ≤ z → z ≤ 1000000 → SoFar at_ N l z
  far : z < -1000000 ∨ 1000000 < z → value at_ N l = (0, 7)

theorem next_near {at_ : Int} {N : List (List UInt8 × Int)} {l : List UInt8} {z : Int} (h : SoFar at_ N l z) : Next at_ N l z :=
  ⟨fun _ _ => h, fun hf => by have := h.lo; have := h.hi; omega⟩
theorem next_more {at_ : Int} {N : List (List UInt8 × Int)} {l t : List UInt8} {x y z : Int} (h : SoFar at_ N l x) (ht : TermOf at_ N t y) (c : UInt8) (hc : (c.toNat : Int) = 43 ∨ (c.toNat : Int) = 45 ∨ (c.toNat : Int) = 42) (hz : step x c.toNat y = z) : Next at_ N (l ++ c :: t) z :=
  ⟨fun h1 h2 => h.more ht c hc (by rw [← hz] at h1 h2 ⊢; exact reck_in h1 h2), fun hf => h.far ht c hc (reck_out (by rw [hz]; exact hf))⟩
theorem L_sign (a b : ByteArray) (c : UInt8) : L (a ++ ⟨#[c]⟩ ++ b) = L a ++ c :: L b := by
  rw [L_append, L_append, List.append_assoc]; rfl
theorem pickI_nat (c n : Int) (h : 0 < n) : ∃ m : Nat, pickI c n = m ∧ (m : Int) < n := by
  have := pickI_bd c n h
  exact ⟨(pickI c n).toNat, by omega, by omega⟩
theorem pick_nat (c n : Int) (m : Nat) (w : World) (hc : -9223372036854775808 ≤ c ∧ c ≤ 9223372036854775807) (hn : 0 < n ∧ n ≤ 9223372036854775807) (hm : pickI c n = m) :
    Calls Try.prog 6 #[.int .i64 c, .int .i64 n] w fun e w' => e = .returned (.int .i64 (m : Int)) ∧ w' = w := by
  rw [← hm]; exact pick_any c n w hc hn
theorem digits_len : ∀ (k f n : Nat) (l : List UInt8), 0 < k → n < 10 ^ k → (digitsTo f n l).length ≤ k + l.length := by
  intro k
  induction k with
  | zero => intro f n l h; omega
  | succ k ih =>
    intro f n l _ hn
    cases f with
    | zero => simp [digitsTo]
    | succ f =>
      simp only [digitsTo]
      split
      · simp; omega
      · have hk : 0 < k := by
          rcases Nat.eq_zero_or_pos k with rfl | h
          · simp at hn; omega
          · exact h
        have := ih f (n / 10) ((48 + UInt8.ofNat (n % 10)) :: l) hk (by rw [Nat.pow_succ] at hn; omega)
        simp only [List.length_cons] at this
        omega
theorem NamesAt.cells {w : World} {g : Nat} {ns : List (ByteArray × Int)} (h : NamesAt w (some ⟨g, 0, none⟩) ns) (i : Nat) (hi : i < ns.length) : w.cell? ⟨g, i * 2, none⟩ = some (.string ns[i].1) ∧ w.cell? ⟨g, i * 2 + 1, none⟩ = some (.int .i64 ns[i].2) := by
  rcases h with h | ⟨b, off, ha, _, hc⟩
  · rw [h] at hi; simp at hi
  · simp only [Option.some.injEq, Addr.mk.injEq, and_true] at ha
    obtain ⟨rfl, rfl⟩ := ha
    have := hc i hi
    rw [Nat.zero_add] at this
    exact this
theorem term_of_ns (at_ : Int) {ns : List (ByteArray × Int)} {zs : List Int} {k : Nat} (hp : plainN ns = namesOf zs k) (hk : k ≤ 9) (m : Nat) (hm : m < ns.length) : TermOf at_ (namesOf zs k) (L ns[m].1) ns[m].2 ∧ ns[m].1.size ≤ 5 := by
  have hl : m < (namesOf zs k).length := by rw [← hp, plainN_length]; exact hm
  have e : (namesOf zs k)[m] = (L ns[m].1, ns[m].2) := by
    have h1 : (plainN ns)[m]'(by rw [plainN_length]; exact hm) = (L ns[m].1, ns[m].2) := by simp [plainN]
    simp only [hp] at h1
    exact h1
  have ht := termOf_names at_ zs k hk m hl
  have hg := (names_good zs k hk m hl).2.2.2
  rw [e] at ht hg
  rw [← L_length]
  exact ⟨ht, by simp only at hg; omega⟩

theorem value_first : value 0 (plainN []) (L ⟨#[50, 43, 51, 42, 52]⟩) = (20, 0) := by decide +kernel

set_option maxRecDepth 100000 in
set_option maxHeartbeats 1000000 in
theorem Reckoned_any (al av : Option Addr) (cl cv : Nat) (ts : List (Int × Int × Int)) (at0 : Int) (zs : List Int) (w : World) (hts : TermsAt w al ts) (hzs : IntsAt w av zs) (hlt : ts.length ≤ maxLen) (hlz : zs.length ≤ maxLen) (hat : i64ok at0) :
    Calls Try.prog 3 #[.slice al ts.length cl, .int .i64 at0, .slice av zs.length cv] w fun e w' => e = .returned (.bool true) ∧ Below w.heap.size w w' := by
  have HTS := hid hts
  have HZS := hid hzs
  have HAT := hid hat
  have HLT := hid hlt
  have HLZ := hid hlz
  unfold maxLen at hlt hlz
  clear hts hzs hat
  go_enter Try.func3, Try.ntmps3
  obtain ⟨i0, hi0, hz0, hz1, hz2⟩ := info_parts infoName
  go_upto_block 0 with (first | (go_at_call 4; refine (Value_any ⟨#[50, 43, 51, 42, 52]⟩ 0 none 0 [] _ 20 0 (by decide) (by decide) (Or.inl rfl) value_first).mono ?_; rintro e w1 ⟨rfl, hb1⟩))
  have hw1 := hb1.size
  have HB1 := hid hb1
  clear hb1
  go_cut [9] (fun v wx => ∃ (k : Nat) (ns : List (ByteArray × Int)) (g cap : Nat), k ≤ 9 ∧ ns.length = k + 1 ∧ v = .slice (some ⟨g, 0, none⟩) ns.length cap ∧ plainN ns = namesOf zs k ∧ NamesAt wx (some ⟨g, 0, none⟩) ns ∧ Below w.heap.size w wx)
  case first =>
    go_wp2_with fail
    go_loopw [9, 10] (fun v i wr => ∃ (k : Nat) (ns : List (ByteArray × Int)), k ≤ 9 ∧ k ≤ zs.length ∧ i = .int .i64 k ∧ plainN ns = namesOf zs k ∧ wr.ownsRow w.heap.size 28 2 v (k + 1) (cellsN ns) ∧ Below w.heap.size w wr) (fun _ i _ => zs.length - (intOf i).toNat)
    case atStart => exact ⟨0, [(⟨#[111, 110, 101]⟩, 1)], by omega, by omega, rfl, rfl, owns_start w1 _ hw1, HB1.out.alloc hw1 _⟩
    case round =>
      obtain ⟨k, ns, hk9, hkl, rfl, hpn, hown, hbel⟩ := hrel
      have HPN := hid hpn
      have HOWN := hid hown
      have HBEL := hid hbel
      clear hpn hown hbel
      by_cases hgo : k < zs.length ∧ k < 9
      · obtain ⟨hg1, hg2⟩ := hgo
        rcases HZS.out with h | ⟨b, off, ha, hbl, hc⟩
        · rw [h] at hg1; simp at hg1
        · subst ha
          obtain ⟨hcell, hok⟩ := hc k hg1
          rw [← HBEL.out.cell (p := ⟨b, off + k, none⟩) hbl] at hcell
          have d1 : decide ((k : Int) < zs.length) = true := by simp; omega
          have hi0' : (0 : Int) ≤ (k : Int) := Int.natCast_nonneg _
          have hi1' : (k : Int) < (zs.length : Int) := by omega
          clear hc
          have HOK := hid hok
          go_wp2_with fail
          obtain ⟨g, cap, hv, hgb, hgl⟩ := HOWN.out.form (by omega)
          subst hv
          have hold : Hold w b (off + k) zs[k] (.slice (some ⟨g, 0, none⟩) (k + 1) cap) k ns wr := ⟨hcell, by have := HBEL.out.size; omega, HOWN.out, HBEL.out⟩
          have hwp := wrap_value zs[k]
          go_region_held3 (fun w' => w'.cell? ⟨b, off + k, none⟩ = some (.int .i64 zs[k]))
            (first | (exact hold.cell) | (exact hold.drew.cell) | (have h := hold2; exact h.cell) | (have h := hold2; exact (h.alloc _).cell) | (have h := hfar; exact h))
            (first | (go_at_call 5; refine (number_any k _ (by omega)).mono ?_; rintro e w2 ⟨t, ht, hts2, rfl, hb2⟩; have hold2 := hold.drew.below hb2; have hsz := join_le t k hts2 hk9; have hadd := fun wx => run_string_add_sum (P := Try.prog) wx ⟨#[118]⟩ t hsz) | (go_at_call 6; refine (pick_any _ _ _ HOK.out ⟨by omega, by omega⟩).mono ?_; rintro e w3 ⟨rfl, rfl⟩) | (refine step_append_lies _ (by rfl) _ _ _ (by rfl) w.heap.size 28 i0 _ 2 24 Try.underlying29 hi0 hz0 hz1 hz2 rfl (by omega) (.slice (some ⟨g, 0, none⟩) (k + 1) cap) (k + 1) (cellsN ns) (by rfl) (hold2.alloc _).own ⟨_, 0, none⟩ 1 1 [.string (⟨#[118]⟩ ++ t), .int .i64 (pickI zs[k] 2000001 - 1000000)] (by rfl) (by rfl) (World.news_of_block (cs := #[.string (⟨#[118]⟩ ++ t), .int .i64 (pickI zs[k] 2000001 - 1000000)]) (t := 28) (fr := (0, 0)) (heap_alloc_new _ _)) (by simp [Value.oneCell']) (by omega) (by unfold maxLen; omega) (by omega) (hold2.alloc _).bel.size _ rfl ?_; intro gg cap' w4 hown4 hgrow hat hlt4; have hfar := (hgrow.cell_far ⟨b, off + k, none⟩ (hold2.alloc _).lt (Hold.ne hbl hgb)).trans (hold2.alloc _).cell))
          have hB4 : Below w.heap.size w w4 := (hold2.alloc _).bel.grown hgrow (hold2.alloc _).bel.size (fun j hj => by simp [Value.ownBlock] at hj; omega)
          have HR := hid (And.intro (names_step zs k ns t hg1 hg2 HPN.out ht) (And.intro (by rw [cellsN_snoc]; exact hown4) hB4) : plainN (ns ++ [(⟨#[118]⟩ ++ t, pickI zs[k] 2000001 - 1000000)]) = namesOf zs (k + 1) ∧ w4.ownsRow w.heap.size 28 2 (.slice (some ⟨gg, 0, none⟩) (k + 1 + 1) cap') (k + 1 + 1) (cellsN (ns ++ [(⟨#[118]⟩ ++ t, pickI zs[k] 2000001 - 1000000)])) ∧ Below w.heap.size w w4)
          clear hold hold2 hown4 hgrow hat hfar hcell hadd hB4 ht hwp
          go_wp2
          go_roundw
          case rel => exact ⟨k + 1, _, by omega, by omega, by go_num, HR.out.1, HR.out.2.1, HR.out.2.2⟩
          case measure => simp [intOf]; omega
      · obtain ⟨g, cap, hv, hgb, hgl⟩ := HOWN.out.form (by omega)
        subst hv
        have HNA := hid (names_at HOWN.out)
        have hnl : ns.length = k + 1 := by rw [← plainN_length, HPN.out, namesOf_length]
        have HNL := hid hnl
        clear hnl
        by_cases hg1 : k < zs.length
        · have d1 : decide ((k : Int) < zs.length) = true := by simp; omega
          have d2 : decide ((k : Int) < 9) = false := by simp; omega
          go_wp2
          go_meet
          case rel => exact ⟨k, ns, g, cap, hk9, HNL.out, by rw [HNL.out], HPN.out, HNA.out, HBEL.out⟩
        · have d1 : decide ((k : Int) < zs.length) = false := by simp; omega
          go_wp2
          go_meet
          case rel => exact ⟨k, ns, g, cap, hk9, HNL.out, by rw [HNL.out], HPN.out, HNA.out, HBEL.out⟩
  case rest =>
    obtain ⟨k, ns, g, cap, hk9, hnl, rfl, hpn, hnat, hbel⟩ := hcut
    have HNL := hid hnl
    have HPN := hid hpn
    have HNAT := hid hnat
    have HBEL := hid hbel
    clear hnl hpn hnat hbel hi0 hz0 hz1 hz2 HB1 hw1
    have hat1 := pickI_bd at0 1001 (by omega)
    go_upto_block 2 with (first | (go_at_call 6; refine (pick_any _ _ _ HAT.out ⟨by omega, by omega⟩).mono ?_; rintro e wp ⟨rfl, rfl⟩))
    obtain ⟨at1, hat⟩ : ∃ a, pickI at0 1001 = a := ⟨_, rfl⟩
    rw [hat] at hat1 ⊢
    clear hat HAT
    go_cut [11, 12, 13] (fun s v far wx => ∃ (sB : ByteArray) (x : Int) (fb : Bool), s = .string sB ∧ v = .int .i64 x ∧ far = .bool fb ∧ sB.size ≤ 1000 ∧ Below wp.heap.size wp wx ∧ Comes ts.length at1 (namesOf zs k) (L sB) x fb)
    case first =>
      go_wp2_with fail
      go_loopg [11, 12, 13, 14] 20 (fun q s v far i wr => ∃ (j : Nat) (sB : ByteArray) (x : Int), q + j = 20 ∧ j ≤ ts.length ∧ i = .int .i64 j ∧ s = .string sB ∧ v = .int .i64 x ∧ far = .bool false ∧ sB.size ≤ 6 * j ∧ Below wp.heap.size wp wr ∧ ((j = 0 ∧ sB = ⟨#[]⟩ ∧ x = 0) ∨ (0 < j ∧ SoFar at1 (namesOf zs k) (L sB) x)))
      case atStart => exact ⟨0, ⟨#[]⟩, 0, rfl, Nat.zero_le _, rfl, rfl, rfl, rfl, Nat.zero_le _, Below.refl _ _, Or.inl ⟨rfl, rfl, rfl⟩⟩
      case round =>
        obtain ⟨j, sB, x, hq, hjl, rfl, rfl, rfl, rfl, hsz, hbr, hst⟩ := hrel
        have HST := hid hst
        have HBR := hid hbr
        clear hst hbr
        by_cases hgo : j < ts.length ∧ j < 20
        · obtain ⟨hg1, hg2⟩ := hgo
          rcases HTS.out with h | ⟨tb, toff, hta, htl, htc⟩
          · rw [h] at hg1; simp at hg1
          · subst hta
            obtain ⟨c0, c1, c2, ok0, ok1, ok2⟩ := htc j hg1
            clear htc
            obtain ⟨t0, ht0⟩ : ∃ t, ts[j] = t := ⟨_, rfl⟩
            rw [ht0] at c0 c1 c2 ok0 ok1 ok2
            clear ht0
            obtain ⟨sg0, kd0, n0⟩ := t0
            have hbt := HBEL.out.trans (HBR.out.mono HBEL.out.size)
            simp only at c0 c1 c2 ok0 ok1 ok2
            rw [← hbt.cell (p := ⟨tb, toff + j * 3, none⟩) htl] at c0
            rw [← hbt.cell (p := ⟨tb, toff + j * 3 + 1, none⟩) htl] at c1
            rw [← hbt.cell (p := ⟨tb, toff + j * 3 + 2, none⟩) htl] at c2
            have htl2 : tb < wr.heap.size := by have := hbt.size; omega
            have OK0 := hid ok0
            have OK1 := hid ok1
            have OK2 := hid ok2
            have d1 : decide ((j : Int) < ts.length) = true := by simp; omega
            have d2 : decide ((j : Int) < 20) = true := by simp; omega
            clear ok0 ok1 ok2 hbt
            have hpk := pickI_bd kd0 4 (by omega)
            go_upto_block 4 with (first | (go_at_call 6; refine (pick_any _ _ _ OK1.out ⟨by omega, by omega⟩).mono ?_; rintro e wq ⟨rfl, rfl⟩))
            obtain ⟨kd, hkd⟩ : ∃ a, pickI kd0 4 = a := ⟨_, rfl⟩
            rw [hkd] at hpk ⊢
            clear hkd OK1
            go_cut [15, 16] (fun t n wx => ∃ (tB : ByteArray) (y : Int), t = .string tB ∧ n = .int .i64 y ∧ TermOf at1 (namesOf zs k) (L tB) y ∧ tB.size ≤ 5 ∧ Below wq.heap.size wq wx)
            case first =>
              rcases (show kd = 0 ∨ kd = 1 ∨ kd = 2 ∨ kd = 3 by omega) with rfl | rfl | rfl | rfl
              · obtain ⟨m, hm, hm2⟩ := pickI_nat n0 2000 (by omega)
                have HM := hid hm
                clear hm
                go_wp2_with (first | (go_at_call 6; refine (pick_nat n0 2000 m _ OK2.out ⟨by omega, by omega⟩ HM.out).mono ?_; rintro e wz ⟨rfl, rfl⟩) | (go_at_call 5; refine (number_any m _ (by omega)).mono ?_; rintro e wz ⟨tB, ht, hts, rfl, hbz⟩))
                go_meet
                case rel => exact ⟨tB, m, rfl, rfl, by rw [ht]; exact termOf_number at1 _ m (by omega), by rw [← L_length, ht]; have := digits_len 4 (m + 1) m [] (by omega) (by omega); simpa using Nat.le_succ_of_le this, hbz⟩
              · obtain ⟨m, hm, hm2⟩ := pickI_nat n0 2000 (by omega)
                have HM := hid hm
                clear hm
                go_wp2_with (first | (go_at_call 6; refine (pick_nat n0 2000 m _ OK2.out ⟨by omega, by omega⟩ HM.out).mono ?_; rintro e wz ⟨rfl, rfl⟩) | (go_at_call 5; refine (number_any m _ (by omega)).mono ?_; rintro e wz ⟨tB, ht, hts, rfl, hbz⟩))
                go_meet
                case rel => exact ⟨tB, m, rfl, rfl, by rw [ht]; exact termOf_number at1 _ m (by omega), by rw [← L_length, ht]; have := digits_len 4 (m + 1) m [] (by omega) (by omega); simpa using Nat.le_succ_of_le this, hbz⟩
              · go_wp2
                go_meet
                case rel => exact ⟨⟨#[46]⟩, at1, rfl, rfl, termOf_dot at1 _ (by omega) (by omega), by decide, Below.refl _ _⟩
              · have hnl1 : 0 < ns.length := by have := HNL.out; omega
                have hnl2 : ns.length ≤ 10 := by have := HNL.out; omega
                obtain ⟨m, hm, hm2⟩ := pickI_nat n0 ns.length (by omega)
                have hm3 : m < ns.length := by omega
                have HM := hid hm
                obtain ⟨c3, c4⟩ := (HNAT.out.below HBR.out).cells m hm3
                have HT := hid (term_of_ns at1 HPN.out hk9 m hm3)
                clear hm
                go_wp2_with (first | (go_at_call 6; refine (pick_nat n0 ns.length m _ OK2.out ⟨by omega, by omega⟩ HM.out).mono ?_; rintro e wz ⟨rfl, rfl⟩))
                go_meet
                case rel => exact ⟨ns[m].1, ns[m].2, rfl, rfl, HT.out.1, HT.out.2, Below.refl _ _⟩
            case rest =>
              obtain ⟨tB, y, rfl, rfl, htm, hts5, hb5⟩ := hcut
              have HTM := hid htm
              have HB5 := hid hb5
              have y1 := htm.lo
              have y2 := htm.hi
              rw [← hb5.cell (p := ⟨tb, toff + j * 3, none⟩) htl2] at c0
              clear htm hb5 c1 c2
              have hpk := pickI_bd sg0 3 (by omega)
              go_upto_block 5 with (first | (go_at_call 6; refine (pick_any _ _ _ OK0.out ⟨by omega, by omega⟩).mono ?_; rintro e wq2 ⟨rfl, rfl⟩))
              obtain ⟨sg, hsg⟩ : ∃ a, pickI sg0 3 = a := ⟨_, rfl⟩
              rw [hsg] at hpk ⊢
              clear hsg OK0 OK2 c0
              go_cut [11, 12] (fun s v wx => ∃ (sC : ByteArray) (z : Int), s = .string sC ∧ v = .int .i64 z ∧ sC.size ≤ 6 * (j + 1) ∧ -1000000000000 ≤ z ∧ z ≤ 1000000000000 ∧ wx = wq2 ∧ Next at1 (namesOf zs k) (L sC) z)
              case first =>
                rcases HST.out with ⟨rfl, rfl, rfl⟩ | ⟨hj0, hso⟩
                · by_cases h1 : sg = 1
                  · subst h1
                    go_wp2
                    go_meet
                    case rel => exact ⟨⟨#[45]⟩ ++ tB, -y, rfl, rfl, by rw [ByteArray.size_append]; show 1 + tB.size ≤ 6; omega, by omega, by omega, rfl, by rw [L_push]; exact next_near (SoFar.minus HTM.out)⟩
                  · have k1 : (sg == 1) = false := by rw [beq_eq_false_iff_ne]; exact h1
                    go_wp2
                    go_meet
                    case rel => exact ⟨tB, y, rfl, rfl, by omega, by omega, by omega, rfl, next_near (SoFar.first HTM.out)⟩
                · have HSO := hid hso
                  have x1 := hso.lo
                  have x2 := hso.hi
                  have hml := mul_bd x y x1 x2 y1 y2
                  have k0 : ((j : Int) == 0) = false := by rw [beq_eq_false_iff_ne]; omega
                  clear hso
                  rcases (show sg = 0 ∨ sg = 1 ∨ sg = 2 by omega) with rfl | rfl | rfl
                  · go_wp2
                    go_meet
                    case rel => exact ⟨sB ++ ⟨#[43]⟩ ++ tB, x + y, rfl, rfl, by rw [ByteArray.size_append, ByteArray.size_append]; show sB.size + 1 + tB.size ≤ 6 * (j + 1); omega, by omega, by omega, rfl, by rw [L_sign]; exact next_more HSO.out HTM.out 43 (by decide) rfl⟩
                  · go_wp2
                    go_meet
                    case rel => exact ⟨sB ++ ⟨#[45]⟩ ++ tB, x - y, rfl, rfl, by rw [ByteArray.size_append, ByteArray.size_append]; show sB.size + 1 + tB.size ≤ 6 * (j + 1); omega, by omega, by omega, rfl, by rw [L_sign]; exact next_more HSO.out HTM.out 45 (by decide) rfl⟩
                  · go_wp2
                    go_meet
                    case rel => exact ⟨sB ++ ⟨#[42]⟩ ++ tB, x * y, rfl, rfl, by rw [ByteArray.size_append, ByteArray.size_append]; show sB.size + 1 + tB.size ≤ 6 * (j + 1); omega, hml.1, hml.2, rfl, by rw [L_sign]; exact next_more HSO.out HTM.out 42 (by decide) rfl⟩
              case rest =>
                obtain ⟨sC, z, rfl, rfl, hsC, z1, z2, rfl, hnx⟩ := hcut
                have HNX := hid hnx
                have HBW := hid (HBR.out.trans (HB5.out.mono HBR.out.size))
                clear hnx HBR HB5 HST
                by_cases hlo : z < -1000000
                · have e1 : decide (z < -1000000) = true := by simpa using hlo
                  go_wp2
                  go_meet
                  case rel => exact ⟨sC, z, true, rfl, rfl, rfl, by omega, HBW.out, Or.inr (Or.inl ⟨by omega, rfl, HNX.out.far (Or.inl hlo)⟩)⟩
                · have e1 : decide (z < -1000000) = false := by simpa using hlo
                  by_cases hhi : 1000000 < z
                  · have e2 : decide (1000000 < z) = true := by simpa using hhi
                    go_wp2
                    go_meet
                    case rel => exact ⟨sC, z, true, rfl, rfl, rfl, by omega, HBW.out, Or.inr (Or.inl ⟨by omega, rfl, HNX.out.far (Or.inr hhi)⟩)⟩
                  · have e2 : decide (1000000 < z) = false := by simpa using hhi
                    go_wp2
                    go_roundg (gk - 1)
                    case measure => omega
                    case rel => exact ⟨j + 1, sC, z, by omega, by omega, by go_num, rfl, rfl, rfl, by omega, HBW.out, Or.inr ⟨by omega, HNX.out.near (by omega) (by omega)⟩⟩
        · have HOUT := hid (show Comes ts.length at1 (namesOf zs k) (L sB) x false from by
            rcases HST.out with ⟨h1, h2, h3⟩ | ⟨h1, h2⟩
            · subst h2
              exact Or.inl ⟨by omega, rfl⟩
            · exact Or.inr (Or.inr ⟨by omega, rfl, h2.done⟩))
          clear HST
          by_cases hg1 : j < ts.length
          · have d1 : decide ((j : Int) < ts.length) = true := by simp; omega
            have d2 : decide ((j : Int) < 20) = false := by simp; omega
            go_wp2
            go_meet
            case rel => exact ⟨sB, x, false, rfl, rfl, rfl, by omega, HBR.out, HOUT.out⟩
          · have d1 : decide ((j : Int) < ts.length) = false := by simp; omega
            go_wp2
            go_meet
            case rel => exact ⟨sB, x, false, rfl, rfl, rfl, by omega, HBR.out, HOUT.out⟩
    case rest =>
      obtain ⟨sB, x, fb, rfl, rfl, rfl, hsz, hbx, hres⟩ := hcut
      have HBX := hid hbx
      have hlm : sB.size ≤ maxLen := by unfold maxLen; omega
      have hnm : ns.length ≤ maxLen := by have := HNL.out; unfold maxLen; omega
      clear hbx
      rcases hres with ⟨h1, h2⟩ | ⟨h1, rfl, h2⟩ | ⟨h1, rfl, h2⟩
      · have HV := hid (show value at1 (plainN ns) (L sB) = (0, 4) by rw [HPN.out]; exact h2)
        have d1 : ((ts.length : Int) == 0) = true := by rw [beq_iff_eq]; omega
        clear h2
        go_wp2_with (first | (go_at_call 4; refine (Value_any sB at1 _ cap ns _ 0 4 hlm hnm (HNAT.out.below HBX.out) HV.out).mono ?_; rintro e wv ⟨rfl, hbv⟩))
        go_ret
        exact ⟨rfl, HBEL.out.trans ((HBX.out.trans (hbv.mono HBX.out.size)).mono HBEL.out.size)⟩
      · have HV := hid (show value at1 (plainN ns) (L sB) = (0, 7) by rw [HPN.out]; exact h2)
        have d1 : ((ts.length : Int) == 0) = false := by rw [beq_eq_false_iff_ne]; omega
        clear h2
        go_wp2_with (first | (go_at_call 4; refine (Value_any sB at1 _ cap ns _ 0 7 hlm hnm (HNAT.out.below HBX.out) HV.out).mono ?_; rintro e wv ⟨rfl, hbv⟩))
        go_ret
        exact ⟨rfl, HBEL.out.trans ((HBX.out.trans (hbv.mono HBX.out.size)).mono HBEL.out.size)⟩
      · have HV := hid (show value at1 (plainN ns) (L sB) = (x, 0) by rw [HPN.out]; exact h2)
        have d1 : ((ts.length : Int) == 0) = false := by rw [beq_eq_false_iff_ne]; omega
        clear h2
        go_wp2_with (first | (go_at_call 4; refine (Value_any sB at1 _ cap ns _ x 0 hlm hnm (HNAT.out.below HBX.out) HV.out).mono ?_; rintro e wv ⟨rfl, hbv⟩))
        go_ret
        exact ⟨rfl, HBEL.out.trans ((HBX.out.trans (hbv.mono HBX.out.size)).mono HBEL.out.size)⟩

end Go.Proofs.Ytcepppilgncdmaa
