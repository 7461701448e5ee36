/-
  What Unrolled answers: true, whatever numbers it is given.
-/
import Derived.Test.YtcepppilgncdmaaDoorUnReg
namespace Go.Proofs.YtcepppilgncdmaaDoor
open Go.RowKit
attribute [local go_sem ↓] Go.wp_at_zero Go.wp_at_succ

/-- Lists of three numbers, of two numbers, lie in the world. -/
def TripsAt (w : World) (a : Option Addr) (ts : List (Int × Int × Int)) : Prop :=
  ts = [] ∨ ∃ b off, a = some ⟨b, off, none⟩ ∧ b < w.heap.size ∧ ∀ i (h : i < ts.length), w.cell? ⟨b, off + i * 3, none⟩ = some (.int .i64 ts[i].1) ∧ w.cell? ⟨b, off + i * 3 + 1, none⟩ = some (.int .i64 ts[i].2.1) ∧ w.cell? ⟨b, off + i * 3 + 2, none⟩ = some (.int .i64 ts[i].2.2) ∧ i64ok ts[i].1 ∧ i64ok ts[i].2.1 ∧ i64ok ts[i].2.2
def PairsAt (w : World) (a : Option Addr) (cs : List (Int × Int)) : Prop :=
  cs = [] ∨ ∃ b off, a = some ⟨b, off, none⟩ ∧ b < w.heap.size ∧ ∀ i (h : i < cs.length), w.cell? ⟨b, off + i * 2, none⟩ = some (.int .i64 cs[i].1) ∧ w.cell? ⟨b, off + i * 2 + 1, none⟩ = some (.int .i64 cs[i].2) ∧ i64ok cs[i].1 ∧ i64ok cs[i].2

def bodyOf (t : Int × Int × Int) : Nat × Nat × Nat := ((pickI t.1 3).toNat, (pickI t.2.1 2).toNat, (pickI t.2.2 2).toNat)
def bodiesOf (ts : List (Int × Int × Int)) : List (Nat × Nat × Nat) := (ts.take 8).map bodyOf
theorem bodies_len (ts : List (Int × Int × Int)) : (bodiesOf ts).length = min ts.length 8 := by simp [bodiesOf]; omega
theorem bodies_ok (ts : List (Int × Int × Int)) : ∀ b ∈ bodiesOf ts, bodyOk b := by
  intro b hb
  obtain ⟨t, _, rfl⟩ := List.mem_map.1 hb
  have h1 := pickI_bd t.1 3 (by omega)
  have h2 := pickI_bd t.2.1 2 (by omega)
  have h3 := pickI_bd t.2.2 2 (by omega)
  unfold bodyOf bodyOk
  simp only
  omega
theorem bodies_at (ts : List (Int × Int × Int)) (j : Nat) (h : j < (bodiesOf ts).length) (hj : j < ts.length) : (bodiesOf ts)[j] = bodyOf ts[j] := by simp [bodiesOf]

/-- The table of operations, in memory. -/
def opsC : List Value := [.string ⟨#[109, 111, 118]⟩, .string ⟨#[97, 100, 100]⟩, .string ⟨#[115, 117, 98]⟩]
def opBA (k : Nat) : ByteArray := if k = 0 then ⟨#[109, 111, 118]⟩ else if k = 1 then ⟨#[97, 100, 100]⟩ else ⟨#[115, 117, 98]⟩
theorem L_opBA (k : Nat) : L (opBA k) = opB k := by
  unfold opBA opB
  by_cases h0 : k = 0
  · rw [if_pos h0, if_pos h0]; rfl
  · rw [if_neg h0, if_neg h0]
    by_cases h1 : k = 1
    · rw [if_pos h1, if_pos h1]; rfl
    · rw [if_neg h1, if_neg h1]; rfl
theorem opBA_size (k : Nat) : (opBA k).size = 3 := by
  rw [← L_length, L_opBA]
  unfold opB
  by_cases h0 : k = 0
  · rw [if_pos h0]; rfl
  · rw [if_neg h0]
    by_cases h1 : k = 1
    · rw [if_pos h1]; rfl
    · rw [if_neg h1]; rfl
theorem ops_cell {w : World} {g : Nat} (h : RowT w 9 g opsC) (k : Nat) (hk : k < 3) : w.cell? ⟨g, k, none⟩ = some (.string (opBA k)) := by
  rw [h.cell k hk]
  match k, hk with
  | 0, _ => rfl
  | 1, _ => rfl
  | 2, _ => rfl
theorem L_sel (k : Nat) (hk : k < 2) : L (selBA k ⟨#[97]⟩ ⟨#[97, 98]⟩) = parB k := by
  match k, hk with
  | 0, _ => rfl
  | 1, _ => rfl
theorem sel_size (k : Nat) : (selBA k ⟨#[97]⟩ ⟨#[97, 98]⟩).size ≤ 2 := by unfold selBA; split <;> decide

theorem UnHead.more {sB : ByteArray} {bs : List (Nat × Nat × Nat)} (h : UnHead sB bs) (y0 y1 y2 : Nat) (h1 : y1 < 2) (h2 : y2 < 2) : UnHead (sB ++ opBA y0 ++ ⟨#[32, 92]⟩ ++ selBA y1 ⟨#[97]⟩ ⟨#[97, 98]⟩ ++ ⟨#[44, 32, 92]⟩ ++ selBA y2 ⟨#[97]⟩ ⟨#[97, 98]⟩ ++ ⟨#[32, 59, 32, 92, 110, 111, 10]⟩) (bs ++ [(y0, y1, y2)]) := by
  unfold UnHead at *
  simp only [L_append, L_opBA, L_sel y1 h1, L_sel y2 h2, h]
  rw [List.map_append, ← List.cons_append, textL_append, List.map_singleton, textL_one]
  simp only [bodyLn, List.append_assoc]
  rfl

theorem infoStr : (Tryd.prog.info? 9).map (fun i => (i.zero, i.size, i.bytes)) = some (some (.string ⟨#[]⟩), 1, 16) := by kernel_rfl

/-- The lines that are wanted, and the table of operations, in memory. -/
structure UnW (w : World) (go : Nat) (wr : World) (v : Value) (wants : List ByteArray) : Prop where
  own : wr.ownsRow w.heap.size 9 1 v wants.length (wants.map Value.string)
  ops : RowT wr 9 go opsC
  ne : v.ownBlock ≠ some go
  bel : Below w.heap.size w wr
theorem UnW.below {w : World} {go : Nat} {wr wx : World} {v : Value} {wants : List ByteArray} (h : UnW w go wr v wants) (hb : Below wr.heap.size wr wx) : UnW w go wx v wants :=
  ⟨ownsRow_belowP h.own hb, h.ops.below hb, h.ne, h.bel.trans (hb.mono h.bel.size)⟩
/-- Behind the loop of calls. -/
def UnOut (w : World) (bs : List (Nat × Nat × Nat)) (go : Nat) (wx : World) (s v : Value) (cs : List (Int × Int)) : Prop :=
  ∃ (sB : ByteArray) (ls : List (List UInt8)) (wants : List ByteArray) (k : Nat), k ≤ 10 ∧ k ≤ cs.length ∧ s = .string sB ∧ UnW w go wx v wants ∧ UnAll bs sB ls wants k

set_option maxRecDepth 100000 in
set_option maxHeartbeats 16000000 in
theorem Unrolled_any (ab ac : Option Addr) (cb cc : Nat) (ts : List (Int × Int × Int)) (cs : List (Int × Int)) (w : World) (hts : TripsAt w ab ts) (hcs : PairsAt w ac cs) (hlt : ts.length ≤ maxLen) (hlc : cs.length ≤ maxLen) (hm : MaxAt w) :
    Calls Tryd.prog 3 #[.slice ab ts.length cb, .slice ac cs.length cc] w fun e w' => e = .returned (.bool true) ∧ Below w.heap.size w w' := by
  have HTS := hid hts
  have HCS := hid hcs
  have HM := hid hm
  unfold maxLen at hlt hlc
  clear hts hcs hm
  go_enter Tryd.func3, Tryd.ntmps3
  go_upto_block 0 with (first | (go_at_call 5; refine (works_any _ HM.out).mono ?_; rintro e w1 ⟨rfl, hb⟩))
  have hw1 := hb.size
  have HB1 := hid hb
  clear hb
  obtain ⟨n, hn⟩ : ∃ n, min ts.length 8 = n := ⟨_, rfl⟩
  have hmin : min (ts.length : Int) 8 = (n : Int) := by omega
  rw [hmin]
  have HN := hid hn
  have hn8 : n ≤ 8 := by omega
  have hnt : n ≤ ts.length := by omega
  clear hn hmin
  have HROW := hid (RowT.new w1 9 opsC)
  have HB2 := hid (show Below w.heap.size w (w1.alloc (.cells #[.string ⟨#[109, 111, 118]⟩, .string ⟨#[97, 100, 100]⟩, .string ⟨#[115, 117, 98]⟩] 9)) from HB1.out.alloc hw1 _)
  have HROW := hid (show RowT (w1.alloc (.cells #[.string ⟨#[109, 111, 118]⟩, .string ⟨#[97, 100, 100]⟩, .string ⟨#[115, 117, 98]⟩] 9)) 9 w1.heap.size opsC from HROW.out)
  generalize w1.alloc (.cells #[.string ⟨#[109, 111, 118]⟩, .string ⟨#[97, 100, 100]⟩, .string ⟨#[115, 117, 98]⟩] 9) = w2 at HB2 HROW ⊢
  generalize w1.heap.size = go at hw1 HROW ⊢
  go_cut [6] (fun s wx => ∃ sB : ByteArray, s = .string sB ∧ UnHead sB (bodiesOf ts) ∧ sB.size ≤ 300 ∧ Below w2.heap.size w2 wx)
  case first =>
    go_wp2_with fail
    go_loopw [6, 10] (fun s i wr => ∃ (sB : ByteArray) (j : Nat), j ≤ n ∧ s = .string sB ∧ i = .int .i64 (j : Nat) ∧ sB.size ≤ 16 + 20 * j ∧ UnHead sB ((bodiesOf ts).take j) ∧ Below w2.heap.size w2 wr) (fun _ i _ => n - (intOf i).toNat)
    case atStart => exact ⟨⟨#[46, 109, 97, 99, 114, 111, 32, 111, 110, 101, 44, 97, 44, 97, 98, 10]⟩, 0, Nat.zero_le _, rfl, rfl, by decide, by unfold UnHead; rw [List.take_zero]; rfl, Below.refl _ _⟩
    case round =>
      obtain ⟨sB, j, hjn, rfl, rfl, hsz, hh, hbr⟩ := hrel
      have HH := hid hh
      have HBR := hid hbr
      clear hh hbr
      by_cases hj : j < n
      · have hjt : j < ts.length := by omega
        rcases HTS.out with h | ⟨b, off, ha, hbl, hc⟩
        · rw [h] at hjt; simp at hjt
        · subst ha
          obtain ⟨c0, c1, c2, ok0, ok1, ok2⟩ := hc j hjt
          clear hc
          have hbt : Below w.heap.size w wr := HB2.out.trans (HBR.out.mono HB2.out.size)
          rw [← hbt.cell (p := ⟨b, off + j * 3, none⟩) hbl] at c0
          rw [← hbt.cell (p := ⟨b, off + j * 3 + 1, none⟩) hbl] at c1
          rw [← hbt.cell (p := ⟨b, off + j * 3 + 2, none⟩) hbl] at c2
          have hbl2 : b < wr.heap.size := Nat.lt_of_lt_of_le hbl hbt.size
          have hbo : (bodiesOf ts)[j]? = some (bodyOf ts[j]) := by
            rw [List.getElem?_eq_getElem (by rw [bodies_len, HN.out]; exact hj), bodies_at ts j _ hjt]
          have HBO := hid hbo
          obtain ⟨tt, htt⟩ : ∃ t, ts[j] = t := ⟨_, rfl⟩
          rw [htt] at c0 c1 c2 ok0 ok1 ok2 HBO
          clear htt hbo hbt
          obtain ⟨z0, z1, z2⟩ := tt
          simp only at c0 c1 c2 ok0 ok1 ok2
          have OK0 := hid ok0
          have OK1 := hid ok1
          have OK2 := hid ok2
          obtain ⟨y0, hy0, hy0'⟩ := pickI_nat z0 3 (by omega)
          obtain ⟨y1, hy1, hy1'⟩ := pickI_nat z1 2 (by omega)
          obtain ⟨y2, hy2, hy2'⟩ := pickI_nat z2 2 (by omega)
          have HY0 := hid hy0
          have HY1 := hid hy1
          have HY2 := hid hy2
          have co := ops_cell (HROW.out.below HBR.out) y0 (by omega)
          have i1 : (0 : Int) ≤ (j : Int) := Int.natCast_nonneg _
          have i2 : (j : Int) < (ts.length : Int) := by omega
          have dn : decide ((j : Int) < n) = true := by simp; omega
          have HOB := hid (opBA_size y0)
          obtain ⟨oB, hoB⟩ : ∃ o, opBA y0 = o := ⟨_, rfl⟩
          rw [hoB] at co HOB
          have HOE := hid hoB
          clear ok0 ok1 ok2 hy0 hy1 hy2 hoB
          have y0n : (0 : Int) ≤ (y0 : Int) := Int.natCast_nonneg _
          have y1n : (0 : Int) ≤ (y1 : Int) := Int.natCast_nonneg _
          have y2n : (0 : Int) ≤ (y2 : Int) := Int.natCast_nonneg _
          go_upto_region 12 with (first | (go_at_call 6; refine (pick_nat z0 3 y0 _ OK0.out ⟨by omega, by omega⟩ HY0.out).mono ?_; rintro e wz ⟨rfl, rfl⟩))
          obtain ⟨p1, hp1⟩ : ∃ p, selBA y1 ⟨#[97]⟩ ⟨#[97, 98]⟩ = p := ⟨_, rfl⟩
          obtain ⟨p2, hp2⟩ : ∃ p, selBA y2 ⟨#[97]⟩ ⟨#[97, 98]⟩ = p := ⟨_, rfl⟩
          have CELL1 := hid (show ∀ (w : World) (g : Nat), (∀ i (h : i < [Value.string ⟨#[97]⟩, Value.string ⟨#[97, 98]⟩].length), w.cell? ⟨g, i, none⟩ = some [Value.string ⟨#[97]⟩, Value.string ⟨#[97, 98]⟩][i]) → w.cell? ⟨g, y1, none⟩ = some (.string p1) from fun w g h => by rw [← hp1]; exact row_sel h (by omega))
          have CELL2 := hid (show ∀ (w : World) (g : Nat), (∀ i (h : i < [Value.string ⟨#[97]⟩, Value.string ⟨#[97, 98]⟩].length), w.cell? ⟨g, i, none⟩ = some [Value.string ⟨#[97]⟩, Value.string ⟨#[97, 98]⟩][i]) → w.cell? ⟨g, y2, none⟩ = some (.string p2) from fun w g h => by rw [← hp2]; exact row_sel h (by omega))
          have hp1s : p1.size ≤ 2 := by rw [← hp1]; exact sel_size y1
          have hp2s : p2.size ≤ 2 := by rw [← hp2]; exact sel_size y2
          have HP1 := hid hp1
          have HP2 := hid hp2
          clear hp1 hp2
          have hos : oB.size = 3 := HOB.out
          have e1 : (⟨#[32, 92]⟩ : ByteArray).size = 2 := rfl
          have e2 : (⟨#[44, 32, 92]⟩ : ByteArray).size = 3 := rfl
          have e3 : (⟨#[32, 59, 32, 92, 110, 111, 10]⟩ : ByteArray).size = 7 := rfl
          refine wp_region_inv 27 (R := fun d v w => SlotP.holds v w (match d with | 6 => .val (.string (sB ++ oB ++ (⟨#[32, 92]⟩ : ByteArray) ++ p1 ++ (⟨#[44, 32, 92]⟩ : ByteArray) ++ p2 ++ (⟨#[32, 59, 32, 92, 110, 111, 10]⟩ : ByteArray))) | 47 => .val (.string (sB)) | 48 => .val (.string (oB)) | 49 => .val (.string (sB ++ oB)) | 50 => .val (.string (sB ++ oB ++ (⟨#[32, 92]⟩ : ByteArray))) | 51 => .row [.string ⟨#[97]⟩, .string ⟨#[97, 98]⟩] | 52 => .val (.slice (some ⟨b, off, none⟩) ts.length cb) | 53 => .val (.int .i64 (j : Int)) | 54 => .val (.pointer (some ⟨b, off + j * 3, none⟩)) | 55 => .val (.pointer (some ⟨b, off + j * 3 + 1, none⟩)) | 56 => .val (.int .i64 z1) | 57 => .val (.int .i64 (y1 : Int)) | 58 => .spot y1 (.string p1) | 59 => .val (.string (p1)) | 60 => .val (.string (sB ++ oB ++ (⟨#[32, 92]⟩ : ByteArray) ++ p1)) | 61 => .val (.string (sB ++ oB ++ (⟨#[32, 92]⟩ : ByteArray) ++ p1 ++ (⟨#[44, 32, 92]⟩ : ByteArray))) | 62 => .row [.string ⟨#[97]⟩, .string ⟨#[97, 98]⟩] | 63 => .val (.slice (some ⟨b, off, none⟩) ts.length cb) | 64 => .val (.int .i64 (j : Int)) | 65 => .val (.pointer (some ⟨b, off + j * 3, none⟩)) | 66 => .val (.pointer (some ⟨b, off + j * 3 + 2, none⟩)) | 67 => .val (.int .i64 z2) | 68 => .val (.int .i64 (y2 : Int)) | 69 => .spot y2 (.string p2) | 70 => .val (.string (p2)) | 71 => .val (.string (sB ++ oB ++ (⟨#[32, 92]⟩ : ByteArray) ++ p1 ++ (⟨#[44, 32, 92]⟩ : ByteArray) ++ p2)) | 72 => .val (.string (sB ++ oB ++ (⟨#[32, 92]⟩ : ByteArray) ++ p1 ++ (⟨#[44, 32, 92]⟩ : ByteArray) ++ p2 ++ (⟨#[32, 59, 32, 92, 110, 111, 10]⟩ : ByteArray))) | _ => .val undef)) (W := fun wx => Below wz.heap.size wz wx) (by kernel_rfl) (by kernel_rfl) (by decide) (by kernel_rfl) (fun d v w w' hb h => SlotP.mono hb h) (Below.refl _ _).drew (StepsOk.all ⟨?_, ?_, ?_, ?_, ?_, ?_, ?_, ?_, ?_, ?_, ?_, ?_, ?_, ?_, ?_, ?_, ?_, ?_, ?_, ?_, ?_, ?_, ?_, ?_, ?_, ?_, ?_, trivial⟩) ?_
          · intro a w hW hp hf
            have hW : Below wz.heap.size wz w := hW
            have h6 : a.tmps[6]?.getD undef = .string sB := hf 6 (by kernel_rfl)
            exact step_val rfl (run_move rfl h6) (Below.refl _ _) hW rfl
          · intro a w hW hp hf
            have hW : Below wz.heap.size wz w := hW
            have h11 : a.tmps[11]?.getD undef = .string oB := hf 11 (by kernel_rfl)
            exact step_val rfl (run_move rfl h11) (Below.refl _ _) hW rfl
          · intro a w hW hp hf
            have hW : Below wz.heap.size wz w := hW
            have h47 : a.tmps[47]?.getD undef = .string (sB) := hp 47 (by kernel_rfl)
            have h48 : a.tmps[48]?.getD undef = .string (oB) := hp 48 (by kernel_rfl)
            exact step_val rfl (run_add rfl h47 h48 (by first | omega | (simp only [ByteArray.size_append]; omega))) (Below.refl _ _) hW rfl
          · intro a w hW hp hf
            have hW : Below wz.heap.size wz w := hW
            have h49 : a.tmps[49]?.getD undef = .string (sB ++ oB) := hp 49 (by kernel_rfl)
            exact step_val rfl (run_addc (t := ⟨#[32, 92]⟩) rfl h49 (by first | omega | (simp only [ByteArray.size_append]; omega))) (Below.refl _ _) hW rfl
          · intro a w hW hp hf
            have hW : Below wz.heap.size wz w := hW
            exact step_val rfl (run_build2c rfl) ((Below.refl _ _).alloc (Nat.le_refl _) _) (hW.alloc hW.size _) ⟨w.heap.size, rfl, by simp, row_new w 9 [.string ⟨#[97]⟩, .string ⟨#[97, 98]⟩]⟩
          · intro a w hW hp hf
            have hW : Below wz.heap.size wz w := hW
            have h0 : a.tmps[0]?.getD undef = .slice (some ⟨b, off, none⟩) ts.length cb := hf 0 (by kernel_rfl)
            exact step_val rfl (run_move rfl h0) (Below.refl _ _) hW rfl
          · intro a w hW hp hf
            have hW : Below wz.heap.size wz w := hW
            have h10 : a.tmps[10]?.getD undef = .int .i64 (j : Int) := hf 10 (by kernel_rfl)
            exact step_val rfl (run_move rfl h10) (Below.refl _ _) hW rfl
          · intro a w hW hp hf
            have hW : Below wz.heap.size wz w := hW
            have h52 : a.tmps[52]?.getD undef = .slice (some ⟨b, off, none⟩) ts.length cb := hp 52 (by kernel_rfl)
            have h53 : a.tmps[53]?.getD undef = .int .i64 (j : Int) := hp 53 (by kernel_rfl)
            exact step_val rfl (run_index3 rfl h52 h53 (by omega)) (Below.refl _ _) hW rfl
          · intro a w hW hp hf
            have hW : Below wz.heap.size wz w := hW
            have h54 : a.tmps[54]?.getD undef = .pointer (some ⟨b, off + j * 3, none⟩) := hp 54 (by kernel_rfl)
            exact step_val rfl (run_spot1 rfl h54) (Below.refl _ _) hW rfl
          · intro a w hW hp hf
            have hW : Below wz.heap.size wz w := hW
            have h55 : a.tmps[55]?.getD undef = .pointer (some ⟨b, off + j * 3 + 1, none⟩) := hp 55 (by kernel_rfl)
            have hc := (hW.cell (p := ⟨b, off + j * 3 + 1, none⟩) hbl2).trans c1
            exact step_val rfl (run_loadI rfl h55 hc) (Below.refl _ _) hW rfl
          · intro a w hW hp hf
            have hW : Below wz.heap.size wz w := hW
            have h56 : a.tmps[56]?.getD undef = .int .i64 z1 := hp 56 (by kernel_rfl)
            refine step_call rfl (run_pick rfl h56) ?_
            refine (pick_nat z1 2 y1 w OK1.out ⟨by omega, by omega⟩ HY1.out).mono ?_
            rintro e w' ⟨rfl, rfl⟩
            exact ⟨_, rfl, Below.refl _ _, hW, rfl⟩
          · intro a w hW hp hf
            have hW : Below wz.heap.size wz w := hW
            obtain ⟨g, h51, hg, hc⟩ := (hp 51 (by kernel_rfl) : SlotP.holds (a.tmps[51]?.getD undef) w (.row [.string ⟨#[97]⟩, .string ⟨#[97, 98]⟩]))
            have h57 : a.tmps[57]?.getD undef = .int .i64 (y1 : Int) := hp 57 (by kernel_rfl)
            exact step_val rfl (run_indexS rfl h51 h57 (show y1 < 2 by omega)) (Below.refl _ _) hW ⟨g, rfl, hg, CELL1.out w g hc⟩
          · intro a w hW hp hf
            have hW : Below wz.heap.size wz w := hW
            obtain ⟨g, h58, hg, hc⟩ := (hp 58 (by kernel_rfl) : SlotP.holds (a.tmps[58]?.getD undef) w (.spot y1 (.string p1)))
            exact step_val rfl (run_loadS rfl h58 hc) (Below.refl _ _) hW rfl
          · intro a w hW hp hf
            have hW : Below wz.heap.size wz w := hW
            have h50 : a.tmps[50]?.getD undef = .string (sB ++ oB ++ (⟨#[32, 92]⟩ : ByteArray)) := hp 50 (by kernel_rfl)
            have h59 : a.tmps[59]?.getD undef = .string (p1) := hp 59 (by kernel_rfl)
            exact step_val rfl (run_add rfl h50 h59 (by first | omega | (simp only [ByteArray.size_append]; omega))) (Below.refl _ _) hW rfl
          · intro a w hW hp hf
            have hW : Below wz.heap.size wz w := hW
            have h60 : a.tmps[60]?.getD undef = .string (sB ++ oB ++ (⟨#[32, 92]⟩ : ByteArray) ++ p1) := hp 60 (by kernel_rfl)
            exact step_val rfl (run_addc (t := ⟨#[44, 32, 92]⟩) rfl h60 (by first | omega | (simp only [ByteArray.size_append]; omega))) (Below.refl _ _) hW rfl
          · intro a w hW hp hf
            have hW : Below wz.heap.size wz w := hW
            exact step_val rfl (run_build2c rfl) ((Below.refl _ _).alloc (Nat.le_refl _) _) (hW.alloc hW.size _) ⟨w.heap.size, rfl, by simp, row_new w 9 [.string ⟨#[97]⟩, .string ⟨#[97, 98]⟩]⟩
          · intro a w hW hp hf
            have hW : Below wz.heap.size wz w := hW
            have h0 : a.tmps[0]?.getD undef = .slice (some ⟨b, off, none⟩) ts.length cb := hf 0 (by kernel_rfl)
            exact step_val rfl (run_move rfl h0) (Below.refl _ _) hW rfl
          · intro a w hW hp hf
            have hW : Below wz.heap.size wz w := hW
            have h10 : a.tmps[10]?.getD undef = .int .i64 (j : Int) := hf 10 (by kernel_rfl)
            exact step_val rfl (run_move rfl h10) (Below.refl _ _) hW rfl
          · intro a w hW hp hf
            have hW : Below wz.heap.size wz w := hW
            have h63 : a.tmps[63]?.getD undef = .slice (some ⟨b, off, none⟩) ts.length cb := hp 63 (by kernel_rfl)
            have h64 : a.tmps[64]?.getD undef = .int .i64 (j : Int) := hp 64 (by kernel_rfl)
            exact step_val rfl (run_index3 rfl h63 h64 (by omega)) (Below.refl _ _) hW rfl
          · intro a w hW hp hf
            have hW : Below wz.heap.size wz w := hW
            have h65 : a.tmps[65]?.getD undef = .pointer (some ⟨b, off + j * 3, none⟩) := hp 65 (by kernel_rfl)
            exact step_val rfl (run_spot2 rfl h65) (Below.refl _ _) hW rfl
          · intro a w hW hp hf
            have hW : Below wz.heap.size wz w := hW
            have h66 : a.tmps[66]?.getD undef = .pointer (some ⟨b, off + j * 3 + 2, none⟩) := hp 66 (by kernel_rfl)
            have hc := (hW.cell (p := ⟨b, off + j * 3 + 2, none⟩) hbl2).trans c2
            exact step_val rfl (run_loadI rfl h66 hc) (Below.refl _ _) hW rfl
          · intro a w hW hp hf
            have hW : Below wz.heap.size wz w := hW
            have h67 : a.tmps[67]?.getD undef = .int .i64 z2 := hp 67 (by kernel_rfl)
            refine step_call rfl (run_pick rfl h67) ?_
            refine (pick_nat z2 2 y2 w OK2.out ⟨by omega, by omega⟩ HY2.out).mono ?_
            rintro e w' ⟨rfl, rfl⟩
            exact ⟨_, rfl, Below.refl _ _, hW, rfl⟩
          · intro a w hW hp hf
            have hW : Below wz.heap.size wz w := hW
            obtain ⟨g, h62, hg, hc⟩ := (hp 62 (by kernel_rfl) : SlotP.holds (a.tmps[62]?.getD undef) w (.row [.string ⟨#[97]⟩, .string ⟨#[97, 98]⟩]))
            have h68 : a.tmps[68]?.getD undef = .int .i64 (y2 : Int) := hp 68 (by kernel_rfl)
            exact step_val rfl (run_indexS rfl h62 h68 (show y2 < 2 by omega)) (Below.refl _ _) hW ⟨g, rfl, hg, CELL2.out w g hc⟩
          · intro a w hW hp hf
            have hW : Below wz.heap.size wz w := hW
            obtain ⟨g, h69, hg, hc⟩ := (hp 69 (by kernel_rfl) : SlotP.holds (a.tmps[69]?.getD undef) w (.spot y2 (.string p2)))
            exact step_val rfl (run_loadS rfl h69 hc) (Below.refl _ _) hW rfl
          · intro a w hW hp hf
            have hW : Below wz.heap.size wz w := hW
            have h61 : a.tmps[61]?.getD undef = .string (sB ++ oB ++ (⟨#[32, 92]⟩ : ByteArray) ++ p1 ++ (⟨#[44, 32, 92]⟩ : ByteArray)) := hp 61 (by kernel_rfl)
            have h70 : a.tmps[70]?.getD undef = .string (p2) := hp 70 (by kernel_rfl)
            exact step_val rfl (run_add rfl h61 h70 (by first | omega | (simp only [ByteArray.size_append]; omega))) (Below.refl _ _) hW rfl
          · intro a w hW hp hf
            have hW : Below wz.heap.size wz w := hW
            have h71 : a.tmps[71]?.getD undef = .string (sB ++ oB ++ (⟨#[32, 92]⟩ : ByteArray) ++ p1 ++ (⟨#[44, 32, 92]⟩ : ByteArray) ++ p2) := hp 71 (by kernel_rfl)
            exact step_val rfl (run_addc (t := ⟨#[32, 59, 32, 92, 110, 111, 10]⟩) rfl h71 (by first | omega | (simp only [ByteArray.size_append]; omega))) (Below.refl _ _) hW rfl
          · intro a w hW hp hf
            have hW : Below wz.heap.size wz w := hW
            have h72 : a.tmps[72]?.getD undef = .string (sB ++ oB ++ (⟨#[32, 92]⟩ : ByteArray) ++ p1 ++ (⟨#[44, 32, 92]⟩ : ByteArray) ++ p2 ++ (⟨#[32, 59, 32, 92, 110, 111, 10]⟩ : ByteArray)) := hp 72 (by kernel_rfl)
            exact step_val rfl (run_assign rfl h72) (Below.refl _ _) hW rfl
          · intro fuel f A wx _ hW hR hf hA
            have h6 : f 6 = _ := hR 26 _ 6 (by decide) rfl rfl
            refine wpAny_done (by kernel_rfl) ?_ _
            clear hf
            subst hA
            simp only [putAll, List.take, Act.put]
            rw [h6]
            clear hR h6
            go_wp2_with fail
            go_roundw
            case rel =>
              refine ⟨_, j + 1, by omega, rfl, by go_num, ?_, ?_, HBR.out.trans ((show Below wz.heap.size wz wx from hW).mono HBR.out.size)⟩
              · simp only [ByteArray.size_append]; omega
              · have hb := HBO.out
                have ey : bodyOf (z0, z1, z2) = (y0, y1, y2) := by
                  unfold bodyOf
                  simp only [HY0.out, HY1.out, HY2.out, Int.toNat_natCast]
                rw [ey] at hb
                rw [List.take_add_one, hb, ← HOE.out, ← HP1.out, ← HP2.out]
                exact HH.out.more y0 y1 y2 (by omega) (by omega)
            case measure => simp [intOf]; omega
      · have hjm : j = n := by omega
        subst hjm
        have HF := hid (show UnHead sB (bodiesOf ts) by have := HH.out; rwa [List.take_of_length_le (by rw [bodies_len, HN.out]; exact Nat.le_refl _)] at this)
        have dn : decide ((j : Int) < j) = false := by simp
        go_wp2_with fail
        go_meet
        case rel => exact ⟨sB, rfl, HF.out, by omega, HBR.out⟩
  case rest =>
    obtain ⟨sB, rfl, hh, hsz, hbx⟩ := hcut
    have HH := hid hh
    have HBX := hid hbx
    have HBW := hid (HB2.out.trans (hbx.mono HB2.out.size))
    have HROW := hid (HROW.out.below hbx)
    have hcw : w.heap.size ≤ wc.heap.size := HBW.out.size
    have hgob : w.heap.size ≤ go := hw1
    clear hh hbx HB2
    obtain ⟨is, his, hsz0, hs1, hs2⟩ := info_parts infoStr
    go_upto_block 2 with fail
    obtain ⟨sC, hsC⟩ : ∃ s, sB ++ ⟨#[46, 101, 110, 100, 10, 46, 109, 97, 99, 114, 111, 32, 116, 119, 111, 44, 120, 10, 111, 110, 101, 32, 92, 120, 44, 114, 48, 10, 108, 92, 120, 58, 32, 111, 110, 101, 32, 114, 51, 44, 92, 120, 10, 46, 101, 110, 100, 10]⟩ = s := ⟨_, rfl⟩
    rw [hsC]
    have HST := hid (UnAll.start HH.out hsz (bodies_ok ts) hsC.symm)
    clear hsC HH hsz
    have hbl8 : (bodiesOf ts).length = n := by rw [bodies_len, HN.out]
    have HBL := hid hbl8
    clear hbl8
    go_cut [6, 7] (fun s v wx => UnOut w (bodiesOf ts) go wx s v cs)
    case first =>
      go_wp2_with fail
      go_loopg [6, 7, 12] 10 (fun gk s v i wr => ∃ (sB : ByteArray) (ls : List (List UInt8)) (wants : List ByteArray) (k : Nat), gk + k = 10 ∧ k ≤ cs.length ∧ s = .string sB ∧ i = .int .i64 (k : Nat) ∧ UnW w go wr v wants ∧ UnAll (bodiesOf ts) sB ls wants k)
      case atStart => exact ⟨sC, headLs (bodiesOf ts), [], 0, rfl, Nat.zero_le _, rfl, rfl, ⟨World.ownsRow_nil _ _ _ _, HROW.out, (fun h => by cases h), HBW.out⟩, HST.out⟩
      case round =>
        obtain ⟨sB, ls, wants, k, hgk, hkl, rfl, rfl, hW, hall⟩ := hrel
        have hsz := hall.2.1
        have HW := hid hW
        have HALL := hid hall
        clear hW hall
        by_cases hgo : k < cs.length ∧ k < 10
        · obtain ⟨hg1, hg2⟩ := hgo
          rcases HCS.out with h | ⟨b2, off2, ha2, hbl2, hc2⟩
          · rw [h] at hg1; simp at hg1
          · subst ha2
            obtain ⟨cx, cy, okx, oky⟩ := hc2 k hg1
            clear hc2
            rw [← HW.out.bel.cell (p := ⟨b2, off2 + k * 2, none⟩) hbl2] at cx
            rw [← HW.out.bel.cell (p := ⟨b2, off2 + k * 2 + 1, none⟩) hbl2] at cy
            have hbl3 : b2 < wr.heap.size := Nat.lt_of_lt_of_le hbl2 HW.out.bel.size
            obtain ⟨cc0, hcc⟩ : ∃ t, cs[k] = t := ⟨_, rfl⟩
            rw [hcc] at cx cy okx oky
            clear hcc
            obtain ⟨zx, zy⟩ := cc0
            simp only at cx cy okx oky
            have OKX := hid okx
            have OKY := hid oky
            obtain ⟨x, hx, hx4⟩ := pickI_nat zx 4 (by omega)
            obtain ⟨y, hy, hy4⟩ := pickI_nat zy 4 (by omega)
            have HX := hid hx
            have HY := hid hy
            clear hx hy okx oky
            have i1 : (0 : Int) ≤ (k : Int) := Int.natCast_nonneg _
            have i2 : (k : Int) < (cs.length : Int) := by omega
            have d1 : decide ((k : Int) < cs.length) = true := by simp; omega
            have d2 : decide ((k : Int) < 10) = true := by simp; omega
            go_upto_block 4 with (first | (go_at_call 7; refine (reg_any zx x _ OKX.out HX.out (by omega)).mono ?_; rintro e wx ⟨xB, hxB, hxs, rfl, hbx⟩; have cy := (hbx.cell (p := ⟨b2, off2 + k * 2 + 1, none⟩) hbl3).trans cy; have HBX1 := hid hbx; clear hbx) | (go_at_call 7; refine (reg_any zy y _ OKY.out HY.out (by omega)).mono ?_; rintro e wy ⟨yB, hyB, hys, rfl, hby⟩))
            have HWY := hid ((HW.out.below HBX1.out).below hby)
            have HXB := hid hxB
            have HYB := hid hyB
            have HXS := hid hxs
            have HYS := hid hys
            clear hxB hyB hby
            have hcl := fun sC (h : L sC = L (sB ++ ⟨#[32, 111, 110, 101, 32]⟩ ++ xB ++ ⟨#[32, 44, 32]⟩ ++ yB ++ ⟨#[10]⟩)) (news : List ByteArray) (hn : news.map L = (bodiesOf ts).map (wantLn (rgB x) (rgB y))) => HALL.out.call (bodies_ok ts) (by rw [HBL.out]; exact hn8) x y (by omega) (by omega) (h.trans (by simp only [L_append, HXB.out, HYB.out, callLn, List.append_assoc]; rfl)) hn hg2
            have HCL := hid hcl
            clear hcl
            go_wp2_with fail
            go_loopw [7, 15] (fun v j wr => ∃ (jn : Nat) (news : List ByteArray), jn ≤ n ∧ j = .int .i64 (jn : Nat) ∧ UnW w go wr v (wants ++ news) ∧ news.map L = ((bodiesOf ts).take jn).map (wantLn (rgB x) (rgB y))) (fun _ j _ => n - (intOf j).toNat)
            case atStart => exact ⟨0, [], Nat.zero_le _, rfl, by rw [List.append_nil]; exact HWY.out, by simp⟩
            case round =>
              obtain ⟨jn, news, hjn, rfl, hW2, hnews⟩ := hrel
              have HW2 := hid hW2
              have HNEWS := hid hnews
              obtain ⟨a7, c7, hv7⟩ := own_form hW2.own
              obtain ⟨m, hm⟩ : ∃ m, (wants ++ news).length = m := ⟨_, rfl⟩
              rw [hm] at hv7
              subst hv7
              have HMM := hid hm
              have hm100 : m ≤ 200 := by
                have h1 := congrArg List.length hnews
                simp only [List.length_map, List.length_take] at h1
                have h2 := HALL.out.2.2.2.1
                rw [HBL.out] at h2
                have h3 : k * n ≤ 10 * 8 := Nat.mul_le_mul (by omega) hn8
                rw [List.length_append] at hm
                omega
              clear hW2 hnews hm
              by_cases hj : jn < n
              · have hjt : jn < ts.length := by omega
                rcases HTS.out with h | ⟨b, off, ha, hbl, hc⟩
                · rw [h] at hjt; simp at hjt
                · subst ha
                  obtain ⟨c0, c1, c2, ok0, ok1, ok2⟩ := hc jn hjt
                  clear hc
                  rw [← HW2.out.bel.cell (p := ⟨b, off + jn * 3, none⟩) hbl] at c0
                  rw [← HW2.out.bel.cell (p := ⟨b, off + jn * 3 + 1, none⟩) hbl] at c1
                  rw [← HW2.out.bel.cell (p := ⟨b, off + jn * 3 + 2, none⟩) hbl] at c2
                  have hbl2 : b < wr.heap.size := Nat.lt_of_lt_of_le hbl HW2.out.bel.size
                  have hbo : (bodiesOf ts)[jn]? = some (bodyOf ts[jn]) := by
                    rw [List.getElem?_eq_getElem (by rw [HBL.out]; exact hj), bodies_at ts jn _ hjt]
                  have HBO := hid hbo
                  obtain ⟨tt, htt⟩ : ∃ t, ts[jn] = t := ⟨_, rfl⟩
                  rw [htt] at c0 c1 c2 ok0 ok1 ok2 HBO
                  clear htt hbo
                  obtain ⟨z0, z1, z2⟩ := tt
                  simp only at c0 c1 c2 ok0 ok1 ok2
                  have OK0 := hid ok0
                  have OK1 := hid ok1
                  have OK2 := hid ok2
                  obtain ⟨y0, hy0, hy0'⟩ := pickI_nat z0 3 (by omega)
                  obtain ⟨y1, hy1, hy1'⟩ := pickI_nat z1 2 (by omega)
                  obtain ⟨y2, hy2, hy2'⟩ := pickI_nat z2 2 (by omega)
                  have HY0 := hid hy0
                  have HY1 := hid hy1
                  have HY2 := hid hy2
                  have co := ops_cell HW2.out.ops y0 (by omega)
                  have hgo : go < wr.heap.size := HW2.out.ops.lt
                  have hos := opBA_size y0
                  have hoL := L_opBA y0
                  obtain ⟨oB, hoB⟩ : ∃ o, opBA y0 = o := ⟨_, rfl⟩
                  rw [hoB] at co hos hoL
                  have HOL := hid hoL
                  clear ok0 ok1 ok2 hy0 hy1 hy2 hoB hoL
                  have i1 : (0 : Int) ≤ (jn : Int) := Int.natCast_nonneg _
                  have dn : decide ((jn : Int) < n) = true := by simp; omega
                  have e1 : (⟨#[32]⟩ : ByteArray).size = 1 := rfl
                  have e2 : (⟨#[44]⟩ : ByteArray).size = 1 := rfl
                  obtain ⟨p1, hp1⟩ : ∃ p, selBA y1 xB yB = p := ⟨_, rfl⟩
                  obtain ⟨p2, hp2⟩ : ∃ p, selBA y2 xB yB = p := ⟨_, rfl⟩
                  have CELL1 := hid (show ∀ (w : World) (g : Nat), (∀ i (h : i < [Value.string xB, Value.string yB].length), w.cell? ⟨g, i, none⟩ = some [Value.string xB, Value.string yB][i]) → w.cell? ⟨g, y1, none⟩ = some (.string p1) from fun w g h => by rw [← hp1]; exact row_sel h (by omega))
                  have CELL2 := hid (show ∀ (w : World) (g : Nat), (∀ i (h : i < [Value.string xB, Value.string yB].length), w.cell? ⟨g, i, none⟩ = some [Value.string xB, Value.string yB][i]) → w.cell? ⟨g, y2, none⟩ = some (.string p2) from fun w g h => by rw [← hp2]; exact row_sel h (by omega))
                  have hp1s : p1.size = 2 := by rw [← hp1]; exact selBA_size y1 2 xB yB HXS.out HYS.out
                  have hp2s : p2.size = 2 := by rw [← hp2]; exact selBA_size y2 2 xB yB HXS.out HYS.out
                  have HWL := hid (show L (oB ++ (⟨#[32]⟩ : ByteArray) ++ p1 ++ (⟨#[44]⟩ : ByteArray) ++ p2) = wantLn (rgB x) (rgB y) (y0, y1, y2) by rw [← hp1, ← hp2]; exact L_want x y xB yB HXB.out HYB.out y0 y1 y2 oB HOL.out)
                  clear hp1 hp2
                  go_upto_region 23 with fail
                  refine wp_region_inv 37 (R := fun d v w => SlotP.holds v w (match d with | 110 => .val (.slice a7 m c7) | 111 => .val (.slice (some ⟨go, 0, none⟩) 3 3) | 112 => .val (.slice (some ⟨b, off, none⟩) ts.length cb) | 113 => .val (.int .i64 (jn : Int)) | 114 => .val (.pointer (some ⟨b, off + jn * 3, none⟩)) | 115 => .val (.pointer (some ⟨b, off + jn * 3, none⟩)) | 116 => .val (.int .i64 z0) | 117 => .val (.int .i64 (y0 : Int)) | 118 => .spot y0 (.string oB) | 119 => .val (.string (oB)) | 120 => .val (.string (oB ++ (⟨#[32]⟩ : ByteArray))) | 121 => .val (.string (xB)) | 122 => .val (.string (yB)) | 123 => .row [.string xB, .string yB] | 124 => .val (.slice (some ⟨b, off, none⟩) ts.length cb) | 125 => .val (.int .i64 (jn : Int)) | 126 => .val (.pointer (some ⟨b, off + jn * 3, none⟩)) | 127 => .val (.pointer (some ⟨b, off + jn * 3 + 1, none⟩)) | 128 => .val (.int .i64 z1) | 129 => .val (.int .i64 (y1 : Int)) | 130 => .spot y1 (.string p1) | 131 => .val (.string (p1)) | 132 => .val (.string (oB ++ (⟨#[32]⟩ : ByteArray) ++ p1)) | 133 => .val (.string (oB ++ (⟨#[32]⟩ : ByteArray) ++ p1 ++ (⟨#[44]⟩ : ByteArray))) | 134 => .val (.string (xB)) | 135 => .val (.string (yB)) | 136 => .row [.string xB, .string yB] | 137 => .val (.slice (some ⟨b, off, none⟩) ts.length cb) | 138 => .val (.int .i64 (jn : Int)) | 139 => .val (.pointer (some ⟨b, off + jn * 3, none⟩)) | 140 => .val (.pointer (some ⟨b, off + jn * 3 + 2, none⟩)) | 141 => .val (.int .i64 z2) | 142 => .val (.int .i64 (y2 : Int)) | 143 => .spot y2 (.string p2) | 144 => .val (.string (p2)) | 145 => .val (.string (oB ++ (⟨#[32]⟩ : ByteArray) ++ p1 ++ (⟨#[44]⟩ : ByteArray) ++ p2)) | 146 => .row [.string (oB ++ (⟨#[32]⟩ : ByteArray) ++ p1 ++ (⟨#[44]⟩ : ByteArray) ++ p2)] | _ => .val undef)) (W := fun wx => Below wr.heap.size wr wx) (by kernel_rfl) (by kernel_rfl) (by decide) (by kernel_rfl) (fun d v w w' hb h => SlotP.mono hb h) (Below.refl _ _).drew (StepsOk.all ⟨?_, ?_, ?_, ?_, ?_, ?_, ?_, ?_, ?_, ?_, ?_, ?_, ?_, ?_, ?_, ?_, ?_, ?_, ?_, ?_, ?_, ?_, ?_, ?_, ?_, ?_, ?_, ?_, ?_, ?_, ?_, ?_, ?_, ?_, ?_, ?_, ?_, trivial⟩) ?_
                  · intro a w hW hp hf
                    have hW : Below wr.heap.size wr w := hW
                    have h7 : a.tmps[7]?.getD undef = .slice a7 m c7 := hf 7 (by kernel_rfl)
                    exact step_val rfl (run_move rfl h7) (Below.refl _ _) hW rfl
                  · intro a w hW hp hf
                    have hW : Below wr.heap.size wr w := hW
                    have h8 : a.tmps[8]?.getD undef = .slice (some ⟨go, 0, none⟩) 3 3 := hf 8 (by kernel_rfl)
                    exact step_val rfl (run_move rfl h8) (Below.refl _ _) hW rfl
                  · intro a w hW hp hf
                    have hW : Below wr.heap.size wr w := hW
                    have h0 : a.tmps[0]?.getD undef = .slice (some ⟨b, off, none⟩) ts.length cb := hf 0 (by kernel_rfl)
                    exact step_val rfl (run_move rfl h0) (Below.refl _ _) hW rfl
                  · intro a w hW hp hf
                    have hW : Below wr.heap.size wr w := hW
                    have h15 : a.tmps[15]?.getD undef = .int .i64 (jn : Int) := hf 15 (by kernel_rfl)
                    exact step_val rfl (run_move rfl h15) (Below.refl _ _) hW rfl
                  · intro a w hW hp hf
                    have hW : Below wr.heap.size wr w := hW
                    have h112 : a.tmps[112]?.getD undef = .slice (some ⟨b, off, none⟩) ts.length cb := hp 112 (by kernel_rfl)
                    have h113 : a.tmps[113]?.getD undef = .int .i64 (jn : Int) := hp 113 (by kernel_rfl)
                    exact step_val rfl (run_index3 rfl h112 h113 (by omega)) (Below.refl _ _) hW rfl
                  · intro a w hW hp hf
                    have hW : Below wr.heap.size wr w := hW
                    have h114 : a.tmps[114]?.getD undef = .pointer (some ⟨b, off + jn * 3, none⟩) := hp 114 (by kernel_rfl)
                    exact step_val rfl (run_spot0 rfl h114) (Below.refl _ _) hW rfl
                  · intro a w hW hp hf
                    have hW : Below wr.heap.size wr w := hW
                    have h115 : a.tmps[115]?.getD undef = .pointer (some ⟨b, off + jn * 3, none⟩) := hp 115 (by kernel_rfl)
                    have hc := (hW.cell (p := ⟨b, off + jn * 3, none⟩) hbl2).trans c0
                    exact step_val rfl (run_loadI rfl h115 hc) (Below.refl _ _) hW rfl
                  · intro a w hW hp hf
                    have hW : Below wr.heap.size wr w := hW
                    have h116 : a.tmps[116]?.getD undef = .int .i64 z0 := hp 116 (by kernel_rfl)
                    refine step_call rfl (run_pick rfl h116) ?_
                    refine (pick_nat z0 3 y0 w OK0.out ⟨by omega, by omega⟩ HY0.out).mono ?_
                    rintro e w' ⟨rfl, rfl⟩
                    exact ⟨_, rfl, Below.refl _ _, hW, rfl⟩
                  · intro a w hW hp hf
                    have hW : Below wr.heap.size wr w := hW
                    have h111 : a.tmps[111]?.getD undef = .slice (some ⟨go, 0, none⟩) 3 3 := hp 111 (by kernel_rfl)
                    have h117 : a.tmps[117]?.getD undef = .int .i64 (y0 : Int) := hp 117 (by kernel_rfl)
                    exact step_val rfl (run_indexS rfl h111 h117 (by omega)) (Below.refl _ _) hW ⟨go, rfl, Nat.lt_of_lt_of_le hgo hW.size, (hW.cell (p := ⟨go, y0, none⟩) hgo).trans co⟩
                  · intro a w hW hp hf
                    have hW : Below wr.heap.size wr w := hW
                    obtain ⟨g, h118, hg, hc⟩ := (hp 118 (by kernel_rfl) : SlotP.holds (a.tmps[118]?.getD undef) w (.spot y0 (.string oB)))
                    exact step_val rfl (run_loadS rfl h118 hc) (Below.refl _ _) hW rfl
                  · intro a w hW hp hf
                    have hW : Below wr.heap.size wr w := hW
                    have h119 : a.tmps[119]?.getD undef = .string (oB) := hp 119 (by kernel_rfl)
                    exact step_val rfl (run_addc (t := ⟨#[32]⟩) rfl h119 (by first | omega | (simp only [ByteArray.size_append]; omega))) (Below.refl _ _) hW rfl
                  · intro a w hW hp hf
                    have hW : Below wr.heap.size wr w := hW
                    have h13 : a.tmps[13]?.getD undef = .string xB := hf 13 (by kernel_rfl)
                    exact step_val rfl (run_move rfl h13) (Below.refl _ _) hW rfl
                  · intro a w hW hp hf
                    have hW : Below wr.heap.size wr w := hW
                    have h14 : a.tmps[14]?.getD undef = .string yB := hf 14 (by kernel_rfl)
                    exact step_val rfl (run_move rfl h14) (Below.refl _ _) hW rfl
                  · intro a w hW hp hf
                    have hW : Below wr.heap.size wr w := hW
                    have h121 : a.tmps[121]?.getD undef = .string (xB) := hp 121 (by kernel_rfl)
                    have h122 : a.tmps[122]?.getD undef = .string (yB) := hp 122 (by kernel_rfl)
                    exact step_val rfl (run_build2 rfl h121 h122) ((Below.refl _ _).alloc (Nat.le_refl _) _) (hW.alloc hW.size _) ⟨w.heap.size, rfl, by simp, row_new w 9 [.string xB, .string yB]⟩
                  · intro a w hW hp hf
                    have hW : Below wr.heap.size wr w := hW
                    have h0 : a.tmps[0]?.getD undef = .slice (some ⟨b, off, none⟩) ts.length cb := hf 0 (by kernel_rfl)
                    exact step_val rfl (run_move rfl h0) (Below.refl _ _) hW rfl
                  · intro a w hW hp hf
                    have hW : Below wr.heap.size wr w := hW
                    have h15 : a.tmps[15]?.getD undef = .int .i64 (jn : Int) := hf 15 (by kernel_rfl)
                    exact step_val rfl (run_move rfl h15) (Below.refl _ _) hW rfl
                  · intro a w hW hp hf
                    have hW : Below wr.heap.size wr w := hW
                    have h124 : a.tmps[124]?.getD undef = .slice (some ⟨b, off, none⟩) ts.length cb := hp 124 (by kernel_rfl)
                    have h125 : a.tmps[125]?.getD undef = .int .i64 (jn : Int) := hp 125 (by kernel_rfl)
                    exact step_val rfl (run_index3 rfl h124 h125 (by omega)) (Below.refl _ _) hW rfl
                  · intro a w hW hp hf
                    have hW : Below wr.heap.size wr w := hW
                    have h126 : a.tmps[126]?.getD undef = .pointer (some ⟨b, off + jn * 3, none⟩) := hp 126 (by kernel_rfl)
                    exact step_val rfl (run_spot1 rfl h126) (Below.refl _ _) hW rfl
                  · intro a w hW hp hf
                    have hW : Below wr.heap.size wr w := hW
                    have h127 : a.tmps[127]?.getD undef = .pointer (some ⟨b, off + jn * 3 + 1, none⟩) := hp 127 (by kernel_rfl)
                    have hc := (hW.cell (p := ⟨b, off + jn * 3 + 1, none⟩) hbl2).trans c1
                    exact step_val rfl (run_loadI rfl h127 hc) (Below.refl _ _) hW rfl
                  · intro a w hW hp hf
                    have hW : Below wr.heap.size wr w := hW
                    have h128 : a.tmps[128]?.getD undef = .int .i64 z1 := hp 128 (by kernel_rfl)
                    refine step_call rfl (run_pick rfl h128) ?_
                    refine (pick_nat z1 2 y1 w OK1.out ⟨by omega, by omega⟩ HY1.out).mono ?_
                    rintro e w' ⟨rfl, rfl⟩
                    exact ⟨_, rfl, Below.refl _ _, hW, rfl⟩
                  · intro a w hW hp hf
                    have hW : Below wr.heap.size wr w := hW
                    obtain ⟨g, h123, hg, hc⟩ := (hp 123 (by kernel_rfl) : SlotP.holds (a.tmps[123]?.getD undef) w (.row [.string xB, .string yB]))
                    have h129 : a.tmps[129]?.getD undef = .int .i64 (y1 : Int) := hp 129 (by kernel_rfl)
                    exact step_val rfl (run_indexS rfl h123 h129 (show y1 < 2 by omega)) (Below.refl _ _) hW ⟨g, rfl, hg, CELL1.out w g hc⟩
                  · intro a w hW hp hf
                    have hW : Below wr.heap.size wr w := hW
                    obtain ⟨g, h130, hg, hc⟩ := (hp 130 (by kernel_rfl) : SlotP.holds (a.tmps[130]?.getD undef) w (.spot y1 (.string p1)))
                    exact step_val rfl (run_loadS rfl h130 hc) (Below.refl _ _) hW rfl
                  · intro a w hW hp hf
                    have hW : Below wr.heap.size wr w := hW
                    have h120 : a.tmps[120]?.getD undef = .string (oB ++ (⟨#[32]⟩ : ByteArray)) := hp 120 (by kernel_rfl)
                    have h131 : a.tmps[131]?.getD undef = .string (p1) := hp 131 (by kernel_rfl)
                    exact step_val rfl (run_add rfl h120 h131 (by first | omega | (simp only [ByteArray.size_append]; omega))) (Below.refl _ _) hW rfl
                  · intro a w hW hp hf
                    have hW : Below wr.heap.size wr w := hW
                    have h132 : a.tmps[132]?.getD undef = .string (oB ++ (⟨#[32]⟩ : ByteArray) ++ p1) := hp 132 (by kernel_rfl)
                    exact step_val rfl (run_addc (t := ⟨#[44]⟩) rfl h132 (by first | omega | (simp only [ByteArray.size_append]; omega))) (Below.refl _ _) hW rfl
                  · intro a w hW hp hf
                    have hW : Below wr.heap.size wr w := hW
                    have h13 : a.tmps[13]?.getD undef = .string xB := hf 13 (by kernel_rfl)
                    exact step_val rfl (run_move rfl h13) (Below.refl _ _) hW rfl
                  · intro a w hW hp hf
                    have hW : Below wr.heap.size wr w := hW
                    have h14 : a.tmps[14]?.getD undef = .string yB := hf 14 (by kernel_rfl)
                    exact step_val rfl (run_move rfl h14) (Below.refl _ _) hW rfl
                  · intro a w hW hp hf
                    have hW : Below wr.heap.size wr w := hW
                    have h134 : a.tmps[134]?.getD undef = .string (xB) := hp 134 (by kernel_rfl)
                    have h135 : a.tmps[135]?.getD undef = .string (yB) := hp 135 (by kernel_rfl)
                    exact step_val rfl (run_build2 rfl h134 h135) ((Below.refl _ _).alloc (Nat.le_refl _) _) (hW.alloc hW.size _) ⟨w.heap.size, rfl, by simp, row_new w 9 [.string xB, .string yB]⟩
                  · intro a w hW hp hf
                    have hW : Below wr.heap.size wr w := hW
                    have h0 : a.tmps[0]?.getD undef = .slice (some ⟨b, off, none⟩) ts.length cb := hf 0 (by kernel_rfl)
                    exact step_val rfl (run_move rfl h0) (Below.refl _ _) hW rfl
                  · intro a w hW hp hf
                    have hW : Below wr.heap.size wr w := hW
                    have h15 : a.tmps[15]?.getD undef = .int .i64 (jn : Int) := hf 15 (by kernel_rfl)
                    exact step_val rfl (run_move rfl h15) (Below.refl _ _) hW rfl
                  · intro a w hW hp hf
                    have hW : Below wr.heap.size wr w := hW
                    have h137 : a.tmps[137]?.getD undef = .slice (some ⟨b, off, none⟩) ts.length cb := hp 137 (by kernel_rfl)
                    have h138 : a.tmps[138]?.getD undef = .int .i64 (jn : Int) := hp 138 (by kernel_rfl)
                    exact step_val rfl (run_index3 rfl h137 h138 (by omega)) (Below.refl _ _) hW rfl
                  · intro a w hW hp hf
                    have hW : Below wr.heap.size wr w := hW
                    have h139 : a.tmps[139]?.getD undef = .pointer (some ⟨b, off + jn * 3, none⟩) := hp 139 (by kernel_rfl)
                    exact step_val rfl (run_spot2 rfl h139) (Below.refl _ _) hW rfl
                  · intro a w hW hp hf
                    have hW : Below wr.heap.size wr w := hW
                    have h140 : a.tmps[140]?.getD undef = .pointer (some ⟨b, off + jn * 3 + 2, none⟩) := hp 140 (by kernel_rfl)
                    have hc := (hW.cell (p := ⟨b, off + jn * 3 + 2, none⟩) hbl2).trans c2
                    exact step_val rfl (run_loadI rfl h140 hc) (Below.refl _ _) hW rfl
                  · intro a w hW hp hf
                    have hW : Below wr.heap.size wr w := hW
                    have h141 : a.tmps[141]?.getD undef = .int .i64 z2 := hp 141 (by kernel_rfl)
                    refine step_call rfl (run_pick rfl h141) ?_
                    refine (pick_nat z2 2 y2 w OK2.out ⟨by omega, by omega⟩ HY2.out).mono ?_
                    rintro e w' ⟨rfl, rfl⟩
                    exact ⟨_, rfl, Below.refl _ _, hW, rfl⟩
                  · intro a w hW hp hf
                    have hW : Below wr.heap.size wr w := hW
                    obtain ⟨g, h136, hg, hc⟩ := (hp 136 (by kernel_rfl) : SlotP.holds (a.tmps[136]?.getD undef) w (.row [.string xB, .string yB]))
                    have h142 : a.tmps[142]?.getD undef = .int .i64 (y2 : Int) := hp 142 (by kernel_rfl)
                    exact step_val rfl (run_indexS rfl h136 h142 (show y2 < 2 by omega)) (Below.refl _ _) hW ⟨g, rfl, hg, CELL2.out w g hc⟩
                  · intro a w hW hp hf
                    have hW : Below wr.heap.size wr w := hW
                    obtain ⟨g, h143, hg, hc⟩ := (hp 143 (by kernel_rfl) : SlotP.holds (a.tmps[143]?.getD undef) w (.spot y2 (.string p2)))
                    exact step_val rfl (run_loadS rfl h143 hc) (Below.refl _ _) hW rfl
                  · intro a w hW hp hf
                    have hW : Below wr.heap.size wr w := hW
                    have h133 : a.tmps[133]?.getD undef = .string (oB ++ (⟨#[32]⟩ : ByteArray) ++ p1 ++ (⟨#[44]⟩ : ByteArray)) := hp 133 (by kernel_rfl)
                    have h144 : a.tmps[144]?.getD undef = .string (p2) := hp 144 (by kernel_rfl)
                    exact step_val rfl (run_add rfl h133 h144 (by first | omega | (simp only [ByteArray.size_append]; omega))) (Below.refl _ _) hW rfl
                  · intro a w hW hp hf
                    have hW : Below wr.heap.size wr w := hW
                    have h145 : a.tmps[145]?.getD undef = .string (oB ++ (⟨#[32]⟩ : ByteArray) ++ p1 ++ (⟨#[44]⟩ : ByteArray) ++ p2) := hp 145 (by kernel_rfl)
                    exact step_val rfl (run_build1 rfl h145) ((Below.refl _ _).alloc (Nat.le_refl _) _) (hW.alloc hW.size _) ⟨w.heap.size, rfl, by simp, row_new w 9 [.string (oB ++ (⟨#[32]⟩ : ByteArray) ++ p1 ++ (⟨#[44]⟩ : ByteArray) ++ p2)]⟩
                  · intro fuel f A wx hfu hW hR hf hA
                    have hW : Below wr.heap.size wr wx := hW
                    have h110 : f 110 = .slice a7 m c7 := hR 0 _ 110 (by decide) rfl rfl
                    obtain ⟨g6, h146, hg6, hc6⟩ := (hR 36 _ 146 (by decide) rfl rfl : SlotP.holds (f 146) wx (.row [.string (oB ++ (⟨#[32]⟩ : ByteArray) ++ p1 ++ (⟨#[44]⟩ : ByteArray) ++ p2)]))
                    have c6 := hc6 0 (by simp)
                    obtain ⟨fu, rfl⟩ : ∃ k, fuel = k + 2 := ⟨fuel - 2, by have : 2 ≤ fuel := hfu; omega⟩
                    have e110 := (hf 110).trans h110
                    have e146 := (hf 146).trans h146
                    clear hR hc6 hf
                    refine wpAny_all (rs := [37]) (by kernel_rfl) (by decide) ?_
                    intro i hi
                    obtain rfl := List.mem_singleton.1 hi
                    refine wpOp_of rfl rfl ?_
                    have hown := ownsRow_belowP HW2.out.own hW
                    rw [HMM.out] at hown
                    have hsz2 : w.heap.size ≤ wx.heap.size := Nat.le_trans HW2.out.bel.size hW.size
                    refine wp_append_lies wx (.tmp 110) (.tmp 146) 25 rfl w.heap.size 9 is _ 1 16 Tryd.underlying25 his hsz0 hs1 hs2 rfl (by omega) (.slice a7 m c7) m ((wants ++ news).map Value.string) e110 hown ⟨g6, 0, none⟩ 1 1 [.string (oB ++ (⟨#[32]⟩ : ByteArray) ++ p1 ++ (⟨#[44]⟩ : ByteArray) ++ p2)] e146 rfl (fun j u hu => by
                      cases j with
                      | zero => simp at hu; subst hu; exact c6
                      | succ j => simp at hu) (by simp [Value.oneCell']) (by omega) (by unfold maxLen; omega) (by omega) hsz2 _ rfl ?_
                    intro g cap w4 hown4 hgrow hat hlt4
                    refine wpAny_all (rs := [38]) (by kernel_rfl) (by decide) ?_
                    intro i hi
                    obtain rfl := List.mem_singleton.1 hi
                    refine wpOp_of rfl rfl ?_
                    unfold Oper.wp
                    rw [run_assign (x := 147) (v := .slice (some ⟨g, 0, none⟩) (m + 1) cap) rfl (by
                      have hsA : A.tmps.size = 365 := by rw [hA, (putAll_spec f _ _).2.1]; rfl
                      simp [Act.put, hsA])]
                    simp only [Oper.upon]
                    refine wpAny_done (by kernel_rfl) ?_ _
                    clear e110 e146
                    subst hA
                    simp only [putAll, List.take, Act.put]
                    rw [h110, h146]
                    clear h110 h146
                    have HNW := hid (show UnW w go w4 (.slice (some ⟨g, 0, none⟩) (m + 1) cap) (wants ++ (news ++ [oB ++ (⟨#[32]⟩ : ByteArray) ++ p1 ++ (⟨#[44]⟩ : ByteArray) ++ p2])) from
                      ⟨by rw [← List.append_assoc, List.map_append, List.length_append, HMM.out]; exact hown4, RowT.grown' (HW2.out.ops.below hW) hgrow (Ne.symm HW2.out.ne), (fun c => by
                        simp only [Value.ownBlock, Option.some.injEq] at c
                        rcases hat with h1 | h1
                        · exact HW2.out.ne (by rw [h1, c])
                        · have := hW.size; omega), (HW2.out.bel.trans (hW.mono HW2.out.bel.size)).grown hgrow hsz2 (fun j hj => (own_at hown hj).2)⟩)
                    have HNL := hid (show (news ++ [oB ++ (⟨#[32]⟩ : ByteArray) ++ p1 ++ (⟨#[44]⟩ : ByteArray) ++ p2]).map L = ((bodiesOf ts).take (jn + 1)).map (wantLn (rgB x) (rgB y)) by
                      have hb := HBO.out
                      have ey : bodyOf (z0, z1, z2) = (y0, y1, y2) := by
                        unfold bodyOf
                        simp only [HY0.out, HY1.out, HY2.out, Int.toNat_natCast]
                      rw [ey] at hb
                      rw [List.take_add_one, hb, List.map_append, List.map_append, HNEWS.out, List.map_singleton, HWL.out]
                      rfl)
                    clear hown hown4 hgrow hat c6 hlt4
                    go_wp2_with fail
                    go_roundw
                    case rel => exact ⟨jn + 1, _, by omega, by go_num, HNW.out, HNL.out⟩
                    case measure => simp [intOf]; omega
              · have hjm : jn = n := by omega
                subst hjm
                have dn : decide ((jn : Int) < jn) = false := by simp
                have HF := hid (show news.map L = (bodiesOf ts).map (wantLn (rgB x) (rgB y)) by have := HNEWS.out; rwa [List.take_of_length_le (by rw [HBL.out]; exact Nat.le_refl _)] at this)
                go_wp2_with fail
                go_roundg (gk - 1)
                case measure => omega
                case rel => exact ⟨_, _, _, k + 1, by omega, by omega, rfl, by go_num, HW2.out, HCL.out _ rfl news HF.out⟩
        · by_cases hg1 : k < cs.length
          · have d1 : decide ((k : Int) < cs.length) = true := by simp; omega
            have d2 : decide ((k : Int) < 10) = false := by simp; omega
            go_wp2_with fail
            go_meet
            case rel => exact ⟨sB, ls, wants, k, by omega, hkl, rfl, HW.out, HALL.out⟩
          · have d1 : decide ((k : Int) < cs.length) = false := by simp; omega
            go_wp2_with fail
            go_meet
            case rel => exact ⟨sB, ls, wants, k, by omega, hkl, rfl, HW.out, HALL.out⟩
    case rest =>
      obtain ⟨sB, ls, wants, k, hk10, hkc, rfl, hW, hall⟩ := hcut
      have hsz := hall.2.1
      have hls := hall.2.2.1
      have hwl := hall.2.2.2.1
      rw [HBL.out] at hls hwl
      obtain ⟨a7, c7, hv7⟩ := own_form hW.own
      obtain ⟨m, hm⟩ : ∃ m, wants.length = m := ⟨_, rfl⟩
      rw [hm] at hv7 hwl
      subst hv7
      have HMM := hid hm
      have hm80 : m ≤ 80 := by rw [hwl]; exact Nat.mul_le_mul hk10 hn8
      have hx := mExpand_any sB wc (by unfold maxLen; omega) (HM.out.below hW.bel)
      have hp := hall.2.2.2.2.done (by rw [← hall.1, L_length]; omega)
      rw [← hall.1] at hp
      rw [hp] at hx
      have HX := hid hx
      have HW := hid hW
      have HALL := hid hall
      have HLS := hid hls
      clear hx hp hW hall hm hwl hls
      go_wp2_with fail
      refine HX.out.mono ?_
      rintro e w2 ⟨hb2, vl, outs, rfl, ho, h3, hown⟩
      have hlen : outs.length = m := by rw [outs_len ho, outsOf_length, HMM.out]
      rw [HBL.out] at ho
      obtain ⟨a8, c8, hv8⟩ := own_form hown
      rw [hlen] at hv8
      subst hv8
      have HWW := hid (HW.out.below hb2)
      have HOWN := hid hown
      have HLEN := hid hlen
      have HO := hid ho
      clear HX HW hown hlen ho h3 hb2
      have e0 : ((m : Int) != (m : Int)) = false := by simp
      go_wp2_with fail
      go_loopw [19] (fun i wr => ∃ j : Nat, j ≤ m ∧ i = .int .i64 j ∧ Below w2.heap.size w2 wr) (fun i _ => m - (intOf i).toNat)
      case atStart => exact ⟨0, Nat.zero_le _, rfl, Below.refl _ _⟩
      case round =>
        obtain ⟨j, hjm, rfl, hbr⟩ := hrel
        have HBR := hid hbr
        clear hbr
        by_cases hj : j < m
        · have hjo : j < outs.length := by rw [HLEN.out]; exact hj
          have hjw : j < wants.length := by rw [HMM.out]; exact hj
          obtain ⟨g, cap, hvl, hgb, hglt, hcs⟩ := lines_lie HOWN.out (by omega)
          rw [HLEN.out] at hvl
          simp only [Value.slice.injEq, true_and] at hvl
          obtain ⟨rfl, rfl⟩ := hvl
          obtain ⟨c0, c1, c2, c3⟩ := hcs j hjo
          have hg := outs_at HO.out j hjo _ (outsOf_get n wants 0 j hjw)
          rw [Nat.zero_add] at hg
          have hs : outs[j].1 = wants[j] := L_inj hg.1
          obtain ⟨d, hd⟩ : ∃ d, max n 1 = d := ⟨_, rfl⟩
          rw [hs] at c0
          rw [hg.2, fromOf_int n j d hd] at c1
          obtain ⟨g7, cap7, hv7, hg7, hlt7⟩ := HWW.out.own.form (by omega)
          rw [HMM.out] at hv7
          simp only [Value.slice.injEq, true_and] at hv7
          obtain ⟨rfl, rfl⟩ := hv7
          have ow := HWW.out.own
          rw [HMM.out] at ow
          have cw := ow.cellAt j (by omega)
          clear ow
          rw [List.getElem?_map, List.getElem?_eq_getElem hjw] at cw
          simp only [Option.map_some] at cw
          generalize wants[j] = wj at c0 cw
          rw [← HBR.out.cell (p := ⟨g, j * 4, none⟩) hglt] at c0
          rw [← HBR.out.cell (p := ⟨g, j * 4 + 1, none⟩) hglt] at c1
          rw [← HBR.out.cell (p := ⟨g, j * 4 + 2, none⟩) hglt] at c2
          rw [← HBR.out.cell (p := ⟨g, j * 4 + 3, none⟩) hglt] at c3
          rw [← HBR.out.cell (p := ⟨g7, j, none⟩) hlt7] at cw
          have hmax : max (n : Int) 1 = (d : Int) := by omega
          have hd1 : (1 : Int) ≤ (d : Int) := by omega
          have hd0 : ¬ (d : Int) = 0 := by omega
          clear hg hs hcs hd
          have i1 : (0 : Int) ≤ (j : Int) := Int.natCast_nonneg _
          have i2 : (j : Int) < (m : Int) := by omega
          have dn : decide ((j : Int) < m) = true := by simp; omega
          have q0 : (0 : Int) ≤ (j : Int) / (d : Int) := Int.ediv_nonneg i1 (by omega)
          have q1 : (j : Int) / (d : Int) ≤ j := Int.ediv_le_self _ i1
          go_wp2_with fail
          go_quiet (fail)
          go_wp2_with fail
          go_roundw
          case rel => exact ⟨j + 1, by omega, by go_num, below_drewN HBR.out _⟩
          case measure => simp [intOf]; omega
        · have dn : decide ((j : Int) < m) = false := by simp; omega
          have hjm' : m = j := by omega
          subst hjm'
          have HWR := hid (HWW.out.below HBR.out)
          clear HOWN HO HWW
          by_cases hc0 : cs.length = 0
          · have dz : ((cs.length : Int) == 0) = true := by simp [hc0]
            go_wp2_with fail
            go_ret
            exact ⟨rfl, HWR.out.bel⟩
          · rcases HCS.out with h | ⟨b2, off2, ha2, hbl2, hc2⟩
            · rw [h] at hc0; simp at hc0
            · subst ha2
              have hcs0 : 0 < cs.length := by omega
              obtain ⟨cx, _, okx, _⟩ := hc2 0 hcs0
              clear hc2
              simp only [Nat.zero_mul, Nat.add_zero] at cx
              rw [← HWR.out.bel.cell (p := ⟨b2, off2, none⟩) hbl2] at cx
              obtain ⟨zx, hzx⟩ : ∃ z, (cs[0]'hcs0).1 = z := ⟨_, rfl⟩
              rw [hzx] at cx okx
              clear hzx
              have OKX := hid okx
              obtain ⟨x, hx, hx4⟩ := pickI_nat zx 4 (by omega)
              have HX := hid hx
              clear hx okx
              have dz : ((cs.length : Int) == 0) = false := by rw [beq_eq_false_iff_ne]; omega
              have i0 : (0 : Int) < (cs.length : Int) := by omega
              go_wp2_with (first | (go_at_call 7; refine (reg_any zx x _ OKX.out HX.out (by omega)).mono ?_; rintro e w3 ⟨xB, hxB, hxs, rfl, hb3⟩))
              have HW3 := hid (HWR.out.below hb3)
              have hp2 := HALL.out.2.2.2.2.goes (bodies_ok ts) x (by omega) (by rw [outsOf_length, HMM.out, HBL.out]; omega) (by omega) (by rw [← HALL.out.1, L_length]; omega)
              have hx2 := mExpand_any (sB ++ ⟨#[103, 111, 58, 32, 116, 119, 111, 32]⟩ ++ xB) w3 (by unfold maxLen; simp only [ByteArray.size_append]; have : (⟨#[103, 111, 58, 32, 116, 119, 111, 32]⟩ : ByteArray).size = 8 := rfl; omega) (HM.out.below HW3.out.bel)
              have hL2 : L (sB ++ ⟨#[103, 111, 58, 32, 116, 119, 111, 32]⟩ ++ xB) = textL ls ++ goLn x := by
                simp only [L_append, HALL.out.1, hxB, goLn, List.append_assoc]; rfl
              rw [hL2, hp2] at hx2
              have HXB := hid hxB
              clear hxB hp2 hL2 hb3
              refine hx2.mono ?_
              clear hx2
              rintro e w4 ⟨hb4, vl, outs2, rfl, ho2, h32, hown2⟩
              obtain ⟨hl2, hgo2, hlx2, hA, hB⟩ := two_parts ho2 m (by rw [outsOf_length, HMM.out])
              rw [HBL.out] at hl2 hlx2 hB
              obtain ⟨g, cap, hvl, hgb, hglt, hcs4⟩ := lines_lie hown2 (by omega)
              rw [hvl] at hown2
              have hcap := own_cap2 hown2
              obtain ⟨M, hM⟩ : ∃ M, outs2.length = M := ⟨_, rfl⟩
              rw [hM] at hvl hcap
              subst hvl
              have hM1 : M ≤ m + (2 + n + n) := by omega
              have hM2 : m + (2 + n + n) ≤ M := by omega
              have cgo := hcs4 m (by omega)
              have clx := (hcs4 (m + (n + 1)) (by omega)).1
              rw [L_inj (s := (outs2[m]'(by omega)).1) (t := ⟨#[103, 111, 58]⟩) (hgo2 (by omega)).1, (hgo2 (by omega)).2] at cgo
              obtain ⟨cg0, cg1, _, _⟩ := cgo
              rw [L_inj (s := (outs2[m + (n + 1)]'(by omega)).1) (t := ⟨#[108]⟩ ++ xB ++ ⟨#[58]⟩) ((hlx2 (by omega)).trans (by simp only [L_append, HXB.out]; rfl))] at clx
              have HCS4 := hid hcs4
              have HA := hid hA
              have HB := hid hB
              have HL2 := hid hM
              have HW4 := hid (HW3.out.below hb4)
              clear hcs4 hA hB hgo2 hlx2 hown2 ho2 h32 hb4 HWR HW3 hM hl2
              have e1 : ((M : Int) != (m : Int) + 1 + 2 * (n : Int) + 1) = false := by simp; omega
              have j0 : (0 : Int) ≤ (m : Int) := Int.natCast_nonneg _
              have j1 : (m : Int) ≤ (M : Int) := by omega
              have jc : ¬ cap = m := by omega
              have jn : (0 : Int) ≤ (n : Int) := Int.natCast_nonneg _
              rw [Nat.add_mul] at clx
              go_upto_block 9 with fail
              go_wp2_with fail
              go_loopw [22] (fun i wr => ∃ j : Nat, j ≤ n ∧ i = .int .i64 j ∧ Below w4.heap.size w4 wr) (fun i _ => n - (intOf i).toNat)
              case atStart => exact ⟨0, Nat.zero_le _, rfl, Below.refl _ _⟩
              case round =>
                obtain ⟨j, hjn, rfl, hbr⟩ := hrel
                have HBR := hid hbr
                clear hbr
                by_cases hj : j < n
                · have hjt : j < ts.length := by omega
                  rcases HTS.out with h | ⟨b, off, ha, hbl, hc⟩
                  · rw [h] at hjt; simp at hjt
                  · subst ha
                    obtain ⟨c0, c1, c2, ok0, ok1, ok2⟩ := hc j hjt
                    clear hc
                    have hwb : Below w.heap.size w wr := HW4.out.bel.trans (HBR.out.mono HW4.out.bel.size)
                    rw [← hwb.cell (p := ⟨b, off + j * 3, none⟩) hbl] at c0
                    rw [← hwb.cell (p := ⟨b, off + j * 3 + 1, none⟩) hbl] at c1
                    rw [← hwb.cell (p := ⟨b, off + j * 3 + 2, none⟩) hbl] at c2
                    have hbl2' : b < wr.heap.size := Nat.lt_of_lt_of_le hbl hwb.size
                    have hbo : (bodiesOf ts)[j]? = some (bodyOf ts[j]) := by
                      rw [List.getElem?_eq_getElem (by rw [HBL.out]; exact hj), bodies_at ts j _ hjt]
                    obtain ⟨tt, htt⟩ : ∃ t, ts[j] = t := ⟨_, rfl⟩
                    rw [htt] at c0 c1 c2 ok0 ok1 ok2 hbo
                    clear htt hwb
                    obtain ⟨z0, z1, z2⟩ := tt
                    simp only at c0 c1 c2 ok0 ok1 ok2
                    have OK0 := hid ok0
                    have OK1 := hid ok1
                    have OK2 := hid ok2
                    obtain ⟨y0, hy0, hy0'⟩ := pickI_nat z0 3 (by omega)
                    obtain ⟨y1, hy1, hy1'⟩ := pickI_nat z1 2 (by omega)
                    obtain ⟨y2, hy2, hy2'⟩ := pickI_nat z2 2 (by omega)
                    have ey : bodyOf (z0, z1, z2) = (y0, y1, y2) := by
                      unfold bodyOf
                      simp only [hy0, hy1, hy2, Int.toNat_natCast]
                    rw [ey] at hbo
                    have HY0 := hid hy0
                    have HY1 := hid hy1
                    have HY2 := hid hy2
                    have co := ops_cell (HW4.out.ops.below HBR.out) y0 (by omega)
                    have hgo : go < wr.heap.size := (HW4.out.ops.below HBR.out).lt
                    have hos := opBA_size y0
                    have hoL := L_opBA y0
                    obtain ⟨oB, hoB⟩ : ∃ o, opBA y0 = o := ⟨_, rfl⟩
                    rw [hoB] at co hos hoL
                    have hiA : m + (1 + j) < outs2.length := by rw [HL2.out]; omega
                    have hiB : m + (2 + n + j) < outs2.length := by rw [HL2.out]; omega
                    have cA := (HCS4.out (m + (1 + j)) hiA).1
                    obtain ⟨cB, cB1, _, _⟩ := HCS4.out (m + (2 + n + j)) hiB
                    have tA := HA.out j _ hbo hiA
                    obtain ⟨tB, tF⟩ := HB.out j _ hbo hiB
                    obtain ⟨p1, hp1⟩ : ∃ p, selBA y1 xB ⟨#[114, 48]⟩ = p := ⟨_, rfl⟩
                    obtain ⟨p2, hp2⟩ : ∃ p, selBA y2 xB ⟨#[114, 48]⟩ = p := ⟨_, rfl⟩
                    obtain ⟨q1, hq1⟩ : ∃ p, selBA y1 ⟨#[114, 51]⟩ xB = p := ⟨_, rfl⟩
                    obtain ⟨q2, hq2⟩ : ∃ p, selBA y2 ⟨#[114, 51]⟩ xB = p := ⟨_, rfl⟩
                    have eA : (outs2[m + (1 + j)]'hiA).1 = oB ++ (⟨#[32]⟩ : ByteArray) ++ p1 ++ (⟨#[44]⟩ : ByteArray) ++ p2 := L_inj (tA.trans (by rw [← hp1, ← hp2]; exact (L_want x 0 xB ⟨#[114, 48]⟩ HXB.out rfl y0 y1 y2 oB hoL).symm))
                    have eB : (outs2[m + (2 + n + j)]'hiB).1 = oB ++ (⟨#[32]⟩ : ByteArray) ++ q1 ++ (⟨#[44]⟩ : ByteArray) ++ q2 := L_inj (tB.trans (by rw [← hq1, ← hq2]; exact (L_want 3 x ⟨#[114, 51]⟩ xB rfl HXB.out y0 y1 y2 oB hoL).symm))
                    have hp1s : p1.size = 2 := by rw [← hp1]; exact selBA_size y1 2 xB _ hxs rfl
                    have hp2s : p2.size = 2 := by rw [← hp2]; exact selBA_size y2 2 xB _ hxs rfl
                    have hq1s : q1.size = 2 := by rw [← hq1]; exact selBA_size y1 2 _ xB rfl hxs
                    have hq2s : q2.size = 2 := by rw [← hq2]; exact selBA_size y2 2 _ xB rfl hxs
                    rw [eA, Nat.add_mul] at cA
                    rw [eB, Nat.add_mul] at cB
                    rw [tF, Nat.add_mul] at cB1
                    rw [← HBR.out.cell (p := ⟨g, m * 4 + (1 + j) * 4, none⟩) hglt] at cA
                    rw [← HBR.out.cell (p := ⟨g, m * 4 + (2 + n + j) * 4, none⟩) hglt] at cB
                    rw [← HBR.out.cell (p := ⟨g, m * 4 + (2 + n + j) * 4 + 1, none⟩) hglt] at cB1
                    have cg1 := (HBR.out.cell (p := ⟨g, m * 4 + 1, none⟩) hglt).trans cg1
                    have hglt' : g < wr.heap.size := Nat.lt_of_lt_of_le hglt HBR.out.size
                    have HP1 := hid hp1
                    have HP2 := hid hp2
                    have HQ1 := hid hq1
                    have HQ2 := hid hq2
                    clear ok0 ok1 ok2 hy0 hy1 hy2 hoB hoL tA tB tF eA eB ey hbo hp1 hp2 hq1 hq2
                    have i1 : (0 : Int) ≤ (j : Int) := Int.natCast_nonneg _
                    have i2 : (j : Int) < (ts.length : Int) := by omega
                    have dn : decide ((j : Int) < n) = true := by simp; omega
                    have y0n : (0 : Int) ≤ (y0 : Int) := Int.natCast_nonneg _
                    have y1n : (0 : Int) ≤ (y1 : Int) := Int.natCast_nonneg _
                    have y2n : (0 : Int) ≤ (y2 : Int) := Int.natCast_nonneg _
                    go_upto_region 47 with (first | (go_at_call 6; refine (pick_nat z0 3 y0 _ OK0.out ⟨by omega, by omega⟩ HY0.out).mono ?_; rintro e wz ⟨rfl, rfl⟩))
                    have hb5 : Below wr.heap.size wr ((wr.alloc (.cells #[.string xB, .string ⟨#[114, 48]⟩] 9)).alloc (.cells #[.string ⟨#[114, 51]⟩, .string xB] 9)) := ((Below.refl _ _).alloc (Nat.le_refl _) _).alloc (by simp) _
                    have hra := (RowT.new wr 9 [.string xB, .string ⟨#[114, 48]⟩]).alloc (.cells #[.string ⟨#[114, 51]⟩, .string xB] 9)
                    have hrb := RowT.new (wr.alloc (.cells #[.string xB, .string ⟨#[114, 48]⟩] 9)) 9 [.string ⟨#[114, 51]⟩, .string xB]
                    have hsz5 : (wr.alloc (.cells #[.string xB, .string ⟨#[114, 48]⟩] 9)).heap.size = wr.heap.size + 1 := by simp
                    rw [hsz5] at hrb
                    have ca1 := (row_sel hra.cell (show y1 < 2 by omega)).trans (by rw [HP1.out])
                    have ca2 := (row_sel hra.cell (show y2 < 2 by omega)).trans (by rw [HP2.out])
                    have cb1 := (row_sel hrb.cell (show y1 < 2 by omega)).trans (by rw [HQ1.out])
                    have cb2 := (row_sel hrb.cell (show y2 < 2 by omega)).trans (by rw [HQ2.out])
                    have c1 := (hb5.cell (p := ⟨b, off + j * 3 + 1, none⟩) hbl2').trans c1
                    have c2 := (hb5.cell (p := ⟨b, off + j * 3 + 2, none⟩) hbl2').trans c2
                    have cA := (hb5.cell (p := ⟨g, m * 4 + (1 + j) * 4, none⟩) hglt').trans cA
                    have cB := (hb5.cell (p := ⟨g, m * 4 + (2 + n + j) * 4, none⟩) hglt').trans cB
                    have cB1 := (hb5.cell (p := ⟨g, m * 4 + (2 + n + j) * 4 + 1, none⟩) hglt').trans cB1
                    have cg1 := (hb5.cell (p := ⟨g, m * 4 + 1, none⟩) hglt').trans cg1
                    have HB5 := hid (HBR.out.trans (hb5.mono HBR.out.size))
                    clear hra hrb hsz5 hb5
                    generalize (wr.alloc (.cells #[.string xB, .string ⟨#[114, 48]⟩] 9)).alloc (.cells #[.string ⟨#[114, 51]⟩, .string xB] 9) = w5 at HB5 ca1 ca2 cb1 cb2 c1 c2 cA cB cB1 cg1 ⊢
                    generalize wr.heap.size = ga at ca1 ca2 cb1 cb2 ⊢
                    generalize ga + 1 = gb at cb1 cb2 ⊢
                    clear co c0 hgo hbl2' hglt'
                    refine un_reg47 _ (by kernel_rfl) b off ts.length cb g m M cap n j ga gb oB p1 p2 q1 q2 z1 z2 y1 y2 w5 _ _ _ _ _ _ _ _ _ _ _ _ _ _ _ _ _ _ _ _ _ _ _ _ _ _ _ _ _ _ _ _ _ _ _ _ _ _ _ _ _ _ _ _ _ _ _ _ _ _ _ _ _ _ _ _ _ _ _ _ _ _ _ _ _ _ _ _ _ _ _ _ _ _ _ _ _ _ _ _ _ _ _ _ _ _ _ _ _ _ _ _ _ _ _ _ _ _ _ _ _ _ _ _ _ _ _ _ _ _ _ _ _ _ _ _ _ _ _ _ _ _ _ _ _ _ _ _ _ _ _ _ _ _ _ _ _ _ _ _ _ _ _ _ _ _ _ _ _ _ _ _ _ _ _ _ _ _ _ _ _ _ _ _ _ _ _ _ _ _ _ _ _ _ _ _ _ _ _ _ _ _ _ _ _ _ _ _ _ _ _ _ _ _ _ _ _ _ _ _ _ _ _ _ _ _ _ _ _ _ _ _ _ _ _ _ _ _ _ _ _ _ _ _ _ _ _ _ _ _ _ _ _ _ _ _ _ _ _ _ _ _ _ _ _ _ _ _ _ _ _ _ _ _ _ _ _ _ _ _ _ _ _ _ _ _ _ _ _ _ _ _ _ _ _ _ _ _ _ _ _ _ _ _ _ _ _ _ _ _ _ _ _ _ _ _ _ _ _ _ _ _ _ _ _ _ _ _ _ _ _ _ _ _ _ _ _ _ _ _ _ _ _ _ _ _ _ _ _ _ _ _ _ _ _ _ _ _ _ _ _ _ _ _ _ _ _ _ _ _ _ _ _ _ _ _ _ _ hj hn8 hm80 hM2 hjt (by omega) hM1 (by omega) (by omega) hos hp1s hp2s hq1s hq2s OK1.out OK2.out HY1.out HY2.out c1 c2 ca1 ca2 cb1 cb2 cA cB ?_
                    intro nq u288 u289 u290 u291 u292 u293 u294 u295 u296 u297 u298 u299 u300 u301 u302 u303 u304 u305 u306 u307 u308 u309 u310 u311 u312 u313 u314 u315 u316 u317 u318 u319 u320 u321 u322 u323 u324 u325 u326 u327 u328 u329 u330 u331 u332 u333 u334 u335 u336 u337 u338 u339 u340 u341 u342 u343 u344 u345 u346 u347 u348 u349 u350
                    go_wp2_with fail
                    go_big_quiet (fail)
                    go_wp2_with fail
                    go_roundw
                    case rel => exact ⟨j + 1, by omega, by go_num, by first | exact below_drewN (below_drewN HB5.out _) _ | exact below_drewN HB5.out _⟩
                    case measure => simp [intOf]; omega
                · have dn : decide ((j : Int) < n) = false := by simp; omega
                  go_wp2_with fail
                  go_ret
                  exact ⟨rfl, HW4.out.bel.trans (HBR.out.mono HW4.out.bel.size)⟩

end Go.Proofs.YtcepppilgncdmaaDoor
