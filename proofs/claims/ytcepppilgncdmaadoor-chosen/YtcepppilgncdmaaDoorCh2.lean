/-
  What Chosen answers: true, whatever numbers it is given.
-/
import Derived.Test.YtcepppilgncdmaaDoorCh
namespace Go.Proofs.YtcepppilgncdmaaDoor
open Go.RowKit
attribute [local go_sem ↓] Go.wp_at_zero Go.wp_at_succ

theorem own_cap {w : World} {base e size n g cap : Nat} {xs : List Value} (h : w.ownsRow base e size (.slice (some ⟨g, 0, none⟩) n cap) n xs) : n ≤ cap := by
  rcases h.2 with ⟨h', _⟩ | ⟨g', cap', cur, h', _, _, hc, _⟩
  · simp at h'
  · simp only [Value.slice.injEq, true_and] at h'
    omega
theorem alloc_new2 (w : World) (a b : Obj) : ((w.alloc a).alloc b).heap[w.heap.size + 1]? = some b := by simpa using heap_alloc_new (w.alloc a) b
/-- Are the first conditions so? -/
def soF (q : List (Bool × Bool)) (j : Nat) : Bool := ((q.reverse.map (·.1)).take j).all id
def opAt (q : List (Bool × Bool)) (j : Nat) : Bool := (q.reverse.map (·.1)).getD j false
theorem soF_zero (q : List (Bool × Bool)) : soF q 0 = true := by simp [soF]
theorem soF_succ (q : List (Bool × Bool)) (j : Nat) (h : j < q.length) : soF q (j + 1) = (soF q j && opAt q j) := by
  unfold soF opAt
  rw [List.take_add_one, List.all_append, List.getD_eq_getElem?_getD, List.getElem?_eq_getElem (by simpa using h)]
  simp
theorem soF_all (q : List (Bool × Bool)) (n : Nat) (h : q.length = n) : soF q n = q.all (·.1) := by
  unfold soF
  rw [List.take_of_length_le (by simp [h])]
  rw [List.all_map, List.all_reverse]
  rfl
theorem opC_at (q : List (Bool × Bool)) (j : Nat) (h : j < q.length) : (opC q)[j]? = some (.bool (opAt q j)) := by
  unfold opC opAt
  rw [List.getElem?_eq_getElem (by simpa using h), List.getD_eq_getElem?_getD, List.getElem?_eq_getElem (by simpa using h)]
  simp
theorem L_lit (a : List UInt8) (b : ByteArray) (h : b.data.toList = a) : L b = a := h

def ChEnd (sB : ByteArray) (ls : List (List UInt8)) (q : List (Bool × Bool)) (fs : List Nat) : Prop := L sB = textL ls ∧ ChRun ls q fs
/-- Behind the first loop. -/
def ChOut (B : Nat) (w wx : World) (s o wn fr : Value) : Prop :=
  ∃ (sB : ByteArray) (ls : List (List UInt8)) (q : List (Bool × Bool)) (fs : List Nat) (n m k : Nat) (t : Value), k ≤ 100 ∧ s = .string sB ∧ wn = .int .i64 (m : Nat) ∧ ChW B wx o t fr n m q fs ∧ n ≤ 8 ∧ Below B w wx ∧ ChAll sB ls q fs k

set_option maxRecDepth 100000 in
set_option maxHeartbeats 2000000 in
theorem Chosen_any (al : Option Addr) (cl : Nat) (zs : List Int) (w : World) (hzs : IntsAt w al zs) (_hlz : zs.length ≤ maxLen) (hm : MaxAt w) :
    Calls Tryd.prog 4 #[.slice al zs.length cl] w fun e w' => e = .returned (.bool true) ∧ Below w.heap.size w w' := by
  have HZS := hid hzs
  have HM := hid hm
  unfold maxLen at _hlz
  clear hzs hm
  obtain ⟨ib, hib, hbz, hb1, hb2⟩ := info_parts infoBool
  obtain ⟨ii, hii, hiz, hi1, hi2⟩ := info_parts infoInt
  go_enter Tryd.func4, Tryd.ntmps4
  go_upto_block 0 with (first | (go_at_call 5; refine (works_any _ HM.out).mono ?_; rintro e w1 ⟨rfl, hb⟩))
  have hw1 := hb.size
  have HB1 := hid hb
  clear hb
  go_cut [4, 5, 7, 8] (fun s o wn fr wx => ChOut w.heap.size w wx s o wn fr)
  case first =>
    go_wp2_with fail
    go_loopg [4, 5, 6, 7, 8, 9, 10] 100 (fun gk s o t wn fr ln i wr => ∃ (sB : ByteArray) (ls : List (List UInt8)) (q : List (Bool × Bool)) (fs : List Nat) (n m k : Nat) (lv : Int), gk + k = 100 ∧ k ≤ zs.length ∧ s = .string sB ∧ i = .int .i64 k ∧ wn = .int .i64 (m : Nat) ∧ ln = .int .i64 lv ∧ lv = (k : Int) + 1 ∧ ChW w.heap.size wr o t fr n m q fs ∧ n ≤ 8 ∧ m ≤ 101 ∧ Below w.heap.size w wr ∧ ChAll sB ls q fs k)
    case atStart => 
      exact ⟨⟨#[46, 115, 101, 116, 32, 121, 101, 115, 44, 49, 10]⟩, [setLn], [], [], 0, 1, 0, 1, rfl, Nat.zero_le _, rfl, rfl, rfl, rfl, rfl, ⟨World.ownsRow_nil _ _ _ _, World.ownsRow_nil _ _ _ _, ⟨rfl, Or.inr ⟨w1.heap.size, 1, _, rfl, hw1, heap_alloc_new w1 _, Nat.le_refl _, by decide, rfl, rfl⟩⟩, (fun g h => by cases h), rfl, rfl⟩, by omega, by omega, HB1.out.alloc hw1 _, rfl, by decide, rfl, Nat.le_refl _, ChRun.start⟩
    case round =>
      obtain ⟨sB, ls, q, fs, n, m, k, lv, hgk, hkl, rfl, rfl, rfl, rfl, hlv, hW, hn8, hm101, hbr, hall⟩ := hrel
      have hsz := hall.2.1
      have HW := hid hW
      have HBR := hid hbr
      have HALL := hid hall
      have HLV := hid hlv
      have hlv1 : 0 ≤ lv ∧ lv ≤ 101 := by omega
      obtain ⟨a5, c5, hv5⟩ := own_form hW.opn
      obtain ⟨a6, c6, hv6⟩ := own_form hW.trn
      have hbs : w.heap.size ≤ wr.heap.size := hbr.size
      obtain ⟨a8, c8, hv8⟩ := own_form hW.frm
      subst hv5 hv6 hv8
      clear hW hbr hall hlv
      by_cases hgo : k < zs.length ∧ k < 100
      · obtain ⟨hg1, hg2⟩ := hgo
        rcases HZS.out with h | ⟨b, off, ha, hbl, hc⟩
        · rw [h] at hg1; simp at hg1
        · subst ha
          obtain ⟨hcell, hok⟩ := hc k hg1
          rw [← HBR.out.cell (p := ⟨b, off + k, none⟩) hbl] at hcell
          have d1 : decide ((k : Int) < zs.length) = true := by simp; omega
          have d2 : decide ((k : Int) < 100) = true := by simp; omega
          have hi0' : (0 : Int) ≤ (k : Int) := Int.natCast_nonneg _
          have hi1' : (k : Int) < (zs.length : Int) := by omega
          clear hc
          have HOK := hid hok
          obtain ⟨c, hc, hc10⟩ := pickI_nat zs[k] 10 (by omega)
          have HC := hid hc
          clear hc hok
          go_upto_block 2 with (first | (go_at_call 6; refine (pick_nat zs[k] 10 c _ HOK.out ⟨by omega, by omega⟩ HC.out).mono ?_; rintro e wz ⟨rfl, rfl⟩))
          go_cut [13] (fun so wx => so = .bool (q.all (·.1)) ∧ wx = wz)
          case first =>
            go_wp2_with fail
            go_loop [13, 14] (fun so j => ∃ jn : Nat, jn ≤ n ∧ j = .int .i64 jn ∧ so = .bool (soF q jn)) (fun _ j => n - (intOf j).toNat)
            case atStart => exact ⟨0, Nat.zero_le _, rfl, by rw [soF_zero]⟩
            case round =>
              obtain ⟨jn, hjn, rfl, rfl⟩ := hrel
              by_cases hlt : jn < n
              · have hql : jn < q.length := by have := HW.out.len; omega
                have HS := hid (soF_succ q jn hql)
                obtain ⟨g5, c5', hf, hg5, hgl5⟩ := HW.out.opn.form (by omega)
                simp only [Value.slice.injEq, true_and] at hf
                obtain ⟨rfl, rfl⟩ := hf
                have co : wz.cell? ⟨g5, jn, none⟩ = some (.bool (opAt q jn)) := by
                  rw [HW.out.opn.cellAt jn (by omega), opC_at q jn hql]
                have hj0 : (0 : Int) ≤ (jn : Int) := Int.natCast_nonneg _
                have hj1 : (jn : Int) < (n : Int) := by omega
                have dn : decide ((jn : Int) < n) = true := by simp; omega
                generalize opAt q jn = ob at co HS
                generalize soF q jn = ta at HS ⊢
                cases ta with
                | true =>
                  go_wp2_with fail
                  go_round
                  case rel => exact ⟨jn + 1, by omega, by go_num, by rw [HS.out]; rfl⟩
                  case measure => simp [intOf]; omega
                | false =>
                  go_wp2_with fail
                  go_round
                  case rel => exact ⟨jn + 1, by omega, by go_num, by rw [HS.out]; rfl⟩
                  case measure => simp [intOf]; omega
              · have hjm : jn = n := by omega
                subst hjm
                have HA := hid (soF_all q jn HW.out.len)
                go_wp2_with fail
                go_meet
                case rel => exact ⟨by rw [HA.out], rfl⟩
          case rest =>
            obtain ⟨rfl, rfl⟩ := hcut
            obtain ⟨so, hso⟩ : ∃ so, q.all (·.1) = so := ⟨_, rfl⟩
            rw [hso]
            have HSO := hid hso
            have hLS := HALL.out.2.2.1
            have hFL := HALL.out.2.2.2.1
            have HLS := hid hLS
            clear hso hcell
            by_cases hA : c < 3 ∧ n < 8
            · obtain ⟨hc3, hn8'⟩ := hA
              have t3 : decide ((c : Int) < 3) = true := by simp; omega
              have n8 : decide ((n : Int) < 8) = true := by simp; omega
              have HR := hid (HALL.out.2.2.2.2.ifs c hc3 (by rw [HW.out.len]; exact hn8'))
              rcases (show c = 0 ∨ c = 1 ∨ c = 2 by omega) with rfl | rfl | rfl
              · go_wp2_with (first | (at_builtin; refine wpList_append_lies _ rfl (.tmp 79) (.tmp 82) 38 rfl w.heap.size 4 ib _ 1 1 Tryd.underlying38 hib hbz hb1 hb2 rfl (by omega) (.slice a5 n c5) n (opC q) rfl ((HW.out.opn.alloc _).alloc _) ⟨_, 0, none⟩ 1 1 [.bool true] rfl rfl (World.news_of_block (cs := #[.bool true]) (t := 4) (fr := (0, 0)) (alloc_new2 _ _ _)) (by simp [Value.oneCell']) (by omega) (by unfold maxLen; omega) (by omega) (by simp; omega) _ rfl ?_; intro g1 cc1 wa r1 k1 a1 l1) | (at_builtin; refine wpList_append_lies _ rfl (.tmp 84) (.tmp 85) 38 rfl w.heap.size 4 ib _ 1 1 Tryd.underlying38 hib hbz hb1 hb2 rfl (by omega) (.slice a6 n c6) n (tuC q) rfl ((((HW.out.below ((Below.refl _ _).alloc (Nat.le_refl _) _)).below ((Below.refl _ _).alloc (Nat.le_refl _) _)).mid k1).alloc _) ⟨_, 0, none⟩ 1 1 [.bool false] rfl rfl (World.news_of_block (cs := #[.bool false]) (t := 4) (fr := (0, 0)) (heap_alloc_new _ _)) (by simp [Value.oneCell']) (by omega) (by unfold maxLen; omega) (by omega) (by have := k1.size; simp at this ⊢; omega) _ rfl ?_; intro g2 cc2 wb r2 k2 a2 l2))
                go_roundg (gk - 1)
                case measure => omega
                case rel => exact ⟨_, _, (true, false) :: q, fs, n + 1, m, k + 1, lv + 1, by omega, by omega, rfl, by go_num, rfl, rfl, by have := HLV.out; omega, ((HW.out.below ((Below.refl _ _).alloc (Nat.le_refl _) _)).below ((Below.refl _ _).alloc (Nat.le_refl _) _)).push true r1 k1 a1 l1 r2 k2 a2, by omega, hm101, ((((HBR.out.alloc hbs _).alloc (by simp; omega) _).grown k1 (by simp; omega) (fun j hj => (own_lt HW.out.opn hj).2)).alloc (by have := k1.size; simp at this ⊢; omega) _).grown k2 (by have := k1.size; simp at this ⊢; omega) (fun j hj => (own_lt HW.out.trn hj).2), HALL.out.more (ifLn 0) (by simp only [L_append, List.append_assoc]; rfl) (by decide) HR.out (by simp)⟩
              · go_wp2_with (first | (at_builtin; refine wpList_append_lies _ rfl (.tmp 79) (.tmp 82) 38 rfl w.heap.size 4 ib _ 1 1 Tryd.underlying38 hib hbz hb1 hb2 rfl (by omega) (.slice a5 n c5) n (opC q) rfl ((HW.out.opn.alloc _).alloc _) ⟨_, 0, none⟩ 1 1 [.bool false] rfl rfl (World.news_of_block (cs := #[.bool false]) (t := 4) (fr := (0, 0)) (alloc_new2 _ _ _)) (by simp [Value.oneCell']) (by omega) (by unfold maxLen; omega) (by omega) (by simp; omega) _ rfl ?_; intro g1 cc1 wa r1 k1 a1 l1) | (at_builtin; refine wpList_append_lies _ rfl (.tmp 84) (.tmp 85) 38 rfl w.heap.size 4 ib _ 1 1 Tryd.underlying38 hib hbz hb1 hb2 rfl (by omega) (.slice a6 n c6) n (tuC q) rfl ((((HW.out.below ((Below.refl _ _).alloc (Nat.le_refl _) _)).below ((Below.refl _ _).alloc (Nat.le_refl _) _)).mid k1).alloc _) ⟨_, 0, none⟩ 1 1 [.bool false] rfl rfl (World.news_of_block (cs := #[.bool false]) (t := 4) (fr := (0, 0)) (heap_alloc_new _ _)) (by simp [Value.oneCell']) (by omega) (by unfold maxLen; omega) (by omega) (by have := k1.size; simp at this ⊢; omega) _ rfl ?_; intro g2 cc2 wb r2 k2 a2 l2))
                go_roundg (gk - 1)
                case measure => omega
                case rel => exact ⟨_, _, (false, false) :: q, fs, n + 1, m, k + 1, lv + 1, by omega, by omega, rfl, by go_num, rfl, rfl, by have := HLV.out; omega, ((HW.out.below ((Below.refl _ _).alloc (Nat.le_refl _) _)).below ((Below.refl _ _).alloc (Nat.le_refl _) _)).push false r1 k1 a1 l1 r2 k2 a2, by omega, hm101, ((((HBR.out.alloc hbs _).alloc (by simp; omega) _).grown k1 (by simp; omega) (fun j hj => (own_lt HW.out.opn hj).2)).alloc (by have := k1.size; simp at this ⊢; omega) _).grown k2 (by have := k1.size; simp at this ⊢; omega) (fun j hj => (own_lt HW.out.trn hj).2), HALL.out.more (ifLn 1) (by simp only [L_append, List.append_assoc]; rfl) (by decide) HR.out (by simp)⟩
              · go_wp2_with (first | (at_builtin; refine wpList_append_lies _ rfl (.tmp 79) (.tmp 82) 38 rfl w.heap.size 4 ib _ 1 1 Tryd.underlying38 hib hbz hb1 hb2 rfl (by omega) (.slice a5 n c5) n (opC q) rfl ((HW.out.opn.alloc _).alloc _) ⟨_, 0, none⟩ 1 1 [.bool true] rfl rfl (World.news_of_block (cs := #[.bool true]) (t := 4) (fr := (0, 0)) (alloc_new2 _ _ _)) (by simp [Value.oneCell']) (by omega) (by unfold maxLen; omega) (by omega) (by simp; omega) _ rfl ?_; intro g1 cc1 wa r1 k1 a1 l1) | (at_builtin; refine wpList_append_lies _ rfl (.tmp 84) (.tmp 85) 38 rfl w.heap.size 4 ib _ 1 1 Tryd.underlying38 hib hbz hb1 hb2 rfl (by omega) (.slice a6 n c6) n (tuC q) rfl ((((HW.out.below ((Below.refl _ _).alloc (Nat.le_refl _) _)).below ((Below.refl _ _).alloc (Nat.le_refl _) _)).mid k1).alloc _) ⟨_, 0, none⟩ 1 1 [.bool false] rfl rfl (World.news_of_block (cs := #[.bool false]) (t := 4) (fr := (0, 0)) (heap_alloc_new _ _)) (by simp [Value.oneCell']) (by omega) (by unfold maxLen; omega) (by omega) (by have := k1.size; simp at this ⊢; omega) _ rfl ?_; intro g2 cc2 wb r2 k2 a2 l2))
                go_roundg (gk - 1)
                case measure => omega
                case rel => exact ⟨_, _, (true, false) :: q, fs, n + 1, m, k + 1, lv + 1, by omega, by omega, rfl, by go_num, rfl, rfl, by have := HLV.out; omega, ((HW.out.below ((Below.refl _ _).alloc (Nat.le_refl _) _)).below ((Below.refl _ _).alloc (Nat.le_refl _) _)).push true r1 k1 a1 l1 r2 k2 a2, by omega, hm101, ((((HBR.out.alloc hbs _).alloc (by simp; omega) _).grown k1 (by simp; omega) (fun j hj => (own_lt HW.out.opn hj).2)).alloc (by have := k1.size; simp at this ⊢; omega) _).grown k2 (by have := k1.size; simp at this ⊢; omega) (fun j hj => (own_lt HW.out.trn hj).2), HALL.out.more (ifLn 2) (by simp only [L_append, List.append_assoc]; rfl) (by decide) HR.out (by simp)⟩
            · cases q with
              | nil =>
                have hn0 : n = 0 := by have := HW.out.len; simpa using this.symm
                subst hn0
                have hso : so = true := by have := HSO.out; simpa using this.symm
                subst hso
                have t3 : decide ((c : Int) < 3) = false := by simp; omega
                have hr := HALL.out.2.2.2.2.nop (by omega)
                rw [if_pos (show (([] : List (Bool × Bool)).all (·.1)) = true from rfl)] at hr
                have HR := hid hr
                have HK := hid (show lv + 1 = ((ls.length + 1 : Nat) : Int) by have := HLV.out; omega)
                have hm1 := HW.out.flen
                clear hr
                rcases (show c < 5 ∨ (5 ≤ c ∧ c < 7) ∨ 7 ≤ c by omega) with h5 | ⟨h5, h7⟩ | h7
                · have t5 : decide ((c : Int) < 5) = true := by simp; omega
                  have t7 : decide ((c : Int) < 7) = true := by simp; omega
                  go_wp2_with (first | (at_builtin; refine wpList_append_lies _ rfl (.tmp 60) (.tmp 62) 37 rfl w.heap.size 3 ii _ 1 8 Tryd.underlying37 hii hiz hi1 hi2 rfl (by omega) (.slice a8 m c8) m (frC fs) rfl (HW.out.frm.alloc _) ⟨_, 0, none⟩ 1 1 [.int .i64 (lv + 1)] rfl rfl (World.news_of_block (cs := #[.int .i64 (lv + 1)]) (t := 3) (fr := (0, 0)) (heap_alloc_new _ _)) (by simp [Value.oneCell']) (by omega) (by unfold maxLen; omega) (by omega) (by simp; omega) _ rfl ?_; intro g1 cc1 wa r1 k1 a1 l1))
                  rw [HK.out] at r1
                  go_roundg (gk - 1)
                  case measure => omega
                  case rel => exact ⟨_, _, [], _, 0, m + 1, k + 1, lv + 1, by omega, by omega, rfl, by go_num, by go_num, rfl, by have := HLV.out; omega, (HW.out.below ((Below.refl _ _).alloc (Nat.le_refl _) _)).line _ r1 k1, hn8, by omega, (HBR.out.alloc hbs _).grown k1 (by simp; omega) (fun j hj => (own_lt HW.out.frm hj).2), HALL.out.more nopB (by rw [L_append]; rfl) (by decide) HR.out (by simp)⟩
                · have t5 : decide ((c : Int) < 5) = false := by simp; omega
                  have t7 : decide ((c : Int) < 7) = true := by simp; omega
                  go_wp2_with (first | (at_builtin; refine wpList_append_lies _ rfl (.tmp 60) (.tmp 62) 37 rfl w.heap.size 3 ii _ 1 8 Tryd.underlying37 hii hiz hi1 hi2 rfl (by omega) (.slice a8 m c8) m (frC fs) rfl (HW.out.frm.alloc _) ⟨_, 0, none⟩ 1 1 [.int .i64 (lv + 1)] rfl rfl (World.news_of_block (cs := #[.int .i64 (lv + 1)]) (t := 3) (fr := (0, 0)) (heap_alloc_new _ _)) (by simp [Value.oneCell']) (by omega) (by unfold maxLen; omega) (by omega) (by simp; omega) _ rfl ?_; intro g1 cc1 wa r1 k1 a1 l1))
                  rw [HK.out] at r1
                  go_roundg (gk - 1)
                  case measure => omega
                  case rel => exact ⟨_, _, [], _, 0, m + 1, k + 1, lv + 1, by omega, by omega, rfl, by go_num, by go_num, rfl, by have := HLV.out; omega, (HW.out.below ((Below.refl _ _).alloc (Nat.le_refl _) _)).line _ r1 k1, hn8, by omega, (HBR.out.alloc hbs _).grown k1 (by simp; omega) (fun j hj => (own_lt HW.out.frm hj).2), HALL.out.more nopB (by rw [L_append]; rfl) (by decide) HR.out (by simp)⟩
                · have t5 : decide ((c : Int) < 5) = false := by simp; omega
                  have t7 : decide ((c : Int) < 7) = false := by simp; omega
                  go_wp2_with (first | (at_builtin; refine wpList_append_lies _ rfl (.tmp 60) (.tmp 62) 37 rfl w.heap.size 3 ii _ 1 8 Tryd.underlying37 hii hiz hi1 hi2 rfl (by omega) (.slice a8 m c8) m (frC fs) rfl (HW.out.frm.alloc _) ⟨_, 0, none⟩ 1 1 [.int .i64 (lv + 1)] rfl rfl (World.news_of_block (cs := #[.int .i64 (lv + 1)]) (t := 3) (fr := (0, 0)) (heap_alloc_new _ _)) (by simp [Value.oneCell']) (by omega) (by unfold maxLen; omega) (by omega) (by simp; omega) _ rfl ?_; intro g1 cc1 wa r1 k1 a1 l1))
                  rw [HK.out] at r1
                  go_roundg (gk - 1)
                  case measure => omega
                  case rel => exact ⟨_, _, [], _, 0, m + 1, k + 1, lv + 1, by omega, by omega, rfl, by go_num, by go_num, rfl, by have := HLV.out; omega, (HW.out.below ((Below.refl _ _).alloc (Nat.le_refl _) _)).line _ r1 k1, hn8, by omega, (HBR.out.alloc hbs _).grown k1 (by simp; omega) (fun j hj => (own_lt HW.out.frm hj).2), HALL.out.more nopB (by rw [L_append]; rfl) (by decide) HR.out (by simp)⟩
              | cons p q' =>
                obtain ⟨pb, pt⟩ := p
                obtain ⟨n', rfl⟩ : ∃ n', n = n' + 1 := ⟨q'.length, by have := HW.out.len; simpa using this.symm⟩
                obtain ⟨g5, c5', hf, hg5, hgl5⟩ := HW.out.opn.form (by omega)
                simp only [Value.slice.injEq, true_and] at hf
                obtain ⟨rfl, rfl⟩ := hf
                obtain ⟨g6, c6', hf, hg6, hgl6⟩ := HW.out.trn.form (by omega)
                simp only [Value.slice.injEq, true_and] at hf
                obtain ⟨rfl, rfl⟩ := hf
                have hql : q'.length = n' := by have := HW.out.len; simpa using this
                have co : wc.cell? ⟨g5, n', none⟩ = some (.bool pb) := by
                  rw [HW.out.opn.cellAt n' (by omega), opC_cons, List.getElem?_append_right (by rw [opC_length]; omega), opC_length, hql]; simp
                have ct : wc.cell? ⟨g6, n', none⟩ = some (.bool pt) := by
                  rw [HW.out.trn.cellAt n' (by omega), tuC_cons, List.getElem?_append_right (by rw [tuC_length]; omega), tuC_length, hql]; simp
                have g56 : ¬ g5 = g6 := fun c => HW.out.apart g5 rfl (by rw [c]; rfl)
                have g65 : ¬ g6 = g5 := fun c => g56 c.symm
                have fo := HW.out.opn.frozenAt n'
                have ft := HW.out.trn.frozenAt n'
                have k2 : ((n' + 1 : Nat) : Int) - 1 = (n' : Int) := by omega
                have n0 : decide ((0 : Int) < ((n' + 1 : Nat) : Int)) = true := by simp
                have hcap5 : n' + 1 ≤ c5 := own_cap HW.out.opn
                have hcap6 : n' + 1 ≤ c6 := own_cap HW.out.trn
                rcases (show (c < 3 ∧ n' = 7) ∨ (3 ≤ c ∧ c < 5) ∨ (5 ≤ c ∧ c < 7) ∨ 7 ≤ c by omega) with ⟨h3, h8⟩ | ⟨h3, h5⟩ | ⟨h5, h7⟩ | h7
                · cases pt with
                  | false =>
                    have t3 : decide ((c : Int) < 3) = true := by simp; omega
                    have t5 : decide ((c : Int) < 5) = true := by simp; omega
                    have t7 : decide ((c : Int) < 7) = true := by simp; omega
                    have n8 : decide (((n' + 1 : Nat) : Int) < 8) = false := by simp; omega
                    clear h8
                    go_wp2_with fail
                    go_roundg (gk - 1)
                    case measure => omega
                    case rel => exact ⟨_, _, (!pb, true) :: q', fs, n' + 1, m, k + 1, lv + 1, by omega, by omega, rfl, by go_num, rfl, rfl, by have := HLV.out; omega, HW.out.turn (!pb) true, hn8, hm101, (HBR.out.setCell hg5 _).setCell hg6 _, HALL.out.more opElse (by rw [L_append]; rfl) (by decide) HALL.out.2.2.2.2.turn (by simp)⟩
                  | true =>
                    have t3 : decide ((c : Int) < 3) = true := by simp; omega
                    have t5 : decide ((c : Int) < 5) = true := by simp; omega
                    have t7 : decide ((c : Int) < 7) = true := by simp; omega
                    have n8 : decide (((n' + 1 : Nat) : Int) < 8) = false := by simp; omega
                    clear h8
                    go_wp2_with fail
                    go_roundg (gk - 1)
                    case measure => omega
                    case rel => exact ⟨_, _, q', fs, n', m, k + 1, lv + 1, by omega, by omega, rfl, by go_num, rfl, rfl, by have := HLV.out; omega, HW.out.pop, by omega, hm101, HBR.out, HALL.out.more endifB (by rw [L_append]; rfl) (by decide) HALL.out.2.2.2.2.ends (by simp)⟩
                · cases pt with
                  | false =>
                    have t3 : decide ((c : Int) < 3) = false := by simp; omega
                    have t5 : decide ((c : Int) < 5) = true := by simp; omega
                    go_wp2_with fail
                    go_roundg (gk - 1)
                    case measure => omega
                    case rel => exact ⟨_, _, (!pb, true) :: q', fs, n' + 1, m, k + 1, lv + 1, by omega, by omega, rfl, by go_num, rfl, rfl, by have := HLV.out; omega, HW.out.turn (!pb) true, hn8, hm101, (HBR.out.setCell hg5 _).setCell hg6 _, HALL.out.more opElse (by rw [L_append]; rfl) (by decide) HALL.out.2.2.2.2.turn (by simp)⟩
                  | true =>
                    have t3 : decide ((c : Int) < 3) = false := by simp; omega
                    have t5 : decide ((c : Int) < 5) = true := by simp; omega
                    have t7 : decide ((c : Int) < 7) = true := by simp; omega
                    go_wp2_with fail
                    go_roundg (gk - 1)
                    case measure => omega
                    case rel => exact ⟨_, _, q', fs, n', m, k + 1, lv + 1, by omega, by omega, rfl, by go_num, rfl, rfl, by have := HLV.out; omega, HW.out.pop, by omega, hm101, HBR.out, HALL.out.more endifB (by rw [L_append]; rfl) (by decide) HALL.out.2.2.2.2.ends (by simp)⟩
                · have t3 : decide ((c : Int) < 3) = false := by simp; omega
                  have t5 : decide ((c : Int) < 5) = false := by simp; omega
                  have t7 : decide ((c : Int) < 7) = true := by simp; omega
                  go_wp2_with fail
                  go_roundg (gk - 1)
                  case measure => omega
                  case rel => exact ⟨_, _, q', fs, n', m, k + 1, lv + 1, by omega, by omega, rfl, by go_num, rfl, rfl, by have := HLV.out; omega, HW.out.pop, by omega, hm101, HBR.out, HALL.out.more endifB (by rw [L_append]; rfl) (by decide) HALL.out.2.2.2.2.ends (by simp)⟩
                · have t3 : decide ((c : Int) < 3) = false := by simp; omega
                  have t5 : decide ((c : Int) < 5) = false := by simp; omega
                  have t7 : decide ((c : Int) < 7) = false := by simp; omega
                  have hr := HALL.out.2.2.2.2.nop (by omega)
                  rw [HSO.out] at hr
                  have HR := hid hr
                  have HK := hid (show lv + 1 = ((ls.length + 1 : Nat) : Int) by have := HLV.out; omega)
                  have hm1 := HW.out.flen
                  clear hr
                  cases so with
                  | true =>
                    go_wp2_with (first | (at_builtin; refine wpList_append_lies _ rfl (.tmp 60) (.tmp 62) 37 rfl w.heap.size 3 ii _ 1 8 Tryd.underlying37 hii hiz hi1 hi2 rfl (by omega) (.slice a8 m c8) m (frC fs) rfl (HW.out.frm.alloc _) ⟨_, 0, none⟩ 1 1 [.int .i64 (lv + 1)] rfl rfl (World.news_of_block (cs := #[.int .i64 (lv + 1)]) (t := 3) (fr := (0, 0)) (heap_alloc_new _ _)) (by simp [Value.oneCell']) (by omega) (by unfold maxLen; omega) (by omega) (by simp; omega) _ rfl ?_; intro g1 cc1 wa r1 k1 a1 l1))
                    rw [HK.out] at r1
                    go_roundg (gk - 1)
                    case measure => omega
                    case rel => exact ⟨_, _, _, _, _, m + 1, k + 1, lv + 1, by omega, by omega, rfl, by go_num, by go_num, rfl, by have := HLV.out; omega, (HW.out.below ((Below.refl _ _).alloc (Nat.le_refl _) _)).line _ r1 k1, hn8, by omega, (HBR.out.alloc hbs _).grown k1 (by simp; omega) (fun j hj => (own_lt HW.out.frm hj).2), HALL.out.more nopB (by rw [L_append]; rfl) (by decide) HR.out (by simp)⟩
                  | false =>
                    go_wp2_with fail
                    go_roundg (gk - 1)
                    case measure => omega
                    case rel => exact ⟨_, _, _, fs, _, m, k + 1, lv + 1, by omega, by omega, rfl, by go_num, rfl, rfl, by have := HLV.out; omega, HW.out, hn8, hm101, HBR.out, HALL.out.more nopB (by rw [L_append]; rfl) (by decide) HR.out (by simp)⟩
      · by_cases hg1 : k < zs.length
        · have d1 : decide ((k : Int) < zs.length) = true := by simp; omega
          have d2 : decide ((k : Int) < 100) = false := by simp; omega
          go_wp2_with fail
          go_meet
          case rel => exact ⟨sB, ls, q, fs, n, m, k, _, by omega, rfl, rfl, HW.out, hn8, HBR.out, HALL.out⟩
        · have d1 : decide ((k : Int) < zs.length) = false := by simp; omega
          go_wp2_with fail
          go_meet
          case rel => exact ⟨sB, ls, q, fs, n, m, k, _, by omega, rfl, rfl, HW.out, hn8, HBR.out, HALL.out⟩
  case rest =>
    obtain ⟨sB, ls, q, fs, n, m, k, t, hk100, rfl, rfl, hW, hn8, hbx, hall⟩ := hcut
    have hsz := hall.2.1
    have HW := hid hW
    have HBX := hid hbx
    have HALL := hid hall
    obtain ⟨a5, c5, hv5⟩ := own_form hW.opn
    subst hv5
    have hqn := hW.len
    have hm1 := hW.flen
    obtain ⟨g8, c8, hf8, hg8, hgl8⟩ := hW.frm.form (by omega)
    subst hf8
    clear hW hbx hall
    go_wp2_with fail
    go_loop [4, 15] (fun s i => ∃ (sC : ByteArray) (ls' : List (List UInt8)) (j : Nat), j ≤ n ∧ s = .string sC ∧ i = .int .i64 j ∧ sC.size ≤ 1700 + 7 * j ∧ ChEnd sC ls' (q.drop j) fs) (fun _ i => n - (intOf i).toNat)
    case atStart => exact ⟨sB, ls, 0, Nat.zero_le _, rfl, rfl, by omega, HALL.out.1, HALL.out.2.2.2.2⟩
    case round =>
      obtain ⟨sC, ls', j, hjn, rfl, rfl, hsz, hend⟩ := hrel
      have HEND := hid hend
      clear hend
      by_cases hlt : j < n
      · have dn : decide ((j : Int) < n) = true := by simp; omega
        go_wp2_with fail
        go_round
        case rel =>
          refine ⟨_, ls' ++ [opEndif], j + 1, by omega, rfl, by go_num, ?_, ?_, ?_⟩
          · rw [ByteArray.size_append]; show sC.size + 7 ≤ _; omega
          · rw [L_append, HEND.out.1, textL_append, textL_one]; rfl
          · have := HEND.out.2
            rw [List.drop_eq_getElem_cons (by omega)] at this
            exact this.shut
        case measure => simp [intOf]; omega
      · have hjm : j = n := by omega
        subst hjm
        have hd : q.drop j = [] := List.drop_eq_nil_of_le (by omega)
        have he := HEND.out
        rw [hd] at he
        have hx := mExpand_any sC wc (by unfold maxLen; omega) (HM.out.below HBX.out)
        have hp := he.2.done (by rw [← he.1, L_length]; omega)
        rw [← he.1] at hp
        rw [hp] at hx
        have HX := hid hx
        clear hx hp he hd
        go_wp2_with fail
        refine HX.out.mono ?_
        rintro e w2 ⟨hb2, vl, outs, rfl, ho, h3, hown⟩
        have hlen : outs.length = m := by rw [outs_len ho]; simp; omega
        have h0out : 0 < outs.length := by omega
        have H0OUT := hid h0out
        have hm300 : m ≤ 300 := by omega
        obtain ⟨g, cap, hvl, hgb, hlt2, hcs⟩ := lines_lie hown h0out
        rw [hlen] at hvl
        subst hvl
        have HFR := hid (ownsRow_belowP HW.out.frm hb2)
        have HCS := hid hcs
        have HO := hid ho
        have HB2 := hid (HBX.out.trans (hb2.mono HBX.out.size))
        clear hcs ho hown hb2 h3
        have e0 : ((m : Int) != (m : Int)) = false := by simp
        go_wp2_with fail
        go_loopw [19] (fun i wr => ∃ j : Nat, 1 ≤ j ∧ j ≤ m ∧ i = .int .i64 j ∧ Below w2.heap.size w2 wr) (fun i _ => m - (intOf i).toNat)
        case atStart => exact ⟨1, Nat.le_refl _, by omega, rfl, Below.refl _ _⟩
        case round =>
          obtain ⟨i, hi1, him, rfl, hbr⟩ := hrel
          have HBR := hid hbr
          clear hbr
          by_cases hilt : i < m
          · have hio : i < outs.length := by omega
            obtain ⟨c0, c1, _, _⟩ := HCS.out i hio
            have hg := outs_get HO.out i hio (by simp; omega)
            rw [List.getElem_cons, dif_neg (by omega)] at hg
            simp only [List.getElem_map] at hg
            have hs : outs[i].1 = ⟨#[110, 111, 112]⟩ := L_inj hg.1
            have cf := HFR.out.cellAt i (by omega)
            have hfr : (frC fs)[i]? = some (.int .i64 ((fs[i - 1]'(by omega) : Nat) : Int)) := by
              unfold frC
              rw [List.getElem?_cons, if_neg (by omega), List.getElem?_map, List.getElem?_eq_getElem (by omega)]
              rfl
            rw [hfr] at cf
            rw [hs] at c0
            rw [hg.2] at c1
            rw [← HBR.out.cell (p := ⟨g, i * 4, none⟩) hlt2] at c0
            rw [← HBR.out.cell (p := ⟨g, i * 4 + 1, none⟩) hlt2] at c1
            rw [← HBR.out.cell (p := ⟨g8, i, none⟩) (by have := own_lt HFR.out rfl; exact this.1)] at cf
            generalize fs[i - 1]'(by omega) = fv at c1 cf
            clear hg hs hfr
            have i1 : (0 : Int) ≤ (i : Int) := Int.natCast_nonneg _
            have i2 : (i : Int) < (m : Int) := by omega
            have dn : decide ((i : Int) < m) = true := by simp; omega
            go_wp2_with fail
            go_quiet (fail)
            go_wp2_with fail
            go_roundw
            case rel => exact ⟨i + 1, by omega, by omega, by go_num, below_drewN HBR.out _⟩
            case measure => simp [intOf]; omega
          · have c0 := (HCS.out 0 H0OUT.out).1
            have hg := (outs_get HO.out 0 H0OUT.out (by simp)).1
            have hs : (outs[0]'H0OUT.out).1 = ⟨#[46, 115, 101, 116, 32, 121, 101, 115, 44, 49]⟩ := L_inj hg
            rw [hs, Nat.zero_mul, ← HBR.out.cell (p := ⟨g, 0, none⟩) hlt2] at c0
            clear hg hs
            have dn : decide ((i : Int) < m) = false := by simp; omega
            go_wp2_with fail
            go_ret
            exact ⟨rfl, HB2.out.trans (HBR.out.mono (Nat.le_trans HB2.out.size (Nat.le_refl _)))⟩

end Go.Proofs.YtcepppilgncdmaaDoor
