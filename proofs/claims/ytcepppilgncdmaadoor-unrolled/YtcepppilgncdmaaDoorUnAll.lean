/-
  Lines that somebody would write by hand, and from where they come: what Unrolled keeps from round to round.
-/
import Derived.Test.YtcepppilgncdmaaDoorOpRun
namespace Go.Proofs.YtcepppilgncdmaaDoor
open Go.RowKit
attribute [local go_sem ↓] Go.wp_at_zero Go.wp_at_succ

def fromOf (n i : Nat) : Nat := n + 7 + i / max n 1
def outsOf (n : Nat) : Nat → List ByteArray → List (List UInt8 × Nat)
  | _, [] => []
  | i, w :: r => (L w, fromOf n i) :: outsOf n (i + 1) r
theorem outsOf_append (n : Nat) (b : List ByteArray) : ∀ (a : List ByteArray) (i : Nat), outsOf n i (a ++ b) = outsOf n i a ++ outsOf n (i + a.length) b
  | [], i => by simp [outsOf]
  | w :: a, i => by
    simp only [List.cons_append, outsOf, List.length_cons, outsOf_append n b a (i + 1)]
    rw [show i + 1 + a.length = i + (a.length + 1) from by omega]
theorem outsOf_length (n : Nat) : ∀ (a : List ByteArray) (i : Nat), (outsOf n i a).length = a.length
  | [], i => rfl
  | w :: a, i => by simp [outsOf, outsOf_length n a (i + 1)]
theorem outsOf_get (n : Nat) : ∀ (a : List ByteArray) (i j : Nat) (h : j < a.length), (outsOf n i a)[j]? = some (L a[j], fromOf n (i + j))
  | [], i, j, h => by simp at h
  | w :: a, i, 0, h => by simp [outsOf]
  | w :: a, i, j + 1, h => by
    simp only [outsOf, List.getElem?_cons_succ, List.getElem_cons_succ]
    rw [outsOf_get n a (i + 1) j (by simpa using h), show i + 1 + j = i + (j + 1) from by omega]
theorem outsOf_block (n k : Nat) : ∀ (a : List ByteArray) (j : Nat), j + a.length ≤ n → outsOf n (k * n + j) a = a.map fun w => (L w, n + 7 + k)
  | [], j, _ => rfl
  | w :: a, j, h => by
    have ih := outsOf_block n k a (j + 1) (by simp at h; omega)
    simp only [List.length_cons] at h
    have hn : 0 < n := by omega
    have e : fromOf n (k * n + j) = n + 7 + k := by
      unfold fromOf
      rw [Nat.max_eq_left (by omega), Nat.mul_comm, Nat.mul_add_div hn, Nat.div_eq_of_lt (by omega)]
      rfl
    simp only [outsOf, List.map_cons]
    rw [e, show k * n + j + 1 = k * n + (j + 1) from by omega, ih]

/-- The text so far. -/
def UnHead (sB : ByteArray) (bs : List (Nat × Nat × Nat)) : Prop := L sB = textL (macOneLn :: bs.map bodyLn)
def UnAll (bs : List (Nat × Nat × Nat)) (sB : ByteArray) (ls : List (List UInt8)) (wants : List ByteArray) (k : Nat) : Prop :=
  L sB = textL ls ∧ sB.size ≤ 348 + 13 * k ∧ ls.length = bs.length + 6 + k ∧ wants.length = k * bs.length ∧ UnRun bs ls (outsOf bs.length 0 wants) k

theorem UnAll.start {bs : List (Nat × Nat × Nat)} {sB sC : ByteArray} (h : UnHead sB bs) (hs : sB.size ≤ 300) (hb : ∀ b ∈ bs, bodyOk b)
    (hc : sC = sB ++ ⟨#[46, 101, 110, 100, 10, 46, 109, 97, 99, 114, 111, 32, 116, 119, 111, 44, 120, 10, 111, 110, 101, 32, 92, 120, 44, 114, 48, 10, 108, 92, 120, 58, 32, 111, 110, 101, 32, 114, 51, 44, 92, 120, 10, 46, 101, 110, 100, 10]⟩) : UnAll bs sC (headLs bs) [] 0 := by
  subst hc
  refine ⟨?_, ?_, ?_, by simp, UnRun.start bs hb⟩
  · rw [L_append, h]
    show _ = textL ((macOneLn :: bs.map bodyLn) ++ [opEnd, macTwoLn, twoLnA, twoLnB, opEnd])
    rw [textL_append]
    rfl
  · rw [ByteArray.size_append]
    show sB.size + 48 ≤ _
    omega
  · simp [headLs]
theorem UnAll.call {bs : List (Nat × Nat × Nat)} {sB sC : ByteArray} {ls : List (List UInt8)} {wants news : List ByteArray} {k : Nat} (h : UnAll bs sB ls wants k) (hb : ∀ b ∈ bs, bodyOk b) (h8 : bs.length ≤ 8) (x y : Nat) (hx : x < 4) (hy : y < 4) (hl : L sC = L sB ++ (callLn (x, y) ++ [10])) (hn : news.map L = bs.map (wantLn (rgB x) (rgB y))) (hk : k < 10) :
    UnAll bs sC (ls ++ [callLn (x, y)]) (wants ++ news) (k + 1) := by
  obtain ⟨h1, h2, h3, h4, h5⟩ := h
  have hnl : news.length = bs.length := by have := congrArg List.length hn; simpa using this
  have hkn : k * bs.length ≤ 9 * 8 := Nat.mul_le_mul (by omega) h8
  have hz : sC.size = sB.size + 13 := by
    rw [← L_length, hl, List.length_append, L_length]
    simp [callLn, rgB]
  refine ⟨by rw [hl, h1, textL_append, textL_one], by omega, by simp [h3]; omega, by rw [List.length_append, h4, hnl, Nat.add_mul, Nat.one_mul], ?_⟩
  have hr := h5.call hb x y hx hy (by rw [outsOf_length, h4]; omega) (by omega)
  have e : outsOf bs.length 0 (wants ++ news) = outsOf bs.length 0 wants ++ bs.map fun b => (wantLn (rgB x) (rgB y) b, ls.length + 1) := by
    rw [outsOf_append, Nat.zero_add, h4]
    have := outsOf_block bs.length k news 0 (by omega)
    rw [Nat.add_zero] at this
    rw [this]
    have e2 : (news.map fun w => (L w, bs.length + 7 + k)) = (news.map L).map fun l => (l, bs.length + 7 + k) := by simp
    rw [e2, hn, List.map_map, h3]
    congr 1
    apply List.map_congr_left
    intro b _
    simp only [Function.comp]
    rw [show bs.length + 7 + k = bs.length + 6 + k + 1 from by omega]
  rw [e]
  exact hr

theorem digits_four (m : Nat) (h : m < 4) : digitsTo (m + 1) m [] = [if m = 0 then 48 else if m = 1 then 49 else if m = 2 then 50 else 51] := by
  match m, h with
  | 0, _ => rfl
  | 1, _ => rfl
  | 2, _ => rfl
  | 3, _ => rfl
set_option maxHeartbeats 400000 in
theorem reg_any (c : Int) (m : Nat) (w : World) (hc : i64ok c) (hm : pickI c 4 = m) (hm4 : m < 4) :
    Calls Tryd.prog 7 #[.int .i64 c] w fun e w' => ∃ t : ByteArray, L t = rgB m ∧ t.size = 2 ∧ e = .returned (.string t) ∧ Below w.heap.size w w' := by
  have HC := hid hc
  have HM := hid hm
  clear hc hm
  go_enter Tryd.func7, Tryd.ntmps7
  go_wp2_with (first | (go_at_call 6; refine (pick_nat c 4 m _ HC.out ⟨by omega, by omega⟩ HM.out).mono ?_; rintro e wz ⟨rfl, rfl⟩) | (go_at_call 9; refine (number_any m _ (by omega)).mono ?_; rintro e w2 ⟨t, ht, hts, rfl, hb⟩))
  go_ret
  have hL : L (⟨#[114]⟩ ++ t) = rgB m := by rw [L_push, ht, digits_four m hm4]; rfl
  exact ⟨_, hL, by rw [← L_length, hL]; rfl, rfl, hb⟩

theorem own_at {w : World} {base e size n g : Nat} {v : Value} {xs : List Value} (h : w.ownsRow base e size v n xs) (hg : v.ownBlock = some g) : g < w.heap.size ∧ base ≤ g := by
  rcases h.2 with ⟨rfl, _⟩ | ⟨g', cap, cur, rfl, h2, h3, _⟩
  · cases hg
  · simp only [Value.ownBlock, Option.some.injEq] at hg
    subst hg
    exact ⟨(Array.getElem?_eq_some_iff.1 h3).1, h2⟩
theorem L_selBA (k : Nat) (a b : ByteArray) : L (selBA k a b) = selB (L a) (L b) k := by
  unfold selBA selB
  by_cases h : k = 0
  · rw [if_pos h, if_pos h]
  · rw [if_neg h, if_neg h]
theorem selBA_size (k n : Nat) (a b : ByteArray) (ha : a.size = n) (hb : b.size = n) : (selBA k a b).size = n := by
  unfold selBA
  by_cases h : k = 0
  · rw [if_pos h, ha]
  · rw [if_neg h, hb]

theorem L_want (x y : Nat) (xB yB : ByteArray) (hx : L xB = rgB x) (hy : L yB = rgB y) (y0 y1 y2 : Nat) (oB : ByteArray) (ho : L oB = opB y0) : L (oB ++ (⟨#[32]⟩ : ByteArray) ++ selBA y1 xB yB ++ (⟨#[44]⟩ : ByteArray) ++ selBA y2 xB yB) = wantLn (rgB x) (rgB y) (y0, y1, y2) := by
  simp only [L_append, L_selBA, hx, hy, ho, wantLn]
  rfl

end Go.Proofs.YtcepppilgncdmaaDoor
