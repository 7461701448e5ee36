/-
  The text that Short of package masonkeep puts together, in plain words.
  The names and lines of the program that Short makes, in plain words.
-/
import Derived.Test.YtcepppilgncdmaaGreatDoorBS02
namespace Go.Proofs.YtcepppilgncdmaaGreatDoor

/-- Jumps out of raw numbers. -/
def jOf (n : Nat) (z : Int × Int) : JmpP := ⟨(pickI z.1 10).toNat, (pickI z.2 n).toNat, (pickI z.2 4).toNat, (pickI z.2 60).toNat⟩
def jsOf (zs : List (Int × Int)) : List JmpP := (zs.take 90).map (jOf (min zs.length 90))
theorem jsOf_len (zs : List (Int × Int)) : (jsOf zs).length = min zs.length 90 := by
  simp [jsOf]; omega
theorem jsOf_at (zs : List (Int × Int)) (i : Nat) (h : i < (jsOf zs).length) (h' : i < zs.length) : (jsOf zs)[i] = jOf (min zs.length 90) zs[i] := by
  simp [jsOf]
theorem pick_lt (c : Int) (n : Nat) (h : 0 < n) : (pickI c n).toNat < n := by
  have := pickI_bd c n (by omega)
  omega
theorem jsOf_ok (zs : List (Int × Int)) : ∀ j ∈ jsOf zs, OkJ (jsOf zs).length j := by
  intro j hj
  rw [jsOf_len]
  have hp : 0 < min zs.length 90 := by
    have := List.length_pos_of_mem hj
    rw [jsOf_len] at this
    exact this
  simp only [jsOf, List.mem_map] at hj
  obtain ⟨z, _, rfl⟩ := hj
  exact ⟨pick_lt z.1 10 (by omega), pick_lt z.2 _ hp, pick_lt z.2 4 (by omega), pick_lt z.2 60 (by omega)⟩
theorem jsOf_picks (zs : List (Int × Int)) (i : Nat) (h : i < (jsOf zs).length) (h' : i < zs.length) : pickI zs[i].1 10 = ((jsOf zs)[i].kind : Nat) ∧ pickI zs[i].2 ((jsOf zs).length : Nat) = ((jsOf zs)[i].to : Nat) ∧ pickI zs[i].2 4 = ((jsOf zs)[i].reg : Nat) ∧ pickI zs[i].2 60 = ((jsOf zs)[i].room : Nat) := by
  rw [jsOf_at zs i h h', jsOf_len]
  have hp : 0 < min zs.length 90 := by rw [jsOf_len] at h; omega
  have a1 := pickI_bd zs[i].1 10 (by omega)
  have a2 := pickI_bd zs[i].2 ((min zs.length 90 : Nat) : Int) (by omega)
  have a3 := pickI_bd zs[i].2 4 (by omega)
  have a4 := pickI_bd zs[i].2 60 (by omega)
  simp only [jOf]
  exact ⟨by omega, by omega, by omega, by omega⟩
/-- How many bytes at most. -/
def totJ (j : JmpP) : Nat := if j.kind < 6 then 3 else if j.kind < 9 then j.room else 1
def totTo (js : List JmpP) (i : Nat) : Nat := ((js.take i).map totJ).sum
theorem totTo_succ (js : List JmpP) (i : Nat) (h : i < js.length) : totTo js (i + 1) = totTo js i + totJ js[i] := by
  unfold totTo
  rw [List.take_succ_eq_append_getElem h, List.map_append, List.sum_append]
  simp only [List.map_cons, List.map_nil, List.sum_cons, List.sum_nil, Nat.add_zero]
theorem totTo_bd (js : List JmpP) (hj : ∀ j ∈ js, OkJ js.length j) : ∀ i, totTo js i ≤ 60 * i
  | 0 => by simp [totTo]
  | i + 1 => by
    have ih := totTo_bd js hj i
    by_cases h : i < js.length
    · rw [totTo_succ js i h]
      have := (hj js[i] (List.getElem_mem h)).room
      unfold totJ
      split
      · omega
      · split <;> omega
    · have : totTo js (i + 1) = totTo js i := by unfold totTo; rw [List.take_of_length_le (by omega), List.take_of_length_le (by omega)]
      omega
theorem size_tot {s : StmP} {i : Nat} {j : JmpP} (h : baseS s = stmJ i j) : sizeP s ≤ totJ j := by
  obtain ⟨hw, _, _, ho, _, hc⟩ := base_fields h
  unfold sizeP totJ
  rw [ho, hc]
  cases kindJ j with
  | jmp hk _ _ h1 _ h2 => rw [h1, if_pos (show j.kind < 6 by omega)]; simp; split <;> omega
  | jz hk _ _ h1 _ h2 => rw [h1, if_pos (show j.kind < 6 by omega)]; simp; split <;> omega
  | space hk _ _ h1 _ h2 => rw [h1, h2, if_neg (show ¬ j.kind < 6 by omega), if_pos (show j.kind < 9 by omega)]; simp
  | nop hk _ _ h1 _ h2 => rw [h1, if_neg (show ¬ j.kind < 6 by omega), if_neg (show ¬ j.kind < 9 by omega)]; simp
theorem offs_tot {js : List JmpP} {l : List StmP} (h : l.map baseS = stms 0 js) : ∀ i, i ≤ js.length → offs l i ≤ totTo js i
  | 0, _ => by simp [offs, totTo]
  | i + 1, hi => by
    have ih := offs_tot h i (by omega)
    have hl := Laid.len h
    obtain ⟨j, hj, hb⟩ := base_at h (i := i) (s := l[i]'(by omega)) (List.getElem?_eq_getElem _)
    have hs := size_tot hb
    rw [offs_succ (List.getElem?_eq_getElem (show i < l.length by omega)), totTo_succ js i (by omega)]
    have hjj : js[i]'(by omega) = j := by
      rw [List.getElem?_eq_getElem (by omega)] at hj
      simpa using hj
    rw [hjj]
    omega

theorem shLns_append : ∀ (a b : List JmpP) (k : Nat), shLns k (a ++ b) = shLns k a ++ shLns (k + a.length) b
  | [], b, k => by simp [shLns]
  | j :: a, b, k => by
    simp only [List.cons_append, shLns, List.length_cons]
    rw [shLns_append a b (k + 1), show k + 1 + a.length = k + (a.length + 1) from by omega]
theorem textL_next (js : List JmpP) (i : Nat) (h : i < js.length) : textL (shLns 0 (js.take (i + 1))) = textL (shLns 0 (js.take i)) ++ (shLn i js[i] ++ [10]) := by
  rw [List.take_succ_eq_append_getElem h, shLns_append, textL_append, Nat.zero_add, List.length_take, Nat.min_eq_left (by omega)]
  simp only [shLns]
  rw [textL_one]
theorem pN_ne (i : Nat) : pN i ≠ [] := by simp [pN]
theorem shLn_jmp (i : Nat) (j : JmpP) (h : j.kind < 4) : shLn i j = pN i ++ [58, 32] ++ [106, 109, 112, 32] ++ pN j.to := by
  unfold shLn
  rw [textP_head]
  simp [shW, opJ, opsJ, h, headP, oJmp, pN_ne, joined]
theorem shLn_jz (i : Nat) (j : JmpP) (h : 4 ≤ j.kind) (h2 : j.kind < 6) : shLn i j = pN i ++ [58, 32] ++ [106, 122, 32, 114] ++ digN j.reg ++ [44] ++ pN j.to := by
  unfold shLn
  rw [textP_head]
  simp [shW, opJ, opsJ, show ¬ j.kind < 4 by omega, h2, headP, oJz, pN_ne, joined, rN]
theorem shLn_space (i : Nat) (j : JmpP) (h : 6 ≤ j.kind) (h2 : j.kind < 9) : shLn i j = pN i ++ [58, 32] ++ [46, 115, 112, 97, 99, 101, 32] ++ digN j.room := by
  unfold shLn
  rw [textP_head]
  simp [shW, opJ, opsJ, show ¬ j.kind < 4 by omega, show ¬ j.kind < 6 by omega, h2, headP, oSpace, pN_ne, joined]
theorem shLn_nop (i : Nat) (j : JmpP) (h : 9 ≤ j.kind) : shLn i j = pN i ++ [58, 32] ++ [110, 111, 112] := by
  unfold shLn
  rw [textP_head]
  simp [shW, opJ, opsJ, show ¬ j.kind < 4 by omega, show ¬ j.kind < 6 by omega, show ¬ j.kind < 9 by omega, headP, oNop, pN_ne, joined]
theorem shLn_len (n i : Nat) (j : JmpP) (hi : i < 90) (hn : n ≤ 90) (hj : OkJ n j) : (shLn i j).length ≤ 20 := by
  have h1 := (pN_name i hi).2
  have h2 := (pN_name j.to (by have := hj.to; omega)).2
  have h3 := (rN_reg j.reg hj.reg).2.2
  have h4 := digN_len j.room hj.room
  simp only [rN, List.length_cons] at h3
  by_cases k1 : j.kind < 4
  · rw [shLn_jmp i j k1]; simp; omega
  · by_cases k2 : j.kind < 6
    · rw [shLn_jz i j (by omega) k2]; simp; omega
    · by_cases k3 : j.kind < 9
      · rw [shLn_space i j (by omega) k3]; simp; omega
      · rw [shLn_nop i j (by omega)]; simp; omega
theorem text_len (js : List JmpP) (hn : js.length ≤ 90) (hj : ∀ j ∈ js, OkJ js.length j) : ∀ i, i ≤ js.length → (textL (shLns 0 (js.take i))).length ≤ 21 * i
  | 0, _ => by simp [shLns, textL]
  | i + 1, hi => by
    have ih := text_len js hn hj i (by omega)
    have := shLn_len js.length i js[i] (by omega) hn (hj _ (List.getElem_mem _))
    rw [textL_next js i (by omega)]
    simp only [List.length_append, List.length_cons, List.length_nil]
    omega

end Go.Proofs.YtcepppilgncdmaaGreatDoor

namespace Go.Proofs.YtcepppilgncdmaaGreatDoor

theorem names_each {l : List StmP} : ∀ {js : List JmpP} {k : Nat}, l.map baseS = stms k js → (namesP l).length = l.length ∧ ∀ (i : Nat) s, l[i]? = some s → (namesP l)[i]? = some (pN (k + i), s.at_) := by
  induction l with
  | nil => intro js k _; exact ⟨rfl, fun i s h => by simp at h⟩
  | cons s r ih =>
    intro js k h
    cases js with
    | nil => simp [stms] at h
    | cons j js =>
      simp only [List.map_cons, stms, List.cons.injEq] at h
      obtain ⟨h1, h2⟩ := h
      obtain ⟨i1, i2⟩ := ih h2
      obtain ⟨hw, _⟩ := base_fields h1
      have hn : nameP s = [(pN k, s.at_)] := by
        unfold nameP
        rw [hw]
        rw [if_neg (show ¬ (shW k j).op = opSet from (opJ_facts j).2.2.2.2.1), if_neg (show ¬ (shW k j).label = [] from pN_ne k)]
        rfl
      have hc : namesP (s :: r) = nameP s ++ namesP r := rfl
      rw [hc, hn]
      refine ⟨by simp [i1], fun i t ht => ?_⟩
      cases i with
      | zero => simp at ht ⊢; rw [ht]
      | succ i =>
        simp at ht ⊢
        rw [i2 i t ht, show k + 1 + i = k + (i + 1) from by omega]
theorem offs_flat (all : List (List UInt8 × Int)) : ∀ (l : List StmP), (∀ s ∈ l, (bytesP all s).2.length = sizeP s) → (l.flatMap fun s => (bytesP all s).2).length = offs l l.length ∧ ∀ (i : Nat) s, l[i]? = some s → ∀ d, d < sizeP s → (l.flatMap fun s => (bytesP all s).2)[offs l i + d]? = (bytesP all s).2[d]?
  | [], _ => ⟨rfl, fun i s h => by simp at h⟩
  | s :: r, h => by
    obtain ⟨i1, i2⟩ := offs_flat all r (fun x hx => h x (by simp [hx]))
    have h0 := h s (by simp)
    refine ⟨by simp only [List.flatMap_cons, List.length_append, List.length_cons]; rw [i1, h0, offs_cons], fun i t ht d hd => ?_⟩
    cases i with
    | zero =>
      simp at ht
      subst ht
      rw [offs_zero, Nat.zero_add, List.flatMap_cons, List.getElem?_append_left (by omega)]
    | succ i =>
      simp at ht
      rw [offs_cons, List.flatMap_cons, List.getElem?_append_right (by omega), show sizeP s + offs r i + d - (bytesP all s).2.length = offs r i + d from by omega]
      exact i2 i t ht d hd

end Go.Proofs.YtcepppilgncdmaaGreatDoor
