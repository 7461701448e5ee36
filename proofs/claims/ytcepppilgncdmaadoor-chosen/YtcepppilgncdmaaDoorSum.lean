/-
  What an expression that is put together term by term comes to, by the plain functions; nothing of the program stands here.
-/
import Derived.Test.YtcepppilgncdmaaDoorMath
namespace Go.Proofs.YtcepppilgncdmaaDoor

/-- The digits of a number, ahead of more. -/
def digitsTo : Nat → Nat → List UInt8 → List UInt8
  | 0, _, l => l
  | f + 1, n, l => if n < 10 then (48 + UInt8.ofNat n) :: l else digitsTo f (n / 10) ((48 + UInt8.ofNat (n % 10)) :: l)

def pickI (c n : Int) : Int := (if c < 0 then -(c + 1) else c) % n

theorem pickI_bd (c n : Int) (h : 0 < n) : 0 ≤ pickI c n ∧ pickI c n < n := by
  unfold pickI
  exact ⟨Int.emod_nonneg _ (by omega), Int.emod_lt_of_pos _ h⟩

def signish : List UInt8 → Prop
  | [] => True
  | c :: _ => (c.toNat : Int) = 43 ∨ (c.toNat : Int) = 45 ∨ (c.toNat : Int) = 42

/-- t is a text of a term of the number n, whatever sign follows. -/
structure TermOf (at_ : Int) (N : List (List UInt8 × Int)) (t : List UInt8) (n : Int) : Prop where
  reads : ∀ r, signish r → term at_ N (t ++ r) = (n, t.length, 0)
  lo : -1000000 ≤ n
  hi : n ≤ 1000000
  head : ∃ c r, t = c :: r ∧ (c.toNat : Int) ≠ 45

theorem TermOf.readT {at_ : Int} {N : List (List UInt8 × Int)} {t : List UInt8} {n : Int} (h : TermOf at_ N t n) (r : List UInt8) (hr : signish r) : readT at_ N (t ++ r) = (n, r, 0) := by
  have h1 := h.lo
  have h2 := h.hi
  unfold Go.Proofs.YtcepppilgncdmaaDoor.readT
  rw [h.reads r hr]
  simp only
  rw [if_neg (by simp), if_neg (by omega), List.drop_left]

theorem readT_len (at_ : Int) (N : List (List UInt8 × Int)) (l : List UInt8) {x : Int} {r : List UInt8} {y : Int} (h : readT at_ N l = (x, r, y)) : r.length ≤ l.length := by
  unfold readT at h
  split at h
  · injection h with _ h; injection h with h _; rw [← h]; simp
  · split at h
    · injection h with _ h; injection h with h _; rw [← h]; simp
    · injection h with _ h; injection h with h _; rw [← h]; simp

theorem eval_fuel (at_ : Int) (N : List (List UInt8 × Int)) : ∀ (n : Nat) (l : List UInt8), l.length ≤ n → ∀ f g sm sg, l.length ≤ f → l.length ≤ g → eval at_ N (f + 1) sm sg l = eval at_ N (g + 1) sm sg l := by
  intro n
  induction n with
  | zero =>
    intro l hl f g sm sg _ _
    have : l = [] := List.eq_nil_of_length_eq_zero (by omega)
    subst this
    rw [eval_bad (x := 0) (r := []) (y := 4) rfl (by omega), eval_bad (x := 0) (r := []) (y := 4) rfl (by omega)]
  | succ n ih =>
    intro l hl f g sm sg hf hg
    rcases hr : readT at_ N l with ⟨x, r, y⟩
    have hlen := readT_len at_ N l hr
    by_cases hy : y = 0
    · subst hy
      rcases hk : reck sm sg x with ⟨z, q⟩
      by_cases hq : q = 0
      · subst hq
        rw [eval_on hr f hk, eval_on hr g hk]
        cases r with
        | nil => rfl
        | cons c r =>
          simp only [evalS]
          simp only [List.length_cons] at hlen
          split
          · obtain ⟨f', rfl⟩ : ∃ f', f = f' + 1 := ⟨f - 1, by omega⟩
            obtain ⟨g', rfl⟩ : ∃ g', g = g' + 1 := ⟨g - 1, by omega⟩
            exact ih r (by omega) f' g' z _ (by omega) (by omega)
          · rfl
      · rw [eval_far hr f hk hq, eval_far hr g hk hq]
    · rw [eval_bad hr hy, eval_bad hr hy]

theorem evalS_fuel (at_ : Int) (N : List (List UInt8 × Int)) (r : List UInt8) (f g : Nat) (v : Int) (hf : r.length ≤ f) (hg : r.length ≤ g) : evalS at_ N f v r = evalS at_ N g v r := by
  cases r with
  | nil => rfl
  | cons c r =>
    simp only [List.length_cons] at hf hg
    simp only [evalS]
    split
    · obtain ⟨f', rfl⟩ : ∃ f', f = f' + 1 := ⟨f - 1, by omega⟩
      obtain ⟨g', rfl⟩ : ∃ g', g = g' + 1 := ⟨g - 1, by omega⟩
      exact eval_fuel at_ N _ r (Nat.le_refl _) f' g' v _ (by omega) (by omega)
    · rfl

/-- l is the text so far, v what it comes to. -/
structure SoFar (at_ : Int) (N : List (List UInt8 × Int)) (l : List UInt8) (v : Int) : Prop where
  goes : ∀ r, signish r → ∀ f, r.length ≤ f → value at_ N (l ++ r) = evalS at_ N f v r
  lo : -1000000 ≤ v
  hi : v ≤ 1000000

theorem SoFar.first {at_ : Int} {N : List (List UInt8 × Int)} {t : List UInt8} {n : Int} (h : TermOf at_ N t n) : SoFar at_ N t n := by
  have h1 := h.lo
  have h2 := h.hi
  refine ⟨fun r hr f hf => ?_, h1, h2⟩
  have hrd := h.readT r hr
  obtain ⟨c, t', rfl, hc⟩ := h.head
  have hk : reck 0 43 n = (n, 0) := by
    unfold reck step
    simp only [Int.zero_add, if_true]
    rw [if_neg (by omega)]
  rw [List.cons_append, value_plain _ _ _ _ hc, ← List.cons_append, eval_on hrd _ hk]
  exact evalS_fuel _ _ _ _ _ _ (by simp; omega) hf

theorem SoFar.minus {at_ : Int} {N : List (List UInt8 × Int)} {t : List UInt8} {n : Int} (h : TermOf at_ N t n) : SoFar at_ N (45 :: t) (-n) := by
  have h1 := h.lo
  have h2 := h.hi
  refine ⟨fun r hr f hf => ?_, by omega, by omega⟩
  have hrd := h.readT r hr
  have hk : reck 0 45 n = (-n, 0) := by
    unfold reck step
    simp
    omega
  rw [List.cons_append, value_minus _ _ _ _ (by decide)]
  simp only [evalS]
  rw [if_pos (by decide)]
  rw [show ((45 : UInt8).toNat : Int) = 45 from by decide, eval_on hrd _ hk]
  exact evalS_fuel _ _ _ _ _ _ (by simp) hf

theorem SoFar.more {at_ : Int} {N : List (List UInt8 × Int)} {l t : List UInt8} {v n z : Int} (h : SoFar at_ N l v) (ht : TermOf at_ N t n) (c : UInt8) (hc : (c.toNat : Int) = 43 ∨ (c.toNat : Int) = 45 ∨ (c.toNat : Int) = 42)
    (hk : reck v c.toNat n = (z, 0)) : SoFar at_ N (l ++ c :: t) z := by
  obtain ⟨z1, z2⟩ := reck_bd hk
  refine ⟨fun r hr f hf => ?_, z1, z2⟩
  have hrd := ht.readT r hr
  rw [List.append_assoc, List.cons_append, h.goes (c :: (t ++ r)) hc ((t ++ r).length + 1) (by simp)]
  simp only [evalS]
  rw [if_pos hc, eval_on hrd _ hk]
  exact evalS_fuel _ _ _ _ _ _ (by simp) hf

theorem SoFar.far {at_ : Int} {N : List (List UInt8 × Int)} {l t : List UInt8} {v n z : Int} (h : SoFar at_ N l v) (ht : TermOf at_ N t n) (c : UInt8) (hc : (c.toNat : Int) = 43 ∨ (c.toNat : Int) = 45 ∨ (c.toNat : Int) = 42)
    (hk : reck v c.toNat n = (z, 7)) : value at_ N (l ++ c :: t) = (0, 7) := by
  have hrd := ht.readT [] trivial
  rw [List.append_nil] at hrd
  rw [h.goes (c :: t) hc (t.length + 1) (by simp)]
  simp only [evalS]
  rw [if_pos hc, eval_far hrd _ hk (by omega)]

theorem SoFar.done {at_ : Int} {N : List (List UInt8 × Int)} {l : List UInt8} {v : Int} (h : SoFar at_ N l v) : value at_ N l = (v, 0) := by
  have := h.goes [] trivial 0 (by simp)
  rw [List.append_nil] at this
  rw [this]; rfl

theorem reck_in {v c n : Int} (h1 : -1000000 ≤ step v c n) (h2 : step v c n ≤ 1000000) : reck v c n = (step v c n, 0) := by
  unfold reck; rw [if_neg (by omega)]
theorem reck_out {v c n : Int} (h : step v c n < -1000000 ∨ 1000000 < step v c n) : reck v c n = (0, 7) := by
  unfold reck; rw [if_pos h]

/-! The terms: the address, a number's digits, a name. -/

theorem termOf_dot (at_ : Int) (N : List (List UInt8 × Int)) (h1 : -1000000 ≤ at_) (h2 : at_ ≤ 1000000) : TermOf at_ N [46] at_ :=
  ⟨fun r _ => rfl, h1, h2, 46, [], rfl, by decide⟩

def foldD : Int → List UInt8 → Int
  | v, [] => v
  | v, c :: r => foldD (min (v * 10 + hexv c.toNat) 1000001) r

theorem digit_byte (d : Nat) (h : d < 10) : ((48 + UInt8.ofNat d).toNat : Int) = 48 + d := by
  rw [UInt8.toNat_add, UInt8.toNat_ofNat']
  have : (48 : UInt8).toNat = 48 := rfl
  omega

theorem hexv_digit (d : Nat) (h : d < 10) : hexv ((48 + UInt8.ofNat d).toNat : Int) = d := by
  rw [digit_byte d h]; unfold hexv; rw [if_pos (by omega)]; omega

def allDig (l : List UInt8) : Prop := ∀ c ∈ l, 48 ≤ (c.toNat : Int) ∧ (c.toNat : Int) ≤ 57

theorem digitsTo_all : ∀ (f n : Nat) (l : List UInt8), allDig l → allDig (digitsTo f n l) := by
  intro f
  induction f with
  | zero => intro n l h; exact h
  | succ f ih =>
    intro n l h
    simp only [digitsTo]
    split
    · rename_i hn
      intro c hc
      rcases List.mem_cons.1 hc with rfl | hc
      · rw [digit_byte n hn]; omega
      · exact h c hc
    · apply ih
      intro c hc
      rcases List.mem_cons.1 hc with rfl | hc
      · rw [digit_byte (n % 10) (by omega)]; omega
      · exact h c hc

theorem digitsTo_fold : ∀ (f n : Nat) (l : List UInt8), n < f → n ≤ 1000000 → foldD 0 (digitsTo f n l) = foldD n l := by
  intro f
  induction f with
  | zero => intro n l h _; omega
  | succ f ih =>
    intro n l h hn
    simp only [digitsTo]
    split
    · rename_i h10
      simp only [foldD]
      rw [hexv_digit n h10]
      congr 1
      omega
    · rename_i h10
      rw [ih (n / 10) _ (by omega) (by omega)]
      simp only [foldD]
      rw [hexv_digit (n % 10) (by omega)]
      congr 1
      omega

theorem digitsTo_ne : ∀ (f n : Nat) (l : List UInt8), 0 < f → ∃ c r, digitsTo f n l = c :: r := by
  intro f
  induction f with
  | zero => intro n l h; omega
  | succ f ih =>
    intro n l _
    simp only [digitsTo]
    split
    · exact ⟨_, _, rfl⟩
    · cases f with
      | zero => exact ⟨_, _, rfl⟩
      | succ f => exact ih _ _ (by omega)

theorem digs_stop (v : Int) (k : Nat) (r : List UInt8) (h : signish r) : digs 10 v k r = (v, k) := by
  cases r with
  | nil => rfl
  | cons c r =>
    have hx : hexv (c.toNat : Int) = 16 := by
      unfold hexv
      have h' : (c.toNat : Int) = 43 ∨ (c.toNat : Int) = 45 ∨ (c.toNat : Int) = 42 := h
      rw [if_neg (by omega), if_neg (by omega)]
    simp only [digs]
    rw [if_neg (by rw [hx]; omega)]

theorem digs_digits : ∀ (ds : List UInt8) (v : Int) (k : Nat) (r : List UInt8), allDig ds → digs 10 v k (ds ++ r) = digs 10 (foldD v ds) (k + ds.length) r := by
  intro ds
  induction ds with
  | nil => intro v k r _; rfl
  | cons c ds ih =>
    intro v k r h
    have hc := h c (List.mem_cons_self ..)
    have hx : hexv (c.toNat : Int) < 10 := by unfold hexv; rw [if_pos hc]; omega
    simp only [List.cons_append, digs, foldD]
    rw [if_pos hx, ih _ _ _ (fun d hd => h d (List.mem_cons_of_mem _ hd))]
    simp only [List.length_cons]
    congr 1
    omega

theorem termOf_number (at_ : Int) (N : List (List UInt8 × Int)) (n : Nat) (hn : n ≤ 1000000) : TermOf at_ N (digitsTo (n + 1) n []) n := by
  have ha := digitsTo_all (n + 1) n [] (by intro c hc; cases hc)
  have hf := digitsTo_fold (n + 1) n [] (by omega) hn
  obtain ⟨c, t, ht⟩ := digitsTo_ne (n + 1) n [] (by omega)
  have hc := ha c (by rw [ht]; exact List.mem_cons_self ..)
  refine ⟨fun r hr => ?_, by omega, by omega, c, t, ht, by omega⟩
  have hd := digs_digits (digitsTo (n + 1) n []) 0 0 r ha
  rw [digs_stop _ _ r hr, hf] at hd
  have hd2 : digs 10 0 0 (digitsTo (n + 1) n [] ++ r) = ((n : Int), (digitsTo (n + 1) n []).length) := by rw [hd, Nat.zero_add]; rfl
  have hdig : digB (c.toNat : Int) = true := by unfold digB; simp; omega
  rw [ht] at hd2 ⊢
  rw [List.cons_append] at hd2 ⊢
  simp only [term]
  rw [if_pos hdig, hd2]

theorem wordLen_all : ∀ (t r : List UInt8), allNb t = true → signish r → wordLen (t ++ r) = t.length := by
  intro t
  induction t with
  | nil =>
    intro r _ hr
    cases r with
    | nil => rfl
    | cons c r =>
      have h' : (c.toNat : Int) = 43 ∨ (c.toNat : Int) = 45 ∨ (c.toNat : Int) = 42 := hr
      have hn : nbB (c.toNat : Int) = false := by unfold nbB; apply decide_eq_false; omega
      simp [wordLen, hn]
  | cons c t ih =>
    intro r h hr
    simp only [allNb, List.all_cons, Bool.and_eq_true] at h
    simp only [List.cons_append, wordLen]
    rw [if_pos h.1, ih r h.2 hr]
    rfl

theorem termOf_name (at_ : Int) (N : List (List UInt8 × Int)) (t : List UInt8) (n : Int) (hn : nameB t = true) (hf : findN N t = some n) (h1 : -1000000 ≤ n) (h2 : n ≤ 1000000) : TermOf at_ N t n := by
  cases t with
  | nil => simp [nameB] at hn
  | cons c t =>
    have hn0 := hn
    simp only [nameB, Bool.and_eq_true, Bool.not_eq_true'] at hn
    obtain ⟨⟨⟨_, hd⟩, _⟩, ha⟩ := hn
    have hc : nbB (c.toNat : Int) = true := by simp only [allNb, List.all_cons, Bool.and_eq_true] at ha; exact ha.1
    have hc' := of_decide_eq_true hc
    refine ⟨fun r hr => ?_, h1, h2, c, t, rfl, by omega⟩
    have hw := wordLen_all (c :: t) r ha hr
    have hnm : named ((c :: t) ++ r) N = (n, (c :: t).length, 0) := by
      unfold named
      rw [hw, List.take_left, if_pos hn0, hf]
    rw [List.cons_append] at hnm ⊢
    simp only [term]
    rw [if_neg (by rw [hd]; simp), if_neg (by omega), if_neg (by omega), if_neg (by omega), hnm]

/-! The names that are handed in. -/

/-- The names that are handed in: "one", and a name for each of the first k values. -/
def namesOf (zs : List Int) (k : Nat) : List (List UInt8 × Int) := ([111, 110, 101], 1) :: (List.range k).map fun j => ([118, 48 + UInt8.ofNat j], pickI (zs.getD j 0) 2000001 - 1000000)

theorem namesOf_succ (zs : List Int) (k : Nat) : namesOf zs (k + 1) = namesOf zs k ++ [([118, 48 + UInt8.ofNat k], pickI (zs.getD k 0) 2000001 - 1000000)] := by
  unfold namesOf
  rw [List.range_succ, List.map_append, List.cons_append]; rfl
theorem namesOf_length (zs : List Int) (k : Nat) : (namesOf zs k).length = k + 1 := by simp [namesOf]

theorem findN_append (l m : List (List UInt8 × Int)) (x : List UInt8) (h : ∀ p ∈ l, p.1 ≠ x) : findN (l ++ m) x = findN m x := by
  induction l with
  | nil => rfl
  | cons p l ih =>
    obtain ⟨a, b⟩ := p
    have hp : a ≠ x := h (a, b) (List.mem_cons_self ..)
    simp only [List.cons_append, findN]
    rw [if_neg hp, ih (fun p hp => h p (List.mem_cons_of_mem _ hp))]
theorem findN_more (l m : List (List UInt8 × Int)) (x : List UInt8) (v : Int) (h : findN l x = some v) : findN (l ++ m) x = some v := by
  induction l with
  | nil => cases h
  | cons p l ih =>
    obtain ⟨a, b⟩ := p
    simp only [List.cons_append, findN] at h ⊢
    split
    · rename_i ha; rw [if_pos ha] at h; exact h
    · rename_i ha; rw [if_neg ha] at h; exact ih h

theorem names_apart (zs : List Int) (k j : Nat) (hk : k ≤ j) (hj : j < 10) : ∀ p ∈ namesOf zs k, p.1 ≠ [118, 48 + UInt8.ofNat j] := by
  intro p hp
  unfold namesOf at hp
  rcases List.mem_cons.1 hp with rfl | hp
  · intro h; injection h with h _; exact absurd h (by decide)
  · obtain ⟨i, hi, rfl⟩ := List.mem_map.1 hp
    have hi := List.mem_range.1 hi
    intro h
    injection h with _ h
    injection h with h _
    have e1 := digit_byte i (by omega)
    have e2 := digit_byte j (by omega)
    rw [h] at e1
    omega

theorem find_names (zs : List Int) (k : Nat) (hk : k ≤ 9) : ∀ i (h : i < (namesOf zs k).length), findN (namesOf zs k) (namesOf zs k)[i].1 = some (namesOf zs k)[i].2 := by
  induction k with
  | zero =>
    intro i h
    rw [namesOf_length] at h
    have : i = 0 := by omega
    subst this
    rfl
  | succ k ih =>
    intro i h
    rw [namesOf_length] at h
    have hl := namesOf_length zs k
    simp only [namesOf_succ]
    by_cases hi : i < k + 1
    · rw [List.getElem_append_left (by omega)]
      exact findN_more _ _ _ _ (ih (by omega) i (by omega))
    · have : i = k + 1 := by omega
      subst this
      rw [List.getElem_append_right (by omega)]
      simp only [hl, Nat.sub_self, List.getElem_cons_zero]
      rw [findN_append _ _ _ (names_apart zs k k (Nat.le_refl _) (by omega))]
      simp [findN]

theorem names_good (zs : List Int) (k : Nat) (hk : k ≤ 9) : ∀ i (h : i < (namesOf zs k).length), nameB (namesOf zs k)[i].1 = true ∧ -1000000 ≤ (namesOf zs k)[i].2 ∧ (namesOf zs k)[i].2 ≤ 1000000 ∧ (namesOf zs k)[i].1.length ≤ 3 := by
  intro i h
  have hm : (namesOf zs k)[i] ∈ namesOf zs k := List.getElem_mem h
  generalize (namesOf zs k)[i] = p at hm ⊢
  unfold namesOf at hm
  rcases List.mem_cons.1 hm with rfl | hm
  · exact ⟨by decide, by decide, by decide, by decide⟩
  · obtain ⟨j, hj, rfl⟩ := List.mem_map.1 hm
    have hj := List.mem_range.1 hj
    have hb := pickI_bd (zs.getD j 0) 2000001 (by omega)
    refine ⟨?_, by show -1000000 ≤ pickI (zs.getD j 0) 2000001 - 1000000; omega, by show pickI (zs.getD j 0) 2000001 - 1000000 ≤ 1000000; omega, by show 2 ≤ 3; decide⟩
    show nameB [118, 48 + UInt8.ofNat j] = true
    have hd := digit_byte j (by omega)
    have h1 : nbB ((48 + UInt8.ofNat j).toNat : Int) = true := by rw [hd]; unfold nbB; apply decide_eq_true; omega
    have h2 : regB [118, 48 + UInt8.ofNat j] = false := by simp [regB]
    simp only [nameB, allNb, List.all_cons, List.all_nil, h1, h2]
    rfl

theorem termOf_names (at_ : Int) (zs : List Int) (k : Nat) (hk : k ≤ 9) (i : Nat) (h : i < (namesOf zs k).length) : TermOf at_ (namesOf zs k) (namesOf zs k)[i].1 (namesOf zs k)[i].2 := by
  obtain ⟨h1, h2, h3, _⟩ := names_good zs k hk i h
  exact termOf_name at_ _ _ _ h1 (find_names zs k hk i h) h2 h3

end Go.Proofs.YtcepppilgncdmaaDoor
