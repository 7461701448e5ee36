/-
  A statement whose order is left open, by what each of its slots holds once it is written, in whatever order that comes. Nothing of the program stands here.
-/
import Derived.Test.YtcepppilgncdmaaDoorHeap
import Derived.OrdersHeld
namespace Go.Proofs.YtcepppilgncdmaaDoor
open Go.RowKit

/-- Operation o waits for the operation that writes slot d. -/
def depB (ops : Array Oper) (o : Oper) (d : Nat) : Bool := o.after.any fun e => Region.binds .any e && match ops[e.on]? with | some oj => oj.dst == some d | none => false
/-- Each operation that writes slot d waits for operation i. -/
def waitsB (ops : Array Oper) (i d : Nat) : Bool := ops.all fun o => !(o.dst == some d) || o.after.any fun e => Region.binds .any e && e.on == i
/-- Slots are written once each; edges go forward; nothing is guarded. -/
def shapeB (ops : Array Oper) (n : Nat) : Bool :=
  (ops.toList.map fun o => o.dst.getD n).Nodup && ops.all (fun o => match o.dst with | some d => decide (d < n) | none => false) && ops.all (fun o => o.guard.isNone) && (ops.toList.zipIdx.all fun p => p.1.after.all fun e => decide (e.on < p.2))

section
variable {P : Program} {ops : Array Oper} {Q : Exit → Act → World → Prop}

structure InvAt (ops : Array Oper) (m : Nat) (a0 : Act) (R : Nat → Value → World → Prop) (W : World → Prop) (listed : Array Bool) (a : Act) (w : World) : Prop where
  size : listed.size = ops.size
  late : ∀ i, m ≤ i → listed.getD i false = false
  wok : W w
  defers : a.defers = a0.defers
  tmps : a.tmps.size = a0.tmps.size
  got : ∀ (i : Nat) (o : Oper) (d : Nat), ops[i]? = some o → o.dst = some d → listed.getD i false = true → R d (a.tmps.getD d undef) w
  kept : ∀ d, (∀ (i : Nat) (o : Oper), ops[i]? = some o → o.dst = some d → listed.getD i false = false) → a.tmps.getD d undef = a0.tmps.getD d undef
  closed : ∀ (i : Nat) (o : Oper), ops[i]? = some o → listed.getD i false = true → ∀ e ∈ o.after, Region.binds .any e = true → listed.getD e.on false = true

/-- What is asked of operation number i. -/
def StepOk (P : Program) (ops : Array Oper) (Q : Exit → Act → World → Prop) (a0 : Act) (R : Nat → Value → World → Prop) (W : World → Prop) (o : Oper) (i : Nat) : Prop :=
  ∀ a w, W w → (∀ d, depB ops o d = true → R d (a.tmps[d]?.getD undef) w) → (∀ d, waitsB ops i d = true → a.tmps[d]?.getD undef = a0.tmps[d]?.getD undef) →
    Oper.wp P o a w (fun a' w' => ∃ d v, o.dst = some d ∧ a' = a.put (some d) v ∧ Below w.heap.size w w' ∧ W w' ∧ R d v w') Q

def unl (l : List Bool) : Nat := l.countP (! ·)
theorem unl_set : ∀ (l : List Bool) (i : Nat), l[i]? = some false → unl (l.set i true) + 1 = unl l
  | [], i, h => by simp at h
  | b :: l, 0, h => by
    simp at h
    subst h
    simp [unl]
  | b :: l, i + 1, h => by
    have ih := unl_set l i (by simpa using h)
    unfold unl at *
    simp only [List.set_cons_succ, List.countP_cons]
    omega

theorem nodup_at : ∀ (l : List Nat) (i j d : Nat), l.Nodup → l[i]? = some d → l[j]? = some d → i = j
  | [], i, j, d, _, hi, _ => by simp at hi
  | x :: l, 0, 0, d, _, _, _ => rfl
  | x :: l, 0, j + 1, d, h, hi, hj => by
    simp at hi
    subst hi
    exact absurd (List.mem_of_getElem? (by simpa using hj)) (List.nodup_cons.1 h).1
  | x :: l, i + 1, 0, d, h, hi, hj => by
    simp at hj
    subst hj
    exact absurd (List.mem_of_getElem? (by simpa using hi)) (List.nodup_cons.1 h).1
  | x :: l, i + 1, j + 1, d, h, hi, hj => by rw [nodup_at l i j d (List.nodup_cons.1 h).2 (by simpa using hi) (by simpa using hj)]

theorem shape_spec {n : Nat} (h : shapeB ops n = true) : (∀ (i j : Nat) (o o' : Oper) (d : Nat), ops[i]? = some o → ops[j]? = some o' → o.dst = some d → o'.dst = some d → i = j) ∧ (∀ (i : Nat) (o : Oper), ops[i]? = some o → ∃ d, o.dst = some d ∧ d < n) ∧ (∀ (i : Nat) (o : Oper), ops[i]? = some o → o.guard = none) ∧ ∀ (i : Nat) (o : Oper), ops[i]? = some o → ∀ e ∈ o.after, e.on < i := by
  unfold shapeB at h
  simp only [Bool.and_eq_true, decide_eq_true_eq] at h
  obtain ⟨⟨⟨h1, h2⟩, h3⟩, h4⟩ := h
  refine ⟨?_, ?_, ?_, ?_⟩
  · intro i j o o' d hi hj ho ho'
    have hi' : (ops.toList.map fun o => o.dst.getD n)[i]? = some d := by
      rw [List.getElem?_map, Array.getElem?_toList, hi]; simp [ho]
    have hj' : (ops.toList.map fun o => o.dst.getD n)[j]? = some d := by
      rw [List.getElem?_map, Array.getElem?_toList, hj]; simp [ho']
    exact nodup_at _ i j d h1 hi' hj'
  · intro i o hi
    have := Array.all_eq_true_iff_forall_mem.1 h2 o (Array.mem_of_getElem? hi)
    cases hd : o.dst with
    | none => rw [hd] at this; cases this
    | some d => rw [hd] at this; exact ⟨d, rfl, by simpa using this⟩
  · intro i o hi
    have := Array.all_eq_true_iff_forall_mem.1 h3 o (Array.mem_of_getElem? hi)
    simpa using this
  · intro i o hi e he
    have hm : (o, i) ∈ ops.toList.zipIdx := by
      rw [List.mem_zipIdx_iff_getElem?]
      simpa using hi
    have := List.all_eq_true.1 h4 _ hm
    have := Array.all_eq_true_iff_forall_mem.1 this e he
    simpa using this

/-- What operation i waits for, by one look back from behind. -/
def marksGo (ops : Array Oper) : Nat → (Nat → Bool) → Nat → Bool
  | 0, f => f
  | j + 1, f => marksGo ops j (if f j then (fun k => f k || match ops[j]? with | some o => o.after.any fun e => Region.binds .any e && e.on == k | none => false) else f)
def marks (ops : Array Oper) (i : Nat) : Nat → Bool := marksGo ops i fun k => match ops[i]? with | some o => o.after.any fun e => Region.binds .any e && e.on == k | none => false
theorem marksGo_spec (ops : Array Oper) (g : Nat → Prop) (hc : ∀ j o, ops[j]? = some o → g j → ∀ e ∈ o.after, Region.binds .any e = true → g e.on) : ∀ (n : Nat) (f : Nat → Bool), (∀ k, f k = true → g k) → ∀ k, marksGo ops n f k = true → g k
  | 0, _, h, k, hk => h k hk
  | n + 1, f, h, k, hk => by
    refine marksGo_spec ops g hc n _ (fun k' hk' => ?_) k hk
    split at hk'
    · rename_i hf
      rw [Bool.or_eq_true] at hk'
      rcases hk' with h1 | h1
      · exact h k' h1
      · cases ho : ops[n]? with
        | none => rw [ho] at h1; cases h1
        | some o =>
          rw [ho] at h1
          obtain ⟨e, he, hx⟩ := Array.any_eq_true'.1 h1
          rw [Bool.and_eq_true] at hx
          have : e.on = k' := by simpa using hx.2
          rw [← this]
          exact hc n o ho (h n hf) e he hx.1
    · exact h k' hk'
/-- The operations from number m on wait for all ahead. -/
def tailB (ops : Array Oper) (m : Nat) : Bool := (List.range ops.size).all fun i => decide (i < m) || (List.range m).all (marks ops i)

theorem InvAt.tail {m : Nat} {a0 : Act} {R : Nat → Value → World → Prop} {W : World → Prop} {listed : Array Bool} {a : Act} {w : World} (h : InvAt ops m a0 R W listed a w) (ht : tailB ops m = true) {i : Nat} (hi : i ∈ Region.ready .any ops listed) (hm : m ≤ i) : ∀ j, j < m → listed.getD j false = true := by
  intro j hj
  obtain ⟨_, o, ho, haft⟩ := mem_ready.1 hi
  have hlt : i < ops.size := (Array.getElem?_eq_some_iff.1 ho).1
  have h1 := List.all_eq_true.1 ht i (List.mem_range.2 hlt)
  rw [Bool.or_eq_true] at h1
  rcases h1 with h1 | h1
  · simp at h1; omega
  · have h2 := List.all_eq_true.1 h1 j (List.mem_range.2 hj)
    refine marksGo_spec ops (fun k => listed.getD k false = true) (fun j o hj hg e he hb => h.closed j o hj hg e he hb) i _ (fun k hk => ?_) j h2
    rw [ho] at hk
    obtain ⟨e, he, hx⟩ := Array.any_eq_true'.1 hk
    rw [Bool.and_eq_true] at hx
    have : e.on = k := by simpa using hx.2
    rw [← this]
    exact haft e he hx.1

theorem InvAt.some_ready {m : Nat} {a0 : Act} {R : Nat → Value → World → Prop} {W : World → Prop} {listed : Array Bool} {a : Act} {w : World} (h : InvAt ops m a0 R W listed a w) (hord : ∀ (i : Nat) (o : Oper), ops[i]? = some o → ∀ e ∈ o.after, e.on < i) (hr : Region.ready .any ops listed = []) : ∀ i, i < ops.size → listed.getD i false = true := by
  intro i
  induction i using Nat.strongRecOn with
  | ind i ih =>
    intro hi
    cases hl : listed.getD i false with
    | true => rfl
    | false =>
      have hm : i ∈ Region.ready .any ops listed := by
        refine mem_ready.2 ⟨?_, ops[i], Array.getElem?_eq_getElem hi, fun e he hb => ?_⟩
        · have hs : i < listed.size := by rw [h.size]; exact hi
          simp [hs] at hl ⊢
          exact hl
        · exact ih e.on (hord i _ (Array.getElem?_eq_getElem hi) e he) (Nat.lt_trans (hord i _ (Array.getElem?_eq_getElem hi) e he) hi)
      rw [hr] at hm
      cases hm

def putAll (f : Nat → Value) : List Oper → Act → Act
  | [], a => a
  | o :: r, a => putAll f r (a.put o.dst (match o.dst with | some d => f d | none => undef))
theorem putAll_spec (f : Nat → Value) : ∀ (l : List Oper) (a : Act), (putAll f l a).defers = a.defers ∧ (putAll f l a).tmps.size = a.tmps.size ∧ ∀ k, k < a.tmps.size → (putAll f l a).tmps[k]? = if (∃ o ∈ l, o.dst = some k) then some (f k) else a.tmps[k]?
  | [], a => by simp [putAll]
  | o :: r, a => by
    obtain ⟨h1, h2, h3⟩ := putAll_spec f r (a.put o.dst (match o.dst with | some d => f d | none => undef))
    refine ⟨?_, ?_, ?_⟩
    · unfold putAll; rw [h1]; cases o.dst <;> rfl
    · unfold putAll; rw [h2]; cases o.dst <;> simp [Act.put]
    · intro k hk
      have hk' : k < (a.put o.dst (match o.dst with | some d => f d | none => undef)).tmps.size := by cases o.dst <;> simp [Act.put] <;> exact hk
      unfold putAll
      rw [h3 k hk']
      cases hd : o.dst with
      | none => simp [Act.put, hd]
      | some d =>
        by_cases hdk : d = k
        · subst hdk
          simp [Act.put, hd, hk]
        · simp [Act.put, hd, hdk]

/-- The first m have come up, and no other. -/
def firstM (n m : Nat) : Array Bool := ((List.range n).map fun i => decide (i < m)).toArray

theorem wp_region_inv {id : Nat} (m : Nat) {a0 : Act} {w0 : World} {R : Nat → Value → World → Prop} {W : World → Prop} (hm : P.follows .mixedOrders = true) (hs : shapeB ops a0.tmps.size = true) (hmn : m ≤ ops.size) (htl : tailB ops m = true)
    (hmono : ∀ d v w w', Below w.heap.size w w' → R d v w → R d v w') (hW : W w0.drew) (hstep : ∀ p ∈ (ops.toList.take m).zipIdx, StepOk P ops Q a0 R W p.1 p.2)
    (hend : ∀ fuel f A w, ops.size - m ≤ fuel → W w → (∀ (i : Nat) (o : Oper) (d : Nat), i < m → ops[i]? = some o → o.dst = some d → R d (f d) w) → (∀ d, A.eval (.tmp d) = f d) → A = putAll f (ops.toList.take m) a0 → wpAny P .any ops Q fuel (firstM ops.size m) A w) : (Code.region id ops true).wp P Q a0 w0 := by
  obtain ⟨hinj, hdst, hgd, hord⟩ := shape_spec hs
  refine wp_region_any hm ?_
  have main : ∀ (fuel : Nat) (listed : Array Bool) (a : Act) (w : World), InvAt ops m a0 R W listed a w → unl listed.toList ≤ fuel → wpAny P .any ops Q fuel listed a w := by
    have fin : ∀ (fuel : Nat) (listed : Array Bool) (a : Act) (w : World), InvAt ops m a0 R W listed a w → unl listed.toList ≤ fuel → (∀ j, j < m → listed.getD j false = true) → wpAny P .any ops Q fuel listed a w := by
      intro fuel listed a w h hu hall
      have hmem : ∀ o, o ∈ ops.toList.take m ↔ ∃ i, i < m ∧ ops[i]? = some o := by
        intro o
        rw [List.mem_iff_getElem?]
        constructor
        · rintro ⟨i, hi⟩
          rw [List.getElem?_take] at hi
          split at hi
          · rename_i hlt; exact ⟨i, hlt, by rw [← Array.getElem?_toList]; exact hi⟩
          · cases hi
        · rintro ⟨i, hlt, hi⟩
          exact ⟨i, by rw [List.getElem?_take, if_pos hlt, Array.getElem?_toList]; exact hi⟩
      have el : listed = firstM ops.size m := by
        apply Array.ext
        · simp [firstM, h.size]
        · intro i h1 h2
          have hi : listed.getD i false = listed[i] := by simp [h1]
          have hn : i < ops.size := by rw [← h.size]; exact h1
          simp only [firstM, List.getElem_toArray, List.getElem_map, List.getElem_range]
          rw [← hi]
          by_cases him : i < m
          · rw [hall i him]; simp [him]
          · rw [h.late i (by omega)]; simp [him]
      have e : a = putAll (fun d => a.tmps.getD d undef) (ops.toList.take m) a0 := by
        obtain ⟨p1, p2, p3⟩ := putAll_spec (fun d => a.tmps.getD d undef) (ops.toList.take m) a0
        have ht : a.tmps = (putAll (fun d => a.tmps.getD d undef) (ops.toList.take m) a0).tmps := by
          apply Array.ext_getElem?
          intro k
          by_cases hk : k < a0.tmps.size
          · rw [p3 k hk]
            have hk' : k < a.tmps.size := by rw [h.tmps]; exact hk
            split
            · simp [hk']
            · rename_i hno
              have := h.kept k fun i o hi ho => by
                cases hl : listed.getD i false with
                | false => rfl
                | true =>
                  have him : i < m := by
                    rcases Nat.lt_or_ge i m with h1 | h1
                    · exact h1
                    · rw [h.late i h1] at hl; cases hl
                  exact absurd ⟨o, (hmem o).2 ⟨i, him, hi⟩, ho⟩ hno
              simp only [Array.getD_eq_getD_getElem?, Array.getElem?_eq_getElem hk, Array.getElem?_eq_getElem hk', Option.getD_some] at this
              rw [Array.getElem?_eq_getElem hk, Array.getElem?_eq_getElem hk', this]
          · rw [Array.getElem?_eq_none (by rw [h.tmps]; omega), Array.getElem?_eq_none (by rw [p2]; omega)]
        have hd : a.defers = (putAll (fun d => a.tmps.getD d undef) (ops.toList.take m) a0).defers := by rw [p1, h.defers]
        cases a
        generalize putAll _ _ _ = b at *
        cases b
        simp only at ht hd
        rw [ht, hd]
      have hu' : ops.size - m ≤ fuel := by
        have : unl (firstM ops.size m).toList = ops.size - m := by
          unfold unl firstM
          rw [List.countP_map]
          have hc : ∀ n, (List.range n).countP ((fun b : Bool => !b) ∘ fun i => decide (i < m)) = n - m := by
            intro n
            induction n with
            | zero => simp
            | succ n ih =>
              rw [List.range_succ, List.countP_append, ih]
              by_cases hnm : n < m
              · simp [hnm]; omega
              · simp [hnm]; omega
          exact hc ops.size
        rw [← el] at this
        omega
      rw [el]
      exact hend fuel _ a w hu' h.wok (fun i o d him hi hd => h.got i o d hi hd (hall i him)) (fun _ => rfl) e
    intro fuel
    induction fuel with
    | zero =>
      intro listed a w h hu
      refine fin 0 listed a w h hu fun j hj => ?_
      cases hl : listed.getD j false with
      | true => rfl
      | false =>
        have hlt : j < listed.size := by rw [h.size]; omega
        have : unl (listed.toList.set j true) + 1 = unl listed.toList := unl_set _ _ (by simp [hlt] at hl ⊢; exact hl)
        omega
    | succ fuel ih =>
      intro listed a w h hu
      by_cases hall : ∀ j, j < m → listed.getD j false = true
      · exact fin (fuel + 1) listed a w h hu hall
      refine ⟨fun hr => absurd (fun j hj => h.some_ready hord hr j (by omega)) hall, fun i hi => ?_⟩
      have him : i < m := by
        rcases Nat.lt_or_ge i m with h1 | h1
        · exact h1
        · exact absurd (h.tail htl hi h1) hall
      obtain ⟨h0, o, ho, haft⟩ := mem_ready.1 hi
      obtain ⟨d, hd, hdn⟩ := hdst i o ho
      have hlt : i < listed.size := by rw [h.size]; exact (Array.getElem?_eq_some_iff.1 ho).1
      have hf : listed.getD i false = false := by simp [hlt] at h0 ⊢; exact h0
      have hmem : (o, i) ∈ (ops.toList.take m).zipIdx := by
        rw [List.mem_zipIdx_iff_getElem?]
        rw [List.getElem?_take, if_pos him]
        simpa using ho
      have st := hstep _ hmem a w h.wok (fun d' hdep => ?_) (fun d' hwt => ?_)
      · unfold wpOp
        simp only [ho]
        have hwant : Region.wanted o (yielded ops a.tmps) = true := by simp [Region.wanted, hgd i o ho]
        rw [if_pos hwant]
        refine Or.inl (Oper.wp_mono ?_ st)
        rintro a' w' ⟨d', v, hd', rfl, hst, hw', hR⟩
        have : d' = d := by rw [hd] at hd'; exact (Option.some.inj hd').symm
        subst this
        refine ih _ _ _ ⟨by simp [h.size], ?_, hw', h.defers, by simp [Act.put, h.tmps], ?_, ?_, ?_⟩ ?_
        · intro j hj
          rw [getD_set_ne false (show i ≠ j by omega)]
          exact h.late j hj
        · intro j oj dj hj hdj hl
          by_cases hji : j = i
          · subst hji
            have : oj = o := Option.some.inj (hj.symm.trans ho)
            subst this
            have : dj = d' := by rw [hd] at hdj; exact (Option.some.inj hdj).symm
            subst this
            have hv : (a.put (some dj) v).tmps.getD dj undef = v := by simp [Act.put, h.tmps, hdn]
            rw [hv]; exact hR
          · have hne : dj ≠ d' := fun e => hji (hinj j i oj o d' hj ho (by rw [hdj, e]) hd)
            have hv : (a.put (some d') v).tmps.getD dj undef = a.tmps.getD dj undef := by
              simp only [Act.put, Array.getD_eq_getD_getElem?]
              rw [Array.getElem?_setIfInBounds_ne (Ne.symm hne)]
            rw [hv]
            rw [getD_set_ne false (Ne.symm hji)] at hl
            exact hmono _ _ _ _ hst (h.got j oj dj hj hdj hl)
        · intro k hk
          have hkd : k ≠ d' := by
            rintro rfl
            have := hk i o ho hd
            simp [hlt] at this
          have hv : (a.put (some d') v).tmps.getD k undef = a.tmps.getD k undef := by
            simp only [Act.put, Array.getD_eq_getD_getElem?]
            rw [Array.getElem?_setIfInBounds_ne (Ne.symm hkd)]
          rw [hv]
          refine h.kept k fun j oj hj hdj => ?_
          have hji : j ≠ i := by
            rintro rfl
            have : oj = o := Option.some.inj (hj.symm.trans ho)
            subst this
            rw [hd] at hdj
            exact hkd (Option.some.inj hdj).symm
          have := hk j oj hj hdj
          rw [getD_set_ne false (Ne.symm hji)] at this
          exact this
        · intro j oj hj hl e he hb
          by_cases hji : j = i
          · subst hji
            have : oj = o := Option.some.inj (hj.symm.trans ho)
            subst this
            exact getD_set_true (haft e he hb)
          · rw [getD_set_ne false (Ne.symm hji)] at hl
            exact getD_set_true (h.closed j oj hj hl e he hb)
        · have : unl (listed.toList.set i true) + 1 = unl listed.toList := unl_set _ _ (by simp [hlt] at h0 ⊢; exact h0)
          rw [Array.toList_setIfInBounds]
          omega
      · unfold depB at hdep
        obtain ⟨e, he, hx⟩ := Array.any_eq_true'.1 hdep
        rw [Bool.and_eq_true] at hx
        cases hoj : ops[e.on]? with
        | none => rw [hoj] at hx; exact absurd hx.2 (by simp)
        | some oj =>
          rw [hoj] at hx
          have := h.got e.on oj d' hoj (by simpa using hx.2) (haft e he hx.1)
          rwa [Array.getD_eq_getD_getElem?] at this
      · have := h.kept d' fun j oj hj hdj => ?_
        · rwa [Array.getD_eq_getD_getElem?, Array.getD_eq_getD_getElem?] at this
        have := Array.all_eq_true_iff_forall_mem.1 hwt oj (Array.mem_of_getElem? hj)
        rw [Bool.or_eq_true] at this
        rcases this with h1 | h1
        · simp [hdj] at h1
        · obtain ⟨e, he, hx⟩ := Array.any_eq_true'.1 h1
          rw [Bool.and_eq_true] at hx
          cases hl : listed.getD j false with
          | false => rfl
          | true =>
            have hc := h.closed j oj hj hl e he hx.1
            have : e.on = i := by simpa using hx.2
            rw [this, hf] at hc
            cases hc
  refine main ops.size _ a0 _ ⟨by simp, ?_, hW, rfl, rfl, ?_, fun _ _ => rfl, ?_⟩ ?_
  · intro i _
    by_cases hi : i < ops.size
    · simp [hi]
    · simp [Array.getElem?_eq_none (by simp; omega : (Array.replicate ops.size false).size ≤ i)]
  · intro i o d hi _ hl
    have : i < ops.size := (Array.getElem?_eq_some_iff.1 hi).1
    simp [this] at hl
  · intro i o hi hl
    have : i < ops.size := (Array.getElem?_eq_some_iff.1 hi).1
    simp [this] at hl
  · unfold unl
    rw [Array.toList_replicate]
    have := List.countP_le_length (p := (! ·)) (l := List.replicate ops.size false)
    simpa using this

/-- An operation that yields. -/
theorem step_val {o : Oper} {a : Act} {w w' : World} {v : Value} {d : Nat} {R : Nat → Value → World → Prop} {W : World → Prop} (hd : o.dst = some d) (hrun : (execOp a.eval o).run P w = .ok (.value v) w') (hb : Below w.heap.size w w') (hw : W w') (hR : R d v w') :
    Oper.wp P o a w (fun a' w' => ∃ d v, o.dst = some d ∧ a' = a.put (some d) v ∧ Below w.heap.size w w' ∧ W w' ∧ R d v w') Q := by
  unfold Oper.wp
  rw [hrun]
  simp only [Oper.upon]
  exact ⟨d, v, hd, by rw [hd], hb, hw, hR⟩
/-- An operation that calls a function of the program. -/
theorem step_call {o : Oper} {a : Act} {w : World} {g : FuncId} {args : Array Value} {d : Nat} {R : Nat → Value → World → Prop} {W : World → Prop} (hd : o.dst = some d) (hrun : (execOp a.eval o).run P w = .ok (.enter g args) w) (hc : Calls P g args w fun e w' => ∃ v, e = .returned v ∧ Below w.heap.size w w' ∧ W w' ∧ R d v w') :
    Oper.wp P o a w (fun a' w' => ∃ d v, o.dst = some d ∧ a' = a.put (some d) v ∧ Below w.heap.size w w' ∧ W w' ∧ R d v w') Q := by
  unfold Oper.wp
  rw [hrun]
  simp only [Oper.upon]
  refine hc.mono ?_
  rintro e w' ⟨v, rfl, hb, hw, hR⟩
  exact ⟨d, v, hd, by rw [hd], hb, hw, hR⟩
theorem wpOp_of {i : Nat} {o : Oper} {a : Act} {w : World} {K : Act → World → Prop} (hi : ops[i]? = some o) (hg : o.guard = none) (h : o.wp P a w K Q) : wpOp P ops Q i K a w := by
  unfold wpOp
  simp only [hi]
  rw [if_pos (by simp [Region.wanted, hg])]
  exact Or.inl h
theorem row_new (w : World) (t : Nat) (xs : List Value) : ∀ i (h : i < xs.length), (w.alloc (.cells xs.toArray t)).cell? ⟨w.heap.size, i, none⟩ = some xs[i] := fun i h => (RowT.new w t xs).cell i h
/-- All operations of a list, one behind the other. -/
def StepsOk (P : Program) (ops : Array Oper) (Q : Exit → Act → World → Prop) (a0 : Act) (R : Nat → Value → World → Prop) (W : World → Prop) : List Oper → Nat → Prop
  | [], _ => True
  | o :: r, i => StepOk P ops Q a0 R W o i ∧ StepsOk P ops Q a0 R W r (i + 1)
theorem StepsOk.all {a0 : Act} {R : Nat → Value → World → Prop} {W : World → Prop} : ∀ {l : List Oper} {k : Nat}, StepsOk P ops Q a0 R W l k → ∀ p ∈ l.zipIdx k, StepOk P ops Q a0 R W p.1 p.2
  | [], _, _, p, hp => by simp at hp
  | o :: r, k, h, p, hp => by
    rw [List.zipIdx_cons] at hp
    rcases List.mem_cons.1 hp with rfl | hp
    · exact h.1
    · exact h.2.all p hp

/-- What a slot holds. -/
inductive SlotP where
  | val (v : Value)
  | row (xs : List Value)
  | spot (j : Nat) (x : Value)
def SlotP.holds (v : Value) (w : World) : SlotP → Prop
  | .val x => v = x
  | .row xs => ∃ g, v = .slice (some ⟨g, 0, none⟩) xs.length xs.length ∧ g < w.heap.size ∧ ∀ i (h : i < xs.length), w.cell? ⟨g, i, none⟩ = some xs[i]
  | .spot j x => ∃ g, v = .pointer (some ⟨g, j, none⟩) ∧ g < w.heap.size ∧ w.cell? ⟨g, j, none⟩ = some x
theorem SlotP.mono {v : Value} {w w' : World} (hb : Below w.heap.size w w') : ∀ {p : SlotP}, p.holds v w → p.holds v w'
  | .val _, h => h
  | .row _, ⟨g, h1, h2, h3⟩ => ⟨g, h1, Nat.lt_of_lt_of_le h2 hb.size, fun i hi => (hb.cell (p := ⟨g, i, none⟩) h2).trans (h3 i hi)⟩
  | .spot j _, ⟨g, h1, h2, h3⟩ => ⟨g, h1, Nat.lt_of_lt_of_le h2 hb.size, (hb.cell (p := ⟨g, j, none⟩) h2).trans h3⟩

def selBA (j : Nat) (a b : ByteArray) : ByteArray := if j = 0 then a else b
theorem row_sel {w : World} {g j : Nat} {a b : ByteArray} (hc : ∀ i (h : i < [Value.string a, Value.string b].length), w.cell? ⟨g, i, none⟩ = some [Value.string a, Value.string b][i]) (hj : j < 2) : w.cell? ⟨g, j, none⟩ = some (.string (selBA j a b)) := by
  have := hc j (by simpa using hj)
  rw [this]
  match j, hj with
  | 0, _ => rfl
  | 1, _ => rfl

end
end Go.Proofs.YtcepppilgncdmaaDoor
