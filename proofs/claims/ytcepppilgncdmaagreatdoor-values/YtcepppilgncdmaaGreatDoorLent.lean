/-
  What 'masonlaw.lent' answers: nil for nil; else a new list of the same names, with eight more of the caller's behind them.
-/
import Derived.Test.YtcepppilgncdmaaGreatDoorName
import Derived.Laws.CopyOwn
import Derived.OwnWalk
import Derived.Deep.CutBlock
import Derived.Deep.DeepCutAuto
import Derived.Deep.LoopGhost
import Derived.Deep.QuietTactic
import Derived.BigQuiet
namespace Go.Proofs.YtcepppilgncdmaaGreatDoor
open Go.RowKit

theorem run_copy_wide (P : Program) (w : World) (dT sT ty elem : TypeId) (g o dLen dCap : Nat) (a : Addr) (sLen sCap size : Nat) (cur : Array Value) (t : TypeId) (cs : List Value)
    (hu : P.underlying dT = some (.slice elem)) (hs : (P.info? elem).map (·.size) = some size)
    (hg : w.heap[g]? = some (.cells cur t (0, 0))) (hn : cs.length = Nat.min sLen dLen * size)
    (hsrc : ∀ j v, cs[j]? = some v → w.cell? (a.add j) = some v) (hfit : o + cs.length ≤ cur.size) (h1 : ∀ v ∈ cs, v.oneCell' = true) :
    (Builtin.copy_ #[dT, sT] ty #[.slice (some ⟨g, o, none⟩) dLen dCap, .slice (some a) sLen sCap]).run P w =
      .ok (goInt (Nat.min sLen dLen)) (w.setRow g (cur.toList.take o ++ cs ++ cur.toList.drop (o + cs.length)).toArray) := by
  have hl := run_loadCells_list (P := P) w a cs hsrc
  have hst := run_storeCells_at P g o t cs 0 cur w hg (by simpa using hfit) h1
  cases hq : P.info? elem with
  | none => simp [hq] at hs
  | some i =>
    have hi : i.size = size := by simpa [hq] using hs
    simp [Builtin.copy_, run_underlying hu, Builtin.lenOf, Builtin.firstCells, sizeOf, typeInfo, hq, hi, ← hn, hl, hst]

theorem wpList_copy_wide {P : Program} {w : World} {ops : Array Oper} {rest : List Oper} {o : Oper} {a : Act} {Q : Exit → Act → World → Prop} (hgd : o.guard = none) (d s : Operand) (dT sT : TypeId)
    (ho : o.op = .call { callee := .builtin .copy, args := #[d, s], argTypes := #[dT, sT] }) (elem : TypeId) (hu : P.underlying dT = some (.slice elem)) (size : Nat) (hsz : (P.info? elem).map (·.size) = some size)
    (g off dLen dCap : Nat) (ad : Addr) (sLen sCap : Nat) (hd : a.eval d = .slice (some ⟨g, off, none⟩) dLen dCap) (hs : a.eval s = .slice (some ad) sLen sCap)
    (cur : Array Value) (t : TypeId) (hg : w.heap[g]? = some (.cells cur t (0, 0))) (cs : List Value) (hn : cs.length = Nat.min sLen dLen * size)
    (hsrc : ∀ j v, cs[j]? = some v → w.cell? (ad.add j) = some v) (hfit : off + cs.length ≤ cur.size) (h1 : ∀ v ∈ cs, v.oneCell' = true)
    (B : Nat) (w0 : World) (hb : Below B w0 w) (hBg : B ≤ g)
    (h : ∀ w', Hid (w'.heap[g]? = some (.cells (splice cur.toList off cs).toArray t (0, 0))) → Below B w0 w' → wpList P ops Q rest (a.put o.dst (goInt (Nat.min sLen dLen))) w') : wpList P ops Q (o :: rest) a w := by
  refine wpList_plain hgd fun K hK => ?_
  have hrun := run_copy_wide P w dT sT o.type elem g off dLen dCap ad sLen sCap size cur t cs hu hsz hg hn hsrc hfit h1
  unfold Oper.wp
  simp [execOp, ho, resolve, invoke, builtin, hd, hs, hrun, Result.andThen]
  exact hK _ _ (h _ (show _ = _ by simpa [splice] using setRow_heap w g _ _ t _ hg) (below_setRow hb hBg _))

def cellsN (ns : List (ByteArray × Int)) : List Value := ns.flatMap fun p => [.string p.1, .int .i64 p.2]
def beyondB : ByteArray × Int := (⟨#[98, 101, 121, 111, 110, 100]⟩, 77)

theorem infoName : (Tryz.prog.info? 40).map (fun i => (i.zero, i.size, i.bytes)) = some (some (.agg #[.string ⟨#[]⟩, .int .i64 0]), 2, 24) := by kernel_rfl
theorem sizeName : (Tryz.prog.info? 40).map (·.size) = some 2 := by kernel_rfl

theorem cellsN_cons (p : ByteArray × Int) (ns : List (ByteArray × Int)) : cellsN (p :: ns) = .string p.1 :: .int .i64 p.2 :: cellsN ns := rfl
theorem cellsN_length (ns : List (ByteArray × Int)) : (cellsN ns).length = ns.length * 2 := by
  induction ns with
  | nil => rfl
  | cons p ns ih => rw [cellsN_cons]; simp [ih]; omega
theorem cellsN_append (l m : List (ByteArray × Int)) : cellsN (l ++ m) = cellsN l ++ cellsN m := by simp [cellsN]
theorem cellsN_one (ns : List (ByteArray × Int)) : ∀ u ∈ cellsN ns, u.oneCell' = true := by
  intro u hu
  obtain ⟨p, _, hp⟩ := List.mem_flatMap.1 hu
  simp at hp
  rcases hp with rfl | rfl <;> rfl
theorem cellsN_at : ∀ (ns : List (ByteArray × Int)) (i : Nat) (h : i < ns.length), (cellsN ns)[i * 2]? = some (.string ns[i].1) ∧ (cellsN ns)[i * 2 + 1]? = some (.int .i64 ns[i].2) := by
  intro ns
  induction ns with
  | nil => intro i h; simp at h
  | cons p ns ih =>
    intro i h
    rw [cellsN_cons]
    cases i with
    | zero => exact ⟨rfl, rfl⟩
    | succ i =>
      have := ih i (by simpa using h)
      rw [show (i + 1) * 2 = i * 2 + 1 + 1 from by omega]
      simpa using this

theorem names_src {w : World} {a : Addr} {ns : List (ByteArray × Int)} (h : NamesAt w (some a) ns) : ∀ j v, (cellsN ns)[j]? = some v → w.cell? (a.add j) = some v := by
  intro j v hv
  have hj : j < (cellsN ns).length := by
    rcases Nat.lt_or_ge j (cellsN ns).length with h | h
    · exact h
    · rw [List.getElem?_eq_none h] at hv; cases hv
  rw [cellsN_length] at hj
  rcases h with h | ⟨b, off, ha, _, hc⟩
  · rw [h] at hj; simp at hj
  · simp only [Option.some.injEq] at ha
    subst ha
    have hadd : (⟨b, off, none⟩ : Addr).add j = ⟨b, off + j, none⟩ := by unfold Addr.add; split <;> simp_all
    rw [hadd]
    obtain ⟨c1, c2⟩ := hc (j / 2) (by omega)
    obtain ⟨d1, d2⟩ := cellsN_at ns (j / 2) (by omega)
    rcases Nat.mod_two_eq_zero_or_one j with h2 | h2
    · rw [show j / 2 * 2 = j from by omega] at c1 d1
      rw [d1] at hv; rw [c1]; exact hv
    · rw [show j / 2 * 2 + 1 = j from by omega] at d2
      rw [show off + j / 2 * 2 + 1 = off + j from by omega] at c2
      rw [d2] at hv; rw [c2]; exact hv

theorem owns_full {w : World} {base e size g n : Nat} {xs : List Value} (h : w.ownsRow base e size (.slice (some ⟨g, 0, none⟩) n n) n xs) : w.heap[g]? = some (.cells xs.toArray e (0, 0)) := by
  rcases h.2 with ⟨h', _⟩ | ⟨g', cap', cur, h', _, hg, _, _, hcs, htake⟩
  · simp at h'
  · simp only [Value.slice.injEq, Option.some.injEq, Addr.mk.injEq, and_true, true_and] at h'
    obtain ⟨rfl, rfl⟩ := h'
    rw [hg]
    congr 2
    rw [← htake, List.take_of_length_le (by simp [hcs]), Array.toArray_toList]

/-- A row of cells of names, whole. -/
def RowN (w : World) (g : Nat) (xs : List Value) : Prop := w.heap[g]? = some (.cells xs.toArray 40 (0, 0))
theorem RowN.cell {w : World} {g : Nat} {xs : List Value} (h : RowN w g xs) (j : Nat) (hj : j < xs.length) : w.cell? ⟨g, j, none⟩ = some xs[j] := by
  unfold RowN at h
  simp [World.cell?, h, hj]
theorem RowN.free {w : World} {g : Nat} {xs : List Value} (h : RowN w g xs) (j : Nat) : w.frozen? ⟨g, j, none⟩ = false := by
  unfold RowN at h
  simp [World.frozen?, h]
theorem RowN.lt {w : World} {g : Nat} {xs : List Value} (h : RowN w g xs) : g < w.heap.size := (Array.getElem?_eq_some_iff.1 h).1
theorem RowN.set {w : World} {g : Nat} {xs : List Value} (h : RowN w g xs) (j : Nat) (u : Value) : RowN (w.setCell ⟨g, j, none⟩ u) g (xs.set j u) := by
  unfold RowN at h ⊢
  rw [heap_setCell_same w g j xs.toArray 40 u h]
  simp
theorem RowN.below {w w' : World} {g : Nat} {xs : List Value} (h : RowN w g xs) (hb : Below w.heap.size w w') : RowN w' g xs := by
  unfold RowN at h ⊢
  rw [hb.block g (RowN.lt h)]; exact h
theorem RowN.alloc {w : World} {g : Nat} {xs : List Value} (h : RowN w g xs) (o : Obj) : RowN (w.alloc o) g xs := h.below ((Below.refl _ _).alloc (Nat.le_refl _) o)
theorem RowN.drewN {w : World} {g : Nat} {xs : List Value} (h : RowN w g xs) (n : Nat) : RowN (w.drewN n) g xs := h

theorem take_two (xs : List Value) (j : Nat) (u v : Value) (h : j + 1 < xs.length) : ((xs.set j u).set (j + 1) v).take (j + 2) = xs.take j ++ [u, v] := by
  apply List.ext_getElem?
  intro i
  simp only [List.getElem?_take, List.getElem?_set, List.getElem?_append, List.length_take, List.length_set]
  by_cases h1 : i < j
  · have : i < min j xs.length := by omega
    simp [h1, this, show i < j + 2 from by omega, show ¬ j + 1 = i from by omega, show ¬ j = i from by omega]
  · by_cases h2 : i = j
    · subst h2
      have : ¬ i < min i xs.length := by omega
      have hm : i - min i xs.length = 0 := by omega
      simp [hm, show i < xs.length from by omega]
      try omega
    · by_cases h3 : i = j + 1
      · subst h3
        have hm : j + 1 - min j xs.length = 1 := by omega
        simp [hm, h, show ¬ j + 1 < min j xs.length from by omega]
      · simp [show ¬ i < j + 2 from by omega, show ¬ i < min j xs.length from by omega]
        omega

set_option maxRecDepth 100000 in
set_option maxHeartbeats 800000 in
theorem lent_any (a : Addr) (cap : Nat) (ns : List (ByteArray × Int)) (w : World) (hl : ns.length ≤ 5864062014634) (hn : NamesAt w (some a) ns) :
    Calls Tryz.prog 22 #[.slice (some a) ns.length cap] w fun e w' => ∃ g, e = .returned (.slice (some ⟨g, 0, none⟩) ns.length (ns.length + 8)) ∧ w.heap.size ≤ g ∧ g < w'.heap.size ∧ w'.heap[g]? = some (.cells (cellsN (ns ++ List.replicate 8 beyondB)).toArray 40 (0, 0)) ∧ Below w.heap.size w w' := by
  have HN := hid hn
  clear hn
  obtain ⟨i0, hi0, hz0, hz1, hz2⟩ := info_parts infoName
  have heq := fun (wx : World) => Lib.run_eql_slice_nil (P := Tryz.prog) wx 31 40 (some a) ns.length cap 0 0 Tryz.underlying31
  go_enter Tryz.func22, Tryz.ntmps22
  go_upto_region 5 with (first | (at_make; refine wpList_make_full _ rfl (.tmp 11) (.tmp 11) 31 rfl w.heap.size 40 i0 _ 2 Tryz.underlying31 hi0 hz0 hz1 .i64 .i64 _ _ (ns.length + 8) rfl rfl (by omega) (by omega) (by rw [hz2]; omega) (by unfold maxLen; omega) (Nat.le_refl _) ?_; intro w1 hown1 hgrow1; have hg1 := owns_full hown1; have hb1 : Below w.heap.size w w1 := (Below.refl _ _).grown hgrow1 (Nat.le_refl _) (fun j hj => by cases hj); have hz : w.heap.size < w1.heap.size := (Array.getElem?_eq_some_iff.1 hg1).1; have hgl := hown1.1))
  generalize (madeCells (Value.agg #[Value.string { data := #[] }, Value.int IntKind.i64 0]).cells ((ns.length + 8) * 2)).toList = mc at hg1 hgl
  clear hown1 hgrow1
  go_wp2_with ((refine wpList_copy_wide rfl (.tmp 13) (.tmp 14) 31 31 rfl 40 Tryz.underlying31 2 sizeName w.heap.size 0 (ns.length + 8) (ns.length + 8) a ns.length cap rfl rfl _ 40 hg1 (cellsN ns) (by rw [cellsN_length]; congr 1; exact (Nat.min_eq_left (by omega)).symm) (names_src (HN.out.below hb1)) (by rw [cellsN_length]; simp [hgl]; omega) (cellsN_one ns) w.heap.size w hb1 (Nat.le_refl _) ?_); intro w2 HG2 hB2)
  have hx0 : ∃ xs : List Value, RowN w2 w.heap.size xs ∧ xs.length = (ns.length + 8) * 2 ∧ xs.take (ns.length * 2) = cellsN ns :=
    ⟨_, HG2.out, by rw [length_splice _ _ _ (by rw [cellsN_length]; simp [hgl]; omega)]; simpa using hgl, by unfold splice; rw [List.take_zero, List.nil_append, ← cellsN_length, List.take_left]⟩
  have HX0 := hid hx0
  have HB2 := hid hB2
  clear hx0 HG2 hB2 hg1 hgl hb1 hz hi0 hz0 hz1 hz2
  go_loopw [5] (fun i wr => ∃ (j : Nat) (xs : List Value), ns.length ≤ j ∧ j ≤ ns.length + 8 ∧ i = .int .i64 j ∧ xs.length = (ns.length + 8) * 2 ∧ xs.take (j * 2) = cellsN (ns ++ List.replicate (j - ns.length) beyondB) ∧ RowN wr w.heap.size xs ∧ Below w.heap.size w wr) (fun i _ => ns.length + 8 - (intOf i).toNat)
  case atStart =>
    obtain ⟨xs, h1, h2, h3⟩ := HX0.out
    exact ⟨ns.length, xs, Nat.le_refl _, by omega, rfl, h2, by rw [Nat.sub_self]; simpa using h3, h1, HB2.out⟩
  case round =>
    obtain ⟨j, xs, hj1, hj2, rfl, hxl, hxt, hrow, hbr⟩ := hrel
    have HROW := hid hrow
    have HXT := hid hxt
    have HBR := hid hbr
    clear hrow hxt hbr
    by_cases hlt : j < ns.length + 8
    · have c1 := HROW.out.cell (j * 2) (by omega)
      have c2 := HROW.out.cell (j * 2 + 1) (by omega)
      have f1 := HROW.out.free (j * 2)
      have f2 := HROW.out.free (j * 2 + 1)
      go_wp2
      go_roundw
      case rel =>
        refine ⟨j + 1, _, by omega, by omega, by go_num, ?_, ?_, (HROW.out.set (j * 2) _).set (j * 2 + 1) _, (HBR.out.setCell (Nat.le_refl _) _).setCell (Nat.le_refl _) _⟩
        · simp [hxl]
        · rw [show (j + 1) * 2 = j * 2 + 2 from by omega, take_two _ _ _ _ (by omega), HXT.out, show j + 1 - ns.length = (j - ns.length) + 1 from by omega, List.replicate_succ', ← List.append_assoc, cellsN_append (ns ++ List.replicate (j - ns.length) beyondB)]
          rfl
      case measure => simp [intOf]; omega
    · have HE := hid (show RowN wr w.heap.size (cellsN (ns ++ List.replicate 8 beyondB)) by
        have h := HXT.out
        rw [List.take_of_length_le (by omega), show j - ns.length = 8 from by omega] at h
        rw [← h]; exact HROW.out)
      go_wp2
      go_ret
      exact ⟨w.heap.size, rfl, Nat.le_refl _, HE.out.lt, HE.out, HBR.out⟩

end Go.Proofs.YtcepppilgncdmaaGreatDoor
