/-
  What the functions of package expression that look names up answer; the names lie in memory as a Go list of names does.
  What 'masonlaw.lent' answers: nil for nil; else a new list of the same names, with eight more of the caller's behind them.
  What 'masonlaw.whole' answers of a list that was lent and not written into: true.
  What the functions of package expression that read one term, and reckon one step, answer.
-/
import Derived.Test.YtcepppilgncdmaaGreatDoorBE01
import Derived.Laws.CopyOwn
import Derived.OwnWalk
import Derived.Deep.CutBlock
import Derived.Deep.DeepCutAuto
import Derived.Deep.LoopGhost
import Derived.Deep.QuietTactic
import Derived.BigQuiet
namespace Go.Proofs.YtcepppilgncdmaaGreatDoor
open Go.RowKit

/-- The names of a list, as plain data. -/
def plainN (ns : List (ByteArray × Int)) : List (List UInt8 × Int) := ns.map fun p => (L p.1, p.2)

/-- The list of names lies in the world: two cells a name. -/
def NamesAt (w : World) (a : Option Addr) (ns : List (ByteArray × Int)) : Prop :=
  ns = [] ∨ ∃ b off, a = some ⟨b, off, none⟩ ∧ b < w.heap.size ∧ ∀ i (h : i < ns.length), w.cell? ⟨b, off + i * 2, none⟩ = some (.string ns[i].1) ∧ w.cell? ⟨b, off + i * 2 + 1, none⟩ = some (.int .i64 ns[i].2)

theorem NamesAt.below {w w' : World} {a : Option Addr} {ns : List (ByteArray × Int)} (h : NamesAt w a ns) (hb : Below w.heap.size w w') : NamesAt w' a ns := by
  rcases h with h | ⟨b, off, ha, hl, hc⟩
  · exact Or.inl h
  · refine Or.inr ⟨b, off, ha, by have := hb.size; omega, fun i hi => ?_⟩
    obtain ⟨h1, h2⟩ := hc i hi
    exact ⟨by rw [hb.cell (p := ⟨b, off + i * 2, none⟩) hl]; exact h1, by rw [hb.cell (p := ⟨b, off + i * 2 + 1, none⟩) hl]; exact h2⟩

theorem findN_at (ns : List (ByteArray × Int)) (x : List UInt8) (k : Nat) (h : k < ns.length) : findN (plainN (ns.drop k)) x = if L ns[k].1 = x then some ns[k].2 else findN (plainN (ns.drop (k + 1))) x := by
  rw [List.drop_eq_getElem_cons h]; rfl
theorem findN_end (ns : List (ByteArray × Int)) (x : List UInt8) (k : Nat) (h : ns.length ≤ k) : findN (plainN (ns.drop k)) x = none := by
  rw [List.drop_eq_nil_of_le h]; rfl

theorem beq_of_L {s t : ByteArray} (h : L s = L t) : (s.toList == t.toList) = true := by
  rw [ByteArray.toList_eq, ByteArray.toList_eq, beq_iff_eq]; exact h
theorem nbeq_of_L {s t : ByteArray} (h : ¬ L s = L t) : (s.toList == t.toList) = false := by
  rw [ByteArray.toList_eq, ByteArray.toList_eq, beq_eq_false_iff_ne]; exact h

set_option maxHeartbeats 800000 in
theorem findName_any (s : ByteArray) (a : Option Addr) (cap : Nat) (ns : List (ByteArray × Int)) (w : World) (v : Int) (n : Nat) (er : Int) (hs : s.size ≤ maxLen) (hl : ns.length ≤ maxLen) (hn : NamesAt w a ns) (hv : named (L s) (plainN ns) = (v, n, er)) :
    Calls Tryz.prog 127 #[.string s, .slice a ns.length cap] w fun e w' => e = .returned (.tuple #[.int .i64 v, .int .i64 n, .int .i64 er]) ∧ Below w.heap.size w w' := by
  have hs0 := hs
  unfold maxLen at hs hl
  have HV := hid hv
  have HN := hid hn
  clear hv hn
  have hwl := wordLen_le (L s)
  rw [L_length] at hwl
  obtain ⟨m, hm⟩ : ∃ m, wordLen (L s) = m := ⟨_, rfl⟩
  rw [hm] at hwl
  have HM := hid hm
  clear hm
  go_enter Tryz.func127, Tryz.ntmps127
  go_wp2
  go_loop [7] (fun i => ∃ k : Nat, k ≤ m ∧ i = .int .i64 k ∧ m = k + wordLen ((L s).drop k)) (fun i => s.size - (intOf i).toNat)
  case atStart => exact ⟨0, Nat.zero_le _, rfl, by rw [List.drop_zero, HM.out]; omega⟩
  case round =>
    obtain ⟨k, hk, rfl, ha⟩ := hrel
    have HA := hid ha
    clear ha
    have hks : k ≤ s.size := by omega
    by_cases hlt : k < m
    · have hlt' : k < s.size := by omega
      have kn : nbB (s[k].toNat : Int) = true := by
        cases hb : nbB (s[k].toNat : Int) with
        | true => rfl
        | false => have := wordLen_no s k hlt' hb; have := HA.out; omega
      have HS := hid (wordLen_at s k hlt' kn)
      have hdec : decide ((k : Int) < s.size) = true := by simp; omega
      go_wp2_with (first | (go_at_call 120; refine (isNameByte_any _ _).mono ?_; rintro e w' ⟨rfl, rfl⟩))
      go_round
      case rel => exact ⟨k + 1, by omega, by go_num, by rw [HA.out, HS.out]; omega⟩
      case measure => simp [intOf]; omega
    · have hkm : k = m := by omega
      subst hkm
      have hstop : ∀ h : k < s.size, nbB (s[k].toNat : Int) = false := by
        intro h
        cases hb : nbB (s[k].toNat : Int) with
        | false => rfl
        | true => have := wordLen_at s k h hb; have := HA.out; omega
      clear hlt HA
      have hex : (s.extract 0 k).size ≤ maxLen := by rw [ByteArray.size_extract]; omega
      have HX := hid (L_prefix s k)
      have hv := HV.out
      unfold named at hv
      rw [HM.out, ← HX.out] at hv
      clear HV
      by_cases hnm : nameB (L (s.extract 0 k)) = true
      · rw [if_pos hnm] at hv
        have HF := hid hv
        clear hv
        by_cases hlt : k < s.size
        all_goals
          try have kn := hstop hlt
          clear hstop
          go_wp2_with (first | (go_at_call 120; refine (isNameByte_any _ _).mono ?_; rintro e w' ⟨rfl, rfl⟩) | (go_at_call 78; refine (IsName_any _ _ hex).mono ?_; rintro e w' ⟨rfl, rfl⟩))
          go_loopw [31] (fun i wr => ∃ j : Nat, j ≤ ns.length ∧ i = .int .i64 j ∧ Below w'.heap.size w' wr ∧ findN (plainN ns) (L (s.extract 0 k)) = findN (plainN (ns.drop j)) (L (s.extract 0 k))) (fun i _ => ns.length - (intOf i).toNat)
          case atStart => exact ⟨0, Nat.zero_le _, rfl, Below.refl _ _, by rw [List.drop_zero]⟩
          case round =>
            obtain ⟨j, hj, rfl, hbel, hfd⟩ := hrel
            have HB := hid hbel
            have HFD := hid hfd
            clear hbel hfd
            by_cases hjl : j < ns.length
            · rcases HN.out with h | ⟨b, off, ha, hbl, hc⟩
              · rw [h] at hjl; simp at hjl
              · subst ha
                obtain ⟨c1, c2⟩ := hc j hjl
                rw [← HB.out.cell (p := ⟨b, off + j * 2, none⟩) hbl] at c1
                rw [← HB.out.cell (p := ⟨b, off + j * 2 + 1, none⟩) hbl] at c2
                clear hc
                have HS := hid (findN_at ns (L (s.extract 0 k)) j hjl)
                by_cases heq : L ns[j].1 = L (s.extract 0 k)
                · have ke := beq_of_L heq
                  have hr : findN (plainN ns) (L (s.extract 0 k)) = some ns[j].2 := by rw [HFD.out, HS.out, if_pos heq]
                  have hf := HF.out
                  rw [hr] at hf
                  obtain ⟨rfl, rfl, rfl⟩ := trip_eq hf
                  clear hf hr HS HFD HF heq
                  go_wp2
                  go_ret3
                  exact ⟨rfl, HB.out.alloc (by have := HB.out.size; exact this) _⟩
                · have ke := nbeq_of_L heq
                  have HR := hid (show findN (plainN ns) (L (s.extract 0 k)) = findN (plainN (ns.drop (j + 1))) (L (s.extract 0 k)) by rw [HFD.out, HS.out, if_neg heq])
                  clear HS HFD heq
                  go_wp2
                  go_roundw
                  case rel => exact ⟨j + 1, by omega, by go_num, HB.out.alloc (by have := HB.out.size; exact this) _, HR.out⟩
                  case measure => simp [intOf]; omega
            · have hr : findN (plainN ns) (L (s.extract 0 k)) = none := by rw [HFD.out, findN_end _ _ _ (by omega)]
              have hf := HF.out
              rw [hr] at hf
              obtain ⟨rfl, rfl, rfl⟩ := trip_eq hf
              clear hf hr HFD HF
              go_wp2
              go_ret3
              exact ⟨rfl, HB.out⟩
      · have hnf : nameB (L (s.extract 0 k)) = false := by simpa using hnm
        rw [if_neg hnm] at hv
        obtain ⟨rfl, rfl, rfl⟩ := trip_eq hv
        clear hv
        by_cases hlt : k < s.size
        all_goals
          try have kn := hstop hlt
          clear hstop
          go_wp2_with (first | (go_at_call 120; refine (isNameByte_any _ _).mono ?_; rintro e w' ⟨rfl, rfl⟩) | (go_at_call 78; refine (IsName_any _ _ hex).mono ?_; rintro e w' ⟨rfl, rfl⟩))
          go_ret3
          exact ⟨rfl, Below.refl _ _⟩

end Go.Proofs.YtcepppilgncdmaaGreatDoor

namespace Go.Proofs.YtcepppilgncdmaaGreatDoor
open Go.RowKit

theorem run_copy_wide (P : Program) (w : World) (dT sT ty elem : TypeId) (g o dLen dCap : Nat) (a : Addr) (sLen sCap size : Nat) (cur : Array Value) (t : TypeId) (cs : List Value)
    (hu : P.underlying dT = some (.slice elem)) (hs : (P.info? elem).map (·.size) = some size)
    (hg : w.heap[g]? = some (.cells cur t (0, 0))) (hn : cs.length = Nat.min sLen dLen * size)
    (hsrc : ∀ j v, cs[j]? = some v → w.cell? (a.add j) = some v) (hfit : o + cs.length ≤ cur.size) (h1 : ∀ v ∈ cs, v.oneCell' = true) :
    (Builtin.copy_ #[dT, sT] ty #[.slice (some ⟨g, o, none⟩) dLen dCap, .slice (some a) sLen sCap]).run P w =
      .ok (goInt (Nat.min sLen dLen)) (w.setRow g (cur.toList.take o ++ cs ++ cur.toList.drop (o + cs.length)).toArray) := by
  have hl := run_loadCells_list (P := P) w a cs hsrc
  have hst := run_storeCells_at P g o t cs 0 cur w hg (by simpa using hfit) h1
  cases hq : P.info? elem with
  | none => simp [hq] at hs
  | some i =>
    have hi : i.size = size := by simpa [hq] using hs
    simp [Builtin.copy_, run_underlying hu, Builtin.lenOf, Builtin.firstCells, sizeOf, typeInfo, hq, hi, ← hn, hl, hst]

theorem wpList_copy_wide {P : Program} {w : World} {ops : Array Oper} {rest : List Oper} {o : Oper} {a : Act} {Q : Exit → Act → World → Prop} (hgd : o.guard = none) (d s : Operand) (dT sT : TypeId)
    (ho : o.op = .call { callee := .builtin .copy, args := #[d, s], argTypes := #[dT, sT] }) (elem : TypeId) (hu : P.underlying dT = some (.slice elem)) (size : Nat) (hsz : (P.info? elem).map (·.size) = some size)
    (g off dLen dCap : Nat) (ad : Addr) (sLen sCap : Nat) (hd : a.eval d = .slice (some ⟨g, off, none⟩) dLen dCap) (hs : a.eval s = .slice (some ad) sLen sCap)
    (cur : Array Value) (t : TypeId) (hg : w.heap[g]? = some (.cells cur t (0, 0))) (cs : List Value) (hn : cs.length = Nat.min sLen dLen * size)
    (hsrc : ∀ j v, cs[j]? = some v → w.cell? (ad.add j) = some v) (hfit : off + cs.length ≤ cur.size) (h1 : ∀ v ∈ cs, v.oneCell' = true)
    (B : Nat) (w0 : World) (hb : Below B w0 w) (hBg : B ≤ g)
    (h : ∀ w', Hid (w'.heap[g]? = some (.cells (splice cur.toList off cs).toArray t (0, 0))) → Below B w0 w' → wpList P ops Q rest (a.put o.dst (goInt (Nat.min sLen dLen))) w') : wpList P ops Q (o :: rest) a w := by
  refine wpList_plain hgd fun K hK => ?_
  have hrun := run_copy_wide P w dT sT o.type elem g off dLen dCap ad sLen sCap size cur t cs hu hsz hg hn hsrc hfit h1
  unfold Oper.wp
  simp [execOp, ho, resolve, invoke, builtin, hd, hs, hrun, Result.andThen]
  exact hK _ _ (h _ (show _ = _ by simpa [splice] using setRow_heap w g _ _ t _ hg) (below_setRow hb hBg _))

def cellsN (ns : List (ByteArray × Int)) : List Value := ns.flatMap fun p => [.string p.1, .int .i64 p.2]
def beyondB : ByteArray × Int := (⟨#[98, 101, 121, 111, 110, 100]⟩, 77)

theorem infoName : (Tryz.prog.info? 40).map (fun i => (i.zero, i.size, i.bytes)) = some (some (.agg #[.string ⟨#[]⟩, .int .i64 0]), 2, 24) := by kernel_rfl
theorem sizeName : (Tryz.prog.info? 40).map (·.size) = some 2 := by kernel_rfl

theorem cellsN_cons (p : ByteArray × Int) (ns : List (ByteArray × Int)) : cellsN (p :: ns) = .string p.1 :: .int .i64 p.2 :: cellsN ns := rfl
theorem cellsN_length (ns : List (ByteArray × Int)) : (cellsN ns).length = ns.length * 2 := by
  induction ns with
  | nil => rfl
  | cons p ns ih => rw [cellsN_cons]; simp [ih]; omega
theorem cellsN_append (l m : List (ByteArray × Int)) : cellsN (l ++ m) = cellsN l ++ cellsN m := by simp [cellsN]
theorem cellsN_one (ns : List (ByteArray × Int)) : ∀ u ∈ cellsN ns, u.oneCell' = true := by
  intro u hu
  obtain ⟨p, _, hp⟩ := List.mem_flatMap.1 hu
  simp at hp
  rcases hp with rfl | rfl <;> rfl
theorem cellsN_at : ∀ (ns : List (ByteArray × Int)) (i : Nat) (h : i < ns.length), (cellsN ns)[i * 2]? = some (.string ns[i].1) ∧ (cellsN ns)[i * 2 + 1]? = some (.int .i64 ns[i].2) := by
  intro ns
  induction ns with
  | nil => intro i h; simp at h
  | cons p ns ih =>
    intro i h
    rw [cellsN_cons]
    cases i with
    | zero => exact ⟨rfl, rfl⟩
    | succ i =>
      have := ih i (by simpa using h)
      rw [show (i + 1) * 2 = i * 2 + 1 + 1 from by omega]
      simpa using this

theorem names_src {w : World} {a : Addr} {ns : List (ByteArray × Int)} (h : NamesAt w (some a) ns) : ∀ j v, (cellsN ns)[j]? = some v → w.cell? (a.add j) = some v := by
  intro j v hv
  have hj : j < (cellsN ns).length := by
    rcases Nat.lt_or_ge j (cellsN ns).length with h | h
    · exact h
    · rw [List.getElem?_eq_none h] at hv; cases hv
  rw [cellsN_length] at hj
  rcases h with h | ⟨b, off, ha, _, hc⟩
  · rw [h] at hj; simp at hj
  · simp only [Option.some.injEq] at ha
    subst ha
    have hadd : (⟨b, off, none⟩ : Addr).add j = ⟨b, off + j, none⟩ := by unfold Addr.add; split <;> simp_all
    rw [hadd]
    obtain ⟨c1, c2⟩ := hc (j / 2) (by omega)
    obtain ⟨d1, d2⟩ := cellsN_at ns (j / 2) (by omega)
    rcases Nat.mod_two_eq_zero_or_one j with h2 | h2
    · rw [show j / 2 * 2 = j from by omega] at c1 d1
      rw [d1] at hv; rw [c1]; exact hv
    · rw [show j / 2 * 2 + 1 = j from by omega] at d2
      rw [show off + j / 2 * 2 + 1 = off + j from by omega] at c2
      rw [d2] at hv; rw [c2]; exact hv

theorem owns_full {w : World} {base e size g n : Nat} {xs : List Value} (h : w.ownsRow base e size (.slice (some ⟨g, 0, none⟩) n n) n xs) : w.heap[g]? = some (.cells xs.toArray e (0, 0)) := by
  rcases h.2 with ⟨h', _⟩ | ⟨g', cap', cur, h', _, hg, _, _, hcs, htake⟩
  · simp at h'
  · simp only [Value.slice.injEq, Option.some.injEq, Addr.mk.injEq, and_true, true_and] at h'
    obtain ⟨rfl, rfl⟩ := h'
    rw [hg]
    congr 2
    rw [← htake, List.take_of_length_le (by simp [hcs]), Array.toArray_toList]

/-- A row of cells of names, whole. -/
def RowN (w : World) (g : Nat) (xs : List Value) : Prop := w.heap[g]? = some (.cells xs.toArray 40 (0, 0))
theorem RowN.cell {w : World} {g : Nat} {xs : List Value} (h : RowN w g xs) (j : Nat) (hj : j < xs.length) : w.cell? ⟨g, j, none⟩ = some xs[j] := by
  unfold RowN at h
  simp [World.cell?, h, hj]
theorem RowN.free {w : World} {g : Nat} {xs : List Value} (h : RowN w g xs) (j : Nat) : w.frozen? ⟨g, j, none⟩ = false := by
  unfold RowN at h
  simp [World.frozen?, h]
theorem RowN.lt {w : World} {g : Nat} {xs : List Value} (h : RowN w g xs) : g < w.heap.size := (Array.getElem?_eq_some_iff.1 h).1
theorem RowN.set {w : World} {g : Nat} {xs : List Value} (h : RowN w g xs) (j : Nat) (u : Value) : RowN (w.setCell ⟨g, j, none⟩ u) g (xs.set j u) := by
  unfold RowN at h ⊢
  rw [heap_setCell_same w g j xs.toArray 40 u h]
  simp
theorem RowN.below {w w' : World} {g : Nat} {xs : List Value} (h : RowN w g xs) (hb : Below w.heap.size w w') : RowN w' g xs := by
  unfold RowN at h ⊢
  rw [hb.block g (RowN.lt h)]; exact h
theorem RowN.alloc {w : World} {g : Nat} {xs : List Value} (h : RowN w g xs) (o : Obj) : RowN (w.alloc o) g xs := h.below ((Below.refl _ _).alloc (Nat.le_refl _) o)
theorem RowN.drewN {w : World} {g : Nat} {xs : List Value} (h : RowN w g xs) (n : Nat) : RowN (w.drewN n) g xs := h

theorem take_two (xs : List Value) (j : Nat) (u v : Value) (h : j + 1 < xs.length) : ((xs.set j u).set (j + 1) v).take (j + 2) = xs.take j ++ [u, v] := by
  apply List.ext_getElem?
  intro i
  simp only [List.getElem?_take, List.getElem?_set, List.getElem?_append, List.length_take, List.length_set]
  by_cases h1 : i < j
  · have : i < min j xs.length := by omega
    simp [h1, this, show i < j + 2 from by omega, show ¬ j + 1 = i from by omega, show ¬ j = i from by omega]
  · by_cases h2 : i = j
    · subst h2
      have : ¬ i < min i xs.length := by omega
      have hm : i - min i xs.length = 0 := by omega
      simp [hm, show i < xs.length from by omega]
      try omega
    · by_cases h3 : i = j + 1
      · subst h3
        have hm : j + 1 - min j xs.length = 1 := by omega
        simp [hm, h, show ¬ j + 1 < min j xs.length from by omega]
      · simp [show ¬ i < j + 2 from by omega, show ¬ i < min j xs.length from by omega]
        omega

set_option maxRecDepth 100000 in
set_option maxHeartbeats 800000 in
theorem lent_any (a : Addr) (cap : Nat) (ns : List (ByteArray × Int)) (w : World) (hl : ns.length ≤ 5864062014634) (hn : NamesAt w (some a) ns) :
    Calls Tryz.prog 22 #[.slice (some a) ns.length cap] w fun e w' => ∃ g, e = .returned (.slice (some ⟨g, 0, none⟩) ns.length (ns.length + 8)) ∧ w.heap.size ≤ g ∧ g < w'.heap.size ∧ w'.heap[g]? = some (.cells (cellsN (ns ++ List.replicate 8 beyondB)).toArray 40 (0, 0)) ∧ Below w.heap.size w w' := by
  have HN := hid hn
  clear hn
  obtain ⟨i0, hi0, hz0, hz1, hz2⟩ := info_parts infoName
  have heq := fun (wx : World) => Lib.run_eql_slice_nil (P := Tryz.prog) wx 31 40 (some a) ns.length cap 0 0 Tryz.underlying31
  go_enter Tryz.func22, Tryz.ntmps22
  go_upto_region 5 with (first | (at_make; refine wpList_make_full _ rfl (.tmp 11) (.tmp 11) 31 rfl w.heap.size 40 i0 _ 2 Tryz.underlying31 hi0 hz0 hz1 .i64 .i64 _ _ (ns.length + 8) rfl rfl (by omega) (by omega) (by rw [hz2]; omega) (by unfold maxLen; omega) (Nat.le_refl _) ?_; intro w1 hown1 hgrow1; have hg1 := owns_full hown1; have hb1 : Below w.heap.size w w1 := (Below.refl _ _).grown hgrow1 (Nat.le_refl _) (fun j hj => by cases hj); have hz : w.heap.size < w1.heap.size := (Array.getElem?_eq_some_iff.1 hg1).1; have hgl := hown1.1))
  generalize (madeCells (Value.agg #[Value.string { data := #[] }, Value.int IntKind.i64 0]).cells ((ns.length + 8) * 2)).toList = mc at hg1 hgl
  clear hown1 hgrow1
  go_wp2_with ((refine wpList_copy_wide rfl (.tmp 13) (.tmp 14) 31 31 rfl 40 Tryz.underlying31 2 sizeName w.heap.size 0 (ns.length + 8) (ns.length + 8) a ns.length cap rfl rfl _ 40 hg1 (cellsN ns) (by rw [cellsN_length]; congr 1; exact (Nat.min_eq_left (by omega)).symm) (names_src (HN.out.below hb1)) (by rw [cellsN_length]; simp [hgl]; omega) (cellsN_one ns) w.heap.size w hb1 (Nat.le_refl _) ?_); intro w2 HG2 hB2)
  have hx0 : ∃ xs : List Value, RowN w2 w.heap.size xs ∧ xs.length = (ns.length + 8) * 2 ∧ xs.take (ns.length * 2) = cellsN ns :=
    ⟨_, HG2.out, by rw [length_splice _ _ _ (by rw [cellsN_length]; simp [hgl]; omega)]; simpa using hgl, by unfold splice; rw [List.take_zero, List.nil_append, ← cellsN_length, List.take_left]⟩
  have HX0 := hid hx0
  have HB2 := hid hB2
  clear hx0 HG2 hB2 hg1 hgl hb1 hz hi0 hz0 hz1 hz2
  go_loopw [5] (fun i wr => ∃ (j : Nat) (xs : List Value), ns.length ≤ j ∧ j ≤ ns.length + 8 ∧ i = .int .i64 j ∧ xs.length = (ns.length + 8) * 2 ∧ xs.take (j * 2) = cellsN (ns ++ List.replicate (j - ns.length) beyondB) ∧ RowN wr w.heap.size xs ∧ Below w.heap.size w wr) (fun i _ => ns.length + 8 - (intOf i).toNat)
  case atStart =>
    obtain ⟨xs, h1, h2, h3⟩ := HX0.out
    exact ⟨ns.length, xs, Nat.le_refl _, by omega, rfl, h2, by rw [Nat.sub_self]; simpa using h3, h1, HB2.out⟩
  case round =>
    obtain ⟨j, xs, hj1, hj2, rfl, hxl, hxt, hrow, hbr⟩ := hrel
    have HROW := hid hrow
    have HXT := hid hxt
    have HBR := hid hbr
    clear hrow hxt hbr
    by_cases hlt : j < ns.length + 8
    · have c1 := HROW.out.cell (j * 2) (by omega)
      have c2 := HROW.out.cell (j * 2 + 1) (by omega)
      have f1 := HROW.out.free (j * 2)
      have f2 := HROW.out.free (j * 2 + 1)
      go_wp2
      go_roundw
      case rel =>
        refine ⟨j + 1, _, by omega, by omega, by go_num, ?_, ?_, (HROW.out.set (j * 2) _).set (j * 2 + 1) _, (HBR.out.setCell (Nat.le_refl _) _).setCell (Nat.le_refl _) _⟩
        · simp [hxl]
        · rw [show (j + 1) * 2 = j * 2 + 2 from by omega, take_two _ _ _ _ (by omega), HXT.out, show j + 1 - ns.length = (j - ns.length) + 1 from by omega, List.replicate_succ', ← List.append_assoc, cellsN_append (ns ++ List.replicate (j - ns.length) beyondB)]
          rfl
      case measure => simp [intOf]; omega
    · have HE := hid (show RowN wr w.heap.size (cellsN (ns ++ List.replicate 8 beyondB)) by
        have h := HXT.out
        rw [List.take_of_length_le (by omega), show j - ns.length = 8 from by omega] at h
        rw [← h]; exact HROW.out)
      go_wp2
      go_ret
      exact ⟨w.heap.size, rfl, Nat.le_refl _, HE.out.lt, HE.out, HBR.out⟩

end Go.Proofs.YtcepppilgncdmaaGreatDoor

namespace Go.Proofs.YtcepppilgncdmaaGreatDoor
open Go.RowKit

/-- The list of names lies below block B. -/
def NamesBelow (B : Nat) (w : World) (a : Option Addr) (ns : List (ByteArray × Int)) : Prop :=
  ns = [] ∨ ∃ b off, a = some ⟨b, off, none⟩ ∧ b < B ∧ b < w.heap.size ∧ ∀ i (h : i < ns.length), w.cell? ⟨b, off + i * 2, none⟩ = some (.string ns[i].1) ∧ w.cell? ⟨b, off + i * 2 + 1, none⟩ = some (.int .i64 ns[i].2)

theorem NamesBelow.names {B : Nat} {w : World} {a : Option Addr} {ns : List (ByteArray × Int)} (h : NamesBelow B w a ns) : NamesAt w a ns := by
  rcases h with h | ⟨b, off, h1, _, h3, h4⟩
  · exact Or.inl h
  · exact Or.inr ⟨b, off, h1, h3, h4⟩
theorem NamesBelow.below {B : Nat} {w w' : World} {a : Option Addr} {ns : List (ByteArray × Int)} (h : NamesBelow B w a ns) (hb : Below B w w') : NamesBelow B w' a ns := by
  rcases h with h | ⟨b, off, h1, h2, h3, h4⟩
  · exact Or.inl h
  · refine Or.inr ⟨b, off, h1, h2, Nat.lt_of_lt_of_le h3 hb.size, fun i hi => ?_⟩
    rw [hb.cell (p := ⟨b, off + i * 2, none⟩) h2, hb.cell (p := ⟨b, off + i * 2 + 1, none⟩) h2]
    exact h4 i hi
theorem NamesAt.under {w : World} {a : Option Addr} {ns : List (ByteArray × Int)} (h : NamesAt w a ns) : NamesBelow w.heap.size w a ns := by
  rcases h with h | ⟨b, off, h1, h3, h4⟩
  · exact Or.inl h
  · exact Or.inr ⟨b, off, h1, h3, h3, h4⟩

theorem drop_two (xs : List Value) (j : Nat) (u v : Value) : ((xs.set j u).set (j + 1) v).drop (j + 2) = xs.drop (j + 2) := by
  rw [List.drop_set_of_lt (by omega), List.drop_set_of_lt (by omega)]

theorem get_of_drop {xs ys : List Value} {j i : Nat} (h : xs.drop j = ys.drop j) (hij : j ≤ i) : xs[i]? = ys[i]? := by
  have := congrArg (fun l => l[i - j]?) h
  simp only [List.getElem?_drop] at this
  rwa [show j + (i - j) = i from by omega] at this

set_option maxRecDepth 100000 in
set_option maxHeartbeats 1000000 in
theorem whole_any (g : Nat) (a : Addr) (cap : Nat) (ns : List (ByteArray × Int)) (B : Nat) (w : World) (hl : ns.length ≤ 5864062014634) (hB1 : B ≤ g) (hB2 : B ≤ w.heap.size) (hn : NamesBelow B w (some a) ns) (hrow : RowN w g (cellsN (ns ++ List.replicate 8 beyondB))) :
    Calls Tryz.prog 25 #[.slice (some ⟨g, 0, none⟩) ns.length (ns.length + 8), .slice (some a) ns.length cap] w fun e w' => e = .returned (.bool true) ∧ Below B w w' := by
  have HN := hid hn
  have HROW0 := hid hrow
  clear hn hrow
  have heq := fun (wx : World) => Lib.run_eql_slice_nil (P := Tryz.prog) wx 31 40 (some a) ns.length cap 0 0 Tryz.underlying31
  obtain ⟨all, hall⟩ : ∃ all, ns ++ List.replicate 8 beyondB = all := ⟨_, rfl⟩
  have hal : all.length = ns.length + 8 := by rw [← hall]; simp
  have HALL := hid hall
  have HROW1 := hid (show RowN w g (cellsN all) by rw [← hall]; exact HROW0.out)
  clear hall HROW0
  go_enter Tryz.func25, Tryz.ntmps25
  go_wp2
  go_loopw [7, 8] (fun ok i wr => ∃ (j : Nat) (xs : List Value), j ≤ ns.length + 8 ∧ i = .int .i64 j ∧ ok = .bool true ∧ xs.length = (ns.length + 8) * 2 ∧ xs.drop (j * 2) = (cellsN all).drop (j * 2) ∧ RowN wr g xs ∧ Below B w wr) (fun _ i _ => ns.length + 8 - (intOf i).toNat)
  case atStart => exact ⟨0, _, by omega, rfl, rfl, by rw [cellsN_length, hal], rfl, HROW1.out, Below.refl _ _⟩
  case round =>
    obtain ⟨j, xs, hj2, rfl, rfl, hxl, hxd, hrow, hbr⟩ := hrel
    have HROW := hid hrow
    have HXD := hid hxd
    have HBR := hid hbr
    clear hrow hxd hbr
    have hgw : g < wr.heap.size := HROW.out.lt
    have hBw : B ≤ wr.heap.size := Nat.le_trans hB2 HBR.out.size
    by_cases hlt : j < ns.length + 8
    · obtain ⟨d1, d2⟩ := cellsN_at all j (by omega)
      have c1 : wr.cell? ⟨g, j * 2, none⟩ = some (.string all[j].1) := by
        rw [HROW.out.cell (j * 2) (by omega), ← List.getElem?_eq_getElem, get_of_drop HXD.out (Nat.le_refl _), d1]
      have c2 : wr.cell? ⟨g, j * 2 + 1, none⟩ = some (.int .i64 all[j].2) := by
        rw [HROW.out.cell (j * 2 + 1) (by omega), ← List.getElem?_eq_getElem, get_of_drop HXD.out (by omega), d2]
      have f1 := HROW.out.free (j * 2)
      have f2 := HROW.out.free (j * 2 + 1)
      clear d1 d2
      by_cases hjn : j < ns.length
      · have hej : all[j] = ns[j] := by have := HALL.out; subst this; rw [List.getElem_append_left hjn]
        rw [hej] at c1 c2
        rcases (HN.out.below HBR.out) with h | ⟨b, off, ha, hbB, hbl, hc⟩
        · rw [h] at hjn; simp at hjn
        · simp only [Option.some.injEq] at ha
          subst ha
          obtain ⟨e1, e2⟩ := hc j hjn
          clear hc hej
          obtain ⟨p, hp⟩ : ∃ p, ns[j] = p := ⟨_, rfl⟩
          rw [hp] at c1 c2 e1 e2
          clear hp
          obtain ⟨nm, vl⟩ := p
          simp only at c1 c2 e1 e2
          have hne : ¬ b = wr.heap.size := by omega
          have i1 : (0 : Int) ≤ (j : Int) := Int.natCast_nonneg _
          have i2 : (j : Int) < (ns.length : Int) + 8 := by omega
          go_wp2
          go_quiet (fail)
          go_wp2
          go_roundw
          case rel => exact ⟨j + 1, _, by omega, by go_num, by simp, by simp [hxl], by rw [show (j + 1) * 2 = j * 2 + 2 from by omega, drop_two, ← List.drop_drop, HXD.out, List.drop_drop], (((HROW.out.alloc _).drewN _).set (j * 2) _).set (j * 2 + 1) _, ((below_drewN (HBR.out.alloc hBw _) _).setCell hB1 _).setCell hB1 _⟩
          case measure => simp [intOf]; omega
      · have hej : all[j] = beyondB := by have := HALL.out; subst this; rw [List.getElem_append_right (by omega), List.getElem_replicate]
        rw [hej] at c1 c2
        simp only [beyondB] at c1 c2
        have i1 : (0 : Int) ≤ (j : Int) := Int.natCast_nonneg _
        have i2 : (j : Int) < (ns.length : Int) + 8 := by omega
        clear hej
        go_wp2
        go_quiet (fail)
        go_wp2
        go_roundw
        case rel => exact ⟨j + 1, _, by omega, by go_num, by simp, by simp [hxl], by rw [show (j + 1) * 2 = j * 2 + 2 from by omega, drop_two, ← List.drop_drop, HXD.out, List.drop_drop], (((HROW.out.alloc _).drewN _).set (j * 2) _).set (j * 2 + 1) _, ((below_drewN (HBR.out.alloc hBw _) _).setCell hB1 _).setCell hB1 _⟩
        case measure => simp [intOf]; omega
    · go_wp2
      go_ret
      exact ⟨rfl, HBR.out⟩

end Go.Proofs.YtcepppilgncdmaaGreatDoor

namespace Go.Proofs.YtcepppilgncdmaaGreatDoor
open Go.RowKit

theorem L_head (s : ByteArray) (h : 0 < s.size) : L s = s[0] :: (L s).drop 1 := by
  have := L_drop s 0 h
  rw [List.drop_zero] at this
  exact this

set_option maxHeartbeats 800000 in
theorem findTerm_any (s : ByteArray) (at_ : Int) (a : Option Addr) (cap : Nat) (ns : List (ByteArray × Int)) (w : World) (v : Int) (n : Nat) (er : Int) (hs : s.size ≤ maxLen) (hl : ns.length ≤ maxLen) (hn : NamesAt w a ns) (hv : term at_ (plainN ns) (L s) = (v, n, er)) :
    Calls Tryz.prog 85 #[.string s, .int .i64 at_, .slice a ns.length cap] w fun e w' => e = .returned (.tuple #[.int .i64 v, .int .i64 n, .int .i64 er]) ∧ Below w.heap.size w w' := by
  have HN := hid hn
  clear hn
  by_cases h0 : s.size = 0
  · have he := empty_of s h0
    subst he
    have hv' : (0, 0, 4) = (v, n, er) := hv
    obtain ⟨rfl, rfl, rfl⟩ := trip_eq hv'
    clear hv hv' h0 hs
    go_enter Tryz.func85, Tryz.ntmps85
    go_wp2_with fail
    go_ret3
    exact ⟨rfl, Below.refl _ _⟩
  · have hpos : 0 < s.size := by omega
    have ke := not_empty s hpos
    have HL := hid (L_head s hpos)
    rw [HL.out] at hv
    simp only [term] at hv
    rw [← HL.out] at hv
    by_cases hd : digB (s[0].toNat : Int) = true
    · rw [if_pos hd] at hv
      obtain ⟨rfl, rfl, rfl⟩ := trip_eq hv
      clear hv
      rcases hg : digs 10 0 0 (L s) with ⟨x, k⟩
      have HG := hid hg
      clear hg
      simp only
      go_enter Tryz.func85, Tryz.ntmps85
      go_wp2_with (first | (go_at_call 119; refine (isDigit_any _ _).mono ?_; rintro e w' ⟨rfl, rfl⟩) | (go_at_call 124; refine (readDigits_any _ _ _ _ _ hs (Or.inl rfl) HG).mono ?_; rintro e w' ⟨rfl, rfl⟩))
      go_ret3
      exact ⟨rfl, Below.refl _ _⟩
    · have kd : digB (s[0].toNat : Int) = false := by simpa using hd
      rw [if_neg hd] at hv
      by_cases h36 : (s[0].toNat : Int) = 36
      · rw [if_pos h36] at hv
        have HV := hid hv
        clear hv
        have k36 : ((s[0].toNat : Int) == 36) = true := by simpa using h36
        clear h36
        go_enter Tryz.func85, Tryz.ntmps85
        go_wp2_with (first | (go_at_call 119; refine (isDigit_any _ _).mono ?_; rintro e w' ⟨rfl, rfl⟩) | (go_at_call 125; refine (findBase16_any _ _ _ _ _ hs hpos HV.out).mono ?_; rintro e w' ⟨rfl, rfl⟩))
        go_ret3
        exact ⟨rfl, Below.refl _ _⟩
      · rw [if_neg h36] at hv
        have k36 : ((s[0].toNat : Int) == 36) = false := by simpa using h36
        by_cases h39 : (s[0].toNat : Int) = 39
        · rw [if_pos h39] at hv
          have HV := hid hv
          clear hv
          have k39 : ((s[0].toNat : Int) == 39) = true := by simpa using h39
          clear h36 h39
          go_enter Tryz.func85, Tryz.ntmps85
          go_wp2_with (first | (go_at_call 119; refine (isDigit_any _ _).mono ?_; rintro e w' ⟨rfl, rfl⟩) | (go_at_call 126; refine (findQuoted_any _ _ _ _ _ hpos HV.out).mono ?_; rintro e w' ⟨rfl, rfl⟩))
          go_ret3
          exact ⟨rfl, Below.refl _ _⟩
        · rw [if_neg h39] at hv
          have k39 : ((s[0].toNat : Int) == 39) = false := by simpa using h39
          by_cases h46 : (s[0].toNat : Int) = 46
          · rw [if_pos h46] at hv
            obtain ⟨rfl, rfl, rfl⟩ := trip_eq hv
            clear hv
            have k46 : ((s[0].toNat : Int) == 46) = true := by simpa using h46
            clear h36 h39 h46
            go_enter Tryz.func85, Tryz.ntmps85
            go_wp2_with (first | (go_at_call 119; refine (isDigit_any _ _).mono ?_; rintro e w' ⟨rfl, rfl⟩))
            go_ret3
            exact ⟨rfl, Below.refl _ _⟩
          · rw [if_neg h46] at hv
            have k46 : ((s[0].toNat : Int) == 46) = false := by simpa using h46
            have HV := hid hv
            clear hv h36 h39 h46
            go_enter Tryz.func85, Tryz.ntmps85
            go_wp2_with (first | (go_at_call 119; refine (isDigit_any _ _).mono ?_; rintro e w' ⟨rfl, rfl⟩) | (go_at_call 127; refine (findName_any _ _ _ _ _ _ _ _ hs hl HN.out HV.out).mono ?_; rintro e w' ⟨rfl, hb⟩))
            go_ret3
            exact ⟨rfl, hb⟩

theorem term_len' (at_ : Int) (ns : List (ByteArray × Int)) (s : ByteArray) {v : Int} {n : Nat} {er : Int} (h : term at_ (plainN ns) (L s) = (v, n, er)) : n ≤ s.size := by
  have := term_len at_ (plainN ns) (L s)
  rw [h, L_length] at this
  exact this

set_option maxHeartbeats 800000 in
theorem readTerm_any (s : ByteArray) (at_ : Int) (a : Option Addr) (cap : Nat) (ns : List (ByteArray × Int)) (w : World) (v : Int) (r : List UInt8) (er : Int) (hs : s.size ≤ maxLen) (hl : ns.length ≤ maxLen) (hn : NamesAt w a ns) (hv : readT at_ (plainN ns) (L s) = (v, r, er)) :
    Calls Tryz.prog 52 #[.string s, .int .i64 at_, .slice a ns.length cap] w fun e w' => ∃ t : ByteArray, L t = r ∧ t.size ≤ s.size ∧ e = .returned (.tuple #[.int .i64 v, .string t, .int .i64 er]) ∧ Below w.heap.size w w' := by
  have HN := hid hn
  clear hn
  rcases hg : term at_ (plainN ns) (L s) with ⟨x, k, y⟩
  have hkl := term_len' at_ ns s hg
  have hs' := hs
  unfold maxLen at hs'
  unfold readT at hv
  rw [hg] at hv
  have HG := hid hg
  clear hg
  simp only at hv
  by_cases hy : y = 0
  · subst hy
    rw [if_neg (by simp)] at hv
    by_cases hx : x < -1000000 ∨ 1000000 < x
    · rw [if_pos hx] at hv
      obtain ⟨rfl, rfl, rfl⟩ := trip_eq hv
      clear hv
      rcases hx with hx | hx
      all_goals
        go_enter Tryz.func52, Tryz.ntmps52
        go_wp2_with (first | (go_at_call 85; refine (findTerm_any _ _ _ _ _ _ _ _ _ hs hl HN.out HG.out).mono ?_; rintro e w' ⟨rfl, hb⟩))
        go_ret3
        exact ⟨⟨#[]⟩, rfl, Nat.zero_le _, rfl, hb⟩
    · rw [if_neg hx] at hv
      obtain ⟨rfl, rfl, rfl⟩ := trip_eq hv
      clear hv
      have hx1 : ¬ x < -1000000 := by omega
      have hx2 : ¬ 1000000 < x := by omega
      have k1 : decide (x < -1000000) = false := by simpa using hx1
      have k2 : decide (1000000 < x) = false := by simpa using hx2
      clear hx
      go_enter Tryz.func52, Tryz.ntmps52
      go_wp2_with (first | (go_at_call 85; refine (findTerm_any _ _ _ _ _ _ _ _ _ hs hl HN.out HG.out).mono ?_; rintro e w' ⟨rfl, hb⟩))
      go_quiet (fail)
      go_wp2
      go_ret3
      exact ⟨s.extract k s.size, L_suffix s k, by rw [ByteArray.size_extract]; omega, rfl, below_drewN hb _⟩
  · rw [if_pos hy] at hv
    obtain ⟨rfl, rfl, rfl⟩ := trip_eq hv
    clear hv
    have ky : (y != 0) = true := by simpa using hy
    go_enter Tryz.func52, Tryz.ntmps52
    go_wp2_with (first | (go_at_call 85; refine (findTerm_any _ _ _ _ _ _ _ _ _ hs hl HN.out HG.out).mono ?_; rintro e w' ⟨rfl, hb⟩))
    go_ret3
    exact ⟨⟨#[]⟩, rfl, Nat.zero_le _, rfl, hb⟩

set_option maxHeartbeats 800000 in
theorem reckon_any (sum sign number : Int) (w : World) (v er : Int) (h1 : -1000000 ≤ sum ∧ sum ≤ 1000000) (h2 : -1000000 ≤ number ∧ number ≤ 1000000) (hv : reck sum sign number = (v, er)) (hg : sign = 43 ∨ sign = 45 ∨ sign = 42) :
    Calls Tryz.prog 53 #[.int .i64 sum, .int .u8 sign, .int .i64 number] w fun e w' => e = .returned (.tuple #[.int .i64 v, .int .i64 er]) ∧ w' = w := by
  obtain ⟨a1, a2⟩ := h1
  obtain ⟨b1, b2⟩ := h2
  have hm : -1000000000000 ≤ sum * number ∧ sum * number ≤ 1000000000000 := mul_bd sum number a1 a2 b1 b2
  obtain ⟨m1, m2⟩ := hm
  have hst : step sum sign number = if sign = 43 then sum + number else if sign = 45 then sum - number else if sign = 42 then sum * number else sum := rfl
  unfold reck at hv
  rw [hst] at hv
  clear hst
  rcases hg with rfl | rfl | rfl
  all_goals
    simp at hv
    split at hv
    · rename_i hout
      obtain ⟨rfl, rfl⟩ := pair_eq hv
      clear hv
      rcases hout with hout | hout
      all_goals
        go_enter Tryz.func53, Tryz.ntmps53
        go_wp2
        go_ret2
        exact ⟨rfl, rfl⟩
    · rename_i hin
      obtain ⟨rfl, rfl⟩ := pair_eq hv
      clear hv
      have i1 : ¬ _ := fun h => hin (Or.inl h)
      have i2 : ¬ _ := fun h => hin (Or.inr h)
      have k1 := decide_eq_false i1
      have k2 := decide_eq_false i2
      clear hin
      go_enter Tryz.func53, Tryz.ntmps53
      go_wp2
      go_ret2
      exact ⟨rfl, rfl⟩

end Go.Proofs.YtcepppilgncdmaaGreatDoor
