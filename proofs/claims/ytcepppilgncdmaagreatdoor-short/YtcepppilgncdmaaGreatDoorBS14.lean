/-
  What the functions of package expression that look names up answer; the names lie in memory as a Go list of names does.
-/
import Derived.Test.YtcepppilgncdmaaGreatDoorBS10
namespace Go.Proofs.YtcepppilgncdmaaGreatDoor
open Go.RowKit

/-- The names of a list, as plain data. -/
def plainN (ns : List (ByteArray × Int)) : List (List UInt8 × Int) := ns.map fun p => (L p.1, p.2)

/-- The list of names lies in the world: two cells a name. -/
def NamesAt (w : World) (a : Option Addr) (ns : List (ByteArray × Int)) : Prop :=
  ns = [] ∨ ∃ b off, a = some ⟨b, off, none⟩ ∧ b < w.heap.size ∧ ∀ i (h : i < ns.length), w.cell? ⟨b, off + i * 2, none⟩ = some (.string ns[i].1) ∧ w.cell? ⟨b, off + i * 2 + 1, none⟩ = some (.int .i64 ns[i].2)

theorem NamesAt.below {w w' : World} {a : Option Addr} {ns : List (ByteArray × Int)} (h : NamesAt w a ns) (hb : Below w.heap.size w w') : NamesAt w' a ns := by
  rcases h with h | ⟨b, off, ha, hl, hc⟩
  · exact Or.inl h
  · refine Or.inr ⟨b, off, ha, by have := hb.size; omega, fun i hi => ?_⟩
    obtain ⟨h1, h2⟩ := hc i hi
    exact ⟨by rw [hb.cell (p := ⟨b, off + i * 2, none⟩) hl]; exact h1, by rw [hb.cell (p := ⟨b, off + i * 2 + 1, none⟩) hl]; exact h2⟩

theorem findN_at (ns : List (ByteArray × Int)) (x : List UInt8) (k : Nat) (h : k < ns.length) : findN (plainN (ns.drop k)) x = if L ns[k].1 = x then some ns[k].2 else findN (plainN (ns.drop (k + 1))) x := by
  rw [List.drop_eq_getElem_cons h]; rfl
theorem findN_end (ns : List (ByteArray × Int)) (x : List UInt8) (k : Nat) (h : ns.length ≤ k) : findN (plainN (ns.drop k)) x = none := by
  rw [List.drop_eq_nil_of_le h]; rfl

theorem beq_of_L {s t : ByteArray} (h : L s = L t) : (s.toList == t.toList) = true := by
  rw [ByteArray.toList_eq, ByteArray.toList_eq, beq_iff_eq]; exact h
theorem nbeq_of_L {s t : ByteArray} (h : ¬ L s = L t) : (s.toList == t.toList) = false := by
  rw [ByteArray.toList_eq, ByteArray.toList_eq, beq_eq_false_iff_ne]; exact h

set_option maxHeartbeats 800000 in
theorem findName_any (s : ByteArray) (a : Option Addr) (cap : Nat) (ns : List (ByteArray × Int)) (w : World) (v : Int) (n : Nat) (er : Int) (hs : s.size ≤ maxLen) (hl : ns.length ≤ maxLen) (hn : NamesAt w a ns) (hv : named (L s) (plainN ns) = (v, n, er)) :
    Calls Tryz.prog 127 #[.string s, .slice a ns.length cap] w fun e w' => e = .returned (.tuple #[.int .i64 v, .int .i64 n, .int .i64 er]) ∧ Below w.heap.size w w' := by
  have hs0 := hs
  unfold maxLen at hs hl
  have HV := hid hv
  have HN := hid hn
  clear hv hn
  have hwl := wordLen_le (L s)
  rw [L_length] at hwl
  obtain ⟨m, hm⟩ : ∃ m, wordLen (L s) = m := ⟨_, rfl⟩
  rw [hm] at hwl
  have HM := hid hm
  clear hm
  go_enter Tryz.func127, Tryz.ntmps127
  go_wp2
  go_loop [7] (fun i => ∃ k : Nat, k ≤ m ∧ i = .int .i64 k ∧ m = k + wordLen ((L s).drop k)) (fun i => s.size - (intOf i).toNat)
  case atStart => exact ⟨0, Nat.zero_le _, rfl, by rw [List.drop_zero, HM.out]; omega⟩
  case round =>
    obtain ⟨k, hk, rfl, ha⟩ := hrel
    have HA := hid ha
    clear ha
    have hks : k ≤ s.size := by omega
    by_cases hlt : k < m
    · have hlt' : k < s.size := by omega
      have kn : nbB (s[k].toNat : Int) = true := by
        cases hb : nbB (s[k].toNat : Int) with
        | true => rfl
        | false => have := wordLen_no s k hlt' hb; have := HA.out; omega
      have HS := hid (wordLen_at s k hlt' kn)
      have hdec : decide ((k : Int) < s.size) = true := by simp; omega
      go_wp2_with (first | (go_at_call 120; refine (isNameByte_any _ _).mono ?_; rintro e w' ⟨rfl, rfl⟩))
      go_round
      case rel => exact ⟨k + 1, by omega, by go_num, by rw [HA.out, HS.out]; omega⟩
      case measure => simp [intOf]; omega
    · have hkm : k = m := by omega
      subst hkm
      have hstop : ∀ h : k < s.size, nbB (s[k].toNat : Int) = false := by
        intro h
        cases hb : nbB (s[k].toNat : Int) with
        | false => rfl
        | true => have := wordLen_at s k h hb; have := HA.out; omega
      clear hlt HA
      have hex : (s.extract 0 k).size ≤ maxLen := by rw [ByteArray.size_extract]; omega
      have HX := hid (L_prefix s k)
      have hv := HV.out
      unfold named at hv
      rw [HM.out, ← HX.out] at hv
      clear HV
      by_cases hnm : nameB (L (s.extract 0 k)) = true
      · rw [if_pos hnm] at hv
        have HF := hid hv
        clear hv
        by_cases hlt : k < s.size
        all_goals
          try have kn := hstop hlt
          clear hstop
          go_wp2_with (first | (go_at_call 120; refine (isNameByte_any _ _).mono ?_; rintro e w' ⟨rfl, rfl⟩) | (go_at_call 78; refine (IsName_any _ _ hex).mono ?_; rintro e w' ⟨rfl, rfl⟩))
          go_loopw [31] (fun i wr => ∃ j : Nat, j ≤ ns.length ∧ i = .int .i64 j ∧ Below w'.heap.size w' wr ∧ findN (plainN ns) (L (s.extract 0 k)) = findN (plainN (ns.drop j)) (L (s.extract 0 k))) (fun i _ => ns.length - (intOf i).toNat)
          case atStart => exact ⟨0, Nat.zero_le _, rfl, Below.refl _ _, by rw [List.drop_zero]⟩
          case round =>
            obtain ⟨j, hj, rfl, hbel, hfd⟩ := hrel
            have HB := hid hbel
            have HFD := hid hfd
            clear hbel hfd
            by_cases hjl : j < ns.length
            · rcases HN.out with h | ⟨b, off, ha, hbl, hc⟩
              · rw [h] at hjl; simp at hjl
              · subst ha
                obtain ⟨c1, c2⟩ := hc j hjl
                rw [← HB.out.cell (p := ⟨b, off + j * 2, none⟩) hbl] at c1
                rw [← HB.out.cell (p := ⟨b, off + j * 2 + 1, none⟩) hbl] at c2
                clear hc
                have HS := hid (findN_at ns (L (s.extract 0 k)) j hjl)
                by_cases heq : L ns[j].1 = L (s.extract 0 k)
                · have ke := beq_of_L heq
                  have hr : findN (plainN ns) (L (s.extract 0 k)) = some ns[j].2 := by rw [HFD.out, HS.out, if_pos heq]
                  have hf := HF.out
                  rw [hr] at hf
                  obtain ⟨rfl, rfl, rfl⟩ := trip_eq hf
                  clear hf hr HS HFD HF heq
                  go_wp2
                  go_ret3
                  exact ⟨rfl, HB.out.alloc (by have := HB.out.size; exact this) _⟩
                · have ke := nbeq_of_L heq
                  have HR := hid (show findN (plainN ns) (L (s.extract 0 k)) = findN (plainN (ns.drop (j + 1))) (L (s.extract 0 k)) by rw [HFD.out, HS.out, if_neg heq])
                  clear HS HFD heq
                  go_wp2
                  go_roundw
                  case rel => exact ⟨j + 1, by omega, by go_num, HB.out.alloc (by have := HB.out.size; exact this) _, HR.out⟩
                  case measure => simp [intOf]; omega
            · have hr : findN (plainN ns) (L (s.extract 0 k)) = none := by rw [HFD.out, findN_end _ _ _ (by omega)]
              have hf := HF.out
              rw [hr] at hf
              obtain ⟨rfl, rfl, rfl⟩ := trip_eq hf
              clear hf hr HFD HF
              go_wp2
              go_ret3
              exact ⟨rfl, HB.out⟩
      · have hnf : nameB (L (s.extract 0 k)) = false := by simpa using hnm
        rw [if_neg hnm] at hv
        obtain ⟨rfl, rfl, rfl⟩ := trip_eq hv
        clear hv
        by_cases hlt : k < s.size
        all_goals
          try have kn := hstop hlt
          clear hstop
          go_wp2_with (first | (go_at_call 120; refine (isNameByte_any _ _).mono ?_; rintro e w' ⟨rfl, rfl⟩) | (go_at_call 78; refine (IsName_any _ _ hex).mono ?_; rintro e w' ⟨rfl, rfl⟩))
          go_ret3
          exact ⟨rfl, Below.refl _ _⟩

end Go.Proofs.YtcepppilgncdmaaGreatDoor
