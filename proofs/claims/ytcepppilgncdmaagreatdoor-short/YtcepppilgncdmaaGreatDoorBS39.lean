/-
  Short (package masonkeep): the text.
-/
import Derived.Test.YtcepppilgncdmaaGreatDoorBS03
import Derived.Test.YtcepppilgncdmaaGreatDoorBS06
import Derived.Test.YtcepppilgncdmaaGreatDoorBS37
import Derived.Test.YtcepppilgncdmaaGreatDoorBS38
namespace Go.Proofs.YtcepppilgncdmaaGreatDoor
open Go.RowKit
attribute [local go_sem ↓] Go.wp_at_zero Go.wp_at_succ

/-- A list of pairs of numbers lies in the world. -/
def JmpsAt (w : World) (a : Option Addr) (cs : List (Int × Int)) : Prop :=
  cs = [] ∨ ∃ b off, a = some ⟨b, off, none⟩ ∧ b < w.heap.size ∧ ∀ i (h : i < cs.length), w.cell? ⟨b, off + i * 2, none⟩ = some (.int .i64 cs[i].1) ∧ w.cell? ⟨b, off + i * 2 + 1, none⟩ = some (.int .i64 cs[i].2) ∧ i64ok cs[i].1 ∧ i64ok cs[i].2
/-- The text is made. -/
def ShOut (w1 : World) (js : List JmpP) (s tot : Value) (wx : World) : Prop :=
  ∃ sB : ByteArray, s = .string sB ∧ tot = .int .i64 (totTo js js.length : Nat) ∧ L sB = textL (shLns 0 js) ∧ Below w1.heap.size w1 wx

theorem say_each : ∀ {k : Nat} {ls : List LnV} {ss : List StV} {l : List StmP}, Say k ls ss l → Sized ls l → ∀ (i : Nat) s, l[i]? = some s → ∃ ln, ls[i]? = some ln ∧ ln.frm = s.frm ∧ (ln.at_ : Int) = s.at_ ∧ ln.size = sizeP s
  | _, [], [], [], _, _, i, s, h => by simp at h
  | _, ln :: lr, x :: xr, c :: sr, h, hz, 0, s, hs => by
    simp at hs
    subst hs
    exact ⟨ln, rfl, h.1.frm, h.1.at_, hz.1⟩
  | _, ln :: lr, x :: xr, c :: sr, h, hz, i + 1, s, hs => by
    obtain ⟨y, h1, h2⟩ := say_each h.2 hz.2 i s (by simpa using hs)
    exact ⟨y, by simpa using h1, h2⟩
  | _, [], [], _ :: _, h, _, _, _, _ => h.elim
  | _, [], _ :: _, _, h, _, _, _, _ => h.elim
  | _, _ :: _, [], _, h, _, _, _, _ => h.elim
  | _, _ :: _, _ :: _, [], h, _, _, _, _ => h.elim

/-- A number's digits, as a string. -/
def numT (n : Nat) : ByteArray := ⟨(digN n).toArray⟩
theorem numT_L (n : Nat) : L (numT n) = digN n := rfl
theorem number_is (n : Nat) (w : World) (hn : n < 1000000) : Calls Tryz.prog 14 #[.int .i64 n] w fun e w' => e = .returned (.string (numT n)) ∧ Below w.heap.size w w' :=
  (number_any n w hn).mono fun e w' ⟨t, h1, _, h3, h4⟩ => ⟨by rw [h3, L_inj (h1.trans (numT_L n).symm)], h4⟩

theorem own_cap {w : World} {C e s n cap : Nat} {a : Option Addr} {xs : List Value} (h : w.ownsRow C e s (.slice a n cap) n xs) : n ≤ cap := by
  rcases h.2 with ⟨h1, h0⟩ | ⟨g, cap', cur, h1, _, _, h2, _⟩
  · omega
  · injection h1 with _ _ h3
    omega
theorem pick_bel (c n : Int) (m : Nat) (w : World) (hc : i64ok c) (hn : 0 < n ∧ n ≤ 9223372036854775807) (hm : pickI c n = m) :
    Calls Tryz.prog 15 #[.int .i64 c, .int .i64 n] w fun e w' => e = .returned (.int .i64 (m : Int)) ∧ Below w.heap.size w w' :=
  (pick_nat c n m w hc hn hm).mono fun _ _ ⟨h1, h2⟩ => ⟨h1, by rw [h2]; exact Below.refl _ _⟩

set_option maxRecDepth 100000 in
set_option maxHeartbeats 3200000 in
theorem Short_any (al : Option Addr) (cl : Nat) (zs : List (Int × Int)) (w : World) (hzs : JmpsAt w al zs) (hlz : zs.length ≤ maxLen) (hm : MaxAt w) :
    Calls Tryz.prog 7 #[.slice al zs.length cl] w fun e w' => e = .returned (.bool true) ∧ Below w.heap.size w w' := by
  have HZS := hid hzs
  have HM := hid hm
  unfold maxLen at hlz
  clear hzs hm
  go_enter Tryz.func7, Tryz.ntmps7
  go_upto_block 0 with (first | (go_at_call 10; refine (first_any _ HM.out).mono ?_; rintro e w1 ⟨rfl, hb⟩))
  have hw1 := hb.size
  have HB1 := hid hb
  clear hb
  obtain ⟨js, hjs⟩ : ∃ js, jsOf zs = js := ⟨_, rfl⟩
  have hlen := jsOf_len zs
  have hok := jsOf_ok zs
  rw [hjs] at hlen hok
  have hmin : min (zs.length : Int) 90 = (js.length : Int) := by omega
  rw [hmin]
  have HJS := hid hjs
  have HOK := hid hok
  have hn9 : js.length ≤ 90 := by omega
  have hnz : js.length ≤ zs.length := by omega
  clear hjs hok hlen hmin
  go_cut [5, 6] (fun s tot wx => ShOut w1 js s tot wx)
  case first =>
    as_aux_lemma =>
      go_wp2_with fail
      go_loopw [5, 6, 7] (fun s tot i wr => ∃ (sB : ByteArray) (j : Nat), j ≤ js.length ∧ s = .string sB ∧ tot = .int .i64 (totTo js j : Nat) ∧ i = .int .i64 (j : Nat) ∧ L sB = textL (shLns 0 (js.take j)) ∧ Below w1.heap.size w1 wr) (fun _ _ i _ => js.length - (intOf i).toNat)
      case atStart => exact ⟨⟨#[]⟩, 0, Nat.zero_le _, rfl, rfl, rfl, rfl, Below.refl _ _⟩
      case round =>
        obtain ⟨sB, j, hjn, rfl, rfl, rfl, hL, hbr⟩ := hrel
        have HL := hid hL
        have HBR := hid hbr
        have hsz := text_len js hn9 HOK.out j hjn
        rw [← hL, L_length] at hsz
        have htb := totTo_bd js HOK.out j
        clear hL hbr
        by_cases hj : j < js.length
        · have hjz : j < zs.length := by omega
          rcases HZS.out with h | ⟨b, off, ha, hbl, hc⟩
          · rw [h] at hjz; simp at hjz
          · subst ha
            obtain ⟨c0, c1, ok0, ok1⟩ := hc j hjz
            clear hc
            have hpk := jsOf_picks zs j (by rw [HJS.out]; exact hj) hjz
            simp only [HJS.out] at hpk
            have htx := textL_next js j hj
            have hts := totTo_succ js j hj
            have hoj := HOK.out js[j] (List.getElem_mem hj)
            obtain ⟨J, hJ⟩ : ∃ J, js[j] = J := ⟨_, rfl⟩
            rw [hJ] at hpk htx hts hoj
            obtain ⟨z, hz⟩ : ∃ z, zs[j] = z := ⟨_, rfl⟩
            rw [hz] at c0 c1 ok0 ok1 hpk
            obtain ⟨z0, z1⟩ := z
            simp only at c0 c1 ok0 ok1 hpk
            obtain ⟨hp0, hp1, hp2, hp3⟩ := hpk
            have hbt : Below w.heap.size w wr := HB1.out.trans (HBR.out.mono hw1)
            have HBT := hid hbt
            have HC0 := hid c0
            have HC1 := hid c1
            rw [← hbt.cell (p := ⟨b, off + j * 2, none⟩) hbl] at c0
            rw [← hbt.cell (p := ⟨b, off + j * 2 + 1, none⟩) hbl] at c1
            have OK0 := hid ok0
            have OK1 := hid ok1
            have HP0 := hid hp0
            have HP1 := hid hp1
            have HP2 := hid hp2
            have HP3 := hid hp3
            have HTX := hid htx
            have HTS := hid hts
            have HOJ := hid hoj
            have hk10 := hoj.kind
            have hto := hoj.to
            have hrg := hoj.reg
            have hrm := hoj.room
            have i1 : (0 : Int) ≤ (j : Int) := Int.natCast_nonneg _
            have i2 : (j : Int) < (zs.length : Int) := by omega
            have dn : decide ((j : Int) < js.length) = true := decide_eq_true (by omega)
            clear hJ hz ok0 ok1 hp0 hp1 hp2 hp3 htx hts hoj hbt
            go_wp2_with fail
            refine (number_any j wr (by omega)).mono ?_
            rintro e w2 ⟨t1, ht1, hs1, rfl, hb2⟩
            have HT1 := hid ht1
            have HB2 := hid (HBR.out.trans (hb2.mono HBR.out.size))
            have HBU := hid (HBT.out.trans (hb2.mono HBT.out.size))
            have c0 := HC0.out
            have c1 := HC1.out
            rw [← HBU.out.cell (p := ⟨b, off + j * 2, none⟩) hbl] at c0
            rw [← HBU.out.cell (p := ⟨b, off + j * 2 + 1, none⟩) hbl] at c1
            clear ht1 hb2
            go_wp2_with fail
            refine (pick_nat z1 js.length J.to w2 OK1.out ⟨by omega, by omega⟩ HP1.out).mono ?_
            rintro e w3 ⟨rfl, hw⟩
            obtain rfl := hw.symm
            clear hw
            go_wp2_with fail
            refine (number_any J.to w2 (by omega)).mono ?_
            rintro e w3 ⟨t2, ht2, hs2, rfl, hb3⟩
            have HT2 := hid ht2
            have HB3 := hid (HB2.out.trans (hb3.mono HB2.out.size))
            have HBV := hid (HBU.out.trans (hb3.mono HBU.out.size))
            clear c0 c1
            have c0 := HC0.out
            have c1 := HC1.out
            rw [← HBV.out.cell (p := ⟨b, off + j * 2, none⟩) hbl] at c0
            rw [← HBV.out.cell (p := ⟨b, off + j * 2 + 1, none⟩) hbl] at c1
            clear ht2 hb3
            go_wp2_with fail
            refine (pick_nat z0 10 J.kind w3 OK0.out ⟨by omega, by omega⟩ HP0.out).mono ?_
            rintro e w4 ⟨rfl, hw⟩
            obtain rfl := hw.symm
            clear hw
            obtain ⟨kd, hkd⟩ : ∃ kd, J.kind = kd := ⟨_, rfl⟩
            rw [hkd] at hk10 ⊢
            have HK := hid hkd
            clear hkd
            have hks : kd = 0 ∨ kd = 1 ∨ kd = 2 ∨ kd = 3 ∨ kd = 4 ∨ kd = 5 ∨ kd = 6 ∨ kd = 7 ∨ kd = 8 ∨ kd = 9 := by omega
            rcases hks with rfl | rfl | rfl | rfl | rfl | rfl | rfl | rfl | rfl | rfl
            · go_wp2_with fail
              go_roundw
              case rel =>
                refine ⟨_, j + 1, by omega, rfl, ?_, by go_num, ?_, HB3.out⟩
                · rw [HTS.out, show totJ J = 3 from by unfold totJ; simp [HK.out]]
                  go_num
                · rw [HTX.out, shLn_jmp j J (by rw [HK.out]; omega)]
                  simp only [L_append, HT1.out, HT2.out, HL.out]
                  simp [pN, digN, L]
              case measure => simp [intOf]; omega
            · go_wp2_with fail
              go_roundw
              case rel =>
                refine ⟨_, j + 1, by omega, rfl, ?_, by go_num, ?_, HB3.out⟩
                · rw [HTS.out, show totJ J = 3 from by unfold totJ; simp [HK.out]]
                  go_num
                · rw [HTX.out, shLn_jmp j J (by rw [HK.out]; omega)]
                  simp only [L_append, HT1.out, HT2.out, HL.out]
                  simp [pN, digN, L]
              case measure => simp [intOf]; omega
            · go_wp2_with fail
              go_roundw
              case rel =>
                refine ⟨_, j + 1, by omega, rfl, ?_, by go_num, ?_, HB3.out⟩
                · rw [HTS.out, show totJ J = 3 from by unfold totJ; simp [HK.out]]
                  go_num
                · rw [HTX.out, shLn_jmp j J (by rw [HK.out]; omega)]
                  simp only [L_append, HT1.out, HT2.out, HL.out]
                  simp [pN, digN, L]
              case measure => simp [intOf]; omega
            · go_wp2_with fail
              go_roundw
              case rel =>
                refine ⟨_, j + 1, by omega, rfl, ?_, by go_num, ?_, HB3.out⟩
                · rw [HTS.out, show totJ J = 3 from by unfold totJ; simp [HK.out]]
                  go_num
                · rw [HTX.out, shLn_jmp j J (by rw [HK.out]; omega)]
                  simp only [L_append, HT1.out, HT2.out, HL.out]
                  simp [pN, digN, L]
              case measure => simp [intOf]; omega
            · go_wp2_with fail
              refine (pick_nat z1 4 J.reg w3 OK1.out ⟨by omega, by omega⟩ HP2.out).mono ?_
              rintro e w4 ⟨rfl, hw⟩
              obtain rfl := hw.symm
              clear hw
              go_wp2_with fail
              refine (number_any J.reg w3 (by omega)).mono ?_
              rintro e w4 ⟨t3, ht3, hs3, rfl, hb4⟩
              have HT3 := hid ht3
              have HB4 := hid (HB3.out.trans (hb4.mono HB3.out.size))
              clear ht3 hb4 c0 c1
              go_wp2_with fail
              go_roundw
              case rel =>
                refine ⟨_, j + 1, by omega, rfl, ?_, by go_num, ?_, HB4.out⟩
                · rw [HTS.out, show totJ J = 3 from by unfold totJ; simp [HK.out]]
                  go_num
                · rw [HTX.out, shLn_jz j J (by rw [HK.out]; omega) (by rw [HK.out]; omega)]
                  simp only [L_append, HT1.out, HT2.out, HL.out, HT3.out]
                  simp [pN, digN, L]
              case measure => simp [intOf]; omega
            · go_wp2_with fail
              refine (pick_nat z1 4 J.reg w3 OK1.out ⟨by omega, by omega⟩ HP2.out).mono ?_
              rintro e w4 ⟨rfl, hw⟩
              obtain rfl := hw.symm
              clear hw
              go_wp2_with fail
              refine (number_any J.reg w3 (by omega)).mono ?_
              rintro e w4 ⟨t3, ht3, hs3, rfl, hb4⟩
              have HT3 := hid ht3
              have HB4 := hid (HB3.out.trans (hb4.mono HB3.out.size))
              clear ht3 hb4 c0 c1
              go_wp2_with fail
              go_roundw
              case rel =>
                refine ⟨_, j + 1, by omega, rfl, ?_, by go_num, ?_, HB4.out⟩
                · rw [HTS.out, show totJ J = 3 from by unfold totJ; simp [HK.out]]
                  go_num
                · rw [HTX.out, shLn_jz j J (by rw [HK.out]; omega) (by rw [HK.out]; omega)]
                  simp only [L_append, HT1.out, HT2.out, HL.out, HT3.out]
                  simp [pN, digN, L]
              case measure => simp [intOf]; omega
            · go_wp2_with fail
              refine (pick_nat z1 60 J.room w3 OK1.out ⟨by omega, by omega⟩ HP3.out).mono ?_
              rintro e w4 ⟨rfl, hw⟩
              obtain rfl := hw.symm
              clear hw
              go_wp2_with fail
              refine (number_any J.room w3 (by omega)).mono ?_
              rintro e w4 ⟨t3, ht3, hs3, rfl, hb4⟩
              have HT3 := hid ht3
              have HB4 := hid (HB3.out.trans (hb4.mono HB3.out.size))
              have HBW := hid (HBV.out.trans (hb4.mono HBV.out.size))
              clear ht3 hb4 c0 c1
              have c1 := HC1.out
              rw [← HBW.out.cell (p := ⟨b, off + j * 2 + 1, none⟩) hbl] at c1
              go_wp2_with fail
              refine (pick_nat z1 60 J.room w4 OK1.out ⟨by omega, by omega⟩ HP3.out).mono ?_
              rintro e w5 ⟨rfl, hw⟩
              obtain rfl := hw.symm
              clear hw
              go_wp2_with fail
              go_roundw
              case rel =>
                refine ⟨_, j + 1, by omega, rfl, ?_, by go_num, ?_, HB4.out⟩
                · rw [HTS.out, show totJ J = J.room from by unfold totJ; simp [HK.out]]
                  go_num
                · rw [HTX.out, shLn_space j J (by rw [HK.out]; omega) (by rw [HK.out]; omega)]
                  simp only [L_append, HT1.out, HL.out, HT3.out]
                  simp [pN, digN, L]
              case measure => simp [intOf]; omega
            · go_wp2_with fail
              refine (pick_nat z1 60 J.room w3 OK1.out ⟨by omega, by omega⟩ HP3.out).mono ?_
              rintro e w4 ⟨rfl, hw⟩
              obtain rfl := hw.symm
              clear hw
              go_wp2_with fail
              refine (number_any J.room w3 (by omega)).mono ?_
              rintro e w4 ⟨t3, ht3, hs3, rfl, hb4⟩
              have HT3 := hid ht3
              have HB4 := hid (HB3.out.trans (hb4.mono HB3.out.size))
              have HBW := hid (HBV.out.trans (hb4.mono HBV.out.size))
              clear ht3 hb4 c0 c1
              have c1 := HC1.out
              rw [← HBW.out.cell (p := ⟨b, off + j * 2 + 1, none⟩) hbl] at c1
              go_wp2_with fail
              refine (pick_nat z1 60 J.room w4 OK1.out ⟨by omega, by omega⟩ HP3.out).mono ?_
              rintro e w5 ⟨rfl, hw⟩
              obtain rfl := hw.symm
              clear hw
              go_wp2_with fail
              go_roundw
              case rel =>
                refine ⟨_, j + 1, by omega, rfl, ?_, by go_num, ?_, HB4.out⟩
                · rw [HTS.out, show totJ J = J.room from by unfold totJ; simp [HK.out]]
                  go_num
                · rw [HTX.out, shLn_space j J (by rw [HK.out]; omega) (by rw [HK.out]; omega)]
                  simp only [L_append, HT1.out, HL.out, HT3.out]
                  simp [pN, digN, L]
              case measure => simp [intOf]; omega
            · go_wp2_with fail
              refine (pick_nat z1 60 J.room w3 OK1.out ⟨by omega, by omega⟩ HP3.out).mono ?_
              rintro e w4 ⟨rfl, hw⟩
              obtain rfl := hw.symm
              clear hw
              go_wp2_with fail
              refine (number_any J.room w3 (by omega)).mono ?_
              rintro e w4 ⟨t3, ht3, hs3, rfl, hb4⟩
              have HT3 := hid ht3
              have HB4 := hid (HB3.out.trans (hb4.mono HB3.out.size))
              have HBW := hid (HBV.out.trans (hb4.mono HBV.out.size))
              clear ht3 hb4 c0 c1
              have c1 := HC1.out
              rw [← HBW.out.cell (p := ⟨b, off + j * 2 + 1, none⟩) hbl] at c1
              go_wp2_with fail
              refine (pick_nat z1 60 J.room w4 OK1.out ⟨by omega, by omega⟩ HP3.out).mono ?_
              rintro e w5 ⟨rfl, hw⟩
              obtain rfl := hw.symm
              clear hw
              go_wp2_with fail
              go_roundw
              case rel =>
                refine ⟨_, j + 1, by omega, rfl, ?_, by go_num, ?_, HB4.out⟩
                · rw [HTS.out, show totJ J = J.room from by unfold totJ; simp [HK.out]]
                  go_num
                · rw [HTX.out, shLn_space j J (by rw [HK.out]; omega) (by rw [HK.out]; omega)]
                  simp only [L_append, HT1.out, HL.out, HT3.out]
                  simp [pN, digN, L]
              case measure => simp [intOf]; omega
            · go_wp2_with fail
              go_roundw
              case rel =>
                refine ⟨_, j + 1, by omega, rfl, ?_, by go_num, ?_, HB3.out⟩
                · rw [HTS.out, show totJ J = 1 from by unfold totJ; simp [HK.out]]
                  go_num
                · rw [HTX.out, shLn_nop j J (by rw [HK.out]; omega)]
                  simp only [L_append, HT1.out, HL.out]
                  simp [pN, digN, L]
              case measure => simp [intOf]; omega
        · have dn : decide ((j : Int) < js.length) = false := decide_eq_false (by omega)
          have hje : j = js.length := by omega
          have HJE := hid hje
          clear hje
          go_wp2_with fail
          go_meet
          case rel => exact ⟨sB, rfl, by rw [HJE.out], by rw [HL.out, HJE.out, List.take_length], HBR.out⟩
  case rest =>
    obtain ⟨sB, rfl, rfl, hL, hbx⟩ := hcut
    have HBX := hid (HB1.out.trans (hbx.mono hw1))
    have hsz := text_len js hn9 HOK.out js.length (Nat.le_refl _)
    rw [List.take_length] at hsz
    obtain ⟨l, hlaid, hgr, hasm⟩ := short_plain js hn9 HOK.out (by omega)
    rw [← hL] at hasm
    rw [← hL, L_length] at hsz
    have hsm : ¬ 3000 < sB.size := by omega
    have hot := offs_tot hlaid.base js.length (Nat.le_refl _)
    have hll := Laid.len hlaid.base
    have hbt := totTo_bd js HOK.out js.length
    have kb : decide ((3000 : Int) < (sB.size : Int)) = false := decide_eq_false (by omega)
    have hmx : sB.size ≤ maxLen := by unfold maxLen; omega
    have HC := hid (mAssemble_any sB wc hmx (HM.out.below HBX.out))
    have HLA := hid hlaid
    have HGR := hid hgr
    have HL := hid hL
    clear hlaid hgr hL hbx
    by_cases hbig : 1000 < offs l l.length
    · rw [if_pos hbig] at hasm
      rw [hasm] at HC
      have kt : decide ((totTo js js.length : Int) ≤ 1000) = false := decide_eq_false (by rw [hll] at hbig; omega)
      clear hasm
      go_wp2_with fail
      refine HC.out.mono ?_
      rintro e w2 ⟨hb2, vb, vl, vn, rfl, hrows⟩
      rcases hrows with ⟨_, rfl, rfl, rfl⟩ | ⟨h0, _⟩
      · have HB3 := hid (show Below w.heap.size w (w2.alloc (.cells #[.slice none 0 0, .slice none 0 0, .slice none 0 0] 33)) from (HBX.out.trans (hb2.mono HBX.out.size)).alloc (Nat.le_trans HBX.out.size hb2.size) _)
        have HP3 := hid (show RowT (w2.alloc (.cells #[.slice none 0 0, .slice none 0 0, .slice none 0 0] 33)) 33 w2.heap.size [.slice none 0 0, .slice none 0 0, .slice none 0 0] from RowT.new w2 33 [.slice none 0 0, .slice none 0 0, .slice none 0 0])
        clear hb2
        go_upto_region 32 with fail
        generalize w2.alloc (.cells #[.slice none 0 0, .slice none 0 0, .slice none 0 0] 33) = w3 at *
        generalize w2.heap.size = gp at *
        have p0 : w3.cell? ⟨gp, 0, none⟩ = some (.slice none 0 0) := HP3.out.cell 0 (by simp)
        have k30 : (binOp .eql 30 (.slice none 0 0) (.slice none 0 0)).run Tryz.prog w3 = .ok (.bool true) w3 := Lib.run_eql_slice_nil_nil w3 _ _ Tryz.underlying30
        go_wp2_with fail
        go_ret
        exact ⟨rfl, HB3.out⟩
      · exact absurd h0 (by decide)
    · rw [if_neg hbig] at hasm
      rw [hasm] at HC
      clear hasm
      go_wp2_with fail
      refine HC.out.mono ?_
      rintro e w2 ⟨hb2, vb, vl, vn, rfl, hrows⟩
      rcases hrows with ⟨h0, _⟩ | ⟨_, ls, ss, ns, ob, ol, on, hsay, hsized, hpn, hl3, hn3, _⟩
      · exact absurd rfl h0
      have hoff := offs_flat (namesP l) l (fun s hs => by
        obtain ⟨i, hi⟩ := List.mem_iff_getElem?.1 hs
        obtain ⟨j, h2, _⟩ := base_at HLA.out.base hi
        exact (HLA.out.bytes hn9 HOK.out (by omega) hi h2).2.1)
      obtain ⟨hbl, hbyte⟩ := hoff
      obtain ⟨hnl, hname⟩ := names_each HLA.out.base
      simp only at hpn
      have hlsl : ls.length = js.length := by have := hsay.len; simp only at this; omega
      have hnsl : ns.length = js.length := by
        have := congrArg List.length hpn
        simp only [plainN, List.length_map] at this
        omega
      simp only at ob
      rw [hbl] at ob
      rw [hlsl] at ol
      rw [hnsl] at on
      obtain ⟨a1, c1, h1⟩ := own_form ob
      obtain ⟨a2, c2, h2⟩ := own_form ol
      obtain ⟨a3, c3, h3⟩ := own_form on
      subst h1 h2 h3
      obtain ⟨m, hm⟩ : ∃ m, offs l l.length = m := ⟨_, rfl⟩
      rw [hm] at ob hbig
      have hb3 : Below w2.heap.size w2 (w2.alloc (.cells #[.slice a1 m c1, .slice a2 js.length c2, .slice a3 js.length c3] 33)) := (Below.refl _ _).alloc (Nat.le_refl _) _
      have HB3 := hid ((HBX.out.trans (hb2.mono HBX.out.size)).trans (hb3.mono (Nat.le_trans HBX.out.size hb2.size)))
      have HP3 := hid (show RowT (w2.alloc (.cells #[.slice a1 m c1, .slice a2 js.length c2, .slice a3 js.length c3] 33)) 33 w2.heap.size [.slice a1 m c1, .slice a2 js.length c2, .slice a3 js.length c3] from RowT.new w2 33 [.slice a1 m c1, .slice a2 js.length c2, .slice a3 js.length c3])
      have HOB := hid (ownsRow_belowP ob hb3)
      have HOL := hid (ownsRow_belowP ol hb3)
      have HON := hid (ownsRow_belowP on hb3)
      have HSE := hid (say_each hsay hsized)
      have HBY := hid hbyte
      have HNM := hid hname
      have HPN := hid hpn
      have HMM := hid hm
      rw [hm]
      clear hb2 hb3 ob ol on hsay hsized hbyte hname hpn hbl hm
      go_upto_region 32 with fail
      generalize w2.alloc (.cells #[.slice a1 m c1, .slice a2 js.length c2, .slice a3 js.length c3] 33) = w3 at *
      generalize w2.heap.size = gp at *
      have p0 : w3.cell? ⟨gp, 0, none⟩ = some (.slice a1 m c1) := HP3.out.cell 0 (by simp)
      have p1 : w3.cell? ⟨gp, 1, none⟩ = some (.slice a2 js.length c2) := HP3.out.cell 1 (by simp)
      have p2 : w3.cell? ⟨gp, 2, none⟩ = some (.slice a3 js.length c3) := HP3.out.cell 2 (by simp)
      go_upto_region 34 with fail
      go_cut [131] (fun b wx => b = .bool false ∧ w3 = wx)
      case first =>
        by_cases htt : totTo js js.length ≤ 1000
        · have kt : decide ((totTo js js.length : Int) ≤ 1000) = true := decide_eq_true (by omega)
          go_wp2_with fail
          go_meet
          case rel => exact ⟨rfl, rfl⟩
        · have kt : decide ((totTo js js.length : Int) ≤ 1000) = false := decide_eq_false (by omega)
          go_wp2_with fail
          go_meet
          case rel => exact ⟨rfl, rfl⟩
      case rest =>
       obtain ⟨rfl, rfl⟩ := hcut
       go_wp2_with fail
       go_loopw [12, 13] (fun en i wr => ∃ j : Nat, j ≤ js.length ∧ en = .int .i64 (offs l j : Nat) ∧ i = .int .i64 (j : Nat) ∧ Below w3.heap.size w3 wr) (fun _ i _ => js.length - (intOf i).toNat)
       case atStart => exact ⟨0, Nat.zero_le _, rfl, rfl, Below.refl _ _⟩
       case round =>
        obtain ⟨j, hj, rfl, rfl, hbr⟩ := hrel
        have HBR := hid hbr
        have r0 : wr.cell? ⟨gp, 0, none⟩ = some (.slice a1 m c1) := (HP3.out.below hbr).cell 0 (by simp)
        have r1 : wr.cell? ⟨gp, 1, none⟩ = some (.slice a2 js.length c2) := (HP3.out.below hbr).cell 1 (by simp)
        have r2 : wr.cell? ⟨gp, 2, none⟩ = some (.slice a3 js.length c3) := (HP3.out.below hbr).cell 2 (by simp)
        clear hbr p0 p1 p2
        by_cases hlt : j < js.length
        · have dn : decide ((j : Int) < js.length) = true := decide_eq_true (by omega)
          have hjl : j < l.length := by omega
          have hs : l[j]? = some l[j] := List.getElem?_eq_getElem hjl
          obtain ⟨ln, hln, e1, e2, e3⟩ := HSE.out j l[j] hs
          have hat := HLA.out.addr j l[j] hs
          obtain ⟨J, hJ, hbase⟩ := base_at HLA.out.base hs
          have hfr := (base_fields hbase).2.2.1
          rw [hat] at e2
          rw [hfr] at e1
          have hsuc := offs_succ hs
          obtain ⟨S, hS⟩ : ∃ S, l[j] = S := ⟨_, rfl⟩
          rw [hS] at hs hbase e3 hsuc hat
          have hjls : j < ls.length := by omega
          have hlnj : ls[j] = ln := by rw [List.getElem?_eq_getElem hjls] at hln; simpa using hln
          have ol := ownsRow_belowP HOL.out HBR.out
          obtain ⟨g2, cap2, hf2, _, hgl2⟩ := ol.form (by omega)
          simp only [Value.slice.injEq, true_and] at hf2
          obtain ⟨rfl, rfl⟩ := hf2
          have z := lnCells_at ls j hjls
          rw [hlnj] at z
          have x0 := (ol.cellAt (j * 4) (by omega)).trans z.1
          have x1 := (ol.cellAt (j * 4 + 1) (by omega)).trans z.2.1
          have x2 := (ol.cellAt (j * 4 + 2) (by omega)).trans z.2.2.1
          have x3 := (ol.cellAt (j * 4 + 3) (by omega)).trans z.2.2.2
          have e2' : ln.at_ = offs l j := by omega
          rw [e1] at x1
          rw [e2'] at x2
          rw [e3] at x3
          generalize ln.t = lt at x0
          have hmj : offs l j + sizeP S ≤ m := by
            have h1 := offs_mono l (j + 1) (l.length - (j + 1))
            rw [show j + 1 + (l.length - (j + 1)) = l.length from by omega, HMM.out, hsuc] at h1
            exact h1
          have i1 : (0 : Int) ≤ (j : Int) := Int.natCast_nonneg _
          have i2 : (j : Int) < (js.length : Int) := by omega
          clear z hln hlnj e1 e2 e2' e3 hat hfr hS ol
          have hjn : j < ns.length := by omega
          have hnmj := HNM.out j S hs
          rw [← HPN.out] at hnmj
          have hnj : L ns[j].1 = pN j ∧ ns[j].2 = ((offs l j : Nat) : Int) := by
            simp only [plainN, List.getElem?_map, List.getElem?_eq_getElem hjn, Option.map_some, Option.some.injEq, Prod.mk.injEq, Nat.zero_add] at hnmj
            exact ⟨hnmj.1, by rw [hnmj.2]; exact HLA.out.addr j S hs⟩
          have hnm : ns[j].1 = ⟨#[112]⟩ ++ numT j := L_inj (by rw [hnj.1, L_append, numT_L]; rfl)
          have on := ownsRow_belowP HON.out HBR.out
          obtain ⟨g3, cap3, hf3, _, hgl3⟩ := on.form (by omega)
          simp only [Value.slice.injEq, true_and] at hf3
          obtain ⟨rfl, rfl⟩ := hf3
          have b5 : Below wr.heap.size wr (wr.alloc (.cells #[.string lt, .int .i64 ((j : Int) + 1), .int .i64 (offs l j : Nat), .int .i64 (sizeP S : Nat)] 38)) := (Below.refl _ _).alloc (Nat.le_refl _) _
          have on := ownsRow_belowP on b5
          have v0 := (on.cellAt (j * 2) (by omega)).trans (nameCells_at ns j hjn).1
          have v1 := (on.cellAt (j * 2 + 1) (by omega)).trans (nameCells_at ns j hjn).2
          rw [hnm] at v0
          rw [hnj.2] at v1
          have HB5 := hid (HBR.out.trans (b5.mono HBR.out.size))
          have HX5 := hid (show RowT (wr.alloc (.cells #[.string lt, .int .i64 ((j : Int) + 1), .int .i64 (offs l j : Nat), .int .i64 (sizeP S : Nat)] 38)) 38 wr.heap.size [.string lt, .int .i64 ((j : Int) + 1), .int .i64 (offs l j : Nat), .int .i64 (sizeP S : Nat)] from RowT.new wr 38 [.string lt, .int .i64 ((j : Int) + 1), .int .i64 (offs l j : Nat), .int .i64 (sizeP S : Nat)])
          clear hnmj hnj hnm on b5
          go_upto_region 45 with fail
          generalize wr.alloc (.cells #[.string lt, .int .i64 ((j : Int) + 1), .int .i64 (offs l j : Nat), .int .i64 (sizeP S : Nat)] 38) = w5 at *
          generalize wr.heap.size = gx at *
          clear r0 r1 r2 x0 x1 x2 x3
          have r0 : w5.cell? ⟨gp, 0, none⟩ = some (.slice a1 m c1) := (HP3.out.below HB5.out).cell 0 (by simp)
          have r2 : w5.cell? ⟨gp, 2, none⟩ = some (.slice (some ⟨g3, 0, none⟩) js.length c3) := (HP3.out.below HB5.out).cell 2 (by simp)
          have y1 := HX5.out.cell 1 (by simp)
          have y2 := HX5.out.cell 2 (by simp)
          have y3 := HX5.out.cell 3 (by simp)
          simp only [List.getElem_cons_succ, List.getElem_cons_zero] at y1 y2 y3
          have kk : decide ((m : Int) < ((offs l j : Nat) : Int) + ((sizeP S : Nat) : Int)) = false := decide_eq_false (by omega)
          have wa : IntKind.i64.wrap (((offs l j : Nat) : Int) + ((sizeP S : Nat) : Int)) = ((offs l j : Nat) : Int) + ((sizeP S : Nat) : Int) := Go.IntWalk.i64_in _ (by omega)
          have wb : IntKind.i64.wrap ((j : Int) + 1) = (j : Int) + 1 := Go.IntWalk.i64_in _ (by omega)
          have ka : (((offs l j : Nat) : Int) != ((offs l j : Nat) : Int)) = false := by simp
          have kb2 : (((j : Int) + 1) != ((j : Int) + 1)) = false := by simp
          have HP5 := hid (HP3.out.below HB5.out)
          have u0 : ∀ u : BelW w5, u.1.cell? ⟨gp, 0, none⟩ = some (.slice a1 m c1) := fun u => (HP5.out.below u.2).cell 0 (by simp)
          have u2 : ∀ u : BelW w5, u.1.cell? ⟨gp, 2, none⟩ = some (.slice (some ⟨g3, 0, none⟩) js.length c3) := fun u => (HP5.out.below u.2).cell 2 (by simp)
          have u3 : ∀ u : BelW w5, u.1.cell? ⟨gx, 1, none⟩ = some (.int .i64 ((j : Int) + 1)) := fun u => (HX5.out.below u.2).cell 1 (by simp)
          have u4 : ∀ u : BelW w5, u.1.cell? ⟨gx, 2, none⟩ = some (.int .i64 (offs l j : Nat)) := fun u => (HX5.out.below u.2).cell 2 (by simp)
          have u5 : ∀ u : BelW w5, u.1.cell? ⟨gx, 3, none⟩ = some (.int .i64 (sizeP S : Nat)) := fun u => (HX5.out.below u.2).cell 3 (by simp)
          have u6 : ∀ u : BelW w5, u.1.cell? ⟨g3, j * 2, none⟩ = some (.string (⟨#[112]⟩ ++ numT j)) := fun u => (u.2.cell (p := ⟨g3, j * 2, none⟩) (World.block_lt_of_cell? _ _ v0)).trans v0
          have u7 : ∀ u : BelW w5, u.1.cell? ⟨g3, j * 2 + 1, none⟩ = some (.int .i64 (offs l j : Nat)) := fun u => (u.2.cell (p := ⟨g3, j * 2 + 1, none⟩) (World.block_lt_of_cell? _ _ v1)).trans v1
          have hnt : (numT j).size ≤ 1000 := by rw [← L_length, numT_L]; have := (pN_name j (by omega)).2; simp only [pN, List.length_cons] at this; omega
          have inh : Nonempty (BelW w5) := ⟨⟨w5, Below.refl _ _⟩⟩
          refine wp_region_bel (by kernel_rfl) (by kernel_rfl) ?_
          repeat (go_big_quiet_step ((go_at_call 14; exact Calls.bel (number_is j _ (by omega)))))
          refine wpQuiet_nil ?_
          intro w7 hw'
          obtain ⟨uq, hw''⟩ := hw'
          have hb7 : Below w5.heap.size w5 w7 := by rw [hw'']; exact uq.2
          clear hw'' uq u0 u2 u3 u4 u5 u6 u7 v0 v1 r0 r2 y1 y2 y3 kk wa wb ka kb2 hnt inh
          have hcap := own_cap HOB.out
          have HB7 := hid (HB5.out.trans (hb7.mono HB5.out.size))
          have HX7 := hid (HX5.out.below hb7)
          have HP7 := hid (HP5.out.below hb7)
          have HW7 := hid (HB3.out.trans (HB7.out.mono HB3.out.size))
          clear hb7 HX5 HP5
          have s0 : w7.cell? ⟨gp, 0, none⟩ = some (.slice a1 m c1) := HP7.out.cell 0 (by simp)
          have t2 : w7.cell? ⟨gx, 2, none⟩ = some (.int .i64 (offs l j : Nat)) := HX7.out.cell 2 (by simp)
          have t3 : w7.cell? ⟨gx, 3, none⟩ = some (.int .i64 (sizeP S : Nat)) := HX7.out.cell 3 (by simp)
          have hjz : j < zs.length := by omega
          rcases HZS.out with h | ⟨b, off, ha, hbl, hc⟩
          · rw [h] at hjz; simp at hjz
          subst ha
          obtain ⟨q0, q1, ok0, ok1⟩ := hc j hjz
          clear hc
          have hpk := jsOf_picks zs j (by rw [HJS.out]; exact hlt) hjz
          simp only [HJS.out] at hpk
          have hJ' : js[j] = J := by rw [List.getElem?_eq_getElem hlt] at hJ; simpa using hJ
          have hoj := HOK.out js[j] (List.getElem_mem hlt)
          rw [hJ'] at hpk hoj
          obtain ⟨z, hz⟩ : ∃ z, zs[j] = z := ⟨_, rfl⟩
          rw [hz] at q0 q1 ok0 ok1 hpk
          obtain ⟨z0, z1⟩ := z
          simp only at q0 q1 ok0 ok1 hpk
          obtain ⟨hp0, hp1, hp2, hp3⟩ := hpk
          rw [← HW7.out.cell (p := ⟨b, off + j * 2, none⟩) hbl] at q0
          rw [← HW7.out.cell (p := ⟨b, off + j * 2 + 1, none⟩) hbl] at q1
          have i3 : (j : Int) < (zs.length : Int) := by omega
          have OK0 := hid ok0
          have OK1 := hid ok1
          have HP0 := hid hp0
          have HP1 := hid hp1
          have HP2 := hid hp2
          have HJJ := hid hJ
          have HSS := hid hs
          have HBA := hid hbase
          have HSU := hid hsuc
          have hk10 := hoj.kind
          have hto := hoj.to
          have hrg := hoj.reg
          have kc0 : (0 : Int) ≤ ((offs l j : Nat) : Int) + ((sizeP S : Nat) : Int) ∧ ((offs l j : Nat) : Int) + ((sizeP S : Nat) : Int) ≤ (c1 : Int) := by omega
          clear hJ hJ' hz ok0 ok1 hp0 hp1 hp2 hp3 hoj hs hbase hsuc hjl
          have HS2 := hid (show J.kind < 6 → 2 ≤ sizeP S from fun hk => by
            obtain ⟨_, e2, _⟩ := exprs_jump HBA.out hk
            unfold sizeP
            rw [e2]
            simp only [show ¬ (3 = 1) by decide, show ¬ (3 = 2) by decide, if_true, if_false]
            split <;> omega)
          go_upto_region 48 with fail
          go_cut [15] (fun b wx => (J.kind < 6 → ∃ g1, a1 = some ⟨g1, 0, none⟩ ∧ b = .slice (some ⟨g1, offs l j, none⟩) (sizeP S) (c1 - offs l j)) ∧ w7 = wx)
          case first =>
            by_cases hk6 : J.kind < 6
            · have hs2 := HS2.out hk6
              obtain ⟨g1, cap1, hf1, _, hgl1⟩ := HOB.out.form (by omega)
              simp only [Value.slice.injEq, true_and] at hf1
              obtain ⟨rfl, rfl⟩ := hf1
              have hce : ¬ c1 = offs l j := by omega
              go_wp2_with fail
              go_meet
              case rel => exact ⟨fun _ => ⟨g1, rfl, by rw [Nat.add_sub_cancel_left]⟩, rfl⟩
            · by_cases hce : c1 = offs l j
              all_goals
                go_wp2_with fail
                go_meet
                case rel => exact ⟨fun h => absurd h hk6, rfl⟩
          case rest =>
            as_aux_lemma =>
              obtain ⟨hb15, hwq⟩ := hcut
              obtain rfl := hwq
              by_cases hk6 : J.kind < 6
              · obtain ⟨g1, ha1, hv⟩ := hb15 hk6
                subst ha1 hv
                clear hb15
                have k6 : decide ((J.kind : Int) < 6) = true := decide_eq_true (by omega)
                go_wp2_with fail
                refine (pick_nat z0 10 J.kind w7 OK0.out ⟨by omega, by omega⟩ HP0.out).mono ?_
                rintro e w8 ⟨rfl, hw⟩
                obtain rfl := hw.symm
                clear hw
                obtain ⟨b3, hb3⟩ : ∃ b3, decide ((3 : Int) < (J.kind : Int)) = b3 := ⟨_, rfl⟩
                have HB33 := hid hb3
                go_upto_if 232 with fail
                clear hb3
                go_cut [17] (fun o wx => o = .int .i64 (opK J : Nat) ∧ w7 = wx)
                case first =>
                  cases b3
                  · have hop : opK J = 128 := by
                      have := HB33.out
                      rw [decide_eq_false_iff_not] at this
                      unfold opK
                      rw [if_pos (by omega)]
                    have HOP := hid hop
                    clear hop
                    go_wp2_with fail
                    go_meet
                    case rel => exact ⟨by rw [HOP.out]; rfl, rfl⟩
                  · have hop : opK J = 132 + J.reg := by
                      have := HB33.out
                      rw [decide_eq_true_eq] at this
                      unfold opK
                      rw [if_neg (by omega)]
                    have HOP := hid hop
                    clear hop
                    go_wp2_with fail
                    refine (pick_nat z1 4 J.reg w7 OK1.out ⟨by omega, by omega⟩ HP2.out).mono ?_
                    rintro e w8 ⟨rfl, hw⟩
                    obtain rfl := hw.symm
                    clear hw
                    go_wp2_with fail
                    go_meet
                    case rel => exact ⟨by rw [HOP.out]; go_num, rfl⟩
                case rest =>
                  as_aux_lemma =>
                    obtain ⟨hov, hwq⟩ := hcut
                    subst hov
                    obtain rfl := hwq
                    have hop : opK J ≤ 251 := by unfold opK; split <;> omega
                    obtain ⟨bs, hbs⟩ : ∃ bs, (bytesP (namesP l) S).2 = bs := ⟨_, rfl⟩
                    have hjb := jump_plain HLA.out hn9 HOK.out (by rw [HMM.out]; omega) HGR.out HSS.out HJJ.out HBA.out hk6
                    have hbl2 := (HLA.out.bytes hn9 HOK.out (by rw [HMM.out]; omega) HSS.out HJJ.out).2.1
                    have hby := HBY.out j S HSS.out
                    rw [hbs] at hjb hbl2 hby
                    have HJB := hid hjb
                    have HBL2 := hid hbl2
                    have hrow := ownsRow_belowP HOB.out HB7.out
                    have HCB := hid (show ∀ u : BelW w7, ∀ d (h : d < bs.length), u.1.cell? ⟨g1, offs l j + d, none⟩ = some (.int .u8 (bs[d].toNat : Nat)) from fun u d h => by
                      have h1 := ownsRow_belowP hrow u.2
                      have h2 := h1.cellAt (offs l j + d) (by omega)
                      rw [h2]
                      unfold byCells
                      rw [List.getElem?_map, hby d (by omega), List.getElem?_eq_getElem h]
                      rfl)
                    have hatj : offs l j ≤ 1000 := by omega
                    have hott : offs l J.to ≤ m := by
                      have h1 := offs_mono l J.to (l.length - J.to)
                      rw [show J.to + (l.length - J.to) = l.length from by omega, HMM.out] at h1
                      exact h1
                    have htn : J.to < ns.length := by omega
                    have hnmt := HNM.out J.to l[J.to] (List.getElem?_eq_getElem (by omega))
                    rw [← HPN.out] at hnmt
                    have hnt : ns[J.to].2 = ((offs l J.to : Nat) : Int) := by
                      simp only [plainN, List.getElem?_map, List.getElem?_eq_getElem htn, Option.map_some, Option.some.injEq, Prod.mk.injEq, Nat.zero_add] at hnmt
                      rw [hnmt.2]
                      exact HLA.out.addr J.to _ (List.getElem?_eq_getElem (by omega))
                    have on7 := ownsRow_belowP HON.out HB7.out
                    have v1 := (on7.cellAt (J.to * 2 + 1) (by omega)).trans (nameCells_at ns J.to htn).2
                    rw [hnt] at v1
                    have ua : ∀ u : BelW w7, u.1.cell? ⟨gx, 2, none⟩ = some (.int .i64 (offs l j : Nat)) := fun u => (HX7.out.below u.2).cell 2 (by simp)
                    have ub : ∀ u : BelW w7, u.1.cell? ⟨gp, 2, none⟩ = some (.slice (some ⟨g3, 0, none⟩) js.length c3) := fun u => (HP7.out.below u.2).cell 2 (by simp)
                    have uc : ∀ u : BelW w7, u.1.cell? ⟨b, off + j * 2 + 1, none⟩ = some (.int .i64 z1) := fun u => (u.2.cell (p := ⟨b, off + j * 2 + 1, none⟩) (World.block_lt_of_cell? _ _ q1)).trans q1
                    have ud : ∀ u : BelW w7, u.1.cell? ⟨g3, J.to * 2 + 1, none⟩ = some (.int .i64 (offs l J.to : Nat)) := fun u => (u.2.cell (p := ⟨g3, J.to * 2 + 1, none⟩) (World.block_lt_of_cell? _ _ v1)).trans v1
                    have it1 : (0 : Int) ≤ (J.to : Int) := Int.natCast_nonneg _
                    have it2 : (J.to : Int) < (js.length : Int) := by omega
                    have inh : Nonempty (BelW w7) := ⟨⟨w7, Below.refl _ _⟩⟩
                    clear hjb hbl2 hby hbs hrow hnmt hnt on7
                    go_upto_region 54 with fail
                    refine wp_region_bel (by kernel_rfl) (by kernel_rfl) ?_
                    repeat (go_big_quiet_step (first | (go_at_call 15; exact Calls.bel (pick_bel z1 js.length J.to _ OK1.out ⟨by omega, by omega⟩ HP1.out)) | (go_at_call 16; exact Calls.bel (jumps_bel _ g1 (offs l j) (sizeP S) (c1 - offs l j) (opK J) (offs l j) (offs l J.to) bs HJB.out HBL2.out hop hatj (by omega) (HCB.out _)))))
                    refine wpQuiet_nil ?_
                    intro w9 hw'
                    obtain ⟨uq, hw''⟩ := hw'
                    have hb9 : Below w7.heap.size w7 w9 := by rw [hw'']; exact uq.2
                    have HB9 := hid (HB7.out.trans (hb9.mono HB7.out.size))
                    clear hw'' uq ua ub uc ud v1 inh hb9
                    go_wp2_with fail
                    go_roundw
                    case rel => exact ⟨j + 1, by omega, by rw [HSU.out]; go_num, by go_num, HB9.out⟩
                    case measure => simp [intOf]; omega
              · have k6 : decide ((J.kind : Int) < 6) = false := decide_eq_false (by omega)
                clear hb15
                go_wp2_with fail
                refine (pick_nat z0 10 J.kind w7 OK0.out ⟨by omega, by omega⟩ HP0.out).mono ?_
                rintro e w8 ⟨rfl, hw⟩
                obtain rfl := hw.symm
                clear hw
                go_wp2_with fail
                go_roundw
                case rel => exact ⟨j + 1, by omega, by rw [HSU.out]; go_num, by go_num, HB7.out⟩
                case measure => simp [intOf]; omega
        · have dn : decide ((j : Int) < js.length) = false := decide_eq_false (by omega)
          have hje : j = l.length := by omega
          have HE := hid (show offs l j = m by rw [hje]; exact HMM.out)
          clear hje
          rw [HE.out]
          go_wp2_with fail
          go_ret
          exact ⟨rfl, HB3.out.trans (HBR.out.mono HB3.out.size)⟩

end Go.Proofs.YtcepppilgncdmaaGreatDoor
