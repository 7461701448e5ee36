/-
  Joined: BkLook BkLooks.
-/
import Derived.Test.YtcepppilgncdmaaGreatDoorBX19
namespace Go.Proofs.YtcepppilgncdmaaGreatDoor
open Go.RowKit
theorem reps_get {mk:List Value}(hm:mk.length=4):∀(k j r:Nat),j<k→r<4→(reps mk k)[j*4+r]?=mk[r]?:=by
 intro k
 induction k with
 |zero=>intro j r h;omega
 |succ k ih =>
  intro j r hj hr
  have hl:=reps_length mk k
  rw [hm] at hl
  rw [reps]
  by_cases h:j<k
  ·rw [List.getElem?_append_left (by omega)]
   exact ih j r h hr
  ·have hjk:j=k:=by omega
   subst hjk
   rw [List.getElem?_append_right (by omega),hl,Nat.add_sub_cancel_left]
theorem kept_form {w:World}{B i:Nat}{us:List Value}(h:KeptAt w B us) (hi:i<us.length):∃a n c,us[i]=.slice a n c∧n≤maxLen∧(n=0∨∃g,a=some ⟨g,0,none⟩∧∀j,j<n→w.cell? ⟨g,j*4,none⟩=some (.string ⟨#[]⟩)∧w.cell? ⟨g,j*4+1,none⟩=some (.int .i64 (-1000-((i / 4:Nat):Int)))∧w.cell? ⟨g,j*4+2,none⟩=some (.int .i64 0)∧w.cell? ⟨g,j*4+3,none⟩=some (.int .i64 0)):=by
 obtain ⟨k,h1,_⟩:=h i us[i] (List.getElem?_eq_getElem hi)
 rcases h1.2 with ⟨h2,rfl⟩|⟨g,cap,cur,h2,h3,h4,h5,h6,h7,h8⟩
 ·exact ⟨none,0,0,h2,Nat.zero_le _,Or.inl rfl⟩
 ·refine ⟨_,_,_,h2,Nat.le_trans h5 h6,Or.inr ⟨g,rfl,fun j hj=>?_⟩⟩
  rw [h2] at h1
  rw [h1.cellAt (j*4) (by omega),h1.cellAt (j*4+1) (by omega),h1.cellAt (j*4+2) (by omega),h1.cellAt (j*4+3) (by omega),reps_get rfl k j 1 hj (by omega),reps_get rfl k j 2 hj (by omega),reps_get rfl k j 3 hj (by omega)]
  exact ⟨reps_get rfl k j 0 hj (by omega),rfl,rfl,rfl⟩
theorem reps_at {mk:List Value}{s:Nat}(hm:mk.length=s):∀(k j r:Nat),j<k→r<s→(reps mk k)[j*s+r]?=mk[r]?:=by
 intro k
 induction k with
 |zero=>intro j r h;omega
 |succ k ih =>
  intro j r hj hr
  have hl:=reps_length mk k
  rw [hm] at hl
  rw [reps]
  by_cases h:j<k
  ·have:(j+1)*s≤k*s:=Nat.mul_le_mul_right _ h
   rw [Nat.succ_mul] at this
   rw [List.getElem?_append_left (by omega)]
   exact ih j r h hr
  ·have hjk:j=k:=by omega
   subst hjk
   rw [List.getElem?_append_right (by omega),hl,Nat.add_sub_cancel_left]
theorem kept_formN {w:World}{B i:Nat}{us:List Value}(h:KeptAtN w B us) (hi:i<us.length):∃a n c,us[i]=.slice a n c∧n≤maxLen∧(n=0∨∃g,a=some ⟨g,0,none⟩∧∀j,j<n→w.cell? ⟨g,j*2,none⟩=some (.string ⟨#[]⟩)∧w.cell? ⟨g,j*2+1,none⟩=some (.int .i64 (-1000-((i / 4:Nat):Int)))):=by
 obtain ⟨k,h1,_⟩:=h i us[i] (List.getElem?_eq_getElem hi)
 rcases h1.2 with ⟨h2,rfl⟩|⟨g,cap,cur,h2,h3,h4,h5,h6,h7,h8⟩
 ·exact ⟨none,0,0,h2,Nat.zero_le _,Or.inl rfl⟩
 ·refine ⟨_,_,_,h2,Nat.le_trans h5 h6,Or.inr ⟨g,rfl,fun j hj=>?_⟩⟩
  rw [h2] at h1
  rw [h1.cellAt (j*2) (by omega),h1.cellAt (j*2+1) (by omega)]
  exact ⟨reps_at (mk:=markN (i / 4)) (s:=2) rfl k j 0 hj (by omega),reps_at (mk:=markN (i / 4)) (s:=2) rfl k j 1 hj (by omega)⟩
theorem kept_formB {w:World}{B i:Nat}{us:List Value}(h:KeptAtB w B us) (hi:i<us.length):∃a n c,us[i]=.slice a n c∧n≤maxLen∧(n=0∨∃g,a=some ⟨g,0,none⟩∧∀j,j<n→w.cell? ⟨g,j,none⟩=some (.int .u8 (200+((i / 4%50:Nat):Int)))):=by
 obtain ⟨k,h1,_⟩:=h i us[i] (List.getElem?_eq_getElem hi)
 rcases h1.2 with ⟨h2,rfl⟩|⟨g,cap,cur,h2,h3,h4,h5,h6,h7,h8⟩
 ·exact ⟨none,0,0,h2,Nat.zero_le _,Or.inl rfl⟩
 ·refine ⟨_,_,_,h2,Nat.le_trans h5 h6,Or.inr ⟨g,rfl,fun j hj=>?_⟩⟩
  rw [h2] at h1
  rw [h1.cellAt j (by omega)]
  have:=reps_at (mk:=markB (i / 4)) (s:=1) rfl k j 0 hj (by omega)
  simpa [markB] using this
theorem shelf_form {w:World}{lo e:Nat}{vb:Value}{us:List Value}(ho:w.ownsRow lo e 1 vb us.length us):∃ab cb,vb=.slice ab us.length cb∧(us.length=0∨∃g,ab=some ⟨g,0,none⟩∧∀i (h:i<us.length),w.cell? ⟨g,i,none⟩=some us[i]):=by
 rcases ho.2 with ⟨h2,h0⟩|⟨g,cap',cur,h2,_⟩
 ·exact ⟨none,0,by rw [h2,h0],Or.inl h0⟩
 ·refine ⟨_,_,h2,Or.inr ⟨g,rfl,fun i hi=>?_⟩⟩
  rw [h2] at ho
  rw [ho.cellAt i (by omega),List.getElem?_eq_getElem hi]
set_option maxRecDepth 100000 in
set_option maxHeartbeats 1600000 in
theorem looks_all (w:World) (lo B kb:Nat) (v1 v2 v3:Value) (us1 us2 us3:List Value) (hb1:BookAt w lo B kb v1 v2 v3 us1) (hb2:BookAtN w lo B kb v2 v1 v3 us2) (hb3:BookAtB w lo B kb v3 v1 v2 us3) (hN1:us1.length≤5864062014801) (hN2:us2.length≤5864062014801) (hN3:us3.length≤5864062014801) :
  Calls Tryz.prog 19 #[.pointer (some ⟨kb,0,none⟩)] w fun e w'=>e=.returned (.bool true)∧w'=w:=by
 have c0:w.cell? ⟨kb,0,none⟩=some v1:=hb1.row.cell 0 (by simp)
 have c1:w.cell? ⟨kb,1,none⟩=some v2:=hb1.row.cell 1 (by simp)
 have c2:w.cell? ⟨kb,2,none⟩=some v3:=hb1.row.cell 2 (by simp)
 obtain ⟨a1,d1,rfl,hcs1⟩:=shelf_form hb1.own
 obtain ⟨a2,d2,rfl,hcs2⟩:=shelf_form hb2.own
 obtain ⟨a3,d3,rfl,hcs3⟩:=shelf_form hb3.own
 have HC1:=hid hcs1
 have HC2:=hid hcs2
 have HC3:=hid hcs3
 have HK1:=hid hb1.kept
 have HK2:=hid hb2.kept
 have HK3:=hid hb3.kept
 obtain ⟨N1,hE1⟩:∃N,us1.length=N:=⟨_,rfl⟩
 obtain ⟨N2,hE2⟩:∃N,us2.length=N:=⟨_,rfl⟩
 obtain ⟨N3,hE3⟩:∃N,us3.length=N:=⟨_,rfl⟩
 rw [hE1] at c0 hN1
 rw [hE2] at c1 hN2
 rw [hE3] at c2 hN3
 clear hcs1 hcs2 hcs3 hb1 hb2 hb3
 go_enter Tryz.func19,Tryz.ntmps19
 go_wp2_with fail
 go_loopw [3] (fun i wr=>∃t:Nat,t≤N1∧i=.int .i64 t∧wr=w) (fun i _=>N1-(intOf i).toNat)
 case atStart=>exact ⟨0,Nat.zero_le _,rfl,rfl⟩
 case round =>
  obtain ⟨t,ht,rfl,hwr⟩:=hrel
  rw [hwr]
  clear hwr wr
  by_cases hlt:t<N1
  ·have d1:decide ((t:Int)<(N1:Int))=true:=by simp;omega
   obtain ⟨q,hq⟩:∃q,t / 4=q:=⟨_,rfl⟩
   have hq1:Int.tdiv (t:Int) 4=(q:Int):=by rw [Int.tdiv_eq_ediv_of_nonneg (by omega)];omega
   rcases HC1.out with h0|⟨gb,hgb,hcs⟩
   ·omega
   ·subst hgb
    have e0:=hcs t (by omega)
    clear hcs
    obtain ⟨a,n,c,hu,hn,hm⟩:=kept_form HK1.out (i:=t) (by omega)
    rw [hu] at e0
    rw [hq] at hm
    have HM:=hid hm
    unfold maxLen at hn
    clear hm hu
    go_wp2_with fail
    go_loopw [4] (fun i wx=>∃s:Nat,s≤n∧i=.int .i64 s∧wx=w) (fun i _=>n-(intOf i).toNat)
    case atStart=>exact ⟨0,Nat.zero_le _,rfl,rfl⟩
    case round =>
     obtain ⟨s,hs,rfl,hwx⟩:=hrel
     rw [hwx]
     clear hwx wr
     by_cases hls:s<n
     ·have d2:decide ((s:Int)<(n:Int))=true:=by simp;omega
      rcases HM.out with h0|⟨g,hg,hm⟩
      ·omega
      ·subst hg
       obtain ⟨m0,m1,m2,m3⟩:=hm s hls
       clear hm
       go_wp2_with fail
       go_roundw
       case rel=>exact ⟨s+1,by omega,by go_num,by trivial⟩
       case measure=>simp [intOf];omega
     ·have d2:decide ((s:Int)<(n:Int))=false:=by simp;omega
      go_wp2_with fail
      go_roundw
      case rel=>exact ⟨t+1,by omega,by go_num,by trivial⟩
      case measure=>simp [intOf];omega
  ·have d1:decide ((t:Int)<(N1:Int))=false:=by simp;omega
   go_wp2_with fail
   go_loopw [5] (fun i wr=>∃t:Nat,t≤N2∧i=.int .i64 t∧wr=w) (fun i _=>N2-(intOf i).toNat)
   case atStart=>exact ⟨0,Nat.zero_le _,rfl,rfl⟩
   case round =>
    obtain ⟨t,ht,rfl,hwr⟩:=hrel
    rw [hwr]
    clear hwr wr
    by_cases hlt:t<N2
    ·have d1:decide ((t:Int)<(N2:Int))=true:=by simp;omega
     obtain ⟨q,hq⟩:∃q,t / 4=q:=⟨_,rfl⟩
     have hq1:Int.tdiv (t:Int) 4=(q:Int):=by rw [Int.tdiv_eq_ediv_of_nonneg (by omega)];omega
     rcases HC2.out with h0|⟨gb,hgb,hcs⟩
     ·omega
     ·subst hgb
      have e0:=hcs t (by omega)
      clear hcs
      obtain ⟨a,n,c,hu,hn,hm⟩:=kept_formN HK2.out (i:=t) (by omega)
      rw [hu] at e0
      rw [hq] at hm
      have HM:=hid hm
      unfold maxLen at hn
      clear hm hu
      go_wp2_with fail
      go_loopw [6] (fun i wx=>∃s:Nat,s≤n∧i=.int .i64 s∧wx=w) (fun i _=>n-(intOf i).toNat)
      case atStart=>exact ⟨0,Nat.zero_le _,rfl,rfl⟩
      case round =>
       obtain ⟨s,hs,rfl,hwx⟩:=hrel
       rw [hwx]
       clear hwx wr
       by_cases hls:s<n
       ·have d2:decide ((s:Int)<(n:Int))=true:=by simp;omega
        rcases HM.out with h0|⟨g,hg,hm⟩
        ·omega
        ·subst hg
         obtain ⟨m0,m1⟩:=hm s hls
         clear hm
         go_wp2_with fail
         go_roundw
         case rel=>exact ⟨s+1,by omega,by go_num,by trivial⟩
         case measure=>simp [intOf];omega
       ·have d2:decide ((s:Int)<(n:Int))=false:=by simp;omega
        go_wp2_with fail
        go_roundw
        case rel=>exact ⟨t+1,by omega,by go_num,by trivial⟩
        case measure=>simp [intOf];omega
    ·have d1:decide ((t:Int)<(N2:Int))=false:=by simp;omega
     go_wp2_with fail
     go_loopw [7] (fun i wr=>∃t:Nat,t≤N3∧i=.int .i64 t∧wr=w) (fun i _=>N3-(intOf i).toNat)
     case atStart=>exact ⟨0,Nat.zero_le _,rfl,rfl⟩
     case round =>
      obtain ⟨t,ht,rfl,hwr⟩:=hrel
      rw [hwr]
      clear hwr wr
      by_cases hlt:t<N3
      ·have d1:decide ((t:Int)<(N3:Int))=true:=by simp;omega
       obtain ⟨q,hq⟩:∃q,t / 4=q:=⟨_,rfl⟩
       have hq1:Int.tdiv (t:Int) 4=(q:Int):=by rw [Int.tdiv_eq_ediv_of_nonneg (by omega)];omega
       rcases HC3.out with h0|⟨gb,hgb,hcs⟩
       ·omega
       ·subst hgb
        have e0:=hcs t (by omega)
        clear hcs
        obtain ⟨a,n,c,hu,hn,hm⟩:=kept_formB HK3.out (i:=t) (by omega)
        rw [hu] at e0
        rw [hq] at hm
        have HM:=hid hm
        unfold maxLen at hn
        clear hm hu
        go_wp2_with fail
        refine (mark_any t _ (by omega)).mono ?_
        rintro e wy ⟨rfl,hwy⟩
        rw [hwy,hq]
        clear hwy wy
        go_wp2_with fail
        go_loopw [9] (fun i wx=>∃s:Nat,s≤n∧i=.int .i64 s∧wx=w) (fun i _=>n-(intOf i).toNat)
        case atStart=>exact ⟨0,Nat.zero_le _,rfl,rfl⟩
        case round =>
         obtain ⟨s,hs,rfl,hwx⟩:=hrel
         rw [hwx]
         clear hwx wr
         by_cases hls:s<n
         ·have d2:decide ((s:Int)<(n:Int))=true:=by simp;omega
          rcases HM.out with h0|⟨g,hg,hm⟩
          ·omega
          ·subst hg
           have m0:=hm s hls
           clear hm
           go_wp2_with fail
           go_roundw
           case rel=>exact ⟨s+1,by omega,by go_num,by trivial⟩
           case measure=>simp [intOf];omega
         ·have d2:decide ((s:Int)<(n:Int))=false:=by simp;omega
          go_wp2_with fail
          go_roundw
          case rel=>exact ⟨t+1,by omega,by go_num,by trivial⟩
          case measure=>simp [intOf];omega
      ·have d1:decide ((t:Int)<(N3:Int))=false:=by simp;omega
       go_wp2_with fail
       go_ret
       exact ⟨rfl,rfl⟩
end Go.Proofs.YtcepppilgncdmaaGreatDoor
