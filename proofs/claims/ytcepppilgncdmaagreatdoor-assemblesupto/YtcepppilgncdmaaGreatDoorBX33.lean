/-
  Joined: QGoes QText PDo PBlk PThr.
-/
import Derived.Test.YtcepppilgncdmaaGreatDoorBX32
namespace Go.Proofs.YtcepppilgncdmaaGreatDoor
open Go.RowKit
section
attribute [local go_sem ↓] Go.wp_at_zero Go.wp_at_succ
def GInv (n:Nat) (w:World) (B x r at_ k:Nat) (lv ov:Value) (m:MacQ) (os:List ByteArray) (R:Int×Nat×StP) (j:Nat) (wr:World):Prop:=
 (∃vo opens st,BkAt wr B x lv (.int .i64 (at_:Nat)) (.pointer (some ⟨m.g,0,none⟩)) ov (.int .i64 ((8-n:Nat):Int)) vo (.pointer none) opens∧(∀g,vo.ownBlock=some g→w.heap.size≤g)∧RdSt wr B r st∧StOk st k∧Fq B [x] w wr∧R=blockP (callN n) (some (m.ps.map L,os.map L)) 0 ((m.bs.drop j).map L) at_ opens none st) ∨
  (R.1≠0∧RdErr wr r R.1 at_∧BkRow wr x lv (.int .i64 (at_:Nat)) (.pointer (some ⟨m.g,0,none⟩)) ov (.int .i64 ((8-n:Nat):Int))∧Fq B [x] w wr)
theorem fq_step {B x:Nat}{w wr w':World}{vo:Value}(h:Fq B [x] w wr) (ho:∀g,vo.ownBlock=some g→w.heap.size≤g) (h2:Fq B (bkM x vo) wr w'):Fq B [x] w w':=
 h.trans' h2 (fun i hi=>by
  unfold bkM at hi
  rcases List.mem_cons.1 hi with rfl|h3
  ·exact Or.inl (by simp)
  ·exact Or.inr (ho i (by simpa using h3)))
theorem fillP_noSemi (ps os:List (List UInt8)) (ho:∀o∈os,noSemi o):∀(n:Nat) (l t:List UInt8),noSemi l→fillP ps os n l=some t→noSemi t
 |0,l,t,_,h=>by
  simp only [fillP,Option.some.injEq] at h
  subst h
  intro c hc;simp at hc
 |n+1,[],t,_,h=>by
  simp only [fillP,Option.some.injEq] at h
  subst h
  intro c hc;simp at hc
 |n+1,c::r,t,hl,h=>by
  simp only [fillP] at h
  split at h
  ·split at h
   ·cases h
   ·rename_i i q _
    obtain ⟨u,hu,rfl⟩:=Option.map_eq_some_iff.1 h
    have h1:=fillP_noSemi ps os ho n (r.drop q) u (fun d hd=>hl d (List.mem_cons_of_mem _ (List.mem_of_mem_drop hd))) hu
    intro d hd
    rcases List.mem_append.1 hd with h2|h2
    ·rw [List.getD_eq_getElem?_getD] at h2
     cases hg:os[i]? with
     |none=>rw [hg] at h2;simp at h2
     |some o=>rw [hg] at h2;exact ho o (List.mem_of_getElem? hg) d h2
    ·exact h1 d h2
  ·obtain ⟨u,hu,rfl⟩:=Option.map_eq_some_iff.1 h
   have h1:=fillP_noSemi ps os ho n r u (fun d hd=>hl d (List.mem_cons_of_mem _ hd)) hu
   intro d hd
   rcases List.mem_cons.1 hd with rfl|h2
   ·exact hl d (by simp)
   ·exact h1 d h2
theorem filledP_ok {ps os:List (List UInt8)}{l t:List UInt8}(ho:∀o∈os,noSemi o) (hl:noSemi l) (h:filledP ps os l=(0,t)):noSemi t∧t.length≤80:=by
 unfold filledP at h
 cases hf:fillP ps os l.length l with
 |none=>rw [hf] at h;cases h
 |some u =>
  rw [hf] at h
  simp only at h
  split at h
  ·cases h
  ·rename_i h8
   injection h with _ h
   subst h
   exact ⟨fillP_noSemi ps os ho _ l u hl hf,by omega⟩
set_option maxRecDepth 100000 in
set_option maxHeartbeats 3200000 in
theorem goesM_of (n:Nat) (hc:CallsOk n):GoesM n:=by
 intro w B x r at_ k ov m os st C hrow hBx hm hmo hso hlen hse hx hok hB
 obtain ⟨R,hR⟩:∃R,blockP (callN n) (some (m.ps.map L,os.map L)) 0 (m.bs.map L) at_ [] none st=R:=⟨_,rfl⟩
 rw [hR]
 obtain ⟨ba,bc,hbv⟩:=hm.bs.form
 rw [hbv] at hrow
 have hmx:m.g≠x:=by
  intro e
  have h1:=hm.row
  rw [e] at h1
  unfold RowT at h1 hrow
  rw [h1] at hrow
  injection hrow with hrow
  injection hrow with _ hrow
  exact absurd hrow (by decide)
 have HI:=hid (show GInv n w B x r at_ k (.slice ba m.bs.length bc) ov m os R 0 w from Or.inl ⟨.slice none 0 0,[],st,⟨hrow,World.ownsRow_nil _ _ _ _,by simp,hBx⟩,(fun g h=>by cases h),hx,hok,Fq.refl _ _ _,by rw [List.drop_zero];exact hR.symm⟩)
 have HM:=hid hm
 have HMO:=hid hmo
 have HSO:=hid hso
 have HLEN:=hid hlen
 have HSE:=hid hse
 have HC:=hid hc
 have hbl:m.bs.length≤3001:=by simpa [plainQ] using hmo.2.2.1
 have HLN:=hid (show ∀j (h:j<m.bs.length),m.bs[j].size≤100∧cutL (L m.bs[j])=L m.bs[j] from fun j h=>by
  have:=hmo.2.2.2 (L m.bs[j]) (by simp only [plainQ];exact List.mem_map.2 ⟨_,List.getElem_mem h,rfl⟩)
  rw [L_length] at this
  exact this)
 have HBV:=hid hbv
 have c1:w.cell? ⟨x,1,none⟩=some (.int .i64 (at_:Nat)):=hrow.cell 1 (by simp)
 clear hR hbv hrow hm hmo hso hlen hse hx hok hc
 go_enter Tryz.func62,Tryz.ntmps62
 go_wp2_with fail
 go_loopw [4,5] (fun a i wr=>∃j:Nat,j≤m.bs.length∧a=.int .i64 (at_:Nat)∧i=.int .i64 j∧GInv n w B x r at_ k (.slice ba m.bs.length bc) ov m os R j wr) (fun _ i _=>m.bs.length-(intOf i).toNat)
 case atStart=>exact ⟨0,Nat.zero_le _,rfl,rfl,HI.out⟩
 case round =>
  obtain ⟨j,hj,rfl,rfl,hinv⟩:=hrel
  clear c1 HI
  rcases hinv with ⟨vo,opens,st1,hk,hvo,hst,hok1,hf,hRe⟩|⟨h0,hre,hbr,hf⟩
  ·have c0:wr.cell? ⟨x,0,none⟩=some (.slice ba m.bs.length bc):=hk.row.cell 0 (by simp)
   have c2:wr.cell? ⟨x,2,none⟩=some (.pointer (some ⟨m.g,0,none⟩)):=hk.row.cell 2 (by simp)
   have c6:wr.cell? ⟨x,6,none⟩=some (.pointer none):=hk.row.cell 6 (by simp)
   have c5:wr.cell? ⟨x,5,none⟩=some vo:=hk.row.cell 5 (by simp)
   obtain ⟨_,_,_,_,_,_,_,hxa,_⟩:=id hst
   have e4:wr.cell? ⟨r,4,none⟩=some (.int .i64 0):=hxa.row.cell 4 (by simp)
   have HK:=hid hk
   have HVO:=hid hvo
   have HST:=hid hst
   have HOK:=hid hok1
   have HF:=hid hf
   have HXA:=hid hxa
   have HMR:=hid (HM.out.fq hf (by simpa using hmx))
   have HSR:=hid (HSO.out.fq hf)
   have hBr:B≤wr.heap.size:=Nat.le_trans hB hf.size
   clear hk hvo hst hok1 hf hxa
   by_cases hlt:j<m.bs.length
   ·have kd:decide ((j:Int)<m.bs.length)=true:=by simp;omega
    have ij0:(0:Int)≤(j:Int):=Int.natCast_nonneg _
    have ij1:(j:Int)<(m.bs.length:Int):=by omega
    obtain ⟨bl,offl,cl,hv,hbll,cj⟩:=HMR.out.bs.cell j hlt
    rw [HBV.out] at hv
    injection hv with hv1 _ hv2
    subst hv1 hv2
    obtain ⟨hls,hlc⟩:=HLN.out j hlt
    rw [List.drop_eq_getElem_cons hlt,List.map_cons] at hRe
    obtain ⟨l,hl⟩:∃l,m.bs[j]=l:=⟨_,rfl⟩
    rw [hl] at cj hls hlc hRe
    clear hl
    have hcut:=cut_any l wr (by unfold maxLen;omega)
    have hnl:noSemi (L l):=by rw [←hlc];exact cutL_noSemi _
    rw [hlc] at hcut
    simp only [blockP,hlc] at hRe
    have HCUT:=hid hcut
    have HNL:=hid hnl
    have HOV:=hid (over_any wr B x _ _ _ _ _ vo _ opens HK.out)
    have HRE:=hid hRe
    clear hcut hnl hlc hRe
    obtain ⟨ov2,hov2⟩:∃o,overP opens=o:=⟨_,rfl⟩
    rw [hov2] at HOV HRE
    cases ov2 with
    |true =>
     have hre:R=if (passP (wordsP (L l)) opens st1).1≠0 then ((passP (wordsP (L l)) opens st1).1,at_+0,st1) else blockP (callN n) (some (m.ps.map L,os.map L)) 0 ((m.bs.drop (j+1)).map L) (at_+0) (passP (wordsP (L l)) opens st1).2 none st1:=HRE.out
     clear HRE
     have HRE:=hid hre
     clear hre
     go_wp2_with (first|(go_at_call 88;refine HCUT.out.mono ?_;rintro e w' ⟨t,ht,hts,rfl,hw'⟩;obtain rfl:l=t:=(L_inj ht).symm;obtain rfl:=hw'.symm;clear ht hts)|(go_at_call 89;refine HOV.out.mono ?_;rintro e w' ⟨rfl,hw'⟩;obtain rfl:=hw'.symm))
     refine (passes_any wr B x r _ _ _ _ _ vo opens at_ st1 l k HK.out HST.out hls HNL.out HOK.out hBr).mono ?_
     rintro e w4 ⟨rfl,hp2,hp3,hp4⟩
     have HNI:=hid (show GInv n w B x r at_ k (.slice (some ⟨bl,offl,none⟩) m.bs.length bc) ov m os R (j+1) w4 by
      by_cases h0:(passP (wordsP (L l)) opens st1).1=0
      ·obtain ⟨⟨vo',hk',hg'⟩,hr'⟩:=hp3 h0
       refine Or.inl ⟨vo',_,st1,hk',fun g hg=>?_,hr',HOK.out,fq_step HF.out HVO.out hp2,?_⟩
       ·rcases hg' g hg with h5|h5
        ·exact HVO.out g h5
        ·exact Nat.le_trans HF.out.size h5
       ·have h6:=HRE.out
        rw [if_neg (by simp [h0])] at h6
        exact h6
      ·have h6:=HRE.out
       rw [if_pos h0] at h6
       rw [h6]
       exact Or.inr ⟨h0,(hp4 h0).1,(hp4 h0).2,fq_step HF.out HVO.out hp2⟩)
     clear hp2 hp3 hp4
     go_wp2_with fail
     go_roundw
     case rel=>exact ⟨j+1,by omega,rfl,by go_num,HNI.out⟩
     case measure=>simp [intOf];omega
    |false =>
     have hre:=HRE.out
     rw [if_neg (by simp)] at hre
     obtain ⟨fp,hfp⟩:∃fp,filledP (m.ps.map L) (os.map L) (L l)=fp:=⟨_,rfl⟩
     obtain ⟨fe,ft⟩:=fp
     have hfl:=filled_any wr x _ _ ov _ _ _ m os l C HK.out.row HMR.out HSR.out HLEN.out (by have:=HMO.out.1;simp only [plainQ,List.length_map] at this;omega) (by omega) (fun q hq=>by have:=HMO.out.2.1 (L m.ps[q]) (by simp only [plainQ];exact List.mem_map.2 ⟨_,List.getElem_mem hq,rfl⟩);rw [L_length] at this;omega) (fun q hq=>(HSE.out os[q] (List.getElem_mem hq)).1)
     unfold FilledPost at hfl
     rw [hfp] at hfl
     have HFL:=hid hfl
     have HFP:=hid hfp
     by_cases h0:fe=0
     ·subst h0
      obtain ⟨hns,h80⟩:=filledP_ok (fun o ho=>by obtain ⟨q,hq,rfl⟩:=List.mem_map.1 ho;exact (HSE.out q hq).2) HNL.out hfp
      rw [show readP (some (m.ps.map L,os.map L)) false (L l)=(0,wordsP ft) from by simp only [readP,hfp];rw [if_neg (by simp),cutL_id hns],if_neg (by simp)] at hre
      have HRE:=hid hre
      have HNS:=hid hns
      clear hre hfl hfp hns
      go_wp2_with (first|(go_at_call 88;refine HCUT.out.mono ?_;rintro e w' ⟨t,ht,hts,rfl,hw'⟩;obtain rfl:l=t:=(L_inj ht).symm;obtain rfl:=hw'.symm;clear ht hts)|(go_at_call 89;refine HOV.out.mono ?_;rintro e w' ⟨rfl,hw'⟩;obtain rfl:=hw'.symm)|(go_at_call 93;refine HFL.out.mono ?_;rintro e w' ⟨t,rfl,ht,hw'⟩;obtain rfl:=hw'.symm))
      have HT:=hid ht
      have hts:t.size≤100:=by rw [size_L,ht];show ft.length≤100;omega
      have hdo:=does_any n HC.out wr B x r _ _ ov vo _ opens at_ st1 t k HK.out HST.out hts (by rw [ht];exact HNS.out) HOK.out hBr
      rw [ht] at hdo
      clear ht
      refine hdo.mono ?_
      clear hdo
      rintro e w4 ⟨rfl,hp2,hp3,_⟩
      have HNI:=hid (show GInv n w B x r at_ k (.slice (some ⟨bl,offl,none⟩) m.bs.length bc) ov m os R (j+1) w4 by
       by_cases h0:(lineP (callN n) true (wordsP ft) at_ opens st1).1=0
       ·have hnd:=line_nodef h0
        obtain ⟨hf4,⟨vo',hk',hg'⟩,hr'⟩:=hp3 h0 hnd
        refine Or.inl ⟨vo',_,_,hk',fun g hg=>?_,hr',line_ok (call_ok n k) HOK.out h0,fq_step HF.out HVO.out hf4,?_⟩
        ·rcases hg' g hg with h5|h5
         ·exact HVO.out g h5
         ·exact Nat.le_trans HF.out.size h5
        ·have h6:=HRE.out
         rw [show (some (m.ps.map L,os.map L)).isSome=true from rfl,Nat.add_zero,if_neg (by simp [h0]),hnd] at h6
         exact h6
       ·have h6:=HRE.out
        rw [show (some (m.ps.map L,os.map L)).isSome=true from rfl,Nat.add_zero,if_pos h0] at h6
        rw [h6]
        exact Or.inr ⟨h0,(hp2 h0).2.1,(hp2 h0).2.2,fq_step HF.out HVO.out (hp2 h0).1⟩)
      clear hp2 hp3
      go_wp2_with fail
      go_roundw
      case rel=>exact ⟨j+1,by omega,rfl,by go_num,HNI.out⟩
      case measure=>simp [intOf];omega
     ·rw [show readP (some (m.ps.map L,os.map L)) false (L l)=(fe,⟨[],[],[]⟩) from by simp only [readP,hfp];rw [if_pos h0],if_pos h0] at hre
      have HRE:=hid hre
      have k0:(fe != 0)=true:=by rw [bne_iff_ne];exact h0
      have H0:=hid h0
      clear hre hfl hfp h0
      go_wp2_with (first|(go_at_call 88;refine HCUT.out.mono ?_;rintro e w' ⟨t,ht,hts,rfl,hw'⟩;obtain rfl:l=t:=(L_inj ht).symm;obtain rfl:=hw'.symm;clear ht hts)|(go_at_call 89;refine HOV.out.mono ?_;rintro e w' ⟨rfl,hw'⟩;obtain rfl:=hw'.symm)|(go_at_call 93;refine HFL.out.mono ?_;rintro e w' ⟨t,rfl,ht,hw'⟩;obtain rfl:=hw'.symm)|(go_at_call 60;refine (bad_any _ r _ _ _ _ _ fe at_ HXA.out.row).mono ?_;rintro e w4 ⟨rfl,rfl⟩))
      first|go_end0|refine bodyPost_ret (results_none rfl _ _ _) rfl ?_
      obtain ⟨p1,p2⟩:=bad_post (er:=fe) (at_:=at_) HXA.out.row HXA.out.at_
      rw [HRE.out]
      exact ⟨rfl,HF.out.trans p1.wide,fun c=>absurd c H0.out,fun _=>p2⟩
   ·have kd:decide ((j:Int)<m.bs.length)=false:=by simp;omega
    rw [List.drop_eq_nil_of_le (by omega),List.map_nil] at hRe
    simp only [blockP,Option.isNone_none,and_true] at hRe
    obtain ⟨av,cv,hvv⟩:=own_form HK.out.own
    subst hvv
    by_cases hop:opens=[]
    ·rw [if_pos hop] at hRe
     subst hop
     have HRE:=hid hRe
     clear hRe
     go_wp2_with fail
     first|go_end0|refine bodyPost_ret (results_none rfl _ _ _) rfl ?_
     rw [HRE.out]
     exact ⟨rfl,HF.out,fun _=>HST.out,fun c=>absurd rfl c⟩
    ·rw [if_neg hop] at hRe
     have hlo:0<opens.length:=List.length_pos_iff.2 hop
     have ko:decide ((0:Int)<opens.length)=true:=by simp;omega
     have HRE:=hid hRe
     clear hRe hop
     go_wp2_with (first|(go_at_call 60;refine (bad_any _ r _ _ _ _ _ 2 at_ HXA.out.row).mono ?_;rintro e w4 ⟨rfl,rfl⟩))
     first|go_end0|refine bodyPost_ret (results_none rfl _ _ _) rfl ?_
     obtain ⟨p1,p2⟩:=bad_post (er:=2) (at_:=at_) HXA.out.row HXA.out.at_
     rw [HRE.out]
     exact ⟨rfl,HF.out.trans p1.wide,(fun c=>by cases c),fun _=>p2⟩
  ·obtain ⟨q1,q2,q3,q4,hre⟩:=hre
   obtain ⟨ao,no,co,po,hbr⟩:=hbr
   obtain ⟨er,her⟩:∃er,R.1=er:=⟨_,rfl⟩
   rw [her] at h0 hre
   have e4:wr.cell? ⟨r,4,none⟩=some (.int .i64 er):=hre.cell 4 (by simp)
   have c0:wr.cell? ⟨x,0,none⟩=some (.slice ba m.bs.length bc):=hbr.cell 0 (by simp)
   have c5:wr.cell? ⟨x,5,none⟩=some (.slice ao no co):=hbr.cell 5 (by simp)
   have c6:wr.cell? ⟨x,6,none⟩=some (.pointer po):=hbr.cell 6 (by simp)
   have k0:(er==0)=false:=by rw [beq_eq_false_iff_ne];exact h0
   have HBA:=hid (bad_again wr r q1 q2 q3 q4 _ er 2 at_ hre h0)
   have HFIN:=hid (show RdPost B r [x] at_ (R.1,R.2.2) w (.returned (.tuple #[])) wr from ⟨rfl,hf,fun c=>absurd (her.symm.trans c) h0,fun _=>⟨q1,q2,q3,q4,by rw [her];exact hre⟩⟩)
   clear hre hbr h0 her hf
   have hor:decide ((0:Int)<no)=true∨(decide ((0:Int)<no)=false∧∃pp,po=some pp)∨(decide ((0:Int)<no)=false∧po=none):=by
    cases hd:decide ((0:Int)<no) with
    |true=>exact Or.inl rfl
    |false =>
     cases po with
     |none=>exact Or.inr (Or.inr ⟨rfl,rfl⟩)
     |some pp=>exact Or.inr (Or.inl ⟨rfl,pp,rfl⟩)
   by_cases hlt:j<m.bs.length
   ·have kd:decide ((j:Int)<m.bs.length)=true:=by simp;omega
    rcases hor with ko|⟨ko,pp,rfl⟩|⟨ko,rfl⟩
    all_goals
     go_wp2_with (first|(go_at_call 60;refine HBA.out.mono ?_;rintro e w4 ⟨rfl,hw4⟩;obtain rfl:=hw4.symm))
     all_goals
      first|go_end0|refine bodyPost_ret (results_none rfl _ _ _) rfl ?_
      exact HFIN.out
   ·have kd:decide ((j:Int)<m.bs.length)=false:=by simp;omega
    rcases hor with ko|⟨ko,pp,rfl⟩|⟨ko,rfl⟩
    all_goals
     go_wp2_with (first|(go_at_call 60;refine HBA.out.mono ?_;rintro e w4 ⟨rfl,hw4⟩;obtain rfl:=hw4.symm))
     all_goals
      first|go_end0|refine bodyPost_ret (results_none rfl _ _ _) rfl ?_
      exact HFIN.out
end
section
attribute [local go_sem ↓] Go.wp_at_zero Go.wp_at_succ
theorem goes_all:∀n,n≤8→CallsOk n∧GoesM n
 |0,_=>⟨calls_zero,goesM_of 0 calls_zero⟩
 |n+1,h=>by
  have h1:=calls_succ n h (goes_all n (by omega)).2
  exact ⟨h1,goesM_of (n+1) h1⟩
theorem StrV.keepsQ {M:List Nat}{w w':World}{B:Nat}{v:Value}{ss:List ByteArray}(h:StrV w B v ss) (hk:Keeps M w w') (hm:∀b cur,w.heap[b]?=some (.cells cur 9 (0,0))→b∉M):StrV w' B v ss:=by
 rcases h with h|⟨b,off,cap,cur,h1,h2,h3,h4⟩
 ·exact Or.inl h
 ·exact Or.inr ⟨b,off,cap,cur,h1,h2,by rw [hk.block b (Array.getElem?_eq_some_iff.1 h3).1 (hm b cur h3)];exact h3,h4⟩
theorem ownsRow_keeps {M:List Nat}{w w':World}{base e size n:Nat}{v:Value}{xs:List Value}(h:w.ownsRow base e size v n xs) (hk:Keeps M w w') (hm:∀g,v.ownBlock=some g→g∉M):w'.ownsRow base e size v n xs:=by
 refine ⟨h.1,h.2.imp id ?_⟩
 rintro ⟨g,cap,cur,rfl,h2,h3,h4⟩
 exact ⟨g,cap,cur,rfl,h2,by rw [hk.block g (Array.getElem?_eq_some_iff.1 h3).1 (hm g rfl)];exact h3,h4⟩
theorem row_ne {w:World}{t u g x:Nat}{xs ys:List Value}(h:RowT w t g xs) (k:RowT w u x ys) (ht:t≠u):g≠x:=by
 rintro rfl
 unfold RowT at h k
 rw [h] at k
 injection k with k
 injection k with _ k
 exact ht k
theorem RdAt.keeps {w w':World}{B r x:Nat}{vm vn vo:Value}{ms:List MacQ}{ns:List (ByteArray×Int)}{outs:List (ByteArray×Nat)}{calls:Nat}{ys:List Value}(h:RdAt w B r vm vn vo ms ns outs calls) (hk:Keeps [x] w w') (hx:RowT w 130 x ys):RdAt w' B r vm vn vo ms ns outs calls:=by
 have hs:∀b cur,w.heap[b]?=some (.cells cur 9 (0,0))→b∉[x]:=fun b cur hb=>by simpa using RowT.notStr hx (by decide) b cur hb
 refine ⟨h.row.keeps hk (by simpa using row_ne h.row hx (by decide)),ownsRow_keeps h.mown hk (fun g hg=>?_),ownsRow_keeps h.nown hk (fun g hg=>?_),ownsRow_keeps h.lown hk (fun g hg=>?_),fun m hm=>⟨(h.macs m hm).row.keeps hk (by simpa using row_ne (h.macs m hm).row hx (by decide)),(h.macs m hm).ps.keepsQ hk hs,(h.macs m hm).bs.keepsQ hk hs⟩,h.at_⟩
 ·have:=own_row_ne h.mown hx (by decide);simp only [List.mem_singleton];intro e;exact this (by rw [hg,e])
 ·have:=own_row_ne h.nown hx (by decide);simp only [List.mem_singleton];intro e;exact this (by rw [hg,e])
 ·have:=own_row_ne h.lown hx (by decide);simp only [List.mem_singleton];intro e;exact this (by rw [hg,e])
theorem Keeps.then_below {M:List Nat}{a b c:World}(h:Keeps M a b) (k:Below a.heap.size b c):Keeps M a c:=
 ⟨k.os.trans h.os,k.tape.trans h.tape,k.output.trans h.output,Nat.le_trans h.size k.size,fun i hi hm=>by rw [k.block i hi];exact h.block i hi hm⟩
theorem line_def {call:MacP→WordsP→Nat→StP→Int×StP}{inM:Bool}{W:WordsP}{at_:Nat}{opens:List OpenP}{st:StP}{d:MacP}(hw:WOk W) (hd:(lineP call inM W at_ opens st).2.2.1=some d):MacOk d:=by
 have key:∀d,(defP inM W st).2=some d→MacOk d:=by
  intro d hd
  unfold defP at hd
  split at hd
  ·cases hd
  split at hd
  ·cases hd
  split at hd
  ·cases hd
  split at hd
  ·cases hd
  injection hd with hd
  subst hd
  obtain ⟨_,_,h3,h4,_⟩:=hw.bd
  exact ⟨by simp;omega,fun p hp=>h4 p (List.mem_of_mem_tail hp),by simp,fun l hl=>by cases hl⟩
 unfold lineP at hd
 split at hd
 ·cases hd
 split at hd
 ·cases hd
 split at hd
 ·cases hd
 split at hd
 ·exact key d hd
 split at hd
 ·cases hd
 split at hd
 ·cases hd
 split at hd
 ·cases hd
 ·cases hd
def TInv (w:World) (B x r:Nat) (lv pv:Value) (ls:List ByteArray) (R:Int×Nat×StP) (j:Nat) (wr:World):Prop:=
 (∃vo opens st,BkAt wr B x lv (.int .i64 0) (.pointer none) pv (.int .i64 0) vo (.pointer none) opens∧RdSt wr B r st∧StOk st j∧StrV wr 0 lv ls∧Below B w wr∧R=blockP (callN 8) none 1 ((ls.drop j).map L) j opens none st) ∨
  (∃w0 vo opens st gd nm qv ps dl bs,BkAt w0 B x lv (.int .i64 0) (.pointer none) pv (.int .i64 0) vo (.pointer none) opens∧RdSt w0 B r st∧(∃i,i<j∧StOk st i)∧StrV w0 0 lv ls∧Below B w w0∧Keeps [x] w0 wr∧RowT wr 130 x [lv,.int .i64 0,.pointer none,pv,.int .i64 0,vo,.pointer (some ⟨gd,0,none⟩)]∧DefAt wr w0.heap.size gd nm qv ps dl bs ∧
   MacOk ⟨L nm,ps.map L,bs.map L⟩∧bs.length≤j∧R=blockP (callN 8) none 1 ((ls.drop j).map L) j opens (some ⟨L nm,ps.map L,bs.map L⟩) st)
def TErr (w:World) (B x r:Nat) (lv pv:Value) (R:Int×Nat×StP) (wr:World):Prop:=R.1≠0∧RdErr wr r R.1 R.2.1∧BkRow wr x lv (.int .i64 0) (.pointer none) pv (.int .i64 0)∧Below B w wr
def TPost (w:World) (B r:Nat) (R:Int×Nat×StP) (e:Ending) (w':World):Prop:=e=.returned (.tuple #[])∧Below B w w'∧(R.1=0→RdSt w' B r R.2.2)∧(R.1≠0→RdErr w' r R.1 R.2.1)
end
section
attribute [local go_sem ↓] Go.wp_at_zero Go.wp_at_succ
def doP (call:MacP→WordsP→Nat→StP→Int×StP) (wi k:Nat) (W:WordsP) (opens:List OpenP) (st:StP) (ls:List (List UInt8)):Int×Nat×List OpenP×StP:=
 if W.op=opIf then ((ifP W opens st).1,k,(ifP W opens st).2,st)
 else if W.op=opElse then ((elseP W opens).1,k,(elseP W opens).2,st)
 else if W.op=opEndif then ((endifP W opens).1,k,(endifP W opens).2,st)
 else if overP opens=true then (0,k,opens,st)
 else ((otherP call wi k W st ls).1,(otherP call wi k W st ls).2.1,opens,(otherP call wi k W st ls).2.2)
def Kind (wi bt k T t bm j:Nat):Prop:=(wi=0∧T=69∧t=74∧bm=bt∧j=k)∨(0<wi∧T=207∧t=209)
theorem Kind.rd {wi bt k T t bm j:Nat}(h:Kind wi bt k T t bm j):Rd T t:=by
 rcases h with ⟨_,h1,h2,_⟩|⟨_,h1,h2⟩
 ·exact Or.inl ⟨h1,h2⟩
 ·exact Or.inr ⟨h1,h2⟩
def nextJ (wi k j:Nat):Nat:=if wi=0 then k else j
theorem Kind.same {wi bt k T t bm j:Nat}(h:Kind wi bt k T t bm j):nextJ wi k j=j:=by
 unfold nextJ
 rcases h with ⟨h0,_,_,_,h1⟩|⟨h0,_⟩
 ·rw [if_pos h0,h1]
 ·rw [if_neg (by omega)]
def DoPost (B be bt wi t bm j:Nat) (v lv:Value) (ls:List ByteArray) (rest:List Value) (r:Int×Nat×List OpenP×StP) (w:World) (e:Ending) (w':World):Prop:=
 e=.returned (.int .i64 r.1)∧Fr B (condM bm v) w w'∧NumAt w' be bt wi r.2.1 ∧
 (r.1=0→ExpSt w' B be bt wi r.2.1 r.2.2.2∧StOk r.2.2.2 r.2.1∧∃v',(∀g,v'.ownBlock=some g→v.ownBlock=some g∨w.heap.size≤g)∧ReadAt w' B t bm v' lv ls (nextJ wi r.2.1 j) rest r.2.2.1)
theorem IfPost.doPost {B be bt wi k t bm T j:Nat}{v lv:Value}{ls:List ByteArray}{rest:List Value}{st:StP}{r:Int×List OpenP}{w0 w:World}{e:Ending}{w':World}(h:IfPost B be bt wi k t bm v (lv::.int .i64 (j:Nat)::rest) st r w0 e w') (hb:Below w.heap.size w w0) (hk:Kind wi bt k T t bm j) (hok:StOk st k) {opens:List OpenP}(hra:ReadAt w0 B t bm v lv ls j rest opens) :
  DoPost B be bt wi t bm j v lv ls rest (r.1,k,r.2,st) w e w':=by
 obtain ⟨h1,h2,h3,h4⟩:=h
 refine ⟨h1,(Fr.of_below hb).trans h2.to,h4,fun h0=>?_⟩
 obtain ⟨h5,v',h6,h7⟩:=h3 h0
 refine ⟨h5,hok,v',fun g hg=>(h6 g hg).imp id (fun h=>Nat.le_trans hb.size h),?_⟩
 show ReadAt w' B t bm v' lv ls (nextJ wi k j) rest r.2
 rw [hk.same]
 exact ⟨h7,hra.strs.frc h2,hra.le,hra.few⟩
set_option maxRecDepth 100000 in
set_option maxHeartbeats 800000 in
theorem do_any (n:Nat) (hcall:CallOk n) (w:World) (B be bt wi k T t bm j:Nat) (st:StP) (v lv:Value) (ls:List ByteArray) (rest:List Value) (opens:List OpenP) (lb op:ByteArray) (va:Option Addr) (vc:Nat) (os:List ByteArray) (W:WordsP) (C:Nat) (hwn:wi+n=8)
  (hk:Kind wi bt k T t bm j) (h:ExpSt w B be bt wi k st) (hra:ReadAt w B t bm v lv ls j rest opens) (hch:Chain opens) (hp:PartsV w C lb op (.slice va os.length vc) os W) (hW:WOk W) (hls:∀i (hi:i<ls.length),ls[i].size≤100) (hok:StOk st k) (hm:MaxAt w) (hgB:0<B) (hB:B≤w.heap.size) (hbt:B≤bt) (hbm:B≤bm) :
  Calls Tryz.prog 46 #[.pointer (some ⟨be,0,none⟩),.iface T (.pointer (some ⟨bm,0,none⟩)),.agg #[.string lb,.string op,.slice va os.length vc]] w (DoPost B be bt wi t bm j v lv ls rest (doP (callN n) wi k W opens st (ls.map L)) w):=by
 obtain ⟨q1,q2,q3⟩:=hW.parts hp
 have hrd:=hk.rd
 obtain ⟨htc,hts,htp,hrt,het⟩:=hrd.facts
 have hb0:Below w.heap.size w (w.alloc (.cells #[.string lb,.string op,.slice va os.length vc] 101)):=(Below.refl _ _).alloc (Nat.le_refl _) _
 have HS:=hid (h.below hb0)
 have HP:=hid (hp.below hb0)
 have HB0:=hid hb0
 have HBX:=hid (RowT.new w 101 [.string lb,.string op,.slice va os.length vc])
 have HM:=hid (hm.below hb0)
 have HRA:=hid (hra.below hb0)
 have HQ2:=hid q2
 have HLS:=hid hls
 have HWK:=hid hW
 have HCH:=hid hch
 have HBR:=hid hp.bare
 have hB0:B≤(w.alloc (.cells #[.string lb,.string op,.slice va os.length vc] 101)).heap.size:=Nat.le_trans hB hb0.size
 have HOK:=hid hok
 have HK:=hid hk
 have hnl:st.names.length≤1000:=by have h1:=hok.names;have h2:=hok.out;omega
 have m2:=fun w=>ask_passing hrd bm w
 have m4:=fun w=>ask_turn hrd bm w
 have m5:=fun w=>ask_finish hrd bm w
 obtain ⟨r,hr⟩:∃r,doP (callN n) wi k W opens st (ls.map L)=r:=⟨_,rfl⟩
 rw [hr]
 unfold doP at hr
 have HOP:=hid hp.op
 clear h hp hb0 hm hra hls hok hW q2 hch hk
 have y0:=HBX.out.cell 0 (by simp)
 have y1:=HBX.out.cell 1 (by simp)
 have y2:=HBX.out.cell 2 (by simp)
 by_cases h1:W.op=opIf
 ·rw [if_pos h1] at hr
  have k1:(op.toList==[46,105,102])=true:=op_is (by rw [HOP.out,h1];rfl)
  subst hr
  clear h1
  go_enter Tryz.func46,Tryz.ntmps46
  go_wp2_with fail
  refine (doIf_any _ B be bt wi k T t bm st v lv j rest opens lb op va vc os W C hrd HS.out HRA.out.cond HP.out (fun i hi=>by have:=HQ2.out i hi;omega) hnl hB0 hbm).mono ?_
  rintro e w1 hpost
  obtain ⟨hv1,hrest⟩:=hpost
  subst hv1
  go_wp2
  go_ret
  exact IfPost.doPost ⟨rfl,hrest⟩ HB0.out HK.out HOK.out HRA.out
 ·rw [if_neg h1] at hr
  have k1:(op.toList==[46,105,102])=false:=op_not (by rw [HOP.out];exact h1)
  clear h1
  by_cases h2:W.op=opElse
  ·rw [if_pos h2] at hr
   have k2:(op.toList==[46,101,108,115,101])=true:=op_is (by rw [HOP.out,h2];rfl)
   subst hr
   clear h2
   go_enter Tryz.func46,Tryz.ntmps46
   go_wp2_with fail
   refine (turn_any _ B t bm v _ opens lb op va os.length vc W (elseP W opens).1 (elseP W opens).2 HRA.out.cond HCH.out htc (by unfold maxLen;omega) HBR.out.symm rfl).mono ?_
   rintro e w1 hpost
   have hif:=CondPost.ifPost (r:=elseP W opens) hpost HS.out HRA.out.cond
   obtain ⟨hv1,hrest⟩:=hif
   subst hv1
   clear hpost
   go_wp2
   go_ret
   exact IfPost.doPost ⟨rfl,hrest⟩ HB0.out HK.out HOK.out HRA.out
  ·rw [if_neg h2] at hr
   have k2:(op.toList==[46,101,108,115,101])=false:=op_not (by rw [HOP.out];exact h2)
   clear h2
   by_cases h3:W.op=opEndif
   ·rw [if_pos h3] at hr
    have k3:(op.toList==[46,101,110,100,105,102])=true:=op_is (by rw [HOP.out,h3];rfl)
    subst hr
    clear h3
    go_enter Tryz.func46,Tryz.ntmps46
    go_wp2_with fail
    refine (finish_any _ B t bm v _ opens lb op va os.length vc W (endifP W opens).1 (endifP W opens).2 HRA.out.cond HCH.out htc hrt hbm (by unfold maxLen;omega) HBR.out.symm rfl).mono ?_
    rintro e w1 hpost
    have hif:=CondPost.ifPost (r:=endifP W opens) hpost HS.out HRA.out.cond
    obtain ⟨hv1,hrest⟩:=hif
    subst hv1
    clear hpost
    go_wp2
    go_ret
    exact IfPost.doPost ⟨rfl,hrest⟩ HB0.out HK.out HOK.out HRA.out
   ·rw [if_neg h3] at hr
    have k3:(op.toList==[46,101,110,100,105,102])=false:=op_not (by rw [HOP.out];exact h3)
    have HR:=hid hr
    clear h3 hr
    go_enter Tryz.func46,Tryz.ntmps46
    go_wp2_with fail
    refine (passing_any _ B t bm v _ opens HRA.out.cond).mono ?_
    cases hov:overP opens with
    |true =>
     rintro e w1 ⟨rfl,rfl⟩
     have hr:=HR.out
     rw [if_pos hov] at hr
     subst hr
     clear hov
     go_wp2
     go_ret
     refine ⟨rfl,Fr.of_below HB0.out,HS.out.num,fun _=>⟨HS.out,HOK.out,v,fun g hg=>Or.inl hg,?_⟩⟩
     show ReadAt _ B t bm v lv ls (nextJ wi k j) rest opens
     rw [HK.out.same]
     exact HRA.out
    |false =>
     rintro e w1 ⟨rfl,rfl⟩
     have hr:=HR.out
     rw [if_neg (by rw [hov];simp)] at hr
     have HR2:=hid hr
     clear hov hr
     go_wp2_with fail
     refine (doOther_any n hcall _ B be bt wi k st v lv ls rest opens lb op va vc os W C hwn HS.out (fun hw=>?_) HP.out HWK.out HLS.out HOK.out HM.out hgB hB0 hbt).mono ?_
     ·rcases HK.out with ⟨_,_,h5,h6,h7⟩|⟨h5,_⟩
      ·have:=HRA.out
       rw [h5,h6,h7] at this
       exact this
      ·omega
     ·rintro e w2 ⟨rfl,hf2,hn2,hs2⟩
      go_wp2
      go_ret
      rw [←HR2.out]
      have hmem:∀i,i∈frM wi bt→i∈condM bm v:=by
       intro i hi
       unfold frM at hi
       rcases HK.out with ⟨h4,_,_,h6,_⟩|⟨h5,_⟩
       ·rw [if_pos h4,List.mem_singleton] at hi
        rw [hi,←h6];simp [condM]
       ·rw [if_neg (by omega)] at hi;cases hi
      refine ⟨rfl,(Fr.of_below HB0.out).trans (hf2.mono hmem),hn2,fun h0=>?_⟩
      obtain ⟨g1,g2,g3⟩:=hs2 h0
      refine ⟨g1,g2,v,fun g hg=>Or.inl hg,?_⟩
      rcases HK.out with ⟨h4,_,h5,h6,_⟩|⟨h4,_,h5⟩
      ·have:=g3 h4
       show ReadAt _ B t bm v lv ls (nextJ wi _ j) rest opens
       unfold nextJ
       rw [if_pos h4,h5,h6]
       exact this
      ·show ReadAt _ B t bm v lv ls (nextJ wi _ j) rest opens
       unfold nextJ
       rw [if_neg (by omega)]
       refine HRA.out.frE het ?_
       have:frM wi bt=[]:=by unfold frM;rw [if_neg (by omega)]
       rw [this] at hf2
       exact hf2
end
theorem ifP_chain {W:WordsP}{opens:List OpenP}{st:StP}(h:Chain opens) (he:(ifP W opens st).1=0):Chain (ifP W opens st).2:=by
 unfold ifP at he ⊢
 split at he
 ·simp at he
 ·rename_i h8
  rw [if_neg h8]
  split at he
  ·rename_i ho
   rw [if_pos ho]
   exact ⟨by rw [ho],h⟩
  ·rename_i ho
   rw [if_neg ho]
   split at he
   ·simp at he
   ·rename_i hl
    rw [if_neg hl]
    split at he
    ·rename_i hv
     exact absurd he hv
    ·rename_i hv
     rw [if_neg hv]
     exact ⟨by simp [Bool.not_eq_true] at ho;rw [ho],h⟩
theorem elseP_chain {W:WordsP}{opens:List OpenP}(h:Chain opens) (he:(elseP W opens).1=0):Chain (elseP W opens).2:=by
 cases opens with
 |nil=>simp [elseP] at he
 |cons o r =>
  simp only [elseP] at he ⊢
  split at he
  ·simp at he
  ·rename_i h1
   rw [if_neg h1]
   split at he
   ·simp at he
   ·rename_i h2
    rw [if_neg h2]
    exact h
theorem endifP_chain {W:WordsP}{opens:List OpenP}(h:Chain opens) (he:(endifP W opens).1=0):Chain (endifP W opens).2:=by
 cases opens with
 |nil=>simp [endifP] at he
 |cons o r =>
  simp only [endifP] at he ⊢
  split at he
  ·simp at he
  ·rename_i h1
   rw [if_neg h1]
   exact h.2
theorem doP_chain {call:MacP→WordsP→Nat→StP→Int×StP}{wi k:Nat}{W:WordsP}{opens:List OpenP}{st:StP}{ls:List (List UInt8)}(h:Chain opens) (he:(doP call wi k W opens st ls).1=0):Chain (doP call wi k W opens st ls).2.2.1:=by
 unfold doP at he ⊢
 by_cases h1:W.op=opIf
 ·rw [if_pos h1] at he ⊢;exact ifP_chain h he
 ·rw [if_neg h1] at he ⊢
  by_cases h2:W.op=opElse
  ·rw [if_pos h2] at he ⊢;exact elseP_chain h he
  ·rw [if_neg h2] at he ⊢
   by_cases h3:W.op=opEndif
   ·rw [if_pos h3] at he ⊢;exact endifP_chain h he
   ·rw [if_neg h3] at he ⊢
    by_cases h4:overP opens=true
    ·rw [if_pos h4] at he ⊢;exact h
    ·rw [if_neg h4] at he ⊢;exact h
theorem doP_at {call:MacP→WordsP→Nat→StP→Int×StP}{wi k:Nat}{W:WordsP}{opens:List OpenP}{st:StP}{ls:List (List UInt8)}(hw:0<wi):(doP call wi k W opens st ls).2.1=k:=by
 unfold doP
 split
 ·rfl
 ·split
  ·rfl
  ·split
   ·rfl
   ·split
    ·rfl
    ·show (otherP call wi k W st ls).2.1=k
     unfold otherP macR
     rw [if_pos hw]
     split
     ·rfl
     ·split
      ·rfl
      ·split
       ·rfl
       ·split<;>rfl
def headR (W:WordsP) (st:StP):Int×Option MacP:=
 if headBad W=true then (4,none) else match findM st.macros (W.operands.headD []) with
  |some _=>(5,none)
  |none=>(0,some ⟨W.operands.headD [],W.operands.tail,[]⟩)
theorem defP_head (W:WordsP) (st:StP):defP false W st=headR W st:=by
 unfold defP headR headBad
 by_cases h1:W.label=[]<;>by_cases h2:W.operands=[]<;>cases h3:allNames W.operands<;>cases h4:apartP W.operands.tail<;>simp [h1,h2]<;>(cases findM st.macros (W.operands.head?.getD [])<;>rfl)
theorem blockP_over (call:MacP→WordsP→Nat→StP→Int×StP) (sub:Option (List (List UInt8)×List (List UInt8))) (inc:Nat) (l:List UInt8) (r:List (List UInt8)) (at_:Nat) (opens:List OpenP) (st:StP) (ho:overP opens=true) :
  blockP call sub inc (l::r) at_ opens none st=if (passP (wordsP (cutL l)) opens st).1≠0 then ((passP (wordsP (cutL l)) opens st).1,at_+inc,st) else blockP call sub inc r (at_+inc) (passP (wordsP (cutL l)) opens st).2 none st:=by
 rw [blockP,if_pos ho]
theorem blockP_line (call:MacP→WordsP→Nat→StP→Int×StP) (sub:Option (List (List UInt8)×List (List UInt8))) (inc:Nat) (l:List UInt8) (r:List (List UInt8)) (at_:Nat) (opens:List OpenP) (st:StP) (ho:¬overP opens=true) (W:WordsP) (hW:readP sub false (cutL l)=(0,W)) :
  blockP call sub inc (l::r) at_ opens none st=if (lineP call sub.isSome W (at_+inc) opens st).1≠0 then ((lineP call sub.isSome W (at_+inc) opens st).1,at_+inc,st) else blockP call sub inc r (at_+inc) (lineP call sub.isSome W (at_+inc) opens st).2.1 (lineP call sub.isSome W (at_+inc) opens st).2.2.1 (lineP call sub.isSome W (at_+inc) opens st).2.2.2:=by
 rw [blockP,if_neg ho,hW,if_neg (fun h=>h rfl)]
theorem block_text (call:MacP→WordsP→Nat→StP→Int×StP) (ls:List (List UInt8)) (k:Nat) (hk:k<ls.length) (opens:List OpenP) (st:StP) (r:Int×Nat×List OpenP×StP) (hr:doP call 0 (k+1) (wordsP (cutL ls[k])) opens st ls=r) :
  (r.1≠0→(blockP call none 1 (ls.drop k) k opens none st).1=r.1∧(blockP call none 1 (ls.drop k) k opens none st).2.1=r.2.1) ∧
  (r.1=0→blockP call none 1 (ls.drop k) k opens none st=blockP call none 1 (ls.drop r.2.1) r.2.1 r.2.2.1 none r.2.2.2):=by
 rw [List.drop_eq_getElem_cons hk]
 obtain ⟨W,hW⟩:∃W,wordsP (cutL ls[k])=W:=⟨_,rfl⟩
 rw [hW] at hr
 unfold doP at hr
 by_cases ho:overP opens=true
 ·rw [blockP_over _ _ _ _ _ _ _ _ ho,hW]
  simp only [if_pos ho] at hr
  unfold passP
  by_cases h1:W.op=opIf
  ·simp only [if_pos h1] at hr ⊢
   subst hr
   exact ⟨fun h=>by rw [if_pos h];exact ⟨rfl,rfl⟩,fun h=>if_neg (fun c=>c h)⟩
  ·simp only [if_neg h1] at hr ⊢
   by_cases h2:W.op=opElse
   ·simp only [if_pos h2] at hr ⊢
    subst hr
    exact ⟨fun h=>by rw [if_pos h];exact ⟨rfl,rfl⟩,fun h=>if_neg (fun c=>c h)⟩
   ·simp only [if_neg h2] at hr ⊢
    by_cases h3:W.op=opEndif
    ·simp only [if_pos h3] at hr ⊢
     subst hr
     exact ⟨fun h=>by rw [if_pos h];exact ⟨rfl,rfl⟩,fun h=>if_neg (fun c=>c h)⟩
    ·simp only [if_neg h3] at hr ⊢
     subst hr
     exact ⟨fun h=>absurd rfl h,fun h=>if_neg (fun c=>c h)⟩
 ·rw [blockP_line _ _ _ _ _ _ _ _ ho W (by rw [←hW];simp [readP,cutL_twice])]
  simp only [if_neg ho] at hr
  simp only [Option.isSome_none]
  unfold lineP
  by_cases h1:W.op=opIf
  ·simp only [if_pos h1] at hr ⊢
   subst hr
   exact ⟨fun h=>by rw [if_pos h];exact ⟨rfl,rfl⟩,fun h=>if_neg (fun c=>c h)⟩
  ·simp only [if_neg h1] at hr ⊢
   by_cases h2:W.op=opElse
   ·simp only [if_pos h2] at hr ⊢
    subst hr
    exact ⟨fun h=>by rw [if_pos h];exact ⟨rfl,rfl⟩,fun h=>if_neg (fun c=>c h)⟩
   ·simp only [if_neg h2] at hr ⊢
    by_cases h3:W.op=opEndif
    ·simp only [if_pos h3] at hr ⊢
     subst hr
     exact ⟨fun h=>by rw [if_pos h];exact ⟨rfl,rfl⟩,fun h=>if_neg (fun c=>c h)⟩
    ·simp only [if_neg h3] at hr ⊢
     unfold otherP at hr
     by_cases h4:W.op=opMacro
     ·simp only [if_pos h4] at hr ⊢
      simp only [defP_head]
      unfold headR
      unfold macR at hr
      rw [if_neg (Nat.lt_irrefl 0)] at hr
      by_cases h5:headBad W=true
      ·simp only [if_pos h5] at hr ⊢
       subst hr
       exact ⟨fun h=>by rw [if_pos h];exact ⟨rfl,rfl⟩,fun h=>absurd h (by simp)⟩
      ·simp only [if_neg h5] at hr ⊢
       cases h6:findM st.macros (W.operands.headD []) with
       |some m =>
        simp only [h6] at hr ⊢
        subst hr
        exact ⟨fun h=>by rw [if_pos h];exact ⟨rfl,rfl⟩,fun h=>absurd h (by simp)⟩
       |none =>
        simp only [h6] at hr ⊢
        subst hr
        rw [if_neg (fun c=>c rfl),blockP_def]
        exact ⟨fun h=>by rw [if_pos h];exact ⟨rfl,rfl⟩,fun h=>by rw [if_neg (fun c=>c h),List.drop_drop]⟩
     ·simp only [if_neg h4] at hr ⊢
      by_cases h5:W.op=opEnd
      ·simp only [if_pos h5] at hr ⊢
       subst hr
       exact ⟨fun h=>by rw [if_pos h];exact ⟨rfl,rfl⟩,fun h=>absurd h (by simp)⟩
      ·simp only [if_neg h5] at hr ⊢
       by_cases h6:W.op=opSet
       ·simp only [if_pos h6] at hr ⊢
        subst hr
        exact ⟨fun h=>by rw [if_pos h];exact ⟨rfl,rfl⟩,fun h=>if_neg (fun c=>c h)⟩
       ·simp only [if_neg h6] at hr ⊢
        cases h7:findM st.macros W.op with
        |some m =>
         simp only [h7] at hr ⊢
         subst hr
         exact ⟨fun h=>by rw [if_pos h];exact ⟨rfl,rfl⟩,fun h=>if_neg (fun c=>c h)⟩
        |none =>
         simp only [h7] at hr ⊢
         subst hr
         exact ⟨fun h=>by rw [if_pos h];exact ⟨rfl,rfl⟩,fun h=>if_neg (fun c=>c h)⟩
theorem block_unread (call:MacP→WordsP→Nat→StP→Int×StP) (ps os:List (List UInt8)) (ls:List (List UInt8)) (j k:Nat) (hk:j<ls.length) (opens:List OpenP) (st:StP) (he:(readP (some (ps,os)) (overP opens) (cutL ls[j])).1≠0) :
  (blockP call (some (ps,os)) 0 (ls.drop j) k opens none st).1=(readP (some (ps,os)) (overP opens) (cutL ls[j])).1∧(blockP call (some (ps,os)) 0 (ls.drop j) k opens none st).2.1=k:=by
 rw [List.drop_eq_getElem_cons hk]
 cases ho:overP opens with
 |true=>rw [ho] at he;simp [readP] at he
 |false =>
  rw [ho] at he
  rw [blockP,if_neg (by rw [ho];decide),if_pos he]
  exact ⟨rfl,rfl⟩
theorem block_mac (call:MacP→WordsP→Nat→StP→Int×StP) (ps os:List (List UInt8)) (ls:List (List UInt8)) (wi j k:Nat) (hw:0<wi) (hk:j<ls.length) (hcut:cutL ls[j]=ls[j]) (opens:List OpenP) (st:StP) (he:(readP (some (ps,os)) (overP opens) (cutL ls[j])).1=0) (xs:List (List UInt8)) (r:Int×Nat×List OpenP×StP) (hr:doP call wi k (readP (some (ps,os)) (overP opens) (cutL ls[j])).2 opens st xs=r) :
  (r.1≠0→(blockP call (some (ps,os)) 0 (ls.drop j) k opens none st).1=r.1∧(blockP call (some (ps,os)) 0 (ls.drop j) k opens none st).2.1=k) ∧
  (r.1=0→blockP call (some (ps,os)) 0 (ls.drop j) k opens none st=blockP call (some (ps,os)) 0 (ls.drop (j+1)) k r.2.2.1 none r.2.2.2):=by
 rw [List.drop_eq_getElem_cons hk]
 unfold doP at hr
 by_cases ho:overP opens=true
 ·have hW:(readP (some (ps,os)) (overP opens) (cutL ls[j])).2=wordsP (cutL ls[j]):=by
   rw [ho];simp only [readP,hcut]
  rw [hW] at hr
  rw [blockP_over _ _ _ _ _ _ _ _ ho]
  generalize wordsP (cutL ls[j])=W at hr
  simp only [if_pos ho] at hr
  unfold passP
  by_cases h1:W.op=opIf
  ·simp only [if_pos h1] at hr ⊢
   subst hr
   exact ⟨fun h=>by rw [if_pos h];exact ⟨rfl,rfl⟩,fun h=>if_neg (fun c=>c h)⟩
  ·simp only [if_neg h1] at hr ⊢
   by_cases h2:W.op=opElse
   ·simp only [if_pos h2] at hr ⊢
    subst hr
    exact ⟨fun h=>by rw [if_pos h];exact ⟨rfl,rfl⟩,fun h=>if_neg (fun c=>c h)⟩
   ·simp only [if_neg h2] at hr ⊢
    by_cases h3:W.op=opEndif
    ·simp only [if_pos h3] at hr ⊢
     subst hr
     exact ⟨fun h=>by rw [if_pos h];exact ⟨rfl,rfl⟩,fun h=>if_neg (fun c=>c h)⟩
    ·simp only [if_neg h3] at hr ⊢
     subst hr
     exact ⟨fun h=>absurd rfl h,fun h=>if_neg (fun c=>c h)⟩
 ·have ho':overP opens=false:=by simpa using ho
  simp only [if_neg ho] at hr
  rw [ho'] at hr he
  obtain ⟨W,hW⟩:∃W,(readP (some (ps,os)) false (cutL ls[j])).2=W:=⟨_,rfl⟩
  rw [hW] at hr
  rw [blockP_line _ _ _ _ _ _ _ _ ho W (Prod.ext he hW)]
  simp only [Option.isSome_some,Nat.add_zero]
  unfold lineP
  by_cases h1:W.op=opIf
  ·simp only [if_pos h1] at hr ⊢
   subst hr
   exact ⟨fun h=>by rw [if_pos h];exact ⟨rfl,rfl⟩,fun h=>if_neg (fun c=>c h)⟩
  ·simp only [if_neg h1] at hr ⊢
   by_cases h2:W.op=opElse
   ·simp only [if_pos h2] at hr ⊢
    subst hr
    exact ⟨fun h=>by rw [if_pos h];exact ⟨rfl,rfl⟩,fun h=>if_neg (fun c=>c h)⟩
   ·simp only [if_neg h2] at hr ⊢
    by_cases h3:W.op=opEndif
    ·simp only [if_pos h3] at hr ⊢
     subst hr
     exact ⟨fun h=>by rw [if_pos h];exact ⟨rfl,rfl⟩,fun h=>if_neg (fun c=>c h)⟩
    ·simp only [if_neg h3] at hr ⊢
     unfold otherP at hr
     by_cases h4:W.op=opMacro
     ·simp only [if_pos h4] at hr ⊢
      unfold macR at hr
      rw [if_pos hw] at hr
      simp only [defP,if_true]
      subst hr
      exact ⟨fun h=>by rw [if_pos h];exact ⟨rfl,rfl⟩,fun h=>absurd h (by simp)⟩
     ·simp only [if_neg h4] at hr ⊢
      by_cases h5:W.op=opEnd
      ·simp only [if_pos h5] at hr ⊢
       subst hr
       exact ⟨fun h=>by rw [if_pos h];exact ⟨rfl,rfl⟩,fun h=>absurd h (by simp)⟩
      ·simp only [if_neg h5] at hr ⊢
       by_cases h6:W.op=opSet
       ·simp only [if_pos h6] at hr ⊢
        subst hr
        exact ⟨fun h=>by rw [if_pos h];exact ⟨rfl,rfl⟩,fun h=>if_neg (fun c=>c h)⟩
       ·simp only [if_neg h6] at hr ⊢
        cases h7:findM st.macros W.op with
        |some m =>
         simp only [h7] at hr ⊢
         subst hr
         exact ⟨fun h=>by rw [if_pos h];exact ⟨rfl,rfl⟩,fun h=>if_neg (fun c=>c h)⟩
        |none =>
         simp only [h7] at hr ⊢
         subst hr
         exact ⟨fun h=>by rw [if_pos h];exact ⟨rfl,rfl⟩,fun h=>if_neg (fun c=>c h)⟩
theorem WOk.line {l:List UInt8}(h:l.length≤100):WOk (wordsP (cutL l)):=⟨l,h,rfl⟩
theorem WOk.read {sub:Option (List (List UInt8)×List (List UInt8))}{ov:Bool}{l:List UInt8}(h:l.length≤100):WOk (readP sub ov l).2:=by
 unfold readP
 split
 ·rename_i ps os
  split
  ·exact ⟨[],by simp,by rfl⟩
  ·rename_i hz
   refine ⟨(filledP ps os l).2,?_,rfl⟩
   unfold filledP at hz ⊢
   cases hf:fillP ps os l.length l with
   |none=>rw [hf] at hz;simp at hz
   |some t =>
    simp only [hf] at hz ⊢
    split at hz
    ·simp at hz
    ·rename_i h80
     rw [if_neg h80]
     show t.length≤100
     omega
 ·exact ⟨l,h,rfl⟩
section
attribute [local go_sem ↓] Go.wp_at_zero Go.wp_at_succ
def GoPost (B be bt wi:Nat) (M:List Nat) (r:Int×Nat×StP) (w:World) (e:Ending) (w':World):Prop:=
 e=.returned (.int .i64 r.1)∧Fr B M w w'∧NumAt w' be bt wi r.2.1∧(r.1=0→ExpSt w' B be bt wi r.2.1 r.2.2∧StOk r.2.2 r.2.1)
theorem doP_ge {call:MacP→WordsP→Nat→StP→Int×StP}{wi k:Nat}{W:WordsP}{opens:List OpenP}{st:StP}{ls:List (List UInt8)}:k≤(doP call wi k W opens st ls).2.1:=by
 unfold doP
 split
 ·exact Nat.le_refl _
 ·split
  ·exact Nat.le_refl _
  ·split
   ·exact Nat.le_refl _
   ·split
    ·exact Nat.le_refl _
    ·show k≤(otherP call wi k W st ls).2.1
     unfold otherP
     split
     ·unfold macR
      split
      ·exact Nat.le_refl _
      ·split
       ·exact Nat.le_refl _
       ·split
        ·exact Nat.le_refl _
        ·exact Nat.le_add_right _ _
     ·split
      ·exact Nat.le_refl _
      ·split
       ·exact Nat.le_refl _
       ·split<;>exact Nat.le_refl _
theorem blockP_nil (call:MacP→WordsP→Nat→StP→Int×StP) (sub:Option (List (List UInt8)×List (List UInt8))) (inc at_:Nat) (opens:List OpenP) (st:StP) :
  blockP call sub inc [] at_ opens none st=if opens=[] then (0,at_,st) else (2,at_,st):=by
 rw [blockP];simp
theorem StOk.later {st:StP}{k:Nat}(h:StOk st k) {j:Nat}(hk:k≤j) (hj:j≤3001):StOk st j:=⟨h.macs,h.names,h.out,h.calls,Nat.le_trans h.few hk,hj⟩
set_option maxRecDepth 100000 in
set_option maxHeartbeats 800000 in
theorem goT_any (hcall:CallOk 8) (w:World) (B be bt:Nat) (st0:StP) (lv:Value) (ls:List ByteArray)
  (h:ExpSt w B be bt 0 0 st0) (hra:ReadAt w B 74 bt (.slice none 0 0) lv ls 0 [] []) (hls:∀i (hi:i<ls.length),ls[i].size≤100) (hok:StOk st0 0) (hm:MaxAt w) (hgB:0<B) (hB:B≤w.heap.size) (hbt:B≤bt) (R:Int×Nat×StP) (hR:blockP (callN 8) none 1 (ls.map L) 0 [] none st0=R) :
  Calls Tryz.prog 31 #[.pointer (some ⟨be,0,none⟩),.iface 69 (.pointer (some ⟨bt,0,none⟩))] w (GoPost B be bt 0 [bt] R w):=by
 have hrd:Rd 69 74:=Or.inl ⟨rfl,rfl⟩
 have hfew:=hra.few
 have m1:=fun w=>ask_more hrd bt w
 have m2:=fun w=>ask_lread bt w
 have m3:=fun w=>ask_depth hrd bt w
 have HS:=hid h
 have HRA:=hid hra
 have HLS:=hid hls
 have HOK:=hid hok
 have HM:=hid hm
 have HR:=hid hR
 clear h hra hls hok hm hR
 go_enter Tryz.func31,Tryz.ntmps31
 go_wp2_with fail
 go_loopg [4] (ls.length+1) (fun q x wr=>∃(k:Nat) (opens:List OpenP) (st:StP) (v:Value),q+k=ls.length+1∧ExpSt wr B be bt 0 k st∧ReadAt wr B 74 bt v lv ls k [] opens∧Chain opens∧StOk st k∧Fr B [bt] w wr∧(∀g,v.ownBlock=some g→w.heap.size≤g)∧blockP (callN 8) none 1 ((ls.map L).drop k) k opens none st=R)
 case atStart=>exact ⟨0,[],st0,.slice none 0 0,by simp,HS.out,HRA.out,trivial,HOK.out,Fr.refl _ _ _,(fun g hg=>by cases hg),HR.out⟩
 case round =>
  obtain ⟨k,opens,st,v,hq,hs,hra,hch,hok,hfr,hvn,hbr⟩:=hrel
  have HS:=hid hs
  have HRA:=hid hra
  have HCH:=hid hch
  have HOK:=hid hok
  have HFR:=hid hfr
  have HVN:=hid hvn
  have HBR:=hid hbr
  have HMr:=hid (HM.out.fr hfr hgB)
  have hBr:B≤wr.heap.size:=Nat.le_trans hB hfr.size
  have hop8:=hra.cond.few
  clear hs hra hch hok hfr hvn hbr
  go_wp2_with fail
  refine (more_any _ B _ bt v lv ls k [] opens HRA.out).mono ?_
  by_cases hlt:k<ls.length
  ·rw [decide_eq_true hlt]
   rintro e w1 ⟨rfl,hb1⟩
   have HS:=hid (HS.out.below hb1)
   have HRA:=hid (HRA.out.below hb1)
   have HFR:=hid (HFR.out.trans (Fr.of_below hb1))
   have HMr:=hid (HMr.out.below hb1)
   have hBr:B≤w1.heap.size:=Nat.le_trans hBr hb1.size
   clear hb1
   have hls:=HLS.out k hlt
   go_wp2_with fail
   refine (lread_any _ B _ bt v lv ls k [] opens HRA.out hlt (by decide) (by decide) (by decide) rfl hbt (by omega) HMr.out hgB).mono ?_
   rintro e w2 ⟨lb,op,va,vc,os,rfl,hpv,hra,hfr⟩
   have HS:=hid (HS.out.frc hfr ⟨_,hra.cond.row,rfl⟩:ExpSt w2 B be bt 0 (k+1) st)
   have HRA:=hid hra
   have HFR:=hid (HFR.out.trans hfr.to)
   have HMr:=hid (HMr.out.fr hfr hgB)
   have hBr:B≤w2.heap.size:=Nat.le_trans hBr hfr.size
   have HPV:=hid hpv
   clear hpv hra hfr
   have hb4:Below w2.heap.size w2 (w2.alloc (.cells #[.string lb,.string op,.slice va os.length vc] 101)):=(Below.refl _ _).alloc (Nat.le_refl _) _
   have HS:=hid (HS.out.below hb4)
   have HRA:=hid (HRA.out.below hb4)
   have HFR:=hid (HFR.out.trans (Fr.of_below hb4))
   have HMr:=hid (HMr.out.below hb4)
   have HPV:=hid (HPV.out.below hb4)
   have hBr:=Nat.le_trans hBr hb4.size
   clear hb4
   go_wp2_with fail
   refine (do_any 8 hcall _ B be bt 0 (k+1) _ _ bt (k+1) st v lv ls [] opens lb op va vc os _ 0 rfl (Or.inl ⟨rfl,rfl,rfl,rfl,rfl⟩) HS.out HRA.out HCH.out HPV.out (WOk.line (by rw [L_length];exact hls)) HLS.out (HOK.out.later (Nat.le_succ k) (by omega)) HMr.out hgB hBr hbt hbt).mono ?_
   obtain ⟨r,hr⟩:∃r,doP (callN 8) 0 (k+1) (wordsP (cutL (L ls[k]))) opens st (ls.map L)=r:=⟨_,rfl⟩
   have hge:k+1≤r.2.1:=by rw [←hr];exact doP_ge
   have hcr:r.1=0→Chain r.2.2.1:=by rw [←hr];exact doP_chain HCH.out
   have hbt2:=block_text (callN 8) (ls.map L) k (by simpa using hlt) opens st r (by rw [List.getElem_map];exact hr)
   rw [hr]
   have HCR:=hid hcr
   have HBT:=hid hbt2
   clear hr hcr hbt2
   rintro e w3 ⟨rfl,hf3,hn3,hs3⟩
   have HF3:=hid (HFR.out.trans' hf3 (fun i hi=>by
    unfold condM at hi
    rcases List.mem_cons.1 hi with h1|h1
    ·exact Or.inl (by rw [h1];simp)
    ·exact Or.inr (HVN.out i (by cases hv:v.ownBlock with
      |none=>rw [hv] at h1;cases h1
      |some g=>rw [hv] at h1;simp at h1;rw [h1]))))
   have HN3:=hid hn3
   have HS3:=hid hs3
   have hsz:=HFR.out.size
   clear hf3 hn3 hs3
   by_cases h0:r.1=0
   ·have k0:decide (r.1=0)=true:=decide_eq_true h0
    go_wp2_with fail
    go_roundg (ls.length+1-r.2.1)
    case measure=>omega
    case rel =>
     obtain ⟨h1,h2,v',h3,h4⟩:=HS3.out h0
     refine ⟨r.2.1,r.2.2.1,r.2.2.2,v',?_,h1,h4,HCR.out h0,h2,HF3.out,fun g hg=>?_,?_⟩
     ·have:=h4.le;have e1:nextJ 0 r.2.1 (k+1)=r.2.1:=rfl;rw [e1] at this;omega
     ·rcases h3 g hg with h5|h5
      ·exact HVN.out g h5
      ·omega
     ·rw [←HBT.out.2 h0];exact HBR.out
   ·have k0:decide (r.1=0)=false:=decide_eq_false h0
    go_wp2_with fail
    go_ret
    obtain ⟨h1,h2⟩:=HBT.out.1 h0
    rw [HBR.out] at h1 h2
    refine ⟨by rw [h1];rfl,HF3.out,by rw [h2];exact HN3.out,fun h5=>absurd (h1.symm.trans h5) h0⟩
  ·rw [decide_eq_false hlt]
   have hbr:=HBR.out
   rw [List.drop_eq_nil_of_le (by simp;omega),blockP_nil] at hbr
   rintro e w1 ⟨rfl,hb1⟩
   have HBR:=hid hbr
   have HS:=hid (HS.out.below hb1)
   have HRA:=hid (HRA.out.below hb1)
   have HFR:=hid (HFR.out.trans (Fr.of_below hb1))
   clear hbr hb1
   go_wp2_with fail
   refine (depth_any _ B _ bt v _ opens HRA.out.cond).mono ?_
   rintro e w2 ⟨rfl,rfl⟩
   by_cases ho:opens=[]
   ·subst ho
    have hbr:=HBR.out
    rw [if_pos rfl] at hbr
    subst hbr
    go_wp2_with fail
    go_ret
    exact ⟨rfl,HFR.out,HS.out.num,fun _=>⟨HS.out,HOK.out⟩⟩
   ·have hbr:=HBR.out
    rw [if_neg ho] at hbr
    subst hbr
    have hl:0<opens.length:=List.length_pos_iff.2 ho
    have k0:decide ((opens.length:Int) > 0)=true:=decide_eq_true (by omega)
    clear ho
    go_wp2_with fail
    go_ret
    exact ⟨rfl,HFR.out,HS.out.num,fun h=>by cases h⟩
end
end Go.Proofs.YtcepppilgncdmaaGreatDoor
