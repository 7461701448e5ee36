/-
  Joined: QGoT QLines PThm.
-/
import Derived.Test.YtcepppilgncdmaaGreatDoorBX33
namespace Go.Proofs.YtcepppilgncdmaaGreatDoor
open Go.RowKit
section
attribute [local go_sem ↓] Go.wp_at_zero Go.wp_at_succ
theorem coll_end {d:MacP}{l:List UInt8}{st:StP}(h:(collP d l st).2.1=none) (h0:(collP d l st).1=0):(collP d l st).2.2={ st with macros:=st.macros++[d] }:=by
 unfold collP at h h0 ⊢
 split at h0
 ·cases h0
 rename_i h1;rw [if_neg h1] at h ⊢
 split at h0
 ·rename_i h2
  rw [if_pos h2]
  split at h0
  ·rename_i h3;rw [if_pos h3]
  ·cases h0
 ·rename_i h2;rw [if_neg h2] at h;cases h
theorem coll_mid {d d':MacP}{l:List UInt8}{st:StP}(h:(collP d l st).2.1=some d'):d'={ d with lines:=d.lines++[l] }∧(collP d l st).2.2=st:=by
 unfold collP at h ⊢
 split at h
 ·cases h
 rename_i h1;rw [if_neg h1]
 split at h
 ·split at h<;>cases h
 rename_i h2;rw [if_neg h2]
 injection h with h
 exact ⟨h.symm,rfl⟩
set_option maxRecDepth 100000 in
set_option maxHeartbeats 6400000 in
theorem goesT_any (w:World) (B x r:Nat) (lv pv:Value) (ls:List ByteArray) (hrow:RowT w 130 x [lv,.int .i64 0,.pointer none,pv,.int .i64 0,.slice none 0 0,.pointer none]) (hBx:B≤x) (hst:RdSt w B r noSt) (hls:StrV w 0 lv ls) (hlen:ls.length≤3001) (hsz:∀j (h:j<ls.length),ls[j].size≤100) (hB:B≤w.heap.size) :
  Calls Tryz.prog 62 #[.pointer (some ⟨x,0,none⟩),.pointer (some ⟨r,0,none⟩)] w (TPost w B r (blockP (callN 8) none 1 (ls.map L) 0 [] none noSt)):=by
 obtain ⟨R,hR⟩:∃R,blockP (callN 8) none 1 (ls.map L) 0 [] none noSt=R:=⟨_,rfl⟩
 rw [hR]
 have HC:=hid (goes_all 8 (Nat.le_refl _)).1
 have HI:=hid (show TInv w B x r lv pv ls R 0 w from Or.inl ⟨.slice none 0 0,[],noSt,⟨hrow,World.ownsRow_nil _ _ _ _,by simp,hBx⟩,hst,⟨(fun m hm=>by cases hm),Nat.zero_le _,Nat.zero_le _,Nat.zero_le _,Nat.zero_le _,Nat.zero_le _⟩,hls,Below.refl _ _,by rw [List.drop_zero];exact hR.symm⟩)
 have HSZ:=hid hsz
 have c1:w.cell? ⟨x,1,none⟩=some (.int .i64 0):=hrow.cell 1 (by simp)
 obtain ⟨ba,bc,hbv⟩:=hls.form
 subst hbv
 clear hR hrow hst hls hsz
 go_enter Tryz.func62,Tryz.ntmps62
 go_wp2_with fail
 go_loopw [4,5] (fun a i wr=>∃j aN:Nat,j≤ls.length∧a=.int .i64 (aN:Nat)∧i=.int .i64 j∧((aN=j∧TInv w B x r (.slice ba ls.length bc) pv ls R j wr)∨TErr w B x r (.slice ba ls.length bc) pv R wr)) (fun _ i _=>ls.length-(intOf i).toNat)
 case atStart=>exact ⟨0,0,Nat.zero_le _,rfl,rfl,Or.inl ⟨rfl,HI.out⟩⟩
 case round =>
  obtain ⟨j,aN,hj,rfl,rfl,hinv⟩:=hrel
  clear c1 HI
  rcases hinv with ⟨haj,hinv⟩|⟨h0,hre,hbr,hbw⟩
  ·obtain rfl:j=aN:=haj.symm
   rcases hinv with ⟨vo,opens,st1,hk,hst,hok1,hstr,hbw,hRe⟩|⟨w0,vo,opens,st1,gd,nm,qv,ps,dl,bs,hk0,hst0,⟨i1,hi1,hok1⟩,hstr0,hbw0,hkp,hrowx,hdef,hmac,hbsj,hRe⟩
   ·have c0:wr.cell? ⟨x,0,none⟩=some (.slice ba ls.length bc):=hk.row.cell 0 (by simp)
    have c2:wr.cell? ⟨x,2,none⟩=some (.pointer none):=hk.row.cell 2 (by simp)
    have c6:wr.cell? ⟨x,6,none⟩=some (.pointer none):=hk.row.cell 6 (by simp)
    have c5:wr.cell? ⟨x,5,none⟩=some vo:=hk.row.cell 5 (by simp)
    obtain ⟨_,_,_,_,_,_,_,hxa,hste⟩:=id hst
    have e4:wr.cell? ⟨r,4,none⟩=some (.int .i64 0):=hxa.row.cell 4 (by simp)
    have HK:=hid hk
    have HST:=hid hst
    have HOK:=hid hok1
    have HSTR:=hid hstr
    have HBW:=hid hbw
    have HXA:=hid hxa
    have hBr:B≤wr.heap.size:=Nat.le_trans hB hbw.size
    clear hk hst hok1 hstr hbw hxa hste
    by_cases hlt:j<ls.length
    ·have kd:decide ((j:Int)<ls.length)=true:=by simp;omega
     have ij0:(0:Int)≤(j:Int):=Int.natCast_nonneg _
     have ij1:(j:Int)<(ls.length:Int):=by omega
     obtain ⟨bl,offl,cl,hv,hbll,cj⟩:=HSTR.out.cell j hlt
     injection hv with hv1 _ hv2
     subst hv1 hv2
     have hl1:=HSZ.out j hlt
     rw [List.drop_eq_getElem_cons hlt,List.map_cons] at hRe
     obtain ⟨l,hl⟩:∃l,ls[j]=l:=⟨_,rfl⟩
     rw [hl] at cj hl1 hRe
     clear hl
     simp only [blockP,readP,cutL_id (cutL_noSemi (L l))] at hRe
     have HCUT:=hid (cut_any l wr (by unfold maxLen;omega))
     have HOV:=hid (over_any wr B x _ _ _ _ _ vo _ opens HK.out)
     have HRE:=hid hRe
     clear hRe
     obtain ⟨ov2,hov2⟩:∃o,overP opens=o:=⟨_,rfl⟩
     rw [hov2] at HOV HRE
     cases ov2 with
     |true =>
      have hre:R=if (passP (wordsP (cutL (L l))) opens st1).1≠0 then ((passP (wordsP (cutL (L l))) opens st1).1,j+1,st1) else blockP (callN 8) none 1 ((ls.drop (j+1)).map L) (j+1) (passP (wordsP (cutL (L l))) opens st1).2 none st1:=HRE.out
      clear HRE
      have HRE:=hid hre
      clear hre
      go_wp2_with (first|(go_at_call 88;refine HCUT.out.mono ?_;rintro e w' ⟨t,ht,hts,rfl,hw'⟩;obtain rfl:=hw'.symm)|(go_at_call 89;refine HOV.out.mono ?_;rintro e w' ⟨rfl,hw'⟩;obtain rfl:=hw'.symm))
      rw [show ((j:Int)+1)=((j+1:Nat):Int) from by omega]
      have hpa:=passes_any wr B x r _ _ _ _ _ vo opens (j+1) st1 t j HK.out HST.out (by omega) (by rw [ht];exact cutL_noSemi _) HOK.out hBr
      rw [ht] at hpa
      refine hpa.mono ?_
      clear hpa
      rintro e w4 ⟨rfl,hp2,hp3,hp4⟩
      have hb4:Below B w w4:=HBW.out.trans (hp2.below hBr)
      have HNI:=hid (show TInv w B x r (.slice (some ⟨bl,offl,none⟩) ls.length bc) pv ls R (j+1) w4∨TErr w B x r (.slice (some ⟨bl,offl,none⟩) ls.length bc) pv R w4 by
       by_cases h0:(passP (wordsP (cutL (L l))) opens st1).1=0
       ·obtain ⟨⟨vo',hk',hg'⟩,hr'⟩:=hp3 h0
        refine Or.inl (Or.inl ⟨vo',_,st1,hk',hr',HOK.out.later (by omega) (by omega),HSTR.out.fq hp2,hb4,?_⟩)
        have h6:=HRE.out
        rw [if_neg (by simp [h0])] at h6
        exact h6
       ·have h6:=HRE.out
        rw [if_pos h0] at h6
        rw [h6]
        exact Or.inr ⟨h0,(hp4 h0).1,(hp4 h0).2,hb4⟩)
      clear hp2 hp3 hp4 hb4 ht hts
      go_wp2_with fail
      go_roundw
      case rel=>exact ⟨j+1,j+1,by omega,rfl,by go_num,HNI.out.imp (fun h=>⟨rfl,h⟩) id⟩
      case measure=>simp [intOf];omega
     |false =>
      have hre:R=if (lineP (callN 8) false (wordsP (cutL (L l))) (j+1) opens st1).1≠0 then ((lineP (callN 8) false (wordsP (cutL (L l))) (j+1) opens st1).1,j+1,st1) else blockP (callN 8) none 1 ((ls.drop (j+1)).map L) (j+1) (lineP (callN 8) false (wordsP (cutL (L l))) (j+1) opens st1).2.1 (lineP (callN 8) false (wordsP (cutL (L l))) (j+1) opens st1).2.2.1 (lineP (callN 8) false (wordsP (cutL (L l))) (j+1) opens st1).2.2.2:=HRE.out
      clear HRE
      have HRE:=hid hre
      clear hre
      go_wp2_with (first|(go_at_call 88;refine HCUT.out.mono ?_;rintro e w' ⟨t,ht,hts,rfl,hw'⟩;obtain rfl:=hw'.symm)|(go_at_call 89;refine HOV.out.mono ?_;rintro e w' ⟨rfl,hw'⟩;obtain rfl:=hw'.symm))
      rw [show ((j:Int)+1)=((j+1:Nat):Int) from by omega]
      have hdo:=does_any 8 HC.out wr B x r (.slice (some ⟨bl,offl,none⟩) ls.length bc) (.int .i64 0) pv vo none opens (j+1) st1 t j HK.out HST.out (by omega) (by rw [ht];exact cutL_noSemi _) HOK.out hBr
      rw [ht] at hdo
      refine hdo.mono ?_
      clear hdo
      rintro e w4 ⟨rfl,hp2,hp3,hp4⟩
      have HNI:=hid (show TInv w B x r (.slice (some ⟨bl,offl,none⟩) ls.length bc) pv ls R (j+1) w4∨TErr w B x r (.slice (some ⟨bl,offl,none⟩) ls.length bc) pv R w4 by
       by_cases h0:(lineP (callN 8) false (wordsP (cutL (L l))) (j+1) opens st1).1=0
       ·have h6:=HRE.out
        rw [if_neg (by simp [h0])] at h6
        cases hdf:(lineP (callN 8) false (wordsP (cutL (L l))) (j+1) opens st1).2.2.1 with
        |none =>
         obtain ⟨hf4,⟨vo',hk',hg'⟩,hr'⟩:=hp3 h0 hdf
         rw [hdf] at h6
         exact Or.inl (Or.inl ⟨vo',_,_,hk',hr',(line_ok (call_ok 8 j) HOK.out h0).later (by omega) (by omega),HSTR.out.fq hf4,HBW.out.trans (hf4.below hBr),h6⟩)
        |some d =>
         obtain ⟨q1,q2,w1,gd,nm,qv,ps,hb1,rfl,hkp,hrx,hgd,hrm,hqs,hlt1⟩:=hp4 h0 d hdf
         have hmo:=line_def ⟨L l,by rw [L_length];exact hl1,rfl⟩ hdf
         have q1':(lineP (callN 8) false (wordsP (cutL (L l))) (j+1) opens st1).2.1=opens:=q1
         have q2':(lineP (callN 8) false (wordsP (cutL (L l))) (j+1) opens st1).2.2.2=st1:=q2
         rw [hdf,q1',q2'] at h6
         exact Or.inl (Or.inr ⟨w1,vo,opens,st1,gd,nm,qv,ps,.slice none 0 0,[],HK.out.below hb1,HST.out.below hb1,⟨j,by omega,HOK.out⟩,HSTR.out.below hb1,HBW.out.trans (hb1.mono hBr),hkp,hrx,⟨hrm,hgd,hqs,World.ownsRow_nil _ _ _ _,hlt1⟩,hmo,Nat.zero_le _,h6⟩)
       ·have h6:=HRE.out
        rw [if_pos h0] at h6
        rw [h6]
        exact Or.inr ⟨h0,(hp2 h0).2.1,(hp2 h0).2.2,HBW.out.trans ((hp2 h0).1.below hBr)⟩)
      clear hp2 hp3 hp4 ht hts
      go_wp2_with fail
      go_roundw
      case rel=>exact ⟨j+1,j+1,by omega,rfl,by go_num,HNI.out.imp (fun h=>⟨rfl,h⟩) id⟩
      case measure=>simp [intOf];omega
    ·have kd:decide ((j:Int)<ls.length)=false:=by simp;omega
     rw [List.drop_eq_nil_of_le (by omega),List.map_nil] at hRe
     simp only [blockP,Option.isNone_none,and_true] at hRe
     obtain ⟨av,cv,hvv⟩:=own_form HK.out.own
     subst hvv
     by_cases hop:opens=[]
     ·rw [if_pos hop] at hRe
      subst hop
      have HRE:=hid hRe
      clear hRe
      go_wp2_with fail
      first|go_end0|refine bodyPost_ret (results_none rfl _ _ _) rfl ?_
      rw [HRE.out]
      exact ⟨rfl,HBW.out,fun _=>HST.out,fun c=>absurd rfl c⟩
     ·rw [if_neg hop] at hRe
      have hlo:0<opens.length:=List.length_pos_iff.2 hop
      have ko:decide ((0:Int)<opens.length)=true:=by simp;omega
      have HRE:=hid hRe
      clear hRe hop
      go_wp2_with (first|(go_at_call 60;refine (bad_any _ r _ _ _ _ _ 2 j HXA.out.row).mono ?_;rintro e w4 ⟨rfl,rfl⟩))
      first|go_end0|refine bodyPost_ret (results_none rfl _ _ _) rfl ?_
      obtain ⟨p1,p2⟩:=bad_post (er:=2) (at_:=j) HXA.out.row HXA.out.at_
      rw [HRE.out]
      exact ⟨rfl,HBW.out.trans (p1.below hBr),(fun c=>by cases c),fun _=>p2⟩
   ·have hkB:BkAt wr B x (.slice ba ls.length bc) (.int .i64 0) (.pointer none) pv (.int .i64 0) vo (.pointer (some ⟨gd,0,none⟩)) opens:=⟨hrowx,ownsRow_keeps hk0.own hkp (fun g hg=>by have h9:=own_row_ne hk0.own hk0.row (by decide);simp only [List.mem_singleton];intro e;exact h9 (by rw [hg,e])),hk0.few,hk0.at_⟩
    obtain ⟨vm,vn,vl,ms,ns,outs,calls,hxa0,hste⟩:=hst0
    have hxa:=hxa0.keeps hkp hk0.row
    have HST:=hid (show RdSt wr B r st1 from ⟨vm,vn,vl,ms,ns,outs,calls,hxa,hste⟩)
    have HSTR:=hid (hstr0.keepsQ hkp (fun b cur hb=>by simpa using RowT.notStr hk0.row (by decide) b cur hb))
    have hBw:B≤w0.heap.size:=Nat.le_trans hB hbw0.size
    have HBW:=hid (hbw0.trans (hkp.below hBw (fun q hq=>by rw [List.mem_singleton.1 hq];exact hBx)))
    have hBr:B≤wr.heap.size:=Nat.le_trans hB HBW.out.size
    have c0:wr.cell? ⟨x,0,none⟩=some (.slice ba ls.length bc):=hkB.row.cell 0 (by simp)
    have c2:wr.cell? ⟨x,2,none⟩=some (.pointer none):=hkB.row.cell 2 (by simp)
    have c6:wr.cell? ⟨x,6,none⟩=some (.pointer (some ⟨gd,0,none⟩)):=hkB.row.cell 6 (by simp)
    have c5:wr.cell? ⟨x,5,none⟩=some vo:=hkB.row.cell 5 (by simp)
    have e4:wr.cell? ⟨r,4,none⟩=some (.int .i64 0):=hxa.row.cell 4 (by simp)
    have HK:=hid hkB
    have HXA:=hid hxa
    have HK0:=hid hk0
    have HST0:=hid (show RdSt w0 B r st1 from ⟨vm,vn,vl,ms,ns,outs,calls,hxa0,hste⟩)
    have HOK:=hid hok1
    have HSTR0:=hid hstr0
    have HBW0:=hid hbw0
    have HKP:=hid hkp
    have HDEF:=hid hdef
    have HMAC:=hid hmac
    have HRX:=hid hrowx
    have HRE:=hid hRe
    clear hkB hxa hxa0 hste hk0 hok1 hstr0 hbw0 hkp hdef hmac hrowx hRe
    by_cases hlt:j<ls.length
    ·have kd:decide ((j:Int)<ls.length)=true:=by simp;omega
     have ij0:(0:Int)≤(j:Int):=Int.natCast_nonneg _
     have ij1:(j:Int)<(ls.length:Int):=by omega
     obtain ⟨bl,offl,cl,hv,hbll,cj⟩:=HSTR.out.cell j hlt
     injection hv with hv1 _ hv2
     subst hv1 hv2
     have hl1:=HSZ.out j hlt
     have hRe:=HRE.out
     clear HRE
     rw [List.drop_eq_getElem_cons hlt,List.map_cons] at hRe
     obtain ⟨l,hl⟩:∃l,ls[j]=l:=⟨_,rfl⟩
     rw [hl] at cj hl1 hRe
     clear hl
     simp only [blockP] at hRe
     have HCUT:=hid (cut_any l wr (by unfold maxLen;omega))
     have HOV:=hid (over_any wr B x _ _ _ _ _ vo _ opens HK.out)
     have HRE:=hid hRe
     clear hRe
     go_wp2_with (first|(go_at_call 88;refine HCUT.out.mono ?_;rintro e w' ⟨t,ht,hts,rfl,hw'⟩;obtain rfl:=hw'.symm)|(go_at_call 89;refine HOV.out.mono ?_;rintro e w' ⟨rfl,hw'⟩;obtain rfl:=hw'.symm))
     rw [show ((j:Int)+1)=((j+1:Nat):Int) from by omega]
     have hco:=collects_any wr B x r w0.heap.size _ _ _ _ _ vo opens (j+1) gd nm qv ps dl bs st1 t i1 HK.out HST.out HDEF.out HKP.out.size (by omega) (by omega) HOK.out hBr
     rw [ht] at hco
     refine hco.mono ?_
     clear hco
     rintro e w4 ⟨rfl,hp2,hp3⟩
     have HNI:=hid (show TInv w B x r (.slice (some ⟨bl,offl,none⟩) ls.length bc) pv ls R (j+1) w4∨TErr w B x r (.slice (some ⟨bl,offl,none⟩) ls.length bc) pv R w4 by
      by_cases h0:(collP ⟨L nm,ps.map L,bs.map L⟩ (cutL (L l)) st1).1=0
      ·have h6:=HRE.out
       rw [if_neg (by simp [h0])] at h6
       obtain ⟨h7,h8⟩:=hp3 h0
       cases hdf:(collP ⟨L nm,ps.map L,bs.map L⟩ (cutL (L l)) st1).2.1 with
       |none =>
        obtain ⟨hf4,hr',hk'⟩:=h8 hdf
        rw [hdf] at h6
        have hce:=coll_end hdf h0
        refine Or.inl (Or.inl ⟨vo,opens,_,hk',hr',?_,HSTR.out.fq hf4,HBW.out.trans (hf4.below hBr),h6⟩)
        rw [hce]
        refine ⟨fun q hq=>?_,HOK.out.names,HOK.out.out,HOK.out.calls,?_,by omega⟩
        ·rcases List.mem_append.1 hq with h9|h9
         ·exact HOK.out.macs q h9
         ·rw [List.mem_singleton.1 h9];exact HMAC.out
        ·have h9:=HOK.out.few
         show (st1.macros++[_]).length≤_
         rw [List.length_append,List.length_singleton]
         omega
       |some d =>
        obtain ⟨hb4,dl',bs',hd',hbl',hde⟩:=h7 d hdf
        obtain ⟨hcm,hcs⟩:=coll_mid hdf
        rw [hdf,hcs,hde] at h6
        have hmo:MacOk ⟨L nm,ps.map L,bs'.map L⟩:=by
         rw [←hde,hcm]
         obtain ⟨m1,m2,m3,m4⟩:=HMAC.out
         refine ⟨m1,m2,?_,fun q hq=>?_⟩
         ·show (bs.map L++[_]).length≤3001
          rw [List.length_append,List.length_map,List.length_singleton]
          omega
         ·rcases List.mem_append.1 hq with h9|h9
          ·exact m4 q h9
          ·rw [List.mem_singleton.1 h9]
           exact ⟨by have h10:=cutL_le (L l);rw [L_length] at h10;omega,cutL_id (cutL_noSemi _)⟩
        refine Or.inl (Or.inr ⟨w0,vo,opens,st1,gd,nm,qv,ps,dl',bs',HK0.out,HST0.out,⟨i1,by omega,HOK.out⟩,HSTR0.out,HBW0.out,HKP.out.then_below hb4,?_,hd',hmo,by omega,h6⟩)
        have h9:=HRX.out
        unfold RowT at h9 ⊢
        rw [hb4.block x HK0.out.row.lt]
        exact h9
      ·have h6:=HRE.out
       rw [if_pos h0] at h6
       rw [h6]
       obtain ⟨hf4,he4,hbr4⟩:=hp2 h0
       exact Or.inr ⟨h0,he4,hbr4,HBW.out.trans (hf4.below hBr)⟩)
     clear hp2 hp3 ht hts
     go_wp2_with fail
     go_roundw
     case rel=>exact ⟨j+1,j+1,by omega,rfl,by go_num,HNI.out.imp (fun h=>⟨rfl,h⟩) id⟩
     case measure=>simp [intOf];omega
    ·have kd:decide ((j:Int)<ls.length)=false:=by simp;omega
     have hRe:=HRE.out
     rw [List.drop_eq_nil_of_le (by omega),List.map_nil] at hRe
     simp only [blockP,Option.isNone_some,Bool.false_eq_true,and_false,if_false] at hRe
     clear HRE
     have HRE:=hid hRe
     obtain ⟨av,cv,hvv⟩:=own_form HK.out.own
     subst hvv
     clear hRe
     have HFIN:=hid (show TPost w B r R (.returned (.tuple #[])) ((wr.setCell ⟨r,4,none⟩ (.int .i64 2)).setCell ⟨r,5,none⟩ (.int .i64 (j:Nat))) by
      obtain ⟨p1,p2⟩:=bad_post (er:=2) (at_:=j) HXA.out.row HXA.out.at_
      rw [HRE.out]
      exact ⟨rfl,HBW.out.trans (p1.below hBr),(fun c=>by cases c),fun _=>p2⟩)
     by_cases hop:opens=[]
     ·subst hop
      go_wp2_with (first|(go_at_call 60;refine (bad_any _ r _ _ _ _ _ 2 j HXA.out.row).mono ?_;rintro e w4 ⟨rfl,rfl⟩))
      first|go_end0|refine bodyPost_ret (results_none rfl _ _ _) rfl ?_
      exact HFIN.out
     ·have hlo:0<opens.length:=List.length_pos_iff.2 hop
      have ko:decide ((0:Int)<opens.length)=true:=by simp;omega
      clear hop
      go_wp2_with (first|(go_at_call 60;refine (bad_any _ r _ _ _ _ _ 2 j HXA.out.row).mono ?_;rintro e w4 ⟨rfl,rfl⟩))
      first|go_end0|refine bodyPost_ret (results_none rfl _ _ _) rfl ?_
      exact HFIN.out
  ·obtain ⟨q1,q2,q3,q4,hre⟩:=hre
   obtain ⟨ao,no,co,po,hbr⟩:=hbr
   obtain ⟨er,her⟩:∃er,R.1=er:=⟨_,rfl⟩
   rw [her] at h0 hre
   have e4:wr.cell? ⟨r,4,none⟩=some (.int .i64 er):=hre.cell 4 (by simp)
   have c0:wr.cell? ⟨x,0,none⟩=some (.slice ba ls.length bc):=hbr.cell 0 (by simp)
   have c5:wr.cell? ⟨x,5,none⟩=some (.slice ao no co):=hbr.cell 5 (by simp)
   have c6:wr.cell? ⟨x,6,none⟩=some (.pointer po):=hbr.cell 6 (by simp)
   have k0:(er==0)=false:=by rw [beq_eq_false_iff_ne];exact h0
   have HBA:=hid (bad_again wr r q1 q2 q3 q4 _ er 2 aN hre h0)
   have HFIN:=hid (show TPost w B r R (.returned (.tuple #[])) wr from ⟨rfl,hbw,fun c=>absurd (her.symm.trans c) h0,fun _=>⟨q1,q2,q3,q4,by rw [her];exact hre⟩⟩)
   clear hre hbr h0 her hbw
   have hor:decide ((0:Int)<no)=true∨(decide ((0:Int)<no)=false∧∃pp,po=some pp)∨(decide ((0:Int)<no)=false∧po=none):=by
    cases hd:decide ((0:Int)<no) with
    |true=>exact Or.inl rfl
    |false =>
     cases po with
     |none=>exact Or.inr (Or.inr ⟨rfl,rfl⟩)
     |some pp=>exact Or.inr (Or.inl ⟨rfl,pp,rfl⟩)
   by_cases hlt:j<ls.length
   ·have kd:decide ((j:Int)<ls.length)=true:=by simp;omega
    rcases hor with ko|⟨ko,pp,rfl⟩|⟨ko,rfl⟩
    all_goals
     go_wp2_with (first|(go_at_call 60;refine HBA.out.mono ?_;rintro e w4 ⟨rfl,hw4⟩;obtain rfl:=hw4.symm))
     all_goals
      first|go_end0|refine bodyPost_ret (results_none rfl _ _ _) rfl ?_
      exact HFIN.out
   ·have kd:decide ((j:Int)<ls.length)=false:=by simp;omega
    rcases hor with ko|⟨ko,pp,rfl⟩|⟨ko,rfl⟩
    all_goals
     go_wp2_with (first|(go_at_call 60;refine HBA.out.mono ?_;rintro e w4 ⟨rfl,hw4⟩;obtain rfl:=hw4.symm))
     all_goals
      first|go_end0|refine bodyPost_ret (results_none rfl _ _ _) rfl ?_
      exact HFIN.out
end
section
attribute [local go_sem ↓] Go.wp_at_zero Go.wp_at_succ
def SplitB10 (l:List UInt8) (parts:List ByteArray) (fr k:Nat):Prop:=
 (k≤l.length∧splitB 10 l=parts.map L++splitOn 10 ((l.take k).drop fr) (l.drop k))∨(k=l.length+1∧splitB 10 l=parts.map L)
theorem SplitB10.last {A:ByteArray}{parts:List ByteArray}{fr:Nat}(h:SplitB10 (L A) parts fr A.size):SplitB10 (L A) (parts++[A.extract fr A.size]) (A.size+1) (A.size+1):=by
 rcases h with ⟨_,h⟩|⟨h,_⟩
 ·refine Or.inr ⟨by rw [L_length],?_⟩
  rw [h,L_end A A.size (Nat.le_refl _),splitOn_end,List.map_append,List.map_singleton,L_extract]
 ·rw [L_length] at h;omega
theorem SplitB10.hit {A:ByteArray}{parts:List ByteArray}{fr k:Nat}(h:SplitB10 (L A) parts fr k) (hk:k<A.size) (hb:(A[k].toNat:Int)=10):SplitB10 (L A) (parts++[A.extract fr k]) (k+1) (k+1):=by
 rcases h with ⟨_,h⟩|⟨h,_⟩
 ·refine Or.inl ⟨by rw [L_length];omega,?_⟩
  have e:((L A).take (k+1)).drop (k+1)=[]:=List.drop_eq_nil_of_le (by rw [List.length_take];omega)
  rw [h,L_drop A k hk,splitOn_hit _ _ _ _ hb,List.map_append,List.map_singleton,L_extract,List.append_assoc,e]
  rfl
 ·rw [L_length] at h;omega
theorem SplitB10.miss {A:ByteArray}{parts:List ByteArray}{fr k:Nat}(h:SplitB10 (L A) parts fr k) (hf:fr≤k) (hk:k<A.size) (hb:¬(A[k].toNat:Int)=10):SplitB10 (L A) parts fr (k+1):=by
 rcases h with ⟨_,h⟩|⟨h,_⟩
 ·refine Or.inl ⟨by rw [L_length];omega,?_⟩
  rw [h,L_drop A k hk,splitOn_miss _ _ _ _ hb,take_snoc A k hk,List.drop_append_of_le_length (by rw [List.length_take,L_length];omega)]
 ·rw [L_length] at h;omega
def LinesPost (s:ByteArray) (w:World) (e:Ending) (w':World):Prop:=Below w.heap.size w w' ∧
 ((badLine (splitB 10 (L s)) 1≠0∧e=.returned (.tuple #[.slice none 0 0,.int .i64 (badLine (splitB 10 (L s)) 1:Nat)])) ∨
  (badLine (splitB 10 (L s)) 1=0∧∃v ls,e=.returned (.tuple #[v,.int .i64 0])∧ls.map L=splitB 10 (L s)∧StrV w' w.heap.size v ls))
set_option maxRecDepth 100000 in
set_option maxHeartbeats 3200000 in
theorem lines_any (s:ByteArray) (w:World) (hs:s.size≤3000):Calls Tryz.prog 61 #[.string s] w (LinesPost s w):=by
 obtain ⟨i0,hi0,hz0,hz1,hz2⟩:=info_parts info_str
 obtain ⟨B,hB⟩:∃B,w.heap.size=B:=⟨_,rfl⟩
 go_enter Tryz.func61,Tryz.ntmps61
 go_upto_block 0 with fail
 go_cut [4] (fun v wx=>∃ls:List ByteArray,ls.map L=splitB 10 (L s)∧wx.ownsRow B 9 1 v ls.length (ls.map Value.string)∧Below B w wx)
 case first =>
  go_wp2_with fail
  go_loopw [4,5,6] (fun v f i wr=>∃(k fr:Nat) (parts:List ByteArray),k≤s.size+1∧i=.int .i64 k∧f=.int .i64 fr∧fr≤k∧parts.length≤k∧wr.ownsRow B 9 1 v parts.length (parts.map Value.string)∧Below B w wr∧SplitB10 (L s) parts fr k) (fun _ _ i _=>s.size+1-(intOf i).toNat)
  case atStart=>exact ⟨0,0,[],Nat.zero_le _,rfl,rfl,Nat.le_refl _,Nat.le_refl _,World.ownsRow_nil _ _ _ _,Below.refl _ _,Or.inl ⟨Nat.zero_le _,by simp [splitOn_nil]⟩⟩
  case round =>
   obtain ⟨k,fr,parts,hk,rfl,rfl,hfk,hpk,hown,hbr,hsp⟩:=hrel
   obtain ⟨a4,k4,hv4⟩:=own_form hown
   subst hv4
   have HOWN:=hid hown
   have HBR:=hid hbr
   have HSP:=hid hsp
   have hBr:B≤wr.heap.size:=by rw [←hB];exact hbr.size
   clear hown hbr hsp
   by_cases hle:k≤s.size
   ·have kd:decide ((k:Int)≤s.size)=true:=by simp;omega
    by_cases hhit:k=s.size∨∃h:k<s.size,(s[k].toNat:Int)=10
    ·have HSN:=hid (show SplitB10 (L s) (parts++[s.extract fr k]) (k+1) (k+1) by
      rcases hhit with rfl|⟨h1,h2⟩
      ·exact HSP.out.last
      ·exact HSP.out.hit h1 h2)
     have hor:((k:Int)==s.size)=true∨(((k:Int)==s.size)=false∧∃h:k<s.size,((s[k].toNat:Int)==10)=true):=by
      rcases hhit with h|⟨h1,h2⟩
      ·exact Or.inl (by rw [beq_iff_eq];omega)
      ·exact Or.inr ⟨by rw [beq_eq_false_iff_ne];omega,h1,by simpa using h2⟩
     have if0:(0:Int)≤(fr:Int):=Int.natCast_nonneg _
     have if1:(fr:Int)≤(k:Int):=by omega
     clear hhit HSP
     rcases hor with k1|⟨k1,hks,k2⟩
     all_goals
      go_wp2_with (first|(at_builtin;refine wpList_append_lies _ rfl (.tmp 25) (.tmp 30) 65 rfl B 9 i0 _ 1 16 Tryz.underlying65 hi0 hz0 hz1 hz2 rfl (by omega) (.slice a4 parts.length k4) parts.length (parts.map Value.string) rfl (HOWN.out.alloc _) ⟨_,0,none⟩ 1 1 [.string (s.extract fr k)] rfl rfl (World.news_of_block (cs:=#[.string (s.extract fr k)]) (t:=9) (fr:=(0,0)) (heap_alloc_new _ _)) (by simp [Value.oneCell']) (by omega) (by unfold maxLen;omega) (by omega) (by simp;omega) _ rfl ?_;intro gg cap' w4 hown4 hgrow hat hlt4))
      have HO4:=hid hown4
      have HB4:=hid ((HBR.out.alloc hBr (.cells #[.string (s.extract fr k)] 9)).grown hgrow (by simp;omega) (fun q hq=>own_ge HOWN.out hq))
      clear hown4 hgrow hat
      go_roundw
      case rel=>exact ⟨k+1,k+1,parts++[s.extract fr k],by omega,by go_num,by go_num,Nat.le_refl _,by simp;omega,by simpa using HO4.out,HB4.out,HSN.out⟩
      case measure=>simp [intOf];omega
    ·have hk2:k<s.size:=by
      rcases Nat.lt_or_ge k s.size with h|h
      ·exact h
      ·exact absurd (Or.inl (by omega)) hhit
     have hb10:¬(s[k].toNat:Int)=10:=fun h=>hhit (Or.inr ⟨hk2,h⟩)
     have k1:((k:Int)==s.size)=false:=by rw [beq_eq_false_iff_ne];omega
     have k2:((s[k].toNat:Int)==10)=false:=by simpa using hb10
     have HSN:=hid (HSP.out.miss hfk hk2 hb10)
     clear hhit hb10 HSP
     go_wp2_with fail
     go_roundw
     case rel=>exact ⟨k+1,fr,parts,by omega,by go_num,rfl,by omega,by omega,HOWN.out,HBR.out,HSN.out⟩
     case measure=>simp [intOf];omega
   ·have kd:decide ((k:Int)≤s.size)=false:=by simp;omega
    have HFIN:=hid (show parts.map L=splitB 10 (L s) by
     rcases HSP.out with ⟨h,_⟩|⟨_,h⟩
     ·rw [L_length] at h;omega
     ·exact h.symm)
    go_wp2_with fail
    go_meet
    case rel=>exact ⟨parts,HFIN.out,HOWN.out,HBR.out⟩
 case rest =>
  obtain ⟨ls,hls,hown,hbx⟩:=hcut
  obtain ⟨oa,oc,hv,hst⟩:=owns_strs hown rfl
  subst hv
  have hll:ls.length≤3001:=by
   have h1:=congrArg List.length hls
   have h2:=splitB_len 10 (L s)
   rw [List.length_map] at h1
   rw [L_length] at h2
   omega
  have HSZ:=hid (show ∀j (h:j<ls.length),ls[j].size≤3000 from fun j h=>by
   have h1:=splitB_each 10 (L s) (L ls[j]) (by rw [←hls];exact List.mem_map.2 ⟨_,List.getElem_mem h,rfl⟩)
   rw [L_length,L_length] at h1
   omega)
  obtain ⟨V,hV⟩:∃V,badLine (splitB 10 (L s)) 1=V:=⟨_,rfl⟩
  have HV:=hid hV
  have HLS:=hid hls
  have HST:=hid hst
  have HBX:=hid (hB ▸ hbx:Below w.heap.size w wc)
  have HBQ:=hid hB
  clear hV hls hst hbx hown
  go_wp2_with fail
  go_loop [7] (fun i=>∃k:Nat,k≤ls.length∧i=.int .i64 k∧V=badLine ((ls.drop k).map L) (k+1)) (fun i=>ls.length-(intOf i).toNat)
  case atStart=>exact ⟨0,Nat.zero_le _,rfl,by rw [List.drop_zero,HLS.out];exact HV.out.symm⟩
  case round =>
   obtain ⟨k,hk,rfl,ha⟩:=hrel
   have HA:=hid ha
   clear ha
   by_cases hlt:k<ls.length
   ·have kd:decide ((k:Int)<ls.length)=true:=by simp;omega
    have ik0:(0:Int)≤(k:Int):=Int.natCast_nonneg _
    have ik1:(k:Int)<(ls.length:Int):=by omega
    obtain ⟨bl,offl,cl,hv,hbll,ck⟩:=HST.out.cell k hlt
    injection hv with hv1 _ hv2
    subst hv1 hv2
    have hA:=HA.out
    rw [badLine_at ls k hlt] at hA
    have hlz:=HSZ.out k hlt
    obtain ⟨l,hl⟩:∃l,ls[k]=l:=⟨_,rfl⟩
    rw [hl] at ck hA hlz
    clear hl
    by_cases h80:80<l.size
    ·have k8:decide ((80:Int)<l.size)=true:=by simp;omega
     rw [if_neg (by unfold okLine;rw [L_length];simp;omega)] at hA
     have HF:=hid (show badLine (splitB 10 (L s)) 1=k+1 from HV.out.trans hA)
     clear hA
     go_wp2_with fail
     go_ret2
     refine ⟨HBX.out,Or.inl ⟨by rw [HF.out];omega,by rw [HF.out];simp⟩⟩
    ·have k8:decide ((80:Int)<l.size)=false:=by simp;omega
     have HA2:=hid hA
     clear hA
     go_wp2_with fail
     go_loop [8] (fun i=>∃q:Nat,q≤l.size∧i=.int .i64 q∧((L l).take q).all okByte=true) (fun i=>l.size-(intOf i).toNat)
     case atStart=>exact ⟨0,Nat.zero_le _,rfl,rfl⟩
     case round =>
      obtain ⟨q,hq,rfl,hall⟩:=hrel
      have HALL:=hid hall
      clear hall
      by_cases hql:q<l.size
      ·have kq:decide ((q:Int)<l.size)=true:=by simp;omega
       by_cases hb:okByte l[q]=true
       ·have HN:=hid (show ((L l).take (q+1)).all okByte=true by rw [take_snoc l q hql,List.all_append,HALL.out];simp [hb])
        unfold okByte at hb
        simp only [Bool.and_eq_true,decide_eq_true_eq] at hb
        have k3:decide ((l[q].toNat:Int)<32)=false:=by simp;omega
        have k4:decide ((126:Int)<(l[q].toNat:Int))=false:=by simp;omega
        clear hb
        go_wp2_with fail
        go_round
        case rel=>exact ⟨q+1,by omega,by go_num,HN.out⟩
        case measure=>simp [intOf];omega
       ·have hnk:okLine (L l)=false:=by
         unfold okLine
         rw [Bool.and_eq_false_iff]
         right
         rw [List.all_eq_false]
         exact ⟨l[q],by have:=L_drop l q hql;exact List.mem_of_mem_drop (by rw [this];simp),hb⟩
        have hA:=HA2.out
        rw [if_neg (by simp [hnk])] at hA
        have HF:=hid (show badLine (splitB 10 (L s)) 1=k+1 from HV.out.trans hA)
        have hor:decide ((l[q].toNat:Int)<32)=true∨(decide ((l[q].toNat:Int)<32)=false∧decide ((126:Int)<(l[q].toNat:Int))=true):=by
         unfold okByte at hb
         simp only [Bool.and_eq_true,decide_eq_true_eq] at hb
         by_cases h3:(l[q].toNat:Int)<32
         ·exact Or.inl (by simpa using h3)
         ·exact Or.inr ⟨by simpa using h3,by simp;omega⟩
        clear hA hnk hb
        rcases hor with k3|⟨k3,k4⟩
        all_goals
         go_wp2_with fail
         go_ret2
         exact ⟨HBX.out,Or.inl ⟨by rw [HF.out];omega,by rw [HF.out];simp⟩⟩
      ·have kq:decide ((q:Int)<l.size)=false:=by simp;omega
       have HN:=hid (show V=badLine ((ls.drop (k+1)).map L) (k+1+1) by
        have h9:=HA2.out
        rw [if_pos (by
         unfold okLine
         rw [Bool.and_eq_true]
         refine ⟨by rw [L_length];simp;omega,?_⟩
         have h8:=HALL.out
         rwa [List.take_of_length_le (by rw [L_length];omega)] at h8)] at h9
        exact h9)
       go_wp2_with fail
       go_round
       case rel=>exact ⟨k+1,by omega,by go_num,HN.out⟩
       case measure=>simp [intOf];omega
   ·have kd:decide ((k:Int)<ls.length)=false:=by simp;omega
    have HF:=hid (show badLine (splitB 10 (L s)) 1=0 by
     rw [HV.out,HA.out,List.drop_eq_nil_of_le (by omega)]
     rfl)
    go_wp2_with fail
    go_ret2
    refine ⟨HBX.out,Or.inr ⟨HF.out,_,ls,rfl,HLS.out,?_⟩⟩
    rw [HBQ.out]
    exact HST.out
end
section
attribute [local go_sem ↓] Go.wp_at_zero Go.wp_at_succ
theorem blockP_stays (call:MacP→WordsP→Nat→StP→Int×StP) (sub:Option (List (List UInt8)×List (List UInt8))) (ls:List (List UInt8)):∀(k:Nat) (opens:List OpenP) (d:Option MacP) (st:StP),(blockP call sub 0 ls k opens d st).2.1=k:=by
 induction ls with
 |nil=>intro k opens d st;rw [blockP];split<;>rfl
 |cons l r ih =>
  intro k opens d st
  cases d with
  |some d =>
   rw [blockP]
   split
   ·rfl
   ·exact ih _ _ _ _
  |none =>
   rw [blockP]
   split
   ·split
    ·rfl
    ·exact ih _ _ _ _
   ·split
    ·rfl
    ·split
     ·rfl
     ·exact ih _ _ _ _
set_option maxRecDepth 100000 in
set_option maxHeartbeats 800000 in
theorem goM_any (n:Nat) (hcall:CallOk n) (w:World) (B be bt wi k bm:Nat) (st0:StP) (lv pv ov:Value) (ls ps os:List ByteArray) (hwn:wi+n=8) (hwi:0<wi)
  (h:ExpSt w B be bt wi k st0) (hra:ReadAt w B 209 bm (.slice none 0 0) lv ls 0 [pv,ov] []) (hls:∀i (hi:i<ls.length),ls[i].size≤100) (hcut:∀i (hi:i<ls.length),cutL (L ls[i])=L ls[i])
  (hps:StrV w 0 pv ps) (hos:StrV w 0 ov os) (hlen:ps.length=os.length) (hl:ps.length≤1000) (hz:∀k (h:k<ps.length),ps[k].size≤100) (hz2:∀k (h:k<os.length),os[k].size≤100)
  (hok:StOk st0 k) (hm:MaxAt w) (hgB:0<B) (hB:B≤w.heap.size) (hbt:B≤bt) (hbm:B≤bm) (hne:bt≠bm) (R:Int×Nat×StP) (hR:blockP (callN n) (some (ps.map L,os.map L)) 0 (ls.map L) k [] none st0=R) :
  Calls Tryz.prog 31 #[.pointer (some ⟨be,0,none⟩),.iface 207 (.pointer (some ⟨bm,0,none⟩))] w (GoPost B be bt wi [bm] R w):=by
 have hrd:Rd 207 209:=Or.inr ⟨rfl,rfl⟩
 have hfew:=hra.few
 have m1:=fun w=>ask_more hrd bm w
 have m2:=fun w=>ask_mread bm w
 have m3:=fun w=>ask_depth hrd bm w
 have hRk:R.2.1=k:=by rw [←hR];exact blockP_stays _ _ _ _ _ _ _
 have HS:=hid h
 have HRA:=hid hra
 have HLS:=hid hls
 have HOK:=hid hok
 have HM:=hid hm
 have HR:=hid hR
 have HCUT:=hid hcut
 have HPS:=hid hps
 have HOS:=hid hos
 have HZ:=hid hz
 have HZ2:=hid hz2
 clear h hra hls hok hm hR hcut hps hos hz hz2
 go_enter Tryz.func31,Tryz.ntmps31
 go_wp2_with fail
 go_loopg [4] ls.length (fun q x wr=>∃(j:Nat) (opens:List OpenP) (st:StP) (v:Value),q+j=ls.length∧ExpSt wr B be bt wi k st∧ReadAt wr B 209 bm v lv ls j [pv,ov] opens∧Chain opens∧StOk st k∧Fr B [bm] w wr∧(∀g,v.ownBlock=some g→w.heap.size≤g)∧blockP (callN n) (some (ps.map L,os.map L)) 0 ((ls.map L).drop j) k opens none st=R)
 case atStart=>exact ⟨0,[],st0,.slice none 0 0,by simp,HS.out,HRA.out,trivial,HOK.out,Fr.refl _ _ _,(fun g hg=>by cases hg),HR.out⟩
 case round =>
  obtain ⟨j,opens,st,v,hq,hs,hra,hch,hok,hfr,hvn,hbr⟩:=hrel
  have HS:=hid hs
  have HRA:=hid hra
  have HCH:=hid hch
  have HOK:=hid hok
  have HFR:=hid hfr
  have HVN:=hid hvn
  have HBR:=hid hbr
  have HPS:=hid (HPS.out.fr hfr)
  have HOS:=hid (HOS.out.fr hfr)
  have HMr:=hid (HM.out.fr hfr hgB)
  have hBr:B≤wr.heap.size:=Nat.le_trans hB hfr.size
  have hop8:=hra.cond.few
  clear hs hra hch hok hfr hvn hbr
  go_wp2_with fail
  refine (more_any _ B _ bm v lv ls j _ opens HRA.out).mono ?_
  by_cases hlt:j<ls.length
  ·rw [decide_eq_true hlt]
   rintro e w1 ⟨rfl,hb1⟩
   have HS:=hid (HS.out.below hb1)
   have HRA:=hid (HRA.out.below hb1)
   have HFR:=hid (HFR.out.trans (Fr.of_below hb1))
   have HMr:=hid (HMr.out.below hb1)
   have HPS:=hid (HPS.out.below hb1)
   have HOS:=hid (HOS.out.below hb1)
   have hBr:B≤w1.heap.size:=Nat.le_trans hBr hb1.size
   clear hb1
   have hls:=HLS.out j hlt
   have hwk:WOk (readP (some (ps.map L,os.map L)) (overP opens) (cutL (L ls[j]))).2:=WOk.read (by have:=cutL_le (L ls[j]);rw [L_length] at this;omega)
   have HWK:=hid hwk
   clear hwk
   go_wp2_with fail
   refine (mread_any _ B bm v lv ls j pv ov ps os opens HRA.out hlt hbm hls (HCUT.out j hlt) HMr.out hgB HPS.out HOS.out hlen hl HZ.out HZ2.out).mono ?_
   by_cases hrd0:(readP (some (ps.map L,os.map L)) (overP opens) (cutL (L ls[j]))).1=0
   ·rintro e w2 ⟨hpost,_⟩
    obtain ⟨lb,op,va,vc,os',rfl,hpv,hra,hfr⟩:=hpost hrd0
    obtain ⟨xs,hx1,hx2⟩:=HS.out.text
    have HS:=hid (HS.out.frc hfr ⟨xs,hx1.fr hfr rfl (fun _=>by simp;exact hne),hx2⟩:ExpSt w2 B be bt wi k st)
    have HRA:=hid hra
    have HFR:=hid (HFR.out.trans hfr.to)
    have HMr:=hid (HMr.out.fr hfr hgB)
    have hBr:B≤w2.heap.size:=Nat.le_trans hBr hfr.size
    have HPV:=hid hpv
    clear hpv hra hfr hpost hx1 hx2
    have hb4:Below w2.heap.size w2 (w2.alloc (.cells #[.string lb,.string op,.slice va os'.length vc] 101)):=(Below.refl _ _).alloc (Nat.le_refl _) _
    have HS:=hid (HS.out.below hb4)
    have HRA:=hid (HRA.out.below hb4)
    have HFR:=hid (HFR.out.trans (Fr.of_below hb4))
    have HMr:=hid (HMr.out.below hb4)
    have HPV:=hid (HPV.out.below hb4)
    have hBr:=Nat.le_trans hBr hb4.size
    clear hb4
    have hbm2:=fun r=>block_mac (callN n) (ps.map L) (os.map L) (ls.map L) wi j k hwi (by simpa using hlt) (by rw [List.getElem_map];exact HCUT.out j hlt) opens st (by rw [List.getElem_map];exact hrd0) (ls.map L) r
    rw [List.getElem_map] at hbm2
    have HBM:=hid hbm2
    have HRD0:=hid hrd0
    clear hbm2 hrd0
    go_wp2_with fail
    refine (do_any n hcall _ B be bt wi k _ _ bm (j+1) st v lv ls [pv,ov] opens lb op va vc os' _ 0 hwn (Or.inr ⟨hwi,rfl,rfl⟩) HS.out HRA.out HCH.out HPV.out HWK.out HLS.out HOK.out HMr.out hgB hBr hbt hbm).mono ?_
    obtain ⟨r,hr⟩:∃r,doP (callN n) wi k (readP (some (ps.map L,os.map L)) (overP opens) (cutL (L ls[j]))).2 opens st (ls.map L)=r:=⟨_,rfl⟩
    have hrk:r.2.1=k:=by rw [←hr];exact doP_at hwi
    have hcr:r.1=0→Chain r.2.2.1:=by rw [←hr];exact doP_chain HCH.out
    have HBT:=hid (HBM.out r hr)
    rw [hr]
    have HCR:=hid hcr
    clear hr hcr
    rintro e w3 ⟨rfl,hf3,hn3,hs3⟩
    have HF3:=hid (HFR.out.trans' hf3 (fun i hi=>by
     unfold condM at hi
     rcases List.mem_cons.1 hi with h1|h1
     ·exact Or.inl (by rw [h1];simp)
     ·exact Or.inr (HVN.out i (by cases hv:v.ownBlock with
       |none=>rw [hv] at h1;cases h1
       |some g=>rw [hv] at h1;simp at h1;rw [h1]))))
    rw [hrk] at hn3 hs3
    have HN3:=hid hn3
    have HS3:=hid hs3
    have hsz:=HFR.out.size
    clear hf3 hn3 hs3
    by_cases h0:r.1=0
    ·have k0:decide (r.1=0)=true:=decide_eq_true h0
     go_wp2_with fail
     go_roundg (gk-1)
     case measure=>omega
     case rel =>
      obtain ⟨h1,h2,v',h3,h4⟩:=HS3.out h0
      refine ⟨j+1,r.2.2.1,r.2.2.2,v',by omega,h1,?_,HCR.out h0,h2,HF3.out,fun g hg=>?_,?_⟩
      ·have e1:nextJ wi k (j+1)=j+1:=by unfold nextJ;rw [if_neg (by omega)]
       rw [e1] at h4
       exact h4
      ·rcases h3 g hg with h5|h5
       ·exact HVN.out g h5
       ·omega
      ·rw [←HBT.out.2 h0];exact HBR.out
    ·have k0:decide (r.1=0)=false:=decide_eq_false h0
     go_wp2_with fail
     go_ret
     obtain ⟨h1,h2⟩:=HBT.out.1 h0
     rw [HBR.out] at h1 h2
     refine ⟨by rw [h1];rfl,HF3.out,by rw [hRk];exact HN3.out,fun h5=>absurd (h1.symm.trans h5) h0⟩
   ·rintro e w2 ⟨_,hpost⟩
    obtain ⟨he,hfr⟩:=hpost hrd0
    rw [show noParts.toArray=#[.string ⟨#[]⟩,.string ⟨#[]⟩,.slice none 0 0] from rfl] at he
    subst he
    obtain ⟨h1,h2⟩:=block_unread (callN n) (ps.map L) (os.map L) (ls.map L) j k (by simpa using hlt) opens st (by rw [List.getElem_map];exact hrd0)
    rw [HBR.out] at h1 h2
    rw [List.getElem_map] at h1
    rw [←h1] at hrd0 ⊢
    obtain ⟨xs,hx1,hx2⟩:=HS.out.text
    have HS:=hid (HS.out.frc hfr ⟨xs,hx1.fr hfr rfl (fun _=>by simp;exact hne),hx2⟩:ExpSt w2 B be bt wi k st)
    have HFR:=hid (HFR.out.trans hfr.to)
    clear hfr hpost hx1 hx2 h1 h2
    have hb4:Below w2.heap.size w2 (w2.alloc (.cells #[.string ⟨#[]⟩,.string ⟨#[]⟩,.slice none 0 0] 101)):=(Below.refl _ _).alloc (Nat.le_refl _) _
    have HS:=hid (HS.out.below hb4)
    have HFR:=hid (HFR.out.trans (Fr.of_below hb4))
    clear hb4
    have k0:decide (R.1=0)=false:=decide_eq_false hrd0
    go_wp2_with fail
    go_ret
    exact ⟨rfl,HFR.out,by rw [hRk];exact HS.out.num,fun h5=>absurd h5 hrd0⟩
  ·rw [decide_eq_false hlt]
   have hbr:=HBR.out
   rw [List.drop_eq_nil_of_le (by simp;omega),blockP_nil] at hbr
   rintro e w1 ⟨rfl,hb1⟩
   have HBR:=hid hbr
   have HS:=hid (HS.out.below hb1)
   have HRA:=hid (HRA.out.below hb1)
   have HFR:=hid (HFR.out.trans (Fr.of_below hb1))
   clear hbr hb1
   go_wp2_with fail
   refine (depth_any _ B _ bm v _ opens HRA.out.cond).mono ?_
   rintro e w2 ⟨rfl,rfl⟩
   by_cases ho:opens=[]
   ·subst ho
    have hbr:=HBR.out
    rw [if_pos rfl] at hbr
    subst hbr
    go_wp2_with fail
    go_ret
    exact ⟨rfl,HFR.out,HS.out.num,fun _=>⟨HS.out,HOK.out⟩⟩
   ·have hbr:=HBR.out
    rw [if_neg ho] at hbr
    subst hbr
    have hl:0<opens.length:=List.length_pos_iff.2 ho
    have k0:decide ((opens.length:Int) > 0)=true:=decide_eq_true (by omega)
    clear ho
    go_wp2_with fail
    go_ret
    exact ⟨rfl,HFR.out,HS.out.num,fun h=>by cases h⟩
end
end Go.Proofs.YtcepppilgncdmaaGreatDoor
