/-
  Joined: PaJump PaPut PaMake PaLen PaAllB PaSay PaLkM PaLines.
-/
import Derived.Test.YtcepppilgncdmaaGreatDoorBX27
import Derived.Test.YtcepppilgncdmaaGreatDoorBX28
namespace Go.Proofs.YtcepppilgncdmaaGreatDoor
open Go.RowKit
section
attribute [local go_sem ↓] Go.wp_at_zero Go.wp_at_succ
theorem AsmAt.stAt {w:World}{B ba g sc:Nat}{vl vs vn vt vb:Value}{ls:List LnV}{ss:List StV}{ns ts:List (ByteArray×Int)}{sz:Nat}{bs:List UInt8}(h:AsmAt w B ba vl vs vn vt vb ls ss ns ts sz bs) (hv:vs=.slice (some ⟨g,0,none⟩) ss.length sc) (i:Nat) (hi:i<ss.length):StAt w g (i*11) ss[i]:=by
 subst hv
 have h1:=h.sown
 refine ⟨own_ltA h1 rfl,fun k v hk=>?_⟩
 have hk2:k<11:=by
  have:=(List.getElem?_eq_some_iff.1 hk).1
  simpa [stOne] using this
 rw [h1.cellAt (i*11+k) (by omega),stCells_at ss i k hi hk2]
 exact hk
structure ExOk (x:StV):Prop where
 few:x.es.length≤1000
 short:∀i (h:i<x.es.length),x.es[i].size≤1000
def HfPost (z er:Int) (at_:Nat) (w:World) (e:Ending) (w':World):Prop:=e=.returned (.tuple #[.int .i64 (if er=0 then z-(at_+2) else 0),.int .i64 er])∧Below w.heap.size w w'
set_option maxRecDepth 100000 in
set_option maxHeartbeats 1600000 in
theorem howFar_any (w:World) (B ba g sc:Nat) (vl vs vn vt vb:Value) (ls:List LnV) (ss:List StV) (ns ts:List (ByteArray×Int)) (sz:Nat) (bs:List UInt8) (h:AsmAt w B ba vl vs vn vt vb ls ss ns ts sz bs) (hv:vs=.slice (some ⟨g,0,none⟩) ss.length sc) (hnl:ns.length≤1000) (i:Nat) (hi:i<ss.length) (e0:ByteArray) (he:ss[i].es[0]?=some e0) (hes:e0.size≤1000) (at_:Nat) (ha:at_≤1000000) (z er:Int) (hq:value at_ (plainN ns) (L e0)=(z,er)) :
  Calls Tryz.prog 122 #[.pointer (some ⟨ba,0,none⟩),.pointer (some ⟨g,i*11,none⟩),.int .i64 (at_:Nat)] w (HfPost z er at_ w):=by
 have hst:=h.stAt hv i hi
 have hs:=h.strs ss[i] (List.getElem_mem hi)
 obtain ⟨x,hx⟩:∃x,ss[i]=x:=⟨_,rfl⟩
 rw [hx] at hst hs he
 obtain ⟨hlt,hel⟩:=List.getElem?_eq_some_iff.1 he
 obtain ⟨ge,off,cap,hve,hgl,hc⟩:=hs.cell 0 hlt
 rw [hel,Nat.add_zero] at hc
 obtain ⟨na,nc,hnv,hna⟩:=own_names h.nown
 subst hnv
 have c2:w.cell? ⟨ba,2,none⟩=some (.slice na ns.length nc):=h.row.cell 2 (by simp)
 have c8:w.cell? ⟨g,i*11+8,none⟩=some (.slice (some ⟨ge,off,none⟩) x.es.length cap):=by rw [←hve];exact hst.2 8 _ rfl
 have hbd:er=0→-1000000≤z∧z≤1000000:=fun h0=>value_bd (by rw [hq,h0])
 have HNA:=hid hna
 have HQ:=hid hq
 have HBD:=hid hbd
 clear h hst hs hx he hel hna hq hbd hve
 go_enter Tryz.func122,Tryz.ntmps122
 go_wp2_with fail
 go_region_with (go_at_call 36;refine (xValue_any e0 at_ na nc ns _ z er (by unfold maxLen;omega) (by unfold maxLen;omega) (HNA.out.below ((Below.refl _ _).drew)) HQ.out).mono ?_;rintro e w3 ⟨rfl,hb3⟩)
 all_goals
  have HB:=hid (((Below.refl w.heap.size w).drew).trans (hb3.mono (Nat.le_refl _)))
  clear hb3 c2 c8 hc
  by_cases her:er=0
  ·subst her
   obtain ⟨q1,q2⟩:=HBD.out rfl
   go_wp2
   refine bodyPost_ret (v:=.tuple #[.int .i64 (z-(at_+2)),.int .i64 0]) (by simp [results,Tryz.results122]) rfl ?_
   exact ⟨by rw [if_pos rfl],HB.out⟩
  ·have ke:(er != 0)=true:=by simpa using her
   go_wp2
   refine bodyPost_ret (v:=.tuple #[.int .i64 0,.int .i64 er]) (by simp [results,Tryz.results122]) rfl ?_
   exact ⟨by rw [if_neg her],HB.out⟩
set_option maxRecDepth 100000 in
set_option maxHeartbeats 1600000 in
theorem fits_any (w:World) (B ba g sc:Nat) (vl vs vn vt vb:Value) (ls:List LnV) (ss:List StV) (ns ts:List (ByteArray×Int)) (sz:Nat) (bs:List UInt8) (h:AsmAt w B ba vl vs vn vt vb ls ss ns ts sz bs) (hv:vs=.slice (some ⟨g,0,none⟩) ss.length sc) (hnl:ns.length≤1000) (i:Nat) (hi:i<ss.length) (e0:ByteArray) (he:ss[i].es[0]?=some e0) (hes:e0.size≤1000) (at_:Nat) (ha:at_≤1000000) (r:Bool) (hr:(!(decide ((value at_ (plainN ns) (L e0)).2=0)&&(decide ((value at_ (plainN ns) (L e0)).1-(at_+2) < -128) || decide (127<(value at_ (plainN ns) (L e0)).1-(at_+2)))))=r) :
  Calls Tryz.prog 81 #[.pointer (some ⟨ba,0,none⟩),.pointer (some ⟨g,i*11,none⟩),.int .i64 (at_:Nat)] w fun e w'=>e=.returned (.bool r)∧Below w.heap.size w w':=by
 obtain ⟨q,hq⟩:∃q,value at_ (plainN ns) (L e0)=q:=⟨_,rfl⟩
 obtain ⟨z,er⟩:=q
 have hc:=howFar_any w B ba g sc vl vs vn vt vb ls ss ns ts sz bs h hv hnl i hi e0 he hes at_ ha z er hq
 have hbd:er=0→-1000000≤z∧z≤1000000:=fun h0=>value_bd (by rw [hq,h0])
 rw [hq] at hr
 simp only at hr
 have HC:=hid hc
 clear h hc he hq
 by_cases her:er=0
 ·subst her
  obtain ⟨q1,q2⟩:=hbd rfl
  have HC:=hid (show Calls Tryz.prog 122 #[.pointer (some ⟨ba,0,none⟩),.pointer (some ⟨g,i*11,none⟩),.int .i64 (at_:Nat)] w fun e w'=>e=.returned (.tuple #[.int .i64 (z-(at_+2)),.int .i64 0])∧Below w.heap.size w w' from HC.out.mono (fun e w' h=>⟨by rw [h.1,if_pos rfl],h.2⟩))
  have HR:=hid hr
  clear hr hbd
  obtain ⟨f,hf⟩:∃f,z-((at_:Int)+2)=f:=⟨_,rfl⟩
  rw [hf] at HC HR
  have hfb:-3000000≤f∧f≤3000000:=by omega
  clear hf
  go_enter Tryz.func81,Tryz.ntmps81
  go_wp2_with fail
  refine HC.out.mono ?_
  rintro e w1 ⟨rfl,hb1⟩
  by_cases h1:f < -128
  ·have hr:=HR.out
   have hr1:r=false:=by rw [←hr];simp [h1]
   subst hr1
   clear HR hr
   go_wp2
   go_ret
   exact ⟨rfl,hb1⟩
  ·by_cases h2:127<f
   ·have hr:=HR.out
    have hr1:r=false:=by rw [←hr];simp [h2]
    subst hr1
    clear HR hr
    go_wp2
    go_ret
    exact ⟨ret_bool (by simp;omega),hb1⟩
   ·have hr:=HR.out
    have hr1:r=true:=by rw [←hr];simp;omega
    subst hr1
    clear HR hr
    go_wp2
    go_ret
    exact ⟨ret_bool (by simp),hb1⟩
 ·have ke:(er != 0)=true:=by simpa using her
  have hr1:r=true:=by rw [←hr];simp [her]
  subst hr1
  have HC:=hid (show Calls Tryz.prog 122 #[.pointer (some ⟨ba,0,none⟩),.pointer (some ⟨g,i*11,none⟩),.int .i64 (at_:Nat)] w fun e w'=>e=.returned (.tuple #[.int .i64 0,.int .i64 er])∧Below w.heap.size w w' from HC.out.mono (fun e w' h=>⟨by rw [h.1,if_neg her],h.2⟩))
  clear hr hbd
  go_enter Tryz.func81,Tryz.ntmps81
  go_wp2_with fail
  refine HC.out.mono ?_
  rintro e w1 ⟨rfl,hb1⟩
  go_wp2
  go_ret
  exact ⟨rfl,hb1⟩
end
section
attribute [local go_sem ↓] Go.wp_at_zero Go.wp_at_succ
theorem exprsP_err {all:List (List UInt8×Int)}{a:Int}{d:Nat}:∀{l:List (List UInt8)},(exprsP all a d l).1≠0→(exprsP all a d l).2=[]
 |[],h=>absurd rfl h
 |e::r,h=>by
  simp only [exprsP] at h ⊢
  split
  ·rfl
  ·split
   ·rfl
   ·split
    ·rfl
    ·rename_i h1 h2 h3
     rw [if_neg h1,if_neg h2,if_neg h3] at h
     exact absurd rfl h
def contP (done:List UInt8) (q:Int×List UInt8):Int×List UInt8:=if q.1≠0 then (q.1,[]) else (0,done++q.2)
theorem contP_nil {all:List (List UInt8×Int)}{a:Int}{d:Nat}(l:List (List UInt8)):contP [] (exprsP all a d l)=exprsP all a d l:=by
 unfold contP
 split
 ·rename_i h
  exact Prod.ext rfl (exprsP_err h).symm
 ·rename_i h
  exact Prod.ext (by simpa using (Classical.byContradiction h).symm) rfl
theorem contP_step {all:List (List UInt8×Int)}{a z:Int}{d:Nat}{e:List UInt8}{r:List (List UInt8)}{done:List UInt8}(hv:value a all e=(z,0)) (hn:(numP d z).1=0):contP done (exprsP all a d (e::r))=contP (done++(numP d z).2) (exprsP all a d r):=by
 simp only [exprsP,hv]
 rw [if_neg (by simp),if_neg (by simp [hn])]
 unfold contP
 by_cases h:(exprsP all a d r).1=0
 ·simp [h]
 ·simp [h]
theorem numP_len (d:Nat) (z:Int):(numP d z).2.length≤2:=by
 unfold numP
 split<;>split<;>simp
set_option maxRecDepth 100000 in
set_option maxHeartbeats 1600000 in
theorem putExpressions_any (w:World) (B ba g sc:Nat) (vl vs vn vt vb:Value) (ls:List LnV) (ss:List StV) (ns ts:List (ByteArray×Int)) (sz:Nat) (bs:List UInt8) (h:AsmAt w B ba vl vs vn vt vb ls ss ns ts sz bs) (hv:vs=.slice (some ⟨g,0,none⟩) ss.length sc) (hnl:ns.length≤1000) (hbl:bs.length≤800000) (i:Nat) (hi:i<ss.length) (x:StV) (hx:ss[i]=x) (hok:ExOk x) (hw:x.es≠[]→x.o.width=1∨x.o.width=2) (at_:Nat) (hB:B≤w.heap.size) (R:Int×List UInt8) (hR:exprsP (plainN ns) at_ x.o.width (x.es.map L)=R) :
  Calls Tryz.prog 83 #[.pointer (some ⟨ba,0,none⟩),.pointer (some ⟨g,i*11,none⟩),.int .i64 (at_:Nat)] w (PutPost B ba vl vs vn vt ls ss ns ts sz bs R (.int .i64 R.1) w):=by
 subst hv
 have hst:=h.stAt rfl i hi
 have hstr:=h.strs ss[i] (List.getElem_mem hi)
 rw [hx] at hst hstr
 obtain ⟨va,vc,hve⟩:=hstr.form
 have c8:w.cell? ⟨g,i*11+8,none⟩=some (.slice va x.es.length vc):=by rw [←hve];exact hst.2 8 _ rfl
 obtain ⟨na,nc,hnv,_⟩:=own_names h.nown
 subst hnv
 have HX:=hid h
 have HR:=hid hR
 have HOK:=hid hok
 have HW:=hid hw
 have HXX:=hid hx
 have hfew:=hok.few
 clear h hst hstr hR hok hw hx
 go_enter Tryz.func83,Tryz.ntmps83
 go_wp2_with fail
 go_loopw [16] (fun q wr=>∃(j:Nat) (vb':Value) (done:List UInt8),j≤x.es.length∧q=.int .i64 j∧done.length≤2*j∧R=contP done (exprsP (plainN ns) at_ x.o.width ((x.es.drop j).map L))∧FrB B [] w wr∧AsmAt wr B ba vl (.slice (some ⟨g,0,none⟩) ss.length sc) (.slice na ns.length nc) vt vb' ls ss ns ts sz (bs++done)) (fun q _=>x.es.length-(intOf q).toNat)
 case atStart=>exact ⟨0,vb,[],Nat.zero_le _,rfl,by simp,by rw [contP_nil,List.drop_zero];exact HR.out.symm,FrB.refl _ _,by simpa using HX.out⟩
 case round =>
  obtain ⟨j,vb',done,hj,rfl,hdl,hrr,hf,hxr⟩:=hrel
  have HRR:=hid hrr
  have HF:=hid hf
  have HXR:=hid hxr
  have hBr:B≤wr.heap.size:=Nat.le_trans hB hf.size
  clear hrr hf hxr
  by_cases hlt:j<x.es.length
  ·have kd:decide ((j:Int)<(x.es.length:Int))=true:=by simp;omega
   have hstr:=HXR.out.strs ss[i] (List.getElem_mem hi)
   rw [HXX.out] at hstr
   obtain ⟨ge,off,cap,hve2,hgl,hce⟩:=hstr.cell j hlt
   rw [hve] at hve2
   injection hve2 with e1 _ e2
   subst e1 e2
   obtain ⟨e,hee⟩:∃e,x.es[j]=e:=⟨_,rfl⟩
   rw [hee] at hce
   have hesz:e.size≤1000:=by rw [←hee];exact HOK.out.short j hlt
   have hst:=HXR.out.stAt rfl i hi
   rw [HXX.out] at hst
   have c2:wr.cell? ⟨ba,2,none⟩=some (.slice na ns.length nc):=HXR.out.row.cell 2 (by simp)
   have hna:NamesAt wr na ns:=by
    obtain ⟨na2,nc2,h1,h2⟩:=own_names HXR.out.nown
    injection h1 with h1 _ _
    rw [h1];exact h2
   obtain ⟨q,hq⟩:∃q,value at_ (plainN ns) (L e)=q:=⟨_,rfl⟩
   obtain ⟨z,er⟩:=q
   have hdr:(x.es.drop j).map L=L e::(x.es.drop (j+1)).map L:=by rw [List.drop_eq_getElem_cons hlt,hee];rfl
   have HNA:=hid hna
   have HQ:=hid hq
   have HDR:=hid hdr
   have hlb:=HXR.out.row.lt
   clear hna hq hdr hstr hee hst
   go_wp2_with fail
   refine (xValue_any e at_ na nc ns _ z er (by unfold maxLen;omega) (by unfold maxLen;omega) HNA.out HQ.out).mono ?_
   rintro e' w1 ⟨rfl,hb1⟩
   have HX1:=hid (HXR.out.below hb1)
   have HF1:=hid (HF.out.trans (FrB.of_below hb1))
   have hB1:B≤w1.heap.size:=Nat.le_trans hBr hb1.size
   clear hb1 c2 hce
   by_cases her:er=0
   ·subst her
    have hst:=HX1.out.stAt rfl i hi
    rw [HXX.out] at hst
    have c4:w1.cell? ⟨g,i*11+4,none⟩=some (.int .i64 (x.o.width:Nat)):=hst.2 4 _ rfl
    have hbz:=value_bd HQ.out
    have hww:=HW.out (fun e=>by rw [e] at hlt;simp at hlt)
    obtain ⟨nr,hnr⟩:∃nr,numP x.o.width z=nr:=⟨_,rfl⟩
    have hpn:=putNumber_any w1 B ba vl _ _ vt vb' ls ss ns ts sz (bs++done) HX1.out (by rw [List.length_append];omega) z hbz x.o.width hww hB1
    rw [hnr] at hpn
    have HPN:=hid hpn
    have HNR:=hid hnr
    have hnl2:nr.2.length≤2:=by rw [←hnr];exact numP_len _ _
    clear hst hpn hnr hbz hww
    go_wp2_with fail
    refine HPN.out.mono ?_
    rintro e' w2 ⟨rfl,hf2,hx2⟩
    have HF2:=hid (HF1.out.trans hf2)
    have HX2:=hid hx2
    clear hf2 hx2 c4
    by_cases hn0:nr.1=0
    ·obtain ⟨vb2,hx2⟩:=HX2.out hn0
     have HX3:=hid hx2
     have kn:(nr.1 != 0)=false:=by simp [hn0]
     clear hx2
     go_wp2_with fail
     go_roundw
     case rel =>
      refine ⟨j+1,vb2,done++nr.2,by omega,by go_num,by rw [List.length_append];omega,?_,HF2.out,by rw [←List.append_assoc];exact HX3.out⟩
      rw [HRR.out,HDR.out,contP_step HQ.out (by rw [HNR.out];exact hn0),HNR.out]
     case measure=>simp [intOf];omega
    ·have kn:(nr.1 != 0)=true:=by simpa using hn0
     have hre:R=(nr.1,[]):=by
      rw [HRR.out,HDR.out]
      simp only [exprsP,HQ.out]
      rw [if_neg (by simp),HNR.out,if_pos hn0]
      unfold contP
      rw [if_pos hn0]
     subst hre
     go_wp2_with fail
     go_ret
     exact ⟨rfl,HF2.out,fun h=>absurd h hn0⟩
   ·have ke:(er != 0)=true:=by simpa using her
    have hre:R=(er,[]):=by
     rw [HRR.out,HDR.out]
     simp only [exprsP,HQ.out]
     rw [if_pos her]
     unfold contP
     rw [if_pos her]
    subst hre
    go_wp2_with fail
    go_ret
    exact ⟨rfl,HF1.out,fun h=>absurd h her⟩
  ·have kd:decide ((j:Int)<(x.es.length:Int))=false:=by simp;omega
   have hre:R=(0,done):=by
    rw [HRR.out,List.drop_of_length_le (by omega)]
    simp [exprsP,contP]
   subst hre
   go_wp2_with fail
   go_ret
   exact ⟨rfl,HF.out,fun _=>⟨vb',HXR.out⟩⟩
def jumpV (all:List (List UInt8×Int)) (at_:Nat) (x:StV) (e0:List UInt8):Int×List UInt8:=
 if x.long then behind (x.o.long+x.added:Nat) (exprsP all at_ x.o.width (x.es.map L))
 else if (value at_ all e0).2≠0 then ((value at_ all e0).2,[])
 else (0,[byteP (x.o.code+x.added:Nat),byteP ((value at_ all e0).1-(at_+2))])
set_option maxRecDepth 100000 in
set_option maxHeartbeats 1600000 in
theorem putJump_any (w:World) (B ba g sc:Nat) (vl vn vt vb:Value) (ls:List LnV) (ss:List StV) (ns ts:List (ByteArray×Int)) (sz:Nat) (bs:List UInt8) (h:AsmAt w B ba vl (.slice (some ⟨g,0,none⟩) ss.length sc) vn vt vb ls ss ns ts sz bs) (hnl:ns.length≤1000) (hbl:bs.length≤700000) (i:Nat) (hi:i<ss.length) (x:StV) (hx:ss[i]=x) (hok:ExOk x) (hw:x.o.width=2) (hc:x.o.code≤1000∧x.o.long≤1000∧x.added≤1000) (e0:ByteArray) (he:x.es[0]?=some e0) (at_:Nat) (ha:at_≤1000000) (hB:B≤w.heap.size) (R:Int×List UInt8) (hR:jumpV (plainN ns) at_ x (L e0)=R) :
  Calls Tryz.prog 84 #[.pointer (some ⟨ba,0,none⟩),.pointer (some ⟨g,i*11,none⟩),.int .i64 (at_:Nat)] w (PutPost B ba vl (.slice (some ⟨g,0,none⟩) ss.length sc) vn vt ls ss ns ts sz bs R (.int .i64 R.1) w):=by
 have hst:=h.stAt rfl i hi
 rw [hx] at hst
 obtain ⟨hc1,hc2,hc3⟩:=hc
 have hesz:e0.size≤1000:=by
  obtain ⟨h1,h2⟩:=List.getElem?_eq_some_iff.1 he
  rw [←h2];exact hok.short 0 h1
 obtain ⟨⟨k,rg,c,l,d⟩,lab,has,added,v,es,count,long⟩:=x
 simp only at hw he hc1 hc2 hc3
 subst hw
 have s2:w.cell? ⟨g,i*11+2,none⟩=some (.int .i64 (c:Nat)):=hst.2 2 _ rfl
 have s3:w.cell? ⟨g,i*11+3,none⟩=some (.int .i64 (l:Nat)):=hst.2 3 _ rfl
 have s7:w.cell? ⟨g,i*11+7,none⟩=some (.int .i64 (added:Nat)):=hst.2 7 _ rfl
 have s10:w.cell? ⟨g,i*11+10,none⟩=some (.bool long):=hst.2 10 _ rfl
 have hgl:=hst.1
 have hwl:IntKind.i64.wrap ((l:Int)+(added:Int))=(l:Int)+(added:Int):=Go.IntWalk.i64_in _ (by omega)
 have hwc:IntKind.i64.wrap ((c:Int)+(added:Int))=(c:Int)+(added:Int):=Go.IntWalk.i64_in _ (by omega)
 have HX:=hid h
 have HXX:=hid hx
 have HOK:=hid hok
 have HE:=hid he
 unfold jumpV at hR
 simp only [Int.natCast_add] at hR
 have HR:=hid hR
 clear h hst hx hok he hR
 cases long with
 |true =>
  have hr:=HR.out
  rw [if_pos rfl] at hr
  have HRT:=hid hr
  clear hr HR
  go_enter Tryz.func84,Tryz.ntmps84
  go_wp2_with fail
  go_region_with (go_at_call 82;refine (putByte_any _ B ba vl _ vn vt vb ls ss ns ts sz bs (HX.out.below ((Below.refl _ _).drew)) (by omega) ((l:Int)+(added:Int)) hB).mono ?_;rintro e w1 ⟨rfl,hf1,hx1⟩)
  all_goals
   obtain ⟨vb1,hx1⟩:=hx1 (by first|rfl|trivial)
   have HF1:=hid ((FrB.of_below (B:=B) ((Below.refl w.heap.size w).drew)).trans hf1)
   have HX1:=hid hx1
   have hB1:B≤w1.heap.size:=Nat.le_trans hB HF1.out.size
   obtain ⟨Q,hQ⟩:∃Q,exprsP (plainN ns) at_ 2 (es.map L)=Q:=⟨_,rfl⟩
   have HQ:=hid hQ
   clear hf1 hx1 hQ s2 s3 s7 s10
   go_wp2_with fail
   refine (putExpressions_any w1 B ba g sc vl _ vn vt vb1 ls ss ns ts sz (bs++[byteP ((l:Int)+(added:Int))]) HX1.out rfl hnl (by simp;omega) i hi _ HXX.out HOK.out (fun _=>Or.inr rfl) at_ hB1 Q HQ.out).mono ?_
   rintro e w2 ⟨rfl,hf2,hx2⟩
   have HF2:=hid (HF1.out.trans hf2)
   have HX2:=hid hx2
   clear hf2 hx2
   have hr:=HRT.out
   rw [HQ.out] at hr
   unfold behind at hr
   by_cases hq0:Q.1=0
   ·rw [if_neg (by simp [hq0])] at hr
    subst hr
    obtain ⟨vb2,hx3⟩:=HX2.out hq0
    have HX3:=hid hx3
    clear hx3
    rw [hq0]
    go_wp2_with fail
    go_ret
    exact ⟨rfl,HF2.out,fun _=>⟨vb2,by rw [List.append_assoc] at HX3;exact HX3.out⟩⟩
   ·rw [if_pos hq0] at hr
    subst hr
    go_wp2_with fail
    go_ret
    exact ⟨rfl,HF2.out,fun h=>absurd h hq0⟩
 |false =>
  obtain ⟨q,hq⟩:∃q,value at_ (plainN ns) (L e0)=q:=⟨_,rfl⟩
  obtain ⟨z,er⟩:=q
  have hr:=HR.out
  rw [if_neg (by simp),hq] at hr
  have hhf:=howFar_any w B ba g sc vl _ vn vt vb ls ss ns ts sz bs HX.out rfl hnl i hi e0 (by rw [HXX.out];exact HE.out) hesz at_ ha z er hq
  have HBZ:=hid (show er=0→-1000000≤z∧z≤1000000 from fun h0=>value_bd (by rw [hq,h0]))
  have HHF:=hid hhf
  have HRX:=hid hr
  clear hhf hq hr HR
  go_enter Tryz.func84,Tryz.ntmps84
  go_wp2_with fail
  refine HHF.out.mono ?_
  rintro e w1 ⟨rfl,hb1⟩
  have HX1:=hid (HX.out.below hb1)
  have HF1:=hid (show FrB B [] w w1 from FrB.of_below hb1)
  have hB1:B≤w1.heap.size:=Nat.le_trans hB hb1.size
  have s2:w1.cell? ⟨g,i*11+2,none⟩=some (.int .i64 (c:Nat)):=by rw [hb1.cell (p:=⟨g,i*11+2,none⟩) hgl];exact s2
  have s7:w1.cell? ⟨g,i*11+7,none⟩=some (.int .i64 (added:Nat)):=by rw [hb1.cell (p:=⟨g,i*11+7,none⟩) hgl];exact s7
  clear hb1 s10 s3
  have hr:=HRX.out
  by_cases her:er=0
  ·subst her
   rw [if_neg (by simp)] at hr
   obtain ⟨q1,q2⟩:=HBZ.out rfl
   rw [if_pos rfl]
   obtain ⟨f,hf⟩:∃f,z-((at_:Int)+2)=f:=⟨_,rfl⟩
   rw [hf] at hr ⊢
   subst hr
   clear hf
   go_wp2_with fail
   go_region_with (go_at_call 82;refine (putByte_any _ B ba vl _ vn vt vb ls ss ns ts sz bs (HX1.out.below ((Below.refl _ _).drew)) (by omega) ((c:Int)+(added:Int)) hB1).mono ?_;rintro e w2 ⟨rfl,hf2,hx2⟩)
   all_goals
    obtain ⟨vb2,hx2⟩:=hx2 (by first|rfl|trivial)
    have HF2:=hid ((HF1.out.trans (FrB.of_below (B:=B) ((Below.refl w1.heap.size w1).drew))).trans hf2)
    have HX2:=hid hx2
    have hB2:B≤w2.heap.size:=Nat.le_trans hB HF2.out.size
    clear hf2 hx2 s2 s7
    go_wp2_with fail
    refine (putByte_any w2 B ba vl _ vn vt vb2 ls ss ns ts sz (bs++[byteP ((c:Int)+(added:Int))]) HX2.out (by simp;omega) f hB2).mono ?_
    rintro e w3 ⟨rfl,hf3,hx3⟩
    obtain ⟨vb3,hx3⟩:=hx3 (by first|rfl|trivial)
    have HF3:=hid (HF2.out.trans hf3)
    have HX3:=hid hx3
    clear hf3 hx3
    go_wp2_with fail
    go_ret
    exact ⟨rfl,HF3.out,fun _=>⟨vb3,by have:=HX3.out;rw [List.append_assoc] at this;exact this⟩⟩
  ·have ke:(er != 0)=true:=by simpa using her
   rw [if_pos her] at hr
   subst hr
   rw [if_neg her]
   go_wp2_with fail
   go_ret
   exact ⟨rfl,HF1.out,fun h=>absurd h her⟩
end
section
attribute [local go_sem ↓] Go.wp_at_zero Go.wp_at_succ
def bytesV (all:List (List UInt8×Int)) (at_ size:Nat) (x:StV):Int×List UInt8:=
 if x.o.kind=1∨x.o.kind=2 then behind (x.o.code+x.added:Nat) (exprsP all at_ x.o.width (x.es.map L))
 else if x.o.kind=3 then jumpV all at_ x ((x.es.map L).headD [])
 else if x.o.kind=4 then exprsP all at_ x.o.width (x.es.map L)
 else if x.o.kind=5∨x.o.kind=6 then (0,List.replicate size 0)
 else (0,[])
structure StOkV (x:StV):Prop where
 ex:ExOk x
 width:x.o.kind≤4→x.es≠[]→x.o.width=1∨x.o.width=2
 jump:x.o.kind=3→x.o.width=2∧x.es.length=1
 code:x.o.code≤1000∧x.o.long≤1000∧x.added≤1000
 kind:x.o.kind≤6
theorem byCells_zero (n:Nat):byCells (List.replicate n 0)=List.replicate n (.int .u8 0):=by
 unfold byCells
 rw [List.map_replicate]
 rfl
set_option maxRecDepth 100000 in
set_option maxHeartbeats 3200000 in
theorem makeBytes_any (w:World) (B ba g sc:Nat) (vl vn vt vb:Value) (ls:List LnV) (ss:List StV) (ns ts:List (ByteArray×Int)) (sz:Nat) (bs:List UInt8) (h:AsmAt w B ba vl (.slice (some ⟨g,0,none⟩) ss.length sc) vn vt vb ls ss ns ts sz bs) (hnl:ns.length≤1000) (hbl:bs.length≤600000) (i:Nat) (hi:i<ss.length) (x:StV) (hx:ss[i]=x) (hok:StOkV x) (t:ByteArray) (frm at_ size:Nat) (ha:at_≤1000000) (hsz:size≤100000) (hB:B≤w.heap.size) (R:Int×List UInt8) (hR:bytesV (plainN ns) at_ size x=R) :
  Calls Tryz.prog 51 #[.pointer (some ⟨ba,0,none⟩),.pointer (some ⟨g,i*11,none⟩),.agg #[.string t,.int .i64 (frm:Nat),.int .i64 (at_:Nat),.int .i64 (size:Nat)]] w (PutPost B ba vl (.slice (some ⟨g,0,none⟩) ss.length sc) vn vt ls ss ns ts sz bs R (.int .i64 R.1) w):=by
 have hb0:Below w.heap.size w (w.alloc (.cells #[.string t,.int .i64 (frm:Nat),.int .i64 (at_:Nat),.int .i64 (size:Nat)] 38)):=(Below.refl _ _).alloc (Nat.le_refl _) _
 have HROW:=hid (show RowT (w.alloc (.cells #[.string t,.int .i64 (frm:Nat),.int .i64 (at_:Nat),.int .i64 (size:Nat)] 38)) 38 w.heap.size [.string t,.int .i64 (frm:Nat),.int .i64 (at_:Nat),.int .i64 (size:Nat)] from RowT.new w 38 [.string t,.int .i64 (frm:Nat),.int .i64 (at_:Nat),.int .i64 (size:Nat)])
 have HX:=hid (h.below hb0)
 have HF:=hid (show FrB B [] w (w.alloc (.cells #[.string t,.int .i64 (frm:Nat),.int .i64 (at_:Nat),.int .i64 (size:Nat)] 38)) from FrB.of_below hb0)
 have hB1:B≤(w.alloc (.cells #[.string t,.int .i64 (frm:Nat),.int .i64 (at_:Nat),.int .i64 (size:Nat)] 38)).heap.size:=Nat.le_trans hB hb0.size
 obtain ⟨hc1,hc2,hc3⟩:=hok.code
 have HXX:=hid hx
 have HOK:=hid hok
 have HR:=hid hR
 clear h hb0 hx hok hR
 go_enter Tryz.func51,Tryz.ntmps51
 go_upto_region 1 with fail
 generalize w.alloc (.cells #[.string t,.int .i64 (frm:Nat),.int .i64 (at_:Nat),.int .i64 (size:Nat)] 38)=w1 at *
 generalize w.heap.size=b0 at *
 obtain ⟨⟨k,rg,c,l,d⟩,lab,has,added,v,es,count,long⟩:=x
 simp only at hc1 hc2 hc3
 have hst:=HX.out.stAt rfl i hi
 rw [HXX.out] at hst
 have s0:w1.cell? ⟨g,i*11,none⟩=some (.int .i64 (k:Nat)):=hst.2 0 _ rfl
 have s2:w1.cell? ⟨g,i*11+2,none⟩=some (.int .i64 (c:Nat)):=hst.2 2 _ rfl
 have s7:w1.cell? ⟨g,i*11+7,none⟩=some (.int .i64 (added:Nat)):=hst.2 7 _ rfl
 have y2:w1.cell? ⟨b0,2,none⟩=some (.int .i64 (at_:Nat)):=HROW.out.cell 2 (by simp)
 have y3:w1.cell? ⟨b0,3,none⟩=some (.int .i64 (size:Nat)):=HROW.out.cell 3 (by simp)
 have hwc:IntKind.i64.wrap ((c:Int)+(added:Int))=(c:Int)+(added:Int):=Go.IntWalk.i64_in _ (by omega)
 clear hst
 by_cases h12:k=1∨k=2
 ·have hr:=HR.out
  unfold bytesV at hr
  simp only [if_pos h12,Int.natCast_add] at hr
  have HRX:=hid hr
  have HWD:=hid (show es≠[]→d=1∨d=2 from HOK.out.width (by simp only;omega))
  clear hr HR
  have hkk:((k:Int)==1)=true∨(((k:Int)==1)=false∧((k:Int)==2)=true):=by
   rcases h12 with h|h
   ·exact Or.inl (by rw [beq_iff_eq];omega)
   ·exact Or.inr ⟨by rw [beq_eq_false_iff_ne];omega,by rw [beq_iff_eq];omega⟩
  clear h12
  rcases hkk with k1|⟨k1,k2⟩
  all_goals
   go_wp2_with fail
   go_region_with (go_at_call 82;refine (putByte_any _ B ba vl _ vn vt vb ls ss ns ts sz bs (HX.out.below ((Below.refl _ _).drew)) (by omega) ((c:Int)+(added:Int)) hB1).mono ?_;rintro e w2 ⟨rfl,hf2,hx2⟩)
   all_goals
    obtain ⟨vb2,hx2⟩:=hx2 (by first|rfl|trivial)
    have hf2':=(FrB.of_below (B:=B) ((Below.refl w1.heap.size w1).drew)).trans hf2
    have HF2:=hid (HF.out.trans hf2')
    have HX2:=hid hx2
    have y2:w2.cell? ⟨b0,2,none⟩=some (.int .i64 (at_:Nat)):=(HROW.out.fr hf2' rfl (fun h=>by cases h)).cell 2 (by simp)
    have hB2:B≤w2.heap.size:=Nat.le_trans hB1 hf2'.size
    obtain ⟨Q,hQ⟩:∃Q,exprsP (plainN ns) at_ d (es.map L)=Q:=⟨_,rfl⟩
    have HQ:=hid hQ
    clear hf2 hf2' hx2 hQ s0 s2 s7 y3
    go_wp2_with fail
    refine (putExpressions_any w2 B ba g sc vl _ vn vt vb2 ls ss ns ts sz (bs++[byteP ((c:Int)+(added:Int))]) HX2.out rfl hnl (by simp;omega) i hi _ HXX.out HOK.out.ex HWD.out at_ hB2 Q HQ.out).mono ?_
    rintro e w3 ⟨rfl,hf3,hx3⟩
    have HF3:=hid (HF2.out.trans hf3)
    have HX3:=hid hx3
    clear hf3 hx3
    have hr:=HRX.out
    rw [HQ.out] at hr
    unfold behind at hr
    by_cases hq0:Q.1=0
    ·rw [if_neg (by simp [hq0])] at hr
     subst hr
     obtain ⟨vb3,hx4⟩:=HX3.out hq0
     have HX4:=hid hx4
     clear hx4
     rw [hq0]
     go_wp2_with fail
     go_ret
     exact ⟨rfl,HF3.out,fun _=>⟨vb3,by have:=HX4.out;rw [List.append_assoc] at this;exact this⟩⟩
    ·rw [if_pos hq0] at hr
     subst hr
     go_wp2_with fail
     go_ret
     exact ⟨rfl,HF3.out,fun h=>absurd h hq0⟩
 have k1:((k:Int)==1)=false:=by rw [beq_eq_false_iff_ne];omega
 have k2:((k:Int)==2)=false:=by rw [beq_eq_false_iff_ne];omega
 by_cases h3:k=3
 ·subst h3
  obtain ⟨hj1,hj2⟩:=HOK.out.jump rfl
  simp only at hj1 hj2
  obtain ⟨e0,he0⟩:∃e0,es[0]?=some e0:=⟨es[0],List.getElem?_eq_getElem (by omega)⟩
  have hr:=HR.out
  unfold bytesV at hr
  simp only [if_neg h12,if_true] at hr
  have hhd:(es.map L).headD []=L e0:=by
   cases es with
   |nil=>simp at he0
   |cons a b=>simp at he0;rw [he0];rfl
  rw [hhd] at hr
  have HRX:=hid hr
  have HE0:=hid he0
  clear hr HR h12 he0 hhd
  go_wp2_with fail
  refine (putJump_any w1 B ba g sc vl vn vt vb ls ss ns ts sz bs HX.out hnl (by omega) i hi _ HXX.out HOK.out.ex hj1 ⟨hc1,hc2,hc3⟩ e0 HE0.out at_ ha hB1 R HRX.out).mono ?_
  rintro e w3 ⟨rfl,hf3,hx3⟩
  have HF3:=hid (HF.out.trans hf3)
  have HX3:=hid hx3
  clear hf3 hx3
  go_wp2_with fail
  go_ret
  exact ⟨rfl,HF3.out,HX3.out⟩
 have k3:((k:Int)==3)=false:=by rw [beq_eq_false_iff_ne];omega
 by_cases h4:k=4
 ·subst h4
  have hr:=HR.out
  unfold bytesV at hr
  simp only [if_neg h12,if_neg h3,if_true] at hr
  have HRX:=hid hr
  have HWD:=hid (show es≠[]→d=1∨d=2 from HOK.out.width (by simp only;omega))
  clear hr HR h12 h3
  go_wp2_with fail
  refine (putExpressions_any w1 B ba g sc vl _ vn vt vb ls ss ns ts sz bs HX.out rfl hnl (by omega) i hi _ HXX.out HOK.out.ex HWD.out at_ hB1 R HRX.out).mono ?_
  rintro e w3 ⟨rfl,hf3,hx3⟩
  have HF3:=hid (HF.out.trans hf3)
  have HX3:=hid hx3
  clear hf3 hx3
  go_wp2_with fail
  go_ret
  exact ⟨rfl,HF3.out,HX3.out⟩
 have k4:((k:Int)==4)=false:=by rw [beq_eq_false_iff_ne];omega
 by_cases h56:k=5∨k=6
 ·have hr:=HR.out
  unfold bytesV at hr
  simp only [if_neg h12,if_neg h3,if_neg h4,if_pos h56] at hr
  subst hr
  have hkk:((k:Int)==5)=true∨(((k:Int)==5)=false∧((k:Int)==6)=true):=by
   rcases h56 with h|h
   ·exact Or.inl (by rw [beq_iff_eq];omega)
   ·exact Or.inr ⟨by rw [beq_eq_false_iff_ne];omega,by rw [beq_iff_eq];omega⟩
  obtain ⟨i0,hi0,hz0,hz1,hz2⟩:=info_parts info_by
  obtain ⟨a5,cap5,hv5⟩:=own_form HX.out.bown
  subst hv5
  have c5:w1.cell? ⟨ba,5,none⟩=some (.slice a5 bs.length cap5):=HX.out.row.cell 5 (by simp)
  have f5:=HX.out.row.free 5
  have hlb:=HX.out.row.lt
  have hneb:(Value.slice a5 bs.length cap5).ownBlock≠some ba:=own_row_ne HX.out.bown HX.out.row (by decide)
  clear h12 h3 h4 h56 HR
  rcases hkk with k5|⟨k5,k6⟩
  all_goals
   go_wp2_with fail
   go_region_law
    (first
     |(refine step_append_zeros _ (by rfl) _ _ _ _ (by rfl) B 5 i0 _ Tryz.underlying30 Tryz.underlying3 hi0 hz0 hz1 hz2 rfl rfl (.slice a5 bs.length cap5) bs.length (byCells bs) (by rfl) (HX.out.bown.drew) size (by rfl) (by omega) (by omega) hB1 ?_;intro v' w4 hown4 hgrow;obtain ⟨a6,cap6,hv6⟩:=own_form hown4;subst hv6;have hc4:=(hgrow.cell_far ⟨ba,5,none⟩ hlb (Ne.symm hneb)).trans c5;have hf4:=(hgrow.frozen_far ⟨ba,5,none⟩ hlb (Ne.symm hneb)).trans f5))
   all_goals
    have HL:=hid (((HX.out.below ((Below.refl w1.heap.size w1).drew)).bytes (more:=List.replicate size 0) (nv:=.slice a6 (bs.length+size) cap6) hgrow (by rw [byCells_zero,List.length_replicate];exact hown4)))
    have HF4:=hid ((HF.out.trans (FrB.of_below (B:=B) ((Below.refl w1.heap.size w1).drew))).trans HL.out.2)
    clear hown4 hgrow hc4 hf4
    go_wp2_with fail
    go_ret
    exact ⟨rfl,HF4.out,fun _=>⟨_,HL.out.1⟩⟩
 have k5:((k:Int)==5)=false:=by rw [beq_eq_false_iff_ne];omega
 have k6:((k:Int)==6)=false:=by rw [beq_eq_false_iff_ne];omega
 have hr:=HR.out
 unfold bytesV at hr
 simp only [if_neg h12,if_neg h3,if_neg h4,if_neg h56] at hr
 subst hr
 go_wp2_with fail
 go_ret
 exact ⟨rfl,HF.out,fun _=>⟨vb,by rw [List.append_nil];exact HX.out⟩⟩
end
section
attribute [local go_sem ↓] Go.wp_at_zero Go.wp_at_succ
def growV (all:List (List UInt8×Int)) (ln:LnV) (x:StV):Bool:=
 decide (x.o.kind=3)&&!x.long&&(decide ((value ln.at_ all ((x.es.map L).headD [])).2=0)&&(decide ((value ln.at_ all ((x.es.map L).headD [])).1-(ln.at_+2) < -128) || decide (127<(value ln.at_ all ((x.es.map L).headD [])).1-(ln.at_+2))))
def longV1 (all:List (List UInt8×Int)) (ln:LnV) (x:StV):StV:=if growV all ln x then { x with long:=true } else x
def lenL (all:List (List UInt8×Int)):List LnV→List StV→List StV
 |l::lr,x::xr=>longV1 all l x::lenL all lr xr
 |_,r=>r
def anyG (all:List (List UInt8×Int)):List LnV→List StV→Bool
 |l::lr,x::xr=>growV all l x || anyG all lr xr
 |_,_=>false
def LePost (B ba:Nat) (vl vs vn vt vb:Value) (ls:List LnV) (ss:List StV) (ns ts:List (ByteArray×Int)) (sz:Nat) (bs:List UInt8) (w:World) (e:Ending) (w':World):Prop:=
 e=.returned (.bool (anyG (plainN ns) ls ss))∧FrA B [] w w'∧AsmAt w' B ba vl vs vn vt vb ls (lenL (plainN ns) ls ss) ns ts sz bs
set_option maxRecDepth 100000 in
set_option maxHeartbeats 3200000 in
theorem lengthen_any (w:World) (B ba:Nat) (vl vs vn vt vb:Value) (ls:List LnV) (ss:List StV) (ns ts:List (ByteArray×Int)) (sz:Nat) (bs:List UInt8) (h:AsmAt w B ba vl vs vn vt vb ls ss ns ts sz bs) (hls:ls.length=ss.length) (hl3:ls.length≤300) (hnl:ns.length≤1000) (hok:∀x∈ss,StOkV x) (hln:∀l∈ls,l.at_≤1000000) (hB:B≤w.heap.size) :
  Calls Tryz.prog 50 #[.pointer (some ⟨ba,0,none⟩)] w (LePost B ba vl vs vn vt vb ls ss ns ts sz bs w):=by
 obtain ⟨al,cl,hvl⟩:=own_form h.lown
 obtain ⟨sa,cs,hvs⟩:=own_form h.sown
 subst hvl hvs
 have c1:w.cell? ⟨ba,1,none⟩=some (.slice sa ss.length cs):=h.row.cell 1 (by simp)
 obtain ⟨SS,hSS⟩:∃SS,lenL (plainN ns) ls ss=SS:=⟨_,rfl⟩
 obtain ⟨FF,hFF⟩:∃FF,anyG (plainN ns) ls ss=FF:=⟨_,rfl⟩
 unfold LePost
 rw [hSS,hFF]
 obtain ⟨POST,hPOST⟩:∃POST:Ending→World→Prop,POST=fun e w'=>e=.returned (.bool FF)∧FrA B [] w w'∧AsmAt w' B ba (.slice al ls.length cl) (.slice sa ss.length cs) vn vt vb ls SS ns ts sz bs:=⟨_,rfl⟩
 have HPOST:=hid hPOST
 show Calls _ _ _ _ (fun e w'=>e=.returned (.bool FF)∧FrA B [] w w'∧AsmAt w' B ba (.slice al ls.length cl) (.slice sa ss.length cs) vn vt vb ls SS ns ts sz bs)
 rw [←hPOST]
 have hls1:ls.length≤ss.length:=Nat.le_of_eq hls
 have hls2:ss.length≤ls.length:=Nat.le_of_eq hls.symm
 have HX:=hid h
 have HOK:=hid hok
 have HLN:=hid hln
 have HSS:=hid hSS
 have HFF:=hid hFF
 clear h hok hln hSS hFF hPOST hls
 go_enter Tryz.func50,Tryz.ntmps50
 go_wp2_with fail
 go_loopw [11,3] (fun q fv wr=>∃(j:Nat) (f:Bool) (done:List StV),j≤ss.length∧q=.int .i64 j∧fv=.bool f∧done.length=j∧SS=done++lenL (plainN ns) (ls.drop j) (ss.drop j)∧FF=(f || anyG (plainN ns) (ls.drop j) (ss.drop j))∧FrA B [] w wr∧AsmAt wr B ba (.slice al ls.length cl) (.slice sa ss.length cs) vn vt vb ls (done++ss.drop j) ns ts sz bs) (fun q _ _=>ss.length-(intOf q).toNat)
 case atStart=>exact ⟨0,false,[],Nat.zero_le _,rfl,rfl,rfl,by simpa using HSS.out.symm,by simpa using HFF.out.symm,FrA.refl _ _,by simpa using HX.out⟩
 case round =>
  obtain ⟨j,f,done,hj,rfl,rfl,hdl,h1,h2,hf,hxr⟩:=hrel
  have H1:=hid h1
  have H2:=hid h2
  have HF:=hid hf
  have HXR:=hid hxr
  have hBr:B≤wr.heap.size:=Nat.le_trans hB hf.size
  have HDL:=hid hdl
  have hdl1:done.length≤j:=Nat.le_of_eq hdl
  have hdl2:j≤done.length:=Nat.le_of_eq hdl.symm
  clear h1 h2 hf hxr hdl
  by_cases hlt:j<ss.length
  ·have kd:decide ((j:Int)<(ss.length:Int))=true:=by simp;omega
   have hjl:j<ls.length:=by omega
   have hll:(done++ss.drop j).length=ss.length:=by rw [List.length_append,List.length_drop];omega
   obtain ⟨cur,hcur⟩:∃cur,done++ss.drop j=cur:=⟨_,rfl⟩
   have HCUR:=hid hcur
   rw [hcur] at HXR hll
   have HLL:=hid hll
   have hll1:cur.length≤ss.length:=Nat.le_of_eq hll
   have hll2:ss.length≤cur.length:=Nat.le_of_eq hll.symm
   clear hll
   obtain ⟨gl,cl2,hv1,_,hgl⟩:=HXR.out.lown.form (by omega)
   injection hv1 with e1 e3 e2
   clear e3
   subst e1 e2
   obtain ⟨gs,cs2,hv2,_,hgs⟩:=HXR.out.sown.form (by omega)
   injection hv2 with e1 e3 e2
   clear e3
   subst e1 e2
   obtain ⟨x,hx⟩:∃x,ss[j]=x:=⟨_,rfl⟩
   obtain ⟨ln,hln⟩:∃ln,ls[j]=ln:=⟨_,rfl⟩
   have hxo:=HOK.out ss[j] (List.getElem_mem hlt)
   rw [hx] at hxo
   have hat:=HLN.out ls[j] (List.getElem_mem hjl)
   rw [hln] at hat
   have hdrs:ss.drop j=x::ss.drop (j+1):=by rw [List.drop_eq_getElem_cons hlt,hx]
   have hdrl:ls.drop j=ln::ls.drop (j+1):=by rw [List.drop_eq_getElem_cons hjl,hln]
   have hjc:j<cur.length:=by omega
   have hcj:cur[j]=x:=by
    have e7:cur[j]?=some x:=by
     rw [←hcur,List.getElem?_append_right (by omega),HDL.out,Nat.sub_self,hdrs]
     rfl
    rw [List.getElem?_eq_getElem hjc] at e7
    exact Option.some.inj e7
   have hxc:AsmAt wr B ba (.slice (some ⟨gl,0,none⟩) ls.length cl) (.slice (some ⟨gs,0,none⟩) cur.length cs) vn vt vb ls cur ns ts sz bs:=by rw [HLL.out];exact HXR.out
   have hst:=hxc.stAt rfl j hjc
   rw [hcj] at hst
   have HXC:=hid hxc
   have HDRS:=hid hdrs
   have HDRL:=hid hdrl
   have HCJ:=hid hcj
   have HXO:=hid hxo
   have s0:wr.cell? ⟨gs,j*11,none⟩=some (.int .i64 (x.o.kind:Nat)):=hst.2 0 _ rfl
   have s10:wr.cell? ⟨gs,j*11+10,none⟩=some (.bool x.long):=hst.2 10 _ rfl
   have f10:wr.frozen? ⟨gs,j*11+10,none⟩=false:=own_free hxc.sown
   have c1:wr.cell? ⟨ba,1,none⟩=some (.slice (some ⟨gs,0,none⟩) ss.length cs):=HXR.out.row.cell 1 (by simp)
   have c0:wr.cell? ⟨ba,0,none⟩=some (.slice (some ⟨gl,0,none⟩) ls.length cl):=HXR.out.row.cell 0 (by simp)
   have d2:wr.cell? ⟨gl,j*4+2,none⟩=some (.int .i64 (ln.at_:Nat)):=by
    rw [hxc.lown.cellAt (j*4+2) (by omega),(lnCells_at ls j hjl).2.2.1,hln]
   have hstay:growV (plainN ns) ln x=false→SS=(done++[x])++lenL (plainN ns) (ls.drop (j+1)) (ss.drop (j+1))∧FF=(f || anyG (plainN ns) (ls.drop (j+1)) (ss.drop (j+1)))∧cur=(done++[x])++ss.drop (j+1):=fun hg=>by
    refine ⟨?_,?_,?_⟩
    ·rw [H1.out,HDRS.out,HDRL.out];simp only [lenL,longV1,hg];simp
    ·rw [H2.out,HDRS.out,HDRL.out];simp only [anyG,hg];simp
    ·rw [←hcur,HDRS.out];simp only [List.append_assoc,List.cons_append,List.nil_append]
   have HSTAY:=hid hstay
   have hgsl:gs<wr.heap.size:=hgs
   clear hxc hst hdrs hdrl hcj hxo hx hln hcur hstay hgl
   by_cases hk:x.o.kind=3
   ·have kk:((x.o.kind:Int)==3)=true:=by rw [beq_iff_eq];omega
    cases hlg:x.long with
    |true =>
     rw [hlg] at s10
     obtain ⟨n1,n2,n3⟩:=HSTAY.out (by unfold growV;rw [hlg];simp)
     have N1:=hid n1
     have N2:=hid n2
     have N3:=hid n3
     clear n1 n2 n3
     go_wp2_with fail
     go_roundw
     case rel=>exact ⟨j+1,f,done++[x],by omega,by go_num,rfl,by rw [List.length_append,HDL.out];rfl,N1.out,N2.out,HF.out,by rw [←N3.out];exact HXR.out⟩
     case measure=>simp [intOf];omega
    |false =>
     rw [hlg] at s10
     obtain ⟨_,hj2⟩:=HXO.out.jump hk
     obtain ⟨e0,he0⟩:∃e0,x.es[0]?=some e0:=⟨x.es[0],List.getElem?_eq_getElem (by omega)⟩
     have hesz:e0.size≤1000:=by
      obtain ⟨q1,q2⟩:=List.getElem?_eq_some_iff.1 he0
      rw [←q2];exact HXO.out.ex.short 0 q1
     have hhd:(x.es.map L).headD []=L e0:=by
      cases hes:x.es with
      |nil=>rw [hes] at he0;simp at he0
      |cons a b=>rw [hes] at he0;simp at he0;rw [he0];rfl
     obtain ⟨g,hg⟩:∃g,growV (plainN ns) ln x=g:=⟨_,rfl⟩
     obtain ⟨r,hr⟩:∃r,(!g)=r:=⟨_,rfl⟩
     have hft:=fits_any wr B ba gs cs (.slice (some ⟨gl,0,none⟩) ls.length cl) _ vn vt vb ls cur ns ts sz bs HXC.out rfl hnl j hjc e0 (by rw [HCJ.out];exact he0) hesz ln.at_ hat r (by
      rw [←hr,←hg]
      unfold growV
      rw [hhd,hlg]
      simp [hk])
     have HFT:=hid hft
     have HG:=hid hg
     clear hft hg he0 hhd hlg
     cases g
     all_goals
      subst hr
     focus
      go_wp2_with fail
      refine HFT.out.mono ?_
      rintro e w2 ⟨rfl,hb2⟩
      have HX2:=hid (HXR.out.below hb2)
      have HF2:=hid (HF.out.trans (FrA.of_below hb2))
      clear hb2 s0 c0 c1 d2
      obtain ⟨n1,n2,n3⟩:=HSTAY.out HG.out
      have N1:=hid n1
      have N2:=hid n2
      have N3:=hid n3
      clear n1 n2 n3
      go_wp2_with fail
      go_roundw
      case rel=>exact ⟨j+1,f,done++[x],by omega,by go_num,rfl,by rw [List.length_append,HDL.out];rfl,N1.out,N2.out,HF2.out,by rw [←N3.out];exact HX2.out⟩
      case measure=>simp [intOf];omega
     go_wp2_with fail
     refine HFT.out.mono ?_
     rintro e w2 ⟨rfl,hb2⟩
     have HX2:=hid (HXR.out.below hb2)
     have HXC2:=hid (HXC.out.below hb2)
     have HF2:=hid (HF.out.trans (FrA.of_below hb2))
     have s10:w2.cell? ⟨gs,j*11+10,none⟩=some (.bool false):=by rw [hb2.cell (p:=⟨gs,j*11+10,none⟩) hgsl];exact s10
     have f10:w2.frozen? ⟨gs,j*11+10,none⟩=false:=by rw [hb2.frozen (p:=⟨gs,j*11+10,none⟩) hgsl];exact f10
     clear hb2 s0 c0 c1 d2
     have HL:=hid (HXC2.out.longV j hjc)
     have hcs:cur.set j { cur[j] with long:=true }=(done++[{ x with long:=true }])++ss.drop (j+1):=by
      rw [HCJ.out,←HCUR.out,List.set_append_right _ _ (by omega),show j-done.length=0 by omega,HDRS.out]
      simp only [List.set_cons_zero,List.append_assoc,List.cons_append,List.nil_append]
     have HCS:=hid hcs
     clear hcs
     go_wp2_with fail
     go_roundw
     case rel =>
      refine ⟨j+1,true,done++[{ x with long:=true }],by omega,by go_num,rfl,by rw [List.length_append,HDL.out];rfl,?_,?_,HF2.out.trans HL.out.2,by rw [←HCS.out];have h9:=HL.out.1;rw [HLL.out] at h9;exact h9⟩
      ·rw [H1.out,HDRS.out,HDRL.out];simp only [lenL,longV1,HG.out];simp
      ·rw [H2.out,HDRS.out,HDRL.out];simp only [anyG,HG.out];simp
     case measure=>simp [intOf];omega
   ·have kk:((x.o.kind:Int)==3)=false:=by rw [beq_eq_false_iff_ne];omega
    obtain ⟨n1,n2,n3⟩:=HSTAY.out (by unfold growV;simp [hk])
    have N1:=hid n1
    have N2:=hid n2
    have N3:=hid n3
    clear n1 n2 n3
    go_wp2_with fail
    go_roundw
    case rel=>exact ⟨j+1,f,done++[x],by omega,by go_num,rfl,by rw [List.length_append,HDL.out];rfl,N1.out,N2.out,HF.out,by rw [←N3.out];exact HXR.out⟩
    case measure=>simp [intOf];omega
  ·have hjj:j=ss.length:=by omega
   subst hjj
   have kd:decide ((ss.length:Int)<(ss.length:Int))=false:=by simp
   have h1:=H1.out
   have h2:=H2.out
   rw [List.drop_of_length_le (Nat.le_refl ss.length),List.drop_of_length_le (show ls.length≤ss.length from hls1)] at h1 h2
   have hxx:=HXR.out
   rw [List.drop_of_length_le (Nat.le_refl ss.length)] at hxx
   have HXX:=hid hxx
   have N1:=hid h1
   have N2:=hid h2
   clear h1 h2 hxx
   go_wp2_with fail
   rw [HPOST.out]
   exact ⟨ret_bool (by rw [N2.out];simp [anyG]),HF.out,by rw [N1.out];exact HXX.out⟩
def findV:Nat→List LnV→List StV→List (ByteArray×Int)→List LnV×List StV×List (ByteArray×Int)
 |0,ls,ss,ns=>(ls,ss,ns)
 |n+1,ls,ss,ns=>if anyG (plainN ns) ls ss then findV n (setL ls (lenL (plainN ns) ls ss) 0) (lenL (plainN ns) ls ss) (setN (lenL (plainN ns) ls ss) 0 ns) else (ls,ss,ns)
def shortsV (ss:List StV):Nat:=ss.countP fun x=>!x.long
theorem longV1_short (all:List (List UInt8×Int)) (l:LnV) (x:StV) (h:(!(longV1 all l x).long)=true):(!x.long)=true:=by
 unfold longV1 at h
 split at h
 ·simp at h
 ·exact h
theorem lenL_le (all:List (List UInt8×Int)):∀(ls:List LnV) (ss:List StV),shortsV (lenL all ls ss)≤shortsV ss
 |[],ss=>by cases ss<;>simp [lenL]
 |l::lr,[]=>by simp [lenL]
 |l::lr,x::xr=>by
  have ih:=lenL_le all lr xr
  simp only [shortsV] at ih ⊢
  simp only [lenL,List.countP_cons]
  have h:=longV1_short all l x
  split<;>split<;>first|omega|(rename_i a b;exact absurd (h a) b)
theorem lenL_less {all:List (List UInt8×Int)}:∀{ls:List LnV}{ss:List StV},anyG all ls ss=true→shortsV (lenL all ls ss)<shortsV ss
 |[],ss,h=>by cases ss<;>simp [anyG] at h
 |l::lr,[],h=>by simp [anyG] at h
 |l::lr,x::xr,h=>by
  simp only [anyG,Bool.or_eq_true] at h
  have h2:=lenL_le all lr xr
  simp only [shortsV] at h2 ⊢
  simp only [lenL,List.countP_cons]
  rcases h with h|h
  ·have h3:x.long=false:=by unfold growV at h;simp at h;exact h.1.2
   have h5:(!(longV1 all l x).long)=false:=by simp [longV1,h]
   have h6:(!x.long)=true:=by simp [h3]
   rw [if_neg (by simp [h5]),if_pos h6]
   omega
  ·have h1:=lenL_less (all:=all) (ls:=lr) (ss:=xr) h
   simp only [shortsV] at h1
   have h4:=longV1_short all l x
   split<;>split<;>first|omega|(rename_i a b;exact absurd (h4 a) b)
theorem lenL_same {all:List (List UInt8×Int)}:∀{ls:List LnV}{ss:List StV},anyG all ls ss=false→lenL all ls ss=ss
 |[],ss,_=>by cases ss<;>rfl
 |l::lr,[],_=>rfl
 |l::lr,x::xr,h=>by
  simp only [anyG,Bool.or_eq_false_iff] at h
  simp [lenL,longV1,h.1,lenL_same h.2]
theorem lenL_length (all:List (List UInt8×Int)):∀(ls:List LnV) (ss:List StV),(lenL all ls ss).length=ss.length
 |[],ss=>by cases ss<;>simp [lenL]
 |l::lr,[]=>by simp [lenL]
 |l::lr,x::xr=>by simp [lenL,lenL_length all lr xr]
theorem lenL_mem {all:List (List UInt8×Int)}:∀{ls:List LnV}{ss:List StV}{y:StV},y∈lenL all ls ss→∃x∈ss,∃b,y={ x with long:=b }
 |[],ss,y,h=>by
  cases ss with
  |nil=>cases h
  |cons a b=>exact ⟨y,h,y.long,rfl⟩
 |l::lr,[],y,h=>by cases h
 |l::lr,x::xr,y,h=>by
  simp only [lenL] at h
  rcases List.mem_cons.1 h with h|h
  ·refine ⟨x,by simp,?_⟩
   unfold longV1 at h
   split at h
   ·exact ⟨true,h⟩
   ·exact ⟨x.long,h⟩
  ·obtain ⟨x',h1,h2⟩:=lenL_mem h
   exact ⟨x',by simp [h1],h2⟩
theorem setL_length:∀(ls:List LnV) (ss:List StV) (a:Nat),(setL ls ss a).length=ls.length
 |[],[],a=>rfl
 |[],x::xr,a=>rfl
 |l::lr,[],a=>rfl
 |l::lr,x::xr,a=>by simp [setL,setL_length lr xr]
theorem setN_length:∀(ss:List StV) (a:Nat) (ns:List (ByteArray×Int)),(setN ss a ns).length=ns.length
 |[],a,ns=>rfl
 |x::r,a,ns=>by simp only [setN];rw [setN_length r,setN1_len]
theorem setL_at:∀(ls:List LnV) (ss:List StV) (a n:Nat),ls.length=ss.length→(∀x∈ss,SzOk x n)→∀l∈setL ls ss a,l.at_≤a+1000*ss.length∧l.size≤1000
 |[],[],a,n,_,_,l,hl=>by cases hl
 |[],x::xr,a,n,h,_,l,hl=>by cases hl
 |m::lr,[],a,n,h,_,l,hl=>by simp at h
 |m::lr,x::xr,a,n,h,hok,l,hl=>by
  have hs:=sizeV_le (hok x (by simp)) a
  simp only [setL] at hl
  rcases List.mem_cons.1 hl with rfl|hl
  ·exact ⟨by simp only [List.length_cons];omega,hs⟩
  ·have:=setL_at lr xr (a+sizeV x a) n (by simpa using h) (fun y hy=>hok y (by simp [hy])) l hl
   simp only [List.length_cons]
   omega
def AllOk (ss:List StV) (n:Nat):Prop:=∀x∈ss,StOkV x∧SzOk x n
theorem AllOk.len {ss:List StV}{n:Nat}(h:AllOk ss n) (all:List (List UInt8×Int)) (ls:List LnV):AllOk (lenL all ls ss) n:=by
 intro y hy
 obtain ⟨x,hx,b,rfl⟩:=lenL_mem hy
 obtain ⟨⟨h1,h2,h3,h4,h5⟩,h6,h7,h8,h9,h10⟩:=h x hx
 exact ⟨⟨⟨h1.few,h1.short⟩,h2,h3,h4,h5⟩,h6,h7,h8,h9,h10⟩
def FdPost (B ba:Nat) (vl vs vn vt vb:Value) (R:List LnV×List StV×List (ByteArray×Int)) (ts:List (ByteArray×Int)) (bs:List UInt8) (w:World) (e:Ending) (w':World):Prop:=
 e=.returned (.tuple #[])∧FrA B [] w w'∧AsmAt w' B ba vl vs vn vt vb R.1 R.2.1 R.2.2 ts (endV R.2.1 0) bs
set_option maxRecDepth 100000 in
set_option maxHeartbeats 3200000 in
theorem findAddresses_any (w:World) (B ba:Nat) (vl vs vn vt vb:Value) (ls:List LnV) (ss:List StV) (ns ts:List (ByteArray×Int)) (sz:Nat) (bs:List UInt8) (h:AsmAt w B ba vl vs vn vt vb ls ss ns ts sz bs) (hls:ls.length=ss.length) (hl3:ls.length≤300) (hnl:ns.length≤1000) (hok:AllOk ss ns.length) (hB:B≤w.heap.size) (R:List LnV×List StV×List (ByteArray×Int)) (hR:findV (ss.length+1) (setL ls ss 0) ss (setN ss 0 ns)=R) :
  Calls Tryz.prog 34 #[.pointer (some ⟨ba,0,none⟩)] w (FdPost B ba vl vs vn vt vb R ts bs w):=by
 have hpl:=place_any w B ba vl vs vn vt vb ls ss ns ts sz bs h hls hl3 (fun x hx=>(hok x hx).2) hB
 have HPL:=hid hpl
 have HR:=hid hR
 have HOK:=hid hok
 have HLS:=hid hls
 clear h hpl hR hok hls
 go_enter Tryz.func34,Tryz.ntmps34
 go_wp2_with fail
 refine HPL.out.mono ?_
 rintro e w1 ⟨rfl,hf1,hx1⟩
 have HF1:=hid hf1
 have HX1:=hid hx1
 clear hf1 hx1
 go_wp2_with fail
 go_loopg [4] (ss.length+1) (fun q _ wr=>∃(ls1:List LnV) (ss1:List StV) (ns1:List (ByteArray×Int)),findV q ls1 ss1 ns1=R∧shortsV ss1<q∧ls1.length=ls.length∧ss1.length=ss.length∧ns1.length=ns.length∧AllOk ss1 ns.length∧(∀l∈ls1,l.at_≤1000000)∧FrA B [] w wr∧AsmAt wr B ba vl vs vn vt vb ls1 ss1 ns1 ts (endV ss1 0) bs)
 case atStart =>
  refine ⟨setL ls ss 0,ss,setN ss 0 ns,HR.out,by have:=List.countP_le_length (p:=fun x:StV=>!x.long) (l:=ss);unfold shortsV;omega,setL_length _ _ _,rfl,setN_length _ _ _,HOK.out,fun l hl=>?_,HF1.out,HX1.out⟩
  have:=(setL_at ls ss 0 ns.length HLS.out (fun x hx=>(HOK.out x hx).2) l hl).1
  have:=HLS.out
  omega
 case round =>
  obtain ⟨ls1,ss1,ns1,hfr,hsh,hl1,hs1,hn1,hok1,hat1,hf,hx⟩:=hrel
  have HFR:=hid hfr
  have HOK1:=hid hok1
  have HF:=hid hf
  have hBr:B≤wr.heap.size:=Nat.le_trans hB hf.size
  have hle:=lengthen_any wr B ba vl vs vn vt vb ls1 ss1 ns1 ts (endV ss1 0) bs hx (by have:=HLS.out;omega) (by omega) (by omega) (fun x hx=>(hok1 x hx).1) hat1 hBr
  have HLE:=hid hle
  have HL1:=hid hl1
  have HS1:=hid hs1
  have HN1:=hid hn1
  obtain ⟨g,hg⟩:∃g,anyG (plainN ns1) ls1 ss1=g:=⟨_,rfl⟩
  unfold LePost at HLE
  rw [hg] at HLE
  have HG:=hid hg
  clear hfr hok1 hf hx hle hl1 hs1 hn1 hat1 hg
  obtain ⟨q,hq⟩:∃q,gk=q+1:=⟨gk-1,by omega⟩
  subst hq
  cases g with
  |true =>
   have hfr:=HFR.out
   simp only [findV] at hfr
   rw [HG.out,if_pos rfl] at hfr
   have hsh2:=lenL_less HG.out
   have hok2:=HOK1.out.len (plainN ns1) ls1
   obtain ⟨ss2,hss2⟩:∃ss2,lenL (plainN ns1) ls1 ss1=ss2:=⟨_,rfl⟩
   have hs2:ss2.length=ss.length:=by rw [←hss2,lenL_length];exact HS1.out
   rw [hss2] at hfr hsh2 hok2 HLE
   have HFR2:=hid hfr
   have HOK2:=hid hok2
   have HS2:=hid hs2
   clear hfr hok2 hs2 hss2
   go_wp2_with fail
   refine HLE.out.mono ?_
   rintro e w2 ⟨rfl,hf2,hx2⟩
   have HF2:=hid (HF.out.trans hf2)
   have hB2:B≤w2.heap.size:=Nat.le_trans hBr hf2.size
   have hpl:=place_any w2 B ba vl vs vn vt vb ls1 ss2 ns1 ts (endV ss1 0) bs hx2 (by have:=HL1.out;have:=HS2.out;have:=HLS.out;omega) (by have:=HL1.out;omega) (fun x hx=>by rw [HN1.out];exact (HOK2.out x hx).2) hB2
   have HPL2:=hid hpl
   clear hf2 hx2 hpl
   go_wp2_with fail
   refine HPL2.out.mono ?_
   rintro e w3 ⟨rfl,hf3,hx3⟩
   have HF3:=hid (HF2.out.trans hf3)
   have HX3:=hid hx3
   clear hf3 hx3
   go_wp2_with fail
   go_roundg q
   case measure=>omega
   case rel =>
    refine ⟨setL ls1 ss2 0,ss2,setN ss2 0 ns1,HFR2.out,by omega,by rw [setL_length];exact HL1.out,HS2.out,by rw [setN_length];exact HN1.out,HOK2.out,fun l hl=>?_,HF3.out,HX3.out⟩
    have h1:=(setL_at ls1 ss2 0 ns.length (by have:=HL1.out;have:=HS2.out;have:=HLS.out;omega) (fun x hx=>(HOK2.out x hx).2) l hl).1
    have h2:=HS2.out
    have h3:=HLS.out
    omega
  |false =>
   have hfr:=HFR.out
   simp only [findV] at hfr
   rw [HG.out,if_neg (by simp)] at hfr
   have hnl:=HLE.out
   have hss:=lenL_same HG.out
   rw [hss] at HLE
   have HFR2:=hid hfr
   clear hfr hss hnl
   go_wp2_with fail
   refine HLE.out.mono ?_
   rintro e w2 ⟨rfl,hf2,hx2⟩
   have HF2:=hid (HF.out.trans hf2)
   have HX2:=hid hx2
   clear hf2 hx2
   go_wp2_with fail
   refine bodyPost_ret (v:=.tuple #[]) (by simp [results,Tryz.results34]) rfl ?_
   have hr:=HFR2.out
   subst hr
   exact ⟨rfl,HF2.out,HX2.out⟩
end
section
attribute [local go_sem ↓] Go.wp_at_zero Go.wp_at_succ
def allV (all:List (List UInt8×Int)):List (LnV×StV)→Int×Nat×List UInt8
 |[]=>(0,0,[])
 |p::r =>
  if (bytesV all p.1.at_ p.1.size p.2).1≠0 then ((bytesV all p.1.at_ p.1.size p.2).1,p.1.frm,[])
  else if (allV all r).1≠0 then ((allV all r).1,(allV all r).2.1,[])
  else (0,0,(bytesV all p.1.at_ p.1.size p.2).2++(allV all r).2.2)
theorem allV_err {all:List (List UInt8×Int)}:∀{l:List (LnV×StV)},((allV all l).1≠0→(allV all l).2.2=[])∧((allV all l).1=0→(allV all l).2.1=0)
 |[]=>⟨fun h=>absurd rfl h,fun _=>rfl⟩
 |p::r=>by
  simp only [allV]
  split
  ·rename_i h;exact ⟨fun _=>rfl,fun h1=>absurd h1 h⟩
  ·split
   ·rename_i h;exact ⟨fun _=>rfl,fun h1=>absurd h1 h⟩
   ·exact ⟨fun h=>absurd rfl h,fun _=>rfl⟩
def contA (done:List UInt8) (q:Int×Nat×List UInt8):Int×Nat×List UInt8:=if q.1≠0 then (q.1,q.2.1,[]) else (0,0,done++q.2.2)
theorem contA_nil {all:List (List UInt8×Int)}(l:List (LnV×StV)):contA [] (allV all l)=allV all l:=by
 unfold contA
 split
 ·rename_i h
  exact Prod.ext rfl (Prod.ext rfl (allV_err.1 h).symm)
 ·rename_i h
  have h0:=Classical.byContradiction h
  exact Prod.ext h0.symm (Prod.ext (allV_err.2 h0).symm rfl)
theorem contA_step {all:List (List UInt8×Int)}{p:LnV×StV}{r:List (LnV×StV)}{done:List UInt8}(h:(bytesV all p.1.at_ p.1.size p.2).1=0):contA done (allV all (p::r))=contA (done++(bytesV all p.1.at_ p.1.size p.2).2) (allV all r):=by
 simp only [allV]
 rw [if_neg (by simp [h])]
 unfold contA
 by_cases h2:(allV all r).1=0
 ·simp [h2]
 ·simp [h2]
theorem exprsP_len {all:List (List UInt8×Int)}{a:Int}{d:Nat}:∀(l:List (List UInt8)),(exprsP all a d l).2.length≤2*l.length
 |[]=>by simp [exprsP]
 |e::r=>by
  simp only [exprsP]
  split
  ·simp
  ·split
   ·simp
   ·split
    ·simp
    ·have h1:=exprsP_len (all:=all) (a:=a) (d:=d) r
     have h2:=numP_len d (value a all e).1
     simp only [List.length_append,List.length_cons]
     omega
theorem behind_lenA (c:Int) (x:Int×List UInt8):(behind c x).2.length≤1+x.2.length:=by
 unfold behind
 split
 ·simp
 ·simp;omega
theorem bytesV_len (all:List (List UInt8×Int)) (at_ size:Nat) (x:StV) (he:x.es.length≤200) (hs:size≤1000):(bytesV all at_ size x).2.length≤1000:=by
 have h1:=exprsP_len (all:=all) (a:=at_) (d:=x.o.width) (x.es.map L)
 rw [List.length_map] at h1
 unfold bytesV
 split
 ·have:=behind_lenA (x.o.code+x.added:Nat) (exprsP all at_ x.o.width (x.es.map L));omega
 ·split
  ·unfold jumpV
   split
   ·have:=behind_lenA (x.o.long+x.added:Nat) (exprsP all at_ x.o.width (x.es.map L));omega
   ·split<;>simp
  ·split
   ·omega
   ·split
    ·rw [List.length_replicate];exact hs
    ·simp
def MaPost (B ba:Nat) (vl vs vn vt:Value) (ls:List LnV) (ss:List StV) (ns ts:List (ByteArray×Int)) (sz:Nat) (bs:List UInt8) (R:Int×Nat×List UInt8) (w:World) (e:Ending) (w':World):Prop:=
 e=.returned (.tuple #[.int .i64 R.1,.int .i64 (R.2.1:Nat)])∧FrB B [] w w'∧(R.1=0→∃vb',AsmAt w' B ba vl vs vn vt vb' ls ss ns ts sz (bs++R.2.2))
set_option maxRecDepth 100000 in
set_option maxHeartbeats 3200000 in
theorem makeAllBytes_any (w:World) (B ba:Nat) (vl vs vn vt vb:Value) (ls:List LnV) (ss:List StV) (ns ts:List (ByteArray×Int)) (sz:Nat) (h:AsmAt w B ba vl vs vn vt vb ls ss ns ts sz []) (hnl:ns.length≤1000) (hls:ls.length=ss.length) (hl3:ls.length≤300) (hok:∀x∈ss,StOkV x∧x.es.length≤200) (hln:∀l∈ls,l.at_≤1000000∧l.size≤1000) (hB:B≤w.heap.size) (R:Int×Nat×List UInt8) (hR:allV (plainN ns) (ls.zip ss)=R) :
  Calls Tryz.prog 35 #[.pointer (some ⟨ba,0,none⟩)] w (MaPost B ba vl vs vn vt ls ss ns ts sz [] R w):=by
 obtain ⟨al,cl,hvl⟩:=own_form h.lown
 obtain ⟨sa,cs,hvs⟩:=own_form h.sown
 subst hvl hvs
 have c0:w.cell? ⟨ba,0,none⟩=some (.slice al ls.length cl):=h.row.cell 0 (by simp)
 have HX:=hid h
 have HR:=hid hR
 have HOK:=hid hok
 have HLN:=hid hln
 clear h hR hok hln
 go_enter Tryz.func35,Tryz.ntmps35
 go_wp2_with fail
 go_loopw [12] (fun q wr=>∃(j:Nat) (vb':Value) (done:List UInt8),j≤ls.length∧q=.int .i64 j∧done.length≤1000*j∧R=contA done (allV (plainN ns) ((ls.zip ss).drop j))∧FrB B [] w wr∧AsmAt wr B ba (.slice al ls.length cl) (.slice sa ss.length cs) vn vt vb' ls ss ns ts sz done) (fun q _=>ls.length-(intOf q).toNat)
 case atStart=>exact ⟨0,vb,[],Nat.zero_le _,rfl,by simp,by rw [contA_nil,List.drop_zero];exact HR.out.symm,FrB.refl _ _,HX.out⟩
 case round =>
  obtain ⟨j,vb',done,hj,rfl,hdl,hrr,hf,hxr⟩:=hrel
  have HRR:=hid hrr
  have HF:=hid hf
  have HXR:=hid hxr
  have hBr:B≤wr.heap.size:=Nat.le_trans hB hf.size
  clear hrr hf hxr
  by_cases hlt:j<ls.length
  ·have kd:decide ((j:Int)<(ls.length:Int))=true:=by simp;omega
   have hjs:j<ss.length:=by omega
   have kds:decide ((j:Int)<(ss.length:Int))=true:=by simp;omega
   obtain ⟨gl,cl2,hv1,_,hgl⟩:=HXR.out.lown.form (by omega)
   injection hv1 with e1 _ e2
   subst e1 e2
   obtain ⟨gs,cs2,hv2,_,hgs⟩:=HXR.out.sown.form (by omega)
   injection hv2 with e1 _ e2
   subst e1 e2
   obtain ⟨q0,q1,q2,q3⟩:=lnCells_at ls j hlt
   obtain ⟨ln,hln⟩:∃ln,ls[j]=ln:=⟨_,rfl⟩
   obtain ⟨t,frm,at_,size⟩:=ln
   rw [hln] at q0 q1 q2 q3
   have d0:wr.cell? ⟨gl,j*4,none⟩=some (.string t):=(HXR.out.lown.cellAt (j*4) (by omega)).trans q0
   have d1:wr.cell? ⟨gl,j*4+1,none⟩=some (.int .i64 (frm:Nat)):=(HXR.out.lown.cellAt (j*4+1) (by omega)).trans q1
   have d2:wr.cell? ⟨gl,j*4+2,none⟩=some (.int .i64 (at_:Nat)):=(HXR.out.lown.cellAt (j*4+2) (by omega)).trans q2
   have d3:wr.cell? ⟨gl,j*4+3,none⟩=some (.int .i64 (size:Nat)):=(HXR.out.lown.cellAt (j*4+3) (by omega)).trans q3
   obtain ⟨ha,hz⟩:=HLN.out ls[j] (List.getElem_mem hlt)
   rw [hln] at ha hz
   obtain ⟨hxo,hxe⟩:=HOK.out ss[j] (List.getElem_mem hjs)
   have hzp:(ls.zip ss).drop j=(⟨t,frm,at_,size⟩,ss[j])::(ls.zip ss).drop (j+1):=by
    rw [List.drop_eq_getElem_cons (by simp;omega)]
    simp [hln]
   obtain ⟨Q,hQ⟩:∃Q,bytesV (plainN ns) at_ size ss[j]=Q:=⟨_,rfl⟩
   have hql:Q.2.length≤1000:=by rw [←hQ];exact bytesV_len _ _ _ _ hxe hz
   have HZP:=hid hzp
   have HQ:=hid hQ
   have HXO:=hid hxo
   have hb1:Below wr.heap.size wr (wr.alloc (.cells #[.string t,.int .i64 (frm:Nat),.int .i64 (at_:Nat),.int .i64 (size:Nat)] 38)):=(Below.refl _ _).alloc (Nat.le_refl _) _
   have HROW:=hid (show RowT (wr.alloc (.cells #[.string t,.int .i64 (frm:Nat),.int .i64 (at_:Nat),.int .i64 (size:Nat)] 38)) 38 wr.heap.size [.string t,.int .i64 (frm:Nat),.int .i64 (at_:Nat),.int .i64 (size:Nat)] from RowT.new wr 38 [.string t,.int .i64 (frm:Nat),.int .i64 (at_:Nat),.int .i64 (size:Nat)])
   have HX1:=hid (HXR.out.below hb1)
   have HF1:=hid (HF.out.trans (FrB.of_below hb1))
   have hB1:B≤(wr.alloc (.cells #[.string t,.int .i64 (frm:Nat),.int .i64 (at_:Nat),.int .i64 (size:Nat)] 38)).heap.size:=Nat.le_trans hBr hb1.size
   clear hzp hQ hxo hb1 q0 q1 q2 q3 hln
   go_upto_region 4 with fail
   generalize wr.alloc (.cells #[.string t,.int .i64 (frm:Nat),.int .i64 (at_:Nat),.int .i64 (size:Nat)] 38)=w1 at *
   generalize wr.heap.size=b0 at *
   have y0:w1.cell? ⟨b0,0,none⟩=some (.string t):=HROW.out.cell 0 (by simp)
   have y1:w1.cell? ⟨b0,1,none⟩=some (.int .i64 (frm:Nat)):=HROW.out.cell 1 (by simp)
   have y2:w1.cell? ⟨b0,2,none⟩=some (.int .i64 (at_:Nat)):=HROW.out.cell 2 (by simp)
   have y3:w1.cell? ⟨b0,3,none⟩=some (.int .i64 (size:Nat)):=HROW.out.cell 3 (by simp)
   have c1:w1.cell? ⟨ba,1,none⟩=some (.slice (some ⟨gs,0,none⟩) ss.length cs):=HX1.out.row.cell 1 (by simp)
   clear d0 d1 d2 d3 hgl hgs
   go_region_with (go_at_call 51;refine (makeBytes_any _ B ba gs cs _ vn vt vb' ls ss ns ts sz done (HX1.out.below ((Below.refl _ _).drew)) hnl (by omega) j hjs ss[j] rfl HXO.out t frm at_ size ha (by omega) hB1 Q HQ.out).mono ?_;rintro e w2 ⟨rfl,hf2,hx2⟩)
   all_goals
    have hf2':=(FrB.of_below (B:=B) ((Below.refl w1.heap.size w1).drew)).trans hf2
    have HF2:=hid (HF1.out.trans hf2')
    have HX2:=hid hx2
    have y1:w2.cell? ⟨b0,1,none⟩=some (.int .i64 (frm:Nat)):=(HROW.out.fr hf2' rfl (fun h=>by cases h)).cell 1 (by simp)
    clear hf2 hf2' hx2 y0 y2 y3 c1
    by_cases hq0:Q.1=0
    ·obtain ⟨vb2,hx3⟩:=HX2.out hq0
     have HX3:=hid hx3
     clear hx3
     rw [hq0]
     go_wp2_with fail
     go_roundw
     case rel =>
      refine ⟨j+1,vb2,done++Q.2,by omega,by go_num,by rw [List.length_append];omega,?_,HF2.out,HX3.out⟩
      rw [HRR.out,HZP.out,contA_step (by simp only;rw [HQ.out];exact hq0)]
      simp only
      rw [HQ.out]
     case measure=>simp [intOf];omega
    ·have ke:(Q.1 != 0)=true:=by simpa using hq0
     have hre:R=(Q.1,frm,[]):=by
      rw [HRR.out,HZP.out]
      simp only [allV]
      rw [HQ.out,if_pos hq0]
      unfold contA
      rw [if_pos hq0]
     subst hre
     go_upto_region 6 with fail
     go_quiet (fail)
     go_wp2_with fail
     refine bodyPost_ret (v:=.tuple #[.int .i64 Q.1,.int .i64 (frm:Nat)]) (by simp [results,Tryz.results35]) rfl ?_
     exact ⟨rfl,HF2.out.drewN _,fun h=>absurd h hq0⟩
  ·have kd:decide ((j:Int)<(ls.length:Int))=false:=by simp;omega
   have hre:R=(0,0,done):=by
    rw [HRR.out,List.drop_of_length_le (by simp;omega)]
    simp [allV,contA]
   subst hre
   go_wp2_with fail
   refine bodyPost_ret (v:=.tuple #[.int .i64 0,.int .i64 0]) (by simp [results,Tryz.results35]) rfl ?_
   exact ⟨rfl,HF.out,fun _=>⟨vb',by rw [List.nil_append];exact HXR.out⟩⟩
end
structure SayOne (k:Nat) (ln:LnV) (x:StV) (s:StmP):Prop where
 o:x.o=s.o
 added:x.added=s.added
 count:x.count=s.count
 long:x.long=s.long
 es:s.o.kind≠0→x.es.map L=s.exprs
 txt:L ln.t=s.txt
 frm:ln.frm=s.frm
 at_:(ln.at_:Int)=s.at_
 has:x.has=true↔s.w.label≠[]
 set:s.w.op=opSet→s.w.label=[]
 lab:x.has=true→x.lab=k
def Say:Nat→List LnV→List StV→List StmP→Prop
 |_,[],[],[]=>True
 |k,ln::lr,x::xr,s::sr=>SayOne k ln x s∧Say (k+(nameP s).length) lr xr sr
 |_,_,_,_=>False
theorem Say.len:∀{k:Nat}{ls:List LnV}{ss:List StV}{l:List StmP},Say k ls ss l→ls.length=l.length∧ss.length=l.length
 |_,[],[],[],_=>⟨rfl,rfl⟩
 |_,ln::lr,x::xr,s::sr,h=>by
  have:=Say.len h.2
  simp only [List.length_cons]
  omega
 |_,[],[],_::_,h=>h.elim
 |_,[],_::_,_,h=>h.elim
 |_,_::_,[],_,h=>h.elim
 |_,_::_,_::_,[],h=>h.elim
theorem Say.snoc:∀{k:Nat}{ls:List LnV}{ss:List StV}{l:List StmP}{ln:LnV}{x:StV}{s:StmP},Say k ls ss l→SayOne (k+(namesP l).length) ln x s→Say k (ls++[ln]) (ss++[x]) (l++[s])
 |k,[],[],[],ln,x,s,_,h=>⟨by simpa [namesP] using h,trivial⟩
 |k,a::lr,b::xr,c::sr,ln,x,s,h,h1=>by
  refine ⟨h.1,Say.snoc h.2 ?_⟩
  have:namesP (c::sr)=nameP c++namesP sr:=rfl
  rw [this,List.length_append] at h1
  rw [Nat.add_assoc]
  exact h1
 |_,[],[],_::_,_,_,_,h,_=>h.elim
 |_,[],_::_,_,_,_,_,h,_=>h.elim
 |_,_::_,[],_,_,_,_,h,_=>h.elim
 |_,_::_,_::_,[],_,_,_,h,_=>h.elim
theorem say_size {k:Nat}{ln:LnV}{x:StV}{s:StmP}(h:SayOne k ln x s) (a:Nat):sizeV x a=sizeP { s with at_:=(a:Int) }:=by
 unfold sizeV sizeP
 rw [h.o,h.long,h.count]
 by_cases hk:s.o.kind=0
 ·simp [hk]
 ·have h1:=congrArg List.length (h.es hk)
  rw [List.length_map] at h1
  rw [h1]
  unfold StmP.exprs
  simp
theorem nameP_len (s:StmP) (a:Int):(nameP { s with at_:=a }).length=(nameP s).length:=by
 unfold nameP
 simp only
 split
 ·rfl
 ·split<;>rfl
theorem say_laid:∀{k:Nat}{ls:List LnV}{ss:List StV}{l:List StmP}(a:Nat),Say k ls ss l→Say k (setL ls ss a) ss (laidP l a)∧endV ss a=endP l a
 |_,[],[],[],a,_=>⟨trivial,rfl⟩
 |k,ln::lr,x::xr,s::sr,a,h=>by
  have hs:=say_size h.1 a
  obtain ⟨h1,h2⟩:=say_laid (a+sizeV x a) h.2
  refine ⟨⟨⟨h.1.o,h.1.added,h.1.count,h.1.long,h.1.es,h.1.txt,h.1.frm,rfl,h.1.has,h.1.set,h.1.lab⟩,?_⟩,?_⟩
  ·rw [nameP_len,←hs];exact h1
  ·show endV xr (a+sizeV x a)=endP sr (a+sizeP { s with at_:=(a:Int) })
   rw [h2,hs]
 |_,[],[],_::_,_,h=>h.elim
 |_,[],_::_,_,_,h=>h.elim
 |_,_::_,[],_,_,h=>h.elim
 |_,_::_,_::_,[],_,h=>h.elim
theorem plainN_set (ns:List (ByteArray×Int)) (i:Nat) (t:ByteArray) (z:Int):plainN (ns.set i (t,z))=(plainN ns).set i (L t,z):=by
 unfold plainN
 rw [List.map_set]
theorem say_names:∀{k:Nat}{ls:List LnV}{ss:List StV}{l:List StmP}(a:Nat) {P:List (List UInt8×Int)}{ns:List (ByteArray×Int)},Say k ls ss l→P.length=k→plainN ns=P++namesP l→plainN (setN ss a ns)=P++namesP (laidP l a)
 |_,[],[],[],a,P,ns,_,_,h=>h
 |k,ln::lr,x::xr,s::sr,a,P,ns,hs,hP,h=>by
  have hz:=say_size hs.1 a
  have hn:namesP (s::sr)=nameP s++namesP sr:=rfl
  rw [hn,←List.append_assoc] at h
  have hst:plainN (setN1 x a ns)=(P++nameP { s with at_:=(a:Int) })++namesP sr:=by
   unfold setN1
   by_cases hh:x.has=true
   ·have hl:=hs.1.has.1 hh
    have hns:¬s.w.op=opSet:=fun e=>hl (hs.1.set e)
    have e1:nameP s=[(s.w.label,s.at_)]:=by unfold nameP;rw [if_neg hns,if_neg hl]
    have e2:nameP { s with at_:=(a:Int) }=[(s.w.label,(a:Int))]:=by unfold nameP;rw [if_neg hns,if_neg hl]
    have hlab:=hs.1.lab hh
    rw [e1] at h
    have hget:(plainN ns)[k]?=some (s.w.label,s.at_):=by
     rw [h,List.append_assoc,List.getElem?_append_right (by omega),hP,Nat.sub_self]
     rfl
    rw [if_pos hh,hlab,plainN_set,h,e2]
    have hd:L (ns.getD k (⟨#[]⟩,0)).1=s.w.label:=by
     unfold plainN at hget
     rw [List.getElem?_map] at hget
     rw [List.getD_eq_getElem?_getD]
     cases hk:ns[k]? with
     |none=>rw [hk] at hget;cases hget
     |some y =>
      rw [hk] at hget
      simp only [Option.map_some,Option.some.injEq,Prod.mk.injEq] at hget
      simpa using hget.1
    rw [hd,List.append_assoc,List.append_assoc,List.set_append_right _ _ (by omega),hP,Nat.sub_self]
    rfl
   ·have hl:s.w.label=[]:=Classical.byContradiction fun e=>hh (hs.1.has.2 e)
    have e2:nameP { s with at_:=(a:Int) }=nameP s:=by unfold nameP;simp only [hl,if_true]
    rw [if_neg hh,e2]
    exact h
  have:=say_names (a+sizeV x a) hs.2 (P:=P++nameP { s with at_:=(a:Int) }) (ns:=setN1 x a ns) (by rw [List.length_append,nameP_len,hP]) hst
  show plainN (setN xr (a+sizeV x a) (setN1 x a ns))=P++(nameP { s with at_:=(a:Int) }++namesP (laidP sr (a+sizeP { s with at_:=(a:Int) })))
  rw [this,hz,List.append_assoc]
 |_,[],[],_::_,_,_,_,h,_,_=>h.elim
 |_,[],_::_,_,_,_,_,h,_,_=>h.elim
 |_,_::_,[],_,_,_,_,h,_,_=>h.elim
 |_,_::_,_::_,[],_,_,_,h,_,_=>h.elim
theorem say_grow {k:Nat}{ln:LnV}{x:StV}{s:StmP}(h:SayOne k ln x s) (all:List (List UInt8×Int)):growV all ln x=growsP all s:=by
 unfold growV growsP farP
 rw [h.o,h.long,h.at_]
 by_cases hk:s.o.kind=0
 ·simp [hk]
 ·rw [h.es hk,←Bool.and_assoc]
theorem say_long:∀{k:Nat}{ls:List LnV}{ss:List StV}{l:List StmP}(all:List (List UInt8×Int)),Say k ls ss l→Say k ls (lenL all ls ss) (l.map (longP all))∧anyG all ls ss=l.any (growsP all)
 |_,[],[],[],_,_=>⟨trivial,rfl⟩
 |k,ln::lr,x::xr,s::sr,all,h=>by
  have hg:=say_grow h.1 all
  obtain ⟨h1,h2⟩:=say_long all h.2
  have hn:(nameP (longP all s)).length=(nameP s).length:=by unfold longP;split<;>rfl
  refine ⟨⟨?_,by rw [hn];exact h1⟩,?_⟩
  ·unfold longV1 longP
   rw [hg]
   split
   ·exact ⟨h.1.o,h.1.added,h.1.count,rfl,h.1.es,h.1.txt,h.1.frm,h.1.at_,h.1.has,h.1.set,h.1.lab⟩
   ·exact h.1
  ·simp only [anyG,List.any_cons]
   rw [hg,h2]
 |_,[],[],_::_,_,h=>h.elim
 |_,[],_::_,_,_,h=>h.elim
 |_,_::_,[],_,_,h=>h.elim
 |_,_::_,_::_,[],_,h=>h.elim
theorem names_long (all:List (List UInt8×Int)) (l:List StmP):namesP (l.map (longP all))=namesP l:=by
 unfold namesP
 rw [List.flatMap_map]
 congr 1
 funext s
 unfold longP
 split<;>rfl
theorem say_find:∀(n:Nat) {ls:List LnV}{ss:List StV}{ns:List (ByteArray×Int)}{l:List StmP},Say 0 ls ss l→plainN ns=namesP l→Say 0 (findV n ls ss ns).1 (findV n ls ss ns).2.1 (findP n l)∧plainN (findV n ls ss ns).2.2=namesP (findP n l)
 |0,ls,ss,ns,l,h,hn=>⟨h,hn⟩
 |n+1,ls,ss,ns,l,h,hn=>by
  simp only [findV,findP]
  rw [hn]
  obtain ⟨h1,h2⟩:=say_long (namesP l) h
  rw [h2]
  split
  ·have h3:=(say_laid 0 h1).1
   have h4:=say_names 0 h1 (P:=[]) (ns:=ns) rfl (by rw [List.nil_append,names_long];exact hn)
   rw [List.nil_append] at h4
   exact say_find n h3 h4
  ·exact ⟨h,hn⟩
theorem say_bytes {k:Nat}{ln:LnV}{x:StV}{s:StmP}(h:SayOne k ln x s) (all:List (List UInt8×Int)) (hz:ln.size=sizeP s):bytesV all ln.at_ ln.size x=bytesP all s:=by
 unfold bytesV bytesP jumpV farP
 rw [h.o,h.added,h.long,h.at_,hz]
 by_cases hk:s.o.kind=0
 ·simp [hk]
 ·rw [h.es hk]
def Sized:List LnV→List StmP→Prop
 |ln::lr,s::sr=>ln.size=sizeP s∧Sized lr sr
 |_,_=>True
theorem say_all:∀{k:Nat}{ls:List LnV}{ss:List StV}{l:List StmP}(all:List (List UInt8×Int)),Say k ls ss l→Sized ls l→allV all (ls.zip ss)=allBytes all l
 |_,[],[],[],_,_,_=>rfl
 |k,ln::lr,x::xr,s::sr,all,h,hz=>by
  have hb:=say_bytes h.1 all hz.1
  have ih:=say_all all h.2 hz.2
  show allV all ((ln,x)::lr.zip xr)=_
  simp only [allV,allBytes]
  rw [hb,ih,h.1.frm]
 |_,[],[],_::_,_,h,_=>h.elim
 |_,[],_::_,_,_,h,_=>h.elim
 |_,_::_,[],_,_,h,_=>h.elim
 |_,_::_,_::_,[],_,h,_=>h.elim
theorem sized_laid:∀{k:Nat}{ls:List LnV}{ss:List StV}{l:List StmP}(a:Nat),Say k ls ss l→Sized (setL ls ss a) (laidP l a)
 |_,[],[],[],a,_=>trivial
 |k,ln::lr,x::xr,s::sr,a,h=>by
  have hs:=say_size h.1 a
  refine ⟨hs,?_⟩
  show Sized (setL lr xr (a+sizeV x a)) (laidP sr (a+sizeP { s with at_:=(a:Int) }))
  rw [←hs]
  exact sized_laid _ h.2
 |_,[],[],_::_,_,h=>h.elim
 |_,[],_::_,_,_,h=>h.elim
 |_,_::_,[],_,_,h=>h.elim
 |_,_::_,_::_,[],_,h=>h.elim
theorem sized_find:∀(n:Nat) {ls:List LnV}{ss:List StV}{ns:List (ByteArray×Int)}{l:List StmP},Say 0 ls ss l→plainN ns=namesP l→Sized ls l→Sized (findV n ls ss ns).1 (findP n l)
 |0,ls,ss,ns,l,_,_,hz=>hz
 |n+1,ls,ss,ns,l,h,hn,hz=>by
  simp only [findV,findP]
  rw [hn]
  obtain ⟨h1,h2⟩:=say_long (namesP l) h
  rw [h2]
  split
  ·have h3:=(say_laid 0 h1).1
   have h4:=say_names 0 h1 (P:=[]) (ns:=ns) rfl (by rw [List.nil_append,names_long];exact hn)
   rw [List.nil_append] at h4
   exact sized_find n h3 h4 (sized_laid 0 h1)
  ·exact hz
theorem getD_L (os:List ByteArray) (i:Nat):(os.map L).getD i []=L (os.getD i ⟨#[]⟩):=by
 rw [List.getD_eq_getElem?_getD,List.getD_eq_getElem?_getD,List.getElem?_map]
 cases os[i]?<;>rfl
theorem headD_L (os:List ByteArray):(os.map L).headD []=L (os.getD 0 ⟨#[]⟩):=by
 rw [←getD_L]
 cases os<;>rfl
theorem plainN_append (a b:List (ByteArray×Int)):plainN (a++b)=plainN a++plainN b:=by simp [plainN]
theorem countP_ok {kind:Nat}{sets:List (List UInt8×Int)}{e:List UInt8}(h:(countP kind sets e).1=0):(countP kind sets e).2≤1000∧(kind=6→0<(countP kind sets e).2):=by
 unfold countP at h ⊢
 split at h
 ·rename_i h1;exact absurd h h1
 ·rename_i h1
  rw [if_neg h1]
  split at h
  ·cases h
  ·rename_i h2
   rw [if_neg h2]
   have h3:¬(value 0 sets e).1<0:=fun h=>h2 (Or.inl h)
   have h4:¬1000<(value 0 sets e).1:=fun h=>h2 (Or.inr (Or.inl h))
   refine ⟨by show ((value 0 sets e).1.toNat)≤1000;omega,fun hk=>?_⟩
   show 0<(value 0 sets e).1.toNat
   have h5:¬alignB (value 0 sets e).1=false:=fun h=>h2 (Or.inr (Or.inr ⟨hk,h⟩))
   have h6:alignB (value 0 sets e).1=true:=by simpa using h5
   unfold alignB at h6
   simp only [decide_eq_true_eq] at h6
   omega
theorem operandsP_ok {o:OpnP}{ops:List (List UInt8)}{sets:List (List UInt8×Int)}(h:(operandsP o ops sets).1=0) (hr:o.regs≤2):takesP o ops.length=true∧(operandsP o ops sets).2.1≤15∧(operandsP o ops sets).2.2≤1000∧(o.kind=6→0<(operandsP o ops sets).2.2):=by
 unfold operandsP at h ⊢
 split at h
 ·cases h
 ·rename_i ht
  rw [if_neg ht]
  cases hrg:regsP (ops.take o.regs) 0 with
  |none=>rw [hrg] at h;cases h
  |some a =>
   rw [hrg] at h
   have hb:=regsP_bd _ _ _ hrg
   have hl:(ops.take o.regs).length≤2:=by rw [List.length_take];omega
   have hp:4 ^ (ops.take o.regs).length≤4 ^ 2:=Nat.pow_le_pow_right (by decide) hl
   have ha:a≤15:=by omega
   have ht2:takesP o ops.length=true:=by simpa using ht
   simp only at h ⊢
   split
   ·rename_i hk
    rw [if_pos hk] at h
    exact ⟨ht2,ha,countP_ok h⟩
   ·rename_i hk
    exact ⟨ht2,ha,by simp,fun h6=>absurd (Or.inr h6) hk⟩
theorem opnP_kinds {op:List UInt8}{o:OpnP}(h:opnP op=some o):o.kind=1∧True∨o.kind=2∧(o.width=1∨o.width=2)∨o.kind=3∧o.width=2∨o.kind=4∧(o.width=1∨o.width=2)∨o.kind=5∨o.kind=6:=by
 unfold opnP at h
 by_cases e:op=oNop
 ·rw [if_pos e] at h;simp only [Option.some.injEq] at h;subst h;decide
 rw [if_neg e] at h;clear e
 by_cases e:op=oRet
 ·rw [if_pos e] at h;simp only [Option.some.injEq] at h;subst h;decide
 rw [if_neg e] at h;clear e
 by_cases e:op=oMov
 ·rw [if_pos e] at h;simp only [Option.some.injEq] at h;subst h;decide
 rw [if_neg e] at h;clear e
 by_cases e:op=oAdd
 ·rw [if_pos e] at h;simp only [Option.some.injEq] at h;subst h;decide
 rw [if_neg e] at h;clear e
 by_cases e:op=oSub
 ·rw [if_pos e] at h;simp only [Option.some.injEq] at h;subst h;decide
 rw [if_neg e] at h;clear e
 by_cases e:op=oLoad
 ·rw [if_pos e] at h;simp only [Option.some.injEq] at h;subst h;decide
 rw [if_neg e] at h;clear e
 by_cases e:op=oCall
 ·rw [if_pos e] at h;simp only [Option.some.injEq] at h;subst h;decide
 rw [if_neg e] at h;clear e
 by_cases e:op=oJmp
 ·rw [if_pos e] at h;simp only [Option.some.injEq] at h;subst h;decide
 rw [if_neg e] at h;clear e
 by_cases e:op=oJz
 ·rw [if_pos e] at h;simp only [Option.some.injEq] at h;subst h;decide
 rw [if_neg e] at h;clear e
 by_cases e:op=oByte
 ·rw [if_pos e] at h;simp only [Option.some.injEq] at h;subst h;decide
 rw [if_neg e] at h;clear e
 by_cases e:op=oWord
 ·rw [if_pos e] at h;simp only [Option.some.injEq] at h;subst h;decide
 rw [if_neg e] at h;clear e
 by_cases e:op=oSpace
 ·rw [if_pos e] at h;simp only [Option.some.injEq] at h;subst h;decide
 rw [if_neg e] at h;clear e
 by_cases e:op=oAlign
 ·rw [if_pos e] at h;simp only [Option.some.injEq] at h;subst h;decide
 rw [if_neg e] at h;clear e
 cases h
structure LinkW (lb op:ByteArray) (os:List ByteArray) (W:WordsP):Prop where
 label:L lb=W.label
 op:L op=W.op
 ops:os.map L=W.operands
 set:W.op=opSet→W.label=[]∧W.operands.length=2
 few:os.length≤200
 short:∀i (h:i<os.length),os[i].size≤1000
theorem size_nil {lb:ByteArray}{l:List UInt8}(h:L lb=l):lb.size=0↔l=[]:=by
 rw [←h,size_L]
 exact List.length_eq_zero_iff
theorem look_link {lb op:ByteArray}{os:List ByteArray}{W:WordsP}{ns ts:List (ByteArray×Int)}{l:List StmP}(hk:LinkW lb op os W) (hns:plainN ns=namesP l) (hts:plainN ts=setsP l) (txt:List UInt8) (frm:Nat) :
  lookE lb op os ns ts=(lookP l W txt frm).1:=by
 unfold lookE lookP defE
 rw [hk.op,hns,hts,hk.label,hk.ops]
 have hhd:L (os.getD 0 ⟨#[]⟩)=W.operands.headD []:=by rw [←hk.ops,headD_L]
 rw [hhd]
 by_cases hs:W.op=opSet
 ·rw [if_neg (fun h=>h.2.2 hs),if_pos hs,if_pos hs,hs,opnP_set]
  cases hasN (namesP l) (W.operands.headD [])<;>simp
 ·rw [if_neg hs,if_neg hs]
  by_cases h3:opnP W.op=none∧W.op≠[]∧W.op≠opSet
  ·rw [if_pos h3,if_pos ⟨by rw [h3.1];rfl,h3.2.1⟩]
  ·rw [if_neg h3,if_neg (show ¬((opnP W.op).isNone=true∧W.op≠[]) from fun h=>h3 ⟨by simpa using h.1,h.2,hs⟩)]
   by_cases hl:lb.size=0
   ·have hl2:=(size_nil hk.label).1 hl
    rw [if_pos hl,if_neg (show ¬(0:Int)≠0 from fun h=>h rfl),if_neg (show ¬(W.label≠[]∧hasN (namesP l) W.label=true) from fun h=>h.1 hl2)]
    cases opnP W.op<;>rfl
   ·have hl2:W.label≠[]:=fun e=>hl ((size_nil hk.label).2 e)
    rw [if_neg hl]
    cases hh:hasN (namesP l) W.label with
    |true=>simp [hl2]
    |false =>
     simp only [Bool.false_eq_true,if_false,ne_eq,not_true_eq_false,and_false]
     cases opnP W.op<;>rfl
theorem look_names {lb op:ByteArray}{os:List ByteArray}{W:WordsP}{ns ts:List (ByteArray×Int)}{l:List StmP}(hk:LinkW lb op os W) (hns:plainN ns=namesP l) (hts:plainN ts=setsP l) (txt:List UInt8) (frm:Nat) (h0:(lookP l W txt frm).1=0) (v:Value) :
  plainN (ns++defN lb op os ts)=namesP (l++[(lookP l W txt frm).2])∧plainN (ts++defT op os ts)=setsP (l++[(lookP l W txt frm).2]) ∧
  SayOne (namesP l).length ⟨⟨txt.toArray⟩,frm,0,0⟩ (lookX lb op os ns ts v) (lookP l W txt frm).2∧StOkV (lookX lb op os ns ts v)∧SzOk (lookX lb op os ns ts v) (ns++defN lb op os ts).length:=by
 have hhd:L (os.getD 0 ⟨#[]⟩)=W.operands.headD []:=by rw [←hk.ops,headD_L]
 have hg1:L (os.getD 1 ⟨#[]⟩)=W.operands.getD 1 []:=by rw [←hk.ops,getD_L]
 have hnm:∀s:StmP,namesP (l++[s])=namesP l++nameP s:=fun s=>by simp [namesP]
 have hst:∀s:StmP,setsP (l++[s])=setsP l++setOf s:=fun s=>by simp [setsP]
 have hnl:ns.length=(namesP l).length:=by rw [←hns];simp [plainN]
 rw [hnm,hst,plainN_append,plainN_append,hns,hts]
 unfold lookP at h0 ⊢
 unfold defN defT lookX
 rw [hk.op,hg1,hts]
 by_cases hs:W.op=opSet
 ·rw [if_pos hs] at h0 ⊢
  obtain ⟨hs1,hs2⟩:=hk.set hs
  have hlb:lb.size=0:=(size_nil hk.label).2 hs1
  split at h0
  ·cases h0
  ·rename_i hh
   rw [if_neg hh,if_pos hs,if_pos hs,hs,opnP_set]
   simp only
   refine ⟨?_,?_,?_,?_,?_⟩
   ·unfold nameP;simp only;rw [if_pos hs,show plainN [(os.getD 0 ⟨#[]⟩,(value 0 (setsP l) (W.operands.getD 1 [])).1)]=[(L (os.getD 0 ⟨#[]⟩),(value 0 (setsP l) (W.operands.getD 1 [])).1)] from rfl,hhd]
   ·unfold setOf;simp only;rw [if_pos hs,show plainN [(os.getD 0 ⟨#[]⟩,(value 0 (setsP l) (W.operands.getD 1 [])).1)]=[(L (os.getD 0 ⟨#[]⟩),(value 0 (setsP l) (W.operands.getD 1 [])).1)] from rfl,hhd]
   ·rw [if_pos hlb]
    exact ⟨rfl,rfl,rfl,rfl,fun h=>absurd rfl h,rfl,rfl,rfl,by simp [hlb,hs1],fun _=>hs1,by simp [hlb]⟩
   ·exact ⟨⟨by simp,by simp⟩,by simp,by simp [noOpn],by simp [noOpn],by simp [noOpn]⟩
   ·exact ⟨by simp,by simp [noOpn],by simp,by simp [noOpn],by simp [hlb]⟩
 ·rw [if_neg hs] at h0 ⊢
  rw [if_neg hs,if_neg hs]
  split at h0
  ·cases h0
  ·rename_i h3
   rw [if_neg h3]
   split at h0
   ·cases h0
   ·rename_i h5
    rw [if_neg h5]
    have hnm2:∀(o:OpnP) (a c:Nat),(nameP ⟨W,txt,frm,o,a,c,0,0,false⟩=if lb.size=0 then [] else [(W.label,0)])∧setOf ⟨W,txt,frm,o,a,c,0,0,false⟩=[]:=fun o a c=>by
     unfold nameP setOf
     simp only
     rw [if_neg hs,if_neg hs]
     refine ⟨?_,rfl⟩
     by_cases hl:lb.size=0
     ·rw [if_pos hl,if_pos ((size_nil hk.label).1 hl)]
     ·rw [if_neg hl,if_neg (fun e=>hl ((size_nil hk.label).2 e))]
    have hdn:plainN (if lb.size=0 then [] else [(lb,(0:Int))])=if lb.size=0 then [] else [(W.label,0)]:=by
     split
     ·rfl
     ·simp [plainN,hk.label]
    have hhas:decide (lb.size≠0)=true↔W.label≠[]:=by
     rw [decide_eq_true_eq,Ne,size_nil hk.label]
    have hlab:decide (lb.size≠0)=true→(if lb.size=0 then 0 else ns.length)=(namesP l).length:=fun h=>by
     rw [decide_eq_true_eq] at h
     rw [if_neg h];exact hnl
    have hlabn:decide (lb.size≠0)=true→(if lb.size=0 then 0 else ns.length)<(ns++if lb.size=0 then [] else [(lb,(0:Int))]).length:=fun h=>by
     rw [decide_eq_true_eq] at h
     rw [if_neg h,if_neg h];simp
    cases ho:opnP W.op with
    |none =>
     rw [ho] at h0
     obtain ⟨q1,q2⟩:=hnm2 noOpn 0 0
     simp only
     refine ⟨by rw [q1,hdn],by rw [q2];simp [plainN],?_,?_,?_⟩
     ·exact ⟨rfl,rfl,rfl,rfl,fun h=>absurd rfl h,rfl,rfl,rfl,hhas,fun e=>absurd e hs,hlab⟩
     ·exact ⟨⟨by simp,by simp⟩,by simp,by simp [noOpn],by simp [noOpn],by simp [noOpn]⟩
     ·exact ⟨by simp,by simp [noOpn],by simp,by simp [noOpn],hlabn⟩
    |some o =>
     rw [ho] at h0
     simp only at h0 ⊢
     obtain ⟨r1,r2,r3,r4,r5,_,_⟩:=opnP_regs ho
     obtain ⟨p1,p2,p3,p4⟩:=operandsP_ok h0 r1
     rw [hk.ops]
     obtain ⟨q1,q2⟩:=hnm2 o (operandsP o W.operands (setsP l)).2.1 (operandsP o W.operands (setsP l)).2.2
     have hlen:(os.drop o.regs).length=os.length-o.regs:=List.length_drop
     have hol:W.operands.length=os.length:=by rw [←hk.ops,List.length_map]
     rw [hol] at p1
     have hkw:=opnP_kinds ho
     refine ⟨by rw [q1,hdn],by rw [q2];simp [plainN],?_,?_,?_⟩
     ·refine ⟨rfl,rfl,rfl,rfl,fun _=>?_,rfl,rfl,rfl,hhas,fun e=>absurd e hs,hlab⟩
      show (os.drop o.regs).map L=W.operands.drop o.regs
      rw [←hk.ops,List.map_drop]
     ·refine ⟨⟨by show (os.drop o.regs).length≤1000;have:=hk.few;omega,fun i hi=>?_⟩,?_,?_,⟨by show o.code≤1000;omega,by show o.long≤1000;omega,by show (operandsP o W.operands (setsP l)).2.1≤1000;omega⟩,r3⟩
      ·show ((os.drop o.regs)[i]'hi).size≤1000
       rw [List.getElem_drop]
       exact hk.short _ _
      ·intro _ hne
       have hne':0<os.length-o.regs:=by rw [←hlen];exact List.length_pos_iff.2 hne
       show o.width=1∨o.width=2
       unfold takesP at p1
       rcases hkw with ⟨h,_⟩|⟨_,h⟩|⟨_,h⟩|⟨_,h⟩|h|h
       ·rw [if_pos h] at p1;simp only [decide_eq_true_eq] at p1;omega
       ·exact h
       ·exact Or.inr h
       ·exact h
       ·rename_i hle;have:o.kind≤4:=hle;omega
       ·rename_i hle;have:o.kind≤4:=hle;omega
      ·intro h3'
       have h3':o.kind=3:=h3'
       refine ⟨?_,?_⟩
       ·show o.width=2
        rcases hkw with ⟨h,_⟩|⟨h,_⟩|⟨_,h⟩|⟨h,_⟩|h|h
        ·omega
        ·omega
        ·exact h
        ·omega
        ·omega
        ·omega
       ·show (os.drop o.regs).length=1
        unfold takesP at p1
        rw [if_neg (by omega),if_neg (by omega)] at p1
        simp only [decide_eq_true_eq] at p1
        omega
     ·exact ⟨by show (os.drop o.regs).length≤200;have:=hk.few;omega,r2,p3,p4,hlabn⟩
section
attribute [local go_sem ↓] Go.wp_at_zero Go.wp_at_succ
structure LnOk (ln:LnV):Prop where
 cut:cutL (L ln.t)=L ln.t
 len:(L ln.t).length≤80
 set:(wordsP (L ln.t)).op=opSet→(wordsP (L ln.t)).label=[]∧(wordsP (L ln.t)).operands.length=2
 zero:ln.at_=0∧ln.size=0
theorem SzOk.mono {x:StV}{n m:Nat}(h:SzOk x n) (hm:n≤m):SzOk x m:=⟨h.few,h.width,h.count,h.al,fun hh=>Nat.lt_of_lt_of_le (h.lab hh) hm⟩
def LaPost (B ba:Nat) (vl:Value) (ls:List LnV) (R:Int×Nat×List StmP) (w:World) (e:Ending) (w':World):Prop:=
 e=.returned (.tuple #[.int .i64 R.1,.int .i64 (R.2.1:Nat)])∧FrN B [] w w'∧(R.1=0→∃vs vn vt ss ns ts,AsmAt w' B ba vl vs vn vt (.slice none 0 0) ls ss ns ts 0 []∧Say 0 ls ss R.2.2∧plainN ns=namesP R.2.2∧AllOk ss ns.length∧ns.length≤300)
set_option maxRecDepth 100000 in
set_option maxHeartbeats 3200000 in
theorem lookAtLines_any (w:World) (B ba:Nat) (vl:Value) (ls:List LnV) (h:AsmAt w B ba vl (.slice none 0 0) (.slice none 0 0) (.slice none 0 0) (.slice none 0 0) ls [] [] [] 0 []) (hl3:ls.length≤300) (hln:∀ln∈ls,LnOk ln) (hB:B≤w.heap.size) (hm:MaxAt w) (hg:0<B) (R:Int×Nat×List StmP) (hR:lookAll (ls.map fun ln=>(L ln.t,ln.frm)) []=R) :
  Calls Tryz.prog 33 #[.pointer (some ⟨ba,0,none⟩)] w (LaPost B ba vl ls R w):=by
 obtain ⟨al,cl,hvl⟩:=own_form h.lown
 subst hvl
 have c0:w.cell? ⟨ba,0,none⟩=some (.slice al ls.length cl):=h.row.cell 0 (by simp)
 have HX:=hid h
 have HR:=hid hR
 have HLN:=hid hln
 have HM:=hid hm
 clear h hR hln hm
 go_enter Tryz.func33,Tryz.ntmps33
 go_wp2_with fail
 go_loopw [12] (fun q wr=>∃(j:Nat) (vs vn vt:Value) (ss:List StV) (ns ts:List (ByteArray×Int)) (l:List StmP),j≤ls.length∧q=.int .i64 j∧R=lookAll ((ls.drop j).map fun ln=>(L ln.t,ln.frm)) l∧ss.length≤j∧ns.length≤j∧ts.length≤j∧FrN B [] w wr∧AsmAt wr B ba (.slice al ls.length cl) vs vn vt (.slice none 0 0) ls ss ns ts 0 []∧Say 0 (ls.take j) ss l∧plainN ns=namesP l∧plainN ts=setsP l∧AllOk ss ns.length) (fun q _=>ls.length-(intOf q).toNat)
 case atStart=>exact ⟨0,_,_,_,[],[],[],[],Nat.zero_le _,rfl,by rw [List.drop_zero];exact HR.out.symm,by simp,by simp,by simp,FrN.refl _ _,HX.out,by simp [Say],rfl,rfl,(fun x hx=>by cases hx)⟩
 case round =>
  obtain ⟨j,vs,vn,vt,ss,ns,ts,l,hj,rfl,hrr,hsl,hnl,htl,hf,hxr,hsay,hns,hts,hok⟩:=hrel
  have HRR:=hid hrr
  have HF:=hid hf
  have HXR:=hid hxr
  have HSAY:=hid hsay
  have HNS:=hid hns
  have HTS:=hid hts
  have HOK:=hid hok
  have hBr:B≤wr.heap.size:=Nat.le_trans hB hf.size
  have HMR:=hid (HM.out.fr hf hg)
  clear hrr hf hxr hsay hns hts hok
  by_cases hlt:j<ls.length
  ·have kd:decide ((j:Int)<(ls.length:Int))=true:=by simp;omega
   obtain ⟨gl,cl2,hv1,_,hgl⟩:=HXR.out.lown.form (by omega)
   injection hv1 with e1 e3 e2
   clear e3
   subst e1 e2
   obtain ⟨q0,q1,q2,q3⟩:=lnCells_at ls j hlt
   obtain ⟨ln,hln⟩:∃ln,ls[j]=ln:=⟨_,rfl⟩
   have hlo:=HLN.out ls[j] (List.getElem_mem hlt)
   rw [hln] at hlo
   obtain ⟨t,frm,at_,size⟩:=ln
   rw [hln] at q0 q1 q2 q3
   obtain ⟨hz1,hz2⟩:=hlo.zero
   simp only at hz1 hz2
   subst hz1 hz2
   have d0:wr.cell? ⟨gl,j*4,none⟩=some (.string t):=(HXR.out.lown.cellAt (j*4) (by omega)).trans q0
   have d1:wr.cell? ⟨gl,j*4+1,none⟩=some (.int .i64 (frm:Nat)):=(HXR.out.lown.cellAt (j*4+1) (by omega)).trans q1
   have d2:wr.cell? ⟨gl,j*4+2,none⟩=some (.int .i64 0):=(HXR.out.lown.cellAt (j*4+2) (by omega)).trans q2
   have d3:wr.cell? ⟨gl,j*4+3,none⟩=some (.int .i64 0):=(HXR.out.lown.cellAt (j*4+3) (by omega)).trans q3
   have hdr:(ls.drop j).map (fun ln=>(L ln.t,ln.frm))=(L t,frm)::(ls.drop (j+1)).map (fun ln=>(L ln.t,ln.frm)):=by rw [List.drop_eq_getElem_cons hlt,hln];rfl
   have htk:ls.take (j+1)=ls.take j++[⟨t,frm,0,0⟩]:=by rw [List.take_add_one,List.getElem?_eq_getElem hlt,hln];rfl
   have HDR:=hid hdr
   have HTK:=hid htk
   have HLO:=hid hlo
   have hb1:Below wr.heap.size wr (wr.alloc (.cells #[.string t,.int .i64 (frm:Nat),.int .i64 0,.int .i64 0] 38)):=(Below.refl _ _).alloc (Nat.le_refl _) _
   have HROW:=hid (show RowT (wr.alloc (.cells #[.string t,.int .i64 (frm:Nat),.int .i64 0,.int .i64 0] 38)) 38 wr.heap.size [.string t,.int .i64 (frm:Nat),.int .i64 0,.int .i64 0] from RowT.new wr 38 [.string t,.int .i64 (frm:Nat),.int .i64 0,.int .i64 0])
   have HX1:=hid (HXR.out.below hb1)
   have HF1:=hid (HF.out.trans (FrN.of_below hb1))
   have HM1:=hid (HMR.out.below hb1)
   have hB1:B≤(wr.alloc (.cells #[.string t,.int .i64 (frm:Nat),.int .i64 0,.int .i64 0] 38)).heap.size:=Nat.le_trans hBr hb1.size
   clear hdr htk hlo hb1 q0 q1 q2 q3 hln
   go_upto_region 4 with fail
   generalize wr.alloc (.cells #[.string t,.int .i64 (frm:Nat),.int .i64 0,.int .i64 0] 38)=w1 at *
   generalize wr.heap.size=b0 at *
   have y0:w1.cell? ⟨b0,0,none⟩=some (.string t):=HROW.out.cell 0 (by simp)
   have hts:t.size≤80:=by rw [size_L];exact HLO.out.len
   clear d0 d1 d2 d3 hgl
   go_wp2_with fail
   refine (Read_any t w1 (by omega) HM1.out).mono ?_
   rintro e w2 ⟨lb,op,v,os,rfl,hpv,hb2⟩
   rw [HLO.out.cut] at hpv
   have HROW2:=hid (HROW.out.below hb2)
   have HX2:=hid (HX1.out.below hb2)
   have HF2:=hid (HF1.out.trans (FrN.of_below hb2))
   have hB2:B≤w2.heap.size:=Nat.le_trans hB1 hb2.size
   have hbd:=wordsP_bd (L t)
   have hlk:LinkW lb op os (wordsP (L t)):=by
    have hol:os.length=(wordsP (L t)).operands.length:=by rw [←hpv.ops,List.length_map]
    refine ⟨hpv.label,hpv.op,hpv.ops,HLO.out.set,?_,fun i hi=>?_⟩
    ·have:=hbd.2.2.1;have:=HLO.out.len;simp only at this;omega
    ·rw [size_L]
     have h1:=hbd.2.2.2 (L os[i]) (by rw [←hpv.ops];exact List.mem_map.2 ⟨_,List.getElem_mem hi,rfl⟩)
     have:=HLO.out.len;simp only at this;omega
   obtain ⟨va,vc,hve⟩:=hpv.at_.form
   subst hve
   have HLK:=hid hlk
   have HSV:=hid (hpv.at_.mono (Nat.zero_le _))
   clear hpv hb2 hbd y0 hlk
   have hlkk:=look_any w2 B ba (.slice (some ⟨gl,0,none⟩) ls.length cl) vs vn vt (.slice none 0 0) ls ss ns ts 0 [] HX2.out (by omega) (by omega) (by omega) lb op va vc os HSV.out (by have:=HLK.out.few;omega) (fun e=>by rw [←List.length_map (f:=L),HLK.out.ops];exact (HLK.out.set (by rw [←HLK.out.op];exact e)).2) HLK.out.short hB2
   obtain ⟨E,hE⟩:∃E,lookE lb op os ns ts=E:=⟨_,rfl⟩
   unfold LkPost at hlkk
   rw [hE] at hlkk
   have HLKK:=hid hlkk
   have hlink:=look_link HLK.out HNS.out HTS.out (L t) frm
   rw [hE] at hlink
   have HLINK:=hid hlink
   clear hlkk hE hlink
   go_wp2_with fail
   refine HLKK.out.mono ?_
   rintro e w3 ⟨rfl,hf3,hx3⟩
   have HF3:=hid (HF2.out.trans hf3)
   have HX3:=hid hx3
   have y1:w3.cell? ⟨b0,1,none⟩=some (.int .i64 (frm:Nat)):=(HROW2.out.fr hf3 rfl (fun h=>by cases h)).cell 1 (by simp)
   clear hf3 hx3
   by_cases hE0:E=0
   ·subst hE0
    obtain ⟨vs',vn',vt',v',hx4⟩:=HX3.out rfl
    obtain ⟨m1,m2,m3,m4,m5⟩:=look_names HLK.out HNS.out HTS.out (L t) frm HLINK.out.symm v'
    have HX4:=hid hx4
    have M1:=hid m1
    have M2:=hid m2
    have M3:=hid m3
    have M4:=hid m4
    have M5:=hid m5
    clear hx4 m1 m2 m3 m4 m5
    go_wp2_with fail
    go_roundw
    case rel =>
     refine ⟨j+1,vs',vn',vt',ss++[lookX lb op os ns ts v'],ns++defN lb op os ts,ts++defT op os ts,l++[(lookP l (wordsP (L t)) (L t) frm).2],by omega,by go_num,?_,by rw [List.length_append];simp;omega,?_,?_,HF3.out,HX4.out,?_,M1.out,M2.out,?_⟩
     ·rw [HRR.out,HDR.out]
      simp only [lookAll]
      rw [if_neg (by rw [←HLINK.out];simp)]
     ·rw [List.length_append]
      have:(defN lb op os ts).length≤1:=by unfold defN;split<;>(try split)<;>simp
      omega
     ·rw [List.length_append]
      have:(defT op os ts).length≤1:=by unfold defT;split<;>simp
      omega
     ·rw [HTK.out]
      refine HSAY.out.snoc ?_
      rw [Nat.zero_add]
      exact M3.out
     ·intro x hx
      rcases List.mem_append.1 hx with hx|hx
      ·exact ⟨(HOK.out x hx).1,(HOK.out x hx).2.mono (by rw [List.length_append];omega)⟩
      ·rw [List.mem_singleton] at hx
       rw [hx]
       exact ⟨M4.out,M5.out⟩
    case measure=>simp [intOf];omega
   ·have ke:(E != 0)=true:=by simpa using hE0
    have hre:R=(E,frm,l):=by
     rw [HRR.out,HDR.out]
     simp only [lookAll]
     rw [if_pos (by rw [←HLINK.out];exact hE0),←HLINK.out]
    subst hre
    go_upto_region 6 with fail
    go_quiet (fail)
    go_wp2_with fail
    refine bodyPost_ret (v:=.tuple #[.int .i64 E,.int .i64 (frm:Nat)]) (by simp [results,Tryz.results33]) rfl ?_
    exact ⟨rfl,HF3.out.drewN _,fun h=>absurd h hE0⟩
  ·have kd:decide ((j:Int)<(ls.length:Int))=false:=by simp;omega
   have hre:R=(0,0,l):=by
    rw [HRR.out,List.drop_of_length_le (by omega)]
    rfl
   subst hre
   have hsy:=HSAY.out
   rw [List.take_of_length_le (by omega)] at hsy
   have HSY:=hid hsy
   clear hsy
   go_wp2_with fail
   refine bodyPost_ret (v:=.tuple #[.int .i64 0,.int .i64 0]) (by simp [results,Tryz.results33]) rfl ?_
   exact ⟨rfl,HF.out,fun _=>⟨vs,vn,vt,ss,ns,ts,HXR.out,HSY.out,HNS.out,HOK.out,by omega⟩⟩
end
end Go.Proofs.YtcepppilgncdmaaGreatDoor
