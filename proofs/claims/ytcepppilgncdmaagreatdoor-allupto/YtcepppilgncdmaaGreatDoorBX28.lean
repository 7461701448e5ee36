/-
  Joined: PaPlace PaNum.
-/
import Derived.Test.YtcepppilgncdmaaGreatDoorBX22
import Derived.Test.YtcepppilgncdmaaGreatDoorBX24
namespace Go.Proofs.YtcepppilgncdmaaGreatDoor
open Go.RowKit
section
attribute [local go_sem ↓] Go.wp_at_zero Go.wp_at_succ
def setL:List LnV→List StV→Nat→List LnV
 |l::lr,x::xr,a=>⟨l.t,l.frm,a,sizeV x a⟩::setL lr xr (a+sizeV x a)
 |l,[],_=>l
 |[],_,_=>[]
def setN1 (x:StV) (a:Nat) (ns:List (ByteArray×Int)):List (ByteArray×Int):=if x.has then ns.set x.lab ((ns.getD x.lab (⟨#[]⟩,0)).1,(a:Int)) else ns
def setN:List StV→Nat→List (ByteArray×Int)→List (ByteArray×Int)
 |[],_,ns=>ns
 |x::r,a,ns=>setN r (a+sizeV x a) (setN1 x a ns)
def endV:List StV→Nat→Nat
 |[],a=>a
 |x::r,a=>endV r (a+sizeV x a)
theorem setN1_len (x:StV) (a:Nat) (ns:List (ByteArray×Int)):(setN1 x a ns).length=ns.length:=by
 unfold setN1
 split<;>simp
structure SzOk (x:StV) (n:Nat):Prop where
 few:x.es.length≤200
 width:x.o.width≤2
 count:x.count≤1000
 al:x.o.kind=6→0<x.count
 lab:x.has=true→x.lab<n
theorem sizeV_le {x:StV}{n:Nat}(h:SzOk x n) (a:Nat):sizeV x a≤1000:=by
 have h1:=h.few
 have h2:=h.width
 have h3:=h.count
 unfold sizeV
 split
 ·omega
 ·split
  ·omega
  ·split
   ·split<;>omega
   ·split
    ·have:x.o.width*x.es.length≤2*200:=Nat.mul_le_mul h2 h1
     omega
    ·split
     ·exact h3
     ·split
      ·rename_i h6
       have:=Nat.mod_lt (x.count-a%x.count) (h.al h6)
       omega
      ·omega
def PlPost (B ba:Nat) (vl vs vn vt vb:Value) (ls:List LnV) (ss:List StV) (ns ts:List (ByteArray×Int)) (bs:List UInt8) (w:World) (e:Ending) (w':World):Prop:=
 e=.returned (.tuple #[])∧FrA B [] w w'∧AsmAt w' B ba vl vs vn vt vb (setL ls ss 0) ss (setN ss 0 ns) ts (endV ss 0) bs
set_option maxRecDepth 100000 in
set_option maxHeartbeats 3200000 in
theorem place_any (w:World) (B ba:Nat) (vl vs vn vt vb:Value) (ls:List LnV) (ss:List StV) (ns ts:List (ByteArray×Int)) (sz:Nat) (bs:List UInt8) (h:AsmAt w B ba vl vs vn vt vb ls ss ns ts sz bs) (hls:ls.length=ss.length) (hl3:ls.length≤300) (hok:∀x∈ss,SzOk x ns.length) (hB:B≤w.heap.size) :
  Calls Tryz.prog 49 #[.pointer (some ⟨ba,0,none⟩)] w (PlPost B ba vl vs vn vt vb ls ss ns ts bs w):=by
 obtain ⟨al,cl,hvl⟩:=own_form h.lown
 obtain ⟨sa,cs,hvs⟩:=own_form h.sown
 obtain ⟨na,nc,hvn⟩:=own_form h.nown
 subst hvl hvs hvn
 have c1:w.cell? ⟨ba,1,none⟩=some (.slice sa ss.length cs):=h.row.cell 1 (by simp)
 obtain ⟨LS,hLS⟩:∃LS,setL ls ss 0=LS:=⟨_,rfl⟩
 obtain ⟨NS,hNS⟩:∃NS,setN ss 0 ns=NS:=⟨_,rfl⟩
 obtain ⟨EE,hEE⟩:∃EE,endV ss 0=EE:=⟨_,rfl⟩
 unfold PlPost
 rw [hLS,hNS,hEE]
 have hls1:ls.length≤ss.length:=Nat.le_of_eq hls
 have hls2:ss.length≤ls.length:=Nat.le_of_eq hls.symm
 have HX:=hid h
 have HOK:=hid hok
 have HLS:=hid hLS
 have HNS:=hid hNS
 have HEE:=hid hEE
 clear h hok hLS hNS hEE hls
 obtain ⟨POST,hPOST⟩:∃POST:Ending→World→Prop,POST=fun e w'=>e=.returned (.tuple #[])∧FrA B [] w w'∧AsmAt w' B ba (.slice al ls.length cl) (.slice sa ss.length cs) (.slice na ns.length nc) vt vb LS ss NS ts EE bs:=⟨_,rfl⟩
 have HPOST:=hid hPOST
 show Calls _ _ _ _ (fun e w'=>e=.returned (.tuple #[])∧FrA B [] w w'∧AsmAt w' B ba (.slice al ls.length cl) (.slice sa ss.length cs) (.slice na ns.length nc) vt vb LS ss NS ts EE bs)
 rw [←hPOST]
 clear hPOST
 go_enter Tryz.func49,Tryz.ntmps49
 go_wp2_with fail
 go_loopw [10,2] (fun q ad wr=>∃(j a:Nat) (done:List LnV) (ns1:List (ByteArray×Int)),j≤ss.length∧q=.int .i64 j∧ad=.int .i64 a∧a≤1000*j∧done.length=j∧ns1.length=ns.length∧LS=done++setL (ls.drop j) (ss.drop j) a∧NS=setN (ss.drop j) a ns1∧EE=endV (ss.drop j) a∧FrA B [] w wr∧AsmAt wr B ba (.slice al ls.length cl) (.slice sa ss.length cs) (.slice na ns.length nc) vt vb (done++ls.drop j) ss ns1 ts sz bs) (fun q _ _=>ss.length-(intOf q).toNat)
 case atStart=>exact ⟨0,0,[],ns,Nat.zero_le _,rfl,rfl,by simp,rfl,rfl,by simpa using HLS.out.symm,by simpa using HNS.out.symm,by simpa using HEE.out.symm,FrA.refl _ _,by simpa using HX.out⟩
 case round =>
  obtain ⟨j,a,done,ns1,hj,rfl,rfl,ha,hdl,hn1,h1,h2,h3,hf,hxr⟩:=hrel
  have H1:=hid h1
  have H2:=hid h2
  have H3:=hid h3
  have HF:=hid hf
  have HXR:=hid hxr
  have hBr:B≤wr.heap.size:=Nat.le_trans hB hf.size
  have HDL:=hid hdl
  have HN1:=hid hn1
  have hdl1:done.length≤j:=Nat.le_of_eq hdl
  have hdl2:j≤done.length:=Nat.le_of_eq hdl.symm
  have hn11:ns1.length≤ns.length:=Nat.le_of_eq hn1
  have hn12:ns.length≤ns1.length:=Nat.le_of_eq hn1.symm
  clear h1 h2 h3 hf hxr hdl hn1
  by_cases hlt:j<ss.length
  ·have kd:decide ((j:Int)<(ss.length:Int))=true:=by simp;omega
   have hjl:j<ls.length:=by omega
   have hll:(done++ls.drop j).length=ls.length:=by rw [List.length_append,List.length_drop];omega
   obtain ⟨cur,hcur⟩:∃cur,done++ls.drop j=cur:=⟨_,rfl⟩
   have HCUR:=hid hcur
   rw [hcur] at HXR hll
   have HLL:=hid hll
   have hll1:cur.length≤ls.length:=Nat.le_of_eq hll
   have hll2:ls.length≤cur.length:=Nat.le_of_eq hll.symm
   clear hll
   obtain ⟨gl,cl2,hv1,_,hgl⟩:=HXR.out.lown.form (by omega)
   injection hv1 with e1 _ e2
   subst e1 e2
   obtain ⟨gs,cs2,hv2,_,hgs⟩:=HXR.out.sown.form (by omega)
   injection hv2 with e1 _ e2
   subst e1 e2
   obtain ⟨x,hx⟩:∃x,ss[j]=x:=⟨_,rfl⟩
   have hxo:=HOK.out ss[j] (List.getElem_mem hlt)
   rw [hx] at hxo
   have hszl:=sizeV_le hxo a
   obtain ⟨va,vc,hve⟩:=(HXR.out.strs ss[j] (List.getElem_mem hlt)).form
   rw [hx] at hve
   have hcells:∀k,k<11→wr.cell? ⟨gs,j*11+k,none⟩=(stOne x)[k]?:=fun k hk=>by
    rw [HXR.out.sown.cellAt (j*11+k) (by omega),stCells_at ss j k hlt hk,hx]
   have hdrs:ss.drop j=x::ss.drop (j+1):=by rw [List.drop_eq_getElem_cons hlt,hx]
   have hdrl:ls.drop j=ls[j]::ls.drop (j+1):=List.drop_eq_getElem_cons hjl
   have hcj:cur[j]?=some ls[j]:=by
    rw [←hcur,List.getElem?_append_right (by omega),HDL.out,Nat.sub_self,hdrl]
    rfl
   have HDRS:=hid hdrs
   have HDRL:=hid hdrl
   have HCJ:=hid hcj
   have HXO:=hid hxo
   have HSZ:=hid (show sizeV x a=sizeV x a from rfl)
   have hfew:=hxo.few
   have hwid:=hxo.width
   have hcnt:=hxo.count
   have HAL:=hid hxo.al
   have HLB:=hid hxo.lab
   obtain ⟨zz,hzz⟩:∃zz,sizeV x a=zz:=⟨_,rfl⟩
   have HZZ:=hid hzz
   have hzl:zz≤1000:=by rw [←hzz];exact hszl
   clear hdrs hdrl hcj hxo hx hcur hszl hzz HSZ
   obtain ⟨⟨k,rg,c,l,d⟩,lab,has,added,v,es,count,long⟩:=x
   simp only at hfew hwid hcnt hve
   have t0:wr.cell? ⟨gs,j*11,none⟩=some (.int .i64 (k:Nat)):=hcells 0 (by omega)
   have t1:wr.cell? ⟨gs,j*11+1,none⟩=some (.int .i64 (rg:Nat)):=hcells 1 (by omega)
   have t2:wr.cell? ⟨gs,j*11+2,none⟩=some (.int .i64 (c:Nat)):=hcells 2 (by omega)
   have t3:wr.cell? ⟨gs,j*11+3,none⟩=some (.int .i64 (l:Nat)):=hcells 3 (by omega)
   have t4:wr.cell? ⟨gs,j*11+4,none⟩=some (.int .i64 (d:Nat)):=hcells 4 (by omega)
   have t5:wr.cell? ⟨gs,j*11+5,none⟩=some (.int .i64 (lab:Nat)):=hcells 5 (by omega)
   have t6:wr.cell? ⟨gs,j*11+6,none⟩=some (.bool has):=hcells 6 (by omega)
   have t7:wr.cell? ⟨gs,j*11+7,none⟩=some (.int .i64 (added:Nat)):=hcells 7 (by omega)
   have t8:wr.cell? ⟨gs,j*11+8,none⟩=some (.slice va es.length vc):=by rw [←hve];exact hcells 8 (by omega)
   have t9:wr.cell? ⟨gs,j*11+9,none⟩=some (.int .i64 (count:Nat)):=hcells 9 (by omega)
   have t10:wr.cell? ⟨gs,j*11+10,none⟩=some (.bool long):=hcells 10 (by omega)
   subst hve
   have hb1:Below wr.heap.size wr (wr.alloc (.cells #[.int .i64 (k:Nat),.int .i64 (rg:Nat),.int .i64 (c:Nat),.int .i64 (l:Nat),.int .i64 (d:Nat),.int .i64 (lab:Nat),.bool has,.int .i64 (added:Nat),.slice va es.length vc,.int .i64 (count:Nat),.bool long] 113)):=(Below.refl _ _).alloc (Nat.le_refl _) _
   have HROW:=hid (show RowT (wr.alloc (.cells #[.int .i64 (k:Nat),.int .i64 (rg:Nat),.int .i64 (c:Nat),.int .i64 (l:Nat),.int .i64 (d:Nat),.int .i64 (lab:Nat),.bool has,.int .i64 (added:Nat),.slice va es.length vc,.int .i64 (count:Nat),.bool long] 113)) 113 wr.heap.size (stOne ⟨⟨k,rg,c,l,d⟩,lab,has,added,.slice va es.length vc,es,count,long⟩) from RowT.new wr 113 (stOne ⟨⟨k,rg,c,l,d⟩,lab,has,added,.slice va es.length vc,es,count,long⟩))
   have HX1:=hid (HXR.out.below hb1)
   have HF1:=hid (HF.out.trans (FrA.of_below hb1))
   have hB1:B≤(wr.alloc (.cells #[.int .i64 (k:Nat),.int .i64 (rg:Nat),.int .i64 (c:Nat),.int .i64 (l:Nat),.int .i64 (d:Nat),.int .i64 (lab:Nat),.bool has,.int .i64 (added:Nat),.slice va es.length vc,.int .i64 (count:Nat),.bool long] 113)).heap.size:=Nat.le_trans hBr hb1.size
   have hfr1:gl<(wr.alloc (.cells #[.int .i64 (k:Nat),.int .i64 (rg:Nat),.int .i64 (c:Nat),.int .i64 (l:Nat),.int .i64 (d:Nat),.int .i64 (lab:Nat),.bool has,.int .i64 (added:Nat),.slice va es.length vc,.int .i64 (count:Nat),.bool long] 113)).heap.size:=Nat.lt_of_lt_of_le hgl hb1.size
   have hbaw:ba<wr.heap.size:=HXR.out.row.lt
   have hglb:gl≠wr.heap.size:=by omega
   clear hcells hb1 hgs
   go_upto_region 4 with fail
   generalize wr.alloc (.cells #[.int .i64 (k:Nat),.int .i64 (rg:Nat),.int .i64 (c:Nat),.int .i64 (l:Nat),.int .i64 (d:Nat),.int .i64 (lab:Nat),.bool has,.int .i64 (added:Nat),.slice va es.length vc,.int .i64 (count:Nat),.bool long] 113)=w1 at *
   have hb0:wr.heap.size=wr.heap.size:=rfl
   generalize wr.heap.size=b0 at *
   clear t0 t1 t2 t3 t4 t5 t6 t7 t8 t9 t10 hb0
   have y5:w1.cell? ⟨b0,5,none⟩=some (.int .i64 (lab:Nat)):=HROW.out.cell 5 (by simp [stOne])
   have y6:w1.cell? ⟨b0,6,none⟩=some (.bool has):=HROW.out.cell 6 (by simp [stOne])
   cases has with
   |true =>
    obtain ⟨gn,nc2,hv3,_,hgn⟩:=HX1.out.nown.form (by have:=HLB.out rfl;simp only at this;omega)
    injection hv3 with e1 _ e2
    subst e1 e2
    have hlab:lab<ns1.length:=by have:=HLB.out rfl;simp only at this;omega
    have hlabn:lab<ns.length:=by omega
    have c2:w1.cell? ⟨ba,2,none⟩=some (.slice (some ⟨gn,0,none⟩) ns.length nc):=HX1.out.row.cell 2 (by simp)
    have hno:w1.ownsRow B 40 2 (.slice (some ⟨gn,0,none⟩) ns1.length nc) ns1.length (nameCells ns1):=by have h:=HX1.out.nown;rw [←HN1.out] at h;exact h
    have n1:w1.cell? ⟨gn,lab*2+1,none⟩=some (.int .i64 ns1[lab].2):=(hno.cellAt (lab*2+1) (by omega)).trans (nameCells_at ns1 lab hlab).2
    have fn:w1.frozen? ⟨gn,lab*2+1,none⟩=false:=own_free HX1.out.nown
    have kli:decide ((lab:Int)<(ns.length:Int))=true:=by simp;omega
    have hxn:AsmAt w1 B ba (.slice (some ⟨gl,0,none⟩) ls.length cl) (.slice (some ⟨gs,0,none⟩) ss.length cs) (.slice (some ⟨gn,0,none⟩) ns1.length nc) vt vb cur ss ns1 ts sz bs:=by rw [HN1.out];exact HX1.out
    have HL:=hid (hxn.nameV lab hlab (a:Int))
    clear hxn hno
    go_wp2_with fail
    go_region
    all_goals
     have HX2:=hid (show AsmAt (w1.setCell ⟨gn,lab*2+1,none⟩ (.int .i64 (a:Nat))).drew B ba (.slice (some ⟨gl,0,none⟩) ls.length cl) (.slice (some ⟨gs,0,none⟩) ss.length cs) (.slice (some ⟨gn,0,none⟩) ns.length nc) vt vb cur ss (setN1 ⟨⟨k,rg,c,l,d⟩,lab,true,added,.slice va es.length vc,es,count,long⟩ a ns1) ts sz bs by
      have h5:=HL.out.1
      rw [HN1.out] at h5
      have e5:setN1 ⟨⟨k,rg,c,l,d⟩,lab,true,added,.slice va es.length vc,es,count,long⟩ a ns1=ns1.set lab (ns1[lab].1,(a:Int)):=by
       unfold setN1
       simp only [if_true]
       rw [List.getD_eq_getElem?_getD,List.getElem?_eq_getElem hlab]
       rfl
      rw [e5]
      exact h5.below ((Below.refl _ _).drew))
     have HF2:=hid ((HF1.out.trans HL.out.2).drew)
     have hgnb:gn≠b0:=by
      intro e
      subst e
      exact own_row_ne HX1.out.nown HROW.out (by decide) rfl
     have HROW2:=hid ((HROW.out.setO (b:=gn) (j:=lab*2+1) (u:=.int .i64 (a:Nat)) (Ne.symm hgnb)).below ((Below.refl _ _).drew))
     have hB2:B≤(w1.setCell ⟨gn,lab*2+1,none⟩ (.int .i64 (a:Nat))).drew.heap.size:=Nat.le_trans hB HF2.out.size
     have hn2:(setN1 ⟨⟨k,rg,c,l,d⟩,lab,true,added,.slice va es.length vc,es,count,long⟩ a ns1).length=ns.length:=by rw [setN1_len];exact HN1.out
     clear HL c2 n1 fn y5 y6 hgnb
     generalize (w1.setCell ⟨gn,lab*2+1,none⟩ (.int .i64 (a:Nat))).drew=w2 at *
     obtain ⟨ns2,hns2⟩:∃ns2,setN1 ⟨⟨k,rg,c,l,d⟩,lab,true,added,.slice va es.length vc,es,count,long⟩ a ns1=ns2:=⟨_,rfl⟩
     rw [hns2] at HX2 hn2
     have HN2:=hid hn2
     clear hn2
     have HNS2:=hid hns2
     have c0:w2.cell? ⟨ba,0,none⟩=some (.slice (some ⟨gl,0,none⟩) ls.length cl):=HX2.out.row.cell 0 (by simp)
     have hjc:j<cur.length:=by omega
     obtain ⟨_,_,q2,q3⟩:=lnCells_at cur j hjc
     have hlo:w2.ownsRow B 38 4 (.slice (some ⟨gl,0,none⟩) cur.length cl) cur.length (lnCells cur):=by have h:=HX2.out.lown;rw [←HLL.out] at h;exact h
     have d2:w2.cell? ⟨gl,j*4+2,none⟩=some (.int .i64 (cur[j].at_:Nat)):=(hlo.cellAt (j*4+2) (by omega)).trans q2
     have d3:w2.cell? ⟨gl,j*4+3,none⟩=some (.int .i64 (cur[j].size:Nat)):=(hlo.cellAt (j*4+3) (by omega)).trans q3
     have hgl2:gl<w2.heap.size:=own_ltA HX2.out.lown rfl
     have hba2:ba<w2.heap.size:=HX2.out.row.lt
     have hfl:∀o,w2.frozen? ⟨gl,o,none⟩=false:=fun o=>own_free HX2.out.lown
     have kjl:decide ((j:Int)<(ls.length:Int))=true:=by simp;omega
     clear hns2 q2 q3 hlo
     go_wp2_with fail
     go_region_with (go_at_call 80;refine (size_any b0 0 ⟨⟨k,rg,c,l,d⟩,lab,true,added,.slice va es.length vc,es,count,long⟩ a _ (StAt.of_row (HROW2.out.below ((Below.refl _ _).drew))) va vc rfl (show es.length≤1000 by omega) (show d≤10 by omega) (show count≤1000000 by omega) HAL.out).mono ?_;rw [HZZ.out];rintro e w3 ⟨rfl,hb3⟩;have c0':w3.cell? ⟨ba,0,none⟩=some (.slice (some ⟨gl,0,none⟩) ls.length cl):=(hb3.cell (p:=⟨ba,0,none⟩) hba2).trans c0;have d2':w3.cell? ⟨gl,j*4+2,none⟩=some (.int .i64 (cur[j].at_:Nat)):=(hb3.cell (p:=⟨gl,j*4+2,none⟩) hgl2).trans d2;have d3':w3.cell? ⟨gl,j*4+3,none⟩=some (.int .i64 (cur[j].size:Nat)):=(hb3.cell (p:=⟨gl,j*4+3,none⟩) hgl2).trans d3;have hf3:∀o,w3.frozen? ⟨gl,o,none⟩=false:=fun o=>(hb3.frozen (p:=⟨gl,o,none⟩) hgl2).trans (hfl o);have d3s:(w3.setCell ⟨gl,j*4+2,none⟩ (.int .i64 (a:Nat))).cell? ⟨gl,j*4+3,none⟩=some (.int .i64 (cur[j].size:Nat)):=(set_next w3 gl (j*4+2) (j*4+3) _ (by omega)).trans d3')
     all_goals
      have hbx:=((Below.refl w2.heap.size w2).drew).trans (hb3.mono (Nat.le_refl _))
      have hx3:AsmAt w3 B ba (.slice (some ⟨gl,0,none⟩) cur.length cl) (.slice (some ⟨gs,0,none⟩) ss.length cs) (.slice (some ⟨gn,0,none⟩) ns.length nc) vt vb cur ss ns2 ts sz bs:=by rw [HLL.out];exact HX2.out.below hbx
      have HL3:=hid (hx3.lineV j hjc a zz)
      have HF3:=hid ((HF2.out.trans (FrA.of_below hbx)).trans HL3.out.2)
      have HX4:=hid (show AsmAt ((w3.setCell ⟨gl,j*4+2,none⟩ (.int .i64 (a:Nat))).setCell ⟨gl,j*4+3,none⟩ (.int .i64 (zz:Nat))) B ba (.slice (some ⟨gl,0,none⟩) ls.length cl) (.slice (some ⟨gs,0,none⟩) ss.length cs) (.slice (some ⟨gn,0,none⟩) ns.length nc) vt vb (cur.set j ⟨cur[j].t,cur[j].frm,a,zz⟩) ss ns2 ts sz bs by rw [←HLL.out];exact HL3.out.1)
      clear hb3 hbx hx3 HL3 d2 d3 d2' d3' d3s hf3 hfl c0 c0'
      generalize (w3.setCell ⟨gl,j*4+2,none⟩ (.int .i64 (a:Nat))).setCell ⟨gl,j*4+3,none⟩ (.int .i64 (zz:Nat))=w4 at *
      have c0:w4.cell? ⟨ba,0,none⟩=some (.slice (some ⟨gl,0,none⟩) ls.length cl):=HX4.out.row.cell 0 (by simp)
      have hjc2:j<(cur.set j ⟨cur[j].t,cur[j].frm,a,zz⟩).length:=by rw [List.length_set];exact hjc
      have d3:w4.cell? ⟨gl,j*4+3,none⟩=some (.int .i64 (zz:Nat)):=by
       have h:=HX4.out.lown
       rw [show ls.length=(cur.set j ⟨cur[j].t,cur[j].frm,a,zz⟩).length by rw [List.length_set];exact HLL.out.symm] at h
       rw [h.cellAt (j*4+3) (by omega),(lnCells_at _ j hjc2).2.2.2]
       simp
      have hcjl:cur[j]=ls[j]:=by
       have:=HCJ.out
       rw [List.getElem?_eq_getElem hjc] at this
       exact Option.some.inj this
      have HLST:=hid (show cur.set j ⟨cur[j].t,cur[j].frm,a,zz⟩=(done++[⟨ls[j].t,ls[j].frm,a,zz⟩])++ls.drop (j+1) by
       have e6:cur=done++(ls[j]::ls.drop (j+1)):=by rw [←HDRL.out];exact HCUR.out.symm
       rw [hcjl,e6,List.set_append_right _ _ (by omega),show j-done.length=0 by omega]
       simp only [List.set_cons_zero,List.append_assoc,List.cons_append,List.nil_append])
      go_wp2_with fail
      go_roundw
      case rel =>
       refine ⟨j+1,a+zz,done++[⟨ls[j].t,ls[j].frm,a,zz⟩],ns2,by omega,by go_num,by go_num,by omega,by rw [List.length_append,HDL.out];rfl,HN2.out,?_,?_,?_,HF3.out,by rw [←HLST.out];exact HX4.out⟩
       ·rw [H1.out,HDRS.out,HDRL.out]
        simp only [setL]
        rw [HZZ.out]
        simp
       ·rw [H2.out,HDRS.out]
        simp only [setN]
        rw [HZZ.out,HNS2.out]
       ·rw [H3.out,HDRS.out]
        simp only [endV]
        rw [HZZ.out]
      case measure=>simp [intOf];omega
   |false =>
    have HX2:=hid (show AsmAt w1 B ba (.slice (some ⟨gl,0,none⟩) ls.length cl) (.slice (some ⟨gs,0,none⟩) ss.length cs) (.slice na ns.length nc) vt vb cur ss (setN1 ⟨⟨k,rg,c,l,d⟩,lab,false,added,.slice va es.length vc,es,count,long⟩ a ns1) ts sz bs from HX1.out)
    have HF2:=hid HF1.out
    have HROW2:=hid HROW.out
    have hB2:B≤w1.heap.size:=hB1
    have hn2:(setN1 ⟨⟨k,rg,c,l,d⟩,lab,false,added,.slice va es.length vc,es,count,long⟩ a ns1).length=ns.length:=by rw [setN1_len];exact HN1.out
    clear y5
    go_upto_region 6 with fail
    generalize hw2:w1=w2 at *
    clear hw2 y6
    obtain ⟨ns2,hns2⟩:∃ns2,setN1 ⟨⟨k,rg,c,l,d⟩,lab,false,added,.slice va es.length vc,es,count,long⟩ a ns1=ns2:=⟨_,rfl⟩
    rw [hns2] at HX2 hn2
    have HN2:=hid hn2
    clear hn2
    have HNS2:=hid hns2
    have c0:w2.cell? ⟨ba,0,none⟩=some (.slice (some ⟨gl,0,none⟩) ls.length cl):=HX2.out.row.cell 0 (by simp)
    have hjc:j<cur.length:=by omega
    obtain ⟨_,_,q2,q3⟩:=lnCells_at cur j hjc
    have hlo:w2.ownsRow B 38 4 (.slice (some ⟨gl,0,none⟩) cur.length cl) cur.length (lnCells cur):=by have h:=HX2.out.lown;rw [←HLL.out] at h;exact h
    have d2:w2.cell? ⟨gl,j*4+2,none⟩=some (.int .i64 (cur[j].at_:Nat)):=(hlo.cellAt (j*4+2) (by omega)).trans q2
    have d3:w2.cell? ⟨gl,j*4+3,none⟩=some (.int .i64 (cur[j].size:Nat)):=(hlo.cellAt (j*4+3) (by omega)).trans q3
    have hgl2:gl<w2.heap.size:=own_ltA HX2.out.lown rfl
    have hba2:ba<w2.heap.size:=HX2.out.row.lt
    have hfl:∀o,w2.frozen? ⟨gl,o,none⟩=false:=fun o=>own_free HX2.out.lown
    have kjl:decide ((j:Int)<(ls.length:Int))=true:=by simp;omega
    clear hns2 q2 q3 hlo
    go_wp2_with fail
    go_region_with (go_at_call 80;refine (size_any b0 0 ⟨⟨k,rg,c,l,d⟩,lab,false,added,.slice va es.length vc,es,count,long⟩ a _ (StAt.of_row (HROW2.out.below ((Below.refl _ _).drew))) va vc rfl (show es.length≤1000 by omega) (show d≤10 by omega) (show count≤1000000 by omega) HAL.out).mono ?_;rw [HZZ.out];rintro e w3 ⟨rfl,hb3⟩;have c0':w3.cell? ⟨ba,0,none⟩=some (.slice (some ⟨gl,0,none⟩) ls.length cl):=(hb3.cell (p:=⟨ba,0,none⟩) hba2).trans c0;have d2':w3.cell? ⟨gl,j*4+2,none⟩=some (.int .i64 (cur[j].at_:Nat)):=(hb3.cell (p:=⟨gl,j*4+2,none⟩) hgl2).trans d2;have d3':w3.cell? ⟨gl,j*4+3,none⟩=some (.int .i64 (cur[j].size:Nat)):=(hb3.cell (p:=⟨gl,j*4+3,none⟩) hgl2).trans d3;have hf3:∀o,w3.frozen? ⟨gl,o,none⟩=false:=fun o=>(hb3.frozen (p:=⟨gl,o,none⟩) hgl2).trans (hfl o);have d3s:(w3.setCell ⟨gl,j*4+2,none⟩ (.int .i64 (a:Nat))).cell? ⟨gl,j*4+3,none⟩=some (.int .i64 (cur[j].size:Nat)):=(set_next w3 gl (j*4+2) (j*4+3) _ (by omega)).trans d3')
    all_goals
     have hbx:=((Below.refl w2.heap.size w2).drew).trans (hb3.mono (Nat.le_refl _))
     have hx3:AsmAt w3 B ba (.slice (some ⟨gl,0,none⟩) cur.length cl) (.slice (some ⟨gs,0,none⟩) ss.length cs) (.slice na ns.length nc) vt vb cur ss ns2 ts sz bs:=by rw [HLL.out];exact HX2.out.below hbx
     have HL3:=hid (hx3.lineV j hjc a zz)
     have HF3:=hid ((HF2.out.trans (FrA.of_below hbx)).trans HL3.out.2)
     have HX4:=hid (show AsmAt ((w3.setCell ⟨gl,j*4+2,none⟩ (.int .i64 (a:Nat))).setCell ⟨gl,j*4+3,none⟩ (.int .i64 (zz:Nat))) B ba (.slice (some ⟨gl,0,none⟩) ls.length cl) (.slice (some ⟨gs,0,none⟩) ss.length cs) (.slice na ns.length nc) vt vb (cur.set j ⟨cur[j].t,cur[j].frm,a,zz⟩) ss ns2 ts sz bs by rw [←HLL.out];exact HL3.out.1)
     clear hb3 hbx hx3 HL3 d2 d3 d2' d3' d3s hf3 hfl c0 c0'
     generalize (w3.setCell ⟨gl,j*4+2,none⟩ (.int .i64 (a:Nat))).setCell ⟨gl,j*4+3,none⟩ (.int .i64 (zz:Nat))=w4 at *
     have c0:w4.cell? ⟨ba,0,none⟩=some (.slice (some ⟨gl,0,none⟩) ls.length cl):=HX4.out.row.cell 0 (by simp)
     have hjc2:j<(cur.set j ⟨cur[j].t,cur[j].frm,a,zz⟩).length:=by rw [List.length_set];exact hjc
     have d3:w4.cell? ⟨gl,j*4+3,none⟩=some (.int .i64 (zz:Nat)):=by
      have h:=HX4.out.lown
      rw [show ls.length=(cur.set j ⟨cur[j].t,cur[j].frm,a,zz⟩).length by rw [List.length_set];exact HLL.out.symm] at h
      rw [h.cellAt (j*4+3) (by omega),(lnCells_at _ j hjc2).2.2.2]
      simp
     have hcjl:cur[j]=ls[j]:=by
      have:=HCJ.out
      rw [List.getElem?_eq_getElem hjc] at this
      exact Option.some.inj this
     have HLST:=hid (show cur.set j ⟨cur[j].t,cur[j].frm,a,zz⟩=(done++[⟨ls[j].t,ls[j].frm,a,zz⟩])++ls.drop (j+1) by
      have e6:cur=done++(ls[j]::ls.drop (j+1)):=by rw [←HDRL.out];exact HCUR.out.symm
      rw [hcjl,e6,List.set_append_right _ _ (by omega),show j-done.length=0 by omega]
      simp only [List.set_cons_zero,List.append_assoc,List.cons_append,List.nil_append])
     go_wp2_with fail
     go_roundw
     case rel =>
      refine ⟨j+1,a+zz,done++[⟨ls[j].t,ls[j].frm,a,zz⟩],ns2,by omega,by go_num,by go_num,by omega,by rw [List.length_append,HDL.out];rfl,HN2.out,?_,?_,?_,HF3.out,by rw [←HLST.out];exact HX4.out⟩
      ·rw [H1.out,HDRS.out,HDRL.out]
       simp only [setL]
       rw [HZZ.out]
       simp
      ·rw [H2.out,HDRS.out]
       simp only [setN]
       rw [HZZ.out,HNS2.out]
      ·rw [H3.out,HDRS.out]
       simp only [endV]
       rw [HZZ.out]
     case measure=>simp [intOf];omega
  ·have hjj:j=ss.length:=by omega
   subst hjj
   have kd:decide ((ss.length:Int)<(ss.length:Int))=false:=by simp
   have c4:wr.cell? ⟨ba,4,none⟩=some (.int .i64 (sz:Nat)):=HXR.out.row.cell 4 (by simp)
   have f4:=HXR.out.row.free 4
   have h1:=H1.out
   have h2:=H2.out
   have h3:=H3.out
   rw [List.drop_of_length_le (Nat.le_refl _)] at h1 h2 h3
   have HL:=hid (HXR.out.sized a)
   go_wp2_with fail
   refine bodyPost_ret (v:=.tuple #[]) (by simp [results,Tryz.results49]) rfl ?_
   rw [HPOST.out]
   refine ⟨rfl,HF.out.trans HL.out.2,?_⟩
   have hx:=HL.out.1
   rw [h1,h2,h3]
   have e1:setL (ls.drop ss.length) [] a=ls.drop ss.length:=by
    rw [List.drop_of_length_le (by omega)]
    rfl
   rw [e1]
   exact hx
end
section
attribute [local go_sem ↓] Go.wp_at_zero Go.wp_at_succ
def shrP (z:Int):Nat→Int
 |0=>z
 |1=>z / 256
 |_=>z / 256 / 256
set_option maxRecDepth 100000 in
set_option maxHeartbeats 1600000 in
theorem putNumber_any (w:World) (B ba:Nat) (vl vs vn vt vb:Value) (ls:List LnV) (ss:List StV) (ns ts:List (ByteArray×Int)) (sz:Nat) (bs:List UInt8) (h:AsmAt w B ba vl vs vn vt vb ls ss ns ts sz bs) (hbl:bs.length≤900000) (z:Int) (hz:-1000000≤z∧z≤1000000) (d:Nat) (hd:d=1∨d=2) (hB:B≤w.heap.size) :
  Calls Tryz.prog 123 #[.pointer (some ⟨ba,0,none⟩),.int .i64 z,.int .i64 (d:Nat)] w (PutPost B ba vl vs vn vt ls ss ns ts sz bs (numP d z) (.int .i64 (numP d z).1) w):=by
 obtain ⟨z1,z2⟩:=hz
 have HX:=hid h
 clear h
 obtain ⟨r,hr⟩:∃r,numP d z=r:=⟨_,rfl⟩
 rw [hr]
 unfold numP at hr
 rcases hd with rfl|rfl
 ·rw [if_pos rfl] at hr
  by_cases hlo:z < -128
  ·rw [if_pos (Or.inl hlo)] at hr
   subst hr
   go_enter Tryz.func123,Tryz.ntmps123
   go_wp2
   go_ret
   exact ⟨rfl,FrB.refl _ _,(fun h=>by cases h)⟩
  ·by_cases hhi:255<z
   ·rw [if_pos (Or.inr hhi)] at hr
    subst hr
    go_enter Tryz.func123,Tryz.ntmps123
    go_wp2
    go_ret
    exact ⟨rfl,FrB.refl _ _,(fun h=>by cases h)⟩
   ·rw [if_neg (by omega)] at hr
    subst hr
    go_enter Tryz.func123,Tryz.ntmps123
    go_wp2_with fail
    go_loopw [23,1] (fun i v wr=>∃(j:Nat) (vb':Value),j≤1∧i=.int .i64 j∧v=.int .i64 (shrP z j)∧FrB B [] w wr∧AsmAt wr B ba vl vs vn vt vb' ls ss ns ts sz (bs++[byteP z].take j)) (fun i _ _=>1-(intOf i).toNat)
    case atStart=>exact ⟨0,vb,Nat.zero_le _,rfl,rfl,FrB.refl _ _,by simpa using HX.out⟩
    case round =>
     obtain ⟨j,vb',hj,rfl,rfl,hf,hx⟩:=hrel
     have HF:=hid hf
     have HXR:=hid hx
     have hBr:B≤wr.heap.size:=Nat.le_trans hB hf.size
     clear hf hx
     by_cases hj1:j<1
     ·have hj0:j=0:=by omega
      subst hj0
      go_wp2_with fail
      refine (putByte_any wr B ba vl vs vn vt vb' ls ss ns ts sz _ HXR.out (by simp;omega) z hBr).mono ?_
      rintro e w2 ⟨rfl,hf2,hx2⟩
      obtain ⟨vb2,hx2⟩:=hx2 rfl
      have HF2:=hid (HF.out.trans hf2)
      have HX2:=hid hx2
      clear hf2 hx2
      go_wp2_with fail
      go_roundw
      case rel=>exact ⟨1,vb2,by omega,rfl,rfl,HF2.out,by simpa using HX2.out⟩
      case measure=>simp [intOf]
     ·have hj0:j=1:=by omega
      subst hj0
      go_wp2_with fail
      go_ret
      exact ⟨rfl,HF.out,fun _=>⟨vb',HXR.out⟩⟩
 ·rw [if_neg (by decide)] at hr
  by_cases hlo:z < -32768
  ·rw [if_pos (Or.inl hlo)] at hr
   subst hr
   go_enter Tryz.func123,Tryz.ntmps123
   go_wp2
   go_ret
   exact ⟨rfl,FrB.refl _ _,(fun h=>by cases h)⟩
  ·by_cases hhi:65535<z
   ·rw [if_pos (Or.inr hhi)] at hr
    subst hr
    go_enter Tryz.func123,Tryz.ntmps123
    go_wp2
    go_ret
    exact ⟨rfl,FrB.refl _ _,(fun h=>by cases h)⟩
   ·rw [if_neg (by omega)] at hr
    subst hr
    go_enter Tryz.func123,Tryz.ntmps123
    go_wp2_with fail
    go_loopw [23,1] (fun i v wr=>∃(j:Nat) (vb':Value),j≤2∧i=.int .i64 j∧v=.int .i64 (shrP z j)∧FrB B [] w wr∧AsmAt wr B ba vl vs vn vt vb' ls ss ns ts sz (bs++[byteP z,byteP (z / 256)].take j)) (fun i _ _=>2-(intOf i).toNat)
    case atStart=>exact ⟨0,vb,Nat.zero_le _,rfl,rfl,FrB.refl _ _,by simpa using HX.out⟩
    case round =>
     obtain ⟨j,vb',hj,rfl,rfl,hf,hx⟩:=hrel
     have HF:=hid hf
     have HXR:=hid hx
     have hBr:B≤wr.heap.size:=Nat.le_trans hB hf.size
     clear hf hx
     have hcs:j=0∨j=1∨j=2:=by omega
     rcases hcs with rfl|rfl|rfl
     ·go_wp2_with fail
      refine (putByte_any wr B ba vl vs vn vt vb' ls ss ns ts sz _ HXR.out (by simp;omega) z hBr).mono ?_
      rintro e w2 ⟨rfl,hf2,hx2⟩
      obtain ⟨vb2,hx2⟩:=hx2 rfl
      have HF2:=hid (HF.out.trans hf2)
      have HX2:=hid hx2
      clear hf2 hx2
      go_wp2_with fail
      go_roundw
      case rel=>exact ⟨1,vb2,by omega,rfl,rfl,HF2.out,by simpa using HX2.out⟩
      case measure=>simp [intOf]
     ·go_wp2_with fail
      refine (putByte_any wr B ba vl vs vn vt vb' ls ss ns ts sz _ HXR.out (by simp;omega) (z / 256) hBr).mono ?_
      rintro e w2 ⟨rfl,hf2,hx2⟩
      obtain ⟨vb2,hx2⟩:=hx2 rfl
      have HF2:=hid (HF.out.trans hf2)
      have HX2:=hid hx2
      clear hf2 hx2
      go_wp2_with fail
      go_roundw
      case rel=>exact ⟨2,vb2,by omega,rfl,rfl,HF2.out,by simpa using HX2.out⟩
      case measure=>simp [intOf]
     ·go_wp2_with fail
      go_ret
      exact ⟨rfl,HF.out,fun _=>⟨vb',HXR.out⟩⟩
end
end Go.Proofs.YtcepppilgncdmaaGreatDoor
