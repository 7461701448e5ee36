/-
  Joined: RNames RFits Bk.
-/
import Derived.Test.YtcepppilgncdmaaGreatDoorBX15
import Derived.Test.YtcepppilgncdmaaGreatDoorBX17
namespace Go.Proofs.YtcepppilgncdmaaGreatDoor
open Go.RowKit
section
attribute [local go_sem ↓] Go.wp_at_zero Go.wp_at_succ
set_option maxRecDepth 100000 in
set_option maxHeartbeats 1600000 in
theorem rnames_any (w:World) (B0:Nat) (sa:Option Addr) (cs:Nat) (xs:List SpV) (h:StepsAt w B0 (.slice sa xs.length cs) xs) (hl:xs.length≤300) (hok:∀x∈xs,SpOk x) :
  Calls Tryz.prog 67 #[.slice sa xs.length cs] w (NmsPost (namesR (xs.map SpV.p)) (2*xs.length) w):=by
 obtain ⟨i0,hi0,hz0,hz1,hz2⟩:=info_parts info_name
 obtain ⟨R,hR⟩:∃R,namesR (xs.map SpV.p)=R:=⟨_,rfl⟩
 rw [hR]
 obtain ⟨B,hBe⟩:∃B,w.heap.size=B:=⟨_,rfl⟩
 have HBE:=hid hBe
 have HX:=hid h
 have HR:=hid hR
 have HOK:=hid hok
 have HC:=hid (rsets_any w B0 sa cs xs h hl hok)
 clear h hR hok hBe
 go_enter Tryz.func67,Tryz.ntmps67
 go_wp2_with fail
 refine HC.out.mono ?_
 rintro e w0 ⟨hb0,va,all,rfl,hall,halln,hao⟩
 obtain ⟨ga,gc,hav,haa⟩:=own_names hao
 subst hav
 rw [HBE.out] at hb0
 have HB0:=hid hb0
 have HAA:=hid haa
 have HALL:=hid hall
 have hB0:B≤w0.heap.size:=by have:=hb0.size;rw [HBE.out] at this;exact this
 have HX0:=hid (HX.out.below (by rw [HBE.out];exact hb0))
 clear hb0 haa hall hao HC
 go_wp2_with fail
 go_loopw [3,5] (fun v i wr=>∃(j:Nat) (ns:List (ByteArray×Int)),j≤xs.length∧i=.int .i64 j∧wr.ownsRow w0.heap.size 40 2 v ns.length (nameCells ns)∧plainN ns++((xs.drop j).map SpV.p).flatMap (nameR (plainN all))=R∧ns.length≤2*j∧Below w0.heap.size w0 wr) (fun _ i _=>xs.length-(intOf i).toNat)
 case atStart=>exact ⟨0,[],Nat.zero_le _,rfl,World.ownsRow_nil _ _ _ _,by rw [List.drop_zero,HALL.out];exact HR.out,Nat.le_refl _,Below.refl _ _⟩
 case round =>
  obtain ⟨j,ns,hj,rfl,hown,hr,hnl,hbr⟩:=hrel
  have HBR:=hid hbr
  have hBr:w0.heap.size≤wr.heap.size:=hbr.size
  have HXR:=hid (HX.out.below (by rw [HBE.out];exact HB0.out.trans (hbr.mono hB0)))
  obtain ⟨na,nc,hnv⟩:=own_form hown
  subst hnv
  have HOWN:=hid hown
  have HRJ:=hid hr
  have HAR:=hid (HAA.out.below hbr)
  clear hr hbr hown
  by_cases hlt:j<xs.length
  ·have dn:decide ((j:Int)<(xs.length:Int))=true:=decide_eq_true (by omega)
   obtain ⟨g,cs2,hv1,_,hgl⟩:=HXR.out.own.form (by omega)
   simp only [Value.slice.injEq,true_and] at hv1
   obtain ⟨rfl,rfl⟩:=hv1
   have c0:wr.cell? ⟨g,j*7,none⟩=some (.string xs[j].lb):=HXR.out.at_ hlt 0 _ rfl
   have c4:wr.cell? ⟨g,j*7+4,none⟩=some (.int .i64 (xs[j].at_:Nat)):=HXR.out.at_ hlt 4 _ rfl
   have hxo:=HOK.out xs[j] (List.getElem_mem hlt)
   have hn:plainN ns++((xs.drop j).map SpV.p).flatMap (nameR (plainN all))=(plainN ns++(if L xs[j].lb=[] then [] else [(L xs[j].lb,(xs[j].at_:Int))]))++(if L xs[j].op=opSet then [((xs[j].os.map L).headD [],(findN (plainN all) ((xs[j].os.map L).headD [])).getD 0)] else [])++((xs.drop (j+1)).map SpV.p).flatMap (nameR (plainN all)):=by
    rw [List.drop_eq_getElem_cons hlt,List.map_cons,List.flatMap_cons]
    simp only [nameR,List.append_assoc,SpV.p]
    rfl
   have hr:=HRJ.out
   rw [hn] at hr
   have HR1:=hid hr
   have HXJ:=hid (show ∀(wz:World),Below w0.heap.size w0 wz→wz.cell? ⟨g,j*7+1,none⟩=some (.string xs[j].op)∧wz.cell? ⟨g,j*7+2,none⟩=some xs[j].v∧StrV wz 0 xs[j].v xs[j].os from fun wz hz=>⟨(HX0.out.below hz).at_ hlt 1 _ rfl,(HX0.out.below hz).at_ hlt 2 _ rfl,(HX0.out.below hz).strs xs[j] (List.getElem_mem hlt)⟩)
   clear hn HRJ hr
   generalize xs[j]=x at *
   have i1:(0:Int)≤(j:Int):=Int.natCast_nonneg _
   have i2:(j:Int)<(xs.length:Int):=by omega
   obtain ⟨bl,hbl⟩:∃bl,x.lb.toList.isEmpty=bl:=⟨_,rfl⟩
   have HBL:=hid hbl
   go_upto_if 22 with fail
   clear hbl
   go_cut [3] (fun v wx=>∃ns2:List (ByteArray×Int),wx.ownsRow w0.heap.size 40 2 v ns2.length (nameCells ns2)∧plainN ns2=plainN ns++(if L x.lb=[] then [] else [(L x.lb,(x.at_:Int))])∧ns2.length≤2*j+1∧Below w0.heap.size w0 wx)
   case first =>
    cases bl
    rotate_left
    ·have h1:L x.lb=[]:=by
      by_cases q:L x.lb=[]
      ·exact q
      ·have:=HBL.out;rw [emp_not q] at this;cases this
     go_wp2_with fail
     go_meet
     case rel=>exact ⟨ns,HOWN.out,by rw [if_pos h1,List.append_nil],by omega,HBR.out⟩
    ·have h1:¬L x.lb=[]:=fun q=>by have:=HBL.out;rw [emp_is q] at this;cases this
     go_wp2_with fail
     go_region_law
      (first
       |(refine step_append_lies _ (by rfl) _ _ _ (by rfl) w0.heap.size 40 i0 _ 2 24 Tryz.underlying31 hi0 hz0 hz1 hz2 rfl (by omega) (.slice na ns.length nc) ns.length (nameCells ns) (by rfl) ((HOWN.out.alloc _).drew) ⟨_,0,none⟩ 1 1 [.string x.lb,.int .i64 (x.at_:Nat)] (by rfl) (by rfl) (World.news_of_block (cs:=#[.string x.lb,.int .i64 (x.at_:Nat)]) (t:=40) (fr:=(0,0)) (heap_alloc_new _ _)) (by simp [Value.oneCell']) (by omega) (by unfold maxLen;omega) (by omega) (by simp;omega) _ rfl ?_;intro gg cap' w4 hown4 hgrow hat hlt4))
     all_goals
      have HO4:=hid hown4
      have HB4:=hid (((HBR.out.alloc hBr (.cells #[.string x.lb,.int .i64 (x.at_:Nat)] 40)).drew).grown hgrow (by simp;omega) (fun q hq=>own_ge HOWN.out hq))
      clear hown4 hgrow hat
      go_wp2_with fail
      go_meet
      case rel=>exact ⟨ns++[(x.lb,(x.at_:Int))],by rw [←nameCells_snoc];simpa using HO4.out,by rw [plainN_snoc,if_neg h1],by simp;omega,HB4.out⟩
   case rest =>
    obtain ⟨ns2,hown2,hpl,hln2,hb2⟩:=hcut
    obtain ⟨na2,nc2,hnv2⟩:=own_form hown2
    subst hnv2
    have hr:=HR1.out
    rw [←hpl] at hr
    obtain ⟨c1,c2,hst⟩:=HXJ.out wc hb2
    have HB2:=hid hb2
    have HOWN2:=hid hown2
    have HAR2:=hid (HAA.out.below hb2)
    have hB2:w0.heap.size≤wc.heap.size:=hb2.size
    clear hb2 hown2 hpl c0 c4 HXJ HOWN HBR HAR HXR HR1
    by_cases h2:L x.op=opSet
    ·have k2:(x.op.toList==[46,115,101,116])=true:=opn_is (show L x.op=[46,115,101,116] from h2)
     have hlen:=hxo.set h2
     rw [if_pos h2] at hr
     obtain ⟨o0,o1,hos⟩:=list_pair hlen
     rw [hos] at hst hr
     obtain ⟨b,off,cap,hv,hbl,hc0⟩:=hst.cell 0 (by simp)
     rw [hv] at c2
     simp only [List.getElem_cons_zero,Nat.add_zero,List.length_cons,List.length_nil,Nat.zero_add,Nat.reduceAdd] at hc0 c2
     obtain ⟨o,ho⟩:∃o,findN (plainN all) (L o0)=o:=⟨_,rfl⟩
     have hr2:plainN ns2++[(L o0,foundI o)]++((xs.drop (j+1)).map SpV.p).flatMap (nameR (plainN all))=R:=by
      rw [←hr,←ho]
      simp only [List.map_cons,List.headD_cons]
      cases findN (plainN all) (L o0)<;>rfl
     have HFO:=hid ho
     have HR2:=hid hr2
     clear hr hr2 ho hos hlen hst hxo hv
     go_wp2_with fail
     refine (find_any o0 ga gc all wc o (by unfold maxLen;omega) HAR2.out HFO.out).mono ?_
     rintro e w1 ⟨rfl,hw⟩
     obtain rfl:=hw.symm
     clear hw
     generalize foundI o=z at *
     go_wp2_with (first|(at_builtin;refine wpList_append_lies _ rfl (.tmp 58) (.tmp 69) 31 rfl w0.heap.size 40 i0 _ 2 24 Tryz.underlying31 hi0 hz0 hz1 hz2 rfl (by omega) (.slice na2 ns2.length nc2) ns2.length (nameCells ns2) rfl (HOWN2.out.alloc _) ⟨_,0,none⟩ 1 1 [.string o0,.int .i64 z] rfl rfl (World.news_of_block (cs:=#[.string o0,.int .i64 z]) (t:=40) (fr:=(0,0)) (heap_alloc_new _ _)) (by simp [Value.oneCell']) (by omega) (by unfold maxLen;omega) (by omega) (by simp;omega) _ rfl ?_;intro gg cap' w4 hown4 hgrow hat hlt4))
     have HO4:=hid hown4
     have HB4:=hid ((HB2.out.alloc hB2 (.cells #[.string o0,.int .i64 z] 40)).grown hgrow (by simp;omega) (fun q hq=>own_ge HOWN2.out hq))
     clear hown4 hgrow hat
     go_roundw
     case rel=>exact ⟨j+1,ns2++[(o0,z)],by omega,by go_num,by rw [←nameCells_snoc];simpa using HO4.out,by rw [plainN_snoc];exact HR2.out,by simp;omega,HB4.out⟩
     case measure=>simp [intOf];omega
    ·have k2:(x.op.toList==[46,115,101,116])=false:=opn_not (show ¬L x.op=[46,115,101,116] from h2)
     rw [if_neg h2,List.append_nil] at hr
     have HR2:=hid hr
     clear hr
     go_wp2_with fail
     go_roundw
     case rel=>exact ⟨j+1,ns2,by omega,by go_num,HOWN2.out,HR2.out,by omega,HB2.out⟩
     case measure=>simp [intOf];omega
  ·have dn:decide ((j:Int)<(xs.length:Int))=false:=decide_eq_false (by omega)
   have HR1:=hid (show plainN ns=R by have:=HRJ.out;rw [List.drop_of_length_le (by omega),List.map_nil,List.flatMap_nil,List.append_nil] at this;exact this)
   clear HRJ HR
   go_wp2_with fail
   go_ret
   refine ⟨by rw [HBE.out];exact HB0.out.trans (HBR.out.mono hB0),_,ns,rfl,HR1.out,by omega,own_mono HOWN.out (by rw [HBE.out];exact hB0)⟩
end
section
attribute [local go_sem ↓] Go.wp_at_zero Go.wp_at_succ
theorem countsR_bd {op:List UInt8}{n:Int}{rg:Nat}(h:countsR op=(n,rg)):-2≤n∧n≤2∧rg≤2∧(0≤n→(rg:Int)≤n)∧(n<0→rg=0)∧(op=oSpace∨op=oAlign→n=1):=by
 rcases op_all op with e|e|e|e|e|e|e|e|e|e|e|e|e|e|e|⟨e0,e1,e2,e3,e4,e5,e6,e7,e8,e9,e10,e11,e12,e13,e14⟩
 case inr.inr.inr.inr.inr.inr.inr.inr.inr.inr.inr.inr.inr.inr.inr =>
  simp [countsR,e0,e1,e2,e3,e4,e5,e6,e7,e8,e9,e10,e11,e12,e13,e14] at h
  obtain ⟨rfl,rfl⟩:=h
  refine ⟨by omega,by omega,by omega,by omega,by omega,?_⟩
  rintro (k|k)
  ·exact absurd k e13
  ·exact absurd k e14
 all_goals
  subst e
  simp [countsR,opSet,oNop,oRet,oMov,oAdd,oSub,oLoad,oCall,oJmp,oJz,oByte,oWord,oSpace,oAlign] at h
  obtain ⟨rfl,rfl⟩:=h
  refine ⟨by omega,by omega,by omega,by omega,by omega,?_⟩
  first
  |(intro _;rfl)
  |(intro k;exact absurd k (by decide))
def FitPost (r:Int×Int) (w:World) (e:Ending) (w':World):Prop:=e=.returned (.tuple #[.int .i64 r.1,.int .i64 r.2])∧Below w.heap.size w w'
set_option maxRecDepth 100000 in
set_option maxHeartbeats 3200000 in
theorem rfits_any (w:World) (B0:Nat) (sa:Option Addr) (cs:Nat) (xs:List SpV) (h:StepsAt w B0 (.slice sa xs.length cs) xs) (hl:xs.length≤300) (hok:∀x∈xs,SpOk x) (lb op:ByteArray) (oa:Option Addr) (oc:Nat) (os:List ByteArray) (hst:StrV w 0 (.slice oa os.length oc) os) (hol:os.length≤200) (hsz:∀i (h:i<os.length),os[i].size≤1000) (hset:L op=opSet→os.length=2) :
  Calls Tryz.prog 64 #[.slice sa xs.length cs,.agg #[.string lb,.string op,.slice oa os.length oc]] w (FitPost (fitsR (xs.map SpV.p) ⟨L lb,L op,os.map L⟩) w):=by
 obtain ⟨R,hR⟩:∃R,fitsR (xs.map SpV.p) ⟨L lb,L op,os.map L⟩=R:=⟨_,rfl⟩
 rw [hR]
 unfold fitsR at hR
 simp only [List.length_map] at hR
 obtain ⟨T,hT⟩:∃T,twiceR (xs.map SpV.p) ⟨L lb,L op,os.map L⟩=T:=⟨_,rfl⟩
 rw [hT] at hR
 unfold twiceR at hT
 simp only at hT
 obtain ⟨cr,hcr⟩:∃cr,countsR (L op)=cr:=⟨_,rfl⟩
 rw [hcr] at hR
 obtain ⟨n,rg⟩:=cr
 simp only at hR
 obtain ⟨b1,b2,b3,b4,b5,b6⟩:=countsR_bd hcr
 have HB4:=hid b4
 have HB5:=hid b5
 have HB6:=hid b6
 clear b4 b5 b6
 have hb0:Below w.heap.size w (w.alloc (.cells #[.string lb,.string op,.slice oa os.length oc] 134)):=(Below.refl _ _).alloc (Nat.le_refl _) _
 have HROW:=hid (show RowT (w.alloc (.cells #[.string lb,.string op,.slice oa os.length oc] 134)) 134 w.heap.size [.string lb,.string op,.slice oa os.length oc] from RowT.new w 134 [.string lb,.string op,.slice oa os.length oc])
 have HX:=hid (h.below hb0)
 have HST:=hid (hst.below hb0)
 have HB0:=hid hb0
 have HR:=hid hR
 have HT:=hid hT
 have HCR:=hid hcr
 have HOK:=hid hok
 have HSZ:=hid hsz
 clear h hR hT hcr hok hst hsz hb0
 go_enter Tryz.func64,Tryz.ntmps64
 go_upto_region 1 with fail
 generalize w.alloc (.cells #[.string lb,.string op,.slice oa os.length oc] 134)=w1 at *
 generalize hgw:w.heap.size=gw at *
 have HGW:=hid hgw
 clear hgw
 have r0:w1.cell? ⟨gw,0,none⟩=some (.string lb):=HROW.out.cell 0 (by simp)
 have r1:w1.cell? ⟨gw,1,none⟩=some (.string op):=HROW.out.cell 1 (by simp)
 have r2:w1.cell? ⟨gw,2,none⟩=some (.slice oa os.length oc):=HROW.out.cell 2 (by simp)
 go_wp2_with fail
 refine (counts_any op w1).mono ?_
 rw [HCR.out]
 rintro e w2 ⟨rfl,hw⟩
 obtain rfl:=hw.symm
 clear hw
 simp only
 by_cases hn2:n=-2
 ·have hr:=HR.out
  rw [if_pos hn2] at hr
  subst hn2
  have HRR:=hid hr
  clear hr
  go_wp2_with fail
  go_ret2
  rw [←HRR.out]
  exact ⟨rfl,by rw [HGW.out];exact HB0.out⟩
 have kn2:(n==-2)=false:=by rw [beq_eq_false_iff_ne];exact hn2
 obtain ⟨N1,hN1⟩:∃N1,namedR (xs.map SpV.p) (L lb)=N1:=⟨_,rfl⟩
 obtain ⟨bl,hbl⟩:∃bl,lb.toList.isEmpty=bl:=⟨_,rfl⟩
 have hbd:decide (L lb=[])=bl:=by
  rw [←hbl]
  by_cases q:L lb=[]
  ·rw [emp_is q];exact decide_eq_true q
  ·rw [emp_not q];exact decide_eq_false q
 have HN1:=hid hN1
 have HT2:=hid (show ((!bl&&N1) || (decide (L op=opSet)&&namedR (xs.map SpV.p) ((os.map L).headD [])))=T by rw [←HT.out,hbd,hN1])
 clear hN1 hbd HT
 go_upto_if 26 with fail
 clear hbl
 go_cut [8] (fun t wx=>t=.bool (!bl&&N1)∧w1=wx)
 case first =>
  cases bl
  ·go_wp2_with fail
   refine (named_any w1 B0 sa cs xs lb HX.out hl HOK.out).mono ?_
   rw [HN1.out]
   rintro e w2 ⟨rfl,hw⟩
   obtain rfl:=hw.symm
   clear hw
   go_wp2_with fail
   go_meet
   case rel=>exact ⟨rfl,rfl⟩
  ·go_wp2_with fail
   go_meet
   case rel=>exact ⟨rfl,rfl⟩
 case rest =>
  obtain ⟨htv,hwq⟩:=hcut
  subst htv
  obtain rfl:=hwq
  generalize (!bl&&N1)=t1 at *
  have hr2:=HR.out
  rw [if_neg hn2] at hr2
  have HR2:=hid hr2
  clear hr2
  clear HR
  obtain ⟨bs,hbs⟩:∃bs,(op.toList==[46,115,101,116])=bs:=⟨_,rfl⟩
  have HBS:=hid hbs
  go_upto_if 33 with fail
  clear hbs
  go_cut [8] (fun t wx=>t=.bool T∧w1=wx)
  case first =>
   cases bs
   ·have hne:¬L op=opSet:=fun q=>by have:=HBS.out;rw [opn_is (show L op=[46,115,101,116] from q)] at this;cases this
    have HTT:=hid (show t1=T by rw [←HT2.out];simp [hne])
    go_wp2_with fail
    go_meet
    case rel=>exact ⟨by rw [HTT.out],rfl⟩
   ·have hse:L op=opSet:=by
     by_cases q:L op=opSet
     ·exact q
     ·have:=HBS.out;rw [opn_not (show ¬L op=[46,115,101,116] from q)] at this;cases this
    obtain ⟨o0,o1,hos⟩:=list_pair (hset hse)
    have hst:=HST.out
    rw [hos] at hst
    obtain ⟨b,off,cap,hv,hbl',hc0⟩:=hst.cell 0 (by simp)
    rw [hos,hv] at r2
    simp only [List.getElem_cons_zero,Nat.add_zero,List.length_cons,List.length_nil,Nat.zero_add,Nat.reduceAdd] at hc0 r2
    obtain ⟨N2,hN2⟩:∃N2,namedR (xs.map SpV.p) (L o0)=N2:=⟨_,rfl⟩
    have HTT:=hid (show (t1 || N2)=T by rw [←HT2.out,hos,←hN2];simp [hse])
    have HN2:=hid hN2
    clear hN2 hst hv hos hset
    go_wp2_with fail
    refine (named_any w1 B0 sa cs xs o0 HX.out hl HOK.out).mono ?_
    rw [HN2.out]
    rintro e w2 ⟨rfl,hw⟩
    obtain rfl:=hw.symm
    clear hw
    cases t1
    all_goals
     go_wp2_with fail
     go_meet
     case rel=>exact ⟨by rw [←HTT.out];rfl,rfl⟩
  case rest =>
   obtain ⟨htv,hwq⟩:=hcut
   subst htv
   obtain rfl:=hwq
   cases T
   rotate_left
   ·have hr3:=HR2.out
    rw [if_pos rfl] at hr3
    have HRR:=hid hr3
    clear hr3
    go_wp2_with fail
    go_ret2
    rw [←HRR.out]
    exact ⟨rfl,by rw [HGW.out];exact HB0.out⟩
   have hr3:=HR2.out
   rw [if_neg (by simp)] at hr3
   have HR3:=hid hr3
   clear hr3 HR2 HT2 HN1 HBS r0
   go_upto_region 12 with fail
   go_cut [63] (fun c wx=>c=.bool (cntBad n os.length)∧w1=wx)
   case first =>
    by_cases hn0:0≤n
    ·have kg:decide ((0:Int)≤n)=true:=decide_eq_true hn0
     have kn1:(n==-1)=false:=by rw [beq_eq_false_iff_ne];omega
     by_cases hln:(os.length:Int)=n
     ·have ke:((os.length:Int) != n)=false:=by simpa using hln
      have HCB:=hid (show cntBad n os.length=false by unfold cntBad;simp [hln];omega)
      clear hln
      go_wp2_with fail
      go_meet
      case rel=>exact ⟨by rw [HCB.out],rfl⟩
     ·have ke:((os.length:Int) != n)=true:=by simpa using hln
      have HCB:=hid (show cntBad n os.length=true by unfold cntBad;simp [hln,hn0])
      clear hln
      go_wp2_with fail
      go_meet
      case rel=>exact ⟨by rw [HCB.out],rfl⟩
    ·have kg:decide ((0:Int)≤n)=false:=decide_eq_false hn0
     have kn1:(n==-1)=true:=by rw [beq_iff_eq];omega
     have hn1:n=-1:=by omega
     by_cases hln:os.length=0
     ·have ke:((os.length:Int)==0)=true:=by rw [beq_iff_eq];omega
      have HCB:=hid (show cntBad n os.length=true by unfold cntBad;simp [hln,hn1])
      clear hln hn1
      go_wp2_with fail
      go_meet
      case rel=>exact ⟨by rw [HCB.out],rfl⟩
     ·have ke:((os.length:Int)==0)=false:=by rw [beq_eq_false_iff_ne];omega
      have HCB:=hid (show cntBad n os.length=false by unfold cntBad;simp [hn1];simpa using hln)
      clear hln hn1
      go_wp2_with fail
      go_meet
      case rel=>exact ⟨by rw [HCB.out],rfl⟩
   case rest =>
    obtain ⟨htv,hwq⟩:=hcut
    subst htv
    obtain rfl:=hwq
    cases hcb:cntBad n os.length
    rotate_left
    ·have hr4:=HR3.out
     rw [hcb,if_pos rfl] at hr4
     have HRR:=hid hr4
     clear hr4 hcb
     go_wp2_with fail
     go_ret2
     rw [←HRR.out]
     exact ⟨rfl,by rw [HGW.out];exact HB0.out⟩
    have hr4:=HR3.out
    rw [hcb,if_neg (by simp)] at hr4
    have hcn:(0≤n→(os.length:Int)=n)∧(n=-1→¬os.length=0):=by
     unfold cntBad at hcb
     simp only [Bool.or_eq_false_iff,Bool.and_eq_false_iff,decide_eq_false_iff_not] at hcb
     omega
    have hrl:rg≤os.length:=by
     by_cases q:0≤n
     ·have:=HB4.out q;have:=hcn.1 q;omega
     ·have:=HB5.out (by omega);omega
    have HR4:=hid hr4
    have HCN:=hid hcn
    have hos1:L op=oSpace∨L op=oAlign→os.length=1:=fun q=>by have:=HB6.out q;have:=hcn.1 (by omega);omega
    have HOS1:=hid hos1
    clear hr4 hcb HR3 hcn hos1
    go_wp2_with fail
    go_loop [10] (fun i=>∃j:Nat,j≤rg∧i=.int .i64 j∧((os.map L).take j).all regB=true) (fun i=>rg-(intOf i).toNat)
    case atStart=>exact ⟨0,Nat.zero_le _,rfl,rfl⟩
    case round =>
     obtain ⟨j,hj,rfl,hall⟩:=hrel
     have HALL:=hid hall
     clear hall
     by_cases hlt:j<rg
     ·have dn:decide ((j:Int)<(rg:Int))=true:=decide_eq_true (by omega)
      have hjo:j<os.length:=by omega
      obtain ⟨b,off,cap,hv,hbl',hc⟩:=HST.out.cell j hjo
      injection hv with hv1 hv2 hv3
      clear hv2
      subst hv1 hv3
      have hnx:((os.map L).take (j+1)).all regB=(((os.map L).take j).all regB&&regB (L os[j])):=by
       rw [List.take_succ_eq_append_getElem (by simpa using hjo),List.all_append]
       simp
      have hrn:=regI_neg (L os[j])
      have i1:(0:Int)≤(j:Int):=Int.natCast_nonneg _
      have i2:(j:Int)<(os.length:Int):=by omega
      have HNX:=hid hnx
      clear hnx
      cases hrb:regB (L os[j])
      ·rw [hrb] at hrn
       have hr5:=HR4.out
       have hfa:((os.map L).take rg).all regB=false:=by
        have h1:((os.map L).take (j+1)).all regB=false:=by rw [HNX.out,hrb,Bool.and_false]
        rw [Bool.eq_false_iff] at h1 ⊢
        intro h2
        apply h1
        rw [List.all_eq_true] at h2 ⊢
        intro y hy
        exact h2 y (List.take_subset_take_left _ (by omega) hy)
       rw [if_pos hfa] at hr5
       have HRR:=hid hr5
       clear hr5 hfa hrb
       go_wp2_with fail
       refine (register_any os[j] w1).mono ?_
       rintro e w2 ⟨rfl,hw⟩
       obtain rfl:=hw.symm
       clear hw
       go_wp2_with fail
       go_ret2
       rw [←HRR.out]
       exact ⟨rfl,by rw [HGW.out];exact HB0.out⟩
      ·rw [hrb] at hrn
       have HA2:=hid (show ((os.map L).take (j+1)).all regB=true by rw [HNX.out,hrb,HALL.out];rfl)
       clear hrb
       go_wp2_with fail
       refine (register_any os[j] w1).mono ?_
       rintro e w2 ⟨rfl,hw⟩
       obtain rfl:=hw.symm
       clear hw
       go_wp2_with fail
       go_round
       case rel=>exact ⟨j+1,by omega,by go_num,HA2.out⟩
       case measure=>simp [intOf];omega
     ·have dn:decide ((j:Int)<(rg:Int))=false:=decide_eq_false (by omega)
      have hjr:j=rg:=by omega
      have hr5:=HR4.out
      rw [if_neg (by rw [←hjr,HALL.out];simp)] at hr5
      have HR5:=hid hr5
      clear hr5 hjr HR4
      by_cases hsa:¬L op=oSpace∧¬L op=oAlign
      ·have ks:(op.toList==[46,115,112,97,99,101])=false:=opn_not (show ¬L op=[46,115,112,97,99,101] from hsa.1)
       have ka:(op.toList==[46,97,108,105,103,110])=false:=opn_not (show ¬L op=[46,97,108,105,103,110] from hsa.2)
       have hr6:=HR5.out
       rw [if_pos hsa] at hr6
       have HRR:=hid hr6
       clear hr6
       go_wp2_with fail
       go_ret2
       rw [←HRR.out]
       exact ⟨rfl,by rw [HGW.out];exact HB0.out⟩
      have hsa2:L op=oSpace∨L op=oAlign:=by
       by_cases q:L op=oSpace
       ·exact Or.inl q
       ·by_cases q2:L op=oAlign
        ·exact Or.inr q2
        ·exact absurd ⟨q,q2⟩ hsa
      have hr6:=HR5.out
      rw [if_neg hsa] at hr6
      obtain ⟨o0,hos⟩:=list_one (HOS1.out hsa2)
      have hoz:o0.size≤1000:=by have:=HSZ.out 0 (by rw [hos];simp);simpa [hos] using this
      subst hos
      simp only [List.map_cons,List.headD_cons] at hr6
      obtain ⟨q,hq⟩:∃q,value 0 (setsR [] (xs.map SpV.p)) (L o0)=q:=⟨_,rfl⟩
      rw [hq] at hr6
      obtain ⟨v,er⟩:=q
      simp only at hr6
      have HQ:=hid hq
      clear hq HR5 HALL hsa
      rcases hsa2 with hs|hs
      ·have ks:(op.toList==[46,115,112,97,99,101])=true:=opn_is (show L op=[46,115,112,97,99,101] from hs)
       have ka:(op.toList==[46,97,108,105,103,110])=false:=opn_not (show ¬L op=[46,97,108,105,103,110] by rw [hs];decide)
       rw [if_neg (show ¬L op=oAlign by rw [hs];decide)] at hr6
       clear hs
       go_wp2_with fail
       refine (rsets_any w1 B0 sa cs xs HX.out hl HOK.out).mono ?_
       rintro e w2 ⟨hb2,va,ns,rfl,hpl,hnl,hown⟩
       obtain ⟨na,nc,hnv,hna⟩:=own_names hown
       subst hnv
       have hvl:value 0 (plainN ns) (L o0)=(v,er):=by rw [hpl];exact HQ.out
       have HB2:=hid (HB0.out.trans (hb2.mono (by have:=HB0.out.size;rw [HGW.out] at this;exact this)))
       have HROW2:=hid (HROW.out.below hb2)
       have HST2:=hid (HST.out.below hb2)
       have r1:w2.cell? ⟨gw,1,none⟩=some (.string op):=HROW2.out.cell 1 (by simp)
       have r2:w2.cell? ⟨gw,2,none⟩=some (.slice oa [o0].length oc):=HROW2.out.cell 2 (by simp)
       obtain ⟨b,off,cap,hv,hbl',hc0⟩:=HST2.out.cell 0 (by simp)
       rw [hv] at r2
       simp only [List.getElem_cons_zero,Nat.add_zero,List.length_cons,List.length_nil,Nat.zero_add] at hc0 r2
       have HNA:=hid hna
       have HVL:=hid hvl
       clear hb2 hpl hown hna hvl hv
       go_wp2_with fail
       refine (refValue_any o0 0 na nc ns w2 v er (by omega) (by unfold maxLen;omega) HNA.out HVL.out).mono ?_
       rintro e w3 ⟨rfl,hw⟩
       obtain rfl:=hw.symm
       clear hw
       by_cases he:er=0
       ·rw [if_neg (by simpa using he)] at hr6
        subst he
        by_cases hv0:v<0∨1000<v
        ·rw [if_pos (decide_eq_true hv0)] at hr6
         have HRR:=hid hr6
         clear hr6
         rcases hv0 with hv0|hv0
         ·have k0:decide (v<0)=true:=decide_eq_true hv0
          go_wp2_with fail
          go_ret2
          rw [←HRR.out]
          exact ⟨rfl,by rw [HGW.out];exact HB2.out⟩
         ·have k0:decide (v<0)=false:=decide_eq_false (by omega)
          have k1:decide ((1000:Int)<v)=true:=decide_eq_true hv0
          go_wp2_with fail
          go_ret2
          rw [←HRR.out]
          exact ⟨rfl,by rw [HGW.out];exact HB2.out⟩
        ·rw [if_neg (by rw [decide_eq_false hv0];simp)] at hr6
         have HRR:=hid hr6
         clear hr6
         have k0:decide (v<0)=false:=decide_eq_false (by omega)
         have k1:decide ((1000:Int)<v)=false:=decide_eq_false (by omega)
         go_wp2_with fail
         go_ret2
         rw [←HRR.out]
         exact ⟨rfl,by rw [HGW.out];exact HB2.out⟩
       ·rw [if_pos he] at hr6
        have ke:(er != 0)=true:=by simpa using he
        have HRR:=hid hr6
        clear hr6
        go_wp2_with fail
        go_ret2
        rw [←HRR.out]
        exact ⟨rfl,by rw [HGW.out];exact HB2.out⟩
      ·have ks:(op.toList==[46,115,112,97,99,101])=false:=opn_not (show ¬L op=[46,115,112,97,99,101] by rw [hs];decide)
       have ka:(op.toList==[46,97,108,105,103,110])=true:=opn_is (show L op=[46,97,108,105,103,110] from hs)
       rw [if_pos hs] at hr6
       clear hs
       go_wp2_with fail
       refine (rsets_any w1 B0 sa cs xs HX.out hl HOK.out).mono ?_
       rintro e w2 ⟨hb2,va,ns,rfl,hpl,hnl,hown⟩
       obtain ⟨na,nc,hnv,hna⟩:=own_names hown
       subst hnv
       have hvl:value 0 (plainN ns) (L o0)=(v,er):=by rw [hpl];exact HQ.out
       have HB2:=hid (HB0.out.trans (hb2.mono (by have:=HB0.out.size;rw [HGW.out] at this;exact this)))
       have HROW2:=hid (HROW.out.below hb2)
       have HST2:=hid (HST.out.below hb2)
       have r1:w2.cell? ⟨gw,1,none⟩=some (.string op):=HROW2.out.cell 1 (by simp)
       have r2:w2.cell? ⟨gw,2,none⟩=some (.slice oa [o0].length oc):=HROW2.out.cell 2 (by simp)
       obtain ⟨b,off,cap,hv,hbl',hc0⟩:=HST2.out.cell 0 (by simp)
       rw [hv] at r2
       simp only [List.getElem_cons_zero,Nat.add_zero,List.length_cons,List.length_nil,Nat.zero_add] at hc0 r2
       have HNA:=hid hna
       have HVL:=hid hvl
       clear hb2 hpl hown hna hvl hv
       go_wp2_with fail
       refine (refValue_any o0 0 na nc ns w2 v er (by omega) (by unfold maxLen;omega) HNA.out HVL.out).mono ?_
       rintro e w3 ⟨rfl,hw⟩
       obtain rfl:=hw.symm
       clear hw
       by_cases he:er=0
       ·rw [if_neg (by simpa using he)] at hr6
        subst he
        have hcs:v=1∨v=2∨v=4∨v=8∨v=16∨(¬v=1∧¬v=2∧¬v=4∧¬v=8∧¬v=16):=by omega
        rcases hcs with q|q|q|q|q|⟨q1,q2,q3,q4,q5⟩
        case inr.inr.inr.inr.inr =>
         rw [if_pos (by simp [alignB,q1,q2,q3,q4,q5])] at hr6
         have m1:(v != 1)=true:=by simpa using q1
         have m2:(v != 2)=true:=by simpa using q2
         have m3:(v != 4)=true:=by simpa using q3
         have m4:(v != 8)=true:=by simpa using q4
         have m5:(v != 16)=true:=by simpa using q5
         have HRR:=hid hr6
         clear hr6
         have hv3:v<0∨(¬v<0∧1000<v)∨(¬v<0∧¬1000<v):=by omega
         rcases hv3 with h1|⟨h1,h2⟩|⟨h1,h2⟩
         ·have k0:decide (v<0)=true:=decide_eq_true h1
          go_wp2_with fail
          go_ret2
          rw [←HRR.out]
          exact ⟨rfl,by rw [HGW.out];exact HB2.out⟩
         ·have k0:decide (v<0)=false:=decide_eq_false h1
          have k1:decide ((1000:Int)<v)=true:=decide_eq_true h2
          go_wp2_with fail
          go_ret2
          rw [←HRR.out]
          exact ⟨rfl,by rw [HGW.out];exact HB2.out⟩
         ·have k0:decide (v<0)=false:=decide_eq_false h1
          have k1:decide ((1000:Int)<v)=false:=decide_eq_false h2
          go_wp2_with fail
          go_ret2
          rw [←HRR.out]
          exact ⟨rfl,by rw [HGW.out];exact HB2.out⟩
        all_goals
         subst q
         rw [if_neg (by decide)] at hr6
         have HRR:=hid hr6
         clear hr6
         go_wp2_with fail
         go_ret2
         rw [←HRR.out]
         exact ⟨rfl,by rw [HGW.out];exact HB2.out⟩
       ·rw [if_pos he] at hr6
        have ke:(er != 0)=true:=by simpa using he
        have HRR:=hid hr6
        clear hr6
        go_wp2_with fail
        go_ret2
        rw [←HRR.out]
        exact ⟨rfl,by rw [HGW.out];exact HB2.out⟩
end
def markL (j:Nat):List Value:=[.string ⟨#[]⟩,.int .i64 (-1000-(j:Int)),.int .i64 0,.int .i64 0]
theorem grown_trans {a b c:World}{row:Option Nat}(h:a.grownBy b row) (k:b.grownBy c row):a.grownBy c row:=
 ⟨k.os.trans h.os,k.tape.trans h.tape,k.output.trans h.output,Nat.le_trans h.size k.size,fun i hi hn=>(k.block i (Nat.lt_of_lt_of_le hi h.size) hn).trans (h.block i hi hn)⟩
theorem grown_set (w:World) (p:Addr) (u:Value) {row:Option Nat}(h:row=some p.block):w.grownBy (w.setCell p u) row:=
 ⟨rfl,rfl,rfl,by simp [World.setCell],fun k _ hn=>heap_setCell_other w p k u (fun e=>hn (by rw [h,e]))⟩
theorem own_set {w:World}{base e size g n cap:Nat}{xs:List Value}(h:w.ownsRow base e size (.slice (some ⟨g,0,none⟩) n cap) n xs) (j:Nat) (u:Value):(w.setCell ⟨g,j,none⟩ u).ownsRow base e size (.slice (some ⟨g,0,none⟩) n cap) n (xs.set j u):=by
 rcases h with ⟨hl,⟨h0,_⟩|⟨g',cap',cur,hv,hb,hh,hn,hc,hs,ht⟩⟩
 ·cases h0
 ·cases hv
  refine ⟨by simp [hl],Or.inr ⟨g,cap,cur.setIfInBounds j u,rfl,hb,?_,hn,hc,by simp [hs],?_⟩⟩
  ·exact heap_setCell_same w g j cur e u hh
  ·rw [←ht]
   simp [List.take_set]
theorem take_marks {xs mk:List Value}{j n:Nat}{a b c d:Value}(hm:mk=[a,b,c,d]) (hx:xs.length=n*4) (hj:j<n) (ht:xs.take (j*4)=reps mk j) :
  ((((xs.set (j*4) a).set (j*4+1) b).set (j*4+2) c).set (j*4+3) d).take ((j+1)*4)=reps mk (j+1):=by
 have h1:xs=reps mk j++xs.drop (j*4):=by rw [←ht,List.take_append_drop]
 have h2:(xs.drop (j*4)).length=n*4-j*4:=by rw [List.length_drop,hx]
 have h3:(reps mk j).length=j*4:=by rw [reps_length,hm];rfl
 generalize hd:xs.drop (j*4)=ys at *
 match ys,h2 with
 |x0::x1::x2::x3::r,_ =>
  rw [h1,←h3]
  rw [List.set_append_right _ _ (by omega),List.set_append_right _ _ (by omega),List.set_append_right _ _ (by omega),List.set_append_right _ _ (by omega)]
  rw [List.take_append,List.take_of_length_le (by omega)]
  simp only [reps,Nat.sub_self,Nat.add_sub_cancel_left,hm]
  rw [show (j+1)*4-(reps [a,b,c,d] j).length=4 from by rw [←hm];omega]
  simp
 |[],h=>simp at h;omega
 |[_],h=>simp at h;omega
 |[_,_],h=>simp at h;omega
 |[_,_,_],h=>simp at h;omega
theorem grown_set4 {w1 w:World}{g n cap:Nat}(h:w1.grownBy w (Value.slice (some ⟨g,0,none⟩) n cap).ownBlock) (i j k l:Nat) (a b c d:Value) :
  w1.grownBy ((((w.setCell ⟨g,i,none⟩ a).setCell ⟨g,j,none⟩ b).setCell ⟨g,k,none⟩ c).setCell ⟨g,l,none⟩ d) (Value.slice (some ⟨g,0,none⟩) n cap).ownBlock:=
 grown_trans (grown_trans (grown_trans (grown_trans h (grown_set _ ⟨g,i,none⟩ _ rfl)) (grown_set _ ⟨g,j,none⟩ _ rfl)) (grown_set _ ⟨g,k,none⟩ _ rfl)) (grown_set _ ⟨g,l,none⟩ _ rfl)
theorem own_types {w:World}{b d e f s t n m:Nat}{u v:Value}{xs ys:List Value}(h:w.ownsRow b e s u n xs) (k:w.ownsRow d f t v m ys) (hne:e≠f):u.ownBlock=none∨u.ownBlock≠v.ownBlock:=by
 rcases h.2 with ⟨rfl,_⟩|⟨g,cap,cur,rfl,_,hk,_⟩
 ·exact Or.inl rfl
 ·right
  intro hh
  rcases k.2 with ⟨rfl,_⟩|⟨g',cap',cur',rfl,_,hk',_⟩
  ·cases hh
  ·simp only [Value.ownBlock,Option.some.injEq] at hh
   subst hh
   rw [hk] at hk'
   simp only [Option.some.injEq,Obj.cells.injEq] at hk'
   exact hne hk'.2.1
def Share (n:Nat) (v u:Value) (k:Nat):Prop:=∀p,u.ownBlock=some p→v.ownBlock=some p→∃c,v=.slice (some ⟨p,0,none⟩) n c∧u=.slice (some ⟨p,0,none⟩) k c
theorem share_self {w:World}{b e s n:Nat}{v:Value}{xs:List Value}(h:w.ownsRow b e s v n xs):Share n v v n:=by
 intro p h1 _
 rcases h.2 with ⟨rfl,_⟩|⟨g,cap,cur,rfl,_⟩
 ·cases h1
 ·simp only [Value.ownBlock,Option.some.injEq] at h1
  subst h1
  exact ⟨cap,rfl,rfl⟩
theorem share_or {w w':World}{b e s n g cap k:Nat}{v:Value}{xs:List Value}(h:w.ownsRow b e s v n xs) (hor:v=.slice (some ⟨g,0,none⟩) n cap∨(w.heap.size≤g∧w.grownBy w' none)):Share n v (.slice (some ⟨g,0,none⟩) k cap) k:=by
 intro p h1 h2
 simp only [Value.ownBlock,Option.some.injEq] at h1
 subst h1
 rcases hor with rfl|⟨h3,_⟩
 ·exact ⟨cap,rfl,rfl⟩
 ·exfalso
  rcases h.2 with ⟨rfl,_⟩|⟨g',cap',cur,rfl,_,hh,_⟩
  ·cases h2
  ·simp only [Value.ownBlock,Option.some.injEq] at h2
   subst h2
   have:=(Array.getElem?_eq_some_iff.1 hh).1
   omega
theorem own_lt {w:World}{b e s n p:Nat}{v:Value}{xs:List Value}(h:w.ownsRow b e s v n xs) (hp:v.ownBlock=some p):p<w.heap.size:=by
 rcases h.2 with ⟨rfl,_⟩|⟨g',cap',cur,rfl,_,hh,_⟩
 ·cases hp
 ·simp only [Value.ownBlock,Option.some.injEq] at hp
  subst hp
  exact (Array.getElem?_eq_some_iff.1 hh).1
theorem own_geK {w:World}{b e s n p:Nat}{v:Value}{xs:List Value}(h:w.ownsRow b e s v n xs) (hp:v.ownBlock=some p):b≤p:=by
 rcases h.2 with ⟨rfl,_⟩|⟨g',cap',cur,rfl,hb,_⟩
 ·cases hp
 ·simp only [Value.ownBlock,Option.some.injEq] at hp
  subst hp
  exact hb
def KeptAt (w:World) (B:Nat) (us:List Value):Prop:=
 ∀i u,us[i]?=some u→∃k,w.ownsRow 0 38 4 u k (reps (markL (i / 4)) k)∧∀q,u.ownBlock=some q→q<B
structure BookAt (w:World) (lo B kb:Nat) (vb nv bv:Value) (us:List Value):Prop where
 row:RowT w 55 kb [vb,nv,bv]
 ge:lo≤kb
 hi:kb<B
 own:w.ownsRow lo 26 1 vb us.length us
 far:∀q,vb.ownBlock=some q→q<B
 kept:KeptAt w B us
theorem KeptAt.grown {w w':World}{B:Nat}{us:List Value}{row:Option Nat}(h:KeptAt w B us) (hg:w.grownBy w' row) (hr:∀p,row=some p→B≤p):KeptAt w' B us:=by
 intro i u hu
 obtain ⟨k,h1,h2⟩:=h i u hu
 refine ⟨k,h1.kept hg ?_,h2⟩
 cases hub:u.ownBlock with
 |none=>exact Or.inl rfl
 |some p =>
  right
  intro e
  have:=h2 p hub
  have:=hr p e.symm
  omega
theorem BookAt.grown {w w':World}{lo B kb:Nat}{vb nv bv:Value}{us:List Value}{row:Option Nat}(h:BookAt w lo B kb vb nv bv us) (hg:w.grownBy w' row) (hr:∀p,row=some p→B≤p):BookAt w' lo B kb vb nv bv us:=by
 refine ⟨h.row.grown' hg (fun e=>?_),h.ge,h.hi,h.own.kept hg ?_,h.far,h.kept.grown hg hr⟩
 ·have:=hr kb e.symm
  have:=h.hi
  omega
 ·cases hub:vb.ownBlock with
  |none=>exact Or.inl rfl
  |some p =>
   right
   intro e
   have:=h.far p hub
   have:=hr p e.symm
   omega
theorem own_set_book {w:World}{b n kb:Nat}{u x:Value}{xs ys:List Value}(h:w.ownsRow b 38 4 u n xs) (hr:RowT w 55 kb ys):(w.setCell ⟨kb,0,none⟩ x).ownsRow b 38 4 u n xs:=
 h.kept (grown_set w ⟨kb,0,none⟩ x rfl) (Or.inr (own_row_ne h hr (by decide)))
theorem own_set_book' {w:World}{b n kb:Nat}{u x:Value}{xs ys:List Value}(h:w.ownsRow b 26 1 u n xs) (hr:RowT w 55 kb ys):(w.setCell ⟨kb,0,none⟩ x).ownsRow b 26 1 u n xs:=
 h.kept (grown_set w ⟨kb,0,none⟩ x rfl) (Or.inr (own_row_ne h hr (by decide)))
theorem BookAt.more {w w2 w4:World}{lo B kb g cap:Nat}{vb nv bv u:Value}{us:List Value}(h:BookAt w lo B kb vb nv bv us) (hB:B≤w.heap.size) (ha:w.grownBy w2 none) (hg:w2.grownBy w4 vb.ownBlock)
  (ho:w4.ownsRow lo 26 1 (.slice (some ⟨g,0,none⟩) (us.length+1) cap) (us.length+1) (us++[u])) (hl:g<w4.heap.size) (hu:∃k,w.ownsRow 0 38 4 u k (reps (markL (us.length / 4)) k)) :
  BookAt (w4.setCell ⟨kb,0,none⟩ (.slice (some ⟨g,0,none⟩) (us.length+1) cap)) lo w4.heap.size kb (.slice (some ⟨g,0,none⟩) (us.length+1) cap) nv bv (us++[u]):=by
 have hs:w.heap.size≤w4.heap.size:=Nat.le_trans ha.size hg.size
 have hne:vb.ownBlock≠some kb:=own_row_ne h.own h.row (by decide)
 have hr2:RowT w2 55 kb [vb,nv,bv]:=h.row.grown' ha (by simp)
 have hr4:RowT w4 55 kb [vb,nv,bv]:=hr2.grown' hg (Ne.symm hne)
 have hvb2:w2.ownsRow lo 26 1 vb us.length us:=h.own.kept ha (by cases hub:vb.ownBlock<;>simp)
 have hst:∀{b n:Nat} {u:Value} {xs:List Value},w.ownsRow b 38 4 u n xs→w4.ownsRow b 38 4 u n xs:=by
  intro b n u xs h1
  have h2:w2.ownsRow b 38 4 u n xs:=h1.kept ha (by cases hub:u.ownBlock<;>simp)
  exact h2.kept hg (own_types h2 hvb2 (by decide))
 refine ⟨hr4.set 0 _,h.ge,Nat.lt_of_lt_of_le h.row.lt hs,?_,?_,?_⟩
 ·rw [List.length_append]
  exact own_set_book' ho hr4
 ·intro p hp
  simp only [Value.ownBlock,Option.some.injEq] at hp
  omega
 ·intro i v hv
  rw [List.getElem?_append] at hv
  split at hv
  ·obtain ⟨k,h1,h2⟩:=h.kept i v hv
   exact ⟨k,own_set_book (hst h1) hr4,fun p hp=>Nat.lt_of_lt_of_le (h2 p hp) (Nat.le_trans hB hs)⟩
  ·obtain ⟨k,h1⟩:=hu
   have hi:i=us.length∧u=v:=by
    have:i-us.length=0:=by
     by_cases h0:i-us.length=0
     ·exact h0
     ·rw [List.getElem?_eq_none (by simp;omega)] at hv;cases hv
    rw [this] at hv
    simp at hv
    exact ⟨by omega,hv⟩
   obtain ⟨rfl,rfl⟩:=hi
   exact ⟨k,own_set_book (hst h1) hr4,fun p hp=>Nat.lt_of_lt_of_le (own_lt h1 hp) hs⟩
theorem BookAt.stays {w w2 w4:World}{lo B kb b n:Nat}{vb nv bv u x:Value}{us xs:List Value}(h:BookAt w lo B kb vb nv bv us) (ha:w.grownBy w2 none) (hg:w2.grownBy w4 vb.ownBlock)
  (h1:w.ownsRow b 38 4 u n xs):(w4.setCell ⟨kb,0,none⟩ x).ownsRow b 38 4 u n xs:=by
 have hne:vb.ownBlock≠some kb:=own_row_ne h.own h.row (by decide)
 have hr4:RowT w4 55 kb [vb,nv,bv]:=(h.row.grown' ha (by simp)).grown' hg (Ne.symm hne)
 have hvb2:w2.ownsRow lo 26 1 vb us.length us:=h.own.kept ha (by cases hub:vb.ownBlock<;>simp)
 have h2:w2.ownsRow b 38 4 u n xs:=h1.kept ha (by cases hub:u.ownBlock<;>simp)
 exact own_set_book (h2.kept hg (own_types h2 hvb2 (by decide))) hr4
theorem info_lines:(Tryz.prog.info? 26).map (fun i=>(i.zero,i.size,i.bytes))=some (some (.slice none 0 0),1,24):=by kernel_rfl
end Go.Proofs.YtcepppilgncdmaaGreatDoor
