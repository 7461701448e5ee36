/-
  Joined: RByt.
-/
import Derived.Test.YtcepppilgncdmaaGreatDoorBX21
import Derived.Test.YtcepppilgncdmaaGreatDoorBX37
namespace Go.Proofs.YtcepppilgncdmaaGreatDoor
open Go.RowKit
attribute [local go_sem ↓] Go.wp_at_zero Go.wp_at_succ
def finB (done:List UInt8) (E:Int×List UInt8):Int×List UInt8:=if E.1≠0 then (E.1,[]) else (0,done++E.2)
theorem fin_nil (all:List (List UInt8×Int)) (x:StpP):∀es,finB [] (exprsR all x es)=exprsR all x es
 |[]=>rfl
 |e::r=>by
  by_cases h:(operandR all x e).1=0
  ·by_cases k:(exprsR all x r).1=0
   ·simp [finB,exprsR,h,k]
   ·simp [finB,exprsR,h,k]
  ·simp [finB,exprsR,h]
theorem fin_bad {all:List (List UInt8×Int)}{x:StpP}{e:List UInt8}{r:List (List UInt8)}{done:List UInt8}(h:(operandR all x e).1≠0):finB done (exprsR all x (e::r))=((operandR all x e).1,[]):=by
 simp [finB,exprsR,h]
theorem fin_step {all:List (List UInt8×Int)}{x:StpP}{e:List UInt8}{r:List (List UInt8)}{done:List UInt8}(h:(operandR all x e).1=0):finB done (exprsR all x (e::r))=finB (done++(operandR all x e).2) (exprsR all x r):=by
 by_cases k:(exprsR all x r).1=0
 ·simp [finB,exprsR,h,k]
 ·simp [finB,exprsR,h,k]
theorem byCells_one (l:List UInt8):∀q∈byCells l,q.oneCell'=true:=by
 intro q hq
 unfold byCells at hq
 obtain ⟨b,_,rfl⟩:=List.mem_map.1 hq
 rfl
theorem byCells_zeros (n:Nat):byCells (List.replicate n 0)=List.replicate n (.int .u8 0):=by
 unfold byCells
 rw [List.map_replicate]
 rfl
theorem operandR_len (all:List (List UInt8×Int)) (x:StpP) (e:List UInt8):(operandR all x e).2.length≤2:=by
 unfold operandR
 split
 ·simp
 ·split
  ·unfold numP
   rw [if_neg (by decide)]
   split<;>simp
  ·split
   ·simp
   ·unfold numP
    rw [if_pos rfl]
    split<;>simp
theorem byteP_small {n:Nat}(h:n≤255):((byteP (n:Int)).toNat:Int)=(n:Int):=by
 rw [byteP_nat];omega
set_option maxRecDepth 100000 in
set_option maxHeartbeats 3200000 in
theorem bytesS_any (x:SpV) (w:World) (hst:StrV w 0 x.v x.os) (hx:SpOk x) (hi:SpIn x) (na:Option Addr) (nc:Nat) (ns:List (ByteArray×Int)) (hnl:ns.length≤1000) (hna:NamesAt w na ns) (hc8:codeR x.p≤255) :
  Calls Tryz.prog 68 #[spV x,.slice na ns.length nc] w (BytPost (bytesR (plainN ns) x.p) w):=by
 obtain ⟨ib,hib,hbz,hb1,hb2⟩:=info_parts info_by
 have hfew:=hi.few
 have hof:=hx.few
 obtain ⟨oa,oc,hov⟩:=hst.form
 have HCO:=hid (fun (wz:World) (hz:StrV wz 0 x.v x.os)=>code_any x wz hz hi)
 have HSI:=hid (fun (wz:World)=>sizeS_any x wz oa oc hov hx)
 have HOP:=hid (fun (wz:World) (j:Nat) (hj:j<x.os.length) (hn:NamesAt wz na ns)=>operand_any x wz hx x.os[j] (hx.ops j hj) na nc ns hnl hn)
 have hszl:=sizeR_le hx
 obtain ⟨R,hR⟩:∃R,bytesR (plainN ns) x.p=R:=⟨_,rfl⟩
 rw [hR]
 unfold bytesR at hR
 obtain ⟨P,hP⟩:∃P,x.p=P:=⟨_,rfl⟩
 rw [hP] at hR HCO HSI HOP hc8 hszl
 have hPo:P.w.op=L x.op:=by rw [←hP];rfl
 have hPs:P.w.operands=x.os.map L:=by rw [←hP];rfl
 rw [hPo,hPs] at hR
 obtain ⟨lb,op,v0,os,frm,at_,fix,long⟩:=x
 simp only [spV] at *
 subst hov
 have HR:=hid hR
 unfold BytPost at *
 have hb0:Below w.heap.size w (w.alloc (.cells #[.string lb,.string op,.slice oa os.length oc,.int .i64 (frm:Nat),.int .i64 (at_:Nat),.int .i64 (fix:Nat),.bool long] 138)):=(Below.refl _ _).alloc (Nat.le_refl _) _
 have HROW:=hid (show RowT (w.alloc (.cells #[.string lb,.string op,.slice oa os.length oc,.int .i64 (frm:Nat),.int .i64 (at_:Nat),.int .i64 (fix:Nat),.bool long] 138)) 138 w.heap.size [.string lb,.string op,.slice oa os.length oc,.int .i64 (frm:Nat),.int .i64 (at_:Nat),.int .i64 (fix:Nat),.bool long] from RowT.new w 138 [.string lb,.string op,.slice oa os.length oc,.int .i64 (frm:Nat),.int .i64 (at_:Nat),.int .i64 (fix:Nat),.bool long])
 have HNA:=hid (hna.below hb0)
 have HST:=hid (hst.below hb0)
 have HB:=hid hb0
 obtain ⟨cr,hcr⟩:∃cr,countsR (L op)=cr:=⟨_,rfl⟩
 rw [hcr] at hfew
 obtain ⟨n,rg⟩:=cr
 simp only at hfew
 have HCR:=hid hcr
 clear hb0 hna hst hx hi hR hP hPo hPs hcr
 go_enter Tryz.func68,Tryz.ntmps68
 go_upto_region 1 with fail
 generalize w.alloc (.cells #[.string lb,.string op,.slice oa os.length oc,.int .i64 (frm:Nat),.int .i64 (at_:Nat),.int .i64 (fix:Nat),.bool long] 138)=w1 at *
 generalize hgw:w.heap.size=gw at *
 have HGW:=hid hgw
 have hsz1:gw≤w1.heap.size:=by have:=HB.out.size;rw [hgw] at this;exact this
 clear hgw
 have r0:w1.cell? ⟨gw,0,none⟩=some (.string lb):=HROW.out.cell 0 (by simp)
 have r1:w1.cell? ⟨gw,1,none⟩=some (.string op):=HROW.out.cell 1 (by simp)
 have r2:w1.cell? ⟨gw,2,none⟩=some (.slice oa os.length oc):=HROW.out.cell 2 (by simp)
 have r3:w1.cell? ⟨gw,3,none⟩=some (.int .i64 (frm:Nat)):=HROW.out.cell 3 (by simp)
 have r4:w1.cell? ⟨gw,4,none⟩=some (.int .i64 (at_:Nat)):=HROW.out.cell 4 (by simp)
 have r5:w1.cell? ⟨gw,5,none⟩=some (.int .i64 (fix:Nat)):=HROW.out.cell 5 (by simp)
 have r6:w1.cell? ⟨gw,6,none⟩=some (.bool long):=HROW.out.cell 6 (by simp)
 go_wp2_with fail
 refine (counts_any op w1).mono ?_
 rw [HCR.out]
 rintro e w2 ⟨rfl,hw⟩
 obtain rfl:=hw.symm
 clear hw
 simp only
 by_cases h0:L op=[]∨L op=opSet
 ·have hr:=HR.out
  rw [if_pos h0] at hr
  have HRR:=hid hr
  clear hr
  have hcs:L op=[]∨(¬L op=[]∧L op=opSet):=by
   by_cases q:L op=[]
   ·exact Or.inl q
   ·rcases h0 with k|k
    ·exact absurd k q
    ·exact Or.inr ⟨q,k⟩
  clear h0
  rcases hcs with h|⟨h,h'⟩
  ·have k0:=emp_is h
   go_wp2_with fail
   go_ret2
   rw [←HRR.out]
   exact ⟨by rw [HGW.out];exact HB.out,_,rfl,World.ownsRow_nil _ _ _ _⟩
  ·have k0:=emp_not h
   have k1:(op.toList==[46,115,101,116])=true:=opn_is (show L op=[46,115,101,116] from h')
   go_wp2_with fail
   go_ret2
   rw [←HRR.out]
   exact ⟨by rw [HGW.out];exact HB.out,_,rfl,World.ownsRow_nil _ _ _ _⟩
 have k0:op.toList.isEmpty=false:=emp_not (fun q=>h0 (Or.inl q))
 have k1:(op.toList==[46,115,101,116])=false:=opn_not (show ¬L op=[46,115,101,116] from fun q=>h0 (Or.inr q))
 have hr1:=HR.out
 rw [if_neg h0] at hr1
 by_cases h1:L op=oSpace∨L op=oAlign
 ·rw [if_pos h1] at hr1
  generalize sizeR P=z at *
  have HRR:=hid hr1
  clear hr1
  have hcs:L op=oSpace∨(¬L op=oSpace∧L op=oAlign):=by
   by_cases q:L op=oSpace
   ·exact Or.inl q
   ·rcases h1 with k|k
    ·exact absurd k q
    ·exact Or.inr ⟨q,k⟩
  clear h1
  rcases hcs with h|⟨h,h'⟩
  ·have k2:(op.toList==[46,115,112,97,99,101])=true:=opn_is (show L op=[46,115,112,97,99,101] from h)
   go_wp2_with fail
   refine (HSI.out w1).mono ?_
   rintro e w3 ⟨rfl,hb3⟩
   have HB3:=hid (HB.out.trans (hb3.mono hsz1))
   have hsz3:gw≤w3.heap.size:=Nat.le_trans hsz1 hb3.size
   clear hb3
   go_wp2_with (first|(at_make;refine wpList_make_full _ rfl (.tmp 34) (.tmp 34) 30 rfl gw 5 ib _ 1 Tryz.underlying30 hib hbz hb1 .i64 .i64 _ _ z rfl rfl rfl rfl (by rw [hb2];omega) (by unfold maxLen;omega) hsz3 ?_;intro w4 hown4 hgrow4))
   have hown5:w4.ownsRow gw 5 1 (.slice (some ⟨w3.heap.size,0,none⟩) z z) (List.replicate z (0:UInt8)).length (byCells (List.replicate z 0)):=by
    rw [byCells_zeros,List.length_replicate]
    rw [show (Value.int .u8 0).cells=#[.int .u8 0] from rfl,toList_madeCells_one,Nat.mul_one] at hown4
    exact hown4
   have HO5:=hid hown5
   have HB4:=hid (HB3.out.grown hgrow4 hsz3 (fun q hq=>by cases hq))
   clear hown4 hown5 hgrow4
   try go_wp2_with fail
   go_ret2
   rw [←HRR.out]
   exact ⟨by rw [HGW.out];exact HB4.out,_,rfl,by rw [HGW.out];exact HO5.out⟩
  ·have k2:(op.toList==[46,115,112,97,99,101])=false:=opn_not (show ¬L op=[46,115,112,97,99,101] from h)
   have k3:(op.toList==[46,97,108,105,103,110])=true:=opn_is (show L op=[46,97,108,105,103,110] from h')
   go_wp2_with fail
   refine (HSI.out w1).mono ?_
   rintro e w3 ⟨rfl,hb3⟩
   have HB3:=hid (HB.out.trans (hb3.mono hsz1))
   have hsz3:gw≤w3.heap.size:=Nat.le_trans hsz1 hb3.size
   clear hb3
   go_wp2_with (first|(at_make;refine wpList_make_full _ rfl (.tmp 34) (.tmp 34) 30 rfl gw 5 ib _ 1 Tryz.underlying30 hib hbz hb1 .i64 .i64 _ _ z rfl rfl rfl rfl (by rw [hb2];omega) (by unfold maxLen;omega) hsz3 ?_;intro w4 hown4 hgrow4))
   have hown5:w4.ownsRow gw 5 1 (.slice (some ⟨w3.heap.size,0,none⟩) z z) (List.replicate z (0:UInt8)).length (byCells (List.replicate z 0)):=by
    rw [byCells_zeros,List.length_replicate]
    rw [show (Value.int .u8 0).cells=#[.int .u8 0] from rfl,toList_madeCells_one,Nat.mul_one] at hown4
    exact hown4
   have HO5:=hid hown5
   have HB4:=hid (HB3.out.grown hgrow4 hsz3 (fun q hq=>by cases hq))
   clear hown4 hown5 hgrow4
   try go_wp2_with fail
   go_ret2
   rw [←HRR.out]
   exact ⟨by rw [HGW.out];exact HB4.out,_,rfl,by rw [HGW.out];exact HO5.out⟩
 rw [if_neg h1] at hr1
 have k2:(op.toList==[46,115,112,97,99,101])=false:=opn_not (show ¬L op=[46,115,112,97,99,101] from fun q=>h1 (Or.inl q))
 have k3:(op.toList==[46,97,108,105,103,110])=false:=opn_not (show ¬L op=[46,97,108,105,103,110] from fun q=>h1 (Or.inr q))
 rw [HCR.out] at hr1
 simp only at hr1
 have HR1:=hid hr1
 obtain ⟨bb,hbb⟩:∃bb,(op.toList==[46,98,121,116,101])=bb:=⟨_,rfl⟩
 obtain ⟨bw,hbw⟩:∃bw,(op.toList==[46,119,111,114,100])=bw:=⟨_,rfl⟩
 have HBB:=hid hbb
 have HBW:=hid hbw
 clear hr1 h0 h1 HR HSI hszl
 go_upto_block 0 with fail
 go_cut [8] (fun v wx=>∃done:List UInt8,wx.ownsRow w1.heap.size 5 1 v done.length (byCells done)∧R=finB done (exprsR (plainN ns) P ((os.map L).drop rg))∧done.length≤1∧Below w1.heap.size w1 wx)
 case first =>
  cases bb
  ·have hnb:¬L op=oByte:=fun q=>by have:=HBB.out;rw [opn_is (show L op=[46,98,121,116,101] from q)] at this;cases this
   cases bw
   ·have hnw:¬L op=oWord:=fun q=>by have:=HBW.out;rw [opn_is (show L op=[46,119,111,114,100] from q)] at this;cases this
    have hr2:=HR1.out
    rw [if_neg (by rintro (q|q);exact hnb q;exact hnw q)] at hr2
    generalize codeR P=cd at *
    have HR2:=hid hr2
    clear hr2
    go_wp2_with fail
    refine (HCO.out w1 HST.out).mono ?_
    rintro e w3 ⟨rfl,hb3⟩
    have hsz3:gw≤w3.heap.size:=Nat.le_trans hsz1 hb3.size
    have HB3:=hid hb3
    have hsz4:w1.heap.size≤w3.heap.size:=hb3.size
    clear hb3
    go_wp2_with (first|(at_builtin;refine wpList_append_lies _ rfl (.tmp 22) (.tmp 25) 30 rfl w1.heap.size 5 ib _ 1 1 Tryz.underlying30 hib hbz hb1 hb2 rfl (by omega) (.slice none 0 0) 0 [] rfl (World.ownsRow_nil _ _ _ _) ⟨_,0,none⟩ 1 1 [.int .u8 (cd:Nat)] rfl rfl (World.news_of_block (cs:=#[.int .u8 (cd:Nat)]) (t:=5) (fr:=(0,0)) (heap_alloc_new _ _)) (by simp [Value.oneCell']) (by omega) (by unfold maxLen;omega) (by omega) (by simp;omega) _ rfl ?_;intro gg cap' w4 hown4 hgrow hat hlt4))
    have HO4:=hid hown4
    have HB4:=hid ((HB3.out.alloc hsz4 (.cells #[.int .u8 (cd:Nat)] 5)).grown hgrow (by simp;omega) (fun q hq=>by cases hq))
    clear hown4 hgrow hat
    go_meet
    case rel =>
     refine ⟨[byteP (cd:Nat)],?_,HR2.out.symm,by simp,HB4.out⟩
     have h5:=HO4.out
     unfold byCells
     simp only [List.map_cons,List.map_nil,List.length_cons,List.length_nil,byteP_small hc8]
     exact h5
   ·have hw:L op=oWord:=by
     by_cases q:L op=oWord
     ·exact q
     ·have:=HBW.out;rw [opn_not (show ¬L op=[46,119,111,114,100] from q)] at this;cases this
    have hr2:=HR1.out
    rw [if_pos (Or.inr hw)] at hr2
    have hrg:rg=0:=by have h9:=HCR.out;rw [hw] at h9;exact (congrArg Prod.snd h9).symm
    have HR2:=hid (show R=finB [] (exprsR (plainN ns) P ((os.map L).drop rg)) by rw [fin_nil,hrg,List.drop_zero];exact hr2.symm)
    clear hr2 hrg
    go_wp2_with fail
    go_meet
    case rel=>exact ⟨[],World.ownsRow_nil _ _ _ _,HR2.out,by simp,Below.refl _ _⟩
  ·have hw:L op=oByte:=by
    by_cases q:L op=oByte
    ·exact q
    ·have:=HBB.out;rw [opn_not (show ¬L op=[46,98,121,116,101] from q)] at this;cases this
   have hr2:=HR1.out
   rw [if_pos (Or.inl hw)] at hr2
   have hrg:rg=0:=by have h9:=HCR.out;rw [hw] at h9;exact (congrArg Prod.snd h9).symm
   have HR2:=hid (show R=finB [] (exprsR (plainN ns) P ((os.map L).drop rg)) by rw [fin_nil,hrg,List.drop_zero];exact hr2.symm)
   clear hr2 hrg
   go_wp2_with fail
   go_meet
   case rel=>exact ⟨[],World.ownsRow_nil _ _ _ _,HR2.out,by simp,Below.refl _ _⟩
 case rest =>
  obtain ⟨d0,hod0,hrd0,hd0,hbd0⟩:=hcut
  have HOD0:=hid hod0
  have HRD0:=hid hrd0
  have HBD0:=hid hbd0
  clear hod0 hrd0 hbd0 HR1 HBB HBW HCO
  go_wp2_with fail
  go_loopw [8,9] (fun v i wr=>∃(j:Nat) (done:List UInt8),rg≤j∧j≤os.length∧i=.int .i64 j∧wr.ownsRow w1.heap.size 5 1 v done.length (byCells done)∧R=finB done (exprsR (plainN ns) P ((os.map L).drop j))∧done.length≤1+2*j∧Below w1.heap.size w1 wr) (fun _ i _=>os.length-(intOf i).toNat)
  case atStart=>exact ⟨rg,d0,Nat.le_refl _,hfew,rfl,HOD0.out,HRD0.out,by omega,HBD0.out⟩
  case round =>
   obtain ⟨j,done,hj0,hj,rfl,hod,hrd,hdl,hbr⟩:=hrel
   obtain ⟨oa4,oc4,hvv⟩:=own_form hod
   subst hvv
   have HOD:=hid hod
   have HRD:=hid hrd
   have HBR:=hid hbr
   have hszr:gw≤wr.heap.size:=Nat.le_trans hsz1 hbr.size
   have q0:wr.cell? ⟨gw,0,none⟩=some (.string lb):=(HROW.out.below hbr).cell 0 (by simp)
   have q1:wr.cell? ⟨gw,1,none⟩=some (.string op):=(HROW.out.below hbr).cell 1 (by simp)
   have q2:wr.cell? ⟨gw,2,none⟩=some (.slice oa os.length oc):=(HROW.out.below hbr).cell 2 (by simp)
   have q3:wr.cell? ⟨gw,3,none⟩=some (.int .i64 (frm:Nat)):=(HROW.out.below hbr).cell 3 (by simp)
   have q4:wr.cell? ⟨gw,4,none⟩=some (.int .i64 (at_:Nat)):=(HROW.out.below hbr).cell 4 (by simp)
   have q5:wr.cell? ⟨gw,5,none⟩=some (.int .i64 (fix:Nat)):=(HROW.out.below hbr).cell 5 (by simp)
   have q6:wr.cell? ⟨gw,6,none⟩=some (.bool long):=(HROW.out.below hbr).cell 6 (by simp)
   have HNAR:=hid (HNA.out.below hbr)
   have HSTR:=hid (HST.out.below hbr)
   clear hod hrd hbr
   by_cases hlt:j<os.length
   ·have dn:decide ((j:Int)<(os.length:Int))=true:=decide_eq_true (by omega)
    obtain ⟨b,off,cap,hv,hbl,hc⟩:=HSTR.out.cell j hlt
    simp only [Value.slice.injEq,true_and] at hv
    obtain ⟨rfl,rfl⟩:=hv
    have hdr:(os.map L).drop j=L os[j]::(os.map L).drop (j+1):=by
     rw [List.drop_eq_getElem_cons (by simpa using hlt)]
     simp
    have hrd:=HRD.out
    rw [hdr] at hrd
    have hol:=operandR_len (plainN ns) P (L os[j])
    have HOJ:=hid (fun (wz:World) (hn:NamesAt wz na ns)=>HOP.out wz j hlt hn)
    have HRD2:=hid hrd
    clear hrd hdr HOP
    obtain ⟨Q,hQ⟩:∃Q,operandR (plainN ns) P (L os[j])=Q:=⟨_,rfl⟩
    have HQ:=hid hQ
    rw [hQ] at hol HOJ
    generalize os[j]=o at *
    have i1:(0:Int)≤(j:Int):=Int.natCast_nonneg _
    have i2:(j:Int)<(os.length:Int):=by omega
    clear hQ
    go_upto_region 16 with fail
    go_cut [10,11] (fun bv ev wx=>ev=.int .i64 Q.1∧Below wr.heap.size wr wx∧wx.ownsRow wr.heap.size 5 1 bv Q.2.length (byCells Q.2))
    case first =>
     go_region_with (go_at_call 102;refine (HOJ.out _ (HNAR.out.below ((Below.refl _ _).drew))).mono ?_;rintro e w3 ⟨hb3,v3,rfl,hown3⟩)
     all_goals
      have HB3:=hid (((Below.refl wr.heap.size wr).drew).trans (hb3.mono (Nat.le_refl _)))
      have HO3:=hid hown3
      clear hb3 hown3
      go_wp2_with fail
      go_meet
      case rel=>exact ⟨rfl,HB3.out,HO3.out⟩
    case rest =>
     obtain ⟨hev,hb3,hown3⟩:=hcut
     subst hev
     have HB3:=hid (HBR.out.trans (hb3.mono HBR.out.size))
     have HOD3:=hid (ownsRow_belowP HOD.out hb3)
     have HO3:=hid hown3
     have hsz3:w1.heap.size≤wc.heap.size:=Nat.le_trans HBR.out.size hb3.size
     obtain ⟨oa5,oc5,hvv⟩:=own_form hown3
     subst hvv
     clear hb3 hown3 q0 q1 q2 q3 q4 q5 q6 hc HOJ
     by_cases hq0:Q.1=0
     ·have HR3:=hid (show R=finB (done++Q.2) (exprsR (plainN ns) P ((os.map L).drop (j+1))) by rw [HRD2.out,fin_step (by rw [HQ.out];exact hq0),HQ.out])
      rw [hq0]
      clear hq0
      go_wp2_with (first|(at_builtin;refine wpList_append_row rfl (.tmp 63) (.tmp 64) 30 rfl w1.heap.size 5 ib _ 1 1 Tryz.underlying30 hib hbz hb1 hb2 rfl (by omega) (.slice oa4 done.length oc4) done.length (byCells done) rfl HOD3.out wr.heap.size (.slice oa5 Q.2.length oc5) Q.2.length (byCells Q.2) rfl HO3.out (byCells_one _) (by unfold maxLen;omega) (by omega) hsz3 ?_;intro v4 w4 hown4 hgrow4))
      have HO4:=hid hown4
      have HB4:=hid (HB3.out.grown hgrow4 hsz3 (fun q hq=>own_ge HOD3.out hq))
      clear hown4 hgrow4
      try go_wp2_with fail
      go_roundw
      case rel=>exact ⟨j+1,done++Q.2,by omega,by omega,by go_num,by rw [List.length_append,byCells_append];exact HO4.out,HR3.out,by rw [List.length_append];omega,HB4.out⟩
      case measure=>simp [intOf];omega
     ·have HR3:=hid (show (Q.1,[])=R by rw [HRD2.out,fin_bad (by rw [HQ.out];exact hq0),HQ.out])
      have ke:(Q.1 != 0)=true:=by simpa using hq0
      go_wp2_with fail
      go_ret2
      rw [←HR3.out]
      exact ⟨by rw [HGW.out];exact HB.out.trans (HB3.out.mono hsz1),_,rfl,World.ownsRow_nil _ _ _ _⟩
   ·have dn:decide ((j:Int)<(os.length:Int))=false:=decide_eq_false (by omega)
    have hrd:=HRD.out
    rw [List.drop_of_length_le (by simp;omega)] at hrd
    have HRD2:=hid (show (0,done)=R by rw [hrd];simp [finB,exprsR])
    clear hrd
    go_wp2_with fail
    go_ret2
    rw [←HRD2.out]
    exact ⟨by rw [HGW.out];exact HB.out.trans (HBR.out.mono hsz1),_,rfl,by rw [HGW.out];exact own_mono HOD.out hsz1⟩
end Go.Proofs.YtcepppilgncdmaaGreatDoor
