/-
  Joined: QFill PGo QCall QDoes QPass QOk.
-/
import Derived.Test.YtcepppilgncdmaaGreatDoorBX31
namespace Go.Proofs.YtcepppilgncdmaaGreatDoor
open Go.RowKit
section
attribute [local go_sem ↓] Go.wp_at_zero Go.wp_at_succ
theorem pre_iff (s p:ByteArray) (i:Nat):(L p).isPrefixOf ((L s).drop i)=true↔i+p.size≤s.size+(i-s.size)∧L (s.extract i (i+p.size))=L p:=by
 rw [List.isPrefixOf_iff_prefix,L_extract,List.prefix_iff_eq_take,List.drop_take,Nat.add_sub_cancel_left,L_length]
 constructor
 ·intro h
  refine ⟨?_,h.symm⟩
  have h2:=congrArg List.length h
  rw [List.length_take,List.length_drop,L_length,L_length] at h2
  omega
 ·rintro ⟨_,h⟩
  exact h.symm
theorem fillF_step (ps os:List (List UInt8)) (c:UInt8) (r:List UInt8) (h:¬(c.toNat:Int)=92):fillF ps os (c::r)=(fillF ps os r).map (c::·):=by
 unfold fillF
 simp only [List.length_cons,fillP]
 rw [if_neg h]
theorem fillF_stroke (ps os:List (List UInt8)) (c:UInt8) (r:List UInt8) (h:(c.toNat:Int)=92):fillF ps os (c::r)=match ahead r ps 0 none with
  |none=>none
  |some (i,k)=>(fillF ps os (r.drop k)).map (os.getD i []++·):=by
 have:=fillF_at ps os [] r (by simp)
 rw [List.nil_append] at this
 rw [(byte_eq c 92).1 h]
 exact this
def FilledPost (ps os:List (List UInt8)) (l:List UInt8) (w:World) (e:Ending) (w':World):Prop:=∃t:ByteArray,e=.returned (.tuple #[.string t,.int .i64 (filledP ps os l).1])∧L t=(filledP ps os l).2∧w'=w
set_option maxRecDepth 100000 in
set_option maxHeartbeats 3200000 in
theorem filled_any (w:World) (b:Nat) (lv fv ov dv vo xd:Value) (m:MacQ) (os:List ByteArray) (s:ByteArray) (C:Nat)
  (h:RowT w 130 b [lv,fv,.pointer (some ⟨m.g,0,none⟩),ov,dv,vo,xd]) (hm:MacRow w m) (ho:StrV w C ov os) (hl:os.length=m.ps.length) (hn:m.ps.length≤1000) (hs:s.size≤1000) (hp1:∀k (h:k<m.ps.length),m.ps[k].size≤1000) (hp2:∀k (h:k<os.length),os[k].size≤100) :
  Calls Tryz.prog 93 #[.pointer (some ⟨b,0,none⟩),.string s] w (FilledPost (m.ps.map L) (os.map L) (L s) w):=by
 have c2:w.cell? ⟨b,2,none⟩=some (.pointer (some ⟨m.g,0,none⟩)):=h.cell 2 (by simp)
 have c3:w.cell? ⟨b,3,none⟩=some ov:=h.cell 3 (by simp)
 obtain ⟨oa,oc,hov⟩:=ho.form
 subst hov
 obtain ⟨pa,pc,hpv⟩:=hm.ps.form
 have d1:w.cell? ⟨m.g,1,none⟩=some (.slice pa m.ps.length pc):=by rw [←hpv];exact hm.row.cell 1 (by simp)
 have HST:=hid (hpv ▸ hm.ps)
 have HSO:=hid ho
 obtain ⟨ps,hps⟩:∃ps,m.ps=ps:=⟨_,rfl⟩
 rw [hps] at d1 hl hn hp1 HST ⊢
 generalize m.g=g at c2 d1
 have HP1:=hid hp1
 have HP2:=hid hp2
 have HLO:=hid hl
 obtain ⟨F,hF⟩:∃F,fillF (ps.map L) (os.map L) (L s)=F:=⟨_,rfl⟩
 have HF:=hid hF
 clear h hm ho hpv hps hp1 hp2 hF hl
 go_enter Tryz.func93,Tryz.ntmps93
 go_wp2_with fail
 go_loop [6,7] (fun o i=>∃(k:Nat) (oB:ByteArray),k≤s.size∧i=.int .i64 k∧o=.string oB∧oB.size≤101*k∧F=(fillF (ps.map L) (os.map L) ((L s).drop k)).map (L oB++·)) (fun _ i=>s.size-(intOf i).toNat)
 case atStart=>exact ⟨0,⟨#[]⟩,Nat.zero_le _,rfl,rfl,by decide,by rw [List.drop_zero,HF.out];cases F<;>simp [L]⟩
 case round =>
  obtain ⟨k,oB,hk,rfl,rfl,hsz,ha⟩:=hrel
  have HA:=hid ha
  clear ha
  by_cases hlt:k<s.size
  ·have kd:decide ((k:Int)<s.size)=true:=by simp;omega
   have hA:=HA.out
   rw [L_drop s k hlt] at hA
   by_cases h92:(s[k].toNat:Int)=92
   ·rw [fillF_stroke _ _ _ _ h92] at hA
    have k92:((s[k].toNat:Int) != 92)=false:=by rw [bne_eq_false_iff_eq];exact h92
    obtain ⟨r,hr⟩:∃r,ahead ((L s).drop (k+1)) (ps.map L) 0 none=r:=⟨_,rfl⟩
    have hao:=ahead_ok ((L s).drop (k+1)) ps 0 none (Nat.zero_le _) (fun i n h=>by cases h) (fun i n h=>by cases h)
    rw [List.drop_zero,hr] at hao
    rw [hr] at hA
    have HR:=hid hr
    have HA:=hid hA
    have HAO:=hid hao
    clear hr hA h92 hao
    go_wp2_with fail
    go_loop [8,9] (fun x i=>∃(j:Nat) (cur:Option (Nat×Nat)) (z:Int),j≤ps.length∧i=.int .i64 j∧x=.int .i64 z∧whichOf cur=z∧CurOk ps cur∧ahead ((L s).drop (k+1)) ((ps.drop j).map L) j cur=r) (fun _ i=>ps.length-(intOf i).toNat)
    case atStart=>exact ⟨0,none,-1,Nat.zero_le _,rfl,rfl,rfl,(fun i n h=>by cases h),by rw [List.drop_zero];exact HR.out⟩
    case round =>
     obtain ⟨j,cur,z,hj,rfl,rfl,hz,hok,ha⟩:=hrel
     have HB:=hid ha
     have HZ:=hid hz
     have HOK:=hid hok
     clear ha hok hz
     by_cases hjl:j<ps.length
     ·have kj:decide ((j:Int)<ps.length)=true:=by simp;omega
      obtain ⟨bp,offp,cp,hv,hbl,ck⟩:=HST.out.cell j hjl
      injection hv with hv1 _ hv2
      subst hv1 hv2
      have hB:=HB.out
      rw [ahead_at _ _ _ hjl] at hB
      have hks:=HP1.out j hjl
      have ij0:(0:Int)≤(j:Int):=Int.natCast_nonneg _
      have ij1:(j:Int)<(ps.length:Int):=by omega
      obtain ⟨pj,hpj⟩:∃q,ps[j]=q:=⟨_,rfl⟩
      rw [hpj] at ck hB hks
      have HPJ:=hid hpj
      clear hpj
      have hpi:=pre_iff s pj (k+1)
      rw [show k+1-s.size=0 from by omega,Nat.add_zero] at hpi
      cases hpre:(L pj).isPrefixOf ((L s).drop (k+1)) with
      |false =>
       rw [hpre,Bool.false_and,if_neg (by simp)] at hB
       have HB2:=hid hB
       by_cases hle:k+1+pj.size≤s.size
       ·have kle:decide ((k:Int)+1+pj.size≤s.size)=true:=by simp;omega
        have hne:¬L (s.extract (k+1) (k+1+pj.size))=L pj:=fun e=>by rw [hpi.2 ⟨hle,e⟩] at hpre;cases hpre
        have kb:((s.extract (k+1) (k+1+pj.size)).toList==pj.toList)=false:=nbeq_of_L hne
        clear hB hpre hpi hne
        go_wp2_with fail
        go_round
        case rel=>exact ⟨j+1,cur,z,by omega,by go_num,rfl,HZ.out,HOK.out,HB2.out⟩
        case measure=>simp [intOf];omega
       ·have kle:decide ((k:Int)+1+pj.size≤s.size)=false:=by simp;omega
        clear hB hpre hpi
        go_wp2_with fail
        go_round
        case rel=>exact ⟨j+1,cur,z,by omega,by go_num,rfl,HZ.out,HOK.out,HB2.out⟩
        case measure=>simp [intOf];omega
      |true =>
       rw [hpre,Bool.true_and] at hB
       obtain ⟨hle,heq⟩:=hpi.1 hpre
       have kle:decide ((k:Int)+1+pj.size≤s.size)=true:=by simp;omega
       have kb:((s.extract (k+1) (k+1+pj.size)).toList==pj.toList)=true:=beq_of_L heq
       clear hpre hpi heq
       cases cur with
       |none =>
        obtain rfl:-1=z:=HZ.out
        have HB2:=hid (show ahead ((L s).drop (k+1)) ((ps.drop (j+1)).map L) (j+1) (some (j,(L pj).length))=r from hB)
        clear hB
        go_wp2_with fail
        go_round
        case rel=>exact ⟨j+1,some (j,(L pj).length),(j:Nat),by omega,by go_num,rfl,rfl,(fun i n h=>by injection h with h;obtain ⟨rfl,rfl⟩:=pair_eq h;exact ⟨hjl,by rw [HPJ.out];exact L_length _⟩),HB2.out⟩
        case measure=>simp [intOf];omega
       |some q =>
        obtain ⟨i,n⟩:=q
        obtain rfl:((i:Nat):Int)=z:=HZ.out
        obtain ⟨hi,hn'⟩:=HOK.out i n rfl
        subst hn'
        obtain ⟨_,_,_,hvi,_,ci⟩:=HST.out.cell i hi
        injection hvi with hvi1 _ hvi2
        injection hvi1 with hvi1
        injection hvi1 with hvi3 hvi4
        subst hvi3 hvi4
        clear hvi2
        have his:=HP1.out i hi
        have kw:decide (((i:Nat):Int)<0)=false:=by simp
        have ii0:(0:Int)≤(i:Int):=Int.natCast_nonneg _
        have ii1:(i:Int)<(ps.length:Int):=by omega
        have hB':ahead ((L s).drop (k+1)) ((ps.drop (j+1)).map L) (j+1) (if decide (ps[i].size<(L pj).length) then some (j,(L pj).length) else some (i,ps[i].size))=r:=hB
        rw [L_length] at hB'
        clear hB
        by_cases hgt:ps[i].size<pj.size
        ·rw [decide_eq_true hgt,if_pos rfl] at hB'
         have HB2:=hid hB'
         have kg:decide (ps[i].size<pj.size)=true:=by simpa using hgt
         clear hB'
         go_wp2_with fail
         go_round
         case rel=>exact ⟨j+1,some (j,pj.size),(j:Nat),by omega,by go_num,rfl,rfl,(fun i n h=>by injection h with h;obtain ⟨rfl,rfl⟩:=pair_eq h;exact ⟨hjl,by rw [HPJ.out]⟩),HB2.out⟩
         case measure=>simp [intOf];omega
        ·rw [decide_eq_false hgt,if_neg (by simp)] at hB'
         have HB2:=hid hB'
         have kg:decide (ps[i].size<pj.size)=false:=by simpa using hgt
         clear hB'
         go_wp2_with fail
         go_round
         case rel=>exact ⟨j+1,some (i,ps[i].size),(i:Nat),by omega,by go_num,rfl,rfl,HOK.out,HB2.out⟩
         case measure=>simp [intOf];omega
     ·have kj:decide ((j:Int)<ps.length)=false:=by simp;omega
      have hrc:r=cur:=by rw [←HB.out,show ps.drop j=[] from List.drop_eq_nil_of_le (by omega)];rfl
      subst hrc
      cases r with
      |none =>
       obtain rfl:-1=z:=HZ.out
       have hfp:filledP (ps.map L) (os.map L) (L s)=(4,[]):=by
        unfold filledP
        rw [show fillP (ps.map L) (os.map L) (L s).length (L s)=none from HF.out.trans HA.out]
       have HFP:=hid hfp
       clear hfp
       go_wp2_with fail
       go_ret2
       unfold FilledPost
       rw [HFP.out]
       exact ⟨_,rfl,rfl,rfl⟩
      |some q =>
       obtain ⟨i,n⟩:=q
       obtain rfl:((i:Nat):Int)=z:=HZ.out
       obtain ⟨hi,hn'⟩:=HOK.out i n rfl
       subst hn'
       have hnl:=HAO.out.2 i _ rfl
       rw [List.length_drop,L_length] at hnl
       obtain ⟨bp,offp,cp,hvi,_,ci⟩:=HST.out.cell i hi
       injection hvi with hvi1 _ hvi2
       subst hvi1 hvi2
       have hio:i<os.length:=by rw [HLO.out];exact hi
       obtain ⟨bo,offo,co,hvo,_,cio⟩:=HSO.out.cell i hio
       injection hvo with hvo1 _ hvo2
       subst hvo1 hvo2
       have his:=HP1.out i hi
       have hos:=HP2.out i hio
       have kw:decide (((i:Nat):Int)<0)=false:=by simp
       have ii0:(0:Int)≤(i:Int):=Int.natCast_nonneg _
       have ii1:(i:Int)<(ps.length:Int):=by omega
       have ii2:(i:Int)<(os.length:Int):=by omega
       have HE:=hid (show F=(fillF (ps.map L) (os.map L) ((L s).drop (k+ps[i].size+1))).map (L (oB++os[i])++·) by
        have h9:=HA.out
        simp only at h9
        rw [h9,List.drop_drop,Option.map_map,show k+1+ps[i].size=k+ps[i].size+1 from by omega]
        congr 1
        funext x
        simp only [Function.comp,L_append,List.append_assoc]
        rw [show (os.map L).getD i []=L os[i] from by rw [List.getD_eq_getElem?_getD,List.getElem?_map,List.getElem?_eq_getElem hio];rfl])
       go_wp2_with fail
       go_round
       case rel =>
        refine ⟨k+ps[i].size+1,_,by omega,by go_num,rfl,?_,HE.out⟩
        rw [ByteArray.size_append]
        omega
       case measure=>simp [intOf];omega
   ·rw [fillF_step _ _ _ _ h92] at hA
    have k92:((s[k].toNat:Int) != 92)=true:=by rw [bne_iff_ne];exact h92
    have HE:=hid (show F=(fillF (ps.map L) (os.map L) ((L s).drop (k+1))).map (L (oB++s.extract k (k+1))++·) by
     rw [hA,Option.map_map]
     congr 1
     funext x
     simp only [Function.comp,L_append,L_extract]
     rw [take_snoc s k hlt,List.drop_append_of_le_length (by rw [List.length_take,L_length];omega),List.drop_eq_nil_of_le (by rw [List.length_take,L_length];omega)]
     simp)
    clear hA h92
    go_wp2_with fail
    go_round
    case rel =>
     refine ⟨k+1,_,by omega,by go_num,rfl,?_,HE.out⟩
     have h9:(s.extract k (k+1)).size≤1:=by simp;omega
     rw [ByteArray.size_append]
     omega
    case measure=>simp [intOf];omega
  ·have kd:decide ((k:Int)<s.size)=false:=by simp;omega
   have HF2:=hid (show F=some (L oB) by
    rw [HA.out,L_end s k (by omega)]
    simp [fillF,fillP])
   have hfp:filledP (ps.map L) (os.map L) (L s)=if 80<(L oB).length then (1,[]) else (0,L oB):=by
    unfold filledP
    rw [show fillP (ps.map L) (os.map L) (L s).length (L s)=some (L oB) from HF.out.trans HF2.out]
   rw [L_length] at hfp
   by_cases h80:80<oB.size
   ·have k8:decide ((80:Int)<oB.size)=true:=by simp;omega
    rw [if_pos h80] at hfp
    have HFP:=hid hfp
    clear hfp
    go_wp2_with fail
    go_ret2
    unfold FilledPost
    rw [HFP.out]
    exact ⟨_,rfl,rfl,rfl⟩
   ·have k8:decide ((80:Int)<oB.size)=false:=by simp;omega
    rw [if_neg h80] at hfp
    have HFP:=hid hfp
    clear hfp
    go_wp2_with fail
    go_ret2
    unfold FilledPost
    rw [HFP.out]
    exact ⟨_,rfl,rfl,rfl⟩
end
section
attribute [local go_sem ↓] Go.wp_at_zero Go.wp_at_succ
def CalPost (B be bt wi k:Nat) (r:Int×StP) (w:World) (e:Ending) (w':World):Prop:=
 e=.returned (.int .i64 r.1)∧Fr B [] w w'∧NumAt w' be bt wi k∧(r.1=0→ExpSt w' B be bt wi k r.2∧StOk r.2 k)
def CallOk (n:Nat):Prop:=∀(w:World) (B be bt wi k:Nat) (vm vn vl:Value) (ms:List MacV) (ns:List (ByteArray×Int)) (outs:List (ByteArray×Nat)) (calls i g cap:Nat) (lb op:ByteArray) (va:Option Addr) (vc:Nat) (os:List ByteArray) (W:WordsP) (C:Nat) (hi:i<ms.length),
 wi+n=8→ExpAt w B be bt wi k vm vn vl ms ns outs calls→StOk (stOf ms ns outs calls) k→vm=.slice (some ⟨g,0,none⟩) ms.length cap→PartsV w C lb op (.slice va os.length vc) os W→WOk W→MaxAt w→0<B→B≤w.heap.size→B≤bt →
 Calls Tryz.prog 109 #[.pointer (some ⟨be,0,none⟩),.pointer (some ⟨g,i*3,none⟩),.agg #[.string lb,.string op,.slice va os.length vc]] w (CalPost B be bt wi k (callN n (plainM ms[i]) W k (stOf ms ns outs calls)) w)
def otherP (call:MacP→WordsP→Nat→StP→Int×StP) (wi k:Nat) (W:WordsP) (st:StP) (ls:List (List UInt8)):Int×Nat×StP:=
 if W.op=opMacro then macR wi k W st ls
 else if W.op=opEnd then (2,k,st)
 else if W.op=opSet then ((setP W k st).1,k,(setP W k st).2)
 else match findM st.macros W.op with
  |some m=>((call m W k st).1,k,(call m W k st).2)
  |none=>((leaveP W k st).1,k,(leaveP W k st).2)
def OthPost (B be bt wi:Nat) (v lv:Value) (ls:List ByteArray) (rest:List Value) (opens:List OpenP) (r:Int×Nat×StP) (w:World) (e:Ending) (w':World):Prop:=
 e=.returned (.int .i64 r.1)∧Fr B (frM wi bt) w w'∧NumAt w' be bt wi r.2.1∧(r.1=0→ExpSt w' B be bt wi r.2.1 r.2.2∧StOk r.2.2 r.2.1∧(wi=0→ReadAt w' B 74 bt v lv ls r.2.1 rest opens))
theorem ReadAt.frE {w w':World}{B bm:Nat}{v lv:Value}{ls:List ByteArray}{k:Nat}{rest:List Value}{opens:List OpenP}{t:Nat}(h:ReadAt w B t bm v lv ls k rest opens) (ht:eT t=false) (hf:Fr B [] w w'):ReadAt w' B t bm v lv ls k rest opens:=
 h.fr hf ht rfl rfl (by simp) (fun _ _=>by simp)
set_option maxRecDepth 100000 in
set_option maxHeartbeats 800000 in
theorem doOther_any (n:Nat) (hcall:CallOk n) (w:World) (B be bt wi k:Nat) (st:StP) (v lv:Value) (ls:List ByteArray) (rest:List Value) (opens:List OpenP) (lb op:ByteArray) (va:Option Addr) (vc:Nat) (os:List ByteArray) (W:WordsP) (C:Nat) (hwn:wi+n=8)
  (h:ExpSt w B be bt wi k st) (hra:wi=0→ReadAt w B 74 bt v lv ls k rest opens) (hp:PartsV w C lb op (.slice va os.length vc) os W) (hW:WOk W) (hls:∀i (hi:i<ls.length),ls[i].size≤100) (hok:StOk st k) (hm:MaxAt w) (hgB:0<B) (hB:B≤w.heap.size) (hbt:B≤bt) :
  Calls Tryz.prog 71 #[.pointer (some ⟨be,0,none⟩),.agg #[.string lb,.string op,.slice va os.length vc]] w (OthPost B be bt wi v lv ls rest opens (otherP (callN n) wi k W st (ls.map L)) w):=by
 obtain ⟨q1,q2,q3⟩:=hW.parts hp
 have hb0:Below w.heap.size w (w.alloc (.cells #[.string lb,.string op,.slice va os.length vc] 101)):=(Below.refl _ _).alloc (Nat.le_refl _) _
 have HS:=hid (h.below hb0)
 have HP:=hid (hp.below hb0)
 have HF0:=hid (show Fr B [] w (w.alloc (.cells #[.string lb,.string op,.slice va os.length vc] 101)) from Fr.of_below hb0)
 have HF:=hid (show Fr B (frM wi bt) w (w.alloc (.cells #[.string lb,.string op,.slice va os.length vc] 101)) from Fr.of_below hb0)
 have HBX:=hid (RowT.new w 101 [.string lb,.string op,.slice va os.length vc])
 have HM:=hid (hm.below hb0)
 have HRA:=hid (fun h0=>(hra h0).below hb0)
 have HQ2:=hid q2
 have HLS:=hid hls
 have HWK:=hid hW
 have hb5:=hW.bd.2.2.2.2
 have hB0:B≤(w.alloc (.cells #[.string lb,.string op,.slice va os.length vc] 101)).heap.size:=Nat.le_trans hB hb0.size
 have HOK:=hid hok
 obtain ⟨r,hr⟩:∃r,otherP (callN n) wi k W st (ls.map L)=r:=⟨_,rfl⟩
 rw [hr]
 unfold otherP at hr
 have HOP:=hid hp.op
 clear h hp hb0 hm hra hls hok hW q2
 have y0:=HBX.out.cell 0 (by simp)
 have y1:=HBX.out.cell 1 (by simp)
 have y2:=HBX.out.cell 2 (by simp)
 by_cases h1:W.op=opMacro
 ·rw [if_pos h1] at hr
  have k1:(op.toList==[46,109,97,99,114,111])=true:=op_is (by rw [HOP.out,h1];rfl)
  have HR:=hid hr
  clear hr h1
  go_enter Tryz.func71,Tryz.ntmps71
  go_wp2_with fail
  refine (doMacro_any _ B be bt wi k st v lv ls rest opens lb op va vc os W C HS.out HRA.out HP.out (by omega) (fun i hi=>by have:=HQ2.out i hi;omega) HLS.out HOK.out (by omega) HM.out hgB hB0 hbt).mono ?_
  rw [HR.out]
  rintro e w1 ⟨rfl,hf1,hn1,hs1⟩
  go_wp2
  go_ret
  refine ⟨rfl,HF.out.trans hf1,hn1,fun h0=>⟨(hs1 h0).1,?_,fun _=>(hs1 h0).2⟩⟩
  rw [←HR.out] at h0 ⊢
  by_cases hw0:0<wi
  ·unfold macR at h0
   rw [if_pos hw0] at h0
   cases h0
  ·have hr0:=HRA.out (by omega)
   refine macR_ok HWK.out HOK.out (by rw [List.length_map];exact hr0.le) (by rw [List.length_map];exact hr0.few) (fun l hl=>?_) h0
   obtain ⟨x,hx,rfl⟩:=List.mem_map.1 hl
   obtain ⟨i,hi,rfl⟩:=List.getElem_of_mem hx
   rw [L_length]
   exact HLS.out i hi
 ·rw [if_neg h1] at hr
  have k1:(op.toList==[46,109,97,99,114,111])=false:=op_not (by rw [HOP.out];exact h1)
  clear h1
  by_cases h2:W.op=opEnd
  ·rw [if_pos h2] at hr
   subst hr
   have k2:(op.toList==[46,101,110,100])=true:=op_is (by rw [HOP.out,h2];rfl)
   clear h2
   go_enter Tryz.func71,Tryz.ntmps71
   go_wp2
   go_ret
   exact ⟨rfl,HF.out,HS.out.num,fun h=>by cases h⟩
  ·rw [if_neg h2] at hr
   have k2:(op.toList==[46,101,110,100])=false:=op_not (by rw [HOP.out];exact h2)
   clear h2
   by_cases h3:W.op=opSet
   ·rw [if_pos h3] at hr
    have k3:(op.toList==[46,115,101,116])=true:=op_is (by rw [HOP.out,h3];rfl)
    have HR:=hid hr
    clear hr h3
    go_enter Tryz.func71,Tryz.ntmps71
    go_wp2_with fail
    refine (doSet_any _ B be bt wi k st lb op va vc os W C HS.out HP.out hb5 (by omega) (fun i hi=>by have:=HQ2.out i hi;omega) HOK.out hB0).mono ?_
    rintro e w1 ⟨rfl,hf1,hs1,hn1⟩
    go_wp2
    go_ret
    rw [←HR.out]
    exact ⟨rfl,(HF0.out.trans hf1).mono (fun _ h=>by cases h),hn1,fun h0=>⟨hs1 h0,setP_ok HOK.out h0,fun hw=>(HRA.out hw).frE rfl hf1⟩⟩
   ·rw [if_neg h3] at hr
    have k3:(op.toList==[46,115,101,116])=false:=op_not (by rw [HOP.out];exact h3)
    have HR:=hid hr
    clear hr h3
    obtain ⟨vm,vn,vl,ms,ns,outs,calls,hx,hst⟩:=HS.out
    subst hst
    have hml:ms.length≤3001:=by
     have h1:=HOK.out.few
     have h2:=HOK.out.taken
     simp only [stOf,List.length_map] at h1
     omega
    have HX:=hid hx
    clear hx
    go_enter Tryz.func71,Tryz.ntmps71
    go_wp2_with fail
    refine (find_any' _ B be bt wi k vm vn vl ms ns outs calls HX.out hml op).mono ?_
    rintro e w1 ⟨hw1,hcase⟩
    subst hw1
    rcases hcase with ⟨hf,rfl⟩|⟨i,g,cap,hi,hf,hvm,rfl⟩
    ·have HR2:=hid (show ((leaveP W k (stOf ms ns outs calls)).1,k,(leaveP W k (stOf ms ns outs calls)).2)=r by
      rw [←HR.out]
      have hf':findM (stOf ms ns outs calls).macros W.op=none:=by rw [←HOP.out];exact hf
      rw [hf'])
     clear hf
     go_wp2_with fail
     refine (leave_any _ B be bt wi k (stOf ms ns outs calls) lb op va vc os W C HS.out HP.out hb5 (by omega) HOK.out.out hB0).mono ?_
     rintro e w2 ⟨rfl,hf1,hs1,hn1⟩
     go_wp2
     go_ret
     rw [←HR2.out]
     exact ⟨rfl,(HF0.out.trans hf1).mono (fun _ h=>by cases h),hn1,fun h0=>⟨hs1 h0,leaveP_ok HOK.out h0,fun hw=>(HRA.out hw).frE rfl hf1⟩⟩
    ·have HR2:=hid (show ((callN n (plainM ms[i]) W k (stOf ms ns outs calls)).1,k,(callN n (plainM ms[i]) W k (stOf ms ns outs calls)).2)=r by
      rw [←HR.out]
      have hf':findM (stOf ms ns outs calls).macros W.op=some (plainM ms[i]):=by rw [←HOP.out];exact hf
      rw [hf'])
     clear hf
     go_wp2_with fail
     refine (hcall _ B be bt wi k vm vn vl ms ns outs calls i g cap lb op va vc os W C hi hwn HX.out HOK.out hvm HP.out HWK.out HM.out hgB hB0 hbt).mono ?_
     rintro e w2 ⟨rfl,hf1,hn1,hs1⟩
     go_wp2
     go_ret
     rw [←HR2.out]
     exact ⟨rfl,(HF0.out.trans hf1).mono (fun _ h=>by cases h),hn1,fun h0=>⟨(hs1 h0).1,(hs1 h0).2,fun hw=>(HRA.out hw).frE rfl hf1⟩⟩
end
section
attribute [local go_sem ↓] Go.wp_at_zero Go.wp_at_succ
def noSemi (l:List UInt8):Prop:=∀c∈l,¬(c.toNat:Int)=59
def GoesM (n:Nat):Prop:=∀(w:World) (B x r at_ k:Nat) (ov:Value) (m:MacQ) (os:List ByteArray) (st:StP) (C:Nat),RowT w 130 x [m.bv,.int .i64 (at_:Nat),.pointer (some ⟨m.g,0,none⟩),ov,.int .i64 ((8-n:Nat):Int),.slice none 0 0,.pointer none]→B≤x→MacRow w m→MacOk (plainQ m) →
 StrV w C ov os→os.length=m.ps.length→(∀o∈os,o.size≤100∧noSemi (L o))→RdSt w B r st→StOk st k→B≤w.heap.size →
 Calls Tryz.prog 62 #[.pointer (some ⟨x,0,none⟩),.pointer (some ⟨r,0,none⟩)] w (RdPost B r [x] at_ ((blockP (callN n) (some (m.ps.map L,os.map L)) 0 (m.bs.map L) at_ [] none st).1,(blockP (callN n) (some (m.ps.map L,os.map L)) 0 (m.bs.map L) at_ [] none st).2.2) w)
def CallsOk (n:Nat):Prop:=∀(w:World) (B b r at_ k:Nat) (lv fv mv pv vo xd:Value) (m:MacQ) (st:StP) (lb op:ByteArray) (va:Option Addr) (vc:Nat) (os:List ByteArray) (W:WordsP) (C:Nat),RowT w 130 b [lv,fv,mv,pv,.int .i64 ((8-n:Nat):Int),vo,xd]→RdSt w B r st→MacRow w m→MacOk (plainQ m) →
 PartsV w C lb op (.slice va os.length vc) os W→WOk W→(∀o∈W.operands,noSemi o)→StOk st k→B≤w.heap.size →
 Calls Tryz.prog 133 #[.pointer (some ⟨b,0,none⟩),.pointer (some ⟨r,0,none⟩),.pointer (some ⟨m.g,0,none⟩),.agg #[.string lb,.string op,.slice va os.length vc],.int .i64 (at_:Nat)] w (RdPost B r [] at_ (callN n (plainQ m) W at_ st) w)
theorem RdAt.counted {w:World}{B r:Nat}{vm vn vl:Value}{ms:List MacQ}{ns:List (ByteArray×Int)}{outs:List (ByteArray×Nat)}{calls:Nat}(h:RdAt w B r vm vn vl ms ns outs calls) (n:Nat) :
  RdAt (w.setCell ⟨r,3,none⟩ (.int .i64 (n:Nat))) B r vm vn vl ms ns outs n∧Fq B [] w (w.setCell ⟨r,3,none⟩ (.int .i64 (n:Nat))):=by
 have hf:Fq B [] w (w.setCell ⟨r,3,none⟩ (.int .i64 (n:Nat))):=(Fq.refl B [] w).setCell (p:=⟨r,3,none⟩) (h.row.mayQ h.at_ (Or.inl rfl)) _
 exact ⟨⟨h.row.set 3 _,ownsRow_setCell_other h.mown (a:=⟨r,3,none⟩) (own_row_ne h.mown h.row (by decide)) _,ownsRow_setCell_other h.nown (a:=⟨r,3,none⟩) (own_row_ne h.nown h.row (by decide)) _,ownsRow_setCell_other h.lown (a:=⟨r,3,none⟩) (own_row_ne h.lown h.row (by decide)) _,fun m hm=>(h.macs m hm).fq hf (by simp),h.at_⟩,hf⟩
set_option maxRecDepth 100000 in
set_option maxHeartbeats 1600000 in
theorem calls_zero:CallsOk 0:=by
 intro w B b r at_ k lv fv mv pv vo xd m st lb op va vc os W C h hx hm hmo hp hw hse hok hB
 obtain ⟨vm,vn,vl,ms,ns,outs,calls,hx,hst⟩:=hx
 have hb0:Below w.heap.size w (w.alloc (.cells #[.string lb,.string op,.slice va os.length vc] 134)):=(Below.refl _ _).alloc (Nat.le_refl _) _
 have HX:=hid (hx.below hb0)
 have HR:=hid (h.below hb0)
 have HF:=hid (show Fq B [] w (w.alloc (.cells #[.string lb,.string op,.slice va os.length vc] 134)) from Fq.of_below hb0)
 clear hx h hm hmo hp hw hse hok hB hb0 hst
 go_enter Tryz.func133,Tryz.ntmps133
 go_upto_region 1 with fail
 generalize w.alloc (.cells #[.string lb,.string op,.slice va os.length vc] 134)=w1 at HX HR HF ⊢
 have c4:w1.cell? ⟨b,4,none⟩=some (.int .i64 8):=HR.out.cell 4 (by simp)
 go_wp2_with (first|(go_at_call 60;refine (bad_any _ r _ _ _ _ _ 2 at_ HX.out.row).mono ?_;rintro e w2 ⟨rfl,rfl⟩))
 first|go_end0|refine bodyPost_ret (results_none rfl _ _ _) rfl ?_
 exact rd_bad HX.out HF.out (by decide)
set_option maxRecDepth 100000 in
set_option maxHeartbeats 3200000 in
theorem calls_succ (n:Nat) (hn:n+1≤8) (hg:GoesM n):CallsOk (n+1):=by
 intro w B b r at_ k lv fv mv pv vo xd m st lb op va vc os W C h hx hm hmo hp hw hse hok hB
 obtain ⟨vm,vn,vl,ms,ns,outs,calls,hx,hst⟩:=hx
 subst hst
 obtain ⟨x,hxr⟩:∃x,callN (n+1) (plainQ m) W at_ (stQ ms ns outs calls)=x:=⟨_,rfl⟩
 rw [hxr]
 obtain ⟨t1,t2,t3⟩:=hp.two
 obtain ⟨b1,b2,b3⟩:=hw.parts hp
 have hcl:calls≤200:=by simpa [stQ] using hok.calls
 have hol:outs.length≤300:=by simpa [stQ] using hok.out
 have hpl:m.ps.length≤100:=by simpa [plainQ] using hmo.1
 have HSE:=hid (show ∀o∈os,o.size≤100∧noSemi (L o) from fun o ho=>by
  obtain ⟨i,hi,rfl⟩:=List.getElem_of_mem ho
  exact ⟨b2 i hi,hse _ (by rw [←hp.ops];exact List.mem_map.2 ⟨_,ho,rfl⟩)⟩)
 have hb0:Below w.heap.size w (w.alloc (.cells #[.string lb,.string op,.slice va os.length vc] 134)):=(Below.refl _ _).alloc (Nat.le_refl _) _
 have HX:=hid (hx.below hb0)
 have HR:=hid (h.below hb0)
 have HM:=hid (hm.below hb0)
 have HP:=hid (hp.below hb0)
 have HMO:=hid hmo
 have HOK:=hid hok
 have HF:=hid (show Fq B [] w (w.alloc (.cells #[.string lb,.string op,.slice va os.length vc] 134)) from Fq.of_below hb0)
 have HBX:=hid (show RowT (w.alloc (.cells #[.string lb,.string op,.slice va os.length vc] 134)) 134 w.heap.size [.string lb,.string op,.slice va os.length vc] from RowT.new w 134 [.string lb,.string op,.slice va os.length vc])
 have HG:=hid hg
 have hxl:w.heap.size≤(w.alloc (.cells #[.string lb,.string op,.slice va os.length vc] 134)).heap.size:=HF.out.size
 clear hx h hm hmo hp hw hse hok hb0 b2 t3 hg
 rw [callN,t2] at hxr
 go_enter Tryz.func133,Tryz.ntmps133
 go_upto_region 1 with fail
 generalize w.alloc (.cells #[.string lb,.string op,.slice va os.length vc] 134)=w1 at HX HR HM HP HF HBX hxl ⊢
 obtain ⟨bx,hbx⟩:∃bx,w.heap.size=bx:=⟨_,rfl⟩
 rw [hbx] at HBX ⊢
 clear hbx
 have y0:=HBX.out.cell 0 (by simp)
 have y2:=HBX.out.cell 2 (by simp)
 have c4:w1.cell? ⟨b,4,none⟩=some (.int .i64 ((8-(n+1):Nat):Int)):=HR.out.cell 4 (by simp)
 obtain ⟨d,hd⟩:∃d,8-(n+1)=d:=⟨_,rfl⟩
 rw [hd] at c4 HR
 have hd8:d<8:=by omega
 have k4:decide ((8:Int)≤d)=false:=by simp;omega
 obtain ⟨pa,pc,hpv⟩:=HM.out.ps.form
 have m1:w1.cell? ⟨m.g,1,none⟩=some (.slice pa m.ps.length pc):=by rw [←hpv];exact HM.out.row.cell 1 (by simp)
 have r3:w1.cell? ⟨r,3,none⟩=some (.int .i64 (calls:Nat)):=HX.out.row.cell 3 (by simp)
 have hpl2:(plainQ m).params.length=m.ps.length:=by simp [plainQ]
 rw [hpl2] at hxr
 have HD:=hid (show 8-n=d+1 by omega)
 clear hpv hpl2 hd
 by_cases hne:os.length=m.ps.length
 ·rw [if_neg (fun c=>c hne)] at hxr
  have kn:((os.length:Int) != (m.ps.length:Int))=false:=by rw [bne_eq_false_iff_eq];omega
  have HNE:=hid hne
  clear hne
  go_upto_region 3 with fail
  go_quiet (fail)
  have hbq:Below w1.heap.size w1 (w1.drewN nq):=below_drewN (Below.refl _ _) _
  have HX:=hid (HX.out.below hbq)
  have HF:=hid (HF.out.trans (Fq.of_below hbq))
  have HM:=hid (HM.out.below hbq)
  have HP:=hid (HP.out.below hbq)
  have HBX:=hid (HBX.out.below hbq)
  have HR:=hid (HR.out.below hbq)
  clear hbq y0 y2 c4 m1 r3 hxl
  generalize w1.drewN nq=wq at HX HF HM HP HBX HR ⊢
  have r3:wq.cell? ⟨r,3,none⟩=some (.int .i64 (calls:Nat)):=HX.out.row.cell 3 (by simp)
  have f3:=HX.out.row.free 3
  have hltr:=HX.out.row.lt
  by_cases h200:200≤calls
  ·rw [if_pos (show 200≤(stQ ms ns outs calls).calls from h200)] at hxr
   have k2:decide ((200:Int)≤calls)=true:=by simp;omega
   have HXR:=hid hxr
   clear hxr
   go_wp2_with (first|(go_at_call 60;refine (bad_any _ r _ _ _ _ _ 8 at_ HX.out.row).mono ?_;rintro e w2 ⟨rfl,rfl⟩))
   first|go_end0|refine bodyPost_ret (results_none rfl _ _ _) rfl ?_
   rw [←HXR.out]
   exact rd_bad HX.out HF.out (by decide)
  ·rw [if_neg (show ¬200≤(stQ ms ns outs calls).calls from h200)] at hxr
   have k2:decide ((200:Int)≤calls)=false:=by simp;omega
   have HOKC:=hid (show StOk (stQ ms ns outs (calls+1)) k from ⟨HOK.out.macs,HOK.out.names,HOK.out.out,by show calls+1≤200;omega,HOK.out.few,HOK.out.taken⟩)
   have hlp:∀Z,(leaveP Z at_ (stQ ms ns outs calls)).1=(leaveP Z at_ (stQ ms ns outs (calls+1))).1∧{ (leaveP Z at_ (stQ ms ns outs calls)).2 with calls:=(stQ ms ns outs calls).calls+1 }=(leaveP Z at_ (stQ ms ns outs (calls+1))).2:=by
    intro Z
    unfold leaveP
    by_cases h1:textP Z=[]
    ·rw [if_pos h1,if_pos h1];exact ⟨rfl,rfl⟩
    ·rw [if_neg h1,if_neg h1]
     by_cases h2:300≤(stQ ms ns outs calls).out.length
     ·rw [if_pos h2,if_pos (show 300≤(stQ ms ns outs (calls+1)).out.length from h2)];exact ⟨rfl,rfl⟩
     ·rw [if_neg h2,if_neg (show ¬300≤(stQ ms ns outs (calls+1)).out.length from h2)];exact ⟨rfl,rfl⟩
   rw [(hlp _).1,(hlp _).2] at hxr
   have HXR:=hid hxr
   clear hxr hlp h200
   have hcn:=HX.out.counted (calls+1)
   have HX:=hid hcn.1
   have HF:=hid (HF.out.trans hcn.2)
   have HM:=hid (HM.out.fq hcn.2 (by simp))
   have HP:=hid (show PartsV _ C lb op _ os W from ⟨HP.out.label,HP.out.op,HP.out.ops,HP.out.at_.fq hcn.2⟩)
   have HBX:=hid (HBX.out.frQ hcn.2 rfl (fun h=>by cases h))
   have HR:=hid (HR.out.frQ hcn.2 rfl (fun _=>by simp))
   clear hcn
   go_upto_region 8 with fail
   rw [show ((calls:Int)+1)=((calls+1:Nat):Int) from by omega]
   generalize wq.setCell ⟨r,3,none⟩ (.int .i64 ((calls+1:Nat):Int))=wl at HX HF HM HP HBX HR ⊢
   clear r3 f3 hltr
   have y0:=HBX.out.cell 0 (by simp)
   by_cases hlb:lb.size=0
   ·have kl:=is_empty lb hlb
    have hxr:=HXR.out
    rw [t1.2 hlb] at hxr
    have h00:leaveP ⟨[],[],[]⟩ at_ (stQ ms ns outs (calls+1))=(0,stQ ms ns outs (calls+1)):=by unfold leaveP;rw [if_pos (by rfl)]
    rw [h00,if_neg (by simp)] at hxr
    have HXR:=hid hxr
    have HOK2:=hid HOKC.out
    clear hxr h00 hlb
    have HM:=hid (show MacRow wl m from HM.out)
    have y2:=HBX.out.cell 2 (by simp)
    have c4:wl.cell? ⟨b,4,none⟩=some (.int .i64 (d:Nat)):=HR.out.cell 4 (by simp)
    obtain ⟨ba,bc,hbv⟩:=HM.out.bs.form
    have m2:wl.cell? ⟨m.g,2,none⟩=some (.slice ba m.bs.length bc):=by rw [←hbv];exact HM.out.row.cell 2 (by simp)
    have e4:wl.cell? ⟨r,4,none⟩=some (.int .i64 0):=HX.out.row.cell 4 (by simp)
    have a1:∀o,(wl.alloc o).cell? ⟨bx,2,none⟩=some (.slice va os.length vc):=fun o=>(HBX.out.alloc o).cell 2 (by simp)
    have a2:∀o,(wl.alloc o).cell? ⟨b,4,none⟩=some (.int .i64 (d:Nat)):=fun o=>(HR.out.alloc o).cell 4 (by simp)
    have a3:∀o,(wl.alloc o).cell? ⟨m.g,2,none⟩=some (.slice ba m.bs.length bc):=fun o=>by rw [←hbv];exact (HM.out.row.alloc o).cell 2 (by simp)
    go_upto_region 11 with fail
    go_region
    have hb5:Below wl.heap.size wl (wl.alloc (.cells #[.slice ba m.bs.length bc,.int .i64 (at_:Nat),.pointer (some ⟨m.g,0,none⟩),.slice va os.length vc,.int .i64 ((d:Int)+1),.slice none 0 0,.pointer none] 130)).drew:=((Below.refl _ _).alloc (Nat.le_refl _) _).drew
    have HX5:=hid (HX.out.below hb5)
    have HF5:=hid (HF.out.trans (Fq.of_below hb5))
    have HM5:=hid (HM.out.below hb5)
    have HP5:=hid (HP.out.below hb5)
    have HR5:=hid (show RowT (wl.alloc (.cells #[.slice ba m.bs.length bc,.int .i64 (at_:Nat),.pointer (some ⟨m.g,0,none⟩),.slice va os.length vc,.int .i64 ((d:Int)+1),.slice none 0 0,.pointer none] 130)).drew 130 wl.heap.size [m.bv,.int .i64 (at_:Nat),.pointer (some ⟨m.g,0,none⟩),.slice va os.length vc,.int .i64 ((8-n:Nat):Int),.slice none 0 0,.pointer none] from by
     rw [HD.out,hbv]
     exact RowT.new wl 130 [.slice ba m.bs.length bc,.int .i64 (at_:Nat),.pointer (some ⟨m.g,0,none⟩),.slice va os.length vc,.int .i64 ((d:Int)+1),.slice none 0 0,.pointer none])
    generalize (wl.alloc (.cells #[.slice ba m.bs.length bc,.int .i64 (at_:Nat),.pointer (some ⟨m.g,0,none⟩),.slice va os.length vc,.int .i64 ((d:Int)+1),.slice none 0 0,.pointer none] 130)).drew=w5 at HX5 HF5 HM5 HP5 HR5 ⊢
    have HBV:=hid hbv
    clear hbv
    have hxg:w.heap.size≤wl.heap.size:=HF.out.size
    clear hb5 y2 c4 m2 e4 a1 a2 a3 HX HF HM HP HR HBX
    generalize wl.heap.size=gx at HR5 hxg ⊢
    go_wp2_with fail
    refine (HG.out w5 B gx r at_ k (.slice va os.length vc) m os _ C HR5.out (Nat.le_trans hB hxg) HM5.out HMO.out HP5.out.at_ HNE.out HSE.out ⟨_,_,_,_,_,_,_,HX5.out,rfl⟩ HOK2.out (Nat.le_trans hB HF5.out.size)).mono ?_
    rintro e w6 ⟨rfl,hf6,hst6,her6⟩
    go_wp2_with fail
    first|go_end0|refine bodyPost_ret (results_none rfl _ _ _) rfl ?_
    rw [←HXR.out,←HP5.out.ops]
    exact ⟨rfl,HF5.out.trans' hf6 (fun i hi=>by rw [List.mem_singleton.1 hi];exact Or.inr hxg),hst6,her6⟩
   ·have kl:=not_empty lb (by omega)
    have hnl:¬W.label=[]:=fun c=>hlb (t1.1 c)
    obtain ⟨Z,hZ⟩:∃Z:WordsP,(⟨W.label,[],[]⟩:WordsP)=Z:=⟨_,rfl⟩
    have hne:textP Z≠[]:=by
     rw [←hZ]
     simp [textP,hnl,joined]
    have hpz:PartsV wl C lb ⟨#[]⟩ (.slice none 0 0) [] Z:=by
     rw [←hZ]
     exact ⟨HP.out.label,rfl,rfl,Or.inl ⟨rfl,rfl⟩⟩
    rw [hZ] at HXR
    have hlv:=left_any wl B r at_ vm vn vl ms ns outs (calls+1) lb ⟨#[]⟩ none 0 [] Z C HX.out hpz (Or.inr ⟨rfl,by omega,by decide⟩) hne hol (Nat.le_trans hB HF.out.size)
    have HLV:=hid hlv
    clear hlv hpz hZ hne hnl hlb
    go_upto_region 10 with (first|(go_at_call 134;refine HLV.out.mono ?_;rintro e w2 ⟨rfl,hf2,hst2,her2⟩))
    have HR:=hid (HR.out.frQ hf2 rfl (fun _=>by simp))
    have HM:=hid (HM.out.fq hf2 (by simp))
    have HP:=hid (show PartsV w2 C lb op _ os W from ⟨HP.out.label,HP.out.op,HP.out.ops,HP.out.at_.fq hf2⟩)
    have HBX:=hid (HBX.out.frQ hf2 rfl (fun h=>by cases h))
    have HF:=hid (HF.out.trans hf2)
    clear hf2 y0
    by_cases h0:(leaveP Z at_ (stQ ms ns outs (calls+1))).1=0
    ·obtain ⟨vl',outs',hx2,hs2⟩:=hst2 h0
     have hxr:=HXR.out
     rw [if_neg (by simp [h0]),hs2] at hxr
     have HXR:=hid hxr
     have HOK2:=hid (show StOk (stQ ms ns outs' (calls+1)) k from hs2 ▸ leaveP_ok HOKC.out h0)
     have HX:=hid hx2
     clear hxr hst2 her2 h0 hx2 hs2 HLV
     have HM:=hid (show MacRow w2 m from HM.out)
     have y2:=HBX.out.cell 2 (by simp)
     have c4:w2.cell? ⟨b,4,none⟩=some (.int .i64 (d:Nat)):=HR.out.cell 4 (by simp)
     obtain ⟨ba,bc,hbv⟩:=HM.out.bs.form
     have m2:w2.cell? ⟨m.g,2,none⟩=some (.slice ba m.bs.length bc):=by rw [←hbv];exact HM.out.row.cell 2 (by simp)
     have e4:w2.cell? ⟨r,4,none⟩=some (.int .i64 0):=HX.out.row.cell 4 (by simp)
     have a1:∀o,(w2.alloc o).cell? ⟨bx,2,none⟩=some (.slice va os.length vc):=fun o=>(HBX.out.alloc o).cell 2 (by simp)
     have a2:∀o,(w2.alloc o).cell? ⟨b,4,none⟩=some (.int .i64 (d:Nat)):=fun o=>(HR.out.alloc o).cell 4 (by simp)
     have a3:∀o,(w2.alloc o).cell? ⟨m.g,2,none⟩=some (.slice ba m.bs.length bc):=fun o=>by rw [←hbv];exact (HM.out.row.alloc o).cell 2 (by simp)
     go_upto_region 11 with fail
     go_region
     have hb5:Below w2.heap.size w2 (w2.alloc (.cells #[.slice ba m.bs.length bc,.int .i64 (at_:Nat),.pointer (some ⟨m.g,0,none⟩),.slice va os.length vc,.int .i64 ((d:Int)+1),.slice none 0 0,.pointer none] 130)).drew:=((Below.refl _ _).alloc (Nat.le_refl _) _).drew
     have HX5:=hid (HX.out.below hb5)
     have HF5:=hid (HF.out.trans (Fq.of_below hb5))
     have HM5:=hid (HM.out.below hb5)
     have HP5:=hid (HP.out.below hb5)
     have HR5:=hid (show RowT (w2.alloc (.cells #[.slice ba m.bs.length bc,.int .i64 (at_:Nat),.pointer (some ⟨m.g,0,none⟩),.slice va os.length vc,.int .i64 ((d:Int)+1),.slice none 0 0,.pointer none] 130)).drew 130 w2.heap.size [m.bv,.int .i64 (at_:Nat),.pointer (some ⟨m.g,0,none⟩),.slice va os.length vc,.int .i64 ((8-n:Nat):Int),.slice none 0 0,.pointer none] from by
      rw [HD.out,hbv]
      exact RowT.new w2 130 [.slice ba m.bs.length bc,.int .i64 (at_:Nat),.pointer (some ⟨m.g,0,none⟩),.slice va os.length vc,.int .i64 ((d:Int)+1),.slice none 0 0,.pointer none])
     generalize (w2.alloc (.cells #[.slice ba m.bs.length bc,.int .i64 (at_:Nat),.pointer (some ⟨m.g,0,none⟩),.slice va os.length vc,.int .i64 ((d:Int)+1),.slice none 0 0,.pointer none] 130)).drew=w5 at HX5 HF5 HM5 HP5 HR5 ⊢
     have HBV:=hid hbv
     clear hbv
     have hxg:w.heap.size≤w2.heap.size:=HF.out.size
     clear hb5 y2 c4 m2 e4 a1 a2 a3 HX HF HM HP HR HBX
     generalize w2.heap.size=gx at HR5 hxg ⊢
     go_wp2_with fail
     refine (HG.out w5 B gx r at_ k (.slice va os.length vc) m os _ C HR5.out (Nat.le_trans hB hxg) HM5.out HMO.out HP5.out.at_ HNE.out HSE.out ⟨_,_,_,_,_,_,_,HX5.out,rfl⟩ HOK2.out (Nat.le_trans hB HF5.out.size)).mono ?_
     rintro e w6 ⟨rfl,hf6,hst6,her6⟩
     go_wp2_with fail
     first|go_end0|refine bodyPost_ret (results_none rfl _ _ _) rfl ?_
     rw [←HXR.out,←HP5.out.ops]
     exact ⟨rfl,HF5.out.trans' hf6 (fun i hi=>by rw [List.mem_singleton.1 hi];exact Or.inr hxg),hst6,her6⟩
    ·have hxr:=HXR.out
     rw [if_pos h0] at hxr
     obtain ⟨a,b',c,d',hre⟩:=her2 h0
     have e4:w2.cell? ⟨r,4,none⟩=some (.int .i64 (leaveP Z at_ (stQ ms ns outs (calls+1))).1):=hre.cell 4 (by simp)
     have HXR:=hid hxr
     have HRE:=hid hre
     obtain ⟨ez,hez⟩:∃ez,(leaveP Z at_ (stQ ms ns outs (calls+1))).1=ez:=⟨_,rfl⟩
     rw [hez] at e4 h0 HRE HXR
     have k0:(ez==0)=false:=by rw [beq_eq_false_iff_ne];exact h0
     have H0:=hid h0
     clear hxr hst2 her2 hre HLV hez h0
     go_wp2_with fail
     first|go_end0|refine bodyPost_ret (results_none rfl _ _ _) rfl ?_
     rw [←HXR.out]
     exact ⟨rfl,HF.out,fun c=>absurd c H0.out,fun _=>⟨_,_,_,_,HRE.out⟩⟩
 ·rw [if_pos hne] at hxr
  have kn:((os.length:Int) != (m.ps.length:Int))=true:=by rw [bne_iff_ne];omega
  have HXR:=hid hxr
  clear hxr hne
  go_upto_region 3 with fail
  go_quiet (fail)
  have hbq:Below w1.heap.size w1 (w1.drewN nq):=below_drewN (Below.refl _ _) _
  have HX:=hid (HX.out.below hbq)
  have HF:=hid (HF.out.trans (Fq.of_below hbq))
  clear hbq
  generalize w1.drewN nq=wq at HX HF ⊢
  go_wp2_with (first|(go_at_call 60;refine (bad_any _ r _ _ _ _ _ 4 at_ HX.out.row).mono ?_;rintro e w2 ⟨rfl,rfl⟩))
  first|go_end0|refine bodyPost_ret (results_none rfl _ _ _) rfl ?_
  rw [←HXR.out]
  exact rd_bad HX.out HF.out (by decide)
end
section
attribute [local go_sem ↓] Go.wp_at_zero Go.wp_at_succ
theorem cutL_noSemi (l:List UInt8):noSemi (cutL l):=by
 induction l with
 |nil=>intro c hc;simp [cutL] at hc
 |cons c r ih =>
  simp only [cutL]
  split
  ·intro c hc;simp at hc
  ·rename_i h
   intro d hd
   rcases List.mem_cons.1 hd with rfl|h2
   ·exact h
   ·exact ih d h2
theorem cutL_id {l:List UInt8}(h:noSemi l):cutL l=l:=by
 induction l with
 |nil=>rfl
 |cons c r ih =>
  simp only [cutL]
  rw [if_neg (h c (by simp)),ih (fun d hd=>h d (by simp [hd]))]
theorem splitB_mem (b:Int) (l:List UInt8):∀x∈splitB b l,∀c∈x,c∈l:=by
 induction l with
 |nil=>intro x hx c hc;simp [splitB] at hx;rw [hx] at hc;simp at hc
 |cons d r ih =>
  intro x hx c hc
  simp only [splitB] at hx
  split at hx
  ·rcases List.mem_cons.1 hx with rfl|h
   ·simp at hc
   ·exact List.mem_cons_of_mem _ (ih x h c hc)
  ·split at hx
   ·rename_i q t h
    rcases List.mem_cons.1 hx with rfl|h2
    ·rcases List.mem_cons.1 hc with rfl|h3
     ·simp
     ·exact List.mem_cons_of_mem _ (ih q (by rw [h];simp) c h3)
    ·exact List.mem_cons_of_mem _ (ih x (by rw [h];simp [h2]) c hc)
   ·simp at hx
    rw [hx] at hc
    simp at hc
    rw [hc];simp
theorem operands_mem (l:List UInt8):∀o∈operandsOf l,∀c∈o,c∈l:=by
 intro o ho c hc
 unfold operandsOf at ho
 split at ho
 ·simp at ho
 ·exact (List.mem_filter.1 (splitB_mem 44 _ o ho c hc)).1
theorem words_noSemi {l:List UInt8}(h:noSemi l):∀o∈(wordsP l).operands,noSemi o:=by
 intro o ho c hc
 unfold wordsP at ho
 split at ho
 ·exact h c (List.mem_of_mem_drop (List.mem_of_mem_drop (operands_mem _ o ho c hc)))
 ·exact h c (List.mem_of_mem_drop (operands_mem _ o ho c hc))
theorem wordOf_nilQ {l:List UInt8}(h:wordOf l=[]):restOf l=[]:=by
 unfold wordOf at h
 unfold restOf
 have h1:solid (l.drop (blanks l))=0:=by
  have h2:=congrArg List.length h
  rw [List.length_take,List.length_nil] at h2
  have h3:=solid_le (l.drop (blanks l))
  omega
 rw [h1,Nat.add_zero]
 have key:∀l:List UInt8,solid (l.drop (blanks l))=0→l.drop (blanks l)=[]:=by
  intro l
  induction l with
  |nil=>intro _;rfl
  |cons c r ih =>
   simp only [blanks]
   split
   ·rename_i hc
    simpa using ih
   ·rename_i hc
    intro h
    simp only [List.drop_zero,solid] at h
    rw [if_neg hc] at h
    omega
 exact key l h1
theorem words_noop (l:List UInt8):(wordsP l).op=[]→(wordsP l).operands=[]:=by
 unfold wordsP
 split
 ·intro h
  show operandsOf (restOf (restOf l))=[]
  rw [wordOf_nilQ h]
  rfl
 ·intro h
  show operandsOf (restOf l)=[]
  rw [wordOf_nilQ h]
  rfl
def LinePost (B b r:Nat) (lv fv mv pv dv vo:Value) (opens:List OpenP) (st:StP) (at_:Nat) (x:Int×List OpenP×Option MacP×StP) (w:World) (e:Ending) (w':World):Prop:=
 e=.returned (.tuple #[])∧(x.1≠0→Fq B (bkM b vo) w w'∧RdErr w' r x.1 at_∧BkRow w' b lv fv mv pv dv) ∧
  (x.1=0→x.2.2.1=none→Fq B (bkM b vo) w w'∧(∃vo',BkAt w' B b lv fv mv pv dv vo' (.pointer none) x.2.1∧∀g,vo'.ownBlock=some g→vo.ownBlock=some g∨w.heap.size≤g)∧RdSt w' B r x.2.2.2) ∧
  (x.1=0→∀d,x.2.2.1=some d→x.2.1=opens∧x.2.2.2=st∧∃w1 gd nm qv ps,Below w.heap.size w w1∧d=⟨L nm,ps.map L,[]⟩∧Keeps [b] w1 w'∧RowT w' 130 b [lv,fv,mv,pv,dv,vo,.pointer (some ⟨gd,0,none⟩)]∧w1.heap.size≤gd∧RowT w' 192 gd [.string nm,qv,.slice none 0 0]∧StrV w' 0 qv ps∧StrLt w1.heap.size qv)
theorem line_of_bk {B b r:Nat}{lv fv mv pv dv vo:Value}{opens:List OpenP}{st:StP}{at_:Nat}{y:Int×List OpenP}{w w2 w':World}{e:Ending}(hb:Below w.heap.size w w2) (h:BkPost B b r lv fv mv pv dv vo none at_ y st w2 e w'):LinePost B b r lv fv mv pv dv vo opens st at_ (y.1,y.2,none,st) w e w':=by
 obtain ⟨h1,h2,h3,h4⟩:=h
 refine ⟨h1,fun h0=>⟨(Fq.of_below hb).trans h2,(h4 h0).1,(h4 h0).2⟩,fun h0 _=>?_,fun _ d hd=>by cases hd⟩
 obtain ⟨⟨vo',hk,hg⟩,hr⟩:=h3 h0
 refine ⟨(Fq.of_below hb).trans h2,⟨vo',hk,fun g h=>(hg g h).imp id fun h5=>?_⟩,hr⟩
 have:=hb.size
 omega
theorem line_of_rd {B b r:Nat}{lv fv mv pv dv vo:Value}{opens:List OpenP}{st:StP}{at_:Nat}{y:Int×StP}{w w2 w':World}{e:Ending}(hb:Below w.heap.size w w2) (hk:BkAt w2 B b lv fv mv pv dv vo (.pointer none) opens) (h:RdPost B r [] at_ y w2 e w'):LinePost B b r lv fv mv pv dv vo opens st at_ (y.1,opens,none,y.2) w e w':=by
 obtain ⟨h1,h2,h3,h4⟩:=h
 have hk2:=hk.fq h2 (by simp) (fun _ _=>by simp)
 exact ⟨h1,fun h0=>⟨(Fq.of_below hb).trans h2.wide,h4 h0,hk2.toRow⟩,fun h0 _=>⟨(Fq.of_below hb).trans h2.wide,⟨vo,hk2,fun g h=>Or.inl h⟩,h3 h0⟩,fun _ d hd=>by cases hd⟩
set_option maxRecDepth 100000 in
set_option maxHeartbeats 3200000 in
theorem does_any (n:Nat) (hc:CallsOk n) (w:World) (B b r:Nat) (lv fv pv vo:Value) (mp:Option Addr) (opens:List OpenP) (at_:Nat) (st:StP) (s:ByteArray) (k:Nat)
  (h:BkAt w B b lv fv (.pointer mp) pv (.int .i64 ((8-n:Nat):Int)) vo (.pointer none) opens) (hx:RdSt w B r st) (hs:s.size≤100) (hse:noSemi (L s)) (hok:StOk st k) (hB:B≤w.heap.size) :
  Calls Tryz.prog 92 #[.pointer (some ⟨b,0,none⟩),.pointer (some ⟨r,0,none⟩),.string s,.int .i64 (at_:Nat)] w (LinePost B b r lv fv (.pointer mp) pv (.int .i64 ((8-n:Nat):Int)) vo opens st at_ (lineP (callN n) mp.isSome (wordsP (L s)) at_ opens st) w):=by
 obtain ⟨vm,vn,vl,ms,ns,outs,calls,hx,hst⟩:=hx
 subst hst
 obtain ⟨x,hxr⟩:∃x,lineP (callN n) mp.isSome (wordsP (L s)) at_ opens (stQ ms ns outs calls)=x:=⟨_,rfl⟩
 rw [hxr]
 have hml:ms.length≤3001:=by
  have h1:=hok.few
  have h2:=hok.taken
  simp only [stQ,List.length_map] at h1
  omega
 have hnl:(stQ ms ns outs calls).names.length≤1000:=by have h1:=hok.names;have h2:=hok.out;omega
 have hol:outs.length≤300:=by simpa [stQ] using hok.out
 have hwok:WOk (wordsP (L s)):=⟨L s,by rw [L_length];exact hs,by rw [cutL_id hse]⟩
 have HSE:=hid (words_noSemi hse)
 have HWOK:=hid hwok
 have HOK:=hid hok
 have HX:=hid hx
 have HBK:=hid h
 clear hx h hok hwok
 go_enter Tryz.func92,Tryz.ntmps92
 go_upto_region 1 with (first|(go_at_call 63;refine (words_any s _ (by omega)).mono ?_;rintro e w1 ⟨lb,op,oa,oc,os,rfl,hp,hb1⟩))
 have hb2:Below w1.heap.size w1 (w1.alloc (.cells #[.string lb,.string op,.slice oa os.length oc] 134)):=(Below.refl _ _).alloc (Nat.le_refl _) _
 have HF:=hid (hb1.trans (hb2.mono hb1.size))
 have HX:=hid (HX.out.below HF.out)
 have HBK:=hid (HBK.out.below HF.out)
 have HP:=hid (hp.below hb2)
 have HBX:=hid (show RowT (w1.alloc (.cells #[.string lb,.string op,.slice oa os.length oc] 134)) 134 w1.heap.size [.string lb,.string op,.slice oa os.length oc] from RowT.new w1 134 [.string lb,.string op,.slice oa os.length oc])
 clear hb1 hb2 hp hse
 generalize w1.alloc (.cells #[.string lb,.string op,.slice oa os.length oc] 134)=w2 at HX HBK HP HF HBX ⊢
 generalize w1.heap.size=bx at HBX ⊢
 obtain ⟨W,hW⟩:∃W,wordsP (L s)=W:=⟨_,rfl⟩
 have HNOP:=hid (show (wordsP (L s)).op=[]→(wordsP (L s)).operands=[] from words_noop (L s))
 rw [hW] at HP HSE HWOK hxr HNOP
 clear hW
 obtain ⟨b1,b2,b3⟩:=HWOK.out.parts HP.out
 have HSZ:=hid (show ∀i (hi:i<os.length),os[i].size≤1000 from fun i hi=>Nat.le_trans (b2 i hi) (by omega))
 have HOP:=hid HP.out.op
 obtain ⟨t1,t2,t3⟩:=HP.out.two
 clear b2 t3
 have y0:=HBX.out.cell 0 (by simp)
 have y1:=HBX.out.cell 1 (by simp)
 have y2:=HBX.out.cell 2 (by simp)
 have hB2:B≤w2.heap.size:=Nat.le_trans hB HF.out.size
 have HM:=hid (macro_any w2 B r vm vn vl ms ns outs calls HX.out hml op)
 unfold lineP at hxr
 have HC:=hid hc
 clear hc
 have HNO:=hid (show W.op=[]→W.operands=[] from HNOP.out)
 go_wp2_with fail
 refine HM.out.mono ?_
 rintro e w3 ⟨hw3,hcase⟩
 obtain rfl:=hw3.symm
 rcases hcase with ⟨hf,rfl⟩|⟨m,hm,hf,rfl⟩
 ·clear HM
  by_cases hop:W.op=opIf
  ·rw [if_pos hop] at hxr
   have kopMacro:(op.toList==[46,109,97,99,114,111])=false:=op_not (by rw [HOP.out,hop];decide)
   have kopEnd:(op.toList==[46,101,110,100])=false:=op_not (by rw [HOP.out,hop];decide)
   have kopIf:(op.toList==[46,105,102])=true:=op_is (HOP.out.trans hop)
   have kopElse:(op.toList==[46,101,108,115,101])=false:=op_not (by rw [HOP.out,hop];decide)
   have kopEndif:(op.toList==[46,101,110,100,105,102])=false:=op_not (by rw [HOP.out,hop];decide)
   have kopSet:(op.toList==[46,115,101,116])=false:=op_not (by rw [HOP.out,hop];decide)
   have HXR:=hid hxr
   clear hxr
   go_wp2_with fail
   refine (begins_any w2 B b r lv fv (.pointer mp) pv (.int .i64 ((8-n:Nat):Int)) vo none opens at_ (stQ ms ns outs calls) lb op oa oc os W w.heap.size HBK.out ⟨_,_,_,_,_,_,_,HX.out,rfl⟩ HP.out HSZ.out hnl hB2).mono ?_
   rintro e w4 hpost
   obtain ⟨rfl,_⟩:=id hpost
   have HPO:=hid hpost
   clear hpost
   go_wp2_with fail
   first|go_end0|refine bodyPost_ret (results_none rfl _ _ _) rfl ?_
   rw [←HXR.out]
   exact line_of_bk HF.out HPO.out
  ·have hopIf:=hop
   clear hop
   by_cases hop:W.op=opElse
   ·rw [if_neg (by rw [hop];decide),if_pos hop] at hxr
    have kopMacro:(op.toList==[46,109,97,99,114,111])=false:=op_not (by rw [HOP.out,hop];decide)
    have kopEnd:(op.toList==[46,101,110,100])=false:=op_not (by rw [HOP.out,hop];decide)
    have kopIf:(op.toList==[46,105,102])=false:=op_not (by rw [HOP.out,hop];decide)
    have kopElse:(op.toList==[46,101,108,115,101])=true:=op_is (HOP.out.trans hop)
    have kopEndif:(op.toList==[46,101,110,100,105,102])=false:=op_not (by rw [HOP.out,hop];decide)
    have kopSet:(op.toList==[46,115,101,116])=false:=op_not (by rw [HOP.out,hop];decide)
    have HXR:=hid hxr
    clear hxr
    go_wp2_with fail
    refine (turnsElse_any w2 B b r lv fv (.pointer mp) pv (.int .i64 ((8-n:Nat):Int)) vo none opens at_ (stQ ms ns outs calls) lb op oa oc os W w.heap.size HBK.out ⟨_,_,_,_,_,_,_,HX.out,rfl⟩ HP.out hop).mono ?_
    rintro e w4 hpost
    obtain ⟨rfl,_⟩:=id hpost
    have HPO:=hid hpost
    clear hpost
    go_wp2_with fail
    first|go_end0|refine bodyPost_ret (results_none rfl _ _ _) rfl ?_
    rw [←HXR.out]
    exact line_of_bk HF.out HPO.out
   ·have hopElse:=hop
    clear hop
    by_cases hop:W.op=opEndif
    ·rw [if_neg (by rw [hop];decide),if_neg (by rw [hop];decide),if_pos hop] at hxr
     have kopMacro:(op.toList==[46,109,97,99,114,111])=false:=op_not (by rw [HOP.out,hop];decide)
     have kopEnd:(op.toList==[46,101,110,100])=false:=op_not (by rw [HOP.out,hop];decide)
     have kopIf:(op.toList==[46,105,102])=false:=op_not (by rw [HOP.out,hop];decide)
     have kopElse:(op.toList==[46,101,108,115,101])=false:=op_not (by rw [HOP.out,hop];decide)
     have kopEndif:(op.toList==[46,101,110,100,105,102])=true:=op_is (HOP.out.trans hop)
     have kopSet:(op.toList==[46,115,101,116])=false:=op_not (by rw [HOP.out,hop];decide)
     have HXR:=hid hxr
     clear hxr
     go_wp2_with fail
     refine (turnsEnd_any w2 B b r lv fv (.pointer mp) pv (.int .i64 ((8-n:Nat):Int)) vo none opens at_ (stQ ms ns outs calls) lb op oa oc os W w.heap.size HBK.out ⟨_,_,_,_,_,_,_,HX.out,rfl⟩ HP.out hop).mono ?_
     rintro e w4 hpost
     obtain ⟨rfl,_⟩:=id hpost
     have HPO:=hid hpost
     clear hpost
     go_wp2_with fail
     first|go_end0|refine bodyPost_ret (results_none rfl _ _ _) rfl ?_
     rw [←HXR.out]
     exact line_of_bk HF.out HPO.out
    ·have hopEndif:=hop
     clear hop
     by_cases hop:W.op=opMacro
     ·rw [if_neg (by rw [hop];decide),if_neg (by rw [hop];decide),if_neg (by rw [hop];decide),if_pos hop] at hxr
      have kopMacro:(op.toList==[46,109,97,99,114,111])=true:=op_is (HOP.out.trans hop)
      have kopEnd:(op.toList==[46,101,110,100])=false:=op_not (by rw [HOP.out,hop];decide)
      have kopIf:(op.toList==[46,105,102])=false:=op_not (by rw [HOP.out,hop];decide)
      have kopElse:(op.toList==[46,101,108,115,101])=false:=op_not (by rw [HOP.out,hop];decide)
      have kopEndif:(op.toList==[46,101,110,100,105,102])=false:=op_not (by rw [HOP.out,hop];decide)
      have kopSet:(op.toList==[46,115,101,116])=false:=op_not (by rw [HOP.out,hop];decide)
      have HXR:=hid hxr
      clear hxr
      go_wp2_with fail
      refine (defines_any w2 B b r lv fv pv (.int .i64 ((8-n:Nat):Int)) vo mp none opens at_ (stQ ms ns outs calls) lb op oa oc os W w.heap.size k HBK.out ⟨_,_,_,_,_,_,_,HX.out,rfl⟩ HP.out HWOK.out HOK.out).mono ?_
      rintro e w4 ⟨rfl,hp1,hp2⟩
      have HP1:=hid hp1
      have HP2:=hid hp2
      clear hp1 hp2
      go_wp2_with fail
      first|go_end0|refine bodyPost_ret (results_none rfl _ _ _) rfl ?_
      rw [←HXR.out]
      refine ⟨rfl,fun h0=>⟨(Fq.of_below HF.out).trans (HP1.out h0).1.wide,(HP1.out h0).2.1,(HP1.out h0).2.2⟩,fun h0 hn=>?_,fun h0 d hd=>⟨rfl,rfl,?_⟩⟩
      ·obtain ⟨gd,nm,qv,ps,hs2,_⟩:=HP2.out h0
       rw [hs2] at hn
       cases hn
      ·obtain ⟨gd,nm,qv,ps,hs2,h5,h6,h7,h8,h9,h10⟩:=HP2.out h0
       rw [hs2] at hd
       injection hd with hd
       exact ⟨w2,gd,nm,qv,ps,HF.out,hd.symm,h5,h6,h7,h8,h9,h10⟩
     ·have hopMacro:=hop
      clear hop
      by_cases hop:W.op=opEnd
      ·rw [if_neg (by rw [hop];decide),if_neg (by rw [hop];decide),if_neg (by rw [hop];decide),if_neg (by rw [hop];decide),if_pos hop] at hxr
       have kopMacro:(op.toList==[46,109,97,99,114,111])=false:=op_not (by rw [HOP.out,hop];decide)
       have kopEnd:(op.toList==[46,101,110,100])=true:=op_is (HOP.out.trans hop)
       have kopIf:(op.toList==[46,105,102])=false:=op_not (by rw [HOP.out,hop];decide)
       have kopElse:(op.toList==[46,101,108,115,101])=false:=op_not (by rw [HOP.out,hop];decide)
       have kopEndif:(op.toList==[46,101,110,100,105,102])=false:=op_not (by rw [HOP.out,hop];decide)
       have kopSet:(op.toList==[46,115,101,116])=false:=op_not (by rw [HOP.out,hop];decide)
       have HXR:=hid hxr
       clear hxr
       go_wp2_with (first|(go_at_call 60;refine (bad_rd _ B r (stQ ms ns outs calls) 2 at_ ⟨_,_,_,_,_,_,_,HX.out,rfl⟩ (by decide)).mono ?_;rintro e w4 hpost;obtain ⟨rfl,_⟩:=id hpost;have HPO:=hid hpost;clear hpost))
       first|go_end0|refine bodyPost_ret (results_none rfl _ _ _) rfl ?_
       rw [←HXR.out]
       exact line_of_rd HF.out HBK.out HPO.out
      ·have hopEnd:=hop
       clear hop
       by_cases hop:W.op=opSet
       ·rw [if_neg (by rw [hop];decide),if_neg (by rw [hop];decide),if_neg (by rw [hop];decide),if_neg (by rw [hop];decide),if_neg (by rw [hop];decide),if_pos hop] at hxr
        have kopMacro:(op.toList==[46,109,97,99,114,111])=false:=op_not (by rw [HOP.out,hop];decide)
        have kopEnd:(op.toList==[46,101,110,100])=false:=op_not (by rw [HOP.out,hop];decide)
        have kopIf:(op.toList==[46,105,102])=false:=op_not (by rw [HOP.out,hop];decide)
        have kopElse:(op.toList==[46,101,108,115,101])=false:=op_not (by rw [HOP.out,hop];decide)
        have kopEndif:(op.toList==[46,101,110,100,105,102])=false:=op_not (by rw [HOP.out,hop];decide)
        have kopSet:(op.toList==[46,115,101,116])=true:=op_is (HOP.out.trans hop)
        have HXR:=hid hxr
        clear hxr
        go_wp2_with fail
        refine (sets_any w2 B r at_ (stQ ms ns outs calls) lb op oa oc os W w.heap.size k ⟨_,_,_,_,_,_,_,HX.out,rfl⟩ HP.out HWOK.out HOK.out hB2).mono ?_
        rintro e w4 hpost
        obtain ⟨rfl,_⟩:=id hpost
        have HPO:=hid hpost
        clear hpost
        go_wp2_with fail
        first|go_end0|refine bodyPost_ret (results_none rfl _ _ _) rfl ?_
        rw [←HXR.out]
        exact line_of_rd HF.out HBK.out HPO.out
       ·have hopSet:=hop
        clear hop
        rw [if_neg hopIf,if_neg hopElse,if_neg hopEndif,if_neg hopMacro,if_neg hopEnd,if_neg hopSet] at hxr
        have hf':findM (stQ ms ns outs calls).macros W.op=none:=by rw [←HOP.out];exact hf
        rw [hf'] at hxr
        have kopMacro:(op.toList==[46,109,97,99,114,111])=false:=op_not (fun c=>hopMacro (HOP.out.symm.trans c))
        have kopEnd:(op.toList==[46,101,110,100])=false:=op_not (fun c=>hopEnd (HOP.out.symm.trans c))
        have kopIf:(op.toList==[46,105,102])=false:=op_not (fun c=>hopIf (HOP.out.symm.trans c))
        have kopElse:(op.toList==[46,101,108,115,101])=false:=op_not (fun c=>hopElse (HOP.out.symm.trans c))
        have kopEndif:(op.toList==[46,101,110,100,105,102])=false:=op_not (fun c=>hopEndif (HOP.out.symm.trans c))
        have kopSet:(op.toList==[46,115,101,116])=false:=op_not (fun c=>hopSet (HOP.out.symm.trans c))
        have HXR:=hid (show ((leaveP W at_ (stQ ms ns outs calls)).1,opens,none,(leaveP W at_ (stQ ms ns outs calls)).2)=x from hxr)
        clear hxr hf hf' hopIf hopElse hopEndif hopMacro hopEnd hopSet
        by_cases hnt:lb.size=0∧op.size=0
        ·have kl:=is_empty lb hnt.1
         have ko:=is_empty op hnt.2
         have htx:textP W=[]:=by
          have e1:W.label=[]:=t1.2 hnt.1
          have e2:W.op=[]:=by rw [←HOP.out];exact L_zero hnt.2
          have e3:W.operands=[]:=HNO.out e2
          unfold textP
          rw [e1,e2,e3]
          rfl
         have hlv:leaveP W at_ (stQ ms ns outs calls)=(0,stQ ms ns outs calls):=by unfold leaveP;rw [if_pos htx]
         have HLV:=hid hlv
         clear hnt htx hlv
         go_wp2_with fail
         first|go_end0|refine bodyPost_ret (results_none rfl _ _ _) rfl ?_
         rw [←HXR.out,HLV.out]
         exact ⟨rfl,fun c=>absurd rfl c,fun _ _=>⟨Fq.of_below HF.out,⟨vo,HBK.out,fun g h=>Or.inl h⟩,⟨_,_,_,_,_,_,_,HX.out,rfl⟩⟩,fun _ d hd=>by cases hd⟩
        ·have htx:textP W≠[]:=by
          rw [textP_head]
          intro c
          rw [List.append_eq_nil_iff] at c
          have c1:=c.1
          unfold headP at c1
          by_cases hl0:lb.size=0
          ·have ho0:¬op.size=0:=fun c=>hnt ⟨hl0,c⟩
           have e2:W.op≠[]:=fun e=>ho0 (by rw [size_L,HOP.out,e];rfl)
           rw [t1.2 hl0] at c1
           simp [e2] at c1
          ·have e1:W.label≠[]:=fun e=>hl0 (t1.1 e)
           split at c1
           ·simp [e1] at c1
           ·simp at c1
         have HTX:=hid htx
         have hor:lb.toList.isEmpty=false∨(lb.toList.isEmpty=true∧op.toList.isEmpty=false):=by
          by_cases hl0:lb.size=0
          ·exact Or.inr ⟨is_empty lb hl0,not_empty op (by omega)⟩
          ·exact Or.inl (not_empty lb (by omega))
         clear hnt htx
         rcases hor with kl|⟨kl,ko⟩
         all_goals
          go_wp2_with fail
          refine (left_any w2 B r at_ vm vn vl ms ns outs calls lb op oa oc os W w.heap.size HX.out HP.out (Or.inl HWOK.out) HTX.out hol hB2).mono ?_
          rintro e w4 ⟨rfl,hf4,hst4,her4⟩
          have HPO:=hid (show RdPost B r [] at_ (leaveP W at_ (stQ ms ns outs calls)) w2 (.returned (.tuple #[])) w4 from ⟨rfl,hf4,fun h0=>by obtain ⟨_,_,q1,q2⟩:=hst4 h0;exact ⟨_,_,_,_,_,_,_,q1,q2⟩,her4⟩)
          clear hf4 hst4 her4
          go_wp2_with fail
          first|go_end0|refine bodyPost_ret (results_none rfl _ _ _) rfl ?_
          rw [←HXR.out]
          exact line_of_rd HF.out HBK.out HPO.out
 ·clear HM
  have HMR:=hid (HX.out.macs m hm)
  have HMO:=hid (show MacOk (plainQ m) from HOK.out.macs _ (List.mem_map.2 ⟨m,hm,rfl⟩))
  clear hm
  by_cases hop:W.op=opIf
  ·rw [if_pos hop] at hxr
   have kopMacro:(op.toList==[46,109,97,99,114,111])=false:=op_not (by rw [HOP.out,hop];decide)
   have kopEnd:(op.toList==[46,101,110,100])=false:=op_not (by rw [HOP.out,hop];decide)
   have kopIf:(op.toList==[46,105,102])=true:=op_is (HOP.out.trans hop)
   have kopElse:(op.toList==[46,101,108,115,101])=false:=op_not (by rw [HOP.out,hop];decide)
   have kopEndif:(op.toList==[46,101,110,100,105,102])=false:=op_not (by rw [HOP.out,hop];decide)
   have kopSet:(op.toList==[46,115,101,116])=false:=op_not (by rw [HOP.out,hop];decide)
   have HXR:=hid hxr
   clear hxr
   go_wp2_with fail
   refine (begins_any w2 B b r lv fv (.pointer mp) pv (.int .i64 ((8-n:Nat):Int)) vo none opens at_ (stQ ms ns outs calls) lb op oa oc os W w.heap.size HBK.out ⟨_,_,_,_,_,_,_,HX.out,rfl⟩ HP.out HSZ.out hnl hB2).mono ?_
   rintro e w4 hpost
   obtain ⟨rfl,_⟩:=id hpost
   have HPO:=hid hpost
   clear hpost
   go_wp2_with fail
   first|go_end0|refine bodyPost_ret (results_none rfl _ _ _) rfl ?_
   rw [←HXR.out]
   exact line_of_bk HF.out HPO.out
  ·have hopIf:=hop
   clear hop
   by_cases hop:W.op=opElse
   ·rw [if_neg (by rw [hop];decide),if_pos hop] at hxr
    have kopMacro:(op.toList==[46,109,97,99,114,111])=false:=op_not (by rw [HOP.out,hop];decide)
    have kopEnd:(op.toList==[46,101,110,100])=false:=op_not (by rw [HOP.out,hop];decide)
    have kopIf:(op.toList==[46,105,102])=false:=op_not (by rw [HOP.out,hop];decide)
    have kopElse:(op.toList==[46,101,108,115,101])=true:=op_is (HOP.out.trans hop)
    have kopEndif:(op.toList==[46,101,110,100,105,102])=false:=op_not (by rw [HOP.out,hop];decide)
    have kopSet:(op.toList==[46,115,101,116])=false:=op_not (by rw [HOP.out,hop];decide)
    have HXR:=hid hxr
    clear hxr
    go_wp2_with fail
    refine (turnsElse_any w2 B b r lv fv (.pointer mp) pv (.int .i64 ((8-n:Nat):Int)) vo none opens at_ (stQ ms ns outs calls) lb op oa oc os W w.heap.size HBK.out ⟨_,_,_,_,_,_,_,HX.out,rfl⟩ HP.out hop).mono ?_
    rintro e w4 hpost
    obtain ⟨rfl,_⟩:=id hpost
    have HPO:=hid hpost
    clear hpost
    go_wp2_with fail
    first|go_end0|refine bodyPost_ret (results_none rfl _ _ _) rfl ?_
    rw [←HXR.out]
    exact line_of_bk HF.out HPO.out
   ·have hopElse:=hop
    clear hop
    by_cases hop:W.op=opEndif
    ·rw [if_neg (by rw [hop];decide),if_neg (by rw [hop];decide),if_pos hop] at hxr
     have kopMacro:(op.toList==[46,109,97,99,114,111])=false:=op_not (by rw [HOP.out,hop];decide)
     have kopEnd:(op.toList==[46,101,110,100])=false:=op_not (by rw [HOP.out,hop];decide)
     have kopIf:(op.toList==[46,105,102])=false:=op_not (by rw [HOP.out,hop];decide)
     have kopElse:(op.toList==[46,101,108,115,101])=false:=op_not (by rw [HOP.out,hop];decide)
     have kopEndif:(op.toList==[46,101,110,100,105,102])=true:=op_is (HOP.out.trans hop)
     have kopSet:(op.toList==[46,115,101,116])=false:=op_not (by rw [HOP.out,hop];decide)
     have HXR:=hid hxr
     clear hxr
     go_wp2_with fail
     refine (turnsEnd_any w2 B b r lv fv (.pointer mp) pv (.int .i64 ((8-n:Nat):Int)) vo none opens at_ (stQ ms ns outs calls) lb op oa oc os W w.heap.size HBK.out ⟨_,_,_,_,_,_,_,HX.out,rfl⟩ HP.out hop).mono ?_
     rintro e w4 hpost
     obtain ⟨rfl,_⟩:=id hpost
     have HPO:=hid hpost
     clear hpost
     go_wp2_with fail
     first|go_end0|refine bodyPost_ret (results_none rfl _ _ _) rfl ?_
     rw [←HXR.out]
     exact line_of_bk HF.out HPO.out
    ·have hopEndif:=hop
     clear hop
     by_cases hop:W.op=opMacro
     ·rw [if_neg (by rw [hop];decide),if_neg (by rw [hop];decide),if_neg (by rw [hop];decide),if_pos hop] at hxr
      have kopMacro:(op.toList==[46,109,97,99,114,111])=true:=op_is (HOP.out.trans hop)
      have kopEnd:(op.toList==[46,101,110,100])=false:=op_not (by rw [HOP.out,hop];decide)
      have kopIf:(op.toList==[46,105,102])=false:=op_not (by rw [HOP.out,hop];decide)
      have kopElse:(op.toList==[46,101,108,115,101])=false:=op_not (by rw [HOP.out,hop];decide)
      have kopEndif:(op.toList==[46,101,110,100,105,102])=false:=op_not (by rw [HOP.out,hop];decide)
      have kopSet:(op.toList==[46,115,101,116])=false:=op_not (by rw [HOP.out,hop];decide)
      have HXR:=hid hxr
      clear hxr
      go_wp2_with fail
      refine (defines_any w2 B b r lv fv pv (.int .i64 ((8-n:Nat):Int)) vo mp none opens at_ (stQ ms ns outs calls) lb op oa oc os W w.heap.size k HBK.out ⟨_,_,_,_,_,_,_,HX.out,rfl⟩ HP.out HWOK.out HOK.out).mono ?_
      rintro e w4 ⟨rfl,hp1,hp2⟩
      have HP1:=hid hp1
      have HP2:=hid hp2
      clear hp1 hp2
      go_wp2_with fail
      first|go_end0|refine bodyPost_ret (results_none rfl _ _ _) rfl ?_
      rw [←HXR.out]
      refine ⟨rfl,fun h0=>⟨(Fq.of_below HF.out).trans (HP1.out h0).1.wide,(HP1.out h0).2.1,(HP1.out h0).2.2⟩,fun h0 hn=>?_,fun h0 d hd=>⟨rfl,rfl,?_⟩⟩
      ·obtain ⟨gd,nm,qv,ps,hs2,_⟩:=HP2.out h0
       rw [hs2] at hn
       cases hn
      ·obtain ⟨gd,nm,qv,ps,hs2,h5,h6,h7,h8,h9,h10⟩:=HP2.out h0
       rw [hs2] at hd
       injection hd with hd
       exact ⟨w2,gd,nm,qv,ps,HF.out,hd.symm,h5,h6,h7,h8,h9,h10⟩
     ·have hopMacro:=hop
      clear hop
      by_cases hop:W.op=opEnd
      ·rw [if_neg (by rw [hop];decide),if_neg (by rw [hop];decide),if_neg (by rw [hop];decide),if_neg (by rw [hop];decide),if_pos hop] at hxr
       have kopMacro:(op.toList==[46,109,97,99,114,111])=false:=op_not (by rw [HOP.out,hop];decide)
       have kopEnd:(op.toList==[46,101,110,100])=true:=op_is (HOP.out.trans hop)
       have kopIf:(op.toList==[46,105,102])=false:=op_not (by rw [HOP.out,hop];decide)
       have kopElse:(op.toList==[46,101,108,115,101])=false:=op_not (by rw [HOP.out,hop];decide)
       have kopEndif:(op.toList==[46,101,110,100,105,102])=false:=op_not (by rw [HOP.out,hop];decide)
       have kopSet:(op.toList==[46,115,101,116])=false:=op_not (by rw [HOP.out,hop];decide)
       have HXR:=hid hxr
       clear hxr
       go_wp2_with (first|(go_at_call 60;refine (bad_rd _ B r (stQ ms ns outs calls) 2 at_ ⟨_,_,_,_,_,_,_,HX.out,rfl⟩ (by decide)).mono ?_;rintro e w4 hpost;obtain ⟨rfl,_⟩:=id hpost;have HPO:=hid hpost;clear hpost))
       first|go_end0|refine bodyPost_ret (results_none rfl _ _ _) rfl ?_
       rw [←HXR.out]
       exact line_of_rd HF.out HBK.out HPO.out
      ·have hopEnd:=hop
       clear hop
       by_cases hop:W.op=opSet
       ·rw [if_neg (by rw [hop];decide),if_neg (by rw [hop];decide),if_neg (by rw [hop];decide),if_neg (by rw [hop];decide),if_neg (by rw [hop];decide),if_pos hop] at hxr
        have kopMacro:(op.toList==[46,109,97,99,114,111])=false:=op_not (by rw [HOP.out,hop];decide)
        have kopEnd:(op.toList==[46,101,110,100])=false:=op_not (by rw [HOP.out,hop];decide)
        have kopIf:(op.toList==[46,105,102])=false:=op_not (by rw [HOP.out,hop];decide)
        have kopElse:(op.toList==[46,101,108,115,101])=false:=op_not (by rw [HOP.out,hop];decide)
        have kopEndif:(op.toList==[46,101,110,100,105,102])=false:=op_not (by rw [HOP.out,hop];decide)
        have kopSet:(op.toList==[46,115,101,116])=true:=op_is (HOP.out.trans hop)
        have HXR:=hid hxr
        clear hxr
        go_wp2_with fail
        refine (sets_any w2 B r at_ (stQ ms ns outs calls) lb op oa oc os W w.heap.size k ⟨_,_,_,_,_,_,_,HX.out,rfl⟩ HP.out HWOK.out HOK.out hB2).mono ?_
        rintro e w4 hpost
        obtain ⟨rfl,_⟩:=id hpost
        have HPO:=hid hpost
        clear hpost
        go_wp2_with fail
        first|go_end0|refine bodyPost_ret (results_none rfl _ _ _) rfl ?_
        rw [←HXR.out]
        exact line_of_rd HF.out HBK.out HPO.out
       ·have hopSet:=hop
        clear hop
        rw [if_neg hopIf,if_neg hopElse,if_neg hopEndif,if_neg hopMacro,if_neg hopEnd,if_neg hopSet] at hxr
        have hf':findM (stQ ms ns outs calls).macros W.op=some (plainQ m):=by rw [←HOP.out];exact hf
        rw [hf'] at hxr
        have kopMacro:(op.toList==[46,109,97,99,114,111])=false:=op_not (fun c=>hopMacro (HOP.out.symm.trans c))
        have kopEnd:(op.toList==[46,101,110,100])=false:=op_not (fun c=>hopEnd (HOP.out.symm.trans c))
        have kopIf:(op.toList==[46,105,102])=false:=op_not (fun c=>hopIf (HOP.out.symm.trans c))
        have kopElse:(op.toList==[46,101,108,115,101])=false:=op_not (fun c=>hopElse (HOP.out.symm.trans c))
        have kopEndif:(op.toList==[46,101,110,100,105,102])=false:=op_not (fun c=>hopEndif (HOP.out.symm.trans c))
        have kopSet:(op.toList==[46,115,101,116])=false:=op_not (fun c=>hopSet (HOP.out.symm.trans c))
        have HXR:=hid (show ((callN n (plainQ m) W at_ (stQ ms ns outs calls)).1,opens,none,(callN n (plainQ m) W at_ (stQ ms ns outs calls)).2)=x from hxr)
        clear hxr hf hf' hopIf hopElse hopEndif hopMacro hopEnd hopSet
        go_wp2_with fail
        refine (HC.out w2 B b r at_ k lv fv (.pointer mp) pv vo (.pointer none) m (stQ ms ns outs calls) lb op oa oc os W w.heap.size HBK.out.row ⟨_,_,_,_,_,_,_,HX.out,rfl⟩ HMR.out HMO.out HP.out HWOK.out HSE.out HOK.out hB2).mono ?_
        rintro e w4 hpost
        obtain ⟨rfl,_⟩:=id hpost
        have HPO:=hid hpost
        clear hpost
        go_wp2_with fail
        first|go_end0|refine bodyPost_ret (results_none rfl _ _ _) rfl ?_
        rw [←HXR.out]
        exact line_of_rd HF.out HBK.out HPO.out
end
section
attribute [local go_sem ↓] Go.wp_at_zero Go.wp_at_succ
theorem bk_before {B b r:Nat}{lv fv mv pv dv vo:Value}{p:Option Addr}{st:StP}{at_:Nat}{y:Int×List OpenP}{w w2 w':World}{e:Ending}(hb:Below w.heap.size w w2) (h:BkPost B b r lv fv mv pv dv vo p at_ y st w2 e w'):BkPost B b r lv fv mv pv dv vo p at_ y st w e w':=by
 obtain ⟨h1,h2,h3,h4⟩:=h
 refine ⟨h1,(Fq.of_below hb).trans h2,fun h0=>?_,h4⟩
 obtain ⟨⟨vo',hk,hg⟩,hr⟩:=h3 h0
 refine ⟨⟨vo',hk,fun g h=>(hg g h).imp id fun h5=>?_⟩,hr⟩
 have:=hb.size
 omega
set_option maxRecDepth 100000 in
set_option maxHeartbeats 1600000 in
theorem passes_any (w:World) (B b r:Nat) (lv fv mv pv dv vo:Value) (opens:List OpenP) (at_:Nat) (st:StP) (s:ByteArray) (k:Nat)
  (h:BkAt w B b lv fv mv pv dv vo (.pointer none) opens) (hx:RdSt w B r st) (hs:s.size≤100) (hse:noSemi (L s)) (hok:StOk st k) (hB:B≤w.heap.size) :
  Calls Tryz.prog 91 #[.pointer (some ⟨b,0,none⟩),.pointer (some ⟨r,0,none⟩),.string s,.int .i64 (at_:Nat)] w (BkPost B b r lv fv mv pv dv vo none at_ (passP (wordsP (L s)) opens st) st w):=by
 obtain ⟨vm,vn,vl,ms,ns,outs,calls,hx,hst⟩:=hx
 subst hst
 obtain ⟨x,hxr⟩:∃x,passP (wordsP (L s)) opens (stQ ms ns outs calls)=x:=⟨_,rfl⟩
 rw [hxr]
 have hml:ms.length≤3001:=by
  have h1:=hok.few
  have h2:=hok.taken
  simp only [stQ,List.length_map] at h1
  omega
 have hnl:(stQ ms ns outs calls).names.length≤1000:=by have h1:=hok.names;have h2:=hok.out;omega
 have hol:outs.length≤300:=by simpa [stQ] using hok.out
 have hwok:WOk (wordsP (L s)):=⟨L s,by rw [L_length];exact hs,by rw [cutL_id hse]⟩
 have HSE:=hid (words_noSemi hse)
 have HWOK:=hid hwok
 have HOK:=hid hok
 have HX:=hid hx
 have HBK:=hid h
 clear hx h hok hwok
 go_enter Tryz.func91,Tryz.ntmps91
 go_upto_region 1 with (first|(go_at_call 63;refine (words_any s _ (by omega)).mono ?_;rintro e w1 ⟨lb,op,oa,oc,os,rfl,hp,hb1⟩))
 have hb2:Below w1.heap.size w1 (w1.alloc (.cells #[.string lb,.string op,.slice oa os.length oc] 134)):=(Below.refl _ _).alloc (Nat.le_refl _) _
 have HF:=hid (hb1.trans (hb2.mono hb1.size))
 have HX:=hid (HX.out.below HF.out)
 have HBK:=hid (HBK.out.below HF.out)
 have HP:=hid (hp.below hb2)
 have HBX:=hid (show RowT (w1.alloc (.cells #[.string lb,.string op,.slice oa os.length oc] 134)) 134 w1.heap.size [.string lb,.string op,.slice oa os.length oc] from RowT.new w1 134 [.string lb,.string op,.slice oa os.length oc])
 clear hb1 hb2 hp hse
 generalize w1.alloc (.cells #[.string lb,.string op,.slice oa os.length oc] 134)=w2 at HX HBK HP HF HBX ⊢
 generalize w1.heap.size=bx at HBX ⊢
 obtain ⟨W,hW⟩:∃W,wordsP (L s)=W:=⟨_,rfl⟩
 have HNOP:=hid (show (wordsP (L s)).op=[]→(wordsP (L s)).operands=[] from words_noop (L s))
 rw [hW] at HP HSE HWOK hxr HNOP
 clear hW
 obtain ⟨b1,b2,b3⟩:=HWOK.out.parts HP.out
 have HSZ:=hid (show ∀i (hi:i<os.length),os[i].size≤1000 from fun i hi=>Nat.le_trans (b2 i hi) (by omega))
 have HOP:=hid HP.out.op
 obtain ⟨t1,t2,t3⟩:=HP.out.two
 clear b2 t3
 have y0:=HBX.out.cell 0 (by simp)
 have y1:=HBX.out.cell 1 (by simp)
 have y2:=HBX.out.cell 2 (by simp)
 have hB2:B≤w2.heap.size:=Nat.le_trans hB HF.out.size
 unfold passP at hxr
 by_cases hop:W.op=opIf
 ·rw [if_pos hop] at hxr
  have kopIf:(op.toList==[46,105,102])=true:=op_is (HOP.out.trans hop)
  have kopElse:(op.toList==[46,101,108,115,101])=false:=op_not (by rw [HOP.out,hop];decide)
  have kopEndif:(op.toList==[46,101,110,100,105,102])=false:=op_not (by rw [HOP.out,hop];decide)
  have HXR:=hid hxr
  clear hxr
  go_wp2_with fail
  refine (begins_any w2 B b r lv fv mv pv dv vo none opens at_ (stQ ms ns outs calls) lb op oa oc os W w.heap.size HBK.out ⟨_,_,_,_,_,_,_,HX.out,rfl⟩ HP.out HSZ.out hnl hB2).mono ?_
  rintro e w4 hpost
  obtain ⟨rfl,_⟩:=id hpost
  have HPO:=hid hpost
  clear hpost
  go_wp2_with fail
  first|go_end0|refine bodyPost_ret (results_none rfl _ _ _) rfl ?_
  rw [←HXR.out]
  exact bk_before HF.out HPO.out
 ·have hopIf:=hop
  clear hop
  by_cases hop:W.op=opElse
  ·rw [if_neg (by rw [hop];decide),if_pos hop] at hxr
   have kopIf:(op.toList==[46,105,102])=false:=op_not (by rw [HOP.out,hop];decide)
   have kopElse:(op.toList==[46,101,108,115,101])=true:=op_is (HOP.out.trans hop)
   have kopEndif:(op.toList==[46,101,110,100,105,102])=false:=op_not (by rw [HOP.out,hop];decide)
   have HXR:=hid hxr
   clear hxr
   go_wp2_with fail
   refine (turnsElse_any w2 B b r lv fv mv pv dv vo none opens at_ (stQ ms ns outs calls) lb op oa oc os W w.heap.size HBK.out ⟨_,_,_,_,_,_,_,HX.out,rfl⟩ HP.out hop).mono ?_
   rintro e w4 hpost
   obtain ⟨rfl,_⟩:=id hpost
   have HPO:=hid hpost
   clear hpost
   go_wp2_with fail
   first|go_end0|refine bodyPost_ret (results_none rfl _ _ _) rfl ?_
   rw [←HXR.out]
   exact bk_before HF.out HPO.out
  ·have hopElse:=hop
   clear hop
   by_cases hop:W.op=opEndif
   ·rw [if_neg (by rw [hop];decide),if_neg (by rw [hop];decide),if_pos hop] at hxr
    have kopIf:(op.toList==[46,105,102])=false:=op_not (by rw [HOP.out,hop];decide)
    have kopElse:(op.toList==[46,101,108,115,101])=false:=op_not (by rw [HOP.out,hop];decide)
    have kopEndif:(op.toList==[46,101,110,100,105,102])=true:=op_is (HOP.out.trans hop)
    have HXR:=hid hxr
    clear hxr
    go_wp2_with fail
    refine (turnsEnd_any w2 B b r lv fv mv pv dv vo none opens at_ (stQ ms ns outs calls) lb op oa oc os W w.heap.size HBK.out ⟨_,_,_,_,_,_,_,HX.out,rfl⟩ HP.out hop).mono ?_
    rintro e w4 hpost
    obtain ⟨rfl,_⟩:=id hpost
    have HPO:=hid hpost
    clear hpost
    go_wp2_with fail
    first|go_end0|refine bodyPost_ret (results_none rfl _ _ _) rfl ?_
    rw [←HXR.out]
    exact bk_before HF.out HPO.out
   ·have hopEndif:=hop
    clear hop
    rw [if_neg hopIf,if_neg hopElse,if_neg hopEndif] at hxr
    have kopIf:(op.toList==[46,105,102])=false:=op_not (fun c=>hopIf (HOP.out.symm.trans c))
    have kopElse:(op.toList==[46,101,108,115,101])=false:=op_not (fun c=>hopElse (HOP.out.symm.trans c))
    have kopEndif:(op.toList==[46,101,110,100,105,102])=false:=op_not (fun c=>hopEndif (HOP.out.symm.trans c))
    have HXR:=hid hxr
    clear hxr
    go_wp2_with fail
    first|go_end0|refine bodyPost_ret (results_none rfl _ _ _) rfl ?_
    rw [←HXR.out]
    exact ⟨rfl,Fq.of_below HF.out,fun _=>⟨⟨vo,HBK.out,fun g h=>Or.inl h⟩,⟨_,_,_,_,_,_,_,HX.out,rfl⟩⟩,fun c=>absurd rfl c⟩
end
def KeepsOk (call:MacP→WordsP→Nat→StP→Int×StP) (k:Nat):Prop:=∀m W at_ st,StOk st k→(call m W at_ st).1=0→StOk (call m W at_ st).2 k
theorem line_ok {call:MacP→WordsP→Nat→StP→Int×StP}{k:Nat}(hc:KeepsOk call k) {inM:Bool}{W:WordsP}{at_:Nat}{opens:List OpenP}{st:StP}(h:StOk st k) (h0:(lineP call inM W at_ opens st).1=0):StOk (lineP call inM W at_ opens st).2.2.2 k:=by
 unfold lineP at h0 ⊢
 split at h0
 ·rw [if_pos (by assumption)];exact h
 rename_i h1;rw [if_neg h1]
 split at h0
 ·rw [if_pos (by assumption)];exact h
 rename_i h2;rw [if_neg h2]
 split at h0
 ·rw [if_pos (by assumption)];exact h
 rename_i h3;rw [if_neg h3]
 split at h0
 ·rw [if_pos (by assumption)];exact h
 rename_i h4;rw [if_neg h4]
 split at h0
 ·rw [if_pos (by assumption)];exact h
 rename_i h5;rw [if_neg h5]
 split at h0
 ·rw [if_pos (by assumption)];exact setP_ok h h0
 rename_i h6;rw [if_neg h6]
 cases hf:findM st.macros W.op with
 |some m=>rw [hf] at h0;exact hc m W at_ st h h0
 |none=>rw [hf] at h0;exact leaveP_ok h h0
theorem line_nodef {call:MacP→WordsP→Nat→StP→Int×StP}{W:WordsP}{at_:Nat}{opens:List OpenP}{st:StP}(h0:(lineP call true W at_ opens st).1=0):(lineP call true W at_ opens st).2.2.1=none:=by
 unfold lineP at h0 ⊢
 split at h0
 ·rw [if_pos (by assumption)]
 rename_i h1;rw [if_neg h1]
 split at h0
 ·rw [if_pos (by assumption)]
 rename_i h2;rw [if_neg h2]
 split at h0
 ·rw [if_pos (by assumption)]
 rename_i h3;rw [if_neg h3]
 split at h0
 ·simp [defP] at h0
 rename_i h4;rw [if_neg h4]
 split at h0
 ·rw [if_pos (by assumption)]
 rename_i h5;rw [if_neg h5]
 split at h0
 ·rw [if_pos (by assumption)]
 rename_i h6;rw [if_neg h6]
 cases hf:findM st.macros W.op<;>rfl
theorem block_ok {call:MacP→WordsP→Nat→StP→Int×StP}{k:Nat}(hc:KeepsOk call k) (sub:List (List UInt8)×List (List UInt8)) (inc:Nat):∀(ls:List (List UInt8)) (at_:Nat) (opens:List OpenP) (st:StP),StOk st k→(blockP call (some sub) inc ls at_ opens none st).1=0→StOk (blockP call (some sub) inc ls at_ opens none st).2.2 k
 |[],at_,opens,st,h,h0=>by
  simp only [blockP] at h0 ⊢
  split<;>exact h
 |l::r,at_,opens,st,h,h0=>by
  simp only [blockP] at h0 ⊢
  split at h0
  ·rename_i ho
   rw [if_pos ho]
   split at h0
   ·rename_i h1;exact absurd h0 h1
   ·rename_i h1;rw [if_neg h1];exact block_ok hc sub inc r _ _ _ h h0
  ·rename_i ho
   rw [if_neg ho]
   split at h0
   ·rename_i h1;exact absurd h0 h1
   ·rename_i h1
    rw [if_neg h1]
    split at h0
    ·rename_i h2;exact absurd h0 h2
    ·rename_i h2
     rw [if_neg h2]
     have h3:(lineP call true (readP (some sub) false (cutL l)).2 (at_+inc) opens st).1=0:=by simpa using h2
     have h4:=line_nodef h3
     rw [show (some sub).isSome=true from rfl,h4] at h0 ⊢
     exact block_ok hc sub inc r _ _ _ (line_ok hc h h3) h0
theorem call_ok:∀(n k:Nat),KeepsOk (callN n) k
 |0,k=>fun m W at_ st h h0=>by cases h0
 |n+1,k=>fun m W at_ st h h0=>by
  rw [callN] at h0 ⊢
  split at h0
  ·cases h0
  rename_i h1;rw [if_neg h1]
  split at h0
  ·cases h0
  rename_i h2;rw [if_neg h2]
  split at h0
  ·rename_i h3;exact absurd h0 h3
  rename_i h3;rw [if_neg h3]
  have h4:=leaveP_ok h (by simpa using h3)
  refine block_ok (call_ok n k) _ 0 _ _ _ _ ⟨h4.macs,h4.names,h4.out,?_,h4.few,h4.taken⟩ h0
  have h5:¬200≤st.calls:=h2
  show st.calls+1≤200
  omega
end Go.Proofs.YtcepppilgncdmaaGreatDoor
