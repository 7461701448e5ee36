/-
  Joined: PIf QTurn.
-/
import Derived.Test.YtcepppilgncdmaaGreatDoorBX24
namespace Go.Proofs.YtcepppilgncdmaaGreatDoor
open Go.RowKit
section
attribute [local go_sem ↓] Go.wp_at_zero Go.wp_at_succ
def Rd (T t:Nat):Prop:=(T=69∧t=74)∨(T=207∧t=209)
theorem Rd.facts {T t:Nat}(h:Rd T t):257≠t∧t≠9∧t≠101∧rT t=true∧eT t=false:=by
 rcases h with ⟨_,rfl⟩|⟨_,rfl⟩<;>exact ⟨by decide,by decide,by decide,rfl,rfl⟩
theorem ask_depth {T t:Nat}(h:Rd T t) (bm:Nat) (w:World):(method 359 T (.pointer (some ⟨bm,0,none⟩)) "mason/expand.depth").run Tryz.prog w=.ok (196,.pointer (some ⟨bm,0,none⟩)) w:=by
 rcases h with ⟨rfl,_⟩|⟨rfl,_⟩<;>kernel_rfl
theorem ask_passing {T t:Nat}(h:Rd T t) (bm:Nat) (w:World):(method 359 T (.pointer (some ⟨bm,0,none⟩)) "mason/expand.passing").run Tryz.prog w=.ok (198,.pointer (some ⟨bm,0,none⟩)) w:=by
 rcases h with ⟨rfl,_⟩|⟨rfl,_⟩<;>kernel_rfl
theorem ask_begin {T t:Nat}(h:Rd T t) (bm:Nat) (w:World):(method 359 T (.pointer (some ⟨bm,0,none⟩)) "mason/expand.begin").run Tryz.prog w=.ok (195,.pointer (some ⟨bm,0,none⟩)) w:=by
 rcases h with ⟨rfl,_⟩|⟨rfl,_⟩<;>kernel_rfl
theorem ask_turn {T t:Nat}(h:Rd T t) (bm:Nat) (w:World):(method 359 T (.pointer (some ⟨bm,0,none⟩)) "mason/expand.turn").run Tryz.prog w=.ok (200,.pointer (some ⟨bm,0,none⟩)) w:=by
 rcases h with ⟨rfl,_⟩|⟨rfl,_⟩<;>kernel_rfl
theorem ask_finish {T t:Nat}(h:Rd T t) (bm:Nat) (w:World):(method 359 T (.pointer (some ⟨bm,0,none⟩)) "mason/expand.finish").run Tryz.prog w=.ok (197,.pointer (some ⟨bm,0,none⟩)) w:=by
 rcases h with ⟨rfl,_⟩|⟨rfl,_⟩<;>kernel_rfl
theorem ask_more {T t:Nat}(h:Rd T t) (bm:Nat) (w:World):(method 359 T (.pointer (some ⟨bm,0,none⟩)) "mason/expand.more").run Tryz.prog w=.ok (163,.pointer (some ⟨bm,0,none⟩)) w:=by
 rcases h with ⟨rfl,_⟩|⟨rfl,_⟩<;>kernel_rfl
theorem ask_lread (bm:Nat) (w:World):(method 359 69 (.pointer (some ⟨bm,0,none⟩)) "mason/expand.read").run Tryz.prog w=.ok (199,.pointer (some ⟨bm,0,none⟩)) w:=by kernel_rfl
theorem ask_mread (bm:Nat) (w:World):(method 359 207 (.pointer (some ⟨bm,0,none⟩)) "mason/expand.read").run Tryz.prog w=.ok (202,.pointer (some ⟨bm,0,none⟩)) w:=by kernel_rfl
def IfPost (B be bt wi k t bm:Nat) (v:Value) (rest:List Value) (st:StP) (r:Int×List OpenP) (w:World) (e:Ending) (w':World):Prop:=
 e=.returned (.int .i64 r.1)∧FrC B (condM bm v) w w'∧(r.1=0→ExpSt w' B be bt wi k st∧∃v',(∀g,v'.ownBlock=some g→v.ownBlock=some g∨w.heap.size≤g)∧CondAt w' B t bm v' rest r.2)∧NumAt w' be bt wi k
theorem ExpAt.frc {w w':World}{B be bt wi k:Nat}{vm vn vl:Value}{ms:List MacV}{ns:List (ByteArray×Int)}{outs:List (ByteArray×Nat)}{calls:Nat}(h:ExpAt w B be bt wi k vm vn vl ms ns outs calls) {M:List Nat}(hf:FrC B M w w') {k':Nat}(ht:∃xs,RowT w' 74 bt xs∧xs[2]?=some (.int .i64 (k':Nat))):ExpAt w' B be bt wi k' vm vn vl ms ns outs calls:=
 ⟨h.row.fr hf rfl (fun h=>by cases h),ownsRow_fr h.mown hf rfl (fun h=>by cases h),ownsRow_fr h.nown hf rfl (fun h=>by cases h),ownsRow_fr h.lown hf rfl (fun h=>by cases h),fun m hm=>⟨(h.mstr m hm).1.frc hf,(h.mstr m hm).2.frc hf⟩,h.at_,ht⟩
theorem ExpSt.frc {w w':World}{B be bt wi k:Nat}{st:StP}(h:ExpSt w B be bt wi k st) {M:List Nat}(hf:FrC B M w w') {k':Nat}(ht:∃xs,RowT w' 74 bt xs∧xs[2]?=some (.int .i64 (k':Nat))):ExpSt w' B be bt wi k' st:=by
 obtain ⟨vm,vn,vl,ms,ns,outs,calls,hx,rfl⟩:=h
 exact ⟨vm,vn,vl,ms,ns,outs,calls,hx.frc hf ht,rfl⟩
theorem ExpSt.below {w w':World}{B be bt wi k:Nat}{st:StP}(h:ExpSt w B be bt wi k st) (hb:Below w.heap.size w w'):ExpSt w' B be bt wi k st:=by
 obtain ⟨vm,vn,vl,ms,ns,outs,calls,hx,rfl⟩:=h
 exact ⟨vm,vn,vl,ms,ns,outs,calls,hx.below hb,rfl⟩
theorem ExpSt.text {w:World}{B be bt wi k:Nat}{st:StP}(h:ExpSt w B be bt wi k st):∃xs,RowT w 74 bt xs∧xs[2]?=some (.int .i64 (k:Nat)):=by
 obtain ⟨vm,vn,vl,ms,ns,outs,calls,hx,rfl⟩:=h
 exact hx.text
theorem ExpSt.num {w:World}{B be bt wi k:Nat}{st:StP}(h:ExpSt w B be bt wi k st):NumAt w be bt wi k:=by
 obtain ⟨vm,vn,vl,ms,ns,outs,calls,hx,rfl⟩:=h
 exact hx.num
theorem RowT.same {w:World}{t e g:Nat}{xs ys:List Value}(h:RowT w t g xs) (k:RowT w e g ys):t=e∧xs=ys:=by
 unfold RowT at h k
 rw [h] at k
 injection k with k
 injection k with k1 k2
 exact ⟨k2,by simpa using k1⟩
theorem text_after {w w':World}{B be bt wi k t bm:Nat}{st:StP}{v v' lv:Value}{j:Nat}{rest:List Value}{opens:List OpenP}(h:ExpSt w B be bt wi k st) (hc:CondAt w B t bm v (lv::.int .i64 (j:Nat)::rest) opens) (hc':RowT w' t bm (v'::lv::.int .i64 (j:Nat)::rest)) (hf:FrC B (condM bm v) w w'):∃xs,RowT w' 74 bt xs∧xs[2]?=some (.int .i64 (k:Nat)):=by
 obtain ⟨xs,h1,h2⟩:=h.text
 by_cases hb:bm=bt
 ·subst hb
  obtain ⟨h3,h4⟩:=h1.same hc.row
  rw [h4] at h2
  exact ⟨_,h3 ▸ hc',by simpa using h2⟩
 ·refine ⟨xs,h1.fr hf rfl (fun _ hm=>?_),h2⟩
  unfold condM at hm
  rcases List.mem_cons.1 hm with h5|h5
  ·exact hb h5.symm
  ·have h6:=own_row_ne hc.own h1 (by decide)
   rw [Option.mem_toList] at h5
   exact h6 h5
theorem CondPost.ifPost {B be bt wi k t bm:Nat}{v lv:Value}{j:Nat}{rest:List Value}{st:StP}{opens:List OpenP}{r:Int×List OpenP}{w:World}{e:Ending}{w':World}(h:CondPost B t bm v (lv::.int .i64 (j:Nat)::rest) r.2 r.1 w e w') (hs:ExpSt w B be bt wi k st) (hc:CondAt w B t bm v (lv::.int .i64 (j:Nat)::rest) opens) :
  IfPost B be bt wi k t bm v (lv::.int .i64 (j:Nat)::rest) st r w e w':=by
 obtain ⟨h1,h2,h3,v2,h4⟩:=h
 have hst:=hs.frc h2 (text_after hs hc h4 h2)
 refine ⟨h1,h2,fun h0=>?_,hst.num⟩
 obtain ⟨v',h5,h6⟩:=h3 h0
 exact ⟨hst,v',fun g hg=>Or.inl (h5 ▸ hg),h6⟩
set_option maxRecDepth 100000 in
set_option maxHeartbeats 1600000 in
theorem doIf_any (w:World) (B be bt wi k T t bm:Nat) (st:StP) (v lv:Value) (j:Nat) (rest:List Value) (opens:List OpenP) (lb op:ByteArray) (va:Option Addr) (vc:Nat) (os:List ByteArray) (W:WordsP) (C:Nat)
  (hrd:Rd T t) (h:ExpSt w B be bt wi k st) (hc:CondAt w B t bm v (lv::.int .i64 (j:Nat)::rest) opens) (hp:PartsV w C lb op (.slice va os.length vc) os W) (hsz:∀i (hi:i<os.length),os[i].size≤1000) (hnl:st.names.length≤1000) (hB:B≤w.heap.size) (hbm:B≤bm) :
  Calls Tryz.prog 70 #[.pointer (some ⟨be,0,none⟩),.iface T (.pointer (some ⟨bm,0,none⟩)),.agg #[.string lb,.string op,.slice va os.length vc]] w (IfPost B be bt wi k t bm v (lv::.int .i64 (j:Nat)::rest) st (ifP W opens st) w):=by
 have hb0:Below w.heap.size w (w.alloc (.cells #[.string lb,.string op,.slice va os.length vc] 101)):=(Below.refl _ _).alloc (Nat.le_refl _) _
 have HS:=hid (h.below hb0)
 have HC:=hid (hc.below hb0)
 have HP:=hid (hp.below hb0)
 have HF:=hid (show FrC B (condM bm v) w (w.alloc (.cells #[.string lb,.string op,.slice va os.length vc] 101)) from FrC.of_below hb0)
 have HBX:=hid (RowT.new w 101 [.string lb,.string op,.slice va os.length vc])
 obtain ⟨htc,hts,htp,hrt,het⟩:=hrd.facts
 obtain ⟨t1,t2,t3⟩:=hp.two
 have HSZ:=hid hsz
 have HT3:=hid t3
 have hfew:=hc.few
 have m1:=fun w=>ask_depth hrd bm w
 have m2:=fun w=>ask_passing hrd bm w
 have m3:=fun w=>ask_begin hrd bm w
 obtain ⟨r,hr⟩:∃r,ifP W opens st=r:=⟨_,rfl⟩
 rw [hr]
 unfold ifP at hr
 rw [t2] at hr
 clear h hc hp hb0 hsz t3
 have HRX:=hid hr
 clear hr
 go_enter Tryz.func70,Tryz.ntmps70
 go_wp2_with fail
 generalize (w.alloc (.cells #[.string lb,.string op,.slice va os.length vc] 101))=w0 at HS HC HP HF HBX ⊢
 refine (depth_any _ B t bm v _ opens HC.out).mono ?_
 rintro e w1 ⟨rfl,rfl⟩
 have hr:=HRX.out
 by_cases h8:8≤opens.length
 ·rw [if_pos h8] at hr
  subst hr
  have k8:((opens.length:Int)==8)=true:=by rw [beq_iff_eq];omega
  go_wp2
  go_ret
  exact ⟨rfl,HF.out,(fun h=>by cases h),HS.out.num⟩
 ·rw [if_neg h8] at hr
  have k8:((opens.length:Int)==8)=false:=by rw [beq_eq_false_iff_ne];omega
  have HRY:=hid hr
  clear hr
  go_wp2_with fail
  refine (passing_any _ B t bm v _ opens HC.out).mono ?_
  cases hov:overP opens with
  |true =>
   rintro e w2 ⟨rfl,rfl⟩
   have hr:=HRY.out
   rw [hov,if_pos rfl] at hr
   subst hr
   clear hov
   go_wp2_with fail
   refine (begin_any _ B t bm v _ opens ⟨false,false,true⟩ HC.out (Nat.le_trans hB HF.out.size) hbm hrt htc (by omega) rfl).mono ?_
   rintro e w3 ⟨rfl,v',hc',hf',hg'⟩
   go_wp2
   go_ret
   refine ⟨rfl,HF.out.trans hf',fun _=>⟨HS.out.frc hf' (text_after HS.out HC.out hc'.row hf'),v',fun g hg=>(hg' g hg).imp id fun h=>?_,hc'⟩,(HS.out.frc hf' (text_after HS.out HC.out hc'.row hf')).num⟩
   exact Nat.le_trans HF.out.size h
  |false =>
   rintro e w2 ⟨rfl,rfl⟩
   have hr:=HRY.out
   rw [hov,if_neg (by simp)] at hr
   clear hov
   by_cases hlb:lb.size=0
   ·rw [t1.2 hlb] at hr
    have kl:=is_empty lb hlb
    by_cases h1:os.length=1
    ·rw [if_neg (by simp [h1])] at hr
     have hpos0:0<os.length:=by omega
     obtain ⟨x1,hx1⟩:∃x1,os[0]=x1:=⟨_,rfl⟩
     have e0:W.operands.headD []=L x1:=by rw [headD_get,←hx1];exact HT3.out 0 hpos0
     rw [e0] at hr
     have hs1:x1.size≤1000:=by rw [←hx1];exact HSZ.out 0 hpos0
     obtain ⟨b,off,cap,hv,hbl,d0⟩:=HP.out.at_.cell 0 hpos0
     injection hv with hv1 _ hv2
     subst hv1
     rw [Nat.add_zero,hx1] at d0
     obtain ⟨vm,vn,vl,ms,ns,outs,calls,hx,hst⟩:=HS.out
     obtain ⟨na,nc,hnv,hna⟩:=hx.namesAt
     subst hnv
     subst hst
     obtain ⟨q,hq⟩:∃q,value 0 (plainN ns) (L x1)=q:=⟨_,rfl⟩
     obtain ⟨z,er⟩:=q
     have hq':value 0 (stOf ms ns outs calls).names (L x1)=(z,er):=hq
     rw [hq'] at hr
     have HQ:=hid hq
     have HRZ:=hid hr
     have c2:World.cell? _ ⟨be,2,none⟩=some (.slice na ns.length nc):=hx.row.cell 2 (by simp)
     have HNA:=hid hna
     have hnl':ns.length≤1000:=by simpa [stOf,plainN] using hnl
     clear hx hna hq hq' hr hv2 hx1 hpos0 e0
     have y0:=HBX.out.cell 0 (by simp)
     have y1:=HBX.out.cell 1 (by simp)
     have y2:=HBX.out.cell 2 (by simp)
     rw [h1] at y2
     have HH1:=hid h1
     go_wp2_with fail
     go_region_with (go_at_call 36;refine (xValue_any x1 0 na nc ns _ z er (by unfold maxLen;omega) (by unfold maxLen;omega) (HNA.out.below ((Below.refl _ _).drew)) HQ.out).mono ?_;rintro e w3 ⟨rfl,hb3⟩)
     all_goals
      have hb3':=((Below.refl _ _).drew).trans (hb3.mono (Nat.le_refl _))
      have HS3:=hid (HS.out.below hb3')
      have HC3:=hid (HC.out.below hb3')
      have HF3:=hid (HF.out.trans (FrC.of_below hb3'))
      clear hb3 hb3' y0 y1 y2 c2 d0 h1
      have hr:=HRZ.out
      by_cases her:er=0
      ·subst her
       rw [if_neg (by simp)] at hr
       subst hr
       have kz:(z==0)=passOf ⟨decide (z≠0),false,false⟩:=by
        by_cases hz:z=0<;>simp [passOf,hz]
       have HKZ:=hid kz
       clear kz
       go_wp2_with fail
       refine (by have:=begin_any _ B t bm v _ opens ⟨decide (z≠0),false,false⟩ HC3.out (Nat.le_trans hB HF3.out.size) hbm hrt htc (by omega) rfl;rw [←HKZ.out] at this;exact this:Calls Tryz.prog 195 #[.pointer (some ⟨bm,0,none⟩),.bool (z==0)] w3 _).mono ?_
       rintro e w4 ⟨rfl,v',hc',hf',hg'⟩
       go_wp2
       go_ret
       refine ⟨rfl,HF3.out.trans hf',fun _=>⟨HS3.out.frc hf' (text_after HS3.out HC3.out hc'.row hf'),v',fun g hg=>(hg' g hg).imp id fun h=>?_,hc'⟩,(HS3.out.frc hf' (text_after HS3.out HC3.out hc'.row hf')).num⟩
       exact Nat.le_trans HF3.out.size h
      ·have ke:(er != 0)=true:=by simpa using her
       rw [if_pos her] at hr
       subst hr
       go_wp2
       go_ret
       exact ⟨rfl,HF3.out,fun h=>absurd h her,HS3.out.num⟩
    ·rw [if_pos (Or.inr h1)] at hr
     subst hr
     have k2:((os.length:Int) != 1)=true:=by simp;omega
     have y0:=HBX.out.cell 0 (by simp)
     have y2:=HBX.out.cell 2 (by simp)
     go_wp2
     go_ret
     exact ⟨rfl,HF.out,(fun h=>by cases h),HS.out.num⟩
   ·rw [if_pos (Or.inl (fun e=>hlb (t1.1 e)))] at hr
    subst hr
    have kl:=not_empty lb (by omega)
    have y0:=HBX.out.cell 0 (by simp)
    go_wp2
    go_ret
    exact ⟨rfl,HF.out,(fun h=>by cases h),HS.out.num⟩
end
section
attribute [local go_sem ↓] Go.wp_at_zero Go.wp_at_succ
theorem openCells_els (o:OpenP) (r:List OpenP) (u:Bool):(openCells (o::r)).set (r.length*3+1) (.bool u)=openCells (⟨o.yes,u,o.over⟩::r):=by
 simp only [openCells]
 rw [List.set_append_right _ _ (by rw [openCells_length];omega),openCells_length]
 simp
theorem openCells_yes (o:OpenP) (r:List OpenP) (u:Bool):(openCells (o::r)).set (r.length*3) (.bool u)=openCells (⟨u,o.els,o.over⟩::r):=by
 simp only [openCells]
 rw [List.set_append_right _ _ (by rw [openCells_length];omega),openCells_length]
 simp
theorem BkAt.store {w:World}{B b g cap:Nat}{lv fv mv pv dv xd:Value}{o o':OpenP}{r:List OpenP}(h:BkAt w B b lv fv mv pv dv (.slice (some ⟨g,0,none⟩) (r.length+1) cap) xd (o::r)) (j:Nat) (u:Value) (hs:(openCells (o::r)).set j u=openCells (o'::r)) :
  BkAt (w.setCell ⟨g,j,none⟩ u) B b lv fv mv pv dv (.slice (some ⟨g,0,none⟩) (r.length+1) cap) xd (o'::r)∧Fc B (bkM b (.slice (some ⟨g,0,none⟩) (r.length+1) cap)) w (w.setCell ⟨g,j,none⟩ u):=by
 have hne:=own_row_ne h.own h.row (by decide)
 refine ⟨⟨h.row.other g j (fun e=>hne (by rw [e];rfl)) u,?_,by simpa using h.few,h.at_⟩,?_⟩
 ·have:=(h.own.stored j u).1
  rw [hs] at this
  exact this
 ·exact (FrQ.refl noT r1 B _ w).setCell (p:=⟨g,j,none⟩) (own_mayQ h.own (fun k hk=>Or.inr ⟨rfl,by unfold bkM;rw [hk];simp⟩) g rfl) _
set_option maxRecDepth 100000 in
set_option maxHeartbeats 1600000 in
theorem turnsElse_any (w:World) (B b r:Nat) (lv fv mv pv dv vo:Value) (p:Option Addr) (opens:List OpenP) (at_:Nat) (st:StP) (lb op:ByteArray) (va:Option Addr) (vc:Nat) (os:List ByteArray) (W:WordsP) (C:Nat)
  (h:BkAt w B b lv fv mv pv dv vo (.pointer p) opens) (hx:RdSt w B r st) (hp:PartsV w C lb op (.slice va os.length vc) os W) (hop:W.op=opElse) :
  Calls Tryz.prog 129 #[.pointer (some ⟨b,0,none⟩),.pointer (some ⟨r,0,none⟩),.agg #[.string lb,.string op,.slice va os.length vc],.int .i64 (at_:Nat)] w (BkPost B b r lv fv mv pv dv vo p at_ (elseP W opens) st w):=by
 obtain ⟨vm,vn,vl,ms,ns,outs,calls,hx,hst⟩:=hx
 obtain ⟨x,hxr⟩:∃x,elseP W opens=x:=⟨_,rfl⟩
 rw [hxr]
 have HXR:=hid hxr
 obtain ⟨t1,t2,t3⟩:=hp.two
 have HST:=hid hst
 have kop:(op.toList==[46,101,108,115,101])=true:=op_is (hp.op.trans hop)
 have kop2:(op.toList==[46,101,110,100,105,102])=false:=op_not (by rw [hp.op,hop];decide)
 have hb0:Below w.heap.size w (w.alloc (.cells #[.string lb,.string op,.slice va os.length vc] 134)):=(Below.refl _ _).alloc (Nat.le_refl _) _
 have HX:=hid (hx.below hb0)
 have HBK:=hid (h.below hb0)
 have HF:=hid (show Fq B (bkM b vo) w (w.alloc (.cells #[.string lb,.string op,.slice va os.length vc] 134)) from Fq.of_below hb0)
 have HBX:=hid (show RowT (w.alloc (.cells #[.string lb,.string op,.slice va os.length vc] 134)) 134 w.heap.size [.string lb,.string op,.slice va os.length vc] from RowT.new w 134 [.string lb,.string op,.slice va os.length vc])
 have hbare:bareW W=(decide (lb.size=0)&&decide (os.length=0)):=by
  unfold bareW
  rw [←hp.label,←hp.ops]
  congr 1
  ·rw [decide_eq_decide]
   exact ⟨fun e=>by rw [size_L,e];rfl,L_zero⟩
  ·rw [decide_eq_decide]
   cases os<;>simp
 clear hx h hp hb0 hst t3 hxr hop t1 t2
 go_enter Tryz.func129,Tryz.ntmps129
 go_upto_region 1 with fail
 generalize w.alloc (.cells #[.string lb,.string op,.slice va os.length vc] 134)=w1 at HX HBK HF HBX ⊢
 obtain ⟨bx,hbx⟩:∃bx,w.heap.size=bx:=⟨_,rfl⟩
 rw [hbx] at HBX ⊢
 clear hbx
 have y0:=HBX.out.cell 0 (by simp)
 have y1:=HBX.out.cell 1 (by simp)
 have y2:=HBX.out.cell 2 (by simp)
 have c5:w1.cell? ⟨b,5,none⟩=some vo:=HBK.out.row.cell 5 (by simp)
 have f5:=HBK.out.row.free 5
 have hltb:=HBK.out.row.lt
 have hfew:=HBK.out.few
 cases opens with
 |nil =>
  obtain ⟨a5,k5,hv5⟩:=own_form HBK.out.own
  rw [List.length_nil] at hv5
  subst hv5
  have hxr:(2,[])=x:=HXR.out
  have HXR:=hid hxr
  clear hxr
  go_wp2_with (first|(go_at_call 60;refine (bad_any _ r _ _ _ _ _ 2 at_ HX.out.row).mono ?_;rintro e w2 ⟨rfl,rfl⟩))
  go_end0
  rw [←HXR.out]
  exact bk_bad HX.out HBK.out HF.out (by decide)
 |cons o rs =>
  obtain ⟨g,cap,hv5,hBg,hgl,hcap,z0,z1,z2⟩:=HBK.out.slot
  subst hv5
  have HO:=hid (show w1.ownsRow B 190 3 (.slice (some ⟨g,0,none⟩) (rs.length+1) cap) (rs.length+1) (openCells (o::rs)) from HBK.out.own)
  have fz0:=HO.out.frozenAt (rs.length*3)
  have fz1:=HO.out.frozenAt (rs.length*3+1)
  obtain ⟨yes,els,over⟩:=o
  simp only at z0 z1 z2
  rw [List.length_cons] at hfew
  have i2:((rs.length+1:Nat):Int)-1=(rs.length:Int):=by omega
  have i3:(0:Int)≤(rs.length:Int):=Int.natCast_nonneg _
  have hgb:¬g=b:=fun e=>own_row_ne HBK.out.own HBK.out.row (by decide) (by rw [e];rfl)
  have hbg:¬b=g:=fun e=>hgb e.symm
  have hxr:=HXR.out
  simp only [elseP] at hxr
  cases els with
  |true =>
   rw [if_pos rfl] at hxr
   have HXR:=hid hxr
   clear hxr
   go_wp2_with (first|(go_at_call 60;refine (bad_any _ r _ _ _ _ _ 2 at_ HX.out.row).mono ?_;rintro e w2 ⟨rfl,rfl⟩))
   go_end0
   rw [←HXR.out]
   exact bk_bad HX.out HBK.out HF.out (by decide)
  |false =>
   rw [if_neg (by simp)] at hxr
   cases over with
   |true =>
    rw [if_neg (by simp)] at hxr
    have HXR:=hid hxr
    clear hxr hbare
    go_wp2_with fail
    go_region
    have HS1:=hid (HBK.out.store (rs.length*3+1) (.bool true) (openCells_els _ _ _))
    have HS2:=hid ((HS1.out.1.below ((Below.refl _ _).drew)).store (rs.length*3) (.bool (!yes)) (openCells_yes _ _ _))
    have HFQ:=hid (HF.out.trans (Fc.to ((HS1.out.2.trans (FrQ.of_below ((Below.refl _ _).drew))).trans HS2.out.2)))
    have HXQ:=hid (((HX.out.fc HS1.out.2).below ((Below.refl _ _).drew)).fc HS2.out.2)
    go_wp2_with fail
    go_end0
    rw [←HXR.out,HST.out]
    exact ⟨rfl,HFQ.out,fun _=>⟨⟨_,HS2.out.1,fun g hg=>Or.inl hg⟩,vm,vn,vl,ms,ns,outs,calls,HXQ.out,rfl⟩,fun c=>absurd rfl c⟩
   |false =>
    by_cases hlb:lb.size=0
    ·have kl:=is_empty lb hlb
     by_cases h1:os.length=0
     ·rw [if_neg (by rw [hbare];simp [hlb,h1])] at hxr
      have k1:((os.length:Int) != 0)=false:=by rw [bne_eq_false_iff_eq];omega
      have HXR:=hid hxr
      clear hxr hbare hlb h1
      go_wp2_with fail
      go_region
      have HS1:=hid (HBK.out.store (rs.length*3+1) (.bool true) (openCells_els _ _ _))
      have HS2:=hid ((HS1.out.1.below ((Below.refl _ _).drew)).store (rs.length*3) (.bool (!yes)) (openCells_yes _ _ _))
      have HFQ:=hid (HF.out.trans (Fc.to ((HS1.out.2.trans (FrQ.of_below ((Below.refl _ _).drew))).trans HS2.out.2)))
      have HXQ:=hid (((HX.out.fc HS1.out.2).below ((Below.refl _ _).drew)).fc HS2.out.2)
      go_wp2_with fail
      go_end0
      rw [←HXR.out,HST.out]
      exact ⟨rfl,HFQ.out,fun _=>⟨⟨_,HS2.out.1,fun g hg=>Or.inl hg⟩,vm,vn,vl,ms,ns,outs,calls,HXQ.out,rfl⟩,fun c=>absurd rfl c⟩
     ·rw [if_pos (by rw [hbare];simp [h1])] at hxr
      have k1:((os.length:Int) != 0)=true:=by rw [bne_iff_ne];omega
      have HXR:=hid hxr
      clear hxr hbare hlb h1
      go_wp2_with (first|(go_at_call 60;refine (bad_any _ r _ _ _ _ _ 4 at_ HX.out.row).mono ?_;rintro e w2 ⟨rfl,rfl⟩))
      go_end0
      rw [←HXR.out]
      exact bk_bad HX.out HBK.out HF.out (by decide)
    ·rw [if_pos (by rw [hbare];simp [hlb])] at hxr
     have kl:=not_empty lb (by omega)
     have HXR:=hid hxr
     clear hxr hbare hlb
     go_wp2_with (first|(go_at_call 60;refine (bad_any _ r _ _ _ _ _ 4 at_ HX.out.row).mono ?_;rintro e w2 ⟨rfl,rfl⟩))
     go_end0
     rw [←HXR.out]
     exact bk_bad HX.out HBK.out HF.out (by decide)
set_option maxRecDepth 100000 in
set_option maxHeartbeats 1600000 in
theorem turnsEnd_any (w:World) (B b r:Nat) (lv fv mv pv dv vo:Value) (p:Option Addr) (opens:List OpenP) (at_:Nat) (st:StP) (lb op:ByteArray) (va:Option Addr) (vc:Nat) (os:List ByteArray) (W:WordsP) (C:Nat)
  (h:BkAt w B b lv fv mv pv dv vo (.pointer p) opens) (hx:RdSt w B r st) (hp:PartsV w C lb op (.slice va os.length vc) os W) (hop:W.op=opEndif) :
  Calls Tryz.prog 129 #[.pointer (some ⟨b,0,none⟩),.pointer (some ⟨r,0,none⟩),.agg #[.string lb,.string op,.slice va os.length vc],.int .i64 (at_:Nat)] w (BkPost B b r lv fv mv pv dv vo p at_ (endifP W opens) st w):=by
 obtain ⟨vm,vn,vl,ms,ns,outs,calls,hx,hst⟩:=hx
 obtain ⟨x,hxr⟩:∃x,endifP W opens=x:=⟨_,rfl⟩
 rw [hxr]
 have HXR:=hid hxr
 obtain ⟨t1,t2,t3⟩:=hp.two
 have HST:=hid hst
 have kop:(op.toList==[46,101,108,115,101])=false:=op_not (by rw [hp.op,hop];decide)
 have kop2:(op.toList==[46,101,110,100,105,102])=true:=op_is (hp.op.trans hop)
 have hb0:Below w.heap.size w (w.alloc (.cells #[.string lb,.string op,.slice va os.length vc] 134)):=(Below.refl _ _).alloc (Nat.le_refl _) _
 have HX:=hid (hx.below hb0)
 have HBK:=hid (h.below hb0)
 have HF:=hid (show Fq B (bkM b vo) w (w.alloc (.cells #[.string lb,.string op,.slice va os.length vc] 134)) from Fq.of_below hb0)
 have HBX:=hid (show RowT (w.alloc (.cells #[.string lb,.string op,.slice va os.length vc] 134)) 134 w.heap.size [.string lb,.string op,.slice va os.length vc] from RowT.new w 134 [.string lb,.string op,.slice va os.length vc])
 have hbare:bareW W=(decide (lb.size=0)&&decide (os.length=0)):=by
  unfold bareW
  rw [←hp.label,←hp.ops]
  congr 1
  ·rw [decide_eq_decide]
   exact ⟨fun e=>by rw [size_L,e];rfl,L_zero⟩
  ·rw [decide_eq_decide]
   cases os<;>simp
 clear hx h hp hb0 hst t3 hxr hop t1 t2
 go_enter Tryz.func129,Tryz.ntmps129
 go_upto_region 1 with fail
 generalize w.alloc (.cells #[.string lb,.string op,.slice va os.length vc] 134)=w1 at HX HBK HF HBX ⊢
 obtain ⟨bx,hbx⟩:∃bx,w.heap.size=bx:=⟨_,rfl⟩
 rw [hbx] at HBX ⊢
 clear hbx
 have y0:=HBX.out.cell 0 (by simp)
 have y1:=HBX.out.cell 1 (by simp)
 have y2:=HBX.out.cell 2 (by simp)
 have c5:w1.cell? ⟨b,5,none⟩=some vo:=HBK.out.row.cell 5 (by simp)
 have f5:=HBK.out.row.free 5
 have hltb:=HBK.out.row.lt
 have hfew:=HBK.out.few
 cases opens with
 |nil =>
  obtain ⟨a5,k5,hv5⟩:=own_form HBK.out.own
  rw [List.length_nil] at hv5
  subst hv5
  have hxr:(2,[])=x:=HXR.out
  have HXR:=hid hxr
  clear hxr
  go_wp2_with (first|(go_at_call 60;refine (bad_any _ r _ _ _ _ _ 2 at_ HX.out.row).mono ?_;rintro e w2 ⟨rfl,rfl⟩))
  go_end0
  rw [←HXR.out]
  exact bk_bad HX.out HBK.out HF.out (by decide)
 |cons o rs =>
  obtain ⟨g,cap,hv5,hBg,hgl,hcap,z0,z1,z2⟩:=HBK.out.slot
  subst hv5
  have HO:=hid (show w1.ownsRow B 190 3 (.slice (some ⟨g,0,none⟩) (rs.length+1) cap) (rs.length+1) (openCells (o::rs)) from HBK.out.own)
  have fz0:=HO.out.frozenAt (rs.length*3)
  have fz1:=HO.out.frozenAt (rs.length*3+1)
  obtain ⟨yes,els,over⟩:=o
  simp only at z0 z1 z2
  rw [List.length_cons] at hfew
  have i2:((rs.length+1:Nat):Int)-1=(rs.length:Int):=by omega
  have i3:(0:Int)≤(rs.length:Int):=Int.natCast_nonneg _
  have hgb:¬g=b:=fun e=>own_row_ne HBK.out.own HBK.out.row (by decide) (by rw [e];rfl)
  have hbg:¬b=g:=fun e=>hgb e.symm
  have hpop:w1.ownsRow B 190 3 (.slice (some ⟨g,0,none⟩) rs.length cap) rs.length (openCells rs):=ownsRow_pop (n:=rs.length) (last:=[.bool yes,.bool els,.bool over]) (openCells_length rs) HO.out
  have HPK:=hid (show BkAt (w1.setCell ⟨b,5,none⟩ (.slice (some ⟨g,0,none⟩) rs.length cap)) B b lv fv mv pv dv (.slice (some ⟨g,0,none⟩) rs.length cap) (.pointer p) rs from
   ⟨HBK.out.row.set 5 _,ownsRow_setCell_other hpop (a:=⟨b,5,none⟩) (own_row_ne hpop HBK.out.row (by decide)) _,by omega,HBK.out.at_⟩)
  have HPF:=hid (show Fc B (bkM b (.slice (some ⟨g,0,none⟩) (rs.length+1) cap)) w1 (w1.setCell ⟨b,5,none⟩ (.slice (some ⟨g,0,none⟩) rs.length cap)) from (FrQ.refl noT r1 B _ w1).setCell (p:=⟨b,5,none⟩) (HBK.out.row.mayQ HBK.out.at_ (Or.inr ⟨rfl,by simp [bkM]⟩)) _)
  clear hpop
  have hxr:=HXR.out
  simp only [endifP] at hxr
  have j1:(rs.length:Int)≤(cap:Int):=by omega
  cases over with
  |true =>
   rw [if_neg (by simp)] at hxr
   have HXR:=hid hxr
   clear hxr hbare
   go_wp2_with fail
   go_end0
   rw [←HXR.out,HST.out]
   exact ⟨rfl,HF.out.trans (Fc.to HPF.out),fun _=>⟨⟨_,HPK.out,fun g hg=>Or.inl hg⟩,vm,vn,vl,ms,ns,outs,calls,HX.out.fc HPF.out,rfl⟩,fun c=>absurd rfl c⟩
  |false =>
   by_cases hlb:lb.size=0
   ·have kl:=is_empty lb hlb
    by_cases h1:os.length=0
    ·rw [if_neg (by rw [hbare];simp [hlb,h1])] at hxr
     have k1:((os.length:Int) != 0)=false:=by rw [bne_eq_false_iff_eq];omega
     have HXR:=hid hxr
     clear hxr hbare hlb h1
     go_wp2_with fail
     go_end0
     rw [←HXR.out,HST.out]
     exact ⟨rfl,HF.out.trans (Fc.to HPF.out),fun _=>⟨⟨_,HPK.out,fun g hg=>Or.inl hg⟩,vm,vn,vl,ms,ns,outs,calls,HX.out.fc HPF.out,rfl⟩,fun c=>absurd rfl c⟩
    ·rw [if_pos (by rw [hbare];simp [h1])] at hxr
     have k1:((os.length:Int) != 0)=true:=by rw [bne_iff_ne];omega
     have HXR:=hid hxr
     clear hxr hbare hlb h1
     go_wp2_with (first|(go_at_call 60;refine (bad_any _ r _ _ _ _ _ 4 at_ HX.out.row).mono ?_;rintro e w2 ⟨rfl,rfl⟩))
     go_end0
     rw [←HXR.out]
     exact bk_bad HX.out HBK.out HF.out (by decide)
   ·rw [if_pos (by rw [hbare];simp [hlb])] at hxr
    have kl:=not_empty lb (by omega)
    have HXR:=hid hxr
    clear hxr hbare hlb
    go_wp2_with (first|(go_at_call 60;refine (bad_any _ r _ _ _ _ _ 4 at_ HX.out.row).mono ?_;rintro e w2 ⟨rfl,rfl⟩))
    go_end0
    rw [←HXR.out]
    exact bk_bad HX.out HBK.out HF.out (by decide)
end
end Go.Proofs.YtcepppilgncdmaaGreatDoor
