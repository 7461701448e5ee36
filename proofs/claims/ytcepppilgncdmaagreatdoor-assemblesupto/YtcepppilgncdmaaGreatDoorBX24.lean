/-
  Joined: PSet PaByte RNum RLaid RFar QIf PHead.
-/
import Derived.Test.YtcepppilgncdmaaGreatDoorBX15
import Derived.Test.YtcepppilgncdmaaGreatDoorBX16
namespace Go.Proofs.YtcepppilgncdmaaGreatDoor
open Go.RowKit
section
attribute [local go_sem ↓] Go.wp_at_zero Go.wp_at_succ
set_option maxHeartbeats 800000 in
theorem hasValue_any (w:World) (B be bt wi k:Nat) (vm vn vl:Value) (ms:List MacV) (ns:List (ByteArray×Int)) (outs:List (ByteArray×Nat)) (calls:Nat) (h:ExpAt w B be bt wi k vm vn vl ms ns outs calls) (hnl:ns.length≤1000) (s:ByteArray) (r:Bool) (hr:hasN (plainN ns) (L s)=r) :
  Calls Tryz.prog 143 #[.pointer (some ⟨be,0,none⟩),.string s] w fun e w'=>e=.returned (.bool r)∧Below w.heap.size w w':=by
 obtain ⟨a,cap,hv,hna⟩:=h.namesAt
 have c2:w.cell? ⟨be,2,none⟩=some (.slice a ns.length cap):=by rw [←hv];exact h.row.cell 2 (by simp)
 have HNA:=hid hna
 have HR:=hid hr
 clear h hna hr hv
 go_enter Tryz.func143,Tryz.ntmps143
 go_wp2
 go_loopg [12] ns.length (fun q i wr=>∃j:Nat,q+j=ns.length∧i=.int .i64 j∧Below w.heap.size w wr∧r=(findN (plainN (ns.drop j)) (L s)).isSome)
 case atStart=>exact ⟨0,rfl,rfl,Below.refl _ _,by rw [List.drop_zero];exact HR.out.symm⟩
 case round =>
  obtain ⟨j,hq,rfl,hb,ha⟩:=hrel
  have HB:=hid hb
  have HA:=hid ha
  clear ha hb
  by_cases hlt:j<ns.length
  ·have kd:decide ((j:Int)<(ns.length:Int))=true:=by simp;omega
   rcases (HNA.out.below HB.out) with h0|⟨g,off,hv,hgl,hc⟩
   ·rw [h0] at hlt;simp at hlt
   ·subst hv
    obtain ⟨d0,d1⟩:=hc j hlt
    have hA:=HA.out
    rw [findN_at _ _ _ hlt] at hA
    clear hc
    by_cases he:L ns[j].1=L s
    ·rw [if_pos he] at hA
     have hr1:r=true:=hA
     subst hr1
     have kb:(ns[j].1.toList==s.toList)=true:=beq_of_L he
     clear hA he
     go_wp2
     go_ret
     exact ⟨rfl,HB.out.alloc HB.out.size _⟩
    ·rw [if_neg he] at hA
     have HF:=hid hA
     have kb:(ns[j].1.toList==s.toList)=false:=nbeq_of_L he
     clear hA he
     go_wp2
     go_roundg (gk-1)
     case measure=>omega
     case rel=>exact ⟨j+1,by omega,by go_num,HB.out.alloc HB.out.size _,HF.out⟩
  ·have kd:decide ((j:Int)<(ns.length:Int))=false:=by simp;omega
   have hr1:r=false:=by rw [HA.out,findN_end _ _ _ (by omega)];rfl
   subst hr1
   go_wp2
   go_ret
   exact ⟨rfl,HB.out⟩
theorem ExpAt.named {w w4:World}{B be bt wi k:Nat}{vm vn vl:Value}{ms:List MacV}{ns:List (ByteArray×Int)}{outs:List (ByteArray×Nat)}{calls:Nat}(h:ExpAt w B be bt wi k vm vn vl ms ns outs calls) (hg:w.grownBy w4 vn.ownBlock) {gg cap:Nat}{t:ByteArray}{z:Int}
  (ho:w4.ownsRow B 40 2 (.slice (some ⟨gg,0,none⟩) (ns.length+1) cap) (ns.length+1) (nameCells ns++[.string t,.int .i64 z])) :
  ExpAt (w4.setCell ⟨be,2,none⟩ (.slice (some ⟨gg,0,none⟩) (ns.length+1) cap)) B be bt wi k vm (.slice (some ⟨gg,0,none⟩) (ns.length+1) cap) vl ms (ns++[(t,z)]) outs calls ∧
  Fr B [] w (w4.setCell ⟨be,2,none⟩ (.slice (some ⟨gg,0,none⟩) (ns.length+1) cap)):=by
 have hne:vn.ownBlock≠some be:=own_row_ne h.nown h.row (by decide)
 have hr4:RowT w4 77 be [.pointer (some ⟨bt,0,none⟩),vm,vn,.int .i64 (wi:Nat),.int .i64 (calls:Nat),vl]:=RowT.grown' h.row hg (Ne.symm hne)
 have hm4:=h.mown.kept hg (by
  cases hv:vm.ownBlock with
  |none=>exact Or.inl rfl
  |some g=>exact Or.inr (fun e1=>own_own_ne h.mown h.nown (by decide) (g:=g) (by rw [←e1]) hv))
 have hl4:=h.lown.kept hg (by
  cases hv:vl.ownBlock with
  |none=>exact Or.inl rfl
  |some g=>exact Or.inr (fun e1=>own_own_ne h.lown h.nown (by decide) (g:=g) (by rw [←e1]) hv))
 have hf4:Fr B [] w w4:=(Fr.refl B [] w).grown hg (own_may h.nown (fun _ _=>Or.inl rfl))
 have hf5:=hf4.setCell (p:=⟨be,2,none⟩) (hr4.may h.at_ (Or.inl rfl)) (.slice (some ⟨gg,0,none⟩) (ns.length+1) cap)
 refine ⟨⟨hr4.set 2 _,?_,?_,?_,fun m hm=>⟨(h.mstr m hm).1.fr hf5,(h.mstr m hm).2.fr hf5⟩,h.at_,?_⟩,hf5⟩
 ·exact ownsRow_setCell_other hm4 (a:=⟨be,2,none⟩) (own_row_ne hm4 hr4 (by decide)) _
 ·rw [nameCells_append,List.length_append]
  exact ownsRow_setCell_other ho (a:=⟨be,2,none⟩) (own_row_ne ho hr4 (by decide)) _
 ·exact ownsRow_setCell_other hl4 (a:=⟨be,2,none⟩) (own_row_ne hl4 hr4 (by decide)) _
 ·obtain ⟨xs,h1,h2⟩:=h.text
  exact ⟨xs,h1.fr hf5 rfl (fun _=>by simp),h2⟩
theorem PartsV.two {w:World}{C:Nat}{lb op:ByteArray}{v:Value}{os:List ByteArray}{W:WordsP}(h:PartsV w C lb op v os W):(W.label=[]↔lb.size=0)∧W.operands.length=os.length∧∀i (hi:i<os.length),W.operands.getD i []=L os[i]:=by
 refine ⟨?_,by rw [←h.ops,List.length_map],fun i hi=>?_⟩
 ·rw [←h.label]
  exact ⟨fun e=>by rw [size_L,e];rfl,L_zero⟩
 ·rw [←h.ops,List.getD_eq_getElem?_getD,List.getElem?_map,List.getElem?_eq_getElem hi];rfl
theorem headD_get (l:List (List UInt8)):l.headD []=l.getD 0 []:=by cases l<;>rfl
set_option maxRecDepth 100000 in
set_option maxHeartbeats 1600000 in
theorem doSet_any (w:World) (B be bt wi k:Nat) (st:StP) (lb op:ByteArray) (va:Option Addr) (vc:Nat) (os:List ByteArray) (W:WordsP) (C:Nat) (h:ExpSt w B be bt wi k st) (hp:PartsV w C lb op (.slice va os.length vc) os W) (hl:(textP W).length≤1000000) (hn:os.length≤1000) (hsz:∀i (hi:i<os.length),os[i].size≤1000) (hok:StOk st k) (hB:B≤w.heap.size) :
  Calls Tryz.prog 107 #[.pointer (some ⟨be,0,none⟩),.agg #[.string lb,.string op,.slice va os.length vc]] w (ExpPost B be bt wi k [] (setP W k st) w):=by
 obtain ⟨vm,vn,vl,ms,ns,outs,calls,hx,rfl⟩:=h
 obtain ⟨i0,hi0,hz0,hz1,hz2⟩:=info_parts info_name
 have hb0:Below w.heap.size w (w.alloc (.cells #[.string lb,.string op,.slice va os.length vc] 101)):=(Below.refl _ _).alloc (Nat.le_refl _) _
 have HX:=hid (hx.below hb0)
 have HP:=hid (hp.below hb0)
 have HF:=hid (show Fr B [] w (w.alloc (.cells #[.string lb,.string op,.slice va os.length vc] 101)) from Fr.of_below hb0)
 have HB:=hid (RowT.new w 101 [.string lb,.string op,.slice va os.length vc])
 obtain ⟨t1,t2,t3⟩:=hp.two
 have hnl:ns.length≤300:=by
  have h1:=hok.names
  have h2:=hok.out
  simp only [stOf,plainN,List.length_map] at h1 h2
  omega
 have hol:(stOf ms ns outs calls).out.length≤300:=hok.out
 have HOK:=hid hol
 have HSZ:=hid hsz
 have HT3:=hid t3
 obtain ⟨r,hr⟩:∃r,setP W k (stOf ms ns outs calls)=r:=⟨_,rfl⟩
 rw [hr]
 have HR:=hid hr
 unfold setP at hr
 rw [t2] at hr
 clear hx hp hb0 hok hol hsz t3
 by_cases hlb:lb.size=0
 ·rw [t1.2 hlb] at hr
  have kl:=is_empty lb hlb
  by_cases h2:os.length=2
  ·rw [if_neg (by simp [h2])] at hr
   have hpos0:0<os.length:=by omega
   have hpos1:1<os.length:=by omega
   obtain ⟨n0,hn0⟩:∃n0,os[0]=n0:=⟨_,rfl⟩
   obtain ⟨x1,hx1⟩:∃x1,os[1]=x1:=⟨_,rfl⟩
   have e0:W.operands.headD []=L n0:=by rw [headD_get,←hn0];exact HT3.out 0 hpos0
   have e1:W.operands.getD 1 []=L x1:=by rw [←hx1];exact HT3.out 1 hpos1
   rw [e0,e1] at hr
   have hs0:n0.size≤1000:=by rw [←hn0];exact HSZ.out 0 hpos0
   have hs1:x1.size≤1000:=by rw [←hx1];exact HSZ.out 1 hpos1
   obtain ⟨b,off,cap,hv,hbl,d0⟩:=HP.out.at_.cell 0 hpos0
   injection hv with hv1 _ hv2
   subst hv1 hv2
   obtain ⟨_,_,_,hv',_,d1⟩:=HP.out.at_.cell 1 hpos1
   injection hv' with hv11 _ hv12
   injection hv11 with hv11
   injection hv11 with hv13 hv14
   subst hv13 hv14
   rw [Nat.add_zero,hn0] at d0
   rw [hx1] at d1
   have HM2:=hid h2
   rw [h2] at HX HP HF HB d0 d1 hbl
   rw [h2]
   clear hv12 hn0 hx1 hpos0 hpos1 h2 e0 e1
   have hr:(if nameB (L n0)=false∨hasN (plainN ns) (L n0)=true then (5,stOf ms ns outs calls) else if (value 0 (plainN ns) (L x1)).2≠0 then ((value 0 (plainN ns) (L x1)).2,stOf ms ns outs calls) else leaveP W k (stOf ms (ns++[(n0,(value 0 (plainN ns) (L x1)).1)]) outs calls))=r:=by
    rw [←hr]
    have e:∀v,plainN (ns++[(n0,v)])=plainN ns++[(L n0,v)]:=fun v=>by simp [plainN]
    simp only [stOf,e]
    rfl
   by_cases hnm:nameB (L n0)=false
   ·rw [if_pos (Or.inl hnm)] at hr
    subst hr
    have HNM:=hid hnm
    clear hnm
    go_enter Tryz.func107,Tryz.ntmps107
    go_wp2_with (first|(go_at_call 78;refine (IsName_any n0 _ (by unfold maxLen;omega)).mono ?_;rw [HNM.out];rintro e w1 ⟨rfl,rfl⟩))
    go_ret
    exact ⟨rfl,HF.out,(fun h=>by cases h),HX.out.num⟩
   ·have HNM:=hid (show nameB (L n0)=true by simpa using hnm)
    have hnm':¬nameB (L n0)=false:=hnm
    clear hnm
    by_cases hhas:hasN (plainN ns) (L n0)=true
    ·rw [if_pos (Or.inr hhas)] at hr
     subst hr
     have HHAS:=hid hhas
     clear hhas hnm'
     go_enter Tryz.func107,Tryz.ntmps107
     go_wp2_with (first|(go_at_call 78;refine (IsName_any n0 _ (by unfold maxLen;omega)).mono ?_;rw [HNM.out];rintro e w1 ⟨rfl,rfl⟩)|(go_at_call 143;refine (hasValue_any _ B be bt wi k vm vn vl ms ns outs calls HX.out (by omega) n0 true HHAS.out).mono ?_;rintro e w2 ⟨rfl,hb2⟩))
     go_ret
     exact ⟨rfl,HF.out.trans (Fr.of_below hb2),(fun h=>by cases h),(HX.out.below hb2).num⟩
    ·rw [if_neg (by intro h;rcases h with h|h;exact hnm' h;exact hhas h)] at hr
     have HHAS:=hid (show hasN (plainN ns) (L n0)=false by simpa using hhas)
     clear hhas hnm'
     obtain ⟨q,hq⟩:∃q,value 0 (plainN ns) (L x1)=q:=⟨_,rfl⟩
     obtain ⟨z,er⟩:=q
     rw [hq] at hr
     have HQ:=hid hq
     clear hq
     have HRX:=hid hr
     clear hr
     go_enter Tryz.func107,Tryz.ntmps107
     go_wp2_with (first|(go_at_call 78;refine (IsName_any n0 _ (by unfold maxLen;omega)).mono ?_;rw [HNM.out];rintro e w1 ⟨rfl,rfl⟩)|fail)
     refine (hasValue_any _ B be bt wi k vm vn vl ms ns outs calls HX.out (by omega) n0 false HHAS.out).mono ?_
     rintro e w2 ⟨rfl,hb2⟩
     have HX:=hid (HX.out.below hb2)
     have HF:=hid (HF.out.trans (Fr.of_below hb2))
     have HP:=hid (HP.out.below hb2)
     have HB:=hid (HB.out.below hb2)
     have d1:w2.cell? ⟨b,off+1,none⟩=some (.string x1):=by rw [hb2.cell (p:=⟨b,off+1,none⟩) hbl];exact d1
     clear hb2 d0
     obtain ⟨na,nc,hnv,hna⟩:=HX.out.namesAt
     subst hnv
     have y0:=HB.out.cell 0 (by simp)
     have y1:=HB.out.cell 1 (by simp)
     have y2:=HB.out.cell 2 (by simp)
     have c2:w2.cell? ⟨be,2,none⟩=some (.slice na ns.length nc):=HX.out.row.cell 2 (by simp)
     have f2:=HX.out.row.free 2
     have HNA:=hid hna
     clear hna
     go_wp2_with fail
     go_region_with (go_at_call 36;refine (xValue_any x1 0 na nc ns _ z er (by unfold maxLen;omega) (by unfold maxLen;omega) (HNA.out.below ((Below.refl _ _).drew)) HQ.out).mono ?_;rintro e w3 ⟨rfl,hb3⟩)
     all_goals
      have HX3:=hid (HX.out.below (((Below.refl _ _).drew).trans (hb3.mono (Nat.le_refl _))))
      have HF3:=hid ((HF.out.drew).trans (Fr.of_below hb3))
      have HP3:=hid (HP.out.below (((Below.refl _ _).drew).trans (hb3.mono (Nat.le_refl _))))
      have HB3:=hid (HB.out.below (((Below.refl _ _).drew).trans (hb3.mono (Nat.le_refl _))))
      have hlt3:=HX3.out.row.lt
      have hB3:B≤w3.heap.size:=Nat.le_trans hB HF3.out.size
      clear hb3 y0 y1 y2 c2 f2 d1
      have hr:=HRX.out
      by_cases her:er=0
      ·subst her
       rw [if_neg (by simp)] at hr
       have HRY:=hid hr
       have c2:w3.cell? ⟨be,2,none⟩=some (.slice na ns.length nc):=HX3.out.row.cell 2 (by simp)
       have f2:=HX3.out.row.free 2
       have HNO:=hid (show w3.ownsRow B 40 2 (.slice na ns.length nc) ns.length (nameCells ns) from HX3.out.nown)
       have hneb:(Value.slice na ns.length nc).ownBlock≠some be:=own_row_ne HNO.out HX3.out.row (by decide)
       clear hr
       go_wp2_with ((at_builtin;refine wpList_append_lies _ rfl (.tmp 48) (.tmp 52) 31 rfl B 40 i0 _ 2 24 Tryz.underlying31 hi0 hz0 hz1 hz2 rfl (by omega) (.slice na ns.length nc) ns.length (nameCells ns) rfl (HNO.out.alloc _) ⟨w3.heap.size,0,none⟩ 1 1 [.string n0,.int .i64 z] rfl rfl (World.news_of_block (cs:=#[.string n0,.int .i64 z]) (t:=40) (fr:=(0,0)) (heap_alloc_new _ _)) (by simp [Value.oneCell']) (by omega) (by unfold maxLen;omega) (by omega) (by simp;omega) _ rfl ?_;intro gg cap' w4 hown4 hgrow hat hlt4;have hc4:=(hgrow.cell_far ⟨be,2,none⟩ (by simp;omega) (Ne.symm hneb)).trans (((Below.refl w3.heap.size w3).alloc (Nat.le_refl _) (.cells #[.string n0,.int .i64 z] 40)).cell (p:=⟨be,2,none⟩) hlt3 |>.trans c2);have hf4:=(hgrow.frozen_far ⟨be,2,none⟩ (by simp;omega) (Ne.symm hneb)).trans (((Below.refl w3.heap.size w3).alloc (Nat.le_refl _) (.cells #[.string n0,.int .i64 z] 40)).frozen (p:=⟨be,2,none⟩) hlt3 |>.trans f2);have HL:=hid ((HX3.out.below ((Below.refl w3.heap.size w3).alloc (Nat.le_refl _) (.cells #[.string n0,.int .i64 z] 40))).named hgrow hown4);have HB5:=hid ((HB3.out.alloc _).fr HL.out.2 rfl (fun h=>by cases h));have z0:=HB5.out.cell 0 (by simp);have z1:=HB5.out.cell 1 (by simp);have z2:=HB5.out.cell 2 (by simp)))
       have HF5:=hid ((HF3.out.alloc _).trans HL.out.2)
       have hp5:=(HP3.out.below ((Below.refl w3.heap.size w3).alloc (Nat.le_refl _) (.cells #[.string n0,.int .i64 z] 40))).fr HL.out.2
       have hB5:=Nat.le_trans hB HF5.out.size
       have hlv:=leave_any _ B be bt wi k (stOf ms (ns++[(n0,z)]) outs calls) lb op (some ⟨b,off,none⟩) vc os W C ⟨_,_,_,_,_,_,_,HL.out.1,rfl⟩ (by rw [HM2.out];exact hp5) hl (by omega) (by simpa [stOf] using HOK.out) hB5
       rw [HM2.out] at hlv
       refine hlv.mono ?_
       rw [HRY.out]
       rintro e w6 ⟨rfl,hf6,hst6,hnu6⟩
       go_wp2
       go_ret
       exact ⟨rfl,HF5.out.trans hf6,hst6,hnu6⟩
      ·have ke:(er != 0)=true:=by simpa using her
       rw [if_pos her] at hr
       subst hr
       go_wp2
       go_ret
       exact ⟨rfl,HF3.out,fun h=>absurd h her,HX3.out.num⟩
  ·rw [if_pos (Or.inr h2)] at hr
   subst hr
   have k2:((os.length:Int) != 2)=true:=by simp;omega
   go_enter Tryz.func107,Tryz.ntmps107
   go_wp2
   go_ret
   exact ⟨rfl,HF.out,(fun h=>by cases h),HX.out.num⟩
 ·rw [if_pos (Or.inl (fun e=>hlb (t1.1 e)))] at hr
  subst hr
  have kl:=not_empty lb (by omega)
  go_enter Tryz.func107,Tryz.ntmps107
  go_wp2
  go_ret
  exact ⟨rfl,HF.out,(fun h=>by cases h),HX.out.num⟩
end
section
attribute [local go_sem ↓] Go.wp_at_zero Go.wp_at_succ
theorem byteP_nat (z:Int):((byteP z).toNat:Int)=z%256:=by
 unfold byteP
 have h1:0≤z%256:=Int.emod_nonneg _ (by decide)
 have h2:z%256<256:=Int.emod_lt_of_pos _ (by decide)
 rw [UInt8.toNat_ofNat']
 have:(z%256).toNat%2 ^ 8=(z%256).toNat:=Nat.mod_eq_of_lt (by omega)
 rw [this]
 omega
theorem wrap_byte (z:Int):IntKind.u8.wrap z=((byteP z).toNat:Int):=by
 rw [byteP_nat]
 have h1:0≤z%256:=Int.emod_nonneg _ (by decide)
 simp [IntKind.wrap,IntKind.bits,IntKind.signed]
def PutPost (B ba:Nat) (vl vs vn vt:Value) (ls:List LnV) (ss:List StV) (ns ts:List (ByteArray×Int)) (sz:Nat) (bs:List UInt8) (r:Int×List UInt8) (res:Value) (w:World) (e:Ending) (w':World):Prop:=
 e=.returned res∧FrB B [] w w'∧(r.1=0→∃vb',AsmAt w' B ba vl vs vn vt vb' ls ss ns ts sz (bs++r.2))
set_option maxRecDepth 100000 in
set_option maxHeartbeats 1600000 in
theorem putByte_any (w:World) (B ba:Nat) (vl vs vn vt vb:Value) (ls:List LnV) (ss:List StV) (ns ts:List (ByteArray×Int)) (sz:Nat) (bs:List UInt8) (h:AsmAt w B ba vl vs vn vt vb ls ss ns ts sz bs) (hbl:bs.length≤1000000) (z:Int) (hB:B≤w.heap.size) :
  Calls Tryz.prog 82 #[.pointer (some ⟨ba,0,none⟩),.int .i64 z] w (PutPost B ba vl vs vn vt ls ss ns ts sz bs (0,[byteP z]) (.tuple #[]) w):=by
 obtain ⟨i0,hi0,hz0,hz1,hz2⟩:=info_parts info_by
 obtain ⟨a,cap,hv⟩:=own_form h.bown
 subst hv
 have c5:w.cell? ⟨ba,5,none⟩=some (.slice a bs.length cap):=h.row.cell 5 (by simp)
 have f5:=h.row.free 5
 have hlb:=h.row.lt
 have hneb:(Value.slice a bs.length cap).ownBlock≠some ba:=own_row_ne h.bown h.row (by decide)
 obtain ⟨c,hc⟩:∃c,byteP z=c:=⟨_,rfl⟩
 have hw:=wrap_byte z
 rw [hc] at hw ⊢
 have HX:=hid h
 clear h hc
 go_enter Tryz.func82,Tryz.ntmps82
 go_wp2_with ((at_builtin;refine wpList_append_lies _ rfl (.tmp 8) (.tmp 11) 30 rfl B 5 i0 _ 1 1 Tryz.underlying30 hi0 hz0 hz1 hz2 rfl (by omega) (.slice a bs.length cap) bs.length (byCells bs) rfl (HX.out.bown.alloc _) ⟨w.heap.size,0,none⟩ 1 1 [.int .u8 (c.toNat:Nat)] rfl rfl (World.news_of_block (cs:=#[.int .u8 (c.toNat:Nat)]) (t:=5) (fr:=(0,0)) (heap_alloc_new _ _)) (by simp [Value.oneCell']) (by omega) (by unfold maxLen;omega) (by omega) (by simp;omega) _ rfl ?_;intro gg cap' w4 hown4 hgrow hat hlt4;have hc4:=(hgrow.cell_far ⟨ba,5,none⟩ (by simp;omega) (Ne.symm hneb)).trans (((Below.refl w.heap.size w).alloc (Nat.le_refl _) (.cells #[.int .u8 (c.toNat:Nat)] 5)).cell (p:=⟨ba,5,none⟩) hlb |>.trans c5);have hf4:=(hgrow.frozen_far ⟨ba,5,none⟩ (by simp;omega) (Ne.symm hneb)).trans (((Below.refl w.heap.size w).alloc (Nat.le_refl _) (.cells #[.int .u8 (c.toNat:Nat)] 5)).frozen (p:=⟨ba,5,none⟩) hlb |>.trans f5);have HL:=hid ((HX.out.below ((Below.refl w.heap.size w).alloc (Nat.le_refl _) (.cells #[.int .u8 (c.toNat:Nat)] 5))).bytes (more:=[c]) hgrow hown4)))
 refine bodyPost_ret (v:=.tuple #[]) (by simp [results,Tryz.results82]) rfl ?_
 exact ⟨rfl,(FrB.of_below ((Below.refl _ _).alloc (Nat.le_refl _) _)).trans HL.out.2,fun _=>⟨_,HL.out.1⟩⟩
end
section
attribute [local go_sem ↓] Go.wp_at_zero Go.wp_at_succ
def BytPost (r:Int×List UInt8) (w:World) (e:Ending) (w':World):Prop:=
 Below w.heap.size w w'∧∃v,e=.returned (.tuple #[v,.int .i64 r.1])∧w'.ownsRow w.heap.size 5 1 v r.2.length (byCells r.2)
theorem own_fresh {w w':World}{B t:Nat}{cs:List Value}{n:Nat}(hw:w.alloc (.cells cs.toArray t)=w') (hB:B≤w.heap.size) (hn:cs.length=n) (hm:n≤maxLen):w'.ownsRow B t 1 (.slice (some ⟨w.heap.size,0,none⟩) n n) n cs:=by
 subst hw hn
 refine ⟨by simp,Or.inr ⟨w.heap.size,cs.length,cs.toArray,rfl,hB,heap_alloc_new w _,Nat.le_refl _,hm,by simp,by simp⟩⟩
set_option maxRecDepth 100000 in
set_option maxHeartbeats 800000 in
theorem one_any (v:Int) (w:World):Calls Tryz.prog 136 #[.int .i64 v] w (BytPost (numP 1 v) w):=by
 obtain ⟨R,hR⟩:∃R,numP 1 v=R:=⟨_,rfl⟩
 rw [hR]
 unfold numP at hR
 rw [if_pos rfl] at hR
 by_cases h:v < -128∨255<v
 ·rw [if_pos h] at hR
  subst hR
  rcases h with h|h
  ·have k1:decide (v < -128)=true:=decide_eq_true h
   go_enter Tryz.func136,Tryz.ntmps136
   go_wp2_with fail
   go_ret2
   exact ⟨Below.refl _ _,_,rfl,World.ownsRow_nil _ _ _ _⟩
  ·have k1:decide (v < -128)=false:=decide_eq_false (by omega)
   have k2:decide ((255:Int)<v)=true:=decide_eq_true h
   go_enter Tryz.func136,Tryz.ntmps136
   go_wp2_with fail
   go_ret2
   exact ⟨Below.refl _ _,_,rfl,World.ownsRow_nil _ _ _ _⟩
 ·rw [if_neg h] at hR
  subst hR
  have k1:decide (v < -128)=false:=decide_eq_false (by omega)
  have k2:decide ((255:Int)<v)=false:=decide_eq_false (by omega)
  have hwb:=wrap_byte v
  go_enter Tryz.func136,Tryz.ntmps136
  go_wp2_with fail
  go_ret2
  exact ⟨(Below.refl _ _).alloc (Nat.le_refl _) _,_,rfl,own_fresh (cs:=byCells [byteP v]) rfl (Nat.le_refl _) rfl (by unfold maxLen;simp)⟩
set_option maxRecDepth 100000 in
set_option maxHeartbeats 800000 in
theorem two_any (v:Int) (w:World) (hv:-1000000≤v∧v≤1000000):Calls Tryz.prog 135 #[.int .i64 v] w (BytPost (numP 2 v) w):=by
 obtain ⟨R,hR⟩:∃R,numP 2 v=R:=⟨_,rfl⟩
 rw [hR]
 unfold numP at hR
 rw [if_neg (by decide)] at hR
 by_cases h:v < -32768∨65535<v
 ·rw [if_pos h] at hR
  subst hR
  rcases h with h|h
  ·have k1:decide (v < -32768)=true:=decide_eq_true h
   go_enter Tryz.func135,Tryz.ntmps135
   go_wp2_with fail
   go_ret2
   exact ⟨Below.refl _ _,_,rfl,World.ownsRow_nil _ _ _ _⟩
  ·have k1:decide (v < -32768)=false:=decide_eq_false (by omega)
   have k2:decide ((65535:Int)<v)=true:=decide_eq_true h
   go_enter Tryz.func135,Tryz.ntmps135
   go_wp2_with fail
   go_ret2
   exact ⟨Below.refl _ _,_,rfl,World.ownsRow_nil _ _ _ _⟩
 ·rw [if_neg h] at hR
  subst hR
  have k1:decide (v < -32768)=false:=decide_eq_false (by omega)
  have k2:decide ((65535:Int)<v)=false:=decide_eq_false (by omega)
  have hwb:=wrap_byte v
  have hwc:=wrap_byte (v / 256)
  have hsh:v >>> 8=v / 256:=by rw [Int.shiftRight_eq_div_pow];rfl
  go_enter Tryz.func135,Tryz.ntmps135
  go_wp2_with fail
  go_ret2
  exact ⟨(Below.refl _ _).alloc (Nat.le_refl _) _,_,rfl,own_fresh (cs:=byCells [byteP v,byteP (v / 256)]) rfl (Nat.le_refl _) rfl (by unfold maxLen;simp)⟩
end
section
attribute [local go_sem ↓] Go.wp_at_zero Go.wp_at_succ
def gOf:Option Addr→List Nat
 |some a=>[a.block]
 |none=>[]
def laidV:List SpV→Nat→List SpV
 |[],_=>[]
 |x::r,a=>{ x with at_:=a }::laidV r (a+sizeR { x with at_:=a:SpV }.p)
theorem laidV_p:∀(xs:List SpV) (a:Nat),(laidV xs a).map SpV.p=laidR (xs.map SpV.p) a
 |[],_=>rfl
 |x::r,a=>by
  have h:({ x with at_:=a:SpV }).p={ x.p with at_:=a }:=rfl
  simp only [laidV,List.map_cons,laidR,h,laidV_p r]
theorem laidV_length:∀(xs:List SpV) (a:Nat),(laidV xs a).length=xs.length
 |[],_=>rfl
 |x::r,a=>by simp [laidV,laidV_length r]
theorem sizeR_le {x:SpV}(h:SpOk x):sizeR x.p≤1000:=by
 have h1:=h.few
 have h2:=h.fix
 have h3:(x.fix-x.at_%x.fix)%x.fix≤x.fix:=by
  rcases Nat.eq_zero_or_pos x.fix with q|q
  ·rw [q];simp
  ·exact Nat.le_of_lt (Nat.mod_lt _ q)
 unfold sizeR SpV.p
 simp only [List.length_map]
 split
 ·omega
 ·split
  ·omega
  ·split
   ·omega
   ·split
    ·split<;>omega
    ·split
     ·omega
     ·split
      ·omega
      ·split
       ·omega
       ·split<;>omega
theorem SpOk.put {x:SpV}(h:SpOk x) {a:Nat}(ha:a≤1000000):SpOk { x with at_:=a }:=⟨h.lb,h.op,h.ops,h.few,ha,h.fix,h.set,h.al⟩
theorem laidV_ok:∀(xs:List SpV) (a:Nat),(∀x∈xs,SpOk x)→a+1000*xs.length≤1000000→∀x∈laidV xs a,SpOk x
 |[],_,_,_,x,hx=>by cases hx
 |y::r,a,h,ha,x,hx=>by
  simp only [List.length_cons] at ha
  have hy:=(h y (by simp)).put (a:=a) (by omega)
  rcases List.mem_cons.1 hx with rfl|hx
  ·exact hy
  ·have:=sizeR_le hy
   exact laidV_ok r _ (fun z hz=>h z (by simp [hz])) (by omega) x hx
def LaiPost (B:Nat) (sa:Option Addr) (cs:Nat) (xs:List SpV) (w:World) (e:Ending) (w':World):Prop:=
 e=.returned (.int .i64 (endR (xs.map SpV.p) 0:Nat))∧StepsAt w' B (.slice sa xs.length cs) (laidV xs 0)∧Keeps (gOf sa) w w'
set_option maxRecDepth 100000 in
set_option maxHeartbeats 1600000 in
theorem laid_any (w:World) (B:Nat) (sa:Option Addr) (cs:Nat) (xs:List SpV) (h:StepsAt w B (.slice sa xs.length cs) xs) (hl:xs.length≤300) (hok:∀x∈xs,SpOk x) :
  Calls Tryz.prog 65 #[.slice sa xs.length cs] w (LaiPost B sa cs xs w):=by
 obtain ⟨R,hR⟩:∃R,laidV xs 0=R:=⟨_,rfl⟩
 obtain ⟨N,hN⟩:∃N,endR (xs.map SpV.p) 0=N:=⟨_,rfl⟩
 unfold LaiPost
 rw [hR,hN]
 obtain ⟨POST,hPOST⟩:∃POST:Ending→World→Prop,POST=fun e w'=>e=.returned (.int .i64 (N:Nat))∧StepsAt w' B (.slice sa xs.length cs) R∧Keeps (gOf sa) w w':=⟨_,rfl⟩
 have HPOST:=hid hPOST
 show Calls _ _ _ _ (fun e w'=>e=.returned (.int .i64 (N:Nat))∧StepsAt w' B (.slice sa xs.length cs) R∧Keeps (gOf sa) w w')
 rw [←hPOST]
 have HX:=hid h
 have HR:=hid hR
 have HN:=hid hN
 have HOK:=hid hok
 clear h hR hN hok hPOST
 go_enter Tryz.func65,Tryz.ntmps65
 go_wp2_with fail
 go_loopw [3,4] (fun av i wr=>∃(j a:Nat) (done:List SpV),j≤xs.length∧i=.int .i64 j∧av=.int .i64 a∧done.length=j∧R=done++laidV (xs.drop j) a∧N=endR ((xs.drop j).map SpV.p) a∧a≤1000*j∧StepsAt wr B (.slice sa xs.length cs) (done++xs.drop j)∧Keeps (gOf sa) w wr) (fun _ i _=>xs.length-(intOf i).toNat)
 case atStart=>exact ⟨0,0,[],Nat.zero_le _,rfl,rfl,rfl,by simpa using HR.out.symm,by simpa using HN.out.symm,Nat.le_refl _,by simpa using HX.out,Keeps.refl _ _⟩
 case round =>
  obtain ⟨j,a,done,hj,rfl,rfl,hdl,h1,h2,ha,hxr,hk⟩:=hrel
  have H1:=hid h1
  have H2:=hid h2
  have HK:=hid hk
  have HDL:=hid hdl
  have hdl1:done.length≤j:=Nat.le_of_eq hdl
  have hdl2:j≤done.length:=Nat.le_of_eq hdl.symm
  have HXR:=hid hxr
  clear h1 h2 hk hxr hdl
  by_cases hlt:j<xs.length
  ·have dn:decide ((j:Int)<(xs.length:Int))=true:=decide_eq_true (by omega)
   have hll:(done++xs.drop j).length=xs.length:=by rw [List.length_append,List.length_drop];omega
   obtain ⟨x,hx⟩:∃x,xs[j]=x:=⟨_,rfl⟩
   have hdr:xs.drop j=x::xs.drop (j+1):=by rw [List.drop_eq_getElem_cons hlt,hx]
   have hxo:=HOK.out xs[j] (List.getElem_mem hlt)
   rw [hx] at hxo
   obtain ⟨cur,hcur⟩:∃cur,done++xs.drop j=cur:=⟨_,rfl⟩
   rw [hcur] at HXR hll
   have hjc:j<cur.length:=by omega
   have hcj:cur[j]=x:=by
    have e7:cur[j]?=some x:=by
     rw [←hcur,List.getElem?_append_right (by omega),HDL.out,Nat.sub_self,hdr]
     rfl
    rw [List.getElem?_eq_getElem hjc] at e7
    exact Option.some.inj e7
   have hcs:cur.set j { cur[j] with at_:=a }=(done++[{ x with at_:=a }])++xs.drop (j+1):=by
    rw [hcj,←hcur,List.set_append_right _ _ (by omega),show j-done.length=0 by omega,hdr]
    simp only [List.set_cons_zero,List.append_assoc,List.cons_append,List.nil_append]
   obtain ⟨g,cs2,hv1,_,hgl⟩:=HXR.out.own.form (by omega)
   rw [hll] at hv1
   simp only [Value.slice.injEq,true_and] at hv1
   obtain ⟨rfl,rfl⟩:=hv1
   have hxc:StepsAt wr B (.slice (some ⟨g,0,none⟩) cur.length cs) cur:=by rw [hll];exact HXR.out
   have hx2:=hxc.put j hjc a
   rw [hll,hcs] at hx2
   have HX2:=hid hx2
   have HK2:=hid (HK.out.trans ((Keeps.refl (gOf (some ⟨g,0,none⟩)) wr).setCell (p:=⟨g,j*7+4,none⟩) (by simp [gOf]) (.int .i64 (a:Nat))))
   have hcl:((done++[{ x with at_:=a }])++xs.drop (j+1)).length=xs.length:=by rw [←hcs,List.length_set,hll]
   have hj2:j<((done++[{ x with at_:=a }])++xs.drop (j+1)).length:=by omega
   have hc2:((done++[{ x with at_:=a }])++xs.drop (j+1))[j]={ x with at_:=a }:=by
    rw [List.getElem_append_left (by simp;omega),List.getElem_append_right (by omega)]
    simp [show j-done.length=0 by omega]
   have c4:wr.cell? ⟨g,j*7+4,none⟩=some (.int .i64 (x.at_:Nat)):=hxc.at_ hjc 4 _ (by rw [hcj];rfl)
   have f4:wr.frozen? ⟨g,j*7+4,none⟩=false:=own_free hxc.own
   have i1:(0:Int)≤(j:Int):=Int.natCast_nonneg _
   have i2:(j:Int)<(xs.length:Int):=by omega
   have HDR:=hid hdr
   have HC2:=hid hc2
   have HXO:=hid (hxo.put (a:=a) (by omega))
   have hzs:=sizeR_le (hxo.put (a:=a) (by omega))
   clear hxc hx2 hcs hcj hcur hll hx hdr hcl hc2 hxo
   go_upto_region 6 with fail
   generalize wr.setCell ⟨g,j*7+4,none⟩ (.int .i64 (a:Nat))=w2 at *
   have hat:∀k v,(spOne { x with at_:=a })[k]?=some v→w2.cell? ⟨g,j*7+k,none⟩=some v:=fun k v hk=>HX2.out.at_ hj2 k v (by rw [HC2.out];exact hk)
   have d0:w2.cell? ⟨g,j*7,none⟩=some (.string x.lb):=hat 0 _ rfl
   have d1:w2.cell? ⟨g,j*7+1,none⟩=some (.string x.op):=hat 1 _ rfl
   have d2:w2.cell? ⟨g,j*7+2,none⟩=some x.v:=hat 2 _ rfl
   have d3:w2.cell? ⟨g,j*7+3,none⟩=some (.int .i64 (x.frm:Nat)):=hat 3 _ rfl
   have d4:w2.cell? ⟨g,j*7+4,none⟩=some (.int .i64 (a:Nat)):=hat 4 _ rfl
   have d5:w2.cell? ⟨g,j*7+5,none⟩=some (.int .i64 (x.fix:Nat)):=hat 5 _ rfl
   have d6:w2.cell? ⟨g,j*7+6,none⟩=some (.bool x.long):=hat 6 _ rfl
   obtain ⟨oa,oc,hov⟩:=(HX2.out.strs { x with at_:=a } (by simp)).form
   simp only at hov
   clear c4 f4 hat
   have hs:=sizeS_any { x with at_:=a } w2 oa oc hov HXO.out
   simp only [spV] at hs
   have HS:=hid hs
   clear hs
   have HZ:=hid (show R=(done++[{ x with at_:=a }])++laidV (xs.drop (j+1)) (a+sizeR { x with at_:=a:SpV }.p)∧N=endR ((xs.drop (j+1)).map SpV.p) (a+sizeR { x with at_:=a:SpV }.p) by
    rw [H1.out,H2.out,HDR.out]
    simp only [laidV,List.append_assoc,List.cons_append,List.nil_append,List.map_cons,endR]
    exact ⟨trivial,rfl⟩)
   generalize sizeR { x with at_:=a:SpV }.p=z at *
   clear hov
   go_wp2_with fail
   refine HS.out.mono ?_
   rintro e w3 ⟨rfl,hb3⟩
   have HX3:=hid (HX2.out.below hb3)
   have HK3:=hid (HK2.out.trans (Keeps.of_below hb3))
   clear hb3 d0 d1 d2 d3 d4 d5 d6
   go_wp2_with fail
   go_roundw
   case rel=>exact ⟨j+1,a+z,done++[{ x with at_:=a }],by omega,by go_num,by go_num,by rw [List.length_append,HDL.out];rfl,HZ.out.1,HZ.out.2,by omega,HX3.out,HK3.out⟩
   case measure=>simp [intOf];omega
  ·have dn:decide ((j:Int)<(xs.length:Int))=false:=decide_eq_false (by omega)
   have hdn:xs.drop j=[]:=List.drop_of_length_le (by omega)
   have h1:=H1.out
   have h2:=H2.out
   have hxx:=HXR.out
   rw [hdn] at h1 h2 hxx
   simp only [laidV,List.append_nil,List.map_nil,endR] at h1 h2 hxx
   rw [←h1] at hxx
   have HXX:=hid hxx
   have HN2:=hid h2
   clear h1 h2 hxx hdn
   go_wp2_with fail
   rw [HPOST.out]
   exact ⟨by rw [HN2.out];rfl,HXX.out,HK.out⟩
end
section
attribute [local go_sem ↓] Go.wp_at_zero Go.wp_at_succ
theorem jumpS_bel (x:SpV) (w:World):Calls Tryz.prog 99 #[.agg #[.string x.lb,.string x.op,x.v,.int .i64 (x.frm:Nat),.int .i64 (x.at_:Nat),.int .i64 (x.fix:Nat),.bool x.long]] w fun e w'=>e=.returned (.int .i64 (jumpR x.p))∧Below w.heap.size w w':=jumpS_any x w
theorem refValue_bel (s:ByteArray) (at_:Int) (a:Option Addr) (cap:Nat) (ns:List (ByteArray×Int)) (w:World) (v er:Int) (hs:s.size≤140737488351232) (hl:ns.length≤maxLen) (hn:NamesAt w a ns) (hv:value at_ (plainN ns) (L s)=(v,er)) :
  Calls Tryz.prog 24 #[.string s,.int .i64 at_,.slice a ns.length cap] w fun e w'=>e=.returned (.tuple #[.int .i64 v,.int .i64 er])∧Below w.heap.size w w':=
 (refValue_any s at_ a cap ns w v er hs hl hn hv).mono fun _ _ ⟨h1,h2⟩=>⟨h1,by rw [h2];exact Below.refl _ _⟩
def FarPost (v er:Int) (at_:Nat) (w:World) (e:Ending) (w':World):Prop:=e=.returned (.tuple #[.int .i64 (v-at_-2),.bool (er==0)])∧Below w.heap.size w w'
set_option maxRecDepth 100000 in
set_option maxHeartbeats 1600000 in
theorem far_any (x:SpV) (w:World) (hst:StrV w 0 x.v x.os) (hx:SpOk x) (hj:0≤jumpR x.p) (hjl:(jumpR x.p).toNat<x.os.length) (na:Option Addr) (nc:Nat) (ns:List (ByteArray×Int)) (hnl:ns.length≤1000) (hna:NamesAt w na ns) (v er:Int) (hv:value x.at_ (plainN ns) (toR x.p)=(v,er)) (hvb:-1000000≤v∧v≤1000000) :
  Calls Tryz.prog 100 #[spV x,.slice na ns.length nc] w (FarPost v er x.at_ w):=by
 have hat:=hx.at_
 obtain ⟨J,hJ⟩:∃J:Nat,(jumpR x.p).toNat=J:=⟨_,rfl⟩
 have hJi:jumpR x.p=(J:Int):=by omega
 rw [hJ] at hjl
 obtain ⟨b,off,cap,hov,hbl,hc⟩:=hst.cell J hjl
 have hto:toR x.p=L x.os[J]:=by
  unfold toR
  rw [hJ]
  show (x.os.map L).getD J []=_
  simp [List.getD,hjl]
 rw [hto] at hv
 have hsz:=hx.ops J hjl
 have HJB:=hid (fun w=>jumpS_bel x w)
 obtain ⟨lb,op,v0,os,frm,at_,fix,long⟩:=x
 simp only [spV] at *
 subst hov
 have hjl:J<os.length:=hjl
 have hb0:Below w.heap.size w (w.alloc (.cells #[.string lb,.string op,.slice (some ⟨b,off,none⟩) os.length cap,.int .i64 (frm:Nat),.int .i64 (at_:Nat),.int .i64 (fix:Nat),.bool long] 138)):=(Below.refl _ _).alloc (Nat.le_refl _) _
 have HROW:=hid (show RowT (w.alloc (.cells #[.string lb,.string op,.slice (some ⟨b,off,none⟩) os.length cap,.int .i64 (frm:Nat),.int .i64 (at_:Nat),.int .i64 (fix:Nat),.bool long] 138)) 138 w.heap.size [.string lb,.string op,.slice (some ⟨b,off,none⟩) os.length cap,.int .i64 (frm:Nat),.int .i64 (at_:Nat),.int .i64 (fix:Nat),.bool long] from RowT.new w 138 [.string lb,.string op,.slice (some ⟨b,off,none⟩) os.length cap,.int .i64 (frm:Nat),.int .i64 (at_:Nat),.int .i64 (fix:Nat),.bool long])
 have HB0:=hid hb0
 have HNA:=hid (hna.below hb0)
 have HV:=hid hv
 have HJI:=hid hJi
 have hc1:=(hb0.cell (p:=⟨b,off+J,none⟩) hbl).trans hc
 generalize os[J]=o at *
 unfold FarPost
 clear hb0 hna hv hJi hst hc hto hJ hj hx
 go_enter Tryz.func100,Tryz.ntmps100
 go_upto_region 1 with fail
 generalize w.alloc (.cells #[.string lb,.string op,.slice (some ⟨b,off,none⟩) os.length cap,.int .i64 (frm:Nat),.int .i64 (at_:Nat),.int .i64 (fix:Nat),.bool long] 138)=w1 at *
 generalize hgw:w.heap.size=gw at *
 have HGW:=hid hgw
 clear hgw
 have i1:(0:Int)≤(J:Int):=Int.natCast_nonneg _
 have i2:(J:Int)<(os.length:Int):=by omega
 have u0:∀u:BelW w1,u.1.cell? ⟨gw,0,none⟩=some (.string lb):=fun u=>(HROW.out.below u.2).cell 0 (by simp)
 have u1:∀u:BelW w1,u.1.cell? ⟨gw,1,none⟩=some (.string op):=fun u=>(HROW.out.below u.2).cell 1 (by simp)
 have u2:∀u:BelW w1,u.1.cell? ⟨gw,2,none⟩=some (.slice (some ⟨b,off,none⟩) os.length cap):=fun u=>(HROW.out.below u.2).cell 2 (by simp)
 have u3:∀u:BelW w1,u.1.cell? ⟨gw,3,none⟩=some (.int .i64 (frm:Nat)):=fun u=>(HROW.out.below u.2).cell 3 (by simp)
 have u4:∀u:BelW w1,u.1.cell? ⟨gw,4,none⟩=some (.int .i64 (at_:Nat)):=fun u=>(HROW.out.below u.2).cell 4 (by simp)
 have u5:∀u:BelW w1,u.1.cell? ⟨gw,5,none⟩=some (.int .i64 (fix:Nat)):=fun u=>(HROW.out.below u.2).cell 5 (by simp)
 have u6:∀u:BelW w1,u.1.cell? ⟨gw,6,none⟩=some (.bool long):=fun u=>(HROW.out.below u.2).cell 6 (by simp)
 have u7:∀u:BelW w1,u.1.cell? ⟨b,off+J,none⟩=some (.string o):=fun u=>(u.2.cell (p:=⟨b,off+J,none⟩) (World.block_lt_of_cell? _ _ hc1)).trans hc1
 have inh:Nonempty (BelW w1):=⟨⟨w1,Below.refl _ _⟩⟩
 refine wp_region_bel (by kernel_rfl) (by kernel_rfl) ?_
 repeat (go_big_quiet_step (first|(go_at_call 99;refine (Calls.bel (HJB.out _)).mono ?_;rw [HJI.out];exact fun _ _ h=>h)|(go_at_call 24;exact Calls.bel (refValue_bel o at_ na nc ns _ v er (by omega) (by unfold maxLen;omega) (HNA.out.below (Subtype.property _)) HV.out))))
 refine wpQuiet_nil ?_
 intro w7 hw'
 obtain ⟨uq,hw''⟩:=hw'
 have hb7:Below w1.heap.size w1 w7:=by rw [hw''];exact uq.2
 have HB7:=hid (HB0.out.trans (hb7.mono (by have:=HB0.out.size;rw [HGW.out] at this;exact this)))
 have d4:w7.cell? ⟨gw,4,none⟩=some (.int .i64 (at_:Nat)):=(HROW.out.below hb7).cell 4 (by simp)
 clear hw'' uq u0 u1 u2 u3 u4 u5 u6 u7 inh hb7
 go_wp2_with fail
 go_ret2
 exact ⟨rfl,by rw [HGW.out];exact HB7.out⟩
end
section
attribute [local go_sem ↓] Go.wp_at_zero Go.wp_at_succ
def BkPost (B b r:Nat) (lv fv mv pv dv vo:Value) (p:Option Addr) (at_:Nat) (x:Int×List OpenP) (st:StP) (w:World) (e:Ending) (w':World):Prop:=
 e=.returned (.tuple #[])∧Fq B (bkM b vo) w w'∧(x.1=0→(∃vo',BkAt w' B b lv fv mv pv dv vo' (.pointer p) x.2∧∀g,vo'.ownBlock=some g→vo.ownBlock=some g∨w.heap.size≤g)∧RdSt w' B r st)∧(x.1≠0→RdErr w' r x.1 at_∧BkRow w' b lv fv mv pv dv)
theorem BkAt.push {w w4:World}{B b:Nat}{lv fv mv pv dv vo xd:Value}{opens:List OpenP}(h:BkAt w B b lv fv mv pv dv vo xd opens) (h8:opens.length<8) (hg:w.grownBy w4 vo.ownBlock) {gg cap:Nat}{o:OpenP}
  (ho:w4.ownsRow B 190 3 (.slice (some ⟨gg,0,none⟩) (opens.length+1) cap) (opens.length+1) (openCells opens++[.bool o.yes,.bool o.els,.bool o.over])) :
  BkAt (w4.setCell ⟨b,5,none⟩ (.slice (some ⟨gg,0,none⟩) (opens.length+1) cap)) B b lv fv mv pv dv (.slice (some ⟨gg,0,none⟩) (opens.length+1) cap) xd (o::opens) ∧
  Fc B (bkM b vo) w (w4.setCell ⟨b,5,none⟩ (.slice (some ⟨gg,0,none⟩) (opens.length+1) cap)):=by
 have hne:vo.ownBlock≠some b:=own_row_ne h.own h.row (by decide)
 have hr4:RowT w4 130 b [lv,fv,mv,pv,dv,vo,xd]:=RowT.grown' h.row hg (Ne.symm hne)
 have hgne:(Value.slice (some ⟨gg,0,none⟩) (opens.length+1) cap).ownBlock≠some b:=own_row_ne ho hr4 (by decide)
 refine ⟨⟨hr4.set 5 _,?_,by simp;omega,h.at_⟩,?_⟩
 ·rw [List.length_cons]
  exact ownsRow_setCell_other ho (a:=⟨b,5,none⟩) hgne _
 ·refine ((FrQ.refl noT r1 B (bkM b vo) w).grown hg (own_mayQ h.own fun g hg=>Or.inr ⟨rfl,?_⟩)).setCell (p:=⟨b,5,none⟩) (hr4.mayQ h.at_ (Or.inr ⟨rfl,by simp [bkM]⟩)) _
  unfold bkM
  rw [hg];simp
theorem FrQ.wide {E R:TypeId→Bool}{B:Nat}{M:List Nat}{w w':World}(h:FrQ E R B [] w w'):FrQ E R B M w w':=h.mono (fun _ h=>by cases h)
theorem bk_bad {w w1:World}{B b r:Nat}{lv fv mv pv dv vo vm vn vl:Value}{p:Option Addr}{opens y:List OpenP}{at_ calls:Nat}{st:StP}{ms:List MacQ}{ns:List (ByteArray×Int)}{outs:List (ByteArray×Nat)}{er:Int}(hx:RdAt w1 B r vm vn vl ms ns outs calls) (hk:BkAt w1 B b lv fv mv pv dv vo (.pointer p) opens) (hf:Fq B (bkM b vo) w w1) (h0:er≠0) :
  BkPost B b r lv fv mv pv dv vo p at_ (er,y) st w (.returned (.tuple #[])) ((w1.setCell ⟨r,4,none⟩ (.int .i64 er)).setCell ⟨r,5,none⟩ (.int .i64 (at_:Nat))):=by
 obtain ⟨p1,p2⟩:=bad_post (er:=er) (at_:=at_) hx.row hx.at_
 exact ⟨rfl,hf.trans p1.wide,fun c=>absurd c h0,fun _=>⟨p2,(hk.fq p1 (by simp) (fun _ _=>by simp)).toRow⟩⟩
theorem bk_push {w w1 w2 w4:World}{B b r:Nat}{lv fv mv pv dv vo vm vn vl:Value}{p:Option Addr}{opens:List OpenP}{at_ calls:Nat}{ms:List MacQ}{ns:List (ByteArray×Int)}{outs:List (ByteArray×Nat)}(hx:RdAt w1 B r vm vn vl ms ns outs calls) (hk:BkAt w1 B b lv fv mv pv dv vo (.pointer p) opens) (hf:Fq B (bkM b vo) w w1) (h8:opens.length<8)
  (hb:Below w1.heap.size w1 w2) (hg:w2.grownBy w4 vo.ownBlock) {gg cap:Nat} {o:OpenP} (hat:vo.ownBlock=some gg∨gg=w2.heap.size)
  (ho:w4.ownsRow B 190 3 (.slice (some ⟨gg,0,none⟩) (opens.length+1) cap) (opens.length+1) (openCells opens++[.bool o.yes,.bool o.els,.bool o.over])) :
  BkPost B b r lv fv mv pv dv vo p at_ (0,o::opens) (stQ ms ns outs calls) w (.returned (.tuple #[])) (w4.setCell ⟨b,5,none⟩ (.slice (some ⟨gg,0,none⟩) (opens.length+1) cap)):=by
 obtain ⟨q1,q2⟩:=(hk.below hb).push h8 hg ho
 have hf2:Fq B (bkM b vo) w w2:=hf.trans (Fq.of_below hb)
 refine ⟨rfl,hf2.trans q2.to,fun _=>⟨⟨_,q1,?_⟩,vm,vn,vl,ms,ns,outs,calls,(hx.below hb).fc q2,rfl⟩,fun c=>absurd rfl c⟩
 intro g hgg
 have hg':gg=g:=by simpa [Value.ownBlock] using hgg
 subst hg'
 rcases hat with h1|h1
 ·exact Or.inl h1
 ·right
  rw [h1]
  exact hf2.size
set_option maxRecDepth 100000 in
set_option maxHeartbeats 1600000 in
theorem begins_any (w:World) (B b r:Nat) (lv fv mv pv dv vo:Value) (p:Option Addr) (opens:List OpenP) (at_:Nat) (st:StP) (lb op:ByteArray) (va:Option Addr) (vc:Nat) (os:List ByteArray) (W:WordsP) (C:Nat)
  (h:BkAt w B b lv fv mv pv dv vo (.pointer p) opens) (hx:RdSt w B r st) (hp:PartsV w C lb op (.slice va os.length vc) os W) (hsz:∀i (hi:i<os.length),os[i].size≤1000) (hnl:st.names.length≤1000) (hB:B≤w.heap.size) :
  Calls Tryz.prog 128 #[.pointer (some ⟨b,0,none⟩),.pointer (some ⟨r,0,none⟩),.agg #[.string lb,.string op,.slice va os.length vc],.int .i64 (at_:Nat)] w (BkPost B b r lv fv mv pv dv vo p at_ (ifP W opens st) st w):=by
 obtain ⟨vm,vn,vl,ms,ns,outs,calls,hx,hst⟩:=hx
 obtain ⟨i0,hi0,hz0,hz1,hz2⟩:=info_parts info_open
 obtain ⟨x,hxr⟩:∃x,ifP W opens st=x:=⟨_,rfl⟩
 rw [hxr]
 have HXR:=hid hxr
 have hnl:ns.length≤1000:=by rw [hst] at hnl;simpa [stQ,plainN] using hnl
 obtain ⟨an,cn,hvn,hna⟩:=hx.namesAt
 subst hvn
 obtain ⟨t1,t2,t3⟩:=hp.two
 have HST:=hid hst
 have hb0:Below w.heap.size w (w.alloc (.cells #[.string lb,.string op,.slice va os.length vc] 134)):=(Below.refl _ _).alloc (Nat.le_refl _) _
 have HX:=hid (hx.below hb0)
 have HBK:=hid (h.below hb0)
 have HP:=hid (hp.below hb0)
 have HNA:=hid (hna.below hb0)
 have HF:=hid (show Fq B (bkM b vo) w (w.alloc (.cells #[.string lb,.string op,.slice va os.length vc] 134)) from Fq.of_below hb0)
 have HBX:=hid (RowT.new w 134 [.string lb,.string op,.slice va os.length vc])
 have HSZ:=hid hsz
 have HT3:=hid t3
 clear hx h hp hna hb0 hsz t3 hst
 go_enter Tryz.func128,Tryz.ntmps128
 go_upto_region 1 with fail
 have hB1:B≤(w.alloc (.cells #[.string lb,.string op,.slice va os.length vc] 134)).heap.size:=Nat.le_trans hB HF.out.size
 have HBX:=hid (show RowT (w.alloc (.cells #[.string lb,.string op,.slice va os.length vc] 134)) 134 w.heap.size [.string lb,.string op,.slice va os.length vc] from HBX.out)
 have HSIZE:=hid (show w.heap.size≤(w.alloc (.cells #[.string lb,.string op,.slice va os.length vc] 134)).heap.size from HF.out.size)
 generalize w.alloc (.cells #[.string lb,.string op,.slice va os.length vc] 134)=w1 at HX HBK HP HNA HF HBX hB1 HSIZE ⊢
 obtain ⟨bx,hbx⟩:∃bx,w.heap.size=bx:=⟨_,rfl⟩
 rw [hbx] at HBX HSIZE ⊢
 clear hbx
 have y0:=HBX.out.cell 0 (by simp)
 have y2:=HBX.out.cell 2 (by simp)
 have c5:w1.cell? ⟨b,5,none⟩=some vo:=HBK.out.row.cell 5 (by simp)
 have f5:=HBK.out.row.free 5
 have hltb:=HBK.out.row.lt
 have n1:w1.cell? ⟨r,1,none⟩=some (.slice an ns.length cn):=HX.out.row.cell 1 (by simp)
 have hneb:vo.ownBlock≠some b:=own_row_ne HBK.out.own HBK.out.row (by decide)
 have HOWN:=hid HBK.out.own
 obtain ⟨a5,k5,hv5⟩:=own_form HBK.out.own
 have hxr:=HXR.out
 unfold ifP at hxr
 rw [t2] at hxr
 by_cases h8:8≤opens.length
 ·rw [if_pos h8] at hxr
  have d8:decide ((8:Int)≤opens.length)=true:=by simp;omega
  subst hv5
  clear HXR
  go_wp2_with (first|(go_at_call 60;refine (bad_any _ r _ _ _ _ _ 2 at_ HX.out.row).mono ?_;rintro e w2 ⟨rfl,rfl⟩))
  go_end0
  rw [←hxr]
  exact bk_bad HX.out HBK.out HF.out (by decide)
 ·rw [if_neg h8] at hxr
  have d8:decide ((8:Int)≤opens.length)=false:=by simp;omega
  have h8':opens.length<8:=by omega
  have hov:=over_any w1 B b lv fv mv pv dv vo _ opens HBK.out
  subst hv5
  obtain ⟨ov,hove⟩:∃ov,overP opens=ov:=⟨_,rfl⟩
  rw [hove] at hov hxr
  have HOV:=hid hov
  have HXR:=hid hxr
  clear hov hove hxr
  obtain ⟨n,hn'⟩:∃n,opens.length=n:=⟨_,rfl⟩
  have HN:=hid hn'
  rw [hn'] at d8 h8' c5 hneb
  have hown:=HOWN.out
  rw [hn'] at hown
  have HOWN:=hid hown
  rw [hn']
  clear hown hn' h8
  cases ov with
  |true =>
   have hxr:=HXR.out
   rw [if_pos rfl] at hxr
   have HXR:=hid hxr
   clear hxr
   go_wp2_with (first|(go_at_call 89;refine HOV.out.mono ?_;rintro e w2 ⟨rfl,hw2⟩;obtain rfl:=hw2.symm)|(at_builtin;refine wpList_append_lies _ rfl (.tmp 27) (.tmp 29) 128 rfl B 190 i0 _ 3 3 Tryz.underlying128 hi0 hz0 hz1 hz2 rfl (by omega) (.slice a5 n k5) n (openCells opens) rfl (HOWN.out.alloc _) ⟨_,0,none⟩ 1 1 [.bool false,.bool false,.bool true] rfl rfl (World.news_of_block (cs:=#[.bool false,.bool false,.bool true]) (t:=190) (fr:=(0,0)) (heap_alloc_new _ _)) (by simp [Value.oneCell']) (by omega) (by unfold maxLen;omega) (by omega) (by simp;omega) _ rfl ?_;intro gg cap' w4 hown4 hgrow hat hlt4;have hc4:=(hgrow.cell_far ⟨b,5,none⟩ (by simp;omega) (Ne.symm hneb)).trans (((Below.refl w1.heap.size w1).alloc (Nat.le_refl _) (.cells #[.bool false,.bool false,.bool true] 190)).cell (p:=⟨b,5,none⟩) hltb |>.trans c5);have hf4:=(hgrow.frozen_far ⟨b,5,none⟩ (by simp;omega) (Ne.symm hneb)).trans (((Below.refl w1.heap.size w1).alloc (Nat.le_refl _) (.cells #[.bool false,.bool false,.bool true] 190)).frozen (p:=⟨b,5,none⟩) hltb |>.trans f5)))
   go_end0
   rw [←HXR.out,HST.out]
   obtain rfl:=HN.out
   exact bk_push (o:=⟨false,false,true⟩) HX.out HBK.out HF.out h8' ((Below.refl _ _).alloc (Nat.le_refl _) _) hgrow hat hown4
  |false =>
   have hxr:=HXR.out
   rw [if_neg (by simp)] at hxr
   by_cases hlb:lb.size=0
   ·rw [t1.2 hlb] at hxr
    have kl:=is_empty lb hlb
    by_cases h1:os.length=1
    ·rw [if_neg (by simp [h1])] at hxr
     have hpos0:0<os.length:=by omega
     obtain ⟨x0,hx0⟩:∃x0,os[0]=x0:=⟨_,rfl⟩
     have e0:W.operands.headD []=L x0:=by rw [headD_get,←hx0];exact HT3.out 0 hpos0
     rw [e0] at hxr
     have hs0:x0.size≤1000:=by rw [←hx0];exact HSZ.out 0 hpos0
     obtain ⟨bo,off,cap,hv,hbl,d0⟩:=HP.out.at_.cell 0 hpos0
     injection hv with hv1 _ hv2
     subst hv1 hv2
     rw [Nat.add_zero,hx0] at d0
     have k1:((os.length:Int) != 1)=false:=by simp;omega
     have i1:(0:Int)<(os.length:Int):=by omega
     obtain ⟨v,er,hv⟩:∃v er,value 0 (plainN ns) (L x0)=(v,er):=⟨_,_,rfl⟩
     rw [HST.out,show (stQ ms ns outs calls).names=plainN ns from rfl,hv] at hxr
     have HV:=hid (fun (wx:World) (k:Nat) (hw:NamesAt (wx.drewN k) an ns)=>Calls.quiet_of_same (w:=wx) (n:=k) (refValue_any x0 0 an cn ns _ v er (by omega) (by unfold maxLen;omega) hw hv))
     have HXR:=hid hxr
     clear hxr hv e0 hx0 h1 hlb
     go_upto_region 8 with (first|(go_at_call 89;refine HOV.out.mono ?_;rintro e w2 ⟨rfl,hw2⟩;obtain rfl:=hw2.symm))
     go_big_quiet ((with_reducible exact HV.out _ _ (HNA.out.below (below_drewN (Below.refl _ _) _))))
     have hbq:Below w1.heap.size w1 (w1.drewN nq):=below_drewN (Below.refl _ _) _
     have HX:=hid (HX.out.below hbq)
     have HBK:=hid (HBK.out.below hbq)
     have HF:=hid (HF.out.trans (Fq.of_below hbq))
     have HOWN:=hid (ownsRow_belowP HOWN.out hbq)
     have c5:=(hbq.cell (p:=⟨b,5,none⟩) hltb).trans c5
     have f5:=HBK.out.row.free 5
     have hltb:=HBK.out.row.lt
     have hB1:B≤(w1.drewN nq).heap.size:=hB1
     clear hbq HNA HOV HP HV y0 y2 d0 n1
     generalize w1.drewN nq=wq at HX HBK HF HOWN c5 f5 hltb hB1 ⊢
     by_cases h0:er=0
     ·subst h0
      have hxr:=HXR.out
      rw [if_neg (by simp)] at hxr
      have HXR:=hid hxr
      clear hxr
      by_cases hv0:v=0
      ·subst hv0
       go_wp2_with (first|(at_builtin;refine wpList_append_lies _ rfl (.tmp 67) (.tmp 71) 128 rfl B 190 i0 _ 3 3 Tryz.underlying128 hi0 hz0 hz1 hz2 rfl (by omega) (.slice a5 n k5) n (openCells opens) rfl (HOWN.out.alloc _) ⟨_,0,none⟩ 1 1 [.bool false,.bool false,.bool false] rfl rfl (World.news_of_block (cs:=#[.bool false,.bool false,.bool false]) (t:=190) (fr:=(0,0)) (heap_alloc_new _ _)) (by simp [Value.oneCell']) (by omega) (by unfold maxLen;omega) (by omega) (by simp;omega) _ rfl ?_;intro gg cap' w4 hown4 hgrow hat hlt4;have hc4:=(hgrow.cell_far ⟨b,5,none⟩ (by simp;omega) (Ne.symm hneb)).trans (((Below.refl wq.heap.size wq).alloc (Nat.le_refl _) (.cells #[.bool false,.bool false,.bool false] 190)).cell (p:=⟨b,5,none⟩) hltb |>.trans c5);have hf4:=(hgrow.frozen_far ⟨b,5,none⟩ (by simp;omega) (Ne.symm hneb)).trans (((Below.refl wq.heap.size wq).alloc (Nat.le_refl _) (.cells #[.bool false,.bool false,.bool false] 190)).frozen (p:=⟨b,5,none⟩) hltb |>.trans f5)))
       go_end0
       rw [←HXR.out,HST.out]
       obtain rfl:=HN.out
       exact bk_push (o:=⟨false,false,false⟩) HX.out HBK.out HF.out h8' ((Below.refl _ _).alloc (Nat.le_refl _) _) hgrow hat hown4
      ·have kv:(v != 0)=true:=by simpa using hv0
       have HXR:=hid (show (0,⟨true,false,false⟩::opens)=x by have:=HXR.out;rwa [decide_eq_true (show (v,(0:Int)).1≠0 from hv0)] at this)
       clear hv0
       go_wp2_with (first|(at_builtin;refine wpList_append_lies _ rfl (.tmp 67) (.tmp 71) 128 rfl B 190 i0 _ 3 3 Tryz.underlying128 hi0 hz0 hz1 hz2 rfl (by omega) (.slice a5 n k5) n (openCells opens) rfl (HOWN.out.alloc _) ⟨_,0,none⟩ 1 1 [.bool true,.bool false,.bool false] rfl rfl (World.news_of_block (cs:=#[.bool true,.bool false,.bool false]) (t:=190) (fr:=(0,0)) (heap_alloc_new _ _)) (by simp [Value.oneCell']) (by omega) (by unfold maxLen;omega) (by omega) (by simp;omega) _ rfl ?_;intro gg cap' w4 hown4 hgrow hat hlt4;have hc4:=(hgrow.cell_far ⟨b,5,none⟩ (by simp;omega) (Ne.symm hneb)).trans (((Below.refl wq.heap.size wq).alloc (Nat.le_refl _) (.cells #[.bool true,.bool false,.bool false] 190)).cell (p:=⟨b,5,none⟩) hltb |>.trans c5);have hf4:=(hgrow.frozen_far ⟨b,5,none⟩ (by simp;omega) (Ne.symm hneb)).trans (((Below.refl wq.heap.size wq).alloc (Nat.le_refl _) (.cells #[.bool true,.bool false,.bool false] 190)).frozen (p:=⟨b,5,none⟩) hltb |>.trans f5)))
       go_end0
       rw [←HXR.out,HST.out]
       obtain rfl:=HN.out
       exact bk_push (o:=⟨true,false,false⟩) HX.out HBK.out HF.out h8' ((Below.refl _ _).alloc (Nat.le_refl _) _) hgrow hat hown4
     ·have k0:(er != 0)=true:=by simpa using h0
      have hxr:=HXR.out
      rw [if_pos (by simpa using h0)] at hxr
      have HXR:=hid hxr
      have H0:=hid h0
      clear hxr h0
      go_wp2_with (first|(go_at_call 60;refine (bad_any _ r _ _ _ _ _ er at_ HX.out.row).mono ?_;rintro e w2 ⟨rfl,rfl⟩))
      go_end0
      rw [←HXR.out]
      exact bk_bad HX.out HBK.out HF.out H0.out
    ·rw [if_pos (Or.inr h1)] at hxr
     have k1:((os.length:Int) != 1)=true:=by simp;omega
     have HXR:=hid hxr
     clear hxr h1 hlb
     go_wp2_with (first|(go_at_call 89;refine HOV.out.mono ?_;rintro e w2 ⟨rfl,hw2⟩;obtain rfl:=hw2.symm)|(go_at_call 60;refine (bad_any _ r _ _ _ _ _ 4 at_ HX.out.row).mono ?_;rintro e w2 ⟨rfl,rfl⟩))
     go_end0
     rw [←HXR.out]
     exact bk_bad HX.out HBK.out HF.out (by decide)
   ·rw [if_pos (Or.inl (fun c=>hlb (t1.1 c)))] at hxr
    have kl:=not_empty lb (by omega)
    have HXR:=hid hxr
    clear hxr hlb
    go_wp2_with (first|(go_at_call 89;refine HOV.out.mono ?_;rintro e w2 ⟨rfl,hw2⟩;obtain rfl:=hw2.symm)|(go_at_call 60;refine (bad_any _ r _ _ _ _ _ 4 at_ HX.out.row).mono ?_;rintro e w2 ⟨rfl,rfl⟩))
    go_end0
    rw [←HXR.out]
    exact bk_bad HX.out HBK.out HF.out (by decide)
end
section
attribute [local go_sem ↓] Go.wp_at_zero Go.wp_at_succ
def noMac:List Value:=[.string ⟨#[]⟩,.slice none 0 0,.slice none 0 0]
def headBad (W:WordsP):Bool:=decide (¬W.label=[]) || decide (W.operands=[]) || !allNames W.operands || !apartP W.operands.tail
def HeadPost (W:WordsP) (os:List ByteArray) (w:World) (e:Ending) (w':World):Prop:=Below w.heap.size w w' ∧
 ((headBad W=true∧e=.returned (.tuple #[.agg #[.string ⟨#[]⟩,.slice none 0 0,.slice none 0 0],.int .i64 4])) ∨
  (headBad W=false∧∃n0 pa pc,∃h:0<os.length,n0=os[0]∧e=.returned (.tuple #[.agg #[.string n0,.slice pa (os.length-1) pc,.slice none 0 0],.int .i64 0])∧StrV w' 0 (.slice pa (os.length-1) pc) os.tail))
theorem allNames_at (os:List ByteArray) (k:Nat) (h:k<os.length):allNames ((os.drop k).map L)=(nameB (L os[k])&&allNames ((os.drop (k+1)).map L)):=by
 rw [List.drop_eq_getElem_cons h,List.map_cons];rfl
theorem apartF_at (os:List ByteArray) (k:Nat) (h:k<os.length):apartF ((os.take k).map L) ((os.drop k).map L)=(!((os.take k).map L).contains (L os[k])&&apartF ((os.take (k+1)).map L) ((os.drop (k+1)).map L)):=by
 rw [List.drop_eq_getElem_cons h,List.map_cons,List.take_succ_eq_append_getElem h,List.map_append];rfl
set_option maxRecDepth 100000 in
set_option maxHeartbeats 1600000 in
theorem readHead_any (w:World) (lb op:ByteArray) (va:Option Addr) (vc:Nat) (os:List ByteArray) (W:WordsP) (C:Nat) (hp:PartsV w C lb op (.slice va os.length vc) os W) (hn:os.length≤1000) (hsz:∀i (hi:i<os.length),os[i].size≤1000) :
  Calls Tryz.prog 141 #[.agg #[.string lb,.string op,.slice va os.length vc]] w (HeadPost W os w):=by
 obtain ⟨t1,t2,t3⟩:=hp.two
 have hb0:Below w.heap.size w ((w.alloc (.cells #[.string lb,.string op,.slice va os.length vc] 101)).alloc (.cells #[.string ⟨#[]⟩,.slice none 0 0,.slice none 0 0] 202)):=((Below.refl _ _).alloc (Nat.le_refl _) _).alloc (by simp) _
 have HP:=hid (hp.below hb0)
 have HPS:=hid hp.ops
 have HB0:=hid hb0
 have HR0:=hid (show RowT ((w.alloc (.cells #[.string lb,.string op,.slice va os.length vc] 101)).alloc (.cells #[.string ⟨#[]⟩,.slice none 0 0,.slice none 0 0] 202)) 101 w.heap.size [.string lb,.string op,.slice va os.length vc] from (RowT.new w 101 [.string lb,.string op,.slice va os.length vc]).alloc _)
 have HR1:=hid (show RowT ((w.alloc (.cells #[.string lb,.string op,.slice va os.length vc] 101)).alloc (.cells #[.string ⟨#[]⟩,.slice none 0 0,.slice none 0 0] 202)) 202 (w.heap.size+1) noMac from by
  have:=RowT.new (w.alloc (.cells #[.string lb,.string op,.slice va os.length vc] 101)) 202 noMac
  rw [show (w.alloc (.cells #[.string lb,.string op,.slice va os.length vc] 101)).heap.size=w.heap.size+1 from by simp] at this
  exact this)
 have HSZ:=hid hsz
 clear hp hb0 hsz t3
 by_cases hlb:lb.size=0
 ·have kl:=is_empty lb hlb
  by_cases h0:os.length=0
  ·have HX:=hid (show headBad W=true by unfold headBad;rw [decide_eq_true (show W.operands=[] from List.eq_nil_of_length_eq_zero (by rw [t2];exact h0)),Bool.or_true];rfl)
   have kn:((os.length:Int)==0)=true:=by rw [beq_iff_eq];omega
   have HH0:=hid h0
   clear h0
   go_enter Tryz.func141,Tryz.ntmps141
   go_wp2
   refine bodyPost_ret (v:=.tuple #[.agg noMac.toArray,.int .i64 4]) (by simp [results,Tryz.results141,go_sem,noMac]) rfl ⟨?_,Or.inl ⟨HX.out,rfl⟩⟩
   exact HB0.out
  ·have kn:((os.length:Int)==0)=false:=by rw [beq_eq_false_iff_ne];omega
   obtain ⟨b,off,cap,hv,hbl⟩:∃b off cap,Value.slice va os.length vc=.slice (some ⟨b,off,none⟩) os.length cap∧b<_:=by
    obtain ⟨b,off,cap,hv,hbl,_⟩:=HP.out.at_.cell 0 (by omega)
    exact ⟨b,off,cap,hv,hbl⟩
   injection hv with hv1 _ hv2
   subst hv1 hv2
   go_enter Tryz.func141,Tryz.ntmps141
   go_wp2_with fail
   generalize ((w.alloc (.cells #[.string lb,.string op,.slice (some ⟨b,off,none⟩) os.length vc] 101)).alloc (.cells #[.string ⟨#[]⟩,.slice none 0 0,.slice none 0 0] 202))=w1 at HP HR0 HR1 HB0 hbl ⊢
   have c0:=HR0.out.cell 0 (by simp)
   have c1:=HR0.out.cell 1 (by simp)
   have c2:=HR0.out.cell 2 (by simp)
   have d0:=HR1.out.cell 0 (by decide)
   have d1:=HR1.out.cell 1 (by decide)
   have d2:=HR1.out.cell 2 (by decide)
   have f0:=HR1.out.free 0
   have f1:=HR1.out.free 1
   have f2:=HR1.out.free 2
   have hlt1:=HR1.out.lt
   have HBAD:=hid (show headBad W=(!allNames (os.map L) || !apartP (os.tail.map L)) by
    unfold headBad
    rw [t1.2 hlb,←HPS.out]
    have:¬os.map L=[]:=fun e=>h0 (by simpa using congrArg List.length e)
    simp only [List.map_tail]
    simp [this])
   have HH0:=hid h0
   have HHL:=hid hlb
   clear h0 hlb
   go_loop [22] (fun i=>∃k:Nat,k≤os.length∧i=.int .i64 k∧allNames (os.map L)=allNames ((os.drop k).map L)) (fun i=>os.length-(intOf i).toNat)
   case atStart=>exact ⟨0,Nat.zero_le _,rfl,by rw [List.drop_zero]⟩
   case round =>
    obtain ⟨k,hk,rfl,ha⟩:=hrel
    have HA:=hid ha
    clear ha
    by_cases hlt:k<os.length
    ·have kd:decide ((k:Int)<(os.length:Int))=true:=by simp;omega
     obtain ⟨_,_,_,hv',_,ck⟩:=HP.out.at_.cell k hlt
     injection hv' with hv11 _ hv12
     injection hv11 with hv11
     injection hv11 with hv13 hv14
     subst hv13 hv14
     clear hv12
     have hks:=HSZ.out k hlt
     have hA:=HA.out
     rw [allNames_at _ _ hlt] at hA
     cases hnm:nameB (L os[k]) with
     |true =>
      rw [hnm,Bool.true_and] at hA
      have HA2:=hid hA
      have HNM:=hid hnm
      clear hA hnm
      go_wp2_with (first|(go_at_call 78;refine (IsName_any _ _ (by unfold maxLen;omega)).mono ?_;rw [HNM.out];rintro e w' ⟨rfl,rfl⟩))
      go_round
      case rel=>exact ⟨k+1,by omega,by go_num,HA2.out⟩
      case measure=>simp [intOf];omega
     |false =>
      rw [hnm,Bool.false_and] at hA
      have HX:=hid (show headBad W=true by rw [HBAD.out,hA];rfl)
      have HNM:=hid hnm
      clear hA hnm
      go_wp2_with (first|(go_at_call 78;refine (IsName_any _ _ (by unfold maxLen;omega)).mono ?_;rw [HNM.out];rintro e w' ⟨rfl,rfl⟩))
      refine bodyPost_ret (v:=.tuple #[.agg noMac.toArray,.int .i64 4]) (by simp [results,Tryz.results141,go_sem,d0,d1,d2,noMac]) rfl ⟨?_,Or.inl ⟨HX.out,rfl⟩⟩
      exact ((HB0.out.setCell (Nat.le_succ _) _).setCell (Nat.le_succ _) _).setCell (Nat.le_succ _) _
    ·have kd:decide ((k:Int)<(os.length:Int))=false:=by simp;omega
     have HAN:=hid (show allNames (os.map L)=true by rw [HA.out,List.drop_eq_nil_of_le (by omega)];rfl)
     obtain ⟨n0,hn0⟩:∃n0,os[0]'(by have:=HH0.out;omega)=n0:=⟨_,rfl⟩
     obtain ⟨_,_,_,hv',_,ck⟩:=HP.out.at_.cell 0 (by have:=HH0.out;omega)
     injection hv' with hv11 _ hv12
     injection hv11 with hv11
     injection hv11 with hv13 hv14
     subst hv13 hv14
     rw [Nat.add_zero,hn0] at ck
     have hpos:(1:Int)≤(os.length:Int):=by have:=HH0.out;omega
     have hpos2:(0:Int)<(os.length:Int):=by have:=HH0.out;omega
     clear hv12
     have hcap:os.length≤vc:=by
      rcases HP.out.at_ with ⟨h1,_⟩|⟨_,_,_,_,h1,_,_,h2,_⟩
      ·cases h1
      ·injection h1 with _ _ h3;omega
     have a2:∀o,(w1.alloc o).cell? ⟨w.heap.size,2,none⟩=some (.slice (some ⟨b,off,none⟩) os.length vc):=fun o=>(HR0.out.alloc o).cell 2 (by simp)
     have ak:∀o,(w1.alloc o).cell? ⟨b,off,none⟩=some (.string n0):=fun o=>by
      rw [((Below.refl w1.heap.size w1).alloc (Nat.le_refl _) o).cell (p:=⟨b,off,none⟩) hbl];exact ck
     have hp0:0<os.length:=by omega
     have hp1:1≤os.length:=by omega
     obtain ⟨pa,hpa⟩:∃pa:Option Addr,(if vc=1 then some ⟨b,off,none⟩ else some ⟨b,off+1,none⟩)=pa:=⟨_,rfl⟩
     have hst:StrV w1 0 (.slice pa (os.length-1) (vc-1)) os.tail:=by
      rcases HP.out.at_ with ⟨h1,_⟩|⟨b',off',cap',cur,h1,_,h3,h4,h5⟩
      ·cases h1
      ·injection h1 with h6 _ h7
       injection h6 with h6
       injection h6 with h8 h9
       subst h8 h9
       by_cases hv1:vc=1
       ·rw [if_pos hv1] at hpa
        have h0:os.tail=[]:=List.eq_nil_of_length_eq_zero (by rw [List.length_tail];omega)
        exact Or.inr ⟨b,off,vc-1,cur,by rw [h0,←hpa,show os.length-1=0 from by omega];rfl,Nat.zero_le _,h3,by rw [h0];simp,fun i hi=>by rw [h0] at hi;simp at hi⟩
       ·rw [if_neg hv1] at hpa
        refine Or.inr ⟨b,off+1,vc-1,cur,by rw [List.length_tail,←hpa],Nat.zero_le _,h3,by rw [List.length_tail];omega,fun i hi=>?_⟩
        rw [List.length_tail] at hi
        rw [show off+1+i=off+(i+1) from by omega,h5 (i+1) (by omega)]
        simp
     have HST:=hid hst
     have HPA:=hid hpa
     clear hst hpa
     go_wp2_with fail
     go_region
     rw [HPA.out]
     have hb2:Below w1.heap.size w1 (w1.alloc (.cells #[.string n0,.slice pa (os.length-1) (vc-1),.slice none 0 0] 202)).drew:=((Below.refl _ _).alloc (Nat.le_refl _) _).drew
     have HB2:=hid (below_on HB0.out (Nat.le_refl _) hb2)
     have HR2:=hid (show RowT (w1.alloc (.cells #[.string n0,.slice pa (os.length-1) (vc-1),.slice none 0 0] 202)).drew 202 w1.heap.size [.string n0,.slice pa (os.length-1) (vc-1),.slice none 0 0] from RowT.new w1 202 [.string n0,.slice pa (os.length-1) (vc-1),.slice none 0 0])
     have HR1':=hid (HR1.out.below hb2)
     have HST2:=hid (HST.out.below hb2)
     generalize (w1.alloc (.cells #[.string n0,.slice pa (os.length-1) (vc-1),.slice none 0 0] 202)).drew=w2 at HB2 HR2 HR1' HST2 ⊢
     have hw1:w.heap.size+1<w1.heap.size:=hlt1
     clear hb2 c0 c1 c2 d0 d1 d2 f0 f1 f2 ck a2 ak HR1 HST
     have g0:=HR2.out.cell 0 (by simp)
     have g1:=HR2.out.cell 1 (by simp)
     have g2:=HR2.out.cell 2 (by simp)
     have d0:=HR1'.out.cell 0 (by decide)
     have d1:=HR1'.out.cell 1 (by decide)
     have d2:=HR1'.out.cell 2 (by decide)
     have f0:=HR1'.out.free 0
     have f1:=HR1'.out.free 1
     have f2:=HR1'.out.free 2
     have hvc:os.length-1≤vc-1:=by omega
     obtain ⟨tl,htl⟩:∃tl,os.tail=tl:=⟨_,rfl⟩
     have htll:os.length-1=tl.length:=by rw [←htl,List.length_tail]
     have htlb:tl.length≤1000:=by omega
     have HTL:=hid htl
     have HNM0:=hid hn0
     have HTLL:=hid htll
     have HBD2:=hid (show headBad W=!apartP (tl.map L) by rw [HBAD.out,HAN.out,htl];rfl)
     have hszt:∀i (hi:i<tl.length),tl[i].size≤1000:=fun i hi=>by
      subst htl
      rw [List.getElem_tail]
      exact HSZ.out (i+1) (by rw [List.length_tail] at hi;omega)
     have HSZT:=hid hszt
     rw [htl,htll] at HST2
     rw [htll] at g1 hvc HR2
     rw [htll]
     clear htl hn0 htll hszt HA kd
     go_wp2_with fail
     go_loop [42] (fun i=>∃j:Nat,j≤tl.length∧i=.int .i64 j∧apartP (tl.map L)=apartF ((tl.take j).map L) ((tl.drop j).map L)) (fun i=>tl.length-(intOf i).toNat)
     case atStart=>exact ⟨0,Nat.zero_le _,rfl,by simp [apartP]⟩
     case round =>
      obtain ⟨j,hj,rfl,ha⟩:=hrel
      have HA:=hid ha
      clear ha
      by_cases hlt2:j<tl.length
      ·have kd2:decide ((j:Int)<(tl.length:Int))=true:=by simp;omega
       obtain ⟨b2,o2,cp2,hv',hb2',ck⟩:=HST2.out.cell j hlt2
       injection hv' with hv11 _ hv12
       subst hv11
       clear hv12
       have hjs:=HSZT.out j hlt2
       have hA:=HA.out
       rw [apartF_at _ _ hlt2] at hA
       have hcell:∀i,i<tl.length→w2.cell? ⟨b2,o2+i,none⟩=some (.string (tl.getD i ByteArray.empty)):=fun i hi=>by
        obtain ⟨_,_,_,hv2',_,c2⟩:=HST2.out.cell i hi
        injection hv2' with h1 _ _
        injection h1 with h1
        injection h1 with h2 h3
        subst h2 h3
        rw [c2,List.getD_eq_getElem?_getD,List.getElem?_eq_getElem hi];rfl
       have HCELL:=hid hcell
       have hcon:Lib.containsS (tl.take j) tl[j]=((tl.take j).map L).contains (L tl[j]):=by
        rw [Bool.eq_iff_iff,Lib.containsS_iff,List.contains_iff_mem,List.mem_map]
        exact ⟨fun h=>⟨_,h,rfl⟩,fun ⟨x,h1,h2⟩=>by rwa [L_inj h2] at h1⟩
       obtain ⟨cb,hcb⟩:∃cb,((tl.take j).map L).contains (L tl[j])=cb:=⟨_,rfl⟩
       rw [hcb] at hA hcon
       have HCON:=hid hcon
       have kj0:(0:Int)≤(j:Int):=Int.natCast_nonneg _
       have kj1:(j:Int)≤((vc-1:Nat):Int):=by omega
       clear hcell hcon hcb
       cases cb with
       |true =>
        have hA':apartP (tl.map L)=false:=hA
        have HX:=hid (show headBad W=true by rw [HBD2.out,hA'];rfl)
        clear hA hA'
        go_wp2_with (first|(go_at_call 162;refine (Tryz.slices_Contains_string b2 o2 j _ tl tl[j] _ hj (by omega) HCELL.out).mono ?_;rw [HCON.out];rintro e w' ⟨rfl,rfl⟩))
        refine bodyPost_ret (v:=.tuple #[.agg noMac.toArray,.int .i64 4]) (by simp [results,Tryz.results141,go_sem,d0,d1,d2,noMac]) rfl ⟨?_,Or.inl ⟨HX.out,rfl⟩⟩
        exact ((HB2.out.setCell (Nat.le_succ _) _).setCell (Nat.le_succ _) _).setCell (Nat.le_succ _) _
       |false =>
        have hA':apartP (tl.map L)=apartF ((tl.take (j+1)).map L) ((tl.drop (j+1)).map L):=by rw [hA];rfl
        have HA2:=hid hA'
        clear hA hA'
        go_wp2_with (first|(go_at_call 162;refine (Tryz.slices_Contains_string b2 o2 j _ tl tl[j] _ hj (by omega) HCELL.out).mono ?_;rw [HCON.out];rintro e w' ⟨rfl,rfl⟩))
        go_round
        case rel=>exact ⟨j+1,by omega,by go_num,HA2.out⟩
        case measure=>simp [intOf];omega
      ·have kd2:decide ((j:Int)<(tl.length:Int))=false:=by simp;omega
       have HX:=hid (show headBad W=false by rw [HBD2.out,HA.out,List.drop_eq_nil_of_le (by omega)];rfl)
       go_wp2
       refine bodyPost_ret (v:=.tuple #[.agg #[.string n0,.slice pa tl.length (vc-1),.slice none 0 0],.int .i64 0]) (by simp [results,Tryz.results141,go_sem,d0,d1,d2,noMac]) rfl ⟨?_,Or.inr ⟨HX.out,n0,pa,vc-1,by omega,HNM0.out.symm,by rw [HTLL.out],?_⟩⟩
       ·exact ((HB2.out.setCell (Nat.le_succ _) _).setCell (Nat.le_succ _) _).setCell (Nat.le_succ _) _
       ·rw [HTLL.out,HTL.out]
        exact ((HST2.out.set _ _ _ (RowT.notStr HR1'.out (by decide))).set _ _ _ (RowT.notStr (HR1'.out.set 0 _) (by decide))).set _ _ _ (RowT.notStr ((HR1'.out.set 0 _).set 1 _) (by decide))
 ·have kl:=not_empty lb (by omega)
  have HX:=hid (show headBad W=true by unfold headBad;rw [decide_eq_true (show ¬W.label=[] from fun e=>hlb (t1.1 e))];rfl)
  go_enter Tryz.func141,Tryz.ntmps141
  go_wp2
  refine bodyPost_ret (v:=.tuple #[.agg noMac.toArray,.int .i64 4]) (by simp [results,Tryz.results141,go_sem,noMac]) rfl ⟨?_,Or.inl ⟨HX.out,rfl⟩⟩
  exact HB0.out
end
end Go.Proofs.YtcepppilgncdmaaGreatDoor
