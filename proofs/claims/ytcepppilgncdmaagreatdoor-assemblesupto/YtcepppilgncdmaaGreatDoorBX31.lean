/-
  Joined: QColl.
-/
import Derived.Test.YtcepppilgncdmaaGreatDoorBX30
namespace Go.Proofs.YtcepppilgncdmaaGreatDoor
open Go.RowKit
attribute [local go_sem ↓] Go.wp_at_zero Go.wp_at_succ
structure DefAt (w:World) (D gd:Nat) (nm:ByteArray) (qv:Value) (ps:List ByteArray) (lv:Value) (ls:List ByteArray):Prop where
 row:RowT w 192 gd [.string nm,qv,lv]
 ge:D≤gd
 ps:StrV w 0 qv ps
 own:w.ownsRow D 9 1 lv ls.length (ls.map Value.string)
 lt:StrLt D qv
theorem DefAt.below {w w':World}{D gd:Nat}{nm:ByteArray}{qv:Value}{ps:List ByteArray}{lv:Value}{ls:List ByteArray}(h:DefAt w D gd nm qv ps lv ls) (hb:Below w.heap.size w w'):DefAt w' D gd nm qv ps lv ls:=
 ⟨h.row.below hb,h.ge,h.ps.below hb,ownsRow_belowP h.own hb,h.lt⟩
def CollPost (B b r D:Nat) (lv fv mv pv dv vo:Value) (opens:List OpenP) (at_ gd:Nat) (nm:ByteArray) (qv:Value) (ps ls:List ByteArray) (x:Int×Option MacP×StP) (w:World) (e:Ending) (w':World):Prop:=
 e=.returned (.tuple #[])∧(x.1≠0→Fq B [b] w w'∧RdErr w' r x.1 at_∧BkRow w' b lv fv mv pv dv) ∧
  (x.1=0→(∀d,x.2.1=some d→Below D w w'∧∃lv' ls',DefAt w' D gd nm qv ps lv' ls'∧ls'.length=ls.length+1∧d=⟨L nm,ps.map L,ls'.map L⟩) ∧
   (x.2.1=none→Fq B [b] w w'∧RdSt w' B r x.2.2∧BkAt w' B b lv fv mv pv dv vo (.pointer none) opens))
theorem info_str:(Tryz.prog.info? 9).map (fun i=>(i.zero,i.size,i.bytes))=some (some (.string ⟨#[]⟩),1,16):=by kernel_rfl
theorem info_ptr:(Tryz.prog.info? 127).map (fun i=>(i.zero,i.size,i.bytes))=some (some (.pointer none),1,8):=by kernel_rfl
theorem RdAt.maced {w w4:World}{B r:Nat}{vm vn vl:Value}{ms:List MacQ}{ns:List (ByteArray×Int)}{outs:List (ByteArray×Nat)}{calls:Nat}(h:RdAt w B r vm vn vl ms ns outs calls) (hg:w.grownBy w4 vm.ownBlock) {gg cap:Nat}{m:MacQ}(hm:MacRow w m)
  (ho:w4.ownsRow B 127 1 (.slice (some ⟨gg,0,none⟩) (ms.length+1) cap) (ms.length+1) (ptrCells ms++[.pointer (some ⟨m.g,0,none⟩)])) :
  RdAt (w4.setCell ⟨r,0,none⟩ (.slice (some ⟨gg,0,none⟩) (ms.length+1) cap)) B r (.slice (some ⟨gg,0,none⟩) (ms.length+1) cap) vn vl (ms++[m]) ns outs calls ∧
  Fq B [] w (w4.setCell ⟨r,0,none⟩ (.slice (some ⟨gg,0,none⟩) (ms.length+1) cap)):=by
 have hne:vm.ownBlock≠some r:=own_row_ne h.mown h.row (by decide)
 have hr4:=RowT.grown' h.row hg (Ne.symm hne)
 have hn4:=h.nown.kept hg (by
  cases hv:vn.ownBlock with
  |none=>exact Or.inl rfl
  |some g=>exact Or.inr (fun e1=>own_own_ne h.nown h.mown (by decide) (g:=g) (by rw [←e1]) hv))
 have hl4:=h.lown.kept hg (by
  cases hv:vl.ownBlock with
  |none=>exact Or.inl rfl
  |some g=>exact Or.inr (fun e1=>own_own_ne h.lown h.mown (by decide) (g:=g) (by rw [←e1]) hv))
 have hf4:Fq B [] w w4:=(Fq.refl B [] w).grown hg (own_mayQ h.mown (fun _ _=>Or.inl rfl))
 have hf5:=hf4.setCell (p:=⟨r,0,none⟩) (hr4.mayQ h.at_ (Or.inl rfl)) (.slice (some ⟨gg,0,none⟩) (ms.length+1) cap)
 refine ⟨⟨hr4.set 0 _,?_,?_,?_,fun m' hm'=>?_,h.at_⟩,hf5⟩
 ·rw [List.length_append,show ptrCells (ms++[m])=ptrCells ms++[.pointer (some ⟨m.g,0,none⟩)] from by simp [ptrCells]]
  exact ownsRow_setCell_other ho (a:=⟨r,0,none⟩) (own_row_ne ho hr4 (by decide)) _
 ·exact ownsRow_setCell_other hn4 (a:=⟨r,0,none⟩) (own_row_ne hn4 hr4 (by decide)) _
 ·exact ownsRow_setCell_other hl4 (a:=⟨r,0,none⟩) (own_row_ne hl4 hr4 (by decide)) _
 ·rcases List.mem_append.1 hm' with h1|h1
  ·exact (h.macs m' h1).fq hf5 (by simp)
  ·rw [List.mem_singleton.1 h1];exact hm.fq hf5 (by simp)
theorem err_maced {w w4:World}{B r n:Nat}{vm a c d z er:Value}{xs:List Value}(h:RowT w 93 r [vm,a,c,d,er,z]) (hB:B≤r) (hm:w.ownsRow B 127 1 vm n xs) (hg:w.grownBy w4 vm.ownBlock) (v:Value) :
  RowT (w4.setCell ⟨r,0,none⟩ v) 93 r [v,a,c,d,er,z]∧Fq B [] w (w4.setCell ⟨r,0,none⟩ v):=by
 have hne:vm.ownBlock≠some r:=own_row_ne hm h (by decide)
 have hr4:=RowT.grown' h hg (Ne.symm hne)
 exact ⟨hr4.set 0 _,((Fq.refl B [] w).grown hg (own_mayQ hm (fun _ _=>Or.inl rfl))).setCell (p:=⟨r,0,none⟩) (hr4.mayQ hB (Or.inl rfl)) _⟩
theorem BkAt.noDef {w:World}{B b:Nat}{lv fv mv pv dv vo xd:Value}{opens:List OpenP}(h:BkAt w B b lv fv mv pv dv vo xd opens) (p:Option Addr):BkAt (w.setCell ⟨b,6,none⟩ (.pointer p)) B b lv fv mv pv dv vo (.pointer p) opens∧Fc B [b] w (w.setCell ⟨b,6,none⟩ (.pointer p)):=
 ⟨⟨h.row.set 6 _,ownsRow_setCell_other h.own (a:=⟨b,6,none⟩) (own_row_ne h.own h.row (by decide)) _,h.few,h.at_⟩,(FrQ.refl noT r1 B [b] w).setCell (p:=⟨b,6,none⟩) (h.row.mayQ h.at_ (Or.inr ⟨rfl,by simp⟩)) _⟩
set_option maxRecDepth 100000 in
set_option maxHeartbeats 800000 in
theorem collects_any (w:World) (B b r D:Nat) (lv fv mv pv dv vo:Value) (opens:List OpenP) (at_ gd:Nat) (nm:ByteArray) (qv:Value) (ps:List ByteArray) (dl:Value) (ls:List ByteArray) (st:StP) (s:ByteArray) (k:Nat)
  (h:BkAt w B b lv fv mv pv dv vo (.pointer (some ⟨gd,0,none⟩)) opens) (hx:RdSt w B r st) (hd:DefAt w D gd nm qv ps dl ls) (hD:D≤w.heap.size) (hs:s.size≤1000) (hls:ls.length≤3001) (hok:StOk st k) (hB:B≤w.heap.size) :
  Calls Tryz.prog 90 #[.pointer (some ⟨b,0,none⟩),.pointer (some ⟨r,0,none⟩),.string s,.int .i64 (at_:Nat)] w (CollPost B b r D lv fv mv pv dv vo opens at_ gd nm qv ps ls (collP ⟨L nm,ps.map L,ls.map L⟩ (L s) st) w):=by
 obtain ⟨vm,vn,vl,ms,ns,outs,calls,hx,hst⟩:=hx
 subst hst
 obtain ⟨i0,hi0,hz0,hz1,hz2⟩:=info_parts info_str
 obtain ⟨i1,hi1,hy0,hy1,hy2⟩:=info_parts info_ptr
 obtain ⟨x,hxr⟩:∃x,collP ⟨L nm,ps.map L,ls.map L⟩ (L s) (stQ ms ns outs calls)=x:=⟨_,rfl⟩
 rw [hxr]
 have hml:ms.length≤3001:=by
  have h1:=hok.few
  have h2:=hok.taken
  simp only [stQ,List.length_map] at h1
  omega
 have HX:=hid hx
 have HBK:=hid h
 have HD:=hid hd
 clear hx h hd hok
 unfold collP at hxr
 go_enter Tryz.func90,Tryz.ntmps90
 go_upto_region 1 with (first|(go_at_call 63;refine (words_any s _ (by omega)).mono ?_;rintro e w1 ⟨lb,op,oa,oc,os,rfl,hp,hb1⟩))
 have hb2:Below w1.heap.size w1 (w1.alloc (.cells #[.string lb,.string op,.slice oa os.length oc] 134)):=(Below.refl _ _).alloc (Nat.le_refl _) _
 have HF:=hid (hb1.trans (hb2.mono hb1.size))
 have HX:=hid (HX.out.below HF.out)
 have HBK:=hid (HBK.out.below HF.out)
 have HD:=hid (HD.out.below HF.out)
 have HBX:=hid (show RowT (w1.alloc (.cells #[.string lb,.string op,.slice oa os.length oc] 134)) 134 w1.heap.size [.string lb,.string op,.slice oa os.length oc] from RowT.new w1 134 [.string lb,.string op,.slice oa os.length oc])
 obtain ⟨t1,t2,t3⟩:=hp.two
 have hop:=hp.op
 have hbare:bareW (wordsP (L s))=(decide (lb.size=0)&&decide (os.length=0)):=by
  unfold bareW
  rw [←hp.label,←hp.ops]
  congr 1
  ·rw [decide_eq_decide]
   exact ⟨fun e=>by rw [size_L,e];rfl,L_zero⟩
  ·rw [decide_eq_decide]
   cases os<;>simp
 have hosb:os.length≤maxLen:=by
  have h9:=(wordsP_bd (L s)).2.2.1
  rw [t2,L_length] at h9
  unfold maxLen
  omega
 unfold maxLen at hosb
 rw [←hop] at hxr
 clear hb1 hb2 hp t1 t2 t3 hop
 generalize w1.alloc (.cells #[.string lb,.string op,.slice oa os.length oc] 134)=w2 at HX HBK HD HF HBX ⊢
 generalize w1.heap.size=bx at HBX ⊢
 have y0:=HBX.out.cell 0 (by simp)
 have y1:=HBX.out.cell 1 (by simp)
 have y2:=HBX.out.cell 2 (by simp)
 have hB2:B≤w2.heap.size:=Nat.le_trans hB HF.out.size
 have hD2:D≤w2.heap.size:=Nat.le_trans hD HF.out.size
 have c6:w2.cell? ⟨b,6,none⟩=some (.pointer (some ⟨gd,0,none⟩)):=HBK.out.row.cell 6 (by simp)
 have f6:=HBK.out.row.free 6
 have hltb:=HBK.out.row.lt
 by_cases h1:L op=opMacro
 ·rw [if_pos h1] at hxr
  have kop:(op.toList==[46,109,97,99,114,111])=true:=op_is h1
  have HXR:=hid hxr
  clear hxr h1 hbare
  go_wp2_with (first|(go_at_call 60;refine (bad_any _ r _ _ _ _ _ 2 at_ HX.out.row).mono ?_;rintro e w3 ⟨rfl,rfl⟩))
  first|go_end0|refine bodyPost_ret (results_none rfl _ _ _) rfl ?_
  obtain ⟨p1,p2⟩:=bad_post (er:=2) (at_:=at_) HX.out.row HX.out.at_
  rw [←HXR.out]
  exact ⟨rfl,fun _=>⟨(Fq.of_below HF.out).trans p1.wide,p2,(HBK.out.fq p1 (by simp) (fun _ _=>by simp)).toRow⟩,fun c=>by cases c⟩
 ·rw [if_neg h1] at hxr
  have kop:(op.toList==[46,109,97,99,114,111])=false:=op_not h1
  by_cases h2:L op=opEnd
  ·rw [if_pos h2,hbare] at hxr
   have kop2:(op.toList==[46,101,110,100])=true:=op_is h2
   obtain ⟨am,cm,hvm⟩:=own_form HX.out.mown
   subst hvm
   have hner:(Value.slice am ms.length cm).ownBlock≠some r:=own_row_ne HX.out.mown HX.out.row (by decide)
   have hnebb:(Value.slice am ms.length cm).ownBlock≠some b:=own_row_ne HX.out.mown HBK.out.row (by decide)
   by_cases hb9:lb.size=0∧os.length=0
   ·rw [if_pos (by simp [hb9.1,hb9.2])] at hxr
    have kl:=is_empty lb hb9.1
    have k1:((os.length:Int) != 0)=false:=by rw [bne_eq_false_iff_eq];have:=hb9.2;omega
    have HXR:=hid hxr
    have c0:w2.cell? ⟨r,0,none⟩=some (.slice am ms.length cm):=HX.out.row.cell 0 (by simp)
    have f0:=HX.out.row.free 0
    have hltr:=HX.out.row.lt
    clear hxr h1 h2 hb9 hbare
    go_wp2_with fail
    go_region_law
     ((refine step_append_lies _ (by rfl) _ _ _ (by rfl) B 127 i1 _ 1 8 Tryz.underlying91 hi1 hy0 hy1 hy2 rfl (by omega) (.slice am ms.length cm) ms.length (ptrCells ms) (by rfl) ((HX.out.mown.alloc _).drew) ⟨_,0,none⟩ 1 1 [.pointer (some ⟨gd,0,none⟩)] (by rfl) (by rfl) (World.news_of_block (cs:=#[.pointer (some ⟨gd,0,none⟩)]) (t:=127) (fr:=(0,0)) (heap_alloc_new _ _)) (by simp [Value.oneCell']) (by omega) (by unfold maxLen;omega) (by omega) (by simp;omega) _ rfl ?_;intro gg cap' w4 hown4 hgrow hat hlt4;have hc4:=(hgrow.cell_far ⟨r,0,none⟩ (by simp;omega) (Ne.symm hner)).trans ((((Below.refl w2.heap.size w2).alloc (Nat.le_refl _) _).drew.cell (p:=⟨r,0,none⟩) hltr).trans c0);have hf4:=(hgrow.frozen_far ⟨r,0,none⟩ (by simp;omega) (Ne.symm hner)).trans ((((Below.refl w2.heap.size w2).alloc (Nat.le_refl _) _).drew.frozen (p:=⟨r,0,none⟩) hltr).trans f0);have hc6:=(hgrow.cell_far ⟨b,6,none⟩ (by simp;omega) (Ne.symm hnebb)).trans ((((Below.refl w2.heap.size w2).alloc (Nat.le_refl _) _).drew.cell (p:=⟨b,6,none⟩) hltb).trans c6)))
    all_goals
     have hb3:Below w2.heap.size w2 (w2.alloc (.cells #[.pointer (some ⟨gd,0,none⟩)] 127)).drew:=((Below.refl _ _).alloc (Nat.le_refl _) _).drew
     have HMR:=hid (show MacRow w2 ⟨gd,nm,qv,ps,dl,ls⟩ from ⟨HD.out.row,HD.out.ps,by obtain ⟨_,_,_,h9⟩:=owns_strs HD.out.own rfl;exact h9.mono (Nat.zero_le _)⟩)
     have HL:=hid ((HX.out.below hb3).maced hgrow (HMR.out.below hb3) hown4)
     have HFL:=hid (((Fq.of_below (B:=B) (M:=[b]) HF.out).trans (Fq.of_below hb3)).trans HL.out.2.wide)
     have HBL:=hid ((HBK.out.below hb3).fq HL.out.2 (by simp) (fun _ _=>by simp))
     clear hown4 hgrow hat hc4 hf4 hc6 hb3
     have d6:=HBL.out.row.cell 6 (by simp)
     have g6:=HBL.out.row.free 6
     have hltl:=HBL.out.row.lt
     go_wp2_with fail
     first|go_end0|refine bodyPost_ret (results_none rfl _ _ _) rfl ?_
     have hnd:=HBL.out.noDef none
     rw [←HXR.out]
     refine ⟨rfl,fun c=>absurd rfl c,fun _=>⟨(fun d hd=>by cases hd),fun _=>⟨HFL.out.trans (Fc.to hnd.2),⟨_,_,_,_,_,_,_,HL.out.1.fc hnd.2,?_⟩,hnd.1⟩⟩⟩
     simp [stQ,plainQ]
   ·rw [if_neg (by simp only [Bool.and_eq_true,decide_eq_true_eq];exact hb9)] at hxr
    have HXR:=hid hxr
    have p1:=(bad_post (er:=4) (at_:=at_) HX.out.row HX.out.at_).1
    have hr3:=(HX.out.row.set 4 (.int .i64 4)).set 5 (.int .i64 (at_:Nat))
    have hm3:=ownsRow_setCell_other (ownsRow_setCell_other HX.out.mown (a:=⟨r,4,none⟩) hner (.int .i64 4)) (a:=⟨r,5,none⟩) hner (.int .i64 (at_:Nat))
    have hk3:=HBK.out.fq p1 (by simp) (fun _ _=>by simp)
    have HP1:=hid p1
    have HR3:=hid hr3
    have HM3:=hid hm3
    have HK3:=hid hk3
    clear p1 hr3 hm3 hk3 hbare h1 h2 hxr
    have hor:(lb.toList.isEmpty=true∧((os.length:Int) != 0)=true)∨lb.toList.isEmpty=false:=by
     rcases (show lb.size=0∧¬os.length=0∨¬lb.size=0 by omega) with ⟨hl0,ho0⟩|hl0
     ·exact Or.inl ⟨is_empty lb hl0,by rw [bne_iff_ne];omega⟩
     ·exact Or.inr (not_empty lb (by omega))
    clear hb9
    rcases hor with ⟨kl,k1⟩|kl
    all_goals
     go_upto_region 8 with (first|(go_at_call 60;refine (bad_any _ r _ _ _ _ _ 4 at_ HX.out.row).mono ?_;rintro e w3 ⟨rfl,rfl⟩))
     generalize (w2.setCell ⟨r,4,none⟩ (.int .i64 4)).setCell ⟨r,5,none⟩ (.int .i64 (at_:Nat))=w3 at HP1 HR3 HM3 HK3 ⊢
     have HR3:=hid (show RowT w3 93 r [.slice am ms.length cm,vn,vl,.int .i64 (calls:Nat),.int .i64 4,.int .i64 (at_:Nat)] from HR3.out)
     have c0:w3.cell? ⟨r,0,none⟩=some (.slice am ms.length cm):=HR3.out.cell 0 (by simp)
     have f0:=HR3.out.free 0
     have hltr:=HR3.out.lt
     have hltb:=HK3.out.row.lt
     have c6:w3.cell? ⟨b,6,none⟩=some (.pointer (some ⟨gd,0,none⟩)):=HK3.out.row.cell 6 (by simp)
     have hB3:B≤w3.heap.size:=Nat.le_trans hB2 HP1.out.size
     clear y0 y1 y2 f6
     go_region_law
      ((refine step_append_lies _ (by rfl) _ _ _ (by rfl) B 127 i1 _ 1 8 Tryz.underlying91 hi1 hy0 hy1 hy2 rfl (by omega) (.slice am ms.length cm) ms.length (ptrCells ms) (by rfl) ((HM3.out.alloc _).drew) ⟨_,0,none⟩ 1 1 [.pointer (some ⟨gd,0,none⟩)] (by rfl) (by rfl) (World.news_of_block (cs:=#[.pointer (some ⟨gd,0,none⟩)]) (t:=127) (fr:=(0,0)) (heap_alloc_new _ _)) (by simp [Value.oneCell']) (by omega) (by unfold maxLen;omega) (by omega) (by simp;omega) _ rfl ?_;intro gg cap' w4 hown4 hgrow hat hlt4;have hc4:=(hgrow.cell_far ⟨r,0,none⟩ (by simp;omega) (Ne.symm hner)).trans ((((Below.refl w3.heap.size w3).alloc (Nat.le_refl _) _).drew.cell (p:=⟨r,0,none⟩) hltr).trans c0);have hf4:=(hgrow.frozen_far ⟨r,0,none⟩ (by simp;omega) (Ne.symm hner)).trans ((((Below.refl w3.heap.size w3).alloc (Nat.le_refl _) _).drew.frozen (p:=⟨r,0,none⟩) hltr).trans f0);have hc6:=(hgrow.cell_far ⟨b,6,none⟩ (by simp;omega) (Ne.symm hnebb)).trans ((((Below.refl w3.heap.size w3).alloc (Nat.le_refl _) _).drew.cell (p:=⟨b,6,none⟩) hltb).trans c6)))
     all_goals
      have hb3:Below w3.heap.size w3 (w3.alloc (.cells #[.pointer (some ⟨gd,0,none⟩)] 127)).drew:=((Below.refl _ _).alloc (Nat.le_refl _) _).drew
      have HL:=hid (err_maced (HR3.out.below hb3) HX.out.at_ (ownsRow_belowP HM3.out hb3) hgrow (.slice (some ⟨gg,0,none⟩) (ms.length+1) cap'))
      have HFL:=hid ((((Fq.of_below (B:=B) (M:=[b]) HF.out).trans HP1.out.wide).trans (Fq.of_below hb3)).trans HL.out.2.wide)
      have HBL:=hid ((HK3.out.below hb3).fq HL.out.2 (by simp) (fun _ _=>by simp))
      clear hown4 hgrow hat hc4 hf4 hc6 hb3
      have d6:=HBL.out.row.cell 6 (by simp)
      have g6:=HBL.out.row.free 6
      have hltl:=HBL.out.row.lt
      go_wp2_with fail
      first|go_end0|refine bodyPost_ret (results_none rfl _ _ _) rfl ?_
      have hnd:=HBL.out.noDef none
      rw [←HXR.out]
      exact ⟨rfl,fun _=>⟨HFL.out.trans (Fc.to hnd.2),⟨_,_,_,_,HL.out.1.frQ hnd.2 rfl (fun h=>by cases h)⟩,hnd.1.toRow⟩,fun c=>by cases c⟩
  ·rw [if_neg h2] at hxr
   have kop2:(op.toList==[46,101,110,100])=false:=op_not h2
   have HXR:=hid hxr
   clear hxr h1 h2 hbare
   obtain ⟨ad,cd,hdl⟩:=own_form HD.out.own
   subst hdl
   have g2:w2.cell? ⟨gd,2,none⟩=some (.slice ad ls.length cd):=HD.out.row.cell 2 (by simp)
   have fg2:=HD.out.row.free 2
   have hltd:=HD.out.row.lt
   have hneb:(Value.slice ad ls.length cd).ownBlock≠some gd:=own_row_ne HD.out.own HD.out.row (by decide)
   have hnebb:(Value.slice ad ls.length cd).ownBlock≠some b:=own_row_ne HD.out.own HBK.out.row (by decide)
   go_wp2_with fail
   go_region_law
    ((refine step_append_lies _ (by rfl) _ _ _ (by rfl) D 9 i0 _ 1 16 Tryz.underlying65 hi0 hz0 hz1 hz2 rfl (by omega) (.slice ad ls.length cd) ls.length (ls.map Value.string) (by rfl) ((HD.out.own.alloc _).drew) ⟨_,0,none⟩ 1 1 [.string s] (by rfl) (by rfl) (World.news_of_block (cs:=#[.string s]) (t:=9) (fr:=(0,0)) (heap_alloc_new _ _)) (by simp [Value.oneCell']) (by omega) (by unfold maxLen;omega) (by omega) (by simp;omega) _ rfl ?_;intro gg cap' w4 hown4 hgrow hat hlt4;have hc4:=(hgrow.cell_far ⟨gd,2,none⟩ (by simp;omega) (Ne.symm hneb)).trans ((((Below.refl w2.heap.size w2).alloc (Nat.le_refl _) _).drew.cell (p:=⟨gd,2,none⟩) hltd).trans g2);have hf4:=(hgrow.frozen_far ⟨gd,2,none⟩ (by simp;omega) (Ne.symm hneb)).trans ((((Below.refl w2.heap.size w2).alloc (Nat.le_refl _) _).drew.frozen (p:=⟨gd,2,none⟩) hltd).trans fg2);have hc6:=(hgrow.cell_far ⟨b,6,none⟩ (by simp;omega) (Ne.symm hnebb)).trans ((((Below.refl w2.heap.size w2).alloc (Nat.le_refl _) _).drew.cell (p:=⟨b,6,none⟩) hltb).trans c6)))
   all_goals
    have hb3:Below w2.heap.size w2 (w2.alloc (.cells #[.string s] 9)).drew:=((Below.refl _ _).alloc (Nat.le_refl _) _).drew
    have hr4:RowT w4 192 gd [.string nm,qv,.slice ad ls.length cd]:=RowT.grown' (HD.out.row.below hb3) hgrow (Ne.symm hneb)
    have hbd:Below D w2 w4:=((Below.refl D w2).trans (hb3.mono hD2)).grown hgrow (by simp;omega) (fun j hj=>own_ge HD.out.own hj)
    have hbe:Below D w2 (w4.setCell ⟨gd,2,none⟩ (.slice (some ⟨gg,0,none⟩) (ls.length+1) cap')):=hbd.setCell (p:=⟨gd,2,none⟩) HD.out.ge _
    have hgd:(Value.slice (some ⟨gg,0,none⟩) (ls.length+1) cap').ownBlock≠some gd:=own_row_ne hown4 hr4 (by decide)
    have HND:=hid (show DefAt (w4.setCell ⟨gd,2,none⟩ (.slice (some ⟨gg,0,none⟩) (ls.length+1) cap')) D gd nm qv ps (.slice (some ⟨gg,0,none⟩) (ls.length+1) cap') (ls++[s]) from
     ⟨hr4.set 2 _,HD.out.ge,HD.out.ps.ahead HD.out.lt hbe,by rw [List.length_append,List.map_append];exact ownsRow_setCell_other hown4 (a:=⟨gd,2,none⟩) hgd _,HD.out.lt⟩)
    have HNB:=hid ((HF.out.mono hD).trans hbe)
    clear hown4 hgrow hat hc4 hf4 hc6 hbd hbe hr4 hgd
    go_wp2_with fail
    first|go_end0|refine bodyPost_ret (results_none rfl _ _ _) rfl ?_
    rw [←HXR.out]
    refine ⟨rfl,fun c=>absurd rfl c,fun _=>⟨fun d hd=>⟨HNB.out,_,ls++[s],HND.out,by simp,?_⟩,fun c=>by cases c⟩⟩
    injection hd with hd
    rw [←hd]
    simp
end Go.Proofs.YtcepppilgncdmaaGreatDoor
