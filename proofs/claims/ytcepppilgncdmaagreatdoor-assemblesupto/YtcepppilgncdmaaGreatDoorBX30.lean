/-
  Joined: PDef POther QLeft QSet QDef.
-/
import Derived.Test.YtcepppilgncdmaaGreatDoorBX25
namespace Go.Proofs.YtcepppilgncdmaaGreatDoor
open Go.RowKit
section
attribute [local go_sem ↓] Go.wp_at_zero Go.wp_at_succ
def macR (wi k:Nat) (W:WordsP) (st:StP) (ls:List (List UInt8)):Int×Nat×StP:=
 if 0<wi then (2,k,st)
 else if headBad W=true then (4,k,st)
 else match findM st.macros (W.operands.headD []) with
  |some _=>(5,k,st)
  |none=>((bodyP [] (ls.drop k)).1,k+(bodyP [] (ls.drop k)).2.2,{ st with macros:=st.macros++[⟨W.operands.headD [],W.operands.tail,(bodyP [] (ls.drop k)).2.1⟩] })
def frM (wi bt:Nat):List Nat:=if wi=0 then [bt] else []
def MacPost (B be bt wi:Nat) (v lv:Value) (ls:List ByteArray) (rest:List Value) (opens:List OpenP) (r:Int×Nat×StP) (w:World) (e:Ending) (w':World):Prop:=
 e=.returned (.int .i64 r.1)∧Fr B (frM wi bt) w w'∧NumAt w' be bt wi r.2.1∧(r.1=0→ExpSt w' B be bt wi r.2.1 r.2.2∧ReadAt w' B 74 bt v lv ls r.2.1 rest opens)
theorem ExpAt.maced {w w4:World}{B be bt wi k:Nat}{vm vn vl:Value}{ms:List MacV}{ns:List (ByteArray×Int)}{outs:List (ByteArray×Nat)}{calls:Nat}(h:ExpAt w B be bt wi k vm vn vl ms ns outs calls) (hg:w.grownBy w4 vm.ownBlock) {gg cap:Nat}{n0:ByteArray}{pv bv:Value}
  (ho:w4.ownsRow B 202 3 (.slice (some ⟨gg,0,none⟩) (ms.length+1) cap) (ms.length+1) (macCells ms++[.string n0,pv,bv])) :
  (∀ps bs,StrV w 0 pv ps→StrV w 0 bv bs→ExpAt (w4.setCell ⟨be,1,none⟩ (.slice (some ⟨gg,0,none⟩) (ms.length+1) cap)) B be bt wi k (.slice (some ⟨gg,0,none⟩) (ms.length+1) cap) vn vl (ms++[⟨n0,pv,ps,bv,bs⟩]) ns outs calls) ∧
  NumAt (w4.setCell ⟨be,1,none⟩ (.slice (some ⟨gg,0,none⟩) (ms.length+1) cap)) be bt wi k ∧
  Fr B [] w (w4.setCell ⟨be,1,none⟩ (.slice (some ⟨gg,0,none⟩) (ms.length+1) cap)):=by
 have hne:vm.ownBlock≠some be:=own_row_ne h.mown h.row (by decide)
 have hr4:RowT w4 77 be [.pointer (some ⟨bt,0,none⟩),vm,vn,.int .i64 (wi:Nat),.int .i64 (calls:Nat),vl]:=RowT.grown' h.row hg (Ne.symm hne)
 have hn4:=h.nown.kept hg (by
  cases hv:vn.ownBlock with
  |none=>exact Or.inl rfl
  |some g=>exact Or.inr (fun e1=>own_own_ne h.nown h.mown (by decide) (g:=g) (by rw [←e1]) hv))
 have hl4:=h.lown.kept hg (by
  cases hv:vl.ownBlock with
  |none=>exact Or.inl rfl
  |some g=>exact Or.inr (fun e1=>own_own_ne h.lown h.mown (by decide) (g:=g) (by rw [←e1]) hv))
 have hf4:Fr B [] w w4:=(Fr.refl B [] w).grown hg (own_may h.mown (fun _ _=>Or.inl rfl))
 have hf5:=hf4.setCell (p:=⟨be,1,none⟩) (hr4.may h.at_ (Or.inl rfl)) (.slice (some ⟨gg,0,none⟩) (ms.length+1) cap)
 obtain ⟨xs,hx1,hx2⟩:=h.text
 have htx:=hx1.fr hf5 rfl (fun _=>by simp)
 refine ⟨fun ps bs hps hbs=>⟨hr4.set 1 _,?_,?_,?_,fun m hm=>?_,h.at_,xs,htx,hx2⟩,⟨_,xs,hr4.set 1 _,rfl,htx,hx2⟩,hf5⟩
 ·rw [macCells_append,List.length_append]
  exact ownsRow_setCell_other ho (a:=⟨be,1,none⟩) (own_row_ne ho hr4 (by decide)) _
 ·exact ownsRow_setCell_other hn4 (a:=⟨be,1,none⟩) (own_row_ne hn4 hr4 (by decide)) _
 ·exact ownsRow_setCell_other hl4 (a:=⟨be,1,none⟩) (own_row_ne hl4 hr4 (by decide)) _
 ·rcases List.mem_append.1 hm with h1|h1
  ·exact ⟨(h.mstr m h1).1.fr hf5,(h.mstr m h1).2.fr hf5⟩
  ·rw [List.mem_singleton] at h1
   subst h1
   exact ⟨hps.fr hf5,hbs.fr hf5⟩
theorem ExpAt.offD {w:World}{B be bt wi k:Nat}{vm vn vl:Value}{ms:List MacV}{ns:List (ByteArray×Int)}{outs:List (ByteArray×Nat)}{calls:Nat}(h:ExpAt w B be bt wi k vm vn vl ms ns outs calls) {d j:Nat}{xs:List Value}(hr:RowT w 202 d xs) (hd:vm.ownBlock≠some d) (u:Value) :
  ExpAt (w.setCell ⟨d,j,none⟩ u) B be bt wi k vm vn vl ms ns outs calls:=by
 obtain ⟨ys,h1,h2⟩:=h.text
 exact ⟨h.row.other d j (fun e=>by subst e;exact rowT_ne h.row hr (by decide) rfl) u,ownsRow_setCell_other h.mown (a:=⟨d,j,none⟩) hd _,ownsRow_setCell_other h.nown (a:=⟨d,j,none⟩) (own_row_ne h.nown hr (by decide)) _,ownsRow_setCell_other h.lown (a:=⟨d,j,none⟩) (own_row_ne h.lown hr (by decide)) _,fun m hm=>⟨(h.mstr m hm).1.set d j u (RowT.notStr hr (by decide)),(h.mstr m hm).2.set d j u (RowT.notStr hr (by decide))⟩,h.at_,ys,h1.other d j (fun e=>by subst e;exact rowT_ne h1 hr (by decide) rfl) u,h2⟩
set_option maxRecDepth 100000 in
set_option maxHeartbeats 800000 in
theorem doMacro_any (w:World) (B be bt wi k:Nat) (st:StP) (v lv:Value) (ls:List ByteArray) (rest:List Value) (opens:List OpenP) (lb op:ByteArray) (va:Option Addr) (vc:Nat) (os:List ByteArray) (W:WordsP) (C:Nat)
  (h:ExpSt w B be bt wi k st) (hra:wi=0→ReadAt w B 74 bt v lv ls k rest opens) (hp:PartsV w C lb op (.slice va os.length vc) os W) (hn:os.length≤1000) (hsz:∀i (hi:i<os.length),os[i].size≤1000) (hls:∀i (hi:i<ls.length),ls[i].size≤100) (hok:StOk st k) (hwi:wi≤8) (hm:MaxAt w) (hgB:0<B) (hB:B≤w.heap.size) (hbt:B≤bt) :
  Calls Tryz.prog 106 #[.pointer (some ⟨be,0,none⟩),.agg #[.string lb,.string op,.slice va os.length vc]] w (MacPost B be bt wi v lv ls rest opens (macR wi k W st (ls.map L)) w):=by
 obtain ⟨vm,vn,vl,ms,ns,outs,calls,hx,rfl⟩:=h
 obtain ⟨i0,hi0,hz0,hz1,hz2⟩:=info_parts info_mac
 have hb0:Below w.heap.size w (w.alloc (.cells #[.string lb,.string op,.slice va os.length vc] 101)):=(Below.refl _ _).alloc (Nat.le_refl _) _
 have HX:=hid (hx.below hb0)
 have HP:=hid (hp.below hb0)
 have HF:=hid (show Fr B (frM wi bt) w (w.alloc (.cells #[.string lb,.string op,.slice va os.length vc] 101)) from Fr.of_below hb0)
 have HBX:=hid (RowT.new w 101 [.string lb,.string op,.slice va os.length vc])
 have HM:=hid (hm.below hb0)
 have HRA:=hid (fun h0=>(hra h0).below hb0)
 have HSZ:=hid hsz
 have HLS:=hid hls
 have hml:ms.length≤3001:=by
  have h1:=hok.few
  have h2:=hok.taken
  simp only [stOf,List.length_map] at h1
  omega
 have c3:(w.alloc (.cells #[.string lb,.string op,.slice va os.length vc] 101)).cell? ⟨be,3,none⟩=some (.int .i64 (wi:Nat)):=HX.out.row.cell 3 (by simp)
 obtain ⟨r,hr⟩:∃r,macR wi k W (stOf ms ns outs calls) (ls.map L)=r:=⟨_,rfl⟩
 rw [hr]
 unfold macR at hr
 clear hx hp hb0 hm hra hsz hls hok
 by_cases hw0:0<wi
 ·rw [if_pos hw0] at hr
  subst hr
  have kw:decide ((0:Int)<(wi:Int))=true:=by simp;omega
  go_enter Tryz.func106,Tryz.ntmps106
  go_wp2
  go_ret
  exact ⟨rfl,HF.out,HX.out.num,fun h=>by cases h⟩
 ·rw [if_neg hw0] at hr
  have hwz:wi=0:=by omega
  subst hwz
  have HRB:=hid (HRA.out rfl)
  have HRX:=hid hr
  clear hr hw0 HRA
  go_enter Tryz.func106,Tryz.ntmps106
  go_wp2_with fail
  generalize (w.alloc (.cells #[.string lb,.string op,.slice va os.length vc] 101))=w0 at HX HP HF HBX HM HRB c3 ⊢
  refine (readHead_any w0 lb op va vc os W C HP.out hn HSZ.out).mono ?_
  rintro e w1 ⟨hb1,hcase⟩
  have HX:=hid (HX.out.below hb1)
  have HF:=hid (HF.out.trans (Fr.of_below hb1))
  have HM:=hid (HM.out.below hb1)
  have HRA:=hid (HRB.out.below hb1)
  have HPO:=hid HP.out.two
  clear hb1 c3
  rcases hcase with ⟨hbad,rfl⟩|⟨hbad,n0,pa,pc,hpos,hn0,rfl,hst⟩
  ·have hr:=HRX.out
   rw [if_pos hbad] at hr
   subst hr
   have HB2:=hid (show Below w1.heap.size w1 (w1.alloc (.cells #[.string ⟨#[]⟩,.slice none 0 0,.slice none 0 0] 202)) from (Below.refl _ _).alloc (Nat.le_refl _) _)
   go_wp2
   go_ret
   exact ⟨rfl,HF.out.trans (Fr.of_below HB2.out),(HX.out.below HB2.out).num,fun h=>by cases h⟩
  ·have hr:=HRX.out
   rw [if_neg (by rw [hbad];simp)] at hr
   have e0:W.operands.headD []=L n0:=by rw [headD_get,HPO.out.2.2 0 hpos,hn0]
   rw [e0] at hr
   have HRY:=hid hr
   have HOPS:=hid HP.out.ops
   have HST:=hid hst
   have HB2:=hid (show Below w1.heap.size w1 (w1.alloc (.cells #[.string n0,.slice pa (os.length-1) pc,.slice none 0 0] 202)) from (Below.refl _ _).alloc (Nat.le_refl _) _)
   have HLT:=hid HX.out.mown.lt
   have hwl:w.heap.size≤w1.heap.size:=HF.out.size
   have HX:=hid (HX.out.below HB2.out)
   have HF:=hid (HF.out.trans (Fr.of_below HB2.out))
   have HM:=hid (HM.out.below HB2.out)
   have HRA:=hid (HRA.out.below HB2.out)
   have HST:=hid (HST.out.below HB2.out)
   have HD:=hid (RowT.new w1 202 [.string n0,.slice pa (os.length-1) pc,.slice none 0 0])
   have HN0:=hid hn0
   clear hr e0 hst hbad hn0
   go_wp2_with fail
   generalize (w1.alloc (.cells #[.string n0,.slice pa (os.length-1) pc,.slice none 0 0] 202))=w2 at HX HF HM HRA HST HD ⊢
   go_fit (find_any' w2 B be bt 0 k vm vn vl ms ns outs calls HX.out hml n0)
   rintro e w3 ⟨hw3,hcase⟩
   subst hw3
   rcases hcase with ⟨hf,rfl⟩|⟨i,g,cap,hi,hf,hvm,rfl⟩
   ·have hr:=HRY.out
    have hf':findM (stOf ms ns outs calls).macros (L n0)=none:=hf
    rw [hf'] at hr
    have HRZ:=hid hr
    obtain ⟨bp,hbp⟩:∃bp,bodyP [] ((ls.drop k).map L)=bp:=⟨_,rfl⟩
    have HBP:=hid hbp
    have c0:=HX.out.row.cell 0 (by simp)
    have hvmd:vm.ownBlock≠some w1.heap.size:=fun e=>by have:=(HLT.out _ e).2;omega
    clear hr hf' hf hbp
    go_wp2_with fail
    go_fit (takeBody_any w3 B 74 bt v lv ls k rest opens HRA.out (by decide) (by decide) rfl hbt HLS.out HM.out hgB bp HBP.out)
    rintro e w4 ⟨bv,rfl,hra4,hfr4,⟨ba,bn,bc,hbv⟩,hbs⟩
    subst hbv
    have HX4:=hid (HX.out.frc hfr4 (k':=k+bp.2.2) ⟨_,hra4.cond.row,by simp⟩)
    have HF4:=hid (show Fr B (frM 0 bt) w w4 from HF.out.trans hfr4.to)
    have HD4:=hid (HD.out.fr hfr4 rfl (fun h=>by cases h))
    have HST4:=hid (HST.out.frc hfr4)
    have HX5:=hid (HX4.out.offD (j:=2) HD4.out hvmd (.slice ba bn bc))
    have HF5:=hid (HF4.out.setNew (p:=⟨w1.heap.size,2,none⟩) hwl (.slice ba bn bc))
    have HD5:=hid (HD4.out.set 2 (.slice ba bn bc))
    have HST5:=hid (HST4.out.set w1.heap.size 2 (.slice ba bn bc) (RowT.notStr HD4.out (by decide)))
    have HRA5:=hid (hra4.off (j:=2) HD4.out (by decide) (by decide) (by decide) (.slice ba bn bc))
    have HBS5:=hid (show bp.1=0→∃bs,bs.map L=bp.2.1∧StrV (w4.setCell ⟨w1.heap.size,2,none⟩ (.slice ba bn bc)) 0 (.slice ba bn bc) bs from fun h0=>by
     obtain ⟨bs,h1,h2⟩:=hbs h0
     exact ⟨bs,h1,(h2.mono (Nat.zero_le _)).set w1.heap.size 2 _ (RowT.notStr HD4.out (by decide))⟩)
    have x2:=HD4.out.cell 2 (by simp)
    have f2:=HD4.out.free 2
    obtain ⟨er,bl,cn⟩:=bp
    clear hra4 hfr4 hbs HX4 HF4 c0
    go_upto_region 9 with fail
    generalize w4.setCell ⟨w1.heap.size,2,none⟩ (.slice ba bn bc)=w5 at HX5 HF5 HD5 HST5 HRA5 HBS5 ⊢
    obtain ⟨ma,mc,hmv⟩:=own_form HX5.out.mown
    subst hmv
    have c1:w5.cell? ⟨be,1,none⟩=some (.slice ma ms.length mc):=HX5.out.row.cell 1 (by simp)
    have f1:=HX5.out.row.free 1
    have hlt5:=HX5.out.row.lt
    have y0:=HD5.out.cell 0 (by simp)
    have y1:=HD5.out.cell 1 (by simp)
    have y2:=HD5.out.cell 2 (by simp)
    have hneb:(Value.slice ma ms.length mc).ownBlock≠some be:=own_row_ne HX5.out.mown HX5.out.row (by decide)
    have hB5:B≤w5.heap.size:=Nat.le_trans hB HF5.out.size
    clear x2 f2
    go_region_law
     (refine step_append_lies _ (by rfl) _ _ _ (by rfl) B 202 i0 _ 3 64 Tryz.underlying75 hi0 hz0 hz1 hz2 rfl (by omega) (.slice ma ms.length mc) ms.length (macCells ms) (by rfl) ((HX5.out.mown.alloc _).drew) ⟨_,0,none⟩ 1 1 [.string n0,.slice pa (os.length-1) pc,.slice ba bn bc] (by rfl) (by rfl) (World.news_of_block (cs:=#[.string n0,.slice pa (os.length-1) pc,.slice ba bn bc]) (t:=202) (fr:=(0,0)) (heap_alloc_new _ _)) (by simp [Value.oneCell']) (by omega) (by unfold maxLen;omega) (by omega) (by simp;omega) _ rfl ?_;intro gg cap' w6 hown6 hgrow hat hlt6;have hc6:=(hgrow.cell_far ⟨be,1,none⟩ (by simp;omega) (Ne.symm hneb)).trans ((((Below.refl w5.heap.size w5).alloc (Nat.le_refl _) _).drew.cell (p:=⟨be,1,none⟩) hlt5).trans c1);have hf6:=(hgrow.frozen_far ⟨be,1,none⟩ (by simp;omega) (Ne.symm hneb)).trans ((((Below.refl w5.heap.size w5).alloc (Nat.le_refl _) _).drew.frozen (p:=⟨be,1,none⟩) hlt5).trans f1))
    all_goals
     have hb6:Below w5.heap.size w5 (w5.alloc (.cells #[.string n0,.slice pa (os.length-1) pc,.slice ba bn bc] 202)).drew:=((Below.refl _ _).alloc (Nat.le_refl _) _).drew
     have HL:=hid ((HX5.out.below hb6).maced hgrow hown6)
     have HF7:=hid ((HF5.out.trans (Fr.of_below hb6)).trans (HL.out.2.2.mono (fun k h=>by cases h)))
     have HST6:=hid (HST5.out.below hb6)
     have HRA7:=hid ((HRA5.out.below hb6).fr HL.out.2.2 rfl rfl rfl (by simp) (fun g _=>by simp))
     clear hown6 hgrow hat hc6 hf6
     go_wp2
     go_ret
     have hr:=HRZ.out
     rw [←List.map_drop,HBP.out] at hr
     subst hr
     refine ⟨rfl,HF7.out,HL.out.2.1,fun h0=>?_⟩
     obtain ⟨bs,hbs1,hbs2⟩:=HBS5.out h0
     refine ⟨⟨_,_,_,_,_,_,_,HL.out.1 os.tail bs HST6.out (hbs2.below hb6),?_⟩,HRA7.out⟩
     simp [stOf,plainM,hbs1,←HOPS.out]
   ·have hr:=HRY.out
    have hf':findM (stOf ms ns outs calls).macros (L n0)=some (plainM ms[i]):=hf
    rw [hf'] at hr
    have hr':(5,k,stOf ms ns outs calls)=r:=hr
    subst hr'
    clear hr hf'
    go_wp2
    go_ret
    exact ⟨rfl,HF.out,HX.out.num,fun h=>by cases h⟩
end
section
attribute [local go_sem ↓] Go.wp_at_zero Go.wp_at_succ
def WOk (W:WordsP):Prop:=∃l:List UInt8,l.length≤100∧W=wordsP (cutL l)
theorem sumLen_bd (l:List (List UInt8)) (m:Nat) (h:∀x∈l,x.length≤m):sumLen l≤l.length*(m+1):=by
 induction l with
 |nil=>simp [sumLen]
 |cons x r ih =>
  have h1:=ih (fun y hy=>h y (by simp [hy]))
  have h2:=h x (by simp)
  unfold sumLen at h1 ⊢
  simp only [List.map_cons,List.sum_cons,List.length_cons]
  rw [Nat.succ_mul]
  omega
theorem WOk.bd {W:WordsP}(h:WOk W):W.label.length≤100∧W.op.length≤100∧W.operands.length≤101∧(∀x∈W.operands,x.length≤100)∧(textP W).length≤1000000:=by
 obtain ⟨l,hl,rfl⟩:=h
 have h0:=cutL_le l
 obtain ⟨h1,h2,h3,h4⟩:=wordsP_bd (cutL l)
 have h5:∀x∈(wordsP (cutL l)).operands,x.length≤100:=fun x hx=>Nat.le_trans (h4 x hx) (by omega)
 refine ⟨by omega,by omega,by omega,h5,?_⟩
 rw [textP_head,List.length_append,joined_len]
 have h6:=sumLen_bd _ 100 h5
 have h7:(wordsP (cutL l)).operands.length*(100+1)≤101*101:=Nat.mul_le_mul (by omega) (by omega)
 have h8:(headP (wordsP (cutL l)).label (wordsP (cutL l)).op).length≤300:=by
  unfold headP
  split
  ·split
   ·simp
   ·simp only [List.length_append,List.length_cons,List.length_nil];omega
  ·split
   ·omega
   ·simp only [List.length_append,List.length_cons,List.length_nil];omega
 omega
theorem WOk.parts {W:WordsP}(h:WOk W) {w:World}{C:Nat}{lb op:ByteArray}{v:Value}{os:List ByteArray}(hp:PartsV w C lb op v os W):os.length≤101∧(∀i (hi:i<os.length),os[i].size≤100)∧lb.size≤100:=by
 obtain ⟨h1,h2,h3,h4,_⟩:=h.bd
 refine ⟨by rw [←hp.two.2.1];exact h3,fun i hi=>?_,by rw [size_L,hp.label];exact h1⟩
 rw [size_L]
 exact h4 _ (by rw [←hp.ops];exact List.mem_map.2 ⟨_,List.getElem_mem hi,rfl⟩)
theorem leaveP_ok {W:WordsP}{at_ k:Nat}{st:StP}(h:StOk st k) (he:(leaveP W at_ st).1=0):StOk (leaveP W at_ st).2 k:=by
 unfold leaveP at he ⊢
 split at he
 ·rw [if_pos (by assumption)];exact h
 ·rename_i h1
  rw [if_neg h1]
  split at he
  ·cases he
  ·rename_i h2
   rw [if_neg h2]
   have:=h.names
   exact ⟨h.macs,by simp;omega,by simp;omega,h.calls,h.few,h.taken⟩
theorem textP_ne {W:WordsP}(h:W.operands≠[]):textP W≠[]:=by
 rw [textP_head]
 cases ho:W.operands with
 |nil=>exact absurd ho h
 |cons a b=>simp [joined]
theorem setP_ok {W:WordsP}{at_ k:Nat}{st:StP}(h:StOk st k) (he:(setP W at_ st).1=0):StOk (setP W at_ st).2 k:=by
 unfold setP at he ⊢
 split at he
 ·cases he
 ·rename_i h1
  rw [if_neg h1]
  split at he
  ·cases he
  ·rename_i h2
   rw [if_neg h2]
   split at he
   ·rename_i h3;exact absurd he h3
   ·rename_i h3
    rw [if_neg h3]
    unfold leaveP at he ⊢
    have hn:=h.names
    split at he
    ·rename_i h4
     exact absurd h4 (textP_ne (fun e=>h1 (Or.inr (by rw [e];simp))))
    ·rename_i h4
     rw [if_neg h4]
     split at he
     ·cases he
     ·rename_i h5
      rw [if_neg h5]
      simp only at h5
      exact ⟨h.macs,by simp;omega,by simp;omega,h.calls,h.few,h.taken⟩
theorem bodyP_lines (ls:List (List UInt8)) (hl:∀l∈ls,l.length≤100):∀d,(∀l∈d,l.length≤100∧cutL l=l)→(∀l∈(bodyP d ls).2.1,l.length≤100∧cutL l=l)∧(bodyP d ls).2.1.length≤d.length+(bodyP d ls).2.2:=by
 induction ls with
 |nil=>intro d hd;exact ⟨hd,by simp [bodyP]⟩
 |cons l r ih =>
  intro d hd
  simp only [bodyP]
  split
  ·exact ⟨hd,by simp⟩
  ·split
   ·exact ⟨hd,by simp⟩
   ·have h1:=ih (fun x hx=>hl x (by simp [hx])) (d++[cutL l]) (fun x hx=>by
     rcases List.mem_append.1 hx with h|h
     ·exact hd x h
     ·rw [List.mem_singleton] at h
      subst h
      exact ⟨Nat.le_trans (cutL_le l) (hl l (by simp)),cutL_twice l⟩)
    refine ⟨h1.1,?_⟩
    have:=h1.2
    simp only [List.length_append,List.length_cons,List.length_nil] at this ⊢
    omega
theorem bodyP_took {ls:List (List UInt8)}:∀{d},(bodyP d ls).1=0→1≤(bodyP d ls).2.2:=by
 induction ls with
 |nil=>intro d h;cases h
 |cons l r ih =>
  intro d h
  simp only [bodyP] at h ⊢
  split
  ·simp
  ·split
   ·simp
   ·simp
theorem macR_ok {wi k:Nat}{W:WordsP}{st:StP}{ls:List (List UInt8)}(hW:WOk W) (h:StOk st k) (hk:k≤ls.length) (hll:ls.length≤3001) (hl:∀l∈ls,l.length≤100) (he:(macR wi k W st ls).1=0):StOk (macR wi k W st ls).2.2 (macR wi k W st ls).2.1:=by
 unfold macR at he ⊢
 split at he
 ·cases he
 ·rename_i h1
  rw [if_neg h1]
  split at he
  ·cases he
  ·rename_i h2
   rw [if_neg h2]
   cases hf:findM st.macros (W.operands.headD []) with
   |some m=>rw [hf] at he;cases he
   |none =>
    rw [hf] at he
    have he':(bodyP [] (ls.drop k)).1=0:=he
    have hb:=bodyP_lines (ls.drop k) (fun l hm=>hl l (List.mem_of_mem_drop hm)) [] (fun _ h=>by cases h)
    have ht:=bodyP_took he'
    have hn:=bodyP_len (ls.drop k) []
    rw [List.length_drop] at hn
    obtain ⟨_,_,b3,b4,_⟩:=hW.bd
    have hfew:=h.few
    refine ⟨fun m hm=>?_,h.names,h.out,h.calls,?_,?_⟩
    ·rcases List.mem_append.1 hm with h3|h3
     ·exact h.macs m h3
     ·rw [List.mem_singleton] at h3
      subst h3
      refine ⟨by simp;omega,fun p hp=>b4 p (List.mem_of_mem_tail hp),?_,hb.1⟩
      have:=hb.2
      simp only [List.length_nil] at this
      show (bodyP [] (ls.drop k)).2.1.length≤3001
      omega
    ·show (st.macros++[_]).length≤k+(bodyP [] (ls.drop k)).2.2
     rw [List.length_append]
     simp only [List.length_cons,List.length_nil]
     omega
    ·show k+(bodyP [] (ls.drop k)).2.2≤3001
     omega
end
section
attribute [local go_sem ↓] Go.wp_at_zero Go.wp_at_succ
theorem StrV.strsAt {w:World}{B:Nat}{va:Option Addr}{vc:Nat}{ss:List ByteArray}(h:StrV w B (.slice va ss.length vc) ss):StrsAt w [] va ss:=by
 rcases h with ⟨_,h⟩|⟨b,off,cap,cur,h1,h2,h3,h4,h5⟩
 ·exact Or.inl h
 ·injection h1 with h1 _ _
  exact Or.inr ⟨b,off,h1,(Array.getElem?_eq_some_iff.1 h3).1,by simp,fun i hi=>by simp [World.cell?,h3,h5 i hi]⟩
theorem qtext_any (lb op:ByteArray) (va:Option Addr) (vc:Nat) (os:List ByteArray) (w:World) (C:Nat) (W:WordsP) (h:PartsV w C lb op (.slice va os.length vc) os W) (hw:WOk W∨(os=[]∧lb.size≤1000∧op.size≤1000)) :
  Calls Tryz.prog 156 #[.agg #[.string lb,.string op,.slice va os.length vc]] w fun e w'=>∃t,L t=textP W∧e=.returned (.string t)∧Below w.heap.size w w':=by
 have hb:lb.size≤1000000∧op.size≤1000000∧sumLen (os.map L)≤1000000∧os.length≤1000000:=by
  rcases hw with hw|⟨rfl,h1,h2⟩
  ·obtain ⟨b1,b2,b3,b4,b5⟩:=hw.bd
   have b6:=sumLen_bd _ 100 b4
   have b7:W.operands.length*(100+1)≤101*101:=Nat.mul_le_mul b3 (by omega)
   have b8:W.operands.length=os.length:=h.two.2.1
   refine ⟨by rw [size_L,h.label];omega,by rw [size_L,h.op];omega,by rw [h.ops];omega,by omega⟩
  ·exact ⟨by omega,by omega,by simp [sumLen],by simp⟩
 refine (text_any lb op va vc os [] w hb.1 hb.2.1 hb.2.2.1 hb.2.2.2 h.at_.strsAt).mono ?_
 rintro e w' ⟨t,ht,he,hbl⟩
 refine ⟨t,?_,he,hbl⟩
 rw [ht,h.label,h.op,h.ops]
theorem RdAt.line {w w4:World}{B r:Nat}{vm vn vl:Value}{ms:List MacQ}{ns:List (ByteArray×Int)}{outs:List (ByteArray×Nat)}{calls:Nat}(h:RdAt w B r vm vn vl ms ns outs calls) (hg:w.grownBy w4 vl.ownBlock) {gg cap:Nat}{t:ByteArray}{at_:Nat}
  (ho:w4.ownsRow B 38 4 (.slice (some ⟨gg,0,none⟩) (outs.length+1) cap) (outs.length+1) (lineCells outs++[.string t,.int .i64 (at_:Nat),.int .i64 0,.int .i64 0])) :
  RdAt (w4.setCell ⟨r,2,none⟩ (.slice (some ⟨gg,0,none⟩) (outs.length+1) cap)) B r vm vn (.slice (some ⟨gg,0,none⟩) (outs.length+1) cap) ms ns (outs++[(t,at_)]) calls ∧
  Fq B [] w (w4.setCell ⟨r,2,none⟩ (.slice (some ⟨gg,0,none⟩) (outs.length+1) cap)):=by
 have hne:vl.ownBlock≠some r:=own_row_ne h.lown h.row (by decide)
 have hr4:=RowT.grown' h.row hg (Ne.symm hne)
 have hm4:=h.mown.kept hg (by
  cases hv:vm.ownBlock with
  |none=>exact Or.inl rfl
  |some g=>exact Or.inr (fun e1=>own_own_ne h.mown h.lown (by decide) (g:=g) (by rw [←e1]) hv))
 have hn4:=h.nown.kept hg (by
  cases hv:vn.ownBlock with
  |none=>exact Or.inl rfl
  |some g=>exact Or.inr (fun e1=>own_own_ne h.nown h.lown (by decide) (g:=g) (by rw [←e1]) hv))
 have hf4:Fq B [] w w4:=(Fq.refl B [] w).grown hg (own_mayQ h.lown (fun _ _=>Or.inl rfl))
 have hf5:=hf4.setCell (p:=⟨r,2,none⟩) (hr4.mayQ h.at_ (Or.inl rfl)) (.slice (some ⟨gg,0,none⟩) (outs.length+1) cap)
 refine ⟨⟨hr4.set 2 _,?_,?_,?_,fun m hm=>(h.macs m hm).fq hf5 (by simp),h.at_⟩,hf5⟩
 ·exact ownsRow_setCell_other hm4 (a:=⟨r,2,none⟩) (own_row_ne hm4 hr4 (by decide)) _
 ·exact ownsRow_setCell_other hn4 (a:=⟨r,2,none⟩) (own_row_ne hn4 hr4 (by decide)) _
 ·rw [lineCells_append,List.length_append]
  exact ownsRow_setCell_other ho (a:=⟨r,2,none⟩) (own_row_ne ho hr4 (by decide)) _
set_option maxRecDepth 100000 in
set_option maxHeartbeats 1600000 in
theorem left_any (w:World) (B r at_:Nat) (vm vn vl:Value) (ms:List MacQ) (ns:List (ByteArray×Int)) (outs:List (ByteArray×Nat)) (calls:Nat) (lb op:ByteArray) (va:Option Addr) (vc:Nat) (os:List ByteArray) (W:WordsP) (C:Nat) (hx:RdAt w B r vm vn vl ms ns outs calls) (hp:PartsV w C lb op (.slice va os.length vc) os W) (hw:WOk W∨(os=[]∧lb.size≤1000∧op.size≤1000)) (hne:textP W≠[]) (hol:outs.length≤300) (hB:B≤w.heap.size) :
  Calls Tryz.prog 134 #[.pointer (some ⟨r,0,none⟩),.agg #[.string lb,.string op,.slice va os.length vc],.int .i64 (at_:Nat)] w fun e w'=>e=.returned (.tuple #[])∧Fq B [] w w' ∧
   ((leaveP W at_ (stQ ms ns outs calls)).1=0→∃vl' outs',RdAt w' B r vm vn vl' ms ns outs' calls∧(leaveP W at_ (stQ ms ns outs calls)).2=stQ ms ns outs' calls)∧((leaveP W at_ (stQ ms ns outs calls)).1≠0→RdErr w' r (leaveP W at_ (stQ ms ns outs calls)).1 at_):=by
 obtain ⟨i0,hi0,hz0,hz1,hz2⟩:=info_parts info_line
 obtain ⟨x,hxr⟩:∃x,leaveP W at_ (stQ ms ns outs calls)=x:=⟨_,rfl⟩
 rw [hxr]
 unfold leaveP at hxr
 rw [if_neg hne] at hxr
 have hb0:Below w.heap.size w (w.alloc (.cells #[.string lb,.string op,.slice va os.length vc] 134)):=(Below.refl _ _).alloc (Nat.le_refl _) _
 have HX:=hid (hx.below hb0)
 have HP:=hid (hp.below hb0)
 have HW:=hid hw
 have HF:=hid (show Fq B [] w (w.alloc (.cells #[.string lb,.string op,.slice va os.length vc] 134)) from Fq.of_below hb0)
 have HBX:=hid (show RowT (w.alloc (.cells #[.string lb,.string op,.slice va os.length vc] 134)) 134 w.heap.size [.string lb,.string op,.slice va os.length vc] from RowT.new w 134 [.string lb,.string op,.slice va os.length vc])
 have hB1:B≤(w.alloc (.cells #[.string lb,.string op,.slice va os.length vc] 134)).heap.size:=Nat.le_trans hB HF.out.size
 clear hx hp hb0 hw hne
 go_enter Tryz.func134,Tryz.ntmps134
 go_upto_region 1 with fail
 generalize w.alloc (.cells #[.string lb,.string op,.slice va os.length vc] 134)=w1 at HX HP HF HBX hB1 ⊢
 obtain ⟨bx,hbx⟩:∃bx,w.heap.size=bx:=⟨_,rfl⟩
 rw [hbx] at HBX ⊢
 clear hbx
 have y0:=HBX.out.cell 0 (by simp)
 have y1:=HBX.out.cell 1 (by simp)
 have y2:=HBX.out.cell 2 (by simp)
 obtain ⟨al,cl,hvl⟩:=own_form HX.out.lown
 subst hvl
 have c2:w1.cell? ⟨r,2,none⟩=some (.slice al outs.length cl):=HX.out.row.cell 2 (by simp)
 by_cases h300:300≤outs.length
 ·rw [if_pos (by simpa [stQ] using h300)] at hxr
  have d3:decide ((300:Int)≤outs.length)=true:=by simp;omega
  have HXR:=hid hxr
  clear hxr
  go_wp2_with (first|(go_at_call 60;refine (bad_any _ r _ _ _ _ _ 8 at_ HX.out.row).mono ?_;rintro e w2 ⟨rfl,rfl⟩))
  refine bodyPost_ret (results_none rfl _ _ _) rfl ?_
  obtain ⟨p1,p2⟩:=bad_post (er:=8) (at_:=at_) HX.out.row HX.out.at_
  rw [←HXR.out]
  exact ⟨rfl,HF.out.trans p1,(fun c=>by cases c),fun _=>p2⟩
 ·rw [if_neg (by simp [stQ];omega)] at hxr
  have d3:decide ((300:Int)≤outs.length)=false:=by simp;omega
  have HXR:=hid hxr
  clear hxr
  go_upto_region 4 with (first|(go_at_call 156;refine (qtext_any lb op va vc os _ C W HP.out HW.out).mono ?_;rintro e w2 ⟨t,ht,rfl,hb2⟩))
  have HX:=hid (HX.out.below hb2)
  have HF:=hid (HF.out.trans (Fq.of_below hb2))
  have hB2:B≤w2.heap.size:=Nat.le_trans hB HF.out.size
  have HT:=hid ht
  clear ht hb2 y0 y1 y2 c2
  have c2:w2.cell? ⟨r,2,none⟩=some (.slice al outs.length cl):=HX.out.row.cell 2 (by simp)
  have f2:=HX.out.row.free 2
  have hlt:=HX.out.row.lt
  have hneb:(Value.slice al outs.length cl).ownBlock≠some r:=own_row_ne HX.out.lown HX.out.row (by decide)
  go_wp2_with (first|(at_builtin;refine wpList_append_lies _ rfl (.tmp 22) (.tmp 26) 26 rfl B 38 i0 _ 4 40 Tryz.underlying26 hi0 hz0 hz1 hz2 rfl (by omega) (.slice al outs.length cl) outs.length (lineCells outs) rfl (HX.out.lown.alloc _) ⟨_,0,none⟩ 1 1 [.string t,.int .i64 (at_:Nat),.int .i64 0,.int .i64 0] rfl rfl (World.news_of_block (cs:=#[.string t,.int .i64 (at_:Nat),.int .i64 0,.int .i64 0]) (t:=38) (fr:=(0,0)) (heap_alloc_new _ _)) (by simp [Value.oneCell']) (by omega) (by unfold maxLen;omega) (by omega) (by simp;omega) _ rfl ?_;intro gg cap' w4 hown4 hgrow hat hlt4;have hc4:=(hgrow.cell_far ⟨r,2,none⟩ (by simp;omega) (Ne.symm hneb)).trans (((Below.refl w2.heap.size w2).alloc (Nat.le_refl _) (.cells #[.string t,.int .i64 (at_:Nat),.int .i64 0,.int .i64 0] 38)).cell (p:=⟨r,2,none⟩) hlt |>.trans c2);have hf4:=(hgrow.frozen_far ⟨r,2,none⟩ (by simp;omega) (Ne.symm hneb)).trans (((Below.refl w2.heap.size w2).alloc (Nat.le_refl _) (.cells #[.string t,.int .i64 (at_:Nat),.int .i64 0,.int .i64 0] 38)).frozen (p:=⟨r,2,none⟩) hlt |>.trans f2)))
  have hb2:Below w2.heap.size w2 (w2.alloc (.cells #[.string t,.int .i64 (at_:Nat),.int .i64 0,.int .i64 0] 38)):=(Below.refl _ _).alloc (Nat.le_refl _) _
  have HL:=hid ((HX.out.below hb2).line hgrow hown4)
  have HF2:=hid ((HF.out.trans (Fq.of_below hb2)).trans HL.out.2)
  go_end0
  rw [←HXR.out]
  exact ⟨rfl,HF2.out,fun _=>⟨_,_,HL.out.1,by simp [stQ,HT.out]⟩,fun c=>absurd rfl c⟩
end
section
attribute [local go_sem ↓] Go.wp_at_zero Go.wp_at_succ
theorem RdAt.named {w w4:World}{B r:Nat}{vm vn vl:Value}{ms:List MacQ}{ns:List (ByteArray×Int)}{outs:List (ByteArray×Nat)}{calls:Nat}(h:RdAt w B r vm vn vl ms ns outs calls) (hg:w.grownBy w4 vn.ownBlock) {gg cap:Nat}{t:ByteArray}{z:Int}
  (ho:w4.ownsRow B 40 2 (.slice (some ⟨gg,0,none⟩) (ns.length+1) cap) (ns.length+1) (nameCells ns++[.string t,.int .i64 z])) :
  RdAt (w4.setCell ⟨r,1,none⟩ (.slice (some ⟨gg,0,none⟩) (ns.length+1) cap)) B r vm (.slice (some ⟨gg,0,none⟩) (ns.length+1) cap) vl ms (ns++[(t,z)]) outs calls ∧
  Fq B [] w (w4.setCell ⟨r,1,none⟩ (.slice (some ⟨gg,0,none⟩) (ns.length+1) cap)):=by
 have hne:vn.ownBlock≠some r:=own_row_ne h.nown h.row (by decide)
 have hr4:=RowT.grown' h.row hg (Ne.symm hne)
 have hm4:=h.mown.kept hg (by
  cases hv:vm.ownBlock with
  |none=>exact Or.inl rfl
  |some g=>exact Or.inr (fun e1=>own_own_ne h.mown h.nown (by decide) (g:=g) (by rw [←e1]) hv))
 have hl4:=h.lown.kept hg (by
  cases hv:vl.ownBlock with
  |none=>exact Or.inl rfl
  |some g=>exact Or.inr (fun e1=>own_own_ne h.lown h.nown (by decide) (g:=g) (by rw [←e1]) hv))
 have hf4:Fq B [] w w4:=(Fq.refl B [] w).grown hg (own_mayQ h.nown (fun _ _=>Or.inl rfl))
 have hf5:=hf4.setCell (p:=⟨r,1,none⟩) (hr4.mayQ h.at_ (Or.inl rfl)) (.slice (some ⟨gg,0,none⟩) (ns.length+1) cap)
 refine ⟨⟨hr4.set 1 _,?_,?_,?_,fun m hm=>(h.macs m hm).fq hf5 (by simp),h.at_⟩,hf5⟩
 ·exact ownsRow_setCell_other hm4 (a:=⟨r,1,none⟩) (own_row_ne hm4 hr4 (by decide)) _
 ·rw [nameCells_append,List.length_append]
  exact ownsRow_setCell_other ho (a:=⟨r,1,none⟩) (own_row_ne ho hr4 (by decide)) _
 ·exact ownsRow_setCell_other hl4 (a:=⟨r,1,none⟩) (own_row_ne hl4 hr4 (by decide)) _
theorem rd_bad {w w1:World}{B r:Nat}{vm vn vl:Value}{at_ calls:Nat}{st:StP}{ms:List MacQ}{ns:List (ByteArray×Int)}{outs:List (ByteArray×Nat)}{er:Int}{M:List Nat}(hx:RdAt w1 B r vm vn vl ms ns outs calls) (hf:Fq B M w w1) (h0:er≠0) :
  RdPost B r M at_ (er,st) w (.returned (.tuple #[])) ((w1.setCell ⟨r,4,none⟩ (.int .i64 er)).setCell ⟨r,5,none⟩ (.int .i64 (at_:Nat))):=by
 obtain ⟨p1,p2⟩:=bad_post (er:=er) (at_:=at_) hx.row hx.at_
 exact ⟨rfl,hf.trans p1.wide,fun c=>absurd c h0,fun _=>p2⟩
set_option maxRecDepth 100000 in
set_option maxHeartbeats 1600000 in
theorem sets_any (w:World) (B r at_:Nat) (st:StP) (lb op:ByteArray) (va:Option Addr) (vc:Nat) (os:List ByteArray) (W:WordsP) (C k:Nat) (hx:RdSt w B r st) (hp:PartsV w C lb op (.slice va os.length vc) os W) (hw:WOk W) (hok:StOk st k) (hB:B≤w.heap.size) :
  Calls Tryz.prog 132 #[.pointer (some ⟨r,0,none⟩),.agg #[.string lb,.string op,.slice va os.length vc],.int .i64 (at_:Nat)] w (RdPost B r [] at_ (setP W at_ st) w):=by
 obtain ⟨vm,vn,vl,ms,ns,outs,calls,hx,hst⟩:=hx
 subst hst
 obtain ⟨i0,hi0,hz0,hz1,hz2⟩:=info_parts info_name
 obtain ⟨x,hxr⟩:∃x,setP W at_ (stQ ms ns outs calls)=x:=⟨_,rfl⟩
 rw [hxr]
 obtain ⟨b1,b2,b3⟩:=hw.parts hp
 have hol:outs.length≤300:=by simpa [stQ] using hok.out
 have hnl:ns.length≤300:=by
  have h1:=hok.names
  simp only [stQ,plainN,List.length_map] at h1
  omega
 obtain ⟨an,cn,hvn,hna⟩:=hx.namesAt
 subst hvn
 obtain ⟨t1,t2,t3⟩:=hp.two
 have hb0:Below w.heap.size w (w.alloc (.cells #[.string lb,.string op,.slice va os.length vc] 134)):=(Below.refl _ _).alloc (Nat.le_refl _) _
 have HX:=hid (hx.below hb0)
 have HP:=hid (hp.below hb0)
 have HW:=hid hw
 have HNA:=hid (hna.below hb0)
 have HF:=hid (show Fq B [] w (w.alloc (.cells #[.string lb,.string op,.slice va os.length vc] 134)) from Fq.of_below hb0)
 have HBX:=hid (show RowT (w.alloc (.cells #[.string lb,.string op,.slice va os.length vc] 134)) 134 w.heap.size [.string lb,.string op,.slice va os.length vc] from RowT.new w 134 [.string lb,.string op,.slice va os.length vc])
 have HSZ:=hid b2
 have HT3:=hid t3
 have hB1:B≤(w.alloc (.cells #[.string lb,.string op,.slice va os.length vc] 134)).heap.size:=Nat.le_trans hB HF.out.size
 clear hx hp hb0 b2 t3 hw hna hok
 unfold setP at hxr
 rw [t2] at hxr
 go_enter Tryz.func132,Tryz.ntmps132
 go_upto_region 1 with fail
 generalize w.alloc (.cells #[.string lb,.string op,.slice va os.length vc] 134)=w1 at HX HP HNA HF HBX hB1 ⊢
 obtain ⟨bx,hbx⟩:∃bx,w.heap.size=bx:=⟨_,rfl⟩
 rw [hbx] at HBX ⊢
 clear hbx
 have y0:=HBX.out.cell 0 (by simp)
 have y1:=HBX.out.cell 1 (by simp)
 have y2:=HBX.out.cell 2 (by simp)
 have n1:w1.cell? ⟨r,1,none⟩=some (.slice an ns.length cn):=HX.out.row.cell 1 (by simp)
 by_cases hlb:lb.size=0
 ·rw [t1.2 hlb] at hxr
  have kl:=is_empty lb hlb
  by_cases h2:os.length=2
  ·rw [if_neg (by simp [h2])] at hxr
   have k2:((os.length:Int) != 2)=false:=by rw [bne_eq_false_iff_eq];omega
   have hpos0:0<os.length:=by omega
   have hpos1:1<os.length:=by omega
   obtain ⟨n0,hn0⟩:∃n0,os[0]=n0:=⟨_,rfl⟩
   obtain ⟨x1,hx1⟩:∃x1,os[1]=x1:=⟨_,rfl⟩
   have e0:W.operands.headD []=L n0:=by rw [headD_get,←hn0];exact HT3.out 0 hpos0
   have e1:W.operands.getD 1 []=L x1:=by rw [←hx1];exact HT3.out 1 hpos1
   rw [e0,e1] at hxr
   have hs0:n0.size≤100:=by rw [←hn0];exact HSZ.out 0 hpos0
   have hs1:x1.size≤100:=by rw [←hx1];exact HSZ.out 1 hpos1
   obtain ⟨bo,off,cap,hv,hbl,d0⟩:=HP.out.at_.cell 0 hpos0
   injection hv with hv1 _ hv2
   subst hv1 hv2
   obtain ⟨_,_,_,hv',_,d1⟩:=HP.out.at_.cell 1 hpos1
   injection hv' with hv11 _ hv12
   injection hv11 with hv11
   injection hv11 with hv13 hv14
   subst hv13 hv14
   clear hv12
   rw [Nat.add_zero,hn0] at d0
   rw [hx1] at d1
   have i1:(0:Int)<(os.length:Int):=by omega
   have i2:(1:Int)<(os.length:Int):=by omega
   have HNE:=hid (show textP W≠[] from textP_ne (fun e=>by rw [e] at t2;simp at t2;omega))
   clear hn0 hx1 e0 e1 h2 hlb
   obtain ⟨o,ho⟩:∃o,findN (plainN ns) (L n0)=o:=⟨_,rfl⟩
   obtain ⟨v,er,hv⟩:∃v er,value 0 (plainN ns) (L x1)=(v,er):=⟨_,_,rfl⟩
   have HFN:=hid (fun (wx:World) (k:Nat) (hw:NamesAt (wx.drewN k) an ns)=>Calls.quiet_of_same (w:=wx) (n:=k) (find_any n0 an cn ns _ o (by unfold maxLen;omega) hw ho))
   have HVL:=hid (fun (wx:World) (k:Nat) (hw:NamesAt (wx.drewN k) an ns)=>Calls.quiet_of_same (w:=wx) (n:=k) (refValue_any x1 0 an cn ns _ v er (by omega) (by unfold maxLen;omega) hw hv))
   have hxr:(if nameB (L n0)=false∨o.isSome=true then (5,stQ ms ns outs calls) else if er≠0 then (er,stQ ms ns outs calls) else leaveP W at_ (stQ ms (ns++[(n0,v)]) outs calls))=x:=by
    rw [←hxr,show (stQ ms ns outs calls).names=plainN ns from rfl,hv]
    have e:plainN (ns++[(n0,v)])=plainN ns++[(L n0,v)]:=by simp [plainN]
    have e2:hasN (plainN ns) (L n0)=o.isSome:=by unfold hasN;rw [ho]
    simp only [stQ,e,e2]
   clear ho hv
   obtain ⟨nm,hnm⟩:∃nm,nameB (L n0)=nm:=⟨_,rfl⟩
   have hrn:=refName_any n0 w1 (by unfold maxLen;omega)
   rw [hnm] at hrn hxr
   have HRN:=hid hrn
   have HXR:=hid hxr
   clear hrn hnm hxr
   go_upto_region 4 with (first|(go_at_call 58;refine HRN.out.mono ?_;rintro e w2 ⟨rfl,hw2⟩;obtain rfl:=hw2.symm))
   go_big_quiet ((with_reducible exact HFN.out _ _ (HNA.out.below (below_drewN (Below.refl _ _) _))))
   have hbq:Below w1.heap.size w1 (w1.drewN nq):=below_drewN (Below.refl _ _) _
   have HX:=hid (HX.out.below hbq)
   have HF:=hid (HF.out.trans (Fq.of_below hbq))
   have HP:=hid (HP.out.below hbq)
   have HNA:=hid (HNA.out.below hbq)
   have HBX:=hid (HBX.out.below hbq)
   have d0:=(hbq.cell (p:=⟨bo,off,none⟩) hbl).trans d0
   have d1:=(hbq.cell (p:=⟨bo,off+1,none⟩) hbl).trans d1
   have hbl:bo<(w1.drewN nq).heap.size:=hbl
   have hB1:B≤(w1.drewN nq).heap.size:=hB1
   clear hbq HRN y0 y1 y2 n1 HFN
   generalize w1.drewN nq=wq at HX HF HP HNA HBX d0 d1 hbl hB1 ⊢
   have y0:=HBX.out.cell 0 (by simp)
   have y1:=HBX.out.cell 1 (by simp)
   have y2:=HBX.out.cell 2 (by simp)
   have n1:wq.cell? ⟨r,1,none⟩=some (.slice an ns.length cn):=HX.out.row.cell 1 (by simp)
   cases nm with
   |false =>
    have hxr:=HXR.out
    rw [if_pos (Or.inl rfl)] at hxr
    have HXR:=hid hxr
    clear hxr
    go_wp2_with (first|(go_at_call 60;refine (bad_any _ r _ _ _ _ _ 5 at_ HX.out.row).mono ?_;rintro e w2 ⟨rfl,rfl⟩))
    first|go_end0|refine bodyPost_ret (results_none rfl _ _ _) rfl ?_
    rw [←HXR.out]
    exact rd_bad HX.out HF.out (by decide)
   |true =>
    cases o with
    |some z =>
     have hxr:=HXR.out
     rw [if_pos (by simp)] at hxr
     have HXR:=hid hxr
     clear hxr
     go_wp2_with (first|(go_at_call 60;refine (bad_any _ r _ _ _ _ _ 5 at_ HX.out.row).mono ?_;rintro e w2 ⟨rfl,rfl⟩))
     first|go_end0|refine bodyPost_ret (results_none rfl _ _ _) rfl ?_
     rw [←HXR.out]
     exact rd_bad HX.out HF.out (by decide)
    |none =>
     have hxr:=HXR.out
     rw [if_neg (by simp)] at hxr
     have HXR:=hid hxr
     clear hxr
     go_upto_region 7 with fail
     go_big_quiet ((with_reducible exact HVL.out _ _ (HNA.out.below (below_drewN (Below.refl _ _) _))))
     have hbq:Below wq.heap.size wq (wq.drewN nq):=below_drewN (Below.refl _ _) _
     have HX:=hid (HX.out.below hbq)
     have HF:=hid (HF.out.trans (Fq.of_below hbq))
     have HP:=hid (HP.out.below hbq)
     have HBX:=hid (HBX.out.below hbq)
     have d0:=(hbq.cell (p:=⟨bo,off,none⟩) hbl).trans d0
     have hB1:B≤(wq.drewN nq).heap.size:=hB1
     have hbl:bo<(wq.drewN nq).heap.size:=hbl
     clear hbq y0 y1 y2 n1 HNA HVL d1
     generalize wq.drewN nq=wv at HX HF HP HBX d0 hB1 hbl ⊢
     by_cases h0:er=0
     ·subst h0
      have hxr:=HXR.out
      rw [if_neg (by simp)] at hxr
      have HXR:=hid hxr
      clear hxr
      have y2:=HBX.out.cell 2 (by simp)
      have n1:wv.cell? ⟨r,1,none⟩=some (.slice an ns.length cn):=HX.out.row.cell 1 (by simp)
      have f1:=HX.out.row.free 1
      have hlt:=HX.out.row.lt
      have hltx:=HBX.out.lt
      have HNO:=hid (show wv.ownsRow B 40 2 (.slice an ns.length cn) ns.length (nameCells ns) from HX.out.nown)
      have hneb:(Value.slice an ns.length cn).ownBlock≠some r:=own_row_ne HNO.out HX.out.row (by decide)
      go_wp2_with fail
      go_region_law
       ((refine step_append_lies _ (by rfl) _ _ _ (by rfl) B 40 i0 _ 2 24 Tryz.underlying31 hi0 hz0 hz1 hz2 rfl (by omega) (.slice an ns.length cn) ns.length (nameCells ns) (by rfl) ((HNO.out.alloc _).drew) ⟨_,0,none⟩ 1 1 [.string n0,.int .i64 v] (by rfl) (by rfl) (World.news_of_block (cs:=#[.string n0,.int .i64 v]) (t:=40) (fr:=(0,0)) (heap_alloc_new _ _)) (by simp [Value.oneCell']) (by omega) (by unfold maxLen;omega) (by omega) (by simp;omega) _ rfl ?_;intro gg cap' w4 hown4 hgrow hat hlt4;have hc4:=(hgrow.cell_far ⟨r,1,none⟩ (by simp;omega) (Ne.symm hneb)).trans ((((Below.refl wv.heap.size wv).alloc (Nat.le_refl _) _).drew.cell (p:=⟨r,1,none⟩) hlt).trans n1);have hf4:=(hgrow.frozen_far ⟨r,1,none⟩ (by simp;omega) (Ne.symm hneb)).trans ((((Below.refl wv.heap.size wv).alloc (Nat.le_refl _) _).drew.frozen (p:=⟨r,1,none⟩) hlt).trans f1)))
      all_goals
       have hb2:Below wv.heap.size wv (wv.alloc (.cells #[.string n0,.int .i64 v] 40)).drew:=((Below.refl _ _).alloc (Nat.le_refl _) _).drew
       have HL:=hid ((HX.out.below hb2).named hgrow hown4)
       have HF5:=hid ((HF.out.trans (Fq.of_below hb2)).trans HL.out.2)
       have HP5:=hid (show PartsV _ C lb op _ os W from ⟨HP.out.label,HP.out.op,HP.out.ops,(HP.out.at_.below hb2).fq HL.out.2⟩)
       have HB5:=hid ((HBX.out.below hb2).frQ HL.out.2 rfl (fun h=>by cases h))
       clear hown4 hgrow hat hc4 hf4 hb2 y2 n1 f1 d0
       have z0:=HB5.out.cell 0 (by simp)
       have z1:=HB5.out.cell 1 (by simp)
       have z2:=HB5.out.cell 2 (by simp)
       go_wp2_with fail
       have hlv:=left_any _ B r at_ vm _ vl ms _ outs calls lb op _ _ os W C HL.out.1 HP5.out (Or.inl HW.out) HNE.out hol (Nat.le_trans hB HF5.out.size)
       rw [HXR.out] at hlv
       refine hlv.mono ?_
       rintro e w6 ⟨rfl,hf6,hst6,her6⟩
       go_wp2_with fail
       first|go_end0|refine bodyPost_ret (results_none rfl _ _ _) rfl ?_
       refine ⟨rfl,HF5.out.trans hf6,fun h0=>?_,her6⟩
       obtain ⟨vl',outs',h1,h2⟩:=hst6 h0
       exact ⟨_,_,_,_,_,_,_,h1,h2⟩
     ·have k0:(er != 0)=true:=by simpa using h0
      have hxr:=HXR.out
      rw [if_pos h0] at hxr
      have HXR:=hid hxr
      have H0:=hid h0
      clear hxr h0
      go_wp2_with (first|(go_at_call 60;refine (bad_any _ r _ _ _ _ _ er at_ HX.out.row).mono ?_;rintro e w2 ⟨rfl,rfl⟩))
      first|go_end0|refine bodyPost_ret (results_none rfl _ _ _) rfl ?_
      rw [←HXR.out]
      exact rd_bad HX.out HF.out H0.out
  ·rw [if_pos (Or.inr h2)] at hxr
   have k2:((os.length:Int) != 2)=true:=by rw [bne_iff_ne];omega
   have HXR:=hid hxr
   clear hxr h2 hlb
   go_wp2_with (first|(go_at_call 60;refine (bad_any _ r _ _ _ _ _ 4 at_ HX.out.row).mono ?_;rintro e w2 ⟨rfl,rfl⟩))
   first|go_end0|refine bodyPost_ret (results_none rfl _ _ _) rfl ?_
   rw [←HXR.out]
   exact rd_bad HX.out HF.out (by decide)
 ·rw [if_pos (Or.inl (fun c=>hlb (t1.1 c)))] at hxr
  have kl:=not_empty lb (by omega)
  have HXR:=hid hxr
  clear hxr hlb
  go_wp2_with (first|(go_at_call 60;refine (bad_any _ r _ _ _ _ _ 4 at_ HX.out.row).mono ?_;rintro e w2 ⟨rfl,rfl⟩))
  first|go_end0|refine bodyPost_ret (results_none rfl _ _ _) rfl ?_
  rw [←HXR.out]
  exact rd_bad HX.out HF.out (by decide)
end
section
attribute [local go_sem ↓] Go.wp_at_zero Go.wp_at_succ
def StrLt (D:Nat) (v:Value):Prop:=∀b off n c,v=.slice (some ⟨b,off,none⟩) n c→b<D
theorem StrV.lt {w:World}{B:Nat}{v:Value}{ss:List ByteArray}(h:StrV w B v ss):StrLt w.heap.size v:=by
 rintro b off n c rfl
 rcases h with ⟨h,_⟩|⟨b',_,_,_,h1,_,h3,_⟩
 ·cases h
 ·injection h1 with h1 _ _
  injection h1 with h1
  injection h1 with h1 _
  subst h1
  exact (Array.getElem?_eq_some_iff.1 h3).1
theorem StrV.ahead {w w':World}{B D:Nat}{v:Value}{ss:List ByteArray}(h:StrV w B v ss) (hl:StrLt D v) (hb:Below D w w'):StrV w' B v ss:=by
 rcases h with h|⟨b,off,cap,cur,h1,h2,h3,h4⟩
 ·exact Or.inl h
 ·exact Or.inr ⟨b,off,cap,cur,h1,h2,by rw [hb.block b (hl b off _ _ h1)];exact h3,h4⟩
def DefPost (B b r:Nat) (lv fv mv pv dv vo:Value) (at_:Nat) (x:Int×Option MacP) (w:World) (e:Ending) (w':World):Prop:=
 e=.returned (.tuple #[])∧(x.1≠0→Fq B [] w w'∧RdErr w' r x.1 at_∧BkRow w' b lv fv mv pv dv) ∧
  (x.1=0→∃gd nm qv ps,x.2=some ⟨L nm,ps.map L,[]⟩∧Keeps [b] w w'∧RowT w' 130 b [lv,fv,mv,pv,dv,vo,.pointer (some ⟨gd,0,none⟩)]∧w.heap.size≤gd∧RowT w' 192 gd [.string nm,qv,.slice none 0 0]∧StrV w' 0 qv ps∧StrLt w.heap.size qv)
theorem def_bad {w w1:World}{B b r:Nat}{lv fv mv pv dv vo vm vn vl:Value}{p:Option Addr}{opens:List OpenP}{y:Option MacP}{at_ calls:Nat}{ms:List MacQ}{ns:List (ByteArray×Int)}{outs:List (ByteArray×Nat)}{er:Int}(hx:RdAt w1 B r vm vn vl ms ns outs calls) (hk:BkAt w1 B b lv fv mv pv dv vo (.pointer p) opens) (hf:Fq B [] w w1) (h0:er≠0) :
  DefPost B b r lv fv mv pv dv vo at_ (er,y) w (.returned (.tuple #[])) ((w1.setCell ⟨r,4,none⟩ (.int .i64 er)).setCell ⟨r,5,none⟩ (.int .i64 (at_:Nat))):=by
 obtain ⟨p1,p2⟩:=bad_post (er:=er) (at_:=at_) hx.row hx.at_
 exact ⟨rfl,fun _=>⟨hf.trans p1,p2,(hk.fq p1 (by simp) (fun _ _=>by simp)).toRow⟩,fun c=>absurd c h0⟩
set_option maxRecDepth 100000 in
set_option maxHeartbeats 3200000 in
theorem defines_any (w:World) (B b r:Nat) (lv fv pv dv vo:Value) (mp p:Option Addr) (opens:List OpenP) (at_:Nat) (st:StP) (lb op:ByteArray) (va:Option Addr) (vc:Nat) (os:List ByteArray) (W:WordsP) (C k:Nat)
  (h:BkAt w B b lv fv (.pointer mp) pv dv vo (.pointer p) opens) (hx:RdSt w B r st) (hp:PartsV w C lb op (.slice va os.length vc) os W) (hw:WOk W) (hok:StOk st k) :
  Calls Tryz.prog 131 #[.pointer (some ⟨b,0,none⟩),.pointer (some ⟨r,0,none⟩),.agg #[.string lb,.string op,.slice va os.length vc],.int .i64 (at_:Nat)] w (DefPost B b r lv fv (.pointer mp) pv dv vo at_ (defP mp.isSome W st) w):=by
 obtain ⟨vm,vn,vl,ms,ns,outs,calls,hx,hst⟩:=hx
 subst hst
 obtain ⟨x,hxr⟩:∃x,defP mp.isSome W (stQ ms ns outs calls)=x:=⟨_,rfl⟩
 rw [hxr]
 obtain ⟨b1,b2,b3⟩:=hw.parts hp
 have hml:ms.length≤3001:=by
  have h1:=hok.few
  have h2:=hok.taken
  simp only [stQ,List.length_map] at h1
  omega
 obtain ⟨t1,t2,t3⟩:=hp.two
 have HLT:=hid hp.at_.lt
 have hb0:Below w.heap.size w (w.alloc (.cells #[.string lb,.string op,.slice va os.length vc] 134)):=(Below.refl _ _).alloc (Nat.le_refl _) _
 have HX:=hid (hx.below hb0)
 have HBK:=hid (h.below hb0)
 have HP:=hid (hp.below hb0)
 have HF:=hid hb0
 have HBX:=hid (show RowT (w.alloc (.cells #[.string lb,.string op,.slice va os.length vc] 134)) 134 w.heap.size [.string lb,.string op,.slice va os.length vc] from RowT.new w 134 [.string lb,.string op,.slice va os.length vc])
 have HSZ:=hid b2
 have HT3:=hid t3
 clear hx hp hb0 b2 t3 hw h hok
 unfold defP at hxr
 go_enter Tryz.func131,Tryz.ntmps131
 go_upto_region 1 with fail
 generalize w.alloc (.cells #[.string lb,.string op,.slice va os.length vc] 134)=w1 at HX HBK HP HF HBX ⊢
 obtain ⟨bx,hbx⟩:∃bx,w.heap.size=bx:=⟨_,rfl⟩
 rw [hbx] at HBX ⊢
 have HBQ:=hid hbx
 clear hbx
 have y0:=HBX.out.cell 0 (by simp)
 have y2:=HBX.out.cell 2 (by simp)
 have c2:w1.cell? ⟨b,2,none⟩=some (.pointer mp):=HBK.out.row.cell 2 (by simp)
 cases mp with
 |some am =>
  rw [if_pos (by simp)] at hxr
  have HXR:=hid hxr
  clear hxr
  go_wp2_with (first|(go_at_call 60;refine (bad_any _ r _ _ _ _ _ 2 at_ HX.out.row).mono ?_;rintro e w2 ⟨rfl,rfl⟩))
  first|go_end0|refine bodyPost_ret (results_none rfl _ _ _) rfl ?_
  rw [←HXR.out]
  exact def_bad HX.out HBK.out (Fq.of_below HF.out) (by decide)
 |none =>
  rw [if_neg (by simp)] at hxr
  by_cases hlb:lb.size=0
  ·rw [t1.2 hlb] at hxr
   have kl:=is_empty lb hlb
   by_cases h0:os.length=0
   ·rw [if_pos (Or.inr (List.eq_nil_of_length_eq_zero (by omega)))] at hxr
    have k0:((os.length:Int)==0)=true:=by rw [beq_iff_eq];omega
    have HXR:=hid hxr
    clear hxr hlb h0
    go_wp2_with (first|(go_at_call 60;refine (bad_any _ r _ _ _ _ _ 4 at_ HX.out.row).mono ?_;rintro e w2 ⟨rfl,rfl⟩))
    first|go_end0|refine bodyPost_ret (results_none rfl _ _ _) rfl ?_
    rw [←HXR.out]
    exact def_bad HX.out HBK.out (Fq.of_below HF.out) (by decide)
   ·rw [if_neg (by
     rintro (h|h)
     ·exact h rfl
     ·rw [h] at t2;simp at t2;omega)] at hxr
    have k0:((os.length:Int)==0)=false:=by rw [beq_eq_false_iff_ne];omega
    have HXR:=hid hxr
    have hcellA:=fun i (hi:i<os.length)=>HP.out.at_.cell i hi
    have hpos:0<os.length:=by omega
    obtain ⟨bo,off,cap,hv,hbl,d0⟩:=hcellA 0 hpos
    injection hv with hv1 _ hv2
    subst hv1 hv2
    have hcell:∀i (hi:i<os.length),w1.cell? ⟨bo,off+i,none⟩=some (.string os[i]):=fun i hi=>by
     obtain ⟨_,_,_,hv',_,d1⟩:=hcellA i hi
     injection hv' with h1 _ _
     injection h1 with h1
     injection h1 with h2 h3
     subst h2 h3
     exact d1
    have HC:=hid hcell
    clear hcell hcellA d0 hxr h0 hlb
    go_wp2_with fail
    go_loopw [8] (fun i wr=>∃j:Nat,j≤os.length∧i=.int .i64 j∧Below w1.heap.size w1 wr∧∀i,i<j→okAt W.operands i=true) (fun i _=>os.length-(intOf i).toNat)
    case atStart=>exact ⟨0,Nat.zero_le _,rfl,Below.refl _ _,fun i hi=>by omega⟩
    case round =>
     obtain ⟨j,hj,rfl,hbr,hall⟩:=hrel
     have HBR:=hid hbr
     have HALL:=hid hall
     clear hbr hall
     have z2:=(HBR.out.cell (p:=⟨bx,2,none⟩) HBX.out.lt).trans y2
     by_cases hlt:j<os.length
     ·have kd:decide ((j:Int)<os.length)=true:=by simp;omega
      have cj:=(HBR.out.cell (p:=⟨bo,off+j,none⟩) hbl).trans (HC.out j hlt)
      have ij0:(0:Int)≤(j:Int):=Int.natCast_nonneg _
      have ij1:(j:Int)<(os.length:Int):=by omega
      have hgj:W.operands.getD j []=L os[j]:=HT3.out j hlt
      have HRN:=hid (refName_any os[j] wr (by have:=HSZ.out j hlt;unfold maxLen;omega))
      have HGJ:=hid hgj
      obtain ⟨sj,hsj⟩:∃s,os[j]=s:=⟨_,rfl⟩
      rw [hsj] at cj HRN HGJ
      have HSJ:=hid hsj
      clear hgj hsj
      go_wp2_with (first|(go_at_call 58;refine HRN.out.mono ?_;rintro e w2 ⟨rfl,hw2⟩;obtain rfl:=hw2.symm))
      go_loopw [9,10] (fun ok i wy=>∃m:Nat,1≤m∧(m=1∨m≤j)∧i=.int .i64 m∧ok=.bool (nameB (L sj)&&neqTo W.operands j m)∧Below w1.heap.size w1 wy) (fun _ i _=>j-(intOf i).toNat)
      case atStart=>exact ⟨1,Nat.le_refl _,Or.inl rfl,rfl,by rw [neqTo_one,Bool.and_true],HBR.out⟩
      case round =>
       obtain ⟨m,hm1,hmj,rfl,rfl,hby⟩:=hrel
       have HBY:=hid hby
       clear hby
       have z2:=(HBY.out.cell (p:=⟨bx,2,none⟩) HBX.out.lt).trans y2
       obtain ⟨ob,hob⟩:∃ob,(nameB (L sj)&&neqTo W.operands j m)=ob:=⟨_,rfl⟩
       rw [hob]
       have HOB:=hid hob
       clear hob
       by_cases hmlt:m<j
       ·have km:decide ((m:Int)<j)=true:=by simp;omega
        have hml':m<os.length:=by omega
        have cm:=(HBY.out.cell (p:=⟨bo,off+m,none⟩) hbl).trans (HC.out m hml')
        have cj2:=(HBY.out.cell (p:=⟨bo,off+j,none⟩) hbl).trans (HC.out j hlt)
        rw [HSJ.out] at cj2
        have hgm:W.operands.getD m []=L os[m]:=HT3.out m hml'
        obtain ⟨sm,hsm⟩:∃s,os[m]=s:=⟨_,rfl⟩
        rw [hsm] at cm hgm
        have HGM:=hid hgm
        clear hsm hgm
        have im0:(0:Int)≤(m:Int):=Int.natCast_nonneg _
        have im1:(m:Int)<(os.length:Int):=by omega
        cases ob with
        |true =>
         by_cases he:L sm=L sj
         ·have kb:(sm.toList==sj.toList)=true:=beq_of_L he
          have HE:=hid (show (nameB (L sj)&&neqTo W.operands j (m+1))=false by
           show (nameB (L sj)&&(neqTo W.operands j m&&(decide (m=0) || decide (W.operands.getD m []≠W.operands.getD j []))))=false
           rw [HGM.out,HGJ.out,decide_eq_false (show ¬m=0 by omega),decide_eq_false (fun c:L sm≠L sj=>c he)]
           simp)
          clear he
          go_wp2_with fail
          go_quiet (fail)
          go_wp2_with fail
          go_roundw
          case rel=>exact ⟨m+1,by omega,Or.inr (by omega),by go_num,by rw [HE.out],below_drewN HBY.out _⟩
          case measure=>simp [intOf];omega
         ·have kb:(sm.toList==sj.toList)=false:=nbeq_of_L he
          have HE:=hid (show (nameB (L sj)&&neqTo W.operands j (m+1))=true by
           have h2:=HOB.out
           rw [Bool.and_eq_true] at h2
           show (nameB (L sj)&&(neqTo W.operands j m&&(decide (m=0) || decide (W.operands.getD m []≠W.operands.getD j []))))=true
           rw [HGM.out,HGJ.out,decide_eq_true (show L sm≠L sj from he),h2.1,h2.2]
           simp)
          clear he
          go_wp2_with fail
          go_quiet (fail)
          go_wp2_with fail
          go_roundw
          case rel=>exact ⟨m+1,by omega,Or.inr (by omega),by go_num,by rw [HE.out],below_drewN HBY.out _⟩
          case measure=>simp [intOf];omega
        |false =>
         have HE:=hid (show (nameB (L sj)&&neqTo W.operands j (m+1))=false by
          have:=HOB.out
          rw [Bool.and_eq_false_iff] at this ⊢
          rcases this with h|h
          ·exact Or.inl h
          ·exact Or.inr (by simp [neqTo,h]))
         go_wp2_with fail
         go_quiet (fail)
         go_wp2_with fail
         go_roundw
         case rel=>exact ⟨m+1,by omega,Or.inr (by omega),by go_num,by rw [HE.out],below_drewN HBY.out _⟩
         case measure=>simp [intOf];omega
       ·have km:decide ((m:Int)<j)=false:=by simp;omega
        have HOK:=hid (show okAt W.operands j=ob by
         rw [←HOB.out]
         unfold okAt
         rw [HGJ.out]
         congr 1
         rcases hmj with rfl|h
         ·rcases (show j=0∨j=1 by omega) with rfl|rfl<;>rfl
         ·obtain rfl:m=j:=by omega
          rfl)
        cases ob with
        |false =>
         have hxr:=HXR.out
         rw [if_pos (heads_bad (by rw [t2];exact hlt) HOK.out)] at hxr
         have HXR:=hid hxr
         clear hxr
         have HX:=hid (HX.out.below HBY.out)
         have HBK:=hid (HBK.out.below HBY.out)
         have HF:=hid (HF.out.trans (HBY.out.mono HF.out.size))
         go_wp2_with (first|(go_at_call 60;refine (bad_any _ r _ _ _ _ _ 4 at_ HX.out.row).mono ?_;rintro e w2 ⟨rfl,rfl⟩))
         first|go_end0|refine bodyPost_ret (results_none rfl _ _ _) rfl ?_
         rw [←HXR.out]
         exact def_bad HX.out HBK.out (Fq.of_below HF.out) (by decide)
        |true =>
         go_wp2_with fail
         go_roundw
         case rel =>
          refine ⟨j+1,by omega,by go_num,HBY.out,fun i hi=>?_⟩
          rcases Nat.lt_or_ge i j with h|h
          ·exact HALL.out i h
          ·obtain rfl:i=j:=by omega
           exact HOK.out
         case measure=>simp [intOf];omega
     ·have kd:decide ((j:Int)<os.length)=false:=by simp;omega
      have hxr:=HXR.out
      obtain ⟨q1,q2⟩:=(heads_ok W.operands).2 (fun i hi=>HALL.out i (by omega))
      rw [if_neg (by rw [q1,q2];simp)] at hxr
      obtain ⟨n0,hn0⟩:∃n0,os[0]=n0:=⟨_,rfl⟩
      have e0:W.operands.headD []=L n0:=by rw [headD_get,←hn0];exact HT3.out 0 hpos
      have e1:W.operands.tail=os.tail.map L:=by rw [←HP.out.ops];cases os<;>rfl
      rw [e0,e1] at hxr
      have HXR:=hid hxr
      have c0:wr.cell? ⟨bo,off,none⟩=some (.string n0):=by
       have h9:=HC.out 0 hpos
       rw [Nat.add_zero,hn0] at h9
       rw [HBR.out.cell (p:=⟨bo,off,none⟩) hbl]
       exact h9
      have HX:=hid (HX.out.below HBR.out)
      have HBK:=hid (HBK.out.below HBR.out)
      have HP:=hid (HP.out.below HBR.out)
      have HBX:=hid (HBX.out.below HBR.out)
      have HF:=hid (HF.out.trans (HBR.out.mono HF.out.size))
      have hblr:bo<wr.heap.size:=Nat.lt_of_lt_of_le hbl HBR.out.size
      have hpos1:(1:Int)≤(os.length:Int):=by omega
      have hpos2:(0:Int)<(os.length:Int):=by omega
      clear hxr q1 q2 e0 e1 HBR HALL HC hn0 hbl y0 y2 c2
      go_wp2_with fail
      refine (macro_any _ B r vm vn vl ms ns outs calls HX.out hml n0).mono ?_
      rintro e w2 ⟨hw2,hcase⟩
      obtain rfl:=hw2.symm
      rcases hcase with ⟨hf,rfl⟩|⟨m,hm,hf,rfl⟩
      ·have hxr:=HXR.out
       rw [show (stQ ms ns outs calls).macros=ms.map plainQ from rfl,hf] at hxr
       have HXR:=hid (show (0,some ⟨L n0,os.tail.map L,[]⟩)=x from hxr)
       clear hxr hf
       have hcap:os.length≤vc:=by
        rcases HP.out.at_ with ⟨h1,_⟩|⟨_,_,_,_,h1,_,_,h2,_⟩
        ·cases h1
        ·injection h1 with _ _ h3;omega
       obtain ⟨pa,hpa⟩:∃pa:Option Addr,(if vc=1 then some ⟨bo,off,none⟩ else some ⟨bo,off+1,none⟩)=pa:=⟨_,rfl⟩
       have HST:=hid (show StrV wr 0 (.slice pa (os.length-1) (vc-1)) os.tail by
        rcases HP.out.at_ with ⟨h1,_⟩|⟨b',off',cap',cur,h1,_,h3,h4,h5⟩
        ·cases h1
        ·injection h1 with h6 _ h7
         injection h6 with h6
         injection h6 with h8 h9
         subst h8 h9
         by_cases hv1:vc=1
         ·rw [if_pos hv1] at hpa
          have h0:os.tail=[]:=List.eq_nil_of_length_eq_zero (by rw [List.length_tail];omega)
          exact Or.inr ⟨bo,off,vc-1,cur,by rw [h0,←hpa,show os.length-1=0 from by omega];rfl,Nat.zero_le _,h3,by rw [h0];simp,fun i hi=>by rw [h0] at hi;simp at hi⟩
         ·rw [if_neg hv1] at hpa
          refine Or.inr ⟨bo,off+1,vc-1,cur,by rw [List.length_tail,←hpa],Nat.zero_le _,h3,by rw [List.length_tail];omega,fun i hi=>?_⟩
          rw [List.length_tail] at hi
          rw [show off+1+i=off+(i+1) from by omega,h5 (i+1) (by omega)]
          simp)
       have HPA:=hid hpa
       have a2:∀o,(wr.alloc o).cell? ⟨bx,2,none⟩=some (.slice (some ⟨bo,off,none⟩) os.length vc):=fun o=>(HBX.out.alloc o).cell 2 (by simp)
       have ak:∀o,(wr.alloc o).cell? ⟨bo,off,none⟩=some (.string n0):=fun o=>by
        rw [((Below.refl wr.heap.size wr).alloc (Nat.le_refl _) o).cell (p:=⟨bo,off,none⟩) hblr];exact c0
       have hp1:1≤os.length:=by omega
       have f6:=HBK.out.row.free 6
       have c6:=HBK.out.row.cell 6 (by simp)
       have c6:wr.cell? ⟨b,6,none⟩=some (.pointer p):=c6
       have a6:∀o,(wr.alloc o).cell? ⟨b,6,none⟩=some (.pointer p):=fun o=>(HBK.out.row.alloc o).cell 6 (by simp)
       have b6:∀o,(wr.alloc o).frozen? ⟨b,6,none⟩=false:=fun o=>(HBK.out.row.alloc o).free 6
       have hltb:=HBK.out.row.lt
       clear hpa hcap
       go_wp2_with fail
       go_region
       rw [HPA.out]
       go_end0
       rw [←HXR.out]
       have hrow:RowT ((wr.setCell ⟨b,6,none⟩ (.pointer (some ⟨wr.heap.size,0,none⟩))).alloc (.cells #[.string n0,.slice pa (os.length-1) (vc-1),.slice none 0 0] 192)).drew 192 wr.heap.size [.string n0,.slice pa (os.length-1) (vc-1),.slice none 0 0]:=by
        have h9:=RowT.new (wr.setCell ⟨b,6,none⟩ (.pointer (some ⟨wr.heap.size,0,none⟩))) 192 [.string n0,.slice pa (os.length-1) (vc-1),.slice none 0 0]
        rw [show (wr.setCell ⟨b,6,none⟩ (.pointer (some ⟨wr.heap.size,0,none⟩))).heap.size=wr.heap.size from by simp] at h9
        exact h9
       refine ⟨rfl,fun c=>absurd rfl c,fun _=>⟨wr.heap.size,n0,_,os.tail,rfl,?_,?_,HF.out.size,hrow,?_,?_⟩⟩
       ·exact (((Keeps.of_below HF.out).setCell (p:=⟨b,6,none⟩) (by simp) _).alloc _).drew
       ·exact ((HBK.out.row.set 6 _).alloc _).below ((Below.refl _ _).drew)
       ·exact (HST.out.set b 6 _ (RowT.notStr HBK.out.row (by decide))).below (((Below.refl _ _).alloc (Nat.le_refl _) _).drew)
       ·intro b' off' n' c' he
        injection he with he _ _
        have hbo:=HLT.out bo off _ _ rfl
        rw [←HPA.out] at he
        split at he
        ·injection he with he;injection he with he _;omega
        ·injection he with he;injection he with he _;omega
      ·have hxr:=HXR.out
       rw [show (stQ ms ns outs calls).macros=ms.map plainQ from rfl,hf] at hxr
       have HXR:=hid (show (5,none)=x from hxr)
       clear hxr hf hm
       go_wp2_with (first|(go_at_call 60;refine (bad_any _ r _ _ _ _ _ 5 at_ HX.out.row).mono ?_;rintro e w3 ⟨rfl,rfl⟩))
       first|go_end0|refine bodyPost_ret (results_none rfl _ _ _) rfl ?_
       rw [←HXR.out]
       exact def_bad HX.out HBK.out (Fq.of_below HF.out) (by decide)
  ·rw [if_pos (Or.inl (fun c=>hlb (t1.1 c)))] at hxr
   have kl:=not_empty lb (by omega)
   have HXR:=hid hxr
   clear hxr hlb
   go_wp2_with (first|(go_at_call 60;refine (bad_any _ r _ _ _ _ _ 4 at_ HX.out.row).mono ?_;rintro e w2 ⟨rfl,rfl⟩))
   first|go_end0|refine bodyPost_ret (results_none rfl _ _ _) rfl ?_
   rw [←HXR.out]
   exact def_bad HX.out HBK.out (Fq.of_below HF.out) (by decide)
end
end Go.Proofs.YtcepppilgncdmaaGreatDoor
