/-
  Joined: PCall PTop QTop PaTop PaMas.
-/
import Derived.Test.YtcepppilgncdmaaGreatDoorBX29
import Derived.Test.YtcepppilgncdmaaGreatDoorBX34
namespace Go.Proofs.YtcepppilgncdmaaGreatDoor
open Go.RowKit
section
attribute [local go_sem ↓] Go.wp_at_zero Go.wp_at_succ
theorem ExpAt.count {w:World}{B be bt wi k:Nat}{vm vn vl:Value}{ms:List MacV}{ns:List (ByteArray×Int)}{outs:List (ByteArray×Nat)}{calls:Nat}(h:ExpAt w B be bt wi k vm vn vl ms ns outs calls) (j:Nat) (u:Value) (wi' calls':Nat)
  (hs:[.pointer (some ⟨bt,0,none⟩),vm,vn,.int .i64 (wi:Nat),.int .i64 (calls:Nat),vl].set j u=[.pointer (some ⟨bt,0,none⟩),vm,vn,.int .i64 (wi':Nat),.int .i64 (calls':Nat),vl]) :
  ExpAt (w.setCell ⟨be,j,none⟩ u) B be bt wi' k vm vn vl ms ns outs calls'∧Fr B [] w (w.setCell ⟨be,j,none⟩ u):=by
 have hf:Fr B [] w (w.setCell ⟨be,j,none⟩ u):=(Fr.refl B [] w).setCell (p:=⟨be,j,none⟩) (h.row.may h.at_ (Or.inl rfl)) u
 obtain ⟨xs,h1,h2⟩:=h.text
 have hr:=h.row.set j u
 rw [hs] at hr
 exact ⟨⟨hr,ownsRow_setCell_other h.mown (a:=⟨be,j,none⟩) (own_row_ne h.mown h.row (by decide)) _,ownsRow_setCell_other h.nown (a:=⟨be,j,none⟩) (own_row_ne h.nown h.row (by decide)) _,ownsRow_setCell_other h.lown (a:=⟨be,j,none⟩) (own_row_ne h.lown h.row (by decide)) _,fun m hm=>⟨(h.mstr m hm).1.fr hf,(h.mstr m hm).2.fr hf⟩,h.at_,xs,h1.fr hf rfl (fun _=>by simp),h2⟩,hf⟩
theorem NumAt.cell {w:World}{be bt wi k:Nat}(h:NumAt w be bt wi k):w.cell? ⟨be,3,none⟩=some (.int .i64 (wi:Nat))∧w.frozen? ⟨be,3,none⟩=false:=by
 obtain ⟨ys,xs,h1,h0,h2,h3⟩:=h
 obtain ⟨hl,hy⟩:=List.getElem?_eq_some_iff.1 h0
 refine ⟨?_,h1.free 3⟩
 rw [h1.cell 3 (by simp;omega)]
 exact congrArg some hy
theorem NumAt.count {w:World}{B be bt wi k:Nat}(h:NumAt w be bt wi k) (hB:B≤be) (wi':Nat):NumAt (w.setCell ⟨be,3,none⟩ (.int .i64 (wi':Nat))) be bt wi' k∧Fr B [] w (w.setCell ⟨be,3,none⟩ (.int .i64 (wi':Nat))):=by
 obtain ⟨ys,xs,h1,h0,h2,h3⟩:=h
 obtain ⟨hl,hy⟩:=List.getElem?_eq_some_iff.1 h0
 have hf:Fr B [] w (w.setCell ⟨be,3,none⟩ (.int .i64 (wi':Nat))):=(Fr.refl B [] w).setCell (p:=⟨be,3,none⟩) (h1.may hB (Or.inl rfl)) _
 exact ⟨⟨ys.set 2 (.int .i64 (wi':Nat)),xs,h1.set 3 _,by rw [List.getElem?_set_self hl],h2.fr hf rfl (fun _=>by simp),h3⟩,hf⟩
theorem ExpSt.count {w:World}{B be bt wi k:Nat}{st:StP}(h:ExpSt w B be bt wi k st) (wi':Nat):ExpSt (w.setCell ⟨be,3,none⟩ (.int .i64 (wi':Nat))) B be bt wi' k st:=by
 obtain ⟨vm,vn,vl,ms,ns,outs,calls,hx,rfl⟩:=h
 exact ⟨vm,vn,vl,ms,ns,outs,calls,(hx.count 3 _ wi' calls rfl).1,rfl⟩
theorem ExpAt.macAt {w:World}{B be bt wi k:Nat}{vm vn vl:Value}{ms:List MacV}{ns:List (ByteArray×Int)}{outs:List (ByteArray×Nat)}{calls:Nat}(h:ExpAt w B be bt wi k vm vn vl ms ns outs calls) {g cap i:Nat}(hvm:vm=.slice (some ⟨g,0,none⟩) ms.length cap) (hi:i<ms.length) :
  w.cell? ⟨g,i*3+1,none⟩=some ms[i].pv∧w.cell? ⟨g,i*3+2,none⟩=some ms[i].bv:=by
 have ho:=h.mown
 rw [hvm] at ho
 exact ⟨(ho.cellAt (i*3+1) (by omega)).trans (macCells_at ms i hi).2.1,(ho.cellAt (i*3+2) (by omega)).trans (macCells_at ms i hi).2.2⟩
theorem call_zero:CallOk 0:=by
 intro w B be bt wi k vm vn vl ms ns outs calls i g cap lb op va vc os W C hi hwn hx hok hvm hp hW hm hgB hB hbt
 have hwi:wi=8:=by omega
 subst hwi
 have hb0:Below w.heap.size w (w.alloc (.cells #[.string lb,.string op,.slice va os.length vc] 101)):=(Below.refl _ _).alloc (Nat.le_refl _) _
 have HX:=hid (hx.below hb0)
 have HF:=hid (show Fr B [] w (w.alloc (.cells #[.string lb,.string op,.slice va os.length vc] 101)) from Fr.of_below hb0)
 have c3:=HX.out.row.cell 3 (by simp)
 clear hx hok hp hW hm hb0
 go_enter Tryz.func109,Tryz.ntmps109
 go_wp2_with fail
 go_ret
 exact ⟨rfl,HF.out,HX.out.num,fun h=>by cases h⟩
theorem label_text (l:List UInt8) (h:l.length≤100):(textP ⟨l,[],[]⟩).length≤1000000:=by
 have:(textP ⟨l,[],[]⟩).length≤l.length+1:=by
  unfold textP
  simp only [joined]
  by_cases hl:l=[]<;>simp [hl]
 omega
set_option maxRecDepth 100000 in
set_option maxHeartbeats 1600000 in
theorem call_succ (n:Nat) (hcall:CallOk n):CallOk (n+1):=by
 intro w B be bt wi k vm vn vl ms ns outs calls i g cap lb op va vc os W C hi hwn hx hok hvm hp hW hm hgB hB hbt
 have hb0:Below w.heap.size w (w.alloc (.cells #[.string lb,.string op,.slice va os.length vc] 101)):=(Below.refl _ _).alloc (Nat.le_refl _) _
 obtain ⟨q1,q2,q3⟩:=hW.parts hp
 have hB0:B≤(w.alloc (.cells #[.string lb,.string op,.slice va os.length vc] 101)).heap.size:=Nat.le_trans hB hb0.size
 have HX:=hid (hx.below hb0)
 have HP:=hid (hp.below hb0)
 have HBX:=hid (RowT.new w 101 [.string lb,.string op,.slice va os.length vc])
 have HF:=hid (show Fr B [] w (w.alloc (.cells #[.string lb,.string op,.slice va os.length vc] 101)) from Fr.of_below hb0)
 have HM:=hid (hm.below hb0)
 have HOK:=hid hok
 have HWK:=hid hW
 have HQ2:=hid q2
 have hmac:MacOk (plainM ms[i]):=hok.macs _ (by simp only [stOf];exact List.mem_map.2 ⟨_,List.getElem_mem hi,rfl⟩)
 have HMAC:=hid hmac
 have hcl:calls≤200:=hok.calls
 have c3:=HX.out.row.cell 3 (by simp)
 have c4:=HX.out.row.cell 4 (by simp)
 have f3:=HX.out.row.free 3
 have f4:=HX.out.row.free 4
 have y0:=HBX.out.cell 0 (by simp)
 have y1:=HBX.out.cell 1 (by simp)
 have y2:=HBX.out.cell 2 (by simp)
 have HSTR:=hid (HX.out.mstr ms[i] (List.getElem_mem hi))
 obtain ⟨pa,pc,hpv⟩:=HSTR.out.1.form
 obtain ⟨ba,bc,hbv⟩:=HSTR.out.2.form
 have HPVE:=hid hpv
 have HBVE:=hid hbv
 have cm1:=(HX.out.macAt hvm hi).1
 have cm2:=(HX.out.macAt hvm hi).2
 rw [hpv] at cm1
 rw [hbv] at cm2
 have hops:W.operands.length=os.length:=by rw [←hp.ops,List.length_map]
 have hpar:(plainM ms[i]).params.length=ms[i].ps.length:=by simp [plainM]
 have hlp:ms[i].ps.length≤100:=by have:=hmac.1;rw [hpar] at this;exact this
 have kw:((wi:Int)==8)=false:=by rw [beq_eq_false_iff_ne];omega
 obtain ⟨r,hr⟩:∃r,callN (n+1) (plainM ms[i]) W k (stOf ms ns outs calls)=r:=⟨_,rfl⟩
 rw [hr]
 rw [callN,hops,hpar] at hr
 have HR:=hid hr
 have hlab:W.label.length≤100:=hW.bd.1
 have HLB:=hid hp.label
 clear hx hp hb0 hm hok hW q2 hmac hpv hbv hr
 by_cases h1:os.length=ms[i].ps.length
 ·have k1:((os.length:Int) != (ms[i].ps.length:Int))=false:=by simp [h1]
  by_cases h2:calls=200
  ·have k2:((calls:Int)==200)=true:=by rw [beq_iff_eq];omega
   have hr:=HR.out
   rw [if_neg (fun c=>c h1),if_pos (by simp [stOf,h2])] at hr
   subst hr
   clear h1 h2
   go_enter Tryz.func109,Tryz.ntmps109
   go_wp2_with fail
   go_quiet (fail)
   go_wp2_with fail
   go_ret
   exact ⟨rfl,HF.out.drewN _,HX.out.num,fun h=>by cases h⟩
  ·have k2:((calls:Int)==200)=false:=by rw [beq_eq_false_iff_ne];omega
   have hr:=HR.out
   rw [if_neg (fun c=>c h1),if_neg (by simp [stOf];omega)] at hr
   have HR:=hid hr
   clear hr
   have H1:=hid h1
   have hc2:calls<200:=by omega
   clear h1 h2
   go_enter Tryz.func109,Tryz.ntmps109
   go_wp2_with fail
   go_quiet (fail)
   go_wp2_with fail
   obtain ⟨q,hq⟩:∃q,leaveP ⟨W.label,[],[]⟩ k (stOf ms ns outs calls)=q:=⟨_,rfl⟩
   have hqok:q.1=0→StOk q.2 k:=by rw [←hq];exact leaveP_ok HOK.out
   have HQOK:=hid hqok
   have HF:=hid (HF.out.drewN nq)
   have hbn:Below (w.alloc (.cells #[.string lb,.string op,.slice va os.length vc] 101)).heap.size (w.alloc (.cells #[.string lb,.string op,.slice va os.length vc] 101)) ((w.alloc (.cells #[.string lb,.string op,.slice va os.length vc] 101)).drewN nq):=below_drewN (Below.refl _ _) _
   have HX:=hid (HX.out.below hbn)
   have HP:=hid (HP.out.below hbn)
   have HM:=hid (HM.out.below hbn)
   have HBX:=hid (HBX.out.below hbn)
   clear hbn
   refine (leave_any' _ B be bt wi k vm vn vl ms ns outs calls lb ⟨#[]⟩ none 0 [] ⟨W.label,[],[]⟩ 0 HX.out ⟨HLB.out,rfl,rfl,Or.inl ⟨rfl,rfl⟩⟩ (label_text _ hlab) (by simp) HOK.out.out hB0).mono ?_
   have hr:=HR.out
   rw [hq] at hr ⊢
   have HR:=hid hr
   clear hr hq hqok
   rintro e w1 ⟨rfl,hf1,hs1,hn1⟩
   by_cases h0:q.1=0
   ·obtain ⟨vl1,outs1,hx1,hst1⟩:=hs1 h0
    have k0:(q.1 != 0)=false:=by simp [h0]
    have c3:=hx1.row.cell 3 (by simp)
    have c4:=hx1.row.cell 4 (by simp)
    have f3:=hx1.row.free 3
    have f4:=hx1.row.free 4
    have cm1:=(hx1.macAt hvm hi).1
    have cm2:=(hx1.macAt hvm hi).2
    rw [HPVE.out] at cm1
    rw [HBVE.out] at cm2
    have hr:=HR.out
    rw [if_neg (fun c=>c h0),hst1] at hr
    have HR:=hid hr
    have HX1:=hid hx1
    have HF1:=hid (HF.out.trans hf1)
    have HM1:=hid (HM.out.fr hf1 hgB)
    have HBX1:=hid (HBX.out.fr hf1 rfl (fun h=>by cases h))
    have y2:=HBX1.out.cell 2 (by simp)
    have HOK1:=hid (hst1 ▸ HQOK.out h0)
    have HP1:=hid (HP.out.fr hf1)
    clear hr hx1 hf1 hs1 hn1 hst1 h0
    go_wp2_with fail
    have he:=HX1.out.count 4 (.int .i64 ((calls:Int)+1)) wi (calls+1) rfl
    have he2:=he.1.count 3 (.int .i64 ((wi:Int)+1)) (wi+1) (calls+1) rfl
    have HX2:=hid he2.1
    have HF2:=hid (HF1.out.trans (he.2.trans he2.2))
    have HM2:=hid (HM1.out.fr (he.2.trans he2.2) hgB)
    have HBX2:=hid (HBX1.out.fr (he.2.trans he2.2) rfl (fun h=>by cases h))
    have HP2:=hid (HP1.out.fr (he.2.trans he2.2))
    have hB2:B≤((w1.setCell ⟨be,4,none⟩ (.int .i64 ((calls:Int)+1))).setCell ⟨be,3,none⟩ (.int .i64 ((wi:Int)+1))).heap.size:=Nat.le_trans hB HF2.out.size
    clear he he2 c3 c4 f3 f4 cm1 cm2 y2
    generalize (w1.setCell ⟨be,4,none⟩ (.int .i64 ((calls:Int)+1))).setCell ⟨be,3,none⟩ (.int .i64 ((wi:Int)+1))=w2 at HX2 HF2 HM2 HBX2 HP2 hB2 ⊢
    have cm1:=(HX2.out.macAt hvm hi).1
    have cm2:=(HX2.out.macAt hvm hi).2
    rw [HPVE.out] at cm1
    rw [HBVE.out] at cm2
    have y2:=HBX2.out.cell 2 (by simp)
    have hb3:Below w2.heap.size w2 (w2.alloc (.cells #[.slice none 0 0,.slice ba ms[i].bs.length bc,.int .i64 0,.slice pa ms[i].ps.length pc,.slice va os.length vc] 209)).drew:=((Below.refl _ _).alloc (Nat.le_refl _) _).drew
    have hrow:RowT (w2.alloc (.cells #[.slice none 0 0,.slice ba ms[i].bs.length bc,.int .i64 0,.slice pa ms[i].ps.length pc,.slice va os.length vc] 209)).drew 209 w2.heap.size [.slice none 0 0,.slice ba ms[i].bs.length bc,.int .i64 0,.slice pa ms[i].ps.length pc,.slice va os.length vc]:=RowT.new w2 _ _
    have hstr:=HX2.out.mstr ms[i] (List.getElem_mem hi)
    rw [HPVE.out,HBVE.out] at hstr
    have hmac:=HMAC.out
    have hlines:∀j (hj:j<ms[i].bs.length),ms[i].bs[j].size≤100∧cutL (L ms[i].bs[j])=L ms[i].bs[j]:=fun j hj=>by
     have:=hmac.2.2.2 (L ms[i].bs[j]) (List.mem_map.2 ⟨_,List.getElem_mem hj,rfl⟩)
     rw [L_length] at this
     exact this
    have hpars:∀j (hj:j<ms[i].ps.length),ms[i].ps[j].size≤100:=fun j hj=>by
     have:=hmac.2.1 (L ms[i].ps[j]) (List.mem_map.2 ⟨_,List.getElem_mem hj,rfl⟩)
     rw [L_length] at this
     exact this
    have hbl:ms[i].bs.length≤3001:=by have:=hmac.2.2.1;simp [plainM] at this;exact this
    have htb:bt≠w2.heap.size:=by
     obtain ⟨xs,h1,_⟩:=HX2.out.text
     have:=h1.lt
     omega
    have hok2:StOk (stOf ms ns outs1 (calls+1)) k:=⟨HOK1.out.macs,HOK1.out.names,HOK1.out.out,by show calls+1≤200;omega,HOK1.out.few,HOK1.out.taken⟩
    obtain ⟨R,hR⟩:∃R,blockP (callN n) (some (ms[i].ps.map L,os.map L)) 0 (ms[i].bs.map L) k [] none (stOf ms ns outs1 (calls+1))=R:=⟨_,rfl⟩
    have hRk:R.2.1=k:=by rw [←hR];exact blockP_stays _ _ _ _ _ _ _
    have HRR:=hid (show r=(R.1,R.2.2) by
     rw [←HR.out,←HP2.out.ops,←hR];rfl)
    have hc:=goM_any n hcall _ B be bt (wi+1) k w2.heap.size (stOf ms ns outs1 (calls+1)) (.slice ba ms[i].bs.length bc) (.slice pa ms[i].ps.length pc) (.slice va os.length vc) ms[i].bs ms[i].ps os (by omega) (by omega)
     ⟨_,_,_,_,_,_,_,HX2.out.below hb3,rfl⟩ ⟨⟨hrow,World.ownsRow_nil _ _ _ _,by simp⟩,hstr.2.below hb3,by simp,hbl⟩ (fun j hj=>(hlines j hj).1) (fun j hj=>(hlines j hj).2)
     (hstr.1.below hb3) ((HP2.out.at_.below hb3).mono (Nat.zero_le _)) H1.out.symm (by omega) hpars HQ2.out hok2 (HM2.out.below hb3) hgB (Nat.le_trans hB2 hb3.size) hbt hB2 htb R hR
    have HC:=hid hc
    have HF3:=hid (HF2.out.trans (Fr.of_below hb3))
    have hsz2:=HF2.out.size
    clear hc hb3 hrow hstr hmac hlines hpars hok2 hR
    go_region_with (go_at_call 31;refine HC.out.mono ?_;rintro e w3 ⟨rfl,hf3,hn3,hs3⟩)
    all_goals
     rw [hRk] at hn3 hs3
     have c3:=hn3.cell.1
     have f3:=hn3.cell.2
     have HF4:=hid (HF3.out.trans' hf3 (fun j hj=>Or.inr (by rw [List.mem_singleton] at hj;rw [hj];exact hsz2)))
     have HN3:=hid hn3
     have HS3:=hid hs3
     clear hf3 hn3 hs3
     go_wp2_with fail
     go_ret
     have hcn:=HN3.out.count HX2.out.at_ wi
     refine ⟨by rw [HRR.out];rfl,HF4.out.trans hcn.2,hcn.1,fun h0=>?_⟩
     rw [HRR.out] at h0 ⊢
     exact ⟨(HS3.out h0).1.count wi,(HS3.out h0).2⟩
   ·have k0:(q.1 != 0)=true:=by simp [h0]
    have hr:=HR.out
    rw [if_pos h0] at hr
    subst hr
    clear hs1
    go_wp2_with fail
    go_ret
    exact ⟨rfl,HF.out.trans hf1,hn1,fun h=>absurd h h0⟩
 ·have k1:((os.length:Int) != (ms[i].ps.length:Int))=true:=by simp;omega
  have hr:=HR.out
  rw [if_pos h1] at hr
  subst hr
  clear h1
  go_enter Tryz.func109,Tryz.ntmps109
  go_wp2_with fail
  go_quiet (fail)
  go_wp2_with fail
  go_ret
  exact ⟨rfl,HF.out.drewN _,HX.out.num,fun h=>by cases h⟩
end
section
attribute [local go_sem ↓] Go.wp_at_zero Go.wp_at_succ
theorem call_all:∀n,CallOk n
 |0=>call_zero
 |n+1=>call_succ n (call_all n)
def ExpandPost (r:Int×Nat×List (List UInt8×Nat)) (w:World) (e:Ending) (w':World):Prop:=
 Below w.heap.size w w'∧∃vl outs,e=.returned (.tuple #[vl,.int .i64 r.1,.int .i64 (r.2.1:Nat)])∧(outs.map fun x:ByteArray×Nat=>(L x.1,x.2))=r.2.2∧outs.length≤300∧w'.ownsRow w.heap.size 38 4 vl outs.length (lineCells outs)
def ExpandNil (r:Int×Nat×List (List UInt8×Nat)) (e:Ending):Prop:=r.1≠0→∃x y,e=.returned (.tuple #[.slice none 0 0,x,y])
theorem badLine_ok (ls:List (List UInt8)):∀k,0<k→badLine ls k=0→∀l∈ls,l.length≤80:=by
 induction ls with
 |nil=>intro k _ _ l hl;cases hl
 |cons a r ih =>
  intro k hk h l hl
  unfold badLine at h
  split at h
  ·rename_i ho
   rcases List.mem_cons.1 hl with h1|h1
   ·rw [h1];unfold okLine at ho;simp at ho;exact ho.1
   ·exact ih (k+1) (by omega) h l h1
  ·omega
set_option maxHeartbeats 400000 in
theorem number_num (w:World) (be bt wi k:Nat) (h:NumAt w be bt wi k) :
  Calls Tryz.prog 32 #[.pointer (some ⟨be,0,none⟩)] w fun e w'=>e=.returned (.int .i64 (k:Nat))∧w'=w:=by
 obtain ⟨ys,xs,h1,_,hx,hx2⟩:=h
 have c0:w.cell? ⟨be,0,none⟩=some (.pointer (some ⟨bt,0,none⟩)):=h1.cell 0 (by simp)
 obtain ⟨hlt,hy⟩:=List.getElem?_eq_some_iff.1 hx2
 have c2:w.cell? ⟨bt,2,none⟩=some (.int .i64 (k:Nat)):=by rw [hx.cell 2 hlt,hy]
 clear h1 hx hx2 hy
 go_enter Tryz.func32,Tryz.ntmps32
 go_wp2
 go_ret
 exact ⟨rfl,rfl⟩
set_option maxRecDepth 100000 in
set_option maxHeartbeats 800000 in
theorem Expand_nil (s:ByteArray) (w:World) (hs:s.size≤maxLen) (hm:MaxAt w) :
  Calls Tryz.prog 20 #[.string s] w (fun e w'=>ExpandPost (expandP (L s)) w e w'∧ExpandNil (expandP (L s)) e):=by
 have hg:0<w.heap.size:=by
  obtain ⟨m,h1⟩:=hm
  exact World.block_lt_of_cell? _ _ h1
 obtain ⟨r,hr⟩:∃r,expandP (L s)=r:=⟨_,rfl⟩
 rw [hr]
 unfold expandP at hr
 rw [L_length] at hr
 have HR:=hid hr
 have HM:=hid hm
 clear hr hm
 go_enter Tryz.func20,Tryz.ntmps20
 go_wp2_with fail
 refine (Split_any s _ hs HM.out).mono ?_
 rintro e w1 ⟨hb1,hcase⟩
 rcases hcase with ⟨h1,rfl⟩|⟨h1,h2,rfl⟩|⟨h1,h2,v,ls,h3,h4,rfl⟩
 ·have hr:=HR.out
  rw [if_pos h1] at hr
  subst hr
  go_wp2
  refine bodyPost_ret (v:=.tuple #[.slice none 0 0,.int .i64 1,.int .i64 0]) (by simp [results,Tryz.results20]) rfl ?_
  exact ⟨⟨hb1,.slice none 0 0,[],rfl,rfl,by simp,World.ownsRow_nil _ _ _ _⟩,fun _=>⟨_,_,rfl⟩⟩
 ·have hr:=HR.out
  rw [if_neg h1,if_pos h2] at hr
  subst hr
  clear h1 h2
  go_wp2
  refine bodyPost_ret (v:=.tuple #[.slice none 0 0,.int .i64 1,.int .i64 (badLine (splitB 10 (L s)) 1:Nat)]) (by simp [results,Tryz.results20]) rfl ?_
  exact ⟨⟨hb1,.slice none 0 0,[],rfl,rfl,by simp,World.ownsRow_nil _ _ _ _⟩,fun _=>⟨_,_,rfl⟩⟩
 ·have hr:=HR.out
  rw [if_neg h1,if_neg (fun c=>c h2),←h3] at hr
  have HR:=hid hr
  have hfew:ls.length≤3001:=by
   have:=splitB_len 10 (L s)
   rw [←h3,List.length_map,L_length] at this
   omega
  have HLS:=hid (show ∀i (hi:i<ls.length),ls[i].size≤100 from fun i hi=>by
   have:=badLine_ok _ 1 (by omega) h2 (L ls[i]) (by rw [←h3];exact List.mem_map.2 ⟨_,List.getElem_mem hi,rfl⟩)
   rw [L_length] at this
   omega)
  obtain ⟨la,lc,hv⟩:=h4.form
  subst hv
  have hal:(w1.alloc (.cells #[.slice none 0 0,.slice la ls.length lc,.int .i64 0] 74)).heap.size=w1.heap.size+1:=Array.size_push _
  have hb2:Below w1.heap.size w1 ((w1.alloc (.cells #[.slice none 0 0,.slice la ls.length lc,.int .i64 0] 74)).alloc (.cells #[.pointer (some ⟨w1.heap.size,0,none⟩),.slice none 0 0,.slice none 0 0,.int .i64 0,.int .i64 0,.slice none 0 0] 77)):=((Below.refl _ _).alloc (Nat.le_refl _) _).alloc (by rw [hal];exact Nat.le_succ _) _
  have hrt:RowT ((w1.alloc (.cells #[.slice none 0 0,.slice la ls.length lc,.int .i64 0] 74)).alloc (.cells #[.pointer (some ⟨w1.heap.size,0,none⟩),.slice none 0 0,.slice none 0 0,.int .i64 0,.int .i64 0,.slice none 0 0] 77)) 74 w1.heap.size [.slice none 0 0,.slice la ls.length lc,.int .i64 0]:=(RowT.new w1 _ _).alloc _
  have hre:RowT ((w1.alloc (.cells #[.slice none 0 0,.slice la ls.length lc,.int .i64 0] 74)).alloc (.cells #[.pointer (some ⟨w1.heap.size,0,none⟩),.slice none 0 0,.slice none 0 0,.int .i64 0,.int .i64 0,.slice none 0 0] 77)) 77 (w1.heap.size+1) [.pointer (some ⟨w1.heap.size,0,none⟩),.slice none 0 0,.slice none 0 0,.int .i64 0,.int .i64 0,.slice none 0 0]:=by
   have:=RowT.new (w1.alloc (.cells #[.slice none 0 0,.slice la ls.length lc,.int .i64 0] 74)) 77 [.pointer (some ⟨w1.heap.size,0,none⟩),.slice none 0 0,.slice none 0 0,.int .i64 0,.int .i64 0,.slice none 0 0]
   rw [hal] at this
   exact this
  have hbw:=Nat.le_trans hb1.size hb2.size
  have hx:ExpSt ((w1.alloc (.cells #[.slice none 0 0,.slice la ls.length lc,.int .i64 0] 74)).alloc (.cells #[.pointer (some ⟨w1.heap.size,0,none⟩),.slice none 0 0,.slice none 0 0,.int .i64 0,.int .i64 0,.slice none 0 0] 77)) w.heap.size (w1.heap.size+1) w1.heap.size 0 0 noSt:=⟨_,_,_,[],[],[],0,⟨hre,World.ownsRow_nil _ _ _ _,World.ownsRow_nil _ _ _ _,World.ownsRow_nil _ _ _ _,(fun m hm=>by cases hm),Nat.le_succ_of_le hb1.size,_,hrt,rfl⟩,rfl⟩
  obtain ⟨R,hR⟩:∃R,blockP (callN 8) none 1 (ls.map L) 0 [] none noSt=R:=⟨_,rfl⟩
  have hc:=goT_any (call_all 8) _ w.heap.size (w1.heap.size+1) w1.heap.size noSt (.slice la ls.length lc) ls hx ⟨⟨hrt,World.ownsRow_nil _ _ _ _,by simp⟩,(h4.below hb2).mono (Nat.zero_le _),by simp,hfew⟩ HLS.out ⟨(fun m hm=>by cases hm),by simp [noSt],by simp [noSt],by simp [noSt],by simp [noSt],by simp⟩ ((HM.out.below hb1).below hb2) hg hbw hb1.size R hR
  have HC:=hid hc
  have HB2:=hid ((hb1.trans (hb2.mono hb1.size)))
  rw [hR] at hr
  have HR:=hid hr
  clear hal hr h1 h2 h3 hc hb1 hb2 hrt hre hx hR h4
  go_wp2_with fail
  refine HC.out.mono ?_
  rintro e w3 ⟨rfl,hf3,hn3,hs3⟩
  have HB3:=hid (HB2.out.trans (hf3.below hbw))
  have hr:=HR.out
  by_cases h0:R.1=0
  ·have k0:(R.1 != 0)=false:=by simp [h0]
   rw [if_neg (fun c=>c h0)] at hr
   subst hr
   obtain ⟨⟨vm,vn,vl,ms,ns,outs,calls,hx,hst⟩,hok⟩:=hs3 h0
   have c5:=hx.row.cell 5 (by simp)
   have HOUT:=hid hok.out
   have HL:=hid hx.lown
   have HST:=hid hst
   clear hf3 hn3 hs3 hx hst hok
   go_wp2_with fail
   refine bodyPost_ret (v:=.tuple #[vl,.int .i64 0,.int .i64 0]) (by simp [results,Tryz.results20]) rfl ?_
   refine ⟨⟨HB3.out,vl,outs,rfl,?_,?_,HL.out⟩,fun h=>absurd rfl h⟩
   ·rw [HST.out];rfl
   ·have:=HOUT.out;rw [HST.out] at this;simpa [stOf] using this
  ·have k0:(R.1 != 0)=true:=by simp [h0]
   rw [if_pos h0] at hr
   subst hr
   have HN:=hid hn3
   clear hf3 hn3 hs3
   go_wp2_with fail
   refine (number_num _ _ _ _ _ HN.out).mono ?_
   rintro e w4 ⟨rfl,rfl⟩
   go_wp2_with fail
   refine bodyPost_ret (v:=.tuple #[.slice none 0 0,.int .i64 R.1,.int .i64 (R.2.1:Nat)]) (by simp [results,Tryz.results20]) rfl ?_
   exact ⟨⟨HB3.out,.slice none 0 0,[],rfl,rfl,by simp,World.ownsRow_nil _ _ _ _⟩,fun _=>⟨_,_,rfl⟩⟩
set_option maxHeartbeats 400000 in
theorem mExpand_nil (s:ByteArray) (w:World) (hs:s.size≤maxLen) (hm:MaxAt w) :
  Calls Tryz.prog 11 #[.string s] w (fun e w'=>ExpandPost (expandP (L s)) w e w'∧ExpandNil (expandP (L s)) e):=by
 obtain ⟨r,hr⟩:∃r,expandP (L s)=r:=⟨_,rfl⟩
 have hc:=Expand_nil s w hs hm
 rw [hr] at hc ⊢
 have HC:=hid hc
 clear hc hr hm
 go_enter Tryz.func11,Tryz.ntmps11
 go_wp2_with fail
 refine HC.out.mono ?_
 rintro e w1 ⟨⟨hb,vl,outs,rfl,hrest⟩,hnil⟩
 have HREST:=hid hrest
 have HNIL:=hid hnil
 clear hrest hnil
 go_wp2_with fail
 refine bodyPost_ret (v:=.tuple #[vl,.int .i64 r.1,.int .i64 (r.2.1:Nat)]) (by simp [results,Tryz.results11]) rfl ?_
 exact ⟨⟨hb,vl,outs,rfl,HREST.out⟩,HNIL.out⟩
end
section
attribute [local go_sem ↓] Go.wp_at_zero Go.wp_at_succ
def ReadRPost (s:ByteArray) (w:World) (e:Ending) (w':World):Prop:=Below w.heap.size w w'∧∃r,w.heap.size≤r∧e=.returned (.pointer (some ⟨r,0,none⟩)) ∧
 (((expandP (L s)).1≠0∧(expandP (L s)).2.2=[]∧RdErr w' r (expandP (L s)).1 (expandP (L s)).2.1)∨((expandP (L s)).1=0∧(expandP (L s)).2.1=0∧∃st,RdSt w' w.heap.size r st∧(expandP (L s)).2.2=st.out))
def RExpandPost (r:Int×Nat×List (List UInt8×Nat)) (w:World) (e:Ending) (w':World):Prop:=
 Below w.heap.size w w'∧∃vl outs,e=.returned (.tuple #[vl,.int .i64 r.1,.int .i64 (r.2.1:Nat)])∧(outs.map fun x:ByteArray×Nat=>(L x.1,x.2))=r.2.2∧w'.ownsRow w.heap.size 38 4 vl outs.length (lineCells outs)
set_option maxRecDepth 100000 in
set_option maxHeartbeats 1600000 in
theorem read_any (s:ByteArray) (w:World) (hs:s.size≤maxLen):Calls Tryz.prog 39 #[.string s] w (ReadRPost s w):=by
 unfold maxLen at hs
 have hb0:Below w.heap.size w (w.alloc (.cells #[.slice none 0 0,.slice none 0 0,.slice none 0 0,.int .i64 0,.int .i64 0,.int .i64 0] 93)):=(Below.refl _ _).alloc (Nat.le_refl _) _
 have hrow:RowT (w.alloc (.cells #[.slice none 0 0,.slice none 0 0,.slice none 0 0,.int .i64 0,.int .i64 0,.int .i64 0] 93)) 93 w.heap.size [.slice none 0 0,.slice none 0 0,.slice none 0 0,.int .i64 0,.int .i64 0,.int .i64 0]:=RowT.new w 93 [.slice none 0 0,.slice none 0 0,.slice none 0 0,.int .i64 0,.int .i64 0,.int .i64 0]
 have HX:=hid (show RdAt (w.alloc (.cells #[.slice none 0 0,.slice none 0 0,.slice none 0 0,.int .i64 0,.int .i64 0,.int .i64 0] 93)) w.heap.size w.heap.size (.slice none 0 0) (.slice none 0 0) (.slice none 0 0) [] [] [] 0 from ⟨hrow,World.ownsRow_nil _ _ _ _,World.ownsRow_nil _ _ _ _,World.ownsRow_nil _ _ _ _,(fun m hm=>by cases hm),Nat.le_refl _⟩)
 have HB:=hid hb0
 obtain ⟨X,hX⟩:∃X,expandP (L s)=X:=⟨_,rfl⟩
 have HXP:=hid hX
 unfold expandP at hX
 rw [L_length] at hX
 clear hb0 hrow
 go_enter Tryz.func39,Tryz.ntmps39
 go_upto_region 2 with fail
 generalize w.alloc (.cells #[.slice none 0 0,.slice none 0 0,.slice none 0 0,.int .i64 0,.int .i64 0,.int .i64 0] 93)=w1 at HX HB ⊢
 by_cases h3:3000<s.size
 ·rw [if_pos h3] at hX
  have k3:decide ((3000:Int)<s.size)=true:=by simp;omega
  have HXR:=hid hX
  clear hX
  go_wp2_with (first|(go_at_call 60;refine (bad_any _ w.heap.size _ _ _ _ _ 1 0 HX.out.row).mono ?_;rintro e w2 ⟨rfl,rfl⟩))
  go_ret
  obtain ⟨p1,p2⟩:=bad_post (B:=w.heap.size) (er:=1) (at_:=0) HX.out.row (Nat.le_refl _)
  refine ⟨HB.out.trans (p1.below HB.out.size),w.heap.size,Nat.le_refl _,rfl,Or.inl ?_⟩
  rw [HXP.out,←HXR.out]
  exact ⟨by decide,rfl,p2⟩
 ·rw [if_neg h3] at hX
  have k3:decide ((3000:Int)<s.size)=false:=by simp;omega
  go_wp2_with fail
  refine (lines_any s w1 (by omega)).mono ?_
  rintro e w2 ⟨hb2,hcase⟩
  have HX:=hid (HX.out.below hb2)
  have HB:=hid (HB.out.trans (hb2.mono HB.out.size))
  rcases hcase with ⟨hbad,rfl⟩|⟨hgood,lv,ls,rfl,hls,hst⟩
  ·rw [if_pos hbad] at hX
   obtain ⟨bn,hbn⟩:∃bn,badLine (splitB 10 (L s)) 1=bn:=⟨_,rfl⟩
   rw [hbn] at hX hbad ⊢
   have hbp:0<bn:=by omega
   have k5:(0:Int)<(bn:Int):=by omega
   have HXR:=hid hX
   clear hX hb2 hbn hbad
   go_wp2_with (first|(go_at_call 60;refine (bad_any _ w.heap.size _ _ _ _ _ 1 bn HX.out.row).mono ?_;rintro e w3 ⟨rfl,rfl⟩))
   go_ret
   obtain ⟨p1,p2⟩:=bad_post (B:=w.heap.size) (er:=1) (at_:=bn) HX.out.row (Nat.le_refl _)
   refine ⟨HB.out.trans (p1.below HB.out.size),w.heap.size,Nat.le_refl _,rfl,Or.inl ?_⟩
   rw [HXP.out,←HXR.out]
   exact ⟨by simp,rfl,p2⟩
  ·rw [if_neg (by simp [hgood])] at hX
   obtain ⟨la,lc,hlv⟩:=hst.form
   subst hlv
   have HXR:=hid hX
   have HLS:=hid hls
   have hlen:ls.length≤3001:=by
    have h1:=congrArg List.length hls
    have h2:=splitB_len 10 (L s)
    rw [List.length_map] at h1
    rw [L_length] at h2
    omega
   have HSZ:=hid (show ∀j (h:j<ls.length),ls[j].size≤100 from fun j h=>by
    have h1:=badLine_ok (splitB 10 (L s)) 1 (by omega) hgood (L ls[j]) (by rw [←hls];exact List.mem_map.2 ⟨_,List.getElem_mem h,rfl⟩)
    rw [L_length] at h1
    omega)
   have hb3:Below w2.heap.size w2 (w2.alloc (.cells #[.slice la ls.length lc,.int .i64 0,.pointer none,.slice none 0 0,.int .i64 0,.slice none 0 0,.pointer none] 130)):=(Below.refl _ _).alloc (Nat.le_refl _) _
   have HX3:=hid (HX.out.below hb3)
   have HB3:=hid (HB.out.trans (hb3.mono HB.out.size))
   have HST3:=hid ((hst.mono (Nat.zero_le _)).below hb3)
   have HRX:=hid (show RowT (w2.alloc (.cells #[.slice la ls.length lc,.int .i64 0,.pointer none,.slice none 0 0,.int .i64 0,.slice none 0 0,.pointer none] 130)) 130 w2.heap.size [.slice la ls.length lc,.int .i64 0,.pointer none,.slice none 0 0,.int .i64 0,.slice none 0 0,.pointer none] from RowT.new w2 130 [.slice la ls.length lc,.int .i64 0,.pointer none,.slice none 0 0,.int .i64 0,.slice none 0 0,.pointer none])
   have hBx:w.heap.size≤w2.heap.size:=HB.out.size
   clear hX hb2 hb3 hls hst hgood HX HB
   go_upto_region 10 with fail
   generalize w2.alloc (.cells #[.slice la ls.length lc,.int .i64 0,.pointer none,.slice none 0 0,.int .i64 0,.slice none 0 0,.pointer none] 130)=w3 at HX3 HB3 HST3 HRX ⊢
   go_wp2_with fail
   refine (goesT_any w3 w.heap.size w2.heap.size w.heap.size _ _ ls HRX.out hBx ⟨_,_,_,_,_,_,_,HX3.out,rfl⟩ HST3.out hlen HSZ.out HB3.out.size).mono ?_
   rintro e w4 ⟨rfl,hb4,hok4,her4⟩
   have HB4:=hid (HB3.out.trans hb4)
   have HOK4:=hid hok4
   have HER4:=hid her4
   clear hb4 hok4 her4
   go_wp2_with fail
   go_ret
   refine ⟨HB4.out,w.heap.size,Nat.le_refl _,rfl,?_⟩
   rw [HXP.out]
   have h5:=HOK4.out
   have h6:=HER4.out
   rw [HLS.out] at h5 h6
   have h7:=HXR.out
   by_cases h0:(blockP (callN 8) none 1 (splitB 10 (L s)) 0 [] none noSt).1=0
   ·rw [if_neg (by simp [h0])] at h7
    rw [←h7]
    exact Or.inr ⟨rfl,rfl,_,h5 h0,rfl⟩
   ·rw [if_pos h0] at h7
    rw [←h7]
    exact Or.inl ⟨h0,rfl,h6 h0⟩
set_option maxRecDepth 100000 in
set_option maxHeartbeats 1600000 in
theorem rExpand_any (s:ByteArray) (w:World) (hs:s.size≤maxLen):Calls Tryz.prog 26 #[.string s] w (RExpandPost (expandP (L s)) w):=by
 have hc:=read_any s w hs
 have HC:=hid hc
 clear hc
 go_enter Tryz.func26,Tryz.ntmps26
 go_wp2_with fail
 refine HC.out.mono ?_
 rintro e w1 ⟨hb1,r,hr,rfl,hcase⟩
 have HB:=hid hb1
 clear hb1 HC
 rcases hcase with ⟨h0,ho,hre⟩|⟨h0,hp,st,hst,ho⟩
 ·obtain ⟨a,b,c,d,hre⟩:=hre
  obtain ⟨er,her⟩:∃er,(expandP (L s)).1=er:=⟨_,rfl⟩
  obtain ⟨an,han⟩:∃an,(expandP (L s)).2.1=an:=⟨_,rfl⟩
  rw [her] at h0 hre
  rw [han] at hre
  have e4:w1.cell? ⟨r,4,none⟩=some (.int .i64 er):=hre.cell 4 (by simp)
  have e5:w1.cell? ⟨r,5,none⟩=some (.int .i64 (an:Nat)):=hre.cell 5 (by simp)
  have k0:(er != 0)=true:=by rw [bne_iff_ne];exact h0
  have HO:=hid ho
  have HER:=hid her
  have HAN:=hid han
  clear hre h0 ho her han
  go_upto_region 3 with fail
  go_quiet (fail)
  go_wp2_with fail
  refine bodyPost_ret (v:=.tuple #[.slice none 0 0,.int .i64 er,.int .i64 (an:Nat)]) (by simp [results,Tryz.results26]) rfl ?_
  refine ⟨below_drewN HB.out _,.slice none 0 0,[],?_,?_,World.ownsRow_nil _ _ _ _⟩
  ·rw [HER.out,HAN.out]
  ·rw [HO.out];rfl
 ·obtain ⟨vm,vn,vl,ms,ns,outs,calls,hx,rfl⟩:=hst
  have e4:w1.cell? ⟨r,4,none⟩=some (.int .i64 0):=hx.row.cell 4 (by simp)
  have e2:w1.cell? ⟨r,2,none⟩=some vl:=hx.row.cell 2 (by simp)
  obtain ⟨al,cl,hvl⟩:=own_form hx.lown
  subst hvl
  have HX:=hid hx
  have HO:=hid ho
  have H0:=hid h0
  have HP:=hid hp
  clear hx h0 hp ho
  go_wp2_with fail
  refine bodyPost_ret (v:=.tuple #[.slice al outs.length cl,.int .i64 0,.int .i64 0]) (by simp [results,Tryz.results26]) rfl ?_
  refine ⟨HB.out,.slice al outs.length cl,outs,?_,?_,HX.out.lown⟩
  ·rw [H0.out,HP.out];rfl
  ·rw [HO.out];rfl
end
section
attribute [local go_sem ↓] Go.wp_at_zero Go.wp_at_succ
def lnOf (s:StmP) (ln:LnV):Prop:=L ln.t=s.txt∧ln.frm=s.frm∧(ln.at_:Int)=s.at_∧ln.size=sizeP s
def AssemblePost (r:Int×Nat×ProgP) (w:World) (e:Ending) (w':World):Prop:=
 Below w.heap.size w w'∧∃vb vl vn,e=.returned (.tuple #[.agg #[vb,vl,vn],.int .i64 r.1,.int .i64 (r.2.1:Nat)]) ∧
  ((r.1≠0∧vb=.slice none 0 0∧vl=.slice none 0 0∧vn=.slice none 0 0) ∨
   (r.1=0∧∃ls ss ns,w'.ownsRow w.heap.size 5 1 vb r.2.2.bytes.length (byCells r.2.2.bytes)∧w'.ownsRow w.heap.size 38 4 vl ls.length (lnCells ls)∧w'.ownsRow w.heap.size 40 2 vn ns.length (nameCells ns)∧Say 0 ls ss r.2.2.stms∧Sized ls r.2.2.stms∧plainN ns=namesP r.2.2.stms∧ls.length≤300∧ns.length≤300∧r.2.2.bytes.length≤300000))
theorem own_monoA {w:World}{b c e s n:Nat}{v:Value}{xs:List Value}(h:w.ownsRow b e s v n xs) (hc:c≤b):w.ownsRow c e s v n xs:=by
 refine ⟨h.1,?_⟩
 rcases h.2 with h2|⟨g,cap,cur,h1,h2,h3⟩
 ·exact Or.inl h2
 ·exact Or.inr ⟨g,cap,cur,h1,Nat.le_trans hc h2,h3⟩
theorem chain_ok {ns:List (List UInt8×Int)}{outs:List (ByteArray×Nat)}(h:ChainN ns (outs.map fun x=>(L x.1,x.2))):∀ln∈outs.map (fun x=>(⟨x.1,x.2,0,0⟩:LnV)),LnOk ln:=by
 induction outs generalizing ns with
 |nil=>intro ln hl;cases hl
 |cons y r ih =>
  intro ln hl
  rcases List.mem_cons.1 hl with rfl|hl
  ·obtain ⟨h1,h2,_⟩:=h
   simp only at h1 h2
   refine ⟨cut_same (by rw [←h2];exact h1.src.ok.text),by have:=h1.src.len;rw [h2] at this;exact this,fun e=>?_,rfl,rfl⟩
   have h3:=h1.set e
   exact ⟨h3.1,h3.2.1⟩
  ·exact ih h.2.2 ln hl
theorem allBytes_len (all:List (List UInt8×Int)):∀{k:Nat}{ls:List LnV}{ss:List StV}{l:List StmP},Say k ls ss l→Sized ls l→(∀x∈ss,x.es.length≤200)→(∀ln∈ls,ln.size≤1000)→(allBytes all l).2.2.length≤1000*l.length
 |_,[],[],[],_,_,_,_=>by simp [allBytes]
 |k,ln::lr,x::xr,s::sr,h,hz,he,hs=>by
  have ih:=allBytes_len all h.2 hz.2 (fun y hy=>he y (by simp [hy])) (fun y hy=>hs y (by simp [hy]))
  have hb:=say_bytes h.1 all hz.1
  have hl:=bytesV_len all ln.at_ ln.size x (he x (by simp)) (hs ln (by simp))
  rw [hb] at hl
  simp only [allBytes]
  split
  ·simp
  ·split
   ·simp
   ·simp only [List.length_append,List.length_cons];omega
 |_,[],[],_::_,h,_,_,_=>h.elim
 |_,[],_::_,_,h,_,_,_=>h.elim
 |_,_::_,[],_,h,_,_,_=>h.elim
 |_,_::_,_::_,[],h,_,_,_=>h.elim
theorem findV_ok:∀(n:Nat) {ls:List LnV}{ss:List StV}{ns:List (ByteArray×Int)}{m:Nat},AllOk ss m→ls.length=ss.length→ss.length≤300→(∀l∈ls,l.at_≤1000000∧l.size≤1000)→AllOk (findV n ls ss ns).2.1 m∧(findV n ls ss ns).1.length=ls.length∧(findV n ls ss ns).2.1.length=ss.length∧(findV n ls ss ns).2.2.length=ns.length∧(∀l∈(findV n ls ss ns).1,l.at_≤1000000∧l.size≤1000)
 |0,ls,ss,ns,m,h,hl,h3,ha=>⟨h,rfl,rfl,rfl,ha⟩
 |n+1,ls,ss,ns,m,h,hl,h3,ha=>by
  simp only [findV]
  split
  ·have hlen:=lenL_length (plainN ns) ls ss
   have hok:=h.len (plainN ns) ls
   have h5:=findV_ok n (ls:=setL ls (lenL (plainN ns) ls ss) 0) (ss:=lenL (plainN ns) ls ss) (ns:=setN (lenL (plainN ns) ls ss) 0 ns) (m:=m) hok (by rw [setL_length,hlen];exact hl) (by rw [hlen];exact h3) (fun l hh=>by
    have:=setL_at ls (lenL (plainN ns) ls ss) 0 m (by rw [hlen];exact hl) (fun x hx=>(hok x hx).2) l hh
    rw [hlen] at this
    omega)
   exact ⟨h5.1,by rw [h5.2.1,setL_length],by rw [h5.2.2.1,hlen],by rw [h5.2.2.2.1,setN_length],h5.2.2.2.2⟩
  ·exact ⟨h,rfl,rfl,rfl,ha⟩
set_option maxRecDepth 100000 in
set_option maxHeartbeats 3200000 in
theorem Assemble_any (s:ByteArray) (w:World) (hs:s.size≤maxLen) (hm:MaxAt w) :
  Calls Tryz.prog 21 #[.string s] w (AssemblePost (assembleP (L s)) w):=by
 have hg:0<w.heap.size:=by
  obtain ⟨m,h1⟩:=hm
  exact World.block_lt_of_cell? _ _ h1
 obtain ⟨r,hr⟩:∃r,assembleP (L s)=r:=⟨_,rfl⟩
 rw [hr]
 unfold assembleP at hr
 have HR:=hid hr
 have HM:=hid hm
 clear hr hm
 have hb0:Below w.heap.size w (w.alloc (.cells #[.slice none 0 0,.slice none 0 0,.slice none 0 0] 33)):=(Below.refl _ _).alloc (Nat.le_refl _) _
 have HP0:=hid (show RowT (w.alloc (.cells #[.slice none 0 0,.slice none 0 0,.slice none 0 0] 33)) 33 w.heap.size [.slice none 0 0,.slice none 0 0,.slice none 0 0] from RowT.new w 33 [.slice none 0 0,.slice none 0 0,.slice none 0 0])
 have HB0:=hid hb0
 have HM0:=hid (HM.out.below hb0)
 have hsz:w.heap.size≤(w.alloc (.cells #[.slice none 0 0,.slice none 0 0,.slice none 0 0] 33)).heap.size:=hb0.size
 clear hb0
 go_enter Tryz.func21,Tryz.ntmps21
 go_upto_region 1 with fail
 generalize w.alloc (.cells #[.slice none 0 0,.slice none 0 0,.slice none 0 0] 33)=w0 at *
 go_wp2_with fail
 refine (Expand_nil s w0 hs HM0.out).mono ?_
 rintro e w1 ⟨⟨hb1,vl,outs,rfl,hout,hol,hown⟩,hnil⟩
 obtain ⟨X,hX⟩:∃X,expandP (L s)=X:=⟨_,rfl⟩
 rw [hX] at hout hnil ⊢
 have HXX:=hid hX
 have hr0:=HR.out
 rw [hX] at hr0
 have HRX:=hid hr0
 have HOUT:=hid hout
 have HOWN:=hid (own_monoA hown hsz)
 have HB1:=hid (HB0.out.trans (hb1.mono hsz))
 have HPX:=hid (HP0.out.below hb1)
 have HM1:=hid (HM0.out.below hb1)
 have hsz1:w.heap.size<w1.heap.size:=(HP0.out.below hb1).lt
 clear hX hr0 hout hown hb1 hnil HR HP0 HB0 HM0
 by_cases hx0:X.1=0
 ·have kx:(X.1 != 0)=false:=by simp [hx0]
  have hr1:=HRX.out
  rw [if_neg (fun h=>h hx0)] at hr1
  obtain ⟨hch,_⟩:=expand_inv (L s) (by rw [HXX.out];exact hx0)
  rw [HXX.out,←HOUT.out] at hch
  have HLN:=hid (chain_ok hch)
  obtain ⟨ls,hls⟩:∃ls,outs.map (fun x=>(⟨x.1,x.2,0,0⟩:LnV))=ls:=⟨_,rfl⟩
  rw [hls] at HLN
  have hll:ls.length=outs.length:=by rw [←hls,List.length_map]
  have hlc:lnCells ls=lineCells outs:=by rw [←hls,lnCells_lines]
  have hmp:ls.map (fun ln=>(L ln.t,ln.frm))=X.2.2:=by rw [←HOUT.out,←hls,List.map_map];rfl
  have hown2:w1.ownsRow w.heap.size 38 4 vl ls.length (lnCells ls):=by rw [hll,hlc];exact HOWN.out
  have hl3:ls.length≤300:=by omega
  have hb2:Below w1.heap.size w1 (w1.alloc (.cells #[vl,.slice none 0 0,.slice none 0 0,.slice none 0 0,.int .i64 0,.slice none 0 0] 83)):=(Below.refl _ _).alloc (Nat.le_refl _) _
  have HA:=hid (show AsmAt (w1.alloc (.cells #[vl,.slice none 0 0,.slice none 0 0,.slice none 0 0,.int .i64 0,.slice none 0 0] 83)) w.heap.size w1.heap.size vl (.slice none 0 0) (.slice none 0 0) (.slice none 0 0) (.slice none 0 0) ls [] [] [] 0 [] from
   ⟨RowT.new w1 83 [vl,.slice none 0 0,.slice none 0 0,.slice none 0 0,.int .i64 0,.slice none 0 0],Nat.le_of_lt hsz1,hown2.alloc _,World.ownsRow_nil _ _ _ _,World.ownsRow_nil _ _ _ _,World.ownsRow_nil _ _ _ _,World.ownsRow_nil _ _ _ _,(fun g h=>by cases h),(fun x hx=>by cases hx)⟩)
  have HB2:=hid (HB1.out.trans (hb2.mono (Nat.le_of_lt hsz1)))
  have HM2:=hid (HM1.out.below hb2)
  have HPX:=hid (HPX.out.below hb2)
  have hB2:w.heap.size≤(w1.alloc (.cells #[vl,.slice none 0 0,.slice none 0 0,.slice none 0 0,.int .i64 0,.slice none 0 0] 83)).heap.size:=HB2.out.size
  rw [←hmp] at hr1
  obtain ⟨R1,hR1⟩:∃R1,lookAll (ls.map fun ln=>(L ln.t,ln.frm)) []=R1:=⟨_,rfl⟩
  rw [hR1] at hr1
  have HR1:=hid hR1
  have HRY:=hid hr1
  obtain ⟨al,cl,hvl⟩:=own_form hown2
  subst hvl
  clear hch hls hll hlc hmp hown2 hb2 hR1 hr1 HRX HOUT HOWN HB1 HM1
  rw [hx0]
  go_upto_region 5 with fail
  generalize w1.alloc (.cells #[.slice al ls.length cl,.slice none 0 0,.slice none 0 0,.slice none 0 0,.int .i64 0,.slice none 0 0] 83)=w2 at *
  generalize w1.heap.size=ba at *
  go_wp2_with fail
  refine (lookAtLines_any w2 w.heap.size ba (.slice al ls.length cl) ls HA.out hl3 HLN.out hB2 HM2.out hg R1 HR1.out).mono ?_
  rintro e w3 ⟨rfl,hf3,hx3⟩
  have HBX:=hid (HB2.out.trans (hf3.below hB2))
  have HPX:=hid (HPX.out.fr hf3 rfl (fun h=>by cases h))
  have HX3:=hid hx3
  clear hf3 hx3
  have hr2:=HRY.out
  by_cases h10:R1.1=0
  ·have kr:(R1.1 != 0)=false:=by simp [h10]
   rw [if_neg (fun h=>h h10)] at hr2
   obtain ⟨vs,vn,vt,ss,ns,ts,ha3,hsay,hns,hok,hn3⟩:=HX3.out h10
   obtain ⟨l,hl⟩:∃l,R1.2.2=l:=⟨_,rfl⟩
   rw [hl] at hr2 hsay hns
   have hlen:=hsay.len
   have hB3:w.heap.size≤w3.heap.size:=HBX.out.size
   obtain ⟨F,hF⟩:∃F,findV (ss.length+1) (setL ls ss 0) ss (setN ss 0 ns)=F:=⟨_,rfl⟩
   have hfd:=findAddresses_any w3 w.heap.size ba (.slice al ls.length cl) vs vn vt (.slice none 0 0) ls ss ns ts 0 [] ha3 (by omega) hl3 (by omega) hok hB3 F hF
   have hp1:=(say_laid 0 hsay).1
   have hp2:=say_names 0 hsay (P:=[]) (ns:=ns) rfl (by rw [List.nil_append];exact hns)
   rw [List.nil_append] at hp2
   have hp3:=say_find (ss.length+1) hp1 hp2
   have hp4:=sized_find (ss.length+1) hp1 hp2 (sized_laid 0 hsay)
   have hlat:=setL_at ls ss 0 ns.length (by omega) (fun x hx=>(hok x hx).2)
   have hp5:=findV_ok (ss.length+1) (ls:=setL ls ss 0) (ss:=ss) (ns:=setN ss 0 ns) hok (by rw [setL_length];omega) (by omega) (fun y hy=>by have:=hlat y hy;omega)
   rw [hF] at hp3 hp4 hp5
   rw [setL_length,setN_length] at hp5
   have hpl:findP (ss.length+1) (laidP l 0)=placedP l:=by unfold placedP;rw [hlen.2]
   rw [hpl] at hp3 hp4
   obtain ⟨f1,f2,f3,f4,f5⟩:=hp5
   have hend:endV F.2.1 0=endP (placedP l) 0:=(say_laid 0 hp3.1).2
   have HFD:=hid hfd
   have HP3':=hid hp3
   have HP4:=hid hp4
   have HF1:=hid f1
   have HF5:=hid f5
   have HRZ:=hid hr2
   have HEND:=hid hend
   clear hfd hp1 hp2 hp3 hp4 hlat hpl f1 f5 hF ha3 hsay hns hok hr2 hend hl HX3
   rw [h10]
   go_wp2_with fail
   refine HFD.out.mono ?_
   rintro e w4 ⟨rfl,hf4,ha4⟩
   have HBX:=hid (HBX.out.trans (hf4.below hB3))
   have HPX:=hid (HPX.out.fr hf4 rfl (fun h=>by cases h))
   have HA4:=hid ha4
   have hB4:w.heap.size≤w4.heap.size:=HBX.out.size
   have c4:w4.cell? ⟨ba,4,none⟩=some (.int .i64 (endV F.2.1 0:Nat)):=ha4.row.cell 4 (by simp)
   clear hf4 ha4
   have hr3:=HRZ.out
   unfold makeP at hr3
   rw [←HEND.out] at hr3
   obtain ⟨ee,hee⟩:∃ee,endV F.2.1 0=ee:=⟨_,rfl⟩
   rw [hee] at hr3 c4
   by_cases h1k:1000<ee
   ·rw [if_pos h1k] at hr3
    subst hr3
    have kk:decide ((1000:Int)<(ee:Int))=true:=by simp;omega
    have HNZ:=hid (show ((8:Int),(0:Nat),noProg).1≠0 by decide)
    have p0:w4.cell? ⟨w.heap.size,0,none⟩=some (.slice none 0 0):=HPX.out.cell 0 (by simp)
    have p1:w4.cell? ⟨w.heap.size,1,none⟩=some (.slice none 0 0):=HPX.out.cell 1 (by simp)
    have p2:w4.cell? ⟨w.heap.size,2,none⟩=some (.slice none 0 0):=HPX.out.cell 2 (by simp)
    have g0:=HPX.out.free 0
    have g1:=HPX.out.free 1
    have g2:=HPX.out.free 2
    have HP3:=hid (((HPX.out.set 0 (.slice none 0 0)).set 1 (.slice none 0 0)).set 2 (.slice none 0 0))
    have HK3:=hid (((((Keeps.refl [w.heap.size] w4).setCell (p:=⟨w.heap.size,0,none⟩) (by simp) (.slice none 0 0)).setCell (p:=⟨w.heap.size,1,none⟩) (by simp) (.slice none 0 0)).setCell (p:=⟨w.heap.size,2,none⟩) (by simp) (.slice none 0 0)).below (B:=w.heap.size) HBX.out.size (fun k hk=>by rw [List.mem_singleton] at hk;omega))
    go_wp2_with fail
    refine bodyPost_ret (v:=.tuple #[.agg #[.slice none 0 0,.slice none 0 0,.slice none 0 0],.int .i64 8,.int .i64 0]) (by simp [results,Tryz.results21,go_sem,p0,p1,p2]) rfl ?_
    exact ⟨HBX.out.trans HK3.out,_,_,_,rfl,Or.inl ⟨HNZ.out,rfl,rfl,rfl⟩⟩
   ·rw [if_neg h1k] at hr3
    have kk:decide ((1000:Int)<(ee:Int))=false:=by simp;omega
    have hpn:=HP3'.out.2
    have hal:=say_all (plainN F.2.2) HP3'.out.1 HP4.out
    rw [hpn] at hal
    obtain ⟨M,hM⟩:∃M,allBytes (namesP (placedP l)) (placedP l)=M:=⟨_,rfl⟩
    rw [hM] at hal hr3
    have hml:M.2.2.length≤300000:=by
     have h1:=allBytes_len (namesP (placedP l)) HP3'.out.1 HP4.out (fun x hx=>(HF1.out x hx).2.few) (fun ln hl=>(HF5.out ln hl).2)
     rw [hM] at h1
     have h2:=HP3'.out.1.len
     omega
    have hma:=makeAllBytes_any w4 w.heap.size ba (.slice al ls.length cl) vs vn vt (.slice none 0 0) F.1 F.2.1 F.2.2 ts ee (by rw [←hee];exact HA4.out) (by omega) (by omega) (by omega) (fun x hx=>⟨(HF1.out x hx).1,(HF1.out x hx).2.few⟩) HF5.out hB4 M (by rw [hpn];exact hal)
    have HMA:=hid hma
    have HRW:=hid hr3
    clear hpn hal hM hma hr3 hee
    go_wp2_with fail
    refine HMA.out.mono ?_
    rintro e w5 ⟨rfl,hf5,ha5⟩
    have HBX:=hid (HBX.out.trans (hf5.below hB4))
    have HPX:=hid (HPX.out.fr hf5 rfl (fun h=>by cases h))
    have HA5:=hid ha5
    clear hf5 ha5 c4
    have hr4:=HRW.out
    by_cases hm0:M.1=0
    ·rw [if_neg (fun h=>h hm0)] at hr4
     subst hr4
     obtain ⟨vb,ha6⟩:=HA5.out hm0
     rw [List.nil_append] at ha6
     have HA6:=hid ha6
     obtain ⟨bl,bc,hvb⟩:=own_form ha6.bown
     obtain ⟨nl,nc,hvn⟩:=own_form ha6.nown
     have q5:w5.cell? ⟨ba,5,none⟩=some vb:=ha6.row.cell 5 (by simp)
     have q0:w5.cell? ⟨ba,0,none⟩=some (.slice al ls.length cl):=ha6.row.cell 0 (by simp)
     have q2:w5.cell? ⟨ba,2,none⟩=some vn:=ha6.row.cell 2 (by simp)
     subst hvb hvn
     have p0:w5.cell? ⟨w.heap.size,0,none⟩=some (.slice none 0 0):=HPX.out.cell 0 (by simp)
     have p1:w5.cell? ⟨w.heap.size,1,none⟩=some (.slice none 0 0):=HPX.out.cell 1 (by simp)
     have p2:w5.cell? ⟨w.heap.size,2,none⟩=some (.slice none 0 0):=HPX.out.cell 2 (by simp)
     have g0:=HPX.out.free 0
     have g1:=HPX.out.free 1
     have g2:=HPX.out.free 2
     clear ha6
     rw [hlen.1] at q0
     rw [f4] at q2
     rw [hlen.1,f4] at HA6
     have HSL:=hid (ownsRow_setCell_other (ownsRow_setCell_other (ownsRow_setCell_other HA6.out.lown (a:=⟨w.heap.size,0,none⟩) (own_row_ne HA6.out.lown HPX.out (by decide)) (.slice bl M.2.2.length bc)) (a:=⟨w.heap.size,1,none⟩) (own_row_ne HA6.out.lown HPX.out (by decide)) (.slice al l.length cl)) (a:=⟨w.heap.size,2,none⟩) (own_row_ne HA6.out.lown HPX.out (by decide)) (.slice nl ns.length nc))
     have HSN:=hid (ownsRow_setCell_other (ownsRow_setCell_other (ownsRow_setCell_other HA6.out.nown (a:=⟨w.heap.size,0,none⟩) (own_row_ne HA6.out.nown HPX.out (by decide)) (.slice bl M.2.2.length bc)) (a:=⟨w.heap.size,1,none⟩) (own_row_ne HA6.out.nown HPX.out (by decide)) (.slice al l.length cl)) (a:=⟨w.heap.size,2,none⟩) (own_row_ne HA6.out.nown HPX.out (by decide)) (.slice nl ns.length nc))
     have HSB:=hid (ownsRow_setCell_other (ownsRow_setCell_other (ownsRow_setCell_other HA6.out.bown (a:=⟨w.heap.size,0,none⟩) (own_row_ne HA6.out.bown HPX.out (by decide)) (.slice bl M.2.2.length bc)) (a:=⟨w.heap.size,1,none⟩) (own_row_ne HA6.out.bown HPX.out (by decide)) (.slice al l.length cl)) (a:=⟨w.heap.size,2,none⟩) (own_row_ne HA6.out.bown HPX.out (by decide)) (.slice nl ns.length nc))
     have HPW:=hid (((HPX.out.set 0 (.slice bl M.2.2.length bc)).set 1 (.slice al l.length cl)).set 2 (.slice nl ns.length nc))
     have HK3:=hid (((((Keeps.refl [w.heap.size] w5).setCell (p:=⟨w.heap.size,0,none⟩) (by simp) (.slice bl M.2.2.length bc)).setCell (p:=⟨w.heap.size,1,none⟩) (by simp) (.slice al l.length cl)).setCell (p:=⟨w.heap.size,2,none⟩) (by simp) (.slice nl ns.length nc)).below (B:=w.heap.size) HBX.out.size (fun k hk=>by rw [List.mem_singleton] at hk;omega))
     rw [hm0]
     go_wp2_with fail
     go_region
     generalize ((w5.setCell ⟨w.heap.size,0,none⟩ (.slice bl M.2.2.length bc)).setCell ⟨w.heap.size,1,none⟩ (.slice al l.length cl)).setCell ⟨w.heap.size,2,none⟩ (.slice nl ns.length nc)=w6 at HSL HSN HSB HPW HK3 ⊢
     have r0:w6.cell? ⟨w.heap.size,0,none⟩=some (.slice bl M.2.2.length bc):=HPW.out.cell 0 (by simp)
     have r1:w6.cell? ⟨w.heap.size,1,none⟩=some (.slice al l.length cl):=HPW.out.cell 1 (by simp)
     have r2:w6.cell? ⟨w.heap.size,2,none⟩=some (.slice nl ns.length nc):=HPW.out.cell 2 (by simp)
     clear p0 p1 p2 g0 g1 g2 q0 q2 q5
     go_wp2_with fail
     refine bodyPost_ret (v:=.tuple #[.agg #[.slice bl M.2.2.length bc,.slice al l.length cl,.slice nl ns.length nc],.int .i64 0,.int .i64 0]) (by simp [results,Tryz.results21,go_sem,r0,r1,r2]) rfl ?_
     exact ⟨(HBX.out.trans HK3.out).drew,_,_,_,rfl,Or.inr ⟨rfl,F.1,F.2.1,F.2.2,HSB.out,HSL.out,HSN.out,HP3'.out.1,HP4.out,HP3'.out.2,by omega,by omega,hml⟩⟩
    ·have km:(M.1 != 0)=true:=by simpa using hm0
     rw [if_pos hm0] at hr4
     subst hr4
     have HNZ:=hid (show (M.1,M.2.1,noProg).1≠0 from hm0)
     have p0:w5.cell? ⟨w.heap.size,0,none⟩=some (.slice none 0 0):=HPX.out.cell 0 (by simp)
     have p1:w5.cell? ⟨w.heap.size,1,none⟩=some (.slice none 0 0):=HPX.out.cell 1 (by simp)
     have p2:w5.cell? ⟨w.heap.size,2,none⟩=some (.slice none 0 0):=HPX.out.cell 2 (by simp)
     have g0:=HPX.out.free 0
     have g1:=HPX.out.free 1
     have g2:=HPX.out.free 2
     have HP3:=hid (((HPX.out.set 0 (.slice none 0 0)).set 1 (.slice none 0 0)).set 2 (.slice none 0 0))
     have HK3:=hid (((((Keeps.refl [w.heap.size] w5).setCell (p:=⟨w.heap.size,0,none⟩) (by simp) (.slice none 0 0)).setCell (p:=⟨w.heap.size,1,none⟩) (by simp) (.slice none 0 0)).setCell (p:=⟨w.heap.size,2,none⟩) (by simp) (.slice none 0 0)).below (B:=w.heap.size) HBX.out.size (fun k hk=>by rw [List.mem_singleton] at hk;omega))
     go_wp2_with fail
     refine bodyPost_ret (v:=.tuple #[.agg #[.slice none 0 0,.slice none 0 0,.slice none 0 0],.int .i64 M.1,.int .i64 (M.2.1:Nat)]) (by simp [results,Tryz.results21,go_sem,p0,p1,p2]) rfl ?_
     exact ⟨HBX.out.trans HK3.out,_,_,_,rfl,Or.inl ⟨HNZ.out,rfl,rfl,rfl⟩⟩
  ·have kr:(R1.1 != 0)=true:=by simpa using h10
   rw [if_pos h10] at hr2
   subst hr2
   have HNZ:=hid (show (R1.1,R1.2.1,noProg).1≠0 from h10)
   have p0:w3.cell? ⟨w.heap.size,0,none⟩=some (.slice none 0 0):=HPX.out.cell 0 (by simp)
   have p1:w3.cell? ⟨w.heap.size,1,none⟩=some (.slice none 0 0):=HPX.out.cell 1 (by simp)
   have p2:w3.cell? ⟨w.heap.size,2,none⟩=some (.slice none 0 0):=HPX.out.cell 2 (by simp)
   have g0:=HPX.out.free 0
   have g1:=HPX.out.free 1
   have g2:=HPX.out.free 2
   have HP3:=hid (((HPX.out.set 0 (.slice none 0 0)).set 1 (.slice none 0 0)).set 2 (.slice none 0 0))
   have HK3:=hid (((((Keeps.refl [w.heap.size] w3).setCell (p:=⟨w.heap.size,0,none⟩) (by simp) (.slice none 0 0)).setCell (p:=⟨w.heap.size,1,none⟩) (by simp) (.slice none 0 0)).setCell (p:=⟨w.heap.size,2,none⟩) (by simp) (.slice none 0 0)).below (B:=w.heap.size) HBX.out.size (fun k hk=>by rw [List.mem_singleton] at hk;omega))
   go_wp2_with fail
   refine bodyPost_ret (v:=.tuple #[.agg #[.slice none 0 0,.slice none 0 0,.slice none 0 0],.int .i64 R1.1,.int .i64 (R1.2.1:Nat)]) (by simp [results,Tryz.results21,go_sem,p0,p1,p2]) rfl ?_
   exact ⟨HBX.out.trans HK3.out,_,_,_,rfl,Or.inl ⟨HNZ.out,rfl,rfl,rfl⟩⟩
 ·have kx:(X.1 != 0)=true:=by simpa using hx0
  have hr1:=HRX.out
  rw [if_pos hx0] at hr1
  subst hr1
  have HNZ:=hid (show (X.1,X.2.1,noProg).1≠0 from hx0)
  have HBX:=hid HB1.out
  have p0:w1.cell? ⟨w.heap.size,0,none⟩=some (.slice none 0 0):=HPX.out.cell 0 (by simp)
  have p1:w1.cell? ⟨w.heap.size,1,none⟩=some (.slice none 0 0):=HPX.out.cell 1 (by simp)
  have p2:w1.cell? ⟨w.heap.size,2,none⟩=some (.slice none 0 0):=HPX.out.cell 2 (by simp)
  have g0:=HPX.out.free 0
  have g1:=HPX.out.free 1
  have g2:=HPX.out.free 2
  have HP3:=hid (((HPX.out.set 0 (.slice none 0 0)).set 1 (.slice none 0 0)).set 2 (.slice none 0 0))
  have HK3:=hid (((((Keeps.refl [w.heap.size] w1).setCell (p:=⟨w.heap.size,0,none⟩) (by simp) (.slice none 0 0)).setCell (p:=⟨w.heap.size,1,none⟩) (by simp) (.slice none 0 0)).setCell (p:=⟨w.heap.size,2,none⟩) (by simp) (.slice none 0 0)).below (B:=w.heap.size) HBX.out.size (fun k hk=>by rw [List.mem_singleton] at hk;omega))
  go_wp2_with fail
  refine bodyPost_ret (v:=.tuple #[.agg #[.slice none 0 0,.slice none 0 0,.slice none 0 0],.int .i64 X.1,.int .i64 (X.2.1:Nat)]) (by simp [results,Tryz.results21,go_sem,p0,p1,p2]) rfl ?_
  exact ⟨HBX.out.trans HK3.out,_,_,_,rfl,Or.inl ⟨HNZ.out,rfl,rfl,rfl⟩⟩
end
section
attribute [local go_sem ↓] Go.wp_at_zero Go.wp_at_succ
def AsmRows (r:Int×Nat×ProgP) (B:Nat) (w:World) (vb vl vn:Value):Prop:=
 (r.1≠0∧vb=.slice none 0 0∧vl=.slice none 0 0∧vn=.slice none 0 0) ∨
   (r.1=0∧∃ls ss ns,w.ownsRow B 5 1 vb r.2.2.bytes.length (byCells r.2.2.bytes)∧w.ownsRow B 38 4 vl ls.length (lnCells ls)∧w.ownsRow B 40 2 vn ns.length (nameCells ns)∧Say 0 ls ss r.2.2.stms∧Sized ls r.2.2.stms∧plainN ns=namesP r.2.2.stms∧ls.length≤300∧ns.length≤300∧r.2.2.bytes.length≤300000)
theorem AsmRows.forms {r:Int×Nat×ProgP}{B:Nat}{w:World}{vb vl vn:Value}(h:AsmRows r B w vb vl vn):(∃a n c,vb=.slice a n c)∧(∃a n c,vl=.slice a n c)∧(∃a n c,vn=.slice a n c):=by
 rcases h with ⟨_,rfl,rfl,rfl⟩|⟨_,ls,ss,ns,h1,h2,h3,_⟩
 ·exact ⟨⟨_,_,_,rfl⟩,⟨_,_,_,rfl⟩,⟨_,_,_,rfl⟩⟩
 ·obtain ⟨a1,c1,rfl⟩:=own_form h1
  obtain ⟨a2,c2,rfl⟩:=own_form h2
  obtain ⟨a3,c3,rfl⟩:=own_form h3
  exact ⟨⟨_,_,_,rfl⟩,⟨_,_,_,rfl⟩,⟨_,_,_,rfl⟩⟩
theorem AsmRows.set {r:Int×Nat×ProgP}{B b:Nat}{w:World}{vb vl vn:Value}{xs:List Value}(h:AsmRows r B w vb vl vn) (hp:RowT w 33 b xs) (j:Nat) (u:Value):AsmRows r B (w.setCell ⟨b,j,none⟩ u) vb vl vn:=by
 rcases h with h|⟨h0,ls,ss,ns,h1,h2,h3,h4⟩
 ·exact Or.inl h
 ·exact Or.inr ⟨h0,ls,ss,ns,ownsRow_setCell_other h1 (a:=⟨b,j,none⟩) (own_row_ne h1 hp (by decide)) u,ownsRow_setCell_other h2 (a:=⟨b,j,none⟩) (own_row_ne h2 hp (by decide)) u,ownsRow_setCell_other h3 (a:=⟨b,j,none⟩) (own_row_ne h3 hp (by decide)) u,h4⟩
theorem AsmRows.mono {r:Int×Nat×ProgP}{B C:Nat}{w:World}{vb vl vn:Value}(h:AsmRows r B w vb vl vn) (hc:C≤B):AsmRows r C w vb vl vn:=by
 rcases h with h|⟨h0,ls,ss,ns,h1,h2,h3,h4⟩
 ·exact Or.inl h
 ·exact Or.inr ⟨h0,ls,ss,ns,own_monoA h1 hc,own_monoA h2 hc,own_monoA h3 hc,h4⟩
theorem AsmRows.below {r:Int×Nat×ProgP}{B:Nat}{w w':World}{vb vl vn:Value}(h:AsmRows r B w vb vl vn) (hb:Below w.heap.size w w'):AsmRows r B w' vb vl vn:=by
 rcases h with h|⟨h0,ls,ss,ns,h1,h2,h3,h4⟩
 ·exact Or.inl h
 ·exact Or.inr ⟨h0,ls,ss,ns,ownsRow_belowP h1 hb,ownsRow_belowP h2 hb,ownsRow_belowP h3 hb,h4⟩
def MasPost (r:Int×Nat×ProgP) (w:World) (e:Ending) (w':World):Prop:=
 Below w.heap.size w w'∧∃vb vl vn,e=.returned (.tuple #[.agg #[vb,vl,vn],.int .i64 r.1,.int .i64 (r.2.1:Nat)])∧AsmRows r w.heap.size w' vb vl vn
set_option maxRecDepth 100000 in
set_option maxHeartbeats 800000 in
theorem mAssemble_any (s:ByteArray) (w:World) (hs:s.size≤maxLen) (hm:MaxAt w) :
  Calls Tryz.prog 12 #[.string s] w (MasPost (assembleP (L s)) w):=by
 obtain ⟨r,hr⟩:∃r,assembleP (L s)=r:=⟨_,rfl⟩
 have hb0:Below w.heap.size w (w.alloc (.cells #[.slice none 0 0,.slice none 0 0,.slice none 0 0] 33)):=(Below.refl _ _).alloc (Nat.le_refl _) _
 have HP0:=hid (show RowT (w.alloc (.cells #[.slice none 0 0,.slice none 0 0,.slice none 0 0] 33)) 33 w.heap.size [.slice none 0 0,.slice none 0 0,.slice none 0 0] from RowT.new w 33 [.slice none 0 0,.slice none 0 0,.slice none 0 0])
 have hsz:w.heap.size≤(w.alloc (.cells #[.slice none 0 0,.slice none 0 0,.slice none 0 0] 33)).heap.size:=hb0.size
 have HB0:=hid hb0
 have HC:=hid (Assemble_any s (w.alloc (.cells #[.slice none 0 0,.slice none 0 0,.slice none 0 0] 33)) hs (hm.below hb0))
 rw [hr] at HC ⊢
 clear hm hb0 hr
 go_enter Tryz.func12,Tryz.ntmps12
 go_upto_region 1 with fail
 generalize w.alloc (.cells #[.slice none 0 0,.slice none 0 0,.slice none 0 0] 33)=w0 at *
 go_wp2_with fail
 refine HC.out.mono ?_
 rintro e w1 ⟨hb1,vb,vl,vn,rfl,hrows⟩
 have HR:=hid (show AsmRows r w0.heap.size w1 vb vl vn from hrows)
 clear hrows
 have HB1:=hid (HB0.out.trans (hb1.mono hsz))
 have HPX:=hid (HP0.out.below hb1)
 clear hb1 HP0 HC
 obtain ⟨⟨a1,n1,c1,h1⟩,⟨a2,n2,c2,h2⟩,⟨a3,n3,c3,h3⟩⟩:=HR.out.forms
 subst h1 h2 h3
 have p0:w1.cell? ⟨w.heap.size,0,none⟩=some (.slice none 0 0):=HPX.out.cell 0 (by simp)
 have p1:w1.cell? ⟨w.heap.size,1,none⟩=some (.slice none 0 0):=HPX.out.cell 1 (by simp)
 have p2:w1.cell? ⟨w.heap.size,2,none⟩=some (.slice none 0 0):=HPX.out.cell 2 (by simp)
 have g0:=HPX.out.free 0
 have g1:=HPX.out.free 1
 have g2:=HPX.out.free 2
 have HR1:=hid ((HR.out.mono hsz).set HPX.out 0 (.slice a1 n1 c1))
 have HP1:=hid (HPX.out.set 0 (.slice a1 n1 c1))
 have HR2:=hid (HR1.out.set HP1.out 1 (.slice a2 n2 c2))
 have HP2:=hid (HP1.out.set 1 (.slice a2 n2 c2))
 have HR3:=hid (HR2.out.set HP2.out 2 (.slice a3 n3 c3))
 have HP3:=hid (HP2.out.set 2 (.slice a3 n3 c3))
 have HK3:=hid (((((Keeps.refl [w.heap.size] w1).setCell (p:=⟨w.heap.size,0,none⟩) (by simp) (.slice a1 n1 c1)).setCell (p:=⟨w.heap.size,1,none⟩) (by simp) (.slice a2 n2 c2)).setCell (p:=⟨w.heap.size,2,none⟩) (by simp) (.slice a3 n3 c3)).below (B:=w.heap.size) HB1.out.size (fun k hk=>by rw [List.mem_singleton] at hk;omega))
 go_wp2_with fail
 generalize ((w1.setCell ⟨w.heap.size,0,none⟩ (.slice a1 n1 c1)).setCell ⟨w.heap.size,1,none⟩ (.slice a2 n2 c2)).setCell ⟨w.heap.size,2,none⟩ (.slice a3 n3 c3)=w6 at HR3 HP3 HK3 ⊢
 have r0:w6.cell? ⟨w.heap.size,0,none⟩=some (.slice a1 n1 c1):=HP3.out.cell 0 (by simp)
 have r1:w6.cell? ⟨w.heap.size,1,none⟩=some (.slice a2 n2 c2):=HP3.out.cell 1 (by simp)
 have r2:w6.cell? ⟨w.heap.size,2,none⟩=some (.slice a3 n3 c3):=HP3.out.cell 2 (by simp)
 refine bodyPost_ret (v:=.tuple #[.agg #[.slice a1 n1 c1,.slice a2 n2 c2,.slice a3 n3 c3],.int .i64 r.1,.int .i64 (r.2.1:Nat)]) (by simp [results,Tryz.results12,go_sem,r0,r1,r2]) rfl ?_
 exact ⟨HB1.out.trans HK3.out,_,_,_,rfl,HR3.out⟩
end
end Go.Proofs.YtcepppilgncdmaaGreatDoor
