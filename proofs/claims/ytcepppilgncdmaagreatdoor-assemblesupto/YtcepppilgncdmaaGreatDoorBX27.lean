/-
  Joined: PaLook.
-/
import Derived.Test.YtcepppilgncdmaaGreatDoorBX26
namespace Go.Proofs.YtcepppilgncdmaaGreatDoor
open Go.RowKit
attribute [local go_sem ↓] Go.wp_at_zero Go.wp_at_succ
set_option maxRecDepth 100000 in
set_option maxHeartbeats 3200000 in
theorem look_any (w:World) (B ba:Nat) (vl vs vn vt vb:Value) (ls:List LnV) (ss:List StV) (ns ts:List (ByteArray×Int)) (sz:Nat) (bs:List UInt8) (h:AsmAt w B ba vl vs vn vt vb ls ss ns ts sz bs) (hsl:ss.length≤900) (hnl:ns.length≤900) (htl:ts.length≤900) (lb op:ByteArray) (va:Option Addr) (vc:Nat) (os:List ByteArray) (hs:StrV w 0 (.slice va os.length vc) os) (hol:os.length≤1000) (hset:L op=opSet→os.length=2) (hsz:∀i (hi:i<os.length),os[i].size≤1000) (hB:B≤w.heap.size) :
  Calls Tryz.prog 47 #[.pointer (some ⟨ba,0,none⟩),.agg #[.string lb,.string op,.slice va os.length vc]] w (LkPost B ba vl vb ls ss ns ts sz bs lb op os w):=by
 obtain ⟨i0,hi0,hz0,hz1,hz2⟩:=info_parts info_stm
 have hb0:Below w.heap.size w (w.alloc (.cells #[.string lb,.string op,.slice va os.length vc] 101)):=(Below.refl _ _).alloc (Nat.le_refl _) _
 have HROW:=hid (show RowT (w.alloc (.cells #[.string lb,.string op,.slice va os.length vc] 101)) 101 w.heap.size [.string lb,.string op,.slice va os.length vc] from RowT.new w 101 [.string lb,.string op,.slice va os.length vc])
 have HX:=hid (h.below hb0)
 have HF:=hid (show FrN B [] w (w.alloc (.cells #[.string lb,.string op,.slice va os.length vc] 101)) from FrN.of_below hb0)
 have HS:=hid (hs.below hb0)
 have HSZ:=hid hsz
 have HSET:=hid hset
 have hB1:B≤(w.alloc (.cells #[.string lb,.string op,.slice va os.length vc] 101)).heap.size:=by simp;omega
 clear h hb0 hs hsz hset
 obtain ⟨E,hE⟩:∃E,lookE lb op os ns ts=E:=⟨_,rfl⟩
 have HE:=hid hE
 unfold lookE at hE
 go_enter Tryz.func47,Tryz.ntmps47
 go_upto_region 1 with fail
 generalize w.alloc (.cells #[.string lb,.string op,.slice va os.length vc] 101)=w1 at *
 generalize w.heap.size=b0 at *
 have y0:w1.cell? ⟨b0,0,none⟩=some (.string lb):=HROW.out.cell 0 (by simp)
 have y1:w1.cell? ⟨b0,1,none⟩=some (.string op):=HROW.out.cell 1 (by simp)
 have y2:w1.cell? ⟨b0,2,none⟩=some (.slice va os.length vc):=HROW.out.cell 2 (by simp)
 go_wp2_with fail
 refine (operationOf_any op _).mono ?_
 rintro e w2 ⟨rfl,hb2⟩
 have HROW:=hid (HROW.out.below hb2)
 have HX:=hid (HX.out.below hb2)
 have HF:=hid (HF.out.trans (FrN.of_below hb2))
 have HS:=hid (HS.out.below hb2)
 have hB2:B≤w2.heap.size:=Nat.le_trans hB1 hb2.size
 clear hb2 y0 y1 y2 hB1
 obtain ⟨o,ho⟩:∃o,(opnP (L op)).getD noOpn=o:=⟨_,rfl⟩
 obtain ⟨fd,hfd⟩:∃fd,(opnP (L op)).isSome=fd:=⟨_,rfl⟩
 rw [ho,hfd]
 have HO:=hid ho
 have HFD:=hid hfd
 clear ho hfd
 obtain ⟨k,rg,c,l,d⟩:=o
 simp only [opnV]
 go_upto_region 2 with fail
 have hb3:Below w2.heap.size w2 (w2.alloc (.cells #[.int .i64 (k:Nat),.int .i64 (rg:Nat),.int .i64 (c:Nat),.int .i64 (l:Nat),.int .i64 (d:Nat)] 111)):=(Below.refl _ _).alloc (Nat.le_refl _) _
 have HO1:=hid (show RowT (w2.alloc (.cells #[.int .i64 (k:Nat),.int .i64 (rg:Nat),.int .i64 (c:Nat),.int .i64 (l:Nat),.int .i64 (d:Nat)] 111)) 111 w2.heap.size [.int .i64 (k:Nat),.int .i64 (rg:Nat),.int .i64 (c:Nat),.int .i64 (l:Nat),.int .i64 (d:Nat)] from RowT.new w2 111 [.int .i64 (k:Nat),.int .i64 (rg:Nat),.int .i64 (c:Nat),.int .i64 (l:Nat),.int .i64 (d:Nat)])
 have HROW:=hid (HROW.out.below hb3)
 have HX:=hid (HX.out.below hb3)
 have HF:=hid (HF.out.trans (FrN.of_below hb3))
 have HS:=hid (HS.out.below hb3)
 have hB3:B≤(w2.alloc (.cells #[.int .i64 (k:Nat),.int .i64 (rg:Nat),.int .i64 (c:Nat),.int .i64 (l:Nat),.int .i64 (d:Nat)] 111)).heap.size:=Nat.le_trans hB2 hb3.size
 clear hb3 hB2
 generalize w2.alloc (.cells #[.int .i64 (k:Nat),.int .i64 (rg:Nat),.int .i64 (c:Nat),.int .i64 (l:Nat),.int .i64 (d:Nat)] 111)=w3 at *
 generalize w2.heap.size=b1 at *
 have y0:w3.cell? ⟨b0,0,none⟩=some (.string lb):=HROW.out.cell 0 (by simp)
 have y1:w3.cell? ⟨b0,1,none⟩=some (.string op):=HROW.out.cell 1 (by simp)
 have y2:w3.cell? ⟨b0,2,none⟩=some (.slice va os.length vc):=HROW.out.cell 2 (by simp)
 by_cases h3:opnP (L op)=none∧L op≠[]∧L op≠opSet
 ·rw [if_pos h3] at hE
  subst hE
  obtain ⟨h31,h32,h33⟩:=h3
  have hfd:fd=false:=by rw [←HFD.out,h31];rfl
  subst hfd
  have ke:=not_empty op (by have:=ne_of_size;rw [size_L];exact List.length_pos_iff.2 h32)
  have ks:(op.toList==[46,115,101,116])=false:=op_not h33
  have ks2:=bne_of ks
  clear h31 h32 h33
  go_wp2
  go_ret
  unfold LkPost
  rw [HE.out]
  exact ⟨rfl,HF.out,(fun h=>by cases h)⟩
 ·rw [if_neg h3] at hE
  by_cases hsome:∃o,opnP (L op)=some o
  ·obtain ⟨o,hsome⟩:=hsome
   have hfd:fd=true:=by rw [←HFD.out,hsome];rfl
   subst hfd
   obtain ⟨q1,q2,q3,q4,q5,hnset,q7⟩:=opnP_regs hsome
   have ho:o=⟨k,rg,c,l,d⟩:=by rw [←HO.out,hsome];rfl
   subst ho
   simp only at q1
   rw [hsome] at hE
   simp only at hE
   have HSOME:=hid hsome
   have HNSET:=hid hnset
   clear h3 hsome q2 q3 q4 q5 q7
   go_wp2_with fail
   refine (define_any _ B ba vl vs vn vt vb ls ss ns ts sz bs HX.out (by omega) (by omega) lb op va vc os HS.out HSET.out HSZ.out hB3).mono ?_
   rintro e w4 ⟨rfl,hf4,hst4⟩
   have HROW4:=hid (HROW.out.fr hf4 rfl (fun h=>by cases h))
   have HO4:=hid (HO1.out.fr hf4 rfl (fun h=>by cases h))
   have HF4:=hid (HF.out.trans hf4)
   have HS4:=hid (HS.out.frn hf4)
   have hB4:B≤w4.heap.size:=Nat.le_trans hB3 hf4.size
   have HST4:=hid hst4
   obtain ⟨er,her⟩:∃er,defE lb op os ns=er:=⟨_,rfl⟩
   rw [her] at hE HST4 ⊢
   clear hf4 hst4 y0 y1 y2 her
   by_cases he0:¬er=0
   ·have ke:(er != 0)=true:=by simpa using he0
    rw [if_pos he0] at hE
    subst hE
    go_wp2
    go_ret
    unfold LkPost
    rw [HE.out]
    exact ⟨rfl,HF4.out,fun h=>absurd h he0⟩
   have he0:er=0:=Classical.byContradiction he0
   subst he0
   rw [if_neg (by simp)] at hE
   obtain ⟨vn',vt',hx4⟩:=HST4.out rfl
   have HX4:=hid hx4
   have z0:=HO4.out.cell 0 (by simp)
   have z1:=HO4.out.cell 1 (by simp)
   have z2:=HO4.out.cell 2 (by simp)
   have z3:=HO4.out.cell 3 (by simp)
   have z4:=HO4.out.cell 4 (by simp)
   simp only [List.getElem_cons_zero,List.getElem_cons_succ] at z0 z1 z2 z3 z4
   clear HST4 hx4
   go_upto_region 8 with fail
   have HST5:=hid (show RowT (w4.alloc (.cells #[.int .i64 (k:Nat),.int .i64 (rg:Nat),.int .i64 (c:Nat),.int .i64 (l:Nat),.int .i64 (d:Nat),.int .i64 0,.bool false,.int .i64 0,.slice none 0 0,.int .i64 0,.bool false] 113)) 113 w4.heap.size (stOne ⟨⟨k,rg,c,l,d⟩,0,false,0,.slice none 0 0,[],0,false⟩) from RowT.new w4 113 (stOne ⟨⟨k,rg,c,l,d⟩,0,false,0,.slice none 0 0,[],0,false⟩))
   have HK5:=hid (show Keeps [w4.heap.size] w4 (w4.alloc (.cells #[.int .i64 (k:Nat),.int .i64 (rg:Nat),.int .i64 (c:Nat),.int .i64 (l:Nat),.int .i64 (d:Nat),.int .i64 0,.bool false,.int .i64 0,.slice none 0 0,.int .i64 0,.bool false] 113)) from (Keeps.refl _ _).alloc _)
   generalize w4.alloc (.cells #[.int .i64 (k:Nat),.int .i64 (rg:Nat),.int .i64 (c:Nat),.int .i64 (l:Nat),.int .i64 (d:Nat),.int .i64 0,.bool false,.int .i64 0,.slice none 0 0,.int .i64 0,.bool false] 113)=w5 at *
   have HFRESH:=hid (show ∀w':World,Keeps [w4.heap.size] w4 w'→Below w4.heap.size w4 w' from fun w' hk=>hk.below (Nat.le_refl _) (fun q hq=>by rw [List.mem_singleton] at hq;omega))
   have hb0l:b0<w4.heap.size:=HROW4.out.lt
   have hbal:ba<w4.heap.size:=HX4.out.row.lt
   obtain ⟨b2,hb2⟩:∃b2,w4.heap.size=b2:=⟨_,rfl⟩
   have HB2:=hid hb2
   rw [hb2] at HST5 HK5 HFRESH hb0l hbal ⊢
   clear hb2 z0 z1 z2 z3 z4
   obtain ⟨na,nc,hnv,_⟩:=own_names HX4.out.nown
   obtain ⟨ta,tc,htv,_⟩:=own_names HX4.out.town
   obtain ⟨sa,sc,hsv⟩:=own_form HX4.out.sown
   have y0:w5.cell? ⟨b0,0,none⟩=some (.string lb):=by rw [(HFRESH.out _ HK5.out).cell (p:=⟨b0,0,none⟩) hb0l];exact HROW4.out.cell 0 (by simp)
   have c2:w5.cell? ⟨ba,2,none⟩=some (.slice na (ns++defN lb op os ts).length nc):=by rw [(HFRESH.out _ HK5.out).cell (p:=⟨ba,2,none⟩) hbal,←hnv];exact HX4.out.row.cell 2 (by simp)
   have c5:w5.cell? ⟨b2,5,none⟩=some (.int .i64 0):=HST5.out.cell 5 (by simp [stOne])
   have c6:w5.cell? ⟨b2,6,none⟩=some (.bool false):=HST5.out.cell 6 (by simp [stOne])
   have f5:=HST5.out.free 5
   have f6:=HST5.out.free 6
   rcases Nat.eq_zero_or_pos lb.size with hlb|hlb
   ·have kl:=is_empty lb hlb
    obtain ⟨lab,hlab⟩:∃lab,(if lb.size=0 then 0 else ns.length)=lab:=⟨_,rfl⟩
    obtain ⟨has,hhas⟩:∃has,decide (lb.size≠0)=has:=⟨_,rfl⟩
    have HLAB:=hid hlab
    have HHAS:=hid hhas
    have HROW6:=hid (show RowT w5 113 b2 (stOne ⟨⟨k,rg,c,l,d⟩,lab,has,0,.slice none 0 0,[],0,false⟩) by
     have e1:lab=0:=by rw [←hlab,if_pos hlb]
     have e2:has=false:=by rw [←hhas];simp [hlb]
     rw [e1,e2];exact HST5.out)
    have HK6:=hid HK5.out
    clear hlab hhas hlb
    go_upto_region 10 with fail
    generalize w5=w6 at *
    clear y0 c2 c5 c6 f5 f6 kl
    have hb6:=HFRESH.out _ HK6.out
    have HX6:=hid (HX4.out.below (by rw [HB2.out];exact hb6))
    have y2:w6.cell? ⟨b0,2,none⟩=some (.slice va os.length vc):=by rw [hb6.cell (p:=⟨b0,2,none⟩) hb0l];exact HROW4.out.cell 2 (by simp)
    have hts:ts++defT op os ts=ts:=by unfold defT;rw [if_neg hnset,List.append_nil]
    obtain ⟨ta,tc,htv,hta⟩:=own_names HX6.out.town
    rw [hts] at htv hta
    have c3:w6.cell? ⟨ba,3,none⟩=some (.slice ta ts.length tc):=by rw [←htv];exact HX6.out.row.cell 3 (by simp)
    have hnb:∀q off,ta=some ⟨q,off,none⟩→q≠b2:=by
     intro q off hq
     have h1:vt'.ownBlock=some q:=by rw [htv,hq];rfl
     have:=own_ltA HX4.out.town h1
     have:=HB2.out
     omega
    have HNA:=hid hta
    have HNB:=hid hnb
    have hS6:=HS4.out.below (show Below w4.heap.size w4 w6 by rw [HB2.out];exact hb6)
    have HS6:=hid hS6
    have hB6:B≤w6.heap.size:=Nat.le_trans hB4 (by have:=hb6.size;have:=HB2.out;omega)
    have HF6:=hid (HF4.out.trans (FrN.of_below (show Below w4.heap.size w4 w6 by rw [HB2.out];exact hb6)))
    clear hta hnb hb6 hS6
    go_wp2_with fail
    go_region_with (go_at_call 74;refine (readOperands_any _ b2 ⟨⟨k,rg,c,l,d⟩,lab,has,0,.slice none 0 0,[],0,false⟩ va ta vc tc os ts (HROW6.out.below ((Below.refl _ _).drew)) rfl rfl (HS6.out.below ((Below.refl _ _).drew)) hol HSZ.out q1 (HNA.out.below ((Below.refl _ _).drew)) HNB.out (by omega)).mono ?_;rintro e w7 ⟨rfl,hk7,hro7⟩)
    all_goals
     obtain ⟨qr,hqr⟩:∃qr,operandsP ⟨k,rg,c,l,d⟩ (os.map L) (plainN ts)=qr:=⟨_,rfl⟩
     obtain ⟨qe,qa,qc⟩:=qr
     simp only [hqr] at hro7 hE ⊢
     have HK7:=hid ((HK6.out.drew).trans hk7)
     have hb7:=HFRESH.out _ HK7.out
     have HX7:=hid (HX4.out.below (by rw [HB2.out];exact hb7))
     have HF7:=hid (HF4.out.trans (FrN.of_below (show Below w4.heap.size w4 w7 by rw [HB2.out];exact hb7)))
     have hB7:B≤w7.heap.size:=Nat.le_trans hB4 (by have:=hb7.size;have:=HB2.out;omega)
     have HRO7:=hid hro7
     have HQR:=hid hqr
     clear hb7 hk7 hro7 hqr y2 c3
     by_cases hq0:¬qe=0
     ·have ke:(qe != 0)=true:=by simpa using hq0
      subst hE
      go_wp2
      go_ret
      unfold LkPost
      rw [HE.out]
      exact ⟨rfl,HF7.out,fun h=>absurd h hq0⟩
     have hq0:qe=0:=Classical.byContradiction hq0
     subst hq0
     subst hE
     obtain ⟨v,hstr,hrow7⟩:=HRO7.out rfl
     have hstr:StrV w7 0 v (os.drop rg):=hstr
     have hrow7:RowT w7 113 b2 (stOne ⟨⟨k,rg,c,l,d⟩,lab,has,qa,v,os.drop rg,qc,false⟩):=hrow7
     obtain ⟨es,hes⟩:∃es,os.drop rg=es:=⟨_,rfl⟩
     rw [hes] at hstr hrow7
     have HEQ:=hid hes
     clear hes
     obtain ⟨va7,vc7,hv7⟩:=hstr.form
     subst hv7
     have HES7:=hid hstr
     have HROW7:=hid hrow7
     have HONE:=hid (show ∀u∈stOne ⟨⟨k,rg,c,l,d⟩,lab,has,qa,.slice va7 es.length vc7,es,qc,false⟩,u.oneCell'=true by simp [stOne,Value.oneCell'])
     have HLX:=hid (show lookX lb op os ns ts (.slice va7 es.length vc7)=⟨⟨k,rg,c,l,d⟩,lab,has,qa,.slice va7 es.length vc7,es,qc,false⟩ by
      unfold lookX
      rw [HSOME.out]
      simp only
      rw [HLAB.out,HHAS.out,HQR.out,HEQ.out])
     clear hstr hrow7 HRO7
     go_upto_region 14 with fail
     have c1:w7.cell? ⟨ba,1,none⟩=some (.slice sa ss.length sc):=by rw [←hsv];exact HX7.out.row.cell 1 (by simp)
     have f1:=HX7.out.row.free 1
     have hlb7:=HX7.out.row.lt
     have HSO:=hid (show w7.ownsRow B 113 11 (.slice sa ss.length sc) ss.length (stCells ss) by rw [←hsv];exact HX7.out.sown)
     have hneb:(Value.slice sa ss.length sc).ownBlock≠some ba:=own_row_ne HSO.out HX7.out.row (by decide)
     have s0:=HROW7.out.cell 0 (by simp [stOne])
     have s1:=HROW7.out.cell 1 (by simp [stOne])
     have s2:=HROW7.out.cell 2 (by simp [stOne])
     have s3:=HROW7.out.cell 3 (by simp [stOne])
     have s4:=HROW7.out.cell 4 (by simp [stOne])
     have s5:=HROW7.out.cell 5 (by simp [stOne])
     have s6:=HROW7.out.cell 6 (by simp [stOne])
     have s7:=HROW7.out.cell 7 (by simp [stOne])
     have s8:=HROW7.out.cell 8 (by simp [stOne])
     have s9:=HROW7.out.cell 9 (by simp [stOne])
     have s10:=HROW7.out.cell 10 (by simp [stOne])
     simp only [stOne,List.getElem_cons_zero,List.getElem_cons_succ] at s0 s1 s2 s3 s4 s5 s6 s7 s8 s9 s10
     go_region_law
      (first
       |(refine step_append_lies _ (by rfl) _ _ _ (by rfl) B 113 i0 _ 11 104 Tryz.underlying81 hi0 hz0 hz1 hz2 rfl (by omega) (.slice sa ss.length sc) ss.length (stCells ss) (by rfl) ((HSO.out.alloc _).drew) ⟨_,0,none⟩ 1 1 (stOne ⟨⟨k,rg,c,l,d⟩,lab,has,qa,.slice va7 es.length vc7,es,qc,false⟩) (by rfl) (by rfl) (World.news_of_block (cs:=(stOne ⟨⟨k,rg,c,l,d⟩,lab,has,qa,.slice va7 es.length vc7,es,qc,false⟩).toArray) (t:=113) (fr:=(0,0)) (heap_alloc_new _ _)) HONE.out (by omega) (by unfold maxLen;omega) (by omega) (by simp;omega) _ rfl ?_;intro gg cap' w8 hown8 hgrow hat hlt8;have hc8:=(hgrow.cell_far ⟨ba,1,none⟩ (by simp;omega) (Ne.symm hneb)).trans ((((Below.refl w7.heap.size w7).alloc (Nat.le_refl _) _).drew.cell (p:=⟨ba,1,none⟩) hlb7).trans c1);have hf8:=(hgrow.frozen_far ⟨ba,1,none⟩ (by simp;omega) (Ne.symm hneb)).trans ((((Below.refl w7.heap.size w7).alloc (Nat.le_refl _) _).drew.frozen (p:=⟨ba,1,none⟩) hlb7).trans f1)))
     all_goals
      have hb8:Below w7.heap.size w7 (w7.alloc (.cells (stOne ⟨⟨k,rg,c,l,d⟩,lab,has,qa,.slice va7 es.length vc7,es,qc,false⟩).toArray 113)).drew:=((Below.refl _ _).alloc (Nat.le_refl _) _).drew
      have HL:=hid ((HX7.out.below hb8).stm (x:=⟨⟨k,rg,c,l,d⟩,lab,has,qa,.slice va7 es.length vc7,es,qc,false⟩) (by rw [hsv];exact hgrow) (HES7.out.below hb8) hown8)
      have HF8:=hid ((HF7.out.trans (FrN.of_below hb8)).trans HL.out.2)
      clear hown8 hgrow hat hc8 hf8
      go_wp2
      go_ret
      unfold LkPost
      rw [HE.out]
      have hfin:=HL.out.1
      rw [←HLX.out] at hfin
      exact ⟨rfl,HF8.out,fun _=>⟨_,_,_,_,hfin⟩⟩
   ·have kl:=not_empty lb hlb
    have kl2:ns.length+1=(ns++defN lb op os ts).length:=by
     rw [List.length_append]
     unfold defN
     split
     ·rfl
     ·rw [if_neg (by omega)];rfl
    rw [←kl2] at c2
    obtain ⟨lab,hlab⟩:∃lab,(if lb.size=0 then 0 else ns.length)=lab:=⟨_,rfl⟩
    obtain ⟨has,hhas⟩:∃has,decide (lb.size≠0)=has:=⟨_,rfl⟩
    have HLAB:=hid hlab
    have HHAS:=hid hhas
    have e1:lab=ns.length:=by rw [←hlab,if_neg (by omega)]
    have e2:has=true:=by rw [←hhas];exact decide_eq_true (by omega)
    have hr6:=(HST5.out.set 5 (.int .i64 (ns.length:Nat))).set 6 (.bool true)
    have hk6:=(HK5.out.setCell (p:=⟨b2,5,none⟩) (by simp) (.int .i64 (ns.length:Nat))).setCell (p:=⟨b2,6,none⟩) (by simp) (.bool true)
    have c6b:=(HST5.out.set 5 (.int .i64 (ns.length:Nat))).cell 6 (by simp [stOne])
    have f6b:=(HST5.out.set 5 (.int .i64 (ns.length:Nat))).free 6
    simp only [stOne,List.set_cons_succ,List.set_cons_zero,List.getElem_cons_zero,List.getElem_cons_succ] at c6b
    have HROW6:=hid (show RowT ((w5.setCell ⟨b2,5,none⟩ (.int .i64 (ns.length:Nat))).setCell ⟨b2,6,none⟩ (.bool true)) 113 b2 (stOne ⟨⟨k,rg,c,l,d⟩,lab,has,0,.slice none 0 0,[],0,false⟩) by rw [e1,e2];exact hr6)
    have HK6:=hid hk6
    clear hlab hhas hlb e1 e2 hr6 hk6 kl2
    go_upto_region 10 with fail
    generalize (w5.setCell ⟨b2,5,none⟩ (.int .i64 (ns.length:Nat))).setCell ⟨b2,6,none⟩ (.bool true)=w6 at *
    clear y0 c2 c5 c6 f5 f6 kl
    have hb6:=HFRESH.out _ HK6.out
    have HX6:=hid (HX4.out.below (by rw [HB2.out];exact hb6))
    have y2:w6.cell? ⟨b0,2,none⟩=some (.slice va os.length vc):=by rw [hb6.cell (p:=⟨b0,2,none⟩) hb0l];exact HROW4.out.cell 2 (by simp)
    have hts:ts++defT op os ts=ts:=by unfold defT;rw [if_neg hnset,List.append_nil]
    obtain ⟨ta,tc,htv,hta⟩:=own_names HX6.out.town
    rw [hts] at htv hta
    have c3:w6.cell? ⟨ba,3,none⟩=some (.slice ta ts.length tc):=by rw [←htv];exact HX6.out.row.cell 3 (by simp)
    have hnb:∀q off,ta=some ⟨q,off,none⟩→q≠b2:=by
     intro q off hq
     have h1:vt'.ownBlock=some q:=by rw [htv,hq];rfl
     have:=own_ltA HX4.out.town h1
     have:=HB2.out
     omega
    have HNA:=hid hta
    have HNB:=hid hnb
    have hS6:=HS4.out.below (show Below w4.heap.size w4 w6 by rw [HB2.out];exact hb6)
    have HS6:=hid hS6
    have hB6:B≤w6.heap.size:=Nat.le_trans hB4 (by have:=hb6.size;have:=HB2.out;omega)
    have HF6:=hid (HF4.out.trans (FrN.of_below (show Below w4.heap.size w4 w6 by rw [HB2.out];exact hb6)))
    clear hta hnb hb6 hS6
    go_wp2_with fail
    go_region_with (go_at_call 74;refine (readOperands_any _ b2 ⟨⟨k,rg,c,l,d⟩,lab,has,0,.slice none 0 0,[],0,false⟩ va ta vc tc os ts (HROW6.out.below ((Below.refl _ _).drew)) rfl rfl (HS6.out.below ((Below.refl _ _).drew)) hol HSZ.out q1 (HNA.out.below ((Below.refl _ _).drew)) HNB.out (by omega)).mono ?_;rintro e w7 ⟨rfl,hk7,hro7⟩)
    all_goals
     obtain ⟨qr,hqr⟩:∃qr,operandsP ⟨k,rg,c,l,d⟩ (os.map L) (plainN ts)=qr:=⟨_,rfl⟩
     obtain ⟨qe,qa,qc⟩:=qr
     simp only [hqr] at hro7 hE ⊢
     have HK7:=hid ((HK6.out.drew).trans hk7)
     have hb7:=HFRESH.out _ HK7.out
     have HX7:=hid (HX4.out.below (by rw [HB2.out];exact hb7))
     have HF7:=hid (HF4.out.trans (FrN.of_below (show Below w4.heap.size w4 w7 by rw [HB2.out];exact hb7)))
     have hB7:B≤w7.heap.size:=Nat.le_trans hB4 (by have:=hb7.size;have:=HB2.out;omega)
     have HRO7:=hid hro7
     have HQR:=hid hqr
     clear hb7 hk7 hro7 hqr y2 c3
     by_cases hq0:¬qe=0
     ·have ke:(qe != 0)=true:=by simpa using hq0
      subst hE
      go_wp2
      go_ret
      unfold LkPost
      rw [HE.out]
      exact ⟨rfl,HF7.out,fun h=>absurd h hq0⟩
     have hq0:qe=0:=Classical.byContradiction hq0
     subst hq0
     subst hE
     obtain ⟨v,hstr,hrow7⟩:=HRO7.out rfl
     have hstr:StrV w7 0 v (os.drop rg):=hstr
     have hrow7:RowT w7 113 b2 (stOne ⟨⟨k,rg,c,l,d⟩,lab,has,qa,v,os.drop rg,qc,false⟩):=hrow7
     obtain ⟨es,hes⟩:∃es,os.drop rg=es:=⟨_,rfl⟩
     rw [hes] at hstr hrow7
     have HEQ:=hid hes
     clear hes
     obtain ⟨va7,vc7,hv7⟩:=hstr.form
     subst hv7
     have HES7:=hid hstr
     have HROW7:=hid hrow7
     have HONE:=hid (show ∀u∈stOne ⟨⟨k,rg,c,l,d⟩,lab,has,qa,.slice va7 es.length vc7,es,qc,false⟩,u.oneCell'=true by simp [stOne,Value.oneCell'])
     have HLX:=hid (show lookX lb op os ns ts (.slice va7 es.length vc7)=⟨⟨k,rg,c,l,d⟩,lab,has,qa,.slice va7 es.length vc7,es,qc,false⟩ by
      unfold lookX
      rw [HSOME.out]
      simp only
      rw [HLAB.out,HHAS.out,HQR.out,HEQ.out])
     clear hstr hrow7 HRO7
     go_upto_region 14 with fail
     have c1:w7.cell? ⟨ba,1,none⟩=some (.slice sa ss.length sc):=by rw [←hsv];exact HX7.out.row.cell 1 (by simp)
     have f1:=HX7.out.row.free 1
     have hlb7:=HX7.out.row.lt
     have HSO:=hid (show w7.ownsRow B 113 11 (.slice sa ss.length sc) ss.length (stCells ss) by rw [←hsv];exact HX7.out.sown)
     have hneb:(Value.slice sa ss.length sc).ownBlock≠some ba:=own_row_ne HSO.out HX7.out.row (by decide)
     have s0:=HROW7.out.cell 0 (by simp [stOne])
     have s1:=HROW7.out.cell 1 (by simp [stOne])
     have s2:=HROW7.out.cell 2 (by simp [stOne])
     have s3:=HROW7.out.cell 3 (by simp [stOne])
     have s4:=HROW7.out.cell 4 (by simp [stOne])
     have s5:=HROW7.out.cell 5 (by simp [stOne])
     have s6:=HROW7.out.cell 6 (by simp [stOne])
     have s7:=HROW7.out.cell 7 (by simp [stOne])
     have s8:=HROW7.out.cell 8 (by simp [stOne])
     have s9:=HROW7.out.cell 9 (by simp [stOne])
     have s10:=HROW7.out.cell 10 (by simp [stOne])
     simp only [stOne,List.getElem_cons_zero,List.getElem_cons_succ] at s0 s1 s2 s3 s4 s5 s6 s7 s8 s9 s10
     go_region_law
      (first
       |(refine step_append_lies _ (by rfl) _ _ _ (by rfl) B 113 i0 _ 11 104 Tryz.underlying81 hi0 hz0 hz1 hz2 rfl (by omega) (.slice sa ss.length sc) ss.length (stCells ss) (by rfl) ((HSO.out.alloc _).drew) ⟨_,0,none⟩ 1 1 (stOne ⟨⟨k,rg,c,l,d⟩,lab,has,qa,.slice va7 es.length vc7,es,qc,false⟩) (by rfl) (by rfl) (World.news_of_block (cs:=(stOne ⟨⟨k,rg,c,l,d⟩,lab,has,qa,.slice va7 es.length vc7,es,qc,false⟩).toArray) (t:=113) (fr:=(0,0)) (heap_alloc_new _ _)) HONE.out (by omega) (by unfold maxLen;omega) (by omega) (by simp;omega) _ rfl ?_;intro gg cap' w8 hown8 hgrow hat hlt8;have hc8:=(hgrow.cell_far ⟨ba,1,none⟩ (by simp;omega) (Ne.symm hneb)).trans ((((Below.refl w7.heap.size w7).alloc (Nat.le_refl _) _).drew.cell (p:=⟨ba,1,none⟩) hlb7).trans c1);have hf8:=(hgrow.frozen_far ⟨ba,1,none⟩ (by simp;omega) (Ne.symm hneb)).trans ((((Below.refl w7.heap.size w7).alloc (Nat.le_refl _) _).drew.frozen (p:=⟨ba,1,none⟩) hlb7).trans f1)))
     all_goals
      have hb8:Below w7.heap.size w7 (w7.alloc (.cells (stOne ⟨⟨k,rg,c,l,d⟩,lab,has,qa,.slice va7 es.length vc7,es,qc,false⟩).toArray 113)).drew:=((Below.refl _ _).alloc (Nat.le_refl _) _).drew
      have HL:=hid ((HX7.out.below hb8).stm (x:=⟨⟨k,rg,c,l,d⟩,lab,has,qa,.slice va7 es.length vc7,es,qc,false⟩) (by rw [hsv];exact hgrow) (HES7.out.below hb8) hown8)
      have HF8:=hid ((HF7.out.trans (FrN.of_below hb8)).trans HL.out.2)
      clear hown8 hgrow hat hc8 hf8
      go_wp2
      go_ret
      unfold LkPost
      rw [HE.out]
      have hfin:=HL.out.1
      rw [←HLX.out] at hfin
      exact ⟨rfl,HF8.out,fun _=>⟨_,_,_,_,hfin⟩⟩
  ·have hnone:opnP (L op)=none:=by
    cases ho:opnP (L op) with
    |none=>rfl
    |some o=>exact absurd ⟨o,ho⟩ hsome
   have hfd:fd=false:=by rw [←HFD.out,hnone];rfl
   subst hfd
   have ho:(⟨k,rg,c,l,d⟩:OpnP)=noOpn:=by rw [←HO.out,hnone];rfl
   have HOE:=hid ho
   clear ho
   rw [hnone] at hE
   simp only at hE
   have HNONE:=hid hnone
   have hcs:(op.toList.isEmpty=true)∨(op.toList.isEmpty=false∧(op.toList==[46,115,101,116])=true):=by
    by_cases h0:L op=[]
    ·exact Or.inl (is_empty op (by rw [size_L,h0];rfl))
    ·by_cases h1:L op=opSet
     ·exact Or.inr ⟨not_empty op (by rw [size_L];exact List.length_pos_iff.2 h0),op_is h1⟩
     ·exact absurd ⟨hnone,h0,h1⟩ h3
   clear h3 hsome hnone
   rcases hcs with ke|⟨ke,ks⟩
   ·go_wp2_with fail
    refine (define_any _ B ba vl vs vn vt vb ls ss ns ts sz bs HX.out (by omega) (by omega) lb op va vc os HS.out HSET.out HSZ.out hB3).mono ?_
    rintro e w4 ⟨rfl,hf4,hst4⟩
    have HROW4:=hid (HROW.out.fr hf4 rfl (fun h=>by cases h))
    have HO4:=hid (HO1.out.fr hf4 rfl (fun h=>by cases h))
    have HF4:=hid (HF.out.trans hf4)
    have HS4:=hid (HS.out.frn hf4)
    have hB4:B≤w4.heap.size:=Nat.le_trans hB3 hf4.size
    have HST4:=hid hst4
    obtain ⟨er,her⟩:∃er,defE lb op os ns=er:=⟨_,rfl⟩
    rw [her] at hE HST4 ⊢
    clear hf4 hst4 y0 y1 y2 her
    by_cases he0:¬er=0
    ·have ke:(er != 0)=true:=by simpa using he0
     rw [if_pos he0] at hE
     subst hE
     go_wp2
     go_ret
     unfold LkPost
     rw [HE.out]
     exact ⟨rfl,HF4.out,fun h=>absurd h he0⟩
    have he0:er=0:=Classical.byContradiction he0
    subst he0
    rw [if_neg (by simp)] at hE
    subst hE
    obtain ⟨vn',vt',hx4⟩:=HST4.out rfl
    have HX4:=hid hx4
    have z0:=HO4.out.cell 0 (by simp)
    have z1:=HO4.out.cell 1 (by simp)
    have z2:=HO4.out.cell 2 (by simp)
    have z3:=HO4.out.cell 3 (by simp)
    have z4:=HO4.out.cell 4 (by simp)
    simp only [List.getElem_cons_zero,List.getElem_cons_succ] at z0 z1 z2 z3 z4
    clear HST4 hx4
    have y0a:∀o,(w4.alloc o).cell? ⟨b0,0,none⟩=some (.string lb):=fun o=>by rw [((Below.refl w4.heap.size w4).alloc (Nat.le_refl _) o).cell (p:=⟨b0,0,none⟩) HROW4.out.lt];exact HROW4.out.cell 0 (by simp)
    obtain ⟨na,nc,hnv,_⟩:=own_names HX4.out.nown
    obtain ⟨sa,sc,hsv⟩:=own_form HX4.out.sown
    have c2a:∀o,(w4.alloc o).cell? ⟨ba,2,none⟩=some (.slice na (ns++defN lb op os ts).length nc):=fun o=>by rw [((Below.refl w4.heap.size w4).alloc (Nat.le_refl _) o).cell (p:=⟨ba,2,none⟩) HX4.out.row.lt,←hnv];exact HX4.out.row.cell 2 (by simp)
    have HST5:=hid (show RowT (w4.alloc (.cells #[.int .i64 (k:Nat),.int .i64 (rg:Nat),.int .i64 (c:Nat),.int .i64 (l:Nat),.int .i64 (d:Nat),.int .i64 0,.bool false,.int .i64 0,.slice none 0 0,.int .i64 0,.bool false] 113)) 113 w4.heap.size (stOne ⟨⟨k,rg,c,l,d⟩,0,false,0,.slice none 0 0,[],0,false⟩) from RowT.new w4 113 (stOne ⟨⟨k,rg,c,l,d⟩,0,false,0,.slice none 0 0,[],0,false⟩))
    have HK5:=hid (show Keeps [w4.heap.size] w4 (w4.alloc (.cells #[.int .i64 (k:Nat),.int .i64 (rg:Nat),.int .i64 (c:Nat),.int .i64 (l:Nat),.int .i64 (d:Nat),.int .i64 0,.bool false,.int .i64 0,.slice none 0 0,.int .i64 0,.bool false] 113)) from (Keeps.refl _ _).alloc _)
    have HFRESH:=hid (show ∀w':World,Keeps [w4.heap.size] w4 w'→Below w4.heap.size w4 w' from fun w' hk=>hk.below (Nat.le_refl _) (fun q hq=>by rw [List.mem_singleton] at hq;omega))
    rcases Nat.eq_zero_or_pos lb.size with hlb|hlb
    ·have kl:=is_empty lb hlb
     have hlab:(if lb.size=0 then 0 else ns.length)=0:=if_pos hlb
     have hhas:decide (lb.size≠0)=false:=by simp [hlb]
     have HLAB:=hid hlab
     have HHAS:=hid hhas
     clear hlab hhas hlb
     go_wp2_with fail
     have HROW6:=hid HST5.out
     have HK6:=hid HK5.out
     obtain ⟨b2,hb2⟩:∃b2,w4.heap.size=b2:=⟨_,rfl⟩
     generalize w4.alloc (.cells #[.int .i64 (k:Nat),.int .i64 (rg:Nat),.int .i64 (c:Nat),.int .i64 (l:Nat),.int .i64 (d:Nat),.int .i64 0,.bool false,.int .i64 0,.slice none 0 0,.int .i64 0,.bool false] 113)=w6 at *
     have HB2:=hid hb2
     rw [hb2] at HROW6 HK6 HFRESH ⊢
     clear hb2 y0a c2a kl z0 z1 z2 z3 z4
     have hb6:=HFRESH.out _ HK6.out
     have HX7:=hid (HX4.out.below (by rw [HB2.out];exact hb6))
     have HF7:=hid (HF4.out.trans (FrN.of_below (show Below w4.heap.size w4 w6 by rw [HB2.out];exact hb6)))
     have hB7:B≤w6.heap.size:=Nat.le_trans hB4 (by have:=hb6.size;have:=HB2.out;omega)
     have HROW7:=hid HROW6.out
     have HES7:=hid (show StrV w6 0 (.slice none 0 0) [] from Or.inl ⟨rfl,rfl⟩)
     have HONE:=hid (show ∀u∈stOne ⟨⟨k,rg,c,l,d⟩,0,false,0,.slice none 0 0,[],0,false⟩,u.oneCell'=true by simp [stOne,Value.oneCell'])
     have HLX:=hid (show lookX lb op os ns ts (.slice none 0 0)=⟨⟨k,rg,c,l,d⟩,0,false,0,.slice none 0 0,[],0,false⟩ by
      unfold lookX
      rw [HNONE.out]
      simp only
      rw [HLAB.out,HHAS.out,←HOE.out])
     clear hb6
     have c1:w6.cell? ⟨ba,1,none⟩=some (.slice sa ss.length sc):=by rw [←hsv];exact HX7.out.row.cell 1 (by simp)
     have f1:=HX7.out.row.free 1
     have hlb7:=HX7.out.row.lt
     have HSO:=hid (show w6.ownsRow B 113 11 (.slice sa ss.length sc) ss.length (stCells ss) by rw [←hsv];exact HX7.out.sown)
     have hneb:(Value.slice sa ss.length sc).ownBlock≠some ba:=own_row_ne HSO.out HX7.out.row (by decide)
     have s0:=HROW7.out.cell 0 (by simp [stOne])
     have s1:=HROW7.out.cell 1 (by simp [stOne])
     have s2:=HROW7.out.cell 2 (by simp [stOne])
     have s3:=HROW7.out.cell 3 (by simp [stOne])
     have s4:=HROW7.out.cell 4 (by simp [stOne])
     have s5:=HROW7.out.cell 5 (by simp [stOne])
     have s6:=HROW7.out.cell 6 (by simp [stOne])
     have s7:=HROW7.out.cell 7 (by simp [stOne])
     have s8:=HROW7.out.cell 8 (by simp [stOne])
     have s9:=HROW7.out.cell 9 (by simp [stOne])
     have s10:=HROW7.out.cell 10 (by simp [stOne])
     simp only [stOne,List.getElem_cons_zero,List.getElem_cons_succ] at s0 s1 s2 s3 s4 s5 s6 s7 s8 s9 s10
     go_region_law
      (first
       |(refine step_append_lies _ (by rfl) _ _ _ (by rfl) B 113 i0 _ 11 104 Tryz.underlying81 hi0 hz0 hz1 hz2 rfl (by omega) (.slice sa ss.length sc) ss.length (stCells ss) (by rfl) ((HSO.out.alloc _).drew) ⟨_,0,none⟩ 1 1 (stOne ⟨⟨k,rg,c,l,d⟩,0,false,0,.slice none 0 0,[],0,false⟩) (by rfl) (by rfl) (World.news_of_block (cs:=(stOne ⟨⟨k,rg,c,l,d⟩,0,false,0,.slice none 0 0,[],0,false⟩).toArray) (t:=113) (fr:=(0,0)) (heap_alloc_new _ _)) HONE.out (by omega) (by unfold maxLen;omega) (by omega) (by simp;omega) _ rfl ?_;intro gg cap' w8 hown8 hgrow hat hlt8;have hc8:=(hgrow.cell_far ⟨ba,1,none⟩ (by simp;omega) (Ne.symm hneb)).trans ((((Below.refl w6.heap.size w6).alloc (Nat.le_refl _) _).drew.cell (p:=⟨ba,1,none⟩) hlb7).trans c1);have hf8:=(hgrow.frozen_far ⟨ba,1,none⟩ (by simp;omega) (Ne.symm hneb)).trans ((((Below.refl w6.heap.size w6).alloc (Nat.le_refl _) _).drew.frozen (p:=⟨ba,1,none⟩) hlb7).trans f1)))
     all_goals
      have hb8:Below w6.heap.size w6 (w6.alloc (.cells (stOne ⟨⟨k,rg,c,l,d⟩,0,false,0,.slice none 0 0,[],0,false⟩).toArray 113)).drew:=((Below.refl _ _).alloc (Nat.le_refl _) _).drew
      have HL:=hid ((HX7.out.below hb8).stm (x:=⟨⟨k,rg,c,l,d⟩,0,false,0,.slice none 0 0,[],0,false⟩) (by rw [hsv];exact hgrow) (HES7.out.below hb8) hown8)
      have HF8:=hid ((HF7.out.trans (FrN.of_below hb8)).trans HL.out.2)
      clear hown8 hgrow hat hc8 hf8
      go_wp2
      go_ret
      unfold LkPost
      rw [HE.out]
      have hfin:=HL.out.1
      rw [←HLX.out] at hfin
      exact ⟨rfl,HF8.out,fun _=>⟨_,_,_,_,hfin⟩⟩
    ·have kl:=not_empty lb hlb
     have kl2:ns.length+1=(ns++defN lb op os ts).length:=by
      rw [List.length_append]
      unfold defN
      split
      ·rfl
      ·rw [if_neg (by omega)];rfl
     rw [←kl2] at c2a
     have hlab:(if lb.size=0 then 0 else ns.length)=ns.length:=if_neg (by omega)
     have hhas:decide (lb.size≠0)=true:=decide_eq_true (by omega)
     have HLAB:=hid hlab
     have HHAS:=hid hhas
     have HROW6:=hid (show RowT (w4.alloc (.cells #[.int .i64 (k:Nat),.int .i64 (rg:Nat),.int .i64 (c:Nat),.int .i64 (l:Nat),.int .i64 (d:Nat),.int .i64 (ns.length:Nat),.bool true,.int .i64 0,.slice none 0 0,.int .i64 0,.bool false] 113)) 113 w4.heap.size (stOne ⟨⟨k,rg,c,l,d⟩,ns.length,true,0,.slice none 0 0,[],0,false⟩) from RowT.new w4 113 (stOne ⟨⟨k,rg,c,l,d⟩,ns.length,true,0,.slice none 0 0,[],0,false⟩))
     have HK6:=hid (show Keeps [w4.heap.size] w4 (w4.alloc (.cells #[.int .i64 (k:Nat),.int .i64 (rg:Nat),.int .i64 (c:Nat),.int .i64 (l:Nat),.int .i64 (d:Nat),.int .i64 (ns.length:Nat),.bool true,.int .i64 0,.slice none 0 0,.int .i64 0,.bool false] 113)) from (Keeps.refl _ _).alloc _)
     clear hlab hhas hlb kl2
     go_wp2_with fail
     obtain ⟨b2,hb2⟩:∃b2,w4.heap.size=b2:=⟨_,rfl⟩
     generalize w4.alloc (.cells #[.int .i64 (k:Nat),.int .i64 (rg:Nat),.int .i64 (c:Nat),.int .i64 (l:Nat),.int .i64 (d:Nat),.int .i64 (ns.length:Nat),.bool true,.int .i64 0,.slice none 0 0,.int .i64 0,.bool false] 113)=w6 at *
     have HB2:=hid hb2
     rw [hb2] at HROW6 HK6 HFRESH ⊢
     clear hb2 y0a c2a kl z0 z1 z2 z3 z4
     have hb6:=HFRESH.out _ HK6.out
     have HX7:=hid (HX4.out.below (by rw [HB2.out];exact hb6))
     have HF7:=hid (HF4.out.trans (FrN.of_below (show Below w4.heap.size w4 w6 by rw [HB2.out];exact hb6)))
     have hB7:B≤w6.heap.size:=Nat.le_trans hB4 (by have:=hb6.size;have:=HB2.out;omega)
     have HROW7:=hid HROW6.out
     have HES7:=hid (show StrV w6 0 (.slice none 0 0) [] from Or.inl ⟨rfl,rfl⟩)
     have HONE:=hid (show ∀u∈stOne ⟨⟨k,rg,c,l,d⟩,ns.length,true,0,.slice none 0 0,[],0,false⟩,u.oneCell'=true by simp [stOne,Value.oneCell'])
     have HLX:=hid (show lookX lb op os ns ts (.slice none 0 0)=⟨⟨k,rg,c,l,d⟩,ns.length,true,0,.slice none 0 0,[],0,false⟩ by
      unfold lookX
      rw [HNONE.out]
      simp only
      rw [HLAB.out,HHAS.out,←HOE.out])
     clear hb6
     have c1:w6.cell? ⟨ba,1,none⟩=some (.slice sa ss.length sc):=by rw [←hsv];exact HX7.out.row.cell 1 (by simp)
     have f1:=HX7.out.row.free 1
     have hlb7:=HX7.out.row.lt
     have HSO:=hid (show w6.ownsRow B 113 11 (.slice sa ss.length sc) ss.length (stCells ss) by rw [←hsv];exact HX7.out.sown)
     have hneb:(Value.slice sa ss.length sc).ownBlock≠some ba:=own_row_ne HSO.out HX7.out.row (by decide)
     have s0:=HROW7.out.cell 0 (by simp [stOne])
     have s1:=HROW7.out.cell 1 (by simp [stOne])
     have s2:=HROW7.out.cell 2 (by simp [stOne])
     have s3:=HROW7.out.cell 3 (by simp [stOne])
     have s4:=HROW7.out.cell 4 (by simp [stOne])
     have s5:=HROW7.out.cell 5 (by simp [stOne])
     have s6:=HROW7.out.cell 6 (by simp [stOne])
     have s7:=HROW7.out.cell 7 (by simp [stOne])
     have s8:=HROW7.out.cell 8 (by simp [stOne])
     have s9:=HROW7.out.cell 9 (by simp [stOne])
     have s10:=HROW7.out.cell 10 (by simp [stOne])
     simp only [stOne,List.getElem_cons_zero,List.getElem_cons_succ] at s0 s1 s2 s3 s4 s5 s6 s7 s8 s9 s10
     go_region_law
      (first
       |(refine step_append_lies _ (by rfl) _ _ _ (by rfl) B 113 i0 _ 11 104 Tryz.underlying81 hi0 hz0 hz1 hz2 rfl (by omega) (.slice sa ss.length sc) ss.length (stCells ss) (by rfl) ((HSO.out.alloc _).drew) ⟨_,0,none⟩ 1 1 (stOne ⟨⟨k,rg,c,l,d⟩,ns.length,true,0,.slice none 0 0,[],0,false⟩) (by rfl) (by rfl) (World.news_of_block (cs:=(stOne ⟨⟨k,rg,c,l,d⟩,ns.length,true,0,.slice none 0 0,[],0,false⟩).toArray) (t:=113) (fr:=(0,0)) (heap_alloc_new _ _)) HONE.out (by omega) (by unfold maxLen;omega) (by omega) (by simp;omega) _ rfl ?_;intro gg cap' w8 hown8 hgrow hat hlt8;have hc8:=(hgrow.cell_far ⟨ba,1,none⟩ (by simp;omega) (Ne.symm hneb)).trans ((((Below.refl w6.heap.size w6).alloc (Nat.le_refl _) _).drew.cell (p:=⟨ba,1,none⟩) hlb7).trans c1);have hf8:=(hgrow.frozen_far ⟨ba,1,none⟩ (by simp;omega) (Ne.symm hneb)).trans ((((Below.refl w6.heap.size w6).alloc (Nat.le_refl _) _).drew.frozen (p:=⟨ba,1,none⟩) hlb7).trans f1)))
     all_goals
      have hb8:Below w6.heap.size w6 (w6.alloc (.cells (stOne ⟨⟨k,rg,c,l,d⟩,ns.length,true,0,.slice none 0 0,[],0,false⟩).toArray 113)).drew:=((Below.refl _ _).alloc (Nat.le_refl _) _).drew
      have HL:=hid ((HX7.out.below hb8).stm (x:=⟨⟨k,rg,c,l,d⟩,ns.length,true,0,.slice none 0 0,[],0,false⟩) (by rw [hsv];exact hgrow) (HES7.out.below hb8) hown8)
      have HF8:=hid ((HF7.out.trans (FrN.of_below hb8)).trans HL.out.2)
      clear hown8 hgrow hat hc8 hf8
      go_wp2
      go_ret
      unfold LkPost
      rw [HE.out]
      have hfin:=HL.out.1
      rw [←HLX.out] at hfin
      exact ⟨rfl,HF8.out,fun _=>⟨_,_,_,_,hfin⟩⟩
   have ks2:=bne_of ks
   go_wp2_with fail
   refine (define_any _ B ba vl vs vn vt vb ls ss ns ts sz bs HX.out (by omega) (by omega) lb op va vc os HS.out HSET.out HSZ.out hB3).mono ?_
   rintro e w4 ⟨rfl,hf4,hst4⟩
   have HROW4:=hid (HROW.out.fr hf4 rfl (fun h=>by cases h))
   have HO4:=hid (HO1.out.fr hf4 rfl (fun h=>by cases h))
   have HF4:=hid (HF.out.trans hf4)
   have HS4:=hid (HS.out.frn hf4)
   have hB4:B≤w4.heap.size:=Nat.le_trans hB3 hf4.size
   have HST4:=hid hst4
   obtain ⟨er,her⟩:∃er,defE lb op os ns=er:=⟨_,rfl⟩
   rw [her] at hE HST4 ⊢
   clear hf4 hst4 y0 y1 y2 her
   by_cases he0:¬er=0
   ·have ke:(er != 0)=true:=by simpa using he0
    rw [if_pos he0] at hE
    subst hE
    go_wp2
    go_ret
    unfold LkPost
    rw [HE.out]
    exact ⟨rfl,HF4.out,fun h=>absurd h he0⟩
   have he0:er=0:=Classical.byContradiction he0
   subst he0
   rw [if_neg (by simp)] at hE
   subst hE
   obtain ⟨vn',vt',hx4⟩:=HST4.out rfl
   have HX4:=hid hx4
   have z0:=HO4.out.cell 0 (by simp)
   have z1:=HO4.out.cell 1 (by simp)
   have z2:=HO4.out.cell 2 (by simp)
   have z3:=HO4.out.cell 3 (by simp)
   have z4:=HO4.out.cell 4 (by simp)
   simp only [List.getElem_cons_zero,List.getElem_cons_succ] at z0 z1 z2 z3 z4
   clear HST4 hx4
   have y0a:∀o,(w4.alloc o).cell? ⟨b0,0,none⟩=some (.string lb):=fun o=>by rw [((Below.refl w4.heap.size w4).alloc (Nat.le_refl _) o).cell (p:=⟨b0,0,none⟩) HROW4.out.lt];exact HROW4.out.cell 0 (by simp)
   obtain ⟨na,nc,hnv,_⟩:=own_names HX4.out.nown
   obtain ⟨sa,sc,hsv⟩:=own_form HX4.out.sown
   have c2a:∀o,(w4.alloc o).cell? ⟨ba,2,none⟩=some (.slice na (ns++defN lb op os ts).length nc):=fun o=>by rw [((Below.refl w4.heap.size w4).alloc (Nat.le_refl _) o).cell (p:=⟨ba,2,none⟩) HX4.out.row.lt,←hnv];exact HX4.out.row.cell 2 (by simp)
   have HST5:=hid (show RowT (w4.alloc (.cells #[.int .i64 (k:Nat),.int .i64 (rg:Nat),.int .i64 (c:Nat),.int .i64 (l:Nat),.int .i64 (d:Nat),.int .i64 0,.bool false,.int .i64 0,.slice none 0 0,.int .i64 0,.bool false] 113)) 113 w4.heap.size (stOne ⟨⟨k,rg,c,l,d⟩,0,false,0,.slice none 0 0,[],0,false⟩) from RowT.new w4 113 (stOne ⟨⟨k,rg,c,l,d⟩,0,false,0,.slice none 0 0,[],0,false⟩))
   have HK5:=hid (show Keeps [w4.heap.size] w4 (w4.alloc (.cells #[.int .i64 (k:Nat),.int .i64 (rg:Nat),.int .i64 (c:Nat),.int .i64 (l:Nat),.int .i64 (d:Nat),.int .i64 0,.bool false,.int .i64 0,.slice none 0 0,.int .i64 0,.bool false] 113)) from (Keeps.refl _ _).alloc _)
   have HFRESH:=hid (show ∀w':World,Keeps [w4.heap.size] w4 w'→Below w4.heap.size w4 w' from fun w' hk=>hk.below (Nat.le_refl _) (fun q hq=>by rw [List.mem_singleton] at hq;omega))
   rcases Nat.eq_zero_or_pos lb.size with hlb|hlb
   ·have kl:=is_empty lb hlb
    have hlab:(if lb.size=0 then 0 else ns.length)=0:=if_pos hlb
    have hhas:decide (lb.size≠0)=false:=by simp [hlb]
    have HLAB:=hid hlab
    have HHAS:=hid hhas
    clear hlab hhas hlb
    go_wp2_with fail
    have HROW6:=hid HST5.out
    have HK6:=hid HK5.out
    obtain ⟨b2,hb2⟩:∃b2,w4.heap.size=b2:=⟨_,rfl⟩
    generalize w4.alloc (.cells #[.int .i64 (k:Nat),.int .i64 (rg:Nat),.int .i64 (c:Nat),.int .i64 (l:Nat),.int .i64 (d:Nat),.int .i64 0,.bool false,.int .i64 0,.slice none 0 0,.int .i64 0,.bool false] 113)=w6 at *
    have HB2:=hid hb2
    rw [hb2] at HROW6 HK6 HFRESH ⊢
    clear hb2 y0a c2a kl z0 z1 z2 z3 z4
    have hb6:=HFRESH.out _ HK6.out
    have HX7:=hid (HX4.out.below (by rw [HB2.out];exact hb6))
    have HF7:=hid (HF4.out.trans (FrN.of_below (show Below w4.heap.size w4 w6 by rw [HB2.out];exact hb6)))
    have hB7:B≤w6.heap.size:=Nat.le_trans hB4 (by have:=hb6.size;have:=HB2.out;omega)
    have HROW7:=hid HROW6.out
    have HES7:=hid (show StrV w6 0 (.slice none 0 0) [] from Or.inl ⟨rfl,rfl⟩)
    have HONE:=hid (show ∀u∈stOne ⟨⟨k,rg,c,l,d⟩,0,false,0,.slice none 0 0,[],0,false⟩,u.oneCell'=true by simp [stOne,Value.oneCell'])
    have HLX:=hid (show lookX lb op os ns ts (.slice none 0 0)=⟨⟨k,rg,c,l,d⟩,0,false,0,.slice none 0 0,[],0,false⟩ by
     unfold lookX
     rw [HNONE.out]
     simp only
     rw [HLAB.out,HHAS.out,←HOE.out])
    clear hb6
    have c1:w6.cell? ⟨ba,1,none⟩=some (.slice sa ss.length sc):=by rw [←hsv];exact HX7.out.row.cell 1 (by simp)
    have f1:=HX7.out.row.free 1
    have hlb7:=HX7.out.row.lt
    have HSO:=hid (show w6.ownsRow B 113 11 (.slice sa ss.length sc) ss.length (stCells ss) by rw [←hsv];exact HX7.out.sown)
    have hneb:(Value.slice sa ss.length sc).ownBlock≠some ba:=own_row_ne HSO.out HX7.out.row (by decide)
    have s0:=HROW7.out.cell 0 (by simp [stOne])
    have s1:=HROW7.out.cell 1 (by simp [stOne])
    have s2:=HROW7.out.cell 2 (by simp [stOne])
    have s3:=HROW7.out.cell 3 (by simp [stOne])
    have s4:=HROW7.out.cell 4 (by simp [stOne])
    have s5:=HROW7.out.cell 5 (by simp [stOne])
    have s6:=HROW7.out.cell 6 (by simp [stOne])
    have s7:=HROW7.out.cell 7 (by simp [stOne])
    have s8:=HROW7.out.cell 8 (by simp [stOne])
    have s9:=HROW7.out.cell 9 (by simp [stOne])
    have s10:=HROW7.out.cell 10 (by simp [stOne])
    simp only [stOne,List.getElem_cons_zero,List.getElem_cons_succ] at s0 s1 s2 s3 s4 s5 s6 s7 s8 s9 s10
    go_region_law
     (first
      |(refine step_append_lies _ (by rfl) _ _ _ (by rfl) B 113 i0 _ 11 104 Tryz.underlying81 hi0 hz0 hz1 hz2 rfl (by omega) (.slice sa ss.length sc) ss.length (stCells ss) (by rfl) ((HSO.out.alloc _).drew) ⟨_,0,none⟩ 1 1 (stOne ⟨⟨k,rg,c,l,d⟩,0,false,0,.slice none 0 0,[],0,false⟩) (by rfl) (by rfl) (World.news_of_block (cs:=(stOne ⟨⟨k,rg,c,l,d⟩,0,false,0,.slice none 0 0,[],0,false⟩).toArray) (t:=113) (fr:=(0,0)) (heap_alloc_new _ _)) HONE.out (by omega) (by unfold maxLen;omega) (by omega) (by simp;omega) _ rfl ?_;intro gg cap' w8 hown8 hgrow hat hlt8;have hc8:=(hgrow.cell_far ⟨ba,1,none⟩ (by simp;omega) (Ne.symm hneb)).trans ((((Below.refl w6.heap.size w6).alloc (Nat.le_refl _) _).drew.cell (p:=⟨ba,1,none⟩) hlb7).trans c1);have hf8:=(hgrow.frozen_far ⟨ba,1,none⟩ (by simp;omega) (Ne.symm hneb)).trans ((((Below.refl w6.heap.size w6).alloc (Nat.le_refl _) _).drew.frozen (p:=⟨ba,1,none⟩) hlb7).trans f1)))
    all_goals
     have hb8:Below w6.heap.size w6 (w6.alloc (.cells (stOne ⟨⟨k,rg,c,l,d⟩,0,false,0,.slice none 0 0,[],0,false⟩).toArray 113)).drew:=((Below.refl _ _).alloc (Nat.le_refl _) _).drew
     have HL:=hid ((HX7.out.below hb8).stm (x:=⟨⟨k,rg,c,l,d⟩,0,false,0,.slice none 0 0,[],0,false⟩) (by rw [hsv];exact hgrow) (HES7.out.below hb8) hown8)
     have HF8:=hid ((HF7.out.trans (FrN.of_below hb8)).trans HL.out.2)
     clear hown8 hgrow hat hc8 hf8
     go_wp2
     go_ret
     unfold LkPost
     rw [HE.out]
     have hfin:=HL.out.1
     rw [←HLX.out] at hfin
     exact ⟨rfl,HF8.out,fun _=>⟨_,_,_,_,hfin⟩⟩
   ·have kl:=not_empty lb hlb
    have kl2:ns.length+1=(ns++defN lb op os ts).length:=by
     rw [List.length_append]
     unfold defN
     split
     ·rfl
     ·rw [if_neg (by omega)];rfl
    rw [←kl2] at c2a
    have hlab:(if lb.size=0 then 0 else ns.length)=ns.length:=if_neg (by omega)
    have hhas:decide (lb.size≠0)=true:=decide_eq_true (by omega)
    have HLAB:=hid hlab
    have HHAS:=hid hhas
    have HROW6:=hid (show RowT (w4.alloc (.cells #[.int .i64 (k:Nat),.int .i64 (rg:Nat),.int .i64 (c:Nat),.int .i64 (l:Nat),.int .i64 (d:Nat),.int .i64 (ns.length:Nat),.bool true,.int .i64 0,.slice none 0 0,.int .i64 0,.bool false] 113)) 113 w4.heap.size (stOne ⟨⟨k,rg,c,l,d⟩,ns.length,true,0,.slice none 0 0,[],0,false⟩) from RowT.new w4 113 (stOne ⟨⟨k,rg,c,l,d⟩,ns.length,true,0,.slice none 0 0,[],0,false⟩))
    have HK6:=hid (show Keeps [w4.heap.size] w4 (w4.alloc (.cells #[.int .i64 (k:Nat),.int .i64 (rg:Nat),.int .i64 (c:Nat),.int .i64 (l:Nat),.int .i64 (d:Nat),.int .i64 (ns.length:Nat),.bool true,.int .i64 0,.slice none 0 0,.int .i64 0,.bool false] 113)) from (Keeps.refl _ _).alloc _)
    clear hlab hhas hlb kl2
    go_wp2_with fail
    obtain ⟨b2,hb2⟩:∃b2,w4.heap.size=b2:=⟨_,rfl⟩
    generalize w4.alloc (.cells #[.int .i64 (k:Nat),.int .i64 (rg:Nat),.int .i64 (c:Nat),.int .i64 (l:Nat),.int .i64 (d:Nat),.int .i64 (ns.length:Nat),.bool true,.int .i64 0,.slice none 0 0,.int .i64 0,.bool false] 113)=w6 at *
    have HB2:=hid hb2
    rw [hb2] at HROW6 HK6 HFRESH ⊢
    clear hb2 y0a c2a kl z0 z1 z2 z3 z4
    have hb6:=HFRESH.out _ HK6.out
    have HX7:=hid (HX4.out.below (by rw [HB2.out];exact hb6))
    have HF7:=hid (HF4.out.trans (FrN.of_below (show Below w4.heap.size w4 w6 by rw [HB2.out];exact hb6)))
    have hB7:B≤w6.heap.size:=Nat.le_trans hB4 (by have:=hb6.size;have:=HB2.out;omega)
    have HROW7:=hid HROW6.out
    have HES7:=hid (show StrV w6 0 (.slice none 0 0) [] from Or.inl ⟨rfl,rfl⟩)
    have HONE:=hid (show ∀u∈stOne ⟨⟨k,rg,c,l,d⟩,ns.length,true,0,.slice none 0 0,[],0,false⟩,u.oneCell'=true by simp [stOne,Value.oneCell'])
    have HLX:=hid (show lookX lb op os ns ts (.slice none 0 0)=⟨⟨k,rg,c,l,d⟩,ns.length,true,0,.slice none 0 0,[],0,false⟩ by
     unfold lookX
     rw [HNONE.out]
     simp only
     rw [HLAB.out,HHAS.out,←HOE.out])
    clear hb6
    have c1:w6.cell? ⟨ba,1,none⟩=some (.slice sa ss.length sc):=by rw [←hsv];exact HX7.out.row.cell 1 (by simp)
    have f1:=HX7.out.row.free 1
    have hlb7:=HX7.out.row.lt
    have HSO:=hid (show w6.ownsRow B 113 11 (.slice sa ss.length sc) ss.length (stCells ss) by rw [←hsv];exact HX7.out.sown)
    have hneb:(Value.slice sa ss.length sc).ownBlock≠some ba:=own_row_ne HSO.out HX7.out.row (by decide)
    have s0:=HROW7.out.cell 0 (by simp [stOne])
    have s1:=HROW7.out.cell 1 (by simp [stOne])
    have s2:=HROW7.out.cell 2 (by simp [stOne])
    have s3:=HROW7.out.cell 3 (by simp [stOne])
    have s4:=HROW7.out.cell 4 (by simp [stOne])
    have s5:=HROW7.out.cell 5 (by simp [stOne])
    have s6:=HROW7.out.cell 6 (by simp [stOne])
    have s7:=HROW7.out.cell 7 (by simp [stOne])
    have s8:=HROW7.out.cell 8 (by simp [stOne])
    have s9:=HROW7.out.cell 9 (by simp [stOne])
    have s10:=HROW7.out.cell 10 (by simp [stOne])
    simp only [stOne,List.getElem_cons_zero,List.getElem_cons_succ] at s0 s1 s2 s3 s4 s5 s6 s7 s8 s9 s10
    go_region_law
     (first
      |(refine step_append_lies _ (by rfl) _ _ _ (by rfl) B 113 i0 _ 11 104 Tryz.underlying81 hi0 hz0 hz1 hz2 rfl (by omega) (.slice sa ss.length sc) ss.length (stCells ss) (by rfl) ((HSO.out.alloc _).drew) ⟨_,0,none⟩ 1 1 (stOne ⟨⟨k,rg,c,l,d⟩,ns.length,true,0,.slice none 0 0,[],0,false⟩) (by rfl) (by rfl) (World.news_of_block (cs:=(stOne ⟨⟨k,rg,c,l,d⟩,ns.length,true,0,.slice none 0 0,[],0,false⟩).toArray) (t:=113) (fr:=(0,0)) (heap_alloc_new _ _)) HONE.out (by omega) (by unfold maxLen;omega) (by omega) (by simp;omega) _ rfl ?_;intro gg cap' w8 hown8 hgrow hat hlt8;have hc8:=(hgrow.cell_far ⟨ba,1,none⟩ (by simp;omega) (Ne.symm hneb)).trans ((((Below.refl w6.heap.size w6).alloc (Nat.le_refl _) _).drew.cell (p:=⟨ba,1,none⟩) hlb7).trans c1);have hf8:=(hgrow.frozen_far ⟨ba,1,none⟩ (by simp;omega) (Ne.symm hneb)).trans ((((Below.refl w6.heap.size w6).alloc (Nat.le_refl _) _).drew.frozen (p:=⟨ba,1,none⟩) hlb7).trans f1)))
    all_goals
     have hb8:Below w6.heap.size w6 (w6.alloc (.cells (stOne ⟨⟨k,rg,c,l,d⟩,ns.length,true,0,.slice none 0 0,[],0,false⟩).toArray 113)).drew:=((Below.refl _ _).alloc (Nat.le_refl _) _).drew
     have HL:=hid ((HX7.out.below hb8).stm (x:=⟨⟨k,rg,c,l,d⟩,ns.length,true,0,.slice none 0 0,[],0,false⟩) (by rw [hsv];exact hgrow) (HES7.out.below hb8) hown8)
     have HF8:=hid ((HF7.out.trans (FrN.of_below hb8)).trans HL.out.2)
     clear hown8 hgrow hat hc8 hf8
     go_wp2
     go_ret
     unfold LkPost
     rw [HE.out]
     have hfin:=HL.out.1
     rw [←HLX.out] at hfin
     exact ⟨rfl,HF8.out,fun _=>⟨_,_,_,_,hfin⟩⟩
end Go.Proofs.YtcepppilgncdmaaGreatDoor
