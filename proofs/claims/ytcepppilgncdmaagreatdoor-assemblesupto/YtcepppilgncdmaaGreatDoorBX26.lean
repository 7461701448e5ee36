/-
  Joined: PaAdd PaLkD.
-/
import Derived.Test.YtcepppilgncdmaaGreatDoorBX23
import Derived.Test.YtcepppilgncdmaaGreatDoorBX24
namespace Go.Proofs.YtcepppilgncdmaaGreatDoor
open Go.RowKit
section
attribute [local go_sem ↓] Go.wp_at_zero Go.wp_at_succ
def AddPost (B ba:Nat) (vl vs vt vb:Value) (ls:List LnV) (ss:List StV) (ns ts:List (ByteArray×Int)) (sz:Nat) (bs:List UInt8) (t:ByteArray) (z er:Int) (w:World) (e:Ending) (w':World):Prop:=
 e=.returned (.int .i64 er)∧FrN B [] w w'∧(er=0→∃vn',AsmAt w' B ba vl vs vn' vt vb ls ss (ns++[(t,z)]) ts sz bs)
set_option maxRecDepth 100000 in
set_option maxHeartbeats 1600000 in
theorem add_any (w:World) (B ba:Nat) (vl vs vn vt vb:Value) (ls:List LnV) (ss:List StV) (ns ts:List (ByteArray×Int)) (sz:Nat) (bs:List UInt8) (h:AsmAt w B ba vl vs vn vt vb ls ss ns ts sz bs) (hnl:ns.length≤1000) (t:ByteArray) (z:Int) (hB:B≤w.heap.size) (er:Int) (her:(if hasN (plainN ns) (L t) then 5 else 0)=er) :
  Calls Tryz.prog 112 #[.pointer (some ⟨ba,0,none⟩),.agg #[.string t,.int .i64 z]] w (AddPost B ba vl vs vt vb ls ss ns ts sz bs t z er w):=by
 obtain ⟨r,hr⟩:∃r,hasN (plainN ns) (L t)=r:=⟨_,rfl⟩
 rw [hr] at her
 have HER:=hid her
 clear her
 obtain ⟨i0,hi0,hz0,hz1,hz2⟩:=info_parts info_name
 have hb0:Below w.heap.size w (w.alloc (.cells #[.string t,.int .i64 z] 40)):=(Below.refl _ _).alloc (Nat.le_refl _) _
 have hrow0:RowT (w.alloc (.cells #[.string t,.int .i64 z] 40)) 40 w.heap.size [.string t,.int .i64 z]:=RowT.new w 40 [.string t,.int .i64 z]
 have HX:=hid (h.below hb0)
 have HF:=hid (show FrN B [] w (w.alloc (.cells #[.string t,.int .i64 z] 40)) from FrN.of_below hb0)
 have HROW:=hid hrow0
 have HR:=hid hr
 obtain ⟨na,nc,hnv,hna⟩:=own_names (h.below hb0).nown
 subst hnv
 have HNA:=hid hna
 have c2:(w.alloc (.cells #[.string t,.int .i64 z] 40)).cell? ⟨ba,2,none⟩=some (.slice na ns.length nc):=HX.out.row.cell 2 (by simp)
 clear h hb0 hrow0 hr hna
 go_enter Tryz.func112,Tryz.ntmps112
 go_upto_region 1 with fail
 have hB1:B≤(w.alloc (.cells #[.string t,.int .i64 z] 40)).heap.size:=by simp;omega
 generalize w.alloc (.cells #[.string t,.int .i64 z] 40)=w1 at *
 generalize w.heap.size=b0 at *
 go_wp2
 go_loopg [12] ns.length (fun q i wr=>∃j:Nat,q+j=ns.length∧i=.int .i64 j∧Below w1.heap.size w1 wr∧r=(findN (plainN (ns.drop j)) (L t)).isSome)
 case atStart=>exact ⟨0,rfl,rfl,Below.refl _ _,by rw [List.drop_zero];exact HR.out.symm⟩
 case round =>
  obtain ⟨j,hq,rfl,hb,ha⟩:=hrel
  have HB:=hid hb
  have HA:=hid ha
  have y0:wr.cell? ⟨b0,0,none⟩=some (.string t):=(HROW.out.below hb).cell 0 (by simp)
  have y1:wr.cell? ⟨b0,1,none⟩=some (.int .i64 z):=(HROW.out.below hb).cell 1 (by simp)
  have hbl:b0<wr.heap.size:=(HROW.out.below hb).lt
  clear ha hb
  by_cases hlt:j<ns.length
  ·have kd:decide ((j:Int)<(ns.length:Int))=true:=by simp;omega
   rcases (HNA.out.below HB.out) with h0|⟨g,off,hv,hgl,hc⟩
   ·rw [h0] at hlt;simp at hlt
   ·subst hv
    obtain ⟨d0,d1⟩:=hc j hlt
    have hA:=HA.out
    rw [findN_at _ _ _ hlt] at hA
    have y0':(wr.alloc (.cells #[.string ns[j].1,.int .i64 ns[j].2] 40)).cell? ⟨b0,0,none⟩=some (.string t):=by rw [((Below.refl wr.heap.size wr).alloc (Nat.le_refl _) _).cell (p:=⟨b0,0,none⟩) hbl];exact y0
    clear hc
    by_cases he:L ns[j].1=L t
    ·rw [if_pos he] at hA
     have hr1:r=true:=hA
     subst hr1
     have her:(5:Int)=er:=HER.out
     subst her
     have kb:(ns[j].1.toList==t.toList)=true:=beq_of_L he
     clear hA he
     go_wp2
     go_ret
     exact ⟨rfl,HF.out.trans (FrN.of_below (HB.out.alloc HB.out.size _)),(fun h=>by cases h)⟩
    ·rw [if_neg he] at hA
     have HF2:=hid hA
     have kb:(ns[j].1.toList==t.toList)=false:=nbeq_of_L he
     clear hA he
     go_wp2
     go_roundg (gk-1)
     case measure=>omega
     case rel=>exact ⟨j+1,by omega,by go_num,HB.out.alloc HB.out.size _,HF2.out⟩
  ·have kd:decide ((j:Int)<(ns.length:Int))=false:=by simp;omega
   have hr1:r=false:=by rw [HA.out,findN_end _ _ _ (by omega)];rfl
   subst hr1
   have her:(0:Int)=er:=HER.out
   subst her
   have HX:=hid (HX.out.below HB.out)
   have HF:=hid (HF.out.trans (FrN.of_below HB.out))
   have c2:wr.cell? ⟨ba,2,none⟩=some (.slice na ns.length nc):=HX.out.row.cell 2 (by simp)
   have f2:=HX.out.row.free 2
   have hlb:=HX.out.row.lt
   have hBr:B≤wr.heap.size:=Nat.le_trans hB1 HB.out.size
   have hneb:(Value.slice na ns.length nc).ownBlock≠some ba:=own_row_ne HX.out.nown HX.out.row (by decide)
   clear HA HNA hq
   go_wp2_with fail
   go_region_law
    (first
     |(refine step_append_lies _ (by rfl) _ _ _ (by rfl) B 40 i0 _ 2 24 Tryz.underlying31 hi0 hz0 hz1 hz2 rfl (by omega) (.slice na ns.length nc) ns.length (nameCells ns) (by rfl) ((HX.out.nown.alloc _).drew) ⟨_,0,none⟩ 1 1 [.string t,.int .i64 z] (by rfl) (by rfl) (World.news_of_block (cs:=#[.string t,.int .i64 z]) (t:=40) (fr:=(0,0)) (heap_alloc_new _ _)) (by simp [Value.oneCell']) (by omega) (by unfold maxLen;omega) (by omega) (by simp;omega) _ rfl ?_;intro gg cap' w4 hown4 hgrow hat hlt4;have hc4:=(hgrow.cell_far ⟨ba,2,none⟩ (by simp;omega) (Ne.symm hneb)).trans ((((Below.refl wr.heap.size wr).alloc (Nat.le_refl _) _).drew.cell (p:=⟨ba,2,none⟩) hlb).trans c2);have hf4:=(hgrow.frozen_far ⟨ba,2,none⟩ (by simp;omega) (Ne.symm hneb)).trans ((((Below.refl wr.heap.size wr).alloc (Nat.le_refl _) _).drew.frozen (p:=⟨ba,2,none⟩) hlb).trans f2)))
   all_goals
    have hb2:Below wr.heap.size wr (wr.alloc (.cells #[.string t,.int .i64 z] 40)).drew:=((Below.refl _ _).alloc (Nat.le_refl _) _).drew
    have HL:=hid ((HX.out.below hb2).name hgrow hat hown4)
    have HF2:=hid ((HF.out.trans (FrN.of_below hb2)).trans HL.out.2)
    clear hown4 hgrow hat hc4 hf4
    go_wp2
    go_ret
    exact ⟨rfl,HF2.out,fun _=>⟨_,HL.out.1⟩⟩
def SetPost (B ba:Nat) (vl vs vb:Value) (ls:List LnV) (ss:List StV) (ns ts:List (ByteArray×Int)) (sz:Nat) (bs:List UInt8) (t:ByteArray) (z er:Int) (w:World) (e:Ending) (w':World):Prop:=
 e=.returned (.int .i64 er)∧FrN B [] w w'∧(er=0→∃vn' vt',AsmAt w' B ba vl vs vn' vt' vb ls ss (ns++[(t,z)]) (ts++[(t,z)]) sz bs)
set_option maxRecDepth 100000 in
set_option maxHeartbeats 1600000 in
theorem set_any (w:World) (B ba:Nat) (vl vs vn vt vb:Value) (ls:List LnV) (ss:List StV) (ns ts:List (ByteArray×Int)) (sz:Nat) (bs:List UInt8) (h:AsmAt w B ba vl vs vn vt vb ls ss ns ts sz bs) (hnl:ns.length≤1000) (htl:ts.length≤1000) (t x:ByteArray) (hx:x.size≤1000) (hB:B≤w.heap.size) (en:Int) (hr:(if hasN (plainN ns) (L t) then 5 else 0)=en) :
  Calls Tryz.prog 111 #[.pointer (some ⟨ba,0,none⟩),.string t,.string x] w (SetPost B ba vl vs vb ls ss ns ts sz bs t (value 0 (plainN ts) (L x)).1 en w):=by
 obtain ⟨i0,hi0,hz0,hz1,hz2⟩:=info_parts info_name
 obtain ⟨q,hq⟩:∃q,value 0 (plainN ts) (L x)=q:=⟨_,rfl⟩
 rw [hq]
 obtain ⟨z,er⟩:=q
 have HX:=hid h
 have HR:=hid hr
 have HQ:=hid hq
 obtain ⟨ta,tc,htv,hta⟩:=own_names h.town
 subst htv
 have HTA:=hid hta
 have c3:w.cell? ⟨ba,3,none⟩=some (.slice ta ts.length tc):=h.row.cell 3 (by simp)
 clear h hr hq hta
 go_enter Tryz.func111,Tryz.ntmps111
 go_wp2_with fail
 refine (xValue_any x 0 ta tc ts _ z er (by unfold maxLen;omega) (by unfold maxLen;omega) HTA.out HQ.out).mono ?_
 rintro e w1 ⟨rfl,hb1⟩
 have HX1:=hid (HX.out.below hb1)
 have HF1:=hid (show FrN B [] w w1 from FrN.of_below hb1)
 have hB1:B≤w1.heap.size:=Nat.le_trans hB hb1.size
 clear hb1 c3 HX HTA
 go_upto_region 3 with fail
 have hb2:Below w1.heap.size w1 (w1.alloc (.cells #[.string t,.int .i64 z] 40)):=(Below.refl _ _).alloc (Nat.le_refl _) _
 have HROW:=hid (show RowT (w1.alloc (.cells #[.string t,.int .i64 z] 40)) 40 w1.heap.size [.string t,.int .i64 z] from RowT.new w1 40 [.string t,.int .i64 z])
 have HX2:=hid (HX1.out.below hb2)
 have HF2:=hid (HF1.out.trans (FrN.of_below hb2))
 have hB2:B≤(w1.alloc (.cells #[.string t,.int .i64 z] 40)).heap.size:=Nat.le_trans hB1 hb2.size
 have hnb0:(Value.slice ta ts.length tc).ownBlock≠some w1.heap.size:=fun e=>by
  have:=own_ltA HX1.out.town e
  omega
 have hbab:w1.heap.size≠ba:=by have:=HX1.out.row.lt;omega
 generalize w1.alloc (.cells #[.string t,.int .i64 z] 40)=w2 at *
 generalize w1.heap.size=b0 at *
 have c3:w2.cell? ⟨ba,3,none⟩=some (.slice ta ts.length tc):=HX2.out.row.cell 3 (by simp)
 have f3:=HX2.out.row.free 3
 have hlb:=HX2.out.row.lt
 have y0:w2.cell? ⟨b0,0,none⟩=some (.string t):=HROW.out.cell 0 (by simp)
 have y1:w2.cell? ⟨b0,1,none⟩=some (.int .i64 z):=HROW.out.cell 1 (by simp)
 have hbl:b0<w2.heap.size:=HROW.out.lt
 have hneb:(Value.slice ta ts.length tc).ownBlock≠some ba:=own_row_ne HX2.out.town HX2.out.row (by decide)
 clear hb2 HX1 HF1 hB1
 go_region_law
  (first
   |(refine step_append_lies _ (by rfl) _ _ _ (by rfl) B 40 i0 _ 2 24 Tryz.underlying31 hi0 hz0 hz1 hz2 rfl (by omega) (.slice ta ts.length tc) ts.length (nameCells ts) (by rfl) ((HX2.out.town.alloc _).drew) ⟨_,0,none⟩ 1 1 [.string t,.int .i64 z] (by rfl) (by rfl) (World.news_of_block (cs:=#[.string t,.int .i64 z]) (t:=40) (fr:=(0,0)) (heap_alloc_new _ _)) (by simp [Value.oneCell']) (by omega) (by unfold maxLen;omega) (by omega) (by simp;omega) _ rfl ?_;intro gg cap' w4 hown4 hgrow hat hlt4;have hc4:=(hgrow.cell_far ⟨ba,3,none⟩ (by simp;omega) (Ne.symm hneb)).trans ((((Below.refl w2.heap.size w2).alloc (Nat.le_refl _) _).drew.cell (p:=⟨ba,3,none⟩) hlb).trans c3);have hf4:=(hgrow.frozen_far ⟨ba,3,none⟩ (by simp;omega) (Ne.symm hneb)).trans ((((Below.refl w2.heap.size w2).alloc (Nat.le_refl _) _).drew.frozen (p:=⟨ba,3,none⟩) hlb).trans f3)))
 all_goals
  have hb3:Below w2.heap.size w2 (w2.alloc (.cells #[.string t,.int .i64 z] 40)).drew:=((Below.refl _ _).alloc (Nat.le_refl _) _).drew
  have HL:=hid ((HX2.out.below hb3).set hgrow hat hown4)
  have HF3:=hid ((HF2.out.trans (FrN.of_below hb3)).trans HL.out.2)
  have hr5:=((HROW.out.below hb3).grown' hgrow (Ne.symm hnb0)).other ba 3 hbab (.slice (some ⟨gg,0,none⟩) (ts.length+1) cap')
  have y0:(w4.setCell ⟨ba,3,none⟩ (.slice (some ⟨gg,0,none⟩) (ts.length+1) cap')).cell? ⟨b0,0,none⟩=some (.string t):=hr5.cell 0 (by simp)
  have y1:(w4.setCell ⟨ba,3,none⟩ (.slice (some ⟨gg,0,none⟩) (ts.length+1) cap')).cell? ⟨b0,1,none⟩=some (.int .i64 z):=hr5.cell 1 (by simp)
  clear hr5
  have hB4:=Nat.le_trans hB2 (Nat.le_trans hb3.size HL.out.2.size)
  clear hown4 hgrow hat hc4 hf4
  go_wp2_with fail
  refine (add_any _ B ba vl vs vn _ vb ls ss ns (ts++[(t,z)]) sz bs HL.out.1 hnl t z hB4 en HR.out).mono ?_
  rintro e w6 ⟨rfl,hf6,hst6⟩
  go_wp2
  go_ret
  exact ⟨rfl,HF3.out.trans hf6,fun h0=>by obtain ⟨vn',h7⟩:=hst6 h0;exact ⟨vn',_,h7⟩⟩
def defN (lb op:ByteArray) (os:List ByteArray) (ts:List (ByteArray×Int)):List (ByteArray×Int):=
 if L op=opSet then [(os.getD 0 ⟨#[]⟩,(value 0 (plainN ts) (L (os.getD 1 ⟨#[]⟩))).1)] else if lb.size=0 then [] else [(lb,0)]
def defT (op:ByteArray) (os:List ByteArray) (ts:List (ByteArray×Int)):List (ByteArray×Int):=
 if L op=opSet then [(os.getD 0 ⟨#[]⟩,(value 0 (plainN ts) (L (os.getD 1 ⟨#[]⟩))).1)] else []
def defE (lb op:ByteArray) (os:List ByteArray) (ns:List (ByteArray×Int)):Int:=
 if L op=opSet then (if hasN (plainN ns) (L (os.getD 0 ⟨#[]⟩)) then 5 else 0) else if lb.size=0 then 0 else if hasN (plainN ns) (L lb) then 5 else 0
def DfPost (B ba:Nat) (vl vs vb:Value) (ls:List LnV) (ss:List StV) (ns ts:List (ByteArray×Int)) (sz:Nat) (bs:List UInt8) (er:Int) (nn nt:List (ByteArray×Int)) (w:World) (e:Ending) (w':World):Prop:=
 e=.returned (.int .i64 er)∧FrN B [] w w'∧(er=0→∃vn' vt',AsmAt w' B ba vl vs vn' vt' vb ls ss (ns++nn) (ts++nt) sz bs)
set_option maxRecDepth 100000 in
set_option maxHeartbeats 1600000 in
theorem define_any (w:World) (B ba:Nat) (vl vs vn vt vb:Value) (ls:List LnV) (ss:List StV) (ns ts:List (ByteArray×Int)) (sz:Nat) (bs:List UInt8) (h:AsmAt w B ba vl vs vn vt vb ls ss ns ts sz bs) (hnl:ns.length≤1000) (htl:ts.length≤1000) (lb op:ByteArray) (va:Option Addr) (vc:Nat) (os:List ByteArray) (hs:StrV w 0 (.slice va os.length vc) os) (hset:L op=opSet→os.length=2) (hsz:∀i (hi:i<os.length),os[i].size≤1000) (hB:B≤w.heap.size) :
  Calls Tryz.prog 73 #[.pointer (some ⟨ba,0,none⟩),.agg #[.string lb,.string op,.slice va os.length vc]] w (DfPost B ba vl vs vb ls ss ns ts sz bs (defE lb op os ns) (defN lb op os ts) (defT op os ts) w):=by
 have hb0:Below w.heap.size w (w.alloc (.cells #[.string lb,.string op,.slice va os.length vc] 101)):=(Below.refl _ _).alloc (Nat.le_refl _) _
 have HROW:=hid (show RowT (w.alloc (.cells #[.string lb,.string op,.slice va os.length vc] 101)) 101 w.heap.size [.string lb,.string op,.slice va os.length vc] from RowT.new w 101 [.string lb,.string op,.slice va os.length vc])
 have HX:=hid (h.below hb0)
 have HF:=hid (show FrN B [] w (w.alloc (.cells #[.string lb,.string op,.slice va os.length vc] 101)) from FrN.of_below hb0)
 have HS:=hid (hs.below hb0)
 have HSZ:=hid hsz
 have hB1:B≤(w.alloc (.cells #[.string lb,.string op,.slice va os.length vc] 101)).heap.size:=by simp;omega
 clear h hb0 hs hsz
 by_cases hop:L op=opSet
 ·have h2:=hset hop
  have ko:(op.toList==[46,115,101,116])=true:=op_is hop
  obtain ⟨n0,hn0⟩:∃n0,os[0]=n0:=⟨_,rfl⟩
  obtain ⟨x1,hx1⟩:∃x1,os[1]=x1:=⟨_,rfl⟩
  have e0:os.getD 0 ⟨#[]⟩=n0:=by rw [List.getD_eq_getElem?_getD,List.getElem?_eq_getElem (by omega),hn0];rfl
  have e1:os.getD 1 ⟨#[]⟩=x1:=by rw [List.getD_eq_getElem?_getD,List.getElem?_eq_getElem (by omega),hx1];rfl
  obtain ⟨r,hr⟩:∃r:Int,(if hasN (plainN ns) (L n0) then 5 else 0)=r:=⟨_,rfl⟩
  have HE:=hid (show defE lb op os ns=r by unfold defE;rw [if_pos hop,e0,hr])
  have HN:=hid (show defN lb op os ts=[(n0,(value 0 (plainN ts) (L x1)).1)] by unfold defN;rw [if_pos hop,e0,e1])
  have HT:=hid (show defT op os ts=[(n0,(value 0 (plainN ts) (L x1)).1)] by unfold defT;rw [if_pos hop,e0,e1])
  have hs1:x1.size≤1000:=by rw [←hx1];exact HSZ.out 1 (by omega)
  obtain ⟨g,off,cap,hv,hgl,d0⟩:=HS.out.cell 0 (by omega)
  injection hv with hv1 _ hv2
  subst hv1 hv2
  obtain ⟨_,_,_,hv',_,d1⟩:=HS.out.cell 1 (by omega)
  injection hv' with hv11 _ hv12
  injection hv11 with hv11
  injection hv11 with hv13 hv14
  subst hv13 hv14
  rw [Nat.add_zero,hn0] at d0
  rw [hx1] at d1
  have HRR:=hid hr
  rw [HE.out,HN.out,HT.out]
  rw [h2] at HROW HX HF d0 d1 hgl hB1
  rw [h2]
  clear hr e0 e1 hn0 hx1 hop hv12 hset HS HSZ
  go_enter Tryz.func73,Tryz.ntmps73
  go_upto_region 1 with fail
  generalize w.alloc (.cells #[.string lb,.string op,.slice (some ⟨g,off,none⟩) 2 vc] 101)=w1 at *
  generalize w.heap.size=b0 at *
  have y0:=HROW.out.cell 0 (by simp)
  have y1:=HROW.out.cell 1 (by simp)
  have y2:=HROW.out.cell 2 (by simp)
  simp only [List.getElem_cons_zero,List.getElem_cons_succ] at y0 y1 y2
  have hlb:=HX.out.row.lt
  go_wp2_with fail
  go_region_with (go_at_call 111;refine (set_any _ B ba vl vs vn vt vb ls ss ns ts sz bs (HX.out.below ((Below.refl _ _).drew)) hnl htl n0 x1 hs1 hB1 r HRR.out).mono ?_;rintro e w3 ⟨rfl,hf3,hst3⟩)
  all_goals
   have HF3:=hid ((HF.out.drew).trans hf3)
   have HST3:=hid hst3
   clear hf3 hst3 y0 y1 y2 d0 d1
   go_wp2
   go_ret
   exact ⟨rfl,HF3.out,HST3.out⟩
 ·have ko:(op.toList==[46,115,101,116])=false:=op_not hop
  by_cases hlb:lb.size=0
  ·have HE:=hid (show defE lb op os ns=0 by unfold defE;rw [if_neg hop,if_pos hlb])
   have HN:=hid (show defN lb op os ts=[] by unfold defN;rw [if_neg hop,if_pos hlb])
   have HT:=hid (show defT op os ts=[] by unfold defT;rw [if_neg hop])
   have kl:=is_empty lb hlb
   rw [HE.out,HN.out,HT.out]
   clear hop hlb
   go_enter Tryz.func73,Tryz.ntmps73
   go_wp2
   go_ret
   exact ⟨rfl,HF.out,fun _=>⟨_,_,by rw [List.append_nil,List.append_nil];exact HX.out⟩⟩
  ·obtain ⟨r,hr⟩:∃r:Int,(if hasN (plainN ns) (L lb) then 5 else 0)=r:=⟨_,rfl⟩
   have HE:=hid (show defE lb op os ns=r by unfold defE;rw [if_neg hop,if_neg hlb,hr])
   have HN:=hid (show defN lb op os ts=[(lb,0)] by unfold defN;rw [if_neg hop,if_neg hlb])
   have HT:=hid (show defT op os ts=[] by unfold defT;rw [if_neg hop])
   have kl:=not_empty lb (by omega)
   have HRR:=hid hr
   rw [HE.out,HN.out,HT.out]
   clear hop hlb hr
   go_enter Tryz.func73,Tryz.ntmps73
   go_wp2_with fail
   refine (add_any _ B ba vl vs vn vt vb ls ss ns ts sz bs HX.out hnl lb 0 hB1 r HRR.out).mono ?_
   rintro e w3 ⟨rfl,hf3,hst3⟩
   have HF3:=hid (HF.out.trans hf3)
   have HST3:=hid hst3
   clear hf3 hst3
   go_wp2
   go_ret
   refine ⟨rfl,HF3.out,fun h0=>?_⟩
   obtain ⟨vn',h1⟩:=HST3.out h0
   exact ⟨vn',_,by rw [List.append_nil];exact h1⟩
end
def lookE (lb op:ByteArray) (os:List ByteArray) (ns ts:List (ByteArray×Int)):Int:=
 if opnP (L op)=none∧L op≠[]∧L op≠opSet then 3
 else if defE lb op os ns≠0 then defE lb op os ns
 else match opnP (L op) with
  |none=>0
  |some o=>(operandsP o (os.map L) (plainN ts)).1
def lookX (lb op:ByteArray) (os:List ByteArray) (ns ts:List (ByteArray×Int)) (v:Value):StV:=
 match opnP (L op) with
 |none=>⟨noOpn,if lb.size=0 then 0 else ns.length,decide (lb.size≠0),0,.slice none 0 0,[],0,false⟩
 |some o=>⟨o,if lb.size=0 then 0 else ns.length,decide (lb.size≠0),(operandsP o (os.map L) (plainN ts)).2.1,v,os.drop o.regs,(operandsP o (os.map L) (plainN ts)).2.2,false⟩
def LkPost (B ba:Nat) (vl vb:Value) (ls:List LnV) (ss:List StV) (ns ts:List (ByteArray×Int)) (sz:Nat) (bs:List UInt8) (lb op:ByteArray) (os:List ByteArray) (w:World) (e:Ending) (w':World):Prop:=
 e=.returned (.int .i64 (lookE lb op os ns ts))∧FrN B [] w w'∧(lookE lb op os ns ts=0→∃vs' vn' vt' v,AsmAt w' B ba vl vs' vn' vt' vb ls (ss++[lookX lb op os ns ts v]) (ns++defN lb op os ts) (ts++defT op os ts) sz bs)
theorem opnP_regs {op:List UInt8}{o:OpnP}(h:opnP op=some o):o.regs≤2∧o.width≤2∧o.kind≤6∧o.code≤200∧o.long≤200∧op≠opSet∧op≠[]:=by
 unfold opnP at h
 by_cases e:op=oNop
 ·rw [if_pos e] at h;simp only [Option.some.injEq] at h;subst h;subst e;decide
 rw [if_neg e] at h;clear e
 by_cases e:op=oRet
 ·rw [if_pos e] at h;simp only [Option.some.injEq] at h;subst h;subst e;decide
 rw [if_neg e] at h;clear e
 by_cases e:op=oMov
 ·rw [if_pos e] at h;simp only [Option.some.injEq] at h;subst h;subst e;decide
 rw [if_neg e] at h;clear e
 by_cases e:op=oAdd
 ·rw [if_pos e] at h;simp only [Option.some.injEq] at h;subst h;subst e;decide
 rw [if_neg e] at h;clear e
 by_cases e:op=oSub
 ·rw [if_pos e] at h;simp only [Option.some.injEq] at h;subst h;subst e;decide
 rw [if_neg e] at h;clear e
 by_cases e:op=oLoad
 ·rw [if_pos e] at h;simp only [Option.some.injEq] at h;subst h;subst e;decide
 rw [if_neg e] at h;clear e
 by_cases e:op=oCall
 ·rw [if_pos e] at h;simp only [Option.some.injEq] at h;subst h;subst e;decide
 rw [if_neg e] at h;clear e
 by_cases e:op=oJmp
 ·rw [if_pos e] at h;simp only [Option.some.injEq] at h;subst h;subst e;decide
 rw [if_neg e] at h;clear e
 by_cases e:op=oJz
 ·rw [if_pos e] at h;simp only [Option.some.injEq] at h;subst h;subst e;decide
 rw [if_neg e] at h;clear e
 by_cases e:op=oByte
 ·rw [if_pos e] at h;simp only [Option.some.injEq] at h;subst h;subst e;decide
 rw [if_neg e] at h;clear e
 by_cases e:op=oWord
 ·rw [if_pos e] at h;simp only [Option.some.injEq] at h;subst h;subst e;decide
 rw [if_neg e] at h;clear e
 by_cases e:op=oSpace
 ·rw [if_pos e] at h;simp only [Option.some.injEq] at h;subst h;subst e;decide
 rw [if_neg e] at h;clear e
 by_cases e:op=oAlign
 ·rw [if_pos e] at h;simp only [Option.some.injEq] at h;subst h;subst e;decide
 rw [if_neg e] at h;clear e
 cases h
theorem opnP_set:opnP opSet=none:=by decide
theorem bne_of {a b:List UInt8}{r:Bool}(h:(a==b)=r):(a != b)=!r:=by rw [bne,h]
end Go.Proofs.YtcepppilgncdmaaGreatDoor
