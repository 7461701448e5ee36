/-
  Joined: RLong RCode ROpd.
-/
import Derived.Test.YtcepppilgncdmaaGreatDoorBX18
import Derived.Test.YtcepppilgncdmaaGreatDoorBX24
namespace Go.Proofs.YtcepppilgncdmaaGreatDoor
open Go.RowKit
section
attribute [local go_sem ↓] Go.wp_at_zero Go.wp_at_succ
structure SpIn (x:SpV):Prop where
 jmp:0≤jumpR x.p→(jumpR x.p).toNat<x.os.length
 few:(countsR (L x.op)).2≤x.os.length
 regs:((x.os.map L).take (countsR (L x.op)).2).all regB=true
def longS (all:List (List UInt8×Int)) (x:SpV):SpV:=if growsR all x.p then { x with long:=true } else x
theorem longS_p (all:List (List UInt8×Int)) (x:SpV):(longS all x).p=longR all x.p:=by
 unfold longS longR
 split<;>rfl
theorem longS_map (all:List (List UInt8×Int)) (xs:List SpV):(xs.map (longS all)).map SpV.p=(xs.map SpV.p).map (longR all):=by
 rw [List.map_map,List.map_map]
 exact List.map_congr_left fun x _=>longS_p all x
theorem SpOk.long {x:SpV}(h:SpOk x) (all:List (List UInt8×Int)):SpOk (longS all x):=by
 unfold longS
 split
 ·exact ⟨h.lb,h.op,h.ops,h.few,h.at_,h.fix,h.set,h.al⟩
 ·exact h
theorem SpIn.long {x:SpV}(h:SpIn x) (all:List (List UInt8×Int)):SpIn (longS all x):=by
 unfold longS
 split
 ·exact ⟨h.jmp,h.few,h.regs⟩
 ·exact h
theorem SpIn.put {x:SpV}(h:SpIn x) (a:Nat):SpIn { x with at_:=a }:=⟨h.jmp,h.few,h.regs⟩
theorem value_all (a:Int) (N:List (List UInt8×Int)) (l:List UInt8):-1000000≤(value a N l).1∧(value a N l).1≤1000000:=by
 have hev:∀(f:Nat) (sm sg:Int) (l:List UInt8),-1000000≤(eval a N f sm sg l).1∧(eval a N f sm sg l).1≤1000000:=by
  intro f
  induction f with
  |zero=>intro sm sg l;simp only [eval];omega
  |succ f ih =>
   intro sm sg l
   simp only [eval]
   split
   ·simp only;omega
   ·split
    ·simp only;omega
    ·rename_i h1
     have hb:-1000000≤(reck sm sg (readT a N l).1).1∧(reck sm sg (readT a N l).1).1≤1000000:=reck_bd (sm:=sm) (sg:=sg) (x:=(readT a N l).1) (by
      have:(reck sm sg (readT a N l).1).2=0:=by simpa using h1
      rw [←this])
     split
     ·exact hb
     ·split
      ·exact ih _ _ _
      ·simp only;omega
 unfold value
 split
 ·exact hev _ _ _ _
 ·split<;>exact hev _ _ _ _
def LonPost (B:Nat) (sa:Option Addr) (cs:Nat) (xs:List SpV) (w:World) (e:Ending) (w':World):Prop:=
 e=.returned (.bool ((xs.map SpV.p).any (growsR (namesR (xs.map SpV.p)))))∧StepsAt w' B (.slice sa xs.length cs) (xs.map (longS (namesR (xs.map SpV.p))))∧Keeps (gOf sa) w w'
set_option maxRecDepth 100000 in
set_option maxHeartbeats 3200000 in
theorem longer_any (w:World) (B:Nat) (sa:Option Addr) (cs:Nat) (xs:List SpV) (h:StepsAt w B (.slice sa xs.length cs) xs) (hl:xs.length≤300) (hok:∀x∈xs,SpOk x) (hin:∀x∈xs,SpIn x) :
  Calls Tryz.prog 66 #[.slice sa xs.length cs] w (LonPost B sa cs xs w):=by
 unfold LonPost
 have HC:=hid (rnames_any w B sa cs xs h hl hok)
 obtain ⟨ALL,hALL⟩:∃ALL,namesR (xs.map SpV.p)=ALL:=⟨_,rfl⟩
 rw [hALL] at HC ⊢
 obtain ⟨RES,hRES⟩:∃RES,xs.map (longS ALL)=RES:=⟨_,rfl⟩
 obtain ⟨FF,hFF⟩:∃FF,(xs.map SpV.p).any (growsR ALL)=FF:=⟨_,rfl⟩
 rw [hRES,hFF]
 rw [List.any_map] at hFF
 obtain ⟨POST,hPOST⟩:∃POST:Ending→World→Prop,POST=fun e w'=>e=.returned (.bool FF)∧StepsAt w' B (.slice sa xs.length cs) RES∧Keeps (gOf sa) w w':=⟨_,rfl⟩
 have HPOST:=hid hPOST
 show Calls _ _ _ _ (fun e w'=>e=.returned (.bool FF)∧StepsAt w' B (.slice sa xs.length cs) RES∧Keeps (gOf sa) w w')
 rw [←hPOST]
 have HX:=hid h
 have HRES:=hid hRES
 have HFF:=hid hFF
 have HOK:=hid hok
 have HIN:=hid hin
 clear h hRES hFF hok hin hPOST hALL
 go_enter Tryz.func66,Tryz.ntmps66
 go_wp2_with fail
 refine HC.out.mono ?_
 rintro e w0 ⟨hb0,va,all,rfl,hall,halln,hao⟩
 obtain ⟨ga,gc,hav⟩:=own_form hao
 subst hav
 have HX0:=hid (HX.out.below hb0)
 have HK0:=hid (Keeps.of_below (M:=gOf sa) hb0)
 have HAO:=hid hao
 have HALL:=hid hall
 obtain ⟨gw,hgw⟩:∃gw,w.heap.size=gw:=⟨_,rfl⟩
 rw [hgw] at HAO
 clear hb0 hall hao HC HX hgw
 go_wp2_with fail
 go_loopw [4,5] (fun fv i wr=>∃(j:Nat) (f:Bool) (done:List SpV),j≤xs.length∧i=.int .i64 j∧fv=.bool f∧done.length=j∧RES=done++(xs.drop j).map (longS ALL)∧FF=(f || (xs.drop j).any (growsR ALL ∘ SpV.p))∧StepsAt wr B (.slice sa xs.length cs) (done++xs.drop j)∧Keeps (gOf sa) w wr∧wr.ownsRow gw 40 2 (.slice ga all.length gc) all.length (nameCells all)) (fun _ i _=>xs.length-(intOf i).toNat)
 case atStart=>exact ⟨0,false,[],Nat.zero_le _,rfl,rfl,rfl,by simpa using HRES.out.symm,by simpa using HFF.out.symm,by simpa using HX0.out,HK0.out,HAO.out⟩
 case round =>
  obtain ⟨j,f,done,hj,rfl,rfl,hdl,h1,h2,hxr,hk,hao⟩:=hrel
  have H1:=hid h1
  have H2:=hid h2
  have HK:=hid hk
  have HDL:=hid hdl
  have hdl1:done.length≤j:=Nat.le_of_eq hdl
  have hdl2:j≤done.length:=Nat.le_of_eq hdl.symm
  have HXR:=hid hxr
  have HAOR:=hid hao
  clear h1 h2 hk hxr hdl hao
  by_cases hlt:j<xs.length
  ·have dn:decide ((j:Int)<(xs.length:Int))=true:=decide_eq_true (by omega)
   have hll:(done++xs.drop j).length=xs.length:=by rw [List.length_append,List.length_drop];omega
   obtain ⟨x,hx⟩:∃x,xs[j]=x:=⟨_,rfl⟩
   have hdr:xs.drop j=x::xs.drop (j+1):=by rw [List.drop_eq_getElem_cons hlt,hx]
   have hxo:=HOK.out xs[j] (List.getElem_mem hlt)
   have hxi:=HIN.out xs[j] (List.getElem_mem hlt)
   rw [hx] at hxo hxi
   obtain ⟨cur,hcur⟩:∃cur,done++xs.drop j=cur:=⟨_,rfl⟩
   rw [hcur] at HXR hll
   have hjc:j<cur.length:=by omega
   have hcj:cur[j]=x:=by
    have e7:cur[j]?=some x:=by
     rw [←hcur,List.getElem?_append_right (by omega),HDL.out,Nat.sub_self,hdr]
     rfl
    rw [List.getElem?_eq_getElem hjc] at e7
    exact Option.some.inj e7
   obtain ⟨g,cs2,hv1,_,hgl⟩:=HXR.out.own.form (by omega)
   rw [hll] at hv1
   simp only [Value.slice.injEq,true_and] at hv1
   obtain ⟨rfl,rfl⟩:=hv1
   have hxc:StepsAt wr B (.slice (some ⟨g,0,none⟩) cur.length cs) cur:=by rw [hll];exact HXR.out
   have hat:∀k v,(spOne x)[k]?=some v→wr.cell? ⟨g,j*7+k,none⟩=some v:=fun k v hk=>hxc.at_ hjc k v (by rw [hcj];exact hk)
   have d0:wr.cell? ⟨g,j*7,none⟩=some (.string x.lb):=hat 0 _ rfl
   have d1:wr.cell? ⟨g,j*7+1,none⟩=some (.string x.op):=hat 1 _ rfl
   have d2:wr.cell? ⟨g,j*7+2,none⟩=some x.v:=hat 2 _ rfl
   have d3:wr.cell? ⟨g,j*7+3,none⟩=some (.int .i64 (x.frm:Nat)):=hat 3 _ rfl
   have d4:wr.cell? ⟨g,j*7+4,none⟩=some (.int .i64 (x.at_:Nat)):=hat 4 _ rfl
   have d5:wr.cell? ⟨g,j*7+5,none⟩=some (.int .i64 (x.fix:Nat)):=hat 5 _ rfl
   have d6:wr.cell? ⟨g,j*7+6,none⟩=some (.bool x.long):=hat 6 _ rfl
   have i1:(0:Int)≤(j:Int):=Int.natCast_nonneg _
   have i2:(j:Int)<(xs.length:Int):=by omega
   have HSTAY:=hid (show growsR ALL x.p=false→RES=(done++[x])++(xs.drop (j+1)).map (longS ALL)∧FF=(f || (xs.drop (j+1)).any (growsR ALL ∘ SpV.p))∧cur=(done++[x])++xs.drop (j+1) from fun hg=>by
    refine ⟨?_,?_,?_⟩
    ·rw [H1.out,hdr];simp only [List.map_cons,longS,hg,List.append_assoc,List.cons_append,List.nil_append];rfl
    ·rw [H2.out,hdr];simp only [List.any_cons,Function.comp,hg,Bool.false_or]
    ·rw [←hcur,hdr];simp only [List.append_assoc,List.cons_append,List.nil_append])
   have HGO:=hid (show growsR ALL x.p=true→RES=(done++[{ x with long:=true }])++(xs.drop (j+1)).map (longS ALL)∧FF=true∧cur.set j { cur[j] with long:=true }=(done++[{ x with long:=true }])++xs.drop (j+1) from fun hg=>by
    refine ⟨?_,?_,?_⟩
    ·rw [H1.out,hdr];simp only [List.map_cons,longS,hg,List.append_assoc,List.cons_append,List.nil_append];rfl
    ·rw [H2.out,hdr];simp only [List.any_cons,Function.comp,hg,Bool.true_or,Bool.or_true]
    ·rw [hcj,←hcur,List.set_append_right _ _ (by omega),show j-done.length=0 by omega,hdr]
     simp only [List.set_cons_zero,List.append_assoc,List.cons_append,List.nil_append])
   have HXC:=hid hxc
   have HXO:=hid hxo
   have HXI:=hid hxi
   have HST:=hid (hxc.strs cur[j] (List.getElem_mem hjc))
   rw [hcj] at HST
   have HLL:=hid hll
   have hj1:=jumpS_bel x wr
   have HJ:=hid hj1
   clear hat hxc hxo hxi hcj hcur hll hx hdr hj1
   obtain ⟨J,hJ⟩:∃J,jumpR x.p=J:=⟨_,rfl⟩
   rw [hJ] at HJ
   by_cases hJ0:0≤J
   ·have kj:decide (J<0)=false:=decide_eq_false (by omega)
    cases hlg:x.long
    ·rw [hlg] at d6 HJ
     obtain ⟨q,hq⟩:∃q,value x.at_ ALL (toR x.p)=q:=⟨_,rfl⟩
     have hvb:=value_all x.at_ ALL (toR x.p)
     rw [hq] at hvb
     obtain ⟨v,er⟩:=q
     simp only at hvb
     have HGR:=hid (show growsR ALL x.p=(decide (er=0)&&(decide (v-x.at_-2 < -128) || decide (127<v-x.at_-2))) by
      unfold growsR
      rw [hJ,decide_eq_true hJ0,show x.p.at_=x.at_ from rfl,hq,show x.p.long=x.long from rfl,hlg]
      simp)
     have hjm:=HXI.out.jmp (by rw [hJ];exact hJ0)
     have hjp:0≤jumpR x.p:=by rw [hJ];exact hJ0
     have hat:=HXO.out.at_
     go_wp2_with fail
     refine HJ.out.mono ?_
     rintro e w2 ⟨rfl,hb2⟩
     have HX2:=hid (HXC.out.below hb2)
     have HK2:=hid (HK.out.trans (Keeps.of_below hb2))
     have hao2:=ownsRow_belowP HAOR.out hb2
     obtain ⟨ga',gc',hav',hna2⟩:=own_names hao2
     simp only [Value.slice.injEq,true_and] at hav'
     obtain ⟨rfl,rfl⟩:=hav'
     have hfar:=far_any x w2 (HST.out.below hb2) HXO.out hjp hjm ga gc all (by omega) hna2 v er (by rw [HALL.out];exact hq) hvb
     simp only [spV,hlg] at hfar
     have HFAR:=hid hfar
     have HAO2:=hid hao2
     have hm:∀k,w2.cell? ⟨g,j*7+k,none⟩=wr.cell? ⟨g,j*7+k,none⟩:=fun k=>hb2.cell (p:=⟨g,j*7+k,none⟩) hgl
     have d0:w2.cell? ⟨g,j*7,none⟩=some (.string x.lb):=(hm 0).trans d0
     have d1:w2.cell? ⟨g,j*7+1,none⟩=some (.string x.op):=(hm 1).trans d1
     have d2:w2.cell? ⟨g,j*7+2,none⟩=some x.v:=(hm 2).trans d2
     have d3:w2.cell? ⟨g,j*7+3,none⟩=some (.int .i64 (x.frm:Nat)):=(hm 3).trans d3
     have d4:w2.cell? ⟨g,j*7+4,none⟩=some (.int .i64 (x.at_:Nat)):=(hm 4).trans d4
     have d5:w2.cell? ⟨g,j*7+5,none⟩=some (.int .i64 (x.fix:Nat)):=(hm 5).trans d5
     have d6:w2.cell? ⟨g,j*7+6,none⟩=some (.bool false):=(hm 6).trans d6
     have hgl2:g<w2.heap.size:=Nat.lt_of_lt_of_le hgl hb2.size
     clear hb2 hao2 hna2 hfar hm hq hJ hlg hjm hjp
     go_wp2_with fail
     refine HFAR.out.mono ?_
     rintro e w3 ⟨rfl,hb3⟩
     have HX3:=hid (HX2.out.below hb3)
     have HK3:=hid (HK2.out.trans (Keeps.of_below hb3))
     have HAO3:=hid (ownsRow_belowP HAO2.out hb3)
     have s6:w3.cell? ⟨g,j*7+6,none⟩=some (.bool false):=(hb3.cell (p:=⟨g,j*7+6,none⟩) hgl2).trans d6
     have f6:w3.frozen? ⟨g,j*7+6,none⟩=false:=own_free HX3.out.own
     clear hb3 d0 d1 d2 d3 d4 d5 d6
     by_cases he:er=0
     ·subst he
      have ke:((0:Int)==0)=true:=rfl
      by_cases hlo:v-(x.at_:Int)-2 < -128
      ·have k1:decide (v-(x.at_:Int)-2 < -128)=true:=decide_eq_true hlo
       obtain ⟨n1,n2,n3⟩:=HGO.out (by rw [HGR.out];simp [hlo])
       have N1:=hid n1
       have N2:=hid n2
       have hx4:=HX3.out.long j hjc true
       rw [n3,HLL.out] at hx4
       have HX4:=hid hx4
       have HK4:=hid (HK3.out.trans ((Keeps.refl (gOf (some ⟨g,0,none⟩)) w3).setCell (p:=⟨g,j*7+6,none⟩) (by simp [gOf]) (.bool true)))
       have HAO4:=hid (ownsRow_setCell_other HAO3.out (a:=⟨g,j*7+6,none⟩) (own_own_ne HAO3.out HX3.out.own (by decide) rfl) (.bool true))
       clear n1 n2 n3 hx4
       go_wp2_with fail
       go_roundw
       case rel=>exact ⟨j+1,true,done++[{ x with long:=true }],by omega,by go_num,rfl,by rw [List.length_append,HDL.out];rfl,N1.out,by rw [N2.out,Bool.true_or],HX4.out,HK4.out,HAO4.out⟩
       case measure=>simp [intOf];omega
      ·have k1:decide (v-(x.at_:Int)-2 < -128)=false:=decide_eq_false hlo
       by_cases hhi:127<v-(x.at_:Int)-2
       ·have k2:decide ((127:Int)<v-(x.at_:Int)-2)=true:=decide_eq_true hhi
        obtain ⟨n1,n2,n3⟩:=HGO.out (by rw [HGR.out];simp [hhi])
        have N1:=hid n1
        have N2:=hid n2
        have hx4:=HX3.out.long j hjc true
        rw [n3,HLL.out] at hx4
        have HX4:=hid hx4
        have HK4:=hid (HK3.out.trans ((Keeps.refl (gOf (some ⟨g,0,none⟩)) w3).setCell (p:=⟨g,j*7+6,none⟩) (by simp [gOf]) (.bool true)))
        have HAO4:=hid (ownsRow_setCell_other HAO3.out (a:=⟨g,j*7+6,none⟩) (own_own_ne HAO3.out HX3.out.own (by decide) rfl) (.bool true))
        clear n1 n2 n3 hx4
        go_wp2_with fail
        go_roundw
        case rel=>exact ⟨j+1,true,done++[{ x with long:=true }],by omega,by go_num,rfl,by rw [List.length_append,HDL.out];rfl,N1.out,by rw [N2.out,Bool.true_or],HX4.out,HK4.out,HAO4.out⟩
        case measure=>simp [intOf];omega
       ·have k2:decide ((127:Int)<v-(x.at_:Int)-2)=false:=decide_eq_false hhi
        obtain ⟨n1,n2,n3⟩:=HSTAY.out (by rw [HGR.out];simp [hlo,hhi])
        have N1:=hid n1
        have N2:=hid n2
        have N3:=hid n3
        clear n1 n2 n3
        go_wp2_with fail
        go_roundw
        case rel=>exact ⟨j+1,f,done++[x],by omega,by go_num,rfl,by rw [List.length_append,HDL.out];rfl,N1.out,N2.out,by rw [←N3.out,←HLL.out];exact HX3.out,HK3.out,HAO3.out⟩
        case measure=>simp [intOf];omega
     ·have ke:(er==0)=false:=by rw [beq_eq_false_iff_ne];exact he
      obtain ⟨n1,n2,n3⟩:=HSTAY.out (by rw [HGR.out];simp [he])
      have N1:=hid n1
      have N2:=hid n2
      have N3:=hid n3
      clear n1 n2 n3
      go_wp2_with fail
      go_roundw
      case rel=>exact ⟨j+1,f,done++[x],by omega,by go_num,rfl,by rw [List.length_append,HDL.out];rfl,N1.out,N2.out,by rw [←N3.out,←HLL.out];exact HX3.out,HK3.out,HAO3.out⟩
      case measure=>simp [intOf];omega
    ·rw [hlg] at d6 HJ
     obtain ⟨n1,n2,n3⟩:=HSTAY.out (by unfold growsR;simp [SpV.p,hlg])
     have N1:=hid n1
     have N2:=hid n2
     have N3:=hid n3
     clear n1 n2 n3 hJ hlg
     go_wp2_with fail
     refine HJ.out.mono ?_
     rintro e w2 ⟨rfl,hb2⟩
     have HX2:=hid (HXR.out.below hb2)
     have HK2:=hid (HK.out.trans (Keeps.of_below hb2))
     have HAO2:=hid (ownsRow_belowP HAOR.out hb2)
     have d6:w2.cell? ⟨g,j*7+6,none⟩=some (.bool true):=by rw [hb2.cell (p:=⟨g,j*7+6,none⟩) hgl];exact d6
     clear hb2 d0 d1 d2 d3 d4 d5
     go_wp2_with fail
     go_roundw
     case rel=>exact ⟨j+1,f,done++[x],by omega,by go_num,rfl,by rw [List.length_append,HDL.out];rfl,N1.out,N2.out,by rw [←N3.out];exact HX2.out,HK2.out,HAO2.out⟩
     case measure=>simp [intOf];omega
   ·have kj:decide (J<0)=true:=decide_eq_true (by omega)
    obtain ⟨n1,n2,n3⟩:=HSTAY.out (by unfold growsR;rw [hJ,decide_eq_false hJ0];rfl)
    have N1:=hid n1
    have N2:=hid n2
    have N3:=hid n3
    clear n1 n2 n3 hJ
    go_wp2_with fail
    refine HJ.out.mono ?_
    rintro e w2 ⟨rfl,hb2⟩
    have HX2:=hid (HXR.out.below hb2)
    have HK2:=hid (HK.out.trans (Keeps.of_below hb2))
    have HAO2:=hid (ownsRow_belowP HAOR.out hb2)
    clear hb2 d0 d1 d2 d3 d4 d5 d6
    go_wp2_with fail
    go_roundw
    case rel=>exact ⟨j+1,f,done++[x],by omega,by go_num,rfl,by rw [List.length_append,HDL.out];rfl,N1.out,N2.out,by rw [←N3.out];exact HX2.out,HK2.out,HAO2.out⟩
    case measure=>simp [intOf];omega
  ·have dn:decide ((j:Int)<(xs.length:Int))=false:=decide_eq_false (by omega)
   have hdn:xs.drop j=[]:=List.drop_of_length_le (by omega)
   have h1:=H1.out
   have h2:=H2.out
   have hxx:=HXR.out
   rw [hdn] at h1 h2 hxx
   simp only [List.append_nil,List.map_nil,List.any_nil,Bool.or_false] at h1 h2 hxx
   rw [←h1] at hxx
   have HXX:=hid hxx
   have HN2:=hid h2
   clear h1 h2 hxx hdn
   go_wp2_with fail
   rw [HPOST.out]
   exact ⟨by rw [HN2.out];rfl,HXX.out,HK.out⟩
end
section
attribute [local go_sem ↓] Go.wp_at_zero Go.wp_at_succ
theorem regI_nat {l:List UInt8}(h:regB l=true):regI l=((regV l).toNat:Nat)∧(regV l).toNat≤3:=by
 have h1:regI l=regV l:=by unfold regI regV;rw [h];rfl
 have h2:0≤regV l∧regV l≤3:=by
  unfold regV
  rw [h]
  unfold regB at h
  split at h
  ·simp at h;simp;omega
  ·cases h
 rw [h1];omega
theorem register_bel (s:ByteArray) (n:Nat) (w:World) (h:regI (L s)=(n:Nat)):Calls Tryz.prog 87 #[.string s] w fun e w'=>e=.returned (.int .i64 (n:Nat))∧Below w.heap.size w w':=
 (register_any s w).mono fun _ _ ⟨h1,h2⟩=>⟨by rw [h1,h],by rw [h2];exact Below.refl _ _⟩
set_option maxRecDepth 100000 in
set_option maxHeartbeats 3200000 in
theorem code_any (x:SpV) (w:World) (hst:StrV w 0 x.v x.os) (hi:SpIn x) :
  Calls Tryz.prog 101 #[spV x] w fun e w'=>e=.returned (.int .u8 (codeR x.p:Nat))∧Below w.heap.size w w':=by
 have hfew:=hi.few
 have hrg:=hi.regs
 obtain ⟨oa,oc,hov⟩:=hst.form
 obtain ⟨lb,op,v0,os,frm,at_,fix,long⟩:=x
 simp only [spV,SpV.p] at *
 subst hov
 have hb0:Below w.heap.size w (w.alloc (.cells #[.string lb,.string op,.slice oa os.length oc,.int .i64 (frm:Nat),.int .i64 (at_:Nat),.int .i64 (fix:Nat),.bool long] 138)):=(Below.refl _ _).alloc (Nat.le_refl _) _
 have HROW:=hid (show RowT (w.alloc (.cells #[.string lb,.string op,.slice oa os.length oc,.int .i64 (frm:Nat),.int .i64 (at_:Nat),.int .i64 (fix:Nat),.bool long] 138)) 138 w.heap.size [.string lb,.string op,.slice oa os.length oc,.int .i64 (frm:Nat),.int .i64 (at_:Nat),.int .i64 (fix:Nat),.bool long] from RowT.new w 138 [.string lb,.string op,.slice oa os.length oc,.int .i64 (frm:Nat),.int .i64 (at_:Nat),.int .i64 (fix:Nat),.bool long])
 have HST:=hid (hst.below hb0)
 have HB:=hid hb0
 clear hb0 hst hi
 go_enter Tryz.func101,Tryz.ntmps101
 go_upto_region 1 with fail
 generalize w.alloc (.cells #[.string lb,.string op,.slice oa os.length oc,.int .i64 (frm:Nat),.int .i64 (at_:Nat),.int .i64 (fix:Nat),.bool long] 138)=w1 at *
 generalize hgw:w.heap.size=gw at *
 have HGW:=hid hgw
 clear hgw
 have r1:w1.cell? ⟨gw,1,none⟩=some (.string op):=HROW.out.cell 1 (by simp)
 have r2:w1.cell? ⟨gw,2,none⟩=some (.slice oa os.length oc):=HROW.out.cell 2 (by simp)
 have r6:w1.cell? ⟨gw,6,none⟩=some (.bool long):=HROW.out.cell 6 (by simp)
 by_cases h0:L op=oRet
 ·have k0:(op.toList==[114,101,116])=true:=opn_is (show L op=[114,101,116] from h0)
  have HR:=hid (show codeR ⟨⟨L lb,L op,os.map L⟩,frm,at_,fix,long⟩=161 by unfold codeR;rw [if_pos h0])
  go_wp2_with fail
  go_ret
  rw [HR.out]
  exact ⟨rfl,by rw [HGW.out];exact HB.out⟩
 have k0:(op.toList==[114,101,116])=false:=opn_not (show ¬L op=[114,101,116] from h0)
 by_cases h1:L op=oMov
 ·have k1:(op.toList==[109,111,118])=true:=opn_is (show L op=[109,111,118] from h1)
  rw [h1,show (countsR oMov).2=2 from rfl] at hfew hrg
  obtain ⟨b,off,cap,hv,hbl,hc0⟩:=HST.out.cell 0 (by omega)
  obtain ⟨b',off',cap',hv',_,hc1⟩:=HST.out.cell 1 (by omega)
  rw [hv] at hv'
  simp only [Value.slice.injEq,Option.some.injEq,Addr.mk.injEq,true_and,and_true] at hv'
  obtain ⟨⟨rfl,rfl⟩,rfl⟩:=hv'
  simp only [Value.slice.injEq,true_and] at hv
  obtain ⟨rfl,rfl⟩:=hv
  have hg:∃a b r,os=a::b::r:=by
   match os,hfew with
   |a::b::r,_=>exact ⟨a,b,r,rfl⟩
  obtain ⟨oA,oB,rest,hos⟩:=hg
  have hrA:regB (L oA)=true∧regB (L oB)=true:=by rw [hos] at hrg;simpa using hrg
  obtain ⟨a1,a2⟩:=regI_nat hrA.1
  obtain ⟨b1,b2⟩:=regI_nat hrA.2
  have HR:=hid (show codeR ⟨⟨L lb,L op,os.map L⟩,frm,at_,fix,long⟩=64+4*(regV (L oA)).toNat+(regV (L oB)).toNat by unfold codeR reg0 reg1;rw [if_neg h0,if_pos h1,hos];rfl)
  simp only [hos,List.getElem_cons_zero,List.getElem_cons_succ,Nat.add_zero] at hc0 hc1
  generalize (regV (L oA)).toNat=nA at *
  generalize (regV (L oB)).toNat=nB at *
  have HA:=hid a1
  have HBB:=hid b1
  have i0:(0:Int)<(os.length:Int):=by omega
  have i1:(1:Int)<(os.length:Int):=by omega
  have wu:IntKind.u8.wrap ((64:Int)+4*(nA:Int)+(nB:Int))=(64:Int)+4*(nA:Int)+(nB:Int):=Go.IntWalk.u8_in _ (by omega)
  clear a1 b1 hrA hrg hos hfew
  go_upto_region 6 with fail
  have u0:∀u:BelW w1,u.1.cell? ⟨b,off,none⟩=some (.string oA):=fun u=>(u.2.cell (p:=⟨b,off,none⟩) (World.block_lt_of_cell? _ _ hc0)).trans hc0
  have u1:∀u:BelW w1,u.1.cell? ⟨b,off+1,none⟩=some (.string oB):=fun u=>(u.2.cell (p:=⟨b,off+1,none⟩) (World.block_lt_of_cell? _ _ hc1)).trans hc1
  have inh:Nonempty (BelW w1):=⟨⟨w1,Below.refl _ _⟩⟩
  have HQA:=hid (fun u:BelW w1=>Calls.bel (u:=u) (register_bel oA nA u.1 HA.out))
  have HQB:=hid (fun u:BelW w1=>Calls.bel (u:=u) (register_bel oB nB u.1 HBB.out))
  refine wp_region_bel (by kernel_rfl) (by kernel_rfl) ?_
  repeat (go_big_quiet_step ((go_at_call 87;first|with_reducible exact HQA.out _|with_reducible exact HQB.out _)))
  refine wpQuiet_nil ?_
  intro w7 hw'
  obtain ⟨uq,hw''⟩:=hw'
  have hb7:Below w1.heap.size w1 w7:=by rw [hw''];exact uq.2
  have HB7:=hid (HB.out.trans (hb7.mono (by have:=HB.out.size;rw [HGW.out] at this;exact this)))
  clear hw'' uq u0 u1 inh hb7
  go_wp2_with fail
  go_ret
  rw [HR.out]
  exact ⟨by go_num,by rw [HGW.out];exact HB7.out⟩
 have k1:(op.toList==[109,111,118])=false:=opn_not (show ¬L op=[109,111,118] from h1)
 by_cases h2:L op=oAdd
 ·have k2:(op.toList==[97,100,100])=true:=opn_is (show L op=[97,100,100] from h2)
  rw [h2,show (countsR oAdd).2=2 from rfl] at hfew hrg
  obtain ⟨b,off,cap,hv,hbl,hc0⟩:=HST.out.cell 0 (by omega)
  obtain ⟨b',off',cap',hv',_,hc1⟩:=HST.out.cell 1 (by omega)
  rw [hv] at hv'
  simp only [Value.slice.injEq,Option.some.injEq,Addr.mk.injEq,true_and,and_true] at hv'
  obtain ⟨⟨rfl,rfl⟩,rfl⟩:=hv'
  simp only [Value.slice.injEq,true_and] at hv
  obtain ⟨rfl,rfl⟩:=hv
  have hg:∃a b r,os=a::b::r:=by
   match os,hfew with
   |a::b::r,_=>exact ⟨a,b,r,rfl⟩
  obtain ⟨oA,oB,rest,hos⟩:=hg
  have hrA:regB (L oA)=true∧regB (L oB)=true:=by rw [hos] at hrg;simpa using hrg
  obtain ⟨a1,a2⟩:=regI_nat hrA.1
  obtain ⟨b1,b2⟩:=regI_nat hrA.2
  have HR:=hid (show codeR ⟨⟨L lb,L op,os.map L⟩,frm,at_,fix,long⟩=80+4*(regV (L oA)).toNat+(regV (L oB)).toNat by unfold codeR reg0 reg1;rw [if_neg h0,if_neg h1,if_pos h2,hos];rfl)
  simp only [hos,List.getElem_cons_zero,List.getElem_cons_succ,Nat.add_zero] at hc0 hc1
  generalize (regV (L oA)).toNat=nA at *
  generalize (regV (L oB)).toNat=nB at *
  have HA:=hid a1
  have HBB:=hid b1
  have i0:(0:Int)<(os.length:Int):=by omega
  have i1:(1:Int)<(os.length:Int):=by omega
  have wu:IntKind.u8.wrap ((80:Int)+4*(nA:Int)+(nB:Int))=(80:Int)+4*(nA:Int)+(nB:Int):=Go.IntWalk.u8_in _ (by omega)
  clear a1 b1 hrA hrg hos hfew
  go_upto_region 8 with fail
  have u0:∀u:BelW w1,u.1.cell? ⟨b,off,none⟩=some (.string oA):=fun u=>(u.2.cell (p:=⟨b,off,none⟩) (World.block_lt_of_cell? _ _ hc0)).trans hc0
  have u1:∀u:BelW w1,u.1.cell? ⟨b,off+1,none⟩=some (.string oB):=fun u=>(u.2.cell (p:=⟨b,off+1,none⟩) (World.block_lt_of_cell? _ _ hc1)).trans hc1
  have inh:Nonempty (BelW w1):=⟨⟨w1,Below.refl _ _⟩⟩
  have HQA:=hid (fun u:BelW w1=>Calls.bel (u:=u) (register_bel oA nA u.1 HA.out))
  have HQB:=hid (fun u:BelW w1=>Calls.bel (u:=u) (register_bel oB nB u.1 HBB.out))
  refine wp_region_bel (by kernel_rfl) (by kernel_rfl) ?_
  repeat (go_big_quiet_step ((go_at_call 87;first|with_reducible exact HQA.out _|with_reducible exact HQB.out _)))
  refine wpQuiet_nil ?_
  intro w7 hw'
  obtain ⟨uq,hw''⟩:=hw'
  have hb7:Below w1.heap.size w1 w7:=by rw [hw''];exact uq.2
  have HB7:=hid (HB.out.trans (hb7.mono (by have:=HB.out.size;rw [HGW.out] at this;exact this)))
  clear hw'' uq u0 u1 inh hb7
  go_wp2_with fail
  go_ret
  rw [HR.out]
  exact ⟨by go_num,by rw [HGW.out];exact HB7.out⟩
 have k2:(op.toList==[97,100,100])=false:=opn_not (show ¬L op=[97,100,100] from h2)
 by_cases h3:L op=oSub
 ·have k3:(op.toList==[115,117,98])=true:=opn_is (show L op=[115,117,98] from h3)
  rw [h3,show (countsR oSub).2=2 from rfl] at hfew hrg
  obtain ⟨b,off,cap,hv,hbl,hc0⟩:=HST.out.cell 0 (by omega)
  obtain ⟨b',off',cap',hv',_,hc1⟩:=HST.out.cell 1 (by omega)
  rw [hv] at hv'
  simp only [Value.slice.injEq,Option.some.injEq,Addr.mk.injEq,true_and,and_true] at hv'
  obtain ⟨⟨rfl,rfl⟩,rfl⟩:=hv'
  simp only [Value.slice.injEq,true_and] at hv
  obtain ⟨rfl,rfl⟩:=hv
  have hg:∃a b r,os=a::b::r:=by
   match os,hfew with
   |a::b::r,_=>exact ⟨a,b,r,rfl⟩
  obtain ⟨oA,oB,rest,hos⟩:=hg
  have hrA:regB (L oA)=true∧regB (L oB)=true:=by rw [hos] at hrg;simpa using hrg
  obtain ⟨a1,a2⟩:=regI_nat hrA.1
  obtain ⟨b1,b2⟩:=regI_nat hrA.2
  have HR:=hid (show codeR ⟨⟨L lb,L op,os.map L⟩,frm,at_,fix,long⟩=96+4*(regV (L oA)).toNat+(regV (L oB)).toNat by unfold codeR reg0 reg1;rw [if_neg h0,if_neg h1,if_neg h2,if_pos h3,hos];rfl)
  simp only [hos,List.getElem_cons_zero,List.getElem_cons_succ,Nat.add_zero] at hc0 hc1
  generalize (regV (L oA)).toNat=nA at *
  generalize (regV (L oB)).toNat=nB at *
  have HA:=hid a1
  have HBB:=hid b1
  have i0:(0:Int)<(os.length:Int):=by omega
  have i1:(1:Int)<(os.length:Int):=by omega
  have wu:IntKind.u8.wrap ((96:Int)+4*(nA:Int)+(nB:Int))=(96:Int)+4*(nA:Int)+(nB:Int):=Go.IntWalk.u8_in _ (by omega)
  clear a1 b1 hrA hrg hos hfew
  go_upto_region 10 with fail
  have u0:∀u:BelW w1,u.1.cell? ⟨b,off,none⟩=some (.string oA):=fun u=>(u.2.cell (p:=⟨b,off,none⟩) (World.block_lt_of_cell? _ _ hc0)).trans hc0
  have u1:∀u:BelW w1,u.1.cell? ⟨b,off+1,none⟩=some (.string oB):=fun u=>(u.2.cell (p:=⟨b,off+1,none⟩) (World.block_lt_of_cell? _ _ hc1)).trans hc1
  have inh:Nonempty (BelW w1):=⟨⟨w1,Below.refl _ _⟩⟩
  have HQA:=hid (fun u:BelW w1=>Calls.bel (u:=u) (register_bel oA nA u.1 HA.out))
  have HQB:=hid (fun u:BelW w1=>Calls.bel (u:=u) (register_bel oB nB u.1 HBB.out))
  refine wp_region_bel (by kernel_rfl) (by kernel_rfl) ?_
  repeat (go_big_quiet_step ((go_at_call 87;first|with_reducible exact HQA.out _|with_reducible exact HQB.out _)))
  refine wpQuiet_nil ?_
  intro w7 hw'
  obtain ⟨uq,hw''⟩:=hw'
  have hb7:Below w1.heap.size w1 w7:=by rw [hw''];exact uq.2
  have HB7:=hid (HB.out.trans (hb7.mono (by have:=HB.out.size;rw [HGW.out] at this;exact this)))
  clear hw'' uq u0 u1 inh hb7
  go_wp2_with fail
  go_ret
  rw [HR.out]
  exact ⟨by go_num,by rw [HGW.out];exact HB7.out⟩
 have k3:(op.toList==[115,117,98])=false:=opn_not (show ¬L op=[115,117,98] from h3)
 by_cases h4:L op=oLoad
 ·have k4:(op.toList==[108,111,97,100])=true:=opn_is (show L op=[108,111,97,100] from h4)
  rw [h4,show (countsR oLoad).2=1 from rfl] at hfew hrg
  obtain ⟨b,off,cap,hv,hbl,hc0⟩:=HST.out.cell 0 (by omega)
  simp only [Value.slice.injEq,true_and] at hv
  obtain ⟨rfl,rfl⟩:=hv
  have hg:∃a r,os=a::r:=by
   match os,hfew with
   |a::r,_=>exact ⟨a,r,rfl⟩
  obtain ⟨oA,rest,hos⟩:=hg
  have hrA:regB (L oA)=true:=by rw [hos] at hrg;simpa using hrg
  obtain ⟨a1,a2⟩:=regI_nat hrA
  ·have HR:=hid (show codeR ⟨⟨L lb,L op,os.map L⟩,frm,at_,fix,long⟩=16+(regV (L oA)).toNat by unfold codeR reg0;rw [if_neg h0,if_neg h1,if_neg h2,if_neg h3,if_pos h4,hos];rfl)
   simp only [hos,List.getElem_cons_zero,Nat.add_zero] at hc0
   generalize (regV (L oA)).toNat=nA at *
   have HA:=hid a1
   have i0:(0:Int)<(os.length:Int):=by omega
   have wu:IntKind.u8.wrap ((16:Int)+(nA:Int))=(16:Int)+(nA:Int):=Go.IntWalk.u8_in _ (by omega)
   clear a1 hrA hrg hos hfew
   go_wp2_with fail
   refine (register_any oA w1).mono ?_
   rintro e w2 ⟨rfl,hw⟩
   obtain rfl:=hw.symm
   clear hw
   rw [HA.out]
   go_wp2_with fail
   go_ret
   rw [HR.out]
   exact ⟨by go_num,by rw [HGW.out];exact HB.out⟩
 have k4:(op.toList==[108,111,97,100])=false:=opn_not (show ¬L op=[108,111,97,100] from h4)
 by_cases h5:L op=oCall
 ·have k5:(op.toList==[99,97,108,108])=true:=opn_is (show L op=[99,97,108,108] from h5)
  have HR:=hid (show codeR ⟨⟨L lb,L op,os.map L⟩,frm,at_,fix,long⟩=160 by unfold codeR;rw [if_neg h0,if_neg h1,if_neg h2,if_neg h3,if_neg h4,if_pos h5])
  go_wp2_with fail
  go_ret
  rw [HR.out]
  exact ⟨rfl,by rw [HGW.out];exact HB.out⟩
 have k5:(op.toList==[99,97,108,108])=false:=opn_not (show ¬L op=[99,97,108,108] from h5)
 by_cases h6:L op=oJmp
 ·have k6:(op.toList==[106,109,112])=true:=opn_is (show L op=[106,109,112] from h6)
  cases long
  ·have HR:=hid (show codeR ⟨⟨L lb,L op,os.map L⟩,frm,at_,fix,false⟩=128 by unfold codeR;rw [if_neg h0,if_neg h1,if_neg h2,if_neg h3,if_neg h4,if_neg h5,if_pos h6];rfl)
   go_wp2_with fail
   go_ret
   rw [HR.out]
   exact ⟨rfl,by rw [HGW.out];exact HB.out⟩
  ·have HR:=hid (show codeR ⟨⟨L lb,L op,os.map L⟩,frm,at_,fix,true⟩=129 by unfold codeR;rw [if_neg h0,if_neg h1,if_neg h2,if_neg h3,if_neg h4,if_neg h5,if_pos h6];rfl)
   go_wp2_with fail
   go_ret
   rw [HR.out]
   exact ⟨rfl,by rw [HGW.out];exact HB.out⟩
 have k6:(op.toList==[106,109,112])=false:=opn_not (show ¬L op=[106,109,112] from h6)
 by_cases h7:L op=oJz
 ·have k7:(op.toList==[106,122])=true:=opn_is (show L op=[106,122] from h7)
  rw [h7,show (countsR oJz).2=1 from rfl] at hfew hrg
  obtain ⟨b,off,cap,hv,hbl,hc0⟩:=HST.out.cell 0 (by omega)
  simp only [Value.slice.injEq,true_and] at hv
  obtain ⟨rfl,rfl⟩:=hv
  have hg:∃a r,os=a::r:=by
   match os,hfew with
   |a::r,_=>exact ⟨a,r,rfl⟩
  obtain ⟨oA,rest,hos⟩:=hg
  have hrA:regB (L oA)=true:=by rw [hos] at hrg;simpa using hrg
  obtain ⟨a1,a2⟩:=regI_nat hrA
  cases long
  ·have HR:=hid (show codeR ⟨⟨L lb,L op,os.map L⟩,frm,at_,fix,false⟩=132+(regV (L oA)).toNat by unfold codeR reg0;rw [if_neg h0,if_neg h1,if_neg h2,if_neg h3,if_neg h4,if_neg h5,if_neg h6,if_pos h7,hos];rfl)
   simp only [hos,List.getElem_cons_zero,Nat.add_zero] at hc0
   generalize (regV (L oA)).toNat=nA at *
   have HA:=hid a1
   have i0:(0:Int)<(os.length:Int):=by omega
   have wu:IntKind.u8.wrap ((132:Int)+(nA:Int))=(132:Int)+(nA:Int):=Go.IntWalk.u8_in _ (by omega)
   clear a1 hrA hrg hos hfew
   go_wp2_with fail
   refine (register_any oA w1).mono ?_
   rintro e w2 ⟨rfl,hw⟩
   obtain rfl:=hw.symm
   clear hw
   rw [HA.out]
   go_wp2_with fail
   go_ret
   rw [HR.out]
   exact ⟨by go_num,by rw [HGW.out];exact HB.out⟩
  ·have HR:=hid (show codeR ⟨⟨L lb,L op,os.map L⟩,frm,at_,fix,true⟩=136+(regV (L oA)).toNat by unfold codeR reg0;rw [if_neg h0,if_neg h1,if_neg h2,if_neg h3,if_neg h4,if_neg h5,if_neg h6,if_pos h7,hos];rfl)
   simp only [hos,List.getElem_cons_zero,Nat.add_zero] at hc0
   generalize (regV (L oA)).toNat=nA at *
   have HA:=hid a1
   have i0:(0:Int)<(os.length:Int):=by omega
   have wu:IntKind.u8.wrap ((136:Int)+(nA:Int))=(136:Int)+(nA:Int):=Go.IntWalk.u8_in _ (by omega)
   clear a1 hrA hrg hos hfew
   go_wp2_with fail
   refine (register_any oA w1).mono ?_
   rintro e w2 ⟨rfl,hw⟩
   obtain rfl:=hw.symm
   clear hw
   rw [HA.out]
   go_wp2_with fail
   go_ret
   rw [HR.out]
   exact ⟨by go_num,by rw [HGW.out];exact HB.out⟩
 have k7:(op.toList==[106,122])=false:=opn_not (show ¬L op=[106,122] from h7)
 have HR:=hid (show codeR ⟨⟨L lb,L op,os.map L⟩,frm,at_,fix,long⟩=0 by unfold codeR;rw [if_neg h0,if_neg h1,if_neg h2,if_neg h3,if_neg h4,if_neg h5,if_neg h6,if_neg h7])
 go_wp2_with fail
 go_ret
 rw [HR.out]
 exact ⟨rfl,by rw [HGW.out];exact HB.out⟩
end
section
attribute [local go_sem ↓] Go.wp_at_zero Go.wp_at_succ
set_option maxRecDepth 100000 in
set_option maxHeartbeats 3200000 in
theorem operand_any (x:SpV) (w:World) (hx:SpOk x) (s:ByteArray) (hs:s.size≤1000) (na:Option Addr) (nc:Nat) (ns:List (ByteArray×Int)) (hnl:ns.length≤1000) (hna:NamesAt w na ns) :
  Calls Tryz.prog 102 #[spV x,.string s,.slice na ns.length nc] w (BytPost (operandR (plainN ns) x.p (L s)) w):=by
 have hat:=hx.at_
 have HJB:=hid (fun w=>jumpS_bel x w)
 obtain ⟨R,hR⟩:∃R,operandR (plainN ns) x.p (L s)=R:=⟨_,rfl⟩
 rw [hR]
 unfold operandR at hR
 have hvb:=value_all x.p.at_ (plainN ns) (L s)
 obtain ⟨q,hq⟩:∃q,value x.p.at_ (plainN ns) (L s)=q:=⟨_,rfl⟩
 rw [hq] at hR hvb
 obtain ⟨v,er⟩:=q
 obtain ⟨J,hJ⟩:∃J,jumpR x.p=J:=⟨_,rfl⟩
 rw [hJ] at hR
 have HJ:=hid hJ
 obtain ⟨lb,op,v0,os,frm,at_,fix,long⟩:=x
 simp only [spV,SpV.p] at *
 rw [hJ] at HJB
 have hR:(if er≠0 then (er,[]) else if L op=oWord∨L op=oCall∨long=true then numP 2 v else if 0≤J then (0,[byteP (v-at_-2)]) else numP 1 v)=R:=hR
 have HQ:=hid hq
 have HR:=hid hR
 unfold BytPost
 have hb0:Below w.heap.size w (w.alloc (.cells #[.string lb,.string op,v0,.int .i64 (frm:Nat),.int .i64 (at_:Nat),.int .i64 (fix:Nat),.bool long] 138)):=(Below.refl _ _).alloc (Nat.le_refl _) _
 have HROW:=hid (show RowT (w.alloc (.cells #[.string lb,.string op,v0,.int .i64 (frm:Nat),.int .i64 (at_:Nat),.int .i64 (fix:Nat),.bool long] 138)) 138 w.heap.size [.string lb,.string op,v0,.int .i64 (frm:Nat),.int .i64 (at_:Nat),.int .i64 (fix:Nat),.bool long] from RowT.new w 138 [.string lb,.string op,v0,.int .i64 (frm:Nat),.int .i64 (at_:Nat),.int .i64 (fix:Nat),.bool long])
 have HNA:=hid (hna.below hb0)
 have HB:=hid hb0
 clear hb0 hna hx hq hR hJ
 go_enter Tryz.func102,Tryz.ntmps102
 go_upto_region 1 with fail
 generalize w.alloc (.cells #[.string lb,.string op,v0,.int .i64 (frm:Nat),.int .i64 (at_:Nat),.int .i64 (fix:Nat),.bool long] 138)=w1 at *
 generalize hgw:w.heap.size=gw at *
 have HGW:=hid hgw
 have hsz1:gw≤w1.heap.size:=by have:=HB.out.size;rw [hgw] at this;exact this
 clear hgw
 have r0:w1.cell? ⟨gw,0,none⟩=some (.string lb):=HROW.out.cell 0 (by simp)
 have r1:w1.cell? ⟨gw,1,none⟩=some (.string op):=HROW.out.cell 1 (by simp)
 have r2:w1.cell? ⟨gw,2,none⟩=some v0:=HROW.out.cell 2 (by simp)
 have r3:w1.cell? ⟨gw,3,none⟩=some (.int .i64 (frm:Nat)):=HROW.out.cell 3 (by simp)
 have r4:w1.cell? ⟨gw,4,none⟩=some (.int .i64 (at_:Nat)):=HROW.out.cell 4 (by simp)
 have r5:w1.cell? ⟨gw,5,none⟩=some (.int .i64 (fix:Nat)):=HROW.out.cell 5 (by simp)
 have r6:w1.cell? ⟨gw,6,none⟩=some (.bool long):=HROW.out.cell 6 (by simp)
 go_wp2_with fail
 refine (refValue_any s at_ na nc ns w1 v er (by omega) (by unfold maxLen;omega) HNA.out HQ.out).mono ?_
 rintro e w2 ⟨rfl,hw⟩
 obtain rfl:=hw.symm
 clear hw
 by_cases he:er=0
 ·have hr:=HR.out
  rw [if_neg (by simpa using he)] at hr
  subst he
  by_cases h2:L op=oWord∨L op=oCall∨long=true
  ·rw [if_pos h2] at hr
   have HRR:=hid hr
   have HTW:=hid (two_any v w1 hvb)
   clear hr
   have hcs:L op=oWord∨(¬L op=oWord∧L op=oCall)∨(¬L op=oWord∧¬L op=oCall∧long=true):=by
    by_cases a1:L op=oWord
    ·exact Or.inl a1
    ·by_cases a2:L op=oCall
     ·exact Or.inr (Or.inl ⟨a1,a2⟩)
     ·rcases h2 with q|q|q
      ·exact absurd q a1
      ·exact absurd q a2
      ·exact Or.inr (Or.inr ⟨a1,a2,q⟩)
   clear h2
   rcases hcs with a1|⟨a1,a2⟩|⟨a1,a2,a3⟩
   ·have k1:(op.toList==[46,119,111,114,100])=true:=opn_is (show L op=[46,119,111,114,100] from a1)
    go_wp2_with fail
    refine HTW.out.mono ?_
    rintro e w3 ⟨hb3,v3,rfl,hown3⟩
    rw [HRR.out] at hown3 ⊢
    have HO3:=hid (own_mono hown3 hsz1)
    have HB3:=hid (HB.out.trans (hb3.mono hsz1))
    clear hb3 hown3
    go_wp2_with fail
    go_ret2
    exact ⟨by rw [HGW.out];exact HB3.out,_,rfl,by rw [HGW.out];exact HO3.out⟩
   ·have k1:(op.toList==[46,119,111,114,100])=false:=opn_not (show ¬L op=[46,119,111,114,100] from a1)
    have k2:(op.toList==[99,97,108,108])=true:=opn_is (show L op=[99,97,108,108] from a2)
    go_wp2_with fail
    refine HTW.out.mono ?_
    rintro e w3 ⟨hb3,v3,rfl,hown3⟩
    rw [HRR.out] at hown3 ⊢
    have HO3:=hid (own_mono hown3 hsz1)
    have HB3:=hid (HB.out.trans (hb3.mono hsz1))
    clear hb3 hown3
    go_wp2_with fail
    go_ret2
    exact ⟨by rw [HGW.out];exact HB3.out,_,rfl,by rw [HGW.out];exact HO3.out⟩
   ·have k1:(op.toList==[46,119,111,114,100])=false:=opn_not (show ¬L op=[46,119,111,114,100] from a1)
    have k2:(op.toList==[99,97,108,108])=false:=opn_not (show ¬L op=[99,97,108,108] from a2)
    subst a3
    go_wp2_with fail
    refine HTW.out.mono ?_
    rintro e w3 ⟨hb3,v3,rfl,hown3⟩
    rw [HRR.out] at hown3 ⊢
    have HO3:=hid (own_mono hown3 hsz1)
    have HB3:=hid (HB.out.trans (hb3.mono hsz1))
    clear hb3 hown3
    go_wp2_with fail
    go_ret2
    exact ⟨by rw [HGW.out];exact HB3.out,_,rfl,by rw [HGW.out];exact HO3.out⟩
  ·rw [if_neg h2] at hr
   have k1:(op.toList==[46,119,111,114,100])=false:=opn_not (show ¬L op=[46,119,111,114,100] from fun q=>h2 (Or.inl q))
   have k2:(op.toList==[99,97,108,108])=false:=opn_not (show ¬L op=[99,97,108,108] from fun q=>h2 (Or.inr (Or.inl q)))
   have hlg:long=false:=by cases long;rfl;exact absurd (Or.inr (Or.inr rfl)) h2
   clear h2
   subst hlg
   by_cases hj0:0≤J
   ·have kj:decide ((0:Int)≤J)=true:=decide_eq_true hj0
    rw [if_pos hj0] at hr
    have HRR:=hid hr
    have hwb:=wrap_byte (v-(at_:Int)-2)
    clear hr
    go_wp2_with fail
    refine (HJB.out w1).mono ?_
    rintro e w3 ⟨rfl,hb3⟩
    have HB3:=hid (HB.out.trans (hb3.mono hsz1))
    have hsz3:gw≤w3.heap.size:=Nat.le_trans hsz1 hb3.size
    have r4:w3.cell? ⟨gw,4,none⟩=some (.int .i64 (at_:Nat)):=(HROW.out.below hb3).cell 4 (by simp)
    clear hb3
    go_wp2_with fail
    go_ret2
    rw [←HRR.out]
    exact ⟨by rw [HGW.out];exact HB3.out.alloc hsz3 _,_,rfl,by rw [HGW.out];exact own_fresh (cs:=byCells [byteP (v-(at_:Int)-2)]) rfl hsz3 rfl (by unfold maxLen;simp)⟩
   ·have kj:decide ((0:Int)≤J)=false:=decide_eq_false hj0
    rw [if_neg hj0] at hr
    have HRR:=hid hr
    clear hr
    go_wp2_with fail
    refine (HJB.out w1).mono ?_
    rintro e w3 ⟨rfl,hb3⟩
    have HB3:=hid (HB.out.trans (hb3.mono hsz1))
    have hsz3:gw≤w3.heap.size:=Nat.le_trans hsz1 hb3.size
    clear hb3
    go_wp2_with fail
    refine (one_any v w3).mono ?_
    rintro e w4 ⟨hb4,v4,rfl,hown4⟩
    rw [HRR.out] at hown4 ⊢
    have HO4:=hid (own_mono hown4 hsz3)
    have HB4:=hid (HB3.out.trans (hb4.mono hsz3))
    clear hb4 hown4
    go_wp2_with fail
    go_ret2
    exact ⟨by rw [HGW.out];exact HB4.out,_,rfl,by rw [HGW.out];exact HO4.out⟩
 ·have hr:=HR.out
  rw [if_pos he] at hr
  have ke:(er != 0)=true:=by simpa using he
  have HRR:=hid hr
  clear hr
  go_wp2_with fail
  go_ret2
  rw [←HRR.out]
  exact ⟨by rw [HGW.out];exact HB.out,_,rfl,World.ownsRow_nil _ _ _ _⟩
end
end Go.Proofs.YtcepppilgncdmaaGreatDoor
