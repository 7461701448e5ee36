/-
  Joined: PaOps PaOpr.
-/
import Derived.Deep.RegionWith
import Derived.Test.YtcepppilgncdmaaGreatDoorBX10
import Derived.Test.YtcepppilgncdmaaGreatDoorBX22
namespace Go.Proofs.YtcepppilgncdmaaGreatDoor
open Go.RowKit
def RcPost (b:Nat) (x:StV) (r:Int×Nat) (w:World) (e:Ending) (w':World):Prop:=
 e=.returned (.int .i64 r.1)∧Keeps [b] w w'∧(r.1=0→RowT w' 113 b (stOne { x with count:=r.2 }))
theorem value_bd {a:Int}{N:List (List UInt8×Int)}{l:List UInt8}{z:Int}(h:value a N l=(z,0)):-1000000≤z∧z≤1000000:=by
 have hev:∀(f:Nat) (sm sg:Int) (l:List UInt8),-1000000≤sm∧sm≤1000000→eval a N f sm sg l=(z,0)→-1000000≤z∧z≤1000000:=by
  intro f
  induction f with
  |zero=>intro sm sg l _ h;simp only [eval,Prod.mk.injEq] at h;omega
  |succ f ih =>
   intro sm sg l hs h
   simp only [eval] at h
   split at h
   ·rename_i h1;simp only [Prod.mk.injEq] at h;exact absurd h.2 h1
   ·split at h
    ·rename_i h1;simp only [Prod.mk.injEq] at h;exact absurd h.2 h1
    ·rename_i h1
     have hb:-1000000≤(reck sm sg (readT a N l).1).1∧(reck sm sg (readT a N l).1).1≤1000000:=reck_bd (sm:=sm) (sg:=sg) (x:=(readT a N l).1) (by
      have:(reck sm sg (readT a N l).1).2=0:=by simpa using h1
      rw [←this])
     split at h
     ·simp only [Prod.mk.injEq] at h;omega
     ·split at h
      ·exact ih _ _ _ hb h
      ·simp at h
 unfold value at h
 split at h
 ·exact hev _ _ _ _ (by omega) h
 ·split at h
  ·exact hev _ _ _ _ (by omega) h
  ·exact hev _ _ _ _ (by omega) h
set_option maxRecDepth 100000 in
set_option maxHeartbeats 1600000 in
theorem readCount_any (w:World) (b:Nat) (x:StV) (na:Option Addr) (nc:Nat) (ts:List (ByteArray×Int)) (e0:ByteArray) (hx:RowT w 113 b (stOne x)) (hs:StrV w 0 x.v x.es) (he:x.es[0]?=some e0) (hes:e0.size≤1000) (hn:NamesAt w na ts) (ht:ts.length≤1000) :
  Calls Tryz.prog 115 #[.pointer (some ⟨b,0,none⟩),.slice na ts.length nc] w (RcPost b x (countP x.o.kind (plainN ts) (L e0)) w):=by
 obtain ⟨r,hr⟩:∃r,countP x.o.kind (plainN ts) (L e0)=r:=⟨_,rfl⟩
 rw [hr]
 unfold countP at hr
 obtain ⟨q,hq⟩:∃q,value 0 (plainN ts) (L e0)=q:=⟨_,rfl⟩
 obtain ⟨z,er⟩:=q
 rw [hq] at hr
 have hbd:er=0→-1000000≤z∧z≤1000000:=fun h=>value_bd (by rw [hq,h])
 obtain ⟨hlt,hel⟩:=List.getElem?_eq_some_iff.1 he
 obtain ⟨g,off,cap,hv,hgl,hc⟩:=hs.cell 0 hlt
 rw [hel,Nat.add_zero] at hc
 obtain ⟨⟨k,rg,c,l,d⟩,lab,has,added,v,es,count,long⟩:=x
 simp only at hv hr hlt ⊢
 subst hv
 have c0:w.cell? ⟨b,0,none⟩=some (.int .i64 (k:Nat)):=hx.cell 0 (by simp [stOne])
 have c8:w.cell? ⟨b,8,none⟩=some (.slice (some ⟨g,off,none⟩) es.length cap):=hx.cell 8 (by simp [stOne])
 have c9:w.cell? ⟨b,9,none⟩=some (.int .i64 (count:Nat)):=hx.cell 9 (by simp [stOne])
 have f9:=hx.free 9
 have hbl:=hx.lt
 have HX:=hid hx
 have HN:=hid hn
 have HQ:=hid hq
 have HR:=hid hr
 have HBD:=hid hbd
 clear hx hn hq hr hs he hel hbd
 go_enter Tryz.func115,Tryz.ntmps115
 go_wp2_with fail
 refine (xValue_any e0 0 na nc ts _ z er (by unfold maxLen;omega) (by unfold maxLen;omega) HN.out HQ.out).mono ?_
 rintro e w1 ⟨rfl,hb1⟩
 have c0:w1.cell? ⟨b,0,none⟩=some (.int .i64 (k:Nat)):=by rw [hb1.cell (p:=⟨b,0,none⟩) hbl];exact c0
 have c9:w1.cell? ⟨b,9,none⟩=some (.int .i64 (count:Nat)):=by rw [hb1.cell (p:=⟨b,9,none⟩) hbl];exact c9
 have f9:w1.frozen? ⟨b,9,none⟩=false:=by rw [hb1.frozen (p:=⟨b,9,none⟩) hbl];exact f9
 have HX1:=hid (HX.out.below hb1)
 have HK:=hid (Keeps.of_below (M:=[b]) hb1)
 clear hb1 c8 hc
 have hr:=HR.out
 by_cases her:er=0
 ·subst her
  obtain ⟨z1,z2⟩:=HBD.out rfl
  rw [if_neg (by simp)] at hr
  by_cases hz:z<0
  ·rw [if_pos (Or.inl hz)] at hr
   subst hr
   go_wp2
   go_ret
   exact ⟨rfl,HK.out,(fun h=>by cases h)⟩
  ·by_cases hz2:1000<z
   ·rw [if_pos (Or.inr (Or.inl hz2))] at hr
    subst hr
    go_wp2
    go_ret
    exact ⟨rfl,HK.out,(fun h=>by cases h)⟩
   ·by_cases h6:k=6
    ·subst h6
     cases hal:alignB z with
     |false =>
      rw [if_pos (Or.inr (Or.inr ⟨rfl,hal⟩))] at hr
      subst hr
      have HAL:=hid hal
      clear hal
      go_wp2_with (first|(go_at_call 145;refine (isAlignment_any z _).mono ?_;rw [HAL.out];rintro e w2 ⟨rfl,rfl⟩))
      go_ret
      exact ⟨rfl,HK.out,(fun h=>by cases h)⟩
     |true =>
      rw [if_neg (by rw [hal];rintro (h|h|⟨_,h⟩);exact hz h;exact hz2 h;cases h)] at hr
      subst hr
      have HAL:=hid hal
      clear hal
      go_wp2_with (first|(go_at_call 145;refine (isAlignment_any z _).mono ?_;rw [HAL.out];rintro e w2 ⟨rfl,rfl⟩))
      go_ret
      refine ⟨rfl,HK.out.setCell (p:=⟨b,9,none⟩) (by simp) _,fun _=>?_⟩
      have:=HX1.out.set 9 (.int .i64 z)
      simp only [stOne,List.set_cons_succ,List.set_cons_zero] at this ⊢
      rw [show ((z.toNat:Nat):Int)=z from by omega]
      exact this
    ·have k6:((k:Int)==6)=false:=by rw [beq_eq_false_iff_ne];omega
     rw [if_neg (by omega)] at hr
     subst hr
     go_wp2
     go_ret
     refine ⟨rfl,HK.out.setCell (p:=⟨b,9,none⟩) (by simp) _,fun _=>?_⟩
     have:=HX1.out.set 9 (.int .i64 z)
     simp only [stOne,List.set_cons_succ,List.set_cons_zero] at this ⊢
     rw [show ((z.toNat:Nat):Int)=z from by omega]
     exact this
 ·have ke:(er != 0)=true:=by simpa using her
  rw [if_pos her] at hr
  subst hr
  go_wp2
  go_ret
  exact ⟨rfl,HK.out,fun h=>absurd h her⟩
def RoPost (b:Nat) (x:StV) (os:List ByteArray) (r:Int×Nat×Nat) (w:World) (e:Ending) (w':World):Prop:=
 e=.returned (.int .i64 r.1)∧Keeps [b] w w'∧(r.1=0→∃v,StrV w' 0 v (os.drop x.o.regs)∧RowT w' 113 b (stOne { x with added:=r.2.1,v:=v,es:=os.drop x.o.regs,count:=r.2.2 }))
theorem regsP_bd:∀(l:List (List UInt8)) (a c:Nat),regsP l a=some c→c+1≤(a+1)*4 ^ l.length
 |[],a,c,h=>by simp only [regsP,Option.some.injEq] at h;simp [h]
 |r::t,a,c,h=>by
  simp only [regsP] at h
  split at h
  ·have h1:=regsP_bd t _ c h
   have h2:(regV r).toNat≤3:=by
    rename_i hr
    unfold regV
    rw [if_pos hr]
    unfold regB at hr
    split at hr
    ·rename_i a b
     simp only [Bool.and_eq_true,decide_eq_true_eq] at hr
     show (((([a,b]:List UInt8).getD 1 0).toNat:Int)-48).toNat≤3
     simp only [List.getD_cons_succ,List.getD_cons_zero]
     omega
    ·cases hr
   have h3:(4*a+(regV r).toNat+1)*4 ^ t.length≤((a+1)*4)*4 ^ t.length:=Nat.mul_le_mul_right _ (by omega)
   rw [List.length_cons,Nat.pow_succ,Nat.mul_comm (4 ^ t.length) 4,←Nat.mul_assoc]
   exact Nat.le_trans h1 h3
  ·cases h
theorem StrV.keeps {w w':World}{B b:Nat}{v:Value}{ss:List ByteArray}{xs:List Value}(h:StrV w B v ss) (hr:RowT w 113 b xs) (hk:Keeps [b] w w'):StrV w' B v ss:=by
 rcases h with h|⟨k,off,cap,cur,h1,h2,h3,h4⟩
 ·exact Or.inl h
 ·refine Or.inr ⟨k,off,cap,cur,h1,h2,?_,h4⟩
  rw [hk.block k (Array.getElem?_eq_some_iff.1 h3).1 (by
   simp only [List.mem_singleton]
   exact hr.notStr (by decide) k cur h3)]
  exact h3
theorem NamesAt.keepsS {w w':World}{b:Nat}{a:Option Addr}{ns:List (ByteArray×Int)}(h:NamesAt w a ns) (hk:Keeps [b] w w') (hb:∀k off,a=some ⟨k,off,none⟩→k≠b):NamesAt w' a ns:=by
 rcases h with h|⟨k,off,h1,h2,h3⟩
 ·exact Or.inl h
 ·refine Or.inr ⟨k,off,h1,Nat.lt_of_lt_of_le h2 hk.size,fun i hi=>?_⟩
  have hne:k∉[b]:=by simpa using hb k off h1
  rw [hk.cell (p:=⟨k,off+i*2,none⟩) h2 hne,hk.cell (p:=⟨k,off+i*2+1,none⟩) h2 hne]
  exact h3 i hi
set_option maxRecDepth 100000 in
set_option maxHeartbeats 1600000 in
theorem readOperands_any (w:World) (b:Nat) (x:StV) (va na:Option Addr) (vc nc:Nat) (os:List ByteArray) (ts:List (ByteArray×Int)) (hx:RowT w 113 b (stOne x)) (hadd:x.added=0) (hcnt:x.count=0) (hs:StrV w 0 (.slice va os.length vc) os) (hos:os.length≤1000) (hsz:∀i (h:i<os.length),os[i].size≤1000) (hreg:x.o.regs≤2) (hn:NamesAt w na ts) (hnb:∀k off,na=some ⟨k,off,none⟩→k≠b) (ht:ts.length≤1000) :
  Calls Tryz.prog 74 #[.pointer (some ⟨b,0,none⟩),.slice va os.length vc,.slice na ts.length nc] w (RoPost b x os (operandsP x.o (os.map L) (plainN ts)) w):=by
 obtain ⟨r,hr⟩:∃r,operandsP x.o (os.map L) (plainN ts)=r:=⟨_,rfl⟩
 rw [hr]
 unfold operandsP at hr
 rw [List.length_map] at hr
 obtain ⟨⟨k,rg,c,l,d⟩,lab,has,added,v0,es,count,long⟩:=x
 simp only at hr hadd hcnt hreg ⊢
 subst hadd hcnt
 have c0:w.cell? ⟨b,0,none⟩=some (.int .i64 (k:Nat)):=hx.cell 0 (by simp [stOne])
 have c1:w.cell? ⟨b,1,none⟩=some (.int .i64 (rg:Nat)):=hx.cell 1 (by simp [stOne])
 have c2:w.cell? ⟨b,2,none⟩=some (.int .i64 (c:Nat)):=hx.cell 2 (by simp [stOne])
 have c3:w.cell? ⟨b,3,none⟩=some (.int .i64 (l:Nat)):=hx.cell 3 (by simp [stOne])
 have c4:w.cell? ⟨b,4,none⟩=some (.int .i64 (d:Nat)):=hx.cell 4 (by simp [stOne])
 have hbl:=hx.lt
 have HX:=hid hx
 have HN:=hid hn
 have HS:=hid hs
 have HSZ:=hid hsz
 have HNB:=hid hnb
 clear hx hn hs hsz hnb
 cases htk:takesP ⟨k,rg,c,l,d⟩ os.length with
 |false =>
  rw [htk,if_pos rfl] at hr
  subst hr
  have HT:=hid htk
  clear htk
  go_enter Tryz.func74,Tryz.ntmps74
  go_wp2_with (first|(go_at_call 113;refine (takes_any ⟨k,rg,c,l,d⟩ os.length _ (by omega) (by simp only;omega)).mono ?_;rw [HT.out];rintro e w1 ⟨rfl,hb1⟩))
  go_ret
  exact ⟨rfl,Keeps.of_below hb1,(fun h=>by cases h)⟩
 |true =>
  rw [htk,if_neg (by simp)] at hr
  have hle:rg≤os.length∧((k=5∨k=6)→rg<os.length):=by
   unfold takesP at htk
   simp only at htk
   split at htk
   ·simp only [decide_eq_true_eq] at htk;omega
   ·split at htk
    ·simp only [decide_eq_true_eq] at htk;omega
    ·simp only [decide_eq_true_eq] at htk;omega
  obtain ⟨hle,hlt⟩:=hle
  have HT:=hid htk
  have HR:=hid hr
  clear htk hr
  go_enter Tryz.func74,Tryz.ntmps74
  go_wp2_with fail
  refine (takes_any ⟨k,rg,c,l,d⟩ os.length _ (by omega) (by simp only;omega)).mono ?_
  rw [HT.out]
  rintro e w1 ⟨rfl,hb1⟩
  have HX1:=hid (HX.out.below hb1)
  have HK1:=hid (Keeps.of_below (M:=[b]) hb1)
  have HS1:=hid (HS.out.below hb1)
  have HN1:=hid (HN.out.below hb1)
  have c1:w1.cell? ⟨b,1,none⟩=some (.int .i64 (rg:Nat)):=HX1.out.cell 1 (by simp [stOne])
  clear hb1 c0 c2 c3 c4 HX HS HN HT
  rcases HS1.out with ⟨hv,hz⟩|⟨g,off,cap,cur,hv,_,hg,hcap,hcur⟩
  ·injection hv with hv1 hv2 hv3
   subst hv1 hv3 hz
   have hrg:rg=0:=by simpa using hle
   subst hrg
   have hk:¬k=5∧¬k=6:=⟨fun h=>by have:=hlt (Or.inl h);simp at this,fun h=>by have:=hlt (Or.inr h);simp at this⟩
   have k5:((k:Int)==5)=false:=by rw [beq_eq_false_iff_ne];omega
   have k6:((k:Int)==6)=false:=by rw [beq_eq_false_iff_ne];omega
   have hr:=HR.out
   simp only [List.map_nil,List.take_nil,regsP] at hr
   rw [if_neg (by omega)] at hr
   subst hr
   have c0:w1.cell? ⟨b,0,none⟩=some (.int .i64 (k:Nat)):=HX1.out.cell 0 (by simp [stOne])
   have c8:w1.cell? ⟨b,8,none⟩=some v0:=HX1.out.cell 8 (by simp [stOne])
   have f8:=HX1.out.free 8
   have hne8:b≠b∨(0:Nat)≠8:=Or.inr (by decide)
   clear HR hv2 HSZ hos hle hlt
   go_wp2_with fail
   go_loopw [27] (fun i wr=>i=.int .i64 0∧wr=w1) (fun _ _=>0)
   case atStart=>exact ⟨rfl,rfl⟩
   case round =>
    obtain ⟨rfl,rfl⟩:=hrel
    go_wp2
    go_ret
    refine ⟨rfl,HK1.out.setCell (p:=⟨b,8,none⟩) (by simp) _,fun _=>⟨_,Or.inl ⟨rfl,rfl⟩,?_⟩⟩
    exact HX1.out.set 8 _
  ·injection hv with hv1 hv2 hv3
   subst hv1 hv3
   have hgl:g<w1.heap.size:=(Array.getElem?_eq_some_iff.1 hg).1
   have hgb:g≠b:=HX1.out.notStr (by decide) g cur hg
   have HG:=hid hg
   have HCUR:=hid hcur
   have hlen:(os.take rg).length=rg:=by rw [List.length_take];omega
   clear hg hcur hv2
   go_wp2_with fail
   go_loopw [27] (fun i wr=>∃j a:Nat,i=.int .i64 j∧j≤rg∧regsP ((os.map L).take rg) 0=regsP (((os.map L).take rg).drop j) a∧a+1≤4 ^ j∧Keeps [b] w wr∧Keeps [b] w1 wr∧RowT wr 113 b (stOne ⟨⟨k,rg,c,l,d⟩,lab,has,a,v0,es,0,long⟩)) (fun i _=>rg-(intOf i).toNat)
   case atStart=>exact ⟨0,0,rfl,Nat.zero_le _,by rw [List.drop_zero],by simp,HK1.out,Keeps.refl _ _,HX1.out⟩
   case round =>
    obtain ⟨j,a,rfl,hj,hrg,hab,hkw,hk1,hrow⟩:=hrel
    have HKW:=hid hkw
    have HK2:=hid hk1
    have HROW:=hid hrow
    have HRG:=hid hrg
    clear hkw hk1 hrow hrg
    have ha16:a+1≤16:=Nat.le_trans hab (show 4 ^ j≤4 ^ 2 from Nat.pow_le_pow_right (by decide) (by omega))
    by_cases hjr:j<rg
    ·have d1:decide ((j:Int)<(rg:Int))=true:=by simp;omega
     have hjo:j<os.length:=by omega
     obtain ⟨word,hword⟩:∃word,os[j]=word:=⟨_,rfl⟩
     have q0:wr.cell? ⟨g,off+j,none⟩=some (.string word):=by
      rw [HK2.out.cell (p:=⟨g,off+j,none⟩) hgl (by simpa using hgb)]
      have:=HCUR.out j hjo
      rw [←hword]
      simp [World.cell?,HG.out,this]
     have hsp:((os.map L).take rg).drop j=L word::((os.map L).take rg).drop (j+1):=by
      rw [List.drop_eq_getElem_cons (by simp;omega)]
      simp [hword]
     have c7:wr.cell? ⟨b,7,none⟩=some (.int .i64 (a:Nat)):=HROW.out.cell 7 (by simp [stOne])
     have f7:=HROW.out.free 7
     cases hreg2:regB (L word) with
     |false =>
      have hrgn:=HRG.out
      rw [hsp] at hrgn
      simp only [regsP,hreg2] at hrgn
      have hr:=HR.out
      rw [hrgn] at hr
      simp only [Bool.false_eq_true,if_false] at hr
      subst hr
      have HRB:=hid hreg2
      clear hreg2 hrgn hsp hword
      go_wp2_with (first|(go_at_call 114;refine (Register_any word _).mono ?_;rw [HRB.out];rintro e w3 ⟨rfl,rfl⟩))
      go_ret
      exact ⟨rfl,HKW.out,(fun h=>by cases h)⟩
     |true =>
      obtain ⟨rv,hrv⟩:∃rv,regV (L word)=rv:=⟨_,rfl⟩
      have hrvb:0≤rv∧rv≤3:=by
       rw [←hrv]
       unfold regV
       rw [if_pos hreg2]
       unfold regB at hreg2
       split at hreg2
       ·rename_i x y heq
        rw [heq]
        simp only [Bool.and_eq_true,decide_eq_true_eq] at hreg2
        simp only [List.getD_cons_succ,List.getD_cons_zero]
        omega
       ·cases hreg2
      have hrgn:=HRG.out
      rw [hsp] at hrgn
      simp only [regsP,hreg2,hrv,if_true] at hrgn
      have HRB:=hid hreg2
      have HRV:=hid hrv
      have HRG2:=hid hrgn
      have hrvn:((rv.toNat:Nat):Int)=rv:=by omega
      clear hreg2 hrgn hsp hword hrv
      go_wp2_with (first|(go_at_call 114;refine (Register_any word _).mono ?_;rw [HRB.out,HRV.out];rintro e w3 ⟨rfl,rfl⟩))
      go_roundw
      case rel =>
       refine ⟨j+1,4*a+rv.toNat,by go_num,by omega,HRG2.out,by rw [Nat.pow_succ];omega,HKW.out.setCell (p:=⟨b,7,none⟩) (by simp) _,HK2.out.setCell (p:=⟨b,7,none⟩) (by simp) _,?_⟩
       have:=HROW.out.set 7 (.int .i64 ((4*a+rv.toNat:Nat):Int))
       have e1:((4*a+rv.toNat:Nat):Int)=4*(a:Int)+rv:=by omega
       rw [e1] at this
       show RowT _ _ _ (stOne _)
       unfold stOne
       rw [e1]
       exact this
      case measure=>simp [intOf];omega
    ·have hjj:j=rg:=by omega
     subst hjj
     have hr:=HR.out
     have hrg:=HRG.out
     rw [List.drop_of_length_le (by simp;omega)] at hrg
     simp only [regsP] at hrg
     rw [hrg] at hr
     simp only at hr
     have d1:decide ((j:Int)<(j:Int))=false:=by simp
     have c0:wr.cell? ⟨b,0,none⟩=some (.int .i64 (k:Nat)):=HROW.out.cell 0 (by simp [stOne])
     have c1:wr.cell? ⟨b,1,none⟩=some (.int .i64 (j:Nat)):=HROW.out.cell 1 (by simp [stOne])
     have c8:wr.cell? ⟨b,8,none⟩=some v0:=HROW.out.cell 8 (by simp [stOne])
     have f8:=HROW.out.free 8
     have hgr:wr.heap[g]?=some (.cells cur 9 (0,0)):=by rw [HK2.out.block g hgl (by simpa using hgb)];exact HG.out
     have hstr:StrV wr 0 (.slice (some ⟨g,off+j,none⟩) (os.length-j) (vc-j)) (os.drop j):=by
      refine Or.inr ⟨g,off+j,vc-j,cur,by rw [List.length_drop],Nat.zero_le _,hgr,by rw [List.length_drop];omega,fun i hi=>?_⟩
      rw [List.length_drop] at hi
      have:=HCUR.out (j+i) (by omega)
      rw [←Nat.add_assoc] at this
      rw [this]
      simp
     have HSTR:=hid hstr
     have hr2:=HROW.out.set 8 (.slice (some ⟨g,off+j,none⟩) (os.length-j) (vc-j))
     have HR2:=hid (show RowT (wr.setCell ⟨b,8,none⟩ (.slice (some ⟨g,off+j,none⟩) (os.length-j) (vc-j))) 113 b (stOne ⟨⟨k,j,c,l,d⟩,lab,has,a,.slice (some ⟨g,off+j,none⟩) (os.length-j) (vc-j),os.drop j,0,long⟩) from hr2)
     have HRX:=hid hr
     clear hr hrg hgr hstr hr2
     by_cases hk56:k=5∨k=6
     ·have hjl:=hlt hk56
      have hr:=HRX.out
      rw [if_pos hk56] at hr
      obtain ⟨e0,he0⟩:∃e0,os[j]=e0:=⟨_,rfl⟩
      have hhd:((os.map L).drop j).headD []=L e0:=by
       rw [List.drop_eq_getElem_cons (by simpa using hjl)]
       simp [he0]
      rw [hhd] at hr
      have hesz:e0.size≤1000:=by rw [←he0];exact HSZ.out j hjl
      have hes0:(os.drop j)[0]?=some e0:=by rw [List.getElem?_drop,Nat.add_zero,List.getElem?_eq_getElem hjl,he0]
      have HES:=hid hes0
      have HRY:=hid hr
      clear hr hhd he0 hes0 HRX
      have hks:(wr.setCell ⟨b,8,none⟩ (.slice (some ⟨g,off+j,none⟩) (os.length-j) (vc-j))).cell? ⟨b,0,none⟩=some (.int .i64 (k:Nat)):=HR2.out.cell 0 (by simp [stOne])
      have HKS:=hid (HKW.out.setCell (p:=⟨b,8,none⟩) (by simp) (.slice (some ⟨g,off+j,none⟩) (os.length-j) (vc-j)))
      have HK3:=hid (HK2.out.setCell (p:=⟨b,8,none⟩) (by simp) (.slice (some ⟨g,off+j,none⟩) (os.length-j) (vc-j)))
      have HSS:=hid (HSTR.out.keeps HROW.out ((Keeps.refl [b] wr).setCell (p:=⟨b,8,none⟩) (by simp) (.slice (some ⟨g,off+j,none⟩) (os.length-j) (vc-j))))
      have HNN:=hid (HN1.out.keepsS HK3.out HNB.out)
      have hb56:((k:Int)==5)=true∨(((k:Int)==5)=false∧((k:Int)==6)=true):=by
       rcases hk56 with h|h
       ·exact Or.inl (by rw [beq_iff_eq];omega)
       ·exact Or.inr ⟨by rw [beq_eq_false_iff_ne];omega,by rw [beq_iff_eq];omega⟩
      rcases hb56 with k5|⟨k5,k6⟩
      all_goals
       go_wp2_with fail
       refine (readCount_any _ b ⟨⟨k,j,c,l,d⟩,lab,has,a,.slice (some ⟨g,off+j,none⟩) (os.length-j) (vc-j),os.drop j,0,long⟩ na nc ts e0 HR2.out HSS.out HES.out hesz HNN.out ht).mono ?_
       rintro e w5 ⟨rfl,hk5,hrow5⟩
       have HK5:=hid (HKS.out.trans hk5)
       have HROW5:=hid hrow5
       have HSS5:=hid (HSS.out.keeps HR2.out hk5)
       have hr:=HRY.out
       obtain ⟨cr,hcr⟩:∃cr,countP k (plainN ts) (L e0)=cr:=⟨_,rfl⟩
       simp only [hcr] at hr HROW5 ⊢
       subst hr
       clear hk5 hrow5 hcr
       go_wp2
       go_ret
       exact ⟨rfl,HK5.out,fun h0=>⟨_,HSS5.out,HROW5.out h0⟩⟩
     ·have hr:=HRX.out
      rw [if_neg hk56] at hr
      subst hr
      have k5:((k:Int)==5)=false:=by rw [beq_eq_false_iff_ne];omega
      have k6:((k:Int)==6)=false:=by rw [beq_eq_false_iff_ne];omega
      clear HRX
      by_cases hcv:j<vc
      ·have hks:(wr.setCell ⟨b,8,none⟩ (.slice (some ⟨g,off+j,none⟩) (os.length-j) (vc-j))).cell? ⟨b,0,none⟩=some (.int .i64 (k:Nat)):=HR2.out.cell 0 (by simp [stOne])
       go_wp2_with fail
       go_ret
       exact ⟨rfl,HKW.out.setCell (p:=⟨b,8,none⟩) (by simp) _,fun _=>⟨_,HSTR.out.keeps HROW.out ((Keeps.refl [b] wr).setCell (p:=⟨b,8,none⟩) (by simp) _),HR2.out⟩⟩
      ·have hr2:=HROW.out.set 8 (.slice (some ⟨g,off,none⟩) (os.length-j) (vc-j))
       have HR3:=hid (show RowT (wr.setCell ⟨b,8,none⟩ (.slice (some ⟨g,off,none⟩) (os.length-j) (vc-j))) 113 b (stOne ⟨⟨k,j,c,l,d⟩,lab,has,a,.slice (some ⟨g,off,none⟩) (os.length-j) (vc-j),os.drop j,0,long⟩) from hr2)
       have hnil:os.drop j=[]:=List.drop_of_length_le (by omega)
       have HS3:=hid (show StrV wr 0 (.slice (some ⟨g,off,none⟩) (os.length-j) (vc-j)) (os.drop j) from by
        refine Or.inr ⟨g,off,vc-j,cur,by rw [List.length_drop],Nat.zero_le _,?_,by rw [hnil];simp,fun i hi=>by rw [hnil] at hi;simp at hi⟩
        rw [HK2.out.block g hgl (by simpa using hgb)];exact HG.out)
       have hks:(wr.setCell ⟨b,8,none⟩ (.slice (some ⟨g,off,none⟩) (os.length-j) (vc-j))).cell? ⟨b,0,none⟩=some (.int .i64 (k:Nat)):=HR3.out.cell 0 (by simp [stOne])
       clear hr2 hnil
       go_wp2_with fail
       go_ret
       exact ⟨rfl,HKW.out.setCell (p:=⟨b,8,none⟩) (by simp) _,fun _=>⟨_,HS3.out.keeps HROW.out ((Keeps.refl [b] wr).setCell (p:=⟨b,8,none⟩) (by simp) _),HR3.out⟩⟩
end Go.Proofs.YtcepppilgncdmaaGreatDoor
