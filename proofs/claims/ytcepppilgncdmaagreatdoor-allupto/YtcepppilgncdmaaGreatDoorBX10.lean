/-
  Joined: Val ValTop.
-/
import Derived.Test.YtcepppilgncdmaaGreatDoorBX09
namespace Go.Proofs.YtcepppilgncdmaaGreatDoor
open Go.RowKit
def jumps (J:Nat→Act→World→Prop) (Q:Exit→Act→World→Prop):Exit→Act→World→Prop
 |.goto l,a,w=>J l a w
 |e,a,w=>Q e a w
theorem wp_scope_many {P:Program}{a:Act}{w:World}{Q:Exit→Act→World→Prop}{c:Code}(J:Nat→Act→World→Prop) (m:Act→World→Nat)
  (pass0:∀l a w,J l a w→∃rest,findLabel c l=some (.seq .skip rest)∧rest.wp P (jumps (fun l' a' w'=>J l' a' w'∧m a' w'<m a w) Q) a w)
  (first0:(∀l rest a w,findLabel c l=some (.seq .skip rest)→J l a w→rest.wp P (jumps J Q) a w)→c.wp P (jumps J Q) a w):(Code.scope c).wp P Q a w:=by
 have first:=first0 (fun l rest a w hf hJ=>by
  obtain ⟨rest',hf',hp⟩:=pass0 l a w hJ
  rw [hf] at hf'
  injection hf' with hf'
  injection hf' with _ hf'
  subst hf'
  exact Go.wp_mono hp (fun e a w h=>by cases e<;>first|exact h|exact h.1))
 have pass:∀l a w,J l a w→∃rest,findLabel c l=some rest∧rest.wp P (jumps (fun l' a' w'=>J l' a' w'∧m a' w'<m a w) Q) a w:=fun l a w hJ=>by
  obtain ⟨rest,hf,hp⟩:=pass0 l a w hJ
  exact ⟨_,hf,wp_seq (wp_skip hp)⟩
 intro b k cs
 have key:∀n l a w,m a w=n→J l a w→∃rest,findLabel c l=some rest∧∃e a' w',Q e a' w'∧Arrives P (lone (b.at a (.code rest::.inScope c::k)) cs w) b k cs e a' w':=by
  intro n
  induction n using Nat.strongRecOn with
  |_ n ih =>
   intro l a w hn hJ
   obtain ⟨rest,hf,hp⟩:=pass l a w hJ
   refine ⟨rest,hf,?_⟩
   obtain ⟨e,a₁,w₁,hq,harr⟩:=hp b (.inScope c::k) cs
   cases e with
   |normal=>exact ⟨.normal,a₁,w₁,hq,Steps.trans harr (.one step_inScope)⟩
   |exit id=>exact ⟨.exit id,a₁,w₁,hq,fun k' hk=>harr k' (by simp [exitTo,hk])⟩
   |goto l' =>
    obtain ⟨hJ',hlt⟩:=hq
    obtain ⟨rest₂,hf₂,e₂,a₂,w₂,hq₂,harr₂⟩:=ih _ (by omega) l' a₁ w₁ rfl hJ'
    have hg:gotoIn l' (.inScope c::k)=some (.code rest₂::.inScope c::k):=by simp [gotoIn,hf₂]
    exact ⟨e₂,a₂,w₂,hq₂,.of_steps (harr _ hg) harr₂⟩
   |ret=>exact ⟨_,a₁,w₁,hq,harr⟩
   |panic ch=>exact ⟨_,a₁,w₁,hq,harr⟩
   |outgrown=>exact ⟨_,a₁,w₁,hq,harr⟩
 obtain ⟨e,a₁,w₁,hq,harr⟩:=first b (.inScope c::k) cs
 cases e with
 |normal=>exact ⟨.normal,a₁,w₁,hq,.head step_scope (Steps.trans harr (.one step_inScope))⟩
 |exit id=>exact ⟨.exit id,a₁,w₁,hq,fun k' hk=>.head step_scope (harr k' (by simp [exitTo,hk]))⟩
 |goto l' =>
  obtain ⟨rest,hf,e₂,a₂,w₂,hq₂,harr₂⟩:=key _ l' a₁ w₁ rfl hq
  have hg:gotoIn l' (.inScope c::k)=some (.code rest::.inScope c::k):=by simp [gotoIn,hf]
  exact ⟨e₂,a₂,w₂,hq₂,.of_steps (.head step_scope (harr _ hg)) harr₂⟩
 |ret=>exact ⟨_,a₁,w₁,hq,.of_steps (.one step_scope) harr⟩
 |panic ch=>exact ⟨_,a₁,w₁,hq,.of_steps (.one step_scope) harr⟩
 |outgrown=>exact ⟨_,a₁,w₁,hq,.of_steps (.one step_scope) harr⟩
theorem L_nil {t:ByteArray}(h:L t=[]):t=⟨#[]⟩:=L_inj h
def strSize:Value→Nat
 |.string s=>s.size
 |_=>0
def AtJump (s:ByteArray) (at_:Int) (a:Option Addr) (cap:Nat) (ns:List (ByteArray×Int)) (w:World) (v er:Int) (l:Nat) (a':Act) (w':World):Prop:=
 ∃(t:ByteArray) (sg sm:Int) (u11 u12 u13 u14 u15 u16 u17 u18 u19 u20 u21 u22 u23 u24 u25 u26 u27 u28 u29 u30 u31 u32 u33 u34 u35 u36 u37 u38 u39 u40 u41 u42 u43 u44 u45 u46 u47 u48 u49 u50 u51 u52 u53 u54 u55 u56 u57 u58:Value),
  a'={ tmps:=#[.string s,.int .i64 at_,.slice a ns.length cap,undef,undef,undef,.int .i64 0,.int .i64 0,.string t,.int .u8 sg,.int .i64 sm,u11,u12,u13,u14,u15,u16,u17,u18,u19,u20,u21,u22,u23,u24,u25,u26,u27,u28,u29,u30,u31,u32,u33,u34,u35,u36,u37,u38,u39,u40,u41,u42,u43,u44,u45,u46,u47,u48,u49,u50,u51,u52,u53,u54,u55,u56,u57,u58],defers:=[] } ∧
  t.size≤maxLen∧Below w.heap.size w w'∧-1000000≤sm∧sm≤1000000 ∧
  ((l=1∧(sg=43∨sg=45∨sg=42)∧∃f,t.size≤f∧eval at_ (plainN ns) (f+1) sm sg (L t)=(v,er)) ∨
   (l=0∧0<t.size∧∃f,t.size≤f∧evalS at_ (plainN ns) f sm (L t)=(v,er)))
set_option maxHeartbeats 800000 in
theorem xValue_any (s:ByteArray) (at_:Int) (a:Option Addr) (cap:Nat) (ns:List (ByteArray×Int)) (w:World) (v er:Int) (hs:s.size≤maxLen) (hl:ns.length≤maxLen) (hn:NamesAt w a ns) (hv:value at_ (plainN ns) (L s)=(v,er)) :
  Calls Tryz.prog 36 #[.string s,.int .i64 at_,.slice a ns.length cap] w fun e w'=>e=.returned (.tuple #[.int .i64 v,.int .i64 er])∧Below w.heap.size w w':=by
 have HN:=hid hn
 have HV:=hid hv
 clear hn hv
 go_enter Tryz.func36,Tryz.ntmps36
 go_wp2
 refine wp_scope_many (AtJump s at_ a cap ns w v er) (fun a' _=>strSize (a'.tmps.getD 8 undef)) ?_ ?_
 ·rintro l a' w' ⟨t,sg,sm,u11,u12,u13,u14,u15,u16,u17,u18,u19,u20,u21,u22,u23,u24,u25,u26,u27,u28,u29,u30,u31,u32,u33,u34,u35,u36,u37,u38,u39,u40,u41,u42,u43,u44,u45,u46,u47,u48,u49,u50,u51,u52,u53,u54,u55,u56,u57,u58,rfl,ht,hb,b1,b2,hc⟩
  have HB:=hid hb
  have ht':=ht
  unfold maxLen at ht'
  clear hb HV hs
  rcases hc with ⟨rfl,hsg,f,hf,he⟩|⟨rfl,hpos,f,hf,he⟩
  ·refine ⟨_,rfl,?_⟩
   rcases hr:readT at_ (plainN ns) (L t) with ⟨x,r,y⟩
   have HR:=hid hr
   by_cases hy:y=0
   ·subst hy
    obtain ⟨x1,x2⟩:=readT_bd hr
    rcases hk:reck sm sg x with ⟨z,q⟩
    have HK:=hid hk
    by_cases hq:q=0
    ·subst hq
     obtain ⟨z1,z2⟩:=reck_bd hk
     rw [eval_on hr f hk] at he
     have HE:=hid he
     have HSG:=hid hsg
     clear he hr hk hsg
     match r with
     |[] =>
      obtain ⟨rfl,rfl⟩:=pair_eq HE.out
      go_wp2_with (first|(go_at_call 52;refine (readTerm_any t at_ a cap ns _ x _ 0 ht hl (HN.out.below HB.out) HR.out).mono ?_;rintro e w' ⟨t',ht1,ht2,rfl,hb'⟩;obtain rfl:=L_nil ht1)|(go_at_call 53;refine (reckon_any sm sg x _ z 0 ⟨b1,b2⟩ ⟨x1,x2⟩ HK.out HSG.out).mono ?_;rintro e w' ⟨rfl,rfl⟩))
      simp only [jumps]
      go_ret2
      exact ⟨rfl,HB.out.trans (hb'.mono HB.out.size)⟩
     |c::r =>
      go_wp2_with fail
      refine (readTerm_any t at_ a cap ns _ x _ 0 ht hl (HN.out.below HB.out) HR.out).mono ?_
      rintro e w1 ⟨t',ht1,ht2,rfl,hb'⟩
      have hpos:0<t'.size:=by
       have h:=congrArg List.length ht1
       rw [L_length,List.length_cons] at h
       omega
      have ke:=not_empty t' hpos
      have HL:=hid (L_head t' hpos)
      have he:=HE.out
      rw [←ht1,HL.out] at he
      simp only [evalS] at he
      have HBT:=hid (HB.out.trans (hb'.mono HB.out.size))
      clear HE ht1 hb'
      have h0i:(0:Int)<(t'.size:Int):=by omega
      have h1i:(1:Int)≤(t'.size:Int):=by omega
      by_cases hsn:(t'[0].toNat:Int)=43∨(t'[0].toNat:Int)=45∨(t'[0].toNat:Int)=42
      ·rw [if_pos hsn] at he
       obtain ⟨g,rfl⟩:∃g,f=g+1:=⟨f-1,by omega⟩
       have HE:=hid he
       have HSN:=hid hsn
       clear he
       have hor:(((t'[0].toNat:Int) != 43)=false)∨(((t'[0].toNat:Int) != 43)=true∧((t'[0].toNat:Int) != 45)=false)∨(((t'[0].toNat:Int) != 43)=true∧((t'[0].toNat:Int) != 45)=true∧((t'[0].toNat:Int) != 42)=false):=by
        simp;omega
       clear hsn
       rcases hor with n1|⟨n1,n2⟩|⟨n1,n2,n3⟩
       all_goals
        go_wp2_with (first|(go_at_call 53;refine (reckon_any sm sg x _ z 0 ⟨b1,b2⟩ ⟨x1,x2⟩ HK.out HSG.out).mono ?_;rintro e w' ⟨rfl,rfl⟩))
        go_step3
        go_wp2
        go_quiet (fail)
        go_wp2
        go_step3
        exact ⟨⟨t'.extract 1 t'.size,_,z,_,_,_,_,_,_,_,_,_,_,_,_,_,_,_,_,_,_,_,_,_,_,_,_,_,_,_,_,_,_,_,_,_,_,_,_,_,_,_,_,_,_,_,_,_,_,_,_,rfl,by rw [ByteArray.size_extract];unfold maxLen;omega,below_drewN (HBT.out) _,z1,z2,Or.inl ⟨rfl,HSN.out,g,by rw [ByteArray.size_extract];omega,by rw [L_suffix];exact HE.out⟩⟩,by show (t'.extract 1 t'.size).size<t.size;rw [ByteArray.size_extract];omega⟩
      ·rw [if_neg hsn] at he
       obtain ⟨rfl,rfl⟩:=pair_eq he
       have n1:((t'[0].toNat:Int) != 43)=true:=by simp;omega
       have n2:((t'[0].toNat:Int) != 45)=true:=by simp;omega
       have n3:((t'[0].toNat:Int) != 42)=true:=by simp;omega
       clear he hsn
       go_wp2_with (first|(go_at_call 53;refine (reckon_any sm sg x _ z 0 ⟨b1,b2⟩ ⟨x1,x2⟩ HK.out HSG.out).mono ?_;rintro e w' ⟨rfl,rfl⟩))
       go_step3
       go_wp2
       go_quiet (fail)
       go_wp2
       simp only [jumps]
       go_ret2
       exact ⟨rfl,below_drewN (HBT.out) _⟩
    ·rw [eval_far hr f hk hq] at he
     obtain ⟨rfl,rfl⟩:=pair_eq he
     have kq:(q != 0)=true:=by simpa using hq
     have HSG:=hid hsg
     clear he hr hk hsg
     go_wp2_with (first|(go_at_call 52;refine (readTerm_any t at_ a cap ns _ x r 0 ht hl (HN.out.below HB.out) HR.out).mono ?_;rintro e w' ⟨t',ht1,ht2,rfl,hb'⟩)|(go_at_call 53;refine (reckon_any sm sg x _ z q ⟨b1,b2⟩ ⟨x1,x2⟩ HK.out HSG.out).mono ?_;rintro e w' ⟨rfl,rfl⟩))
     simp only [jumps]
     go_ret2
     exact ⟨rfl,HB.out.trans (hb'.mono HB.out.size)⟩
   ·rw [eval_bad hr hy] at he
    obtain ⟨rfl,rfl⟩:=pair_eq he
    have ky:(y != 0)=true:=by simpa using hy
    have HSG:=hid hsg
    clear he hr hsg
    go_wp2_with (first|(go_at_call 52;refine (readTerm_any t at_ a cap ns _ x r y ht hl (HN.out.below HB.out) HR.out).mono ?_;rintro e w' ⟨t',ht1,ht2,rfl,hb'⟩))
    simp only [jumps]
    go_ret2
    exact ⟨rfl,HB.out.trans (hb'.mono HB.out.size)⟩
  ·refine ⟨_,rfl,?_⟩
   have HL:=hid (L_head t hpos)
   rw [HL.out] at he
   simp only [evalS] at he
   have h0i:(0:Int)<(t.size:Int):=by omega
   have h1i:(1:Int)≤(t.size:Int):=by omega
   by_cases hsn:(t[0].toNat:Int)=43∨(t[0].toNat:Int)=45∨(t[0].toNat:Int)=42
   ·rw [if_pos hsn] at he
    obtain ⟨g,rfl⟩:∃g,f=g+1:=⟨f-1,by omega⟩
    have HE:=hid he
    have HSN:=hid hsn
    clear he
    have hor:(((t[0].toNat:Int) != 43)=false)∨(((t[0].toNat:Int) != 43)=true∧((t[0].toNat:Int) != 45)=false)∨(((t[0].toNat:Int) != 43)=true∧((t[0].toNat:Int) != 45)=true∧((t[0].toNat:Int) != 42)=false):=by
     simp;omega
    clear hsn
    rcases hor with n1|⟨n1,n2⟩|⟨n1,n2,n3⟩
    all_goals
     go_wp2
     go_quiet (fail)
     go_wp2
     go_step3
     exact ⟨⟨t.extract 1 t.size,_,sm,_,_,_,_,_,_,_,_,_,_,_,_,_,_,_,_,_,_,_,_,_,_,_,_,_,_,_,_,_,_,_,_,_,_,_,_,_,_,_,_,_,_,_,_,_,_,_,_,rfl,by rw [ByteArray.size_extract];unfold maxLen;omega,below_drewN (HB.out) _,b1,b2,Or.inl ⟨rfl,HSN.out,g,by rw [ByteArray.size_extract];omega,by rw [L_suffix];exact HE.out⟩⟩,by show (t.extract 1 t.size).size<t.size;rw [ByteArray.size_extract];omega⟩
   ·rw [if_neg hsn] at he
    obtain ⟨rfl,rfl⟩:=pair_eq he
    have n1:((t[0].toNat:Int) != 43)=true:=by simp;omega
    have n2:((t[0].toNat:Int) != 45)=true:=by simp;omega
    have n3:((t[0].toNat:Int) != 42)=true:=by simp;omega
    clear he hsn
    go_wp2
    go_quiet (fail)
    go_wp2
    simp only [jumps]
    go_ret2
    exact ⟨rfl,below_drewN (HB.out) _⟩
 ·intro hp
  have HP:=hid hp
  clear hp
  by_cases h0:s.size=0
  ·have hse:=empty_of s h0
   subst hse
   go_wp2
   go_step3
   rename_i K hK
   exact hK _ _ (HP.out 1 _ _ _ rfl ⟨⟨#[]⟩,43,0,_,_,_,_,_,_,_,_,_,_,_,_,_,_,_,_,_,_,_,_,_,_,_,_,_,_,_,_,_,_,_,_,_,_,_,_,_,_,_,_,_,_,_,_,_,_,_,_,rfl,hs,Below.refl _ _,by omega,by omega,Or.inl ⟨rfl,Or.inl rfl,0,Nat.le_refl _,HV.out⟩⟩)
  ·have hpos:0<s.size:=by omega
   have ke:=not_empty s hpos
   have HL:=hid (L_head s hpos)
   have hlen:((L s).drop 1).length+1=s.size:=by rw [List.length_drop,L_length];omega
   have HLN:=hid hlen
   clear hlen
   by_cases h45:(s[0].toNat:Int)=45
   ·have hv:=HV.out
    rw [HL.out,value_minus _ _ _ _ h45,←HL.out] at hv
    have HV':=hid hv
    have k45:((s[0].toNat:Int)==45)=true:=by simpa using h45
    clear hv h45
    go_wp2
    go_step3
    exact ⟨s,43,0,_,_,_,_,_,_,_,_,_,_,_,_,_,_,_,_,_,_,_,_,_,_,_,_,_,_,_,_,_,_,_,_,_,_,_,_,_,_,_,_,_,_,_,_,_,_,_,_,rfl,hs,Below.refl _ _,by omega,by omega,Or.inr ⟨rfl,hpos,_,by have:=HLN.out;omega,HV'.out⟩⟩
   ·have hv:=HV.out
    rw [HL.out,value_plain _ _ _ _ h45,←HL.out] at hv
    have HV':=hid hv
    have k45:((s[0].toNat:Int)==45)=false:=by simpa using h45
    clear hv h45
    go_wp2
    go_step3
    rename_i K hK
    exact hK _ _ (HP.out 1 _ _ _ rfl ⟨s,43,0,_,_,_,_,_,_,_,_,_,_,_,_,_,_,_,_,_,_,_,_,_,_,_,_,_,_,_,_,_,_,_,_,_,_,_,_,_,_,_,_,_,_,_,_,_,_,_,_,rfl,hs,Below.refl _ _,by omega,by omega,Or.inl ⟨rfl,Or.inl rfl,_,by have:=HLN.out;omega,HV'.out⟩⟩)
set_option maxHeartbeats 400000 in
theorem Value_any (s:ByteArray) (at_:Int) (a:Option Addr) (cap:Nat) (ns:List (ByteArray×Int)) (w:World) (v er:Int) (hs:s.size≤maxLen) (hl:ns.length≤maxLen) (hn:NamesAt w a ns) (hv:value at_ (plainN ns) (L s)=(v,er)) :
  Calls Tryz.prog 23 #[.string s,.int .i64 at_,.slice a ns.length cap] w fun e w'=>e=.returned (.tuple #[.int .i64 v,.int .i64 er])∧Below w.heap.size w w':=by
 have HN:=hid hn
 have HV:=hid hv
 clear hn hv
 go_enter Tryz.func23,Tryz.ntmps23
 go_wp2_with (first|(go_at_call 36;refine (xValue_any s at_ a cap ns _ v er hs hl HN.out HV.out).mono ?_;rintro e w' ⟨rfl,hb⟩))
 go_ret2
 exact ⟨rfl,hb⟩
end Go.Proofs.YtcepppilgncdmaaGreatDoor
