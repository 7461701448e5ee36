/-
  Joined: Leaf Read Name Ref RefTerm.
-/
import Derived.Test.YtcepppilgncdmaaGreatDoorRows
import Derived.WalkLawsBesides
import Derived.WalkSpells
import Derived.Test.YtcepppilgncdmaaGreatDoorBX01
namespace Go.Proofs.YtcepppilgncdmaaGreatDoor
open Go.RowKit
theorem hid {p:Prop}(h:p):Hid p:=h
theorem ret_int {k:IntKind}{a b:Int}(h:a=b):Ending.returned (.int k a)=.returned (.int k b):=by rw [h]
theorem ret_bool {a b:Bool}(h:a=b):Ending.returned (.bool a)=.returned (.bool b):=by rw [h]
theorem ret_three {v0 v1 v2 u0 u1 u2:Value}(h0:v0=u0) (h1:v1=u1) (h2:v2=u2):Ending.returned (.tuple #[v0,v1,v2])=.returned (.tuple #[u0,u1,u2]):=by rw [h0,h1,h2]
set_option maxHeartbeats 400000 in
theorem isDigit_any (b:Int) (w:World) :
  Calls Tryz.prog 119 #[.int .u8 b] w fun e w'=>e=.returned (.bool (digB b))∧w'=w:=by
 by_cases h1:48≤b<;>by_cases h2:b≤57
 all_goals
  go_enter Tryz.func119,Tryz.ntmps119
  go_wp2
  go_ret
  exact ⟨ret_bool (by simp [digB,h1,h2]),rfl⟩
set_option maxHeartbeats 400000 in
theorem isNameByte_any (b:Int) (w:World) :
  Calls Tryz.prog 120 #[.int .u8 b] w fun e w'=>e=.returned (.bool (nbB b))∧w'=w:=by
 have hcs:b<48∨(48≤b∧b≤57)∨(58≤b∧b≤64)∨(65≤b∧b≤90)∨(91≤b∧b≤94)∨b=95∨b=96∨(97≤b∧b≤122)∨123≤b:=by omega
 rcases hcs with h|h|h|h|h|h|h|h|h
 all_goals
  first|obtain ⟨h1,h2⟩:=h|subst h|have _:=h
  go_enter Tryz.func120,Tryz.ntmps120
  go_wp2
  go_ret
  refine ⟨ret_bool ?_,rfl⟩
  unfold nbB
  rw [Bool.eq_iff_iff]
  simp
  try omega
set_option maxHeartbeats 400000 in
theorem digitValue_any (b:Int) (w:World) :
  Calls Tryz.prog 155 #[.int .u8 b] w fun e w'=>e=.returned (.int .i64 (hexv b))∧w'=w:=by
 have hcs:b<48∨(48≤b∧b≤57)∨(58≤b∧b≤96)∨(97≤b∧b≤102)∨103≤b:=by omega
 rcases hcs with h|h|h|h|h
 all_goals
  first|obtain ⟨h1,h2⟩:=h|have _:=h
  go_enter Tryz.func155,Tryz.ntmps155
  go_wp2
  go_ret
  refine ⟨ret_int ?_,rfl⟩
  unfold hexv
  first|(rw [if_neg (by omega),if_neg (by omega)])|(rw [if_pos (by omega)])|(rw [if_neg (by omega),if_pos (by omega)];omega)
set_option maxRecDepth 100000 in
set_option maxHeartbeats 400000 in
theorem Register_any (s:ByteArray) (w:World) :
  Calls Tryz.prog 114 #[.string s] w fun e w'=>e=.returned (.tuple #[.int .i64 (regV (L s)),.bool (regB (L s))])∧w'=w:=by
 by_cases h2:s.size=2
 ·have hr:=regB_two s h2
  have hv:=regV_two s h2
  have hz:regB (L s)=false→regV (L s)=0:=fun h=>by unfold regV;rw [h];rfl
  have hlt:(s[1].toNat:Int)<256:=by have:=s[1].toNat_lt;omega
  obtain ⟨r,er⟩:∃r,regB (L s)=r:=⟨_,rfl⟩
  obtain ⟨v,ev⟩:∃v,regV (L s)=v:=⟨_,rfl⟩
  rw [er] at hr hv hz
  rw [ev] at hv hz
  rw [er,ev]
  clear er ev
  cases r with
  |true =>
   have h1:(s[0].toNat:Int)=114∧48≤(s[1].toNat:Int)∧(s[1].toNat:Int)≤51:=by
    have:=hr.symm
    simp only [Bool.and_eq_true,decide_eq_true_eq] at this
    exact ⟨this.1.1,this.1.2,this.2⟩
   obtain ⟨h0,h3,h4⟩:=h1
   have HV:=hid (hv rfl)
   clear hr hv hz
   go_enter Tryz.func114,Tryz.ntmps114
   go_wp2
   go_ret2
   rw [HV.out]
   exact ⟨rfl,rfl⟩
  |false =>
   have h1:(¬(s[0].toNat:Int)=114)∨((s[0].toNat:Int)=114∧(s[1].toNat:Int)<48)∨((s[0].toNat:Int)=114∧48≤(s[1].toNat:Int)∧51<(s[1].toNat:Int)):=by
    have:=hr.symm
    simp only [Bool.and_eq_false_iff,decide_eq_false_iff_not] at this
    omega
   have HZ:=hid (hz rfl)
   clear hr hv hz
   rcases h1 with h0|⟨h0,h3⟩|⟨h0,h3,h4⟩
   all_goals
    go_enter Tryz.func114,Tryz.ntmps114
    go_wp2
    go_ret2
    rw [HZ.out]
    exact ⟨rfl,rfl⟩
 ·have HR:=hid (regB_not s h2)
  have HV:=hid (show regV (L s)=0 by unfold regV;rw [regB_not s h2];rfl)
  go_enter Tryz.func114,Tryz.ntmps114
  go_wp2
  go_ret2
  rw [HR.out,HV.out]
  exact ⟨rfl,rfl⟩
theorem wordLen_at (s:ByteArray) (k:Nat) (h:k<s.size) (hb:nbB (s[k].toNat:Int)=true):wordLen ((L s).drop k)=wordLen ((L s).drop (k+1))+1:=by
 rw [L_drop s k h];simp [wordLen,hb]
theorem wordLen_no (s:ByteArray) (k:Nat) (h:k<s.size) (hb:nbB (s[k].toNat:Int)=false):wordLen ((L s).drop k)=0:=by
 rw [L_drop s k h];simp [wordLen,hb]
theorem digs_at (base v:Int) (n:Nat) (s:ByteArray) (k:Nat) (h:k<s.size) (hb:hexv (s[k].toNat:Int)<base):digs base v n ((L s).drop k)=digs base (min (v*base+hexv (s[k].toNat:Int)) 1000001) (n+1) ((L s).drop (k+1)):=by
 rw [L_drop s k h];simp only [digs];rw [if_pos hb]
theorem digs_no (base v:Int) (n:Nat) (s:ByteArray) (k:Nat) (h:k<s.size) (hb:¬hexv (s[k].toNat:Int)<base):digs base v n ((L s).drop k)=(v,n):=by
 rw [L_drop s k h];simp only [digs];rw [if_neg hb]
theorem digs_out (base v:Int) (n:Nat) (s:ByteArray) (k:Nat) (h:s.size≤k):digs base v n ((L s).drop k)=(v,n):=by
 rw [L_end s k h];rfl
theorem min_if (x:Int):(if 1000001<x then 1000001 else x)=min x 1000001:=by
 split<;>omega
theorem byte_bd (c:UInt8):0≤(c.toNat:Int)∧(c.toNat:Int)≤255:=by
 have:=c.toNat_lt
 omega
theorem pair_eq {α β:Type}{a c:α}{b d:β}(h:(a,b)=(c,d)):a=c∧b=d:=by injection h with h1 h2;exact ⟨h1,h2⟩
theorem trip_eq {α β γ:Type}{a c:α}{b d:β}{x y:γ}(h:(a,b,x)=(c,d,y)):a=c∧b=d∧x=y:=by
 injection h with h1 h2;injection h2 with h2 h3;exact ⟨h1,h2,h3⟩
set_option maxHeartbeats 400000 in
theorem readDigits_any (s:ByteArray) (base:Int) (w:World) (v:Int) (n:Nat) (hs:s.size≤maxLen) (hb:base=10∨base=16) (hv:Hid (digs base 0 0 (L s)=(v,n))) :
  Calls Tryz.prog 124 #[.string s,.int .i64 base] w fun e w'=>e=.returned (.tuple #[.int .i64 v,.int .i64 n])∧w'=w:=by
 unfold maxLen at hs
 have hb0:0≤base:=by omega
 have hb1:base≤16:=by omega
 clear hb
 go_enter Tryz.func124,Tryz.ntmps124
 go_wp2
 go_loop [6,7] (fun v i=>∃(x:Int) (k:Nat),k≤s.size∧0≤x∧x≤1000001∧i=.int .i64 k∧v=.int .i64 x∧digs base 0 0 (L s)=digs base x k ((L s).drop k)) (fun _ i=>s.size-(intOf i).toNat)
 case atStart=>exact ⟨0,0,Nat.zero_le _,by omega,by omega,rfl,rfl,by rw [List.drop_zero]⟩
 case round =>
  obtain ⟨x,k,hk,hx0,hx1,rfl,rfl,hd⟩:=hrel
  have HD:=hid hd
  clear hd
  by_cases hlt:k<s.size
  ·have hx2:0≤x*base:=Int.mul_nonneg hx0 hb0
   have hx3:x*base≤1000001*16:=Int.mul_le_mul hx1 hb1 hb0 (by omega)
   have hh:=hexv_lo (s[k].toNat:Int)
   by_cases hdg:hexv (s[k].toNat:Int)<base
   ·have HS:=hid (digs_at base x k s k hlt hdg)
    go_wp2_with (go_at_call 155;refine (digitValue_any _ _).mono ?_;rintro e w' ⟨rfl,rfl⟩)
    all_goals
     go_round
     case rel=>exact ⟨min (x*base+hexv (s[k].toNat:Int)) 1000001,k+1,by omega,by omega,by omega,by go_num,congrArg (Value.int IntKind.i64) (min_if _),by rw [HD.out,HS.out]⟩
     case measure=>simp [intOf];omega
   ·have HS:=hid (pair_eq (hv.out.symm.trans (HD.out.trans (digs_no base x k s k hlt hdg))))
    go_wp2_with (go_at_call 155;refine (digitValue_any _ _).mono ?_;rintro e w' ⟨rfl,rfl⟩)
    go_ret2
    obtain ⟨h1,h2⟩:=HS.out
    rw [h1,h2]
    exact ⟨rfl,rfl⟩
  ·have HS:=hid (pair_eq (hv.out.symm.trans (HD.out.trans (digs_out base x k s k (by omega)))))
   go_wp2
   go_ret2
   obtain ⟨h1,h2⟩:=HS.out
   rw [h1,h2]
   exact ⟨rfl,rfl⟩
set_option maxHeartbeats 400000 in
theorem findBase16_any (s:ByteArray) (w:World) (v:Int) (n:Nat) (er:Int) (hs:s.size≤maxLen) (h1:1≤s.size) (hv:base16 ((L s).drop 1)=(v,n,er)) :
  Calls Tryz.prog 125 #[.string s] w fun e w'=>e=.returned (.tuple #[.int .i64 v,.int .i64 n,.int .i64 er])∧w'=w:=by
 have hs':(s.extract 1 s.size).size≤maxLen:=by rw [ByteArray.size_extract];omega
 have hle:=digs_le 16 ((L s).drop 1) 0 0
 rw [List.length_drop,L_length] at hle
 unfold maxLen at hs
 rcases hg:digs 16 0 0 ((L s).drop 1) with ⟨x,k⟩
 have HG:Hid (digs 16 0 0 (L (s.extract 1 s.size))=(x,k)):=by rw [L_suffix];exact hg
 unfold base16 at hv
 rw [hg] at hv hle
 clear hg
 simp only at hle hv
 by_cases hn:k=0
 ·subst hn
  rw [if_pos rfl] at hv
  obtain ⟨rfl,rfl,rfl⟩:=trip_eq hv
  go_enter Tryz.func125,Tryz.ntmps125
  go_wp2_with (go_at_call 124;refine (readDigits_any _ _ _ _ _ hs' (Or.inr rfl) HG).mono ?_;rintro e w' ⟨rfl,rfl⟩)
  go_ret3
  exact ⟨rfl,rfl⟩
 ·have hn':((k:Int)==0)=false:=by simp;omega
  rw [if_neg hn] at hv
  obtain ⟨rfl,rfl,rfl⟩:=trip_eq hv
  clear hv
  go_enter Tryz.func125,Tryz.ntmps125
  go_wp2_with (go_at_call 124;refine (readDigits_any _ _ _ _ _ hs' (Or.inr rfl) HG).mono ?_;rintro e w' ⟨rfl,rfl⟩)
  go_ret3
  exact ⟨ret_three rfl (by go_num) rfl,rfl⟩
set_option maxHeartbeats 400000 in
theorem findQuoted_any (s:ByteArray) (w:World) (v:Int) (n:Nat) (er:Int) (h1:1≤s.size) (hv:quoted ((L s).drop 1)=(v,n,er)) :
  Calls Tryz.prog 126 #[.string s] w fun e w'=>e=.returned (.tuple #[.int .i64 v,.int .i64 n,.int .i64 er])∧w'=w:=by
 by_cases h3:s.size<3
 ·have hq:quoted ((L s).drop 1)=(0,0,4):=by
   have:=L_length s
   match hl:(L s).drop 1 with
   |[]=>rfl
   |[a]=>rfl
   |a::b::r=>have h:=congrArg List.length hl;rw [List.length_drop,this] at h;simp at h;omega
  obtain ⟨rfl,rfl,rfl⟩:=trip_eq (hv.symm.trans hq)
  clear hv hq
  go_enter Tryz.func126,Tryz.ntmps126
  go_wp2
  go_ret3
  exact ⟨rfl,rfl⟩
 ·rw [L_drop s 1 (by omega),L_drop s 2 (by omega)] at hv
  simp only [quoted] at hv
  have k3:decide ((s.size:Int)<3)=false:=by simp;omega
  have hy:=byte_bd s[1]
  by_cases ha:(s[1].toNat:Int)=39
  ·rw [if_pos (Or.inl ha)] at hv
   obtain ⟨rfl,rfl,rfl⟩:=trip_eq hv
   clear hv
   go_enter Tryz.func126,Tryz.ntmps126
   go_wp2
   go_ret3
   exact ⟨rfl,rfl⟩
  ·have ka:((s[1].toNat:Int)==39)=false:=by simp;omega
   by_cases hb:(s[2].toNat:Int)=39
   ·have kb:((s[2].toNat:Int) != 39)=false:=by simp;omega
    rw [if_neg (by omega)] at hv
    obtain ⟨rfl,rfl,rfl⟩:=trip_eq hv
    clear hv
    go_enter Tryz.func126,Tryz.ntmps126
    go_wp2
    go_ret3
    exact ⟨rfl,rfl⟩
   ·have kb:((s[2].toNat:Int) != 39)=true:=by simp;omega
    rw [if_pos (Or.inr hb)] at hv
    obtain ⟨rfl,rfl,rfl⟩:=trip_eq hv
    clear hv
    go_enter Tryz.func126,Tryz.ntmps126
    go_wp2
    go_ret3
    exact ⟨rfl,rfl⟩
theorem nameB_nil (s:ByteArray) (h:s.size=0):nameB (L s)=false:=by
 have:=L_end s 0 (by omega)
 rw [List.drop_zero] at this
 rw [this];rfl
theorem nameB_eq (s:ByteArray) (h:0<s.size):nameB (L s)=(decide (s.size≤8)&&!digB (s[0].toNat:Int)&&!regB (L s)&&allNb (L s)):=by
 have h0:=L_drop s 0 h
 rw [List.drop_zero] at h0
 have hl:=L_length s
 rw [h0] at hl ⊢
 rw [←hl]
 rfl
theorem allNb_at (s:ByteArray) (k:Nat) (h:k<s.size):allNb ((L s).drop k)=(nbB (s[k].toNat:Int)&&allNb ((L s).drop (k+1))):=by
 rw [L_drop s k h];rfl
theorem empty_of (s:ByteArray) (h:s.size=0):s=⟨#[]⟩:=by
 apply L_inj
 have:=L_end s 0 (by omega)
 rw [List.drop_zero] at this
 rw [this];rfl
theorem not_empty (s:ByteArray) (h:0<s.size):s.toList.isEmpty=false:=by
 rw [ByteArray.toList_eq]
 have:=L_length s
 unfold L at this
 cases hl:s.data.toList with
 |nil=>rw [hl] at this;simp at this;omega
 |cons=>rfl
set_option maxHeartbeats 800000 in
theorem IsName_any (s:ByteArray) (w:World) (hs:s.size≤maxLen) :
  Calls Tryz.prog 78 #[.string s] w fun e w'=>e=.returned (.bool (nameB (L s)))∧w'=w:=by
 unfold maxLen at hs
 by_cases h0:s.size=0
 ·have HN:=hid (nameB_nil s h0)
  have he:=empty_of s h0
  subst he
  clear h0 hs
  go_enter Tryz.func78,Tryz.ntmps78
  go_wp2_with fail
  go_ret
  rw [HN.out]
  exact ⟨rfl,rfl⟩
 ·have hpos:0<s.size:=by omega
  have ke:=not_empty s hpos
  have HN:=hid (nameB_eq s hpos)
  by_cases h8:8<s.size
  ·have HF:=hid (show nameB (L s)=false by rw [HN.out,decide_eq_false (by omega)];rfl)
   go_enter Tryz.func78,Tryz.ntmps78
   go_wp2_with fail
   go_ret
   rw [HF.out]
   exact ⟨rfl,rfl⟩
  ·have k8:decide ((8:Int)<s.size)=false:=by simp;omega
   by_cases hd:digB (s[0].toNat:Int)=true
   ·have HF:=hid (show nameB (L s)=false by rw [HN.out];simp [hd])
    go_enter Tryz.func78,Tryz.ntmps78
    go_wp2_with (first|(go_at_call 119;refine (isDigit_any _ _).mono ?_;rintro e w' ⟨rfl,rfl⟩))
    go_ret
    rw [HF.out]
    exact ⟨rfl,rfl⟩
   ·have kd:digB (s[0].toNat:Int)=false:=by simpa using hd
    by_cases hr:regB (L s)=true
    ·have HF:=hid (show nameB (L s)=false by rw [HN.out];simp [hr])
     go_enter Tryz.func78,Tryz.ntmps78
     go_wp2_with (first|(go_at_call 119;refine (isDigit_any _ _).mono ?_;rintro e w' ⟨rfl,rfl⟩)|(go_at_call 114;refine (Register_any _ _).mono ?_;rintro e w' ⟨rfl,rfl⟩))
     go_ret
     rw [HF.out]
     exact ⟨rfl,rfl⟩
    ·have kr:regB (L s)=false:=by simpa using hr
     have HF:=hid (show nameB (L s)=allNb (L s) by rw [HN.out,kr,kd,decide_eq_true (by omega)];rfl)
     clear HN
     go_enter Tryz.func78,Tryz.ntmps78
     go_wp2_with (first|(go_at_call 119;refine (isDigit_any _ _).mono ?_;rintro e w' ⟨rfl,rfl⟩)|(go_at_call 114;refine (Register_any _ _).mono ?_;rintro e w' ⟨rfl,rfl⟩))
     go_loop [26] (fun i=>∃k:Nat,k≤s.size∧i=.int .i64 k∧allNb (L s)=allNb ((L s).drop k)) (fun i=>s.size-(intOf i).toNat)
     case atStart=>exact ⟨0,Nat.zero_le _,rfl,by rw [List.drop_zero]⟩
     case round =>
      obtain ⟨k,hk,rfl,ha⟩:=hrel
      have HA:=hid ha
      clear ha
      by_cases hlt:k<s.size
      ·have HS:=hid (allNb_at s k hlt)
       by_cases hn:nbB (s[k].toNat:Int)=true
       ·go_wp2_with (first|(go_at_call 120;refine (isNameByte_any _ _).mono ?_;rintro e w' ⟨rfl,rfl⟩))
        go_round
        case rel=>exact ⟨k+1,by omega,by go_num,by rw [HA.out,HS.out,hn,Bool.true_and]⟩
        case measure=>simp [intOf];omega
       ·have kn:nbB (s[k].toNat:Int)=false:=by simpa using hn
        go_wp2_with (first|(go_at_call 120;refine (isNameByte_any _ _).mono ?_;rintro e w' ⟨rfl,rfl⟩))
        go_ret
        rw [HF.out,HA.out,HS.out,kn]
        exact ⟨rfl,rfl⟩
      ·go_wp2
       go_ret
       rw [HF.out,HA.out,L_end s k (by omega)]
       exact ⟨rfl,rfl⟩
def plainN (ns:List (ByteArray×Int)):List (List UInt8×Int):=ns.map fun p=>(L p.1,p.2)
def NamesAt (w:World) (a:Option Addr) (ns:List (ByteArray×Int)):Prop:=
 ns=[]∨∃b off,a=some ⟨b,off,none⟩∧b<w.heap.size∧∀i (h:i<ns.length),w.cell? ⟨b,off+i*2,none⟩=some (.string ns[i].1)∧w.cell? ⟨b,off+i*2+1,none⟩=some (.int .i64 ns[i].2)
theorem NamesAt.below {w w':World}{a:Option Addr}{ns:List (ByteArray×Int)}(h:NamesAt w a ns) (hb:Below w.heap.size w w'):NamesAt w' a ns:=by
 rcases h with h|⟨b,off,ha,hl,hc⟩
 ·exact Or.inl h
 ·refine Or.inr ⟨b,off,ha,by have:=hb.size;omega,fun i hi=>?_⟩
  obtain ⟨h1,h2⟩:=hc i hi
  exact ⟨by rw [hb.cell (p:=⟨b,off+i*2,none⟩) hl];exact h1,by rw [hb.cell (p:=⟨b,off+i*2+1,none⟩) hl];exact h2⟩
theorem findN_at (ns:List (ByteArray×Int)) (x:List UInt8) (k:Nat) (h:k<ns.length):findN (plainN (ns.drop k)) x=if L ns[k].1=x then some ns[k].2 else findN (plainN (ns.drop (k+1))) x:=by
 rw [List.drop_eq_getElem_cons h];rfl
theorem findN_end (ns:List (ByteArray×Int)) (x:List UInt8) (k:Nat) (h:ns.length≤k):findN (plainN (ns.drop k)) x=none:=by
 rw [List.drop_eq_nil_of_le h];rfl
theorem beq_of_L {s t:ByteArray}(h:L s=L t):(s.toList==t.toList)=true:=by
 rw [ByteArray.toList_eq,ByteArray.toList_eq,beq_iff_eq];exact h
theorem nbeq_of_L {s t:ByteArray}(h:¬L s=L t):(s.toList==t.toList)=false:=by
 rw [ByteArray.toList_eq,ByteArray.toList_eq,beq_eq_false_iff_ne];exact h
set_option maxHeartbeats 800000 in
theorem findName_any (s:ByteArray) (a:Option Addr) (cap:Nat) (ns:List (ByteArray×Int)) (w:World) (v:Int) (n:Nat) (er:Int) (hs:s.size≤maxLen) (hl:ns.length≤maxLen) (hn:NamesAt w a ns) (hv:named (L s) (plainN ns)=(v,n,er)) :
  Calls Tryz.prog 127 #[.string s,.slice a ns.length cap] w fun e w'=>e=.returned (.tuple #[.int .i64 v,.int .i64 n,.int .i64 er])∧Below w.heap.size w w':=by
 have hs0:=hs
 unfold maxLen at hs hl
 have HV:=hid hv
 have HN:=hid hn
 clear hv hn
 have hwl:=wordLen_le (L s)
 rw [L_length] at hwl
 obtain ⟨m,hm⟩:∃m,wordLen (L s)=m:=⟨_,rfl⟩
 rw [hm] at hwl
 have HM:=hid hm
 clear hm
 go_enter Tryz.func127,Tryz.ntmps127
 go_wp2
 go_loop [7] (fun i=>∃k:Nat,k≤m∧i=.int .i64 k∧m=k+wordLen ((L s).drop k)) (fun i=>s.size-(intOf i).toNat)
 case atStart=>exact ⟨0,Nat.zero_le _,rfl,by rw [List.drop_zero,HM.out];omega⟩
 case round =>
  obtain ⟨k,hk,rfl,ha⟩:=hrel
  have HA:=hid ha
  clear ha
  have hks:k≤s.size:=by omega
  by_cases hlt:k<m
  ·have hlt':k<s.size:=by omega
   have kn:nbB (s[k].toNat:Int)=true:=by
    cases hb:nbB (s[k].toNat:Int) with
    |true=>rfl
    |false=>have:=wordLen_no s k hlt' hb;have:=HA.out;omega
   have HS:=hid (wordLen_at s k hlt' kn)
   have hdec:decide ((k:Int)<s.size)=true:=by simp;omega
   go_wp2_with (first|(go_at_call 120;refine (isNameByte_any _ _).mono ?_;rintro e w' ⟨rfl,rfl⟩))
   go_round
   case rel=>exact ⟨k+1,by omega,by go_num,by rw [HA.out,HS.out];omega⟩
   case measure=>simp [intOf];omega
  ·have hkm:k=m:=by omega
   subst hkm
   have hstop:∀h:k<s.size,nbB (s[k].toNat:Int)=false:=by
    intro h
    cases hb:nbB (s[k].toNat:Int) with
    |false=>rfl
    |true=>have:=wordLen_at s k h hb;have:=HA.out;omega
   clear hlt HA
   have hex:(s.extract 0 k).size≤maxLen:=by rw [ByteArray.size_extract];omega
   have HX:=hid (L_prefix s k)
   have hv:=HV.out
   unfold named at hv
   rw [HM.out,←HX.out] at hv
   clear HV
   by_cases hnm:nameB (L (s.extract 0 k))=true
   ·rw [if_pos hnm] at hv
    have HF:=hid hv
    clear hv
    by_cases hlt:k<s.size
    all_goals
     try have kn:=hstop hlt
     clear hstop
     go_wp2_with (first|(go_at_call 120;refine (isNameByte_any _ _).mono ?_;rintro e w' ⟨rfl,rfl⟩)|(go_at_call 78;refine (IsName_any _ _ hex).mono ?_;rintro e w' ⟨rfl,rfl⟩))
     go_loopw [31] (fun i wr=>∃j:Nat,j≤ns.length∧i=.int .i64 j∧Below w'.heap.size w' wr∧findN (plainN ns) (L (s.extract 0 k))=findN (plainN (ns.drop j)) (L (s.extract 0 k))) (fun i _=>ns.length-(intOf i).toNat)
     case atStart=>exact ⟨0,Nat.zero_le _,rfl,Below.refl _ _,by rw [List.drop_zero]⟩
     case round =>
      obtain ⟨j,hj,rfl,hbel,hfd⟩:=hrel
      have HB:=hid hbel
      have HFD:=hid hfd
      clear hbel hfd
      by_cases hjl:j<ns.length
      ·rcases HN.out with h|⟨b,off,ha,hbl,hc⟩
       ·rw [h] at hjl;simp at hjl
       ·subst ha
        obtain ⟨c1,c2⟩:=hc j hjl
        rw [←HB.out.cell (p:=⟨b,off+j*2,none⟩) hbl] at c1
        rw [←HB.out.cell (p:=⟨b,off+j*2+1,none⟩) hbl] at c2
        clear hc
        have HS:=hid (findN_at ns (L (s.extract 0 k)) j hjl)
        by_cases heq:L ns[j].1=L (s.extract 0 k)
        ·have ke:=beq_of_L heq
         have hr:findN (plainN ns) (L (s.extract 0 k))=some ns[j].2:=by rw [HFD.out,HS.out,if_pos heq]
         have hf:=HF.out
         rw [hr] at hf
         obtain ⟨rfl,rfl,rfl⟩:=trip_eq hf
         clear hf hr HS HFD HF heq
         go_wp2
         go_ret3
         exact ⟨rfl,HB.out.alloc (by have:=HB.out.size;exact this) _⟩
        ·have ke:=nbeq_of_L heq
         have HR:=hid (show findN (plainN ns) (L (s.extract 0 k))=findN (plainN (ns.drop (j+1))) (L (s.extract 0 k)) by rw [HFD.out,HS.out,if_neg heq])
         clear HS HFD heq
         go_wp2
         go_roundw
         case rel=>exact ⟨j+1,by omega,by go_num,HB.out.alloc (by have:=HB.out.size;exact this) _,HR.out⟩
         case measure=>simp [intOf];omega
      ·have hr:findN (plainN ns) (L (s.extract 0 k))=none:=by rw [HFD.out,findN_end _ _ _ (by omega)]
       have hf:=HF.out
       rw [hr] at hf
       obtain ⟨rfl,rfl,rfl⟩:=trip_eq hf
       clear hf hr HFD HF
       go_wp2
       go_ret3
       exact ⟨rfl,HB.out⟩
   ·have hnf:nameB (L (s.extract 0 k))=false:=by simpa using hnm
    rw [if_neg hnm] at hv
    obtain ⟨rfl,rfl,rfl⟩:=trip_eq hv
    clear hv
    by_cases hlt:k<s.size
    all_goals
     try have kn:=hstop hlt
     clear hstop
     go_wp2_with (first|(go_at_call 120;refine (isNameByte_any _ _).mono ?_;rintro e w' ⟨rfl,rfl⟩)|(go_at_call 78;refine (IsName_any _ _ hex).mono ?_;rintro e w' ⟨rfl,rfl⟩))
     go_ret3
     exact ⟨rfl,Below.refl _ _⟩
def letB (b:Int):Bool:=decide ((97≤b∧b≤122)∨(65≤b∧b≤90)∨b=95)
def hexI (b:Int):Int:=if 48≤b∧b≤57 then b-48 else if 97≤b∧b≤102 then b-87 else -1
theorem nb_eq (b:Int):nbB b=(letB b || digB b):=by
 rw [Bool.eq_iff_iff];simp [nbB,letB,digB];omega
theorem hexI_in (b base:Int) (h:base=10∨base=16) (hb:hexv b<base):0≤hexI b∧hexI b<base∧hexI b=hexv b:=by
 unfold hexI;unfold hexv at hb ⊢
 split
 ·rename_i h1;rw [if_pos h1] at hb;omega
 ·rename_i h1;rw [if_neg h1] at hb
  split
  ·rename_i h2;rw [if_pos h2] at hb;omega
  ·rename_i h2;rw [if_neg h2] at hb;omega
theorem hexI_out (b base:Int) (_h:base=10∨base=16) (hb:¬hexv b<base):hexI b<0∨base≤hexI b:=by
 unfold hexI;unfold hexv at hb
 split
 ·rename_i h1;rw [if_pos h1] at hb;omega
 ·rename_i h1;rw [if_neg h1] at hb
  split
  ·rename_i h2;rw [if_pos h2] at hb;omega
  ·omega
set_option maxHeartbeats 400000 in
theorem in_any (n lo hi:Int) (w:World) :
  Calls Tryz.prog 38 #[.int .i64 n,.int .i64 lo,.int .i64 hi] w fun e w'=>e=.returned (.bool (decide (lo≤n∧n≤hi)))∧w'=w:=by
 by_cases h1:lo≤n<;>by_cases h2:n≤hi
 all_goals
  go_enter Tryz.func38,Tryz.ntmps38
  go_wp2
  go_ret
  exact ⟨ret_bool (by simp [h1,h2]),rfl⟩
set_option maxHeartbeats 400000 in
theorem digit_any (b:Int) (w:World) :
  Calls Tryz.prog 54 #[.int .u8 b] w fun e w'=>e=.returned (.bool (digB b))∧w'=w:=by
 by_cases h1:48≤b<;>by_cases h2:b≤57
 all_goals
  go_enter Tryz.func54,Tryz.ntmps54
  go_wp2
  go_ret
  exact ⟨ret_bool (by simp [digB,h1,h2]),rfl⟩
set_option maxHeartbeats 400000 in
theorem letter_any (b:Int) (w:World) :
  Calls Tryz.prog 55 #[.int .u8 b] w fun e w'=>e=.returned (.bool (letB b))∧w'=w:=by
 have hcs:b<65∨(65≤b∧b≤90)∨(91≤b∧b≤94)∨b=95∨b=96∨(97≤b∧b≤122)∨123≤b:=by omega
 rcases hcs with h|h|h|h|h|h|h
 all_goals
  first|obtain ⟨h1,h2⟩:=h|subst h|have _:=h
  go_enter Tryz.func55,Tryz.ntmps55
  go_wp2
  go_ret
  refine ⟨ret_bool ?_,rfl⟩
  unfold letB
  rw [Bool.eq_iff_iff]
  simp
  try omega
set_option maxHeartbeats 400000 in
theorem hex_any (b:Int) (w:World) :
  Calls Tryz.prog 86 #[.int .u8 b] w fun e w'=>e=.returned (.int .i64 (hexI b))∧w'=w:=by
 have hcs:b<48∨(48≤b∧b≤57)∨(58≤b∧b≤96)∨(97≤b∧b≤102)∨103≤b:=by omega
 rcases hcs with h|h|h|h|h
 all_goals
  first|obtain ⟨h1,h2⟩:=h|have _:=h
  go_enter Tryz.func86,Tryz.ntmps86
  go_wp2
  go_ret
  refine ⟨ret_int ?_,rfl⟩
  unfold hexI
  first|(rw [if_neg (by omega),if_neg (by omega)])|(rw [if_pos (by omega)])|(rw [if_neg (by omega),if_pos (by omega)];omega)
def regI (l:List UInt8):Int:=if regB l then ((l.getD 1 0).toNat:Int)-48 else -1
theorem regI_neg (l:List UInt8):decide (regI l<0)=!regB l:=by
 unfold regI
 cases h:regB l with
 |true =>
  unfold regB at h
  split at h
  ·simp at h;simp;omega
  ·cases h
 |false=>simp
set_option maxHeartbeats 400000 in
theorem register_any (s:ByteArray) (w:World) :
  Calls Tryz.prog 87 #[.string s] w fun e w'=>e=.returned (.int .i64 (regI (L s)))∧w'=w:=by
 by_cases h2:s.size=2
 ·have hr:=regB_two s h2
  have hb:=byte_bd s[1]
  have HI:=hid (show (L s).getD 1 0=s[1] by
   have h0:=L_drop s 0 (by omega)
   have h1:=L_drop s 1 (by omega)
   rw [List.drop_zero] at h0
   rw [h0,h1];rfl)
  by_cases a1:(s[0].toNat:Int)=114
  ·by_cases a2:(48:Int)≤(s[1].toNat:Int)
   ·by_cases a3:(s[1].toNat:Int)≤51
    ·have HR:=hid (show regI (L s)=(s[1].toNat:Int)-48 by unfold regI;rw [hr,HI.out,decide_eq_true a1,decide_eq_true (show ((48:Nat):Int)≤_ from a2),decide_eq_true a3];rfl)
     clear hr
     have k1:((s[0].toNat:Int)==114)=true:=by simpa using a1
     clear a1
     go_enter Tryz.func87,Tryz.ntmps87
     go_wp2
     go_ret
     rw [HR.out]
     exact ⟨ret_int rfl,rfl⟩
    ·have HR:=hid (show regI (L s)=-1 by unfold regI;rw [hr,decide_eq_false a3,Bool.and_false];rfl)
     clear hr
     go_enter Tryz.func87,Tryz.ntmps87
     go_wp2
     go_ret
     rw [HR.out]
     exact ⟨ret_int rfl,rfl⟩
   ·have HR:=hid (show regI (L s)=-1 by unfold regI;rw [hr,decide_eq_false (show ¬((48:Nat):Int)≤_ from a2),Bool.and_false,Bool.false_and];rfl)
    clear hr
    go_enter Tryz.func87,Tryz.ntmps87
    go_wp2
    go_ret
    rw [HR.out]
    exact ⟨ret_int rfl,rfl⟩
  ·have HR:=hid (show regI (L s)=-1 by unfold regI;rw [hr,decide_eq_false a1,Bool.false_and,Bool.false_and];rfl)
   clear hr
   go_enter Tryz.func87,Tryz.ntmps87
   go_wp2
   go_ret
   rw [HR.out]
   exact ⟨ret_int rfl,rfl⟩
 ·have HR:=hid (show regI (L s)=-1 by unfold regI;rw [regB_not s h2];rfl)
  go_enter Tryz.func87,Tryz.ntmps87
  go_wp2
  go_ret
  rw [HR.out]
  exact ⟨ret_int rfl,rfl⟩
set_option maxHeartbeats 400000 in
theorem word_any (s:ByteArray) (i:Nat) (w:World) (m:Nat) (hs:s.size≤maxLen) (hi:i≤s.size) (hv:wordLen ((L s).drop i)=m) :
  Calls Tryz.prog 57 #[.string s,.int .i64 i] w fun e w'=>e=.returned (.int .i64 m)∧w'=w:=by
 unfold maxLen at hs
 have HV:=hid hv
 have hm:m≤s.size-i:=by
  have:=wordLen_le ((L s).drop i)
  rw [hv,List.length_drop,L_length] at this
  exact this
 clear hv
 go_enter Tryz.func57,Tryz.ntmps57
 go_wp2
 go_loop [5] (fun n=>∃k:Nat,i+k≤s.size∧k≤m∧n=.int .i64 k∧m=k+wordLen ((L s).drop (i+k))) (fun n=>s.size-(intOf n).toNat)
 case atStart=>exact ⟨0,by omega,by omega,rfl,by rw [Nat.add_zero,HV.out];omega⟩
 case round =>
  obtain ⟨k,hk,hkm,rfl,ha⟩:=hrel
  have HA:=hid ha
  clear ha
  by_cases hlt:i+k<s.size
  ·have hb:=nb_eq (s[i+k].toNat:Int)
   by_cases hn:nbB (s[i+k].toNat:Int)=true
   ·have HS:=hid (wordLen_at s (i+k) hlt hn)
    have hor:letB (s[i+k].toNat:Int)=true∨(letB (s[i+k].toNat:Int)=false∧digB (s[i+k].toNat:Int)=true):=by
     rw [hn] at hb
     cases h1:letB (s[i+k].toNat:Int)<;>simp [h1] at hb ⊢
     exact hb
    have hkm':k<m:=by have:=HA.out;rw [HS.out] at this;omega
    clear hb hn
    rcases hor with h1|⟨h1,h2⟩
    all_goals
     go_wp2_with (first|(go_at_call 55;refine (letter_any _ _).mono ?_;rintro e w' ⟨rfl,rfl⟩)|(go_at_call 54;refine (digit_any _ _).mono ?_;rintro e w' ⟨rfl,rfl⟩))
     go_round
     case rel=>exact ⟨k+1,by omega,by omega,by go_num,by rw [show i+(k+1)=i+k+1 from by omega];have:=HA.out;rw [HS.out] at this;omega⟩
     case measure=>simp [intOf];omega
   ·have hn':nbB (s[i+k].toNat:Int)=false:=by simpa using hn
    have HS:=hid (wordLen_no s (i+k) hlt hn')
    have hkm':k=m:=by have:=HA.out;rw [HS.out] at this;omega
    rw [hn'] at hb
    have h1:letB (s[i+k].toNat:Int)=false:=by cases h1:letB (s[i+k].toNat:Int)<;>simp [h1] at hb ⊢
    have h2:digB (s[i+k].toNat:Int)=false:=by cases h2:digB (s[i+k].toNat:Int)<;>simp [h2] at hb ⊢
    clear hb hn hn' HA HS HV
    subst hkm'
    go_wp2_with (first|(go_at_call 55;refine (letter_any _ _).mono ?_;rintro e w' ⟨rfl,rfl⟩)|(go_at_call 54;refine (digit_any _ _).mono ?_;rintro e w' ⟨rfl,rfl⟩))
    go_ret
    exact ⟨rfl,rfl⟩
  ·have hkm':k=m:=by have:=HA.out;rw [L_end s (i+k) (by omega)] at this;simp [wordLen] at this;omega
   clear HA HV
   subst hkm'
   go_wp2
   go_ret
   exact ⟨rfl,rfl⟩
theorem L_head' (s:ByteArray) (h:0<s.size):L s=s[0]::(L s).drop 1:=by
 have:=L_drop s 0 h
 rw [List.drop_zero] at this
 exact this
theorem word_all (s:ByteArray):(wordLen (L s)=s.size)↔allNb (L s)=true:=by
 rw [←L_length]
 generalize L s=l
 induction l with
 |nil=>simp [wordLen,allNb]
 |cons c r ih =>
  have hle:=wordLen_le r
  simp only [wordLen,allNb,List.all_cons,Bool.and_eq_true,List.length_cons]
  cases h:nbB (c.toNat:Int) with
  |true =>
   rw [if_pos rfl]
   unfold allNb at ih
   rw [←ih]
   simp
  |false=>rw [if_neg (by simp)];simp
theorem name_ref (s:ByteArray) (h1:1≤s.size) (h8:s.size≤8):nameB (L s)=(decide (wordLen (L s)=s.size)&&letB (s[0].toNat:Int)&&decide (regI (L s)<0)):=by
 rw [nameB_eq s h1,regI_neg,decide_eq_true h8]
 have hb:=nb_eq (s[0].toNat:Int)
 have ha:=word_all s
 cases hall:allNb (L s) with
 |false =>
  rw [hall] at ha
  rw [decide_eq_false (by rw [ha];simp)]
  simp
 |true =>
  rw [hall] at ha
  rw [decide_eq_true (ha.2 rfl)]
  have hn:nbB (s[0].toNat:Int)=true:=by
   rw [L_head' s h1] at hall
   simp only [allNb,List.all_cons,Bool.and_eq_true] at hall
   exact hall.1
  rw [hn] at hb
  have hx:letB (s[0].toNat:Int)=!digB (s[0].toNat:Int):=by
   cases hl:letB (s[0].toNat:Int) with
   |true =>
    cases hd:digB (s[0].toNat:Int) with
    |true=>exfalso;simp [letB] at hl;simp [digB] at hd;omega
    |false=>rfl
   |false=>rw [hl,Bool.false_or] at hb;rw [←hb];rfl
  rw [hx]
  simp
set_option maxHeartbeats 800000 in
theorem refName_any (s:ByteArray) (w:World) (hs:s.size≤maxLen) :
  Calls Tryz.prog 58 #[.string s] w fun e w'=>e=.returned (.bool (nameB (L s)))∧w'=w:=by
 have hs':=hs
 unfold maxLen at hs'
 by_cases h1:s.size<1
 ·have HN:=hid (nameB_nil s (by omega))
  have k1:decide ((s.size:Int)<1)=true:=by simp;omega
  go_enter Tryz.func58,Tryz.ntmps58
  go_wp2_with fail
  go_ret
  rw [HN.out]
  exact ⟨rfl,rfl⟩
 ·have k1:decide ((s.size:Int)<1)=false:=by simp;omega
  by_cases h8:8<s.size
  ·have HN:=hid (show nameB (L s)=false by rw [nameB_eq s (by omega),decide_eq_false (by omega)];rfl)
   have k8:decide ((8:Int)<s.size)=true:=by simp;omega
   go_enter Tryz.func58,Tryz.ntmps58
   go_wp2_with fail
   go_ret
   rw [HN.out]
   exact ⟨rfl,rfl⟩
  ·have k8:decide ((8:Int)<s.size)=false:=by simp;omega
   have HN:=hid (name_ref s (by omega) (by omega))
   obtain ⟨m,hm⟩:∃m,wordLen (L s)=m:=⟨_,rfl⟩
   obtain ⟨q,hq⟩:∃q,regI (L s)=q:=⟨_,rfl⟩
   obtain ⟨lt,hlt⟩:∃q,letB (s[0].toNat:Int)=q:=⟨_,rfl⟩
   have HM:=hid (show wordLen ((L s).drop 0)=m by rw [List.drop_zero];exact hm)
   have HQ:=hid hq
   have HLT:=hid hlt
   have hN:=HN.out
   rw [hm,hq,hlt] at hN
   have HN2:=hid hN
   clear hN HN hm hq hlt
   by_cases e1:m=s.size
   ·have b1:((m:Int)==(s.size:Int))=true:=by rw [beq_iff_eq];omega
    cases lt with
    |true =>
     go_enter Tryz.func58,Tryz.ntmps58
     go_wp2_with (first|(go_at_call 57;refine (word_any s 0 _ m hs (Nat.zero_le _) HM.out).mono ?_;rintro e w' ⟨rfl,rfl⟩)|(go_at_call 55;refine (letter_any _ _).mono ?_;rw [HLT.out];rintro e w' ⟨rfl,rfl⟩)|(go_at_call 87;refine (register_any _ _).mono ?_;rw [HQ.out];rintro e w' ⟨rfl,rfl⟩))
     go_ret
     rw [HN2.out]
     exact ⟨ret_bool (by simp [e1]),rfl⟩
    |false =>
     go_enter Tryz.func58,Tryz.ntmps58
     go_wp2_with (first|(go_at_call 57;refine (word_any s 0 _ m hs (Nat.zero_le _) HM.out).mono ?_;rintro e w' ⟨rfl,rfl⟩)|(go_at_call 55;refine (letter_any _ _).mono ?_;rw [HLT.out];rintro e w' ⟨rfl,rfl⟩)|(go_at_call 87;refine (register_any _ _).mono ?_;rw [HQ.out];rintro e w' ⟨rfl,rfl⟩))
     go_ret
     rw [HN2.out]
     exact ⟨ret_bool (by simp),rfl⟩
   ·have b1:((m:Int)==(s.size:Int))=false:=by rw [beq_eq_false_iff_ne];omega
    go_enter Tryz.func58,Tryz.ntmps58
    go_wp2_with (first|(go_at_call 57;refine (word_any s 0 _ m hs (Nat.zero_le _) HM.out).mono ?_;rintro e w' ⟨rfl,rfl⟩)|(go_at_call 55;refine (letter_any _ _).mono ?_;rw [HLT.out];rintro e w' ⟨rfl,rfl⟩)|(go_at_call 87;refine (register_any _ _).mono ?_;rw [HQ.out];rintro e w' ⟨rfl,rfl⟩))
    go_ret
    rw [HN2.out]
    exact ⟨ret_bool (by simp [e1]),rfl⟩
def foundI:Option Int→Int
 |some v=>v
 |none=>0
set_option maxHeartbeats 800000 in
theorem find_any (s:ByteArray) (a:Option Addr) (cap:Nat) (ns:List (ByteArray×Int)) (w:World) (o:Option Int) (hl:ns.length≤maxLen) (hn:NamesAt w a ns) (hv:findN (plainN ns) (L s)=o) :
  Calls Tryz.prog 59 #[.slice a ns.length cap,.string s] w fun e w'=>e=.returned (.tuple #[.int .i64 (foundI o),.bool o.isSome])∧w'=w:=by
 unfold maxLen at hl
 have HV:=hid hv
 have HN:=hid hn
 clear hv hn
 go_enter Tryz.func59,Tryz.ntmps59
 go_wp2
 go_loop [6] (fun i=>∃j:Nat,j≤ns.length∧i=.int .i64 j∧findN (plainN (ns.drop j)) (L s)=o) (fun i=>ns.length-(intOf i).toNat)
 case atStart=>exact ⟨0,Nat.zero_le _,rfl,by rw [List.drop_zero];exact HV.out⟩
 case round =>
  obtain ⟨j,hj,rfl,hfd⟩:=hrel
  have HFD:=hid hfd
  clear hfd
  by_cases hjl:j<ns.length
  ·rcases HN.out with h|⟨b,off,ha,hbl,hc⟩
   ·rw [h] at hjl;simp at hjl
   ·subst ha
    obtain ⟨c1,c2⟩:=hc j hjl
    clear hc
    have HS:=hid (findN_at ns (L s) j hjl)
    by_cases heq:L ns[j].1=L s
    ·have ke:=beq_of_L heq
     have hr:some ns[j].2=o:=by have:=HFD.out;rw [HS.out,if_pos heq] at this;exact this
     clear HS HFD heq HV
     subst hr
     go_wp2
     go_ret2
     exact ⟨rfl,rfl⟩
    ·have ke:=nbeq_of_L heq
     have HR:=hid (show findN (plainN (ns.drop (j+1))) (L s)=o by have:=HFD.out;rw [HS.out,if_neg heq] at this;exact this)
     clear HS HFD heq
     go_wp2
     go_round
     case rel=>exact ⟨j+1,by omega,by go_num,HR.out⟩
     case measure=>simp [intOf];omega
  ·have hr:none=o:=by have:=HFD.out;rw [findN_end _ _ _ (by omega)] at this;exact this
   clear HFD HV
   subst hr
   go_wp2
   go_ret2
   exact ⟨rfl,rfl⟩
set_option maxHeartbeats 800000 in
theorem refNumber_any (s:ByteArray) (i:Nat) (base:Int) (w:World) (v:Int) (n:Nat) (hs:s.size≤maxLen) (hi:i≤s.size) (hb:base=10∨base=16) (hv:digs base 0 0 ((L s).drop i)=(v,n)) :
  Calls Tryz.prog 56 #[.string s,.int .i64 i,.int .i64 base] w fun e w'=>e=.returned (.tuple #[.int .i64 v,.int .i64 n])∧w'=w:=by
 unfold maxLen at hs
 have HV:=hid hv
 have HBS:=hid hb
 have hb0:0≤base:=by omega
 have hb1:base≤16:=by omega
 clear hb hv
 go_enter Tryz.func56,Tryz.ntmps56
 go_wp2
 go_loop [8,9] (fun x y=>∃(z:Int) (k:Nat),i+k≤s.size∧0≤z∧z≤1000001∧y=.int .i64 k∧x=.int .i64 z∧digs base z k ((L s).drop (i+k))=(v,n)) (fun _ y=>s.size-(intOf y).toNat)
 case atStart=>exact ⟨0,0,by omega,by omega,by omega,rfl,rfl,HV.out⟩
 case round =>
  obtain ⟨z,k,hk,hx0,hx1,rfl,rfl,hd⟩:=hrel
  have HD:=hid hd
  clear hd
  by_cases hlt:i+k<s.size
  ·have hx2:0≤z*base:=Int.mul_nonneg hx0 hb0
   have hx3:z*base≤1000001*16:=Int.mul_le_mul hx1 hb1 hb0 (by omega)
   by_cases hdg:hexv (s[i+k].toNat:Int)<base
   ·obtain ⟨q1,q2,q3⟩:=hexI_in _ _ HBS.out hdg
    have HS:=hid (digs_at base z k s (i+k) hlt hdg)
    have HQ:=hid q3
    have k1:decide (hexI (s[i+k].toNat:Int)<0)=false:=by simpa using q1
    have k2:decide (base≤hexI (s[i+k].toNat:Int))=false:=by simpa using q2
    clear q3 hdg
    go_wp2_with (first|(go_at_call 86;refine (hex_any _ _).mono ?_;rintro e w' ⟨rfl,rfl⟩))
    all_goals
     go_round
     case rel=>exact ⟨min (z*base+hexI (s[i+k].toNat:Int)) 1000001,k+1,by omega,by omega,by omega,by go_num,congrArg (Value.int IntKind.i64) (min_if _),by rw [HQ.out,show i+(k+1)=i+k+1 from by omega,←HS.out];exact HD.out⟩
     case measure=>simp [intOf];omega
   ·have hq:=hexI_out _ _ HBS.out hdg
    obtain ⟨h1,h2⟩:=pair_eq (HD.out.symm.trans (digs_no base z k s (i+k) hlt hdg))
    clear hdg HD HV
    subst h1 h2
    by_cases hneg:hexI (s[i+n].toNat:Int)<0
    ·have k1:decide (hexI (s[i+n].toNat:Int)<0)=true:=by simpa using hneg
     go_wp2_with (first|(go_at_call 86;refine (hex_any _ _).mono ?_;rintro e w' ⟨rfl,rfl⟩))
     go_ret2
     exact ⟨rfl,rfl⟩
    ·have k1:decide (hexI (s[i+n].toNat:Int)<0)=false:=by simpa using hneg
     have k2:decide (base≤hexI (s[i+n].toNat:Int))=true:=by simp;omega
     go_wp2_with (first|(go_at_call 86;refine (hex_any _ _).mono ?_;rintro e w' ⟨rfl,rfl⟩))
     go_ret2
     exact ⟨rfl,rfl⟩
  ·obtain ⟨h1,h2⟩:=pair_eq (HD.out.symm.trans (digs_out base z k s (i+k) (by omega)))
   clear HD HV
   subst h1 h2
   go_wp2
   go_ret2
   exact ⟨rfl,rfl⟩
theorem L_mid (s:ByteArray) (i n:Nat):L (s.extract i (i+n))=((L s).drop i).take n:=by
 rw [L_extract,List.take_drop]
set_option maxHeartbeats 1000000 in
theorem refTerm_any (s:ByteArray) (i:Nat) (at_:Int) (a:Option Addr) (cap:Nat) (ns:List (ByteArray×Int)) (w:World) (v:Int) (n:Nat) (er:Int) (hs':s.size≤140737488351232) (hi:i≤s.size) (hl:ns.length≤maxLen) (hn:NamesAt w a ns) (hv:term at_ (plainN ns) ((L s).drop i)=(v,n,er)) :
  Calls Tryz.prog 37 #[.string s,.int .i64 i,.int .i64 at_,.slice a ns.length cap] w fun e w'=>e=.returned (.tuple #[.int .i64 v,.int .i64 n,.int .i64 er])∧w'=w:=by
 have hs:s.size≤maxLen:=by unfold maxLen;omega
 have HN:=hid hn
 clear hn
 by_cases h0:i<s.size
 ·have HL:=hid (L_drop s i h0)
  have hby:=byte_bd s[i]
  rw [HL.out] at hv
  simp only [term] at hv
  rw [←HL.out] at hv
  have hb:=nb_eq (s[i].toNat:Int)
  have k0:decide ((s.size:Int)≤i)=false:=by simp;omega
  by_cases hd:digB (s[i].toNat:Int)=true
  ·rw [if_pos hd] at hv
   obtain ⟨rfl,rfl,rfl⟩:=trip_eq hv
   clear hv hb
   rcases hg:digs 10 0 0 ((L s).drop i) with ⟨x,k⟩
   have HG:=hid hg
   clear hg
   simp only
   go_enter Tryz.func37,Tryz.ntmps37
   go_wp2_with (first|(go_at_call 54;refine (digit_any _ _).mono ?_;rintro e w' ⟨rfl,rfl⟩)|(go_at_call 55;refine (letter_any _ _).mono ?_;rintro e w' ⟨rfl,rfl⟩)|(go_at_call 56;refine (refNumber_any s i 10 _ x k hs hi (Or.inl rfl) HG.out).mono ?_;rintro e w' ⟨rfl,rfl⟩))
   go_ret3
   exact ⟨rfl,rfl⟩
  ·have kd:digB (s[i].toNat:Int)=false:=by simpa using hd
   rw [if_neg hd] at hv
   by_cases h36:(s[i].toNat:Int)=36
   ·rw [if_pos h36] at hv
    have k36:((s[i].toNat:Int)==36)=true:=by simpa using h36
    unfold base16 at hv
    have hle:=digs_le 16 ((L s).drop (i+1)) 0 0
    rw [List.length_drop,L_length] at hle
    rcases hg:digs 16 0 0 ((L s).drop (i+1)) with ⟨x,k⟩
    rw [hg] at hv hle
    have HG:=hid hg
    simp only at hv hle
    clear hg h36 hb
    by_cases hk:k=0
    ·subst hk
     rw [if_pos rfl] at hv
     obtain ⟨rfl,rfl,rfl⟩:=trip_eq hv
     clear hv
     go_enter Tryz.func37,Tryz.ntmps37
     go_wp2_with (first|(go_at_call 54;refine (digit_any _ _).mono ?_;rintro e w' ⟨rfl,rfl⟩)|(go_at_call 55;refine (letter_any _ _).mono ?_;rintro e w' ⟨rfl,rfl⟩)|(go_at_call 56;refine (refNumber_any s (i+1) 16 _ x 0 hs (by omega) (Or.inr rfl) HG.out).mono ?_;rintro e w' ⟨rfl,rfl⟩))
     go_ret3
     exact ⟨rfl,rfl⟩
    ·rw [if_neg hk] at hv
     obtain ⟨rfl,rfl,rfl⟩:=trip_eq hv
     have kk:((k:Int)==0)=false:=by rw [beq_eq_false_iff_ne];omega
     clear hv
     go_enter Tryz.func37,Tryz.ntmps37
     go_wp2_with (first|(go_at_call 54;refine (digit_any _ _).mono ?_;rintro e w' ⟨rfl,rfl⟩)|(go_at_call 55;refine (letter_any _ _).mono ?_;rintro e w' ⟨rfl,rfl⟩)|(go_at_call 56;refine (refNumber_any s (i+1) 16 _ x k hs (by omega) (Or.inr rfl) HG.out).mono ?_;rintro e w' ⟨rfl,rfl⟩))
     go_ret3
     exact ⟨ret_three rfl (by rw [show (((1+k:Nat)):Int)=(k:Int)+1 from by omega];rfl) rfl,rfl⟩
   ·rw [if_neg h36] at hv
    have k36:((s[i].toNat:Int)==36)=false:=by simpa using h36
    by_cases h39:(s[i].toNat:Int)=39
    ·rw [if_pos h39] at hv
     have k39:((s[i].toNat:Int)==39)=true:=by simpa using h39
     clear h36 h39 hb
     by_cases h3:i+2<s.size
     ·rw [L_drop s (i+1) (by omega),L_drop s (i+2) (by omega)] at hv
      have k3:decide ((s.size:Int)≤(i:Int)+2)=false:=by simp;omega
      simp only [quoted] at hv
      have hy:=byte_bd s[i+1]
      by_cases ha:(s[i+1].toNat:Int)=39
      ·rw [if_pos (Or.inl ha)] at hv
       obtain ⟨rfl,rfl,rfl⟩:=trip_eq hv
       have ka:((s[i+1].toNat:Int)==39)=true:=by simpa using ha
       clear hv ha
       go_enter Tryz.func37,Tryz.ntmps37
       go_wp2_with (first|(go_at_call 54;refine (digit_any _ _).mono ?_;rintro e w' ⟨rfl,rfl⟩)|(go_at_call 55;refine (letter_any _ _).mono ?_;rintro e w' ⟨rfl,rfl⟩))
       go_ret3
       exact ⟨rfl,rfl⟩
      ·have ka:((s[i+1].toNat:Int)==39)=false:=by simpa using ha
       by_cases hc:(s[i+2].toNat:Int)=39
       ·have kc:((s[i+2].toNat:Int) != 39)=false:=by simpa using hc
        rw [if_neg (by omega)] at hv
        obtain ⟨rfl,rfl,rfl⟩:=trip_eq hv
        clear hv ha hc
        go_enter Tryz.func37,Tryz.ntmps37
        go_wp2_with (first|(go_at_call 54;refine (digit_any _ _).mono ?_;rintro e w' ⟨rfl,rfl⟩)|(go_at_call 55;refine (letter_any _ _).mono ?_;rintro e w' ⟨rfl,rfl⟩))
        go_ret3
        exact ⟨rfl,rfl⟩
       ·have kc:((s[i+2].toNat:Int) != 39)=true:=by simpa using hc
        rw [if_pos (Or.inr hc)] at hv
        obtain ⟨rfl,rfl,rfl⟩:=trip_eq hv
        clear hv ha hc
        go_enter Tryz.func37,Tryz.ntmps37
        go_wp2_with (first|(go_at_call 54;refine (digit_any _ _).mono ?_;rintro e w' ⟨rfl,rfl⟩)|(go_at_call 55;refine (letter_any _ _).mono ?_;rintro e w' ⟨rfl,rfl⟩))
        go_ret3
        exact ⟨rfl,rfl⟩
     ·have k3:decide ((s.size:Int)≤(i:Int)+2)=true:=by simp;omega
      have hq:quoted ((L s).drop (i+1))=(0,0,4):=by
       have hlen:=L_length s
       match hm:(L s).drop (i+1) with
       |[]=>rfl
       |[c]=>rfl
       |c::d::r=>have h:=congrArg List.length hm;rw [List.length_drop,hlen] at h;simp at h;omega
      obtain ⟨rfl,rfl,rfl⟩:=trip_eq (hv.symm.trans hq)
      clear hv hq
      go_enter Tryz.func37,Tryz.ntmps37
      go_wp2_with (first|(go_at_call 54;refine (digit_any _ _).mono ?_;rintro e w' ⟨rfl,rfl⟩)|(go_at_call 55;refine (letter_any _ _).mono ?_;rintro e w' ⟨rfl,rfl⟩))
      go_ret3
      exact ⟨rfl,rfl⟩
    ·rw [if_neg h39] at hv
     have k39:((s[i].toNat:Int)==39)=false:=by simpa using h39
     by_cases h46:(s[i].toNat:Int)=46
     ·rw [if_pos h46] at hv
      have k46:((s[i].toNat:Int)==46)=true:=by simpa using h46
      obtain ⟨rfl,rfl,rfl⟩:=trip_eq hv
      clear hv hb h36 h39 h46
      go_enter Tryz.func37,Tryz.ntmps37
      go_wp2_with (first|(go_at_call 54;refine (digit_any _ _).mono ?_;rintro e w' ⟨rfl,rfl⟩)|(go_at_call 55;refine (letter_any _ _).mono ?_;rintro e w' ⟨rfl,rfl⟩))
      go_ret3
      exact ⟨rfl,rfl⟩
     ·rw [if_neg h46] at hv
      have k46:((s[i].toNat:Int)==46)=false:=by simpa using h46
      rw [kd,Bool.or_false] at hb
      obtain ⟨m,hm⟩:∃m,wordLen ((L s).drop i)=m:=⟨_,rfl⟩
      have hml:=wordLen_le ((L s).drop i)
      rw [hm,List.length_drop,L_length] at hml
      unfold named at hv
      rw [hm,←L_mid] at hv
      have HM:=hid hm
      have hex:(s.extract i (i+m)).size≤maxLen:=by rw [ByteArray.size_extract];omega
      by_cases hlet:letB (s[i].toNat:Int)=true
      ·clear h36 h39 h46 hb hm
       by_cases hnm:nameB (L (s.extract i (i+m)))=true
       ·rw [if_pos hnm] at hv
        rcases hf:findN (plainN ns) (L (s.extract i (i+m))) with _|z
        ·rw [hf] at hv
         obtain ⟨rfl,rfl,rfl⟩:=trip_eq hv
         have HF:=hid hf
         clear hv hf
         go_enter Tryz.func37,Tryz.ntmps37
         go_wp2_with (first|(go_at_call 54;refine (digit_any _ _).mono ?_;rintro e w' ⟨rfl,rfl⟩)|(go_at_call 55;refine (letter_any _ _).mono ?_;rintro e w' ⟨rfl,rfl⟩)|(go_at_call 57;refine (word_any s i _ m hs hi HM.out).mono ?_;rintro e w' ⟨rfl,rfl⟩)|(go_at_call 58;refine (refName_any _ _ hex).mono ?_;rintro e w' ⟨rfl,rfl⟩)|(go_at_call 59;refine (find_any _ a cap ns _ none hl HN.out HF.out).mono ?_;rintro e w' ⟨rfl,rfl⟩))
         go_ret3
         exact ⟨rfl,rfl⟩
        ·rw [hf] at hv
         obtain ⟨rfl,rfl,rfl⟩:=trip_eq hv
         have HF:=hid hf
         clear hv hf
         go_enter Tryz.func37,Tryz.ntmps37
         go_wp2_with (first|(go_at_call 54;refine (digit_any _ _).mono ?_;rintro e w' ⟨rfl,rfl⟩)|(go_at_call 55;refine (letter_any _ _).mono ?_;rintro e w' ⟨rfl,rfl⟩)|(go_at_call 57;refine (word_any s i _ m hs hi HM.out).mono ?_;rintro e w' ⟨rfl,rfl⟩)|(go_at_call 58;refine (refName_any _ _ hex).mono ?_;rintro e w' ⟨rfl,rfl⟩)|(go_at_call 59;refine (find_any _ a cap ns _ (some z) hl HN.out HF.out).mono ?_;rintro e w' ⟨rfl,rfl⟩))
         go_ret3
         exact ⟨rfl,rfl⟩
       ·have knm:nameB (L (s.extract i (i+m)))=false:=by simpa using hnm
        rw [if_neg hnm] at hv
        obtain ⟨rfl,rfl,rfl⟩:=trip_eq hv
        clear hv
        go_enter Tryz.func37,Tryz.ntmps37
        go_wp2_with (first|(go_at_call 54;refine (digit_any _ _).mono ?_;rintro e w' ⟨rfl,rfl⟩)|(go_at_call 55;refine (letter_any _ _).mono ?_;rintro e w' ⟨rfl,rfl⟩)|(go_at_call 57;refine (word_any s i _ m hs hi HM.out).mono ?_;rintro e w' ⟨rfl,rfl⟩)|(go_at_call 58;refine (refName_any _ _ hex).mono ?_;rintro e w' ⟨rfl,rfl⟩))
        go_ret3
        exact ⟨rfl,rfl⟩
      ·have klet:letB (s[i].toNat:Int)=false:=by simpa using hlet
       rw [klet] at hb
       have hm0:m=0:=by rw [←hm];exact wordLen_no s i h0 hb
       subst hm0
       have hnf:nameB (L (s.extract i (i+0)))=false:=by rw [L_mid,List.take_zero];rfl
       rw [hnf,if_neg (by simp)] at hv
       obtain ⟨rfl,rfl,rfl⟩:=trip_eq hv
       clear hv hb h36 h39 h46 hnf hm
       go_enter Tryz.func37,Tryz.ntmps37
       go_wp2_with (first|(go_at_call 54;refine (digit_any _ _).mono ?_;rintro e w' ⟨rfl,rfl⟩)|(go_at_call 55;refine (letter_any _ _).mono ?_;rintro e w' ⟨rfl,rfl⟩))
       go_ret3
       exact ⟨rfl,rfl⟩
 ·have k0:decide ((s.size:Int)≤i)=true:=by simp;omega
  rw [L_end s i (by omega)] at hv
  obtain ⟨rfl,rfl,rfl⟩:=trip_eq (show (0,0,4)=(v,n,er) from hv)
  clear hv
  go_enter Tryz.func37,Tryz.ntmps37
  go_wp2_with fail
  go_ret3
  exact ⟨rfl,rfl⟩
end Go.Proofs.YtcepppilgncdmaaGreatDoor
