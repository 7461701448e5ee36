/-
  Joined: RefLine.
-/
import Derived.BigQuiet
import Derived.Deep.CutBlock
import Derived.Deep.DeepCutAuto
import Derived.Test.YtcepppilgncdmaaGreatDoorBX02
namespace Go.Proofs.YtcepppilgncdmaaGreatDoor
open Go.RowKit
theorem cutL_hit (s:ByteArray) (k:Nat) (h:k<s.size) (hb:(s[k].toNat:Int)=59):cutL ((L s).drop k)=[]:=by
 rw [L_drop s k h];simp [cutL,hb]
theorem cutL_miss (s:ByteArray) (k:Nat) (h:k<s.size) (hb:¬(s[k].toNat:Int)=59):cutL ((L s).drop k)=s[k]::cutL ((L s).drop (k+1)):=by
 rw [L_drop s k h];simp [cutL,hb]
theorem take_snoc (s:ByteArray) (k:Nat) (h:k<s.size):(L s).take (k+1)=(L s).take k++[s[k]]:=by
 have hl:k<(L s).length:=by rw [L_length];exact h
 rw [List.take_succ_eq_append_getElem hl];rfl
set_option maxHeartbeats 400000 in
theorem cut_any (s:ByteArray) (w:World) (hs:s.size≤maxLen) :
  Calls Tryz.prog 88 #[.string s] w fun e w'=>∃t,L t=cutL (L s)∧t.size≤s.size∧e=.returned (.string t)∧w'=w:=by
 unfold maxLen at hs
 go_enter Tryz.func88,Tryz.ntmps88
 go_wp2
 go_loop [3] (fun i=>∃k:Nat,k≤s.size∧i=.int .i64 k∧cutL (L s)=(L s).take k++cutL ((L s).drop k)) (fun i=>s.size-(intOf i).toNat)
 case atStart=>exact ⟨0,Nat.zero_le _,rfl,by simp⟩
 case round =>
  obtain ⟨k,hk,rfl,ha⟩:=hrel
  have HA:=hid ha
  clear ha
  by_cases hlt:k<s.size
  ·by_cases hb:(s[k].toNat:Int)=59
   ·have kb:((s[k].toNat:Int)==59)=true:=by simpa using hb
    have HC:=hid (show L (s.extract 0 k)=cutL (L s) by rw [HA.out,cutL_hit s k hlt hb,L_prefix,List.append_nil])
    clear hb
    go_wp2
    go_ret
    exact ⟨_,HC.out,by rw [ByteArray.size_extract];omega,rfl,rfl⟩
   ·have kb:((s[k].toNat:Int)==59)=false:=by simpa using hb
    have HC:=hid (show cutL (L s)=(L s).take (k+1)++cutL ((L s).drop (k+1)) by rw [HA.out,cutL_miss s k hlt hb,take_snoc s k hlt,List.append_assoc];rfl)
    clear hb
    go_wp2
    go_round
    case rel=>exact ⟨k+1,by omega,by go_num,HC.out⟩
    case measure=>simp [intOf];omega
  ·have HC:=hid (show L s=cutL (L s) by rw [HA.out,L_end s k (by omega),List.take_of_length_le (by rw [L_length];omega)];simp [cutL])
   go_wp2
   go_ret
   exact ⟨_,HC.out,Nat.le_refl _,rfl,rfl⟩
theorem blanks_at (s:ByteArray) (k:Nat) (h:k<s.size) (hb:(s[k].toNat:Int)=32):blanks ((L s).drop k)=blanks ((L s).drop (k+1))+1:=by
 rw [L_drop s k h];simp [blanks,hb]
theorem blanks_no (s:ByteArray) (k:Nat) (h:k<s.size) (hb:¬(s[k].toNat:Int)=32):blanks ((L s).drop k)=0:=by
 rw [L_drop s k h];simp [blanks,hb]
theorem solid_at (s:ByteArray) (k:Nat) (h:k<s.size) (hb:¬(s[k].toNat:Int)=32):solid ((L s).drop k)=solid ((L s).drop (k+1))+1:=by
 rw [L_drop s k h];simp [solid,hb]
theorem solid_no (s:ByteArray) (k:Nat) (h:k<s.size) (hb:(s[k].toNat:Int)=32):solid ((L s).drop k)=0:=by
 rw [L_drop s k h];simp [solid,hb]
set_option maxHeartbeats 800000 in
theorem first2_any (s:ByteArray) (w:World) (hs:s.size≤maxLen) :
  Calls Tryz.prog 94 #[.string s] w fun e w'=>∃a r,L a=wordOf (L s)∧L r=restOf (L s)∧a.size≤s.size∧r.size≤s.size∧e=.returned (.tuple #[.string a,.string r])∧Below w.heap.size w w':=by
 unfold maxLen at hs
 obtain ⟨i,hi⟩:∃i,blanks (L s)=i:=⟨_,rfl⟩
 obtain ⟨n,hn⟩:∃n,solid ((L s).drop i)=n:=⟨_,rfl⟩
 have hil:=blanks_le (L s)
 have hnl:=solid_le ((L s).drop i)
 rw [hi,L_length] at hil
 rw [hn,List.length_drop,L_length] at hnl
 have HW:=hid (show wordOf (L s)=((L s).drop i).take n by unfold wordOf;rw [hi,hn])
 have HR:=hid (show restOf (L s)=(L s).drop (i+n) by unfold restOf;rw [hi,hn])
 have HI:=hid hi
 have HN:=hid hn
 clear hi hn
 go_enter Tryz.func94,Tryz.ntmps94
 go_wp2
 go_loop [4] (fun x=>∃k:Nat,k≤i∧x=.int .i64 k∧i=k+blanks ((L s).drop k)) (fun x=>s.size-(intOf x).toNat)
 case atStart=>exact ⟨0,Nat.zero_le _,rfl,by rw [List.drop_zero,HI.out];omega⟩
 case round =>
  obtain ⟨k,hk,rfl,ha⟩:=hrel
  have HA:=hid ha
  clear ha
  by_cases hlt:k<i
  ·have hlt':k<s.size:=by omega
   have hb:(s[k].toNat:Int)=32:=by
    rcases Int.decEq (s[k].toNat:Int) 32 with h|h
    ·have:=blanks_no s k hlt' h;have:=HA.out;omega
    ·exact h
   have HS:=hid (blanks_at s k hlt' hb)
   have kb:((s[k].toNat:Int)==32)=true:=by simpa using hb
   have kd:decide ((k:Int)<s.size)=true:=by simp;omega
   clear hb
   go_wp2
   go_round
   case rel=>exact ⟨k+1,by omega,by go_num,by have:=HA.out;rw [HS.out] at this;omega⟩
   case measure=>simp [intOf];omega
  ·have hki:k=i:=by omega
   subst hki
   have hstop:s.size≤k∨(decide ((k:Int)<s.size)=true∧∃h:k<s.size,((s[k].toNat:Int)==32)=false):=by
    by_cases h:k<s.size
    ·refine Or.inr ⟨by simpa using h,h,?_⟩
     rw [beq_eq_false_iff_ne]
     intro hb
     have:=blanks_at s k h hb
     have:=HA.out
     omega
    ·exact Or.inl (by omega)
   clear hlt HA HI
   rcases hstop with kd|⟨kd,hks,kb⟩
   all_goals
    go_wp2
    go_loop [5] (fun x=>∃m:Nat,m≤n∧x=.int .i64 ((k+m:Nat):Int)∧n=m+solid ((L s).drop (k+m))) (fun x=>s.size-(intOf x).toNat)
    case atStart=>exact ⟨0,Nat.zero_le _,by go_num,by rw [Nat.add_zero,HN.out];omega⟩
    case round =>
     obtain ⟨m,hm,rfl,ha⟩:=hrel
     have HA:=hid ha
     clear ha
     obtain ⟨j,hj⟩:∃j,k+m=j:=⟨_,rfl⟩
     rw [hj]
     by_cases hlt:m<n
     ·have hlt':j<s.size:=by omega
      have hb:¬(s[j].toNat:Int)=32:=by
       intro h
       have:=solid_no s j hlt' h;have h2:=HA.out;rw [hj] at h2;omega
      have HS:=hid (solid_at s j hlt' hb)
      have kb2:((s[j].toNat:Int) != 32)=true:=by simpa using hb
      have kd2:decide ((j:Int)<s.size)=true:=by simp;omega
      clear hb
      have HJ:=hid hj
      clear hj
      go_wp2
      go_round
      case rel=>exact ⟨m+1,by omega,by have:=HJ.out;go_num,by have h1:=HA.out;have h2:=HJ.out;rw [h2,HS.out] at h1;rw [show k+(m+1)=j+1 from by omega];omega⟩
      case measure=>simp [intOf];omega
     ·have hmn:m=n:=by omega
      subst hmn
      have hstop:s.size≤j∨(decide ((j:Int)<s.size)=true∧∃h:j<s.size,((s[j].toNat:Int) != 32)=false):=by
       by_cases h:j<s.size
       ·refine Or.inr ⟨by simpa using h,h,?_⟩
        rw [bne_eq_false_iff_eq]
        rcases Int.decEq (s[j].toNat:Int) 32 with hb|hb
        ·have:=solid_at s j h hb
         have h2:=HA.out
         rw [hj] at h2
         omega
        ·exact hb
       ·exact Or.inl (by omega)
      have b1:(0:Int)≤k:=Int.natCast_nonneg _
      have b2:(k:Int)≤j:=by omega
      have b3:(j:Int)≤s.size:=by omega
      have HJ:=hid hj
      clear hj hlt HA HN
      rcases hstop with kd3|⟨kd3,hjs,kb3⟩
      all_goals
       go_wp2
       go_quiet (fail)
       go_wp2
       go_ret2
       exact ⟨s.extract k j,s.extract j s.size,by rw [HW.out,←HJ.out,L_extract,List.take_drop],by rw [HR.out,HJ.out,L_suffix],by rw [ByteArray.size_extract];omega,by rw [ByteArray.size_extract];omega,rfl,below_drewN (Below.refl _ _) _⟩
end Go.Proofs.YtcepppilgncdmaaGreatDoor
