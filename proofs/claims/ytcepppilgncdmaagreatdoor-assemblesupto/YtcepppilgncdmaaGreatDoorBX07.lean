/-
  Joined: LibMath.
-/
import Derived.Lib.Replace
import Derived.Lib.TrimByte
import Derived.Test.YtcepppilgncdmaaGreatDoorBX01
namespace Go.Proofs.YtcepppilgncdmaaGreatDoor
open Go.Lib (index)
theorem byte_eq (x c:UInt8):(x.toNat:Int)=(c.toNat:Int)↔x=c:=by
 constructor
 ·intro h;exact UInt8.toNat_inj.1 (by omega)
 ·rintro rfl;rfl
theorem idx_one (c:UInt8):∀l:List UInt8,(index l [c]=-1∧∀b∈l,b≠c)∨∃p r,l=p++c::r∧(∀b∈p,b≠c)∧index l [c]=(p.length:Nat)
 |[]=>Or.inl ⟨rfl,fun b h=>by cases h⟩
 |b::l=>by
  by_cases hb:b=c
  ·subst hb
   exact Or.inr ⟨[],l,rfl,(fun _ h=>by cases h),by simp [index]⟩
  ·have h0:([c]:List UInt8).isPrefixOf (b::l)=false:=by
    simp [List.isPrefixOf];exact fun h=>hb h.symm
   rcases idx_one c l with ⟨h1,h2⟩|⟨p,r,h1,h2,h3⟩
   ·refine Or.inl ⟨by unfold index;rw [h0,h1];rfl,fun x hx=>?_⟩
    rcases List.mem_cons.1 hx with rfl|h
    ·exact hb
    ·exact h2 x h
   ·refine Or.inr ⟨b::p,r,by rw [h1];rfl,fun x hx=>?_,?_⟩
    ·rcases List.mem_cons.1 hx with rfl|h
     ·exact hb
     ·exact h2 x h
    ·unfold index
     rw [h0,h3]
     have:(((p.length:Nat):Int)==-1)=false:=by rw [beq_eq_false_iff_ne];omega
     simp [this]
theorem cut_one (c:UInt8) (l:List UInt8):(Lib.cut l [c]=(l,[],false)∧∀b∈l,b≠c)∨∃p r,l=p++c::r∧(∀b∈p,b≠c)∧Lib.cut l [c]=(p,r,true):=by
 rcases idx_one c l with ⟨h1,h2⟩|⟨p,r,h1,h2,h3⟩
 ·exact Or.inl ⟨by unfold Lib.cut;rw [h1];rfl,h2⟩
 ·refine Or.inr ⟨p,r,h1,h2,?_⟩
  unfold Lib.cut
  rw [h3,if_pos (by omega)]
  subst h1
  simp
theorem cutL_all (l:List UInt8) (h:∀b∈l,b≠59):cutL l=l:=by
 induction l with
 |nil=>rfl
 |cons b r ih =>
  have hb:¬(b.toNat:Int)=59:=fun e=>h b (by simp) ((byte_eq b 59).1 e)
  simp only [cutL]
  rw [if_neg hb,ih (fun x hx=>h x (by simp [hx]))]
theorem cutL_at (p r:List UInt8) (h:∀b∈p,b≠59):cutL (p++59::r)=p:=by
 induction p with
 |nil=>simp [cutL]
 |cons b q ih =>
  have hb:¬(b.toNat:Int)=59:=fun e=>h b (by simp) ((byte_eq b 59).1 e)
  simp only [List.cons_append,cutL]
  rw [if_neg hb,ih (fun x hx=>h x (by simp [hx]))]
theorem cut_semi (l:List UInt8):(Lib.cut l [59]).1=cutL l:=by
 rcases cut_one 59 l with ⟨h1,h2⟩|⟨p,r,h1,h2,h3⟩
 ·rw [h1,cutL_all l h2]
 ·rw [h3,h1,cutL_at p r h2]
theorem cutL_no (l:List UInt8):∀b∈cutL l,b≠59:=by
 rcases cut_one 59 l with ⟨_,h2⟩|⟨p,r,h1,h2,_⟩
 ·rw [cutL_all l h2];exact h2
 ·rw [h1,cutL_at p r h2];exact h2
theorem cutL_twice (l:List UInt8):cutL (cutL l)=cutL l:=cutL_all _ (cutL_no l)
theorem cutL_le (l:List UInt8):(cutL l).length≤l.length:=by
 induction l with
 |nil=>simp [cutL]
 |cons b r ih=>simp only [cutL];split<;>simp<;>omega
theorem trim_blanks (l:List UInt8):Lib.trimLeftB l 32=l.drop (blanks l):=by
 unfold Lib.trimLeftB
 induction l with
 |nil=>rfl
 |cons b r ih =>
  by_cases hb:b=32
  ·subst hb;simpa [blanks] using ih
  ·have h2:¬(b.toNat:Int)=32:=fun e=>hb ((byte_eq b 32).1 e)
   have h3:(b==32)=false:=by simpa using hb
   simp [blanks,h2,List.dropWhile,h3]
theorem solid_all (l:List UInt8) (h:∀b∈l,b≠32):solid l=l.length:=by
 induction l with
 |nil=>rfl
 |cons b r ih =>
  have hb:¬(b.toNat:Int)=32:=fun e=>h b (by simp) ((byte_eq b 32).1 e)
  simp only [solid]
  rw [if_neg hb,ih (fun x hx=>h x (by simp [hx]))];rfl
theorem solid_upto (p r:List UInt8) (h:∀b∈p,b≠32):solid (p++32::r)=p.length:=by
 induction p with
 |nil=>simp [solid]
 |cons b q ih =>
  have hb:¬(b.toNat:Int)=32:=fun e=>h b (by simp) ((byte_eq b 32).1 e)
  simp only [List.cons_append,solid]
  rw [if_neg hb,ih (fun x hx=>h x (by simp [hx]))];rfl
def SameW (x y:List UInt8):Prop:=noBlank x=noBlank y∧wordOf x=wordOf y∧restOf x=restOf y
theorem SameW.refl (x:List UInt8):SameW x x:=⟨rfl,rfl,rfl⟩
theorem sameW_blank (r:List UInt8):SameW r (32::r):=by
 refine ⟨by simp [noBlank],?_,?_⟩
 ·simp [wordOf,blanks]
 ·simp only [restOf,blanks]
  rw [if_pos (show ((32:UInt8).toNat:Int)=32 from rfl),List.drop_succ_cons,show blanks r+1+solid (r.drop (blanks r))=(blanks r+solid (r.drop (blanks r)))+1 from by omega,List.drop_succ_cons]
theorem cut_word (l:List UInt8):(Lib.cut (l.drop (blanks l)) [32]).1=wordOf l∧SameW (Lib.cut (l.drop (blanks l)) [32]).2.1 (restOf l):=by
 unfold wordOf restOf
 rcases cut_one 32 (l.drop (blanks l)) with ⟨h1,h2⟩|⟨p,r,h1,h2,h3⟩
 ·rw [h1,solid_all _ h2]
  refine ⟨by rw [List.take_of_length_le (Nat.le_refl _)],?_⟩
  rw [←List.drop_drop,List.drop_eq_nil_of_le (Nat.le_refl _)]
  exact SameW.refl _
 ·rw [h3,h1,solid_upto p r h2]
  refine ⟨by simp,?_⟩
  rw [←List.drop_drop,h1]
  simpa using sameW_blank r
theorem label_suffix (a:List UInt8):(Lib.hasSuffix a [58]&&nameB (Lib.trimSuffix a [58]))=labelB a∧(labelB a=true→Lib.trimSuffix a [58]=a.dropLast):=by
 have hd:∀x:List UInt8,x=[]∨∃q b,x=q++[b]:=fun x=>by
  rcases List.eq_nil_or_concat x with h|⟨q,b,h⟩
  ·exact Or.inl h
  ·exact Or.inr ⟨q,b,by rw [h,List.concat_eq_append]⟩
 rcases hd a with rfl|⟨q,b,rfl⟩
 ·exact ⟨rfl,fun h=>by cases h⟩
 ·by_cases hb:b=58
  ·subst hb
   have h1:Lib.hasSuffix (q++[58]) [58]=true:=by
    unfold Lib.hasSuffix
    rw [List.isSuffixOf_iff_suffix];exact ⟨q,rfl⟩
   have h2:Lib.trimSuffix (q++[58]) [58]=q:=by
    unfold Lib.trimSuffix;rw [if_pos h1];simp
   rw [h1,h2]
   unfold labelB
   refine ⟨?_,fun _=>by simp⟩
   rw [List.getLastD_eq_getLast?,List.getLast?_concat,List.dropLast_concat]
   cases q with
   |nil=>rfl
   |cons x y=>simp
  ·have h1:Lib.hasSuffix (q++[b]) [58]=false:=by
    unfold Lib.hasSuffix
    rw [Bool.eq_false_iff]
    intro h
    rw [List.isSuffixOf_iff_suffix] at h
    obtain ⟨t,ht⟩:=h
    have:=List.append_inj_right' ht rfl
    injection this with this
    exact hb this.symm
   have h3:labelB (q++[b])=false:=by
    unfold labelB
    have:¬(b.toNat:Int)=58:=fun e=>hb ((byte_eq b 58).1 e)
    simp [this]
   rw [h1,h3]
   exact ⟨rfl,fun h=>by cases h⟩
theorem noBlank_all (l:List UInt8) (h:∀b∈l,b≠32):noBlank l=l:=by
 unfold noBlank
 rw [List.filter_eq_self]
 intro b hb
 have:¬(b.toNat:Int)=32:=fun e=>h b hb ((byte_eq b 32).1 e)
 simpa using this
theorem noBlank_at (p r:List UInt8) (h:∀b∈p,b≠32):noBlank (p++32::r)=p++noBlank r:=by
 have:=noBlank_all p h
 unfold noBlank at this ⊢
 rw [List.filter_append,this]
 simp
theorem replace_blanks:∀(n:Nat) (l:List UInt8),l.length≤n→Lib.replaceK [32] [] (Lib.count l [32]) l=noBlank l
 |n,l,hn=>by
  rcases idx_one 32 l with ⟨h1,h2⟩|⟨p,r,h1,h2,h3⟩
  ·rw [Lib.count_miss h1,noBlank_all l h2];rfl
  ·have hc:Lib.count l [32]=Lib.count (l.drop (p.length+1)) [32]+1:=by rw [Lib.count_hit (by simp) h3,Nat.add_comm];rfl
   have hd:l.drop (p.length+1)=r:=by rw [h1];simp
   rw [hc,Lib.replaceK_hit _ _ _ _ p.length h3]
   simp only [List.length_singleton]
   rw [hd]
   have hl:r.length+1≤n:=by have:=congrArg List.length h1;simp at this;omega
   match n,hl with
   |m+1,hl =>
    rw [replace_blanks m r (by omega),h1,noBlank_at p r h2]
    simp
theorem replaceAll_blanks (l:List UInt8):Lib.replaceAll l [32] []=noBlank l:=by
 unfold Lib.replaceAll Lib.replace
 rw [if_neg (by decide)]
 unfold Lib.replaceNum
 rw [if_pos (Or.inl (by decide))]
 exact replace_blanks _ l (Nat.le_refl _)
theorem splitB_all (c:UInt8) (l:List UInt8) (h:∀b∈l,b≠c):splitB c.toNat l=[l]:=by
 induction l with
 |nil=>rfl
 |cons b r ih =>
  have hb:¬(b.toNat:Int)=(c.toNat:Int):=fun e=>h b (by simp) ((byte_eq b c).1 e)
  simp only [splitB]
  rw [if_neg hb,ih (fun x hx=>h x (by simp [hx]))]
theorem splitB_at (c:UInt8) (p r:List UInt8) (h:∀b∈p,b≠c):splitB c.toNat (p++c::r)=p::splitB c.toNat r:=by
 induction p with
 |nil=>simp [splitB]
 |cons b q ih =>
  have hb:¬(b.toNat:Int)=(c.toNat:Int):=fun e=>h b (by simp) ((byte_eq b c).1 e)
  simp only [List.cons_append,splitB]
  rw [if_neg hb,ih (fun x hx=>h x (by simp [hx]))]
theorem splitK_one (c:UInt8):∀(n:Nat) (l:List UInt8),l.length≤n→Lib.splitK [c] 0 (Lib.count l [c]) l=splitB c.toNat l
 |n,l,hn=>by
  rcases idx_one c l with ⟨h1,h2⟩|⟨p,r,h1,h2,h3⟩
  ·rw [Lib.count_miss h1,splitB_all c l h2];rfl
  ·have hc:Lib.count l [c]=Lib.count (l.drop (p.length+1)) [c]+1:=by rw [Lib.count_hit (by simp) h3,Nat.add_comm];rfl
   have hd:l.drop (p.length+1)=r:=by rw [h1];simp
   have ht:l.take p.length=p:=by rw [h1];simp
   have hm:¬(index l [c]==-1)=true:=fun e=>by have:=beq_iff_eq.1 e;omega
   have e:(index l [c]).toNat=p.length:=by omega
   rw [hc,Lib.splitK,if_neg hm,e]
   simp only [List.length_singleton,Nat.add_zero]
   rw [hd,ht]
   have hl:r.length+1≤n:=by have:=congrArg List.length h1;simp at this;omega
   match n,hl with
   |m+1,hl =>
    rw [splitK_one c m r (by omega),h1,splitB_at c p r h2]
end Go.Proofs.YtcepppilgncdmaaGreatDoor
