/-
  Joined: Frame QFrame AppZero.
-/
import Derived.Test.YtcepppilgncdmaaGreatDoorBX08
import Derived.Test.YtcepppilgncdmaaGreatDoorBX12
namespace Go.Proofs.YtcepppilgncdmaaGreatDoor
open Go.RowKit
def eT (t:TypeId):Bool:=t==77 || t==202 || t==40 || t==38
def rT (t:TypeId):Bool:=t==74 || t==209 || t==257
def keptO (E:TypeId→Bool) (M:List Nat) (k:Nat):Obj→Bool
 |.cells _ t _=>!E t&&(!rT t || !M.contains k)
 |_=>true
structure FrE (E:TypeId→Bool) (B:Nat) (M:List Nat) (w w':World):Prop where
 os:w'.os=w.os
 tape:w'.tape=w.tape
 output:w'.output=w.output
 size:w.heap.size≤w'.heap.size
 block:∀k o,w.heap[k]?=some o→(k<B∨keptO E M k o=true)→w'.heap[k]?=some o
theorem FrE.refl (E:TypeId→Bool) (B:Nat) (M:List Nat) (w:World):FrE E B M w w:=⟨rfl,rfl,rfl,Nat.le_refl _,fun _ _ h _=>h⟩
theorem FrE.trans {E:TypeId→Bool}{B:Nat}{M:List Nat}{a b c:World}(h:FrE E B M a b) (k:FrE E B M b c):FrE E B M a c:=
 ⟨k.os.trans h.os,k.tape.trans h.tape,k.output.trans h.output,Nat.le_trans h.size k.size,fun i o ho hk=>k.block i o (h.block i o ho hk) hk⟩
theorem keptO_mono {E:TypeId→Bool}{M N:List Nat}(hs:∀k,k∈M→k∈N) {k:Nat}{o:Obj}(h:keptO E N k o=true):keptO E M k o=true:=by
 cases o with
 |cells cur t fz =>
  simp only [keptO,Bool.and_eq_true,Bool.or_eq_true,Bool.not_eq_true',List.contains_eq_mem,decide_eq_false_iff_not] at h ⊢
  exact ⟨h.1,h.2.imp id (fun h hm=>h (hs k hm))⟩
 |_=>rfl
theorem FrE.mono {E:TypeId→Bool}{B:Nat}{M N:List Nat}{w w':World}(h:FrE E B M w w') (hs:∀k,k∈M→k∈N):FrE E B N w w':=
 ⟨h.os,h.tape,h.output,h.size,fun k o ho hk=>h.block k o ho (hk.imp id (keptO_mono hs))⟩
theorem FrE.trans' {E:TypeId→Bool}{B:Nat}{M N:List Nat}{a b c:World}(h:FrE E B M a b) (k:FrE E B N b c) (hN:∀i,i∈N→i∈M∨a.heap.size≤i):FrE E B M a c:=
 ⟨k.os.trans h.os,k.tape.trans h.tape,k.output.trans h.output,Nat.le_trans h.size k.size,fun i o ho hk=>by
  refine k.block i o (h.block i o ho hk) (hk.imp id fun hm=>?_)
  have hi:i<a.heap.size:=(Array.getElem?_eq_some_iff.1 ho).1
  cases o with
  |cells cur t fz =>
   simp only [keptO,Bool.and_eq_true,Bool.or_eq_true,Bool.not_eq_true',List.contains_eq_mem,decide_eq_false_iff_not] at hm ⊢
   refine ⟨hm.1,hm.2.imp id fun h2 h3=>?_⟩
   rcases hN i h3 with h4|h4
   ·exact h2 h4
   ·omega
  |_=>rfl⟩
theorem FrE.of_below {E:TypeId→Bool}{B:Nat}{M:List Nat}{w w':World}(h:Below w.heap.size w w'):FrE E B M w w':=
 ⟨h.os,h.tape,h.output,h.size,fun k o ho _=>by rw [h.block k (Array.getElem?_eq_some_iff.1 ho).1];exact ho⟩
theorem FrE.below {E:TypeId→Bool}{B:Nat}{M:List Nat}{w w':World}(h:FrE E B M w w') (hB:B≤w.heap.size):Below B w w':=
 ⟨h.os,h.tape,h.output,h.size,fun k hk=>by
  have hk2:k<w.heap.size:=Nat.lt_of_lt_of_le hk hB
  rw [h.block k _ (Array.getElem?_eq_getElem hk2) (Or.inl hk),Array.getElem?_eq_getElem hk2]⟩
theorem FrE.alloc {E:TypeId→Bool}{B:Nat}{M:List Nat}{a w:World}(h:FrE E B M a w) (o:Obj):FrE E B M a (w.alloc o):=h.trans (FrE.of_below ((Below.refl _ _).alloc (Nat.le_refl _) o))
theorem FrE.drew {E:TypeId→Bool}{B:Nat}{M:List Nat}{a w:World}(h:FrE E B M a w):FrE E B M a w.drew:=⟨h.os,h.tape,h.output,h.size,h.block⟩
theorem FrE.drewN {E:TypeId→Bool}{B:Nat}{M:List Nat}{a w:World}(h:FrE E B M a w) (n:Nat):FrE E B M a (w.drewN n):=⟨h.os,h.tape,h.output,h.size,h.block⟩
def MayT (E:TypeId→Bool) (B:Nat) (M:List Nat) (w:World) (g:Nat):Prop:=B≤g∧∃cur t fz,w.heap[g]?=some (.cells cur t fz)∧(E t=true∨(rT t=true∧g∈M))
theorem MayT.not {E:TypeId→Bool}{B:Nat}{M:List Nat}{w:World}{g:Nat}(h:MayT E B M w g) {k:Nat}{o:Obj}(ho:w.heap[k]?=some o) (hk:k<B∨keptO E M k o=true):k≠g:=by
 rintro rfl
 obtain ⟨hB,cur,t,fz,hc,ht⟩:=h
 rw [ho] at hc
 injection hc with hc
 subst hc
 rcases hk with hk|hk
 ·omega
 ·simp only [keptO,Bool.and_eq_true,Bool.or_eq_true,Bool.not_eq_true',List.contains_eq_mem,decide_eq_false_iff_not] at hk
  rcases ht with ht|⟨ht,hm⟩
  ·rw [ht] at hk;cases hk.1
  ·rcases hk.2 with h2|h2
   ·rw [ht] at h2;cases h2
   ·exact h2 hm
theorem FrE.setCell {E:TypeId→Bool}{B:Nat}{M:List Nat}{a w:World}(h:FrE E B M a w) {p:Addr}(hp:MayT E B M w p.block) (u:Value):FrE E B M a (w.setCell p u):=
 h.trans ⟨rfl,rfl,rfl,by simp [World.setCell],fun k o ho hk=>by rw [heap_setCell_other w p k u (hp.not ho hk)];exact ho⟩
theorem FrE.grown {E:TypeId→Bool}{B:Nat}{M:List Nat}{a w w':World}{row:Option Nat}(h:FrE E B M a w) (hg:w.grownBy w' row) (hr:∀g,row=some g→MayT E B M w g):FrE E B M a w':=
 h.trans ⟨hg.os,hg.tape,hg.output,hg.size,fun k o ho hk=>by
  rw [hg.block k (Array.getElem?_eq_some_iff.1 ho).1 (fun e=>(hr k e.symm).not ho hk rfl)];exact ho⟩
theorem RowT.may {E:TypeId→Bool}{B:Nat}{M:List Nat}{w:World}{t g:Nat}{xs:List Value}(h:RowT w t g xs) (hB:B≤g) (ht:E t=true∨(rT t=true∧g∈M)):MayT E B M w g:=⟨hB,_,t,_,h,ht⟩
theorem RowT.fr {E:TypeId→Bool}{B:Nat}{M:List Nat}{w w':World}{t g:Nat}{xs:List Value}(h:RowT w t g xs) (hf:FrE E B M w w') (ht:E t=false) (hm:rT t=true→g∉M):RowT w' t g xs:=by
 unfold RowT at h ⊢
 refine hf.block g _ h (Or.inr ?_)
 simp only [keptO,Bool.and_eq_true,Bool.or_eq_true,Bool.not_eq_true',List.contains_eq_mem,decide_eq_false_iff_not,ht,true_and]
 cases hr:rT t with
 |false=>exact Or.inl rfl
 |true=>exact Or.inr (hm hr)
theorem StrV.frE {E:TypeId→Bool}{B C:Nat}{M:List Nat}{w w':World}{v:Value}{ss:List ByteArray}(h:StrV w C v ss) (hf:FrE E B M w w') (hE:E 9=false):StrV w' C v ss:=by
 rcases h with h|⟨b,off,cap,cur,h1,h2,h3,h4⟩
 ·exact Or.inl h
 ·exact Or.inr ⟨b,off,cap,cur,h1,h2,hf.block b _ h3 (Or.inr (by simp [keptO,hE,rT])),h4⟩
theorem ownsRow_fr {E:TypeId→Bool}{B C:Nat}{M:List Nat}{w w':World}{e size n:Nat}{v:Value}{xs:List Value}(h:w.ownsRow C e size v n xs) (hf:FrE E B M w w') (ht:E e=false) (hm:rT e=true→∀g,v.ownBlock=some g→g∉M):w'.ownsRow C e size v n xs:=by
 refine ⟨h.1,?_⟩
 rcases h.2 with hn|⟨g,cap,cur,rfl,hb,hgg,rest⟩
 ·exact .inl hn
 ·refine .inr ⟨g,cap,cur,rfl,hb,hf.block g _ hgg (Or.inr ?_),rest⟩
  simp only [keptO,Bool.and_eq_true,Bool.or_eq_true,Bool.not_eq_true',List.contains_eq_mem,decide_eq_false_iff_not,ht,true_and]
  cases hr:rT e with
  |false=>exact Or.inl rfl
  |true=>exact Or.inr (hm hr g rfl)
theorem own_row_ne {C:Nat}{w:World}{e size n t g:Nat}{v:Value}{xs ys:List Value}(h:w.ownsRow C e size v n xs) (hr:RowT w t g ys) (ht:e≠t):v.ownBlock≠some g:=by
 rcases h.2 with ⟨rfl,_⟩|⟨k,cap,cur,rfl,_,hk,_⟩
 ·intro h;cases h
 ·intro hh
  simp [Value.ownBlock] at hh
  subst hh
  unfold RowT at hr
  rw [hr] at hk
  injection hk with hk
  injection hk with _ hk
  exact ht hk.symm
theorem own_own_ne {C D:Nat}{w:World}{e f size m n k g:Nat}{v u:Value}{xs ys:List Value}(h:w.ownsRow C e size v n xs) (hr:w.ownsRow D f m u k ys) (ht:e≠f) (hg:u.ownBlock=some g):v.ownBlock≠some g:=by
 rcases h.2 with ⟨rfl,_⟩|⟨a,cap,cur,rfl,_,hk,_⟩
 ·intro h;cases h
 ·intro hh
  simp [Value.ownBlock] at hh
  subst hh
  rcases hr.2 with ⟨rfl,_⟩|⟨b,cap',cur',rfl,_,hk',_⟩
  ·cases hg
  ·simp [Value.ownBlock] at hg
   subst hg
   rw [hk] at hk'
   injection hk' with hk'
   injection hk' with _ hk'
   exact ht hk'
theorem own_may {E:TypeId→Bool}{B:Nat}{M:List Nat}{w:World}{e size n:Nat}{v:Value}{xs:List Value}(h:w.ownsRow B e size v n xs) (ht:∀g,v.ownBlock=some g→E e=true∨(rT e=true∧g∈M)):∀g,v.ownBlock=some g→MayT E B M w g:=by
 intro g hg
 rcases h.2 with ⟨rfl,_⟩|⟨k,cap,cur,rfl,hb,hk,_⟩
 ·cases hg
 ·simp [Value.ownBlock] at hg
  subst hg
  exact ⟨hb,cur,e,_,hk,ht k rfl⟩
theorem MaxAt.fr {E:TypeId→Bool}{B:Nat}{M:List Nat}{w w':World}(h:MaxAt w) (hf:FrE E B M w w') (hB:0<B):MaxAt w':=by
 obtain ⟨m,hm⟩:=h
 have hlt:=World.block_lt_of_cell? _ _ hm
 refine ⟨m,(World.cell?_of_block (a:=⟨0,0,none⟩) ?_).trans hm⟩
 rw [hf.block _ _ (Array.getElem?_eq_getElem hlt) (Or.inl hB),Array.getElem?_eq_getElem hlt]
abbrev Fr:=FrE eT
def noT (_:TypeId):Bool:=false
abbrev FrC:=FrE noT
theorem Fr.refl (B:Nat) (M:List Nat) (w:World):Fr B M w w:=FrE.refl _ _ _ _
theorem FrC.refl (B:Nat) (M:List Nat) (w:World):FrC B M w w:=FrE.refl _ _ _ _
theorem Fr.of_below {B:Nat}{M:List Nat}{w w':World}(h:Below w.heap.size w w'):Fr B M w w':=FrE.of_below h
theorem FrC.of_below {B:Nat}{M:List Nat}{w w':World}(h:Below w.heap.size w w'):FrC B M w w':=FrE.of_below h
theorem StrV.fr {B C:Nat}{M:List Nat}{w w':World}{v:Value}{ss:List ByteArray}(h:StrV w C v ss) (hf:Fr B M w w'):StrV w' C v ss:=h.frE hf rfl
theorem StrV.frc {B C:Nat}{M:List Nat}{w w':World}{v:Value}{ss:List ByteArray}(h:StrV w C v ss) (hf:FrC B M w w'):StrV w' C v ss:=h.frE hf rfl
theorem FrC.to {B:Nat}{M:List Nat}{w w':World}(h:FrC B M w w'):Fr B M w w':=
 ⟨h.os,h.tape,h.output,h.size,fun k o ho hk=>h.block k o ho (hk.imp id fun hm=>by
  cases o with
  |cells cur t fz =>
   simp only [keptO,Bool.and_eq_true] at hm ⊢
   exact ⟨rfl,hm.2⟩
  |_=>rfl)⟩
def keptQ (E R:TypeId→Bool) (M:List Nat) (k:Nat):Obj→Bool
 |.cells _ t _=>!E t&&(!R t || !M.contains k)
 |_=>true
structure FrQ (E R:TypeId→Bool) (B:Nat) (M:List Nat) (w w':World):Prop where
 os:w'.os=w.os
 tape:w'.tape=w.tape
 output:w'.output=w.output
 size:w.heap.size≤w'.heap.size
 block:∀k o,w.heap[k]?=some o→(k<B∨keptQ E R M k o=true)→w'.heap[k]?=some o
theorem FrQ.refl (E R:TypeId→Bool) (B:Nat) (M:List Nat) (w:World):FrQ E R B M w w:=⟨rfl,rfl,rfl,Nat.le_refl _,fun _ _ h _=>h⟩
theorem FrQ.trans {E R:TypeId→Bool}{B:Nat}{M:List Nat}{a b c:World}(h:FrQ E R B M a b) (k:FrQ E R B M b c):FrQ E R B M a c:=
 ⟨k.os.trans h.os,k.tape.trans h.tape,k.output.trans h.output,Nat.le_trans h.size k.size,fun i o ho hk=>k.block i o (h.block i o ho hk) hk⟩
theorem keptQ_mono {E R:TypeId→Bool}{M N:List Nat}(hs:∀k,k∈M→k∈N) {k:Nat}{o:Obj}(h:keptQ E R N k o=true):keptQ E R M k o=true:=by
 cases o with
 |cells cur t fz =>
  simp only [keptQ,Bool.and_eq_true,Bool.or_eq_true,Bool.not_eq_true',List.contains_eq_mem,decide_eq_false_iff_not] at h ⊢
  exact ⟨h.1,h.2.imp id (fun h hm=>h (hs k hm))⟩
 |_=>rfl
theorem FrQ.mono {E R:TypeId→Bool}{B:Nat}{M N:List Nat}{w w':World}(h:FrQ E R B M w w') (hs:∀k,k∈M→k∈N):FrQ E R B N w w':=
 ⟨h.os,h.tape,h.output,h.size,fun k o ho hk=>h.block k o ho (hk.imp id (keptQ_mono hs))⟩
theorem FrQ.trans' {E R:TypeId→Bool}{B:Nat}{M N:List Nat}{a b c:World}(h:FrQ E R B M a b) (k:FrQ E R B N b c) (hN:∀i,i∈N→i∈M∨a.heap.size≤i):FrQ E R B M a c:=
 ⟨k.os.trans h.os,k.tape.trans h.tape,k.output.trans h.output,Nat.le_trans h.size k.size,fun i o ho hk=>by
  refine k.block i o (h.block i o ho hk) (hk.imp id fun hm=>?_)
  have hi:i<a.heap.size:=(Array.getElem?_eq_some_iff.1 ho).1
  cases o with
  |cells cur t fz =>
   simp only [keptQ,Bool.and_eq_true,Bool.or_eq_true,Bool.not_eq_true',List.contains_eq_mem,decide_eq_false_iff_not] at hm ⊢
   refine ⟨hm.1,hm.2.imp id fun h2 h3=>?_⟩
   rcases hN i h3 with h4|h4
   ·exact h2 h4
   ·omega
  |_=>rfl⟩
theorem FrQ.of_below {E R:TypeId→Bool}{B:Nat}{M:List Nat}{w w':World}(h:Below w.heap.size w w'):FrQ E R B M w w':=
 ⟨h.os,h.tape,h.output,h.size,fun k o ho _=>by rw [h.block k (Array.getElem?_eq_some_iff.1 ho).1];exact ho⟩
theorem FrQ.below {E R:TypeId→Bool}{B:Nat}{M:List Nat}{w w':World}(h:FrQ E R B M w w') (hB:B≤w.heap.size):Below B w w':=
 ⟨h.os,h.tape,h.output,h.size,fun k hk=>by
  have hk2:k<w.heap.size:=Nat.lt_of_lt_of_le hk hB
  rw [h.block k _ (Array.getElem?_eq_getElem hk2) (Or.inl hk),Array.getElem?_eq_getElem hk2]⟩
def MayQ (E R:TypeId→Bool) (B:Nat) (M:List Nat) (w:World) (g:Nat):Prop:=B≤g∧∃cur t fz,w.heap[g]?=some (.cells cur t fz)∧(E t=true∨(R t=true∧g∈M))
theorem MayQ.not {E R:TypeId→Bool}{B:Nat}{M:List Nat}{w:World}{g:Nat}(h:MayQ E R B M w g) {k:Nat}{o:Obj}(ho:w.heap[k]?=some o) (hk:k<B∨keptQ E R M k o=true):k≠g:=by
 rintro rfl
 obtain ⟨hB,cur,t,fz,hc,ht⟩:=h
 rw [ho] at hc
 injection hc with hc
 subst hc
 rcases hk with hk|hk
 ·omega
 ·simp only [keptQ,Bool.and_eq_true,Bool.or_eq_true,Bool.not_eq_true',List.contains_eq_mem,decide_eq_false_iff_not] at hk
  rcases ht with ht|⟨ht,hm⟩
  ·rw [ht] at hk;cases hk.1
  ·rcases hk.2 with h2|h2
   ·rw [ht] at h2;cases h2
   ·exact h2 hm
theorem FrQ.setCell {E R:TypeId→Bool}{B:Nat}{M:List Nat}{a w:World}(h:FrQ E R B M a w) {p:Addr}(hp:MayQ E R B M w p.block) (u:Value):FrQ E R B M a (w.setCell p u):=
 h.trans ⟨rfl,rfl,rfl,by simp [World.setCell],fun k o ho hk=>by rw [heap_setCell_other w p k u (hp.not ho hk)];exact ho⟩
theorem FrQ.grown {E R:TypeId→Bool}{B:Nat}{M:List Nat}{a w w':World}{row:Option Nat}(h:FrQ E R B M a w) (hg:w.grownBy w' row) (hr:∀g,row=some g→MayQ E R B M w g):FrQ E R B M a w':=
 h.trans ⟨hg.os,hg.tape,hg.output,hg.size,fun k o ho hk=>by
  rw [hg.block k (Array.getElem?_eq_some_iff.1 ho).1 (fun e=>(hr k e.symm).not ho hk rfl)];exact ho⟩
theorem RowT.mayQ {E R:TypeId→Bool}{B:Nat}{M:List Nat}{w:World}{t g:Nat}{xs:List Value}(h:RowT w t g xs) (hB:B≤g) (ht:E t=true∨(R t=true∧g∈M)):MayQ E R B M w g:=⟨hB,_,t,_,h,ht⟩
theorem RowT.frQ {E R:TypeId→Bool}{B:Nat}{M:List Nat}{w w':World}{t g:Nat}{xs:List Value}(h:RowT w t g xs) (hf:FrQ E R B M w w') (ht:E t=false) (hm:R t=true→g∉M):RowT w' t g xs:=by
 unfold RowT at h ⊢
 refine hf.block g _ h (Or.inr ?_)
 simp only [keptQ,Bool.and_eq_true,Bool.or_eq_true,Bool.not_eq_true',List.contains_eq_mem,decide_eq_false_iff_not,ht,true_and]
 cases hr:R t with
 |false=>exact Or.inl rfl
 |true=>exact Or.inr (hm hr)
theorem StrV.frG {E R:TypeId→Bool}{B C:Nat}{M:List Nat}{w w':World}{v:Value}{ss:List ByteArray}(h:StrV w C v ss) (hf:FrQ E R B M w w') (hE:E 9=false) (hR:R 9=false):StrV w' C v ss:=by
 rcases h with h|⟨b,off,cap,cur,h1,h2,h3,h4⟩
 ·exact Or.inl h
 ·exact Or.inr ⟨b,off,cap,cur,h1,h2,hf.block b _ h3 (Or.inr (by simp [keptQ,hE,hR])),h4⟩
theorem ownsRow_frQ {E R:TypeId→Bool}{B C:Nat}{M:List Nat}{w w':World}{e size n:Nat}{v:Value}{xs:List Value}(h:w.ownsRow C e size v n xs) (hf:FrQ E R B M w w') (ht:E e=false) (hm:R e=true→∀g,v.ownBlock=some g→g∉M):w'.ownsRow C e size v n xs:=by
 refine ⟨h.1,?_⟩
 rcases h.2 with hn|⟨g,cap,cur,rfl,hb,hgg,rest⟩
 ·exact .inl hn
 ·refine .inr ⟨g,cap,cur,rfl,hb,hf.block g _ hgg (Or.inr ?_),rest⟩
  simp only [keptQ,Bool.and_eq_true,Bool.or_eq_true,Bool.not_eq_true',List.contains_eq_mem,decide_eq_false_iff_not,ht,true_and]
  cases hr:R e with
  |false=>exact Or.inl rfl
  |true=>exact Or.inr (hm hr g rfl)
theorem own_mayQ {E R:TypeId→Bool}{B:Nat}{M:List Nat}{w:World}{e size n:Nat}{v:Value}{xs:List Value}(h:w.ownsRow B e size v n xs) (ht:∀g,v.ownBlock=some g→E e=true∨(R e=true∧g∈M)):∀g,v.ownBlock=some g→MayQ E R B M w g:=by
 intro g hg
 rcases h.2 with ⟨rfl,_⟩|⟨k,cap,cur,rfl,hb,hk,_⟩
 ·cases hg
 ·simp [Value.ownBlock] at hg
  subst hg
  exact ⟨hb,cur,e,_,hk,ht k rfl⟩
def eQ (t:TypeId):Bool:=t==93 || t==127 || t==40 || t==38
def rQ (t:TypeId):Bool:=t==130 || t==190 || t==192
abbrev Fq:=FrQ eQ rQ
theorem StrV.fq {B C:Nat}{M:List Nat}{w w':World}{v:Value}{ss:List ByteArray}(h:StrV w C v ss) (hf:Fq B M w w'):StrV w' C v ss:=h.frG hf rfl rfl
theorem Fq.refl (B:Nat) (M:List Nat) (w:World):Fq B M w w:=FrQ.refl _ _ _ _ _
theorem Fq.of_below {B:Nat}{M:List Nat}{w w':World}(h:Below w.heap.size w w'):Fq B M w w':=FrQ.of_below h
section
open Go
theorem zeroCells_one (z:Value) (m:Nat):(Builtin.zeroCells #[z] m).toList=List.replicate m z:=by
 unfold Builtin.zeroCells
 rw [Array.toList_map,Array.toList_range]
 apply List.ext_getElem
 ·simp
 ·intro i h1 h2
  simp [Nat.mod_one]
section
variable {P:Program} (w:World)
theorem run_append_zeros (base:Nat) (t k ty e:TypeId) (i:TypeInfo) (z:Value) (ht:P.underlying t=some (.slice e)) (hk:P.underlying k=some (.int .i64)) (hi:P.info? e=some i) (hz:i.zero=some z) (hsize:i.size=1) (hby:i.bytes=1) (hzc:z.cells=#[z]) (hz1:z.oneCell'=true)
  (v:Value) (n:Nat) (xs:List Value) (hown:w.ownsRow base e 1 v n xs) (m:Nat) (hm:m≤1000000) (hn:n≤1000000) (hbase:base≤w.heap.size) :
  ∃v' w',(Builtin.append_ #[t,k] ty #[v,.int .i64 (m:Nat)]).run P w=.ok v' w'∧w'.ownsRow base e 1 v' (n+m) (xs++List.replicate m z)∧w.grownBy w' v.ownBlock:=by
 have h63:n+m≤maxLen:=by simp only [maxLen];omega
 have hmod:(m:Int)%18446744073709551616=m:=by omega
 have hwrap:IntKind.i64.wrap ((m:Nat):Int)=(m:Int):=by
  simp [IntKind.wrap,IntKind.bits,IntKind.signed,hmod]
  omega
 have hw0:IntKind.i64.wrap 0=0:=by decide
 have hlen:(xs++List.replicate m z).length=(n+m)*1:=by rw [List.length_append,hown.1,List.length_replicate];omega
 have h0:¬((m:Int)<0):=by omega
 have hb0:¬((281474976710656:Int)<(m:Int)):=by omega
 have hzr:∀q,Builtin.zeroCells z.cells q=(List.replicate q z).toArray:=fun q=>by
  apply Array.ext'
  rw [hzc,zeroCells_one]
 have grown:∀(old:Nat),old<n+m→∀(row:Option Nat),
   (w.drew.alloc (.cells (xs.toArray++(List.replicate m z).toArray++Builtin.zeroCells z.cells (grownCap w (n+m) old e-(n+m))) e)).ownsRow base e 1
    (.slice (some ⟨w.heap.size,0,none⟩) (n+m) (grownCap w (n+m) old e)) (n+m) (xs++List.replicate m z) ∧
   w.grownBy (w.drew.alloc (.cells (xs.toArray++(List.replicate m z).toArray++Builtin.zeroCells z.cells (grownCap w (n+m) old e-(n+m))) e)) row:=by
  intro old ho row
  have hge:=grownCap_ge w (n+m) old e
  have hcm:grownCap w (n+m) old e≤maxLen:=grownCap_le_maxLen w (n+m) old e h63
  refine ⟨⟨hlen,.inr ⟨w.heap.size,_,_,rfl,hbase,heap_alloc_new w.drew _,hge,hcm,?_,?_⟩⟩,⟨rfl,rfl,rfl,by simp,fun q hq _=>heap_alloc_old w.drew _ hq⟩⟩
  ·rw [hzr]
   simp only [Array.size_append,List.size_toArray,List.length_replicate,hown.1]
   omega
  ·simp only [Array.toList_append,List.append_assoc]
   rw [←List.append_assoc,←hlen]
   exact List.take_left
 rcases hown.2 with ⟨rfl,rfl⟩|⟨g,cap,cur,rfl,hbg,hg,hnc,hcm,hcs,htake⟩
 ·have hx:xs=[]:=List.eq_nil_of_length_eq_zero (by simpa using hown.1)
  subst hx
  by_cases hm0:m=0
  ·subst hm0
   refine ⟨.slice none 0 0,w,?_,World.ownsRow_nil w base e 1,⟨rfl,rfl,rfl,Nat.le_refl _,fun _ _ _=>rfl⟩⟩
   simp [Builtin.append_,run_underlying ht,run_underlying hk,sizeOf,typeInfo,hi,asInt,asIntOf,hw0]
  ·have h48':¬(281474976710656<Builtin.nextslicecap m 0):=by rw [nextslicecap_zero (by omega)];omega
   have h63':¬(9223372036854775807<(m:Int)):=by omega
   have hgr:=grown 0 (by omega) (Value.ownBlock (.slice none 0 0))
   simp only [Nat.zero_add,List.nil_append,Array.empty_append] at hgr ⊢
   refine ⟨_,_,?_,hgr.1,hgr.2⟩
   simp [Builtin.append_,run_underlying ht,run_underlying hk,sizeOf,typeInfo,zeroValue,hi,hz,hsize,hby,asInt,asIntOf,hwrap,h0,hb0,hm0,h63',h48',Question.forced,run_firstCells_none,newRow,grownCap,hzr]
 ·by_cases hroom:n+m≤cap
  ·have hfit:n*1+(List.replicate m z).length≤cur.size:=by rw [List.length_replicate,hcs];omega
   have hst:=run_storeCells_at P g (n*1) e (List.replicate m z) 0 cur w hg (by simpa using hfit) (fun u hu=>by rw [List.eq_of_mem_replicate hu];exact hz1)
   simp only [Nat.add_zero] at hst
   refine ⟨.slice (some ⟨g,0,none⟩) (n+m) cap,w.setRow g (cur.toList.take (n*1)++List.replicate m z++cur.toList.drop (n*1+(List.replicate m z).length)).toArray,?_,⟨hlen,.inr ⟨g,cap,_,rfl,hbg,setRow_heap w g cur _ e _ hg,hroom,hcm,?_,?_⟩⟩,⟨rfl,rfl,rfl,by simp,fun q _ hq=>setRow_other w g q _ (fun e=>hq (by simp [Value.ownBlock,e]))⟩⟩
   ·by_cases hm0:m=0
    ·subst hm0
     have hst2:Sem.run P (storeCells ⟨g,n,none⟩ []) w=Result.ok () (w.setRow g cur):=by simpa using hst
     simp [Builtin.append_,run_underlying ht,run_underlying hk,sizeOf,typeInfo,hi,hsize,asInt,asIntOf,hw0,Addr.add_lit,hnc,hst2]
    ·simp [Builtin.append_,run_underlying ht,run_underlying hk,sizeOf,typeInfo,zeroValue,hi,hz,hsize,hby,asInt,asIntOf,hwrap,h0,hb0,hm0,hroom,Addr.add_lit,hzr]
     have hst2:Sem.run P (storeCells ⟨g,n,none⟩ (List.replicate m z)) w=Result.ok () (w.setRow g (List.take n cur.toList++(List.replicate m z++List.drop (n+m) cur.toList)).toArray):=by simpa using hst
     rw [hst2]
     rfl
   ·simp only [List.size_toArray,List.length_append,List.length_take,List.length_drop,Array.length_toList]
    omega
   ·rw [htake,←hlen]
    exact List.take_left
  ·have holds:∀j u,xs[j]?=some u→w.cell? ((⟨g,0,none⟩:Addr).add j)=some u:=hown.cells (g:=g) rfl
   have hgr:=grown cap (by omega) (Value.ownBlock (.slice (some ⟨g,0,none⟩) n cap))
   have hfo:=run_firstCells_some (P:=P) w.drew 1 n ⟨g,0,none⟩ n cap xs (by rw [hown.1]) (by simpa using holds)
   have hm0:¬m=0:=by omega
   have h48':¬(281474976710656<Builtin.nextslicecap (n+m) cap*i.bytes):=by
    have:=growslice_fits (need:=n+m) (old:=cap) (bytes:=i.bytes) (by omega) (by rw [hby];omega)
    omega
   rw [hby,Nat.mul_one] at h48'
   have h63':¬(9223372036854775807<((n:Int)+(m:Int))):=by omega
   refine ⟨_,_,?_,hgr.1,hgr.2⟩
   simp [Builtin.append_,run_underlying ht,run_underlying hk,sizeOf,typeInfo,zeroValue,hi,hz,hsize,hby,asInt,asIntOf,hwrap,h0,hb0,hm0,hroom,h63',h48',Question.forced,hfo,newRow,grownCap,hzr]
theorem step_append_zeros {ops:Array Oper}{o:Oper}{a:Act}{K:Act→World→Prop}{Q:Exit→Act→World→Prop}{E:Prop}(hgd:o.guard=none) (s x:Operand) (t k:TypeId)
  (ho:o.op=.call { callee:=.builtin .append,args:=#[s,x],argTypes:=#[t,k] })
  (base:Nat) (e:TypeId) (i:TypeInfo) (z:Value) (ht:P.underlying t=some (.slice e)) (hk:P.underlying k=some (.int .i64)) (hi:P.info? e=some i) (hz:i.zero=some z) (hsize:i.size=1) (hby:i.bytes=1) (hzc:z.cells=#[z]) (hz1:z.oneCell'=true)
  (v:Value) (n:Nat) (xs:List Value) (hs:a.eval s=v) (hown:w.ownsRow base e 1 v n xs) (m:Nat) (hx:a.eval x=.int .i64 (m:Nat)) (hm:m≤1000000) (hn:n≤1000000) (hbase:base≤w.heap.size)
  (h:∀v' w',w'.ownsRow base e 1 v' (n+m) (xs++List.replicate m z)→w.grownBy w' v.ownBlock→K (a.put o.dst v') w') :
  if Region.wanted o (yielded ops a.tmps)=true then Oper.wp P o a w K Q else E:=by
 have hw:Region.wanted o (yielded ops a.tmps)=true:=by simp [Region.wanted,hgd]
 rw [if_pos hw]
 obtain ⟨v',w',hr,h2,h3⟩:=run_append_zeros (P:=P) w base t k o.type e i z ht hk hi hz hsize hby hzc hz1 v n xs hown m hm hn hbase
 unfold Oper.wp execOp
 simp only [ho,resolve,invoke,builtin,Sem.run_bind,Sem.run_pure,Result.andThen_ok,List.map_toArray,List.map_cons,List.map_nil,hs,hx,hr]
 exact h v' w' h2 h3
end
end
end Go.Proofs.YtcepppilgncdmaaGreatDoor
