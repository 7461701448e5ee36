/-
  Joined: AnyLast.
-/
import Derived.OrdersHeld
import Derived.Test.YtcepppilgncdmaaGreatDoorBX04
namespace Go.Proofs.YtcepppilgncdmaaGreatDoor
open Go.RowKit
section
variable {P:Program} {Q:Exit→Act→World→Prop}
def lastQ (P:Program) (o:Oper) (Q:Exit→Act→World→Prop):Exit→Act→World→Prop
 |.normal,a,w=>o.wp P a w (fun a' w'=>Q .normal a' w') Q
 |x,a,w=>Q x a w
theorem lastQ_out {o:Oper}(h:LetsOut (lastQ P o Q)):LetsOut Q:=h
theorem wp_lastQ {o x:Oper}{a:Act}{w:World}{K:Act→World→Prop}(h:x.wp P a w K (lastQ P o Q)):x.wp P a w K Q:=by
 unfold Oper.wp at h ⊢
 cases hr:(execOp a.eval x).run P w with
 |ok n w' =>
  rw [hr] at h
  cases n with
  |value v=>exact h
  |skip=>exact h
  |defer d=>exact h
  |enter f args =>
   refine Calls.mono h fun e w'' he=>?_
   cases e with
   |returned v=>exact he
   |panicked c=>exact he
   |outgrown=>exact lastQ_out he
  |row r args=>exact h
  |_=>exact h
 |halt x' w' =>
  rw [hr] at h
  cases x' with
  |panic v=>exact h
  |_=>exact h
def lastB (l:List Oper) (o:Oper):Bool:=
 l.all (fun x=>x.guard.isNone)&&o.guard.isNone&&(l.zipIdx.all fun p=>p.1.after.all fun e=>decide (e.on<p.2))&&((List.range l.length).all fun i=>o.after.any fun e=>Region.binds .any e&&e.on==i)&&o.after.all (fun e=>decide (e.on<l.length))
theorem lastB_spec {l:List Oper}{o:Oper}(h:lastB l o=true):(∀x∈l,x.guard=none)∧o.guard=none∧(∀(i:Nat) x,l[i]?=some x→∀e∈x.after,e.on<i)∧(∀i,i<l.length→∃e∈o.after,Region.binds .any e=true∧e.on=i)∧∀e∈o.after,e.on<l.length:=by
 unfold lastB at h
 simp only [Bool.and_eq_true] at h
 obtain ⟨⟨⟨⟨h1,h2⟩,h3⟩,h4⟩,h5⟩:=h
 refine ⟨fun x hx=>by simpa using List.all_eq_true.1 h1 x hx,by simpa using h2,fun i x hi e he=>?_,fun i hi=>?_,fun e he=>by simpa using Array.all_eq_true_iff_forall_mem.1 h5 e he⟩
 ·have hm:(x,i)∈l.zipIdx:=by rw [List.mem_zipIdx_iff_getElem?];exact hi
  have:=Array.all_eq_true_iff_forall_mem.1 (List.all_eq_true.1 h3 _ hm) e he
  simpa using this
 ·have:=List.all_eq_true.1 h4 i (List.mem_range.2 hi)
  obtain ⟨e,he,hx⟩:=Array.any_eq_true'.1 this
  rw [Bool.and_eq_true] at hx
  exact ⟨e,he,hx.1,by simpa using hx.2⟩
theorem all_listed {l:List Oper}{listed:Array Bool}(hs:listed.size=l.length) (hord:∀(i:Nat) x,l[i]?=some x→∀e∈x.after,e.on<i) (hr:Region.ready .any l.toArray listed=[]):∀i,i<l.length→listed.getD i false=true:=by
 intro i
 induction i using Nat.strongRecOn with
 |ind i ih =>
  intro hi
  cases hl:listed.getD i false with
  |true=>rfl
  |false =>
   have hm:i∈Region.ready .any l.toArray listed:=by
    refine mem_ready.2 ⟨?_,l[i],by simp [hi],fun e he hb=>?_⟩
    ·have hlt:i<listed.size:=by rw [hs];exact hi
     simp [hlt] at hl ⊢
     exact hl
    ·have hlt:=hord i l[i] (by simp [hi]) e he
     exact ih e.on hlt (Nat.lt_trans hlt hi)
   rw [hr] at hm
   cases hm
theorem wpOp_pop {l:List Oper}{o:Oper}{i:Nat}{K K':Act→World→Prop}{a:Act}{w:World}(hi:i<l.length) (hg:∀x∈l,x.guard=none) (hK:∀a w,K a w→K' a w) (h:wpOp P l.toArray (lastQ P o Q) i K a w):wpOp P (l++[o]).toArray Q i K' a w:=by
 have e1:l.toArray[i]?=some l[i]:=by simp [hi]
 have e2:(l++[o]).toArray[i]?=some l[i]:=by simp [List.getElem?_append_left hi,hi]
 have hgi:=hg l[i] (List.getElem_mem hi)
 unfold wpOp at h ⊢
 rw [e1] at h
 rw [e2]
 simp only [Region.wanted,hgi,if_true] at h ⊢
 rcases h with h|⟨h1,h2⟩
 ·exact Or.inl (Oper.wp_mono hK (wp_lastQ h))
 ·exact Or.inr ⟨h1,lastQ_out h2⟩
theorem wpAny_last {l:List Oper}{o:Oper}(hB:lastB l o=true):∀(fuel:Nat) (listed:Array Bool) (a:Act) (w:World),listed.size=l.length→wpAny P .any l.toArray (lastQ P o Q) fuel listed a w→wpAny P .any (l++[o]).toArray Q (fuel+1) (listed.push false) a w:=by
 obtain ⟨hg,hgo,hord,hlast,hedge⟩:=lastB_spec hB
 have hlk:(l++[o]).toArray[l.length]?=some o:=by simp
 have hrd:∀(listed:Array Bool) i,listed.size=l.length→i∈Region.ready .any (l++[o]).toArray (listed.push false)→(i<l.length∧i∈Region.ready .any l.toArray listed)∨(i=l.length∧∀j,j<l.length→listed.getD j false=true):=by
  intro listed i hs hi
  obtain ⟨h0,x,hx,haft⟩:=mem_ready.1 hi
  have hilt:i<l.length+1:=by have:=(Array.getElem?_eq_some_iff.1 hx).1;simpa using this
  have hpush:∀(j:Nat) (b:Bool),j<l.length→(listed.push false).getD j b=listed.getD j b:=fun j b hj=>by
   have:j<listed.size:=by omega
   simp [Array.getElem_push_lt,this,Nat.lt_succ_of_lt this]
  by_cases hl:i<l.length
  ·refine Or.inl ⟨hl,mem_ready.2 ⟨by rw [←hpush i true hl];exact h0,l[i],by simp [hl],fun e he hb=>?_⟩⟩
   have hxi:x=l[i]:=by
    have:(l++[o]).toArray[i]?=some l[i]:=by simp [List.getElem?_append_left hl,hl]
    rw [hx] at this
    exact Option.some.inj this
   have hlt:=hord i l[i] (by simp [hl]) e he
   rw [←hpush e.on false (by omega)]
   exact haft e (by rw [hxi];exact he) hb
  ·have hie:i=l.length:=by omega
   subst hie
   have hxo:x=o:=by rw [hlk] at hx;exact (Option.some.inj hx).symm
   refine Or.inr ⟨rfl,fun j hj=>?_⟩
   obtain ⟨e,he,hb,hon⟩:=hlast j hj
   have:=haft e (by rw [hxo];exact he) hb
   rw [hon,hpush j false hj] at this
   exact this
 have hpush:∀(listed:Array Bool) (j:Nat) (b:Bool),listed.size=l.length→j<l.length→(listed.push false).getD j b=listed.getD j b:=fun listed j b hs hj=>by
  have:j<listed.size:=by omega
  simp [Array.getElem_push_lt,this,Nat.lt_succ_of_lt this]
 have hlastr:∀(listed:Array Bool),listed.size=l.length→(listed.push false).getD l.length true=false:=fun listed hs=>by
  rw [←hs]
  simp
 have hnot:∀(listed:Array Bool),listed.size=l.length→Region.ready .any (l++[o]).toArray (listed.push false)≠[]:=by
  intro listed hs hr
  by_cases h0:Region.ready .any l.toArray listed=[]
  ·have hall:=all_listed hs hord h0
   have hm:l.length∈Region.ready .any (l++[o]).toArray (listed.push false):=mem_ready.2 ⟨hlastr listed hs,o,hlk,fun e he _=>by rw [hpush listed e.on false hs (hedge e he)];exact hall e.on (hedge e he)⟩
   rw [hr] at hm
   cases hm
  ·obtain ⟨i,hi⟩:=List.exists_mem_of_ne_nil _ h0
   obtain ⟨q0,x,hx,haft⟩:=mem_ready.1 hi
   have hil:i<l.length:=by have:=(Array.getElem?_eq_some_iff.1 hx).1;simpa using this
   have hxi:l[i]?=some x:=by simpa using hx
   have hm:i∈Region.ready .any (l++[o]).toArray (listed.push false):=by
    refine mem_ready.2 ⟨by rw [hpush listed i true hs hil];exact q0,x,by simp [List.getElem?_append_left hil,hxi],fun e he hb=>?_⟩
    have hlt:=hord i x hxi e he
    rw [hpush listed e.on false hs (by omega)]
    exact haft e he hb
   rw [hr] at hm
   cases hm
 have hlastq:∀(fuel:Nat) (listed:Array Bool) (a:Act) (w:World),listed.size=l.length→(∀j,j<l.length→listed.getD j false=true)→lastQ P o Q .normal a w→wpOp P (l++[o]).toArray Q l.length (wpAny P .any (l++[o]).toArray Q fuel ((listed.push false).setIfInBounds l.length true)) a w:=by
  intro fuel listed a w hs hall h
  unfold wpOp
  rw [hlk]
  simp only [Region.wanted,hgo,if_true]
  refine Or.inl (Oper.wp_mono (fun a' w' hq=>?_) h)
  have hr0:Region.ready .any (l++[o]).toArray ((listed.push false).setIfInBounds l.length true)=[]:=by
   apply List.eq_nil_iff_forall_not_mem.2
   intro i hi
   obtain ⟨h0,x,hx,_⟩:=mem_ready.1 hi
   have hilt:i<l.length+1:=by have:=(Array.getElem?_eq_some_iff.1 hx).1;simpa using this
   by_cases hl:i<l.length
   ·have h1:=hall i hl
    have hlt:i<listed.size:=by omega
    rw [getD_set_ne true (show l.length≠i by omega)] at h0
    simp [Array.getElem_push_lt,hlt,Nat.lt_succ_of_lt hlt] at h0 h1
    rw [h0] at h1
    cases h1
   ·have hie:i=l.length:=by omega
    subst hie
    simp [hs] at h0
  cases fuel with
  |zero=>exact ⟨hr0,hq⟩
  |succ n=>exact ⟨fun _=>hq,by rw [hr0];simp⟩
 intro fuel
 induction fuel with
 |zero =>
  intro listed a w hs h
  obtain ⟨h1,h2⟩:=h
  have hall:=all_listed hs hord h1
  refine ⟨fun hr=>absurd hr (hnot listed hs),fun i hi=>?_⟩
  ·rcases hrd listed i hs hi with ⟨_,h3⟩|⟨rfl,_⟩
   ·rw [h1] at h3;cases h3
   ·exact hlastq 0 listed a w hs hall h2
 |succ fuel ih =>
  intro listed a w hs h
  obtain ⟨h1,h2⟩:=h
  refine ⟨fun hr=>absurd hr (hnot listed hs),fun i hi=>?_⟩
  ·rcases hrd listed i hs hi with ⟨hl,h3⟩|⟨rfl,hall⟩
   ·refine wpOp_pop hl hg (fun a' w' hk=>?_) (h2 i h3)
    have:=ih (listed.setIfInBounds i true) a' w' (by simpa using hs) hk
    have he:(listed.push false).setIfInBounds i true=(listed.setIfInBounds i true).push false:=by
     have hi':i<listed.toList.length:=by simp;omega
     apply Array.ext'
     simp only [Array.toList_setIfInBounds,Array.toList_push]
     exact List.set_append_left _ _ hi'
    rw [he]
    exact this
   ·have hr0:Region.ready .any l.toArray listed=[]:=by
     apply List.eq_nil_iff_forall_not_mem.2
     intro i hi
     obtain ⟨h0,x,hx,_⟩:=mem_ready.1 hi
     have hil:i<l.length:=by have:=(Array.getElem?_eq_some_iff.1 hx).1;simpa using this
     have h9:=hall i hil
     have hlt:i<listed.size:=by omega
     simp [hlt] at h0 h9
     rw [h0] at h9
     cases h9
    exact hlastq (fuel+1) listed a w hs hall (h1 hr0)
theorem wp_region_last {id:Nat}{l:List Oper}{a:Act}{w:World}(hm:P.follows .mixedOrders=true) (l':List Oper) (o:Oper) (hl:l=l'++[o]) (hB:lastB l' o=true)
  (h:wpAny P .any l'.toArray (lastQ P o Q) l'.length (Array.replicate l'.length false) a { w with drawn:=w.drawn+1 }):(Code.region id l.toArray true).wp P Q a w:=by
 subst hl
 refine wp_region_any hm ?_
 have h1:=wpAny_last hB l'.length (Array.replicate l'.length false) a { w with drawn:=w.drawn+1 } (by simp) h
 have h2:(Array.replicate l'.length false).push false=Array.replicate (l'++[o]).toArray.size false:=by
  apply Array.ext'
  simp only [Array.toList_push,Array.toList_replicate,List.size_toArray,List.length_append,List.length_cons,List.length_nil,Nat.zero_add]
  rw [List.replicate_succ']
 rw [h2] at h1
 simpa using h1
theorem wp_region_lastN {id n:Nat}{l:List Oper}{a:Act}{w:World}{S:World→Prop}(hm:P.follows .mixedOrders=true) {o:Oper}(_ho:l[n]?=some o) (hl:l=l.dropLast++[o]) (hB:lastB l.dropLast o=true)
  (h:wpAnyH P .any l.dropLast.toArray (lastQ P o Q) S l.dropLast.length (Array.replicate l.dropLast.length false) a w.drew):(Code.region id l.toArray true).wp P Q a w:=
 wp_region_last hm l.dropLast o hl hB (wpAny_of_held _ _ _ _ h)
theorem takeD {ops:Array Oper}{S:World→Prop}{i:Nat}{oi:Oper}{v:Value}{fuel:Nat}{listed:Array Bool}{a:Act}{w:World}(d:Nat) (hi:ops[i]?=some oi) (hd:oi.dst=some d)
  (hs:Region.noSelect ops=true) (hf:Region.free .any ops listed i=true) (hr:(Region.ready .any ops listed).contains i=true)
  (hQ:∀c a w,Q (.panic c) (a.put oi.dst v) w→Q (.panic c) a w) (hy:YieldsIf P ops S oi v a) (hS:S w)
  (h:wpAnyH P .any ops Q S fuel (listed.setIfInBounds i true) (a.put (some d) v) w):wpAnyH P .any ops Q S (fuel+1) listed a w:=
 wpAnyH_take hi hs hf hr hQ hy hS (by rw [hd];exact h)
theorem takeOne {ops:Array Oper}{S:World→Prop}{i:Nat}{oi:Oper}{fuel:Nat}{listed:Array Bool}{a:Act}{w:World}(hr:Region.ready .any ops listed=[i]) (hi:ops[i]?=some oi) (hg:oi.guard=none)
  (h:oi.wp P a w (fun a' w'=>S w'∧wpAnyH P .any ops Q S fuel (listed.setIfInBounds i true) a' w') Q):wpAnyH P .any ops Q S (fuel+1) listed a w:=by
 refine wpAnyH_all hr (by simp) fun k hk=>?_
 rw [List.mem_singleton] at hk
 subst hk
 unfold wpOp
 rw [hi]
 simp only [Region.wanted,hg,if_true]
 exact Or.inl h
theorem wp_run {o:Oper}{a:Act}{w w':World}{v:Value}{d:Nat}{K:Act→World→Prop}(hrun:(execOp a.eval o).run P w=.ok (.value v) w') (hd:o.dst=some d) (h:K (a.put (some d) v) w'):o.wp P a w K Q:=by
 unfold Oper.wp
 rw [hrun,Oper.upon_value,hd]
 exact h
theorem wp_skip {o:Oper}{a:Act}{w w':World}{K:Act→World→Prop}(hrun:(execOp a.eval o).run P w=.ok .skip w') (hd:o.dst=none) (h:K a w'):o.wp P a w K Q:=by
 unfold Oper.wp
 rw [hrun,Oper.upon_skip,hd]
 exact h
end
end Go.Proofs.YtcepppilgncdmaaGreatDoor
