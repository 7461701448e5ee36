/-
  Joined: Lent Whole.
-/
import Derived.BigQuiet
import Derived.Deep.CutBlock
import Derived.Deep.DeepCutAuto
import Derived.Laws.CopyOwn
import Derived.Test.YtcepppilgncdmaaGreatDoorBX02
namespace Go.Proofs.YtcepppilgncdmaaGreatDoor
open Go.RowKit
theorem run_copy_wide (P:Program) (w:World) (dT sT ty elem:TypeId) (g o dLen dCap:Nat) (a:Addr) (sLen sCap size:Nat) (cur:Array Value) (t:TypeId) (cs:List Value)
  (hu:P.underlying dT=some (.slice elem)) (hs:(P.info? elem).map (·.size)=some size)
  (hg:w.heap[g]?=some (.cells cur t (0,0))) (hn:cs.length=Nat.min sLen dLen*size)
  (hsrc:∀j v,cs[j]?=some v→w.cell? (a.add j)=some v) (hfit:o+cs.length≤cur.size) (h1:∀v∈cs,v.oneCell'=true) :
  (Builtin.copy_ #[dT,sT] ty #[.slice (some ⟨g,o,none⟩) dLen dCap,.slice (some a) sLen sCap]).run P w =
   .ok (goInt (Nat.min sLen dLen)) (w.setRow g (cur.toList.take o++cs++cur.toList.drop (o+cs.length)).toArray):=by
 have hl:=run_loadCells_list (P:=P) w a cs hsrc
 have hst:=run_storeCells_at P g o t cs 0 cur w hg (by simpa using hfit) h1
 cases hq:P.info? elem with
 |none=>simp [hq] at hs
 |some i =>
  have hi:i.size=size:=by simpa [hq] using hs
  simp [Builtin.copy_,run_underlying hu,Builtin.lenOf,Builtin.firstCells,sizeOf,typeInfo,hq,hi,←hn,hl,hst]
theorem wpList_copy_wide {P:Program}{w:World}{ops:Array Oper}{rest:List Oper}{o:Oper}{a:Act}{Q:Exit→Act→World→Prop}(hgd:o.guard=none) (d s:Operand) (dT sT:TypeId)
  (ho:o.op=.call { callee:=.builtin .copy,args:=#[d,s],argTypes:=#[dT,sT] }) (elem:TypeId) (hu:P.underlying dT=some (.slice elem)) (size:Nat) (hsz:(P.info? elem).map (·.size)=some size)
  (g off dLen dCap:Nat) (ad:Addr) (sLen sCap:Nat) (hd:a.eval d=.slice (some ⟨g,off,none⟩) dLen dCap) (hs:a.eval s=.slice (some ad) sLen sCap)
  (cur:Array Value) (t:TypeId) (hg:w.heap[g]?=some (.cells cur t (0,0))) (cs:List Value) (hn:cs.length=Nat.min sLen dLen*size)
  (hsrc:∀j v,cs[j]?=some v→w.cell? (ad.add j)=some v) (hfit:off+cs.length≤cur.size) (h1:∀v∈cs,v.oneCell'=true)
  (B:Nat) (w0:World) (hb:Below B w0 w) (hBg:B≤g)
  (h:∀w',Hid (w'.heap[g]?=some (.cells (splice cur.toList off cs).toArray t (0,0)))→Below B w0 w'→wpList P ops Q rest (a.put o.dst (goInt (Nat.min sLen dLen))) w'):wpList P ops Q (o::rest) a w:=by
 refine wpList_plain hgd fun K hK=>?_
 have hrun:=run_copy_wide P w dT sT o.type elem g off dLen dCap ad sLen sCap size cur t cs hu hsz hg hn hsrc hfit h1
 unfold Oper.wp
 simp [execOp,ho,resolve,invoke,builtin,hd,hs,hrun,Result.andThen]
 exact hK _ _ (h _ (show _=_ by simpa [splice] using setRow_heap w g _ _ t _ hg) (below_setRow hb hBg _))
def cellsN (ns:List (ByteArray×Int)):List Value:=ns.flatMap fun p=>[.string p.1,.int .i64 p.2]
def beyondB:ByteArray×Int:=(⟨#[98,101,121,111,110,100]⟩,77)
theorem infoName:(Tryz.prog.info? 40).map (fun i=>(i.zero,i.size,i.bytes))=some (some (.agg #[.string ⟨#[]⟩,.int .i64 0]),2,24):=by kernel_rfl
theorem sizeName:(Tryz.prog.info? 40).map (·.size)=some 2:=by kernel_rfl
theorem cellsN_cons (p:ByteArray×Int) (ns:List (ByteArray×Int)):cellsN (p::ns)=.string p.1::.int .i64 p.2::cellsN ns:=rfl
theorem cellsN_length (ns:List (ByteArray×Int)):(cellsN ns).length=ns.length*2:=by
 induction ns with
 |nil=>rfl
 |cons p ns ih=>rw [cellsN_cons];simp [ih];omega
theorem cellsN_append (l m:List (ByteArray×Int)):cellsN (l++m)=cellsN l++cellsN m:=by simp [cellsN]
theorem cellsN_one (ns:List (ByteArray×Int)):∀u∈cellsN ns,u.oneCell'=true:=by
 intro u hu
 obtain ⟨p,_,hp⟩:=List.mem_flatMap.1 hu
 simp at hp
 rcases hp with rfl|rfl<;>rfl
theorem cellsN_at:∀(ns:List (ByteArray×Int)) (i:Nat) (h:i<ns.length),(cellsN ns)[i*2]?=some (.string ns[i].1)∧(cellsN ns)[i*2+1]?=some (.int .i64 ns[i].2):=by
 intro ns
 induction ns with
 |nil=>intro i h;simp at h
 |cons p ns ih =>
  intro i h
  rw [cellsN_cons]
  cases i with
  |zero=>exact ⟨rfl,rfl⟩
  |succ i =>
   have:=ih i (by simpa using h)
   rw [show (i+1)*2=i*2+1+1 from by omega]
   simpa using this
theorem names_src {w:World}{a:Addr}{ns:List (ByteArray×Int)}(h:NamesAt w (some a) ns):∀j v,(cellsN ns)[j]?=some v→w.cell? (a.add j)=some v:=by
 intro j v hv
 have hj:j<(cellsN ns).length:=by
  rcases Nat.lt_or_ge j (cellsN ns).length with h|h
  ·exact h
  ·rw [List.getElem?_eq_none h] at hv;cases hv
 rw [cellsN_length] at hj
 rcases h with h|⟨b,off,ha,_,hc⟩
 ·rw [h] at hj;simp at hj
 ·simp only [Option.some.injEq] at ha
  subst ha
  have hadd:(⟨b,off,none⟩:Addr).add j=⟨b,off+j,none⟩:=by unfold Addr.add;split<;>simp_all
  rw [hadd]
  obtain ⟨c1,c2⟩:=hc (j / 2) (by omega)
  obtain ⟨d1,d2⟩:=cellsN_at ns (j / 2) (by omega)
  rcases Nat.mod_two_eq_zero_or_one j with h2|h2
  ·rw [show j / 2*2=j from by omega] at c1 d1
   rw [d1] at hv;rw [c1];exact hv
  ·rw [show j / 2*2+1=j from by omega] at d2
   rw [show off+j / 2*2+1=off+j from by omega] at c2
   rw [d2] at hv;rw [c2];exact hv
theorem owns_full {w:World}{base e size g n:Nat}{xs:List Value}(h:w.ownsRow base e size (.slice (some ⟨g,0,none⟩) n n) n xs):w.heap[g]?=some (.cells xs.toArray e (0,0)):=by
 rcases h.2 with ⟨h',_⟩|⟨g',cap',cur,h',_,hg,_,_,hcs,htake⟩
 ·simp at h'
 ·simp only [Value.slice.injEq,Option.some.injEq,Addr.mk.injEq,and_true,true_and] at h'
  obtain ⟨rfl,rfl⟩:=h'
  rw [hg]
  congr 2
  rw [←htake,List.take_of_length_le (by simp [hcs]),Array.toArray_toList]
def RowN (w:World) (g:Nat) (xs:List Value):Prop:=w.heap[g]?=some (.cells xs.toArray 40 (0,0))
theorem RowN.cell {w:World}{g:Nat}{xs:List Value}(h:RowN w g xs) (j:Nat) (hj:j<xs.length):w.cell? ⟨g,j,none⟩=some xs[j]:=by
 unfold RowN at h
 simp [World.cell?,h,hj]
theorem RowN.free {w:World}{g:Nat}{xs:List Value}(h:RowN w g xs) (j:Nat):w.frozen? ⟨g,j,none⟩=false:=by
 unfold RowN at h
 simp [World.frozen?,h]
theorem RowN.lt {w:World}{g:Nat}{xs:List Value}(h:RowN w g xs):g<w.heap.size:=(Array.getElem?_eq_some_iff.1 h).1
theorem RowN.set {w:World}{g:Nat}{xs:List Value}(h:RowN w g xs) (j:Nat) (u:Value):RowN (w.setCell ⟨g,j,none⟩ u) g (xs.set j u):=by
 unfold RowN at h ⊢
 rw [heap_setCell_same w g j xs.toArray 40 u h]
 simp
theorem RowN.below {w w':World}{g:Nat}{xs:List Value}(h:RowN w g xs) (hb:Below w.heap.size w w'):RowN w' g xs:=by
 unfold RowN at h ⊢
 rw [hb.block g (RowN.lt h)];exact h
theorem RowN.alloc {w:World}{g:Nat}{xs:List Value}(h:RowN w g xs) (o:Obj):RowN (w.alloc o) g xs:=h.below ((Below.refl _ _).alloc (Nat.le_refl _) o)
theorem RowN.drewN {w:World}{g:Nat}{xs:List Value}(h:RowN w g xs) (n:Nat):RowN (w.drewN n) g xs:=h
theorem take_two (xs:List Value) (j:Nat) (u v:Value) (h:j+1<xs.length):((xs.set j u).set (j+1) v).take (j+2)=xs.take j++[u,v]:=by
 apply List.ext_getElem?
 intro i
 simp only [List.getElem?_take,List.getElem?_set,List.getElem?_append,List.length_take,List.length_set]
 by_cases h1:i<j
 ·have:i<min j xs.length:=by omega
  simp [h1,this,show i<j+2 from by omega,show ¬j+1=i from by omega,show ¬j=i from by omega]
 ·by_cases h2:i=j
  ·subst h2
   have:¬i<min i xs.length:=by omega
   have hm:i-min i xs.length=0:=by omega
   simp [hm,show i<xs.length from by omega]
   try omega
  ·by_cases h3:i=j+1
   ·subst h3
    have hm:j+1-min j xs.length=1:=by omega
    simp [hm,h,show ¬j+1<min j xs.length from by omega]
   ·simp [show ¬i<j+2 from by omega,show ¬i<min j xs.length from by omega]
    omega
set_option maxRecDepth 100000 in
set_option maxHeartbeats 800000 in
theorem lent_any (a:Addr) (cap:Nat) (ns:List (ByteArray×Int)) (w:World) (hl:ns.length≤5864062014634) (hn:NamesAt w (some a) ns) :
  Calls Tryz.prog 22 #[.slice (some a) ns.length cap] w fun e w'=>∃g,e=.returned (.slice (some ⟨g,0,none⟩) ns.length (ns.length+8))∧w.heap.size≤g∧g<w'.heap.size∧w'.heap[g]?=some (.cells (cellsN (ns++List.replicate 8 beyondB)).toArray 40 (0,0))∧Below w.heap.size w w':=by
 have HN:=hid hn
 clear hn
 obtain ⟨i0,hi0,hz0,hz1,hz2⟩:=info_parts infoName
 have heq:=fun (wx:World)=>Lib.run_eql_slice_nil (P:=Tryz.prog) wx 31 40 (some a) ns.length cap 0 0 Tryz.underlying31
 go_enter Tryz.func22,Tryz.ntmps22
 go_upto_region 5 with (first|(at_make;refine wpList_make_full _ rfl (.tmp 11) (.tmp 11) 31 rfl w.heap.size 40 i0 _ 2 Tryz.underlying31 hi0 hz0 hz1 .i64 .i64 _ _ (ns.length+8) rfl rfl (by omega) (by omega) (by rw [hz2];omega) (by unfold maxLen;omega) (Nat.le_refl _) ?_;intro w1 hown1 hgrow1;have hg1:=owns_full hown1;have hb1:Below w.heap.size w w1:=(Below.refl _ _).grown hgrow1 (Nat.le_refl _) (fun j hj=>by cases hj);have hz:w.heap.size<w1.heap.size:=(Array.getElem?_eq_some_iff.1 hg1).1;have hgl:=hown1.1))
 generalize (madeCells (Value.agg #[Value.string { data:=#[] },Value.int IntKind.i64 0]).cells ((ns.length+8)*2)).toList=mc at hg1 hgl
 clear hown1 hgrow1
 go_wp2_with ((refine wpList_copy_wide rfl (.tmp 13) (.tmp 14) 31 31 rfl 40 Tryz.underlying31 2 sizeName w.heap.size 0 (ns.length+8) (ns.length+8) a ns.length cap rfl rfl _ 40 hg1 (cellsN ns) (by rw [cellsN_length];congr 1;exact (Nat.min_eq_left (by omega)).symm) (names_src (HN.out.below hb1)) (by rw [cellsN_length];simp [hgl];omega) (cellsN_one ns) w.heap.size w hb1 (Nat.le_refl _) ?_);intro w2 HG2 hB2)
 have hx0:∃xs:List Value,RowN w2 w.heap.size xs∧xs.length=(ns.length+8)*2∧xs.take (ns.length*2)=cellsN ns:=
  ⟨_,HG2.out,by rw [length_splice _ _ _ (by rw [cellsN_length];simp [hgl];omega)];simpa using hgl,by unfold splice;rw [List.take_zero,List.nil_append,←cellsN_length,List.take_left]⟩
 have HX0:=hid hx0
 have HB2:=hid hB2
 clear hx0 HG2 hB2 hg1 hgl hb1 hz hi0 hz0 hz1 hz2
 go_loopw [5] (fun i wr=>∃(j:Nat) (xs:List Value),ns.length≤j∧j≤ns.length+8∧i=.int .i64 j∧xs.length=(ns.length+8)*2∧xs.take (j*2)=cellsN (ns++List.replicate (j-ns.length) beyondB)∧RowN wr w.heap.size xs∧Below w.heap.size w wr) (fun i _=>ns.length+8-(intOf i).toNat)
 case atStart =>
  obtain ⟨xs,h1,h2,h3⟩:=HX0.out
  exact ⟨ns.length,xs,Nat.le_refl _,by omega,rfl,h2,by rw [Nat.sub_self];simpa using h3,h1,HB2.out⟩
 case round =>
  obtain ⟨j,xs,hj1,hj2,rfl,hxl,hxt,hrow,hbr⟩:=hrel
  have HROW:=hid hrow
  have HXT:=hid hxt
  have HBR:=hid hbr
  clear hrow hxt hbr
  by_cases hlt:j<ns.length+8
  ·have c1:=HROW.out.cell (j*2) (by omega)
   have c2:=HROW.out.cell (j*2+1) (by omega)
   have f1:=HROW.out.free (j*2)
   have f2:=HROW.out.free (j*2+1)
   go_wp2
   go_roundw
   case rel =>
    refine ⟨j+1,_,by omega,by omega,by go_num,?_,?_,(HROW.out.set (j*2) _).set (j*2+1) _,(HBR.out.setCell (Nat.le_refl _) _).setCell (Nat.le_refl _) _⟩
    ·simp [hxl]
    ·rw [show (j+1)*2=j*2+2 from by omega,take_two _ _ _ _ (by omega),HXT.out,show j+1-ns.length=(j-ns.length)+1 from by omega,List.replicate_succ',←List.append_assoc,cellsN_append (ns++List.replicate (j-ns.length) beyondB)]
     rfl
   case measure=>simp [intOf];omega
  ·have HE:=hid (show RowN wr w.heap.size (cellsN (ns++List.replicate 8 beyondB)) by
    have h:=HXT.out
    rw [List.take_of_length_le (by omega),show j-ns.length=8 from by omega] at h
    rw [←h];exact HROW.out)
   go_wp2
   go_ret
   exact ⟨w.heap.size,rfl,Nat.le_refl _,HE.out.lt,HE.out,HBR.out⟩
def NamesBelow (B:Nat) (w:World) (a:Option Addr) (ns:List (ByteArray×Int)):Prop:=
 ns=[]∨∃b off,a=some ⟨b,off,none⟩∧b<B∧b<w.heap.size∧∀i (h:i<ns.length),w.cell? ⟨b,off+i*2,none⟩=some (.string ns[i].1)∧w.cell? ⟨b,off+i*2+1,none⟩=some (.int .i64 ns[i].2)
theorem NamesBelow.names {B:Nat}{w:World}{a:Option Addr}{ns:List (ByteArray×Int)}(h:NamesBelow B w a ns):NamesAt w a ns:=by
 rcases h with h|⟨b,off,h1,_,h3,h4⟩
 ·exact Or.inl h
 ·exact Or.inr ⟨b,off,h1,h3,h4⟩
theorem NamesBelow.below {B:Nat}{w w':World}{a:Option Addr}{ns:List (ByteArray×Int)}(h:NamesBelow B w a ns) (hb:Below B w w'):NamesBelow B w' a ns:=by
 rcases h with h|⟨b,off,h1,h2,h3,h4⟩
 ·exact Or.inl h
 ·refine Or.inr ⟨b,off,h1,h2,Nat.lt_of_lt_of_le h3 hb.size,fun i hi=>?_⟩
  rw [hb.cell (p:=⟨b,off+i*2,none⟩) h2,hb.cell (p:=⟨b,off+i*2+1,none⟩) h2]
  exact h4 i hi
theorem NamesAt.under {w:World}{a:Option Addr}{ns:List (ByteArray×Int)}(h:NamesAt w a ns):NamesBelow w.heap.size w a ns:=by
 rcases h with h|⟨b,off,h1,h3,h4⟩
 ·exact Or.inl h
 ·exact Or.inr ⟨b,off,h1,h3,h3,h4⟩
theorem drop_two (xs:List Value) (j:Nat) (u v:Value):((xs.set j u).set (j+1) v).drop (j+2)=xs.drop (j+2):=by
 rw [List.drop_set_of_lt (by omega),List.drop_set_of_lt (by omega)]
theorem get_of_drop {xs ys:List Value}{j i:Nat}(h:xs.drop j=ys.drop j) (hij:j≤i):xs[i]?=ys[i]?:=by
 have:=congrArg (fun l=>l[i-j]?) h
 simp only [List.getElem?_drop] at this
 rwa [show j+(i-j)=i from by omega] at this
set_option maxRecDepth 100000 in
set_option maxHeartbeats 1000000 in
theorem whole_any (g:Nat) (a:Addr) (cap:Nat) (ns:List (ByteArray×Int)) (B:Nat) (w:World) (hl:ns.length≤5864062014634) (hB1:B≤g) (hB2:B≤w.heap.size) (hn:NamesBelow B w (some a) ns) (hrow:RowN w g (cellsN (ns++List.replicate 8 beyondB))) :
  Calls Tryz.prog 25 #[.slice (some ⟨g,0,none⟩) ns.length (ns.length+8),.slice (some a) ns.length cap] w fun e w'=>e=.returned (.bool true)∧Below B w w':=by
 have HN:=hid hn
 have HROW0:=hid hrow
 clear hn hrow
 have heq:=fun (wx:World)=>Lib.run_eql_slice_nil (P:=Tryz.prog) wx 31 40 (some a) ns.length cap 0 0 Tryz.underlying31
 obtain ⟨all,hall⟩:∃all,ns++List.replicate 8 beyondB=all:=⟨_,rfl⟩
 have hal:all.length=ns.length+8:=by rw [←hall];simp
 have HALL:=hid hall
 have HROW1:=hid (show RowN w g (cellsN all) by rw [←hall];exact HROW0.out)
 clear hall HROW0
 go_enter Tryz.func25,Tryz.ntmps25
 go_wp2
 go_loopw [7,8] (fun ok i wr=>∃(j:Nat) (xs:List Value),j≤ns.length+8∧i=.int .i64 j∧ok=.bool true∧xs.length=(ns.length+8)*2∧xs.drop (j*2)=(cellsN all).drop (j*2)∧RowN wr g xs∧Below B w wr) (fun _ i _=>ns.length+8-(intOf i).toNat)
 case atStart=>exact ⟨0,_,by omega,rfl,rfl,by rw [cellsN_length,hal],rfl,HROW1.out,Below.refl _ _⟩
 case round =>
  obtain ⟨j,xs,hj2,rfl,rfl,hxl,hxd,hrow,hbr⟩:=hrel
  have HROW:=hid hrow
  have HXD:=hid hxd
  have HBR:=hid hbr
  clear hrow hxd hbr
  have hgw:g<wr.heap.size:=HROW.out.lt
  have hBw:B≤wr.heap.size:=Nat.le_trans hB2 HBR.out.size
  by_cases hlt:j<ns.length+8
  ·obtain ⟨d1,d2⟩:=cellsN_at all j (by omega)
   have c1:wr.cell? ⟨g,j*2,none⟩=some (.string all[j].1):=by
    rw [HROW.out.cell (j*2) (by omega),←List.getElem?_eq_getElem,get_of_drop HXD.out (Nat.le_refl _),d1]
   have c2:wr.cell? ⟨g,j*2+1,none⟩=some (.int .i64 all[j].2):=by
    rw [HROW.out.cell (j*2+1) (by omega),←List.getElem?_eq_getElem,get_of_drop HXD.out (by omega),d2]
   have f1:=HROW.out.free (j*2)
   have f2:=HROW.out.free (j*2+1)
   clear d1 d2
   by_cases hjn:j<ns.length
   ·have hej:all[j]=ns[j]:=by have:=HALL.out;subst this;rw [List.getElem_append_left hjn]
    rw [hej] at c1 c2
    rcases (HN.out.below HBR.out) with h|⟨b,off,ha,hbB,hbl,hc⟩
    ·rw [h] at hjn;simp at hjn
    ·simp only [Option.some.injEq] at ha
     subst ha
     obtain ⟨e1,e2⟩:=hc j hjn
     clear hc hej
     obtain ⟨p,hp⟩:∃p,ns[j]=p:=⟨_,rfl⟩
     rw [hp] at c1 c2 e1 e2
     clear hp
     obtain ⟨nm,vl⟩:=p
     simp only at c1 c2 e1 e2
     have hne:¬b=wr.heap.size:=by omega
     have i1:(0:Int)≤(j:Int):=Int.natCast_nonneg _
     have i2:(j:Int)<(ns.length:Int)+8:=by omega
     go_wp2
     go_quiet (fail)
     go_wp2
     go_roundw
     case rel=>exact ⟨j+1,_,by omega,by go_num,by simp,by simp [hxl],by rw [show (j+1)*2=j*2+2 from by omega,drop_two,←List.drop_drop,HXD.out,List.drop_drop],(((HROW.out.alloc _).drewN _).set (j*2) _).set (j*2+1) _,((below_drewN (HBR.out.alloc hBw _) _).setCell hB1 _).setCell hB1 _⟩
     case measure=>simp [intOf];omega
   ·have hej:all[j]=beyondB:=by have:=HALL.out;subst this;rw [List.getElem_append_right (by omega),List.getElem_replicate]
    rw [hej] at c1 c2
    simp only [beyondB] at c1 c2
    have i1:(0:Int)≤(j:Int):=Int.natCast_nonneg _
    have i2:(j:Int)<(ns.length:Int)+8:=by omega
    clear hej
    go_wp2
    go_quiet (fail)
    go_wp2
    go_roundw
    case rel=>exact ⟨j+1,_,by omega,by go_num,by simp,by simp [hxl],by rw [show (j+1)*2=j*2+2 from by omega,drop_two,←List.drop_drop,HXD.out,List.drop_drop],(((HROW.out.alloc _).drewN _).set (j*2) _).set (j*2+1) _,((below_drewN (HBR.out.alloc hBw _) _).setCell hB1 _).setCell hB1 _⟩
    case measure=>simp [intOf];omega
  ·go_wp2
   go_ret
   exact ⟨rfl,HBR.out⟩
end Go.Proofs.YtcepppilgncdmaaGreatDoor
