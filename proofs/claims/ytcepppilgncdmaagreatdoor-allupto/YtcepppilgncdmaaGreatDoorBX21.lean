/-
  Joined: RApp.
-/
import Derived.Test.YtcepppilgncdmaaGreatDoorBX13
namespace Go.Proofs.YtcepppilgncdmaaGreatDoor
open Go
section
variable {P:Program} {w:World}
theorem run_append_zeroOf (base:Nat) (t ty e:TypeId) (i:TypeInfo) (size:Nat) (ht:P.underlying t=some (.slice e)) (hi:P.info? e=some i)
  (v:Value) (n:Nat) (xs:List Value) (hown:w.ownsRow base e size v n xs) (ad:Option Addr) (c:Nat) :
  (Builtin.append_ #[t,t] ty #[v,.slice ad 0 c]).run P w=.ok v w:=by
 rcases hown.2 with ⟨rfl,rfl⟩|⟨g,cap,cur,rfl,_,_,hnc,_⟩
 ·cases ad<;>simp [Builtin.append_,run_underlying ht,sizeOf,typeInfo,hi,Builtin.lenOf,Builtin.firstCells,loadCells,loadCellsFrom]
 ·cases ad<;>simp [Builtin.append_,run_underlying ht,sizeOf,typeInfo,hi,Builtin.lenOf,Builtin.firstCells,hnc,storeCells,loadCells,loadCellsFrom]
theorem wpList_append_zeroOf {ops:Array Oper}{rest:List Oper}{o:Oper}{a:Act}{Q:Exit→Act→World→Prop}(hgd:o.guard=none) (s x:Operand) (t:TypeId)
  (ho:o.op=.call { callee:=.builtin .append,args:=#[s,x],argTypes:=#[t,t] })
  (base:Nat) (e:TypeId) (i:TypeInfo) (size:Nat) (ht:P.underlying t=some (.slice e)) (hi:P.info? e=some i)
  (v:Value) (n:Nat) (xs:List Value) (hs:a.eval s=v) (hown:w.ownsRow base e size v n xs) (ad:Option Addr) (c:Nat) (hx:a.eval x=.slice ad 0 c)
  (h:wpList P ops Q rest (a.put o.dst v) w):wpList P ops Q (o::rest) a w:=by
 refine wpList_plain hgd fun K hK=>?_
 have hrun:=run_append_zeroOf (P:=P) (w:=w) base t o.type e i size ht hi v n xs hown ad c
 unfold Oper.wp
 simp [execOp,ho,resolve,invoke,builtin,hs,hx,hrun,Result.andThen]
 exact hK _ _ h
end
theorem wpList_append_row {P:Program}{w:World}{ops:Array Oper}{rest:List Oper}{o:Oper}{a:Act}{Q:Exit→Act→World→Prop}(hgd:o.guard=none) (s x:Operand) (t:TypeId)
  (ho:o.op=.call { callee:=.builtin .append,args:=#[s,x],argTypes:=#[t,t] })
  (base:Nat) (e:TypeId) (i:TypeInfo) (z:Value) (size bytes:Nat) (ht:P.underlying t=some (.slice e)) (hi:P.info? e=some i) (hz:i.zero=some z)
  (hsize:i.size=size) (hby:i.bytes=bytes) (hzs:z.cells.size=size) (hsz:0<size)
  (v:Value) (n:Nat) (xs:List Value) (hs:a.eval s=v) (hown:w.ownsRow base e size v n xs)
  (D:Nat) (u:Value) (m:Nat) (ys:List Value) (hx:a.eval x=u) (hu:w.ownsRow D e size u m ys) (h1:∀q∈ys,q.oneCell'=true)
  (h63:n+m≤maxLen) (hbytes:(n+m)*bytes≤140737488355328) (hbase:base≤w.heap.size)
  (h:∀v' w',w'.ownsRow base e size v' (n+m) (xs++ys)→w.grownBy w' v.ownBlock→wpList P ops Q rest (a.put o.dst v') w'):wpList P ops Q (o::rest) a w:=by
 have hul:=hu.1
 rcases hu.2 with ⟨rfl,rfl⟩|⟨g,cap,cur,rfl,_,hg,hmc,_,hcs,hct⟩
 ·have hys:ys=[]:=List.length_eq_zero_iff.1 (by omega)
  subst hys
  refine wpList_append_zeroOf hgd s x t ho base e i size ht hi v n xs hs hown none 0 hx (h v w (by simpa using hown) (World.grownBy.refl w _))
 ·by_cases hm:m=0
  ·subst hm
   have hys:ys=[]:=List.length_eq_zero_iff.1 (by omega)
   subst hys
   exact wpList_append_zeroOf hgd s x t ho base e i size ht hi v n xs hs hown _ cap hx (h v w (by simpa using hown) (World.grownBy.refl w _))
  ·refine wpList_append_lies w hgd s x t ho base e i z size bytes ht hi hz hsize hby hzs hsz v n xs hs hown ⟨g,0,none⟩ m cap ys hx hul ?_ h1 (by omega) h63 hbytes hbase w.heap.size rfl (fun gg cap' w' h2 h3 _ _=>h _ w' h2 h3)
   intro j q hq
   have hlt:j<ys.length:=(List.getElem?_eq_some_iff.1 hq).1
   refine World.news_of_block hg j q ?_
   rw [←hct] at hq
   rw [List.getElem?_take_of_lt (by rw [←hul];exact hlt)] at hq
   exact hq
end Go.Proofs.YtcepppilgncdmaaGreatDoor
