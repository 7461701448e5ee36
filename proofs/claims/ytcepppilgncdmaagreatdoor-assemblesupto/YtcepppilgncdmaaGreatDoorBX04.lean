/-
  Joined: Heap Parts PaDat PaLeaf.
-/
import Derived.Deep.AppendLies
import Derived.Test.YtcepppilgncdmaaGreatDoorBX02
namespace Go.Proofs.YtcepppilgncdmaaGreatDoor
open Go.RowKit
def RowT (w:World) (t g:Nat) (xs:List Value):Prop:=w.heap[g]?=some (.cells xs.toArray t (0,0))
theorem RowT.cell {w:World}{t g:Nat}{xs:List Value}(h:RowT w t g xs) (j:Nat) (hj:j<xs.length):w.cell? ⟨g,j,none⟩=some xs[j]:=by
 unfold RowT at h
 simp [World.cell?,h,hj]
theorem RowT.free {w:World}{t g:Nat}{xs:List Value}(h:RowT w t g xs) (j:Nat):w.frozen? ⟨g,j,none⟩=false:=by
 unfold RowT at h
 simp [World.frozen?,h]
theorem RowT.lt {w:World}{t g:Nat}{xs:List Value}(h:RowT w t g xs):g<w.heap.size:=(Array.getElem?_eq_some_iff.1 h).1
theorem RowT.set {w:World}{t g:Nat}{xs:List Value}(h:RowT w t g xs) (j:Nat) (u:Value):RowT (w.setCell ⟨g,j,none⟩ u) t g (xs.set j u):=by
 unfold RowT at h ⊢
 rw [heap_setCell_same w g j xs.toArray t u h]
 simp
theorem RowT.other {w:World}{t g:Nat}{xs:List Value}(h:RowT w t g xs) (b j:Nat) (hb:g≠b) (u:Value):RowT (w.setCell ⟨b,j,none⟩ u) t g xs:=by
 unfold RowT at h ⊢
 rw [heap_setCell_other w ⟨b,j,none⟩ g u hb];exact h
structure Keeps (M:List Nat) (w w':World):Prop where
 os:w'.os=w.os
 tape:w'.tape=w.tape
 output:w'.output=w.output
 size:w.heap.size≤w'.heap.size
 block:∀k,k<w.heap.size→k∉M→w'.heap[k]?=w.heap[k]?
theorem Keeps.refl (M:List Nat) (w:World):Keeps M w w:=⟨rfl,rfl,rfl,Nat.le_refl _,fun _ _ _=>rfl⟩
theorem Keeps.trans {M:List Nat}{a b c:World}(h:Keeps M a b) (k:Keeps M b c):Keeps M a c:=
 ⟨k.os.trans h.os,k.tape.trans h.tape,k.output.trans h.output,Nat.le_trans h.size k.size,fun i hi hm=>(k.block i (Nat.lt_of_lt_of_le hi h.size) hm).trans (h.block i hi hm)⟩
theorem Keeps.of_below {M:List Nat}{w w':World}(h:Below w.heap.size w w'):Keeps M w w':=⟨h.os,h.tape,h.output,h.size,fun k hk _=>h.block k hk⟩
theorem Keeps.below {M:List Nat}{w w':World}{B:Nat}(h:Keeps M w w') (hB:B≤w.heap.size) (hM:∀k,k∈M→B≤k):Below B w w':=
 ⟨h.os,h.tape,h.output,h.size,fun k hk=>h.block k (Nat.lt_of_lt_of_le hk hB) (fun hm=>by have:=hM k hm;omega)⟩
theorem Keeps.alloc {M:List Nat}{a w:World}(h:Keeps M a w) (o:Obj):Keeps M a (w.alloc o):=h.trans (Keeps.of_below ((Below.refl _ _).alloc (Nat.le_refl _) o))
theorem Keeps.drew {M:List Nat}{a w:World}(h:Keeps M a w):Keeps M a w.drew:=⟨h.os,h.tape,h.output,h.size,h.block⟩
theorem Keeps.setCell {M:List Nat}{a w:World}(h:Keeps M a w) {p:Addr}(hp:p.block∈M) (u:Value):Keeps M a (w.setCell p u):=
 h.trans ⟨rfl,rfl,rfl,by simp [World.setCell],fun k _ hm=>heap_setCell_other w p k u (fun e=>hm (e ▸ hp))⟩
theorem Keeps.grown {M:List Nat}{a w w':World}{row:Option Nat}(h:Keeps M a w) (hg:w.grownBy w' row) (hr:∀k,row=some k→k∈M∨a.heap.size≤k):Keeps M a w':=
 ⟨hg.os.trans h.os,hg.tape.trans h.tape,hg.output.trans h.output,Nat.le_trans h.size hg.size,fun k hk hm=>by
  rw [hg.block k (Nat.lt_of_lt_of_le hk h.size) (fun e=>by rcases hr k e.symm with h'|h';exact hm h';omega)]
  exact h.block k hk hm⟩
theorem RowT.keeps {M:List Nat}{w w':World}{t g:Nat}{xs:List Value}(h:RowT w t g xs) (hk:Keeps M w w') (hg:g∉M):RowT w' t g xs:=by
 have hl:=h.lt
 unfold RowT at h ⊢
 rw [hk.block g hl hg];exact h
theorem RowT.below {w w':World}{t g:Nat}{xs:List Value}(h:RowT w t g xs) (hb:Below w.heap.size w w'):RowT w' t g xs:=h.keeps (M:=[]) (Keeps.of_below hb) (by simp)
theorem RowT.alloc {w:World}{t g:Nat}{xs:List Value}(h:RowT w t g xs) (o:Obj):RowT (w.alloc o) t g xs:=h.below ((Below.refl _ _).alloc (Nat.le_refl _) o)
theorem RowT.new (w:World) (t:Nat) (xs:List Value):RowT (w.alloc (.cells xs.toArray t)) t w.heap.size xs:=heap_alloc_new w _
theorem Keeps.cell {M:List Nat}{w w':World}(h:Keeps M w w') {p:Addr}(hp:p.block<w.heap.size) (hm:p.block∉M):w'.cell? p=w.cell? p:=World.cell?_of_block (w:=w) (h.block p.block hp hm)
def StrsAt (w:World) (M:List Nat) (a:Option Addr) (ss:List ByteArray):Prop:=
 ss=[]∨∃b off,a=some ⟨b,off,none⟩∧b<w.heap.size∧b∉M∧∀i (h:i<ss.length),w.cell? ⟨b,off+i,none⟩=some (.string ss[i])
def StrV (w:World) (B:Nat) (v:Value) (ss:List ByteArray):Prop:=
 (v=.slice none 0 0∧ss=[])∨∃b off cap cur,v=.slice (some ⟨b,off,none⟩) ss.length cap∧B≤b∧w.heap[b]?=some (.cells cur 9 (0,0))∧ss.length≤cap∧∀i (h:i<ss.length),cur[off+i]?=some (.string ss[i])
theorem StrV.below {w w':World}{B:Nat}{v:Value}{ss:List ByteArray}(h:StrV w B v ss) (hb:Below w.heap.size w w'):StrV w' B v ss:=by
 rcases h with h|⟨b,off,cap,cur,h1,h2,h3,h4⟩
 ·exact Or.inl h
 ·exact Or.inr ⟨b,off,cap,cur,h1,h2,by rw [hb.block b (Array.getElem?_eq_some_iff.1 h3).1];exact h3,h4⟩
theorem StrV.mono {w:World}{B C:Nat}{v:Value}{ss:List ByteArray}(h:StrV w B v ss) (hc:C≤B):StrV w C v ss:=by
 rcases h with h|⟨b,off,cap,cur,h1,h2,h3⟩
 ·exact Or.inl h
 ·exact Or.inr ⟨b,off,cap,cur,h1,Nat.le_trans hc h2,h3⟩
theorem StrV.form {w:World}{B:Nat}{v:Value}{ss:List ByteArray}(h:StrV w B v ss):∃a cap,v=.slice a ss.length cap:=by
 rcases h with ⟨h1,h2⟩|⟨b,off,cap,cur,h1,_⟩
 ·subst h2;exact ⟨none,0,h1⟩
 ·exact ⟨_,cap,h1⟩
theorem StrV.set {w:World}{B:Nat}{v:Value}{ss:List ByteArray}(h:StrV w B v ss) (b j:Nat) (u:Value) (hb:∀k cur,w.heap[k]?=some (.cells cur 9 (0,0))→k≠b):StrV (w.setCell ⟨b,j,none⟩ u) B v ss:=by
 rcases h with h|⟨k,off,cap,cur,h1,h2,h3,h4⟩
 ·exact Or.inl h
 ·exact Or.inr ⟨k,off,cap,cur,h1,h2,by rw [heap_setCell_other w ⟨b,j,none⟩ k u (hb k cur h3)];exact h3,h4⟩
theorem RowT.notStr {w:World}{t g:Nat}{xs:List Value}(h:RowT w t g xs) (ht:t≠9):∀k cur,w.heap[k]?=some (.cells cur 9 (0,0))→k≠g:=by
 rintro k cur hk rfl
 unfold RowT at h
 rw [h] at hk
 injection hk with hk
 injection hk with _ hk
 exact ht hk
structure PartsV (w:World) (B:Nat) (lb op:ByteArray) (v:Value) (os:List ByteArray) (W:WordsP):Prop where
 label:L lb=W.label
 op:L op=W.op
 ops:os.map L=W.operands
 at_:StrV w B v os
theorem PartsV.below {w w':World}{B:Nat}{lb op:ByteArray}{v:Value}{os:List ByteArray}{W:WordsP}(h:PartsV w B lb op v os W) (hb:Below w.heap.size w w'):PartsV w' B lb op v os W:=⟨h.label,h.op,h.ops,h.at_.below hb⟩
theorem StrV.cell {w:World}{B:Nat}{v:Value}{ss:List ByteArray}(h:StrV w B v ss) (k:Nat) (hk:k<ss.length):∃b off cap,v=.slice (some ⟨b,off,none⟩) ss.length cap∧b<w.heap.size∧w.cell? ⟨b,off+k,none⟩=some (.string ss[k]):=by
 rcases h with ⟨_,h⟩|⟨b,off,cap,cur,h1,h2,h3,h4,h5⟩
 ·rw [h] at hk;simp at hk
 ·exact ⟨b,off,cap,h1,(Array.getElem?_eq_some_iff.1 h3).1,by simp [World.cell?,h3,h5 k hk]⟩
structure LnV where
 t:ByteArray
 frm:Nat
 at_:Nat
 size:Nat
def lnCells:List LnV→List Value
 |[]=>[]
 |l::r=>.string l.t::.int .i64 (l.frm:Nat)::.int .i64 (l.at_:Nat)::.int .i64 (l.size:Nat)::lnCells r
theorem lnCells_at (l:List LnV) (i:Nat) (h:i<l.length):(lnCells l)[i*4]?=some (.string l[i].t)∧(lnCells l)[i*4+1]?=some (.int .i64 (l[i].frm:Nat))∧(lnCells l)[i*4+2]?=some (.int .i64 (l[i].at_:Nat))∧(lnCells l)[i*4+3]?=some (.int .i64 (l[i].size:Nat)):=by
 induction l generalizing i with
 |nil=>simp at h
 |cons x r ih =>
  cases i with
  |zero=>simp [lnCells]
  |succ i =>
   have:=ih i (by simpa using h)
   simp only [lnCells,show (i+1)*4=i*4+1+1+1+1 from by omega,List.getElem?_cons_succ,List.getElem_cons_succ]
   exact this
theorem lnCells_set (l:List LnV) (i:Nat) (h:i<l.length) (a z:Nat):((lnCells l).set (i*4+2) (.int .i64 (a:Nat))).set (i*4+3) (.int .i64 (z:Nat))=lnCells (l.set i ⟨l[i].t,l[i].frm,a,z⟩):=by
 induction l generalizing i with
 |nil=>simp at h
 |cons x r ih =>
  cases i with
  |zero=>simp [lnCells]
  |succ i =>
   have:=ih i (by simpa using h)
   simp only [lnCells,show (i+1)*4=i*4+1+1+1+1 from by omega,List.set_cons_succ,List.getElem_cons_succ]
   rw [this]
structure StV where
 o:OpnP
 lab:Nat
 has:Bool
 added:Nat
 v:Value
 es:List ByteArray
 count:Nat
 long:Bool
def stOne (x:StV):List Value:=[.int .i64 (x.o.kind:Nat),.int .i64 (x.o.regs:Nat),.int .i64 (x.o.code:Nat),.int .i64 (x.o.long:Nat),.int .i64 (x.o.width:Nat),.int .i64 (x.lab:Nat),.bool x.has,.int .i64 (x.added:Nat),x.v,.int .i64 (x.count:Nat),.bool x.long]
def stCells:List StV→List Value
 |[]=>[]
 |x::r=>stOne x++stCells r
theorem stCells_append (a b:List StV):stCells (a++b)=stCells a++stCells b:=by
 induction a with
 |nil=>rfl
 |cons x r ih=>simp [stCells,ih]
theorem stCells_one (x:StV):stCells [x]=stOne x:=by simp [stCells]
theorem stCells_at (l:List StV) (i k:Nat) (h:i<l.length) (hk:k<11):(stCells l)[i*11+k]?=(stOne l[i])[k]?:=by
 induction l generalizing i with
 |nil=>simp at h
 |cons x r ih =>
  cases i with
  |zero =>
   simp only [stCells,Nat.zero_mul,Nat.zero_add,List.getElem_cons_zero]
   rw [List.getElem?_append_left (by simp [stOne];omega)]
  |succ i =>
   have:=ih i (by simpa using h)
   simp only [stCells,List.getElem_cons_succ]
   rw [List.getElem?_append_right (by simp [stOne];omega)]
   rw [show (i+1)*11+k-(stOne x).length=i*11+k from by simp [stOne];omega]
   exact this
theorem stCells_set (l:List StV) (i:Nat) (h:i<l.length) (b:Bool):(stCells l).set (i*11+10) (.bool b)=stCells (l.set i { l[i] with long:=b }):=by
 induction l generalizing i with
 |nil=>simp at h
 |cons x r ih =>
  cases i with
  |zero=>simp [stCells,stOne]
  |succ i =>
   have:=ih i (by simpa using h)
   simp only [stCells,List.set_cons_succ,List.getElem_cons_succ]
   rw [List.set_append_right _ _ (by simp [stOne];omega),show (i+1)*11+10-(stOne x).length=i*11+10 from by simp [stOne];omega,this]
def StAt (w:World) (b off:Nat) (x:StV):Prop:=b<w.heap.size∧∀k v,(stOne x)[k]?=some v→w.cell? ⟨b,off+k,none⟩=some v
theorem StAt.of_row {w:World}{b:Nat}{x:StV}(h:RowT w 113 b (stOne x)):StAt w b 0 x:=⟨h.lt,fun k v hk=>by
 obtain ⟨h1,h2⟩:=List.getElem?_eq_some_iff.1 hk
 rw [Nat.zero_add,h.cell k h1,h2]⟩
def sizeV (x:StV) (a:Nat):Nat:=
 if x.o.kind=1 then 1
 else if x.o.kind=2 then 1+x.o.width
 else if x.o.kind=3 then (if x.long then 3 else 2)
 else if x.o.kind=4 then x.o.width*x.es.length
 else if x.o.kind=5 then x.count
 else if x.o.kind=6 then (x.count-a%x.count)%x.count
 else 0
set_option maxHeartbeats 400000 in
theorem isAlignment_any (z:Int) (w:World):Calls Tryz.prog 145 #[.int .i64 z] w fun e w'=>e=.returned (.bool (alignB z))∧w'=w:=by
 have hcs:z=1∨z=2∨z=4∨z=8∨z=16∨(¬z=1∧¬z=2∧¬z=4∧¬z=8∧¬z=16):=by omega
 rcases hcs with h|h|h|h|h|⟨h1,h2,h3,h4,h5⟩
 case inr.inr.inr.inr.inr =>
  go_enter Tryz.func145,Tryz.ntmps145
  go_wp2
  go_ret
  exact ⟨ret_bool (by simp [alignB,h1,h2,h3,h4,h5]),rfl⟩
 all_goals
  subst h
  go_enter Tryz.func145,Tryz.ntmps145
  go_wp2
  go_ret
  exact ⟨rfl,rfl⟩
def opnV (o:OpnP):Value:=.agg #[.int .i64 (o.kind:Nat),.int .i64 (o.regs:Nat),.int .i64 (o.code:Nat),.int .i64 (o.long:Nat),.int .i64 (o.width:Nat)]
set_option maxHeartbeats 400000 in
theorem takes_any (o:OpnP) (n:Nat) (w:World) (hn:n≤100000) (ho:o.regs≤10) :
  Calls Tryz.prog 113 #[.agg #[.int .i64 (o.kind:Nat),.int .i64 (o.regs:Nat),.int .i64 (o.code:Nat),.int .i64 (o.long:Nat),.int .i64 (o.width:Nat)],.int .i64 (n:Nat)] w fun e w'=>e=.returned (.bool (takesP o n))∧Below w.heap.size w w':=by
 obtain ⟨k,r,c,l,d⟩:=o
 simp only at ho ⊢
 have hb:Below w.heap.size w (w.alloc (.cells #[.int .i64 (k:Nat),.int .i64 (r:Nat),.int .i64 (c:Nat),.int .i64 (l:Nat),.int .i64 (d:Nat)] 111)):=(Below.refl _ _).alloc (Nat.le_refl _) _
 have HB:=hid hb
 clear hb
 by_cases h1:k=1
 ·subst h1
  go_enter Tryz.func113,Tryz.ntmps113
  go_wp2
  go_ret
  refine ⟨ret_bool ?_,HB.out⟩
  unfold takesP
  rw [Bool.eq_iff_iff]
  simp
  try omega
 ·have k1:((k:Int)==1)=false:=by rw [beq_eq_false_iff_ne];omega
  by_cases h4:k=4
  ·subst h4
   go_enter Tryz.func113,Tryz.ntmps113
   go_wp2
   go_ret
   refine ⟨ret_bool ?_,HB.out⟩
   unfold takesP
   rw [Bool.eq_iff_iff]
   simp
   try omega
  ·have k4:((k:Int)==4)=false:=by rw [beq_eq_false_iff_ne];omega
   go_enter Tryz.func113,Tryz.ntmps113
   go_wp2
   go_ret
   refine ⟨ret_bool ?_,HB.out⟩
   unfold takesP
   simp only [if_neg h1,if_neg h4]
   rw [Bool.eq_iff_iff]
   simp
   try omega
theorem opn_is {op:ByteArray}{l:List UInt8}(h:L op=l):(op.toList==l)=true:=by
 rw [ByteArray.toList_eq];unfold L at h;rw [h];simp
theorem opn_not {op:ByteArray}{l:List UInt8}(h:¬L op=l):(op.toList==l)=false:=by
 rw [ByteArray.toList_eq,beq_eq_false_iff_ne];exact h
def OpnPost (s:ByteArray) (w:World) (e:Ending) (w':World):Prop:=e=.returned (.tuple #[opnV ((opnP (L s)).getD noOpn),.bool (opnP (L s)).isSome])∧Below w.heap.size w w'
set_option maxRecDepth 100000 in
set_option maxHeartbeats 3200000 in
theorem operationOf_any (s:ByteArray) (w:World):Calls Tryz.prog 72 #[.string s] w (OpnPost s w):=by
 have hb:∀v0 v1 v2 v3 v4:Value,Below w.heap.size w (w.alloc (.cells #[v0,v1,v2,v3,v4] 111)):=fun v0 v1 v2 v3 v4=>(Below.refl _ _).alloc (Nat.le_refl _) _
 have HB:=hid hb
 clear hb
 by_cases h0:L s=[110,111,112]
 ·have HR:=hid (show opnP (L s)=some ⟨1,0,0,0,0⟩ by rw [h0];rfl)
  have k0:=opn_is h0
  clear h0
  go_enter Tryz.func72,Tryz.ntmps72
  go_wp2
  refine bodyPost_ret (v:=.tuple #[opnV ⟨1,0,0,0,0⟩,.bool true]) (by simp [results,Tryz.results72,go_sem,opnV]) rfl ?_
  unfold OpnPost
  rw [HR.out]
  exact ⟨rfl,HB.out _ _ _ _ _⟩
 have k0:=opn_not h0
 by_cases h1:L s=[114,101,116]
 ·have HR:=hid (show opnP (L s)=some ⟨1,0,161,0,0⟩ by rw [h1];rfl)
  have k1:=opn_is h1
  clear h1
  go_enter Tryz.func72,Tryz.ntmps72
  go_wp2
  refine bodyPost_ret (v:=.tuple #[opnV ⟨1,0,161,0,0⟩,.bool true]) (by simp [results,Tryz.results72,go_sem,opnV]) rfl ?_
  unfold OpnPost
  rw [HR.out]
  exact ⟨rfl,HB.out _ _ _ _ _⟩
 have k1:=opn_not h1
 by_cases h2:L s=[109,111,118]
 ·have HR:=hid (show opnP (L s)=some ⟨1,2,64,0,0⟩ by rw [h2];rfl)
  have k2:=opn_is h2
  clear h2
  go_enter Tryz.func72,Tryz.ntmps72
  go_wp2
  refine bodyPost_ret (v:=.tuple #[opnV ⟨1,2,64,0,0⟩,.bool true]) (by simp [results,Tryz.results72,go_sem,opnV]) rfl ?_
  unfold OpnPost
  rw [HR.out]
  exact ⟨rfl,HB.out _ _ _ _ _⟩
 have k2:=opn_not h2
 by_cases h3:L s=[97,100,100]
 ·have HR:=hid (show opnP (L s)=some ⟨1,2,80,0,0⟩ by rw [h3];rfl)
  have k3:=opn_is h3
  clear h3
  go_enter Tryz.func72,Tryz.ntmps72
  go_wp2
  refine bodyPost_ret (v:=.tuple #[opnV ⟨1,2,80,0,0⟩,.bool true]) (by simp [results,Tryz.results72,go_sem,opnV]) rfl ?_
  unfold OpnPost
  rw [HR.out]
  exact ⟨rfl,HB.out _ _ _ _ _⟩
 have k3:=opn_not h3
 by_cases h4:L s=[115,117,98]
 ·have HR:=hid (show opnP (L s)=some ⟨1,2,96,0,0⟩ by rw [h4];rfl)
  have k4:=opn_is h4
  clear h4
  go_enter Tryz.func72,Tryz.ntmps72
  go_wp2
  refine bodyPost_ret (v:=.tuple #[opnV ⟨1,2,96,0,0⟩,.bool true]) (by simp [results,Tryz.results72,go_sem,opnV]) rfl ?_
  unfold OpnPost
  rw [HR.out]
  exact ⟨rfl,HB.out _ _ _ _ _⟩
 have k4:=opn_not h4
 by_cases h5:L s=[108,111,97,100]
 ·have HR:=hid (show opnP (L s)=some ⟨2,1,16,0,1⟩ by rw [h5];rfl)
  have k5:=opn_is h5
  clear h5
  go_enter Tryz.func72,Tryz.ntmps72
  go_wp2
  refine bodyPost_ret (v:=.tuple #[opnV ⟨2,1,16,0,1⟩,.bool true]) (by simp [results,Tryz.results72,go_sem,opnV]) rfl ?_
  unfold OpnPost
  rw [HR.out]
  exact ⟨rfl,HB.out _ _ _ _ _⟩
 have k5:=opn_not h5
 by_cases h6:L s=[99,97,108,108]
 ·have HR:=hid (show opnP (L s)=some ⟨2,0,160,0,2⟩ by rw [h6];rfl)
  have k6:=opn_is h6
  clear h6
  go_enter Tryz.func72,Tryz.ntmps72
  go_wp2
  refine bodyPost_ret (v:=.tuple #[opnV ⟨2,0,160,0,2⟩,.bool true]) (by simp [results,Tryz.results72,go_sem,opnV]) rfl ?_
  unfold OpnPost
  rw [HR.out]
  exact ⟨rfl,HB.out _ _ _ _ _⟩
 have k6:=opn_not h6
 by_cases h7:L s=[106,109,112]
 ·have HR:=hid (show opnP (L s)=some ⟨3,0,128,129,2⟩ by rw [h7];rfl)
  have k7:=opn_is h7
  clear h7
  go_enter Tryz.func72,Tryz.ntmps72
  go_wp2
  refine bodyPost_ret (v:=.tuple #[opnV ⟨3,0,128,129,2⟩,.bool true]) (by simp [results,Tryz.results72,go_sem,opnV]) rfl ?_
  unfold OpnPost
  rw [HR.out]
  exact ⟨rfl,HB.out _ _ _ _ _⟩
 have k7:=opn_not h7
 by_cases h8:L s=[106,122]
 ·have HR:=hid (show opnP (L s)=some ⟨3,1,132,136,2⟩ by rw [h8];rfl)
  have k8:=opn_is h8
  clear h8
  go_enter Tryz.func72,Tryz.ntmps72
  go_wp2
  refine bodyPost_ret (v:=.tuple #[opnV ⟨3,1,132,136,2⟩,.bool true]) (by simp [results,Tryz.results72,go_sem,opnV]) rfl ?_
  unfold OpnPost
  rw [HR.out]
  exact ⟨rfl,HB.out _ _ _ _ _⟩
 have k8:=opn_not h8
 by_cases h9:L s=[46,98,121,116,101]
 ·have HR:=hid (show opnP (L s)=some ⟨4,0,0,0,1⟩ by rw [h9];rfl)
  have k9:=opn_is h9
  clear h9
  go_enter Tryz.func72,Tryz.ntmps72
  go_wp2
  refine bodyPost_ret (v:=.tuple #[opnV ⟨4,0,0,0,1⟩,.bool true]) (by simp [results,Tryz.results72,go_sem,opnV]) rfl ?_
  unfold OpnPost
  rw [HR.out]
  exact ⟨rfl,HB.out _ _ _ _ _⟩
 have k9:=opn_not h9
 by_cases h10:L s=[46,119,111,114,100]
 ·have HR:=hid (show opnP (L s)=some ⟨4,0,0,0,2⟩ by rw [h10];rfl)
  have k10:=opn_is h10
  clear h10
  go_enter Tryz.func72,Tryz.ntmps72
  go_wp2
  refine bodyPost_ret (v:=.tuple #[opnV ⟨4,0,0,0,2⟩,.bool true]) (by simp [results,Tryz.results72,go_sem,opnV]) rfl ?_
  unfold OpnPost
  rw [HR.out]
  exact ⟨rfl,HB.out _ _ _ _ _⟩
 have k10:=opn_not h10
 by_cases h11:L s=[46,115,112,97,99,101]
 ·have HR:=hid (show opnP (L s)=some ⟨5,0,0,0,0⟩ by rw [h11];rfl)
  have k11:=opn_is h11
  clear h11
  go_enter Tryz.func72,Tryz.ntmps72
  go_wp2
  refine bodyPost_ret (v:=.tuple #[opnV ⟨5,0,0,0,0⟩,.bool true]) (by simp [results,Tryz.results72,go_sem,opnV]) rfl ?_
  unfold OpnPost
  rw [HR.out]
  exact ⟨rfl,HB.out _ _ _ _ _⟩
 have k11:=opn_not h11
 by_cases h12:L s=[46,97,108,105,103,110]
 ·have HR:=hid (show opnP (L s)=some ⟨6,0,0,0,0⟩ by rw [h12];rfl)
  have k12:=opn_is h12
  clear h12
  go_enter Tryz.func72,Tryz.ntmps72
  go_wp2
  refine bodyPost_ret (v:=.tuple #[opnV ⟨6,0,0,0,0⟩,.bool true]) (by simp [results,Tryz.results72,go_sem,opnV]) rfl ?_
  unfold OpnPost
  rw [HR.out]
  exact ⟨rfl,HB.out _ _ _ _ _⟩
 have k12:=opn_not h12
 have HR:=hid (show opnP (L s)=none by unfold opnP oNop oRet oMov oAdd oSub oLoad oCall oJmp oJz oByte oWord oSpace oAlign;simp only [h0,h1,h2,h3,h4,h5,h6,h7,h8,h9,h10,h11,h12,if_false])
 clear h0 h1 h2 h3 h4 h5 h6 h7 h8 h9 h10 h11 h12
 go_enter Tryz.func72,Tryz.ntmps72
 go_wp2
 refine bodyPost_ret (v:=.tuple #[opnV noOpn,.bool false]) (by simp [results,Tryz.results72,go_sem,opnV,noOpn]) rfl ?_
 unfold OpnPost
 rw [HR.out]
 exact ⟨rfl,HB.out _ _ _ _ _⟩
end Go.Proofs.YtcepppilgncdmaaGreatDoor
