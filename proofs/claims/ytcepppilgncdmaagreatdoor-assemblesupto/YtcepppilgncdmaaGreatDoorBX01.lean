/-
  Joined: Math Lines TextMath Exp Asm Good Inv RMath RMatB RMatC Sum RMatD QMath.
-/
import Derived.KernelRfl
namespace Go.Proofs.YtcepppilgncdmaaGreatDoor
def digB (b:Int):Bool:=decide (48≤b∧b≤57)
def nbB (b:Int):Bool:=decide ((97≤b∧b≤122)∨(65≤b∧b≤90)∨(48≤b∧b≤57)∨b=95)
def hexv (b:Int):Int:=if 48≤b∧b≤57 then b-48 else if 97≤b∧b≤102 then b-87 else 16
def L (s:ByteArray):List UInt8:=s.data.toList
theorem L_length (s:ByteArray):(L s).length=s.size:=by unfold L;rw [Array.length_toList];rfl
theorem L_drop (s:ByteArray) (k:Nat) (h:k<s.size):(L s).drop k=s[k]::(L s).drop (k+1):=by
 unfold L
 rw [List.drop_eq_getElem_cons (by simpa using h)]
 rfl
theorem L_end (s:ByteArray) (k:Nat) (h:s.size≤k):(L s).drop k=[]:=by
 apply List.drop_eq_nil_of_le;rw [L_length];exact h
theorem L_inj {s t:ByteArray}(h:L s=L t):s=t:=by
 unfold L at h
 exact ByteArray.ext (Array.toList_inj.1 h)
theorem L_extract (s:ByteArray) (a b:Nat):L (s.extract a b)=((L s).take b).drop a:=by
 unfold L
 rw [ByteArray.data_extract,Array.toList_extract,List.extract_eq_drop_take',List.drop_take]
theorem L_suffix (s:ByteArray) (a:Nat):L (s.extract a s.size)=(L s).drop a:=by
 rw [L_extract,List.take_of_length_le (by rw [L_length];exact Nat.le_refl _)]
theorem L_prefix (s:ByteArray) (b:Nat):L (s.extract 0 b)=(L s).take b:=by
 rw [L_extract,List.drop_zero]
theorem L_append (a b:ByteArray):L (a++b)=L a++L b:=by
 unfold L
 rw [ByteArray.data_append,Array.toList_append]
def regB (l:List UInt8):Bool:=match l with
 |[a,b]=>decide ((a.toNat:Int)=114)&&decide (48≤(b.toNat:Int))&&decide ((b.toNat:Int)≤51)
 |_=>false
theorem regB_two (s:ByteArray) (h:s.size=2):regB (L s)=(decide ((s[0].toNat:Int)=114)&&decide (48≤(s[1].toNat:Int))&&decide ((s[1].toNat:Int)≤51)):=by
 have h0:=L_drop s 0 (by omega)
 have h1:=L_drop s 1 (by omega)
 have h2:=L_end s 2 (by omega)
 rw [List.drop_zero] at h0
 rw [h0,h1,h2]
 rfl
def regV (l:List UInt8):Int:=if regB l then ((l.getD 1 0).toNat:Int)-48 else 0
theorem regV_two (s:ByteArray) (h:s.size=2) (hr:regB (L s)=true):regV (L s)=(s[1].toNat:Int)-48:=by
 have h1:(L s).getD 1 0=s[1]:=by
  have:1<(L s).length:=by rw [L_length];omega
  rw [List.getD_eq_getElem?_getD,List.getElem?_eq_getElem this]
  rfl
 unfold regV
 rw [if_pos hr,h1]
theorem regB_not (s:ByteArray) (h:s.size≠2):regB (L s)=false:=by
 have h0:=L_length s
 unfold regB
 split
 ·rename_i e;rw [e] at h0;simp at h0;omega
 ·rfl
def allNb (l:List UInt8):Bool:=l.all fun c=>nbB c.toNat
def nameB (l:List UInt8):Bool:=match l with
 |[]=>false
 |c::r=>decide ((c::r).length≤8)&&!digB c.toNat&&!regB (c::r)&&allNb (c::r)
def wordLen:List UInt8→Nat
 |[]=>0
 |c::r=>if nbB c.toNat then wordLen r+1 else 0
def digs (base:Int):Int→Nat→List UInt8→Int×Nat
 |v,n,[]=>(v,n)
 |v,n,c::r=>if hexv c.toNat<base then digs base (min (v*base+hexv c.toNat) 1000001) (n+1) r else (v,n)
def findN:List (List UInt8×Int)→List UInt8→Option Int
 |[],_=>none
 |(n,v)::r,w=>if n=w then some v else findN r w
def quoted:List UInt8→Int×Nat×Int
 |a::b::_=>if (a.toNat:Int)=39∨(b.toNat:Int)≠39 then (0,0,4) else (a.toNat,3,0)
 |_=>(0,0,4)
def named (l:List UInt8) (ns:List (List UInt8×Int)):Int×Nat×Int:=
 if nameB (l.take (wordLen l)) then
  match findN ns (l.take (wordLen l)) with
  |some v=>(v,wordLen l,0)
  |none=>(0,0,6)
 else (0,0,4)
def base16 (r:List UInt8):Int×Nat×Int:=if (digs 16 0 0 r).2=0 then (0,0,4) else ((digs 16 0 0 r).1,1+(digs 16 0 0 r).2,0)
def term (at_:Int) (ns:List (List UInt8×Int)):List UInt8→Int×Nat×Int
 |[]=>(0,0,4)
 |c::r =>
  if digB c.toNat then ((digs 10 0 0 (c::r)).1,(digs 10 0 0 (c::r)).2,0)
  else if (c.toNat:Int)=36 then base16 r
  else if (c.toNat:Int)=39 then quoted r
  else if (c.toNat:Int)=46 then (at_,1,0)
  else named (c::r) ns
def readT (at_:Int) (ns:List (List UInt8×Int)) (l:List UInt8):Int×List UInt8×Int:=
 if (term at_ ns l).2.2≠0 then (0,[],(term at_ ns l).2.2)
 else if (term at_ ns l).1 < -1000000∨1000000<(term at_ ns l).1 then (0,[],7)
 else ((term at_ ns l).1,l.drop (term at_ ns l).2.1,0)
def step (sum sign number:Int):Int:=if sign=43 then sum+number else if sign=45 then sum-number else if sign=42 then sum*number else sum
def reck (sum sign number:Int):Int×Int:=if step sum sign number < -1000000∨1000000<step sum sign number then (0,7) else (step sum sign number,0)
def eval (at_:Int) (ns:List (List UInt8×Int)):Nat→Int→Int→List UInt8→Int×Int
 |0,_,_,_=>(0,0)
 |f+1,sum,sign,l =>
  if (readT at_ ns l).2.2≠0 then (0,(readT at_ ns l).2.2)
  else if (reck sum sign (readT at_ ns l).1).2≠0 then (0,(reck sum sign (readT at_ ns l).1).2)
  else match (readT at_ ns l).2.1 with
   |[]=>((reck sum sign (readT at_ ns l).1).1,0)
   |c::r=>if (c.toNat:Int)=43∨(c.toNat:Int)=45∨(c.toNat:Int)=42 then eval at_ ns f (reck sum sign (readT at_ ns l).1).1 c.toNat r else (0,4)
def value (at_:Int) (ns:List (List UInt8×Int)) (l:List UInt8):Int×Int:=
 match l with
 |[]=>eval at_ ns 1 0 43 []
 |c::r=>if (c.toNat:Int)=45 then eval at_ ns (r.length+1) 0 45 r else eval at_ ns (r.length+2) 0 43 (c::r)
def evalS (at_:Int) (ns:List (List UInt8×Int)) (f:Nat) (sum:Int):List UInt8→Int×Int
 |[]=>(sum,0)
 |c::r=>if (c.toNat:Int)=43∨(c.toNat:Int)=45∨(c.toNat:Int)=42 then eval at_ ns f sum c.toNat r else (0,4)
theorem eval_bad {at_:Int}{ns:List (List UInt8×Int)}{l r:List UInt8}{x y:Int}(h:readT at_ ns l=(x,r,y)) (hy:y≠0) (f:Nat) (sm sg:Int):eval at_ ns (f+1) sm sg l=(0,y):=by
 simp only [eval,h];rw [if_pos hy]
theorem eval_far {at_:Int}{ns:List (List UInt8×Int)}{l r:List UInt8}{x:Int}(h:readT at_ ns l=(x,r,0)) (f:Nat) {sm sg z q:Int}(hr:reck sm sg x=(z,q)) (hq:q≠0):eval at_ ns (f+1) sm sg l=(0,q):=by
 simp only [eval,h,hr];rw [if_neg (by simp),if_pos hq]
theorem eval_on {at_:Int}{ns:List (List UInt8×Int)}{l r:List UInt8}{x:Int}(h:readT at_ ns l=(x,r,0)) (f:Nat) {sm sg z:Int}(hr:reck sm sg x=(z,0)):eval at_ ns (f+1) sm sg l=evalS at_ ns f z r:=by
 simp only [eval,h,hr];rw [if_neg (by simp),if_neg (by simp)]
 cases r<;>rfl
theorem readT_bd {at_:Int}{ns:List (List UInt8×Int)}{l r:List UInt8}{x:Int}(h:readT at_ ns l=(x,r,0)):-1000000≤x∧x≤1000000:=by
 unfold readT at h
 split at h
 ·rename_i h1;injection h with _ h;injection h with _ h;exact absurd h h1
 ·split at h
  ·injection h with _ h;injection h with _ h;omega
  ·injection h with h _;omega
theorem reck_bd {sm sg x z:Int}(h:reck sm sg x=(z,0)):-1000000≤z∧z≤1000000:=by
 unfold reck at h
 split at h
 ·injection h with _ h;omega
 ·injection h with h _;omega
theorem value_minus (at_:Int) (ns:List (List UInt8×Int)) (c:UInt8) (r:List UInt8) (h:(c.toNat:Int)=45):value at_ ns (c::r)=evalS at_ ns (r.length+1) 0 (c::r):=by
 simp only [value,evalS];rw [if_pos h,if_pos (Or.inr (Or.inl h)),h]
theorem value_plain (at_:Int) (ns:List (List UInt8×Int)) (c:UInt8) (r:List UInt8) (h:¬(c.toNat:Int)=45):value at_ ns (c::r)=eval at_ ns (r.length+2) 0 43 (c::r):=by
 simp only [value];rw [if_neg h]
theorem mul_bd (a b:Int) (a1:-1000000≤a) (a2:a≤1000000) (b1:-1000000≤b) (b2:b≤1000000):-1000000000000≤a*b∧a*b≤1000000000000:=by
 have h1:(a.natAbs)*(b.natAbs)≤1000000*1000000:=Nat.mul_le_mul (by omega) (by omega)
 rw [←Int.natAbs_mul] at h1
 omega
theorem hexv_lo (b:Int):0≤hexv b∧hexv b≤16:=by unfold hexv;split<;>(try split)<;>omega
theorem digs_le (base:Int) (l:List UInt8):∀v n,n≤(digs base v n l).2∧(digs base v n l).2≤n+l.length:=by
 induction l with
 |nil=>intro v n;simp [digs]
 |cons c r ih =>
  intro v n
  simp only [digs]
  split
  ·have:=ih (min (v*base+hexv c.toNat) 1000001) (n+1)
   simp only [List.length_cons];omega
  ·simp
theorem wordLen_le (l:List UInt8):wordLen l≤l.length:=by
 induction l with
 |nil=>simp [wordLen]
 |cons c r ih=>simp only [wordLen];split<;>simp<;>omega
theorem quoted_len (r:List UInt8):(quoted r).2.1≤r.length+1:=by
 unfold quoted
 split
 ·split<;>simp
 ·simp
theorem term_len (at_:Int) (ns:List (List UInt8×Int)) (l:List UInt8):(term at_ ns l).2.1≤l.length:=by
 unfold term
 split
 ·simp
 ·rename_i c r
  split
  ·have:=(digs_le 10 (c::r) 0 0).2;simpa using this
  ·split
   ·have:=(digs_le 16 r 0 0).2
    unfold base16;split<;>simp;omega
   ·split
    ·simpa using quoted_len r
    ·split
     ·simp
     ·have:=wordLen_le (c::r)
      unfold named;split
      ·split<;>simp_all
      ·simp
def cutL:List UInt8→List UInt8
 |[]=>[]
 |c::r=>if (c.toNat:Int)=59 then [] else c::cutL r
def blanks:List UInt8→Nat
 |[]=>0
 |c::r=>if (c.toNat:Int)=32 then blanks r+1 else 0
def solid:List UInt8→Nat
 |[]=>0
 |c::r=>if (c.toNat:Int)=32 then 0 else solid r+1
theorem blanks_le (l:List UInt8):blanks l≤l.length:=by
 induction l with
 |nil=>simp [blanks]
 |cons c r ih=>simp only [blanks];split<;>simp<;>omega
theorem solid_le (l:List UInt8):solid l≤l.length:=by
 induction l with
 |nil=>simp [solid]
 |cons c r ih=>simp only [solid];split<;>simp<;>omega
def wordOf (l:List UInt8):List UInt8:=(l.drop (blanks l)).take (solid (l.drop (blanks l)))
def restOf (l:List UInt8):List UInt8:=l.drop (blanks l+solid (l.drop (blanks l)))
def splitB (b:Int):List UInt8→List (List UInt8)
 |[]=>[[]]
 |c::r=>if (c.toNat:Int)=b then []::splitB b r else match splitB b r with
  |h::t=>(c::h)::t
  |[]=>[[c]]
def splitOn (b:Int) (s l:List UInt8):List (List UInt8):=match splitB b l with
 |h::t=>(s++h)::t
 |[]=>[s]
theorem splitB_ne (b:Int) (l:List UInt8):splitB b l≠[]:=by
 cases l with
 |nil=>simp [splitB]
 |cons c r =>
  simp only [splitB]
  split
  ·simp
  ·split<;>simp
theorem splitOn_nil (b:Int) (l:List UInt8):splitOn b [] l=splitB b l:=by
 unfold splitOn
 have:=splitB_ne b l
 cases h:splitB b l with
 |nil=>exact absurd h this
 |cons x y=>simp
theorem splitOn_end (b:Int) (s:List UInt8):splitOn b s []=[s]:=by simp [splitOn,splitB]
theorem splitOn_hit (b:Int) (s:List UInt8) (c:UInt8) (r:List UInt8) (h:(c.toNat:Int)=b):splitOn b s (c::r)=s::splitOn b [] r:=by
 rw [splitOn_nil];unfold splitOn;simp [splitB,h]
theorem splitOn_miss (b:Int) (s:List UInt8) (c:UInt8) (r:List UInt8) (h:¬(c.toNat:Int)=b):splitOn b s (c::r)=splitOn b (s++[c]) r:=by
 unfold splitOn
 simp only [splitB]
 rw [if_neg h]
 have:=splitB_ne b r
 cases hs:splitB b r with
 |nil=>exact absurd hs this
 |cons x y=>simp
def noBlank (l:List UInt8):List UInt8:=l.filter fun c=>decide ¬(c.toNat:Int)=32
structure WordsP where
 label:List UInt8
 op:List UInt8
 operands:List (List UInt8)
def operandsOf (l:List UInt8):List (List UInt8):=if noBlank l=[] then [] else splitB 44 (noBlank l)
def labelB (a:List UInt8):Bool:=decide (1<a.length)&&decide (((a.getLastD 0).toNat:Int)=58)&&nameB (a.dropLast)
def wordsP (l:List UInt8):WordsP:=
 if labelB (wordOf l) then ⟨(wordOf l).dropLast,wordOf (restOf l),operandsOf (restOf (restOf l))⟩ else ⟨[],wordOf l,operandsOf (restOf l)⟩
def joined:Bool→List (List UInt8)→List UInt8
 |_,[]=>[]
 |true,o::r=>32::o++joined false r
 |false,o::r=>44::o++joined false r
def textP (w:WordsP):List UInt8:=
 let a:=if w.label=[] then [] else w.label++[58]
 let b:=if w.op=[] then a else if a=[] then w.op else a++[32]++w.op
 b++joined true w.operands
def okByte (c:UInt8):Bool:=decide (32≤(c.toNat:Int))&&decide ((c.toNat:Int)≤126)
def okLine (l:List UInt8):Bool:=decide (l.length≤80)&&l.all okByte
def headP (lb op:List UInt8):List UInt8:=
 if op=[] then (if lb=[] then [] else lb++[58]) else if lb=[] then op else lb++[58]++[32]++op
theorem textP_head (w:WordsP):textP w=headP w.label w.op++joined true w.operands:=by
 unfold textP headP
 by_cases h1:w.label=[]<;>by_cases h2:w.op=[]<;>simp [h1,h2]
def sumLen (l:List (List UInt8)):Nat:=(l.map fun x=>x.length+1).sum
theorem joined_len (b:Bool) (l:List (List UInt8)):(joined b l).length=sumLen l:=by
 induction l generalizing b with
 |nil=>cases b<;>rfl
 |cons x r ih=>cases b<;>simp [joined,sumLen,ih]<;>omega
def joinedTo (ops:List ByteArray) (k:Nat):List UInt8:=joined true ((ops.take k).map L)
theorem joined_snoc (b:Bool) (l:List (List UInt8)) (x:List UInt8):joined b (l++[x])=joined b l++((if b&&l.isEmpty then 32 else 44)::x):=by
 induction l generalizing b with
 |nil=>cases b<;>simp [joined]
 |cons y r ih=>cases b<;>simp [joined,ih]
theorem joinedTo_succ (ops:List ByteArray) (k:Nat) (h:k<ops.length):joinedTo ops (k+1)=joinedTo ops k++((if k=0 then 32 else 44)::L ops[k]):=by
 unfold joinedTo
 rw [List.take_succ_eq_append_getElem h,List.map_append,List.map_singleton,joined_snoc]
 congr 2
 cases k with
 |zero=>rfl
 |succ k =>
  have:((ops.take (k+1)).map L).isEmpty=false:=by
   cases ops with
   |nil=>simp at h
   |cons a r=>simp
  rw [this,Bool.and_false]
  simp
theorem sumLen_take (l:List (List UInt8)):∀k,sumLen (l.take k)≤sumLen l:=by
 induction l with
 |nil=>intro k;simp
 |cons x r ih =>
  intro k
  cases k with
  |zero=>simp [sumLen]
  |succ k =>
   have:=ih k
   simp only [List.take_succ_cons,sumLen,List.map_cons,List.sum_cons] at this ⊢
   omega
theorem joinedTo_len (ops:List ByteArray) (k:Nat):(joinedTo ops k).length≤sumLen (ops.map L):=by
 unfold joinedTo
 rw [joined_len,List.map_take]
 exact sumLen_take _ _
theorem ne_of_size (s:ByteArray) (h:¬s.size=0):L s≠[]:=fun e=>h (by rw [←L_length,e];rfl)
structure MacP where
 name:List UInt8
 params:List (List UInt8)
 lines:List (List UInt8)
structure StP where
 macros:List MacP
 names:List (List UInt8×Int)
 out:List (List UInt8×Nat)
 calls:Nat
structure OpenP where
 yes:Bool
 els:Bool
 over:Bool
def opIf:List UInt8:=[46,105,102]
def opElse:List UInt8:=[46,101,108,115,101]
def opEndif:List UInt8:=[46,101,110,100,105,102]
def opMacro:List UInt8:=[46,109,97,99,114,111]
def opEnd:List UInt8:=[46,101,110,100]
def opSet:List UInt8:=[46,115,101,116]
def passOf (o:OpenP):Bool:=o.over || !o.yes
def overP:List OpenP→Bool
 |[]=>false
 |o::_=>passOf o
def Chain:List OpenP→Prop
 |[]=>True
 |o::r=>o.over=overP r∧Chain r
def ahead (l:List UInt8):List (List UInt8)→Nat→Option (Nat×Nat)→Option (Nat×Nat)
 |[],_,b=>b
 |p::r,i,b=>ahead l r (i+1) (if p.isPrefixOf l&&(match b with|none=>true|some (_,n)=>decide (n<p.length)) then some (i,p.length) else b)
def fillP (ps os:List (List UInt8)):Nat→List UInt8→Option (List UInt8)
 |0,_=>some []
 |_+1,[]=>some []
 |n+1,c::r =>
  if (c.toNat:Int)=92 then
   match ahead r ps 0 none with
   |none=>none
   |some (i,k)=>(fillP ps os n (r.drop k)).map ((os.getD i [])++·)
  else (fillP ps os n r).map (c::·)
def filledP (ps os:List (List UInt8)) (l:List UInt8):Int×List UInt8:=
 match fillP ps os l.length l with
 |none=>(4,[])
 |some t=>if 80<t.length then (1,[]) else (0,t)
def findM:List MacP→List UInt8→Option MacP
 |[],_=>none
 |m::r,s=>if m.name=s then some m else findM r s
def bareW (w:WordsP):Bool:=decide (w.label=[])&&decide (w.operands=[])
def leaveP (w:WordsP) (at_:Nat) (st:StP):Int×StP:=
 if textP w=[] then (0,st) else if 300≤st.out.length then (8,st) else (0,{ st with out:=st.out++[(textP w,at_)] })
def ifP (w:WordsP) (opens:List OpenP) (st:StP):Int×List OpenP:=
 if 8≤opens.length then (2,opens)
 else if overP opens then (0,⟨false,false,true⟩::opens)
 else if ¬w.label=[]∨¬w.operands.length=1 then (4,opens)
 else if (value 0 st.names (w.operands.headD [])).2≠0 then ((value 0 st.names (w.operands.headD [])).2,opens)
 else (0,⟨decide ((value 0 st.names (w.operands.headD [])).1≠0),false,false⟩::opens)
def elseP (w:WordsP):List OpenP→Int×List OpenP
 |[]=>(2,[])
 |o::r=>if o.els then (2,o::r) else if o.over=false∧bareW w=false then (4,o::r) else (0,⟨!o.yes,true,o.over⟩::r)
def endifP (w:WordsP):List OpenP→Int×List OpenP
 |[]=>(2,[])
 |o::r=>if o.over=false∧bareW w=false then (4,o::r) else (0,r)
def allNames:List (List UInt8)→Bool
 |[]=>true
 |o::r=>nameB o&&allNames r
def apartF (seen:List (List UInt8)):List (List UInt8)→Bool
 |[]=>true
 |o::r=>!seen.contains o&&apartF (seen++[o]) r
def apartP (l:List (List UInt8)):Bool:=apartF [] l
def defP (inM:Bool) (w:WordsP) (st:StP):Int×Option MacP:=
 if inM then (2,none)
 else if ¬w.label=[]∨w.operands=[] then (4,none)
 else if allNames w.operands=false∨apartP w.operands.tail=false then (4,none)
 else match findM st.macros (w.operands.headD []) with
  |some _=>(5,none)
  |none=>(0,some ⟨w.operands.headD [],w.operands.tail,[]⟩)
def collP (d:MacP) (s:List UInt8) (st:StP):Int×Option MacP×StP:=
 if (wordsP s).op=opMacro then (2,none,st)
 else if (wordsP s).op=opEnd then (if bareW (wordsP s) then (0,none,{ st with macros:=st.macros++[d] }) else (4,none,st))
 else (0,some { d with lines:=d.lines++[s] },st)
def hasN (ns:List (List UInt8×Int)) (s:List UInt8):Bool:=(findN ns s).isSome
def setP (w:WordsP) (at_:Nat) (st:StP):Int×StP:=
 if ¬w.label=[]∨¬w.operands.length=2 then (4,st)
 else if nameB (w.operands.headD [])=false∨hasN st.names (w.operands.headD [])=true then (5,st)
 else if (value 0 st.names (w.operands.getD 1 [])).2≠0 then ((value 0 st.names (w.operands.getD 1 [])).2,st)
 else leaveP w at_ { st with names:=st.names++[(w.operands.headD [],(value 0 st.names (w.operands.getD 1 [])).1)] }
def lineP (call:MacP→WordsP→Nat→StP→Int×StP) (inM:Bool) (w:WordsP) (at_:Nat) (opens:List OpenP) (st:StP):Int×List OpenP×Option MacP×StP:=
 if w.op=opIf then ((ifP w opens st).1,(ifP w opens st).2,none,st)
 else if w.op=opElse then ((elseP w opens).1,(elseP w opens).2,none,st)
 else if w.op=opEndif then ((endifP w opens).1,(endifP w opens).2,none,st)
 else if w.op=opMacro then ((defP inM w st).1,opens,(defP inM w st).2,st)
 else if w.op=opEnd then (2,opens,none,st)
 else if w.op=opSet then ((setP w at_ st).1,opens,none,(setP w at_ st).2)
 else match findM st.macros w.op with
  |some m=>((call m w at_ st).1,opens,none,(call m w at_ st).2)
  |none=>((leaveP w at_ st).1,opens,none,(leaveP w at_ st).2)
def passP (w:WordsP) (opens:List OpenP) (st:StP):Int×List OpenP:=
 if w.op=opIf then ifP w opens st else if w.op=opElse then elseP w opens else if w.op=opEndif then endifP w opens else (0,opens)
def readP (sub:Option (List (List UInt8)×List (List UInt8))) (over:Bool) (s:List UInt8):Int×WordsP:=
 match sub,over with
 |some (ps,os),false=>if (filledP ps os s).1≠0 then ((filledP ps os s).1,⟨[],[],[]⟩) else (0,wordsP (cutL (filledP ps os s).2))
 |_,_=>(0,wordsP (cutL s))
def blockP (call:MacP→WordsP→Nat→StP→Int×StP) (sub:Option (List (List UInt8)×List (List UInt8))) (inc:Nat):List (List UInt8)→Nat→List OpenP→Option MacP→StP→Int×Nat×StP
 |[],at_,opens,d,st=>if opens=[]∧d.isNone then (0,at_,st) else (2,at_,st)
 |l::r,at_,opens,some d,st =>
  if (collP d (cutL l) st).1≠0 then ((collP d (cutL l) st).1,at_+inc,st)
  else blockP call sub inc r (at_+inc) opens (collP d (cutL l) st).2.1 (collP d (cutL l) st).2.2
 |l::r,at_,opens,none,st =>
  if overP opens then
   if (passP (wordsP (cutL l)) opens st).1≠0 then ((passP (wordsP (cutL l)) opens st).1,at_+inc,st)
   else blockP call sub inc r (at_+inc) (passP (wordsP (cutL l)) opens st).2 none st
  else if (readP sub false (cutL l)).1≠0 then ((readP sub false (cutL l)).1,at_+inc,st)
  else if (lineP call sub.isSome (readP sub false (cutL l)).2 (at_+inc) opens st).1≠0 then ((lineP call sub.isSome (readP sub false (cutL l)).2 (at_+inc) opens st).1,at_+inc,st)
  else blockP call sub inc r (at_+inc) (lineP call sub.isSome (readP sub false (cutL l)).2 (at_+inc) opens st).2.1 (lineP call sub.isSome (readP sub false (cutL l)).2 (at_+inc) opens st).2.2.1 (lineP call sub.isSome (readP sub false (cutL l)).2 (at_+inc) opens st).2.2.2
def callN:Nat→MacP→WordsP→Nat→StP→Int×StP
 |0,_,_,_,st=>(2,st)
 |n+1,m,w,at_,st =>
  if ¬w.operands.length=m.params.length then (4,st)
  else if 200≤st.calls then (8,st)
  else if (leaveP ⟨w.label,[],[]⟩ at_ st).1≠0 then ((leaveP ⟨w.label,[],[]⟩ at_ st).1,st)
  else ((blockP (callN n) (some (m.params,w.operands)) 0 m.lines at_ [] none { (leaveP ⟨w.label,[],[]⟩ at_ st).2 with calls:=st.calls+1 }).1,
   (blockP (callN n) (some (m.params,w.operands)) 0 m.lines at_ [] none { (leaveP ⟨w.label,[],[]⟩ at_ st).2 with calls:=st.calls+1 }).2.2)
def badLine:List (List UInt8)→Nat→Nat
 |[],_=>0
 |l::r,k=>if okLine l then badLine r (k+1) else k
def noSt:StP:=⟨[],[],[],0⟩
def expandP (s:List UInt8):Int×Nat×List (List UInt8×Nat):=
 if 3000<s.length then (1,0,[])
 else if badLine (splitB 10 s) 1≠0 then (1,badLine (splitB 10 s) 1,[])
 else if (blockP (callN 8) none 1 (splitB 10 s) 0 [] none noSt).1≠0 then ((blockP (callN 8) none 1 (splitB 10 s) 0 [] none noSt).1,(blockP (callN 8) none 1 (splitB 10 s) 0 [] none noSt).2.1,[])
 else (0,0,(blockP (callN 8) none 1 (splitB 10 s) 0 [] none noSt).2.2.out)
def bodyP (d:List (List UInt8)):List (List UInt8)→Int×List (List UInt8)×Nat
 |[]=>(2,d,0)
 |l::r =>
  if (wordsP (cutL l)).op=opMacro then (2,d,1)
  else if (wordsP (cutL l)).op=opEnd then (if bareW (wordsP (cutL l)) then 0 else 4,d,1)
  else ((bodyP (d++[cutL l]) r).1,(bodyP (d++[cutL l]) r).2.1,(bodyP (d++[cutL l]) r).2.2+1)
theorem bodyP_len (ls:List (List UInt8)):∀d,(bodyP d ls).2.2≤ls.length:=by
 induction ls with
 |nil=>intro d;simp [bodyP]
 |cons l r ih =>
  intro d
  simp only [bodyP]
  split
  ·simp
  ·split
   ·simp
   ·have:=ih (d++[cutL l]);simp;omega
theorem blockP_def (call:MacP→WordsP→Nat→StP→Int×StP) (sub:Option (List (List UInt8)×List (List UInt8))) (opens:List OpenP) (st:StP) (ls:List (List UInt8)) :
  ∀(at_:Nat) (d:MacP),blockP call sub 1 ls at_ opens (some d) st =
   if (bodyP d.lines ls).1≠0 then ((bodyP d.lines ls).1,at_+(bodyP d.lines ls).2.2,st)
   else blockP call sub 1 (ls.drop (bodyP d.lines ls).2.2) (at_+(bodyP d.lines ls).2.2) opens none { st with macros:=st.macros++[{ d with lines:=(bodyP d.lines ls).2.1 }] }:=by
 induction ls with
 |nil=>intro at_ d;simp [blockP,bodyP]
 |cons l r ih =>
  intro at_ d
  simp only [blockP,bodyP,collP]
  by_cases h1:(wordsP (cutL l)).op=opMacro
  ·simp [h1]
  ·by_cases h2:(wordsP (cutL l)).op=opEnd
   ·by_cases h3:bareW (wordsP (cutL l))=true
    ·simp [h2,h3,show ¬opEnd=opMacro by decide]
    ·simp [h2,h3,show ¬opEnd=opMacro by decide]
   ·simp only [if_neg h1,if_neg h2,ne_eq,not_true_eq_false,if_false]
    rw [ih]
    simp only [show ∀n:Nat,at_+1+n=at_+(n+1) from fun n=>by omega,List.drop_succ_cons]
structure OpnP where
 kind:Nat
 regs:Nat
 code:Nat
 long:Nat
 width:Nat
def noOpn:OpnP:=⟨0,0,0,0,0⟩
def oNop:List UInt8:=[110,111,112]
def oRet:List UInt8:=[114,101,116]
def oMov:List UInt8:=[109,111,118]
def oAdd:List UInt8:=[97,100,100]
def oSub:List UInt8:=[115,117,98]
def oLoad:List UInt8:=[108,111,97,100]
def oCall:List UInt8:=[99,97,108,108]
def oJmp:List UInt8:=[106,109,112]
def oJz:List UInt8:=[106,122]
def oByte:List UInt8:=[46,98,121,116,101]
def oWord:List UInt8:=[46,119,111,114,100]
def oSpace:List UInt8:=[46,115,112,97,99,101]
def oAlign:List UInt8:=[46,97,108,105,103,110]
def opnP (op:List UInt8):Option OpnP:=
 if op=oNop then some ⟨1,0,0,0,0⟩
 else if op=oRet then some ⟨1,0,161,0,0⟩
 else if op=oMov then some ⟨1,2,64,0,0⟩
 else if op=oAdd then some ⟨1,2,80,0,0⟩
 else if op=oSub then some ⟨1,2,96,0,0⟩
 else if op=oLoad then some ⟨2,1,16,0,1⟩
 else if op=oCall then some ⟨2,0,160,0,2⟩
 else if op=oJmp then some ⟨3,0,128,129,2⟩
 else if op=oJz then some ⟨3,1,132,136,2⟩
 else if op=oByte then some ⟨4,0,0,0,1⟩
 else if op=oWord then some ⟨4,0,0,0,2⟩
 else if op=oSpace then some ⟨5,0,0,0,0⟩
 else if op=oAlign then some ⟨6,0,0,0,0⟩
 else none
structure StmP where
 w:WordsP
 txt:List UInt8
 frm:Nat
 o:OpnP
 added:Nat
 count:Nat
 val:Int
 at_:Int
 long:Bool
def StmP.exprs (s:StmP):List (List UInt8):=s.w.operands.drop s.o.regs
def nameP (s:StmP):List (List UInt8×Int):=if s.w.op=opSet then [(s.w.operands.headD [],s.val)] else if s.w.label=[] then [] else [(s.w.label,s.at_)]
def namesP (l:List StmP):List (List UInt8×Int):=l.flatMap nameP
def setOf (s:StmP):List (List UInt8×Int):=if s.w.op=opSet then [(s.w.operands.headD [],s.val)] else []
def setsP (l:List StmP):List (List UInt8×Int):=l.flatMap setOf
def regsP:List (List UInt8)→Nat→Option Nat
 |[],a=>some a
 |r::t,a=>if regB r then regsP t (4*a+(regV r).toNat) else none
def takesP (o:OpnP) (n:Nat):Bool:=if o.kind=1 then decide (n=o.regs) else if o.kind=4 then decide (o.regs+1≤n) else decide (n=o.regs+1)
def alignB (v:Int):Bool:=decide (v=1∨v=2∨v=4∨v=8∨v=16)
def countP (kind:Nat) (sets:List (List UInt8×Int)) (e:List UInt8):Int×Nat:=
 if (value 0 sets e).2≠0 then ((value 0 sets e).2,0)
 else if (value 0 sets e).1<0∨1000<(value 0 sets e).1∨(kind=6∧alignB (value 0 sets e).1=false) then (7,0)
 else (0,(value 0 sets e).1.toNat)
def operandsP (o:OpnP) (ops:List (List UInt8)) (sets:List (List UInt8×Int)):Int×Nat×Nat:=
 if takesP o ops.length=false then (4,0,0)
 else match regsP (ops.take o.regs) 0 with
  |none=>(4,0,0)
  |some a=>if o.kind=5∨o.kind=6 then ((countP o.kind sets ((ops.drop o.regs).headD [])).1,a,(countP o.kind sets ((ops.drop o.regs).headD [])).2) else (0,a,0)
def lookP (l:List StmP) (W:WordsP) (txt:List UInt8) (frm:Nat):Int×StmP:=
 if W.op=opSet then
  if hasN (namesP l) (W.operands.headD []) then (5,⟨W,txt,frm,noOpn,0,0,0,0,false⟩)
  else (0,⟨W,txt,frm,noOpn,0,0,(value 0 (setsP l) (W.operands.getD 1 [])).1,0,false⟩)
 else if (opnP W.op).isNone∧W.op≠[] then (3,⟨W,txt,frm,noOpn,0,0,0,0,false⟩)
 else if W.label≠[]∧hasN (namesP l) W.label then (5,⟨W,txt,frm,noOpn,0,0,0,0,false⟩)
 else match opnP W.op with
  |none=>(0,⟨W,txt,frm,noOpn,0,0,0,0,false⟩)
  |some o=>((operandsP o W.operands (setsP l)).1,⟨W,txt,frm,o,(operandsP o W.operands (setsP l)).2.1,(operandsP o W.operands (setsP l)).2.2,0,0,false⟩)
def lookAll:List (List UInt8×Nat)→List StmP→Int×Nat×List StmP
 |[],l=>(0,0,l)
 |(t,n)::r,l=>if (lookP l (wordsP t) t n).1≠0 then ((lookP l (wordsP t) t n).1,n,l) else lookAll r (l++[(lookP l (wordsP t) t n).2])
def sizeP (s:StmP):Nat:=
 if s.o.kind=1 then 1
 else if s.o.kind=2 then 1+s.o.width
 else if s.o.kind=3 then (if s.long then 3 else 2)
 else if s.o.kind=4 then s.o.width*s.exprs.length
 else if s.o.kind=5 then s.count
 else if s.o.kind=6 then (s.count-s.at_.toNat%s.count)%s.count
 else 0
def laidP:List StmP→Nat→List StmP
 |[],_=>[]
 |s::r,a=>{ s with at_:=a }::laidP r (a+sizeP { s with at_:=a })
def endP:List StmP→Nat→Nat
 |[],a=>a
 |s::r,a=>endP r (a+sizeP { s with at_:=a })
def farP (all:List (List UInt8×Int)) (s:StmP):Int:=(value s.at_ all (s.exprs.headD [])).1-(s.at_+2)
def growsP (all:List (List UInt8×Int)) (s:StmP):Bool:=
 decide (s.o.kind=3)&&!s.long&&decide ((value s.at_ all (s.exprs.headD [])).2=0)&&(decide (farP all s < -128) || decide (127<farP all s))
def longP (all:List (List UInt8×Int)) (s:StmP):StmP:=if growsP all s then { s with long:=true } else s
def findP:Nat→List StmP→List StmP
 |0,l=>l
 |n+1,l=>if l.any (growsP (namesP l)) then findP n (laidP (l.map (longP (namesP l))) 0) else l
def byteP (v:Int):UInt8:=UInt8.ofNat (v%256).toNat
def numP (width:Nat) (v:Int):Int×List UInt8:=
 if width=1 then (if v < -128∨255<v then (7,[]) else (0,[byteP v]))
 else (if v < -32768∨65535<v then (7,[]) else (0,[byteP v,byteP (v / 256)]))
def exprsP (all:List (List UInt8×Int)) (at_:Int) (width:Nat):List (List UInt8)→Int×List UInt8
 |[]=>(0,[])
 |e::r =>
  if (value at_ all e).2≠0 then ((value at_ all e).2,[])
  else if (numP width (value at_ all e).1).1≠0 then ((numP width (value at_ all e).1).1,[])
  else if (exprsP all at_ width r).1≠0 then ((exprsP all at_ width r).1,[])
  else (0,(numP width (value at_ all e).1).2++(exprsP all at_ width r).2)
def behind (c:Int) (x:Int×List UInt8):Int×List UInt8:=if x.1≠0 then (x.1,[]) else (0,byteP c::x.2)
def bytesP (all:List (List UInt8×Int)) (s:StmP):Int×List UInt8:=
 if s.o.kind=1∨s.o.kind=2 then behind (s.o.code+s.added:Nat) (exprsP all s.at_ s.o.width s.exprs)
 else if s.o.kind=3 then
  if s.long then behind (s.o.long+s.added:Nat) (exprsP all s.at_ s.o.width s.exprs)
  else if (value s.at_ all (s.exprs.headD [])).2≠0 then ((value s.at_ all (s.exprs.headD [])).2,[])
  else (0,[byteP (s.o.code+s.added:Nat),byteP (farP all s)])
 else if s.o.kind=4 then exprsP all s.at_ s.o.width s.exprs
 else if s.o.kind=5∨s.o.kind=6 then (0,List.replicate (sizeP s) 0)
 else (0,[])
def allBytes (all:List (List UInt8×Int)):List StmP→Int×Nat×List UInt8
 |[]=>(0,0,[])
 |s::r =>
  if (bytesP all s).1≠0 then ((bytesP all s).1,s.frm,[])
  else if (allBytes all r).1≠0 then ((allBytes all r).1,(allBytes all r).2.1,[])
  else (0,0,(bytesP all s).2++(allBytes all r).2.2)
structure ProgP where
 bytes:List UInt8
 stms:List StmP
def noProg:ProgP:=⟨[],[]⟩
def placedP (l:List StmP):List StmP:=findP (l.length+1) (laidP l 0)
def makeP (l:List StmP):Int×Nat×ProgP:=
 if 1000<endP (placedP l) 0 then (8,0,noProg)
 else if (allBytes (namesP (placedP l)) (placedP l)).1≠0 then ((allBytes (namesP (placedP l)) (placedP l)).1,(allBytes (namesP (placedP l)) (placedP l)).2.1,noProg)
 else (0,0,⟨(allBytes (namesP (placedP l)) (placedP l)).2.2,placedP l⟩)
def assembleP (s:List UInt8):Int×Nat×ProgP:=
 if (expandP s).1≠0 then ((expandP s).1,(expandP s).2.1,noProg)
 else if (lookAll (expandP s).2.2 []).1≠0 then ((lookAll (expandP s).2.2 []).1,(lookAll (expandP s).2.2 []).2.1,noProg)
 else makeP (lookAll (expandP s).2.2 []).2.2
theorem laidP_len (l:List StmP):∀a,(laidP l a).length=l.length:=by
 induction l with
 |nil=>intro a;rfl
 |cons s r ih=>intro a;simp [laidP,ih]
theorem endP_laid (l:List StmP):∀a,endP (laidP l a) a=endP l a:=by
 induction l with
 |nil=>intro a;rfl
 |cons s r ih=>intro a;simp only [laidP,endP];exact ih _
theorem findP_len:∀(n:Nat) (l:List StmP),(findP n l).length=l.length
 |0,l=>rfl
 |n+1,l=>by
  simp only [findP]
  split
  ·rw [findP_len n,laidP_len,List.length_map]
  ·rfl
theorem any_map_id {all:List (List UInt8×Int)}{l:List StmP}(h:l.any (growsP all)=false):l.map (longP all)=l:=by
 induction l with
 |nil=>rfl
 |cons s r ih =>
  simp only [List.any_cons,Bool.or_eq_false_iff] at h
  simp [longP,h.1,ih h.2]
def shorts (l:List StmP):Nat:=l.countP fun s=>!s.long
theorem shorts_laid (l:List StmP):∀a,shorts (laidP l a)=shorts l:=by
 induction l with
 |nil=>intro a;rfl
 |cons s r ih =>
  intro a
  have:=ih (a+sizeP { s with at_:=a })
  simp only [shorts] at this ⊢
  simp only [laidP,List.countP_cons,this]
theorem longP_short (all:List (List UInt8×Int)) (s:StmP) (h:(!(longP all s).long)=true):(!s.long)=true:=by
 unfold longP at h
 split at h
 ·simp at h
 ·exact h
theorem shorts_map (all:List (List UInt8×Int)) (l:List StmP):shorts (l.map (longP all))≤shorts l:=by
 induction l with
 |nil=>simp [shorts]
 |cons s r ih =>
  simp only [shorts] at ih ⊢
  simp only [List.map_cons,List.countP_cons]
  have h:=longP_short all s
  split<;>split<;>first|omega|(rename_i a b;exact absurd (h a) b)
theorem shorts_less {all:List (List UInt8×Int)}{l:List StmP}(h:l.any (growsP all)=true):shorts (l.map (longP all))<shorts l:=by
 induction l with
 |nil=>simp at h
 |cons s r ih =>
  simp only [List.any_cons,Bool.or_eq_true] at h
  have h2:=shorts_map all r
  simp only [shorts] at ih h2 ⊢
  simp only [List.map_cons,List.countP_cons]
  rcases h with h|h
  ·have h3:s.long=false:=by unfold growsP at h;simp at h;exact h.1.1.2
   have h5:(!(longP all s).long)=false:=by simp [longP,h]
   have h6:(!s.long)=true:=by simp [h3]
   rw [if_neg (by simp [h5]),if_pos h6]
   omega
  ·have h1:=ih h
   have h4:=longP_short all s
   split<;>split<;>first|omega|(rename_i a b;exact absurd (h4 a) b)
theorem shorts_le (l:List StmP):shorts l≤l.length:=List.countP_le_length
def noBl (l:List UInt8):Prop:=∀c∈l,¬(c.toNat:Int)=32
def noCm (l:List UInt8):Prop:=∀c∈l,¬(c.toNat:Int)=44
structure GoodW (W:WordsP):Prop where
 label:W.label=[]∨nameB W.label=true
 op:noBl W.op
 first:W.label=[]→labelB W.op=false
 none:W.op=[]→W.operands=[]
 ops:∀o∈W.operands,noBl o∧noCm o
 some:W.operands≠[[]]
theorem solid_app {a b:List UInt8}(h:noBl a):solid (a++b)=a.length+solid b:=by
 induction a with
 |nil=>simp
 |cons c r ih =>
  simp only [List.cons_append,solid,if_neg (h c (by simp)),List.length_cons]
  rw [ih (fun x hx=>h x (by simp [hx]))];omega
theorem solid_blank (l:List UInt8):solid (32::l)=0:=by simp [solid]
theorem blanks_blank (l:List UInt8):blanks (32::l)=blanks l+1:=by simp [blanks]
theorem solid_nil:solid []=0:=rfl
theorem wordOf_word {a b:List UInt8}(ha:noBl a) (h0:a≠[]) (hb:b=[]∨∃c,b=32::c):wordOf (a++b)=a∧restOf (a++b)=b:=by
 have h1:blanks (a++b)=0:=by
  cases a with
  |nil=>exact absurd rfl h0
  |cons c r=>simp [blanks,ha c (by simp)]
 have h2:solid (a++b)=a.length:=by
  rw [solid_app ha]
  rcases hb with rfl|⟨c,rfl⟩
  ·simp [solid_nil]
  ·simp [solid_blank]
 unfold wordOf restOf
 rw [h1,List.drop_zero,h2]
 simp
theorem wordOf_blank (l:List UInt8):wordOf (32::l)=wordOf l∧restOf (32::l)=restOf l:=by
 unfold wordOf restOf
 rw [blanks_blank,List.drop_succ_cons]
 refine ⟨rfl,?_⟩
 rw [show blanks l+1+solid (List.drop (blanks l) l)=(blanks l+solid (List.drop (blanks l) l))+1 from by omega,List.drop_succ_cons]
theorem wordOf_nil:wordOf []=[]∧restOf []=[]:=⟨rfl,rfl⟩
theorem noBlank_app (a b:List UInt8):noBlank (a++b)=noBlank a++noBlank b:=List.filter_append ..
theorem noBlank_id {l:List UInt8}(h:noBl l):noBlank l=l:=by
 unfold noBlank
 rw [List.filter_eq_self]
 intro c hc;simpa using h c hc
theorem noBlank_joined (ops:List (List UInt8)) (h:∀o∈ops,noBl o):noBlank (joined false ops)=joined false ops:=by
 induction ops with
 |nil=>rfl
 |cons o r ih =>
  simp only [joined]
  rw [show (44::o++joined false r:List UInt8)=[44]++(o++joined false r) from rfl,noBlank_app,noBlank_app,ih (fun x hx=>h x (by simp [hx])),noBlank_id (h o (by simp))]
  rfl
theorem splitOn_skip (s o l:List UInt8) (h:noCm o):splitOn 44 s (o++l)=splitOn 44 (s++o) l:=by
 induction o generalizing s with
 |nil=>simp
 |cons c r ih =>
  rw [List.cons_append,splitOn_miss _ _ _ _ (h c (by simp)),ih _ (fun x hx=>h x (by simp [hx]))]
  simp
theorem splitOn_joined (ops:List (List UInt8)) (h:∀o∈ops,noCm o):∀s,splitOn 44 s (joined false ops)=s::ops:=by
 induction ops with
 |nil=>intro s;rw [joined,splitOn_end]
 |cons o r ih =>
  intro s
  simp only [joined]
  rw [show (44::o++joined false r:List UInt8)=44::(o++joined false r) from rfl,splitOn_hit _ _ _ _ (by rfl),splitOn_skip _ _ _ (h o (by simp)),List.nil_append,ih (fun x hx=>h x (by simp [hx]))]
theorem operandsOf_joined {ops:List (List UInt8)}(h:∀o∈ops,noBl o∧noCm o) (hs:ops≠[[]]):operandsOf (joined true ops)=ops:=by
 cases ops with
 |nil=>rfl
 |cons o r =>
  have h1:noBlank (joined true (o::r))=o++joined false r:=by
   simp only [joined]
   rw [show (32::o++joined false r:List UInt8)=[32]++(o++joined false r) from rfl,noBlank_app,noBlank_app,noBlank_joined r (fun x hx=>(h x (by simp [hx])).1),noBlank_id (h o (by simp)).1]
   rfl
  have h2:o++joined false r≠[]:=by
   intro e
   rw [List.append_eq_nil_iff] at e
   obtain ⟨e1,e2⟩:=e
   cases r with
   |nil=>exact hs (by rw [e1])
   |cons a b=>simp [joined] at e2
  unfold operandsOf
  rw [h1,if_neg h2,←splitOn_nil,splitOn_skip _ _ _ (h o (by simp)).2,List.nil_append,splitOn_joined r (fun x hx=>(h x (by simp [hx])).2)]
theorem joined_head (ops:List (List UInt8)):joined true ops=[]∨∃c,joined true ops=32::c:=by
 cases ops with
 |nil=>exact Or.inl rfl
 |cons o r=>exact Or.inr ⟨o++joined false r,rfl⟩
theorem nameB_noBl {l:List UInt8}(h:nameB l=true):noBl l∧l≠[]:=by
 cases l with
 |nil=>cases h
 |cons c r =>
  refine ⟨?_,by simp⟩
  simp only [nameB,Bool.and_eq_true] at h
  intro x hx
  have h1:=h.2
  unfold allNb at h1
  rw [List.all_eq_true] at h1
  have:=h1 x hx
  simp only [nbB,decide_eq_true_eq] at this
  omega
theorem labelB_name {l:List UInt8}(h:nameB l=true):labelB (l++[58])=true:=by
 have h0:=(nameB_noBl h).2
 have h1:0<l.length:=List.length_pos_iff.2 h0
 unfold labelB
 simp only [Bool.and_eq_true,decide_eq_true_eq,List.dropLast_concat]
 refine ⟨⟨by simp;omega,?_⟩,h⟩
 rw [List.getLastD_eq_getLast?,List.getLast?_concat]
 rfl
theorem reread {W:WordsP}(h:GoodW W):wordsP (textP W)=W:=by
 obtain ⟨lb,op,ops⟩:=W
 rw [textP_head]
 simp only at *
 have hops:=operandsOf_joined h.ops h.some
 have hj:=joined_head ops
 rcases h.label with hl|hl
 ·have hl':lb=[]:=hl
  subst hl'
  by_cases h0:op=[]
  ·have h1:ops=[]:=h.none h0
   subst h0 h1
   rfl
  ·obtain ⟨h1,h2⟩:=wordOf_word h.op h0 hj
   have h3:labelB op=false:=h.first rfl
   have h4:headP [] op=op:=by unfold headP;simp [h0]
   rw [h4]
   unfold wordsP
   rw [h1,h3,if_neg (by simp),h2,hops]
 ·have hl':nameB lb=true:=hl
  obtain ⟨hn1,hn2⟩:=nameB_noBl hl'
  have hlb:=labelB_name hl'
  have hc:noBl (lb++[58]):=by
   intro x hx
   rcases List.mem_append.1 hx with hx|hx
   ·exact hn1 x hx
   ·rw [List.mem_singleton] at hx;subst hx;decide
  by_cases h0:op=[]
  ·have h1:ops=[]:=h.none h0
   subst h0 h1
   have h4:headP lb []=lb++[58]:=by unfold headP;simp [hn2]
   rw [h4]
   obtain ⟨h5,h6⟩:=wordOf_word hc (by simp) (b:=joined true []) hj
   unfold wordsP
   rw [h5,hlb,if_pos rfl,h6]
   simp [joined,wordOf_nil]
   rfl
  ·have h4:headP lb op=(lb++[58])++(32::op):=by unfold headP;simp [hn2,h0]
   rw [h4,List.append_assoc]
   obtain ⟨h5,h6⟩:=wordOf_word hc (by simp) (b:=32::op++joined true ops) (Or.inr ⟨op++joined true ops,rfl⟩)
   obtain ⟨h7,h8⟩:=wordOf_word h.op h0 hj
   obtain ⟨h9,h10⟩:=wordOf_blank (op++joined true ops)
   unfold wordsP
   rw [h5,hlb,if_pos rfl,h6]
   simp only [List.cons_append] at *
   rw [h9,h10,h7,h8,hops]
   simp
theorem solid_noBl (l:List UInt8):noBl (l.take (solid l)):=by
 induction l with
 |nil=>intro c hc;simp at hc
 |cons c r ih =>
  simp only [solid]
  split
  ·intro x hx;simp at hx
  ·rename_i h
   intro x hx
   simp only [List.take_succ_cons,List.mem_cons] at hx
   rcases hx with rfl|hx
   ·exact h
   ·exact ih x hx
theorem wordOf_noBl (l:List UInt8):noBl (wordOf l):=solid_noBl _
theorem blanks_drop (l:List UInt8):l.drop (blanks l)=[]∨∃c r,l.drop (blanks l)=c::r∧¬(c.toNat:Int)=32:=by
 induction l with
 |nil=>exact Or.inl rfl
 |cons c r ih =>
  simp only [blanks]
  split
  ·simpa using ih
  ·rename_i h
   exact Or.inr ⟨c,r,rfl,h⟩
theorem wordOf_none {l:List UInt8}(h:wordOf l=[]):restOf l=[]:=by
 unfold wordOf at h
 unfold restOf
 rcases blanks_drop l with h1|⟨c,r,h1,h2⟩
 ·rw [h1,solid_nil,Nat.add_zero,h1]
 ·rw [h1] at h
  simp [solid,h2] at h
theorem splitB_parts (l:List UInt8):(∀o∈splitB 44 l,noCm o∧∀c∈o,c∈l)∧(splitB 44 l=[[]]→l=[]):=by
 induction l with
 |nil=>simp [splitB,noCm]
 |cons c r ih =>
  have hne:=splitB_ne 44 r
  simp only [splitB]
  split
  ·rename_i hc
   refine ⟨fun o ho=>?_,fun e=>?_⟩
   ·rcases List.mem_cons.1 ho with rfl|ho
    ·exact ⟨(fun x hx=>by cases hx),(fun x hx=>by cases hx)⟩
    ·exact ⟨(ih.1 o ho).1,fun x hx=>List.mem_cons_of_mem _ ((ih.1 o ho).2 x hx)⟩
   ·simp at e;exact absurd e hne
  ·rename_i hc
   cases hs:splitB 44 r with
   |nil=>exact absurd hs hne
   |cons a b =>
    rw [hs] at ih
    refine ⟨fun o ho=>?_,fun e=>by simp at e⟩
    rcases List.mem_cons.1 ho with rfl|ho
    ·have h1:=ih.1 a (by simp)
     refine ⟨fun x hx=>?_,fun x hx=>?_⟩
     ·rcases List.mem_cons.1 hx with rfl|hx
      ·exact hc
      ·exact h1.1 x hx
     ·rcases List.mem_cons.1 hx with rfl|hx
      ·simp
      ·exact List.mem_cons_of_mem _ (h1.2 x hx)
    ·have h1:=ih.1 o (by simp [ho])
     exact ⟨h1.1,fun x hx=>List.mem_cons_of_mem _ (h1.2 x hx)⟩
theorem operandsOf_good (l:List UInt8):(∀o∈operandsOf l,noBl o∧noCm o)∧operandsOf l≠[[]]:=by
 unfold operandsOf
 split
 ·exact ⟨(fun o ho=>by cases ho),by simp⟩
 ·rename_i h
  obtain ⟨h1,h2⟩:=splitB_parts (noBlank l)
  refine ⟨fun o ho=>⟨fun c hc=>?_,(h1 o ho).1⟩,fun e=>h (h2 e)⟩
  have:=(h1 o ho).2 c hc
  unfold noBlank at this
  simpa using (List.mem_filter.1 this).2
theorem operandsOf_nil:operandsOf []=[]:=rfl
theorem good_words (l:List UInt8):GoodW (wordsP l):=by
 unfold wordsP
 split
 ·rename_i h
  have h1:nameB (wordOf l).dropLast=true:=by unfold labelB at h;simp only [Bool.and_eq_true] at h;exact h.2
  obtain ⟨h2,h3⟩:=operandsOf_good (restOf (restOf l))
  exact ⟨Or.inr h1,wordOf_noBl _,(fun e=>by have h0:=(nameB_noBl h1).2;exact absurd e h0),(fun e=>by show operandsOf _=[];rw [wordOf_none e];rfl),h2,h3⟩
 ·rename_i h
  obtain ⟨h2,h3⟩:=operandsOf_good (restOf l)
  exact ⟨Or.inl rfl,wordOf_noBl _,(fun _=>by simpa using h),(fun e=>by show operandsOf _=[];rw [wordOf_none e];rfl),h2,h3⟩
theorem good_label {W:WordsP}(h:GoodW W):GoodW ⟨W.label,[],[]⟩:=
 ⟨h.label,(fun c hc=>by cases hc),(fun _=>rfl),(fun _=>rfl),(fun o ho=>by cases ho),by simp⟩
theorem wordRest_len (l:List UInt8):(wordOf l).length+(restOf l).length≤l.length:=by
 unfold wordOf restOf
 have h1:=blanks_le l
 have h2:=solid_le (l.drop (blanks l))
 simp only [List.length_drop,List.length_take] at *
 omega
theorem restOf_head (l:List UInt8):restOf l=[]∨∃c,restOf l=32::c:=by
 unfold restOf
 rw [←List.drop_drop]
 generalize l.drop (blanks l)=m
 induction m with
 |nil=>exact Or.inl rfl
 |cons c r ih =>
  simp only [solid]
  split
  ·rename_i h
   refine Or.inr ⟨r,?_⟩
   rw [List.drop_zero]
   congr 1
   apply UInt8.toNat_inj.1
   have:c.toNat=32:=by omega
   rw [this];rfl
  ·simpa using ih
theorem splitB_sum (l:List UInt8):sumLen (splitB 44 l)=l.length+1:=by
 induction l with
 |nil=>rfl
 |cons c r ih =>
  simp only [splitB]
  split
  ·unfold sumLen at ih ⊢
   simp only [List.map_cons,List.sum_cons,ih,List.length_cons,List.length_nil];omega
  ·have hne:=splitB_ne 44 r
   cases hs:splitB 44 r with
   |nil=>exact absurd hs hne
   |cons a b =>
    rw [hs] at ih
    unfold sumLen at ih ⊢
    simp only [List.map_cons,List.sum_cons,List.length_cons] at ih ⊢
    omega
theorem joined_rest {r:List UInt8}(h:r=[]∨∃c,r=32::c):(joined true (operandsOf r)).length≤r.length:=by
 unfold operandsOf
 split
 ·simp [joined]
 ·rename_i h0
  rw [joined_len,splitB_sum]
  rcases h with rfl|⟨c,rfl⟩
  ·exact absurd rfl h0
  ·have h1:noBlank (32::c)=noBlank c:=rfl
   rw [h1]
   have:(noBlank c).length≤c.length:=List.length_filter_le _ _
   simp only [List.length_cons];omega
theorem headP_lab {lb:List UInt8}(h:lb≠[]):(headP lb []).length=lb.length+1:=by simp [headP,h]
theorem headP_op {op:List UInt8}(h:op≠[]):(headP [] op).length=op.length:=by simp [headP,h]
theorem headP_both {lb op:List UInt8}(h:lb≠[]) (k:op≠[]):(headP lb op).length=lb.length+2+op.length:=by simp [headP,h,k];omega
theorem textP_len (l:List UInt8):(textP (wordsP l)).length≤l.length:=by
 have h1:=wordRest_len l
 have h2:=restOf_head l
 rw [textP_head]
 unfold wordsP
 split
 ·rename_i h
  have h3:1<(wordOf l).length:=by unfold labelB at h;simp only [Bool.and_eq_true,decide_eq_true_eq] at h;exact h.1.1
  have h4:=wordRest_len (restOf l)
  have h5:=joined_rest (restOf_head (restOf l))
  show (headP (wordOf l).dropLast (wordOf (restOf l))++joined true (operandsOf (restOf (restOf l)))).length≤_
  have hd:(wordOf l).dropLast≠[]:=by
   intro e
   have:=congrArg List.length e
   simp at this
   omega
  have hdl:(wordOf l).dropLast.length=(wordOf l).length-1:=List.length_dropLast
  by_cases h0:wordOf (restOf l)=[]
  ·rw [h0,wordOf_none h0,operandsOf_nil,List.length_append,headP_lab hd]
   simp only [joined,List.length_nil]
   omega
  ·rw [List.length_append,headP_both hd h0]
   rcases h2 with h2|⟨c,h2⟩
   ·rw [h2] at h0;exact absurd rfl h0
   ·rw [h2] at h1 h4 h5 ⊢
    obtain ⟨h6,h7⟩:=wordOf_blank c
    rw [h6,h7] at h4
    rw [h7] at h5
    rw [h6,h7]
    have h8:=wordRest_len c
    simp only [List.length_cons] at h1 h4 h5
    omega
 ·have h5:=joined_rest h2
  show (headP [] (wordOf l)++joined true (operandsOf (restOf l))).length≤_
  by_cases h0:wordOf l=[]
  ·rw [h0,wordOf_none h0,operandsOf_nil]
   simp [joined,headP]
  ·rw [List.length_append,headP_op h0]
   omega
def okC (c:UInt8):Prop:=okByte c=true∧¬(c.toNat:Int)=59
theorem ok_32:okC 32∧okC 44∧okC 58:=by unfold okC;decide
theorem mem_joined {c:UInt8}(ops:List (List UInt8)):∀b,c∈joined b ops→c=32∨c=44∨∃o∈ops,c∈o:=by
 induction ops with
 |nil=>intro b h;cases b<;>cases h
 |cons o r ih =>
  intro b h
  have h':(c=32∨c=44)∨c∈o∨c∈joined false r:=by
   cases b
   ·simp only [joined,List.cons_append,List.mem_cons,List.mem_append] at h
    rcases h with h|h|h
    ·exact Or.inl (Or.inr h)
    ·exact Or.inr (Or.inl h)
    ·exact Or.inr (Or.inr h)
   ·simp only [joined,List.cons_append,List.mem_cons,List.mem_append] at h
    rcases h with h|h|h
    ·exact Or.inl (Or.inl h)
    ·exact Or.inr (Or.inl h)
    ·exact Or.inr (Or.inr h)
  rcases h' with (h|h)|h|h
  ·exact Or.inl h
  ·exact Or.inr (Or.inl h)
  ·exact Or.inr (Or.inr ⟨o,by simp,h⟩)
  ·rcases ih false h with h|h|⟨o',h1,h2⟩
   ·exact Or.inl h
   ·exact Or.inr (Or.inl h)
   ·exact Or.inr (Or.inr ⟨o',by simp [h1],h2⟩)
structure OkW (W:WordsP):Prop where
 label:∀c∈W.label,okC c
 op:∀c∈W.op,okC c
 ops:∀o∈W.operands,∀c∈o,okC c
theorem OkW.text {W:WordsP}(h:OkW W):∀c∈textP W,okC c:=by
 intro c hc
 rw [textP_head] at hc
 rcases List.mem_append.1 hc with hc|hc
 ·unfold headP at hc
  have h1:=h.label c
  have h2:=h.op c
  split at hc
  ·split at hc
   ·cases hc
   ·rcases List.mem_append.1 hc with hc|hc
    ·exact h1 hc
    ·rw [List.mem_singleton] at hc;rw [hc];exact ok_32.2.2
  ·split at hc
   ·exact h2 hc
   ·simp only [List.mem_append,List.mem_cons,List.mem_nil_iff,or_false] at hc
    rcases hc with ((hc|hc)|hc)|hc
    ·exact h1 hc
    ·rw [hc];exact ok_32.2.2
    ·rw [hc];exact ok_32.1
    ·exact h2 hc
 ·rcases mem_joined _ _ hc with rfl|rfl|⟨o,ho,hc⟩
  ·exact ok_32.1
  ·exact ok_32.2.1
  ·exact h.ops o ho c hc
theorem mem_word {c:UInt8}{l:List UInt8}(h:c∈wordOf l):c∈l:=List.mem_of_mem_drop (List.mem_of_mem_take h)
theorem mem_rest {c:UInt8}{l:List UInt8}(h:c∈restOf l):c∈l:=List.mem_of_mem_drop h
theorem mem_opsOf {c:UInt8}{l o:List UInt8}(ho:o∈operandsOf l) (h:c∈o):c∈l:=by
 unfold operandsOf at ho
 split at ho
 ·cases ho
 ·exact (List.mem_filter.1 (((splitB_parts (noBlank l)).1 o ho).2 c h)).1
theorem okW_words {l:List UInt8}(h:∀c∈l,okC c):OkW (wordsP l):=by
 unfold wordsP
 split
 ·exact ⟨fun c hc=>h c (mem_word ((List.dropLast_sublist _).mem hc)),fun c hc=>h c (mem_rest (mem_word hc)),fun o ho c hc=>h c (mem_rest (mem_rest (mem_opsOf ho hc)))⟩
 ·exact ⟨(fun c hc=>by cases hc),fun c hc=>h c (mem_word hc),fun o ho c hc=>h c (mem_rest (mem_opsOf ho hc))⟩
theorem cut_mem {l:List UInt8}:∀c∈cutL l,c∈l∧¬(c.toNat:Int)=59:=by
 induction l with
 |nil=>intro c hc;cases hc
 |cons d r ih =>
  intro c hc
  simp only [cutL] at hc
  split at hc
  ·cases hc
  ·rename_i h
   rcases List.mem_cons.1 hc with rfl|hc
   ·exact ⟨by simp,h⟩
   ·exact ⟨by simp [(ih c hc).1],(ih c hc).2⟩
theorem cut_len (l:List UInt8):(cutL l).length≤l.length:=by
 induction l with
 |nil=>simp [cutL]
 |cons c r ih=>simp only [cutL];split<;>simp<;>omega
theorem cut_same {l:List UInt8}(h:∀c∈l,okC c):cutL l=l:=by
 induction l with
 |nil=>rfl
 |cons c r ih =>
  simp only [cutL]
  rw [if_neg (h c (by simp)).2,ih (fun d hd=>h d (by simp [hd]))]
structure SrcW (W:WordsP):Prop where
 good:GoodW W
 ok:OkW W
 len:(textP W).length≤80
theorem src_words {l:List UInt8}(h:∀c∈l,okByte c=true) (hl:l.length≤80):SrcW (wordsP (cutL l)):=
 ⟨good_words _,okW_words (fun c hc=>⟨h c (cut_mem c hc).1,(cut_mem c hc).2⟩),Nat.le_trans (textP_len _) (Nat.le_trans (cut_len l) hl)⟩
theorem src_label {W:WordsP}(h:SrcW W):SrcW ⟨W.label,[],[]⟩:=by
 refine ⟨good_label h.good,⟨h.ok.label,(fun c hc=>by cases hc),(fun o ho=>by cases ho)⟩,?_⟩
 have h1:=h.len
 rw [textP_head] at h1 ⊢
 simp only [joined,List.append_nil,List.length_append] at h1 ⊢
 unfold headP at h1 ⊢
 by_cases h0:W.label=[]
 ·simp [h0]
 ·simp only [h0,if_false,if_true] at h1 ⊢
  split at h1<;>simp only [List.length_append] at h1 ⊢<;>omega
def ctlB (op:List UInt8):Bool:=decide (op=opIf) || decide (op=opElse) || decide (op=opEndif) || decide (op=opMacro) || decide (op=opEnd)
structure LeftW (ns:List (List UInt8×Int)) (W:WordsP):Prop where
 src:SrcW W
 some:textP W≠[]
 ctl:ctlB W.op=false
 set:W.op=opSet→W.label=[]∧W.operands.length=2∧nameB (W.operands.headD [])=true∧hasN ns (W.operands.headD [])=false∧(value 0 ns (W.operands.getD 1 [])).2=0
def nextN (ns:List (List UInt8×Int)) (W:WordsP):List (List UInt8×Int):=if W.op=opSet then ns++[(W.operands.headD [],(value 0 ns (W.operands.getD 1 [])).1)] else ns
def endN (ns:List (List UInt8×Int)):List (List UInt8×Nat)→List (List UInt8×Int)
 |[]=>ns
 |x::r=>endN (nextN ns (wordsP x.1)) r
def ChainN (ns:List (List UInt8×Int)):List (List UInt8×Nat)→Prop
 |[]=>True
 |x::r=>LeftW ns (wordsP x.1)∧textP (wordsP x.1)=x.1∧ChainN (nextN ns (wordsP x.1)) r
theorem endN_app (a b:List (List UInt8×Nat)):∀ns,endN ns (a++b)=endN (endN ns a) b:=by
 induction a with
 |nil=>intro ns;rfl
 |cons x r ih=>intro ns;exact ih _
theorem chainN_app (a b:List (List UInt8×Nat)):∀ns,ChainN ns a→ChainN (endN ns a) b→ChainN ns (a++b):=by
 induction a with
 |nil=>intro ns _ h;exact h
 |cons x r ih=>intro ns h1 h2;exact ⟨h1.1,h1.2.1,ih _ h1.2.2 h2⟩
structure InvSt (st:StP):Prop where
 macs:∀m∈st.macros,∀l∈m.lines,∀c∈l,okByte c=true
 names:endN [] st.out=st.names
 chain:ChainN [] st.out
 few:st.out.length≤300
theorem chain_more {st:StP}(h:InvSt st) {W:WordsP}(hl:LeftW st.names W) (at_:Nat):endN [] (st.out++[(textP W,at_)])=nextN st.names W∧ChainN [] (st.out++[(textP W,at_)]):=by
 have hr:=reread hl.src.good
 refine ⟨?_,chainN_app _ _ _ h.chain ?_⟩
 ·rw [endN_app,h.names]
  simp only [endN]
  rw [hr]
 ·rw [h.names]
  simp only [ChainN]
  rw [hr]
  exact ⟨hl,rfl,trivial⟩
theorem leave_inv {st:StP}(h:InvSt st) {W:WordsP}(hs:SrcW W) (hc:ctlB W.op=false) (ho:¬W.op=opSet) (at_:Nat) (h0:(leaveP W at_ st).1=0):InvSt (leaveP W at_ st).2:=by
 unfold leaveP at h0 ⊢
 split at h0
 ·rw [if_pos (by assumption)];exact h
 ·rename_i h1
  rw [if_neg h1]
  split at h0
  ·cases h0
  ·rename_i h2
   rw [if_neg h2]
   obtain ⟨h3,h4⟩:=chain_more h (W:=W) ⟨hs,h1,hc,fun e=>absurd e ho⟩ at_
   refine ⟨h.macs,?_,h4,?_⟩
   ·show endN [] (st.out++[(textP W,at_)])=st.names
    rw [h3,nextN,if_neg ho]
   ·show (st.out++[(textP W,at_)]).length≤300
    rw [List.length_append]
    simp only [List.length_cons,List.length_nil]
    omega
theorem text_ops {W:WordsP}(h:W.operands≠[]):textP W≠[]:=by
 rw [textP_head]
 cases ho:W.operands with
 |nil=>exact absurd ho h
 |cons a b=>simp [joined]
theorem set_inv {st:StP}(h:InvSt st) {W:WordsP}(hs:SrcW W) (ho:W.op=opSet) (at_:Nat) (h0:(setP W at_ st).1=0):InvSt (setP W at_ st).2:=by
 unfold setP at h0 ⊢
 split at h0
 ·cases h0
 ·rename_i h1
  rw [if_neg h1]
  split at h0
  ·cases h0
  ·rename_i h2
   rw [if_neg h2]
   split at h0
   ·rename_i h3;exact absurd h0 h3
   ·rename_i h3
    rw [if_neg h3]
    have h1':W.label=[]∧W.operands.length=2:=by
     by_cases ha:W.label=[]
     ·by_cases hb:W.operands.length=2
      ·exact ⟨ha,hb⟩
      ·exact absurd (Or.inr hb) h1
     ·exact absurd (Or.inl ha) h1
    have h4:textP W≠[]:=text_ops (fun e=>by rw [e] at h1';simp at h1')
    have hl:LeftW st.names W:=⟨hs,h4,by rw [ho];decide,fun _=>⟨h1'.1,h1'.2,by
     cases hn:nameB (W.operands.headD []) with
     |true=>rfl
     |false=>exact absurd (Or.inl hn) h2,by
     cases hn:hasN st.names (W.operands.headD []) with
     |false=>rfl
     |true=>exact absurd (Or.inr hn) h2,by simpa using h3⟩⟩
    unfold leaveP at h0 ⊢
    rw [if_neg h4] at h0 ⊢
    split at h0
    ·cases h0
    ·rename_i h5
     rw [if_neg h5]
     obtain ⟨h6,h7⟩:=chain_more h hl at_
     refine ⟨h.macs,?_,h7,?_⟩
     ·show endN [] (st.out++[(textP W,at_)])=st.names++_
      rw [h6,nextN,if_pos ho]
     ·show (st.out++[(textP W,at_)]).length≤300
      rw [List.length_append]
      simp only [List.length_cons,List.length_nil]
      simp only at h5
      omega
def KeepsInv (call:MacP→WordsP→Nat→StP→Int×StP):Prop:=∀m W at_ st,SrcW W→ctlB W.op=false→¬W.op=opSet→m∈st.macros→InvSt st→(call m W at_ st).1=0→InvSt (call m W at_ st).2
theorem findM_mem {ms:List MacP}{s:List UInt8}{m:MacP}(h:findM ms s=some m):m∈ms:=by
 induction ms with
 |nil=>cases h
 |cons a r ih =>
  simp only [findM] at h
  split at h
  ·cases h;simp
  ·simp [ih h]
theorem line_inv {call:MacP→WordsP→Nat→StP→Int×StP}(hc:KeepsInv call) {inM:Bool}{W:WordsP}{at_:Nat}{opens:List OpenP}{st:StP}(hs:SrcW W) (h:InvSt st) (h0:(lineP call inM W at_ opens st).1=0) :
  InvSt (lineP call inM W at_ opens st).2.2.2∧∀d,(lineP call inM W at_ opens st).2.2.1=some d→d.lines=[]:=by
 unfold lineP at h0 ⊢
 split at h0
 ·rw [if_pos (by assumption)];exact ⟨h,by simp⟩
 rename_i h1;rw [if_neg h1]
 split at h0
 ·rw [if_pos (by assumption)];exact ⟨h,by simp⟩
 rename_i h2;rw [if_neg h2]
 split at h0
 ·rw [if_pos (by assumption)];exact ⟨h,by simp⟩
 rename_i h3;rw [if_neg h3]
 split at h0
 ·rw [if_pos (by assumption)]
  refine ⟨h,fun d hd=>?_⟩
  have hd':(defP inM W st).2=some d:=hd
  unfold defP at hd'
  split at hd'
  ·cases hd'
  ·split at hd'
   ·cases hd'
   ·split at hd'
    ·cases hd'
    ·split at hd'
     ·cases hd'
     ·simp only [Option.some.injEq] at hd';rw [←hd']
 rename_i h4;rw [if_neg h4]
 split at h0
 ·rw [if_pos (by assumption)];exact ⟨h,by simp⟩
 rename_i h5;rw [if_neg h5]
 split at h0
 ·rename_i h6;rw [if_pos h6];exact ⟨set_inv h hs h6 at_ h0,by simp⟩
 rename_i h6;rw [if_neg h6]
 have hctl:ctlB W.op=false:=by simp [ctlB,h1,h2,h3,h4,h5]
 cases hf:findM st.macros W.op with
 |some m=>rw [hf] at h0;exact ⟨hc m W at_ st hs hctl h6 (findM_mem hf) h h0,by simp⟩
 |none=>rw [hf] at h0;exact ⟨leave_inv h hs hctl h6 at_ h0,by simp⟩
theorem fill_mem {ps os:List (List UInt8)}(ho:∀o∈os,∀c∈o,okC c):∀(n:Nat) (l t:List UInt8),(∀c∈l,okByte c=true)→fillP ps os n l=some t→∀c∈t,okByte c=true
 |0,l,t,_,h=>by simp only [fillP,Option.some.injEq] at h;subst h;intro c hc;cases hc
 |n+1,[],t,_,h=>by simp only [fillP,Option.some.injEq] at h;subst h;intro c hc;cases hc
 |n+1,d::r,t,hl,h=>by
  simp only [fillP] at h
  split at h
  ·split at h
   ·cases h
   ·rename_i i k _
    cases hf:fillP ps os n (r.drop k) with
    |none=>rw [hf] at h;cases h
    |some t2 =>
     rw [hf] at h
     simp only [Option.map_some,Option.some.injEq] at h
     subst h
     intro c hc
     rcases List.mem_append.1 hc with hc|hc
     ·rw [List.getD_eq_getElem?_getD] at hc
      cases hg:os[i]? with
      |none=>rw [hg] at hc;cases hc
      |some o=>rw [hg] at hc;exact (ho o (List.mem_of_getElem? hg) c hc).1
     ·exact fill_mem ho n _ _ (fun x hx=>hl x (by simp [List.mem_of_mem_drop hx])) hf c hc
  ·cases hf:fillP ps os n r with
   |none=>rw [hf] at h;cases h
   |some t2 =>
    rw [hf] at h
    simp only [Option.map_some,Option.some.injEq] at h
    subst h
    intro c hc
    rcases List.mem_cons.1 hc with rfl|hc
    ·exact hl _ (by simp)
    ·exact fill_mem ho n _ _ (fun x hx=>hl x (by simp [hx])) hf c hc
theorem read_src {sub:Option (List (List UInt8)×List (List UInt8))}{l:List UInt8}(hs:∀p,sub=some p→∀o∈p.2,∀c∈o,okC c) (hl:∀c∈l,okByte c=true) (hn:sub=none→l.length≤80) (h0:(readP sub false (cutL l)).1=0):SrcW (readP sub false (cutL l)).2:=by
 have hcl:∀c∈cutL l,okByte c=true:=fun c hc=>hl c (cut_mem c hc).1
 cases sub with
 |none=>exact src_words hcl (Nat.le_trans (cut_len l) (hn rfl))
 |some p =>
  obtain ⟨ps,os⟩:=p
  simp only [readP] at h0 ⊢
  split at h0
  ·rename_i h1;exact absurd h0 h1
  ·rename_i h1
   rw [if_neg h1]
   unfold filledP at h1 ⊢
   cases hf:fillP ps os (cutL l).length (cutL l) with
   |none=>rw [hf] at h1;simp at h1
   |some t =>
    rw [hf] at h1
    simp only at h1 ⊢
    split at h1
    ·simp at h1
    ·rename_i h2
     rw [if_neg h2]
     exact src_words (fill_mem (hs _ rfl) _ _ _ hcl hf) (Nat.le_of_not_lt h2)
theorem coll_inv {d:MacP}{s:List UInt8}{st:StP}(h:InvSt st) (hd:∀l∈d.lines,∀c∈l,okByte c=true) (hs:∀c∈s,okByte c=true) (h0:(collP d s st).1=0):InvSt (collP d s st).2.2∧∀d',(collP d s st).2.1=some d'→∀l∈d'.lines,∀c∈l,okByte c=true:=by
 unfold collP at h0 ⊢
 split at h0
 ·cases h0
 ·rename_i h1
  rw [if_neg h1]
  split at h0
  ·rename_i h2
   rw [if_pos h2]
   split at h0
   ·rename_i h3
    rw [if_pos h3]
    refine ⟨⟨fun m hm=>?_,h.names,h.chain,h.few⟩,by simp⟩
    rcases List.mem_append.1 hm with hm|hm
    ·exact h.macs m hm
    ·rw [List.mem_singleton] at hm;rw [hm];exact hd
   ·cases h0
  ·rename_i h2
   rw [if_neg h2]
   refine ⟨h,fun d' hd'=>?_⟩
   simp only [Option.some.injEq] at hd'
   subst hd'
   intro l hl
   rcases List.mem_append.1 hl with hl|hl
   ·exact hd l hl
   ·rw [List.mem_singleton] at hl;rw [hl];exact hs
theorem block_inv {call:MacP→WordsP→Nat→StP→Int×StP}(hc:KeepsInv call) (sub:Option (List (List UInt8)×List (List UInt8))) (hsub:∀p,sub=some p→∀o∈p.2,∀c∈o,okC c) (inc:Nat):∀(ls:List (List UInt8)) (at_:Nat) (opens:List OpenP) (d:Option MacP) (st:StP),
  (∀l∈ls,(∀c∈l,okByte c=true)∧(sub=none→l.length≤80))→(∀m,d=some m→∀l∈m.lines,∀c∈l,okByte c=true)→InvSt st→(blockP call sub inc ls at_ opens d st).1=0→InvSt (blockP call sub inc ls at_ opens d st).2.2
 |[],at_,opens,d,st,_,_,h,h0=>by
  simp only [blockP] at h0 ⊢
  split<;>exact h
 |l::r,at_,opens,some d,st,hl,hd,h,h0=>by
  simp only [blockP] at h0 ⊢
  split at h0
  ·rename_i h1;exact absurd h0 h1
  ·rename_i h1
   rw [if_neg h1]
   have h2:=coll_inv h (hd d rfl) (s:=cutL l) (fun c hc=>(hl l (by simp)).1 c (cut_mem c hc).1) (by simpa using h1)
   exact block_inv hc sub hsub inc r _ _ _ _ (fun x hx=>hl x (by simp [hx])) h2.2 h2.1 h0
 |l::r,at_,opens,none,st,hl,hd,h,h0=>by
  simp only [blockP] at h0 ⊢
  have hr:=fun x hx=>hl x (List.mem_cons_of_mem l hx)
  split at h0
  ·rename_i ho
   rw [if_pos ho]
   split at h0
   ·rename_i h1;exact absurd h0 h1
   ·rename_i h1;rw [if_neg h1];exact block_inv hc sub hsub inc r _ _ _ _ hr (by simp) h h0
  ·rename_i ho
   rw [if_neg ho]
   split at h0
   ·rename_i h1;exact absurd h0 h1
   ·rename_i h1
    rw [if_neg h1]
    split at h0
    ·rename_i h2;exact absurd h0 h2
    ·rename_i h2
     rw [if_neg h2]
     have hs:=read_src hsub (hl l (by simp)).1 (hl l (by simp)).2 (by simpa using h1)
     obtain ⟨h3,h4⟩:=line_inv hc hs h (by simpa using h2)
     exact block_inv hc sub hsub inc r _ _ _ _ hr (fun m hm=>by rw [h4 m hm];intro l hl;cases hl) h3 h0
theorem call_inv:∀n,KeepsInv (callN n)
 |0=>fun m W at_ st _ _ _ _ h h0=>by cases h0
 |n+1=>fun m W at_ st hs hctl hset hm h h0=>by
  rw [callN] at h0 ⊢
  split at h0
  ·cases h0
  rename_i h1;rw [if_neg h1]
  split at h0
  ·cases h0
  rename_i h2;rw [if_neg h2]
  split at h0
  ·rename_i h3;exact absurd h0 h3
  rename_i h3;rw [if_neg h3]
  have h4:=leave_inv h (src_label hs) (show ctlB []=false by decide) (show ¬([]:List UInt8)=opSet by decide) at_ (by simpa using h3)
  refine block_inv (call_inv n) _ (fun p hp=>?_) 0 _ _ _ _ _ (fun l hl=>⟨?_,by simp⟩) (by simp) ⟨h4.macs,h4.names,h4.chain,h4.few⟩ h0
  ·simp only [Option.some.injEq] at hp
   subst hp
   exact hs.ok.ops
  ·exact h.macs m hm l hl
theorem badLine_none (ls:List (List UInt8)):∀k,0<k→badLine ls k=0→∀l∈ls,okLine l=true:=by
 induction ls with
 |nil=>intro k _ _ l hl;cases hl
 |cons a r ih =>
  intro k hk h l hl
  unfold badLine at h
  split at h
  ·rename_i ho
   rcases List.mem_cons.1 hl with h1|h1
   ·rw [h1];exact ho
   ·exact ih (k+1) (by omega) h l h1
  ·omega
theorem expand_inv (s:List UInt8) (h0:(expandP s).1=0):ChainN [] (expandP s).2.2∧(expandP s).2.2.length≤300:=by
 unfold expandP at h0 ⊢
 split at h0
 ·cases h0
 ·rename_i h1
  rw [if_neg h1]
  split at h0
  ·cases h0
  ·rename_i h2
   rw [if_neg h2]
   split at h0
   ·rename_i h3;exact absurd h0 h3
   ·rename_i h3
    rw [if_neg h3]
    have h4:=badLine_none (splitB 10 s) 1 (by omega) (by simpa using h2)
    have h5:=block_inv (call_inv 8) none (by simp) 1 (splitB 10 s) 0 [] none noSt (fun l hl=>by
     have:=h4 l hl
     unfold okLine at this
     simp only [Bool.and_eq_true,decide_eq_true_eq,List.all_eq_true] at this
     exact ⟨this.2,fun _=>this.1⟩) (by simp) ⟨(fun m hm=>by cases hm),rfl,trivial,by simp [noSt]⟩ (by simpa using h3)
    exact ⟨h5.chain,h5.few⟩
structure StpP where
 w:WordsP
 frm:Nat
 at_:Nat
 fix:Nat
 long:Bool
def stp (s:StmP):StpP:=⟨s.w,s.frm,s.at_.toNat,s.count,s.long⟩
theorem op_all (op:List UInt8):op=[]∨op=opSet∨op=oNop∨op=oRet∨op=oMov∨op=oAdd∨op=oSub∨op=oLoad∨op=oCall∨op=oJmp∨op=oJz∨op=oByte∨op=oWord∨op=oSpace∨op=oAlign ∨
  (¬op=[]∧¬op=opSet∧¬op=oNop∧¬op=oRet∧¬op=oMov∧¬op=oAdd∧¬op=oSub∧¬op=oLoad∧¬op=oCall∧¬op=oJmp∧¬op=oJz∧¬op=oByte∧¬op=oWord∧¬op=oSpace∧¬op=oAlign):=by
 by_cases h0:op=[]
 ·exact Or.inl h0
 refine Or.inr ?_
 by_cases h1:op=opSet
 ·exact Or.inl h1
 refine Or.inr ?_
 by_cases h2:op=oNop
 ·exact Or.inl h2
 refine Or.inr ?_
 by_cases h3:op=oRet
 ·exact Or.inl h3
 refine Or.inr ?_
 by_cases h4:op=oMov
 ·exact Or.inl h4
 refine Or.inr ?_
 by_cases h5:op=oAdd
 ·exact Or.inl h5
 refine Or.inr ?_
 by_cases h6:op=oSub
 ·exact Or.inl h6
 refine Or.inr ?_
 by_cases h7:op=oLoad
 ·exact Or.inl h7
 refine Or.inr ?_
 by_cases h8:op=oCall
 ·exact Or.inl h8
 refine Or.inr ?_
 by_cases h9:op=oJmp
 ·exact Or.inl h9
 refine Or.inr ?_
 by_cases h10:op=oJz
 ·exact Or.inl h10
 refine Or.inr ?_
 by_cases h11:op=oByte
 ·exact Or.inl h11
 refine Or.inr ?_
 by_cases h12:op=oWord
 ·exact Or.inl h12
 refine Or.inr ?_
 by_cases h13:op=oSpace
 ·exact Or.inl h13
 refine Or.inr ?_
 by_cases h14:op=oAlign
 ·exact Or.inl h14
 exact Or.inr ⟨h0,h1,h2,h3,h4,h5,h6,h7,h8,h9,h10,h11,h12,h13,h14⟩
def countsR (op:List UInt8):Int×Nat:=
 if op=[] then (0,0) else if op=opSet then (2,0) else if op=oNop then (0,0) else if op=oRet then (0,0)
 else if op=oMov then (2,2) else if op=oAdd then (2,2) else if op=oSub then (2,2)
 else if op=oLoad then (2,1) else if op=oJz then (2,1)
 else if op=oCall then (1,0) else if op=oJmp then (1,0) else if op=oSpace then (1,0) else if op=oAlign then (1,0)
 else if op=oByte then (-1,0) else if op=oWord then (-1,0) else (-2,0)
def namedR (l:List StpP) (s:List UInt8):Bool:=l.any fun x=>decide (x.w.label=s) || (decide (x.w.op=opSet)&&decide (x.w.operands.headD []=s))
def setsR:List (List UInt8×Int)→List StpP→List (List UInt8×Int)
 |ns,[]=>ns
 |ns,x::r=>setsR (if x.w.op=opSet then ns++[(x.w.operands.headD [],(value 0 ns (x.w.operands.getD 1 [])).1)] else ns) r
def twiceR (l:List StpP) (W:WordsP):Bool:=(!decide (W.label=[])&&namedR l W.label) || (decide (W.op=opSet)&&namedR l (W.operands.headD []))
def cntBad (n:Int) (k:Nat):Bool:=(decide (0≤n)&&decide (¬(k:Int)=n)) || (decide (n=-1)&&decide (k=0))
def fitsR (l:List StpP) (W:WordsP):Int×Int:=
 if (countsR W.op).1=-2 then (0,3)
 else if twiceR l W then (0,5)
 else if cntBad (countsR W.op).1 W.operands.length then (0,4)
 else if (W.operands.take (countsR W.op).2).all regB=false then (0,4)
 else if ¬W.op=oSpace∧¬W.op=oAlign then (0,0)
 else if (value 0 (setsR [] l) (W.operands.headD [])).2≠0 then (0,(value 0 (setsR [] l) (W.operands.headD [])).2)
 else if (if W.op=oAlign then !alignB (value 0 (setsR [] l) (W.operands.headD [])).1 else decide ((value 0 (setsR [] l) (W.operands.headD [])).1<0∨1000<(value 0 (setsR [] l) (W.operands.headD [])).1)) then (0,7)
 else ((value 0 (setsR [] l) (W.operands.headD [])).1,0)
def jumpR (x:StpP):Int:=if x.w.op=oJmp then 0 else if x.w.op=oJz then 1 else -1
def sizeR (x:StpP):Nat:=
 if x.w.op=oNop∨x.w.op=oRet∨x.w.op=oMov∨x.w.op=oAdd∨x.w.op=oSub then 1
 else if x.w.op=oLoad then 2
 else if x.w.op=oCall then 3
 else if x.w.op=oJmp∨x.w.op=oJz then (if x.long then 3 else 2)
 else if x.w.op=oByte then x.w.operands.length
 else if x.w.op=oWord then 2*x.w.operands.length
 else if x.w.op=oSpace then x.fix
 else if x.w.op=oAlign then (x.fix-x.at_%x.fix)%x.fix
 else 0
def laidR:List StpP→Nat→List StpP
 |[],_=>[]
 |x::r,a=>{ x with at_:=a }::laidR r (a+sizeR { x with at_:=a })
def endR:List StpP→Nat→Nat
 |[],a=>a
 |x::r,a=>endR r (a+sizeR { x with at_:=a })
def nameR (all:List (List UInt8×Int)) (x:StpP):List (List UInt8×Int):=
 (if x.w.label=[] then [] else [(x.w.label,(x.at_:Int))])++(if x.w.op=opSet then [(x.w.operands.headD [],(findN all (x.w.operands.headD [])).getD 0)] else [])
def namesR (l:List StpP):List (List UInt8×Int):=l.flatMap (nameR (setsR [] l))
def toR (x:StpP):List UInt8:=x.w.operands.getD (jumpR x).toNat []
def growsR (all:List (List UInt8×Int)) (x:StpP):Bool:=
 decide (0≤jumpR x)&&!x.long&&decide ((value x.at_ all (toR x)).2=0)&&(decide ((value x.at_ all (toR x)).1-x.at_-2 < -128) || decide (127<(value x.at_ all (toR x)).1-x.at_-2))
def longR (all:List (List UInt8×Int)) (x:StpP):StpP:=if growsR all x then { x with long:=true } else x
def reg0 (x:StpP):Nat:=(regV (x.w.operands.getD 0 [])).toNat
def reg1 (x:StpP):Nat:=(regV (x.w.operands.getD 1 [])).toNat
def codeR (x:StpP):Nat:=
 if x.w.op=oRet then 161
 else if x.w.op=oMov then 64+4*reg0 x+reg1 x
 else if x.w.op=oAdd then 80+4*reg0 x+reg1 x
 else if x.w.op=oSub then 96+4*reg0 x+reg1 x
 else if x.w.op=oLoad then 16+reg0 x
 else if x.w.op=oCall then 160
 else if x.w.op=oJmp then (if x.long then 129 else 128)
 else if x.w.op=oJz then (if x.long then 136+reg0 x else 132+reg0 x)
 else 0
def operandR (all:List (List UInt8×Int)) (x:StpP) (e:List UInt8):Int×List UInt8:=
 if (value x.at_ all e).2≠0 then ((value x.at_ all e).2,[])
 else if x.w.op=oWord∨x.w.op=oCall∨x.long=true then numP 2 (value x.at_ all e).1
 else if 0≤jumpR x then (0,[byteP ((value x.at_ all e).1-x.at_-2)])
 else numP 1 (value x.at_ all e).1
def exprsR (all:List (List UInt8×Int)) (x:StpP):List (List UInt8)→Int×List UInt8
 |[]=>(0,[])
 |e::r =>
  if (operandR all x e).1≠0 then ((operandR all x e).1,[])
  else if (exprsR all x r).1≠0 then ((exprsR all x r).1,[])
  else (0,(operandR all x e).2++(exprsR all x r).2)
def bytesR (all:List (List UInt8×Int)) (x:StpP):Int×List UInt8:=
 if x.w.op=[]∨x.w.op=opSet then (0,[])
 else if x.w.op=oSpace∨x.w.op=oAlign then (0,List.replicate (sizeR x) 0)
 else if x.w.op=oByte∨x.w.op=oWord then exprsR all x x.w.operands
 else behind (codeR x:Nat) (exprsR all x (x.w.operands.drop (countsR x.w.op).2))
structure StOkP (s:StmP):Prop where
 set:s.w.op=opSet→s.w.label=[]∧s.w.operands.length=2
 non:s.w.op=[]→s.w.operands=[]
 opn:s.o=(opnP s.w.op).getD noOpn
 known:s.w.op=[]∨s.w.op=opSet∨(opnP s.w.op).isSome=true
 takes:∀o,opnP s.w.op=some o→takesP o s.w.operands.length=true
 regs:∀o,opnP s.w.op=some o→regsP (s.w.operands.take o.regs) 0=some s.added
 count:s.count≤1000
 al:s.w.op=oAlign→alignB s.count=true
 long:s.long=true→s.w.op=oJmp∨s.w.op=oJz
 at_:0≤s.at_
theorem StOkP.put {s:StmP}(h:StOkP s) (a:Nat):StOkP { s with at_:=a }:=⟨h.set,h.non,h.opn,h.known,h.takes,h.regs,h.count,h.al,h.long,Int.natCast_nonneg _⟩
theorem size_eq {s:StmP}(h:StOkP s):sizeR (stp s)=sizeP s:=by
 have ho:=h.opn
 rcases op_all s.w.op with e|e|e|e|e|e|e|e|e|e|e|e|e|e|e|⟨e0,e1,e2,e3,e4,e5,e6,e7,e8,e9,e10,e11,e12,e13,e14⟩
 case inr.inr.inr.inr.inr.inr.inr.inr.inr.inr.inr.inr.inr.inr.inr =>
  rcases h.known with k|k|k
  ·exact absurd k e0
  ·exact absurd k e1
  ·simp [opnP,e2,e3,e4,e5,e6,e7,e8,e9,e10,e11,e12,e13,e14] at k
 all_goals
  rw [e] at ho
  simp [opnP,opSet,oNop,oRet,oMov,oAdd,oSub,oLoad,oCall,oJmp,oJz,oByte,oWord,oSpace,oAlign,noOpn] at ho
  unfold sizeR sizeP StmP.exprs
  rw [ho]
  simp [stp,e,opSet,oNop,oRet,oMov,oAdd,oSub,oLoad,oCall,oJmp,oJz,oByte,oWord,oSpace,oAlign]
  try (by_cases hq:s.long=true<;>simp [hq])
theorem laid_eq:∀(l:List StmP) (a:Nat),(∀s∈l,StOkP s)→laidR (l.map stp) a=(laidP l a).map stp∧endR (l.map stp) a=endP l a
 |[],a,_=>⟨rfl,rfl⟩
 |s::r,a,h=>by
  have h1:=size_eq ((h s (by simp)).put a)
  have h2:({ stp s with at_:=a }:StpP)=stp { s with at_:=(a:Int) }:=by simp [stp]
  have ih:=laid_eq r (a+sizeP { s with at_:=(a:Int) }) (fun x hx=>h x (by simp [hx]))
  simp only [List.map_cons,laidR,laidP,endR,endP,h2,h1,ih.1,ih.2,and_self]
def SetsOk:List (List UInt8×Int)→List StmP→Prop
 |_,[]=>True
 |ns,s::r=>(s.w.op=opSet→s.val=(value 0 ns (s.w.operands.getD 1 [])).1∧hasN ns (s.w.operands.headD [])=false)∧SetsOk (ns++setOf s) r
theorem sets_eq:∀(l:List StmP) (ns:List (List UInt8×Int)),SetsOk ns l→setsR ns (l.map stp)=ns++setsP l
 |[],ns,_=>by simp [setsR,setsP]
 |s::r,ns,h=>by
  have ih:=sets_eq r (ns++setOf s) h.2
  have h1:(if (stp s).w.op=opSet then ns++[((stp s).w.operands.headD [],(value 0 ns ((stp s).w.operands.getD 1 [])).1)] else ns)=ns++setOf s:=by
   unfold setOf
   by_cases e:s.w.op=opSet
   ·rw [if_pos (show (stp s).w.op=opSet from e),if_pos e,(h.1 e).1];rfl
   ·rw [if_neg (show ¬(stp s).w.op=opSet from e),if_neg e,List.append_nil]
  simp only [List.map_cons,setsR]
  rw [h1,ih]
  simp [setsP]
theorem findN_app (a b:List (List UInt8×Int)) (s:List UInt8):findN (a++b) s=(findN a s).or (findN b s):=by
 induction a with
 |nil=>rfl
 |cons x r ih =>
  obtain ⟨n,v⟩:=x
  simp only [List.cons_append,findN]
  split
  ·rfl
  ·exact ih
theorem hasN_app (a b:List (List UInt8×Int)) (s:List UInt8):hasN (a++b) s=(hasN a s || hasN b s):=by
 unfold hasN
 rw [findN_app]
 cases findN a s<;>simp
theorem hasN_none {a:List (List UInt8×Int)}{s:List UInt8}(h:hasN a s=false):findN a s=none:=by
 unfold hasN at h
 simpa using h
theorem sets_find:∀(l:List StmP) (ns:List (List UInt8×Int)),SetsOk ns l→∀s∈l,s.w.op=opSet→findN (ns++setsP l) (s.w.operands.headD [])=some s.val
 |[],ns,_,s,hs,_=>by cases hs
 |a::r,ns,h,s,hs,e=>by
  have h1:ns++setsP (a::r)=(ns++setOf a)++setsP r:=by simp [setsP]
  rw [h1]
  rcases List.mem_cons.1 hs with rfl|hs
  ·rw [findN_app,findN_app,hasN_none (h.1 e).2]
   simp [setOf,e,findN]
  ·exact sets_find r _ h.2 s hs e
theorem names_eq {l:List StmP}(h:∀s∈l,StOkP s) (hs:SetsOk [] l):namesR (l.map stp)=namesP l:=by
 have key:∀(m:List StmP),(∀s∈m,s∈l)→(m.map stp).flatMap (nameR (setsP l))=m.flatMap nameP:=fun m=>by
  induction m with
  |nil=>intro _;rfl
  |cons s r ih =>
   intro hm
   simp only [List.map_cons,List.flatMap_cons]
   rw [ih (fun x hx=>hm x (by simp [hx]))]
   congr 1
   have ho:=h s (hm s (by simp))
   unfold nameR nameP stp
   simp only
   by_cases e:s.w.op=opSet
   ·have h1:=sets_find l [] hs s (hm s (by simp)) e
    rw [List.nil_append] at h1
    rw [if_pos e,if_pos e,if_pos (ho.set e).1,h1]
    rfl
   ·rw [if_neg e,if_neg e,List.append_nil]
    split
    ·rfl
    ·rw [Int.toNat_of_nonneg ho.at_]
 unfold namesR namesP
 rw [sets_eq l [] hs,List.nil_append]
 exact key l (fun _ hs=>hs)
theorem named_eq {l:List StmP}(h:∀s∈l,StOkP s) {n:List UInt8}(hn:¬n=[]):namedR (l.map stp) n=hasN (namesP l) n:=by
 induction l with
 |nil=>rfl
 |cons s r ih =>
  have ih:=ih (fun x hx=>h x (by simp [hx]))
  have ho:=h s (by simp)
  have h1:namesP (s::r)=nameP s++namesP r:=rfl
  rw [h1,hasN_app,←ih]
  unfold namedR
  simp only [List.map_cons,List.any_cons]
  congr 1
  unfold nameP hasN stp
  simp only
  by_cases e:s.w.op=opSet
  ·rw [if_pos e,(ho.set e).1]
   have:decide (([]:List UInt8)=n)=false:=decide_eq_false (fun k=>hn k.symm)
   rw [this]
   simp only [e,findN,decide_true,Bool.true_and,Bool.false_or]
   split<;>simp_all
  ·rw [if_neg e]
   simp only [e,decide_false,Bool.false_and,Bool.or_false]
   by_cases e2:s.w.label=[]
   ·rw [if_pos e2,e2]
    simpa [findN] using hn
   ·rw [if_neg e2]
    simp only [findN]
    split<;>simp_all
theorem regs_all:∀(l:List (List UInt8)) (a:Nat),(regsP l a).isSome=l.all regB
 |[],a=>rfl
 |r::t,a=>by
  simp only [regsP,List.all_cons]
  cases h:regB r with
  |true=>simp [regs_all t]
  |false=>simp
theorem twice_eq {l:List StmP}{W:WordsP}{ns:List (List UInt8×Int)}(h:∀s∈l,StOkP s) (hw:LeftW ns W) :
  twiceR (l.map stp) W=if W.op=opSet then hasN (namesP l) (W.operands.headD []) else decide (W.label≠[]∧hasN (namesP l) W.label=true):=by
 unfold twiceR
 by_cases e:W.op=opSet
 ·obtain ⟨h1,_,h3,_⟩:=hw.set e
  rw [if_pos e,h1,named_eq h (nameB_noBl h3).2]
  simp [e]
 ·rw [if_neg e]
  by_cases e2:W.label=[]
  ·simp [e,e2]
  ·rw [named_eq h e2]
   simp [e,e2]
theorem fits_known {l:List StmP}{W:WordsP}{ns:List (List UInt8×Int)}(h:∀s∈l,StOkP s) (hs:SetsOk [] l) (hw:LeftW ns W) (txt:List UInt8) (frm:Nat) (o:OpnP) (n:Int) (ho:opnP W.op=some o) (hc:countsR W.op=(n,o.regs)) (hn:¬n=-2) (hb:∀k,cntBad n k=!takesP o k) (hne:¬W.op=opSet)
  (h5:o.kind=5↔W.op=oSpace) (h6:o.kind=6↔W.op=oAlign) (hr:o.kind=5∨o.kind=6→o.regs=0) :
  fitsR (l.map stp) W=(((lookP l W txt frm).2.count:Int),(lookP l W txt frm).1):=by
 have hsn:¬((opnP W.op).isNone=true∧W.op≠[]):=by rw [ho];simp
 unfold fitsR lookP
 rw [twice_eq h hw,if_neg hne,if_neg hne,if_neg hsn,hc,sets_eq l [] hs,List.nil_append]
 simp only
 rw [if_neg hn,hb]
 by_cases ht:W.label≠[]∧hasN (namesP l) W.label=true
 ·rw [if_pos ht,if_pos (decide_eq_true ht)];rfl
 rw [if_neg ht,if_neg (by simpa using ht),ho]
 simp only
 unfold operandsP
 cases hk:takesP o W.operands.length with
 |false=>simp
 |true =>
  have hra:=regs_all (W.operands.take o.regs) 0
  rw [←hra]
  cases hg:regsP (W.operands.take o.regs) 0 with
  |none=>simp
  |some a =>
   simp only [Bool.not_true,Bool.false_eq_true,if_false,Option.isSome_some,Bool.true_eq_false]
   by_cases k:o.kind=5∨o.kind=6
   ·have hop:¬(¬W.op=oSpace∧¬W.op=oAlign):=by
     rcases k with k|k
     ·exact fun q=>q.1 (h5.1 k)
     ·exact fun q=>q.2 (h6.1 k)
    rw [if_neg hop,if_pos k,hr k,List.drop_zero]
    simp only
    unfold countP
    obtain ⟨v,er⟩:=value 0 (setsP l) (W.operands.headD [])
    simp only
    by_cases he:er=0
    ·subst he
     simp only [ne_eq,not_true_eq_false,if_false]
     by_cases e6:W.op=oAlign
     ·have k6:=h6.2 e6
      simp only [if_pos e6,k6,true_and]
      cases ha:alignB v with
      |true =>
       unfold alignB at ha
       simp only [decide_eq_true_eq] at ha
       simp only [Bool.not_true,Bool.false_eq_true,if_false,Bool.true_eq_false,or_false]
       rw [if_neg (by omega)]
       simp;omega
      |false=>simp
     ·have k6:¬o.kind=6:=fun q=>e6 (h6.1 q)
      simp only [if_neg e6,k6,false_and,or_false]
      by_cases hv:v<0∨1000<v
      ·simp [hv]
      ·simp only [hv,decide_false,Bool.false_eq_true,if_false]
       simp;omega
    ·simp [he]
   ·have hop:¬W.op=oSpace∧¬W.op=oAlign:=⟨fun q=>k (Or.inl (h5.2 q)),fun q=>k (Or.inr (h6.2 q))⟩
    rw [if_pos hop,if_neg k]
    rfl
theorem cnt_zero (k:Nat) (o:OpnP) (h:o.kind=1) (hr:o.regs=0):cntBad 0 k=!takesP o k:=by
 unfold cntBad takesP
 rw [if_pos h,hr,Bool.eq_iff_iff]
 simp
theorem cnt_two (k:Nat) (o:OpnP) (h:o.kind=1) (hr:o.regs=2):cntBad 2 k=!takesP o k:=by
 unfold cntBad takesP
 rw [if_pos h,hr,Bool.eq_iff_iff]
 simp;omega
theorem cnt_more (n:Nat) (k:Nat) (o:OpnP) (h:¬o.kind=1) (h4:¬o.kind=4) (hr:o.regs+1=n):cntBad (n:Int) k=!takesP o k:=by
 unfold cntBad takesP
 rw [if_neg h,if_neg h4,hr,Bool.eq_iff_iff]
 simp;omega
theorem cnt_some (k:Nat) (o:OpnP) (h:o.kind=4) (hr:o.regs=0):cntBad (-1) k=!takesP o k:=by
 unfold cntBad takesP
 rw [if_neg (by omega),if_pos h,hr,Bool.eq_iff_iff]
 simp
 try omega
theorem fits_eq {l:List StmP}{W:WordsP}{ns:List (List UInt8×Int)}(h:∀s∈l,StOkP s) (hs:SetsOk [] l) (hw:LeftW ns W) (txt:List UInt8) (frm:Nat) :
  fitsR (l.map stp) W=(((lookP l W txt frm).2.count:Int),(lookP l W txt frm).1):=by
 rcases op_all W.op with e|e|e|e|e|e|e|e|e|e|e|e|e|e|e|⟨e0,e1,e2,e3,e4,e5,e6,e7,e8,e9,e10,e11,e12,e13,e14⟩
 ·have hops:=hw.src.good.none e
  have hne:¬W.op=opSet:=by rw [e];decide
  have hsn:¬((opnP W.op).isNone=true∧W.op≠[]):=by simp [e]
  have hc:countsR W.op=(0,0):=by rw [e];rfl
  have ho:opnP W.op=none:=by rw [e];rfl
  have hna:¬W.op=oSpace∧¬W.op=oAlign:=by rw [e];decide
  unfold fitsR lookP
  rw [twice_eq h hw,if_neg hne,if_neg hne,if_neg hsn,hc,ho,hops]
  simp only
  rw [if_neg (show ¬(0:Int)=-2 by decide)]
  by_cases ht:W.label≠[]∧hasN (namesP l) W.label=true
  ·rw [if_pos ht,if_pos (decide_eq_true ht)];rfl
  ·rw [if_neg ht,if_neg (by simpa using ht),if_neg (show ¬cntBad 0 ([]:List (List UInt8)).length=true by decide),if_neg (by simp),if_pos hna]
   rfl
 ·obtain ⟨h1,h2,h3,_⟩:=hw.set e
  unfold fitsR lookP
  rw [twice_eq h hw,if_pos e,if_pos e,show countsR W.op=(2,0) by rw [e];rfl]
  simp only
  rw [if_neg (by decide),h2]
  cases hh:hasN (namesP l) (W.operands.headD []) with
  |true=>simp
  |false =>
   rw [if_neg (by simp),if_neg (by decide),if_neg (by simp),if_pos (by rw [e];decide)]
   simp
 ·exact fits_known h hs hw txt frm ⟨1,0,0,0,0⟩ 0 (by rw [e];rfl) (by rw [e];rfl) (by decide) (fun k=>cnt_zero k _ rfl rfl) (by rw [e];decide) (by rw [e];decide) (by rw [e];decide) (by decide)
 ·exact fits_known h hs hw txt frm ⟨1,0,161,0,0⟩ 0 (by rw [e];rfl) (by rw [e];rfl) (by decide) (fun k=>cnt_zero k _ rfl rfl) (by rw [e];decide) (by rw [e];decide) (by rw [e];decide) (by decide)
 ·exact fits_known h hs hw txt frm ⟨1,2,64,0,0⟩ 2 (by rw [e];rfl) (by rw [e];rfl) (by decide) (fun k=>cnt_two k _ rfl rfl) (by rw [e];decide) (by rw [e];decide) (by rw [e];decide) (by decide)
 ·exact fits_known h hs hw txt frm ⟨1,2,80,0,0⟩ 2 (by rw [e];rfl) (by rw [e];rfl) (by decide) (fun k=>cnt_two k _ rfl rfl) (by rw [e];decide) (by rw [e];decide) (by rw [e];decide) (by decide)
 ·exact fits_known h hs hw txt frm ⟨1,2,96,0,0⟩ 2 (by rw [e];rfl) (by rw [e];rfl) (by decide) (fun k=>cnt_two k _ rfl rfl) (by rw [e];decide) (by rw [e];decide) (by rw [e];decide) (by decide)
 ·exact fits_known h hs hw txt frm ⟨2,1,16,0,1⟩ 2 (by rw [e];rfl) (by rw [e];rfl) (by decide) (fun k=>cnt_more 2 k _ (by decide) (by decide) rfl) (by rw [e];decide) (by rw [e];decide) (by rw [e];decide) (by decide)
 ·exact fits_known h hs hw txt frm ⟨2,0,160,0,2⟩ 1 (by rw [e];rfl) (by rw [e];rfl) (by decide) (fun k=>cnt_more 1 k _ (by decide) (by decide) rfl) (by rw [e];decide) (by rw [e];decide) (by rw [e];decide) (by decide)
 ·exact fits_known h hs hw txt frm ⟨3,0,128,129,2⟩ 1 (by rw [e];rfl) (by rw [e];rfl) (by decide) (fun k=>cnt_more 1 k _ (by decide) (by decide) rfl) (by rw [e];decide) (by rw [e];decide) (by rw [e];decide) (by decide)
 ·exact fits_known h hs hw txt frm ⟨3,1,132,136,2⟩ 2 (by rw [e];rfl) (by rw [e];rfl) (by decide) (fun k=>cnt_more 2 k _ (by decide) (by decide) rfl) (by rw [e];decide) (by rw [e];decide) (by rw [e];decide) (by decide)
 ·exact fits_known h hs hw txt frm ⟨4,0,0,0,1⟩ (-1) (by rw [e];rfl) (by rw [e];rfl) (by decide) (fun k=>cnt_some k _ rfl rfl) (by rw [e];decide) (by rw [e];decide) (by rw [e];decide) (by decide)
 ·exact fits_known h hs hw txt frm ⟨4,0,0,0,2⟩ (-1) (by rw [e];rfl) (by rw [e];rfl) (by decide) (fun k=>cnt_some k _ rfl rfl) (by rw [e];decide) (by rw [e];decide) (by rw [e];decide) (by decide)
 ·exact fits_known h hs hw txt frm ⟨5,0,0,0,0⟩ 1 (by rw [e];rfl) (by rw [e];rfl) (by decide) (fun k=>cnt_more 1 k _ (by decide) (by decide) rfl) (by rw [e];decide) (by rw [e];decide) (by rw [e];decide) (by decide)
 ·exact fits_known h hs hw txt frm ⟨6,0,0,0,0⟩ 1 (by rw [e];rfl) (by rw [e];rfl) (by decide) (fun k=>cnt_more 1 k _ (by decide) (by decide) rfl) (by rw [e];decide) (by rw [e];decide) (by rw [e];decide) (by decide)
 ·have hc:countsR W.op=(-2,0):=by simp [countsR,e0,e1,e2,e3,e4,e5,e6,e7,e8,e9,e10,e11,e12,e13,e14]
  have ho:opnP W.op=none:=by simp [opnP,e2,e3,e4,e5,e6,e7,e8,e9,e10,e11,e12,e13,e14]
  unfold fitsR lookP
  rw [hc,if_pos rfl,if_neg e1,if_pos ⟨by rw [ho];rfl,e0⟩]
  rfl
theorem regs_some {l:List (List UInt8)}{a b:Nat}(h:regsP l a=some b):l.all regB=true:=by
 rw [←regs_all l a,h];rfl
theorem countP_le {k:Nat}{sets:List (List UInt8×Int)}{e:List UInt8}:(countP k sets e).2≤1000∧((countP k sets e).1=0→k=6→alignB (countP k sets e).2=true):=by
 unfold countP
 split
 ·rename_i h0;exact ⟨by simp,fun h=>absurd h h0⟩
 ·split
  ·exact ⟨by simp,fun h=>by cases h⟩
  ·rename_i h1
   refine ⟨by simp only;omega,fun _ hk=>?_⟩
   simp only
   have h2:¬alignB (value 0 sets e).1=false:=fun q=>h1 (Or.inr (Or.inr ⟨hk,q⟩))
   rw [Int.toNat_of_nonneg (by omega)]
   simpa using h2
theorem look_ok {l:List StmP}{W:WordsP}{ns:List (List UInt8×Int)}(hw:LeftW ns W) (txt:List UInt8) (frm:Nat) (h0:(lookP l W txt frm).1=0) :
  StOkP (lookP l W txt frm).2∧(lookP l W txt frm).2.w=W∧(lookP l W txt frm).2.txt=txt∧(lookP l W txt frm).2.frm=frm∧(lookP l W txt frm).2.at_=0∧(lookP l W txt frm).2.long=false ∧
  (W.op=opSet→(lookP l W txt frm).2.val=(value 0 (setsP l) (W.operands.getD 1 [])).1∧hasN (namesP l) (W.operands.headD [])=false):=by
 unfold lookP at h0 ⊢
 by_cases e:W.op=opSet
 ·rw [if_pos e] at h0 ⊢
  split at h0
  ·cases h0
  ·rename_i hh
   rw [if_neg hh]
   refine ⟨⟨fun _=>⟨(hw.set e).1,(hw.set e).2.1⟩,hw.src.good.none,?_,Or.inr (Or.inl e),fun o ho=>?_,fun o ho=>?_,Nat.zero_le _,fun k=>?_,(fun k=>by cases k),Int.le_refl _⟩,rfl,rfl,rfl,rfl,rfl,fun _=>⟨rfl,by simpa using hh⟩⟩
   ·simp only [e];rfl
   ·simp only [e] at ho;cases ho
   ·simp only [e] at ho;cases ho
   ·simp only [e] at k;exact absurd k (by decide)
 ·rw [if_neg e] at h0 ⊢
  split at h0
  ·cases h0
  ·rename_i hn
   rw [if_neg hn]
   split at h0
   ·cases h0
   ·rename_i hl
    rw [if_neg hl]
    cases ho:opnP W.op with
    |none =>
     rw [ho] at hn
     have e0:W.op=[]:=by
      by_cases q:W.op=[]
      ·exact q
      ·exact absurd ⟨rfl,q⟩ hn
     refine ⟨⟨fun q=>absurd q e,hw.src.good.none,by simp only [ho];rfl,Or.inl e0,fun o h1=>?_,fun o h1=>?_,Nat.zero_le _,fun k=>?_,(fun k=>by cases k),Int.le_refl _⟩,rfl,rfl,rfl,rfl,rfl,fun q=>absurd q e⟩
     ·simp only [ho] at h1;cases h1
     ·simp only [ho] at h1;cases h1
     ·simp only [e0] at k;exact absurd k (by decide)
    |some o =>
     rw [ho] at h0
     simp only at h0 ⊢
     unfold operandsP at h0 ⊢
     cases ht:takesP o W.operands.length with
     |false=>rw [ht,if_pos rfl] at h0;cases h0
     |true =>
      rw [ht,if_neg (by simp)] at h0
      rw [if_neg (by simp)]
      cases hg:regsP (W.operands.take o.regs) 0 with
      |none=>rw [hg] at h0;cases h0
      |some a =>
       rw [hg] at h0
       simp only at h0 ⊢
       have hkn:(opnP W.op).isSome=true:=by rw [ho];rfl
       have hal:W.op=oAlign→o.kind=6:=fun q=>by
        rw [q] at ho
        have:opnP oAlign=some ⟨6,0,0,0,0⟩:=rfl
        rw [this] at ho
        cases ho;rfl
       by_cases hk:o.kind=5∨o.kind=6
       ·rw [if_pos hk] at h0 ⊢
        simp only at h0 ⊢
        obtain ⟨c1,c2⟩:=countP_le (k:=o.kind) (sets:=setsP l) (e:=(W.operands.drop o.regs).headD [])
        exact ⟨⟨fun q=>absurd q e,hw.src.good.none,by simp only [ho];rfl,Or.inr (Or.inr hkn),fun o' h1=>by simp only [ho] at h1;cases h1;exact ht,fun o' h1=>by simp only [ho] at h1;cases h1;exact hg,c1,fun q=>c2 h0 (hal q),(fun k=>by cases k),Int.le_refl _⟩,by trivial,by trivial,by trivial,by trivial,by trivial,fun q=>absurd q e⟩
       ·rw [if_neg hk] at h0 ⊢
        exact ⟨⟨fun q=>absurd q e,hw.src.good.none,by simp only [ho];rfl,Or.inr (Or.inr hkn),fun o' h1=>by simp only [ho] at h1;cases h1;exact ht,fun o' h1=>by simp only [ho] at h1;cases h1;exact hg,Nat.zero_le _,fun q=>absurd (Or.inr (hal q)) hk,(fun k=>by cases k),Int.le_refl _⟩,by trivial,by trivial,by trivial,by trivial,by trivial,fun q=>absurd q e⟩
theorem sets_snoc:∀{l:List StmP}{ns:List (List UInt8×Int)}{s:StmP},SetsOk ns l→(s.w.op=opSet→s.val=(value 0 (ns++setsP l) (s.w.operands.getD 1 [])).1∧hasN (ns++setsP l) (s.w.operands.headD [])=false)→SetsOk ns (l++[s])
 |[],ns,s,_,h=>by
  simp only [setsP,List.flatMap_nil,List.append_nil] at h
  exact ⟨h,trivial⟩
 |a::r,ns,s,h,h2=>by
  refine ⟨h.1,sets_snoc h.2 ?_⟩
  have h1:ns++setsP (a::r)=(ns++setOf a)++setsP r:=by simp [setsP]
  rw [←h1]
  exact h2
theorem sets_names {l:List StmP}{n:List UInt8}(h:hasN (namesP l) n=false):hasN (setsP l) n=false:=by
 induction l with
 |nil=>rfl
 |cons s r ih =>
  have h1:namesP (s::r)=nameP s++namesP r:=rfl
  have h2:setsP (s::r)=setOf s++setsP r:=rfl
  rw [h1,hasN_app,Bool.or_eq_false_iff] at h
  rw [h2,hasN_app,ih h.2,Bool.or_false]
  have h3:=h.1
  unfold nameP at h3
  unfold setOf
  split
  ·rename_i e;rw [if_pos e] at h3;exact h3
  ·rfl
theorem look_next {l:List StmP}{W:WordsP}{ns:List (List UInt8×Int)}(hw:LeftW ns W) (txt:List UInt8) (frm:Nat) (h:∀s∈l,StOkP s) (hs:SetsOk [] l) (h0:(lookP l W txt frm).1=0) :
  (∀s∈l++[(lookP l W txt frm).2],StOkP s)∧SetsOk [] (l++[(lookP l W txt frm).2]):=by
 obtain ⟨h1,h2,_,_,_,_,h3⟩:=look_ok hw txt frm h0
 refine ⟨fun s hm=>?_,sets_snoc hs fun e=>?_⟩
 ·rcases List.mem_append.1 hm with hm|hm
  ·exact h s hm
  ·rw [List.mem_singleton] at hm;rw [hm];exact h1
 ·rw [h2] at e
  obtain ⟨q1,q2⟩:=h3 e
  rw [h2,List.nil_append]
  exact ⟨q1,sets_names q2⟩
theorem jump_eq {s:StmP}(h:StOkP s):(decide (0≤jumpR (stp s))=decide (s.o.kind=3))∧(s.o.kind=3→toR (stp s)=s.exprs.headD []):=by
 have ho:=h.opn
 rcases op_all s.w.op with e|e|e|e|e|e|e|e|e|e|e|e|e|e|e|⟨e0,e1,e2,e3,e4,e5,e6,e7,e8,e9,e10,e11,e12,e13,e14⟩
 case inr.inr.inr.inr.inr.inr.inr.inr.inr.inr.inr.inr.inr.inr.inr =>
  rcases h.known with k|k|k
  ·exact absurd k e0
  ·exact absurd k e1
  ·simp [opnP,e2,e3,e4,e5,e6,e7,e8,e9,e10,e11,e12,e13,e14] at k
 all_goals
  rw [e] at ho
  simp [opnP,opSet,oNop,oRet,oMov,oAdd,oSub,oLoad,oCall,oJmp,oJz,oByte,oWord,oSpace,oAlign,noOpn] at ho
  unfold toR jumpR StmP.exprs
  rw [ho]
  simp [stp,e,opSet,oNop,oRet,oMov,oAdd,oSub,oLoad,oCall,oJmp,oJz,oByte,oWord,oSpace,oAlign]
  try (rw [List.head?_eq_getElem?])
theorem stp_at {s:StmP}(h:StOkP s):((stp s).at_:Int)=s.at_:=by
 unfold stp
 simp only
 rw [Int.toNat_of_nonneg h.at_]
theorem grows_eq {s:StmP}(h:StOkP s) (all:List (List UInt8×Int)):growsR all (stp s)=growsP all s:=by
 obtain ⟨h1,h2⟩:=jump_eq h
 unfold growsR growsP farP
 rw [h1,stp_at h]
 by_cases k:s.o.kind=3
 ·rw [h2 k,show (value s.at_ all (s.exprs.headD [])).1-s.at_-2=(value s.at_ all (s.exprs.headD [])).1-(s.at_+2) by omega]
  rfl
 ·simp [k]
theorem long_eq {s:StmP}(h:StOkP s) (all:List (List UInt8×Int)):longR all (stp s)=stp (longP all s):=by
 unfold longR longP
 rw [grows_eq h]
 split<;>rfl
theorem kind3 {s:StmP}(h:StOkP s) (k:s.o.kind=3):s.w.op=oJmp∨s.w.op=oJz:=by
 have h1:=(jump_eq h).1
 rw [decide_eq_true k,decide_eq_true_eq] at h1
 unfold jumpR stp at h1
 simp only at h1
 by_cases e:s.w.op=oJmp
 ·exact Or.inl e
 ·by_cases e2:s.w.op=oJz
  ·exact Or.inr e2
  ·rw [if_neg e,if_neg e2] at h1;omega
theorem long_ok {s:StmP}(h:StOkP s) (all:List (List UInt8×Int)):StOkP (longP all s):=by
 unfold longP
 split
 ·rename_i g
  have k:s.o.kind=3:=by unfold growsP at g;simp at g;exact g.1.1.1
  exact ⟨h.set,h.non,h.opn,h.known,h.takes,h.regs,h.count,h.al,fun _=>kind3 (s:=s) h k,h.at_⟩
 ·exact h
theorem long_w (all:List (List UInt8×Int)) (s:StmP):(longP all s).w=s.w∧(longP all s).val=s.val∧(longP all s).frm=s.frm∧(longP all s).txt=s.txt∧(longP all s).at_=s.at_:=by
 unfold longP
 split<;>exact ⟨rfl,rfl,rfl,rfl,rfl⟩
theorem sets_long (all:List (List UInt8×Int)):∀(l:List StmP) (ns:List (List UInt8×Int)),SetsOk ns l→SetsOk ns (l.map (longP all))
 |[],_,_=>trivial
 |s::r,ns,h=>by
  obtain ⟨h1,h2,_⟩:=long_w all s
  have h3:setOf (longP all s)=setOf s:=by unfold setOf;rw [h1,h2]
  refine ⟨?_,?_⟩
  ·rw [h1,h2];exact h.1
  ·show SetsOk (ns++setOf (longP all s)) (r.map (longP all))
   rw [h3];exact sets_long all r _ h.2
theorem sets_laid:∀(l:List StmP) (ns:List (List UInt8×Int)) (a:Nat),SetsOk ns l→SetsOk ns (laidP l a)
 |[],_,_,_=>trivial
 |_::r,_,_,h=>⟨h.1,sets_laid r _ _ h.2⟩
theorem laid_ok:∀(l:List StmP) (a:Nat),(∀s∈l,StOkP s)→∀s∈laidP l a,StOkP s
 |[],_,_,s,hs=>by cases hs
 |x::r,a,h,s,hs=>by
  rcases List.mem_cons.1 hs with rfl|hs
  ·exact (h x (by simp)).put a
  ·exact laid_ok r _ (fun y hy=>h y (by simp [hy])) s hs
structure ListOk (l:List StmP):Prop where
 each:∀s∈l,StOkP s
 sets:SetsOk [] l
theorem ListOk.long {l:List StmP}(h:ListOk l) (all:List (List UInt8×Int)):ListOk (l.map (longP all)):=⟨fun s hs=>by
 obtain ⟨x,hx,rfl⟩:=List.mem_map.1 hs
 exact long_ok (h.each x hx) all,sets_long all l [] h.sets⟩
theorem ListOk.laid {l:List StmP}(h:ListOk l) (a:Nat):ListOk (laidP l a):=⟨laid_ok l a h.each,sets_laid l [] a h.sets⟩
theorem ListOk.any {l:List StmP}(h:ListOk l):(l.map stp).any (growsR (namesR (l.map stp)))=l.any (growsP (namesP l)):=by
 rw [names_eq h.each h.sets,List.any_map]
 have:∀(m:List StmP),(∀s∈m,StOkP s)→m.any (growsR (namesP l) ∘ stp)=m.any (growsP (namesP l)):=fun m=>by
  induction m with
  |nil=>intro _;rfl
  |cons s r ih =>
   intro hm
   simp only [List.any_cons,Function.comp]
   rw [grows_eq (hm s (by simp))]
   congr 1
   exact ih (fun x hx=>hm x (by simp [hx]))
 exact this l h.each
theorem ListOk.map {l:List StmP}(h:ListOk l):(l.map stp).map (longR (namesR (l.map stp)))=(l.map (longP (namesP l))).map stp:=by
 rw [names_eq h.each h.sets,List.map_map,List.map_map]
 exact List.map_congr_left fun s hs=>long_eq (h.each s hs) _
theorem exprs_eq {all:List (List UInt8×Int)}{x:StpP}{d:Nat}(h:∀e,operandR all x e=if (value x.at_ all e).2≠0 then ((value x.at_ all e).2,[]) else numP d (value x.at_ all e).1):∀ops,exprsR all x ops=exprsP all x.at_ d ops
 |[]=>rfl
 |e::r=>by
  simp only [exprsR,exprsP]
  rw [exprs_eq h r,h e]
  by_cases k:(value x.at_ all e).2=0
  ·simp [k]
  ·simp [k]
theorem operand_one {all:List (List UInt8×Int)}{x:StpP}(h1:¬(x.w.op=oWord∨x.w.op=oCall∨x.long=true)) (h2:¬0≤jumpR x) (e:List UInt8):operandR all x e=if (value x.at_ all e).2≠0 then ((value x.at_ all e).2,[]) else numP 1 (value x.at_ all e).1:=by
 unfold operandR
 rw [if_neg h1,if_neg h2]
theorem operand_two {all:List (List UInt8×Int)}{x:StpP}(h1:x.w.op=oWord∨x.w.op=oCall∨x.long=true) (e:List UInt8):operandR all x e=if (value x.at_ all e).2≠0 then ((value x.at_ all e).2,[]) else numP 2 (value x.at_ all e).1:=by
 unfold operandR
 rw [if_pos h1]
theorem list_one {α:Type}{l:List α}(h:l.length=1):∃a,l=[a]:=by
 match l,h with
 |[a],_=>exact ⟨a,rfl⟩
theorem list_pair {α:Type}{l:List α}(h:l.length=2):∃a b,l=[a,b]:=by
 match l,h with
 |[a,b],_=>exact ⟨a,b,rfl⟩
theorem regs_two {a b:List UInt8}{n:Nat}(h:regsP [a,b] 0=some n):n=4*(regV a).toNat+(regV b).toNat:=by
 simp only [regsP] at h
 split at h
 ·split at h
  ·simp at h;omega
  ·cases h
 ·cases h
theorem regs_one {a:List UInt8}{n:Nat}(h:regsP [a] 0=some n):n=(regV a).toNat:=by
 simp only [regsP] at h
 split at h
 ·simp at h;omega
 ·cases h
theorem bytes_code {all:List (List UInt8×Int)}{x:StpP}(h1:¬(x.w.op=[]∨x.w.op=opSet)) (h2:¬(x.w.op=oSpace∨x.w.op=oAlign)) (h3:¬(x.w.op=oByte∨x.w.op=oWord)):bytesR all x=behind (codeR x:Nat) (exprsR all x (x.w.operands.drop (countsR x.w.op).2)):=by
 unfold bytesR
 rw [if_neg h1,if_neg h2,if_neg h3]
theorem short_end {all:List (List UInt8×Int)}{x:StpP}{a:List UInt8}{v er at_:Int}{c:Int}(h:operandR all x a=if er≠0 then (er,[]) else (0,[byteP (v-at_-2)])):behind c (exprsR all x [a])=if er≠0 then (er,[]) else (0,[byteP c,byteP (v-(at_+2))]):=by
 simp only [exprsR,h,behind]
 by_cases k:er=0
 ·simp only [k,ne_eq,not_true_eq_false,if_false,List.append_nil]
  rw [show v-at_-2=v-(at_+2) by omega]
 ·simp [k]
theorem opn_width {op:List UInt8}{o:OpnP}(ho:opnP op=some o):(o.kind=1∧o.width=0)∨(o.kind=2∧(o.width=1∨o.width=2))∨(o.kind=3∧o.width=2)∨(o.kind=4∧(o.width=1∨o.width=2))∨o.kind=5∨o.kind=6:=by
 rcases op_all op with e|e|e|e|e|e|e|e|e|e|e|e|e|e|e|⟨e0,e1,e2,e3,e4,e5,e6,e7,e8,e9,e10,e11,e12,e13,e14⟩
 case inr.inr.inr.inr.inr.inr.inr.inr.inr.inr.inr.inr.inr.inr.inr=>simp [opnP,e2,e3,e4,e5,e6,e7,e8,e9,e10,e11,e12,e13,e14] at ho
 all_goals
  subst e
  simp [opnP,opSet,oNop,oRet,oMov,oAdd,oSub,oLoad,oCall,oJmp,oJz,oByte,oWord,oSpace,oAlign] at ho
  try (subst ho;decide)
theorem bytes_eq {s:StmP}(h:StOkP s) (all:List (List UInt8×Int)):bytesR all (stp s)=bytesP all s:=by
 have ho:=h.opn
 have hat:=stp_at h
 have hsz:=size_eq h
 rcases op_all s.w.op with e|e|e|e|e|e|e|e|e|e|e|e|e|e|e|⟨e0,e1,e2,e3,e4,e5,e6,e7,e8,e9,e10,e11,e12,e13,e14⟩
 ·rw [e] at ho
  unfold bytesR bytesP
  rw [ho,if_pos (Or.inl (show (stp s).w.op=[] from e))]
  rfl
 ·rw [e] at ho
  unfold bytesR bytesP
  rw [ho,if_pos (Or.inr (show (stp s).w.op=opSet from e))]
  rfl
 ·have ho2:opnP s.w.op=some ⟨1,0,0,0,0⟩:=by rw [e];rfl
  have ht:=h.takes _ ho2
  have hr:=h.regs _ ho2
  rw [ho2] at ho
  simp only [takesP,if_true,decide_eq_true_eq,List.length_eq_zero_iff] at ht
  rw [ht] at hr
  simp [regsP] at hr
  have he:(stp s).w.op=oNop:=e
  have hops:(stp s).w.operands=[]:=ht
  unfold bytesR bytesP StmP.exprs codeR
  rw [ho,hops,ht,he,←hr]
  rfl
 ·have ho2:opnP s.w.op=some ⟨1,0,161,0,0⟩:=by rw [e];rfl
  have ht:=h.takes _ ho2
  have hr:=h.regs _ ho2
  rw [ho2] at ho
  simp only [takesP,if_true,decide_eq_true_eq,List.length_eq_zero_iff] at ht
  rw [ht] at hr
  simp [regsP] at hr
  have he:(stp s).w.op=oRet:=e
  have hops:(stp s).w.operands=[]:=ht
  unfold bytesR bytesP StmP.exprs codeR
  rw [ho,hops,ht,he,←hr]
  rfl
 ·have ho2:opnP s.w.op=some ⟨1,2,64,0,0⟩:=by rw [e];rfl
  have ht:=h.takes _ ho2
  have hr:=h.regs _ ho2
  rw [ho2] at ho
  simp only [takesP,if_true,decide_eq_true_eq] at ht
  obtain ⟨a,b,hab⟩:=list_pair ht
  rw [hab] at hr
  have hn:=regs_two hr
  have he:(stp s).w.op=oMov:=e
  have hops:(stp s).w.operands=[a,b]:=hab
  have hcd:codeR (stp s)=64+4*(regV a).toNat+(regV b).toNat:=by unfold codeR reg0 reg1;rw [he,hops];rfl
  rw [bytes_code (by rw [he];decide) (by rw [he];decide) (by rw [he];decide),hcd,he,hops]
  unfold bytesP StmP.exprs
  rw [ho,hab,hn,Nat.add_assoc]
  rfl
 ·have ho2:opnP s.w.op=some ⟨1,2,80,0,0⟩:=by rw [e];rfl
  have ht:=h.takes _ ho2
  have hr:=h.regs _ ho2
  rw [ho2] at ho
  simp only [takesP,if_true,decide_eq_true_eq] at ht
  obtain ⟨a,b,hab⟩:=list_pair ht
  rw [hab] at hr
  have hn:=regs_two hr
  have he:(stp s).w.op=oAdd:=e
  have hops:(stp s).w.operands=[a,b]:=hab
  have hcd:codeR (stp s)=80+4*(regV a).toNat+(regV b).toNat:=by unfold codeR reg0 reg1;rw [he,hops];rfl
  rw [bytes_code (by rw [he];decide) (by rw [he];decide) (by rw [he];decide),hcd,he,hops]
  unfold bytesP StmP.exprs
  rw [ho,hab,hn,Nat.add_assoc]
  rfl
 ·have ho2:opnP s.w.op=some ⟨1,2,96,0,0⟩:=by rw [e];rfl
  have ht:=h.takes _ ho2
  have hr:=h.regs _ ho2
  rw [ho2] at ho
  simp only [takesP,if_true,decide_eq_true_eq] at ht
  obtain ⟨a,b,hab⟩:=list_pair ht
  rw [hab] at hr
  have hn:=regs_two hr
  have he:(stp s).w.op=oSub:=e
  have hops:(stp s).w.operands=[a,b]:=hab
  have hcd:codeR (stp s)=96+4*(regV a).toNat+(regV b).toNat:=by unfold codeR reg0 reg1;rw [he,hops];rfl
  rw [bytes_code (by rw [he];decide) (by rw [he];decide) (by rw [he];decide),hcd,he,hops]
  unfold bytesP StmP.exprs
  rw [ho,hab,hn,Nat.add_assoc]
  rfl
 ·have ho2:opnP s.w.op=some ⟨2,1,16,0,1⟩:=by rw [e];rfl
  have ht:=h.takes _ ho2
  have hr:=h.regs _ ho2
  rw [ho2] at ho
  simp [takesP] at ht
  obtain ⟨a,b,hab⟩:=list_pair ht
  rw [hab] at hr
  have hn:=regs_one hr
  have he:(stp s).w.op=oLoad:=e
  have hops:(stp s).w.operands=[a,b]:=hab
  have hlg:¬s.long=true:=fun q=>by rcases h.long q with k|k<;>(rw [e] at k;exact absurd k (by decide))
  have hx:=exprs_eq (operand_one (all:=all) (x:=stp s) (by rw [he];rintro (q|q|q);exact absurd q (by decide);exact absurd q (by decide);exact hlg q) (by unfold jumpR;rw [he];decide)) [b]
  rw [hat] at hx
  have hcd:codeR (stp s)=16+(regV a).toNat:=by unfold codeR reg0;rw [he,hops];rfl
  rw [bytes_code (by rw [he];decide) (by rw [he];decide) (by rw [he];decide),hcd,he,hops]
  show behind _ (exprsR all (stp s) [b])=_
  rw [hx]
  unfold bytesP StmP.exprs
  rw [ho,hab,hn]
  rfl
 ·have ho2:opnP s.w.op=some ⟨2,0,160,0,2⟩:=by rw [e];rfl
  have hr:=h.regs _ ho2
  rw [ho2] at ho
  simp [regsP] at hr
  have he:(stp s).w.op=oCall:=e
  have hops:(stp s).w.operands=s.w.operands:=rfl
  have hx:=exprs_eq (operand_two (all:=all) (x:=stp s) (Or.inr (Or.inl he))) s.w.operands
  rw [hat] at hx
  have hcd:codeR (stp s)=160:=by unfold codeR;rw [he];rfl
  rw [bytes_code (by rw [he];decide) (by rw [he];decide) (by rw [he];decide),hcd,he,hops]
  show behind _ (exprsR all (stp s) s.w.operands)=_
  rw [hx]
  unfold bytesP StmP.exprs
  rw [ho,←hr]
  rfl
 ·have ho2:opnP s.w.op=some ⟨3,0,128,129,2⟩:=by rw [e];rfl
  have ht:=h.takes _ ho2
  have hr:=h.regs _ ho2
  rw [ho2] at ho
  simp [takesP] at ht
  simp [regsP] at hr
  obtain ⟨a,ha⟩:=list_one ht
  have he:(stp s).w.op=oJmp:=e
  have hops:(stp s).w.operands=[a]:=ha
  have hn:s.added=0:=hr.symm
  have hex:s.exprs=[a]:=by unfold StmP.exprs;rw [ho,ha];rfl
  have hl:(stp s).long=s.long:=rfl
  rw [bytes_code (by rw [he];decide) (by rw [he];decide) (by rw [he];decide),he,hops]
  show behind _ (exprsR all (stp s) [a])=_
  unfold bytesP farP
  rw [hex,ho]
  cases hlg:s.long with
  |true =>
   have hcd:codeR (stp s)=129:=by unfold codeR;rw [he,hl,hlg];rfl
   have hx:=exprs_eq (operand_two (all:=all) (x:=stp s) (Or.inr (Or.inr hlg))) [a]
   rw [hat] at hx
   rw [hx,hcd,hn]
   rfl
  |false =>
   have hcd:codeR (stp s)=128:=by unfold codeR;rw [he,hl,hlg];rfl
   have hx:operandR all (stp s) a=if (value s.at_ all a).2≠0 then ((value s.at_ all a).2,[]) else (0,[byteP ((value s.at_ all a).1-s.at_-2)]):=by
    unfold operandR
    rw [hat,if_neg (show ¬((stp s).w.op=oWord∨(stp s).w.op=oCall∨(stp s).long=true) by rw [he,hl,hlg];decide),if_pos (show 0≤jumpR (stp s) by unfold jumpR;rw [he];decide)]
   rw [short_end hx,hcd,hn]
   rfl
 ·have ho2:opnP s.w.op=some ⟨3,1,132,136,2⟩:=by rw [e];rfl
  have ht:=h.takes _ ho2
  have hr:=h.regs _ ho2
  rw [ho2] at ho
  simp [takesP] at ht
  obtain ⟨b,a,hab⟩:=list_pair ht
  rw [hab] at hr
  have hn:=regs_one hr
  have he:(stp s).w.op=oJz:=e
  have hops:(stp s).w.operands=[b,a]:=hab
  have hex:s.exprs=[a]:=by unfold StmP.exprs;rw [ho,hab];rfl
  have hl:(stp s).long=s.long:=rfl
  rw [bytes_code (by rw [he];decide) (by rw [he];decide) (by rw [he];decide),he,hops]
  show behind _ (exprsR all (stp s) [a])=_
  unfold bytesP farP
  rw [hex,ho]
  cases hlg:s.long with
  |true =>
   have hcd:codeR (stp s)=136+(regV b).toNat:=by unfold codeR reg0;rw [he,hl,hlg,hops];rfl
   have hx:=exprs_eq (operand_two (all:=all) (x:=stp s) (Or.inr (Or.inr hlg))) [a]
   rw [hat] at hx
   rw [hx,hcd,hn]
   rfl
  |false =>
   have hcd:codeR (stp s)=132+(regV b).toNat:=by unfold codeR reg0;rw [he,hl,hlg,hops];rfl
   have hx:operandR all (stp s) a=if (value s.at_ all a).2≠0 then ((value s.at_ all a).2,[]) else (0,[byteP ((value s.at_ all a).1-s.at_-2)]):=by
    unfold operandR
    rw [hat,if_neg (show ¬((stp s).w.op=oWord∨(stp s).w.op=oCall∨(stp s).long=true) by rw [he,hl,hlg];decide),if_pos (show 0≤jumpR (stp s) by unfold jumpR;rw [he];decide)]
   rw [short_end hx,hcd,hn]
   rfl
 ·have ho2:opnP s.w.op=some ⟨4,0,0,0,1⟩:=by rw [e];rfl
  rw [ho2] at ho
  have he:(stp s).w.op=oByte:=e
  have hlg:¬s.long=true:=fun q=>by rcases h.long q with k|k<;>(rw [e] at k;exact absurd k (by decide))
  have hx:=exprs_eq (operand_one (all:=all) (x:=stp s) (by rw [he];rintro (q|q|q);exact absurd q (by decide);exact absurd q (by decide);exact hlg q) (by unfold jumpR;rw [he];decide)) (stp s).w.operands
  rw [hat] at hx
  unfold bytesR bytesP StmP.exprs
  rw [hx,ho,he]
  simp [oSpace,oAlign,oByte,oWord,opSet,stp]
 ·have ho2:opnP s.w.op=some ⟨4,0,0,0,2⟩:=by rw [e];rfl
  rw [ho2] at ho
  have he:(stp s).w.op=oWord:=e
  have hx:=exprs_eq (operand_two (all:=all) (x:=stp s) (Or.inl he)) (stp s).w.operands
  rw [hat] at hx
  unfold bytesR bytesP StmP.exprs
  rw [hx,ho,he]
  simp [oSpace,oAlign,oByte,oWord,opSet,stp]
 ·have ho2:opnP s.w.op=some ⟨5,0,0,0,0⟩:=by rw [e];rfl
  rw [ho2] at ho
  have he:(stp s).w.op=oSpace:=e
  unfold bytesR bytesP
  rw [hsz,he,ho]
  simp [oSpace,opSet]
 ·have ho2:opnP s.w.op=some ⟨6,0,0,0,0⟩:=by rw [e];rfl
  rw [ho2] at ho
  have he:(stp s).w.op=oAlign:=e
  unfold bytesR bytesP
  rw [hsz,he,ho]
  simp [oAlign,oSpace,opSet]
 ·rcases h.known with k|k|k
  ·exact absurd k e0
  ·exact absurd k e1
  ·simp [opnP,e2,e3,e4,e5,e6,e7,e8,e9,e10,e11,e12,e13,e14] at k
theorem num_len {d:Nat}(hd:d=1∨d=2) (v:Int) (h0:(numP d v).1=0):(numP d v).2.length=d:=by
 unfold numP at h0 ⊢
 rcases hd with rfl|rfl
 ·simp only [if_true] at h0 ⊢
  split at h0
  ·cases h0
  ·rename_i k;rw [if_neg k];rfl
 ·simp only [show ¬(2=1) by decide,if_false] at h0 ⊢
  split at h0
  ·cases h0
  ·rename_i k;rw [if_neg k];rfl
theorem exprs_len {all:List (List UInt8×Int)}{at_:Int}{d:Nat}(hd:d=1∨d=2):∀ops,(exprsP all at_ d ops).1=0→(exprsP all at_ d ops).2.length=d*ops.length
 |[],_=>by simp [exprsP]
 |e::r,h0=>by
  simp only [exprsP] at h0 ⊢
  split at h0
  ·rename_i k;exact absurd h0 k
  ·rename_i k1
   rw [if_neg k1]
   split at h0
   ·rename_i k;exact absurd h0 k
   ·rename_i k2
    rw [if_neg k2]
    split at h0
    ·rename_i k;exact absurd h0 k
    ·rename_i k3
     rw [if_neg k3]
     simp only [List.length_append,List.length_cons]
     rw [num_len hd _ (by simpa using k2),exprs_len hd r (by simpa using k3),Nat.mul_add]
     omega
theorem behind_len {c:Int}{x:Int×List UInt8}(h0:(behind c x).1=0):x.1=0∧(behind c x).2.length=1+x.2.length:=by
 unfold behind at h0 ⊢
 split at h0
 ·rename_i k;exact absurd h0 k
 ·rename_i k
  rw [if_neg k]
  exact ⟨by simpa using k,by simp;omega⟩
theorem bytes_len {s:StmP}(h:StOkP s) (all:List (List UInt8×Int)) (h0:(bytesP all s).1=0):(bytesP all s).2.length=sizeP s:=by
 have hk:∀o,opnP s.w.op=some o→s.o=o:=fun o ho=>by rw [h.opn,ho];rfl
 by_cases k0:s.w.op=[]∨s.w.op=opSet
 ·have:s.o=noOpn:=by
   rw [h.opn]
   rcases k0 with k|k<;>(rw [k];rfl)
  unfold bytesP sizeP
  rw [this]
  rfl
 ·have hs:(opnP s.w.op).isSome=true:=by
   rcases h.known with q|q|q
   ·exact absurd (Or.inl q) k0
   ·exact absurd (Or.inr q) k0
   ·exact q
  obtain ⟨o,ho⟩:=Option.isSome_iff_exists.1 hs
  have hso:=hk o ho
  have ht:=h.takes o ho
  have hel:s.exprs.length=s.w.operands.length-o.regs:=by unfold StmP.exprs;rw [List.length_drop,hso]
  have hwd:=opn_width ho
  unfold bytesP sizeP at *
  rw [hso] at h0 ⊢
  unfold takesP at ht
  rcases hwd with ⟨k,d⟩|⟨k,d⟩|⟨k,d⟩|⟨k,d⟩|k|k
  ·simp only [k,true_or,if_true,decide_eq_true_eq] at h0 ht ⊢
   have hnil:s.exprs=[]:=List.length_eq_zero_iff.1 (by omega)
   rw [hnil]
   rfl
  ·simp only [k,or_true,if_true,show ¬(2=1) by decide,show ¬(2=4) by decide,if_false,decide_eq_true_eq] at h0 ht ⊢
   obtain ⟨b1,b2⟩:=behind_len h0
   rw [b2,exprs_len d _ b1,hel,ht]
   rw [show o.regs+1-o.regs=1 by omega,Nat.mul_one]
  ·simp only [k,show ¬(3=1) by decide,show ¬(3=2) by decide,show ¬(3=4) by decide,or_false,if_true,if_false,decide_eq_true_eq] at h0 ht ⊢
   cases hlg:s.long with
   |true =>
    rw [hlg,if_pos rfl] at h0
    rw [if_pos rfl,if_pos rfl]
    obtain ⟨b1,b2⟩:=behind_len h0
    rw [b2,exprs_len (Or.inr d) _ b1,hel,ht,d]
    omega
   |false =>
    rw [hlg,if_neg (show ¬false=true by decide)] at h0
    rw [if_neg (show ¬false=true by decide),if_neg (show ¬false=true by decide)]
    split at h0
    ·rename_i q;exact absurd h0 q
    ·rename_i q;rw [if_neg q];rfl
  ·simp only [k,show ¬(4=1) by decide,show ¬(4=2) by decide,show ¬(4=3) by decide,or_false,if_true,if_false] at h0 ⊢
   exact exprs_len d _ h0
  ·simp only [k,show ¬(5=1) by decide,show ¬(5=2) by decide,show ¬(5=3) by decide,show ¬(5=4) by decide,or_false,true_or,if_true,if_false] at h0 ⊢
   simp
  ·simp only [k,show ¬(6=1) by decide,show ¬(6=2) by decide,show ¬(6=3) by decide,show ¬(6=4) by decide,show ¬(6=5) by decide,or_false,or_true,if_true,if_false] at h0 ⊢
   simp
theorem reck_in {v c n:Int}(h1:-1000000≤step v c n) (h2:step v c n≤1000000):reck v c n=(step v c n,0):=by
 unfold reck;rw [if_neg (by omega)]
theorem reck_out {v c n:Int}(h:step v c n < -1000000∨1000000<step v c n):reck v c n=(0,7):=by
 unfold reck;rw [if_pos h]
theorem regV_le (l:List UInt8):(regV l).toNat≤3:=by
 unfold regV
 split
 ·rename_i h
  unfold regB at h
  split at h
  ·simp at h;simp;omega
  ·cases h
 ·simp
theorem codeR_le (x:StpP):codeR x≤255:=by
 have h0:reg0 x≤3:=regV_le _
 have h1:reg1 x≤3:=regV_le _
 unfold codeR
 split
 ·omega
 ·split
  ·omega
  ·split
   ·omega
   ·split
    ·omega
    ·split
     ·omega
     ·split
      ·omega
      ·split
       ·split<;>omega
       ·split
        ·split<;>omega
        ·omega
theorem ok_in {s:StmP}(h:StOkP s):(0≤jumpR (stp s)→(jumpR (stp s)).toNat<s.w.operands.length)∧(countsR s.w.op).2≤s.w.operands.length∧(s.w.operands.take (countsR s.w.op).2).all regB=true:=by
 rcases op_all s.w.op with e|e|e|e|e|e|e|e|e|e|e|e|e|e|e|⟨e0,e1,e2,e3,e4,e5,e6,e7,e8,e9,e10,e11,e12,e13,e14⟩
 case inr.inr.inr.inr.inr.inr.inr.inr.inr.inr.inr.inr.inr.inr.inr =>
  rcases h.known with k|k|k
  ·exact absurd k e0
  ·exact absurd k e1
  ·simp [opnP,e2,e3,e4,e5,e6,e7,e8,e9,e10,e11,e12,e13,e14] at k
 case inl =>
  have hj:jumpR (stp s)=-1:=by show jumpR ⟨s.w,_,_,_,_⟩=_;unfold jumpR;rw [e];rfl
  rw [hj,e]
  exact ⟨fun q=>absurd q (by decide),Nat.zero_le _,rfl⟩
 case inr.inl =>
  have hj:jumpR (stp s)=-1:=by show jumpR ⟨s.w,_,_,_,_⟩=_;unfold jumpR;rw [e];rfl
  rw [hj,e]
  exact ⟨fun q=>absurd q (by decide),Nat.zero_le _,rfl⟩
 all_goals
  have ho:∃o,opnP s.w.op=some o∧o.regs=(countsR s.w.op).2∧(0≤jumpR (stp s)→¬o.kind=1∧¬o.kind=4∧(jumpR (stp s)).toNat=o.regs):=by
   refine ⟨_,by rw [e];rfl,by rw [e];rfl,?_⟩
   have hj:jumpR (stp s)=jumpR ⟨⟨[],s.w.op,[]⟩,0,0,0,false⟩:=rfl
   rw [hj,e]
   decide
  obtain ⟨o,h1,h2,h3⟩:=ho
  have ht:=h.takes o h1
  have hr:=regs_some (h.regs o h1)
  rw [h2] at hr
  have hl:o.regs≤s.w.operands.length:=by
   unfold takesP at ht
   split at ht
   ·simp at ht;omega
   ·split at ht<;>(simp at ht;omega)
  refine ⟨fun q=>?_,by omega,hr⟩
  obtain ⟨q1,q2,q3⟩:=h3 q
  unfold takesP at ht
  rw [if_neg q1,if_neg q2] at ht
  simp at ht
  omega
theorem chain_each {ns:List (List UInt8×Int)}{outs:List (List UInt8×Nat)}(h:ChainN ns outs):∀x∈outs,∃ns',LeftW ns' (wordsP x.1)∧textP (wordsP x.1)=x.1:=by
 induction outs generalizing ns with
 |nil=>intro x hx;cases hx
 |cons y r ih =>
  intro x hx
  rcases List.mem_cons.1 hx with rfl|hx
  ·exact ⟨ns,h.1,h.2.1⟩
  ·exact ih h.2.2 x hx
theorem lookAll_bad {t:List UInt8}{n:Nat}{r:List (List UInt8×Nat)}{l:List StmP}(h:(lookP l (wordsP t) t n).1≠0):lookAll ((t,n)::r) l=((lookP l (wordsP t) t n).1,n,l):=by
 simp only [lookAll]
 rw [if_pos h]
theorem lookAll_step {t:List UInt8}{n:Nat}{r:List (List UInt8×Nat)}{l:List StmP}(h:(lookP l (wordsP t) t n).1=0):lookAll ((t,n)::r) l=lookAll r (l++[(lookP l (wordsP t) t n).2]):=by
 simp only [lookAll]
 rw [if_neg (by simpa using h)]
def contB (done:List UInt8) (q:Int×Nat×List UInt8):Int×Nat×List UInt8:=if q.1≠0 then (q.1,q.2.1,[]) else (0,0,done++q.2.2)
theorem contB_nil (all:List (List UInt8×Int)):∀l,contB [] (allBytes all l)=allBytes all l
 |[]=>rfl
 |s::r=>by
  by_cases h:(bytesP all s).1=0
  ·by_cases k:(allBytes all r).1=0
   ·simp [contB,allBytes,h,k]
   ·simp [contB,allBytes,h,k]
  ·simp [contB,allBytes,h]
theorem contB_bad {all:List (List UInt8×Int)}{s:StmP}{r:List StmP}{done:List UInt8}(h:(bytesP all s).1≠0):contB done (allBytes all (s::r))=((bytesP all s).1,s.frm,[]):=by
 simp [contB,allBytes,h]
theorem contB_step {all:List (List UInt8×Int)}{s:StmP}{r:List StmP}{done:List UInt8}(h:(bytesP all s).1=0):contB done (allBytes all (s::r))=contB (done++(bytesP all s).2) (allBytes all r):=by
 by_cases k:(allBytes all r).1=0
 ·simp [contB,allBytes,h,k]
 ·simp [contB,allBytes,h,k]
theorem sizeP_le {s:StmP}(h:StOkP s) (hl:s.w.operands.length≤200):sizeP s≤1000:=by
 have hc:=h.count
 rw [←size_eq h]
 unfold sizeR stp
 simp only
 have h3:(s.count-s.at_.toNat%s.count)%s.count≤s.count:=by
  rcases Nat.eq_zero_or_pos s.count with q|q
  ·rw [q];simp
  ·exact Nat.le_of_lt (Nat.mod_lt _ q)
 split
 ·omega
 ·split
  ·omega
  ·split
   ·omega
   ·split
    ·split<;>omega
    ·split
     ·omega
     ·split
      ·omega
      ·split
       ·omega
       ·split<;>omega
theorem find_frm:∀(n:Nat) (l:List StmP),(findP n l).map (fun s=>(s.w,s.txt,s.frm))=l.map fun s=>(s.w,s.txt,s.frm):=by
 have hl:∀(l:List StmP) (a:Nat),(laidP l a).map (fun s=>(s.w,s.txt,s.frm))=l.map fun s=>(s.w,s.txt,s.frm):=fun l=>by
  induction l with
  |nil=>intro a;rfl
  |cons s r ih=>intro a;simp [laidP,ih]
 intro n
 induction n with
 |zero=>intro l;rfl
 |succ n ih =>
  intro l
  simp only [findP]
  split
  ·rw [ih,hl,List.map_map]
   apply List.map_congr_left
   intro s _
   obtain ⟨h1,_,h3,h4,_⟩:=long_w (namesP l) s
   simp [Function.comp,h1,h3,h4]
  ·rfl
theorem lookAll_txt:∀(r:List (List UInt8×Nat)) (l:List StmP),(∀x∈r,∃ns',LeftW ns' (wordsP x.1))→(lookAll r l).1=0→(lookAll r l).2.2.map (fun s=>(s.txt,s.frm))=l.map (fun s=>(s.txt,s.frm))++r
 |[],l,_,_=>by simp [lookAll]
 |(t,n)::r,l,h,h0=>by
  by_cases k:(lookP l (wordsP t) t n).1=0
  ·rw [lookAll_step k] at h0 ⊢
   obtain ⟨ns',hw⟩:=h (t,n) (by simp)
   obtain ⟨_,_,q1,q2,_⟩:=look_ok hw t n k
   rw [lookAll_txt r _ (fun x hx=>h x (by simp [hx])) h0]
   simp [q1,q2]
  ·rw [lookAll_bad k] at h0
   exact absurd h0 k
def neqTo (l:List (List UInt8)) (i:Nat):Nat→Bool
 |0=>true
 |k+1=>neqTo l i k&&(decide (k=0) || decide (l.getD k []≠l.getD i []))
def okAt (l:List (List UInt8)) (i:Nat):Bool:=nameB (l.getD i [])&&neqTo l i i
theorem neqTo_iff (l:List (List UInt8)) (i:Nat):∀k,neqTo l i k=true↔∀j,j<k→j≠0→l.getD j []≠l.getD i []
 |0=>by simp [neqTo]
 |k+1=>by
  have ih:=neqTo_iff l i k
  simp only [neqTo,Bool.and_eq_true,Bool.or_eq_true,decide_eq_true_eq,ih]
  constructor
  ·rintro ⟨h1,h2⟩ j hj h0
   rcases Nat.lt_or_ge j k with h|h
   ·exact h1 j h h0
   ·obtain rfl:j=k:=by omega
    rcases h2 with h2|h2
    ·exact absurd h2 h0
    ·exact h2
  ·intro h
   exact ⟨fun j hj h0=>h j (by omega) h0,if hk:k=0 then Or.inl hk else Or.inr (h k (by omega) hk)⟩
theorem neqTo_one (l:List (List UInt8)) (i:Nat):neqTo l i 1=true:=rfl
theorem allNames_iff:∀l:List (List UInt8),allNames l=true↔∀i,i<l.length→nameB (l.getD i [])=true
 |[]=>by simp [allNames]
 |a::r=>by
  have ih:=allNames_iff r
  simp only [allNames,Bool.and_eq_true,ih]
  constructor
  ·rintro ⟨h1,h2⟩ i hi
   cases i with
   |zero=>exact h1
   |succ i=>exact h2 i (by simpa using hi)
  ·intro h
   exact ⟨h 0 (by simp),fun i hi=>h (i+1) (by simpa using hi)⟩
theorem apartF_iff:∀(r seen:List (List UInt8)),apartF seen r=true↔∀i,i<r.length→r.getD i []∉seen∧∀k,k<i→r.getD k []≠r.getD i []
 |[],seen=>by simp [apartF]
 |a::r,seen=>by
  have ih:=apartF_iff r (seen++[a])
  simp only [apartF,Bool.and_eq_true,Bool.not_eq_true',List.contains_eq_mem,decide_eq_false_iff_not,ih]
  constructor
  ·rintro ⟨h1,h2⟩ i hi
   cases i with
   |zero=>exact ⟨h1,fun k hk=>by omega⟩
   |succ i =>
    obtain ⟨h3,h4⟩:=h2 i (by simpa using hi)
    simp only [List.mem_append,List.mem_singleton,not_or] at h3
    refine ⟨h3.1,fun k hk=>?_⟩
    cases k with
    |zero=>exact fun e=>h3.2 e.symm
    |succ k=>exact h4 k (by omega)
  ·intro h
   refine ⟨(h 0 (by simp)).1,fun i hi=>?_⟩
   obtain ⟨h3,h4⟩:=h (i+1) (by simpa using hi)
   refine ⟨?_,fun k hk=>h4 (k+1) (by omega)⟩
   simp only [List.mem_append,List.mem_singleton,not_or]
   exact ⟨h3,fun e=>h4 0 (by omega) e.symm⟩
theorem heads_ok (l:List (List UInt8)):(allNames l=true∧apartP l.tail=true)↔∀i,i<l.length→okAt l i=true:=by
 unfold apartP
 rw [allNames_iff,apartF_iff]
 unfold okAt
 simp only [Bool.and_eq_true,neqTo_iff]
 constructor
 ·rintro ⟨h1,h2⟩ i hi
  refine ⟨h1 i hi,fun j hj h0=>?_⟩
  have:=(h2 (i-1) (by rw [List.length_tail];omega)).2 (j-1) (by omega)
  obtain ⟨j,rfl⟩:∃j',j=j'+1:=⟨j-1,by omega⟩
  obtain ⟨i,rfl⟩:∃i',i=i'+1:=⟨i-1,by omega⟩
  cases l with
  |nil=>simp at hi
  |cons a r=>simpa using this
 ·intro h
  refine ⟨fun i hi=>(h i hi).1,fun i hi=>⟨by simp,fun k hk=>?_⟩⟩
  rw [List.length_tail] at hi
  have:=(h (i+1) (by omega)).2 (k+1) (by omega) (by omega)
  cases l with
  |nil=>simp at hi
  |cons a r=>simpa using this
theorem heads_bad {l:List (List UInt8)}{i:Nat}(hi:i<l.length) (h:okAt l i=false):allNames l=false∨apartP l.tail=false:=by
 cases h1:allNames l with
 |false=>exact Or.inl rfl
 |true =>
  cases h2:apartP l.tail with
  |false=>exact Or.inr rfl
  |true =>
   have:=(heads_ok l).1 ⟨h1,h2⟩ i hi
   rw [h] at this
   cases this
end Go.Proofs.YtcepppilgncdmaaGreatDoor
