/-
  Joined: RAsm.
-/
import Derived.Test.YtcepppilgncdmaaGreatDoorBX35
import Derived.Test.YtcepppilgncdmaaGreatDoorBX38
import Derived.Test.YtcepppilgncdmaaGreatDoorBX39
namespace Go.Proofs.YtcepppilgncdmaaGreatDoor
open Go.RowKit
attribute [local go_sem ↓] Go.wp_at_zero Go.wp_at_succ
def AllLn:List LnV→List StmP→Prop
 |[],[]=>True
 |ln::lr,s::sr=>lnOf s ln∧AllLn lr sr
 |_,_=>False
theorem AllLn.snoc:∀{ls:List LnV}{l:List StmP}{ln:LnV}{s:StmP},AllLn ls l→lnOf s ln→AllLn (ls++[ln]) (l++[s])
 |[],[],_,_,_,h=>⟨h,trivial⟩
 |_::_,_::_,_,_,h,h2=>⟨h.1,AllLn.snoc h.2 h2⟩
 |[],_::_,_,_,h,_=>h.elim
 |_::_,[],_,_,h,_=>h.elim
theorem AllLn.len:∀{ls:List LnV}{l:List StmP},AllLn ls l→ls.length=l.length
 |[],[],_=>rfl
 |_::_,_::_,h=>by simp [AllLn.len h.2]
 |[],_::_,h=>h.elim
 |_::_,[],h=>h.elim
def RRows (r:Int×Nat×ProgP) (B:Nat) (w:World) (vb vl vn:Value):Prop:=
 (r.1≠0∧vb=.slice none 0 0∧vl=.slice none 0 0∧vn=.slice none 0 0) ∨
   (r.1=0∧∃ls ns,w.ownsRow B 5 1 vb r.2.2.bytes.length (byCells r.2.2.bytes)∧w.ownsRow B 38 4 vl ls.length (lnCells ls)∧w.ownsRow B 40 2 vn ns.length (nameCells ns)∧AllLn ls r.2.2.stms∧plainN ns=namesP r.2.2.stms∧ls.length≤300∧ns.length≤600∧r.2.2.bytes.length≤300000)
def RMasPost (r:Int×Nat×ProgP) (w:World) (e:Ending) (w':World):Prop:=
 Below w.heap.size w w'∧∃vb vl vn,e=.returned (.tuple #[.agg #[vb,vl,vn],.int .i64 r.1,.int .i64 (r.2.1:Nat)])∧RRows r w.heap.size w' vb vl vn
theorem info_step:(Tryz.prog.info? 138).map (fun i=>(i.zero,i.size,i.bytes))=some (some (.agg #[.string ⟨#[]⟩,.string ⟨#[]⟩,.slice none 0 0,.int .i64 0,.int .i64 0,.int .i64 0,.bool false]),7,88):=by kernel_rfl
theorem StrV.grown {w w':World}{B:Nat}{v:Value}{ss:List ByteArray}{row:Option Nat}(h:StrV w B v ss) (hg:w.grownBy w' row) (hr:∀k cur,w.heap[k]?=some (.cells cur 9 (0,0))→some k≠row):StrV w' B v ss:=by
 rcases h with h|⟨k,off,cap,cur,h1,h2,h3,h4⟩
 ·exact Or.inl h
 ·exact Or.inr ⟨k,off,cap,cur,h1,h2,by rw [hg.block k (Array.getElem?_eq_some_iff.1 h3).1 (hr k cur h3)];exact h3,h4⟩
theorem StepsAt.rowNotStr {w:World}{B:Nat}{v:Value}{xs:List SpV}(h:StepsAt w B v xs):∀k cur,w.heap[k]?=some (.cells cur 9 (0,0))→some k≠v.ownBlock:=by
 rcases h.own.2 with ⟨rfl,_⟩|⟨g,cap,cur',rfl,_,hh,_⟩
 ·intro k cur _ e;cases e
 ·rintro k cur hk e
  have e1:k=g:=by simpa [Value.ownBlock] using e
  subst e1
  rw [hh] at hk
  injection hk with hk
  injection hk with _ hk
  exact absurd hk (by decide)
theorem linesAt {w:World}{B g n cap:Nat}{outs:List (ByteArray×Nat)}(h:w.ownsRow B 38 4 (.slice (some ⟨g,0,none⟩) n cap) outs.length (lineCells outs)) (j:Nat) (hj:j<outs.length):w.cell? ⟨g,j*4,none⟩=some (.string outs[j].1)∧w.cell? ⟨g,j*4+1,none⟩=some (.int .i64 (outs[j].2:Nat)):=by
 have hn:n=outs.length:=by
  rcases h.2 with ⟨h1,_⟩|⟨g',cap',cur,h1,_⟩
  ·cases h1
  ·injection h1
 subst hn
 have h0:=h.cellAt (j*4) (by omega)
 have h1:=h.cellAt (j*4+1) (by omega)
 have hz:=lnCells_at (outs.map fun x=>⟨x.1,x.2,0,0⟩) j (by simpa using hj)
 rw [lnCells_lines] at hz
 rw [h0,h1,hz.1,hz.2.1]
 simp
theorem zero_row {w:World}{gp:Nat}(h:RowT w 33 gp [.slice none 0 0,.slice none 0 0,.slice none 0 0]):RowT ((((w.setCell ⟨gp,0,none⟩ (.slice none 0 0)).setCell ⟨gp,1,none⟩ (.slice none 0 0)).setCell ⟨gp,2,none⟩ (.slice none 0 0)).drew) 33 gp [.slice none 0 0,.slice none 0 0,.slice none 0 0]:=((h.set 0 (.slice none 0 0)).set 1 (.slice none 0 0)).set 2 (.slice none 0 0)
theorem zero_keeps {w:World}{gp B:Nat}(hB:B≤w.heap.size) (hg:B≤gp):Below B w ((((w.setCell ⟨gp,0,none⟩ (.slice none 0 0)).setCell ⟨gp,1,none⟩ (.slice none 0 0)).setCell ⟨gp,2,none⟩ (.slice none 0 0)).drew):=
 (((((Keeps.refl [gp] w).setCell (p:=⟨gp,0,none⟩) (by simp) (.slice none 0 0)).setCell (p:=⟨gp,1,none⟩) (by simp) (.slice none 0 0)).setCell (p:=⟨gp,2,none⟩) (by simp) (.slice none 0 0)).drew).below hB (fun k hk=>by rw [List.mem_singleton] at hk;omega)
theorem step_ok {x:SpV}{s:StmP}(hp:x.p=stp s) (h:StOkP s) (h1:x.lb.size≤1000) (h2:x.op.size≤1000) (h3:∀i (h:i<x.os.length),x.os[i].size≤1000) (h4:x.os.length≤200) (h5:x.at_≤1000000):SpOk x∧SpIn x:=by
 have e1:L x.op=s.w.op:=congrArg (fun q:StpP=>q.w.op) hp
 have e2:x.os.map L=s.w.operands:=congrArg (fun q:StpP=>q.w.operands) hp
 have e3:x.fix=s.count:=congrArg (fun q:StpP=>q.fix) hp
 have e4:x.os.length=s.w.operands.length:=by rw [←e2,List.length_map]
 obtain ⟨i1,i2,i3⟩:=ok_in h
 refine ⟨⟨h1,h2,h3,h4,h5,by rw [e3];exact h.count,fun q=>by rw [e4];exact (h.set (by rw [←e1];exact q)).2,fun q=>?_⟩,⟨?_,?_,?_⟩⟩
 ·have:=h.al (by rw [←e1];exact q)
  rw [e3]
  unfold alignB at this
  simp only [decide_eq_true_eq] at this
  omega
 ·rw [hp,e4];exact i1
 ·rw [e1,e4];exact i2
 ·rw [e1,e2];exact i3
structure StepsOk (xs:List SpV) (l:List StmP):Prop where
 p:xs.map SpV.p=l.map stp
 ok:∀x∈xs,SpOk x
 inn:∀x∈xs,SpIn x
 list:ListOk l
theorem StepsOk.len {xs:List SpV}{l:List StmP}(h:StepsOk xs l):xs.length=l.length:=by
 have:=congrArg List.length h.p
 simpa using this
theorem StepsOk.snoc {xs:List SpV}{l:List StmP}{x:SpV}{q:StmP}(h:StepsOk xs l) (hp:x.p=stp q) (ho:SpOk x) (hi:SpIn x) (hl:ListOk (l++[q])):StepsOk (xs++[x]) (l++[q]):=by
 refine ⟨by rw [List.map_append,List.map_append,h.p];simp [hp],fun y hy=>?_,fun y hy=>?_,hl⟩
 ·rcases List.mem_append.1 hy with hy|hy
  ·exact h.ok y hy
  ·rw [List.mem_singleton] at hy;rw [hy];exact ho
 ·rcases List.mem_append.1 hy with hy|hy
  ·exact h.inn y hy
  ·rw [List.mem_singleton] at hy;rw [hy];exact hi
theorem StepsAt.snoc {w w':World}{B:Nat}{v v':Value}{xs:List SpV}{x:SpV}(h:StepsAt w B v xs) (hg:w.grownBy w' v.ownBlock) (ho:w'.ownsRow B 138 7 v' (xs.length+1) (spCells xs++spOne x)) (hx:StrV w 0 x.v x.os):StepsAt w' B v' (xs++[x]):=by
 refine ⟨?_,fun y hy=>?_⟩
 ·rw [spCells_append,spCells_one,List.length_append];exact ho
 ·rcases List.mem_append.1 hy with hy|hy
  ·exact (h.strs y hy).grown hg h.rowNotStr
  ·rw [List.mem_singleton] at hy;rw [hy];exact hx.grown hg h.rowNotStr
theorem gOf_ge {w:World}{B e n m cap size:Nat}{sa:Option Addr}{ys:List Value}(h:w.ownsRow B e size (.slice sa n cap) m ys):∀k∈gOf sa,B≤k:=by
 rcases h.2 with ⟨h1,_⟩|⟨g,cap',cur,h1,hb,_⟩
 ·injection h1 with h1 _ _
  subst h1
  intro k hk
  cases hk
 ·injection h1 with h1 _ _
  subst h1
  intro k hk
  rw [gOf,List.mem_singleton] at hk
  rw [hk];exact hb
theorem laidV_in:∀(xs:List SpV) (a:Nat),(∀x∈xs,SpIn x)→∀x∈laidV xs a,SpIn x
 |[],_,_,x,hx=>by cases hx
 |y::r,a,h,x,hx=>by
  rcases List.mem_cons.1 hx with rfl|hx
  ·exact (h y (by simp)).put a
  ·exact laidV_in r _ (fun z hz=>h z (by simp [hz])) x hx
theorem StepsOk.laid {xs:List SpV}{l:List StmP}(h:StepsOk xs l) (hl:xs.length≤300):StepsOk (laidV xs 0) (laidP l 0)∧endR (xs.map SpV.p) 0=endP l 0:=by
 have he:=laid_eq l 0 h.list.each
 refine ⟨⟨?_,laidV_ok xs 0 h.ok (by omega),laidV_in xs 0 h.inn,h.list.laid 0⟩,?_⟩
 ·rw [laidV_p,h.p];exact he.1
 ·rw [h.p];exact he.2
theorem StepsOk.long {xs:List SpV}{l:List StmP}(h:StepsOk xs l):StepsOk (xs.map (longS (namesR (xs.map SpV.p)))) (l.map (longP (namesP l)))∧(xs.map SpV.p).any (growsR (namesR (xs.map SpV.p)))=l.any (growsP (namesP l)):=by
 refine ⟨⟨?_,fun x hx=>?_,fun x hx=>?_,h.list.long _⟩,?_⟩
 ·rw [longS_map,h.p];exact h.list.map
 ·obtain ⟨y,hy,rfl⟩:=List.mem_map.1 hx
  exact (h.ok y hy).long _
 ·obtain ⟨y,hy,rfl⟩:=List.mem_map.1 hx
  exact (h.inn y hy).long _
 ·rw [h.p];exact h.list.any
theorem StepsAt.keeps {w w':World}{B gq:Nat}{v:Value}{xs:List SpV}{ps:List Value}(h:StepsAt w B v xs) (hr:RowT w 33 gq ps) (hk:Keeps [gq] w w'):StepsAt w' B v xs:=
 ⟨ownsRow_keeps h.own hk (fun g hg=>by
  rw [List.mem_singleton]
  intro e
  exact own_row_ne h.own hr (by decide) (by rw [←e];exact hg)),fun x hx=>(h.strs x hx).keepsQ hk (fun b cur hb=>by
  rw [List.mem_singleton]
  exact RowT.notStr hr (by decide) b cur hb)⟩
theorem RRows.set {r:Int×Nat×ProgP}{B b:Nat}{w:World}{vb vl vn:Value}{xs:List Value}(h:RRows r B w vb vl vn) (hp:RowT w 33 b xs) (j:Nat) (u:Value):RRows r B (w.setCell ⟨b,j,none⟩ u) vb vl vn:=by
 rcases h with h|⟨h0,ls,ns,h1,h2,h3,h4⟩
 ·exact Or.inl h
 ·exact Or.inr ⟨h0,ls,ns,ownsRow_setCell_other h1 (a:=⟨b,j,none⟩) (own_row_ne h1 hp (by decide)) u,ownsRow_setCell_other h2 (a:=⟨b,j,none⟩) (own_row_ne h2 hp (by decide)) u,ownsRow_setCell_other h3 (a:=⟨b,j,none⟩) (own_row_ne h3 hp (by decide)) u,h4⟩
structure PrgAt (w:World) (C gq:Nat) (vb vl vn:Value) (done:List UInt8) (lsd:List LnV):Prop where
 row:RowT w 33 gq [vb,vl,vn]
 bown:w.ownsRow C 5 1 vb done.length (byCells done)
 lown:w.ownsRow C 38 4 vl lsd.length (lnCells lsd)
theorem PrgAt.below {w w':World}{C gq:Nat}{vb vl vn:Value}{done:List UInt8}{lsd:List LnV}(h:PrgAt w C gq vb vl vn done lsd) (hb:Below w.heap.size w w'):PrgAt w' C gq vb vl vn done lsd:=⟨h.row.below hb,ownsRow_belowP h.bown hb,ownsRow_belowP h.lown hb⟩
theorem PrgAt.bytes {w w':World}{C gq:Nat}{vb vl vn v':Value}{done bs:List UInt8}{lsd:List LnV}(h:PrgAt w C gq vb vl vn done lsd) (hg:w.grownBy w' vb.ownBlock) (ho:w'.ownsRow C 5 1 v' (done.length+bs.length) (byCells done++byCells bs)):PrgAt (w'.setCell ⟨gq,0,none⟩ v') C gq v' vl vn (done++bs) lsd:=by
 have hne:vb.ownBlock≠some gq:=own_row_ne h.bown h.row (by decide)
 have hr:RowT w' 33 gq [vb,vl,vn]:=h.row.grown' hg (Ne.symm hne)
 have hl:=own_keep h.lown h.bown hg (by decide)
 refine ⟨hr.set 0 v',?_,ownsRow_setCell_other hl (a:=⟨gq,0,none⟩) (own_row_ne hl hr (by decide)) _⟩
 rw [List.length_append,byCells_append]
 exact ownsRow_setCell_other ho (a:=⟨gq,0,none⟩) (own_row_ne ho hr (by decide)) _
theorem lnCells_snoc (l:List LnV) (x:LnV):lnCells l++[.string x.t,.int .i64 (x.frm:Nat),.int .i64 (x.at_:Nat),.int .i64 (x.size:Nat)]=lnCells (l++[x]):=by
 induction l with
 |nil=>rfl
 |cons y r ih=>simp only [List.cons_append,lnCells,←ih]
theorem PrgAt.line {w w':World}{C gq:Nat}{vb vl vn v':Value}{done:List UInt8}{lsd:List LnV}{x:LnV}(h:PrgAt w C gq vb vl vn done lsd) (hg:w.grownBy w' vl.ownBlock) (ho:w'.ownsRow C 38 4 v' (lsd.length+1) (lnCells lsd++[.string x.t,.int .i64 (x.frm:Nat),.int .i64 (x.at_:Nat),.int .i64 (x.size:Nat)])):PrgAt (w'.setCell ⟨gq,1,none⟩ v') C gq vb v' vn done (lsd++[x]):=by
 have hne:vl.ownBlock≠some gq:=own_row_ne h.lown h.row (by decide)
 have hr:RowT w' 33 gq [vb,vl,vn]:=h.row.grown' hg (Ne.symm hne)
 have hb:=own_keep h.bown h.lown hg (by decide)
 refine ⟨hr.set 1 v',ownsRow_setCell_other hb (a:=⟨gq,1,none⟩) (own_row_ne hb hr (by decide)) _,?_⟩
 rw [List.length_append,←lnCells_snoc]
 exact ownsRow_setCell_other ho (a:=⟨gq,1,none⟩) (own_row_ne ho hr (by decide)) _
set_option maxRecDepth 100000 in
set_option maxHeartbeats 25600000 in
theorem rAssemble_any (s:ByteArray) (w:World) (hs:s.size≤maxLen):Calls Tryz.prog 41 #[.string s] w (RMasPost (assembleP (L s)) w):=by
 obtain ⟨is,his,hst0,hst1,hst2⟩:=info_parts info_step
 obtain ⟨ib,hib,hbz,hbs1,hbs2⟩:=info_parts info_by
 obtain ⟨il,hil,hlz0,hlz1,hlz2⟩:=info_parts info_line
 have HIS:=hid (show Tryz.prog.info? 138=some is∧is.zero=some (.agg #[.string ⟨#[]⟩,.string ⟨#[]⟩,.slice none 0 0,.int .i64 0,.int .i64 0,.int .i64 0,.bool false])∧is.size=7∧is.bytes=88 from ⟨his,hst0,hst1,hst2⟩)
 have HIB:=hid (show Tryz.prog.info? 5=some ib∧ib.zero=some (.int .u8 0)∧ib.size=1∧ib.bytes=1 from ⟨hib,hbz,hbs1,hbs2⟩)
 have HIL:=hid (show Tryz.prog.info? 38=some il∧il.zero=some (.agg #[.string ⟨#[]⟩,.int .i64 0,.int .i64 0,.int .i64 0])∧il.size=4∧il.bytes=40 from ⟨hil,hlz0,hlz1,hlz2⟩)
 clear his hst0 hst1 hst2 hib hbz hbs1 hbs2 hil hlz0 hlz1 hlz2
 obtain ⟨R,hR⟩:∃R,assembleP (L s)=R:=⟨_,rfl⟩
 rw [hR]
 unfold assembleP at hR
 have HR:=hid hR
 have hb0:Below w.heap.size w (w.alloc (.cells #[.slice none 0 0,.slice none 0 0,.slice none 0 0] 33)):=(Below.refl _ _).alloc (Nat.le_refl _) _
 have HP0:=hid (show RowT (w.alloc (.cells #[.slice none 0 0,.slice none 0 0,.slice none 0 0] 33)) 33 w.heap.size [.slice none 0 0,.slice none 0 0,.slice none 0 0] from RowT.new w 33 [.slice none 0 0,.slice none 0 0,.slice none 0 0])
 have HB0:=hid hb0
 clear hR hb0
 go_enter Tryz.func41,Tryz.ntmps41
 go_upto_region 1 with fail
 generalize w.alloc (.cells #[.slice none 0 0,.slice none 0 0,.slice none 0 0] 33)=w0 at *
 generalize hgp:w.heap.size=gp at *
 have HGP:=hid hgp
 have hsz:gp≤w0.heap.size:=by have:=HB0.out.size;rw [hgp] at this;exact this
 have hgl0:gp<w0.heap.size:=HP0.out.lt
 clear hgp
 go_wp2_with fail
 refine (read_any s w0 hs).mono ?_
 rintro e w1 ⟨hb1,r,hr0,rfl,hcase⟩
 have HB1:=hid (HB0.out.trans (hb1.mono hsz))
 have HP1:=hid (HP0.out.below hb1)
 have hsz1:gp≤w1.heap.size:=Nat.le_trans hsz hb1.size
 clear hb1 HP0 HB0
 rcases hcase with ⟨hx0,_,hre⟩|⟨hx0,_,st,hst,ho⟩
 ·obtain ⟨a,b,c,d,hre⟩:=hre
  obtain ⟨X,hX⟩:∃X,expandP (L s)=X:=⟨_,rfl⟩
  rw [hX] at hre hx0
  have hr1:=HR.out
  rw [hX,if_pos hx0] at hr1
  have e4:w1.cell? ⟨r,4,none⟩=some (.int .i64 X.1):=hre.cell 4 (by simp)
  have e5:w1.cell? ⟨r,5,none⟩=some (.int .i64 (X.2.1:Nat)):=hre.cell 5 (by simp)
  have k0:(X.1 != 0)=true:=by rw [bne_iff_ne];exact hx0
  have p0:w1.cell? ⟨gp,0,none⟩=some (.slice none 0 0):=HP1.out.cell 0 (by simp)
  have p1:w1.cell? ⟨gp,1,none⟩=some (.slice none 0 0):=HP1.out.cell 1 (by simp)
  have p2:w1.cell? ⟨gp,2,none⟩=some (.slice none 0 0):=HP1.out.cell 2 (by simp)
  have g0:=HP1.out.free 0
  have g1:=HP1.out.free 1
  have g2:=HP1.out.free 2
  have HRR:=hid hr1
  clear hre hr1 hX
  go_upto_region 3 with fail
  have HPZ:=hid (zero_row HP1.out)
  have HBZ:=hid (HB1.out.trans (zero_keeps (w:=w1) (gp:=gp) (B:=gp) hsz1 (Nat.le_refl _)))
  go_region
  all_goals
   generalize ((((w1.setCell ⟨gp,0,none⟩ (.slice none 0 0)).setCell ⟨gp,1,none⟩ (.slice none 0 0)).setCell ⟨gp,2,none⟩ (.slice none 0 0)).drew)=wz at *
   have z0:wz.cell? ⟨gp,0,none⟩=some (.slice none 0 0):=HPZ.out.cell 0 (by simp)
   have z1:wz.cell? ⟨gp,1,none⟩=some (.slice none 0 0):=HPZ.out.cell 1 (by simp)
   have z2:wz.cell? ⟨gp,2,none⟩=some (.slice none 0 0):=HPZ.out.cell 2 (by simp)
   clear p0 p1 p2 g0 g1 g2 e4 e5
   go_wp2_with fail
   refine bodyPost_ret (v:=.tuple #[.agg #[.slice none 0 0,.slice none 0 0,.slice none 0 0],.int .i64 X.1,.int .i64 (X.2.1:Nat)]) (by simp [results,Tryz.results41,go_sem,z0,z1,z2]) rfl ?_
   rw [←HRR.out]
   exact ⟨by rw [HGP.out];exact HBZ.out,_,_,_,rfl,Or.inl ⟨hx0,rfl,rfl,rfl⟩⟩
 obtain ⟨vm,vn,vo,ms,ns0,outs,calls,hx,rfl⟩:=hst
 obtain ⟨hch,hol⟩:=expand_inv (L s) hx0
 rw [ho] at hch hol
 have hr1:=HR.out
 rw [if_neg (fun h=>h hx0)] at hr1
 rw [ho] at hr1
 have hr2:(if (lookAll (outs.map fun x=>(L x.1,x.2)) []).1≠0 then ((lookAll (outs.map fun x=>(L x.1,x.2)) []).1,(lookAll (outs.map fun x=>(L x.1,x.2)) []).2.1,noProg) else makeP (lookAll (outs.map fun x=>(L x.1,x.2)) []).2.2)=R:=hr1
 obtain ⟨OUT,hOUT⟩:∃OUT,outs.map (fun x=>(L x.1,x.2))=OUT:=⟨_,rfl⟩
 rw [hOUT] at hr2
 have hch:ChainN [] OUT:=by rw [←hOUT];exact hch
 have hol:outs.length≤300:=by have:(outs.map fun x=>(L x.1,x.2)).length≤300:=hol;simpa using this
 obtain ⟨R1,hR1⟩:∃R1,lookAll OUT []=R1:=⟨_,rfl⟩
 rw [hR1] at hr2
 have HCH:=hid (chain_each hch)
 have HR1:=hid hR1
 have HR2:=hid hr2
 have HOUT:=hid hOUT
 obtain ⟨al,cl,hvl⟩:=own_form hx.lown
 subst hvl
 have e4:w1.cell? ⟨r,4,none⟩=some (.int .i64 0):=hx.row.cell 4 (by simp)
 have e2:w1.cell? ⟨r,2,none⟩=some (.slice al outs.length cl):=hx.row.cell 2 (by simp)
 have HXR:=hid hx
 obtain ⟨B,hB⟩:∃B,w1.heap.size=B:=⟨_,rfl⟩
 have HB:=hid hB
 clear hr1 hr2 hOUT hch hR1 hx hx0 ho HR hB
 go_upto_block 0 with fail
 go_cut [6] (fun v wx=>∃xs l,StepsOk xs l∧StepsAt wx B v xs∧R1.1=0∧R1.2.2=l∧Below B w1 wx∧xs.length=outs.length)
 case first =>
  go_wp2_with fail
  go_loopw [6,7] (fun v i wr=>∃(j:Nat) (xs:List SpV) (l:List StmP),j≤outs.length∧i=.int .i64 j∧xs.length=j∧StepsOk xs l∧StepsAt wr B v xs∧lookAll (OUT.drop j) l=R1∧Below B w1 wr) (fun _ i _=>outs.length-(intOf i).toNat)
  case atStart=>exact ⟨0,[],[],Nat.zero_le _,rfl,rfl,⟨rfl,(fun x hx=>by cases hx),(fun x hx=>by cases hx),⟨(fun x hx=>by cases hx),trivial⟩⟩,⟨World.ownsRow_nil _ _ _ _,(fun x hx=>by cases hx)⟩,by rw [List.drop_zero];exact HR1.out,Below.refl _ _⟩
  case round =>
   obtain ⟨j,xs,l,hj,rfl,hxl,hso,hsa,hlk,hbr⟩:=hrel
   have HBR:=hid hbr
   have HXW:=hid (HXR.out.below (by rw [HB.out];exact hbr))
   have e2:wr.cell? ⟨r,2,none⟩=some (.slice al outs.length cl):=HXW.out.row.cell 2 (by simp)
   have hBr:B≤wr.heap.size:=by have:=hbr.size;rw [HB.out] at this;exact this
   obtain ⟨sa,sc,hsv⟩:=own_form hsa.own
   subst hsv
   have HXL:=hid hxl
   have hxl1:xs.length≤j:=Nat.le_of_eq hxl
   have hxl2:j≤xs.length:=Nat.le_of_eq hxl.symm
   have HSO:=hid hso
   have HSA:=hid hsa
   have HLK:=hid hlk
   clear hbr hxl hso hsa hlk
   by_cases hlt:j<outs.length
   ·have dn:decide ((j:Int)<(outs.length:Int))=true:=decide_eq_true (by omega)
    obtain ⟨gl,cl2,hv1,_,hgl⟩:=HXW.out.lown.form (by omega)
    simp only [Value.slice.injEq,true_and] at hv1
    obtain ⟨rfl,rfl⟩:=hv1
    obtain ⟨c0,c1⟩:=linesAt HXW.out.lown j hlt
    have hgl0':gl<B:=by
     obtain ⟨g9,c9,h9,_,h99⟩:=HXR.out.lown.form (by omega)
     simp only [Value.slice.injEq,Option.some.injEq,Addr.mk.injEq,true_and,and_true] at h9
     rw [←HB.out,h9.1];exact h99
    have c1':=(linesAt HXR.out.lown j hlt).2
    have hdr:OUT.drop j=(L outs[j].1,outs[j].2)::OUT.drop (j+1):=by
     rw [←HOUT.out,List.drop_eq_getElem_cons (by simpa using hlt)]
     simp
    obtain ⟨ns',hlw,htx⟩:=HCH.out (L outs[j].1,outs[j].2) (by rw [←HOUT.out];exact List.mem_map.2 ⟨outs[j],List.getElem_mem hlt,rfl⟩)
    simp only at hlw htx
    have hlk:=HLK.out
    rw [hdr] at hlk
    generalize outs[j].1=t at *
    generalize outs[j].2=n at *
    have htl:(L t).length≤80:=by have:=hlw.src.len;rw [htx] at this;exact this
    have hts:t.size≤80:=by rw [←L_length];exact htl
    obtain ⟨wb1,wb2,wb3,wb4⟩:=wordsP_bd (L t)
    have i1:(0:Int)≤(j:Int):=Int.natCast_nonneg _
    have i2:(j:Int)<(outs.length:Int):=by omega
    have HLW:=hid hlw
    have HLK2:=hid hlk
    have HWB4:=hid wb4
    clear hdr htx hlk hlw wb4 HLK
    go_wp2_with fail
    refine (words_any t wr (by omega)).mono ?_
    rintro e w2 ⟨lb,op,oa,oc,ops,rfl,hpv,hb2⟩
    have hsz2:wr.heap.size≤w2.heap.size:=hb2.size
    have hb3:Below w2.heap.size w2 (w2.alloc (.cells #[.string lb,.string op,.slice oa ops.length oc] 134)):=(Below.refl _ _).alloc (Nat.le_refl _) _
    have HRW:=hid (show RowT (w2.alloc (.cells #[.string lb,.string op,.slice oa ops.length oc] 134)) 134 w2.heap.size [.string lb,.string op,.slice oa ops.length oc] from RowT.new w2 134 [.string lb,.string op,.slice oa ops.length oc])
    have HB3:=hid (HBR.out.trans ((hb2.trans (hb3.mono hsz2)).mono hBr))
    have HSA3:=hid (HSA.out.below (hb2.trans (hb3.mono hsz2)))
    have HPV:=hid (hpv.below hb3)
    clear hb2 hb3 hpv HSA HBR e2 c0 c1 HXW
    go_upto_region 9 with fail
    generalize w2.alloc (.cells #[.string lb,.string op,.slice oa ops.length oc] 134)=w3 at *
    generalize w2.heap.size=gq at *
    have hw:(⟨L lb,L op,ops.map L⟩:WordsP)=wordsP (L t):=by rw [HPV.out.label,HPV.out.op,HPV.out.ops]
    have hopl:ops.length≤81:=by have:=congrArg List.length HPV.out.ops;rw [List.length_map] at this;omega
    have hops:∀i (h:i<ops.length),ops[i].size≤1000:=fun i h=>by
     have h1:L ops[i]∈(wordsP (L t)).operands:=by rw [←HPV.out.ops];exact List.mem_map.2 ⟨_,List.getElem_mem h,rfl⟩
     have:=HWB4.out _ h1
     rw [L_length] at this
     omega
    have hlbs:lb.size≤1000:=by rw [←L_length,HPV.out.label];omega
    have hops2:op.size≤1000:=by rw [←L_length,HPV.out.op];omega
    have hset:L op=opSet→ops.length=2:=fun q=>by
     have h1:=(HLW.out.set (by rw [←HPV.out.op];exact q)).2.1
     rw [←HPV.out.ops,List.length_map] at h1
     exact h1
    obtain ⟨Q,hQ⟩:∃Q,lookP l (wordsP (L t)) (L t) n=Q:=⟨_,rfl⟩
    have hft:=rfits_any w3 B sa sc xs HSA3.out (by omega) HSO.out.ok lb op oa oc ops (HPV.out.at_.mono (Nat.zero_le _)) (by omega) hops hset
    rw [hw,HSO.out.p,fits_eq HSO.out.list.each HSO.out.list.sets HLW.out (L t) n,hQ] at hft
    have HFT:=hid hft
    have HQ:=hid hQ
    have HOPS:=hid hops
    have HW:=hid hw
    have y0:w3.cell? ⟨gq,0,none⟩=some (.string lb):=HRW.out.cell 0 (by simp)
    have y1:w3.cell? ⟨gq,1,none⟩=some (.string op):=HRW.out.cell 1 (by simp)
    have y2:w3.cell? ⟨gq,2,none⟩=some (.slice oa ops.length oc):=HRW.out.cell 2 (by simp)
    clear hft hQ hops hset hw HWB4
    go_wp2_with fail
    refine HFT.out.mono ?_
    rintro e w4 ⟨rfl,hb4⟩
    have HB4:=hid (HB3.out.trans (hb4.mono (by have:=HB3.out.size;rw [HB.out] at this;exact this)))
    have HSA4:=hid (HSA3.out.below hb4)
    have HPV4:=hid (HPV.out.below hb4)
    have HRW4:=hid (HRW.out.below hb4)
    have HXW:=hid (HXR.out.below (by rw [HB.out];exact HB4.out))
    have hB4:B≤w4.heap.size:=by have:=HB4.out.size;rw [HB.out] at this;exact this
    have e2:w4.cell? ⟨r,2,none⟩=some (.slice (some ⟨gl,0,none⟩) outs.length cl):=HXW.out.row.cell 2 (by simp)
    have c1:w4.cell? ⟨gl,j*4+1,none⟩=some (.int .i64 (n:Nat)):=(HB4.out.cell (p:=⟨gl,j*4+1,none⟩) hgl0').trans c1'
    clear hb4 HFT y0 y1 y2
    by_cases hq0:Q.1=0
    ·rw [hq0]
     have HNX:=hid (show lookAll (OUT.drop (j+1)) (l++[Q.2])=R1 by rw [←HLK2.out,lookAll_step (by rw [HQ.out];exact hq0),HQ.out])
     have hlk:=look_ok (l:=l) HLW.out (L t) n (by rw [HQ.out];exact hq0)
     have hln:=look_next (l:=l) HLW.out (L t) n HSO.out.list.each HSO.out.list.sets (by rw [HQ.out];exact hq0)
     rw [HQ.out] at hlk hln
     obtain ⟨k1,k2,_,k4,k5,k6,_⟩:=hlk
     obtain ⟨x,hx⟩:∃x:SpV,x=⟨lb,op,.slice oa ops.length oc,ops,n,0,Q.2.count,false⟩:=⟨_,rfl⟩
     have hxp:x.p=stp Q.2:=by
      rw [hx]
      show (⟨⟨L lb,L op,ops.map L⟩,n,0,Q.2.count,false⟩:StpP)=⟨Q.2.w,Q.2.frm,Q.2.at_.toNat,Q.2.count,Q.2.long⟩
      rw [HW.out,k2,k4,k5,k6]
      rfl
     obtain ⟨hxo,hxi⟩:=step_ok hxp k1 (by rw [hx];exact hlbs) (by rw [hx];exact hops2) (by rw [hx];exact HOPS.out) (by rw [hx];show ops.length≤200;omega) (by rw [hx];exact Nat.zero_le _)
     have HSN:=hid (HSO.out.snoc hxp hxo hxi ⟨hln.1,hln.2⟩)
     have HXX:=hid hx
     have y0:w4.cell? ⟨gq,0,none⟩=some (.string lb):=HRW4.out.cell 0 (by simp)
     have y1:w4.cell? ⟨gq,1,none⟩=some (.string op):=HRW4.out.cell 1 (by simp)
     have y2:w4.cell? ⟨gq,2,none⟩=some (.slice oa ops.length oc):=HRW4.out.cell 2 (by simp)
     clear hln k1 k2 k4 k5 k6 hxp hxo hxi hx hq0
     go_upto_region 12 with fail
     obtain ⟨his,hst0,hst1,hst2⟩:=HIS.out
     go_region_law
      (first
       |(refine step_append_lies _ (by rfl) _ _ _ (by rfl) B 138 is _ 7 88 Tryz.underlying132 his hst0 hst1 hst2 rfl (by omega) (.slice sa xs.length sc) xs.length (spCells xs) (by rfl) ((HSA4.out.own.alloc _).drew) ⟨_,0,none⟩ 1 1 [.string lb,.string op,.slice oa ops.length oc,.int .i64 (n:Nat),.int .i64 0,.int .i64 (Q.2.count:Nat),.bool false] (by rfl) (by rfl) (World.news_of_block (cs:=#[.string lb,.string op,.slice oa ops.length oc,.int .i64 (n:Nat),.int .i64 0,.int .i64 (Q.2.count:Nat),.bool false]) (t:=138) (fr:=(0,0)) (heap_alloc_new _ _)) (by simp [Value.oneCell']) (by omega) (by unfold maxLen;omega) (by omega) (by simp;omega) _ rfl ?_;intro gg cap' w5 hown5 hgrow hat hlt5))
     all_goals
      have hb5:Below w4.heap.size w4 (w4.alloc (.cells #[.string lb,.string op,.slice oa ops.length oc,.int .i64 (n:Nat),.int .i64 0,.int .i64 (Q.2.count:Nat),.bool false] 138)).drew:=((Below.refl _ _).alloc (Nat.le_refl _) _).drew
      have HS5:=hid ((HSA4.out.below hb5).snoc (x:=x) hgrow (by rw [HXX.out];exact hown5) (by rw [HXX.out];exact (HPV4.out.at_.below hb5).mono (Nat.zero_le _)))
      have HB5:=hid ((HB4.out.trans (hb5.mono hB4)).grown hgrow (by simp;omega) (fun q hq=>own_ge HSA4.out.own hq))
      clear hown5 hgrow hat hb5
      clear y0 y1 y2 e2 c1
      go_wp2_with fail
      go_roundw
      case rel=>exact ⟨j+1,xs++[x],l++[Q.2],by omega,by go_num,by rw [List.length_append,HXL.out];rfl,HSN.out,HS5.out,HNX.out,HB5.out⟩
      case measure=>simp [intOf];omega
    ·have kq:(Q.1 != 0)=true:=by rw [bne_iff_ne];exact hq0
     have hr3:=HR2.out
     have hr4:R1=(Q.1,n,l):=by rw [←HLK2.out,lookAll_bad (by rw [HQ.out];exact hq0),HQ.out]
     rw [hr4,if_pos hq0] at hr3
     have HRR:=hid hr3
     have HP4:=hid (HP1.out.below (by rw [HB.out];exact HB4.out))
     have p0:w4.cell? ⟨gp,0,none⟩=some (.slice none 0 0):=HP4.out.cell 0 (by simp)
     have p1:w4.cell? ⟨gp,1,none⟩=some (.slice none 0 0):=HP4.out.cell 1 (by simp)
     have p2:w4.cell? ⟨gp,2,none⟩=some (.slice none 0 0):=HP4.out.cell 2 (by simp)
     have g0:=HP4.out.free 0
     have g1:=HP4.out.free 1
     have g2:=HP4.out.free 2
     have HPZ:=hid (zero_row HP4.out)
     have hgB:gp≤B:=by rw [←HB.out];exact hsz1
     have HBZ:=hid ((HB1.out.trans (HB4.out.mono hgB)).trans (zero_keeps (w:=w4) (gp:=gp) (B:=gp) (Nat.le_trans hgB hB4) (Nat.le_refl _)))
     clear hr3 hr4
     go_upto_region 11 with fail
     go_region
     all_goals
      generalize ((((w4.setCell ⟨gp,0,none⟩ (.slice none 0 0)).setCell ⟨gp,1,none⟩ (.slice none 0 0)).setCell ⟨gp,2,none⟩ (.slice none 0 0)).drew)=wz at *
      have z0:wz.cell? ⟨gp,0,none⟩=some (.slice none 0 0):=HPZ.out.cell 0 (by simp)
      have z1:wz.cell? ⟨gp,1,none⟩=some (.slice none 0 0):=HPZ.out.cell 1 (by simp)
      have z2:wz.cell? ⟨gp,2,none⟩=some (.slice none 0 0):=HPZ.out.cell 2 (by simp)
      clear p0 p1 p2 g0 g1 g2 e2 c1
      go_wp2_with fail
      refine bodyPost_ret (v:=.tuple #[.agg #[.slice none 0 0,.slice none 0 0,.slice none 0 0],.int .i64 Q.1,.int .i64 (n:Nat)]) (by simp [results,Tryz.results41,go_sem,z0,z1,z2]) rfl ?_
      rw [←HRR.out]
      exact ⟨by rw [HGP.out];exact HBZ.out,_,_,_,rfl,Or.inl ⟨hq0,rfl,rfl,rfl⟩⟩
   ·have dn:decide ((j:Int)<(outs.length:Int))=false:=decide_eq_false (by omega)
    have hdn:OUT.drop j=[]:=List.drop_of_length_le (by rw [←HOUT.out,List.length_map];omega)
    have hlk:=HLK.out
    rw [hdn] at hlk
    simp only [lookAll] at hlk
    have HFI:=hid (show R1.1=0∧R1.2.2=l by rw [←hlk];exact ⟨rfl,rfl⟩)
    clear hlk hdn
    go_wp2_with fail
    go_meet
    case rel=>exact ⟨xs,l,HSO.out,HSA.out,HFI.out.1,HFI.out.2,HBR.out,by have:=HXL.out;omega⟩
 case rest =>
  as_aux_lemma =>
   obtain ⟨xs,l,hso,hsa,h10,hl,hbx,hxl⟩:=hcut
   obtain ⟨sa,sc,hsv⟩:=own_form hsa.own
   subst hsv
   have hr3:=HR2.out
   rw [if_neg (fun h=>h h10),hl] at hr3
   have htx:=lookAll_txt OUT [] (fun x hx=>by obtain ⟨n9,q1,_⟩:=HCH.out x hx;exact ⟨n9,q1⟩) (by rw [HR1.out];exact h10)
   rw [HR1.out,hl] at htx
   simp only [List.map_nil,List.nil_append] at htx
   have HTX:=hid htx
   have HR3:=hid hr3
   have HBX:=hid hbx
   have HSO:=hid hso
   have hxs3:xs.length≤300:=by omega
   have hBc:B≤wc.heap.size:=by have:=hbx.size;rw [HB.out] at this;exact this
   have HLA:=hid (laid_any wc B sa sc xs hsa hxs3 hso.ok)
   have HGO:=hid (gOf_ge hsa.own)
   obtain ⟨hso2,hen⟩:=hso.laid hxs3
   have HSO2:=hid hso2
   have HEN:=hid hen
   have HLL:=hid hso.len
   have hll1:xs.length≤l.length:=Nat.le_of_eq hso.len
   have hll2:l.length≤xs.length:=Nat.le_of_eq hso.len.symm
   have HXL:=hid hxl
   have hxl1:xs.length≤outs.length:=Nat.le_of_eq hxl
   have hxl2:outs.length≤xs.length:=Nat.le_of_eq hxl.symm
   clear hr3 htx hbx hso hsa hso2 hen h10 hl hxl HR2 HR1 HCH
   go_wp2_with fail
   refine HLA.out.mono ?_
   rintro e w2 ⟨rfl,hsa2,hk2⟩
   have hb2:=hk2.below hBc HGO.out
   have HB2:=hid (HBX.out.trans hb2)
   have hB2:B≤w2.heap.size:=Nat.le_trans hBc hb2.size
   have hl2:(laidV xs 0).length=xs.length:=laidV_length xs 0
   obtain ⟨xs2,hx2⟩:∃xs2,laidV xs 0=xs2:=⟨_,rfl⟩
   rw [hx2] at hsa2 hl2 HSO2
   have HLO:=hid (longer_any w2 B sa sc xs2 (by rw [hl2];exact hsa2) (by omega) HSO2.out.ok HSO2.out.inn)
   rw [hl2] at HLO
   have HL2:=hid hl2
   rw [HEN.out]
   clear hsa2 hk2 hb2 hx2 hl2 HLA
   go_wp2_with fail
   refine HLO.out.mono ?_
   rintro e w3 ⟨rfl,hsa3,hk3⟩
   obtain ⟨hso3,hany⟩:=HSO2.out.long
   rw [hany]
   obtain ⟨xs3,hx3⟩:∃xs3,xs2.map (longS (namesR (xs2.map SpV.p)))=xs3:=⟨_,rfl⟩
   rw [hx3] at hso3 hsa3
   rw [HL2.out] at hsa3
   have hl3:xs3.length=xs.length:=by rw [←hx3,List.length_map];exact HL2.out
   have hb3:=hk3.below hB2 HGO.out
   have HB3:=hid (HB2.out.trans hb3)
   have HSO3:=hid hso3
   have HSA3:=hid hsa3
   have HL3:=hid hl3
   clear hso3 hany hx3 hsa3 hl3 hk3 hb3 HLO
   go_upto_block 2 with fail
   go_cut [11,12] (fun nv mv wx=>∃ys,StepsOk ys (placedP l)∧nv=.int .i64 (endP (placedP l) 0:Nat)∧mv=.bool false∧StepsAt wx B (.slice sa xs.length sc) ys∧Below B w1 wx∧ys.length=xs.length)
   case first =>
    as_aux_lemma =>
     go_wp2_with fail
     go_loopg [11,12] (l.length+1) (fun q nv mv wr=>∃(c:List StmP) (ys:List SpV),nv=.int .i64 (endP c 0:Nat)∧mv=.bool (c.any (growsP (namesP c)))∧findP q c=placedP l∧shorts c<q∧StepsOk ys (c.map (longP (namesP c)))∧StepsAt wr B (.slice sa xs.length sc) ys∧Below B w1 wr∧ys.length=xs.length)
     case atStart=>exact ⟨laidP l 0,xs3,by rw [endP_laid],rfl,rfl,by rw [shorts_laid];have:=shorts_le l;omega,HSO3.out,HSA3.out,HB3.out,HL3.out⟩
     case round =>
      obtain ⟨c,ys,rfl,rfl,hfd,hsh,hsy,hay,hby,hly⟩:=hrel
      obtain ⟨q,hq⟩:∃q,gk=q+1:=⟨gk-1,by omega⟩
      subst hq
      simp only [findP] at hfd
      have HSY:=hid hsy
      have HBY:=hid hby
      have HLY:=hid hly
      have hBy:B≤wr.heap.size:=by have:=hby.size;rw [HB.out] at this;exact this
      cases hm:c.any (growsP (namesP c)) with
      |true =>
       rw [hm,if_pos rfl] at hfd
       have hless:=shorts_less hm
       have HFD:=hid hfd
       have HLA:=hid (laid_any wr B sa sc ys (by rw [hly];exact hay) (by omega) hsy.ok)
       rw [hly] at HLA
       obtain ⟨hso4,hen4⟩:=hsy.laid (by omega)
       have HSO4:=hid hso4
       have HEN4:=hid hen4
       clear hfd hsy hay hby hly hso4 hen4 hm
       go_wp2_with fail
       refine HLA.out.mono ?_
       rintro e w4 ⟨rfl,hsa4,hk4⟩
       have hb4:=hk4.below hBy HGO.out
       have HB4:=hid (HBY.out.trans hb4)
       have hB4:B≤w4.heap.size:=Nat.le_trans hBy hb4.size
       have hl4:(laidV ys 0).length=xs.length:=by rw [laidV_length];exact HLY.out
       obtain ⟨zs,hzs⟩:∃zs,laidV ys 0=zs:=⟨_,rfl⟩
       rw [HLY.out] at hsa4
       rw [hzs] at hsa4 hl4 HSO4
       have HLO:=hid (longer_any w4 B sa sc zs (by rw [hl4];exact hsa4) (by omega) HSO4.out.ok HSO4.out.inn)
       rw [hl4] at HLO
       have HL4:=hid hl4
       rw [HEN4.out]
       clear hsa4 hk4 hb4 hzs hl4 HLA
       go_wp2_with fail
       refine HLO.out.mono ?_
       rintro e w5 ⟨rfl,hsa5,hk5⟩
       obtain ⟨hso5,hany5⟩:=HSO4.out.long
       rw [hany5]
       rw [HL4.out] at hsa5
       have hb5:=hk5.below hB4 HGO.out
       have HB5:=hid (HB4.out.trans hb5)
       have HSO5:=hid hso5
       have HSA5:=hid hsa5
       clear hso5 hany5 hsa5 hk5 hb5 HLO
       go_wp2_with fail
       go_roundg q
       case measure=>omega
       case rel=>exact ⟨laidP (c.map (longP (namesP c))) 0,_,by rw [endP_laid],rfl,HFD.out,by rw [shorts_laid];omega,HSO5.out,HSA5.out,HB5.out,by rw [List.length_map];exact HL4.out⟩
      |false =>
       rw [hm,if_neg (by simp)] at hfd
       rw [any_map_id hm,hfd] at hsy
       have HSZ:=hid hsy
       have HAY:=hid hay
       rw [hfd]
       clear hfd hsy hay hby hly hm
       go_wp2_with fail
       go_meet
       case rel=>exact ⟨ys,HSZ.out,rfl,rfl,HAY.out,HBY.out,HLY.out⟩
   case rest =>
    obtain ⟨ys,hsy,hnv,hmv,hay,hby,hly⟩:=hcut
    subst hnv hmv
    have hr4:=HR3.out
    unfold makeP at hr4
    obtain ⟨P,hP⟩:∃P,placedP l=P:=⟨_,rfl⟩
    have hptx:P.map (fun s=>(s.txt,s.frm))=OUT:=by
     have h1:=find_frm (l.length+1) (laidP l 0)
     have h2:(laidP l 0).map (fun s=>(s.w,s.txt,s.frm))=l.map fun s=>(s.w,s.txt,s.frm):=by
      have:=find_frm 0 (laidP l 0)
      have h9:∀(l:List StmP) (a:Nat),(laidP l a).map (fun s=>(s.w,s.txt,s.frm))=l.map fun s=>(s.w,s.txt,s.frm):=fun l=>by
       induction l with
       |nil=>intro a;rfl
       |cons s r ih=>intro a;simp [laidP,ih]
      exact h9 l 0
     rw [h2] at h1
     have h3:=congrArg (List.map fun q:WordsP×List UInt8×Nat=>q.2) h1
     rw [List.map_map,List.map_map] at h3
     rw [←hP,←HTX.out]
     exact h3
    have hpl:P.length=l.length:=by rw [←hP];unfold placedP;rw [findP_len,laidP_len]
    rw [hP] at hr4 hsy ⊢
    obtain ⟨E,hE⟩:∃E,endP P 0=E:=⟨_,rfl⟩
    rw [hE] at hr4 ⊢
    have HR4:=hid hr4
    have HSY:=hid hsy
    have HAY:=hid hay
    have HBY:=hid hby
    have HLY:=hid hly
    have HPT:=hid hptx
    have hly1:ys.length≤xs.length:=Nat.le_of_eq hly
    have hly2:xs.length≤ys.length:=Nat.le_of_eq hly.symm
    have hpl1:P.length≤xs.length:=by omega
    have hpl2:xs.length≤P.length:=by omega
    have hBy:B≤wc.heap.size:=by have:=hby.size;rw [HB.out] at this;exact this
    have HP4:=hid (HP1.out.below (by rw [HB.out];exact hby))
    have hgB:gp≤B:=by rw [←HB.out];exact hsz1
    have HBG:=hid (HB1.out.trans (hby.mono hgB))
    clear hr4 hsy hay hby hly hptx hpl hP hE HR3
    by_cases h1k:1000<E
    ·have kk:decide ((1000:Int)<(E:Int))=true:=decide_eq_true (by omega)
     have hr5:=HR4.out
     rw [if_pos h1k] at hr5
     have HRR:=hid hr5
     have p0:wc.cell? ⟨gp,0,none⟩=some (.slice none 0 0):=HP4.out.cell 0 (by simp)
     have p1:wc.cell? ⟨gp,1,none⟩=some (.slice none 0 0):=HP4.out.cell 1 (by simp)
     have p2:wc.cell? ⟨gp,2,none⟩=some (.slice none 0 0):=HP4.out.cell 2 (by simp)
     have g0:=HP4.out.free 0
     have g1:=HP4.out.free 1
     have g2:=HP4.out.free 2
     have HK3:=hid (((((Keeps.refl [gp] wc).setCell (p:=⟨gp,0,none⟩) (by simp) (.slice none 0 0)).setCell (p:=⟨gp,1,none⟩) (by simp) (.slice none 0 0)).setCell (p:=⟨gp,2,none⟩) (by simp) (.slice none 0 0)).below (B:=gp) (Nat.le_trans hgB hBy) (fun k hk=>by rw [List.mem_singleton] at hk;omega))
     clear hr5
     go_wp2_with fail
     refine bodyPost_ret (v:=.tuple #[.agg #[.slice none 0 0,.slice none 0 0,.slice none 0 0],.int .i64 8,.int .i64 0]) (by simp [results,Tryz.results41,go_sem,p0,p1,p2]) rfl ?_
     rw [←HRR.out]
     exact ⟨by rw [HGP.out];exact HBG.out.trans HK3.out,_,_,_,rfl,Or.inl ⟨by decide,rfl,rfl,rfl⟩⟩
    ·have kk:decide ((1000:Int)<(E:Int))=false:=decide_eq_false (by omega)
     have hr5:=HR4.out
     rw [if_neg h1k] at hr5
     obtain ⟨M,hM⟩:∃M,allBytes (namesP P) P=M:=⟨_,rfl⟩
     rw [hM] at hr5
     have HM:=hid hM
     have HR5:=hid hr5
     have HNM:=hid (rnames_any wc B sa sc ys (by rw [HLY.out];exact HAY.out) (by omega) HSY.out.ok)
     rw [HLY.out] at HNM
     have hnp:namesR (ys.map SpV.p)=namesP P:=by rw [HSY.out.p];exact names_eq HSY.out.list.each HSY.out.list.sets
     rw [hnp] at HNM
     clear hr5 hM hnp HR4
     go_wp2_with fail
     refine HNM.out.mono ?_
     rintro e w2 ⟨hb2,vnn,ns,rfl,hpn,hnl,hno⟩
     obtain ⟨na,nc,hnv⟩:=own_form hno
     subst hnv
     have hb3:Below w2.heap.size w2 (w2.alloc (.cells #[.slice none 0 0,.slice none 0 0,.slice na ns.length nc] 33)):=(Below.refl _ _).alloc (Nat.le_refl _) _
     have hsz2:wc.heap.size≤w2.heap.size:=hb2.size
     have hb23:=hb2.trans (hb3.mono hsz2)
     have HQ3:=hid (show RowT (w2.alloc (.cells #[.slice none 0 0,.slice none 0 0,.slice na ns.length nc] 33)) 33 w2.heap.size [.slice none 0 0,.slice none 0 0,.slice na ns.length nc] from RowT.new w2 33 [.slice none 0 0,.slice none 0 0,.slice na ns.length nc])
     have HAY3:=hid (HAY.out.below hb23)
     have HB3:=hid (HBY.out.trans (hb23.mono hBy))
     have HNO:=hid (ownsRow_belowP hno hb3)
     have HP5:=hid (HP4.out.below hb23)
     have HX5:=hid (HXR.out.below (by rw [HB.out];exact HBY.out.trans (hb23.mono hBy)))
     have HPN:=hid hpn
     have hgq1:gp<w2.heap.size:=Nat.lt_of_lt_of_le (Nat.lt_of_lt_of_le HP4.out.lt (Nat.le_refl _)) hsz2
     clear hb2 hb3 hb23 hpn hno HNM HAY HP4
     go_upto_region 21 with fail
     generalize w2.alloc (.cells #[.slice none 0 0,.slice none 0 0,.slice na ns.length nc] 33)=w3 at *
     generalize w2.heap.size=gq at *
     have hw3l:gq<w3.heap.size:=HQ3.out.lt
     have HPB:=hid (show ∀j (h:j<P.length) (h':j<ys.length),ys[j].p=stp P[j] from fun j h h'=>by
      have h1:=congrArg (fun q=>q[j]?) HSY.out.p
      simp only [List.getElem?_map,List.getElem?_eq_getElem h,List.getElem?_eq_getElem h',Option.map_some,Option.some.injEq] at h1
      exact h1)
     go_wp2_with fail
     go_loopw [14] (fun i wr=>∃(j:Nat) (done:List UInt8) (lsd:List LnV) (vb vl:Value),j≤xs.length∧i=.int .i64 j∧PrgAt wr w3.heap.size gq vb vl (.slice na ns.length nc) done lsd∧AllLn lsd (P.take j)∧contB done (allBytes (namesP P) (P.drop j))=M∧done.length≤1000*j∧Keeps [gq] w3 wr) (fun i _=>xs.length-(intOf i).toNat)
     case atStart=>exact ⟨0,[],[],_,_,Nat.zero_le _,rfl,⟨HQ3.out,World.ownsRow_nil _ _ _ _,World.ownsRow_nil _ _ _ _⟩,trivial,by rw [List.drop_zero,contB_nil];exact HM.out,Nat.le_refl _,Keeps.refl _ _⟩
     case round =>
      obtain ⟨j,done,lsd,vb,vl,hj,rfl,hpg,hal,hcm,hdl,hkr⟩:=hrel
      obtain ⟨ab,cb,hvb⟩:=own_form hpg.bown
      obtain ⟨al2,cl2,hvl2⟩:=own_form hpg.lown
      subst hvb hvl2
      have HPG:=hid hpg
      have HAL:=hid hal
      have HCM:=hid hcm
      have HKR:=hid hkr
      have HAYR:=hid (HAY3.out.keeps HQ3.out hkr)
      have hszr:w3.heap.size≤wr.heap.size:=hkr.size
      have HNOR:=hid (ownsRow_keeps HNO.out hkr (fun g hg=>by
       rw [List.mem_singleton]
       intro e
       exact own_row_ne HNO.out HQ3.out (by decide) (by rw [←e];exact hg)))
      clear hpg hal hcm hkr
      by_cases hlt:j<xs.length
      ·have dn:decide ((j:Int)<(xs.length:Int))=true:=decide_eq_true (by omega)
       obtain ⟨g,cs2,hv1,_,hgl⟩:=HAYR.out.own.form (by omega)
       rw [HLY.out] at hv1
       simp only [Value.slice.injEq,true_and] at hv1
       obtain ⟨rfl,rfl⟩:=hv1
       have hjy:j<ys.length:=by omega
       have hjp:j<P.length:=by omega
       have hxp:=HPB.out j hjp hjy
       have hxo:=HSY.out.ok ys[j] (List.getElem_mem hjy)
       have hxi:=HSY.out.inn ys[j] (List.getElem_mem hjy)
       have hso:=HSY.out.list.each P[j] (List.getElem_mem hjp)
       have hat:∀k v,(spOne ys[j])[k]?=some v→wr.cell? ⟨g,j*7+k,none⟩=some v:=fun k v hk=>HAYR.out.at_ hjy k v hk
       have HST:=hid (HAYR.out.strs ys[j] (List.getElem_mem hjy))
       have hdr:P.drop j=P[j]::P.drop (j+1):=by rw [List.drop_eq_getElem_cons hjp]
       have htk:P.take (j+1)=P.take j++[P[j]]:=by rw [List.take_succ_eq_append_getElem hjp]
       have hjo:j<outs.length:=by omega
       have hptj:P[j].txt=L outs[j].1∧P[j].frm=outs[j].2:=by
        have h1:=congrArg (fun q=>q[j]?) HPT.out
        rw [←HOUT.out] at h1
        simp only [List.getElem?_map,List.getElem?_eq_getElem hjp,List.getElem?_eq_getElem hjo,Option.map_some,Option.some.injEq,Prod.mk.injEq] at h1
        exact h1
       have hrr:=HX5.out.row.keeps HKR.out (by
        rw [List.mem_singleton]
        intro e
        have h1:=HX5.out.row
        rw [e] at h1
        unfold RowT at h1
        have h2:=HQ3.out
        unfold RowT at h2
        rw [h1] at h2
        injection h2 with h2
        injection h2 with _ h2
        exact absurd h2 (by decide))
       have hlo:=ownsRow_keeps HX5.out.lown HKR.out (fun g9 hg=>by
        rw [List.mem_singleton]
        intro e
        exact own_row_ne HX5.out.lown HQ3.out (by decide) (by rw [←e];exact hg))
       obtain ⟨gl,cl9,hv9,_,hgll⟩:=hlo.form (by omega)
       simp only [Value.slice.injEq,true_and] at hv9
       obtain ⟨rfl,rfl⟩:=hv9
       have c0:=(linesAt hlo j hjo).1
       have e2:wr.cell? ⟨r,2,none⟩=some (.slice (some ⟨gl,0,none⟩) outs.length cl):=hrr.cell 2 (by simp)
       generalize ys[j]=x at *
       generalize P[j]=st at *
       generalize outs[j].1=t at *
       have d0:wr.cell? ⟨g,j*7,none⟩=some (.string x.lb):=hat 0 _ rfl
       have d1:wr.cell? ⟨g,j*7+1,none⟩=some (.string x.op):=hat 1 _ rfl
       have d2:wr.cell? ⟨g,j*7+2,none⟩=some x.v:=hat 2 _ rfl
       have d3:wr.cell? ⟨g,j*7+3,none⟩=some (.int .i64 (x.frm:Nat)):=hat 3 _ rfl
       have d4:wr.cell? ⟨g,j*7+4,none⟩=some (.int .i64 (x.at_:Nat)):=hat 4 _ rfl
       have d5:wr.cell? ⟨g,j*7+5,none⟩=some (.int .i64 (x.fix:Nat)):=hat 5 _ rfl
       have d6:wr.cell? ⟨g,j*7+6,none⟩=some (.bool x.long):=hat 6 _ rfl
       have q2:wr.cell? ⟨gq,2,none⟩=some (.slice na ns.length nc):=HPG.out.row.cell 2 (by simp)
       obtain ⟨Q,hQ⟩:∃Q,bytesP (namesP P) st=Q:=⟨_,rfl⟩
       have hby:=bytes_eq hso (namesP P)
       have hbl:Q.1=0→Q.2.length=sizeP st:=fun q0=>by rw [←hQ];exact bytes_len hso (namesP P) (by rw [hQ];exact q0)
       have hsl:sizeP st≤1000:=sizeP_le hso (by
        have h1:x.os.map L=st.w.operands:=congrArg (fun q:StpP=>q.w.operands) hxp
        rw [←h1,List.length_map];exact hxo.few)
       have HBS:=hid (show ∀(wz:World),StrV wz 0 x.v x.os→NamesAt wz na ns→Calls Tryz.prog 68 #[.agg #[.string x.lb,.string x.op,x.v,.int .i64 (x.frm:Nat),.int .i64 (x.at_:Nat),.int .i64 (x.fix:Nat),.bool x.long],.slice na ns.length nc] wz (BytPost Q wz) from fun wz h1 h2=>by
        have h3:=bytesS_any x wz h1 hxo hxi na nc ns (by omega) h2 (codeR_le _)
        rw [HPN.out,hxp,hby,hQ] at h3
        exact h3)
       obtain ⟨na',nc',hnv',hnar⟩:=own_names HNOR.out
       simp only [Value.slice.injEq,true_and] at hnv'
       obtain ⟨rfl,rfl⟩:=hnv'
       have HNAR:=hid hnar
       have i1:(0:Int)≤(j:Int):=Int.natCast_nonneg _
       have i2:(j:Int)<(xs.length:Int):=by omega
       have i3:(j:Int)<(outs.length:Int):=by omega
       have hcm:=HCM.out
       rw [hdr] at hcm
       have HCM2:=hid hcm
       have HQ:=hid hQ
       have HXP:=hid hxp
       have HTK:=hid htk
       have HPTJ:=hid hptj
       have HBL:=hid hbl
       have HSO9:=hid hso
       have hgne:g≠gq:=fun e=>own_row_ne HAY3.out.own HQ3.out (by decide) (by rw [←e];rfl)
       have hg3:g<w3.heap.size:=by
        obtain ⟨g9,c9,h9,_,h99⟩:=HAY3.out.own.form (by omega)
        simp only [Value.slice.injEq,Option.some.injEq,Addr.mk.injEq,and_true] at h9
        rw [h9.1];exact h99
       have hr3:r<w3.heap.size:=HX5.out.row.lt
       have hrne:r≠gq:=fun e=>by
        have h1:=HX5.out.row
        rw [e] at h1
        unfold RowT at h1
        have h2:=HQ3.out
        unfold RowT at h2
        rw [h1] at h2
        injection h2 with h2
        injection h2 with _ h2
        exact absurd h2 (by decide)
       have hgl3:gl<w3.heap.size:=by
        obtain ⟨g9,c9,h9,_,h99⟩:=HX5.out.lown.form (by omega)
        simp only [Value.slice.injEq,Option.some.injEq,Addr.mk.injEq,true_and,and_true] at h9
        rw [h9.1];exact h99
       have hglne:gl≠gq:=fun e=>own_row_ne HX5.out.lown HQ3.out (by decide) (by rw [←e];rfl)
       have HGET:=hid (show ∀(wz:World),Keeps [gq] w3 wz→wz.cell? ⟨g,j*7+3,none⟩=some (.int .i64 (x.frm:Nat))∧wz.cell? ⟨g,j*7+4,none⟩=some (.int .i64 (x.at_:Nat))∧wz.cell? ⟨r,2,none⟩=some (.slice (some ⟨gl,0,none⟩) outs.length cl)∧wz.cell? ⟨gl,j*4,none⟩=some (.string t) from fun wz hz =>
        ⟨(hz.cell (p:=⟨g,j*7+3,none⟩) hg3 (by simpa using hgne)).trans ((HKR.out.cell (p:=⟨g,j*7+3,none⟩) hg3 (by simpa using hgne)).symm.trans d3),
         (hz.cell (p:=⟨g,j*7+4,none⟩) hg3 (by simpa using hgne)).trans ((HKR.out.cell (p:=⟨g,j*7+4,none⟩) hg3 (by simpa using hgne)).symm.trans d4),
         (hz.cell (p:=⟨r,2,none⟩) hr3 (by simpa using hrne)).trans ((HKR.out.cell (p:=⟨r,2,none⟩) hr3 (by simpa using hrne)).symm.trans e2),
         (hz.cell (p:=⟨gl,j*4,none⟩) hgl3 (by simpa using hglne)).trans ((HKR.out.cell (p:=⟨gl,j*4,none⟩) hgl3 (by simpa using hglne)).symm.trans c0)⟩)
       clear hat hcm hQ hxp hby hdr htk hptj hbl hso hxo hxi hnar hrr hlo
       go_upto_region 24 with fail
       go_cut [15,16] (fun bv ev wx=>ev=.int .i64 Q.1∧Below wr.heap.size wr wx∧wx.ownsRow wr.heap.size 5 1 bv Q.2.length (byCells Q.2))
       case first =>
        have HSW:=hid (show ∀w':World,Below wr.heap.size wr w'→w'.cell? ⟨g,j*7,none⟩=some (.string x.lb)∧w'.cell? ⟨g,j*7+1,none⟩=some (.string x.op)∧w'.cell? ⟨g,j*7+2,none⟩=some x.v∧w'.cell? ⟨g,j*7+3,none⟩=some (.int .i64 (x.frm:Nat))∧w'.cell? ⟨g,j*7+4,none⟩=some (.int .i64 (x.at_:Nat))∧w'.cell? ⟨g,j*7+5,none⟩=some (.int .i64 (x.fix:Nat))∧w'.cell? ⟨g,j*7+6,none⟩=some (.bool x.long)∧w'.cell? ⟨gq,2,none⟩=some (.slice na ns.length nc) from fun w' hb=>⟨(hb.cell (p:=⟨g,j*7,none⟩) hgl).trans d0,(hb.cell (p:=⟨g,j*7+1,none⟩) hgl).trans d1,(hb.cell (p:=⟨g,j*7+2,none⟩) hgl).trans d2,(hb.cell (p:=⟨g,j*7+3,none⟩) hgl).trans d3,(hb.cell (p:=⟨g,j*7+4,none⟩) hgl).trans d4,(hb.cell (p:=⟨g,j*7+5,none⟩) hgl).trans d5,(hb.cell (p:=⟨g,j*7+6,none⟩) hgl).trans d6,(hb.cell (p:=⟨gq,2,none⟩) HPG.out.row.lt).trans q2⟩)
        go_region_held3 (fun w'=>w'.cell? ⟨g,j*7,none⟩=some (.string x.lb)∧w'.cell? ⟨g,j*7+1,none⟩=some (.string x.op)∧w'.cell? ⟨g,j*7+2,none⟩=some x.v∧w'.cell? ⟨g,j*7+3,none⟩=some (.int .i64 (x.frm:Nat))∧w'.cell? ⟨g,j*7+4,none⟩=some (.int .i64 (x.at_:Nat))∧w'.cell? ⟨g,j*7+5,none⟩=some (.int .i64 (x.fix:Nat))∧w'.cell? ⟨g,j*7+6,none⟩=some (.bool x.long)∧w'.cell? ⟨gq,2,none⟩=some (.slice na ns.length nc))
         (first|(exact HSW.out _ ((Below.refl _ _).drew))|(exact HSW.out _ hb44))
         (first|(go_at_call 68;refine (HBS.out _ (HST.out.below ((Below.refl _ _).drew)) (HNAR.out.below ((Below.refl _ _).drew))).mono ?_;rintro e w4 ⟨hb4,v4,rfl,hown4⟩;have hb44:Below wr.heap.size wr w4:=((Below.refl wr.heap.size wr).drew).trans (hb4.mono (Nat.le_refl _))))
        all_goals
         have HB4:=hid (((Below.refl wr.heap.size wr).drew).trans (hb4.mono (Nat.le_refl _)))
         have HO4:=hid hown4
         clear hb4 hown4 hb44
         go_wp2_with fail
         go_meet
         case rel=>exact ⟨rfl,HB4.out,HO4.out⟩
       case rest =>
        obtain ⟨hev,hb4,hown4⟩:=hcut
        subst hev
        obtain ⟨oa5,oc5,hv5⟩:=own_form hown4
        subst hv5
        have HPG4:=hid (HPG.out.below hb4)
        have HKR4:=hid (HKR.out.trans (Keeps.of_below hb4))
        have HO4:=hid hown4
        have hsz4:w3.heap.size≤wc.heap.size:=Nat.le_trans hszr hb4.size
        have HP6:=hid (HP5.out.keeps HKR4.out (by rw [List.mem_singleton];omega))
        clear hb4 hown4 d0 d1 d2 d3 d4 d5 d6 q2 e2 c0 HBS HST HNAR
        obtain ⟨d3,d4,e2,c0⟩:=HGET.out wc HKR4.out
        have hlsd:lsd.length≤j:=by have:=HAL.out.len;rw [List.length_take] at this;omega
        by_cases hq0:Q.1=0
        ·have hqle:Q.2.length≤1000:=by rw [HBL.out hq0];exact hsl
         have HQL:=hid (HBL.out hq0)
         have HCS:=hid (show contB (done++Q.2) (allBytes (namesP P) (P.drop (j+1)))=M by rw [←HCM2.out,contB_step (by rw [HQ.out];exact hq0),HQ.out])
         rw [hq0]
         have q0:wc.cell? ⟨gq,0,none⟩=some (.slice ab done.length cb):=HPG4.out.row.cell 0 (by simp)
         have f0:=HPG4.out.row.free 0
         have hneb:(Value.slice ab done.length cb).ownBlock≠some gq:=own_row_ne HPG4.out.bown HPG4.out.row (by decide)
         have hgqc:gq<wc.heap.size:=HPG4.out.row.lt
         clear hq0
         obtain ⟨hib,hbz,hbs1,hbs2⟩:=HIB.out
         go_upto_region 28 with (first|(at_builtin;refine wpList_append_row rfl (.tmp 124) (.tmp 125) 30 rfl w3.heap.size 5 ib _ 1 1 Tryz.underlying30 hib hbz hbs1 hbs2 rfl (by omega) (.slice ab done.length cb) done.length (byCells done) rfl HPG4.out.bown wr.heap.size (.slice oa5 Q.2.length oc5) Q.2.length (byCells Q.2) rfl HO4.out (byCells_one _) (by unfold maxLen;omega) (by omega) hsz4 ?_;intro v5 w5 hown5 hgrow5;obtain ⟨a5,c5,hv55⟩:=own_form hown5;subst hv55;have hc5:=(hgrow5.cell_far ⟨gq,0,none⟩ (by simp;omega) (Ne.symm hneb)).trans q0;have hf5:=(hgrow5.frozen_far ⟨gq,0,none⟩ (by simp;omega) (Ne.symm hneb)).trans f0))
         have HPG6:=hid (HPG4.out.bytes hgrow5 hown5)
         have HK6:=hid ((HKR4.out.grown hgrow5 (fun k hk=>Or.inr (own_ge HPG4.out.bown hk))).setCell (p:=⟨gq,0,none⟩) (by simp) (.slice a5 (done.length+Q.2.length) c5))
         clear hgrow5 hown5 hc5 hf5 q0 f0 d3 d4 e2 c0
         generalize w5.setCell ⟨gq,0,none⟩ (.slice a5 (done.length+Q.2.length) c5)=w6 at *
         obtain ⟨d3,d4,e2,c0⟩:=HGET.out w6 HK6.out
         have q1:w6.cell? ⟨gq,1,none⟩=some (.slice al2 lsd.length cl2):=HPG6.out.row.cell 1 (by simp)
         have f1:=HPG6.out.row.free 1
         have hneb2:(Value.slice al2 lsd.length cl2).ownBlock≠some gq:=own_row_ne HPG6.out.lown HPG6.out.row (by decide)
         have hgq6:gq<w6.heap.size:=HPG6.out.row.lt
         have hsz6:w3.heap.size≤w6.heap.size:=HK6.out.size
         have q1a:∀o,(w6.alloc o).cell? ⟨gq,1,none⟩=some (.slice al2 lsd.length cl2):=fun o=>(((Below.refl w6.heap.size w6).alloc (Nat.le_refl _) o).cell (p:=⟨gq,1,none⟩) hgq6).trans q1
         have q1b:∀o,(w6.drew.alloc o).cell? ⟨gq,1,none⟩=some (.slice al2 lsd.length cl2):=fun o=>(((Below.refl w6.heap.size w6).drew.alloc (Nat.le_refl _) o).cell (p:=⟨gq,1,none⟩) hgq6).trans q1
         clear hib hbz hbs1 hbs2
         obtain ⟨hil,hlz0,hlz1,hlz2⟩:=HIL.out
         have hS0:(fun w':World=>w'.cell? ⟨g,j*7+3,none⟩=some (.int .i64 (x.frm:Nat))∧w'.cell? ⟨g,j*7+4,none⟩=some (.int .i64 (x.at_:Nat))∧w'.cell? ⟨r,2,none⟩=some (.slice (some ⟨gl,0,none⟩) outs.length cl)∧w'.cell? ⟨gl,j*4,none⟩=some (.string t)∧w'.cell? ⟨gq,1,none⟩=some (.slice al2 lsd.length cl2)) w6.drew:=⟨d3,d4,e2,c0,q1⟩
         have hb8:Keeps [gq] w3 (w6.alloc (.cells #[.string t,.int .i64 (x.frm:Nat),.int .i64 (x.at_:Nat),.int .i64 (Q.2.length:Nat)] 38)).drew:=(HK6.out.alloc _).drew
         have hS1:(fun w':World=>w'.cell? ⟨g,j*7+3,none⟩=some (.int .i64 (x.frm:Nat))∧w'.cell? ⟨g,j*7+4,none⟩=some (.int .i64 (x.at_:Nat))∧w'.cell? ⟨r,2,none⟩=some (.slice (some ⟨gl,0,none⟩) outs.length cl)∧w'.cell? ⟨gl,j*4,none⟩=some (.string t)∧w'.cell? ⟨gq,1,none⟩=some (.slice al2 lsd.length cl2)) (w6.alloc (.cells #[.string t,.int .i64 (x.frm:Nat),.int .i64 (x.at_:Nat),.int .i64 (Q.2.length:Nat)] 38)).drew:=by
          obtain ⟨h1,h2,h3,h4⟩:=HGET.out _ hb8
          exact ⟨h1,h2,h3,h4,q1a _⟩
         refine wp_region_lastN (n:=26) (S:=fun w':World=>w'.cell? ⟨g,j*7+3,none⟩=some (.int .i64 (x.frm:Nat))∧w'.cell? ⟨g,j*7+4,none⟩=some (.int .i64 (x.at_:Nat))∧w'.cell? ⟨r,2,none⟩=some (.slice (some ⟨gl,0,none⟩) outs.length cl)∧w'.cell? ⟨gl,j*4,none⟩=some (.string t)∧w'.cell? ⟨gq,1,none⟩=some (.slice al2 lsd.length cl2)) (by kernel_rfl) rfl (by kernel_rfl) (by kernel_rfl) ?_
         dsimp only [List.dropLast,List.length_cons,List.length_nil]
         refine takeD (i:=0) (v:=?_) 128 rfl rfl (by kernel_rfl) (by kernel_rfl) (by kernel_rfl) (fun _ _ _ h=>h) (Or.inl ⟨by rfl,?_⟩) hS0 ?_
         rotate_left
         ·intro wq hSw
          (try dsimp only at hSw)
          go_simp
          first|done|with_reducible rfl
         simp only [Act.put,List.setIfInBounds_toArray,List.set_cons_zero,List.set_cons_succ]
         refine takeD (i:=1) (v:=?_) 129 rfl rfl (by kernel_rfl) (by kernel_rfl) (by kernel_rfl) (fun _ _ _ h=>h) (Or.inl ⟨by rfl,?_⟩) hS0 ?_
         rotate_left
         ·intro wq hSw
          (try dsimp only at hSw)
          go_simp
          first|done|with_reducible rfl
         simp only [Act.put,List.setIfInBounds_toArray,List.set_cons_zero,List.set_cons_succ]
         refine takeD (i:=2) (v:=?_) 130 rfl rfl (by kernel_rfl) (by kernel_rfl) (by kernel_rfl) (fun _ _ _ h=>h) (Or.inl ⟨by rfl,?_⟩) hS0 ?_
         rotate_left
         ·intro wq hSw
          (try dsimp only at hSw)
          go_simp
          first|done|with_reducible rfl
         simp only [Act.put,List.setIfInBounds_toArray,List.set_cons_zero,List.set_cons_succ]
         refine takeD (i:=3) (v:=?_) 131 rfl rfl (by kernel_rfl) (by kernel_rfl) (by kernel_rfl) (fun _ _ _ h=>h) (Or.inl ⟨by rfl,?_⟩) hS0 ?_
         rotate_left
         ·intro wq hSw
          (try dsimp only at hSw)
          go_simp
          first|done|with_reducible rfl
         simp only [Act.put,List.setIfInBounds_toArray,List.set_cons_zero,List.set_cons_succ]
         refine takeD (i:=4) (v:=?_) 132 rfl rfl (by kernel_rfl) (by kernel_rfl) (by kernel_rfl) (fun _ _ _ h=>h) (Or.inl ⟨by rfl,?_⟩) hS0 ?_
         rotate_left
         ·intro wq hSw
          (try dsimp only at hSw)
          go_simp
          first|done|with_reducible rfl
         simp only [Act.put,List.setIfInBounds_toArray,List.set_cons_zero,List.set_cons_succ]
         refine takeD (i:=5) (v:=?_) 133 rfl rfl (by kernel_rfl) (by kernel_rfl) (by kernel_rfl) (fun _ _ _ h=>h) (Or.inl ⟨by rfl,?_⟩) hS0 ?_
         rotate_left
         ·intro wq hSw
          (try dsimp only at hSw)
          go_simp
          first|done|with_reducible rfl
         simp only [Act.put,List.setIfInBounds_toArray,List.set_cons_zero,List.set_cons_succ]
         refine takeD (i:=6) (v:=?_) 134 rfl rfl (by kernel_rfl) (by kernel_rfl) (by kernel_rfl) (fun _ _ _ h=>h) (Or.inl ⟨by rfl,?_⟩) hS0 ?_
         rotate_left
         ·intro wq hSw
          (try dsimp only at hSw)
          go_simp
          first|done|with_reducible rfl
         simp only [Act.put,List.setIfInBounds_toArray,List.set_cons_zero,List.set_cons_succ]
         refine takeD (i:=7) (v:=?_) 135 rfl rfl (by kernel_rfl) (by kernel_rfl) (by kernel_rfl) (fun _ _ _ h=>h) (Or.inl ⟨by rfl,?_⟩) hS0 ?_
         rotate_left
         ·intro wq hSw
          (try dsimp only at hSw)
          go_simp
          first|done|with_reducible rfl
         simp only [Act.put,List.setIfInBounds_toArray,List.set_cons_zero,List.set_cons_succ]
         refine takeD (i:=8) (v:=?_) 136 rfl rfl (by kernel_rfl) (by kernel_rfl) (by kernel_rfl) (fun _ _ _ h=>h) (Or.inl ⟨by rfl,?_⟩) hS0 ?_
         rotate_left
         ·intro wq hSw
          (try dsimp only at hSw)
          go_simp
          first|done|with_reducible rfl
         simp only [Act.put,List.setIfInBounds_toArray,List.set_cons_zero,List.set_cons_succ]
         refine takeD (i:=9) (v:=?_) 137 rfl rfl (by kernel_rfl) (by kernel_rfl) (by kernel_rfl) (fun _ _ _ h=>h) (Or.inl ⟨by rfl,?_⟩) hS0 ?_
         rotate_left
         ·intro wq hSw
          (try dsimp only at hSw)
          go_simp
          first|done|with_reducible rfl
         simp only [Act.put,List.setIfInBounds_toArray,List.set_cons_zero,List.set_cons_succ]
         refine takeD (i:=10) (v:=?_) 138 rfl rfl (by kernel_rfl) (by kernel_rfl) (by kernel_rfl) (fun _ _ _ h=>h) (Or.inl ⟨by rfl,?_⟩) hS0 ?_
         rotate_left
         ·intro wq hSw
          (try dsimp only at hSw)
          go_simp
          first|done|with_reducible rfl
         simp only [Act.put,List.setIfInBounds_toArray,List.set_cons_zero,List.set_cons_succ]
         refine takeD (i:=11) (v:=?_) 139 rfl rfl (by kernel_rfl) (by kernel_rfl) (by kernel_rfl) (fun _ _ _ h=>h) (Or.inl ⟨by rfl,?_⟩) hS0 ?_
         rotate_left
         ·intro wq hSw
          (try dsimp only at hSw)
          go_simp
          first|done|with_reducible rfl
         simp only [Act.put,List.setIfInBounds_toArray,List.set_cons_zero,List.set_cons_succ]
         refine takeD (i:=12) (v:=?_) 140 rfl rfl (by kernel_rfl) (by kernel_rfl) (by kernel_rfl) (fun _ _ _ h=>h) (Or.inl ⟨by rfl,?_⟩) hS0 ?_
         rotate_left
         ·intro wq hSw
          (try dsimp only at hSw)
          go_simp
          first|done|with_reducible rfl
         simp only [Act.put,List.setIfInBounds_toArray,List.set_cons_zero,List.set_cons_succ]
         refine takeD (i:=13) (v:=?_) 141 rfl rfl (by kernel_rfl) (by kernel_rfl) (by kernel_rfl) (fun _ _ _ h=>h) (Or.inl ⟨by rfl,?_⟩) hS0 ?_
         rotate_left
         ·intro wq hSw
          (try dsimp only at hSw)
          go_simp
          first|done|with_reducible rfl
         simp only [Act.put,List.setIfInBounds_toArray,List.set_cons_zero,List.set_cons_succ]
         refine takeD (i:=14) (v:=?_) 142 rfl rfl (by kernel_rfl) (by kernel_rfl) (by kernel_rfl) (fun _ _ _ h=>h) (Or.inl ⟨by rfl,?_⟩) hS0 ?_
         rotate_left
         ·intro wq hSw
          (try dsimp only at hSw)
          go_simp
          first|done|with_reducible rfl
         simp only [Act.put,List.setIfInBounds_toArray,List.set_cons_zero,List.set_cons_succ]
         refine takeD (i:=15) (v:=?_) 143 rfl rfl (by kernel_rfl) (by kernel_rfl) (by kernel_rfl) (fun _ _ _ h=>h) (Or.inl ⟨by rfl,?_⟩) hS0 ?_
         rotate_left
         ·intro wq hSw
          (try dsimp only at hSw)
          go_simp
          first|done|with_reducible rfl
         simp only [Act.put,List.setIfInBounds_toArray,List.set_cons_zero,List.set_cons_succ]
         refine takeD (i:=16) (v:=?_) 144 rfl rfl (by kernel_rfl) (by kernel_rfl) (by kernel_rfl) (fun _ _ _ h=>h) (Or.inl ⟨by rfl,?_⟩) hS0 ?_
         rotate_left
         ·intro wq hSw
          (try dsimp only at hSw)
          go_simp
          first|done|with_reducible rfl
         simp only [Act.put,List.setIfInBounds_toArray,List.set_cons_zero,List.set_cons_succ]
         refine takeD (i:=17) (v:=?_) 145 rfl rfl (by kernel_rfl) (by kernel_rfl) (by kernel_rfl) (fun _ _ _ h=>h) (Or.inl ⟨by rfl,?_⟩) hS0 ?_
         rotate_left
         ·intro wq hSw
          (try dsimp only at hSw)
          go_simp
          first|done|with_reducible rfl
         simp only [Act.put,List.setIfInBounds_toArray,List.set_cons_zero,List.set_cons_succ]
         refine takeD (i:=18) (v:=?_) 146 rfl rfl (by kernel_rfl) (by kernel_rfl) (by kernel_rfl) (fun _ _ _ h=>h) (Or.inl ⟨by rfl,?_⟩) hS0 ?_
         rotate_left
         ·intro wq hSw
          (try dsimp only at hSw)
          go_simp
          first|done|with_reducible rfl
         simp only [Act.put,List.setIfInBounds_toArray,List.set_cons_zero,List.set_cons_succ]
         refine takeD (i:=19) (v:=?_) 147 rfl rfl (by kernel_rfl) (by kernel_rfl) (by kernel_rfl) (fun _ _ _ h=>h) (Or.inl ⟨by rfl,?_⟩) hS0 ?_
         rotate_left
         ·intro wq hSw
          (try dsimp only at hSw)
          go_simp
          first|done|with_reducible rfl
         simp only [Act.put,List.setIfInBounds_toArray,List.set_cons_zero,List.set_cons_succ]
         refine takeD (i:=20) (v:=?_) 148 rfl rfl (by kernel_rfl) (by kernel_rfl) (by kernel_rfl) (fun _ _ _ h=>h) (Or.inl ⟨by rfl,?_⟩) hS0 ?_
         rotate_left
         ·intro wq hSw
          (try dsimp only at hSw)
          go_simp
          first|done|with_reducible rfl
         simp only [Act.put,List.setIfInBounds_toArray,List.set_cons_zero,List.set_cons_succ]
         refine takeD (i:=21) (v:=?_) 149 rfl rfl (by kernel_rfl) (by kernel_rfl) (by kernel_rfl) (fun _ _ _ h=>h) (Or.inl ⟨by rfl,?_⟩) hS0 ?_
         rotate_left
         ·intro wq hSw
          (try dsimp only at hSw)
          go_simp
          first|done|with_reducible rfl
         simp only [Act.put,List.setIfInBounds_toArray,List.set_cons_zero,List.set_cons_succ]
         refine takeD (i:=22) (v:=?_) 150 rfl rfl (by kernel_rfl) (by kernel_rfl) (by kernel_rfl) (fun _ _ _ h=>h) (Or.inl ⟨by rfl,?_⟩) hS0 ?_
         rotate_left
         ·intro wq hSw
          (try dsimp only at hSw)
          go_simp
          first|done|with_reducible rfl
         simp only [Act.put,List.setIfInBounds_toArray,List.set_cons_zero,List.set_cons_succ]
         refine takeOne (i:=23) (by kernel_rfl) rfl rfl ?_
         refine wp_run (d:=151) (v:=.slice (some ⟨w6.heap.size,0,none⟩) 1 1) (w':=(w6.alloc (.cells #[.string t,.int .i64 (x.frm:Nat),.int .i64 (x.at_:Nat),.int .i64 (Q.2.length:Nat)] 38)).drew) (by go_simp) rfl ⟨hS1,?_⟩
         simp only [Act.put,List.setIfInBounds_toArray,List.set_cons_zero,List.set_cons_succ]
         refine takeOne (i:=24) (by kernel_rfl) rfl rfl ?_
         refine wp_append_lies _ (.tmp 129) (.tmp 151) 26 rfl w3.heap.size 38 il _ 4 40 Tryz.underlying26 hil hlz0 hlz1 hlz2 rfl (by omega) (.slice al2 lsd.length cl2) lsd.length (lnCells lsd) rfl ((HPG6.out.lown.alloc _).drew) ⟨w6.heap.size,0,none⟩ 1 1 [.string t,.int .i64 (x.frm:Nat),.int .i64 (x.at_:Nat),.int .i64 (Q.2.length:Nat)] rfl rfl (World.news_of_block (cs:=#[.string t,.int .i64 (x.frm:Nat),.int .i64 (x.at_:Nat),.int .i64 (Q.2.length:Nat)]) (t:=38) (fr:=(0,0)) (heap_alloc_new w6 _)) (by simp [Value.oneCell']) (by omega) (by unfold maxLen;omega) (by omega) (by simp;omega) _ rfl ?_
         intro gg cap' w7 hown7 hgrow hat hlt7
         have hk7:Keeps [gq] w3 w7:=hb8.grown hgrow (fun k hk=>Or.inr (own_ge HPG6.out.lown hk))
         have hc7:w7.cell? ⟨gq,1,none⟩=some (.slice al2 lsd.length cl2):=(hgrow.cell_far ⟨gq,1,none⟩ (by simp;omega) (Ne.symm hneb2)).trans ((((Below.refl w6.heap.size w6).alloc (Nat.le_refl _) _).drew.cell (p:=⟨gq,1,none⟩) hgq6).trans q1)
         have hf7:w7.frozen? ⟨gq,1,none⟩=false:=(hgrow.frozen_far ⟨gq,1,none⟩ (by simp;omega) (Ne.symm hneb2)).trans ((((Below.refl w6.heap.size w6).alloc (Nat.le_refl _) _).drew.frozen (p:=⟨gq,1,none⟩) hgq6).trans f1)
         have hS2:(fun w':World=>w'.cell? ⟨g,j*7+3,none⟩=some (.int .i64 (x.frm:Nat))∧w'.cell? ⟨g,j*7+4,none⟩=some (.int .i64 (x.at_:Nat))∧w'.cell? ⟨r,2,none⟩=some (.slice (some ⟨gl,0,none⟩) outs.length cl)∧w'.cell? ⟨gl,j*4,none⟩=some (.string t)∧w'.cell? ⟨gq,1,none⟩=some (.slice al2 lsd.length cl2)) w7:=by
          obtain ⟨h1,h2,h3,h4⟩:=HGET.out _ hk7
          exact ⟨h1,h2,h3,h4,hc7⟩
         refine ⟨hS2,?_⟩
         show wpAnyH _ _ _ _ _ _ _ (Act.put _ (some 152) (.slice (some ⟨gg,0,none⟩) (lsd.length+1) cap')) w7
         simp only [Act.put,List.setIfInBounds_toArray,List.set_cons_zero,List.set_cons_succ]
         refine takeD (i:=25) (v:=?_) 153 rfl rfl (by kernel_rfl) (by kernel_rfl) (by kernel_rfl) (fun _ _ _ h=>h) (Or.inl ⟨by rfl,?_⟩) hS2 ?_
         rotate_left
         ·intro wq hSw
          (try dsimp only at hSw)
          go_simp
          first|done|with_reducible rfl
         simp only [Act.put,List.setIfInBounds_toArray,List.set_cons_zero,List.set_cons_succ]
         refine wpAnyH_done (by kernel_rfl) ?_ _
         unfold lastQ
         refine wp_skip (w':=w7.setCell ⟨gq,1,none⟩ (.slice (some ⟨gg,0,none⟩) (lsd.length+1) cap')) (by go_simp) rfl ?_
         clear hS0 hS1 hS2 hb8
         all_goals
          have hb7:Below w6.heap.size w6 (w6.alloc (.cells #[.string t,.int .i64 (x.frm:Nat),.int .i64 (x.at_:Nat),.int .i64 (Q.2.length:Nat)] 38)).drew:=((Below.refl _ _).alloc (Nat.le_refl _) _).drew
          have HL7:=hid ((HPG6.out.below hb7).line (x:=⟨t,x.frm,x.at_,Q.2.length⟩) hgrow hown7)
          have HK7:=hid (((HK6.out.trans (Keeps.of_below hb7)).grown hgrow (fun k hk=>Or.inr (own_ge HPG6.out.lown hk))).setCell (p:=⟨gq,1,none⟩) (by simp) (.slice (some ⟨gg,0,none⟩) (lsd.length+1) cap'))
          clear hown7 hgrow hat hc7 hf7 hb7 hk7 d3 d4 e2 c0 q1 f1 q1a q1b
          go_wp2_with fail
          go_roundw
          case rel =>
           refine ⟨j+1,done++Q.2,lsd++[⟨t,x.frm,x.at_,Q.2.length⟩],_,_,by omega,by go_num,HL7.out,?_,HCS.out,by rw [List.length_append];omega,HK7.out⟩
           rw [HTK.out]
           refine HAL.out.snoc ⟨HPTJ.out.1.symm,?_,?_,HQL.out⟩
           ·exact congrArg (fun q:StpP=>q.frm) HXP.out
           ·have h1:x.at_=st.at_.toNat:=congrArg (fun q:StpP=>q.at_) HXP.out
            show (x.at_:Int)=st.at_
            rw [h1,Int.toNat_of_nonneg HSO9.out.at_]
          case measure=>simp [intOf];omega
        ·have kq:(Q.1 != 0)=true:=by rw [bne_iff_ne];exact hq0
         have hr6:=HR5.out
         have hm6:M=(Q.1,st.frm,[]):=by rw [←HCM2.out,contB_bad (by rw [HQ.out];exact hq0),HQ.out]
         rw [hm6,if_pos hq0] at hr6
         have hfr:x.frm=st.frm:=congrArg (fun q:StpP=>q.frm) HXP.out
         rw [hfr] at d3
         have HRR:=hid hr6
         have p0:wc.cell? ⟨gp,0,none⟩=some (.slice none 0 0):=HP6.out.cell 0 (by simp)
         have p1:wc.cell? ⟨gp,1,none⟩=some (.slice none 0 0):=HP6.out.cell 1 (by simp)
         have p2:wc.cell? ⟨gp,2,none⟩=some (.slice none 0 0):=HP6.out.cell 2 (by simp)
         have g0:=HP6.out.free 0
         have g1:=HP6.out.free 1
         have g2:=HP6.out.free 2
         have HPZ:=hid (zero_row HP6.out)
         have hgpc:gp≤wc.heap.size:=Nat.le_of_lt HP6.out.lt
         have HB9:=hid (HB1.out.trans ((HB3.out.mono hgB).trans (HKR4.out.below (B:=gp) (Nat.le_of_lt HP5.out.lt) (fun k hk=>by rw [List.mem_singleton] at hk;omega))))
         have HBZ:=hid (HB9.out.trans (zero_keeps (w:=wc) (gp:=gp) (B:=gp) hgpc (Nat.le_refl _)))
         clear hr6 hm6 hfr
         go_upto_region 26 with fail
         go_region
         all_goals
          generalize ((((wc.setCell ⟨gp,0,none⟩ (.slice none 0 0)).setCell ⟨gp,1,none⟩ (.slice none 0 0)).setCell ⟨gp,2,none⟩ (.slice none 0 0)).drew)=wz at *
          have z0:wz.cell? ⟨gp,0,none⟩=some (.slice none 0 0):=HPZ.out.cell 0 (by simp)
          have z1:wz.cell? ⟨gp,1,none⟩=some (.slice none 0 0):=HPZ.out.cell 1 (by simp)
          have z2:wz.cell? ⟨gp,2,none⟩=some (.slice none 0 0):=HPZ.out.cell 2 (by simp)
          clear p0 p1 p2 g0 g1 g2 e2 c0 d3 d4
          go_wp2_with fail
          refine bodyPost_ret (v:=.tuple #[.agg #[.slice none 0 0,.slice none 0 0,.slice none 0 0],.int .i64 Q.1,.int .i64 (st.frm:Nat)]) (by simp [results,Tryz.results41,go_sem,z0,z1,z2]) rfl ?_
          rw [←HRR.out]
          exact ⟨by rw [HGP.out];exact HBZ.out,_,_,_,rfl,Or.inl ⟨hq0,rfl,rfl,rfl⟩⟩
      ·have dn:decide ((j:Int)<(xs.length:Int))=false:=decide_eq_false (by omega)
       have hdn:P.drop j=[]:=List.drop_of_length_le (by omega)
       have htn:P.take j=P:=List.take_of_length_le (by omega)
       have hm6:M=(0,0,done):=by have:=HCM.out;rw [hdn] at this;rw [←this];simp [contB,allBytes]
       have hr6:=HR5.out
       rw [hm6,if_neg (by simp)] at hr6
       have hal:=HAL.out
       rw [htn] at hal
       have hgne:gp≠gq:=by omega
       have HP6:=hid (HP5.out.keeps HKR.out (by rw [List.mem_singleton];exact hgne))
       have HB9:=hid (HB1.out.trans ((HB3.out.mono hgB).trans (HKR.out.below (B:=gp) (Nat.le_of_lt HP5.out.lt) (fun k hk=>by rw [List.mem_singleton] at hk;omega))))
       have p0:wr.cell? ⟨gp,0,none⟩=some (.slice none 0 0):=HP6.out.cell 0 (by simp)
       have p1:wr.cell? ⟨gp,1,none⟩=some (.slice none 0 0):=HP6.out.cell 1 (by simp)
       have p2:wr.cell? ⟨gp,2,none⟩=some (.slice none 0 0):=HP6.out.cell 2 (by simp)
       have g0:=HP6.out.free 0
       have g1:=HP6.out.free 1
       have g2:=HP6.out.free 2
       have q0:wr.cell? ⟨gq,0,none⟩=some (.slice ab done.length cb):=HPG.out.row.cell 0 (by simp)
       have q1:wr.cell? ⟨gq,1,none⟩=some (.slice al2 lsd.length cl2):=HPG.out.row.cell 1 (by simp)
       have q2:wr.cell? ⟨gq,2,none⟩=some (.slice na ns.length nc):=HPG.out.row.cell 2 (by simp)
       have hll9:=hal.len
       have hgp3:gp≤w3.heap.size:=Nat.le_of_lt HP5.out.lt
       have HRO:=hid (show RRows R gp wr (.slice ab done.length cb) (.slice al2 lsd.length cl2) (.slice na ns.length nc) from by
        rw [←hr6]
        exact Or.inr ⟨rfl,lsd,ns,own_mono HPG.out.bown hgp3,own_mono HPG.out.lown hgp3,own_mono HNOR.out (Nat.le_trans hgB hBy),hal,HPN.out,by omega,by omega,by show done.length≤300000;omega⟩)
       have HRV:=hid (show R.1=0∧R.2.1=0 by rw [←hr6];exact ⟨rfl,rfl⟩)
       have HZR:=hid (((HP6.out.set 0 (.slice ab done.length cb)).set 1 (.slice al2 lsd.length cl2)).set 2 (.slice na ns.length nc))
       have HZO:=hid (((HRO.out.set HP6.out 0 (.slice ab done.length cb)).set (HP6.out.set 0 (.slice ab done.length cb)) 1 (.slice al2 lsd.length cl2)).set ((HP6.out.set 0 (.slice ab done.length cb)).set 1 (.slice al2 lsd.length cl2)) 2 (.slice na ns.length nc))
       have HZK:=hid (HB9.out.trans (((((Keeps.refl [gp] wr).setCell (p:=⟨gp,0,none⟩) (by simp) (.slice ab done.length cb)).setCell (p:=⟨gp,1,none⟩) (by simp) (.slice al2 lsd.length cl2)).setCell (p:=⟨gp,2,none⟩) (by simp) (.slice na ns.length nc)).below (B:=gp) (Nat.le_of_lt HP6.out.lt) (fun k hk=>by rw [List.mem_singleton] at hk;omega)))
       clear hdn htn hm6 hr6 hal hll9 hgne
       go_wp2_with fail
       generalize ((wr.setCell ⟨gp,0,none⟩ (.slice ab done.length cb)).setCell ⟨gp,1,none⟩ (.slice al2 lsd.length cl2)).setCell ⟨gp,2,none⟩ (.slice na ns.length nc)=wz at *
       have z0:wz.cell? ⟨gp,0,none⟩=some (.slice ab done.length cb):=HZR.out.cell 0 (by simp)
       have z1:wz.cell? ⟨gp,1,none⟩=some (.slice al2 lsd.length cl2):=HZR.out.cell 1 (by simp)
       have z2:wz.cell? ⟨gp,2,none⟩=some (.slice na ns.length nc):=HZR.out.cell 2 (by simp)
       refine bodyPost_ret (v:=.tuple #[.agg #[.slice ab done.length cb,.slice al2 lsd.length cl2,.slice na ns.length nc],.int .i64 0,.int .i64 0]) (by simp [results,Tryz.results41,go_sem,z0,z1,z2]) rfl ?_
       refine ⟨by rw [HGP.out];exact HZK.out,_,_,_,?_,by rw [HGP.out];exact HZO.out⟩
       rw [HRV.out.1,HRV.out.2]
       rfl
end Go.Proofs.YtcepppilgncdmaaGreatDoor
