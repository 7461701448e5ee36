/-
  Joined: ValView.
-/
import Derived.Deep.SlicePairs
import Derived.Lib.SmallJoins
import Derived.Test.YtcepppilgncdmaaGreatDoorBX43
namespace Go.Proofs.YtcepppilgncdmaaGreatDoor
open Go.ChangeShapes Go.WideShapes Go.ChangeAt Go.RowKit Go.Deep Go.Joins
theorem Tryz.own:ownKnob Tryz.prog.godebug=none:=by kernel_rfl
theorem Tryz.laidOut:laidOutB Tryz.prog=true:=by kernel_rfl
theorem Tryz.cellsInt:Tryz.prog.cellsOf 3=1:=by kernel_rfl
theorem Tryz.cellsString:Tryz.prog.cellsOf 9=1:=by kernel_rfl
theorem Tryz.cellsName:Tryz.prog.cellsOf 40=2:=by kernel_rfl
theorem Tryz.cellsNames:Tryz.prog.cellsOf 31=1:=by kernel_rfl
theorem Tryz.cellsOp:Tryz.prog.cellsOf 57=4:=by kernel_rfl
theorem Tryz.bytesName:Tryz.prog.bytesOf 40=24:=by kernel_rfl
theorem Tryz.bytesOp:Tryz.prog.bytesOf 57=56:=by kernel_rfl
theorem mem_all {H:Type}{P:Program}{e:TypeId}{d:DataW H}{n:Nat}:∀{ds:List (DataW H)},d∈ds→n∈d.weights P e→n∈DataW.weightsAll P e ds
 |[],h,_=>by cases h
 |x::r,h,hn=>by
  unfold DataW.weightsAll
  rcases List.mem_cons.1 h with rfl|h
  ·exact List.mem_append_left _ hn
  ·exact List.mem_append_right _ (mem_all h hn)
theorem list_four {α:Type}{l:List α}(h:l.length=4):∃a b c d,l=[a,b,c,d]:=by
 match l,h with
 |[a,b,c,d],_=>exact ⟨a,b,c,d,rfl⟩
theorem view_names {H:Type}{enc:TypeId×Value→H}{W:World}{fuel:Nat}{v:Value}{y:DataW H×List MemPlace}(h:DataW.trod enc Tryz.prog W 0 (fun _=>true) true fuel 31 [v]=some y) (hw:∀n∈y.1.weights Tryz.prog 31,n≤reachBytes) :
  ∃la lc ns,v=.slice la (ns:List (ByteArray×Int)).length lc∧((la=none∧ns=[]∧lc=0)∨∃a,la=some a∧ns.length≤5864062014634∧NamesAt W (some a) ns):=by
 rcases open_slice_pairs Tryz.underlying31 Tryz.underlying40 Tryz.cellsName rfl rfl Tryz.cellsString Tryz.cellsInt h with ⟨hcs,_⟩|⟨a,len,cap,m,n,V0,V1,D0,D1,P0,P1,hcs,_,hl,hm,hmm,hy,hx⟩
 ·simp only [List.cons.injEq,and_true] at hcs
  exact ⟨none,0,[],hcs,Or.inl ⟨rfl,rfl,rfl⟩⟩
 ·simp only [List.cons.injEq,and_true] at hcs
  simp only [if_true] at hmm
  subst hmm
  rw [hy] at hw
  have hwt:(len+(m-len))*24≤reachBytes:=by
   have:=hw ((len+(m-len))*24) (by unfold DataW.weights;rw [Tryz.underlying31];simp [Tryz.bytesName])
   exact this
  have hlen:len≤5864062014634:=by unfold reachBytes at hwt;omega
  have each:∀i,i<len→∃q:ByteArray×Int,W.cell? (a.add (i*2))=some (.string q.1)∧W.cell? (a.add (i*2+1))=some (.int .i64 q.2):=by
   intro i hi
   obtain ⟨c0,c1,t0,t1⟩:=hx i (by omega)
   obtain ⟨s,hs,_⟩:=DataW.trod_string Tryz.underlying9 t0
   obtain ⟨z,hz,_⟩:=DataW.trod_int Tryz.underlying3 t1
   simp only [List.cons.injEq,and_true] at hs hz
   exact ⟨(s,z),by rw [c0,hs],by rw [c1,hz]⟩
  obtain ⟨q,hq⟩:=choose_lt each
  by_cases hl0:len=0
  ·subst hl0
   exact ⟨some a,m,[],hcs,Or.inr ⟨a,rfl,Nat.zero_le _,Or.inl rfl⟩⟩
  ·refine ⟨some a,m,(List.range len).map q,by rw [hcs];simp,Or.inr ⟨a,rfl,by simpa using hlen,?_⟩⟩
   obtain ⟨b,off,spot⟩:=a
   have h0:=(hq 0 (by omega)).1
   have hspot:spot=none:=by simpa [Addr.add] using World.cell?_spot h0
   subst hspot
   have hbl:b<W.heap.size:=by
    have:=World.block_lt_of_cell? W _ h0
    rw [add_plain] at this
    exact this
   refine Or.inr ⟨b,off,rfl,hbl,fun i hi=>?_⟩
   rw [List.length_map,List.length_range] at hi
   obtain ⟨c0,c1⟩:=hq i hi
   rw [add_plain] at c0 c1
   rw [List.getElem_map,List.getElem_range]
   exact ⟨c0,by rw [Nat.add_assoc];exact c1⟩
set_option maxRecDepth 100000 in
theorem view_ops {H:Type}{enc:TypeId×Value→H}{W:World}{fuel:Nat}{a0:Option Addr}{len cap:Nat}{x:DataW H×List MemPlace}(h:DataW.trod enc Tryz.prog W 0 (fun _=>true) true fuel 22 [.slice a0 len cap]=some x) (hw:∀n∈x.1.weights Tryz.prog 22,n≤reachBytes) :
  ∃os:List OpD,len=os.length∧os.length*56≤140737488351232∧OpsAt W a0 os∧∀o∈os,OpOk W o:=by
 rcases open_slice Tryz.underlying22 h with ⟨hcs,_⟩|⟨a,len',cap',m,n,D,Pl,hcs,_,hl,hm,hmm,hxx,hx⟩
 ·simp at hcs
  obtain ⟨rfl,rfl,rfl⟩:=hcs
  exact ⟨[],rfl,by simp,Or.inl ⟨rfl,rfl⟩,fun o ho=>by cases ho⟩
 ·simp at hcs
  obtain ⟨rfl,rfl,rfl⟩:=hcs
  simp only [if_true] at hmm
  subst hmm
  rw [hxx] at hw
  simp only at hw
  unfold DataW.weights at hw
  rw [Tryz.underlying22] at hw
  simp only [Tryz.bytesOp,List.length_map,List.length_range] at hw
  have hwt:=hw _ (List.mem_cons_self ..)
  have each:∀i,i<len→∃o:OpD,W.cell? (a.add (i*4))=some (.int .i64 o.kind)∧W.cell? (a.add (i*4+1))=some (.int .i64 o.A)∧W.cell? (a.add (i*4+2))=some (.string o.S)∧W.cell? (a.add (i*4+3))=some (.slice o.la o.ns.length o.lc)∧OpOk W o:=by
   intro i hi
   obtain ⟨cs',h1,h2⟩:=hx i (by omega)
   have hwi:∀n∈(D i).weights Tryz.prog 57,n≤reachBytes:=fun n hn=>hw n (List.mem_cons_of_mem _ (List.mem_append_left _ (mem_all (List.mem_map.2 ⟨i,List.mem_range.2 hi,rfl⟩) hn)))
   rw [Tryz.cellsOp] at h1
   obtain ⟨_,hlen,hcell⟩:=World.cells?_some h1
   obtain ⟨y0,y1,y2,y3,k,hD,_,g0,g1,g2,g3⟩:=trod_struct4 Tryz.underlying57 h2
   have e0:=hcell 0 (by omega)
   have e1:=hcell 1 (by omega)
   have e2:=hcell 2 (by omega)
   have e3:=hcell 3 (by omega)
   rw [add_add] at e0 e1 e2 e3
   obtain ⟨v0,v1,v2,v3,rfl⟩:=list_four hlen
   simp only [Tryz.cellsInt,Tryz.cellsString,Tryz.cellsNames,List.drop_zero,List.take_succ_cons,List.take_zero,List.drop_succ_cons] at g0 g1 g2 g3
   obtain ⟨n0,hn0,_,_⟩:=DataW.trod_int Tryz.underlying3 g0
   obtain ⟨n1,hn1,_,_⟩:=DataW.trod_int Tryz.underlying3 g1
   obtain ⟨s,hs,hy2,hsm⟩:=DataW.trod_string Tryz.underlying9 g2
   simp only [List.cons.injEq,and_true] at hn0 hn1 hs
   have hDi:D i=.agg [y0.1,y1.1,y2.1,y3.1]:=congrArg Prod.fst hD
   rw [hDi] at hwi
   unfold DataW.weights at hwi
   rw [Tryz.underlying57] at hwi
   simp only [List.map_cons,List.map_nil,DataW.weightsEach,List.append_nil] at hwi
   have hw3:∀n∈y3.1.weights Tryz.prog 31,n≤reachBytes:=fun n hn=>hwi n (by simp [hn])
   have hw2:s.data.toList.length≤reachBytes:=hwi _ (by rw [hy2];simp [DataW.weights])
   obtain ⟨la,lc,ns,hv3,hcase⟩:=view_names g3 hw3
   subst hn0 hn1 hs hv3
   refine ⟨⟨n0,n1,s,la,lc,ns⟩,by simpa using e0,by simpa using e1,by simpa using e2,by simpa using e3,?_,hcase⟩
   have:s.size=s.data.toList.length:=by rw [Array.length_toList];rfl
   show s.size≤140737488351232
   rw [this];exact hw2
  have inh:Inhabited OpD:=⟨⟨0,0,⟨#[]⟩,none,0,[]⟩⟩
  obtain ⟨q,hq⟩:=choose_lt (α:=OpD) each
  refine ⟨(List.range len).map q,by simp,?_,Or.inr ⟨a,rfl,?_⟩,?_⟩
  ·rw [List.length_map,List.length_range]
   unfold reachBytes at hwt
   omega
  ·intro j v hv
   have hj:j<(cellsO ((List.range len).map q)).length:=by
    rcases Nat.lt_or_ge j (cellsO ((List.range len).map q)).length with h|h
    ·exact h
    ·rw [List.getElem?_eq_none h] at hv;cases hv
   rw [cellsO_length,List.length_map,List.length_range] at hj
   have hi:j / 4<len:=by omega
   obtain ⟨c0,c1,c2,c3,_⟩:=hq (j / 4) hi
   obtain ⟨d0,d1,d2,d3⟩:=cellsO_at ((List.range len).map q) (j / 4) (by simpa using hi)
   simp only [List.getElem_map,List.getElem_range] at d0 d1 d2 d3
   rcases (show j%4=0∨j%4=1∨j%4=2∨j%4=3 by omega) with r|r|r|r
   ·rw [show j / 4*4=j from by omega] at c0 d0
    rw [d0] at hv;rw [c0];exact hv
   ·rw [show j / 4*4+1=j from by omega] at c1 d1
    rw [d1] at hv;rw [c1];exact hv
   ·rw [show j / 4*4+2=j from by omega] at c2 d2
    rw [d2] at hv;rw [c2];exact hv
   ·rw [show j / 4*4+3=j from by omega] at c3 d3
    rw [d3] at hv;rw [c3];exact hv
  ·intro o ho
   obtain ⟨i,hi,rfl⟩:=List.mem_map.1 ho
   exact (hq i (List.mem_range.1 hi)).2.2.2.2
end Go.Proofs.YtcepppilgncdmaaGreatDoor
