/-
  Joined: BkSame BkSameL BkStay BkStep.
-/
import Derived.Test.YtcepppilgncdmaaGreatDoorBX20
import Derived.Test.YtcepppilgncdmaaGreatDoorBX35
namespace Go.Proofs.YtcepppilgncdmaaGreatDoor
open Go.RowKit
theorem lineCells_at2 (outs:List (ByteArray×Nat)):∀(i:Nat) (h:i<outs.length),(lineCells outs)[i*4]?=some (.string outs[i].1)∧(lineCells outs)[i*4+1]?=some (.int .i64 (outs[i].2:Nat))∧(lineCells outs)[i*4+2]?=some (.int .i64 0)∧(lineCells outs)[i*4+3]?=some (.int .i64 0):=by
 induction outs with
 |nil=>intro i h;simp at h
 |cons x r ih =>
  intro i h
  cases i with
  |zero=>simp [lineCells]
  |succ i =>
   have:=ih i (by simpa using h)
   rw [show (i+1)*4=i*4+1+1+1+1 from by omega]
   simp only [lineCells,show i*4+1+1+1+1+1=(i*4+1)+1+1+1+1 from rfl,show i*4+1+1+1+1+2=(i*4+2)+1+1+1+1 from by omega,show i*4+1+1+1+1+3=(i*4+3)+1+1+1+1 from by omega,List.getElem?_cons_succ,List.getElem_cons_succ]
   exact this
theorem grown_below {w w':World}(h:Below w.heap.size w w'):w.grownBy w' none:=⟨h.os,h.tape,h.output,h.size,fun k hk _=>h.block k hk⟩
theorem own_grown {w w':World}{b e s n:Nat}{v:Value}{xs:List Value}(h:w.ownsRow b e s v n xs) (hg:w.grownBy w' none):w'.ownsRow b e s v n xs:=h.kept hg (by cases hub:v.ownBlock<;>simp)
set_option maxRecDepth 100000 in
set_option maxHeartbeats 800000 in
theorem same_any (w:World) (lo B kb:Nat) (vb nv bv:Value) (us:List Value) (a b:Option Addr) (cap cap2:Nat) (outs:List (ByteArray×Nat)) (er:Int) (hbk:BookAt w lo B kb vb nv bv us) (hB:B≤w.heap.size) (hlo:lo≤B)
  (hl:w.ownsRow B 38 4 (.slice a outs.length cap) outs.length (lineCells outs)) (hm:w.ownsRow B 38 4 (.slice b outs.length cap2) outs.length (lineCells outs)) (hn:outs.length≤300) (hus:us.length%4=0) (hN:(us.length+4)*24≤140737488355328) (her:er≠0→a=none) :
  Calls Tryz.prog 27 #[.pointer (some ⟨kb,0,none⟩),.slice a outs.length cap,.slice b outs.length cap2,.int .i64 er] w fun e w'=>e=.returned (.bool true)∧∃vb' us',us'.length=4∧BookAt w' lo w'.heap.size kb vb' nv bv (us++us')∧(∀p,vb'.ownBlock=some p→vb.ownBlock=some p∨B≤p)∧Keeps (kb::(vb.ownBlock.toList++(Value.slice a outs.length cap).ownBlock.toList)) w w':=by
 obtain ⟨n,hne⟩:∃n,outs.length=n:=⟨_,rfl⟩
 rw [hne] at hl hm hn ⊢
 have HBK:=hid hbk
 have HL:=hid hl
 have HM:=hid hm
 have HER:=hid her
 clear hbk hl hm her
 have heq:=fun (wx:World)=>Lib.run_eql_slice_nil (P:=Tryz.prog) wx 26 38 a n cap 0 0 Tryz.underlying26
 have hcase:a=none∨(∃p,a=some p)∧er=0:=by
  cases a with
  |none=>exact Or.inl rfl
  |some p=>exact Or.inr ⟨⟨p,rfl⟩,Classical.byContradiction fun h=>by cases HER.out h⟩
 go_enter Tryz.func27,Tryz.ntmps27
 rcases hcase with rfl|⟨⟨p,rfl⟩,rfl⟩
 ·have hn0:n=0:=by
   rcases HL.out.2 with ⟨h,h0⟩|⟨g,c',cur,h,_⟩
   ·exact h0
   ·cases h
  subst hn0
  go_wp2_with fail
  refine wp_loop_rounds 1 ?_
  rw [rounds_succ]
  go_wp2_with fail
  refine (keepsLines_any w lo B kb vb nv bv us none 0 cap _ HBK.out hB hlo HL.out (by omega) hus hN).mono ?_
  rintro e w2 ⟨rfl,hrest⟩
  have HREST:=hid hrest
  clear hrest
  go_wp2
  go_ret
  exact ⟨rfl,HREST.out⟩
 ·obtain ⟨g,hp,hBg,hgl⟩:∃g,p=⟨g,0,none⟩∧B≤g∧g<w.heap.size:=by
   rcases HL.out.2 with ⟨h,h0⟩|⟨g,c',cur,h,h1,h2,_⟩
   ·cases h
   ·cases h;exact ⟨g,rfl,h1,(Array.getElem?_eq_some_iff.1 h2).1⟩
  subst hp
  go_wp2_with fail
  go_loopw [9,10] (fun ok i wr=>∃t:Nat,t≤n∧ok=.bool true∧i=.int .i64 t∧Below w.heap.size w wr) (fun _ i _=>n-(intOf i).toNat)
  case atStart=>exact ⟨0,Nat.zero_le _,rfl,rfl,Below.refl _ _⟩
  case round =>
   obtain ⟨t,ht,rfl,rfl,hbr⟩:=hrel
   have HBR:=hid hbr
   have hgr:=grown_below hbr
   have HLR:=hid (own_grown HL.out hgr)
   have HMR:=hid (own_grown HM.out hgr)
   clear hbr hgr
   by_cases hlt:t<n
   ·have d1:decide ((t:Int)<(n:Int))=true:=by simp;omega
    obtain ⟨gm,cm,hv,_,_⟩:=HMR.out.form (by omega)
    simp only [Value.slice.injEq,true_and] at hv
    obtain ⟨rfl,rfl⟩:=hv
    obtain ⟨x0,x1,x2,x3⟩:=lineCells_at2 outs t (by omega)
    have l0:=(HLR.out.cellAt (t*4) (by omega)).trans x0
    have l1:=(HLR.out.cellAt (t*4+1) (by omega)).trans x1
    have l2:=(HLR.out.cellAt (t*4+2) (by omega)).trans x2
    have l3:=(HLR.out.cellAt (t*4+3) (by omega)).trans x3
    have m0:=(HMR.out.cellAt (t*4) (by omega)).trans x0
    have m1:=(HMR.out.cellAt (t*4+1) (by omega)).trans x1
    have m2:=(HMR.out.cellAt (t*4+2) (by omega)).trans x2
    have m3:=(HMR.out.cellAt (t*4+3) (by omega)).trans x3
    clear x0 x1 x2 x3
    obtain ⟨o,ho⟩:∃o,outs[t]=o:=⟨_,rfl⟩
    rw [ho] at l0 l1 m0 m1
    clear ho
    obtain ⟨tx,fr⟩:=o
    simp only at l0 l1 m0 m1
    go_wp2_with fail
    go_quiet (fail)
    go_wp2_with fail
    go_roundw
    case rel=>exact ⟨t+1,by omega,by simp,by go_num,below_drewN HBR.out _⟩
    case measure=>simp [intOf];omega
   ·have d1:decide ((t:Int)<(n:Int))=false:=by simp;omega
    have htn:t=n:=by omega
    go_wp2_with fail
    refine (keepsLines_any wr lo B kb vb nv bv us (some ⟨g,0,none⟩) n cap _ (HBK.out.grown (grown_below HBR.out) (by simp)) (Nat.le_trans hB HBR.out.size) hlo HLR.out (by omega) hus hN).mono ?_
    rintro e w2 ⟨rfl,vb',us',h1,h2,h3,h4⟩
    have H2:=hid h2
    have H3:=hid h3
    have H4:=hid h4
    clear h2 h3 h4
    go_wp2
    go_ret
    exact ⟨rfl,vb',us',h1,H2.out,H3.out,(Keeps.of_below HBR.out).trans H4.out⟩
set_option maxRecDepth 100000 in
set_option maxHeartbeats 800000 in
theorem sameL_any (w:World) (lo B kb:Nat) (vb nv bv:Value) (us:List Value) (a b:Option Addr) (cap cap2:Nat) (ls:List LnV) (er:Int) (hbk:BookAt w lo B kb vb nv bv us) (hB:B≤w.heap.size) (hlo:lo≤B)
  (hl:w.ownsRow B 38 4 (.slice a ls.length cap) ls.length (lnCells ls)) (hm:w.ownsRow B 38 4 (.slice b ls.length cap2) ls.length (lnCells ls)) (hn:ls.length≤300) (hus:us.length%4=0) (hN:(us.length+4)*24≤140737488355328) (her:er≠0→a=none) :
  Calls Tryz.prog 27 #[.pointer (some ⟨kb,0,none⟩),.slice a ls.length cap,.slice b ls.length cap2,.int .i64 er] w fun e w'=>e=.returned (.bool true)∧∃vb' us',us'.length=4∧BookAt w' lo w'.heap.size kb vb' nv bv (us++us')∧(∀p,vb'.ownBlock=some p→vb.ownBlock=some p∨B≤p)∧Keeps (kb::(vb.ownBlock.toList++(Value.slice a ls.length cap).ownBlock.toList)) w w':=by
 obtain ⟨n,hne⟩:∃n,ls.length=n:=⟨_,rfl⟩
 rw [hne] at hl hm hn ⊢
 have HBK:=hid hbk
 have HL:=hid hl
 have HM:=hid hm
 have HER:=hid her
 clear hbk hl hm her
 have heq:=fun (wx:World)=>Lib.run_eql_slice_nil (P:=Tryz.prog) wx 26 38 a n cap 0 0 Tryz.underlying26
 have hcase:a=none∨(∃p,a=some p)∧er=0:=by
  cases a with
  |none=>exact Or.inl rfl
  |some p=>exact Or.inr ⟨⟨p,rfl⟩,Classical.byContradiction fun h=>by cases HER.out h⟩
 go_enter Tryz.func27,Tryz.ntmps27
 rcases hcase with rfl|⟨⟨p,rfl⟩,rfl⟩
 ·have hn0:n=0:=by
   rcases HL.out.2 with ⟨h,h0⟩|⟨g,c',cur,h,_⟩
   ·exact h0
   ·cases h
  subst hn0
  go_wp2_with fail
  refine wp_loop_rounds 1 ?_
  rw [rounds_succ]
  go_wp2_with fail
  refine (keepsLines_any w lo B kb vb nv bv us none 0 cap _ HBK.out hB hlo HL.out (by omega) hus hN).mono ?_
  rintro e w2 ⟨rfl,hrest⟩
  have HREST:=hid hrest
  clear hrest
  go_wp2
  go_ret
  exact ⟨rfl,HREST.out⟩
 ·obtain ⟨g,hp,hBg,hgl⟩:∃g,p=⟨g,0,none⟩∧B≤g∧g<w.heap.size:=by
   rcases HL.out.2 with ⟨h,h0⟩|⟨g,c',cur,h,h1,h2,_⟩
   ·cases h
   ·cases h;exact ⟨g,rfl,h1,(Array.getElem?_eq_some_iff.1 h2).1⟩
  subst hp
  go_wp2_with fail
  go_loopw [9,10] (fun ok i wr=>∃t:Nat,t≤n∧ok=.bool true∧i=.int .i64 t∧Below w.heap.size w wr) (fun _ i _=>n-(intOf i).toNat)
  case atStart=>exact ⟨0,Nat.zero_le _,rfl,rfl,Below.refl _ _⟩
  case round =>
   obtain ⟨t,ht,rfl,rfl,hbr⟩:=hrel
   have HBR:=hid hbr
   have hgr:=grown_below hbr
   have HLR:=hid (own_grown HL.out hgr)
   have HMR:=hid (own_grown HM.out hgr)
   clear hbr hgr
   by_cases hlt:t<n
   ·have d1:decide ((t:Int)<(n:Int))=true:=by simp;omega
    obtain ⟨gm,cm,hv,_,_⟩:=HMR.out.form (by omega)
    simp only [Value.slice.injEq,true_and] at hv
    obtain ⟨rfl,rfl⟩:=hv
    obtain ⟨x0,x1,x2,x3⟩:=lnCells_at ls t (by omega)
    have l0:=(HLR.out.cellAt (t*4) (by omega)).trans x0
    have l1:=(HLR.out.cellAt (t*4+1) (by omega)).trans x1
    have l2:=(HLR.out.cellAt (t*4+2) (by omega)).trans x2
    have l3:=(HLR.out.cellAt (t*4+3) (by omega)).trans x3
    have m0:=(HMR.out.cellAt (t*4) (by omega)).trans x0
    have m1:=(HMR.out.cellAt (t*4+1) (by omega)).trans x1
    have m2:=(HMR.out.cellAt (t*4+2) (by omega)).trans x2
    have m3:=(HMR.out.cellAt (t*4+3) (by omega)).trans x3
    clear x0 x1 x2 x3
    obtain ⟨o,ho⟩:∃o,ls[t]=o:=⟨_,rfl⟩
    rw [ho] at l0 l1 l2 l3 m0 m1 m2 m3
    clear ho
    obtain ⟨tx,fr,at9,sz9⟩:=o
    simp only at l0 l1 l2 l3 m0 m1 m2 m3
    go_wp2_with fail
    go_quiet (fail)
    go_wp2_with fail
    go_roundw
    case rel=>exact ⟨t+1,by omega,by simp,by go_num,below_drewN HBR.out _⟩
    case measure=>simp [intOf];omega
   ·have d1:decide ((t:Int)<(n:Int))=false:=by simp;omega
    have htn:t=n:=by omega
    go_wp2_with fail
    refine (keepsLines_any wr lo B kb vb nv bv us (some ⟨g,0,none⟩) n cap _ (HBK.out.grown (grown_below HBR.out) (by simp)) (Nat.le_trans hB HBR.out.size) hlo HLR.out (by omega) hus hN).mono ?_
    rintro e w2 ⟨rfl,vb',us',h1,h2,h3,h4⟩
    have H2:=hid h2
    have H3:=hid h3
    have H4:=hid h4
    clear h2 h3 h4
    go_wp2
    go_ret
    exact ⟨rfl,vb',us',h1,H2.out,H3.out,(Keeps.of_below HBR.out).trans H4.out⟩
def Other (w:World) (e f g:Nat):Prop:=∃(b t size n:Nat) (v:Value) (xs:List Value),w.ownsRow b t size v n xs∧v.ownBlock=some g∧t≠e∧t≠f
theorem Other.ne {w:World}{e f g b size n:Nat}{v:Value}{xs:List Value}(h:Other w e f g) (ho:w.ownsRow b e size v n xs∨w.ownsRow b f size v n xs):v.ownBlock≠some g:=by
 obtain ⟨c,t,s2,m,u,ys,h1,h2,h3,h4⟩:=h
 intro hv
 rcases ho with ho|ho
 ·rcases own_types ho h1 (Ne.symm h3) with q|q
  ·rw [q] at hv;cases hv
  ·exact q (by rw [hv,h2])
 ·rcases own_types ho h1 (Ne.symm h4) with q|q
  ·rw [q] at hv;cases hv
  ·exact q (by rw [hv,h2])
theorem BookAtN.keep {w w':World}{lo B kb:Nat}{vb nv bv nv' bv':Value}{us:List Value}{M:List Nat}(h:BookAtN w lo B kb vb nv bv us) (hk:Keeps M w w') (hM:∀g∈M,g=kb∨Other w 31 40 g) (hB:B≤w.heap.size) (hr:RowT w' 55 kb [nv',vb,bv']):BookAtN w' lo w'.heap.size kb vb nv' bv' us:=by
 refine ⟨hr,h.ge,hr.lt,ownsRow_keeps h.own hk (fun g hg hm=>?_),fun q hq=>Nat.lt_of_lt_of_le (h.far q hq) (Nat.le_trans hB hk.size),fun i u hu=>?_⟩
 ·rcases hM g hm with rfl|ho
  ·exact own_row_ne h.own h.row (by decide) hg
  ·exact ho.ne (Or.inl h.own) hg
 ·obtain ⟨k,h1,h2⟩:=h.kept i u hu
  refine ⟨k,ownsRow_keeps h1 hk (fun g hg hm=>?_),fun q hq=>Nat.lt_of_lt_of_le (h2 q hq) (Nat.le_trans hB hk.size)⟩
  rcases hM g hm with rfl|ho
  ·exact own_row_ne h1 h.row (by decide) hg
  ·exact ho.ne (Or.inr h1) hg
theorem BookAtB.keep {w w':World}{lo B kb:Nat}{vb nv bv nv' bv':Value}{us:List Value}{M:List Nat}(h:BookAtB w lo B kb vb nv bv us) (hk:Keeps M w w') (hM:∀g∈M,g=kb∨Other w 30 5 g) (hB:B≤w.heap.size) (hr:RowT w' 55 kb [nv',bv',vb]):BookAtB w' lo w'.heap.size kb vb nv' bv' us:=by
 refine ⟨hr,h.ge,hr.lt,ownsRow_keeps h.own hk (fun g hg hm=>?_),fun q hq=>Nat.lt_of_lt_of_le (h.far q hq) (Nat.le_trans hB hk.size),fun i u hu=>?_⟩
 ·rcases hM g hm with rfl|ho
  ·exact own_row_ne h.own h.row (by decide) hg
  ·exact ho.ne (Or.inl h.own) hg
 ·obtain ⟨k,h1,h2⟩:=h.kept i u hu
  refine ⟨k,ownsRow_keeps h1 hk (fun g hg hm=>?_),fun q hq=>Nat.lt_of_lt_of_le (h2 q hq) (Nat.le_trans hB hk.size)⟩
  rcases hM g hm with rfl|ho
  ·exact own_row_ne h1 h.row (by decide) hg
  ·exact ho.ne (Or.inr h1) hg
theorem outs_same {xs ys:List (ByteArray×Nat)}{r:List (List UInt8×Nat)}(h:(xs.map fun x:ByteArray×Nat=>(L x.1,x.2))=r) (k:(ys.map fun x:ByteArray×Nat=>(L x.1,x.2))=r):ys=xs:=by
 refine (List.map_inj_right (f:=fun x:ByteArray×Nat=>(L x.1,x.2)) ?_).1 (k.trans h.symm)
 rintro ⟨a,m⟩ ⟨b,n⟩ e
 simp only [Prod.mk.injEq] at e
 rw [L_inj e.1,e.2]
theorem own_slice {w:World}{b e s n:Nat}{v:Value}{xs:List Value}(h:w.ownsRow b e s v n xs):∃a c,v=.slice a n c:=by
 rcases h.2 with ⟨rfl,rfl⟩|⟨g,cap,cur,rfl,_⟩
 ·exact ⟨_,_,rfl⟩
 ·exact ⟨_,_,rfl⟩
set_option maxRecDepth 100000 in
set_option maxHeartbeats 800000 in
theorem step_exp (w:World) (lo kb:Nat) (vb:Value) (us:List Value) (A:Int) (S:ByteArray) (nv bv:Value) (la:Option Addr) (ln lc:Nat) (hs:S.size≤140737488351232) (hmax:MaxAt w) (hbk:BookAt w lo w.heap.size kb vb nv bv us) (hlo:lo≤w.heap.size) (hus:us.length%4=0) (hN:(us.length+4)*24≤140737488355328) :
  Calls Tryz.prog 18 #[.pointer (some ⟨kb,0,none⟩),.agg #[.int .i64 2,.int .i64 A,.string S,.slice la ln lc]] w fun e w'=>e=.returned (.bool true)∧∃vb' us',us'.length=4∧BookAt w' lo w'.heap.size kb vb' nv bv (us++us')∧(∀p,vb'.ownBlock=some p→vb.ownBlock=some p∨w.heap.size≤p)∧Keeps (kb::vb.ownBlock.toList) w w':=by
 have hs2:S.size≤maxLen:=by unfold maxLen;omega
 have HBK:=hid hbk
 have HMAX:=hid hmax
 clear hbk hmax
 obtain ⟨r,hr⟩:∃r,expandP (L S)=r:=⟨_,rfl⟩
 have HR:=hid hr
 clear hr
 go_enter Tryz.func18,Tryz.ntmps18
 go_wp2_with fail
 have hb0:Below w.heap.size w (w.alloc (Obj.cells #[Value.int IntKind.i64 2,Value.int IntKind.i64 A,Value.string S,Value.slice la ln lc] 57)):=(Below.refl _ _).alloc (Nat.le_refl _) _
 have hc0:(w.alloc (Obj.cells #[Value.int IntKind.i64 2,Value.int IntKind.i64 A,Value.string S,Value.slice la ln lc] 57)).cell? ⟨w.heap.size,2,none⟩=some (.string S):=by simp
 have hz0:w.heap.size<(w.alloc (Obj.cells #[Value.int IntKind.i64 2,Value.int IntKind.i64 A,Value.string S,Value.slice la ln lc] 57)).heap.size:=by simp
 generalize w.alloc (Obj.cells #[Value.int IntKind.i64 2,Value.int IntKind.i64 A,Value.string S,Value.slice la ln lc] 57)=w1 at *
 have HB0:=hid hb0
 have HMAX1:=hid (HMAX.out.below hb0)
 clear hb0
 refine (mExpand_nil S w1 hs2 HMAX1.out).mono ?_
 rintro e w2 ⟨⟨hb2,vl,outs,rfl,ho,hle,hown⟩,hnil⟩
 rw [HR.out] at ho hnil ⊢
 have hc2:=(hb2.cell (p:=⟨w.heap.size,2,none⟩) hz0).trans hc0
 have HNIL:=hid hnil
 have HO:=hid ho
 have HB2:=hid (HB0.out.trans (hb2.mono (Nat.le_of_lt hz0)))
 have HOWN:=hid (own_mono hown (Nat.le_of_lt hz0))
 obtain ⟨a,ca,hv⟩:=own_slice hown
 subst hv
 have hz2:w.heap.size<w2.heap.size:=Nat.lt_of_lt_of_le hz0 hb2.size
 clear hb2 ho hnil hown hc0
 go_wp2_with fail
 refine (rExpand_any S w2 hs2).mono ?_
 rintro e w3 ⟨hb3,vm,outs2,rfl,ho2,hown3⟩
 rw [HR.out] at ho2 ⊢
 have he:=outs_same HO.out ho2
 subst he
 obtain ⟨b,cb,hv⟩:=own_slice hown3
 subst hv
 have HB3:=hid (HB2.out.trans (hb3.mono (Nat.le_of_lt hz2)))
 have HL3:=hid (own_grown HOWN.out (grown_below hb3))
 have HM3:=hid (own_mono hown3 (Nat.le_of_lt hz2))
 clear hb3 ho2 hown3 HOWN HO
 have hbk3:=HBK.out.grown (grown_below HB3.out) (by simp)
 have HBK3:=hid hbk3
 clear hbk3
 have hne:r.1≠0→a=none:=fun h=>by
  obtain ⟨x,y,h1⟩:=HNIL.out h
  simp only [Ending.returned.injEq,Value.tuple.injEq] at h1
  injection h1 with h1
  injection h1 with h1 _
  injection h1
 have HNE:=hid hne
 clear hne HNIL
 go_wp2_with fail
 refine (same_any w3 lo w.heap.size kb vb nv bv us a b ca cb outs2 r.1 HBK3.out HB3.out.size hlo HL3.out HM3.out hle hus hN HNE.out).mono ?_
 rintro e w4 ⟨rfl,vb',us',h1,h2,h3,h4⟩
 have H2:=hid h2
 have H3:=hid h3
 have H4:=hid h4
 clear h2 h3 h4
 go_wp2_with fail
 go_ret
 refine ⟨rfl,vb',us',h1,H2.out,H3.out,?_⟩
 have h4:=H4.out
 have h3:=HB3.out
 refine ⟨h4.os.trans h3.os,h4.tape.trans h3.tape,h4.output.trans h3.output,Nat.le_trans h3.size h4.size,fun k hk hm=>?_⟩
 rw [h4.block k (Nat.lt_of_lt_of_le hk h3.size) ?_]
 ·exact h3.block k hk
 ·intro hh
  simp only [List.mem_cons,List.mem_append,Option.mem_toList] at hh hm
  rcases hh with hh|hh|hh
  ·exact hm (Or.inl hh)
  ·exact hm (Or.inr hh)
  ·have:=own_geK HL3.out hh
   omega
end Go.Proofs.YtcepppilgncdmaaGreatDoor
