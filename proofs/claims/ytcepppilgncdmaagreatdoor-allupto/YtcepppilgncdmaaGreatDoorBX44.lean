/-
  Joined: BkThree PlaysA.
-/
import Derived.Test.YtcepppilgncdmaaGreatDoorBX41
import Derived.Test.YtcepppilgncdmaaGreatDoorBX43
namespace Go.Proofs.YtcepppilgncdmaaGreatDoor
open Go.RowKit
theorem BookAt.mono {w:World}{lo B C kb:Nat}{vb nv bv:Value}{us:List Value}(h:BookAt w lo B kb vb nv bv us) (hc:B≤C):BookAt w lo C kb vb nv bv us:=
 ⟨h.row,h.ge,Nat.lt_of_lt_of_le h.hi hc,h.own,fun q hq=>Nat.lt_of_lt_of_le (h.far q hq) hc,fun i u hu=>by
  obtain ⟨k,h1,h2⟩:=h.kept i u hu
  exact ⟨k,h1,fun q hq=>Nat.lt_of_lt_of_le (h2 q hq) hc⟩⟩
theorem BookAtN.mono {w:World}{lo B C kb:Nat}{vb nv bv:Value}{us:List Value}(h:BookAtN w lo B kb vb nv bv us) (hc:B≤C):BookAtN w lo C kb vb nv bv us:=
 ⟨h.row,h.ge,Nat.lt_of_lt_of_le h.hi hc,h.own,fun q hq=>Nat.lt_of_lt_of_le (h.far q hq) hc,fun i u hu=>by
  obtain ⟨k,h1,h2⟩:=h.kept i u hu
  exact ⟨k,h1,fun q hq=>Nat.lt_of_lt_of_le (h2 q hq) hc⟩⟩
theorem BookAtB.mono {w:World}{lo B C kb:Nat}{vb nv bv:Value}{us:List Value}(h:BookAtB w lo B kb vb nv bv us) (hc:B≤C):BookAtB w lo C kb vb nv bv us:=
 ⟨h.row,h.ge,Nat.lt_of_lt_of_le h.hi hc,h.own,fun q hq=>Nat.lt_of_lt_of_le (h.far q hq) hc,fun i u hu=>by
  obtain ⟨k,h1,h2⟩:=h.kept i u hu
  exact ⟨k,h1,fun q hq=>Nat.lt_of_lt_of_le (h2 q hq) hc⟩⟩
theorem ThreeAt.mono {w:World}{lo B C kb:Nat}{v1 v2 v3:Value}{us1 us2 us3:List Value}(h:ThreeAt w lo B kb v1 v2 v3 us1 us2 us3) (hc:B≤C):ThreeAt w lo C kb v1 v2 v3 us1 us2 us3:=
 ⟨h.l.mono hc,h.n.mono hc,h.b.mono hc⟩
def Lists (us:List Value) (j:Nat):Prop:=us.length%4=0∧us.length≤4*j
theorem Lists.four {us us':List Value}{j:Nat}(h:Lists us j) (h1:us'.length=4):Lists (us++us') (j+1):=by
 obtain ⟨a,b⟩:=h
 refine ⟨?_,?_⟩<;>rw [List.length_append,h1]<;>omega
theorem Lists.more {us:List Value}{j:Nat}(h:Lists us j):Lists us (j+1):=⟨h.1,by have:=h.2;omega⟩
def BooksAt (w:World) (lo kb j:Nat):Prop:=∃v1 v2 v3 us1 us2 us3,ThreeAt w lo w.heap.size kb v1 v2 v3 us1 us2 us3∧Lists us1 j∧Lists us2 j∧Lists us3 j
theorem BooksAt.lt {w:World}{lo kb j:Nat}(h:BooksAt w lo kb j):kb<w.heap.size:=by
 obtain ⟨_,_,_,_,_,_,h,_⟩:=h
 exact h.l.hi
theorem BooksAt.more {w:World}{lo kb j:Nat}(h:BooksAt w lo kb j):BooksAt w lo kb (j+1):=by
 obtain ⟨_,_,_,_,_,_,h,h1,h2,h3⟩:=h
 exact ⟨_,_,_,_,_,_,h,h1.more,h2.more,h3.more⟩
def StepPost (w:World) (lo kb j:Nat) (e:Ending) (w':World):Prop:=e=.returned (.bool true)∧BooksAt w' lo kb (j+1)∧Below lo w w'
theorem BooksAt.below {w w':World}{lo kb j:Nat}(h:BooksAt w lo kb j) (hb:Below w.heap.size w w'):BooksAt w' lo kb j:=by
 obtain ⟨_,_,_,_,_,_,h,h1,h2,h3⟩:=h
 exact ⟨_,_,_,_,_,_,(h.grown (grown_below hb)).mono hb.size,h1,h2,h3⟩
theorem looks_books (w:World) (lo kb j:Nat) (hbk:BooksAt w lo kb j) (hj:j≤1048580) :
  Calls Tryz.prog 19 #[.pointer (some ⟨kb,0,none⟩)] w fun e w'=>e=.returned (.bool true)∧w'=w:=by
 obtain ⟨v1,v2,v3,us1,us2,us3,h,h1,h2,h3⟩:=hbk
 have b1:=h1.2
 have b2:=h2.2
 have b3:=h3.2
 exact looks_all w lo w.heap.size kb v1 v2 v3 us1 us2 us3 h.l h.n h.b (by omega) (by omega) (by omega)
theorem step_one (w:World) (lo kb j:Nat) (A:Int) (S:ByteArray) (la:Option Addr) (lc:Nat) (ns:List (ByteArray×Int)) (hbk:BooksAt w lo kb j) (hlo:lo≤w.heap.size) (hop:OpOk w ⟨1,A,S,la,lc,ns⟩) :
  Calls Tryz.prog 18 #[.pointer (some ⟨kb,0,none⟩),.agg #[.int .i64 1,.int .i64 A,.string S,.slice la ns.length lc]] w (StepPost w lo kb j):=by
 obtain ⟨hs,hcs⟩:=hop
 simp only at hs hcs
 rcases hcs with ⟨rfl,rfl,rfl⟩|⟨a',rfl,hl',hn'⟩
 ·refine (step_nil _ A S w hs).mono ?_
  rintro e w' ⟨he,hb⟩
  exact ⟨he,(hbk.below hb).more,hb.mono hlo⟩
 ·refine (step_some _ A S a' lc ns w hs hl' hn').mono ?_
  rintro e w' ⟨he,hb⟩
  exact ⟨he,(hbk.below hb).more,hb.mono hlo⟩
theorem step_two (w:World) (lo kb j:Nat) (A:Int) (S:ByteArray) (la:Option Addr) (ln lc:Nat) (hbk:BooksAt w lo kb j) (hlo:lo≤w.heap.size) (hs:S.size≤140737488351232) (hm:MaxAt w) (hj:j≤1048580) :
  Calls Tryz.prog 18 #[.pointer (some ⟨kb,0,none⟩),.agg #[.int .i64 2,.int .i64 A,.string S,.slice la ln lc]] w (StepPost w lo kb j):=by
 obtain ⟨v1,v2,v3,us1,us2,us3,h,h1,h2,h3⟩:=hbk
 have b1:=h1.2
 refine (step_exp w lo kb v1 us1 A S v2 v3 la ln lc hs hm h.l hlo h1.1 (by omega)).mono ?_
 rintro e w' ⟨he,v1',us1',k1,k2,_,k4⟩
 have hM:∀{a b:Nat},26≠a→26≠b→∀g∈kb::v1.ownBlock.toList,g=kb∨Other w a b g:=fun ha hb g hg=>by
  simp only [List.mem_cons,Option.mem_toList] at hg
  rcases hg with hg|hg
  ·exact Or.inl hg
  ·exact Or.inr ⟨_,_,_,_,_,_,h.l.own,hg,ha,hb⟩
 refine ⟨he,⟨v1',v2,v3,_,us2,us3,⟨k2,h.n.keep k4 (hM (by decide) (by decide)) (Nat.le_refl _) k2.row,h.b.keep k4 (hM (by decide) (by decide)) (Nat.le_refl _) k2.row⟩,h1.four k1,h2.more,h3.more⟩,k4.below hlo (fun k hk=>?_)⟩
 simp only [List.mem_cons,Option.mem_toList] at hk
 rcases hk with rfl|hk
 ·exact h.l.ge
 ·exact own_geK h.l.own hk
set_option maxRecDepth 100000 in
set_option maxHeartbeats 800000 in
theorem step_three (w:World) (lo kb j:Nat) (A:Int) (S:ByteArray) (la:Option Addr) (ln lc:Nat) (hbk:BooksAt w lo kb j) (hlo:lo≤w.heap.size) (hs:S.size≤140737488351232) (hm:MaxAt w) (hj:j≤1048580) :
  Calls Tryz.prog 18 #[.pointer (some ⟨kb,0,none⟩),.agg #[.int .i64 3,.int .i64 A,.string S,.slice la ln lc]] w (StepPost w lo kb j):=by
 have hs2:S.size≤maxLen:=by unfold maxLen;omega
 have hb0:Below w.heap.size w (w.alloc (Obj.cells #[Value.int IntKind.i64 3,Value.int IntKind.i64 A,Value.string S,Value.slice la ln lc] 57)):=(Below.refl _ _).alloc (Nat.le_refl _) _
 have hbk0:=hbk.below hb0
 have hm0:=hm.below hb0
 have hlo0:=Nat.le_trans hlo hb0.size
 obtain ⟨v1,v2,v3,us1,us2,us3,h,h1,h2,h3⟩:=hbk0
 have b1:=h1.2
 have b2:=h2.2
 have b3:=h3.2
 have HC:=hid (assembled_any _ lo kb v1 v2 v3 us1 us2 us3 S hs2 hm0 h hlo0 h1.1 h2.1 h3.1 (by omega) (by omega) (by omega))
 have HB0:=hid hb0
 have H:=hid h
 have H1:=hid h1
 have H2:=hid h2
 have H3:=hid h3
 clear hb0 hm hm0 hbk h h1 h2 h3
 go_enter Tryz.func18,Tryz.ntmps18
 go_wp2_with fail
 refine HC.out.mono ?_
 rintro e w2 ⟨rfl,v1',v2',v3',us1',us2',us3',k1,k2,k3,k4,k5⟩
 have HB2:=hid (HB0.out.mono hlo |>.trans (k5.below hlo0 H.out.ge))
 have HBK:=hid (show BooksAt w2 lo kb (j+1) from ⟨v1',v2',v3',_,_,_,k4,H1.out.four k1,H2.out.four k2,H3.out.four k3⟩)
 clear k1 k2 k3 k4 k5 HC H H1 H2 H3 HB0
 go_wp2_with fail
 go_ret
 exact ⟨rfl,HBK.out,HB2.out⟩
set_option maxRecDepth 100000 in
set_option maxHeartbeats 1000000 in
theorem plays_three (F T:Int) (hF:1≤F) (hT:T≤3) (a:Option Addr) (cap:Nat) (os:List OpD) (w:World) (hl:os.length≤1048576) (hat:OpsAt w a os) (hok:∀o∈os,OpOk w o) (hmax:MaxAt w) :
  Calls Tryz.prog 9 #[.slice a os.length cap,.int .i64 F,.int .i64 T] w fun e w'=>e=.returned (.bool true)∧Below w.heap.size w w':=by
 have HAT:=hid hat
 have HOK:=hid hok
 have HMAX:=hid hmax
 clear hat hok hmax
 obtain ⟨i0,hi0,hz0,hz1,hz2⟩:=info_parts infoOp
 go_enter Tryz.func9,Tryz.ntmps9
 go_upto_region 2 with (first|(go_at_call 17;refine (first_any _).mono ?_;rintro e w1 ⟨rfl,rfl⟩))
 have hown0:=owns_first w
 have hb0:Below w.heap.size w (w.alloc (.cells firstCells.toArray 57)):=(Below.refl _ _).alloc (Nat.le_refl _) _
 have hsz0:(w.alloc (.cells firstCells.toArray 57)).heap.size=w.heap.size+1:=by simp
 generalize hw1:w.alloc (.cells firstCells.toArray 57)=w1 at *
 have HB0:=hid hb0
 clear hw1 hb0
 go_cut [7] (fun v wx=>∃g c,v=.slice (some ⟨g,0,none⟩) (3+os.length) c∧wx.ownsRow w.heap.size 57 4 (.slice (some ⟨g,0,none⟩) (3+os.length) c) (3+os.length) (cellsO (firstOps++os))∧Below w.heap.size w wx)
 case first =>
  rcases HAT.out with ⟨rfl,rfl⟩|⟨ad,rfl,hc⟩
  ·go_wp2
   go_meet
   case rel=>exact ⟨w.heap.size,3,rfl,by simpa [firstOps_cells] using hown0,HB0.out⟩
  ·have hc1:∀j v,(cellsO os)[j]?=some v→w1.cell? (ad.add j)=some v:=fun j v hv=>by
    have h:=hc j v hv
    rw [HB0.out.cell (p:=ad.add j) (World.block_lt_of_cell? w _ h)];exact h
   go_wp2_with ((at_builtin;refine wpList_append_own _ rfl (.tmp 13) (.tmp 14) 22 rfl w.heap.size 57 i0 _ 4 56 Tryz.underlying22 hi0 hz0 hz1 hz2 rfl (by omega) _ 3 firstCells rfl hown0 ad os.length cap (cellsO os) rfl (cellsO_length os) hc1 (cellsO_one os) (by unfold maxLen;omega) (by omega) (by omega) ?_;intro v' w2 hown2 hgrow2 hnil2;obtain ⟨g,c,hv,hgb,hgl⟩:=hown2.form (by omega);subst hv))
   go_meet
   case rel=>exact ⟨g,c,rfl,by rw [cellsO_append,firstOps_cells];exact hown2,HB0.out.grown hgrow2 HB0.out.size (fun k hk=>by have h:some w.heap.size=some k:=hk;injection h with h;omega)⟩
 case rest =>
  obtain ⟨g,c,rfl,hown,hbel⟩:=hcut
  have HOWN:=hid hown
  have HBEL:=hid hbel
  clear hown hbel hown0 HB0 hsz0 hi0 hz0 hz1 hz2 HAT
  obtain ⟨al,hal⟩:∃al,firstOps++os=al:=⟨_,rfl⟩
  have hall:al.length=3+os.length:=by rw [←hal,List.length_append];rfl
  have hgok:∀o∈al,OpOk w o:=by
   rw [←hal]
   intro o ho
   rcases List.mem_append.1 ho with h|h
   ·exact firstOps_ok w o h
   ·exact HOK.out o h
  have HGOK:=hid hgok
  have HOWN1:=hid (show wc.ownsRow w.heap.size 57 4 (.slice (some ⟨g,0,none⟩) (3+os.length) c) (3+os.length) (cellsO al) by rw [←hal];exact HOWN.out)
  clear hal hgok HOWN HOK
  go_wp2_with fail
  have hkb:(wc.alloc (Obj.cells #[Value.slice none 0 0,Value.slice none 0 0,Value.slice none 0 0] 55)).cell? ⟨wc.heap.size,0,none⟩=some (.slice none 0 0)∧(wc.alloc (Obj.cells #[Value.slice none 0 0,Value.slice none 0 0,Value.slice none 0 0] 55)).cell? ⟨wc.heap.size,1,none⟩=some (.slice none 0 0)∧(wc.alloc (Obj.cells #[Value.slice none 0 0,Value.slice none 0 0,Value.slice none 0 0] 55)).cell? ⟨wc.heap.size,2,none⟩=some (.slice none 0 0):=⟨by simp [go_sem],by simp [go_sem],by simp [go_sem]⟩
  have hkz:wc.heap.size<(wc.alloc (Obj.cells #[Value.slice none 0 0,Value.slice none 0 0,Value.slice none 0 0] 55)).heap.size:=by simp
  have hownk:=HOWN1.out.alloc (Obj.cells #[Value.slice none 0 0,Value.slice none 0 0,Value.slice none 0 0] 55)
  have hbk:Below w.heap.size w (wc.alloc (Obj.cells #[Value.slice none 0 0,Value.slice none 0 0,Value.slice none 0 0] 55)):=HBEL.out.alloc HBEL.out.size _
  have hrow:=RowT.new wc 55 [Value.slice none 0 0,Value.slice none 0 0,Value.slice none 0 0]
  simp only [List.toArray] at hrow
  have hgk:g<wc.heap.size:=(HOWN1.out.form (by omega)).elim fun _ h=>h.elim fun _ h=>by cases h.1;exact h.2.2
  have hwk0:w.heap.size≤wc.heap.size:=HBEL.out.size
  generalize wc.heap.size=kb at *
  generalize hwk:wc.alloc (Obj.cells #[Value.slice none 0 0,Value.slice none 0 0,Value.slice none 0 0] 55)=wk at *
  have HKB:=hid hkb
  have HOWNK:=hid hownk
  have HBK:=hid hbk
  clear hkb hownk hbk HOWN1 hwk HBEL
  have hmg:0<w.heap.size:=by
   obtain ⟨m,h1⟩:=HMAX.out
   exact World.block_lt_of_cell? _ _ h1
  have hbk0:BooksAt wk kb kb 0:=⟨_,_,_,[],[],[],⟨⟨hrow,Nat.le_refl _,hkz,World.ownsRow_nil _ _ _ _,(fun q h=>by cases h),(fun i u h=>by simp at h)⟩,⟨hrow,Nat.le_refl _,hkz,World.ownsRow_nil _ _ _ _,(fun q h=>by cases h),(fun i u h=>by simp at h)⟩,⟨hrow,Nat.le_refl _,hkz,World.ownsRow_nil _ _ _ _,(fun q h=>by cases h),(fun i u h=>by simp at h)⟩⟩,⟨rfl,Nat.zero_le _⟩,⟨rfl,Nat.zero_le _⟩,⟨rfl,Nat.zero_le _⟩⟩
  have HBK0:=hid hbk0
  clear hbk0 hrow
  go_loopw [9] (fun i wr=>∃j:Nat,j≤3+os.length∧i=.int .i64 j∧BooksAt wr kb kb j∧Below kb wk wr) (fun i _=>3+os.length-(intOf i).toNat)
  case atStart=>exact ⟨0,Nat.zero_le _,rfl,HBK0.out,Below.refl _ _⟩
  case round =>
   obtain ⟨j,hj,rfl,hbk,hbr⟩:=hrel
   have HBKR:=hid hbk
   have HBR:=hid hbr
   have hkr:kb<wr.heap.size:=hbk.lt
   have HBW:=hid (HBK.out.trans (hbr.mono hwk0))
   clear hbk hbr
   by_cases hlt:j<3+os.length
   ·have d1:decide ((j:Int)<3+(os.length:Int))=true:=by simp;omega
    have d2:decide ((j:Int)<288230376151711744)=true:=by simp;omega
    obtain ⟨e0,e1,e2,e3⟩:=cellsO_at al j (by omega)
    have q0:=(HBR.out.cell (p:=⟨g,j*4,none⟩) hgk).trans ((HOWNK.out.cellAt (j*4) (by omega)).trans e0)
    have q1:=(HBR.out.cell (p:=⟨g,j*4+1,none⟩) hgk).trans ((HOWNK.out.cellAt (j*4+1) (by omega)).trans e1)
    have q2:=(HBR.out.cell (p:=⟨g,j*4+2,none⟩) hgk).trans ((HOWNK.out.cellAt (j*4+2) (by omega)).trans e2)
    have q3:=(HBR.out.cell (p:=⟨g,j*4+3,none⟩) hgk).trans ((HOWNK.out.cellAt (j*4+3) (by omega)).trans e3)
    have hop:OpOk wr al[j]:=(HGOK.out _ (List.getElem_mem _)).below HBW.out
    clear e0 e1 e2 e3
    obtain ⟨o,ho⟩:∃o,al[j]=o:=⟨_,rfl⟩
    rw [ho] at q0 q1 q2 q3 hop
    clear ho
    obtain ⟨kind,A,S,la,lc,ns⟩:=o
    simp only at q0 q1 q2 q3
    have hs:S.size≤140737488351232:=hop.1
    have HOP:=hid hop
    clear hop
    have hlk:kb≤wr.heap.size:=Nat.le_of_lt hkr
    by_cases hk1:kind<F
    ·have t1:decide (kind<F)=true:=by simpa using hk1
     go_wp2_with fail
     go_roundw
     case rel=>exact ⟨j+1,by omega,by go_num,HBKR.out.more,HBR.out⟩
     case measure=>simp [intOf];omega
    ·have t1:decide (kind<F)=false:=by simpa using hk1
     by_cases hk2:T<kind
     ·have t2:decide (T<kind)=true:=by simpa using hk2
      go_wp2_with fail
      go_roundw
      case rel=>exact ⟨j+1,by omega,by go_num,HBKR.out.more,HBR.out⟩
      case measure=>simp [intOf];omega
     ·have t2:decide (T<kind)=false:=by simpa using hk2
      have hstep:Calls Tryz.prog 18 #[.pointer (some ⟨kb,0,none⟩),.agg #[.int .i64 kind,.int .i64 A,.string S,.slice la ns.length lc]] wr (StepPost wr kb kb j):=by
       have hk3:kind=1∨kind=2∨kind=3:=by omega
       rcases hk3 with rfl|rfl|rfl
       ·exact step_one wr kb kb j A S la lc ns HBKR.out hlk HOP.out
       ·exact step_two wr kb kb j A S la ns.length lc HBKR.out hlk hs (HMAX.out.below HBW.out) (by omega)
       ·exact step_three wr kb kb j A S la ns.length lc HBKR.out hlk hs (HMAX.out.below HBW.out) (by omega)
      have HSTEP:=hid hstep
      clear hstep
      go_wp2_with fail
      refine HSTEP.out.mono ?_
      rintro e w5 ⟨rfl,h1,h2⟩
      have HBK5:=hid h1
      have HB5:=hid (HBR.out.trans h2)
      clear h1 h2
      go_wp2_with fail
      refine (looks_books w5 kb kb (j+1) HBK5.out (by omega)).mono ?_
      rintro e w6 ⟨rfl,rfl⟩
      go_wp2
      go_roundw
      case rel=>exact ⟨j+1,by omega,by go_num,HBK5.out,HB5.out⟩
      case measure=>simp [intOf];omega
   ·have d1:decide ((j:Int)<3+(os.length:Int))=false:=by simp;omega
    go_wp2_with fail
    go_ret
    exact ⟨rfl,HBW.out⟩
theorem Assembles_any (a:Option Addr) (cap:Nat) (os:List OpD) (w:World) (hl:os.length≤1048576) (hat:OpsAt w a os) (hok:∀o∈os,OpOk w o) (hmax:MaxAt w) :
  Calls Tryz.prog 5 #[.slice a os.length cap] w fun e w'=>e=.returned (.bool true)∧Below w.heap.size w w':=by
 have HAT:=hid hat
 have HOK:=hid hok
 have HMAX:=hid hmax
 clear hat hok hmax
 go_enter Tryz.func5,Tryz.ntmps5
 go_wp2_with fail
 refine (plays_three 3 3 (by omega) (by omega) a cap os _ hl HAT.out HOK.out HMAX.out).mono ?_
 rintro e w1 ⟨rfl,hb⟩
 go_wp2
 go_ret
 exact ⟨rfl,hb⟩
theorem All_any (a:Option Addr) (cap:Nat) (os:List OpD) (w:World) (hl:os.length≤1048576) (hat:OpsAt w a os) (hok:∀o∈os,OpOk w o) (hmax:MaxAt w) :
  Calls Tryz.prog 8 #[.slice a os.length cap] w fun e w'=>e=.returned (.bool true)∧Below w.heap.size w w':=by
 have HAT:=hid hat
 have HOK:=hid hok
 have HMAX:=hid hmax
 clear hat hok hmax
 go_enter Tryz.func8,Tryz.ntmps8
 go_wp2_with fail
 refine (plays_three 1 3 (by omega) (by omega) a cap os _ hl HAT.out HOK.out HMAX.out).mono ?_
 rintro e w1 ⟨rfl,hb⟩
 go_wp2
 go_ret
 exact ⟨rfl,hb⟩
end Go.Proofs.YtcepppilgncdmaaGreatDoor
