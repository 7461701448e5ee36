/-
  Joined: PExp PLeave PAsm PaGrow PaSet RDat ROps RStep RNamed RSets QSt QBlk.
-/
import Derived.Test.YtcepppilgncdmaaGreatDoorBX03
import Derived.Test.YtcepppilgncdmaaGreatDoorBX10
import Derived.Test.YtcepppilgncdmaaGreatDoorBX14
namespace Go.Proofs.YtcepppilgncdmaaGreatDoor
open Go.RowKit
section
attribute [local go_sem ↓] Go.wp_at_zero Go.wp_at_succ
structure MacV where
 name:ByteArray
 pv:Value
 ps:List ByteArray
 bv:Value
 bs:List ByteArray
def plainM (m:MacV):MacP:=⟨L m.name,m.ps.map L,m.bs.map L⟩
def macCells:List MacV→List Value
 |[]=>[]
 |m::r=>.string m.name::m.pv::m.bv::macCells r
def nameCells:List (ByteArray×Int)→List Value
 |[]=>[]
 |n::r=>.string n.1::.int .i64 n.2::nameCells r
def lineCells:List (ByteArray×Nat)→List Value
 |[]=>[]
 |l::r=>.string l.1::.int .i64 (l.2:Nat)::.int .i64 0::.int .i64 0::lineCells r
theorem macCells_append (a b:List MacV):macCells (a++b)=macCells a++macCells b:=by
 induction a with
 |nil=>rfl
 |cons x r ih=>simp [macCells,ih]
theorem nameCells_append (a b:List (ByteArray×Int)):nameCells (a++b)=nameCells a++nameCells b:=by
 induction a with
 |nil=>rfl
 |cons x r ih=>simp [nameCells,ih]
theorem lineCells_append (a b:List (ByteArray×Nat)):lineCells (a++b)=lineCells a++lineCells b:=by
 induction a with
 |nil=>rfl
 |cons x r ih=>simp [lineCells,ih]
theorem nameCells_at (l:List (ByteArray×Int)) (i:Nat) (h:i<l.length):(nameCells l)[i*2]?=some (.string l[i].1)∧(nameCells l)[i*2+1]?=some (.int .i64 l[i].2):=by
 induction l generalizing i with
 |nil=>simp at h
 |cons x r ih =>
  cases i with
  |zero=>simp [nameCells]
  |succ i =>
   have:=ih i (by simpa using h)
   simp only [nameCells,show (i+1)*2=i*2+1+1 from by omega,List.getElem?_cons_succ,List.getElem_cons_succ]
   exact ⟨this.1,this.2⟩
theorem macCells_at (l:List MacV) (i:Nat) (h:i<l.length):(macCells l)[i*3]?=some (.string l[i].name)∧(macCells l)[i*3+1]?=some l[i].pv∧(macCells l)[i*3+2]?=some l[i].bv:=by
 induction l generalizing i with
 |nil=>simp at h
 |cons x r ih =>
  cases i with
  |zero=>simp [macCells]
  |succ i =>
   have:=ih i (by simpa using h)
   simp only [macCells,show (i+1)*3=i*3+1+1+1 from by omega,show i*3+1+1+1+1=i*3+1+1+1+1 from rfl,List.getElem?_cons_succ,List.getElem_cons_succ]
   exact ⟨this.1,this.2.1,this.2.2⟩
def MacOk (m:MacP):Prop:=m.params.length≤100∧(∀p∈m.params,p.length≤100)∧m.lines.length≤3001∧∀l∈m.lines,l.length≤100∧cutL l=l
structure StOk (st:StP) (k:Nat):Prop where
 macs:∀m∈st.macros,MacOk m
 names:st.names.length≤st.out.length
 out:st.out.length≤300
 calls:st.calls≤200
 few:st.macros.length≤k
 taken:k≤3001
structure ExpAt (w:World) (B be bt:Nat) (wi k:Nat) (vm vn vl:Value) (ms:List MacV) (ns:List (ByteArray×Int)) (outs:List (ByteArray×Nat)) (calls:Nat):Prop where
 row:RowT w 77 be [.pointer (some ⟨bt,0,none⟩),vm,vn,.int .i64 (wi:Nat),.int .i64 (calls:Nat),vl]
 mown:w.ownsRow B 202 3 vm ms.length (macCells ms)
 nown:w.ownsRow B 40 2 vn ns.length (nameCells ns)
 lown:w.ownsRow B 38 4 vl outs.length (lineCells outs)
 mstr:∀m∈ms,StrV w 0 m.pv m.ps∧StrV w 0 m.bv m.bs
 at_:B≤be
 text:∃xs,RowT w 74 bt xs∧xs[2]?=some (.int .i64 (k:Nat))
def NumAt (w:World) (be bt wi k:Nat):Prop:=∃ys xs,RowT w 77 be (.pointer (some ⟨bt,0,none⟩)::ys)∧ys[2]?=some (.int .i64 (wi:Nat))∧RowT w 74 bt xs∧xs[2]?=some (.int .i64 (k:Nat))
theorem ExpAt.num {w:World}{B be bt wi k:Nat}{vm vn vl:Value}{ms:List MacV}{ns:List (ByteArray×Int)}{outs:List (ByteArray×Nat)}{calls:Nat}(h:ExpAt w B be bt wi k vm vn vl ms ns outs calls):NumAt w be bt wi k:=by
 obtain ⟨xs,h1,h2⟩:=h.text
 exact ⟨_,xs,h.row,rfl,h1,h2⟩
def stOf (ms:List MacV) (ns:List (ByteArray×Int)) (outs:List (ByteArray×Nat)) (calls:Nat):StP:=⟨ms.map plainM,plainN ns,outs.map fun x=>(L x.1,x.2),calls⟩
theorem own_form {w:World}{C e size n:Nat}{v:Value}{xs:List Value}(h:w.ownsRow C e size v n xs):∃a cap,v=.slice a n cap:=by
 rcases h.2 with ⟨rfl,h0⟩|⟨g,cap,cur,rfl,_⟩
 ·rw [h0];exact ⟨none,0,rfl⟩
 ·exact ⟨_,cap,rfl⟩
set_option maxHeartbeats 400000 in
theorem number_any' (w:World) (B be bt wi k:Nat) (vm vn vl:Value) (ms:List MacV) (ns:List (ByteArray×Int)) (outs:List (ByteArray×Nat)) (calls:Nat) (h:ExpAt w B be bt wi k vm vn vl ms ns outs calls) :
  Calls Tryz.prog 32 #[.pointer (some ⟨be,0,none⟩)] w fun e w'=>e=.returned (.int .i64 (k:Nat))∧w'=w:=by
 have c0:=h.row.cell 0 (by simp)
 obtain ⟨xs,hx,hx2⟩:=h.text
 have hlt:2<xs.length:=by
  rcases Nat.lt_or_ge 2 xs.length with h|h
  ·exact h
  ·rw [List.getElem?_eq_none h] at hx2;cases hx2
 have c2:w.cell? ⟨bt,2,none⟩=some (.int .i64 (k:Nat)):=by
  rw [hx.cell 2 hlt,←hx2,List.getElem?_eq_getElem hlt]
 clear h hx hx2
 go_enter Tryz.func32,Tryz.ntmps32
 go_wp2
 go_ret
 exact ⟨rfl,rfl⟩
theorem findM_at (ms:List MacV) (s:List UInt8) (k:Nat) (h:k<ms.length):findM ((ms.drop k).map plainM) s=if L ms[k].name=s then some (plainM ms[k]) else findM ((ms.drop (k+1)).map plainM) s:=by
 rw [List.drop_eq_getElem_cons h,List.map_cons];rfl
def FindPost (ms:List MacV) (vm:Value) (s:List UInt8) (w:World) (e:Ending) (w':World):Prop:=w'=w ∧
 ((findM (ms.map plainM) s=none∧e=.returned (.pointer none))∨∃i g cap,∃h:i<ms.length,findM (ms.map plainM) s=some (plainM ms[i])∧vm=.slice (some ⟨g,0,none⟩) ms.length cap∧e=.returned (.pointer (some ⟨g,i*3,none⟩)))
set_option maxHeartbeats 800000 in
theorem find_any' (w:World) (B be bt wi k:Nat) (vm vn vl:Value) (ms:List MacV) (ns:List (ByteArray×Int)) (outs:List (ByteArray×Nat)) (calls:Nat) (h:ExpAt w B be bt wi k vm vn vl ms ns outs calls) (hml:ms.length≤3001) (s:ByteArray) :
  Calls Tryz.prog 108 #[.pointer (some ⟨be,0,none⟩),.string s] w (FindPost ms vm (L s) w):=by
 have c1:=h.row.cell 1 (by simp)
 obtain ⟨a,cap,hv⟩:=own_form h.mown
 subst hv
 have HOWN:=hid h.mown
 have c1:w.cell? ⟨be,1,none⟩=some (.slice a ms.length cap):=c1
 clear h
 go_enter Tryz.func108,Tryz.ntmps108
 go_wp2
 go_loop [11] (fun i=>∃j:Nat,j≤ms.length∧i=.int .i64 j∧findM (ms.map plainM) (L s)=findM ((ms.drop j).map plainM) (L s)) (fun i=>ms.length-(intOf i).toNat)
 case atStart=>exact ⟨0,Nat.zero_le _,rfl,by rw [List.drop_zero]⟩
 case round =>
  obtain ⟨j,hj,rfl,ha⟩:=hrel
  have HA:=hid ha
  clear ha
  by_cases hlt:j<ms.length
  ·have kd:decide ((j:Int)<(ms.length:Int))=true:=by simp;omega
   obtain ⟨g,cap2,hv,hBg,hgl⟩:=HOWN.out.form (by omega)
   injection hv with hv1 _ hv2
   subst hv1 hv2
   have cm:w.cell? ⟨g,j*3,none⟩=some (.string ms[j].name):=by
    rw [HOWN.out.cellAt (j*3) (by omega)];exact (macCells_at ms j hlt).1
   have hA:=HA.out
   rw [findM_at _ _ _ hlt] at hA
   by_cases he:L ms[j].name=L s
   ·rw [if_pos he] at hA
    have HF:=hid hA
    have kb:(ms[j].name.toList==s.toList)=true:=beq_of_L he
    clear hA he
    go_wp2
    go_ret
    exact ⟨rfl,Or.inr ⟨j,g,cap,hlt,HF.out,rfl,rfl⟩⟩
   ·rw [if_neg he] at hA
    have HF:=hid hA
    have kb:(ms[j].name.toList==s.toList)=false:=nbeq_of_L he
    clear hA he
    go_wp2
    go_round
    case rel=>exact ⟨j+1,by omega,by go_num,HF.out⟩
    case measure=>simp [intOf];omega
  ·have kd:decide ((j:Int)<(ms.length:Int))=false:=by simp;omega
   have HF:=hid (show findM (ms.map plainM) (L s)=none by rw [HA.out,List.drop_eq_nil_of_le (by omega)];rfl)
   go_wp2
   go_ret
   exact ⟨rfl,Or.inl ⟨HF.out,rfl⟩⟩
end
section
attribute [local go_sem ↓] Go.wp_at_zero Go.wp_at_succ
theorem ExpAt.below {w w':World}{B be bt wi k:Nat}{vm vn vl:Value}{ms:List MacV}{ns:List (ByteArray×Int)}{outs:List (ByteArray×Nat)}{calls:Nat}(h:ExpAt w B be bt wi k vm vn vl ms ns outs calls) (hb:Below w.heap.size w w'):ExpAt w' B be bt wi k vm vn vl ms ns outs calls:=
 ⟨h.row.below hb,ownsRow_belowP h.mown hb,ownsRow_belowP h.nown hb,ownsRow_belowP h.lown hb,fun m hm=>⟨(h.mstr m hm).1.below hb,(h.mstr m hm).2.below hb⟩,h.at_,by obtain ⟨xs,h1,h2⟩:=h.text;exact ⟨xs,h1.below hb,h2⟩⟩
theorem ExpAt.namesAt {w:World}{B be bt wi k:Nat}{vm vn vl:Value}{ms:List MacV}{ns:List (ByteArray×Int)}{outs:List (ByteArray×Nat)}{calls:Nat}(h:ExpAt w B be bt wi k vm vn vl ms ns outs calls):∃a cap,vn=.slice a ns.length cap∧NamesAt w a ns:=by
 rcases h.nown.2 with ⟨rfl,h0⟩|⟨g,cap,cur,rfl,hb,hg,_⟩
 ·exact ⟨none,0,by rw [h0],Or.inl (List.eq_nil_of_length_eq_zero h0)⟩
 ·refine ⟨_,cap,rfl,Or.inr ⟨g,0,rfl,(Array.getElem?_eq_some_iff.1 hg).1,fun i hi=>?_⟩⟩
  have h1:=h.nown.cellAt (i*2) (by omega)
  have h2:=h.nown.cellAt (i*2+1) (by omega)
  rw [(nameCells_at ns i hi).1] at h1
  rw [(nameCells_at ns i hi).2] at h2
  rw [Nat.zero_add]
  exact ⟨h1,h2⟩
theorem info_line:(Tryz.prog.info? 38).map (fun i=>(i.zero,i.size,i.bytes))=some (some (.agg #[.string ⟨#[]⟩,.int .i64 0,.int .i64 0,.int .i64 0]),4,40):=by kernel_rfl
theorem info_name:(Tryz.prog.info? 40).map (fun i=>(i.zero,i.size,i.bytes))=some (some (.agg #[.string ⟨#[]⟩,.int .i64 0]),2,24):=by kernel_rfl
theorem info_mac:(Tryz.prog.info? 202).map (fun i=>(i.zero,i.size,i.bytes))=some (some (.agg #[.string ⟨#[]⟩,.slice none 0 0,.slice none 0 0]),3,64):=by kernel_rfl
def ExpSt (w:World) (B be bt wi k:Nat) (st:StP):Prop:=∃vm vn vl ms ns outs calls,ExpAt w B be bt wi k vm vn vl ms ns outs calls∧st=stOf ms ns outs calls
def ExpPost (B be bt wi k:Nat) (M:List Nat) (r:Int×StP) (w:World) (e:Ending) (w':World):Prop:=
 e=.returned (.int .i64 r.1)∧Fr B M w w'∧(r.1=0→ExpSt w' B be bt wi k r.2)∧NumAt w' be bt wi k
theorem ExpAt.line {w w4:World}{B be bt wi k:Nat}{vm vn vl:Value}{ms:List MacV}{ns:List (ByteArray×Int)}{outs:List (ByteArray×Nat)}{calls:Nat}(h:ExpAt w B be bt wi k vm vn vl ms ns outs calls) (hg:w.grownBy w4 vl.ownBlock) {gg cap:Nat}{t:ByteArray}{at_:Nat}
  (ho:w4.ownsRow B 38 4 (.slice (some ⟨gg,0,none⟩) (outs.length+1) cap) (outs.length+1) (lineCells outs++[.string t,.int .i64 (at_:Nat),.int .i64 0,.int .i64 0])) :
  ExpAt (w4.setCell ⟨be,5,none⟩ (.slice (some ⟨gg,0,none⟩) (outs.length+1) cap)) B be bt wi k vm vn (.slice (some ⟨gg,0,none⟩) (outs.length+1) cap) ms ns (outs++[(t,at_)]) calls ∧
  Fr B [] w (w4.setCell ⟨be,5,none⟩ (.slice (some ⟨gg,0,none⟩) (outs.length+1) cap)):=by
 have hne:vl.ownBlock≠some be:=own_row_ne h.lown h.row (by decide)
 have hr4:RowT w4 77 be [.pointer (some ⟨bt,0,none⟩),vm,vn,.int .i64 (wi:Nat),.int .i64 (calls:Nat),vl]:=RowT.grown' h.row hg (Ne.symm hne)
 have hm4:=h.mown.kept hg (by
  cases hv:vm.ownBlock with
  |none=>exact Or.inl rfl
  |some g=>exact Or.inr (fun e1=>own_own_ne h.mown h.lown (by decide) (g:=g) (by rw [←e1]) hv))
 have hn4:=h.nown.kept hg (by
  cases hv:vn.ownBlock with
  |none=>exact Or.inl rfl
  |some g=>exact Or.inr (fun e1=>own_own_ne h.nown h.lown (by decide) (g:=g) (by rw [←e1]) hv))
 have hf4:Fr B [] w w4:=(Fr.refl B [] w).grown hg (own_may h.lown (fun _ _=>Or.inl rfl))
 have hf5:=hf4.setCell (p:=⟨be,5,none⟩) (hr4.may h.at_ (Or.inl rfl)) (.slice (some ⟨gg,0,none⟩) (outs.length+1) cap)
 refine ⟨⟨hr4.set 5 _,?_,?_,?_,fun m hm=>⟨(h.mstr m hm).1.fr hf5,(h.mstr m hm).2.fr hf5⟩,h.at_,?_⟩,hf5⟩
 ·exact ownsRow_setCell_other hm4 (a:=⟨be,5,none⟩) (own_row_ne hm4 hr4 (by decide)) _
 ·exact ownsRow_setCell_other hn4 (a:=⟨be,5,none⟩) (own_row_ne hn4 hr4 (by decide)) _
 ·rw [lineCells_append,List.length_append]
  exact ownsRow_setCell_other ho (a:=⟨be,5,none⟩) (own_row_ne ho hr4 (by decide)) _
 ·obtain ⟨xs,h1,h2⟩:=h.text
  exact ⟨xs,h1.fr hf5 rfl (fun _=>by simp),h2⟩
def LeavePost (B be bt wi k:Nat) (vm vn:Value) (ms:List MacV) (ns:List (ByteArray×Int)) (calls:Nat) (r:Int×StP) (w:World) (e:Ending) (w':World):Prop:=
 e=.returned (.int .i64 r.1)∧Fr B [] w w'∧(r.1=0→∃vl outs,ExpAt w' B be bt wi k vm vn vl ms ns outs calls∧r.2=stOf ms ns outs calls)∧NumAt w' be bt wi k
set_option maxRecDepth 100000 in
set_option maxHeartbeats 1600000 in
theorem leave_any' (w:World) (B be bt wi k:Nat) (vm vn vl:Value) (ms:List MacV) (ns:List (ByteArray×Int)) (outs:List (ByteArray×Nat)) (calls:Nat) (lb op:ByteArray) (va:Option Addr) (vc:Nat) (os:List ByteArray) (W:WordsP) (C:Nat) (hx:ExpAt w B be bt wi k vm vn vl ms ns outs calls) (hp:PartsV w C lb op (.slice va os.length vc) os W) (hl:(textP W).length≤1000000) (hn:os.length≤1000000) (hok:(stOf ms ns outs calls).out.length≤300) (hB:B≤w.heap.size) :
  Calls Tryz.prog 110 #[.pointer (some ⟨be,0,none⟩),.agg #[.string lb,.string op,.slice va os.length vc]] w (LeavePost B be bt wi k vm vn ms ns calls (leaveP W k (stOf ms ns outs calls)) w):=by
 obtain ⟨i0,hi0,hz0,hz1,hz2⟩:=info_parts info_line
 have hb0:Below w.heap.size w (w.alloc (.cells #[.string lb,.string op,.slice va os.length vc] 101)):=(Below.refl _ _).alloc (Nat.le_refl _) _
 have HX:=hid (hx.below hb0)
 have HP:=hid (hp.below hb0)
 have HF:=hid (show Fr B [] w (w.alloc (.cells #[.string lb,.string op,.slice va os.length vc] 101)) from Fr.of_below hb0)
 have hol:outs.length≤300:=by simpa [stOf] using hok
 clear hx hp hb0 hok
 go_enter Tryz.func110,Tryz.ntmps110
 go_wp2_with fail
 refine (Text_any lb op va vc os _ C W HP.out hl hn).mono ?_
 rintro e w1 ⟨t,ht,rfl,hb1⟩
 have HX:=hid (HX.out.below hb1)
 have HF:=hid (HF.out.trans (Fr.of_below hb1))
 have HT:=hid ht
 have hB1:B≤w1.heap.size:=Nat.le_trans hB HF.out.size
 clear hb1 ht HP
 by_cases hz:t.size=0
 ·have kz:=is_empty t hz
  have HR:=hid (show leaveP W k (stOf ms ns outs calls)=(0,stOf ms ns outs calls) by unfold leaveP;rw [if_pos (by rw [←HT.out];exact L_zero hz)])
  clear hz
  go_wp2
  go_ret
  rw [HR.out]
  exact ⟨rfl,HF.out,fun _=>⟨vl,outs,HX.out,rfl⟩,HX.out.num⟩
 ·have kz:=not_empty t (by omega)
  have hne:¬textP W=[]:=fun e=>hz (by rw [size_L,HT.out,e];rfl)
  obtain ⟨al,cl,hvl⟩:=own_form HX.out.lown
  have c5:=HX.out.row.cell 5 (by simp)
  have f5:=HX.out.row.free 5
  have c5:w1.cell? ⟨be,5,none⟩=some (.slice al outs.length cl):=by rw [←hvl];exact c5
  by_cases h300:outs.length=300
  ·have kk:((outs.length:Int)==300)=true:=by rw [beq_iff_eq];omega
   have HR:=hid (show leaveP W k (stOf ms ns outs calls)=(8,stOf ms ns outs calls) by unfold leaveP;rw [if_neg hne,if_pos (by simp [stOf,h300])])
   clear hz hne h300
   go_wp2
   go_ret
   rw [HR.out]
   exact ⟨rfl,HF.out,(fun h=>by cases h),HX.out.num⟩
  ·have kk:((outs.length:Int)==300)=false:=by rw [beq_eq_false_iff_ne];omega
   have HR:=hid (show leaveP W k (stOf ms ns outs calls)=(0,stOf ms ns (outs++[(t,k)]) calls) by
    unfold leaveP;rw [if_neg hne,if_neg (by simp [stOf];omega)]
    simp [stOf,HT.out])
   subst hvl
   have hlt:=HX.out.row.lt
   have hneb:(Value.slice al outs.length cl).ownBlock≠some be:=own_row_ne HX.out.lown HX.out.row (by decide)
   clear hz hne h300
   go_wp2_with fail
   go_region_law
    (first
     |(rw [if_pos (by rfl)];go_simp;go_at_call 32;refine (number_any' _ B be bt wi k vm vn _ ms ns outs calls (HX.out.below ((Below.refl _ _).drew))).mono ?_;rintro e w' ⟨rfl,hw'⟩;subst hw')
     |(refine step_append_lies _ (by rfl) _ _ _ (by rfl) B 38 i0 _ 4 40 Tryz.underlying26 hi0 hz0 hz1 hz2 rfl (by omega) (.slice al outs.length cl) outs.length (lineCells outs) (by rfl) ((HX.out.lown.alloc _).drew) ⟨_,0,none⟩ 1 1 [.string t,.int .i64 (k:Nat),.int .i64 0,.int .i64 0] (by rfl) (by rfl) (World.news_of_block (cs:=#[.string t,.int .i64 (k:Nat),.int .i64 0,.int .i64 0]) (t:=38) (fr:=(0,0)) (heap_alloc_new _ _)) (by simp [Value.oneCell']) (by omega) (by unfold maxLen;omega) (by omega) (by simp;omega) _ rfl ?_;intro gg cap' w4 hown4 hgrow hat hlt4;have hc4:=(hgrow.cell_far ⟨be,5,none⟩ (by simp;omega) (Ne.symm hneb)).trans ((((Below.refl w1.heap.size w1).alloc (Nat.le_refl _) _).drew.cell (p:=⟨be,5,none⟩) hlt).trans c5);have hf4:=(hgrow.frozen_far ⟨be,5,none⟩ (by simp;omega) (Ne.symm hneb)).trans ((((Below.refl w1.heap.size w1).alloc (Nat.le_refl _) _).drew.frozen (p:=⟨be,5,none⟩) hlt).trans f5)))
   all_goals
    have hb2:Below w1.heap.size w1 (w1.alloc (.cells #[.string t,.int .i64 (k:Nat),.int .i64 0,.int .i64 0] 38)).drew:=((Below.refl _ _).alloc (Nat.le_refl _) _).drew
    have HL:=hid ((HX.out.below hb2).line hgrow hown4)
    have HF2:=hid ((HF.out.trans (Fr.of_below hb2)).trans HL.out.2)
    clear hown4 hgrow hat hc4 hf4
    go_wp2
    go_ret
    rw [HR.out]
    exact ⟨rfl,HF2.out,fun _=>⟨_,_,HL.out.1,rfl⟩,HL.out.1.num⟩
theorem leave_any (w:World) (B be bt wi k:Nat) (st:StP) (lb op:ByteArray) (va:Option Addr) (vc:Nat) (os:List ByteArray) (W:WordsP) (C:Nat) (h:ExpSt w B be bt wi k st) (hp:PartsV w C lb op (.slice va os.length vc) os W) (hl:(textP W).length≤1000000) (hn:os.length≤1000000) (hok:st.out.length≤300) (hB:B≤w.heap.size) :
  Calls Tryz.prog 110 #[.pointer (some ⟨be,0,none⟩),.agg #[.string lb,.string op,.slice va os.length vc]] w (ExpPost B be bt wi k [] (leaveP W k st) w):=by
 obtain ⟨vm,vn,vl,ms,ns,outs,calls,hx,rfl⟩:=h
 refine (leave_any' w B be bt wi k vm vn vl ms ns outs calls lb op va vc os W C hx hp hl hn hok hB).mono ?_
 rintro e w' ⟨h1,h2,h3,h4⟩
 refine ⟨h1,h2,fun h0=>?_,h4⟩
 obtain ⟨vl',outs',h5,h6⟩:=h3 h0
 exact ⟨vm,vn,vl',ms,ns,outs',calls,h5,h6⟩
end
theorem lnCells_lines (outs:List (ByteArray×Nat)):lnCells (outs.map fun x=>⟨x.1,x.2,0,0⟩)=lineCells outs:=by
 induction outs with
 |nil=>rfl
 |cons x r ih=>simp [lnCells,lineCells,ih]
theorem nameCells_set (l:List (ByteArray×Int)) (i:Nat) (h:i<l.length) (z:Int):(nameCells l).set (i*2+1) (.int .i64 z)=nameCells (l.set i (l[i].1,z)):=by
 induction l generalizing i with
 |nil=>simp at h
 |cons x r ih =>
  cases i with
  |zero=>simp [nameCells]
  |succ i =>
   have:=ih i (by simpa using h)
   simp only [nameCells,show (i+1)*2+1=(i*2+1)+1+1 from by omega,List.set_cons_succ,List.getElem_cons_succ,this]
def byCells (bs:List UInt8):List Value:=bs.map fun b=>.int .u8 (b.toNat:Nat)
theorem byCells_append (a b:List UInt8):byCells (a++b)=byCells a++byCells b:=by simp [byCells]
def aT (t:TypeId):Bool:=t==83 || t==113 || t==40 || t==38 || t==5
abbrev FrA:=FrE aT
def bT (t:TypeId):Bool:=t==83 || t==5
abbrev FrB:=FrE bT
theorem FrB.refl (B:Nat) (w:World):FrB B [] w w:=FrE.refl _ _ _ _
theorem FrB.of_below {B:Nat}{w w':World}(h:Below w.heap.size w w'):FrB B [] w w':=FrE.of_below h
theorem FrA.refl (B:Nat) (w:World):FrA B [] w w:=FrE.refl _ _ _ _
theorem FrA.of_below {B:Nat}{w w':World}(h:Below w.heap.size w w'):FrA B [] w w':=FrE.of_below h
def nT (t:TypeId):Bool:=t==83 || t==113 || t==40
abbrev FrN:=FrE nT
theorem FrN.refl (B:Nat) (w:World):FrN B [] w w:=FrE.refl _ _ _ _
theorem FrN.of_below {B:Nat}{w w':World}(h:Below w.heap.size w w'):FrN B [] w w':=FrE.of_below h
theorem StrV.frn {B C:Nat}{w w':World}{v:Value}{ss:List ByteArray}(h:StrV w C v ss) (hf:FrN B [] w w'):StrV w' C v ss:=h.frE hf rfl
theorem StrV.frb {B C:Nat}{w w':World}{v:Value}{ss:List ByteArray}(h:StrV w C v ss) (hf:FrB B [] w w'):StrV w' C v ss:=h.frE hf rfl
theorem StrV.fra {B C:Nat}{w w':World}{v:Value}{ss:List ByteArray}(h:StrV w C v ss) (hf:FrA B [] w w'):StrV w' C v ss:=h.frE hf rfl
structure AsmAt (w:World) (B ba:Nat) (vl vs vn vt vb:Value) (ls:List LnV) (ss:List StV) (ns ts:List (ByteArray×Int)) (sz:Nat) (bs:List UInt8):Prop where
 row:RowT w 83 ba [vl,vs,vn,vt,.int .i64 (sz:Nat),vb]
 at_:B≤ba
 lown:w.ownsRow B 38 4 vl ls.length (lnCells ls)
 sown:w.ownsRow B 113 11 vs ss.length (stCells ss)
 nown:w.ownsRow B 40 2 vn ns.length (nameCells ns)
 town:w.ownsRow B 40 2 vt ts.length (nameCells ts)
 bown:w.ownsRow B 5 1 vb bs.length (byCells bs)
 apart:∀g,vn.ownBlock=some g→vt.ownBlock≠some g
 strs:∀x∈ss,StrV w 0 x.v x.es
theorem AsmAt.below {w w':World}{B ba:Nat}{vl vs vn vt vb:Value}{ls:List LnV}{ss:List StV}{ns ts:List (ByteArray×Int)}{sz:Nat}{bs:List UInt8}(h:AsmAt w B ba vl vs vn vt vb ls ss ns ts sz bs) (hb:Below w.heap.size w w'):AsmAt w' B ba vl vs vn vt vb ls ss ns ts sz bs:=
 ⟨h.row.below hb,h.at_,ownsRow_belowP h.lown hb,ownsRow_belowP h.sown hb,ownsRow_belowP h.nown hb,ownsRow_belowP h.town hb,ownsRow_belowP h.bown hb,h.apart,fun x hx=>(h.strs x hx).below hb⟩
theorem own_names {w:World}{B:Nat}{v:Value}{ns:List (ByteArray×Int)}(h:w.ownsRow B 40 2 v ns.length (nameCells ns)):∃a cap,v=.slice a ns.length cap∧NamesAt w a ns:=by
 rcases h.2 with ⟨rfl,h0⟩|⟨g,cap,cur,rfl,hb,hg,_⟩
 ·exact ⟨none,0,by rw [h0],Or.inl (List.eq_nil_of_length_eq_zero h0)⟩
 ·refine ⟨_,cap,rfl,Or.inr ⟨g,0,rfl,(Array.getElem?_eq_some_iff.1 hg).1,fun i hi=>?_⟩⟩
  have h1:=h.cellAt (i*2) (by omega)
  have h2:=h.cellAt (i*2+1) (by omega)
  rw [(nameCells_at ns i hi).1] at h1
  rw [(nameCells_at ns i hi).2] at h2
  rw [Nat.zero_add]
  exact ⟨h1,h2⟩
theorem own_keep {w w4:World}{B C e f size m n k:Nat}{v u:Value}{xs ys:List Value}(h:w.ownsRow B e size v n xs) (hu:w.ownsRow C f m u k ys) (hg:w.grownBy w4 u.ownBlock) (ht:e≠f):w4.ownsRow B e size v n xs:=
 h.kept hg (by
  cases hv:v.ownBlock with
  |none=>exact Or.inl rfl
  |some g=>exact Or.inr (fun e1=>own_own_ne h hu ht (g:=g) (by rw [←e1]) hv))
theorem own_keepN {w w4:World}{B size n:Nat}{e:Nat}{v u:Value}{xs:List Value}(h:w.ownsRow B e size v n xs) (hg:w.grownBy w4 u.ownBlock) (ht:∀g,v.ownBlock=some g→u.ownBlock≠some g):w4.ownsRow B e size v n xs:=
 h.kept hg (by
  cases hv:v.ownBlock with
  |none=>exact Or.inl rfl
  |some g=>exact Or.inr (fun e1=>ht g hv (by rw [←e1])))
theorem info_stm:(Tryz.prog.info? 113).map (fun i=>(i.zero,i.size,i.bytes))=some (some (.agg #[.int .i64 0,.int .i64 0,.int .i64 0,.int .i64 0,.int .i64 0,.int .i64 0,.bool false,.int .i64 0,.slice none 0 0,.int .i64 0,.bool false]),11,104):=by kernel_rfl
theorem info_by:(Tryz.prog.info? 5).map (fun i=>(i.zero,i.size,i.bytes))=some (some (.int .u8 0),1,1):=by kernel_rfl
theorem own_ltA {w:World}{b e s n p:Nat}{v:Value}{xs:List Value}(h:w.ownsRow b e s v n xs) (hp:v.ownBlock=some p):p<w.heap.size:=by
 rcases h.2 with ⟨rfl,_⟩|⟨g',cap',cur,rfl,_,hh,_⟩
 ·cases hp
 ·simp only [Value.ownBlock,Option.some.injEq] at hp
  subst hp
  exact (Array.getElem?_eq_some_iff.1 hh).1
theorem AsmAt.stm {w w4:World}{B ba:Nat}{vl vs vn vt vb:Value}{ls:List LnV}{ss:List StV}{ns ts:List (ByteArray×Int)}{sz:Nat}{bs:List UInt8}(h:AsmAt w B ba vl vs vn vt vb ls ss ns ts sz bs) (hg:w.grownBy w4 vs.ownBlock) {gg cap:Nat}{x:StV}(hx:StrV w 0 x.v x.es)
  (ho:w4.ownsRow B 113 11 (.slice (some ⟨gg,0,none⟩) (ss.length+1) cap) (ss.length+1) (stCells ss++stOne x)) :
  AsmAt (w4.setCell ⟨ba,1,none⟩ (.slice (some ⟨gg,0,none⟩) (ss.length+1) cap)) B ba vl (.slice (some ⟨gg,0,none⟩) (ss.length+1) cap) vn vt vb ls (ss++[x]) ns ts sz bs ∧
  FrN B [] w (w4.setCell ⟨ba,1,none⟩ (.slice (some ⟨gg,0,none⟩) (ss.length+1) cap)):=by
 have hne:vs.ownBlock≠some ba:=own_row_ne h.sown h.row (by decide)
 have hr4:RowT w4 83 ba [vl,vs,vn,vt,.int .i64 (sz:Nat),vb]:=RowT.grown' h.row hg (Ne.symm hne)
 have kl:=own_keep h.lown h.sown hg (by decide)
 have kn:=own_keep h.nown h.sown hg (by decide)
 have kt:=own_keep h.town h.sown hg (by decide)
 have kb:=own_keep h.bown h.sown hg (by decide)
 have hf4:FrN B [] w w4:=(FrN.refl B w).grown hg (own_may h.sown (fun _ _=>Or.inl rfl))
 have hf5:=hf4.setCell (p:=⟨ba,1,none⟩) (hr4.may h.at_ (Or.inl rfl)) (.slice (some ⟨gg,0,none⟩) (ss.length+1) cap)
 refine ⟨⟨hr4.set 1 _,h.at_,ownsRow_setCell_other kl (a:=⟨ba,1,none⟩) (own_row_ne kl hr4 (by decide)) _,?_,ownsRow_setCell_other kn (a:=⟨ba,1,none⟩) (own_row_ne kn hr4 (by decide)) _,ownsRow_setCell_other kt (a:=⟨ba,1,none⟩) (own_row_ne kt hr4 (by decide)) _,ownsRow_setCell_other kb (a:=⟨ba,1,none⟩) (own_row_ne kb hr4 (by decide)) _,h.apart,?_⟩,hf5⟩
 ·rw [stCells_append,stCells_one,List.length_append]
  exact ownsRow_setCell_other ho (a:=⟨ba,1,none⟩) (own_row_ne ho hr4 (by decide)) _
 ·intro y hy
  rcases List.mem_append.1 hy with hy|hy
  ·exact (h.strs y hy).frn hf5
  ·rw [List.mem_singleton] at hy
   rw [hy]
   exact hx.frn hf5
theorem AsmAt.name {w w4:World}{B ba:Nat}{vl vs vn vt vb:Value}{ls:List LnV}{ss:List StV}{ns ts:List (ByteArray×Int)}{sz:Nat}{bs:List UInt8}(h:AsmAt w B ba vl vs vn vt vb ls ss ns ts sz bs) (hg:w.grownBy w4 vn.ownBlock) {gg cap:Nat}{t:ByteArray}{z:Int}(hat:vn.ownBlock=some gg∨gg=w.heap.size)
  (ho:w4.ownsRow B 40 2 (.slice (some ⟨gg,0,none⟩) (ns.length+1) cap) (ns.length+1) (nameCells ns++[.string t,.int .i64 z])) :
  AsmAt (w4.setCell ⟨ba,2,none⟩ (.slice (some ⟨gg,0,none⟩) (ns.length+1) cap)) B ba vl vs (.slice (some ⟨gg,0,none⟩) (ns.length+1) cap) vt vb ls ss (ns++[(t,z)]) ts sz bs ∧
  FrN B [] w (w4.setCell ⟨ba,2,none⟩ (.slice (some ⟨gg,0,none⟩) (ns.length+1) cap)):=by
 have hne:vn.ownBlock≠some ba:=own_row_ne h.nown h.row (by decide)
 have hr4:RowT w4 83 ba [vl,vs,vn,vt,.int .i64 (sz:Nat),vb]:=RowT.grown' h.row hg (Ne.symm hne)
 have kl:=own_keep h.lown h.nown hg (by decide)
 have ks:=own_keep h.sown h.nown hg (by decide)
 have kt:=own_keepN h.town hg (fun g h1 h2=>h.apart g h2 h1)
 have kb:=own_keep h.bown h.nown hg (by decide)
 have hf4:FrN B [] w w4:=(FrN.refl B w).grown hg (own_may h.nown (fun _ _=>Or.inl rfl))
 have hf5:=hf4.setCell (p:=⟨ba,2,none⟩) (hr4.may h.at_ (Or.inl rfl)) (.slice (some ⟨gg,0,none⟩) (ns.length+1) cap)
 refine ⟨⟨hr4.set 2 _,h.at_,ownsRow_setCell_other kl (a:=⟨ba,2,none⟩) (own_row_ne kl hr4 (by decide)) _,ownsRow_setCell_other ks (a:=⟨ba,2,none⟩) (own_row_ne ks hr4 (by decide)) _,?_,ownsRow_setCell_other kt (a:=⟨ba,2,none⟩) (own_row_ne kt hr4 (by decide)) _,ownsRow_setCell_other kb (a:=⟨ba,2,none⟩) (own_row_ne kb hr4 (by decide)) _,?_,fun x hx=>(h.strs x hx).frn hf5⟩,hf5⟩
 ·rw [nameCells_append,List.length_append]
  exact ownsRow_setCell_other ho (a:=⟨ba,2,none⟩) (own_row_ne ho hr4 (by decide)) _
 ·intro g h1 h2
  simp only [Value.ownBlock,Option.some.injEq] at h1
  subst h1
  rcases hat with h3|h3
  ·exact h.apart _ h3 h2
  ·have:=own_ltA h.town h2
   omega
theorem AsmAt.set {w w4:World}{B ba:Nat}{vl vs vn vt vb:Value}{ls:List LnV}{ss:List StV}{ns ts:List (ByteArray×Int)}{sz:Nat}{bs:List UInt8}(h:AsmAt w B ba vl vs vn vt vb ls ss ns ts sz bs) (hg:w.grownBy w4 vt.ownBlock) {gg cap:Nat}{t:ByteArray}{z:Int}(hat:vt.ownBlock=some gg∨gg=w.heap.size)
  (ho:w4.ownsRow B 40 2 (.slice (some ⟨gg,0,none⟩) (ts.length+1) cap) (ts.length+1) (nameCells ts++[.string t,.int .i64 z])) :
  AsmAt (w4.setCell ⟨ba,3,none⟩ (.slice (some ⟨gg,0,none⟩) (ts.length+1) cap)) B ba vl vs vn (.slice (some ⟨gg,0,none⟩) (ts.length+1) cap) vb ls ss ns (ts++[(t,z)]) sz bs ∧
  FrN B [] w (w4.setCell ⟨ba,3,none⟩ (.slice (some ⟨gg,0,none⟩) (ts.length+1) cap)):=by
 have hne:vt.ownBlock≠some ba:=own_row_ne h.town h.row (by decide)
 have hr4:RowT w4 83 ba [vl,vs,vn,vt,.int .i64 (sz:Nat),vb]:=RowT.grown' h.row hg (Ne.symm hne)
 have kl:=own_keep h.lown h.town hg (by decide)
 have ks:=own_keep h.sown h.town hg (by decide)
 have kn:=own_keepN h.nown hg h.apart
 have kb:=own_keep h.bown h.town hg (by decide)
 have hf4:FrN B [] w w4:=(FrN.refl B w).grown hg (own_may h.town (fun _ _=>Or.inl rfl))
 have hf5:=hf4.setCell (p:=⟨ba,3,none⟩) (hr4.may h.at_ (Or.inl rfl)) (.slice (some ⟨gg,0,none⟩) (ts.length+1) cap)
 refine ⟨⟨hr4.set 3 _,h.at_,ownsRow_setCell_other kl (a:=⟨ba,3,none⟩) (own_row_ne kl hr4 (by decide)) _,ownsRow_setCell_other ks (a:=⟨ba,3,none⟩) (own_row_ne ks hr4 (by decide)) _,ownsRow_setCell_other kn (a:=⟨ba,3,none⟩) (own_row_ne kn hr4 (by decide)) _,?_,ownsRow_setCell_other kb (a:=⟨ba,3,none⟩) (own_row_ne kb hr4 (by decide)) _,?_,fun x hx=>(h.strs x hx).frn hf5⟩,hf5⟩
 ·rw [nameCells_append,List.length_append]
  exact ownsRow_setCell_other ho (a:=⟨ba,3,none⟩) (own_row_ne ho hr4 (by decide)) _
 ·intro g h1 h2
  simp only [Value.ownBlock,Option.some.injEq] at h2
  subst h2
  rcases hat with h3|h3
  ·exact h.apart _ h1 h3
  ·have:=own_ltA h.nown h1
   omega
theorem AsmAt.bytes {w w4:World}{B ba:Nat}{vl vs vn vt vb:Value}{ls:List LnV}{ss:List StV}{ns ts:List (ByteArray×Int)}{sz:Nat}{bs:List UInt8}(h:AsmAt w B ba vl vs vn vt vb ls ss ns ts sz bs) (hg:w.grownBy w4 vb.ownBlock) {nv:Value}{more:List UInt8}
  (ho:w4.ownsRow B 5 1 nv (bs.length+more.length) (byCells bs++byCells more)) :
  AsmAt (w4.setCell ⟨ba,5,none⟩ nv) B ba vl vs vn vt nv ls ss ns ts sz (bs++more) ∧
  FrB B [] w (w4.setCell ⟨ba,5,none⟩ nv):=by
 have hne:vb.ownBlock≠some ba:=own_row_ne h.bown h.row (by decide)
 have hr4:RowT w4 83 ba [vl,vs,vn,vt,.int .i64 (sz:Nat),vb]:=RowT.grown' h.row hg (Ne.symm hne)
 have kl:=own_keep h.lown h.bown hg (by decide)
 have ks:=own_keep h.sown h.bown hg (by decide)
 have kn:=own_keep h.nown h.bown hg (by decide)
 have kt:=own_keep h.town h.bown hg (by decide)
 have hf4:FrB B [] w w4:=(FrB.refl B w).grown hg (own_may h.bown (fun _ _=>Or.inl rfl))
 have hf5:=hf4.setCell (p:=⟨ba,5,none⟩) (hr4.may h.at_ (Or.inl rfl)) nv
 refine ⟨⟨hr4.set 5 _,h.at_,ownsRow_setCell_other kl (a:=⟨ba,5,none⟩) (own_row_ne kl hr4 (by decide)) _,ownsRow_setCell_other ks (a:=⟨ba,5,none⟩) (own_row_ne ks hr4 (by decide)) _,ownsRow_setCell_other kn (a:=⟨ba,5,none⟩) (own_row_ne kn hr4 (by decide)) _,ownsRow_setCell_other kt (a:=⟨ba,5,none⟩) (own_row_ne kt hr4 (by decide)) _,?_,h.apart,fun x hx=>(h.strs x hx).frb hf5⟩,hf5⟩
 ·rw [byCells_append,List.length_append]
  exact ownsRow_setCell_other ho (a:=⟨ba,5,none⟩) (own_row_ne ho hr4 (by decide)) _
section
theorem own_setA {w:World}{base e size g n cap:Nat}{xs:List Value}(h:w.ownsRow base e size (.slice (some ⟨g,0,none⟩) n cap) n xs) (j:Nat) (u:Value):(w.setCell ⟨g,j,none⟩ u).ownsRow base e size (.slice (some ⟨g,0,none⟩) n cap) n (xs.set j u):=by
 rcases h with ⟨hl,⟨h0,_⟩|⟨g',cap',cur,hv,hb,hh,hn,hc,hs,ht⟩⟩
 ·cases h0
 ·cases hv
  refine ⟨by simp [hl],Or.inr ⟨g,cap,cur.setIfInBounds j u,rfl,hb,?_,hn,hc,by simp [hs],?_⟩⟩
  ·exact heap_setCell_same w g j cur e u hh
  ·rw [←ht]
   simp [List.take_set]
theorem own_free {w:World}{B e size g m n cap o:Nat}{xs:List Value}(h:w.ownsRow B e size (.slice (some ⟨g,0,none⟩) m cap) n xs):w.frozen? ⟨g,o,none⟩=false:=by
 rcases h.2 with ⟨h0,_⟩|⟨g',cap',cur,hv,_,hh,_⟩
 ·cases h0
 ·injection hv with h1 _ _
  injection h1 with h1
  injection h1 with h1 _
  subst h1
  simp [World.frozen?,hh]
theorem set_next (w:World) (g a b:Nat) (u:Value) (h:a≠b):(w.setCell ⟨g,a,none⟩ u).cell? ⟨g,b,none⟩=w.cell? ⟨g,b,none⟩:=by
 apply World.cell?_setCell_other
 intro e
 injection e with _ e
 exact h e
theorem may_set {B e g:Nat}{w:World}{size n cap:Nat}{xs:List Value}(h:w.ownsRow B e size (.slice (some ⟨g,0,none⟩) n cap) n xs) (he:aT e=true):MayT aT B [] w g:=own_may h (fun _ _=>Or.inl he) g rfl
theorem RowT.setO {w:World}{t g b j:Nat}{xs:List Value}{u:Value}(h:RowT w t g xs) (hb:g≠b):RowT (w.setCell ⟨b,j,none⟩ u) t g xs:=h.other b j hb u
section
variable {w:World} {B ba:Nat} {vl vs vn vt vb:Value} {ls:List LnV} {ss:List StV} {ns ts:List (ByteArray×Int)} {sz:Nat} {bs:List UInt8}
theorem AsmAt.nameV {g cap:Nat}(h:AsmAt w B ba vl vs (.slice (some ⟨g,0,none⟩) ns.length cap) vt vb ls ss ns ts sz bs) (k:Nat) (hk:k<ns.length) (z:Int) :
  AsmAt (w.setCell ⟨g,k*2+1,none⟩ (.int .i64 z)) B ba vl vs (.slice (some ⟨g,0,none⟩) ns.length cap) vt vb ls ss (ns.set k (ns[k].1,z)) ts sz bs∧FrA B [] w (w.setCell ⟨g,k*2+1,none⟩ (.int .i64 z)):=by
 have hf:=(FrA.refl B w).setCell (p:=⟨g,k*2+1,none⟩) (may_set h.nown rfl) (.int .i64 z)
 have hba:ba≠g:=fun e=>own_row_ne h.nown h.row (by decide) (by rw [e];rfl)
 refine ⟨⟨h.row.setO hba,h.at_,ownsRow_setCell_other h.lown (a:=⟨g,k*2+1,none⟩) (own_own_ne h.lown h.nown (by decide) rfl) _,ownsRow_setCell_other h.sown (a:=⟨g,k*2+1,none⟩) (own_own_ne h.sown h.nown (by decide) rfl) _,?_,ownsRow_setCell_other h.town (a:=⟨g,k*2+1,none⟩) (h.apart g rfl) _,ownsRow_setCell_other h.bown (a:=⟨g,k*2+1,none⟩) (own_own_ne h.bown h.nown (by decide) rfl) _,h.apart,fun x hx=>(h.strs x hx).fra hf⟩,hf⟩
 have:=own_setA h.nown (k*2+1) (.int .i64 z)
 rw [nameCells_set ns k hk z] at this
 rw [List.length_set]
 exact this
theorem AsmAt.lineV {g cap:Nat}(h:AsmAt w B ba (.slice (some ⟨g,0,none⟩) ls.length cap) vs vn vt vb ls ss ns ts sz bs) (k:Nat) (hk:k<ls.length) (a z:Nat) :
  AsmAt ((w.setCell ⟨g,k*4+2,none⟩ (.int .i64 (a:Nat))).setCell ⟨g,k*4+3,none⟩ (.int .i64 (z:Nat))) B ba (.slice (some ⟨g,0,none⟩) ls.length cap) vs vn vt vb (ls.set k ⟨ls[k].t,ls[k].frm,a,z⟩) ss ns ts sz bs∧FrA B [] w ((w.setCell ⟨g,k*4+2,none⟩ (.int .i64 (a:Nat))).setCell ⟨g,k*4+3,none⟩ (.int .i64 (z:Nat))):=by
 have h1:=own_setA h.lown (k*4+2) (.int .i64 (a:Nat))
 have h2:=own_setA h1 (k*4+3) (.int .i64 (z:Nat))
 have hf1:=(FrA.refl B w).setCell (p:=⟨g,k*4+2,none⟩) (may_set h.lown rfl) (.int .i64 (a:Nat))
 have hf:=hf1.setCell (p:=⟨g,k*4+3,none⟩) (may_set h1 rfl) (.int .i64 (z:Nat))
 have hba:ba≠g:=fun e=>own_row_ne h.lown h.row (by decide) (by rw [e];rfl)
 refine ⟨⟨(h.row.setO hba).setO hba,h.at_,?_,?_,?_,?_,?_,h.apart,fun x hx=>(h.strs x hx).fra hf⟩,hf⟩
 ·rw [lnCells_set ls k hk a z] at h2
  rw [List.length_set]
  exact h2
 ·exact ownsRow_setCell_other (ownsRow_setCell_other h.sown (a:=⟨g,k*4+2,none⟩) (own_own_ne h.sown h.lown (by decide) rfl) _) (a:=⟨g,k*4+3,none⟩) (own_own_ne h.sown h.lown (by decide) rfl) _
 ·exact ownsRow_setCell_other (ownsRow_setCell_other h.nown (a:=⟨g,k*4+2,none⟩) (own_own_ne h.nown h.lown (by decide) rfl) _) (a:=⟨g,k*4+3,none⟩) (own_own_ne h.nown h.lown (by decide) rfl) _
 ·exact ownsRow_setCell_other (ownsRow_setCell_other h.town (a:=⟨g,k*4+2,none⟩) (own_own_ne h.town h.lown (by decide) rfl) _) (a:=⟨g,k*4+3,none⟩) (own_own_ne h.town h.lown (by decide) rfl) _
 ·exact ownsRow_setCell_other (ownsRow_setCell_other h.bown (a:=⟨g,k*4+2,none⟩) (own_own_ne h.bown h.lown (by decide) rfl) _) (a:=⟨g,k*4+3,none⟩) (own_own_ne h.bown h.lown (by decide) rfl) _
theorem AsmAt.sized (h:AsmAt w B ba vl vs vn vt vb ls ss ns ts sz bs) (z:Nat) :
  AsmAt (w.setCell ⟨ba,4,none⟩ (.int .i64 (z:Nat))) B ba vl vs vn vt vb ls ss ns ts z bs∧FrA B [] w (w.setCell ⟨ba,4,none⟩ (.int .i64 (z:Nat))):=by
 have hf:=(FrA.refl B w).setCell (p:=⟨ba,4,none⟩) (h.row.may h.at_ (Or.inl rfl)) (.int .i64 (z:Nat))
 exact ⟨⟨h.row.set 4 _,h.at_,ownsRow_setCell_other h.lown (a:=⟨ba,4,none⟩) (own_row_ne h.lown h.row (by decide)) _,ownsRow_setCell_other h.sown (a:=⟨ba,4,none⟩) (own_row_ne h.sown h.row (by decide)) _,ownsRow_setCell_other h.nown (a:=⟨ba,4,none⟩) (own_row_ne h.nown h.row (by decide)) _,ownsRow_setCell_other h.town (a:=⟨ba,4,none⟩) (own_row_ne h.town h.row (by decide)) _,ownsRow_setCell_other h.bown (a:=⟨ba,4,none⟩) (own_row_ne h.bown h.row (by decide)) _,h.apart,fun x hx=>(h.strs x hx).fra hf⟩,hf⟩
theorem AsmAt.longV {g cap:Nat}(h:AsmAt w B ba vl (.slice (some ⟨g,0,none⟩) ss.length cap) vn vt vb ls ss ns ts sz bs) (k:Nat) (hk:k<ss.length) :
  AsmAt (w.setCell ⟨g,k*11+10,none⟩ (.bool true)) B ba vl (.slice (some ⟨g,0,none⟩) ss.length cap) vn vt vb ls (ss.set k { ss[k] with long:=true }) ns ts sz bs∧FrA B [] w (w.setCell ⟨g,k*11+10,none⟩ (.bool true)):=by
 have hf:=(FrA.refl B w).setCell (p:=⟨g,k*11+10,none⟩) (may_set h.sown rfl) (.bool true)
 have hba:ba≠g:=fun e=>own_row_ne h.sown h.row (by decide) (by rw [e];rfl)
 refine ⟨⟨h.row.setO hba,h.at_,ownsRow_setCell_other h.lown (a:=⟨g,k*11+10,none⟩) (own_own_ne h.lown h.sown (by decide) rfl) _,?_,ownsRow_setCell_other h.nown (a:=⟨g,k*11+10,none⟩) (own_own_ne h.nown h.sown (by decide) rfl) _,ownsRow_setCell_other h.town (a:=⟨g,k*11+10,none⟩) (own_own_ne h.town h.sown (by decide) rfl) _,ownsRow_setCell_other h.bown (a:=⟨g,k*11+10,none⟩) (own_own_ne h.bown h.sown (by decide) rfl) _,h.apart,fun x hx=>?_⟩,hf⟩
 ·have:=own_setA h.sown (k*11+10) (.bool true)
  rw [stCells_set ss k hk true] at this
  rw [List.length_set]
  exact this
 ·rcases List.mem_or_eq_of_mem_set hx with hx|hx
  ·exact (h.strs x hx).fra hf
  ·rw [hx]
   exact (h.strs ss[k] (List.getElem_mem hk)).fra hf
end
end
structure SpV where
 lb:ByteArray
 op:ByteArray
 v:Value
 os:List ByteArray
 frm:Nat
 at_:Nat
 fix:Nat
 long:Bool
def SpV.p (x:SpV):StpP:=⟨⟨L x.lb,L x.op,x.os.map L⟩,x.frm,x.at_,x.fix,x.long⟩
def spOne (x:SpV):List Value:=[.string x.lb,.string x.op,x.v,.int .i64 (x.frm:Nat),.int .i64 (x.at_:Nat),.int .i64 (x.fix:Nat),.bool x.long]
def spCells:List SpV→List Value
 |[]=>[]
 |x::r=>spOne x++spCells r
theorem spCells_append (a b:List SpV):spCells (a++b)=spCells a++spCells b:=by
 induction a with
 |nil=>rfl
 |cons x r ih=>simp [spCells,ih]
theorem spCells_one (x:SpV):spCells [x]=spOne x:=by simp [spCells]
theorem spCells_at (l:List SpV) (i k:Nat) (h:i<l.length) (hk:k<7):(spCells l)[i*7+k]?=(spOne l[i])[k]?:=by
 induction l generalizing i with
 |nil=>simp at h
 |cons x r ih =>
  cases i with
  |zero =>
   simp only [spCells,Nat.zero_mul,Nat.zero_add,List.getElem_cons_zero]
   rw [List.getElem?_append_left (by simp [spOne];omega)]
  |succ i =>
   have:=ih i (by simpa using h)
   simp only [spCells,List.getElem_cons_succ]
   rw [List.getElem?_append_right (by simp [spOne];omega)]
   rw [show (i+1)*7+k-(spOne x).length=i*7+k from by simp [spOne];omega]
   exact this
theorem spCells_long (l:List SpV) (i:Nat) (h:i<l.length) (b:Bool):(spCells l).set (i*7+6) (.bool b)=spCells (l.set i { l[i] with long:=b }):=by
 induction l generalizing i with
 |nil=>simp at h
 |cons x r ih =>
  cases i with
  |zero=>simp [spCells,spOne]
  |succ i =>
   have:=ih i (by simpa using h)
   simp only [spCells,List.set_cons_succ,List.getElem_cons_succ]
   rw [List.set_append_right _ _ (by simp [spOne];omega),show (i+1)*7+6-(spOne x).length=i*7+6 from by simp [spOne];omega,this]
theorem spCells_put (l:List SpV) (i:Nat) (h:i<l.length) (a:Nat):(spCells l).set (i*7+4) (.int .i64 (a:Nat))=spCells (l.set i { l[i] with at_:=a }):=by
 induction l generalizing i with
 |nil=>simp at h
 |cons x r ih =>
  cases i with
  |zero=>simp [spCells,spOne]
  |succ i =>
   have:=ih i (by simpa using h)
   simp only [spCells,List.set_cons_succ,List.getElem_cons_succ]
   rw [List.set_append_right _ _ (by simp [spOne];omega),show (i+1)*7+4-(spOne x).length=i*7+4 from by simp [spOne];omega,this]
structure SpOk (x:SpV):Prop where
 lb:x.lb.size≤1000
 op:x.op.size≤1000
 ops:∀i (h:i<x.os.length),x.os[i].size≤1000
 few:x.os.length≤200
 at_:x.at_≤1000000
 fix:x.fix≤1000
 set:L x.op=opSet→x.os.length=2
 al:L x.op=oAlign→0<x.fix
structure StepsAt (w:World) (B:Nat) (v:Value) (xs:List SpV):Prop where
 own:w.ownsRow B 138 7 v xs.length (spCells xs)
 strs:∀x∈xs,StrV w 0 x.v x.os
theorem StepsAt.below {w w':World}{B:Nat}{v:Value}{xs:List SpV}(h:StepsAt w B v xs) (hb:Below w.heap.size w w'):StepsAt w' B v xs:=⟨ownsRow_belowP h.own hb,fun x hx=>(h.strs x hx).below hb⟩
theorem StepsAt.at_ {w:World}{B g i:Nat}{n cap:Nat}{xs:List SpV}(h:StepsAt w B (.slice (some ⟨g,0,none⟩) n cap) xs) (hi:i<xs.length) (k:Nat) (v:Value) (hk:(spOne xs[i])[k]?=some v):w.cell? ⟨g,i*7+k,none⟩=some v:=by
 have hk7:k<7:=(List.getElem?_eq_some_iff.1 hk).1
 have hn:n=xs.length:=by
  rcases h.own.2 with ⟨h1,_⟩|⟨g',cap',cur,h1,_⟩
  ·cases h1
  ·injection h1
 subst hn
 rw [h.own.cellAt (i*7+k) (by rw [show xs.length*7=(xs.length-1)*7+7 by omega];omega),spCells_at xs i k hi hk7,hk]
theorem StepsAt.notStr {w:World}{B g n cap:Nat}{xs:List SpV}(h:StepsAt w B (.slice (some ⟨g,0,none⟩) n cap) xs):∀k cur,w.heap[k]?=some (.cells cur 9 (0,0))→k≠g:=by
 rcases h.own.2 with ⟨h1,_⟩|⟨g',cap',cur',h1,_,hh,_⟩
 ·cases h1
 ·injection h1 with h1
  injection h1 with h1
  injection h1 with h1 _
  subst h1
  rintro k cur hk rfl
  rw [hh] at hk
  injection hk with hk
  injection hk with _ hk
  exact absurd hk (by decide)
theorem StepsAt.long {w:World}{B g cap:Nat}{xs:List SpV}(h:StepsAt w B (.slice (some ⟨g,0,none⟩) xs.length cap) xs) (i:Nat) (hi:i<xs.length) (b:Bool):StepsAt (w.setCell ⟨g,i*7+6,none⟩ (.bool b)) B (.slice (some ⟨g,0,none⟩) xs.length cap) (xs.set i { xs[i] with long:=b }):=by
 refine ⟨?_,fun x hx=>?_⟩
 ·have:=own_setA h.own (i*7+6) (.bool b)
  rw [spCells_long xs i hi b] at this
  rw [List.length_set]
  exact this
 ·rcases List.mem_or_eq_of_mem_set hx with hx|hx
  ·exact (h.strs x hx).set g _ _ h.notStr
  ·rw [hx]
   exact (h.strs xs[i] (List.getElem_mem hi)).set g _ _ h.notStr
theorem StepsAt.put {w:World}{B g cap:Nat}{xs:List SpV}(h:StepsAt w B (.slice (some ⟨g,0,none⟩) xs.length cap) xs) (i:Nat) (hi:i<xs.length) (a:Nat):StepsAt (w.setCell ⟨g,i*7+4,none⟩ (.int .i64 (a:Nat))) B (.slice (some ⟨g,0,none⟩) xs.length cap) (xs.set i { xs[i] with at_:=a }):=by
 refine ⟨?_,fun x hx=>?_⟩
 ·have:=own_setA h.own (i*7+4) (.int .i64 (a:Nat))
  rw [spCells_put xs i hi a] at this
  rw [List.length_set]
  exact this
 ·rcases List.mem_or_eq_of_mem_set hx with hx|hx
  ·exact (h.strs x hx).set g _ _ h.notStr
  ·rw [hx]
   exact (h.strs xs[i] (List.getElem_mem hi)).set g _ _ h.notStr
def spV (x:SpV):Value:=.agg #[.string x.lb,.string x.op,x.v,.int .i64 (x.frm:Nat),.int .i64 (x.at_:Nat),.int .i64 (x.fix:Nat),.bool x.long]
theorem emp_is {s:ByteArray}(h:L s=[]):s.toList.isEmpty=true:=by
 rw [ByteArray.toList_eq];unfold L at h;rw [h];rfl
theorem emp_not {s:ByteArray}(h:¬L s=[]):s.toList.isEmpty=false:=by
 rw [ByteArray.toList_eq];unfold L at h
 cases hd:s.data.toList with
 |nil=>exact absurd hd h
 |cons a b=>rfl
theorem op_tests {s:ByteArray}{c:List UInt8}(i:Nat) (h:L s=c) (hb:[c.isEmpty,c==[46,115,101,116],c==[110,111,112],c==[114,101,116],c==[109,111,118],c==[97,100,100],c==[115,117,98],c==[108,111,97,100],c==[99,97,108,108],c==[106,109,112],c==[106,122],c==[46,98,121,116,101],c==[46,119,111,114,100],c==[46,115,112,97,99,101],c==[46,97,108,105,103,110]]=(List.range 15).map (·==i)):s.toList.isEmpty=(0==i)∧(s.toList==[46,115,101,116])=(1==i)∧(s.toList==[110,111,112])=(2==i)∧(s.toList==[114,101,116])=(3==i)∧(s.toList==[109,111,118])=(4==i)∧(s.toList==[97,100,100])=(5==i)∧(s.toList==[115,117,98])=(6==i)∧(s.toList==[108,111,97,100])=(7==i)∧(s.toList==[99,97,108,108])=(8==i)∧(s.toList==[106,109,112])=(9==i)∧(s.toList==[106,122])=(10==i)∧(s.toList==[46,98,121,116,101])=(11==i)∧(s.toList==[46,119,111,114,100])=(12==i)∧(s.toList==[46,115,112,97,99,101])=(13==i)∧(s.toList==[46,97,108,105,103,110])=(14==i):=by
 have e:s.toList=c:=by rw [ByteArray.toList_eq];exact h
 simp only [List.range,List.range.loop,List.map_cons,List.map_nil,List.cons.injEq,and_true] at hb
 rw [e]
 exact hb
set_option maxHeartbeats 1600000 in
theorem counts_any (s:ByteArray) (w:World):Calls Tryz.prog 95 #[.string s] w fun e w'=>e=.returned (.tuple #[.int .i64 (countsR (L s)).1,.int .i64 ((countsR (L s)).2:Nat)])∧w'=w:=by
 rcases op_all (L s) with e|e|e|e|e|e|e|e|e|e|e|e|e|e|e|⟨e0,e1,e2,e3,e4,e5,e6,e7,e8,e9,e10,e11,e12,e13,e14⟩
 ·have HR:=hid (show countsR (L s)=(0,0) by rw [e];rfl)
  obtain ⟨k0,k1,k2,k3,k4,k5,k6,k7,k8,k9,k10,k11,k12,k13,k14⟩:=op_tests 0 e (by decide)
  simp only [Nat.reduceBEq] at k0 k1 k2 k3 k4 k5 k6 k7 k8 k9 k10 k11 k12 k13 k14
  clear e
  go_enter Tryz.func95,Tryz.ntmps95
  go_wp2
  go_ret2
  rw [HR.out]
  exact ⟨rfl,rfl⟩
 ·have HR:=hid (show countsR (L s)=(2,0) by rw [e];rfl)
  obtain ⟨k0,k1,k2,k3,k4,k5,k6,k7,k8,k9,k10,k11,k12,k13,k14⟩:=op_tests 1 e (by decide)
  simp only [Nat.reduceBEq] at k0 k1 k2 k3 k4 k5 k6 k7 k8 k9 k10 k11 k12 k13 k14
  clear e
  go_enter Tryz.func95,Tryz.ntmps95
  go_wp2
  go_ret2
  rw [HR.out]
  exact ⟨rfl,rfl⟩
 ·have HR:=hid (show countsR (L s)=(0,0) by rw [e];rfl)
  obtain ⟨k0,k1,k2,k3,k4,k5,k6,k7,k8,k9,k10,k11,k12,k13,k14⟩:=op_tests 2 e (by decide)
  simp only [Nat.reduceBEq] at k0 k1 k2 k3 k4 k5 k6 k7 k8 k9 k10 k11 k12 k13 k14
  clear e
  go_enter Tryz.func95,Tryz.ntmps95
  go_wp2
  go_ret2
  rw [HR.out]
  exact ⟨rfl,rfl⟩
 ·have HR:=hid (show countsR (L s)=(0,0) by rw [e];rfl)
  obtain ⟨k0,k1,k2,k3,k4,k5,k6,k7,k8,k9,k10,k11,k12,k13,k14⟩:=op_tests 3 e (by decide)
  simp only [Nat.reduceBEq] at k0 k1 k2 k3 k4 k5 k6 k7 k8 k9 k10 k11 k12 k13 k14
  clear e
  go_enter Tryz.func95,Tryz.ntmps95
  go_wp2
  go_ret2
  rw [HR.out]
  exact ⟨rfl,rfl⟩
 ·have HR:=hid (show countsR (L s)=(2,2) by rw [e];rfl)
  obtain ⟨k0,k1,k2,k3,k4,k5,k6,k7,k8,k9,k10,k11,k12,k13,k14⟩:=op_tests 4 e (by decide)
  simp only [Nat.reduceBEq] at k0 k1 k2 k3 k4 k5 k6 k7 k8 k9 k10 k11 k12 k13 k14
  clear e
  go_enter Tryz.func95,Tryz.ntmps95
  go_wp2
  go_ret2
  rw [HR.out]
  exact ⟨rfl,rfl⟩
 ·have HR:=hid (show countsR (L s)=(2,2) by rw [e];rfl)
  obtain ⟨k0,k1,k2,k3,k4,k5,k6,k7,k8,k9,k10,k11,k12,k13,k14⟩:=op_tests 5 e (by decide)
  simp only [Nat.reduceBEq] at k0 k1 k2 k3 k4 k5 k6 k7 k8 k9 k10 k11 k12 k13 k14
  clear e
  go_enter Tryz.func95,Tryz.ntmps95
  go_wp2
  go_ret2
  rw [HR.out]
  exact ⟨rfl,rfl⟩
 ·have HR:=hid (show countsR (L s)=(2,2) by rw [e];rfl)
  obtain ⟨k0,k1,k2,k3,k4,k5,k6,k7,k8,k9,k10,k11,k12,k13,k14⟩:=op_tests 6 e (by decide)
  simp only [Nat.reduceBEq] at k0 k1 k2 k3 k4 k5 k6 k7 k8 k9 k10 k11 k12 k13 k14
  clear e
  go_enter Tryz.func95,Tryz.ntmps95
  go_wp2
  go_ret2
  rw [HR.out]
  exact ⟨rfl,rfl⟩
 ·have HR:=hid (show countsR (L s)=(2,1) by rw [e];rfl)
  obtain ⟨k0,k1,k2,k3,k4,k5,k6,k7,k8,k9,k10,k11,k12,k13,k14⟩:=op_tests 7 e (by decide)
  simp only [Nat.reduceBEq] at k0 k1 k2 k3 k4 k5 k6 k7 k8 k9 k10 k11 k12 k13 k14
  clear e
  go_enter Tryz.func95,Tryz.ntmps95
  go_wp2
  go_ret2
  rw [HR.out]
  exact ⟨rfl,rfl⟩
 ·have HR:=hid (show countsR (L s)=(1,0) by rw [e];rfl)
  obtain ⟨k0,k1,k2,k3,k4,k5,k6,k7,k8,k9,k10,k11,k12,k13,k14⟩:=op_tests 8 e (by decide)
  simp only [Nat.reduceBEq] at k0 k1 k2 k3 k4 k5 k6 k7 k8 k9 k10 k11 k12 k13 k14
  clear e
  go_enter Tryz.func95,Tryz.ntmps95
  go_wp2
  go_ret2
  rw [HR.out]
  exact ⟨rfl,rfl⟩
 ·have HR:=hid (show countsR (L s)=(1,0) by rw [e];rfl)
  obtain ⟨k0,k1,k2,k3,k4,k5,k6,k7,k8,k9,k10,k11,k12,k13,k14⟩:=op_tests 9 e (by decide)
  simp only [Nat.reduceBEq] at k0 k1 k2 k3 k4 k5 k6 k7 k8 k9 k10 k11 k12 k13 k14
  clear e
  go_enter Tryz.func95,Tryz.ntmps95
  go_wp2
  go_ret2
  rw [HR.out]
  exact ⟨rfl,rfl⟩
 ·have HR:=hid (show countsR (L s)=(2,1) by rw [e];rfl)
  obtain ⟨k0,k1,k2,k3,k4,k5,k6,k7,k8,k9,k10,k11,k12,k13,k14⟩:=op_tests 10 e (by decide)
  simp only [Nat.reduceBEq] at k0 k1 k2 k3 k4 k5 k6 k7 k8 k9 k10 k11 k12 k13 k14
  clear e
  go_enter Tryz.func95,Tryz.ntmps95
  go_wp2
  go_ret2
  rw [HR.out]
  exact ⟨rfl,rfl⟩
 ·have HR:=hid (show countsR (L s)=(-1,0) by rw [e];rfl)
  obtain ⟨k0,k1,k2,k3,k4,k5,k6,k7,k8,k9,k10,k11,k12,k13,k14⟩:=op_tests 11 e (by decide)
  simp only [Nat.reduceBEq] at k0 k1 k2 k3 k4 k5 k6 k7 k8 k9 k10 k11 k12 k13 k14
  clear e
  go_enter Tryz.func95,Tryz.ntmps95
  go_wp2
  go_ret2
  rw [HR.out]
  exact ⟨rfl,rfl⟩
 ·have HR:=hid (show countsR (L s)=(-1,0) by rw [e];rfl)
  obtain ⟨k0,k1,k2,k3,k4,k5,k6,k7,k8,k9,k10,k11,k12,k13,k14⟩:=op_tests 12 e (by decide)
  simp only [Nat.reduceBEq] at k0 k1 k2 k3 k4 k5 k6 k7 k8 k9 k10 k11 k12 k13 k14
  clear e
  go_enter Tryz.func95,Tryz.ntmps95
  go_wp2
  go_ret2
  rw [HR.out]
  exact ⟨rfl,rfl⟩
 ·have HR:=hid (show countsR (L s)=(1,0) by rw [e];rfl)
  obtain ⟨k0,k1,k2,k3,k4,k5,k6,k7,k8,k9,k10,k11,k12,k13,k14⟩:=op_tests 13 e (by decide)
  simp only [Nat.reduceBEq] at k0 k1 k2 k3 k4 k5 k6 k7 k8 k9 k10 k11 k12 k13 k14
  clear e
  go_enter Tryz.func95,Tryz.ntmps95
  go_wp2
  go_ret2
  rw [HR.out]
  exact ⟨rfl,rfl⟩
 ·have HR:=hid (show countsR (L s)=(1,0) by rw [e];rfl)
  obtain ⟨k0,k1,k2,k3,k4,k5,k6,k7,k8,k9,k10,k11,k12,k13,k14⟩:=op_tests 14 e (by decide)
  simp only [Nat.reduceBEq] at k0 k1 k2 k3 k4 k5 k6 k7 k8 k9 k10 k11 k12 k13 k14
  clear e
  go_enter Tryz.func95,Tryz.ntmps95
  go_wp2
  go_ret2
  rw [HR.out]
  exact ⟨rfl,rfl⟩
 ·have HR:=hid (show countsR (L s)=(-2,0) by simp [countsR,e0,e1,e2,e3,e4,e5,e6,e7,e8,e9,e10,e11,e12,e13,e14])
  have k0:s.toList.isEmpty=false:=emp_not e0
  have k1:(s.toList==[46,115,101,116])=false:=opn_not (show ¬L s=[46,115,101,116] from e1)
  have k2:(s.toList==[110,111,112])=false:=opn_not (show ¬L s=[110,111,112] from e2)
  have k3:(s.toList==[114,101,116])=false:=opn_not (show ¬L s=[114,101,116] from e3)
  have k4:(s.toList==[109,111,118])=false:=opn_not (show ¬L s=[109,111,118] from e4)
  have k5:(s.toList==[97,100,100])=false:=opn_not (show ¬L s=[97,100,100] from e5)
  have k6:(s.toList==[115,117,98])=false:=opn_not (show ¬L s=[115,117,98] from e6)
  have k7:(s.toList==[108,111,97,100])=false:=opn_not (show ¬L s=[108,111,97,100] from e7)
  have k8:(s.toList==[99,97,108,108])=false:=opn_not (show ¬L s=[99,97,108,108] from e8)
  have k9:(s.toList==[106,109,112])=false:=opn_not (show ¬L s=[106,109,112] from e9)
  have k10:(s.toList==[106,122])=false:=opn_not (show ¬L s=[106,122] from e10)
  have k11:(s.toList==[46,98,121,116,101])=false:=opn_not (show ¬L s=[46,98,121,116,101] from e11)
  have k12:(s.toList==[46,119,111,114,100])=false:=opn_not (show ¬L s=[46,119,111,114,100] from e12)
  have k13:(s.toList==[46,115,112,97,99,101])=false:=opn_not (show ¬L s=[46,115,112,97,99,101] from e13)
  have k14:(s.toList==[46,97,108,105,103,110])=false:=opn_not (show ¬L s=[46,97,108,105,103,110] from e14)
  clear e0 e1 e2 e3 e4 e5 e6 e7 e8 e9 e10 e11 e12 e13 e14
  go_enter Tryz.func95,Tryz.ntmps95
  go_wp2
  go_ret2
  rw [HR.out]
  exact ⟨rfl,rfl⟩
section
attribute [local go_sem ↓] Go.wp_at_zero Go.wp_at_succ
set_option maxRecDepth 100000 in
set_option maxHeartbeats 1600000 in
theorem jumpS_any (x:SpV) (w:World):Calls Tryz.prog 99 #[spV x] w fun e w'=>e=.returned (.int .i64 (jumpR x.p))∧Below w.heap.size w w':=by
 obtain ⟨lb,op,v,os,frm,at_,fix,long⟩:=x
 simp only [spV,SpV.p]
 have HB:=hid (show Below w.heap.size w (w.alloc (.cells #[.string lb,.string op,v,.int .i64 (frm:Nat),.int .i64 (at_:Nat),.int .i64 (fix:Nat),.bool long] 138)) from (Below.refl _ _).alloc (Nat.le_refl _) _)
 by_cases h1:L op=oJmp
 ·have k1:(op.toList==[106,109,112])=true:=opn_is (show L op=[106,109,112] from h1)
  have HR:=hid (show jumpR ⟨⟨L lb,L op,os.map L⟩,frm,at_,fix,long⟩=0 by unfold jumpR;rw [if_pos h1])
  clear h1
  go_enter Tryz.func99,Tryz.ntmps99
  go_wp2
  go_ret
  rw [HR.out]
  exact ⟨rfl,HB.out⟩
 have k1:(op.toList==[106,109,112])=false:=opn_not (show ¬L op=[106,109,112] from h1)
 by_cases h2:L op=oJz
 ·have k2:(op.toList==[106,122])=true:=opn_is (show L op=[106,122] from h2)
  have HR:=hid (show jumpR ⟨⟨L lb,L op,os.map L⟩,frm,at_,fix,long⟩=1 by unfold jumpR;rw [if_neg h1,if_pos h2])
  clear h1 h2
  go_enter Tryz.func99,Tryz.ntmps99
  go_wp2
  go_ret
  rw [HR.out]
  exact ⟨rfl,HB.out⟩
 ·have k2:(op.toList==[106,122])=false:=opn_not (show ¬L op=[106,122] from h2)
  have HR:=hid (show jumpR ⟨⟨L lb,L op,os.map L⟩,frm,at_,fix,long⟩=-1 by unfold jumpR;rw [if_neg h1,if_neg h2])
  clear h1 h2
  go_enter Tryz.func99,Tryz.ntmps99
  go_wp2
  go_ret
  rw [HR.out]
  exact ⟨rfl,HB.out⟩
theorem al_hit {fix at_ K j:Nat}(hf:0<fix) (hK:(fix-at_%fix)%fix=K) (hj:j≤K):(at_+j)%fix=0↔j=K:=by
 have hm:=Nat.mod_lt at_ hf
 have h1:(at_+j)%fix=(at_%fix+j)%fix:=by rw [Nat.mod_add_mod]
 rw [h1]
 by_cases h0:at_%fix=0
 ·rw [h0,Nat.sub_zero,Nat.mod_self] at hK
  rw [h0]
  have:j=0:=by omega
  subst this
  rw [Nat.zero_add,Nat.zero_mod]
  exact ⟨fun _=>hK,fun _=>rfl⟩
 ·rw [Nat.mod_eq_of_lt (show fix-at_%fix<fix by omega)] at hK
  by_cases hjK:j=K
  ·rw [hjK,←hK,show at_%fix+(fix-at_%fix)=fix by omega,Nat.mod_self]
   simp
  ·rw [Nat.mod_eq_of_lt (show at_%fix+j<fix by omega)]
   omega
set_option maxRecDepth 100000 in
set_option maxHeartbeats 3200000 in
theorem sizeS_any (x:SpV) (w:World) (oa:Option Addr) (oc:Nat) (hv:x.v=.slice oa x.os.length oc) (hx:SpOk x):Calls Tryz.prog 98 #[spV x] w fun e w'=>e=.returned (.int .i64 (sizeR x.p:Nat))∧Below w.heap.size w w':=by
 have hfew:=hx.few
 have hat:=hx.at_
 have hfx:=hx.fix
 have HAL:=hid hx.al
 obtain ⟨lb,op,v,os,frm,at_,fix,long⟩:=x
 simp only at hv hfew hat hfx HAL
 subst hv
 simp only [spV,SpV.p]
 have HB:=hid (show Below w.heap.size w (w.alloc (.cells #[.string lb,.string op,.slice oa os.length oc,.int .i64 (frm:Nat),.int .i64 (at_:Nat),.int .i64 (fix:Nat),.bool long] 138)) from (Below.refl _ _).alloc (Nat.le_refl _) _)
 clear hx
 rcases op_all (L op) with e|e|e|e|e|e|e|e|e|e|e|e|e|e|e|⟨e0,e1,e2,e3,e4,e5,e6,e7,e8,e9,e10,e11,e12,e13,e14⟩
 ·have HR:=hid (show sizeR ⟨⟨L lb,L op,os.map L⟩,frm,at_,fix,long⟩=0 by unfold sizeR;rw [e];rfl)
  obtain ⟨k0,k1,k2,k3,k4,k5,k6,k7,k8,k9,k10,k11,k12,k13,k14⟩:=op_tests 0 e (by decide)
  simp only [Nat.reduceBEq] at k0 k1 k2 k3 k4 k5 k6 k7 k8 k9 k10 k11 k12 k13 k14
  clear e
  go_enter Tryz.func98,Tryz.ntmps98
  go_wp2
  go_ret
  rw [HR.out]
  exact ⟨rfl,HB.out⟩
 ·have HR:=hid (show sizeR ⟨⟨L lb,L op,os.map L⟩,frm,at_,fix,long⟩=0 by unfold sizeR;rw [e];rfl)
  obtain ⟨k0,k1,k2,k3,k4,k5,k6,k7,k8,k9,k10,k11,k12,k13,k14⟩:=op_tests 1 e (by decide)
  simp only [Nat.reduceBEq] at k0 k1 k2 k3 k4 k5 k6 k7 k8 k9 k10 k11 k12 k13 k14
  clear e
  go_enter Tryz.func98,Tryz.ntmps98
  go_wp2
  go_ret
  rw [HR.out]
  exact ⟨rfl,HB.out⟩
 ·have HR:=hid (show sizeR ⟨⟨L lb,L op,os.map L⟩,frm,at_,fix,long⟩=1 by unfold sizeR;rw [e];rfl)
  obtain ⟨k0,k1,k2,k3,k4,k5,k6,k7,k8,k9,k10,k11,k12,k13,k14⟩:=op_tests 2 e (by decide)
  simp only [Nat.reduceBEq] at k0 k1 k2 k3 k4 k5 k6 k7 k8 k9 k10 k11 k12 k13 k14
  clear e
  go_enter Tryz.func98,Tryz.ntmps98
  go_wp2
  go_ret
  rw [HR.out]
  exact ⟨rfl,HB.out⟩
 ·have HR:=hid (show sizeR ⟨⟨L lb,L op,os.map L⟩,frm,at_,fix,long⟩=1 by unfold sizeR;rw [e];rfl)
  obtain ⟨k0,k1,k2,k3,k4,k5,k6,k7,k8,k9,k10,k11,k12,k13,k14⟩:=op_tests 3 e (by decide)
  simp only [Nat.reduceBEq] at k0 k1 k2 k3 k4 k5 k6 k7 k8 k9 k10 k11 k12 k13 k14
  clear e
  go_enter Tryz.func98,Tryz.ntmps98
  go_wp2
  go_ret
  rw [HR.out]
  exact ⟨rfl,HB.out⟩
 ·have HR:=hid (show sizeR ⟨⟨L lb,L op,os.map L⟩,frm,at_,fix,long⟩=1 by unfold sizeR;rw [e];rfl)
  obtain ⟨k0,k1,k2,k3,k4,k5,k6,k7,k8,k9,k10,k11,k12,k13,k14⟩:=op_tests 4 e (by decide)
  simp only [Nat.reduceBEq] at k0 k1 k2 k3 k4 k5 k6 k7 k8 k9 k10 k11 k12 k13 k14
  clear e
  go_enter Tryz.func98,Tryz.ntmps98
  go_wp2
  go_ret
  rw [HR.out]
  exact ⟨rfl,HB.out⟩
 ·have HR:=hid (show sizeR ⟨⟨L lb,L op,os.map L⟩,frm,at_,fix,long⟩=1 by unfold sizeR;rw [e];rfl)
  obtain ⟨k0,k1,k2,k3,k4,k5,k6,k7,k8,k9,k10,k11,k12,k13,k14⟩:=op_tests 5 e (by decide)
  simp only [Nat.reduceBEq] at k0 k1 k2 k3 k4 k5 k6 k7 k8 k9 k10 k11 k12 k13 k14
  clear e
  go_enter Tryz.func98,Tryz.ntmps98
  go_wp2
  go_ret
  rw [HR.out]
  exact ⟨rfl,HB.out⟩
 ·have HR:=hid (show sizeR ⟨⟨L lb,L op,os.map L⟩,frm,at_,fix,long⟩=1 by unfold sizeR;rw [e];rfl)
  obtain ⟨k0,k1,k2,k3,k4,k5,k6,k7,k8,k9,k10,k11,k12,k13,k14⟩:=op_tests 6 e (by decide)
  simp only [Nat.reduceBEq] at k0 k1 k2 k3 k4 k5 k6 k7 k8 k9 k10 k11 k12 k13 k14
  clear e
  go_enter Tryz.func98,Tryz.ntmps98
  go_wp2
  go_ret
  rw [HR.out]
  exact ⟨rfl,HB.out⟩
 ·have HR:=hid (show sizeR ⟨⟨L lb,L op,os.map L⟩,frm,at_,fix,long⟩=2 by unfold sizeR;rw [e];rfl)
  obtain ⟨k0,k1,k2,k3,k4,k5,k6,k7,k8,k9,k10,k11,k12,k13,k14⟩:=op_tests 7 e (by decide)
  simp only [Nat.reduceBEq] at k0 k1 k2 k3 k4 k5 k6 k7 k8 k9 k10 k11 k12 k13 k14
  clear e
  go_enter Tryz.func98,Tryz.ntmps98
  go_wp2
  go_ret
  rw [HR.out]
  exact ⟨rfl,HB.out⟩
 ·have HR:=hid (show sizeR ⟨⟨L lb,L op,os.map L⟩,frm,at_,fix,long⟩=3 by unfold sizeR;rw [e];rfl)
  obtain ⟨k0,k1,k2,k3,k4,k5,k6,k7,k8,k9,k10,k11,k12,k13,k14⟩:=op_tests 8 e (by decide)
  simp only [Nat.reduceBEq] at k0 k1 k2 k3 k4 k5 k6 k7 k8 k9 k10 k11 k12 k13 k14
  clear e
  go_enter Tryz.func98,Tryz.ntmps98
  go_wp2
  go_ret
  rw [HR.out]
  exact ⟨rfl,HB.out⟩
 ·
  obtain ⟨k0,k1,k2,k3,k4,k5,k6,k7,k8,k9,k10,k11,k12,k13,k14⟩:=op_tests 9 e (by decide)
  simp only [Nat.reduceBEq] at k0 k1 k2 k3 k4 k5 k6 k7 k8 k9 k10 k11 k12 k13 k14
  cases long
  ·have HR:=hid (show sizeR ⟨⟨L lb,L op,os.map L⟩,frm,at_,fix,false⟩=2 by unfold sizeR;rw [e];rfl)
   clear e
   go_enter Tryz.func98,Tryz.ntmps98
   go_wp2
   go_ret
   rw [HR.out]
   exact ⟨rfl,HB.out⟩
  ·have HR:=hid (show sizeR ⟨⟨L lb,L op,os.map L⟩,frm,at_,fix,true⟩=3 by unfold sizeR;rw [e];rfl)
   clear e
   go_enter Tryz.func98,Tryz.ntmps98
   go_wp2
   go_ret
   rw [HR.out]
   exact ⟨rfl,HB.out⟩
 ·
  obtain ⟨k0,k1,k2,k3,k4,k5,k6,k7,k8,k9,k10,k11,k12,k13,k14⟩:=op_tests 10 e (by decide)
  simp only [Nat.reduceBEq] at k0 k1 k2 k3 k4 k5 k6 k7 k8 k9 k10 k11 k12 k13 k14
  cases long
  ·have HR:=hid (show sizeR ⟨⟨L lb,L op,os.map L⟩,frm,at_,fix,false⟩=2 by unfold sizeR;rw [e];rfl)
   clear e
   go_enter Tryz.func98,Tryz.ntmps98
   go_wp2
   go_ret
   rw [HR.out]
   exact ⟨rfl,HB.out⟩
  ·have HR:=hid (show sizeR ⟨⟨L lb,L op,os.map L⟩,frm,at_,fix,true⟩=3 by unfold sizeR;rw [e];rfl)
   clear e
   go_enter Tryz.func98,Tryz.ntmps98
   go_wp2
   go_ret
   rw [HR.out]
   exact ⟨rfl,HB.out⟩
 ·have HR:=hid (show sizeR ⟨⟨L lb,L op,os.map L⟩,frm,at_,fix,long⟩=os.length by unfold sizeR;rw [e];exact List.length_map ..)
  obtain ⟨k0,k1,k2,k3,k4,k5,k6,k7,k8,k9,k10,k11,k12,k13,k14⟩:=op_tests 11 e (by decide)
  simp only [Nat.reduceBEq] at k0 k1 k2 k3 k4 k5 k6 k7 k8 k9 k10 k11 k12 k13 k14
  clear e
  go_enter Tryz.func98,Tryz.ntmps98
  go_wp2
  go_ret
  rw [HR.out]
  exact ⟨rfl,HB.out⟩
 ·have HR:=hid (show sizeR ⟨⟨L lb,L op,os.map L⟩,frm,at_,fix,long⟩=2*os.length by unfold sizeR;rw [e];exact congrArg (2*·) (List.length_map ..))
  obtain ⟨k0,k1,k2,k3,k4,k5,k6,k7,k8,k9,k10,k11,k12,k13,k14⟩:=op_tests 12 e (by decide)
  simp only [Nat.reduceBEq] at k0 k1 k2 k3 k4 k5 k6 k7 k8 k9 k10 k11 k12 k13 k14
  clear e
  go_enter Tryz.func98,Tryz.ntmps98
  go_wp2
  go_ret
  rw [HR.out]
  exact ⟨ret_int (by go_num),HB.out⟩
 ·have HR:=hid (show sizeR ⟨⟨L lb,L op,os.map L⟩,frm,at_,fix,long⟩=fix by unfold sizeR;rw [e];rfl)
  obtain ⟨k0,k1,k2,k3,k4,k5,k6,k7,k8,k9,k10,k11,k12,k13,k14⟩:=op_tests 13 e (by decide)
  simp only [Nat.reduceBEq] at k0 k1 k2 k3 k4 k5 k6 k7 k8 k9 k10 k11 k12 k13 k14
  clear e
  go_enter Tryz.func98,Tryz.ntmps98
  go_wp2
  go_ret
  rw [HR.out]
  exact ⟨rfl,HB.out⟩
 ·have HR:=hid (show sizeR ⟨⟨L lb,L op,os.map L⟩,frm,at_,fix,long⟩=(fix-at_%fix)%fix by unfold sizeR;rw [e];rfl)
  obtain ⟨k0,k1,k2,k3,k4,k5,k6,k7,k8,k9,k10,k11,k12,k13,k14⟩:=op_tests 14 e (by decide)
  simp only [Nat.reduceBEq] at k0 k1 k2 k3 k4 k5 k6 k7 k8 k9 k10 k11 k12 k13 k14
  have hf0:=HAL.out e
  clear e
  obtain ⟨K,hK⟩:∃K,(fix-at_%fix)%fix=K:=⟨_,rfl⟩
  rw [hK] at HR
  have hKl:K<fix:=by rw [←hK];exact Nat.mod_lt _ hf0
  have HE:=hid (show ∀j,j≤K→((at_+j)%fix=0↔j=K) from fun j hj=>al_hit hf0 hK hj)
  clear hK HAL
  go_enter Tryz.func98,Tryz.ntmps98
  go_wp2_with fail
  go_loop [3] (fun i=>∃j:Nat,j≤K∧i=.int .i64 j) (fun i=>K-(intOf i).toNat)
  case atStart=>exact ⟨0,Nat.zero_le _,rfl⟩
  case round =>
   obtain ⟨j,hj,rfl⟩:=hrel
   have he:=HE.out j hj
   by_cases hjK:j=K
   ·subst hjK
    have h0:=he.2 rfl
    have hm:(((at_:Int)+(j:Int))%(fix:Int))=0:=by exact_mod_cast h0
    have km:((((at_:Int)+(j:Int))%(fix:Int)) != 0)=false:=by rw [hm];rfl
    clear he h0 hm
    have hfi:(fix:Int)≠0:=by omega
    go_wp2_with fail
    go_ret
    rw [HR.out]
    exact ⟨rfl,HB.out⟩
   ·have h0:¬(at_+j)%fix=0:=fun q=>hjK (he.1 q)
    have hm:¬(((at_:Int)+(j:Int))%(fix:Int))=0:=by exact_mod_cast h0
    have km:((((at_:Int)+(j:Int))%(fix:Int)) != 0)=true:=by rw [bne_iff_ne];exact hm
    clear he h0 hm
    have hfi:(fix:Int)≠0:=by omega
    go_wp2_with fail
    go_round
    case rel=>exact ⟨j+1,by omega,by go_num⟩
    case measure=>simp [intOf];omega
 ·have HR:=hid (show sizeR ⟨⟨L lb,L op,os.map L⟩,frm,at_,fix,long⟩=0 by unfold sizeR;simp [e2,e3,e4,e5,e6,e7,e8,e9,e10,e11,e12,e13,e14])
  have k0:op.toList.isEmpty=false:=emp_not e0
  have k1:(op.toList==[46,115,101,116])=false:=opn_not (show ¬L op=[46,115,101,116] from e1)
  have k2:(op.toList==[110,111,112])=false:=opn_not (show ¬L op=[110,111,112] from e2)
  have k3:(op.toList==[114,101,116])=false:=opn_not (show ¬L op=[114,101,116] from e3)
  have k4:(op.toList==[109,111,118])=false:=opn_not (show ¬L op=[109,111,118] from e4)
  have k5:(op.toList==[97,100,100])=false:=opn_not (show ¬L op=[97,100,100] from e5)
  have k6:(op.toList==[115,117,98])=false:=opn_not (show ¬L op=[115,117,98] from e6)
  have k7:(op.toList==[108,111,97,100])=false:=opn_not (show ¬L op=[108,111,97,100] from e7)
  have k8:(op.toList==[99,97,108,108])=false:=opn_not (show ¬L op=[99,97,108,108] from e8)
  have k9:(op.toList==[106,109,112])=false:=opn_not (show ¬L op=[106,109,112] from e9)
  have k10:(op.toList==[106,122])=false:=opn_not (show ¬L op=[106,122] from e10)
  have k11:(op.toList==[46,98,121,116,101])=false:=opn_not (show ¬L op=[46,98,121,116,101] from e11)
  have k12:(op.toList==[46,119,111,114,100])=false:=opn_not (show ¬L op=[46,119,111,114,100] from e12)
  have k13:(op.toList==[46,115,112,97,99,101])=false:=opn_not (show ¬L op=[46,115,112,97,99,101] from e13)
  have k14:(op.toList==[46,97,108,105,103,110])=false:=opn_not (show ¬L op=[46,97,108,105,103,110] from e14)
  clear e0 e1 e2 e3 e4 e5 e6 e7 e8 e9 e10 e11 e12 e13 e14
  go_enter Tryz.func98,Tryz.ntmps98
  go_wp2
  go_ret
  rw [HR.out]
  exact ⟨rfl,HB.out⟩
end
section
attribute [local go_sem ↓] Go.wp_at_zero Go.wp_at_succ
theorem namedR_cons (x:StpP) (r:List StpP) (s:List UInt8):namedR (x::r) s=((decide (x.w.label=s) || (decide (x.w.op=opSet)&&decide (x.w.operands.headD []=s))) || namedR r s):=rfl
set_option maxRecDepth 100000 in
set_option maxHeartbeats 1600000 in
theorem named_any (w:World) (B:Nat) (sa:Option Addr) (cs:Nat) (xs:List SpV) (s:ByteArray) (h:StepsAt w B (.slice sa xs.length cs) xs) (hl:xs.length≤300) (hok:∀x∈xs,SpOk x) :
  Calls Tryz.prog 96 #[.slice sa xs.length cs,.string s] w fun e w'=>e=.returned (.bool (namedR (xs.map SpV.p) (L s)))∧w'=w:=by
 obtain ⟨R,hR⟩:∃R,namedR (xs.map SpV.p) (L s)=R:=⟨_,rfl⟩
 rw [hR]
 have HX:=hid h
 have HR:=hid hR
 have HOK:=hid hok
 clear h hR hok
 go_enter Tryz.func96,Tryz.ntmps96
 go_wp2_with fail
 go_loop [5] (fun i=>∃j:Nat,j≤xs.length∧i=.int .i64 j∧namedR ((xs.drop j).map SpV.p) (L s)=R) (fun i=>xs.length-(intOf i).toNat)
 case atStart=>exact ⟨0,Nat.zero_le _,rfl,by rw [List.drop_zero];exact HR.out⟩
 case round =>
  obtain ⟨j,hj,rfl,hr⟩:=hrel
  have HRJ:=hid hr
  clear hr
  by_cases hlt:j<xs.length
  ·have dn:decide ((j:Int)<(xs.length:Int))=true:=decide_eq_true (by omega)
   obtain ⟨g,cs2,hv1,_,hgl⟩:=HX.out.own.form (by omega)
   simp only [Value.slice.injEq,true_and] at hv1
   obtain ⟨rfl,rfl⟩:=hv1
   have c0:w.cell? ⟨g,j*7,none⟩=some (.string xs[j].lb):=HX.out.at_ hlt 0 _ rfl
   have c1:w.cell? ⟨g,j*7+1,none⟩=some (.string xs[j].op):=HX.out.at_ hlt 1 _ rfl
   have c2:w.cell? ⟨g,j*7+2,none⟩=some xs[j].v:=HX.out.at_ hlt 2 _ rfl
   have hst:=HX.out.strs xs[j] (List.getElem_mem hlt)
   have hxo:=HOK.out xs[j] (List.getElem_mem hlt)
   have hn:namedR ((xs.drop j).map SpV.p) (L s)=((decide (L xs[j].lb=L s) || (decide (L xs[j].op=opSet)&&decide ((xs[j].os.map L).headD []=L s))) || namedR ((xs.drop (j+1)).map SpV.p) (L s)):=by
    rw [List.drop_eq_getElem_cons hlt,List.map_cons,namedR_cons]
    rfl
   have hr:=HRJ.out
   rw [hn] at hr
   clear hn HRJ
   generalize xs[j]=x at *
   have i1:(0:Int)≤(j:Int):=Int.natCast_nonneg _
   have i2:(j:Int)<(xs.length:Int):=by omega
   by_cases h1:L x.lb=L s
   ·have k1:=beq_of_L h1
    have hR1:true=R:=by rw [←hr];simp [h1]
    clear hr
    subst hR1
    go_wp2_with fail
    go_ret
    exact ⟨rfl,rfl⟩
   ·have k1:=nbeq_of_L h1
    by_cases h2:L x.op=opSet
    ·have k2:(x.op.toList==[46,115,101,116])=true:=opn_is (show L x.op=[46,115,101,116] from h2)
     have hlen:=hxo.set h2
     obtain ⟨o0,o1,hos⟩:=list_pair hlen
     rw [hos] at hst hr
     obtain ⟨b,off,cap,hv,hbl,hc⟩:=hst.cell 0 (by simp)
     rw [hv] at c2
     simp only [List.getElem_cons_zero,Nat.add_zero,List.length_cons,List.length_nil,Nat.zero_add,Nat.reduceAdd] at hc c2
     have hr:((decide (L x.lb=L s) || (decide (L x.op=opSet)&&decide (L o0=L s))) || namedR ((xs.drop (j+1)).map SpV.p) (L s))=R:=hr
     clear hos hst hxo hv hlen
     by_cases h3:L o0=L s
     ·have k3:=beq_of_L h3
      have hR1:true=R:=by rw [←hr];simp [h2,h3]
      clear hr
      subst hR1
      go_wp2_with fail
      go_ret
      exact ⟨rfl,rfl⟩
     ·have k3:=nbeq_of_L h3
      have HR1:=hid (show namedR ((xs.drop (j+1)).map SpV.p) (L s)=R by rw [←hr];simp [h1,h3])
      clear hr
      go_wp2_with fail
      go_round
      case rel=>exact ⟨j+1,by omega,by go_num,HR1.out⟩
      case measure=>simp [intOf];omega
    ·have k2:(x.op.toList==[46,115,101,116])=false:=opn_not (show ¬L x.op=[46,115,101,116] from h2)
     have HR1:=hid (show namedR ((xs.drop (j+1)).map SpV.p) (L s)=R by rw [←hr];simp [h1,h2])
     clear hr
     go_wp2_with fail
     go_round
     case rel=>exact ⟨j+1,by omega,by go_num,HR1.out⟩
     case measure=>simp [intOf];omega
  ·have dn:decide ((j:Int)<(xs.length:Int))=false:=decide_eq_false (by omega)
   have hR1:false=R:=by rw [←HRJ.out,List.drop_of_length_le (by omega)];rfl
   clear HRJ HR
   subst hR1
   go_wp2_with fail
   go_ret
   exact ⟨rfl,rfl⟩
end
section
attribute [local go_sem ↓] Go.wp_at_zero Go.wp_at_succ
def NmsPost (R:List (List UInt8×Int)) (n:Nat) (w:World) (e:Ending) (w':World):Prop:=
 Below w.heap.size w w'∧∃v ns,e=.returned v∧plainN ns=R∧ns.length≤n∧w'.ownsRow w.heap.size 40 2 v ns.length (nameCells ns)
theorem plainN_snoc (ns:List (ByteArray×Int)) (t:ByteArray) (z:Int):plainN (ns++[(t,z)])=plainN ns++[(L t,z)]:=by simp [plainN]
theorem nameCells_snoc (ns:List (ByteArray×Int)) (t:ByteArray) (z:Int):nameCells ns++[.string t,.int .i64 z]=nameCells (ns++[(t,z)]):=by
 induction ns with
 |nil=>rfl
 |cons x r ih=>obtain ⟨a,b⟩:=x;simp [nameCells,←ih]
set_option maxRecDepth 100000 in
set_option maxHeartbeats 1600000 in
theorem rsets_any (w:World) (B0:Nat) (sa:Option Addr) (cs:Nat) (xs:List SpV) (h:StepsAt w B0 (.slice sa xs.length cs) xs) (hl:xs.length≤300) (hok:∀x∈xs,SpOk x) :
  Calls Tryz.prog 97 #[.slice sa xs.length cs] w (NmsPost (setsR [] (xs.map SpV.p)) xs.length w):=by
 obtain ⟨i0,hi0,hz0,hz1,hz2⟩:=info_parts info_name
 obtain ⟨R,hR⟩:∃R,setsR [] (xs.map SpV.p)=R:=⟨_,rfl⟩
 rw [hR]
 obtain ⟨B,hBe⟩:∃B,w.heap.size=B:=⟨_,rfl⟩
 have HBE:=hid hBe
 have HX:=hid h
 have HR:=hid hR
 have HOK:=hid hok
 clear h hR hok hBe
 go_enter Tryz.func97,Tryz.ntmps97
 go_wp2_with fail
 go_loopw [3,4] (fun v i wr=>∃(j:Nat) (ns:List (ByteArray×Int)),j≤xs.length∧i=.int .i64 j∧wr.ownsRow B 40 2 v ns.length (nameCells ns)∧setsR (plainN ns) ((xs.drop j).map SpV.p)=R∧ns.length≤j∧Below B w wr∧B≤wr.heap.size) (fun _ i _=>xs.length-(intOf i).toNat)
 case atStart=>exact ⟨0,[],Nat.zero_le _,rfl,World.ownsRow_nil _ _ _ _,by rw [List.drop_zero];exact HR.out,Nat.le_refl _,Below.refl _ _,by rw [HBE.out];exact Nat.le_refl _⟩
 case round =>
  obtain ⟨j,ns,hj,rfl,hown,hr,hnl,hbr,hBr⟩:=hrel
  have HBR:=hid hbr
  have HXR:=hid (HX.out.below (by rw [HBE.out];exact hbr))
  obtain ⟨na,nc,hnv,hna⟩:=own_names hown
  subst hnv
  have HOWN:=hid hown
  have HNA:=hid hna
  have HRJ:=hid hr
  clear hr hbr hown hna
  by_cases hlt:j<xs.length
  ·have dn:decide ((j:Int)<(xs.length:Int))=true:=decide_eq_true (by omega)
   obtain ⟨g,cs2,hv1,_,hgl⟩:=HXR.out.own.form (by omega)
   simp only [Value.slice.injEq,true_and] at hv1
   obtain ⟨rfl,rfl⟩:=hv1
   have c1:wr.cell? ⟨g,j*7+1,none⟩=some (.string xs[j].op):=HXR.out.at_ hlt 1 _ rfl
   have c2:wr.cell? ⟨g,j*7+2,none⟩=some xs[j].v:=HXR.out.at_ hlt 2 _ rfl
   have hst:=HXR.out.strs xs[j] (List.getElem_mem hlt)
   have hxo:=HOK.out xs[j] (List.getElem_mem hlt)
   have hn:setsR (plainN ns) ((xs.drop j).map SpV.p)=setsR (if L xs[j].op=opSet then plainN ns++[((xs[j].os.map L).headD [],(value 0 (plainN ns) ((xs[j].os.map L).getD 1 [])).1)] else plainN ns) ((xs.drop (j+1)).map SpV.p):=by
    rw [List.drop_eq_getElem_cons hlt,List.map_cons,setsR]
    rfl
   have hr:=HRJ.out
   rw [hn] at hr
   clear hn HRJ
   generalize xs[j]=x at *
   have i1:(0:Int)≤(j:Int):=Int.natCast_nonneg _
   have i2:(j:Int)<(xs.length:Int):=by omega
   by_cases h2:L x.op=opSet
   ·have k2:(x.op.toList==[46,115,101,116])=true:=opn_is (show L x.op=[46,115,101,116] from h2)
    have hlen:=hxo.set h2
    rw [if_pos h2] at hr
    obtain ⟨o0,o1,hos⟩:=list_pair hlen
    have hz:=hxo.ops 1 (by omega)
    rw [hos] at hst hr
    simp only [hos,List.getElem_cons_succ,List.getElem_cons_zero] at hz
    obtain ⟨b,off,cap,hv,hbl,hc0⟩:=hst.cell 0 (by simp)
    obtain ⟨b',off',cap',hv',_,hc1⟩:=hst.cell 1 (by simp)
    rw [hv] at hv' c2
    simp only [Value.slice.injEq,Option.some.injEq,Addr.mk.injEq,true_and,and_true] at hv'
    obtain ⟨⟨rfl,rfl⟩,rfl⟩:=hv'
    simp only [List.getElem_cons_succ,List.getElem_cons_zero,Nat.add_zero,List.length_cons,List.length_nil,Nat.zero_add,Nat.reduceAdd] at hc0 hc1 c2
    obtain ⟨q,hq⟩:∃q,value 0 (plainN ns) (L o1)=q:=⟨_,rfl⟩
    have hr2:setsR (plainN ns++[(L o0,q.1)]) ((xs.drop (j+1)).map SpV.p)=R:=by rw [←hq];exact hr
    obtain ⟨z,er⟩:=q
    have HQ:=hid hq
    have HR2:=hid hr2
    clear hr hr2 hq hos hlen hst hxo hv
    go_wp2_with fail
    refine (refValue_any o1 0 na nc ns wr z er (by omega) (by unfold maxLen;omega) HNA.out HQ.out).mono ?_
    rintro e w1 ⟨rfl,hw⟩
    obtain rfl:=hw.symm
    clear hw
    go_wp2_with (first|(at_builtin;refine wpList_append_lies _ rfl (.tmp 33) (.tmp 44) 31 rfl B 40 i0 _ 2 24 Tryz.underlying31 hi0 hz0 hz1 hz2 rfl (by omega) (.slice na ns.length nc) ns.length (nameCells ns) rfl (HOWN.out.alloc _) ⟨_,0,none⟩ 1 1 [.string o0,.int .i64 z] rfl rfl (World.news_of_block (cs:=#[.string o0,.int .i64 z]) (t:=40) (fr:=(0,0)) (heap_alloc_new _ _)) (by simp [Value.oneCell']) (by omega) (by unfold maxLen;omega) (by omega) (by simp;omega) _ rfl ?_;intro gg cap' w4 hown4 hgrow hat hlt4))
    have HO4:=hid hown4
    have HB4:=hid ((HBR.out.alloc hBr (.cells #[.string o0,.int .i64 z] 40)).grown hgrow (by simp;omega) (fun q hq=>own_ge HOWN.out hq))
    have hsz:B≤w4.heap.size:=by have:=HB4.out.size;rw [HBE.out] at this;exact this
    clear hown4 hgrow hat
    go_roundw
    case rel=>exact ⟨j+1,ns++[(o0,z)],by omega,by go_num,by rw [←nameCells_snoc];simpa using HO4.out,by rw [plainN_snoc];exact HR2.out,by simp;omega,HB4.out,hsz⟩
    case measure=>simp [intOf];omega
   ·have k2:(x.op.toList==[46,115,101,116])=false:=opn_not (show ¬L x.op=[46,115,101,116] from h2)
    rw [if_neg h2] at hr
    have HR2:=hid hr
    clear hr
    go_wp2_with fail
    go_roundw
    case rel=>exact ⟨j+1,ns,by omega,by go_num,HOWN.out,HR2.out,by omega,HBR.out,hBr⟩
    case measure=>simp [intOf];omega
  ·have dn:decide ((j:Int)<(xs.length:Int))=false:=decide_eq_false (by omega)
   have HR1:=hid (show plainN ns=R by rw [←HRJ.out,List.drop_of_length_le (by omega)];rfl)
   clear HRJ HR
   go_wp2_with fail
   go_ret
   refine ⟨by rw [HBE.out];exact HBR.out,_,ns,rfl,HR1.out,by omega,by rw [HBE.out];exact HOWN.out⟩
end
section
attribute [local go_sem ↓] Go.wp_at_zero Go.wp_at_succ
structure MacQ where
 g:Nat
 name:ByteArray
 pv:Value
 ps:List ByteArray
 bv:Value
 bs:List ByteArray
def plainQ (m:MacQ):MacP:=⟨L m.name,m.ps.map L,m.bs.map L⟩
structure MacRow (w:World) (m:MacQ):Prop where
 row:RowT w 192 m.g [.string m.name,m.pv,m.bv]
 ps:StrV w 0 m.pv m.ps
 bs:StrV w 0 m.bv m.bs
def ptrCells (ms:List MacQ):List Value:=ms.map fun m=>.pointer (some ⟨m.g,0,none⟩)
structure RdAt (w:World) (B r:Nat) (vm vn vo:Value) (ms:List MacQ) (ns:List (ByteArray×Int)) (outs:List (ByteArray×Nat)) (calls:Nat):Prop where
 row:RowT w 93 r [vm,vn,vo,.int .i64 (calls:Nat),.int .i64 0,.int .i64 0]
 mown:w.ownsRow B 127 1 vm ms.length (ptrCells ms)
 nown:w.ownsRow B 40 2 vn ns.length (nameCells ns)
 lown:w.ownsRow B 38 4 vo outs.length (lineCells outs)
 macs:∀m∈ms,MacRow w m
 at_:B≤r
def stQ (ms:List MacQ) (ns:List (ByteArray×Int)) (outs:List (ByteArray×Nat)) (calls:Nat):StP:=⟨ms.map plainQ,plainN ns,outs.map fun x=>(L x.1,x.2),calls⟩
def RdSt (w:World) (B r:Nat) (st:StP):Prop:=∃vm vn vo ms ns outs calls,RdAt w B r vm vn vo ms ns outs calls∧st=stQ ms ns outs calls
def RdErr (w:World) (r:Nat) (er:Int) (at_:Nat):Prop:=∃a b c d,RowT w 93 r [a,b,c,d,.int .i64 er,.int .i64 (at_:Nat)]
def RdPost (B r:Nat) (M:List Nat) (at_:Nat) (x:Int×StP) (w:World) (e:Ending) (w':World):Prop:=
 e=.returned (.tuple #[])∧Fq B M w w'∧(x.1=0→RdSt w' B r x.2)∧(x.1≠0→RdErr w' r x.1 at_)
theorem MacRow.below {w w':World}{m:MacQ}(h:MacRow w m) (hb:Below w.heap.size w w'):MacRow w' m:=⟨h.row.below hb,h.ps.below hb,h.bs.below hb⟩
theorem MacRow.fq {w w':World}{m:MacQ}{B:Nat}{M:List Nat}(h:MacRow w m) (hf:Fq B M w w') (hm:m.g∉M):MacRow w' m:=⟨h.row.frQ hf rfl (fun _=>hm),h.ps.fq hf,h.bs.fq hf⟩
theorem RdAt.below {w w':World}{B r:Nat}{vm vn vo:Value}{ms:List MacQ}{ns:List (ByteArray×Int)}{outs:List (ByteArray×Nat)}{calls:Nat}(h:RdAt w B r vm vn vo ms ns outs calls) (hb:Below w.heap.size w w'):RdAt w' B r vm vn vo ms ns outs calls:=
 ⟨h.row.below hb,ownsRow_belowP h.mown hb,ownsRow_belowP h.nown hb,ownsRow_belowP h.lown hb,fun m hm=>(h.macs m hm).below hb,h.at_⟩
theorem RdSt.below {w w':World}{B r:Nat}{st:StP}(h:RdSt w B r st) (hb:Below w.heap.size w w'):RdSt w' B r st:=by
 obtain ⟨vm,vn,vo,ms,ns,outs,calls,h1,h2⟩:=h
 exact ⟨vm,vn,vo,ms,ns,outs,calls,h1.below hb,h2⟩
theorem RdAt.namesAt {w:World}{B r:Nat}{vm vn vo:Value}{ms:List MacQ}{ns:List (ByteArray×Int)}{outs:List (ByteArray×Nat)}{calls:Nat}(h:RdAt w B r vm vn vo ms ns outs calls):∃a cap,vn=.slice a ns.length cap∧NamesAt w a ns:=by
 rcases h.nown.2 with ⟨rfl,h0⟩|⟨g,cap,cur,rfl,hb,hg,_⟩
 ·exact ⟨none,0,by rw [h0],Or.inl (List.eq_nil_of_length_eq_zero h0)⟩
 ·refine ⟨_,cap,rfl,Or.inr ⟨g,0,rfl,(Array.getElem?_eq_some_iff.1 hg).1,fun i hi=>?_⟩⟩
  have h1:=h.nown.cellAt (i*2) (by omega)
  have h2:=h.nown.cellAt (i*2+1) (by omega)
  rw [(nameCells_at ns i hi).1] at h1
  rw [(nameCells_at ns i hi).2] at h2
  rw [Nat.zero_add]
  exact ⟨h1,h2⟩
set_option maxHeartbeats 400000 in
theorem bad_any (w:World) (r:Nat) (a b c d z:Value) (er:Int) (at_:Nat) (h:RowT w 93 r [a,b,c,d,.int .i64 0,z]) :
  Calls Tryz.prog 60 #[.pointer (some ⟨r,0,none⟩),.int .i64 er,.int .i64 (at_:Nat)] w fun e w'=>e=.returned (.tuple #[])∧w'=(w.setCell ⟨r,4,none⟩ (.int .i64 er)).setCell ⟨r,5,none⟩ (.int .i64 (at_:Nat)):=by
 have c4:=h.cell 4 (by simp)
 have f4:=h.free 4
 have c5:=h.cell 5 (by simp)
 have f5:=h.free 5
 have hlt:=h.lt
 clear h
 go_enter Tryz.func60,Tryz.ntmps60
 go_wp2
 go_end0
 exact ⟨rfl,rfl⟩
set_option maxHeartbeats 400000 in
theorem bad_again (w:World) (r:Nat) (a b c d z:Value) (er0 er:Int) (at_:Nat) (h:RowT w 93 r [a,b,c,d,.int .i64 er0,z]) (h0:er0≠0) :
  Calls Tryz.prog 60 #[.pointer (some ⟨r,0,none⟩),.int .i64 er,.int .i64 (at_:Nat)] w fun e w'=>e=.returned (.tuple #[])∧w'=w:=by
 have c4:=h.cell 4 (by simp)
 have k4:(er0==0)=false:=by rw [beq_eq_false_iff_ne];exact h0
 clear h h0
 go_enter Tryz.func60,Tryz.ntmps60
 go_wp2
 go_end0
 exact ⟨rfl,rfl⟩
theorem bad_post {w:World}{B r:Nat}{a b c d z:Value}{er:Int}{at_:Nat}(h:RowT w 93 r [a,b,c,d,.int .i64 0,z]) (hB:B≤r) :
  Fq B [] w ((w.setCell ⟨r,4,none⟩ (.int .i64 er)).setCell ⟨r,5,none⟩ (.int .i64 (at_:Nat)))∧RdErr ((w.setCell ⟨r,4,none⟩ (.int .i64 er)).setCell ⟨r,5,none⟩ (.int .i64 (at_:Nat))) r er at_:=by
 have h1:=h.set 4 (.int .i64 er)
 have h2:=h1.set 5 (.int .i64 (at_:Nat))
 exact ⟨((Fq.refl B [] w).setCell (p:=⟨r,4,none⟩) (h.mayQ hB (Or.inl rfl)) _).setCell (p:=⟨r,5,none⟩) (h1.mayQ hB (Or.inl rfl)) _,a,b,c,d,h2⟩
theorem bad_rd (w:World) (B r:Nat) (st:StP) (er:Int) (at_:Nat) (h:RdSt w B r st) (h0:er≠0) :
  Calls Tryz.prog 60 #[.pointer (some ⟨r,0,none⟩),.int .i64 er,.int .i64 (at_:Nat)] w (RdPost B r [] at_ (er,st) w):=by
 obtain ⟨vm,vn,vo,ms,ns,outs,calls,h1,h2⟩:=h
 refine (bad_any w r _ _ _ _ _ er at_ h1.row).mono ?_
 rintro e w' ⟨rfl,rfl⟩
 obtain ⟨p1,p2⟩:=bad_post (er:=er) (at_:=at_) h1.row h1.at_
 exact ⟨rfl,p1,fun c=>absurd c h0,fun _=>p2⟩
theorem findQ_at (ms:List MacQ) (s:List UInt8) (k:Nat) (h:k<ms.length):findM ((ms.drop k).map plainQ) s=if L ms[k].name=s then some (plainQ ms[k]) else findM ((ms.drop (k+1)).map plainQ) s:=by
 rw [List.drop_eq_getElem_cons h,List.map_cons];rfl
def MacroPost (ms:List MacQ) (s:List UInt8) (w:World) (e:Ending) (w':World):Prop:=w'=w ∧
 ((findM (ms.map plainQ) s=none∧e=.returned (.pointer none))∨∃m∈ms,findM (ms.map plainQ) s=some (plainQ m)∧e=.returned (.pointer (some ⟨m.g,0,none⟩)))
set_option maxHeartbeats 800000 in
theorem macro_any (w:World) (B r:Nat) (vm vn vo:Value) (ms:List MacQ) (ns:List (ByteArray×Int)) (outs:List (ByteArray×Nat)) (calls:Nat) (h:RdAt w B r vm vn vo ms ns outs calls) (hml:ms.length≤3001) (s:ByteArray) :
  Calls Tryz.prog 130 #[.pointer (some ⟨r,0,none⟩),.string s] w (MacroPost ms (L s) w):=by
 have c0:=h.row.cell 0 (by simp)
 obtain ⟨a,cap,hv⟩:=own_form h.mown
 subst hv
 have HOWN:=hid h.mown
 have HM:=hid h.macs
 have c0:w.cell? ⟨r,0,none⟩=some (.slice a ms.length cap):=c0
 clear h
 go_enter Tryz.func130,Tryz.ntmps130
 go_wp2
 go_loop [5] (fun i=>∃j:Nat,j≤ms.length∧i=.int .i64 j∧findM (ms.map plainQ) (L s)=findM ((ms.drop j).map plainQ) (L s)) (fun i=>ms.length-(intOf i).toNat)
 case atStart=>exact ⟨0,Nat.zero_le _,rfl,by rw [List.drop_zero]⟩
 case round =>
  obtain ⟨j,hj,rfl,ha⟩:=hrel
  have HA:=hid ha
  clear ha
  by_cases hlt:j<ms.length
  ·have kd:decide ((j:Int)<(ms.length:Int))=true:=by simp;omega
   obtain ⟨g,cap2,hv,hBg,hgl⟩:=HOWN.out.form (by omega)
   injection hv with hv1 _ hv2
   subst hv1 hv2
   have cm:w.cell? ⟨g,j,none⟩=some (.pointer (some ⟨ms[j].g,0,none⟩)):=by
    rw [HOWN.out.cellAt j (by omega)]
    unfold ptrCells
    rw [List.getElem?_map,List.getElem?_eq_getElem hlt]
    rfl
   have cn:w.cell? ⟨ms[j].g,0,none⟩=some (.string ms[j].name):=(HM.out ms[j] (List.getElem_mem _)).row.cell 0 (by simp)
   have hA:=HA.out
   rw [findQ_at _ _ _ hlt] at hA
   by_cases he:L ms[j].name=L s
   ·rw [if_pos he] at hA
    have HF:=hid hA
    have kb:(ms[j].name.toList==s.toList)=true:=beq_of_L he
    clear hA he
    go_wp2
    go_ret
    exact ⟨rfl,Or.inr ⟨ms[j],List.getElem_mem _,HF.out,rfl⟩⟩
   ·rw [if_neg he] at hA
    have HF:=hid hA
    have kb:(ms[j].name.toList==s.toList)=false:=nbeq_of_L he
    clear hA he
    go_wp2
    go_round
    case rel=>exact ⟨j+1,by omega,by go_num,HF.out⟩
    case measure=>simp [intOf];omega
  ·have kd:decide ((j:Int)<(ms.length:Int))=false:=by simp;omega
   have HF:=hid (show findM (ms.map plainQ) (L s)=none by rw [HA.out,List.drop_eq_nil_of_le (by omega)];rfl)
   go_wp2
   go_ret
   exact ⟨rfl,Or.inl ⟨HF.out,rfl⟩⟩
end
section
attribute [local go_sem ↓] Go.wp_at_zero Go.wp_at_succ
theorem FrQ.lift {E R E' R':TypeId→Bool}{B:Nat}{M:List Nat}{w w':World}(h:FrQ E R B M w w') (hE:∀t,E t=true→E' t=true) (hR:∀t,R t=true→R' t=true):FrQ E' R' B M w w':=
 ⟨h.os,h.tape,h.output,h.size,fun k o ho hk=>h.block k o ho (hk.imp id fun hm=>by
  cases o with
  |cells cur t fz =>
   simp only [keptQ,Bool.and_eq_true,Bool.or_eq_true,Bool.not_eq_true',List.contains_eq_mem,decide_eq_false_iff_not] at hm ⊢
   refine ⟨?_,hm.2.imp (fun h1=>?_) id⟩
   ·cases he:E t with
    |false=>rfl
    |true=>rw [hE t he] at hm;cases hm.1
   ·cases hr:R t with
    |false=>rfl
    |true=>rw [hR t hr] at h1;cases h1
  |_=>rfl)⟩
def r1 (t:TypeId):Bool:=t==130 || t==190
abbrev Fc:=FrQ noT r1
theorem Fc.to {B:Nat}{M:List Nat}{w w':World}(h:Fc B M w w'):Fq B M w w':=h.lift (fun _ h=>by cases h) (fun t h=>by
 simp only [r1,rQ,Bool.or_eq_true] at h ⊢
 exact Or.inl h)
theorem RdAt.fc {w w':World}{B r:Nat}{M:List Nat}{vm vn vo:Value}{ms:List MacQ}{ns:List (ByteArray×Int)}{outs:List (ByteArray×Nat)}{calls:Nat}(h:RdAt w B r vm vn vo ms ns outs calls) (hf:Fc B M w w'):RdAt w' B r vm vn vo ms ns outs calls:=
 ⟨h.row.frQ hf rfl (fun h=>by cases h),ownsRow_frQ h.mown hf rfl (fun h=>by cases h),ownsRow_frQ h.nown hf rfl (fun h=>by cases h),ownsRow_frQ h.lown hf rfl (fun h=>by cases h),
  fun m hm=>⟨(h.macs m hm).row.frQ hf rfl (fun h=>by cases h),(h.macs m hm).ps.frG hf rfl rfl,(h.macs m hm).bs.frG hf rfl rfl⟩,h.at_⟩
def openCells:List OpenP→List Value
 |[]=>[]
 |o::r=>openCells r++[.bool o.yes,.bool o.els,.bool o.over]
theorem openCells_length (l:List OpenP):(openCells l).length=l.length*3:=by
 induction l with
 |nil=>rfl
 |cons o r ih=>simp only [openCells,List.length_append,ih,List.length_cons,List.length_nil];omega
structure BkAt (w:World) (B b:Nat) (lv fv mv pv dv vo xd:Value) (opens:List OpenP):Prop where
 row:RowT w 130 b [lv,fv,mv,pv,dv,vo,xd]
 own:w.ownsRow B 190 3 vo opens.length (openCells opens)
 few:opens.length≤8
 at_:B≤b
def bkM (b:Nat) (vo:Value):List Nat:=b::vo.ownBlock.toList
def BkRow (w:World) (b:Nat) (lv fv mv pv dv:Value):Prop:=∃a n c p,RowT w 130 b [lv,fv,mv,pv,dv,.slice a n c,.pointer p]
theorem BkAt.below {w w':World}{B b:Nat}{lv fv mv pv dv vo xd:Value}{opens:List OpenP}(h:BkAt w B b lv fv mv pv dv vo xd opens) (hb:Below w.heap.size w w'):BkAt w' B b lv fv mv pv dv vo xd opens:=⟨h.row.below hb,ownsRow_belowP h.own hb,h.few,h.at_⟩
theorem BkAt.fq {w w':World}{B b:Nat}{M:List Nat}{lv fv mv pv dv vo xd:Value}{opens:List OpenP}(h:BkAt w B b lv fv mv pv dv vo xd opens) (hf:Fq B M w w') (hb:b∉M) (ho:∀g,vo.ownBlock=some g→g∉M):BkAt w' B b lv fv mv pv dv vo xd opens:=
 ⟨h.row.frQ hf rfl (fun _=>hb),ownsRow_frQ h.own hf rfl (fun _=>ho),h.few,h.at_⟩
theorem BkAt.toRow {w:World}{B b:Nat}{lv fv mv pv dv vo:Value}{p:Option Addr}{opens:List OpenP}(h:BkAt w B b lv fv mv pv dv vo (.pointer p) opens):BkRow w b lv fv mv pv dv:=by
 obtain ⟨a,cap,hv⟩:=own_form h.own
 have:=h.row
 rw [hv] at this
 exact ⟨a,_,cap,p,this⟩
theorem BkAt.slot {w:World}{B b:Nat}{lv fv mv pv dv vo xd:Value}{o:OpenP}{r:List OpenP}(h:BkAt w B b lv fv mv pv dv vo xd (o::r)) :
  ∃g cap,vo=.slice (some ⟨g,0,none⟩) (r.length+1) cap∧B≤g∧g<w.heap.size∧r.length+1≤cap∧w.cell? ⟨g,r.length*3,none⟩=some (.bool o.yes)∧w.cell? ⟨g,r.length*3+1,none⟩=some (.bool o.els)∧w.cell? ⟨g,r.length*3+2,none⟩=some (.bool o.over):=by
 rcases h.own.2 with ⟨_,h0⟩|⟨g,cap,cur,rfl,hb,hg,hc,_⟩
 ·simp at h0
 ·have hl:=openCells_length r
  have e:∀j,j<3→(openCells (o::r))[r.length*3+j]?=[Value.bool o.yes,.bool o.els,.bool o.over][j]?:=by
   intro j hj
   simp only [openCells]
   rw [List.getElem?_append_right (by omega),hl,Nat.add_sub_cancel_left]
  refine ⟨g,cap,rfl,hb,(Array.getElem?_eq_some_iff.1 hg).1,by simpa using hc,?_,?_,?_⟩
  ·rw [h.own.cellAt (r.length*3) (by simp)];exact e 0 (by omega)
  ·rw [h.own.cellAt (r.length*3+1) (by simp;omega)];exact e 1 (by omega)
  ·rw [h.own.cellAt (r.length*3+2) (by simp;omega)];exact e 2 (by omega)
theorem info_open:(Tryz.prog.info? 190).map (fun i=>(i.zero,i.size,i.bytes))=some (some (.agg #[.bool false,.bool false,.bool false]),3,3):=by kernel_rfl
set_option maxHeartbeats 400000 in
theorem over_any (w:World) (B b:Nat) (lv fv mv pv dv vo xd:Value) (opens:List OpenP) (h:BkAt w B b lv fv mv pv dv vo xd opens) :
  Calls Tryz.prog 89 #[.pointer (some ⟨b,0,none⟩)] w fun e w'=>e=.returned (.bool (overP opens))∧w'=w:=by
 have c5:w.cell? ⟨b,5,none⟩=some vo:=h.row.cell 5 (by simp)
 have hf:=h.few
 cases opens with
 |nil =>
  obtain ⟨a,cap,hv⟩:=own_form h.own
  rw [List.length_nil] at hv
  subst hv
  clear h
  go_enter Tryz.func89,Tryz.ntmps89
  go_wp2
  go_ret
  exact ⟨rfl,rfl⟩
 |cons o r =>
  obtain ⟨g,cap,hv,_,hgl,hc,y0,y1,y2⟩:=h.slot
  subst hv
  rw [List.length_cons] at hf
  obtain ⟨n,hn⟩:∃n,r.length=n:=⟨_,rfl⟩
  rw [hn] at c5 hf y0 y1 y2
  have hov:overP (o::r)=(o.over || !o.yes):=rfl
  rw [hov]
  obtain ⟨yes,els,over⟩:=o
  simp only at y0 y1 y2
  clear h hov hn
  have i1:(0:Int)<((n+1:Nat):Int):=by omega
  have i2:((n+1:Nat):Int)-1=(n:Int):=by omega
  have d0:decide ((0:Int)<((n+1:Nat):Int))=true:=by simp
  cases over with
  |true =>
   go_enter Tryz.func89,Tryz.ntmps89
   go_wp2
   go_ret
   exact ⟨rfl,rfl⟩
  |false =>
   go_enter Tryz.func89,Tryz.ntmps89
   go_wp2
   go_ret
   exact ⟨rfl,rfl⟩
end
end Go.Proofs.YtcepppilgncdmaaGreatDoor
