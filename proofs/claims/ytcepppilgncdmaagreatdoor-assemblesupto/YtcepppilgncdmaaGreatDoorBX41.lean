/-
  Joined: BkRows BkAsm.
-/
import Derived.Lib.BufferMore
import Derived.Test.YtcepppilgncdmaaGreatDoorBX36
import Derived.Test.YtcepppilgncdmaaGreatDoorBX40
namespace Go.Proofs.YtcepppilgncdmaaGreatDoor
open Go.RowKit
theorem byCells_atB (bs:List UInt8) (i:Nat) (h:i<bs.length):(byCells bs)[i]?=some (.int .u8 (bs[i].toNat:Nat)):=by
 simp [byCells,h]
theorem own_strB {w:World}{B:Nat}{v:Value}{bs:List UInt8}(h:w.ownsRow B 5 1 v bs.length (byCells bs)):(convert 30 9 v).run Tryz.prog w=.ok (.string ⟨bs.toArray⟩) w:=by
 rcases h.2 with ⟨rfl,h0⟩|⟨g,cap,cur,rfl,hb,hg,_⟩
 ·have:bs=[]:=List.eq_nil_of_length_eq_zero h0
  subst this
  rw [run_convert_bytes_string w 30 9 5 none 0 0 Tryz.underlying30 Tryz.underlying5 Tryz.underlying9]
  rfl
 ·refine run_convert_bytes_back w 30 9 5 ⟨g,0,none⟩ cap bs Tryz.underlying30 Tryz.underlying5 Tryz.underlying9 (fun j hj=>?_)
  rw [Addr.add_lit,Nat.zero_add]
  exact (h.cellAt j (by omega)).trans (byCells_atB bs j hj)
theorem plainN_injB:∀{a b:List (ByteArray×Int)},plainN a=plainN b→a=b
 |[],[],_=>rfl
 |x::r,y::t,h=>by
  simp only [plainN,List.map_cons,List.cons.injEq,Prod.mk.injEq] at h
  rw [plainN_injB (a:=r) (b:=t) h.2,show x=y from Prod.ext (L_inj h.1.1) h.1.2]
 |[],_::_,h=>by simp [plainN] at h
 |_::_,[],h=>by simp [plainN] at h
theorem run_neq_nil {P:Program}(w:World) {t e:TypeId}(n c:Nat) (ht:P.underlying t=some (.slice e)) :
  (binOp .neq t (.slice none n c) (.slice none 0 0)).run P w=.ok (.bool false) w:=by
 have h:∀d:Nat,(Op.equalIn (d+1) t (.slice none n c) (.slice none 0 0)).run P w=.ok true w:=fun d=>by
  simp [Op.equalIn,run_underlying ht]
 simp only [binOp]
 simp [Op.equal,Op.maxDepth,h 9999]
theorem say_ln:∀{k:Nat}{ls:List LnV}{ss:List StV}{l:List StmP},Say k ls ss l→Sized ls l→AllLn ls l
 |_,[],[],[],_,_=>trivial
 |_,_::_,_::_,_::_,h,hz=>⟨⟨h.1.txt,h.1.frm,h.1.at_,hz.1⟩,say_ln h.2 hz.2⟩
 |_,[],[],_::_,h,_=>h.elim
 |_,[],_::_,_,h,_=>h.elim
 |_,_::_,[],_,h,_=>h.elim
 |_,_::_,_::_,[],h,_=>h.elim
theorem lnOf_inj {s:StmP}{a b:LnV}(h:lnOf s a) (k:lnOf s b):a=b:=by
 obtain ⟨t,f,at1,z⟩:=a
 obtain ⟨t2,f2,at2,z2⟩:=b
 obtain ⟨h1,h2,h3,h4⟩:=h
 obtain ⟨k1,k2,k3,k4⟩:=k
 simp only at h1 h2 h3 h4 k1 k2 k3 k4
 have e1:t=t2:=L_inj (h1.trans k1.symm)
 have e2:f=f2:=h2.trans k2.symm
 have e3:at1=at2:=by omega
 have e4:z=z2:=h4.trans k4.symm
 rw [e1,e2,e3,e4]
theorem AllLn.uniq:∀{a b:List LnV}{l:List StmP},AllLn a l→AllLn b l→a=b
 |[],[],[],_,_=>rfl
 |_::_,_::_,_::_,h,k=>by rw [lnOf_inj h.1 k.1,AllLn.uniq h.2 k.2]
 |[],_,_::_,h,_=>h.elim
 |_::_,_,[],h,_=>h.elim
 |[],_::_,[],_,k=>k.elim
 |_::_,[],_::_,_,k=>k.elim
structure ProAt (w:World) (B:Nat) (vb vl vn:Value) (bs:List UInt8) (ls:List LnV) (ns:List (ByteArray×Int)):Prop where
 b:w.ownsRow B 5 1 vb bs.length (byCells bs)
 l:w.ownsRow B 38 4 vl ls.length (lnCells ls)
 n:w.ownsRow B 40 2 vn ns.length (nameCells ns)
theorem ProAt.below {w w':World}{B:Nat}{vb vl vn:Value}{bs:List UInt8}{ls:List LnV}{ns:List (ByteArray×Int)}(h:ProAt w B vb vl vn bs ls ns) (hb:Below w.heap.size w w'):ProAt w' B vb vl vn bs ls ns:=
 ⟨ownsRow_belowP h.b hb,ownsRow_belowP h.l hb,ownsRow_belowP h.n hb⟩
theorem ProAt.mono {w:World}{B C:Nat}{vb vl vn:Value}{bs:List UInt8}{ls:List LnV}{ns:List (ByteArray×Int)}(h:ProAt w B vb vl vn bs ls ns) (hc:C≤B):ProAt w C vb vl vn bs ls ns:=
 ⟨own_mono h.b hc,own_mono h.l hc,own_mono h.n hc⟩
theorem own_lenB {w:World}{B e s n m c:Nat}{a:Option Addr}{xs:List Value}(h:w.ownsRow B e s (.slice a n c) m xs):n=m:=by
 obtain ⟨_,_,h⟩:=own_form h
 injection h
theorem both_rows {r:Int×Nat×ProgP}{B C:Nat}{w w':World}{vb vl vn vb2 vl2 vn2:Value}(h:AsmRows r B w vb vl vn) (k:RRows r C w' vb2 vl2 vn2) :
  ∃bs ls ns,ProAt w B vb vl vn bs ls ns∧ProAt w' C vb2 vl2 vn2 bs ls ns∧bs.length≤300000∧ls.length≤300∧ns.length≤300∧(r.1≠0→vb=.slice none 0 0∧vl=.slice none 0 0∧vn=.slice none 0 0):=by
 rcases h with ⟨h0,rfl,rfl,rfl⟩|⟨h0,ls,ss,ns,h1,h2,h3,h4,h5,h6,h7,h8,h9⟩
 ·rcases k with ⟨_,rfl,rfl,rfl⟩|⟨k0,_⟩
  ·exact ⟨[],[],[],⟨World.ownsRow_nil _ _ _ _,World.ownsRow_nil _ _ _ _,World.ownsRow_nil _ _ _ _⟩,⟨World.ownsRow_nil _ _ _ _,World.ownsRow_nil _ _ _ _,World.ownsRow_nil _ _ _ _⟩,by simp,by simp,by simp,fun _=>⟨rfl,rfl,rfl⟩⟩
  ·exact absurd k0 h0
 ·rcases k with ⟨k0,_⟩|⟨_,ls2,ns2,k1,k2,k3,k4,k5,k6,k7,k8⟩
  ·exact absurd h0 k0
  ·have e1:ls2=ls:=AllLn.uniq k4 (say_ln h4 h5)
   have e2:ns2=ns:=plainN_injB (k5.trans h6.symm)
   subst e1 e2
   exact ⟨_,ls2,ns2,⟨h1,h2,h3⟩,⟨k1,k2,k3⟩,h9,h7,h8,fun e=>absurd h0 e⟩
theorem BookAt.keepB {w w':World}{lo B kb:Nat}{vb nv bv nv' bv':Value}{us:List Value}{M:List Nat}(h:BookAt w lo B kb vb nv bv us) (hk:Keeps M w w') (hM:∀g∈M,g=kb∨Other w 26 38 g) (hr:RowT w' 55 kb [vb,nv',bv']):BookAt w' lo B kb vb nv' bv' us:=by
 refine ⟨hr,h.ge,h.hi,ownsRow_keeps h.own hk (fun g hg hm=>?_),h.far,fun i u hu=>?_⟩
 ·rcases hM g hm with rfl|ho
  ·exact own_row_ne h.own h.row (by decide) hg
  ·exact ho.ne (Or.inl h.own) hg
 ·obtain ⟨k,h1,h2⟩:=h.kept i u hu
  refine ⟨k,ownsRow_keeps h1 hk (fun g hg hm=>?_),h2⟩
  rcases hM g hm with rfl|ho
  ·exact own_row_ne h1 h.row (by decide) hg
  ·exact ho.ne (Or.inr h1) hg
theorem BookAtN.keepB {w w':World}{lo B kb:Nat}{vb nv bv nv' bv':Value}{us:List Value}{M:List Nat}(h:BookAtN w lo B kb vb nv bv us) (hk:Keeps M w w') (hM:∀g∈M,g=kb∨Other w 31 40 g) (hr:RowT w' 55 kb [nv',vb,bv']):BookAtN w' lo B kb vb nv' bv' us:=by
 refine ⟨hr,h.ge,h.hi,ownsRow_keeps h.own hk (fun g hg hm=>?_),h.far,fun i u hu=>?_⟩
 ·rcases hM g hm with rfl|ho
  ·exact own_row_ne h.own h.row (by decide) hg
  ·exact ho.ne (Or.inl h.own) hg
 ·obtain ⟨k,h1,h2⟩:=h.kept i u hu
  refine ⟨k,ownsRow_keeps h1 hk (fun g hg hm=>?_),h2⟩
  rcases hM g hm with rfl|ho
  ·exact own_row_ne h1 h.row (by decide) hg
  ·exact ho.ne (Or.inr h1) hg
structure ThreeAt (w:World) (lo B kb:Nat) (v1 v2 v3:Value) (us1 us2 us3:List Value):Prop where
 l:BookAt w lo B kb v1 v2 v3 us1
 n:BookAtN w lo B kb v2 v1 v3 us2
 b:BookAtB w lo B kb v3 v1 v2 us3
def shelves (v1 v2 v3:Value):List Nat:=v1.ownBlock.toList++(v2.ownBlock.toList++v3.ownBlock.toList)
theorem ThreeAt.grown {w w':World}{lo B kb:Nat}{v1 v2 v3:Value}{us1 us2 us3:List Value}(h:ThreeAt w lo B kb v1 v2 v3 us1 us2 us3) (hg:w.grownBy w' none):ThreeAt w' lo B kb v1 v2 v3 us1 us2 us3:=
 ⟨h.l.grown hg (by simp),h.n.grown hg (by simp),h.b.grown hg (by simp)⟩
theorem ThreeAt.ge {w:World}{lo B kb:Nat}{v1 v2 v3:Value}{us1 us2 us3:List Value}(h:ThreeAt w lo B kb v1 v2 v3 us1 us2 us3):∀k∈kb::shelves v1 v2 v3,lo≤k:=by
 intro k hk
 simp only [shelves,List.mem_cons,List.mem_append,Option.mem_toList] at hk
 rcases hk with rfl|hk|hk|hk
 ·exact h.l.ge
 ·exact own_geK h.l.own hk
 ·exact own_geK h.n.own hk
 ·exact own_geK h.b.own hk
theorem ThreeAt.bytes {w w':World}{lo B kb n:Nat}{v1 v2 v3 v3' u:Value}{us1 us2 us3 xs:List Value}(h:ThreeAt w lo B kb v1 v2 v3 us1 us2 us3) (ho:w.ownsRow B 5 1 u n xs) (hk:Keeps (kb::(v3.ownBlock.toList++u.ownBlock.toList)) w w') (hr:RowT w' 55 kb [v1,v2,v3']):BookAt w' lo B kb v1 v2 v3' us1∧BookAtN w' lo B kb v2 v1 v3' us2:=by
 refine ⟨h.l.keepB hk (fun g hg=>?_) hr,h.n.keepB hk (fun g hg=>?_) hr⟩
 all_goals
  simp only [List.mem_cons,List.mem_append,Option.mem_toList] at hg
  rcases hg with hg|hg|hg
  ·exact Or.inl hg
  ·exact Or.inr ⟨_,_,_,_,_,_,h.b.own,hg,by decide,by decide⟩
  ·exact Or.inr ⟨_,_,_,_,_,_,ho,hg,by decide,by decide⟩
theorem names_keep {w w':World}{lo B C kb n:Nat}{v1 v2 v2' v3 u:Value}{us1 us2 us3 xs:List Value}(h1:BookAt w lo B kb v1 v2 v3 us1) (h2:BookAtN w lo B kb v2 v1 v3 us2) (h3:BookAtB w lo C kb v3 v1 v2 us3) (hC:C≤w.heap.size) (ho:w.ownsRow B 40 2 u n xs) (hk:Keeps (kb::(v2.ownBlock.toList++u.ownBlock.toList)) w w') (hr:RowT w' 55 kb [v1,v2',v3]):BookAt w' lo B kb v1 v2' v3 us1∧BookAtB w' lo w'.heap.size kb v3 v1 v2' us3:=by
 refine ⟨h1.keepB hk (fun g hg=>?_) hr,h3.keep hk (fun g hg=>?_) hC hr⟩
 all_goals
  simp only [List.mem_cons,List.mem_append,Option.mem_toList] at hg
  rcases hg with hg|hg|hg
  ·exact Or.inl hg
  ·exact Or.inr ⟨_,_,_,_,_,_,h2.own,hg,by decide,by decide⟩
  ·exact Or.inr ⟨_,_,_,_,_,_,ho,hg,by decide,by decide⟩
theorem lines_keep {w w':World}{lo B C D kb n:Nat}{v1 v1' v2 v3 u:Value}{us1 us2 us3 xs:List Value}(h1:BookAt w lo B kb v1 v2 v3 us1) (h2:BookAtN w lo C kb v2 v1 v3 us2) (h3:BookAtB w lo D kb v3 v1 v2 us3) (hC:C≤w.heap.size) (hD:D≤w.heap.size) (ho:w.ownsRow B 38 4 u n xs) (hk:Keeps (kb::(v1.ownBlock.toList++u.ownBlock.toList)) w w') (hr:RowT w' 55 kb [v1',v2,v3]):BookAtN w' lo w'.heap.size kb v2 v1' v3 us2∧BookAtB w' lo w'.heap.size kb v3 v1' v2 us3:=by
 refine ⟨h2.keep hk (fun g hg=>?_) hC hr,h3.keep hk (fun g hg=>?_) hD hr⟩
 all_goals
  simp only [List.mem_cons,List.mem_append,Option.mem_toList] at hg
  rcases hg with hg|hg|hg
  ·exact Or.inl hg
  ·exact Or.inr ⟨_,_,_,_,_,_,h1.own,hg,by decide,by decide⟩
  ·exact Or.inr ⟨_,_,_,_,_,_,ho,hg,by decide,by decide⟩
theorem own_shelf {w w':World}{B C D kb e f t s s2 s3 n n2 n3:Nat}{v u x:Value}{xs ys zs ks:List Value}(h:w.ownsRow B e s v n xs) (hb:RowT w 55 kb ks) (h1:w.ownsRow C f s2 u n2 ys) (h2:w.ownsRow D t s3 x n3 zs) (he:e≠55) (hf:e≠f) (ht:e≠t) (hk:Keeps (kb::(u.ownBlock.toList++x.ownBlock.toList)) w w'):w'.ownsRow B e s v n xs:=by
 refine ownsRow_keeps h hk (fun g hg hm=>?_)
 simp only [List.mem_cons,List.mem_append,Option.mem_toList] at hm
 rcases hm with rfl|hm|hm
 ·exact own_row_ne h hb he hg
 ·rcases own_types h h1 hf with q|q
  ·rw [q] at hg;cases hg
  ·exact q (hg.trans hm.symm)
 ·rcases own_types h h2 ht with q|q
  ·rw [q] at hg;cases hg
  ·exact q (hg.trans hm.symm)
theorem row_shelf {w w':World}{C D kb g e f t s2 s3 n2 n3:Nat}{u x:Value}{xs ys zs ks:List Value}(h:RowT w e g xs) (hb:RowT w 55 kb ks) (h1:w.ownsRow C f s2 u n2 ys) (h2:w.ownsRow D t s3 x n3 zs) (he:e≠55) (hf:f≠e) (ht:t≠e) (hk:Keeps (kb::(u.ownBlock.toList++x.ownBlock.toList)) w w'):RowT w' e g xs:=by
 refine h.keeps hk (fun hm=>?_)
 simp only [List.mem_cons,List.mem_append,Option.mem_toList] at hm
 rcases hm with rfl|hm|hm
 ·exact he (h.same hb).1
 ·exact own_row_ne h1 h hf hm
 ·exact own_row_ne h2 h ht hm
theorem keeps_book {w w1 w2:World}{B kb:Nat}{M:List Nat}{v u:Value}(h:Keeps (kb::M) w w1) (hk:Keeps (kb::(v.ownBlock.toList++u.ownBlock.toList)) w1 w2) (hB:B=w.heap.size) (hv:∀p,v.ownBlock=some p→p∈M∨B≤p) (hu:∀p,u.ownBlock=some p→B≤p):Keeps (kb::M) w w2:=by
 refine ⟨hk.os.trans h.os,hk.tape.trans h.tape,hk.output.trans h.output,Nat.le_trans h.size hk.size,fun k hk1 hm=>?_⟩
 rw [hk.block k (Nat.lt_of_lt_of_le hk1 h.size) ?_]
 ·exact h.block k hk1 hm
 ·intro hh
  simp only [List.mem_cons,List.mem_append,Option.mem_toList] at hh hm
  rcases hh with hh|hh|hh
  ·exact hm (Or.inl hh)
  ·rcases hv k hh with q|q
   ·exact hm (Or.inr q)
   ·omega
  ·have:=hu k hh
   omega
section
attribute [local go_sem ↓] Go.wp_at_zero Go.wp_at_succ
def AsmPost (w:World) (lo kb:Nat) (v1 v2 v3:Value) (us1 us2 us3:List Value) (e:Ending) (w':World):Prop:=
 e=.returned (.bool true)∧∃v1' v2' v3' us1' us2' us3',us1'.length=4∧us2'.length=4∧us3'.length=4∧ThreeAt w' lo w'.heap.size kb v1' v2' v3' (us1++us1') (us2++us2') (us3++us3')∧Keeps (kb::shelves v1 v2 v3) w w'
set_option maxRecDepth 100000 in
set_option maxHeartbeats 3200000 in
theorem assembled_any (w:World) (lo kb:Nat) (v1 v2 v3:Value) (us1 us2 us3:List Value) (S:ByteArray) (hs:S.size≤maxLen) (hm:MaxAt w) (hbk:ThreeAt w lo w.heap.size kb v1 v2 v3 us1 us2 us3) (hlo:lo≤w.heap.size)
  (hu1:us1.length%4=0) (hu2:us2.length%4=0) (hu3:us3.length%4=0) (hN1:(us1.length+4)*24≤140737488355328) (hN2:(us2.length+4)*24≤140737488355328) (hN3:(us3.length+4)*24≤140737488355328) :
  Calls Tryz.prog 28 #[.pointer (some ⟨kb,0,none⟩),.string S] w (AsmPost w lo kb v1 v2 v3 us1 us2 us3):=by
 have HBK:=hid hbk
 have HM:=hid hm
 clear hbk hm
 obtain ⟨r,hr⟩:∃r,assembleP (L S)=r:=⟨_,rfl⟩
 have HC:=mAssemble_any S w hs HM.out
 have HD:=fun wx=>rAssemble_any S wx hs
 simp only [hr] at HC HD
 have HC:=hid HC
 have HD:=hid HD
 clear hr
 go_enter Tryz.func28,Tryz.ntmps28
 go_wp2_with fail
 refine HC.out.mono ?_
 rintro e w1 ⟨hb1,vb,vl,vn,rfl,hrows⟩
 obtain ⟨⟨a1,n1,c1,h1⟩,⟨a2,n2,c2,h2⟩,⟨a3,n3,c3,h3⟩⟩:=hrows.forms
 subst h1 h2 h3
 have hb2:Below w1.heap.size w1 (w1.alloc (.cells #[.slice a1 n1 c1,.slice a2 n2 c2,.slice a3 n3 c3] 33)):=(Below.refl _ _).alloc (Nat.le_refl _) _
 have HB2:=hid (hb1.alloc hb1.size (.cells #[.slice a1 n1 c1,.slice a2 n2 c2,.slice a3 n3 c3] 33))
 have HR2:=hid (hrows.below hb2)
 have HP2:=hid (show RowT (w1.alloc (.cells #[.slice a1 n1 c1,.slice a2 n2 c2,.slice a3 n3 c3] 33)) 33 w1.heap.size [.slice a1 n1 c1,.slice a2 n2 c2,.slice a3 n3 c3] from RowT.new w1 33 [.slice a1 n1 c1,.slice a2 n2 c2,.slice a3 n3 c3])
 have hsz1:w.heap.size≤w1.heap.size:=hb1.size
 clear hb1 hb2 hrows HC
 go_upto_region 2 with fail
 generalize w1.alloc (.cells #[.slice a1 n1 c1,.slice a2 n2 c2,.slice a3 n3 c3] 33)=w2 at *
 generalize w1.heap.size=gp at *
 go_wp2_with fail
 refine (HD.out w2).mono ?_
 rintro e w3 ⟨hb3,vb2,vl2,vn2,rfl,hrows2⟩
 obtain ⟨bs,ls,ns,hp,hq,hbs,hls,hns,hnil⟩:=both_rows (HR2.out.below hb3) hrows2
 have hf1:=own_lenB hp.b
 have hf2:=own_lenB hp.l
 have hf3:=own_lenB hp.n
 obtain ⟨b1,d1,hg1⟩:=own_form hq.b
 obtain ⟨b2,d2,hg2⟩:=own_form hq.l
 obtain ⟨b3,d3,hg3⟩:=own_form hq.n
 subst hg1 hg2 hg3
 subst hf1 hf2 hf3
 have hb4:Below w3.heap.size w3 (w3.alloc (.cells #[.slice b1 bs.length d1,.slice b2 ls.length d2,.slice b3 ns.length d3] 33)):=(Below.refl _ _).alloc (Nat.le_refl _) _
 have HB4:=hid (HB2.out.trans ((hb3.alloc hb3.size (.cells #[.slice b1 bs.length d1,.slice b2 ls.length d2,.slice b3 ns.length d3] 33)).mono HB2.out.size))
 have HPP:=hid (hp.below hb4)
 have HPQ:=hid ((hq.below hb4).mono HB2.out.size)
 have HP4:=hid ((HP2.out.below hb3).below hb4)
 have HQ4:=hid (show RowT (w3.alloc (.cells #[.slice b1 bs.length d1,.slice b2 ls.length d2,.slice b3 ns.length d3] 33)) 33 w3.heap.size [.slice b1 bs.length d1,.slice b2 ls.length d2,.slice b3 ns.length d3] from RowT.new w3 33 [.slice b1 bs.length d1,.slice b2 ls.length d2,.slice b3 ns.length d3])
 have HNIL:=hid hnil
 clear hp hq hrows2 hb3 hb4 hnil HR2 HP2 HD HB2
 go_upto_region 3 with fail
 generalize w3.alloc (.cells #[.slice b1 bs.length d1,.slice b2 ls.length d2,.slice b3 ns.length d3] 33)=w4 at *
 generalize w3.heap.size=gq at *
 have p0:w4.cell? ⟨gp,0,none⟩=some (.slice a1 bs.length c1):=HP4.out.cell 0 (by simp)
 have p2:w4.cell? ⟨gp,2,none⟩=some (.slice a3 ns.length c3):=HP4.out.cell 2 (by simp)
 have q0:w4.cell? ⟨gq,0,none⟩=some (.slice b1 bs.length d1):=HQ4.out.cell 0 (by simp)
 have q2:w4.cell? ⟨gq,2,none⟩=some (.slice b3 ns.length d3):=HQ4.out.cell 2 (by simp)
 have cv1:=own_strB HPP.out.b
 have cv2:=own_strB HPQ.out.b
 go_wp2_with fail
 clear p0 p2 q0 q2 cv1 cv2
 go_loopw [11,12] (fun ok i wr=>∃t:Nat,t≤ns.length∧ok=.bool true∧i=.int .i64 t∧Below w4.heap.size w4 wr) (fun _ i _=>ns.length-(intOf i).toNat)
 case atStart=>exact ⟨0,Nat.zero_le _,rfl,rfl,Below.refl _ _⟩
 case round =>
  obtain ⟨k,hk,rfl,rfl,hbr⟩:=hrel
  have HBS:=hid hbr
  have r2:wr.cell? ⟨gp,2,none⟩=some (.slice a3 ns.length c3):=(HP4.out.below hbr).cell 2 (by simp)
  have s2:wr.cell? ⟨gq,2,none⟩=some (.slice b3 ns.length d3):=(HQ4.out.below hbr).cell 2 (by simp)
  have o1:=ownsRow_belowP HPP.out.n hbr
  have o2:=ownsRow_belowP HPQ.out.n hbr
  clear hbr
  by_cases hkl:k<ns.length
  ·obtain ⟨g,cap,hf,_,hgl⟩:=o1.form (by omega)
   simp only [Value.slice.injEq,true_and] at hf
   obtain ⟨rfl,rfl⟩:=hf
   obtain ⟨g2,cap2,hf2,_,hgl2⟩:=o2.form (by omega)
   simp only [Value.slice.injEq,true_and] at hf2
   obtain ⟨rfl,rfl⟩:=hf2
   have x0:=(o1.cellAt (k*2) (by omega)).trans (nameCells_at ns k hkl).1
   have x1:=(o1.cellAt (k*2+1) (by omega)).trans (nameCells_at ns k hkl).2
   have y0:=(o2.cellAt (k*2) (by omega)).trans (nameCells_at ns k hkl).1
   have y1:=(o2.cellAt (k*2+1) (by omega)).trans (nameCells_at ns k hkl).2
   generalize ns[k]=nk at x0 x1 y0 y1
   have i1:(0:Int)≤(k:Int):=Int.natCast_nonneg _
   have i2:(k:Int)<(ns.length:Int):=by omega
   have dk:decide ((k:Int)<ns.length)=true:=decide_eq_true (by omega)
   clear o1 o2
   go_wp2_with fail
   go_quiet (fail)
   go_wp2_with fail
   go_roundw
   case rel=>exact ⟨k+1,by omega,by simp,by go_num,below_drewN HBS.out _⟩
   case measure=>simp [intOf];omega
  ·have dk:decide ((k:Int)<ns.length)=false:=decide_eq_false (by omega)
   have HBW:=hid HBS.out
   have r0:wr.cell? ⟨gp,0,none⟩=some (.slice a1 bs.length c1):=(HP4.out.below HBS.out).cell 0 (by simp)
   have hd:(r.1 != 0)=false∨((r.1 != 0)=true∧(binOp .neq 30 (.slice a1 bs.length c1) (.slice none 0 0)).run Tryz.prog wr=.ok (.bool false) wr∧(binOp .neq 31 (.slice a3 ns.length c3) (.slice none 0 0)).run Tryz.prog wr=.ok (.bool false) wr):=by
    by_cases h0:r.1=0
    ·exact Or.inl (by simp [h0])
    ·obtain ⟨h1,_,h3⟩:=HNIL.out h0
     rw [h1,h3]
     exact Or.inr ⟨by simpa using h0,run_neq_nil wr _ _ Tryz.underlying30,run_neq_nil wr _ _ Tryz.underlying31⟩
   clear o1 o2
   have HPR:=hid (HPP.out.below HBS.out)
   have HQR:=hid (HPQ.out.below HBS.out)
   have HPG:=hid (HP4.out.below HBS.out)
   have HQG:=hid (HQ4.out.below HBS.out)
   have HKW:=hid (show Below w.heap.size w wr from HB4.out.trans (HBS.out.mono HB4.out.size))
   have HBR:=hid (HBK.out.grown (grown_below HKW.out))
   have hwr:w.heap.size≤wr.heap.size:=HKW.out.size
   clear HPP HPQ HP4 HQ4 HB4 HBS HBW HBK
   have hE:r.1≠0→a2=none:=fun h=>by
    have h2:=(HNIL.out h).2.1
    injection h2
   have HE:=hid hE
   clear hE HNIL
   have HCB:=hid (keepsBytes_any wr lo w.heap.size kb v3 v1 v2 us3 a1 bs.length c1 _ HBR.out.b hwr hlo HPR.out.b (by omega) hu3 hN3)
   rcases hd with k0|⟨k0,k1,k2⟩
   all_goals
    go_wp2_with fail
    refine HCB.out.mono ?_
    rintro e w5 ⟨rfl,v3',us3',h1,h2,h3,h4⟩
    have HU3:=hid h1
    have H2B:=hid h2
    have HBK5:=hid (HBR.out.bytes HPR.out.b h4 h2.row)
    have HN5:=hid (own_shelf HPR.out.n HBR.out.l.row HBR.out.b.own HPR.out.b (by decide) (by decide) (by decide) h4)
    have HL5:=hid (own_shelf HPR.out.l HBR.out.l.row HBR.out.b.own HPR.out.b (by decide) (by decide) (by decide) h4)
    have HM5:=hid (own_shelf HQR.out.l HBR.out.l.row HBR.out.b.own HPR.out.b (by decide) (by decide) (by decide) h4)
    have HPG5:=hid (row_shelf HPG.out HBR.out.l.row HBR.out.b.own HPR.out.b (by decide) (by decide) (by decide) h4)
    have HQG5:=hid (row_shelf HQG.out HBR.out.l.row HBR.out.b.own HPR.out.b (by decide) (by decide) (by decide) h4)
    have HK5:=hid (keeps_book (M:=shelves v1 v2 v3) (Keeps.of_below HKW.out) h4 rfl (fun p hp=>Or.inl (by simp [shelves,hp])) (fun p hp=>own_geK HPR.out.b hp))
    have hw5:w.heap.size≤w5.heap.size:=HK5.out.size
    clear h1 h2 h3 h4 HCB HPR HQR HPG HQG HKW HBR r0 r2 s2
    have t2:w5.cell? ⟨gp,2,none⟩=some (.slice a3 ns.length c3):=HPG5.out.cell 2 (by simp)
    go_wp2_with fail
    refine (keepsNames_any w5 lo w.heap.size kb v2 v1 v3' us2 a3 ns.length c3 _ HBK5.out.2 hw5 hlo HN5.out hns hu2 hN2).mono ?_
    rintro e w6 ⟨rfl,v2',us2',h1,h2,h3,h4⟩
    have HU2:=hid h1
    have H2N:=hid h2
    have HBK6:=hid (names_keep HBK5.out.1 HBK5.out.2 H2B.out (Nat.le_refl _) HN5.out h4 h2.row)
    have HL6:=hid (own_shelf HL5.out HBK5.out.1.row HBK5.out.2.own HN5.out (by decide) (by decide) (by decide) h4)
    have HM6:=hid (own_shelf HM5.out HBK5.out.1.row HBK5.out.2.own HN5.out (by decide) (by decide) (by decide) h4)
    have HPG6:=hid (row_shelf HPG5.out HBK5.out.1.row HBK5.out.2.own HN5.out (by decide) (by decide) (by decide) h4)
    have HQG6:=hid (row_shelf HQG5.out HBK5.out.1.row HBK5.out.2.own HN5.out (by decide) (by decide) (by decide) h4)
    have HK6:=hid (keeps_book (M:=shelves v1 v2 v3) HK5.out h4 rfl (fun p hp=>Or.inl (by simp [shelves,hp])) (fun p hp=>own_geK HN5.out hp))
    have hw6:w.heap.size≤w6.heap.size:=HK6.out.size
    clear h1 h2 h3 h4 HL5 HM5 HPG5 HQG5 HK5 HBK5 H2B HN5 t2 hw5
    have t1:w6.cell? ⟨gp,1,none⟩=some (.slice a2 ls.length c2):=HPG6.out.cell 1 (by simp)
    have u1:w6.cell? ⟨gq,1,none⟩=some (.slice b2 ls.length d2):=HQG6.out.cell 1 (by simp)
    go_wp2_with fail
    refine (sameL_any w6 lo w.heap.size kb v1 v2' v3' us1 a2 b2 c2 d2 ls r.1 HBK6.out.1 hw6 hlo HL6.out HM6.out hls hu1 hN1 HE.out).mono ?_
    rintro e w7 ⟨rfl,v1',us1',h1,h2,h3,h4⟩
    have HU1:=hid h1
    have H2L:=hid h2
    have HBK7:=hid (lines_keep HBK6.out.1 H2N.out HBK6.out.2 (Nat.le_refl _) (Nat.le_refl _) HL6.out h4 h2.row)
    have HK7:=hid (keeps_book (M:=shelves v1 v2 v3) HK6.out h4 rfl (fun p hp=>Or.inl (by simp [shelves,hp])) (fun p hp=>own_geK HL6.out hp))
    clear h1 h2 h3 h4 HL6 HM6 HPG6 HQG6 HK6 HBK6 H2N t1 u1
    go_wp2_with fail
    go_ret
    exact ⟨rfl,v1',v2',v3',us1',us2',us3',HU1.out,HU2.out,HU3.out,⟨H2L.out,HBK7.out.1,HBK7.out.2⟩,HK7.out⟩
end
end Go.Proofs.YtcepppilgncdmaaGreatDoor
