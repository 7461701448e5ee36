/-
  Joined: PCond PRead PFill PMacro.
-/
import Derived.Test.YtcepppilgncdmaaGreatDoorBX13
namespace Go.Proofs.YtcepppilgncdmaaGreatDoor
open Go.RowKit
section
attribute [local go_sem ↓] Go.wp_at_zero Go.wp_at_succ
def condCells:List OpenP→List Value
 |[]=>[]
 |o::r=>condCells r++[.bool (passOf o),.bool o.els]
theorem condCells_length (l:List OpenP):(condCells l).length=l.length*2:=by
 induction l with
 |nil=>rfl
 |cons o r ih=>simp only [condCells,List.length_append,ih,List.length_cons,List.length_nil];omega
theorem condCells_app (p s:List OpenP):∃x,condCells (p++s)=condCells s++x:=by
 induction p with
 |nil=>exact ⟨[],by simp⟩
 |cons o r ih =>
  obtain ⟨x,hx⟩:=ih
  exact ⟨x++[.bool (passOf o),.bool o.els],by simp only [List.cons_append,condCells,hx,List.append_assoc]⟩
theorem condCells_at (p:List OpenP) (o:OpenP) (r:List OpenP):(condCells (p++o::r))[r.length*2]?=some (.bool (passOf o))∧(condCells (p++o::r))[r.length*2+1]?=some (.bool o.els):=by
 obtain ⟨x,hx⟩:=condCells_app p (o::r)
 rw [hx]
 simp only [condCells,List.append_assoc]
 have hl:=condCells_length r
 constructor
 ·rw [List.getElem?_append_right (by omega),hl];simp
 ·rw [List.getElem?_append_right (by omega),hl];simp
structure CondAt (w:World) (B:Nat) (t bm:Nat) (v:Value) (rest:List Value) (opens:List OpenP):Prop where
 row:RowT w t bm (v::rest)
 own:w.ownsRow B 257 2 v opens.length (condCells opens)
 few:opens.length≤8
theorem CondAt.form {w:World}{B t bm:Nat}{v:Value}{rest:List Value}{opens:List OpenP}(h:CondAt w B t bm v rest opens):∃a cap,v=.slice a opens.length cap:=by
 rcases h.own.2 with ⟨rfl,h0⟩|⟨g,cap,cur,rfl,_⟩
 ·rw [h0];exact ⟨none,0,rfl⟩
 ·exact ⟨_,cap,rfl⟩
theorem CondAt.slot {w:World}{B t bm:Nat}{v:Value}{rest:List Value}{o:OpenP}{r:List OpenP}(h:CondAt w B t bm v rest (o::r)):∃g cap,v=.slice (some ⟨g,0,none⟩) (r.length+1) cap∧B≤g∧g<w.heap.size∧r.length+1≤cap:=by
 rcases h.own.2 with ⟨_,h0⟩|⟨g,cap,cur,rfl,hb,hg,hc,_⟩
 ·simp at h0
 ·exact ⟨g,cap,rfl,hb,(Array.getElem?_eq_some_iff.1 hg).1,by simpa using hc⟩
theorem info_cond:(Tryz.prog.info? 257).map (fun i=>(i.zero,i.size,i.bytes))=some (some (.agg #[.bool false,.bool false]),2,2):=by kernel_rfl
set_option maxHeartbeats 400000 in
theorem depth_any (w:World) (B t bm:Nat) (v:Value) (rest:List Value) (opens:List OpenP) (h:CondAt w B t bm v rest opens) :
  Calls Tryz.prog 196 #[.pointer (some ⟨bm,0,none⟩)] w fun e w'=>e=.returned (.int .i64 opens.length)∧w'=w:=by
 obtain ⟨a,cap,rfl⟩:=h.form
 have c0:=h.row.cell 0 (by simp)
 have hf:=h.few
 clear h
 go_enter Tryz.func196,Tryz.ntmps196
 go_wp2
 go_ret
 exact ⟨rfl,rfl⟩
set_option maxHeartbeats 400000 in
theorem within_any (w:World) (B t bm:Nat) (v:Value) (rest:List Value) (p s:List OpenP) (h:CondAt w B t bm v rest (p++s)) :
  Calls Tryz.prog 201 #[.pointer (some ⟨bm,0,none⟩),.int .i64 s.length] w fun e w'=>e=.returned (.bool (overP s))∧w'=w:=by
 cases s with
 |nil =>
  go_enter Tryz.func201,Tryz.ntmps201
  go_wp2
  go_ret
  exact ⟨rfl,rfl⟩
 |cons o r =>
  have hfew:=h.few
  rw [List.length_append,List.length_cons] at hfew
  obtain ⟨a,cap,hv⟩:=h.form
  rcases h.own.2 with ⟨_,h0⟩|⟨g,cap',cur,hv',_,hg,hc,_,hsz,htk⟩
  ·simp at h0
  ·rw [hv'] at hv
   injection hv with hv1 _ hv2
   subst hv'
   obtain ⟨m,hm⟩:∃m,(p++o::r).length=m:=⟨_,rfl⟩
   obtain ⟨n,hn⟩:∃n,r.length=n:=⟨_,rfl⟩
   have hnm:n<m:=by rw [←hm,←hn];simp;omega
   have hm8:m≤8:=by rw [←hm];exact h.few
   have c0:w.cell? ⟨bm,0,none⟩=some (.slice (some ⟨g,0,none⟩) m cap'):=by rw [←hm];exact h.row.cell 0 (by simp)
   have hcell:w.cell? ⟨g,n*2,none⟩=some (.bool (passOf o)):=by
    rw [(h.own).cellAt (n*2) (by rw [hm];omega),←hn]
    exact (condCells_at p o r).1
   have hlc:(o::r).length=n+1:=by simp [hn]
   rw [hlc]
   show Calls _ _ _ _ fun e w'=>e=.returned (.bool (passOf o))∧w'=w
   generalize passOf o=b at *
   clear h hg hsz htk hc hn hlc hv1 hv2 hm hfew
   go_enter Tryz.func201,Tryz.ntmps201
   go_wp2
   go_ret
   exact ⟨rfl,rfl⟩
set_option maxHeartbeats 400000 in
theorem passing_any (w:World) (B t bm:Nat) (v:Value) (rest:List Value) (opens:List OpenP) (h:CondAt w B t bm v rest opens) :
  Calls Tryz.prog 198 #[.pointer (some ⟨bm,0,none⟩)] w fun e w'=>e=.returned (.bool (overP opens))∧w'=w:=by
 have HH:=hid h
 obtain ⟨a,cap,hv⟩:=h.form
 have c0:w.cell? ⟨bm,0,none⟩=some (.slice a opens.length cap):=by rw [←hv];exact h.row.cell 0 (by simp)
 have hf:=h.few
 clear h hv
 go_enter Tryz.func198,Tryz.ntmps198
 go_wp2_with (first|(go_at_call 201;refine (within_any _ B t bm v rest [] opens HH.out).mono ?_;rintro e w' ⟨rfl,rfl⟩))
 go_ret
 exact ⟨rfl,rfl⟩
theorem RowT.grown' {w w':World}{t g:Nat}{xs:List Value}{row:Option Nat}(h:RowT w t g xs) (hg:w.grownBy w' row) (hne:some g≠row):RowT w' t g xs:=by
 have hl:=h.lt
 unfold RowT at h ⊢
 rw [hg.block g hl hne];exact h
def condM (bm:Nat) (v:Value):List Nat:=bm::v.ownBlock.toList
set_option maxRecDepth 100000 in
set_option maxHeartbeats 800000 in
theorem begin_any (w:World) (B t bm:Nat) (v:Value) (rest:List Value) (opens:List OpenP) (o:OpenP) (h:CondAt w B t bm v rest opens) (hB:B≤w.heap.size) (hbm:B≤bm) (ht:rT t=true) (htc:257≠t) (h8:opens.length<8) (ho:o.els=false) :
  Calls Tryz.prog 195 #[.pointer (some ⟨bm,0,none⟩),.bool (passOf o)] w fun e w'=>e=.returned (.tuple #[])∧∃v',CondAt w' B t bm v' rest (o::opens)∧FrC B (condM bm v) w w'∧(∀g,v'.ownBlock=some g→v.ownBlock=some g∨w.heap.size≤g):=by
 obtain ⟨i0,hi0,hz0,hz1,hz2⟩:=info_parts info_cond
 have HOWN:=hid h.own
 have HROW:=hid h.row
 obtain ⟨a,cap,hv⟩:=h.form
 have c0:w.cell? ⟨bm,0,none⟩=some v:=h.row.cell 0 (by simp)
 have f0:=h.row.free 0
 have hlt:=h.row.lt
 have hne:v.ownBlock≠some bm:=own_row_ne h.own h.row htc
 obtain ⟨n,hn⟩:∃n,opens.length=n:=⟨_,rfl⟩
 rw [hn] at HOWN h8
 rw [hn] at hv
 subst hv
 generalize hp:passOf o=p
 clear h
 go_enter Tryz.func195,Tryz.ntmps195
 go_wp2_with ((at_builtin;refine wpList_append_lies _ rfl (.tmp 8) (.tmp 11) 70 rfl B 257 i0 _ 2 2 Tryz.underlying70 hi0 hz0 hz1 hz2 rfl (by omega) (.slice a n cap) n (condCells opens) rfl (HOWN.out.alloc _) ⟨w.heap.size,0,none⟩ 1 1 [.bool p,.bool false] rfl rfl (World.news_of_block (cs:=#[.bool p,.bool false]) (t:=257) (fr:=(0,0)) (heap_alloc_new _ _)) (by simp [Value.oneCell']) (by omega) (by unfold maxLen;omega) (by omega) (by simp;omega) _ rfl ?_;intro gg cap' w4 hown4 hgrow hat hlt4;have hc4:=(hgrow.cell_far ⟨bm,0,none⟩ (by simp;omega) (Ne.symm hne)).trans (((Below.refl w.heap.size w).alloc (Nat.le_refl _) (.cells #[.bool p,.bool false] 257)).cell (p:=⟨bm,0,none⟩) hlt |>.trans c0);have hf4:=(hgrow.frozen_far ⟨bm,0,none⟩ (by simp;omega) (Ne.symm hne)).trans (((Below.refl w.heap.size w).alloc (Nat.le_refl _) (.cells #[.bool p,.bool false] 257)).frozen (p:=⟨bm,0,none⟩) hlt |>.trans f0)))
 have hr4:RowT w4 t bm (.slice a n cap::rest):=RowT.grown' (HROW.out.alloc _) hgrow (Ne.symm hne)
 have hgne:(Value.slice (some ⟨gg,0,none⟩) (n+1) cap').ownBlock≠some bm:=own_row_ne hown4 hr4 htc
 go_end0
 refine ⟨rfl,.slice (some ⟨gg,0,none⟩) (n+1) cap',⟨hr4.set 0 _,?_,by simp;omega⟩,?_,?_⟩
 ·rw [List.length_cons,hn]
  simp only [condCells,hp,ho]
  exact ownsRow_setCell_other hown4 (a:=⟨bm,0,none⟩) hgne _
 ·refine (((FrC.refl B _ w).alloc _).grown hgrow (own_may (HOWN.out.alloc _) fun g hg=>Or.inr ⟨rfl,?_⟩)).setCell (p:=⟨bm,0,none⟩) (hr4.may hbm (Or.inr ⟨ht,by simp [condM]⟩)) _
  unfold condM
  rw [hg];simp
 ·intro g hg
  have hg':gg=g:=by simpa [Value.ownBlock] using hg
  subst hg'
  rcases hat with h1|h1
  ·exact Or.inl h1
  ·right;rw [h1];simp
theorem condCells_els (o:OpenP) (r:List OpenP) (u:Bool):(condCells (o::r)).set (r.length*2+1) (.bool u)=condCells (⟨o.yes,u,o.over⟩::r):=by
 simp only [condCells]
 rw [List.set_append_right _ _ (by rw [condCells_length];omega),condCells_length]
 simp [passOf]
theorem condCells_pass (o:OpenP) (r:List OpenP) (y:Bool) (h:o.over=false):(condCells (o::r)).set (r.length*2) (.bool (!y))=condCells (⟨y,o.els,o.over⟩::r):=by
 simp only [condCells]
 rw [List.set_append_right _ _ (by rw [condCells_length];omega),condCells_length]
 simp [passOf,h]
theorem CondAt.alloc {w:World}{B t bm:Nat}{v:Value}{rest:List Value}{opens:List OpenP}(h:CondAt w B t bm v rest opens) (x:Obj):CondAt (w.alloc x) B t bm v rest opens:=⟨h.row.alloc x,h.own.alloc x,h.few⟩
theorem CondAt.below {w w':World}{B t bm:Nat}{v:Value}{rest:List Value}{opens:List OpenP}(h:CondAt w B t bm v rest opens) (hb:Below w.heap.size w w'):CondAt w' B t bm v rest opens:=
 ⟨h.row.below hb,⟨h.own.1,h.own.2.imp id fun ⟨g,cap,cur,h1,h2,h3,h4⟩=>⟨g,cap,cur,h1,h2,by rw [hb.block g (Array.getElem?_eq_some_iff.1 h3).1];exact h3,h4⟩⟩,h.few⟩
theorem CondAt.drewN {w:World}{B t bm:Nat}{v:Value}{rest:List Value}{opens:List OpenP}(h:CondAt w B t bm v rest opens) (n:Nat):CondAt (w.drewN n) B t bm v rest opens:=h.below (below_drewN (Below.refl _ _) _)
theorem CondAt.store {w:World}{B t bm g cap:Nat}{rest:List Value}{o o':OpenP}{r:List OpenP}(h:CondAt w B t bm (.slice (some ⟨g,0,none⟩) (r.length+1) cap) rest (o::r)) (htc:257≠t) (j:Nat) (u:Value) (hs:(condCells (o::r)).set j u=condCells (o'::r)) :
  CondAt (w.setCell ⟨g,j,none⟩ u) B t bm (.slice (some ⟨g,0,none⟩) (r.length+1) cap) rest (o'::r):=by
 have hne:=own_row_ne h.own h.row htc
 refine ⟨h.row.other g j (fun e=>hne (by rw [e];rfl)) u,?_,by simpa using h.few⟩
 have:=(h.own.stored j u).1
 rw [hs] at this
 exact this
theorem CondAt.mayRow {w:World}{B t bm g cap:Nat}{rest:List Value}{o:OpenP}{r:List OpenP}(h:CondAt w B t bm (.slice (some ⟨g,0,none⟩) (r.length+1) cap) rest (o::r)):MayT noT B (condM bm (.slice (some ⟨g,0,none⟩) (r.length+1) cap)) w g:=
 own_may h.own (fun k hk=>Or.inr ⟨rfl,by unfold condM;rw [hk];simp⟩) g rfl
def CondPost (B t bm:Nat) (v:Value) (rest:List Value) (opens':List OpenP) (er:Int) (w:World) (e:Ending) (w':World):Prop:=
 e=.returned (.int .i64 er)∧FrC B (condM bm v) w w'∧(er=0→∃v',v'.ownBlock=v.ownBlock∧CondAt w' B t bm v' rest opens')∧∃v',RowT w' t bm (v'::rest)
set_option maxRecDepth 100000 in
set_option maxHeartbeats 1600000 in
theorem turn_any (w:World) (B t bm:Nat) (v:Value) (rest:List Value) (opens:List OpenP) (lb op:ByteArray) (va:Option Addr) (n vc:Nat) (W:WordsP) (er:Int) (opens':List OpenP)
  (h:CondAt w B t bm v rest opens) (hch:Chain opens) (htc:257≠t) (hn:n≤maxLen) (hb:(decide (lb.size=0)&&decide (n=0))=bareW W) (he:elseP W opens=(er,opens')) :
  Calls Tryz.prog 200 #[.pointer (some ⟨bm,0,none⟩),.agg #[.string lb,.string op,.slice va n vc]] w (CondPost B t bm v rest opens' er w):=by
 have HB:=hid hb
 have HE:=hid he
 have HCH:=hid hch
 clear hb he hch
 have HC:=hid (h.alloc (.cells #[.string lb,.string op,.slice va n vc] 101))
 have HF:=hid (show FrC B (condM bm v) w (w.alloc (.cells #[.string lb,.string op,.slice va n vc] 101)) from (FrC.refl B _ w).alloc _)
 have HP:=hid (RowT.new w 101 [.string lb,.string op,.slice va n vc])
 clear h
 cases opens with
 |nil =>
  obtain ⟨a,cap,hv⟩:=HC.out.form
  subst hv
  have c0:=HC.out.row.cell 0 (by simp)
  have he:=HE.out
  simp only [elseP] at he
  obtain ⟨rfl,rfl⟩:=pair_eq he
  clear he
  go_enter Tryz.func200,Tryz.ntmps200
  go_wp2
  go_ret
  exact ⟨rfl,HF.out,(fun h=>by cases h),_,HC.out.row⟩
 |cons o r =>
  obtain ⟨g,cap,hv,hBg,hgl,hcap⟩:=HC.out.slot
  subst hv
  have c0:=HC.out.row.cell 0 (by simp)
  have hfew:=HC.out.few
  rw [List.length_cons] at hfew
  obtain ⟨m,hm⟩:∃m,r.length=m:=⟨_,rfl⟩
  have hp:=HC.out.own.cellAt (r.length*2) (by omega)
  have hq:=HC.out.own.cellAt (r.length*2+1) (by omega)
  rw [show (condCells (o::r))[r.length*2]?=some (.bool (passOf o)) from (condCells_at [] o r).1] at hp
  rw [show (condCells (o::r))[r.length*2+1]?=some (.bool o.els) from (condCells_at [] o r).2] at hq
  have fp:=HC.out.own.frozenAt (r.length*2)
  have fq:=HC.out.own.frozenAt (r.length*2+1)
  have c0':(w.alloc (.cells #[.string lb,.string op,.slice va n vc] 101)).cell? ⟨bm,0,none⟩=some (.slice (some ⟨g,0,none⟩) (m+1) cap):=by rw [←hm];exact c0
  rw [hm] at hp hq fp fq hfew
  have k1:(((m+1:Nat):Int)==0)=false:=by rw [beq_eq_false_iff_ne];omega
  clear c0
  have he:=HE.out
  simp only [elseP] at he
  cases hels:o.els with
  |true =>
   rw [hels] at he hq
   obtain ⟨rfl,rfl⟩:=pair_eq he
   clear he
   go_enter Tryz.func200,Tryz.ntmps200
   go_wp2
   go_quiet (fail)
   go_wp2
   go_ret
   exact ⟨rfl,HF.out.drewN _,(fun h=>by cases h),_,(HC.out.drewN _).row⟩
  |false =>
   rw [hels] at he hq
   rw [if_neg (by simp)] at he
   have hover:o.over=overP r:=HCH.out.1
   have k2:((m+1:Nat):Int)-1=(m:Int):=by omega
   have HEE:=hid he
   have hgw:g≠w.heap.size:=by
    intro e
    have h1:=own_row_ne HC.out.own HP.out (by decide)
    exact h1 (by rw [←e];rfl)
   have HOVR:=hid hover
   have HMM:=hid hm
   clear he hover hm
   go_enter Tryz.func200,Tryz.ntmps200
   go_wp2
   go_quiet (fail)
   have HC:=hid (HC.out.drewN nq)
   have HF:=hid (HF.out.drewN nq)
   have HP:=hid (show RowT ((w.alloc (.cells #[.string lb,.string op,.slice va n vc] 101)).drewN nq) _ _ _ from HP.out)
   have hp:((w.alloc (.cells #[.string lb,.string op,.slice va n vc] 101)).drewN nq).cell? ⟨g,m*2,none⟩=some (.bool (passOf o)):=hp
   have hq:((w.alloc (.cells #[.string lb,.string op,.slice va n vc] 101)).drewN nq).cell? ⟨g,m*2+1,none⟩=some (.bool false):=hq
   have fp:((w.alloc (.cells #[.string lb,.string op,.slice va n vc] 101)).drewN nq).frozen? ⟨g,m*2,none⟩=false:=fp
   have fq:((w.alloc (.cells #[.string lb,.string op,.slice va n vc] 101)).drewN nq).frozen? ⟨g,m*2+1,none⟩=false:=fq
   have c0':((w.alloc (.cells #[.string lb,.string op,.slice va n vc] 101)).drewN nq).cell? ⟨bm,0,none⟩=some (.slice (some ⟨g,0,none⟩) (m+1) cap):=c0'
   generalize ((w.alloc (.cells #[.string lb,.string op,.slice va n vc] 101)).drewN nq)=w1 at HC HF HP hp hq fp fq c0' ⊢
   have HC1:=hid (show CondAt (w1.setCell ⟨g,m*2+1,none⟩ (.bool true)) B t bm (.slice (some ⟨g,0,none⟩) (r.length+1) cap) rest (⟨o.yes,true,o.over⟩::r) from
    HC.out.store htc (m*2+1) (.bool true) (by rw [←HMM.out];exact condCells_els o r true))
   have HF1:=hid (show FrC B (condM bm (.slice (some ⟨g,0,none⟩) (r.length+1) cap)) w (w1.setCell ⟨g,m*2+1,none⟩ (.bool true)) from
    HF.out.setCell (p:=⟨g,m*2+1,none⟩) HC.out.mayRow (.bool true))
   have c1:(w1.setCell ⟨g,m*2+1,none⟩ (.bool true)).cell? ⟨bm,0,none⟩=some (.slice (some ⟨g,0,none⟩) (m+1) cap):=by
    have h5:=HC1.out.row.cell 0 (by simp)
    rw [HMM.out] at h5
    exact h5
   have HP1:=hid (HP.out.other g (m*2+1) (fun e=>hgw e.symm) (.bool true))
   have p1:(w1.setCell ⟨g,m*2+1,none⟩ (.bool true)).cell? ⟨g,m*2,none⟩=some (.bool (passOf o)):=(World.cell?_setCell_other _ _ _ _ (by simp)).trans hp
   have q1:(w1.setCell ⟨g,m*2+1,none⟩ (.bool true)).frozen? ⟨g,m*2,none⟩=false:=by
    have:=HC1.out.own.frozenAt (m*2)
    exact this
   clear hp fp
   go_wp2_with fail
   generalize w1.setCell ⟨g,m*2+1,none⟩ (.bool true)=w2 at HC1 HF1 c1 HP1 p1 q1 ⊢
   refine (by have:=within_any w2 B t bm _ rest [⟨o.yes,true,o.over⟩] r HC1.out;rw [HMM.out] at this;exact this:Calls Tryz.prog 201 #[.pointer (some ⟨bm,0,none⟩),.int .i64 (m:Nat)] w2 _).mono ?_
   clear hq fq c0'
   cases hov:overP r with
   |true =>
    have he:=HEE.out
    rw [HOVR.out,hov,if_neg (by simp)] at he
    obtain ⟨rfl,rfl⟩:=pair_eq he
    have hfin:condCells (⟨!o.yes,true,true⟩::r)=condCells (⟨o.yes,true,o.over⟩::r):=by simp [condCells,passOf,HOVR.out,hov]
    have HFIN:=hid hfin
    clear he hfin hov hels
    rintro e w3 ⟨rfl,rfl⟩
    go_wp2
    go_ret
    exact ⟨rfl,HF1.out,(fun _=>⟨_,rfl,HC1.out.row,by rw [HFIN.out];exact HC1.out.own,HC1.out.few⟩),_,HC1.out.row⟩
   |false =>
    have he:=HEE.out
    rw [HOVR.out,hov] at he
    have hpo:passOf o=!o.yes:=by simp [passOf,HOVR.out,hov]
    rw [hpo] at p1
    have HHOV:=hid hov
    generalize hy:o.yes=yes at *
    rintro e w3 ⟨rfl,rfl⟩
    have HC2:=hid (show CondAt (w3.setCell ⟨g,m*2,none⟩ (.bool yes)) B t bm (.slice (some ⟨g,0,none⟩) (r.length+1) cap) rest (⟨!yes,true,o.over⟩::r) from
     HC1.out.store htc (m*2) (.bool yes) (by rw [←HMM.out];have:=condCells_pass ⟨yes,true,o.over⟩ r (!yes) (HOVR.out.trans HHOV.out);rwa [Bool.not_not] at this))
    have HF2:=hid (HF1.out.setCell (p:=⟨g,m*2,none⟩) HC1.out.mayRow (.bool yes))
    have HP2:=hid (HP1.out.other g (m*2) (fun e=>hgw e.symm) (.bool yes))
    have y0:=HP2.out.cell 0 (by simp)
    have y1:=HP2.out.cell 1 (by simp)
    have y2:=HP2.out.cell 2 (by simp)
    clear hov hpo hels
    cases hbw:bareW W with
    |true =>
     rw [hbw,if_neg (by simp)] at he
     obtain ⟨rfl,rfl⟩:=pair_eq he
     have HBW:=hid (HB.out.trans hbw)
     clear he hbw
     go_wp2_with (first|(go_at_call 165;refine (needBare_any lb op va n vc _ true hn HBW.out).mono ?_;rintro e w4 ⟨rfl,hb4⟩))
     go_ret
     exact ⟨rfl,HF2.out.trans (FrC.of_below hb4),(fun _=>⟨_,rfl,by rw [←HOVR.out.trans HHOV.out];exact HC2.out.below hb4⟩),_,(HC2.out.below hb4).row⟩
    |false =>
     rw [hbw,if_pos (by simp)] at he
     obtain ⟨rfl,rfl⟩:=pair_eq he
     have HBW:=hid (HB.out.trans hbw)
     clear he hbw
     go_wp2_with (first|(go_at_call 165;refine (needBare_any lb op va n vc _ false hn HBW.out).mono ?_;rintro e w4 ⟨rfl,hb4⟩))
     go_ret
     exact ⟨rfl,HF2.out.trans (FrC.of_below hb4),(fun h=>by cases h),_,(HC2.out.below hb4).row⟩
set_option maxRecDepth 100000 in
set_option maxHeartbeats 1600000 in
theorem finish_any (w:World) (B t bm:Nat) (v:Value) (rest:List Value) (opens:List OpenP) (lb op:ByteArray) (va:Option Addr) (n vc:Nat) (W:WordsP) (er:Int) (opens':List OpenP)
  (h:CondAt w B t bm v rest opens) (hch:Chain opens) (htc:257≠t) (ht:rT t=true) (hbm:B≤bm) (hn:n≤maxLen) (hb:(decide (lb.size=0)&&decide (n=0))=bareW W) (he:endifP W opens=(er,opens')) :
  Calls Tryz.prog 197 #[.pointer (some ⟨bm,0,none⟩),.agg #[.string lb,.string op,.slice va n vc]] w (CondPost B t bm v rest opens' er w):=by
 have HB:=hid hb
 have HE:=hid he
 have HCH:=hid hch
 clear hb he hch
 have HC:=hid (h.alloc (.cells #[.string lb,.string op,.slice va n vc] 101))
 have HF:=hid (show FrC B (condM bm v) w (w.alloc (.cells #[.string lb,.string op,.slice va n vc] 101)) from (FrC.refl B _ w).alloc _)
 have HP:=hid (RowT.new w 101 [.string lb,.string op,.slice va n vc])
 have HH:=hid h
 clear h
 cases opens with
 |nil =>
  obtain ⟨a,cap,hv⟩:=HC.out.form
  subst hv
  have c0:=HC.out.row.cell 0 (by simp)
  have he:=HE.out
  simp only [endifP] at he
  obtain ⟨rfl,rfl⟩:=pair_eq he
  clear he
  go_enter Tryz.func197,Tryz.ntmps197
  go_wp2
  go_ret
  exact ⟨rfl,HF.out,(fun h=>by cases h),_,HC.out.row⟩
 |cons o r =>
  obtain ⟨g,cap,hv,hBg,hgl,hcap⟩:=HC.out.slot
  subst hv
  have hfew:=HC.out.few
  rw [List.length_cons] at hfew
  obtain ⟨m,hm⟩:∃m,r.length=m:=⟨_,rfl⟩
  have c0:(w.alloc (.cells #[.string lb,.string op,.slice va n vc] 101)).cell? ⟨bm,0,none⟩=some (.slice (some ⟨g,0,none⟩) (m+1) cap):=by rw [←hm];exact HC.out.row.cell 0 (by simp)
  have f0:=HC.out.row.free 0
  rw [hm] at hfew hcap
  have k1:(((m+1:Nat):Int)==0)=false:=by rw [beq_eq_false_iff_ne];omega
  have k2:((m+1:Nat):Int)-1=(m:Int):=by omega
  have HMM:=hid hm
  have hover:o.over=overP r:=HCH.out.1
  have HOVR:=hid hover
  have hpop:(w.setCell ⟨bm,0,none⟩ (.slice (some ⟨g,0,none⟩) m cap)).ownsRow B 257 2 (.slice (some ⟨g,0,none⟩) m cap) m (condCells r):=by
   have h1:=HH.out.own
   simp only [condCells,List.length_cons] at h1
   rw [hm] at h1
   have h2:=ownsRow_pop (n:=m) (by rw [condCells_length,hm]) h1
   exact ownsRow_setCell_other h2 (a:=⟨bm,0,none⟩) (own_row_ne h2 HH.out.row htc) _
  have HCS:=hid (show CondAt (w.setCell ⟨bm,0,none⟩ (.slice (some ⟨g,0,none⟩) m cap)) B t bm (.slice (some ⟨g,0,none⟩) m cap) rest r from ⟨HH.out.row.set 0 _,by rw [hm];exact hpop,by omega⟩)
  have HFS:=hid (show FrC B (condM bm (.slice (some ⟨g,0,none⟩) (r.length+1) cap)) w (w.setCell ⟨bm,0,none⟩ (.slice (some ⟨g,0,none⟩) m cap)) from (FrC.refl B _ w).setCell (p:=⟨bm,0,none⟩) (HH.out.row.may hbm (Or.inr ⟨ht,by simp [condM]⟩)) _)
  have hbw:=HH.out.row.lt
  clear hm hover hpop
  go_enter Tryz.func197,Tryz.ntmps197
  go_wp2
  go_region
  have HC1:=hid (show CondAt ((w.setCell ⟨bm,0,none⟩ (.slice (some ⟨g,0,none⟩) m cap)).alloc (.cells #[.string lb,.string op,.slice va n vc] 101)).drew B t bm _ rest r from (HCS.out.alloc _).drewN 1)
  have HF1:=hid (show FrC B (condM bm (.slice (some ⟨g,0,none⟩) (r.length+1) cap)) w ((w.setCell ⟨bm,0,none⟩ (.slice (some ⟨g,0,none⟩) m cap)).alloc (.cells #[.string lb,.string op,.slice va n vc] 101)).drew from (HFS.out.alloc _).drew)
  have HP1:=hid (show RowT ((w.setCell ⟨bm,0,none⟩ (.slice (some ⟨g,0,none⟩) m cap)).alloc (.cells #[.string lb,.string op,.slice va n vc] 101)).drew 101 w.heap.size [.string lb,.string op,.slice va n vc] from by
   have:=RowT.new (w.setCell ⟨bm,0,none⟩ (.slice (some ⟨g,0,none⟩) m cap)) 101 [.string lb,.string op,.slice va n vc]
   rw [show (w.setCell ⟨bm,0,none⟩ (.slice (some ⟨g,0,none⟩) m cap)).heap.size=w.heap.size from by simp] at this
   exact this)
  generalize ((w.setCell ⟨bm,0,none⟩ (.slice (some ⟨g,0,none⟩) m cap)).alloc (.cells #[.string lb,.string op,.slice va n vc] 101)).drew=w1 at HC1 HF1 HP1 ⊢
  clear HC HF HP HCS HFS c0 f0
  have y0:=HP1.out.cell 0 (by simp)
  have y1:=HP1.out.cell 1 (by simp)
  have y2:=HP1.out.cell 2 (by simp)
  go_wp2_with fail
  refine (passing_any w1 B t bm _ rest r HC1.out).mono ?_
  have he:=HE.out
  simp only [endifP] at he
  rw [HOVR.out] at he
  cases hov:overP r with
  |true =>
   rw [hov,if_neg (by simp)] at he
   obtain ⟨rfl,rfl⟩:=pair_eq he
   clear he hov
   rintro e w3 ⟨rfl,rfl⟩
   go_wp2
   go_ret
   exact ⟨rfl,HF1.out,(fun _=>⟨.slice (some ⟨g,0,none⟩) m cap,rfl,HC1.out⟩),_,HC1.out.row⟩
  |false =>
   rw [hov] at he
   clear hov
   rintro e w3 ⟨rfl,rfl⟩
   cases hbw:bareW W with
   |true =>
    rw [hbw,if_neg (by simp)] at he
    obtain ⟨rfl,rfl⟩:=pair_eq he
    have HBW:=hid (HB.out.trans hbw)
    clear he hbw
    go_wp2_with (first|(go_at_call 165;refine (needBare_any lb op va n vc _ true hn HBW.out).mono ?_;rintro e w4 ⟨rfl,hb4⟩))
    go_ret
    exact ⟨rfl,HF1.out.trans (FrC.of_below hb4),(fun _=>⟨.slice (some ⟨g,0,none⟩) m cap,rfl,HC1.out.below hb4⟩),_,(HC1.out.below hb4).row⟩
   |false =>
    rw [hbw,if_pos (by simp)] at he
    obtain ⟨rfl,rfl⟩:=pair_eq he
    have HBW:=hid (HB.out.trans hbw)
    clear he hbw
    go_wp2_with (first|(go_at_call 165;refine (needBare_any lb op va n vc _ false hn HBW.out).mono ?_;rintro e w4 ⟨rfl,hb4⟩))
    go_ret
    exact ⟨rfl,HF1.out.trans (FrC.of_below hb4),(fun h=>by cases h),_,(HC1.out.below hb4).row⟩
end
section
attribute [local go_sem ↓] Go.wp_at_zero Go.wp_at_succ
structure ReadAt (w:World) (B t bm:Nat) (v lv:Value) (ls:List ByteArray) (k:Nat) (rest:List Value) (opens:List OpenP):Prop where
 cond:CondAt w B t bm v (lv::.int .i64 (k:Nat)::rest) opens
 strs:StrV w 0 lv ls
 le:k≤ls.length
 few:ls.length≤3001
theorem ReadAt.below {w w':World}{B t bm:Nat}{v lv:Value}{ls:List ByteArray}{k:Nat}{rest:List Value}{opens:List OpenP}(h:ReadAt w B t bm v lv ls k rest opens) (hb:Below w.heap.size w w'):ReadAt w' B t bm v lv ls k rest opens:=
 ⟨h.cond.below hb,h.strs.below hb,h.le,h.few⟩
set_option maxHeartbeats 400000 in
theorem more_any (w:World) (B t bm:Nat) (v lv:Value) (ls:List ByteArray) (k:Nat) (rest:List Value) (opens:List OpenP) (h:ReadAt w B t bm v lv ls k rest opens) :
  Calls Tryz.prog 163 #[.pointer (some ⟨bm,0,none⟩)] w fun e w'=>e=.returned (.bool (decide (k<ls.length)))∧Below w.heap.size w w':=by
 obtain ⟨a,cap,hv⟩:=h.strs.form
 subst hv
 have c1:=h.cond.row.cell 1 (by simp)
 have c2:=h.cond.row.cell 2 (by simp)
 have hf:=h.few
 have hl:=h.le
 have e1:decide ((k:Int)<(ls.length:Int))=decide (k<ls.length):=by rw [decide_eq_decide];omega
 have HE:=hid e1
 clear h e1
 go_enter Tryz.func163,Tryz.ntmps163
 go_wp2
 go_quiet (fail)
 go_wp2
 go_ret
 exact ⟨ret_bool (by rw [decide_eq_decide]),below_drewN (Below.refl _ _) _⟩
theorem rowT_ne {w:World}{t g:Nat}{xs:List Value}(h:RowT w t g xs) {k:Nat}{cur:Array Value}{e:Nat}{fz:Nat×Nat}(hk:w.heap[k]?=some (.cells cur e fz)) (ht:t≠e):k≠g:=by
 rintro rfl
 unfold RowT at h
 rw [h] at hk
 injection hk with hk
 injection hk with _ hk
 exact ht hk
theorem ReadAt.took {w:World}{B t bm:Nat}{v lv:Value}{ls:List ByteArray}{k:Nat}{rest:List Value}{opens:List OpenP}(h:ReadAt w B t bm v lv ls k rest opens) (hk:k<ls.length) (htc:257≠t) (hts:t≠9) :
  ReadAt (w.setCell ⟨bm,2,none⟩ (.int .i64 ((k+1:Nat):Int))) B t bm v lv ls (k+1) rest opens:=
 ⟨⟨h.cond.row.set 2 _,ownsRow_setCell_other h.cond.own (a:=⟨bm,2,none⟩) (own_row_ne h.cond.own h.cond.row htc) _,h.cond.few⟩,h.strs.set bm 2 _ (RowT.notStr h.cond.row hts),hk,h.few⟩
set_option maxHeartbeats 400000 in
theorem take_any (w:World) (B t bm:Nat) (v lv:Value) (ls:List ByteArray) (k:Nat) (rest:List Value) (opens:List OpenP) (h:ReadAt w B t bm v lv ls k rest opens) (hk:k<ls.length) (htc:257≠t) (hts:t≠9) (ht:rT t=true) (hbm:B≤bm) :
  Calls Tryz.prog 164 #[.pointer (some ⟨bm,0,none⟩)] w fun e w'=>e=.returned (.string ls[k])∧ReadAt w' B t bm v lv ls (k+1) rest opens∧FrC B [bm] w w':=by
 obtain ⟨b,off,cap,hv,hbl,ck⟩:=h.strs.cell k hk
 subst hv
 have c1:=h.cond.row.cell 1 (by simp)
 have c2:=h.cond.row.cell 2 (by simp)
 have f2:=h.cond.row.free 2
 have hf:=h.few
 have HH:=hid h
 have kd:decide ((k:Int)<(ls.length:Int))=true:=by simp;omega
 clear h
 go_enter Tryz.func164,Tryz.ntmps164
 go_wp2
 go_quiet (fail)
 have HN:=hid (show ReadAt (w.drewN nq) B t bm v _ ls k rest opens from HH.out.below (below_drewN (Below.refl _ _) _))
 have HF:=hid (show FrC B [bm] w (w.drewN nq) from (FrC.refl _ _ _).drewN nq)
 have c2:(w.drewN nq).cell? ⟨bm,2,none⟩=some (.int .i64 (k:Nat)):=c2
 have f2:(w.drewN nq).frozen? ⟨bm,2,none⟩=false:=f2
 generalize w.drewN nq=w1 at HN HF c2 f2 ⊢
 go_wp2
 go_ret
 refine ⟨rfl,HN.out.took hk htc hts,HF.out.setCell (p:=⟨bm,2,none⟩) (HN.out.cond.row.may hbm (Or.inr ⟨ht,by simp⟩)) _⟩
theorem FrE.setNew {E:TypeId→Bool}{B:Nat}{M:List Nat}{a w:World}(h:FrE E B M a w) {p:Addr}(hp:a.heap.size≤p.block) (u:Value):FrE E B M a (w.setCell p u):=
 ⟨h.os,h.tape,h.output,by simpa using h.size,fun k o ho hk=>by
  have hlt:k<a.heap.size:=(Array.getElem?_eq_some_iff.1 ho).1
  rw [heap_setCell_other w p k u (by omega)];exact h.block k o ho hk⟩
theorem ReadAt.off {w:World}{B t bm:Nat}{v lv:Value}{ls:List ByteArray}{k:Nat}{rest:List Value}{opens:List OpenP}(h:ReadAt w B t bm v lv ls k rest opens) {e b j:Nat}{xs:List Value}(hr:RowT w e b xs) (ht:t≠e) (he:e≠257) (hs:e≠9) (u:Value) :
  ReadAt (w.setCell ⟨b,j,none⟩ u) B t bm v lv ls k rest opens:=
 ⟨⟨h.cond.row.other b j (fun x=>by subst x;exact (rowT_ne h.cond.row hr ht) rfl) u,ownsRow_setCell_other h.cond.own (a:=⟨b,j,none⟩) (own_row_ne h.cond.own hr (Ne.symm he)) _,h.cond.few⟩,h.strs.set b j _ (RowT.notStr hr hs),h.le,h.few⟩
theorem ReadAt.fr {w w':World}{B t bm:Nat}{v lv:Value}{ls:List ByteArray}{k:Nat}{rest:List Value}{opens:List OpenP}(h:ReadAt w B t bm v lv ls k rest opens) {E:TypeId→Bool}{M:List Nat}(hf:FrE E B M w w') (ht:E t=false) (hc:E 257=false) (hs:E 9=false) (hm:bm∉M) (hv:∀g,v.ownBlock=some g→g∉M):ReadAt w' B t bm v lv ls k rest opens:=
 ⟨⟨h.cond.row.fr hf ht (fun _=>hm),ownsRow_fr h.cond.own hf hc (fun _=>hv),h.cond.few⟩,h.strs.frE hf hs,h.le,h.few⟩
theorem PartsV.fr {B C:Nat}{M:List Nat}{w w':World}{lb op:ByteArray}{v:Value}{os:List ByteArray}{W:WordsP}(h:PartsV w C lb op v os W) (hf:Fr B M w w'):PartsV w' C lb op v os W:=⟨h.label,h.op,h.ops,h.at_.fr hf⟩
theorem PartsV.set {C:Nat}{w:World}{lb op:ByteArray}{v:Value}{os:List ByteArray}{W:WordsP}(h:PartsV w C lb op v os W) {e b j:Nat}{xs:List Value}(hr:RowT w e b xs) (hs:e≠9) (u:Value):PartsV (w.setCell ⟨b,j,none⟩ u) C lb op v os W:=⟨h.label,h.op,h.ops,h.at_.set b j u (RowT.notStr hr hs)⟩
theorem PartsV.mono {C D:Nat}{w:World}{lb op:ByteArray}{v:Value}{os:List ByteArray}{W:WordsP}(h:PartsV w C lb op v os W) (hc:D≤C):PartsV w D lb op v os W:=⟨h.label,h.op,h.ops,h.at_.mono hc⟩
def ReadPost (B t bm:Nat) (v lv:Value) (ls:List ByteArray) (k:Nat) (rest:List Value) (opens:List OpenP) (W:WordsP) (w:World) (e:Ending) (w':World):Prop:=
 ∃lb op va vc os,e=.returned (.tuple #[.agg #[.string lb,.string op,.slice va (List.length os) vc],.int .i64 0])∧PartsV w' 0 lb op (.slice va os.length vc) os W∧ReadAt w' B t bm v lv ls k rest opens∧FrC B [bm] w w'
set_option maxRecDepth 100000 in
set_option maxHeartbeats 800000 in
theorem lread_any (w:World) (B t bm:Nat) (v lv:Value) (ls:List ByteArray) (k:Nat) (rest:List Value) (opens:List OpenP) (h:ReadAt w B t bm v lv ls k rest opens) (hk:k<ls.length) (htc:257≠t) (hts:t≠9) (htp:t≠101) (ht:rT t=true) (hbm:B≤bm) (hsz:ls[k].size≤100000) (hm:MaxAt w) (hB:0<B) :
  Calls Tryz.prog 199 #[.pointer (some ⟨bm,0,none⟩)] w (ReadPost B t bm v lv ls (k+1) rest opens (wordsP (cutL (L ls[k]))) w):=by
 have HH:=hid (h.below ((Below.refl w.heap.size w).alloc (Nat.le_refl _) (.cells noParts.toArray 101)))
 have HF:=hid (show FrC B [bm] w (w.alloc (.cells noParts.toArray 101)) from (FrC.refl _ _ _).alloc _)
 have HR:=hid (RowT.new w 101 noParts)
 have HM:=hid (show MaxAt (w.alloc (.cells noParts.toArray 101)) from hm.below ((Below.refl _ _).alloc (Nat.le_refl _) _))
 clear h hm
 go_enter Tryz.func199,Tryz.ntmps199
 go_wp2_with fail
 refine (take_any _ B t bm v lv ls k rest opens HH.out hk htc hts ht hbm).mono ?_
 rintro e w1 ⟨rfl,hr1,hf1⟩
 have HF:=hid (HF.out.trans hf1)
 have HR:=hid (HR.out.fr hf1 rfl (fun h=>by cases h))
 have HM:=hid (HM.out.fr hf1 hB)
 have HH:=hid hr1
 clear hr1 hf1
 go_wp2_with fail
 refine (Read_any ls[k] _ hsz HM.out).mono ?_
 rintro e w2 ⟨lb,op,v2,os,rfl,hpv,hb2⟩
 obtain ⟨va,vc,hv⟩:=hpv.at_.form
 subst hv
 have HPV:=hid (hpv.mono (Nat.zero_le _))
 have HH:=hid (HH.out.below hb2)
 have HF:=hid (HF.out.trans (FrC.of_below hb2))
 have HR:=hid (HR.out.below hb2)
 have x0:=HR.out.cell 0 (by decide)
 have x1:=HR.out.cell 1 (by decide)
 have x2:=HR.out.cell 2 (by decide)
 have z0:=HR.out.free 0
 have z1:=HR.out.free 1
 have z2:=HR.out.free 2
 have hlt:=HR.out.lt
 clear hpv hb2
 go_wp2
 refine bodyPost_ret (v:=.tuple #[.agg #[.string lb,.string op,.slice va os.length vc],.int .i64 0]) (by simp [results,Tryz.results199,go_sem,x0,x1,x2]) rfl ⟨lb,op,va,vc,os,rfl,?_,?_,?_⟩
 ·exact ((HPV.out.set HR.out (by decide) _).set (HR.out.set 0 _) (by decide) _).set ((HR.out.set 0 _).set 1 _) (by decide) _
 ·exact ((HH.out.off HR.out htp (by decide) (by decide) _).off (HR.out.set 0 _) htp (by decide) (by decide) _).off ((HR.out.set 0 _).set 1 _) htp (by decide) (by decide) _
 ·exact ((HF.out.setNew (Nat.le_refl _) _).setNew (Nat.le_refl _) _).setNew (Nat.le_refl _) _
end
section
attribute [local go_sem ↓] Go.wp_at_zero Go.wp_at_succ
def whichOf:Option (Nat×Nat)→Int
 |none=>-1
 |some (i,_)=>(i:Nat)
def CurOk (ss:List ByteArray) (cur:Option (Nat×Nat)):Prop:=∀i n,cur=some (i,n)→∃h:i<ss.length,n=ss[i].size
theorem ahead_at (l:List UInt8) (ss:List ByteArray) (k:Nat) (h:k<ss.length) (cur:Option (Nat×Nat)) :
  ahead l ((ss.drop k).map L) k cur=ahead l ((ss.drop (k+1)).map L) (k+1) (if (L ss[k]).isPrefixOf l&&(match cur with|none=>true|some (_,n)=>decide (n<(L ss[k]).length)) then some (k,(L ss[k]).length) else cur):=by
 rw [List.drop_eq_getElem_cons h,List.map_cons];rfl
set_option maxHeartbeats 1600000 in
theorem longest_any (v:Value) (ss:List ByteArray) (s:ByteArray) (w:World) (C:Nat) (r:Option (Nat×Nat)) (hst:StrV w C v ss) (hl:ss.length≤100000) (hsz:∀k (h:k<ss.length),ss[k].size≤100000) (hr:ahead (L s) (ss.map L) 0 none=r) :
  Calls Tryz.prog 204 #[v,.string s] w fun e w'=>e=.returned (.int .i64 (whichOf r))∧w'=w:=by
 obtain ⟨va,vc,hv⟩:=hst.form
 subst hv
 have HST:=hid hst
 have HSZ:=hid hsz
 have HR:=hid hr
 clear hst hsz hr
 go_enter Tryz.func204,Tryz.ntmps204
 go_wp2
 go_loop [5,10] (fun x i=>∃(k:Nat) (cur:Option (Nat×Nat)) (z:Int),k≤ss.length∧i=.int .i64 k∧x=.int .i64 z∧whichOf cur=z∧CurOk ss cur∧ahead (L s) ((ss.drop k).map L) k cur=r) (fun _ i=>ss.length-(intOf i).toNat)
 case atStart=>exact ⟨0,none,-1,Nat.zero_le _,rfl,rfl,rfl,(fun i n h=>by cases h),by rw [List.drop_zero];exact HR.out⟩
 case round =>
  obtain ⟨k,cur,z,hk,rfl,rfl,hz,hok,ha⟩:=hrel
  have HA:=hid ha
  have HZ:=hid hz
  have HOK:=hid hok
  clear ha hok hz
  by_cases hlt:k<ss.length
  ·have kd:decide ((k:Int)<(ss.length:Int))=true:=by simp;omega
   obtain ⟨b,off,cap,hv,hbl,ck⟩:=HST.out.cell k hlt
   injection hv with hv1 _ hv2
   subst hv1 hv2
   have hA:=HA.out
   rw [ahead_at _ _ _ hlt] at hA
   have hks:=HSZ.out k hlt
   cases hpre:(L ss[k]).isPrefixOf (L s) with
   |false =>
    rw [hpre,Bool.false_and,if_neg (by simp)] at hA
    have HA2:=hid hA
    have HPRE:=hid (show Lib.hasPrefix s.data.toList ss[k].data.toList=false from hpre)
    clear hA hpre
    go_wp2_with (first|(go_at_call 206;refine (Tryz.strings_HasPrefix s ss[k] _).mono ?_;rw [HPRE.out];rintro e w' ⟨rfl,rfl⟩))
    go_round
    case rel=>exact ⟨k+1,cur,z,by omega,by go_num,rfl,HZ.out,HOK.out,HA2.out⟩
    case measure=>simp [intOf];omega
   |true =>
    rw [hpre,Bool.true_and] at hA
    have HPRE:=hid (show Lib.hasPrefix s.data.toList ss[k].data.toList=true from hpre)
    clear hpre
    cases cur with
    |none =>
     obtain rfl:-1=z:=HZ.out
     have hA':ahead (L s) ((ss.drop (k+1)).map L) (k+1) (some (k,(L ss[k]).length))=r:=hA
     have HA2:=hid hA'
     clear hA hA'
     go_wp2_with (first|(go_at_call 206;refine (Tryz.strings_HasPrefix s ss[k] _).mono ?_;rw [HPRE.out];rintro e w' ⟨rfl,rfl⟩))
     all_goals
      go_round
      case rel=>exact ⟨k+1,some (k,(L ss[k]).length),(k:Nat),by omega,by go_num,rfl,rfl,(fun i n h=>by injection h with h;obtain ⟨rfl,rfl⟩:=pair_eq h;exact ⟨hlt,L_length _⟩),HA2.out⟩
      case measure=>simp [intOf];omega
    |some q =>
     obtain ⟨i,n⟩:=q
     obtain rfl:((i:Nat):Int)=z:=HZ.out
     obtain ⟨hi,hn⟩:=HOK.out i n rfl
     subst hn
     obtain ⟨_,_,_,hvi,_,ci⟩:=HST.out.cell i hi
     injection hvi with hvi1 _ hvi2
     injection hvi1 with hvi1
     injection hvi1 with hvi3 hvi4
     subst hvi3 hvi4
     clear hvi2
     have his:=HSZ.out i hi
     have kw:decide (((i:Nat):Int)<0)=false:=by simp
     have kw2:decide (((i:Nat):Int)<(ss.length:Int))=true:=by simp;omega
     have hA':ahead (L s) ((ss.drop (k+1)).map L) (k+1) (if decide (ss[i].size<(L ss[k]).length) then some (k,(L ss[k]).length) else some (i,ss[i].size))=r:=hA
     rw [L_length] at hA'
     clear hA
     by_cases hgt:ss[i].size<ss[k].size
     ·rw [decide_eq_true hgt,if_pos rfl] at hA'
      have HA2:=hid hA'
      have kg:decide (ss[i].size<ss[k].size)=true:=by simpa using hgt
      clear hA'
      go_wp2_with (first|(go_at_call 206;refine (Tryz.strings_HasPrefix s ss[k] _).mono ?_;rw [HPRE.out];rintro e w' ⟨rfl,rfl⟩))
      go_round
      case rel=>exact ⟨k+1,some (k,ss[k].size),(k:Nat),by omega,by go_num,rfl,rfl,(fun i n h=>by injection h with h;obtain ⟨rfl,rfl⟩:=pair_eq h;exact ⟨hlt,rfl⟩),HA2.out⟩
      case measure=>simp [intOf];omega
     ·rw [decide_eq_false hgt,if_neg (by simp)] at hA'
      have HA2:=hid hA'
      have kg:decide (ss[i].size<ss[k].size)=false:=by simpa using hgt
      clear hA'
      go_wp2_with (first|(go_at_call 206;refine (Tryz.strings_HasPrefix s ss[k] _).mono ?_;rw [HPRE.out];rintro e w' ⟨rfl,rfl⟩))
      go_round
      case rel=>exact ⟨k+1,some (i,ss[i].size),(i:Nat),by omega,by go_num,rfl,rfl,HOK.out,HA2.out⟩
      case measure=>simp [intOf];omega
  ·have kd:decide ((k:Int)<(ss.length:Int))=false:=by simp;omega
   have hrc:r=cur:=by rw [←HA.out,List.drop_eq_nil_of_le (by omega)];rfl
   subst hrc
   go_wp2
   go_ret
   exact ⟨ret_int HZ.out.symm,rfl⟩
theorem fillP_fuel (ps os:List (List UInt8)):∀(n m:Nat) (l:List UInt8),l.length≤n→l.length≤m→fillP ps os n l=fillP ps os m l
 |0,0,_,_,_=>rfl
 |0,m+1,l,h1,_=>by
  have:l=[]:=List.eq_nil_of_length_eq_zero (by omega)
  subst this;rfl
 |n+1,0,l,_,h2=>by
  have:l=[]:=List.eq_nil_of_length_eq_zero (by omega)
  subst this;rfl
 |n+1,m+1,[],_,_=>rfl
 |n+1,m+1,c::r,h1,h2=>by
  simp only [List.length_cons] at h1 h2
  simp only [fillP]
  split
  ·split
   ·rfl
   ·rename_i i k _
    rw [fillP_fuel ps os n m (r.drop k) (by rw [List.length_drop];omega) (by rw [List.length_drop];omega)]
  ·rw [fillP_fuel ps os n m r (by omega) (by omega)]
def fillF (ps os:List (List UInt8)) (l:List UInt8):Option (List UInt8):=fillP ps os l.length l
theorem fillF_none (ps os:List (List UInt8)) (l:List UInt8) (h:∀b∈l,b≠92):fillF ps os l=some l:=by
 unfold fillF
 induction l with
 |nil=>rfl
 |cons c r ih =>
  have hb:¬(c.toNat:Int)=92:=fun e=>h c (by simp) ((byte_eq c 92).1 e)
  simp only [List.length_cons,fillP]
  rw [if_neg hb,ih (fun b hb=>h b (by simp [hb]))];rfl
theorem fillF_at (ps os:List (List UInt8)) (p b:List UInt8) (h:∀x∈p,x≠92):fillF ps os (p++92::b)=match ahead b ps 0 none with
  |none=>none
  |some (i,k)=>(fillF ps os (b.drop k)).map ((p++os.getD i [])++·):=by
 unfold fillF
 induction p with
 |nil =>
  simp only [List.nil_append,List.length_cons,fillP]
  rw [if_pos (show ((92:UInt8).toNat:Int)=92 from rfl)]
  cases ahead b ps 0 none with
  |none=>rfl
  |some q =>
   obtain ⟨i,k⟩:=q
   show Option.map _ (fillP ps os b.length (b.drop k))=_
   rw [fillP_fuel ps os b.length (b.drop k).length (b.drop k) (by rw [List.length_drop];omega) (Nat.le_refl _)]
 |cons c r ih =>
  have hb:¬(c.toNat:Int)=92:=fun e=>h c (by simp) ((byte_eq c 92).1 e)
  simp only [List.cons_append,List.length_cons,fillP]
  rw [if_neg hb,ih (fun x hx=>h x (by simp [hx]))]
  cases ahead b ps 0 none with
  |none=>rfl
  |some q =>
   obtain ⟨i,k⟩:=q
   show Option.map _ (Option.map _ _)=_
   rw [Option.map_map];rfl
theorem ahead_ok (l:List UInt8) (ss:List ByteArray):∀(k:Nat) (cur:Option (Nat×Nat)),k≤ss.length→CurOk ss cur→(∀i n,cur=some (i,n)→n≤l.length)→CurOk ss (ahead l ((ss.drop k).map L) k cur)∧∀i n,ahead l ((ss.drop k).map L) k cur=some (i,n)→n≤l.length:=by
 intro k
 induction hn:ss.length-k generalizing k with
 |zero =>
  intro cur hk h1 h2
  rw [List.drop_eq_nil_of_le (by omega)]
  exact ⟨h1,h2⟩
 |succ m ih =>
  intro cur hk h1 h2
  have hlt:k<ss.length:=by omega
  rw [ahead_at l ss k hlt]
  have key:∀q:Bool,CurOk ss (if ((L ss[k]).isPrefixOf l&&q)=true then some (k,(L ss[k]).length) else cur)∧∀i n,(if ((L ss[k]).isPrefixOf l&&q)=true then some (k,(L ss[k]).length) else cur)=some (i,n)→n≤l.length:=by
   intro q
   by_cases hc:((L ss[k]).isPrefixOf l&&q)=true
   ·rw [if_pos hc]
    refine ⟨fun i n h=>?_,fun i n h=>?_⟩
    ·injection h with h
     obtain ⟨rfl,rfl⟩:=pair_eq h
     exact ⟨hlt,L_length _⟩
    ·injection h with h
     obtain ⟨rfl,rfl⟩:=pair_eq h
     rw [Bool.and_eq_true] at hc
     exact (List.isPrefixOf_iff_prefix.1 hc.1).length_le
   ·rw [if_neg hc]
    exact ⟨h1,h2⟩
  exact ih (k+1) (by omega) _ (by omega) (key _).1 (key _).2
theorem cutb_any (rs:ByteArray) (w:World) (p b:ByteArray) (f:Bool) (hs:rs.size≤100000) (hm:MaxAt w) (h:Lib.cut (L rs) [92]=(L p,L b,f)) :
  Calls Tryz.prog 116 #[.string rs,.string ⟨#[92]⟩] w fun e w'=>e=.returned (.tuple #[.string p,.string b,.bool f])∧Below w.heap.size w w':=by
 obtain ⟨m,hm⟩:=hm
 refine (Tryz.strings_Cut rs ⟨#[92]⟩ m w (by omega) hm).mono ?_
 rintro e w' ⟨rfl,n,rfl⟩
 refine ⟨?_,below_drewN (Below.refl _ _) _⟩
 have h':Lib.cut rs.data.toList (⟨#[92]⟩:ByteArray).data.toList=(L p,L b,f):=h
 rw [h']
 rfl
theorem len_any (B b:Nat) (acc:List UInt8) (w:World) (h:BuildAt w B b acc) :
  Calls Tryz.prog 205 #[.pointer (some ⟨b,0,none⟩)] w fun e w'=>e=.returned (.int .i64 (acc.length:Nat))∧w'=w:=by
 have:=Tryz.Builder_Len_f B b (Lib.byteCells acc) w h
 rw [Lib.byteCells_length] at this
 exact this
theorem BuildAt.below {w w':World}{B b:Nat}{acc:List UInt8}(h:BuildAt w B b acc) (hb:Below w.heap.size w w'):BuildAt w' B b acc:=by
 have key:∀p,Lib.BuilderAtF 221 5 B b p (Lib.byteCells acc) w→Lib.BuilderAtF 221 5 B b p (Lib.byteCells acc) w':=by
  rintro p ⟨h1,v,h2,h3,h4⟩
  refine ⟨h1,v,by rw [hb.block b (Array.getElem?_eq_some_iff.1 h2).1];exact h2,⟨h3.1,?_⟩,h4⟩
  rcases h3.2 with h5|⟨g,cap,cur,fz,h5,h6,h7,h8⟩
  ·exact Or.inl h5
  ·exact Or.inr ⟨g,cap,cur,fz,h5,h6,by rw [hb.block g (Array.getElem?_eq_some_iff.1 h7).1];exact h7,h8⟩
 exact Or.imp (key _) (key _) h
def FillPost (r:Int×List UInt8) (w:World) (e:Ending) (w':World):Prop:=∃t,L t=r.2∧e=.returned (.tuple #[.string t,.int .i64 r.1])∧Below w.heap.size w w'
set_option maxRecDepth 100000 in
set_option maxHeartbeats 1600000 in
theorem fill_any (w:World) (bm:Nat) (c0 c1 c2 pv ov:Value) (ps os:List ByteArray) (s:ByteArray) (hrow:RowT w 209 bm [c0,c1,c2,pv,ov]) (hps:StrV w 0 pv ps) (hos:StrV w 0 ov os) (hlen:ps.length=os.length) (hl:ps.length≤1000)
  (hz:∀k (h:k<ps.length),ps[k].size≤100) (hz2:∀k (h:k<os.length),os[k].size≤100) (hs:s.size≤1000) (hm:MaxAt w) :
  Calls Tryz.prog 203 #[.pointer (some ⟨bm,0,none⟩),.string s] w (FillPost (filledP (ps.map L) (os.map L) (L s)) w):=by
 obtain ⟨B,hB⟩:∃B,w.heap.size=B:=⟨_,rfl⟩
 obtain ⟨pa,pc,hpv⟩:=hps.form
 subst hpv
 obtain ⟨oa,oc,hov⟩:=hos.form
 subst hov
 have hb1:Below B w (w.alloc (.cells #[.pointer none,.slice none 0 0] 221)):=(Below.refl B w).alloc (by omega) _
 have hbd:BuildAt (w.alloc (.cells #[.pointer none,.slice none 0 0] 221)) B B []:=by
  have:=Lib.IsBuilderF.of (Lib.fresh_isBuilder 221 5 w)
  rw [hB] at this
  exact this
 have hzz:B<(w.alloc (.cells #[.pointer none,.slice none 0 0] 221)).heap.size:=by simp [hB]
 have HROW:=hid hrow
 have HPS:=hid hps
 have HOS:=hid hos
 have HZ:=hid hz
 have HZ2:=hid hz2
 have HM:=hid hm
 have HB:=hid hB
 have hbmB:bm<B:=by rw [←hB];exact hrow.lt
 have HLEN:=hid hlen
 clear hrow hps hos hz hz2 hm hlen
 have HFP:=hid (show filledP (ps.map L) (os.map L) (L s)=match fillF (ps.map L) (os.map L) (L s) with|none=>(4,[])|some t=>if 80<t.length then (1,[]) else (0,t) from rfl)
 go_enter Tryz.func203,Tryz.ntmps203
 go_wp2_with fail
 generalize w.alloc (.cells #[.pointer none,.slice none 0 0] 221)=w1 at hb1 hbd hzz ⊢
 have HB1:=hid hb1
 go_loopg [7] (s.size+1) (fun q x wr=>∃(rs:ByteArray) (acc:List UInt8),q=rs.size+1∧x=.string rs∧rs.size≤s.size∧acc.length+100*rs.size≤100*s.size∧fillF (ps.map L) (os.map L) (L s)=(fillF (ps.map L) (os.map L) (L rs)).map (acc++·)∧BuildAt wr B B acc∧Below B w wr∧B<wr.heap.size)
 case atStart=>exact ⟨s,[],rfl,rfl,Nat.le_refl _,by simp,by simp,hbd,hb1,hzz⟩
 case round =>
  obtain ⟨rs,acc,hq,rfl,hrs,hacc,hfl,hbk,hbl,hzr⟩:=hrel
  have HFL:=hid hfl
  have HBK:=hid hbk
  have HBL:=hid hbl
  have HMr:=hid (HM.out.below (by rw [HB.out];exact hbl))
  clear hfl hbk hbl hbd
  rcases cut_one 92 (L rs) with ⟨hcut,hno⟩|⟨p,b,hrl,hno,hcut⟩
  ·have HC:=hid (show Lib.cut (L rs) [92]=(L rs,L (⟨#[]⟩:ByteArray),false) from hcut)
   have HR:=hid (show fillF (ps.map L) (os.map L) (L s)=some (acc++L rs) by rw [HFL.out,fillF_none _ _ _ hno];rfl)
   clear hcut hno HFL
   go_wp2_with fail
   refine (cutb_any rs _ rs ⟨#[]⟩ false (by omega) HMr.out HC.out).mono ?_
   rintro e w2 ⟨rfl,hb2⟩
   have HBK:=hid (HBK.out.below hb2)
   have HBL:=hid (HBL.out.trans (hb2.mono (Nat.le_of_lt hzr)))
   have hzr2:B<w2.heap.size:=Nat.lt_of_lt_of_le hzr hb2.size
   clear hb2
   go_wp2_with fail
   refine (write_any B B acc rs _ HBK.out (by omega) (Nat.le_of_lt hzr2)).mono ?_
   rintro e w3 ⟨rfl,hbd3,hb3⟩
   have HBK:=hid hbd3
   have HBL:=hid (HBL.out.trans hb3)
   have hzr3:B<w3.heap.size:=Nat.lt_of_lt_of_le hzr2 hb3.size
   clear hbd3 hb3
   obtain ⟨n,hn⟩:∃n,(acc++L rs).length=n:=⟨_,rfl⟩
   have HN:=hid hn
   have hnb:n≤1000000:=by rw [←hn,List.length_append,L_length];omega
   clear hn
   by_cases h80:80<n
   ·have HF:=hid (show filledP (ps.map L) (os.map L) (L s)=(1,[]) by rw [HFP.out,HR.out];show (if 80<(acc++L rs).length then _ else _)=_;rw [HN.out,if_pos h80])
    have kd:decide (80<(n:Int))=true:=by simp;omega
    go_wp2_with (first|(go_at_call 205;refine (len_any B B _ _ HBK.out).mono ?_;rw [HN.out];rintro e w4 ⟨rfl,rfl⟩))
    go_ret2
    exact ⟨⟨#[]⟩,by rw [HF.out];rfl,by rw [HF.out];rfl,by rw [HB.out];exact HBL.out⟩
   ·have HF:=hid (show filledP (ps.map L) (os.map L) (L s)=(0,acc++L rs) by rw [HFP.out,HR.out];show (if 80<(acc++L rs).length then _ else _)=_;rw [HN.out,if_neg h80])
    have kd:decide (80<(n:Int))=false:=by simp;omega
    go_wp2_with (first|(go_at_call 205;refine (len_any B B _ _ HBK.out).mono ?_;rw [HN.out];rintro e w4 ⟨rfl,rfl⟩)|(go_at_call 154;refine (string_any B B _ _ HBK.out (Nat.le_of_lt hzr3)).mono ?_;rintro e w5 ⟨rfl,hb5⟩))
    go_ret2
    exact ⟨⟨(acc++L rs).toArray⟩,by rw [HF.out];rfl,by rw [HF.out];rfl,by rw [HB.out];exact HBL.out.trans hb5⟩
  ·obtain ⟨pB,hpB⟩:∃x:ByteArray,L x=p:=⟨⟨p.toArray⟩,rfl⟩
   obtain ⟨bB,hbB⟩:∃x:ByteArray,L x=b:=⟨⟨b.toArray⟩,rfl⟩
   subst hpB hbB
   have HC:=hid hcut
   have hsz:pB.size+1+bB.size=rs.size:=by
    have:=congrArg List.length hrl
    rw [List.length_append,List.length_cons,L_length,L_length,L_length] at this
    omega
   have HFA:=hid (show fillF (ps.map L) (os.map L) (L rs)=_ from hrl ▸ fillF_at (ps.map L) (os.map L) (L pB) (L bB) hno)
   obtain ⟨r,hr⟩:∃r,ahead (L bB) (ps.map L) 0 none=r:=⟨_,rfl⟩
   have HRR:=hid hr
   have hok:=ahead_ok (L bB) ps 0 none (Nat.zero_le _) (fun i n h=>by cases h) (fun i n h=>by cases h)
   rw [List.drop_zero,hr] at hok
   have HOK:=hid hok
   clear hcut hno hrl hr hok
   go_wp2_with fail
   refine (cutb_any rs _ pB bB true (by omega) HMr.out HC.out).mono ?_
   rintro e w2 ⟨rfl,hb2⟩
   have HBK:=hid (HBK.out.below hb2)
   have HBL:=hid (HBL.out.trans (hb2.mono (Nat.le_of_lt hzr)))
   have hzr2:B<w2.heap.size:=Nat.lt_of_lt_of_le hzr hb2.size
   clear hb2
   go_wp2_with fail
   refine (write_any B B acc pB _ HBK.out (by omega) (Nat.le_of_lt hzr2)).mono ?_
   rintro e w3 ⟨rfl,hbd3,hb3⟩
   have HBK:=hid hbd3
   have HBL:=hid (HBL.out.trans hb3)
   have hzr3:B<w3.heap.size:=Nat.lt_of_lt_of_le hzr2 hb3.size
   clear hbd3 hb3
   have HROW3:=hid (HROW.out.upto HBL.out hbmB)
   have d3:=HROW3.out.cell 3 (by simp)
   have d4:=HROW3.out.cell 4 (by simp)
   have HPS3:=hid (HPS.out.below (by rw [HB.out];exact HBL.out))
   go_wp2_with fail
   refine (longest_any _ ps bB _ 0 r HPS3.out (by omega) (fun k h=>by have:=HZ.out k h;omega) HRR.out).mono ?_
   cases r with
   |none =>
    have HF:=hid (show filledP (ps.map L) (os.map L) (L s)=(4,[]) by rw [HFP.out,HFL.out,HFA.out,HRR.out];rfl)
    rintro e w4 ⟨rfl,rfl⟩
    go_wp2
    go_ret2
    exact ⟨⟨#[]⟩,by rw [HF.out];rfl,by rw [HF.out];rfl,by rw [HB.out];exact HBL.out⟩
   |some q =>
    obtain ⟨i,n⟩:=q
    obtain ⟨hi,hn⟩:=HOK.out.1 i n rfl
    have hnl:n≤bB.size:=by have:=HOK.out.2 i n rfl;rwa [L_length] at this
    subst hn
    have hi2:i<os.length:=by have:=HLEN.out;omega
    have HOS3:=hid (HOS.out.below (by rw [HB.out];exact HBL.out))
    obtain ⟨b1,o1,k1,hv1,hb1',ci1⟩:=HPS3.out.cell i hi
    obtain ⟨b2,o2,k2,hv2,hb2',ci2⟩:=HOS3.out.cell i hi2
    injection hv1 with hv11 _ hv12
    injection hv2 with hv21 _ hv22
    subst hv11 hv21
    clear hv12 hv22
    have hpi:=HZ.out i hi
    have hoi:=HZ2.out i hi2
    have HFN:=hid (show fillF (ps.map L) (os.map L) (L s)=(fillF (ps.map L) (os.map L) (L (bB.extract ps[i].size bB.size))).map ((acc++L pB++L os[i])++·) by
     rw [HFL.out,HFA.out,HRR.out]
     show Option.map _ (Option.map _ _)=_
     rw [Option.map_map,L_suffix]
     congr 1
     funext x
     have e1:(os.map L).getD i []=L os[i]:=by rw [List.getD_eq_getElem?_getD,List.getElem?_map,List.getElem?_eq_getElem hi2];rfl
     simp only [Function.comp_apply,e1,List.append_assoc])
    rintro e w4 ⟨rfl,rfl⟩
    have kw:decide (((i:Nat):Int)<0)=false:=by simp
    have kw1:decide (((i:Nat):Int)<(ps.length:Int))=true:=by simp;omega
    have kw2:decide (((i:Nat):Int)<(os.length:Int))=true:=by simp;omega
    have hb3:((ps[i].size:Nat):Int)≤((bB.size:Nat):Int):=by omega
    have hwi:whichOf (some (i,ps[i].size))=((i:Nat):Int):=rfl
    rw [hwi]
    go_wp2_with fail
    refine (write_any B B _ os[i] _ HBK.out (by rw [List.length_append,L_length];omega) (Nat.le_of_lt hzr3)).mono ?_
    rintro e w5 ⟨rfl,hbd5,hb5⟩
    have HBK5:=hid hbd5
    have HBL5:=hid (HBL.out.trans hb5)
    have hzr5:B<w5.heap.size:=Nat.lt_of_lt_of_le hzr3 hb5.size
    have e3:=(HROW.out.upto HBL5.out hbmB).cell 3 (by simp)
    have ci5:=((HPS.out.below (by rw [HB.out];exact HBL5.out)).cell i hi)
    obtain ⟨_,_,_,hv5,_,ci5⟩:=ci5
    injection hv5 with hv51 _ hv52
    injection hv51 with hv51
    injection hv51 with hv53 hv54
    subst hv53 hv54
    clear hbd5 hb5 hv52
    go_wp2
    go_roundg ((bB.extract ps[i].size bB.size).size+1)
    case measure=>rw [ByteArray.size_extract];omega
    case rel=>exact ⟨bB.extract ps[i].size bB.size,acc++L pB++L os[i],rfl,rfl,by rw [ByteArray.size_extract];omega,by rw [List.length_append,List.length_append,L_length,L_length,ByteArray.size_extract];omega,HFN.out,HBK5.out,HBL5.out,hzr5⟩
end
section
attribute [local go_sem ↓] Go.wp_at_zero Go.wp_at_succ
theorem ownsRow_belowP {w w':World}{base e size:Nat}{v:Value}{n:Nat}{xs:List Value}(h:w.ownsRow base e size v n xs) (hb:Below w.heap.size w w'):w'.ownsRow base e size v n xs:=
 ⟨h.1,h.2.imp id fun ⟨g,cap,cur,h1,h2,h3,h4⟩=>⟨g,cap,cur,h1,h2,by rw [hb.block g (Array.getElem?_eq_some_iff.1 h3).1];exact h3,h4⟩⟩
theorem filledP_len (ps os:List (List UInt8)) (l:List UInt8):(filledP ps os l).2.length≤80:=by
 unfold filledP
 split
 ·simp
 ·split
  ·simp
  ·simp;omega
def MReadPost (B t bm:Nat) (v lv:Value) (ls:List ByteArray) (k:Nat) (rest:List Value) (opens:List OpenP) (r:Int×WordsP) (w:World) (e:Ending) (w':World):Prop:=
 (r.1=0→ReadPost B t bm v lv ls k rest opens r.2 w e w')∧(r.1≠0→e=.returned (.tuple #[.agg noParts.toArray,.int .i64 r.1])∧FrC B [bm] w w')
set_option maxRecDepth 100000 in
set_option maxHeartbeats 1600000 in
theorem mread_any (w:World) (B bm:Nat) (v lv:Value) (ls:List ByteArray) (k:Nat) (pv ov:Value) (ps os:List ByteArray) (opens:List OpenP) (h:ReadAt w B 209 bm v lv ls k [pv,ov] opens) (hk:k<ls.length) (hbm:B≤bm) (hsz:ls[k].size≤100) (hcut:cutL (L ls[k])=L ls[k]) (hm:MaxAt w) (hB:0<B)
  (hps:StrV w 0 pv ps) (hos:StrV w 0 ov os) (hlen:ps.length=os.length) (hl:ps.length≤1000) (hz:∀k (h:k<ps.length),ps[k].size≤100) (hz2:∀k (h:k<os.length),os[k].size≤100) :
  Calls Tryz.prog 202 #[.pointer (some ⟨bm,0,none⟩)] w (MReadPost B 209 bm v lv ls (k+1) [pv,ov] opens (readP (some (ps.map L,os.map L)) (overP opens) (cutL (L ls[k]))) w):=by
 have HH:=hid (h.below ((Below.refl w.heap.size w).alloc (Nat.le_refl _) (.cells noParts.toArray 101)))
 have HF:=hid (show FrC B [bm] w (w.alloc (.cells noParts.toArray 101)) from (FrC.refl _ _ _).alloc _)
 have HR:=hid (RowT.new w 101 noParts)
 have HM:=hid (show MaxAt (w.alloc (.cells noParts.toArray 101)) from hm.below ((Below.refl _ _).alloc (Nat.le_refl _) _))
 have HPS:=hid (hps.below ((Below.refl w.heap.size w).alloc (Nat.le_refl _) (.cells noParts.toArray 101)))
 have HOS:=hid (hos.below ((Below.refl w.heap.size w).alloc (Nat.le_refl _) (.cells noParts.toArray 101)))
 have HCUT:=hid hcut
 have HLEN:=hid hlen
 have HZ:=hid hz
 have HZ2:=hid hz2
 clear h hm hps hos hcut hlen hz hz2
 go_enter Tryz.func202,Tryz.ntmps202
 go_wp2_with fail
 refine (passing_any _ B 209 bm v _ opens HH.out.cond).mono ?_
 cases hov:overP opens with
 |true =>
  rintro e w0 ⟨rfl,rfl⟩
  go_wp2_with fail
  refine (lread_any _ B 209 bm v lv ls k [pv,ov] opens HH.out hk (by decide) (by decide) (by decide) rfl hbm (by omega) HM.out hB).mono ?_
  rintro e w1 ⟨lb,op,va,vc,ws,rfl,hpv,hra,hfr⟩
  have HPV:=hid hpv
  have HRA:=hid hra
  have HF:=hid (HF.out.trans hfr)
  have HR:=hid (HR.out.fr hfr rfl (fun h=>by cases h))
  have x0:=HR.out.cell 0 (by decide)
  have x1:=HR.out.cell 1 (by decide)
  have x2:=HR.out.cell 2 (by decide)
  have z0:=HR.out.free 0
  have z1:=HR.out.free 1
  have z2:=HR.out.free 2
  have hlt:=HR.out.lt
  clear hpv hra hfr
  go_wp2
  refine bodyPost_ret (v:=.tuple #[.agg #[.string lb,.string op,.slice va ws.length vc],.int .i64 0]) (by simp [results,Tryz.results202,go_sem,x0,x1,x2]) rfl ?_
  rw [hov]
  refine ⟨fun _=>⟨lb,op,va,vc,ws,rfl,?_,?_,?_⟩,fun h=>absurd rfl h⟩
  ·rw [show (readP (some (ps.map L,os.map L)) true (cutL (L ls[k]))).2=wordsP (cutL (cutL (L ls[k]))) from rfl,cutL_twice]
   exact ((HPV.out.set HR.out (by decide) _).set (HR.out.set 0 _) (by decide) _).set ((HR.out.set 0 _).set 1 _) (by decide) _
  ·exact ((HRA.out.off HR.out (by decide) (by decide) (by decide) _).off (HR.out.set 0 _) (by decide) (by decide) (by decide) _).off ((HR.out.set 0 _).set 1 _) (by decide) (by decide) (by decide) _
  ·exact ((HF.out.setNew (Nat.le_refl _) _).setNew (Nat.le_refl _) _).setNew (Nat.le_refl _) _
 |false =>
  rintro e w0 ⟨rfl,rfl⟩
  go_wp2_with fail
  refine (take_any _ B 209 bm v lv ls k [pv,ov] opens HH.out hk (by decide) (by decide) rfl hbm).mono ?_
  rintro e w1 ⟨rfl,hra,hfr⟩
  have HRA:=hid hra
  have HF:=hid (HF.out.trans hfr)
  have HR:=hid (HR.out.fr hfr rfl (fun h=>by cases h))
  have HM:=hid (HM.out.fr hfr hB)
  have HPS:=hid (HPS.out.frc hfr)
  have HOS:=hid (HOS.out.frc hfr)
  clear hra hfr
  go_wp2_with fail
  refine (fill_any _ bm v lv _ pv ov ps os ls[k] HRA.out.cond.row HPS.out HOS.out HLEN.out hl HZ.out HZ2.out (by omega) HM.out).mono ?_
  obtain ⟨fr,hfr⟩:∃fr,filledP (ps.map L) (os.map L) (L ls[k])=fr:=⟨_,rfl⟩
  rw [hfr]
  obtain ⟨er,tl⟩:=fr
  have htl:tl.length≤80:=by have:=filledP_len (ps.map L) (os.map L) (L ls[k]);rw [hfr] at this;exact this
  rintro e w2 ⟨t,ht,rfl,hb2⟩
  have ht':L t=tl:=ht
  subst ht'
  have hts:t.size≤100000:=by rw [L_length] at htl;omega
  have HRP:=hid (show readP (some (ps.map L,os.map L)) false (cutL (L ls[k]))=if er≠0 then (er,⟨[],[],[]⟩) else (0,wordsP (cutL (L t))) by
   rw [HCUT.out];simp only [readP,hfr])
  have HRA:=hid (HRA.out.below hb2)
  have HF:=hid (HF.out.trans (FrC.of_below hb2))
  have HR:=hid (HR.out.below hb2)
  have HM:=hid (HM.out.below hb2)
  clear hb2 hfr ht htl
  by_cases her:er=0
  ·subst her
   go_wp2_with fail
   refine (Read_any t _ hts HM.out).mono ?_
   rintro e w3 ⟨lb,op,v2,ws,rfl,hpv,hb3⟩
   obtain ⟨va,vc,hv⟩:=hpv.at_.form
   subst hv
   have HPV:=hid (hpv.mono (Nat.zero_le _))
   have HRA:=hid (HRA.out.below hb3)
   have HF:=hid (HF.out.trans (FrC.of_below hb3))
   have HR:=hid (HR.out.below hb3)
   have x0:=HR.out.cell 0 (by decide)
   have x1:=HR.out.cell 1 (by decide)
   have x2:=HR.out.cell 2 (by decide)
   have z0:=HR.out.free 0
   have z1:=HR.out.free 1
   have z2:=HR.out.free 2
   have hlt:=HR.out.lt
   clear hpv hb3
   go_wp2
   refine bodyPost_ret (v:=.tuple #[.agg #[.string lb,.string op,.slice va ws.length vc],.int .i64 0]) (by simp [results,Tryz.results202,go_sem,x0,x1,x2]) rfl ?_
   rw [hov,HRP.out,if_neg (by simp)]
   refine ⟨fun _=>⟨lb,op,va,vc,ws,rfl,?_,?_,?_⟩,fun h=>absurd rfl h⟩
   ·exact ((HPV.out.set HR.out (by decide) _).set (HR.out.set 0 _) (by decide) _).set ((HR.out.set 0 _).set 1 _) (by decide) _
   ·exact ((HRA.out.off HR.out (by decide) (by decide) (by decide) _).off (HR.out.set 0 _) (by decide) (by decide) (by decide) _).off ((HR.out.set 0 _).set 1 _) (by decide) (by decide) (by decide) _
   ·exact ((HF.out.setNew (Nat.le_refl _) _).setNew (Nat.le_refl _) _).setNew (Nat.le_refl _) _
  ·have ke:(er != 0)=true:=by simpa using her
   have x0:=HR.out.cell 0 (by decide)
   have x1:=HR.out.cell 1 (by decide)
   have x2:=HR.out.cell 2 (by decide)
   have z0:=HR.out.free 0
   have z1:=HR.out.free 1
   have z2:=HR.out.free 2
   have hlt:=HR.out.lt
   go_wp2
   refine bodyPost_ret (v:=.tuple #[.agg noParts.toArray,.int .i64 er]) (by simp [results,Tryz.results202,go_sem,x0,x1,x2,noParts]) rfl ?_
   rw [hov,HRP.out,if_pos her]
   exact ⟨fun h=>absurd h her,fun _=>⟨rfl,((HF.out.setNew (Nat.le_refl _) _).setNew (Nat.le_refl _) _).setNew (Nat.le_refl _) _⟩⟩
theorem op_is {op:ByteArray}{l:List UInt8}(h:L op=l):(op.toList==l)=true:=by
 rw [ByteArray.toList_eq];unfold L at h;rw [h];simp
theorem op_not {op:ByteArray}{l:List UInt8}(h:¬L op=l):(op.toList==l)=false:=by
 rw [ByteArray.toList_eq,beq_eq_false_iff_ne];exact h
theorem operandsOf_bd (l:List UInt8):(operandsOf l).length≤l.length+1∧∀x∈operandsOf l,x.length≤l.length:=by
 unfold operandsOf
 have h:=noBlank_le l
 split
 ·exact ⟨by simp,by simp⟩
 ·refine ⟨Nat.le_trans (splitB_len _ _) (by omega),fun x hx=>Nat.le_trans (splitB_each _ _ x hx) h⟩
theorem wordsP_bd (l:List UInt8):(wordsP l).label.length≤l.length∧(wordsP l).op.length≤l.length∧(wordsP l).operands.length≤l.length+1∧∀x∈(wordsP l).operands,x.length≤l.length:=by
 have h1:=wordOf_le l
 have h2:=restOf_le l
 have h3:=wordOf_le (restOf l)
 have h4:=restOf_le (restOf l)
 unfold wordsP
 split
 ·have h5:=operandsOf_bd (restOf (restOf l))
  exact ⟨by simp;omega,by simp;omega,by simp;omega,fun x hx=>Nat.le_trans (h5.2 x hx) (by omega)⟩
 ·have h5:=operandsOf_bd (restOf l)
  exact ⟨by simp,by simp;omega,by simp;omega,fun x hx=>Nat.le_trans (h5.2 x hx) (by omega)⟩
theorem PartsV.bd {w:World}{C:Nat}{lb op:ByteArray}{v:Value}{os:List ByteArray}{l:List UInt8}(h:PartsV w C lb op v os (wordsP l)):lb.size≤l.length∧op.size≤l.length∧os.length≤l.length+1∧∀k (hk:k<os.length),os[k].size≤l.length:=by
 obtain ⟨h1,h2,h3,h4⟩:=wordsP_bd l
 refine ⟨by rw [size_L,h.label];exact h1,by rw [size_L,h.op];exact h2,?_,fun k hk=>?_⟩
 ·have:=congrArg List.length h.ops;rw [List.length_map] at this;omega
 ·rw [size_L];exact h4 _ (by rw [←h.ops];exact List.mem_map.2 ⟨_,List.getElem_mem hk,rfl⟩)
theorem own_strV {w:World}{C:Nat}{v:Value}{bs:List ByteArray}(h:w.ownsRow C 9 1 v bs.length (bs.map Value.string)):StrV w C v bs:=by
 rcases h.2 with ⟨rfl,h0⟩|⟨g,cap,cur,rfl,hg,hh,hc,_,_,htk⟩
 ·exact Or.inl ⟨rfl,List.eq_nil_of_length_eq_zero h0⟩
 ·refine Or.inr ⟨g,0,cap,cur,rfl,hg,hh,hc,fun i hi=>?_⟩
  have h1:(bs.map Value.string)[i]?=some (.string bs[i]):=by rw [List.getElem?_map,List.getElem?_eq_getElem hi];rfl
  rw [←htk,Nat.mul_one,List.getElem?_take,if_pos hi] at h1
  rw [Nat.zero_add]
  simpa using h1
theorem infoString':(Tryz.prog.info? 9).map (fun i=>(i.zero,i.size,i.bytes))=some (some (.string ⟨#[]⟩),1,16):=by kernel_rfl
theorem FrE.grownNew {E:TypeId→Bool}{B:Nat}{M:List Nat}{a w w':World}{row:Option Nat}(h:FrE E B M a w) (hg:w.grownBy w' row) (hr:∀g,row=some g→a.heap.size≤g):FrE E B M a w':=
 ⟨hg.os.trans h.os,hg.tape.trans h.tape,hg.output.trans h.output,Nat.le_trans h.size hg.size,fun k o ho hk=>by
  have hlt:k<a.heap.size:=(Array.getElem?_eq_some_iff.1 ho).1
  have h1:=h.block k o ho hk
  rw [hg.block k (Array.getElem?_eq_some_iff.1 h1).1 (fun e=>by have:=hr k e.symm;omega)];exact h1⟩
theorem CondAt.grownS {w w':World}{B t bm:Nat}{v:Value}{rest:List Value}{opens:List OpenP}(h:CondAt w B t bm v rest opens) {C n size:Nat}{u:Value}{xs:List Value}{e:Nat}(hu:w.ownsRow C e size u n xs) (hg:w.grownBy w' u.ownBlock) (ht:e≠t) (hc:257≠e):CondAt w' B t bm v rest opens:=
 ⟨RowT.grown' h.row hg (Ne.symm (own_row_ne hu h.row ht)),h.own.kept hg (by
  cases hv:v.ownBlock with
  |none=>exact Or.inl rfl
  |some g =>
   right
   intro e1
   exact own_own_ne h.own hu hc (g:=g) (by rw [←e1]) hv),h.few⟩
def BodyPost (B t bm:Nat) (v lv:Value) (ls:List ByteArray) (k:Nat) (rest:List Value) (opens:List OpenP) (r:Int×List (List UInt8)×Nat) (w:World) (e:Ending) (w':World):Prop:=
 ∃bv,e=.returned (.tuple #[bv,.int .i64 r.1])∧ReadAt w' B t bm v lv ls (k+r.2.2) rest opens∧FrC B [bm] w w'∧(∃ba bn bc,bv=.slice ba bn bc)∧(r.1=0→∃bs,bs.map L=r.2.1∧StrV w' w.heap.size bv bs)
theorem bodyP_at (d:List (List UInt8)) (ls:List ByteArray) (k:Nat) (h:k<ls.length):bodyP d ((ls.drop k).map L) =
  if (wordsP (cutL (L ls[k]))).op=opMacro then (2,d,1)
  else if (wordsP (cutL (L ls[k]))).op=opEnd then (if bareW (wordsP (cutL (L ls[k]))) then 0 else 4,d,1)
  else ((bodyP (d++[cutL (L ls[k])]) ((ls.drop (k+1)).map L)).1,(bodyP (d++[cutL (L ls[k])]) ((ls.drop (k+1)).map L)).2.1,(bodyP (d++[cutL (L ls[k])]) ((ls.drop (k+1)).map L)).2.2+1):=by
 rw [List.drop_eq_getElem_cons h,List.map_cons];rfl
set_option maxRecDepth 100000 in
set_option maxHeartbeats 1600000 in
theorem takeBody_any (w:World) (B t bm:Nat) (v lv:Value) (ls:List ByteArray) (k:Nat) (rest:List Value) (opens:List OpenP) (h:ReadAt w B t bm v lv ls k rest opens) (htc:257≠t) (hts:t≠9) (ht:rT t=true) (hbm:B≤bm) (hsz:∀j (h:j<ls.length),ls[j].size≤100) (hm:MaxAt w) (hB:0<B) (r:Int×List (List UInt8)×Nat) (hr:bodyP [] ((ls.drop k).map L)=r) :
  Calls Tryz.prog 142 #[.pointer (some ⟨bm,0,none⟩)] w (BodyPost B t bm v lv ls k rest opens r w):=by
 obtain ⟨i0,hi0,hz0,hz1,hz2⟩:=info_parts infoString'
 have hfew:=h.few
 have HH:=hid h
 have HSZ:=hid hsz
 have HM:=hid hm
 have HR:=hid hr
 clear h hsz hm hr
 go_enter Tryz.func142,Tryz.ntmps142
 go_wp2_with fail
 go_loopg [4] (ls.length-k+1) (fun q x wr=>∃(bs:List ByteArray) (bv:Value),q+bs.length=ls.length-k+1∧x=bv∧wr.ownsRow w.heap.size 9 1 bv bs.length (bs.map Value.string)∧ReadAt wr B t bm v lv ls (k+bs.length) rest opens∧FrC B [bm] w wr∧r=((bodyP (bs.map L) ((ls.drop (k+bs.length)).map L)).1,(bodyP (bs.map L) ((ls.drop (k+bs.length)).map L)).2.1,(bodyP (bs.map L) ((ls.drop (k+bs.length)).map L)).2.2+bs.length))
 case atStart=>exact ⟨[],.slice none 0 0,by simp,rfl,World.ownsRow_nil _ _ _ _,HH.out,FrC.refl _ _ _,HR.out.symm⟩
 case round =>
  obtain ⟨bs,bv,hq,rfl,hown,hra,hfr,hrr⟩:=hrel
  have HOWN:=hid hown
  have HRA:=hid hra
  have HFR:=hid hfr
  have HRR:=hid hrr
  have HMr:=hid (HM.out.fr hfr hB)
  obtain ⟨ba,bc,hbv⟩:=(own_strV hown).form
  subst hbv
  clear hown hra hfr hrr
  go_wp2_with fail
  refine (more_any _ B t bm v lv ls (k+bs.length) rest opens HRA.out).mono ?_
  by_cases hlt:k+bs.length<ls.length
  ·rw [decide_eq_true hlt]
   rintro e w1 ⟨rfl,hb1⟩
   have HRA:=hid (HRA.out.below hb1)
   have HFR:=hid (HFR.out.trans (FrC.of_below hb1))
   have HMr:=hid (HMr.out.below hb1)
   have HOWN:=hid (ownsRow_belowP HOWN.out hb1)
   clear hb1
   go_wp2_with fail
   refine (take_any _ B t bm v lv ls (k+bs.length) rest opens HRA.out hlt htc hts ht hbm).mono ?_
   rintro e w2 ⟨rfl,hra,hfr⟩
   have HRA:=hid hra
   have HFR:=hid (HFR.out.trans hfr)
   have HMr:=hid (HMr.out.fr hfr hB)
   have HOWN:=hid (ownsRow_fr HOWN.out hfr rfl (fun h=>by cases h))
   have hls:=HSZ.out (k+bs.length) hlt
   clear hra hfr
   have hrr:=HRR.out
   rw [bodyP_at _ _ _ hlt] at hrr
   obtain ⟨x,hx⟩:∃x,ls[k+bs.length]=x:=⟨_,rfl⟩
   rw [hx] at hls hrr
   have HX:=hid hx
   rw [hx]
   have HRRX:=hid hrr
   clear hx hrr
   go_wp2_with fail
   refine (Read_any x _ (by omega) HMr.out).mono ?_
   rintro e w3 ⟨lb,op,v2,ws,rfl,hpv,hb3⟩
   obtain ⟨va,vc,hv⟩:=hpv.at_.form
   subst hv
   have hwl:ws.length≤1000:=by
    have h5:=hpv.bd.2.2.1
    have:=cutL_le (L x)
    rw [L_length] at this
    omega
   have HPV:=hid hpv
   have HRA:=hid (HRA.out.below hb3)
   have HFR:=hid (HFR.out.trans (FrC.of_below hb3))
   have HMr:=hid (HMr.out.below hb3)
   have HOWN:=hid (ownsRow_belowP HOWN.out hb3)
   clear hpv hb3
   have hra4:=HRA.out.below ((Below.refl w3.heap.size w3).alloc (Nat.le_refl _) (.cells #[.string lb,.string op,.slice va ws.length vc] 101))
   have HRA4:=hid hra4
   have HFR4:=hid (HFR.out.alloc (.cells #[.string lb,.string op,.slice va ws.length vc] 101))
   have HMr4:=hid (HMr.out.below ((Below.refl w3.heap.size w3).alloc (Nat.le_refl _) (.cells #[.string lb,.string op,.slice va ws.length vc] 101)))
   have HOWN4:=hid (HOWN.out.alloc (.cells #[.string lb,.string op,.slice va ws.length vc] 101))
   clear hra4
   have hrr:=HRRX.out
   by_cases h1:(wordsP (cutL (L x))).op=opMacro
   ·rw [if_pos h1] at hrr
    subst hrr
    have ko:(op.toList==[46,109,97,99,114,111])=true:=op_is (by rw [HPV.out.op,h1];rfl)
    clear h1
    go_wp2_with fail
    go_ret2
    refine ⟨_,rfl,?_,HFR4.out,⟨_,_,_,rfl⟩,fun h=>by cases h⟩
    have:=HRA4.out
    rw [show k+bs.length+1=k+(1+bs.length) from by omega] at this
    exact this
   ·rw [if_neg h1] at hrr
    have ko:(op.toList==[46,109,97,99,114,111])=false:=op_not (by rw [HPV.out.op];exact h1)
    clear h1
    by_cases h2:(wordsP (cutL (L x))).op=opEnd
    ·rw [if_pos h2] at hrr
     have ko2:(op.toList==[46,101,110,100])=true:=op_is (by rw [HPV.out.op,h2];rfl)
     have HBW:=hid HPV.out.bare
     clear h2
     cases hbw:bareW (wordsP (cutL (L x))) with
     |true =>
      rw [hbw,if_pos rfl] at hrr
      subst hrr
      have HB2:=hid (HBW.out.symm.trans hbw)
      clear hbw
      go_wp2_with (first|(go_at_call 165;refine (needBare_any lb op va ws.length vc _ true (by unfold maxLen;omega) HB2.out).mono ?_;rintro e w4 ⟨rfl,hb4⟩))
      go_ret2
      refine ⟨_,rfl,?_,HFR4.out.trans (FrC.of_below hb4),⟨_,_,_,rfl⟩,fun _=>⟨bs,rfl,own_strV (ownsRow_belowP HOWN4.out hb4)⟩⟩
      have:=HRA4.out.below hb4
      rw [show k+bs.length+1=k+(1+bs.length) from by omega] at this
      exact this
     |false =>
      rw [hbw,if_neg (by simp)] at hrr
      subst hrr
      have HB2:=hid (HBW.out.symm.trans hbw)
      clear hbw
      go_wp2_with (first|(go_at_call 165;refine (needBare_any lb op va ws.length vc _ false (by unfold maxLen;omega) HB2.out).mono ?_;rintro e w4 ⟨rfl,hb4⟩))
      go_ret2
      refine ⟨_,rfl,?_,HFR4.out.trans (FrC.of_below hb4),⟨_,_,_,rfl⟩,fun h=>by cases h⟩
      have:=HRA4.out.below hb4
      rw [show k+bs.length+1=k+(1+bs.length) from by omega] at this
      exact this
    ·rw [if_neg h2] at hrr
     have ko2:(op.toList==[46,101,110,100])=false:=op_not (by rw [HPV.out.op];exact h2)
     have HRN:=hid hrr
     clear h2 hrr
     go_wp2_with fail
     refine (WithoutRemark_any x _ (by omega) HMr4.out).mono ?_
     rintro e w5 ⟨tt,htt,rfl,hb5⟩
     have HTT:=hid htt
     have HRA5:=hid (HRA4.out.below hb5)
     have HFR5:=hid (HFR4.out.trans (FrC.of_below hb5))
     have HOWN5:=hid (ownsRow_belowP HOWN4.out hb5)
     have hsz5:w.heap.size≤w5.heap.size:=HFR5.out.size
     clear hb5 htt
     go_wp2_with ((at_builtin;refine wpList_append_lies _ rfl (.tmp 22) (.tmp 25) 65 rfl w.heap.size 9 i0 _ 1 16 Tryz.underlying65 hi0 hz0 hz1 hz2 rfl (by omega) (.slice ba bs.length bc) bs.length (bs.map Value.string) rfl (HOWN5.out.alloc _) ⟨w5.heap.size,0,none⟩ 1 1 [.string tt] rfl rfl (World.news_of_block (cs:=#[.string tt]) (t:=9) (fr:=(0,0)) (heap_alloc_new _ _)) (by simp [Value.oneCell']) (by omega) (by unfold maxLen;omega) (by omega) (by simp;omega) _ rfl ?_;intro gg cap' w6 hown6 hgrow hat hlt6))
     have HFR6:=hid ((HFR5.out.alloc _).grownNew hgrow (fun g hg=>(HOWN5.out.lt g hg).1))
     have hra6:ReadAt w6 B t bm v lv ls (k+bs.length+1) rest opens:=⟨(HRA5.out.cond.alloc _).grownS (HOWN5.out.alloc _) hgrow (Ne.symm hts) (by decide),HH.out.strs.frc HFR6.out,HRA5.out.le,HRA5.out.few⟩
     have HRA6:=hid hra6
     have HOWN6:=hid hown6
     clear hown6 hgrow hat hra6
     go_wp2
     go_roundg (gk-1)
     case measure=>omega
     case rel =>
      refine ⟨bs++[tt],.slice (some ⟨gg,0,none⟩) (bs.length+1) cap',by rw [List.length_append];simp;omega,rfl,?_,?_,HFR6.out,?_⟩
      ·have:=HOWN6.out
       rw [List.map_append,List.length_append]
       exact this
      ·rw [List.length_append]
       exact HRA6.out
      ·rw [List.map_append,List.length_append,HRN.out]
       simp only [List.map_cons,List.map_nil,HTT.out,List.length_cons,List.length_nil]
       rw [show k+(bs.length+(0+1))=k+bs.length+1 from by omega,show bs.length+(0+1)=1+bs.length from by omega]
       simp only [Nat.add_assoc]
  ·rw [decide_eq_false hlt]
   have hrr:=HRR.out
   rw [List.drop_eq_nil_of_le (by omega)] at hrr
   have hrr':r=(2,bs.map L,0+bs.length):=hrr
   subst hrr'
   clear hrr
   rintro e w1 ⟨rfl,hb1⟩
   go_wp2
   go_ret2
   refine ⟨_,rfl,?_,HFR.out.trans (FrC.of_below hb1),⟨_,_,_,rfl⟩,fun h=>by cases h⟩
   have:=HRA.out.below hb1
   rw [←Nat.zero_add bs.length] at this
   exact this
end
end Go.Proofs.YtcepppilgncdmaaGreatDoor
