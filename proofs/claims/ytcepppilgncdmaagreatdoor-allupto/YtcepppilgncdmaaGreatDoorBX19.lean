/-
  Joined: BkKeep BkName BkByte.
-/
import Derived.Test.YtcepppilgncdmaaGreatDoorBX18
namespace Go.Proofs.YtcepppilgncdmaaGreatDoor
open Go.RowKit
theorem marks_append {w w2 w3:World}{B e q n m g cap:Nat}{v:Value}{news:List Value}(hv:w.ownsRow B e 4 v n (reps (markL q) n)) (ha:w.grownBy w2 none) (hnews:news=reps (markL q) m)
  (ho:w3.ownsRow B e 4 (.slice (some ⟨g,0,none⟩) (n+m) cap) (n+m) (reps (markL q) n++news)) (hg:w2.grownBy w3 v.ownBlock) (hor:v=.slice (some ⟨g,0,none⟩) n cap∨(w2.heap.size≤g∧w2.grownBy w3 none)) :
  w3.ownsRow B e 4 v n (reps (markL q) n)∧(∀u k,k≤n+m→Share n v u k→w.ownsRow B e 4 u k (reps (markL q) k)→w3.ownsRow B e 4 u k (reps (markL q) k)) ∧
   Share n v (.slice (some ⟨g,0,none⟩) (n+m) cap) (n+m)∧w3.ownsRow B e 4 (.slice (some ⟨g,0,none⟩) (n+m) cap) (n+m) (reps (markL q) (n+m))∧w.grownBy w3 v.ownBlock:=by
 subst hnews
 have al:∀{u:Value} {k:Nat} {xs:List Value},w.ownsRow B e 4 u k xs→w2.ownsRow B e 4 u k xs:=fun {u k xs} h=>h.kept ha (by cases hub:u.ownBlock<;>simp)
 have st:∀u k,k≤n+m→Share n v u k→w.ownsRow B e 4 u k (reps (markL q) k)→w3.ownsRow B e 4 u k (reps (markL q) k):=fun u k hk hs hu =>
  marks_stay (mk:=markL q) rfl (al hu) hg ho hor (fun p h1 h2=>⟨hk,hs p h1 h2⟩)
 refine ⟨st v n (by omega) (share_self hv) hv,st,share_or (al hv) hor,?_,grown_trans (grown_any ha) hg⟩
 rw [reps_add];exact ho
theorem book_step {w0 w w2 w4:World}{M:List Nat}{lo B kb g cap N:Nat}{v0 vb nv bv u:Value}{us:List Value}(hN:us.length=N) (hK:Keeps M w0 w) (hkM:kb∈M) (hv0:∀p,v0.ownBlock=some p→p∈M)
  (hV:∀p,vb.ownBlock=some p→v0.ownBlock=some p∨w0.heap.size≤p) (h:BookAt w lo B kb vb nv bv us) (hB:B≤w.heap.size) (ha:w.grownBy w2 none) (hg:w2.grownBy w4 vb.ownBlock)
  (ho:w4.ownsRow lo 26 1 (.slice (some ⟨g,0,none⟩) (N+1) cap) (N+1) (us++[u])) (hl:g<w4.heap.size) (hor:vb=.slice (some ⟨g,0,none⟩) N cap∨(w2.heap.size≤g∧w2.grownBy w4 none))
  (hu:∃k,w.ownsRow 0 38 4 u k (reps (markL (N / 4)) k)) {w7:World} (hw:w4.setCell ⟨kb,0,none⟩ (.slice (some ⟨g,0,none⟩) (N+1) cap)=w7) :
  BookAt w7 lo w7.heap.size kb (.slice (some ⟨g,0,none⟩) (N+1) cap) nv bv (us++[u])∧Keeps M w0 w7∧(∀p,(Value.slice (some ⟨g,0,none⟩) (N+1) cap).ownBlock=some p→v0.ownBlock=some p∨w0.heap.size≤p) ∧
   (∀b n u xs,w.ownsRow b 38 4 u n xs→w7.ownsRow b 38 4 u n xs):=by
 subst hN
 have hs:w7.heap.size=w4.heap.size:=by rw [←hw];simp [World.setCell]
 refine ⟨by rw [hs,←hw];exact h.more hB ha hg ho hl hu,?_,?_,fun b n u xs h1=>by rw [←hw];exact h.stays ha hg h1⟩
 ·rw [←hw]
  refine ((hK.grown ha (by simp)).grown hg (fun p hp=>?_)).setCell (p:=⟨kb,0,none⟩) hkM _
  exact (hV p hp).imp (hv0 p) id
 ·intro p hp
  rcases hor with e|⟨e,_⟩
  ·exact hV p (by rw [e];exact hp)
  ·right
   simp only [Value.ownBlock,Option.some.injEq] at hp
   have h1:=hK.size
   have h2:=ha.size
   omega
set_option maxRecDepth 100000 in
set_option maxHeartbeats 800000 in
theorem keepsLines_any (w:World) (lo B kb:Nat) (vb nv bv:Value) (us:List Value) (a:Option Addr) (n cap:Nat) (xs:List Value) (hbk:BookAt w lo B kb vb nv bv us) (hB:B≤w.heap.size) (hlo:lo≤B)
  (hown:w.ownsRow B 38 4 (.slice a n cap) n xs) (hn:n≤300) (hus:us.length%4=0) (hN:(us.length+4)*24≤140737488355328) :
  Calls Tryz.prog 40 #[.pointer (some ⟨kb,0,none⟩),.slice a n cap] w fun e w'=>e=.returned (.tuple #[])∧∃vb' us',us'.length=4∧BookAt w' lo w'.heap.size kb vb' nv bv (us++us')∧(∀p,vb'.ownBlock=some p→vb.ownBlock=some p∨B≤p)∧Keeps (kb::(vb.ownBlock.toList++(Value.slice a n cap).ownBlock.toList)) w w':=by
 obtain ⟨i0,hi0,hz0,hz1,hz2⟩:=info_parts info_line
 obtain ⟨il,hil,hl0,hl1,hl2⟩:=info_parts info_lines
 have c0:w.cell? ⟨kb,0,none⟩=some vb:=hbk.row.cell 0 (by simp)
 have hkl:=hbk.row.lt
 obtain ⟨ab,cb,rfl⟩:∃ab cb,vb=.slice ab us.length cb:=by
  rcases hbk.own.2 with ⟨rfl,h0⟩|⟨g,cap',cur,rfl,_⟩
  ·exact ⟨none,0,by rw [h0]⟩
  ·exact ⟨_,_,rfl⟩
 have hN1:us.length≤5864062014801:=by omega
 obtain ⟨N,hNe⟩:∃N,us.length=N:=⟨_,rfl⟩
 obtain ⟨q,hq⟩:∃q,N / 4=q:=⟨_,rfl⟩
 rw [hNe] at c0 hN1
 have hq1:Int.tdiv (N:Int) 4=(q:Int):=by rw [Int.tdiv_eq_ediv_of_nonneg (by omega)];omega
 have HBK:=hid hbk
 have HOWN:=hid hown
 clear hbk hown
 go_enter Tryz.func40,Tryz.ntmps40
 go_wp2_with fail
 have hmk:markL q=[.string ⟨#[]⟩,.int .i64 (-1000-(q:Int)),.int .i64 0,.int .i64 0]:=rfl
 generalize -1000-(q:Int)=z at hmk ⊢
 have HMK:=hid hmk
 clear hmk
 generalize hw1:w.alloc (Obj.cells #[.string ⟨#[]⟩,.int .i64 z,.int .i64 0,.int .i64 0] 38)=w1
 have hm1:RowT w1 38 w.heap.size [.string ⟨#[]⟩,.int .i64 z,.int .i64 0,.int .i64 0]:=by rw [←hw1];exact RowT.new w _ _
 have hown1:w1.ownsRow B 38 4 (.slice a n cap) n xs:=by rw [←hw1];exact HOWN.out.alloc _
 have hg1:w.grownBy w1 none:=by rw [←hw1];exact World.grownBy_alloc w _ none
 have hmb:w.heap.size<w1.heap.size:=hm1.lt
 generalize hmbe:w.heap.size=mb at *
 have HM1:=hid hm1
 have HOWN1:=hid hown1
 have HG1:=hid hg1
 have hane:(Value.slice a n cap).ownBlock≠some mb:=by
  rcases HOWN.out.2 with ⟨h,_⟩|⟨g,c',cur,h,_,hh,_⟩
  ·rw [h];simp [Value.ownBlock]
  ·rw [h]
   simp only [Value.ownBlock,ne_eq,Option.some.injEq]
   have:=(Array.getElem?_eq_some_iff.1 hh).1
   omega
 clear hm1 hown1 hg1 hw1
 go_loopw [5] (fun i wr=>∃(j:Nat) (ys:List Value),j≤n∧i=.int .i64 j∧ys.take (j*4)=reps (markL q) j∧wr.ownsRow B 38 4 (.slice a n cap) n ys∧w1.grownBy wr (Value.slice a n cap).ownBlock) (fun i _=>n-(intOf i).toNat)
 case atStart=>exact ⟨0,xs,Nat.zero_le _,rfl,rfl,HOWN1.out,World.grownBy.refl _ _⟩
 case round =>
  obtain ⟨j,ys,hj,rfl,hys,hor,hgr⟩:=hrel
  have HYS:=hid hys
  have HOR:=hid hor
  have HGR:=hid hgr
  have HMR:=hid (HM1.out.grown' hgr (Ne.symm hane))
  have m0:=HMR.out.cell 0 (by simp)
  have m1:=HMR.out.cell 1 (by simp)
  have m2:=HMR.out.cell 2 (by simp)
  have m3:=HMR.out.cell 3 (by simp)
  simp only [List.getElem_cons_zero,List.getElem_cons_succ] at m0 m1 m2 m3
  have hmr:=HMR.out.lt
  clear hys hor hgr
  by_cases hlt:j<n
  ·obtain ⟨g,cap',hv,hBg,hgl⟩:=HOR.out.form (by omega)
   simp only [Value.slice.injEq,true_and] at hv
   obtain ⟨rfl,rfl⟩:=hv
   have d1:decide ((j:Int)<(n:Int))=true:=by simp;omega
   have hyl:=HOR.out.1
   have c0:=HOR.out.cellAt (j*4) (by omega)
   have c1:=HOR.out.cellAt (j*4+1) (by omega)
   have c2:=HOR.out.cellAt (j*4+2) (by omega)
   have c3:=HOR.out.cellAt (j*4+3) (by omega)
   rw [List.getElem?_eq_getElem (by omega)] at c0 c1 c2 c3
   have hfz:∀i,wr.frozen? ⟨g,i,none⟩=false:=fun i=>by
    rcases HOR.out.2 with ⟨h,_⟩|⟨g',_,cur,h,_,hh,_⟩
    ·cases h
    ·cases h;simp [World.frozen?,hh]
   have f0:=hfz (j*4)
   have f1:=hfz (j*4+1)
   have f2:=hfz (j*4+2)
   have f3:=hfz (j*4+3)
   clear hfz
   go_wp2_with fail
   go_roundw
   case rel=>exact ⟨j+1,((((ys.set (j*4) (.string ⟨#[]⟩)).set (j*4+1) (.int .i64 z)).set (j*4+2) (.int .i64 0)).set (j*4+3) (.int .i64 0)),by omega,by go_num,take_marks HMK.out hyl hlt HYS.out,own_set (own_set (own_set (own_set HOR.out (j*4) _) (j*4+1) _) (j*4+2) _) (j*4+3) _,grown_set4 HGR.out (j*4) (j*4+1) (j*4+2) (j*4+3) _ _ _ _⟩
   case measure=>simp [intOf];omega
  ·have d1:decide ((j:Int)<(n:Int))=false:=by simp;omega
   have hjn:j=n:=by omega
   subst hjn
   have hors:wr.ownsRow B 38 4 (.slice a j cap) j (reps (markL q) j):=by
    have h:=HYS.out
    rw [List.take_of_length_le (by rw [HOR.out.1];omega)] at h
    rw [←h];exact HOR.out
   have HORS:=hid hors
   have HMR0:=HMR
   have hgw:w.grownBy wr (Value.slice a j cap).ownBlock:=grown_trans (grown_any HG1.out) HGR.out
   have HGW:=hid hgw
   clear hors hgw HYS HOR HGR HOWN1 HM1 HG1
   go_upto_region 6 with ((at_builtin;refine wpList_append_both _ rfl (.tmp 27) (.tmp 29) 26 rfl B 38 i0 _ 4 40 Tryz.underlying26 hi0 hz0 hz1 hz2 rfl (by omega) (.slice a j cap) j (reps (markL q) j) rfl (HORS.out.alloc _) ⟨wr.heap.size,0,none⟩ 1 1 [.string ⟨#[]⟩,.int .i64 z,.int .i64 0,.int .i64 0] rfl rfl (World.news_of_block (cs:=#[.string ⟨#[]⟩,.int .i64 z,.int .i64 0,.int .i64 0]) (t:=38) (fr:=(0,0)) (heap_alloc_new _ _)) (by simp [Value.oneCell']) (by omega) (by unfold maxLen;omega) (by omega) (by simp;omega) ?_;intro g1 cap1 w3 hownX hgrX hltX horX))
   obtain ⟨hl1',hst1,hsh1,ho1,hgr1⟩:=marks_append (m:=1) HORS.out (World.grownBy_alloc _ _ none) (by rw [HMK.out];rfl) hownX hgrX horX
   have HMR1:=hid (HMR.out.grown' hgr1 (Ne.symm hane))
   have HL1:=hid hl1'
   have HO1:=hid ho1
   have HS1:=hid hsh1
   have HGW1:=hid (grown_trans HGW.out hgr1)
   have m0:=HMR1.out.cell 0 (by simp)
   have m1:=HMR1.out.cell 1 (by simp)
   have m2:=HMR1.out.cell 2 (by simp)
   have m3:=HMR1.out.cell 3 (by simp)
   simp only [List.getElem_cons_zero,List.getElem_cons_succ] at m0 m1 m2 m3
   have hmr:=HMR1.out.lt
   have hs1:=HGW1.out.size
   clear hownX hgrX hltX horX hl1' hst1 hsh1 ho1 hgr1 HMR HORS HGW
   go_upto_region 7 with ((at_builtin;refine wpList_append_both _ rfl (.tmp 31) (.tmp 34) 26 rfl B 38 i0 _ 4 40 Tryz.underlying26 hi0 hz0 hz1 hz2 rfl (by omega) (.slice a j cap) j (reps (markL q) j) rfl (HL1.out.alloc _) ⟨w3.heap.size,0,none⟩ 2 2 [.string ⟨#[]⟩,.int .i64 z,.int .i64 0,.int .i64 0,.string ⟨#[]⟩,.int .i64 z,.int .i64 0,.int .i64 0] rfl rfl (World.news_of_block (cs:=#[.string ⟨#[]⟩,.int .i64 z,.int .i64 0,.int .i64 0,.string ⟨#[]⟩,.int .i64 z,.int .i64 0,.int .i64 0]) (t:=38) (fr:=(0,0)) (heap_alloc_new _ _)) (by simp [Value.oneCell']) (by omega) (by unfold maxLen;omega) (by omega) (by simp;omega) ?_;intro g2 cap2 w4 hownX hgrX hltX horX))
   obtain ⟨hl2',hst2,hsh2,ho2,hgr2⟩:=marks_append (m:=2) HL1.out (World.grownBy_alloc _ _ none) (by rw [HMK.out];rfl) hownX hgrX horX
   have HMR2:=hid (HMR1.out.grown' hgr2 (Ne.symm hane))
   have HL2:=hid hl2'
   have HO12:=hid (hst2 _ (j+1) (by omega) HS1.out HO1.out)
   have HO2:=hid ho2
   have HS2:=hid hsh2
   have HGW2:=hid (grown_trans HGW1.out hgr2)
   have m0:=HMR2.out.cell 0 (by simp)
   have m1:=HMR2.out.cell 1 (by simp)
   have m2:=HMR2.out.cell 2 (by simp)
   have m3:=HMR2.out.cell 3 (by simp)
   simp only [List.getElem_cons_zero,List.getElem_cons_succ] at m0 m1 m2 m3
   have hmr:=HMR2.out.lt
   have hs2:=HGW2.out.size
   clear hownX hgrX hltX horX hl2' hst2 hsh2 ho2 hgr2 HMR1 HL1 HO1 HGW1
   go_upto_region 8 with ((at_builtin;refine wpList_append_both _ rfl (.tmp 36) (.tmp 40) 26 rfl B 38 i0 _ 4 40 Tryz.underlying26 hi0 hz0 hz1 hz2 rfl (by omega) (.slice a j cap) j (reps (markL q) j) rfl (HL2.out.alloc _) ⟨w4.heap.size,0,none⟩ 3 3 [.string ⟨#[]⟩,.int .i64 z,.int .i64 0,.int .i64 0,.string ⟨#[]⟩,.int .i64 z,.int .i64 0,.int .i64 0,.string ⟨#[]⟩,.int .i64 z,.int .i64 0,.int .i64 0] rfl rfl (World.news_of_block (cs:=#[.string ⟨#[]⟩,.int .i64 z,.int .i64 0,.int .i64 0,.string ⟨#[]⟩,.int .i64 z,.int .i64 0,.int .i64 0,.string ⟨#[]⟩,.int .i64 z,.int .i64 0,.int .i64 0]) (t:=38) (fr:=(0,0)) (heap_alloc_new _ _)) (by simp [Value.oneCell']) (by omega) (by unfold maxLen;omega) (by omega) (by simp;omega) ?_;intro g3 cap3 w5 hownX hgrX hltX horX))
   obtain ⟨hl3',hst3,hsh3,ho3,hgr3⟩:=marks_append (m:=3) HL2.out (World.grownBy_alloc _ _ none) (by rw [HMK.out];rfl) hownX hgrX horX
   have HL3:=hid (own_mono hl3' (Nat.zero_le _))
   have HO13:=hid (own_mono (hst3 _ (j+1) (by omega) HS1.out HO12.out) (Nat.zero_le _))
   have HO23:=hid (own_mono (hst3 _ (j+2) (by omega) HS2.out HO2.out) (Nat.zero_le _))
   have HO3:=hid (own_mono ho3 (Nat.zero_le _))
   have HGW3:=hid (grown_trans HGW2.out hgr3)
   clear hownX hgrX hltX horX hl3' hst3 hsh3 ho3 hgr3 HMR2 HL2 HO12 HO2 HGW2 HS1 HS2 m0 m1 m2 m3 hmr hs1 hs2
   have hbk5:BookAt w5 lo B kb (.slice ab us.length cb) nv bv us:=HBK.out.grown HGW3.out (fun p hp=>own_geK HOWN.out hp)
   have HBK5:=hid (show BookAt w5 lo B kb (.slice ab N cb) nv bv us by rw [←hNe];exact hbk5)
   have hsz:w.heap.size≤w5.heap.size:=HGW3.out.size
   clear hbk5
   obtain ⟨M,hM⟩:∃M,kb::((Value.slice ab us.length cb).ownBlock.toList++(Value.slice a j cap).ownBlock.toList)=M:=⟨_,rfl⟩
   have hkM:kb∈M:=by rw [←hM];simp
   have HVM:=hid (show ∀p,(Value.slice ab us.length cb).ownBlock=some p→p∈M from fun p hp=>by rw [←hM,hp];simp)
   have HK5:=hid (show Keeps M w w5 from (Keeps.refl M w).grown HGW3.out (fun p hp=>Or.inl (by rw [←hM,hp];simp)))
   have HM:=hid hM
   clear hM HGW3 HMK
   have HV5:=hid (show ∀p,(Value.slice ab N cb).ownBlock=some p→(Value.slice ab us.length cb).ownBlock=some p∨w.heap.size≤p from fun p hp=>Or.inl (by rw [hNe];exact hp))
   have hc5:w5.cell? ⟨kb,0,none⟩=some (.slice ab N cb):=by exact HBK5.out.row.cell 0 (by simp)
   have hq5:N / 4=q:=hq
   have hne5:(Value.slice ab N cb).ownBlock≠some kb:=by exact own_row_ne HBK5.out.own HBK5.out.row (by decide)
   have hkl5:=HBK5.out.row.lt
   have hB5:B≤w5.heap.size:=by omega
   have HOB5:=hid (show w5.ownsRow lo 26 1 (.slice ab N cb) N us by have h:=HBK5.out.own;rw [hNe] at h;exact h)
   have hf5:=HBK5.out.row.free 0
   go_upto_region 9 with ((at_builtin;refine wpList_append_both _ rfl (.tmp 46) (.tmp 48) 51 rfl lo 26 il _ 1 24 Tryz.underlying51 hil hl0 hl1 hl2 rfl (by omega) (.slice ab N cb) N us rfl (HOB5.out.alloc _) ⟨w5.heap.size,0,none⟩ 1 1 [.slice a j cap] rfl rfl (World.news_of_block (cs:=#[.slice a j cap]) (t:=26) (fr:=(0,0)) (heap_alloc_new _ _)) (by simp [Value.oneCell']) (by omega) (by unfold maxLen;omega) (by omega) (by simp;omega) ?_;intro b0 d0 wa0 hownX hgrX hltX horX;have hcX:=(hgrX.cell_far ⟨kb,0,none⟩ (by simp;omega) (Ne.symm hne5)).trans (((Below.refl w5.heap.size w5).alloc (Nat.le_refl _) (.cells #[.slice a j cap] 26)).cell (p:=⟨kb,0,none⟩) hkl5 |>.trans hc5);have hfX:=(hgrX.frozen_far ⟨kb,0,none⟩ (by simp;omega) (Ne.symm hne5)).trans (((Below.refl w5.heap.size w5).alloc (Nat.le_refl _) (.cells #[.slice a j cap] 26)).frozen (p:=⟨kb,0,none⟩) hkl5 |>.trans hf5)))
   generalize hwX:wa0.setCell ⟨kb,0,none⟩ (.slice (some ⟨b0,0,none⟩) (N+1) d0)=w6 at *
   obtain ⟨hbk6,hK6,hV6,hst6⟩:=book_step hNe HK5.out hkM HVM.out HV5.out HBK5.out hB5 (World.grownBy_alloc _ _ none) hgrX hownX hltX horX ⟨_,by rw [hq5];exact HL3.out⟩ hwX
   generalize hN6:N+1=N6 at *
   obtain ⟨us6,hUe6⟩:∃x,us++[.slice a j cap]=x:=⟨_,rfl⟩
   rw [hUe6] at hbk6
   have hU6:us6.length=N6:=by rw [←hUe6,List.length_append,hNe];exact hN6
   have HBK6:=hid hbk6
   have HK6:=hid hK6
   have HV6:=hid hV6
   have HO13:=hid (hst6 _ _ _ _ HO13.out)
   have HO23:=hid (hst6 _ _ _ _ HO23.out)
   have HO3:=hid (hst6 _ _ _ _ HO3.out)
   have hc6:w6.cell? ⟨kb,0,none⟩=some (.slice (some ⟨b0,0,none⟩) N6 d0):=HBK6.out.row.cell 0 (by simp)
   have hq6:N6 / 4=q:=by omega
   have hne6:(Value.slice (some ⟨b0,0,none⟩) N6 d0).ownBlock≠some kb:=own_row_ne HBK6.out.own HBK6.out.row (by decide)
   have hkl6:=HBK6.out.row.lt
   have HOB6:=hid (show w6.ownsRow lo 26 1 (.slice (some ⟨b0,0,none⟩) N6 d0) N6 us6 by have h:=HBK6.out.own;rw [hU6] at h;exact h)
   have hf6:=HBK6.out.row.free 0
   have hlo6:lo≤w6.heap.size:=Nat.le_of_lt (Nat.lt_of_le_of_lt HBK6.out.ge hkl6)
   have HUE6:=hid hUe6
   clear hwX hbk6 hK6 hV6 hst6 hownX hgrX hltX horX hcX hfX hc5 hf5 hne5 hkl5 HOB5 HBK5 HK5 HV5 hUe6
   go_upto_region 10 with ((at_builtin;refine wpList_append_both _ rfl (.tmp 56) (.tmp 58) 51 rfl lo 26 il _ 1 24 Tryz.underlying51 hil hl0 hl1 hl2 rfl (by omega) (.slice (some ⟨b0,0,none⟩) N6 d0) N6 us6 rfl (HOB6.out.alloc _) ⟨w6.heap.size,0,none⟩ 1 1 [.slice (some ⟨g1,0,none⟩) (j+1) cap1] rfl rfl (World.news_of_block (cs:=#[.slice (some ⟨g1,0,none⟩) (j+1) cap1]) (t:=26) (fr:=(0,0)) (heap_alloc_new _ _)) (by simp [Value.oneCell']) (by omega) (by unfold maxLen;omega) (by omega) (by simp;omega) ?_;intro b1 d1 wa1 hownX hgrX hltX horX;have hcX:=(hgrX.cell_far ⟨kb,0,none⟩ (by simp;omega) (Ne.symm hne6)).trans (((Below.refl w6.heap.size w6).alloc (Nat.le_refl _) (.cells #[.slice (some ⟨g1,0,none⟩) (j+1) cap1] 26)).cell (p:=⟨kb,0,none⟩) hkl6 |>.trans hc6);have hfX:=(hgrX.frozen_far ⟨kb,0,none⟩ (by simp;omega) (Ne.symm hne6)).trans (((Below.refl w6.heap.size w6).alloc (Nat.le_refl _) (.cells #[.slice (some ⟨g1,0,none⟩) (j+1) cap1] 26)).frozen (p:=⟨kb,0,none⟩) hkl6 |>.trans hf6)))
   generalize hwX:wa1.setCell ⟨kb,0,none⟩ (.slice (some ⟨b1,0,none⟩) (N6+1) d1)=w7 at *
   obtain ⟨hbk7,hK7,hV7,hst7⟩:=book_step hU6 HK6.out hkM HVM.out HV6.out HBK6.out (Nat.le_refl _) (World.grownBy_alloc _ _ none) hgrX hownX hltX horX ⟨_,by rw [hq6];exact HO13.out⟩ hwX
   generalize hN7:N6+1=N7 at *
   obtain ⟨us7,hUe7⟩:∃x,us6++[.slice (some ⟨g1,0,none⟩) (j+1) cap1]=x:=⟨_,rfl⟩
   rw [hUe7] at hbk7
   have hU7:us7.length=N7:=by rw [←hUe7,List.length_append,hU6];exact hN7
   have HBK7:=hid hbk7
   have HK7:=hid hK7
   have HV7:=hid hV7
   have HO23:=hid (hst7 _ _ _ _ HO23.out)
   have HO3:=hid (hst7 _ _ _ _ HO3.out)
   have hc7:w7.cell? ⟨kb,0,none⟩=some (.slice (some ⟨b1,0,none⟩) N7 d1):=HBK7.out.row.cell 0 (by simp)
   have hq7:N7 / 4=q:=by omega
   have hne7:(Value.slice (some ⟨b1,0,none⟩) N7 d1).ownBlock≠some kb:=own_row_ne HBK7.out.own HBK7.out.row (by decide)
   have hkl7:=HBK7.out.row.lt
   have HOB7:=hid (show w7.ownsRow lo 26 1 (.slice (some ⟨b1,0,none⟩) N7 d1) N7 us7 by have h:=HBK7.out.own;rw [hU7] at h;exact h)
   have hf7:=HBK7.out.row.free 0
   have hlo7:lo≤w7.heap.size:=Nat.le_of_lt (Nat.lt_of_le_of_lt HBK7.out.ge hkl7)
   have HUE7:=hid hUe7
   clear hwX hbk7 hK7 hV7 hst7 hownX hgrX hltX horX hcX hfX hc6 hf6 hne6 hkl6 HOB6 HBK6 HK6 HV6 hUe7
   go_upto_region 11 with ((at_builtin;refine wpList_append_both _ rfl (.tmp 66) (.tmp 68) 51 rfl lo 26 il _ 1 24 Tryz.underlying51 hil hl0 hl1 hl2 rfl (by omega) (.slice (some ⟨b1,0,none⟩) N7 d1) N7 us7 rfl (HOB7.out.alloc _) ⟨w7.heap.size,0,none⟩ 1 1 [.slice (some ⟨g2,0,none⟩) (j+2) cap2] rfl rfl (World.news_of_block (cs:=#[.slice (some ⟨g2,0,none⟩) (j+2) cap2]) (t:=26) (fr:=(0,0)) (heap_alloc_new _ _)) (by simp [Value.oneCell']) (by omega) (by unfold maxLen;omega) (by omega) (by simp;omega) ?_;intro b2 d2 wa2 hownX hgrX hltX horX;have hcX:=(hgrX.cell_far ⟨kb,0,none⟩ (by simp;omega) (Ne.symm hne7)).trans (((Below.refl w7.heap.size w7).alloc (Nat.le_refl _) (.cells #[.slice (some ⟨g2,0,none⟩) (j+2) cap2] 26)).cell (p:=⟨kb,0,none⟩) hkl7 |>.trans hc7);have hfX:=(hgrX.frozen_far ⟨kb,0,none⟩ (by simp;omega) (Ne.symm hne7)).trans (((Below.refl w7.heap.size w7).alloc (Nat.le_refl _) (.cells #[.slice (some ⟨g2,0,none⟩) (j+2) cap2] 26)).frozen (p:=⟨kb,0,none⟩) hkl7 |>.trans hf7)))
   generalize hwX:wa2.setCell ⟨kb,0,none⟩ (.slice (some ⟨b2,0,none⟩) (N7+1) d2)=w8 at *
   obtain ⟨hbk8,hK8,hV8,hst8⟩:=book_step hU7 HK7.out hkM HVM.out HV7.out HBK7.out (Nat.le_refl _) (World.grownBy_alloc _ _ none) hgrX hownX hltX horX ⟨_,by rw [hq7];exact HO23.out⟩ hwX
   generalize hN8:N7+1=N8 at *
   obtain ⟨us8,hUe8⟩:∃x,us7++[.slice (some ⟨g2,0,none⟩) (j+2) cap2]=x:=⟨_,rfl⟩
   rw [hUe8] at hbk8
   have hU8:us8.length=N8:=by rw [←hUe8,List.length_append,hU7];exact hN8
   have HBK8:=hid hbk8
   have HK8:=hid hK8
   have HV8:=hid hV8
   have HO3:=hid (hst8 _ _ _ _ HO3.out)
   have hc8:w8.cell? ⟨kb,0,none⟩=some (.slice (some ⟨b2,0,none⟩) N8 d2):=HBK8.out.row.cell 0 (by simp)
   have hq8:N8 / 4=q:=by omega
   have hne8:(Value.slice (some ⟨b2,0,none⟩) N8 d2).ownBlock≠some kb:=own_row_ne HBK8.out.own HBK8.out.row (by decide)
   have hkl8:=HBK8.out.row.lt
   have HOB8:=hid (show w8.ownsRow lo 26 1 (.slice (some ⟨b2,0,none⟩) N8 d2) N8 us8 by have h:=HBK8.out.own;rw [hU8] at h;exact h)
   have hf8:=HBK8.out.row.free 0
   have hlo8:lo≤w8.heap.size:=Nat.le_of_lt (Nat.lt_of_le_of_lt HBK8.out.ge hkl8)
   have HUE8:=hid hUe8
   clear hwX hbk8 hK8 hV8 hst8 hownX hgrX hltX horX hcX hfX hc7 hf7 hne7 hkl7 HOB7 HBK7 HK7 HV7 hUe8
   go_wp2_with ((at_builtin;refine wpList_append_both _ rfl (.tmp 76) (.tmp 78) 51 rfl lo 26 il _ 1 24 Tryz.underlying51 hil hl0 hl1 hl2 rfl (by omega) (.slice (some ⟨b2,0,none⟩) N8 d2) N8 us8 rfl (HOB8.out.alloc _) ⟨w8.heap.size,0,none⟩ 1 1 [.slice (some ⟨g3,0,none⟩) (j+3) cap3] rfl rfl (World.news_of_block (cs:=#[.slice (some ⟨g3,0,none⟩) (j+3) cap3]) (t:=26) (fr:=(0,0)) (heap_alloc_new _ _)) (by simp [Value.oneCell']) (by omega) (by unfold maxLen;omega) (by omega) (by simp;omega) ?_;intro b3 d3 wa3 hownX hgrX hltX horX;have hcX:=(hgrX.cell_far ⟨kb,0,none⟩ (by simp;omega) (Ne.symm hne8)).trans (((Below.refl w8.heap.size w8).alloc (Nat.le_refl _) (.cells #[.slice (some ⟨g3,0,none⟩) (j+3) cap3] 26)).cell (p:=⟨kb,0,none⟩) hkl8 |>.trans hc8);have hfX:=(hgrX.frozen_far ⟨kb,0,none⟩ (by simp;omega) (Ne.symm hne8)).trans (((Below.refl w8.heap.size w8).alloc (Nat.le_refl _) (.cells #[.slice (some ⟨g3,0,none⟩) (j+3) cap3] 26)).frozen (p:=⟨kb,0,none⟩) hkl8 |>.trans hf8)))
   go_end0
   obtain ⟨hbk9,hK9,hV9,_⟩:=book_step hU8 HK8.out hkM HVM.out HV8.out HBK8.out (Nat.le_refl _) (World.grownBy_alloc _ _ none) hgrX hownX hltX horX ⟨_,by rw [hq8];exact HO3.out⟩ rfl
   refine ⟨rfl,_,[.slice a j cap,.slice (some ⟨g1,0,none⟩) (j+1) cap1,.slice (some ⟨g2,0,none⟩) (j+2) cap2,.slice (some ⟨g3,0,none⟩) (j+3) cap3],rfl,?_,fun p hp=>(hV9 p hp).imp id (fun h=>by omega),?_⟩
   ·rw [←HUE8.out,←HUE7.out,←HUE6.out] at hbk9
    simpa using hbk9
   ·rw [HM.out];exact hK9
def markN (j:Nat):List Value:=[.string ⟨#[]⟩,.int .i64 (-1000-(j:Int))]
theorem take_marksN {xs mk:List Value}{j n:Nat}{a b:Value}(hm:mk=[a,b]) (hx:xs.length=n*2) (hj:j<n) (ht:xs.take (j*2)=reps mk j) :
  ((xs.set (j*2) a).set (j*2+1) b).take ((j+1)*2)=reps mk (j+1):=by
 have h1:xs=reps mk j++xs.drop (j*2):=by rw [←ht,List.take_append_drop]
 have h2:(xs.drop (j*2)).length=n*2-j*2:=by rw [List.length_drop,hx]
 have h3:(reps mk j).length=j*2:=by rw [reps_length,hm];rfl
 generalize hd:xs.drop (j*2)=ys at *
 match ys,h2 with
 |x0::x1::r,_ =>
  rw [h1,←h3]
  rw [List.set_append_right _ _ (by omega),List.set_append_right _ _ (by omega)]
  rw [List.take_append,List.take_of_length_le (by omega)]
  simp only [reps,Nat.sub_self,Nat.add_sub_cancel_left,hm]
  rw [show (j+1)*2-(reps [a,b] j).length=2 from by rw [←hm];omega]
  simp
 |[],h=>simp at h;omega
 |[_],h=>simp at h;omega
theorem grown_set2 {w1 w:World}{g n cap:Nat}(h:w1.grownBy w (Value.slice (some ⟨g,0,none⟩) n cap).ownBlock) (i j:Nat) (a b:Value) :
  w1.grownBy ((w.setCell ⟨g,i,none⟩ a).setCell ⟨g,j,none⟩ b) (Value.slice (some ⟨g,0,none⟩) n cap).ownBlock:=
 grown_trans (grown_trans h (grown_set _ ⟨g,i,none⟩ _ rfl)) (grown_set _ ⟨g,j,none⟩ _ rfl)
theorem info_nameL:(Tryz.prog.info? 40).map (fun i=>(i.zero,i.size,i.bytes))=some (some (.agg #[.string ⟨#[]⟩,.int .i64 0]),2,24):=by kernel_rfl
def KeptAtN (w:World) (B:Nat) (us:List Value):Prop:=
 ∀i u,us[i]?=some u→∃k,w.ownsRow 0 40 2 u k (reps (markN (i / 4)) k)∧∀q,u.ownBlock=some q→q<B
structure BookAtN (w:World) (lo B kb:Nat) (vb nv bv:Value) (us:List Value):Prop where
 row:RowT w 55 kb [nv,vb,bv]
 ge:lo≤kb
 hi:kb<B
 own:w.ownsRow lo 31 1 vb us.length us
 far:∀q,vb.ownBlock=some q→q<B
 kept:KeptAtN w B us
theorem KeptAtN.grown {w w':World}{B:Nat}{us:List Value}{row:Option Nat}(h:KeptAtN w B us) (hg:w.grownBy w' row) (hr:∀p,row=some p→B≤p):KeptAtN w' B us:=by
 intro i u hu
 obtain ⟨k,h1,h2⟩:=h i u hu
 refine ⟨k,h1.kept hg ?_,h2⟩
 cases hub:u.ownBlock with
 |none=>exact Or.inl rfl
 |some p =>
  right
  intro e
  have:=h2 p hub
  have:=hr p e.symm
  omega
theorem BookAtN.grown {w w':World}{lo B kb:Nat}{vb nv bv:Value}{us:List Value}{row:Option Nat}(h:BookAtN w lo B kb vb nv bv us) (hg:w.grownBy w' row) (hr:∀p,row=some p→B≤p):BookAtN w' lo B kb vb nv bv us:=by
 refine ⟨h.row.grown' hg (fun e=>?_),h.ge,h.hi,h.own.kept hg ?_,h.far,h.kept.grown hg hr⟩
 ·have:=hr kb e.symm
  have:=h.hi
  omega
 ·cases hub:vb.ownBlock with
  |none=>exact Or.inl rfl
  |some p =>
   right
   intro e
   have:=h.far p hub
   have:=hr p e.symm
   omega
theorem own_set_bookN {w:World}{b n kb:Nat}{u x:Value}{xs ys:List Value}(h:w.ownsRow b 40 2 u n xs) (hr:RowT w 55 kb ys):(w.setCell ⟨kb,1,none⟩ x).ownsRow b 40 2 u n xs:=
 h.kept (grown_set w ⟨kb,1,none⟩ x rfl) (Or.inr (own_row_ne h hr (by decide)))
theorem own_set_bookN' {w:World}{b n kb:Nat}{u x:Value}{xs ys:List Value}(h:w.ownsRow b 31 1 u n xs) (hr:RowT w 55 kb ys):(w.setCell ⟨kb,1,none⟩ x).ownsRow b 31 1 u n xs:=
 h.kept (grown_set w ⟨kb,1,none⟩ x rfl) (Or.inr (own_row_ne h hr (by decide)))
theorem BookAtN.more {w w2 w4:World}{lo B kb g cap:Nat}{vb nv bv u:Value}{us:List Value}(h:BookAtN w lo B kb vb nv bv us) (hB:B≤w.heap.size) (ha:w.grownBy w2 none) (hg:w2.grownBy w4 vb.ownBlock)
  (ho:w4.ownsRow lo 31 1 (.slice (some ⟨g,0,none⟩) (us.length+1) cap) (us.length+1) (us++[u])) (hl:g<w4.heap.size) (hu:∃k,w.ownsRow 0 40 2 u k (reps (markN (us.length / 4)) k)) :
  BookAtN (w4.setCell ⟨kb,1,none⟩ (.slice (some ⟨g,0,none⟩) (us.length+1) cap)) lo w4.heap.size kb (.slice (some ⟨g,0,none⟩) (us.length+1) cap) nv bv (us++[u]):=by
 have hs:w.heap.size≤w4.heap.size:=Nat.le_trans ha.size hg.size
 have hne:vb.ownBlock≠some kb:=own_row_ne h.own h.row (by decide)
 have hr2:RowT w2 55 kb [nv,vb,bv]:=h.row.grown' ha (by simp)
 have hr4:RowT w4 55 kb [nv,vb,bv]:=hr2.grown' hg (Ne.symm hne)
 have hvb2:w2.ownsRow lo 31 1 vb us.length us:=h.own.kept ha (by cases hub:vb.ownBlock<;>simp)
 have hst:∀{b n:Nat} {u:Value} {xs:List Value},w.ownsRow b 40 2 u n xs→w4.ownsRow b 40 2 u n xs:=by
  intro b n u xs h1
  have h2:w2.ownsRow b 40 2 u n xs:=h1.kept ha (by cases hub:u.ownBlock<;>simp)
  exact h2.kept hg (own_types h2 hvb2 (by decide))
 refine ⟨hr4.set 1 _,h.ge,Nat.lt_of_lt_of_le h.row.lt hs,?_,?_,?_⟩
 ·rw [List.length_append]
  exact own_set_bookN' ho hr4
 ·intro p hp
  simp only [Value.ownBlock,Option.some.injEq] at hp
  omega
 ·intro i v hv
  rw [List.getElem?_append] at hv
  split at hv
  ·obtain ⟨k,h1,h2⟩:=h.kept i v hv
   exact ⟨k,own_set_bookN (hst h1) hr4,fun p hp=>Nat.lt_of_lt_of_le (h2 p hp) (Nat.le_trans hB hs)⟩
  ·obtain ⟨k,h1⟩:=hu
   have hi:i=us.length∧u=v:=by
    have:i-us.length=0:=by
     by_cases h0:i-us.length=0
     ·exact h0
     ·rw [List.getElem?_eq_none (by simp;omega)] at hv;cases hv
    rw [this] at hv
    simp at hv
    exact ⟨by omega,hv⟩
   obtain ⟨rfl,rfl⟩:=hi
   exact ⟨k,own_set_bookN (hst h1) hr4,fun p hp=>Nat.lt_of_lt_of_le (own_lt h1 hp) hs⟩
theorem BookAtN.stays {w w2 w4:World}{lo B kb b n:Nat}{vb nv bv u x:Value}{us xs:List Value}(h:BookAtN w lo B kb vb nv bv us) (ha:w.grownBy w2 none) (hg:w2.grownBy w4 vb.ownBlock)
  (h1:w.ownsRow b 40 2 u n xs):(w4.setCell ⟨kb,1,none⟩ x).ownsRow b 40 2 u n xs:=by
 have hne:vb.ownBlock≠some kb:=own_row_ne h.own h.row (by decide)
 have hr4:RowT w4 55 kb [nv,vb,bv]:=(h.row.grown' ha (by simp)).grown' hg (Ne.symm hne)
 have hvb2:w2.ownsRow lo 31 1 vb us.length us:=h.own.kept ha (by cases hub:vb.ownBlock<;>simp)
 have h2:w2.ownsRow b 40 2 u n xs:=h1.kept ha (by cases hub:u.ownBlock<;>simp)
 exact own_set_bookN (h2.kept hg (own_types h2 hvb2 (by decide))) hr4
theorem info_namess:(Tryz.prog.info? 31).map (fun i=>(i.zero,i.size,i.bytes))=some (some (.slice none 0 0),1,24):=by kernel_rfl
theorem marks_appendN {w w2 w3:World}{B e q n m g cap:Nat}{v:Value}{news:List Value}(hv:w.ownsRow B e 2 v n (reps (markN q) n)) (ha:w.grownBy w2 none) (hnews:news=reps (markN q) m)
  (ho:w3.ownsRow B e 2 (.slice (some ⟨g,0,none⟩) (n+m) cap) (n+m) (reps (markN q) n++news)) (hg:w2.grownBy w3 v.ownBlock) (hor:v=.slice (some ⟨g,0,none⟩) n cap∨(w2.heap.size≤g∧w2.grownBy w3 none)) :
  w3.ownsRow B e 2 v n (reps (markN q) n)∧(∀u k,k≤n+m→Share n v u k→w.ownsRow B e 2 u k (reps (markN q) k)→w3.ownsRow B e 2 u k (reps (markN q) k)) ∧
   Share n v (.slice (some ⟨g,0,none⟩) (n+m) cap) (n+m)∧w3.ownsRow B e 2 (.slice (some ⟨g,0,none⟩) (n+m) cap) (n+m) (reps (markN q) (n+m))∧w.grownBy w3 v.ownBlock:=by
 subst hnews
 have al:∀{u:Value} {k:Nat} {xs:List Value},w.ownsRow B e 2 u k xs→w2.ownsRow B e 2 u k xs:=fun {u k xs} h=>h.kept ha (by cases hub:u.ownBlock<;>simp)
 have st:∀u k,k≤n+m→Share n v u k→w.ownsRow B e 2 u k (reps (markN q) k)→w3.ownsRow B e 2 u k (reps (markN q) k):=fun u k hk hs hu =>
  marks_stay (mk:=markN q) rfl (al hu) hg ho hor (fun p h1 h2=>⟨hk,hs p h1 h2⟩)
 refine ⟨st v n (by omega) (share_self hv) hv,st,share_or (al hv) hor,?_,grown_trans (grown_any ha) hg⟩
 rw [reps_add];exact ho
theorem book_stepN {w0 w w2 w4:World}{M:List Nat}{lo B kb g cap N:Nat}{v0 vb nv bv u:Value}{us:List Value}(hN:us.length=N) (hK:Keeps M w0 w) (hkM:kb∈M) (hv0:∀p,v0.ownBlock=some p→p∈M)
  (hV:∀p,vb.ownBlock=some p→v0.ownBlock=some p∨w0.heap.size≤p) (h:BookAtN w lo B kb vb nv bv us) (hB:B≤w.heap.size) (ha:w.grownBy w2 none) (hg:w2.grownBy w4 vb.ownBlock)
  (ho:w4.ownsRow lo 31 1 (.slice (some ⟨g,0,none⟩) (N+1) cap) (N+1) (us++[u])) (hl:g<w4.heap.size) (hor:vb=.slice (some ⟨g,0,none⟩) N cap∨(w2.heap.size≤g∧w2.grownBy w4 none))
  (hu:∃k,w.ownsRow 0 40 2 u k (reps (markN (N / 4)) k)) {w7:World} (hw:w4.setCell ⟨kb,1,none⟩ (.slice (some ⟨g,0,none⟩) (N+1) cap)=w7) :
  BookAtN w7 lo w7.heap.size kb (.slice (some ⟨g,0,none⟩) (N+1) cap) nv bv (us++[u])∧Keeps M w0 w7∧(∀p,(Value.slice (some ⟨g,0,none⟩) (N+1) cap).ownBlock=some p→v0.ownBlock=some p∨w0.heap.size≤p) ∧
   (∀b n u xs,w.ownsRow b 40 2 u n xs→w7.ownsRow b 40 2 u n xs):=by
 subst hN
 have hs:w7.heap.size=w4.heap.size:=by rw [←hw];simp [World.setCell]
 refine ⟨by rw [hs,←hw];exact h.more hB ha hg ho hl hu,?_,?_,fun b n u xs h1=>by rw [←hw];exact h.stays ha hg h1⟩
 ·rw [←hw]
  refine ((hK.grown ha (by simp)).grown hg (fun p hp=>?_)).setCell (p:=⟨kb,1,none⟩) hkM _
  exact (hV p hp).imp (hv0 p) id
 ·intro p hp
  rcases hor with e|⟨e,_⟩
  ·exact hV p (by rw [e];exact hp)
  ·right
   simp only [Value.ownBlock,Option.some.injEq] at hp
   have h1:=hK.size
   have h2:=ha.size
   omega
set_option maxRecDepth 100000 in
set_option maxHeartbeats 800000 in
theorem keepsNames_any (w:World) (lo B kb:Nat) (vb nv bv:Value) (us:List Value) (a:Option Addr) (n cap:Nat) (xs:List Value) (hbk:BookAtN w lo B kb vb nv bv us) (hB:B≤w.heap.size) (hlo:lo≤B)
  (hown:w.ownsRow B 40 2 (.slice a n cap) n xs) (hn:n≤300) (hus:us.length%4=0) (hN:(us.length+4)*24≤140737488355328) :
  Calls Tryz.prog 43 #[.pointer (some ⟨kb,0,none⟩),.slice a n cap] w fun e w'=>e=.returned (.tuple #[])∧∃vb' us',us'.length=4∧BookAtN w' lo w'.heap.size kb vb' nv bv (us++us')∧(∀p,vb'.ownBlock=some p→vb.ownBlock=some p∨B≤p)∧Keeps (kb::(vb.ownBlock.toList++(Value.slice a n cap).ownBlock.toList)) w w':=by
 obtain ⟨i0,hi0,hz0,hz1,hz2⟩:=info_parts info_nameL
 obtain ⟨il,hil,hl0,hl1,hl2⟩:=info_parts info_namess
 have c0:w.cell? ⟨kb,1,none⟩=some vb:=hbk.row.cell 1 (by simp)
 have hkl:=hbk.row.lt
 obtain ⟨ab,cb,rfl⟩:∃ab cb,vb=.slice ab us.length cb:=by
  rcases hbk.own.2 with ⟨rfl,h0⟩|⟨g,cap',cur,rfl,_⟩
  ·exact ⟨none,0,by rw [h0]⟩
  ·exact ⟨_,_,rfl⟩
 have hN1:us.length≤5864062014801:=by omega
 obtain ⟨N,hNe⟩:∃N,us.length=N:=⟨_,rfl⟩
 obtain ⟨q,hq⟩:∃q,N / 4=q:=⟨_,rfl⟩
 rw [hNe] at c0 hN1
 have hq1:Int.tdiv (N:Int) 4=(q:Int):=by rw [Int.tdiv_eq_ediv_of_nonneg (by omega)];omega
 have HBK:=hid hbk
 have HOWN:=hid hown
 clear hbk hown
 go_enter Tryz.func43,Tryz.ntmps43
 go_wp2_with fail
 have hmk:markN q=[.string ⟨#[]⟩,.int .i64 (-1000-(q:Int))]:=rfl
 generalize -1000-(q:Int)=z at hmk ⊢
 have HMK:=hid hmk
 clear hmk
 generalize hw1:w.alloc (Obj.cells #[.string ⟨#[]⟩,.int .i64 z] 40)=w1
 have hm1:RowT w1 40 w.heap.size [.string ⟨#[]⟩,.int .i64 z]:=by rw [←hw1];exact RowT.new w _ _
 have hown1:w1.ownsRow B 40 2 (.slice a n cap) n xs:=by rw [←hw1];exact HOWN.out.alloc _
 have hg1:w.grownBy w1 none:=by rw [←hw1];exact World.grownBy_alloc w _ none
 have hmb:w.heap.size<w1.heap.size:=hm1.lt
 generalize hmbe:w.heap.size=mb at *
 have HM1:=hid hm1
 have HOWN1:=hid hown1
 have HG1:=hid hg1
 have hane:(Value.slice a n cap).ownBlock≠some mb:=by
  rcases HOWN.out.2 with ⟨h,_⟩|⟨g,c',cur,h,_,hh,_⟩
  ·rw [h];simp [Value.ownBlock]
  ·rw [h]
   simp only [Value.ownBlock,ne_eq,Option.some.injEq]
   have:=(Array.getElem?_eq_some_iff.1 hh).1
   omega
 clear hm1 hown1 hg1 hw1
 go_loopw [5] (fun i wr=>∃(j:Nat) (ys:List Value),j≤n∧i=.int .i64 j∧ys.take (j*2)=reps (markN q) j∧wr.ownsRow B 40 2 (.slice a n cap) n ys∧w1.grownBy wr (Value.slice a n cap).ownBlock) (fun i _=>n-(intOf i).toNat)
 case atStart=>exact ⟨0,xs,Nat.zero_le _,rfl,rfl,HOWN1.out,World.grownBy.refl _ _⟩
 case round =>
  obtain ⟨j,ys,hj,rfl,hys,hor,hgr⟩:=hrel
  have HYS:=hid hys
  have HOR:=hid hor
  have HGR:=hid hgr
  have HMR:=hid (HM1.out.grown' hgr (Ne.symm hane))
  have m0:=HMR.out.cell 0 (by simp)
  have m1:=HMR.out.cell 1 (by simp)
  simp only [List.getElem_cons_zero,List.getElem_cons_succ] at m0 m1
  have hmr:=HMR.out.lt
  clear hys hor hgr
  by_cases hlt:j<n
  ·obtain ⟨g,cap',hv,hBg,hgl⟩:=HOR.out.form (by omega)
   simp only [Value.slice.injEq,true_and] at hv
   obtain ⟨rfl,rfl⟩:=hv
   have d1:decide ((j:Int)<(n:Int))=true:=by simp;omega
   have hyl:=HOR.out.1
   have c0:=HOR.out.cellAt (j*2) (by omega)
   have c1:=HOR.out.cellAt (j*2+1) (by omega)
   rw [List.getElem?_eq_getElem (by omega)] at c0 c1
   have hfz:∀i,wr.frozen? ⟨g,i,none⟩=false:=fun i=>by
    rcases HOR.out.2 with ⟨h,_⟩|⟨g',_,cur,h,_,hh,_⟩
    ·cases h
    ·cases h;simp [World.frozen?,hh]
   have f0:=hfz (j*2)
   have f1:=hfz (j*2+1)
   clear hfz
   go_wp2_with fail
   go_roundw
   case rel=>exact ⟨j+1,((ys.set (j*2) (.string ⟨#[]⟩)).set (j*2+1) (.int .i64 z)),by omega,by go_num,take_marksN HMK.out hyl hlt HYS.out,own_set (own_set HOR.out (j*2) _) (j*2+1) _,grown_set2 HGR.out (j*2) (j*2+1) _ _⟩
   case measure=>simp [intOf];omega
  ·have d1:decide ((j:Int)<(n:Int))=false:=by simp;omega
   have hjn:j=n:=by omega
   subst hjn
   have hors:wr.ownsRow B 40 2 (.slice a j cap) j (reps (markN q) j):=by
    have h:=HYS.out
    rw [List.take_of_length_le (by rw [HOR.out.1];omega)] at h
    rw [←h];exact HOR.out
   have HORS:=hid hors
   have HMR0:=HMR
   have hgw:w.grownBy wr (Value.slice a j cap).ownBlock:=grown_trans (grown_any HG1.out) HGR.out
   have HGW:=hid hgw
   clear hors hgw HYS HOR HGR HOWN1 HM1 HG1
   go_upto_region 6 with ((at_builtin;refine wpList_append_both _ rfl (.tmp 27) (.tmp 29) 31 rfl B 40 i0 _ 2 24 Tryz.underlying31 hi0 hz0 hz1 hz2 rfl (by omega) (.slice a j cap) j (reps (markN q) j) rfl (HORS.out.alloc _) ⟨wr.heap.size,0,none⟩ 1 1 [.string ⟨#[]⟩,.int .i64 z] rfl rfl (World.news_of_block (cs:=#[.string ⟨#[]⟩,.int .i64 z]) (t:=40) (fr:=(0,0)) (heap_alloc_new _ _)) (by simp [Value.oneCell']) (by omega) (by unfold maxLen;omega) (by omega) (by simp;omega) ?_;intro g1 cap1 w3 hownX hgrX hltX horX))
   obtain ⟨hl1',hst1,hsh1,ho1,hgr1⟩:=marks_appendN (m:=1) HORS.out (World.grownBy_alloc _ _ none) (by rw [HMK.out];rfl) hownX hgrX horX
   have HMR1:=hid (HMR.out.grown' hgr1 (Ne.symm hane))
   have HL1:=hid hl1'
   have HO1:=hid ho1
   have HS1:=hid hsh1
   have HGW1:=hid (grown_trans HGW.out hgr1)
   have m0:=HMR1.out.cell 0 (by simp)
   have m1:=HMR1.out.cell 1 (by simp)
   simp only [List.getElem_cons_zero,List.getElem_cons_succ] at m0 m1
   have hmr:=HMR1.out.lt
   have hs1:=HGW1.out.size
   clear hownX hgrX hltX horX hl1' hst1 hsh1 ho1 hgr1 HMR HORS HGW
   go_upto_region 7 with ((at_builtin;refine wpList_append_both _ rfl (.tmp 31) (.tmp 34) 31 rfl B 40 i0 _ 2 24 Tryz.underlying31 hi0 hz0 hz1 hz2 rfl (by omega) (.slice a j cap) j (reps (markN q) j) rfl (HL1.out.alloc _) ⟨w3.heap.size,0,none⟩ 2 2 [.string ⟨#[]⟩,.int .i64 z,.string ⟨#[]⟩,.int .i64 z] rfl rfl (World.news_of_block (cs:=#[.string ⟨#[]⟩,.int .i64 z,.string ⟨#[]⟩,.int .i64 z]) (t:=40) (fr:=(0,0)) (heap_alloc_new _ _)) (by simp [Value.oneCell']) (by omega) (by unfold maxLen;omega) (by omega) (by simp;omega) ?_;intro g2 cap2 w4 hownX hgrX hltX horX))
   obtain ⟨hl2',hst2,hsh2,ho2,hgr2⟩:=marks_appendN (m:=2) HL1.out (World.grownBy_alloc _ _ none) (by rw [HMK.out];rfl) hownX hgrX horX
   have HMR2:=hid (HMR1.out.grown' hgr2 (Ne.symm hane))
   have HL2:=hid hl2'
   have HO12:=hid (hst2 _ (j+1) (by omega) HS1.out HO1.out)
   have HO2:=hid ho2
   have HS2:=hid hsh2
   have HGW2:=hid (grown_trans HGW1.out hgr2)
   have m0:=HMR2.out.cell 0 (by simp)
   have m1:=HMR2.out.cell 1 (by simp)
   simp only [List.getElem_cons_zero,List.getElem_cons_succ] at m0 m1
   have hmr:=HMR2.out.lt
   have hs2:=HGW2.out.size
   clear hownX hgrX hltX horX hl2' hst2 hsh2 ho2 hgr2 HMR1 HL1 HO1 HGW1
   go_upto_region 8 with ((at_builtin;refine wpList_append_both _ rfl (.tmp 36) (.tmp 40) 31 rfl B 40 i0 _ 2 24 Tryz.underlying31 hi0 hz0 hz1 hz2 rfl (by omega) (.slice a j cap) j (reps (markN q) j) rfl (HL2.out.alloc _) ⟨w4.heap.size,0,none⟩ 3 3 [.string ⟨#[]⟩,.int .i64 z,.string ⟨#[]⟩,.int .i64 z,.string ⟨#[]⟩,.int .i64 z] rfl rfl (World.news_of_block (cs:=#[.string ⟨#[]⟩,.int .i64 z,.string ⟨#[]⟩,.int .i64 z,.string ⟨#[]⟩,.int .i64 z]) (t:=40) (fr:=(0,0)) (heap_alloc_new _ _)) (by simp [Value.oneCell']) (by omega) (by unfold maxLen;omega) (by omega) (by simp;omega) ?_;intro g3 cap3 w5 hownX hgrX hltX horX))
   obtain ⟨hl3',hst3,hsh3,ho3,hgr3⟩:=marks_appendN (m:=3) HL2.out (World.grownBy_alloc _ _ none) (by rw [HMK.out];rfl) hownX hgrX horX
   have HL3:=hid (own_mono hl3' (Nat.zero_le _))
   have HO13:=hid (own_mono (hst3 _ (j+1) (by omega) HS1.out HO12.out) (Nat.zero_le _))
   have HO23:=hid (own_mono (hst3 _ (j+2) (by omega) HS2.out HO2.out) (Nat.zero_le _))
   have HO3:=hid (own_mono ho3 (Nat.zero_le _))
   have HGW3:=hid (grown_trans HGW2.out hgr3)
   clear hownX hgrX hltX horX hl3' hst3 hsh3 ho3 hgr3 HMR2 HL2 HO12 HO2 HGW2 HS1 HS2 m0 m1 hmr hs1 hs2
   have hbk5:BookAtN w5 lo B kb (.slice ab us.length cb) nv bv us:=HBK.out.grown HGW3.out (fun p hp=>own_geK HOWN.out hp)
   have HBK5:=hid (show BookAtN w5 lo B kb (.slice ab N cb) nv bv us by rw [←hNe];exact hbk5)
   have hsz:w.heap.size≤w5.heap.size:=HGW3.out.size
   clear hbk5
   obtain ⟨M,hM⟩:∃M,kb::((Value.slice ab us.length cb).ownBlock.toList++(Value.slice a j cap).ownBlock.toList)=M:=⟨_,rfl⟩
   have hkM:kb∈M:=by rw [←hM];simp
   have HVM:=hid (show ∀p,(Value.slice ab us.length cb).ownBlock=some p→p∈M from fun p hp=>by rw [←hM,hp];simp)
   have HK5:=hid (show Keeps M w w5 from (Keeps.refl M w).grown HGW3.out (fun p hp=>Or.inl (by rw [←hM,hp];simp)))
   have HM:=hid hM
   clear hM HGW3 HMK
   have HV5:=hid (show ∀p,(Value.slice ab N cb).ownBlock=some p→(Value.slice ab us.length cb).ownBlock=some p∨w.heap.size≤p from fun p hp=>Or.inl (by rw [hNe];exact hp))
   have hc5:w5.cell? ⟨kb,1,none⟩=some (.slice ab N cb):=by exact HBK5.out.row.cell 1 (by simp)
   have hq5:N / 4=q:=hq
   have hne5:(Value.slice ab N cb).ownBlock≠some kb:=by exact own_row_ne HBK5.out.own HBK5.out.row (by decide)
   have hkl5:=HBK5.out.row.lt
   have hB5:B≤w5.heap.size:=by omega
   have HOB5:=hid (show w5.ownsRow lo 31 1 (.slice ab N cb) N us by have h:=HBK5.out.own;rw [hNe] at h;exact h)
   have hf5:=HBK5.out.row.free 1
   go_upto_region 9 with ((at_builtin;refine wpList_append_both _ rfl (.tmp 46) (.tmp 48) 52 rfl lo 31 il _ 1 24 Tryz.underlying52 hil hl0 hl1 hl2 rfl (by omega) (.slice ab N cb) N us rfl (HOB5.out.alloc _) ⟨w5.heap.size,0,none⟩ 1 1 [.slice a j cap] rfl rfl (World.news_of_block (cs:=#[.slice a j cap]) (t:=31) (fr:=(0,0)) (heap_alloc_new _ _)) (by simp [Value.oneCell']) (by omega) (by unfold maxLen;omega) (by omega) (by simp;omega) ?_;intro b0 d0 wa0 hownX hgrX hltX horX;have hcX:=(hgrX.cell_far ⟨kb,1,none⟩ (by simp;omega) (Ne.symm hne5)).trans (((Below.refl w5.heap.size w5).alloc (Nat.le_refl _) (.cells #[.slice a j cap] 31)).cell (p:=⟨kb,1,none⟩) hkl5 |>.trans hc5);have hfX:=(hgrX.frozen_far ⟨kb,1,none⟩ (by simp;omega) (Ne.symm hne5)).trans (((Below.refl w5.heap.size w5).alloc (Nat.le_refl _) (.cells #[.slice a j cap] 31)).frozen (p:=⟨kb,1,none⟩) hkl5 |>.trans hf5)))
   generalize hwX:wa0.setCell ⟨kb,1,none⟩ (.slice (some ⟨b0,0,none⟩) (N+1) d0)=w6 at *
   obtain ⟨hbk6,hK6,hV6,hst6⟩:=book_stepN hNe HK5.out hkM HVM.out HV5.out HBK5.out hB5 (World.grownBy_alloc _ _ none) hgrX hownX hltX horX ⟨_,by rw [hq5];exact HL3.out⟩ hwX
   generalize hN6:N+1=N6 at *
   obtain ⟨us6,hUe6⟩:∃x,us++[.slice a j cap]=x:=⟨_,rfl⟩
   rw [hUe6] at hbk6
   have hU6:us6.length=N6:=by rw [←hUe6,List.length_append,hNe];exact hN6
   have HBK6:=hid hbk6
   have HK6:=hid hK6
   have HV6:=hid hV6
   have HO13:=hid (hst6 _ _ _ _ HO13.out)
   have HO23:=hid (hst6 _ _ _ _ HO23.out)
   have HO3:=hid (hst6 _ _ _ _ HO3.out)
   have hc6:w6.cell? ⟨kb,1,none⟩=some (.slice (some ⟨b0,0,none⟩) N6 d0):=HBK6.out.row.cell 1 (by simp)
   have hq6:N6 / 4=q:=by omega
   have hne6:(Value.slice (some ⟨b0,0,none⟩) N6 d0).ownBlock≠some kb:=own_row_ne HBK6.out.own HBK6.out.row (by decide)
   have hkl6:=HBK6.out.row.lt
   have HOB6:=hid (show w6.ownsRow lo 31 1 (.slice (some ⟨b0,0,none⟩) N6 d0) N6 us6 by have h:=HBK6.out.own;rw [hU6] at h;exact h)
   have hf6:=HBK6.out.row.free 1
   have hlo6:lo≤w6.heap.size:=Nat.le_of_lt (Nat.lt_of_le_of_lt HBK6.out.ge hkl6)
   have HUE6:=hid hUe6
   clear hwX hbk6 hK6 hV6 hst6 hownX hgrX hltX horX hcX hfX hc5 hf5 hne5 hkl5 HOB5 HBK5 HK5 HV5 hUe6
   go_upto_region 10 with ((at_builtin;refine wpList_append_both _ rfl (.tmp 56) (.tmp 58) 52 rfl lo 31 il _ 1 24 Tryz.underlying52 hil hl0 hl1 hl2 rfl (by omega) (.slice (some ⟨b0,0,none⟩) N6 d0) N6 us6 rfl (HOB6.out.alloc _) ⟨w6.heap.size,0,none⟩ 1 1 [.slice (some ⟨g1,0,none⟩) (j+1) cap1] rfl rfl (World.news_of_block (cs:=#[.slice (some ⟨g1,0,none⟩) (j+1) cap1]) (t:=31) (fr:=(0,0)) (heap_alloc_new _ _)) (by simp [Value.oneCell']) (by omega) (by unfold maxLen;omega) (by omega) (by simp;omega) ?_;intro b1 d1 wa1 hownX hgrX hltX horX;have hcX:=(hgrX.cell_far ⟨kb,1,none⟩ (by simp;omega) (Ne.symm hne6)).trans (((Below.refl w6.heap.size w6).alloc (Nat.le_refl _) (.cells #[.slice (some ⟨g1,0,none⟩) (j+1) cap1] 31)).cell (p:=⟨kb,1,none⟩) hkl6 |>.trans hc6);have hfX:=(hgrX.frozen_far ⟨kb,1,none⟩ (by simp;omega) (Ne.symm hne6)).trans (((Below.refl w6.heap.size w6).alloc (Nat.le_refl _) (.cells #[.slice (some ⟨g1,0,none⟩) (j+1) cap1] 31)).frozen (p:=⟨kb,1,none⟩) hkl6 |>.trans hf6)))
   generalize hwX:wa1.setCell ⟨kb,1,none⟩ (.slice (some ⟨b1,0,none⟩) (N6+1) d1)=w7 at *
   obtain ⟨hbk7,hK7,hV7,hst7⟩:=book_stepN hU6 HK6.out hkM HVM.out HV6.out HBK6.out (Nat.le_refl _) (World.grownBy_alloc _ _ none) hgrX hownX hltX horX ⟨_,by rw [hq6];exact HO13.out⟩ hwX
   generalize hN7:N6+1=N7 at *
   obtain ⟨us7,hUe7⟩:∃x,us6++[.slice (some ⟨g1,0,none⟩) (j+1) cap1]=x:=⟨_,rfl⟩
   rw [hUe7] at hbk7
   have hU7:us7.length=N7:=by rw [←hUe7,List.length_append,hU6];exact hN7
   have HBK7:=hid hbk7
   have HK7:=hid hK7
   have HV7:=hid hV7
   have HO23:=hid (hst7 _ _ _ _ HO23.out)
   have HO3:=hid (hst7 _ _ _ _ HO3.out)
   have hc7:w7.cell? ⟨kb,1,none⟩=some (.slice (some ⟨b1,0,none⟩) N7 d1):=HBK7.out.row.cell 1 (by simp)
   have hq7:N7 / 4=q:=by omega
   have hne7:(Value.slice (some ⟨b1,0,none⟩) N7 d1).ownBlock≠some kb:=own_row_ne HBK7.out.own HBK7.out.row (by decide)
   have hkl7:=HBK7.out.row.lt
   have HOB7:=hid (show w7.ownsRow lo 31 1 (.slice (some ⟨b1,0,none⟩) N7 d1) N7 us7 by have h:=HBK7.out.own;rw [hU7] at h;exact h)
   have hf7:=HBK7.out.row.free 1
   have hlo7:lo≤w7.heap.size:=Nat.le_of_lt (Nat.lt_of_le_of_lt HBK7.out.ge hkl7)
   have HUE7:=hid hUe7
   clear hwX hbk7 hK7 hV7 hst7 hownX hgrX hltX horX hcX hfX hc6 hf6 hne6 hkl6 HOB6 HBK6 HK6 HV6 hUe7
   go_upto_region 11 with ((at_builtin;refine wpList_append_both _ rfl (.tmp 66) (.tmp 68) 52 rfl lo 31 il _ 1 24 Tryz.underlying52 hil hl0 hl1 hl2 rfl (by omega) (.slice (some ⟨b1,0,none⟩) N7 d1) N7 us7 rfl (HOB7.out.alloc _) ⟨w7.heap.size,0,none⟩ 1 1 [.slice (some ⟨g2,0,none⟩) (j+2) cap2] rfl rfl (World.news_of_block (cs:=#[.slice (some ⟨g2,0,none⟩) (j+2) cap2]) (t:=31) (fr:=(0,0)) (heap_alloc_new _ _)) (by simp [Value.oneCell']) (by omega) (by unfold maxLen;omega) (by omega) (by simp;omega) ?_;intro b2 d2 wa2 hownX hgrX hltX horX;have hcX:=(hgrX.cell_far ⟨kb,1,none⟩ (by simp;omega) (Ne.symm hne7)).trans (((Below.refl w7.heap.size w7).alloc (Nat.le_refl _) (.cells #[.slice (some ⟨g2,0,none⟩) (j+2) cap2] 31)).cell (p:=⟨kb,1,none⟩) hkl7 |>.trans hc7);have hfX:=(hgrX.frozen_far ⟨kb,1,none⟩ (by simp;omega) (Ne.symm hne7)).trans (((Below.refl w7.heap.size w7).alloc (Nat.le_refl _) (.cells #[.slice (some ⟨g2,0,none⟩) (j+2) cap2] 31)).frozen (p:=⟨kb,1,none⟩) hkl7 |>.trans hf7)))
   generalize hwX:wa2.setCell ⟨kb,1,none⟩ (.slice (some ⟨b2,0,none⟩) (N7+1) d2)=w8 at *
   obtain ⟨hbk8,hK8,hV8,hst8⟩:=book_stepN hU7 HK7.out hkM HVM.out HV7.out HBK7.out (Nat.le_refl _) (World.grownBy_alloc _ _ none) hgrX hownX hltX horX ⟨_,by rw [hq7];exact HO23.out⟩ hwX
   generalize hN8:N7+1=N8 at *
   obtain ⟨us8,hUe8⟩:∃x,us7++[.slice (some ⟨g2,0,none⟩) (j+2) cap2]=x:=⟨_,rfl⟩
   rw [hUe8] at hbk8
   have hU8:us8.length=N8:=by rw [←hUe8,List.length_append,hU7];exact hN8
   have HBK8:=hid hbk8
   have HK8:=hid hK8
   have HV8:=hid hV8
   have HO3:=hid (hst8 _ _ _ _ HO3.out)
   have hc8:w8.cell? ⟨kb,1,none⟩=some (.slice (some ⟨b2,0,none⟩) N8 d2):=HBK8.out.row.cell 1 (by simp)
   have hq8:N8 / 4=q:=by omega
   have hne8:(Value.slice (some ⟨b2,0,none⟩) N8 d2).ownBlock≠some kb:=own_row_ne HBK8.out.own HBK8.out.row (by decide)
   have hkl8:=HBK8.out.row.lt
   have HOB8:=hid (show w8.ownsRow lo 31 1 (.slice (some ⟨b2,0,none⟩) N8 d2) N8 us8 by have h:=HBK8.out.own;rw [hU8] at h;exact h)
   have hf8:=HBK8.out.row.free 1
   have hlo8:lo≤w8.heap.size:=Nat.le_of_lt (Nat.lt_of_le_of_lt HBK8.out.ge hkl8)
   have HUE8:=hid hUe8
   clear hwX hbk8 hK8 hV8 hst8 hownX hgrX hltX horX hcX hfX hc7 hf7 hne7 hkl7 HOB7 HBK7 HK7 HV7 hUe8
   go_wp2_with ((at_builtin;refine wpList_append_both _ rfl (.tmp 76) (.tmp 78) 52 rfl lo 31 il _ 1 24 Tryz.underlying52 hil hl0 hl1 hl2 rfl (by omega) (.slice (some ⟨b2,0,none⟩) N8 d2) N8 us8 rfl (HOB8.out.alloc _) ⟨w8.heap.size,0,none⟩ 1 1 [.slice (some ⟨g3,0,none⟩) (j+3) cap3] rfl rfl (World.news_of_block (cs:=#[.slice (some ⟨g3,0,none⟩) (j+3) cap3]) (t:=31) (fr:=(0,0)) (heap_alloc_new _ _)) (by simp [Value.oneCell']) (by omega) (by unfold maxLen;omega) (by omega) (by simp;omega) ?_;intro b3 d3 wa3 hownX hgrX hltX horX;have hcX:=(hgrX.cell_far ⟨kb,1,none⟩ (by simp;omega) (Ne.symm hne8)).trans (((Below.refl w8.heap.size w8).alloc (Nat.le_refl _) (.cells #[.slice (some ⟨g3,0,none⟩) (j+3) cap3] 31)).cell (p:=⟨kb,1,none⟩) hkl8 |>.trans hc8);have hfX:=(hgrX.frozen_far ⟨kb,1,none⟩ (by simp;omega) (Ne.symm hne8)).trans (((Below.refl w8.heap.size w8).alloc (Nat.le_refl _) (.cells #[.slice (some ⟨g3,0,none⟩) (j+3) cap3] 31)).frozen (p:=⟨kb,1,none⟩) hkl8 |>.trans hf8)))
   go_end0
   obtain ⟨hbk9,hK9,hV9,_⟩:=book_stepN hU8 HK8.out hkM HVM.out HV8.out HBK8.out (Nat.le_refl _) (World.grownBy_alloc _ _ none) hgrX hownX hltX horX ⟨_,by rw [hq8];exact HO3.out⟩ rfl
   refine ⟨rfl,_,[.slice a j cap,.slice (some ⟨g1,0,none⟩) (j+1) cap1,.slice (some ⟨g2,0,none⟩) (j+2) cap2,.slice (some ⟨g3,0,none⟩) (j+3) cap3],rfl,?_,fun p hp=>(hV9 p hp).imp id (fun h=>by omega),?_⟩
   ·rw [←HUE8.out,←HUE7.out,←HUE6.out] at hbk9
    simpa using hbk9
   ·rw [HM.out];exact hK9
def markB (j:Nat):List Value:=[.int .u8 (200+((j%50:Nat):Int))]
set_option maxHeartbeats 400000 in
theorem mark_any (N:Nat) (w:World) (hN:N≤5864062014801):Calls Tryz.prog 29 #[.int .i64 N] w fun e w'=>e=.returned (.int .u8 (200+((N / 4%50:Nat):Int)))∧w'=w:=by
 obtain ⟨q,hq⟩:∃q,N / 4=q:=⟨_,rfl⟩
 obtain ⟨r,hr⟩:∃r,q%50=r:=⟨_,rfl⟩
 have hq1:Int.tdiv (N:Int) 4=(q:Int):=by rw [Int.tdiv_eq_ediv_of_nonneg (by omega)];omega
 have hr1:Int.tmod (q:Int) 50=(r:Int):=by rw [Int.tmod_eq_emod_of_nonneg (by omega)];omega
 rw [hq,hr]
 have hr2:r<50:=by omega
 have hq2:q≤5864062014801:=by omega
 clear hq hr
 go_enter Tryz.func29,Tryz.ntmps29
 go_wp2
 go_ret
 exact ⟨rfl,rfl⟩
theorem take_marksB {xs mk:List Value}{j n:Nat}{a:Value}(hm:mk=[a]) (hx:xs.length=n*1) (hj:j<n) (ht:xs.take (j*1)=reps mk j) :
  (xs.set j a).take ((j+1)*1)=reps mk (j+1):=by
 rw [Nat.mul_one] at hx ht ⊢
 have h1:xs=reps mk j++xs.drop j:=by rw [←ht,List.take_append_drop]
 have h2:(xs.drop j).length=n-j:=by rw [List.length_drop,hx]
 have h3:(reps mk j).length=j:=by rw [reps_length,hm];simp
 generalize hd:xs.drop j=ys at *
 match ys,h2 with
 |x0::r,_ =>
  rw [h1,List.set_append_right _ _ (by omega),h3,Nat.sub_self,List.take_append,List.take_of_length_le (by omega),h3,show j+1-j=1 from by omega,hm]
  simp [reps]
 |[],h=>simp at h;omega
theorem info_byteL:(Tryz.prog.info? 5).map (fun i=>(i.zero,i.size,i.bytes))=some (some (.int .u8 0),1,1):=by kernel_rfl
def KeptAtB (w:World) (B:Nat) (us:List Value):Prop:=
 ∀i u,us[i]?=some u→∃k,w.ownsRow 0 5 1 u k (reps (markB (i / 4)) k)∧∀q,u.ownBlock=some q→q<B
structure BookAtB (w:World) (lo B kb:Nat) (vb nv bv:Value) (us:List Value):Prop where
 row:RowT w 55 kb [nv,bv,vb]
 ge:lo≤kb
 hi:kb<B
 own:w.ownsRow lo 30 1 vb us.length us
 far:∀q,vb.ownBlock=some q→q<B
 kept:KeptAtB w B us
theorem KeptAtB.grown {w w':World}{B:Nat}{us:List Value}{row:Option Nat}(h:KeptAtB w B us) (hg:w.grownBy w' row) (hr:∀p,row=some p→B≤p):KeptAtB w' B us:=by
 intro i u hu
 obtain ⟨k,h1,h2⟩:=h i u hu
 refine ⟨k,h1.kept hg ?_,h2⟩
 cases hub:u.ownBlock with
 |none=>exact Or.inl rfl
 |some p =>
  right
  intro e
  have:=h2 p hub
  have:=hr p e.symm
  omega
theorem BookAtB.grown {w w':World}{lo B kb:Nat}{vb nv bv:Value}{us:List Value}{row:Option Nat}(h:BookAtB w lo B kb vb nv bv us) (hg:w.grownBy w' row) (hr:∀p,row=some p→B≤p):BookAtB w' lo B kb vb nv bv us:=by
 refine ⟨h.row.grown' hg (fun e=>?_),h.ge,h.hi,h.own.kept hg ?_,h.far,h.kept.grown hg hr⟩
 ·have:=hr kb e.symm
  have:=h.hi
  omega
 ·cases hub:vb.ownBlock with
  |none=>exact Or.inl rfl
  |some p =>
   right
   intro e
   have:=h.far p hub
   have:=hr p e.symm
   omega
theorem own_set_bookB {w:World}{b n kb:Nat}{u x:Value}{xs ys:List Value}(h:w.ownsRow b 5 1 u n xs) (hr:RowT w 55 kb ys):(w.setCell ⟨kb,2,none⟩ x).ownsRow b 5 1 u n xs:=
 h.kept (grown_set w ⟨kb,2,none⟩ x rfl) (Or.inr (own_row_ne h hr (by decide)))
theorem own_set_bookB' {w:World}{b n kb:Nat}{u x:Value}{xs ys:List Value}(h:w.ownsRow b 30 1 u n xs) (hr:RowT w 55 kb ys):(w.setCell ⟨kb,2,none⟩ x).ownsRow b 30 1 u n xs:=
 h.kept (grown_set w ⟨kb,2,none⟩ x rfl) (Or.inr (own_row_ne h hr (by decide)))
theorem BookAtB.more {w w2 w4:World}{lo B kb g cap:Nat}{vb nv bv u:Value}{us:List Value}(h:BookAtB w lo B kb vb nv bv us) (hB:B≤w.heap.size) (ha:w.grownBy w2 none) (hg:w2.grownBy w4 vb.ownBlock)
  (ho:w4.ownsRow lo 30 1 (.slice (some ⟨g,0,none⟩) (us.length+1) cap) (us.length+1) (us++[u])) (hl:g<w4.heap.size) (hu:∃k,w.ownsRow 0 5 1 u k (reps (markB (us.length / 4)) k)) :
  BookAtB (w4.setCell ⟨kb,2,none⟩ (.slice (some ⟨g,0,none⟩) (us.length+1) cap)) lo w4.heap.size kb (.slice (some ⟨g,0,none⟩) (us.length+1) cap) nv bv (us++[u]):=by
 have hs:w.heap.size≤w4.heap.size:=Nat.le_trans ha.size hg.size
 have hne:vb.ownBlock≠some kb:=own_row_ne h.own h.row (by decide)
 have hr2:RowT w2 55 kb [nv,bv,vb]:=h.row.grown' ha (by simp)
 have hr4:RowT w4 55 kb [nv,bv,vb]:=hr2.grown' hg (Ne.symm hne)
 have hvb2:w2.ownsRow lo 30 1 vb us.length us:=h.own.kept ha (by cases hub:vb.ownBlock<;>simp)
 have hst:∀{b n:Nat} {u:Value} {xs:List Value},w.ownsRow b 5 1 u n xs→w4.ownsRow b 5 1 u n xs:=by
  intro b n u xs h1
  have h2:w2.ownsRow b 5 1 u n xs:=h1.kept ha (by cases hub:u.ownBlock<;>simp)
  exact h2.kept hg (own_types h2 hvb2 (by decide))
 refine ⟨hr4.set 2 _,h.ge,Nat.lt_of_lt_of_le h.row.lt hs,?_,?_,?_⟩
 ·rw [List.length_append]
  exact own_set_bookB' ho hr4
 ·intro p hp
  simp only [Value.ownBlock,Option.some.injEq] at hp
  omega
 ·intro i v hv
  rw [List.getElem?_append] at hv
  split at hv
  ·obtain ⟨k,h1,h2⟩:=h.kept i v hv
   exact ⟨k,own_set_bookB (hst h1) hr4,fun p hp=>Nat.lt_of_lt_of_le (h2 p hp) (Nat.le_trans hB hs)⟩
  ·obtain ⟨k,h1⟩:=hu
   have hi:i=us.length∧u=v:=by
    have:i-us.length=0:=by
     by_cases h0:i-us.length=0
     ·exact h0
     ·rw [List.getElem?_eq_none (by simp;omega)] at hv;cases hv
    rw [this] at hv
    simp at hv
    exact ⟨by omega,hv⟩
   obtain ⟨rfl,rfl⟩:=hi
   exact ⟨k,own_set_bookB (hst h1) hr4,fun p hp=>Nat.lt_of_lt_of_le (own_lt h1 hp) hs⟩
theorem BookAtB.stays {w w2 w4:World}{lo B kb b n:Nat}{vb nv bv u x:Value}{us xs:List Value}(h:BookAtB w lo B kb vb nv bv us) (ha:w.grownBy w2 none) (hg:w2.grownBy w4 vb.ownBlock)
  (h1:w.ownsRow b 5 1 u n xs):(w4.setCell ⟨kb,2,none⟩ x).ownsRow b 5 1 u n xs:=by
 have hne:vb.ownBlock≠some kb:=own_row_ne h.own h.row (by decide)
 have hr4:RowT w4 55 kb [nv,bv,vb]:=(h.row.grown' ha (by simp)).grown' hg (Ne.symm hne)
 have hvb2:w2.ownsRow lo 30 1 vb us.length us:=h.own.kept ha (by cases hub:vb.ownBlock<;>simp)
 have h2:w2.ownsRow b 5 1 u n xs:=h1.kept ha (by cases hub:u.ownBlock<;>simp)
 exact own_set_bookB (h2.kept hg (own_types h2 hvb2 (by decide))) hr4
theorem info_bytess:(Tryz.prog.info? 30).map (fun i=>(i.zero,i.size,i.bytes))=some (some (.slice none 0 0),1,24):=by kernel_rfl
theorem marks_appendB {w w2 w3:World}{B e q n m g cap:Nat}{v:Value}{news:List Value}(hv:w.ownsRow B e 1 v n (reps (markB q) n)) (ha:w.grownBy w2 none) (hnews:news=reps (markB q) m)
  (ho:w3.ownsRow B e 1 (.slice (some ⟨g,0,none⟩) (n+m) cap) (n+m) (reps (markB q) n++news)) (hg:w2.grownBy w3 v.ownBlock) (hor:v=.slice (some ⟨g,0,none⟩) n cap∨(w2.heap.size≤g∧w2.grownBy w3 none)) :
  w3.ownsRow B e 1 v n (reps (markB q) n)∧(∀u k,k≤n+m→Share n v u k→w.ownsRow B e 1 u k (reps (markB q) k)→w3.ownsRow B e 1 u k (reps (markB q) k)) ∧
   Share n v (.slice (some ⟨g,0,none⟩) (n+m) cap) (n+m)∧w3.ownsRow B e 1 (.slice (some ⟨g,0,none⟩) (n+m) cap) (n+m) (reps (markB q) (n+m))∧w.grownBy w3 v.ownBlock:=by
 subst hnews
 have al:∀{u:Value} {k:Nat} {xs:List Value},w.ownsRow B e 1 u k xs→w2.ownsRow B e 1 u k xs:=fun {u k xs} h=>h.kept ha (by cases hub:u.ownBlock<;>simp)
 have st:∀u k,k≤n+m→Share n v u k→w.ownsRow B e 1 u k (reps (markB q) k)→w3.ownsRow B e 1 u k (reps (markB q) k):=fun u k hk hs hu =>
  marks_stay (mk:=markB q) rfl (al hu) hg ho hor (fun p h1 h2=>⟨hk,hs p h1 h2⟩)
 refine ⟨st v n (by omega) (share_self hv) hv,st,share_or (al hv) hor,?_,grown_trans (grown_any ha) hg⟩
 rw [reps_add];exact ho
theorem book_stepB {w0 w w2 w4:World}{M:List Nat}{lo B kb g cap N:Nat}{v0 vb nv bv u:Value}{us:List Value}(hN:us.length=N) (hK:Keeps M w0 w) (hkM:kb∈M) (hv0:∀p,v0.ownBlock=some p→p∈M)
  (hV:∀p,vb.ownBlock=some p→v0.ownBlock=some p∨w0.heap.size≤p) (h:BookAtB w lo B kb vb nv bv us) (hB:B≤w.heap.size) (ha:w.grownBy w2 none) (hg:w2.grownBy w4 vb.ownBlock)
  (ho:w4.ownsRow lo 30 1 (.slice (some ⟨g,0,none⟩) (N+1) cap) (N+1) (us++[u])) (hl:g<w4.heap.size) (hor:vb=.slice (some ⟨g,0,none⟩) N cap∨(w2.heap.size≤g∧w2.grownBy w4 none))
  (hu:∃k,w.ownsRow 0 5 1 u k (reps (markB (N / 4)) k)) {w7:World} (hw:w4.setCell ⟨kb,2,none⟩ (.slice (some ⟨g,0,none⟩) (N+1) cap)=w7) :
  BookAtB w7 lo w7.heap.size kb (.slice (some ⟨g,0,none⟩) (N+1) cap) nv bv (us++[u])∧Keeps M w0 w7∧(∀p,(Value.slice (some ⟨g,0,none⟩) (N+1) cap).ownBlock=some p→v0.ownBlock=some p∨w0.heap.size≤p) ∧
   (∀b n u xs,w.ownsRow b 5 1 u n xs→w7.ownsRow b 5 1 u n xs):=by
 subst hN
 have hs:w7.heap.size=w4.heap.size:=by rw [←hw];simp [World.setCell]
 refine ⟨by rw [hs,←hw];exact h.more hB ha hg ho hl hu,?_,?_,fun b n u xs h1=>by rw [←hw];exact h.stays ha hg h1⟩
 ·rw [←hw]
  refine ((hK.grown ha (by simp)).grown hg (fun p hp=>?_)).setCell (p:=⟨kb,2,none⟩) hkM _
  exact (hV p hp).imp (hv0 p) id
 ·intro p hp
  rcases hor with e|⟨e,_⟩
  ·exact hV p (by rw [e];exact hp)
  ·right
   simp only [Value.ownBlock,Option.some.injEq] at hp
   have h1:=hK.size
   have h2:=ha.size
   omega
set_option maxRecDepth 100000 in
set_option maxHeartbeats 800000 in
theorem keepsBytes_any (w:World) (lo B kb:Nat) (vb nv bv:Value) (us:List Value) (a:Option Addr) (n cap:Nat) (xs:List Value) (hbk:BookAtB w lo B kb vb nv bv us) (hB:B≤w.heap.size) (hlo:lo≤B)
  (hown:w.ownsRow B 5 1 (.slice a n cap) n xs) (hn:n≤1000000) (hus:us.length%4=0) (hN:(us.length+4)*24≤140737488355328) :
  Calls Tryz.prog 42 #[.pointer (some ⟨kb,0,none⟩),.slice a n cap] w fun e w'=>e=.returned (.tuple #[])∧∃vb' us',us'.length=4∧BookAtB w' lo w'.heap.size kb vb' nv bv (us++us')∧(∀p,vb'.ownBlock=some p→vb.ownBlock=some p∨B≤p)∧Keeps (kb::(vb.ownBlock.toList++(Value.slice a n cap).ownBlock.toList)) w w':=by
 obtain ⟨i0,hi0,hz0,hz1,hz2⟩:=info_parts info_byteL
 obtain ⟨il,hil,hl0,hl1,hl2⟩:=info_parts info_bytess
 have c0:w.cell? ⟨kb,2,none⟩=some vb:=hbk.row.cell 2 (by simp)
 have hkl:=hbk.row.lt
 obtain ⟨ab,cb,rfl⟩:∃ab cb,vb=.slice ab us.length cb:=by
  rcases hbk.own.2 with ⟨rfl,h0⟩|⟨g,cap',cur,rfl,_⟩
  ·exact ⟨none,0,by rw [h0]⟩
  ·exact ⟨_,_,rfl⟩
 have hN1:us.length≤5864062014801:=by omega
 obtain ⟨N,hNe⟩:∃N,us.length=N:=⟨_,rfl⟩
 obtain ⟨q,hq⟩:∃q,N / 4=q:=⟨_,rfl⟩
 rw [hNe] at c0 hN1
 have hq1:Int.tdiv (N:Int) 4=(q:Int):=by rw [Int.tdiv_eq_ediv_of_nonneg (by omega)];omega
 have HBK:=hid hbk
 have HOWN:=hid hown
 clear hbk hown
 go_enter Tryz.func42,Tryz.ntmps42
 go_wp2_with fail
 refine (mark_any N w hN1).mono ?_
 rintro e w1 ⟨rfl,hw⟩
 rw [hw,hq]
 clear hw w1
 have hmk:markB q=[.int .u8 (200+((q%50:Nat):Int))]:=rfl
 generalize 200+((q%50:Nat):Int)=z at hmk ⊢
 have HMK:=hid hmk
 clear hmk
 go_wp2_with fail
 go_loopw [5] (fun i wr=>∃(j:Nat) (ys:List Value),j≤n∧i=.int .i64 j∧ys.take (j*1)=reps (markB q) j∧wr.ownsRow B 5 1 (.slice a n cap) n ys∧w.grownBy wr (Value.slice a n cap).ownBlock) (fun i _=>n-(intOf i).toNat)
 case atStart=>exact ⟨0,xs,Nat.zero_le _,rfl,rfl,HOWN.out,World.grownBy.refl _ _⟩
 case round =>
  obtain ⟨j,ys,hj,rfl,hys,hor,hgr⟩:=hrel
  have HYS:=hid hys
  have HOR:=hid hor
  have HGR:=hid hgr
  clear hys hor hgr
  by_cases hlt:j<n
  ·obtain ⟨g,cap',hv,hBg,hgl⟩:=HOR.out.form (by omega)
   simp only [Value.slice.injEq,true_and] at hv
   obtain ⟨rfl,rfl⟩:=hv
   have d1:decide ((j:Int)<(n:Int))=true:=by simp;omega
   have hyl:=HOR.out.1
   have c0:=HOR.out.cellAt j (by omega)
   rw [List.getElem?_eq_getElem (by omega)] at c0
   have hfz:∀i,wr.frozen? ⟨g,i,none⟩=false:=fun i=>by
    rcases HOR.out.2 with ⟨h,_⟩|⟨g',_,cur,h,_,hh,_⟩
    ·cases h
    ·cases h;simp [World.frozen?,hh]
   have f0:=hfz j
   clear hfz
   go_wp2_with fail
   go_roundw
   case rel=>exact ⟨j+1,(ys.set j (.int .u8 z)),by omega,by go_num,take_marksB HMK.out hyl hlt HYS.out,own_set HOR.out j _,grown_trans HGR.out (grown_set _ ⟨g,j,none⟩ _ rfl)⟩
   case measure=>simp [intOf];omega
  ·have d1:decide ((j:Int)<(n:Int))=false:=by simp;omega
   have hjn:j=n:=by omega
   subst hjn
   have hors:wr.ownsRow B 5 1 (.slice a j cap) j (reps (markB q) j):=by
    have h:=HYS.out
    rw [List.take_of_length_le (by rw [HOR.out.1];omega)] at h
    rw [←h];exact HOR.out
   have HORS:=hid hors
   have hgw:w.grownBy wr (Value.slice a j cap).ownBlock:=HGR.out
   have HGW:=hid hgw
   have hsr:w.heap.size≤wr.heap.size:=hgw.size
   clear hors hgw HYS HOR HGR
   go_upto_region 6 with ((at_builtin;refine wpList_append_both _ rfl (.tmp 25) (.tmp 27) 30 rfl B 5 i0 _ 1 1 Tryz.underlying30 hi0 hz0 hz1 hz2 rfl (by omega) (.slice a j cap) j (reps (markB q) j) rfl (HORS.out.alloc _) ⟨wr.heap.size,0,none⟩ 1 1 [.int .u8 z] rfl rfl (World.news_of_block (cs:=#[.int .u8 z]) (t:=5) (fr:=(0,0)) (heap_alloc_new _ _)) (by simp [Value.oneCell']) (by omega) (by unfold maxLen;omega) (by omega) (by simp;omega) ?_;intro g1 cap1 w3 hownX hgrX hltX horX))
   obtain ⟨hl1',hst1,hsh1,ho1,hgr1⟩:=marks_appendB (m:=1) HORS.out (World.grownBy_alloc _ _ none) (by rw [HMK.out];rfl) hownX hgrX horX
   have HL1:=hid hl1'
   have HO1:=hid ho1
   have HS1:=hid hsh1
   have HGW1:=hid (grown_trans HGW.out hgr1)
   have hs1:=HGW1.out.size
   clear hownX hgrX hltX horX hl1' hst1 hsh1 ho1 hgr1 HORS HGW
   go_upto_region 7 with ((at_builtin;refine wpList_append_both _ rfl (.tmp 29) (.tmp 32) 30 rfl B 5 i0 _ 1 1 Tryz.underlying30 hi0 hz0 hz1 hz2 rfl (by omega) (.slice a j cap) j (reps (markB q) j) rfl (HL1.out.alloc _) ⟨w3.heap.size,0,none⟩ 2 2 [.int .u8 z,.int .u8 z] rfl rfl (World.news_of_block (cs:=#[.int .u8 z,.int .u8 z]) (t:=5) (fr:=(0,0)) (heap_alloc_new _ _)) (by simp [Value.oneCell']) (by omega) (by unfold maxLen;omega) (by omega) (by simp;omega) ?_;intro g2 cap2 w4 hownX hgrX hltX horX))
   obtain ⟨hl2',hst2,hsh2,ho2,hgr2⟩:=marks_appendB (m:=2) HL1.out (World.grownBy_alloc _ _ none) (by rw [HMK.out];rfl) hownX hgrX horX
   have HL2:=hid hl2'
   have HO12:=hid (hst2 _ (j+1) (by omega) HS1.out HO1.out)
   have HO2:=hid ho2
   have HS2:=hid hsh2
   have HGW2:=hid (grown_trans HGW1.out hgr2)
   have hs2:=HGW2.out.size
   clear hownX hgrX hltX horX hl2' hst2 hsh2 ho2 hgr2 HL1 HO1 HGW1
   go_upto_region 8 with ((at_builtin;refine wpList_append_both _ rfl (.tmp 34) (.tmp 38) 30 rfl B 5 i0 _ 1 1 Tryz.underlying30 hi0 hz0 hz1 hz2 rfl (by omega) (.slice a j cap) j (reps (markB q) j) rfl (HL2.out.alloc _) ⟨w4.heap.size,0,none⟩ 3 3 [.int .u8 z,.int .u8 z,.int .u8 z] rfl rfl (World.news_of_block (cs:=#[.int .u8 z,.int .u8 z,.int .u8 z]) (t:=5) (fr:=(0,0)) (heap_alloc_new _ _)) (by simp [Value.oneCell']) (by omega) (by unfold maxLen;omega) (by omega) (by simp;omega) ?_;intro g3 cap3 w5 hownX hgrX hltX horX))
   obtain ⟨hl3',hst3,hsh3,ho3,hgr3⟩:=marks_appendB (m:=3) HL2.out (World.grownBy_alloc _ _ none) (by rw [HMK.out];rfl) hownX hgrX horX
   have HL3:=hid (own_mono hl3' (Nat.zero_le _))
   have HO13:=hid (own_mono (hst3 _ (j+1) (by omega) HS1.out HO12.out) (Nat.zero_le _))
   have HO23:=hid (own_mono (hst3 _ (j+2) (by omega) HS2.out HO2.out) (Nat.zero_le _))
   have HO3:=hid (own_mono ho3 (Nat.zero_le _))
   have HGW3:=hid (grown_trans HGW2.out hgr3)
   clear hownX hgrX hltX horX hl3' hst3 hsh3 ho3 hgr3 HL2 HO12 HO2 HGW2 HS1 HS2 hs1 hs2
   have hbk5:BookAtB w5 lo B kb (.slice ab us.length cb) nv bv us:=HBK.out.grown HGW3.out (fun p hp=>own_geK HOWN.out hp)
   have HBK5:=hid (show BookAtB w5 lo B kb (.slice ab N cb) nv bv us by rw [←hNe];exact hbk5)
   have hsz:w.heap.size≤w5.heap.size:=HGW3.out.size
   clear hbk5
   obtain ⟨M,hM⟩:∃M,kb::((Value.slice ab us.length cb).ownBlock.toList++(Value.slice a j cap).ownBlock.toList)=M:=⟨_,rfl⟩
   have hkM:kb∈M:=by rw [←hM];simp
   have HVM:=hid (show ∀p,(Value.slice ab us.length cb).ownBlock=some p→p∈M from fun p hp=>by rw [←hM,hp];simp)
   have HK5:=hid (show Keeps M w w5 from (Keeps.refl M w).grown HGW3.out (fun p hp=>Or.inl (by rw [←hM,hp];simp)))
   have HM:=hid hM
   clear hM HGW3 HMK
   have HV5:=hid (show ∀p,(Value.slice ab N cb).ownBlock=some p→(Value.slice ab us.length cb).ownBlock=some p∨w.heap.size≤p from fun p hp=>Or.inl (by rw [hNe];exact hp))
   have hc5:w5.cell? ⟨kb,2,none⟩=some (.slice ab N cb):=by exact HBK5.out.row.cell 2 (by simp)
   have hq5:N / 4=q:=hq
   have hne5:(Value.slice ab N cb).ownBlock≠some kb:=by exact own_row_ne HBK5.out.own HBK5.out.row (by decide)
   have hkl5:=HBK5.out.row.lt
   have hB5:B≤w5.heap.size:=by omega
   have HOB5:=hid (show w5.ownsRow lo 30 1 (.slice ab N cb) N us by have h:=HBK5.out.own;rw [hNe] at h;exact h)
   have hf5:=HBK5.out.row.free 2
   go_upto_region 9 with ((at_builtin;refine wpList_append_both _ rfl (.tmp 44) (.tmp 46) 53 rfl lo 30 il _ 1 24 Tryz.underlying53 hil hl0 hl1 hl2 rfl (by omega) (.slice ab N cb) N us rfl (HOB5.out.alloc _) ⟨w5.heap.size,0,none⟩ 1 1 [.slice a j cap] rfl rfl (World.news_of_block (cs:=#[.slice a j cap]) (t:=30) (fr:=(0,0)) (heap_alloc_new _ _)) (by simp [Value.oneCell']) (by omega) (by unfold maxLen;omega) (by omega) (by simp;omega) ?_;intro b0 d0 wa0 hownX hgrX hltX horX;have hcX:=(hgrX.cell_far ⟨kb,2,none⟩ (by simp;omega) (Ne.symm hne5)).trans (((Below.refl w5.heap.size w5).alloc (Nat.le_refl _) (.cells #[.slice a j cap] 30)).cell (p:=⟨kb,2,none⟩) hkl5 |>.trans hc5);have hfX:=(hgrX.frozen_far ⟨kb,2,none⟩ (by simp;omega) (Ne.symm hne5)).trans (((Below.refl w5.heap.size w5).alloc (Nat.le_refl _) (.cells #[.slice a j cap] 30)).frozen (p:=⟨kb,2,none⟩) hkl5 |>.trans hf5)))
   generalize hwX:wa0.setCell ⟨kb,2,none⟩ (.slice (some ⟨b0,0,none⟩) (N+1) d0)=w6 at *
   obtain ⟨hbk6,hK6,hV6,hst6⟩:=book_stepB hNe HK5.out hkM HVM.out HV5.out HBK5.out hB5 (World.grownBy_alloc _ _ none) hgrX hownX hltX horX ⟨_,by rw [hq5];exact HL3.out⟩ hwX
   generalize hN6:N+1=N6 at *
   obtain ⟨us6,hUe6⟩:∃x,us++[.slice a j cap]=x:=⟨_,rfl⟩
   rw [hUe6] at hbk6
   have hU6:us6.length=N6:=by rw [←hUe6,List.length_append,hNe];exact hN6
   have HBK6:=hid hbk6
   have HK6:=hid hK6
   have HV6:=hid hV6
   have HO13:=hid (hst6 _ _ _ _ HO13.out)
   have HO23:=hid (hst6 _ _ _ _ HO23.out)
   have HO3:=hid (hst6 _ _ _ _ HO3.out)
   have hc6:w6.cell? ⟨kb,2,none⟩=some (.slice (some ⟨b0,0,none⟩) N6 d0):=HBK6.out.row.cell 2 (by simp)
   have hq6:N6 / 4=q:=by omega
   have hne6:(Value.slice (some ⟨b0,0,none⟩) N6 d0).ownBlock≠some kb:=own_row_ne HBK6.out.own HBK6.out.row (by decide)
   have hkl6:=HBK6.out.row.lt
   have HOB6:=hid (show w6.ownsRow lo 30 1 (.slice (some ⟨b0,0,none⟩) N6 d0) N6 us6 by have h:=HBK6.out.own;rw [hU6] at h;exact h)
   have hf6:=HBK6.out.row.free 2
   have hlo6:lo≤w6.heap.size:=Nat.le_of_lt (Nat.lt_of_le_of_lt HBK6.out.ge hkl6)
   have HUE6:=hid hUe6
   clear hwX hbk6 hK6 hV6 hst6 hownX hgrX hltX horX hcX hfX hc5 hf5 hne5 hkl5 HOB5 HBK5 HK5 HV5 hUe6
   go_upto_region 10 with ((at_builtin;refine wpList_append_both _ rfl (.tmp 54) (.tmp 56) 53 rfl lo 30 il _ 1 24 Tryz.underlying53 hil hl0 hl1 hl2 rfl (by omega) (.slice (some ⟨b0,0,none⟩) N6 d0) N6 us6 rfl (HOB6.out.alloc _) ⟨w6.heap.size,0,none⟩ 1 1 [.slice (some ⟨g1,0,none⟩) (j+1) cap1] rfl rfl (World.news_of_block (cs:=#[.slice (some ⟨g1,0,none⟩) (j+1) cap1]) (t:=30) (fr:=(0,0)) (heap_alloc_new _ _)) (by simp [Value.oneCell']) (by omega) (by unfold maxLen;omega) (by omega) (by simp;omega) ?_;intro b1 d1 wa1 hownX hgrX hltX horX;have hcX:=(hgrX.cell_far ⟨kb,2,none⟩ (by simp;omega) (Ne.symm hne6)).trans (((Below.refl w6.heap.size w6).alloc (Nat.le_refl _) (.cells #[.slice (some ⟨g1,0,none⟩) (j+1) cap1] 30)).cell (p:=⟨kb,2,none⟩) hkl6 |>.trans hc6);have hfX:=(hgrX.frozen_far ⟨kb,2,none⟩ (by simp;omega) (Ne.symm hne6)).trans (((Below.refl w6.heap.size w6).alloc (Nat.le_refl _) (.cells #[.slice (some ⟨g1,0,none⟩) (j+1) cap1] 30)).frozen (p:=⟨kb,2,none⟩) hkl6 |>.trans hf6)))
   generalize hwX:wa1.setCell ⟨kb,2,none⟩ (.slice (some ⟨b1,0,none⟩) (N6+1) d1)=w7 at *
   obtain ⟨hbk7,hK7,hV7,hst7⟩:=book_stepB hU6 HK6.out hkM HVM.out HV6.out HBK6.out (Nat.le_refl _) (World.grownBy_alloc _ _ none) hgrX hownX hltX horX ⟨_,by rw [hq6];exact HO13.out⟩ hwX
   generalize hN7:N6+1=N7 at *
   obtain ⟨us7,hUe7⟩:∃x,us6++[.slice (some ⟨g1,0,none⟩) (j+1) cap1]=x:=⟨_,rfl⟩
   rw [hUe7] at hbk7
   have hU7:us7.length=N7:=by rw [←hUe7,List.length_append,hU6];exact hN7
   have HBK7:=hid hbk7
   have HK7:=hid hK7
   have HV7:=hid hV7
   have HO23:=hid (hst7 _ _ _ _ HO23.out)
   have HO3:=hid (hst7 _ _ _ _ HO3.out)
   have hc7:w7.cell? ⟨kb,2,none⟩=some (.slice (some ⟨b1,0,none⟩) N7 d1):=HBK7.out.row.cell 2 (by simp)
   have hq7:N7 / 4=q:=by omega
   have hne7:(Value.slice (some ⟨b1,0,none⟩) N7 d1).ownBlock≠some kb:=own_row_ne HBK7.out.own HBK7.out.row (by decide)
   have hkl7:=HBK7.out.row.lt
   have HOB7:=hid (show w7.ownsRow lo 30 1 (.slice (some ⟨b1,0,none⟩) N7 d1) N7 us7 by have h:=HBK7.out.own;rw [hU7] at h;exact h)
   have hf7:=HBK7.out.row.free 2
   have hlo7:lo≤w7.heap.size:=Nat.le_of_lt (Nat.lt_of_le_of_lt HBK7.out.ge hkl7)
   have HUE7:=hid hUe7
   clear hwX hbk7 hK7 hV7 hst7 hownX hgrX hltX horX hcX hfX hc6 hf6 hne6 hkl6 HOB6 HBK6 HK6 HV6 hUe7
   go_upto_region 11 with ((at_builtin;refine wpList_append_both _ rfl (.tmp 64) (.tmp 66) 53 rfl lo 30 il _ 1 24 Tryz.underlying53 hil hl0 hl1 hl2 rfl (by omega) (.slice (some ⟨b1,0,none⟩) N7 d1) N7 us7 rfl (HOB7.out.alloc _) ⟨w7.heap.size,0,none⟩ 1 1 [.slice (some ⟨g2,0,none⟩) (j+2) cap2] rfl rfl (World.news_of_block (cs:=#[.slice (some ⟨g2,0,none⟩) (j+2) cap2]) (t:=30) (fr:=(0,0)) (heap_alloc_new _ _)) (by simp [Value.oneCell']) (by omega) (by unfold maxLen;omega) (by omega) (by simp;omega) ?_;intro b2 d2 wa2 hownX hgrX hltX horX;have hcX:=(hgrX.cell_far ⟨kb,2,none⟩ (by simp;omega) (Ne.symm hne7)).trans (((Below.refl w7.heap.size w7).alloc (Nat.le_refl _) (.cells #[.slice (some ⟨g2,0,none⟩) (j+2) cap2] 30)).cell (p:=⟨kb,2,none⟩) hkl7 |>.trans hc7);have hfX:=(hgrX.frozen_far ⟨kb,2,none⟩ (by simp;omega) (Ne.symm hne7)).trans (((Below.refl w7.heap.size w7).alloc (Nat.le_refl _) (.cells #[.slice (some ⟨g2,0,none⟩) (j+2) cap2] 30)).frozen (p:=⟨kb,2,none⟩) hkl7 |>.trans hf7)))
   generalize hwX:wa2.setCell ⟨kb,2,none⟩ (.slice (some ⟨b2,0,none⟩) (N7+1) d2)=w8 at *
   obtain ⟨hbk8,hK8,hV8,hst8⟩:=book_stepB hU7 HK7.out hkM HVM.out HV7.out HBK7.out (Nat.le_refl _) (World.grownBy_alloc _ _ none) hgrX hownX hltX horX ⟨_,by rw [hq7];exact HO23.out⟩ hwX
   generalize hN8:N7+1=N8 at *
   obtain ⟨us8,hUe8⟩:∃x,us7++[.slice (some ⟨g2,0,none⟩) (j+2) cap2]=x:=⟨_,rfl⟩
   rw [hUe8] at hbk8
   have hU8:us8.length=N8:=by rw [←hUe8,List.length_append,hU7];exact hN8
   have HBK8:=hid hbk8
   have HK8:=hid hK8
   have HV8:=hid hV8
   have HO3:=hid (hst8 _ _ _ _ HO3.out)
   have hc8:w8.cell? ⟨kb,2,none⟩=some (.slice (some ⟨b2,0,none⟩) N8 d2):=HBK8.out.row.cell 2 (by simp)
   have hq8:N8 / 4=q:=by omega
   have hne8:(Value.slice (some ⟨b2,0,none⟩) N8 d2).ownBlock≠some kb:=own_row_ne HBK8.out.own HBK8.out.row (by decide)
   have hkl8:=HBK8.out.row.lt
   have HOB8:=hid (show w8.ownsRow lo 30 1 (.slice (some ⟨b2,0,none⟩) N8 d2) N8 us8 by have h:=HBK8.out.own;rw [hU8] at h;exact h)
   have hf8:=HBK8.out.row.free 2
   have hlo8:lo≤w8.heap.size:=Nat.le_of_lt (Nat.lt_of_le_of_lt HBK8.out.ge hkl8)
   have HUE8:=hid hUe8
   clear hwX hbk8 hK8 hV8 hst8 hownX hgrX hltX horX hcX hfX hc7 hf7 hne7 hkl7 HOB7 HBK7 HK7 HV7 hUe8
   go_wp2_with ((at_builtin;refine wpList_append_both _ rfl (.tmp 74) (.tmp 76) 53 rfl lo 30 il _ 1 24 Tryz.underlying53 hil hl0 hl1 hl2 rfl (by omega) (.slice (some ⟨b2,0,none⟩) N8 d2) N8 us8 rfl (HOB8.out.alloc _) ⟨w8.heap.size,0,none⟩ 1 1 [.slice (some ⟨g3,0,none⟩) (j+3) cap3] rfl rfl (World.news_of_block (cs:=#[.slice (some ⟨g3,0,none⟩) (j+3) cap3]) (t:=30) (fr:=(0,0)) (heap_alloc_new _ _)) (by simp [Value.oneCell']) (by omega) (by unfold maxLen;omega) (by omega) (by simp;omega) ?_;intro b3 d3 wa3 hownX hgrX hltX horX;have hcX:=(hgrX.cell_far ⟨kb,2,none⟩ (by simp;omega) (Ne.symm hne8)).trans (((Below.refl w8.heap.size w8).alloc (Nat.le_refl _) (.cells #[.slice (some ⟨g3,0,none⟩) (j+3) cap3] 30)).cell (p:=⟨kb,2,none⟩) hkl8 |>.trans hc8);have hfX:=(hgrX.frozen_far ⟨kb,2,none⟩ (by simp;omega) (Ne.symm hne8)).trans (((Below.refl w8.heap.size w8).alloc (Nat.le_refl _) (.cells #[.slice (some ⟨g3,0,none⟩) (j+3) cap3] 30)).frozen (p:=⟨kb,2,none⟩) hkl8 |>.trans hf8)))
   go_end0
   obtain ⟨hbk9,hK9,hV9,_⟩:=book_stepB hU8 HK8.out hkM HVM.out HV8.out HBK8.out (Nat.le_refl _) (World.grownBy_alloc _ _ none) hgrX hownX hltX horX ⟨_,by rw [hq8];exact HO3.out⟩ rfl
   refine ⟨rfl,_,[.slice a j cap,.slice (some ⟨g1,0,none⟩) (j+1) cap1,.slice (some ⟨g2,0,none⟩) (j+2) cap2,.slice (some ⟨g3,0,none⟩) (j+3) cap3],rfl,?_,fun p hp=>(hV9 p hp).imp id (fun h=>by omega),?_⟩
   ·rw [←HUE8.out,←HUE7.out,←HUE6.out] at hbk9
    simpa using hbk9
   ·rw [HM.out];exact hK9
end Go.Proofs.YtcepppilgncdmaaGreatDoor
