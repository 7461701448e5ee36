/-
  Joined: RefWords RefText.
-/
import Derived.Deep.DrawnRows
import Derived.Deep.RegionHeld3
import Derived.Deep.RegionLaw
import Derived.Test.YtcepppilgncdmaaGreatDoorBX04
import Derived.Test.YtcepppilgncdmaaGreatDoorBX11
namespace Go.Proofs.YtcepppilgncdmaaGreatDoor
open Go.RowKit
section
attribute [local go_sem ↓] Go.wp_at_zero Go.wp_at_succ
theorem last_of (a:ByteArray) (h:0<a.size):(L a).getLastD 0=a[a.size-1]:=by
 have h1:=L_drop a (a.size-1) (by omega)
 rw [L_end a (a.size-1+1) (by omega)] at h1
 have h2:=List.take_append_drop (a.size-1) (L a)
 rw [h1] at h2
 rw [←h2,List.getLastD_eq_getLast?]
 simp
theorem but_last (a:ByteArray):L (a.extract 0 (a.size-1))=(L a).dropLast:=by
 rw [L_prefix,List.dropLast_eq_take,L_length]
def noWords:List Value:=[.string ⟨#[]⟩,.string ⟨#[]⟩,.slice none 0 0]
theorem infoString:(Tryz.prog.info? 9).map (fun i=>(i.zero,i.size,i.bytes))=some (some (.string ⟨#[]⟩),1,16):=by kernel_rfl
theorem own_ne {w:World}{e size n b:Nat}{v:Value}{xs:List Value}(h:w.ownsRow (b+1) e size v n xs):some b≠v.ownBlock:=by
 rcases h.2 with ⟨rfl,_⟩|⟨g,cap,cur,rfl,hg,_⟩
 ·intro h;cases h
 ·intro h
  have:some b=some g:=h
  injection this with this
  omega
theorem own_ge {w:World}{base e size n k:Nat}{v:Value}{xs:List Value}(h:w.ownsRow base e size v n xs) (hk:v.ownBlock=some k):base≤k:=by
 rcases h.2 with ⟨rfl,_⟩|⟨g,cap,cur,rfl,hg,_⟩
 ·cases hk
 ·have:some g=some k:=hk
  injection this with this
  omega
theorem RowT.grown {w w':World}{t g:Nat}{xs:List Value}{row:Option Nat}(h:RowT w t g xs) (hg:w.grownBy w' row) (hr:row≠some g):RowT w' t g xs:=by
 have hl:=h.lt
 unfold RowT at h ⊢
 rw [hg.block g hl (fun e=>hr e.symm)];exact h
theorem owns_strs {w:World}{base n:Nat}{v:Value}{ss:List ByteArray}(h:w.ownsRow base 9 1 v n (ss.map Value.string)) (hn:n=ss.length):∃oa oc,v=.slice oa n oc∧StrV w base v ss:=by
 subst hn
 rcases h.2 with ⟨rfl,h0⟩|⟨g,cap,cur,rfl,hg,hh,hc,_⟩
 ·exact ⟨none,0,by rw [h0],Or.inl ⟨rfl,List.eq_nil_of_length_eq_zero h0⟩⟩
 ·refine ⟨some ⟨g,0,none⟩,cap,rfl,Or.inr ⟨g,0,cap,cur,rfl,hg,hh,hc,fun i hi=>?_⟩⟩
  have hx:=h.cellAt i (by omega)
  rw [List.getElem?_map,List.getElem?_eq_getElem hi] at hx
  simp only [World.cell?,hh] at hx
  rw [Nat.zero_add]
  simpa using hx
theorem StrV.past {B b0:Nat}{w:World}{v:Value}{ss:List ByteArray}{u0 u1 u2:Value}(h:StrV w (B+2) v ss):StrV (((w.setCell ⟨B,b0,none⟩ u0).setCell ⟨B,1,none⟩ u1).setCell ⟨B,2,none⟩ u2) B v ss:=by
 rcases h with h|⟨b,off,cap,cur,h1,h2,h3,h4⟩
 ·exact Or.inl h
 ·refine Or.inr ⟨b,off,cap,cur,h1,by omega,?_,h4⟩
  rw [heap_setCell_other _ ⟨B,2,none⟩ b _ (by show b≠B;omega),heap_setCell_other _ ⟨B,1,none⟩ b _ (by show b≠B;omega),heap_setCell_other _ ⟨B,b0,none⟩ b _ (by show b≠B;omega)]
  exact h3
def SplitAt (l:List UInt8) (parts:List ByteArray) (fr k:Nat):Prop:=
 (k≤l.length∧splitB 44 l=parts.map L++splitOn 44 ((l.take k).drop fr) (l.drop k))∨(k=l.length+1∧splitB 44 l=parts.map L)
theorem SplitAt.last {A:ByteArray}{parts:List ByteArray}{fr:Nat}(h:SplitAt (L A) parts fr A.size):SplitAt (L A) (parts++[A.extract fr A.size]) (A.size+1) (A.size+1):=by
 rcases h with ⟨_,h⟩|⟨h,_⟩
 ·refine Or.inr ⟨by rw [L_length],?_⟩
  rw [h,L_end A A.size (Nat.le_refl _),splitOn_end,List.map_append,List.map_singleton,L_extract]
 ·rw [L_length] at h;omega
theorem SplitAt.hit {A:ByteArray}{parts:List ByteArray}{fr k:Nat}(h:SplitAt (L A) parts fr k) (hk:k<A.size) (hb:(A[k].toNat:Int)=44):SplitAt (L A) (parts++[A.extract fr k]) (k+1) (k+1):=by
 rcases h with ⟨_,h⟩|⟨h,_⟩
 ·refine Or.inl ⟨by rw [L_length];omega,?_⟩
  have e:((L A).take (k+1)).drop (k+1)=[]:=List.drop_eq_nil_of_le (by rw [List.length_take];omega)
  rw [h,L_drop A k hk,splitOn_hit _ _ _ _ hb,List.map_append,List.map_singleton,L_extract,List.append_assoc,e]
  rfl
 ·rw [L_length] at h;omega
theorem SplitAt.miss {A:ByteArray}{parts:List ByteArray}{fr k:Nat}(h:SplitAt (L A) parts fr k) (hf:fr≤k) (hk:k<A.size) (hb:¬(A[k].toNat:Int)=44):SplitAt (L A) parts fr (k+1):=by
 rcases h with ⟨_,h⟩|⟨h,_⟩
 ·refine Or.inl ⟨by rw [L_length];omega,?_⟩
  rw [h,L_drop A k hk,splitOn_miss _ _ _ _ hb,take_snoc A k hk,List.drop_append_of_le_length (by rw [List.length_take,L_length];omega)]
 ·rw [L_length] at h;omega
set_option maxRecDepth 100000 in
set_option maxHeartbeats 1000000 in
theorem words_any (s:ByteArray) (w:World) (hs:s.size≤1000000) :
  Calls Tryz.prog 63 #[.string s] w fun e w'=>∃(lb op:ByteArray) (oa:Option Addr) (oc:Nat) (ops:List ByteArray),e=.returned (.agg #[.string lb,.string op,.slice oa ops.length oc]) ∧
   PartsV w' w.heap.size lb op (.slice oa ops.length oc) ops (wordsP (L s))∧Below w.heap.size w w':=by
 have hs2:s.size≤maxLen:=by unfold maxLen;omega
 go_enter Tryz.func63,Tryz.ntmps63
 go_upto_region 3 with (first|(go_at_call 94;refine (first2_any s _ hs2).mono ?_;rintro e w1 ⟨a,r,ha,hr,has,hrs,rfl,hb1⟩))
 have HR0:=hid (((RowT.new w 134 noWords).alloc _).below hb1)
 have HR1:=hid ((RowT.new (w.alloc (.cells noWords.toArray 134)) 134 noWords).below hb1)
 rw [show (w.alloc (.cells noWords.toArray 134)).heap.size=w.heap.size+1 from by simp] at HR1
 have HB1:=hid (((((Below.refl w.heap.size w).alloc (Nat.le_refl _) _).alloc (by simp) _).trans (hb1.mono (by simp;omega))))
 have HA:=hid ha
 have HRR:=hid hr
 have hz1:w.heap.size+1<w1.heap.size:=HR1.out.lt
 clear hb1 ha hr
 obtain ⟨B,hB⟩:∃B,w.heap.size=B:=⟨_,rfl⟩
 rw [hB] at HR0 HR1 HB1 hz1 ⊢
 have HBQ:=hid hB
 clear hB
 obtain ⟨cb,hcb⟩:∃cb:Bool,(decide (1<(L a).length)&&decide ((((L a).getLastD 0).toNat:Int)=58))=cb:=⟨_,rfl⟩
 have HCB:=hid hcb
 clear hcb
 go_cut [27] (fun c wx=>c=.bool cb∧wx=w1)
 case first =>
  by_cases h1:1<a.size
  ·by_cases h58:(a[a.size-1].toNat:Int)=58
   ·have hc:true=cb:=by rw [←HCB.out,last_of a (by omega),L_length,decide_eq_true h1,decide_eq_true h58];rfl
    have k58:((a[a.size-1].toNat:Int)==58)=true:=by simpa using h58
    subst hc
    clear h58
    go_wp2
    go_meet
    case rel=>exact ⟨rfl,rfl⟩
   ·have hc:false=cb:=by rw [←HCB.out,last_of a (by omega),L_length,decide_eq_false h58,Bool.and_false]
    have k58:((a[a.size-1].toNat:Int)==58)=false:=by simpa using h58
    subst hc
    clear h58
    go_wp2
    go_meet
    case rel=>exact ⟨rfl,rfl⟩
  ·have hc:false=cb:=by rw [←HCB.out,L_length,decide_eq_false h1,Bool.false_and]
   subst hc
   go_wp2
   go_meet
   case rel=>exact ⟨rfl,rfl⟩
 case rest =>
  obtain ⟨rfl,rfl⟩:=hcut
  go_upto_if 27 with fail
  go_cut [4,5] (fun x y wx=>∃lb op r',x=.string op∧y=.string r'∧r'.size≤s.size∧L lb=(wordsP (L s)).label∧L op=(wordsP (L s)).op∧operandsOf (L r')=(wordsP (L s)).operands∧RowT wx 134 (B+1) [.string lb,.string ⟨#[]⟩,.slice none 0 0]∧RowT wx 134 B noWords∧Below B w wx)
  case first =>
   cases cb with
   |false =>
    have HL:=hid (show labelB (wordOf (L s))=false by unfold labelB;rw [←HA.out,HCB.out,Bool.false_and])
    go_wp2
    go_meet
    case rel=>exact ⟨⟨#[]⟩,a,r,rfl,rfl,hrs,by unfold wordsP;rw [HL.out];rfl,by unfold wordsP;rw [HL.out];exact HA.out,by unfold wordsP;rw [HL.out,HRR.out];rfl,HR1.out,HR0.out,HB1.out⟩
   |true =>
    have ha1:1<a.size:=by
     have:=HCB.out
     rw [Bool.and_eq_true,decide_eq_true_eq,L_length] at this
     exact this.1
    have hex:(a.extract 0 (a.size-1)).size≤maxLen:=by rw [ByteArray.size_extract];unfold maxLen;omega
    have HBL:=hid (but_last a)
    obtain ⟨nb,hnb⟩:∃nb,nameB (L (a.extract 0 (a.size-1)))=nb:=⟨_,rfl⟩
    have HNB:=hid hnb
    have HLB:=hid (show labelB (wordOf (L s))=nb by unfold labelB;rw [←HA.out,HCB.out,Bool.true_and,←HBL.out];exact hnb)
    clear hnb
    have c0:=HR1.out.cell 0 (by decide)
    have f0:=HR1.out.free 0
    cases nb with
    |false =>
     go_wp2_with (first|(go_at_call 58;refine (refName_any _ _ hex).mono ?_;rw [HNB.out];rintro e wn ⟨rfl,rfl⟩))
     go_meet
     case rel=>exact ⟨⟨#[]⟩,a,r,rfl,rfl,hrs,by unfold wordsP;rw [HLB.out];rfl,by unfold wordsP;rw [HLB.out];exact HA.out,by unfold wordsP;rw [HLB.out,HRR.out];rfl,HR1.out,HR0.out,HB1.out⟩
    |true =>
     have hr2:r.size≤maxLen:=by unfold maxLen;omega
     have HRN:=hid (HR1.out.set 0 (.string (a.extract 0 (a.size-1))))
     have HRM:=hid (HR0.out.other (B+1) 0 (by omega) (.string (a.extract 0 (a.size-1))))
     go_wp2_with (first|(go_at_call 58;refine (refName_any _ _ hex).mono ?_;rw [HNB.out];rintro e wn ⟨rfl,rfl⟩)|(go_at_call 94;refine (first2_any r _ hr2).mono ?_;rintro e w2 ⟨a2,r2,ha2,hr2',has2,hrs2,rfl,hb2⟩))
     go_meet
     case rel=>exact ⟨a.extract 0 (a.size-1),a2,r2,rfl,rfl,by omega,by unfold wordsP;rw [HLB.out,but_last,HA.out];rfl,by unfold wordsP;rw [HLB.out,ha2,HRR.out];rfl,by unfold wordsP;rw [HLB.out,hr2',HRR.out];rfl,HRN.out.below hb2,HRM.out.below hb2,(HB1.out.setCell (by show B≤B+1;omega) _).trans (hb2.mono (by simp [World.setCell];omega))⟩
  case rest =>
   obtain ⟨lb,op,r',rfl,rfl,hr's,hlb,hop,hopr,hrow1,hrow0,hbx⟩:=hcut
   have HLBL:=hid hlb
   have HOP:=hid hop
   have HOPR:=hid hopr
   have q1:=hrow1.cell 1 (by simp)
   have g1:=hrow1.free 1
   have HW1:=hid (show RowT _ 134 (B+1) [.string lb,.string op,.slice none 0 0] from hrow1.set 1 (.string op))
   have HW0:=hid (hrow0.other (B+1) 1 (by omega) (.string op))
   have HBX:=hid (hbx.setCell (p:=⟨B+1,1,none⟩) (by show B≤B+1;omega) (.string op))
   clear hlb hop hopr hrow1 hrow0 hbx HA HRR HR0 HR1 HB1 HCB
   go_upto_block 0 with fail
   clear q1 g1
   generalize wc.setCell ⟨B+1,1,none⟩ (.string op)=wd at *
   go_cut [7] (fun x wx=>∃A:ByteArray,x=.string A∧A.size≤r'.size∧L A=noBlank (L r')∧wx=wd)
   case first =>
    go_wp2_with fail
    go_loopg [7,8] r'.size (fun q x i wr=>∃(k:Nat) (A:ByteArray),q+k=r'.size∧i=.int .i64 k∧x=.string A∧A.size≤k∧L A=noBlank ((L r').take k)∧wr=wd)
    case atStart=>exact ⟨0,⟨#[]⟩,rfl,rfl,rfl,Nat.zero_le _,rfl,rfl⟩
    case round =>
     obtain ⟨k,A,hq,rfl,rfl,hAk,hA,rfl⟩:=hrel
     have HAA:=hid hA
     clear hA
     by_cases hlt:k<r'.size
     ·by_cases h32:(r'[k].toNat:Int)=32
      ·have k32:((r'[k].toNat:Int) != 32)=false:=by simpa using h32
       have HN:=hid (show L A=noBlank ((L r').take (k+1)) by rw [take_snoc r' k hlt,HAA.out];simp [noBlank,h32])
       clear h32
       go_wp2
       go_roundg (gk-1)
       case measure=>omega
       case rel=>exact ⟨k+1,A,by omega,by go_num,rfl,by omega,HN.out,rfl⟩
      ·have k32:((r'[k].toNat:Int) != 32)=true:=by simpa using h32
       have HN:=hid (show L (A++r'.extract k (k+1))=noBlank ((L r').take (k+1)) by
        rw [L_append,take_snoc r' k hlt,L_extract,HAA.out]
        have e:((L r').take (k+1)).drop k=[r'[k]]:=by
         rw [take_snoc r' k hlt,List.drop_append_of_le_length (by rw [List.length_take,L_length];omega),List.drop_eq_nil_of_le (by rw [List.length_take,L_length];omega)];rfl
        rw [e];simp [noBlank,h32])
       clear h32
       go_wp2
       go_roundg (gk-1)
       case measure=>omega
       case rel=>exact ⟨k+1,A++r'.extract k (k+1),by omega,by go_num,rfl,by rw [ByteArray.size_append,ByteArray.size_extract];omega,HN.out,rfl⟩
     ·have HN:=hid (show L A=noBlank (L r') by rw [HAA.out,List.take_of_length_le (by rw [L_length];omega)])
      go_wp2
      go_meet
      case rel=>exact ⟨A,rfl,by omega,HN.out,rfl⟩
   case rest =>
    obtain ⟨A,rfl,hAs,hA,rfl⟩:=hcut
    have HAN:=hid hA
    clear hA
    by_cases hz:A.size=0
    ·have hAe:=empty_of A hz
     subst hAe
     have HO:=hid (show (wordsP (L s)).operands=[] by rw [←HOPR.out];unfold operandsOf;rw [if_pos (by rw [←HAN.out];rfl)])
     have y0:=HW1.out.cell 0 (by simp)
     have y1:=HW1.out.cell 1 (by simp)
     have y2:=HW1.out.cell 2 (by simp)
     have x0:=HW0.out.cell 0 (by decide)
     have x1:=HW0.out.cell 1 (by decide)
     have x2:=HW0.out.cell 2 (by decide)
     have z0:=HW0.out.free 0
     have z1:=HW0.out.free 1
     have z2:=HW0.out.free 2
     have hlt0:=HW0.out.lt
     clear hz
     go_wp2
     refine bodyPost_ret (v:=.agg #[.string lb,.string op,.slice none 0 0]) (by simp [results,Tryz.results63,go_sem,x0,x1,x2]) rfl ⟨lb,op,none,0,[],rfl,⟨HLBL.out,HOP.out,HO.out.symm,Or.inl ⟨rfl,rfl⟩⟩,?_⟩
     rw [HBQ.out]
     exact ((HBX.out.setCell (Nat.le_refl _) _).setCell (Nat.le_refl _) _).setCell (Nat.le_refl _) _
    ·have hne:=not_empty A (by omega)
     have HO:=hid (show (wordsP (L s)).operands=splitB 44 (L A) by
      rw [←HOPR.out];unfold operandsOf
      rw [if_neg (by rw [←HAN.out];intro h;exact hz (by rw [←L_length,h];rfl)),HAN.out])
     clear HOPR HAN
     obtain ⟨i0,hi0,hz0,hz1',hz2⟩:=info_parts infoString
     go_wp2_with fail
     go_loopg [9,10] (A.size+1) (fun q f i wr=>∃(fr k:Nat) (parts:List ByteArray) (v:Value),q+k=A.size+1∧f=.int .i64 fr∧i=.int .i64 k∧fr≤k∧parts.length≤k∧RowT wr 134 (B+1) [.string lb,.string op,v]∧RowT wr 134 B noWords∧wr.ownsRow (B+2) 9 1 v parts.length (parts.map Value.string)∧Below B w wr∧SplitAt (L A) parts fr k)
     case atStart=>exact ⟨0,0,[],.slice none 0 0,rfl,rfl,rfl,Nat.le_refl _,Nat.le_refl _,HW1.out,HW0.out,World.ownsRow_nil _ _ _ _,HBX.out,Or.inl ⟨Nat.zero_le _,by simp [splitOn_nil]⟩⟩
     case round =>
      obtain ⟨fr,k,parts,v,hq,rfl,rfl,hfk,hpk,hrow1,hrow0,hown,hbr,hsp⟩:=hrel
      have HSP:=hid hsp
      clear hsp
      by_cases hle:k≤A.size
      ·have kle:decide ((k:Int)≤A.size)=true:=by simp;omega
       have b1:(0:Int)≤(fr:Int):=Int.natCast_nonneg _
       have b2:(fr:Int)≤(k:Int):=by omega
       have b3:(k:Int)≤(A.size:Int):=by omega
       by_cases hhit:k=A.size∨∃h:k<A.size,(A[k].toNat:Int)=44
       ·have HSN:=hid (show SplitAt (L A) (parts++[A.extract fr k]) (k+1) (k+1) by
         rcases hhit with rfl|⟨h1,h2⟩
         ·exact HSP.out.last
         ·exact HSP.out.hit h1 h2)
        have hor:((k:Int)==(A.size:Int))=true∨(((k:Int)==(A.size:Int))=false∧∃h:k<A.size,((A[k].toNat:Int)==44)=true):=by
         rcases hhit with h|⟨h1,h2⟩
         ·exact Or.inl (by rw [beq_iff_eq];omega)
         ·exact Or.inr ⟨by rw [beq_eq_false_iff_ne];omega,h1,by simpa using h2⟩
        have HOWN:=hid hown
        have HBR:=hid hbr
        have HRW1:=hid hrow1
        have HRW0:=hid hrow0
        have cc:wr.cell? ⟨B+1,2,none⟩=some v:=hrow1.cell 2 (by simp)
        have ff:wr.frozen? ⟨B+1,2,none⟩=false:=hrow1.free 2
        have hzz:B+1<wr.heap.size:=hrow1.lt
        clear hown hbr hrow1 hrow0 HSP hhit HW1 HW0 HBX
        rcases hor with k1|⟨k1,hks,k2⟩
        all_goals
         go_wp2_with fail
         go_region_law
          ((refine step_append_lies _ (by rfl) _ _ _ (by rfl) (B+2) 9 i0 _ 1 16 Tryz.underlying65 hi0 hz0 hz1' hz2 rfl (by omega) v parts.length (parts.map Value.string) (by rfl) ((HOWN.out.alloc _).drew) ⟨_,0,none⟩ 1 1 [.string (A.extract fr k)] (by rfl) (by rfl) (World.news_of_block (cs:=#[.string (A.extract fr k)]) (t:=9) (fr:=(0,0)) (heap_alloc_new _ _)) (by simp [Value.oneCell']) (by omega) (by unfold maxLen;omega) (by omega) (by simp;omega) _ rfl ?_;intro gg cap' w4 hown4 hgrow hat hlt4;have hc4:=(hgrow.cell_far ⟨B+1,2,none⟩ (by simp;omega) (own_ne HOWN.out)).trans ((((Below.refl wr.heap.size wr).alloc (Nat.le_refl _) _).drew.cell (p:=⟨B+1,2,none⟩) hzz).trans cc);have hf4:=(hgrow.frozen_far ⟨B+1,2,none⟩ (by simp;omega) (own_ne HOWN.out)).trans ((((Below.refl wr.heap.size wr).alloc (Nat.le_refl _) _).drew.frozen (p:=⟨B+1,2,none⟩) hzz).trans ff);have hzw:B+1<w4.heap.size:=Nat.lt_of_lt_of_le hzz (Nat.le_trans (by simp) hgrow.size)))
         all_goals
          have hb4:Below B w w4:=((HBR.out.alloc (by omega) _).drew).grown hgrow (by simp;omega) (fun j hj=>by have:=own_ge HOWN.out hj;omega)
          have hr1:RowT w4 134 (B+1) [.string lb,.string op,v]:=RowT.grown (w:=(wr.alloc (Obj.cells #[Value.string (A.extract fr k)] 9)).drew) (HRW1.out.alloc _) hgrow (own_ne HOWN.out).symm
          have hr0:RowT w4 134 B noWords:=RowT.grown (w:=(wr.alloc (Obj.cells #[Value.string (A.extract fr k)] 9)).drew) (HRW0.out.alloc _) hgrow (fun e=>by have:=own_ge HOWN.out e;omega)
          have HN1:=hid (hr1.set 2 (.slice (some ⟨gg,0,none⟩) (parts.length+1) cap'))
          have HN0:=hid (hr0.other (B+1) 2 (by omega) (.slice (some ⟨gg,0,none⟩) (parts.length+1) cap'))
          have HNB:=hid (hb4.setCell (p:=⟨B+1,2,none⟩) (by show B≤B+1;omega) (.slice (some ⟨gg,0,none⟩) (parts.length+1) cap'))
          have HNO:=hid (ownsRow_setCell_below hown4 (a:=⟨B+1,2,none⟩) (by show B+1<B+2;omega) (.slice (some ⟨gg,0,none⟩) (parts.length+1) cap'))
          clear hb4 hr1 hr0 hown4 hgrow hat hc4 hf4 cc ff
          go_wp2
          go_roundg (gk-1)
          case measure=>omega
          case rel=>exact ⟨k+1,k+1,parts++[A.extract fr k],_,by omega,by go_num,by go_num,Nat.le_refl _,by simp;omega,HN1.out,HN0.out,by simpa using HNO.out,HNB.out,HSN.out⟩
       ·have hk2:k<A.size:=by
         rcases Nat.lt_or_ge k A.size with h|h
         ·exact h
         ·exact absurd (Or.inl (by omega)) hhit
        have hb44:¬(A[k].toNat:Int)=44:=fun h=>hhit (Or.inr ⟨hk2,h⟩)
        have k1:((k:Int)==(A.size:Int))=false:=by rw [beq_eq_false_iff_ne];omega
        have k2:((A[k].toNat:Int)==44)=false:=by simpa using hb44
        have HSN:=hid (HSP.out.miss hfk hk2 hb44)
        have HOWN:=hid hown
        have HBR:=hid hbr
        have HRW1:=hid hrow1
        have HRW0:=hid hrow0
        clear hown hbr hrow1 hrow0 HSP hhit HW1 HW0 HBX hb44
        go_wp2
        go_roundg (gk-1)
        case measure=>omega
        case rel=>exact ⟨fr,k+1,parts,v,by omega,rfl,by go_num,by omega,by omega,HRW1.out,HRW0.out,HOWN.out,HBR.out,HSN.out⟩
      ·have HP:=hid (show parts.map L=(wordsP (L s)).operands by
        rw [HO.out]
        rcases HSP.out with ⟨h,_⟩|⟨_,h⟩
        ·rw [L_length] at h;omega
        ·exact h.symm)
       have hkz:decide ((k:Int)≤A.size)=false:=by simp;omega
       have hform:∃oa oc,v=.slice oa parts.length oc∧StrV wr (B+2) v parts:=owns_strs hown rfl
       obtain ⟨oa,oc,hv,hst⟩:=hform
       subst hv
       have HST:=hid hst
       have y0:=hrow1.cell 0 (by simp)
       have y1:=hrow1.cell 1 (by simp)
       have y2:=hrow1.cell 2 (by simp)
       have x0:=hrow0.cell 0 (by decide)
       have x1:=hrow0.cell 1 (by decide)
       have x2:=hrow0.cell 2 (by decide)
       have z0:=hrow0.free 0
       have z1:=hrow0.free 1
       have z2:=hrow0.free 2
       have HBR:=hid hbr
       clear hown hbr hrow1 hrow0 HSP HW1 HW0 HBX hst
       go_wp2
       refine bodyPost_ret (v:=.agg #[.string lb,.string op,.slice oa parts.length oc]) (by simp [results,Tryz.results63,go_sem,x0,x1,x2]) rfl ⟨lb,op,oa,oc,parts,rfl,⟨HLBL.out,HOP.out,HP.out,?_⟩,?_⟩
       ·rw [HBQ.out]
        exact HST.out.past
       ·rw [HBQ.out]
        exact ((HBR.out.setCell (Nat.le_refl _) _).setCell (Nat.le_refl _) _).setCell (Nat.le_refl _) _
end
set_option maxRecDepth 100000 in
set_option maxHeartbeats 1000000 in
theorem text_any (lb op:ByteArray) (oa:Option Addr) (oc:Nat) (ops:List ByteArray) (M:List Nat) (w:World) (h1:lb.size≤1000000) (h2:op.size≤1000000) (h3:sumLen (ops.map L)≤1000000) (h4:ops.length≤1000000) (hst:StrsAt w M oa ops) :
  Calls Tryz.prog 156 #[.agg #[.string lb,.string op,.slice oa ops.length oc]] w fun e w'=>∃t:ByteArray,L t=textP ⟨L lb,L op,ops.map L⟩∧e=.returned (.string t)∧Below w.heap.size w w':=by
 have HST:=hid hst
 have HTX:=hid (textP_head ⟨L lb,L op,ops.map L⟩)
 clear hst
 have hjl:∀k,(joinedTo ops k).length≤1000000:=fun k=>Nat.le_trans (joinedTo_len ops k) h3
 have HJL:=hid hjl
 clear hjl
 by_cases e1:lb.size=0
 ·obtain rfl:=empty_of lb e1
  by_cases e2:op.size=0
  ·obtain rfl:=empty_of op e2
   have hhl:(headP (L ⟨#[]⟩) (L ⟨#[]⟩)).length≤2000002:=by decide
   go_enter Tryz.func156,Tryz.ntmps156
   go_upto_block 0 with fail
   go_wp2_with fail
   go_loopg [3,4] ops.length (fun q x i wr=>∃(k:Nat) (cur:ByteArray),q+k=ops.length∧i=.int .i64 k∧x=.string cur∧L cur=headP (L ⟨#[]⟩) (L ⟨#[]⟩)++joinedTo ops k∧wr=w.alloc (Obj.cells #[Value.string ⟨#[]⟩,Value.string ⟨#[]⟩,Value.slice oa ops.length oc] 134))
   case atStart=>exact ⟨0,_,rfl,rfl,rfl,by simp [joinedTo,joined,headP,L],rfl⟩
   case round =>
    obtain ⟨k,cur,hq,rfl,rfl,hcur,rfl⟩:=hrel
    have HC:=hid hcur
    have hcl:cur.size≤3000002:=by rw [←L_length,hcur,List.length_append];have:=HJL.out k;omega
    clear hcur
    by_cases hlt:k<ops.length
    ·rcases HST.out with h|⟨b,off,ha,hbl,_,hc⟩
     ·rw [h] at hlt;simp at hlt
     ·subst ha
      have c1:=hc k hlt
      have hol:ops[k].size≤1000000:=by
       have h5:=HJL.out (k+1)
       rw [joinedTo_succ ops k hlt,List.length_append,List.length_cons,L_length] at h5
       omega
      have HS:=hid (joinedTo_succ ops k hlt)
      clear hc
      by_cases hk0:k=0
      ·subst hk0
       rw [Nat.add_zero] at c1
       go_wp2
       go_roundg (gk-1)
       case measure=>omega
       case rel=>exact ⟨0+1,_,by omega,by go_num,rfl,by rw [HS.out,L_append,L_append,HC.out];simp;rfl,rfl⟩
      ·have kk:((k:Int)==0)=false:=by rw [beq_eq_false_iff_ne];omega
       go_wp2
       go_roundg (gk-1)
       case measure=>omega
       case rel=>exact ⟨k+1,_,by omega,by go_num,rfl,by rw [HS.out,L_append,L_append,HC.out,if_neg hk0];simp;rfl,rfl⟩
    ·have HE:=hid (show L cur=textP ⟨L ⟨#[]⟩,L ⟨#[]⟩,ops.map L⟩ by rw [HTX.out,HC.out];unfold joinedTo;rw [List.take_of_length_le (by omega)])
     go_wp2
     go_ret
     exact ⟨cur,HE.out,rfl,(Below.refl _ _).alloc (Nat.le_refl _) _⟩
  ·have k2:=not_empty op (by omega)
   have HHD:=hid (show L (⟨#[]⟩++op)=headP (L ⟨#[]⟩) (L op) by unfold headP;rw [if_neg (ne_of_size op e2),if_pos (show L ⟨#[]⟩=[] from rfl),L_append];rfl)
   have hhl:(headP (L ⟨#[]⟩) (L op)).length≤2000002:=by rw [←HHD.out,L_length,ByteArray.size_append];show 0+op.size≤2000002;omega
   go_enter Tryz.func156,Tryz.ntmps156
   go_upto_block 0 with fail
   go_wp2_with fail
   go_loopg [3,4] ops.length (fun q x i wr=>∃(k:Nat) (cur:ByteArray),q+k=ops.length∧i=.int .i64 k∧x=.string cur∧L cur=headP (L ⟨#[]⟩) (L op)++joinedTo ops k∧wr=w.alloc (Obj.cells #[Value.string ⟨#[]⟩,Value.string op,Value.slice oa ops.length oc] 134))
   case atStart=>exact ⟨0,_,rfl,rfl,rfl,by rw [HHD.out];simp [joinedTo,joined],rfl⟩
   case round =>
    obtain ⟨k,cur,hq,rfl,rfl,hcur,rfl⟩:=hrel
    have HC:=hid hcur
    have hcl:cur.size≤3000002:=by rw [←L_length,hcur,List.length_append];have:=HJL.out k;omega
    clear hcur
    by_cases hlt:k<ops.length
    ·rcases HST.out with h|⟨b,off,ha,hbl,_,hc⟩
     ·rw [h] at hlt;simp at hlt
     ·subst ha
      have c1:=hc k hlt
      have hol:ops[k].size≤1000000:=by
       have h5:=HJL.out (k+1)
       rw [joinedTo_succ ops k hlt,List.length_append,List.length_cons,L_length] at h5
       omega
      have HS:=hid (joinedTo_succ ops k hlt)
      clear hc
      by_cases hk0:k=0
      ·subst hk0
       rw [Nat.add_zero] at c1
       go_wp2
       go_roundg (gk-1)
       case measure=>omega
       case rel=>exact ⟨0+1,_,by omega,by go_num,rfl,by rw [HS.out,L_append,L_append,HC.out];simp;rfl,rfl⟩
      ·have kk:((k:Int)==0)=false:=by rw [beq_eq_false_iff_ne];omega
       go_wp2
       go_roundg (gk-1)
       case measure=>omega
       case rel=>exact ⟨k+1,_,by omega,by go_num,rfl,by rw [HS.out,L_append,L_append,HC.out,if_neg hk0];simp;rfl,rfl⟩
    ·have HE:=hid (show L cur=textP ⟨L ⟨#[]⟩,L op,ops.map L⟩ by rw [HTX.out,HC.out];unfold joinedTo;rw [List.take_of_length_le (by omega)])
     go_wp2
     go_ret
     exact ⟨cur,HE.out,rfl,(Below.refl _ _).alloc (Nat.le_refl _) _⟩
 ·have k1:=not_empty lb (by omega)
  by_cases e2:op.size=0
  ·obtain rfl:=empty_of op e2
   have HHD:=hid (show L (lb++⟨#[58]⟩)=headP (L lb) (L ⟨#[]⟩) by unfold headP;rw [if_pos (show L ⟨#[]⟩=[] from rfl),if_neg (ne_of_size lb e1),L_append];rfl)
   have hhl:(headP (L lb) (L ⟨#[]⟩)).length≤2000002:=by rw [←HHD.out,L_length,ByteArray.size_append];show lb.size+1≤2000002;omega
   go_enter Tryz.func156,Tryz.ntmps156
   go_upto_block 0 with fail
   go_wp2_with fail
   go_loopg [3,4] ops.length (fun q x i wr=>∃(k:Nat) (cur:ByteArray),q+k=ops.length∧i=.int .i64 k∧x=.string cur∧L cur=headP (L lb) (L ⟨#[]⟩)++joinedTo ops k∧wr=w.alloc (Obj.cells #[Value.string lb,Value.string ⟨#[]⟩,Value.slice oa ops.length oc] 134))
   case atStart=>exact ⟨0,_,rfl,rfl,rfl,by rw [HHD.out];simp [joinedTo,joined],rfl⟩
   case round =>
    obtain ⟨k,cur,hq,rfl,rfl,hcur,rfl⟩:=hrel
    have HC:=hid hcur
    have hcl:cur.size≤3000002:=by rw [←L_length,hcur,List.length_append];have:=HJL.out k;omega
    clear hcur
    by_cases hlt:k<ops.length
    ·rcases HST.out with h|⟨b,off,ha,hbl,_,hc⟩
     ·rw [h] at hlt;simp at hlt
     ·subst ha
      have c1:=hc k hlt
      have hol:ops[k].size≤1000000:=by
       have h5:=HJL.out (k+1)
       rw [joinedTo_succ ops k hlt,List.length_append,List.length_cons,L_length] at h5
       omega
      have HS:=hid (joinedTo_succ ops k hlt)
      clear hc
      by_cases hk0:k=0
      ·subst hk0
       rw [Nat.add_zero] at c1
       go_wp2
       go_roundg (gk-1)
       case measure=>omega
       case rel=>exact ⟨0+1,_,by omega,by go_num,rfl,by rw [HS.out,L_append,L_append,HC.out];simp;rfl,rfl⟩
      ·have kk:((k:Int)==0)=false:=by rw [beq_eq_false_iff_ne];omega
       go_wp2
       go_roundg (gk-1)
       case measure=>omega
       case rel=>exact ⟨k+1,_,by omega,by go_num,rfl,by rw [HS.out,L_append,L_append,HC.out,if_neg hk0];simp;rfl,rfl⟩
    ·have HE:=hid (show L cur=textP ⟨L lb,L ⟨#[]⟩,ops.map L⟩ by rw [HTX.out,HC.out];unfold joinedTo;rw [List.take_of_length_le (by omega)])
     go_wp2
     go_ret
     exact ⟨cur,HE.out,rfl,(Below.refl _ _).alloc (Nat.le_refl _) _⟩
  ·have k2:=not_empty op (by omega)
   have k3:=not_empty (lb++⟨#[58]⟩) (by rw [ByteArray.size_append];show 0<lb.size+1;omega)
   have HHD:=hid (show L (lb++⟨#[58]⟩++⟨#[32]⟩++op)=headP (L lb) (L op) by unfold headP;rw [if_neg (ne_of_size op e2),if_neg (ne_of_size lb e1),L_append,L_append,L_append];rfl)
   have hhl:(headP (L lb) (L op)).length≤2000002:=by rw [←HHD.out,L_length,ByteArray.size_append,ByteArray.size_append,ByteArray.size_append];show lb.size+1+1+op.size≤2000002;omega
   go_enter Tryz.func156,Tryz.ntmps156
   go_upto_block 0 with fail
   go_wp2_with fail
   go_loopg [3,4] ops.length (fun q x i wr=>∃(k:Nat) (cur:ByteArray),q+k=ops.length∧i=.int .i64 k∧x=.string cur∧L cur=headP (L lb) (L op)++joinedTo ops k∧wr=w.alloc (Obj.cells #[Value.string lb,Value.string op,Value.slice oa ops.length oc] 134))
   case atStart=>exact ⟨0,_,rfl,rfl,rfl,by rw [HHD.out];simp [joinedTo,joined],rfl⟩
   case round =>
    obtain ⟨k,cur,hq,rfl,rfl,hcur,rfl⟩:=hrel
    have HC:=hid hcur
    have hcl:cur.size≤3000002:=by rw [←L_length,hcur,List.length_append];have:=HJL.out k;omega
    clear hcur
    by_cases hlt:k<ops.length
    ·rcases HST.out with h|⟨b,off,ha,hbl,_,hc⟩
     ·rw [h] at hlt;simp at hlt
     ·subst ha
      have c1:=hc k hlt
      have hol:ops[k].size≤1000000:=by
       have h5:=HJL.out (k+1)
       rw [joinedTo_succ ops k hlt,List.length_append,List.length_cons,L_length] at h5
       omega
      have HS:=hid (joinedTo_succ ops k hlt)
      clear hc
      by_cases hk0:k=0
      ·subst hk0
       rw [Nat.add_zero] at c1
       go_wp2
       go_roundg (gk-1)
       case measure=>omega
       case rel=>exact ⟨0+1,_,by omega,by go_num,rfl,by rw [HS.out,L_append,L_append,HC.out];simp;rfl,rfl⟩
      ·have kk:((k:Int)==0)=false:=by rw [beq_eq_false_iff_ne];omega
       go_wp2
       go_roundg (gk-1)
       case measure=>omega
       case rel=>exact ⟨k+1,_,by omega,by go_num,rfl,by rw [HS.out,L_append,L_append,HC.out,if_neg hk0];simp;rfl,rfl⟩
    ·have HE:=hid (show L cur=textP ⟨L lb,L op,ops.map L⟩ by rw [HTX.out,HC.out];unfold joinedTo;rw [List.take_of_length_le (by omega)])
     go_wp2
     go_ret
     exact ⟨cur,HE.out,rfl,(Below.refl _ _).alloc (Nat.le_refl _) _⟩
end Go.Proofs.YtcepppilgncdmaaGreatDoor
