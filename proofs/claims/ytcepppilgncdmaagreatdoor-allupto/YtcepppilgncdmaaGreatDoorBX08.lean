/-
  Joined: PLine PText.
-/
import Derived.BigQuiet
import Derived.Deep.CutBlock
import Derived.Deep.DeepCutAuto
import Derived.Test.YtcepppilgncdmaaGreatDoorBX04
import Derived.Test.YtcepppilgncdmaaGreatDoorBX06
import Derived.Test.YtcepppilgncdmaaGreatDoorBX07
namespace Go.Proofs.YtcepppilgncdmaaGreatDoor
open Go.RowKit
def MaxAt (w:World):Prop:=∃m,w.cell? ⟨0,0,none⟩=some (.int .i64 m)
theorem MaxAt.below {w w':World}(h:MaxAt w) (hb:Below w.heap.size w w'):MaxAt w':=by
 obtain ⟨m,hm⟩:=h
 exact ⟨m,(hb.cell (p:=⟨0,0,none⟩) (World.block_lt_of_cell? _ _ hm)).trans hm⟩
theorem MaxAt.set {w:World}(h:MaxAt w) {p:Addr}{u:Value}(hp:w.cell? p=some u) (hu:∀m,u≠.int .i64 m) (v:Value):MaxAt (w.setCell p v):=by
 obtain ⟨m,hm⟩:=h
 refine ⟨m,(World.cell?_setCell_other _ _ _ _ ?_).trans hm⟩
 rintro rfl
 rw [hm] at hp
 exact hu m (Option.some.inj hp).symm
theorem below_on {B:Nat}{w w0 w1:World}(h:Below B w w0) (hB:B≤w.heap.size) (h1:Below w0.heap.size w0 w1):Below B w w1:=h.trans (h1.mono (Nat.le_trans hB h.size))
theorem L_mk (l:List UInt8):L ⟨l.toArray⟩=l:=rfl
theorem size_L (s:ByteArray):s.size=(L s).length:=(L_length s).symm
theorem wordOf_le (l:List UInt8):(wordOf l).length≤l.length:=by
 unfold wordOf;rw [List.length_take,List.length_drop];omega
theorem restOf_le (l:List UInt8):(restOf l).length≤l.length:=by
 unfold restOf;rw [List.length_drop];omega
theorem noBlank_le (l:List UInt8):(noBlank l).length≤l.length:=List.length_filter_le _ _
set_option maxHeartbeats 400000 in
theorem WithoutRemark_any (s:ByteArray) (w:World) (hs:s.size<4294967281) (hm:MaxAt w) :
  Calls Tryz.prog 76 #[.string s] w fun e w'=>∃t,L t=cutL (L s)∧e=.returned (.string t)∧Below w.heap.size w w':=by
 obtain ⟨m,hm⟩:=hm
 have HM:=hid hm
 have HS:=hid hs
 clear hm hs
 go_enter Tryz.func76,Tryz.ntmps76
 go_wp2_with (first|(go_at_call 116;refine (Tryz.strings_Cut s _ m _ HS.out HM.out).mono ?_;rintro e w' ⟨rfl,n,rfl⟩))
 go_ret
 exact ⟨_,by rw [L_mk];exact cut_semi _,rfl,below_drewN (Below.refl _ _) _⟩
set_option maxHeartbeats 400000 in
theorem cutWord_any (s:ByteArray) (w:World) (hs:s.size<4294967281) (hm:MaxAt w) :
  Calls Tryz.prog 75 #[.string s] w fun e w'=>∃a r,L a=wordOf (L s)∧SameW (L r) (restOf (L s))∧r.size≤s.size∧e=.returned (.tuple #[.string a,.string r])∧Below w.heap.size w w':=by
 obtain ⟨m,hm⟩:=hm
 have HM:=hid hm
 have hd:(⟨(Lib.trimLeftB s.data.toList 32).toArray⟩:ByteArray).size≤s.size:=by
  rw [size_L,L_mk,trim_blanks,List.length_drop];show (L s).length-_≤_;rw [L_length];omega
 have HS:=hid (show (⟨(Lib.trimLeftB s.data.toList 32).toArray⟩:ByteArray).size<4294967281 by omega)
 have HW:=hid (cut_word (L s))
 have HL:=hid (show (Lib.cut (Lib.trimLeftB s.data.toList 32) [32]).2.1.length≤s.size by
  rw [trim_blanks]
  rcases cut_one 32 (s.data.toList.drop (blanks s.data.toList)) with ⟨h1,_⟩|⟨p,r,h1,_,h3⟩
  ·rw [h1];simp
  ·rw [h3]
   have:=congrArg List.length h1
   rw [List.length_drop,List.length_append,List.length_cons] at this
   have h4:=L_length s
   unfold L at h4
   show r.length≤s.size
   omega)
 clear hm hs hd
 go_enter Tryz.func75,Tryz.ntmps75
 go_wp2_with (first|(go_at_call 117;refine (Tryz.strings_TrimLeft_one s 32 (by decide) _).mono ?_;rintro e w' ⟨rfl,rfl⟩)|(go_at_call 116;refine (Tryz.strings_Cut _ _ m _ HS.out HM.out).mono ?_;rintro e w' ⟨rfl,n,rfl⟩))
 go_ret2
 refine ⟨_,_,?_,?_,?_,rfl,below_drewN (Below.refl _ _) _⟩
 ·rw [L_mk,L_mk,trim_blanks];exact HW.out.1
 ·rw [L_mk,L_mk,trim_blanks];exact HW.out.2
 ·rw [size_L,L_mk];exact HL.out
def noParts:List Value:=[.string ⟨#[]⟩,.string ⟨#[]⟩,.slice none 0 0]
theorem split_row (w:World) (A:ByteArray) (c:UInt8) :
  StrV (w.alloc (.cells ((Lib.splitB ⟨#[c]⟩ 0 (Lib.countB A ⟨#[c]⟩) A).map Value.string).toArray 9)) w.heap.size (.slice (some ⟨w.heap.size,0,none⟩) (Lib.countB A ⟨#[c]⟩+1) (Lib.countB A ⟨#[c]⟩+1)) (Lib.splitB ⟨#[c]⟩ 0 (Lib.countB A ⟨#[c]⟩) A) ∧
  (Lib.splitB ⟨#[c]⟩ 0 (Lib.countB A ⟨#[c]⟩) A).map L=splitB c.toNat (L A):=by
 have hl:(Lib.splitB ⟨#[c]⟩ 0 (Lib.countB A ⟨#[c]⟩) A).length=Lib.countB A ⟨#[c]⟩+1:=Lib.splitB_all ⟨#[c]⟩ (Nat.le_refl 1) 0 _ A rfl
 refine ⟨Or.inr ⟨w.heap.size,0,Lib.countB A ⟨#[c]⟩+1,_,by rw [hl],Nat.le_refl _,heap_alloc_new w _,by omega,fun i hi=>?_⟩,?_⟩
 ·simp [hi]
 ·have:=Lib.splitB_data ⟨#[c]⟩ 0 (Lib.countB A ⟨#[c]⟩) A
  refine this.trans ?_
  exact splitK_one c _ (L A) (Nat.le_refl _)
theorem suffix_any (a:ByteArray) (w:World) (mk:Bool) (lb:ByteArray) (hs:a.size≤100000) (h1:Lib.hasSuffix (L a) [58]=mk) (h2:L lb=Lib.trimSuffix (L a) [58]) :
  Calls Tryz.prog 77 #[.string a,.string ⟨#[58]⟩] w fun e w'=>e=.returned (.tuple #[.string lb,.bool mk])∧w'=w:=by
 refine (Tryz.strings_CutSuffix a ⟨#[58]⟩ w (by omega)).mono ?_
 rintro e w' ⟨rfl,rfl⟩
 refine ⟨?_,rfl⟩
 have e1:(⟨(Lib.trimSuffix a.data.toList (⟨#[58]⟩:ByteArray).data.toList).toArray⟩:ByteArray)=lb:=L_inj h2.symm
 have e2:Lib.hasSuffix a.data.toList (⟨#[58]⟩:ByteArray).data.toList=mk:=h1
 rw [e1,e2]
theorem replace_any (r:ByteArray) (w:World) (A:ByteArray) (hs:r.size≤100000) (hm:MaxAt w) (h:L A=noBlank (L r)) :
  Calls Tryz.prog 79 #[.string r,.string ⟨#[32]⟩,.string ⟨#[]⟩] w fun e w'=>e=.returned (.string A)∧Below w.heap.size w w':=by
 obtain ⟨m,hm⟩:=hm
 refine (Tryz.strings_ReplaceAll r ⟨#[32]⟩ ⟨#[]⟩ m w (by omega) hm (Nat.le_refl 1) (by show r.size+_*0≤_;omega)).mono ?_
 rintro e w' ⟨rfl,hb⟩
 refine ⟨?_,hb⟩
 have e1:(⟨(Lib.replaceAll r.data.toList (⟨#[32]⟩:ByteArray).data.toList (⟨#[]⟩:ByteArray).data.toList).toArray⟩:ByteArray)=A:=L_inj ((replaceAll_blanks (L r)).trans h.symm)
 rw [e1]
theorem split_any (A:ByteArray) (c:UInt8) (w:World) (hs:A.size≤100000) (hm:MaxAt w) :
  Calls Tryz.prog 44 #[.string A,.string ⟨#[c]⟩] w fun e w'=>∃v parts,e=.returned v∧StrV w' w.heap.size v parts∧parts.map L=splitB c.toNat (L A)∧Below w.heap.size w w':=by
 obtain ⟨m,hm⟩:=hm
 refine (Tryz.strings_Split A ⟨#[c]⟩ m w (by omega) hm (Nat.le_refl 1)).mono ?_
 rintro e w' ⟨rfl,rfl⟩
 exact ⟨_,_,rfl,(split_row w A c).1,(split_row w A c).2,(Below.refl _ _).alloc (Nat.le_refl _) _⟩
set_option maxHeartbeats 1600000 in
theorem Read_any (s:ByteArray) (w:World) (hs:s.size≤100000) (hm:MaxAt w) :
  Calls Tryz.prog 48 #[.string s] w fun e w'=>∃lb op v os,e=.returned (.agg #[.string lb,.string op,v])∧PartsV w' w.heap.size lb op v os (wordsP (cutL (L s)))∧Below w.heap.size w w':=by
 obtain ⟨B,hB⟩:∃B,w.heap.size=B:=⟨_,rfl⟩
 have HB:=hid hB
 have HM:=hid hm
 have HS:=hid hs
 have HR0:=hid (show RowT ((w.alloc (.cells noParts.toArray 101)).alloc (.cells noParts.toArray 101)) 101 B noParts from (hB ▸ RowT.new w 101 noParts).alloc _)
 have HR1:=hid (show RowT ((w.alloc (.cells noParts.toArray 101)).alloc (.cells noParts.toArray 101)) 101 (B+1) noParts from by
  have:=RowT.new (w.alloc (.cells noParts.toArray 101)) 101 noParts
  rw [show (w.alloc (.cells noParts.toArray 101)).heap.size=B+1 from by simp [hB]] at this
  exact this)
 have HB1:=hid (show Below B w ((w.alloc (.cells noParts.toArray 101)).alloc (.cells noParts.toArray 101)) from ((Below.refl B w).alloc (by omega) _).alloc (by simp;omega) _)
 have HM1:=hid (show MaxAt ((w.alloc (.cells noParts.toArray 101)).alloc (.cells noParts.toArray 101)) from hm.below (((Below.refl _ w).alloc (Nat.le_refl _) _).alloc (by simp) _))
 clear hm hs
 go_enter Tryz.func48,Tryz.ntmps48
 go_wp2_with fail
 refine (WithoutRemark_any s _ (by have:=HS.out;omega) HM1.out).mono ?_
 rintro e w1 ⟨t,ht,rfl,hb1⟩
 have hts:t.size≤100000:=by rw [size_L,ht];have:=cutL_le (L s);rw [L_length] at this;have:=HS.out;omega
 have HT:=hid ht
 have HR0:=hid (HR0.out.below hb1)
 have HR1:=hid (HR1.out.below hb1)
 have HB1:=hid (below_on HB1.out (Nat.le_of_eq hB.symm) hb1)
 have HM1:=hid (HM1.out.below hb1)
 clear hb1 ht
 go_wp2_with fail
 refine (cutWord_any t _ (by omega) HM1.out).mono ?_
 rintro e w2 ⟨a,r,ha,hr,hrs,rfl,hb2⟩
 have has:a.size≤100000:=by rw [size_L,ha];have:=wordOf_le (L t);rw [L_length] at this;omega
 have HA:=hid ha
 have HRR:=hid hr
 have HR0:=hid (HR0.out.below hb2)
 have HR1:=hid (HR1.out.below hb2)
 have HB1:=hid (below_on HB1.out (Nat.le_of_eq hB.symm) hb2)
 have HM1:=hid (HM1.out.below hb2)
 clear hb2 ha hr HM HS
 obtain ⟨mk,hmk⟩:∃mk,Lib.hasSuffix (L a) [58]=mk:=⟨_,rfl⟩
 obtain ⟨lb,hlb⟩:∃lb,L lb=Lib.trimSuffix (L a) [58]:=⟨⟨(Lib.trimSuffix (L a) [58]).toArray⟩,rfl⟩
 have HMK:=hid hmk
 have HLB:=hid hlb
 clear hmk hlb
 have hex:lb.size≤maxLen:=by
  rw [size_L,HLB.out];unfold Lib.trimSuffix maxLen
  have:=L_length a
  split
  ·rw [List.length_take];omega
  ·omega
 have hrs':r.size≤100000:=by omega
 have hand:=(label_suffix (L a)).1
 rw [HMK.out,←HLB.out] at hand
 have hcs:(labelB (L a)=false∧mk=false)∨(labelB (L a)=false∧mk=true∧nameB (L lb)=false)∨(labelB (L a)=true∧mk=true∧nameB (L lb)=true):=by
  cases mk<;>cases hn:nameB (L lb)<;>simp_all
 clear hand
 have HLAB:=hid (show labelB (wordOf (cutL (L s)))=labelB (L a) by rw [←HT.out,←HA.out])
 have HF:=hid (show labelB (L a)=false→L (⟨#[]⟩:ByteArray)=(wordsP (cutL (L s))).label∧L a=(wordsP (cutL (L s))).op∧operandsOf (L r)=(wordsP (cutL (L s))).operands by
  intro hml
  unfold wordsP;rw [HLAB.out,hml,←HT.out]
  refine ⟨rfl,HA.out,?_⟩
  have:=HRR.out.1
  unfold operandsOf
  rw [this];rfl)
 have HG:=hid (show labelB (L a)=true→L lb=(wordsP (cutL (L s))).label by
  intro hml
  unfold wordsP;rw [HLAB.out,hml,HLB.out,(label_suffix (L a)).2 hml,HA.out,HT.out];rfl)
 rcases hcs with ⟨hml,rfl⟩|⟨hml,rfl,hn⟩|⟨hml,rfl,hn⟩
 obtain ⟨f1,f2,f3⟩:=HF.out hml
 have HF1:=hid f1
 have HF2:=hid f2
 have HF3:=hid f3
 clear f1 f2 f3 hml
 obtain ⟨lF,hlF⟩:∃x,x=(⟨#[]⟩:ByteArray):=⟨_,rfl⟩
 rw [←hlF] at HF1
 have HR1:=hid (show RowT w2 101 (B+1) [.string lF,.string ⟨#[]⟩,.slice none 0 0] by rw [hlF];exact HR1.out)
 obtain ⟨opF,hoF⟩:∃x,x=a:=⟨_,rfl⟩
 subst hoF
 obtain ⟨rF,hrF⟩:∃x,x=r:=⟨_,rfl⟩
 subst hrF
 clear hlF
 go_upto_region 7 with (first|(go_at_call 77;refine (suffix_any opF _ false lb has HMK.out HLB.out).mono ?_;rintro e wF ⟨rfl,rfl⟩))
 rotate_left
 obtain ⟨f1,f2,f3⟩:=HF.out hml
 have HF1:=hid f1
 have HF2:=hid f2
 have HF3:=hid f3
 have HN:=hid hn
 clear f1 f2 f3 hml hn
 obtain ⟨lF,hlF⟩:∃x,x=(⟨#[]⟩:ByteArray):=⟨_,rfl⟩
 rw [←hlF] at HF1
 have HR1:=hid (show RowT w2 101 (B+1) [.string lF,.string ⟨#[]⟩,.slice none 0 0] by rw [hlF];exact HR1.out)
 obtain ⟨opF,hoF⟩:∃x,x=a:=⟨_,rfl⟩
 subst hoF
 obtain ⟨rF,hrF⟩:∃x,x=r:=⟨_,rfl⟩
 subst hrF
 clear hlF
 go_upto_region 7 with (first|(go_at_call 77;refine (suffix_any opF _ true lb has HMK.out HLB.out).mono ?_;rintro e w' ⟨rfl,rfl⟩)|(go_at_call 78;refine (IsName_any _ _ hex).mono ?_;rw [HN.out];rintro e wF ⟨rfl,rfl⟩))
 rotate_left
 have HF1:=hid (HG.out hml)
 have HN:=hid hn
 have HL:=hid (HLAB.out.trans hml)
 have c0:=HR1.out.cell 0 (by decide)
 have f0:=HR1.out.free 0
 have HR1:=hid (HR1.out.set 0 (.string lb))
 have HR0:=hid (HR0.out.other (B+1) 0 (by omega) (.string lb))
 have HB1:=hid (HB1.out.setCell (p:=⟨B+1,0,none⟩) (by show B≤B+1;omega) (.string lb))
 have HM1:=hid (MaxAt.set HM1.out c0 (by intro m;simp [noParts]) (.string lb))
 obtain ⟨lF,hlF⟩:∃x,x=lb:=⟨_,rfl⟩
 subst hlF
 clear hn hml
 go_upto_region 7 with (first|(go_at_call 77;refine (suffix_any a _ true lF has HMK.out HLB.out).mono ?_;rintro e w' ⟨rfl,rfl⟩)|(go_at_call 78;refine (IsName_any _ _ hex).mono ?_;rw [HN.out];rintro e wn ⟨rfl,rfl⟩)|(go_at_call 75;refine (cutWord_any r _ (by omega) HM1.out).mono ?_;rintro e wF ⟨opF,rF,ha2,hr2,hrs2,rfl,hb3⟩))
 have HF2:=hid (show L opF=(wordsP (cutL (L s))).op by unfold wordsP;rw [HL.out,ha2,HRR.out.2.1,HT.out];rfl)
 have HF3:=hid (show operandsOf (L rF)=(wordsP (cutL (L s))).operands by
  unfold wordsP;rw [HL.out,←HT.out]
  have h3:=hr2.1
  rw [HRR.out.2.2] at h3
  unfold operandsOf
  rw [h3];rfl)
 have hrs':rF.size≤100000:=by omega
 have HR0:=hid (HR0.out.below hb3)
 have HR1:=hid (show RowT wF 101 (B+1) [.string lF,.string ⟨#[]⟩,.slice none 0 0] from HR1.out.below hb3)
 have HB1:=hid (below_on HB1.out (Nat.le_of_eq hB.symm) hb3)
 have HM1:=hid (HM1.out.below hb3)
 clear ha2 hr2 hrs2 hb3 c0 f0
 rotate_left
 all_goals
  have c1:=HR1.out.cell 1 (by simp)
  have f1:=HR1.out.free 1
  have HR1:=hid (show RowT _ 101 (B+1) [.string lF,.string opF,.slice none 0 0] from HR1.out.set 1 (.string opF))
  have HR0:=hid (HR0.out.other (B+1) 1 (by omega) (.string opF))
  have HB1:=hid (HB1.out.setCell (p:=⟨B+1,1,none⟩) (by show B≤B+1;omega) (.string opF))
  have HM1:=hid (MaxAt.set HM1.out c1 (by intro m;simp) (.string opF))
  obtain ⟨A,hA⟩:∃A,L A=noBlank (L rF):=⟨⟨(noBlank (L rF)).toArray⟩,rfl⟩
  have hAs:A.size≤100000:=by rw [size_L,hA];have:=noBlank_le (L rF);rw [L_length] at this;omega
  have HAN:=hid hA
  clear hA
  go_wp2_with fail
  refine (replace_any rF _ A hrs' HM1.out HAN.out).mono ?_
  rintro e w4 ⟨rfl,hb4⟩
  have HR1:=hid (HR1.out.below hb4)
  have HR0:=hid (HR0.out.below hb4)
  have HB1:=hid (below_on HB1.out (Nat.le_of_eq hB.symm) hb4)
  have HM1:=hid (HM1.out.below hb4)
  have hlt1:=HR1.out.lt
  clear hb4 c1 f1
  by_cases hz:A.size=0
  ·have hAe:=empty_of A hz
   subst hAe
   have HO:=hid (show (wordsP (cutL (L s))).operands=[] by rw [←HF3.out];unfold operandsOf;rw [if_pos (by rw [←HAN.out];rfl)])
   have y0:=HR1.out.cell 0 (by simp)
   have y1:=HR1.out.cell 1 (by simp)
   have y2:=HR1.out.cell 2 (by simp)
   have x0:=HR0.out.cell 0 (by decide)
   have x1:=HR0.out.cell 1 (by decide)
   have x2:=HR0.out.cell 2 (by decide)
   have z0:=HR0.out.free 0
   have z1:=HR0.out.free 1
   have z2:=HR0.out.free 2
   have hlt0:=HR0.out.lt
   clear hz
   go_wp2
   refine bodyPost_ret (v:=.agg #[.string lF,.string opF,.slice none 0 0]) (by simp [results,Tryz.results48,go_sem,x0,x1,x2]) rfl ⟨lF,opF,_,[],rfl,⟨HF1.out,HF2.out,HO.out.symm,Or.inl ⟨rfl,rfl⟩⟩,?_⟩
   rw [HB.out]
   exact ((HB1.out.setCell (Nat.le_refl _) _).setCell (Nat.le_refl _) _).setCell (Nat.le_refl _) _
  ·have hne:=not_empty A (by omega)
   have HO:=hid (show (wordsP (cutL (L s))).operands=splitB 44 (L A) by
    rw [←HF3.out];unfold operandsOf
    rw [if_neg (by rw [←HAN.out];intro h;exact hz (by rw [←L_length,h];rfl)),HAN.out])
   clear HF3 HAN hz
   go_wp2_with fail
   refine (split_any A 44 _ hAs HM1.out).mono ?_
   rintro e w5 ⟨v,os,rfl,hst,hos,hb5⟩
   obtain ⟨va,vc,hv⟩:=hst.form
   subst hv
   have HR1:=hid (HR1.out.below hb5)
   have HR0:=hid (HR0.out.below hb5)
   have HB1:=hid (below_on HB1.out (Nat.le_of_eq hB.symm) hb5)
   have hne1:=RowT.notStr HR1.out (by decide)
   have k2:=HR1.out.cell 2 (by simp)
   have m2:=HR1.out.free 2
   have HR1:=hid (show RowT _ 101 (B+1) [.string lF,.string opF,.slice va os.length vc] from HR1.out.set 2 (.slice va os.length vc))
   have HR0:=hid (HR0.out.other (B+1) 2 (by omega) (.slice va os.length vc))
   have HB1:=hid (HB1.out.setCell (p:=⟨B+1,2,none⟩) (by show B≤B+1;omega) (.slice va os.length vc))
   have HST:=hid (((hst.mono (C:=B) (by omega)).set (B+1) 2 (.slice va os.length vc) hne1))
   have hcl:=HST.out
   have y0:=HR1.out.cell 0 (by simp)
   have y1:=HR1.out.cell 1 (by simp)
   have y2:=HR1.out.cell 2 (by simp)
   have x0:=HR0.out.cell 0 (by decide)
   have x1:=HR0.out.cell 1 (by decide)
   have x2:=HR0.out.cell 2 (by decide)
   have z0:=HR0.out.free 0
   have z1:=HR0.out.free 1
   have z2:=HR0.out.free 2
   have hlt0:=HR0.out.lt
   have HOS:=hid hos
   clear hst hos hb5 hcl hne1
   go_wp2
   refine bodyPost_ret (v:=.agg #[.string lF,.string opF,.slice va os.length vc]) (by simp [results,Tryz.results48,go_sem,x0,x1,x2]) rfl ⟨lF,opF,.slice va os.length vc,os,rfl,⟨HF1.out,HF2.out,HOS.out.trans HO.out.symm,?_⟩,?_⟩
   ·rw [HB.out]
    exact ((HST.out.set B 0 _ (RowT.notStr HR0.out (by decide))).set B 1 _ (RowT.notStr (HR0.out.set 0 _) (by decide))).set B 2 _ (RowT.notStr ((HR0.out.set 0 _).set 1 _) (by decide))
   ·rw [HB.out]
    exact ((HB1.out.setCell (Nat.le_refl _) _).setCell (Nat.le_refl _) _).setCell (Nat.le_refl _) _
theorem is_empty (s:ByteArray) (h:s.size=0):s.toList.isEmpty=true:=by
 rw [ByteArray.toList_eq]
 have:=L_length s
 unfold L at this
 cases hl:s.data.toList with
 |nil=>rfl
 |cons a b=>rw [hl] at this;simp at this;omega
theorem L_zero {s:ByteArray}(h:s.size=0):L s=[]:=by rw [empty_of s h];rfl
theorem PartsV.bare {w:World}{B:Nat}{lb op:ByteArray}{v:Value}{os:List ByteArray}{W:WordsP}(h:PartsV w B lb op v os W):bareW W=(decide (lb.size=0)&&decide (os.length=0)):=by
 unfold bareW
 rw [←h.label,←h.ops]
 congr 1
 ·rw [decide_eq_decide]
  constructor
  ·intro e;rw [size_L,e];rfl
  ·exact L_zero
 ·rw [decide_eq_decide]
  constructor
  ·intro e;have:=congrArg List.length e;simpa using this
  ·intro e;have:os=[]:=List.eq_nil_of_length_eq_zero e;rw [this];rfl
set_option maxHeartbeats 400000 in
theorem IsBare_any (lb op:ByteArray) (va:Option Addr) (n vc:Nat) (w:World) (b:Bool) (hn:n≤maxLen) (hb:(decide (lb.size=0)&&decide (n=0))=b) :
  Calls Tryz.prog 174 #[.agg #[.string lb,.string op,.slice va n vc]] w fun e w'=>e=.returned (.bool b)∧Below w.heap.size w w':=by
 unfold maxLen at hn
 have HBL:=hid (show Below w.heap.size w (w.alloc (.cells #[.string lb,.string op,.slice va n vc] 101)) from (Below.refl _ _).alloc (Nat.le_refl _) _)
 by_cases h1:lb.size=0
 ·have h1':=empty_of lb h1
  subst h1'
  by_cases h2:n=0
  ·subst h2
   have hb':true=b:=hb
   subst hb'
   go_enter Tryz.func174,Tryz.ntmps174
   go_wp2
   go_ret
   exact ⟨rfl,HBL.out⟩
  ·have hb':false=b:=by rw [←hb,decide_eq_false h2,Bool.and_false]
   subst hb'
   have k:((n:Int)==0)=false:=by rw [beq_eq_false_iff_ne];omega
   clear hb
   go_enter Tryz.func174,Tryz.ntmps174
   go_wp2
   go_ret
   exact ⟨rfl,HBL.out⟩
 ·have hb':false=b:=by rw [←hb,decide_eq_false h1,Bool.false_and]
  subst hb'
  have k:=not_empty lb (by omega)
  clear hb
  go_enter Tryz.func174,Tryz.ntmps174
  go_wp2
  go_ret
  exact ⟨rfl,HBL.out⟩
set_option maxHeartbeats 400000 in
theorem needBare_any (lb op:ByteArray) (va:Option Addr) (n vc:Nat) (w:World) (b:Bool) (hn:n≤maxLen) (hb:(decide (lb.size=0)&&decide (n=0))=b) :
  Calls Tryz.prog 165 #[.agg #[.string lb,.string op,.slice va n vc]] w fun e w'=>e=.returned (.int .i64 (if b then 0 else 4))∧Below w.heap.size w w':=by
 have HBL:=hid (show Below w.heap.size w (w.alloc (.cells #[.string lb,.string op,.slice va n vc] 101)) from (Below.refl _ _).alloc (Nat.le_refl _) _)
 have HB:=hid hb
 clear hb
 cases b with
 |true =>
  go_enter Tryz.func165,Tryz.ntmps165
  go_wp2_with (first|(go_at_call 174;refine (IsBare_any lb op va n vc _ true hn HB.out).mono ?_;rintro e w1 ⟨rfl,hb1⟩))
  go_ret
  exact ⟨rfl,below_on HBL.out (Nat.le_refl _) hb1⟩
 |false =>
  go_enter Tryz.func165,Tryz.ntmps165
  go_wp2_with (first|(go_at_call 174;refine (IsBare_any lb op va n vc _ false hn HB.out).mono ?_;rintro e w1 ⟨rfl,hb1⟩))
  go_ret
  exact ⟨rfl,below_on HBL.out (Nat.le_refl _) hb1⟩
set_option maxHeartbeats 400000 in
theorem between_any (k:Nat) (w:World) (c:UInt8) (hc:(if k=0 then 32 else 44)=c):Calls Tryz.prog 166 #[.int .i64 k] w fun e w'=>e=.returned (.string ⟨#[c]⟩)∧w'=w:=by
 by_cases h:k=0
 ·subst h
  subst hc
  go_enter Tryz.func166,Tryz.ntmps166
  go_wp2
  go_ret
  exact ⟨rfl,rfl⟩
 ·have kk:((k:Int)==0)=false:=by rw [beq_eq_false_iff_ne];omega
  rw [if_neg h] at hc
  subst hc
  go_enter Tryz.func166,Tryz.ntmps166
  go_wp2
  go_ret
  exact ⟨rfl,rfl⟩
theorem okByte_iff (c:UInt8):okByte c=(decide (32≤(c.toNat:Int))&&decide ((c.toNat:Int)≤126)):=rfl
theorem all_at (s:ByteArray) (k:Nat) (h:k<s.size):((L s).drop k).all okByte=(okByte s[k]&&((L s).drop (k+1)).all okByte):=by
 rw [L_drop s k h];rfl
set_option maxHeartbeats 400000 in
theorem mayBe_any (s:ByteArray) (w:World) (hs:s.size≤maxLen):Calls Tryz.prog 45 #[.string s] w fun e w'=>e=.returned (.bool (okLine (L s)))∧w'=w:=by
 unfold maxLen at hs
 go_enter Tryz.func45,Tryz.ntmps45
 go_wp2
 go_loop [6] (fun i=>∃k:Nat,k≤s.size∧i=.int .i64 k∧(L s).all okByte=((L s).drop k).all okByte) (fun i=>s.size-(intOf i).toNat)
 case atStart=>exact ⟨0,Nat.zero_le _,rfl,by simp⟩
 case round =>
  obtain ⟨k,hk,rfl,ha⟩:=hrel
  have HA:=hid ha
  clear ha
  by_cases hlt:k<s.size
  ·have hcs:((s[k].toNat:Int)<32)∨(32≤(s[k].toNat:Int)∧126<(s[k].toNat:Int))∨(32≤(s[k].toNat:Int)∧(s[k].toNat:Int)≤126):=by omega
   rcases hcs with h|⟨h0,h⟩|⟨h0,h⟩
   ·have HF:=hid (show okLine (L s)=false by
     unfold okLine;rw [HA.out,all_at s k hlt,okByte_iff,decide_eq_false (show ¬32≤(s[k].toNat:Int) by omega)];simp)
    have d1:decide ((s[k].toNat:Int)<32)=true:=by simpa using h
    clear h
    go_wp2
    go_ret
    exact ⟨ret_bool HF.out.symm,rfl⟩
   ·have HF:=hid (show okLine (L s)=false by
     unfold okLine;rw [HA.out,all_at s k hlt,okByte_iff,decide_eq_false (show ¬(s[k].toNat:Int)≤126 by omega)];simp)
    have d1:decide ((s[k].toNat:Int)<32)=false:=by simp;omega
    have d2:decide (126<(s[k].toNat:Int))=true:=by simp;omega
    clear h h0
    go_wp2
    go_ret
    exact ⟨ret_bool HF.out.symm,rfl⟩
   ·have HF:=hid (show (L s).all okByte=((L s).drop (k+1)).all okByte by
     rw [HA.out,all_at s k hlt,okByte_iff,decide_eq_true h0,decide_eq_true h];simp)
    have d1:decide ((s[k].toNat:Int)<32)=false:=by simp;omega
    have d2:decide (126<(s[k].toNat:Int))=false:=by simp;omega
    clear h h0
    go_wp2
    go_round
    case rel=>exact ⟨k+1,by omega,by go_num,HF.out⟩
    case measure=>simp [intOf];omega
  ·have HF:=hid (show okLine (L s)=decide (s.size≤80) by
    unfold okLine;rw [HA.out,L_end s k (by omega),L_length];simp)
   by_cases h80:s.size≤80
   ·have d:decide ((s.size:Int)≤80)=true:=by simp;omega
    go_wp2
    go_ret
    exact ⟨ret_bool (by rw [HF.out,decide_eq_true h80]),rfl⟩
   ·have d:decide ((s.size:Int)≤80)=false:=by simp;omega
    go_wp2
    go_ret
    exact ⟨ret_bool (by rw [HF.out,decide_eq_false h80]),rfl⟩
theorem RowT.upto {B:Nat}{w w':World}{t g:Nat}{xs:List Value}(h:RowT w t g xs) (hb:Below B w w') (hg:g<B):RowT w' t g xs:=by
 unfold RowT at h ⊢
 rw [hb.block g hg];exact h
def BuildAt (w:World) (B b:Nat) (acc:List UInt8):Prop:=Lib.IsBuilderF 221 5 B b (Lib.byteCells acc) w
theorem write_any (B b:Nat) (acc:List UInt8) (s:ByteArray) (w:World) (h:BuildAt w B b acc) (hlen:acc.length+s.size≤100000000) (hB:B≤w.heap.size) :
  Calls Tryz.prog 153 #[.pointer (some ⟨b,0,none⟩),.string s] w fun e w'=>e=.returned (.tuple #[.int .i64 s.size,.nilIface])∧BuildAt w' B b (acc++L s)∧Below B w w':=by
 refine (Tryz.Builder_WriteString_f B b (Lib.byteCells acc) s w h (by rw [Lib.byteCells_length];omega) hB).mono ?_
 rintro e w' ⟨rfl,h1,h2⟩
 refine ⟨rfl,Or.inr ?_,h2⟩
 rw [Lib.byteCells_append]
 exact h1
theorem string_any (B b:Nat) (acc:List UInt8) (w:World) (h:BuildAt w B b acc) (hB:B≤w.heap.size) :
  Calls Tryz.prog 154 #[.pointer (some ⟨b,0,none⟩)] w fun e w'=>e=.returned (.string ⟨acc.toArray⟩)∧Below B w w':=by
 refine (Tryz.Builder_String_any_f B b acc w h hB).mono ?_
 rintro e w' ⟨rfl,_,h2⟩
 exact ⟨rfl,h2⟩
set_option maxHeartbeats 1600000 in
theorem Text_any (lb op:ByteArray) (va:Option Addr) (vc:Nat) (os:List ByteArray) (w:World) (C:Nat) (W:WordsP) (h:PartsV w C lb op (.slice va os.length vc) os W) (hl:(textP W).length≤1000000) (hn:os.length≤1000000) :
  Calls Tryz.prog 144 #[.agg #[.string lb,.string op,.slice va os.length vc]] w fun e w'=>∃t,L t=textP W∧e=.returned (.string t)∧Below w.heap.size w w':=by
 obtain ⟨B,hB⟩:∃B,w.heap.size=B:=⟨_,rfl⟩
 have HB:=hid hB
 have hb2:Below B w ((w.alloc (.cells #[.string lb,.string op,.slice va os.length vc] 101)).alloc (.cells #[.pointer none,.slice none 0 0] 221)):=((Below.refl B w).alloc (by omega) _).alloc (by simp;omega) _
 have HR:=hid (show RowT ((w.alloc (.cells #[.string lb,.string op,.slice va os.length vc] 101)).alloc (.cells #[.pointer none,.slice none 0 0] 221)) 101 B [.string lb,.string op,.slice va os.length vc] from (hB ▸ RowT.new w 101 [.string lb,.string op,.slice va os.length vc]).alloc _)
 have HBD:=hid (show BuildAt ((w.alloc (.cells #[.string lb,.string op,.slice va os.length vc] 101)).alloc (.cells #[.pointer none,.slice none 0 0] 221)) (B+1) (B+1) [] by
  have:=Lib.IsBuilderF.of (Lib.fresh_isBuilder 221 5 (w.alloc (.cells #[.string lb,.string op,.slice va os.length vc] 101)))
  rw [show (w.alloc (.cells #[.string lb,.string op,.slice va os.length vc] 101)).heap.size=B+1 from by simp [hB]] at this
  exact this)
 have hz2:B+1<((w.alloc (.cells #[.string lb,.string op,.slice va os.length vc] 101)).alloc (.cells #[.pointer none,.slice none 0 0] 221)).heap.size:=by simp [hB]
 have HZ:=hid hz2
 have HB2:=hid hb2
 have HH:=hid h
 have hsum:=hl
 rw [textP_head,List.length_append,joined_len,←h.ops] at hsum
 have hlen:lb.size≤1000000∧op.size≤1000000:=by
  rw [size_L,size_L,h.label,h.op]
  unfold headP at hsum
  constructor
  ·split at hsum<;>(try split at hsum)<;>simp_all<;>omega
  ·split at hsum<;>(try split at hsum)<;>simp_all<;>omega
 have HTX:=hid (show textP W=headP (L lb) (L op)++joinedTo os os.length by
  rw [textP_head,h.label,h.op];unfold joinedTo;rw [List.take_of_length_le (Nat.le_refl _),h.ops])
 have hjl:∀k,(joinedTo os k).length≤1000000:=fun k=>Nat.le_trans (joinedTo_len os k) (by omega)
 have HJL:=hid hjl
 clear h hl hb2 hz2 hsum hjl
 obtain ⟨hlb,hop⟩:=hlen
 have hcs:lb.size=0∨(¬lb.size=0∧op.size=0)∨(¬lb.size=0∧¬op.size=0):=by omega
 go_enter Tryz.func144,Tryz.ntmps144
 rcases hcs with h1|⟨h1,h2⟩|⟨h1,h2⟩
 focus
  have HAC:=hid (show headP (L lb) (L op)=([]:List UInt8)++L op by
   unfold headP;rw [L_zero h1];by_cases ho:L op=[]
   ·simp [ho]
   ·rw [if_neg ho];rfl)
  obtain ⟨ac,hac⟩:∃x:List UInt8,x=[]:=⟨_,rfl⟩
  have kl:=is_empty lb h1
  rw [←hac] at HAC HBD
  have hacl:ac.length≤1000002:=by rw [hac];simp
  clear h1 hac
  go_upto_region 7 with fail
  generalize ((w.alloc (.cells #[.string lb,.string op,.slice va os.length vc] 101)).alloc (.cells #[.pointer none,.slice none 0 0] 221))=wF at HR HBD HZ HB2 ⊢
 rotate_left
 focus
  have k1:=not_empty lb (by omega)
  have HAC:=hid (show headP (L lb) (L op)=(L lb++[58])++L op by
   unfold headP;rw [L_zero h2,if_pos rfl,if_neg (ne_of_size lb h1),List.append_nil])
  have k2:=is_empty op h2
  clear h1 h2
  go_wp2_with fail
  refine (write_any (B+1) (B+1) [] lb _ HBD.out (by simp;omega) (Nat.le_of_lt HZ.out)).mono ?_
  rintro e w3 ⟨rfl,hbd3,hb3⟩
  have HBD:=hid hbd3
  have HR:=hid (HR.out.upto hb3 (Nat.lt_succ_self _))
  have HZ:=hid (Nat.lt_of_lt_of_le HZ.out hb3.size)
  have HB2:=hid (HB2.out.trans (hb3.mono (Nat.le_succ _)))
  have d0:=HR.out.cell 0 (by simp)
  clear hbd3 hb3
  go_wp2_with fail
  refine (write_any (B+1) (B+1) _ ⟨#[58]⟩ _ HBD.out (by show _+1≤_;rw [List.nil_append,L_length];omega) (Nat.le_of_lt HZ.out)).mono ?_
  rintro e wF ⟨rfl,hbd3,hb3⟩
  obtain ⟨ac,hac⟩:∃x,x=L lb++[58]:=⟨_,rfl⟩
  rw [←hac] at HAC
  have HBD:=hid (show BuildAt wF (B+1) (B+1) ac from hac ▸ hbd3)
  have HR:=hid (HR.out.upto hb3 (Nat.lt_succ_self _))
  have HZ:=hid (Nat.lt_of_lt_of_le HZ.out hb3.size)
  have HB2:=hid (HB2.out.trans (hb3.mono (Nat.le_succ _)))
  have hacl:ac.length≤1000002:=by rw [hac,List.length_append,L_length];simp;omega
  clear hbd3 hb3 hac d0
  have d0:=HR.out.cell 0 (by simp)
  have d1:=HR.out.cell 1 (by simp)
  go_upto_region 7 with fail
  clear d0 d1
 rotate_left
 focus
  have k1:=not_empty lb (by omega)
  have k2:=not_empty op (by omega)
  have HAC:=hid (show headP (L lb) (L op)=(L lb++[58]++[32])++L op by
   unfold headP;rw [if_neg (ne_of_size op h2),if_neg (ne_of_size lb h1)])
  clear h1 h2
  go_wp2_with fail
  refine (write_any (B+1) (B+1) [] lb _ HBD.out (by simp;omega) (Nat.le_of_lt HZ.out)).mono ?_
  rintro e w3 ⟨rfl,hbd3,hb3⟩
  have HBD:=hid hbd3
  have HR:=hid (HR.out.upto hb3 (Nat.lt_succ_self _))
  have HZ:=hid (Nat.lt_of_lt_of_le HZ.out hb3.size)
  have HB2:=hid (HB2.out.trans (hb3.mono (Nat.le_succ _)))
  have d0:=HR.out.cell 0 (by simp)
  clear hbd3 hb3
  go_wp2_with fail
  refine (write_any (B+1) (B+1) _ ⟨#[58]⟩ _ HBD.out (by show _+1≤_;rw [List.nil_append,L_length];omega) (Nat.le_of_lt HZ.out)).mono ?_
  rintro e w4 ⟨rfl,hbd3,hb3⟩
  have HBD:=hid hbd3
  have HR:=hid (HR.out.upto hb3 (Nat.lt_succ_self _))
  have HZ:=hid (Nat.lt_of_lt_of_le HZ.out hb3.size)
  have HB2:=hid (HB2.out.trans (hb3.mono (Nat.le_succ _)))
  clear hbd3 hb3 d0
  have d0:=HR.out.cell 0 (by simp)
  have d1:=HR.out.cell 1 (by simp)
  go_wp2_with fail
  refine (write_any (B+1) (B+1) _ ⟨#[32]⟩ _ HBD.out (by show _+1≤_;rw [List.nil_append,List.length_append,L_length];show _+1+1≤_;omega) (Nat.le_of_lt HZ.out)).mono ?_
  rintro e wF ⟨rfl,hbd3,hb3⟩
  obtain ⟨ac,hac⟩:∃x,x=L lb++[58]++[32]:=⟨_,rfl⟩
  rw [←hac] at HAC
  have HBD:=hid (show BuildAt wF (B+1) (B+1) ac from hac ▸ hbd3)
  have HR:=hid (HR.out.upto hb3 (Nat.lt_succ_self _))
  have HZ:=hid (Nat.lt_of_lt_of_le HZ.out hb3.size)
  have HB2:=hid (HB2.out.trans (hb3.mono (Nat.le_succ _)))
  have hacl:ac.length≤1000002:=by rw [hac,List.length_append,List.length_append,L_length];simp;omega
  clear hbd3 hb3 hac d0 d1
  go_upto_region 7 with fail
 rotate_left
 all_goals
  have d1:=HR.out.cell 1 (by simp)
  go_wp2_with fail
  refine (write_any (B+1) (B+1) ac op _ HBD.out (by omega) (Nat.le_of_lt HZ.out)).mono ?_
  rintro e w5 ⟨rfl,hbd5,hb5⟩
  have HBD:=hid hbd5
  have HR:=hid (HR.out.upto hb5 (Nat.lt_succ_self _))
  have HZ:=hid (Nat.lt_of_lt_of_le HZ.out hb5.size)
  have HB2:=hid (HB2.out.trans (hb5.mono (Nat.le_succ _)))
  have HBW:=hid HB2.out
  have hacl2:(ac++L op).length≤2000002:=by rw [List.length_append,L_length];omega
  clear hbd5 hb5 d1
  have d2:=HR.out.cell 2 (by simp)
  go_wp2_with fail
  go_loopg [28] os.length (fun q i wr=>∃k:Nat,q+k=os.length∧i=.int .i64 k∧BuildAt wr (B+1) (B+1) ((ac++L op)++joinedTo os k)∧Below (B+1) w5 wr)
  case atStart=>exact ⟨0,rfl,rfl,by rw [show joinedTo os 0=[] from rfl,List.append_nil];exact HBD.out,Below.refl _ _⟩
  case round =>
   obtain ⟨k,hq,rfl,hbk,hbl⟩:=hrel
   have HBK:=hid hbk
   have HBL:=hid hbl
   have hZk:B+1<wr.heap.size:=Nat.lt_of_lt_of_le HZ.out hbl.size
   have HJ:=hid (HJL.out k)
   clear hbk hbl
   by_cases hlt:k<os.length
   ·have kd:decide ((k:Int)<(os.length:Int))=true:=by simp;omega
    rcases HH.out.at_ with ⟨_,hos⟩|⟨b,off,cap,cur,hv,_,hcur,_,hcell⟩
    ·rw [hos] at hlt;simp at hlt
    ·injection hv with hv1 _ hv2
     subst hv1 hv2
     have hbB:b<B:=by rw [←HB.out];exact (Array.getElem?_eq_some_iff.1 hcur).1
     have ck:wr.cell? ⟨b,off+k,none⟩=some (.string os[k]):=by
      have e1:wr.heap[b]?=some (.cells cur 9 (0,0)):=by
       rw [HBL.out.block b (by omega),HBW.out.block b hbB];exact hcur
      simp [World.cell?,e1,hcell k hlt]
     have hok:os[k].size≤1000000:=by
      have h3:=HJL.out (k+1)
      rw [joinedTo_succ os k hlt,List.length_append,List.length_cons,L_length] at h3
      omega
     obtain ⟨c,hc⟩:∃c:UInt8,(if k=0 then 32 else 44)=c:=⟨_,rfl⟩
     have HC:=hid hc
     have HJS:=hid (joinedTo_succ os k hlt)
     clear hcell hcur hc
     go_wp2_with fail
     refine (between_any k _ c HC.out).mono ?_
     rintro e wb ⟨rfl,rfl⟩
     go_wp2_with fail
     refine (write_any (B+1) (B+1) _ ⟨#[c]⟩ _ HBK.out (by have:=HJ.out;show _+1≤_;rw [List.length_append];omega) (Nat.le_of_lt hZk)).mono ?_
     rintro e w6 ⟨rfl,hbd6,hb6⟩
     have HBK6:=hid hbd6
     have HB6:=hid hb6
     clear hbd6 hb6
     go_wp2_with fail
     refine (write_any (B+1) (B+1) _ os[k] _ HBK6.out (by have:=HJ.out;rw [List.length_append,List.length_append];show _+_+1+_≤_;omega) (Nat.le_trans (Nat.le_of_lt hZk) HB6.out.size)).mono ?_
     rintro e w7 ⟨rfl,hbd7,hb7⟩
     have HBK7:=hid hbd7
     have HB7:=hid hb7
     clear hbd7 hb7
     go_wp2
     go_roundg (gk-1)
     case measure=>omega
     case rel =>
      refine ⟨k+1,by omega,by go_num,?_,(HBL.out.trans HB6.out).trans HB7.out⟩
      have e2:(ac++L op++joinedTo os k++L (⟨#[c]⟩:ByteArray)++L os[k])=ac++L op++joinedTo os (k+1):=by
       rw [HJS.out,HC.out,List.append_assoc,List.append_assoc (ac++L op)];rfl
      rw [←e2];exact HBK7.out
   ·have kd:decide ((k:Int)<(os.length:Int))=false:=by simp;omega
    have hk:k=os.length:=by omega
    subst hk
    go_wp2_with fail
    refine (string_any (B+1) (B+1) _ _ HBK.out (Nat.le_of_lt hZk)).mono ?_
    rintro e w6 ⟨rfl,hb6⟩
    go_wp2
    go_ret
    refine ⟨_,?_,rfl,?_⟩
    ·rw [L_mk,HTX.out,HAC.out,List.append_assoc]
    ·rw [HB.out];exact (HBW.out.trans (HBL.out.mono (Nat.le_succ _))).trans (hb6.mono (Nat.le_succ _))
theorem badLine_at (ls:List ByteArray) (k:Nat) (h:k<ls.length):badLine ((ls.drop k).map L) (k+1)=if okLine (L ls[k]) then badLine ((ls.drop (k+1)).map L) (k+1+1) else k+1:=by
 rw [List.drop_eq_getElem_cons h,List.map_cons];rfl
theorem splitB_len (b:Int) (l:List UInt8):(splitB b l).length≤l.length+1:=by
 induction l with
 |nil=>simp [splitB]
 |cons c r ih =>
  simp only [splitB]
  split
  ·simp;omega
  ·split
   ·rename_i h;rw [h] at ih;simp at ih ⊢;omega
   ·simp
theorem splitB_each (b:Int) (l:List UInt8):∀x∈splitB b l,x.length≤l.length:=by
 induction l with
 |nil=>simp [splitB]
 |cons c r ih =>
  intro x hx
  simp only [splitB] at hx
  split at hx
  ·rcases List.mem_cons.1 hx with rfl|h
   ·simp
   ·have:=ih x h;simp;omega
  ·split at hx
   ·rename_i q t h
    rw [h] at ih
    rcases List.mem_cons.1 hx with rfl|h2
    ·have:=ih q (by simp);simp;omega
    ·have:=ih x (by simp [h2]);simp;omega
   ·simp at hx;rw [hx];simp
def SplitPost (s:ByteArray) (w:World) (e:Ending) (w':World):Prop:=Below w.heap.size w w' ∧
   ((3000<s.size∧e=.returned (.tuple #[.slice none 0 0,.int .i64 1,.int .i64 0])) ∨
    (¬3000<s.size∧badLine (splitB 10 (L s)) 1≠0∧e=.returned (.tuple #[.slice none 0 0,.int .i64 1,.int .i64 (badLine (splitB 10 (L s)) 1:Nat)])) ∨
    (¬3000<s.size∧badLine (splitB 10 (L s)) 1=0∧∃v ls,ls.map L=splitB 10 (L s)∧StrV w' w.heap.size v ls∧e=.returned (.tuple #[v,.int .i64 0,.int .i64 0])))
set_option maxHeartbeats 800000 in
theorem Split_any (s:ByteArray) (w:World) (hs:s.size≤maxLen) (hm:MaxAt w) :
  Calls Tryz.prog 30 #[.string s] w (SplitPost s w):=by
 unfold maxLen at hs
 have HM:=hid hm
 clear hm
 by_cases h3:3000<s.size
 ·have d:decide (3000<(s.size:Int))=true:=by simp;omega
  go_enter Tryz.func30,Tryz.ntmps30
  go_wp2
  refine bodyPost_ret (v:=.tuple #[.slice none 0 0,.int .i64 1,.int .i64 0]) (by simp [results,Tryz.results30]) rfl ⟨Below.refl _ _,Or.inl ⟨h3,rfl⟩⟩
 ·have d:decide (3000<(s.size:Int))=false:=by simp;omega
  obtain ⟨r,hr⟩:∃r,badLine (splitB 10 (L s)) 1=r:=⟨_,rfl⟩
  have HR:=hid hr
  clear hr
  go_enter Tryz.func30,Tryz.ntmps30
  go_wp2_with fail
  refine (split_any s 10 _ (by omega) HM.out).mono ?_
  rintro e w1 ⟨v,ls,rfl,hst,hls,hb1⟩
  obtain ⟨va,vc,hv⟩:=hst.form
  subst hv
  have hlen:ls.length≤3001:=by
   have h5:=congrArg List.length hls
   rw [List.length_map] at h5
   have:=splitB_len (10:UInt8).toNat (L s)
   rw [L_length] at this
   omega
  have hsz:∀k (h:k<ls.length),ls[k].size≤3000:=fun k h=>by
   have h6:L ls[k]∈splitB (10:UInt8).toNat (L s):=by rw [←hls];exact List.mem_map.2 ⟨_,List.getElem_mem h,rfl⟩
   have:=splitB_each _ _ _ h6
   rw [L_length,L_length] at this
   omega
  have HSZ:=hid hsz
  have HST:=hid hst
  have HLS:=hid hls
  have HB1:=hid hb1
  clear hst hls hb1 hsz
  go_wp2_with fail
  go_loop [15] (fun i=>∃k:Nat,k≤ls.length∧i=.int .i64 k∧r=badLine ((ls.drop k).map L) (k+1)) (fun i=>ls.length-(intOf i).toNat)
  case atStart=>exact ⟨0,Nat.zero_le _,rfl,by rw [List.drop_zero,HLS.out];exact HR.out.symm⟩
  case round =>
   obtain ⟨k,hk,rfl,ha⟩:=hrel
   have HA:=hid ha
   clear ha
   by_cases hlt:k<ls.length
   ·have kd:decide ((k:Int)<(ls.length:Int))=true:=by simp;omega
    obtain ⟨b,off,cap,hv,hbl,ck⟩:=HST.out.cell k hlt
    injection hv with hv1 _ hv2
    subst hv1 hv2
    have hks:=HSZ.out k hlt
    obtain ⟨ok,hok⟩:∃ok,okLine (L ls[k])=ok:=⟨_,rfl⟩
    have HOK:=hid hok
    have hA:=HA.out
    rw [badLine_at ls k hlt,hok] at hA
    clear hok
    cases ok with
    |true =>
     have HA2:=hid hA
     clear hA
     go_wp2_with (first|(go_at_call 45;refine (mayBe_any _ _ (by unfold maxLen;omega)).mono ?_;rw [HOK.out];rintro e w' ⟨rfl,rfl⟩))
     go_round
     case rel=>exact ⟨k+1,by omega,by go_num,HA2.out⟩
     case measure=>simp [intOf];omega
    |false =>
     have hA':r=k+1:=hA
     subst hA'
     clear hA
     go_wp2_with (first|(go_at_call 45;refine (mayBe_any _ _ (by unfold maxLen;omega)).mono ?_;rw [HOK.out];rintro e w' ⟨rfl,rfl⟩))
     refine bodyPost_ret (v:=.tuple #[.slice none 0 0,.int .i64 1,.int .i64 ((k+1:Nat):Int)]) (by simp [results,Tryz.results30]) rfl ⟨HB1.out,Or.inr (Or.inl ⟨h3,by rw [HR.out];omega,by rw [HR.out]⟩)⟩
   ·have kd:decide ((k:Int)<(ls.length:Int))=false:=by simp;omega
    have hr0:r=0:=by rw [HA.out,List.drop_eq_nil_of_le (by omega)];rfl
    subst hr0
    go_wp2
    refine bodyPost_ret (v:=.tuple #[.slice va ls.length vc,.int .i64 0,.int .i64 0]) (by simp [results,Tryz.results30]) rfl ⟨HB1.out,Or.inr (Or.inr ⟨h3,HR.out,_,ls,HLS.out,HST.out,rfl⟩)⟩
end Go.Proofs.YtcepppilgncdmaaGreatDoor
