/-
  Joined: Step.
-/
import Derived.Test.YtcepppilgncdmaaGreatDoorBX03
import Derived.Test.YtcepppilgncdmaaGreatDoorBX05
import Derived.Test.YtcepppilgncdmaaGreatDoorBX10
namespace Go.Proofs.YtcepppilgncdmaaGreatDoor
open Go.RowKit
set_option maxHeartbeats 400000 in
theorem lent_nil (w:World):Calls Tryz.prog 22 #[.slice none 0 0] w fun e w'=>e=.returned (.slice none 0 0)∧w'=w:=by
 have heq:=fun (wx:World)=>Lib.run_eql_slice_nil (P:=Tryz.prog) wx 31 40 none 0 0 0 0 Tryz.underlying31
 go_enter Tryz.func22,Tryz.ntmps22
 go_wp2
 go_ret
 exact ⟨rfl,rfl⟩
set_option maxHeartbeats 400000 in
theorem whole_nil (v:Value) (w:World):Calls Tryz.prog 25 #[v,.slice none 0 0] w fun e w'=>e=.returned (.bool true)∧w'=w:=by
 have heq:=fun (wx:World)=>Lib.run_eql_slice_nil (P:=Tryz.prog) wx 31 40 none 0 0 0 0 Tryz.underlying31
 go_enter Tryz.func25,Tryz.ntmps25
 go_wp2
 go_ret
 exact ⟨rfl,rfl⟩
theorem RowN.names {w:World}{g:Nat}{ns more:List (ByteArray×Int)}(h:RowN w g (cellsN (ns++more))):NamesAt w (some ⟨g,0,none⟩) ns:=by
 refine Or.inr ⟨g,0,rfl,h.lt,fun i hi=>?_⟩
 have hi':i<(ns++more).length:=by rw [List.length_append];omega
 have hlen:=cellsN_length (ns++more)
 obtain ⟨c1,c2⟩:=cellsN_at (ns++more) i hi'
 rw [Nat.zero_add,h.cell (i*2) (by omega),h.cell (i*2+1) (by omega),←List.getElem?_eq_getElem,←List.getElem?_eq_getElem,c1,c2,List.getElem_append_left hi]
 exact ⟨rfl,rfl⟩
set_option maxRecDepth 100000 in
set_option maxHeartbeats 800000 in
theorem step_nil (k:Value) (A:Int) (S:ByteArray) (w:World) (hs:S.size≤140737488351232) :
  Calls Tryz.prog 18 #[k,.agg #[.int .i64 1,.int .i64 A,.string S,.slice none 0 0]] w fun e w'=>e=.returned (.bool true)∧Below w.heap.size w w':=by
 have hs2:S.size≤maxLen:=by unfold maxLen;omega
 rcases hv:value A (plainN []) (L S) with ⟨v,er⟩
 have HV:=hid hv
 clear hv
 go_enter Tryz.func18,Tryz.ntmps18
 go_wp2_with fail
 refine (lent_nil _).mono ?_
 rintro e w1 ⟨rfl,rfl⟩
 go_wp2_with fail
 refine (Value_any S A none 0 [] _ v er hs2 (by decide) (Or.inl rfl) HV.out).mono ?_
 rintro e w2 ⟨rfl,hb2⟩
 have c1:=hb2.cell (p:=⟨w.heap.size,1,none⟩) (by simp)
 have c2:=hb2.cell (p:=⟨w.heap.size,2,none⟩) (by simp)
 have c3:=hb2.cell (p:=⟨w.heap.size,3,none⟩) (by simp)
 have HB2:=hid hb2
 clear hb2
 go_wp2_with fail
 refine (refValue_any S A none 0 [] _ v er hs (by decide) (Or.inl rfl) HV.out).mono ?_
 rintro e w3 ⟨rfl,rfl⟩
 go_wp2_with fail
 refine (whole_nil _ _).mono ?_
 rintro e w4 ⟨rfl,rfl⟩
 go_wp2
 go_ret
 exact ⟨rfl,((Below.refl _ _).alloc (Nat.le_refl _) _).trans (HB2.out.mono (by simp))⟩
set_option maxRecDepth 100000 in
set_option maxHeartbeats 1000000 in
theorem step_some (k:Value) (A:Int) (S:ByteArray) (a:Addr) (cap:Nat) (ns:List (ByteArray×Int)) (w:World) (hs:S.size≤140737488351232) (hl:ns.length≤5864062014634) (hn:NamesAt w (some a) ns) :
  Calls Tryz.prog 18 #[k,.agg #[.int .i64 1,.int .i64 A,.string S,.slice (some a) ns.length cap]] w fun e w'=>e=.returned (.bool true)∧Below w.heap.size w w':=by
 have hs2:S.size≤maxLen:=by unfold maxLen;omega
 have hl2:ns.length≤maxLen:=by unfold maxLen;omega
 have HN:=hid hn.under
 rcases hv:value A (plainN ns) (L S) with ⟨v,er⟩
 have HV:=hid hv
 clear hv hn
 go_enter Tryz.func18,Tryz.ntmps18
 go_wp2_with fail
 have hb0:Below w.heap.size w (w.alloc (Obj.cells #[Value.int IntKind.i64 1,Value.int IntKind.i64 A,Value.string S,Value.slice (some a) ns.length cap] 57)):=(Below.refl _ _).alloc (Nat.le_refl _) _
 have HB0:=hid hb0
 clear hb0
 refine (lent_any a cap ns _ hl (HN.out.below HB0.out).names).mono ?_
 rintro e w1 ⟨g,rfl,hg1,hg2,hrow,hb1⟩
 have hgw:w.heap.size<g:=by simp at hg1;omega
 have c1:=hb1.cell (p:=⟨w.heap.size,1,none⟩) (by simp)
 have c2:=hb1.cell (p:=⟨w.heap.size,2,none⟩) (by simp)
 have c3:=hb1.cell (p:=⟨w.heap.size,3,none⟩) (by simp)
 simp [go_sem] at c1 c2 c3
 have HB1:=hid (HB0.out.trans (hb1.mono (by simp)))
 have HROW:=hid (show RowN w1 g (cellsN (ns++List.replicate 8 beyondB)) from hrow)
 have hz1:w.heap.size<w1.heap.size:=by omega
 clear hb1 hrow hg1
 go_wp2_with fail
 refine (Value_any S A (some ⟨g,0,none⟩) (ns.length+8) ns _ v er hs2 hl2 HROW.out.names HV.out).mono ?_
 rintro e w2 ⟨rfl,hb2⟩
 have d1:=(hb2.cell (p:=⟨w.heap.size,1,none⟩) hz1).trans c1
 have d2:=(hb2.cell (p:=⟨w.heap.size,2,none⟩) hz1).trans c2
 have d3:=(hb2.cell (p:=⟨w.heap.size,3,none⟩) hz1).trans c3
 have HB2:=hid (HB1.out.trans (hb2.mono HB1.out.size))
 have HROW2:=hid (HROW.out.below hb2)
 have hz2:w.heap.size≤w2.heap.size:=HB2.out.size
 clear hb2 c1 c2 c3
 go_wp2_with fail
 refine (refValue_any S A (some a) cap ns _ v er hs hl2 (HN.out.below HB2.out).names HV.out).mono ?_
 rintro e w3 ⟨rfl,hw3⟩
 subst hw3
 go_wp2_with fail
 refine (whole_any g a cap ns w.heap.size _ hl (by omega) HB2.out.size (HN.out.below HB2.out) HROW2.out).mono ?_
 rintro e w4 ⟨rfl,hb4⟩
 have HB4:=hid (HB2.out.trans hb4)
 clear hb4
 go_wp2
 go_ret
 exact ⟨rfl,HB4.out⟩
def firstCells:List Value:=[.int .i64 1,.int .i64 0,.string ⟨#[50,43,51,42,52]⟩,.slice none 0 0,
 .int .i64 2,.int .i64 0,.string ⟨#[46,109,97,99,114,111,32,116,119,105,99,101,44,97,10,97,100,100,32,92,97,44,92,97,10,46,101,110,100,10,104,101,114,101,58,32,116,119,105,99,101,32,114,49,32,59,32,115,111]⟩,.slice none 0 0,
 .int .i64 3,.int .i64 0,.string ⟨#[106,109,112,32,101,110,100,10,46,115,112,97,99,101,32,49,50,56,10,101,110,100,58,32,114,101,116]⟩,.slice none 0 0]
set_option maxRecDepth 100000 in
set_option maxHeartbeats 800000 in
theorem first_any (w:World):Calls Tryz.prog 17 #[] w fun e w'=>e=.returned (.slice (some ⟨w.heap.size,0,none⟩) 3 3)∧w'=w.alloc (.cells firstCells.toArray 57):=by
 go_enter Tryz.func17,Tryz.ntmps17
 go_wp2
 go_ret
 exact ⟨rfl,rfl⟩
end Go.Proofs.YtcepppilgncdmaaGreatDoor
