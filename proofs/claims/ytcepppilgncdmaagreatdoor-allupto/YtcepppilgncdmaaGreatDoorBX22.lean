/-
  Joined: PaSize.
-/
import Derived.BigQuiet
import Derived.Deep.CutBlock
import Derived.Deep.DeepCutAuto
import Derived.Test.YtcepppilgncdmaaGreatDoorBX04
namespace Go.Proofs.YtcepppilgncdmaaGreatDoor
open Go.RowKit
set_option maxRecDepth 100000 in
set_option maxHeartbeats 1600000 in
theorem size_any (b off:Nat) (x:StV) (a:Nat) (w:World) (hx:StAt w b off x) (va:Option Addr) (vc:Nat) (hv:x.v=.slice va x.es.length vc) (he:x.es.length≤1000) (hw:x.o.width≤10) (hc:x.count≤1000000) (h6:x.o.kind=6→0<x.count) :
  Calls Tryz.prog 80 #[.pointer (some ⟨b,off,none⟩),.int .i64 (a:Nat)] w fun e w'=>e=.returned (.int .i64 (sizeV x a:Nat))∧Below w.heap.size w w':=by
 obtain ⟨⟨k,r,c,l,d⟩,lab,has,added,v,es,count,long⟩:=x
 simp only at hv he hw hc h6
 subst hv
 have c0:w.cell? ⟨b,off,none⟩=some (.int .i64 (k:Nat)):=hx.2 0 _ rfl
 have c4:w.cell? ⟨b,off+4,none⟩=some (.int .i64 (d:Nat)):=hx.2 4 _ rfl
 have c8:w.cell? ⟨b,off+8,none⟩=some (.slice va es.length vc):=hx.2 8 _ rfl
 have c9:w.cell? ⟨b,off+9,none⟩=some (.int .i64 (count:Nat)):=hx.2 9 _ rfl
 have c10:w.cell? ⟨b,off+10,none⟩=some (.bool long):=hx.2 10 _ rfl
 clear hx
 by_cases h1:k=1
 ·subst h1
  go_enter Tryz.func80,Tryz.ntmps80
  go_wp2
  go_ret
  exact ⟨rfl,Below.refl _ _⟩
 have k1:((k:Int)==1)=false:=by rw [beq_eq_false_iff_ne];omega
 by_cases h2:k=2
 ·subst h2
  go_enter Tryz.func80,Tryz.ntmps80
  go_wp2
  go_ret
  exact ⟨ret_int (by simp [sizeV]),Below.refl _ _⟩
 have k2:((k:Int)==2)=false:=by rw [beq_eq_false_iff_ne];omega
 by_cases h3:k=3
 ·subst h3
  cases long with
  |true =>
   go_enter Tryz.func80,Tryz.ntmps80
   go_wp2
   go_ret
   exact ⟨rfl,Below.refl _ _⟩
  |false =>
   go_enter Tryz.func80,Tryz.ntmps80
   go_wp2
   go_ret
   exact ⟨rfl,Below.refl _ _⟩
 have k3:((k:Int)==3)=false:=by rw [beq_eq_false_iff_ne];omega
 by_cases h4:k=4
 ·subst h4
  have hm:d*es.length≤10*1000:=Nat.mul_le_mul hw he
  go_enter Tryz.func80,Tryz.ntmps80
  go_upto_region 11 with fail
  go_quiet (fail)
  go_wp2
  go_ret
  exact ⟨ret_int (by simp [sizeV]),below_drewN (Below.refl _ _) _⟩
 have k4:((k:Int)==4)=false:=by rw [beq_eq_false_iff_ne];omega
 by_cases h5:k=5
 ·subst h5
  go_enter Tryz.func80,Tryz.ntmps80
  go_wp2
  go_ret
  exact ⟨rfl,Below.refl _ _⟩
 have k5:((k:Int)==5)=false:=by rw [beq_eq_false_iff_ne];omega
 by_cases h6':k=6
 ·subst h6'
  have hpos:=h6 rfl
  have hne:¬(count:Int)=0:=by omega
  have t1:Int.tmod (a:Int) (count:Int)=((a%count:Nat):Int):=rfl
  have t2:Int.tmod ((count:Int)-((a%count:Nat):Int)) (count:Int)=(((count-a%count)%count:Nat):Int):=by
   have:((count:Int)-((a%count:Nat):Int))=((count-a%count:Nat):Int):=by have:=Nat.mod_lt a hpos;omega
   rw [this];rfl
  have b1:a%count<count:=Nat.mod_lt a hpos
  have b2:(count-a%count)%count<count:=Nat.mod_lt _ hpos
  go_enter Tryz.func80,Tryz.ntmps80
  go_upto_region 15 with fail
  go_quiet (fail)
  go_wp2
  go_ret
  have e0:((count-a%count:Nat):Int)=(count:Int)-(a:Int)%count:=by
   have h:((a%count:Nat):Int)=(a:Int)%count:=rfl
   omega
  exact ⟨ret_int (by simp [sizeV];rw [e0];simp),below_drewN (Below.refl _ _) _⟩
 have k6:((k:Int)==6)=false:=by rw [beq_eq_false_iff_ne];omega
 have hz:sizeV ⟨⟨k,r,c,l,d⟩,lab,has,added,.slice va es.length vc,es,count,long⟩ a=0:=by simp [sizeV,h1,h2,h3,h4,h5,h6']
 rw [hz]
 go_enter Tryz.func80,Tryz.ntmps80
 go_wp2
 go_ret
 exact ⟨rfl,Below.refl _ _⟩
end Go.Proofs.YtcepppilgncdmaaGreatDoor
