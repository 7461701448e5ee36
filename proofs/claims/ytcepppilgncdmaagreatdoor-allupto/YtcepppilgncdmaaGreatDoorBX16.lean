/-
  Joined: AnyBel.
-/
import Derived.BigQuiet
import Derived.Test.YtcepppilgncdmaaGreatDoorBX04
namespace Go.Proofs.YtcepppilgncdmaaGreatDoor
open Go.RowKit
def BelW (w:World):Type:={ x:World // Below w.heap.size w x }
theorem wp_region_bel {P:Program}{id:Nat}{Q:Exit→Act→World→Prop}{a:Act}{w:World}{l:List Oper}(hm:P.follows .mixedOrders=true) (hB:Region.lexB .any l.toArray=true)
  (h:wpQuiet P l.toArray (fun w'=>∃u:BelW w,w'=u.1) (fun a'=>∀w',(∃u:BelW w,w'=u.1)→Q .normal a' w') l a):(Code.region id l.toArray true).wp P Q a w:=
 wp_region_quiet (C:=fun w'=>∃u:BelW w,w'=u.1) hm hB ⟨⟨_,(Below.refl _ _).drew⟩,rfl⟩ (by simpa using h)
theorem Calls.bel {P:Program}{f:FuncId}{args:Array Value}{w:World}{u:BelW w}{v:Value}
  (h:Calls P f args u.1 fun e w'=>e=.returned v∧Below u.1.heap.size u.1 w'):Calls P f args u.1 fun e w''=>e=.returned v∧∃x:BelW w,w''=x.1:=
 h.mono fun _ w' ⟨he,hb⟩=>⟨he,⟨w',u.2.trans (hb.mono u.2.size)⟩,rfl⟩
end Go.Proofs.YtcepppilgncdmaaGreatDoor
