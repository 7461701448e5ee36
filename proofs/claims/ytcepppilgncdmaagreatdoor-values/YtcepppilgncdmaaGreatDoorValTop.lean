/-
  What mason.Value answers: the plain function 'value'.
-/
import Derived.Test.YtcepppilgncdmaaGreatDoorVal
namespace Go.Proofs.YtcepppilgncdmaaGreatDoor
open Go.RowKit

set_option maxHeartbeats 400000 in
theorem Value_any (s : ByteArray) (at_ : Int) (a : Option Addr) (cap : Nat) (ns : List (ByteArray × Int)) (w : World) (v er : Int) (hs : s.size ≤ maxLen) (hl : ns.length ≤ maxLen) (hn : NamesAt w a ns) (hv : value at_ (plainN ns) (L s) = (v, er)) :
    Calls Tryz.prog 23 #[.string s, .int .i64 at_, .slice a ns.length cap] w fun e w' => e = .returned (.tuple #[.int .i64 v, .int .i64 er]) ∧ Below w.heap.size w w' := by
  have HN := hid hn
  have HV := hid hv
  clear hn hv
  go_enter Tryz.func23, Tryz.ntmps23
  go_wp2_with (first | (go_at_call 36; refine (xValue_any s at_ a cap ns _ v er hs hl HN.out HV.out).mono ?_; rintro e w' ⟨rfl, hb⟩))
  go_ret2
  exact ⟨rfl, hb⟩

end Go.Proofs.YtcepppilgncdmaaGreatDoor
