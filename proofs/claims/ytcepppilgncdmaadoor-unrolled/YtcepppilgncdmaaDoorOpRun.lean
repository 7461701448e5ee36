/-
  What single operations of the language yield: for statements whose order is left open.
-/
import Derived.Test.YtcepppilgncdmaaDoorAnyInv
import Derived.Test.YtcepppilgncdmaaDoorKeepU
namespace Go.Proofs.YtcepppilgncdmaaDoor
open Go.RowKit

section
variable {o : Oper} {a : Act} {w : World} {x y : Nat}

theorem run_move {v : Value} (ho : o.op = .move (.tmp x)) (hx : a.tmps[x]?.getD undef = v) : (execOp a.eval o).run Tryd.prog w = .ok (.value v) w := by
  unfold execOp
  rw [ho]
  go_simp
theorem run_assign {v : Value} (ho : o.op = .assign (.tmp x)) (hx : a.tmps[x]?.getD undef = v) : (execOp a.eval o).run Tryd.prog w = .ok (.value v) w := by
  unfold execOp
  rw [ho]
  go_simp
theorem run_add {s t : ByteArray} (ho : o.op = .binOp .add 9 (.tmp x) (.tmp y) 9) (hx : a.tmps[x]?.getD undef = .string s) (hy : a.tmps[y]?.getD undef = .string t) (hs : s.size + t.size ≤ 9223372036854775807) : (execOp a.eval o).run Tryd.prog w = .ok (.value (.string (s ++ t))) w := by
  have hadd := run_string_add_sum (P := Tryd.prog) w s t hs
  unfold execOp
  rw [ho]
  go_simp
theorem run_addc {s t : ByteArray} (ho : o.op = .binOp .add 9 (.tmp x) (.const (.string t)) 9) (hx : a.tmps[x]?.getD undef = .string s) (hs : s.size + t.size ≤ 9223372036854775807) : (execOp a.eval o).run Tryd.prog w = .ok (.value (.string (s ++ t))) w := by
  have hadd := run_string_add_sum (P := Tryd.prog) w s t hs
  unfold execOp
  rw [ho]
  go_simp
theorem run_build2c {s t : ByteArray} (ho : o.op = .buildSlice 25 2 #[(0, .const (.string s)), (1, .const (.string t))]) : (execOp a.eval o).run Tryd.prog w = .ok (.value (.slice (some ⟨w.heap.size, 0, none⟩) 2 2)) (w.alloc (.cells #[.string s, .string t] 9)) := by
  unfold execOp
  rw [ho]
  go_simp
theorem run_build2 {s t : ByteArray} (ho : o.op = .buildSlice 25 2 #[(0, .tmp x), (1, .tmp y)]) (hx : a.tmps[x]?.getD undef = .string s) (hy : a.tmps[y]?.getD undef = .string t) : (execOp a.eval o).run Tryd.prog w = .ok (.value (.slice (some ⟨w.heap.size, 0, none⟩) 2 2)) (w.alloc (.cells #[.string s, .string t] 9)) := by
  unfold execOp
  rw [ho]
  go_simp
theorem run_build1 {s : ByteArray} (ho : o.op = .buildSlice 25 1 #[(0, .tmp x)]) (hx : a.tmps[x]?.getD undef = .string s) : (execOp a.eval o).run Tryd.prog w = .ok (.value (.slice (some ⟨w.heap.size, 0, none⟩) 1 1)) (w.alloc (.cells #[.string s] 9)) := by
  unfold execOp
  rw [ho]
  go_simp
theorem run_index3 {b off n c k : Nat} (ho : o.op = .indexAddr 22 (.tmp x) (.tmp y)) (hx : a.tmps[x]?.getD undef = .slice (some ⟨b, off, none⟩) n c) (hy : a.tmps[y]?.getD undef = .int .i64 (k : Int)) (hk : k < n) : (execOp a.eval o).run Tryd.prog w = .ok (.value (.pointer (some ⟨b, off + k * 3, none⟩))) w := by
  have h1 : (0 : Int) ≤ (k : Int) := Int.natCast_nonneg _
  have h2 : (k : Int) < (n : Int) := by omega
  unfold execOp
  rw [ho]
  go_simp
theorem run_index2 {b off n c k : Nat} (ho : o.op = .indexAddr 23 (.tmp x) (.tmp y)) (hx : a.tmps[x]?.getD undef = .slice (some ⟨b, off, none⟩) n c) (hy : a.tmps[y]?.getD undef = .int .i64 (k : Int)) (hk : k < n) : (execOp a.eval o).run Tryd.prog w = .ok (.value (.pointer (some ⟨b, off + k * 2, none⟩))) w := by
  have h1 : (0 : Int) ≤ (k : Int) := Int.natCast_nonneg _
  have h2 : (k : Int) < (n : Int) := by omega
  unfold execOp
  rw [ho]
  go_simp
theorem run_indexS {b n c k : Nat} (ho : o.op = .indexAddr 25 (.tmp x) (.tmp y)) (hx : a.tmps[x]?.getD undef = .slice (some ⟨b, 0, none⟩) n c) (hy : a.tmps[y]?.getD undef = .int .i64 (k : Int)) (hk : k < n) : (execOp a.eval o).run Tryd.prog w = .ok (.value (.pointer (some ⟨b, k, none⟩))) w := by
  have h1 : (0 : Int) ≤ (k : Int) := Int.natCast_nonneg _
  have h2 : (k : Int) < (n : Int) := by omega
  unfold execOp
  rw [ho]
  go_simp
theorem run_spot0 {b off : Nat} (ho : o.op = .indexAddr 27 (.tmp x) (.const (.int .i64 0))) (hx : a.tmps[x]?.getD undef = .pointer (some ⟨b, off, none⟩)) : (execOp a.eval o).run Tryd.prog w = .ok (.value (.pointer (some ⟨b, off, none⟩))) w := by
  unfold execOp
  rw [ho]
  go_simp
theorem run_spot1 {b off : Nat} (ho : o.op = .indexAddr 27 (.tmp x) (.const (.int .i64 1))) (hx : a.tmps[x]?.getD undef = .pointer (some ⟨b, off, none⟩)) : (execOp a.eval o).run Tryd.prog w = .ok (.value (.pointer (some ⟨b, off + 1, none⟩))) w := by
  unfold execOp
  rw [ho]
  go_simp
theorem run_spot2 {b off : Nat} (ho : o.op = .indexAddr 27 (.tmp x) (.const (.int .i64 2))) (hx : a.tmps[x]?.getD undef = .pointer (some ⟨b, off, none⟩)) : (execOp a.eval o).run Tryd.prog w = .ok (.value (.pointer (some ⟨b, off + 2, none⟩))) w := by
  unfold execOp
  rw [ho]
  go_simp
theorem run_loadI {b off : Nat} {z : Int} (ho : o.op = .load 3 (.tmp x)) (hx : a.tmps[x]?.getD undef = .pointer (some ⟨b, off, none⟩)) (hc : w.cell? ⟨b, off, none⟩ = some (.int .i64 z)) : (execOp a.eval o).run Tryd.prog w = .ok (.value (.int .i64 z)) w := by
  unfold execOp
  rw [ho]
  go_simp
theorem run_loadS {b off : Nat} {s : ByteArray} (ho : o.op = .load 9 (.tmp x)) (hx : a.tmps[x]?.getD undef = .pointer (some ⟨b, off, none⟩)) (hc : w.cell? ⟨b, off, none⟩ = some (.string s)) : (execOp a.eval o).run Tryd.prog w = .ok (.value (.string s)) w := by
  unfold execOp
  rw [ho]
  go_simp
theorem run_pick {z k : Int} (ho : o.op = .call { callee := .value (.func 6), args := #[.tmp x, .const (.int .i64 k)], argTypes := #[3, 3] }) (hx : a.tmps[x]?.getD undef = .int .i64 z) : (execOp a.eval o).run Tryd.prog w = .ok (.enter 6 #[.int .i64 z, .int .i64 k]) w := by
  unfold execOp
  rw [ho]
  go_simp
end
end Go.Proofs.YtcepppilgncdmaaDoor
