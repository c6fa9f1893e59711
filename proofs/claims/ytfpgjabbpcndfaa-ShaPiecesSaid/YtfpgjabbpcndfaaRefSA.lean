/- Contracts of the reference's tables, and of its turn: no conditions but a word's size. -/
import Derived.Test.YtfpgjabbpcndfaaShaB
import Derived.Great.Walk
namespace Go.Proofs.Ytfpgjabbpcndfaa.Oct
set_option linter.unusedVariables false
set_option linter.unusedSimpArgs false
open Go.Proofs.Ytfpgjabbpcndfaa Go.RowKit Go.Lib

theorem rot_comm (x n : Nat) : x / 2 ^ n ||| (x * 2 ^ (32 - n)) % 4294967296 = rot x n := by
  unfold rot
  rw [Nat.or_comm]

set_option maxHeartbeats 1000000 in
theorem rturned_any (x n : Nat) (hx : x < 4294967296) (h1 : 1 ≤ n) (h2 : n ≤ 31) (w : World) :
    Calls Try.prog 23 #[.int .u32 x, .int .u64 n] w fun e w' => e = .returned (.int .u32 (rot x n)) ∧ w = w' := by
  have z1 : IntKind.u64.wrap (32 - (n : Int)) = ((32 - n : Nat) : Int) := by
    rw [IntKind.wrap_u64]
    omega
  go_enter Try.func23, Try.ntmps23
  go_wp2
  trace_state
  go_ret
  refine ⟨ret_u32 ?_, rfl⟩
  rw [← rot_comm]
  rw [← u32_or_nat _ _ (Nat.lt_of_le_of_lt (Nat.div_le_self _ _) hx) (Nat.mod_lt _ (by decide))]
  simp only [Int.natCast_emod, Int.natCast_mul, Int.natCast_pow, Int.natCast_ediv]
  rfl

def squL : List Nat := words squ
set_option maxHeartbeats 1000000 in
theorem rsquare_any (w : World) : Calls Try.prog 20 #[] w fun e w' => e = .returned (.slice (some ⟨w.heap.size, 0, none⟩) 8 8) ∧ w' = w.alloc (.cells (vals32 squL) 42) := by
  go_enter Try.func20, Try.ntmps20
  go_wp2_with (first | (refine wpList_run rfl (v := .slice (some ⟨w.heap.size, 0, none⟩) 8 8) (w' := w.alloc (.cells (vals32 squL) 42)) (by kernel_rfl) ?_))
  go_ret
  exact ⟨rfl, rfl⟩

set_option maxRecDepth 100000 in
set_option maxHeartbeats 1000000 in
theorem rcube_any (w : World) : Calls Try.prog 21 #[] w fun e w' => e = .returned (.slice (some ⟨w.heap.size, 0, none⟩) 64 64) ∧ w' = w.alloc (.cells (vals32 cub) 42) := by
  go_enter Try.func21, Try.ntmps21
  go_wp2_with (first | (refine wpList_run rfl (v := .slice (some ⟨w.heap.size, 0, none⟩) 64 64) (w' := w.alloc (.cells (vals32 cub) 42)) (by kernel_rfl) ?_))
  go_ret
  exact ⟨rfl, rfl⟩
end Go.Proofs.Ytfpgjabbpcndfaa.Oct
