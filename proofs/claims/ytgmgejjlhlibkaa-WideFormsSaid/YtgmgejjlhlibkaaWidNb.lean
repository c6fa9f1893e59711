/- What WideNames asks besides: short bytes and short digits. -/
import Derived.Test.YtgmgejjlhlibkaaDig
namespace Go.Proofs.Ytgmgejjlhlibkaa.Oct
set_option linter.unusedVariables false
open Go.Proofs.Ytgmgejjlhlibkaa Go.RowKit Go.Shelf

theorem keeps1z (w : World) : Keeps w [(w.heap.size, wcells 0, 24)] (w.alloc (.cells #[.int .u64 0, .int .u64 0, .int .u64 0, .int .u64 0] 24)) := by
  have h := (Keeps.nil w).new (wcells 0) 24
  simp only [List.nil_append] at h
  exact h
set_option maxRecDepth 100000 in
set_option maxHeartbeats 1000000 in
theorem read_short (A : Option Addr) (k c : Nat) (hk : ((k : Int) != 32) = true) (w : World) :
    Calls Try.prog 12 #[.slice A k c] w fun e w' => e = .returned (.tuple #[.agg (wcells 0), .int .i64 30]) ∧ Below w.heap.size w w' := by
  have hH := keeps1z w
  go_enter Try.func12, Try.ntmps12
  go_wp2_with (first | (refine wpList_put hH 0 rfl 24 _ _ rfl rfl rfl rfl (infoW 0) rfl (oneW 0) ?_; clear hH; intro W1 hH))
  exact bodyPost_ret (results_two _ _ _ w.heap.size 0 30 rfl rfl rfl (hH.get 0 rfl)) rfl ⟨rfl, hH.bel⟩
def zerosB (k : Nat) : Array Value := madeCells (Value.int .u8 0).cells (k * 1)
theorem makeB (k : Nat) (hk : k ≤ 1000000) (w : World) : (Instr.makeSlice 25 (.int .i64 (k : Int)) (.int .i64 (k : Int))).run Try.prog w = .ok (.slice (some ⟨w.heap.size, 0, none⟩) k k) (w.alloc (.cells (zerosB k) 5)) := by
  obtain ⟨i0, hi, hz0, hz1, hz2⟩ := info_parts byte_info
  have h := run_make_rowN (P := Try.prog) 25 5 i0 _ Try.underlying25 hi hz0 .i64 .i64 k k (by omega) (by rw [hz2]; omega) (by omega) w
  rw [hz1] at h
  exact h
end Go.Proofs.Ytgmgejjlhlibkaa.Oct
