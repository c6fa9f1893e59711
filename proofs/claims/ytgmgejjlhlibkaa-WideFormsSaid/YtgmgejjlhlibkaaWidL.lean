/- Contracts of wide.Left and wide.Right. Each names its conditions. -/
import Derived.Test.YtgmgejjlhlibkaaWideC
import Derived.Test.YtgmgejjlhlibkaaWidP
import Derived.Laws.BitsAllLaws
import Derived.Laws.Shifts
namespace Go.Proofs.Ytgmgejjlhlibkaa
set_option linter.unusedVariables false
open Go.RowKit Go.Lib

set_option maxHeartbeats 1000000 in
theorem left_0 (a0 a1 a2 a3 x0 x1 x2 x3 y1 y2 y3 z1 z2 z3 p : Nat) (n : Int) (h1 : 0 < n) (h2 : n < 256) (hq : n / 64 = 0) (hr : n % 64 = (p : Int)) (hp : p < 64)
    (s0 : IntKind.u64.wrap ((a0 : Int) * 2 ^ p) = (x0 : Int))
    (s1 : IntKind.u64.wrap ((a1 : Int) * 2 ^ p) = (x1 : Int))
    (s2 : IntKind.u64.wrap ((a2 : Int) * 2 ^ p) = (x2 : Int))
    (s3 : IntKind.u64.wrap ((a3 : Int) * 2 ^ p) = (x3 : Int))
    (d1 : (a0 : Int) / 2 ^ (64 - p) = (z1 : Int)) (o1 : bits .or .u64 (x1 : Int) (z1 : Int) = (y1 : Int))
    (d2 : (a1 : Int) / 2 ^ (64 - p) = (z2 : Int)) (o2 : bits .or .u64 (x2 : Int) (z2 : Int) = (y2 : Int))
    (d3 : (a2 : Int) / 2 ^ (64 - p) = (z3 : Int)) (o3 : bits .or .u64 (x3 : Int) (z3 : Int) = (y3 : Int))
    (w : World) :
    Calls Try.prog 32 #[.agg (cells4 a0 a1 a2 a3), .int .i64 n] w fun e w' =>
      e = .returned (.agg #[.int .u64 (x0 : Int), .int .u64 (y1 : Int), .int .u64 (y2 : Int), .int .u64 (y3 : Int)]) ∧ Below w.heap.size w w' := by
  unfold cells4
  have t1 : (64 - (p : Int)).toNat = 64 - p := by omega
  go_enter Try.func32, Try.ntmps32
  go_wp2
  refine wp_loop_rounds 5 ?_
  rw [rounds_succ]
  go_wp2
  rw [rounds_succ]
  go_wp2
  go_region
  go_wp2
  rw [rounds_succ]
  go_wp2
  go_region
  go_wp2
  rw [rounds_succ]
  go_wp2
  go_region
  go_wp2
  rw [rounds_succ]
  go_wp2
  exact bodyPost_ret (v := .agg #[.int .u64 (x0 : Int), .int .u64 (y1 : Int), .int .u64 (y2 : Int), .int .u64 (y3 : Int)]) (by simp [results, Try.results32, go_sem]) rfl ⟨rfl, by repeat (first | exact (((Below.refl _ _).alloc (Nat.le_refl _) _).alloc (by simp) _).alloc (by simp; omega) _ | refine Below.drew ?_)⟩

set_option maxHeartbeats 1000000 in
theorem left_1 (a0 a1 a2 a3 x0 x1 x2 y1 y2 z1 z2 p : Nat) (n : Int) (h1 : 0 < n) (h2 : n < 256) (hq : n / 64 = 1) (hr : n % 64 = (p : Int)) (hp : p < 64)
    (s0 : IntKind.u64.wrap ((a0 : Int) * 2 ^ p) = (x0 : Int))
    (s1 : IntKind.u64.wrap ((a1 : Int) * 2 ^ p) = (x1 : Int))
    (s2 : IntKind.u64.wrap ((a2 : Int) * 2 ^ p) = (x2 : Int))
    (d1 : (a0 : Int) / 2 ^ (64 - p) = (z1 : Int)) (o1 : bits .or .u64 (x1 : Int) (z1 : Int) = (y1 : Int))
    (d2 : (a1 : Int) / 2 ^ (64 - p) = (z2 : Int)) (o2 : bits .or .u64 (x2 : Int) (z2 : Int) = (y2 : Int))
    (w : World) :
    Calls Try.prog 32 #[.agg (cells4 a0 a1 a2 a3), .int .i64 n] w fun e w' =>
      e = .returned (.agg #[.int .u64 0, .int .u64 (x0 : Int), .int .u64 (y1 : Int), .int .u64 (y2 : Int)]) ∧ Below w.heap.size w w' := by
  unfold cells4
  have t1 : (64 - (p : Int)).toNat = 64 - p := by omega
  go_enter Try.func32, Try.ntmps32
  go_wp2
  refine wp_loop_rounds 5 ?_
  rw [rounds_succ]
  go_wp2
  rw [rounds_succ]
  go_wp2
  go_region
  go_wp2
  rw [rounds_succ]
  go_wp2
  go_region
  go_wp2
  rw [rounds_succ]
  go_wp2
  exact bodyPost_ret (v := .agg #[.int .u64 0, .int .u64 (x0 : Int), .int .u64 (y1 : Int), .int .u64 (y2 : Int)]) (by simp [results, Try.results32, go_sem]) rfl ⟨rfl, by repeat (first | exact (((Below.refl _ _).alloc (Nat.le_refl _) _).alloc (by simp) _).alloc (by simp; omega) _ | refine Below.drew ?_)⟩

set_option maxHeartbeats 1000000 in
theorem left_2 (a0 a1 a2 a3 x0 x1 y1 z1 p : Nat) (n : Int) (h1 : 0 < n) (h2 : n < 256) (hq : n / 64 = 2) (hr : n % 64 = (p : Int)) (hp : p < 64)
    (s0 : IntKind.u64.wrap ((a0 : Int) * 2 ^ p) = (x0 : Int))
    (s1 : IntKind.u64.wrap ((a1 : Int) * 2 ^ p) = (x1 : Int))
    (d1 : (a0 : Int) / 2 ^ (64 - p) = (z1 : Int)) (o1 : bits .or .u64 (x1 : Int) (z1 : Int) = (y1 : Int))
    (w : World) :
    Calls Try.prog 32 #[.agg (cells4 a0 a1 a2 a3), .int .i64 n] w fun e w' =>
      e = .returned (.agg #[.int .u64 0, .int .u64 0, .int .u64 (x0 : Int), .int .u64 (y1 : Int)]) ∧ Below w.heap.size w w' := by
  unfold cells4
  have t1 : (64 - (p : Int)).toNat = 64 - p := by omega
  go_enter Try.func32, Try.ntmps32
  go_wp2
  refine wp_loop_rounds 5 ?_
  rw [rounds_succ]
  go_wp2
  rw [rounds_succ]
  go_wp2
  go_region
  go_wp2
  rw [rounds_succ]
  go_wp2
  exact bodyPost_ret (v := .agg #[.int .u64 0, .int .u64 0, .int .u64 (x0 : Int), .int .u64 (y1 : Int)]) (by simp [results, Try.results32, go_sem]) rfl ⟨rfl, by repeat (first | exact (((Below.refl _ _).alloc (Nat.le_refl _) _).alloc (by simp) _).alloc (by simp; omega) _ | refine Below.drew ?_)⟩

set_option maxHeartbeats 1000000 in
theorem left_3 (a0 a1 a2 a3 x0   p : Nat) (n : Int) (h1 : 0 < n) (h2 : n < 256) (hq : n / 64 = 3) (hr : n % 64 = (p : Int)) (hp : p < 64)
    (s0 : IntKind.u64.wrap ((a0 : Int) * 2 ^ p) = (x0 : Int))
    (w : World) :
    Calls Try.prog 32 #[.agg (cells4 a0 a1 a2 a3), .int .i64 n] w fun e w' =>
      e = .returned (.agg #[.int .u64 0, .int .u64 0, .int .u64 0, .int .u64 (x0 : Int)]) ∧ Below w.heap.size w w' := by
  unfold cells4
  have t1 : (64 - (p : Int)).toNat = 64 - p := by omega
  go_enter Try.func32, Try.ntmps32
  go_wp2
  refine wp_loop_rounds 5 ?_
  rw [rounds_succ]
  go_wp2
  rw [rounds_succ]
  go_wp2
  exact bodyPost_ret (v := .agg #[.int .u64 0, .int .u64 0, .int .u64 0, .int .u64 (x0 : Int)]) (by simp [results, Try.results32, go_sem]) rfl ⟨rfl, by repeat (first | exact (((Below.refl _ _).alloc (Nat.le_refl _) _).alloc (by simp) _).alloc (by simp; omega) _ | refine Below.drew ?_)⟩

set_option maxHeartbeats 1000000 in
theorem right_0 (a0 a1 a2 a3 x1 x2 x3 y0 y1 y2 z0 z1 z2 z3 p : Nat) (n : Int) (h1 : 0 < n) (h2 : n < 256) (hq : n / 64 = 0) (hr : n % 64 = (p : Int)) (hp : p < 64)
    (d0 : (a0 : Int) / 2 ^ p = (z0 : Int))
    (d1 : (a1 : Int) / 2 ^ p = (z1 : Int))
    (d2 : (a2 : Int) / 2 ^ p = (z2 : Int))
    (d3 : (a3 : Int) / 2 ^ p = (z3 : Int))
    (s1 : IntKind.u64.wrap ((a1 : Int) * 2 ^ (64 - p)) = (x1 : Int)) (o1 : bits .or .u64 (z0 : Int) (x1 : Int) = (y0 : Int))
    (s2 : IntKind.u64.wrap ((a2 : Int) * 2 ^ (64 - p)) = (x2 : Int)) (o2 : bits .or .u64 (z1 : Int) (x2 : Int) = (y1 : Int))
    (s3 : IntKind.u64.wrap ((a3 : Int) * 2 ^ (64 - p)) = (x3 : Int)) (o3 : bits .or .u64 (z2 : Int) (x3 : Int) = (y2 : Int))
    (w : World) :
    Calls Try.prog 34 #[.agg (cells4 a0 a1 a2 a3), .int .i64 n] w fun e w' =>
      e = .returned (.agg #[.int .u64 (y0 : Int), .int .u64 (y1 : Int), .int .u64 (y2 : Int), .int .u64 (z3 : Int)]) ∧ Below w.heap.size w w' := by
  unfold cells4
  have t1 : (64 - (p : Int)).toNat = 64 - p := by omega
  go_enter Try.func34, Try.ntmps34
  go_wp2
  refine wp_loop_rounds 5 ?_
  rw [rounds_succ]
  go_wp2
  go_region
  go_wp2
  rw [rounds_succ]
  go_wp2
  go_region
  go_wp2
  rw [rounds_succ]
  go_wp2
  go_region
  go_wp2
  rw [rounds_succ]
  go_wp2
  rw [rounds_succ]
  go_wp2
  exact bodyPost_ret (v := .agg #[.int .u64 (y0 : Int), .int .u64 (y1 : Int), .int .u64 (y2 : Int), .int .u64 (z3 : Int)]) (by simp [results, Try.results34, go_sem]) rfl ⟨rfl, by repeat (first | exact (((Below.refl _ _).alloc (Nat.le_refl _) _).alloc (by simp) _).alloc (by simp; omega) _ | refine Below.drew ?_)⟩

set_option maxHeartbeats 1000000 in
theorem right_1 (a0 a1 a2 a3 x2 x3 y1 y2 z1 z2 z3 p : Nat) (n : Int) (h1 : 0 < n) (h2 : n < 256) (hq : n / 64 = 1) (hr : n % 64 = (p : Int)) (hp : p < 64)
    (d1 : (a1 : Int) / 2 ^ p = (z1 : Int))
    (d2 : (a2 : Int) / 2 ^ p = (z2 : Int))
    (d3 : (a3 : Int) / 2 ^ p = (z3 : Int))
    (s2 : IntKind.u64.wrap ((a2 : Int) * 2 ^ (64 - p)) = (x2 : Int)) (o2 : bits .or .u64 (z1 : Int) (x2 : Int) = (y1 : Int))
    (s3 : IntKind.u64.wrap ((a3 : Int) * 2 ^ (64 - p)) = (x3 : Int)) (o3 : bits .or .u64 (z2 : Int) (x3 : Int) = (y2 : Int))
    (w : World) :
    Calls Try.prog 34 #[.agg (cells4 a0 a1 a2 a3), .int .i64 n] w fun e w' =>
      e = .returned (.agg #[.int .u64 (y1 : Int), .int .u64 (y2 : Int), .int .u64 (z3 : Int), .int .u64 0]) ∧ Below w.heap.size w w' := by
  unfold cells4
  have t1 : (64 - (p : Int)).toNat = 64 - p := by omega
  go_enter Try.func34, Try.ntmps34
  go_wp2
  refine wp_loop_rounds 5 ?_
  rw [rounds_succ]
  go_wp2
  go_region
  go_wp2
  rw [rounds_succ]
  go_wp2
  go_region
  go_wp2
  rw [rounds_succ]
  go_wp2
  rw [rounds_succ]
  go_wp2
  exact bodyPost_ret (v := .agg #[.int .u64 (y1 : Int), .int .u64 (y2 : Int), .int .u64 (z3 : Int), .int .u64 0]) (by simp [results, Try.results34, go_sem]) rfl ⟨rfl, by repeat (first | exact (((Below.refl _ _).alloc (Nat.le_refl _) _).alloc (by simp) _).alloc (by simp; omega) _ | refine Below.drew ?_)⟩

set_option maxHeartbeats 1000000 in
theorem right_2 (a0 a1 a2 a3 x3 y2 z2 z3 p : Nat) (n : Int) (h1 : 0 < n) (h2 : n < 256) (hq : n / 64 = 2) (hr : n % 64 = (p : Int)) (hp : p < 64)
    (d2 : (a2 : Int) / 2 ^ p = (z2 : Int))
    (d3 : (a3 : Int) / 2 ^ p = (z3 : Int))
    (s3 : IntKind.u64.wrap ((a3 : Int) * 2 ^ (64 - p)) = (x3 : Int)) (o3 : bits .or .u64 (z2 : Int) (x3 : Int) = (y2 : Int))
    (w : World) :
    Calls Try.prog 34 #[.agg (cells4 a0 a1 a2 a3), .int .i64 n] w fun e w' =>
      e = .returned (.agg #[.int .u64 (y2 : Int), .int .u64 (z3 : Int), .int .u64 0, .int .u64 0]) ∧ Below w.heap.size w w' := by
  unfold cells4
  have t1 : (64 - (p : Int)).toNat = 64 - p := by omega
  go_enter Try.func34, Try.ntmps34
  go_wp2
  refine wp_loop_rounds 5 ?_
  rw [rounds_succ]
  go_wp2
  go_region
  go_wp2
  rw [rounds_succ]
  go_wp2
  rw [rounds_succ]
  go_wp2
  exact bodyPost_ret (v := .agg #[.int .u64 (y2 : Int), .int .u64 (z3 : Int), .int .u64 0, .int .u64 0]) (by simp [results, Try.results34, go_sem]) rfl ⟨rfl, by repeat (first | exact (((Below.refl _ _).alloc (Nat.le_refl _) _).alloc (by simp) _).alloc (by simp; omega) _ | refine Below.drew ?_)⟩

set_option maxHeartbeats 1000000 in
theorem right_3 (a0 a1 a2 a3   z3 p : Nat) (n : Int) (h1 : 0 < n) (h2 : n < 256) (hq : n / 64 = 3) (hr : n % 64 = (p : Int)) (hp : p < 64)
    (d3 : (a3 : Int) / 2 ^ p = (z3 : Int))
    (w : World) :
    Calls Try.prog 34 #[.agg (cells4 a0 a1 a2 a3), .int .i64 n] w fun e w' =>
      e = .returned (.agg #[.int .u64 (z3 : Int), .int .u64 0, .int .u64 0, .int .u64 0]) ∧ Below w.heap.size w w' := by
  unfold cells4
  have t1 : (64 - (p : Int)).toNat = 64 - p := by omega
  go_enter Try.func34, Try.ntmps34
  go_wp2
  refine wp_loop_rounds 5 ?_
  rw [rounds_succ]
  go_wp2
  rw [rounds_succ]
  go_wp2
  exact bodyPost_ret (v := .agg #[.int .u64 (z3 : Int), .int .u64 0, .int .u64 0, .int .u64 0]) (by simp [results, Try.results34, go_sem]) rfl ⟨rfl, by repeat (first | exact (((Below.refl _ _).alloc (Nat.le_refl _) _).alloc (by simp) _).alloc (by simp; omega) _ | refine Below.drew ?_)⟩

set_option maxHeartbeats 400000 in
theorem left_none (n : Int) (h1 : n ≤ 0) (a0 a1 a2 a3 : Nat) (w : World) :
    Calls Try.prog 32 #[.agg (cells4 a0 a1 a2 a3), .int .i64 n] w fun e w' => e = .returned (.agg (cells4 a0 a1 a2 a3)) ∧ Below w.heap.size w w' := by
  unfold cells4
  go_enter Try.func32, Try.ntmps32
  go_wp2
  exact bodyPost_ret (v := .agg #[.int .u64 a0, .int .u64 a1, .int .u64 a2, .int .u64 a3]) (by simp [results, Try.results32, go_sem]) rfl ⟨rfl, (((Below.refl _ _).alloc (Nat.le_refl _) _).alloc (by simp) _)⟩
set_option maxHeartbeats 400000 in
theorem left_far (a0 a1 a2 a3 : Nat) (n : Int) (h1 : 256 ≤ n) (w : World) :
    Calls Try.prog 32 #[.agg (cells4 a0 a1 a2 a3), .int .i64 n] w fun e w' => e = .returned (.agg (cells4 0 0 0 0)) ∧ Below w.heap.size w w' := by
  have h0 : ¬ n ≤ 0 := by omega
  unfold cells4
  go_enter Try.func32, Try.ntmps32
  go_wp2
  exact bodyPost_ret (v := .agg #[.int .u64 0, .int .u64 0, .int .u64 0, .int .u64 0]) (by simp [results, Try.results32, go_sem]) rfl ⟨rfl, (((Below.refl _ _).alloc (Nat.le_refl _) _).alloc (by simp) _)⟩

set_option maxHeartbeats 400000 in
theorem right_none (n : Int) (h1 : n ≤ 0) (a0 a1 a2 a3 : Nat) (w : World) :
    Calls Try.prog 34 #[.agg (cells4 a0 a1 a2 a3), .int .i64 n] w fun e w' => e = .returned (.agg (cells4 a0 a1 a2 a3)) ∧ Below w.heap.size w w' := by
  unfold cells4
  go_enter Try.func34, Try.ntmps34
  go_wp2
  exact bodyPost_ret (v := .agg #[.int .u64 a0, .int .u64 a1, .int .u64 a2, .int .u64 a3]) (by simp [results, Try.results34, go_sem]) rfl ⟨rfl, (((Below.refl _ _).alloc (Nat.le_refl _) _).alloc (by simp) _)⟩
set_option maxHeartbeats 400000 in
theorem right_far (a0 a1 a2 a3 : Nat) (n : Int) (h1 : 256 ≤ n) (w : World) :
    Calls Try.prog 34 #[.agg (cells4 a0 a1 a2 a3), .int .i64 n] w fun e w' => e = .returned (.agg (cells4 0 0 0 0)) ∧ Below w.heap.size w w' := by
  have h0 : ¬ n ≤ 0 := by omega
  unfold cells4
  go_enter Try.func34, Try.ntmps34
  go_wp2
  exact bodyPost_ret (v := .agg #[.int .u64 0, .int .u64 0, .int .u64 0, .int .u64 0]) (by simp [results, Try.results34, go_sem]) rfl ⟨rfl, (((Below.refl _ _).alloc (Nat.le_refl _) _).alloc (by simp) _)⟩

end Go.Proofs.Ytgmgejjlhlibkaa
