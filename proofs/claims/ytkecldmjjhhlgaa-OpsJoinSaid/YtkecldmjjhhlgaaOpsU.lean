/- The contracts of the reference's may, bytes, Join, Same, Value and Push. No condition beyond the memory's reach. -/
import Derived.Test.YtkecldmjjhhlgaaOpsN
import Derived.Laws.ResultCell
namespace Go.Proofs.Ytkecldmjjhhlgaa.Oct
open Go.Proofs.Ytkecldmjjhhlgaa Go.RowKit Go.Shelf
set_option maxRecDepth 100000 in
set_option maxHeartbeats 1000000 in
theorem may_lo_true (z : Int) (n : Nat) (A : Option Addr) (c : Nat) (f0 : (1 : Int) ≤ z) (f1 : z ≤ 75) (hz : wrap64 z = z) (h2 : ((n : Int) == z) = true) (w : World) : Calls Try.prog 34 #[.agg #[.int .u8 z, .slice A n c]] w fun e w' => e = .returned (.bool true) ∧ Below w.heap.size w w' := by
  go_enter Try.func34, Try.ntmps34
  go_wp2
  go_ret
  exact ⟨rfl, below_new w _⟩
set_option maxRecDepth 100000 in
set_option maxHeartbeats 1000000 in
theorem may_lo_false (z : Int) (n : Nat) (A : Option Addr) (c : Nat) (f0 : (1 : Int) ≤ z) (f1 : z ≤ 75) (hz : wrap64 z = z) (h2 : ((n : Int) == z) = false) (w : World) : Calls Try.prog 34 #[.agg #[.int .u8 z, .slice A n c]] w fun e w' => e = .returned (.bool false) ∧ Below w.heap.size w w' := by
  go_enter Try.func34, Try.ntmps34
  go_wp2
  go_ret
  exact ⟨rfl, below_new w _⟩
set_option maxRecDepth 100000 in
set_option maxHeartbeats 1000000 in
theorem may_76_true (n : Nat) (A : Option Addr) (c : Nat) (h2 : (n : Int) ≤ 255) (w : World) : Calls Try.prog 34 #[.agg #[.int .u8 76, .slice A n c]] w fun e w' => e = .returned (.bool true) ∧ Below w.heap.size w w' := by
  go_enter Try.func34, Try.ntmps34
  go_wp2
  go_ret
  exact ⟨rfl, below_new w _⟩
set_option maxRecDepth 100000 in
set_option maxHeartbeats 1000000 in
theorem may_76_false (n : Nat) (A : Option Addr) (c : Nat) (h2 : decide ((n : Int) ≤ 255) = false) (w : World) : Calls Try.prog 34 #[.agg #[.int .u8 76, .slice A n c]] w fun e w' => e = .returned (.bool false) ∧ Below w.heap.size w w' := by
  go_enter Try.func34, Try.ntmps34
  go_wp2
  go_ret
  exact ⟨rfl, below_new w _⟩
set_option maxRecDepth 100000 in
set_option maxHeartbeats 1000000 in
theorem may_77_true (n : Nat) (A : Option Addr) (c : Nat) (h2 : (n : Int) ≤ 65535) (w : World) : Calls Try.prog 34 #[.agg #[.int .u8 77, .slice A n c]] w fun e w' => e = .returned (.bool true) ∧ Below w.heap.size w w' := by
  go_enter Try.func34, Try.ntmps34
  go_wp2
  go_ret
  exact ⟨rfl, below_new w _⟩
set_option maxRecDepth 100000 in
set_option maxHeartbeats 1000000 in
theorem may_77_false (n : Nat) (A : Option Addr) (c : Nat) (h2 : decide ((n : Int) ≤ 65535) = false) (w : World) : Calls Try.prog 34 #[.agg #[.int .u8 77, .slice A n c]] w fun e w' => e = .returned (.bool false) ∧ Below w.heap.size w w' := by
  go_enter Try.func34, Try.ntmps34
  go_wp2
  go_ret
  exact ⟨rfl, below_new w _⟩
set_option maxRecDepth 100000 in
set_option maxHeartbeats 1000000 in
theorem may_hi_true (z : Int) (n : Nat) (A : Option Addr) (c : Nat) (f0 : (1 : Int) ≤ z) (f1 : (75 : Int) < z) (f2 : (z == 76) = false) (f3 : (z == 77) = false) (h2 : ((n : Int) == 0) = true) (w : World) : Calls Try.prog 34 #[.agg #[.int .u8 z, .slice A n c]] w fun e w' => e = .returned (.bool true) ∧ Below w.heap.size w w' := by
  go_enter Try.func34, Try.ntmps34
  go_wp2
  go_ret
  exact ⟨rfl, below_new w _⟩
set_option maxRecDepth 100000 in
set_option maxHeartbeats 1000000 in
theorem may_hi_false (z : Int) (n : Nat) (A : Option Addr) (c : Nat) (f0 : (1 : Int) ≤ z) (f1 : (75 : Int) < z) (f2 : (z == 76) = false) (f3 : (z == 77) = false) (h2 : ((n : Int) == 0) = false) (w : World) : Calls Try.prog 34 #[.agg #[.int .u8 z, .slice A n c]] w fun e w' => e = .returned (.bool false) ∧ Below w.heap.size w w' := by
  go_enter Try.func34, Try.ntmps34
  go_wp2
  go_ret
  exact ⟨rfl, below_new w _⟩
set_option maxRecDepth 100000 in
set_option maxHeartbeats 1000000 in
theorem may_ze_true (n : Nat) (A : Option Addr) (c : Nat) (h2 : ((n : Int) == 0) = true) (w : World) : Calls Try.prog 34 #[.agg #[.int .u8 0, .slice A n c]] w fun e w' => e = .returned (.bool true) ∧ Below w.heap.size w w' := by
  go_enter Try.func34, Try.ntmps34
  go_wp2
  go_ret
  exact ⟨rfl, below_new w _⟩
set_option maxRecDepth 100000 in
set_option maxHeartbeats 1000000 in
theorem may_ze_false (n : Nat) (A : Option Addr) (c : Nat) (h2 : ((n : Int) == 0) = false) (w : World) : Calls Try.prog 34 #[.agg #[.int .u8 0, .slice A n c]] w fun e w' => e = .returned (.bool false) ∧ Below w.heap.size w w' := by
  go_enter Try.func34, Try.ntmps34
  go_wp2
  go_ret
  exact ⟨rfl, below_new w _⟩
theorem refMay_any (p : PV) (w : World) : Calls Try.prog 34 #[.agg #[.int .u8 (p.code.toNat : Int), .slice p.A p.b.length p.c]] w fun e w' => e = .returned (.bool (validB p.is)) ∧ Below w.heap.size w w' := by
  obtain ⟨x, A, d, c⟩ := p
  have hx := UInt8.toNat_lt x
  unfold PV.is validB
  simp only
  by_cases h0 : x.toNat = 0
  · have hz : (x.toNat : Int) = 0 := by omega
    rw [if_pos (by omega), hz, h0]
    cases hr : (d.length == 0) with
    | true => exact may_ze_true d.length A c (by have := eq_of_beq hr; rw [this]; rfl) w
    | false => exact may_ze_false d.length A c (by have := ne_of_beq_false hr; rw [beq_eq_false_iff_ne]; omega) w
  by_cases h1 : x.toNat ≤ 75
  · rw [if_pos h1]
    have hw : wrap64 (x.toNat : Int) = (x.toNat : Int) := IntWalk.wrap64_in _ (by omega)
    cases hr : (d.length == x.toNat) with
    | true => exact may_lo_true _ d.length A c (by omega) (by omega) hw (by have := eq_of_beq hr; rw [this]; simp) w
    | false => exact may_lo_false _ d.length A c (by omega) (by omega) hw (by have := ne_of_beq_false hr; rw [beq_eq_false_iff_ne]; omega) w
  rw [if_neg h1]
  by_cases h2 : x.toNat = 76
  · have hz : (x.toNat : Int) = 76 := by omega
    rw [if_pos h2, hz]
    by_cases hr : d.length ≤ 255
    · rw [show decide (d.length ≤ 255) = true by simpa using hr]
      exact may_76_true d.length A c (by omega) w
    · rw [show decide (d.length ≤ 255) = false by simpa using hr]
      exact may_76_false d.length A c (by simp; omega) w
  rw [if_neg h2]
  by_cases h3 : x.toNat = 77
  · have hz : (x.toNat : Int) = 77 := by omega
    rw [if_pos h3, hz]
    by_cases hr : d.length ≤ 65535
    · rw [show decide (d.length ≤ 65535) = true by simpa using hr]
      exact may_77_true d.length A c (by omega) w
    · rw [show decide (d.length ≤ 65535) = false by simpa using hr]
      exact may_77_false d.length A c (by simp; omega) w
  rw [if_neg h3]
  cases hr : (d.length == 0) with
  | true => exact may_hi_true _ d.length A c (by omega) (by omega) (by rw [beq_eq_false_iff_ne]; omega) (by rw [beq_eq_false_iff_ne]; omega) (by have := eq_of_beq hr; rw [this]; rfl) w
  | false => exact may_hi_false _ d.length A c (by omega) (by omega) (by rw [beq_eq_false_iff_ne]; omega) (by rw [beq_eq_false_iff_ne]; omega) (by have := ne_of_beq_false hr; rw [beq_eq_false_iff_ne]; omega) w
end Go.Proofs.Ytkecldmjjhhlgaa.Oct
