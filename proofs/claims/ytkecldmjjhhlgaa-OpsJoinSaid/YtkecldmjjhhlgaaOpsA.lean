/- The contract of ops.extent. No condition. -/
import Derived.Test.YtkecldmjjhhlgaaOctV
import Derived.Test.YtkecldmjjhhlgaaOctOpen
import Derived.Test.YtkecldmjjhhlgaaRegIn
import Derived.Deep.QuietTactic
import Derived.BigQuiet
namespace Go.Proofs.Ytkecldmjjhhlgaa.Oct
open Go.Proofs.Ytkecldmjjhhlgaa Go.RowKit Go.Shelf
/-- Where an operation's data begins, and how many bytes it has. -/
def two77 : List UInt8 → Nat
  | y :: z :: _ => y.toNat + 256 * z.toNat
  | _ => 0
def ext : List UInt8 → Nat × Nat
  | [] => (1, 0)
  | x :: l => if x.toNat ≤ 75 then (1, x.toNat) else if x.toNat = 76 then (2, (l.headD 0).toNat) else if x.toNat = 77 then (3, two77 l) else (1, 0)
theorem below_drewN (w : World) : ∀ k, Below w.heap.size w (w.drewN k) := fun k => ⟨rfl, rfl, rfl, Nat.le_refl _, fun _ _ => rfl⟩
theorem i64_or_nat (a b : Nat) (ha : a < 1000000) (hb : b < 100000000) : bits .or .i64 (a : Int) (b : Int) = ((a ||| b : Nat) : Int) := by
  have hx : a ||| b < 2 ^ 27 := Nat.or_lt_two_pow (by omega) (by omega)
  show IntKind.i64.wrap ((BitVec.ofInt 64 (a : Int) ||| BitVec.ofInt 64 (b : Int)).toNat : Int) = _
  rw [BitVec.toNat_or, ofInt_u64 a (by omega), ofInt_u64 b (by omega)]
  exact IntWalk.i64_in _ (by omega)
theorem or_two (y z : UInt8) : bits .or .i64 (y.toNat : Int) (IntKind.i64.wrap ((z.toNat : Int) * 2 ^ 8)) = ((y.toNat + 256 * z.toNat : Nat) : Int) := by
  have hy := UInt8.toNat_lt y
  have hz := UInt8.toNat_lt z
  rw [show (z.toNat : Int) * 2 ^ 8 = ((z.toNat * 256 : Nat) : Int) by omega, IntWalk.i64_in _ (by omega), i64_or_nat _ _ (by omega) (by omega)]
  congr 1
  have h2 := Nat.shiftLeft_add_eq_or_of_lt (i := 8) (b := y.toNat) (by omega) z.toNat
  rw [Nat.shiftLeft_eq] at h2
  rw [Nat.or_comm, ← h2]
  omega
set_option maxRecDepth 100000 in
set_option maxHeartbeats 1000000 in
theorem ext_le (n : Nat) (b off c : Nat) (x : UInt8) (hx : (x.toNat : Int) ≤ 75) (hn : (0 : Int) < (n : Int)) (w : World) (hb : b < w.heap.size) (h0 : w.cell? ⟨b, off, none⟩ = some (.int .u8 (x.toNat : Int))) :
    Calls Try.prog 40 #[.slice (some ⟨b, off, none⟩) n c] w fun e w' => e = .returned (.tuple #[.int .i64 1, .int .i64 (x.toNat : Int)]) ∧ Below w.heap.size w w' := by
  go_enter Try.func40, Try.ntmps40
  go_wp2
  go_ret2
  exact ⟨rfl, Below.refl _ _⟩
set_option maxRecDepth 100000 in
set_option maxHeartbeats 1000000 in
theorem ext_76s (n : Nat) (b off c : Nat) (hn : (0 : Int) < (n : Int)) (hn1 : (n : Int) < 2) (w : World) (hb : b < w.heap.size) (h0 : w.cell? ⟨b, off, none⟩ = some (.int .u8 76)) :
    Calls Try.prog 40 #[.slice (some ⟨b, off, none⟩) n c] w fun e w' => e = .returned (.tuple #[.int .i64 2, .int .i64 0]) ∧ Below w.heap.size w w' := by
  go_enter Try.func40, Try.ntmps40
  go_wp2
  go_ret2
  exact ⟨rfl, Below.refl _ _⟩
set_option maxRecDepth 100000 in
set_option maxHeartbeats 1000000 in
theorem ext_77s (n : Nat) (b off c : Nat) (hn : (0 : Int) < (n : Int)) (hn1 : (n : Int) < 3) (w : World) (hb : b < w.heap.size) (h0 : w.cell? ⟨b, off, none⟩ = some (.int .u8 77)) :
    Calls Try.prog 40 #[.slice (some ⟨b, off, none⟩) n c] w fun e w' => e = .returned (.tuple #[.int .i64 3, .int .i64 0]) ∧ Below w.heap.size w w' := by
  go_enter Try.func40, Try.ntmps40
  go_wp2
  go_ret2
  exact ⟨rfl, Below.refl _ _⟩
set_option maxRecDepth 100000 in
set_option maxHeartbeats 1000000 in
theorem ext_gt (n : Nat) (b off c : Nat) (x : UInt8) (hx : 77 < (x.toNat : Int)) (hx1 : ((x.toNat : Int) == 76) = false) (hx2 : ((x.toNat : Int) == 77) = false) (hn : (0 : Int) < (n : Int)) (w : World) (hb : b < w.heap.size) (h0 : w.cell? ⟨b, off, none⟩ = some (.int .u8 (x.toNat : Int))) :
    Calls Try.prog 40 #[.slice (some ⟨b, off, none⟩) n c] w fun e w' => e = .returned (.tuple #[.int .i64 1, .int .i64 0]) ∧ Below w.heap.size w w' := by
  go_enter Try.func40, Try.ntmps40
  go_wp2
  go_ret2
  exact ⟨rfl, Below.refl _ _⟩
set_option maxRecDepth 100000 in
set_option maxHeartbeats 1000000 in
theorem ext_76 (n : Nat) (b off c : Nat) (y : UInt8) (hn : (1 : Int) < (n : Int)) (hn2 : (2 : Int) ≤ (n : Int)) (hn0 : (0 : Int) < (n : Int)) (w : World) (hb : b < w.heap.size) (h0 : w.cell? ⟨b, off, none⟩ = some (.int .u8 76)) (h1 : w.cell? ⟨b, off + 1, none⟩ = some (.int .u8 (y.toNat : Int))) :
    Calls Try.prog 40 #[.slice (some ⟨b, off, none⟩) n c] w fun e w' => e = .returned (.tuple #[.int .i64 2, .int .i64 (y.toNat : Int)]) ∧ Below w.heap.size w w' := by
  have hyl := UInt8.toNat_lt y
  have hy1 : IntKind.i64.wrap (y.toNat : Int) = (y.toNat : Int) := IntWalk.i64_in _ (by omega)
  have hy2 : wrap64 (y.toNat : Int) = (y.toNat : Int) := IntWalk.wrap64_in _ (by omega)
  go_enter Try.func40, Try.ntmps40
  go_wp2
  go_quiet ((fail))
  go_wp2
  go_ret2
  exact ⟨rfl, below_drewN _ _⟩
set_option maxRecDepth 100000 in
set_option maxHeartbeats 1000000 in
theorem ext_77 (n : Nat) (b off c : Nat) (y z : UInt8) (hn : (2 : Int) < (n : Int)) (hn1 : (1 : Int) < (n : Int)) (hn3 : (3 : Int) ≤ (n : Int)) (hn0 : (0 : Int) < (n : Int)) (w : World) (hb : b < w.heap.size) (h0 : w.cell? ⟨b, off, none⟩ = some (.int .u8 77)) (h1 : w.cell? ⟨b, off + 1, none⟩ = some (.int .u8 (y.toNat : Int))) (h2 : w.cell? ⟨b, off + 2, none⟩ = some (.int .u8 (z.toNat : Int))) :
    Calls Try.prog 40 #[.slice (some ⟨b, off, none⟩) n c] w fun e w' => e = .returned (.tuple #[.int .i64 3, .int .i64 ((y.toNat + 256 * z.toNat : Nat) : Int)]) ∧ Below w.heap.size w w' := by
  have hyl := UInt8.toNat_lt y
  have hy1 : IntKind.i64.wrap (y.toNat : Int) = (y.toNat : Int) := IntWalk.i64_in _ (by omega)
  have hy2 : wrap64 (y.toNat : Int) = (y.toNat : Int) := IntWalk.wrap64_in _ (by omega)
  have hzl := UInt8.toNat_lt z
  have hz1 : IntKind.i64.wrap (z.toNat : Int) = (z.toNat : Int) := IntWalk.i64_in _ (by omega)
  have hz2 : wrap64 (z.toNat : Int) = (z.toNat : Int) := IntWalk.wrap64_in _ (by omega)
  have ho3 : bits .or .i64 (y.toNat : Int) ((z.toNat : Int) * 256) = ((y.toNat + 256 * z.toNat : Nat) : Int) := by rw [← or_two y z, IntWalk.i64_in ((z.toNat : Int) * 2 ^ 8) (by omega)]; rfl
  have ho := or_two y z
  have ho2 : bits .or .i64 (y.toNat : Int) (wrap64 ((z.toNat : Int) * 2 ^ 8)) = ((y.toNat + 256 * z.toNat : Nat) : Int) := by rw [IntWalk.wrap64_in _ (by omega), ← IntWalk.i64_in ((z.toNat : Int) * 2 ^ 8) (by omega)]; exact ho
  go_enter Try.func40, Try.ntmps40
  go_wp2
  go_quiet ((fail))
  go_wp2
  go_ret2
  exact ⟨rfl, below_drewN _ _⟩
theorem ext_any (u : List UInt8) (hu : 0 < u.length) (A : Option Addr) (c n₀ n : Nat) (hnu : n = u.length) (w : World) (hh : Holds8 n₀ w A u) (hn : n₀ ≤ w.heap.size) :
    Calls Try.prog 40 #[.slice A n c] w fun e w' => e = .returned (.tuple #[.int .i64 ((ext u).1 : Int), .int .i64 ((ext u).2 : Int)]) ∧ Below w.heap.size w w' := by
  subst hnu
  obtain ⟨b, off, rfl, hb, h0⟩ := hh.at_ hu
  have hbw : b < w.heap.size := Nat.lt_of_lt_of_le hb hn
  have hcell : ∀ j (hj : j < u.length), w.cell? ⟨b, off + j, none⟩ = some (.int .u8 ((u[j]).toNat : Int)) := fun j hj => by
    obtain ⟨b2, off2, e, _, h⟩ := hh.at_ hj
    injection e with e
    injection e with e1 e2
    subst e1 e2
    exact h
  cases u with
  | nil => simp at hu
  | cons x l =>
    simp only [List.getElem_cons_zero, Nat.add_zero] at h0
    have hx := UInt8.toNat_lt x
    have hl0 : (0 : Int) < ((x :: l).length : Int) := by rw [List.length_cons]; omega
    unfold ext
    dsimp only
    by_cases a : x.toNat ≤ 75
    · rw [if_pos a]
      exact ext_le _ b off c x (by omega) hl0 w hbw h0
    rw [if_neg a]
    by_cases b1 : x.toNat = 76
    · rw [if_pos b1]
      rw [b1] at h0
      cases l with
      | nil => exact ext_76s _ b off c hl0 (by simp) w hbw h0
      | cons y l =>
        have h1 := hcell 1 (by simp)
        simp only [List.getElem_cons_succ, List.getElem_cons_zero] at h1
        exact ext_76 _ b off c y (by simp only [List.length_cons]; omega) (by simp only [List.length_cons]; omega) hl0 w hbw h0 h1
    rw [if_neg b1]
    by_cases b2 : x.toNat = 77
    · rw [if_pos b2]
      rw [b2] at h0
      cases l with
      | nil => exact ext_77s _ b off c hl0 (by simp) w hbw h0
      | cons y l =>
        cases l with
        | nil => exact ext_77s _ b off c hl0 (by simp) w hbw h0
        | cons z l =>
          have h1 := hcell 1 (by simp)
          have h2 := hcell 2 (by simp)
          simp only [List.getElem_cons_succ, List.getElem_cons_zero] at h1 h2
          exact ext_77 _ b off c y z (by simp only [List.length_cons]; omega) (by simp only [List.length_cons]; omega) (by simp only [List.length_cons]; omega) hl0 w hbw h0 h1 h2
    · rw [if_neg b2]
      exact ext_gt _ b off c x (by omega) (by simp; omega) (by simp; omega) hl0 w hbw h0
theorem ext_pos (u : List UInt8) : 1 ≤ (ext u).1 ∧ (ext u).1 ≤ 3 := by
  unfold ext
  split
  · simp
  · (repeat' split) <;> simp
theorem ext_le2 (u : List UInt8) : (ext u).2 ≤ 65535 := by
  unfold ext
  split
  · simp
  · rename_i x l
    have hx := UInt8.toNat_lt x
    split
    · simp only; omega
    · split
      · have := UInt8.toNat_lt (l.headD 0); simp only; omega
      · split
        · unfold two77
          split
          · rename_i y z _
            have := UInt8.toNat_lt y
            have := UInt8.toNat_lt z
            simp only; omega
          · simp
        · simp
end Go.Proofs.Ytkecldmjjhhlgaa.Oct
