/- The contract of num.Decode. No condition. -/
import Derived.Test.YtbhopgklnddelaaNumQ
import Derived.Laws.BitsAllLaws
import Derived.LoopTactic
namespace Go.Proofs.Ytbhopgklnddelaa
open Go.RowKit

theorem or_i64 (a b : Nat) (ha : a < 9223372036854775808) (hb : b < 9223372036854775808) : bits .or .i64 (a : Int) (b : Int) = ((a ||| b : Nat) : Int) := by
  have hx : a ||| b < 2 ^ 63 := Nat.or_lt_two_pow (by omega) (by omega)
  have h1 : (BitVec.ofInt 64 (a : Int)).toNat = a := by
    rw [BitVec.ofInt_natCast, BitVec.toNat_ofNat]; exact Nat.mod_eq_of_lt (by omega)
  have h2 : (BitVec.ofInt 64 (b : Int)).toNat = b := by
    rw [BitVec.ofInt_natCast, BitVec.toNat_ofNat]; exact Nat.mod_eq_of_lt (by omega)
  show IntKind.i64.wrap ((BitVec.ofInt 64 (a : Int) ||| BitVec.ofInt 64 (b : Int)).toNat : Int) = _
  rw [BitVec.toNat_or, h1, h2]
  generalize a ||| b = c at *
  unfold IntKind.wrap
  have h64 : (2 : Int) ^ IntKind.i64.bits = 18446744073709551616 := by decide
  have h63 : (2 : Int) ^ (IntKind.i64.bits - 1) = 9223372036854775808 := by decide
  have e : (c : Int) % 18446744073709551616 = c := by omega
  simp only [h64, h63, e]
  have : ¬ ((c : Int) ≥ 9223372036854775808) := by omega
  simp [this]
theorem or_place (i a x : Nat) (ha : a < 2 ^ i) (hx : x < 256) (hi : i ≤ 32) : bits .or .i64 (a : Int) ((x * 2 ^ i : Nat) : Int) = ((a + x * 2 ^ i : Nat) : Int) := by
  have hp : 2 ^ i ≤ 4294967296 := Nat.pow_le_pow_right (n := 2) (by decide) hi
  have h2 : x * 2 ^ i ≤ 255 * 4294967296 := Nat.mul_le_mul (by omega) hp
  rw [or_i64 a (x * 2 ^ i) (by omega) (by omega)]
  have := Nat.two_pow_add_eq_or_of_lt ha x
  rw [Nat.mul_comm x (2 ^ i), Nat.or_comm, ← this]
  congr 1
  omega
theorem andNot_bits (x : Nat) (hx : x < 256) : bits .andNot .u8 (x : Int) 128 = ((x % 128 : Nat) : Int) := by
  have h := u8_andNot_nat x 128 hx (by omega)
  have h2 : ∀ y : Fin 256, y.val &&& 127 = y.val % 128 := by decide +kernel
  have h3 := h2 ⟨x, hx⟩
  simp only at h3
  rw [show 255 - 128 = 127 from rfl, h3] at h
  exact h
theorem and128n_hi (x : Nat) (hx : x < 256) (h : 128 ≤ x) : bits .and .u8 (x : Int) 128 = 128 := by
  have h1 := and128_hi (UInt8.ofNat x) (by rw [UInt8.toNat_ofNat']; omega)
  rw [UInt8.toNat_ofNat', show x % 2 ^ 8 = x by omega] at h1
  exact h1
theorem and128n_lo (x : Nat) (h : x < 128) : bits .and .u8 (x : Int) 128 = 0 := by
  have h1 := and128_lo (UInt8.ofNat x) (by rw [UInt8.toNat_ofNat']; omega)
  rw [UInt8.toNat_ofNat', show x % 2 ^ 8 = x by omega] at h1
  exact h1

set_option maxRecDepth 100000 in
theorem dec_empty (A : Option Addr) (c : Nat) (w : World) : Calls Try.prog 12 #[.slice A 0 c] w fun e w' => e = .returned (.tuple #[.int .i64 0, .int .i64 0]) ∧ w = w' := by
  go_enter Try.func12, Try.ntmps12
  go_wp2
  go_ret2
  exact ⟨rfl, rfl⟩
set_option maxRecDepth 100000 in
theorem dec_long (b off n c x : Nat) (hn : 4 < n) (w : World) (hc : w.cell? ⟨b, off + (n - 1), none⟩ = some (.int .u8 (x : Int))) (hm : n ≤ 9223372036854775807) : Calls Try.prog 12 #[.slice (some ⟨b, off, none⟩) n c] w fun e w' => e = .returned (.tuple #[.int .i64 0, .int .i64 110]) ∧ w = w' := by
  obtain ⟨k, rfl⟩ : ∃ k, n = k + 1 := ⟨n - 1, by omega⟩
  rw [Nat.add_sub_cancel] at hc
  have h4 : (4 : Int) < (k : Int) + 1 := by omega
  have h0 : ((k : Int) + 1 == 0) = false := by simp; omega
  go_enter Try.func12, Try.ntmps12
  go_wp2
  go_ret2
  exact ⟨rfl, rfl⟩

def pv1 (y0 : Nat) : Nat → Nat
  | 0 => 0
  | _ => y0
set_option maxRecDepth 100000 in
theorem dec1_no (b off c y0 : Nat) (h0 : y0 < 256) (w : World) (c0 : w.cell? ⟨b, off, none⟩ = some (.int .u8 (y0 : Int))) (hl : y0 % 128 = 0) : Calls Try.prog 12 #[.slice (some ⟨b, off, none⟩) 1 c] w fun e w' => e = .returned (.tuple #[.int .i64 0, .int .i64 110]) ∧ w = w' := by
  have e1 := andNot_bits y0 h0
  rw [hl, show ((0 : Nat) : Int) = 0 from rfl] at e1
  clear hl
  go_enter Try.func12, Try.ntmps12
  go_wp2
  go_ret2
  exact ⟨rfl, rfl⟩
set_option maxRecDepth 100000 in
set_option maxHeartbeats 1000000 in
theorem dec1_B0 (b off c y0 : Nat) (h0 : y0 < 256) (w : World) (c0 : w.cell? ⟨b, off, none⟩ = some (.int .u8 (y0 : Int))) (hl : y0 % 128 ≠ 0) (hs : y0 < 128) : Calls Try.prog 12 #[.slice (some ⟨b, off, none⟩) 1 c] w fun e w' => e = .returned (.tuple #[.int .i64 ((pv1 y0 1 : Nat) : Int), .int .i64 0]) ∧ w = w' := by
  have e1 := andNot_bits y0 h0
  obtain ⟨z, hz⟩ : ∃ z, y0 % 128 = z := ⟨_, rfl⟩
  rw [hz] at e1
  have hzb : ((z : Int) == 0) = false := by simp; omega
  have hzn : (z : Int) ≠ 0 := by omega
  have e4 := and128n_lo y0 hs
  have o0 : bits .or .i64 ((pv1 y0 0 : Nat) : Int) ((y0 : Int)) = ((pv1 y0 1 : Nat) : Int) := by
    have := or_place 0 (pv1 y0 0) y0 (by simp only [pv1]; omega) h0 (by omega)
    rw [show pv1 y0 0 + y0 * 2 ^ 0 = pv1 y0 1 by simp only [pv1]; try omega] at this
    rw [← this]
    simp
  have hP : pv1 y0 1 < 256 := by simp only [pv1]; omega
  obtain ⟨p0, hp0⟩ : ∃ p, pv1 y0 0 = p := ⟨_, rfl⟩
  obtain ⟨p1, hp1⟩ : ∃ p, pv1 y0 1 = p := ⟨_, rfl⟩
  rw [hp0, hp1] at o0
  rw [hp1] at hP ⊢
  clear hl hs hz hp1
  have hp0' : p0 = 0 := by rw [← hp0]; rfl
  subst hp0'
  clear hp0
  rw [show ((0 : Nat) : Int) = 0 from rfl] at o0
  go_enter Try.func12, Try.ntmps12
  go_wp2
  go_loop [5, 42] (fun v i => (i = .int .i64 0 ∧ v = .int .i64 0) ∨ (i = .int .i64 1 ∧ v = .int .i64 (p1 : Int))) (fun _ i => 1 - (intOf i).toNat)
  case atStart => exact .inl ⟨rfl, rfl⟩
  case round =>
    rcases hrel with ⟨rfl, rfl⟩ | ⟨rfl, rfl⟩
    · go_wp2
      go_round
      case rel => simp
      case measure => simp [intOf]
    · go_wp2
      go_ret2
      exact ⟨rfl, rfl⟩
set_option maxRecDepth 100000 in
set_option maxHeartbeats 1000000 in
theorem dec1_B1 (b off c y0 : Nat) (h0 : y0 < 256) (w : World) (c0 : w.cell? ⟨b, off, none⟩ = some (.int .u8 (y0 : Int))) (hl : y0 % 128 ≠ 0) (hs : 128 ≤ y0) : Calls Try.prog 12 #[.slice (some ⟨b, off, none⟩) 1 c] w fun e w' => e = .returned (.tuple #[.int .i64 (-(((pv1 y0 1 : Nat) : Int) - 128)), .int .i64 0]) ∧ w = w' := by
  have e1 := andNot_bits y0 h0
  obtain ⟨z, hz⟩ : ∃ z, y0 % 128 = z := ⟨_, rfl⟩
  rw [hz] at e1
  have hzb : ((z : Int) == 0) = false := by simp; omega
  have hzn : (z : Int) ≠ 0 := by omega
  have e4 := and128n_hi y0 h0 hs
  have o0 : bits .or .i64 ((pv1 y0 0 : Nat) : Int) ((y0 : Int)) = ((pv1 y0 1 : Nat) : Int) := by
    have := or_place 0 (pv1 y0 0) y0 (by simp only [pv1]; omega) h0 (by omega)
    rw [show pv1 y0 0 + y0 * 2 ^ 0 = pv1 y0 1 by simp only [pv1]; try omega] at this
    rw [← this]
    simp
  have hP : pv1 y0 1 < 256 := by simp only [pv1]; omega
  obtain ⟨p0, hp0⟩ : ∃ p, pv1 y0 0 = p := ⟨_, rfl⟩
  obtain ⟨p1, hp1⟩ : ∃ p, pv1 y0 1 = p := ⟨_, rfl⟩
  rw [hp0, hp1] at o0
  rw [hp1] at hP ⊢
  clear hl hs hz hp1
  have hp0' : p0 = 0 := by rw [← hp0]; rfl
  subst hp0'
  clear hp0
  rw [show ((0 : Nat) : Int) = 0 from rfl] at o0
  go_enter Try.func12, Try.ntmps12
  go_wp2
  go_loop [5, 42] (fun v i => (i = .int .i64 0 ∧ v = .int .i64 0) ∨ (i = .int .i64 1 ∧ v = .int .i64 (p1 : Int))) (fun _ i => 1 - (intOf i).toNat)
  case atStart => exact .inl ⟨rfl, rfl⟩
  case round =>
    rcases hrel with ⟨rfl, rfl⟩ | ⟨rfl, rfl⟩
    · go_wp2
      go_round
      case rel => simp
      case measure => simp [intOf]
    · go_wp2
      go_ret2
      exact ⟨rfl, rfl⟩

def pv2 (y0 y1 : Nat) : Nat → Nat
  | 0 => 0
  | 1 => y0
  | _ => y0 + y1 * 256
set_option maxRecDepth 100000 in
theorem dec2_no (b off c y0 y1 : Nat) (h0 : y0 < 256) (h1 : y1 < 256) (w : World) (c0 : w.cell? ⟨b, off, none⟩ = some (.int .u8 (y0 : Int))) (c1 : w.cell? ⟨b, off + 1, none⟩ = some (.int .u8 (y1 : Int))) (hl : y1 % 128 = 0) (hp : y0 < 128) : Calls Try.prog 12 #[.slice (some ⟨b, off, none⟩) 2 c] w fun e w' => e = .returned (.tuple #[.int .i64 0, .int .i64 110]) ∧ w = w' := by
  have e1 := andNot_bits y1 h1
  rw [hl, show ((0 : Nat) : Int) = 0 from rfl] at e1
  have e2 := and128n_lo y0 hp
  clear hl hp
  go_enter Try.func12, Try.ntmps12
  go_wp2
  go_ret2
  exact ⟨rfl, rfl⟩
set_option maxRecDepth 100000 in
set_option maxHeartbeats 1000000 in
theorem dec2_A0 (b off c y0 y1 : Nat) (h0 : y0 < 256) (h1 : y1 < 256) (w : World) (c0 : w.cell? ⟨b, off, none⟩ = some (.int .u8 (y0 : Int))) (c1 : w.cell? ⟨b, off + 1, none⟩ = some (.int .u8 (y1 : Int))) (hl : y1 % 128 = 0) (hp : 128 ≤ y0) (hs : y1 < 128) : Calls Try.prog 12 #[.slice (some ⟨b, off, none⟩) 2 c] w fun e w' => e = .returned (.tuple #[.int .i64 ((pv2 y0 y1 2 : Nat) : Int), .int .i64 0]) ∧ w = w' := by
  have e1 := andNot_bits y1 h1
  rw [hl, show ((0 : Nat) : Int) = 0 from rfl] at e1
  have e2 := and128n_hi y0 h0 hp
  have e4 := and128n_lo y1 hs
  have o0 : bits .or .i64 ((pv2 y0 y1 0 : Nat) : Int) ((y0 : Int)) = ((pv2 y0 y1 1 : Nat) : Int) := by
    have := or_place 0 (pv2 y0 y1 0) y0 (by simp only [pv2]; omega) h0 (by omega)
    rw [show pv2 y0 y1 0 + y0 * 2 ^ 0 = pv2 y0 y1 1 by simp only [pv2]; try omega] at this
    rw [← this]
    simp
  have o1 : bits .or .i64 ((pv2 y0 y1 1 : Nat) : Int) ((y1 : Int) * 256) = ((pv2 y0 y1 2 : Nat) : Int) := by
    have := or_place 8 (pv2 y0 y1 1) y1 (by simp only [pv2]; omega) h1 (by omega)
    rw [show pv2 y0 y1 1 + y1 * 2 ^ 8 = pv2 y0 y1 2 by simp only [pv2]; try omega] at this
    rw [← this]
    simp
  have hP : pv2 y0 y1 2 < 65536 := by simp only [pv2]; omega
  obtain ⟨p0, hp0⟩ : ∃ p, pv2 y0 y1 0 = p := ⟨_, rfl⟩
  obtain ⟨p1, hp1⟩ : ∃ p, pv2 y0 y1 1 = p := ⟨_, rfl⟩
  obtain ⟨p2, hp2⟩ : ∃ p, pv2 y0 y1 2 = p := ⟨_, rfl⟩
  rw [hp0, hp1] at o0
  rw [hp1, hp2] at o1
  rw [hp2] at hP ⊢
  clear hl hs hp hp1 hp2
  have hp0' : p0 = 0 := by rw [← hp0]; rfl
  subst hp0'
  clear hp0
  rw [show ((0 : Nat) : Int) = 0 from rfl] at o0
  go_enter Try.func12, Try.ntmps12
  go_wp2
  go_loop [5, 42] (fun v i => (i = .int .i64 0 ∧ v = .int .i64 0) ∨ (i = .int .i64 1 ∧ v = .int .i64 (p1 : Int)) ∨ (i = .int .i64 2 ∧ v = .int .i64 (p2 : Int))) (fun _ i => 2 - (intOf i).toNat)
  case atStart => exact .inl ⟨rfl, rfl⟩
  case round =>
    rcases hrel with ⟨rfl, rfl⟩ | ⟨rfl, rfl⟩ | ⟨rfl, rfl⟩
    · go_wp2
      go_round
      case rel => simp
      case measure => simp [intOf]
    · go_wp2
      go_round
      case rel => simp
      case measure => simp [intOf]
    · go_wp2
      go_ret2
      exact ⟨rfl, rfl⟩
set_option maxRecDepth 100000 in
set_option maxHeartbeats 1000000 in
theorem dec2_A1 (b off c y0 y1 : Nat) (h0 : y0 < 256) (h1 : y1 < 256) (w : World) (c0 : w.cell? ⟨b, off, none⟩ = some (.int .u8 (y0 : Int))) (c1 : w.cell? ⟨b, off + 1, none⟩ = some (.int .u8 (y1 : Int))) (hl : y1 % 128 = 0) (hp : 128 ≤ y0) (hs : 128 ≤ y1) : Calls Try.prog 12 #[.slice (some ⟨b, off, none⟩) 2 c] w fun e w' => e = .returned (.tuple #[.int .i64 (-(((pv2 y0 y1 2 : Nat) : Int) - 32768)), .int .i64 0]) ∧ w = w' := by
  have e1 := andNot_bits y1 h1
  rw [hl, show ((0 : Nat) : Int) = 0 from rfl] at e1
  have e2 := and128n_hi y0 h0 hp
  have e4 := and128n_hi y1 h1 hs
  have o0 : bits .or .i64 ((pv2 y0 y1 0 : Nat) : Int) ((y0 : Int)) = ((pv2 y0 y1 1 : Nat) : Int) := by
    have := or_place 0 (pv2 y0 y1 0) y0 (by simp only [pv2]; omega) h0 (by omega)
    rw [show pv2 y0 y1 0 + y0 * 2 ^ 0 = pv2 y0 y1 1 by simp only [pv2]; try omega] at this
    rw [← this]
    simp
  have o1 : bits .or .i64 ((pv2 y0 y1 1 : Nat) : Int) ((y1 : Int) * 256) = ((pv2 y0 y1 2 : Nat) : Int) := by
    have := or_place 8 (pv2 y0 y1 1) y1 (by simp only [pv2]; omega) h1 (by omega)
    rw [show pv2 y0 y1 1 + y1 * 2 ^ 8 = pv2 y0 y1 2 by simp only [pv2]; try omega] at this
    rw [← this]
    simp
  have hP : pv2 y0 y1 2 < 65536 := by simp only [pv2]; omega
  obtain ⟨p0, hp0⟩ : ∃ p, pv2 y0 y1 0 = p := ⟨_, rfl⟩
  obtain ⟨p1, hp1⟩ : ∃ p, pv2 y0 y1 1 = p := ⟨_, rfl⟩
  obtain ⟨p2, hp2⟩ : ∃ p, pv2 y0 y1 2 = p := ⟨_, rfl⟩
  rw [hp0, hp1] at o0
  rw [hp1, hp2] at o1
  rw [hp2] at hP ⊢
  clear hl hs hp hp1 hp2
  have hp0' : p0 = 0 := by rw [← hp0]; rfl
  subst hp0'
  clear hp0
  rw [show ((0 : Nat) : Int) = 0 from rfl] at o0
  go_enter Try.func12, Try.ntmps12
  go_wp2
  go_loop [5, 42] (fun v i => (i = .int .i64 0 ∧ v = .int .i64 0) ∨ (i = .int .i64 1 ∧ v = .int .i64 (p1 : Int)) ∨ (i = .int .i64 2 ∧ v = .int .i64 (p2 : Int))) (fun _ i => 2 - (intOf i).toNat)
  case atStart => exact .inl ⟨rfl, rfl⟩
  case round =>
    rcases hrel with ⟨rfl, rfl⟩ | ⟨rfl, rfl⟩ | ⟨rfl, rfl⟩
    · go_wp2
      go_round
      case rel => simp
      case measure => simp [intOf]
    · go_wp2
      go_round
      case rel => simp
      case measure => simp [intOf]
    · go_wp2
      go_ret2
      exact ⟨rfl, rfl⟩
set_option maxRecDepth 100000 in
set_option maxHeartbeats 1000000 in
theorem dec2_B0 (b off c y0 y1 : Nat) (h0 : y0 < 256) (h1 : y1 < 256) (w : World) (c0 : w.cell? ⟨b, off, none⟩ = some (.int .u8 (y0 : Int))) (c1 : w.cell? ⟨b, off + 1, none⟩ = some (.int .u8 (y1 : Int))) (hl : y1 % 128 ≠ 0) (hs : y1 < 128) : Calls Try.prog 12 #[.slice (some ⟨b, off, none⟩) 2 c] w fun e w' => e = .returned (.tuple #[.int .i64 ((pv2 y0 y1 2 : Nat) : Int), .int .i64 0]) ∧ w = w' := by
  have e1 := andNot_bits y1 h1
  obtain ⟨z, hz⟩ : ∃ z, y1 % 128 = z := ⟨_, rfl⟩
  rw [hz] at e1
  have hzb : ((z : Int) == 0) = false := by simp; omega
  have hzn : (z : Int) ≠ 0 := by omega
  have e4 := and128n_lo y1 hs
  have o0 : bits .or .i64 ((pv2 y0 y1 0 : Nat) : Int) ((y0 : Int)) = ((pv2 y0 y1 1 : Nat) : Int) := by
    have := or_place 0 (pv2 y0 y1 0) y0 (by simp only [pv2]; omega) h0 (by omega)
    rw [show pv2 y0 y1 0 + y0 * 2 ^ 0 = pv2 y0 y1 1 by simp only [pv2]; try omega] at this
    rw [← this]
    simp
  have o1 : bits .or .i64 ((pv2 y0 y1 1 : Nat) : Int) ((y1 : Int) * 256) = ((pv2 y0 y1 2 : Nat) : Int) := by
    have := or_place 8 (pv2 y0 y1 1) y1 (by simp only [pv2]; omega) h1 (by omega)
    rw [show pv2 y0 y1 1 + y1 * 2 ^ 8 = pv2 y0 y1 2 by simp only [pv2]; try omega] at this
    rw [← this]
    simp
  have hP : pv2 y0 y1 2 < 65536 := by simp only [pv2]; omega
  obtain ⟨p0, hp0⟩ : ∃ p, pv2 y0 y1 0 = p := ⟨_, rfl⟩
  obtain ⟨p1, hp1⟩ : ∃ p, pv2 y0 y1 1 = p := ⟨_, rfl⟩
  obtain ⟨p2, hp2⟩ : ∃ p, pv2 y0 y1 2 = p := ⟨_, rfl⟩
  rw [hp0, hp1] at o0
  rw [hp1, hp2] at o1
  rw [hp2] at hP ⊢
  clear hl hs hz hp1 hp2
  have hp0' : p0 = 0 := by rw [← hp0]; rfl
  subst hp0'
  clear hp0
  rw [show ((0 : Nat) : Int) = 0 from rfl] at o0
  go_enter Try.func12, Try.ntmps12
  go_wp2
  go_loop [5, 42] (fun v i => (i = .int .i64 0 ∧ v = .int .i64 0) ∨ (i = .int .i64 1 ∧ v = .int .i64 (p1 : Int)) ∨ (i = .int .i64 2 ∧ v = .int .i64 (p2 : Int))) (fun _ i => 2 - (intOf i).toNat)
  case atStart => exact .inl ⟨rfl, rfl⟩
  case round =>
    rcases hrel with ⟨rfl, rfl⟩ | ⟨rfl, rfl⟩ | ⟨rfl, rfl⟩
    · go_wp2
      go_round
      case rel => simp
      case measure => simp [intOf]
    · go_wp2
      go_round
      case rel => simp
      case measure => simp [intOf]
    · go_wp2
      go_ret2
      exact ⟨rfl, rfl⟩
set_option maxRecDepth 100000 in
set_option maxHeartbeats 1000000 in
theorem dec2_B1 (b off c y0 y1 : Nat) (h0 : y0 < 256) (h1 : y1 < 256) (w : World) (c0 : w.cell? ⟨b, off, none⟩ = some (.int .u8 (y0 : Int))) (c1 : w.cell? ⟨b, off + 1, none⟩ = some (.int .u8 (y1 : Int))) (hl : y1 % 128 ≠ 0) (hs : 128 ≤ y1) : Calls Try.prog 12 #[.slice (some ⟨b, off, none⟩) 2 c] w fun e w' => e = .returned (.tuple #[.int .i64 (-(((pv2 y0 y1 2 : Nat) : Int) - 32768)), .int .i64 0]) ∧ w = w' := by
  have e1 := andNot_bits y1 h1
  obtain ⟨z, hz⟩ : ∃ z, y1 % 128 = z := ⟨_, rfl⟩
  rw [hz] at e1
  have hzb : ((z : Int) == 0) = false := by simp; omega
  have hzn : (z : Int) ≠ 0 := by omega
  have e4 := and128n_hi y1 h1 hs
  have o0 : bits .or .i64 ((pv2 y0 y1 0 : Nat) : Int) ((y0 : Int)) = ((pv2 y0 y1 1 : Nat) : Int) := by
    have := or_place 0 (pv2 y0 y1 0) y0 (by simp only [pv2]; omega) h0 (by omega)
    rw [show pv2 y0 y1 0 + y0 * 2 ^ 0 = pv2 y0 y1 1 by simp only [pv2]; try omega] at this
    rw [← this]
    simp
  have o1 : bits .or .i64 ((pv2 y0 y1 1 : Nat) : Int) ((y1 : Int) * 256) = ((pv2 y0 y1 2 : Nat) : Int) := by
    have := or_place 8 (pv2 y0 y1 1) y1 (by simp only [pv2]; omega) h1 (by omega)
    rw [show pv2 y0 y1 1 + y1 * 2 ^ 8 = pv2 y0 y1 2 by simp only [pv2]; try omega] at this
    rw [← this]
    simp
  have hP : pv2 y0 y1 2 < 65536 := by simp only [pv2]; omega
  obtain ⟨p0, hp0⟩ : ∃ p, pv2 y0 y1 0 = p := ⟨_, rfl⟩
  obtain ⟨p1, hp1⟩ : ∃ p, pv2 y0 y1 1 = p := ⟨_, rfl⟩
  obtain ⟨p2, hp2⟩ : ∃ p, pv2 y0 y1 2 = p := ⟨_, rfl⟩
  rw [hp0, hp1] at o0
  rw [hp1, hp2] at o1
  rw [hp2] at hP ⊢
  clear hl hs hz hp1 hp2
  have hp0' : p0 = 0 := by rw [← hp0]; rfl
  subst hp0'
  clear hp0
  rw [show ((0 : Nat) : Int) = 0 from rfl] at o0
  go_enter Try.func12, Try.ntmps12
  go_wp2
  go_loop [5, 42] (fun v i => (i = .int .i64 0 ∧ v = .int .i64 0) ∨ (i = .int .i64 1 ∧ v = .int .i64 (p1 : Int)) ∨ (i = .int .i64 2 ∧ v = .int .i64 (p2 : Int))) (fun _ i => 2 - (intOf i).toNat)
  case atStart => exact .inl ⟨rfl, rfl⟩
  case round =>
    rcases hrel with ⟨rfl, rfl⟩ | ⟨rfl, rfl⟩ | ⟨rfl, rfl⟩
    · go_wp2
      go_round
      case rel => simp
      case measure => simp [intOf]
    · go_wp2
      go_round
      case rel => simp
      case measure => simp [intOf]
    · go_wp2
      go_ret2
      exact ⟨rfl, rfl⟩

def pv3 (y0 y1 y2 : Nat) : Nat → Nat
  | 0 => 0
  | 1 => y0
  | 2 => y0 + y1 * 256
  | _ => y0 + y1 * 256 + y2 * 65536
set_option maxRecDepth 100000 in
theorem dec3_no (b off c y0 y1 y2 : Nat) (h0 : y0 < 256) (h1 : y1 < 256) (h2 : y2 < 256) (w : World) (c0 : w.cell? ⟨b, off, none⟩ = some (.int .u8 (y0 : Int))) (c1 : w.cell? ⟨b, off + 1, none⟩ = some (.int .u8 (y1 : Int))) (c2 : w.cell? ⟨b, off + 2, none⟩ = some (.int .u8 (y2 : Int))) (hl : y2 % 128 = 0) (hp : y1 < 128) : Calls Try.prog 12 #[.slice (some ⟨b, off, none⟩) 3 c] w fun e w' => e = .returned (.tuple #[.int .i64 0, .int .i64 110]) ∧ w = w' := by
  have e1 := andNot_bits y2 h2
  rw [hl, show ((0 : Nat) : Int) = 0 from rfl] at e1
  have e2 := and128n_lo y1 hp
  clear hl hp
  go_enter Try.func12, Try.ntmps12
  go_wp2
  go_ret2
  exact ⟨rfl, rfl⟩
set_option maxRecDepth 100000 in
set_option maxHeartbeats 1000000 in
theorem dec3_A0 (b off c y0 y1 y2 : Nat) (h0 : y0 < 256) (h1 : y1 < 256) (h2 : y2 < 256) (w : World) (c0 : w.cell? ⟨b, off, none⟩ = some (.int .u8 (y0 : Int))) (c1 : w.cell? ⟨b, off + 1, none⟩ = some (.int .u8 (y1 : Int))) (c2 : w.cell? ⟨b, off + 2, none⟩ = some (.int .u8 (y2 : Int))) (hl : y2 % 128 = 0) (hp : 128 ≤ y1) (hs : y2 < 128) : Calls Try.prog 12 #[.slice (some ⟨b, off, none⟩) 3 c] w fun e w' => e = .returned (.tuple #[.int .i64 ((pv3 y0 y1 y2 3 : Nat) : Int), .int .i64 0]) ∧ w = w' := by
  have e1 := andNot_bits y2 h2
  rw [hl, show ((0 : Nat) : Int) = 0 from rfl] at e1
  have e2 := and128n_hi y1 h1 hp
  have e4 := and128n_lo y2 hs
  have o0 : bits .or .i64 ((pv3 y0 y1 y2 0 : Nat) : Int) ((y0 : Int)) = ((pv3 y0 y1 y2 1 : Nat) : Int) := by
    have := or_place 0 (pv3 y0 y1 y2 0) y0 (by simp only [pv3]; omega) h0 (by omega)
    rw [show pv3 y0 y1 y2 0 + y0 * 2 ^ 0 = pv3 y0 y1 y2 1 by simp only [pv3]; try omega] at this
    rw [← this]
    simp
  have o1 : bits .or .i64 ((pv3 y0 y1 y2 1 : Nat) : Int) ((y1 : Int) * 256) = ((pv3 y0 y1 y2 2 : Nat) : Int) := by
    have := or_place 8 (pv3 y0 y1 y2 1) y1 (by simp only [pv3]; omega) h1 (by omega)
    rw [show pv3 y0 y1 y2 1 + y1 * 2 ^ 8 = pv3 y0 y1 y2 2 by simp only [pv3]; try omega] at this
    rw [← this]
    simp
  have o2 : bits .or .i64 ((pv3 y0 y1 y2 2 : Nat) : Int) ((y2 : Int) * 65536) = ((pv3 y0 y1 y2 3 : Nat) : Int) := by
    have := or_place 16 (pv3 y0 y1 y2 2) y2 (by simp only [pv3]; omega) h2 (by omega)
    rw [show pv3 y0 y1 y2 2 + y2 * 2 ^ 16 = pv3 y0 y1 y2 3 by simp only [pv3]; try omega] at this
    rw [← this]
    simp
  have hP : pv3 y0 y1 y2 3 < 16777216 := by simp only [pv3]; omega
  obtain ⟨p0, hp0⟩ : ∃ p, pv3 y0 y1 y2 0 = p := ⟨_, rfl⟩
  obtain ⟨p1, hp1⟩ : ∃ p, pv3 y0 y1 y2 1 = p := ⟨_, rfl⟩
  obtain ⟨p2, hp2⟩ : ∃ p, pv3 y0 y1 y2 2 = p := ⟨_, rfl⟩
  obtain ⟨p3, hp3⟩ : ∃ p, pv3 y0 y1 y2 3 = p := ⟨_, rfl⟩
  rw [hp0, hp1] at o0
  rw [hp1, hp2] at o1
  rw [hp2, hp3] at o2
  rw [hp3] at hP ⊢
  clear hl hs hp hp1 hp2 hp3
  have hp0' : p0 = 0 := by rw [← hp0]; rfl
  subst hp0'
  clear hp0
  rw [show ((0 : Nat) : Int) = 0 from rfl] at o0
  go_enter Try.func12, Try.ntmps12
  go_wp2
  go_loop [5, 42] (fun v i => (i = .int .i64 0 ∧ v = .int .i64 0) ∨ (i = .int .i64 1 ∧ v = .int .i64 (p1 : Int)) ∨ (i = .int .i64 2 ∧ v = .int .i64 (p2 : Int)) ∨ (i = .int .i64 3 ∧ v = .int .i64 (p3 : Int))) (fun _ i => 3 - (intOf i).toNat)
  case atStart => exact .inl ⟨rfl, rfl⟩
  case round =>
    rcases hrel with ⟨rfl, rfl⟩ | ⟨rfl, rfl⟩ | ⟨rfl, rfl⟩ | ⟨rfl, rfl⟩
    · go_wp2
      go_round
      case rel => simp
      case measure => simp [intOf]
    · go_wp2
      go_round
      case rel => simp
      case measure => simp [intOf]
    · go_wp2
      go_round
      case rel => simp
      case measure => simp [intOf]
    · go_wp2
      go_ret2
      exact ⟨rfl, rfl⟩
set_option maxRecDepth 100000 in
set_option maxHeartbeats 1000000 in
theorem dec3_A1 (b off c y0 y1 y2 : Nat) (h0 : y0 < 256) (h1 : y1 < 256) (h2 : y2 < 256) (w : World) (c0 : w.cell? ⟨b, off, none⟩ = some (.int .u8 (y0 : Int))) (c1 : w.cell? ⟨b, off + 1, none⟩ = some (.int .u8 (y1 : Int))) (c2 : w.cell? ⟨b, off + 2, none⟩ = some (.int .u8 (y2 : Int))) (hl : y2 % 128 = 0) (hp : 128 ≤ y1) (hs : 128 ≤ y2) : Calls Try.prog 12 #[.slice (some ⟨b, off, none⟩) 3 c] w fun e w' => e = .returned (.tuple #[.int .i64 (-(((pv3 y0 y1 y2 3 : Nat) : Int) - 8388608)), .int .i64 0]) ∧ w = w' := by
  have e1 := andNot_bits y2 h2
  rw [hl, show ((0 : Nat) : Int) = 0 from rfl] at e1
  have e2 := and128n_hi y1 h1 hp
  have e4 := and128n_hi y2 h2 hs
  have o0 : bits .or .i64 ((pv3 y0 y1 y2 0 : Nat) : Int) ((y0 : Int)) = ((pv3 y0 y1 y2 1 : Nat) : Int) := by
    have := or_place 0 (pv3 y0 y1 y2 0) y0 (by simp only [pv3]; omega) h0 (by omega)
    rw [show pv3 y0 y1 y2 0 + y0 * 2 ^ 0 = pv3 y0 y1 y2 1 by simp only [pv3]; try omega] at this
    rw [← this]
    simp
  have o1 : bits .or .i64 ((pv3 y0 y1 y2 1 : Nat) : Int) ((y1 : Int) * 256) = ((pv3 y0 y1 y2 2 : Nat) : Int) := by
    have := or_place 8 (pv3 y0 y1 y2 1) y1 (by simp only [pv3]; omega) h1 (by omega)
    rw [show pv3 y0 y1 y2 1 + y1 * 2 ^ 8 = pv3 y0 y1 y2 2 by simp only [pv3]; try omega] at this
    rw [← this]
    simp
  have o2 : bits .or .i64 ((pv3 y0 y1 y2 2 : Nat) : Int) ((y2 : Int) * 65536) = ((pv3 y0 y1 y2 3 : Nat) : Int) := by
    have := or_place 16 (pv3 y0 y1 y2 2) y2 (by simp only [pv3]; omega) h2 (by omega)
    rw [show pv3 y0 y1 y2 2 + y2 * 2 ^ 16 = pv3 y0 y1 y2 3 by simp only [pv3]; try omega] at this
    rw [← this]
    simp
  have hP : pv3 y0 y1 y2 3 < 16777216 := by simp only [pv3]; omega
  obtain ⟨p0, hp0⟩ : ∃ p, pv3 y0 y1 y2 0 = p := ⟨_, rfl⟩
  obtain ⟨p1, hp1⟩ : ∃ p, pv3 y0 y1 y2 1 = p := ⟨_, rfl⟩
  obtain ⟨p2, hp2⟩ : ∃ p, pv3 y0 y1 y2 2 = p := ⟨_, rfl⟩
  obtain ⟨p3, hp3⟩ : ∃ p, pv3 y0 y1 y2 3 = p := ⟨_, rfl⟩
  rw [hp0, hp1] at o0
  rw [hp1, hp2] at o1
  rw [hp2, hp3] at o2
  rw [hp3] at hP ⊢
  clear hl hs hp hp1 hp2 hp3
  have hp0' : p0 = 0 := by rw [← hp0]; rfl
  subst hp0'
  clear hp0
  rw [show ((0 : Nat) : Int) = 0 from rfl] at o0
  go_enter Try.func12, Try.ntmps12
  go_wp2
  go_loop [5, 42] (fun v i => (i = .int .i64 0 ∧ v = .int .i64 0) ∨ (i = .int .i64 1 ∧ v = .int .i64 (p1 : Int)) ∨ (i = .int .i64 2 ∧ v = .int .i64 (p2 : Int)) ∨ (i = .int .i64 3 ∧ v = .int .i64 (p3 : Int))) (fun _ i => 3 - (intOf i).toNat)
  case atStart => exact .inl ⟨rfl, rfl⟩
  case round =>
    rcases hrel with ⟨rfl, rfl⟩ | ⟨rfl, rfl⟩ | ⟨rfl, rfl⟩ | ⟨rfl, rfl⟩
    · go_wp2
      go_round
      case rel => simp
      case measure => simp [intOf]
    · go_wp2
      go_round
      case rel => simp
      case measure => simp [intOf]
    · go_wp2
      go_round
      case rel => simp
      case measure => simp [intOf]
    · go_wp2
      go_ret2
      exact ⟨rfl, rfl⟩
set_option maxRecDepth 100000 in
set_option maxHeartbeats 1000000 in
theorem dec3_B0 (b off c y0 y1 y2 : Nat) (h0 : y0 < 256) (h1 : y1 < 256) (h2 : y2 < 256) (w : World) (c0 : w.cell? ⟨b, off, none⟩ = some (.int .u8 (y0 : Int))) (c1 : w.cell? ⟨b, off + 1, none⟩ = some (.int .u8 (y1 : Int))) (c2 : w.cell? ⟨b, off + 2, none⟩ = some (.int .u8 (y2 : Int))) (hl : y2 % 128 ≠ 0) (hs : y2 < 128) : Calls Try.prog 12 #[.slice (some ⟨b, off, none⟩) 3 c] w fun e w' => e = .returned (.tuple #[.int .i64 ((pv3 y0 y1 y2 3 : Nat) : Int), .int .i64 0]) ∧ w = w' := by
  have e1 := andNot_bits y2 h2
  obtain ⟨z, hz⟩ : ∃ z, y2 % 128 = z := ⟨_, rfl⟩
  rw [hz] at e1
  have hzb : ((z : Int) == 0) = false := by simp; omega
  have hzn : (z : Int) ≠ 0 := by omega
  have e4 := and128n_lo y2 hs
  have o0 : bits .or .i64 ((pv3 y0 y1 y2 0 : Nat) : Int) ((y0 : Int)) = ((pv3 y0 y1 y2 1 : Nat) : Int) := by
    have := or_place 0 (pv3 y0 y1 y2 0) y0 (by simp only [pv3]; omega) h0 (by omega)
    rw [show pv3 y0 y1 y2 0 + y0 * 2 ^ 0 = pv3 y0 y1 y2 1 by simp only [pv3]; try omega] at this
    rw [← this]
    simp
  have o1 : bits .or .i64 ((pv3 y0 y1 y2 1 : Nat) : Int) ((y1 : Int) * 256) = ((pv3 y0 y1 y2 2 : Nat) : Int) := by
    have := or_place 8 (pv3 y0 y1 y2 1) y1 (by simp only [pv3]; omega) h1 (by omega)
    rw [show pv3 y0 y1 y2 1 + y1 * 2 ^ 8 = pv3 y0 y1 y2 2 by simp only [pv3]; try omega] at this
    rw [← this]
    simp
  have o2 : bits .or .i64 ((pv3 y0 y1 y2 2 : Nat) : Int) ((y2 : Int) * 65536) = ((pv3 y0 y1 y2 3 : Nat) : Int) := by
    have := or_place 16 (pv3 y0 y1 y2 2) y2 (by simp only [pv3]; omega) h2 (by omega)
    rw [show pv3 y0 y1 y2 2 + y2 * 2 ^ 16 = pv3 y0 y1 y2 3 by simp only [pv3]; try omega] at this
    rw [← this]
    simp
  have hP : pv3 y0 y1 y2 3 < 16777216 := by simp only [pv3]; omega
  obtain ⟨p0, hp0⟩ : ∃ p, pv3 y0 y1 y2 0 = p := ⟨_, rfl⟩
  obtain ⟨p1, hp1⟩ : ∃ p, pv3 y0 y1 y2 1 = p := ⟨_, rfl⟩
  obtain ⟨p2, hp2⟩ : ∃ p, pv3 y0 y1 y2 2 = p := ⟨_, rfl⟩
  obtain ⟨p3, hp3⟩ : ∃ p, pv3 y0 y1 y2 3 = p := ⟨_, rfl⟩
  rw [hp0, hp1] at o0
  rw [hp1, hp2] at o1
  rw [hp2, hp3] at o2
  rw [hp3] at hP ⊢
  clear hl hs hz hp1 hp2 hp3
  have hp0' : p0 = 0 := by rw [← hp0]; rfl
  subst hp0'
  clear hp0
  rw [show ((0 : Nat) : Int) = 0 from rfl] at o0
  go_enter Try.func12, Try.ntmps12
  go_wp2
  go_loop [5, 42] (fun v i => (i = .int .i64 0 ∧ v = .int .i64 0) ∨ (i = .int .i64 1 ∧ v = .int .i64 (p1 : Int)) ∨ (i = .int .i64 2 ∧ v = .int .i64 (p2 : Int)) ∨ (i = .int .i64 3 ∧ v = .int .i64 (p3 : Int))) (fun _ i => 3 - (intOf i).toNat)
  case atStart => exact .inl ⟨rfl, rfl⟩
  case round =>
    rcases hrel with ⟨rfl, rfl⟩ | ⟨rfl, rfl⟩ | ⟨rfl, rfl⟩ | ⟨rfl, rfl⟩
    · go_wp2
      go_round
      case rel => simp
      case measure => simp [intOf]
    · go_wp2
      go_round
      case rel => simp
      case measure => simp [intOf]
    · go_wp2
      go_round
      case rel => simp
      case measure => simp [intOf]
    · go_wp2
      go_ret2
      exact ⟨rfl, rfl⟩
set_option maxRecDepth 100000 in
set_option maxHeartbeats 1000000 in
theorem dec3_B1 (b off c y0 y1 y2 : Nat) (h0 : y0 < 256) (h1 : y1 < 256) (h2 : y2 < 256) (w : World) (c0 : w.cell? ⟨b, off, none⟩ = some (.int .u8 (y0 : Int))) (c1 : w.cell? ⟨b, off + 1, none⟩ = some (.int .u8 (y1 : Int))) (c2 : w.cell? ⟨b, off + 2, none⟩ = some (.int .u8 (y2 : Int))) (hl : y2 % 128 ≠ 0) (hs : 128 ≤ y2) : Calls Try.prog 12 #[.slice (some ⟨b, off, none⟩) 3 c] w fun e w' => e = .returned (.tuple #[.int .i64 (-(((pv3 y0 y1 y2 3 : Nat) : Int) - 8388608)), .int .i64 0]) ∧ w = w' := by
  have e1 := andNot_bits y2 h2
  obtain ⟨z, hz⟩ : ∃ z, y2 % 128 = z := ⟨_, rfl⟩
  rw [hz] at e1
  have hzb : ((z : Int) == 0) = false := by simp; omega
  have hzn : (z : Int) ≠ 0 := by omega
  have e4 := and128n_hi y2 h2 hs
  have o0 : bits .or .i64 ((pv3 y0 y1 y2 0 : Nat) : Int) ((y0 : Int)) = ((pv3 y0 y1 y2 1 : Nat) : Int) := by
    have := or_place 0 (pv3 y0 y1 y2 0) y0 (by simp only [pv3]; omega) h0 (by omega)
    rw [show pv3 y0 y1 y2 0 + y0 * 2 ^ 0 = pv3 y0 y1 y2 1 by simp only [pv3]; try omega] at this
    rw [← this]
    simp
  have o1 : bits .or .i64 ((pv3 y0 y1 y2 1 : Nat) : Int) ((y1 : Int) * 256) = ((pv3 y0 y1 y2 2 : Nat) : Int) := by
    have := or_place 8 (pv3 y0 y1 y2 1) y1 (by simp only [pv3]; omega) h1 (by omega)
    rw [show pv3 y0 y1 y2 1 + y1 * 2 ^ 8 = pv3 y0 y1 y2 2 by simp only [pv3]; try omega] at this
    rw [← this]
    simp
  have o2 : bits .or .i64 ((pv3 y0 y1 y2 2 : Nat) : Int) ((y2 : Int) * 65536) = ((pv3 y0 y1 y2 3 : Nat) : Int) := by
    have := or_place 16 (pv3 y0 y1 y2 2) y2 (by simp only [pv3]; omega) h2 (by omega)
    rw [show pv3 y0 y1 y2 2 + y2 * 2 ^ 16 = pv3 y0 y1 y2 3 by simp only [pv3]; try omega] at this
    rw [← this]
    simp
  have hP : pv3 y0 y1 y2 3 < 16777216 := by simp only [pv3]; omega
  obtain ⟨p0, hp0⟩ : ∃ p, pv3 y0 y1 y2 0 = p := ⟨_, rfl⟩
  obtain ⟨p1, hp1⟩ : ∃ p, pv3 y0 y1 y2 1 = p := ⟨_, rfl⟩
  obtain ⟨p2, hp2⟩ : ∃ p, pv3 y0 y1 y2 2 = p := ⟨_, rfl⟩
  obtain ⟨p3, hp3⟩ : ∃ p, pv3 y0 y1 y2 3 = p := ⟨_, rfl⟩
  rw [hp0, hp1] at o0
  rw [hp1, hp2] at o1
  rw [hp2, hp3] at o2
  rw [hp3] at hP ⊢
  clear hl hs hz hp1 hp2 hp3
  have hp0' : p0 = 0 := by rw [← hp0]; rfl
  subst hp0'
  clear hp0
  rw [show ((0 : Nat) : Int) = 0 from rfl] at o0
  go_enter Try.func12, Try.ntmps12
  go_wp2
  go_loop [5, 42] (fun v i => (i = .int .i64 0 ∧ v = .int .i64 0) ∨ (i = .int .i64 1 ∧ v = .int .i64 (p1 : Int)) ∨ (i = .int .i64 2 ∧ v = .int .i64 (p2 : Int)) ∨ (i = .int .i64 3 ∧ v = .int .i64 (p3 : Int))) (fun _ i => 3 - (intOf i).toNat)
  case atStart => exact .inl ⟨rfl, rfl⟩
  case round =>
    rcases hrel with ⟨rfl, rfl⟩ | ⟨rfl, rfl⟩ | ⟨rfl, rfl⟩ | ⟨rfl, rfl⟩
    · go_wp2
      go_round
      case rel => simp
      case measure => simp [intOf]
    · go_wp2
      go_round
      case rel => simp
      case measure => simp [intOf]
    · go_wp2
      go_round
      case rel => simp
      case measure => simp [intOf]
    · go_wp2
      go_ret2
      exact ⟨rfl, rfl⟩

def pv4 (y0 y1 y2 y3 : Nat) : Nat → Nat
  | 0 => 0
  | 1 => y0
  | 2 => y0 + y1 * 256
  | 3 => y0 + y1 * 256 + y2 * 65536
  | _ => y0 + y1 * 256 + y2 * 65536 + y3 * 16777216
set_option maxRecDepth 100000 in
theorem dec4_no (b off c y0 y1 y2 y3 : Nat) (h0 : y0 < 256) (h1 : y1 < 256) (h2 : y2 < 256) (h3 : y3 < 256) (w : World) (c0 : w.cell? ⟨b, off, none⟩ = some (.int .u8 (y0 : Int))) (c1 : w.cell? ⟨b, off + 1, none⟩ = some (.int .u8 (y1 : Int))) (c2 : w.cell? ⟨b, off + 2, none⟩ = some (.int .u8 (y2 : Int))) (c3 : w.cell? ⟨b, off + 3, none⟩ = some (.int .u8 (y3 : Int))) (hl : y3 % 128 = 0) (hp : y2 < 128) : Calls Try.prog 12 #[.slice (some ⟨b, off, none⟩) 4 c] w fun e w' => e = .returned (.tuple #[.int .i64 0, .int .i64 110]) ∧ w = w' := by
  have e1 := andNot_bits y3 h3
  rw [hl, show ((0 : Nat) : Int) = 0 from rfl] at e1
  have e2 := and128n_lo y2 hp
  clear hl hp
  go_enter Try.func12, Try.ntmps12
  go_wp2
  go_ret2
  exact ⟨rfl, rfl⟩
set_option maxRecDepth 100000 in
set_option maxHeartbeats 1000000 in
theorem dec4_A0 (b off c y0 y1 y2 y3 : Nat) (h0 : y0 < 256) (h1 : y1 < 256) (h2 : y2 < 256) (h3 : y3 < 256) (w : World) (c0 : w.cell? ⟨b, off, none⟩ = some (.int .u8 (y0 : Int))) (c1 : w.cell? ⟨b, off + 1, none⟩ = some (.int .u8 (y1 : Int))) (c2 : w.cell? ⟨b, off + 2, none⟩ = some (.int .u8 (y2 : Int))) (c3 : w.cell? ⟨b, off + 3, none⟩ = some (.int .u8 (y3 : Int))) (hl : y3 % 128 = 0) (hp : 128 ≤ y2) (hs : y3 < 128) : Calls Try.prog 12 #[.slice (some ⟨b, off, none⟩) 4 c] w fun e w' => e = .returned (.tuple #[.int .i64 ((pv4 y0 y1 y2 y3 4 : Nat) : Int), .int .i64 0]) ∧ w = w' := by
  have e1 := andNot_bits y3 h3
  rw [hl, show ((0 : Nat) : Int) = 0 from rfl] at e1
  have e2 := and128n_hi y2 h2 hp
  have e4 := and128n_lo y3 hs
  have o0 : bits .or .i64 ((pv4 y0 y1 y2 y3 0 : Nat) : Int) ((y0 : Int)) = ((pv4 y0 y1 y2 y3 1 : Nat) : Int) := by
    have := or_place 0 (pv4 y0 y1 y2 y3 0) y0 (by simp only [pv4]; omega) h0 (by omega)
    rw [show pv4 y0 y1 y2 y3 0 + y0 * 2 ^ 0 = pv4 y0 y1 y2 y3 1 by simp only [pv4]; try omega] at this
    rw [← this]
    simp
  have o1 : bits .or .i64 ((pv4 y0 y1 y2 y3 1 : Nat) : Int) ((y1 : Int) * 256) = ((pv4 y0 y1 y2 y3 2 : Nat) : Int) := by
    have := or_place 8 (pv4 y0 y1 y2 y3 1) y1 (by simp only [pv4]; omega) h1 (by omega)
    rw [show pv4 y0 y1 y2 y3 1 + y1 * 2 ^ 8 = pv4 y0 y1 y2 y3 2 by simp only [pv4]; try omega] at this
    rw [← this]
    simp
  have o2 : bits .or .i64 ((pv4 y0 y1 y2 y3 2 : Nat) : Int) ((y2 : Int) * 65536) = ((pv4 y0 y1 y2 y3 3 : Nat) : Int) := by
    have := or_place 16 (pv4 y0 y1 y2 y3 2) y2 (by simp only [pv4]; omega) h2 (by omega)
    rw [show pv4 y0 y1 y2 y3 2 + y2 * 2 ^ 16 = pv4 y0 y1 y2 y3 3 by simp only [pv4]; try omega] at this
    rw [← this]
    simp
  have o3 : bits .or .i64 ((pv4 y0 y1 y2 y3 3 : Nat) : Int) ((y3 : Int) * 16777216) = ((pv4 y0 y1 y2 y3 4 : Nat) : Int) := by
    have := or_place 24 (pv4 y0 y1 y2 y3 3) y3 (by simp only [pv4]; omega) h3 (by omega)
    rw [show pv4 y0 y1 y2 y3 3 + y3 * 2 ^ 24 = pv4 y0 y1 y2 y3 4 by simp only [pv4]; try omega] at this
    rw [← this]
    simp
  have hP : pv4 y0 y1 y2 y3 4 < 4294967296 := by simp only [pv4]; omega
  obtain ⟨p0, hp0⟩ : ∃ p, pv4 y0 y1 y2 y3 0 = p := ⟨_, rfl⟩
  obtain ⟨p1, hp1⟩ : ∃ p, pv4 y0 y1 y2 y3 1 = p := ⟨_, rfl⟩
  obtain ⟨p2, hp2⟩ : ∃ p, pv4 y0 y1 y2 y3 2 = p := ⟨_, rfl⟩
  obtain ⟨p3, hp3⟩ : ∃ p, pv4 y0 y1 y2 y3 3 = p := ⟨_, rfl⟩
  obtain ⟨p4, hp4⟩ : ∃ p, pv4 y0 y1 y2 y3 4 = p := ⟨_, rfl⟩
  rw [hp0, hp1] at o0
  rw [hp1, hp2] at o1
  rw [hp2, hp3] at o2
  rw [hp3, hp4] at o3
  rw [hp4] at hP ⊢
  clear hl hs hp hp1 hp2 hp3 hp4
  have hp0' : p0 = 0 := by rw [← hp0]; rfl
  subst hp0'
  clear hp0
  rw [show ((0 : Nat) : Int) = 0 from rfl] at o0
  go_enter Try.func12, Try.ntmps12
  go_wp2
  go_loop [5, 42] (fun v i => (i = .int .i64 0 ∧ v = .int .i64 0) ∨ (i = .int .i64 1 ∧ v = .int .i64 (p1 : Int)) ∨ (i = .int .i64 2 ∧ v = .int .i64 (p2 : Int)) ∨ (i = .int .i64 3 ∧ v = .int .i64 (p3 : Int)) ∨ (i = .int .i64 4 ∧ v = .int .i64 (p4 : Int))) (fun _ i => 4 - (intOf i).toNat)
  case atStart => exact .inl ⟨rfl, rfl⟩
  case round =>
    rcases hrel with ⟨rfl, rfl⟩ | ⟨rfl, rfl⟩ | ⟨rfl, rfl⟩ | ⟨rfl, rfl⟩ | ⟨rfl, rfl⟩
    · go_wp2
      go_round
      case rel => simp
      case measure => simp [intOf]
    · go_wp2
      go_round
      case rel => simp
      case measure => simp [intOf]
    · go_wp2
      go_round
      case rel => simp
      case measure => simp [intOf]
    · go_wp2
      go_round
      case rel => simp
      case measure => simp [intOf]
    · go_wp2
      go_ret2
      exact ⟨rfl, rfl⟩
set_option maxRecDepth 100000 in
set_option maxHeartbeats 1000000 in
theorem dec4_A1 (b off c y0 y1 y2 y3 : Nat) (h0 : y0 < 256) (h1 : y1 < 256) (h2 : y2 < 256) (h3 : y3 < 256) (w : World) (c0 : w.cell? ⟨b, off, none⟩ = some (.int .u8 (y0 : Int))) (c1 : w.cell? ⟨b, off + 1, none⟩ = some (.int .u8 (y1 : Int))) (c2 : w.cell? ⟨b, off + 2, none⟩ = some (.int .u8 (y2 : Int))) (c3 : w.cell? ⟨b, off + 3, none⟩ = some (.int .u8 (y3 : Int))) (hl : y3 % 128 = 0) (hp : 128 ≤ y2) (hs : 128 ≤ y3) : Calls Try.prog 12 #[.slice (some ⟨b, off, none⟩) 4 c] w fun e w' => e = .returned (.tuple #[.int .i64 (-(((pv4 y0 y1 y2 y3 4 : Nat) : Int) - 2147483648)), .int .i64 0]) ∧ w = w' := by
  have e1 := andNot_bits y3 h3
  rw [hl, show ((0 : Nat) : Int) = 0 from rfl] at e1
  have e2 := and128n_hi y2 h2 hp
  have e4 := and128n_hi y3 h3 hs
  have o0 : bits .or .i64 ((pv4 y0 y1 y2 y3 0 : Nat) : Int) ((y0 : Int)) = ((pv4 y0 y1 y2 y3 1 : Nat) : Int) := by
    have := or_place 0 (pv4 y0 y1 y2 y3 0) y0 (by simp only [pv4]; omega) h0 (by omega)
    rw [show pv4 y0 y1 y2 y3 0 + y0 * 2 ^ 0 = pv4 y0 y1 y2 y3 1 by simp only [pv4]; try omega] at this
    rw [← this]
    simp
  have o1 : bits .or .i64 ((pv4 y0 y1 y2 y3 1 : Nat) : Int) ((y1 : Int) * 256) = ((pv4 y0 y1 y2 y3 2 : Nat) : Int) := by
    have := or_place 8 (pv4 y0 y1 y2 y3 1) y1 (by simp only [pv4]; omega) h1 (by omega)
    rw [show pv4 y0 y1 y2 y3 1 + y1 * 2 ^ 8 = pv4 y0 y1 y2 y3 2 by simp only [pv4]; try omega] at this
    rw [← this]
    simp
  have o2 : bits .or .i64 ((pv4 y0 y1 y2 y3 2 : Nat) : Int) ((y2 : Int) * 65536) = ((pv4 y0 y1 y2 y3 3 : Nat) : Int) := by
    have := or_place 16 (pv4 y0 y1 y2 y3 2) y2 (by simp only [pv4]; omega) h2 (by omega)
    rw [show pv4 y0 y1 y2 y3 2 + y2 * 2 ^ 16 = pv4 y0 y1 y2 y3 3 by simp only [pv4]; try omega] at this
    rw [← this]
    simp
  have o3 : bits .or .i64 ((pv4 y0 y1 y2 y3 3 : Nat) : Int) ((y3 : Int) * 16777216) = ((pv4 y0 y1 y2 y3 4 : Nat) : Int) := by
    have := or_place 24 (pv4 y0 y1 y2 y3 3) y3 (by simp only [pv4]; omega) h3 (by omega)
    rw [show pv4 y0 y1 y2 y3 3 + y3 * 2 ^ 24 = pv4 y0 y1 y2 y3 4 by simp only [pv4]; try omega] at this
    rw [← this]
    simp
  have hP : pv4 y0 y1 y2 y3 4 < 4294967296 := by simp only [pv4]; omega
  obtain ⟨p0, hp0⟩ : ∃ p, pv4 y0 y1 y2 y3 0 = p := ⟨_, rfl⟩
  obtain ⟨p1, hp1⟩ : ∃ p, pv4 y0 y1 y2 y3 1 = p := ⟨_, rfl⟩
  obtain ⟨p2, hp2⟩ : ∃ p, pv4 y0 y1 y2 y3 2 = p := ⟨_, rfl⟩
  obtain ⟨p3, hp3⟩ : ∃ p, pv4 y0 y1 y2 y3 3 = p := ⟨_, rfl⟩
  obtain ⟨p4, hp4⟩ : ∃ p, pv4 y0 y1 y2 y3 4 = p := ⟨_, rfl⟩
  rw [hp0, hp1] at o0
  rw [hp1, hp2] at o1
  rw [hp2, hp3] at o2
  rw [hp3, hp4] at o3
  rw [hp4] at hP ⊢
  clear hl hs hp hp1 hp2 hp3 hp4
  have hp0' : p0 = 0 := by rw [← hp0]; rfl
  subst hp0'
  clear hp0
  rw [show ((0 : Nat) : Int) = 0 from rfl] at o0
  go_enter Try.func12, Try.ntmps12
  go_wp2
  go_loop [5, 42] (fun v i => (i = .int .i64 0 ∧ v = .int .i64 0) ∨ (i = .int .i64 1 ∧ v = .int .i64 (p1 : Int)) ∨ (i = .int .i64 2 ∧ v = .int .i64 (p2 : Int)) ∨ (i = .int .i64 3 ∧ v = .int .i64 (p3 : Int)) ∨ (i = .int .i64 4 ∧ v = .int .i64 (p4 : Int))) (fun _ i => 4 - (intOf i).toNat)
  case atStart => exact .inl ⟨rfl, rfl⟩
  case round =>
    rcases hrel with ⟨rfl, rfl⟩ | ⟨rfl, rfl⟩ | ⟨rfl, rfl⟩ | ⟨rfl, rfl⟩ | ⟨rfl, rfl⟩
    · go_wp2
      go_round
      case rel => simp
      case measure => simp [intOf]
    · go_wp2
      go_round
      case rel => simp
      case measure => simp [intOf]
    · go_wp2
      go_round
      case rel => simp
      case measure => simp [intOf]
    · go_wp2
      go_round
      case rel => simp
      case measure => simp [intOf]
    · go_wp2
      go_ret2
      exact ⟨rfl, rfl⟩
set_option maxRecDepth 100000 in
set_option maxHeartbeats 1000000 in
theorem dec4_B0 (b off c y0 y1 y2 y3 : Nat) (h0 : y0 < 256) (h1 : y1 < 256) (h2 : y2 < 256) (h3 : y3 < 256) (w : World) (c0 : w.cell? ⟨b, off, none⟩ = some (.int .u8 (y0 : Int))) (c1 : w.cell? ⟨b, off + 1, none⟩ = some (.int .u8 (y1 : Int))) (c2 : w.cell? ⟨b, off + 2, none⟩ = some (.int .u8 (y2 : Int))) (c3 : w.cell? ⟨b, off + 3, none⟩ = some (.int .u8 (y3 : Int))) (hl : y3 % 128 ≠ 0) (hs : y3 < 128) : Calls Try.prog 12 #[.slice (some ⟨b, off, none⟩) 4 c] w fun e w' => e = .returned (.tuple #[.int .i64 ((pv4 y0 y1 y2 y3 4 : Nat) : Int), .int .i64 0]) ∧ w = w' := by
  have e1 := andNot_bits y3 h3
  obtain ⟨z, hz⟩ : ∃ z, y3 % 128 = z := ⟨_, rfl⟩
  rw [hz] at e1
  have hzb : ((z : Int) == 0) = false := by simp; omega
  have hzn : (z : Int) ≠ 0 := by omega
  have e4 := and128n_lo y3 hs
  have o0 : bits .or .i64 ((pv4 y0 y1 y2 y3 0 : Nat) : Int) ((y0 : Int)) = ((pv4 y0 y1 y2 y3 1 : Nat) : Int) := by
    have := or_place 0 (pv4 y0 y1 y2 y3 0) y0 (by simp only [pv4]; omega) h0 (by omega)
    rw [show pv4 y0 y1 y2 y3 0 + y0 * 2 ^ 0 = pv4 y0 y1 y2 y3 1 by simp only [pv4]; try omega] at this
    rw [← this]
    simp
  have o1 : bits .or .i64 ((pv4 y0 y1 y2 y3 1 : Nat) : Int) ((y1 : Int) * 256) = ((pv4 y0 y1 y2 y3 2 : Nat) : Int) := by
    have := or_place 8 (pv4 y0 y1 y2 y3 1) y1 (by simp only [pv4]; omega) h1 (by omega)
    rw [show pv4 y0 y1 y2 y3 1 + y1 * 2 ^ 8 = pv4 y0 y1 y2 y3 2 by simp only [pv4]; try omega] at this
    rw [← this]
    simp
  have o2 : bits .or .i64 ((pv4 y0 y1 y2 y3 2 : Nat) : Int) ((y2 : Int) * 65536) = ((pv4 y0 y1 y2 y3 3 : Nat) : Int) := by
    have := or_place 16 (pv4 y0 y1 y2 y3 2) y2 (by simp only [pv4]; omega) h2 (by omega)
    rw [show pv4 y0 y1 y2 y3 2 + y2 * 2 ^ 16 = pv4 y0 y1 y2 y3 3 by simp only [pv4]; try omega] at this
    rw [← this]
    simp
  have o3 : bits .or .i64 ((pv4 y0 y1 y2 y3 3 : Nat) : Int) ((y3 : Int) * 16777216) = ((pv4 y0 y1 y2 y3 4 : Nat) : Int) := by
    have := or_place 24 (pv4 y0 y1 y2 y3 3) y3 (by simp only [pv4]; omega) h3 (by omega)
    rw [show pv4 y0 y1 y2 y3 3 + y3 * 2 ^ 24 = pv4 y0 y1 y2 y3 4 by simp only [pv4]; try omega] at this
    rw [← this]
    simp
  have hP : pv4 y0 y1 y2 y3 4 < 4294967296 := by simp only [pv4]; omega
  obtain ⟨p0, hp0⟩ : ∃ p, pv4 y0 y1 y2 y3 0 = p := ⟨_, rfl⟩
  obtain ⟨p1, hp1⟩ : ∃ p, pv4 y0 y1 y2 y3 1 = p := ⟨_, rfl⟩
  obtain ⟨p2, hp2⟩ : ∃ p, pv4 y0 y1 y2 y3 2 = p := ⟨_, rfl⟩
  obtain ⟨p3, hp3⟩ : ∃ p, pv4 y0 y1 y2 y3 3 = p := ⟨_, rfl⟩
  obtain ⟨p4, hp4⟩ : ∃ p, pv4 y0 y1 y2 y3 4 = p := ⟨_, rfl⟩
  rw [hp0, hp1] at o0
  rw [hp1, hp2] at o1
  rw [hp2, hp3] at o2
  rw [hp3, hp4] at o3
  rw [hp4] at hP ⊢
  clear hl hs hz hp1 hp2 hp3 hp4
  have hp0' : p0 = 0 := by rw [← hp0]; rfl
  subst hp0'
  clear hp0
  rw [show ((0 : Nat) : Int) = 0 from rfl] at o0
  go_enter Try.func12, Try.ntmps12
  go_wp2
  go_loop [5, 42] (fun v i => (i = .int .i64 0 ∧ v = .int .i64 0) ∨ (i = .int .i64 1 ∧ v = .int .i64 (p1 : Int)) ∨ (i = .int .i64 2 ∧ v = .int .i64 (p2 : Int)) ∨ (i = .int .i64 3 ∧ v = .int .i64 (p3 : Int)) ∨ (i = .int .i64 4 ∧ v = .int .i64 (p4 : Int))) (fun _ i => 4 - (intOf i).toNat)
  case atStart => exact .inl ⟨rfl, rfl⟩
  case round =>
    rcases hrel with ⟨rfl, rfl⟩ | ⟨rfl, rfl⟩ | ⟨rfl, rfl⟩ | ⟨rfl, rfl⟩ | ⟨rfl, rfl⟩
    · go_wp2
      go_round
      case rel => simp
      case measure => simp [intOf]
    · go_wp2
      go_round
      case rel => simp
      case measure => simp [intOf]
    · go_wp2
      go_round
      case rel => simp
      case measure => simp [intOf]
    · go_wp2
      go_round
      case rel => simp
      case measure => simp [intOf]
    · go_wp2
      go_ret2
      exact ⟨rfl, rfl⟩
set_option maxRecDepth 100000 in
set_option maxHeartbeats 1000000 in
theorem dec4_B1 (b off c y0 y1 y2 y3 : Nat) (h0 : y0 < 256) (h1 : y1 < 256) (h2 : y2 < 256) (h3 : y3 < 256) (w : World) (c0 : w.cell? ⟨b, off, none⟩ = some (.int .u8 (y0 : Int))) (c1 : w.cell? ⟨b, off + 1, none⟩ = some (.int .u8 (y1 : Int))) (c2 : w.cell? ⟨b, off + 2, none⟩ = some (.int .u8 (y2 : Int))) (c3 : w.cell? ⟨b, off + 3, none⟩ = some (.int .u8 (y3 : Int))) (hl : y3 % 128 ≠ 0) (hs : 128 ≤ y3) : Calls Try.prog 12 #[.slice (some ⟨b, off, none⟩) 4 c] w fun e w' => e = .returned (.tuple #[.int .i64 (-(((pv4 y0 y1 y2 y3 4 : Nat) : Int) - 2147483648)), .int .i64 0]) ∧ w = w' := by
  have e1 := andNot_bits y3 h3
  obtain ⟨z, hz⟩ : ∃ z, y3 % 128 = z := ⟨_, rfl⟩
  rw [hz] at e1
  have hzb : ((z : Int) == 0) = false := by simp; omega
  have hzn : (z : Int) ≠ 0 := by omega
  have e4 := and128n_hi y3 h3 hs
  have o0 : bits .or .i64 ((pv4 y0 y1 y2 y3 0 : Nat) : Int) ((y0 : Int)) = ((pv4 y0 y1 y2 y3 1 : Nat) : Int) := by
    have := or_place 0 (pv4 y0 y1 y2 y3 0) y0 (by simp only [pv4]; omega) h0 (by omega)
    rw [show pv4 y0 y1 y2 y3 0 + y0 * 2 ^ 0 = pv4 y0 y1 y2 y3 1 by simp only [pv4]; try omega] at this
    rw [← this]
    simp
  have o1 : bits .or .i64 ((pv4 y0 y1 y2 y3 1 : Nat) : Int) ((y1 : Int) * 256) = ((pv4 y0 y1 y2 y3 2 : Nat) : Int) := by
    have := or_place 8 (pv4 y0 y1 y2 y3 1) y1 (by simp only [pv4]; omega) h1 (by omega)
    rw [show pv4 y0 y1 y2 y3 1 + y1 * 2 ^ 8 = pv4 y0 y1 y2 y3 2 by simp only [pv4]; try omega] at this
    rw [← this]
    simp
  have o2 : bits .or .i64 ((pv4 y0 y1 y2 y3 2 : Nat) : Int) ((y2 : Int) * 65536) = ((pv4 y0 y1 y2 y3 3 : Nat) : Int) := by
    have := or_place 16 (pv4 y0 y1 y2 y3 2) y2 (by simp only [pv4]; omega) h2 (by omega)
    rw [show pv4 y0 y1 y2 y3 2 + y2 * 2 ^ 16 = pv4 y0 y1 y2 y3 3 by simp only [pv4]; try omega] at this
    rw [← this]
    simp
  have o3 : bits .or .i64 ((pv4 y0 y1 y2 y3 3 : Nat) : Int) ((y3 : Int) * 16777216) = ((pv4 y0 y1 y2 y3 4 : Nat) : Int) := by
    have := or_place 24 (pv4 y0 y1 y2 y3 3) y3 (by simp only [pv4]; omega) h3 (by omega)
    rw [show pv4 y0 y1 y2 y3 3 + y3 * 2 ^ 24 = pv4 y0 y1 y2 y3 4 by simp only [pv4]; try omega] at this
    rw [← this]
    simp
  have hP : pv4 y0 y1 y2 y3 4 < 4294967296 := by simp only [pv4]; omega
  obtain ⟨p0, hp0⟩ : ∃ p, pv4 y0 y1 y2 y3 0 = p := ⟨_, rfl⟩
  obtain ⟨p1, hp1⟩ : ∃ p, pv4 y0 y1 y2 y3 1 = p := ⟨_, rfl⟩
  obtain ⟨p2, hp2⟩ : ∃ p, pv4 y0 y1 y2 y3 2 = p := ⟨_, rfl⟩
  obtain ⟨p3, hp3⟩ : ∃ p, pv4 y0 y1 y2 y3 3 = p := ⟨_, rfl⟩
  obtain ⟨p4, hp4⟩ : ∃ p, pv4 y0 y1 y2 y3 4 = p := ⟨_, rfl⟩
  rw [hp0, hp1] at o0
  rw [hp1, hp2] at o1
  rw [hp2, hp3] at o2
  rw [hp3, hp4] at o3
  rw [hp4] at hP ⊢
  clear hl hs hz hp1 hp2 hp3 hp4
  have hp0' : p0 = 0 := by rw [← hp0]; rfl
  subst hp0'
  clear hp0
  rw [show ((0 : Nat) : Int) = 0 from rfl] at o0
  go_enter Try.func12, Try.ntmps12
  go_wp2
  go_loop [5, 42] (fun v i => (i = .int .i64 0 ∧ v = .int .i64 0) ∨ (i = .int .i64 1 ∧ v = .int .i64 (p1 : Int)) ∨ (i = .int .i64 2 ∧ v = .int .i64 (p2 : Int)) ∨ (i = .int .i64 3 ∧ v = .int .i64 (p3 : Int)) ∨ (i = .int .i64 4 ∧ v = .int .i64 (p4 : Int))) (fun _ i => 4 - (intOf i).toNat)
  case atStart => exact .inl ⟨rfl, rfl⟩
  case round =>
    rcases hrel with ⟨rfl, rfl⟩ | ⟨rfl, rfl⟩ | ⟨rfl, rfl⟩ | ⟨rfl, rfl⟩ | ⟨rfl, rfl⟩
    · go_wp2
      go_round
      case rel => simp
      case measure => simp [intOf]
    · go_wp2
      go_round
      case rel => simp
      case measure => simp [intOf]
    · go_wp2
      go_round
      case rel => simp
      case measure => simp [intOf]
    · go_wp2
      go_round
      case rel => simp
      case measure => simp [intOf]
    · go_wp2
      go_ret2
      exact ⟨rfl, rfl⟩
end Go.Proofs.Ytbhopgklnddelaa
