/- The contracts of octet.number, announced, and of an eye's none. No condition. -/
import Derived.Test.YtkecldmjjhhlgaaOctE
namespace Go.Proofs.Ytkecldmjjhhlgaa.Oct
open Go.Proofs.Ytkecldmjjhhlgaa Go.RowKit Go.Shelf

/-- Bytes, the lowest first, as a number. -/
def leNum : List UInt8 → Nat
  | [] => 0
  | x :: l => x.toNat + 256 * leNum l
theorem leNum_snoc (l : List UInt8) (x : UInt8) : leNum (l ++ [x]) = leNum l + x.toNat * 256 ^ l.length := by
  induction l with
  | nil => simp [leNum]
  | cons y l ih =>
    simp only [List.cons_append, leNum, ih, List.length_cons, Nat.pow_succ]
    rw [Nat.mul_add, Nat.add_assoc]
    congr 2
    rw [Nat.mul_left_comm, Nat.mul_comm 256]
theorem leNum_lt (l : List UInt8) : leNum l < 256 ^ l.length := by
  induction l with
  | nil => simp [leNum]
  | cons y l ih =>
    have := UInt8.toNat_lt y
    simp only [leNum, List.length_cons, Nat.pow_succ]
    omega
theorem leNum_leB (s n : Nat) (h : n < 256 ^ s) : leNum (leB s n) = n := by
  induction s generalizing n with
  | zero => simp at h; subst h; rfl
  | succ s ih =>
    rw [Nat.pow_succ, Nat.mul_comm] at h
    simp only [leB, leNum]
    rw [ih (n / 256) (Nat.div_lt_of_lt_mul h), UInt8.toNat_ofNat']
    omega
theorem leB_leNum (l : List UInt8) : leB l.length (leNum l) = l := by
  induction l with
  | nil => rfl
  | cons y l ih =>
    have := UInt8.toNat_lt y
    simp only [List.length_cons, leB, leNum]
    rw [show (y.toNat + 256 * leNum l) / 256 = leNum l by omega, ih, show (y.toNat + 256 * leNum l) % 256 = y.toNat by omega]
    simp
theorem or_shift (k s x : Nat) (hk : k < 8) (hs : s < 256 ^ k) (hx : x < 256) : bits .or .u64 (s : Int) (IntKind.u64.wrap ((x : Int) * 2 ^ (8 * k))) = ((s + x * 256 ^ k : Nat) : Int) := by
  have e256 : 256 ^ k = 2 ^ (8 * k) := by rw [show (256 : Nat) = 2 ^ 8 by decide, ← Nat.pow_mul]
  rw [e256] at hs ⊢
  have hpl : 2 ^ (8 * k) * 256 ≤ 18446744073709551616 := by
    rw [show 2 ^ (8 * k) * 256 = 2 ^ (8 * k + 8) by rw [Nat.pow_add], show 18446744073709551616 = 2 ^ 64 by decide]
    exact Nat.pow_le_pow_right (by decide) (by omega)
  obtain ⟨p, hp⟩ : ∃ p, 2 ^ (8 * k) = p := ⟨_, rfl⟩
  have hxp : x * p < 18446744073709551616 := by
    rw [hp] at hpl
    have : x * p ≤ 255 * p := Nat.mul_le_mul_right _ (by omega)
    have hp0 : 0 < p := by rw [← hp]; exact Nat.pow_pos (by decide)
    omega
  have e1 : (x : Int) * 2 ^ (8 * k) = ((x * p : Nat) : Int) := by rw [← hp]; simp
  have hs64 : s < 18446744073709551616 := by rw [hp] at hs hpl; omega
  rw [e1, show IntKind.u64.wrap ((x * p : Nat) : Int) = ((x * p : Nat) : Int) by simp [IntKind.wrap, IntKind.bits, IntKind.signed]; omega, u64_or_nat s (x * p) hs64 hxp]
  congr 1
  have h2 := Nat.shiftLeft_add_eq_or_of_lt hs x
  rw [Nat.shiftLeft_eq] at h2
  rw [Nat.or_comm, ← hp, ← h2, Nat.add_comm]
def annL (x : UInt8) : Nat := if x.toNat = 253 then 3 else if x.toNat = 254 then 5 else if x.toNat = 255 then 9 else 1
end Go.Proofs.Ytkecldmjjhhlgaa.Oct
