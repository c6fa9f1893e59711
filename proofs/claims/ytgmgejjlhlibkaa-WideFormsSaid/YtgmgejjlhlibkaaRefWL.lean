/- The document's number of 64 digits. -/
import Derived.Test.YtgmgejjlhlibkaaRefWK
namespace Go.Proofs.Ytgmgejjlhlibkaa.Oct
set_option linter.unusedVariables false
open Go.Proofs.Ytgmgejjlhlibkaa Go.RowKit Go.Shelf

/-- The last of the first k digits that is c, or -1. -/
def nk (c : UInt8) : Nat → Int
  | 0 => -1
  | k + 1 => if dig k = c then (k : Int) else nk c k
theorem nk_all (c : UInt8) : nk c 16 = hexv c := by
  have h : ∀ i : Fin 256, nk (UInt8.ofNat i.val) 16 = hexv (UInt8.ofNat i.val) := by decide +kernel
  have h1 := h ⟨c.toNat, UInt8.toNat_lt c⟩
  simpa using h1
theorem nk_range (c : UInt8) (k : Nat) (hk : k ≤ 16) : -1 ≤ nk c k ∧ nk c k < 16 := by
  induction k with
  | zero => simp [nk]
  | succ k ih =>
    have h := ih (by omega)
    unfold nk
    split <;> omega
theorem nib_step (n d i : Nat) (hd : d < 16) : nib (16 * n + d) (i + 1) = nib n i := by
  unfold nib
  rw [Nat.pow_succ, Nat.mul_comm (16 ^ i) 16, ← Nat.div_div_eq_div_mul, show (16 * n + d) / 16 = n by omega]
theorem nib_first (n d : Nat) (hd : d < 16) : nib (16 * n + d) 0 = d := by
  unfold nib
  rw [Nat.pow_zero, Nat.div_one]
  omega
theorem nib_take (l : List UInt8) (m : Nat) (hm : m ≤ l.length) (i : Nat) (hi : i < m) : nib (hexN (l.take m)) i = (hexv (l[m - 1 - i]'(by omega))).toNat := by
  induction m generalizing i with
  | zero => omega
  | succ m ih =>
    have hr := hexv_range (l[m]'(by omega))
    rw [← List.take_append_getElem (by omega : m < l.length), hexN_snoc]
    rcases i with _ | i
    · rw [nib_first _ _ (by omega)]
      simp
    · rw [nib_step _ _ _ (by omega), ih (by omega) i (by omega)]
      congr 2
      congr 1
      omega
theorem nib_hexN (l : List UInt8) (hl : l.length = 64) (i : Nat) (hi : i < 64) : nib (hexN l) i = (hexv (l[63 - i]'(by omega))).toNat := by
  have h := nib_take l 64 (by omega) i hi
  rw [List.take_of_length_le (by omega)] at h
  exact h
theorem nib_bit (n i k : Nat) (hk : k < 4) : nib n i / 2 ^ k % 2 = bitOf n (4 * i + k) := by
  show bitOf (nib n i) k = _
  unfold nib
  rw [show (16 : Nat) ^ i = 2 ^ (4 * i) by rw [Nat.pow_mul], show (16 : Nat) = 2 ^ 4 from rfl, bitOf_mod _ _ _ hk, bitOf_shr, Nat.add_comm]
/-- The lowest m bits, the others 0. -/
def lo (n m p : Nat) : Nat := if p < m then bitOf n p else 0
theorem lo_set (n m : Nat) (hm : m < 256) : (fbits (lo n m)).setIfInBounds m (.int .i64 (bitOf n m : Int)) = fbits (lo n (m + 1)) := by
  rw [fbits_set _ _ _ hm]
  refine fbits_ext _ _ fun i hi => ?_
  unfold lo
  by_cases h : i = m
  · rw [if_pos h, if_pos (by omega), h]
  · rw [if_neg h]
    by_cases h2 : i < m
    · rw [if_pos h2, if_pos (by omega)]
    · rw [if_neg h2, if_neg (by omega)]
end Go.Proofs.Ytgmgejjlhlibkaa.Oct
