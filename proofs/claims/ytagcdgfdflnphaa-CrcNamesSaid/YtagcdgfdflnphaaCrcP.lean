/- CRC-32C as steps over a whole number: bits that are turned within 32 of it are found. No condition. -/
import Derived.Test.YtagcdgfdflnphaaCrcK
namespace Go.Proofs.Ytagcdgfdflnphaa.Oct
open Go.Proofs.Ytagcdgfdflnphaa

def stpN : Nat → Nat → Nat
  | 0, x => x
  | k + 1, x => stpN k (stp x)
theorem stpN_add (a b x : Nat) : stpN (a + b) x = stpN b (stpN a x) := by
  induction a generalizing x with
  | zero => simp [stpN]
  | succ a ih => rw [show a + 1 + b = (a + b) + 1 by omega]; simp only [stpN]; exact ih _
theorem stpN_xor (k a b : Nat) : stpN k (a ^^^ b) = stpN k a ^^^ stpN k b := by
  induction k generalizing a b with
  | zero => rfl
  | succ k ih => simp only [stpN]; rw [stp_xor, ih]
theorem stp_even (x : Nat) : stp (2 * x) = x := by
  unfold stp
  rw [show 2 * x / 2 = x by omega, show 2 * x % 2 = 0 by omega]
  simp
theorem stpN_shift (k x : Nat) : stpN k (x * 2 ^ k) = x := by
  induction k generalizing x with
  | zero => simp [stpN]
  | succ k ih =>
    simp only [stpN]
    rw [show x * 2 ^ (k + 1) = 2 * (x * 2 ^ k) by rw [Nat.pow_succ, ← Nat.mul_assoc, Nat.mul_comm], stp_even, ih]
theorem stpN_lt (k x : Nat) (h : x < 4294967296) : stpN k x < 4294967296 := by
  induction k generalizing x with
  | zero => exact h
  | succ k ih => exact ih _ (stp_lt h)
theorem xor_cancel {a b d : Nat} (h : a ^^^ b = a ^^^ d) : b = d := by
  have h1 : a ^^^ (a ^^^ b) = a ^^^ (a ^^^ d) := by rw [h]
  rwa [← Nat.xor_assoc, ← Nat.xor_assoc, Nat.xor_self, Nat.zero_xor, Nat.zero_xor] at h1
theorem xor_zero_iff {a b : Nat} : a ^^^ b = 0 ↔ a = b := by
  constructor
  · intro h
    have h1 : a ^^^ b = a ^^^ a := by rw [h, Nat.xor_self]
    exact (xor_cancel h1).symm
  · intro h
    rw [h, Nat.xor_self]
theorem stp_zero {x : Nat} (h : x < 4294967296) (h0 : stp x = 0) : x = 0 := by
  unfold stp at h0
  rw [xor_zero_iff] at h0
  have : x % 2 = 0 ∨ x % 2 = 1 := by omega
  rcases this with e | e
  · rw [e] at h0; omega
  · rw [e] at h0; omega
theorem stpN_zero (k x : Nat) (h : x < 4294967296) : stpN k x = 0 ↔ x = 0 := by
  induction k generalizing x with
  | zero => exact Iff.rfl
  | succ k ih =>
    simp only [stpN]
    rw [ih _ (stp_lt h)]
    constructor
    · exact stp_zero h
    · intro e; subst e; rfl
/-- Nothing of two numbers overlaps: their sum is their '^^^'. -/
theorem add_xor (a b k : Nat) (h : a < 2 ^ k) : a + b * 2 ^ k = a ^^^ (b * 2 ^ k) := by
  have h1 := Nat.shiftLeft_add_eq_or_of_lt h b
  rw [Nat.shiftLeft_eq] at h1
  rw [Nat.add_comm, h1, Nat.or_comm]
  apply Nat.eq_of_testBit_eq
  intro i
  rw [Nat.testBit_or, Nat.testBit_xor]
  by_cases hi : i < k
  · rw [Nat.testBit_mul_two_pow]
    simp [show ¬ k ≤ i by omega]
  · rw [Nat.testBit_lt_two_pow (Nat.lt_of_lt_of_le h (Nat.pow_le_pow_right (by decide) (by omega : k ≤ i)))]
    simp
theorem feed_stp (r h : Nat) (hh : h < 16) : feed r h = stpN 4 (r ^^^ h) := by
  have e : r ^^^ h = ((r % 16) ^^^ h) ^^^ (r / 16 * 2 ^ 4) := by
    have h1 := add_xor (r % 16) (r / 16) 4 (Nat.mod_lt _ (by decide))
    have h2 : r % 16 + r / 16 * 2 ^ 4 = r := by omega
    rw [h2] at h1
    conv => lhs; rw [h1]
    rw [Nat.xor_assoc, Nat.xor_comm (r / 16 * 2 ^ 4) h, ← Nat.xor_assoc]
  rw [e, stpN_xor, stpN_shift]
  unfold feed tab
  rw [Nat.xor_comm]
  rfl
theorem run_stp (bs : List UInt8) (r : Nat) : runH r (hv bs) = stpN (8 * bs.length) (r ^^^ leNum bs) := by
  induction bs generalizing r with
  | nil => simp [runH, hv, stpN, leNum]
  | cons b l ih =>
    have hb := UInt8.toNat_lt b
    have e1 : runH r (hv (b :: l)) = runH (feed (feed r (b.toNat % 16)) (b.toNat / 16 % 16)) (hv l) := rfl
    rw [e1, ih, feed_stp _ _ (Nat.mod_lt _ (by decide)), feed_stp _ _ (Nat.mod_lt _ (by decide))]
    rw [show 8 * (b :: l).length = 4 + (4 + 8 * l.length) by simp only [List.length_cons]; omega, stpN_add, stpN_add]
    congr 1
    simp only [leNum]
    have h2 : b.toNat + 256 * leNum l = (b.toNat % 16) ^^^ ((b.toNat / 16 % 16) * 2 ^ 4) ^^^ (leNum l * 2 ^ 8) := by
      rw [← add_xor (b.toNat % 16) (b.toNat / 16 % 16) 4 (Nat.mod_lt _ (by decide)), ← add_xor _ (leNum l) 8 (by simp only [Nat.reducePow]; omega)]
      simp only [Nat.reducePow]
      omega
    rw [h2, ← Nat.xor_assoc, ← Nat.xor_assoc]
    have hR : stpN 4 (r ^^^ b.toNat % 16 ^^^ b.toNat / 16 % 16 * 2 ^ 4 ^^^ leNum l * 2 ^ 8) = (stpN 4 (r ^^^ b.toNat % 16) ^^^ b.toNat / 16 % 16) ^^^ leNum l * 2 ^ 4 := by
      rw [stpN_xor 4 _ (leNum l * 2 ^ 8), stpN_xor 4 _ (b.toNat / 16 % 16 * 2 ^ 4), stpN_shift, show leNum l * 2 ^ 8 = (leNum l * 2 ^ 4) * 2 ^ 4 by rw [Nat.mul_assoc], stpN_shift]
    rw [hR, stpN_xor 4 _ (leNum l * 2 ^ 4), stpN_shift]
theorem compl_xor (x : Nat) (h : x < 4294967296) : 4294967295 - x = 4294967295 ^^^ x := by
  have h1 : 4294967295 ^^^ x = 2 ^ 32 - (x + 1) := by
    apply Nat.eq_of_testBit_eq
    intro i
    rw [Nat.testBit_xor, Nat.testBit_two_pow_sub_succ (show x < 2 ^ 32 by simpa using h), show (4294967295 : Nat) = 2 ^ 32 - 1 by decide, Nat.testBit_two_pow_sub_one]
    by_cases hi : i < 32
    · simp [hi]
    · rw [Nat.testBit_lt_two_pow (Nat.lt_of_lt_of_le (by simpa using h : x < 2 ^ 32) (Nat.pow_le_pow_right (by decide) (by omega : 32 ≤ i)))]
      simp [hi]
  rw [h1]
  omega
theorem onS_stp (bs : List UInt8) : onS 0 bs = 4294967295 ^^^ stpN (8 * bs.length) (4294967295 ^^^ leNum bs) := by
  have h := runH_lt (r := 4294967295) (by decide) (hv bs)
  show 4294967295 - runH (4294967295 - 0) (hv bs) = _
  rw [compl_xor _ h, run_stp]
theorem leNum_append (a b : List UInt8) : leNum (a ++ b) = leNum a + 256 ^ a.length * leNum b := by
  induction a with
  | nil => simp [leNum]
  | cons x a ih =>
    simp only [List.cons_append, leNum, ih, List.length_cons, Nat.pow_succ]
    rw [Nat.mul_add, Nat.add_assoc, ← Nat.mul_assoc, Nat.mul_comm 256 (256 ^ a.length)]
theorem leNum_cut (m : List UInt8) (n : Nat) (hn : n ≤ m.length) : leNum (m.take n) = leNum m % 256 ^ n ∧ leNum (m.drop n) = leNum m / 256 ^ n := by
  have h := leNum_append (m.take n) (m.drop n)
  rw [List.take_append_drop, List.length_take, Nat.min_eq_left hn] at h
  have hl := leNum_lt (m.take n)
  rw [List.length_take, Nat.min_eq_left hn] at hl
  rw [h]
  constructor
  · rw [Nat.add_mul_mod_self_left, Nat.mod_eq_of_lt hl]
  · rw [Nat.add_mul_div_left _ _ (Nat.pow_pos (by decide)), Nat.div_eq_of_lt hl, Nat.zero_add]
/-- Marked bytes are bare again. -/
theorem bare_mark (bs : List UInt8) : bareR (bs ++ leB 4 (onS 0 bs)) = (bs, 0) := by
  have hl : (bs ++ leB 4 (onS 0 bs)).length = bs.length + 4 := by rw [List.length_append, leB_length]
  unfold bareR
  rw [if_neg (by omega), hl, show bs.length + 4 - 4 = bs.length by omega, List.take_left, List.drop_left, leNum_leB 4 _ (by simpa using onS_lt 0 bs), if_pos rfl]
/-- Marked bytes whose number was turned within 32 bits. -/
theorem bare_turned (bs ys : List UInt8) (t from_ : Nat) (ht : t < 4294967296) (hf : from_ ≤ 8 * bs.length) (hyl : ys.length = bs.length + 4) (hy : leNum ys = leNum (bs ++ leB 4 (onS 0 bs)) ^^^ (t * 2 ^ from_)) : (bareR ys).2 = 0 ↔ t = 0 := by
  obtain ⟨n, hn⟩ : ∃ n, bs.length = n := ⟨_, rfl⟩
  obtain ⟨T, hT⟩ : ∃ T, t * 2 ^ from_ = T := ⟨_, rfl⟩
  obtain ⟨c1, c2⟩ := leNum_cut ys n (by omega)
  have hm : leNum (bs ++ leB 4 (onS 0 bs)) = leNum bs + 256 ^ n * onS 0 bs := by rw [leNum_append, hn, leNum_leB 4 _ (by simpa using onS_lt 0 bs)]
  have hbl := leNum_lt bs
  rw [hn] at hbl hf
  have p256 : 256 ^ n = 2 ^ (8 * n) := by rw [show (256 : Nat) = 2 ^ 8 by decide, ← Nat.pow_mul]
  rw [hT, hm] at hy
  rw [p256] at c1 c2 hbl hy
  rw [hy] at c1 c2
  have hmod : (leNum bs + 2 ^ (8 * n) * onS 0 bs) % 2 ^ (8 * n) = leNum bs := by rw [Nat.add_mul_mod_self_left, Nat.mod_eq_of_lt hbl]
  have hdiv : (leNum bs + 2 ^ (8 * n) * onS 0 bs) / 2 ^ (8 * n) = onS 0 bs := by rw [Nat.add_mul_div_left _ _ (Nat.pow_pos (by decide)), Nat.div_eq_of_lt hbl, Nat.zero_add]
  rw [Nat.xor_mod_two_pow, hmod] at c1
  rw [Nat.xor_div_two_pow, hdiv] at c2
  have hbare : (bareR ys).2 = 0 ↔ leNum (ys.drop n) = onS 0 (ys.take n) := by
    unfold bareR
    rw [if_neg (by omega), show ys.length - 4 = n by omega]
    split
    · rename_i h; simp [h]
    · rename_i h; simp [h]
  rw [hbare, onS_stp (ys.take n), List.length_take, Nat.min_eq_left (by omega), c1, c2, onS_stp bs, hn]
  have hsplit : stpN (8 * n) T = stpN (8 * n) (T % 2 ^ (8 * n)) ^^^ (T / 2 ^ (8 * n)) := by
    conv => lhs; rw [show T = T % 2 ^ (8 * n) ^^^ (T / 2 ^ (8 * n) * 2 ^ (8 * n)) by rw [← add_xor _ _ _ (Nat.mod_lt _ (Nat.pow_pos (by decide)))]; exact (Nat.mod_add_div' T (2 ^ (8 * n))).symm]
    rw [stpN_xor, stpN_shift]
  have hT2 : stpN (8 * n) T = stpN (8 * n - from_) t := by
    rw [← hT, show 8 * n = from_ + (8 * n - from_) by omega, stpN_add, stpN_shift]
    congr 1
    omega
  rw [← Nat.xor_assoc 4294967295, stpN_xor _ (4294967295 ^^^ leNum bs)]
  have key : stpN (8 * n) (4294967295 ^^^ leNum bs) = stpN (8 * n) (4294967295 ^^^ leNum bs) := rfl
  rw [← stpN_zero (8 * n - from_) t ht, ← hT2, hsplit, xor_zero_iff]
  generalize stpN (8 * n) (4294967295 ^^^ leNum bs) = a
  generalize stpN (8 * n) (T % 2 ^ (8 * n)) = b
  generalize T / 2 ^ (8 * n) = d
  rw [← Nat.xor_assoc]
  constructor
  · intro h
    exact (xor_cancel h).symm
  · intro h
    rw [h]
end Go.Proofs.Ytagcdgfdflnphaa.Oct
