/- CRC-32C as a rest by the polynomial, turned about. No condition. -/
import Derived.Test.YtagcdgfdflnphaaPlain
namespace Go.Proofs.Ytagcdgfdflnphaa

/-- The first k bits of a number, turned about. -/
def abO : Nat → Nat → Nat
  | 0, _ => 0
  | k + 1, n => 2 * abO k n + n / 2 ^ k % 2
def abt (n : Nat) : Nat := abO 32 n
def restN (r bit : Nat) : Nat :=
  let r1 := 2 * r + bit * 4294967296
  let r2 := if 8589934592 ≤ r1 then r1 - 8589934592 else r1
  if 4294967296 ≤ r2 then (r2 - 4294967296) ^^^ 517762881 else r2

theorem abO_lt (k n : Nat) : abO k n < 2 ^ k := by
  induction k with
  | zero => simp [abO]
  | succ k ih => unfold abO; rw [Nat.pow_succ]; have := Nat.mod_lt (n / 2 ^ k) (show 0 < 2 by decide); omega
theorem bit_zero (m b : Nat) (hb : b < 2) : (2 * m + b).testBit 0 = (b == 1) := by
  rw [Nat.testBit_zero]
  have : (2 * m + b) % 2 = b := by omega
  rw [this]
  have : b = 0 ∨ b = 1 := by omega
  rcases this with rfl | rfl <;> rfl
theorem bit_succ (m b i : Nat) (hb : b < 2) : (2 * m + b).testBit (i + 1) = m.testBit i := by
  rw [Nat.testBit_succ]
  have : (2 * m + b) / 2 = m := by omega
  rw [this]
theorem abO_bit (k n i : Nat) (hi : i < k) : (abO k n).testBit i = n.testBit (k - 1 - i) := by
  induction k generalizing i with
  | zero => omega
  | succ k ih =>
    unfold abO
    have hb := Nat.mod_lt (n / 2 ^ k) (show 0 < 2 by decide)
    cases i with
    | zero =>
      rw [bit_zero _ _ hb]
      show _ = n.testBit k
      rw [Nat.testBit_eq_decide_div_mod_eq]
      rfl
    | succ i =>
      rw [bit_succ _ _ _ hb, ih i (by omega)]
      congr 1
      omega
theorem abt_lt (n : Nat) : abt n < 4294967296 := abO_lt 32 n
theorem abt_bit (n i : Nat) (hi : i < 32) : (abt n).testBit i = n.testBit (31 - i) := abO_bit 32 n i hi
theorem big_bit {n i : Nat} (hn : n < 4294967296) (hi : 32 ≤ i) : n.testBit i = false :=
  Nat.testBit_lt_two_pow (Nat.lt_of_lt_of_le hn (Nat.pow_le_pow_right (n := 2) (by decide) hi))
theorem ext32 {a b : Nat} (ha : a < 4294967296) (hb : b < 4294967296) (h : ∀ i, i < 32 → a.testBit i = b.testBit i) : a = b := by
  apply Nat.eq_of_testBit_eq
  intro i
  by_cases hi : i < 32
  · exact h i hi
  · rw [big_bit ha (by omega), big_bit hb (by omega)]
theorem abt_xor (a b : Nat) : abt (a ^^^ b) = abt a ^^^ abt b := by
  refine ext32 (abt_lt _) (xor_lt32 (abt_lt _) (abt_lt _)) fun i hi => ?_
  rw [abt_bit _ _ hi, Nat.testBit_xor, Nat.testBit_xor, abt_bit _ _ hi, abt_bit _ _ hi]
theorem abt_abt (n : Nat) (hn : n < 4294967296) : abt (abt n) = n := by
  refine ext32 (abt_lt _) hn fun i hi => ?_
  rw [abt_bit _ _ hi, abt_bit _ _ (by omega)]
  congr 1
  omega
theorem abt_half (n : Nat) (hn : n < 4294967296) : abt (n / 2) = 2 * (abt n % 2147483648) := by
  have hA := abt_lt n
  refine ext32 (abt_lt _) (by omega) fun i hi => ?_
  rw [abt_bit _ _ hi]
  cases i with
  | zero =>
    have h0 := bit_zero (abt n % 2147483648) 0 (by decide)
    rw [Nat.add_zero] at h0
    rw [h0]
    show (n / 2).testBit 31 = false
    rw [← Nat.testBit_succ n 31]
    exact big_bit hn (by decide)
  | succ i =>
    have := bit_succ (abt n % 2147483648) 0 i (by decide)
    rw [Nat.add_zero] at this
    rw [this]
    have h2 : (abt n % 2147483648).testBit i = (abt n).testBit i := by
      have := Nat.testBit_mod_two_pow (abt n) 31 i
      rw [show (2147483648 : Nat) = 2 ^ 31 by decide, this]
      have : i < 31 := by omega
      simp [this]
    rw [h2, abt_bit _ _ (by omega)]
    have e : (n / 2).testBit (31 - (i + 1)) = n.testBit (31 - (i + 1) + 1) := (Nat.testBit_succ n _).symm
    rw [e]
    congr 1
    omega
theorem abt_top (n : Nat) : abt n / 2147483648 = n % 2 := by
  have hA := abt_lt n
  have h := abt_bit n 31 (by omega)
  rw [Nat.testBit_eq_decide_div_mod_eq, Nat.testBit_eq_decide_div_mod_eq] at h
  simp at h
  omega
theorem rest_low {r bit x : Nat} (hx : 2 * r + bit * 4294967296 = x) (h : x < 4294967296) : restN r bit = x := by
  unfold restN
  simp only [hx, if_neg (show ¬ 8589934592 ≤ x by omega), if_neg (show ¬ 4294967296 ≤ x by omega)]
theorem rest_mid {r bit x : Nat} (hx : 2 * r + bit * 4294967296 = x) (h : 4294967296 ≤ x) (h2 : x < 8589934592) : restN r bit = (x - 4294967296) ^^^ 517762881 := by
  unfold restN
  simp only [hx, if_neg (show ¬ 8589934592 ≤ x by omega), if_pos h]
theorem rest_high {r bit x : Nat} (hx : 2 * r + bit * 4294967296 = x) (h : 8589934592 ≤ x) (h2 : x < 12884901888) : restN r bit = x - 8589934592 := by
  unfold restN
  simp only [hx, if_pos h, if_neg (show ¬ 4294967296 ≤ x - 8589934592 by omega)]
theorem rest_abt (r bit : Nat) (hr : r < 4294967296) (hb : bit < 2) : restN (abt r) bit = abt (stp (r ^^^ bit)) := by
  have hA := abt_lt r
  have ht := abt_top r
  have hh := abt_half r hr
  have e1 : (r ^^^ bit) / 2 = r / 2 := by
    rw [half_xor, show bit / 2 = 0 by omega, Nat.xor_zero]
  have e2 : (r ^^^ bit) % 2 = (r % 2) ^^^ bit := by
    rw [mod2_xor, show bit % 2 = bit by omega]
  have e3 : stp (r ^^^ bit) = (r / 2) ^^^ (((r % 2) ^^^ bit) * 2197175160) := by unfold stp; rw [e1, e2]
  rw [e3, abt_xor, hh]
  have hbit : bit = 0 ∨ bit = 1 := by omega
  have hr2 : r % 2 = 0 ∨ r % 2 = 1 := by omega
  clear e1 e2 e3 hh hb hr
  generalize abt r = A at hA ht ⊢
  have h1 : abt (1 * 2197175160) = 517762881 := by decide +kernel
  have h0 : abt (0 * 2197175160) = 0 := by decide +kernel
  rcases hr2 with h2 | h2 <;> rcases hbit with rfl | rfl <;> rw [h2] at ht ⊢
  · rw [show (0 ^^^ 0 : Nat) = 0 from rfl, h0, Nat.xor_zero, rest_low rfl (by omega)]
    omega
  · rw [show (0 ^^^ 1 : Nat) = 1 from rfl, h1, rest_mid rfl (by omega) (by omega), show 2 * A + 1 * 4294967296 - 4294967296 = 2 * (A % 2147483648) by omega]
  · rw [show (1 ^^^ 0 : Nat) = 1 from rfl, h1, rest_mid rfl (by omega) (by omega), show 2 * A + 0 * 4294967296 - 4294967296 = 2 * (A % 2147483648) by omega]
  · rw [show (1 ^^^ 1 : Nat) = 0 from rfl, h0, Nat.xor_zero, rest_high rfl (by omega) (by omega)]
    omega

/-! A byte, bit by bit. -/
def stepsN : Nat → Nat → Nat → Nat
  | 0, r, _ => r
  | m + 1, r, b => stp (stepsN m r b ^^^ (b / 2 ^ m % 2))
theorem stepsN_lt (m r b : Nat) (hr : r < 4294967296) : stepsN m r b < 4294967296 := by
  induction m with
  | zero => exact hr
  | succ m ih => exact stp_lt (xor_lt32 ih (by have := Nat.mod_lt (b / 2 ^ m) (show 0 < 2 by decide); omega))
theorem stp_even (m : Nat) : stp (2 * m) = m := by
  unfold stp
  rw [show 2 * m / 2 = m by omega, show 2 * m % 2 = 0 by omega, Nat.zero_mul, Nat.xor_zero]
theorem split16 (r : Nat) : r = (16 * (r / 16)) ^^^ (r % 16) := by
  apply Nat.eq_of_testBit_eq
  intro i
  have h1 : (16 * (r / 16)).testBit i = (decide (4 ≤ i) && r.testBit i) := by
    rw [show (16 : Nat) = 2 ^ 4 by decide, Nat.testBit_two_pow_mul, Nat.testBit_div_two_pow]
    by_cases h : 4 ≤ i
    · simp [h]
    · simp [h]
  have h2 : (r % 16).testBit i = (decide (i < 4) && r.testBit i) := by
    rw [show (16 : Nat) = 2 ^ 4 by decide, Nat.testBit_mod_two_pow]
  rw [Nat.testBit_xor, h1, h2]
  by_cases h : i < 4
  · have : ¬ 4 ≤ i := by omega
    simp [h, this]
  · have : 4 ≤ i := by omega
    simp [h, this]
theorem tab_split (r : Nat) : tab r = (r / 16) ^^^ tab (r % 16) := by
  conv => lhs; rw [split16 r, tab_xor]
  congr 1
  unfold tab
  rw [show 16 * (r / 16) = 2 * (8 * (r / 16)) by omega, stp_even, show 8 * (r / 16) = 2 * (4 * (r / 16)) by omega, stp_even, show 4 * (r / 16) = 2 * (2 * (r / 16)) by omega, stp_even, stp_even]
theorem feed_tab (r h : Nat) : feed r h = tab r ^^^ tab h := by
  unfold feed
  rw [tab_xor, ← Nat.xor_assoc, ← tab_split]
def four (r a b c d : Nat) : Nat := stp (stp (stp (stp (r ^^^ a) ^^^ b) ^^^ c) ^^^ d)
theorem feed_four (r h : Nat) (hh : h < 16) : feed r h = four r (h % 2) (h / 2 % 2) (h / 4 % 2) (h / 8 % 2) := by
  have e : four r (h % 2) (h / 2 % 2) (h / 4 % 2) (h / 8 % 2) = tab r ^^^ four 0 (h % 2) (h / 2 % 2) (h / 4 % 2) (h / 8 % 2) := by
    unfold four tab
    rw [Nat.zero_xor]
    simp only [stp_xor, Nat.xor_assoc]
  rw [e, feed_tab]
  congr 1
  have : ∀ h : Fin 16, tab h.val = four 0 (h.val % 2) (h.val / 2 % 2) (h.val / 4 % 2) (h.val / 8 % 2) := by decide
  exact this ⟨h, hh⟩
theorem steps_byte (r b : Nat) : stepsN 8 r b = feed (feed r (b % 16)) (b / 16 % 16) := by
  rw [feed_four (feed r _) _ (Nat.mod_lt _ (by decide)), feed_four r _ (Nat.mod_lt _ (by decide))]
  unfold four
  simp only [stepsN]
  rw [show b / 2 ^ 0 % 2 = b % 16 % 2 by omega, show b / 2 ^ 1 % 2 = b % 16 / 2 % 2 by omega, show b / 2 ^ 2 % 2 = b % 16 / 4 % 2 by omega, show b / 2 ^ 3 % 2 = b % 16 / 8 % 2 by omega,
    show b / 2 ^ 4 % 2 = b / 16 % 16 % 2 by omega, show b / 2 ^ 5 % 2 = b / 16 % 16 / 2 % 2 by omega, show b / 2 ^ 6 % 2 = b / 16 % 16 / 4 % 2 by omega, show b / 2 ^ 7 % 2 = b / 16 % 16 / 8 % 2 by omega]
end Go.Proofs.Ytagcdgfdflnphaa
