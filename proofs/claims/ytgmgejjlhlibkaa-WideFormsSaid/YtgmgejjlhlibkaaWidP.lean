/- Plain facts on numbers of 256 bits: shifts word by word, bit lengths, long division. No condition. -/
import Derived.Test.YtgmgejjlhlibkaaPlain
namespace Go.Proofs.Ytgmgejjlhlibkaa
set_option linter.unusedVariables false

/-- A word times a power of two: what stays, what goes over. -/
theorem mul_word (a P Q : Nat) (hPQ : P * Q = 18446744073709551616) (hP : 0 < P) : a * P = a * P % 18446744073709551616 + 18446744073709551616 * (a / Q) := by
  have h : a * P / 18446744073709551616 = a / Q := by
    rw [← hPQ, Nat.mul_comm a P, Nat.mul_div_mul_left _ _ hP]
  rw [← h]
  omega
theorem left_part (a0 a1 a2 a3 P Q : Nat) (hPQ : P * Q = 18446744073709551616) (hP : 0 < P) :
    num4 a0 a1 a2 a3 * P = num4 (a0 * P % 18446744073709551616) (a1 * P % 18446744073709551616 + a0 / Q) (a2 * P % 18446744073709551616 + a1 / Q) (a3 * P % 18446744073709551616 + a2 / Q) + top * (a3 / Q) := by
  rw [Nat.mul_comm, num4_mul, Nat.mul_comm P a0, Nat.mul_comm P a1, Nat.mul_comm P a2, Nat.mul_comm P a3]
  have h0 := mul_word a0 P Q hPQ hP
  have h1 := mul_word a1 P Q hPQ hP
  have h2 := mul_word a2 P Q hPQ hP
  have h3 := mul_word a3 P Q hPQ hP
  generalize a0 * P = x0 at *
  generalize a1 * P = x1 at *
  generalize a2 * P = x2 at *
  generalize a3 * P = x3 at *
  generalize a0 / Q = y0 at *
  generalize a1 / Q = y1 at *
  generalize a2 / Q = y2 at *
  generalize a3 / Q = y3 at *
  unfold num4 top
  omega
/-- The two parts of a shifted word don't meet. -/
theorem or_add (p x y : Nat) (hy : y < 2 ^ p) : x * 2 ^ p ||| y = x * 2 ^ p + y := by
  rw [Nat.mul_comm]
  exact (Nat.two_pow_add_eq_or_of_lt hy x).symm
theorem mod_mul_pow (a p : Nat) (hp : p ≤ 64) : a * 2 ^ p % 18446744073709551616 = (a % 2 ^ (64 - p)) * 2 ^ p := by
  have h : (18446744073709551616 : Nat) = 2 ^ p * 2 ^ (64 - p) := by rw [← Nat.pow_add, show p + (64 - p) = 64 by omega]
  rw [h, Nat.mul_comm a, Nat.mul_mod_mul_left, Nat.mul_comm]
theorem or_left (a b p : Nat) (hp : p ≤ 64) (hb : word b) : (a * 2 ^ p % 18446744073709551616) ||| (b / 2 ^ (64 - p)) = a * 2 ^ p % 18446744073709551616 + b / 2 ^ (64 - p) := by
  rw [mod_mul_pow a p hp]
  refine or_add p _ _ ?_
  rw [Nat.div_lt_iff_lt_mul (Nat.two_pow_pos _), ← Nat.pow_add, show p + (64 - p) = 64 by omega]
  exact hb
theorem or_right (a b p : Nat) (hp : p ≤ 64) (ha : word a) : (a / 2 ^ p) ||| (b * 2 ^ (64 - p) % 18446744073709551616) = a / 2 ^ p + b * 2 ^ (64 - p) % 18446744073709551616 := by
  rw [Nat.or_comm, Nat.add_comm]
  have h := or_left b a (64 - p) (by omega) ha
  rwa [show 64 - (64 - p) = p by omega] at h
theorem word_left (a b p : Nat) (hp : p ≤ 64) (hb : word b) : word (a * 2 ^ p % 18446744073709551616 + b / 2 ^ (64 - p)) := by
  rw [← or_left a b p hp hb]
  unfold word
  refine Nat.or_lt_two_pow (n := 64) (by omega) ?_
  exact Nat.lt_of_le_of_lt (Nat.div_le_self _ _) hb
theorem word_right (a b p : Nat) (hp : p ≤ 64) (ha : word a) : word (a / 2 ^ p + b * 2 ^ (64 - p) % 18446744073709551616) := by
  rw [← or_right a b p hp ha]
  unfold word
  refine Nat.or_lt_two_pow (n := 64) ?_ (by omega)
  exact Nat.lt_of_le_of_lt (Nat.div_le_self _ _) ha

theorem pow_split (p : Nat) (hp : p ≤ 64) : 2 ^ p * 2 ^ (64 - p) = 18446744073709551616 := by
  rw [← Nat.pow_add, show p + (64 - p) = 64 by omega]

theorem left_num (a0 a1 a2 a3 p k : Nat) (hp : p ≤ 64) (h0 : word a0) (h1 : word a1) (h2 : word a2) (h3 : word a3) (hk : k < 4) :
    num4 a0 a1 a2 a3 * 2 ^ (64 * k + p) % top =
      if k = 0 then num4 (a0 * 2 ^ p % 18446744073709551616) (a1 * 2 ^ p % 18446744073709551616 + a0 / 2 ^ (64 - p)) (a2 * 2 ^ p % 18446744073709551616 + a1 / 2 ^ (64 - p)) (a3 * 2 ^ p % 18446744073709551616 + a2 / 2 ^ (64 - p))
      else if k = 1 then num4 0 (a0 * 2 ^ p % 18446744073709551616) (a1 * 2 ^ p % 18446744073709551616 + a0 / 2 ^ (64 - p)) (a2 * 2 ^ p % 18446744073709551616 + a1 / 2 ^ (64 - p))
      else if k = 2 then num4 0 0 (a0 * 2 ^ p % 18446744073709551616) (a1 * 2 ^ p % 18446744073709551616 + a0 / 2 ^ (64 - p))
      else num4 0 0 0 (a0 * 2 ^ p % 18446744073709551616) := by
  have e := left_part a0 a1 a2 a3 (2 ^ p) (2 ^ (64 - p)) (pow_split p hp) (Nat.two_pow_pos p)
  have k1 := word_left a1 a0 p hp h0
  have k2 := word_left a2 a1 p hp h1
  have k3 := word_left a3 a2 p hp h2
  have k0 : word (a0 * 2 ^ p % 18446744073709551616) := by unfold word; omega
  rw [Nat.pow_add, Nat.mul_comm (2 ^ (64 * k)), ← Nat.mul_assoc, e]
  generalize a0 * 2 ^ p % 18446744073709551616 = x0 at *
  generalize a1 * 2 ^ p % 18446744073709551616 + a0 / 2 ^ (64 - p) = x1 at *
  generalize a2 * 2 ^ p % 18446744073709551616 + a1 / 2 ^ (64 - p) = x2 at *
  generalize a3 * 2 ^ p % 18446744073709551616 + a2 / 2 ^ (64 - p) = x3 at *
  generalize a3 / 2 ^ (64 - p) = y at *
  clear e h0 h1 h2 h3
  unfold num4 top word at *
  have : k = 0 ∨ k = 1 ∨ k = 2 ∨ k = 3 := by omega
  rcases this with rfl | rfl | rfl | rfl
  · simp only [Nat.mul_zero, Nat.pow_zero, Nat.mul_one, if_true]; omega
  · simp only [show (2 : Nat) ^ (64 * 1) = 18446744073709551616 by decide, if_true, show (1 : Nat) ≠ 0 by decide, if_false]; omega
  · simp only [show (2 : Nat) ^ (64 * 2) = 340282366920938463463374607431768211456 by decide, if_true, show (2 : Nat) ≠ 0 by decide, show (2 : Nat) ≠ 1 by decide, if_false]; omega
  · simp only [show (2 : Nat) ^ (64 * 3) = 6277101735386680763835789423207666416102355444464034512896 by decide, show (3 : Nat) ≠ 0 by decide, show (3 : Nat) ≠ 1 by decide, show (3 : Nat) ≠ 2 by decide, if_false]; omega

theorem right_word (a b P Q : Nat) (hPQ : P * Q = 18446744073709551616) (hQ : 0 < Q) : P * (a / P + b * Q % 18446744073709551616) + a % P = a + 18446744073709551616 * (b % P) := by
  have h1 : b * Q % 18446744073709551616 = (b % P) * Q := by rw [← hPQ, Nat.mul_mod_mul_right]
  have h2 : P * ((b % P) * Q) = 18446744073709551616 * (b % P) := by rw [← hPQ, Nat.mul_comm (b % P) Q, ← Nat.mul_assoc]
  have h3 := Nat.div_add_mod a P
  rw [h1, Nat.mul_add, h2]
  omega
theorem right_part (a0 a1 a2 a3 P Q : Nat) (hPQ : P * Q = 18446744073709551616) (hP : 0 < P) (hQ : 0 < Q) :
    num4 a0 a1 a2 a3 / P = num4 (a0 / P + a1 * Q % 18446744073709551616) (a1 / P + a2 * Q % 18446744073709551616) (a2 / P + a3 * Q % 18446744073709551616) (a3 / P) := by
  have h0 := right_word a0 a1 P Q hPQ hQ
  have h1 := right_word a1 a2 P Q hPQ hQ
  have h2 := right_word a2 a3 P Q hPQ hQ
  have h3 := Nat.div_add_mod a3 P
  have hl := Nat.mod_lt a0 hP
  generalize a0 / P + a1 * Q % 18446744073709551616 = x0 at *
  generalize a1 / P + a2 * Q % 18446744073709551616 = x1 at *
  generalize a2 / P + a3 * Q % 18446744073709551616 = x2 at *
  generalize a3 / P = x3 at *
  have e : num4 a0 a1 a2 a3 = P * num4 x0 x1 x2 x3 + a0 % P := by
    rw [num4_mul]
    generalize P * x0 = y0 at *
    generalize P * x1 = y1 at *
    generalize P * x2 = y2 at *
    generalize P * x3 = y3 at *
    unfold num4
    omega
  rw [e, Nat.mul_add_div hP, Nat.div_eq_of_lt hl, Nat.add_zero]
theorem right_num (a0 a1 a2 a3 p k : Nat) (hp : p ≤ 64) (h0 : word a0) (h1 : word a1) (h2 : word a2) (h3 : word a3) (hk : k < 4) :
    num4 a0 a1 a2 a3 / 2 ^ (64 * k + p) =
      if k = 0 then num4 (a0 / 2 ^ p + a1 * 2 ^ (64 - p) % 18446744073709551616) (a1 / 2 ^ p + a2 * 2 ^ (64 - p) % 18446744073709551616) (a2 / 2 ^ p + a3 * 2 ^ (64 - p) % 18446744073709551616) (a3 / 2 ^ p)
      else if k = 1 then num4 (a1 / 2 ^ p + a2 * 2 ^ (64 - p) % 18446744073709551616) (a2 / 2 ^ p + a3 * 2 ^ (64 - p) % 18446744073709551616) (a3 / 2 ^ p) 0
      else if k = 2 then num4 (a2 / 2 ^ p + a3 * 2 ^ (64 - p) % 18446744073709551616) (a3 / 2 ^ p) 0 0
      else num4 (a3 / 2 ^ p) 0 0 0 := by
  have hq := pow_split p hp
  rw [Nat.pow_add, ← Nat.div_div_eq_div_mul]
  have z : ∀ b, 0 / 2 ^ p + b * 2 ^ (64 - p) % 18446744073709551616 = b * 2 ^ (64 - p) % 18446744073709551616 := fun b => by simp
  have : k = 0 ∨ k = 1 ∨ k = 2 ∨ k = 3 := by omega
  rcases this with rfl | rfl | rfl | rfl
  · rw [if_pos rfl, Nat.mul_zero, Nat.pow_zero, Nat.div_one]
    exact right_part _ _ _ _ _ _ hq (Nat.two_pow_pos _) (Nat.two_pow_pos _)
  · rw [if_neg (by decide), if_pos rfl, show (2 : Nat) ^ (64 * 1) = 18446744073709551616 by decide]
    have e : num4 a0 a1 a2 a3 / 18446744073709551616 = num4 a1 a2 a3 0 := by unfold num4 word at *; omega
    rw [e, right_part a1 a2 a3 0 _ _ hq (Nat.two_pow_pos _) (Nat.two_pow_pos _)]
    simp
  · rw [if_neg (by decide), if_neg (by decide), if_pos rfl, show (2 : Nat) ^ (64 * 2) = 340282366920938463463374607431768211456 by decide]
    have e : num4 a0 a1 a2 a3 / 340282366920938463463374607431768211456 = num4 a2 a3 0 0 := by unfold num4 word at *; omega
    rw [e, right_part a2 a3 0 0 _ _ hq (Nat.two_pow_pos _) (Nat.two_pow_pos _)]
    simp
  · rw [if_neg (by decide), if_neg (by decide), if_neg (by decide), show (2 : Nat) ^ (64 * 3) = 6277101735386680763835789423207666416102355444464034512896 by decide]
    have e : num4 a0 a1 a2 a3 / 6277101735386680763835789423207666416102355444464034512896 = num4 a3 0 0 0 := by unfold num4 word at *; omega
    rw [e, right_part a3 0 0 0 _ _ hq (Nat.two_pow_pos _) (Nat.two_pow_pos _)]
    simp

/-- How many bits a number has. -/
def blen (n : Nat) : Nat := if n = 0 then 0 else Nat.log2 n + 1
theorem blen_lt (n : Nat) : n < 2 ^ blen n := by
  unfold blen
  split
  · subst n; decide
  · exact Nat.lt_log2_self
theorem blen_le (n : Nat) (h : n ≠ 0) : 2 ^ (blen n - 1) ≤ n := by
  unfold blen
  rw [if_neg h, Nat.add_sub_cancel]
  exact Nat.log2_self_le h
theorem blen_eq (n k : Nat) (h1 : n < 2 ^ k) (h2 : k = 0 ∨ 2 ^ (k - 1) ≤ n) : blen n = k := by
  unfold blen
  split
  · subst n
    rcases h2 with h | h
    · exact h.symm
    · have := Nat.two_pow_pos (k - 1)
      omega
  · rename_i hn
    have hk : k ≠ 0 := fun e => by subst e; simp at h1; exact hn h1
    have h3 := h2.resolve_left hk
    have h4 : Nat.log2 n < k := (Nat.log2_lt hn).2 h1
    have h5 : k - 1 ≤ Nat.log2 n := (Nat.le_log2 hn).2 h3
    omega
theorem blen_le_of (n k : Nat) (h : n < 2 ^ k) : blen n ≤ k := by
  unfold blen
  split
  · omega
  · rename_i hn
    have := (Nat.log2_lt hn).2 h
    omega

/-- A step of the long division. -/
def rem (a b k : Nat) : Nat := a / 2 ^ k % b
def bitOf (a k : Nat) : Nat := a / 2 ^ k % 2
theorem div_pow_succ (a k : Nat) : a / 2 ^ (k + 1) = a / 2 ^ k / 2 := by rw [Nat.pow_succ, Nat.div_div_eq_div_mul]
theorem div_pow_bit (a k : Nat) : a / 2 ^ k = 2 * (a / 2 ^ (k + 1)) + bitOf a k := by
  rw [div_pow_succ]
  unfold bitOf
  omega
theorem rem_lt (a b k : Nat) (hb : 0 < b) : rem a b k < b := Nat.mod_lt _ hb
theorem div_step (x b c : Nat) (hb : 0 < b) (hc : c ≤ 1) : (2 * x + c) % b = (if b ≤ 2 * (x % b) + c then 2 * (x % b) + c - b else 2 * (x % b) + c) ∧ (2 * x + c) / b = 2 * (x / b) + (if b ≤ 2 * (x % b) + c then 1 else 0) := by
  have h1 := Nat.div_add_mod x b
  have h2 := Nat.mod_lt x hb
  generalize x % b = r at *
  generalize hq : x / b = q at *
  have e : 2 * x + c = b * (2 * q) + (2 * r + c) := by
    rw [← h1, Nat.mul_add, Nat.mul_left_comm]
    omega
  rw [e]
  split
  · rename_i hle
    have e2 : b * (2 * q) + (2 * r + c) = b * (2 * q + 1) + (2 * r + c - b) := by rw [Nat.mul_add, Nat.mul_one]; omega
    have hlt : 2 * r + c - b < b := by omega
    rw [e2, Nat.mul_add_mod, Nat.mod_eq_of_lt hlt, Nat.mul_add_div hb, Nat.div_eq_of_lt hlt]
    exact ⟨rfl, rfl⟩
  · have hlt : 2 * r + c < b := by omega
    rw [Nat.mul_add_mod, Nat.mod_eq_of_lt hlt, Nat.mul_add_div hb, Nat.div_eq_of_lt hlt]
    exact ⟨rfl, rfl⟩
theorem bitOf_le (a k : Nat) : bitOf a k ≤ 1 := by unfold bitOf; omega
/-- What is shifted, with its bit. -/
def shifted (a b k : Nat) : Nat := 2 * rem a b (k + 1) + bitOf a k
def oneAt (a b k : Nat) : Bool := decide (b ≤ shifted a b k)
theorem rem_step (a b k : Nat) (hb : 0 < b) : rem a b k = if oneAt a b k = true then shifted a b k - b else shifted a b k := by
  have h := (div_step (a / 2 ^ (k + 1)) b (bitOf a k) hb (bitOf_le a k)).1
  rw [← div_pow_bit] at h
  unfold rem oneAt shifted
  simp only [decide_eq_true_eq]
  exact h
theorem quot_step (a b k : Nat) (hb : 0 < b) : a / 2 ^ k / b = 2 * (a / 2 ^ (k + 1) / b) + (if oneAt a b k = true then 1 else 0) := by
  have h := (div_step (a / 2 ^ (k + 1)) b (bitOf a k) hb (bitOf_le a k)).2
  rw [← div_pow_bit] at h
  unfold oneAt shifted rem
  simp only [decide_eq_true_eq]
  exact h
theorem shifted_le (a b k : Nat) : shifted a b k ≤ a / 2 ^ k := by
  rw [div_pow_bit a k]
  unfold shifted rem
  have := Nat.mod_le (a / 2 ^ (k + 1)) b
  omega
theorem shifted_lt (a b k : Nat) (ha : a < top) : shifted a b k < top := Nat.lt_of_le_of_lt (Nat.le_trans (shifted_le a b k) (Nat.div_le_self _ _)) ha
theorem shifted_lt2 (a b k : Nat) (hb : 0 < b) : shifted a b k < 2 * b := by
  have := rem_lt a b (k + 1) hb
  have := bitOf_le a k
  unfold shifted
  omega
/-- The quotient's digits from k on. -/
def quo (a b k : Nat) : Nat := a / 2 ^ k / b * 2 ^ k
theorem quo_step (a b k : Nat) (hb : 0 < b) : quo a b k = quo a b (k + 1) + (if oneAt a b k = true then 2 ^ k else 0) := by
  unfold quo
  rw [quot_step a b k hb, Nat.add_mul, Nat.pow_succ]
  have e : 2 * (a / 2 ^ (k + 1) / b) * 2 ^ k = a / 2 ^ (k + 1) / b * (2 ^ k * 2) := by
    rw [Nat.mul_comm (2 ^ k) 2, ← Nat.mul_assoc, Nat.mul_comm _ 2]
  rw [Nat.pow_succ] at e
  rw [e]
  split <;> simp
theorem quo_top (a b : Nat) : quo a b (blen a) = 0 := by
  unfold quo
  rw [Nat.div_eq_of_lt (blen_lt a)]
  simp
theorem rem_top (a b : Nat) : rem a b (blen a) = 0 := by
  unfold rem
  rw [Nat.div_eq_of_lt (blen_lt a)]
  simp
theorem quo_le (a b k : Nat) : quo a b k ≤ a := by
  unfold quo
  have h1 : a / 2 ^ k / b ≤ a / 2 ^ k := Nat.div_le_self _ _
  exact Nat.le_trans (Nat.mul_le_mul_right _ h1) (Nat.div_mul_le_self _ _)
theorem quo_zero (a b : Nat) : quo a b 0 = a / b := by simp [quo]
theorem rem_zero (a b : Nat) : rem a b 0 = a % b := by simp [rem]
end Go.Proofs.Ytgmgejjlhlibkaa
