/- Contracts of wide.Left and wide.Right: the product with a power of two, modulo 2^256, and the quotient. Each names its conditions. -/
import Derived.Test.YtgmgejjlhlibkaaWidL
namespace Go.Proofs.Ytgmgejjlhlibkaa
set_option linter.unusedVariables false
open Go.RowKit Go.Lib

theorem wrap_pow (a p : Nat) : IntKind.u64.wrap ((a : Int) * 2 ^ p) = ((a * 2 ^ p % 18446744073709551616 : Nat) : Int) := by
  rw [IntKind.wrap_u64]
  have : ((2 : Int) ^ p) = ((2 ^ p : Nat) : Int) := by simp
  rw [this]
  omega
theorem div_pow_int (a p : Nat) : (a : Int) / 2 ^ p = ((a / 2 ^ p : Nat) : Int) := by
  have : ((2 : Int) ^ p) = ((2 ^ p : Nat) : Int) := by simp
  rw [this, Int.natCast_ediv]
theorem mod_word (n : Nat) : n % 18446744073709551616 < 18446744073709551616 := by omega
theorem div_word {a : Nat} (h : word a) (p : Nat) : a / 2 ^ p < 18446744073709551616 := Nat.lt_of_le_of_lt (Nat.div_le_self _ _) h
theorem cells4_zero : wcells 0 = cells4 0 0 0 0 := rfl
theorem wcells_of {n a0 a1 a2 a3 : Nat} (h : n = num4 a0 a1 a2 a3) (h0 : word a0) (h1 : word a1) (h2 : word a2) (h3 : word a3) : wcells n = cells4 a0 a1 a2 a3 := by
  rw [h, wcells_num4 h0 h1 h2 h3]

theorem pow_top (a n : Nat) (h : 256 ≤ n) : a * 2 ^ n % top = 0 := by
  have e : (2 : Nat) ^ n = top * 2 ^ (n - 256) := by
    have h1 : top = 2 ^ 256 := by unfold top; decide +kernel
    rw [h1, ← Nat.pow_add, show 256 + (n - 256) = n by omega]
  rw [e, Nat.mul_left_comm, Nat.mul_mod_right]
theorem pow_top2 (a n : Nat) (ha : a < top) (h : 256 ≤ n) : a / 2 ^ n = 0 := by
  have h1 : top = 2 ^ 256 := by unfold top; decide +kernel
  rw [h1] at ha
  exact Nat.div_eq_of_lt (Nat.lt_of_lt_of_le ha (Nat.pow_le_pow_right (by decide) h))

theorem left_any (a : Nat) (n : Int) (ha : a < top) (w : World) :
    Calls Try.prog 32 #[.agg (wcells a), .int .i64 n] w fun e w' => e = .returned (.agg (wcells (a * 2 ^ n.toNat % top))) ∧ Below w.heap.size w w' := by
  obtain ⟨h0, h1, h2, h3, hA⟩ := words_of a
  have zw : word 0 := by unfold word; omega
  rcases Int.lt_or_le 0 n with h0' | hn
  · rcases Int.lt_or_le n 256 with h256 | hn
    · obtain ⟨p, hp1⟩ : ∃ p : Nat, n % 64 = (p : Int) := ⟨(n % 64).toNat, by omega⟩
      have hp : p < 64 := by omega
      have hk : n / 64 = 0 ∨ n / 64 = 1 ∨ n / 64 = 2 ∨ n / 64 = 3 := by omega
      rcases hk with hk | hk | hk | hk
      · have hl := left_0 (w0 a) (w1 a) (w2 a) (w3 a) _ _ _ _ _ _ _ _ _ _ p n h0' h256 (by omega) (by omega) hp (wrap_pow _ p) (wrap_pow _ p) (wrap_pow _ p) (wrap_pow _ p) (div_pow_int _ _) (u64_or_nat _ _ (mod_word _) (div_word h0 _)) (div_pow_int _ _) (u64_or_nat _ _ (mod_word _) (div_word h1 _)) (div_pow_int _ _) (u64_or_nat _ _ (mod_word _) (div_word h2 _)) w
        rw [or_left (w1 a) (w0 a) p (by omega) h0, or_left (w2 a) (w1 a) p (by omega) h1, or_left (w3 a) (w2 a) p (by omega) h2] at hl
        have e := left_num (w0 a) (w1 a) (w2 a) (w3 a) p 0 (by omega) h0 h1 h2 h3 (by decide)
        rw [if_pos rfl, ← hA ha] at e
        rw [show a * 2 ^ (64 * 0 + p) % top = a * 2 ^ n.toNat % top by rw [show n.toNat = 64 * 0 + p by omega]] at e
        rw [wcells_of e (mod_word _) (word_left _ _ p (by omega) h0) (word_left _ _ p (by omega) h1) (word_left _ _ p (by omega) h2)]
        exact hl
      · have hl := left_1 (w0 a) (w1 a) (w2 a) (w3 a) _ _ _ _ _ _ _ p n h0' h256 (by omega) (by omega) hp (wrap_pow _ p) (wrap_pow _ p) (wrap_pow _ p) (div_pow_int _ _) (u64_or_nat _ _ (mod_word _) (div_word h0 _)) (div_pow_int _ _) (u64_or_nat _ _ (mod_word _) (div_word h1 _)) w
        rw [or_left (w1 a) (w0 a) p (by omega) h0, or_left (w2 a) (w1 a) p (by omega) h1] at hl
        have e := left_num (w0 a) (w1 a) (w2 a) (w3 a) p 1 (by omega) h0 h1 h2 h3 (by decide)
        rw [if_neg (by decide), if_pos rfl, ← hA ha] at e
        rw [show a * 2 ^ (64 * 1 + p) % top = a * 2 ^ n.toNat % top by rw [show n.toNat = 64 * 1 + p by omega]] at e
        rw [wcells_of e zw (mod_word _) (word_left _ _ p (by omega) h0) (word_left _ _ p (by omega) h1)]
        exact hl
      · have hl := left_2 (w0 a) (w1 a) (w2 a) (w3 a) _ _ _ _ p n h0' h256 (by omega) (by omega) hp (wrap_pow _ p) (wrap_pow _ p) (div_pow_int _ _) (u64_or_nat _ _ (mod_word _) (div_word h0 _)) w
        rw [or_left (w1 a) (w0 a) p (by omega) h0] at hl
        have e := left_num (w0 a) (w1 a) (w2 a) (w3 a) p 2 (by omega) h0 h1 h2 h3 (by decide)
        rw [if_neg (by decide), if_neg (by decide), if_pos rfl, ← hA ha] at e
        rw [show a * 2 ^ (64 * 2 + p) % top = a * 2 ^ n.toNat % top by rw [show n.toNat = 64 * 2 + p by omega]] at e
        rw [wcells_of e zw zw (mod_word _) (word_left _ _ p (by omega) h0)]
        exact hl
      · have hl := left_3 (w0 a) (w1 a) (w2 a) (w3 a) _ p n h0' h256 (by omega) (by omega) hp (wrap_pow _ p) w
        have e := left_num (w0 a) (w1 a) (w2 a) (w3 a) p 3 (by omega) h0 h1 h2 h3 (by decide)
        rw [if_neg (by decide), if_neg (by decide), if_neg (by decide), ← hA ha] at e
        rw [show a * 2 ^ (64 * 3 + p) % top = a * 2 ^ n.toNat % top by rw [show n.toNat = 64 * 3 + p by omega]] at e
        rw [wcells_of e zw zw zw (mod_word _)]
        exact hl
    · rw [pow_top a n.toNat (by omega), cells4_zero]
      exact left_far _ _ _ _ n hn w
  · have e : a * 2 ^ n.toNat % top = a := by rw [show n.toNat = 0 by omega]; simp; exact Nat.mod_eq_of_lt ha
    rw [e]
    exact left_none n hn _ _ _ _ w

theorem right_any (a : Nat) (n : Int) (ha : a < top) (w : World) :
    Calls Try.prog 34 #[.agg (wcells a), .int .i64 n] w fun e w' => e = .returned (.agg (wcells (a / 2 ^ n.toNat))) ∧ Below w.heap.size w w' := by
  obtain ⟨h0, h1, h2, h3, hA⟩ := words_of a
  have zw : word 0 := by unfold word; omega
  rcases Int.lt_or_le 0 n with h0' | hn
  · rcases Int.lt_or_le n 256 with h256 | hn
    · obtain ⟨p, hp1⟩ : ∃ p : Nat, n % 64 = (p : Int) := ⟨(n % 64).toNat, by omega⟩
      have hp : p < 64 := by omega
      have hk : n / 64 = 0 ∨ n / 64 = 1 ∨ n / 64 = 2 ∨ n / 64 = 3 := by omega
      rcases hk with hk | hk | hk | hk
      · have hl := right_0 (w0 a) (w1 a) (w2 a) (w3 a) _ _ _ _ _ _ _ _ _ _ p n h0' h256 (by omega) (by omega) hp (div_pow_int _ _) (div_pow_int _ _) (div_pow_int _ _) (div_pow_int _ _) (wrap_pow _ _) (u64_or_nat _ _ (div_word h0 _) (mod_word _)) (wrap_pow _ _) (u64_or_nat _ _ (div_word h1 _) (mod_word _)) (wrap_pow _ _) (u64_or_nat _ _ (div_word h2 _) (mod_word _)) w
        rw [or_right (w0 a) (w1 a) p (by omega) h0, or_right (w1 a) (w2 a) p (by omega) h1, or_right (w2 a) (w3 a) p (by omega) h2] at hl
        have e := right_num (w0 a) (w1 a) (w2 a) (w3 a) p 0 (by omega) h0 h1 h2 h3 (by decide)
        rw [if_pos rfl, ← hA ha] at e
        rw [show a / 2 ^ (64 * 0 + p) = a / 2 ^ n.toNat by rw [show n.toNat = 64 * 0 + p by omega]] at e
        rw [wcells_of e (word_right _ _ p (by omega) h0) (word_right _ _ p (by omega) h1) (word_right _ _ p (by omega) h2) (div_word h3 _)]
        exact hl
      · have hl := right_1 (w0 a) (w1 a) (w2 a) (w3 a) _ _ _ _ _ _ _ p n h0' h256 (by omega) (by omega) hp (div_pow_int _ _) (div_pow_int _ _) (div_pow_int _ _) (wrap_pow _ _) (u64_or_nat _ _ (div_word h1 _) (mod_word _)) (wrap_pow _ _) (u64_or_nat _ _ (div_word h2 _) (mod_word _)) w
        rw [or_right (w1 a) (w2 a) p (by omega) h1, or_right (w2 a) (w3 a) p (by omega) h2] at hl
        have e := right_num (w0 a) (w1 a) (w2 a) (w3 a) p 1 (by omega) h0 h1 h2 h3 (by decide)
        rw [if_neg (by decide), if_pos rfl, ← hA ha] at e
        rw [show a / 2 ^ (64 * 1 + p) = a / 2 ^ n.toNat by rw [show n.toNat = 64 * 1 + p by omega]] at e
        rw [wcells_of e (word_right _ _ p (by omega) h1) (word_right _ _ p (by omega) h2) (div_word h3 _) zw]
        exact hl
      · have hl := right_2 (w0 a) (w1 a) (w2 a) (w3 a) _ _ _ _ p n h0' h256 (by omega) (by omega) hp (div_pow_int _ _) (div_pow_int _ _) (wrap_pow _ _) (u64_or_nat _ _ (div_word h2 _) (mod_word _)) w
        rw [or_right (w2 a) (w3 a) p (by omega) h2] at hl
        have e := right_num (w0 a) (w1 a) (w2 a) (w3 a) p 2 (by omega) h0 h1 h2 h3 (by decide)
        rw [if_neg (by decide), if_neg (by decide), if_pos rfl, ← hA ha] at e
        rw [show a / 2 ^ (64 * 2 + p) = a / 2 ^ n.toNat by rw [show n.toNat = 64 * 2 + p by omega]] at e
        rw [wcells_of e (word_right _ _ p (by omega) h2) (div_word h3 _) zw zw]
        exact hl
      · have hl := right_3 (w0 a) (w1 a) (w2 a) (w3 a) _ p n h0' h256 (by omega) (by omega) hp (div_pow_int _ _) w
        have e := right_num (w0 a) (w1 a) (w2 a) (w3 a) p 3 (by omega) h0 h1 h2 h3 (by decide)
        rw [if_neg (by decide), if_neg (by decide), if_neg (by decide), ← hA ha] at e
        rw [show a / 2 ^ (64 * 3 + p) = a / 2 ^ n.toNat by rw [show n.toNat = 64 * 3 + p by omega]] at e
        rw [wcells_of e (div_word h3 _) zw zw zw]
        exact hl
    · rw [pow_top2 a n.toNat ha (by omega), cells4_zero]
      exact right_far _ _ _ _ n hn w
  · have e : a / 2 ^ n.toNat = a := by rw [show n.toNat = 0 by omega]; simp
    rw [e]
    exact right_none n hn _ _ _ _ w

end Go.Proofs.Ytgmgejjlhlibkaa
