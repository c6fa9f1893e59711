/- The contract of wide.Len. The argument is below 2^256. -/
import Derived.Test.YtgmgejjlhlibkaaWidO
import Derived.Test.YtgmgejjlhlibkaaShelf
import Derived.Lib.ItoaNum
namespace Go.Proofs.Ytgmgejjlhlibkaa
set_option linter.unusedVariables false
open Go.RowKit Go.Shelf Go.Lib

theorem bitLen_blen (x : Nat) (hx : x < 18446744073709551616) : Lib.bitLen x = blen x := by
  by_cases h0 : x = 0
  · subst h0
    unfold Lib.bitLen blen
    rw [Lib.bitLenAux_zero]
    rfl
  · obtain ⟨h1, h2, h3⟩ := Lib.bitLenAux_bounds 64 x (by omega) h0
    exact (blen_eq x _ h3 (.inr h2)).symm
theorem low_succ (n k : Nat) : n % 2 ^ (64 * (k + 1)) = n % 2 ^ (64 * k) + 2 ^ (64 * k) * wAt n k := by
  rw [show 64 * (k + 1) = 64 * k + 64 by omega, Nat.pow_add, Nat.mod_mul]
  unfold wAt
  rw [show (18446744073709551616 : Nat) = 2 ^ 64 by decide, ← Nat.pow_mul]
theorem blen_add (l k x : Nat) (hl : l < 2 ^ k) (hx : x ≠ 0) : blen (l + 2 ^ k * x) = k + blen x := by
  have h1 := blen_lt x
  have h2 := blen_le x hx
  have h0 : 0 < blen x := by unfold blen; rw [if_neg hx]; omega
  refine blen_eq _ _ ?_ (.inr ?_)
  · rw [Nat.pow_add]
    have : 2 ^ k * (x + 1) ≤ 2 ^ k * 2 ^ blen x := Nat.mul_le_mul_left _ h1
    rw [Nat.mul_add, Nat.mul_one] at this
    omega
  · rw [show k + blen x - 1 = k + (blen x - 1) by omega, Nat.pow_add]
    have := Nat.mul_le_mul_left (2 ^ k) h2
    omega

set_option maxHeartbeats 1000000 in
theorem len_any (a : Nat) (ha : a < top) (w : World) :
    Calls Try.prog 22 #[.agg (wcells a)] w fun e w' => e = .returned (.int .i64 (blen a : Int)) ∧ Below w.heap.size w w' := by
  have hc := heap_alloc_new w (.cells (wcells a) 24)
  go_enter Try.func22, Try.ntmps22
  go_wp2
  go_loop [3, 5] (fun n i => ∃ k : Nat, k ≤ 4 ∧ i = .int .i64 (k : Int) ∧ n = .int .i64 (blen (a % 2 ^ (64 * k)) : Int)) (fun _ i => 4 - (RowKit.intOf i).toNat)
  case atStart => exact ⟨0, by omega, rfl, by simp [blen, Nat.mod_one]⟩
  case round =>
    obtain ⟨k, hk, rfl, rfl⟩ := hrel
    by_cases hlt : k < 4
    · have hca := cell_of_row _ w.heap.size k _ _ _ hc
      rw [wcells_at a k hlt] at hca
      have hw := word_at a k
      unfold word at hw
      have hls := low_succ a k
      have hll : a % 2 ^ (64 * k) < 2 ^ (64 * k) := Nat.mod_lt _ (Nat.two_pow_pos _)
      clear hc
      obtain ⟨x, hx⟩ : ∃ x, wAt a k = x := ⟨_, rfl⟩
      rw [hx] at hca hls hw
      clear hx
      by_cases h0 : x = 0
      · subst h0
        have HS := Lib.hid hls
        clear hls
        go_wp2
        go_round
        case rel => exact ⟨k + 1, by omega, by go_num, by rw [HS.out, Nat.mul_zero, Nat.add_zero]⟩
        case measure => simp [RowKit.intOf]; omega
      · have hb := blen_add _ _ x hll h0
        rw [← hls] at hb
        have HS := Lib.hid hb
        have hbl : Lib.bitLen x = blen x := bitLen_blen x hw
        have HL := fun W => Try.bits_Len64 (x : Int) W (by omega) (by omega)
        rw [Int.toNat_natCast, hbl] at HL
        have HLE := Lib.hid HL
        have hb64 : blen x ≤ 64 := blen_le_of x 64 hw
        have hne : ((x : Int) == 0) = false := by simpa using h0
        have hne2 : ((x : Int) != 0) = true := by simpa using h0
        clear HL hbl hb hls
        go_wp2_with (go_at_call 49; refine (HLE.out _).mono ?_; rintro e w' ⟨rfl, rfl⟩)
        go_round
        case rel => exact ⟨k + 1, by omega, by go_num, by rw [HS.out]; go_num⟩
        case measure => simp [RowKit.intOf]; omega
    · obtain rfl : k = 4 := by omega
      have he : a % 2 ^ (64 * 4) = a := Nat.mod_eq_of_lt (by rw [show (2 : Nat) ^ (64 * 4) = top by unfold top; decide +kernel]; exact ha)
      rw [he]
      clear he hc
      go_wp2
      go_ret
      exact ⟨rfl, (Below.refl _ _).alloc (Nat.le_refl _) _⟩
end Go.Proofs.Ytgmgejjlhlibkaa
