/- Contracts of math/bits.Mul64, wide.addProduct, wide.Of, most, wide.Not and cmp.Compare. Each names its conditions. -/
import Derived.Test.YtgmgejjlhlibkaaWideA
import Derived.Shelf.Bits.Mul64
import Derived.Deep.RegionWith
namespace Go.Proofs.Ytgmgejjlhlibkaa
open Go.RowKit Go.Lib

set_option maxHeartbeats 1000000 in
theorem mul64_any (x y : Nat) (hx : x < 18446744073709551616) (hy : y < 18446744073709551616) (w : World) :
    Calls Try.prog 65 #[.int .u64 x, .int .u64 y] w fun e w' => e = .returned (.tuple #[.int .u64 ((x * y / 18446744073709551616 : Nat) : Int), .int .u64 ((x * y % 18446744073709551616 : Nat) : Int)]) ∧ w = w' := by
  obtain ⟨bd, bt, bw, hhi⟩ := Lib.mul64_hi x y hx hy
  have ba := Lib.half_mul_le (a := x / 4294967296) (b := y / 4294967296) (by omega) (by omega)
  have bb := Lib.half_mul_le (a := x / 4294967296) (b := y % 4294967296) (by omega) (by omega)
  have bc := Lib.half_mul_le (a := x % 4294967296) (b := y / 4294967296) (by omega) (by omega)
  have ba' : x / 4294967296 * (y / 4294967296) < 18446744073709551616 := by omega
  have bb' : x / 4294967296 * (y % 4294967296) < 18446744073709551616 := by omega
  have bc' : x % 4294967296 * (y / 4294967296) < 18446744073709551616 := by omega
  have bh1 : x / 4294967296 * (y / 4294967296) + (x / 4294967296 * (y % 4294967296) + x % 4294967296 * (y % 4294967296) / 4294967296) / 4294967296 < 18446744073709551616 := by omega
  have bh : x / 4294967296 * (y / 4294967296) + (x / 4294967296 * (y % 4294967296) + x % 4294967296 * (y % 4294967296) / 4294967296) / 4294967296 + ((x / 4294967296 * (y % 4294967296) + x % 4294967296 * (y % 4294967296) / 4294967296) % 4294967296 + x % 4294967296 * (y / 4294967296)) / 4294967296 < 18446744073709551616 := by omega
  go_enter Try.func65, Try.ntmps65
  go_wp2
  simp only [Mul64.maskN x hx, Mul64.maskN y hy, Mul64.divN, Mul64.mulN, Mul64.addN, Mul64.wrapN _ bd, Mul64.wrapN _ bb', Mul64.wrapN _ bt, Mul64.maskN _ bt, Mul64.wrapN _ bc', Mul64.wrapN _ bw, Mul64.wrapN _ ba', Mul64.wrapN _ bh1, Mul64.wrapN _ bh, Mul64.wrapM (x * y)]
  rw [hhi]
  go_ret2
  exact ⟨rfl, rfl⟩

set_option maxHeartbeats 1000000 in
theorem product_words (a b c d hh ll s1 c1 s2 c2 : Nat) (w : World) (hb : hh + c1 + c2 < 18446744073709551616)
    (rm : ∀ w, Calls Try.prog 65 #[.int .u64 a, .int .u64 b] w fun e w' => e = .returned (.tuple #[.int .u64 hh, .int .u64 ll]) ∧ w = w')
    (r1 : ∀ w, (callFunc 51 #[.int .u64 ll, .int .u64 c, .int .u64 0]).run Try.prog w = .ok (.value (.tuple #[.int .u64 s1, .int .u64 c1])) w)
    (r2 : ∀ w, (callFunc 51 #[.int .u64 s1, .int .u64 d, .int .u64 0]).run Try.prog w = .ok (.value (.tuple #[.int .u64 s2, .int .u64 c2])) w) :
    Calls Try.prog 54 #[.int .u64 a, .int .u64 b, .int .u64 c, .int .u64 d] w fun e w' => e = .returned (.tuple #[.int .u64 ((hh + c1 + c2 : Nat) : Int), .int .u64 s2]) ∧ w = w' := by
  have RM := Lib.hid rm
  clear rm
  go_enter Try.func54, Try.ntmps54
  go_wp2_with (go_at_call 65; refine (RM.out _).mono ?_; rintro e w' ⟨rfl, rfl⟩)
  go_ret2
  refine ⟨?_, rfl⟩
  simp

/-- A word's product with what is added to it: as names. -/
theorem product_names (a b c d : Nat) (ha : word a) (hb : word b) (hc : word c) (hd : word d) : ∃ h l : Nat, l + 18446744073709551616 * h = a * b + c + d ∧ word h ∧ word l ∧
    ∀ w, Calls Try.prog 54 #[.int .u64 a, .int .u64 b, .int .u64 c, .int .u64 d] w fun e w' => e = .returned (.tuple #[.int .u64 h, .int .u64 l]) ∧ w = w' := by
  have hp : a * b ≤ 18446744073709551615 * 18446744073709551615 := Nat.mul_le_mul (by unfold word at ha; omega) (by unfold word at hb; omega)
  have rm := mul64_any a b ha hb
  have hw : word (a * b % 18446744073709551616) := by unfold word; omega
  have hq : a * b % 18446744073709551616 + 18446744073709551616 * (a * b / 18446744073709551616) = a * b := by omega
  obtain ⟨s1, c1, e1, h1, k1, r1⟩ := addc_names (a * b % 18446744073709551616) c 0 hw hc (by omega)
  obtain ⟨s2, c2, e2, h2, k2, r2⟩ := addc_names s1 d 0 h1 hd (by omega)
  unfold word at *
  refine ⟨a * b / 18446744073709551616 + c1 + c2, s2, by omega, by omega, h2, fun w => product_words a b c d _ _ s1 c1 s2 c2 w (by omega) rm r1 r2⟩

theorem isnan_any (n : Int) (w : World) :
    Calls Try.prog 64 #[.int .u64 n] w fun e w' => e = .returned (.bool false) ∧ w' = w := by
  go_enter Try.func64, Try.ntmps64
  go_wp2
  go_ret
  exact ⟨by simp, rfl⟩

/-- -1, 0 or 1: which of two is less. -/
def cmpI (a b : Int) : Int := if a < b then -1 else if b < a then 1 else 0

set_option maxHeartbeats 400000 in
theorem cmp_any (n m : Int) (w : World) :
    Calls Try.prog 50 #[.int .u64 n, .int .u64 m] w fun e w' => e = .returned (.int .i64 (cmpI n m)) ∧ w = w' := by
  by_cases h1 : n < m
  · have hv : cmpI n m = -1 := by simp [cmpI, h1]
    go_enter Try.func50, Try.ntmps50
    go_wp2_with (go_at_call 64; refine (isnan_any _ _).mono ?_; rintro e w' ⟨rfl, rfl⟩)
    go_ret
    exact ⟨by rw [hv]; rfl, rfl⟩
  · by_cases h2 : m < n
    · have hv : cmpI n m = 1 := by simp [cmpI, h1, h2]
      go_enter Try.func50, Try.ntmps50
      go_wp2_with (go_at_call 64; refine (isnan_any _ _).mono ?_; rintro e w' ⟨rfl, rfl⟩)
      go_ret
      exact ⟨by rw [hv]; rfl, rfl⟩
    · have hv : cmpI n m = 0 := by simp [cmpI, h1, h2]
      go_enter Try.func50, Try.ntmps50
      go_wp2_with (go_at_call 64; refine (isnan_any _ _).mono ?_; rintro e w' ⟨rfl, rfl⟩)
      go_ret
      exact ⟨by rw [hv]; rfl, rfl⟩

set_option maxHeartbeats 400000 in
theorem of_any (n : Nat) (hn : word n) (w : World) :
    Calls Try.prog 16 #[.int .u64 n] w fun e w' => e = .returned (.agg (wcells n)) ∧ Below w.heap.size w w' := by
  have h : wcells n = cells4 n 0 0 0 := by
    have := wcells_num4 hn (show word 0 by unfold word; omega) (show word 0 by unfold word; omega) (show word 0 by unfold word; omega)
    rw [← this]
    simp [num4]
  rw [h]
  unfold cells4
  clear h
  go_enter Try.func16, Try.ntmps16
  go_wp2
  exact bodyPost_ret (v := .agg #[.int .u64 n, .int .u64 0, .int .u64 0, .int .u64 0]) (by simp [results, Try.results16, go_sem]) rfl ⟨rfl, (Below.refl _ _).alloc (Nat.le_refl _) _⟩

set_option maxHeartbeats 400000 in
theorem most_any (w : World) :
    Calls Try.prog 41 #[] w fun e w' => e = .returned (.agg (wcells (top - 1))) ∧ Below w.heap.size w w' := by
  have h : wcells (top - 1) = #[.int .u64 18446744073709551615, .int .u64 18446744073709551615, .int .u64 18446744073709551615, .int .u64 18446744073709551615] := by
    rfl
  rw [h]
  clear h
  go_enter Try.func41, Try.ntmps41
  go_wp2
  exact bodyPost_ret (v := .agg #[.int .u64 18446744073709551615, .int .u64 18446744073709551615, .int .u64 18446744073709551615, .int .u64 18446744073709551615]) (by simp [results, Try.results41, go_sem]) rfl ⟨rfl, (Below.refl _ _).alloc (Nat.le_refl _) _⟩

end Go.Proofs.Ytgmgejjlhlibkaa
