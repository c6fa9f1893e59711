/- Contracts of purserref02's about, rest, On and Sum. No condition beyond the memory's reach. -/
import Derived.Test.YtagcdgfdflnphaaCrcC
import Derived.Test.YtagcdgfdflnphaaPlain2
namespace Go.Proofs.Ytagcdgfdflnphaa
open Go.RowKit

theorem ret_i (k : IntKind) {a b : Int} (h : a = b) : Ending.returned (.int k a) = .returned (.int k b) := by rw [h]
theorem val_i (k : IntKind) {a b : Int} (h : a = b) : Value.int k a = .int k b := by rw [h]

set_option maxHeartbeats 1000000 in
theorem about_any (n : Nat) (hn : n < 4294967296) (w : World) : Calls Try.prog 21 #[.int .u64 (n : Int)] w fun e w' => e = .returned (.int .u64 (abt n : Int)) ∧ w = w' := by
  go_enter Try.func21, Try.ntmps21
  go_wp2
  go_loop [0, 3, 4] (fun c r i => ∃ k : Nat, k ≤ 32 ∧ i = .int .i64 k ∧ r = .int .u64 (abO k n : Nat) ∧ c = .int .u64 (n / 2 ^ k : Nat)) (fun _ _ i => 32 - (intOf i).toNat)
  case atStart => exact ⟨0, by omega, rfl, rfl, by simp⟩
  case round =>
    obtain ⟨k, hk, rfl, rfl, rfl⟩ := hrel
    by_cases hlt : k < 32
    · have hx := abO_lt k n
      have hp : 2 ^ k ≤ 2147483648 := Nat.pow_le_pow_right (n := 2) (by decide) (show k ≤ 31 by omega)
      have hy : n / 2 ^ k < 4294967296 := Nat.lt_of_le_of_lt (Nat.div_le_self _ _) hn
      have H1 := Lib.hid (show abO (k + 1) n = 2 * abO k n + n / 2 ^ k % 2 from rfl)
      have H2 := Lib.hid (show n / 2 ^ (k + 1) = n / 2 ^ k / 2 by rw [Nat.pow_succ, Nat.div_div_eq_div_mul])
      have hx2 : abO k n < 2147483648 := by omega
      clear hx hp
      generalize abO k n = x at *
      generalize n / 2 ^ k = y at *
      go_wp2
      go_round
      case rel => exact ⟨k + 1, by omega, by go_num, by rw [H1.out]; exact val_i _ (by omega), by rw [H2.out]; exact val_i _ (by omega)⟩
      case measure => simp [intOf]; omega
    · have hge : 32 ≤ k := by omega
      have HT := Lib.hid (show abO k n = abt n by rw [show k = 32 by omega]; rfl)
      go_wp2
      go_ret
      exact ⟨by rw [← HT.out]; rfl, rfl⟩

set_option maxRecDepth 100000 in
set_option maxHeartbeats 1000000 in
theorem rest_any (r b : Nat) (hr : r < 4294967296) (hb : b < 2) (w : World) : Calls Try.prog 22 #[.int .u64 (r : Int), .int .u64 (b : Int)] w fun e w' => e = .returned (.int .u64 (restN r b : Int)) ∧ w = w' := by
  obtain ⟨x, hx⟩ : ∃ x, 2 * r + b * 4294967296 = x := ⟨_, rfl⟩
  have hxi : 2 * (r : Int) + (b : Int) * 4294967296 = (x : Int) := by omega
  have hxl : x < 12884901888 := by omega
  by_cases h1 : x < 4294967296
  · have H := Lib.hid (rest_low hx h1)
    have d1 : decide (8589934592 ≤ (x : Int)) = false := by simp; omega
    have d2 : decide (4294967296 ≤ (x : Int)) = false := by simp; omega
    clear hx h1 hxl
    go_enter Try.func22, Try.ntmps22
    go_wp2
    go_ret
    exact ⟨by rw [H.out]; rfl, rfl⟩
  · by_cases h2 : x < 8589934592
    · have H := Lib.hid (rest_mid hx (by omega) h2)
      have d1 : decide (8589934592 ≤ (x : Int)) = false := by simp; omega
      have d2 : decide (4294967296 ≤ (x : Int)) = true := by simp; omega
      obtain ⟨y, hy⟩ : ∃ y, x - 4294967296 = y := ⟨_, rfl⟩
      have e := u64_xor_nat y 517762881 (by omega) (by omega)
      rw [hy] at H
      have hy3 : (x : Int) - 4294967296 = (y : Int) := by omega
      clear hx h1 hxl h2 hy
      go_enter Try.func22, Try.ntmps22
      go_wp2
      go_ret
      exact ⟨by rw [H.out]; exact ret_i _ e, rfl⟩
    · have H := Lib.hid (rest_high hx (by omega) (by omega))
      have d1 : decide (8589934592 ≤ (x : Int)) = true := by simp; omega
      obtain ⟨y, hy⟩ : ∃ y, x - 8589934592 = y := ⟨_, rfl⟩
      rw [hy] at H
      have hy3 : (x : Int) - 8589934592 = (y : Int) := by omega
      have d2 : decide (4294967296 ≤ (y : Int)) = false := by simp; omega
      clear hx h1 hxl h2 hy
      go_enter Try.func22, Try.ntmps22
      go_wp2
      go_ret
      exact ⟨by rw [H.out]; rfl, rfl⟩

theorem Holds8.at_ {n₀ : Nat} {W : World} {A : Option Addr} {bs : List UInt8} (h : Holds8 n₀ W A bs) {k : Nat} (hk : k < bs.length) :
    ∃ b off, A = some ⟨b, off, none⟩ ∧ b < n₀ ∧ W.cell? ⟨b, off + k, none⟩ = some (.int .u8 ((bs[k]).toNat : Int)) := by
  rcases h with ⟨_, rfl⟩ | ⟨b, off, e, hb, hc⟩
  · simp at hk
  · exact ⟨b, off, e, hb, hc k hk⟩

set_option maxRecDepth 100000 in
set_option maxHeartbeats 2000000 in
theorem refOn_any (s : Nat) (hs : s < 4294967296) (bs : List UInt8) (hreach : bs.length ≤ 140737488351232) (cap : Nat) (A : Option Addr) (w : World) (hI : Holds8 w.heap.size w A bs) :
    Calls Try.prog 12 #[.int .u32 (s : Int), .slice A bs.length cap] w fun e w' => e = .returned (.int .u32 (onS s bs : Int)) ∧ w = w' := by
  have e0 : (4294967295 : Int) - (s : Int) = ((4294967295 - s : Nat) : Int) := by omega
  have hR0 : 4294967295 - s < 4294967296 := by omega
  have HO := Lib.hid (show onS s bs = 4294967295 - runH (4294967295 - s) (hv bs) from rfl)
  have HA := Lib.hid hI
  clear hI
  generalize 4294967295 - s = R0 at *
  go_enter Try.func12, Try.ntmps12
  go_wp2_with ((go_at_call 21; refine (about_any _ hR0 _).mono ?_; rintro e w' ⟨rfl, rfl⟩))
  go_loop [5, 6] (fun r i => ∃ k : Nat, k ≤ bs.length ∧ i = .int .i64 k ∧ r = .int .u64 (abt (runH R0 (hv (bs.take k))) : Nat)) (fun _ i => bs.length - (intOf i).toNat)
  case atStart => exact ⟨0, by omega, rfl, rfl⟩
  case round =>
    obtain ⟨k, hk, rfl, rfl⟩ := hrel
    by_cases hlt : k < bs.length
    · obtain ⟨b, off, rfl, hb, hc⟩ := HA.out.at_ hlt
      have hub := UInt8.toNat_lt bs[k]
      have HS := Lib.hid (show runH R0 (hv (bs.take (k + 1))) = stepsN 8 (runH R0 (hv (bs.take k))) bs[k].toNat by
        rw [hv_snoc bs k hlt, runH_snoc, runH_snoc, steps_byte])
      have hR := runH_lt hR0 (hv (bs.take k))
      generalize runH R0 (hv (bs.take k)) = R at *
      generalize bs[k].toNat = c at *
      go_wp2
      go_loop [5, 7, 8] (fun r x j => ∃ m : Nat, m ≤ 8 ∧ j = .int .i64 m ∧ r = .int .u64 (abt (stepsN m R c) : Nat) ∧ x = .int .u64 (c / 2 ^ m : Nat)) (fun _ _ j => 8 - (intOf j).toNat)
      case atStart => exact ⟨0, by omega, rfl, rfl, by simp⟩
      case round =>
        obtain ⟨m, hm, rfl, rfl, rfl⟩ := hrel
        by_cases hlm : m < 8
        · have hT := stepsN_lt m R c hR
          have hA := abt_lt (stepsN m R c)
          obtain ⟨y, hy⟩ : ∃ y, c / 2 ^ m % 2 = y := ⟨_, rfl⟩
          have hy2 : y < 2 := by omega
          have hr := rest_abt (stepsN m R c) y hT hy2
          have H1 := Lib.hid (show abt (stepsN (m + 1) R c) = restN (abt (stepsN m R c)) y by rw [hr, ← hy]; rfl)
          have H2 := Lib.hid (show c / 2 ^ (m + 1) = c / 2 ^ m / 2 by rw [Nat.pow_succ, Nat.div_div_eq_div_mul])
          have hd : c / 2 ^ m < 256 := Nat.lt_of_le_of_lt (Nat.div_le_self _ _) hub
          generalize c / 2 ^ m = x at *
          have hyi : (x : Int) % 2 = (y : Int) := by omega
          generalize abt (stepsN m R c) = a at *
          clear hr hT hy
          go_wp2_with ((go_at_call 22; refine (rest_any _ _ hA hy2 _).mono ?_; rintro e w' ⟨rfl, rfl⟩))
          go_round
          case rel => exact ⟨m + 1, by omega, by go_num, by rw [H1.out], by rw [H2.out]; exact val_i _ (by omega)⟩
          case measure => simp [intOf]; omega
        · have hge : 8 ≤ m := by omega
          have HM := Lib.hid (show stepsN m R c = stepsN 8 R c by rw [show m = 8 by omega])
          go_wp2
          go_round
          case rel => exact ⟨k + 1, by omega, by go_num, by rw [HS.out, HM.out]⟩
          case measure => simp [intOf]; omega
    · have hge : bs.length ≤ k := by omega
      rw [List.take_of_length_le hge] at *
      have hR := runH_lt hR0 (hv bs)
      have hA := abt_lt (runH R0 (hv bs))
      have haa := abt_abt _ hR
      generalize runH R0 (hv bs) = R at *
      generalize abt R = a at *
      go_wp2_with ((go_at_call 21; refine (about_any _ hA _).mono ?_; rintro e w' ⟨rfl, rfl⟩))
      go_ret
      exact ⟨by rw [HO.out]; exact ret_i _ (by omega), rfl⟩

set_option maxHeartbeats 1000000 in
theorem refSum_any (bs : List UInt8) (hreach : bs.length ≤ 140737488351232) (cap : Nat) (A : Option Addr) (w : World) (hI : Holds8 w.heap.size w A bs) :
    Calls Try.prog 10 #[.slice A bs.length cap] w fun e w' => e = .returned (.int .u32 (onS 0 bs : Int)) ∧ w = w' := by
  have HA := Lib.hid hI
  clear hI
  go_enter Try.func10, Try.ntmps10
  go_wp2_with ((go_at_call 12; refine (refOn_any 0 (by omega) bs hreach cap A _ HA.out).mono ?_; rintro e w' ⟨rfl, rfl⟩))
  go_ret
  exact ⟨rfl, rfl⟩
end Go.Proofs.Ytagcdgfdflnphaa
