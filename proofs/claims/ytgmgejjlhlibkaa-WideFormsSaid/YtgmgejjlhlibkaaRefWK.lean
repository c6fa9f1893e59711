/- The document's digits of a number. Numbers are below 2^256. -/
import Derived.Test.YtgmgejjlhlibkaaRefWE
import Derived.Test.YtgmgejjlhlibkaaDig
import Derived.BigQuiet
namespace Go.Proofs.Ytgmgejjlhlibkaa.Oct
set_option linter.unusedVariables false
open Go.Proofs.Ytgmgejjlhlibkaa Go.RowKit Go.Shelf

theorem nib_bits (n j : Nat) : nib n j = bitOf n (4 * j) + 2 * bitOf n (4 * j + 1) + 4 * bitOf n (4 * j + 2) + 8 * bitOf n (4 * j + 3) := by
  unfold nib bitOf
  rw [show (16 : Nat) ^ j = 2 ^ (4 * j) by rw [Nat.pow_mul], Nat.pow_succ, Nat.pow_add 2 (4 * j) 2, Nat.pow_add 2 (4 * j) 3, ← Nat.div_div_eq_div_mul, ← Nat.div_div_eq_div_mul, ← Nat.div_div_eq_div_mul]
  generalize n / 2 ^ (4 * j) = x
  omega

theorem digit_cut (m : Nat) (hm : m < 16) : (⟨#[48, 49, 50, 51, 52, 53, 54, 55, 56, 57, 97, 98, 99, 100, 101, 102]⟩ : ByteArray).extract m (m + 1) = ⟨#[dig m]⟩ := by
  have h : ∀ i : Fin 16, (⟨#[48, 49, 50, 51, 52, 53, 54, 55, 56, 57, 97, 98, 99, 100, 101, 102]⟩ : ByteArray).extract i.val (i.val + 1) = ⟨#[dig i.val]⟩ := by decide +kernel
  exact h ⟨m, hm⟩
theorem str_snoc (l : List UInt8) (c : UInt8) : (⟨l.toArray⟩ : ByteArray) ++ ⟨#[c]⟩ = ⟨(l ++ [c]).toArray⟩ := by
  refine ByteArray.ext ?_
  simp [ByteArray.data_append]
set_option maxRecDepth 100000 in
set_option maxHeartbeats 2000000 in
theorem rDigits_any (n : Nat) (hn : n < top) (w : World) : Calls Try.prog 21 #[.agg (wcells n)] w fun e w' => e = .returned (.string ⟨(digitsW n).toArray⟩) ∧ Below w.heap.size w w' := by
  have hH := (Keeps.nil w).new (wcells n) 24
  simp only [List.nil_append] at hH
  go_enter Try.func21, Try.ntmps21
  go_wp2_with (first | (refine wpList_box hH 0 rfl 24 _ rfl rfl rfl _ Try.underlying24 rfl (infoW _) ?_) | (go_at_call 46; refine (bits_any n hn _).mono ?_; rintro e W1 ⟨g, rfl, hg, hcell, hb⟩; replace hH := hH.gain hb hg hcell; clear hg hcell hb))
  simp only [List.nil_append, List.cons_append] at hH
  have hH2 := hH
  clear hH
  go_loopw [4, 5] (fun u v wr => ∃ k : Nat, k ≤ 64 ∧ v = .int .i64 ((k : Int) - 1) ∧ u = .string ⟨(dpre n (64 - k)).toArray⟩ ∧ Keeps w [(w.heap.size, wcells n, 24), (g, ibits n 256, 3)] wr) (fun _ v _ => (RowKit.intOf v + 1).toNat)
  case atStart => exact ⟨64, by omega, rfl, rfl, hH2⟩
  case round =>
    clear hH2
    obtain ⟨k, hk, rfl, rfl, hH⟩ := hrel
    rcases k with _ | j
    · go_wp2
      go_ret
      refine ⟨?_, hH.bel⟩
      rfl
    · have hj : (((j + 1 : Nat) : Int) - 1) = (j : Int) := by omega
      rw [hj]
      have e0 := hH.cellOf 1 rfl (4 * j)
      have e1 := hH.cellOf 1 rfl (4 * j + 1)
      have e2 := hH.cellOf 1 rfl (4 * j + 2)
      have e3 := hH.cellOf 1 rfl (4 * j + 3)
      rw [ibits_get _ _ _ (by omega)] at e0 e1 e2 e3
      have b0 := bitOf_le n (4 * j)
      have b1 := bitOf_le n (4 * j + 1)
      have b2 := bitOf_le n (4 * j + 2)
      have b3 := bitOf_le n (4 * j + 3)
      have hnb := nib_bits n j
      have hnl := nib_lt n j
      obtain ⟨x0, h0⟩ : ∃ x, bitOf n (4 * j) = x := ⟨_, rfl⟩
      obtain ⟨x1, h1⟩ : ∃ x, bitOf n (4 * j + 1) = x := ⟨_, rfl⟩
      obtain ⟨x2, h2⟩ : ∃ x, bitOf n (4 * j + 2) = x := ⟨_, rfl⟩
      obtain ⟨x3, h3⟩ : ∃ x, bitOf n (4 * j + 3) = x := ⟨_, rfl⟩
      rw [h0] at e0 b0 hnb
      rw [h1] at e1 b1 hnb
      rw [h2] at e2 b2 hnb
      rw [h3] at e3 b3 hnb
      clear h0 h1 h2 h3
      have w0 : IntKind.i64.wrap (4 * (j : Int)) = 4 * (j : Int) := IntWalk.i64_in _ (by omega)
      have z0 : (4 * (j : Int)).toNat = 4 * j := by omega
      have z1 : (4 * (j : Int) + 1).toNat = 4 * j + 1 := by omega
      have z2 : (4 * (j : Int) + 2).toNat = 4 * j + 2 := by omega
      have z3 : (4 * (j : Int) + 3).toNat = 4 * j + 3 := by omega
      go_wp2
      go_quiet (fail)
      have em : (x0 : Int) + 2 * (x1 : Int) + 4 * (x2 : Int) + 8 * (x3 : Int) = ((nib n j : Nat) : Int) := by rw [hnb]; omega
      rw [em]
      clear em e0 e1 e2 e3 b0 b1 b2 b3 w0 z0 z1 z2 z3 hnb
      obtain ⟨m, hm⟩ : ∃ m, nib n j = m := ⟨_, rfl⟩
      rw [hm] at hnl ⊢
      have HM := Lib.hid hm
      clear hm
      have hcl : ¬ 9223372036854775807 < (dpre n (63 - j)).length + (min (m + 1) 16 - m) := by rw [dpre_length]; omega
      go_wp2
      go_roundw
      case rel =>
        refine ⟨j, by omega, rfl, ?_, hH.drewN _⟩
        have hds := dpre_succ n (63 - j)
        rw [show 63 - (63 - j) = j by omega, HM.out, show 63 - j + 1 = 64 - j by omega] at hds
        rw [digit_cut m hnl, str_snoc, hds]
      case measure => simp [RowKit.intOf]
end Go.Proofs.Ytgmgejjlhlibkaa.Oct
