/- WideShifted is true at every number and shift. No condition. -/
import Derived.Test.YtgmgejjlhlibkaaWidX
import Derived.Test.YtgmgejjlhlibkaaWidG
namespace Go.Proofs.Ytgmgejjlhlibkaa
set_option linter.unusedVariables false
open Go.ChangeShapes Go.WideShapes Go.ChangeAt Go.RowKit

theorem top_pow : top = 2 ^ 256 := by unfold top; decide +kernel
theorem blen_pow (k : Nat) : blen (2 ^ k) = k + 1 := blen_eq _ _ (Nat.pow_lt_pow_right (by decide) (by omega)) (.inr (by rw [Nat.add_sub_cancel]; exact Nat.le_refl _))
theorem blen_zero : blen 0 = 0 := by decide
theorem blen_div (a k : Nat) : (blen (a / 2 ^ k) : Int) = max 0 ((blen a : Int) - (k : Int)) := by
  by_cases h : blen a ≤ k
  · have h1 : a / 2 ^ k = 0 := Nat.div_eq_of_lt (Nat.lt_of_lt_of_le (blen_lt a) (Nat.pow_le_pow_right (by decide) h))
    rw [h1, blen_zero]
    omega
  · have h0 : a ≠ 0 := fun e => by rw [e, blen_zero] at h; omega
    have h1 := blen_lt a
    have h2 := blen_le a h0
    have h3 : blen (a / 2 ^ k) = blen a - k := by
      refine blen_eq _ _ ?_ (.inr ?_)
      · rw [Nat.div_lt_iff_lt_mul (Nat.two_pow_pos k), ← Nat.pow_add, show blen a - k + k = blen a by omega]
        exact h1
      · rw [Nat.le_div_iff_mul_le (Nat.two_pow_pos k), ← Nat.pow_add, show blen a - k - 1 + k = blen a - 1 by omega]
        exact h2
    rw [h3]
    omega
theorem blen_mul (a k : Nat) (h0 : a ≠ 0) : blen (a * 2 ^ k) = blen a + k := by
  have h1 := blen_lt a
  have h2 := blen_le a h0
  have h3 : 0 < blen a := by unfold blen; rw [if_neg h0]; omega
  refine blen_eq _ _ ?_ (.inr ?_)
  · rw [Nat.pow_add]
    exact Nat.mul_lt_mul_of_pos_right h1 (Nat.two_pow_pos k)
  · rw [show blen a + k - 1 = blen a - 1 + k by omega, Nat.pow_add]
    exact Nat.mul_le_mul_right _ h2

set_option maxRecDepth 100000 in
set_option maxHeartbeats 1000000 in
theorem shifted_any (a k : Nat) (ha : a < top) (hk : k < 256) (w : World) :
    Calls Try.prog 10 #[.agg (wcells a), .int .u8 (k : Int)] w fun e w' => e = .returned (.bool true) ∧ Below w.heap.size w w' := by
  have hpw : 2 ^ k < top := by rw [top_pow]; exact Nat.pow_lt_pow_right (by decide) hk
  have hpw0 := Nat.two_pow_pos k
  have ek : (k : Int).toNat = k := Int.toNat_natCast k
  obtain ⟨j, hj⟩ : ∃ j, k / 2 = j := ⟨_, rfl⟩
  have ej : ((k : Int) / 2).toNat = j := by omega
  have ej2 : ((k : Int) - (k : Int) / 2).toNat = k - j := by omega
  have O1 : ∀ w, Calls Try.prog 16 #[.int .u64 1] w fun e w' => e = .returned (.agg (wcells 1)) ∧ Below w.heap.size w w' := fun w => of_any 1 (by unfold word; omega) w
  have P2 := left_any 1 (k : Int) (by unfold top; omega)
  rw [ek, Nat.one_mul, Nat.mod_eq_of_lt hpw] at P2
  have X3 := mul_any a (2 ^ k) ha hpw
  have D4 := div_some a (2 ^ k) ha hpw hpw0
  have L5 := left_any a (k : Int) ha
  have R6 := right_any a (k : Int) ha
  rw [ek] at L5 R6
  have N7 := len_any (2 ^ k) hpw
  rw [blen_pow, Int.natCast_add] at N7
  have hr : a / 2 ^ k < top := Nat.lt_of_le_of_lt (Nat.div_le_self _ _) ha
  have N8 := len_any (a / 2 ^ k) hr
  have N9 := len_any a ha
  have L10 := left_any a ((k : Int) / 2) ha
  rw [ej] at L10
  have R11 := right_any (a * 2 ^ j % top) ((k : Int) / 2) (mod_top _)
  rw [ej] at R11
  have hh : a * 2 ^ j % top / 2 ^ j ≤ a := by
    have h1 : a * 2 ^ j % top ≤ a * 2 ^ j := Nat.mod_le _ _
    have h2 := Nat.div_le_div_right (c := 2 ^ j) h1
    rwa [Nat.mul_div_cancel _ (Nat.two_pow_pos j)] at h2
  have hht : a * 2 ^ j % top / 2 ^ j < top := Nat.lt_of_le_of_lt hh ha
  have K12 := compare_any (a * 2 ^ j % top / 2 ^ j) a hht ha
  have hc : cmpI ((a * 2 ^ j % top / 2 ^ j : Nat) : Int) (a : Int) ≤ 0 := by
    generalize a * 2 ^ j % top / 2 ^ j = y at *
    unfold cmpI
    split
    · decide
    · split <;> omega
  have L13 := left_any (a * 2 ^ j % top) ((k : Int) - (k : Int) / 2) (mod_top _)
  rw [ej2, Nat.mod_mul_mod, Nat.mul_assoc, ← Nat.pow_add, show j + (k - j) = k by omega] at L13
  have hlr := blen_div a k
  have hl256 : blen a ≤ 256 := len_names a ha
  by_cases hfit : (blen a : Int) + (k : Int) ≤ 256
  · have hlt : a * 2 ^ k < top := by
      rw [top_pow]
      have h1 : a * 2 ^ k < 2 ^ blen a * 2 ^ k := Nat.mul_lt_mul_of_pos_right (blen_lt a) hpw0
      rw [← Nat.pow_add] at h1
      exact Nat.lt_of_lt_of_le h1 (Nat.pow_le_pow_right (by decide) (by omega))
    have R14 := right_any (a * 2 ^ k % top) (k : Int) (mod_top _)
    rw [ek, Nat.mod_eq_of_lt hlt, Nat.mul_div_cancel _ hpw0] at R14
    rw [Nat.mod_eq_of_lt hlt] at X3 L5 L13
    by_cases h0 : a = 0
    · have hA : ∀ w, (Op.equalIn 10000 24 (.agg (wcells a)) (.agg #[.int .u64 0, .int .u64 0, .int .u64 0, .int .u64 0])).run Try.prog w = .ok true w := fun w => by rw [h0]; exact eqW 0 w
      exact shifted_zero a k _ _ _ _ _ _ _ _ _ _ w alive_any O1 P2 X3 D4 L5 R6 N7 N8 N9 L10 R11 K12 L13 R14 hk (by omega) (by omega) hlr hc hfit hA
    · have hA : ∀ w, (Op.equalIn 10000 24 (.agg (wcells a)) (.agg #[.int .u64 0, .int .u64 0, .int .u64 0, .int .u64 0])).run Try.prog w = .ok false w := fun w => by
        have h := run_eqw a 0 ha top_pos w
        rw [decide_eq_false h0] at h
        exact h
      have N15 := len_any (a * 2 ^ k) hlt
      rw [blen_mul a k h0, Int.natCast_add] at N15
      exact shifted_some a k _ _ _ _ _ _ _ _ _ _ w alive_any O1 P2 X3 D4 L5 R6 N7 N8 N9 L10 R11 K12 L13 R14 N15 hk (by omega) (by omega) hlr hc hfit hA
  · exact shifted_far a k _ _ _ _ _ _ _ _ _ _ w alive_any O1 P2 X3 D4 L5 R6 N7 N8 N9 L10 R11 K12 L13 hk (by omega) (by omega) hlr hc (by omega)

set_option maxRecDepth 100000 in
theorem shiftedW_lifted (os : Os) (started : os.Started) (H : Type) (enc : TypeId × Value → H) :
    ReturnsInHanded {} Try.checked os 10 .any (Rows.wideShiftedSpec.pre6 enc Try.prog Try.f10 Rows.wideShiftedRow.domain false) (Rows.wideShiftedSpec.post enc Try.prog Try.f10 false true false false) := by
  refine returnsInHanded_of_change (C := Try.checked) own started (by kernel_rfl) Try.func10
    (ChangeSpec.witness6 (enc := enc) (C := Try.checked) false ⟨#[], #[.agg #[.int .u64 0, .int .u64 0, .int .u64 0, .int .u64 0], .int .u8 0], []⟩ 8 (by kernel_rfl) (by kernel_rfl) (by kernel_rfl) (by kernel_rfl)) ?_
  intro W base args ds gs before hval0 hW hcnd _
  have hval : ∀ (j : Nat) t v, Try.f10.params[j]? = some t → args[j]? = some v → Value.okWide Try.prog W .any base t v := hval0
  have hW' := hW
  obtain ⟨p, q, hA0, hV, rfl, hfz, hnd⟩ := hW
  have hA : DataW.TrodAll enc Try.prog W 0 (fun _ => true) true Try.f10.params.toList args.toList ds p := hA0
  rw [Try.params10] at hA hval
  obtain ⟨v0, vs0, d0, ds0, p0, q0, hargs, rfl, rfl, h0, r0⟩ := trodAll_cons hA
  obtain ⟨v1, vs1, d1, ds1, p1, q1, rfl, rfl, rfl, h1, r1⟩ := trodAll_cons r0
  obtain ⟨rfl, rfl, rfl⟩ := trodAll_nil r1
  obtain rfl : args = #[v0, v1] := by cases args; simp_all
  obtain ⟨rfl, rfl⟩ := trodVars_none hV
  have k0 := h0
  have lt0 : ∀ x ∈ p0, x.block < W.heap.size := by obtain ⟨m, hm⟩ := k0; exact DataW.trod_lt m _ _ _ hm
  have k1 := h1
  have lt1 : ∀ x ∈ p1, x.block < W.heap.size := by obtain ⟨m, hm⟩ := k1; exact DataW.trod_lt m _ _ _ hm
  obtain ⟨cs0, rfl⟩ := okWide_array Try.underlying24 (hval 0 24 v0 rfl rfl)
  obtain ⟨z0, hz0, rfl⟩ := isWide_of k0
  obtain ⟨z1, rfl, rfl, rfl, wz1⟩ := open_int Try.underlying5 (hval 1 5 v1 rfl rfl) h1
  have hz1 := bounds_u8 wz1
  clear hA0 hval0
  obtain ⟨k, rfl⟩ : ∃ k : Nat, z1 = (k : Int) := ⟨z1.toNat, by omega⟩
  refine (shifted_any z0 k hz0 (by omega) W).mono fun e W' ⟨he, bel⟩ => ?_
  subst he
  exact ⟨_, rfl, _, _, _, [], _, [], hW', trodAll_mk1 (shut_bool Try.underlying4 _), (trodAll_cons_mk (Below.trod laidOut (by kernel_rfl) (of_decide_eq_true (by kernel_rfl)) k0 bel lt0) (trodAll_cons_mk (Below.trod laidOut (by kernel_rfl) (of_decide_eq_true (by kernel_rfl)) k1 bel lt1) trodAll_mk0)), rfl, bel.frame _, fun h => by cases h⟩

theorem shiftedW_over : Rows.wideShiftedRow.holds Try.pinned (OpenSpec.ofChange Rows.wideShiftedSpec) :=
  OpenClaim.holds_of_wide 10 Try.f10 rfl rfl rfl rfl rfl rfl rfl ⟨rfl, rfl, rfl, rfl, rfl⟩ rfl rfl rfl rfl rfl (by kernel_rfl) Try.func10 (by kernel_rfl)
    (of_decide_eq_true (by kernel_rfl)) (by unfold Func.isWrapper; first | (rw [if_pos (by decide +kernel)]; kernel_rfl) | (rw [if_neg (by decide +kernel)]; exact ⟨rfl, rfl⟩))
    (fun os started H enc _ => shiftedW_lifted os started H enc)

/-- WideShifted is true at every number and shift. -/
theorem shiftedW_proved : Rows.WideShiftedSaid := shiftedW_over
#print axioms shiftedW_proved
end Go.Proofs.Ytgmgejjlhlibkaa
