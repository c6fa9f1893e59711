/- WideDivided is true at every three numbers. No condition. -/
import Derived.Test.YtgmgejjlhlibkaaWidT
import Derived.Test.YtgmgejjlhlibkaaWidG
namespace Go.Proofs.Ytgmgejjlhlibkaa
open Go.ChangeShapes Go.WideShapes Go.ChangeAt Go.RowKit
set_option linter.unusedVariables false

set_option maxRecDepth 100000 in
set_option maxHeartbeats 1000000 in
theorem divided_any (a b c : Nat) (ha : a < top) (hb : b < top) (hc : c < top) (w : World) :
    Calls Try.prog 9 #[.agg (wcells a), .agg (wcells b), .agg (wcells c)] w fun e w' => e = .returned (.bool true) ∧ Below w.heap.size w w' := by
  by_cases h0 : b = 0
  · subst h0
    exact divided_zero a c w alive_any (fun w => div_zero a w)
  · have hb0 : 0 < b := by omega
    have hq := Nat.div_add_mod a b
    have hr := Nat.mod_lt a hb0
    have hs := Nat.mod_lt c hb0
    have e1 : a / b * b ≤ a := Nat.div_mul_le_self a b
    have hqt : a / b < top := Nat.lt_of_le_of_lt (Nat.div_le_self _ _) ha
    have D1 := div_some a b ha hb hb0
    have X2 := mul_any (a / b) b hqt hb
    rw [Nat.mod_eq_of_lt (by omega), Nat.div_eq_of_lt (show a / b * b < top by omega)] at X2
    have A3 := add_any (a / b * b) (a % b) (by omega) (by omega)
    rw [show a / b * b + a % b = a by rw [Nat.mul_comm]; exact hq, Nat.mod_eq_of_lt ha, decide_eq_false (by omega)] at A3
    have K4 := compare_any (a % b) b (by omega) hb
    have hk : cmpI ((a % b : Nat) : Int) (b : Int) < 0 := by
      unfold cmpI
      rw [if_pos (by omega)]
      decide
    have D5 := div_some c b hc hb hb0
    have X6 := mul_any a b ha hb
    have hF : ∀ w, (Op.equalIn 10000 24 (.agg (wcells b)) (.agg #[.int .u64 0, .int .u64 0, .int .u64 0, .int .u64 0])).run Try.prog w = .ok false w := fun w => by
      have h := run_eqw b 0 hb top_pos w
      rw [decide_eq_false h0] at h
      exact h
    have A7 := add_any (a * b % top) (c % b) (mod_top _) (by omega)
    by_cases hh : a * b / top = 0
    · have hlt : a * b < top := by
        rcases Nat.lt_or_ge (a * b) top with h | h
        · exact h
        · have := Nat.div_pos h top_pos
          omega
      rw [hh] at X6
      rw [Nat.mod_eq_of_lt hlt] at X6 A7
      by_cases ho : top ≤ a * b + c % b
      · rw [decide_eq_true ho] at A7
        exact divided_over a b c _ _ _ _ _ _ _ _ w alive_any D1 X2 A3 K4 D5 X6 A7 hk hF
      · rw [decide_eq_false ho, Nat.mod_eq_of_lt (show a * b + c % b < top by omega)] at A7
        have D8 := div_some (a * b + c % b) b (by omega) hb hb0
        have e8 : (a * b + c % b) / b = a := by rw [Nat.mul_comm a b, Nat.mul_add_div hb0, Nat.div_eq_of_lt hs, Nat.add_zero]
        have e9 : (a * b + c % b) % b = c % b := by rw [Nat.mul_comm a b, Nat.mul_add_mod]; exact Nat.mod_eq_of_lt hs
        rw [e8, e9] at D8
        exact divided_full a b c _ _ _ _ _ _ _ _ w alive_any D1 X2 A3 K4 D5 X6 A7 D8 hk hF
    · have hhi : a * b / top < top := by
        rw [Nat.div_lt_iff_lt_mul top_pos]
        exact Nat.lt_of_le_of_lt (Nat.mul_le_mul_left a (Nat.le_of_lt hb)) (Nat.mul_lt_mul_of_pos_right ha top_pos)
      have hF2 : ∀ w, (Op.equalIn 10000 24 (.agg (wcells (a * b / top))) (.agg #[.int .u64 0, .int .u64 0, .int .u64 0, .int .u64 0])).run Try.prog w = .ok false w := fun w => by
        have h := run_eqw (a * b / top) 0 hhi top_pos w
        rw [decide_eq_false hh] at h
        exact h
      exact divided_high a b c _ _ _ _ _ _ _ _ _ _ w alive_any D1 X2 A3 K4 D5 X6 A7 hk hF hF2

set_option maxRecDepth 100000 in
theorem dividedW_lifted (os : Os) (started : os.Started) (H : Type) (enc : TypeId × Value → H) :
    ReturnsInHanded {} Try.checked os 9 .any (Rows.wideDividedSpec.pre6 enc Try.prog Try.f9 Rows.wideDividedRow.domain false) (Rows.wideDividedSpec.post enc Try.prog Try.f9 false true false false) := by
  refine returnsInHanded_of_change (C := Try.checked) own started (by kernel_rfl) Try.func9
    (ChangeSpec.witness6 (enc := enc) (C := Try.checked) false ⟨#[], #[.agg #[.int .u64 0, .int .u64 0, .int .u64 0, .int .u64 0], .agg #[.int .u64 0, .int .u64 0, .int .u64 0, .int .u64 0], .agg #[.int .u64 0, .int .u64 0, .int .u64 0, .int .u64 0]], []⟩ 8 (by kernel_rfl) (by kernel_rfl) (by kernel_rfl) (by kernel_rfl)) ?_
  intro W base args ds gs before hval0 hW hcnd _
  have hval : ∀ (j : Nat) t v, Try.f9.params[j]? = some t → args[j]? = some v → Value.okWide Try.prog W .any base t v := hval0
  have hW' := hW
  obtain ⟨p, q, hA0, hV, rfl, hfz, hnd⟩ := hW
  have hA : DataW.TrodAll enc Try.prog W 0 (fun _ => true) true Try.f9.params.toList args.toList ds p := hA0
  rw [Try.params9] at hA hval
  obtain ⟨v0, vs0, d0, ds0, p0, q0, hargs, rfl, rfl, h0, r0⟩ := trodAll_cons hA
  obtain ⟨v1, vs1, d1, ds1, p1, q1, rfl, rfl, rfl, h1, r1⟩ := trodAll_cons r0
  obtain ⟨v2, vs2, d2, ds2, p2, q2, rfl, rfl, rfl, h2, r2⟩ := trodAll_cons r1
  obtain ⟨rfl, rfl, rfl⟩ := trodAll_nil r2
  obtain rfl : args = #[v0, v1, v2] := by cases args; simp_all
  obtain ⟨rfl, rfl⟩ := trodVars_none hV
  have k0 := h0
  have lt0 : ∀ x ∈ p0, x.block < W.heap.size := by obtain ⟨m, hm⟩ := k0; exact DataW.trod_lt m _ _ _ hm
  have k1 := h1
  have lt1 : ∀ x ∈ p1, x.block < W.heap.size := by obtain ⟨m, hm⟩ := k1; exact DataW.trod_lt m _ _ _ hm
  have k2 := h2
  have lt2 : ∀ x ∈ p2, x.block < W.heap.size := by obtain ⟨m, hm⟩ := k2; exact DataW.trod_lt m _ _ _ hm
  obtain ⟨cs0, rfl⟩ := okWide_array Try.underlying24 (hval 0 24 v0 rfl rfl)
  obtain ⟨z0, hz0, rfl⟩ := isWide_of k0
  obtain ⟨cs1, rfl⟩ := okWide_array Try.underlying24 (hval 1 24 v1 rfl rfl)
  obtain ⟨z1, hz1, rfl⟩ := isWide_of k1
  obtain ⟨cs2, rfl⟩ := okWide_array Try.underlying24 (hval 2 24 v2 rfl rfl)
  obtain ⟨z2, hz2, rfl⟩ := isWide_of k2
  clear hA0 hval0
  refine (divided_any z0 z1 z2 hz0 hz1 hz2 W).mono fun e W' ⟨he, bel⟩ => ?_
  subst he
  exact ⟨_, rfl, _, _, _, [], _, [], hW', trodAll_mk1 (shut_bool Try.underlying4 _), (trodAll_cons_mk (Below.trod laidOut (by kernel_rfl) (of_decide_eq_true (by kernel_rfl)) k0 bel lt0) (trodAll_cons_mk (Below.trod laidOut (by kernel_rfl) (of_decide_eq_true (by kernel_rfl)) k1 bel lt1) (trodAll_cons_mk (Below.trod laidOut (by kernel_rfl) (of_decide_eq_true (by kernel_rfl)) k2 bel lt2) trodAll_mk0))), rfl, bel.frame _, fun h => by cases h⟩

theorem dividedW_over : Rows.wideDividedRow.holds Try.pinned (OpenSpec.ofChange Rows.wideDividedSpec) :=
  OpenClaim.holds_of_wide 9 Try.f9 rfl rfl rfl rfl rfl rfl rfl ⟨rfl, rfl, rfl, rfl, rfl⟩ rfl rfl rfl rfl rfl (by kernel_rfl) Try.func9 (by kernel_rfl)
    (of_decide_eq_true (by kernel_rfl)) (by unfold Func.isWrapper; first | (rw [if_pos (by decide +kernel)]; kernel_rfl) | (rw [if_neg (by decide +kernel)]; exact ⟨rfl, rfl⟩))
    (fun os started H enc _ => dividedW_lifted os started H enc)

/-- WideDivided is true at every three numbers. -/
theorem dividedW_proved : Rows.WideDividedSaid := dividedW_over
#print axioms dividedW_proved
end Go.Proofs.Ytgmgejjlhlibkaa
