/- WideTimes is true at every three numbers. No condition. -/
import Derived.Test.YtihmpcdbeapkhaaWideG
import Derived.Test.YtihmpcdbeapkhaaWideH
namespace Go.Proofs.Ytihmpcdbeapkhaa
open Go.ChangeShapes Go.WideShapes Go.ChangeAt Go.RowKit
set_option linter.unusedVariables false

theorem half_cells (c0 c1 : Nat) (h0 : word c0) (h1 : word c1) : (#[.int .u64 c0, .int .u64 ((c1 : Int) / 2), .int .u64 0, .int .u64 0] : Array Value) = wcells (num4 c0 (c1 / 2) 0 0) := by
  have hz : word 0 := by unfold word; omega
  have hh : word (c1 / 2) := by unfold word at *; omega
  rw [wcells_num4 h0 hh hz hz]
  unfold cells4
  simp

theorem low_cells (c0 c1 : Nat) (h0 : word c0) (h1 : word c1) : (#[.int .u64 c0, .int .u64 c1, .int .u64 0, .int .u64 0] : Array Value) = wcells (num4 c0 c1 0 0) := by
  have hz : word 0 := by unfold word; omega
  rw [wcells_num4 h0 h1 hz hz]
  unfold cells4
  simp

theorem mul_small {x y : Nat} (hx : x < 340282366920938463463374607431768211456) (hy : y < 340282366920938463463374607431768211456) : x * y < top := by
  have h := Nat.mul_le_mul (Nat.le_sub_one_of_lt hx) (Nat.le_sub_one_of_lt hy)
  unfold top
  omega

set_option maxRecDepth 100000 in
theorem times_any (a b c : Nat) (ha : a < top) (hb : b < top) (hc : c < top) (w : World) :
    Calls Try.prog 11 #[.agg (wcells a), .agg (wcells b), .agg (wcells c)] w fun e w' => e = .returned (.bool true) ∧ Below w.heap.size w w' := by
  obtain ⟨ha0, ha1, ha2, ha3, _⟩ := words_of a
  obtain ⟨hb0, hb1, hb2, hb3, _⟩ := words_of b
  obtain ⟨hc0, hc1, hc2, hc3, _⟩ := words_of c
  have eA := low_cells (w0 a) (w1 a) ha0 ha1
  have eB := half_cells (w0 b) (w1 b) hb0 hb1
  have eC := half_cells (w0 c) (w1 c) hc0 hc1
  have lA : num4 (w0 a) (w1 a) 0 0 < 340282366920938463463374607431768211456 := by unfold num4 word at *; omega
  have lB : num4 (w0 b) (w1 b / 2) 0 0 < 170141183460469231731687303715884105728 := by unfold num4 word at *; omega
  have lC : num4 (w0 c) (w1 c / 2) 0 0 < 170141183460469231731687303715884105728 := by unfold num4 word at *; omega
  unfold wcells
  generalize hA : num4 (w0 a) (w1 a) 0 0 = A at *
  generalize hB : num4 (w0 b) (w1 b / 2) 0 0 = B at *
  generalize hC : num4 (w0 c) (w1 c / 2) 0 0 = C at *
  clear hA hB hC
  have tA : A < top := by unfold top; omega
  have tB : B < top := by unfold top; omega
  have tC : C < top := by unfold top; omega
  have mAB := mul_small lA (show B < 340282366920938463463374607431768211456 by omega)
  have mAC := mul_small lA (show C < 340282366920938463463374607431768211456 by omega)
  have mAS := mul_small lA (show B + C < 340282366920938463463374607431768211456 by omega)
  have tS : B + C < top := by unfold top; omega
  have X1 := mul_any A B tA tB
  rw [Nat.mod_eq_of_lt mAB, Nat.div_eq_of_lt mAB] at X1
  have X2 := mul_any B A tB tA
  rw [Nat.mul_comm B A, Nat.mod_eq_of_lt mAB, Nat.div_eq_of_lt mAB] at X2
  have A3 := add_any B C tB tC
  rw [Nat.mod_eq_of_lt tS] at A3
  have X4 := mul_any A (B + C) tA tS
  rw [Nat.mod_eq_of_lt mAS, Nat.div_eq_of_lt mAS] at X4
  have X5 := mul_any A C tA tC
  rw [Nat.mod_eq_of_lt mAC, Nat.div_eq_of_lt mAC] at X5
  have A6 := add_any (A * B) (A * C) mAB mAC
  rw [← Nat.mul_add, Nat.mod_eq_of_lt mAS, decide_eq_false (Nat.not_le_of_lt mAS)] at A6
  have t1 : 1 < top := by unfold top; omega
  have t0 : 0 < top := by unfold top; omega
  have O7 : ∀ w, Calls Try.prog 16 #[.int .u64 1] w fun e w' => e = .returned (.agg (wcells 1)) ∧ Below w.heap.size w w' := fun w => of_any 1 (by unfold word; omega) w
  have X8 := mul_any A 1 tA t1
  rw [Nat.mul_one, Nat.mod_eq_of_lt tA, Nat.div_eq_of_lt tA] at X8
  have X9 := mul_any A 0 tA t0
  rw [Nat.mul_zero, Nat.mod_eq_of_lt t0, Nat.div_eq_of_lt t0] at X9
  rw [← eA, ← eB] at X1
  exact times_walk _ _ _ _ _ _ _ _ _ _ _ _ A B C (A * B) (B + C) (A * (B + C)) (A * C) _ w eA eB eC alive_any X1 X2 A3 X4 X5 A6 O7 X8 X9

set_option maxRecDepth 100000 in
theorem times_lifted (os : Os) (started : os.Started) (H : Type) (enc : TypeId × Value → H) :
    ReturnsInHanded {} Try.checked os 11 .any (Rows.wideTimesSpec.pre6 enc Try.prog Try.f11 Rows.wideTimesRow.domain false) (Rows.wideTimesSpec.post enc Try.prog Try.f11 false true false false) := by
  refine returnsInHanded_of_change (C := Try.checked) own started (by kernel_rfl) Try.func11
    (ChangeSpec.witness6 (enc := enc) (C := Try.checked) false ⟨#[], #[.agg #[.int .u64 0, .int .u64 0, .int .u64 0, .int .u64 0], .agg #[.int .u64 0, .int .u64 0, .int .u64 0, .int .u64 0], .agg #[.int .u64 0, .int .u64 0, .int .u64 0, .int .u64 0]], []⟩ 8 (by kernel_rfl) (by kernel_rfl) (by kernel_rfl) (by kernel_rfl)) ?_
  intro W base args ds gs before hval0 hW hcnd _
  have hval : ∀ (j : Nat) t v, Try.f11.params[j]? = some t → args[j]? = some v → Value.okWide Try.prog W .any base t v := hval0
  have hW' := hW
  obtain ⟨p, q, hA0, hV, rfl, hfz, hnd⟩ := hW
  have hA : DataW.TrodAll enc Try.prog W 0 (fun _ => true) true Try.f11.params.toList args.toList ds p := hA0
  rw [Try.params11] at hA hval
  obtain ⟨v0, vs0, d0, ds0, p0, q0, hargs, rfl, rfl, h0, r0⟩ := trodAll_cons hA
  obtain ⟨v1, vs1, d1, ds1, p1, q1, rfl, rfl, rfl, h1, r1⟩ := trodAll_cons r0
  obtain ⟨v2, vs2, d2, ds2, p2, q2, rfl, rfl, rfl, h2, r2⟩ := trodAll_cons r1
  obtain ⟨rfl, rfl, rfl⟩ := trodAll_nil r2
  obtain rfl : args = #[v0, v1, v2] := by cases args; simp_all
  obtain ⟨rfl, rfl⟩ := trodVars_none hV
  obtain ⟨cs0, rfl⟩ := okWide_array Try.underlying24 (hval 0 24 v0 rfl rfl)
  obtain ⟨cs1, rfl⟩ := okWide_array Try.underlying24 (hval 1 24 v1 rfl rfl)
  obtain ⟨cs2, rfl⟩ := okWide_array Try.underlying24 (hval 2 24 v2 rfl rfl)
  have k0 := h0
  have k1 := h1
  have k2 := h2
  have lt0 : ∀ x ∈ p0, x.block < W.heap.size := by obtain ⟨m, hm⟩ := k0; exact DataW.trod_lt m _ _ _ hm
  have lt1 : ∀ x ∈ p1, x.block < W.heap.size := by obtain ⟨m, hm⟩ := k1; exact DataW.trod_lt m _ _ _ hm
  have lt2 : ∀ x ∈ p2, x.block < W.heap.size := by obtain ⟨m, hm⟩ := k2; exact DataW.trod_lt m _ _ _ hm
  obtain ⟨a, ha, rfl⟩ := isWide_of k0
  obtain ⟨b, hb, rfl⟩ := isWide_of k1
  obtain ⟨c, hc, rfl⟩ := isWide_of k2
  clear hA0 hval0
  refine (times_any a b c ha hb hc W).mono fun e W' ⟨he, bel⟩ => ?_
  subst he
  exact ⟨_, rfl, _, _, _, [], _, [], hW', trodAll_mk1 (shut_bool Try.underlying4 _), (trodAll_cons_mk (Below.trod laidOut (by kernel_rfl) (of_decide_eq_true (by kernel_rfl)) k0 bel lt0) (trodAll_cons_mk (Below.trod laidOut (by kernel_rfl) (of_decide_eq_true (by kernel_rfl)) k1 bel lt1) (trodAll_cons_mk (Below.trod laidOut (by kernel_rfl) (of_decide_eq_true (by kernel_rfl)) k2 bel lt2) trodAll_mk0))), rfl, bel.frame _, fun h => by cases h⟩

theorem times_over : Rows.wideTimesRow.holds Try.pinned (OpenSpec.ofChange Rows.wideTimesSpec) :=
  OpenClaim.holds_of_wide 11 Try.f11 rfl rfl rfl rfl rfl rfl rfl ⟨rfl, rfl, rfl, rfl, rfl⟩ rfl rfl rfl rfl rfl (by kernel_rfl) Try.func11 (by kernel_rfl)
    (of_decide_eq_true (by kernel_rfl)) (by unfold Func.isWrapper; first | (rw [if_pos (by decide +kernel)]; kernel_rfl) | (rw [if_neg (by decide +kernel)]; exact ⟨rfl, rfl⟩))
    (fun os started H enc _ => times_lifted os started H enc)

/-- WideTimes is true at every three numbers. -/
theorem times_proved : Rows.WideTimesSaid := times_over
#print axioms times_proved
end Go.Proofs.Ytihmpcdbeapkhaa
