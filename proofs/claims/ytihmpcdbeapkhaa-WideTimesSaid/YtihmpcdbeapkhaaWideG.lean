/- WideUndone is true at every three numbers. No condition. -/
import Derived.Test.YtihmpcdbeapkhaaWideF
import Derived.ChangeOld
namespace Go.Proofs.Ytihmpcdbeapkhaa
open Go.ChangeShapes Go.WideShapes Go.ChangeAt Go.RowKit
set_option linter.unusedVariables false

theorem own : ownKnob Try.prog.godebug = none := by kernel_rfl
theorem laidOut : laidOutB Try.prog = true := by kernel_rfl

/-- A number, read: its cells are its four words. -/
theorem isWide_of {H : Type} {enc : TypeId × Value → H} {w : World} {base : Nat} {spare : Nat → Bool} {held : Bool} {cs : Array Value} {d : DataW H} {ps : List MemPlace}
    (h : DataW.Trod enc Try.prog w base spare held 24 (.agg cs) d ps) : ∃ n, n < top ∧ cs = wcells n := by
  obtain ⟨fuel, hf⟩ := h
  have hc22 : Try.prog.cellsOf 22 = 1 := by kernel_rfl
  have hc24 : Try.prog.cellsOf 24 = 4 := by kernel_rfl
  have e1 : (Value.agg cs).cells.toList = cs.toList := rfl
  rw [e1] at hf
  obtain ⟨hl, hb⟩ := trod_ints Try.underlying24 Try.underlying22 hc22 hf
  rw [hc24] at hl
  have hw : ∀ i, i < 4 → ∃ n : Nat, cs.toList[i]? = some (.int .u64 (n : Int)) ∧ word n := by
    intro i hi
    obtain ⟨z, hz, hwf⟩ := hb i hi
    have hbd := bounds_u64 hwf
    refine ⟨z.toNat, ?_, ?_⟩
    · rw [hz, Int.toNat_of_nonneg hbd.1]
    · unfold word
      omega
  obtain ⟨a0, h0, k0⟩ := hw 0 (by omega)
  obtain ⟨a1, h1, k1⟩ := hw 1 (by omega)
  obtain ⟨a2, h2, k2⟩ := hw 2 (by omega)
  obtain ⟨a3, h3, k3⟩ := hw 3 (by omega)
  refine ⟨num4 a0 a1 a2 a3, num4_lt _ _ _ _ k0 k1 k2 k3, ?_⟩
  rw [wcells_num4 k0 k1 k2 k3]
  obtain ⟨l⟩ := cs
  simp only at hl h0 h1 h2 h3
  match l, hl with
  | [c0, c1, c2, c3], _ =>
    simp at h0 h1 h2 h3
    subst h0 h1 h2 h3
    rfl

/-- A value of an array type is an aggregate. -/
theorem okWide_array {P : Program} {w : World} {r : Reach} {base : Nat} {t e : TypeId} {n : Nat} {v : Value} (ht : P.underlying t = some (.array n e)) (h : Value.okWide P w r base t v) : ∃ cs, v = .agg cs := by
  unfold Value.okWide at h
  rw [ht] at h
  obtain ⟨cs, hv, _⟩ := h
  exact ⟨cs, hv⟩

set_option maxRecDepth 100000 in
theorem undone_any (a b c : Nat) (ha : a < top) (hb : b < top) (hc : c < top) (w : World) :
    Calls Try.prog 8 #[.agg (wcells a), .agg (wcells b), .agg (wcells c)] w fun e w' => e = .returned (.bool true) ∧ Below w.heap.size w w' := by
  have e2 : (b + a) % top = (a + b) % top := by rw [Nat.add_comm]
  have d2 : decide (top ≤ b + a) = decide (top ≤ a + b) := by rw [Nat.add_comm]
  have hlow : a + b < top → (a + b) % top = a + b := fun h => Nat.mod_eq_of_lt h
  have hhigh : top ≤ a + b → (a + b) % top = a + b - top := fun h => by rw [Nat.mod_eq_sub_mod h]; exact Nat.mod_eq_of_lt (by omega)
  have e3 : ((a + b) % top + top - b) % top = a := by
    rcases Nat.lt_or_ge (a + b) top with h | h
    · rw [hlow h, show a + b + top - b = a + top by omega, Nat.add_mod_right, Nat.mod_eq_of_lt ha]
    · rw [hhigh h, show a + b - top + top - b = a by omega, Nat.mod_eq_of_lt ha]
  have d3 : decide ((a + b) % top < b) = decide (top ≤ a + b) := by
    rcases Nat.lt_or_ge (a + b) top with h | h
    · rw [hlow h, decide_eq_false (by omega), decide_eq_false (by omega)]
    · rw [hhigh h, decide_eq_true (by omega), decide_eq_true h]
  have dc : ∀ x y : Nat, decide (cmpI x y < 0) = decide (x < y) := by
    intro x y
    unfold cmpI
    by_cases h : x < y
    · have h1 : (x : Int) < y := by omega
      simp [h1, h]
    · have h1 : ¬ (x : Int) < y := by omega
      by_cases h2 : (y : Int) < x <;> simp [h1, h2, h]
  have d1 : decide (cmpI ((a + b) % top : Nat) a < 0) = decide (top ≤ a + b) := by
    rw [dc]
    rcases Nat.lt_or_ge (a + b) top with h | h
    · rw [hlow h, decide_eq_false (by omega), decide_eq_false (by omega)]
    · rw [hhigh h, decide_eq_true (by omega), decide_eq_true h]
  have d4 : decide (cmpI a b < 0) = decide (a < b) := dc a b
  have e6 : (a + (b + c) % top) % top = ((a + b) % top + c) % top := by rw [Nat.add_mod_mod, Nat.mod_add_mod, Nat.add_assoc]
  have hnb : top - 1 - b < top := by omega
  have e9 : ((a + (top - 1 - b)) % top + 1) % top = (a + top - b) % top := by
    rw [Nat.mod_add_mod, show a + (top - 1 - b) + 1 = a + top - b by omega]
  have A1 := add_any a b ha hb
  have A2 := add_any b a hb ha
  rw [e2, d2] at A2
  have S3 := sub_any ((a + b) % top) b (mod_top _) hb
  rw [e3, d3] at S3
  have A4 := add_any ((a + b) % top) c (mod_top _) hc
  have A5 := add_any b c hb hc
  have A6 := add_any a ((b + c) % top) ha (mod_top _)
  rw [e6] at A6
  have S7 := sub_any a b ha hb
  have A8 := add_any a (top - 1 - b) ha hnb
  have O9 : ∀ w, Calls Try.prog 16 #[.int .u64 1] w fun e w' => e = .returned (.agg (wcells 1)) ∧ Below w.heap.size w w' := fun w => of_any 1 (by unfold word; omega) w
  have A9 := add_any ((a + (top - 1 - b)) % top) 1 (mod_top _) (by unfold top; omega)
  rw [e9] at A9
  exact undone_walk a b c _ _ _ _ _ _ _ _ _ _ _ _ _ _ _ w alive_any A1 A2 S3 A4 A5 A6 S7 (fun w => not_any b hb w) A8 O9 A9 (fun w => compare_any _ _ (mod_top _) ha w) (fun w => compare_any a b ha hb w) d1 d4

set_option maxRecDepth 100000 in
theorem undone_lifted (os : Os) (started : os.Started) (H : Type) (enc : TypeId × Value → H) :
    ReturnsInHanded {} Try.checked os 8 .any (Rows.wideUndoneSpec.pre6 enc Try.prog Try.f8 Rows.wideUndoneRow.domain false) (Rows.wideUndoneSpec.post enc Try.prog Try.f8 false true false false) := by
  refine returnsInHanded_of_change (C := Try.checked) own started (by kernel_rfl) Try.func8
    (ChangeSpec.witness6 (enc := enc) (C := Try.checked) false ⟨#[], #[.agg #[.int .u64 0, .int .u64 0, .int .u64 0, .int .u64 0], .agg #[.int .u64 0, .int .u64 0, .int .u64 0, .int .u64 0], .agg #[.int .u64 0, .int .u64 0, .int .u64 0, .int .u64 0]], []⟩ 8 (by kernel_rfl) (by kernel_rfl) (by kernel_rfl) (by kernel_rfl)) ?_
  intro W base args ds gs before hval0 hW hcnd _
  have hval : ∀ (j : Nat) t v, Try.f8.params[j]? = some t → args[j]? = some v → Value.okWide Try.prog W .any base t v := hval0
  have hW' := hW
  obtain ⟨p, q, hA0, hV, rfl, hfz, hnd⟩ := hW
  have hA : DataW.TrodAll enc Try.prog W 0 (fun _ => true) true Try.f8.params.toList args.toList ds p := hA0
  rw [Try.params8] at hA hval
  obtain ⟨v0, vs0, d0, ds0, p0, q0, hargs, rfl, rfl, h0, r0⟩ := trodAll_cons hA
  obtain ⟨v1, vs1, d1, ds1, p1, q1, rfl, rfl, rfl, h1, r1⟩ := trodAll_cons r0
  obtain ⟨v2, vs2, d2, ds2, p2, q2, rfl, rfl, rfl, h2, r2⟩ := trodAll_cons r1
  obtain ⟨rfl, rfl, rfl⟩ := trodAll_nil r2
  obtain rfl : args = #[v0, v1, v2] := by cases args; simp_all
  obtain ⟨rfl, rfl⟩ := trodVars_none hV
  obtain ⟨cs0, rfl⟩ := okWide_array Try.underlying24 (hval 0 24 v0 rfl rfl)
  obtain ⟨cs1, rfl⟩ := okWide_array Try.underlying24 (hval 1 24 v1 rfl rfl)
  obtain ⟨cs2, rfl⟩ := okWide_array Try.underlying24 (hval 2 24 v2 rfl rfl)
  have k0 := h0
  have k1 := h1
  have k2 := h2
  have lt0 : ∀ x ∈ p0, x.block < W.heap.size := by obtain ⟨m, hm⟩ := k0; exact DataW.trod_lt m _ _ _ hm
  have lt1 : ∀ x ∈ p1, x.block < W.heap.size := by obtain ⟨m, hm⟩ := k1; exact DataW.trod_lt m _ _ _ hm
  have lt2 : ∀ x ∈ p2, x.block < W.heap.size := by obtain ⟨m, hm⟩ := k2; exact DataW.trod_lt m _ _ _ hm
  obtain ⟨a, ha, rfl⟩ := isWide_of k0
  obtain ⟨b, hb, rfl⟩ := isWide_of k1
  obtain ⟨c, hc, rfl⟩ := isWide_of k2
  clear hA0 hval0
  refine (undone_any a b c ha hb hc W).mono fun e W' ⟨he, bel⟩ => ?_
  subst he
  exact ⟨_, rfl, _, _, _, [], _, [], hW', trodAll_mk1 (shut_bool Try.underlying4 _), (trodAll_cons_mk (Below.trod laidOut (by kernel_rfl) (of_decide_eq_true (by kernel_rfl)) k0 bel lt0) (trodAll_cons_mk (Below.trod laidOut (by kernel_rfl) (of_decide_eq_true (by kernel_rfl)) k1 bel lt1) (trodAll_cons_mk (Below.trod laidOut (by kernel_rfl) (of_decide_eq_true (by kernel_rfl)) k2 bel lt2) trodAll_mk0))), rfl, bel.frame _, fun h => by cases h⟩

theorem undone_over : Rows.wideUndoneRow.holds Try.pinned (OpenSpec.ofChange Rows.wideUndoneSpec) :=
  OpenClaim.holds_of_wide 8 Try.f8 rfl rfl rfl rfl rfl rfl rfl ⟨rfl, rfl, rfl, rfl, rfl⟩ rfl rfl rfl rfl rfl (by kernel_rfl) Try.func8 (by kernel_rfl)
    (of_decide_eq_true (by kernel_rfl)) (by unfold Func.isWrapper; first | (rw [if_pos (by decide +kernel)]; kernel_rfl) | (rw [if_neg (by decide +kernel)]; exact ⟨rfl, rfl⟩))
    (fun os started H enc _ => undone_lifted os started H enc)

/-- WideUndone is true at every three numbers. -/
theorem undone_proved : Rows.WideUndoneSaid := undone_over
#print axioms undone_proved
end Go.Proofs.Ytihmpcdbeapkhaa
