/- WideQuotients is true at every two numbers. No condition. -/
import Derived.Test.YtgmgejjlhlibkaaWidT
import Derived.Test.YtgmgejjlhlibkaaWidG
import Derived.Test.YtgmgejjlhlibkaaRefWG
namespace Go.Proofs.Ytgmgejjlhlibkaa
set_option linter.unusedVariables false
open Go.ChangeShapes Go.WideShapes Go.ChangeAt Go.RowKit Oct

theorem keeps2q (w : World) (A B : Array Value) (t : TypeId) : Keeps w [(w.heap.size, A, t), (w.heap.size + 1, B, t)] ((w.alloc (.cells A t)).alloc (.cells B t)) := by
  have h := ((Keeps.nil w).new A t).new B t
  simp only [World.size_alloc, List.nil_append, List.cons_append] at h
  exact h

set_option maxRecDepth 100000 in
set_option maxHeartbeats 4000000 in
theorem quot_words (a b q r : Nat) (e0 : Int) (w : World)
    (D1 : Hid (∀ w, Calls Try.prog 38 #[.agg (wcells a), .agg (wcells b)] w fun e w' => e = .returned (.tuple #[.agg (wcells q), .agg (wcells r), .int .i64 e0]) ∧ Below w.heap.size w w'))
    (D2 : Hid (∀ w, Calls Try.prog 39 #[.agg (wcells a), .agg (wcells b)] w fun e w' => e = .returned (.tuple #[.agg (wcells q), .agg (wcells r), .int .i64 e0]) ∧ Below w.heap.size w w')) :
    Calls Try.prog 5 #[.agg (wcells a), .agg (wcells b)] w fun e w' => e = .returned (.bool true) ∧ Below w.heap.size w w' := by
  have hE := eqW
  have hH := keeps2q w (wcells a) (wcells b) 24
  go_enter Try.func5, Try.ntmps5
  have tk0 : True := trivial
  go_wp2_with (first | (go_at_call 38; with_reducible refine (D1.out _).mono ?_; rintro e W1 ⟨rfl, hB⟩; replace hH := hH.call hB; clear hB) | (go_at_call 39; with_reducible refine (D2.out _).mono ?_; rintro e W1 ⟨rfl, hB⟩; replace hH := hH.call hB; clear hB) | (have _t := tk0; refine wpList_boxg hH 0 24 _ rfl rfl rfl _ Try.underlying24 rfl (infoW _) (by rfl) ?_; clear _t tk0; have tk1 : True := trivial) | (have _t := tk1; refine wpList_boxg hH 1 24 _ rfl rfl rfl _ Try.underlying24 rfl (infoW _) (by rfl) ?_; clear _t tk1; have tk2 : True := trivial) | (have _t := tk2; refine wpList_fill2 hH rfl 24 _ _ rfl rfl rfl (infoW _) rfl (oneW _) ?_; clear _t tk2 hH; have tk3 : True := trivial; intro W1 hH) | (have _t := tk3; refine wpList_put hH 3 rfl 24 _ _ rfl rfl rfl rfl (infoW _) rfl (oneW _) ?_; clear _t tk3 hH; have tk4 : True := trivial; intro W1 hH) | (have _t := tk4; refine wpList_boxg hH 0 24 _ rfl rfl rfl _ Try.underlying24 rfl (infoW _) (by rfl) ?_; clear _t tk4; have tk5 : True := trivial) | (have _t := tk5; refine wpList_boxg hH 1 24 _ rfl rfl rfl _ Try.underlying24 rfl (infoW _) (by rfl) ?_; clear _t tk5; have tk6 : True := trivial) | (have _t := tk6; refine wpList_fill2 hH rfl 24 _ _ rfl rfl rfl (infoW _) rfl (oneW _) ?_; clear _t tk6 hH; have tk7 : True := trivial; intro W1 hH) | (have _t := tk7; refine wpList_put hH 5 rfl 24 _ _ rfl rfl rfl rfl (infoW _) rfl (oneW _) ?_; clear _t tk7 hH; have tk8 : True := trivial; intro W1 hH) | (have _t := tk8; refine wpList_boxg hH 2 24 _ rfl rfl rfl _ Try.underlying24 rfl (infoW _) (by rfl) ?_; clear _t tk8; have tk9 : True := trivial) | (have _t := tk9; refine wpList_boxg hH 4 24 _ rfl rfl rfl _ Try.underlying24 rfl (infoW _) (by rfl) ?_; clear _t tk9; have tk10 : True := trivial) | (have _t := tk10; refine wpList_boxg hH 3 24 _ rfl rfl rfl _ Try.underlying24 rfl (infoW _) (by rfl) ?_; clear _t tk10; have tk11 : True := trivial) | (have _t := tk11; refine wpList_boxg hH 5 24 _ rfl rfl rfl _ Try.underlying24 rfl (infoW _) (by rfl) ?_; clear _t tk11; have tk12 : True := trivial))
  go_ret
  exact ⟨rfl, hH.bel⟩

theorem quot_any (a b : Nat) (ha : a < top) (hb : b < top) (w : World) :
    Calls Try.prog 5 #[.agg (wcells a), .agg (wcells b)] w fun e w' => e = .returned (.bool true) ∧ Below w.heap.size w w' := by
  by_cases h0 : b = 0
  · subst h0
    exact quot_words a 0 _ _ _ w (div_zero a) (rDiv_zero a)
  · exact quot_words a b _ _ _ w (div_some a b ha hb (by omega)) (rDiv_some a b ha hb (by omega))

set_option maxRecDepth 100000 in
theorem quotW_lifted (os : Os) (started : os.Started) (H : Type) (enc : TypeId × Value → H) :
    ReturnsInHanded {} Try.checked os 5 .any (Rows.wideQuotientsSpec.pre6 enc Try.prog Try.f5 Rows.wideQuotientsRow.domain false) (Rows.wideQuotientsSpec.post enc Try.prog Try.f5 false true false false) := by
  refine returnsInHanded_of_change (C := Try.checked) Go.Proofs.Ytgmgejjlhlibkaa.own started (by kernel_rfl) Try.func5
    (ChangeSpec.witness6 (enc := enc) (C := Try.checked) false ⟨#[], #[.agg #[.int .u64 0, .int .u64 0, .int .u64 0, .int .u64 0], .agg #[.int .u64 0, .int .u64 0, .int .u64 0, .int .u64 0]], []⟩ 8 (by kernel_rfl) (by kernel_rfl) (by kernel_rfl) (by kernel_rfl)) ?_
  intro W base args ds gs before hval0 hW hcnd _
  have hval : ∀ (j : Nat) t v, Try.f5.params[j]? = some t → args[j]? = some v → Value.okWide Try.prog W .any base t v := hval0
  have hW' := hW
  obtain ⟨p, q, hA0, hV, rfl, hfz, hnd⟩ := hW
  have hA : DataW.TrodAll enc Try.prog W 0 (fun _ => true) true Try.f5.params.toList args.toList ds p := hA0
  rw [Try.params5] at hA hval
  obtain ⟨v0, vs0, d0, ds0, p0, q0, hargs, rfl, rfl, h0, r0⟩ := trodAll_cons hA
  obtain ⟨v1, vs1, d1, ds1, p1, q1, rfl, rfl, rfl, h1, r1⟩ := trodAll_cons r0
  obtain ⟨rfl, rfl, rfl⟩ := trodAll_nil r1
  obtain rfl : args = #[v0, v1] := by cases args; simp_all
  obtain ⟨rfl, rfl⟩ := trodVars_none hV
  have k0 := h0
  have lt0 : ∀ x ∈ p0, x.block < W.heap.size := by obtain ⟨m, hm⟩ := k0; exact DataW.trod_lt m _ _ _ hm
  have k1 := h1
  have lt1 : ∀ x ∈ p1, x.block < W.heap.size := by obtain ⟨m, hm⟩ := k1; exact DataW.trod_lt m _ _ _ hm
  obtain ⟨cs0, rfl⟩ := okWide_array Try.underlying24 (hval 0 24 v0 rfl rfl)
  obtain ⟨z0, hz0, rfl⟩ := isWide_of k0
  obtain ⟨cs1, rfl⟩ := okWide_array Try.underlying24 (hval 1 24 v1 rfl rfl)
  obtain ⟨z1, hz1, rfl⟩ := isWide_of k1
  clear hA0 hval0
  refine (quot_any z0 z1 hz0 hz1 W).mono fun e W' ⟨he, bel⟩ => ?_
  subst he
  exact ⟨_, rfl, _, _, _, [], _, [], hW', trodAll_mk1 (shut_bool Try.underlying4 _), (trodAll_cons_mk (Below.trod Go.Proofs.Ytgmgejjlhlibkaa.laidOut (by kernel_rfl) (of_decide_eq_true (by kernel_rfl)) k0 bel lt0) (trodAll_cons_mk (Below.trod Go.Proofs.Ytgmgejjlhlibkaa.laidOut (by kernel_rfl) (of_decide_eq_true (by kernel_rfl)) k1 bel lt1) trodAll_mk0)), rfl, bel.frame _, fun h => by cases h⟩

theorem quotW_over : Rows.wideQuotientsRow.holds Try.pinned (OpenSpec.ofChange Rows.wideQuotientsSpec) :=
  OpenClaim.holds_of_wide 5 Try.f5 rfl rfl rfl rfl rfl rfl rfl ⟨rfl, rfl, rfl, rfl, rfl⟩ rfl rfl rfl rfl rfl (by kernel_rfl) Try.func5 (by kernel_rfl)
    (of_decide_eq_true (by kernel_rfl)) (by unfold Func.isWrapper; first | (rw [if_pos (by decide +kernel)]; kernel_rfl) | (rw [if_neg (by decide +kernel)]; exact ⟨rfl, rfl⟩))
    (fun os started H enc _ => quotW_lifted os started H enc)

/-- WideQuotients is true at every two numbers. -/
theorem quotW_proved : Rows.WideQuotientsSaid := quotW_over
#print axioms quotW_proved
end Go.Proofs.Ytgmgejjlhlibkaa
