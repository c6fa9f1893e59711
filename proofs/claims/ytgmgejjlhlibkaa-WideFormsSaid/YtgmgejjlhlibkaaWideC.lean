/- Contracts of wide.Not and wide.Compare, word by word; and '==' on two numbers. Each names its conditions. -/
import Derived.Test.YtgmgejjlhlibkaaWideB
import Derived.Laws.Bits64b
import Derived.Laws.BitsAllLaws
namespace Go.Proofs.Ytgmgejjlhlibkaa
open Go.RowKit Go.Lib

/-- '==' on two numbers: word by word. -/
theorem run_eq4 (a0 a1 a2 a3 b0 b1 b2 b3 : Nat) (w : World) :
    (Op.equalIn 10000 24 (.agg (cells4 a0 a1 a2 a3)) (.agg (cells4 b0 b1 b2 b3))).run Try.prog w = .ok (decide (a0 = b0 ∧ a1 = b1 ∧ a2 = b2 ∧ a3 = b3)) w := by
  have h := run_equalIn_row (P := Try.prog) 9998 24 22 .u64 4 [(a0 : Int), a1, a2, a3] [(b0 : Int), b1, b2, b3] Try.underlying24 Try.underlying22 (by kernel_rfl) rfl rfl w
  have e : ([(a0 : Int), a1, a2, a3] == [(b0 : Int), b1, b2, b3]) = decide (a0 = b0 ∧ a1 = b1 ∧ a2 = b2 ∧ a3 = b3) := by
    rw [Bool.eq_iff_iff]
    simp
    omega
  rw [← e]
  exact h

/-- '==' on two numbers. -/
theorem run_eqw (a b : Nat) (ha : a < top) (hb : b < top) (w : World) : (Op.equalIn 10000 24 (.agg (wcells a)) (.agg (wcells b))).run Try.prog w = .ok (decide (a = b)) w := by
  obtain ⟨_, _, _, _, hA⟩ := words_of a
  obtain ⟨_, _, _, _, hB⟩ := words_of b
  have h := run_eq4 (w0 a) (w1 a) (w2 a) (w3 a) (w0 b) (w1 b) (w2 b) (w3 b) w
  have e : decide (w0 a = w0 b ∧ w1 a = w1 b ∧ w2 a = w2 b ∧ w3 a = w3 b) = decide (a = b) := by
    rw [Bool.eq_iff_iff]
    simp only [decide_eq_true_eq]
    constructor
    · rintro ⟨h0, h1, h2, h3⟩
      rw [hA ha, hB hb, h0, h1, h2, h3]
    · rintro rfl
      exact ⟨rfl, rfl, rfl, rfl⟩
  rw [← e]
  exact h

theorem xor_all (a : Nat) (ha : word a) : 18446744073709551615 ^^^ a = 18446744073709551615 - a := by
  unfold word at ha
  have h1 : (~~~(BitVec.ofNat 64 a)).toNat = 18446744073709551615 - a := by
    rw [BitVec.toNat_not, BitVec.toNat_ofNat]
    omega
  have h2 : (BitVec.allOnes 64 ^^^ BitVec.ofNat 64 a).toNat = 18446744073709551615 ^^^ a := by
    rw [BitVec.toNat_xor, BitVec.toNat_allOnes, BitVec.toNat_ofNat, Nat.mod_eq_of_lt (by omega)]
  rw [← h1, ← h2, BitVec.allOnes_xor]

theorem not64 (a : Nat) (ha : word a) : bits .xor .u64 IntKind.u64.max (a : Int) = ((18446744073709551615 - a : Nat) : Int) := by
  have h := u64_xor_nat 18446744073709551615 a (by omega) ha
  rw [xor_all a ha] at h
  exact h

set_option maxHeartbeats 400000 in
theorem not_words (a0 a1 a2 a3 : Nat) (w : World) :
    Calls Try.prog 36 #[.agg (cells4 a0 a1 a2 a3)] w fun e w' => e = .returned (.agg #[.int .u64 (bits .xor .u64 IntKind.u64.max a0), .int .u64 (bits .xor .u64 IntKind.u64.max a1), .int .u64 (bits .xor .u64 IntKind.u64.max a2), .int .u64 (bits .xor .u64 IntKind.u64.max a3)]) ∧ Below w.heap.size w w' := by
  unfold cells4
  go_enter Try.func36, Try.ntmps36
  go_wp2
  refine wp_loop_rounds 5 ?_
  rw [rounds_succ]
  go_wp2
  rw [rounds_succ]
  go_wp2
  rw [rounds_succ]
  go_wp2
  rw [rounds_succ]
  go_wp2
  rw [rounds_succ]
  go_wp2
  exact bodyPost_ret (v := .agg #[.int .u64 (bits .xor .u64 IntKind.u64.max a0), .int .u64 (bits .xor .u64 IntKind.u64.max a1), .int .u64 (bits .xor .u64 IntKind.u64.max a2), .int .u64 (bits .xor .u64 IntKind.u64.max a3)]) (by simp [results, Try.results36, go_sem]) rfl ⟨rfl, ((Below.refl _ _).alloc (Nat.le_refl _) _).alloc (by simp) _⟩

set_option maxHeartbeats 400000 in
theorem compare_eq (a0 a1 a2 a3 : Nat) (w : World) :
    Calls Try.prog 24 #[.agg (cells4 a0 a1 a2 a3), .agg (cells4 a0 a1 a2 a3)] w fun e w' => e = .returned (.int .i64 0) ∧ Below w.heap.size w w' := by
  have hq : ∀ w, (Op.equalIn 10000 24 (.agg (cells4 a0 a1 a2 a3)) (.agg (cells4 a0 a1 a2 a3))).run Try.prog w = .ok true w := fun w => by rw [run_eq4]; simp
  unfold cells4 at hq ⊢
  go_enter Try.func24, Try.ntmps24
  go_wp2
  go_ret
  exact ⟨rfl, ((Below.refl _ _).alloc (Nat.le_refl _) _).alloc (by simp) _⟩

set_option maxHeartbeats 400000 in
theorem compare_3 (a0 a1 a2 a3 b0 b1 b2 b3 : Nat) (hne : a3 ≠ b3) (w : World) :
    Calls Try.prog 24 #[.agg (cells4 a0 a1 a2 a3), .agg (cells4 b0 b1 b2 b3)] w fun e w' => e = .returned (.int .i64 (cmpI a3 b3)) ∧ Below w.heap.size w w' := by
  have hq : ∀ w, (Op.equalIn 10000 24 (.agg (cells4 a0 a1 a2 a3)) (.agg (cells4 b0 b1 b2 b3))).run Try.prog w = .ok false w := fun w => by rw [run_eq4]; simp [hne]
  have hf : ((a3 : Int) == (b3 : Int)) = false := by rw [beq_eq_false_iff_ne]; omega
  unfold cells4 at hq ⊢
  clear hne
  go_enter Try.func24, Try.ntmps24
  go_wp2
  refine wp_loop_rounds 5 ?_
  rw [rounds_succ]
  go_wp2
  go_quiet (fail)
  go_wp2
  go_quiet ((go_at_call 50; exact (cmp_any _ _ _).mono fun _ _ h => ⟨h.1, _, h.2.symm⟩))
  go_wp2
  go_ret
  exact ⟨rfl, by repeat (first | exact ((Below.refl _ _).alloc (Nat.le_refl _) _).alloc (by simp) _ | refine below_drewN ?_ _)⟩

set_option maxHeartbeats 400000 in
theorem compare_2 (a0 a1 a2 a3 b0 b1 b2 : Nat) (hne : a2 ≠ b2) (w : World) :
    Calls Try.prog 24 #[.agg (cells4 a0 a1 a2 a3), .agg (cells4 b0 b1 b2 a3)] w fun e w' => e = .returned (.int .i64 (cmpI a2 b2)) ∧ Below w.heap.size w w' := by
  have hq : ∀ w, (Op.equalIn 10000 24 (.agg (cells4 a0 a1 a2 a3)) (.agg (cells4 b0 b1 b2 a3))).run Try.prog w = .ok false w := fun w => by rw [run_eq4]; simp [hne]
  have hf : ((a2 : Int) == (b2 : Int)) = false := by rw [beq_eq_false_iff_ne]; omega
  unfold cells4 at hq ⊢
  clear hne
  go_enter Try.func24, Try.ntmps24
  go_wp2
  refine wp_loop_rounds 5 ?_
  rw [rounds_succ]
  go_wp2
  go_quiet (fail)
  go_wp2
  rw [rounds_succ]
  go_wp2
  go_quiet (fail)
  go_wp2
  go_quiet ((go_at_call 50; exact (cmp_any _ _ _).mono fun _ _ h => ⟨h.1, _, h.2.symm⟩))
  go_wp2
  go_ret
  exact ⟨rfl, by repeat (first | exact ((Below.refl _ _).alloc (Nat.le_refl _) _).alloc (by simp) _ | refine below_drewN ?_ _)⟩

set_option maxHeartbeats 400000 in
theorem compare_1 (a0 a1 a2 a3 b0 b1 : Nat) (hne : a1 ≠ b1) (w : World) :
    Calls Try.prog 24 #[.agg (cells4 a0 a1 a2 a3), .agg (cells4 b0 b1 a2 a3)] w fun e w' => e = .returned (.int .i64 (cmpI a1 b1)) ∧ Below w.heap.size w w' := by
  have hq : ∀ w, (Op.equalIn 10000 24 (.agg (cells4 a0 a1 a2 a3)) (.agg (cells4 b0 b1 a2 a3))).run Try.prog w = .ok false w := fun w => by rw [run_eq4]; simp [hne]
  have hf : ((a1 : Int) == (b1 : Int)) = false := by rw [beq_eq_false_iff_ne]; omega
  unfold cells4 at hq ⊢
  clear hne
  go_enter Try.func24, Try.ntmps24
  go_wp2
  refine wp_loop_rounds 5 ?_
  rw [rounds_succ]
  go_wp2
  go_quiet (fail)
  go_wp2
  rw [rounds_succ]
  go_wp2
  go_quiet (fail)
  go_wp2
  rw [rounds_succ]
  go_wp2
  go_quiet (fail)
  go_wp2
  go_quiet ((go_at_call 50; exact (cmp_any _ _ _).mono fun _ _ h => ⟨h.1, _, h.2.symm⟩))
  go_wp2
  go_ret
  exact ⟨rfl, by repeat (first | exact ((Below.refl _ _).alloc (Nat.le_refl _) _).alloc (by simp) _ | refine below_drewN ?_ _)⟩

set_option maxHeartbeats 400000 in
theorem compare_0 (a0 a1 a2 a3 b0 : Nat) (hne : a0 ≠ b0) (w : World) :
    Calls Try.prog 24 #[.agg (cells4 a0 a1 a2 a3), .agg (cells4 b0 a1 a2 a3)] w fun e w' => e = .returned (.int .i64 (cmpI a0 b0)) ∧ Below w.heap.size w w' := by
  have hq : ∀ w, (Op.equalIn 10000 24 (.agg (cells4 a0 a1 a2 a3)) (.agg (cells4 b0 a1 a2 a3))).run Try.prog w = .ok false w := fun w => by rw [run_eq4]; simp [hne]
  have hf : ((a0 : Int) == (b0 : Int)) = false := by rw [beq_eq_false_iff_ne]; omega
  unfold cells4 at hq ⊢
  clear hne
  go_enter Try.func24, Try.ntmps24
  go_wp2
  refine wp_loop_rounds 5 ?_
  rw [rounds_succ]
  go_wp2
  go_quiet (fail)
  go_wp2
  rw [rounds_succ]
  go_wp2
  go_quiet (fail)
  go_wp2
  rw [rounds_succ]
  go_wp2
  go_quiet (fail)
  go_wp2
  rw [rounds_succ]
  go_wp2
  go_quiet (fail)
  go_wp2
  go_quiet ((go_at_call 50; exact (cmp_any _ _ _).mono fun _ _ h => ⟨h.1, _, h.2.symm⟩))
  go_wp2
  go_ret
  exact ⟨rfl, by repeat (first | exact ((Below.refl _ _).alloc (Nat.le_refl _) _).alloc (by simp) _ | refine below_drewN ?_ _)⟩

theorem compare_any (a b : Nat) (ha : a < top) (hb : b < top) (w : World) :
    Calls Try.prog 24 #[.agg (wcells a), .agg (wcells b)] w fun e w' => e = .returned (.int .i64 (cmpI a b)) ∧ Below w.heap.size w w' := by
  obtain ⟨ha0, ha1, ha2, ha3, hA⟩ := words_of a
  obtain ⟨hb0, hb1, hb2, hb3, hB⟩ := words_of b
  have eA := hA ha
  have eB := hB hb
  unfold num4 at eA eB
  unfold word at ha0 ha1 ha2 ha3 hb0 hb1 hb2 hb3
  unfold wcells
  generalize w0 a = a0 at *
  generalize w1 a = a1 at *
  generalize w2 a = a2 at *
  generalize w3 a = a3 at *
  generalize w0 b = b0 at *
  generalize w1 b = b1 at *
  generalize w2 b = b2 at *
  generalize w3 b = b3 at *
  have hv : ∀ x y : Nat, (x < y ↔ a < b) → (y < x ↔ b < a) → cmpI x y = cmpI a b := by
    intro x y h1 h2
    unfold cmpI
    have g1 : ((x : Int) < y) ↔ ((a : Int) < b) := by omega
    have g2 : ((y : Int) < x) ↔ ((b : Int) < a) := by omega
    simp only [g1, g2]
  by_cases h3 : a3 = b3
  · subst h3
    by_cases h2 : a2 = b2
    · subst h2
      by_cases h1 : a1 = b1
      · subst h1
        by_cases h0 : a0 = b0
        · subst h0
          have : cmpI a b = 0 := by
            have : a = b := by omega
            subst this
            simp [cmpI]
          rw [this]
          exact compare_eq _ _ _ _ w
        · rw [← hv a0 b0 (by omega) (by omega)]
          exact compare_0 _ _ _ _ _ h0 w
      · rw [← hv a1 b1 (by omega) (by omega)]
        exact compare_1 _ _ _ _ _ _ h1 w
    · rw [← hv a2 b2 (by omega) (by omega)]
      exact compare_2 _ _ _ _ _ _ _ h2 w
  · rw [← hv a3 b3 (by omega) (by omega)]
    exact compare_3 _ _ _ _ _ _ _ _ h3 w

theorem not_any (a : Nat) (ha : a < top) (w : World) :
    Calls Try.prog 36 #[.agg (wcells a)] w fun e w' => e = .returned (.agg (wcells (top - 1 - a))) ∧ Below w.heap.size w w' := by
  obtain ⟨h0, h1, h2, h3, hA⟩ := words_of a
  have eA := hA ha
  have k0 : word (18446744073709551615 - w0 a) := by unfold word; omega
  have k1 : word (18446744073709551615 - w1 a) := by unfold word; omega
  have k2 : word (18446744073709551615 - w2 a) := by unfold word; omega
  have k3 : word (18446744073709551615 - w3 a) := by unfold word; omega
  have e : top - 1 - a = num4 (18446744073709551615 - w0 a) (18446744073709551615 - w1 a) (18446744073709551615 - w2 a) (18446744073709551615 - w3 a) := by
    unfold num4 at *
    unfold word at h0 h1 h2 h3
    unfold top
    omega
  rw [e, wcells_num4 k0 k1 k2 k3]
  have hw := not_words (w0 a) (w1 a) (w2 a) (w3 a) w
  rw [not64 _ h0, not64 _ h1, not64 _ h2, not64 _ h3] at hw
  exact hw

end Go.Proofs.Ytgmgejjlhlibkaa
