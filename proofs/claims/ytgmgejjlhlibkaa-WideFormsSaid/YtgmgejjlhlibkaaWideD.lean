/- Contract of wide.Mul: the product in two halves. -/
import Derived.Test.YtgmgejjlhlibkaaWideC
import Derived.StillTailTactics
import Derived.Laws.Cover3
namespace Go.Proofs.Ytgmgejjlhlibkaa
open Go.RowKit Go.Lib

set_option maxRecDepth 100000 in
set_option maxHeartbeats 4000000 in
theorem mul_words (a0 a1 a2 a3 b0 b1 b2 b3 h00 l00 h01 l01 h02 l02 h03 l03 h10 l10 h11 l11 h12 l12 h13 l13 h20 l20 h21 l21 h22 l22 h23 l23 h30 l30 h31 l31 h32 l32 h33 l33 : Nat) (w : World)
    (r00 : ∀ w, Calls Try.prog 54 #[.int .u64 a0, .int .u64 b0, .int .u64 0, .int .u64 0] w fun e w' => e = .returned (.tuple #[.int .u64 h00, .int .u64 l00]) ∧ w = w')
    (r01 : ∀ w, Calls Try.prog 54 #[.int .u64 a0, .int .u64 b1, .int .u64 0, .int .u64 h00] w fun e w' => e = .returned (.tuple #[.int .u64 h01, .int .u64 l01]) ∧ w = w')
    (r02 : ∀ w, Calls Try.prog 54 #[.int .u64 a0, .int .u64 b2, .int .u64 0, .int .u64 h01] w fun e w' => e = .returned (.tuple #[.int .u64 h02, .int .u64 l02]) ∧ w = w')
    (r03 : ∀ w, Calls Try.prog 54 #[.int .u64 a0, .int .u64 b3, .int .u64 0, .int .u64 h02] w fun e w' => e = .returned (.tuple #[.int .u64 h03, .int .u64 l03]) ∧ w = w')
    (r10 : ∀ w, Calls Try.prog 54 #[.int .u64 a1, .int .u64 b0, .int .u64 l01, .int .u64 0] w fun e w' => e = .returned (.tuple #[.int .u64 h10, .int .u64 l10]) ∧ w = w')
    (r11 : ∀ w, Calls Try.prog 54 #[.int .u64 a1, .int .u64 b1, .int .u64 l02, .int .u64 h10] w fun e w' => e = .returned (.tuple #[.int .u64 h11, .int .u64 l11]) ∧ w = w')
    (r12 : ∀ w, Calls Try.prog 54 #[.int .u64 a1, .int .u64 b2, .int .u64 l03, .int .u64 h11] w fun e w' => e = .returned (.tuple #[.int .u64 h12, .int .u64 l12]) ∧ w = w')
    (r13 : ∀ w, Calls Try.prog 54 #[.int .u64 a1, .int .u64 b3, .int .u64 h03, .int .u64 h12] w fun e w' => e = .returned (.tuple #[.int .u64 h13, .int .u64 l13]) ∧ w = w')
    (r20 : ∀ w, Calls Try.prog 54 #[.int .u64 a2, .int .u64 b0, .int .u64 l11, .int .u64 0] w fun e w' => e = .returned (.tuple #[.int .u64 h20, .int .u64 l20]) ∧ w = w')
    (r21 : ∀ w, Calls Try.prog 54 #[.int .u64 a2, .int .u64 b1, .int .u64 l12, .int .u64 h20] w fun e w' => e = .returned (.tuple #[.int .u64 h21, .int .u64 l21]) ∧ w = w')
    (r22 : ∀ w, Calls Try.prog 54 #[.int .u64 a2, .int .u64 b2, .int .u64 l13, .int .u64 h21] w fun e w' => e = .returned (.tuple #[.int .u64 h22, .int .u64 l22]) ∧ w = w')
    (r23 : ∀ w, Calls Try.prog 54 #[.int .u64 a2, .int .u64 b3, .int .u64 h13, .int .u64 h22] w fun e w' => e = .returned (.tuple #[.int .u64 h23, .int .u64 l23]) ∧ w = w')
    (r30 : ∀ w, Calls Try.prog 54 #[.int .u64 a3, .int .u64 b0, .int .u64 l21, .int .u64 0] w fun e w' => e = .returned (.tuple #[.int .u64 h30, .int .u64 l30]) ∧ w = w')
    (r31 : ∀ w, Calls Try.prog 54 #[.int .u64 a3, .int .u64 b1, .int .u64 l22, .int .u64 h30] w fun e w' => e = .returned (.tuple #[.int .u64 h31, .int .u64 l31]) ∧ w = w')
    (r32 : ∀ w, Calls Try.prog 54 #[.int .u64 a3, .int .u64 b2, .int .u64 l23, .int .u64 h31] w fun e w' => e = .returned (.tuple #[.int .u64 h32, .int .u64 l32]) ∧ w = w')
    (r33 : ∀ w, Calls Try.prog 54 #[.int .u64 a3, .int .u64 b3, .int .u64 h23, .int .u64 h32] w fun e w' => e = .returned (.tuple #[.int .u64 h33, .int .u64 l33]) ∧ w = w') :
    Calls Try.prog 30 #[.agg (cells4 a0 a1 a2 a3), .agg (cells4 b0 b1 b2 b3)] w fun e w' =>
      e = .returned (.tuple #[.agg (cells4 l00 l10 l20 l30), .agg (cells4 l31 l32 l33 h33)]) ∧ Below w.heap.size w w' := by
  have R00 := Lib.hid r00
  have R01 := Lib.hid r01
  have R02 := Lib.hid r02
  have R03 := Lib.hid r03
  have R10 := Lib.hid r10
  have R11 := Lib.hid r11
  have R12 := Lib.hid r12
  have R13 := Lib.hid r13
  have R20 := Lib.hid r20
  have R21 := Lib.hid r21
  have R22 := Lib.hid r22
  have R23 := Lib.hid r23
  have R30 := Lib.hid r30
  have R31 := Lib.hid r31
  have R32 := Lib.hid r32
  have R33 := Lib.hid r33
  clear r00 r01 r02 r03 r10 r11 r12 r13 r20 r21 r22 r23 r30 r31 r32 r33
  have z0 : IntKind.i64.wrap 0 = 0 := rfl
  have z1 : IntKind.i64.wrap 1 = 1 := rfl
  have z2 : IntKind.i64.wrap 2 = 2 := rfl
  have z3 : IntKind.i64.wrap 3 = 3 := rfl
  have z4 : IntKind.i64.wrap 4 = 4 := rfl
  have z5 : IntKind.i64.wrap 5 = 5 := rfl
  have z6 : IntKind.i64.wrap 6 = 6 := rfl
  have z7 : IntKind.i64.wrap 7 = 7 := rfl
  unfold cells4
  go_enter Try.func30, Try.ntmps30
  go_wp2
  refine wp_loop_rounds 5 ?_
  rw [rounds_succ]
  go_wp2
  refine wp_loop_rounds 5 ?_
  rw [rounds_succ]
  go_wp2
  refine wp_region_still_tail 21 (by kernel_rfl) (by kernel_rfl) ?_
  simp only [List.take_succ_cons, List.take_zero, List.drop_succ_cons, List.drop_zero]
  change wpStill _ _ (World.drew _) (fun a' => wpList _ _ _ _ a' (World.drew _)) _ _
  repeat still_step
  still_call ((R00.out _).mono fun _ _ h => ⟨h.1, h.2.symm⟩)
  repeat still_step
  refine wpStill_nil ?_
  go_wp2
  rw [rounds_succ]
  go_wp2
  refine wp_region_still_tail 21 (by kernel_rfl) (by kernel_rfl) ?_
  simp only [List.take_succ_cons, List.take_zero, List.drop_succ_cons, List.drop_zero]
  change wpStill _ _ (World.drew _) (fun a' => wpList _ _ _ _ a' (World.drew _)) _ _
  repeat still_step
  still_call ((R01.out _).mono fun _ _ h => ⟨h.1, h.2.symm⟩)
  repeat still_step
  refine wpStill_nil ?_
  go_wp2
  rw [rounds_succ]
  go_wp2
  refine wp_region_still_tail 21 (by kernel_rfl) (by kernel_rfl) ?_
  simp only [List.take_succ_cons, List.take_zero, List.drop_succ_cons, List.drop_zero]
  change wpStill _ _ (World.drew _) (fun a' => wpList _ _ _ _ a' (World.drew _)) _ _
  repeat still_step
  still_call ((R02.out _).mono fun _ _ h => ⟨h.1, h.2.symm⟩)
  repeat still_step
  refine wpStill_nil ?_
  go_wp2
  rw [rounds_succ]
  go_wp2
  refine wp_region_still_tail 21 (by kernel_rfl) (by kernel_rfl) ?_
  simp only [List.take_succ_cons, List.take_zero, List.drop_succ_cons, List.drop_zero]
  change wpStill _ _ (World.drew _) (fun a' => wpList _ _ _ _ a' (World.drew _)) _ _
  repeat still_step
  still_call ((R03.out _).mono fun _ _ h => ⟨h.1, h.2.symm⟩)
  repeat still_step
  refine wpStill_nil ?_
  go_wp2
  rw [rounds_succ]
  go_wp2
  rw [rounds_succ]
  go_wp2
  refine wp_loop_rounds 5 ?_
  rw [rounds_succ]
  go_wp2
  refine wp_region_still_tail 21 (by kernel_rfl) (by kernel_rfl) ?_
  simp only [List.take_succ_cons, List.take_zero, List.drop_succ_cons, List.drop_zero]
  change wpStill _ _ (World.drew _) (fun a' => wpList _ _ _ _ a' (World.drew _)) _ _
  repeat still_step
  still_call ((R10.out _).mono fun _ _ h => ⟨h.1, h.2.symm⟩)
  repeat still_step
  refine wpStill_nil ?_
  go_wp2
  rw [rounds_succ]
  go_wp2
  refine wp_region_still_tail 21 (by kernel_rfl) (by kernel_rfl) ?_
  simp only [List.take_succ_cons, List.take_zero, List.drop_succ_cons, List.drop_zero]
  change wpStill _ _ (World.drew _) (fun a' => wpList _ _ _ _ a' (World.drew _)) _ _
  repeat still_step
  still_call ((R11.out _).mono fun _ _ h => ⟨h.1, h.2.symm⟩)
  repeat still_step
  refine wpStill_nil ?_
  go_wp2
  rw [rounds_succ]
  go_wp2
  refine wp_region_still_tail 21 (by kernel_rfl) (by kernel_rfl) ?_
  simp only [List.take_succ_cons, List.take_zero, List.drop_succ_cons, List.drop_zero]
  change wpStill _ _ (World.drew _) (fun a' => wpList _ _ _ _ a' (World.drew _)) _ _
  repeat still_step
  still_call ((R12.out _).mono fun _ _ h => ⟨h.1, h.2.symm⟩)
  repeat still_step
  refine wpStill_nil ?_
  go_wp2
  rw [rounds_succ]
  go_wp2
  refine wp_region_still_tail 21 (by kernel_rfl) (by kernel_rfl) ?_
  simp only [List.take_succ_cons, List.take_zero, List.drop_succ_cons, List.drop_zero]
  change wpStill _ _ (World.drew _) (fun a' => wpList _ _ _ _ a' (World.drew _)) _ _
  repeat still_step
  still_call ((R13.out _).mono fun _ _ h => ⟨h.1, h.2.symm⟩)
  repeat still_step
  refine wpStill_nil ?_
  go_wp2
  rw [rounds_succ]
  go_wp2
  rw [rounds_succ]
  go_wp2
  refine wp_loop_rounds 5 ?_
  rw [rounds_succ]
  go_wp2
  refine wp_region_still_tail 21 (by kernel_rfl) (by kernel_rfl) ?_
  simp only [List.take_succ_cons, List.take_zero, List.drop_succ_cons, List.drop_zero]
  change wpStill _ _ (World.drew _) (fun a' => wpList _ _ _ _ a' (World.drew _)) _ _
  repeat still_step
  still_call ((R20.out _).mono fun _ _ h => ⟨h.1, h.2.symm⟩)
  repeat still_step
  refine wpStill_nil ?_
  go_wp2
  rw [rounds_succ]
  go_wp2
  refine wp_region_still_tail 21 (by kernel_rfl) (by kernel_rfl) ?_
  simp only [List.take_succ_cons, List.take_zero, List.drop_succ_cons, List.drop_zero]
  change wpStill _ _ (World.drew _) (fun a' => wpList _ _ _ _ a' (World.drew _)) _ _
  repeat still_step
  still_call ((R21.out _).mono fun _ _ h => ⟨h.1, h.2.symm⟩)
  repeat still_step
  refine wpStill_nil ?_
  go_wp2
  rw [rounds_succ]
  go_wp2
  refine wp_region_still_tail 21 (by kernel_rfl) (by kernel_rfl) ?_
  simp only [List.take_succ_cons, List.take_zero, List.drop_succ_cons, List.drop_zero]
  change wpStill _ _ (World.drew _) (fun a' => wpList _ _ _ _ a' (World.drew _)) _ _
  repeat still_step
  still_call ((R22.out _).mono fun _ _ h => ⟨h.1, h.2.symm⟩)
  repeat still_step
  refine wpStill_nil ?_
  go_wp2
  rw [rounds_succ]
  go_wp2
  refine wp_region_still_tail 21 (by kernel_rfl) (by kernel_rfl) ?_
  simp only [List.take_succ_cons, List.take_zero, List.drop_succ_cons, List.drop_zero]
  change wpStill _ _ (World.drew _) (fun a' => wpList _ _ _ _ a' (World.drew _)) _ _
  repeat still_step
  still_call ((R23.out _).mono fun _ _ h => ⟨h.1, h.2.symm⟩)
  repeat still_step
  refine wpStill_nil ?_
  go_wp2
  rw [rounds_succ]
  go_wp2
  rw [rounds_succ]
  go_wp2
  refine wp_loop_rounds 5 ?_
  rw [rounds_succ]
  go_wp2
  refine wp_region_still_tail 21 (by kernel_rfl) (by kernel_rfl) ?_
  simp only [List.take_succ_cons, List.take_zero, List.drop_succ_cons, List.drop_zero]
  change wpStill _ _ (World.drew _) (fun a' => wpList _ _ _ _ a' (World.drew _)) _ _
  repeat still_step
  still_call ((R30.out _).mono fun _ _ h => ⟨h.1, h.2.symm⟩)
  repeat still_step
  refine wpStill_nil ?_
  go_wp2
  rw [rounds_succ]
  go_wp2
  refine wp_region_still_tail 21 (by kernel_rfl) (by kernel_rfl) ?_
  simp only [List.take_succ_cons, List.take_zero, List.drop_succ_cons, List.drop_zero]
  change wpStill _ _ (World.drew _) (fun a' => wpList _ _ _ _ a' (World.drew _)) _ _
  repeat still_step
  still_call ((R31.out _).mono fun _ _ h => ⟨h.1, h.2.symm⟩)
  repeat still_step
  refine wpStill_nil ?_
  go_wp2
  rw [rounds_succ]
  go_wp2
  refine wp_region_still_tail 21 (by kernel_rfl) (by kernel_rfl) ?_
  simp only [List.take_succ_cons, List.take_zero, List.drop_succ_cons, List.drop_zero]
  change wpStill _ _ (World.drew _) (fun a' => wpList _ _ _ _ a' (World.drew _)) _ _
  repeat still_step
  still_call ((R32.out _).mono fun _ _ h => ⟨h.1, h.2.symm⟩)
  repeat still_step
  refine wpStill_nil ?_
  go_wp2
  rw [rounds_succ]
  go_wp2
  refine wp_region_still_tail 21 (by kernel_rfl) (by kernel_rfl) ?_
  simp only [List.take_succ_cons, List.take_zero, List.drop_succ_cons, List.drop_zero]
  change wpStill _ _ (World.drew _) (fun a' => wpList _ _ _ _ a' (World.drew _)) _ _
  repeat still_step
  still_call ((R33.out _).mono fun _ _ h => ⟨h.1, h.2.symm⟩)
  repeat still_step
  refine wpStill_nil ?_
  go_wp2
  rw [rounds_succ]
  go_wp2
  rw [rounds_succ]
  go_wp2
  have y1 := fun W => run_arrayAt (P := Try.prog) W 24 22 4 (some ⟨w.heap.size + 1 + 1 + 1 + 1, 0, none⟩) 4 8 Try.underlying24 (by omega)
  have y2 := fun W => run_arrayAt (P := Try.prog) W 24 22 4 (some ⟨w.heap.size + 1 + 1 + 1 + 1, 4, none⟩) 4 4 Try.underlying24 (by omega)
  go_region
  go_wp2
  exact bodyPost_ret (v := .tuple #[.agg #[.int .u64 l00, .int .u64 l10, .int .u64 l20, .int .u64 l30], .agg #[.int .u64 l31, .int .u64 l32, .int .u64 l33, .int .u64 h33]]) (by simp [results, Try.results30, go_sem]) rfl ⟨rfl, by repeat (first | exact (((((Below.refl _ _).alloc (Nat.le_refl _) _).alloc (by simp) _).alloc (by simp; omega) _).alloc (by simp; omega) _).alloc (by simp; omega) _ | refine Below.drew ?_)⟩

theorem mul_any (a b : Nat) (ha : a < top) (hb : b < top) (w : World) :
    Calls Try.prog 30 #[.agg (wcells a), .agg (wcells b)] w fun e w' =>
      e = .returned (.tuple #[.agg (wcells (a * b % top)), .agg (wcells (a * b / top))]) ∧ Below w.heap.size w w' := by
  obtain ⟨ha0, ha1, ha2, ha3, hA⟩ := words_of a
  obtain ⟨hb0, hb1, hb2, hb3, hB⟩ := words_of b
  have hz : word 0 := by unfold word; omega
  obtain ⟨h00, l00, e00, kh00, kl00, r00⟩ := product_names (w0 a) (w0 b) 0 0 ha0 hb0 hz hz
  obtain ⟨h01, l01, e01, kh01, kl01, r01⟩ := product_names (w0 a) (w1 b) 0 h00 ha0 hb1 hz kh00
  obtain ⟨h02, l02, e02, kh02, kl02, r02⟩ := product_names (w0 a) (w2 b) 0 h01 ha0 hb2 hz kh01
  obtain ⟨h03, l03, e03, kh03, kl03, r03⟩ := product_names (w0 a) (w3 b) 0 h02 ha0 hb3 hz kh02
  obtain ⟨h10, l10, e10, kh10, kl10, r10⟩ := product_names (w1 a) (w0 b) l01 0 ha1 hb0 kl01 hz
  obtain ⟨h11, l11, e11, kh11, kl11, r11⟩ := product_names (w1 a) (w1 b) l02 h10 ha1 hb1 kl02 kh10
  obtain ⟨h12, l12, e12, kh12, kl12, r12⟩ := product_names (w1 a) (w2 b) l03 h11 ha1 hb2 kl03 kh11
  obtain ⟨h13, l13, e13, kh13, kl13, r13⟩ := product_names (w1 a) (w3 b) h03 h12 ha1 hb3 kh03 kh12
  obtain ⟨h20, l20, e20, kh20, kl20, r20⟩ := product_names (w2 a) (w0 b) l11 0 ha2 hb0 kl11 hz
  obtain ⟨h21, l21, e21, kh21, kl21, r21⟩ := product_names (w2 a) (w1 b) l12 h20 ha2 hb1 kl12 kh20
  obtain ⟨h22, l22, e22, kh22, kl22, r22⟩ := product_names (w2 a) (w2 b) l13 h21 ha2 hb2 kl13 kh21
  obtain ⟨h23, l23, e23, kh23, kl23, r23⟩ := product_names (w2 a) (w3 b) h13 h22 ha2 hb3 kh13 kh22
  obtain ⟨h30, l30, e30, kh30, kl30, r30⟩ := product_names (w3 a) (w0 b) l21 0 ha3 hb0 kl21 hz
  obtain ⟨h31, l31, e31, kh31, kl31, r31⟩ := product_names (w3 a) (w1 b) l22 h30 ha3 hb1 kl22 kh30
  obtain ⟨h32, l32, e32, kh32, kl32, r32⟩ := product_names (w3 a) (w2 b) l23 h31 ha3 hb2 kl23 kh31
  obtain ⟨h33, l33, e33, kh33, kl33, r33⟩ := product_names (w3 a) (w3 b) h23 h32 ha3 hb3 kh23 kh32
  have hS := mul_lin _ _ _ _ _ _ _ _ _ _ _ _ _ _ _ _ _ _ _ _ _ _ _ _ _ _ _ _ _ _ _ _ _ _ _ _ _ _ _ _ _ _ _ _ _ _ _ _ e00 e01 e02 e03 e10 e11 e12 e13 e20 e21 e22 e23 e30 e31 e32 e33
  rw [← mul_num4, ← hA ha, ← hB hb] at hS
  have hlt := num4_lt l00 l10 l20 l30 kl00 kl10 kl20 kl30
  have h1 : a * b % top = num4 l00 l10 l20 l30 := by rw [← hS, Nat.add_mul_mod_self_left, Nat.mod_eq_of_lt hlt]
  have h2 : a * b / top = num4 l31 l32 l33 h33 := by rw [← hS, Nat.add_mul_div_left _ _ (by unfold top; omega), Nat.div_eq_of_lt hlt, Nat.zero_add]
  rw [h1, h2, wcells_num4 kl00 kl10 kl20 kl30, wcells_num4 kl31 kl32 kl33 kh33]
  exact mul_words _ _ _ _ _ _ _ _ _ _ _ _ _ _ _ _ _ _ _ _ _ _ _ _ _ _ _ _ _ _ _ _ _ _ _ _ _ _ _ _ w r00 r01 r02 r03 r10 r11 r12 r13 r20 r21 r22 r23 r30 r31 r32 r33

end Go.Proofs.Ytgmgejjlhlibkaa
