/- NumOrders is true at every input. No condition. -/
import Derived.Test.YtbhopgklnddelaaNumN
namespace Go.Proofs.Ytbhopgklnddelaa
open Go.RowKit

set_option maxRecDepth 100000 in
set_option maxHeartbeats 4000000 in
theorem orders_walk (a b d : Int) (w : World) : Calls Try.prog 8 #[.int .i64 a, .int .i64 b, .int .i64 d] w fun e w' => e = .returned (.bool true) ∧ Below w.heap.size w w' := by
  obtain ⟨x, hx⟩ : ∃ x, a.tmod 2147483648 = x := ⟨_, rfl⟩
  obtain ⟨y, hy⟩ : ∃ y, b.tmod 2147483648 = y := ⟨_, rfl⟩
  obtain ⟨z, hz⟩ : ∃ z, d.tmod 2147483648 = z := ⟨_, rfl⟩
  obtain ⟨x1, x2⟩ := tmod_bd a
  obtain ⟨y1, y2⟩ := tmod_bd b
  obtain ⟨z1, z2⟩ := tmod_bd d
  rw [hx] at x1 x2
  rw [hy] at y1 y2
  rw [hz] at z1 z2
  have h0 := two_159 x y x1 x2 y1 y2
  have h1 := two_160 x y x1 x2 y1 y2
  have h2 := two_156 x y x1 x2 y1 y2
  have h3 := two_158 x y x1 x2 y1 y2
  have h4 := two_161 x y x1 x2 y1 y2
  have h5 := two_162 x y x1 x2 y1 y2
  have h6 := two_163 x y x1 x2 y1 y2
  have h7 := two_164 x y x1 x2 y1 y2
  have h8 := two_159 z y z1 z2 y1 y2
  have h9 := two_162 z x z1 z2 x1 x2
  obtain ⟨p0, e0⟩ : ∃ p, tv (decide (x < y)) = p := ⟨_, rfl⟩
  obtain ⟨p1, e1⟩ : ∃ p, tv (decide (y < x)) = p := ⟨_, rfl⟩
  obtain ⟨p2, e2⟩ : ∃ p, tv (x == y) = p := ⟨_, rfl⟩
  obtain ⟨p3, e3⟩ : ∃ p, tv (x != y) = p := ⟨_, rfl⟩
  obtain ⟨p4, e4⟩ : ∃ p, tv (decide (x ≤ y)) = p := ⟨_, rfl⟩
  obtain ⟨p5, e5⟩ : ∃ p, tv (decide (y ≤ x)) = p := ⟨_, rfl⟩
  obtain ⟨p6, e6⟩ : ∃ p, min x y = p := ⟨_, rfl⟩
  obtain ⟨p7, e7⟩ : ∃ p, max x y = p := ⟨_, rfl⟩
  obtain ⟨p8, e8⟩ : ∃ p, tv (decide (z < y)) = p := ⟨_, rfl⟩
  obtain ⟨p9, e9⟩ : ∃ p, tv (decide (x ≤ z)) = p := ⟨_, rfl⟩
  rw [e0] at h0
  have H0 := Lib.hid h0
  rw [e1] at h1
  have H1 := Lib.hid h1
  rw [e2] at h2
  have H2 := Lib.hid h2
  rw [e3] at h3
  have H3 := Lib.hid h3
  rw [e4] at h4
  have H4 := Lib.hid h4
  rw [e5] at h5
  have H5 := Lib.hid h5
  rw [e6] at h6
  have H6 := Lib.hid h6
  rw [e7] at h7
  have H7 := Lib.hid h7
  rw [e8] at h8
  have H8 := Lib.hid h8
  rw [e9] at h9
  have H9 := Lib.hid h9
  have q1 : (p0 + p1 + p2 == 1) = true := by
    rw [← e0, ← e1, ← e2]
    rcases Int.lt_trichotomy x y with h | h | h
    · simp [tv, h, show ¬ y < x by omega, show x ≠ y by omega]
    · simp [tv, h]
    · simp [tv, h, show ¬ x < y by omega, show x ≠ y by omega]
  have q2 : (p3 == 1 - p2) = true := by
    rw [← e2, ← e3]
    by_cases h : x = y <;> simp [tv, h]
  have q3 : (p4 == 1 - p1) = true := by
    rw [← e4, ← e1]
    by_cases h : y < x
    · simp [tv, h, show ¬ x ≤ y by omega]
    · simp [tv, h, show x ≤ y by omega]
  have q4 : (p5 == 1 - p0) = true := by
    rw [← e5, ← e0]
    by_cases h : x < y
    · simp [tv, h, show ¬ y ≤ x by omega]
    · simp [tv, h, show y ≤ x by omega]
  have q5 : (p6 + p7 == x + y) = true := by
    rw [← e6, ← e7]
    simp
    omega
  have q6 : decide (p6 ≤ p7) = true := by
    rw [← e6, ← e7]
    simp
    omega
  have q7 : (p8 + p9 == 2) = wiB z x y := by
    rw [← e8, ← e9]
    unfold wiB
    by_cases h1 : z < y <;> by_cases h2 : x ≤ z <;> simp [tv, h1, h2]
  have b0 : 0 ≤ p0 ∧ p0 ≤ 1 := by rw [← e0]; unfold tv; split <;> decide
  have b1 : 0 ≤ p1 ∧ p1 ≤ 1 := by rw [← e1]; unfold tv; split <;> decide
  have b2 : 0 ≤ p2 ∧ p2 ≤ 1 := by rw [← e2]; unfold tv; split <;> decide
  have b8 : 0 ≤ p8 ∧ p8 ≤ 1 := by rw [← e8]; unfold tv; split <;> decide
  have b9 : 0 ≤ p9 ∧ p9 ≤ 1 := by rw [← e9]; unfold tv; split <;> decide
  have b6 : -2147483647 ≤ p6 ∧ p6 ≤ 2147483647 := by omega
  have b7 : -2147483647 ≤ p7 ∧ p7 ≤ 2147483647 := by omega
  obtain ⟨b01, b02⟩ := b0
  obtain ⟨b11, b12⟩ := b1
  obtain ⟨b21, b22⟩ := b2
  obtain ⟨b81, b82⟩ := b8
  obtain ⟨b91, b92⟩ := b9
  obtain ⟨b61, b62⟩ := b6
  obtain ⟨b71, b72⟩ := b7
  clear h0 h1 h2 h3 h4 h5 h6 h7 h8 h9 e0 e1 e2 e3 e4 e5 e6 e7 e8 e9
  go_enter Try.func8, Try.ntmps8
  go_wp2_with ((go_at_call 28; refine (alive_any _).mono ?_; rintro e w1 ⟨rfl, hb⟩))
  go_loopw [26] (fun i wr => (i = .int .i64 0 ∧ wr = ((w1.alloc (.cells #[.int .i64 0, .int .i64 0, .int .i64 0, .int .i64 0, .int .i64 0, .int .i64 0, .int .i64 0, .int .i64 0] 51)).alloc (.cells #[.int .u8 159, .int .u8 160, .int .u8 156, .int .u8 158, .int .u8 161, .int .u8 162, .int .u8 163, .int .u8 164] 5))) ∨ (i = .int .i64 1 ∧ wr = ((w1.alloc (.cells #[.int .i64 p0, .int .i64 0, .int .i64 0, .int .i64 0, .int .i64 0, .int .i64 0, .int .i64 0, .int .i64 0] 51)).alloc (.cells #[.int .u8 159, .int .u8 160, .int .u8 156, .int .u8 158, .int .u8 161, .int .u8 162, .int .u8 163, .int .u8 164] 5))) ∨ (i = .int .i64 2 ∧ wr = ((w1.alloc (.cells #[.int .i64 p0, .int .i64 p1, .int .i64 0, .int .i64 0, .int .i64 0, .int .i64 0, .int .i64 0, .int .i64 0] 51)).alloc (.cells #[.int .u8 159, .int .u8 160, .int .u8 156, .int .u8 158, .int .u8 161, .int .u8 162, .int .u8 163, .int .u8 164] 5))) ∨ (i = .int .i64 3 ∧ wr = ((w1.alloc (.cells #[.int .i64 p0, .int .i64 p1, .int .i64 p2, .int .i64 0, .int .i64 0, .int .i64 0, .int .i64 0, .int .i64 0] 51)).alloc (.cells #[.int .u8 159, .int .u8 160, .int .u8 156, .int .u8 158, .int .u8 161, .int .u8 162, .int .u8 163, .int .u8 164] 5))) ∨ (i = .int .i64 4 ∧ wr = ((w1.alloc (.cells #[.int .i64 p0, .int .i64 p1, .int .i64 p2, .int .i64 p3, .int .i64 0, .int .i64 0, .int .i64 0, .int .i64 0] 51)).alloc (.cells #[.int .u8 159, .int .u8 160, .int .u8 156, .int .u8 158, .int .u8 161, .int .u8 162, .int .u8 163, .int .u8 164] 5))) ∨ (i = .int .i64 5 ∧ wr = ((w1.alloc (.cells #[.int .i64 p0, .int .i64 p1, .int .i64 p2, .int .i64 p3, .int .i64 p4, .int .i64 0, .int .i64 0, .int .i64 0] 51)).alloc (.cells #[.int .u8 159, .int .u8 160, .int .u8 156, .int .u8 158, .int .u8 161, .int .u8 162, .int .u8 163, .int .u8 164] 5))) ∨ (i = .int .i64 6 ∧ wr = ((w1.alloc (.cells #[.int .i64 p0, .int .i64 p1, .int .i64 p2, .int .i64 p3, .int .i64 p4, .int .i64 p5, .int .i64 0, .int .i64 0] 51)).alloc (.cells #[.int .u8 159, .int .u8 160, .int .u8 156, .int .u8 158, .int .u8 161, .int .u8 162, .int .u8 163, .int .u8 164] 5))) ∨ (i = .int .i64 7 ∧ wr = ((w1.alloc (.cells #[.int .i64 p0, .int .i64 p1, .int .i64 p2, .int .i64 p3, .int .i64 p4, .int .i64 p5, .int .i64 p6, .int .i64 0] 51)).alloc (.cells #[.int .u8 159, .int .u8 160, .int .u8 156, .int .u8 158, .int .u8 161, .int .u8 162, .int .u8 163, .int .u8 164] 5))) ∨ (i = .int .i64 8 ∧ wr = ((w1.alloc (.cells #[.int .i64 p0, .int .i64 p1, .int .i64 p2, .int .i64 p3, .int .i64 p4, .int .i64 p5, .int .i64 p6, .int .i64 p7] 51)).alloc (.cells #[.int .u8 159, .int .u8 160, .int .u8 156, .int .u8 158, .int .u8 161, .int .u8 162, .int .u8 163, .int .u8 164] 5)))) (fun i _ => 8 - (intOf i).toNat)
  case atStart => exact .inl ⟨rfl, rfl⟩
  case round =>
    rcases hrel with ⟨rfl, rfl⟩ | ⟨rfl, rfl⟩ | ⟨rfl, rfl⟩ | ⟨rfl, rfl⟩ | ⟨rfl, rfl⟩ | ⟨rfl, rfl⟩ | ⟨rfl, rfl⟩ | ⟨rfl, rfl⟩ | ⟨rfl, rfl⟩
    · go_wp2_with ((with_reducible refine Calls.mono (H0.out _) ?_); rintro e w' ⟨rfl, rfl⟩)
      go_roundw
      case rel => simp
      case measure => simp [intOf]
    · go_wp2_with ((with_reducible refine Calls.mono (H1.out _) ?_); rintro e w' ⟨rfl, rfl⟩)
      go_roundw
      case rel => simp
      case measure => simp [intOf]
    · go_wp2_with ((with_reducible refine Calls.mono (H2.out _) ?_); rintro e w' ⟨rfl, rfl⟩)
      go_roundw
      case rel => simp
      case measure => simp [intOf]
    · go_wp2_with ((with_reducible refine Calls.mono (H3.out _) ?_); rintro e w' ⟨rfl, rfl⟩)
      go_roundw
      case rel => simp
      case measure => simp [intOf]
    · go_wp2_with ((with_reducible refine Calls.mono (H4.out _) ?_); rintro e w' ⟨rfl, rfl⟩)
      go_roundw
      case rel => simp
      case measure => simp [intOf]
    · go_wp2_with ((with_reducible refine Calls.mono (H5.out _) ?_); rintro e w' ⟨rfl, rfl⟩)
      go_roundw
      case rel => simp
      case measure => simp [intOf]
    · go_wp2_with ((with_reducible refine Calls.mono (H6.out _) ?_); rintro e w' ⟨rfl, rfl⟩)
      go_roundw
      case rel => simp
      case measure => simp [intOf]
    · go_wp2_with ((with_reducible refine Calls.mono (H7.out _) ?_); rintro e w' ⟨rfl, rfl⟩)
      go_roundw
      case rel => simp
      case measure => simp [intOf]
    · go_wp2_with (first | ((with_reducible refine Calls.mono (H8.out _) ?_); rintro e w' ⟨rfl, rfl⟩) | ((with_reducible refine Calls.mono (H9.out _) ?_); rintro e w' ⟨rfl, rfl⟩) | (go_at_call 22; refine (within22 _ _ _ _).mono ?_; rintro e w' ⟨rfl, rfl⟩))
      go_ret
      exact ⟨rfl, hb.trans ((((Below.refl _ w1).alloc (Nat.le_refl _) _).alloc (by simp) _).mono hb.size)⟩

open Go.ChangeShapes Go.WideShapes Go.ChangeAt
set_option maxRecDepth 100000 in
theorem orders_lifted (os : Os) (started : os.Started) (H : Type) (enc : TypeId × Value → H) :
    ReturnsInHanded {} Try.checked os 8 .any (Rows.numOrdersSpec.pre6 enc Try.prog Try.f8 Rows.numOrdersRow.domain false) (Rows.numOrdersSpec.post enc Try.prog Try.f8 false true false false) := by
  refine returnsInHanded_of_change (C := Try.checked) own started (by kernel_rfl) Try.func8
    (ChangeSpec.witness6 (enc := enc) (C := Try.checked) false ⟨#[], #[.int .i64 0, .int .i64 0, .int .i64 0], []⟩ 8 (by kernel_rfl) (by kernel_rfl) (by kernel_rfl) (by kernel_rfl)) ?_
  intro W base args ds gs before hval0 hW hcnd _
  have hval : ∀ (j : Nat) t v, Try.f8.params[j]? = some t → args[j]? = some v → Value.okWide Try.prog W .any base t v := hval0
  have hW' := hW
  obtain ⟨p, q, hA0, hV, rfl, hfz, hnd⟩ := hW
  have hA : DataW.TrodAll enc Try.prog W 0 (fun _ => true) true Try.f8.params.toList args.toList ds p := hA0
  rw [Try.params8] at hA hval
  obtain ⟨v0, vs0, d0, ds0, p0, q0, hargs, rfl, rfl, h0, r0⟩ := trodAll_cons hA
  obtain ⟨v1, vs1, d1, ds1, p1, q1, rfl, rfl, rfl, h1, r1⟩ := trodAll_cons r0
  obtain ⟨v2, vs2, d2, ds2, p2, q2, rfl, rfl, rfl, h2, r2⟩ := trodAll_cons r1
  obtain ⟨rfl, rfl, rfl⟩ := trodAll_nil r2
  obtain rfl : args = #[v0, v1, v2] := by cases args; simp_all
  obtain ⟨rfl, rfl⟩ := trodVars_none hV
  have k0 := h0
  have lt0 : ∀ x ∈ p0, x.block < W.heap.size := by obtain ⟨m, hm⟩ := k0; exact DataW.trod_lt m _ _ _ hm
  have k1 := h1
  have lt1 : ∀ x ∈ p1, x.block < W.heap.size := by obtain ⟨m, hm⟩ := k1; exact DataW.trod_lt m _ _ _ hm
  have k2 := h2
  have lt2 : ∀ x ∈ p2, x.block < W.heap.size := by obtain ⟨m, hm⟩ := k2; exact DataW.trod_lt m _ _ _ hm
  obtain ⟨z0, rfl, rfl, rfl, wz0⟩ := open_int Try.underlying2 (hval 0 2 v0 rfl rfl) h0
  have hz0 := bounds_i64 wz0
  obtain ⟨z1, rfl, rfl, rfl, wz1⟩ := open_int Try.underlying2 (hval 1 2 v1 rfl rfl) h1
  have hz1 := bounds_i64 wz1
  obtain ⟨z2, rfl, rfl, rfl, wz2⟩ := open_int Try.underlying2 (hval 2 2 v2 rfl rfl) h2
  have hz2 := bounds_i64 wz2
  clear hA0 hval0
  refine (orders_walk z0 z1 z2 W).mono fun e W' ⟨he, bel⟩ => ?_
  subst he
  exact ⟨_, rfl, _, _, _, [], _, [], hW', trodAll_mk1 (shut_bool Try.underlying4 _), (trodAll_cons_mk (Below.trod laidOut (by kernel_rfl) (of_decide_eq_true (by kernel_rfl)) k0 bel lt0) (trodAll_cons_mk (Below.trod laidOut (by kernel_rfl) (of_decide_eq_true (by kernel_rfl)) k1 bel lt1) (trodAll_cons_mk (Below.trod laidOut (by kernel_rfl) (of_decide_eq_true (by kernel_rfl)) k2 bel lt2) trodAll_mk0))), rfl, bel.frame _, fun h => by cases h⟩

theorem orders_over : Rows.numOrdersRow.holds Try.pinned (OpenSpec.ofChange Rows.numOrdersSpec) :=
  OpenClaim.holds_of_wide 8 Try.f8 rfl rfl rfl rfl rfl rfl rfl ⟨rfl, rfl, rfl, rfl, rfl⟩ rfl rfl rfl rfl rfl (by kernel_rfl) Try.func8 (by kernel_rfl)
    (of_decide_eq_true (by kernel_rfl)) (by unfold Func.isWrapper; first | (rw [if_pos (by decide +kernel)]; kernel_rfl) | (rw [if_neg (by decide +kernel)]; exact ⟨rfl, rfl⟩))
    (fun os started H enc _ => orders_lifted os started H enc)

/-- NumOrders is true at every input. -/
theorem orders_proved : Rows.NumOrdersSaid := orders_over
#print axioms orders_proved
end Go.Proofs.Ytbhopgklnddelaa
