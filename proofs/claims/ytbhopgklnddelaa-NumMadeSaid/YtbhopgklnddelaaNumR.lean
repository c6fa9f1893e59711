/- NumMade at the operations 139 140 143 144 145 146. No condition. -/
import Derived.Test.YtbhopgklnddelaaNumN
import Derived.Test.YtbhopgklnddelaaReg2
import Derived.RegionTactic
import Derived.Deep.RegionWith
import Derived.Deep.QuietTactic
import Derived.BigQuiet
import Derived.Deep.DrawnRows
namespace Go.Proofs.Ytbhopgklnddelaa
open Go.RowKit
attribute [local go_sem ↓] Go.wp_at_zero Go.wp_at_succ

set_option maxRecDepth 100000 in
set_option maxHeartbeats 4000000 in
theorem made_139 (x y : Int) (v : Int) (x1 : -2147483647 ≤ x) (x2 : x ≤ 2147483647) (hv : x + 1 = v) (v1 : -4294967295 ≤ v) (v2 : v ≤ 4294967295) (a b : Int) (hx : a.tmod 2147483648 = x) (hy : b.tmod 2147483648 = y) (w : World) : Calls Try.prog 9 #[.int .u8 139, .int .i64 a, .int .i64 b] w fun e w' => e = .returned (.bool true) ∧ Below w.heap.size w w' := by
  have HE := Lib.hid (encode_yes (v) (by omega) (by omega))
  have h5 := encB_length (v) 4 (by omega)
  have d5 : decide ((5 : Int) < ((encB (v)).length : Int)) = false := by simp; omega
  have HTN := Lib.hid (fun c A w h => true_any (encB (v)) (by unfold maxLen; omega) c A w h)
  have HT3 := Lib.hid (show trueB (encB (v)) = ((v : Int) != 0) by rw [trueB_encB, Bool.eq_iff_iff]; simp)
  have HO := one_139 x x1 x2
  rw [hv] at HO
  have HO1 := Lib.hid HO
  have HAR := Lib.hid arity_139
  clear hv HO h5
  go_enter Try.func9, Try.ntmps9
  go_wp2_with (first
    | (go_at_call 28; refine Calls.mono (alive_any _) ?_; rintro e w1 ⟨rfl, hb1⟩)
    | ((with_reducible refine Calls.mono (HO1.out _) ?_); rintro e w' ⟨rfl, rfl⟩)
    | ((with_reducible refine Calls.mono (HAR.out _) ?_); rintro e w' ⟨rfl, rfl⟩)
    | ((with_reducible refine Calls.mono (HE.out _) ?_); rintro e w2 ⟨A2, c2, rfl, hh2, _, hb2⟩; have HB2 := Lib.hid (hb1.trans (hb2.mono hb1.size)))
    | ((with_reducible refine Calls.mono (HTN.out _ _ _ hh2) ?_); rintro e w4 ⟨rfl, hb4⟩; have hh4 := hh2.later hb4; have q4 := str_of hh4 c2; have HB4 := Lib.hid (HB2.out.trans (hb4.mono HB2.out.size)); rw [HT3.out]))
  trace_state
  go_quiet (fail)
  go_wp2
  go_ret
  exact ⟨rfl, below_drewN HB4.out nq⟩

set_option maxRecDepth 100000 in
set_option maxHeartbeats 4000000 in
theorem made_140 (x y : Int) (v : Int) (x1 : -2147483647 ≤ x) (x2 : x ≤ 2147483647) (hv : x - 1 = v) (v1 : -4294967295 ≤ v) (v2 : v ≤ 4294967295) (a b : Int) (hx : a.tmod 2147483648 = x) (hy : b.tmod 2147483648 = y) (w : World) : Calls Try.prog 9 #[.int .u8 140, .int .i64 a, .int .i64 b] w fun e w' => e = .returned (.bool true) ∧ Below w.heap.size w w' := by
  have HE := Lib.hid (encode_yes (v) (by omega) (by omega))
  have h5 := encB_length (v) 4 (by omega)
  have d5 : decide ((5 : Int) < ((encB (v)).length : Int)) = false := by simp; omega
  have HTN := Lib.hid (fun c A w h => true_any (encB (v)) (by unfold maxLen; omega) c A w h)
  have HT3 := Lib.hid (show trueB (encB (v)) = ((v : Int) != 0) by rw [trueB_encB, Bool.eq_iff_iff]; simp)
  have HO := one_140 x x1 x2
  rw [hv] at HO
  have HO1 := Lib.hid HO
  have HAR := Lib.hid arity_140
  clear hv HO h5
  go_enter Try.func9, Try.ntmps9
  go_wp2_with (first
    | (go_at_call 28; refine Calls.mono (alive_any _) ?_; rintro e w1 ⟨rfl, hb1⟩)
    | ((with_reducible refine Calls.mono (HO1.out _) ?_); rintro e w' ⟨rfl, rfl⟩)
    | ((with_reducible refine Calls.mono (HAR.out _) ?_); rintro e w' ⟨rfl, rfl⟩)
    | ((with_reducible refine Calls.mono (HE.out _) ?_); rintro e w2 ⟨A2, c2, rfl, hh2, _, hb2⟩; have HB2 := Lib.hid (hb1.trans (hb2.mono hb1.size)))
    | ((with_reducible refine Calls.mono (HTN.out _ _ _ hh2) ?_); rintro e w4 ⟨rfl, hb4⟩; have hh4 := hh2.later hb4; have q4 := str_of hh4 c2; have HB4 := Lib.hid (HB2.out.trans (hb4.mono HB2.out.size)); rw [HT3.out]))
  trace_state
  go_quiet (fail)
  go_wp2
  go_ret
  exact ⟨rfl, below_drewN HB4.out nq⟩

set_option maxRecDepth 100000 in
set_option maxHeartbeats 4000000 in
theorem made_143 (x y : Int) (v : Int) (x1 : -2147483647 ≤ x) (x2 : x ≤ 2147483647) (hv : -x = v) (v1 : -4294967295 ≤ v) (v2 : v ≤ 4294967295) (a b : Int) (hx : a.tmod 2147483648 = x) (hy : b.tmod 2147483648 = y) (w : World) : Calls Try.prog 9 #[.int .u8 143, .int .i64 a, .int .i64 b] w fun e w' => e = .returned (.bool true) ∧ Below w.heap.size w w' := by
  have HE := Lib.hid (encode_yes (v) (by omega) (by omega))
  have h5 := encB_length (v) 4 (by omega)
  have d5 : decide ((5 : Int) < ((encB (v)).length : Int)) = false := by simp; omega
  have HTN := Lib.hid (fun c A w h => true_any (encB (v)) (by unfold maxLen; omega) c A w h)
  have HT3 := Lib.hid (show trueB (encB (v)) = ((v : Int) != 0) by rw [trueB_encB, Bool.eq_iff_iff]; simp)
  have HO := one_143 x x1 x2
  rw [hv] at HO
  have HO1 := Lib.hid HO
  have HAR := Lib.hid arity_143
  clear hv HO h5
  go_enter Try.func9, Try.ntmps9
  go_wp2_with (first
    | (go_at_call 28; refine Calls.mono (alive_any _) ?_; rintro e w1 ⟨rfl, hb1⟩)
    | ((with_reducible refine Calls.mono (HO1.out _) ?_); rintro e w' ⟨rfl, rfl⟩)
    | ((with_reducible refine Calls.mono (HAR.out _) ?_); rintro e w' ⟨rfl, rfl⟩)
    | ((with_reducible refine Calls.mono (HE.out _) ?_); rintro e w2 ⟨A2, c2, rfl, hh2, _, hb2⟩; have HB2 := Lib.hid (hb1.trans (hb2.mono hb1.size)))
    | ((with_reducible refine Calls.mono (HTN.out _ _ _ hh2) ?_); rintro e w4 ⟨rfl, hb4⟩; have hh4 := hh2.later hb4; have q4 := str_of hh4 c2; have HB4 := Lib.hid (HB2.out.trans (hb4.mono HB2.out.size)); rw [HT3.out]))
  trace_state
  go_quiet (fail)
  go_wp2
  go_ret
  exact ⟨rfl, below_drewN HB4.out nq⟩

set_option maxRecDepth 100000 in
set_option maxHeartbeats 4000000 in
theorem made_144 (x y : Int) (v : Int) (x1 : -2147483647 ≤ x) (x2 : x ≤ 2147483647) (hv : max x (-x) = v) (v1 : -4294967295 ≤ v) (v2 : v ≤ 4294967295) (a b : Int) (hx : a.tmod 2147483648 = x) (hy : b.tmod 2147483648 = y) (w : World) : Calls Try.prog 9 #[.int .u8 144, .int .i64 a, .int .i64 b] w fun e w' => e = .returned (.bool true) ∧ Below w.heap.size w w' := by
  have HE := Lib.hid (encode_yes (v) (by omega) (by omega))
  have h5 := encB_length (v) 4 (by omega)
  have d5 : decide ((5 : Int) < ((encB (v)).length : Int)) = false := by simp; omega
  have HTN := Lib.hid (fun c A w h => true_any (encB (v)) (by unfold maxLen; omega) c A w h)
  have HT3 := Lib.hid (show trueB (encB (v)) = ((v : Int) != 0) by rw [trueB_encB, Bool.eq_iff_iff]; simp)
  have HO := one_144 x x1 x2
  rw [hv] at HO
  have HO1 := Lib.hid HO
  have HAR := Lib.hid arity_144
  clear hv HO h5
  go_enter Try.func9, Try.ntmps9
  go_wp2_with (first
    | (go_at_call 28; refine Calls.mono (alive_any _) ?_; rintro e w1 ⟨rfl, hb1⟩)
    | ((with_reducible refine Calls.mono (HO1.out _) ?_); rintro e w' ⟨rfl, rfl⟩)
    | ((with_reducible refine Calls.mono (HAR.out _) ?_); rintro e w' ⟨rfl, rfl⟩)
    | ((with_reducible refine Calls.mono (HE.out _) ?_); rintro e w2 ⟨A2, c2, rfl, hh2, _, hb2⟩; have HB2 := Lib.hid (hb1.trans (hb2.mono hb1.size)))
    | ((with_reducible refine Calls.mono (HTN.out _ _ _ hh2) ?_); rintro e w4 ⟨rfl, hb4⟩; have hh4 := hh2.later hb4; have q4 := str_of hh4 c2; have HB4 := Lib.hid (HB2.out.trans (hb4.mono HB2.out.size)); rw [HT3.out]))
  trace_state
  go_quiet (fail)
  go_wp2
  go_ret
  exact ⟨rfl, below_drewN HB4.out nq⟩

set_option maxRecDepth 100000 in
set_option maxHeartbeats 4000000 in
theorem made_145_0 (x y : Int) (x1 : -2147483647 ≤ x) (x2 : x ≤ 2147483647) (hv : tv (x == 0) = 0) (a b : Int) (hx : a.tmod 2147483648 = x) (hy : b.tmod 2147483648 = y) (w : World) : Calls Try.prog 9 #[.int .u8 145, .int .i64 a, .int .i64 b] w fun e w' => e = .returned (.bool true) ∧ Below w.heap.size w w' := by
  have HE := Lib.hid (encode_yes (0) (by omega) (by omega))
  have h5 := encB_length (0) 4 (by omega)
  have d5 : decide ((5 : Int) < ((encB (0)).length : Int)) = false := by simp; omega
  have HTN := Lib.hid (fun c A w h => true_any (encB (0)) (by unfold maxLen; omega) c A w h)
  have HT3 := Lib.hid (show trueB (encB (0)) = ((0 : Int) != 0) by rw [trueB_encB, Bool.eq_iff_iff]; simp)
  have HO := one_145 x x1 x2
  rw [hv] at HO
  have HO1 := Lib.hid HO
  have HAR := Lib.hid arity_145
  clear hv HO h5
  go_enter Try.func9, Try.ntmps9
  go_wp2_with (first
    | (go_at_call 28; refine Calls.mono (alive_any _) ?_; rintro e w1 ⟨rfl, hb1⟩)
    | ((with_reducible refine Calls.mono (HO1.out _) ?_); rintro e w' ⟨rfl, rfl⟩)
    | ((with_reducible refine Calls.mono (HAR.out _) ?_); rintro e w' ⟨rfl, rfl⟩)
    | ((with_reducible refine Calls.mono (HE.out _) ?_); rintro e w2 ⟨A2, c2, rfl, hh2, _, hb2⟩; have HB2 := Lib.hid (hb1.trans (hb2.mono hb1.size)))
    | ((with_reducible refine Calls.mono (HTN.out _ _ _ hh2) ?_); rintro e w4 ⟨rfl, hb4⟩; have hh4 := hh2.later hb4; have q4 := str_of hh4 c2; have HB4 := Lib.hid (HB2.out.trans (hb4.mono HB2.out.size)); rw [HT3.out]))
  refine wp_region_tys 111 rfl [.is (.bool true), .is (.bool true), .is (.bool true), .is (.bool false), .is (.bool false), .is (.int .i64 0), .is (.bool true), .is (.bool true), .is undef, .is undef, .is (.bool true), .is (.bool true), .is (.slice A2 (encB 0).length c2), .is (.string ⟨(encB 0).toArray⟩), .is (.int .i64 0), .is (.bool false), .bytes (encB 0), .is (.string ⟨(encB 0).toArray⟩), .is (.bool true), .is (.bool true), .is (.bool true), .is (.bool true), .is (.bool true)] (by kernel_rfl) (by kernel_rfl) (by kernel_rfl) (by kernel_rfl) (by kernel_rfl) (by kernel_rfl) ⟨?ob0, ?ob1, ?ob2, ?ob3, ?ob4, ?ob5, ?ob6, ?ob7, ?ob8, ?ob9, ?ob10, ?ob11, ?ob12, ?ob13, ?ob14, ?ob15, ?ob16, ?ob17, ?ob18, ?ob19, ?ob20, ?ob21, ?ob22, trivial⟩ ?obend
  case ob0 =>
    intro vals W0 F hF hS hd
    have E7 : F.eval (.tmp 7) = .bool true := hF.out_ (by kernel_rfl) rfl
    refine .inr ⟨wanted_none rfl, .inl ⟨.bool true, ?_, Ty.of_is rfl⟩⟩
    simp only [execOp, E7, Sem.run_pure]
  case ob1 =>
    intro vals W0 F hF hS hd
    have d0 : vals 0 = .bool true := hd ⟨0, .data⟩ (Array.mem_of_getElem? (i := 0) rfl) rfl
    have E89 := eval_some (hF.own_ 0 rfl rfl (by decide)); rw [d0] at E89
    refine .inr ⟨wanted_none rfl, .inl ⟨.bool true, ?_, Ty.of_is rfl⟩⟩
    simp only [execOp, E89, Sem.run_pure]
  case ob2 =>
    intro vals W0 F hF hS hd
    have d1 : vals 1 = .bool true := hd ⟨1, .guard⟩ (Array.mem_of_getElem? (i := 0) rfl) rfl
    have E13 : F.eval (.tmp 13) = .bool true := hF.out_ (by kernel_rfl) rfl
    have G := hF.own_ 1 rfl rfl (by decide); rw [d1] at G
    refine .inr ⟨wanted_yes rfl rfl rfl G, .inl ⟨.bool true, ?_, Ty.of_is rfl⟩⟩
    simp only [execOp, E13, Sem.run_pure]
  case ob3 =>
    intro vals W0 F hF hS hd
    have d1 : vals 1 = .bool true := hd ⟨1, .guard⟩ (Array.mem_of_getElem? (i := 1) rfl) rfl
    have d2 : vals 2 = .bool true := hd ⟨2, .data⟩ (Array.mem_of_getElem? (i := 0) rfl) rfl
    have E91 := eval_some (hF.own_ 2 rfl rfl (by decide)); rw [d2] at E91
    have G := hF.own_ 1 rfl rfl (by decide); rw [d1] at G
    refine .inr ⟨wanted_yes rfl rfl rfl G, .inl ⟨.bool false, ?_, Ty.of_is rfl⟩⟩
    have Ec : ∀ v, F.eval (.const v) = v := fun _ => rfl; have Ef : ∀ f, F.eval (.func f) = .func (.func f) #[] #[] := fun _ => rfl; clear hF hd; generalize F.eval = ρ at E91 Ec Ef ⊢
    simp [execOp, go_sem, Ec, E91]
  case ob4 =>
    intro vals W0 F hF hS hd
    have d1 : vals 1 = .bool true := hd ⟨1, .chain⟩ (Array.mem_of_getElem? (i := 1) rfl) rfl
    have d3 : vals 3 = .bool false := hd ⟨3, .data⟩ (Array.mem_of_getElem? (i := 0) rfl) rfl
    have E92 := eval_some (hF.own_ 3 rfl rfl (by decide)); rw [d3] at E92
    have G := hF.own_ 1 rfl rfl (by decide); rw [d1] at G
    refine .inr ⟨wanted_yes rfl rfl rfl G, .inl ⟨.bool false, ?_, Ty.of_is rfl⟩⟩
    simp only [execOp, E92, Sem.run_pure]
  case ob5 =>
    intro vals W0 F hF hS hd
    have d4 : vals 4 = .bool false := hd ⟨4, .guard⟩ (Array.mem_of_getElem? (i := 0) rfl) rfl
    have E8 : F.eval (.tmp 8) = .int .i64 0 := hF.out_ (by kernel_rfl) rfl
    have G := hF.own_ 4 rfl rfl (by decide); rw [d4] at G
    refine .inr ⟨wanted_yes rfl rfl rfl G, .inl ⟨.int .i64 0, ?_, Ty.of_is rfl⟩⟩
    simp only [execOp, E8, Sem.run_pure]
  case ob6 =>
    intro vals W0 F hF hS hd
    have d4 : vals 4 = .bool false := hd ⟨4, .guard⟩ (Array.mem_of_getElem? (i := 1) rfl) rfl
    have d5 : vals 5 = .int .i64 0 := hd ⟨5, .data⟩ (Array.mem_of_getElem? (i := 0) rfl) rfl
    have E94 := eval_some (hF.own_ 5 rfl rfl (by decide)); rw [d5] at E94
    have G := hF.own_ 4 rfl rfl (by decide); rw [d4] at G
    refine .inr ⟨wanted_yes rfl rfl rfl G, .inl ⟨.bool true, ?_, Ty.of_is rfl⟩⟩
    have Ec : ∀ v, F.eval (.const v) = v := fun _ => rfl; have Ef : ∀ f, F.eval (.func f) = .func (.func f) #[] #[] := fun _ => rfl; clear hF hd; generalize F.eval = ρ at E94 Ec Ef ⊢
    simp [execOp, go_sem, Ec, E94]
  case ob7 =>
    intro vals W0 F hF hS hd
    have d4 : vals 4 = .bool false := hd ⟨4, .chain⟩ (Array.mem_of_getElem? (i := 1) rfl) rfl
    have d6 : vals 6 = .bool true := hd ⟨6, .data⟩ (Array.mem_of_getElem? (i := 0) rfl) rfl
    have E95 := eval_some (hF.own_ 6 rfl rfl (by decide)); rw [d6] at E95
    have G := hF.own_ 4 rfl rfl (by decide); rw [d4] at G
    refine .inr ⟨wanted_yes rfl rfl rfl G, .inl ⟨.bool true, ?_, Ty.of_is rfl⟩⟩
    simp only [execOp, E95, Sem.run_pure]
  case ob8 =>
    intro vals W0 F hF hS hd
    have d7 : vals 7 = .bool true := hd ⟨7, .guard⟩ (Array.mem_of_getElem? (i := 0) rfl) rfl
    have G := hF.own_ 7 rfl rfl (by decide); rw [d7] at G
    exact .inl ⟨wanted_no rfl rfl rfl G rfl, Ty.of_is rfl⟩
  case ob9 =>
    intro vals W0 F hF hS hd
    have d7 : vals 7 = .bool true := hd ⟨7, .guard⟩ (Array.mem_of_getElem? (i := 1) rfl) rfl
    have G := hF.own_ 7 rfl rfl (by decide); rw [d7] at G
    exact .inl ⟨wanted_no rfl rfl rfl G rfl, Ty.of_is rfl⟩
  case ob10 =>
    intro vals W0 F hF hS hd
    have d4 : vals 4 = .bool false := hd ⟨4, .guard⟩ (Array.mem_of_getElem? (i := 2) rfl) rfl
    have d7 : vals 7 = .bool true := hd ⟨7, .data⟩ (Array.mem_of_getElem? (i := 0) rfl) rfl
    have d9 : vals 9 = undef := hd ⟨9, .data⟩ (Array.mem_of_getElem? (i := 1) rfl) rfl
    have E96 := eval_some (hF.own_ 7 rfl rfl (by decide)); rw [d7] at E96
    have E98 := eval_some (hF.own_ 9 rfl rfl (by decide)); rw [d9] at E98
    have G := hF.own_ 4 rfl rfl (by decide); rw [d4] at G
    refine .inr ⟨wanted_yes rfl rfl rfl G, .inl ⟨.bool true, ?_, Ty.of_is rfl⟩⟩
    have Ec : ∀ v, F.eval (.const v) = v := fun _ => rfl; have Ef : ∀ f, F.eval (.func f) = .func (.func f) #[] #[] := fun _ => rfl; clear hF hd; generalize F.eval = ρ at E96 E98 Ec Ef ⊢
    simp [execOp, go_sem, Ec, E96, E98]
  case ob11 =>
    intro vals W0 F hF hS hd
    have d4 : vals 4 = .bool false := hd ⟨4, .guard⟩ (Array.mem_of_getElem? (i := 2) rfl) rfl
    have d10 : vals 10 = .bool true := hd ⟨10, .data⟩ (Array.mem_of_getElem? (i := 0) rfl) rfl
    have E99 := eval_some (hF.own_ 10 rfl rfl (by decide)); rw [d10] at E99
    have G := hF.own_ 4 rfl rfl (by decide); rw [d4] at G
    refine .inr ⟨wanted_yes rfl rfl rfl G, .inl ⟨.bool true, ?_, Ty.of_is rfl⟩⟩
    simp only [execOp, E99, Sem.run_pure]
  case ob12 =>
    intro vals W0 F hF hS hd
    have d11 : vals 11 = .bool true := hd ⟨11, .guard⟩ (Array.mem_of_getElem? (i := 0) rfl) rfl
    have E11 : F.eval (.tmp 11) = .slice A2 (encB 0).length c2 := hF.out_ (by kernel_rfl) rfl
    have G := hF.own_ 11 rfl rfl (by decide); rw [d11] at G
    refine .inr ⟨wanted_yes rfl rfl rfl G, .inl ⟨.slice A2 (encB 0).length c2, ?_, Ty.of_is rfl⟩⟩
    simp only [execOp, E11, Sem.run_pure]
  case ob13 =>
    intro vals W0 F hF hS hd
    have d11 : vals 11 = .bool true := hd ⟨11, .guard⟩ (Array.mem_of_getElem? (i := 1) rfl) rfl
    have d12 : vals 12 = .slice A2 (encB 0).length c2 := hd ⟨12, .data⟩ (Array.mem_of_getElem? (i := 0) rfl) rfl
    have E101 := eval_some (hF.own_ 12 rfl rfl (by decide)); rw [d12] at E101
    have G := hF.own_ 11 rfl rfl (by decide); rw [d11] at G
    refine .inr ⟨wanted_yes rfl rfl rfl G, ?_⟩
    refine .inl ⟨.string ⟨(encB 0).toArray⟩, ?_, Ty.of_is rfl⟩
    have hh6 : Holds8 W0.heap.size W0 A2 (encB 0) := hh4.later hS
    have q := str_of hh6 c2
    have Ec : ∀ v, F.eval (.const v) = v := fun _ => rfl; have Ef : ∀ f, F.eval (.func f) = .func (.func f) #[] #[] := fun _ => rfl; clear hF hd; generalize F.eval = ρ at E101 Ec Ef ⊢
    simp [execOp, go_sem, Ec, E101, q]
  case ob14 =>
    intro vals W0 F hF hS hd
    have d11 : vals 11 = .bool true := hd ⟨11, .guard⟩ (Array.mem_of_getElem? (i := 0) rfl) rfl
    have E8 : F.eval (.tmp 8) = .int .i64 0 := hF.out_ (by kernel_rfl) rfl
    have G := hF.own_ 11 rfl rfl (by decide); rw [d11] at G
    refine .inr ⟨wanted_yes rfl rfl rfl G, .inl ⟨.int .i64 0, ?_, Ty.of_is rfl⟩⟩
    simp only [execOp, E8, Sem.run_pure]
  case ob15 =>
    intro vals W0 F hF hS hd
    have d11 : vals 11 = .bool true := hd ⟨11, .guard⟩ (Array.mem_of_getElem? (i := 1) rfl) rfl
    have d14 : vals 14 = .int .i64 0 := hd ⟨14, .data⟩ (Array.mem_of_getElem? (i := 0) rfl) rfl
    have E103 := eval_some (hF.own_ 14 rfl rfl (by decide)); rw [d14] at E103
    have G := hF.own_ 11 rfl rfl (by decide); rw [d11] at G
    refine .inr ⟨wanted_yes rfl rfl rfl G, .inl ⟨.bool false, ?_, Ty.of_is rfl⟩⟩
    have Ec : ∀ v, F.eval (.const v) = v := fun _ => rfl; have Ef : ∀ f, F.eval (.func f) = .func (.func f) #[] #[] := fun _ => rfl; clear hF hd; generalize F.eval = ρ at E103 Ec Ef ⊢
    simp [execOp, go_sem, Ec, E103]
  case ob16 =>
    intro vals W0 F hF hS hd
    have d11 : vals 11 = .bool true := hd ⟨11, .chain⟩ (Array.mem_of_getElem? (i := 1) rfl) rfl
    have d15 : vals 15 = .bool false := hd ⟨15, .data⟩ (Array.mem_of_getElem? (i := 0) rfl) rfl
    have E104 := eval_some (hF.own_ 15 rfl rfl (by decide)); rw [d15] at E104
    have G := hF.own_ 11 rfl rfl (by decide); rw [d11] at G
    refine .inr ⟨wanted_yes rfl rfl rfl G, ?_⟩
    refine .inr ⟨16, #[.bool false], ?_, (flag_any false W0).mono ?_⟩
    · have Ec : ∀ v, F.eval (.const v) = v := fun _ => rfl; have Ef : ∀ f, F.eval (.func f) = .func (.func f) #[] #[] := fun _ => rfl; clear hF hd; generalize F.eval = ρ at E104 Ec Ef ⊢
      simp [execOp, go_sem, Ec, Ef, E104]
    rintro e W1 ⟨A5, c5, rfl, hh5, _, hb5⟩
    exact ⟨_, rfl, hb5, A5, c5, rfl, hh5⟩
  case ob17 =>
    intro vals W0 F hF hS hd
    have d11 : vals 11 = .bool true := hd ⟨11, .guard⟩ (Array.mem_of_getElem? (i := 1) rfl) rfl
    obtain ⟨A5, c5, hspec16, hh5⟩ := hd ⟨16, .data⟩ (Array.mem_of_getElem? (i := 0) rfl) rfl
    have d16 : vals 16 = .slice A5 (encB 0).length c5 := hspec16
    have E105 := eval_some (hF.own_ 16 rfl rfl (by decide)); rw [d16] at E105
    have G := hF.own_ 11 rfl rfl (by decide); rw [d11] at G
    refine .inr ⟨wanted_yes rfl rfl rfl G, ?_⟩
    refine .inl ⟨.string ⟨(encB 0).toArray⟩, ?_, Ty.of_is rfl⟩
    have q := str_of hh5 c5
    have Ec : ∀ v, F.eval (.const v) = v := fun _ => rfl; have Ef : ∀ f, F.eval (.func f) = .func (.func f) #[] #[] := fun _ => rfl; clear hF hd; generalize F.eval = ρ at E105 Ec Ef ⊢
    simp [execOp, go_sem, Ec, E105, q]
  case ob18 =>
    intro vals W0 F hF hS hd
    have d11 : vals 11 = .bool true := hd ⟨11, .guard⟩ (Array.mem_of_getElem? (i := 2) rfl) rfl
    have d13 : vals 13 = .string ⟨(encB 0).toArray⟩ := hd ⟨13, .data⟩ (Array.mem_of_getElem? (i := 0) rfl) rfl
    have d17 : vals 17 = .string ⟨(encB 0).toArray⟩ := hd ⟨17, .data⟩ (Array.mem_of_getElem? (i := 1) rfl) rfl
    have E102 := eval_some (hF.own_ 13 rfl rfl (by decide)); rw [d13] at E102
    have E106 := eval_some (hF.own_ 17 rfl rfl (by decide)); rw [d17] at E106
    have G := hF.own_ 11 rfl rfl (by decide); rw [d11] at G
    refine .inr ⟨wanted_yes rfl rfl rfl G, .inl ⟨.bool true, ?_, Ty.of_is rfl⟩⟩
    have Ec : ∀ v, F.eval (.const v) = v := fun _ => rfl; have Ef : ∀ f, F.eval (.func f) = .func (.func f) #[] #[] := fun _ => rfl; clear hF hd; generalize F.eval = ρ at E102 E106 Ec Ef ⊢
    simp [execOp, go_sem, Ec, E102, E106]
  case ob19 =>
    intro vals W0 F hF hS hd
    have d4 : vals 4 = .bool false := hd ⟨4, .guard⟩ (Array.mem_of_getElem? (i := 2) rfl) rfl
    have d11 : vals 11 = .bool true := hd ⟨11, .data⟩ (Array.mem_of_getElem? (i := 0) rfl) rfl
    have d18 : vals 18 = .bool true := hd ⟨18, .data⟩ (Array.mem_of_getElem? (i := 1) rfl) rfl
    have E100 := eval_some (hF.own_ 11 rfl rfl (by decide)); rw [d11] at E100
    have E107 := eval_some (hF.own_ 18 rfl rfl (by decide)); rw [d18] at E107
    have G := hF.own_ 4 rfl rfl (by decide); rw [d4] at G
    refine .inr ⟨wanted_yes rfl rfl rfl G, .inl ⟨.bool true, ?_, Ty.of_is rfl⟩⟩
    have Ec : ∀ v, F.eval (.const v) = v := fun _ => rfl; have Ef : ∀ f, F.eval (.func f) = .func (.func f) #[] #[] := fun _ => rfl; clear hF hd; generalize F.eval = ρ at E100 E107 Ec Ef ⊢
    simp [execOp, go_sem, Ec, E100, E107]
  case ob20 =>
    intro vals W0 F hF hS hd
    have d1 : vals 1 = .bool true := hd ⟨1, .guard⟩ (Array.mem_of_getElem? (i := 2) rfl) rfl
    have d4 : vals 4 = .bool false := hd ⟨4, .data⟩ (Array.mem_of_getElem? (i := 0) rfl) rfl
    have d19 : vals 19 = .bool true := hd ⟨19, .data⟩ (Array.mem_of_getElem? (i := 1) rfl) rfl
    have E93 := eval_some (hF.own_ 4 rfl rfl (by decide)); rw [d4] at E93
    have E108 := eval_some (hF.own_ 19 rfl rfl (by decide)); rw [d19] at E108
    have G := hF.own_ 1 rfl rfl (by decide); rw [d1] at G
    refine .inr ⟨wanted_yes rfl rfl rfl G, .inl ⟨.bool true, ?_, Ty.of_is rfl⟩⟩
    have Ec : ∀ v, F.eval (.const v) = v := fun _ => rfl; have Ef : ∀ f, F.eval (.func f) = .func (.func f) #[] #[] := fun _ => rfl; clear hF hd; generalize F.eval = ρ at E93 E108 Ec Ef ⊢
    simp [execOp, go_sem, Ec, E93, E108]
  case ob21 =>
    intro vals W0 F hF hS hd
    have d1 : vals 1 = .bool true := hd ⟨1, .data⟩ (Array.mem_of_getElem? (i := 0) rfl) rfl
    have d20 : vals 20 = .bool true := hd ⟨20, .data⟩ (Array.mem_of_getElem? (i := 1) rfl) rfl
    have E90 := eval_some (hF.own_ 1 rfl rfl (by decide)); rw [d1] at E90
    have E109 := eval_some (hF.own_ 20 rfl rfl (by decide)); rw [d20] at E109
    refine .inr ⟨wanted_none rfl, .inl ⟨.bool true, ?_, Ty.of_is rfl⟩⟩
    have Ec : ∀ v, F.eval (.const v) = v := fun _ => rfl; have Ef : ∀ f, F.eval (.func f) = .func (.func f) #[] #[] := fun _ => rfl; clear hF hd; generalize F.eval = ρ at E90 E109 Ec Ef ⊢
    simp [execOp, go_sem, Ec, E90, E109]
  case ob22 =>
    intro vals W0 F hF hS hd
    have d21 : vals 21 = .bool true := hd ⟨21, .data⟩ (Array.mem_of_getElem? (i := 0) rfl) rfl
    have E110 := eval_some (hF.own_ 21 rfl rfl (by decide)); rw [d21] at E110
    refine .inr ⟨wanted_none rfl, .inl ⟨.bool true, ?_, Ty.of_is rfl⟩⟩
    simp only [execOp, E110, Sem.run_pure]
  case obend =>
    intro vals W0 F hF hdef hS hT
    have e6 := hF.own_ 22 rfl rfl (by decide)
    have d22 : vals 22 = .bool true := hT 22 (by decide)
    rw [d22] at e6
    rename_i K hK
    refine hK _ _ (wp_ret (bodyPost_ret (results_tmp rfl _ _ _) hdef ?_))
    refine ⟨?_, HB4.out.trans (hS.mono HB4.out.size)⟩
    show Ending.returned (F.tmps.getD 6 undef) = _
    rw [Array.getD_eq_getD_getElem?, e6]
    rfl

set_option maxRecDepth 100000 in
set_option maxHeartbeats 4000000 in
theorem made_145_1 (x y : Int) (x1 : -2147483647 ≤ x) (x2 : x ≤ 2147483647) (hv : tv (x == 0) = 1) (a b : Int) (hx : a.tmod 2147483648 = x) (hy : b.tmod 2147483648 = y) (w : World) : Calls Try.prog 9 #[.int .u8 145, .int .i64 a, .int .i64 b] w fun e w' => e = .returned (.bool true) ∧ Below w.heap.size w w' := by
  have HE := Lib.hid (encode_yes (1) (by omega) (by omega))
  have h5 := encB_length (1) 4 (by omega)
  have d5 : decide ((5 : Int) < ((encB (1)).length : Int)) = false := by simp; omega
  have HTN := Lib.hid (fun c A w h => true_any (encB (1)) (by unfold maxLen; omega) c A w h)
  have HT3 := Lib.hid (show trueB (encB (1)) = ((1 : Int) != 0) by rw [trueB_encB, Bool.eq_iff_iff]; simp)
  have HO := one_145 x x1 x2
  rw [hv] at HO
  have HO1 := Lib.hid HO
  have HAR := Lib.hid arity_145
  clear hv HO h5
  go_enter Try.func9, Try.ntmps9
  go_wp2_with (first
    | (go_at_call 28; refine Calls.mono (alive_any _) ?_; rintro e w1 ⟨rfl, hb1⟩)
    | ((with_reducible refine Calls.mono (HO1.out _) ?_); rintro e w' ⟨rfl, rfl⟩)
    | ((with_reducible refine Calls.mono (HAR.out _) ?_); rintro e w' ⟨rfl, rfl⟩)
    | ((with_reducible refine Calls.mono (HE.out _) ?_); rintro e w2 ⟨A2, c2, rfl, hh2, _, hb2⟩; have HB2 := Lib.hid (hb1.trans (hb2.mono hb1.size)))
    | ((with_reducible refine Calls.mono (HTN.out _ _ _ hh2) ?_); rintro e w4 ⟨rfl, hb4⟩; have hh4 := hh2.later hb4; have q4 := str_of hh4 c2; have HB4 := Lib.hid (HB2.out.trans (hb4.mono HB2.out.size)); rw [HT3.out]))
  refine wp_region_tys 111 rfl [.is (.bool true), .is (.bool true), .is (.bool true), .is (.bool false), .is (.bool false), .is (.int .i64 1), .is (.bool false), .is (.bool false), .is (.int .i64 1), .is (.bool true), .is (.bool true), .is (.bool true), .is (.slice A2 (encB 1).length c2), .is (.string ⟨(encB 1).toArray⟩), .is (.int .i64 1), .is (.bool true), .bytes (encB 1), .is (.string ⟨(encB 1).toArray⟩), .is (.bool true), .is (.bool true), .is (.bool true), .is (.bool true), .is (.bool true)] (by kernel_rfl) (by kernel_rfl) (by kernel_rfl) (by kernel_rfl) (by kernel_rfl) (by kernel_rfl) ⟨?ob0, ?ob1, ?ob2, ?ob3, ?ob4, ?ob5, ?ob6, ?ob7, ?ob8, ?ob9, ?ob10, ?ob11, ?ob12, ?ob13, ?ob14, ?ob15, ?ob16, ?ob17, ?ob18, ?ob19, ?ob20, ?ob21, ?ob22, trivial⟩ ?obend
  case ob0 =>
    intro vals W0 F hF hS hd
    have E7 : F.eval (.tmp 7) = .bool true := hF.out_ (by kernel_rfl) rfl
    refine .inr ⟨wanted_none rfl, .inl ⟨.bool true, ?_, Ty.of_is rfl⟩⟩
    simp only [execOp, E7, Sem.run_pure]
  case ob1 =>
    intro vals W0 F hF hS hd
    have d0 : vals 0 = .bool true := hd ⟨0, .data⟩ (Array.mem_of_getElem? (i := 0) rfl) rfl
    have E89 := eval_some (hF.own_ 0 rfl rfl (by decide)); rw [d0] at E89
    refine .inr ⟨wanted_none rfl, .inl ⟨.bool true, ?_, Ty.of_is rfl⟩⟩
    simp only [execOp, E89, Sem.run_pure]
  case ob2 =>
    intro vals W0 F hF hS hd
    have d1 : vals 1 = .bool true := hd ⟨1, .guard⟩ (Array.mem_of_getElem? (i := 0) rfl) rfl
    have E13 : F.eval (.tmp 13) = .bool true := hF.out_ (by kernel_rfl) rfl
    have G := hF.own_ 1 rfl rfl (by decide); rw [d1] at G
    refine .inr ⟨wanted_yes rfl rfl rfl G, .inl ⟨.bool true, ?_, Ty.of_is rfl⟩⟩
    simp only [execOp, E13, Sem.run_pure]
  case ob3 =>
    intro vals W0 F hF hS hd
    have d1 : vals 1 = .bool true := hd ⟨1, .guard⟩ (Array.mem_of_getElem? (i := 1) rfl) rfl
    have d2 : vals 2 = .bool true := hd ⟨2, .data⟩ (Array.mem_of_getElem? (i := 0) rfl) rfl
    have E91 := eval_some (hF.own_ 2 rfl rfl (by decide)); rw [d2] at E91
    have G := hF.own_ 1 rfl rfl (by decide); rw [d1] at G
    refine .inr ⟨wanted_yes rfl rfl rfl G, .inl ⟨.bool false, ?_, Ty.of_is rfl⟩⟩
    have Ec : ∀ v, F.eval (.const v) = v := fun _ => rfl; have Ef : ∀ f, F.eval (.func f) = .func (.func f) #[] #[] := fun _ => rfl; clear hF hd; generalize F.eval = ρ at E91 Ec Ef ⊢
    simp [execOp, go_sem, Ec, E91]
  case ob4 =>
    intro vals W0 F hF hS hd
    have d1 : vals 1 = .bool true := hd ⟨1, .chain⟩ (Array.mem_of_getElem? (i := 1) rfl) rfl
    have d3 : vals 3 = .bool false := hd ⟨3, .data⟩ (Array.mem_of_getElem? (i := 0) rfl) rfl
    have E92 := eval_some (hF.own_ 3 rfl rfl (by decide)); rw [d3] at E92
    have G := hF.own_ 1 rfl rfl (by decide); rw [d1] at G
    refine .inr ⟨wanted_yes rfl rfl rfl G, .inl ⟨.bool false, ?_, Ty.of_is rfl⟩⟩
    simp only [execOp, E92, Sem.run_pure]
  case ob5 =>
    intro vals W0 F hF hS hd
    have d4 : vals 4 = .bool false := hd ⟨4, .guard⟩ (Array.mem_of_getElem? (i := 0) rfl) rfl
    have E8 : F.eval (.tmp 8) = .int .i64 1 := hF.out_ (by kernel_rfl) rfl
    have G := hF.own_ 4 rfl rfl (by decide); rw [d4] at G
    refine .inr ⟨wanted_yes rfl rfl rfl G, .inl ⟨.int .i64 1, ?_, Ty.of_is rfl⟩⟩
    simp only [execOp, E8, Sem.run_pure]
  case ob6 =>
    intro vals W0 F hF hS hd
    have d4 : vals 4 = .bool false := hd ⟨4, .guard⟩ (Array.mem_of_getElem? (i := 1) rfl) rfl
    have d5 : vals 5 = .int .i64 1 := hd ⟨5, .data⟩ (Array.mem_of_getElem? (i := 0) rfl) rfl
    have E94 := eval_some (hF.own_ 5 rfl rfl (by decide)); rw [d5] at E94
    have G := hF.own_ 4 rfl rfl (by decide); rw [d4] at G
    refine .inr ⟨wanted_yes rfl rfl rfl G, .inl ⟨.bool false, ?_, Ty.of_is rfl⟩⟩
    have Ec : ∀ v, F.eval (.const v) = v := fun _ => rfl; have Ef : ∀ f, F.eval (.func f) = .func (.func f) #[] #[] := fun _ => rfl; clear hF hd; generalize F.eval = ρ at E94 Ec Ef ⊢
    simp [execOp, go_sem, Ec, E94]
  case ob7 =>
    intro vals W0 F hF hS hd
    have d4 : vals 4 = .bool false := hd ⟨4, .chain⟩ (Array.mem_of_getElem? (i := 1) rfl) rfl
    have d6 : vals 6 = .bool false := hd ⟨6, .data⟩ (Array.mem_of_getElem? (i := 0) rfl) rfl
    have E95 := eval_some (hF.own_ 6 rfl rfl (by decide)); rw [d6] at E95
    have G := hF.own_ 4 rfl rfl (by decide); rw [d4] at G
    refine .inr ⟨wanted_yes rfl rfl rfl G, .inl ⟨.bool false, ?_, Ty.of_is rfl⟩⟩
    simp only [execOp, E95, Sem.run_pure]
  case ob8 =>
    intro vals W0 F hF hS hd
    have d7 : vals 7 = .bool false := hd ⟨7, .guard⟩ (Array.mem_of_getElem? (i := 0) rfl) rfl
    have E8 : F.eval (.tmp 8) = .int .i64 1 := hF.out_ (by kernel_rfl) rfl
    have G := hF.own_ 7 rfl rfl (by decide); rw [d7] at G
    refine .inr ⟨wanted_yes rfl rfl rfl G, .inl ⟨.int .i64 1, ?_, Ty.of_is rfl⟩⟩
    simp only [execOp, E8, Sem.run_pure]
  case ob9 =>
    intro vals W0 F hF hS hd
    have d7 : vals 7 = .bool false := hd ⟨7, .guard⟩ (Array.mem_of_getElem? (i := 1) rfl) rfl
    have d8 : vals 8 = .int .i64 1 := hd ⟨8, .data⟩ (Array.mem_of_getElem? (i := 0) rfl) rfl
    have E97 := eval_some (hF.own_ 8 rfl rfl (by decide)); rw [d8] at E97
    have G := hF.own_ 7 rfl rfl (by decide); rw [d7] at G
    refine .inr ⟨wanted_yes rfl rfl rfl G, .inl ⟨.bool true, ?_, Ty.of_is rfl⟩⟩
    have Ec : ∀ v, F.eval (.const v) = v := fun _ => rfl; have Ef : ∀ f, F.eval (.func f) = .func (.func f) #[] #[] := fun _ => rfl; clear hF hd; generalize F.eval = ρ at E97 Ec Ef ⊢
    simp [execOp, go_sem, Ec, E97]
  case ob10 =>
    intro vals W0 F hF hS hd
    have d4 : vals 4 = .bool false := hd ⟨4, .guard⟩ (Array.mem_of_getElem? (i := 2) rfl) rfl
    have d7 : vals 7 = .bool false := hd ⟨7, .data⟩ (Array.mem_of_getElem? (i := 0) rfl) rfl
    have d9 : vals 9 = .bool true := hd ⟨9, .data⟩ (Array.mem_of_getElem? (i := 1) rfl) rfl
    have E96 := eval_some (hF.own_ 7 rfl rfl (by decide)); rw [d7] at E96
    have E98 := eval_some (hF.own_ 9 rfl rfl (by decide)); rw [d9] at E98
    have G := hF.own_ 4 rfl rfl (by decide); rw [d4] at G
    refine .inr ⟨wanted_yes rfl rfl rfl G, .inl ⟨.bool true, ?_, Ty.of_is rfl⟩⟩
    have Ec : ∀ v, F.eval (.const v) = v := fun _ => rfl; have Ef : ∀ f, F.eval (.func f) = .func (.func f) #[] #[] := fun _ => rfl; clear hF hd; generalize F.eval = ρ at E96 E98 Ec Ef ⊢
    simp [execOp, go_sem, Ec, E96, E98]
  case ob11 =>
    intro vals W0 F hF hS hd
    have d4 : vals 4 = .bool false := hd ⟨4, .guard⟩ (Array.mem_of_getElem? (i := 2) rfl) rfl
    have d10 : vals 10 = .bool true := hd ⟨10, .data⟩ (Array.mem_of_getElem? (i := 0) rfl) rfl
    have E99 := eval_some (hF.own_ 10 rfl rfl (by decide)); rw [d10] at E99
    have G := hF.own_ 4 rfl rfl (by decide); rw [d4] at G
    refine .inr ⟨wanted_yes rfl rfl rfl G, .inl ⟨.bool true, ?_, Ty.of_is rfl⟩⟩
    simp only [execOp, E99, Sem.run_pure]
  case ob12 =>
    intro vals W0 F hF hS hd
    have d11 : vals 11 = .bool true := hd ⟨11, .guard⟩ (Array.mem_of_getElem? (i := 0) rfl) rfl
    have E11 : F.eval (.tmp 11) = .slice A2 (encB 1).length c2 := hF.out_ (by kernel_rfl) rfl
    have G := hF.own_ 11 rfl rfl (by decide); rw [d11] at G
    refine .inr ⟨wanted_yes rfl rfl rfl G, .inl ⟨.slice A2 (encB 1).length c2, ?_, Ty.of_is rfl⟩⟩
    simp only [execOp, E11, Sem.run_pure]
  case ob13 =>
    intro vals W0 F hF hS hd
    have d11 : vals 11 = .bool true := hd ⟨11, .guard⟩ (Array.mem_of_getElem? (i := 1) rfl) rfl
    have d12 : vals 12 = .slice A2 (encB 1).length c2 := hd ⟨12, .data⟩ (Array.mem_of_getElem? (i := 0) rfl) rfl
    have E101 := eval_some (hF.own_ 12 rfl rfl (by decide)); rw [d12] at E101
    have G := hF.own_ 11 rfl rfl (by decide); rw [d11] at G
    refine .inr ⟨wanted_yes rfl rfl rfl G, ?_⟩
    refine .inl ⟨.string ⟨(encB 1).toArray⟩, ?_, Ty.of_is rfl⟩
    have hh6 : Holds8 W0.heap.size W0 A2 (encB 1) := hh4.later hS
    have q := str_of hh6 c2
    have Ec : ∀ v, F.eval (.const v) = v := fun _ => rfl; have Ef : ∀ f, F.eval (.func f) = .func (.func f) #[] #[] := fun _ => rfl; clear hF hd; generalize F.eval = ρ at E101 Ec Ef ⊢
    simp [execOp, go_sem, Ec, E101, q]
  case ob14 =>
    intro vals W0 F hF hS hd
    have d11 : vals 11 = .bool true := hd ⟨11, .guard⟩ (Array.mem_of_getElem? (i := 0) rfl) rfl
    have E8 : F.eval (.tmp 8) = .int .i64 1 := hF.out_ (by kernel_rfl) rfl
    have G := hF.own_ 11 rfl rfl (by decide); rw [d11] at G
    refine .inr ⟨wanted_yes rfl rfl rfl G, .inl ⟨.int .i64 1, ?_, Ty.of_is rfl⟩⟩
    simp only [execOp, E8, Sem.run_pure]
  case ob15 =>
    intro vals W0 F hF hS hd
    have d11 : vals 11 = .bool true := hd ⟨11, .guard⟩ (Array.mem_of_getElem? (i := 1) rfl) rfl
    have d14 : vals 14 = .int .i64 1 := hd ⟨14, .data⟩ (Array.mem_of_getElem? (i := 0) rfl) rfl
    have E103 := eval_some (hF.own_ 14 rfl rfl (by decide)); rw [d14] at E103
    have G := hF.own_ 11 rfl rfl (by decide); rw [d11] at G
    refine .inr ⟨wanted_yes rfl rfl rfl G, .inl ⟨.bool true, ?_, Ty.of_is rfl⟩⟩
    have Ec : ∀ v, F.eval (.const v) = v := fun _ => rfl; have Ef : ∀ f, F.eval (.func f) = .func (.func f) #[] #[] := fun _ => rfl; clear hF hd; generalize F.eval = ρ at E103 Ec Ef ⊢
    simp [execOp, go_sem, Ec, E103]
  case ob16 =>
    intro vals W0 F hF hS hd
    have d11 : vals 11 = .bool true := hd ⟨11, .chain⟩ (Array.mem_of_getElem? (i := 1) rfl) rfl
    have d15 : vals 15 = .bool true := hd ⟨15, .data⟩ (Array.mem_of_getElem? (i := 0) rfl) rfl
    have E104 := eval_some (hF.own_ 15 rfl rfl (by decide)); rw [d15] at E104
    have G := hF.own_ 11 rfl rfl (by decide); rw [d11] at G
    refine .inr ⟨wanted_yes rfl rfl rfl G, ?_⟩
    refine .inr ⟨16, #[.bool true], ?_, (flag_any true W0).mono ?_⟩
    · have Ec : ∀ v, F.eval (.const v) = v := fun _ => rfl; have Ef : ∀ f, F.eval (.func f) = .func (.func f) #[] #[] := fun _ => rfl; clear hF hd; generalize F.eval = ρ at E104 Ec Ef ⊢
      simp [execOp, go_sem, Ec, Ef, E104]
    rintro e W1 ⟨A5, c5, rfl, hh5, _, hb5⟩
    exact ⟨_, rfl, hb5, A5, c5, rfl, hh5⟩
  case ob17 =>
    intro vals W0 F hF hS hd
    have d11 : vals 11 = .bool true := hd ⟨11, .guard⟩ (Array.mem_of_getElem? (i := 1) rfl) rfl
    obtain ⟨A5, c5, hspec16, hh5⟩ := hd ⟨16, .data⟩ (Array.mem_of_getElem? (i := 0) rfl) rfl
    have d16 : vals 16 = .slice A5 (encB 1).length c5 := hspec16
    have E105 := eval_some (hF.own_ 16 rfl rfl (by decide)); rw [d16] at E105
    have G := hF.own_ 11 rfl rfl (by decide); rw [d11] at G
    refine .inr ⟨wanted_yes rfl rfl rfl G, ?_⟩
    refine .inl ⟨.string ⟨(encB 1).toArray⟩, ?_, Ty.of_is rfl⟩
    have q := str_of hh5 c5
    have Ec : ∀ v, F.eval (.const v) = v := fun _ => rfl; have Ef : ∀ f, F.eval (.func f) = .func (.func f) #[] #[] := fun _ => rfl; clear hF hd; generalize F.eval = ρ at E105 Ec Ef ⊢
    simp [execOp, go_sem, Ec, E105, q]
  case ob18 =>
    intro vals W0 F hF hS hd
    have d11 : vals 11 = .bool true := hd ⟨11, .guard⟩ (Array.mem_of_getElem? (i := 2) rfl) rfl
    have d13 : vals 13 = .string ⟨(encB 1).toArray⟩ := hd ⟨13, .data⟩ (Array.mem_of_getElem? (i := 0) rfl) rfl
    have d17 : vals 17 = .string ⟨(encB 1).toArray⟩ := hd ⟨17, .data⟩ (Array.mem_of_getElem? (i := 1) rfl) rfl
    have E102 := eval_some (hF.own_ 13 rfl rfl (by decide)); rw [d13] at E102
    have E106 := eval_some (hF.own_ 17 rfl rfl (by decide)); rw [d17] at E106
    have G := hF.own_ 11 rfl rfl (by decide); rw [d11] at G
    refine .inr ⟨wanted_yes rfl rfl rfl G, .inl ⟨.bool true, ?_, Ty.of_is rfl⟩⟩
    have Ec : ∀ v, F.eval (.const v) = v := fun _ => rfl; have Ef : ∀ f, F.eval (.func f) = .func (.func f) #[] #[] := fun _ => rfl; clear hF hd; generalize F.eval = ρ at E102 E106 Ec Ef ⊢
    simp [execOp, go_sem, Ec, E102, E106]
  case ob19 =>
    intro vals W0 F hF hS hd
    have d4 : vals 4 = .bool false := hd ⟨4, .guard⟩ (Array.mem_of_getElem? (i := 2) rfl) rfl
    have d11 : vals 11 = .bool true := hd ⟨11, .data⟩ (Array.mem_of_getElem? (i := 0) rfl) rfl
    have d18 : vals 18 = .bool true := hd ⟨18, .data⟩ (Array.mem_of_getElem? (i := 1) rfl) rfl
    have E100 := eval_some (hF.own_ 11 rfl rfl (by decide)); rw [d11] at E100
    have E107 := eval_some (hF.own_ 18 rfl rfl (by decide)); rw [d18] at E107
    have G := hF.own_ 4 rfl rfl (by decide); rw [d4] at G
    refine .inr ⟨wanted_yes rfl rfl rfl G, .inl ⟨.bool true, ?_, Ty.of_is rfl⟩⟩
    have Ec : ∀ v, F.eval (.const v) = v := fun _ => rfl; have Ef : ∀ f, F.eval (.func f) = .func (.func f) #[] #[] := fun _ => rfl; clear hF hd; generalize F.eval = ρ at E100 E107 Ec Ef ⊢
    simp [execOp, go_sem, Ec, E100, E107]
  case ob20 =>
    intro vals W0 F hF hS hd
    have d1 : vals 1 = .bool true := hd ⟨1, .guard⟩ (Array.mem_of_getElem? (i := 2) rfl) rfl
    have d4 : vals 4 = .bool false := hd ⟨4, .data⟩ (Array.mem_of_getElem? (i := 0) rfl) rfl
    have d19 : vals 19 = .bool true := hd ⟨19, .data⟩ (Array.mem_of_getElem? (i := 1) rfl) rfl
    have E93 := eval_some (hF.own_ 4 rfl rfl (by decide)); rw [d4] at E93
    have E108 := eval_some (hF.own_ 19 rfl rfl (by decide)); rw [d19] at E108
    have G := hF.own_ 1 rfl rfl (by decide); rw [d1] at G
    refine .inr ⟨wanted_yes rfl rfl rfl G, .inl ⟨.bool true, ?_, Ty.of_is rfl⟩⟩
    have Ec : ∀ v, F.eval (.const v) = v := fun _ => rfl; have Ef : ∀ f, F.eval (.func f) = .func (.func f) #[] #[] := fun _ => rfl; clear hF hd; generalize F.eval = ρ at E93 E108 Ec Ef ⊢
    simp [execOp, go_sem, Ec, E93, E108]
  case ob21 =>
    intro vals W0 F hF hS hd
    have d1 : vals 1 = .bool true := hd ⟨1, .data⟩ (Array.mem_of_getElem? (i := 0) rfl) rfl
    have d20 : vals 20 = .bool true := hd ⟨20, .data⟩ (Array.mem_of_getElem? (i := 1) rfl) rfl
    have E90 := eval_some (hF.own_ 1 rfl rfl (by decide)); rw [d1] at E90
    have E109 := eval_some (hF.own_ 20 rfl rfl (by decide)); rw [d20] at E109
    refine .inr ⟨wanted_none rfl, .inl ⟨.bool true, ?_, Ty.of_is rfl⟩⟩
    have Ec : ∀ v, F.eval (.const v) = v := fun _ => rfl; have Ef : ∀ f, F.eval (.func f) = .func (.func f) #[] #[] := fun _ => rfl; clear hF hd; generalize F.eval = ρ at E90 E109 Ec Ef ⊢
    simp [execOp, go_sem, Ec, E90, E109]
  case ob22 =>
    intro vals W0 F hF hS hd
    have d21 : vals 21 = .bool true := hd ⟨21, .data⟩ (Array.mem_of_getElem? (i := 0) rfl) rfl
    have E110 := eval_some (hF.own_ 21 rfl rfl (by decide)); rw [d21] at E110
    refine .inr ⟨wanted_none rfl, .inl ⟨.bool true, ?_, Ty.of_is rfl⟩⟩
    simp only [execOp, E110, Sem.run_pure]
  case obend =>
    intro vals W0 F hF hdef hS hT
    have e6 := hF.own_ 22 rfl rfl (by decide)
    have d22 : vals 22 = .bool true := hT 22 (by decide)
    rw [d22] at e6
    rename_i K hK
    refine hK _ _ (wp_ret (bodyPost_ret (results_tmp rfl _ _ _) hdef ?_))
    refine ⟨?_, HB4.out.trans (hS.mono HB4.out.size)⟩
    show Ending.returned (F.tmps.getD 6 undef) = _
    rw [Array.getD_eq_getD_getElem?, e6]
    rfl

set_option maxRecDepth 100000 in
set_option maxHeartbeats 4000000 in
theorem made_146_0 (x y : Int) (x1 : -2147483647 ≤ x) (x2 : x ≤ 2147483647) (hv : tv (x != 0) = 0) (a b : Int) (hx : a.tmod 2147483648 = x) (hy : b.tmod 2147483648 = y) (w : World) : Calls Try.prog 9 #[.int .u8 146, .int .i64 a, .int .i64 b] w fun e w' => e = .returned (.bool true) ∧ Below w.heap.size w w' := by
  have HE := Lib.hid (encode_yes (0) (by omega) (by omega))
  have h5 := encB_length (0) 4 (by omega)
  have d5 : decide ((5 : Int) < ((encB (0)).length : Int)) = false := by simp; omega
  have HTN := Lib.hid (fun c A w h => true_any (encB (0)) (by unfold maxLen; omega) c A w h)
  have HT3 := Lib.hid (show trueB (encB (0)) = ((0 : Int) != 0) by rw [trueB_encB, Bool.eq_iff_iff]; simp)
  have HO := one_146 x x1 x2
  rw [hv] at HO
  have HO1 := Lib.hid HO
  have HAR := Lib.hid arity_146
  clear hv HO h5
  go_enter Try.func9, Try.ntmps9
  go_wp2_with (first
    | (go_at_call 28; refine Calls.mono (alive_any _) ?_; rintro e w1 ⟨rfl, hb1⟩)
    | ((with_reducible refine Calls.mono (HO1.out _) ?_); rintro e w' ⟨rfl, rfl⟩)
    | ((with_reducible refine Calls.mono (HAR.out _) ?_); rintro e w' ⟨rfl, rfl⟩)
    | ((with_reducible refine Calls.mono (HE.out _) ?_); rintro e w2 ⟨A2, c2, rfl, hh2, _, hb2⟩; have HB2 := Lib.hid (hb1.trans (hb2.mono hb1.size)))
    | ((with_reducible refine Calls.mono (HTN.out _ _ _ hh2) ?_); rintro e w4 ⟨rfl, hb4⟩; have hh4 := hh2.later hb4; have q4 := str_of hh4 c2; have HB4 := Lib.hid (HB2.out.trans (hb4.mono HB2.out.size)); rw [HT3.out]))
  refine wp_region_tys 111 rfl [.is (.bool true), .is (.bool true), .is (.bool true), .is (.bool false), .is (.bool false), .is (.int .i64 0), .is (.bool true), .is (.bool true), .is undef, .is undef, .is (.bool true), .is (.bool true), .is (.slice A2 (encB 0).length c2), .is (.string ⟨(encB 0).toArray⟩), .is (.int .i64 0), .is (.bool false), .bytes (encB 0), .is (.string ⟨(encB 0).toArray⟩), .is (.bool true), .is (.bool true), .is (.bool true), .is (.bool true), .is (.bool true)] (by kernel_rfl) (by kernel_rfl) (by kernel_rfl) (by kernel_rfl) (by kernel_rfl) (by kernel_rfl) ⟨?ob0, ?ob1, ?ob2, ?ob3, ?ob4, ?ob5, ?ob6, ?ob7, ?ob8, ?ob9, ?ob10, ?ob11, ?ob12, ?ob13, ?ob14, ?ob15, ?ob16, ?ob17, ?ob18, ?ob19, ?ob20, ?ob21, ?ob22, trivial⟩ ?obend
  case ob0 =>
    intro vals W0 F hF hS hd
    have E7 : F.eval (.tmp 7) = .bool true := hF.out_ (by kernel_rfl) rfl
    refine .inr ⟨wanted_none rfl, .inl ⟨.bool true, ?_, Ty.of_is rfl⟩⟩
    simp only [execOp, E7, Sem.run_pure]
  case ob1 =>
    intro vals W0 F hF hS hd
    have d0 : vals 0 = .bool true := hd ⟨0, .data⟩ (Array.mem_of_getElem? (i := 0) rfl) rfl
    have E89 := eval_some (hF.own_ 0 rfl rfl (by decide)); rw [d0] at E89
    refine .inr ⟨wanted_none rfl, .inl ⟨.bool true, ?_, Ty.of_is rfl⟩⟩
    simp only [execOp, E89, Sem.run_pure]
  case ob2 =>
    intro vals W0 F hF hS hd
    have d1 : vals 1 = .bool true := hd ⟨1, .guard⟩ (Array.mem_of_getElem? (i := 0) rfl) rfl
    have E13 : F.eval (.tmp 13) = .bool true := hF.out_ (by kernel_rfl) rfl
    have G := hF.own_ 1 rfl rfl (by decide); rw [d1] at G
    refine .inr ⟨wanted_yes rfl rfl rfl G, .inl ⟨.bool true, ?_, Ty.of_is rfl⟩⟩
    simp only [execOp, E13, Sem.run_pure]
  case ob3 =>
    intro vals W0 F hF hS hd
    have d1 : vals 1 = .bool true := hd ⟨1, .guard⟩ (Array.mem_of_getElem? (i := 1) rfl) rfl
    have d2 : vals 2 = .bool true := hd ⟨2, .data⟩ (Array.mem_of_getElem? (i := 0) rfl) rfl
    have E91 := eval_some (hF.own_ 2 rfl rfl (by decide)); rw [d2] at E91
    have G := hF.own_ 1 rfl rfl (by decide); rw [d1] at G
    refine .inr ⟨wanted_yes rfl rfl rfl G, .inl ⟨.bool false, ?_, Ty.of_is rfl⟩⟩
    have Ec : ∀ v, F.eval (.const v) = v := fun _ => rfl; have Ef : ∀ f, F.eval (.func f) = .func (.func f) #[] #[] := fun _ => rfl; clear hF hd; generalize F.eval = ρ at E91 Ec Ef ⊢
    simp [execOp, go_sem, Ec, E91]
  case ob4 =>
    intro vals W0 F hF hS hd
    have d1 : vals 1 = .bool true := hd ⟨1, .chain⟩ (Array.mem_of_getElem? (i := 1) rfl) rfl
    have d3 : vals 3 = .bool false := hd ⟨3, .data⟩ (Array.mem_of_getElem? (i := 0) rfl) rfl
    have E92 := eval_some (hF.own_ 3 rfl rfl (by decide)); rw [d3] at E92
    have G := hF.own_ 1 rfl rfl (by decide); rw [d1] at G
    refine .inr ⟨wanted_yes rfl rfl rfl G, .inl ⟨.bool false, ?_, Ty.of_is rfl⟩⟩
    simp only [execOp, E92, Sem.run_pure]
  case ob5 =>
    intro vals W0 F hF hS hd
    have d4 : vals 4 = .bool false := hd ⟨4, .guard⟩ (Array.mem_of_getElem? (i := 0) rfl) rfl
    have E8 : F.eval (.tmp 8) = .int .i64 0 := hF.out_ (by kernel_rfl) rfl
    have G := hF.own_ 4 rfl rfl (by decide); rw [d4] at G
    refine .inr ⟨wanted_yes rfl rfl rfl G, .inl ⟨.int .i64 0, ?_, Ty.of_is rfl⟩⟩
    simp only [execOp, E8, Sem.run_pure]
  case ob6 =>
    intro vals W0 F hF hS hd
    have d4 : vals 4 = .bool false := hd ⟨4, .guard⟩ (Array.mem_of_getElem? (i := 1) rfl) rfl
    have d5 : vals 5 = .int .i64 0 := hd ⟨5, .data⟩ (Array.mem_of_getElem? (i := 0) rfl) rfl
    have E94 := eval_some (hF.own_ 5 rfl rfl (by decide)); rw [d5] at E94
    have G := hF.own_ 4 rfl rfl (by decide); rw [d4] at G
    refine .inr ⟨wanted_yes rfl rfl rfl G, .inl ⟨.bool true, ?_, Ty.of_is rfl⟩⟩
    have Ec : ∀ v, F.eval (.const v) = v := fun _ => rfl; have Ef : ∀ f, F.eval (.func f) = .func (.func f) #[] #[] := fun _ => rfl; clear hF hd; generalize F.eval = ρ at E94 Ec Ef ⊢
    simp [execOp, go_sem, Ec, E94]
  case ob7 =>
    intro vals W0 F hF hS hd
    have d4 : vals 4 = .bool false := hd ⟨4, .chain⟩ (Array.mem_of_getElem? (i := 1) rfl) rfl
    have d6 : vals 6 = .bool true := hd ⟨6, .data⟩ (Array.mem_of_getElem? (i := 0) rfl) rfl
    have E95 := eval_some (hF.own_ 6 rfl rfl (by decide)); rw [d6] at E95
    have G := hF.own_ 4 rfl rfl (by decide); rw [d4] at G
    refine .inr ⟨wanted_yes rfl rfl rfl G, .inl ⟨.bool true, ?_, Ty.of_is rfl⟩⟩
    simp only [execOp, E95, Sem.run_pure]
  case ob8 =>
    intro vals W0 F hF hS hd
    have d7 : vals 7 = .bool true := hd ⟨7, .guard⟩ (Array.mem_of_getElem? (i := 0) rfl) rfl
    have G := hF.own_ 7 rfl rfl (by decide); rw [d7] at G
    exact .inl ⟨wanted_no rfl rfl rfl G rfl, Ty.of_is rfl⟩
  case ob9 =>
    intro vals W0 F hF hS hd
    have d7 : vals 7 = .bool true := hd ⟨7, .guard⟩ (Array.mem_of_getElem? (i := 1) rfl) rfl
    have G := hF.own_ 7 rfl rfl (by decide); rw [d7] at G
    exact .inl ⟨wanted_no rfl rfl rfl G rfl, Ty.of_is rfl⟩
  case ob10 =>
    intro vals W0 F hF hS hd
    have d4 : vals 4 = .bool false := hd ⟨4, .guard⟩ (Array.mem_of_getElem? (i := 2) rfl) rfl
    have d7 : vals 7 = .bool true := hd ⟨7, .data⟩ (Array.mem_of_getElem? (i := 0) rfl) rfl
    have d9 : vals 9 = undef := hd ⟨9, .data⟩ (Array.mem_of_getElem? (i := 1) rfl) rfl
    have E96 := eval_some (hF.own_ 7 rfl rfl (by decide)); rw [d7] at E96
    have E98 := eval_some (hF.own_ 9 rfl rfl (by decide)); rw [d9] at E98
    have G := hF.own_ 4 rfl rfl (by decide); rw [d4] at G
    refine .inr ⟨wanted_yes rfl rfl rfl G, .inl ⟨.bool true, ?_, Ty.of_is rfl⟩⟩
    have Ec : ∀ v, F.eval (.const v) = v := fun _ => rfl; have Ef : ∀ f, F.eval (.func f) = .func (.func f) #[] #[] := fun _ => rfl; clear hF hd; generalize F.eval = ρ at E96 E98 Ec Ef ⊢
    simp [execOp, go_sem, Ec, E96, E98]
  case ob11 =>
    intro vals W0 F hF hS hd
    have d4 : vals 4 = .bool false := hd ⟨4, .guard⟩ (Array.mem_of_getElem? (i := 2) rfl) rfl
    have d10 : vals 10 = .bool true := hd ⟨10, .data⟩ (Array.mem_of_getElem? (i := 0) rfl) rfl
    have E99 := eval_some (hF.own_ 10 rfl rfl (by decide)); rw [d10] at E99
    have G := hF.own_ 4 rfl rfl (by decide); rw [d4] at G
    refine .inr ⟨wanted_yes rfl rfl rfl G, .inl ⟨.bool true, ?_, Ty.of_is rfl⟩⟩
    simp only [execOp, E99, Sem.run_pure]
  case ob12 =>
    intro vals W0 F hF hS hd
    have d11 : vals 11 = .bool true := hd ⟨11, .guard⟩ (Array.mem_of_getElem? (i := 0) rfl) rfl
    have E11 : F.eval (.tmp 11) = .slice A2 (encB 0).length c2 := hF.out_ (by kernel_rfl) rfl
    have G := hF.own_ 11 rfl rfl (by decide); rw [d11] at G
    refine .inr ⟨wanted_yes rfl rfl rfl G, .inl ⟨.slice A2 (encB 0).length c2, ?_, Ty.of_is rfl⟩⟩
    simp only [execOp, E11, Sem.run_pure]
  case ob13 =>
    intro vals W0 F hF hS hd
    have d11 : vals 11 = .bool true := hd ⟨11, .guard⟩ (Array.mem_of_getElem? (i := 1) rfl) rfl
    have d12 : vals 12 = .slice A2 (encB 0).length c2 := hd ⟨12, .data⟩ (Array.mem_of_getElem? (i := 0) rfl) rfl
    have E101 := eval_some (hF.own_ 12 rfl rfl (by decide)); rw [d12] at E101
    have G := hF.own_ 11 rfl rfl (by decide); rw [d11] at G
    refine .inr ⟨wanted_yes rfl rfl rfl G, ?_⟩
    refine .inl ⟨.string ⟨(encB 0).toArray⟩, ?_, Ty.of_is rfl⟩
    have hh6 : Holds8 W0.heap.size W0 A2 (encB 0) := hh4.later hS
    have q := str_of hh6 c2
    have Ec : ∀ v, F.eval (.const v) = v := fun _ => rfl; have Ef : ∀ f, F.eval (.func f) = .func (.func f) #[] #[] := fun _ => rfl; clear hF hd; generalize F.eval = ρ at E101 Ec Ef ⊢
    simp [execOp, go_sem, Ec, E101, q]
  case ob14 =>
    intro vals W0 F hF hS hd
    have d11 : vals 11 = .bool true := hd ⟨11, .guard⟩ (Array.mem_of_getElem? (i := 0) rfl) rfl
    have E8 : F.eval (.tmp 8) = .int .i64 0 := hF.out_ (by kernel_rfl) rfl
    have G := hF.own_ 11 rfl rfl (by decide); rw [d11] at G
    refine .inr ⟨wanted_yes rfl rfl rfl G, .inl ⟨.int .i64 0, ?_, Ty.of_is rfl⟩⟩
    simp only [execOp, E8, Sem.run_pure]
  case ob15 =>
    intro vals W0 F hF hS hd
    have d11 : vals 11 = .bool true := hd ⟨11, .guard⟩ (Array.mem_of_getElem? (i := 1) rfl) rfl
    have d14 : vals 14 = .int .i64 0 := hd ⟨14, .data⟩ (Array.mem_of_getElem? (i := 0) rfl) rfl
    have E103 := eval_some (hF.own_ 14 rfl rfl (by decide)); rw [d14] at E103
    have G := hF.own_ 11 rfl rfl (by decide); rw [d11] at G
    refine .inr ⟨wanted_yes rfl rfl rfl G, .inl ⟨.bool false, ?_, Ty.of_is rfl⟩⟩
    have Ec : ∀ v, F.eval (.const v) = v := fun _ => rfl; have Ef : ∀ f, F.eval (.func f) = .func (.func f) #[] #[] := fun _ => rfl; clear hF hd; generalize F.eval = ρ at E103 Ec Ef ⊢
    simp [execOp, go_sem, Ec, E103]
  case ob16 =>
    intro vals W0 F hF hS hd
    have d11 : vals 11 = .bool true := hd ⟨11, .chain⟩ (Array.mem_of_getElem? (i := 1) rfl) rfl
    have d15 : vals 15 = .bool false := hd ⟨15, .data⟩ (Array.mem_of_getElem? (i := 0) rfl) rfl
    have E104 := eval_some (hF.own_ 15 rfl rfl (by decide)); rw [d15] at E104
    have G := hF.own_ 11 rfl rfl (by decide); rw [d11] at G
    refine .inr ⟨wanted_yes rfl rfl rfl G, ?_⟩
    refine .inr ⟨16, #[.bool false], ?_, (flag_any false W0).mono ?_⟩
    · have Ec : ∀ v, F.eval (.const v) = v := fun _ => rfl; have Ef : ∀ f, F.eval (.func f) = .func (.func f) #[] #[] := fun _ => rfl; clear hF hd; generalize F.eval = ρ at E104 Ec Ef ⊢
      simp [execOp, go_sem, Ec, Ef, E104]
    rintro e W1 ⟨A5, c5, rfl, hh5, _, hb5⟩
    exact ⟨_, rfl, hb5, A5, c5, rfl, hh5⟩
  case ob17 =>
    intro vals W0 F hF hS hd
    have d11 : vals 11 = .bool true := hd ⟨11, .guard⟩ (Array.mem_of_getElem? (i := 1) rfl) rfl
    obtain ⟨A5, c5, hspec16, hh5⟩ := hd ⟨16, .data⟩ (Array.mem_of_getElem? (i := 0) rfl) rfl
    have d16 : vals 16 = .slice A5 (encB 0).length c5 := hspec16
    have E105 := eval_some (hF.own_ 16 rfl rfl (by decide)); rw [d16] at E105
    have G := hF.own_ 11 rfl rfl (by decide); rw [d11] at G
    refine .inr ⟨wanted_yes rfl rfl rfl G, ?_⟩
    refine .inl ⟨.string ⟨(encB 0).toArray⟩, ?_, Ty.of_is rfl⟩
    have q := str_of hh5 c5
    have Ec : ∀ v, F.eval (.const v) = v := fun _ => rfl; have Ef : ∀ f, F.eval (.func f) = .func (.func f) #[] #[] := fun _ => rfl; clear hF hd; generalize F.eval = ρ at E105 Ec Ef ⊢
    simp [execOp, go_sem, Ec, E105, q]
  case ob18 =>
    intro vals W0 F hF hS hd
    have d11 : vals 11 = .bool true := hd ⟨11, .guard⟩ (Array.mem_of_getElem? (i := 2) rfl) rfl
    have d13 : vals 13 = .string ⟨(encB 0).toArray⟩ := hd ⟨13, .data⟩ (Array.mem_of_getElem? (i := 0) rfl) rfl
    have d17 : vals 17 = .string ⟨(encB 0).toArray⟩ := hd ⟨17, .data⟩ (Array.mem_of_getElem? (i := 1) rfl) rfl
    have E102 := eval_some (hF.own_ 13 rfl rfl (by decide)); rw [d13] at E102
    have E106 := eval_some (hF.own_ 17 rfl rfl (by decide)); rw [d17] at E106
    have G := hF.own_ 11 rfl rfl (by decide); rw [d11] at G
    refine .inr ⟨wanted_yes rfl rfl rfl G, .inl ⟨.bool true, ?_, Ty.of_is rfl⟩⟩
    have Ec : ∀ v, F.eval (.const v) = v := fun _ => rfl; have Ef : ∀ f, F.eval (.func f) = .func (.func f) #[] #[] := fun _ => rfl; clear hF hd; generalize F.eval = ρ at E102 E106 Ec Ef ⊢
    simp [execOp, go_sem, Ec, E102, E106]
  case ob19 =>
    intro vals W0 F hF hS hd
    have d4 : vals 4 = .bool false := hd ⟨4, .guard⟩ (Array.mem_of_getElem? (i := 2) rfl) rfl
    have d11 : vals 11 = .bool true := hd ⟨11, .data⟩ (Array.mem_of_getElem? (i := 0) rfl) rfl
    have d18 : vals 18 = .bool true := hd ⟨18, .data⟩ (Array.mem_of_getElem? (i := 1) rfl) rfl
    have E100 := eval_some (hF.own_ 11 rfl rfl (by decide)); rw [d11] at E100
    have E107 := eval_some (hF.own_ 18 rfl rfl (by decide)); rw [d18] at E107
    have G := hF.own_ 4 rfl rfl (by decide); rw [d4] at G
    refine .inr ⟨wanted_yes rfl rfl rfl G, .inl ⟨.bool true, ?_, Ty.of_is rfl⟩⟩
    have Ec : ∀ v, F.eval (.const v) = v := fun _ => rfl; have Ef : ∀ f, F.eval (.func f) = .func (.func f) #[] #[] := fun _ => rfl; clear hF hd; generalize F.eval = ρ at E100 E107 Ec Ef ⊢
    simp [execOp, go_sem, Ec, E100, E107]
  case ob20 =>
    intro vals W0 F hF hS hd
    have d1 : vals 1 = .bool true := hd ⟨1, .guard⟩ (Array.mem_of_getElem? (i := 2) rfl) rfl
    have d4 : vals 4 = .bool false := hd ⟨4, .data⟩ (Array.mem_of_getElem? (i := 0) rfl) rfl
    have d19 : vals 19 = .bool true := hd ⟨19, .data⟩ (Array.mem_of_getElem? (i := 1) rfl) rfl
    have E93 := eval_some (hF.own_ 4 rfl rfl (by decide)); rw [d4] at E93
    have E108 := eval_some (hF.own_ 19 rfl rfl (by decide)); rw [d19] at E108
    have G := hF.own_ 1 rfl rfl (by decide); rw [d1] at G
    refine .inr ⟨wanted_yes rfl rfl rfl G, .inl ⟨.bool true, ?_, Ty.of_is rfl⟩⟩
    have Ec : ∀ v, F.eval (.const v) = v := fun _ => rfl; have Ef : ∀ f, F.eval (.func f) = .func (.func f) #[] #[] := fun _ => rfl; clear hF hd; generalize F.eval = ρ at E93 E108 Ec Ef ⊢
    simp [execOp, go_sem, Ec, E93, E108]
  case ob21 =>
    intro vals W0 F hF hS hd
    have d1 : vals 1 = .bool true := hd ⟨1, .data⟩ (Array.mem_of_getElem? (i := 0) rfl) rfl
    have d20 : vals 20 = .bool true := hd ⟨20, .data⟩ (Array.mem_of_getElem? (i := 1) rfl) rfl
    have E90 := eval_some (hF.own_ 1 rfl rfl (by decide)); rw [d1] at E90
    have E109 := eval_some (hF.own_ 20 rfl rfl (by decide)); rw [d20] at E109
    refine .inr ⟨wanted_none rfl, .inl ⟨.bool true, ?_, Ty.of_is rfl⟩⟩
    have Ec : ∀ v, F.eval (.const v) = v := fun _ => rfl; have Ef : ∀ f, F.eval (.func f) = .func (.func f) #[] #[] := fun _ => rfl; clear hF hd; generalize F.eval = ρ at E90 E109 Ec Ef ⊢
    simp [execOp, go_sem, Ec, E90, E109]
  case ob22 =>
    intro vals W0 F hF hS hd
    have d21 : vals 21 = .bool true := hd ⟨21, .data⟩ (Array.mem_of_getElem? (i := 0) rfl) rfl
    have E110 := eval_some (hF.own_ 21 rfl rfl (by decide)); rw [d21] at E110
    refine .inr ⟨wanted_none rfl, .inl ⟨.bool true, ?_, Ty.of_is rfl⟩⟩
    simp only [execOp, E110, Sem.run_pure]
  case obend =>
    intro vals W0 F hF hdef hS hT
    have e6 := hF.own_ 22 rfl rfl (by decide)
    have d22 : vals 22 = .bool true := hT 22 (by decide)
    rw [d22] at e6
    rename_i K hK
    refine hK _ _ (wp_ret (bodyPost_ret (results_tmp rfl _ _ _) hdef ?_))
    refine ⟨?_, HB4.out.trans (hS.mono HB4.out.size)⟩
    show Ending.returned (F.tmps.getD 6 undef) = _
    rw [Array.getD_eq_getD_getElem?, e6]
    rfl

set_option maxRecDepth 100000 in
set_option maxHeartbeats 4000000 in
theorem made_146_1 (x y : Int) (x1 : -2147483647 ≤ x) (x2 : x ≤ 2147483647) (hv : tv (x != 0) = 1) (a b : Int) (hx : a.tmod 2147483648 = x) (hy : b.tmod 2147483648 = y) (w : World) : Calls Try.prog 9 #[.int .u8 146, .int .i64 a, .int .i64 b] w fun e w' => e = .returned (.bool true) ∧ Below w.heap.size w w' := by
  have HE := Lib.hid (encode_yes (1) (by omega) (by omega))
  have h5 := encB_length (1) 4 (by omega)
  have d5 : decide ((5 : Int) < ((encB (1)).length : Int)) = false := by simp; omega
  have HTN := Lib.hid (fun c A w h => true_any (encB (1)) (by unfold maxLen; omega) c A w h)
  have HT3 := Lib.hid (show trueB (encB (1)) = ((1 : Int) != 0) by rw [trueB_encB, Bool.eq_iff_iff]; simp)
  have HO := one_146 x x1 x2
  rw [hv] at HO
  have HO1 := Lib.hid HO
  have HAR := Lib.hid arity_146
  clear hv HO h5
  go_enter Try.func9, Try.ntmps9
  go_wp2_with (first
    | (go_at_call 28; refine Calls.mono (alive_any _) ?_; rintro e w1 ⟨rfl, hb1⟩)
    | ((with_reducible refine Calls.mono (HO1.out _) ?_); rintro e w' ⟨rfl, rfl⟩)
    | ((with_reducible refine Calls.mono (HAR.out _) ?_); rintro e w' ⟨rfl, rfl⟩)
    | ((with_reducible refine Calls.mono (HE.out _) ?_); rintro e w2 ⟨A2, c2, rfl, hh2, _, hb2⟩; have HB2 := Lib.hid (hb1.trans (hb2.mono hb1.size)))
    | ((with_reducible refine Calls.mono (HTN.out _ _ _ hh2) ?_); rintro e w4 ⟨rfl, hb4⟩; have hh4 := hh2.later hb4; have q4 := str_of hh4 c2; have HB4 := Lib.hid (HB2.out.trans (hb4.mono HB2.out.size)); rw [HT3.out]))
  refine wp_region_tys 111 rfl [.is (.bool true), .is (.bool true), .is (.bool true), .is (.bool false), .is (.bool false), .is (.int .i64 1), .is (.bool false), .is (.bool false), .is (.int .i64 1), .is (.bool true), .is (.bool true), .is (.bool true), .is (.slice A2 (encB 1).length c2), .is (.string ⟨(encB 1).toArray⟩), .is (.int .i64 1), .is (.bool true), .bytes (encB 1), .is (.string ⟨(encB 1).toArray⟩), .is (.bool true), .is (.bool true), .is (.bool true), .is (.bool true), .is (.bool true)] (by kernel_rfl) (by kernel_rfl) (by kernel_rfl) (by kernel_rfl) (by kernel_rfl) (by kernel_rfl) ⟨?ob0, ?ob1, ?ob2, ?ob3, ?ob4, ?ob5, ?ob6, ?ob7, ?ob8, ?ob9, ?ob10, ?ob11, ?ob12, ?ob13, ?ob14, ?ob15, ?ob16, ?ob17, ?ob18, ?ob19, ?ob20, ?ob21, ?ob22, trivial⟩ ?obend
  case ob0 =>
    intro vals W0 F hF hS hd
    have E7 : F.eval (.tmp 7) = .bool true := hF.out_ (by kernel_rfl) rfl
    refine .inr ⟨wanted_none rfl, .inl ⟨.bool true, ?_, Ty.of_is rfl⟩⟩
    simp only [execOp, E7, Sem.run_pure]
  case ob1 =>
    intro vals W0 F hF hS hd
    have d0 : vals 0 = .bool true := hd ⟨0, .data⟩ (Array.mem_of_getElem? (i := 0) rfl) rfl
    have E89 := eval_some (hF.own_ 0 rfl rfl (by decide)); rw [d0] at E89
    refine .inr ⟨wanted_none rfl, .inl ⟨.bool true, ?_, Ty.of_is rfl⟩⟩
    simp only [execOp, E89, Sem.run_pure]
  case ob2 =>
    intro vals W0 F hF hS hd
    have d1 : vals 1 = .bool true := hd ⟨1, .guard⟩ (Array.mem_of_getElem? (i := 0) rfl) rfl
    have E13 : F.eval (.tmp 13) = .bool true := hF.out_ (by kernel_rfl) rfl
    have G := hF.own_ 1 rfl rfl (by decide); rw [d1] at G
    refine .inr ⟨wanted_yes rfl rfl rfl G, .inl ⟨.bool true, ?_, Ty.of_is rfl⟩⟩
    simp only [execOp, E13, Sem.run_pure]
  case ob3 =>
    intro vals W0 F hF hS hd
    have d1 : vals 1 = .bool true := hd ⟨1, .guard⟩ (Array.mem_of_getElem? (i := 1) rfl) rfl
    have d2 : vals 2 = .bool true := hd ⟨2, .data⟩ (Array.mem_of_getElem? (i := 0) rfl) rfl
    have E91 := eval_some (hF.own_ 2 rfl rfl (by decide)); rw [d2] at E91
    have G := hF.own_ 1 rfl rfl (by decide); rw [d1] at G
    refine .inr ⟨wanted_yes rfl rfl rfl G, .inl ⟨.bool false, ?_, Ty.of_is rfl⟩⟩
    have Ec : ∀ v, F.eval (.const v) = v := fun _ => rfl; have Ef : ∀ f, F.eval (.func f) = .func (.func f) #[] #[] := fun _ => rfl; clear hF hd; generalize F.eval = ρ at E91 Ec Ef ⊢
    simp [execOp, go_sem, Ec, E91]
  case ob4 =>
    intro vals W0 F hF hS hd
    have d1 : vals 1 = .bool true := hd ⟨1, .chain⟩ (Array.mem_of_getElem? (i := 1) rfl) rfl
    have d3 : vals 3 = .bool false := hd ⟨3, .data⟩ (Array.mem_of_getElem? (i := 0) rfl) rfl
    have E92 := eval_some (hF.own_ 3 rfl rfl (by decide)); rw [d3] at E92
    have G := hF.own_ 1 rfl rfl (by decide); rw [d1] at G
    refine .inr ⟨wanted_yes rfl rfl rfl G, .inl ⟨.bool false, ?_, Ty.of_is rfl⟩⟩
    simp only [execOp, E92, Sem.run_pure]
  case ob5 =>
    intro vals W0 F hF hS hd
    have d4 : vals 4 = .bool false := hd ⟨4, .guard⟩ (Array.mem_of_getElem? (i := 0) rfl) rfl
    have E8 : F.eval (.tmp 8) = .int .i64 1 := hF.out_ (by kernel_rfl) rfl
    have G := hF.own_ 4 rfl rfl (by decide); rw [d4] at G
    refine .inr ⟨wanted_yes rfl rfl rfl G, .inl ⟨.int .i64 1, ?_, Ty.of_is rfl⟩⟩
    simp only [execOp, E8, Sem.run_pure]
  case ob6 =>
    intro vals W0 F hF hS hd
    have d4 : vals 4 = .bool false := hd ⟨4, .guard⟩ (Array.mem_of_getElem? (i := 1) rfl) rfl
    have d5 : vals 5 = .int .i64 1 := hd ⟨5, .data⟩ (Array.mem_of_getElem? (i := 0) rfl) rfl
    have E94 := eval_some (hF.own_ 5 rfl rfl (by decide)); rw [d5] at E94
    have G := hF.own_ 4 rfl rfl (by decide); rw [d4] at G
    refine .inr ⟨wanted_yes rfl rfl rfl G, .inl ⟨.bool false, ?_, Ty.of_is rfl⟩⟩
    have Ec : ∀ v, F.eval (.const v) = v := fun _ => rfl; have Ef : ∀ f, F.eval (.func f) = .func (.func f) #[] #[] := fun _ => rfl; clear hF hd; generalize F.eval = ρ at E94 Ec Ef ⊢
    simp [execOp, go_sem, Ec, E94]
  case ob7 =>
    intro vals W0 F hF hS hd
    have d4 : vals 4 = .bool false := hd ⟨4, .chain⟩ (Array.mem_of_getElem? (i := 1) rfl) rfl
    have d6 : vals 6 = .bool false := hd ⟨6, .data⟩ (Array.mem_of_getElem? (i := 0) rfl) rfl
    have E95 := eval_some (hF.own_ 6 rfl rfl (by decide)); rw [d6] at E95
    have G := hF.own_ 4 rfl rfl (by decide); rw [d4] at G
    refine .inr ⟨wanted_yes rfl rfl rfl G, .inl ⟨.bool false, ?_, Ty.of_is rfl⟩⟩
    simp only [execOp, E95, Sem.run_pure]
  case ob8 =>
    intro vals W0 F hF hS hd
    have d7 : vals 7 = .bool false := hd ⟨7, .guard⟩ (Array.mem_of_getElem? (i := 0) rfl) rfl
    have E8 : F.eval (.tmp 8) = .int .i64 1 := hF.out_ (by kernel_rfl) rfl
    have G := hF.own_ 7 rfl rfl (by decide); rw [d7] at G
    refine .inr ⟨wanted_yes rfl rfl rfl G, .inl ⟨.int .i64 1, ?_, Ty.of_is rfl⟩⟩
    simp only [execOp, E8, Sem.run_pure]
  case ob9 =>
    intro vals W0 F hF hS hd
    have d7 : vals 7 = .bool false := hd ⟨7, .guard⟩ (Array.mem_of_getElem? (i := 1) rfl) rfl
    have d8 : vals 8 = .int .i64 1 := hd ⟨8, .data⟩ (Array.mem_of_getElem? (i := 0) rfl) rfl
    have E97 := eval_some (hF.own_ 8 rfl rfl (by decide)); rw [d8] at E97
    have G := hF.own_ 7 rfl rfl (by decide); rw [d7] at G
    refine .inr ⟨wanted_yes rfl rfl rfl G, .inl ⟨.bool true, ?_, Ty.of_is rfl⟩⟩
    have Ec : ∀ v, F.eval (.const v) = v := fun _ => rfl; have Ef : ∀ f, F.eval (.func f) = .func (.func f) #[] #[] := fun _ => rfl; clear hF hd; generalize F.eval = ρ at E97 Ec Ef ⊢
    simp [execOp, go_sem, Ec, E97]
  case ob10 =>
    intro vals W0 F hF hS hd
    have d4 : vals 4 = .bool false := hd ⟨4, .guard⟩ (Array.mem_of_getElem? (i := 2) rfl) rfl
    have d7 : vals 7 = .bool false := hd ⟨7, .data⟩ (Array.mem_of_getElem? (i := 0) rfl) rfl
    have d9 : vals 9 = .bool true := hd ⟨9, .data⟩ (Array.mem_of_getElem? (i := 1) rfl) rfl
    have E96 := eval_some (hF.own_ 7 rfl rfl (by decide)); rw [d7] at E96
    have E98 := eval_some (hF.own_ 9 rfl rfl (by decide)); rw [d9] at E98
    have G := hF.own_ 4 rfl rfl (by decide); rw [d4] at G
    refine .inr ⟨wanted_yes rfl rfl rfl G, .inl ⟨.bool true, ?_, Ty.of_is rfl⟩⟩
    have Ec : ∀ v, F.eval (.const v) = v := fun _ => rfl; have Ef : ∀ f, F.eval (.func f) = .func (.func f) #[] #[] := fun _ => rfl; clear hF hd; generalize F.eval = ρ at E96 E98 Ec Ef ⊢
    simp [execOp, go_sem, Ec, E96, E98]
  case ob11 =>
    intro vals W0 F hF hS hd
    have d4 : vals 4 = .bool false := hd ⟨4, .guard⟩ (Array.mem_of_getElem? (i := 2) rfl) rfl
    have d10 : vals 10 = .bool true := hd ⟨10, .data⟩ (Array.mem_of_getElem? (i := 0) rfl) rfl
    have E99 := eval_some (hF.own_ 10 rfl rfl (by decide)); rw [d10] at E99
    have G := hF.own_ 4 rfl rfl (by decide); rw [d4] at G
    refine .inr ⟨wanted_yes rfl rfl rfl G, .inl ⟨.bool true, ?_, Ty.of_is rfl⟩⟩
    simp only [execOp, E99, Sem.run_pure]
  case ob12 =>
    intro vals W0 F hF hS hd
    have d11 : vals 11 = .bool true := hd ⟨11, .guard⟩ (Array.mem_of_getElem? (i := 0) rfl) rfl
    have E11 : F.eval (.tmp 11) = .slice A2 (encB 1).length c2 := hF.out_ (by kernel_rfl) rfl
    have G := hF.own_ 11 rfl rfl (by decide); rw [d11] at G
    refine .inr ⟨wanted_yes rfl rfl rfl G, .inl ⟨.slice A2 (encB 1).length c2, ?_, Ty.of_is rfl⟩⟩
    simp only [execOp, E11, Sem.run_pure]
  case ob13 =>
    intro vals W0 F hF hS hd
    have d11 : vals 11 = .bool true := hd ⟨11, .guard⟩ (Array.mem_of_getElem? (i := 1) rfl) rfl
    have d12 : vals 12 = .slice A2 (encB 1).length c2 := hd ⟨12, .data⟩ (Array.mem_of_getElem? (i := 0) rfl) rfl
    have E101 := eval_some (hF.own_ 12 rfl rfl (by decide)); rw [d12] at E101
    have G := hF.own_ 11 rfl rfl (by decide); rw [d11] at G
    refine .inr ⟨wanted_yes rfl rfl rfl G, ?_⟩
    refine .inl ⟨.string ⟨(encB 1).toArray⟩, ?_, Ty.of_is rfl⟩
    have hh6 : Holds8 W0.heap.size W0 A2 (encB 1) := hh4.later hS
    have q := str_of hh6 c2
    have Ec : ∀ v, F.eval (.const v) = v := fun _ => rfl; have Ef : ∀ f, F.eval (.func f) = .func (.func f) #[] #[] := fun _ => rfl; clear hF hd; generalize F.eval = ρ at E101 Ec Ef ⊢
    simp [execOp, go_sem, Ec, E101, q]
  case ob14 =>
    intro vals W0 F hF hS hd
    have d11 : vals 11 = .bool true := hd ⟨11, .guard⟩ (Array.mem_of_getElem? (i := 0) rfl) rfl
    have E8 : F.eval (.tmp 8) = .int .i64 1 := hF.out_ (by kernel_rfl) rfl
    have G := hF.own_ 11 rfl rfl (by decide); rw [d11] at G
    refine .inr ⟨wanted_yes rfl rfl rfl G, .inl ⟨.int .i64 1, ?_, Ty.of_is rfl⟩⟩
    simp only [execOp, E8, Sem.run_pure]
  case ob15 =>
    intro vals W0 F hF hS hd
    have d11 : vals 11 = .bool true := hd ⟨11, .guard⟩ (Array.mem_of_getElem? (i := 1) rfl) rfl
    have d14 : vals 14 = .int .i64 1 := hd ⟨14, .data⟩ (Array.mem_of_getElem? (i := 0) rfl) rfl
    have E103 := eval_some (hF.own_ 14 rfl rfl (by decide)); rw [d14] at E103
    have G := hF.own_ 11 rfl rfl (by decide); rw [d11] at G
    refine .inr ⟨wanted_yes rfl rfl rfl G, .inl ⟨.bool true, ?_, Ty.of_is rfl⟩⟩
    have Ec : ∀ v, F.eval (.const v) = v := fun _ => rfl; have Ef : ∀ f, F.eval (.func f) = .func (.func f) #[] #[] := fun _ => rfl; clear hF hd; generalize F.eval = ρ at E103 Ec Ef ⊢
    simp [execOp, go_sem, Ec, E103]
  case ob16 =>
    intro vals W0 F hF hS hd
    have d11 : vals 11 = .bool true := hd ⟨11, .chain⟩ (Array.mem_of_getElem? (i := 1) rfl) rfl
    have d15 : vals 15 = .bool true := hd ⟨15, .data⟩ (Array.mem_of_getElem? (i := 0) rfl) rfl
    have E104 := eval_some (hF.own_ 15 rfl rfl (by decide)); rw [d15] at E104
    have G := hF.own_ 11 rfl rfl (by decide); rw [d11] at G
    refine .inr ⟨wanted_yes rfl rfl rfl G, ?_⟩
    refine .inr ⟨16, #[.bool true], ?_, (flag_any true W0).mono ?_⟩
    · have Ec : ∀ v, F.eval (.const v) = v := fun _ => rfl; have Ef : ∀ f, F.eval (.func f) = .func (.func f) #[] #[] := fun _ => rfl; clear hF hd; generalize F.eval = ρ at E104 Ec Ef ⊢
      simp [execOp, go_sem, Ec, Ef, E104]
    rintro e W1 ⟨A5, c5, rfl, hh5, _, hb5⟩
    exact ⟨_, rfl, hb5, A5, c5, rfl, hh5⟩
  case ob17 =>
    intro vals W0 F hF hS hd
    have d11 : vals 11 = .bool true := hd ⟨11, .guard⟩ (Array.mem_of_getElem? (i := 1) rfl) rfl
    obtain ⟨A5, c5, hspec16, hh5⟩ := hd ⟨16, .data⟩ (Array.mem_of_getElem? (i := 0) rfl) rfl
    have d16 : vals 16 = .slice A5 (encB 1).length c5 := hspec16
    have E105 := eval_some (hF.own_ 16 rfl rfl (by decide)); rw [d16] at E105
    have G := hF.own_ 11 rfl rfl (by decide); rw [d11] at G
    refine .inr ⟨wanted_yes rfl rfl rfl G, ?_⟩
    refine .inl ⟨.string ⟨(encB 1).toArray⟩, ?_, Ty.of_is rfl⟩
    have q := str_of hh5 c5
    have Ec : ∀ v, F.eval (.const v) = v := fun _ => rfl; have Ef : ∀ f, F.eval (.func f) = .func (.func f) #[] #[] := fun _ => rfl; clear hF hd; generalize F.eval = ρ at E105 Ec Ef ⊢
    simp [execOp, go_sem, Ec, E105, q]
  case ob18 =>
    intro vals W0 F hF hS hd
    have d11 : vals 11 = .bool true := hd ⟨11, .guard⟩ (Array.mem_of_getElem? (i := 2) rfl) rfl
    have d13 : vals 13 = .string ⟨(encB 1).toArray⟩ := hd ⟨13, .data⟩ (Array.mem_of_getElem? (i := 0) rfl) rfl
    have d17 : vals 17 = .string ⟨(encB 1).toArray⟩ := hd ⟨17, .data⟩ (Array.mem_of_getElem? (i := 1) rfl) rfl
    have E102 := eval_some (hF.own_ 13 rfl rfl (by decide)); rw [d13] at E102
    have E106 := eval_some (hF.own_ 17 rfl rfl (by decide)); rw [d17] at E106
    have G := hF.own_ 11 rfl rfl (by decide); rw [d11] at G
    refine .inr ⟨wanted_yes rfl rfl rfl G, .inl ⟨.bool true, ?_, Ty.of_is rfl⟩⟩
    have Ec : ∀ v, F.eval (.const v) = v := fun _ => rfl; have Ef : ∀ f, F.eval (.func f) = .func (.func f) #[] #[] := fun _ => rfl; clear hF hd; generalize F.eval = ρ at E102 E106 Ec Ef ⊢
    simp [execOp, go_sem, Ec, E102, E106]
  case ob19 =>
    intro vals W0 F hF hS hd
    have d4 : vals 4 = .bool false := hd ⟨4, .guard⟩ (Array.mem_of_getElem? (i := 2) rfl) rfl
    have d11 : vals 11 = .bool true := hd ⟨11, .data⟩ (Array.mem_of_getElem? (i := 0) rfl) rfl
    have d18 : vals 18 = .bool true := hd ⟨18, .data⟩ (Array.mem_of_getElem? (i := 1) rfl) rfl
    have E100 := eval_some (hF.own_ 11 rfl rfl (by decide)); rw [d11] at E100
    have E107 := eval_some (hF.own_ 18 rfl rfl (by decide)); rw [d18] at E107
    have G := hF.own_ 4 rfl rfl (by decide); rw [d4] at G
    refine .inr ⟨wanted_yes rfl rfl rfl G, .inl ⟨.bool true, ?_, Ty.of_is rfl⟩⟩
    have Ec : ∀ v, F.eval (.const v) = v := fun _ => rfl; have Ef : ∀ f, F.eval (.func f) = .func (.func f) #[] #[] := fun _ => rfl; clear hF hd; generalize F.eval = ρ at E100 E107 Ec Ef ⊢
    simp [execOp, go_sem, Ec, E100, E107]
  case ob20 =>
    intro vals W0 F hF hS hd
    have d1 : vals 1 = .bool true := hd ⟨1, .guard⟩ (Array.mem_of_getElem? (i := 2) rfl) rfl
    have d4 : vals 4 = .bool false := hd ⟨4, .data⟩ (Array.mem_of_getElem? (i := 0) rfl) rfl
    have d19 : vals 19 = .bool true := hd ⟨19, .data⟩ (Array.mem_of_getElem? (i := 1) rfl) rfl
    have E93 := eval_some (hF.own_ 4 rfl rfl (by decide)); rw [d4] at E93
    have E108 := eval_some (hF.own_ 19 rfl rfl (by decide)); rw [d19] at E108
    have G := hF.own_ 1 rfl rfl (by decide); rw [d1] at G
    refine .inr ⟨wanted_yes rfl rfl rfl G, .inl ⟨.bool true, ?_, Ty.of_is rfl⟩⟩
    have Ec : ∀ v, F.eval (.const v) = v := fun _ => rfl; have Ef : ∀ f, F.eval (.func f) = .func (.func f) #[] #[] := fun _ => rfl; clear hF hd; generalize F.eval = ρ at E93 E108 Ec Ef ⊢
    simp [execOp, go_sem, Ec, E93, E108]
  case ob21 =>
    intro vals W0 F hF hS hd
    have d1 : vals 1 = .bool true := hd ⟨1, .data⟩ (Array.mem_of_getElem? (i := 0) rfl) rfl
    have d20 : vals 20 = .bool true := hd ⟨20, .data⟩ (Array.mem_of_getElem? (i := 1) rfl) rfl
    have E90 := eval_some (hF.own_ 1 rfl rfl (by decide)); rw [d1] at E90
    have E109 := eval_some (hF.own_ 20 rfl rfl (by decide)); rw [d20] at E109
    refine .inr ⟨wanted_none rfl, .inl ⟨.bool true, ?_, Ty.of_is rfl⟩⟩
    have Ec : ∀ v, F.eval (.const v) = v := fun _ => rfl; have Ef : ∀ f, F.eval (.func f) = .func (.func f) #[] #[] := fun _ => rfl; clear hF hd; generalize F.eval = ρ at E90 E109 Ec Ef ⊢
    simp [execOp, go_sem, Ec, E90, E109]
  case ob22 =>
    intro vals W0 F hF hS hd
    have d21 : vals 21 = .bool true := hd ⟨21, .data⟩ (Array.mem_of_getElem? (i := 0) rfl) rfl
    have E110 := eval_some (hF.own_ 21 rfl rfl (by decide)); rw [d21] at E110
    refine .inr ⟨wanted_none rfl, .inl ⟨.bool true, ?_, Ty.of_is rfl⟩⟩
    simp only [execOp, E110, Sem.run_pure]
  case obend =>
    intro vals W0 F hF hdef hS hT
    have e6 := hF.own_ 22 rfl rfl (by decide)
    have d22 : vals 22 = .bool true := hT 22 (by decide)
    rw [d22] at e6
    rename_i K hK
    refine hK _ _ (wp_ret (bodyPost_ret (results_tmp rfl _ _ _) hdef ?_))
    refine ⟨?_, HB4.out.trans (hS.mono HB4.out.size)⟩
    show Ending.returned (F.tmps.getD 6 undef) = _
    rw [Array.getD_eq_getD_getElem?, e6]
    rfl

end Go.Proofs.Ytbhopgklnddelaa
