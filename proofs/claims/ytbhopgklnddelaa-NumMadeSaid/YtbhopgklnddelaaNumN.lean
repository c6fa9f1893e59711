/- NumSums is true at every input. No condition. -/
import Derived.Test.YtbhopgklnddelaaNumM
import Derived.Test.YtbhopgklnddelaaNumE
namespace Go.Proofs.Ytbhopgklnddelaa
open Go.RowKit

theorem tmod_bd (a : Int) : -2147483647 ≤ a.tmod 2147483648 ∧ a.tmod 2147483648 ≤ 2147483647 := by
  have h1 := Int.tmod_lt_of_pos a (show (0 : Int) < 2147483648 by decide)
  have h2 := Int.lt_tmod_of_pos a (show (0 : Int) < 2147483648 by decide)
  omega
theorem ne_no {a b : Int} (h : a = b) : (a != b) = false := by simp [h]
theorem ne_yes {a b : Int} (h : a ≠ b) : (a != b) = true := by simp [h]

set_option maxRecDepth 100000 in
set_option maxHeartbeats 2000000 in
theorem sums_walk (a b : Int) (w : World) : Calls Try.prog 7 #[.int .i64 a, .int .i64 b] w fun e w' => e = .returned (.bool true) ∧ Below w.heap.size w w' := by
  obtain ⟨x, hx⟩ : ∃ x, a.tmod 2147483648 = x := ⟨_, rfl⟩
  obtain ⟨y, hy⟩ : ∃ y, b.tmod 2147483648 = y := ⟨_, rfl⟩
  have bx := tmod_bd a
  have by' := tmod_bd b
  rw [hx] at bx
  rw [hy] at by'
  obtain ⟨x1, x2⟩ := bx
  obtain ⟨y1, y2⟩ := by'
  obtain ⟨p, hp⟩ : ∃ p, max x (-x) = p := ⟨_, rfl⟩
  have HT1 := Lib.hid (two_147 x y x1 x2 y1 y2)
  have HT2 := Lib.hid (two_147 y x y1 y2 x1 x2)
  have HT3 := Lib.hid (two_148 x y x1 x2 y1 y2)
  have HO1 := Lib.hid (one_143 x x1 x2)
  have HO2 := Lib.hid (one_143 (-x) (by omega) (by omega))
  have HO3 := Lib.hid (one_144 x x1 x2)
  have HO4 := Lib.hid (one_139 x x1 x2)
  rw [hp] at HO3
  have p0 : decide (p < 0) = false := by simp; omega
  have f1 : (x + y != y + x) = false := ne_no (by omega)
  have f2 : (x + y - y != x) = false := ne_no (by omega)
  have f3 : (x - y + y != x) = false := ne_no (by omega)
  have f4 : (- -x != x) = false := ne_no (by omega)
  have f5 : (x + 1 - 1 != x) = false := ne_no (by omega)
  by_cases hx0 : 0 ≤ x
  · have g1 : (p != x) = false := ne_no (by omega)
    clear hp
    go_enter Try.func7, Try.ntmps7
    go_wp2_with (first
      | (go_at_call 28; refine (alive_any _).mono ?_; rintro e w1 ⟨rfl, hb⟩)
      | ((with_reducible refine Calls.mono (HT1.out _) ?_); rintro e w' ⟨rfl, rfl⟩)
      | ((with_reducible refine Calls.mono (HT2.out _) ?_); rintro e w' ⟨rfl, rfl⟩)
      | ((with_reducible refine Calls.mono (HT3.out _) ?_); rintro e w' ⟨rfl, rfl⟩)
      | ((with_reducible refine Calls.mono (HO1.out _) ?_); rintro e w' ⟨rfl, rfl⟩)
      | ((with_reducible refine Calls.mono (HO2.out _) ?_); rintro e w' ⟨rfl, rfl⟩)
      | ((with_reducible refine Calls.mono (HO3.out _) ?_); rintro e w' ⟨rfl, rfl⟩)
      | ((with_reducible refine Calls.mono (HO4.out _) ?_); rintro e w' ⟨rfl, rfl⟩))
    go_ret
    exact ⟨rfl, hb⟩
  · have g1 : (p != x) = true := ne_yes (by omega)
    have g2 : (p != -x) = false := ne_no (by omega)
    clear hp
    go_enter Try.func7, Try.ntmps7
    go_wp2_with (first
      | (go_at_call 28; refine (alive_any _).mono ?_; rintro e w1 ⟨rfl, hb⟩)
      | ((with_reducible refine Calls.mono (HT1.out _) ?_); rintro e w' ⟨rfl, rfl⟩)
      | ((with_reducible refine Calls.mono (HT2.out _) ?_); rintro e w' ⟨rfl, rfl⟩)
      | ((with_reducible refine Calls.mono (HT3.out _) ?_); rintro e w' ⟨rfl, rfl⟩)
      | ((with_reducible refine Calls.mono (HO1.out _) ?_); rintro e w' ⟨rfl, rfl⟩)
      | ((with_reducible refine Calls.mono (HO2.out _) ?_); rintro e w' ⟨rfl, rfl⟩)
      | ((with_reducible refine Calls.mono (HO3.out _) ?_); rintro e w' ⟨rfl, rfl⟩)
      | ((with_reducible refine Calls.mono (HO4.out _) ?_); rintro e w' ⟨rfl, rfl⟩))
    go_ret
    exact ⟨rfl, hb⟩

open Go.ChangeShapes Go.WideShapes Go.ChangeAt
set_option maxRecDepth 100000 in
theorem sums_lifted (os : Os) (started : os.Started) (H : Type) (enc : TypeId × Value → H) :
    ReturnsInHanded {} Try.checked os 7 .any (Rows.numSumsSpec.pre6 enc Try.prog Try.f7 Rows.numSumsRow.domain false) (Rows.numSumsSpec.post enc Try.prog Try.f7 false true false false) := by
  refine returnsInHanded_of_change (C := Try.checked) own started (by kernel_rfl) Try.func7
    (ChangeSpec.witness6 (enc := enc) (C := Try.checked) false ⟨#[], #[.int .i64 0, .int .i64 0], []⟩ 8 (by kernel_rfl) (by kernel_rfl) (by kernel_rfl) (by kernel_rfl)) ?_
  intro W base args ds gs before hval0 hW hcnd _
  have hval : ∀ (j : Nat) t v, Try.f7.params[j]? = some t → args[j]? = some v → Value.okWide Try.prog W .any base t v := hval0
  have hW' := hW
  obtain ⟨p, q, hA0, hV, rfl, hfz, hnd⟩ := hW
  have hA : DataW.TrodAll enc Try.prog W 0 (fun _ => true) true Try.f7.params.toList args.toList ds p := hA0
  rw [Try.params7] at hA hval
  obtain ⟨v0, vs0, d0, ds0, p0, q0, hargs, rfl, rfl, h0, r0⟩ := trodAll_cons hA
  obtain ⟨v1, vs1, d1, ds1, p1, q1, rfl, rfl, rfl, h1, r1⟩ := trodAll_cons r0
  obtain ⟨rfl, rfl, rfl⟩ := trodAll_nil r1
  obtain rfl : args = #[v0, v1] := by cases args; simp_all
  obtain ⟨rfl, rfl⟩ := trodVars_none hV
  have k0 := h0
  have lt0 : ∀ x ∈ p0, x.block < W.heap.size := by obtain ⟨m, hm⟩ := k0; exact DataW.trod_lt m _ _ _ hm
  have k1 := h1
  have lt1 : ∀ x ∈ p1, x.block < W.heap.size := by obtain ⟨m, hm⟩ := k1; exact DataW.trod_lt m _ _ _ hm
  obtain ⟨z0, rfl, rfl, rfl, wz0⟩ := open_int Try.underlying2 (hval 0 2 v0 rfl rfl) h0
  have hz0 := bounds_i64 wz0
  obtain ⟨z1, rfl, rfl, rfl, wz1⟩ := open_int Try.underlying2 (hval 1 2 v1 rfl rfl) h1
  have hz1 := bounds_i64 wz1
  clear hA0 hval0
  refine (sums_walk z0 z1 W).mono fun e W' ⟨he, bel⟩ => ?_
  subst he
  exact ⟨_, rfl, _, _, _, [], _, [], hW', trodAll_mk1 (shut_bool Try.underlying4 _), (trodAll_cons_mk (Below.trod laidOut (by kernel_rfl) (of_decide_eq_true (by kernel_rfl)) k0 bel lt0) (trodAll_cons_mk (Below.trod laidOut (by kernel_rfl) (of_decide_eq_true (by kernel_rfl)) k1 bel lt1) trodAll_mk0)), rfl, bel.frame _, fun h => by cases h⟩

theorem sums_over : Rows.numSumsRow.holds Try.pinned (OpenSpec.ofChange Rows.numSumsSpec) :=
  OpenClaim.holds_of_wide 7 Try.f7 rfl rfl rfl rfl rfl rfl rfl ⟨rfl, rfl, rfl, rfl, rfl⟩ rfl rfl rfl rfl rfl (by kernel_rfl) Try.func7 (by kernel_rfl)
    (of_decide_eq_true (by kernel_rfl)) (by unfold Func.isWrapper; first | (rw [if_pos (by decide +kernel)]; kernel_rfl) | (rw [if_neg (by decide +kernel)]; exact ⟨rfl, rfl⟩))
    (fun os started H enc _ => sums_lifted os started H enc)

/-- NumSums is true at every input. -/
theorem sums_proved : Rows.NumSumsSaid := sums_over
#print axioms sums_proved
end Go.Proofs.Ytbhopgklnddelaa
