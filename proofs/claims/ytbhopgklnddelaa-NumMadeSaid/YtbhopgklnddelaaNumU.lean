/- NumMade is true at every input. No condition. -/
import Derived.Test.YtbhopgklnddelaaNumR
import Derived.Test.YtbhopgklnddelaaNumS
import Derived.Test.YtbhopgklnddelaaNumT
namespace Go.Proofs.Ytbhopgklnddelaa
open Go.RowKit

set_option maxRecDepth 100000 in
set_option maxHeartbeats 2000000 in
theorem made_other (c k : Int) (h1 : c ∉ ones) (hk1 : k ≠ 1) (hk2 : k ≠ 2) (ha : ∀ w, Calls Try.prog 24 #[.int .u8 c] w fun e w' => e = .returned (.int .i64 k) ∧ w = w') (a b : Int) (w : World) : Calls Try.prog 9 #[.int .u8 c, .int .i64 a, .int .i64 b] w fun e w' => e = .returned (.bool true) ∧ Below w.heap.size w w' := by
  obtain ⟨x, hx⟩ : ∃ x, a.tmod 2147483648 = x := ⟨_, rfl⟩
  obtain ⟨y, hy⟩ : ∃ y, b.tmod 2147483648 = y := ⟨_, rfl⟩
  have HO1 := Lib.hid (one_none c x h1)
  have HAR := Lib.hid ha
  have e1 : (k == 2) = false := by simpa using hk2
  have e2 : (k != 1) = true := by simpa using hk1
  have e3 : (k != 2) = true := by simpa using hk2
  clear ha hk1 hk2
  go_enter Try.func9, Try.ntmps9
  go_wp2_with (first
    | (go_at_call 28; refine (alive_any _).mono ?_; rintro e w1 ⟨rfl, hb1⟩)
    | ((with_reducible refine Calls.mono (HO1.out _) ?_); rintro e w' ⟨rfl, rfl⟩)
    | ((with_reducible refine Calls.mono (HAR.out _) ?_); rintro e w' ⟨rfl, rfl⟩))
  go_ret
  exact ⟨rfl, hb1⟩

theorem tv_two (b : Bool) : tv b = 0 ∨ tv b = 1 := by cases b <;> simp [tv]
theorem made_walk (c a b : Int) (w : World) : Calls Try.prog 9 #[.int .u8 c, .int .i64 a, .int .i64 b] w fun e w' => e = .returned (.bool true) ∧ Below w.heap.size w w' := by
  obtain ⟨x, hx⟩ : ∃ x, a.tmod 2147483648 = x := ⟨_, rfl⟩
  obtain ⟨y, hy⟩ : ∃ y, b.tmod 2147483648 = y := ⟨_, rfl⟩
  have bx := tmod_bd a
  have by' := tmod_bd b
  rw [hx] at bx
  rw [hy] at by'
  obtain ⟨x1, x2⟩ := bx
  obtain ⟨y1, y2⟩ := by'
  by_cases h1 : c ∈ ones
  · simp only [ones, List.mem_cons, List.not_mem_nil, or_false] at h1
    rcases h1 with rfl | rfl | rfl | rfl | rfl | rfl
    · exact made_139 x y _ x1 x2 rfl (by omega) (by omega) a b hx hy w
    · exact made_140 x y _ x1 x2 rfl (by omega) (by omega) a b hx hy w
    · exact made_143 x y _ x1 x2 rfl (by omega) (by omega) a b hx hy w
    · exact made_144 x y _ x1 x2 rfl (by omega) (by omega) a b hx hy w
    · rcases tv_two (x == 0) with h | h
      · exact made_145_0 x y x1 x2 h a b hx hy w
      · exact made_145_1 x y x1 x2 h a b hx hy w
    · rcases tv_two (x != 0) with h | h
      · exact made_146_0 x y x1 x2 h a b hx hy w
      · exact made_146_1 x y x1 x2 h a b hx hy w
  · by_cases h2 : c ∈ twos
    · simp only [twos, List.mem_cons, List.not_mem_nil, or_false] at h2
      rcases h2 with rfl | rfl | rfl | rfl | rfl | rfl | rfl | rfl | rfl | rfl | rfl | rfl | rfl
      · exact made_147 x y _ x1 x2 y1 y2 rfl (by omega) (by omega) a b hx hy w
      · exact made_148 x y _ x1 x2 y1 y2 rfl (by omega) (by omega) a b hx hy w
      · rcases tv_two (x != 0 && y != 0) with h | h
        · exact made_154_0 x y x1 x2 y1 y2 h a b hx hy w
        · exact made_154_1 x y x1 x2 y1 y2 h a b hx hy w
      · rcases tv_two (x != 0 || y != 0) with h | h
        · exact made_155_0 x y x1 x2 y1 y2 h a b hx hy w
        · exact made_155_1 x y x1 x2 y1 y2 h a b hx hy w
      · rcases tv_two (x == y) with h | h
        · exact made_156_0 x y x1 x2 y1 y2 h a b hx hy w
        · exact made_156_1 x y x1 x2 y1 y2 h a b hx hy w
      · rcases tv_two (x == y) with h | h
        · exact made_157_0 x y x1 x2 y1 y2 h a b hx hy w
        · exact made_157_1 x y x1 x2 y1 y2 h a b hx hy w
      · rcases tv_two (x != y) with h | h
        · exact made_158_0 x y x1 x2 y1 y2 h a b hx hy w
        · exact made_158_1 x y x1 x2 y1 y2 h a b hx hy w
      · rcases tv_two (decide (x < y)) with h | h
        · exact made_159_0 x y x1 x2 y1 y2 h a b hx hy w
        · exact made_159_1 x y x1 x2 y1 y2 h a b hx hy w
      · rcases tv_two (decide (y < x)) with h | h
        · exact made_160_0 x y x1 x2 y1 y2 h a b hx hy w
        · exact made_160_1 x y x1 x2 y1 y2 h a b hx hy w
      · rcases tv_two (decide (x ≤ y)) with h | h
        · exact made_161_0 x y x1 x2 y1 y2 h a b hx hy w
        · exact made_161_1 x y x1 x2 y1 y2 h a b hx hy w
      · rcases tv_two (decide (y ≤ x)) with h | h
        · exact made_162_0 x y x1 x2 y1 y2 h a b hx hy w
        · exact made_162_1 x y x1 x2 y1 y2 h a b hx hy w
      · exact made_163 x y _ x1 x2 y1 y2 rfl (by omega) (by omega) a b hx hy w
      · exact made_164 x y _ x1 x2 y1 y2 rfl (by omega) (by omega) a b hx hy w
    · by_cases h3 : c = 165
      · subst h3
        exact made_other 165 3 h1 (by decide) (by decide) arity_165 a b w
      · exact made_other c 0 h1 (by decide) (by decide) (arity_none c h1 h2 h3) a b w

open Go.ChangeShapes Go.WideShapes Go.ChangeAt
set_option maxRecDepth 100000 in
theorem made_lifted (os : Os) (started : os.Started) (H : Type) (enc : TypeId × Value → H) :
    ReturnsInHanded {} Try.checked os 9 .any (Rows.numMadeSpec.pre6 enc Try.prog Try.f9 Rows.numMadeRow.domain false) (Rows.numMadeSpec.post enc Try.prog Try.f9 false true false false) := by
  refine returnsInHanded_of_change (C := Try.checked) own started (by kernel_rfl) Try.func9
    (ChangeSpec.witness6 (enc := enc) (C := Try.checked) false ⟨#[], #[.int .u8 0, .int .i64 0, .int .i64 0], []⟩ 8 (by kernel_rfl) (by kernel_rfl) (by kernel_rfl) (by kernel_rfl)) ?_
  intro W base args ds gs before hval0 hW hcnd _
  have hval : ∀ (j : Nat) t v, Try.f9.params[j]? = some t → args[j]? = some v → Value.okWide Try.prog W .any base t v := hval0
  have hW' := hW
  obtain ⟨p, q, hA0, hV, rfl, hfz, hnd⟩ := hW
  have hA : DataW.TrodAll enc Try.prog W 0 (fun _ => true) true Try.f9.params.toList args.toList ds p := hA0
  rw [Try.params9] at hA hval
  obtain ⟨v0, vs0, d0, ds0, p0, q0, hargs, rfl, rfl, h0, r0⟩ := trodAll_cons hA
  obtain ⟨v1, vs1, d1, ds1, p1, q1, rfl, rfl, rfl, h1, r1⟩ := trodAll_cons r0
  obtain ⟨v2, vs2, d2, ds2, p2, q2, rfl, rfl, rfl, h2, r2⟩ := trodAll_cons r1
  obtain ⟨rfl, rfl, rfl⟩ := trodAll_nil r2
  obtain rfl : args = #[v0, v1, v2] := by cases args; simp_all
  obtain ⟨rfl, rfl⟩ := trodVars_none hV
  have k0 := h0
  have lt0 : ∀ x ∈ p0, x.block < W.heap.size := by obtain ⟨m, hm⟩ := k0; exact DataW.trod_lt m _ _ _ hm
  have k1 := h1
  have lt1 : ∀ x ∈ p1, x.block < W.heap.size := by obtain ⟨m, hm⟩ := k1; exact DataW.trod_lt m _ _ _ hm
  have k2 := h2
  have lt2 : ∀ x ∈ p2, x.block < W.heap.size := by obtain ⟨m, hm⟩ := k2; exact DataW.trod_lt m _ _ _ hm
  obtain ⟨z0, rfl, rfl, rfl, wz0⟩ := open_int Try.underlying5 (hval 0 5 v0 rfl rfl) h0
  have hz0 := bounds_u8 wz0
  obtain ⟨z1, rfl, rfl, rfl, wz1⟩ := open_int Try.underlying2 (hval 1 2 v1 rfl rfl) h1
  have hz1 := bounds_i64 wz1
  obtain ⟨z2, rfl, rfl, rfl, wz2⟩ := open_int Try.underlying2 (hval 2 2 v2 rfl rfl) h2
  have hz2 := bounds_i64 wz2
  clear hA0 hval0
  refine (made_walk z0 z1 z2 W).mono fun e W' ⟨he, bel⟩ => ?_
  subst he
  exact ⟨_, rfl, _, _, _, [], _, [], hW', trodAll_mk1 (shut_bool Try.underlying4 _), (trodAll_cons_mk (Below.trod laidOut (by kernel_rfl) (of_decide_eq_true (by kernel_rfl)) k0 bel lt0) (trodAll_cons_mk (Below.trod laidOut (by kernel_rfl) (of_decide_eq_true (by kernel_rfl)) k1 bel lt1) (trodAll_cons_mk (Below.trod laidOut (by kernel_rfl) (of_decide_eq_true (by kernel_rfl)) k2 bel lt2) trodAll_mk0))), rfl, bel.frame _, fun h => by cases h⟩

theorem made_over : Rows.numMadeRow.holds Try.pinned (OpenSpec.ofChange Rows.numMadeSpec) :=
  OpenClaim.holds_of_wide 9 Try.f9 rfl rfl rfl rfl rfl rfl rfl ⟨rfl, rfl, rfl, rfl, rfl⟩ rfl rfl rfl rfl rfl (by kernel_rfl) Try.func9 (by kernel_rfl)
    (of_decide_eq_true (by kernel_rfl)) (by unfold Func.isWrapper; first | (rw [if_pos (by decide +kernel)]; kernel_rfl) | (rw [if_neg (by decide +kernel)]; exact ⟨rfl, rfl⟩))
    (fun os started H enc _ => made_lifted os started H enc)

/-- NumMade is true at every input. -/
theorem made_proved : Rows.NumMadeSaid := made_over
#print axioms made_proved
end Go.Proofs.Ytbhopgklnddelaa
