/- num.One and num.Two answer what purserref11's do. No condition. -/
import Derived.Test.YtbhopgklnddelaaNumB
namespace Go.Proofs.Ytbhopgklnddelaa
open Go.RowKit Go.Lib


theorem and48 (n m : Int) (w : World) : Calls Try.prog 48 #[.int .i64 n, .int .i64 m] w fun e w' => e = .returned (.int .i64 (tv (n != 0 && m != 0))) ∧ w = w' := by
  by_cases a : n = 0 <;> by_cases b : m = 0
  · subst a
    subst b
    go_enter Try.func48, Try.ntmps48
    go_wp2_with ((go_at_call 32; refine (truth32 _ _).mono ?_; rintro e w' ⟨rfl, rfl⟩))
    go_ret
    exact ⟨by simp [], rfl⟩
  · subst a
    have b1 : (m == 0) = false := by simpa using b
    have b2 : (m != 0) = true := by simpa using b
    clear b
    go_enter Try.func48, Try.ntmps48
    go_wp2_with ((go_at_call 32; refine (truth32 _ _).mono ?_; rintro e w' ⟨rfl, rfl⟩))
    go_ret
    exact ⟨by simp [b2], rfl⟩
  · have a1 : (n == 0) = false := by simpa using a
    have a2 : (n != 0) = true := by simpa using a
    clear a
    subst b
    go_enter Try.func48, Try.ntmps48
    go_wp2_with ((go_at_call 32; refine (truth32 _ _).mono ?_; rintro e w' ⟨rfl, rfl⟩))
    go_ret
    exact ⟨by simp [a2], rfl⟩
  · have a1 : (n == 0) = false := by simpa using a
    have a2 : (n != 0) = true := by simpa using a
    clear a
    have b1 : (m == 0) = false := by simpa using b
    have b2 : (m != 0) = true := by simpa using b
    clear b
    go_enter Try.func48, Try.ntmps48
    go_wp2_with ((go_at_call 32; refine (truth32 _ _).mono ?_; rintro e w' ⟨rfl, rfl⟩))
    go_ret
    exact ⟨by simp [a2, b2], rfl⟩

theorem or49 (n m : Int) (w : World) : Calls Try.prog 49 #[.int .i64 n, .int .i64 m] w fun e w' => e = .returned (.int .i64 (tv (n != 0 || m != 0))) ∧ w = w' := by
  by_cases a : n = 0 <;> by_cases b : m = 0
  · subst a
    subst b
    go_enter Try.func49, Try.ntmps49
    go_wp2_with ((go_at_call 32; refine (truth32 _ _).mono ?_; rintro e w' ⟨rfl, rfl⟩))
    go_ret
    exact ⟨by simp [], rfl⟩
  · subst a
    have b1 : (m == 0) = false := by simpa using b
    have b2 : (m != 0) = true := by simpa using b
    clear b
    go_enter Try.func49, Try.ntmps49
    go_wp2_with ((go_at_call 32; refine (truth32 _ _).mono ?_; rintro e w' ⟨rfl, rfl⟩))
    go_ret
    exact ⟨by simp [b2], rfl⟩
  · have a1 : (n == 0) = false := by simpa using a
    have a2 : (n != 0) = true := by simpa using a
    clear a
    subst b
    go_enter Try.func49, Try.ntmps49
    go_wp2_with ((go_at_call 32; refine (truth32 _ _).mono ?_; rintro e w' ⟨rfl, rfl⟩))
    go_ret
    exact ⟨by simp [a2], rfl⟩
  · have a1 : (n == 0) = false := by simpa using a
    have a2 : (n != 0) = true := by simpa using a
    clear a
    have b1 : (m == 0) = false := by simpa using b
    have b2 : (m != 0) = true := by simpa using b
    clear b
    go_enter Try.func49, Try.ntmps49
    go_wp2_with ((go_at_call 32; refine (truth32 _ _).mono ?_; rintro e w' ⟨rfl, rfl⟩))
    go_ret
    exact ⟨by simp [a2, b2], rfl⟩

theorem one_139 (n : Int) (h1 : -2147483647 ≤ n) (h2 : n ≤ 2147483647) (w : World) : Calls Try.prog 18 #[.int .u8 139, .int .i64 n] w fun e w' => e = .returned (.tuple #[.int .i64 (n + 1), .int .i64 0]) ∧ w = w' := by
  have q1 := eql60
  have q2 := eql60n
  have q3 := eql63
  have q4 := eql63n
  go_enter Try.func18, Try.ntmps18
  go_wp2_with (first | (go_at_call 34; refine (ofOne_139 _).mono ?_; rintro e w' ⟨rfl, rfl⟩) | (go_at_call 35; refine (fits35_yes _ h1 h2 _).mono ?_; rintro e w' ⟨rfl, rfl⟩) | (go_at_call 40; refine (next40 _ h1 h2 _).mono ?_; rintro e w' ⟨rfl, rfl⟩))
  go_ret2
  exact ⟨rfl, rfl⟩
theorem one_139_no (n : Int) (h : n < -2147483647 ∨ 2147483647 < n) (w : World) : Calls Try.prog 18 #[.int .u8 139, .int .i64 n] w fun e w' => e = .returned (.tuple #[.int .i64 0, .int .i64 110]) ∧ w = w' := by
  have q1 := eql60
  have q2 := eql60n
  have q3 := eql63
  have q4 := eql63n
  have H := Lib.hid h
  clear h
  go_enter Try.func18, Try.ntmps18
  go_wp2_with (first | (go_at_call 34; refine (ofOne_139 _).mono ?_; rintro e w' ⟨rfl, rfl⟩) | (go_at_call 35; refine (fits35_no _ H.out _).mono ?_; rintro e w' ⟨rfl, rfl⟩))
  go_ret2
  exact ⟨rfl, rfl⟩
theorem refOne_139_no (n : Int) (h : n < -2147483647 ∨ 2147483647 < n) (w : World) : Calls Try.prog 19 #[.int .u8 139, .int .i64 n] w fun e w' => e = .returned (.tuple #[.int .i64 0, .int .i64 110]) ∧ w = w' := by
  have H := Lib.hid h
  clear h
  go_enter Try.func19, Try.ntmps19
  go_wp2_with (first | (go_at_call 25; refine (refArity_139 _).mono ?_; rintro e w' ⟨rfl, rfl⟩) | (go_at_call 36; refine (fits36_no _ H.out _).mono ?_; rintro e w' ⟨rfl, rfl⟩))
  go_ret2
  exact ⟨rfl, rfl⟩
theorem refOne_139 (n : Int) (h1 : -2147483647 ≤ n) (h2 : n ≤ 2147483647) (w : World) : Calls Try.prog 19 #[.int .u8 139, .int .i64 n] w fun e w' => e = .returned (.tuple #[.int .i64 (n + 1), .int .i64 0]) ∧ w = w' := by
  go_enter Try.func19, Try.ntmps19
  go_wp2_with (first | (go_at_call 25; refine (refArity_139 _).mono ?_; rintro e w' ⟨rfl, rfl⟩) | (go_at_call 36; refine (fits36_yes _ h1 h2 _).mono ?_; rintro e w' ⟨rfl, rfl⟩) | (go_at_call 33; refine (flag33 _ _).mono ?_; rintro e w' ⟨rfl, rfl⟩))
  all_goals
    go_ret2
    exact ⟨rfl, rfl⟩

theorem one_140 (n : Int) (h1 : -2147483647 ≤ n) (h2 : n ≤ 2147483647) (w : World) : Calls Try.prog 18 #[.int .u8 140, .int .i64 n] w fun e w' => e = .returned (.tuple #[.int .i64 (n - 1), .int .i64 0]) ∧ w = w' := by
  have q1 := eql60
  have q2 := eql60n
  have q3 := eql63
  have q4 := eql63n
  go_enter Try.func18, Try.ntmps18
  go_wp2_with (first | (go_at_call 34; refine (ofOne_140 _).mono ?_; rintro e w' ⟨rfl, rfl⟩) | (go_at_call 35; refine (fits35_yes _ h1 h2 _).mono ?_; rintro e w' ⟨rfl, rfl⟩) | (go_at_call 41; refine (prev41 _ h1 h2 _).mono ?_; rintro e w' ⟨rfl, rfl⟩))
  go_ret2
  exact ⟨rfl, rfl⟩
theorem one_140_no (n : Int) (h : n < -2147483647 ∨ 2147483647 < n) (w : World) : Calls Try.prog 18 #[.int .u8 140, .int .i64 n] w fun e w' => e = .returned (.tuple #[.int .i64 0, .int .i64 110]) ∧ w = w' := by
  have q1 := eql60
  have q2 := eql60n
  have q3 := eql63
  have q4 := eql63n
  have H := Lib.hid h
  clear h
  go_enter Try.func18, Try.ntmps18
  go_wp2_with (first | (go_at_call 34; refine (ofOne_140 _).mono ?_; rintro e w' ⟨rfl, rfl⟩) | (go_at_call 35; refine (fits35_no _ H.out _).mono ?_; rintro e w' ⟨rfl, rfl⟩))
  go_ret2
  exact ⟨rfl, rfl⟩
theorem refOne_140_no (n : Int) (h : n < -2147483647 ∨ 2147483647 < n) (w : World) : Calls Try.prog 19 #[.int .u8 140, .int .i64 n] w fun e w' => e = .returned (.tuple #[.int .i64 0, .int .i64 110]) ∧ w = w' := by
  have H := Lib.hid h
  clear h
  go_enter Try.func19, Try.ntmps19
  go_wp2_with (first | (go_at_call 25; refine (refArity_140 _).mono ?_; rintro e w' ⟨rfl, rfl⟩) | (go_at_call 36; refine (fits36_no _ H.out _).mono ?_; rintro e w' ⟨rfl, rfl⟩))
  go_ret2
  exact ⟨rfl, rfl⟩
theorem refOne_140 (n : Int) (h1 : -2147483647 ≤ n) (h2 : n ≤ 2147483647) (w : World) : Calls Try.prog 19 #[.int .u8 140, .int .i64 n] w fun e w' => e = .returned (.tuple #[.int .i64 (n - 1), .int .i64 0]) ∧ w = w' := by
  go_enter Try.func19, Try.ntmps19
  go_wp2_with (first | (go_at_call 25; refine (refArity_140 _).mono ?_; rintro e w' ⟨rfl, rfl⟩) | (go_at_call 36; refine (fits36_yes _ h1 h2 _).mono ?_; rintro e w' ⟨rfl, rfl⟩) | (go_at_call 33; refine (flag33 _ _).mono ?_; rintro e w' ⟨rfl, rfl⟩))
  all_goals
    go_ret2
    exact ⟨rfl, rfl⟩

theorem one_143 (n : Int) (h1 : -2147483647 ≤ n) (h2 : n ≤ 2147483647) (w : World) : Calls Try.prog 18 #[.int .u8 143, .int .i64 n] w fun e w' => e = .returned (.tuple #[.int .i64 (-n), .int .i64 0]) ∧ w = w' := by
  have q1 := eql60
  have q2 := eql60n
  have q3 := eql63
  have q4 := eql63n
  go_enter Try.func18, Try.ntmps18
  go_wp2_with (first | (go_at_call 34; refine (ofOne_143 _).mono ?_; rintro e w' ⟨rfl, rfl⟩) | (go_at_call 35; refine (fits35_yes _ h1 h2 _).mono ?_; rintro e w' ⟨rfl, rfl⟩) | (go_at_call 42; refine (neg42 _ h1 h2 _).mono ?_; rintro e w' ⟨rfl, rfl⟩))
  go_ret2
  exact ⟨rfl, rfl⟩
theorem one_143_no (n : Int) (h : n < -2147483647 ∨ 2147483647 < n) (w : World) : Calls Try.prog 18 #[.int .u8 143, .int .i64 n] w fun e w' => e = .returned (.tuple #[.int .i64 0, .int .i64 110]) ∧ w = w' := by
  have q1 := eql60
  have q2 := eql60n
  have q3 := eql63
  have q4 := eql63n
  have H := Lib.hid h
  clear h
  go_enter Try.func18, Try.ntmps18
  go_wp2_with (first | (go_at_call 34; refine (ofOne_143 _).mono ?_; rintro e w' ⟨rfl, rfl⟩) | (go_at_call 35; refine (fits35_no _ H.out _).mono ?_; rintro e w' ⟨rfl, rfl⟩))
  go_ret2
  exact ⟨rfl, rfl⟩
theorem refOne_143_no (n : Int) (h : n < -2147483647 ∨ 2147483647 < n) (w : World) : Calls Try.prog 19 #[.int .u8 143, .int .i64 n] w fun e w' => e = .returned (.tuple #[.int .i64 0, .int .i64 110]) ∧ w = w' := by
  have H := Lib.hid h
  clear h
  go_enter Try.func19, Try.ntmps19
  go_wp2_with (first | (go_at_call 25; refine (refArity_143 _).mono ?_; rintro e w' ⟨rfl, rfl⟩) | (go_at_call 36; refine (fits36_no _ H.out _).mono ?_; rintro e w' ⟨rfl, rfl⟩))
  go_ret2
  exact ⟨rfl, rfl⟩
theorem refOne_143 (n : Int) (h1 : -2147483647 ≤ n) (h2 : n ≤ 2147483647) (w : World) : Calls Try.prog 19 #[.int .u8 143, .int .i64 n] w fun e w' => e = .returned (.tuple #[.int .i64 (-n), .int .i64 0]) ∧ w = w' := by
  go_enter Try.func19, Try.ntmps19
  go_wp2_with (first | (go_at_call 25; refine (refArity_143 _).mono ?_; rintro e w' ⟨rfl, rfl⟩) | (go_at_call 36; refine (fits36_yes _ h1 h2 _).mono ?_; rintro e w' ⟨rfl, rfl⟩) | (go_at_call 33; refine (flag33 _ _).mono ?_; rintro e w' ⟨rfl, rfl⟩))
  all_goals
    go_ret2
    exact ⟨rfl, rfl⟩

theorem one_144 (n : Int) (h1 : -2147483647 ≤ n) (h2 : n ≤ 2147483647) (w : World) : Calls Try.prog 18 #[.int .u8 144, .int .i64 n] w fun e w' => e = .returned (.tuple #[.int .i64 (max n (-n)), .int .i64 0]) ∧ w = w' := by
  have q1 := eql60
  have q2 := eql60n
  have q3 := eql63
  have q4 := eql63n
  go_enter Try.func18, Try.ntmps18
  go_wp2_with (first | (go_at_call 34; refine (ofOne_144 _).mono ?_; rintro e w' ⟨rfl, rfl⟩) | (go_at_call 35; refine (fits35_yes _ h1 h2 _).mono ?_; rintro e w' ⟨rfl, rfl⟩) | (go_at_call 43; refine (abs43 _ h1 h2 _).mono ?_; rintro e w' ⟨rfl, rfl⟩))
  go_ret2
  exact ⟨rfl, rfl⟩
theorem one_144_no (n : Int) (h : n < -2147483647 ∨ 2147483647 < n) (w : World) : Calls Try.prog 18 #[.int .u8 144, .int .i64 n] w fun e w' => e = .returned (.tuple #[.int .i64 0, .int .i64 110]) ∧ w = w' := by
  have q1 := eql60
  have q2 := eql60n
  have q3 := eql63
  have q4 := eql63n
  have H := Lib.hid h
  clear h
  go_enter Try.func18, Try.ntmps18
  go_wp2_with (first | (go_at_call 34; refine (ofOne_144 _).mono ?_; rintro e w' ⟨rfl, rfl⟩) | (go_at_call 35; refine (fits35_no _ H.out _).mono ?_; rintro e w' ⟨rfl, rfl⟩))
  go_ret2
  exact ⟨rfl, rfl⟩
theorem refOne_144_no (n : Int) (h : n < -2147483647 ∨ 2147483647 < n) (w : World) : Calls Try.prog 19 #[.int .u8 144, .int .i64 n] w fun e w' => e = .returned (.tuple #[.int .i64 0, .int .i64 110]) ∧ w = w' := by
  have H := Lib.hid h
  clear h
  go_enter Try.func19, Try.ntmps19
  go_wp2_with (first | (go_at_call 25; refine (refArity_144 _).mono ?_; rintro e w' ⟨rfl, rfl⟩) | (go_at_call 36; refine (fits36_no _ H.out _).mono ?_; rintro e w' ⟨rfl, rfl⟩))
  go_ret2
  exact ⟨rfl, rfl⟩
theorem refOne_144 (n : Int) (h1 : -2147483647 ≤ n) (h2 : n ≤ 2147483647) (w : World) : Calls Try.prog 19 #[.int .u8 144, .int .i64 n] w fun e w' => e = .returned (.tuple #[.int .i64 (max n (-n)), .int .i64 0]) ∧ w = w' := by
  go_enter Try.func19, Try.ntmps19
  go_wp2_with (first | (go_at_call 25; refine (refArity_144 _).mono ?_; rintro e w' ⟨rfl, rfl⟩) | (go_at_call 36; refine (fits36_yes _ h1 h2 _).mono ?_; rintro e w' ⟨rfl, rfl⟩) | (go_at_call 33; refine (flag33 _ _).mono ?_; rintro e w' ⟨rfl, rfl⟩))
  all_goals
    go_ret2
    exact ⟨by congr; simp; omega, rfl⟩

theorem one_145 (n : Int) (h1 : -2147483647 ≤ n) (h2 : n ≤ 2147483647) (w : World) : Calls Try.prog 18 #[.int .u8 145, .int .i64 n] w fun e w' => e = .returned (.tuple #[.int .i64 (tv (n == 0)), .int .i64 0]) ∧ w = w' := by
  have q1 := eql60
  have q2 := eql60n
  have q3 := eql63
  have q4 := eql63n
  go_enter Try.func18, Try.ntmps18
  go_wp2_with (first | (go_at_call 34; refine (ofOne_145 _).mono ?_; rintro e w' ⟨rfl, rfl⟩) | (go_at_call 35; refine (fits35_yes _ h1 h2 _).mono ?_; rintro e w' ⟨rfl, rfl⟩) | (go_at_call 44; refine (isz44 _ _).mono ?_; rintro e w' ⟨rfl, rfl⟩))
  go_ret2
  exact ⟨rfl, rfl⟩
theorem one_145_no (n : Int) (h : n < -2147483647 ∨ 2147483647 < n) (w : World) : Calls Try.prog 18 #[.int .u8 145, .int .i64 n] w fun e w' => e = .returned (.tuple #[.int .i64 0, .int .i64 110]) ∧ w = w' := by
  have q1 := eql60
  have q2 := eql60n
  have q3 := eql63
  have q4 := eql63n
  have H := Lib.hid h
  clear h
  go_enter Try.func18, Try.ntmps18
  go_wp2_with (first | (go_at_call 34; refine (ofOne_145 _).mono ?_; rintro e w' ⟨rfl, rfl⟩) | (go_at_call 35; refine (fits35_no _ H.out _).mono ?_; rintro e w' ⟨rfl, rfl⟩))
  go_ret2
  exact ⟨rfl, rfl⟩
theorem refOne_145_no (n : Int) (h : n < -2147483647 ∨ 2147483647 < n) (w : World) : Calls Try.prog 19 #[.int .u8 145, .int .i64 n] w fun e w' => e = .returned (.tuple #[.int .i64 0, .int .i64 110]) ∧ w = w' := by
  have H := Lib.hid h
  clear h
  go_enter Try.func19, Try.ntmps19
  go_wp2_with (first | (go_at_call 25; refine (refArity_145 _).mono ?_; rintro e w' ⟨rfl, rfl⟩) | (go_at_call 36; refine (fits36_no _ H.out _).mono ?_; rintro e w' ⟨rfl, rfl⟩))
  go_ret2
  exact ⟨rfl, rfl⟩
theorem refOne_145 (n : Int) (h1 : -2147483647 ≤ n) (h2 : n ≤ 2147483647) (w : World) : Calls Try.prog 19 #[.int .u8 145, .int .i64 n] w fun e w' => e = .returned (.tuple #[.int .i64 (tv (n == 0)), .int .i64 0]) ∧ w = w' := by
  go_enter Try.func19, Try.ntmps19
  go_wp2_with (first | (go_at_call 25; refine (refArity_145 _).mono ?_; rintro e w' ⟨rfl, rfl⟩) | (go_at_call 36; refine (fits36_yes _ h1 h2 _).mono ?_; rintro e w' ⟨rfl, rfl⟩) | (go_at_call 33; refine (flag33 _ _).mono ?_; rintro e w' ⟨rfl, rfl⟩))
  all_goals
    go_ret2
    exact ⟨rfl, rfl⟩

theorem one_146 (n : Int) (h1 : -2147483647 ≤ n) (h2 : n ≤ 2147483647) (w : World) : Calls Try.prog 18 #[.int .u8 146, .int .i64 n] w fun e w' => e = .returned (.tuple #[.int .i64 (tv (n != 0)), .int .i64 0]) ∧ w = w' := by
  have q1 := eql60
  have q2 := eql60n
  have q3 := eql63
  have q4 := eql63n
  go_enter Try.func18, Try.ntmps18
  go_wp2_with (first | (go_at_call 34; refine (ofOne_146 _).mono ?_; rintro e w' ⟨rfl, rfl⟩) | (go_at_call 35; refine (fits35_yes _ h1 h2 _).mono ?_; rintro e w' ⟨rfl, rfl⟩) | (go_at_call 45; refine (nz45 _ _).mono ?_; rintro e w' ⟨rfl, rfl⟩))
  go_ret2
  exact ⟨rfl, rfl⟩
theorem one_146_no (n : Int) (h : n < -2147483647 ∨ 2147483647 < n) (w : World) : Calls Try.prog 18 #[.int .u8 146, .int .i64 n] w fun e w' => e = .returned (.tuple #[.int .i64 0, .int .i64 110]) ∧ w = w' := by
  have q1 := eql60
  have q2 := eql60n
  have q3 := eql63
  have q4 := eql63n
  have H := Lib.hid h
  clear h
  go_enter Try.func18, Try.ntmps18
  go_wp2_with (first | (go_at_call 34; refine (ofOne_146 _).mono ?_; rintro e w' ⟨rfl, rfl⟩) | (go_at_call 35; refine (fits35_no _ H.out _).mono ?_; rintro e w' ⟨rfl, rfl⟩))
  go_ret2
  exact ⟨rfl, rfl⟩
theorem refOne_146_no (n : Int) (h : n < -2147483647 ∨ 2147483647 < n) (w : World) : Calls Try.prog 19 #[.int .u8 146, .int .i64 n] w fun e w' => e = .returned (.tuple #[.int .i64 0, .int .i64 110]) ∧ w = w' := by
  have H := Lib.hid h
  clear h
  go_enter Try.func19, Try.ntmps19
  go_wp2_with (first | (go_at_call 25; refine (refArity_146 _).mono ?_; rintro e w' ⟨rfl, rfl⟩) | (go_at_call 36; refine (fits36_no _ H.out _).mono ?_; rintro e w' ⟨rfl, rfl⟩))
  go_ret2
  exact ⟨rfl, rfl⟩
theorem refOne_146 (n : Int) (h1 : -2147483647 ≤ n) (h2 : n ≤ 2147483647) (w : World) : Calls Try.prog 19 #[.int .u8 146, .int .i64 n] w fun e w' => e = .returned (.tuple #[.int .i64 (tv (n != 0)), .int .i64 0]) ∧ w = w' := by
  go_enter Try.func19, Try.ntmps19
  go_wp2_with (first | (go_at_call 25; refine (refArity_146 _).mono ?_; rintro e w' ⟨rfl, rfl⟩) | (go_at_call 36; refine (fits36_yes _ h1 h2 _).mono ?_; rintro e w' ⟨rfl, rfl⟩) | (go_at_call 33; refine (flag33 _ _).mono ?_; rintro e w' ⟨rfl, rfl⟩))
  all_goals
    go_ret2
    exact ⟨rfl, rfl⟩

theorem one_none (c n : Int) (h : c ∉ ones) (w : World) : Calls Try.prog 18 #[.int .u8 c, .int .i64 n] w fun e w' => e = .returned (.tuple #[.int .i64 0, .int .i64 2]) ∧ w = w' := by
  have q1 := eql60
  have q2 := eql60n
  have q3 := eql63
  have q4 := eql63n
  go_enter Try.func18, Try.ntmps18
  go_wp2_with ((go_at_call 34; refine (ofOne_none _ h _).mono ?_; rintro e w' ⟨rfl, rfl⟩))
  go_ret2
  exact ⟨rfl, rfl⟩
theorem refOne_none (c n k : Int) (hk : (k != 1) = true) (ha : ∀ w, Calls Try.prog 25 #[.int .u8 c] w fun e w' => e = .returned (.int .i64 k) ∧ w = w') (w : World) : Calls Try.prog 19 #[.int .u8 c, .int .i64 n] w fun e w' => e = .returned (.tuple #[.int .i64 0, .int .i64 2]) ∧ w = w' := by
  have H := Lib.hid ha
  clear ha
  go_enter Try.func19, Try.ntmps19
  go_wp2_with ((go_at_call 25; refine (H.out _).mono ?_; rintro e w' ⟨rfl, rfl⟩))
  go_ret2
  exact ⟨rfl, rfl⟩

theorem two_147 (n m : Int) (h1 : -2147483647 ≤ n) (h2 : n ≤ 2147483647) (h3 : -2147483647 ≤ m) (h4 : m ≤ 2147483647) (w : World) : Calls Try.prog 20 #[.int .u8 147, .int .i64 n, .int .i64 m] w fun e w' => e = .returned (.tuple #[.int .i64 (n + m), .int .i64 0]) ∧ w = w' := by
  have q1 := eql60
  have q2 := eql60n
  have q3 := eql63
  have q4 := eql63n
  have a := fits35_yes n h1 h2
  have b := fits35_yes m h3 h4
  have A := Lib.hid a
  have B := Lib.hid b
  clear a b
  go_enter Try.func20, Try.ntmps20
  go_wp2_with (first | (go_at_call 37; refine (ofTwo_147 _).mono ?_; rintro e w' ⟨rfl, rfl⟩) | ((with_reducible refine (Calls.mono (A.out _) ?_)); rintro e w' ⟨rfl, rfl⟩) | ((with_reducible refine (Calls.mono (B.out _) ?_)); rintro e w' ⟨rfl, rfl⟩) | (go_at_call 46; refine (plus46 _ _ h1 h2 h3 h4 _).mono ?_; rintro e w' ⟨rfl, rfl⟩))
  go_ret2
  exact ⟨rfl, rfl⟩

theorem two_148 (n m : Int) (h1 : -2147483647 ≤ n) (h2 : n ≤ 2147483647) (h3 : -2147483647 ≤ m) (h4 : m ≤ 2147483647) (w : World) : Calls Try.prog 20 #[.int .u8 148, .int .i64 n, .int .i64 m] w fun e w' => e = .returned (.tuple #[.int .i64 (n - m), .int .i64 0]) ∧ w = w' := by
  have q1 := eql60
  have q2 := eql60n
  have q3 := eql63
  have q4 := eql63n
  have a := fits35_yes n h1 h2
  have b := fits35_yes m h3 h4
  have A := Lib.hid a
  have B := Lib.hid b
  clear a b
  go_enter Try.func20, Try.ntmps20
  go_wp2_with (first | (go_at_call 37; refine (ofTwo_148 _).mono ?_; rintro e w' ⟨rfl, rfl⟩) | ((with_reducible refine (Calls.mono (A.out _) ?_)); rintro e w' ⟨rfl, rfl⟩) | ((with_reducible refine (Calls.mono (B.out _) ?_)); rintro e w' ⟨rfl, rfl⟩) | (go_at_call 47; refine (minus47 _ _ h1 h2 h3 h4 _).mono ?_; rintro e w' ⟨rfl, rfl⟩))
  go_ret2
  exact ⟨rfl, rfl⟩

theorem two_154 (n m : Int) (h1 : -2147483647 ≤ n) (h2 : n ≤ 2147483647) (h3 : -2147483647 ≤ m) (h4 : m ≤ 2147483647) (w : World) : Calls Try.prog 20 #[.int .u8 154, .int .i64 n, .int .i64 m] w fun e w' => e = .returned (.tuple #[.int .i64 (tv (n != 0 && m != 0)), .int .i64 0]) ∧ w = w' := by
  have q1 := eql60
  have q2 := eql60n
  have q3 := eql63
  have q4 := eql63n
  have a := fits35_yes n h1 h2
  have b := fits35_yes m h3 h4
  have A := Lib.hid a
  have B := Lib.hid b
  clear a b
  go_enter Try.func20, Try.ntmps20
  go_wp2_with (first | (go_at_call 37; refine (ofTwo_154 _).mono ?_; rintro e w' ⟨rfl, rfl⟩) | ((with_reducible refine (Calls.mono (A.out _) ?_)); rintro e w' ⟨rfl, rfl⟩) | ((with_reducible refine (Calls.mono (B.out _) ?_)); rintro e w' ⟨rfl, rfl⟩) | (go_at_call 48; refine (and48 _ _ _).mono ?_; rintro e w' ⟨rfl, rfl⟩))
  go_ret2
  exact ⟨rfl, rfl⟩

theorem two_155 (n m : Int) (h1 : -2147483647 ≤ n) (h2 : n ≤ 2147483647) (h3 : -2147483647 ≤ m) (h4 : m ≤ 2147483647) (w : World) : Calls Try.prog 20 #[.int .u8 155, .int .i64 n, .int .i64 m] w fun e w' => e = .returned (.tuple #[.int .i64 (tv (n != 0 || m != 0)), .int .i64 0]) ∧ w = w' := by
  have q1 := eql60
  have q2 := eql60n
  have q3 := eql63
  have q4 := eql63n
  have a := fits35_yes n h1 h2
  have b := fits35_yes m h3 h4
  have A := Lib.hid a
  have B := Lib.hid b
  clear a b
  go_enter Try.func20, Try.ntmps20
  go_wp2_with (first | (go_at_call 37; refine (ofTwo_155 _).mono ?_; rintro e w' ⟨rfl, rfl⟩) | ((with_reducible refine (Calls.mono (A.out _) ?_)); rintro e w' ⟨rfl, rfl⟩) | ((with_reducible refine (Calls.mono (B.out _) ?_)); rintro e w' ⟨rfl, rfl⟩) | (go_at_call 49; refine (or49 _ _ _).mono ?_; rintro e w' ⟨rfl, rfl⟩))
  go_ret2
  exact ⟨rfl, rfl⟩

theorem two_156 (n m : Int) (h1 : -2147483647 ≤ n) (h2 : n ≤ 2147483647) (h3 : -2147483647 ≤ m) (h4 : m ≤ 2147483647) (w : World) : Calls Try.prog 20 #[.int .u8 156, .int .i64 n, .int .i64 m] w fun e w' => e = .returned (.tuple #[.int .i64 (tv (n == m)), .int .i64 0]) ∧ w = w' := by
  have q1 := eql60
  have q2 := eql60n
  have q3 := eql63
  have q4 := eql63n
  have a := fits35_yes n h1 h2
  have b := fits35_yes m h3 h4
  have A := Lib.hid a
  have B := Lib.hid b
  clear a b
  go_enter Try.func20, Try.ntmps20
  go_wp2_with (first | (go_at_call 37; refine (ofTwo_156 _).mono ?_; rintro e w' ⟨rfl, rfl⟩) | ((with_reducible refine (Calls.mono (A.out _) ?_)); rintro e w' ⟨rfl, rfl⟩) | ((with_reducible refine (Calls.mono (B.out _) ?_)); rintro e w' ⟨rfl, rfl⟩) | (go_at_call 50; refine (eq50 _ _ _).mono ?_; rintro e w' ⟨rfl, rfl⟩))
  go_ret2
  exact ⟨rfl, rfl⟩

theorem two_157 (n m : Int) (h1 : -2147483647 ≤ n) (h2 : n ≤ 2147483647) (h3 : -2147483647 ≤ m) (h4 : m ≤ 2147483647) (w : World) : Calls Try.prog 20 #[.int .u8 157, .int .i64 n, .int .i64 m] w fun e w' => e = .returned (.tuple #[.int .i64 (tv (n == m)), .int .i64 0]) ∧ w = w' := by
  have q1 := eql60
  have q2 := eql60n
  have q3 := eql63
  have q4 := eql63n
  have a := fits35_yes n h1 h2
  have b := fits35_yes m h3 h4
  have A := Lib.hid a
  have B := Lib.hid b
  clear a b
  go_enter Try.func20, Try.ntmps20
  go_wp2_with (first | (go_at_call 37; refine (ofTwo_157 _).mono ?_; rintro e w' ⟨rfl, rfl⟩) | ((with_reducible refine (Calls.mono (A.out _) ?_)); rintro e w' ⟨rfl, rfl⟩) | ((with_reducible refine (Calls.mono (B.out _) ?_)); rintro e w' ⟨rfl, rfl⟩) | (go_at_call 50; refine (eq50 _ _ _).mono ?_; rintro e w' ⟨rfl, rfl⟩))
  go_ret2
  exact ⟨rfl, rfl⟩

theorem two_158 (n m : Int) (h1 : -2147483647 ≤ n) (h2 : n ≤ 2147483647) (h3 : -2147483647 ≤ m) (h4 : m ≤ 2147483647) (w : World) : Calls Try.prog 20 #[.int .u8 158, .int .i64 n, .int .i64 m] w fun e w' => e = .returned (.tuple #[.int .i64 (tv (n != m)), .int .i64 0]) ∧ w = w' := by
  have q1 := eql60
  have q2 := eql60n
  have q3 := eql63
  have q4 := eql63n
  have a := fits35_yes n h1 h2
  have b := fits35_yes m h3 h4
  have A := Lib.hid a
  have B := Lib.hid b
  clear a b
  go_enter Try.func20, Try.ntmps20
  go_wp2_with (first | (go_at_call 37; refine (ofTwo_158 _).mono ?_; rintro e w' ⟨rfl, rfl⟩) | ((with_reducible refine (Calls.mono (A.out _) ?_)); rintro e w' ⟨rfl, rfl⟩) | ((with_reducible refine (Calls.mono (B.out _) ?_)); rintro e w' ⟨rfl, rfl⟩) | (go_at_call 51; refine (ne51 _ _ _).mono ?_; rintro e w' ⟨rfl, rfl⟩))
  go_ret2
  exact ⟨rfl, rfl⟩

theorem two_159 (n m : Int) (h1 : -2147483647 ≤ n) (h2 : n ≤ 2147483647) (h3 : -2147483647 ≤ m) (h4 : m ≤ 2147483647) (w : World) : Calls Try.prog 20 #[.int .u8 159, .int .i64 n, .int .i64 m] w fun e w' => e = .returned (.tuple #[.int .i64 (tv (decide (n < m))), .int .i64 0]) ∧ w = w' := by
  have q1 := eql60
  have q2 := eql60n
  have q3 := eql63
  have q4 := eql63n
  have a := fits35_yes n h1 h2
  have b := fits35_yes m h3 h4
  have A := Lib.hid a
  have B := Lib.hid b
  clear a b
  go_enter Try.func20, Try.ntmps20
  go_wp2_with (first | (go_at_call 37; refine (ofTwo_159 _).mono ?_; rintro e w' ⟨rfl, rfl⟩) | ((with_reducible refine (Calls.mono (A.out _) ?_)); rintro e w' ⟨rfl, rfl⟩) | ((with_reducible refine (Calls.mono (B.out _) ?_)); rintro e w' ⟨rfl, rfl⟩) | (go_at_call 52; refine (lt52 _ _ _).mono ?_; rintro e w' ⟨rfl, rfl⟩))
  go_ret2
  exact ⟨rfl, rfl⟩

theorem two_160 (n m : Int) (h1 : -2147483647 ≤ n) (h2 : n ≤ 2147483647) (h3 : -2147483647 ≤ m) (h4 : m ≤ 2147483647) (w : World) : Calls Try.prog 20 #[.int .u8 160, .int .i64 n, .int .i64 m] w fun e w' => e = .returned (.tuple #[.int .i64 (tv (decide (m < n))), .int .i64 0]) ∧ w = w' := by
  have q1 := eql60
  have q2 := eql60n
  have q3 := eql63
  have q4 := eql63n
  have a := fits35_yes n h1 h2
  have b := fits35_yes m h3 h4
  have A := Lib.hid a
  have B := Lib.hid b
  clear a b
  go_enter Try.func20, Try.ntmps20
  go_wp2_with (first | (go_at_call 37; refine (ofTwo_160 _).mono ?_; rintro e w' ⟨rfl, rfl⟩) | ((with_reducible refine (Calls.mono (A.out _) ?_)); rintro e w' ⟨rfl, rfl⟩) | ((with_reducible refine (Calls.mono (B.out _) ?_)); rintro e w' ⟨rfl, rfl⟩) | (go_at_call 53; refine (gt53 _ _ _).mono ?_; rintro e w' ⟨rfl, rfl⟩))
  go_ret2
  exact ⟨rfl, rfl⟩

theorem two_161 (n m : Int) (h1 : -2147483647 ≤ n) (h2 : n ≤ 2147483647) (h3 : -2147483647 ≤ m) (h4 : m ≤ 2147483647) (w : World) : Calls Try.prog 20 #[.int .u8 161, .int .i64 n, .int .i64 m] w fun e w' => e = .returned (.tuple #[.int .i64 (tv (decide (n ≤ m))), .int .i64 0]) ∧ w = w' := by
  have q1 := eql60
  have q2 := eql60n
  have q3 := eql63
  have q4 := eql63n
  have a := fits35_yes n h1 h2
  have b := fits35_yes m h3 h4
  have A := Lib.hid a
  have B := Lib.hid b
  clear a b
  go_enter Try.func20, Try.ntmps20
  go_wp2_with (first | (go_at_call 37; refine (ofTwo_161 _).mono ?_; rintro e w' ⟨rfl, rfl⟩) | ((with_reducible refine (Calls.mono (A.out _) ?_)); rintro e w' ⟨rfl, rfl⟩) | ((with_reducible refine (Calls.mono (B.out _) ?_)); rintro e w' ⟨rfl, rfl⟩) | (go_at_call 54; refine (le54 _ _ _).mono ?_; rintro e w' ⟨rfl, rfl⟩))
  go_ret2
  exact ⟨rfl, rfl⟩

theorem two_162 (n m : Int) (h1 : -2147483647 ≤ n) (h2 : n ≤ 2147483647) (h3 : -2147483647 ≤ m) (h4 : m ≤ 2147483647) (w : World) : Calls Try.prog 20 #[.int .u8 162, .int .i64 n, .int .i64 m] w fun e w' => e = .returned (.tuple #[.int .i64 (tv (decide (m ≤ n))), .int .i64 0]) ∧ w = w' := by
  have q1 := eql60
  have q2 := eql60n
  have q3 := eql63
  have q4 := eql63n
  have a := fits35_yes n h1 h2
  have b := fits35_yes m h3 h4
  have A := Lib.hid a
  have B := Lib.hid b
  clear a b
  go_enter Try.func20, Try.ntmps20
  go_wp2_with (first | (go_at_call 37; refine (ofTwo_162 _).mono ?_; rintro e w' ⟨rfl, rfl⟩) | ((with_reducible refine (Calls.mono (A.out _) ?_)); rintro e w' ⟨rfl, rfl⟩) | ((with_reducible refine (Calls.mono (B.out _) ?_)); rintro e w' ⟨rfl, rfl⟩) | (go_at_call 55; refine (ge55 _ _ _).mono ?_; rintro e w' ⟨rfl, rfl⟩))
  go_ret2
  exact ⟨rfl, rfl⟩

theorem two_163 (n m : Int) (h1 : -2147483647 ≤ n) (h2 : n ≤ 2147483647) (h3 : -2147483647 ≤ m) (h4 : m ≤ 2147483647) (w : World) : Calls Try.prog 20 #[.int .u8 163, .int .i64 n, .int .i64 m] w fun e w' => e = .returned (.tuple #[.int .i64 (min n m), .int .i64 0]) ∧ w = w' := by
  have q1 := eql60
  have q2 := eql60n
  have q3 := eql63
  have q4 := eql63n
  have a := fits35_yes n h1 h2
  have b := fits35_yes m h3 h4
  have A := Lib.hid a
  have B := Lib.hid b
  clear a b
  go_enter Try.func20, Try.ntmps20
  go_wp2_with (first | (go_at_call 37; refine (ofTwo_163 _).mono ?_; rintro e w' ⟨rfl, rfl⟩) | ((with_reducible refine (Calls.mono (A.out _) ?_)); rintro e w' ⟨rfl, rfl⟩) | ((with_reducible refine (Calls.mono (B.out _) ?_)); rintro e w' ⟨rfl, rfl⟩) | (go_at_call 56; refine (lower56 _ _ _).mono ?_; rintro e w' ⟨rfl, rfl⟩))
  go_ret2
  exact ⟨rfl, rfl⟩

theorem two_164 (n m : Int) (h1 : -2147483647 ≤ n) (h2 : n ≤ 2147483647) (h3 : -2147483647 ≤ m) (h4 : m ≤ 2147483647) (w : World) : Calls Try.prog 20 #[.int .u8 164, .int .i64 n, .int .i64 m] w fun e w' => e = .returned (.tuple #[.int .i64 (max n m), .int .i64 0]) ∧ w = w' := by
  have q1 := eql60
  have q2 := eql60n
  have q3 := eql63
  have q4 := eql63n
  have a := fits35_yes n h1 h2
  have b := fits35_yes m h3 h4
  have A := Lib.hid a
  have B := Lib.hid b
  clear a b
  go_enter Try.func20, Try.ntmps20
  go_wp2_with (first | (go_at_call 37; refine (ofTwo_164 _).mono ?_; rintro e w' ⟨rfl, rfl⟩) | ((with_reducible refine (Calls.mono (A.out _) ?_)); rintro e w' ⟨rfl, rfl⟩) | ((with_reducible refine (Calls.mono (B.out _) ?_)); rintro e w' ⟨rfl, rfl⟩) | (go_at_call 57; refine (higher57 _ _ _).mono ?_; rintro e w' ⟨rfl, rfl⟩))
  go_ret2
  exact ⟨rfl, rfl⟩
end Go.Proofs.Ytbhopgklnddelaa
