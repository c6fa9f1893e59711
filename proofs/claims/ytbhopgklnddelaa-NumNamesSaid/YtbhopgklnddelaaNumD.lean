/- num.Two and purserref11.Two. No condition. -/
import Derived.Test.YtbhopgklnddelaaNumC
namespace Go.Proofs.Ytbhopgklnddelaa
open Go.RowKit Go.Lib


theorem two_147_no (n m : Int) (h : (n < -2147483647 ∨ 2147483647 < n) ∨ (m < -2147483647 ∨ 2147483647 < m)) (w : World) : Calls Try.prog 20 #[.int .u8 147, .int .i64 n, .int .i64 m] w fun e w' => e = .returned (.tuple #[.int .i64 0, .int .i64 110]) ∧ w = w' := by
  have q1 := eql60
  have q2 := eql60n
  have q3 := eql63
  have q4 := eql63n
  by_cases hn : -2147483647 ≤ n ∧ n ≤ 2147483647
  · have a := fits35_yes n hn.1 hn.2
    have b := fits35_no m (by omega)
    have A := Lib.hid a
    have B := Lib.hid b
    clear a b h hn
    go_enter Try.func20, Try.ntmps20
    go_wp2_with (first | (go_at_call 37; refine (ofTwo_147 _).mono ?_; rintro e w' ⟨rfl, rfl⟩) | ((with_reducible refine (Calls.mono (A.out _) ?_)); rintro e w' ⟨rfl, rfl⟩) | ((with_reducible refine (Calls.mono (B.out _) ?_)); rintro e w' ⟨rfl, rfl⟩))
    go_ret2
    exact ⟨rfl, rfl⟩
  · have a := fits35_no n (by omega)
    by_cases hm : -2147483647 ≤ m ∧ m ≤ 2147483647
    · have b := fits35_yes m hm.1 hm.2
      have A := Lib.hid a
      have B := Lib.hid b
      clear a b h hn hm
      go_enter Try.func20, Try.ntmps20
      go_wp2_with (first | (go_at_call 37; refine (ofTwo_147 _).mono ?_; rintro e w' ⟨rfl, rfl⟩) | ((with_reducible refine (Calls.mono (A.out _) ?_)); rintro e w' ⟨rfl, rfl⟩) | ((with_reducible refine (Calls.mono (B.out _) ?_)); rintro e w' ⟨rfl, rfl⟩))
      go_ret2
      exact ⟨rfl, rfl⟩
    · have b := fits35_no m (by omega)
      have A := Lib.hid a
      have B := Lib.hid b
      clear a b h hn hm
      go_enter Try.func20, Try.ntmps20
      go_wp2_with (first | (go_at_call 37; refine (ofTwo_147 _).mono ?_; rintro e w' ⟨rfl, rfl⟩) | ((with_reducible refine (Calls.mono (A.out _) ?_)); rintro e w' ⟨rfl, rfl⟩) | ((with_reducible refine (Calls.mono (B.out _) ?_)); rintro e w' ⟨rfl, rfl⟩))
      go_ret2
      exact ⟨rfl, rfl⟩

theorem refTwo_147_no (n m : Int) (h : (n < -2147483647 ∨ 2147483647 < n) ∨ (m < -2147483647 ∨ 2147483647 < m)) (w : World) : Calls Try.prog 21 #[.int .u8 147, .int .i64 n, .int .i64 m] w fun e w' => e = .returned (.tuple #[.int .i64 0, .int .i64 110]) ∧ w = w' := by
  by_cases hn : -2147483647 ≤ n ∧ n ≤ 2147483647
  · have a := fits36_yes n hn.1 hn.2
    have b := fits36_no m (by omega)
    have A := Lib.hid a
    have B := Lib.hid b
    clear a b h hn
    go_enter Try.func21, Try.ntmps21
    go_wp2_with (first | (go_at_call 25; refine (refArity_147 _).mono ?_; rintro e w' ⟨rfl, rfl⟩) | ((with_reducible refine (Calls.mono (A.out _) ?_)); rintro e w' ⟨rfl, rfl⟩) | ((with_reducible refine (Calls.mono (B.out _) ?_)); rintro e w' ⟨rfl, rfl⟩))
    go_ret2
    exact ⟨rfl, rfl⟩
  · have a := fits36_no n (by omega)
    by_cases hm : -2147483647 ≤ m ∧ m ≤ 2147483647
    · have b := fits36_yes m hm.1 hm.2
      have A := Lib.hid a
      have B := Lib.hid b
      clear a b h hn hm
      go_enter Try.func21, Try.ntmps21
      go_wp2_with (first | (go_at_call 25; refine (refArity_147 _).mono ?_; rintro e w' ⟨rfl, rfl⟩) | ((with_reducible refine (Calls.mono (A.out _) ?_)); rintro e w' ⟨rfl, rfl⟩) | ((with_reducible refine (Calls.mono (B.out _) ?_)); rintro e w' ⟨rfl, rfl⟩))
      go_ret2
      exact ⟨rfl, rfl⟩
    · have b := fits36_no m (by omega)
      have A := Lib.hid a
      have B := Lib.hid b
      clear a b h hn hm
      go_enter Try.func21, Try.ntmps21
      go_wp2_with (first | (go_at_call 25; refine (refArity_147 _).mono ?_; rintro e w' ⟨rfl, rfl⟩) | ((with_reducible refine (Calls.mono (A.out _) ?_)); rintro e w' ⟨rfl, rfl⟩) | ((with_reducible refine (Calls.mono (B.out _) ?_)); rintro e w' ⟨rfl, rfl⟩))
      go_ret2
      exact ⟨rfl, rfl⟩

theorem refTwo_147 (n m : Int) (h1 : -2147483647 ≤ n) (h2 : n ≤ 2147483647) (h3 : -2147483647 ≤ m) (h4 : m ≤ 2147483647) (w : World) : Calls Try.prog 21 #[.int .u8 147, .int .i64 n, .int .i64 m] w fun e w' => e = .returned (.tuple #[.int .i64 (n + m), .int .i64 0]) ∧ w = w' := by
  have a := fits36_yes n h1 h2
  have b := fits36_yes m h3 h4
  have A := Lib.hid a
  have B := Lib.hid b
  clear a b
  go_enter Try.func21, Try.ntmps21
  go_wp2_with (first | (go_at_call 25; refine (refArity_147 _).mono ?_; rintro e w' ⟨rfl, rfl⟩) | ((with_reducible refine (Calls.mono (A.out _) ?_)); rintro e w' ⟨rfl, rfl⟩) | ((with_reducible refine (Calls.mono (B.out _) ?_)); rintro e w' ⟨rfl, rfl⟩) | (go_at_call 33; refine (flag33 _ _).mono ?_; rintro e w' ⟨rfl, rfl⟩))
  all_goals
    go_ret2
    exact ⟨rfl, rfl⟩

theorem two_148_no (n m : Int) (h : (n < -2147483647 ∨ 2147483647 < n) ∨ (m < -2147483647 ∨ 2147483647 < m)) (w : World) : Calls Try.prog 20 #[.int .u8 148, .int .i64 n, .int .i64 m] w fun e w' => e = .returned (.tuple #[.int .i64 0, .int .i64 110]) ∧ w = w' := by
  have q1 := eql60
  have q2 := eql60n
  have q3 := eql63
  have q4 := eql63n
  by_cases hn : -2147483647 ≤ n ∧ n ≤ 2147483647
  · have a := fits35_yes n hn.1 hn.2
    have b := fits35_no m (by omega)
    have A := Lib.hid a
    have B := Lib.hid b
    clear a b h hn
    go_enter Try.func20, Try.ntmps20
    go_wp2_with (first | (go_at_call 37; refine (ofTwo_148 _).mono ?_; rintro e w' ⟨rfl, rfl⟩) | ((with_reducible refine (Calls.mono (A.out _) ?_)); rintro e w' ⟨rfl, rfl⟩) | ((with_reducible refine (Calls.mono (B.out _) ?_)); rintro e w' ⟨rfl, rfl⟩))
    go_ret2
    exact ⟨rfl, rfl⟩
  · have a := fits35_no n (by omega)
    by_cases hm : -2147483647 ≤ m ∧ m ≤ 2147483647
    · have b := fits35_yes m hm.1 hm.2
      have A := Lib.hid a
      have B := Lib.hid b
      clear a b h hn hm
      go_enter Try.func20, Try.ntmps20
      go_wp2_with (first | (go_at_call 37; refine (ofTwo_148 _).mono ?_; rintro e w' ⟨rfl, rfl⟩) | ((with_reducible refine (Calls.mono (A.out _) ?_)); rintro e w' ⟨rfl, rfl⟩) | ((with_reducible refine (Calls.mono (B.out _) ?_)); rintro e w' ⟨rfl, rfl⟩))
      go_ret2
      exact ⟨rfl, rfl⟩
    · have b := fits35_no m (by omega)
      have A := Lib.hid a
      have B := Lib.hid b
      clear a b h hn hm
      go_enter Try.func20, Try.ntmps20
      go_wp2_with (first | (go_at_call 37; refine (ofTwo_148 _).mono ?_; rintro e w' ⟨rfl, rfl⟩) | ((with_reducible refine (Calls.mono (A.out _) ?_)); rintro e w' ⟨rfl, rfl⟩) | ((with_reducible refine (Calls.mono (B.out _) ?_)); rintro e w' ⟨rfl, rfl⟩))
      go_ret2
      exact ⟨rfl, rfl⟩

theorem refTwo_148_no (n m : Int) (h : (n < -2147483647 ∨ 2147483647 < n) ∨ (m < -2147483647 ∨ 2147483647 < m)) (w : World) : Calls Try.prog 21 #[.int .u8 148, .int .i64 n, .int .i64 m] w fun e w' => e = .returned (.tuple #[.int .i64 0, .int .i64 110]) ∧ w = w' := by
  by_cases hn : -2147483647 ≤ n ∧ n ≤ 2147483647
  · have a := fits36_yes n hn.1 hn.2
    have b := fits36_no m (by omega)
    have A := Lib.hid a
    have B := Lib.hid b
    clear a b h hn
    go_enter Try.func21, Try.ntmps21
    go_wp2_with (first | (go_at_call 25; refine (refArity_148 _).mono ?_; rintro e w' ⟨rfl, rfl⟩) | ((with_reducible refine (Calls.mono (A.out _) ?_)); rintro e w' ⟨rfl, rfl⟩) | ((with_reducible refine (Calls.mono (B.out _) ?_)); rintro e w' ⟨rfl, rfl⟩))
    go_ret2
    exact ⟨rfl, rfl⟩
  · have a := fits36_no n (by omega)
    by_cases hm : -2147483647 ≤ m ∧ m ≤ 2147483647
    · have b := fits36_yes m hm.1 hm.2
      have A := Lib.hid a
      have B := Lib.hid b
      clear a b h hn hm
      go_enter Try.func21, Try.ntmps21
      go_wp2_with (first | (go_at_call 25; refine (refArity_148 _).mono ?_; rintro e w' ⟨rfl, rfl⟩) | ((with_reducible refine (Calls.mono (A.out _) ?_)); rintro e w' ⟨rfl, rfl⟩) | ((with_reducible refine (Calls.mono (B.out _) ?_)); rintro e w' ⟨rfl, rfl⟩))
      go_ret2
      exact ⟨rfl, rfl⟩
    · have b := fits36_no m (by omega)
      have A := Lib.hid a
      have B := Lib.hid b
      clear a b h hn hm
      go_enter Try.func21, Try.ntmps21
      go_wp2_with (first | (go_at_call 25; refine (refArity_148 _).mono ?_; rintro e w' ⟨rfl, rfl⟩) | ((with_reducible refine (Calls.mono (A.out _) ?_)); rintro e w' ⟨rfl, rfl⟩) | ((with_reducible refine (Calls.mono (B.out _) ?_)); rintro e w' ⟨rfl, rfl⟩))
      go_ret2
      exact ⟨rfl, rfl⟩

theorem refTwo_148 (n m : Int) (h1 : -2147483647 ≤ n) (h2 : n ≤ 2147483647) (h3 : -2147483647 ≤ m) (h4 : m ≤ 2147483647) (w : World) : Calls Try.prog 21 #[.int .u8 148, .int .i64 n, .int .i64 m] w fun e w' => e = .returned (.tuple #[.int .i64 (n - m), .int .i64 0]) ∧ w = w' := by
  have a := fits36_yes n h1 h2
  have b := fits36_yes m h3 h4
  have A := Lib.hid a
  have B := Lib.hid b
  clear a b
  go_enter Try.func21, Try.ntmps21
  go_wp2_with (first | (go_at_call 25; refine (refArity_148 _).mono ?_; rintro e w' ⟨rfl, rfl⟩) | ((with_reducible refine (Calls.mono (A.out _) ?_)); rintro e w' ⟨rfl, rfl⟩) | ((with_reducible refine (Calls.mono (B.out _) ?_)); rintro e w' ⟨rfl, rfl⟩) | (go_at_call 33; refine (flag33 _ _).mono ?_; rintro e w' ⟨rfl, rfl⟩))
  all_goals
    go_ret2
    exact ⟨rfl, rfl⟩

theorem two_154_no (n m : Int) (h : (n < -2147483647 ∨ 2147483647 < n) ∨ (m < -2147483647 ∨ 2147483647 < m)) (w : World) : Calls Try.prog 20 #[.int .u8 154, .int .i64 n, .int .i64 m] w fun e w' => e = .returned (.tuple #[.int .i64 0, .int .i64 110]) ∧ w = w' := by
  have q1 := eql60
  have q2 := eql60n
  have q3 := eql63
  have q4 := eql63n
  by_cases hn : -2147483647 ≤ n ∧ n ≤ 2147483647
  · have a := fits35_yes n hn.1 hn.2
    have b := fits35_no m (by omega)
    have A := Lib.hid a
    have B := Lib.hid b
    clear a b h hn
    go_enter Try.func20, Try.ntmps20
    go_wp2_with (first | (go_at_call 37; refine (ofTwo_154 _).mono ?_; rintro e w' ⟨rfl, rfl⟩) | ((with_reducible refine (Calls.mono (A.out _) ?_)); rintro e w' ⟨rfl, rfl⟩) | ((with_reducible refine (Calls.mono (B.out _) ?_)); rintro e w' ⟨rfl, rfl⟩))
    go_ret2
    exact ⟨rfl, rfl⟩
  · have a := fits35_no n (by omega)
    by_cases hm : -2147483647 ≤ m ∧ m ≤ 2147483647
    · have b := fits35_yes m hm.1 hm.2
      have A := Lib.hid a
      have B := Lib.hid b
      clear a b h hn hm
      go_enter Try.func20, Try.ntmps20
      go_wp2_with (first | (go_at_call 37; refine (ofTwo_154 _).mono ?_; rintro e w' ⟨rfl, rfl⟩) | ((with_reducible refine (Calls.mono (A.out _) ?_)); rintro e w' ⟨rfl, rfl⟩) | ((with_reducible refine (Calls.mono (B.out _) ?_)); rintro e w' ⟨rfl, rfl⟩))
      go_ret2
      exact ⟨rfl, rfl⟩
    · have b := fits35_no m (by omega)
      have A := Lib.hid a
      have B := Lib.hid b
      clear a b h hn hm
      go_enter Try.func20, Try.ntmps20
      go_wp2_with (first | (go_at_call 37; refine (ofTwo_154 _).mono ?_; rintro e w' ⟨rfl, rfl⟩) | ((with_reducible refine (Calls.mono (A.out _) ?_)); rintro e w' ⟨rfl, rfl⟩) | ((with_reducible refine (Calls.mono (B.out _) ?_)); rintro e w' ⟨rfl, rfl⟩))
      go_ret2
      exact ⟨rfl, rfl⟩

theorem refTwo_154_no (n m : Int) (h : (n < -2147483647 ∨ 2147483647 < n) ∨ (m < -2147483647 ∨ 2147483647 < m)) (w : World) : Calls Try.prog 21 #[.int .u8 154, .int .i64 n, .int .i64 m] w fun e w' => e = .returned (.tuple #[.int .i64 0, .int .i64 110]) ∧ w = w' := by
  by_cases hn : -2147483647 ≤ n ∧ n ≤ 2147483647
  · have a := fits36_yes n hn.1 hn.2
    have b := fits36_no m (by omega)
    have A := Lib.hid a
    have B := Lib.hid b
    clear a b h hn
    go_enter Try.func21, Try.ntmps21
    go_wp2_with (first | (go_at_call 25; refine (refArity_154 _).mono ?_; rintro e w' ⟨rfl, rfl⟩) | ((with_reducible refine (Calls.mono (A.out _) ?_)); rintro e w' ⟨rfl, rfl⟩) | ((with_reducible refine (Calls.mono (B.out _) ?_)); rintro e w' ⟨rfl, rfl⟩))
    go_ret2
    exact ⟨rfl, rfl⟩
  · have a := fits36_no n (by omega)
    by_cases hm : -2147483647 ≤ m ∧ m ≤ 2147483647
    · have b := fits36_yes m hm.1 hm.2
      have A := Lib.hid a
      have B := Lib.hid b
      clear a b h hn hm
      go_enter Try.func21, Try.ntmps21
      go_wp2_with (first | (go_at_call 25; refine (refArity_154 _).mono ?_; rintro e w' ⟨rfl, rfl⟩) | ((with_reducible refine (Calls.mono (A.out _) ?_)); rintro e w' ⟨rfl, rfl⟩) | ((with_reducible refine (Calls.mono (B.out _) ?_)); rintro e w' ⟨rfl, rfl⟩))
      go_ret2
      exact ⟨rfl, rfl⟩
    · have b := fits36_no m (by omega)
      have A := Lib.hid a
      have B := Lib.hid b
      clear a b h hn hm
      go_enter Try.func21, Try.ntmps21
      go_wp2_with (first | (go_at_call 25; refine (refArity_154 _).mono ?_; rintro e w' ⟨rfl, rfl⟩) | ((with_reducible refine (Calls.mono (A.out _) ?_)); rintro e w' ⟨rfl, rfl⟩) | ((with_reducible refine (Calls.mono (B.out _) ?_)); rintro e w' ⟨rfl, rfl⟩))
      go_ret2
      exact ⟨rfl, rfl⟩

theorem refTwo_154 (n m : Int) (h1 : -2147483647 ≤ n) (h2 : n ≤ 2147483647) (h3 : -2147483647 ≤ m) (h4 : m ≤ 2147483647) (w : World) : Calls Try.prog 21 #[.int .u8 154, .int .i64 n, .int .i64 m] w fun e w' => e = .returned (.tuple #[.int .i64 (tv (n != 0 && m != 0)), .int .i64 0]) ∧ w = w' := by
  have a := fits36_yes n h1 h2
  have b := fits36_yes m h3 h4
  have A := Lib.hid a
  have B := Lib.hid b
  clear a b
  by_cases a : n = 0 <;> by_cases b : m = 0
  · subst a
    subst b
    go_enter Try.func21, Try.ntmps21
    go_wp2_with (first | (go_at_call 25; refine (refArity_154 _).mono ?_; rintro e w' ⟨rfl, rfl⟩) | ((with_reducible refine (Calls.mono (A.out _) ?_)); rintro e w' ⟨rfl, rfl⟩) | ((with_reducible refine (Calls.mono (B.out _) ?_)); rintro e w' ⟨rfl, rfl⟩) | (go_at_call 33; refine (flag33 _ _).mono ?_; rintro e w' ⟨rfl, rfl⟩))
    go_ret2
    exact ⟨by simp [], rfl⟩
  · subst a
    have b1 : (m == 0) = false := by simpa using b
    have b2 : (m != 0) = true := by simpa using b
    clear b
    go_enter Try.func21, Try.ntmps21
    go_wp2_with (first | (go_at_call 25; refine (refArity_154 _).mono ?_; rintro e w' ⟨rfl, rfl⟩) | ((with_reducible refine (Calls.mono (A.out _) ?_)); rintro e w' ⟨rfl, rfl⟩) | ((with_reducible refine (Calls.mono (B.out _) ?_)); rintro e w' ⟨rfl, rfl⟩) | (go_at_call 33; refine (flag33 _ _).mono ?_; rintro e w' ⟨rfl, rfl⟩))
    go_ret2
    exact ⟨by simp [b2], rfl⟩
  · have a1 : (n == 0) = false := by simpa using a
    have a2 : (n != 0) = true := by simpa using a
    clear a
    subst b
    go_enter Try.func21, Try.ntmps21
    go_wp2_with (first | (go_at_call 25; refine (refArity_154 _).mono ?_; rintro e w' ⟨rfl, rfl⟩) | ((with_reducible refine (Calls.mono (A.out _) ?_)); rintro e w' ⟨rfl, rfl⟩) | ((with_reducible refine (Calls.mono (B.out _) ?_)); rintro e w' ⟨rfl, rfl⟩) | (go_at_call 33; refine (flag33 _ _).mono ?_; rintro e w' ⟨rfl, rfl⟩))
    go_ret2
    exact ⟨by simp [a2], rfl⟩
  · have a1 : (n == 0) = false := by simpa using a
    have a2 : (n != 0) = true := by simpa using a
    clear a
    have b1 : (m == 0) = false := by simpa using b
    have b2 : (m != 0) = true := by simpa using b
    clear b
    go_enter Try.func21, Try.ntmps21
    go_wp2_with (first | (go_at_call 25; refine (refArity_154 _).mono ?_; rintro e w' ⟨rfl, rfl⟩) | ((with_reducible refine (Calls.mono (A.out _) ?_)); rintro e w' ⟨rfl, rfl⟩) | ((with_reducible refine (Calls.mono (B.out _) ?_)); rintro e w' ⟨rfl, rfl⟩) | (go_at_call 33; refine (flag33 _ _).mono ?_; rintro e w' ⟨rfl, rfl⟩))
    go_ret2
    exact ⟨by simp [a2, b2], rfl⟩

theorem two_155_no (n m : Int) (h : (n < -2147483647 ∨ 2147483647 < n) ∨ (m < -2147483647 ∨ 2147483647 < m)) (w : World) : Calls Try.prog 20 #[.int .u8 155, .int .i64 n, .int .i64 m] w fun e w' => e = .returned (.tuple #[.int .i64 0, .int .i64 110]) ∧ w = w' := by
  have q1 := eql60
  have q2 := eql60n
  have q3 := eql63
  have q4 := eql63n
  by_cases hn : -2147483647 ≤ n ∧ n ≤ 2147483647
  · have a := fits35_yes n hn.1 hn.2
    have b := fits35_no m (by omega)
    have A := Lib.hid a
    have B := Lib.hid b
    clear a b h hn
    go_enter Try.func20, Try.ntmps20
    go_wp2_with (first | (go_at_call 37; refine (ofTwo_155 _).mono ?_; rintro e w' ⟨rfl, rfl⟩) | ((with_reducible refine (Calls.mono (A.out _) ?_)); rintro e w' ⟨rfl, rfl⟩) | ((with_reducible refine (Calls.mono (B.out _) ?_)); rintro e w' ⟨rfl, rfl⟩))
    go_ret2
    exact ⟨rfl, rfl⟩
  · have a := fits35_no n (by omega)
    by_cases hm : -2147483647 ≤ m ∧ m ≤ 2147483647
    · have b := fits35_yes m hm.1 hm.2
      have A := Lib.hid a
      have B := Lib.hid b
      clear a b h hn hm
      go_enter Try.func20, Try.ntmps20
      go_wp2_with (first | (go_at_call 37; refine (ofTwo_155 _).mono ?_; rintro e w' ⟨rfl, rfl⟩) | ((with_reducible refine (Calls.mono (A.out _) ?_)); rintro e w' ⟨rfl, rfl⟩) | ((with_reducible refine (Calls.mono (B.out _) ?_)); rintro e w' ⟨rfl, rfl⟩))
      go_ret2
      exact ⟨rfl, rfl⟩
    · have b := fits35_no m (by omega)
      have A := Lib.hid a
      have B := Lib.hid b
      clear a b h hn hm
      go_enter Try.func20, Try.ntmps20
      go_wp2_with (first | (go_at_call 37; refine (ofTwo_155 _).mono ?_; rintro e w' ⟨rfl, rfl⟩) | ((with_reducible refine (Calls.mono (A.out _) ?_)); rintro e w' ⟨rfl, rfl⟩) | ((with_reducible refine (Calls.mono (B.out _) ?_)); rintro e w' ⟨rfl, rfl⟩))
      go_ret2
      exact ⟨rfl, rfl⟩

theorem refTwo_155_no (n m : Int) (h : (n < -2147483647 ∨ 2147483647 < n) ∨ (m < -2147483647 ∨ 2147483647 < m)) (w : World) : Calls Try.prog 21 #[.int .u8 155, .int .i64 n, .int .i64 m] w fun e w' => e = .returned (.tuple #[.int .i64 0, .int .i64 110]) ∧ w = w' := by
  by_cases hn : -2147483647 ≤ n ∧ n ≤ 2147483647
  · have a := fits36_yes n hn.1 hn.2
    have b := fits36_no m (by omega)
    have A := Lib.hid a
    have B := Lib.hid b
    clear a b h hn
    go_enter Try.func21, Try.ntmps21
    go_wp2_with (first | (go_at_call 25; refine (refArity_155 _).mono ?_; rintro e w' ⟨rfl, rfl⟩) | ((with_reducible refine (Calls.mono (A.out _) ?_)); rintro e w' ⟨rfl, rfl⟩) | ((with_reducible refine (Calls.mono (B.out _) ?_)); rintro e w' ⟨rfl, rfl⟩))
    go_ret2
    exact ⟨rfl, rfl⟩
  · have a := fits36_no n (by omega)
    by_cases hm : -2147483647 ≤ m ∧ m ≤ 2147483647
    · have b := fits36_yes m hm.1 hm.2
      have A := Lib.hid a
      have B := Lib.hid b
      clear a b h hn hm
      go_enter Try.func21, Try.ntmps21
      go_wp2_with (first | (go_at_call 25; refine (refArity_155 _).mono ?_; rintro e w' ⟨rfl, rfl⟩) | ((with_reducible refine (Calls.mono (A.out _) ?_)); rintro e w' ⟨rfl, rfl⟩) | ((with_reducible refine (Calls.mono (B.out _) ?_)); rintro e w' ⟨rfl, rfl⟩))
      go_ret2
      exact ⟨rfl, rfl⟩
    · have b := fits36_no m (by omega)
      have A := Lib.hid a
      have B := Lib.hid b
      clear a b h hn hm
      go_enter Try.func21, Try.ntmps21
      go_wp2_with (first | (go_at_call 25; refine (refArity_155 _).mono ?_; rintro e w' ⟨rfl, rfl⟩) | ((with_reducible refine (Calls.mono (A.out _) ?_)); rintro e w' ⟨rfl, rfl⟩) | ((with_reducible refine (Calls.mono (B.out _) ?_)); rintro e w' ⟨rfl, rfl⟩))
      go_ret2
      exact ⟨rfl, rfl⟩

theorem refTwo_155 (n m : Int) (h1 : -2147483647 ≤ n) (h2 : n ≤ 2147483647) (h3 : -2147483647 ≤ m) (h4 : m ≤ 2147483647) (w : World) : Calls Try.prog 21 #[.int .u8 155, .int .i64 n, .int .i64 m] w fun e w' => e = .returned (.tuple #[.int .i64 (tv (n != 0 || m != 0)), .int .i64 0]) ∧ w = w' := by
  have a := fits36_yes n h1 h2
  have b := fits36_yes m h3 h4
  have A := Lib.hid a
  have B := Lib.hid b
  clear a b
  by_cases a : n = 0 <;> by_cases b : m = 0
  · subst a
    subst b
    go_enter Try.func21, Try.ntmps21
    go_wp2_with (first | (go_at_call 25; refine (refArity_155 _).mono ?_; rintro e w' ⟨rfl, rfl⟩) | ((with_reducible refine (Calls.mono (A.out _) ?_)); rintro e w' ⟨rfl, rfl⟩) | ((with_reducible refine (Calls.mono (B.out _) ?_)); rintro e w' ⟨rfl, rfl⟩) | (go_at_call 33; refine (flag33 _ _).mono ?_; rintro e w' ⟨rfl, rfl⟩))
    go_ret2
    exact ⟨by simp [], rfl⟩
  · subst a
    have b1 : (m == 0) = false := by simpa using b
    have b2 : (m != 0) = true := by simpa using b
    clear b
    go_enter Try.func21, Try.ntmps21
    go_wp2_with (first | (go_at_call 25; refine (refArity_155 _).mono ?_; rintro e w' ⟨rfl, rfl⟩) | ((with_reducible refine (Calls.mono (A.out _) ?_)); rintro e w' ⟨rfl, rfl⟩) | ((with_reducible refine (Calls.mono (B.out _) ?_)); rintro e w' ⟨rfl, rfl⟩) | (go_at_call 33; refine (flag33 _ _).mono ?_; rintro e w' ⟨rfl, rfl⟩))
    go_ret2
    exact ⟨by simp [b2], rfl⟩
  · have a1 : (n == 0) = false := by simpa using a
    have a2 : (n != 0) = true := by simpa using a
    clear a
    subst b
    go_enter Try.func21, Try.ntmps21
    go_wp2_with (first | (go_at_call 25; refine (refArity_155 _).mono ?_; rintro e w' ⟨rfl, rfl⟩) | ((with_reducible refine (Calls.mono (A.out _) ?_)); rintro e w' ⟨rfl, rfl⟩) | ((with_reducible refine (Calls.mono (B.out _) ?_)); rintro e w' ⟨rfl, rfl⟩) | (go_at_call 33; refine (flag33 _ _).mono ?_; rintro e w' ⟨rfl, rfl⟩))
    go_ret2
    exact ⟨by simp [a2], rfl⟩
  · have a1 : (n == 0) = false := by simpa using a
    have a2 : (n != 0) = true := by simpa using a
    clear a
    have b1 : (m == 0) = false := by simpa using b
    have b2 : (m != 0) = true := by simpa using b
    clear b
    go_enter Try.func21, Try.ntmps21
    go_wp2_with (first | (go_at_call 25; refine (refArity_155 _).mono ?_; rintro e w' ⟨rfl, rfl⟩) | ((with_reducible refine (Calls.mono (A.out _) ?_)); rintro e w' ⟨rfl, rfl⟩) | ((with_reducible refine (Calls.mono (B.out _) ?_)); rintro e w' ⟨rfl, rfl⟩) | (go_at_call 33; refine (flag33 _ _).mono ?_; rintro e w' ⟨rfl, rfl⟩))
    go_ret2
    exact ⟨by simp [a2, b2], rfl⟩

theorem two_156_no (n m : Int) (h : (n < -2147483647 ∨ 2147483647 < n) ∨ (m < -2147483647 ∨ 2147483647 < m)) (w : World) : Calls Try.prog 20 #[.int .u8 156, .int .i64 n, .int .i64 m] w fun e w' => e = .returned (.tuple #[.int .i64 0, .int .i64 110]) ∧ w = w' := by
  have q1 := eql60
  have q2 := eql60n
  have q3 := eql63
  have q4 := eql63n
  by_cases hn : -2147483647 ≤ n ∧ n ≤ 2147483647
  · have a := fits35_yes n hn.1 hn.2
    have b := fits35_no m (by omega)
    have A := Lib.hid a
    have B := Lib.hid b
    clear a b h hn
    go_enter Try.func20, Try.ntmps20
    go_wp2_with (first | (go_at_call 37; refine (ofTwo_156 _).mono ?_; rintro e w' ⟨rfl, rfl⟩) | ((with_reducible refine (Calls.mono (A.out _) ?_)); rintro e w' ⟨rfl, rfl⟩) | ((with_reducible refine (Calls.mono (B.out _) ?_)); rintro e w' ⟨rfl, rfl⟩))
    go_ret2
    exact ⟨rfl, rfl⟩
  · have a := fits35_no n (by omega)
    by_cases hm : -2147483647 ≤ m ∧ m ≤ 2147483647
    · have b := fits35_yes m hm.1 hm.2
      have A := Lib.hid a
      have B := Lib.hid b
      clear a b h hn hm
      go_enter Try.func20, Try.ntmps20
      go_wp2_with (first | (go_at_call 37; refine (ofTwo_156 _).mono ?_; rintro e w' ⟨rfl, rfl⟩) | ((with_reducible refine (Calls.mono (A.out _) ?_)); rintro e w' ⟨rfl, rfl⟩) | ((with_reducible refine (Calls.mono (B.out _) ?_)); rintro e w' ⟨rfl, rfl⟩))
      go_ret2
      exact ⟨rfl, rfl⟩
    · have b := fits35_no m (by omega)
      have A := Lib.hid a
      have B := Lib.hid b
      clear a b h hn hm
      go_enter Try.func20, Try.ntmps20
      go_wp2_with (first | (go_at_call 37; refine (ofTwo_156 _).mono ?_; rintro e w' ⟨rfl, rfl⟩) | ((with_reducible refine (Calls.mono (A.out _) ?_)); rintro e w' ⟨rfl, rfl⟩) | ((with_reducible refine (Calls.mono (B.out _) ?_)); rintro e w' ⟨rfl, rfl⟩))
      go_ret2
      exact ⟨rfl, rfl⟩

theorem refTwo_156_no (n m : Int) (h : (n < -2147483647 ∨ 2147483647 < n) ∨ (m < -2147483647 ∨ 2147483647 < m)) (w : World) : Calls Try.prog 21 #[.int .u8 156, .int .i64 n, .int .i64 m] w fun e w' => e = .returned (.tuple #[.int .i64 0, .int .i64 110]) ∧ w = w' := by
  by_cases hn : -2147483647 ≤ n ∧ n ≤ 2147483647
  · have a := fits36_yes n hn.1 hn.2
    have b := fits36_no m (by omega)
    have A := Lib.hid a
    have B := Lib.hid b
    clear a b h hn
    go_enter Try.func21, Try.ntmps21
    go_wp2_with (first | (go_at_call 25; refine (refArity_156 _).mono ?_; rintro e w' ⟨rfl, rfl⟩) | ((with_reducible refine (Calls.mono (A.out _) ?_)); rintro e w' ⟨rfl, rfl⟩) | ((with_reducible refine (Calls.mono (B.out _) ?_)); rintro e w' ⟨rfl, rfl⟩))
    go_ret2
    exact ⟨rfl, rfl⟩
  · have a := fits36_no n (by omega)
    by_cases hm : -2147483647 ≤ m ∧ m ≤ 2147483647
    · have b := fits36_yes m hm.1 hm.2
      have A := Lib.hid a
      have B := Lib.hid b
      clear a b h hn hm
      go_enter Try.func21, Try.ntmps21
      go_wp2_with (first | (go_at_call 25; refine (refArity_156 _).mono ?_; rintro e w' ⟨rfl, rfl⟩) | ((with_reducible refine (Calls.mono (A.out _) ?_)); rintro e w' ⟨rfl, rfl⟩) | ((with_reducible refine (Calls.mono (B.out _) ?_)); rintro e w' ⟨rfl, rfl⟩))
      go_ret2
      exact ⟨rfl, rfl⟩
    · have b := fits36_no m (by omega)
      have A := Lib.hid a
      have B := Lib.hid b
      clear a b h hn hm
      go_enter Try.func21, Try.ntmps21
      go_wp2_with (first | (go_at_call 25; refine (refArity_156 _).mono ?_; rintro e w' ⟨rfl, rfl⟩) | ((with_reducible refine (Calls.mono (A.out _) ?_)); rintro e w' ⟨rfl, rfl⟩) | ((with_reducible refine (Calls.mono (B.out _) ?_)); rintro e w' ⟨rfl, rfl⟩))
      go_ret2
      exact ⟨rfl, rfl⟩

theorem refTwo_156 (n m : Int) (h1 : -2147483647 ≤ n) (h2 : n ≤ 2147483647) (h3 : -2147483647 ≤ m) (h4 : m ≤ 2147483647) (w : World) : Calls Try.prog 21 #[.int .u8 156, .int .i64 n, .int .i64 m] w fun e w' => e = .returned (.tuple #[.int .i64 (tv (n == m)), .int .i64 0]) ∧ w = w' := by
  have a := fits36_yes n h1 h2
  have b := fits36_yes m h3 h4
  have A := Lib.hid a
  have B := Lib.hid b
  clear a b
  go_enter Try.func21, Try.ntmps21
  go_wp2_with (first | (go_at_call 25; refine (refArity_156 _).mono ?_; rintro e w' ⟨rfl, rfl⟩) | ((with_reducible refine (Calls.mono (A.out _) ?_)); rintro e w' ⟨rfl, rfl⟩) | ((with_reducible refine (Calls.mono (B.out _) ?_)); rintro e w' ⟨rfl, rfl⟩) | (go_at_call 33; refine (flag33 _ _).mono ?_; rintro e w' ⟨rfl, rfl⟩))
  all_goals
    go_ret2
    exact ⟨rfl, rfl⟩

theorem two_157_no (n m : Int) (h : (n < -2147483647 ∨ 2147483647 < n) ∨ (m < -2147483647 ∨ 2147483647 < m)) (w : World) : Calls Try.prog 20 #[.int .u8 157, .int .i64 n, .int .i64 m] w fun e w' => e = .returned (.tuple #[.int .i64 0, .int .i64 110]) ∧ w = w' := by
  have q1 := eql60
  have q2 := eql60n
  have q3 := eql63
  have q4 := eql63n
  by_cases hn : -2147483647 ≤ n ∧ n ≤ 2147483647
  · have a := fits35_yes n hn.1 hn.2
    have b := fits35_no m (by omega)
    have A := Lib.hid a
    have B := Lib.hid b
    clear a b h hn
    go_enter Try.func20, Try.ntmps20
    go_wp2_with (first | (go_at_call 37; refine (ofTwo_157 _).mono ?_; rintro e w' ⟨rfl, rfl⟩) | ((with_reducible refine (Calls.mono (A.out _) ?_)); rintro e w' ⟨rfl, rfl⟩) | ((with_reducible refine (Calls.mono (B.out _) ?_)); rintro e w' ⟨rfl, rfl⟩))
    go_ret2
    exact ⟨rfl, rfl⟩
  · have a := fits35_no n (by omega)
    by_cases hm : -2147483647 ≤ m ∧ m ≤ 2147483647
    · have b := fits35_yes m hm.1 hm.2
      have A := Lib.hid a
      have B := Lib.hid b
      clear a b h hn hm
      go_enter Try.func20, Try.ntmps20
      go_wp2_with (first | (go_at_call 37; refine (ofTwo_157 _).mono ?_; rintro e w' ⟨rfl, rfl⟩) | ((with_reducible refine (Calls.mono (A.out _) ?_)); rintro e w' ⟨rfl, rfl⟩) | ((with_reducible refine (Calls.mono (B.out _) ?_)); rintro e w' ⟨rfl, rfl⟩))
      go_ret2
      exact ⟨rfl, rfl⟩
    · have b := fits35_no m (by omega)
      have A := Lib.hid a
      have B := Lib.hid b
      clear a b h hn hm
      go_enter Try.func20, Try.ntmps20
      go_wp2_with (first | (go_at_call 37; refine (ofTwo_157 _).mono ?_; rintro e w' ⟨rfl, rfl⟩) | ((with_reducible refine (Calls.mono (A.out _) ?_)); rintro e w' ⟨rfl, rfl⟩) | ((with_reducible refine (Calls.mono (B.out _) ?_)); rintro e w' ⟨rfl, rfl⟩))
      go_ret2
      exact ⟨rfl, rfl⟩

theorem refTwo_157_no (n m : Int) (h : (n < -2147483647 ∨ 2147483647 < n) ∨ (m < -2147483647 ∨ 2147483647 < m)) (w : World) : Calls Try.prog 21 #[.int .u8 157, .int .i64 n, .int .i64 m] w fun e w' => e = .returned (.tuple #[.int .i64 0, .int .i64 110]) ∧ w = w' := by
  by_cases hn : -2147483647 ≤ n ∧ n ≤ 2147483647
  · have a := fits36_yes n hn.1 hn.2
    have b := fits36_no m (by omega)
    have A := Lib.hid a
    have B := Lib.hid b
    clear a b h hn
    go_enter Try.func21, Try.ntmps21
    go_wp2_with (first | (go_at_call 25; refine (refArity_157 _).mono ?_; rintro e w' ⟨rfl, rfl⟩) | ((with_reducible refine (Calls.mono (A.out _) ?_)); rintro e w' ⟨rfl, rfl⟩) | ((with_reducible refine (Calls.mono (B.out _) ?_)); rintro e w' ⟨rfl, rfl⟩))
    go_ret2
    exact ⟨rfl, rfl⟩
  · have a := fits36_no n (by omega)
    by_cases hm : -2147483647 ≤ m ∧ m ≤ 2147483647
    · have b := fits36_yes m hm.1 hm.2
      have A := Lib.hid a
      have B := Lib.hid b
      clear a b h hn hm
      go_enter Try.func21, Try.ntmps21
      go_wp2_with (first | (go_at_call 25; refine (refArity_157 _).mono ?_; rintro e w' ⟨rfl, rfl⟩) | ((with_reducible refine (Calls.mono (A.out _) ?_)); rintro e w' ⟨rfl, rfl⟩) | ((with_reducible refine (Calls.mono (B.out _) ?_)); rintro e w' ⟨rfl, rfl⟩))
      go_ret2
      exact ⟨rfl, rfl⟩
    · have b := fits36_no m (by omega)
      have A := Lib.hid a
      have B := Lib.hid b
      clear a b h hn hm
      go_enter Try.func21, Try.ntmps21
      go_wp2_with (first | (go_at_call 25; refine (refArity_157 _).mono ?_; rintro e w' ⟨rfl, rfl⟩) | ((with_reducible refine (Calls.mono (A.out _) ?_)); rintro e w' ⟨rfl, rfl⟩) | ((with_reducible refine (Calls.mono (B.out _) ?_)); rintro e w' ⟨rfl, rfl⟩))
      go_ret2
      exact ⟨rfl, rfl⟩

theorem refTwo_157 (n m : Int) (h1 : -2147483647 ≤ n) (h2 : n ≤ 2147483647) (h3 : -2147483647 ≤ m) (h4 : m ≤ 2147483647) (w : World) : Calls Try.prog 21 #[.int .u8 157, .int .i64 n, .int .i64 m] w fun e w' => e = .returned (.tuple #[.int .i64 (tv (n == m)), .int .i64 0]) ∧ w = w' := by
  have a := fits36_yes n h1 h2
  have b := fits36_yes m h3 h4
  have A := Lib.hid a
  have B := Lib.hid b
  clear a b
  go_enter Try.func21, Try.ntmps21
  go_wp2_with (first | (go_at_call 25; refine (refArity_157 _).mono ?_; rintro e w' ⟨rfl, rfl⟩) | ((with_reducible refine (Calls.mono (A.out _) ?_)); rintro e w' ⟨rfl, rfl⟩) | ((with_reducible refine (Calls.mono (B.out _) ?_)); rintro e w' ⟨rfl, rfl⟩) | (go_at_call 33; refine (flag33 _ _).mono ?_; rintro e w' ⟨rfl, rfl⟩))
  all_goals
    go_ret2
    exact ⟨rfl, rfl⟩

theorem two_158_no (n m : Int) (h : (n < -2147483647 ∨ 2147483647 < n) ∨ (m < -2147483647 ∨ 2147483647 < m)) (w : World) : Calls Try.prog 20 #[.int .u8 158, .int .i64 n, .int .i64 m] w fun e w' => e = .returned (.tuple #[.int .i64 0, .int .i64 110]) ∧ w = w' := by
  have q1 := eql60
  have q2 := eql60n
  have q3 := eql63
  have q4 := eql63n
  by_cases hn : -2147483647 ≤ n ∧ n ≤ 2147483647
  · have a := fits35_yes n hn.1 hn.2
    have b := fits35_no m (by omega)
    have A := Lib.hid a
    have B := Lib.hid b
    clear a b h hn
    go_enter Try.func20, Try.ntmps20
    go_wp2_with (first | (go_at_call 37; refine (ofTwo_158 _).mono ?_; rintro e w' ⟨rfl, rfl⟩) | ((with_reducible refine (Calls.mono (A.out _) ?_)); rintro e w' ⟨rfl, rfl⟩) | ((with_reducible refine (Calls.mono (B.out _) ?_)); rintro e w' ⟨rfl, rfl⟩))
    go_ret2
    exact ⟨rfl, rfl⟩
  · have a := fits35_no n (by omega)
    by_cases hm : -2147483647 ≤ m ∧ m ≤ 2147483647
    · have b := fits35_yes m hm.1 hm.2
      have A := Lib.hid a
      have B := Lib.hid b
      clear a b h hn hm
      go_enter Try.func20, Try.ntmps20
      go_wp2_with (first | (go_at_call 37; refine (ofTwo_158 _).mono ?_; rintro e w' ⟨rfl, rfl⟩) | ((with_reducible refine (Calls.mono (A.out _) ?_)); rintro e w' ⟨rfl, rfl⟩) | ((with_reducible refine (Calls.mono (B.out _) ?_)); rintro e w' ⟨rfl, rfl⟩))
      go_ret2
      exact ⟨rfl, rfl⟩
    · have b := fits35_no m (by omega)
      have A := Lib.hid a
      have B := Lib.hid b
      clear a b h hn hm
      go_enter Try.func20, Try.ntmps20
      go_wp2_with (first | (go_at_call 37; refine (ofTwo_158 _).mono ?_; rintro e w' ⟨rfl, rfl⟩) | ((with_reducible refine (Calls.mono (A.out _) ?_)); rintro e w' ⟨rfl, rfl⟩) | ((with_reducible refine (Calls.mono (B.out _) ?_)); rintro e w' ⟨rfl, rfl⟩))
      go_ret2
      exact ⟨rfl, rfl⟩

theorem refTwo_158_no (n m : Int) (h : (n < -2147483647 ∨ 2147483647 < n) ∨ (m < -2147483647 ∨ 2147483647 < m)) (w : World) : Calls Try.prog 21 #[.int .u8 158, .int .i64 n, .int .i64 m] w fun e w' => e = .returned (.tuple #[.int .i64 0, .int .i64 110]) ∧ w = w' := by
  by_cases hn : -2147483647 ≤ n ∧ n ≤ 2147483647
  · have a := fits36_yes n hn.1 hn.2
    have b := fits36_no m (by omega)
    have A := Lib.hid a
    have B := Lib.hid b
    clear a b h hn
    go_enter Try.func21, Try.ntmps21
    go_wp2_with (first | (go_at_call 25; refine (refArity_158 _).mono ?_; rintro e w' ⟨rfl, rfl⟩) | ((with_reducible refine (Calls.mono (A.out _) ?_)); rintro e w' ⟨rfl, rfl⟩) | ((with_reducible refine (Calls.mono (B.out _) ?_)); rintro e w' ⟨rfl, rfl⟩))
    go_ret2
    exact ⟨rfl, rfl⟩
  · have a := fits36_no n (by omega)
    by_cases hm : -2147483647 ≤ m ∧ m ≤ 2147483647
    · have b := fits36_yes m hm.1 hm.2
      have A := Lib.hid a
      have B := Lib.hid b
      clear a b h hn hm
      go_enter Try.func21, Try.ntmps21
      go_wp2_with (first | (go_at_call 25; refine (refArity_158 _).mono ?_; rintro e w' ⟨rfl, rfl⟩) | ((with_reducible refine (Calls.mono (A.out _) ?_)); rintro e w' ⟨rfl, rfl⟩) | ((with_reducible refine (Calls.mono (B.out _) ?_)); rintro e w' ⟨rfl, rfl⟩))
      go_ret2
      exact ⟨rfl, rfl⟩
    · have b := fits36_no m (by omega)
      have A := Lib.hid a
      have B := Lib.hid b
      clear a b h hn hm
      go_enter Try.func21, Try.ntmps21
      go_wp2_with (first | (go_at_call 25; refine (refArity_158 _).mono ?_; rintro e w' ⟨rfl, rfl⟩) | ((with_reducible refine (Calls.mono (A.out _) ?_)); rintro e w' ⟨rfl, rfl⟩) | ((with_reducible refine (Calls.mono (B.out _) ?_)); rintro e w' ⟨rfl, rfl⟩))
      go_ret2
      exact ⟨rfl, rfl⟩

theorem refTwo_158 (n m : Int) (h1 : -2147483647 ≤ n) (h2 : n ≤ 2147483647) (h3 : -2147483647 ≤ m) (h4 : m ≤ 2147483647) (w : World) : Calls Try.prog 21 #[.int .u8 158, .int .i64 n, .int .i64 m] w fun e w' => e = .returned (.tuple #[.int .i64 (tv (n != m)), .int .i64 0]) ∧ w = w' := by
  have a := fits36_yes n h1 h2
  have b := fits36_yes m h3 h4
  have A := Lib.hid a
  have B := Lib.hid b
  clear a b
  go_enter Try.func21, Try.ntmps21
  go_wp2_with (first | (go_at_call 25; refine (refArity_158 _).mono ?_; rintro e w' ⟨rfl, rfl⟩) | ((with_reducible refine (Calls.mono (A.out _) ?_)); rintro e w' ⟨rfl, rfl⟩) | ((with_reducible refine (Calls.mono (B.out _) ?_)); rintro e w' ⟨rfl, rfl⟩) | (go_at_call 33; refine (flag33 _ _).mono ?_; rintro e w' ⟨rfl, rfl⟩))
  all_goals
    go_ret2
    exact ⟨rfl, rfl⟩

theorem two_159_no (n m : Int) (h : (n < -2147483647 ∨ 2147483647 < n) ∨ (m < -2147483647 ∨ 2147483647 < m)) (w : World) : Calls Try.prog 20 #[.int .u8 159, .int .i64 n, .int .i64 m] w fun e w' => e = .returned (.tuple #[.int .i64 0, .int .i64 110]) ∧ w = w' := by
  have q1 := eql60
  have q2 := eql60n
  have q3 := eql63
  have q4 := eql63n
  by_cases hn : -2147483647 ≤ n ∧ n ≤ 2147483647
  · have a := fits35_yes n hn.1 hn.2
    have b := fits35_no m (by omega)
    have A := Lib.hid a
    have B := Lib.hid b
    clear a b h hn
    go_enter Try.func20, Try.ntmps20
    go_wp2_with (first | (go_at_call 37; refine (ofTwo_159 _).mono ?_; rintro e w' ⟨rfl, rfl⟩) | ((with_reducible refine (Calls.mono (A.out _) ?_)); rintro e w' ⟨rfl, rfl⟩) | ((with_reducible refine (Calls.mono (B.out _) ?_)); rintro e w' ⟨rfl, rfl⟩))
    go_ret2
    exact ⟨rfl, rfl⟩
  · have a := fits35_no n (by omega)
    by_cases hm : -2147483647 ≤ m ∧ m ≤ 2147483647
    · have b := fits35_yes m hm.1 hm.2
      have A := Lib.hid a
      have B := Lib.hid b
      clear a b h hn hm
      go_enter Try.func20, Try.ntmps20
      go_wp2_with (first | (go_at_call 37; refine (ofTwo_159 _).mono ?_; rintro e w' ⟨rfl, rfl⟩) | ((with_reducible refine (Calls.mono (A.out _) ?_)); rintro e w' ⟨rfl, rfl⟩) | ((with_reducible refine (Calls.mono (B.out _) ?_)); rintro e w' ⟨rfl, rfl⟩))
      go_ret2
      exact ⟨rfl, rfl⟩
    · have b := fits35_no m (by omega)
      have A := Lib.hid a
      have B := Lib.hid b
      clear a b h hn hm
      go_enter Try.func20, Try.ntmps20
      go_wp2_with (first | (go_at_call 37; refine (ofTwo_159 _).mono ?_; rintro e w' ⟨rfl, rfl⟩) | ((with_reducible refine (Calls.mono (A.out _) ?_)); rintro e w' ⟨rfl, rfl⟩) | ((with_reducible refine (Calls.mono (B.out _) ?_)); rintro e w' ⟨rfl, rfl⟩))
      go_ret2
      exact ⟨rfl, rfl⟩

theorem refTwo_159_no (n m : Int) (h : (n < -2147483647 ∨ 2147483647 < n) ∨ (m < -2147483647 ∨ 2147483647 < m)) (w : World) : Calls Try.prog 21 #[.int .u8 159, .int .i64 n, .int .i64 m] w fun e w' => e = .returned (.tuple #[.int .i64 0, .int .i64 110]) ∧ w = w' := by
  by_cases hn : -2147483647 ≤ n ∧ n ≤ 2147483647
  · have a := fits36_yes n hn.1 hn.2
    have b := fits36_no m (by omega)
    have A := Lib.hid a
    have B := Lib.hid b
    clear a b h hn
    go_enter Try.func21, Try.ntmps21
    go_wp2_with (first | (go_at_call 25; refine (refArity_159 _).mono ?_; rintro e w' ⟨rfl, rfl⟩) | ((with_reducible refine (Calls.mono (A.out _) ?_)); rintro e w' ⟨rfl, rfl⟩) | ((with_reducible refine (Calls.mono (B.out _) ?_)); rintro e w' ⟨rfl, rfl⟩))
    go_ret2
    exact ⟨rfl, rfl⟩
  · have a := fits36_no n (by omega)
    by_cases hm : -2147483647 ≤ m ∧ m ≤ 2147483647
    · have b := fits36_yes m hm.1 hm.2
      have A := Lib.hid a
      have B := Lib.hid b
      clear a b h hn hm
      go_enter Try.func21, Try.ntmps21
      go_wp2_with (first | (go_at_call 25; refine (refArity_159 _).mono ?_; rintro e w' ⟨rfl, rfl⟩) | ((with_reducible refine (Calls.mono (A.out _) ?_)); rintro e w' ⟨rfl, rfl⟩) | ((with_reducible refine (Calls.mono (B.out _) ?_)); rintro e w' ⟨rfl, rfl⟩))
      go_ret2
      exact ⟨rfl, rfl⟩
    · have b := fits36_no m (by omega)
      have A := Lib.hid a
      have B := Lib.hid b
      clear a b h hn hm
      go_enter Try.func21, Try.ntmps21
      go_wp2_with (first | (go_at_call 25; refine (refArity_159 _).mono ?_; rintro e w' ⟨rfl, rfl⟩) | ((with_reducible refine (Calls.mono (A.out _) ?_)); rintro e w' ⟨rfl, rfl⟩) | ((with_reducible refine (Calls.mono (B.out _) ?_)); rintro e w' ⟨rfl, rfl⟩))
      go_ret2
      exact ⟨rfl, rfl⟩

theorem refTwo_159 (n m : Int) (h1 : -2147483647 ≤ n) (h2 : n ≤ 2147483647) (h3 : -2147483647 ≤ m) (h4 : m ≤ 2147483647) (w : World) : Calls Try.prog 21 #[.int .u8 159, .int .i64 n, .int .i64 m] w fun e w' => e = .returned (.tuple #[.int .i64 (tv (decide (n < m))), .int .i64 0]) ∧ w = w' := by
  have a := fits36_yes n h1 h2
  have b := fits36_yes m h3 h4
  have A := Lib.hid a
  have B := Lib.hid b
  clear a b
  go_enter Try.func21, Try.ntmps21
  go_wp2_with (first | (go_at_call 25; refine (refArity_159 _).mono ?_; rintro e w' ⟨rfl, rfl⟩) | ((with_reducible refine (Calls.mono (A.out _) ?_)); rintro e w' ⟨rfl, rfl⟩) | ((with_reducible refine (Calls.mono (B.out _) ?_)); rintro e w' ⟨rfl, rfl⟩) | (go_at_call 33; refine (flag33 _ _).mono ?_; rintro e w' ⟨rfl, rfl⟩))
  all_goals
    go_ret2
    exact ⟨rfl, rfl⟩

theorem two_160_no (n m : Int) (h : (n < -2147483647 ∨ 2147483647 < n) ∨ (m < -2147483647 ∨ 2147483647 < m)) (w : World) : Calls Try.prog 20 #[.int .u8 160, .int .i64 n, .int .i64 m] w fun e w' => e = .returned (.tuple #[.int .i64 0, .int .i64 110]) ∧ w = w' := by
  have q1 := eql60
  have q2 := eql60n
  have q3 := eql63
  have q4 := eql63n
  by_cases hn : -2147483647 ≤ n ∧ n ≤ 2147483647
  · have a := fits35_yes n hn.1 hn.2
    have b := fits35_no m (by omega)
    have A := Lib.hid a
    have B := Lib.hid b
    clear a b h hn
    go_enter Try.func20, Try.ntmps20
    go_wp2_with (first | (go_at_call 37; refine (ofTwo_160 _).mono ?_; rintro e w' ⟨rfl, rfl⟩) | ((with_reducible refine (Calls.mono (A.out _) ?_)); rintro e w' ⟨rfl, rfl⟩) | ((with_reducible refine (Calls.mono (B.out _) ?_)); rintro e w' ⟨rfl, rfl⟩))
    go_ret2
    exact ⟨rfl, rfl⟩
  · have a := fits35_no n (by omega)
    by_cases hm : -2147483647 ≤ m ∧ m ≤ 2147483647
    · have b := fits35_yes m hm.1 hm.2
      have A := Lib.hid a
      have B := Lib.hid b
      clear a b h hn hm
      go_enter Try.func20, Try.ntmps20
      go_wp2_with (first | (go_at_call 37; refine (ofTwo_160 _).mono ?_; rintro e w' ⟨rfl, rfl⟩) | ((with_reducible refine (Calls.mono (A.out _) ?_)); rintro e w' ⟨rfl, rfl⟩) | ((with_reducible refine (Calls.mono (B.out _) ?_)); rintro e w' ⟨rfl, rfl⟩))
      go_ret2
      exact ⟨rfl, rfl⟩
    · have b := fits35_no m (by omega)
      have A := Lib.hid a
      have B := Lib.hid b
      clear a b h hn hm
      go_enter Try.func20, Try.ntmps20
      go_wp2_with (first | (go_at_call 37; refine (ofTwo_160 _).mono ?_; rintro e w' ⟨rfl, rfl⟩) | ((with_reducible refine (Calls.mono (A.out _) ?_)); rintro e w' ⟨rfl, rfl⟩) | ((with_reducible refine (Calls.mono (B.out _) ?_)); rintro e w' ⟨rfl, rfl⟩))
      go_ret2
      exact ⟨rfl, rfl⟩

theorem refTwo_160_no (n m : Int) (h : (n < -2147483647 ∨ 2147483647 < n) ∨ (m < -2147483647 ∨ 2147483647 < m)) (w : World) : Calls Try.prog 21 #[.int .u8 160, .int .i64 n, .int .i64 m] w fun e w' => e = .returned (.tuple #[.int .i64 0, .int .i64 110]) ∧ w = w' := by
  by_cases hn : -2147483647 ≤ n ∧ n ≤ 2147483647
  · have a := fits36_yes n hn.1 hn.2
    have b := fits36_no m (by omega)
    have A := Lib.hid a
    have B := Lib.hid b
    clear a b h hn
    go_enter Try.func21, Try.ntmps21
    go_wp2_with (first | (go_at_call 25; refine (refArity_160 _).mono ?_; rintro e w' ⟨rfl, rfl⟩) | ((with_reducible refine (Calls.mono (A.out _) ?_)); rintro e w' ⟨rfl, rfl⟩) | ((with_reducible refine (Calls.mono (B.out _) ?_)); rintro e w' ⟨rfl, rfl⟩))
    go_ret2
    exact ⟨rfl, rfl⟩
  · have a := fits36_no n (by omega)
    by_cases hm : -2147483647 ≤ m ∧ m ≤ 2147483647
    · have b := fits36_yes m hm.1 hm.2
      have A := Lib.hid a
      have B := Lib.hid b
      clear a b h hn hm
      go_enter Try.func21, Try.ntmps21
      go_wp2_with (first | (go_at_call 25; refine (refArity_160 _).mono ?_; rintro e w' ⟨rfl, rfl⟩) | ((with_reducible refine (Calls.mono (A.out _) ?_)); rintro e w' ⟨rfl, rfl⟩) | ((with_reducible refine (Calls.mono (B.out _) ?_)); rintro e w' ⟨rfl, rfl⟩))
      go_ret2
      exact ⟨rfl, rfl⟩
    · have b := fits36_no m (by omega)
      have A := Lib.hid a
      have B := Lib.hid b
      clear a b h hn hm
      go_enter Try.func21, Try.ntmps21
      go_wp2_with (first | (go_at_call 25; refine (refArity_160 _).mono ?_; rintro e w' ⟨rfl, rfl⟩) | ((with_reducible refine (Calls.mono (A.out _) ?_)); rintro e w' ⟨rfl, rfl⟩) | ((with_reducible refine (Calls.mono (B.out _) ?_)); rintro e w' ⟨rfl, rfl⟩))
      go_ret2
      exact ⟨rfl, rfl⟩

theorem refTwo_160 (n m : Int) (h1 : -2147483647 ≤ n) (h2 : n ≤ 2147483647) (h3 : -2147483647 ≤ m) (h4 : m ≤ 2147483647) (w : World) : Calls Try.prog 21 #[.int .u8 160, .int .i64 n, .int .i64 m] w fun e w' => e = .returned (.tuple #[.int .i64 (tv (decide (m < n))), .int .i64 0]) ∧ w = w' := by
  have a := fits36_yes n h1 h2
  have b := fits36_yes m h3 h4
  have A := Lib.hid a
  have B := Lib.hid b
  clear a b
  go_enter Try.func21, Try.ntmps21
  go_wp2_with (first | (go_at_call 25; refine (refArity_160 _).mono ?_; rintro e w' ⟨rfl, rfl⟩) | ((with_reducible refine (Calls.mono (A.out _) ?_)); rintro e w' ⟨rfl, rfl⟩) | ((with_reducible refine (Calls.mono (B.out _) ?_)); rintro e w' ⟨rfl, rfl⟩) | (go_at_call 33; refine (flag33 _ _).mono ?_; rintro e w' ⟨rfl, rfl⟩))
  all_goals
    go_ret2
    exact ⟨rfl, rfl⟩

theorem two_161_no (n m : Int) (h : (n < -2147483647 ∨ 2147483647 < n) ∨ (m < -2147483647 ∨ 2147483647 < m)) (w : World) : Calls Try.prog 20 #[.int .u8 161, .int .i64 n, .int .i64 m] w fun e w' => e = .returned (.tuple #[.int .i64 0, .int .i64 110]) ∧ w = w' := by
  have q1 := eql60
  have q2 := eql60n
  have q3 := eql63
  have q4 := eql63n
  by_cases hn : -2147483647 ≤ n ∧ n ≤ 2147483647
  · have a := fits35_yes n hn.1 hn.2
    have b := fits35_no m (by omega)
    have A := Lib.hid a
    have B := Lib.hid b
    clear a b h hn
    go_enter Try.func20, Try.ntmps20
    go_wp2_with (first | (go_at_call 37; refine (ofTwo_161 _).mono ?_; rintro e w' ⟨rfl, rfl⟩) | ((with_reducible refine (Calls.mono (A.out _) ?_)); rintro e w' ⟨rfl, rfl⟩) | ((with_reducible refine (Calls.mono (B.out _) ?_)); rintro e w' ⟨rfl, rfl⟩))
    go_ret2
    exact ⟨rfl, rfl⟩
  · have a := fits35_no n (by omega)
    by_cases hm : -2147483647 ≤ m ∧ m ≤ 2147483647
    · have b := fits35_yes m hm.1 hm.2
      have A := Lib.hid a
      have B := Lib.hid b
      clear a b h hn hm
      go_enter Try.func20, Try.ntmps20
      go_wp2_with (first | (go_at_call 37; refine (ofTwo_161 _).mono ?_; rintro e w' ⟨rfl, rfl⟩) | ((with_reducible refine (Calls.mono (A.out _) ?_)); rintro e w' ⟨rfl, rfl⟩) | ((with_reducible refine (Calls.mono (B.out _) ?_)); rintro e w' ⟨rfl, rfl⟩))
      go_ret2
      exact ⟨rfl, rfl⟩
    · have b := fits35_no m (by omega)
      have A := Lib.hid a
      have B := Lib.hid b
      clear a b h hn hm
      go_enter Try.func20, Try.ntmps20
      go_wp2_with (first | (go_at_call 37; refine (ofTwo_161 _).mono ?_; rintro e w' ⟨rfl, rfl⟩) | ((with_reducible refine (Calls.mono (A.out _) ?_)); rintro e w' ⟨rfl, rfl⟩) | ((with_reducible refine (Calls.mono (B.out _) ?_)); rintro e w' ⟨rfl, rfl⟩))
      go_ret2
      exact ⟨rfl, rfl⟩

theorem refTwo_161_no (n m : Int) (h : (n < -2147483647 ∨ 2147483647 < n) ∨ (m < -2147483647 ∨ 2147483647 < m)) (w : World) : Calls Try.prog 21 #[.int .u8 161, .int .i64 n, .int .i64 m] w fun e w' => e = .returned (.tuple #[.int .i64 0, .int .i64 110]) ∧ w = w' := by
  by_cases hn : -2147483647 ≤ n ∧ n ≤ 2147483647
  · have a := fits36_yes n hn.1 hn.2
    have b := fits36_no m (by omega)
    have A := Lib.hid a
    have B := Lib.hid b
    clear a b h hn
    go_enter Try.func21, Try.ntmps21
    go_wp2_with (first | (go_at_call 25; refine (refArity_161 _).mono ?_; rintro e w' ⟨rfl, rfl⟩) | ((with_reducible refine (Calls.mono (A.out _) ?_)); rintro e w' ⟨rfl, rfl⟩) | ((with_reducible refine (Calls.mono (B.out _) ?_)); rintro e w' ⟨rfl, rfl⟩))
    go_ret2
    exact ⟨rfl, rfl⟩
  · have a := fits36_no n (by omega)
    by_cases hm : -2147483647 ≤ m ∧ m ≤ 2147483647
    · have b := fits36_yes m hm.1 hm.2
      have A := Lib.hid a
      have B := Lib.hid b
      clear a b h hn hm
      go_enter Try.func21, Try.ntmps21
      go_wp2_with (first | (go_at_call 25; refine (refArity_161 _).mono ?_; rintro e w' ⟨rfl, rfl⟩) | ((with_reducible refine (Calls.mono (A.out _) ?_)); rintro e w' ⟨rfl, rfl⟩) | ((with_reducible refine (Calls.mono (B.out _) ?_)); rintro e w' ⟨rfl, rfl⟩))
      go_ret2
      exact ⟨rfl, rfl⟩
    · have b := fits36_no m (by omega)
      have A := Lib.hid a
      have B := Lib.hid b
      clear a b h hn hm
      go_enter Try.func21, Try.ntmps21
      go_wp2_with (first | (go_at_call 25; refine (refArity_161 _).mono ?_; rintro e w' ⟨rfl, rfl⟩) | ((with_reducible refine (Calls.mono (A.out _) ?_)); rintro e w' ⟨rfl, rfl⟩) | ((with_reducible refine (Calls.mono (B.out _) ?_)); rintro e w' ⟨rfl, rfl⟩))
      go_ret2
      exact ⟨rfl, rfl⟩

theorem refTwo_161 (n m : Int) (h1 : -2147483647 ≤ n) (h2 : n ≤ 2147483647) (h3 : -2147483647 ≤ m) (h4 : m ≤ 2147483647) (w : World) : Calls Try.prog 21 #[.int .u8 161, .int .i64 n, .int .i64 m] w fun e w' => e = .returned (.tuple #[.int .i64 (tv (decide (n ≤ m))), .int .i64 0]) ∧ w = w' := by
  have a := fits36_yes n h1 h2
  have b := fits36_yes m h3 h4
  have A := Lib.hid a
  have B := Lib.hid b
  clear a b
  go_enter Try.func21, Try.ntmps21
  go_wp2_with (first | (go_at_call 25; refine (refArity_161 _).mono ?_; rintro e w' ⟨rfl, rfl⟩) | ((with_reducible refine (Calls.mono (A.out _) ?_)); rintro e w' ⟨rfl, rfl⟩) | ((with_reducible refine (Calls.mono (B.out _) ?_)); rintro e w' ⟨rfl, rfl⟩) | (go_at_call 33; refine (flag33 _ _).mono ?_; rintro e w' ⟨rfl, rfl⟩))
  all_goals
    go_ret2
    exact ⟨rfl, rfl⟩

theorem two_162_no (n m : Int) (h : (n < -2147483647 ∨ 2147483647 < n) ∨ (m < -2147483647 ∨ 2147483647 < m)) (w : World) : Calls Try.prog 20 #[.int .u8 162, .int .i64 n, .int .i64 m] w fun e w' => e = .returned (.tuple #[.int .i64 0, .int .i64 110]) ∧ w = w' := by
  have q1 := eql60
  have q2 := eql60n
  have q3 := eql63
  have q4 := eql63n
  by_cases hn : -2147483647 ≤ n ∧ n ≤ 2147483647
  · have a := fits35_yes n hn.1 hn.2
    have b := fits35_no m (by omega)
    have A := Lib.hid a
    have B := Lib.hid b
    clear a b h hn
    go_enter Try.func20, Try.ntmps20
    go_wp2_with (first | (go_at_call 37; refine (ofTwo_162 _).mono ?_; rintro e w' ⟨rfl, rfl⟩) | ((with_reducible refine (Calls.mono (A.out _) ?_)); rintro e w' ⟨rfl, rfl⟩) | ((with_reducible refine (Calls.mono (B.out _) ?_)); rintro e w' ⟨rfl, rfl⟩))
    go_ret2
    exact ⟨rfl, rfl⟩
  · have a := fits35_no n (by omega)
    by_cases hm : -2147483647 ≤ m ∧ m ≤ 2147483647
    · have b := fits35_yes m hm.1 hm.2
      have A := Lib.hid a
      have B := Lib.hid b
      clear a b h hn hm
      go_enter Try.func20, Try.ntmps20
      go_wp2_with (first | (go_at_call 37; refine (ofTwo_162 _).mono ?_; rintro e w' ⟨rfl, rfl⟩) | ((with_reducible refine (Calls.mono (A.out _) ?_)); rintro e w' ⟨rfl, rfl⟩) | ((with_reducible refine (Calls.mono (B.out _) ?_)); rintro e w' ⟨rfl, rfl⟩))
      go_ret2
      exact ⟨rfl, rfl⟩
    · have b := fits35_no m (by omega)
      have A := Lib.hid a
      have B := Lib.hid b
      clear a b h hn hm
      go_enter Try.func20, Try.ntmps20
      go_wp2_with (first | (go_at_call 37; refine (ofTwo_162 _).mono ?_; rintro e w' ⟨rfl, rfl⟩) | ((with_reducible refine (Calls.mono (A.out _) ?_)); rintro e w' ⟨rfl, rfl⟩) | ((with_reducible refine (Calls.mono (B.out _) ?_)); rintro e w' ⟨rfl, rfl⟩))
      go_ret2
      exact ⟨rfl, rfl⟩

theorem refTwo_162_no (n m : Int) (h : (n < -2147483647 ∨ 2147483647 < n) ∨ (m < -2147483647 ∨ 2147483647 < m)) (w : World) : Calls Try.prog 21 #[.int .u8 162, .int .i64 n, .int .i64 m] w fun e w' => e = .returned (.tuple #[.int .i64 0, .int .i64 110]) ∧ w = w' := by
  by_cases hn : -2147483647 ≤ n ∧ n ≤ 2147483647
  · have a := fits36_yes n hn.1 hn.2
    have b := fits36_no m (by omega)
    have A := Lib.hid a
    have B := Lib.hid b
    clear a b h hn
    go_enter Try.func21, Try.ntmps21
    go_wp2_with (first | (go_at_call 25; refine (refArity_162 _).mono ?_; rintro e w' ⟨rfl, rfl⟩) | ((with_reducible refine (Calls.mono (A.out _) ?_)); rintro e w' ⟨rfl, rfl⟩) | ((with_reducible refine (Calls.mono (B.out _) ?_)); rintro e w' ⟨rfl, rfl⟩))
    go_ret2
    exact ⟨rfl, rfl⟩
  · have a := fits36_no n (by omega)
    by_cases hm : -2147483647 ≤ m ∧ m ≤ 2147483647
    · have b := fits36_yes m hm.1 hm.2
      have A := Lib.hid a
      have B := Lib.hid b
      clear a b h hn hm
      go_enter Try.func21, Try.ntmps21
      go_wp2_with (first | (go_at_call 25; refine (refArity_162 _).mono ?_; rintro e w' ⟨rfl, rfl⟩) | ((with_reducible refine (Calls.mono (A.out _) ?_)); rintro e w' ⟨rfl, rfl⟩) | ((with_reducible refine (Calls.mono (B.out _) ?_)); rintro e w' ⟨rfl, rfl⟩))
      go_ret2
      exact ⟨rfl, rfl⟩
    · have b := fits36_no m (by omega)
      have A := Lib.hid a
      have B := Lib.hid b
      clear a b h hn hm
      go_enter Try.func21, Try.ntmps21
      go_wp2_with (first | (go_at_call 25; refine (refArity_162 _).mono ?_; rintro e w' ⟨rfl, rfl⟩) | ((with_reducible refine (Calls.mono (A.out _) ?_)); rintro e w' ⟨rfl, rfl⟩) | ((with_reducible refine (Calls.mono (B.out _) ?_)); rintro e w' ⟨rfl, rfl⟩))
      go_ret2
      exact ⟨rfl, rfl⟩

theorem refTwo_162 (n m : Int) (h1 : -2147483647 ≤ n) (h2 : n ≤ 2147483647) (h3 : -2147483647 ≤ m) (h4 : m ≤ 2147483647) (w : World) : Calls Try.prog 21 #[.int .u8 162, .int .i64 n, .int .i64 m] w fun e w' => e = .returned (.tuple #[.int .i64 (tv (decide (m ≤ n))), .int .i64 0]) ∧ w = w' := by
  have a := fits36_yes n h1 h2
  have b := fits36_yes m h3 h4
  have A := Lib.hid a
  have B := Lib.hid b
  clear a b
  go_enter Try.func21, Try.ntmps21
  go_wp2_with (first | (go_at_call 25; refine (refArity_162 _).mono ?_; rintro e w' ⟨rfl, rfl⟩) | ((with_reducible refine (Calls.mono (A.out _) ?_)); rintro e w' ⟨rfl, rfl⟩) | ((with_reducible refine (Calls.mono (B.out _) ?_)); rintro e w' ⟨rfl, rfl⟩) | (go_at_call 33; refine (flag33 _ _).mono ?_; rintro e w' ⟨rfl, rfl⟩))
  all_goals
    go_ret2
    exact ⟨rfl, rfl⟩

theorem two_163_no (n m : Int) (h : (n < -2147483647 ∨ 2147483647 < n) ∨ (m < -2147483647 ∨ 2147483647 < m)) (w : World) : Calls Try.prog 20 #[.int .u8 163, .int .i64 n, .int .i64 m] w fun e w' => e = .returned (.tuple #[.int .i64 0, .int .i64 110]) ∧ w = w' := by
  have q1 := eql60
  have q2 := eql60n
  have q3 := eql63
  have q4 := eql63n
  by_cases hn : -2147483647 ≤ n ∧ n ≤ 2147483647
  · have a := fits35_yes n hn.1 hn.2
    have b := fits35_no m (by omega)
    have A := Lib.hid a
    have B := Lib.hid b
    clear a b h hn
    go_enter Try.func20, Try.ntmps20
    go_wp2_with (first | (go_at_call 37; refine (ofTwo_163 _).mono ?_; rintro e w' ⟨rfl, rfl⟩) | ((with_reducible refine (Calls.mono (A.out _) ?_)); rintro e w' ⟨rfl, rfl⟩) | ((with_reducible refine (Calls.mono (B.out _) ?_)); rintro e w' ⟨rfl, rfl⟩))
    go_ret2
    exact ⟨rfl, rfl⟩
  · have a := fits35_no n (by omega)
    by_cases hm : -2147483647 ≤ m ∧ m ≤ 2147483647
    · have b := fits35_yes m hm.1 hm.2
      have A := Lib.hid a
      have B := Lib.hid b
      clear a b h hn hm
      go_enter Try.func20, Try.ntmps20
      go_wp2_with (first | (go_at_call 37; refine (ofTwo_163 _).mono ?_; rintro e w' ⟨rfl, rfl⟩) | ((with_reducible refine (Calls.mono (A.out _) ?_)); rintro e w' ⟨rfl, rfl⟩) | ((with_reducible refine (Calls.mono (B.out _) ?_)); rintro e w' ⟨rfl, rfl⟩))
      go_ret2
      exact ⟨rfl, rfl⟩
    · have b := fits35_no m (by omega)
      have A := Lib.hid a
      have B := Lib.hid b
      clear a b h hn hm
      go_enter Try.func20, Try.ntmps20
      go_wp2_with (first | (go_at_call 37; refine (ofTwo_163 _).mono ?_; rintro e w' ⟨rfl, rfl⟩) | ((with_reducible refine (Calls.mono (A.out _) ?_)); rintro e w' ⟨rfl, rfl⟩) | ((with_reducible refine (Calls.mono (B.out _) ?_)); rintro e w' ⟨rfl, rfl⟩))
      go_ret2
      exact ⟨rfl, rfl⟩

theorem refTwo_163_no (n m : Int) (h : (n < -2147483647 ∨ 2147483647 < n) ∨ (m < -2147483647 ∨ 2147483647 < m)) (w : World) : Calls Try.prog 21 #[.int .u8 163, .int .i64 n, .int .i64 m] w fun e w' => e = .returned (.tuple #[.int .i64 0, .int .i64 110]) ∧ w = w' := by
  by_cases hn : -2147483647 ≤ n ∧ n ≤ 2147483647
  · have a := fits36_yes n hn.1 hn.2
    have b := fits36_no m (by omega)
    have A := Lib.hid a
    have B := Lib.hid b
    clear a b h hn
    go_enter Try.func21, Try.ntmps21
    go_wp2_with (first | (go_at_call 25; refine (refArity_163 _).mono ?_; rintro e w' ⟨rfl, rfl⟩) | ((with_reducible refine (Calls.mono (A.out _) ?_)); rintro e w' ⟨rfl, rfl⟩) | ((with_reducible refine (Calls.mono (B.out _) ?_)); rintro e w' ⟨rfl, rfl⟩))
    go_ret2
    exact ⟨rfl, rfl⟩
  · have a := fits36_no n (by omega)
    by_cases hm : -2147483647 ≤ m ∧ m ≤ 2147483647
    · have b := fits36_yes m hm.1 hm.2
      have A := Lib.hid a
      have B := Lib.hid b
      clear a b h hn hm
      go_enter Try.func21, Try.ntmps21
      go_wp2_with (first | (go_at_call 25; refine (refArity_163 _).mono ?_; rintro e w' ⟨rfl, rfl⟩) | ((with_reducible refine (Calls.mono (A.out _) ?_)); rintro e w' ⟨rfl, rfl⟩) | ((with_reducible refine (Calls.mono (B.out _) ?_)); rintro e w' ⟨rfl, rfl⟩))
      go_ret2
      exact ⟨rfl, rfl⟩
    · have b := fits36_no m (by omega)
      have A := Lib.hid a
      have B := Lib.hid b
      clear a b h hn hm
      go_enter Try.func21, Try.ntmps21
      go_wp2_with (first | (go_at_call 25; refine (refArity_163 _).mono ?_; rintro e w' ⟨rfl, rfl⟩) | ((with_reducible refine (Calls.mono (A.out _) ?_)); rintro e w' ⟨rfl, rfl⟩) | ((with_reducible refine (Calls.mono (B.out _) ?_)); rintro e w' ⟨rfl, rfl⟩))
      go_ret2
      exact ⟨rfl, rfl⟩

theorem refTwo_163 (n m : Int) (h1 : -2147483647 ≤ n) (h2 : n ≤ 2147483647) (h3 : -2147483647 ≤ m) (h4 : m ≤ 2147483647) (w : World) : Calls Try.prog 21 #[.int .u8 163, .int .i64 n, .int .i64 m] w fun e w' => e = .returned (.tuple #[.int .i64 (min n m), .int .i64 0]) ∧ w = w' := by
  have a := fits36_yes n h1 h2
  have b := fits36_yes m h3 h4
  have A := Lib.hid a
  have B := Lib.hid b
  clear a b
  go_enter Try.func21, Try.ntmps21
  go_wp2_with (first | (go_at_call 25; refine (refArity_163 _).mono ?_; rintro e w' ⟨rfl, rfl⟩) | ((with_reducible refine (Calls.mono (A.out _) ?_)); rintro e w' ⟨rfl, rfl⟩) | ((with_reducible refine (Calls.mono (B.out _) ?_)); rintro e w' ⟨rfl, rfl⟩) | (go_at_call 33; refine (flag33 _ _).mono ?_; rintro e w' ⟨rfl, rfl⟩))
  all_goals
    go_ret2
    exact ⟨by congr; simp; omega, rfl⟩

theorem two_164_no (n m : Int) (h : (n < -2147483647 ∨ 2147483647 < n) ∨ (m < -2147483647 ∨ 2147483647 < m)) (w : World) : Calls Try.prog 20 #[.int .u8 164, .int .i64 n, .int .i64 m] w fun e w' => e = .returned (.tuple #[.int .i64 0, .int .i64 110]) ∧ w = w' := by
  have q1 := eql60
  have q2 := eql60n
  have q3 := eql63
  have q4 := eql63n
  by_cases hn : -2147483647 ≤ n ∧ n ≤ 2147483647
  · have a := fits35_yes n hn.1 hn.2
    have b := fits35_no m (by omega)
    have A := Lib.hid a
    have B := Lib.hid b
    clear a b h hn
    go_enter Try.func20, Try.ntmps20
    go_wp2_with (first | (go_at_call 37; refine (ofTwo_164 _).mono ?_; rintro e w' ⟨rfl, rfl⟩) | ((with_reducible refine (Calls.mono (A.out _) ?_)); rintro e w' ⟨rfl, rfl⟩) | ((with_reducible refine (Calls.mono (B.out _) ?_)); rintro e w' ⟨rfl, rfl⟩))
    go_ret2
    exact ⟨rfl, rfl⟩
  · have a := fits35_no n (by omega)
    by_cases hm : -2147483647 ≤ m ∧ m ≤ 2147483647
    · have b := fits35_yes m hm.1 hm.2
      have A := Lib.hid a
      have B := Lib.hid b
      clear a b h hn hm
      go_enter Try.func20, Try.ntmps20
      go_wp2_with (first | (go_at_call 37; refine (ofTwo_164 _).mono ?_; rintro e w' ⟨rfl, rfl⟩) | ((with_reducible refine (Calls.mono (A.out _) ?_)); rintro e w' ⟨rfl, rfl⟩) | ((with_reducible refine (Calls.mono (B.out _) ?_)); rintro e w' ⟨rfl, rfl⟩))
      go_ret2
      exact ⟨rfl, rfl⟩
    · have b := fits35_no m (by omega)
      have A := Lib.hid a
      have B := Lib.hid b
      clear a b h hn hm
      go_enter Try.func20, Try.ntmps20
      go_wp2_with (first | (go_at_call 37; refine (ofTwo_164 _).mono ?_; rintro e w' ⟨rfl, rfl⟩) | ((with_reducible refine (Calls.mono (A.out _) ?_)); rintro e w' ⟨rfl, rfl⟩) | ((with_reducible refine (Calls.mono (B.out _) ?_)); rintro e w' ⟨rfl, rfl⟩))
      go_ret2
      exact ⟨rfl, rfl⟩

theorem refTwo_164_no (n m : Int) (h : (n < -2147483647 ∨ 2147483647 < n) ∨ (m < -2147483647 ∨ 2147483647 < m)) (w : World) : Calls Try.prog 21 #[.int .u8 164, .int .i64 n, .int .i64 m] w fun e w' => e = .returned (.tuple #[.int .i64 0, .int .i64 110]) ∧ w = w' := by
  by_cases hn : -2147483647 ≤ n ∧ n ≤ 2147483647
  · have a := fits36_yes n hn.1 hn.2
    have b := fits36_no m (by omega)
    have A := Lib.hid a
    have B := Lib.hid b
    clear a b h hn
    go_enter Try.func21, Try.ntmps21
    go_wp2_with (first | (go_at_call 25; refine (refArity_164 _).mono ?_; rintro e w' ⟨rfl, rfl⟩) | ((with_reducible refine (Calls.mono (A.out _) ?_)); rintro e w' ⟨rfl, rfl⟩) | ((with_reducible refine (Calls.mono (B.out _) ?_)); rintro e w' ⟨rfl, rfl⟩))
    go_ret2
    exact ⟨rfl, rfl⟩
  · have a := fits36_no n (by omega)
    by_cases hm : -2147483647 ≤ m ∧ m ≤ 2147483647
    · have b := fits36_yes m hm.1 hm.2
      have A := Lib.hid a
      have B := Lib.hid b
      clear a b h hn hm
      go_enter Try.func21, Try.ntmps21
      go_wp2_with (first | (go_at_call 25; refine (refArity_164 _).mono ?_; rintro e w' ⟨rfl, rfl⟩) | ((with_reducible refine (Calls.mono (A.out _) ?_)); rintro e w' ⟨rfl, rfl⟩) | ((with_reducible refine (Calls.mono (B.out _) ?_)); rintro e w' ⟨rfl, rfl⟩))
      go_ret2
      exact ⟨rfl, rfl⟩
    · have b := fits36_no m (by omega)
      have A := Lib.hid a
      have B := Lib.hid b
      clear a b h hn hm
      go_enter Try.func21, Try.ntmps21
      go_wp2_with (first | (go_at_call 25; refine (refArity_164 _).mono ?_; rintro e w' ⟨rfl, rfl⟩) | ((with_reducible refine (Calls.mono (A.out _) ?_)); rintro e w' ⟨rfl, rfl⟩) | ((with_reducible refine (Calls.mono (B.out _) ?_)); rintro e w' ⟨rfl, rfl⟩))
      go_ret2
      exact ⟨rfl, rfl⟩

theorem refTwo_164 (n m : Int) (h1 : -2147483647 ≤ n) (h2 : n ≤ 2147483647) (h3 : -2147483647 ≤ m) (h4 : m ≤ 2147483647) (w : World) : Calls Try.prog 21 #[.int .u8 164, .int .i64 n, .int .i64 m] w fun e w' => e = .returned (.tuple #[.int .i64 (max n m), .int .i64 0]) ∧ w = w' := by
  have a := fits36_yes n h1 h2
  have b := fits36_yes m h3 h4
  have A := Lib.hid a
  have B := Lib.hid b
  clear a b
  go_enter Try.func21, Try.ntmps21
  go_wp2_with (first | (go_at_call 25; refine (refArity_164 _).mono ?_; rintro e w' ⟨rfl, rfl⟩) | ((with_reducible refine (Calls.mono (A.out _) ?_)); rintro e w' ⟨rfl, rfl⟩) | ((with_reducible refine (Calls.mono (B.out _) ?_)); rintro e w' ⟨rfl, rfl⟩) | (go_at_call 33; refine (flag33 _ _).mono ?_; rintro e w' ⟨rfl, rfl⟩))
  all_goals
    go_ret2
    exact ⟨by congr; simp; omega, rfl⟩

theorem two_none (c n m : Int) (h : c ∉ twos) (w : World) : Calls Try.prog 20 #[.int .u8 c, .int .i64 n, .int .i64 m] w fun e w' => e = .returned (.tuple #[.int .i64 0, .int .i64 2]) ∧ w = w' := by
  have q1 := eql60
  have q2 := eql60n
  have q3 := eql63
  have q4 := eql63n
  go_enter Try.func20, Try.ntmps20
  go_wp2_with ((go_at_call 37; refine (ofTwo_none _ h _).mono ?_; rintro e w' ⟨rfl, rfl⟩))
  go_ret2
  exact ⟨rfl, rfl⟩
theorem refTwo_none (c n m k : Int) (hk : (k != 2) = true) (ha : ∀ w, Calls Try.prog 25 #[.int .u8 c] w fun e w' => e = .returned (.int .i64 k) ∧ w = w') (w : World) : Calls Try.prog 21 #[.int .u8 c, .int .i64 n, .int .i64 m] w fun e w' => e = .returned (.tuple #[.int .i64 0, .int .i64 2]) ∧ w = w' := by
  have H := Lib.hid ha
  clear ha
  go_enter Try.func21, Try.ntmps21
  go_wp2_with ((go_at_call 25; refine (H.out _).mono ?_; rintro e w' ⟨rfl, rfl⟩))
  go_ret2
  exact ⟨rfl, rfl⟩
end Go.Proofs.Ytbhopgklnddelaa
