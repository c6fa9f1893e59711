/- num's operations beside purserref11's. No condition. -/
import Derived.Test.YtbhopgklnddelaaNumD
namespace Go.Proofs.Ytbhopgklnddelaa
open Go.RowKit Go.Lib

theorem refArity_other1 (c : Int) (h : c ∉ ones) : ∃ k : Int, (k != 1) = true ∧ ∀ w, Calls Try.prog 25 #[.int .u8 c] w fun e w' => e = .returned (.int .i64 k) ∧ w = w' := by
  by_cases h2 : c ∈ twos
  · refine ⟨2, by decide, ?_⟩
    simp only [twos, List.mem_cons, List.not_mem_nil, or_false] at h2
    rcases h2 with rfl | rfl | rfl | rfl | rfl | rfl | rfl | rfl | rfl | rfl | rfl | rfl | rfl
    · exact refArity_147
    · exact refArity_148
    · exact refArity_154
    · exact refArity_155
    · exact refArity_156
    · exact refArity_157
    · exact refArity_158
    · exact refArity_159
    · exact refArity_160
    · exact refArity_161
    · exact refArity_162
    · exact refArity_163
    · exact refArity_164
  · by_cases h3 : c = 165
    · subst h3
      exact ⟨3, by decide, refArity_165⟩
    · exact ⟨0, by decide, refArity_none c h h2 h3⟩
theorem refArity_other2 (c : Int) (h : c ∉ twos) : ∃ k : Int, (k != 2) = true ∧ ∀ w, Calls Try.prog 25 #[.int .u8 c] w fun e w' => e = .returned (.int .i64 k) ∧ w = w' := by
  by_cases h2 : c ∈ ones
  · refine ⟨1, by decide, ?_⟩
    simp only [ones, List.mem_cons, List.not_mem_nil, or_false] at h2
    rcases h2 with rfl | rfl | rfl | rfl | rfl | rfl
    · exact refArity_139
    · exact refArity_140
    · exact refArity_143
    · exact refArity_144
    · exact refArity_145
    · exact refArity_146
  · by_cases h3 : c = 165
    · subst h3
      exact ⟨3, by decide, refArity_165⟩
    · exact ⟨0, by decide, refArity_none c h2 h h3⟩
theorem arity_both (c : Int) : ∃ k : Int, (∀ w, Calls Try.prog 24 #[.int .u8 c] w fun e w' => e = .returned (.int .i64 k) ∧ w = w') ∧ ∀ w, Calls Try.prog 25 #[.int .u8 c] w fun e w' => e = .returned (.int .i64 k) ∧ w = w' := by
  by_cases h1 : c ∈ ones
  · refine ⟨1, ?_⟩
    simp only [ones, List.mem_cons, List.not_mem_nil, or_false] at h1
    rcases h1 with rfl | rfl | rfl | rfl | rfl | rfl
    · exact ⟨arity_139, refArity_139⟩
    · exact ⟨arity_140, refArity_140⟩
    · exact ⟨arity_143, refArity_143⟩
    · exact ⟨arity_144, refArity_144⟩
    · exact ⟨arity_145, refArity_145⟩
    · exact ⟨arity_146, refArity_146⟩
  · by_cases h2 : c ∈ twos
    · refine ⟨2, ?_⟩
      simp only [twos, List.mem_cons, List.not_mem_nil, or_false] at h2
      rcases h2 with rfl | rfl | rfl | rfl | rfl | rfl | rfl | rfl | rfl | rfl | rfl | rfl | rfl
      · exact ⟨arity_147, refArity_147⟩
      · exact ⟨arity_148, refArity_148⟩
      · exact ⟨arity_154, refArity_154⟩
      · exact ⟨arity_155, refArity_155⟩
      · exact ⟨arity_156, refArity_156⟩
      · exact ⟨arity_157, refArity_157⟩
      · exact ⟨arity_158, refArity_158⟩
      · exact ⟨arity_159, refArity_159⟩
      · exact ⟨arity_160, refArity_160⟩
      · exact ⟨arity_161, refArity_161⟩
      · exact ⟨arity_162, refArity_162⟩
      · exact ⟨arity_163, refArity_163⟩
      · exact ⟨arity_164, refArity_164⟩
    · by_cases h3 : c = 165
      · subst h3
        exact ⟨3, arity_165, refArity_165⟩
      · exact ⟨0, arity_none c h1 h2 h3, refArity_none c h1 h2 h3⟩
theorem one_both (c n : Int) : ∃ v k : Int, (∀ w, Calls Try.prog 18 #[.int .u8 c, .int .i64 n] w fun e w' => e = .returned (.tuple #[.int .i64 v, .int .i64 k]) ∧ w = w') ∧
    ∀ w, Calls Try.prog 19 #[.int .u8 c, .int .i64 n] w fun e w' => e = .returned (.tuple #[.int .i64 v, .int .i64 k]) ∧ w = w' := by
  by_cases h1 : c ∈ ones
  · simp only [ones, List.mem_cons, List.not_mem_nil, or_false] at h1
    by_cases hn : -2147483647 ≤ n ∧ n ≤ 2147483647
    · rcases h1 with rfl | rfl | rfl | rfl | rfl | rfl
      · exact ⟨_, _, one_139 n hn.1 hn.2, refOne_139 n hn.1 hn.2⟩
      · exact ⟨_, _, one_140 n hn.1 hn.2, refOne_140 n hn.1 hn.2⟩
      · exact ⟨_, _, one_143 n hn.1 hn.2, refOne_143 n hn.1 hn.2⟩
      · exact ⟨_, _, one_144 n hn.1 hn.2, refOne_144 n hn.1 hn.2⟩
      · exact ⟨_, _, one_145 n hn.1 hn.2, refOne_145 n hn.1 hn.2⟩
      · exact ⟨_, _, one_146 n hn.1 hn.2, refOne_146 n hn.1 hn.2⟩
    · rcases h1 with rfl | rfl | rfl | rfl | rfl | rfl
      · exact ⟨_, _, one_139_no n (by omega), refOne_139_no n (by omega)⟩
      · exact ⟨_, _, one_140_no n (by omega), refOne_140_no n (by omega)⟩
      · exact ⟨_, _, one_143_no n (by omega), refOne_143_no n (by omega)⟩
      · exact ⟨_, _, one_144_no n (by omega), refOne_144_no n (by omega)⟩
      · exact ⟨_, _, one_145_no n (by omega), refOne_145_no n (by omega)⟩
      · exact ⟨_, _, one_146_no n (by omega), refOne_146_no n (by omega)⟩
  · obtain ⟨k, hk, ha⟩ := refArity_other1 c h1
    exact ⟨_, _, one_none c n h1, refOne_none c n k hk ha⟩
theorem two_both (c n m : Int) : ∃ v k : Int, (∀ w, Calls Try.prog 20 #[.int .u8 c, .int .i64 n, .int .i64 m] w fun e w' => e = .returned (.tuple #[.int .i64 v, .int .i64 k]) ∧ w = w') ∧
    ∀ w, Calls Try.prog 21 #[.int .u8 c, .int .i64 n, .int .i64 m] w fun e w' => e = .returned (.tuple #[.int .i64 v, .int .i64 k]) ∧ w = w' := by
  by_cases h1 : c ∈ twos
  · simp only [twos, List.mem_cons, List.not_mem_nil, or_false] at h1
    by_cases hn : (-2147483647 ≤ n ∧ n ≤ 2147483647) ∧ -2147483647 ≤ m ∧ m ≤ 2147483647
    · obtain ⟨⟨a1, a2⟩, a3, a4⟩ := hn
      rcases h1 with rfl | rfl | rfl | rfl | rfl | rfl | rfl | rfl | rfl | rfl | rfl | rfl | rfl
      · exact ⟨_, _, two_147 n m a1 a2 a3 a4, refTwo_147 n m a1 a2 a3 a4⟩
      · exact ⟨_, _, two_148 n m a1 a2 a3 a4, refTwo_148 n m a1 a2 a3 a4⟩
      · exact ⟨_, _, two_154 n m a1 a2 a3 a4, refTwo_154 n m a1 a2 a3 a4⟩
      · exact ⟨_, _, two_155 n m a1 a2 a3 a4, refTwo_155 n m a1 a2 a3 a4⟩
      · exact ⟨_, _, two_156 n m a1 a2 a3 a4, refTwo_156 n m a1 a2 a3 a4⟩
      · exact ⟨_, _, two_157 n m a1 a2 a3 a4, refTwo_157 n m a1 a2 a3 a4⟩
      · exact ⟨_, _, two_158 n m a1 a2 a3 a4, refTwo_158 n m a1 a2 a3 a4⟩
      · exact ⟨_, _, two_159 n m a1 a2 a3 a4, refTwo_159 n m a1 a2 a3 a4⟩
      · exact ⟨_, _, two_160 n m a1 a2 a3 a4, refTwo_160 n m a1 a2 a3 a4⟩
      · exact ⟨_, _, two_161 n m a1 a2 a3 a4, refTwo_161 n m a1 a2 a3 a4⟩
      · exact ⟨_, _, two_162 n m a1 a2 a3 a4, refTwo_162 n m a1 a2 a3 a4⟩
      · exact ⟨_, _, two_163 n m a1 a2 a3 a4, refTwo_163 n m a1 a2 a3 a4⟩
      · exact ⟨_, _, two_164 n m a1 a2 a3 a4, refTwo_164 n m a1 a2 a3 a4⟩
    · have hh : (n < -2147483647 ∨ 2147483647 < n) ∨ (m < -2147483647 ∨ 2147483647 < m) := by omega
      rcases h1 with rfl | rfl | rfl | rfl | rfl | rfl | rfl | rfl | rfl | rfl | rfl | rfl | rfl
      · exact ⟨_, _, two_147_no n m hh, refTwo_147_no n m hh⟩
      · exact ⟨_, _, two_148_no n m hh, refTwo_148_no n m hh⟩
      · exact ⟨_, _, two_154_no n m hh, refTwo_154_no n m hh⟩
      · exact ⟨_, _, two_155_no n m hh, refTwo_155_no n m hh⟩
      · exact ⟨_, _, two_156_no n m hh, refTwo_156_no n m hh⟩
      · exact ⟨_, _, two_157_no n m hh, refTwo_157_no n m hh⟩
      · exact ⟨_, _, two_158_no n m hh, refTwo_158_no n m hh⟩
      · exact ⟨_, _, two_159_no n m hh, refTwo_159_no n m hh⟩
      · exact ⟨_, _, two_160_no n m hh, refTwo_160_no n m hh⟩
      · exact ⟨_, _, two_161_no n m hh, refTwo_161_no n m hh⟩
      · exact ⟨_, _, two_162_no n m hh, refTwo_162_no n m hh⟩
      · exact ⟨_, _, two_163_no n m hh, refTwo_163_no n m hh⟩
      · exact ⟨_, _, two_164_no n m hh, refTwo_164_no n m hh⟩
  · obtain ⟨k, hk, ha⟩ := refArity_other2 c h1
    exact ⟨_, _, two_none c n m h1, refTwo_none c n m k hk ha⟩

def wiB (n a b : Int) : Bool := decide (a ≤ n) && decide (n < b)
theorem within22 (n a b : Int) (w : World) : Calls Try.prog 22 #[.int .i64 n, .int .i64 a, .int .i64 b] w fun e w' => e = .returned (.bool (wiB n a b)) ∧ w = w' := by
  by_cases h1 : a ≤ n
  · by_cases h2 : n < b
    · go_enter Try.func22, Try.ntmps22
      go_wp2
      go_ret
      exact ⟨by simp [wiB, h1, h2], rfl⟩
    · have h3 : decide (n < b) = false := by simpa using h2
      go_enter Try.func22, Try.ntmps22
      go_wp2
      go_ret
      exact ⟨by simp [wiB, h1, h3], rfl⟩
  · have h3 : decide (a ≤ n) = false := by simpa using h1
    go_enter Try.func22, Try.ntmps22
    go_wp2
    go_ret
    exact ⟨by simp [wiB, h3], rfl⟩
theorem within23 (n a b : Int) (w : World) : Calls Try.prog 23 #[.int .i64 n, .int .i64 a, .int .i64 b] w fun e w' => e = .returned (.bool (wiB n a b)) ∧ w = w' := by
  by_cases h1 : a ≤ n
  · by_cases h2 : n < b
    · go_enter Try.func23, Try.ntmps23
      go_wp2
      go_ret
      exact ⟨by simp [wiB, h1, h2], rfl⟩
    · have h3 : decide (n < b) = false := by simpa using h2
      go_enter Try.func23, Try.ntmps23
      go_wp2
      go_ret
      exact ⟨by simp [wiB, h1, h3], rfl⟩
  · have h3 : decide (a ≤ n) = false := by simpa using h1
    go_enter Try.func23, Try.ntmps23
    go_wp2
    go_ret
    exact ⟨by simp [wiB, h3], rfl⟩

theorem makes_walk (c a b d : Int) (w : World) : Calls Try.prog 4 #[.int .u8 c, .int .i64 a, .int .i64 b, .int .i64 d] w fun e w' => e = .returned (.bool true) ∧ w = w' := by
  obtain ⟨v1, k1, o1, o2⟩ := one_both c a
  obtain ⟨v2, k2, t1, t2⟩ := two_both c a b
  obtain ⟨k3, r1, r2⟩ := arity_both c
  have O1 := Lib.hid o1
  have O2 := Lib.hid o2
  have T1 := Lib.hid t1
  have T2 := Lib.hid t2
  have R1 := Lib.hid r1
  have R2 := Lib.hid r2
  clear o1 o2 t1 t2 r1 r2
  go_enter Try.func4, Try.ntmps4
  go_wp2_with (first | (go_at_call 18; refine (O1.out _).mono ?_; rintro e w' ⟨rfl, rfl⟩) | (go_at_call 19; refine (O2.out _).mono ?_; rintro e w' ⟨rfl, rfl⟩) | (go_at_call 20; refine (T1.out _).mono ?_; rintro e w' ⟨rfl, rfl⟩) | (go_at_call 21; refine (T2.out _).mono ?_; rintro e w' ⟨rfl, rfl⟩) | (go_at_call 22; refine (within22 _ _ _ _).mono ?_; rintro e w' ⟨rfl, rfl⟩) | (go_at_call 23; refine (within23 _ _ _ _).mono ?_; rintro e w' ⟨rfl, rfl⟩) | (go_at_call 24; refine (R1.out _).mono ?_; rintro e w' ⟨rfl, rfl⟩) | (go_at_call 25; refine (R2.out _).mono ?_; rintro e w' ⟨rfl, rfl⟩))
  go_ret
  exact ⟨rfl, rfl⟩
end Go.Proofs.Ytbhopgklnddelaa
