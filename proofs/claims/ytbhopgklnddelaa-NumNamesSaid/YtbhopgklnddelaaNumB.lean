/- Contracts of num's ofOne and ofTwo, purserref11.Arity, and num.Arity. No condition. -/
import Derived.Test.YtbhopgklnddelaaNumA
namespace Go.Proofs.Ytbhopgklnddelaa
open Go.RowKit Go.Lib

def ones : List Int := [139, 140, 143, 144, 145, 146]
def twos : List Int := [147, 148, 154, 155, 156, 157, 158, 159, 160, 161, 162, 163, 164]
theorem neq60 (f : Nat) (w : World) : (binOp .neq 60 (.func (.func f) #[] #[]) .nilFunc).run Try.prog w = .ok (.bool true) w := by kernel_rfl
theorem neq60n (w : World) : (binOp .neq 60 .nilFunc .nilFunc).run Try.prog w = .ok (.bool false) w := by kernel_rfl
theorem neq63 (f : Nat) (w : World) : (binOp .neq 63 (.func (.func f) #[] #[]) .nilFunc).run Try.prog w = .ok (.bool true) w := by kernel_rfl
theorem neq63n (w : World) : (binOp .neq 63 .nilFunc .nilFunc).run Try.prog w = .ok (.bool false) w := by kernel_rfl
theorem eql60 (f : Nat) (w : World) : (binOp .eql 60 (.func (.func f) #[] #[]) .nilFunc).run Try.prog w = .ok (.bool false) w := by kernel_rfl
theorem eql60n (w : World) : (binOp .eql 60 .nilFunc .nilFunc).run Try.prog w = .ok (.bool true) w := by kernel_rfl
theorem eql63 (f : Nat) (w : World) : (binOp .eql 63 (.func (.func f) #[] #[]) .nilFunc).run Try.prog w = .ok (.bool false) w := by kernel_rfl
theorem eql63n (w : World) : (binOp .eql 63 .nilFunc .nilFunc).run Try.prog w = .ok (.bool true) w := by kernel_rfl
theorem nf (c k : Int) (h : c ≠ k) : (c == k) = false := by simpa using h

theorem ofOne_139 (w : World) : Calls Try.prog 34 #[.int .u8 139] w fun e w' => e = .returned (.func (.func 40) #[] #[]) ∧ w = w' := by
  go_enter Try.func34, Try.ntmps34
  go_wp2
  go_ret
  exact ⟨rfl, rfl⟩

theorem ofOne_140 (w : World) : Calls Try.prog 34 #[.int .u8 140] w fun e w' => e = .returned (.func (.func 41) #[] #[]) ∧ w = w' := by
  go_enter Try.func34, Try.ntmps34
  go_wp2
  go_ret
  exact ⟨rfl, rfl⟩

theorem ofOne_143 (w : World) : Calls Try.prog 34 #[.int .u8 143] w fun e w' => e = .returned (.func (.func 42) #[] #[]) ∧ w = w' := by
  go_enter Try.func34, Try.ntmps34
  go_wp2
  go_ret
  exact ⟨rfl, rfl⟩

theorem ofOne_144 (w : World) : Calls Try.prog 34 #[.int .u8 144] w fun e w' => e = .returned (.func (.func 43) #[] #[]) ∧ w = w' := by
  go_enter Try.func34, Try.ntmps34
  go_wp2
  go_ret
  exact ⟨rfl, rfl⟩

theorem ofOne_145 (w : World) : Calls Try.prog 34 #[.int .u8 145] w fun e w' => e = .returned (.func (.func 44) #[] #[]) ∧ w = w' := by
  go_enter Try.func34, Try.ntmps34
  go_wp2
  go_ret
  exact ⟨rfl, rfl⟩

theorem ofOne_146 (w : World) : Calls Try.prog 34 #[.int .u8 146] w fun e w' => e = .returned (.func (.func 45) #[] #[]) ∧ w = w' := by
  go_enter Try.func34, Try.ntmps34
  go_wp2
  go_ret
  exact ⟨rfl, rfl⟩

theorem ofTwo_147 (w : World) : Calls Try.prog 37 #[.int .u8 147] w fun e w' => e = .returned (.func (.func 46) #[] #[]) ∧ w = w' := by
  go_enter Try.func37, Try.ntmps37
  go_wp2
  go_ret
  exact ⟨rfl, rfl⟩

theorem ofTwo_148 (w : World) : Calls Try.prog 37 #[.int .u8 148] w fun e w' => e = .returned (.func (.func 47) #[] #[]) ∧ w = w' := by
  go_enter Try.func37, Try.ntmps37
  go_wp2
  go_ret
  exact ⟨rfl, rfl⟩

theorem ofTwo_154 (w : World) : Calls Try.prog 37 #[.int .u8 154] w fun e w' => e = .returned (.func (.func 48) #[] #[]) ∧ w = w' := by
  go_enter Try.func37, Try.ntmps37
  go_wp2
  go_ret
  exact ⟨rfl, rfl⟩

theorem ofTwo_155 (w : World) : Calls Try.prog 37 #[.int .u8 155] w fun e w' => e = .returned (.func (.func 49) #[] #[]) ∧ w = w' := by
  go_enter Try.func37, Try.ntmps37
  go_wp2
  go_ret
  exact ⟨rfl, rfl⟩

theorem ofTwo_156 (w : World) : Calls Try.prog 37 #[.int .u8 156] w fun e w' => e = .returned (.func (.func 50) #[] #[]) ∧ w = w' := by
  go_enter Try.func37, Try.ntmps37
  go_wp2
  go_ret
  exact ⟨rfl, rfl⟩

theorem ofTwo_157 (w : World) : Calls Try.prog 37 #[.int .u8 157] w fun e w' => e = .returned (.func (.func 50) #[] #[]) ∧ w = w' := by
  go_enter Try.func37, Try.ntmps37
  go_wp2
  go_ret
  exact ⟨rfl, rfl⟩

theorem ofTwo_158 (w : World) : Calls Try.prog 37 #[.int .u8 158] w fun e w' => e = .returned (.func (.func 51) #[] #[]) ∧ w = w' := by
  go_enter Try.func37, Try.ntmps37
  go_wp2
  go_ret
  exact ⟨rfl, rfl⟩

theorem ofTwo_159 (w : World) : Calls Try.prog 37 #[.int .u8 159] w fun e w' => e = .returned (.func (.func 52) #[] #[]) ∧ w = w' := by
  go_enter Try.func37, Try.ntmps37
  go_wp2
  go_ret
  exact ⟨rfl, rfl⟩

theorem ofTwo_160 (w : World) : Calls Try.prog 37 #[.int .u8 160] w fun e w' => e = .returned (.func (.func 53) #[] #[]) ∧ w = w' := by
  go_enter Try.func37, Try.ntmps37
  go_wp2
  go_ret
  exact ⟨rfl, rfl⟩

theorem ofTwo_161 (w : World) : Calls Try.prog 37 #[.int .u8 161] w fun e w' => e = .returned (.func (.func 54) #[] #[]) ∧ w = w' := by
  go_enter Try.func37, Try.ntmps37
  go_wp2
  go_ret
  exact ⟨rfl, rfl⟩

theorem ofTwo_162 (w : World) : Calls Try.prog 37 #[.int .u8 162] w fun e w' => e = .returned (.func (.func 55) #[] #[]) ∧ w = w' := by
  go_enter Try.func37, Try.ntmps37
  go_wp2
  go_ret
  exact ⟨rfl, rfl⟩

theorem ofTwo_163 (w : World) : Calls Try.prog 37 #[.int .u8 163] w fun e w' => e = .returned (.func (.func 56) #[] #[]) ∧ w = w' := by
  go_enter Try.func37, Try.ntmps37
  go_wp2
  go_ret
  exact ⟨rfl, rfl⟩

theorem ofTwo_164 (w : World) : Calls Try.prog 37 #[.int .u8 164] w fun e w' => e = .returned (.func (.func 57) #[] #[]) ∧ w = w' := by
  go_enter Try.func37, Try.ntmps37
  go_wp2
  go_ret
  exact ⟨rfl, rfl⟩

theorem ofOne_none (c : Int) (h : c ∉ ones) (w : World) : Calls Try.prog 34 #[.int .u8 c] w fun e w' => e = .returned .nilFunc ∧ w = w' := by
  have e139 := nf c 139 (fun e => h (by rw [e]; decide))
  have e140 := nf c 140 (fun e => h (by rw [e]; decide))
  have e143 := nf c 143 (fun e => h (by rw [e]; decide))
  have e144 := nf c 144 (fun e => h (by rw [e]; decide))
  have e145 := nf c 145 (fun e => h (by rw [e]; decide))
  have e146 := nf c 146 (fun e => h (by rw [e]; decide))
  clear h
  go_enter Try.func34, Try.ntmps34
  go_wp2
  go_ret
  exact ⟨rfl, rfl⟩
theorem ofTwo_none (c : Int) (h : c ∉ twos) (w : World) : Calls Try.prog 37 #[.int .u8 c] w fun e w' => e = .returned .nilFunc ∧ w = w' := by
  have e147 := nf c 147 (fun e => h (by rw [e]; decide))
  have e148 := nf c 148 (fun e => h (by rw [e]; decide))
  have e154 := nf c 154 (fun e => h (by rw [e]; decide))
  have e155 := nf c 155 (fun e => h (by rw [e]; decide))
  have e156 := nf c 156 (fun e => h (by rw [e]; decide))
  have e157 := nf c 157 (fun e => h (by rw [e]; decide))
  have e158 := nf c 158 (fun e => h (by rw [e]; decide))
  have e159 := nf c 159 (fun e => h (by rw [e]; decide))
  have e160 := nf c 160 (fun e => h (by rw [e]; decide))
  have e161 := nf c 161 (fun e => h (by rw [e]; decide))
  have e162 := nf c 162 (fun e => h (by rw [e]; decide))
  have e163 := nf c 163 (fun e => h (by rw [e]; decide))
  have e164 := nf c 164 (fun e => h (by rw [e]; decide))
  clear h
  go_enter Try.func37, Try.ntmps37
  go_wp2
  go_ret
  exact ⟨rfl, rfl⟩

theorem refArity_139 (w : World) : Calls Try.prog 25 #[.int .u8 139] w fun e w' => e = .returned (.int .i64 1) ∧ w = w' := by
  go_enter Try.func25, Try.ntmps25
  go_wp2
  go_ret
  exact ⟨rfl, rfl⟩

theorem arity_139 (w : World) : Calls Try.prog 24 #[.int .u8 139] w fun e w' => e = .returned (.int .i64 1) ∧ w = w' := by
  have q1 := neq60
  have q2 := neq60n
  have q3 := neq63
  have q4 := neq63n
  go_enter Try.func24, Try.ntmps24
  go_wp2_with ((go_at_call 34; refine (ofOne_139 _).mono ?_; rintro e w' ⟨rfl, rfl⟩))
  go_ret
  exact ⟨rfl, rfl⟩

theorem refArity_140 (w : World) : Calls Try.prog 25 #[.int .u8 140] w fun e w' => e = .returned (.int .i64 1) ∧ w = w' := by
  go_enter Try.func25, Try.ntmps25
  go_wp2
  go_ret
  exact ⟨rfl, rfl⟩

theorem arity_140 (w : World) : Calls Try.prog 24 #[.int .u8 140] w fun e w' => e = .returned (.int .i64 1) ∧ w = w' := by
  have q1 := neq60
  have q2 := neq60n
  have q3 := neq63
  have q4 := neq63n
  go_enter Try.func24, Try.ntmps24
  go_wp2_with ((go_at_call 34; refine (ofOne_140 _).mono ?_; rintro e w' ⟨rfl, rfl⟩))
  go_ret
  exact ⟨rfl, rfl⟩

theorem refArity_143 (w : World) : Calls Try.prog 25 #[.int .u8 143] w fun e w' => e = .returned (.int .i64 1) ∧ w = w' := by
  go_enter Try.func25, Try.ntmps25
  go_wp2
  go_ret
  exact ⟨rfl, rfl⟩

theorem arity_143 (w : World) : Calls Try.prog 24 #[.int .u8 143] w fun e w' => e = .returned (.int .i64 1) ∧ w = w' := by
  have q1 := neq60
  have q2 := neq60n
  have q3 := neq63
  have q4 := neq63n
  go_enter Try.func24, Try.ntmps24
  go_wp2_with ((go_at_call 34; refine (ofOne_143 _).mono ?_; rintro e w' ⟨rfl, rfl⟩))
  go_ret
  exact ⟨rfl, rfl⟩

theorem refArity_144 (w : World) : Calls Try.prog 25 #[.int .u8 144] w fun e w' => e = .returned (.int .i64 1) ∧ w = w' := by
  go_enter Try.func25, Try.ntmps25
  go_wp2
  go_ret
  exact ⟨rfl, rfl⟩

theorem arity_144 (w : World) : Calls Try.prog 24 #[.int .u8 144] w fun e w' => e = .returned (.int .i64 1) ∧ w = w' := by
  have q1 := neq60
  have q2 := neq60n
  have q3 := neq63
  have q4 := neq63n
  go_enter Try.func24, Try.ntmps24
  go_wp2_with ((go_at_call 34; refine (ofOne_144 _).mono ?_; rintro e w' ⟨rfl, rfl⟩))
  go_ret
  exact ⟨rfl, rfl⟩

theorem refArity_145 (w : World) : Calls Try.prog 25 #[.int .u8 145] w fun e w' => e = .returned (.int .i64 1) ∧ w = w' := by
  go_enter Try.func25, Try.ntmps25
  go_wp2
  go_ret
  exact ⟨rfl, rfl⟩

theorem arity_145 (w : World) : Calls Try.prog 24 #[.int .u8 145] w fun e w' => e = .returned (.int .i64 1) ∧ w = w' := by
  have q1 := neq60
  have q2 := neq60n
  have q3 := neq63
  have q4 := neq63n
  go_enter Try.func24, Try.ntmps24
  go_wp2_with ((go_at_call 34; refine (ofOne_145 _).mono ?_; rintro e w' ⟨rfl, rfl⟩))
  go_ret
  exact ⟨rfl, rfl⟩

theorem refArity_146 (w : World) : Calls Try.prog 25 #[.int .u8 146] w fun e w' => e = .returned (.int .i64 1) ∧ w = w' := by
  go_enter Try.func25, Try.ntmps25
  go_wp2
  go_ret
  exact ⟨rfl, rfl⟩

theorem arity_146 (w : World) : Calls Try.prog 24 #[.int .u8 146] w fun e w' => e = .returned (.int .i64 1) ∧ w = w' := by
  have q1 := neq60
  have q2 := neq60n
  have q3 := neq63
  have q4 := neq63n
  go_enter Try.func24, Try.ntmps24
  go_wp2_with ((go_at_call 34; refine (ofOne_146 _).mono ?_; rintro e w' ⟨rfl, rfl⟩))
  go_ret
  exact ⟨rfl, rfl⟩

theorem refArity_147 (w : World) : Calls Try.prog 25 #[.int .u8 147] w fun e w' => e = .returned (.int .i64 2) ∧ w = w' := by
  go_enter Try.func25, Try.ntmps25
  go_wp2
  go_ret
  exact ⟨rfl, rfl⟩

theorem arity_147 (w : World) : Calls Try.prog 24 #[.int .u8 147] w fun e w' => e = .returned (.int .i64 2) ∧ w = w' := by
  have q1 := neq60
  have q2 := neq60n
  have q3 := neq63
  have q4 := neq63n
  go_enter Try.func24, Try.ntmps24
  go_wp2_with (first | (go_at_call 34; refine (ofOne_none _ (by decide) _).mono ?_; rintro e w' ⟨rfl, rfl⟩) | (go_at_call 37; refine (ofTwo_147 _).mono ?_; rintro e w' ⟨rfl, rfl⟩))
  go_ret
  exact ⟨rfl, rfl⟩

theorem refArity_148 (w : World) : Calls Try.prog 25 #[.int .u8 148] w fun e w' => e = .returned (.int .i64 2) ∧ w = w' := by
  go_enter Try.func25, Try.ntmps25
  go_wp2
  go_ret
  exact ⟨rfl, rfl⟩

theorem arity_148 (w : World) : Calls Try.prog 24 #[.int .u8 148] w fun e w' => e = .returned (.int .i64 2) ∧ w = w' := by
  have q1 := neq60
  have q2 := neq60n
  have q3 := neq63
  have q4 := neq63n
  go_enter Try.func24, Try.ntmps24
  go_wp2_with (first | (go_at_call 34; refine (ofOne_none _ (by decide) _).mono ?_; rintro e w' ⟨rfl, rfl⟩) | (go_at_call 37; refine (ofTwo_148 _).mono ?_; rintro e w' ⟨rfl, rfl⟩))
  go_ret
  exact ⟨rfl, rfl⟩

theorem refArity_154 (w : World) : Calls Try.prog 25 #[.int .u8 154] w fun e w' => e = .returned (.int .i64 2) ∧ w = w' := by
  go_enter Try.func25, Try.ntmps25
  go_wp2
  go_ret
  exact ⟨rfl, rfl⟩

theorem arity_154 (w : World) : Calls Try.prog 24 #[.int .u8 154] w fun e w' => e = .returned (.int .i64 2) ∧ w = w' := by
  have q1 := neq60
  have q2 := neq60n
  have q3 := neq63
  have q4 := neq63n
  go_enter Try.func24, Try.ntmps24
  go_wp2_with (first | (go_at_call 34; refine (ofOne_none _ (by decide) _).mono ?_; rintro e w' ⟨rfl, rfl⟩) | (go_at_call 37; refine (ofTwo_154 _).mono ?_; rintro e w' ⟨rfl, rfl⟩))
  go_ret
  exact ⟨rfl, rfl⟩

theorem refArity_155 (w : World) : Calls Try.prog 25 #[.int .u8 155] w fun e w' => e = .returned (.int .i64 2) ∧ w = w' := by
  go_enter Try.func25, Try.ntmps25
  go_wp2
  go_ret
  exact ⟨rfl, rfl⟩

theorem arity_155 (w : World) : Calls Try.prog 24 #[.int .u8 155] w fun e w' => e = .returned (.int .i64 2) ∧ w = w' := by
  have q1 := neq60
  have q2 := neq60n
  have q3 := neq63
  have q4 := neq63n
  go_enter Try.func24, Try.ntmps24
  go_wp2_with (first | (go_at_call 34; refine (ofOne_none _ (by decide) _).mono ?_; rintro e w' ⟨rfl, rfl⟩) | (go_at_call 37; refine (ofTwo_155 _).mono ?_; rintro e w' ⟨rfl, rfl⟩))
  go_ret
  exact ⟨rfl, rfl⟩

theorem refArity_156 (w : World) : Calls Try.prog 25 #[.int .u8 156] w fun e w' => e = .returned (.int .i64 2) ∧ w = w' := by
  go_enter Try.func25, Try.ntmps25
  go_wp2
  go_ret
  exact ⟨rfl, rfl⟩

theorem arity_156 (w : World) : Calls Try.prog 24 #[.int .u8 156] w fun e w' => e = .returned (.int .i64 2) ∧ w = w' := by
  have q1 := neq60
  have q2 := neq60n
  have q3 := neq63
  have q4 := neq63n
  go_enter Try.func24, Try.ntmps24
  go_wp2_with (first | (go_at_call 34; refine (ofOne_none _ (by decide) _).mono ?_; rintro e w' ⟨rfl, rfl⟩) | (go_at_call 37; refine (ofTwo_156 _).mono ?_; rintro e w' ⟨rfl, rfl⟩))
  go_ret
  exact ⟨rfl, rfl⟩

theorem refArity_157 (w : World) : Calls Try.prog 25 #[.int .u8 157] w fun e w' => e = .returned (.int .i64 2) ∧ w = w' := by
  go_enter Try.func25, Try.ntmps25
  go_wp2
  go_ret
  exact ⟨rfl, rfl⟩

theorem arity_157 (w : World) : Calls Try.prog 24 #[.int .u8 157] w fun e w' => e = .returned (.int .i64 2) ∧ w = w' := by
  have q1 := neq60
  have q2 := neq60n
  have q3 := neq63
  have q4 := neq63n
  go_enter Try.func24, Try.ntmps24
  go_wp2_with (first | (go_at_call 34; refine (ofOne_none _ (by decide) _).mono ?_; rintro e w' ⟨rfl, rfl⟩) | (go_at_call 37; refine (ofTwo_157 _).mono ?_; rintro e w' ⟨rfl, rfl⟩))
  go_ret
  exact ⟨rfl, rfl⟩

theorem refArity_158 (w : World) : Calls Try.prog 25 #[.int .u8 158] w fun e w' => e = .returned (.int .i64 2) ∧ w = w' := by
  go_enter Try.func25, Try.ntmps25
  go_wp2
  go_ret
  exact ⟨rfl, rfl⟩

theorem arity_158 (w : World) : Calls Try.prog 24 #[.int .u8 158] w fun e w' => e = .returned (.int .i64 2) ∧ w = w' := by
  have q1 := neq60
  have q2 := neq60n
  have q3 := neq63
  have q4 := neq63n
  go_enter Try.func24, Try.ntmps24
  go_wp2_with (first | (go_at_call 34; refine (ofOne_none _ (by decide) _).mono ?_; rintro e w' ⟨rfl, rfl⟩) | (go_at_call 37; refine (ofTwo_158 _).mono ?_; rintro e w' ⟨rfl, rfl⟩))
  go_ret
  exact ⟨rfl, rfl⟩

theorem refArity_159 (w : World) : Calls Try.prog 25 #[.int .u8 159] w fun e w' => e = .returned (.int .i64 2) ∧ w = w' := by
  go_enter Try.func25, Try.ntmps25
  go_wp2
  go_ret
  exact ⟨rfl, rfl⟩

theorem arity_159 (w : World) : Calls Try.prog 24 #[.int .u8 159] w fun e w' => e = .returned (.int .i64 2) ∧ w = w' := by
  have q1 := neq60
  have q2 := neq60n
  have q3 := neq63
  have q4 := neq63n
  go_enter Try.func24, Try.ntmps24
  go_wp2_with (first | (go_at_call 34; refine (ofOne_none _ (by decide) _).mono ?_; rintro e w' ⟨rfl, rfl⟩) | (go_at_call 37; refine (ofTwo_159 _).mono ?_; rintro e w' ⟨rfl, rfl⟩))
  go_ret
  exact ⟨rfl, rfl⟩

theorem refArity_160 (w : World) : Calls Try.prog 25 #[.int .u8 160] w fun e w' => e = .returned (.int .i64 2) ∧ w = w' := by
  go_enter Try.func25, Try.ntmps25
  go_wp2
  go_ret
  exact ⟨rfl, rfl⟩

theorem arity_160 (w : World) : Calls Try.prog 24 #[.int .u8 160] w fun e w' => e = .returned (.int .i64 2) ∧ w = w' := by
  have q1 := neq60
  have q2 := neq60n
  have q3 := neq63
  have q4 := neq63n
  go_enter Try.func24, Try.ntmps24
  go_wp2_with (first | (go_at_call 34; refine (ofOne_none _ (by decide) _).mono ?_; rintro e w' ⟨rfl, rfl⟩) | (go_at_call 37; refine (ofTwo_160 _).mono ?_; rintro e w' ⟨rfl, rfl⟩))
  go_ret
  exact ⟨rfl, rfl⟩

theorem refArity_161 (w : World) : Calls Try.prog 25 #[.int .u8 161] w fun e w' => e = .returned (.int .i64 2) ∧ w = w' := by
  go_enter Try.func25, Try.ntmps25
  go_wp2
  go_ret
  exact ⟨rfl, rfl⟩

theorem arity_161 (w : World) : Calls Try.prog 24 #[.int .u8 161] w fun e w' => e = .returned (.int .i64 2) ∧ w = w' := by
  have q1 := neq60
  have q2 := neq60n
  have q3 := neq63
  have q4 := neq63n
  go_enter Try.func24, Try.ntmps24
  go_wp2_with (first | (go_at_call 34; refine (ofOne_none _ (by decide) _).mono ?_; rintro e w' ⟨rfl, rfl⟩) | (go_at_call 37; refine (ofTwo_161 _).mono ?_; rintro e w' ⟨rfl, rfl⟩))
  go_ret
  exact ⟨rfl, rfl⟩

theorem refArity_162 (w : World) : Calls Try.prog 25 #[.int .u8 162] w fun e w' => e = .returned (.int .i64 2) ∧ w = w' := by
  go_enter Try.func25, Try.ntmps25
  go_wp2
  go_ret
  exact ⟨rfl, rfl⟩

theorem arity_162 (w : World) : Calls Try.prog 24 #[.int .u8 162] w fun e w' => e = .returned (.int .i64 2) ∧ w = w' := by
  have q1 := neq60
  have q2 := neq60n
  have q3 := neq63
  have q4 := neq63n
  go_enter Try.func24, Try.ntmps24
  go_wp2_with (first | (go_at_call 34; refine (ofOne_none _ (by decide) _).mono ?_; rintro e w' ⟨rfl, rfl⟩) | (go_at_call 37; refine (ofTwo_162 _).mono ?_; rintro e w' ⟨rfl, rfl⟩))
  go_ret
  exact ⟨rfl, rfl⟩

theorem refArity_163 (w : World) : Calls Try.prog 25 #[.int .u8 163] w fun e w' => e = .returned (.int .i64 2) ∧ w = w' := by
  go_enter Try.func25, Try.ntmps25
  go_wp2
  go_ret
  exact ⟨rfl, rfl⟩

theorem arity_163 (w : World) : Calls Try.prog 24 #[.int .u8 163] w fun e w' => e = .returned (.int .i64 2) ∧ w = w' := by
  have q1 := neq60
  have q2 := neq60n
  have q3 := neq63
  have q4 := neq63n
  go_enter Try.func24, Try.ntmps24
  go_wp2_with (first | (go_at_call 34; refine (ofOne_none _ (by decide) _).mono ?_; rintro e w' ⟨rfl, rfl⟩) | (go_at_call 37; refine (ofTwo_163 _).mono ?_; rintro e w' ⟨rfl, rfl⟩))
  go_ret
  exact ⟨rfl, rfl⟩

theorem refArity_164 (w : World) : Calls Try.prog 25 #[.int .u8 164] w fun e w' => e = .returned (.int .i64 2) ∧ w = w' := by
  go_enter Try.func25, Try.ntmps25
  go_wp2
  go_ret
  exact ⟨rfl, rfl⟩

theorem arity_164 (w : World) : Calls Try.prog 24 #[.int .u8 164] w fun e w' => e = .returned (.int .i64 2) ∧ w = w' := by
  have q1 := neq60
  have q2 := neq60n
  have q3 := neq63
  have q4 := neq63n
  go_enter Try.func24, Try.ntmps24
  go_wp2_with (first | (go_at_call 34; refine (ofOne_none _ (by decide) _).mono ?_; rintro e w' ⟨rfl, rfl⟩) | (go_at_call 37; refine (ofTwo_164 _).mono ?_; rintro e w' ⟨rfl, rfl⟩))
  go_ret
  exact ⟨rfl, rfl⟩

theorem refArity_165 (w : World) : Calls Try.prog 25 #[.int .u8 165] w fun e w' => e = .returned (.int .i64 3) ∧ w = w' := by
  go_enter Try.func25, Try.ntmps25
  go_wp2
  go_ret
  exact ⟨rfl, rfl⟩

theorem arity_165 (w : World) : Calls Try.prog 24 #[.int .u8 165] w fun e w' => e = .returned (.int .i64 3) ∧ w = w' := by
  have q1 := neq60
  have q2 := neq60n
  have q3 := neq63
  have q4 := neq63n
  go_enter Try.func24, Try.ntmps24
  go_wp2_with (first | (go_at_call 34; refine (ofOne_none _ (by decide) _).mono ?_; rintro e w' ⟨rfl, rfl⟩) | (go_at_call 37; refine (ofTwo_none _ (by decide) _).mono ?_; rintro e w' ⟨rfl, rfl⟩))
  go_ret
  exact ⟨rfl, rfl⟩

theorem refArity_none (c : Int) (h1 : c ∉ ones) (h2 : c ∉ twos) (h3 : c ≠ 165) (w : World) : Calls Try.prog 25 #[.int .u8 c] w fun e w' => e = .returned (.int .i64 0) ∧ w = w' := by
  have e139 := nf c 139 (fun e => h1 (by rw [e]; decide))
  have e140 := nf c 140 (fun e => h1 (by rw [e]; decide))
  have e143 := nf c 143 (fun e => h1 (by rw [e]; decide))
  have e144 := nf c 144 (fun e => h1 (by rw [e]; decide))
  have e145 := nf c 145 (fun e => h1 (by rw [e]; decide))
  have e146 := nf c 146 (fun e => h1 (by rw [e]; decide))
  have e147 := nf c 147 (fun e => h2 (by rw [e]; decide))
  have e148 := nf c 148 (fun e => h2 (by rw [e]; decide))
  have e154 := nf c 154 (fun e => h2 (by rw [e]; decide))
  have e155 := nf c 155 (fun e => h2 (by rw [e]; decide))
  have e156 := nf c 156 (fun e => h2 (by rw [e]; decide))
  have e157 := nf c 157 (fun e => h2 (by rw [e]; decide))
  have e158 := nf c 158 (fun e => h2 (by rw [e]; decide))
  have e159 := nf c 159 (fun e => h2 (by rw [e]; decide))
  have e160 := nf c 160 (fun e => h2 (by rw [e]; decide))
  have e161 := nf c 161 (fun e => h2 (by rw [e]; decide))
  have e162 := nf c 162 (fun e => h2 (by rw [e]; decide))
  have e163 := nf c 163 (fun e => h2 (by rw [e]; decide))
  have e164 := nf c 164 (fun e => h2 (by rw [e]; decide))
  have e165 := nf c 165 h3
  clear h1 h2 h3
  go_enter Try.func25, Try.ntmps25
  go_wp2
  go_ret
  exact ⟨rfl, rfl⟩
theorem arity_none (c : Int) (h1 : c ∉ ones) (h2 : c ∉ twos) (h3 : c ≠ 165) (w : World) : Calls Try.prog 24 #[.int .u8 c] w fun e w' => e = .returned (.int .i64 0) ∧ w = w' := by
  have e165 := nf c 165 h3
  clear h3
  have q1 := neq60
  have q2 := neq60n
  have q3 := neq63
  have q4 := neq63n
  go_enter Try.func24, Try.ntmps24
  go_wp2_with (first | (go_at_call 34; refine (ofOne_none _ h1 _).mono ?_; rintro e w' ⟨rfl, rfl⟩) | (go_at_call 37; refine (ofTwo_none _ h2 _).mono ?_; rintro e w' ⟨rfl, rfl⟩))
  go_ret
  exact ⟨rfl, rfl⟩
end Go.Proofs.Ytbhopgklnddelaa
