/- Contracts of num.Encode and num.Flag. No condition. -/
import Derived.Test.YtbhopgklnddelaaNumH
import Derived.Test.YtbhopgklnddelaaNumA
namespace Go.Proofs.Ytbhopgklnddelaa
open Go.RowKit Go.Shelf

/-- What Encode answers for a number that has bytes. -/
def EncPost (w : World) (n : Int) (e : Ending) (w' : World) : Prop :=
  ∃ A c, e = .returned (.tuple #[.slice A (encB n).length c, .int .i64 0]) ∧ Holds8 w'.heap.size w' A (encB n) ∧ (∀ a, A = some a → w.heap.size ≤ a.block) ∧ Below w.heap.size w w'

set_option maxRecDepth 100000 in
theorem encode_yes (n : Int) (h1 : -549755813887 ≤ n) (h2 : n ≤ 549755813887) (w : World) : Calls Try.prog 10 #[.int .i64 n] w (EncPost w n) := by
  have c := encoded_any n (by omega) (by omega)
  have C := Lib.hid c
  have d1 : decide (n < -549755813887) = false := by simp; omega
  have d2 : decide (549755813887 < n) = false := by simp; omega
  clear c h1 h2
  go_enter Try.func10, Try.ntmps10
  go_wp2_with (go_at_call 29; refine Calls.mono (C.out _) ?_; rintro e w1 ⟨A, c, rfl, hh, hfr, hb⟩)
  go_ret2
  exact ⟨A, c, rfl, hh, hfr, hb⟩
set_option maxRecDepth 100000 in
theorem encode_no (n : Int) (h : n < -549755813887 ∨ 549755813887 < n) (w : World) : Calls Try.prog 10 #[.int .i64 n] w fun e w' => e = .returned (.tuple #[.slice none 0 0, .int .i64 110]) ∧ w = w' := by
  by_cases h1 : n < -549755813887
  · have d1 : decide (n < -549755813887) = true := by simpa using h1
    clear h h1
    go_enter Try.func10, Try.ntmps10
    go_wp2
    go_ret2
    exact ⟨rfl, rfl⟩
  · have d1 : decide (n < -549755813887) = false := by simpa using h1
    have d2 : decide (549755813887 < n) = true := by simp; omega
    clear h h1
    go_enter Try.func10, Try.ntmps10
    go_wp2
    go_ret2
    exact ⟨rfl, rfl⟩
theorem flag_any (b : Bool) (w : World) : Calls Try.prog 16 #[.bool b] w (NewBytes w (encB (tv b))) := by
  have c := encoded_any (tv b) (by cases b <;> decide) (by cases b <;> decide)
  have C := Lib.hid c
  clear c
  go_enter Try.func16, Try.ntmps16
  go_wp2_with (first | (go_at_call 32; refine (truth32 _ _).mono ?_; rintro e w' ⟨rfl, rfl⟩) | (go_at_call 29; refine Calls.mono (C.out _) ?_; rintro e w1 ⟨A, c, rfl, hh, hfr, hb⟩))
  go_ret
  exact ⟨A, c, rfl, hh, hfr, hb⟩
end Go.Proofs.Ytbhopgklnddelaa
