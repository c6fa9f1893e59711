/- OctetNames is true. (Closed.) -/
import Derived.Test.YtngkckngjobojaaOctQ
import Derived.Test.YtngkckngjobojaaOctOpen
namespace Go.Proofs.Ytngkckngjobojaa.Oct
open Go.Proofs.Ytngkckngjobojaa Go.ChangeShapes Go.WideShapes Go.ChangeAt Go.RowKit Go.Shelf
set_option maxRecDepth 100000 in
set_option maxHeartbeats 16000000 in
theorem names_walk (w : World) : Calls Try.prog 5 #[] w fun e w' => e = .returned (.bool true) ∧ Below w.heap.size w w' := by
  have HBW := Lib.hid (new_below w (.cells #[.slice none 0 0] 27))
  have HF1 := Lib.hid (show ∀ W : World, PenIn w.heap.size W w.heap.size [] → Calls Try.prog 27 #[.pointer (some ⟨w.heap.size, 0, none⟩), .int .i64 1, .int .u64 256] W (fun e w' => e = .returned (.int .i64 10) ∧ PenIn w.heap.size w' w.heap.size [] ∧ Below w.heap.size W w') from fun W h => pen_fixed_in [] [] 1 10 256 (by decide) (by decide) (by decide +kernel) (by decide +kernel) _ _ W h)
  have HF2 := Lib.hid (show ∀ W : World, PenIn w.heap.size W w.heap.size [] → Calls Try.prog 27 #[.pointer (some ⟨w.heap.size, 0, none⟩), .int .i64 3, .int .u64 0] W (fun e w' => e = .returned (.int .i64 2) ∧ PenIn w.heap.size w' w.heap.size [] ∧ Below w.heap.size W w') from fun W h => pen_fixed_in [] [] 3 2 0 (by decide) (by decide) (by decide +kernel) (by decide +kernel) _ _ W h)
  have HF3 := Lib.hid (show ∀ W : World, PenIn w.heap.size W w.heap.size [] → Calls Try.prog 27 #[.pointer (some ⟨w.heap.size, 0, none⟩), .int .i64 0, .int .u64 0] W (fun e w' => e = .returned (.int .i64 2) ∧ PenIn w.heap.size w' w.heap.size [] ∧ Below w.heap.size W w') from fun W h => pen_fixed_in [] [] 0 2 0 (by decide) (by decide) (by decide +kernel) (by decide +kernel) _ _ W h)
  have HF4 := Lib.hid (show ∀ W : World, PenIn w.heap.size W w.heap.size [] → Calls Try.prog 27 #[.pointer (some ⟨w.heap.size, 0, none⟩), .int .i64 16, .int .u64 0] W (fun e w' => e = .returned (.int .i64 2) ∧ PenIn w.heap.size w' w.heap.size [] ∧ Below w.heap.size W w') from fun W h => pen_fixed_in [] [] 16 2 0 (by decide) (by decide) (by decide +kernel) (by decide +kernel) _ _ W h)
  have HF5 := Lib.hid (show ∀ W : World, PenIn w.heap.size W w.heap.size [] → Calls Try.prog 27 #[.pointer (some ⟨w.heap.size, 0, none⟩), .int .i64 4, .int .u64 4294967296] W (fun e w' => e = .returned (.int .i64 10) ∧ PenIn w.heap.size w' w.heap.size [] ∧ Below w.heap.size W w') from fun W h => pen_fixed_in [] [] 4 10 4294967296 (by decide) (by decide) (by decide +kernel) (by decide +kernel) _ _ W h)
  have HF6 := Lib.hid (show ∀ W : World, PenIn w.heap.size W w.heap.size [] → Calls Try.prog 27 #[.pointer (some ⟨w.heap.size, 0, none⟩), .int .i64 8, .int .u64 18446744073709551615] W (fun e w' => e = .returned (.int .i64 0) ∧ PenIn w.heap.size w' w.heap.size [255, 255, 255, 255, 255, 255, 255, 255] ∧ Below w.heap.size W w') from fun W h => pen_fixed_in [] [255, 255, 255, 255, 255, 255, 255, 255] 8 0 18446744073709551615 (by decide) (by decide) (by decide +kernel) (by decide +kernel) _ _ W h)
  have HL7 := Lib.hid (show ∀ W : World, PenIn w.heap.size W w.heap.size [255, 255, 255, 255, 255, 255, 255, 255] → Calls Try.prog 11 #[.pointer (some ⟨w.heap.size, 0, none⟩)] W (fun e w' => e = .returned (.int .i64 8) ∧ W = w') from fun W h => penLen_any _ _ [255, 255, 255, 255, 255, 255, 255, 255] W h.1)
  have HC8 := Lib.hid (show ∀ W : World, Calls Try.prog 13 #[.int .u64 252] W (fun e w' => e = .returned (.int .i64 1) ∧ Below W.heap.size W w') from fun W => by have q := compact_any 252 (by decide) W; rw [show cmpL 252 = 1 by decide +kernel] at q; exact q)
  have HC9 := Lib.hid (show ∀ W : World, Calls Try.prog 13 #[.int .u64 253] W (fun e w' => e = .returned (.int .i64 3) ∧ Below W.heap.size W w') from fun W => by have q := compact_any 253 (by decide) W; rw [show cmpL 253 = 3 by decide +kernel] at q; exact q)
  have HC10 := Lib.hid (show ∀ W : World, Calls Try.prog 13 #[.int .u64 65535] W (fun e w' => e = .returned (.int .i64 3) ∧ Below W.heap.size W w') from fun W => by have q := compact_any 65535 (by decide) W; rw [show cmpL 65535 = 3 by decide +kernel] at q; exact q)
  have HC11 := Lib.hid (show ∀ W : World, Calls Try.prog 13 #[.int .u64 65536] W (fun e w' => e = .returned (.int .i64 5) ∧ Below W.heap.size W w') from fun W => by have q := compact_any 65536 (by decide) W; rw [show cmpL 65536 = 5 by decide +kernel] at q; exact q)
  have HC12 := Lib.hid (show ∀ W : World, Calls Try.prog 13 #[.int .u64 4294967295] W (fun e w' => e = .returned (.int .i64 5) ∧ Below W.heap.size W w') from fun W => by have q := compact_any 4294967295 (by decide) W; rw [show cmpL 4294967295 = 5 by decide +kernel] at q; exact q)
  have HC13 := Lib.hid (show ∀ W : World, Calls Try.prog 13 #[.int .u64 4294967296] W (fun e w' => e = .returned (.int .i64 9) ∧ Below W.heap.size W w') from fun W => by have q := compact_any 4294967296 (by decide) W; rw [show cmpL 4294967296 = 9 by decide +kernel] at q; exact q)
  have HS14 := Lib.hid (show ∀ (W : World) b, PenIn w.heap.size W b [] → Calls Try.prog 28 #[.pointer (some ⟨b, 0, none⟩), .int .u64 65536] W (fun e w' => e = .returned (.int .i64 0) ∧ PenIn w.heap.size w' b [254, 0, 0, 1, 0] ∧ Below w.heap.size W w') from fun W b h => pen_size_in [] [254, 0, 0, 1, 0] 65536 (by decide) (by decide) (by decide +kernel) _ _ W h)
  have HS15 := Lib.hid (show ∀ (W : World) b, PenIn w.heap.size W b [254, 0, 0, 1, 0] → Calls Try.prog 28 #[.pointer (some ⟨b, 0, none⟩), .int .u64 4294967296] W (fun e w' => e = .returned (.int .i64 0) ∧ PenIn w.heap.size w' b [254, 0, 0, 1, 0, 255, 0, 0, 0, 0, 1, 0, 0, 0] ∧ Below w.heap.size W w') from fun W b h => pen_size_in [254, 0, 0, 1, 0] [254, 0, 0, 1, 0, 255, 0, 0, 0, 0, 1, 0, 0, 0] 4294967296 (by decide) (by decide) (by decide +kernel) _ _ W h)
  have HA16 := Lib.hid (show ∀ (W : World) b, PenIn w.heap.size W b [254, 0, 0, 1, 0, 255, 0, 0, 0, 0, 1, 0, 0, 0] → Calls Try.prog 12 #[.pointer (some ⟨b, 0, none⟩)] W (fun e w' => ∃ X c, e = .returned (.slice X 14 c) ∧ Holds8 w'.heap.size w' X [254, 0, 0, 1, 0, 255, 0, 0, 0, 0, 1, 0, 0, 0] ∧ Below w.heap.size W w') from fun W b h => pen_all_in [254, 0, 0, 1, 0, 255, 0, 0, 0, 0, 1, 0, 0, 0] 14 rfl (by decide) _ _ W h)
  have HT17 := Lib.hid (show ∀ (W : World) X c, Holds8 W.heap.size W X [254, 0, 0, 1, 0, 255, 0, 0, 0, 0, 1, 0, 0, 0] → (convert 25 9 (.slice X 14 c)).run Try.prog W = .ok (.string ⟨#[254, 0, 0, 1, 0, 255, 0, 0, 0, 0, 1, 0, 0, 0]⟩) W from fun W X c h => str_of h c)
  have HK18 := Lib.hid (look_in [253, 252, 0] 3 #[.int .u8 253, .int .u8 252, .int .u8 0] rfl rfl (by decide))
  have HO19 := Lib.hid (show ∀ (W : World) r, EyeIn w.heap.size W r [253, 252, 0] → Calls Try.prog 19 #[.pointer (some ⟨r, 0, none⟩)] W (fun e w' => e = .returned (.tuple #[.int .u64 0, .int .i64 10]) ∧ EyeIn w.heap.size w' r [253, 252, 0] ∧ Below w.heap.size W w' ∧ EyeStep r W w') from fun W r h => eye_size_in [253, 252, 0] [253, 252, 0] 10 0 (by decide) (by decide +kernel) _ _ W h)
  have HO20 := Lib.hid (show ∀ (W : World) r, EyeIn w.heap.size W r [253, 252, 0] → Calls Try.prog 22 #[.pointer (some ⟨r, 0, none⟩), .int .i64 9] W (fun e w' => ∃ X c, e = .returned (.tuple #[.slice X 0 c, .int .i64 10]) ∧ Holds8 w'.heap.size w' X [] ∧ (∀ a, X = some a → W.heap.size ≤ a.block) ∧ (∀ a, X = some a → a.block ≠ r) ∧ EyeIn w.heap.size w' r [253, 252, 0] ∧ Below w.heap.size W w' ∧ EyeStep r W w') from fun W r h => eye_bytes_in [253, 252, 0] [] [253, 252, 0] 9 10 0 (by decide) (by decide) (by decide +kernel) rfl _ _ W h)
  have HL22 := Lib.hid (show ∀ (W : World) r, EyeIn w.heap.size W r [253, 252, 0] → Calls Try.prog 25 #[.pointer (some ⟨r, 0, none⟩)] W (fun e w' => e = .returned (.int .i64 3) ∧ W = w') from fun W r h => eye_left_in [253, 252, 0] _ _ W h)
  have HK23 := Lib.hid (look_in [2, 97] 2 #[.int .u8 2, .int .u8 97] rfl rfl (by decide))
  have HO24 := Lib.hid (show ∀ (W : World) r, EyeIn w.heap.size W r [2, 97] → Calls Try.prog 22 #[.pointer (some ⟨r, 0, none⟩), .int .i64 9] W (fun e w' => ∃ X c, e = .returned (.tuple #[.slice X 0 c, .int .i64 10]) ∧ Holds8 w'.heap.size w' X [] ∧ (∀ a, X = some a → W.heap.size ≤ a.block) ∧ (∀ a, X = some a → a.block ≠ r) ∧ EyeIn w.heap.size w' r [2, 97] ∧ Below w.heap.size W w' ∧ EyeStep r W w') from fun W r h => eye_bytes_in [2, 97] [] [2, 97] 9 10 0 (by decide) (by decide) (by decide +kernel) rfl _ _ W h)
  have HK26 := Lib.hid (look_in [2, 97, 98, 7, 0] 5 #[.int .u8 2, .int .u8 97, .int .u8 98, .int .u8 7, .int .u8 0] rfl rfl (by decide))
  have HO27 := Lib.hid (show ∀ (W : World) r, EyeIn w.heap.size W r [2, 97, 98, 7, 0] → Calls Try.prog 22 #[.pointer (some ⟨r, 0, none⟩), .int .i64 1] W (fun e w' => ∃ X c, e = .returned (.tuple #[.slice X 0 c, .int .i64 10]) ∧ Holds8 w'.heap.size w' X [] ∧ (∀ a, X = some a → W.heap.size ≤ a.block) ∧ (∀ a, X = some a → a.block ≠ r) ∧ EyeIn w.heap.size w' r [2, 97, 98, 7, 0] ∧ Below w.heap.size W w' ∧ EyeStep r W w') from fun W r h => eye_bytes_in [2, 97, 98, 7, 0] [] [2, 97, 98, 7, 0] 1 10 0 (by decide) (by decide) (by decide +kernel) rfl _ _ W h)
  have HO29 := Lib.hid (show ∀ (W : World) r, EyeIn w.heap.size W r [2, 97, 98, 7, 0] → Calls Try.prog 22 #[.pointer (some ⟨r, 0, none⟩), .int .i64 2] W (fun e w' => ∃ X c, e = .returned (.tuple #[.slice X 2 c, .int .i64 0]) ∧ Holds8 w'.heap.size w' X [97, 98] ∧ (∀ a, X = some a → W.heap.size ≤ a.block) ∧ (∀ a, X = some a → a.block ≠ r) ∧ EyeIn w.heap.size w' r [7, 0] ∧ Below w.heap.size W w' ∧ EyeStep r W w') from fun W r h => eye_bytes_in [2, 97, 98, 7, 0] [97, 98] [7, 0] 2 0 2 (by decide) (by decide) (by decide +kernel) rfl _ _ W h)
  have HN30 := Lib.hid (show ∀ (W : World) r, EyeIn w.heap.size W r [7, 0] → Calls Try.prog 26 #[.pointer (some ⟨r, 0, none⟩)] W (fun e w' => e = .returned (.int .i64 10) ∧ W = w') from fun W r h => eye_end_in [7, 0] 10 (by decide) _ _ W h)
  have HO31 := Lib.hid (show ∀ (W : World) r, EyeIn w.heap.size W r [7, 0] → Calls Try.prog 17 #[.pointer (some ⟨r, 0, none⟩), .int .i64 2] W (fun e w' => e = .returned (.tuple #[.int .u64 7, .int .i64 0]) ∧ EyeIn w.heap.size w' r [] ∧ Below w.heap.size W w' ∧ EyeStep r W w') from fun W r h => eye_fixed_in [7, 0] [] 2 0 7 (by decide) (by decide +kernel) _ _ W h)
  have HO32 := Lib.hid (show ∀ (W : World) r, EyeIn w.heap.size W r [] → Calls Try.prog 19 #[.pointer (some ⟨r, 0, none⟩)] W (fun e w' => e = .returned (.tuple #[.int .u64 0, .int .i64 10]) ∧ EyeIn w.heap.size w' r [] ∧ Below w.heap.size W w' ∧ EyeStep r W w') from fun W r h => eye_size_in [] [] 10 0 (by decide) (by decide +kernel) _ _ W h)
  have HO33 := Lib.hid (show ∀ (W : World) r, EyeIn w.heap.size W r [] → Calls Try.prog 17 #[.pointer (some ⟨r, 0, none⟩), .int .i64 1] W (fun e w' => e = .returned (.tuple #[.int .u64 0, .int .i64 10]) ∧ EyeIn w.heap.size w' r [] ∧ Below w.heap.size W w' ∧ EyeStep r W w') from fun W r h => eye_fixed_in [] [] 1 10 0 (by decide) (by decide +kernel) _ _ W h)
  have HO34 := Lib.hid (show ∀ (W : World) r, EyeIn w.heap.size W r [] → Calls Try.prog 21 #[.pointer (some ⟨r, 0, none⟩), .int .i64 (-1)] W (fun e w' => ∃ X c, e = .returned (.tuple #[.slice X 0 c, .int .i64 2]) ∧ Holds8 w'.heap.size w' X [] ∧ (∀ a, X = some a → W.heap.size ≤ a.block) ∧ (∀ a, X = some a → a.block ≠ r) ∧ EyeIn w.heap.size w' r [] ∧ Below w.heap.size W w' ∧ EyeStep r W w') from fun W r h => eye_raw_in [] [] [] (-1) 2 0 (by decide) (by decide +kernel) rfl _ _ W h)
  have HO36 := Lib.hid (show ∀ (W : World) r, EyeIn w.heap.size W r [] → Calls Try.prog 21 #[.pointer (some ⟨r, 0, none⟩), .int .i64 1] W (fun e w' => ∃ X c, e = .returned (.tuple #[.slice X 0 c, .int .i64 10]) ∧ Holds8 w'.heap.size w' X [] ∧ (∀ a, X = some a → W.heap.size ≤ a.block) ∧ (∀ a, X = some a → a.block ≠ r) ∧ EyeIn w.heap.size w' r [] ∧ Below w.heap.size W w' ∧ EyeStep r W w') from fun W r h => eye_raw_in [] [] [] 1 10 0 (by decide) (by decide +kernel) rfl _ _ W h)
  have HO38 := Lib.hid (show ∀ (W : World) r, EyeIn w.heap.size W r [] → Calls Try.prog 17 #[.pointer (some ⟨r, 0, none⟩), .int .i64 5] W (fun e w' => e = .returned (.tuple #[.int .u64 0, .int .i64 2]) ∧ EyeIn w.heap.size w' r [] ∧ Below w.heap.size W w' ∧ EyeStep r W w') from fun W r h => eye_fixed_in [] [] 5 2 0 (by decide) (by decide +kernel) _ _ W h)
  have HK39 := Lib.hid (look_in [255, 0, 0, 0, 0, 0, 0, 0] 8 #[.int .u8 255, .int .u8 0, .int .u8 0, .int .u8 0, .int .u8 0, .int .u8 0, .int .u8 0, .int .u8 0] rfl rfl (by decide))
  have HO40 := Lib.hid (show ∀ (N : Nat) (W : World) r, EyeIn N W r [255, 0, 0, 0, 0, 0, 0, 0] → Calls Try.prog 19 #[.pointer (some ⟨r, 0, none⟩)] W (fun e w' => e = .returned (.tuple #[.int .u64 0, .int .i64 10]) ∧ EyeIn N w' r [255, 0, 0, 0, 0, 0, 0, 0] ∧ Below N W w' ∧ EyeStep r W w') from fun N W r h => eye_size_in [255, 0, 0, 0, 0, 0, 0, 0] [255, 0, 0, 0, 0, 0, 0, 0] 10 0 (by decide) (by decide +kernel) _ _ W h)
  have HT41 := Lib.hid (show ∀ (W : World) X c, Holds8 W.heap.size W X [97, 98] → (convert 25 9 (.slice X 2 c)).run Try.prog W = .ok (.string ⟨#[97, 98]⟩) W from fun W X c h => str_of h c)
  have HK42 := Lib.hid (look_in [0] 1 #[.int .u8 0] rfl rfl (by decide))
  have HO43 := Lib.hid (show ∀ (N : Nat) (W : World) r, EyeIn N W r [0] → Calls Try.prog 22 #[.pointer (some ⟨r, 0, none⟩), .int .i64 (-1)] W (fun e w' => ∃ X c, e = .returned (.tuple #[.slice X 0 c, .int .i64 10]) ∧ Holds8 w'.heap.size w' X [] ∧ (∀ a, X = some a → W.heap.size ≤ a.block) ∧ (∀ a, X = some a → a.block ≠ r) ∧ EyeIn N w' r [0] ∧ Below N W w' ∧ EyeStep r W w') from fun N W r h => eye_bytes_in [0] [] [0] (-1) 10 0 (by decide) (by decide) (by decide +kernel) rfl _ _ W h)
  have HN44 := Lib.hid (show ∀ (W : World) r, EyeIn w.heap.size W r [] → Calls Try.prog 26 #[.pointer (some ⟨r, 0, none⟩)] W (fun e w' => e = .returned (.int .i64 0) ∧ W = w') from fun W r h => eye_end_in [] 0 (by decide) _ _ W h)
  go_enter Try.func5, Try.ntmps5
  go_wp2_with (first
    | (go_at_call 27; (with_reducible refine (HF1.out _ (pen_in_new w w.heap.size (Nat.le_refl _))).mono ?_); rintro e w1 ⟨rfl, hp, hb⟩; have HP := Lib.hid hp; have HBW := Lib.hid (HBW.out.trans hb); clear hp hb HF1)
    | (go_at_call 27; (with_reducible refine (HF2.out _ HP.out).mono ?_); rintro e w2 ⟨rfl, hp, hb⟩; have HP := Lib.hid hp; have HBW := Lib.hid (HBW.out.trans hb); clear hp hb HF2)
    | (go_at_call 27; (with_reducible refine (HF3.out _ HP.out).mono ?_); rintro e w3 ⟨rfl, hp, hb⟩; have HP := Lib.hid hp; have HBW := Lib.hid (HBW.out.trans hb); clear hp hb HF3)
    | (go_at_call 27; (with_reducible refine (HF4.out _ HP.out).mono ?_); rintro e w4 ⟨rfl, hp, hb⟩; have HP := Lib.hid hp; have HBW := Lib.hid (HBW.out.trans hb); clear hp hb HF4)
    | (go_at_call 27; (with_reducible refine (HF5.out _ HP.out).mono ?_); rintro e w5 ⟨rfl, hp, hb⟩; have HP := Lib.hid hp; have HBW := Lib.hid (HBW.out.trans hb); clear hp hb HF5)
    | (go_at_call 27; (with_reducible refine (HF6.out _ HP.out).mono ?_); rintro e w6 ⟨rfl, hp, hb⟩; have HP := Lib.hid hp; have HBW := Lib.hid (HBW.out.trans hb); clear hp hb HF6)
    | (go_at_call 11; (with_reducible refine (HL7.out _ HP.out).mono ?_); rintro e w' ⟨rfl, rfl⟩; clear HL7 HP)
    | (go_at_call 13; (with_reducible refine (HC8.out _).mono ?_); rintro e w7 ⟨rfl, hb⟩; have HBW := Lib.hid (HBW.out.trans (hb.mono HBW.out.size)); clear hb HC8)
    | (go_at_call 13; (with_reducible refine (HC9.out _).mono ?_); rintro e w8 ⟨rfl, hb⟩; have HBW := Lib.hid (HBW.out.trans (hb.mono HBW.out.size)); clear hb HC9)
    | (go_at_call 13; (with_reducible refine (HC10.out _).mono ?_); rintro e w9 ⟨rfl, hb⟩; have HBW := Lib.hid (HBW.out.trans (hb.mono HBW.out.size)); clear hb HC10)
    | (go_at_call 13; (with_reducible refine (HC11.out _).mono ?_); rintro e w10 ⟨rfl, hb⟩; have HBW := Lib.hid (HBW.out.trans (hb.mono HBW.out.size)); clear hb HC11)
    | (go_at_call 13; (with_reducible refine (HC12.out _).mono ?_); rintro e w11 ⟨rfl, hb⟩; have HBW := Lib.hid (HBW.out.trans (hb.mono HBW.out.size)); clear hb HC12)
    | (go_at_call 13; (with_reducible refine (HC13.out _).mono ?_); rintro e w12 ⟨rfl, hb⟩; have HBW := Lib.hid (HBW.out.trans (hb.mono HBW.out.size)); clear hb HC13; have HBQ := Lib.hid (HBW.out.alloc HBW.out.size (.cells #[.slice none 0 0] 27)); have HQ0 := Lib.hid (pen_in_new w12 w.heap.size HBW.out.size))
    | (go_at_call 28; (with_reducible refine (HS14.out _ _ HQ0.out).mono ?_); rintro e w13 ⟨rfl, hp, hb⟩; have HQ := Lib.hid hp; have HBW := Lib.hid (HBQ.out.trans hb); clear hp hb HS14 HQ0 HBQ)
    | (go_at_call 28; (with_reducible refine (HS15.out _ _ HQ.out).mono ?_); rintro e w14 ⟨rfl, hp, hb⟩; have HQ := Lib.hid hp; have HBW := Lib.hid (HBW.out.trans hb); clear hp hb HS15)
    | (go_at_call 12; (with_reducible refine (HA16.out _ _ HQ.out).mono ?_); rintro e w15 ⟨X0, c0, rfl, hh, hb⟩; have HBW := Lib.hid (HBW.out.trans hb); have est := HT17.out _ X0 c0 hh; clear hb hh HA16 HQ HT17)
    | (go_at_call 16; (with_reducible refine (HK18.out _).mono ?_); rintro e w16 ⟨rR, rfl, he, hb⟩; have HER := Lib.hid (he.mono HBW.out.size); have HBW := Lib.hid (HBW.out.trans (hb.mono HBW.out.size)); clear he hb HK18)
    | (go_at_call 19; (with_reducible refine (HO19.out _ _ HER.out).mono ?_); rintro e w17 ⟨rfl, he, hb, hs⟩; have HER := Lib.hid he; have HBW := Lib.hid (HBW.out.trans hb); clear he hb hs HO19)
    | (go_at_call 22; (with_reducible refine (HO20.out _ _ HER.out).mono ?_); rintro e w18 ⟨X21, cX21, rfl, hx, hnx, hax, he, hb, hs⟩; have HER := Lib.hid he; have HBW := Lib.hid (HBW.out.trans hb); clear he hb hs hx hnx hax HO20)
    | (go_at_call 25; (with_reducible refine (HL22.out _ _ HER.out).mono ?_); rintro e w' ⟨rfl, rfl⟩; clear HL22 HER)
    | (go_at_call 16; (with_reducible refine (HK23.out _).mono ?_); rintro e w19 ⟨rS, rfl, he, hb⟩; have HES := Lib.hid (he.mono HBW.out.size); have HBW := Lib.hid (HBW.out.trans (hb.mono HBW.out.size)); clear he hb HK23)
    | (go_at_call 22; (with_reducible refine (HO24.out _ _ HES.out).mono ?_); rintro e w20 ⟨X25, cX25, rfl, hx, hnx, hax, he, hb, hs⟩; have HES := Lib.hid he; have HBW := Lib.hid (HBW.out.trans hb); clear he hb hs hx hnx hax HES HO24)
    | (go_at_call 16; (with_reducible refine (HK26.out _).mono ?_); rintro e w21 ⟨rT, rfl, he, hb⟩; have HET := Lib.hid (he.mono HBW.out.size); have HBW := Lib.hid (HBW.out.trans (hb.mono HBW.out.size)); clear he hb HK26)
    | (go_at_call 22; (with_reducible refine (HO27.out _ _ HET.out).mono ?_); rintro e w22 ⟨X28, cX28, rfl, hx, hnx, hax, he, hb, hs⟩; have HET := Lib.hid he; have HBW := Lib.hid (HBW.out.trans hb); clear he hb hs hx hnx hax HO27)
    | (go_at_call 22; (with_reducible refine (HO29.out _ _ HET.out).mono ?_); rintro e w23 ⟨X, cX, rfl, hx, hnx, hax, he, hb, hs⟩; have HET := Lib.hid he; have HBW := Lib.hid (HBW.out.trans hb); have HX := Lib.hid hx; have HAX := Lib.hid hax; clear he hb hs hx hnx hax HO29)
    | (go_at_call 26; (with_reducible refine (HN30.out _ _ HET.out).mono ?_); rintro e w' ⟨rfl, rfl⟩; clear HN30)
    | (go_at_call 17; (with_reducible refine (HO31.out _ _ HET.out).mono ?_); rintro e w24 ⟨rfl, he, hb, hs⟩; have HET := Lib.hid he; have HBW := Lib.hid (HBW.out.trans hb); have HX := Lib.hid (step_holds HX.out HAX.out hs); clear he hb hs HO31)
    | (go_at_call 19; (with_reducible refine (HO32.out _ _ HET.out).mono ?_); rintro e w25 ⟨rfl, he, hb, hs⟩; have HET := Lib.hid he; have HBW := Lib.hid (HBW.out.trans hb); have HX := Lib.hid (step_holds HX.out HAX.out hs); clear he hb hs HO32)
    | (go_at_call 17; (with_reducible refine (HO33.out _ _ HET.out).mono ?_); rintro e w26 ⟨rfl, he, hb, hs⟩; have HET := Lib.hid he; have HBW := Lib.hid (HBW.out.trans hb); have HX := Lib.hid (step_holds HX.out HAX.out hs); clear he hb hs HO33)
    | (go_at_call 21; (with_reducible refine (HO34.out _ _ HET.out).mono ?_); rintro e w27 ⟨X35, cX35, rfl, hx, hnx, hax, he, hb, hs⟩; have HET := Lib.hid he; have HBW := Lib.hid (HBW.out.trans hb); have HX := Lib.hid (step_holds HX.out HAX.out hs); clear he hb hs hx hnx hax HO34)
    | (go_at_call 21; (with_reducible refine (HO36.out _ _ HET.out).mono ?_); rintro e w28 ⟨X37, cX37, rfl, hx, hnx, hax, he, hb, hs⟩; have HET := Lib.hid he; have HBW := Lib.hid (HBW.out.trans hb); have HX := Lib.hid (step_holds HX.out HAX.out hs); clear he hb hs hx hnx hax HO36)
    | (go_at_call 17; (with_reducible refine (HO38.out _ _ HET.out).mono ?_); rintro e w29 ⟨rfl, he, hb, hs⟩; have HET := Lib.hid he; have HBW := Lib.hid (HBW.out.trans hb); have HX := Lib.hid (step_holds HX.out HAX.out hs); clear he hb hs HO38)
    | (go_at_call 16; (with_reducible refine (HK39.out _).mono ?_); rintro e w30 ⟨rU, rfl, he, hb⟩; have HEU := Lib.hid he; have HBE := Lib.hid hb; clear he hb HK39)
    | (go_at_call 19; (with_reducible refine (HO40.out _ _ _ HEU.out).mono ?_); rintro e w31 ⟨rfl, _, hb, _⟩; have HBE := Lib.hid (HBE.out.trans hb); have HET := Lib.hid (HET.out.below HBE.out); have HX := Lib.hid (HX.out.later HBE.out); have HBW := Lib.hid (HBW.out.trans (HBE.out.mono HBW.out.size)); clear hb HO40 HEU HBE)
    | (go_at_call 16; (with_reducible refine (HK42.out _).mono ?_); rintro e w32 ⟨rV, rfl, he, hb⟩; have HEV := Lib.hid he; have HBE := Lib.hid hb; clear he hb HK42)
    | (go_at_call 22; (with_reducible refine (HO43.out _ _ _ HEV.out).mono ?_); rintro e w33 ⟨XV, cXV, rfl, _, _, _, _, hb, _⟩; have HBE := Lib.hid (HBE.out.trans hb); have HET := Lib.hid (HET.out.below HBE.out); have HX := Lib.hid (HX.out.later HBE.out); have HBW := Lib.hid (HBW.out.trans (HBE.out.mono HBW.out.size)); clear hb HO43 HEV HBE; have est2 := HT41.out _ X cX HX.out; have HBZ := Lib.hid (HBW.out.alloc HBW.out.size (.cells #[.slice none 0 0, .bool false] 57)); have HSH := Lib.hid (show Shut (w33.alloc (.cells #[.slice none 0 0, .bool false] 57)) w33.heap.size from heap_alloc_new _ _))
    | (go_at_call 26; (with_reducible refine (HN44.out _ _ HET.out).mono ?_); rintro e w' ⟨rfl, rfl⟩; clear HN44)
    | (go_at_call 17; (with_reducible refine (shut_fixed _ _ _ HSH.out).mono ?_); rintro e w' ⟨rfl, rfl⟩)
    | (go_at_call 17; (with_reducible refine (nil_fixed _ _).mono ?_); rintro e w' ⟨rfl, rfl⟩)
    | (go_at_call 19; (with_reducible refine (shut_size _ _ HSH.out).mono ?_); rintro e w' ⟨rfl, rfl⟩)
    | (go_at_call 19; (with_reducible refine (nil_size _).mono ?_); rintro e w' ⟨rfl, rfl⟩)
    | (go_at_call 22; (with_reducible refine (shut_bytes _ _ _ HSH.out).mono ?_); rintro e w' ⟨rfl, rfl⟩)
    | (go_at_call 22; (with_reducible refine (nil_bytes _ _).mono ?_); rintro e w' ⟨rfl, rfl⟩)
    | (go_at_call 21; (with_reducible refine (shut_raw _ _ _ HSH.out).mono ?_); rintro e w' ⟨rfl, rfl⟩)
    | (go_at_call 21; (with_reducible refine (nil_raw _ _).mono ?_); rintro e w' ⟨rfl, rfl⟩)
    | (go_at_call 25; (with_reducible refine (shut_left _ _ HSH.out).mono ?_); rintro e w' ⟨rfl, rfl⟩)
    | (go_at_call 25; (with_reducible refine (nil_left _).mono ?_); rintro e w' ⟨rfl, rfl⟩)
    | (go_at_call 26; (with_reducible refine (shut_end _ _ HSH.out).mono ?_); rintro e w' ⟨rfl, rfl⟩)
    | (go_at_call 26; (with_reducible refine (nil_end _).mono ?_); rintro e w' ⟨rfl, rfl⟩)
    | (go_at_call 27; (with_reducible refine (nilpen_fixed _ _ _).mono ?_); rintro e w' ⟨rfl, rfl⟩)
    | (go_at_call 28; (with_reducible refine (nilpen_size _ _).mono ?_); rintro e w' ⟨rfl, rfl⟩)
    | (go_at_call 29; (with_reducible refine (nilpen_bytes _ _).mono ?_); rintro e w' ⟨rfl, rfl⟩)
    | (go_at_call 30; (with_reducible refine (nilpen_raw _ _).mono ?_); rintro e w' ⟨rfl, rfl⟩)
    | (go_at_call 11; (with_reducible refine (nilpen_len _).mono ?_); rintro e w' ⟨rfl, rfl⟩)
    | (go_at_call 12; (with_reducible refine (nilpen_all _).mono ?_); rintro e w' ⟨rfl, rfl⟩)
    | (go_at_call 31; (with_reducible refine (alive_any _).mono ?_); rintro e w34 ⟨rfl, hb⟩; have HBW := Lib.hid (HBZ.out.trans (hb.mono HBZ.out.size))))
  go_ret
  exact ⟨rfl, HBW.out⟩
set_option maxRecDepth 100000 in
theorem names_lifted (os : Os) (started : os.Started) (H : Type) (enc : TypeId × Value → H) :
    ReturnsInHanded {} Try.checked os 5 .any (Rows.octetNamesSpec.pre6 enc Try.prog Try.f5 Rows.octetNamesRow.domain false) (Rows.octetNamesSpec.post enc Try.prog Try.f5 false true false false) := by
  refine returnsInHanded_of_change (C := Try.checked) own started (by kernel_rfl) Try.func5
    (ChangeSpec.witness6 (enc := enc) (C := Try.checked) false ⟨#[], #[], []⟩ 8 (by kernel_rfl) (by kernel_rfl) (by kernel_rfl) (by kernel_rfl)) ?_
  intro W base args ds gs before hval0 hW hcnd _
  have hval : ∀ (j : Nat) t v, Try.f5.params[j]? = some t → args[j]? = some v → Value.okWide Try.prog W .any base t v := hval0
  have hW' := hW
  obtain ⟨p, q, hA0, hV, rfl, hfz, hnd⟩ := hW
  have hA : DataW.TrodAll enc Try.prog W 0 (fun _ => true) true Try.f5.params.toList args.toList ds p := hA0
  rw [Try.params5] at hA hval
  obtain ⟨hargs, rfl, rfl⟩ := trodAll_nil hA
  obtain rfl : args = #[] := by cases args; simp_all
  obtain ⟨rfl, rfl⟩ := trodVars_none hV
  clear hA0 hval0
  refine (names_walk W).mono fun e W' ⟨he, bel⟩ => ?_
  subst he
  exact ⟨_, rfl, _, _, _, [], _, [], hW', trodAll_mk1 (shut_bool Try.underlying4 _), trodAll_mk0, rfl, bel.frame _, fun h => by cases h⟩

theorem names_over : Rows.octetNamesRow.holds Try.pinned (OpenSpec.ofChange Rows.octetNamesSpec) :=
  OpenClaim.holds_of_wide 5 Try.f5 rfl rfl rfl rfl rfl rfl rfl ⟨rfl, rfl, rfl, rfl, rfl⟩ rfl rfl rfl rfl rfl (by kernel_rfl) Try.func5 (by kernel_rfl)
    (of_decide_eq_true (by kernel_rfl)) (by unfold Func.isWrapper; first | (rw [if_pos (by decide +kernel)]; kernel_rfl) | (rw [if_neg (by decide +kernel)]; exact ⟨rfl, rfl⟩))
    (fun os started H enc _ => names_lifted os started H enc)

/-- Errors have their numbers; the examples of the chapter; sizes at their bounds; what is refused; calls on none. No condition. -/
theorem names_proved : Rows.OctetNamesSaid := names_over
#print axioms names_proved
end Go.Proofs.Ytngkckngjobojaa.Oct
