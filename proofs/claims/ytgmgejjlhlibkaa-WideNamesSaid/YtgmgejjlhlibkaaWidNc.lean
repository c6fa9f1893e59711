/- WideNames is true. No condition. -/
import Derived.Test.YtgmgejjlhlibkaaWidNa
import Derived.Test.YtgmgejjlhlibkaaWidNb
namespace Go.Proofs.Ytgmgejjlhlibkaa
set_option linter.unusedVariables false
open Go.ChangeShapes Go.WideShapes Go.ChangeAt Go.RowKit Oct

/-- A byte, so many times. -/
def strR (c : UInt8) (n : Nat) : ByteArray := ⟨(List.replicate n c).toArray⟩
theorem repeatL_one (c : UInt8) (n : Nat) : Lib.repeatL [c] n = List.replicate n c := by
  induction n with
  | zero => rfl
  | succ n ih => simp [Lib.repeatL, List.replicate_succ] at ih ⊢; try exact ih
theorem strR_size (c : UInt8) (n : Nat) : (strR c n).size = n := by simp [strR, ByteArray.size]
theorem repR (c : UInt8) (n : Nat) (h2 : 2 ≤ n) (h : n ≤ 1000) (w : World) : Calls Try.prog 40 #[.string ⟨#[c]⟩, .int .i64 n] w fun e w' => e = .returned (.string (strR c n)) ∧ Below w.heap.size w w' := by
  have h1 := Try.strings_Repeat_main ⟨#[c]⟩ n w h2 (by omega) (by show 1 * n ≤ _; omega) (by show 0 < 1; omega)
  rw [show (⟨#[c]⟩ : ByteArray).data.toList = [c] from rfl, repeatL_one] at h1
  exact h1
theorem parse_of (s : ByteArray) (l : List UInt8) (v : Value) (hs : s.data.toList = l) (hl : l.length = 64) (hv : parsed l = v) (w : World) :
    Calls Try.prog 14 #[.string s] w fun e w' => e = .returned v ∧ Below w.heap.size w w' := by
  have h := parse_any s l hs hl w
  rw [hv] at h
  exact h
theorem lenR (c : UInt8) (n : Nat) : (List.replicate n c).length = n := List.length_replicate

set_option maxRecDepth 100000 in
set_option maxHeartbeats 2000000 in
theorem names_any (w : World) : Calls Try.prog 6 #[] w fun e w' => e = .returned (.bool true) ∧ Below w.heap.size w w' := by
  have hz62 := strR_size 48 62
  have hz63 := strR_size 48 63
  have OM : ∀ w, Calls Try.prog 16 #[.int .u64 18446744073709551615] w fun e w' => e = .returned (.agg (wcells 18446744073709551615)) ∧ Below w.heap.size w w' := fun w => by
    have h := of_any 18446744073709551615 (by unfold word; omega) w
    exact h
  have X1 : ∀ w, Calls Try.prog 30 #[.agg (wcells 18446744073709551615), .agg (wcells 18446744073709551615)] w fun e w' => e = .returned (.tuple #[.agg (wcells 340282366920938463426481119284349108225), .agg (wcells 0)]) ∧ Below w.heap.size w w' := fun w => by
    have h := mul_any 18446744073709551615 18446744073709551615 (by unfold top; omega) (by unfold top; omega) w
    rw [show 18446744073709551615 * 18446744073709551615 % top = 340282366920938463426481119284349108225 from by unfold top; omega] at h
    rw [show 18446744073709551615 * 18446744073709551615 / top = 0 from by unfold top; omega] at h
    exact h
  have O100 : ∀ w, Calls Try.prog 16 #[.int .u64 100] w fun e w' => e = .returned (.agg (wcells 100)) ∧ Below w.heap.size w w' := fun w => by
    have h := of_any 100 (by unfold word; omega) w
    exact h
  have O7 : ∀ w, Calls Try.prog 16 #[.int .u64 7] w fun e w' => e = .returned (.agg (wcells 7)) ∧ Below w.heap.size w w' := fun w => by
    have h := of_any 7 (by unfold word; omega) w
    exact h
  have D1 : ∀ w, Calls Try.prog 38 #[.agg (wcells 100), .agg (wcells 7)] w fun e w' => e = .returned (.tuple #[.agg (wcells 14), .agg (wcells 2), .int .i64 0]) ∧ Below w.heap.size w w' := fun w => by
    have h := div_some 100 7 (by unfold top; omega) (by unfold top; omega) (by omega) w
    rw [show 100 / 7 = 14 from by omega] at h
    rw [show 100 % 7 = 2 from by omega] at h
    exact h
  have O1 : ∀ w, Calls Try.prog 16 #[.int .u64 1] w fun e w' => e = .returned (.agg (wcells 1)) ∧ Below w.heap.size w w' := fun w => by
    have h := of_any 1 (by unfold word; omega) w
    exact h
  have O0 : ∀ w, Calls Try.prog 16 #[.int .u64 0] w fun e w' => e = .returned (.agg (wcells 0)) ∧ Below w.heap.size w w' := fun w => by
    have h := of_any 0 (by unfold word; omega) w
    exact h
  have D2 : ∀ w, Calls Try.prog 38 #[.agg (wcells 1), .agg (wcells 0)] w fun e w' => e = .returned (.tuple #[.agg (wcells 0), .agg (wcells 0), .int .i64 30]) ∧ Below w.heap.size w w' := fun w => by
    have h := div_zero 1 w
    exact h
  have L1 : ∀ w, Calls Try.prog 32 #[.agg (wcells 1), .int .i64 255] w fun e w' => e = .returned (.agg (wcells 57896044618658097711785492504343953926634992332820282019728792003956564819968)) ∧ Below w.heap.size w w' := fun w => by
    have h := left_any 1 255 (by unfold top; omega) w
    rw [show 1 * 2 ^ (255 : Int).toNat % top = 57896044618658097711785492504343953926634992332820282019728792003956564819968 from by decide +kernel] at h
    exact h
  have O14 : ∀ w, Calls Try.prog 16 #[.int .u64 14] w fun e w' => e = .returned (.agg (wcells 14)) ∧ Below w.heap.size w w' := fun w => by
    have h := of_any 14 (by unfold word; omega) w
    exact h
  have O2 : ∀ w, Calls Try.prog 16 #[.int .u64 2] w fun e w' => e = .returned (.agg (wcells 2)) ∧ Below w.heap.size w w' := fun w => by
    have h := of_any 2 (by unfold word; omega) w
    exact h
  have R1 : ∀ w, Calls Try.prog 34 #[.agg (wcells 57896044618658097711785492504343953926634992332820282019728792003956564819968), .int .i64 254] w fun e w' => e = .returned (.agg (wcells 2)) ∧ Below w.heap.size w w' := fun w => by
    have h := right_any 57896044618658097711785492504343953926634992332820282019728792003956564819968 254 (by unfold top; omega) w
    rw [show 57896044618658097711785492504343953926634992332820282019728792003956564819968 / 2 ^ (254 : Int).toNat = 2 from by decide +kernel] at h
    exact h
  have N1 : ∀ w, Calls Try.prog 22 #[.agg (wcells 57896044618658097711785492504343953926634992332820282019728792003956564819968)] w fun e w' => e = .returned (.int .i64 256) ∧ Below w.heap.size w w' := fun w => by
    have h := len_any 57896044618658097711785492504343953926634992332820282019728792003956564819968 (by unfold top; omega) w
    rw [show blen 57896044618658097711785492504343953926634992332820282019728792003956564819968 = 256 from by decide +kernel] at h
    exact h
  have N2 : ∀ w, Calls Try.prog 22 #[.agg #[.int .u64 0, .int .u64 0, .int .u64 0, .int .u64 0]] w fun e w' => e = .returned (.int .i64 0) ∧ Below w.heap.size w w' := fun w => by
    have h := len_any 0 (by unfold top; omega) w
    rw [show blen 0 = 0 from by decide +kernel] at h
    exact h
  have O255 : ∀ w, Calls Try.prog 16 #[.int .u64 255] w fun e w' => e = .returned (.agg (wcells 255)) ∧ Below w.heap.size w w' := fun w => by
    have h := of_any 255 (by unfold word; omega) w
    exact h
  have G1 : ∀ w, Calls Try.prog 20 #[.agg (wcells 255)] w fun e w' => e = .returned (.string ⟨(digitsW 255).toArray⟩) ∧ Below w.heap.size w w' := fun w => by
    have h := digits_any 255 (by unfold top; omega) w
    exact h
  have S62 : ∀ w, Calls Try.prog 40 #[.string ⟨#[48]⟩, .int .i64 62] w fun e w' => e = .returned (.string (strR 48 62)) ∧ Below w.heap.size w w' := fun w => repR 48 62 (by omega) (by omega) w
  have S63 : ∀ w, Calls Try.prog 40 #[.string ⟨#[48]⟩, .int .i64 63] w fun e w' => e = .returned (.string (strR 48 63)) ∧ Below w.heap.size w w' := fun w => repR 48 63 (by omega) (by omega) w
  have P63 : ∀ w, Calls Try.prog 14 #[.string (strR 48 63)] w fun e w' => e = .returned (.tuple #[.agg (wcells 0), .int .i64 30]) ∧ Below w.heap.size w w' := fun w => by
    have h := parse_short (strR 48 63) (by rw [hz63]; decide) w
    exact h
  have SF : ∀ w, Calls Try.prog 40 #[.string ⟨#[70]⟩, .int .i64 64] w fun e w' => e = .returned (.string (strR 70 64)) ∧ Below w.heap.size w w' := fun w => repR 70 64 (by omega) (by omega) w
  have PF : ∀ w, Calls Try.prog 14 #[.string (strR 70 64)] w fun e w' => e = .returned (.tuple #[.agg (wcells 0), .int .i64 30]) ∧ Below w.heap.size w w' := parse_of _ (List.replicate 64 70) _ rfl rfl (by unfold parsed; rw [show hexB (List.replicate 64 70) = false from by decide +kernel]; rfl)
  have PN : ∀ w, Calls Try.prog 14 #[.string (⟨#[45]⟩ ++ (strR 48 63))] w fun e w' => e = .returned (.tuple #[.agg (wcells 0), .int .i64 30]) ∧ Below w.heap.size w w' := parse_of _ (45 :: List.replicate 63 48) _ (by rfl) rfl (by unfold parsed; rw [show hexB (45 :: List.replicate 63 48) = false from by decide +kernel]; rfl)
  have Sf : ∀ w, Calls Try.prog 40 #[.string ⟨#[102]⟩, .int .i64 64] w fun e w' => e = .returned (.string (strR 102 64)) ∧ Below w.heap.size w w' := fun w => repR 102 64 (by omega) (by omega) w
  have Pf : ∀ w, Calls Try.prog 14 #[.string (strR 102 64)] w fun e w' => e = .returned (.tuple #[.agg (wcells (top - 1)), .int .i64 0]) ∧ Below w.heap.size w w' := parse_of _ (List.replicate 64 102) _ rfl rfl (by unfold parsed; rw [show hexB (List.replicate 64 102) = true from by decide +kernel, show hexN (List.replicate 64 102) = top - 1 from by decide +kernel]; rfl)
  have MO : ∀ w, Calls Try.prog 41 #[] w fun e w' => e = .returned (.agg (wcells (top - 1))) ∧ Below w.heap.size w w' := fun w => most_any w
  have L2 : ∀ w, Calls Try.prog 32 #[.agg (wcells (top - 1)), .int .i64 256] w fun e w' => e = .returned (.agg (wcells 0)) ∧ Below w.heap.size w w' := fun w => by
    have h := left_any (top - 1) 256 (by unfold top; omega) w
    rw [show (top - 1) * 2 ^ (256 : Int).toNat % top = 0 from by decide +kernel] at h
    exact h
  have R2 : ∀ w, Calls Try.prog 34 #[.agg (wcells (top - 1)), .int .i64 300] w fun e w' => e = .returned (.agg (wcells 0)) ∧ Below w.heap.size w w' := fun w => by
    have h := right_any (top - 1) 300 (by unfold top; omega) w
    rw [show (top - 1) / 2 ^ (300 : Int).toNat = 0 from by decide +kernel] at h
    exact h
  have O5 : ∀ w, Calls Try.prog 16 #[.int .u64 5] w fun e w' => e = .returned (.agg (wcells 5)) ∧ Below w.heap.size w w' := fun w => by
    have h := of_any 5 (by unfold word; omega) w
    exact h
  have L3 : ∀ w, Calls Try.prog 32 #[.agg (wcells 5), .int .i64 (-1)] w fun e w' => e = .returned (.agg (wcells 5)) ∧ Below w.heap.size w w' := fun w => by
    have h := left_any 5 (-1) (by unfold top; omega) w
    rw [show 5 * 2 ^ (-1 : Int).toNat % top = 5 from by decide +kernel] at h
    exact h
  have R3 : ∀ w, Calls Try.prog 34 #[.agg (wcells 5), .int .i64 0] w fun e w' => e = .returned (.agg (wcells 5)) ∧ Below w.heap.size w w' := fun w => by
    have h := right_any 5 0 (by unfold top; omega) w
    rw [show 5 / 2 ^ (0 : Int).toNat = 5 from by decide +kernel] at h
    exact h
  have O3 : ∀ w, Calls Try.prog 16 #[.int .u64 3] w fun e w' => e = .returned (.agg (wcells 3)) ∧ Below w.heap.size w w' := fun w => by
    have h := of_any 3 (by unfold word; omega) w
    exact h
  have L4 : ∀ w, Calls Try.prog 32 #[.agg (wcells 3), .int .i64 64] w fun e w' => e = .returned (.agg (wcells 55340232221128654848)) ∧ Below w.heap.size w w' := fun w => by
    have h := left_any 3 64 (by unfold top; omega) w
    rw [show 3 * 2 ^ (64 : Int).toNat % top = 55340232221128654848 from by decide +kernel] at h
    exact h
  have R4 : ∀ w, Calls Try.prog 34 #[.agg #[.int .u64 0, .int .u64 3, .int .u64 0, .int .u64 0], .int .i64 65] w fun e w' => e = .returned (.agg (wcells 1)) ∧ Below w.heap.size w w' := fun w => by
    have h := right_any 55340232221128654848 65 (by unfold top; omega) w
    rw [show 55340232221128654848 / 2 ^ (65 : Int).toNat = 1 from by decide +kernel] at h
    exact h
  have D3 : ∀ w, Calls Try.prog 38 #[.agg (wcells (top - 1)), .agg (wcells 57896044618658097711785492504343953926634992332820282019728792003956564819968)] w fun e w' => e = .returned (.tuple #[.agg (wcells 1), .agg (wcells 57896044618658097711785492504343953926634992332820282019728792003956564819967), .int .i64 0]) ∧ Below w.heap.size w w' := fun w => by
    have h := div_some (top - 1) 57896044618658097711785492504343953926634992332820282019728792003956564819968 (by unfold top; omega) (by unfold top; omega) (by omega) w
    rw [show (top - 1) / 57896044618658097711785492504343953926634992332820282019728792003956564819968 = 1 from by decide +kernel] at h
    rw [show (top - 1) % 57896044618658097711785492504343953926634992332820282019728792003956564819968 = 57896044618658097711785492504343953926634992332820282019728792003956564819967 from by decide +kernel] at h
    exact h
  have U1 : ∀ w, Calls Try.prog 28 #[.agg (wcells (top - 1)), .agg (wcells 57896044618658097711785492504343953926634992332820282019728792003956564819968)] w fun e w' => e = .returned (.tuple #[.agg (wcells 57896044618658097711785492504343953926634992332820282019728792003956564819967), .bool false]) ∧ Below w.heap.size w w' := fun w => by
    have h := sub_any (top - 1) 57896044618658097711785492504343953926634992332820282019728792003956564819968 (by unfold top; omega) (by unfold top; omega) w
    rw [show (top - 1 + top - 57896044618658097711785492504343953926634992332820282019728792003956564819968) % top = 57896044618658097711785492504343953926634992332820282019728792003956564819967 from by decide +kernel] at h
    rw [show decide (top - 1 < 57896044618658097711785492504343953926634992332820282019728792003956564819968) = false from by decide +kernel] at h
    exact h
  have AL : ∀ w, Calls Try.prog 42 #[] w fun e w' => e = .returned (.bool true) ∧ Below w.heap.size w w' := alive_any
  have K1 : ∀ w, Calls Try.prog 24 #[.agg (wcells 57896044618658097711785492504343953926634992332820282019728792003956564819968), .agg (wcells (top - 1))] w fun e w' => e = .returned (.int .i64 (-1)) ∧ Below w.heap.size w w' := fun w => by
    have h := compare_any 57896044618658097711785492504343953926634992332820282019728792003956564819968 (top - 1) (by unfold top; omega) (by unfold top; omega) w
    rw [show cmpI ((57896044618658097711785492504343953926634992332820282019728792003956564819968 : Nat) : Int) ((top - 1 : Nat) : Int) = -1 from by decide +kernel] at h
    exact h
  have K2 : ∀ w, Calls Try.prog 24 #[.agg (wcells 57896044618658097711785492504343953926634992332820282019728792003956564819968), .agg (wcells 57896044618658097711785492504343953926634992332820282019728792003956564819968)] w fun e w' => e = .returned (.int .i64 0) ∧ Below w.heap.size w w' := fun w => by
    have h := compare_any 57896044618658097711785492504343953926634992332820282019728792003956564819968 57896044618658097711785492504343953926634992332820282019728792003956564819968 (by unfold top; omega) (by unfold top; omega) w
    rw [show cmpI ((57896044618658097711785492504343953926634992332820282019728792003956564819968 : Nat) : Int) ((57896044618658097711785492504343953926634992332820282019728792003956564819968 : Nat) : Int) = 0 from by decide +kernel] at h
    exact h
  have NT : ∀ w, Calls Try.prog 36 #[.agg #[.int .u64 0, .int .u64 0, .int .u64 0, .int .u64 0]] w fun e w' => e = .returned (.agg (wcells (top - 1))) ∧ Below w.heap.size w w' := fun w => by
    have h := not_any 0 (by unfold top; omega) w
    rw [show top - 1 - 0 = top - 1 from by rfl] at h
    exact h
  have E1 : ∀ w, (Op.equalIn 10000 24 (.agg (wcells 340282366920938463426481119284349108225)) (.agg #[.int .u64 1, .int .u64 18446744073709551614, .int .u64 0, .int .u64 0])).run Try.prog w = .ok true w := fun w => by
    have h := eqW 340282366920938463426481119284349108225 w
    have e : wcells 340282366920938463426481119284349108225 = #[.int .u64 1, .int .u64 18446744073709551614, .int .u64 0, .int .u64 0] := by rfl
    rw [← e]
    exact h
  have E2 : ∀ w, (Op.equalIn 10000 24 (.agg (wcells 57896044618658097711785492504343953926634992332820282019728792003956564819968)) (.agg #[.int .u64 0, .int .u64 0, .int .u64 0, .int .u64 9223372036854775808])).run Try.prog w = .ok true w := fun w => by
    have h := eqW 57896044618658097711785492504343953926634992332820282019728792003956564819968 w
    have e : wcells 57896044618658097711785492504343953926634992332820282019728792003956564819968 = #[.int .u64 0, .int .u64 0, .int .u64 0, .int .u64 9223372036854775808] := by rfl
    rw [← e]
    exact h
  have E3 : ∀ w, (Op.equalIn 10000 24 (.agg (wcells 55340232221128654848)) (.agg #[.int .u64 0, .int .u64 3, .int .u64 0, .int .u64 0])).run Try.prog w = .ok true w := fun w => by
    have h := eqW 55340232221128654848 w
    have e : wcells 55340232221128654848 = #[.int .u64 0, .int .u64 3, .int .u64 0, .int .u64 0] := by rfl
    rw [← e]
    exact h
  have hcat : strR 48 62 ++ ⟨#[102, 102]⟩ = ⟨(digitsW 255).toArray⟩ := by decide +kernel
  exact names_words 18446744073709551615 340282366920938463426481119284349108225 57896044618658097711785492504343953926634992332820282019728792003956564819968 (top - 1) 55340232221128654848 57896044618658097711785492504343953926634992332820282019728792003956564819967 (zerosB 31) (zerosB 33) ⟨(digitsW 255).toArray⟩ (strR 48 62) (strR 48 63) (strR 70 64) (strR 102 64) w OM X1 O100 O7 D1 O1 O0 D2 L1 O14 O2 R1 N1 N2 O255 G1 S62 S63 P63 SF PF PN Sf Pf MO L2 R2 O5 L3 R3 O3 L4 R4 D3 U1 AL K1 K2 NT (fun A w => read_short A 31 31 rfl w) (makeB 31 (by omega)) (fun A w => read_short A 33 33 rfl w) (makeB 33 (by omega)) E1 E2 E3 hcat hz62 hz63

set_option maxRecDepth 100000 in
theorem namesW_lifted (os : Os) (started : os.Started) (H : Type) (enc : TypeId × Value → H) :
    ReturnsInHanded {} Try.checked os 6 .any (Rows.wideNamesSpec.pre6 enc Try.prog Try.f6 Rows.wideNamesRow.domain false) (Rows.wideNamesSpec.post enc Try.prog Try.f6 false true false false) := by
  refine returnsInHanded_of_change (C := Try.checked) Go.Proofs.Ytgmgejjlhlibkaa.own started (by kernel_rfl) Try.func6
    (ChangeSpec.witness6 (enc := enc) (C := Try.checked) false ⟨#[], #[], []⟩ 8 (by kernel_rfl) (by kernel_rfl) (by kernel_rfl) (by kernel_rfl)) ?_
  intro W base args ds gs before hval0 hW hcnd _
  have hval : ∀ (j : Nat) t v, Try.f6.params[j]? = some t → args[j]? = some v → Value.okWide Try.prog W .any base t v := hval0
  have hW' := hW
  obtain ⟨p, q, hA0, hV, rfl, hfz, hnd⟩ := hW
  have hA : DataW.TrodAll enc Try.prog W 0 (fun _ => true) true Try.f6.params.toList args.toList ds p := hA0
  rw [Try.params6] at hA hval
  obtain ⟨hargs, rfl, rfl⟩ := trodAll_nil hA
  obtain rfl : args = #[] := by cases args; simp_all
  obtain ⟨rfl, rfl⟩ := trodVars_none hV
  clear hA0 hval0
  refine (names_any W).mono fun e W' ⟨he, bel⟩ => ?_
  subst he
  exact ⟨_, rfl, _, _, _, [], _, [], hW', trodAll_mk1 (shut_bool Try.underlying4 _), trodAll_mk0, rfl, bel.frame _, fun h => by cases h⟩

theorem namesW_over : Rows.wideNamesRow.holds Try.pinned (OpenSpec.ofChange Rows.wideNamesSpec) :=
  OpenClaim.holds_of_wide 6 Try.f6 rfl rfl rfl rfl rfl rfl rfl ⟨rfl, rfl, rfl, rfl, rfl⟩ rfl rfl rfl rfl rfl (by kernel_rfl) Try.func6 (by kernel_rfl)
    (of_decide_eq_true (by kernel_rfl)) (by unfold Func.isWrapper; first | (rw [if_pos (by decide +kernel)]; kernel_rfl) | (rw [if_neg (by decide +kernel)]; exact ⟨rfl, rfl⟩))
    (fun os started H enc _ => namesW_lifted os started H enc)

/-- WideNames is true. -/
theorem namesW_proved : Rows.WideNamesSaid := namesW_over
#print axioms namesW_proved
end Go.Proofs.Ytgmgejjlhlibkaa
