/- WideSums is true at every two numbers and every shift. No condition. -/
import Derived.Test.YtgmgejjlhlibkaaWidT
import Derived.Test.YtgmgejjlhlibkaaWidG
import Derived.Test.YtgmgejjlhlibkaaRefWH
import Derived.BigQuiet
namespace Go.Proofs.Ytgmgejjlhlibkaa
set_option linter.unusedVariables false
open Go.ChangeShapes Go.WideShapes Go.ChangeAt Go.RowKit Oct

theorem keeps2s (w : World) (A B : Array Value) (t : TypeId) : Keeps w [(w.heap.size, A, t), (w.heap.size + 1, B, t)] ((w.alloc (.cells A t)).alloc (.cells B t)) := by
  have h := ((Keeps.nil w).new A t).new B t
  simp only [World.size_alloc, List.nil_append, List.cons_append] at h
  exact h

set_option maxRecDepth 100000 in
set_option maxHeartbeats 8000000 in
theorem sums_words (a b s d lo hi x y z : Nat) (ov un : Bool) (n : Int) (w : World)
    (A1 : Hid (∀ w, Calls Try.prog 26 #[.agg (wcells a), .agg (wcells b)] w fun e w' => e = .returned (.tuple #[.agg (wcells s), .bool ov]) ∧ Below w.heap.size w w'))
    (A2 : Hid (∀ w, Calls Try.prog 27 #[.agg (wcells a), .agg (wcells b)] w fun e w' => e = .returned (.tuple #[.agg (wcells s), .bool ov]) ∧ Below w.heap.size w w'))
    (D1 : Hid (∀ w, Calls Try.prog 28 #[.agg (wcells a), .agg (wcells b)] w fun e w' => e = .returned (.tuple #[.agg (wcells d), .bool un]) ∧ Below w.heap.size w w'))
    (D2 : Hid (∀ w, Calls Try.prog 29 #[.agg (wcells a), .agg (wcells b)] w fun e w' => e = .returned (.tuple #[.agg (wcells d), .bool un]) ∧ Below w.heap.size w w'))
    (M1 : Hid (∀ w, Calls Try.prog 30 #[.agg (wcells a), .agg (wcells b)] w fun e w' => e = .returned (.tuple #[.agg (wcells lo), .agg (wcells hi)]) ∧ Below w.heap.size w w'))
    (M2 : Hid (∀ w, Calls Try.prog 31 #[.agg (wcells a), .agg (wcells b)] w fun e w' => e = .returned (.tuple #[.agg (wcells lo), .agg (wcells hi)]) ∧ Below w.heap.size w w'))
    (L1 : Hid (∀ w, Calls Try.prog 32 #[.agg (wcells a), .int .i64 n] w fun e w' => e = .returned (.agg (wcells x)) ∧ Below w.heap.size w w'))
    (L2 : Hid (∀ w, Calls Try.prog 33 #[.agg (wcells a), .int .i64 n] w fun e w' => e = .returned (.agg (wcells x)) ∧ Below w.heap.size w w'))
    (R1 : Hid (∀ w, Calls Try.prog 34 #[.agg (wcells a), .int .i64 n] w fun e w' => e = .returned (.agg (wcells y)) ∧ Below w.heap.size w w'))
    (R2 : Hid (∀ w, Calls Try.prog 35 #[.agg (wcells a), .int .i64 n] w fun e w' => e = .returned (.agg (wcells y)) ∧ Below w.heap.size w w'))
    (N1 : Hid (∀ w, Calls Try.prog 36 #[.agg (wcells a)] w fun e w' => e = .returned (.agg (wcells z)) ∧ Below w.heap.size w w'))
    (N2 : Hid (∀ w, Calls Try.prog 37 #[.agg (wcells a)] w fun e w' => e = .returned (.agg (wcells z)) ∧ Below w.heap.size w w')) :
    Calls Try.prog 4 #[.agg (wcells a), .agg (wcells b), .int .i64 n] w fun e w' => e = .returned (.bool true) ∧ Below w.heap.size w w' := by
  have hE := eqW
  have hH := keeps2s w (wcells a) (wcells b) 24
  go_enter Try.func4, Try.ntmps4
  have tk0 : True := trivial
  go_wp2_with (first | (go_at_call 26; with_reducible refine (A1.out _).mono ?_; rintro e W1 ⟨rfl, hB⟩; replace hH := hH.call hB; clear hB) | (go_at_call 27; with_reducible refine (A2.out _).mono ?_; rintro e W1 ⟨rfl, hB⟩; replace hH := hH.call hB; clear hB) | (go_at_call 28; with_reducible refine (D1.out _).mono ?_; rintro e W1 ⟨rfl, hB⟩; replace hH := hH.call hB; clear hB) | (go_at_call 29; with_reducible refine (D2.out _).mono ?_; rintro e W1 ⟨rfl, hB⟩; replace hH := hH.call hB; clear hB) | (go_at_call 30; with_reducible refine (M1.out _).mono ?_; rintro e W1 ⟨rfl, hB⟩; replace hH := hH.call hB; clear hB) | (go_at_call 31; with_reducible refine (M2.out _).mono ?_; rintro e W1 ⟨rfl, hB⟩; replace hH := hH.call hB; clear hB) | (go_at_call 32; with_reducible refine (L1.out _).mono ?_; rintro e W1 ⟨rfl, hB⟩; replace hH := hH.call hB; clear hB) | (go_at_call 33; with_reducible refine (L2.out _).mono ?_; rintro e W1 ⟨rfl, hB⟩; replace hH := hH.call hB; clear hB) | (go_at_call 34; with_reducible refine (R1.out _).mono ?_; rintro e W1 ⟨rfl, hB⟩; replace hH := hH.call hB; clear hB) | (go_at_call 35; with_reducible refine (R2.out _).mono ?_; rintro e W1 ⟨rfl, hB⟩; replace hH := hH.call hB; clear hB) | (go_at_call 36; with_reducible refine (N1.out _).mono ?_; rintro e W1 ⟨rfl, hB⟩; replace hH := hH.call hB; clear hB) | (go_at_call 37; with_reducible refine (N2.out _).mono ?_; rintro e W1 ⟨rfl, hB⟩; replace hH := hH.call hB; clear hB) | (have _t := tk0; refine wpList_boxg hH 0 24 _ rfl rfl rfl _ Try.underlying24 rfl (infoW _) (by rfl) ?_; clear _t tk0; have tk1 : True := trivial) | (have _t := tk1; refine wpList_boxg hH 1 24 _ rfl rfl rfl _ Try.underlying24 rfl (infoW _) (by rfl) ?_; clear _t tk1; have tk2 : True := trivial) | (have _t := tk2; refine wpList_fill hH rfl 24 _ _ rfl rfl rfl (infoW _) rfl (oneW _) ?_; clear _t tk2 hH; have tk3 : True := trivial; intro W1 hH) | (have _t := tk3; refine wpList_boxg hH 0 24 _ rfl rfl rfl _ Try.underlying24 rfl (infoW _) (by rfl) ?_; clear _t tk3; have tk4 : True := trivial) | (have _t := tk4; refine wpList_boxg hH 1 24 _ rfl rfl rfl _ Try.underlying24 rfl (infoW _) (by rfl) ?_; clear _t tk4; have tk5 : True := trivial) | (have _t := tk5; refine wpList_fill hH rfl 24 _ _ rfl rfl rfl (infoW _) rfl (oneW _) ?_; clear _t tk5 hH; have tk6 : True := trivial; intro W1 hH) | (have _t := tk6; refine wpList_boxg hH 0 24 _ rfl rfl rfl _ Try.underlying24 rfl (infoW _) (by rfl) ?_; clear _t tk6; have tk7 : True := trivial) | (have _t := tk7; refine wpList_boxg hH 1 24 _ rfl rfl rfl _ Try.underlying24 rfl (infoW _) (by rfl) ?_; clear _t tk7; have tk8 : True := trivial) | (have _t := tk8; refine wpList_fill hH rfl 24 _ _ rfl rfl rfl (infoW _) rfl (oneW _) ?_; clear _t tk8 hH; have tk9 : True := trivial; intro W1 hH) | (have _t := tk9; refine wpList_boxg hH 0 24 _ rfl rfl rfl _ Try.underlying24 rfl (infoW _) (by rfl) ?_; clear _t tk9; have tk10 : True := trivial) | (have _t := tk10; refine wpList_boxg hH 1 24 _ rfl rfl rfl _ Try.underlying24 rfl (infoW _) (by rfl) ?_; clear _t tk10; have tk11 : True := trivial) | (have _t := tk11; refine wpList_fill hH rfl 24 _ _ rfl rfl rfl (infoW _) rfl (oneW _) ?_; clear _t tk11 hH; have tk12 : True := trivial; intro W1 hH) | (have _t := tk12; refine wpList_boxg hH 0 24 _ rfl rfl rfl _ Try.underlying24 rfl (infoW _) (by rfl) ?_; clear _t tk12; have tk13 : True := trivial) | (have _t := tk13; refine wpList_boxg hH 1 24 _ rfl rfl rfl _ Try.underlying24 rfl (infoW _) (by rfl) ?_; clear _t tk13; have tk14 : True := trivial) | (have _t := tk14; refine wpList_fill2 hH rfl 24 _ _ rfl rfl rfl (infoW _) rfl (oneW _) ?_; clear _t tk14 hH; have tk15 : True := trivial; intro W1 hH) | (have _t := tk15; refine wpList_put hH 7 rfl 24 _ _ rfl rfl rfl rfl (infoW _) rfl (oneW _) ?_; clear _t tk15 hH; have tk16 : True := trivial; intro W1 hH) | (have _t := tk16; refine wpList_boxg hH 0 24 _ rfl rfl rfl _ Try.underlying24 rfl (infoW _) (by rfl) ?_; clear _t tk16; have tk17 : True := trivial) | (have _t := tk17; refine wpList_boxg hH 1 24 _ rfl rfl rfl _ Try.underlying24 rfl (infoW _) (by rfl) ?_; clear _t tk17; have tk18 : True := trivial) | (have _t := tk18; refine wpList_fill2 hH rfl 24 _ _ rfl rfl rfl (infoW _) rfl (oneW _) ?_; clear _t tk18 hH; have tk19 : True := trivial; intro W1 hH) | (have _t := tk19; refine wpList_put hH 9 rfl 24 _ _ rfl rfl rfl rfl (infoW _) rfl (oneW _) ?_; clear _t tk19 hH; have tk20 : True := trivial; intro W1 hH))
  refine wp_region_class (C := Keeps w _) (by kernel_rfl) (by kernel_rfl) hH.drew ?_
  refine quiet_box 2 rfl 24 _ rfl rfl rfl _ Try.underlying24 rfl (infoW _) ?_
  refine quiet_box 3 rfl 24 _ rfl rfl rfl _ Try.underlying24 rfl (infoW _) ?_
  (refine wpQuiet_step (fun K hK => ?_); go_simp; (first | refine hK _ ?_ | refine ⟨_, fun _ _ => rfl, hK _ ?_⟩); clear hK K)
  (first | (go_big_quiet_want; go_big_quiet_op; go_big_quiet_on) | (refine wpQuiet_step (fun K hK => ?_); go_simp; (first | refine hK _ ?_ | refine ⟨_, fun _ _ => rfl, hK _ ?_⟩); clear hK K))
  (first | (go_big_quiet_want; go_big_quiet_op; go_big_quiet_on) | (refine wpQuiet_step (fun K hK => ?_); go_simp; (first | refine hK _ ?_ | refine ⟨_, fun _ _ => rfl, hK _ ?_⟩); clear hK K))
  (first | (go_big_quiet_want; go_big_quiet_op; go_big_quiet_on) | (refine wpQuiet_step (fun K hK => ?_); go_simp; (first | refine hK _ ?_ | refine ⟨_, fun _ _ => rfl, hK _ ?_⟩); clear hK K))
  (refine wpQuiet_step (fun K hK => ?_); go_simp; (first | refine hK _ ?_ | refine ⟨_, fun _ _ => rfl, hK _ ?_⟩); clear hK K)
  (refine wpQuiet_step (fun K hK => ?_); go_simp; (first | refine hK _ ?_ | refine ⟨_, fun _ _ => rfl, hK _ ?_⟩); clear hK K)
  (first | (go_big_quiet_want; go_big_quiet_op; go_big_quiet_on) | (refine wpQuiet_step (fun K hK => ?_); go_simp; (first | refine hK _ ?_ | refine ⟨_, fun _ _ => rfl, hK _ ?_⟩); clear hK K))
  refine quiet_box 4 rfl 24 _ rfl rfl rfl _ Try.underlying24 rfl (infoW _) ?_
  refine quiet_box 5 rfl 24 _ rfl rfl rfl _ Try.underlying24 rfl (infoW _) ?_
  (refine wpQuiet_step (fun K hK => ?_); go_simp; (first | refine hK _ ?_ | refine ⟨_, fun _ _ => rfl, hK _ ?_⟩); clear hK K)
  (refine wpQuiet_step (fun K hK => ?_); go_simp; (first | refine hK _ ?_ | refine ⟨_, fun _ _ => rfl, hK _ ?_⟩); clear hK K)
  (first | (go_big_quiet_want; go_big_quiet_op; go_big_quiet_on) | (refine wpQuiet_step (fun K hK => ?_); go_simp; (first | refine hK _ ?_ | refine ⟨_, fun _ _ => rfl, hK _ ?_⟩); clear hK K))
  (first | (go_big_quiet_want; go_big_quiet_op; go_big_quiet_on) | (refine wpQuiet_step (fun K hK => ?_); go_simp; (first | refine hK _ ?_ | refine ⟨_, fun _ _ => rfl, hK _ ?_⟩); clear hK K))
  (first | (go_big_quiet_want; go_big_quiet_op; go_big_quiet_on) | (refine wpQuiet_step (fun K hK => ?_); go_simp; (first | refine hK _ ?_ | refine ⟨_, fun _ _ => rfl, hK _ ?_⟩); clear hK K))
  (refine wpQuiet_step (fun K hK => ?_); go_simp; (first | refine hK _ ?_ | refine ⟨_, fun _ _ => rfl, hK _ ?_⟩); clear hK K)
  (refine wpQuiet_step (fun K hK => ?_); go_simp; (first | refine hK _ ?_ | refine ⟨_, fun _ _ => rfl, hK _ ?_⟩); clear hK K)
  (first | (go_big_quiet_want; go_big_quiet_op; go_big_quiet_on) | (refine wpQuiet_step (fun K hK => ?_); go_simp; (first | refine hK _ ?_ | refine ⟨_, fun _ _ => rfl, hK _ ?_⟩); clear hK K))
  refine quiet_box 6 rfl 24 _ rfl rfl rfl _ Try.underlying24 rfl (infoW _) ?_
  refine quiet_box 8 rfl 24 _ rfl rfl rfl _ Try.underlying24 rfl (infoW _) ?_
  (refine wpQuiet_step (fun K hK => ?_); go_simp; (first | refine hK _ ?_ | refine ⟨_, fun _ _ => rfl, hK _ ?_⟩); clear hK K)
  (refine wpQuiet_step (fun K hK => ?_); go_simp; (first | refine hK _ ?_ | refine ⟨_, fun _ _ => rfl, hK _ ?_⟩); clear hK K)
  (first | (go_big_quiet_want; go_big_quiet_op; go_big_quiet_on) | (refine wpQuiet_step (fun K hK => ?_); go_simp; (first | refine hK _ ?_ | refine ⟨_, fun _ _ => rfl, hK _ ?_⟩); clear hK K))
  refine quiet_box 7 rfl 24 _ rfl rfl rfl _ Try.underlying24 rfl (infoW _) ?_
  refine quiet_box 9 rfl 24 _ rfl rfl rfl _ Try.underlying24 rfl (infoW _) ?_
  (refine wpQuiet_step (fun K hK => ?_); go_simp; (first | refine hK _ ?_ | refine ⟨_, fun _ _ => rfl, hK _ ?_⟩); clear hK K)
  (refine wpQuiet_step (fun K hK => ?_); go_simp; (first | refine hK _ ?_ | refine ⟨_, fun _ _ => rfl, hK _ ?_⟩); clear hK K)
  (first | (go_big_quiet_want; go_big_quiet_op; go_big_quiet_on) | (refine wpQuiet_step (fun K hK => ?_); go_simp; (first | refine hK _ ?_ | refine ⟨_, fun _ _ => rfl, hK _ ?_⟩); clear hK K))
  refine quiet_box 0 rfl 24 _ rfl rfl rfl _ Try.underlying24 rfl (infoW _) ?_
  (first | (go_big_quiet_want; go_big_quiet_op; go_big_quiet_on) | (refine wpQuiet_step (fun K hK => ?_); go_simp; (first | refine hK _ ?_ | refine ⟨_, fun _ _ => rfl, hK _ ?_⟩); clear hK K))
  (refine wpQuiet_step (fun K hK => ?_); go_simp; refine ⟨_, fun W hW => (L1.out W).mono fun _ _ h => ⟨h.1, hW.call h.2⟩, hK _ ?_⟩; clear hK K)
  refine quiet_box 0 rfl 24 _ rfl rfl rfl _ Try.underlying24 rfl (infoW _) ?_
  (first | (go_big_quiet_want; go_big_quiet_op; go_big_quiet_on) | (refine wpQuiet_step (fun K hK => ?_); go_simp; (first | refine hK _ ?_ | refine ⟨_, fun _ _ => rfl, hK _ ?_⟩); clear hK K))
  (refine wpQuiet_step (fun K hK => ?_); go_simp; refine ⟨_, fun W hW => (L2.out W).mono fun _ _ h => ⟨h.1, hW.call h.2⟩, hK _ ?_⟩; clear hK K)
  (refine wpQuiet_step (fun K hK => ?_); go_simp; (first | refine hK _ ?_ | refine ⟨_, fun _ _ => rfl, hK _ ?_⟩); clear hK K)
  (refine wpQuiet_step (fun K hK => ?_); go_simp; (first | refine hK _ ?_ | refine ⟨_, fun _ _ => rfl, hK _ ?_⟩); clear hK K)
  (first | (go_big_quiet_want; go_big_quiet_op; go_big_quiet_on) | (refine wpQuiet_step (fun K hK => ?_); go_simp; (first | refine hK _ ?_ | refine ⟨_, fun _ _ => rfl, hK _ ?_⟩); clear hK K))
  refine quiet_box 0 rfl 24 _ rfl rfl rfl _ Try.underlying24 rfl (infoW _) ?_
  (first | (go_big_quiet_want; go_big_quiet_op; go_big_quiet_on) | (refine wpQuiet_step (fun K hK => ?_); go_simp; (first | refine hK _ ?_ | refine ⟨_, fun _ _ => rfl, hK _ ?_⟩); clear hK K))
  (refine wpQuiet_step (fun K hK => ?_); go_simp; refine ⟨_, fun W hW => (R1.out W).mono fun _ _ h => ⟨h.1, hW.call h.2⟩, hK _ ?_⟩; clear hK K)
  refine quiet_box 0 rfl 24 _ rfl rfl rfl _ Try.underlying24 rfl (infoW _) ?_
  (first | (go_big_quiet_want; go_big_quiet_op; go_big_quiet_on) | (refine wpQuiet_step (fun K hK => ?_); go_simp; (first | refine hK _ ?_ | refine ⟨_, fun _ _ => rfl, hK _ ?_⟩); clear hK K))
  (refine wpQuiet_step (fun K hK => ?_); go_simp; refine ⟨_, fun W hW => (R2.out W).mono fun _ _ h => ⟨h.1, hW.call h.2⟩, hK _ ?_⟩; clear hK K)
  (refine wpQuiet_step (fun K hK => ?_); go_simp; (first | refine hK _ ?_ | refine ⟨_, fun _ _ => rfl, hK _ ?_⟩); clear hK K)
  (refine wpQuiet_step (fun K hK => ?_); go_simp; (first | refine hK _ ?_ | refine ⟨_, fun _ _ => rfl, hK _ ?_⟩); clear hK K)
  (first | (go_big_quiet_want; go_big_quiet_op; go_big_quiet_on) | (refine wpQuiet_step (fun K hK => ?_); go_simp; (first | refine hK _ ?_ | refine ⟨_, fun _ _ => rfl, hK _ ?_⟩); clear hK K))
  refine quiet_box 0 rfl 24 _ rfl rfl rfl _ Try.underlying24 rfl (infoW _) ?_
  (refine wpQuiet_step (fun K hK => ?_); go_simp; refine ⟨_, fun W hW => (N1.out W).mono fun _ _ h => ⟨h.1, hW.call h.2⟩, hK _ ?_⟩; clear hK K)
  refine quiet_box 0 rfl 24 _ rfl rfl rfl _ Try.underlying24 rfl (infoW _) ?_
  (refine wpQuiet_step (fun K hK => ?_); go_simp; refine ⟨_, fun W hW => (N2.out W).mono fun _ _ h => ⟨h.1, hW.call h.2⟩, hK _ ?_⟩; clear hK K)
  (refine wpQuiet_step (fun K hK => ?_); go_simp; (first | refine hK _ ?_ | refine ⟨_, fun _ _ => rfl, hK _ ?_⟩); clear hK K)
  (refine wpQuiet_step (fun K hK => ?_); go_simp; (first | refine hK _ ?_ | refine ⟨_, fun _ _ => rfl, hK _ ?_⟩); clear hK K)
  (first | (go_big_quiet_want; go_big_quiet_op; go_big_quiet_on) | (refine wpQuiet_step (fun K hK => ?_); go_simp; (first | refine hK _ ?_ | refine ⟨_, fun _ _ => rfl, hK _ ?_⟩); clear hK K))
  refine wpQuiet_nil ?_
  clear hH
  intro W hH
  go_wp2
  go_ret
  exact ⟨rfl, hH.bel⟩

theorem sums_any (a b : Nat) (n : Int) (ha : a < top) (hb : b < top) (hn : n ≤ 9223372036854775807) (w : World) :
    Calls Try.prog 4 #[.agg (wcells a), .agg (wcells b), .int .i64 n] w fun e w' => e = .returned (.bool true) ∧ Below w.heap.size w w' := by
  have L2 : ∀ w, Calls Try.prog 33 #[.agg (wcells a), .int .i64 n] w fun e w' => e = .returned (.agg (wcells (a * 2 ^ n.toNat % top))) ∧ Below w.heap.size w w' := fun w => by
    by_cases h : n ≤ 0
    · have e : a * 2 ^ n.toNat % top = a := by rw [Int.toNat_of_nonpos h, Nat.pow_zero, Nat.mul_one, Nat.mod_eq_of_lt ha]
      rw [e]
      exact rLeft_none a n h w
    · obtain ⟨k, rfl⟩ : ∃ k : Nat, n = (k : Int) := ⟨n.toNat, by omega⟩
      rw [Int.toNat_natCast]
      exact rLeft_some a k ha (by omega) (by omega) w
  have R2 : ∀ w, Calls Try.prog 35 #[.agg (wcells a), .int .i64 n] w fun e w' => e = .returned (.agg (wcells (a / 2 ^ n.toNat))) ∧ Below w.heap.size w w' := fun w => by
    by_cases h : n ≤ 0
    · have e : a / 2 ^ n.toNat = a := by rw [Int.toNat_of_nonpos h, Nat.pow_zero, Nat.div_one]
      rw [e]
      exact rRight_none a n h w
    · obtain ⟨k, rfl⟩ : ∃ k : Nat, n = (k : Int) := ⟨n.toNat, by omega⟩
      rw [Int.toNat_natCast]
      exact rRight_some a k ha (by omega) (by omega) w
  exact sums_words a b _ _ _ _ _ _ _ _ _ n w (add_any a b ha hb) (rAdd_any a b ha hb) (sub_any a b ha hb) (rSub_any a b ha hb) (mul_any a b ha hb) (rMul_any a b ha hb) (left_any a n ha) L2 (right_any a n ha) R2 (not_any a ha) (rNot_any a ha)

set_option maxRecDepth 100000 in
theorem sumsW_lifted (os : Os) (started : os.Started) (H : Type) (enc : TypeId × Value → H) :
    ReturnsInHanded {} Try.checked os 4 .any (Rows.wideSumsSpec.pre6 enc Try.prog Try.f4 Rows.wideSumsRow.domain false) (Rows.wideSumsSpec.post enc Try.prog Try.f4 false true false false) := by
  refine returnsInHanded_of_change (C := Try.checked) Go.Proofs.Ytgmgejjlhlibkaa.own started (by kernel_rfl) Try.func4
    (ChangeSpec.witness6 (enc := enc) (C := Try.checked) false ⟨#[], #[.agg #[.int .u64 0, .int .u64 0, .int .u64 0, .int .u64 0], .agg #[.int .u64 0, .int .u64 0, .int .u64 0, .int .u64 0], .int .i64 0], []⟩ 8 (by kernel_rfl) (by kernel_rfl) (by kernel_rfl) (by kernel_rfl)) ?_
  intro W base args ds gs before hval0 hW hcnd _
  have hval : ∀ (j : Nat) t v, Try.f4.params[j]? = some t → args[j]? = some v → Value.okWide Try.prog W .any base t v := hval0
  have hW' := hW
  obtain ⟨p, q, hA0, hV, rfl, hfz, hnd⟩ := hW
  have hA : DataW.TrodAll enc Try.prog W 0 (fun _ => true) true Try.f4.params.toList args.toList ds p := hA0
  rw [Try.params4] at hA hval
  obtain ⟨v0, vs0, d0, ds0, p0, q0, hargs, rfl, rfl, h0, r0⟩ := trodAll_cons hA
  obtain ⟨v1, vs1, d1, ds1, p1, q1, rfl, rfl, rfl, h1, r1⟩ := trodAll_cons r0
  obtain ⟨v2, vs2, d2, ds2, p2, q2, rfl, rfl, rfl, h2, r2⟩ := trodAll_cons r1
  obtain ⟨rfl, rfl, rfl⟩ := trodAll_nil r2
  obtain rfl : args = #[v0, v1, v2] := by cases args; simp_all
  obtain ⟨rfl, rfl⟩ := trodVars_none hV
  have k0 := h0
  have lt0 : ∀ x ∈ p0, x.block < W.heap.size := by obtain ⟨m, hm⟩ := k0; exact DataW.trod_lt m _ _ _ hm
  have k1 := h1
  have lt1 : ∀ x ∈ p1, x.block < W.heap.size := by obtain ⟨m, hm⟩ := k1; exact DataW.trod_lt m _ _ _ hm
  have k2 := h2
  have lt2 : ∀ x ∈ p2, x.block < W.heap.size := by obtain ⟨m, hm⟩ := k2; exact DataW.trod_lt m _ _ _ hm
  obtain ⟨cs0, rfl⟩ := okWide_array Try.underlying24 (hval 0 24 v0 rfl rfl)
  obtain ⟨z0, hz0, rfl⟩ := isWide_of k0
  obtain ⟨cs1, rfl⟩ := okWide_array Try.underlying24 (hval 1 24 v1 rfl rfl)
  obtain ⟨z1, hz1, rfl⟩ := isWide_of k1
  obtain ⟨z2, rfl, rfl, rfl, wz2⟩ := open_int Try.underlying3 (hval 2 3 v2 rfl rfl) h2
  have hz2 := bounds_i64 wz2
  clear hA0 hval0
  refine (sums_any z0 z1 z2 hz0 hz1 (by omega) W).mono fun e W' ⟨he, bel⟩ => ?_
  subst he
  exact ⟨_, rfl, _, _, _, [], _, [], hW', trodAll_mk1 (shut_bool Try.underlying4 _), (trodAll_cons_mk (Below.trod Go.Proofs.Ytgmgejjlhlibkaa.laidOut (by kernel_rfl) (of_decide_eq_true (by kernel_rfl)) k0 bel lt0) (trodAll_cons_mk (Below.trod Go.Proofs.Ytgmgejjlhlibkaa.laidOut (by kernel_rfl) (of_decide_eq_true (by kernel_rfl)) k1 bel lt1) (trodAll_cons_mk (Below.trod Go.Proofs.Ytgmgejjlhlibkaa.laidOut (by kernel_rfl) (of_decide_eq_true (by kernel_rfl)) k2 bel lt2) trodAll_mk0))), rfl, bel.frame _, fun h => by cases h⟩

theorem sumsW_over : Rows.wideSumsRow.holds Try.pinned (OpenSpec.ofChange Rows.wideSumsSpec) :=
  OpenClaim.holds_of_wide 4 Try.f4 rfl rfl rfl rfl rfl rfl rfl ⟨rfl, rfl, rfl, rfl, rfl⟩ rfl rfl rfl rfl rfl (by kernel_rfl) Try.func4 (by kernel_rfl)
    (of_decide_eq_true (by kernel_rfl)) (by unfold Func.isWrapper; first | (rw [if_pos (by decide +kernel)]; kernel_rfl) | (rw [if_neg (by decide +kernel)]; exact ⟨rfl, rfl⟩))
    (fun os started H enc _ => sumsW_lifted os started H enc)

/-- WideSums is true at every two numbers and every shift. -/
theorem sumsW_proved : Rows.WideSumsSaid := sumsW_over
#print axioms sumsW_proved
end Go.Proofs.Ytgmgejjlhlibkaa
