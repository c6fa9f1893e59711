/- WideBack is true at every two numbers. No condition. -/
import Derived.Test.YtgmgejjlhlibkaaWidT
import Derived.Test.YtgmgejjlhlibkaaWidG
import Derived.Test.YtgmgejjlhlibkaaDig
namespace Go.Proofs.Ytgmgejjlhlibkaa
set_option linter.unusedVariables false
open Go.ChangeShapes Go.WideShapes Go.ChangeAt Go.RowKit Oct

/-- The lowest k digits, the highest first. -/
def lowD (n : Nat) : Nat → List UInt8
  | 0 => []
  | k + 1 => dig (nib n k) :: lowD n k
theorem lowD_length (n k : Nat) : (lowD n k).length = k := by induction k with
  | zero => rfl
  | succ k ih => simp [lowD, ih]
theorem lowD_get (n k i : Nat) (h : i < (lowD n k).length) : (lowD n k)[i] = dig (nib n (k - 1 - i)) := by
  induction k generalizing i with
  | zero => simp [lowD] at h
  | succ k ih =>
    rcases i with _ | i
    · simp [lowD]
    · simp only [lowD, List.getElem_cons_succ]
      rw [ih]
      congr 2
      omega
theorem digitsW_low (n : Nat) : digitsW n = lowD n 64 := by
  refine List.ext_getElem (by rw [digitsW_length, lowD_length]) fun i h1 h2 => ?_
  have h3 : (digitsW n)[i] = dig (nib n (63 - i)) := by simp [digitsW]
  rw [lowD_get]
  exact h3
theorem mod_nib (n k : Nat) : n % 16 ^ (k + 1) = n % 16 ^ k + 16 ^ k * nib n k := by
  rw [Nat.pow_succ, Nat.mod_mul]
  rfl
theorem hex_low (n k m : Nat) : (lowD n k).foldl (fun n c => 16 * n + (hexv c).toNat) m = m * 16 ^ k + n % 16 ^ k := by
  induction k generalizing m with
  | zero => simp [lowD, Nat.mod_one]
  | succ k ih =>
    rw [lowD, List.foldl_cons, ih, hexv_dig _ (nib_lt n k), Int.toNat_natCast, mod_nib, Nat.pow_succ, Nat.add_mul, Nat.mul_comm (16 ^ k) (nib n k), Nat.mul_comm (16 ^ k) 16, ← Nat.mul_assoc, Nat.mul_comm m 16]
    omega
theorem hexN_digits (n : Nat) (hn : n < top) : hexN (digitsW n) = n := by
  have h := hex_low n 64 0
  rw [← digitsW_low, Nat.zero_mul, Nat.zero_add, Nat.mod_eq_of_lt (by rw [show (16 : Nat) ^ 64 = top by unfold top; decide +kernel]; exact hn)] at h
  exact h
theorem hexB_digits (n : Nat) : hexB (digitsW n) = true := by
  unfold hexB digitsW
  rw [List.all_eq_true]
  intro c hc
  obtain ⟨i, _, rfl⟩ := List.mem_map.1 hc
  rw [hexv_dig _ (nib_lt n _)]
  simp
theorem dig_lt (i j : Nat) (hi : i < 16) (hj : j < 16) : (dig i < dig j) ↔ i < j := by
  have h : ∀ i j : Fin 16, (dig i.val < dig j.val) ↔ i.val < j.val := by decide
  exact h ⟨i, hi⟩ ⟨j, hj⟩
theorem cmp_low (a b k : Nat) : Lib.compareBytes (lowD a k) (lowD b k) = cmpI ((a % 16 ^ k : Nat) : Int) ((b % 16 ^ k : Nat) : Int) := by
  induction k with
  | zero => simp [lowD, Lib.compareBytes, Nat.mod_one, cmpI]
  | succ k ih =>
    have ha := Nat.mod_lt a (Nat.pow_pos (n := k) (show 0 < 16 by decide))
    have hb := Nat.mod_lt b (Nat.pow_pos (n := k) (show 0 < 16 by decide))
    have h1 := nib_lt a k
    have h2 := nib_lt b k
    rw [lowD, lowD, Lib.compareBytes, ih, mod_nib, mod_nib]
    simp only [dig_lt _ _ h1 h2, dig_lt _ _ h2 h1]
    generalize nib a k = x at *
    generalize nib b k = y at *
    generalize a % 16 ^ k = u at *
    generalize b % 16 ^ k = v at *
    generalize 16 ^ k = p at *
    unfold cmpI
    rcases Nat.lt_trichotomy x y with h | h | h
    · have h3 : p * (x + 1) ≤ p * y := Nat.mul_le_mul_left p h
      rw [Nat.mul_add, Nat.mul_one] at h3
      rw [if_pos h, if_pos (by omega)]
    · subst h
      rw [if_neg (Nat.lt_irrefl x), if_neg (Nat.lt_irrefl x)]
      have e1 : (((u + p * x : Nat) : Int) < ((v + p * x : Nat) : Int)) ↔ ((u : Int) < v) := by omega
      have e2 : (((v + p * x : Nat) : Int) < ((u + p * x : Nat) : Int)) ↔ ((v : Int) < u) := by omega
      simp only [e1, e2]
    · have h3 : p * (y + 1) ≤ p * x := Nat.mul_le_mul_left p h
      rw [Nat.mul_add, Nat.mul_one] at h3
      rw [if_neg (by omega), if_pos h, if_neg (by omega), if_pos (by omega)]
theorem cmp_digits (a b : Nat) (ha : a < top) (hb : b < top) : Lib.compareBytes (digitsW a) (digitsW b) = cmpI (a : Int) (b : Int) := by
  have h := cmp_low a b 64
  rw [← digitsW_low, ← digitsW_low, show (16 : Nat) ^ 64 = top by unfold top; decide +kernel, Nat.mod_eq_of_lt ha, Nat.mod_eq_of_lt hb] at h
  exact h
theorem leN_low (n k : Nat) : leN ((List.range k).map fun i => UInt8.ofNat (Oct.byteOf n i)) = n % 256 ^ k := by
  induction k with
  | zero => simp [leN, Nat.mod_one]
  | succ k ih =>
    have hb := byteOf_lt n k
    rw [List.range_succ, List.map_append, List.map_singleton, leN_snoc, ih, List.length_map, List.length_range, UInt8.toNat_ofNat', Nat.mod_eq_of_lt (show Oct.byteOf n k < 2 ^ 8 by omega), Nat.pow_succ, Nat.mod_mul, Nat.mul_comm (Oct.byteOf n k)]
    rfl
theorem leN_bytes (n : Nat) (hn : n < top) : leN (bytesW n) = n := by
  have h := leN_low n 32
  rw [show (256 : Nat) ^ 32 = top by unfold top; decide +kernel, Nat.mod_eq_of_lt hn] at h
  exact h
theorem keeps2 (w : World) (A B : Array Value) (t : TypeId) : Keeps w [(w.heap.size, A, t), (w.heap.size + 1, B, t)] ((w.alloc (.cells A t)).alloc (.cells B t)) := by
  have h := ((Keeps.nil w).new A t).new B t
  simp only [World.size_alloc, List.nil_append, List.cons_append] at h
  exact h

set_option maxRecDepth 100000 in
set_option maxHeartbeats 8000000 in
theorem back_same (a b : Nat) (da db : ByteArray) (k : Int) (w : World)
    (CV : Hid (∀ w, Calls Try.prog 42 #[] w fun e w' => e = .returned (.bool true) ∧ Below w.heap.size w w'))
    (K1 : Hid (∀ w, Calls Try.prog 24 #[.agg (wcells a), .agg (wcells b)] w fun e w' => e = .returned (.int .i64 k) ∧ Below w.heap.size w w'))
    (K2 : Hid (∀ w, Calls Try.prog 24 #[.agg (wcells b), .agg (wcells a)] w fun e w' => e = .returned (.int .i64 (-k)) ∧ Below w.heap.size w w'))
    (DA : Hid (∀ w, Calls Try.prog 20 #[.agg (wcells a)] w fun e w' => e = .returned (.string da) ∧ Below w.heap.size w w'))
    (DB : Hid (∀ w, Calls Try.prog 20 #[.agg (wcells b)] w fun e w' => e = .returned (.string db) ∧ Below w.heap.size w w'))
    (PA : Hid (∀ w, Calls Try.prog 14 #[.string da] w fun e w' => e = .returned (.tuple #[.agg (wcells a), .int .i64 0]) ∧ Below w.heap.size w w'))
    (S1 : Hid (∀ w, Calls Try.prog 43 #[.string da, .string db] w fun e w' => e = .returned (.int .i64 k) ∧ Below w.heap.size w w'))
    (BA : Hid (∀ w, Calls Try.prog 18 #[.agg (wcells a)] w (NewBytes w (bytesW a))))
    (RA : Hid (∀ A c w, Holds8 w.heap.size w A (bytesW a) → Calls Try.prog 12 #[.slice A (bytesW a).length c] w fun e w' => e = .returned (.tuple #[.agg (wcells a), .int .i64 0]) ∧ Below w.heap.size w w'))
    (hk1 : -1 ≤ k) (hk2 : k ≤ 1) (hkz : (k == 0) = true) (hE2 : ∀ w, (Op.equalIn 10000 24 (.agg (wcells a)) (.agg (wcells b))).run Try.prog w = .ok true w) :
    Calls Try.prog 7 #[.agg (wcells a), .agg (wcells b)] w fun e w' => e = .returned (.bool true) ∧ Below w.heap.size w w' := by
  have hE := eqW
  have hH := keeps2 w (wcells a) (wcells b) 24
  go_enter Try.func7, Try.ntmps7
  go_wp2_with fail
  generalize (w.alloc (.cells (wcells a) 24)).alloc (.cells (wcells b) 24) = W0 at *
  have tk0 : True := trivial
  go_wp2_with (first | (go_at_call 42; with_reducible refine (CV.out _).mono ?_; rintro e W1 ⟨rfl, hB⟩; replace hH := hH.call hB; clear hB) | (go_at_call 20; with_reducible refine (DA.out _).mono ?_; rintro e W1 ⟨rfl, hB⟩; replace hH := hH.call hB; clear hB) | (go_at_call 14; with_reducible refine (PA.out _).mono ?_; rintro e W1 ⟨rfl, hB⟩; replace hH := hH.call hB; clear hB) | (go_at_call 18; (with_reducible refine (BA.out _).mono ?_); rintro e W1 ⟨A, c, rfl, hh, -, hB⟩; replace hH := hH.call hB; clear hB) | (go_at_call 12; with_reducible refine (RA.out _ _ _ hh).mono ?_; clear hh; rintro e W1 ⟨rfl, hB⟩; replace hH := hH.call hB; clear hB) | (have _t := tk0; refine wpList_boxg hH 0 24 _ rfl rfl rfl _ Try.underlying24 rfl (infoW _) (by rfl) ?_; clear _t tk0; have tk1 : True := trivial) | (have _t := tk1; refine wpList_fill hH rfl 24 _ _ rfl rfl rfl (infoW _) rfl (oneW _) ?_; clear _t tk1 hH; have tk2 : True := trivial; intro W1 hH) | (have _t := tk2; refine wpList_boxg hH 0 24 _ rfl rfl rfl _ Try.underlying24 rfl (infoW _) (by rfl) ?_; clear _t tk2; have tk3 : True := trivial) | (have _t := tk3; refine wpList_fill hH rfl 24 _ _ rfl rfl rfl (infoW _) rfl (oneW _) ?_; clear _t tk3 hH; have tk4 : True := trivial; intro W1 hH))
  have hz1 : IntKind.i64.wrap (-k) = -k := IntWalk.i64_in _ (by omega)
  refine wp_region_class (C := Keeps w _) (by kernel_rfl) (by kernel_rfl) hH.drew ?_
  (refine wpQuiet_step (fun K hK => ?_); go_simp; (first | refine hK _ ?_ | refine ⟨_, fun _ _ => rfl, hK _ ?_⟩); clear hK K)
  (refine wpQuiet_step (fun K hK => ?_); go_simp; (first | refine hK _ ?_ | refine ⟨_, fun _ _ => rfl, hK _ ?_⟩); clear hK K)
  (refine wpQuiet_step (fun K hK => ?_); go_simp; (first | refine hK _ ?_ | refine ⟨_, fun _ _ => rfl, hK _ ?_⟩); clear hK K)
  (refine wpQuiet_step (fun K hK => ?_); go_simp; (first | refine hK _ ?_ | refine ⟨_, fun _ _ => rfl, hK _ ?_⟩); clear hK K)
  (refine wpQuiet_step (fun K hK => ?_); go_simp; (first | refine hK _ ?_ | refine ⟨_, fun _ _ => rfl, hK _ ?_⟩); clear hK K)
  (refine wpQuiet_step (fun K hK => ?_); go_simp; (first | refine hK _ ?_ | refine ⟨_, fun _ _ => rfl, hK _ ?_⟩); clear hK K)
  (refine wpQuiet_step (fun K hK => ?_); go_simp; (first | refine hK _ ?_ | refine ⟨_, fun _ _ => rfl, hK _ ?_⟩); clear hK K)
  (refine wpQuiet_step (fun K hK => ?_); go_simp; (first | refine hK _ ?_ | refine ⟨_, fun _ _ => rfl, hK _ ?_⟩); clear hK K)
  (refine wpQuiet_step (fun K hK => ?_); go_simp; (first | refine hK _ ?_ | refine ⟨_, fun _ _ => rfl, hK _ ?_⟩); clear hK K)
  (refine wpQuiet_step (fun K hK => ?_); go_simp; (first | refine hK _ ?_ | refine ⟨_, fun _ _ => rfl, hK _ ?_⟩); clear hK K)
  refine quiet_box 2 rfl 24 _ rfl rfl rfl _ Try.underlying24 rfl (infoW _) ?_
  refine quiet_box 0 rfl 24 _ rfl rfl rfl _ Try.underlying24 rfl (infoW _) ?_
  (refine wpQuiet_step (fun K hK => ?_); go_simp; (first | refine hK _ ?_ | refine ⟨_, fun _ _ => rfl, hK _ ?_⟩); clear hK K)
  (refine wpQuiet_step (fun K hK => ?_); go_simp; (first | refine hK _ ?_ | refine ⟨_, fun _ _ => rfl, hK _ ?_⟩); clear hK K)
  (refine wpQuiet_step (fun K hK => ?_); go_simp; (first | refine hK _ ?_ | refine ⟨_, fun _ _ => rfl, hK _ ?_⟩); clear hK K)
  refine quiet_box 3 rfl 24 _ rfl rfl rfl _ Try.underlying24 rfl (infoW _) ?_
  refine quiet_box 0 rfl 24 _ rfl rfl rfl _ Try.underlying24 rfl (infoW _) ?_
  (refine wpQuiet_step (fun K hK => ?_); go_simp; (first | refine hK _ ?_ | refine ⟨_, fun _ _ => rfl, hK _ ?_⟩); clear hK K)
  (refine wpQuiet_step (fun K hK => ?_); go_simp; (first | refine hK _ ?_ | refine ⟨_, fun _ _ => rfl, hK _ ?_⟩); clear hK K)
  (refine wpQuiet_step (fun K hK => ?_); go_simp; (first | refine hK _ ?_ | refine ⟨_, fun _ _ => rfl, hK _ ?_⟩); clear hK K)
  refine quiet_box 0 rfl 24 _ rfl rfl rfl _ Try.underlying24 rfl (infoW _) ?_
  refine quiet_box 1 rfl 24 _ rfl rfl rfl _ Try.underlying24 rfl (infoW _) ?_
  (refine wpQuiet_step (fun K hK => ?_); go_simp; refine ⟨_, fun W hW => (K1.out W).mono fun _ _ h => ⟨h.1, hW.call h.2⟩, hK _ ?_⟩; clear hK K)
  refine quiet_box 0 rfl 24 _ rfl rfl rfl _ Try.underlying24 rfl (infoW _) ?_
  (refine wpQuiet_step (fun K hK => ?_); go_simp; refine ⟨_, fun W hW => (DA.out W).mono fun _ _ h => ⟨h.1, hW.call h.2⟩, hK _ ?_⟩; clear hK K)
  refine quiet_box 1 rfl 24 _ rfl rfl rfl _ Try.underlying24 rfl (infoW _) ?_
  (refine wpQuiet_step (fun K hK => ?_); go_simp; refine ⟨_, fun W hW => (DB.out W).mono fun _ _ h => ⟨h.1, hW.call h.2⟩, hK _ ?_⟩; clear hK K)
  (refine wpQuiet_step (fun K hK => ?_); go_simp; refine ⟨_, fun W hW => (S1.out W).mono fun _ _ h => ⟨h.1, hW.call h.2⟩, hK _ ?_⟩; clear hK K)
  (refine wpQuiet_step (fun K hK => ?_); go_simp; (first | refine hK _ ?_ | refine ⟨_, fun _ _ => rfl, hK _ ?_⟩); clear hK K)
  (refine wpQuiet_step (fun K hK => ?_); go_simp; (first | refine hK _ ?_ | refine ⟨_, fun _ _ => rfl, hK _ ?_⟩); clear hK K)
  (refine wpQuiet_step (fun K hK => ?_); go_simp; (first | refine hK _ ?_ | refine ⟨_, fun _ _ => rfl, hK _ ?_⟩); clear hK K)
  refine quiet_box 1 rfl 24 _ rfl rfl rfl _ Try.underlying24 rfl (infoW _) ?_
  refine quiet_box 0 rfl 24 _ rfl rfl rfl _ Try.underlying24 rfl (infoW _) ?_
  (refine wpQuiet_step (fun K hK => ?_); go_simp; refine ⟨_, fun W hW => (K2.out W).mono fun _ _ h => ⟨h.1, hW.call h.2⟩, hK _ ?_⟩; clear hK K)
  refine quiet_box 0 rfl 24 _ rfl rfl rfl _ Try.underlying24 rfl (infoW _) ?_
  refine quiet_box 1 rfl 24 _ rfl rfl rfl _ Try.underlying24 rfl (infoW _) ?_
  (refine wpQuiet_step (fun K hK => ?_); go_simp; refine ⟨_, fun W hW => (K1.out W).mono fun _ _ h => ⟨h.1, hW.call h.2⟩, hK _ ?_⟩; clear hK K)
  (refine wpQuiet_step (fun K hK => ?_); go_simp; (first | refine hK _ ?_ | refine ⟨_, fun _ _ => rfl, hK _ ?_⟩); clear hK K)
  (refine wpQuiet_step (fun K hK => ?_); go_simp; (first | refine hK _ ?_ | refine ⟨_, fun _ _ => rfl, hK _ ?_⟩); clear hK K)
  (refine wpQuiet_step (fun K hK => ?_); go_simp; (first | refine hK _ ?_ | refine ⟨_, fun _ _ => rfl, hK _ ?_⟩); clear hK K)
  (refine wpQuiet_step (fun K hK => ?_); go_simp; (first | refine hK _ ?_ | refine ⟨_, fun _ _ => rfl, hK _ ?_⟩); clear hK K)
  refine quiet_box 0 rfl 24 _ rfl rfl rfl _ Try.underlying24 rfl (infoW _) ?_
  refine quiet_box 1 rfl 24 _ rfl rfl rfl _ Try.underlying24 rfl (infoW _) ?_
  (refine wpQuiet_step (fun K hK => ?_); go_simp; refine ⟨_, fun W hW => (K1.out W).mono fun _ _ h => ⟨h.1, hW.call h.2⟩, hK _ ?_⟩; clear hK K)
  (refine wpQuiet_step (fun K hK => ?_); go_simp; (first | refine hK _ ?_ | refine ⟨_, fun _ _ => rfl, hK _ ?_⟩); clear hK K)
  refine quiet_box 0 rfl 24 _ rfl rfl rfl _ Try.underlying24 rfl (infoW _) ?_
  refine quiet_box 1 rfl 24 _ rfl rfl rfl _ Try.underlying24 rfl (infoW _) ?_
  (refine wpQuiet_step (fun K hK => ?_); go_simp; (first | refine hK _ ?_ | refine ⟨_, fun _ _ => rfl, hK _ ?_⟩); clear hK K)
  (refine wpQuiet_step (fun K hK => ?_); go_simp; (first | refine hK _ ?_ | refine ⟨_, fun _ _ => rfl, hK _ ?_⟩); clear hK K)
  (refine wpQuiet_step (fun K hK => ?_); go_simp; (first | refine hK _ ?_ | refine ⟨_, fun _ _ => rfl, hK _ ?_⟩); clear hK K)
  (refine wpQuiet_step (fun K hK => ?_); go_simp; (first | refine hK _ ?_ | refine ⟨_, fun _ _ => rfl, hK _ ?_⟩); clear hK K)
  refine wpQuiet_nil ?_
  clear hH
  intro W hH
  go_wp2
  go_ret
  exact ⟨rfl, hH.bel⟩

set_option maxRecDepth 100000 in
set_option maxHeartbeats 8000000 in
theorem back_other (a b : Nat) (da db : ByteArray) (k : Int) (w : World)
    (CV : Hid (∀ w, Calls Try.prog 42 #[] w fun e w' => e = .returned (.bool true) ∧ Below w.heap.size w w'))
    (K1 : Hid (∀ w, Calls Try.prog 24 #[.agg (wcells a), .agg (wcells b)] w fun e w' => e = .returned (.int .i64 k) ∧ Below w.heap.size w w'))
    (K2 : Hid (∀ w, Calls Try.prog 24 #[.agg (wcells b), .agg (wcells a)] w fun e w' => e = .returned (.int .i64 (-k)) ∧ Below w.heap.size w w'))
    (DA : Hid (∀ w, Calls Try.prog 20 #[.agg (wcells a)] w fun e w' => e = .returned (.string da) ∧ Below w.heap.size w w'))
    (DB : Hid (∀ w, Calls Try.prog 20 #[.agg (wcells b)] w fun e w' => e = .returned (.string db) ∧ Below w.heap.size w w'))
    (PA : Hid (∀ w, Calls Try.prog 14 #[.string da] w fun e w' => e = .returned (.tuple #[.agg (wcells a), .int .i64 0]) ∧ Below w.heap.size w w'))
    (S1 : Hid (∀ w, Calls Try.prog 43 #[.string da, .string db] w fun e w' => e = .returned (.int .i64 k) ∧ Below w.heap.size w w'))
    (BA : Hid (∀ w, Calls Try.prog 18 #[.agg (wcells a)] w (NewBytes w (bytesW a))))
    (RA : Hid (∀ A c w, Holds8 w.heap.size w A (bytesW a) → Calls Try.prog 12 #[.slice A (bytesW a).length c] w fun e w' => e = .returned (.tuple #[.agg (wcells a), .int .i64 0]) ∧ Below w.heap.size w w'))
    (hk1 : -1 ≤ k) (hk2 : k ≤ 1) (hkz : (k == 0) = false) (hE2 : ∀ w, (Op.equalIn 10000 24 (.agg (wcells a)) (.agg (wcells b))).run Try.prog w = .ok false w) :
    Calls Try.prog 7 #[.agg (wcells a), .agg (wcells b)] w fun e w' => e = .returned (.bool true) ∧ Below w.heap.size w w' := by
  have hE := eqW
  have hH := keeps2 w (wcells a) (wcells b) 24
  go_enter Try.func7, Try.ntmps7
  go_wp2_with fail
  generalize (w.alloc (.cells (wcells a) 24)).alloc (.cells (wcells b) 24) = W0 at *
  have tk0 : True := trivial
  go_wp2_with (first | (go_at_call 42; with_reducible refine (CV.out _).mono ?_; rintro e W1 ⟨rfl, hB⟩; replace hH := hH.call hB; clear hB) | (go_at_call 20; with_reducible refine (DA.out _).mono ?_; rintro e W1 ⟨rfl, hB⟩; replace hH := hH.call hB; clear hB) | (go_at_call 14; with_reducible refine (PA.out _).mono ?_; rintro e W1 ⟨rfl, hB⟩; replace hH := hH.call hB; clear hB) | (go_at_call 18; (with_reducible refine (BA.out _).mono ?_); rintro e W1 ⟨A, c, rfl, hh, -, hB⟩; replace hH := hH.call hB; clear hB) | (go_at_call 12; with_reducible refine (RA.out _ _ _ hh).mono ?_; clear hh; rintro e W1 ⟨rfl, hB⟩; replace hH := hH.call hB; clear hB) | (have _t := tk0; refine wpList_boxg hH 0 24 _ rfl rfl rfl _ Try.underlying24 rfl (infoW _) (by rfl) ?_; clear _t tk0; have tk1 : True := trivial) | (have _t := tk1; refine wpList_fill hH rfl 24 _ _ rfl rfl rfl (infoW _) rfl (oneW _) ?_; clear _t tk1 hH; have tk2 : True := trivial; intro W1 hH) | (have _t := tk2; refine wpList_boxg hH 0 24 _ rfl rfl rfl _ Try.underlying24 rfl (infoW _) (by rfl) ?_; clear _t tk2; have tk3 : True := trivial) | (have _t := tk3; refine wpList_fill hH rfl 24 _ _ rfl rfl rfl (infoW _) rfl (oneW _) ?_; clear _t tk3 hH; have tk4 : True := trivial; intro W1 hH))
  have hz1 : IntKind.i64.wrap (-k) = -k := IntWalk.i64_in _ (by omega)
  refine wp_region_class (C := Keeps w _) (by kernel_rfl) (by kernel_rfl) hH.drew ?_
  (refine wpQuiet_step (fun K hK => ?_); go_simp; (first | refine hK _ ?_ | refine ⟨_, fun _ _ => rfl, hK _ ?_⟩); clear hK K)
  (refine wpQuiet_step (fun K hK => ?_); go_simp; (first | refine hK _ ?_ | refine ⟨_, fun _ _ => rfl, hK _ ?_⟩); clear hK K)
  (refine wpQuiet_step (fun K hK => ?_); go_simp; (first | refine hK _ ?_ | refine ⟨_, fun _ _ => rfl, hK _ ?_⟩); clear hK K)
  (refine wpQuiet_step (fun K hK => ?_); go_simp; (first | refine hK _ ?_ | refine ⟨_, fun _ _ => rfl, hK _ ?_⟩); clear hK K)
  (refine wpQuiet_step (fun K hK => ?_); go_simp; (first | refine hK _ ?_ | refine ⟨_, fun _ _ => rfl, hK _ ?_⟩); clear hK K)
  (refine wpQuiet_step (fun K hK => ?_); go_simp; (first | refine hK _ ?_ | refine ⟨_, fun _ _ => rfl, hK _ ?_⟩); clear hK K)
  (refine wpQuiet_step (fun K hK => ?_); go_simp; (first | refine hK _ ?_ | refine ⟨_, fun _ _ => rfl, hK _ ?_⟩); clear hK K)
  (refine wpQuiet_step (fun K hK => ?_); go_simp; (first | refine hK _ ?_ | refine ⟨_, fun _ _ => rfl, hK _ ?_⟩); clear hK K)
  (refine wpQuiet_step (fun K hK => ?_); go_simp; (first | refine hK _ ?_ | refine ⟨_, fun _ _ => rfl, hK _ ?_⟩); clear hK K)
  (refine wpQuiet_step (fun K hK => ?_); go_simp; (first | refine hK _ ?_ | refine ⟨_, fun _ _ => rfl, hK _ ?_⟩); clear hK K)
  refine quiet_box 2 rfl 24 _ rfl rfl rfl _ Try.underlying24 rfl (infoW _) ?_
  refine quiet_box 0 rfl 24 _ rfl rfl rfl _ Try.underlying24 rfl (infoW _) ?_
  (refine wpQuiet_step (fun K hK => ?_); go_simp; (first | refine hK _ ?_ | refine ⟨_, fun _ _ => rfl, hK _ ?_⟩); clear hK K)
  (refine wpQuiet_step (fun K hK => ?_); go_simp; (first | refine hK _ ?_ | refine ⟨_, fun _ _ => rfl, hK _ ?_⟩); clear hK K)
  (refine wpQuiet_step (fun K hK => ?_); go_simp; (first | refine hK _ ?_ | refine ⟨_, fun _ _ => rfl, hK _ ?_⟩); clear hK K)
  refine quiet_box 3 rfl 24 _ rfl rfl rfl _ Try.underlying24 rfl (infoW _) ?_
  refine quiet_box 0 rfl 24 _ rfl rfl rfl _ Try.underlying24 rfl (infoW _) ?_
  (refine wpQuiet_step (fun K hK => ?_); go_simp; (first | refine hK _ ?_ | refine ⟨_, fun _ _ => rfl, hK _ ?_⟩); clear hK K)
  (refine wpQuiet_step (fun K hK => ?_); go_simp; (first | refine hK _ ?_ | refine ⟨_, fun _ _ => rfl, hK _ ?_⟩); clear hK K)
  (refine wpQuiet_step (fun K hK => ?_); go_simp; (first | refine hK _ ?_ | refine ⟨_, fun _ _ => rfl, hK _ ?_⟩); clear hK K)
  refine quiet_box 0 rfl 24 _ rfl rfl rfl _ Try.underlying24 rfl (infoW _) ?_
  refine quiet_box 1 rfl 24 _ rfl rfl rfl _ Try.underlying24 rfl (infoW _) ?_
  (refine wpQuiet_step (fun K hK => ?_); go_simp; refine ⟨_, fun W hW => (K1.out W).mono fun _ _ h => ⟨h.1, hW.call h.2⟩, hK _ ?_⟩; clear hK K)
  refine quiet_box 0 rfl 24 _ rfl rfl rfl _ Try.underlying24 rfl (infoW _) ?_
  (refine wpQuiet_step (fun K hK => ?_); go_simp; refine ⟨_, fun W hW => (DA.out W).mono fun _ _ h => ⟨h.1, hW.call h.2⟩, hK _ ?_⟩; clear hK K)
  refine quiet_box 1 rfl 24 _ rfl rfl rfl _ Try.underlying24 rfl (infoW _) ?_
  (refine wpQuiet_step (fun K hK => ?_); go_simp; refine ⟨_, fun W hW => (DB.out W).mono fun _ _ h => ⟨h.1, hW.call h.2⟩, hK _ ?_⟩; clear hK K)
  (refine wpQuiet_step (fun K hK => ?_); go_simp; refine ⟨_, fun W hW => (S1.out W).mono fun _ _ h => ⟨h.1, hW.call h.2⟩, hK _ ?_⟩; clear hK K)
  (refine wpQuiet_step (fun K hK => ?_); go_simp; (first | refine hK _ ?_ | refine ⟨_, fun _ _ => rfl, hK _ ?_⟩); clear hK K)
  (refine wpQuiet_step (fun K hK => ?_); go_simp; (first | refine hK _ ?_ | refine ⟨_, fun _ _ => rfl, hK _ ?_⟩); clear hK K)
  (refine wpQuiet_step (fun K hK => ?_); go_simp; (first | refine hK _ ?_ | refine ⟨_, fun _ _ => rfl, hK _ ?_⟩); clear hK K)
  refine quiet_box 1 rfl 24 _ rfl rfl rfl _ Try.underlying24 rfl (infoW _) ?_
  refine quiet_box 0 rfl 24 _ rfl rfl rfl _ Try.underlying24 rfl (infoW _) ?_
  (refine wpQuiet_step (fun K hK => ?_); go_simp; refine ⟨_, fun W hW => (K2.out W).mono fun _ _ h => ⟨h.1, hW.call h.2⟩, hK _ ?_⟩; clear hK K)
  refine quiet_box 0 rfl 24 _ rfl rfl rfl _ Try.underlying24 rfl (infoW _) ?_
  refine quiet_box 1 rfl 24 _ rfl rfl rfl _ Try.underlying24 rfl (infoW _) ?_
  (refine wpQuiet_step (fun K hK => ?_); go_simp; refine ⟨_, fun W hW => (K1.out W).mono fun _ _ h => ⟨h.1, hW.call h.2⟩, hK _ ?_⟩; clear hK K)
  (refine wpQuiet_step (fun K hK => ?_); go_simp; (first | refine hK _ ?_ | refine ⟨_, fun _ _ => rfl, hK _ ?_⟩); clear hK K)
  (refine wpQuiet_step (fun K hK => ?_); go_simp; (first | refine hK _ ?_ | refine ⟨_, fun _ _ => rfl, hK _ ?_⟩); clear hK K)
  (refine wpQuiet_step (fun K hK => ?_); go_simp; (first | refine hK _ ?_ | refine ⟨_, fun _ _ => rfl, hK _ ?_⟩); clear hK K)
  (refine wpQuiet_step (fun K hK => ?_); go_simp; (first | refine hK _ ?_ | refine ⟨_, fun _ _ => rfl, hK _ ?_⟩); clear hK K)
  refine quiet_box 0 rfl 24 _ rfl rfl rfl _ Try.underlying24 rfl (infoW _) ?_
  refine quiet_box 1 rfl 24 _ rfl rfl rfl _ Try.underlying24 rfl (infoW _) ?_
  (refine wpQuiet_step (fun K hK => ?_); go_simp; refine ⟨_, fun W hW => (K1.out W).mono fun _ _ h => ⟨h.1, hW.call h.2⟩, hK _ ?_⟩; clear hK K)
  (refine wpQuiet_step (fun K hK => ?_); go_simp; (first | refine hK _ ?_ | refine ⟨_, fun _ _ => rfl, hK _ ?_⟩); clear hK K)
  refine quiet_box 0 rfl 24 _ rfl rfl rfl _ Try.underlying24 rfl (infoW _) ?_
  refine quiet_box 1 rfl 24 _ rfl rfl rfl _ Try.underlying24 rfl (infoW _) ?_
  (refine wpQuiet_step (fun K hK => ?_); go_simp; (first | refine hK _ ?_ | refine ⟨_, fun _ _ => rfl, hK _ ?_⟩); clear hK K)
  (refine wpQuiet_step (fun K hK => ?_); go_simp; (first | refine hK _ ?_ | refine ⟨_, fun _ _ => rfl, hK _ ?_⟩); clear hK K)
  (refine wpQuiet_step (fun K hK => ?_); go_simp; (first | refine hK _ ?_ | refine ⟨_, fun _ _ => rfl, hK _ ?_⟩); clear hK K)
  (refine wpQuiet_step (fun K hK => ?_); go_simp; (first | refine hK _ ?_ | refine ⟨_, fun _ _ => rfl, hK _ ?_⟩); clear hK K)
  refine wpQuiet_nil ?_
  clear hH
  intro W hH
  go_wp2
  go_ret
  exact ⟨rfl, hH.bel⟩

set_option maxRecDepth 100000 in
set_option maxHeartbeats 1000000 in
theorem back_any (a b : Nat) (ha : a < top) (hb : b < top) (w : World) :
    Calls Try.prog 7 #[.agg (wcells a), .agg (wcells b)] w fun e w' => e = .returned (.bool true) ∧ Below w.heap.size w w' := by
  have K1 := compare_any a b ha hb
  have K2 := compare_any b a hb ha
  have hneg : cmpI (b : Int) (a : Int) = -cmpI (a : Int) (b : Int) := by unfold cmpI; split <;> split <;> (try split) <;> omega
  rw [hneg] at K2
  have DA := digits_any a ha
  have DB := digits_any b hb
  have PA := parse_any ⟨(digitsW a).toArray⟩ (digitsW a) (by simp) (digitsW_length a)
  have hp : parsed (digitsW a) = .tuple #[.agg (wcells a), .int .i64 0] := by unfold parsed; rw [hexB_digits, hexN_digits a ha]; rfl
  rw [hp] at PA
  have S1 : ∀ w, Calls Try.prog 43 #[.string ⟨(digitsW a).toArray⟩, .string ⟨(digitsW b).toArray⟩] w fun e w' => e = .returned (.int .i64 (cmpI (a : Int) (b : Int))) ∧ Below w.heap.size w w' := fun w => by
    have h := Try.strings_Compare ⟨(digitsW a).toArray⟩ ⟨(digitsW b).toArray⟩ w
    rw [show (⟨(digitsW a).toArray⟩ : ByteArray).data.toList = digitsW a by simp, show (⟨(digitsW b).toArray⟩ : ByteArray).data.toList = digitsW b by simp, cmp_digits a b ha hb] at h
    exact h.mono fun e w' ⟨he, hw⟩ => ⟨he, hw ▸ Below.refl _ _⟩
  have RA : ∀ A c w, Holds8 w.heap.size w A (bytesW a) → Calls Try.prog 12 #[.slice A (bytesW a).length c] w fun e w' => e = .returned (.tuple #[.agg (wcells a), .int .i64 0]) ∧ Below w.heap.size w w' := fun A c w hh => by
    have h := read_any A (bytesW a) c (bytesW_length a) w hh
    rw [leN_bytes a ha] at h
    exact h
  have hk1 : -1 ≤ cmpI (a : Int) (b : Int) := by unfold cmpI; split <;> (try split) <;> omega
  have hk2 : cmpI (a : Int) (b : Int) ≤ 1 := by unfold cmpI; split <;> (try split) <;> omega
  by_cases he : a = b
  · have hkz : (cmpI (a : Int) (b : Int) == 0) = true := by rw [he]; simp [cmpI]
    have hE2 : ∀ w, (Op.equalIn 10000 24 (.agg (wcells a)) (.agg (wcells b))).run Try.prog w = .ok true w := fun w => by
      have h := run_eqw a b ha hb w
      rw [decide_eq_true he] at h
      exact h
    exact back_same a b _ _ _ w alive_any K1 K2 DA DB PA S1 (bytes_any a ha) RA hk1 hk2 hkz hE2
  · have hkz : (cmpI (a : Int) (b : Int) == 0) = false := by
      rw [beq_eq_false_iff_ne]
      unfold cmpI
      split <;> (try split) <;> omega
    have hE2 : ∀ w, (Op.equalIn 10000 24 (.agg (wcells a)) (.agg (wcells b))).run Try.prog w = .ok false w := fun w => by
      have h := run_eqw a b ha hb w
      rw [decide_eq_false he] at h
      exact h
    exact back_other a b _ _ _ w alive_any K1 K2 DA DB PA S1 (bytes_any a ha) RA hk1 hk2 hkz hE2

set_option maxRecDepth 100000 in
theorem backW_lifted (os : Os) (started : os.Started) (H : Type) (enc : TypeId × Value → H) :
    ReturnsInHanded {} Try.checked os 7 .any (Rows.wideBackSpec.pre6 enc Try.prog Try.f7 Rows.wideBackRow.domain false) (Rows.wideBackSpec.post enc Try.prog Try.f7 false true false false) := by
  refine returnsInHanded_of_change (C := Try.checked) Go.Proofs.Ytgmgejjlhlibkaa.own started (by kernel_rfl) Try.func7
    (ChangeSpec.witness6 (enc := enc) (C := Try.checked) false ⟨#[], #[.agg #[.int .u64 0, .int .u64 0, .int .u64 0, .int .u64 0], .agg #[.int .u64 0, .int .u64 0, .int .u64 0, .int .u64 0]], []⟩ 8 (by kernel_rfl) (by kernel_rfl) (by kernel_rfl) (by kernel_rfl)) ?_
  intro W base args ds gs before hval0 hW hcnd _
  have hval : ∀ (j : Nat) t v, Try.f7.params[j]? = some t → args[j]? = some v → Value.okWide Try.prog W .any base t v := hval0
  have hW' := hW
  obtain ⟨p, q, hA0, hV, rfl, hfz, hnd⟩ := hW
  have hA : DataW.TrodAll enc Try.prog W 0 (fun _ => true) true Try.f7.params.toList args.toList ds p := hA0
  rw [Try.params7] at hA hval
  obtain ⟨v0, vs0, d0, ds0, p0, q0, hargs, rfl, rfl, h0, r0⟩ := trodAll_cons hA
  obtain ⟨v1, vs1, d1, ds1, p1, q1, rfl, rfl, rfl, h1, r1⟩ := trodAll_cons r0
  obtain ⟨rfl, rfl, rfl⟩ := trodAll_nil r1
  obtain rfl : args = #[v0, v1] := by cases args; simp_all
  obtain ⟨rfl, rfl⟩ := trodVars_none hV
  have k0 := h0
  have lt0 : ∀ x ∈ p0, x.block < W.heap.size := by obtain ⟨m, hm⟩ := k0; exact DataW.trod_lt m _ _ _ hm
  have k1 := h1
  have lt1 : ∀ x ∈ p1, x.block < W.heap.size := by obtain ⟨m, hm⟩ := k1; exact DataW.trod_lt m _ _ _ hm
  obtain ⟨cs0, rfl⟩ := okWide_array Try.underlying24 (hval 0 24 v0 rfl rfl)
  obtain ⟨z0, hz0, rfl⟩ := isWide_of k0
  obtain ⟨cs1, rfl⟩ := okWide_array Try.underlying24 (hval 1 24 v1 rfl rfl)
  obtain ⟨z1, hz1, rfl⟩ := isWide_of k1
  clear hA0 hval0
  refine (back_any z0 z1 hz0 hz1 W).mono fun e W' ⟨he, bel⟩ => ?_
  subst he
  exact ⟨_, rfl, _, _, _, [], _, [], hW', trodAll_mk1 (shut_bool Try.underlying4 _), (trodAll_cons_mk (Below.trod Go.Proofs.Ytgmgejjlhlibkaa.laidOut (by kernel_rfl) (of_decide_eq_true (by kernel_rfl)) k0 bel lt0) (trodAll_cons_mk (Below.trod Go.Proofs.Ytgmgejjlhlibkaa.laidOut (by kernel_rfl) (of_decide_eq_true (by kernel_rfl)) k1 bel lt1) trodAll_mk0)), rfl, bel.frame _, fun h => by cases h⟩

theorem backW_over : Rows.wideBackRow.holds Try.pinned (OpenSpec.ofChange Rows.wideBackSpec) :=
  OpenClaim.holds_of_wide 7 Try.f7 rfl rfl rfl rfl rfl rfl rfl ⟨rfl, rfl, rfl, rfl, rfl⟩ rfl rfl rfl rfl rfl (by kernel_rfl) Try.func7 (by kernel_rfl)
    (of_decide_eq_true (by kernel_rfl)) (by unfold Func.isWrapper; first | (rw [if_pos (by decide +kernel)]; kernel_rfl) | (rw [if_neg (by decide +kernel)]; exact ⟨rfl, rfl⟩))
    (fun os started H enc _ => backW_lifted os started H enc)

/-- WideBack is true at every two numbers. -/
theorem backW_proved : Rows.WideBackSaid := backW_over
#print axioms backW_proved
end Go.Proofs.Ytgmgejjlhlibkaa
