/- The document's shifts and differences, bit by bit. Numbers are below 2^256. -/
import Derived.Test.YtgmgejjlhlibkaaRefWD
namespace Go.Proofs.Ytgmgejjlhlibkaa.Oct
set_option linter.unusedVariables false
open Go.Proofs.Ytgmgejjlhlibkaa Go.RowKit Go.Shelf

/-- A row of bits by places. -/
def fbits (f : Nat → Nat) : Array Value := ((List.range 256).map fun i => Value.int .i64 (f i : Int)).toArray
theorem fbits_get (f : Nat → Nat) (i : Nat) (hi : i < 256) : (fbits f)[i]? = some (.int .i64 (f i : Int)) := by simp [fbits, hi]
theorem fbits_ext (f g : Nat → Nat) (h : ∀ i, i < 256 → f i = g i) : fbits f = fbits g := by
  unfold fbits
  refine congrArg List.toArray (List.map_congr_left fun i hi => ?_)
  rw [h i (List.mem_range.1 hi)]
theorem fbits_set (f : Nat → Nat) (k v : Nat) (hk : k < 256) : (fbits f).setIfInBounds k (.int .i64 (v : Int)) = fbits (fun i => if i = k then v else f i) := by
  unfold fbits
  refine Array.ext (by simp) fun i h1 h2 => ?_
  simp at h1
  rw [Array.getElem_setIfInBounds (by simpa using h1)]
  simp
  by_cases h : k = i
  · subst h
    simp
  · rw [if_neg h, if_neg (by omega)]
theorem fbits_zero : pbits 0 256 0 = fbits (fun _ => 0) := by
  unfold pbits fbits
  refine congrArg List.toArray (List.map_congr_left fun i hi => ?_)
  simp
theorem fbits_bits (n : Nat) : ibits n 256 = fbits (bitOf n) := by
  unfold ibits pbits fbits
  refine congrArg List.toArray (List.map_congr_left fun i hi => ?_)
  rw [if_pos (List.mem_range.1 hi)]

theorem bitOf_shl (a n i : Nat) (hi : i < 256) : bitOf (a * 2 ^ n % top) i = if n ≤ i then bitOf a (i - n) else 0 := by
  rw [top256, bitOf_mod _ _ _ hi, bitOf_test, Nat.testBit_mul_two_pow, bitOf_test]
  split
  · rename_i h
    simp [h]
  · rename_i h
    simp [h]
theorem bitOf_shr (a n i : Nat) : bitOf (a / 2 ^ n) i = bitOf a (i + n) := by
  rw [bitOf_test, Nat.testBit_div_two_pow, bitOf_test]
theorem bitOf_far (a i : Nat) (ha : a < top) (hi : 256 ≤ i) : bitOf a i = 0 := by
  refine bitOf_above a i (Nat.lt_of_lt_of_le ha ?_)
  rw [top256]
  exact Nat.pow_le_pow_right (by decide) hi

set_option maxRecDepth 100000 in
set_option maxHeartbeats 400000 in
theorem rLeft_none (a : Nat) (n : Int) (hn : n ≤ 0) (w : World) :
    Calls Try.prog 33 #[.agg (wcells a), .int .i64 n] w fun e w' => e = .returned (.agg (wcells a)) ∧ Below w.heap.size w w' := by
  have hH := keeps2a w a
  go_enter Try.func33, Try.ntmps33
  go_wp2_with (first | (refine wpList_box hH 0 rfl 24 _ rfl rfl rfl _ Try.underlying24 rfl (infoW _) ?_) | (refine wpList_put hH 1 rfl 24 _ _ rfl rfl rfl rfl (infoW _) rfl (oneW _) ?_; clear hH; intro W1 hH))
  exact bodyPost_ret (results_one _ _ _ 4 (w.heap.size + 1) a rfl rfl (hH.get 1 rfl)) rfl ⟨rfl, hH.bel⟩

def lbit (a n k i : Nat) : Nat := if k ≤ i ∧ n ≤ i then bitOf a (i - n) else 0
set_option maxRecDepth 100000 in
set_option maxHeartbeats 2000000 in
theorem rLeft_some (a n : Nat) (ha : a < top) (hn : 0 < n) (hn2 : n < 9223372036854775808) (w : World) :
    Calls Try.prog 33 #[.agg (wcells a), .int .i64 (n : Int)] w fun e w' => e = .returned (.agg (wcells (a * 2 ^ n % top))) ∧ Below w.heap.size w w' := by
  have hH := keeps2a w a
  have hm := make256
  have hn0 : ¬ ((n : Int) ≤ 0) := by omega
  go_enter Try.func33, Try.ntmps33
  go_wp2_with (first | (refine wpList_box hH 0 rfl 24 _ rfl rfl rfl _ Try.underlying24 rfl (infoW _) ?_) | (go_at_call 46; refine (bits_any a ha _).mono ?_; rintro e W1 ⟨g, rfl, hg, hcell, hb⟩; replace hH := hH.gain hb hg hcell; clear hg hcell hb))
  have hH2 := hH.new (pbits 0 256 0) 3
  simp only [List.nil_append, List.cons_append] at hH2
  rw [fbits_zero, show (fun _ : Nat => (0 : Nat)) = fun _ => 0 from rfl] at hH2
  clear hH
  obtain ⟨z, hz⟩ : ∃ z, W1.heap.size = z := ⟨_, rfl⟩
  rw [hz] at hH2
  go_loopw [7] (fun v wr => ∃ k : Nat, k ≤ 256 ∧ v = .int .i64 ((k : Int) - 1) ∧ Keeps w [(w.heap.size, wcells a, 24), (w.heap.size + 1, wcells 0, 24), (g, ibits a 256, 3), (z, fbits (lbit a n k), 3)] wr) (fun v _ => (RowKit.intOf v + 1).toNat)
  case atStart =>
    refine ⟨256, by omega, rfl, ?_⟩
    have e : fbits (lbit a n 256) = fbits (fun _ => 0) := fbits_ext _ _ fun i hi => by unfold lbit; rw [if_neg (by omega)]
    rw [e]
    exact hH2
  case round =>
    clear hH2 hm
    obtain ⟨k, hk, rfl, hH⟩ := hrel
    rw [hz]
    by_cases hlt : n + 1 ≤ k
    · obtain ⟨j, rfl⟩ : ∃ j, k = j + 1 := ⟨k - 1, by omega⟩
      have hj : (((j + 1 : Nat) : Int) - 1) = (j : Int) := by omega
      rw [hj]
      have hj256 : j < 256 := by omega
      have hca := hH.cellOf 2 rfl (j - n)
      rw [ibits_get _ _ _ (by omega)] at hca
      have hcc := hH.cellOf 3 rfl j
      rw [fbits_get _ _ hj256] at hcc
      have hfc := hH.frozen 3 rfl j
      have z1 : ((j : Int) - (n : Int)).toNat = j - n := by omega
      have z2 : (0 : Int) ≤ (j : Int) - (n : Int) := by omega
      have z3 : (n : Int) ≤ (j : Int) := by omega
      have hH2 := hH.cellSet 3 rfl j (.int .i64 (bitOf a (j - n) : Int))
      simp only [List.set_cons_succ, List.set_cons_zero] at hH2
      rw [fbits_set _ _ _ hj256, fbits_ext _ (lbit a n j) (fun i hi => by
        unfold lbit
        by_cases h : i = j
        · rw [if_pos h, if_pos (by omega), h]
        · rw [if_neg h]
          by_cases h2 : j + 1 ≤ i ∧ n ≤ i
          · rw [if_pos h2, if_pos (by omega)]
          · rw [if_neg h2, if_neg (by omega)])] at hH2
      have HH2 := Lib.hid hH2
      clear hH2 hH hj
      go_wp2
      go_roundw
      case rel => exact ⟨j, by omega, rfl, HH2.out⟩
      case measure => simp [RowKit.intOf]
    · have hge : ¬ ((n : Int) ≤ (k : Int) - 1) := by omega
      rw [fbits_ext (lbit a n k) (bitOf (a * 2 ^ n % top)) (fun i hi => by
        rw [bitOf_shl a n i hi]
        unfold lbit
        by_cases h : n ≤ i
        · rw [if_pos ⟨by omega, h⟩, if_pos h]
        · rw [if_neg (by omega), if_neg h]), ← fbits_bits] at hH
      have hlt : a * 2 ^ n % top < top := mod_top _
      have hN := fun W (h : W.heap[z]? = some (.cells (ibits (a * 2 ^ n % top) 256) 3 (0, 0))) => rNumber (a * 2 ^ n % top) z W h
      rw [Nat.mod_eq_of_lt hlt] at hN
      have HN := Lib.hid hN
      clear hN hlt
      go_wp2_with (first | (go_at_call 44; refine (HN.out _ (hH.get 3 rfl)).mono ?_; rintro e W1 ⟨rfl, hB⟩; replace hH := hH.call hB; clear hB) | (refine wpList_put hH 1 rfl 24 _ _ rfl rfl rfl rfl (infoW _) rfl (oneW _) ?_; clear hH; intro W1 hH))
      exact bodyPost_ret (results_one _ _ _ 4 (w.heap.size + 1) (a * 2 ^ n % top) rfl rfl (hH.get 1 rfl)) rfl ⟨rfl, hH.bel⟩

set_option maxRecDepth 100000 in
set_option maxHeartbeats 400000 in
theorem rRight_none (a : Nat) (n : Int) (hn : n ≤ 0) (w : World) :
    Calls Try.prog 35 #[.agg (wcells a), .int .i64 n] w fun e w' => e = .returned (.agg (wcells a)) ∧ Below w.heap.size w w' := by
  have hH := keeps2a w a
  go_enter Try.func35, Try.ntmps35
  go_wp2_with (first | (refine wpList_box hH 0 rfl 24 _ rfl rfl rfl _ Try.underlying24 rfl (infoW _) ?_) | (refine wpList_put hH 1 rfl 24 _ _ rfl rfl rfl rfl (infoW _) rfl (oneW _) ?_; clear hH; intro W1 hH))
  exact bodyPost_ret (results_one _ _ _ 4 (w.heap.size + 1) a rfl rfl (hH.get 1 rfl)) rfl ⟨rfl, hH.bel⟩

def rbit (a n k i : Nat) : Nat := if i < k then bitOf a (i + n) else 0
set_option maxRecDepth 100000 in
set_option maxHeartbeats 2000000 in
theorem rRight_some (a n : Nat) (ha : a < top) (hn : 0 < n) (hn2 : n < 9223372036854775808) (w : World) :
    Calls Try.prog 35 #[.agg (wcells a), .int .i64 (n : Int)] w fun e w' => e = .returned (.agg (wcells (a / 2 ^ n))) ∧ Below w.heap.size w w' := by
  have hH := keeps2a w a
  have hm := make256
  have hn0 : ¬ ((n : Int) ≤ 0) := by omega
  go_enter Try.func35, Try.ntmps35
  go_wp2_with (first | (refine wpList_box hH 0 rfl 24 _ rfl rfl rfl _ Try.underlying24 rfl (infoW _) ?_) | (go_at_call 46; refine (bits_any a ha _).mono ?_; rintro e W1 ⟨g, rfl, hg, hcell, hb⟩; replace hH := hH.gain hb hg hcell; clear hg hcell hb))
  have hH2 := hH.new (pbits 0 256 0) 3
  simp only [List.nil_append, List.cons_append] at hH2
  rw [fbits_zero] at hH2
  clear hH
  obtain ⟨z, hz⟩ : ∃ z, W1.heap.size = z := ⟨_, rfl⟩
  rw [hz] at hH2
  go_loopw [7] (fun v wr => ∃ k : Nat, k ≤ 256 ∧ (k = 0 ∨ k + n ≤ 256) ∧ v = .int .i64 (k : Int) ∧ Keeps w [(w.heap.size, wcells a, 24), (w.heap.size + 1, wcells 0, 24), (g, ibits a 256, 3), (z, fbits (rbit a n k), 3)] wr) (fun v _ => 256 - (RowKit.intOf v).toNat)
  case atStart =>
    refine ⟨0, by omega, .inl rfl, rfl, ?_⟩
    have e : fbits (rbit a n 0) = fbits (fun _ => 0) := fbits_ext _ _ fun i hi => by unfold rbit; rw [if_neg (by omega)]
    rw [e]
    exact hH2
  case round =>
    clear hH2 hm
    obtain ⟨k, hk, hkn, rfl, hH⟩ := hrel
    rw [hz]
    by_cases hlt : k + n < 256
    · have hca := hH.cellOf 2 rfl (k + n)
      rw [ibits_get _ _ _ (by omega)] at hca
      have hcc := hH.cellOf 3 rfl k
      rw [fbits_get _ _ (by omega)] at hcc
      have hfc := hH.frozen 3 rfl k
      have z1 : ((k : Int) + (n : Int)).toNat = k + n := by omega
      have z2 : (k : Int) < 256 := by omega
      have z3 : (n : Int) < 256 - (k : Int) := by omega
      have hH2 := hH.cellSet 3 rfl k (.int .i64 (bitOf a (k + n) : Int))
      simp only [List.set_cons_succ, List.set_cons_zero] at hH2
      rw [fbits_set _ _ _ (by omega), fbits_ext _ (rbit a n (k + 1)) (fun i hi => by
        unfold rbit
        by_cases h : i = k
        · rw [if_pos h, if_pos (by omega), h]
        · rw [if_neg h]
          by_cases h2 : i < k
          · rw [if_pos h2, if_pos (by omega)]
          · rw [if_neg h2, if_neg (by omega)])] at hH2
      have HH2 := Lib.hid hH2
      clear hH2 hH
      go_wp2
      go_roundw
      case rel => exact ⟨k + 1, by omega, .inr (by omega), by go_num, HH2.out⟩
      case measure => simp [RowKit.intOf]; omega
    · have hge : k < 256 → ¬ ((n : Int) < 256 - (k : Int)) := fun _ => by omega
      rw [fbits_ext (rbit a n k) (bitOf (a / 2 ^ n)) (fun i hi => by
        rw [bitOf_shr a n i]
        unfold rbit
        by_cases h : i < k
        · rw [if_pos h]
        · rw [if_neg h, bitOf_far a (i + n) ha (by omega)]), ← fbits_bits] at hH
      have hlt : a / 2 ^ n < top := Nat.lt_of_le_of_lt (Nat.div_le_self _ _) ha
      have hN := fun W (h : W.heap[z]? = some (.cells (ibits (a / 2 ^ n) 256) 3 (0, 0))) => rNumber (a / 2 ^ n) z W h
      rw [Nat.mod_eq_of_lt hlt] at hN
      have HN := Lib.hid hN
      clear hN hlt
      by_cases hk256 : (k : Int) < 256
      all_goals
       go_wp2_with (first | (go_at_call 44; refine (HN.out _ (hH.get 3 rfl)).mono ?_; rintro e W1 ⟨rfl, hB⟩; replace hH := hH.call hB; clear hB) | (refine wpList_put hH 1 rfl 24 _ _ rfl rfl rfl rfl (infoW _) rfl (oneW _) ?_; clear hH; intro W1 hH))
       exact bodyPost_ret (results_one _ _ _ 4 (w.heap.size + 1) (a / 2 ^ n) rfl rfl (hH.get 1 rfl)) rfl ⟨rfl, hH.bel⟩

end Go.Proofs.Ytgmgejjlhlibkaa.Oct
