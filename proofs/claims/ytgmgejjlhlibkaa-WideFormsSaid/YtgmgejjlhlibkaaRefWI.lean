/- The document's bytes of a number, bit by bit. Numbers are below 2^256. -/
import Derived.Test.YtgmgejjlhlibkaaRefWC
namespace Go.Proofs.Ytgmgejjlhlibkaa.Oct
set_option linter.unusedVariables false
open Go.Proofs.Ytgmgejjlhlibkaa Go.RowKit Go.Shelf

theorem pow256 (i : Nat) : 256 ^ i = 2 ^ (8 * i) := by rw [Nat.pow_mul]
theorem byte_bit (m k i : Nat) (hm : m < 2 ^ k) : byteOf (m + 2 ^ k) i = (if i = k / 8 then byteOf m (k / 8) + 2 ^ (k % 8) else byteOf m i) := by
  unfold byteOf
  rw [pow256]
  by_cases h : i = k / 8
  · subst h
    rw [if_pos rfl, pow256]
    have e : 2 ^ k = 2 ^ (8 * (k / 8)) * 2 ^ (k % 8) := by rw [← Nat.pow_add, show 8 * (k / 8) + k % 8 = k by omega]
    rw [e] at hm ⊢
    rw [Nat.add_mul_div_left _ _ (Nat.two_pow_pos _)]
    have h1 : m / 2 ^ (8 * (k / 8)) < 2 ^ (k % 8) := Nat.div_lt_of_lt_mul hm
    have h2 : 2 ^ (k % 8) ≤ 2 ^ 7 := Nat.pow_le_pow_right (by decide) (by omega)
    generalize m / 2 ^ (8 * (k / 8)) = x at *
    generalize 2 ^ (k % 8) = y at *
    omega
  · rw [if_neg h]
    by_cases h2 : i < k / 8
    · have e : 2 ^ k = 2 ^ (8 * i) * (256 * 2 ^ (k - 8 * i - 8)) := by rw [show (256 : Nat) = 2 ^ 8 from rfl, ← Nat.pow_add, ← Nat.pow_add, show 8 * i + (8 + (k - 8 * i - 8)) = k by omega]
      rw [e, Nat.add_mul_div_left _ _ (Nat.two_pow_pos _), Nat.add_mul_mod_self_left]
    · have h3 : 2 ^ (k + 1) ≤ 2 ^ (8 * i) := Nat.pow_le_pow_right (by decide) (by omega)
      rw [Nat.pow_succ] at h3
      rw [Nat.div_eq_of_lt (by omega), Nat.div_eq_of_lt (by omega)]
theorem byte_room (m k : Nat) (hm : m < 2 ^ k) : byteOf m (k / 8) + 2 ^ (k % 8) < 256 := by
  have h := byte_bit m k (k / 8) hm
  rw [if_pos rfl] at h
  rw [← h]
  exact byteOf_lt _ _
theorem bcells_bit (m k : Nat) (hk : k < 256) (hm : m < 2 ^ k) : (bcells m 32).setIfInBounds (k / 8) (.int .u8 ((byteOf m (k / 8) + 2 ^ (k % 8) : Nat) : Int)) = bcells (m + 2 ^ k) 32 := by
  refine Array.ext (by simp [bcells]) fun i h1 h2 => ?_
  simp [bcells] at h1
  rw [Array.getElem_setIfInBounds (by simp [bcells]; exact h1)]
  have g1 := bcells_get m 32 i h1
  have g2 := bcells_get (m + 2 ^ k) 32 i h1
  rw [if_pos h1] at g1 g2
  rw [Array.getElem?_eq_some_iff] at g1 g2
  obtain ⟨_, g1⟩ := g1
  obtain ⟨_, g2⟩ := g2
  rw [g1, g2, byte_bit m k i hm]
  by_cases h : k / 8 = i
  · rw [if_pos h, if_pos h.symm]
  · rw [if_neg h, if_neg (by omega)]

theorem bcells_none : bcells 0 32 = bcells 0 0 := by
  unfold bcells
  exact congrArg List.toArray (List.map_congr_left fun i hi => by simp [byteOf])
/-- A new row of a number's bytes. -/
def BRow (w : World) (n : Nat) (e : Ending) (w' : World) : Prop :=
  ∃ g, e = .returned (.slice (some ⟨g, 0, none⟩) 32 32) ∧ w.heap.size ≤ g ∧ w'.heap[g]? = some (.cells (bcells n 32) 5 (0, 0)) ∧ Below w.heap.size w w'
set_option maxRecDepth 100000 in
set_option maxHeartbeats 2000000 in
theorem rBytes_row (n : Nat) (hn : n < top) (w : World) : Calls Try.prog 19 #[.agg (wcells n)] w (BRow w n) := by
  have hm := make32
  have hH := (Keeps.nil w).new (wcells n) 24
  simp only [List.nil_append] at hH
  go_enter Try.func19, Try.ntmps19
  go_wp2_with (first | (refine wpList_box hH 0 rfl 24 _ rfl rfl rfl _ Try.underlying24 rfl (infoW _) ?_) | (go_at_call 46; refine (bits_any n hn _).mono ?_; rintro e W1 ⟨g, rfl, hg, hcell, hb⟩; replace hH := hH.gain hb hg hcell; clear hg hcell hb))
  have hH2 := hH.new (bcells 0 0) 5
  simp only [List.nil_append, List.cons_append] at hH2
  clear hH
  obtain ⟨z, hz⟩ : ∃ z, W1.heap.size = z := ⟨_, rfl⟩
  rw [hz] at hH2
  go_loopw [5] (fun v wr => ∃ k : Nat, k ≤ 256 ∧ v = .int .i64 (k : Int) ∧ Keeps w [(w.heap.size, wcells n, 24), (g, ibits n 256, 3), (z, bcells (n % 2 ^ k) 32, 5)] wr) (fun v _ => 256 - (RowKit.intOf v).toNat)
  case atStart =>
    refine ⟨0, by omega, rfl, ?_⟩
    rw [Nat.pow_zero, Nat.mod_one, bcells_none]
    exact hH2
  case round =>
    obtain ⟨k, hk, rfl, hH⟩ := hrel
    clear hH2 hm
    try rw [hz]
    by_cases hlt : k < 256
    · have hca := hH.cellOf 1 rfl k
      rw [ibits_get _ _ _ hlt] at hca
      have hb1 := bitOf_le n k
      have hmb := mod_bit n k
      have hq := Nat.mod_lt n (Nat.two_pow_pos k)
      obtain ⟨q, hqe⟩ : ∃ q, n % 2 ^ k = q := ⟨_, rfl⟩
      rw [hqe] at hH hmb hq
      by_cases hb : bitOf n k = 1
      · rw [hb, show ((1 : Nat) : Int) = 1 from rfl] at hca
        rw [if_pos hb] at hmb
        have hroom := byte_room q k hq
        have hset := bcells_bit q k hlt hq
        have hcc := hH.cellOf 2 rfl (k / 8)
        rw [bcells_get _ _ _ (by omega), if_pos (by omega)] at hcc
        have hfc := hH.frozen 2 rfl (k / 8)
        have hH2 := hH.cellSet 2 rfl (k / 8) (.int .u8 ((byteOf q (k / 8) + 2 ^ (k % 8) : Nat) : Int))
        simp only [List.set_cons_succ, List.set_cons_zero] at hH2
        rw [hset, ← hmb] at hH2
        have HH2 := Lib.hid hH2
        have z3 : ((k : Int) / 8).toNat = k / 8 := by omega
        have z4 : ((k : Int) % 8).toNat = k % 8 := by omega
        have hp8 : 2 ^ (k % 8) < 256 := by omega
        have ev1 : IntKind.u8.wrap ((2 : Int) ^ (k % 8)) = ((2 ^ (k % 8) : Nat) : Int) := by
          rw [IntKind.wrap_u8, show ((2 : Int) ^ (k % 8)) = ((2 ^ (k % 8) : Nat) : Int) by simp]
          generalize 2 ^ (k % 8) = y at *
          omega
        have ev0 : IntKind.u8.wrap (1 * (2 : Int) ^ (k % 8)) = ((2 ^ (k % 8) : Nat) : Int) := by rw [Int.one_mul, ev1]
        clear hH2 hH hset hmb hqe hq hb1
        generalize 2 ^ (k % 8) = P at *
        have hw := byteOf_lt q (k / 8)
        have eva : IntKind.u8.wrap ((byteOf q (k / 8) : Int) + (P : Int)) = ((byteOf q (k / 8) + P : Nat) : Int) := by rw [IntKind.wrap_u8]; omega
        go_wp2
        go_roundw
        case rel => exact ⟨k + 1, by omega, by go_num, HH2.out⟩
        case measure => simp [RowKit.intOf]; omega
      · have hb0 : bitOf n k = 0 := by omega
        rw [hb0, show ((0 : Nat) : Int) = 0 from rfl] at hca
        rw [if_neg hb] at hmb
        have hmb2 : n % 2 ^ (k + 1) = q := hmb
        rw [← hmb2] at hH
        clear hmb2 hb hb0 hb1 hmb hqe hq
        go_wp2
        go_roundw
        case rel => exact ⟨k + 1, by omega, by go_num, hH⟩
        case measure => simp [RowKit.intOf]; omega
    · obtain rfl : k = 256 := by omega
      rw [← top256, Nat.mod_eq_of_lt hn] at hH
      go_wp2
      go_ret
      exact ⟨z, rfl, hH.base 2 _ rfl, hH.get 2 rfl, hH.bel⟩
end Go.Proofs.Ytgmgejjlhlibkaa.Oct
