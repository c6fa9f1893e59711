/- The document's Of, Sub, Len and Compare, bit by bit. Numbers are below 2^256. -/
import Derived.Test.YtgmgejjlhlibkaaRefWC
namespace Go.Proofs.Ytgmgejjlhlibkaa.Oct
set_option linter.unusedVariables false
open Go.Proofs.Ytgmgejjlhlibkaa Go.RowKit Go.Shelf

theorem results_none1 (n : Nat) (hn : word n) : wcells n = #[.int .u64 n, .int .u64 0, .int .u64 0, .int .u64 0] := by
  have := wcells_num4 hn (show word 0 by unfold word; omega) (show word 0 by unfold word; omega) (show word 0 by unfold word; omega)
  rw [show num4 n 0 0 0 = n by simp [num4]] at this
  exact this
set_option maxHeartbeats 400000 in
theorem rOf_any (n : Nat) (hn : word n) (w : World) :
    Calls Try.prog 17 #[.int .u64 n] w fun e w' => e = .returned (.agg (wcells n)) ∧ Below w.heap.size w w' := by
  rw [results_none1 n hn]
  go_enter Try.func17, Try.ntmps17
  go_wp2
  exact bodyPost_ret (v := .agg #[.int .u64 n, .int .u64 0, .int .u64 0, .int .u64 0]) (by simp [results, Try.results17, go_sem]) rfl ⟨rfl, ((Below.refl _ _).alloc (Nat.le_refl _) _).alloc (by simp) _⟩

/-- The highest bit of a number. -/
theorem bitOf_above (n i : Nat) (h : n < 2 ^ i) : bitOf n i = 0 := by
  unfold bitOf
  rw [Nat.div_eq_of_lt h]
theorem below_bit (n i : Nat) (h : n < 2 ^ (i + 1)) (h0 : bitOf n i = 0) : n < 2 ^ i := by
  unfold bitOf at h0
  rw [Nat.pow_succ] at h
  have hP := Nat.two_pow_pos i
  have h1 : n / 2 ^ i < 2 := (Nat.div_lt_iff_lt_mul hP).2 (by rw [Nat.mul_comm]; exact h)
  have h2 : n / 2 ^ i = 0 := by
    generalize n / 2 ^ i = q at *
    omega
  exact (Nat.div_eq_zero_iff_lt hP).1 h2
theorem bit_top (n i : Nat) (h : n < 2 ^ (i + 1)) (h1 : bitOf n i = 1) : blen n = i + 1 := by
  refine blen_eq n (i + 1) h (.inr ?_)
  rw [Nat.add_sub_cancel]
  rcases Nat.lt_or_ge n (2 ^ i) with h2 | h2
  · rw [bitOf_above n i h2] at h1
    omega
  · exact h2

set_option maxRecDepth 100000 in
set_option maxHeartbeats 2000000 in
theorem rLen_any (a : Nat) (ha : a < top) (w : World) :
    Calls Try.prog 23 #[.agg (wcells a)] w fun e w' => e = .returned (.int .i64 (blen a : Int)) ∧ Below w.heap.size w w' := by
  have hH := (Keeps.nil w).new (wcells a) 24
  simp only [List.nil_append] at hH
  go_enter Try.func23, Try.ntmps23
  go_wp2_with (first | (refine wpList_box hH 0 rfl 24 _ rfl rfl rfl _ Try.underlying24 rfl (infoW _) ?_) | (go_at_call 46; refine (bits_any a ha _).mono ?_; rintro e W1 ⟨g, rfl, hg, hcell, hb⟩; replace hH := hH.gain hb hg hcell; clear hg hcell hb))
  go_loop [4] (fun v => ∃ k : Nat, k ≤ 256 ∧ v = .int .i64 (k : Int) ∧ a < 2 ^ k) (fun v => (RowKit.intOf v).toNat)
  case atStart => exact ⟨256, by omega, rfl, by rw [← top256]; exact ha⟩
  case round =>
    obtain ⟨k, hk, rfl, hlt⟩ := hrel
    rcases k with _ | j
    · have h0 : a = 0 := by simpa using hlt
      have HL := Lib.hid (show blen a = 0 by rw [h0]; decide)
      clear hlt h0
      go_wp2
      go_ret
      exact ⟨by rw [HL.out]; rfl, hH.bel⟩
    · have hcb := hH.cellOf 1 rfl j
      rw [ibits_get _ _ _ (by omega)] at hcb
      have hb1 := bitOf_le a j
      have hj : (((j + 1 : Nat) : Int) - 1) = (j : Int) := by omega
      have hpos : (0 : Int) < ((j + 1 : Nat) : Int) := by omega
      obtain ⟨m, hm⟩ : ∃ m, j + 1 = m := ⟨_, rfl⟩
      rw [hm] at hj hpos ⊢
      by_cases hb : bitOf a j = 0
      · have hl2 := below_bit a j hlt hb
        have HL2 := Lib.hid hl2
        rw [hb] at hcb
        clear hl2 hlt hb hb1
        go_wp2
        go_round
        case rel => exact ⟨j, by omega, rfl, HL2.out⟩
        case measure => simp [RowKit.intOf]; omega
      · have hb' : bitOf a j = 1 := by omega
        have hl2 := bit_top a j hlt hb'
        rw [hm] at hl2
        have HL2 := Lib.hid hl2
        rw [hb'] at hcb
        clear hl2 hlt hb hb' hb1
        go_wp2
        go_ret
        exact ⟨by rw [HL2.out]; rfl, hH.bel⟩

set_option maxRecDepth 100000 in
set_option maxHeartbeats 4000000 in
theorem rCompare_any (a b : Nat) (ha : a < top) (hb : b < top) (w : World) :
    Calls Try.prog 25 #[.agg (wcells a), .agg (wcells b)] w fun e w' => e = .returned (.int .i64 (cmpI (a : Int) (b : Int))) ∧ Below w.heap.size w w' := by
  have hH := ((Keeps.nil w).new (wcells a) 24).new (wcells b) 24
  simp only [World.size_alloc, List.nil_append, List.cons_append] at hH
  have tk0 : True := trivial
  go_enter Try.func25, Try.ntmps25
  go_wp2_with (first | (have _t := tk0; refine wpList_box hH 0 rfl 24 _ rfl rfl rfl _ Try.underlying24 rfl (infoW _) ?_; clear _t tk0; have tk1 : True := trivial) | (have _t := tk1; go_at_call 46; refine (bits_any a ha _).mono ?_; clear _t tk1; have tk2 : True := trivial; rintro e W1 ⟨g1, rfl, hg, hcell, hb⟩; replace hH := hH.gain hb hg hcell; clear hg hcell hb) | (have _t := tk2; refine wpList_box hH 1 rfl 24 _ rfl rfl rfl _ Try.underlying24 rfl (infoW _) ?_; clear _t tk2; have tk3 : True := trivial) | (have _t := tk3; go_at_call 46; refine (bits_any b hb _).mono ?_; clear _t tk3; rintro e W1 ⟨g2, rfl, hg, hcell, hb⟩; replace hH := hH.gain hb hg hcell; clear hg hcell hb))
  simp only [List.nil_append, List.cons_append] at hH
  go_loopw [7] (fun v wr => ∃ k : Nat, k ≤ 256 ∧ v = .int .i64 ((k : Int) - 1) ∧ a / 2 ^ k = b / 2 ^ k ∧ Keeps w [(w.heap.size, wcells a, 24), (w.heap.size + 1, wcells b, 24), (g1, ibits a 256, 3), (g2, ibits b 256, 3)] wr) (fun v _ => (RowKit.intOf v + 1).toNat)
  case atStart => exact ⟨256, by omega, rfl, by rw [← top256, Nat.div_eq_of_lt ha, Nat.div_eq_of_lt hb], hH⟩
  case round =>
    clear hH
    obtain ⟨k, hk, rfl, hq, hH⟩ := hrel
    rcases k with _ | j
    · have he : a = b := by simpa using hq
      have HE := Lib.hid (show cmpI (a : Int) (b : Int) = 0 by rw [he]; simp [cmpI])
      clear he hq
      go_wp2
      go_ret
      exact ⟨by rw [HE.out]; rfl, hH.bel⟩
    · have hj : (((j + 1 : Nat) : Int) - 1) = (j : Int) := by omega
      rw [hj]
      have hj256 : j < 256 := by omega
      have hca := hH.cellOf 2 rfl j
      have hcb := hH.cellOf 3 rfl j
      rw [ibits_get _ _ _ hj256] at hca hcb
      have hda := div_pow_bit a j
      have hdb := div_pow_bit b j
      have la := bitOf_le a j
      have lb := bitOf_le b j
      obtain ⟨x, hx⟩ : ∃ x, bitOf a j = x := ⟨_, rfl⟩
      obtain ⟨y, hy⟩ : ∃ y, bitOf b j = y := ⟨_, rfl⟩
      rw [hx] at hca hda la
      rw [hy] at hcb hdb lb
      clear hj hx hy
      rw [hq] at hda
      rcases Nat.lt_trichotomy x y with h | h | h
      · have hlt : a < b := by
          rcases Nat.lt_or_ge a b with h2 | h2
          · exact h2
          · have := Nat.div_le_div_right (c := 2 ^ j) h2
            omega
        have HC := Lib.hid (show cmpI (a : Int) (b : Int) = -1 by unfold cmpI; rw [if_pos (by omega)])
        have hd : (x : Int) < y := by omega
        clear hlt hda hdb hq
        go_wp2
        go_quiet (fail)
        go_wp2
        go_ret
        exact ⟨by rw [HC.out]; rfl, by first | exact (hH.drewN _).bel | exact ((hH.drewN _).drewN _).bel⟩
      · have hq2 : a / 2 ^ j = b / 2 ^ j := by rw [hda, hdb, h]
        have HQ := Lib.hid hq2
        have hd1 : ¬ ((x : Int) < y) := by omega
        have hd2 : ¬ ((y : Int) < x) := by omega
        clear hq2 hda hdb hq h
        go_wp2
        go_quiet (fail)
        go_wp2
        go_quiet (fail)
        go_wp2
        go_roundw
        case rel => exact ⟨j, by omega, rfl, HQ.out, hH.drewN _⟩
        case measure => simp [RowKit.intOf]
      · have hgt : b < a := by
          rcases Nat.lt_or_ge b a with h2 | h2
          · exact h2
          · have := Nat.div_le_div_right (c := 2 ^ j) h2
            omega
        have HC := Lib.hid (show cmpI (a : Int) (b : Int) = 1 by unfold cmpI; rw [if_neg (by omega), if_pos (by omega)])
        have hd1 : ¬ ((x : Int) < y) := by omega
        have hd2 : (y : Int) < x := by omega
        clear hgt hda hdb hq
        go_wp2
        go_quiet (fail)
        go_wp2
        go_quiet (fail)
        go_wp2
        go_ret
        exact ⟨by rw [HC.out]; rfl, by first | exact (hH.drewN _).bel | exact ((hH.drewN _).drewN _).bel⟩
end Go.Proofs.Ytgmgejjlhlibkaa.Oct
