/- The document's numbers, bit by bit: rows of bits; contracts of Bits and Number. Numbers are below 2^256. -/
import Derived.Test.YtgmgejjlhlibkaaWidW
namespace Go.Proofs.Ytgmgejjlhlibkaa
set_option linter.unusedVariables false
open Go.RowKit
/-- A new block is known besides. -/
theorem Keeps.gain {W0 W W' : World} {l : List (Nat × Array Value × TypeId)} (h : Keeps W0 l W) (hb : Below W.heap.size W W') {g : Nat} {cs : Array Value} {t : TypeId} (hg : W.heap.size ≤ g) (hc : W'.heap[g]? = some (.cells cs t (0, 0))) :
    Keeps W0 (l ++ [(g, cs, t)]) W' := by
  have h2 := h.call hb
  have key : ∀ (i : Nat) p, (l ++ [(g, cs, t)])[i]? = some p → (l[i]? = some p ∧ i < l.length) ∨ (p = (g, cs, t) ∧ i = l.length) := by
    intro i p hi
    rcases Nat.lt_or_ge i l.length with hlt | hge
    · rw [List.getElem?_append_left hlt] at hi
      exact .inl ⟨hi, hlt⟩
    · rw [List.getElem?_append_right hge] at hi
      have h0 : i - l.length = 0 := by
        have := (List.getElem?_eq_some_iff.1 hi).1
        simp at this
        omega
      rw [h0] at hi
      simp at hi
      exact .inr ⟨hi.symm, by omega⟩
  refine ⟨fun i p hi => ?_, fun i p hi => ?_, fun i j p q hi hj hij => ?_, h2.bel⟩
  · rcases key i p hi with ⟨hi, _⟩ | ⟨rfl, _⟩
    · exact h2.rows i p hi
    · exact hc
  · rcases key i p hi with ⟨hi, _⟩ | ⟨rfl, _⟩
    · exact h.base i p hi
    · exact Nat.le_trans h.bel.size hg
  · rcases key i p hi with ⟨hi, _⟩ | ⟨rfl, hi'⟩ <;> rcases key j q hj with ⟨hj, _⟩ | ⟨rfl, hj'⟩
    · exact h.apart i j p q hi hj hij
    · have := h.lt i hi
      show p.1 ≠ g
      omega
    · have := h.lt j hj
      show g ≠ q.1
      omega
    · omega
theorem Keeps.frozen {W0 W : World} {l : List (Nat × Array Value × TypeId)} (h : Keeps W0 l W) (i : Nat) {g : Nat} {cs : Array Value} {t : TypeId} (hi : l[i]? = some (g, cs, t)) (j : Nat) : W.frozen? ⟨g, j, none⟩ = false := frozen_of_row _ _ _ _ _ (h.get i hi)
theorem Keeps.cellOf {W0 W : World} {l : List (Nat × Array Value × TypeId)} (h : Keeps W0 l W) (i : Nat) {g : Nat} {cs : Array Value} {t : TypeId} (hi : l[i]? = some (g, cs, t)) (j : Nat) : W.cell? ⟨g, j, none⟩ = cs[j]? := cell_of_row _ _ _ _ _ _ (h.get i hi)
/-- The store of one cell of a box. -/
theorem Keeps.cellSet {W0 W : World} {l : List (Nat × Array Value × TypeId)} (h : Keeps W0 l W) (k : Nat) {g : Nat} {cs : Array Value} {t : TypeId} (hk : l[k]? = some (g, cs, t)) (j : Nat) (v : Value) :
    Keeps W0 (l.set k (g, cs.setIfInBounds j v, t)) (W.setCell ⟨g, j, none⟩ v) := by
  rw [setCell_eq_setRow W g j cs t (0, 0) v (h.get k hk)]
  exact h.put k hk _

end Go.Proofs.Ytgmgejjlhlibkaa
namespace Go.Proofs.Ytgmgejjlhlibkaa.Oct
open Go.Proofs.Ytgmgejjlhlibkaa Go.RowKit Go.Shelf

/-- The lowest m of k bits, the others 0. -/
def pbits (n k m : Nat) : Array Value := ((List.range k).map fun i => Value.int .i64 (if i < m then (bitOf n i : Int) else 0)).toArray
theorem pbits_size (n k m : Nat) : (pbits n k m).size = k := by simp [pbits]
theorem pbits_get (n k m i : Nat) (hi : i < k) : (pbits n k m)[i]? = some (.int .i64 (if i < m then (bitOf n i : Int) else 0)) := by simp [pbits, hi]
theorem pbits_set (n k m : Nat) (hm : m < k) : (pbits n k m).setIfInBounds m (.int .i64 (bitOf n m : Int)) = pbits n k (m + 1) := by
  unfold pbits
  refine Array.ext (by simp) fun i h1 h2 => ?_
  simp at h1
  rw [Array.getElem_setIfInBounds (by simpa using h1)]
  simp
  by_cases h : m = i
  · subst h
    simp
  · rw [if_neg h]
    have : i < m + 1 ↔ i < m := by omega
    simp only [this]
theorem pbits_ext (n n' k m m' : Nat) (h : ∀ i, i < k → (if i < m then bitOf n i else (0 : Nat)) = (if i < m' then bitOf n' i else (0 : Nat))) : pbits n k m = pbits n' k m' := by
  unfold pbits
  congr 1
  refine List.map_congr_left fun i hi => ?_
  have h1 := h i (List.mem_range.1 hi)
  have h2 : ∀ (p : Prop) [Decidable p] (x : Nat), (if p then (x : Int) else 0) = ((if p then x else (0 : Nat) : Nat) : Int) := fun p _ x => by split <;> rfl
  show Value.int .i64 (if i < m then (bitOf n i : Int) else 0) = Value.int .i64 (if i < m' then (bitOf n' i : Int) else 0)
  rw [h2, h2, h1]
def ibits (n k : Nat) : Array Value := pbits n k k
theorem ibits_get (n k i : Nat) (hi : i < k) : (ibits n k)[i]? = some (.int .i64 (bitOf n i : Int)) := by
  unfold ibits
  rw [pbits_get _ _ _ _ hi, if_pos hi]
theorem pbits_zero (n n' k : Nat) : pbits n k 0 = pbits n' k 0 := pbits_ext _ _ _ _ _ fun i _ => by simp

/-- A row of bits in memory of the call's own. -/
def Row (w : World) (n k : Nat) (e : Ending) (w' : World) : Prop :=
  ∃ g, e = .returned (.slice (some ⟨g, 0, none⟩) k k) ∧ w.heap.size ≤ g ∧ w'.heap[g]? = some (.cells (ibits n k) 3 (0, 0)) ∧ Below w.heap.size w w'
theorem int_info : (Try.prog.info? 3).map (fun i => (i.zero, i.size, i.bytes)) = some (some (.int .i64 0), 1, 8) := by kernel_rfl
theorem madeInts (k : Nat) : madeCells (Value.int .i64 0).cells (k * 1) = pbits 0 k 0 := by
  refine Array.ext (by simp [madeCells, pbits, Value.cells]) fun i h1 h2 => ?_
  simp [madeCells, pbits, Value.cells, Nat.mod_one]
theorem makeInts (k : Nat) (hk : k ≤ 1000000) (w : World) : (Instr.makeSlice 58 (.int .i64 (k : Int)) (.int .i64 (k : Int))).run Try.prog w = .ok (.slice (some ⟨w.heap.size, 0, none⟩) k k) (w.alloc (.cells (pbits 0 k 0) 3)) := by
  obtain ⟨i0, hi, hz0, hz1, hz2⟩ := info_parts int_info
  have h := run_make_rowN (P := Try.prog) 58 3 i0 _ Try.underlying58 hi hz0 .i64 .i64 k k (by omega) (by rw [hz2]; omega) (by omega) w
  rw [hz1, madeInts] at h
  exact h
theorem make256 (w : World) : (Instr.makeSlice 58 (.int .i64 256) (.int .i64 256)).run Try.prog w = .ok (.slice (some ⟨w.heap.size, 0, none⟩) 256 256) (w.alloc (.cells (pbits 0 256 0) 3)) := makeInts 256 (by omega) w
theorem make512 (w : World) : (Instr.makeSlice 58 (.int .i64 512) (.int .i64 512)).run Try.prog w = .ok (.slice (some ⟨w.heap.size, 0, none⟩) 512 512) (w.alloc (.cells (pbits 0 512 0) 3)) := makeInts 512 (by omega) w
theorem wrap_small (k : IntKind) (hk : k = .i64 ∨ k = .u64) (n : Nat) (hn : n < 9223372036854775808) : k.wrap (n : Int) = (n : Int) := by
  rcases hk with rfl | rfl
  · rw [IntKind.wrap_i64]; omega
  · rw [IntKind.wrap_u64]; omega

set_option maxRecDepth 100000 in
set_option maxHeartbeats 2000000 in
theorem bits_any (n : Nat) (hn : n < top) (w : World) : Calls Try.prog 46 #[.agg (wcells n)] w (Row w n 256) := by
  have hm := make256
  have hH0 := ((Keeps.nil w).new (wcells n) 24).new (pbits n 256 0) 3
  simp only [World.size_alloc, List.nil_append, List.cons_append] at hH0
  rw [pbits_zero n 0] at hH0
  go_enter Try.func46, Try.ntmps46
  go_wp2
  go_loopw [4] (fun v wr => ∃ k : Nat, k ≤ 256 ∧ v = .int .i64 (k : Int) ∧ Keeps w [(w.heap.size, wcells n, 24), (w.heap.size + 1, pbits n 256 k, 3)] wr) (fun v _ => 256 - (RowKit.intOf v).toNat)
  case atStart => exact ⟨0, by omega, rfl, by rw [pbits_zero n 0]; exact hH0⟩
  case round =>
    obtain ⟨k, hk, rfl, hH⟩ := hrel
    clear hH0 hm
    by_cases hlt : k < 256
    · have hca := hH.cellOf 0 rfl (k / 64)
      rw [wcells_at n _ (by omega)] at hca
      have hcb := hH.cellOf 1 rfl k
      rw [pbits_get _ _ _ _ hlt, if_neg (by omega)] at hcb
      have hfb := hH.frozen 1 rfl k
      have hw := word_at n (k / 64)
      have hbit := bit_at n k
      have hb1 := bitOf_le n k
      have z3 : ((k : Int) / 64).toNat = k / 64 := by omega
      have z4 : ((k : Int) % 64).toNat = k % 64 := by omega
      have ev : bits .and .u64 ((wAt n (k / 64) : Int) / 2 ^ (k % 64)) 1 = (bitOf n k : Int) := by
        rw [div_pow_int, show (1 : Int) = ((1 : Nat) : Int) by rfl, u64_and_nat _ 1 (div_word hw _) (by omega), Nat.and_one_is_mod, bit_at]
      have hH2 := hH.cellSet 1 rfl k (.int .i64 (bitOf n k : Int))
      simp only [List.set_cons_succ, List.set_cons_zero] at hH2
      rw [pbits_set n 256 k hlt] at hH2
      unfold word at hw
      have HH2 := Lib.hid hH2
      clear hH2 hH hbit
      go_wp2
      go_roundw
      case rel => exact ⟨k + 1, by omega, by go_num, HH2.out⟩
      case measure => simp [RowKit.intOf]; omega
    · obtain rfl : k = 256 := by omega
      go_wp2
      go_ret
      exact ⟨w.heap.size + 1, rfl, by omega, hH.get 1 rfl, hH.bel⟩

theorem set_add (q k : Nat) (hk : k < 256) (hq : q < 2 ^ k) : (wcells q).setIfInBounds (k / 64) (.int .u64 ((wAt q (k / 64) + 2 ^ (k % 64) : Nat) : Int)) = wcells (q + 2 ^ k) ∧ wAt q (k / 64) + 2 ^ (k % 64) < 18446744073709551616 := by
  have h1 : wAt q (k / 64) < 2 ^ (k % 64) := by
    unfold wAt
    rw [show (18446744073709551616 : Nat) = 2 ^ 64 by decide, ← Nat.pow_mul]
    refine Nat.lt_of_le_of_lt (Nat.mod_le _ _) ?_
    rw [Nat.div_lt_iff_lt_mul (Nat.two_pow_pos _), ← Nat.pow_add, show k % 64 + 64 * (k / 64) = k by omega]
    exact hq
  have h2 : wAt q (k / 64) ||| 2 ^ (k % 64) = wAt q (k / 64) + 2 ^ (k % 64) := by
    have := or_add (k % 64) 1 _ h1
    rw [Nat.one_mul] at this
    rw [Nat.or_comm, this, Nat.add_comm]
  have h3 : q ||| 2 ^ k = q + 2 ^ k := by
    have := or_add k 1 _ hq
    rw [Nat.one_mul] at this
    rw [Nat.or_comm, this, Nat.add_comm]
  rw [← h2, set_or q k hk, h3]
  refine ⟨rfl, ?_⟩
  have hw := word_at q (k / 64)
  unfold word at hw
  exact Nat.or_lt_two_pow (n := 64) hw (Nat.pow_lt_pow_right (by decide) (by omega))
theorem mod_bit (n k : Nat) : n % 2 ^ (k + 1) = n % 2 ^ k + (if bitOf n k = 1 then 2 ^ k else 0) := by
  rw [Nat.pow_succ, Nat.mod_mul]
  have := bitOf_le n k
  unfold bitOf at this ⊢
  split
  · rename_i h
    rw [h, Nat.mul_one]
  · have : n / 2 ^ k % 2 = 0 := by omega
    rw [this, Nat.mul_zero]
theorem results_one (tmps : Array Value) (w : World) (f : Func) (p g x : Nat) (hf : f.results = #[.cell p 24]) (h2 : tmps[p]? = some (.pointer (some ⟨g, 0, none⟩)))
    (hq : w.heap[g]? = some (.cells (wcells x) 24 (0, 0))) : (results f tmps).run Try.prog w = .ok (.agg (wcells x)) w := by
  have q0 := cell_of_row w g 0 _ _ _ hq
  have q1 := cell_of_row w g 1 _ _ _ hq
  have q2 := cell_of_row w g 2 _ _ _ hq
  have q3 := cell_of_row w g 3 _ _ _ hq
  simp only [wc] at q0 q1 q2 q3
  simp [results, hf, go_sem, h2, q0, q1, q2, q3, wc]
theorem keepsz (w : World) : Keeps w [(w.heap.size, wcells 0, 24), (w.heap.size + 1, wcells 0, 24)] ((w.alloc (.cells #[.int .u64 0, .int .u64 0, .int .u64 0, .int .u64 0] 24)).alloc (.cells #[.int .u64 0, .int .u64 0, .int .u64 0, .int .u64 0] 24)) := by
  have h := ((Keeps.nil w).new (wcells 0) 24).new (wcells 0) 24
  simp only [World.size_alloc, List.nil_append, List.cons_append] at h
  exact h

set_option maxRecDepth 100000 in
set_option maxHeartbeats 2000000 in
theorem number_any (n g off c : Nat) (hn : n < top) (w : World) (hg : g < w.heap.size) (hcell : ∀ i, i < 256 → w.cell? ⟨g, off + i, none⟩ = some (.int .i64 (bitOf n i : Int))) :
    Calls Try.prog 44 #[.slice (some ⟨g, off, none⟩) 256 c] w fun e w' => e = .returned (.agg (wcells n)) ∧ Below w.heap.size w w' := by
  have hH0 := keepsz w
  have HC := Lib.hid hcell
  clear hcell
  go_enter Try.func44, Try.ntmps44
  go_wp2
  go_loopw [4] (fun v wr => ∃ k : Nat, k ≤ 256 ∧ v = .int .i64 (k : Int) ∧ Keeps w [(w.heap.size, wcells 0, 24), (w.heap.size + 1, wcells (n % 2 ^ k), 24)] wr) (fun v _ => 256 - (RowKit.intOf v).toNat)
  case atStart => exact ⟨0, by omega, rfl, by rw [Nat.pow_zero, Nat.mod_one]; exact hH0⟩
  case round =>
    obtain ⟨k, hk, rfl, hH⟩ := hrel
    clear hH0
    by_cases hlt : k < 256
    · have hcb := (hH.bel.cell (p := ⟨g, off + k, none⟩) hg).trans (HC.out k hlt)
      have hb1 := bitOf_le n k
      have hmb := mod_bit n k
      have hq := Nat.mod_lt n (Nat.two_pow_pos k)
      obtain ⟨q, hqe⟩ : ∃ q, n % 2 ^ k = q := ⟨_, rfl⟩
      rw [hqe] at hH hmb hq
      by_cases hb : bitOf n k = 1
      · rw [hb] at hcb
        rw [if_pos hb] at hmb
        obtain ⟨hset, hlt64⟩ := set_add q k hlt hq
        have hca := hH.cellOf 1 rfl (k / 64)
        rw [wcells_at q _ (by omega)] at hca
        have hfa := hH.frozen 1 rfl (k / 64)
        have hH2 := hH.cellSet 1 rfl (k / 64) (.int .u64 ((wAt q (k / 64) + 2 ^ (k % 64) : Nat) : Int))
        simp only [List.set_cons_succ, List.set_cons_zero] at hH2
        rw [hset, ← hmb] at hH2
        have HH2 := Lib.hid hH2
        have z3 : ((k : Int) / 64).toNat = k / 64 := by omega
        have z4 : ((k : Int) % 64).toNat = k % 64 := by omega
        have hp64 : 2 ^ (k % 64) < 18446744073709551616 := Nat.pow_lt_pow_right (n := 64) (by decide) (by omega)
        have ev1 : IntKind.u64.wrap ((2 : Int) ^ (k % 64)) = ((2 ^ (k % 64) : Nat) : Int) := by
          rw [IntKind.wrap_u64, show ((2 : Int) ^ (k % 64)) = ((2 ^ (k % 64) : Nat) : Int) by simp]
          generalize 2 ^ (k % 64) = y at *
          omega
        have ev0 : IntKind.u64.wrap (1 * (2 : Int) ^ (k % 64)) = ((2 ^ (k % 64) : Nat) : Int) := by rw [Int.one_mul, ev1]
        clear hH2 hH hset hmb hqe hq hb1
        generalize 2 ^ (k % 64) = P at *
        have hw := word_at q (k / 64)
        unfold word at hw
        have eva : IntKind.u64.wrap ((wAt q (k / 64) : Int) + (P : Int)) = ((wAt q (k / 64) + P : Nat) : Int) := by rw [IntKind.wrap_u64]; omega
        go_wp2
        go_roundw
        case rel => exact ⟨k + 1, by omega, by go_num, HH2.out⟩
        case measure => simp [RowKit.intOf]; omega
      · have hb0 : bitOf n k = 0 := by omega
        rw [hb0] at hcb
        rw [if_neg hb] at hmb
        have hmb2 : n % 2 ^ (k + 1) = q := hmb
        rw [← hmb2] at hH
        clear hmb2 hb hb0 hb1 hmb hqe hq
        go_wp2
        go_roundw
        case rel => exact ⟨k + 1, by omega, by go_num, hH⟩
        case measure => simp [RowKit.intOf]; omega
    · obtain rfl : k = 256 := by omega
      rw [show n % 2 ^ 256 = n from Nat.mod_eq_of_lt (by rw [show (2 : Nat) ^ 256 = top by unfold top; decide +kernel]; exact hn)] at hH
      go_wp2_with (first | (refine wpList_box hH 1 rfl 24 _ rfl rfl rfl _ Try.underlying24 rfl (infoW _) ?_) | (refine wpList_put hH 0 rfl 24 _ _ rfl rfl rfl rfl (infoW _) rfl (oneW _) ?_; clear hH; intro W1 hH))
      exact bodyPost_ret (results_one _ _ _ 2 w.heap.size n rfl rfl (hH.get 0 rfl)) rfl ⟨rfl, hH.bel⟩
end Go.Proofs.Ytgmgejjlhlibkaa.Oct
