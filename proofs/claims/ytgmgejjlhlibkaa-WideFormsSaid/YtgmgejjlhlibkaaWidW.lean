/- The contract of wide.Read: the number of 32 bytes, or the error. -/
import Derived.Test.YtgmgejjlhlibkaaWidV
import Derived.Test.YtgmgejjlhlibkaaWidS
namespace Go.Proofs.Ytgmgejjlhlibkaa.Oct
set_option linter.unusedVariables false
open Go.Proofs.Ytgmgejjlhlibkaa Go.RowKit Go.Shelf

/-- The number of bytes, the lowest first. -/
def leN : List UInt8 → Nat
  | [] => 0
  | x :: l => x.toNat + 256 * leN l
theorem leN_lt (l : List UInt8) : leN l < 256 ^ l.length := by
  induction l with
  | nil => simp [leN]
  | cons x l ih =>
    have := UInt8.toNat_lt x
    rw [leN, List.length_cons, Nat.pow_succ]
    omega
theorem leN_snoc (l : List UInt8) (x : UInt8) : leN (l ++ [x]) = leN l + x.toNat * 256 ^ l.length := by
  induction l with
  | nil => simp [leN]
  | cons y l ih =>
    rw [List.cons_append, leN, leN, ih, List.length_cons, Nat.pow_succ, Nat.mul_add, Nat.add_assoc]
    congr 2
    rw [Nat.mul_left_comm, Nat.mul_comm 256]
theorem leN_take (l : List UInt8) (k : Nat) (hk : k < l.length) : leN (l.take (k + 1)) = leN (l.take k) + (l[k]).toNat * 256 ^ k := by
  rw [List.take_succ_eq_append_getElem hk, leN_snoc, List.length_take, Nat.min_eq_left (by omega)]

theorem wAt_byte (x j i : Nat) (hx : x < 256) (hj : j % 64 ≤ 56) : wAt (x * 2 ^ j) i = if i = j / 64 then x * 2 ^ (j % 64) else 0 := by
  unfold wAt
  rw [show (18446744073709551616 : Nat) = 2 ^ 64 by decide, ← Nat.pow_mul]
  have hbit : ∀ m, 8 ≤ m → x.testBit m = false := fun m hm => Nat.testBit_lt_two_pow (Nat.lt_of_lt_of_le hx (by
    have := Nat.pow_le_pow_right (show 0 < 2 by decide) hm
    simpa using this))
  refine Nat.eq_of_testBit_eq fun b => ?_
  rw [Nat.testBit_mod_two_pow, Nat.testBit_div_two_pow, Nat.testBit_mul_two_pow]
  split
  · rename_i h
    subst h
    rw [Nat.testBit_mul_two_pow]
    have e1 : (j ≤ 64 * (j / 64) + b) ↔ (j % 64 ≤ b) := by omega
    have e2 : 64 * (j / 64) + b - j = b - j % 64 := by omega
    rw [Nat.add_comm b, e2]
    by_cases hb : b < 64
    · simp [hb, e1]
    · have := hbit (b - j % 64) (by omega)
      simp [hb, this]
  · rename_i h
    rw [Nat.zero_testBit]
    by_cases hb : b < 64
    · rcases Nat.lt_or_ge i (j / 64) with hlt | hge
      · have : ¬ j ≤ b + 64 * i := by omega
        simp [this]
      · have := hbit (b + 64 * i - j) (by omega)
        simp [this]
    · simp [hb]
theorem set_byte (q x j : Nat) (hx : x < 256) (hj : j % 64 ≤ 56) (h256 : j < 256) : (wcells q).setIfInBounds (j / 64) (.int .u64 ((wAt q (j / 64) ||| x * 2 ^ (j % 64) : Nat) : Int)) = wcells (q ||| x * 2 ^ j) := by
  have h : j / 64 = 0 ∨ j / 64 = 1 ∨ j / 64 = 2 ∨ j / 64 = 3 := by omega
  rw [wcells_ats, wcells_ats, wAt_or, wAt_or, wAt_or, wAt_or, wAt_byte _ _ _ hx hj, wAt_byte _ _ _ hx hj, wAt_byte _ _ _ hx hj, wAt_byte _ _ _ hx hj]
  rcases h with h | h | h | h <;> rw [h] <;> simp
theorem or_byte (q x k : Nat) (hq : q < 256 ^ k) : q ||| x * 2 ^ (8 * k) = q + x * 256 ^ k := by
  have e : (256 : Nat) ^ k = 2 ^ (8 * k) := by rw [show (256 : Nat) = 2 ^ 8 by decide, ← Nat.pow_mul]
  rw [e] at hq ⊢
  rw [Nat.or_comm, or_add _ _ _ hq, Nat.add_comm]

theorem results_two (tmps : Array Value) (w : World) (f : Func) (g x : Nat) (e : Int) (hf : f.results = #[.cell 2 24, .tmp 3]) (h2 : tmps[2]? = some (.pointer (some ⟨g, 0, none⟩))) (h3 : tmps[3]? = some (.int .i64 e))
    (hq : w.heap[g]? = some (.cells (wcells x) 24 (0, 0))) : (results f tmps).run Try.prog w = .ok (.tuple #[.agg (wcells x), .int .i64 e]) w := by
  have q0 := cell_of_row w g 0 _ _ _ hq
  have q1 := cell_of_row w g 1 _ _ _ hq
  have q2 := cell_of_row w g 2 _ _ _ hq
  have q3 := cell_of_row w g 3 _ _ _ hq
  simp only [wc] at q0 q1 q2 q3
  simp [results, hf, go_sem, h2, h3, q0, q1, q2, q3, wc]

set_option maxHeartbeats 1000000 in
theorem read_bad (A : Option Addr) (bs : List UInt8) (c : Nat) (hl : bs.length ≠ 32) (w : World) :
    Calls Try.prog 12 #[.slice A bs.length c] w fun e w' => e = .returned (.tuple #[.agg (wcells 0), .int .i64 30]) ∧ Below w.heap.size w w' := by
  have h1 : ((bs.length : Int) != 32) = true := by simp; omega
  go_enter Try.func12, Try.ntmps12
  go_wp2
  exact bodyPost_ret (v := .tuple #[.agg (wcells 0), .int .i64 30]) (by simp [results, Try.results12, go_sem, cells4_zero, cells4]) rfl ⟨rfl, (Below.refl _ _).alloc (Nat.le_refl _) _⟩

set_option maxRecDepth 100000 in
set_option maxHeartbeats 4000000 in
theorem read_any (A : Option Addr) (bs : List UInt8) (c : Nat) (hl : bs.length = 32) (w : World) (hh : Holds8 w.heap.size w A bs) :
    Calls Try.prog 12 #[.slice A bs.length c] w fun e w' => e = .returned (.tuple #[.agg (wcells (leN bs)), .int .i64 0]) ∧ Below w.heap.size w w' := by
  have h1 : ((bs.length : Int) != 32) = false := by simp; omega
  have hlen := hl
  rw [hl] at h1
  rw [hl]
  have HL := Lib.hid hl
  clear hl
  have hz := heap_alloc_new w (.cells (wcells 0) 24)
  have hz2 := heap_alloc_new (w.alloc (.cells (wcells 0) 24)) (.cells (wcells 0) 24)
  rw [World.size_alloc] at hz2
  have HLEN := Lib.hid hlen
  clear hlen
  go_enter Try.func12, Try.ntmps12
  go_wp2
  go_loopw [13] (fun v wr => ∃ k : Nat, k ≤ 32 ∧ v = .int .i64 (k : Int) ∧ (∃ v2, wr.heap[w.heap.size]? = some (.cells (wcells v2) 24 (0, 0))) ∧ wr.heap[w.heap.size + 1]? = some (.cells (wcells (leN (bs.take k))) 24 (0, 0)) ∧ Below w.heap.size w wr) (fun v _ => 32 - (RowKit.intOf v).toNat)
  case atStart =>
    refine ⟨0, by omega, rfl, ⟨0, ?_⟩, ?_, ?_⟩
    · exact (Below.heap_alloc _ _ _ (by simp)).trans hz
    · exact hz2
    · exact ((Below.refl _ _).alloc (Nat.le_refl _) _).alloc (by simp) _
  case round =>
    obtain ⟨k, hk, rfl, ⟨v2, hc1⟩, hc2, hB⟩ := hrel
    clear hz hz2
    by_cases hlt : k < 32
    · have hkl : k < bs.length := by rw [HLEN.out]; exact hlt
      obtain ⟨b, off, rfl, hb, hcell⟩ := hh.at_ hkl
      have hcb := (hB.cell (p := ⟨b, off + k, none⟩) hb).trans hcell
      have hts := leN_take bs k hkl
      have hx := UInt8.toNat_lt (bs[k])
      obtain ⟨x, hxe⟩ : ∃ x, (bs[k]).toNat = x := ⟨_, rfl⟩
      rw [hxe] at hcb hts hx
      clear hxe hcell
      have hq := leN_lt (bs.take k)
      rw [List.length_take, Nat.min_eq_left (by omega)] at hq
      obtain ⟨q, hqe⟩ : ∃ q, leN (bs.take k) = q := ⟨_, rfl⟩
      rw [hqe] at hc2 hts hq
      have hor := or_byte q x k hq
      rw [← hor] at hts
      have HTS := Lib.hid hts
      clear hts hor hqe hq
      have hca := cell_of_row _ (w.heap.size + 1) (k / 8) _ _ _ hc2
      rw [wcells_at q _ (by omega)] at hca
      have hfa := frozen_of_row wr (w.heap.size + 1) (k / 8) _ _ hc2
      have hw := word_at q (k / 8)
      unfold word at hw
      have z1 : IntKind.i64.wrap ((k : Int) / 8) = (k : Int) / 8 := IntWalk.i64_in _ (by omega)
      have z2 : IntKind.i64.wrap ((k : Int) % 8) = (k : Int) % 8 := IntWalk.i64_in _ (by omega)
      have z3 : ((k : Int) / 8).toNat = k / 8 := by omega
      have z4 : (8 * ((k : Int) % 8)).toNat = 8 * (k % 8) := by omega
      have z5 : (0 : Int) ≤ (k : Int) / 8 := by omega
      have z6 : (k : Int) / 8 < 4 := by omega
      have z7 : (0 : Int) ≤ 8 * ((k : Int) % 8) := by omega
      have z8 : 8 * ((k : Int) % 8) ≤ 64 := by omega
      have z9 : IntKind.i64.wrap (8 * ((k : Int) % 8)) = 8 * ((k : Int) % 8) := IntWalk.i64_in _ (by omega)
      have z10 : IntKind.u64.wrap (x : Int) = (x : Int) := by rw [IntKind.wrap_u64]; omega
      have hpw : x * 2 ^ (8 * (k % 8)) < 18446744073709551616 := by
        have h1 : 2 ^ (8 * (k % 8)) ≤ 2 ^ 56 := Nat.pow_le_pow_right (by decide) (by omega)
        have h2 : x * 2 ^ (8 * (k % 8)) ≤ 255 * 2 ^ 56 := Nat.mul_le_mul (by omega) h1
        omega
      have ev : IntKind.u64.wrap ((x : Int) * 2 ^ (8 * (k % 8))) = ((x * 2 ^ (8 * (k % 8)) : Nat) : Int) := by
        rw [wrap_pow, Nat.mod_eq_of_lt hpw]
      have ev2 : bits .or .u64 (wAt q (k / 8) : Int) ((x * 2 ^ (8 * (k % 8)) : Nat) : Int) = ((wAt q (k / 8) ||| x * 2 ^ (8 * (k % 8)) : Nat) : Int) := u64_or_nat _ _ hw hpw
      have hset := set_byte q x (8 * k) hx (by omega) (by omega)
      rw [show 8 * k / 64 = k / 8 by omega, show 8 * k % 64 = 8 * (k % 8) by omega] at hset
      have hnew : (wr.setCell ⟨w.heap.size + 1, k / 8, none⟩ (.int .u64 ((wAt q (k / 8) ||| x * 2 ^ (8 * (k % 8)) : Nat) : Int))).heap[w.heap.size + 1]? = some (.cells (wcells (q ||| x * 2 ^ (8 * k))) 24 (0, 0)) := by
        rw [← hset]
        simp [World.setCell, Array.getElem?_modify, hc2]
      have HNEW := Lib.hid hnew
      have HC1 := Lib.hid hc1
      clear hnew hset hc1 hc2 hkl
      generalize x * 2 ^ (8 * (k % 8)) = P at *
      go_wp2
      go_region
      go_wp2
      go_roundw
      case rel => exact ⟨k + 1, by omega, by go_num, ⟨v2, (heap_setCell_other _ _ _ _ (by simp)).trans HC1.out⟩, by rw [HTS.out]; exact HNEW.out, (hB.setCell (by simp) _).drew⟩
      case measure => simp [RowKit.intOf]; omega
    · obtain rfl : k = 32 := by omega
      rw [show bs.take 32 = bs from List.take_of_length_le (by rw [HLEN.out]; omega)] at hc2
      go_wp2_with (first | (refine wpList_load_row rfl 24 _ rfl (w.heap.size + 1) rfl 24 (wcells (leN bs)) (0, 0) _ hc2 Try.underlying24 rfl (infoW _) ?_) | (refine wpList_wanted (by rfl) fun _ hK => wp_store_row 24 _ _ rfl w.heap.size (wcells (leN bs)) rfl rfl 24 (wcells v2) hc1 (infoW _) rfl (oneW _) (hK _ _ ?_)))
      refine bodyPost_ret (results_two _ _ _ w.heap.size (leN bs) 0 rfl rfl rfl (setRow_heap _ _ _ _ _ _ hc1)) rfl ⟨rfl, ?_⟩
      exact hB.trans ⟨rfl, rfl, rfl, by simp [World.setRow], fun i hi => setRow_other _ _ _ _ (by omega)⟩
end Go.Proofs.Ytgmgejjlhlibkaa.Oct
