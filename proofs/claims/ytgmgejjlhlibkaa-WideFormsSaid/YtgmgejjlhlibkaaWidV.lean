/- The contract of wide.Bytes: 32 bytes, the lowest first, in memory of the call's own. The number is below 2^256. -/
import Derived.Test.YtgmgejjlhlibkaaWidQ
import Derived.Test.YtgmgejjlhlibkaaByt
import Derived.Laws.MakeOwn
namespace Go.Proofs.Ytgmgejjlhlibkaa.Oct
set_option linter.unusedVariables false
open Go.Proofs.Ytgmgejjlhlibkaa Go.RowKit Go.Shelf

/-- One byte of a number. -/
def byteOf (n k : Nat) : Nat := n / 256 ^ k % 256
def bytesW (n : Nat) : List UInt8 := (List.range 32).map fun k => UInt8.ofNat (byteOf n k)
theorem bytesW_length (n : Nat) : (bytesW n).length = 32 := by simp [bytesW]
theorem bytesW_get (n k : Nat) (h : k < (bytesW n).length) : (bytesW n)[k] = UInt8.ofNat (byteOf n k) := by simp [bytesW]
theorem byteOf_lt (n k : Nat) : byteOf n k < 256 := by unfold byteOf; omega
theorem byte_at (n k : Nat) (hk : k < 32) : wAt n (k / 8) / 2 ^ (8 * (k % 8)) % 256 = byteOf n k := by
  unfold wAt byteOf
  have e : (256 : Nat) ^ k = 18446744073709551616 ^ (k / 8) * 2 ^ (8 * (k % 8)) := by
    rw [show (18446744073709551616 : Nat) = 2 ^ 64 by decide, show (256 : Nat) = 2 ^ 8 by decide, ← Nat.pow_mul, ← Nat.pow_mul, ← Nat.pow_add]
    congr 1
    omega
  rw [e, ← Nat.div_div_eq_div_mul]
  generalize n / 18446744073709551616 ^ (k / 8) = x
  have hp : 8 * (k % 8) + 8 ≤ 64 := by omega
  generalize 8 * (k % 8) = p at hp
  have e2 : (18446744073709551616 : Nat) = 2 ^ p * (256 * 2 ^ (56 - p)) := by
    rw [show (256 : Nat) = 2 ^ 8 by decide, ← Nat.pow_add, ← Nat.pow_add, show p + (8 + (56 - p)) = 64 by omega]
  rw [e2, Nat.mod_mul_right_div_self, Nat.mod_mul_right_mod]

/-- The first k bytes stand, the others are 0. -/
def bcells (n k : Nat) : Array Value := ((List.range 32).map fun i => Value.int .u8 (if i < k then (byteOf n i : Int) else 0)).toArray
theorem bcells_zero (n : Nat) : bcells n 0 = ((List.replicate 32 (Value.int .u8 0)).toArray) := by
  unfold bcells
  rfl
theorem bcells_set (n k : Nat) (hk : k < 32) : (bcells n k).setIfInBounds k (.int .u8 (byteOf n k : Int)) = bcells n (k + 1) := by
  unfold bcells
  refine Array.ext (by simp) fun i h1 h2 => ?_
  simp at h1
  rw [Array.getElem_setIfInBounds (by simpa using h1)]
  simp
  by_cases h : k = i
  · subst h
    simp
  · rw [if_neg h]
    have : i < k + 1 ↔ i < k := by omega
    simp only [this]
theorem bcells_get (n k i : Nat) (hi : i < 32) : (bcells n k)[i]? = some (.int .u8 (if i < k then (byteOf n i : Int) else 0)) := by
  unfold bcells
  simp [hi]
theorem run_make_rowN {P : Program} (t e : TypeId) (i : TypeInfo) (z : Value) (ht : P.underlying t = some (.slice e)) (hi : P.info? e = some i) (hz : i.zero = some z)
    (kl kc : IntKind) (n c : Nat) (hnc : n ≤ c) (hbytes : i.bytes * c ≤ 281474976710656) (h63 : c ≤ 9223372036854775807) (w : World) :
    (Instr.makeSlice t (.int kl (n : Int)) (.int kc (c : Int))).run P w = .ok (.slice (some ⟨w.heap.size, 0, none⟩) n c) (w.alloc (.cells (madeCells z.cells (c * i.size)) e)) := by
  have hb : (i.bytes : Int) * (c : Int) ≤ 281474976710656 := by
    have h : ((i.bytes * c : Nat) : Int) ≤ 281474976710656 := by omega
    rwa [Int.natCast_mul] at h
  have hr := run_make (P := P) w t e i z ht hi hz kl kc n c (by omega) (by omega) hb (by omega)
  simp only [Int.toNat_natCast] at hr
  exact hr
theorem make32 (w : World) : (Instr.makeSlice 25 (.int .i64 32) (.int .i64 32)).run Try.prog w = .ok (.slice (some ⟨w.heap.size, 0, none⟩) 32 32) (w.alloc (.cells (bcells 0 0) 5)) := by
  obtain ⟨i0, hi, hz0, hz1, hz2⟩ := info_parts byte_info
  have h := run_make_rowN (P := Try.prog) 25 5 i0 _ Try.underlying25 hi hz0 .i64 .i64 32 32 (by omega) (by rw [hz2]; omega) (by omega) w
  rw [hz1] at h
  have e : madeCells (Value.int .u8 0).cells (32 * 1) = bcells 0 0 := by kernel_rfl
  rw [e] at h
  exact h
theorem bcells_zeros (m n : Nat) : bcells m 0 = bcells n 0 := by rw [bcells_zero, bcells_zero]

set_option maxHeartbeats 2000000 in
theorem bytes_any (n : Nat) (hn : n < top) (w : World) : Calls Try.prog 18 #[.agg (wcells n)] w (NewBytes w (bytesW n)) := by
  have hm := make32
  have hc0 := heap_alloc_new w (.cells (wcells n) 24)
  go_enter Try.func18, Try.ntmps18
  go_wp2
  go_loopw [8] (fun v wr => ∃ k : Nat, k ≤ 32 ∧ v = .int .i64 (k : Int) ∧ wr.heap[w.heap.size]? = some (.cells (wcells n) 24 (0, 0)) ∧ wr.heap[w.heap.size + 1]? = some (.cells (bcells n k) 5 (0, 0)) ∧ Below w.heap.size w wr) (fun v _ => 32 - (RowKit.intOf v).toNat)
  case atStart =>
    refine ⟨0, by omega, rfl, ?_, ?_, ?_⟩
    · rw [Below.heap_alloc _ _ _ (by simp)]
      exact hc0
    · have h := heap_alloc_new (w.alloc (.cells (wcells n) 24)) (.cells (bcells 0 0) 5)
      rw [World.size_alloc] at h
      rw [bcells_zeros n 0]
      exact h
    · exact ((Below.refl _ _).alloc (Nat.le_refl _) _).alloc (by simp) _
  case round =>
    obtain ⟨k, hk, rfl, hcw, hcb, hB⟩ := hrel
    clear hc0 hm
    by_cases hlt : k < 32
    · have hca := cell_of_row _ w.heap.size (k / 8) _ _ _ hcw
      rw [wcells_at n _ (by omega)] at hca
      have hw := word_at n (k / 8)
      unfold word at hw
      have hfb := frozen_of_row wr (w.heap.size + 1) k _ _ hcb
      have hcc := cell_of_row wr (w.heap.size + 1) k _ _ _ hcb
      rw [bcells_get n k k hlt, if_neg (by omega)] at hcc
      have hb := byte_at n k hlt
      have hlb := byteOf_lt n k
      have z1 : ((k : Int) / 8).toNat = k / 8 := by omega
      have z2 : (8 * ((k : Int) % 8)).toNat = 8 * (k % 8) := by omega
      have hv : ((wAt n (k / 8) : Int) / 2 ^ (8 * (k % 8))) % 256 = (byteOf n k : Int) := by
        rw [div_pow_int]
        omega
      have hnew : (wr.setCell ⟨w.heap.size + 1, k, none⟩ (.int .u8 (byteOf n k : Int))).heap[w.heap.size + 1]? = some (.cells (bcells n (k + 1)) 5 (0, 0)) := by
        rw [← bcells_set n k hlt]
        simp [World.setCell, Array.getElem?_modify, hcb]
      have HNEW := Lib.hid hnew
      have HCW := Lib.hid hcw
      clear hnew hcw hcb hb
      go_wp2
      go_roundw
      case rel => exact ⟨k + 1, by omega, by go_num, (heap_setCell_other _ _ _ _ (by simp)).trans HCW.out, HNEW.out, hB.setCell (by simp) _⟩
      case measure => simp [RowKit.intOf]; omega
    · obtain rfl : k = 32 := by omega
      have hlt32 := (Array.getElem?_eq_some_iff.1 hcb).1
      have HCB := Lib.hid hcb
      clear hcb hcw
      go_wp2
      go_ret
      refine ⟨some ⟨w.heap.size + 1, 0, none⟩, 32, (by rw [bytesW_length]; rfl), .inr ⟨w.heap.size + 1, 0, rfl, hlt32, fun j hj => ?_⟩, fun a e => by cases e; simp, hB⟩
      rw [Nat.zero_add, cell_of_row _ _ j _ _ _ HCB.out, bcells_get n 32 j (by rw [bytesW_length] at hj; exact hj), if_pos (by rw [bytesW_length] at hj; exact hj), bytesW_get]
      have := byteOf_lt n j
      rw [UInt8.toNat_ofNat', Nat.mod_eq_of_lt (by omega)]
end Go.Proofs.Ytgmgejjlhlibkaa.Oct
