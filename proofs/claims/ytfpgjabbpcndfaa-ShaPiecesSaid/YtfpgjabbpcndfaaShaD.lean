/- Contract of sha.padding: what follows a message. The message has less than 2^60 bytes. -/
import Derived.Test.YtfpgjabbpcndfaaShaB
namespace Go.Proofs.Ytfpgjabbpcndfaa.Oct
set_option linter.unusedVariables false
set_option linter.unusedSimpArgs false
open Go.Proofs.Ytfpgjabbpcndfaa Go.RowKit Go.Lib

def byteK (n k : Nat) : UInt8 := UInt8.ofNat (8 * n / 2 ^ (8 * k))
def padRow (n p k : Nat) : List UInt8 := (List.range p).map fun i : Nat => if i = 0 then 128 else if p ≤ i + k then byteK n (p - 1 - i) else 0
theorem byteK_int (n k : Nat) : (((byteK n k).toNat : Nat) : Int) = 8 * (n : Int) / 2 ^ (8 * k) % 256 := by
  unfold byteK
  rw [UInt8.toNat_ofNat']
  simp only [Int.natCast_emod, Int.natCast_mul, Int.natCast_pow, Int.natCast_ediv]
  rfl
theorem padRow_length (n p k : Nat) : (padRow n p k).length = p := by simp [padRow]
theorem padRow_get (n p k i : Nat) (h : i < p) : (padRow n p k)[i]? = some (if i = 0 then 128 else if p ≤ i + k then byteK n (p - 1 - i) else 0) := by simp [padRow, h]
theorem padRow_zero (n p : Nat) (h : 9 ≤ p) : (List.replicate p 0).set 0 128 = padRow n p 0 := by
  refine List.ext_getElem? fun i => ?_
  rcases Nat.lt_or_ge i p with hi | hi
  · rw [padRow_get n p 0 i hi]
    by_cases h0 : i = 0
    · subst h0
      rw [List.getElem?_set_self (by simpa using hi), if_pos rfl]
    · rw [List.getElem?_set_ne (by omega), if_neg h0, if_neg (by omega), List.getElem?_replicate, if_pos hi]
  · rw [List.getElem?_eq_none (by simpa using hi), List.getElem?_eq_none (by rw [padRow_length]; exact hi)]
theorem padRow_step (n p k : Nat) (h : 9 ≤ p) (hk : k < 8) : (padRow n p k).set (p - 1 - k) (byteK n k) = padRow n p (k + 1) := by
  refine List.ext_getElem? fun i => ?_
  rcases Nat.lt_or_ge i p with hi | hi
  · rw [padRow_get n p (k + 1) i hi]
    by_cases h0 : p - 1 - k = i
    · rw [h0, List.getElem?_set_self (by rw [padRow_length]; exact hi), if_neg (by omega), if_pos (by omega), show p - 1 - i = k by omega]
    · rw [List.getElem?_set_ne h0, padRow_get n p k i hi]
      by_cases h1 : i = 0
      · rw [if_pos h1, if_pos h1]
      · rw [if_neg h1, if_neg h1]
        by_cases h2 : p ≤ i + k
        · rw [if_pos h2, if_pos (by omega)]
        · rw [if_neg h2, if_neg (by omega)]
  · rw [List.getElem?_eq_none (by rw [List.length_set, padRow_length]; exact hi), List.getElem?_eq_none (by rw [padRow_length]; exact hi)]
theorem padLen_bounds (n : Nat) : 9 ≤ padLen n ∧ padLen n ≤ 72 := by
  unfold padLen
  split <;> omega
theorem padRow_all (n : Nat) : padRow n (padLen n) 8 = padding n := by
  obtain ⟨h1, h2⟩ := padLen_bounds n
  generalize hp : padLen n = p at h1 h2
  unfold padding
  rw [hp]
  refine List.ext_getElem? fun i => ?_
  rcases Nat.lt_or_ge i p with hi | hi
  · rw [padRow_get n p 8 i hi]
    by_cases h0 : i = 0
    · subst h0
      rw [if_pos rfl, List.getElem?_cons_zero]
    · rw [if_neg h0]
      obtain ⟨j, rfl⟩ : ∃ j, i = j + 1 := ⟨i - 1, by omega⟩
      rw [List.getElem?_cons_succ]
      by_cases h3 : p ≤ j + 1 + 8
      · rw [if_pos h3, List.getElem?_append_right (by rw [List.length_replicate]; omega), List.length_replicate, List.getElem?_map, List.getElem?_range (by omega)]
        unfold byteK
        rw [Option.map_some, show 7 - (j - (p - 9)) = p - 1 - (j + 1) by omega]
      · rw [if_neg h3, List.getElem?_append_left (by rw [List.length_replicate]; omega), List.getElem?_replicate, if_pos (by omega)]
  · rw [List.getElem?_eq_none (by rw [padRow_length]; exact hi), List.getElem?_eq_none (by simp; omega)]

theorem arr8_set (l : List UInt8) (i : Nat) (x : UInt8) : (arr8 l).setIfInBounds i (.int .u8 (x.toNat : Int)) = arr8 (l.set i x) := by
  unfold arr8 vals
  simp [List.map_set]
theorem make8 (p : Nat) (hp : p ≤ 1000000) (w : World) : (Instr.makeSlice 22 (.int .i64 (p : Int)) (.int .i64 (p : Int))).run Try.prog w = .ok (.slice (some ⟨w.heap.size, 0, none⟩) p p) (w.alloc (.cells (arr8 (List.replicate p 0)) 5)) := by
  obtain ⟨i0, hi, hz0, hz1, hz2⟩ := info_parts byte_info
  have h := run_make (P := Try.prog) w 22 5 i0 _ Try.underlying22 hi hz0 .i64 .i64 p p (by omega) (by omega) (by rw [hz2]; omega) (by omega)
  rw [h, hz1]
  simp only [Int.toNat_natCast, Nat.mul_one]
  congr 3
  unfold madeCells arr8 vals
  apply Array.ext
  · simp
  · intro j h1 h2
    simp at h1
    simp [Value.cells, Nat.mod_one]
/-- Bytes in memory of the call's own, that fill their slice. -/
def NewFull (w : World) (bs : List UInt8) (e : Ending) (w' : World) : Prop :=
  ∃ A, e = .returned (.slice A bs.length bs.length) ∧ Holds8 w'.heap.size w' A bs ∧ (∀ a, A = some a → w.heap.size ≤ a.block) ∧ Below w.heap.size w w'
theorem newFull_of {w W : World} {g : Nat} {bs : List UInt8} {n : Nat} (hn : bs.length = n) (h : Keeps w [(g, arr8 bs, 5)] W) : NewFull w bs (.returned (.slice (some ⟨g, 0, none⟩) n n)) W :=
  ⟨some ⟨g, 0, none⟩, by rw [hn], .inr ⟨g, 0, rfl, h.lt 0 rfl, fun j hj => by
    rw [h.cell 0 rfl (0 + j), Nat.zero_add, arr8_get bs j hj]
    congr 3
    simp [List.getD, hj]⟩, fun a e => by cases e; exact h.base 0 _ rfl, h.bel⟩

set_option maxRecDepth 100000 in
set_option maxHeartbeats 2000000 in
theorem pad_walk (n p q u : Nat) (hn : n < 1152921504606846976) (hu64 : u < 64) (hq : q + u = 64) (hp9 : 9 ≤ p) (hp72 : p ≤ 72) (hcase : (q < 9 ∧ p = q + 64) ∨ (9 ≤ q ∧ p = q)) (w : World) : Calls Try.prog 27 #[.int .i64 (u : Int), .int .u64 n] w (NewFull w (padRow n p 8)) := by
  have hq2 : (64 : Int) - (u : Int) = (q : Int) := by omega
  have hm := make8 p (by omega)
  have hH := (Keeps.nil w).new (arr8 (List.replicate p 0)) 5
  simp only [List.nil_append] at hH
  have e0 : (arr8 (List.replicate p 0)).setIfInBounds 0 (.int .u8 128) = arr8 (padRow n p 0) := by
    rw [← padRow_zero n p hp9, ← arr8_set]
    rfl
  have hc0 := hH.cell 0 rfl 0
  have hf0 := hH.frozen 0 rfl 0
  rw [arr8_get _ 0 (by simp; omega)] at hc0
  have hH1 := (Keeps.nil w).new ((arr8 (List.replicate p 0)).setIfInBounds 0 (.int .u8 128)) 5
  have hH2 : Keeps w [(w.heap.size, arr8 (padRow n p 0), 5)] (w.alloc (.cells ((arr8 (List.replicate p 0)).setIfInBounds 0 (.int .u8 128)) 5)) := by
    rw [← e0]
    exact hH1
  have hp0 : 0 < p := by omega
  clear hH hH1 e0
  rcases hcase with ⟨hlt, hp⟩ | ⟨hge, hp⟩
  · have hq3 : (q : Int) + 64 = (p : Int) := by omega
    have HP := Lib.hid hp
    clear hp hq
    go_enter Try.func27, Try.ntmps27
    go_wp2
    clear hc0 hf0 hm
    go_loopw [18] (fun i wr => ∃ k : Nat, k ≤ 8 ∧ i = .int .i64 k ∧ Keeps w [(w.heap.size, arr8 (padRow n p k), 5)] wr) (fun i _ => 8 - (intOf i).toNat)
    case atStart => exact ⟨0, Nat.zero_le _, rfl, hH2⟩
    case round =>
      clear hH2
      obtain ⟨k, hk, rfl, hK⟩ := hrel
      by_cases hlt : k < 8
      · have hc := hK.cell 0 rfl (p - 1 - k)
        have hf := hK.frozen 0 rfl (p - 1 - k)
        rw [arr8_get _ _ (by rw [padRow_length]; omega)] at hc
        have hst := padRow_step n p k hp9 hlt
        have HST := Lib.hid hst
        clear hst
        have z1 : ((p : Int) - 1 - (k : Int)).toNat = p - 1 - k := by omega
        have z2 : (0 : Int) ≤ (p : Int) - 1 - (k : Int) := by omega
        have z3 : (p : Int) - 1 - (k : Int) < (p : Int) := by omega
        go_wp2
        go_roundw
        case rel =>
          refine ⟨k + 1, by omega, by go_num, ?_⟩
          have h := hK.setc 0 rfl (p - 1 - k) (.int .u8 (((byteK n k).toNat : Nat) : Int))
          rw [arr8_set, HST.out, byteK_int] at h
          exact h
        case measure => simp [intOf]; omega
      · have h8 : k = 8 := by omega
        have HK := Lib.hid h8
        clear h8
        go_wp2
        go_ret
        have h8 := HK.out
        subst h8
        exact newFull_of (padRow_length _ _ _) hK
  · obtain rfl : q = p := hp.symm
    go_enter Try.func27, Try.ntmps27
    go_wp2
    clear hc0 hf0 hm
    go_loopw [18] (fun i wr => ∃ k : Nat, k ≤ 8 ∧ i = .int .i64 k ∧ Keeps w [(w.heap.size, arr8 (padRow n q k), 5)] wr) (fun i _ => 8 - (intOf i).toNat)
    case atStart => exact ⟨0, Nat.zero_le _, rfl, hH2⟩
    case round =>
      clear hH2
      obtain ⟨k, hk, rfl, hK⟩ := hrel
      by_cases hlt : k < 8
      · have hc := hK.cell 0 rfl (q - 1 - k)
        have hf := hK.frozen 0 rfl (q - 1 - k)
        rw [arr8_get _ _ (by rw [padRow_length]; omega)] at hc
        have hst := padRow_step n q k hp9 hlt
        have HST := Lib.hid hst
        clear hst
        have z1 : ((q : Int) - 1 - (k : Int)).toNat = q - 1 - k := by omega
        have z2 : (0 : Int) ≤ (q : Int) - 1 - (k : Int) := by omega
        have z3 : (q : Int) - 1 - (k : Int) < (q : Int) := by omega
        go_wp2
        go_roundw
        case rel =>
          refine ⟨k + 1, by omega, by go_num, ?_⟩
          have h := hK.setc 0 rfl (q - 1 - k) (.int .u8 (((byteK n k).toNat : Nat) : Int))
          rw [arr8_set, HST.out, byteK_int] at h
          exact h
        case measure => simp [intOf]; omega
      · have h8 : k = 8 := by omega
        have HK := Lib.hid h8
        clear h8
        go_wp2
        go_ret
        have h8 := HK.out
        subst h8
        exact newFull_of (padRow_length _ _ _) hK

theorem padding_any (n : Nat) (hn : n < 1152921504606846976) (w : World) : Calls Try.prog 27 #[.int .i64 ((n % 64 : Nat) : Int), .int .u64 n] w (NewFull w (padding n)) := by
  obtain ⟨h1, h2⟩ := padLen_bounds n
  have h := pad_walk n (padLen n) (64 - n % 64) (n % 64) hn (by omega) (by omega) h1 h2 (by unfold padLen; split <;> omega) w
  rw [padRow_all] at h
  exact h
theorem padding_length (n : Nat) : (padding n).length = padLen n := by rw [← padRow_all, padRow_length]
end Go.Proofs.Ytfpgjabbpcndfaa.Oct
