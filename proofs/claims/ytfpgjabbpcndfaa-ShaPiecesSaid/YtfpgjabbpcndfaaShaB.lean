/- Contract of sha.schedule: a block's words. The block has 64 bytes. -/
import Derived.Test.YtfpgjabbpcndfaaShaA
import Derived.Test.YtfpgjabbpcndfaaByt
import Derived.Deep.QuietTactic
import Derived.BigQuiet
import Derived.StillTailTactics
import Derived.LoopTactic
namespace Go.Proofs.Ytfpgjabbpcndfaa.Oct
set_option linter.unusedVariables false
set_option linter.unusedSimpArgs false
open Go.Proofs.Ytfpgjabbpcndfaa Go.RowKit Go.Lib

def arr8 (bs : List UInt8) : Array Value := (vals bs).toArray
theorem arr8_size (bs : List UInt8) : (arr8 bs).size = bs.length := by simp [arr8, vals_length]
theorem arr8_get (bs : List UInt8) (i : Nat) (h : i < bs.length) : (arr8 bs)[i]? = some (.int .u8 ((bs.getD i 0).toNat : Int)) := by
  unfold arr8
  simp [vals, List.getD, h]

/-- Word i as far as the first k bytes say. -/
def part4 (b : List UInt8) (k i : Nat) : Nat := (((b.take k).drop (4 * i)).take 4).foldl (fun a x => a * 256 + x.toNat) 0
def row1 (b : List UInt8) (k : Nat) : List Nat := (List.range 64).map (part4 b k)
theorem row1_length (b : List UInt8) (k : Nat) : (row1 b k).length = 64 := by rw [row1, List.length_map, List.length_range]
theorem row1_get (b : List UInt8) (k i : Nat) (h : i < 64) : (row1 b k).getD i 0 = part4 b k i := by simp [row1, List.getD, h]
theorem part4_other (b : List UInt8) (k i : Nat) (hk : k < b.length) (h : i ≠ k / 4) : part4 b (k + 1) i = part4 b k i := by
  unfold part4
  rw [List.take_succ_eq_append_getElem hk]
  rcases Nat.lt_or_ge k (4 * i) with h1 | h1
  · rw [List.drop_of_length_le (by simp; omega), List.drop_of_length_le (by simp; omega)]
  · rw [List.drop_append_of_le_length (by simp; omega), List.take_append_of_le_length (by simp; omega)]
theorem part4_same (b : List UInt8) (k : Nat) (hk : k < b.length) : part4 b (k + 1) (k / 4) = part4 b k (k / 4) * 256 + (b.getD k 0).toNat := by
  unfold part4
  rw [List.take_succ_eq_append_getElem hk, List.drop_append_of_le_length (by simp; omega)]
  have hl : ((b.take k).drop (4 * (k / 4))).length ≤ 3 := by simp; omega
  generalize (b.take k).drop (4 * (k / 4)) = q at hl ⊢
  rw [List.take_of_length_le (l := q ++ [b[k]]) (by simp; omega), List.take_of_length_le (l := q) (by omega), List.foldl_append]
  simp [List.getD, hk]
theorem fold256 (l : List UInt8) : ∀ a, l.foldl (fun a x => a * 256 + x.toNat) a < (a + 1) * 256 ^ l.length := by
  induction l with
  | nil => intro a; simp
  | cons x l ih =>
    intro a
    rw [List.foldl_cons, List.length_cons]
    have e : (a + 1) * 256 ^ (l.length + 1) = ((a + 1) * 256) * 256 ^ l.length := by rw [Nat.pow_succ, Nat.mul_comm (256 ^ l.length) 256, ← Nat.mul_assoc]
    rw [e]
    have h1 := ih (a * 256 + x.toNat)
    have hx := UInt8.toNat_lt x
    refine Nat.lt_of_lt_of_le h1 (Nat.mul_le_mul_right _ ?_)
    omega
theorem part4_lt (b : List UInt8) (k : Nat) (hk : k < b.length) : part4 b k (k / 4) < 16777216 := by
  unfold part4
  rw [List.take_of_length_le (by simp; omega)]
  have h := fold256 ((b.take k).drop (4 * (k / 4))) 0
  have hl : ((b.take k).drop (4 * (k / 4))).length ≤ 3 := by simp; omega
  have := Nat.pow_le_pow_right (show 0 < 256 by decide) hl
  omega
theorem row1_step (b : List UInt8) (k : Nat) (hb : b.length = 64) (hk : k < 64) : (row1 b k).set (k / 4) (part4 b k (k / 4) * 256 + (b.getD k 0).toNat) = row1 b (k + 1) := by
  refine List.ext_getElem (by rw [List.length_set, row1_length, row1_length]) fun i h1 h2 => ?_
  have hi : i < 64 := by rwa [row1_length] at h2
  rw [List.getElem_set]
  have e : (row1 b (k + 1))[i] = part4 b (k + 1) i := by simp [row1]
  refine Eq.trans ?_ e.symm
  by_cases h : k / 4 = i
  · rw [if_pos h, ← h, part4_same b k (by omega)]
  · rw [if_neg h, part4_other b k i (by omega) (Ne.symm h)]
    simp [row1]
theorem part4_word (b : List UInt8) (i : Nat) (hb : b.length = 64) (hi : i < 16) : part4 b 64 i = word4 b i := by
  unfold part4 word4
  have e0 : b.take 64 = b := List.take_of_length_le (by omega)
  rw [e0]
  have g : ∀ j, j < 4 → b.getD (4 * i + j) 0 = b[4 * i + j]?.getD 0 := fun j _ => rfl
  rw [List.drop_eq_getElem_cons (show 4 * i < b.length by omega), List.drop_eq_getElem_cons (show 4 * i + 1 < b.length by omega), List.drop_eq_getElem_cons (show 4 * i + 1 + 1 < b.length by omega), List.drop_eq_getElem_cons (show 4 * i + 1 + 1 + 1 < b.length by omega)]
  simp only [List.take_succ_cons, List.take_zero, List.foldl_cons, List.foldl_nil]
  simp [List.getD, show 4 * i < b.length by omega, show 4 * i + 1 < b.length by omega, show 4 * i + 2 < b.length by omega, show 4 * i + 3 < b.length by omega]
def row2 (b : List UInt8) (j : Nat) : List Nat := sch b j ++ List.replicate (48 - j) 0
theorem row2_length (b : List UInt8) (j : Nat) (h : j ≤ 48) : (row2 b j).length = 64 := by
  rw [row2, List.length_append, sch_length, List.length_replicate]
  omega
theorem row1_all (b : List UInt8) (hb : b.length = 64) : row1 b 64 = row2 b 0 := by
  refine List.ext_getElem (by rw [row1_length, row2_length _ _ (by omega)]) fun i h1 h2 => ?_
  rw [row1_length] at h1
  have e : (row1 b 64)[i]'(by rw [row1_length]; exact h1) = part4 b 64 i := by simp [row1]
  rw [e]
  unfold row2 sch
  rcases Nat.lt_or_ge i 16 with h | h
  · rw [List.getElem_append_left (by simpa using h), part4_word b i hb h]
    simp
  · rw [List.getElem_append_right (by simpa using h)]
    have : (b.take 64).drop (4 * i) = [] := List.drop_of_length_le (by simp; omega)
    rw [List.getElem_replicate]
    unfold part4
    rw [this]
    rfl
theorem row2_step (b : List UInt8) (j : Nat) (h : j < 48) : (row2 b j).set (j + 16) (nextW (sch b j) j) = row2 b (j + 1) := by
  unfold row2
  rw [List.set_append_right _ _ (by rw [sch_length]; omega), sch_length, show j + 16 - (16 + j) = 0 by omega, show 48 - j = (48 - (j + 1)) + 1 by omega, List.replicate_succ, List.set_cons_zero]
  conv => rhs; rw [sch]
  simp
theorem row2_get (b : List UInt8) (j i : Nat) (h : i < 16 + j) : (row2 b j).getD i 0 = (sch b j).getD i 0 := by
  unfold row2
  have : i < (sch b j).length := by rw [sch_length]; exact h
  simp [List.getD, List.getElem?_append_left this]
theorem row2_all (b : List UInt8) : row2 b 48 = sch b 48 := by
  unfold row2
  rw [Nat.sub_self, List.replicate_zero, List.append_nil]
theorem xor_lt (a b : Nat) (ha : a < 4294967296) (hb : b < 4294967296) : a ^^^ b < 4294967296 := Nat.xor_lt_two_pow (n := 32) ha hb
theorem and_lt (a b : Nat) (ha : a < 4294967296) : a &&& b < 4294967296 := Nat.lt_of_le_of_lt Nat.and_le_left ha
theorem s0_lt (x : Nat) (h : x < 4294967296) : s0 x < 4294967296 := xor_lt _ _ (xor_lt _ _ (rot_lt _ _ h) (rot_lt _ _ h)) (by omega)
theorem s1_lt (x : Nat) (h : x < 4294967296) : s1 x < 4294967296 := xor_lt _ _ (xor_lt _ _ (rot_lt _ _ h) (rot_lt _ _ h)) (by omega)
theorem s0_bits (x : Nat) (h : x < 4294967296) : bits .xor .u32 (bits .xor .u32 (rot x 7 : Int) (rot x 18 : Int)) ((x : Int) / 8) = (s0 x : Int) := by
  rw [u32_xor_nat _ _ (rot_lt _ _ h) (rot_lt _ _ h), show (x : Int) / 8 = ((x / 8 : Nat) : Int) by omega, u32_xor_nat _ _ (xor_lt _ _ (rot_lt _ _ h) (rot_lt _ _ h)) (by omega)]
  rfl
theorem s1_bits (x : Nat) (h : x < 4294967296) : bits .xor .u32 (bits .xor .u32 (rot x 17 : Int) (rot x 19 : Int)) ((x : Int) / 1024) = (s1 x : Int) := by
  rw [u32_xor_nat _ _ (rot_lt _ _ h) (rot_lt _ _ h), show (x : Int) / 1024 = ((x / 1024 : Nat) : Int) by omega, u32_xor_nat _ _ (xor_lt _ _ (rot_lt _ _ h) (rot_lt _ _ h)) (by omega)]
  rfl
theorem row1_zero (b : List UInt8) : row1 b 0 = zero64 := by
  refine List.ext_getElem (by rw [row1_length, zero64_length]) fun i h1 h2 => ?_
  have h0 : ∀ x ∈ zero64, x = 0 := fun x hx => (List.mem_replicate.1 hx).2
  refine Eq.trans ?_ (h0 _ (List.getElem_mem _)).symm
  simp [row1, part4]
theorem word4_lt (b : List UInt8) (i : Nat) : word4 b i < 4294967296 := by
  unfold word4
  have h0 := UInt8.toNat_lt (b.getD (4 * i) 0)
  have h1 := UInt8.toNat_lt (b.getD (4 * i + 1) 0)
  have h2 := UInt8.toNat_lt (b.getD (4 * i + 2) 0)
  have h3 := UInt8.toNat_lt (b.getD (4 * i + 3) 0)
  omega
theorem sch_lt (b : List UInt8) (n : Nat) : ∀ x ∈ sch b n, x < 4294967296 := by
  induction n with
  | zero =>
    intro x hx
    unfold sch at hx
    obtain ⟨i, _, rfl⟩ := List.mem_map.1 hx
    exact word4_lt b i
  | succ n ih =>
    intro x hx
    unfold sch at hx
    rcases List.mem_append.1 hx with h | h
    · exact ih x h
    · rw [List.mem_singleton.1 h]
      exact Nat.mod_lt _ (by decide)
theorem getD_lt {l : List Nat} (h : ∀ x ∈ l, x < 4294967296) (i : Nat) : l.getD i 0 < 4294967296 := by
  rcases Nat.lt_or_ge i l.length with hi | hi
  · have : l.getD i 0 = l[i] := by simp [List.getD, hi]
    rw [this]
    exact h _ (List.getElem_mem _)
  · simp [List.getD, hi]

def boxes1 (B : Nat) (b : List UInt8) (r : List Nat) : List (Nat × Array Value × TypeId) := [(B, arr8 b, 47), (B + 1, vals32 zero64, 57), (B + 1 + 1, vals32 r, 57)]

theorem info8x (b : List UInt8) (h : b.length = 64) : (Try.prog.info? 47).map (·.size) = some (arr8 b).size := by
  rw [arr8_size, h]
  kernel_rfl

set_option maxRecDepth 100000 in
set_option maxHeartbeats 2000000 in
theorem schedule_any (b : List UInt8) (hb : b.length = 64) (w : World) : Calls Try.prog 32 #[.agg (arr8 b)] w fun e w' => e = .returned (.agg (vals32 (sch b 48))) ∧ Below w.heap.size w w' := by
  have HB := Lib.hid hb
  have hH : Keeps w (boxes1 w.heap.size b zero64) (((w.alloc (.cells (arr8 b) 47)).alloc (.cells (vals32 zero64) 57)).alloc (.cells (vals32 zero64) 57)) := by
    have := (((Keeps.nil w).new (arr8 b) 47).new (vals32 zero64) 57).new (vals32 zero64) 57
    simpa [World.size_alloc, boxes1] using this
  have hbox : (w.alloc (.cells (arr8 b) 47)).heap[w.heap.size]? = some (.cells (arr8 b) 47) := heap_alloc_new _ _
  clear hb
  go_enter Try.func32, Try.ntmps32
  go_wp2_with (first | (refine wpList_alloc rfl 57 rfl (z := vals32 zero64) (by kernel_rfl) ?_) | (refine wpList_load_row rfl 47 _ rfl w.heap.size rfl 47 (arr8 b) (0, 0) _ (hH.get 0 rfl) Try.underlying47 rfl (info8x b HB.out) ?_))
  clear hbox
  go_loopw [12] (fun i wr => ∃ k : Nat, k ≤ 64 ∧ i = .int .i64 k ∧ Keeps w (boxes1 w.heap.size b (row1 b k)) wr) (fun i _ => 64 - (intOf i).toNat)
  case atStart => exact ⟨0, Nat.zero_le _, rfl, by rw [row1_zero]; exact hH⟩
  case round =>
    obtain ⟨k, hk, rfl, hK⟩ := hrel
    by_cases hlt : k < 64
    · have hx := arr8_get b k (by rw [HB.out]; exact hlt)
      have hp := part4_lt b k (by rw [HB.out]; exact hlt)
      have hx8 := UInt8.toNat_lt (b.getD k 0)
      have hst := row1_step b k HB.out hlt
      have hc := hK.cell 2 rfl (k / 4)
      have hf := hK.frozen 2 rfl (k / 4)
      rw [vals32_get _ _ (by rw [row1_length]; omega), row1_get _ _ _ (by omega)] at hc
      unfold v32 at hc
      have hix := run_index_arr (P := Try.prog) Try.underlying47 Try.underlying5 (by kernel_rfl) hlt hx
      generalize part4 b k (k / 4) = p at hp hst hc
      generalize (b.getD k 0).toNat = x at hx8 hst hix
      clear hx
      have HST := Lib.hid hst
      clear hst
      have z1 : ((k : Int) / 4).toNat = k / 4 := by omega
      have z2 : (0 : Int) ≤ (k : Int) / 4 := by omega
      have z3 : (k : Int) / 4 < 64 := by omega
      have hv : bits .or .u32 ((p : Int) * 256) (x : Int) = ((p * 256 + x : Nat) : Int) := by
        rw [show (p : Int) * 256 = ((p * 256 : Nat) : Int) by omega, u32_or_nat _ _ (by omega) (by omega), nat_join 8 (p * 256) x (by omega) (by omega)]
      go_wp2
      go_roundw
      case rel =>
        refine ⟨k + 1, by omega, by go_num, ?_⟩
        have h := hK.setc 2 rfl (k / 4) (v32 (p * 256 + x))
        rw [vals32_set, HST.out] at h
        exact h
      case measure => simp [intOf]; omega
    · have hk64 : k = 64 := by omega
      clear hH
      have hK0 : Keeps w (boxes1 w.heap.size b (row2 b 0)) wr := by rw [← row1_all b HB.out, ← hk64]; exact hK
      clear hK hk64
      go_wp2
      clear hlt hk
      obtain ⟨kk, hkk⟩ : ∃ kk : Int, kk = (k : Int) := ⟨_, rfl⟩
      rw [← hkk]
      clear hkk
      obtain ⟨wo, rfl⟩ : ∃ wo : World, wo = wr := ⟨_, rfl⟩
      go_loopw [28] (fun i wr => ∃ k : Nat, k ≤ 48 ∧ i = .int .i64 k ∧ Keeps w (boxes1 w.heap.size b (row2 b k)) wr) (fun i _ => 48 - (intOf i).toNat)
      case atStart => exact ⟨0, Nat.zero_le _, rfl, hK0⟩
      case round =>
        clear hK0
        obtain ⟨k, hk, rfl, hK⟩ := hrel
        by_cases hlt : k < 48
        · have hall := sch_lt b k
          have g : ∀ i, i < 16 + k → wr.cell? ⟨w.heap.size + 1 + 1, i, none⟩ = some (.int .u32 (((sch b k).getD i 0 : Nat) : Int)) := fun i hi => by
            have := hK.cell 2 rfl i
            rw [vals32_get _ _ (by rw [row2_length _ _ hk]; omega), row2_get _ _ _ hi] at this
            exact this
          have g0 := g k (by omega)
          have g1 := g (k + 1) (by omega)
          have g9 := g (k + 9) (by omega)
          have g14 := g (k + 14) (by omega)
          have hf := hK.frozen 2 rfl (k + 16)
          have hg := hK.cell 2 rfl (k + 16)
          rw [vals32_get _ _ (by rw [row2_length _ _ hk]; omega)] at hg
          have hst := row2_step b k hlt
          unfold nextW at hst
          have l0 := getD_lt hall k
          have l1 := getD_lt hall (k + 1)
          have l9 := getD_lt hall (k + 9)
          have l14 := getD_lt hall (k + 14)
          clear g hall
          unfold v32 at hg
          generalize (row2 b k).getD (k + 16) 0 = y at hg
          generalize (sch b k).getD k 0 = x0 at g0 hst l0
          generalize (sch b k).getD (k + 1) 0 = x1 at g1 hst l1
          generalize (sch b k).getD (k + 9) 0 = x9 at g9 hst l9
          generalize (sch b k).getD (k + 14) 0 = x14 at g14 hst l14
          have HST := Lib.hid hst
          clear hst
          have z1 : IntKind.i64.wrap ((k : Int) + 1) = (k : Int) + 1 := IntWalk.i64_in _ (by omega)
          have z14 : IntKind.i64.wrap ((k : Int) + 14) = (k : Int) + 14 := IntWalk.i64_in _ (by omega)
          have z9 : IntKind.i64.wrap ((k : Int) + 9) = (k : Int) + 9 := IntWalk.i64_in _ (by omega)
          have z16 : IntKind.i64.wrap ((k : Int) + 16) = (k : Int) + 16 := IntWalk.i64_in _ (by omega)
          have y1 : ((k : Int) + 1).toNat = k + 1 := by omega
          have y9 : ((k : Int) + 9).toNat = k + 9 := by omega
          have y14 : ((k : Int) + 14).toNat = k + 14 := by omega
          have y16 : ((k : Int) + 16).toNat = k + 16 := by omega
          have x1a : (0 : Int) ≤ (k : Int) + 1 := by omega
          have x9a : (0 : Int) ≤ (k : Int) + 9 := by omega
          have x14a : (0 : Int) ≤ (k : Int) + 14 := by omega
          have x16a : (0 : Int) ≤ (k : Int) + 16 := by omega
          have x1b : (k : Int) + 1 < 64 := by omega
          have x9b : (k : Int) + 9 < 64 := by omega
          have x14b : (k : Int) + 14 < 64 := by omega
          have x16b : (k : Int) + 16 < 64 := by omega
          have xk : (k : Int) < 64 := by omega
          have xn : k < 64 := by omega
          go_wp2
          go_quiet (fail)
          have e46 := s0_bits x1 l1
          have e54 := s1_bits x14 l14
          go_wp2_with (go_at_call 34; refine (turned_z _ _ (by assumption) (by omega) (by omega) _).mono ?_; rintro e w' ⟨rfl, rfl⟩)
          have k0 := s0_lt x1 l1
          have k1 := s1_lt x14 l14
          generalize s0 x1 = a0 at *
          generalize s1 x14 = a1 at *
          clear e46 e54
          refine wp_region_still_tail 15 (by kernel_rfl) (by kernel_rfl) ?_
          simp only [List.take_succ_cons, List.take_zero, List.drop_succ_cons, List.drop_zero]
          change wpStill _ _ (World.drew _) (fun a' => wpList _ _ _ _ a' (World.drew _)) _ _
          repeat still_step
          refine wpStill_nil ?_
          go_wp2
          go_roundw
          case rel =>
            refine ⟨k + 1, by omega, by go_num, ?_⟩
            have h := (hK.drewN (nq + 1)).setc 2 rfl (k + 16) (v32 ((x0 + a0 + x9 + a1) % 4294967296))
            rw [vals32_set, HST.out] at h
            exact h
          case measure => simp [intOf]; omega
        · obtain rfl : k = 48 := by omega
          clear hlt hk
          go_wp2_with (first | (refine wpList_load_row rfl 57 _ rfl (w.heap.size + 1 + 1) rfl 57 (vals32 (row2 b 48)) (0, 0) _ (hK.get 2 rfl) Try.underlying57 rfl (info64 _ (row2_length b 48 (Nat.le_refl _))) ?_) | (refine wpList_put hK 1 rfl 57 _ _ rfl rfl rfl rfl (info64 _ (row2_length b 48 (Nat.le_refl _))) (by rw [vals32_size, vals32_size, zero64_length, row2_length b 48 (Nat.le_refl _)]) (one32 _) ?_; clear hK; intro W1 hK))
          refine bodyPost_ret (v := .agg (vals32 (row2 b 48))) ?_ rfl ⟨by rw [row2_all], hK.bel⟩
          exact results_cell_row rfl _ _ (w.heap.size + 1) 57 (vals32 (row2 b 48)) (0, 0) _ rfl (hK.get 1 rfl) Try.underlying57 rfl (info64 _ (row2_length b 48 (Nat.le_refl _)))
end Go.Proofs.Ytfpgjabbpcndfaa.Oct
