/- Contract of sha.mixed: the state behind a block. The block has 64 bytes, the state's words are below 2^32. -/
import Derived.Test.YtfpgjabbpcndfaaShaB
namespace Go.Proofs.Ytfpgjabbpcndfaa.Oct
set_option linter.unusedVariables false
set_option linter.unusedSimpArgs false
open Go.Proofs.Ytfpgjabbpcndfaa Go.RowKit Go.Lib

def okSt (s : St) : Prop := s.a < 4294967296 ∧ s.b < 4294967296 ∧ s.c < 4294967296 ∧ s.d < 4294967296 ∧ s.e < 4294967296 ∧ s.f < 4294967296 ∧ s.g < 4294967296 ∧ s.h < 4294967296
theorem okSt_rnd (s : St) (k w : Nat) (h : okSt s) : okSt (rnd s k w) := by
  obtain ⟨ha, hb, hc, hd, he, hf, hg, hh⟩ := h
  exact ⟨Nat.mod_lt _ (by decide), ha, hb, hc, Nat.mod_lt _ (by decide), he, hf, hg⟩
theorem okSt_rnds (s : St) (ws : List Nat) (n : Nat) (h : okSt s) : okSt (rnds s ws n) := by
  induction n with
  | zero => exact h
  | succ n ih => exact okSt_rnd _ _ _ ih
theorem okSt_add8 (s t : St) : okSt (add8 s t) := by
  refine ⟨?_, ?_, ?_, ?_, ?_, ?_, ?_, ?_⟩ <;> exact Nat.mod_lt _ (by decide)
theorem okSt_squ : okSt squ := by unfold okSt squ; decide
theorem okSt_comp (s : St) (b : List UInt8) : okSt (comp s b) := okSt_add8 _ _
theorem t1_lt (x : Nat) (h : x < 4294967296) : t1 x < 4294967296 := xor_lt _ _ (xor_lt _ _ (rot_lt _ _ h) (rot_lt _ _ h)) (rot_lt _ _ h)
theorem t0_lt (x : Nat) (h : x < 4294967296) : t0 x < 4294967296 := xor_lt _ _ (xor_lt _ _ (rot_lt _ _ h) (rot_lt _ _ h)) (rot_lt _ _ h)
theorem t1_bits (x : Nat) (h : x < 4294967296) : bits .xor .u32 (bits .xor .u32 (rot x 6 : Int) (rot x 11 : Int)) (rot x 25 : Int) = (t1 x : Int) := by
  rw [u32_xor_nat _ _ (rot_lt _ _ h) (rot_lt _ _ h), u32_xor_nat _ _ (xor_lt _ _ (rot_lt _ _ h) (rot_lt _ _ h)) (rot_lt _ _ h)]
  rfl
theorem t0_bits (x : Nat) (h : x < 4294967296) : bits .xor .u32 (bits .xor .u32 (rot x 2 : Int) (rot x 13 : Int)) (rot x 22 : Int) = (t0 x : Int) := by
  rw [u32_xor_nat _ _ (rot_lt _ _ h) (rot_lt _ _ h), u32_xor_nat _ _ (xor_lt _ _ (rot_lt _ _ h) (rot_lt _ _ h)) (rot_lt _ _ h)]
  rfl
theorem maj_lt (a b c : Nat) (ha : a < 4294967296) (hb : b < 4294967296) : maj a b c < 4294967296 := xor_lt _ _ (xor_lt _ _ (and_lt _ _ ha) (and_lt _ _ ha)) (and_lt _ _ hb)
theorem maj_bits (a b c : Nat) (ha : a < 4294967296) (hb : b < 4294967296) (hc : c < 4294967296) : bits .xor .u32 (bits .xor .u32 (bits .and .u32 (a : Int) (b : Int)) (bits .and .u32 (a : Int) (c : Int))) (bits .and .u32 (b : Int) (c : Int)) = (maj a b c : Int) := by
  rw [u32_and_nat _ _ ha hb, u32_and_nat _ _ ha hc, u32_and_nat _ _ hb hc, u32_xor_nat _ _ (and_lt _ _ ha) (and_lt _ _ ha), u32_xor_nat _ _ (xor_lt _ _ (and_lt _ _ ha) (and_lt _ _ ha)) (and_lt _ _ hb)]
  rfl
theorem ch_lt (e f g : Nat) (he : e < 4294967296) : ch e f g < 4294967296 := xor_lt _ _ (and_lt _ _ he) (and_lt _ _ (by omega))

theorem not32 (e : Nat) (he : e < 4294967296) : 4294967295 ^^^ e = 4294967295 - e := by
  have h := congrArg BitVec.toNat (BitVec.allOnes_xor (x := BitVec.ofNat 32 e))
  rw [BitVec.toNat_xor, BitVec.toNat_allOnes, BitVec.toNat_not, BitVec.toNat_ofNat, Nat.mod_eq_of_lt (by simpa using he)] at h
  simpa using h
theorem ch_bits (e f g : Nat) (he : e < 4294967296) (hf : f < 4294967296) (hg : g < 4294967296) :
    bits .xor .u32 (bits .and .u32 (e : Int) (f : Int)) (bits .and .u32 (bits .xor .u32 (if IntKind.u32.signed = true then -1 else IntKind.u32.max) (e : Int)) (g : Int)) = (ch e f g : Int) := by
  have h0 : (if IntKind.u32.signed = true then -1 else IntKind.u32.max : Int) = ((4294967295 : Nat) : Int) := by rfl
  rw [h0, u32_xor_nat _ _ (by omega) he, not32 e he, u32_and_nat _ _ he hf, u32_and_nat _ _ (by omega) hg, u32_xor_nat _ _ (and_lt _ _ he) (and_lt _ _ (by omega))]
  rfl
theorem v32_new (h x y z u t m : Nat) (r : Nat) (hr : r = ((h + x + y + z + u) % 4294967296 + (t + m) % 4294967296) % 4294967296) :
    Value.int .u32 (((((h : Int) + (x : Int) + (y : Int) + (z : Int) + (u : Int)) % 4294967296 + ((t : Int) + (m : Int)) % 4294967296) % 4294967296 : Int)) = Value.int .u32 (r : Int) := by
  subst hr
  congr 1
theorem v32_newe (h x y z u d : Nat) {r : Nat} (hr : r = (d + (h + x + y + z + u) % 4294967296) % 4294967296) :
    Value.int .u32 ((((d : Int) + ((h : Int) + (x : Int) + (y : Int) + (z : Int) + (u : Int)) % 4294967296) % 4294967296 : Int)) = Value.int .u32 (r : Int) := by
  subst hr
  congr 1
def zeroSt : St := ⟨0, 0, 0, 0, 0, 0, 0, 0⟩
def boxes2 (B : Nat) (s : St) (b : List UInt8) (bk : Nat) (br : Nat) (ws : List Nat) : List (Nat × Array Value × TypeId) :=
  [(B, stc s, 45), (B + 1, arr8 b, 47), (B + 1 + 1, stc zeroSt, 45), (bk, vals32 ws, 57), (br, vals32 cub, 57)]

/-- The state's words, the first j of them with the others' added. -/
def mixRow (s t : St) (j : Nat) : List Nat := (List.range 8).map fun i => if i < j then ((words s).getD i 0 + (words t).getD i 0) % 4294967296 else (words s).getD i 0
theorem mixRow_length (s t : St) (j : Nat) : (mixRow s t j).length = 8 := by simp [mixRow]
theorem mixRow_get (s t : St) (j : Nat) (h : j < 8) : (mixRow s t j).getD j 0 = (words s).getD j 0 := by simp [mixRow, List.getD, h]
theorem mixRow_step (s t : St) (j : Nat) (h : j < 8) : (mixRow s t j).set j (((words s).getD j 0 + (words t).getD j 0) % 4294967296) = mixRow s t (j + 1) := by
  refine List.ext_getElem (by rw [List.length_set, mixRow_length, mixRow_length]) fun i h1 h2 => ?_
  have hi : i < 8 := by rwa [mixRow_length] at h2
  rw [List.getElem_set]
  have e : (mixRow s t (j + 1))[i] = if i < j + 1 then ((words s).getD i 0 + (words t).getD i 0) % 4294967296 else (words s).getD i 0 := by simp [mixRow]
  have e2 : (mixRow s t j)[i]'(by rw [mixRow_length]; exact hi) = if i < j then ((words s).getD i 0 + (words t).getD i 0) % 4294967296 else (words s).getD i 0 := by simp [mixRow]
  refine Eq.trans ?_ e.symm
  by_cases hq : j = i
  · subst hq
    rw [if_pos rfl, if_pos (by omega)]
  · rw [if_neg hq, e2]
    by_cases hl : i < j
    · rw [if_pos hl, if_pos (by omega)]
    · rw [if_neg hl, if_neg (by omega)]
theorem mixRow_all (s t : St) : mixRow s t 8 = words (add8 s t) := rfl
theorem words_lt (s : St) (h : okSt s) (j : Nat) : (words s).getD j 0 < 4294967296 := by
  obtain ⟨ha, hb, hc, hd, he, hf, hg, hh⟩ := h
  refine getD_lt (fun x hx => ?_) j
  simp only [words, List.mem_cons, List.not_mem_nil, or_false] at hx
  rcases hx with rfl | rfl | rfl | rfl | rfl | rfl | rfl | rfl <;> assumption
def boxes3 (B : Nat) (r : List Nat) (b : List UInt8) (bk br : Nat) (ws : List Nat) : List (Nat × Array Value × TypeId) :=
  [(B, vals32 r, 45), (B + 1, arr8 b, 47), (B + 1 + 1, stc zeroSt, 45), (bk, vals32 ws, 57), (br, vals32 cub, 57)]
theorem info8y (l : List Nat) (h : l.length = 8) : (Try.prog.info? 45).map (·.size) = some (vals32 l).size := by
  rw [vals32_size, h]
  kernel_rfl
theorem size8y (l : List Nat) (h : l.length = 8) : (stc zeroSt).size = (vals32 l).size := by
  rw [vals32_size, h]
  rfl
theorem cub_lt : ∀ x ∈ cub, x < 4294967296 := by decide +kernel
theorem size_sch (b : List UInt8) : (vals32 zero64).size = (vals32 (sch b 48)).size := by rw [vals32_size, vals32_size, zero64_length, sch_length]
theorem size_cub : (vals32 zero64).size = (vals32 cub).size := by rw [vals32_size, vals32_size, zero64_length, cub_length]

set_option maxRecDepth 100000 in
set_option maxHeartbeats 2000000 in
theorem mixed_any (s : St) (hs : okSt s) (b : List UInt8) (hb : b.length = 64) (w : World) : Calls Try.prog 30 #[.agg (stc s), .agg (arr8 b)] w fun e w' => e = .returned (.agg (stc (comp s b))) ∧ Below w.heap.size w w' := by
  have HB := Lib.hid hb
  have HS := Lib.hid hs
  have hH := ((Keeps.nil w).new (stc s) 45).new (arr8 b) 47
  have hZ := hH.new (stc zeroSt) 45
  rw [World.size_alloc, World.size_alloc] at hZ
  rw [World.size_alloc] at hZ hH
  clear hb hs hH
  have CS := Lib.hid (schedule_any b HB.out)
  have CC := Lib.hid cubes_any
  go_enter Try.func30, Try.ntmps30
  go_wp2_with (first | (refine wpList_alloc rfl 45 rfl (z := stc zeroSt) (by kernel_rfl) ?_; try simp only [World.size_alloc]) | (refine wpList_alloc rfl 57 rfl (z := vals32 zero64) (by kernel_rfl) ?_; try simp only [World.size_alloc]) | (refine wpList_load_row rfl 47 _ rfl (w.heap.size + 1) rfl 47 (arr8 b) (0, 0) _ (hZ.get 1 rfl) Try.underlying47 rfl (info8x b HB.out) ?_) | (go_at_call 32; with_reducible refine (CS.out _).mono ?_; rintro e W1 ⟨rfl, hB⟩; replace hZ := hZ.call hB; clear hB) | (go_at_call 33; with_reducible refine (CC.out _).mono ?_; rintro e W1 ⟨rfl, hB⟩; replace hZ := hZ.call hB; clear hB) | (refine wpList_fill2 hZ rfl 57 (.tmp 5) (.tmp 23) rfl rfl rfl (info64 _ (sch_length b 48)) (size_sch b) (one32 _) ?_; clear hZ; intro W2 hZ) | (refine wpList_put hZ 4 rfl 57 (.tmp 6) (.tmp 24) rfl rfl rfl rfl (info64 _ cub_length) size_cub (one32 _) ?_; clear hZ; intro W3 hZ))
  have hZ2 : Keeps w (boxes2 w.heap.size s b W1.heap.size (W1.heap.size + 1) (sch b 48)) W3 := hZ
  clear hZ
  have q0 := hZ2.cell 0 rfl 0
  have q1 := hZ2.cell 0 rfl 1
  have q2 := hZ2.cell 0 rfl 2
  have q3 := hZ2.cell 0 rfl 3
  have q4 := hZ2.cell 0 rfl 4
  have q5 := hZ2.cell 0 rfl 5
  have q6 := hZ2.cell 0 rfl 6
  have q7 := hZ2.cell 0 rfl 7
  simp only [stc, List.getElem?_toArray, List.getElem?_cons_zero, List.getElem?_cons_succ, v32] at q0 q1 q2 q3 q4 q5 q6 q7
  go_frame
  go_quiet (fail)
  go_wp2
  clear q0 q1 q2 q3 q4 q5 q6 q7
  have hZ3 := hZ2.drewN nq
  clear hZ2
  generalize W3.drewN nq = W4 at *
  go_loopw [7, 8, 9, 10, 11, 12, 13, 14, 41] (fun xa xb xc xd xe xf xg xh i wr => ∃ k : Nat, k ≤ 64 ∧ i = .int .i64 k ∧ (xa = .int .u32 ((rnds s (sch b 48) k).a : Int) ∧ xb = .int .u32 ((rnds s (sch b 48) k).b : Int) ∧ xc = .int .u32 ((rnds s (sch b 48) k).c : Int) ∧ xd = .int .u32 ((rnds s (sch b 48) k).d : Int) ∧ xe = .int .u32 ((rnds s (sch b 48) k).e : Int) ∧ xf = .int .u32 ((rnds s (sch b 48) k).f : Int) ∧ xg = .int .u32 ((rnds s (sch b 48) k).g : Int) ∧ xh = .int .u32 ((rnds s (sch b 48) k).h : Int)) ∧ Keeps w (boxes2 w.heap.size s b W1.heap.size (W1.heap.size + 1) (sch b 48)) wr) (fun _ _ _ _ _ _ _ _ i _ => 64 - (intOf i).toNat)
  case atStart => exact ⟨0, Nat.zero_le _, rfl, ⟨rfl, rfl, rfl, rfl, rfl, rfl, rfl, rfl⟩, hZ3⟩
  case round =>
    clear hZ3
    obtain ⟨k, hk, rfl, ⟨rfl, rfl, rfl, rfl, rfl, rfl, rfl, rfl⟩, hK⟩ := hrel
    have hok := okSt_rnds s (sch b 48) k HS.out
    by_cases hlt : k < 64
    · have hnx : rnds s (sch b 48) (k + 1) = rnd (rnds s (sch b 48) k) (cub.getD k 0) ((sch b 48).getD k 0) := rfl
      have hw := hK.cell 3 rfl k
      have hc := hK.cell 4 rfl k
      rw [vals32_get _ _ (by rw [sch_length]; exact hlt)] at hw
      rw [vals32_get _ _ (by rw [cub_length]; exact hlt)] at hc
      have lw := getD_lt (sch_lt b 48) k
      have lc := getD_lt cub_lt k
      unfold v32 at hw hc
      generalize (sch b 48).getD k 0 = wk at *
      generalize cub.getD k 0 = ck at *
      have HNX := Lib.hid hnx
      clear hnx
      generalize rnds s (sch b 48) k = t at *
      obtain ⟨a, bb, c, d, e, f, g, h⟩ := t
      obtain ⟨la, lb, lcc, ld, le, lf, lg, lh⟩ := hok
      dsimp only at *
      have e51 := t1_bits e le
      have e79 := t0_bits a la
      have e91 := maj_bits a bb c la lb lcc
      have CT := Lib.hid turned_z
      go_wp2_with (go_at_call 34; refine (CT.out _ _ (by assumption) (by omega) (by omega) _).mono ?_; rintro e w' ⟨rfl, rfl⟩)
      go_quiet (fail)
      go_wp2_with (go_at_call 34; refine (CT.out _ _ (by assumption) (by omega) (by omega) _).mono ?_; rintro e w' ⟨rfl, rfl⟩)
      go_roundw
      case rel =>
        refine ⟨k + 1, by omega, by go_num, ?_, hK.drewN nq⟩
        rw [HNX.out, ch_bits e f g le lf lg]
        exact ⟨v32_new _ _ _ _ _ _ _ _ rfl, rfl, rfl, rfl, v32_newe _ _ _ _ _ _ rfl, rfl, rfl, rfl⟩
      case measure => simp [intOf]; omega
    · have h64 : k = 64 := by omega
      have HT : Hid (rnds s (sch b 48) k = rnds s (sch b 48) 64) := Lib.hid (by rw [h64])
      have HO := Lib.hid hok
      clear h64 hok
      generalize rnds s (sch b 48) k = t at *
      have hK0 : Keeps w (boxes3 w.heap.size (mixRow s t 0) b W1.heap.size (W1.heap.size + 1) (sch b 48)) wr := hK
      clear hK
      go_wp2
      clear hlt hk
      obtain ⟨kk, hkk⟩ : ∃ kk : Int, kk = (k : Int) := ⟨_, rfl⟩
      rw [← hkk]
      clear hkk
      obtain ⟨wo, rfl⟩ : ∃ wo : World, wo = wr := ⟨_, rfl⟩
      go_loopw [115] (fun i wr => ∃ j : Nat, j ≤ 8 ∧ i = .int .i64 j ∧ Keeps w (boxes3 w.heap.size (mixRow s t j) b W1.heap.size (W1.heap.size + 1) (sch b 48)) wr) (fun i _ => 8 - (intOf i).toNat)
      case atStart => exact ⟨0, Nat.zero_le _, rfl, hK0⟩
      case round =>
        clear hK0
        obtain ⟨j, hj, rfl, hK⟩ := hrel
        by_cases hlt : j < 8
        · have hx := words_lt s HS.out j
          have hy := words_lt t HO.out j
          have hst := mixRow_step s t j hlt
          have hix : ∀ w, (Instr.index 45 (.agg #[.int .u32 (t.a : Int), .int .u32 (t.b : Int), .int .u32 (t.c : Int), .int .u32 (t.d : Int), .int .u32 (t.e : Int), .int .u32 (t.f : Int), .int .u32 (t.g : Int), .int .u32 (t.h : Int)]) (.int .i64 j)).run Try.prog w = .ok (.int .u32 (((words t).getD j 0 : Nat) : Int)) w :=
            run_index_arr (P := Try.prog) (cs := vals32 (words t)) Try.underlying45 Try.underlying42 (by kernel_rfl) hlt (vals32_get _ _ hlt)
          have hc := hK.cell 0 rfl j
          have hf := hK.frozen 0 rfl j
          rw [vals32_get _ _ (by rw [mixRow_length]; exact hlt), mixRow_get s t j hlt] at hc
          unfold v32 at hc
          generalize (words s).getD j 0 = x at *
          generalize (words t).getD j 0 = y at *
          have HST := Lib.hid hst
          clear hst
          go_wp2
          go_roundw
          case rel =>
            refine ⟨j + 1, by omega, by go_num, ?_⟩
            have h := hK.setc 0 rfl j (v32 ((x + y) % 4294967296))
            rw [vals32_set, HST.out] at h
            exact h
          case measure => simp [intOf]; omega
        · have h8 : j = 8 := by omega
          have HJ := Lib.hid h8
          clear h8
          go_wp2_with (first | (refine wpList_load_row rfl 45 (.tmp 2) rfl w.heap.size rfl 45 (vals32 (mixRow s t j)) (0, 0) _ (hK.get 0 rfl) Try.underlying45 rfl (info8y _ (mixRow_length s t j)) ?_) | (refine wpList_put hK 2 rfl 45 (.tmp 4) (.tmp 126) rfl rfl rfl rfl (info8y _ (mixRow_length s t j)) (size8y _ (mixRow_length s t j)) (one32 _) ?_; clear hK; intro W5 hK))
          refine bodyPost_ret (v := .agg (vals32 (mixRow s t j))) ?_ rfl ⟨?_, hK.bel⟩
          · exact results_cell_row rfl _ _ (w.heap.size + 1 + 1) 45 (vals32 (mixRow s t j)) (0, 0) _ rfl (hK.get 2 rfl) Try.underlying45 rfl (info8y _ (mixRow_length s t j))
          · rw [HJ.out, mixRow_all, HT.out]
            rfl
end Go.Proofs.Ytfpgjabbpcndfaa.Oct
