/- The reference's Of is the hash: a message of at most 1,000,000 bytes. -/
import Derived.Test.YtfpgjabbpcndfaaRefSX
namespace Go.Proofs.Ytfpgjabbpcndfaa.Oct
set_option linter.unusedVariables false
set_option linter.unusedSimpArgs false
open Go.Proofs.Ytfpgjabbpcndfaa Go.RowKit Go.Lib

theorem rturned_z (x : Nat) (z : Int) (hx : x < 4294967296) (h1 : 1 ≤ z) (h2 : z ≤ 31) (w : World) :
    Calls Try.prog 23 #[.int .u32 x, .int .u64 z] w fun e w' => e = .returned (.int .u32 (rot x z.toNat)) ∧ w = w' := by
  have h := rturned_any x z.toNat hx (by omega) (by omega) w
  rw [Int.toNat_of_nonneg (by omega)] at h
  exact h

/-- The blocks that stay through the whole of it: the answer's box, the state, the constants, the message. -/
def base4 (B h k g : Nat) (s : St) (cur : Array Value) : List (Nat × Array Value × TypeId) := [(B, arr8 zero32, 25), (h, vals32 (words s), 42), (k, vals32 cub, 42), (g, cur, 5)]
set_option maxRecDepth 100000 in
set_option maxHeartbeats 40000000 in
theorem rof_walk (bs : List UInt8) (A : Option Addr) (c n₀ : Nat) (w : World) (hn₀ : n₀ ≤ w.heap.size) (hh : Holds8 n₀ w A bs) (hl : bs.length ≤ 1000000) :
    Calls Try.prog 9 #[.slice A bs.length c] w fun e w' => e = .returned (.agg (arr8 (sha bs))) ∧ Below w.heap.size w w' := by
  have HH := Lib.hid hh
  have HL := Lib.hid hl
  clear hh
  have hK := (Keeps.nil w).new (arr8 zero32) 25
  rw [List.nil_append] at hK
  have CT := Lib.hid rturned_z
  have hMlen : (bs ++ padding bs.length).length = bs.length + padLen bs.length := by rw [List.length_append, padding_length]
  have hpl := padLen_bounds bs.length
  have hQ0 : ∃ Q, bs.length + padLen bs.length = 64 * Q := ⟨(bs.length + padLen bs.length) / 64, by unfold padLen; split <;> omega⟩
  obtain ⟨Q, hQ⟩ := hQ0
  have hsha : Hid (sha bs = hashOf (fold squ Q (bs ++ padding bs.length))) := Lib.hid (by unfold sha stOf; rw [hMlen, hQ, Nat.mul_div_cancel_left _ (by decide)])
  have CP := fun W l (h : Keeps w l W) => padded_k h bs A c n₀ (HH.out.below h.bel hn₀) HL.out
  generalize bs ++ padding bs.length = M at hMlen hsha CP
  obtain ⟨Z, hZ⟩ : ∃ Z, M.length = Z := ⟨_, rfl⟩
  have HZ := Lib.hid hZ
  have hZ2 : Z ≤ 1000100 := by omega
  have HZQ := Lib.hid (show Z = 64 * Q by omega)
  rw [hZ] at CP
  replace CP := Lib.hid CP
  clear hMlen hpl hQ hZ
  go_enter Try.func9, Try.ntmps9
  go_wp2_with (first
    | (refine wpList_alloc rfl 25 rfl (z := arr8 zero32) (by kernel_rfl) ?_; try simp only [World.size_alloc])
    | (go_at_call 20; (with_reducible refine (square_k hK).mono ?_); rintro e W1 ⟨bh, rfl, hK1⟩; clear hK)
    | (go_at_call 21; (with_reducible refine (cube_k hK1).mono ?_); rintro e W2 ⟨bk, rfl, hK2⟩; clear hK1)
    | (go_at_call 22; (with_reducible refine (CP.out _ _ hK2).mono ?_); rintro e W3 ⟨bg, cap, cur, rfl, hK3, hcur⟩; clear hK2))
  have HCUR := Lib.hid hcur
  have HK0 : Hid (Keeps w (base4 w.heap.size bh bk bg (fold squ 0 M) cur) W3) := Lib.hid hK3
  clear hK3 hcur hl CP
  generalize hB0 : w.heap.size = B0 at *
  go_loopw [6] (fun i wr => ∃ q a : Nat, q ≤ Q ∧ a = 64 * q ∧ i = .int .i64 (a : Int) ∧ Keeps w (base4 B0 bh bk bg (fold squ q M) cur) wr) (fun i _ => Z + 64 - (RowKit.intOf i).toNat)
  case atStart => exact ⟨0, 0, Nat.zero_le _, rfl, rfl, HK0.out⟩
  case round =>
    clear HK0
    obtain ⟨q, a, hq, ha, rfl, hK⟩ := hrel
    have hok := okSt_fold squ okSt_squ M q
    have hnx := fun h => fold_step squ M q h
    rw [HZ.out] at hnx
    have HA := Lib.hid ha
    clear ha
    by_cases hlt : a < Z
    · have HNX := Lib.hid (hnx (by have := HA.out; have := HZQ.out; omega))
      have HBL := Lib.hid (blk_length M q (by have := HA.out; have := HZQ.out; rw [HZ.out]; omega))
      have hbc : ∀ j, j < 64 → wr.cell? ⟨bg, a + j, none⟩ = some (.int .u8 (((blk M q).getD j 0).toNat : Int)) := fun j hj => by
        have := hK.cell 3 rfl (a + j)
        rw [this, HCUR.out _ (by have := HA.out; have := HZQ.out; omega), blk_get M q j hj, HA.out]
      clear hnx
      have HKW := Lib.hid (hK.new (vals32 zero64) 42)
      have HBC := Lib.hid hbc
      clear hbc
      go_wp2_with (refine wpList_make64 rfl rfl ?_)
      generalize hbw : wr.heap.size = bw at *
      generalize hw5 : wr.alloc (.cells (vals32 zero64) 42) = w5 at *
      clear hK
      have HKW2 : Hid (Keeps w (base4 B0 bh bk bg (fold squ q M) cur ++ [(bw, vals32 (rowA (blk M q) 0), 42)]) w5) := HKW
      clear HKW hw5
      go_loopw [8] (fun i wr => ∃ k : Nat, k ≤ 16 ∧ i = .int .i64 (k : Int) ∧ Keeps w (base4 B0 bh bk bg (fold squ q M) cur ++ [(bw, vals32 (rowA (blk M q) k), 42)]) wr) (fun i _ => 16 - (RowKit.intOf i).toNat)
      case atStart => exact ⟨0, Nat.zero_le _, rfl, HKW2.out⟩
      case round =>
        clear HKW2
        obtain ⟨k, hk, rfl, hK⟩ := hrel
        by_cases hlt2 : k < 16
        ·
          as_aux_lemma =>
            have hbc : ∀ j, j < 64 → wr.cell? ⟨bg, a + j, none⟩ = some (.int .u8 (((blk M q).getD j 0).toNat : Int)) := fun j hj => by
              have := hK.cell 3 rfl (a + j)
              rw [this, HCUR.out _ (by have := HA.out; have := HZQ.out; omega), blk_get M q j hj, HA.out]
            have c0 := hbc (4 * k) (by omega)
            have c1 := hbc (4 * k + 1) (by omega)
            have c2 := hbc (4 * k + 2) (by omega)
            have c3 := hbc (4 * k + 3) (by omega)
            clear hbc
            have hst := rowA_step (blk M q) k (by omega)
            unfold word4 at hst
            have hf := hK.frozen 4 rfl k
            have hg := hK.cell 4 rfl k
            rw [vals32_get _ _ (by rw [rowA_length _ _ (by omega)]; omega)] at hg
            unfold v32 at hg
            generalize (rowA (blk M q) k).getD k 0 = old at hg
            obtain ⟨p, hp⟩ : ∃ p, a + 4 * k = p := ⟨_, rfl⟩
            rw [show a + 4 * k = p from hp] at c0
            rw [show a + (4 * k + 1) = p + 1 by omega] at c1
            rw [show a + (4 * k + 2) = p + 2 by omega] at c2
            rw [show a + (4 * k + 3) = p + 3 by omega] at c3
            have x0 := UInt8.toNat_lt ((blk M q).getD (4 * k) 0)
            have x1 := UInt8.toNat_lt ((blk M q).getD (4 * k + 1) 0)
            have x2 := UInt8.toNat_lt ((blk M q).getD (4 * k + 2) 0)
            have x3 := UInt8.toNat_lt ((blk M q).getD (4 * k + 3) 0)
            generalize ((blk M q).getD (4 * k) 0).toNat = b0 at *
            generalize ((blk M q).getD (4 * k + 1) 0).toNat = b1 at *
            generalize ((blk M q).getD (4 * k + 2) 0).toNat = b2 at *
            generalize ((blk M q).getD (4 * k + 3) 0).toNat = b3 at *
            have HST := Lib.hid hst
            have hpZ : p + 3 < Z := by have := HA.out; have := HZQ.out; omega
            have z0 : IntKind.i64.wrap ((a : Int) + 4 * (k : Int)) = (p : Int) := by rw [← hp]; have := IntWalk.i64_in ((a : Int) + 4 * (k : Int)) (by omega); rw [this]; omega
            have z4 : IntKind.i64.wrap (4 * (k : Int)) = 4 * (k : Int) := IntWalk.i64_in _ (by omega)
            have r0 : IntKind.u32.wrap (b0 : Int) = (b0 : Int) := by rw [IntKind.wrap_u32]; omega
            have r1 : IntKind.u32.wrap (b1 : Int) = (b1 : Int) := by rw [IntKind.wrap_u32]; omega
            have r2 : IntKind.u32.wrap (b2 : Int) = (b2 : Int) := by rw [IntKind.wrap_u32]; omega
            have r3 : IntKind.u32.wrap (b3 : Int) = (b3 : Int) := by rw [IntKind.wrap_u32]; omega
            have z1 : IntKind.i64.wrap ((p : Int) + 1) = (p : Int) + 1 := IntWalk.i64_in _ (by omega)
            have z2 : IntKind.i64.wrap ((p : Int) + 2) = (p : Int) + 2 := IntWalk.i64_in _ (by omega)
            have z3 : IntKind.i64.wrap ((p : Int) + 3) = (p : Int) + 3 := IntWalk.i64_in _ (by omega)
            have y1 : ((p : Int) + 1).toNat = p + 1 := by omega
            have y2 : ((p : Int) + 2).toNat = p + 2 := by omega
            have y3 : ((p : Int) + 3).toNat = p + 3 := by omega
            have n1 : (0 : Int) ≤ (p : Int) + 1 := by omega
            have n2 : (0 : Int) ≤ (p : Int) + 2 := by omega
            have n3 : (0 : Int) ≤ (p : Int) + 3 := by omega
            have m0 : (p : Int) < (Z : Int) := by omega
            have m1 : (p : Int) + 1 < (Z : Int) := by omega
            have m2 : (p : Int) + 2 < (Z : Int) := by omega
            have m3 : (p : Int) + 3 < (Z : Int) := by omega
            have k1 : (k : Int) < 64 := by omega
            clear hst hp
            go_wp2
            refine wp_region_still_tail 44 (by kernel_rfl) (by kernel_rfl) ?_
            simp only [List.take_succ_cons, List.take_zero, List.drop_succ_cons, List.drop_zero]
            change wpStill _ _ (World.drew _) (fun a' => wpList _ _ _ _ a' (World.drew _)) _ _
            repeat still_step
            refine wpStill_nil ?_
            go_wp2
            go_roundw
            case rel =>
              refine ⟨k + 1, by omega, by go_num, ?_⟩
              have h := (hK.setc 4 rfl k (v32 (((b0 * 256 + b1) * 256 + b2) * 256 + b3))).drew
              rw [vals32_set, HST.out] at h
              have ev : Value.int .u32 ((b0 : Int) * 16777216 + (b1 : Int) * 65536 + (b2 : Int) * 256 + (b3 : Int)) = v32 (((b0 * 256 + b1) * 256 + b2) * 256 + b3) := by
                unfold v32
                rw [show ((((b0 * 256 + b1) * 256 + b2) * 256 + b3 : Nat) : Int) = (b0 : Int) * 16777216 + (b1 : Int) * 65536 + (b2 : Int) * 256 + (b3 : Int) by omega]
              rw [ev]
              exact h
            case measure => simp [RowKit.intOf]; omega
        · have h16 : k = 16 := by omega
          have HK3 : Hid (Keeps w (base4 B0 bh bk bg (fold squ q M) cur ++ [(bw, vals32 (row2 (blk M q) 0), 42)]) wr) := Lib.hid (by rw [← rowA_all, ← h16]; exact hK)
          clear hK h16
          go_wp2
          clear hlt2 hk
          obtain ⟨kk, hkk⟩ : ∃ kk : Int, kk = (k : Int) := ⟨_, rfl⟩
          rw [← hkk]
          clear hkk
          obtain ⟨wo, rfl⟩ : ∃ wo : World, wo = wr := ⟨_, rfl⟩
          go_loopw [9] (fun i wr => ∃ j z : Nat, j ≤ 48 ∧ z = 16 + j ∧ i = .int .i64 (z : Int) ∧ Keeps w (base4 B0 bh bk bg (fold squ q M) cur ++ [(bw, vals32 (row2 (blk M q) j), 42)]) wr) (fun i _ => 64 - (RowKit.intOf i).toNat)
          case atStart => exact ⟨0, 16, Nat.zero_le _, rfl, rfl, HK3.out⟩
          case round =>
            clear HK3
            obtain ⟨k, z, hk, hz, rfl, hK⟩ := hrel
            have HZK := Lib.hid hz
            by_cases hlt2 : z < 64
            ·
              as_aux_lemma =>
                have hk48 : k < 48 := by omega
                have hall := sch_lt (blk M q) k
                have g : ∀ i, i < 16 + k → wr.cell? ⟨bw, i, none⟩ = some (.int .u32 (((sch (blk M q) k).getD i 0 : Nat) : Int)) := fun i hi => by
                  have := hK.cell 4 rfl i
                  rw [vals32_get _ _ (by rw [row2_length _ _ hk]; omega), row2_get _ _ _ hi] at this
                  exact this
                have g0 := g k (by omega)
                have g1 := g (k + 1) (by omega)
                have g9 := g (k + 9) (by omega)
                have g14 := g (k + 14) (by omega)
                have hf := hK.frozen 4 rfl z
                have hg := hK.cell 4 rfl z
                rw [vals32_get _ _ (by rw [row2_length _ _ hk]; omega)] at hg
                have hst := row2_step (blk M q) k hk48
                unfold nextW at hst
                have l0 := getD_lt hall k
                have l1 := getD_lt hall (k + 1)
                have l9 := getD_lt hall (k + 9)
                have l14 := getD_lt hall (k + 14)
                clear g hall
                unfold v32 at hg
                generalize (row2 (blk M q) k).getD z 0 = y at hg
                generalize (sch (blk M q) k).getD k 0 = x0 at g0 hst l0
                generalize (sch (blk M q) k).getD (k + 1) 0 = x1 at g1 hst l1
                generalize (sch (blk M q) k).getD (k + 9) 0 = x9 at g9 hst l9
                generalize (sch (blk M q) k).getD (k + 14) 0 = x14 at g14 hst l14
                have HST := Lib.hid hst
                obtain ⟨lK, hlK⟩ : ∃ lK, base4 B0 bh bk bg (fold squ q M) cur ++ [(bw, vals32 (row2 (blk M q) k), 42)] = lK := ⟨_, rfl⟩
                have GW : Hid (∀ W, Keeps w lK W → W.cell? ⟨bw, k, none⟩ = some (.int .u32 (x0 : Int)) ∧ W.cell? ⟨bw, k + 1, none⟩ = some (.int .u32 (x1 : Int)) ∧ W.cell? ⟨bw, k + 9, none⟩ = some (.int .u32 (x9 : Int)) ∧ W.cell? ⟨bw, k + 14, none⟩ = some (.int .u32 (x14 : Int)) ∧ W.cell? ⟨bw, z, none⟩ = some (.int .u32 (y : Int)) ∧ W.frozen? ⟨bw, z, none⟩ = false) := Lib.hid fun W hW => by
                  subst hlK
                  have e : ∀ i, W.cell? ⟨bw, i, none⟩ = wr.cell? ⟨bw, i, none⟩ := fun i => by rw [hW.cell 4 rfl i, hK.cell 4 rfl i]
                  exact ⟨by rw [e]; exact g0, by rw [e]; exact g1, by rw [e]; exact g9, by rw [e]; exact g14, by rw [e]; exact hg, hW.frozen 4 rfl z⟩
                rw [hlK] at hK
                have HLK := Lib.hid hlK
                clear hlK
                have z15 : IntKind.i64.wrap ((z : Int) - 15) = (z : Int) - 15 := IntWalk.i64_in _ (by omega)
                have z2 : IntKind.i64.wrap ((z : Int) - 2) = (z : Int) - 2 := IntWalk.i64_in _ (by omega)
                have z16 : IntKind.i64.wrap ((z : Int) - 16) = (z : Int) - 16 := IntWalk.i64_in _ (by omega)
                have z7 : IntKind.i64.wrap ((z : Int) - 7) = (z : Int) - 7 := IntWalk.i64_in _ (by omega)
                have y15 : ((z : Int) - 15).toNat = k + 1 := by omega
                have y2 : ((z : Int) - 2).toNat = k + 14 := by omega
                have y16 : ((z : Int) - 16).toNat = k := by omega
                have y7 : ((z : Int) - 7).toNat = k + 9 := by omega
                have n15 : (0 : Int) ≤ (z : Int) - 15 := by omega
                have n2 : (0 : Int) ≤ (z : Int) - 2 := by omega
                have n16 : (0 : Int) ≤ (z : Int) - 16 := by omega
                have n7 : (0 : Int) ≤ (z : Int) - 7 := by omega
                have q15 : (15 : Int) ≤ (z : Int) := by omega
                have q2 : (2 : Int) ≤ (z : Int) := by omega
                have q16 : (16 : Int) ≤ (z : Int) := by omega
                have q7 : (7 : Int) ≤ (z : Int) := by omega
                have m15 : (z : Int) - 15 < 64 := by omega
                have m2 : (z : Int) - 2 < 64 := by omega
                have m16 : (z : Int) - 16 < 64 := by omega
                have m7 : (z : Int) - 7 < 64 := by omega
                have mz : (z : Int) < 64 := by omega
                have e46 := s0_bits x1 l1
                have e54 := s1_bits x14 l14
                have k0 := s0_lt x1 l1
                have k1 := s1_lt x14 l14
                clear hst hz hk48
                go_wp2
                go_quiet (first | (go_at_call 23; refine Calls.quiet_of_same ((CT.out _ _ (by assumption) (by omega) (by omega) _).mono fun e w' h => ⟨h.1, h.2.symm⟩)))
                replace hK := hK.drewN nq
                clear g0 g1 g9 g14 hg hf
                generalize wr.drewN nq = W8 at *
                obtain ⟨g0, g1, g9, g14, hg, hf⟩ := GW.out _ hK
                go_wp2
                go_quiet (first | (go_at_call 23; refine Calls.quiet_of_same ((CT.out _ _ (by assumption) (by omega) (by omega) _).mono fun e w' h => ⟨h.1, h.2.symm⟩)))
                replace hK := hK.drewN nq
                clear g0 g1 g9 g14 hg hf
                generalize W8.drewN nq = W9 at *
                obtain ⟨g0, g1, g9, g14, hg, hf⟩ := GW.out _ hK
                go_wp2
                rw [← HLK.out] at hK
                generalize s0 x1 = a0 at *
                generalize s1 x14 = a1 at *
                clear e46 e54
                refine wp_region_still_tail 18 (by kernel_rfl) (by kernel_rfl) ?_
                simp only [List.take_succ_cons, List.take_zero, List.drop_succ_cons, List.drop_zero]
                change wpStill _ _ (World.drew _) (fun a' => wpList _ _ _ _ a' (World.drew _)) _ _
                repeat still_step
                refine wpStill_nil ?_
                go_wp2
                go_roundw
                case rel =>
                  have hz' : z = k + 16 := by have := HZK.out; omega
                  have HST' : (row2 (blk M q) k).set z ((x0 + a0 + x9 + a1) % 4294967296) = row2 (blk M q) (k + 1) := by rw [hz']; exact HST.out
                  refine ⟨k + 1, z + 1, by omega, by omega, by go_num, ?_⟩
                  have h := (hK.setc 4 rfl z (v32 ((x0 + a0 + x9 + a1) % 4294967296))).drew
                  rw [vals32_set, HST'] at h

                  exact h
                case measure => simp [RowKit.intOf]; omega
            ·
              have h48 : k = 48 := by omega
              have HK4 : Hid (Keeps w (base4 B0 bh bk bg (fold squ q M) cur ++ [(bw, vals32 (sch (blk M q) 48), 42)]) wr) := Lib.hid (by rw [← row2_all, ← h48]; exact hK)
              clear hK h48
              have HX : Hid (fold squ (q + 1) M = add8 (fold squ q M) (rnds (fold squ q M) (sch (blk M q) 48) 64)) := HNX
              have HWS := Lib.hid (sch_lt (blk M q) 48)
              have HWL := Lib.hid (sch_length (blk M q) 48)
              have HOK := Lib.hid hok
              clear hok HNX HBL HBC
              generalize fold squ q M = S at *
              generalize sch (blk M q) 48 = ws at *
              go_wp2_with (at_builtin; refine wpList_append_words HK4.out 1 S rfl rfl (.tmp 140) (.tmp 141) rfl rfl rfl ?_; intro bl cl curl WL hKL hcurl)
              clear HK4 HZK hlt2
              clear hz hk
              have HKL := Lib.hid hKL
              have HCURL := Lib.hid hcurl
              clear hKL hcurl
              obtain ⟨wo2, rfl⟩ : ∃ wo : World, wo = WL := ⟨_, rfl⟩
              go_loopw [12, 13] (fun ls i wr => ∃ (k g c : Nat) (cl : Array Value), k ≤ 64 ∧ ls = .slice (some ⟨g, 0, none⟩) 8 c ∧ i = .int .i64 (k : Int) ∧ (∀ j, j < 8 → cl[j]? = some (v32 ((words (rnds S ws k)).getD j 0))) ∧ Keeps w (base4 B0 bh bk bg S cur ++ [(bw, vals32 ws, 42)] ++ [(g, cl, 42)]) wr) (fun _ i _ => 64 - (RowKit.intOf i).toNat)
              case atStart => exact ⟨0, bl, cl, curl, Nat.zero_le _, rfl, rfl, HCURL.out, HKL.out⟩
              case round =>
                clear HKL HCURL
                obtain ⟨k, gl, cl, arr, hk, rfl, rfl, harr, hK⟩ := hrel
                have hokt := okSt_rnds S ws k HOK.out
                by_cases hlt2 : k < 64
                ·
                  have hnx : rnds S ws (k + 1) = rnd (rnds S ws k) (cub.getD k 0) (ws.getD k 0) := rfl
                  have hw := hK.cell 4 rfl k
                  have hc := hK.cell 2 rfl k
                  rw [vals32_get _ _ (by rw [HWL.out]; exact hlt2)] at hw
                  rw [vals32_get _ _ (by rw [cub_length]; exact hlt2)] at hc
                  have lw := getD_lt HWS.out k
                  have lc := getD_lt cub_lt k
                  unfold v32 at hw hc
                  generalize ws.getD k 0 = wk at *
                  generalize cub.getD k 0 = ck at *
                  have HNX2 := Lib.hid hnx
                  clear hnx
                  generalize rnds S ws k = t at *
                  obtain ⟨a1, b1, c1, d1, e1, f1, g1, h1⟩ := t
                  obtain ⟨la, lb, lcc, ld, le, lf, lg, lh⟩ := hokt
                  dsimp only at *
                  obtain ⟨lK, hlK⟩ : ∃ lK, base4 B0 bh bk bg S cur ++ [(bw, vals32 ws, 42)] ++ [(gl, arr, 42)] = lK := ⟨_, rfl⟩
                  have GW : Hid (∀ W, Keeps w lK W → W.cell? ⟨gl, 0, none⟩ = some (.int .u32 (a1 : Int)) ∧ W.cell? ⟨gl, 1, none⟩ = some (.int .u32 (b1 : Int)) ∧ W.cell? ⟨gl, 2, none⟩ = some (.int .u32 (c1 : Int)) ∧ W.cell? ⟨gl, 3, none⟩ = some (.int .u32 (d1 : Int)) ∧ W.cell? ⟨gl, 4, none⟩ = some (.int .u32 (e1 : Int)) ∧ W.cell? ⟨gl, 5, none⟩ = some (.int .u32 (f1 : Int)) ∧ W.cell? ⟨gl, 6, none⟩ = some (.int .u32 (g1 : Int)) ∧ W.cell? ⟨gl, 7, none⟩ = some (.int .u32 (h1 : Int)) ∧ W.cell? ⟨bw, k, none⟩ = some (.int .u32 (wk : Int)) ∧ W.cell? ⟨bk, k, none⟩ = some (.int .u32 (ck : Int))) := Lib.hid fun W hW => by
                    subst hlK
                    have e : ∀ j, j < 8 → W.cell? ⟨gl, j, none⟩ = some (v32 ((words ⟨a1, b1, c1, d1, e1, f1, g1, h1⟩).getD j 0)) := fun j hj => by rw [hW.cell 5 rfl j]; exact harr j hj
                    exact ⟨e 0 (by decide), e 1 (by decide), e 2 (by decide), e 3 (by decide), e 4 (by decide), e 5 (by decide), e 6 (by decide), e 7 (by decide), by rw [hW.cell 4 rfl k, ← hK.cell 4 rfl k]; exact hw, by rw [hW.cell 2 rfl k, ← hK.cell 2 rfl k]; exact hc⟩
                  clear hw hc harr
                  rw [hlK] at hK
                  have HLK := Lib.hid hlK
                  clear hlK
                  obtain ⟨q0, q1, q2, q3, q4, q5, q6, q7, qw, qk⟩ := GW.out _ hK
                  have t1b := t1_bits e1 le
                  have chb := ch_bits e1 f1 g1 le lf lg
                  have t0b := t0_bits a1 la
                  have mjb := maj_bits a1 b1 c1 la lb lcc
                  go_wp2
                  go_quiet (first | (go_at_call 23; refine Calls.quiet_of_same ((CT.out _ _ (by assumption) (by omega) (by omega) _).mono fun e w' h => ⟨h.1, h.2.symm⟩)))
                  replace hK := hK.drewN nq
                  clear q0 q1 q2 q3 q4 q5 q6 q7 qw qk
                  generalize wr.drewN nq = W8 at *
                  obtain ⟨q0, q1, q2, q3, q4, q5, q6, q7, qw, qk⟩ := GW.out _ hK
                  clear t1b chb
                  go_wp2
                  go_quiet (first | (go_at_call 23; refine Calls.quiet_of_same ((CT.out _ _ (by assumption) (by omega) (by omega) _).mono fun e w' h => ⟨h.1, h.2.symm⟩)))
                  replace hK := hK.drewN nq
                  clear q0 q1 q2 q3 q4 q5 q6 q7 qw qk
                  generalize W8.drewN nq = W9 at *
                  obtain ⟨q0, q1, q2, q3, q4, q5, q6, q7, qw, qk⟩ := GW.out _ hK
                  clear t0b mjb
                  go_wp2
                  rw [← HLK.out] at hK
                  refine wp_region_still_tail 26 (by kernel_rfl) (by kernel_rfl) ?_
                  simp only [List.take_succ_cons, List.take_zero, List.drop_succ_cons, List.drop_zero]
                  change wpStill _ _ (World.drew _) (fun a' => wpList _ _ _ _ a' (World.drew _)) _ _
                  repeat still_step
                  refine wpStill_nil ?_
                  go_wp2
                  go_roundw
                  case rel => as_aux_lemma =>
                    exact rel13 hK S ws k hlt2 a1 b1 c1 d1 e1 f1 g1 h1 ck wk HNX2.out
                  case measure => simp [RowKit.intOf]; omega
                ·
                  as_aux_lemma =>
                    have h64 : k = 64 := by omega
                    have HT : Hid (rnds S ws k = rnds S ws 64) := Lib.hid (by rw [h64])
                    have HO := Lib.hid hokt
                    have HARR := Lib.hid harr
                    clear h64 hokt harr
                    generalize rnds S ws k = t at *
                    have HK5 : Hid (Keeps w (base5 B0 bh bk bg (mixRow S t 0) cur ++ [(bw, vals32 ws, 42)] ++ [(gl, arr, 42)]) wr) := Lib.hid (by rw [base5_zero]; exact hK)
                    clear hK
                    go_wp2
                    clear hlt2 hk
                    obtain ⟨wo3, rfl⟩ : ∃ wo : World, wo = wr := ⟨_, rfl⟩
                    go_loopw [16] (fun i wr => ∃ j : Nat, j ≤ 8 ∧ i = .int .i64 (j : Int) ∧ Keeps w (base5 B0 bh bk bg (mixRow S t j) cur ++ [(bw, vals32 ws, 42)] ++ [(gl, arr, 42)]) wr) (fun i _ => 8 - (RowKit.intOf i).toNat)
                    case atStart => exact ⟨0, Nat.zero_le _, rfl, HK5.out⟩
                    case round =>
                      clear HK5
                      obtain ⟨j, hj, rfl, hK⟩ := hrel
                      by_cases hlt3 : j < 8
                      · have hst := mixRow_step S t j hlt3
                        have hc := hK.cell 1 rfl j
                        have hf := hK.frozen 1 rfl j
                        rw [vals32_get _ _ (by rw [mixRow_length]; exact hlt3), mixRow_get S t j hlt3] at hc
                        have hl := hK.cell 5 rfl j
                        rw [HARR.out j hlt3] at hl
                        unfold v32 at hc hl
                        have hx := words_lt S HOK.out j
                        have hy := words_lt t HO.out j
                        generalize (words S).getD j 0 = x at *
                        generalize (words t).getD j 0 = y at *
                        have HST := Lib.hid hst
                        clear hst
                        have j8 : (j : Int) < 8 := by omega
                        go_wp2
                        refine wp_region_still_tail 12 (by kernel_rfl) (by kernel_rfl) ?_
                        simp only [List.take_succ_cons, List.take_zero, List.drop_succ_cons, List.drop_zero]
                        change wpStill _ _ (World.drew _) (fun a' => wpList _ _ _ _ a' (World.drew _)) _ _
                        repeat still_step
                        refine wpStill_nil ?_
                        go_wp2
                        go_roundw
                        case rel => as_aux_lemma =>
                          refine ⟨j + 1, by omega, by go_num, ?_⟩
                          have h := (hK.setc 1 rfl j (v32 ((x + y) % 4294967296))).drew
                          rw [vals32_set, HST.out, ← v32_add] at h
                          exact h
                        case measure => simp [RowKit.intOf]; omega
                      · have h8 : j = 8 := by omega
                        have HF : Hid (Keeps w (base4 B0 bh bk bg (fold squ (q + 1) M) cur) wr) := Lib.hid (by rw [HX.out, ← HT.out]; rw [h8] at hK; have h2 := hK.pre.pre; rw [base5_all] at h2; exact h2)
                        clear hK h8
                        go_wp2
                        go_roundw
                        case rel => as_aux_lemma => exact ⟨q + 1, a + 64, by have := HA.out; have := HZQ.out; omega, by have := HA.out; omega, by go_num, HF.out⟩
                        case measure => simp [RowKit.intOf]; omega
    ·
      as_aux_lemma =>
        have hqQ : q = Q := by have := HA.out; have := HZQ.out; omega
        have HKQ : Hid (Keeps w (base4 B0 bh bk bg (fold squ Q M) cur) wr) := Lib.hid (by rw [← hqQ]; exact hK)
        have HN := Lib.hid (HKQ.out.new (arr8 zero32) 25)
        have HOK := Lib.hid (okSt_fold squ okSt_squ M Q)
        clear hK hqQ hok hnx
        generalize fold squ Q M = S at *
        go_wp2_with (refine wpList_alloc rfl 25 rfl (z := arr8 zero32) (by kernel_rfl) ?_; try simp only [World.size_alloc])
        have HN2 : Hid (Keeps w (base4 B0 bh bk bg S cur ++ [(wr.heap.size, arr8 (hashRow S 0), 25)]) (wr.alloc (.cells (arr8 zero32) 25))) := HN
        clear HN HKQ
        generalize wr.alloc (.cells (arr8 zero32) 25) = wB at *
        generalize hbo : wr.heap.size = bo at *
        clear hlt hq
        go_loopw [18] (fun i wr => ∃ k : Nat, k ≤ 32 ∧ i = .int .i64 (k : Int) ∧ Keeps w (base4 B0 bh bk bg S cur ++ [(bo, arr8 (hashRow S k), 25)]) wr) (fun i _ => 32 - (RowKit.intOf i).toNat)
        case atStart => exact ⟨0, Nat.zero_le _, rfl, HN2.out⟩
        case round =>
          clear HN2
          obtain ⟨k, hk, rfl, hK⟩ := hrel
          by_cases hlt2 : k < 32
          · obtain ⟨i, r, hkir, hi, hr⟩ : ∃ i r, k = 4 * i + r ∧ i < 8 ∧ r < 4 := ⟨k / 4, k % 4, by omega, by omega, by omega⟩
            have hst := hashRow_step S k _ hlt2 (by rw [hkir]; exact hash_get S i r hi hr)
            have hc := hK.cell 4 rfl k
            have hf := hK.frozen 4 rfl k
            rw [arr8_get _ _ (by rw [hashRow_length _ _ (by omega)]; omega)] at hc
            have hw := hK.cell 1 rfl i
            rw [vals32_get _ _ hi] at hw
            unfold v32 at hw
            generalize (words S).getD i 0 = x at *
            have HST := Lib.hid hst
            have HKIR := Lib.hid hkir
            have kd : (k : Int) / 4 = (i : Int) := by omega
            have km : (k : Int) % 4 = (r : Int) := by omega
            clear hst hkir
            go_wp2
            go_roundw
            case rel =>
              refine ⟨k + 1, by omega, by go_num, ?_⟩
              have h := hK.setc 4 rfl k (.int .u8 (((UInt8.ofNat (x / 2 ^ (24 - 8 * r))).toNat : Nat) : Int))
              rw [arr8_set, HST.out, byteW_int] at h
              exact h
            case measure => simp [RowKit.intOf]; omega
          · have h32 : k = 32 := by omega
            have HK32 := Lib.hid h32
            have HL32 := Lib.hid (hashRow_length S k hk)
            clear h32
            go_wp2_with (first | (refine wpList_load_row rfl 25 (.tmp 17) rfl bo rfl 25 _ (0, 0) _ (hK.get 4 rfl) Try.underlying25 rfl (infoH _ HL32.out) ?_) | (refine wpList_put hK 0 rfl 25 (.tmp 2) (.tmp 291) rfl rfl rfl rfl (infoH _ HL32.out) (size_same rfl HL32.out) (one8x _) ?_; clear hK; intro W5 hK))
            refine bodyPost_ret (v := .agg (arr8 (hashRow S k))) ?_ rfl ⟨?_, hK.bel⟩
            · exact results_cell_row rfl _ _ B0 25 _ (0, 0) _ rfl (hK.get 0 rfl) Try.underlying25 rfl (infoH _ HL32.out)
            · rw [HK32.out, hashRow_all, ← hsha.out]
end Go.Proofs.Ytfpgjabbpcndfaa.Oct
