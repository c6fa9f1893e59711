/- The document's product, bit by bit. Numbers are below 2^256. -/
import Derived.Test.YtgmgejjlhlibkaaRefWG
namespace Go.Proofs.Ytgmgejjlhlibkaa
set_option linter.unusedVariables false
open Go.RowKit
/-- Of three blocks at the end, only the last stays known. -/
theorem Keeps.skip2 {W0 W : World} {l0 : List (Nat × Array Value × TypeId)} {x y z : Nat × Array Value × TypeId} (h : Keeps W0 (l0 ++ [x, y, z]) W) : Keeps W0 (l0 ++ [z]) W := by
  have key : ∀ (i : Nat) p, (l0 ++ [z])[i]? = some p → ∃ j, (l0 ++ [x, y, z])[j]? = some p ∧ (i < l0.length → j = i) ∧ (i = l0.length → j = l0.length + 2) ∧ i < l0.length + 1 := by
    intro i p hi
    have hlt : i < l0.length + 1 := by
      have := (List.getElem?_eq_some_iff.1 hi).1
      simpa using this
    by_cases h1 : i < l0.length
    · refine ⟨i, ?_, fun _ => rfl, fun h => by omega, hlt⟩
      rw [List.getElem?_append_left h1] at hi ⊢
      exact hi
    · have h2 : i = l0.length := by omega
      subst h2
      refine ⟨l0.length + 2, ?_, fun h => by omega, fun _ => rfl, hlt⟩
      simp at hi ⊢
      exact hi
  refine ⟨fun i p hi => ?_, fun i p hi => ?_, fun i j p q hi hj hij => ?_, h.bel⟩
  · obtain ⟨k, hk, _⟩ := key i p hi
    exact h.rows k p hk
  · obtain ⟨k, hk, _⟩ := key i p hi
    exact h.base k p hk
  · obtain ⟨k, hk, a1, a2, a3⟩ := key i p hi
    obtain ⟨k', hk', b1, b2, b3⟩ := key j q hj
    refine h.apart k k' p q hk hk' ?_
    by_cases h1 : i < l0.length
    · rw [a1 h1]
      by_cases h2 : j < l0.length
      · rw [b1 h2]
        exact hij
      · rw [b2 (by omega)]
        omega
    · rw [a2 (by omega)]
      by_cases h2 : j < l0.length
      · rw [b1 h2]
        omega
      · omega
end Go.Proofs.Ytgmgejjlhlibkaa
namespace Go.Proofs.Ytgmgejjlhlibkaa.Oct
open Go.Proofs.Ytgmgejjlhlibkaa Go.RowKit Go.Shelf

/-- A row of 512 bits by places. -/
def gbits (f : Nat → Nat) : Array Value := ((List.range 512).map fun i => Value.int .i64 (f i : Int)).toArray
theorem gbits_get (f : Nat → Nat) (i : Nat) (hi : i < 512) : (gbits f)[i]? = some (.int .i64 (f i : Int)) := by simp [gbits, hi]
theorem gbits_ext (f g : Nat → Nat) (h : ∀ i, i < 512 → f i = g i) : gbits f = gbits g := by
  unfold gbits
  refine congrArg List.toArray (List.map_congr_left fun i hi => ?_)
  rw [h i (List.mem_range.1 hi)]
theorem gbits_set (f : Nat → Nat) (k v : Nat) (hk : k < 512) : (gbits f).setIfInBounds k (.int .i64 (v : Int)) = gbits (fun i => if i = k then v else f i) := by
  unfold gbits
  refine Array.ext (by simp) fun i h1 h2 => ?_
  simp at h1
  rw [Array.getElem_setIfInBounds (by simpa using h1)]
  simp
  by_cases h : k = i
  · subst h
    simp
  · rw [if_neg h, if_neg (by omega)]
theorem gbits_zero : pbits 0 512 0 = gbits (fun _ => 0) := by
  unfold pbits gbits
  refine congrArg List.toArray (List.map_congr_left fun i hi => ?_)
  simp
theorem gbits_bits (n : Nat) : ibits n 512 = gbits (bitOf n) := by
  unfold ibits pbits gbits
  refine congrArg List.toArray (List.map_congr_left fun i hi => ?_)
  rw [if_pos (List.mem_range.1 hi)]
def pb (b i k m : Nat) : Nat := if i ≤ m ∧ m < i + k then bitOf b (m - i) else 0
theorem bitOf_none (i : Nat) : bitOf 0 i = 0 := by unfold bitOf; rw [Nat.zero_div]
theorem results_2c (tmps : Array Value) (w : World) (f : Func) (gq gr x y : Nat) (hf : f.results = #[.cell 4 24, .cell 5 24]) (h4 : tmps[4]? = some (.pointer (some ⟨gq, 0, none⟩))) (h5 : tmps[5]? = some (.pointer (some ⟨gr, 0, none⟩)))
    (hq : w.heap[gq]? = some (.cells (wcells x) 24 (0, 0))) (hr : w.heap[gr]? = some (.cells (wcells y) 24 (0, 0))) :
    (results f tmps).run Try.prog w = .ok (.tuple #[.agg (wcells x), .agg (wcells y)]) w := by
  have q0 := cell_of_row w gq 0 _ _ _ hq
  have q1 := cell_of_row w gq 1 _ _ _ hq
  have q2 := cell_of_row w gq 2 _ _ _ hq
  have q3 := cell_of_row w gq 3 _ _ _ hq
  have r0 := cell_of_row w gr 0 _ _ _ hr
  have r1 := cell_of_row w gr 1 _ _ _ hr
  have r2 := cell_of_row w gr 2 _ _ _ hr
  have r3 := cell_of_row w gr 3 _ _ _ hr
  simp only [wc] at q0 q1 q2 q3 r0 r1 r2 r3
  simp [results, hf, go_sem, h4, h5, q0, q1, q2, q3, r0, r1, r2, r3, wc]

set_option maxRecDepth 100000 in
set_option maxHeartbeats 8000000 in
theorem rMul_any (a b : Nat) (ha : a < top) (hb : b < top) (w : World) :
    Calls Try.prog 31 #[.agg (wcells a), .agg (wcells b)] w fun e w' => e = .returned (.tuple #[.agg (wcells (a * b % top)), .agg (wcells (a * b / top))]) ∧ Below w.heap.size w w' := by
  have hH := keeps4z w a b
  have hm := make512
  go_enter Try.func31, Try.ntmps31
  have tk0 : True := trivial
  go_wp2_with (first | (have _t := tk0; refine wpList_box hH 0 rfl 24 _ rfl rfl rfl _ Try.underlying24 rfl (infoW _) ?_; clear _t tk0; have tk1 : True := trivial) | (have _t := tk1; go_at_call 46; refine (bits_any a ha _).mono ?_; rintro e W1 ⟨ga, rfl, hg, hcell, hb3⟩; replace hH := hH.gain hb3 hg hcell; clear hg hcell hb3 _t tk1; have tk2 : True := trivial) | (have _t := tk2; refine wpList_box hH 1 rfl 24 _ rfl rfl rfl _ Try.underlying24 rfl (infoW _) ?_; clear _t tk2; have tk3 : True := trivial) | (have _t := tk3; go_at_call 46; refine (bits_any b hb _).mono ?_; rintro e W2 ⟨gb, rfl, hg, hcell, hb3⟩; replace hH := hH.gain hb3 hg hcell; clear hg hcell hb3 _t tk3))
  have hH2 := hH.new (pbits 0 512 0) 3
  simp only [List.nil_append, List.cons_append] at hH2
  rw [gbits_zero] at hH2
  clear hH
  go_loopw [8, 9] (fun u v wr => ∃ i g : Nat, i ≤ 256 ∧ v = .int .i64 (i : Int) ∧ u = .slice (some ⟨g, 0, none⟩) 512 512 ∧ Keeps w [(w.heap.size, wcells a, 24), (w.heap.size + 1, wcells b, 24), (w.heap.size + 1 + 1, wcells 0, 24), (w.heap.size + 1 + 1 + 1, wcells 0, 24), (ga, ibits a 256, 3), (gb, ibits b 256, 3), (g, ibits (a % 2 ^ i * b) 512, 3)] wr) (fun _ v _ => 256 - (RowKit.intOf v).toNat)
  case atStart =>
    refine ⟨0, _, by omega, rfl, rfl, ?_⟩
    rw [Nat.pow_zero, Nat.mod_one, Nat.zero_mul, gbits_bits, gbits_ext (bitOf 0) (fun _ => 0) (fun i _ => bitOf_none i)]
    exact hH2
  case round =>
    clear hH2
    obtain ⟨i, g, hi, rfl, rfl, hH⟩ := hrel
    have cz : ((0 : Nat) : Int) = 0 := rfl
    have c1 : ((1 : Nat) : Int) = 1 := rfl
    by_cases hlt : i < 256
    · have hca := hH.cellOf 4 rfl i
      rw [ibits_get _ _ _ hlt] at hca
      have hbit := bitOf_le a i
      have hmb := mod_bit a i
      by_cases hb1 : bitOf a i = 1
      ·
        rw [hb1, c1] at hca
        rw [if_pos hb1] at hmb
        have hstep : a % 2 ^ i * b + b * 2 ^ i = a % 2 ^ (i + 1) * b := by rw [hmb, Nat.add_mul, Nat.mul_comm b]
        obtain ⟨S, hS⟩ : ∃ S, a % 2 ^ i * b = S := ⟨_, rfl⟩
        rw [hS] at hH hstep
        have HST := Lib.hid hstep
        have hH3 := hH.new (pbits 0 512 0) 3
        simp only [List.nil_append, List.cons_append] at hH3
        rw [gbits_zero] at hH3
        obtain ⟨p, hp⟩ : ∃ p, wr.heap.size = p := ⟨_, rfl⟩
        rw [hp] at hH3
        clear hH hmb hb1 hbit hS hstep
        go_wp2
        go_loopw [11] (fun v wq => ∃ k : Nat, k ≤ 256 ∧ v = .int .i64 (k : Int) ∧ Keeps w [(w.heap.size, wcells a, 24), (w.heap.size + 1, wcells b, 24), (w.heap.size + 1 + 1, wcells 0, 24), (w.heap.size + 1 + 1 + 1, wcells 0, 24), (ga, ibits a 256, 3), (gb, ibits b 256, 3), (g, ibits S 512, 3), (p, gbits (pb b i k), 3)] wq) (fun v _ => 256 - (RowKit.intOf v).toNat)
        case atStart =>
          refine ⟨0, by omega, rfl, ?_⟩
          rw [gbits_ext (pb b i 0) (fun _ => 0) (fun m hm => by unfold pb; rw [if_neg (by omega)])]
          exact hH3
        case round =>
          clear hH3 hca hm
          obtain ⟨k, hk, rfl, hH⟩ := hrel
          try rw [hp]
          by_cases hlk : k < 256
          · have hcy := hH.cellOf 5 rfl k
            rw [ibits_get _ _ _ hlk] at hcy
            have hcp := hH.cellOf 7 rfl (i + k)
            rw [gbits_get _ _ (by omega)] at hcp
            have hfp := hH.frozen 7 rfl (i + k)
            have w1 : IntKind.i64.wrap ((i : Int) + (k : Int)) = (i : Int) + (k : Int) := IntWalk.i64_in _ (by omega)
            have w2 : ((i : Int) + (k : Int)).toNat = i + k := by omega
            have hH2 := hH.cellSet 7 rfl (i + k) (.int .i64 (bitOf b k : Int))
            simp only [List.set_cons_succ, List.set_cons_zero] at hH2
            rw [gbits_set _ _ _ (by omega), gbits_ext _ (pb b i (k + 1)) (fun m hm => by
              unfold pb
              by_cases h : m = i + k
              · rw [if_pos h, if_pos (by omega), h, Nat.add_sub_cancel_left]
              · rw [if_neg h]
                by_cases h2 : i ≤ m ∧ m < i + k
                · rw [if_pos h2, if_pos (by omega)]
                · rw [if_neg h2, if_neg (by omega)])] at hH2
            have HH2 := Lib.hid hH2
            clear hH2 hH
            go_wp2
            go_roundw
            case rel => exact ⟨k + 1, by omega, by go_num, HH2.out⟩
            case measure => simp [RowKit.intOf]; omega
          · obtain rfl : k = 256 := by omega
            rw [gbits_ext (pb b i 256) (bitOf (b * 2 ^ i)) (fun m hm => by
              rw [bitOf_test, Nat.testBit_mul_two_pow]
              unfold pb
              by_cases h : i ≤ m
              · by_cases h2 : m < i + 256
                · rw [if_pos ⟨h, h2⟩, bitOf_test]
                  simp [h]
                · rw [if_neg (by omega)]
                  have h3 := bitOf_far b (m - i) hb (by omega)
                  rw [bitOf_test] at h3
                  simp [h, h3]
              · rw [if_neg (by omega)]
                simp [h]), ← gbits_bits] at hH
            go_wp2_with (first | (go_at_call 52; refine (radd_any S (b * 2 ^ i) 512 g p (by omega) _ (hH.get 6 rfl) (hH.get 7 rfl)).mono ?_; rintro e W2 ⟨g4, rfl, hg, hcell, hb3⟩; replace hH := hH.gain hb3 hg hcell; clear hg hcell hb3; rw [HST.out] at hH))
            go_roundw
            case rel => exact ⟨i + 1, g4, by omega, by go_num, rfl, Keeps.skip2 (l0 := [_, _, _, _, _, _]) hH⟩
            case measure => simp [RowKit.intOf]; omega
      ·
        have hb0 : bitOf a i = 0 := by omega
        rw [hb0, cz] at hca
        rw [if_neg hb1] at hmb
        have hmb2 : a % 2 ^ (i + 1) = a % 2 ^ i := hmb
        rw [← hmb2] at hH
        clear hmb hmb2 hb0 hb1 hbit hm
        go_wp2
        go_roundw
        case rel => exact ⟨i + 1, g, by omega, by go_num, rfl, hH⟩
        case measure => simp [RowKit.intOf]; omega
    ·
      obtain rfl : i = 256 := by omega
      have eS : a % 2 ^ 256 * b = a * b := by rw [← top256, Nat.mod_eq_of_lt ha]
      rw [eS] at hH
      have hS : a * b < top * top := Nat.mul_lt_mul'' ha hb
      have hhi : a * b / top < top := Nat.div_lt_of_lt_mul hS
      have hlo : a * b % top < top := mod_top _
      have HLO : Hid (∀ W, W.heap[g]? = some (.cells (ibits (a * b) 512) 3 (0, 0)) → Calls Try.prog 44 #[.slice (some ⟨g, 0, none⟩) 256 512] W fun e w' => e = .returned (.agg (wcells (a * b % top))) ∧ Below W.heap.size W w') := fun W h =>
        number_any (a * b % top) g 0 512 hlo W (Array.getElem?_eq_some_iff.1 h).1 fun i hi => by
          rw [Nat.zero_add, cell_of_row _ _ _ _ _ _ h, ibits_get _ _ _ (by omega), top256, bitOf_mod _ _ _ hi]
      have HHI : Hid (∀ W, W.heap[g]? = some (.cells (ibits (a * b) 512) 3 (0, 0)) → Calls Try.prog 44 #[.slice (some ⟨g, 256, none⟩) 256 256] W fun e w' => e = .returned (.agg (wcells (a * b / top))) ∧ Below W.heap.size W w') := fun W h =>
        number_any (a * b / top) g 256 256 hhi W (Array.getElem?_eq_some_iff.1 h).1 fun i hi => by
          rw [cell_of_row _ _ _ _ _ _ h, ibits_get _ _ _ (by omega), top256, bitOf_shr, Nat.add_comm i 256]
      clear hS hhi hlo eS
      go_wp2
      apply wp_keepsL (W0 := w)
      case hreg =>
        refine anyK_start2 (l0 := [(w.heap.size, wcells a, 24), (w.heap.size + 1, wcells b, 24)]) (m := [(w.heap.size + 1 + 1, wcells 0, 24), (w.heap.size + 1 + 1 + 1, wcells 0, 24), (ga, ibits a 256, 3), (gb, ibits b 256, 3), (g, ibits (a * b) 512, 3)]) 8 rfl (by kernel_rfl) hH ?_
        refine AnyK.take 0 (some 46) rfl rfl (by kernel_rfl) (by kernel_rfl) (by kernel_rfl) (fun _ _ _ h => nomatch h.1) (v := _) (.inl ⟨by rfl, fun W hW => by first | (go_simp; done) | (go_simp; rfl)⟩) ?_
        simp only [Act.put, List.setIfInBounds_toArray, List.set_cons_zero, List.set_cons_succ]
        refine AnyK.take 1 (some 47) rfl rfl (by kernel_rfl) (by kernel_rfl) (by kernel_rfl) (fun _ _ _ h => nomatch h.1) (v := _) (.inl ⟨by rfl, fun W hW => by first | (go_simp; done) | (go_simp; rfl)⟩) ?_
        simp only [Act.put, List.setIfInBounds_toArray, List.set_cons_zero, List.set_cons_succ]
        refine AnyK.take 3 (some 49) rfl rfl (by kernel_rfl) (by kernel_rfl) (by kernel_rfl) (fun _ _ _ h => nomatch h.1) (v := _) (.inl ⟨by rfl, fun W hW => by first | (go_simp; done) | (go_simp; rfl)⟩) ?_
        simp only [Act.put, List.setIfInBounds_toArray, List.set_cons_zero, List.set_cons_succ]
        refine AnyK.take 4 (some 50) rfl rfl (by kernel_rfl) (by kernel_rfl) (by kernel_rfl) (fun _ _ _ h => nomatch h.1) (v := _) (.inl ⟨by rfl, fun W hW => by first | (go_simp; done) | (go_simp; rfl)⟩) ?_
        simp only [Act.put, List.setIfInBounds_toArray, List.set_cons_zero, List.set_cons_succ]
        refine AnyK.ready [2] (by kernel_rfl) (by simp) ?_
        refine steps_cons ?_ steps_nil
        refine stepK_callK (i := 2) (some 48) rfl rfl rfl (fun W => by go_simp) (fun W hW => HLO.out W (hW.get 6 rfl)) ?_
        simp only [Act.put, List.setIfInBounds_toArray, List.set_cons_zero, List.set_cons_succ]
        refine AnyK.ready [5] (by kernel_rfl) (by simp) ?_
        refine steps_cons ?_ steps_nil
        refine stepK_callK (i := 5) (some 51) rfl rfl rfl (fun W => by go_simp) (fun W hW => HHI.out W (hW.get 6 rfl)) ?_
        simp only [Act.put, List.setIfInBounds_toArray, List.set_cons_zero, List.set_cons_succ]
        refine AnyK.ready [6] (by kernel_rfl) (by simp) ?_
        refine steps_cons ?_ steps_nil
        refine StepK.store 0 (i := 6) rfl rfl rfl 24 _ _ rfl rfl rfl rfl (infoW _) rfl (oneW _) ?_
        refine AnyK.ready [7] (by kernel_rfl) (by simp) ?_
        refine steps_cons ?_ steps_nil
        refine StepK.store 1 (i := 7) rfl rfl rfl 24 _ _ rfl rfl rfl rfl (infoW _) rfl (oneW _) ?_
        refine AnyK.done (by kernel_rfl) ?_
        exact fun W hW => ⟨rfl, rfl, hW⟩
      clear hH
      intro W3 hH
      simp only [List.nil_append, List.cons_append, List.set_cons_zero, List.set_cons_succ] at hH
      go_wp2
      exact bodyPost_ret (results_2c _ _ _ _ _ (a * b % top) (a * b / top) rfl rfl rfl (hH.get 2 rfl) (hH.get 3 rfl)) rfl ⟨rfl, hH.bel⟩
end Go.Proofs.Ytgmgejjlhlibkaa.Oct
