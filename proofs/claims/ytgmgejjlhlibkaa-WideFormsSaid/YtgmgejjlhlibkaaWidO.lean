/- The iterator of wide.Div's digits. -/
import Derived.Test.YtgmgejjlhlibkaaWidN
import Derived.IntWalk
import Derived.Test.YtgmgejjlhlibkaaWideE
namespace Go.Proofs.Ytgmgejjlhlibkaa
set_option linter.unusedVariables false
open Go.RowKit Go.Shelf Go.Lib
attribute [local go_sem] Oper.semAt_some

/-- The digits of a quotient from the highest place on down to k. -/
def digs (a b k : Nat) : List (Nat × Bool) := (List.range (blen a - k)).map fun i => (blen a - 1 - i, oneAt a b (blen a - 1 - i))
theorem digs_top (a b : Nat) : digs a b (blen a) = [] := by simp [digs]
theorem digs_step (a b k : Nat) (hk : k < blen a) : digs a b k = digs a b (k + 1) ++ [(k, oneAt a b k)] := by
  unfold digs
  rw [show blen a - k = (blen a - (k + 1)) + 1 by omega, List.range_succ, List.map_append]
  have : blen a - 1 - (blen a - (k + 1)) = k := by omega
  simp [this]
theorem digs_length (a b k : Nat) : (digs a b k).length = blen a - k := by simp [digs]

theorem wc (n : Nat) : wcells n = #[.int .u64 (w0 n : Int), .int .u64 (w1 n : Int), .int .u64 (w2 n : Int), .int .u64 (w3 n : Int)] := rfl
def wAt (n k : Nat) : Nat := n / 18446744073709551616 ^ k % 18446744073709551616
theorem wcells_at (n k : Nat) (hk : k < 4) : (wcells n)[k]? = some (.int .u64 (wAt n k : Int)) := by
  have : k = 0 ∨ k = 1 ∨ k = 2 ∨ k = 3 := by omega
  unfold wAt
  rcases this with rfl | rfl | rfl | rfl
  · simp [wc, w0]
  · simp [wc, w1]
  · simp [wc, w2]
  · simp [wc, w3]
theorem word_at (n k : Nat) : word (wAt n k) := by unfold word wAt; omega
theorem bit_at (n j : Nat) : wAt n (j / 64) / 2 ^ (j % 64) % 2 = bitOf n j := by
  unfold wAt bitOf
  have e : (2 : Nat) ^ j = 18446744073709551616 ^ (j / 64) * 2 ^ (j % 64) := by
    rw [show (18446744073709551616 : Nat) = 2 ^ 64 by decide, ← Nat.pow_mul, ← Nat.pow_add]
    congr 1
    omega
  rw [e, ← Nat.div_div_eq_div_mul]
  generalize n / 18446744073709551616 ^ (j / 64) = x
  have hp : j % 64 < 64 := by omega
  generalize j % 64 = p at hp
  have e2 : (18446744073709551616 : Nat) = 2 ^ p * (2 * 2 ^ (63 - p)) := by
    rw [← Nat.pow_succ', ← Nat.pow_add, show p + (63 - p + 1) = 64 by omega]
  rw [e2, Nat.mod_mul_right_div_self, Nat.mod_mul_right_mod]

theorem len_names (n : Nat) (hn : n < top) : blen n ≤ 256 := by
  refine blen_le_of n 256 ?_
  have : top = 2 ^ 256 := by unfold top; decide +kernel
  rwa [← this]

def pcell (b : Nat) : Array Value := #[.pointer (some ⟨b, 0, none⟩)]
abbrev T81 : TypeId := 81
abbrev rows4 (Ba Br Bb Bp a b r : Nat) : List (Nat × Array Value × TypeId) := [(Ba, wcells a, 24), (Bp, pcell Br, 81), (Bb, wcells b, 24), (Br, wcells r, 24)]

theorem set_bit (d c : Nat) (hd : 2 * d + c < top) (hc : c ≤ 1) : (wcells (2 * d)).setIfInBounds 0 (.int .u64 ((w0 (2 * d) ||| c : Nat) : Int)) = wcells (2 * d + c) ∧ w0 (2 * d) ||| c < 18446744073709551616 := by
  have e : w0 (2 * d) ||| c = w0 (2 * d + c) := by
    have h1 := or_add 1 (w0 (2 * d) / 2) c (by omega)
    have h2 : w0 (2 * d) / 2 * 2 ^ 1 = w0 (2 * d) := by unfold w0; omega
    rw [h2] at h1
    rw [h1]
    unfold w0
    omega
  have e1 : w1 (2 * d + c) = w1 (2 * d) := by unfold w1; omega
  have e2 : w2 (2 * d + c) = w2 (2 * d) := by unfold w2; omega
  have e3 : w3 (2 * d + c) = w3 (2 * d) := by unfold w3; omega
  rw [e]
  refine ⟨?_, by unfold w0; omega⟩
  rw [wc, wc, e1, e2, e3]
  rfl

set_option maxRecDepth 100000 in
set_option maxHeartbeats 4000000 in
theorem dig1_in (n : Nat) (hn : 1 ≤ n) (l Ba Br Bb Bp a b : Nat) (ha : a < top) (hb : b < top) (hb0 : 0 < b) (J Jx : List (Nat × Bool) → World → Prop)
    (hJo : ∀ s A B, J s A → A.grownBy B (some Br) → J s B)
    (HLEN : Hid (∀ W, Calls Try.prog 22 #[.agg (wcells a)] W fun e w' => e = .returned (.int .i64 (blen a : Int)) ∧ Below W.heap.size W w'))
    (hY : ∀ pre (x : Nat × Bool) W, J pre W → pre.length < 256 → x.1 < 256 → YieldAt Fence.wide (n - 1) Try.prog l #[.int .i64 (x.1 : Int), .bool x.2] W fun e W' =>
      (e = .returned (.bool true) ∧ J (pre ++ [x]) W' ∧ (∀ g, g = Ba ∨ g = Br ∨ g = Bb ∨ g = Bp → W'.heap[g]? = W.heap[g]?)) ∨ (e = .returned (.bool false) ∧ Jx (pre ++ [x]) W'))
    (W : World) (hK : Kept W Br (rows4 Ba Br Bb Bp a b 0) W) (h0 : J [] W) :
    CallsIn Fence.wide n Try.prog 66 #[.func (.yield l) #[] #[], .pointer (some ⟨Ba, 0, none⟩), .pointer (some ⟨Bp, 0, none⟩), .pointer (some ⟨Bb, 0, none⟩)] W fun e W' =>
      (∃ v, e = .returned v) ∧ ((J (digs a b 0) W' ∧ W'.heap[Br]? = some (.cells (wcells (rem a b 0)) 24 (0, 0))) ∨ ∃ pre, Jx pre W') := by
  have hl256 := len_names a ha
  refine callsIn_of_wp Try.func66 rfl trivial ?_ rfl
  simp only [Try.ntmps66, List.size_toArray, List.length_cons, List.length_nil, Nat.reduceAdd, Nat.reduceSub, Array.replicate_succ, Array.replicate_zero, List.push_toArray, List.append_toArray, List.nil_append, List.cons_append]
  refine wpIn_wide.2 ?_
  obtain ⟨L, hL⟩ : ∃ L, blen a = L := ⟨_, rfl⟩
  rw [hL] at HLEN hl256
  have HL := Lib.hid hL
  clear hL
  go_wp2_with (first | (refine wpList_load_row rfl 24 _ rfl Ba rfl 24 (wcells a) (0, 0) _ (hK.get 0 rfl) Try.underlying24 rfl (infoW _) ?_) | (go_at_call 22; refine (HLEN.out _).mono ?_; rintro e w2 ⟨rfl, hB2⟩))
  have hK2 := hK.call hB2
  have hJ2 := hJo _ _ _ h0 hK2.grown
  have hz : rem a b L = 0 := by rw [← HL.out]; exact rem_top a b
  have hd : digs a b L = [] := by rw [← HL.out]; exact digs_top a b
  go_loopw [5] (fun v wr => ∃ k : Nat, k ≤ L ∧ v = .int .i64 ((k : Int) - 1) ∧ Kept wr Br (rows4 Ba Br Bb Bp a b (rem a b k)) wr ∧ J (digs a b k) wr) (fun v _ => (intOf v + 1).toNat)
  case atStart => exact ⟨L, Nat.le_refl _, rfl, by rw [hz]; exact Kept.refl _ _ _ hK2.rows hK2.apart, by rw [hd]; exact hJ2⟩
  case round =>
    obtain ⟨k, hkL, rfl, hKr, hJ⟩ := hrel
    rcases k with _ | j
    · go_wp2
      go_end0
      exact ⟨⟨_, rfl⟩, .inl ⟨hJ, hKr.get 3 rfl⟩⟩
    · have hj : (((j + 1 : Nat) : Int) - 1) = (j : Int) := by omega
      rw [hj]
      have hj256 : j < 256 := by omega
      clear hj
      refine (wpIn_wide (n := n)).1 ?_
      gi_wp2
      refine wpIn_wide.2 ?_
      obtain ⟨r, hr⟩ : ∃ r, rem a b (j + 1) = r := ⟨_, rfl⟩
      have hs := shifted_lt a b j ha
      have hs2 := shifted_lt2 a b j hb0
      have hbit := bitOf_le a j
      unfold shifted at hs hs2
      rw [hr] at hs hs2 hKr
      have HLEFT : Hid (∀ W, Calls Try.prog 32 #[.agg (wcells r), .int .i64 1] W fun e w' => e = .returned (.agg (wcells (2 * r))) ∧ Below W.heap.size W w') := fun W => by
        have h := left_any r 1 (by omega) W
        rw [show r * 2 ^ (1 : Int).toNat % top = 2 * r by rw [show (1 : Int).toNat = 1 by rfl, Nat.pow_one, Nat.mul_comm]; exact Nat.mod_eq_of_lt (by omega)] at h
        exact h
      refine wp_region_class_tail (C := Kept wr Br (rows4 Ba Br Bb Bp a b r)) 6 (by kernel_rfl) (by kernel_rfl) hKr.drew ?_
      simp only [List.take_succ_cons, List.take_zero, List.drop_succ_cons, List.drop_zero]
      refine quiet_cell 1 rfl 81 _ rfl _ rfl rfl (fun W hc => by go_simp) ?_
      refine quiet_cell 1 rfl 81 _ rfl _ rfl rfl (fun W hc => by go_simp) ?_
      (refine wpQuiet_step (fun K hK => ?_); go_simp; (first | refine hK _ ?_ | refine ⟨_, fun _ _ => rfl, hK _ ?_⟩); clear hK K)
      refine quiet_kept 3 rfl 24 _ rfl rfl rfl _ Try.underlying24 rfl (infoW _) ?_
      (refine wpQuiet_step (fun K hK => ?_); go_simp; refine ⟨_, fun W hW => (HLEFT.out W).mono fun _ _ h => ⟨h.1, hW.call h.2⟩, hK _ ?_⟩; clear hK K)
      (refine wpQuiet_step (fun K hK => ?_); go_simp; (first | refine hK _ ?_ | refine ⟨_, fun _ _ => rfl, hK _ ?_⟩); clear hK K)
      refine wpQuiet_nil ?_
      intro W1 hK1
      refine wpList_keptput hK1 3 rfl 24 _ _ rfl rfl rfl rfl (infoW _) rfl (oneW _) ?_
      clear hK1
      intro W1 hK1
      unfold wpList
      gi_wp2
      refine wpIn_wide.2 ?_
      have hcp := hK1.cell 1 rfl 0
      have hc0 := hK1.cell 3 rfl 0
      have hf0 := hK1.frozen 3 rfl 0
      simp only [pcell, wc] at hcp hc0
      have hca := hK1.cell 0 rfl (j / 64)
      rw [wcells_at a _ (by omega)] at hca
      have hw := word_at a (j / 64)
      unfold word at hw
      have z1 : IntKind.i64.wrap ((j : Int) / 64) = (j : Int) / 64 := IntWalk.i64_in _ (by omega)
      have z2 : IntKind.i64.wrap ((j : Int) % 64) = (j : Int) % 64 := IntWalk.i64_in _ (by omega)
      have z3 : ((j : Int) / 64).toNat = j / 64 := by omega
      have z4 : ((j : Int) % 64).toNat = j % 64 := by omega
      have z5 : (0 : Int) ≤ (j : Int) / 64 := by omega
      have z6 : (j : Int) / 64 < 4 := by omega
      have z7 : (0 : Int) ≤ (j : Int) % 64 := by omega
      have z8 : (j : Int) % 64 ≤ 64 := by omega
      have ev : bits .or .u64 (w0 (2 * r) : Int) (bits .and .u64 ((wAt a (j / 64) : Int) / 2 ^ (j % 64)) 1) = ((w0 (2 * r) ||| bitOf a j : Nat) : Int) := by
        rw [div_pow_int, show (1 : Int) = ((1 : Nat) : Int) by rfl, u64_and_nat _ 1 (div_word (word_at a (j / 64)) _) (by omega), Nat.and_one_is_mod, bit_at, u64_or_nat _ _ (by unfold w0; omega) (by omega)]
      go_frame
      go_region
      gi_wp2
      refine wpIn_wide.2 ?_
      have hK2 := (hK1.set_ 3 rfl 0 (.int .u64 ((w0 (2 * r) ||| bitOf a j : Nat) : Int))).drew
      simp only [List.set_cons_succ, List.set_cons_zero] at hK2
      rw [(set_bit r (bitOf a j) hs hbit).1] at hK2
      clear hcp hc0 hf0 hca ev z1 z2 z3 z4 z5 z6 z7 z8 hw
      generalize hW2 : (W1.setCell _ _).drew = W2 at *
      clear hW2 hK1
      obtain ⟨sh, hsh⟩ : ∃ sh, 2 * r + bitOf a j = sh := ⟨_, rfl⟩
      rw [hsh] at hK2 hs hs2
      have hcmp := fun W => compare_any sh b hs hb W
      obtain ⟨c, hc⟩ : ∃ c, cmpI sh b = c := ⟨_, rfl⟩
      rw [hc] at hcmp
      have HCMP := Lib.hid hcmp
      clear hcmp
      refine wp_region_class (C := Kept wr Br (rows4 Ba Br Bb Bp a b sh)) (by kernel_rfl) (by kernel_rfl) hK2.drew ?_
      refine quiet_cell 1 rfl 81 _ rfl _ rfl rfl (fun W hc => by go_simp) ?_
      (refine wpQuiet_step (fun K hK => ?_); go_simp; (first | refine hK _ ?_ | refine ⟨_, fun _ _ => rfl, hK _ ?_⟩); clear hK K)
      refine quiet_kept 3 rfl 24 _ rfl rfl rfl _ Try.underlying24 rfl (infoW _) ?_
      refine quiet_kept 2 rfl 24 _ rfl rfl rfl _ Try.underlying24 rfl (infoW _) ?_
      (refine wpQuiet_step (fun K hK => ?_); go_simp; refine ⟨_, fun W hW => (HCMP.out W).mono fun _ _ h => ⟨h.1, hW.call h.2⟩, hK _ ?_⟩; clear hK K)
      (refine wpQuiet_step (fun K hK => ?_); go_simp; (first | refine hK _ ?_ | refine ⟨_, fun _ _ => rfl, hK _ ?_⟩); clear hK K)
      (refine wpQuiet_step (fun K hK => ?_); go_simp; (first | refine hK _ ?_ | refine ⟨_, fun _ _ => rfl, hK _ ?_⟩); clear hK K)
      refine wpQuiet_nil ?_
      clear hK2
      intro W3 hK3
      by_cases hone : b ≤ sh
      · have hc0 : 0 ≤ c := by rw [← hc]; unfold cmpI; split <;> (try split) <;> omega
        have hc1 : decide (0 ≤ c) = true := by simpa using hc0
        clear hc
        have HSUB : Hid (∀ W, Calls Try.prog 28 #[.agg (wcells sh), .agg (wcells b)] W fun e w' => e = .returned (.tuple #[.agg (wcells (sh - b)), .bool (decide (sh < b))]) ∧ Below W.heap.size W w') := fun W => by
          have h := sub_any sh b hs hb W
          rw [show (sh + top - b) % top = sh - b by rw [show sh + top - b = (sh - b) + top by omega, Nat.add_mod_right]; exact Nat.mod_eq_of_lt (by omega)] at h
          exact h
        gi_wp2
        refine wpIn_wide.2 ?_
        apply wp_kept (A := wr) (g := Br) (L := rows4 Ba Br Bb Bp a b (sh - b))
        case hreg =>
          refine AnyR.start (A := wr) (g := Br) (l0 := [(Ba, wcells a, 24), (Bp, pcell Br, 81), (Bb, wcells b, 24)]) (m := [(Br, wcells sh, 24)]) 11 rfl (by kernel_rfl) hK3 ?_
          refine AnyR.take 0 (some 43) rfl rfl (by kernel_rfl) (by kernel_rfl) (by kernel_rfl) (fun _ _ _ h => nomatch h.1) (yieldsIf_cell 1 rfl 81 _ rfl _ rfl rfl (fun W hc => by go_simp)) ?_
          simp only [Act.put, List.setIfInBounds_toArray, List.set_cons_zero, List.set_cons_succ]
          refine AnyR.take 1 (some 44) rfl rfl (by kernel_rfl) (by kernel_rfl) (by kernel_rfl) (fun _ _ _ h => nomatch h.1) (yieldsIf_cell 1 rfl 81 _ rfl _ rfl rfl (fun W hc => by go_simp)) ?_
          simp only [Act.put, List.setIfInBounds_toArray, List.set_cons_zero, List.set_cons_succ]
          refine AnyR.take 2 (some 45) rfl rfl (by kernel_rfl) (by kernel_rfl) (by kernel_rfl) (fun _ _ _ h => nomatch h.1) (v := _) (.inl ⟨by rfl, fun W hW => by first | (go_simp; done) | (go_simp; rfl)⟩) ?_
          simp only [Act.put, List.setIfInBounds_toArray, List.set_cons_zero, List.set_cons_succ]
          refine AnyR.take 4 (some 47) rfl rfl (by kernel_rfl) (by kernel_rfl) (by kernel_rfl) (fun _ _ _ h => nomatch h.1) (yieldsIf_kept 2 rfl 24 _ rfl rfl rfl _ Try.underlying24 rfl (infoW _)) ?_
          simp only [Act.put, List.setIfInBounds_toArray, List.set_cons_zero, List.set_cons_succ]
          refine AnyR.ready [3] (by kernel_rfl) (by simp) ?_
          refine steps_cons ?_ steps_nil
          refine StepR.load (i := 3) 3 (some 46) rfl rfl rfl 24 _ rfl rfl rfl _ Try.underlying24 rfl (infoW _) ?_
          simp only [Act.put, List.setIfInBounds_toArray, List.set_cons_zero, List.set_cons_succ]
          refine AnyR.ready [5] (by kernel_rfl) (by simp) ?_
          refine steps_cons ?_ steps_nil
          refine StepR.call (i := 5) (some 48) rfl rfl rfl (fun W => by go_simp) HSUB.out ?_
          simp only [Act.put, List.setIfInBounds_toArray, List.set_cons_zero, List.set_cons_succ]
          refine AnyR.take 6 (some 42) rfl rfl (by kernel_rfl) (by kernel_rfl) (by kernel_rfl) (fun _ _ _ h => nomatch h.1) (v := _) (.inl ⟨by rfl, fun W hW => by first | (go_simp; done) | (go_simp; rfl)⟩) ?_
          simp only [Act.put, List.setIfInBounds_toArray, List.set_cons_zero, List.set_cons_succ]
          refine AnyR.take 7 (some 49) rfl rfl (by kernel_rfl) (by kernel_rfl) (by kernel_rfl) (fun _ _ _ h => nomatch h.1) (v := _) (.inl ⟨by rfl, fun W hW => by first | (go_simp; done) | (go_simp; rfl)⟩) ?_
          simp only [Act.put, List.setIfInBounds_toArray, List.set_cons_zero, List.set_cons_succ]
          refine AnyR.take 8 (some 50) rfl rfl (by kernel_rfl) (by kernel_rfl) (by kernel_rfl) (fun _ _ _ h => nomatch h.1) (v := _) (.inl ⟨by rfl, fun W hW => by first | (go_simp; done) | (go_simp; rfl)⟩) ?_
          simp only [Act.put, List.setIfInBounds_toArray, List.set_cons_zero, List.set_cons_succ]
          refine AnyR.take 9 (some 51) rfl rfl (by kernel_rfl) (by kernel_rfl) (by kernel_rfl) (fun _ _ _ h => nomatch h.1) (v := _) (.inl ⟨by rfl, fun W hW => by first | (go_simp; done) | (go_simp; rfl)⟩) ?_
          simp only [Act.put, List.setIfInBounds_toArray, List.set_cons_zero, List.set_cons_succ]
          refine AnyR.ready [10] (by kernel_rfl) (by simp) ?_
          refine steps_cons ?_ steps_nil
          refine StepR.store (i := 10) 0 rfl rfl rfl 24 _ _ rfl rfl rfl rfl (infoW _) rfl (oneW _) ?_
          refine AnyR.done (by kernel_rfl) ?_
          intro W hW
          exact ⟨rfl, rfl, hW⟩
        case hcont =>
          clear hK3
          intro W3 hK3
          have hJ3 := hJo _ _ _ hJ hK3.grown
          have hpl : (digs a b (j + 1)).length < 256 := by rw [digs_length, HL.out]; omega
          have hst : digs a b j = digs a b (j + 1) ++ [(j, true)] := by
            rw [digs_step a b j (by rw [HL.out]; omega)]
            have : oneAt a b j = true := by unfold oneAt shifted; rw [hr, hsh]; simp; omega
            rw [this]
          have HST := Lib.hid hst
          have hrem : rem a b j = sh - b := by
            rw [rem_step a b j hb0]
            have : oneAt a b j = true := by unfold oneAt shifted; rw [hr, hsh]; simp; omega
            rw [this]
            unfold shifted
            rw [hr, hsh]
            rfl
          have HREM := Lib.hid hrem
          clear hst hrem hr hsh
          obtain ⟨f1, t1, a1, b1, hy, hR⟩ := hY (digs a b (j + 1)) (j, true) _ hJ3 hpl hj256
          gi_wp2
          refine hR.mono ?_
          rintro e W4 (⟨rfl, hJ4, hk4⟩ | ⟨rfl, hJx4⟩)
          · gi_wp2
            go_roundw
            case rel =>
              refine ⟨j, by omega, rfl, ?_, by rw [HST.out]; exact hJ4⟩
              rw [HREM.out]
              refine Kept.refl _ _ _ (fun i p hi => ?_) hK3.apart
              rw [hk4 p.1 (by
                match i, hi with
                | 0, hi => cases hi; exact .inl rfl
                | 1, hi => cases hi; exact .inr (.inr (.inr rfl))
                | 2, hi => cases hi; exact .inr (.inr (.inl rfl))
                | 3, hi => cases hi; exact .inr (.inl rfl))]
              exact hK3.rows i p hi
            case measure => simp [intOf]
          · gi_wp2
            refine bodyPost_ret (results_none rfl _ _ _) rfl ?_
            exact ⟨⟨_, rfl⟩, .inr ⟨_, hJx4⟩⟩
      · have hc0 : c < 0 := by rw [← hc]; unfold cmpI; split <;> (try split) <;> omega
        have hc1 : decide (0 ≤ c) = false := by simpa using hc0
        clear hc
        have hJ3 := hJo _ _ _ hJ hK3.grown
        have hpl : (digs a b (j + 1)).length < 256 := by rw [digs_length, HL.out]; omega
        have hst : digs a b j = digs a b (j + 1) ++ [(j, false)] := by
          rw [digs_step a b j (by rw [HL.out]; omega)]
          have : oneAt a b j = false := by unfold oneAt shifted; rw [hr, hsh]; simp; omega
          rw [this]
        have HST := Lib.hid hst
        have hrem : rem a b j = sh := by
          rw [rem_step a b j hb0]
          have : oneAt a b j = false := by unfold oneAt shifted; rw [hr, hsh]; simp; omega
          rw [this]
          unfold shifted
          rw [hr, hsh]
          rfl
        have HREM := Lib.hid hrem
        clear hst hrem hr hsh
        obtain ⟨f1, t1, a1, b1, hy, hR⟩ := hY (digs a b (j + 1)) (j, false) _ hJ3 hpl hj256
        gi_wp2
        refine hR.mono ?_
        rintro e W4 (⟨rfl, hJ4, hk4⟩ | ⟨rfl, hJx4⟩)
        · gi_wp2
          go_roundw
          case rel =>
            refine ⟨j, by omega, rfl, ?_, by rw [HST.out]; exact hJ4⟩
            rw [HREM.out]
            refine Kept.refl _ _ _ (fun i p hi => ?_) hK3.apart
            rw [hk4 p.1 (by
              match i, hi with
              | 0, hi => cases hi; exact .inl rfl
              | 1, hi => cases hi; exact .inr (.inr (.inr rfl))
              | 2, hi => cases hi; exact .inr (.inr (.inl rfl))
              | 3, hi => cases hi; exact .inr (.inl rfl))]
            exact hK3.rows i p hi
          case measure => simp [intOf]
        · gi_wp2
          refine bodyPost_ret (results_none rfl _ _ _) rfl ?_
          exact ⟨⟨_, rfl⟩, .inr ⟨_, hJx4⟩⟩
end Go.Proofs.Ytgmgejjlhlibkaa
