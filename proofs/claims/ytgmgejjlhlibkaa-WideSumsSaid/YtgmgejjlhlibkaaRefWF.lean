/- The document's differences, bit by bit. Numbers are below 2^256. -/
import Derived.Test.YtgmgejjlhlibkaaRefWE
namespace Go.Proofs.Ytgmgejjlhlibkaa.Oct
set_option linter.unusedVariables false
open Go.Proofs.Ytgmgejjlhlibkaa Go.RowKit Go.Shelf

set_option maxRecDepth 100000 in
set_option maxHeartbeats 4000000 in
theorem rSub_words (a b nb c1 c2 res : Nat) (und : Bool) (ha : a < top) (hb : b < top) (hnb : nb < top) (hres : (a + nb + 1) % top = res) (hc1 : carry a nb 256 = c1) (hc2 : carry (a + nb) 1 256 = c2)
    (HN : Hid (∀ w, Calls Try.prog 37 #[.agg (wcells b)] w fun e w' => e = .returned (.agg (wcells nb)) ∧ Below w.heap.size w w'))
    (h1 : c1 ≤ 1) (h2 : c2 ≤ 1) (hu : (c1 == 0 && c2 == 0) = und) (w : World) :
    Calls Try.prog 29 #[.agg (wcells a), .agg (wcells b)] w fun e w' => e = .returned (.tuple #[.agg (wcells res), .bool und]) ∧ Below w.heap.size w w' := by
  have hH := keeps3z w a b
  have h1lt : 1 < top := by unfold top; omega
  have HO : Hid (∀ w, Calls Try.prog 17 #[.int .u64 1] w fun e w' => e = .returned (.agg (wcells 1)) ∧ Below w.heap.size w w') := fun w => rOf_any 1 (by unfold word; omega) w
  have HRES := Lib.hid hres
  have HC1 := Lib.hid hc1
  have HC2 := Lib.hid hc2
  have HU := Lib.hid hu
  clear hres hc1 hc2 hu
  go_enter Try.func29, Try.ntmps29
  go_wp2_with fail
  generalize (((w.alloc (.cells (wcells a) _)).alloc (.cells (wcells b) _)).alloc _) = W0 at *
  go_wp2_with (first | (go_at_call 17; with_reducible refine (HO.out _).mono ?_; rintro e W1 ⟨rfl, hB⟩; replace hH := hH.call hB; clear hB) | (refine wpList_fill hH rfl 24 _ _ rfl rfl rfl (infoW _) rfl (oneW _) ?_; clear hH; intro W1 hH))
  apply wp_boxes3 (W0 := w)
  case hreg =>
    refine AnyK.start 11 rfl (by kernel_rfl) hH ?_
    refine AnyK.take 0 (some 13) rfl rfl (by kernel_rfl) (by kernel_rfl) (by kernel_rfl) (fun _ _ _ h => nomatch h.1) (yieldsIf_box 0 rfl 24 _ rfl rfl rfl _ Try.underlying24 rfl (infoW _)) ?_
    simp only [Act.put, List.setIfInBounds_toArray, List.set_cons_zero, List.set_cons_succ]
    refine AnyK.take 2 (some 15) rfl rfl (by kernel_rfl) (by kernel_rfl) (by kernel_rfl) (fun _ _ _ h => nomatch h.1) (yieldsIf_box 1 rfl 24 _ rfl rfl rfl _ Try.underlying24 rfl (infoW _)) ?_
    simp only [Act.put, List.setIfInBounds_toArray, List.set_cons_zero, List.set_cons_succ]
    refine AnyK.ready [1] (by kernel_rfl) (by simp) ?_
    refine steps_cons ?_ steps_nil
    refine StepK.row (i := 1) (some 14) rfl rfl rfl (fun W => by go_simp) (fun W _ => bits_any a ha W) (fun g1 => ?_)
    simp only [Act.put, List.setIfInBounds_toArray, List.set_cons_zero, List.set_cons_succ]
    refine AnyK.ready [3] (by kernel_rfl) (by simp) ?_
    refine steps_cons ?_ steps_nil
    refine StepK.call (i := 3) (some 16) rfl rfl rfl (fun W => by go_simp) HN.out ?_
    simp only [Act.put, List.setIfInBounds_toArray, List.set_cons_zero, List.set_cons_succ]
    refine AnyK.ready [4] (by kernel_rfl) (by simp) ?_
    refine steps_cons ?_ steps_nil
    refine StepK.row (i := 4) (some 17) rfl rfl rfl (fun W => by go_simp) (fun W _ => bits_any nb hnb W) (fun g2 => ?_)
    simp only [Act.put, List.setIfInBounds_toArray, List.set_cons_zero, List.set_cons_succ]
    refine AnyK.ready [5] (by kernel_rfl) (by simp) ?_
    refine steps_cons ?_ steps_nil
    refine StepK.sum (i := 5) (some 18) rfl rfl rfl (fun W => by go_simp) (fun W hW => radd_any a nb 256 g1 g2 (by omega) W (hW.get 4 rfl) (hW.get 5 rfl)) (fun g3 => ?_)
    simp only [Act.put, List.setIfInBounds_toArray, List.set_cons_zero, List.set_cons_succ]
    refine AnyK.take 6 (some 12) rfl rfl (by kernel_rfl) (by kernel_rfl) (by kernel_rfl) (fun _ _ _ h => nomatch h.1) (v := _) (.inl ⟨by rfl, fun W hW => by first | (go_simp; done) | (go_simp; rfl)⟩) ?_
    simp only [Act.put, List.setIfInBounds_toArray, List.set_cons_zero, List.set_cons_succ]
    refine AnyK.take 7 (some 19) rfl rfl (by kernel_rfl) (by kernel_rfl) (by kernel_rfl) (fun _ _ _ h => nomatch h.1) (v := _) (.inl ⟨by rfl, fun W hW => by first | (go_simp; done) | (go_simp; rfl)⟩) ?_
    simp only [Act.put, List.setIfInBounds_toArray, List.set_cons_zero, List.set_cons_succ]
    refine AnyK.take 8 (some 20) rfl rfl (by kernel_rfl) (by kernel_rfl) (by kernel_rfl) (fun _ _ _ h => nomatch h.1) (v := _) (.inl ⟨by rfl, fun W hW => by first | (go_simp; done) | (go_simp; rfl)⟩) ?_
    simp only [Act.put, List.setIfInBounds_toArray, List.set_cons_zero, List.set_cons_succ]
    refine AnyK.take 9 (some 7) rfl rfl (by kernel_rfl) (by kernel_rfl) (by kernel_rfl) (fun _ _ _ h => nomatch h.1) (v := _) (.inl ⟨by rfl, fun W hW => by first | (go_simp; done) | (go_simp; rfl)⟩) ?_
    simp only [Act.put, List.setIfInBounds_toArray, List.set_cons_zero, List.set_cons_succ]
    refine AnyK.take 10 (some 8) rfl rfl (by kernel_rfl) (by kernel_rfl) (by kernel_rfl) (fun _ _ _ h => nomatch h.1) (v := _) (.inl ⟨by rfl, fun W hW => by first | (go_simp; done) | (go_simp; rfl)⟩) ?_
    simp only [Act.put, List.setIfInBounds_toArray, List.set_cons_zero, List.set_cons_succ]
    refine AnyK.done (by kernel_rfl) ?_
    intro W hW
    exact ⟨rfl, g1, g2, g3, rfl, hW⟩
  clear hH
  rintro g1 g2 g3 W1 hH
  simp only [List.nil_append, List.cons_append] at hH
  rw [HC1.out]
  have hz1 : c1 = 0 ∨ c1 = 1 := by omega
  have hz2 : c2 = 0 ∨ c2 = 1 := by omega
  rcases hz1 with rfl | rfl
  all_goals
   rcases hz2 with rfl | rfl
   all_goals
    go_wp2_with (first | (refine wpList_box hH 3 rfl 24 _ rfl rfl rfl _ Try.underlying24 rfl (infoW _) ?_) | (go_at_call 46; refine (bits_any 1 h1lt _).mono ?_; rintro e W1 ⟨g4, rfl, hg, hcell, hb⟩; replace hH := hH.gain hb hg hcell; clear hg hcell hb) | (go_at_call 52; refine (radd_any (a + nb) 1 256 g3 g4 (by omega) _ (hH.get 6 rfl) (hH.get 7 rfl)).mono ?_; rintro e W1 ⟨g5, rfl, hg, hcell, hb⟩; replace hH := hH.gain hb hg hcell; clear hg hcell hb; rw [HC2.out]) | (go_at_call 44; refine (rNumber (a + nb + 1) g5 _ (hH.get 8 rfl)).mono ?_; rintro e W1 ⟨rfl, hB⟩; replace hH := hH.call hB; clear hB; rw [HRES.out]) | (refine wpList_put hH 2 rfl 24 _ _ rfl rfl rfl rfl (infoW _) rfl (oneW _) ?_; clear hH; intro W1 hH))
    exact bodyPost_ret (results_pv _ _ _ 4 5 (w.heap.size + 1 + 1) res _ rfl rfl rfl (hH.get 2 rfl)) rfl ⟨by rw [← HU.out]; rfl, hH.bel⟩

theorem rSub_any (a b : Nat) (ha : a < top) (hb : b < top) (w : World) :
    Calls Try.prog 29 #[.agg (wcells a), .agg (wcells b)] w fun e w' => e = .returned (.tuple #[.agg (wcells ((a + top - b) % top)), .bool (decide (a < b))]) ∧ Below w.heap.size w w' := by
  have hnb : top - 1 - b < top := by omega
  have h1 : (1 : Nat) % top = 1 := Nat.mod_eq_of_lt (by unfold top; omega)
  have hres : (a + (top - 1 - b) + 1) % top = (a + top - b) % top := by rw [show a + (top - 1 - b) + 1 = a + top - b by omega]
  have hc1 : carry a (top - 1 - b) 256 = (a + (top - 1 - b)) / top := by
    unfold carry
    rw [← top256, Nat.mod_eq_of_lt ha, Nat.mod_eq_of_lt hnb]
  have hc2 : carry (a + (top - 1 - b)) 1 256 = ((a + (top - 1 - b)) % top + 1) / top := by
    unfold carry
    rw [← top256, h1]
  have k1 := carry_le a (top - 1 - b) 256
  have k2 := carry_le (a + (top - 1 - b)) 1 256
  refine rSub_words a b (top - 1 - b) _ _ _ _ ha hb hnb hres rfl rfl (fun w => rNot_any b hb w) k1 k2 ?_ w
  rw [hc1, hc2]
  rcases Nat.lt_trichotomy a b with h | h | h
  · have e1 : (a + (top - 1 - b)) / top = 0 := Nat.div_eq_of_lt (by omega)
    have e2 : (a + (top - 1 - b)) % top = a + (top - 1 - b) := Nat.mod_eq_of_lt (by omega)
    have e3 : (a + (top - 1 - b) + 1) / top = 0 := Nat.div_eq_of_lt (by omega)
    rw [e1, e2, e3, decide_eq_true h]
    rfl
  · subst h
    have e2 : a + (top - 1 - a) = top - 1 := by omega
    have e3 : (top - 1 + 1) / top = 1 := by rw [show top - 1 + 1 = top by omega]; exact Nat.div_self (by omega)
    rw [e2, Nat.mod_eq_of_lt (show top - 1 < top by omega), e3, decide_eq_false (by omega), Bool.and_comm]
    rfl
  · have e1 : (a + (top - 1 - b)) / top = 1 := by
      rw [show a + (top - 1 - b) = (a - 1 - b) + top by omega, Nat.add_div_right _ (by omega), Nat.div_eq_of_lt (by omega)]
    rw [e1, decide_eq_false (by omega)]
    rfl
end Go.Proofs.Ytgmgejjlhlibkaa.Oct
