/- The document's Add, Not, Sub, bit by bit. Numbers are below 2^256. -/
import Derived.Test.YtgmgejjlhlibkaaRefWB
import Derived.Test.YtgmgejjlhlibkaaKit2
namespace Go.Proofs.Ytgmgejjlhlibkaa
set_option linter.unusedVariables false
open Go.RowKit Oct
section
variable {W0 : World} {ops : Array Oper} {Q : Exit → Act → World → Prop} {l0 m : List (Nat × Array Value × TypeId)} {fuel : Nat} {listed : Array Bool} {a : Act} {o : Oper}
/-- A call that makes a row of bits. -/
theorem StepK.row {f : FuncId} {args : Array Value} {n k : Nat} (d : Option Tmp) {i : Nat} (hi : ops[i]? = some o) (hd : o.dst = d) (hw : Region.wanted o (yielded ops a.tmps) = true) (ho : ∀ W, (execOp a.eval o).run Try.prog W = .ok (.enter f args) W)
    (hc : ∀ W, Keeps W0 (l0 ++ m) W → Calls Try.prog f args W (Row W n k)) (h : ∀ g, AnyK Try.prog ops Q W0 l0 fuel (listed.setIfInBounds i true) (a.put d (.slice (some ⟨g, 0, none⟩) k k)) (m ++ [(g, ibits n k, 3)])) : StepK Try.prog ops Q W0 l0 fuel listed a m i := fun W hW => by
  subst hd
  refine wpOp_now hi hw ?_
  unfold Oper.wp
  rw [ho W]
  refine (hc W hW).mono ?_
  rintro e W' ⟨g, rfl, hg, hcell, hb⟩
  have h1 := hW.gain hb hg hcell
  rw [List.append_assoc] at h1
  exact ⟨h1.pre, h g _ h1⟩
/-- A call that makes the sum of two rows. -/
theorem StepK.sum {f : FuncId} {args : Array Value} {x y k : Nat} (d : Option Tmp) {i : Nat} (hi : ops[i]? = some o) (hd : o.dst = d) (hw : Region.wanted o (yielded ops a.tmps) = true) (ho : ∀ W, (execOp a.eval o).run Try.prog W = .ok (.enter f args) W)
    (hc : ∀ W, Keeps W0 (l0 ++ m) W → Calls Try.prog f args W (AddPost W x y k)) (h : ∀ g, AnyK Try.prog ops Q W0 l0 fuel (listed.setIfInBounds i true) (a.put d (.tuple #[.slice (some ⟨g, 0, none⟩) k k, .int .i64 (carry x y k : Int)])) (m ++ [(g, ibits (x + y) k, 3)])) : StepK Try.prog ops Q W0 l0 fuel listed a m i := fun W hW => by
  subst hd
  refine wpOp_now hi hw ?_
  unfold Oper.wp
  rw [ho W]
  refine (hc W hW).mono ?_
  rintro e W' ⟨g, rfl, hg, hcell, hb⟩
  have h1 := hW.gain hb hg hcell
  rw [List.append_assoc] at h1
  exact ⟨h1.pre, h g _ h1⟩
theorem wp_boxes3 {P : Program} {c : Code} {W : World} {F : Nat → Nat → Nat → Act} {L : Nat → Nat → Nat → List (Nat × Array Value × TypeId)} (hreg : c.wp P (fun e a' W' => e = .normal ∧ ∃ g h i, a' = F g h i ∧ Keeps W0 (L g h i) W') a W)
    (hcont : ∀ g h i W', Keeps W0 (L g h i) W' → Q .normal (F g h i) W') : c.wp P Q a W :=
  Code.wp_mono (fun e a' W' ⟨he, g, h, i, ha, hk⟩ => by subst he; subst ha; exact hcont g h i W' hk) hreg
end
theorem keeps3z (w : World) (a b : Nat) : Keeps w [(w.heap.size, wcells a, 24), (w.heap.size + 1, wcells b, 24), (w.heap.size + 1 + 1, wcells 0, 24)]
    (((w.alloc (.cells (wcells a) 24)).alloc (.cells (wcells b) 24)).alloc (.cells #[.int .u64 0, .int .u64 0, .int .u64 0, .int .u64 0] 24)) := by
  have h := (((Keeps.nil w).new (wcells a) 24).new (wcells b) 24).new (wcells 0) 24
  simp only [World.size_alloc, List.nil_append, List.cons_append] at h
  exact h
end Go.Proofs.Ytgmgejjlhlibkaa
namespace Go.Proofs.Ytgmgejjlhlibkaa.Oct
open Go.Proofs.Ytgmgejjlhlibkaa Go.RowKit Go.Shelf
theorem bitOf_mod (n k i : Nat) (h : i < k) : bitOf (n % 2 ^ k) i = bitOf n i := by
  have h1 := Nat.testBit_mod_two_pow n k i
  simp only [h, decide_true, Bool.true_and] at h1
  have h2 : ∀ m, bitOf m i = (m.testBit i).toNat := fun m => by
    unfold bitOf
    rw [Nat.testBit_eq_decide_div_mod_eq]
    have := Nat.mod_lt (m / 2 ^ i) (show 0 < 2 by decide)
    by_cases hh : m / 2 ^ i % 2 = 1
    · simp [hh]
    · have : m / 2 ^ i % 2 = 0 := by omega
      simp [this]
  rw [h2, h2, h1]
theorem top256 : top = 2 ^ 256 := by unfold top; decide +kernel
theorem carry_top (a b : Nat) (ha : a < top) (hb : b < top) : decide (0 < carry a b 256) = decide (top ≤ a + b) := by
  unfold carry
  rw [← top256, Nat.mod_eq_of_lt ha, Nat.mod_eq_of_lt hb]
  have h : 0 < (a + b) / top ↔ top ≤ a + b := by
    have := Nat.div_pos_iff (a := a + b) (b := top)
    have hp := top_pos
    constructor
    · intro h
      have h2 : 0 < (a + b) / top := by omega
      exact (this.1 h2).2
    · intro h
      have h2 := this.2 ⟨hp, h⟩
      omega
  simp only [h]
theorem results_pv (tmps : Array Value) (w : World) (f : Func) (p q g x : Nat) (v : Value) (hf : f.results = #[.cell p 24, .tmp q]) (h2 : tmps[p]? = some (.pointer (some ⟨g, 0, none⟩))) (h3 : tmps[q]? = some v)
    (hq : w.heap[g]? = some (.cells (wcells x) 24 (0, 0))) : (results f tmps).run Try.prog w = .ok (.tuple #[.agg (wcells x), v]) w := by
  have q0 := cell_of_row w g 0 _ _ _ hq
  have q1 := cell_of_row w g 1 _ _ _ hq
  have q2 := cell_of_row w g 2 _ _ _ hq
  have q3 := cell_of_row w g 3 _ _ _ hq
  simp only [wc] at q0 q1 q2 q3
  simp [results, hf, go_sem, h2, h3, q0, q1, q2, q3, wc]
/-- A row of bits, as a number. -/
theorem rNumber (n g : Nat) (w : World) (h : w.heap[g]? = some (.cells (ibits n 256) 3 (0, 0))) :
    Calls Try.prog 44 #[.slice (some ⟨g, 0, none⟩) 256 256] w fun e w' => e = .returned (.agg (wcells (n % top))) ∧ Below w.heap.size w w' :=
  number_any (n % top) g 0 256 (mod_top _) w (Array.getElem?_eq_some_iff.1 h).1 fun i hi => by
    rw [Nat.zero_add, cell_of_row _ _ _ _ _ _ h, ibits_get _ _ _ hi, top256, bitOf_mod _ _ _ hi]

set_option maxRecDepth 100000 in
set_option maxHeartbeats 2000000 in
theorem rAdd_any (a b : Nat) (ha : a < top) (hb : b < top) (w : World) :
    Calls Try.prog 27 #[.agg (wcells a), .agg (wcells b)] w fun e w' => e = .returned (.tuple #[.agg (wcells ((a + b) % top)), .bool (decide (top ≤ a + b))]) ∧ Below w.heap.size w w' := by
  have hH := keeps3z w a b
  have HCT := Lib.hid (carry_top a b ha hb)
  go_enter Try.func27, Try.ntmps27
  go_wp2_with fail
  generalize (((w.alloc (.cells (wcells a) _)).alloc (.cells (wcells b) _)).alloc _) = W0 at *
  apply wp_boxes3 (W0 := w)
  case hreg =>
    refine AnyK.start 10 rfl (by kernel_rfl) hH ?_
    refine AnyK.take 0 (some 9) rfl rfl (by kernel_rfl) (by kernel_rfl) (by kernel_rfl) (fun _ _ _ h => nomatch h.1) (yieldsIf_box 0 rfl 24 _ rfl rfl rfl _ Try.underlying24 rfl (infoW _)) ?_
    simp only [Act.put, List.setIfInBounds_toArray, List.set_cons_zero, List.set_cons_succ]
    refine AnyK.take 2 (some 11) rfl rfl (by kernel_rfl) (by kernel_rfl) (by kernel_rfl) (fun _ _ _ h => nomatch h.1) (yieldsIf_box 1 rfl 24 _ rfl rfl rfl _ Try.underlying24 rfl (infoW _)) ?_
    simp only [Act.put, List.setIfInBounds_toArray, List.set_cons_zero, List.set_cons_succ]
    refine AnyK.ready [1] (by kernel_rfl) (by simp) ?_
    refine steps_cons ?_ steps_nil
    refine StepK.row (i := 1) (some 10) rfl rfl rfl (fun W => by go_simp) (fun W _ => bits_any a ha W) (fun g1 => ?_)
    simp only [Act.put, List.setIfInBounds_toArray, List.set_cons_zero, List.set_cons_succ]
    refine AnyK.ready [3] (by kernel_rfl) (by simp) ?_
    refine steps_cons ?_ steps_nil
    refine StepK.row (i := 3) (some 12) rfl rfl rfl (fun W => by go_simp) (fun W _ => bits_any b hb W) (fun g2 => ?_)
    simp only [Act.put, List.setIfInBounds_toArray, List.set_cons_zero, List.set_cons_succ]
    refine AnyK.ready [4] (by kernel_rfl) (by simp) ?_
    refine steps_cons ?_ steps_nil
    refine StepK.sum (i := 4) (some 13) rfl rfl rfl (fun W => by go_simp) (fun W hW => radd_any a b 256 g1 g2 (by omega) W (hW.get 3 rfl) (hW.get 4 rfl)) (fun g3 => ?_)
    simp only [Act.put, List.setIfInBounds_toArray, List.set_cons_zero, List.set_cons_succ]
    refine AnyK.take 5 (some 8) rfl rfl (by kernel_rfl) (by kernel_rfl) (by kernel_rfl) (fun _ _ _ h => nomatch h.1) (v := _) (.inl ⟨by rfl, fun W hW => by first | (go_simp; done) | (go_simp; rfl)⟩) ?_
    simp only [Act.put, List.setIfInBounds_toArray, List.set_cons_zero, List.set_cons_succ]
    refine AnyK.take 6 (some 14) rfl rfl (by kernel_rfl) (by kernel_rfl) (by kernel_rfl) (fun _ _ _ h => nomatch h.1) (v := _) (.inl ⟨by rfl, fun W hW => by first | (go_simp; done) | (go_simp; rfl)⟩) ?_
    simp only [Act.put, List.setIfInBounds_toArray, List.set_cons_zero, List.set_cons_succ]
    refine AnyK.take 7 (some 15) rfl rfl (by kernel_rfl) (by kernel_rfl) (by kernel_rfl) (fun _ _ _ h => nomatch h.1) (v := _) (.inl ⟨by rfl, fun W hW => by first | (go_simp; done) | (go_simp; rfl)⟩) ?_
    simp only [Act.put, List.setIfInBounds_toArray, List.set_cons_zero, List.set_cons_succ]
    refine AnyK.take 8 (some 6) rfl rfl (by kernel_rfl) (by kernel_rfl) (by kernel_rfl) (fun _ _ _ h => nomatch h.1) (v := _) (.inl ⟨by rfl, fun W hW => by first | (go_simp; done) | (go_simp; rfl)⟩) ?_
    simp only [Act.put, List.setIfInBounds_toArray, List.set_cons_zero, List.set_cons_succ]
    refine AnyK.take 9 (some 7) rfl rfl (by kernel_rfl) (by kernel_rfl) (by kernel_rfl) (fun _ _ _ h => nomatch h.1) (v := _) (.inl ⟨by rfl, fun W hW => by first | (go_simp; done) | (go_simp; rfl)⟩) ?_
    simp only [Act.put, List.setIfInBounds_toArray, List.set_cons_zero, List.set_cons_succ]
    refine AnyK.done (by kernel_rfl) ?_
    intro W hW
    exact ⟨rfl, g1, g2, g3, rfl, hW⟩
  clear hH
  rintro g1 g2 g3 W1 hH
  simp only [List.nil_append, List.cons_append] at hH
  go_wp2_with (first | (go_at_call 44; refine (rNumber (a + b) g3 _ (hH.get 5 rfl)).mono ?_; rintro e W1 ⟨rfl, hB⟩; replace hH := hH.call hB; clear hB) | (refine wpList_put hH 2 rfl 24 _ _ rfl rfl rfl rfl (infoW _) rfl (oneW _) ?_; clear hH; intro W1 hH))
  refine bodyPost_ret (results_pv _ _ _ 4 5 (w.heap.size + 1 + 1) ((a + b) % top) _ rfl rfl rfl (hH.get 2 rfl)) rfl ⟨?_, hH.bel⟩
  exact congrArg (fun x => Ending.returned (.tuple #[.agg (wcells ((a + b) % top)), .bool x])) HCT.out

theorem keeps2a (w : World) (a : Nat) : Keeps w [(w.heap.size, wcells a, 24), (w.heap.size + 1, wcells 0, 24)] ((w.alloc (.cells (wcells a) 24)).alloc (.cells #[.int .u64 0, .int .u64 0, .int .u64 0, .int .u64 0] 24)) := by
  have h := ((Keeps.nil w).new (wcells a) 24).new (wcells 0) 24
  simp only [World.size_alloc, List.nil_append, List.cons_append] at h
  exact h
theorem toNat_not (z : Bool) : (true && !z).toNat = 1 - z.toNat := by cases z <;> rfl
theorem bitOf_test (m i : Nat) : bitOf m i = (m.testBit i).toNat := by
  unfold bitOf
  rw [Nat.testBit_eq_decide_div_mod_eq]
  have := Nat.mod_lt (m / 2 ^ i) (show 0 < 2 by decide)
  by_cases hh : m / 2 ^ i % 2 = 1
  · simp [hh]
  · have : m / 2 ^ i % 2 = 0 := by omega
    simp [this]
theorem bitOf_sub (n a i : Nat) (ha : a < 2 ^ n) (hi : i < n) : bitOf (2 ^ n - (a + 1)) i = 1 - bitOf a i := by
  rw [bitOf_test, bitOf_test, Nat.testBit_two_pow_sub_succ ha i, decide_eq_true hi]
  exact toNat_not _
theorem bitOf_notT (T n a i : Nat) (hT : T = 2 ^ n) (ha : a < T) (hi : i < n) : bitOf (T - 1 - a) i = 1 - bitOf a i := by
  subst hT
  rw [Nat.sub_sub, Nat.add_comm 1 a]
  exact bitOf_sub n a i ha hi
/-- What lacks: each bit the other one. -/
theorem bitOf_not (a i : Nat) (ha : a < top) (hi : i < 256) : bitOf (top - 1 - a) i = 1 - bitOf a i := bitOf_notT top 256 a i top256 ha hi
/-- The first m bits of what lacks, then those of the number. -/
def nbits (n m : Nat) : Array Value := ((List.range 256).map fun i => Value.int .i64 (if i < m then ((1 - bitOf n i : Nat) : Int) else (bitOf n i : Int))).toArray
theorem nbits_get (n m i : Nat) (hi : i < 256) : (nbits n m)[i]? = some (.int .i64 (if i < m then ((1 - bitOf n i : Nat) : Int) else (bitOf n i : Int))) := by simp [nbits, hi]
theorem nbits_zero (n : Nat) : nbits n 0 = ibits n 256 := by
  unfold nbits ibits pbits
  refine congrArg List.toArray ?_
  refine List.map_congr_left fun i hi => ?_
  rw [if_neg (by omega), if_pos (List.mem_range.1 hi)]
theorem nbits_all (n : Nat) (hn : n < top) : nbits n 256 = ibits (top - 1 - n) 256 := by
  unfold nbits ibits pbits
  refine congrArg List.toArray ?_
  refine List.map_congr_left fun i hi => ?_
  have hi := List.mem_range.1 hi
  rw [if_pos hi, if_pos hi, bitOf_not n i hn hi]
theorem nbits_set (n m : Nat) (hm : m < 256) : (nbits n m).setIfInBounds m (.int .i64 ((1 - bitOf n m : Nat) : Int)) = nbits n (m + 1) := by
  unfold nbits
  refine Array.ext (by simp) fun i h1 h2 => ?_
  simp at h1
  rw [Array.getElem_setIfInBounds (by simpa using h1)]
  simp
  by_cases h : m = i
  · subst h
    simp
  · rw [if_neg h]
    have : i < m + 1 ↔ i < m := by omega
    simp only [this]

set_option maxRecDepth 100000 in
set_option maxHeartbeats 2000000 in
theorem rNot_any (a : Nat) (ha : a < top) (w : World) :
    Calls Try.prog 37 #[.agg (wcells a)] w fun e w' => e = .returned (.agg (wcells (top - 1 - a))) ∧ Below w.heap.size w w' := by
  have hH := keeps2a w a
  go_enter Try.func37, Try.ntmps37
  go_wp2_with (first | (refine wpList_box hH 0 rfl 24 _ rfl rfl rfl _ Try.underlying24 rfl (infoW _) ?_) | (go_at_call 46; refine (bits_any a ha _).mono ?_; rintro e W1 ⟨g, rfl, hg, hcell, hb⟩; replace hH := hH.gain hb hg hcell; clear hg hcell hb))
  rw [← nbits_zero] at hH
  go_loopw [4] (fun v wr => ∃ k : Nat, k ≤ 256 ∧ v = .int .i64 (k : Int) ∧ Keeps w [(w.heap.size, wcells a, 24), (w.heap.size + 1, wcells 0, 24), (g, nbits a k, 3)] wr) (fun v _ => 256 - (RowKit.intOf v).toNat)
  case atStart => exact ⟨0, by omega, rfl, hH⟩
  case round =>
    clear hH
    obtain ⟨k, hk, rfl, hH⟩ := hrel
    by_cases hlt : k < 256
    · have hcb := hH.cellOf 2 rfl k
      rw [nbits_get _ _ _ hlt, if_neg (by omega)] at hcb
      have hfb := hH.frozen 2 rfl k
      have hb1 := bitOf_le a k
      have hH2 := hH.cellSet 2 rfl k (.int .i64 ((1 - bitOf a k : Nat) : Int))
      simp only [List.set_cons_succ, List.set_cons_zero] at hH2
      rw [nbits_set a k hlt, show ((1 - bitOf a k : Nat) : Int) = 1 - (bitOf a k : Int) by omega] at hH2
      have HH2 := Lib.hid hH2
      clear hH2 hH
      go_wp2
      go_roundw
      case rel => exact ⟨k + 1, by omega, by go_num, HH2.out⟩
      case measure => simp [RowKit.intOf]; omega
    · obtain rfl : k = 256 := by omega
      rw [nbits_all a ha] at hH
      have hlt : top - 1 - a < top := by omega
      have hN := fun W (h : W.heap[g]? = some (.cells (ibits (top - 1 - a) 256) 3 (0, 0))) => rNumber (top - 1 - a) g W h
      rw [Nat.mod_eq_of_lt hlt] at hN
      have HN := Lib.hid hN
      clear hN
      go_wp2_with (first | (go_at_call 44; refine (HN.out _ (hH.get 2 rfl)).mono ?_; rintro e W1 ⟨rfl, hB⟩; replace hH := hH.call hB; clear hB) | (refine wpList_put hH 1 rfl 24 _ _ rfl rfl rfl rfl (infoW _) rfl (oneW _) ?_; clear hH; intro W1 hH))
      exact bodyPost_ret (results_one _ _ _ 2 (w.heap.size + 1) (top - 1 - a) rfl rfl (hH.get 1 rfl)) rfl ⟨rfl, hH.bel⟩
end Go.Proofs.Ytgmgejjlhlibkaa.Oct
