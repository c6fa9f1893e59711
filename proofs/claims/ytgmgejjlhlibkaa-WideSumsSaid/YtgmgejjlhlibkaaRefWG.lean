/- The document's quotient, bit by bit. Numbers are below 2^256. -/
import Derived.Test.YtgmgejjlhlibkaaRefWF
namespace Go.Proofs.Ytgmgejjlhlibkaa.Oct
set_option linter.unusedVariables false
open Go.Proofs.Ytgmgejjlhlibkaa Go.RowKit Go.Shelf

theorem results_qre (tmps : Array Value) (w : World) (f : Func) (gq gr x y : Nat) (e : Int) (hf : f.results = #[.cell 4 24, .cell 5 24, .tmp 6]) (h4 : tmps[4]? = some (.pointer (some ⟨gq, 0, none⟩))) (h5 : tmps[5]? = some (.pointer (some ⟨gr, 0, none⟩))) (h6 : tmps[6]? = some (.int .i64 e))
    (hq : w.heap[gq]? = some (.cells (wcells x) 24 (0, 0))) (hr : w.heap[gr]? = some (.cells (wcells y) 24 (0, 0))) :
    (results f tmps).run Try.prog w = .ok (.tuple #[.agg (wcells x), .agg (wcells y), .int .i64 e]) w := by
  have q0 := cell_of_row w gq 0 _ _ _ hq
  have q1 := cell_of_row w gq 1 _ _ _ hq
  have q2 := cell_of_row w gq 2 _ _ _ hq
  have q3 := cell_of_row w gq 3 _ _ _ hq
  have r0 := cell_of_row w gr 0 _ _ _ hr
  have r1 := cell_of_row w gr 1 _ _ _ hr
  have r2 := cell_of_row w gr 2 _ _ _ hr
  have r3 := cell_of_row w gr 3 _ _ _ hr
  simp only [wc] at q0 q1 q2 q3 r0 r1 r2 r3
  simp [results, hf, go_sem, h4, h5, h6, q0, q1, q2, q3, r0, r1, r2, r3, wc]
theorem keeps4z (w : World) (a b : Nat) : Keeps w [(w.heap.size, wcells a, 24), (w.heap.size + 1, wcells b, 24), (w.heap.size + 1 + 1, wcells 0, 24), (w.heap.size + 1 + 1 + 1, wcells 0, 24)]
    ((((w.alloc (.cells (wcells a) 24)).alloc (.cells (wcells b) 24)).alloc (.cells #[.int .u64 0, .int .u64 0, .int .u64 0, .int .u64 0] 24)).alloc (.cells #[.int .u64 0, .int .u64 0, .int .u64 0, .int .u64 0] 24)) := by
  have h := ((((Keeps.nil w).new (wcells a) 24).new (wcells b) 24).new (wcells 0) 24).new (wcells 0) 24
  simp only [World.size_alloc, List.nil_append, List.cons_append] at h
  exact h
theorem blen_zero' : blen 0 = 0 := by decide

set_option maxRecDepth 100000 in
set_option maxHeartbeats 2000000 in
theorem rDiv_zero (a : Nat) (w : World) :
    Calls Try.prog 39 #[.agg (wcells a), .agg (wcells 0)] w fun e w' => e = .returned (.tuple #[.agg (wcells 0), .agg (wcells 0), .int .i64 30]) ∧ Below w.heap.size w w' := by
  have hH := keeps4z w a 0
  have HL : Hid (∀ w, Calls Try.prog 23 #[.agg (wcells 0)] w fun e w' => e = .returned (.int .i64 0) ∧ Below w.heap.size w w') := fun w => by
    have h := rLen_any 0 top_pos w
    rw [blen_zero'] at h
    exact h
  go_enter Try.func39, Try.ntmps39
  go_wp2_with (first | (refine wpList_box hH 1 rfl 24 _ rfl rfl rfl _ Try.underlying24 rfl (infoW _) ?_) | (go_at_call 23; with_reducible refine (HL.out _).mono ?_; rintro e W1 ⟨rfl, hB⟩; replace hH := hH.call hB; clear hB) | (refine wpList_put hH 2 rfl 24 _ _ rfl rfl rfl rfl (infoW 0) rfl (oneW 0) ?_; clear hH; intro W1 hH) | (refine wpList_put hH 3 rfl 24 _ _ rfl rfl rfl rfl (infoW 0) rfl (oneW 0) ?_; clear hH; intro W1 hH))
  exact bodyPost_ret (results_qre _ _ _ _ _ 0 0 30 rfl rfl rfl rfl (hH.get 2 rfl) (hH.get 3 rfl)) rfl ⟨rfl, hH.bel⟩

/-- The quotient's digits from k on, as bits. -/
theorem bitOf_quo (a b k i : Nat) : bitOf (quo a b k) i = if k ≤ i then bitOf (a / b) i else 0 := by
  have e : a / 2 ^ k / b = a / b / 2 ^ k := by rw [Nat.div_div_eq_div_mul, Nat.div_div_eq_div_mul, Nat.mul_comm]
  unfold quo
  rw [e, bitOf_test, Nat.testBit_mul_two_pow, Nat.testBit_div_two_pow]
  by_cases h : k ≤ i
  · rw [if_pos h, bitOf_test]
    simp [h]
  · rw [if_neg h]
    simp [h]
theorem rem_over (a b k : Nat) (h : blen a ≤ k) : rem a b k = 0 := by
  unfold rem
  rw [Nat.div_eq_of_lt (Nat.lt_of_lt_of_le (blen_lt a) (Nat.pow_le_pow_right (by decide) h))]
  simp

section
variable {P : Program} {W0 : World} {ops : Array Oper} {Q : Exit → Act → World → Prop} {l0 m : List (Nat × Array Value × TypeId)} {fuel : Nat} {listed : Array Bool} {a : Act} {o : Oper}
theorem anyK_start2 {id : Nat} {W : World} (n : Nat) (hn : ops.size = n) (hm : P.follows .mixedOrders = true) (hH : Keeps W0 (l0 ++ m) W) (h : AnyK P ops Q W0 l0 n (Array.replicate n false) a m) : (Code.region id ops true).wp P Q a W := by
  subst hn
  exact wp_region_held hm (h _ hH.drew)
theorem stepK_load (k : Nat) (d : Option Tmp) {i : Nat} (hi : ops[i]? = some o) (hd : o.dst = d) (hw : Region.wanted o (yielded ops a.tmps) = true) (ty : TypeId) (x : Operand) (ho : o.op = .load ty x) {b : Nat} {cs : Array Value}
    (hx : a.eval x = .pointer (some ⟨b, 0, none⟩)) (hk : (l0 ++ m)[k]? = some (b, cs, ty)) (de : TypeDesc)
    (hu : P.underlying ty = some de) (hde : (match de with | .struct _ | .array _ _ => true | _ => false) = true) (hs : (P.info? ty).map (·.size) = some cs.size)
    (h : AnyK P ops Q W0 l0 fuel (listed.setIfInBounds i true) (a.put d (.agg cs)) m) : StepK P ops Q W0 l0 fuel listed a m i := fun W hW => by
  subst hd
  exact wpOp_now hi hw (wp_load_row ty x ho b hx ty cs (0, 0) de (hW.get k hk) hu hde hs ⟨hW.pre, h W hW⟩)
theorem stepK_callK {f : FuncId} {args : Array Value} {v : Value} (d : Option Tmp) {i : Nat} (hi : ops[i]? = some o) (hd : o.dst = d) (hw : Region.wanted o (yielded ops a.tmps) = true) (ho : ∀ W, (execOp a.eval o).run P W = .ok (.enter f args) W)
    (hc : ∀ W, Keeps W0 (l0 ++ m) W → Calls P f args W fun e W' => e = .returned v ∧ Below W.heap.size W W') (h : AnyK P ops Q W0 l0 fuel (listed.setIfInBounds i true) (a.put d v) m) : StepK P ops Q W0 l0 fuel listed a m i := fun W hW => by
  subst hd
  refine wpOp_now hi hw ?_
  unfold Oper.wp
  rw [ho W]
  exact (hc W hW).mono fun e W' ⟨he, hb⟩ => by subst he; exact ⟨(hW.call hb).pre, h W' (hW.call hb)⟩
theorem wp_keepsL {c : Code} {W : World} {F : Act} {L : List (Nat × Array Value × TypeId)} (hreg : c.wp P (fun e a' W' => e = .normal ∧ a' = F ∧ Keeps W0 L W') a W) (hcont : ∀ W', Keeps W0 L W' → Q .normal F W') : c.wp P Q a W :=
  Code.wp_mono (fun e a' W' ⟨he, ha, hk⟩ => by subst he; subst ha; exact hcont W' hk) hreg
end
def qb (a b k i : Nat) : Nat := if k ≤ i then bitOf (a / b) i else 0
theorem quo_bit (a b k : Nat) (hb : 0 < b) : bitOf (a / b) k = if oneAt a b k = true then 1 else 0 := by
  have e : a / b / 2 ^ k = a / 2 ^ k / b := by rw [Nat.div_div_eq_div_mul, Nat.div_div_eq_div_mul, Nat.mul_comm]
  unfold bitOf
  rw [e, quot_step a b k hb]
  split <;> omega
theorem qb_one (a b j : Nat) (hb : 0 < b) (h : b ≤ 2 * rem a b (j + 1) + bitOf a j) : fbits (fun i => if i = j then 1 else qb a b (j + 1) i) = fbits (qb a b j) :=
  fbits_ext _ _ fun i hi => by
    have hq := quo_bit a b j hb
    unfold oneAt shifted at hq
    rw [decide_eq_true h, if_pos rfl] at hq
    unfold qb
    by_cases h1 : i = j
    · subst h1
      rw [if_pos rfl, if_pos (Nat.le_refl _), hq]
    · rw [if_neg h1]
      by_cases h2 : j ≤ i
      · rw [if_pos h2, if_pos (by omega)]
      · rw [if_neg h2, if_neg (by omega)]
theorem qb_none (a b j : Nat) (hb : 0 < b) (h : ¬ b ≤ 2 * rem a b (j + 1) + bitOf a j) : fbits (qb a b (j + 1)) = fbits (qb a b j) :=
  fbits_ext _ _ fun i hi => by
    have hq := quo_bit a b j hb
    unfold oneAt shifted at hq
    rw [decide_eq_false h, if_neg Bool.false_ne_true] at hq
    unfold qb
    by_cases h1 : i = j
    · subst h1
      rw [if_neg (by omega), if_pos (Nat.le_refl _), hq]
    · by_cases h2 : j ≤ i
      · rw [if_pos h2, if_pos (by omega)]
      · rw [if_neg h2, if_neg (by omega)]
theorem cmp_sign (a b : Nat) : (0 ≤ cmpI (a : Int) (b : Int)) ↔ b ≤ a := by
  unfold cmpI
  split
  · omega
  · split <;> omega

set_option maxRecDepth 100000 in
set_option maxHeartbeats 8000000 in
theorem rDiv_some (a b : Nat) (ha : a < top) (hb : b < top) (hb0 : 0 < b) (w : World) :
    Calls Try.prog 39 #[.agg (wcells a), .agg (wcells b)] w fun e w' => e = .returned (.tuple #[.agg (wcells (a / b)), .agg (wcells (a % b)), .int .i64 0]) ∧ Below w.heap.size w w' := by
  have hH := keeps4z w a b
  have hm := make256
  have hlb : 0 < blen b := by unfold blen; rw [if_neg (by omega)]; omega
  have hl256 := len_names a ha
  have HL : Hid (∀ w, Calls Try.prog 23 #[.agg (wcells b)] w fun e w' => e = .returned (.int .i64 (blen b : Int)) ∧ Below w.heap.size w w') := fun w => rLen_any b hb w
  have hne : ((blen b : Int) == 0) = false := by rw [beq_eq_false_iff_ne]; omega
  have HO : Hid (∀ w, Calls Try.prog 17 #[.int .u64 1] w fun e w' => e = .returned (.agg (wcells 1)) ∧ Below w.heap.size w w') := fun w => rOf_any 1 (by unfold word; omega) w
  go_enter Try.func39, Try.ntmps39
  have tk0 : True := trivial
  go_wp2_with (first | (have _t := tk0; refine wpList_box hH 1 rfl 24 _ rfl rfl rfl _ Try.underlying24 rfl (infoW _) ?_; clear _t tk0; have tk1 : True := trivial) | (go_at_call 23; with_reducible refine (HL.out _).mono ?_; rintro e W1 ⟨rfl, hB⟩; replace hH := hH.call hB; clear hB) | (have _t := tk1; refine wpList_box hH 0 rfl 24 _ rfl rfl rfl _ Try.underlying24 rfl (infoW _) ?_; clear _t tk1) | (go_at_call 46; refine (bits_any a ha _).mono ?_; rintro e W2 ⟨g, rfl, hg, hcell, hb3⟩; replace hH := hH.gain hb3 hg hcell; clear hg hcell hb3))
  have hH2 := (hH.new (pbits 0 256 0) 3).new (wcells 0) 24
  simp only [List.nil_append, List.cons_append, World.size_alloc] at hH2
  rw [fbits_zero] at hH2
  clear hH
  obtain ⟨z, hz⟩ : ∃ z, W2.heap.size = z := ⟨_, rfl⟩
  rw [hz] at hH2
  go_loopw [10] (fun v wr => ∃ k : Nat, k ≤ 256 ∧ v = .int .i64 ((k : Int) - 1) ∧ Keeps w [(w.heap.size, wcells a, 24), (w.heap.size + 1, wcells b, 24), (w.heap.size + 1 + 1, wcells 0, 24), (w.heap.size + 1 + 1 + 1, wcells 0, 24), (g, ibits a 256, 3), (z, fbits (qb a b k), 3), (z + 1, wcells (rem a b k), 24)] wr) (fun v _ => (RowKit.intOf v + 1).toNat)
  case atStart =>
    refine ⟨256, by omega, rfl, ?_⟩
    have e : fbits (qb a b 256) = fbits (fun _ => 0) := fbits_ext _ _ fun i hi => by unfold qb; rw [if_neg (by omega)]
    rw [e, rem_over a b 256 hl256]
    exact hH2
  case round =>
    clear hH2 hm
    obtain ⟨k, hk, rfl, hH⟩ := hrel
    rw [hz]
    rcases k with _ | j
    · go_wp2
      rw [fbits_ext (qb a b 0) (bitOf (a / b)) (fun i hi => by unfold qb; rw [if_pos (Nat.zero_le _)]), ← fbits_bits, rem_zero] at hH
      have hqlt : a / b < top := Nat.lt_of_le_of_lt (Nat.div_le_self _ _) ha
      have hN := fun W (h : W.heap[z]? = some (.cells (ibits (a / b) 256) 3 (0, 0))) => rNumber (a / b) z W h
      rw [Nat.mod_eq_of_lt hqlt] at hN
      have HN := Lib.hid hN
      clear hN hqlt hl256 HO HL
      go_wp2
      apply wp_keepsL (W0 := w)
      case hreg =>
        refine anyK_start2 (l0 := [(w.heap.size, wcells a, 24), (w.heap.size + 1, wcells b, 24)]) (m := [(w.heap.size + 1 + 1, wcells 0, 24), (w.heap.size + 1 + 1 + 1, wcells 0, 24), (g, ibits a 256, 3), (z, ibits (a / b) 256, 3), (z + 1, wcells (a % b), 24)]) 6 rfl (by kernel_rfl) hH ?_
        refine AnyK.take 0 (some 60) rfl rfl (by kernel_rfl) (by kernel_rfl) (by kernel_rfl) (fun _ _ _ h => nomatch h.1) (v := _) (.inl ⟨by rfl, fun W hW => by first | (go_simp; done) | (go_simp; rfl)⟩) ?_
        simp only [Act.put, List.setIfInBounds_toArray, List.set_cons_zero, List.set_cons_succ]
        refine AnyK.ready [1, 2] (by kernel_rfl) (by simp) ?_
        refine steps_cons ?_ ?_
        ·
          refine stepK_callK (i := 1) (some 61) rfl rfl rfl (fun W => by go_simp) (fun W hW => HN.out W (hW.get 5 rfl)) ?_
          simp only [Act.put, List.setIfInBounds_toArray, List.set_cons_zero, List.set_cons_succ]
          refine AnyK.ready [2, 3] (by kernel_rfl) (by simp) ?_
          refine steps_cons ?_ ?_
          ·
            refine stepK_load (i := 2) 6 (some 62) rfl rfl rfl 24 _ rfl rfl rfl _ Try.underlying24 rfl (infoW _) ?_
            simp only [Act.put, List.setIfInBounds_toArray, List.set_cons_zero, List.set_cons_succ]
            refine AnyK.ready [3] (by kernel_rfl) (by simp) ?_
            refine steps_cons ?_ steps_nil
            refine StepK.store 0 (i := 3) rfl rfl rfl 24 _ _ rfl rfl rfl rfl (infoW _) rfl (oneW _) ?_
            refine AnyK.ready [4] (by kernel_rfl) (by simp) ?_
            refine steps_cons ?_ steps_nil
            refine StepK.store 1 (i := 4) rfl rfl rfl 24 _ _ rfl rfl rfl rfl (infoW _) rfl (oneW _) ?_
            refine AnyK.take 5 (some 6) rfl rfl (by kernel_rfl) (by kernel_rfl) (by kernel_rfl) (fun _ _ _ h => nomatch h.1) (v := _) (.inl ⟨by rfl, fun W hW => by first | (go_simp; done) | (go_simp; rfl)⟩) ?_
            simp only [Act.put, List.setIfInBounds_toArray, List.set_cons_zero, List.set_cons_succ]
            refine AnyK.done (by kernel_rfl) ?_
            exact fun W hW => ⟨rfl, rfl, hW⟩
          refine steps_cons ?_ ?_
          ·
            refine StepK.store 0 (i := 3) rfl rfl rfl 24 _ _ rfl rfl rfl rfl (infoW _) rfl (oneW _) ?_
            refine AnyK.ready [2] (by kernel_rfl) (by simp) ?_
            refine steps_cons ?_ steps_nil
            refine stepK_load (i := 2) 6 (some 62) rfl rfl rfl 24 _ rfl rfl rfl _ Try.underlying24 rfl (infoW _) ?_
            simp only [Act.put, List.setIfInBounds_toArray, List.set_cons_zero, List.set_cons_succ]
            refine AnyK.ready [4] (by kernel_rfl) (by simp) ?_
            refine steps_cons ?_ steps_nil
            refine StepK.store 1 (i := 4) rfl rfl rfl 24 _ _ rfl rfl rfl rfl (infoW _) rfl (oneW _) ?_
            refine AnyK.take 5 (some 6) rfl rfl (by kernel_rfl) (by kernel_rfl) (by kernel_rfl) (fun _ _ _ h => nomatch h.1) (v := _) (.inl ⟨by rfl, fun W hW => by first | (go_simp; done) | (go_simp; rfl)⟩) ?_
            simp only [Act.put, List.setIfInBounds_toArray, List.set_cons_zero, List.set_cons_succ]
            refine AnyK.done (by kernel_rfl) ?_
            exact fun W hW => ⟨rfl, rfl, hW⟩
          exact steps_nil
        refine steps_cons ?_ ?_
        ·
          refine stepK_load (i := 2) 6 (some 62) rfl rfl rfl 24 _ rfl rfl rfl _ Try.underlying24 rfl (infoW _) ?_
          simp only [Act.put, List.setIfInBounds_toArray, List.set_cons_zero, List.set_cons_succ]
          refine AnyK.ready [1] (by kernel_rfl) (by simp) ?_
          refine steps_cons ?_ steps_nil
          refine stepK_callK (i := 1) (some 61) rfl rfl rfl (fun W => by go_simp) (fun W hW => HN.out W (hW.get 5 rfl)) ?_
          simp only [Act.put, List.setIfInBounds_toArray, List.set_cons_zero, List.set_cons_succ]
          refine AnyK.ready [3] (by kernel_rfl) (by simp) ?_
          refine steps_cons ?_ steps_nil
          refine StepK.store 0 (i := 3) rfl rfl rfl 24 _ _ rfl rfl rfl rfl (infoW _) rfl (oneW _) ?_
          refine AnyK.ready [4] (by kernel_rfl) (by simp) ?_
          refine steps_cons ?_ steps_nil
          refine StepK.store 1 (i := 4) rfl rfl rfl 24 _ _ rfl rfl rfl rfl (infoW _) rfl (oneW _) ?_
          refine AnyK.take 5 (some 6) rfl rfl (by kernel_rfl) (by kernel_rfl) (by kernel_rfl) (fun _ _ _ h => nomatch h.1) (v := _) (.inl ⟨by rfl, fun W hW => by first | (go_simp; done) | (go_simp; rfl)⟩) ?_
          simp only [Act.put, List.setIfInBounds_toArray, List.set_cons_zero, List.set_cons_succ]
          refine AnyK.done (by kernel_rfl) ?_
          exact fun W hW => ⟨rfl, rfl, hW⟩
        exact steps_nil
      clear hH
      intro W3 hH
      simp only [List.nil_append, List.cons_append, List.set_cons_zero, List.set_cons_succ] at hH
      go_wp2
      exact bodyPost_ret (results_qre _ _ _ _ _ (a / b) (a % b) 0 rfl rfl rfl rfl (hH.get 2 rfl) (hH.get 3 rfl)) rfl ⟨rfl, hH.bel⟩
    · have hj : (((j + 1 : Nat) : Int) - 1) = (j : Int) := by omega
      rw [hj]
      have hj256 : j < 256 := by omega
      have hs := shifted_lt a b j ha
      have hs2 := shifted_lt2 a b j hb0
      have hbit := bitOf_le a j
      have hr255 : bitOf (rem a b (j + 1)) 255 = 0 := by
        refine bitOf_above _ 255 ?_
        have h1 : rem a b (j + 1) ≤ a / 2 ^ (j + 1) := Nat.mod_le _ _
        have h2 : a / 2 ^ (j + 1) ≤ a / 2 ^ 1 := Nat.div_le_div_left (Nat.pow_le_pow_right (by decide) (by omega)) (by decide)
        have h3 : a / 2 ^ 1 < 2 ^ 255 := by
          rw [Nat.div_lt_iff_lt_mul (by decide), show (2 : Nat) ^ 255 * 2 ^ 1 = top by unfold top; decide +kernel]
          exact ha
        omega
      obtain ⟨r, hr⟩ : ∃ r, rem a b (j + 1) = r := ⟨_, rfl⟩
      have hr0 : r < top := by rw [← hr]; exact Nat.lt_of_le_of_lt (Nat.le_trans (Nat.mod_le _ _) (Nat.div_le_self _ _)) ha
      unfold shifted at hs hs2
      rw [hr] at hs hs2 hH hr255
      have hrs := rem_step a b j hb0
      unfold oneAt shifted at hrs
      rw [hr] at hrs
      have hca := hH.cellOf 4 rfl j
      rw [ibits_get _ _ _ hj256] at hca
      have HLEFT : Hid (∀ W, Calls Try.prog 33 #[.agg (wcells r), .int .i64 1] W fun e w' => e = .returned (.agg (wcells (2 * r))) ∧ Below W.heap.size W w') := fun W => by
        have h := rLeft_some r 1 hr0 (by omega) (by omega) W
        rw [Nat.pow_one, Nat.mul_comm, Nat.mod_eq_of_lt (by omega)] at h
        exact h
      have HCA := Lib.hid hca
      clear hca hj
      have cz : ((0 : Nat) : Int) = 0 := rfl
      have c1 : ((1 : Nat) : Int) = 1 := rfl
      have h1lt : 1 < top := by unfold top; omega
      have hqone := qb_one a b j hb0
      have hqnone := qb_none a b j hb0
      have hsg := cmp_sign (2 * r + bitOf a j) b
      have HCMP : Hid (∀ W, Calls Try.prog 25 #[.agg (wcells (2 * r + bitOf a j)), .agg (wcells b)] W fun e w' => e = .returned (.int .i64 (cmpI ((2 * r + bitOf a j : Nat) : Int) (b : Int))) ∧ Below W.heap.size W w') := fun W => rCompare_any _ _ hs hb W
      obtain ⟨c, hc⟩ : ∃ c, bitOf a j = c := ⟨_, rfl⟩
      rw [hr, hc] at hqone hqnone
      rw [hc] at hs hs2 hbit hrs hsg HCMP
      obtain ⟨cv, hcv⟩ : ∃ cv, cmpI ((2 * r + c : Nat) : Int) (b : Int) = cv := ⟨_, rfl⟩
      rw [hcv] at HCMP hsg
      clear hcv hr hs2
      have hc01 : c = 0 ∨ c = 1 := by omega
      rcases hc01 with rfl | rfl
      ·
        simp only [Nat.add_zero] at hs hrs hqone hqnone HCMP hsg
        by_cases hge : b ≤ (2 * r)
        ·
          have hcs := hsg.2 hge
          rw [decide_eq_true hge, if_pos rfl] at hrs
          replace hqone := hqone hge
          clear hqnone
          have HSUB : Hid (∀ W, Calls Try.prog 29 #[.agg (wcells (2 * r)), .agg (wcells b)] W fun e w' => e = .returned (.tuple #[.agg (wcells ((2 * r) - b)), .bool false]) ∧ Below W.heap.size W w') := fun W => by
            have h := rSub_any (2 * r) b hs hb W
            rw [show (2 * r) + top - b = ((2 * r) - b) + top by omega, Nat.add_mod_right, Nat.mod_eq_of_lt (by omega), decide_eq_false (by omega)] at h
            exact h
          have HQ1 := Lib.hid hqone
          have HRS := Lib.hid hrs
          clear hqone hrs hsg hge
          go_wp2_with (first | (refine wpList_box hH 6 rfl 24 _ rfl rfl rfl _ Try.underlying24 rfl (infoW _) ?_) | (go_at_call 46; refine (bits_any r hr0 _).mono ?_; rintro e W2 ⟨g2, rfl, hg, hcell, hb3⟩; replace hH := hH.gain hb3 hg hcell; clear hg hcell hb3; have hcr := hH.cellOf 7 rfl 255; rw [ibits_get _ _ _ (by decide), hr255, cz] at hcr) | (go_at_call 33; with_reducible refine (HLEFT.out _).mono ?_; rintro e W2 ⟨rfl, hB⟩; replace hH := hH.call hB; clear hB) | (refine wpList_put hH 6 rfl 24 _ _ rfl rfl rfl rfl (infoW _) rfl (oneW _) ?_; clear hH; intro W1 hH; have hca := hH.cellOf 4 rfl j; rw [ibits_get _ _ _ hj256, hc, cz] at hca; have hcc := hH.cellOf 5 rfl j; rw [fbits_get _ _ hj256] at hcc; have hfc := hH.frozen 5 rfl j) | (refine wpList_box hH 1 rfl 24 _ rfl rfl rfl _ Try.underlying24 rfl (infoW _) ?_) | (go_at_call 25; with_reducible refine (HCMP.out _).mono ?_; rintro e W2 ⟨rfl, hB⟩; replace hH := hH.call hB; clear hB) | (go_at_call 29; with_reducible refine (HSUB.out _).mono ?_; rintro e W2 ⟨rfl, hB⟩; replace hH := hH.call hB; clear hB))
          go_roundw
          case rel =>
            have hH2 := hH.cellSet 5 rfl j (.int .i64 ((1 : Nat) : Int))
            simp only [List.set_cons_succ, List.set_cons_zero, List.nil_append, List.cons_append] at hH2
            rw [fbits_set _ _ _ hj256, HQ1.out] at hH2
            refine ⟨j, by omega, rfl, ?_⟩
            rw [HRS.out]
            exact Keeps.pre (l0 := [_, _, _, _, _, _, _]) (l1 := [_]) hH2
          case measure => simp [RowKit.intOf]
        ·
          have hcs : cv < 0 := by omega
          rw [decide_eq_false hge, if_neg Bool.false_ne_true] at hrs
          replace hqnone := hqnone hge
          clear hqone
          have HQ1 := Lib.hid hqnone
          have HRS := Lib.hid hrs
          clear hqnone hrs hsg hge
          go_wp2_with (first | (refine wpList_box hH 6 rfl 24 _ rfl rfl rfl _ Try.underlying24 rfl (infoW _) ?_) | (go_at_call 46; refine (bits_any r hr0 _).mono ?_; rintro e W2 ⟨g2, rfl, hg, hcell, hb3⟩; replace hH := hH.gain hb3 hg hcell; clear hg hcell hb3; have hcr := hH.cellOf 7 rfl 255; rw [ibits_get _ _ _ (by decide), hr255, cz] at hcr) | (go_at_call 33; with_reducible refine (HLEFT.out _).mono ?_; rintro e W2 ⟨rfl, hB⟩; replace hH := hH.call hB; clear hB) | (refine wpList_put hH 6 rfl 24 _ _ rfl rfl rfl rfl (infoW _) rfl (oneW _) ?_; clear hH; intro W1 hH; have hca := hH.cellOf 4 rfl j; rw [ibits_get _ _ _ hj256, hc, cz] at hca; have hcc := hH.cellOf 5 rfl j; rw [fbits_get _ _ hj256] at hcc; have hfc := hH.frozen 5 rfl j) | (refine wpList_box hH 1 rfl 24 _ rfl rfl rfl _ Try.underlying24 rfl (infoW _) ?_) | (go_at_call 25; with_reducible refine (HCMP.out _).mono ?_; rintro e W2 ⟨rfl, hB⟩; replace hH := hH.call hB; clear hB))
          go_roundw
          case rel =>
            try simp only [List.set_cons_succ, List.set_cons_zero, List.nil_append, List.cons_append] at hH
            rw [HQ1.out] at hH
            refine ⟨j, by omega, rfl, ?_⟩
            rw [HRS.out]
            exact Keeps.pre (l0 := [_, _, _, _, _, _, _]) (l1 := [_]) hH
          case measure => simp [RowKit.intOf]
      ·
        have HADD : Hid (∀ W, Calls Try.prog 27 #[.agg (wcells (2 * r)), .agg (wcells 1)] W fun e w' => e = .returned (.tuple #[.agg (wcells (2 * r + 1)), .bool false]) ∧ Below W.heap.size W w') := fun W => by
          have h := rAdd_any (2 * r) 1 (by omega) h1lt W
          rw [Nat.mod_eq_of_lt hs, decide_eq_false (by omega)] at h
          exact h
        by_cases hge : b ≤ (2 * r + 1)
        ·
          have hcs := hsg.2 hge
          rw [decide_eq_true hge, if_pos rfl] at hrs
          replace hqone := hqone hge
          clear hqnone
          have HSUB : Hid (∀ W, Calls Try.prog 29 #[.agg (wcells (2 * r + 1)), .agg (wcells b)] W fun e w' => e = .returned (.tuple #[.agg (wcells ((2 * r + 1) - b)), .bool false]) ∧ Below W.heap.size W w') := fun W => by
            have h := rSub_any (2 * r + 1) b hs hb W
            rw [show (2 * r + 1) + top - b = ((2 * r + 1) - b) + top by omega, Nat.add_mod_right, Nat.mod_eq_of_lt (by omega), decide_eq_false (by omega)] at h
            exact h
          have HQ1 := Lib.hid hqone
          have HRS := Lib.hid hrs
          clear hqone hrs hsg hge
          go_wp2_with (first | (refine wpList_box hH 6 rfl 24 _ rfl rfl rfl _ Try.underlying24 rfl (infoW _) ?_) | (go_at_call 46; refine (bits_any r hr0 _).mono ?_; rintro e W2 ⟨g2, rfl, hg, hcell, hb3⟩; replace hH := hH.gain hb3 hg hcell; clear hg hcell hb3; have hcr := hH.cellOf 7 rfl 255; rw [ibits_get _ _ _ (by decide), hr255, cz] at hcr) | (go_at_call 33; with_reducible refine (HLEFT.out _).mono ?_; rintro e W2 ⟨rfl, hB⟩; replace hH := hH.call hB; clear hB) | (refine wpList_put hH 6 rfl 24 _ _ rfl rfl rfl rfl (infoW _) rfl (oneW _) ?_; clear hH; intro W1 hH; have hca := hH.cellOf 4 rfl j; rw [ibits_get _ _ _ hj256, hc, c1] at hca; have hcc := hH.cellOf 5 rfl j; rw [fbits_get _ _ hj256] at hcc; have hfc := hH.frozen 5 rfl j))
          clear hca hcc hfc
          apply wp_keepsL (W0 := w)
          case hreg =>
            refine anyK_start2 (l0 := [(w.heap.size, wcells a, 24), (w.heap.size + 1, wcells b, 24), (w.heap.size + 1 + 1, wcells 0, 24), (w.heap.size + 1 + 1 + 1, wcells 0, 24), (g, ibits a 256, 3), (z, fbits (qb a b (j + 1)), 3)]) (m := [(z + 1, wcells (2 * r), 24), (g2, ibits r 256, 3)]) 7 rfl (by kernel_rfl) hH ?_
            refine AnyK.ready [0, 1] (by kernel_rfl) (by simp) ?_
            refine steps_cons ?_ ?_
            ·
              refine stepK_load (i := 0) 6 (some 39) rfl rfl rfl 24 _ rfl rfl rfl _ Try.underlying24 rfl (infoW _) ?_
              simp only [Act.put, List.setIfInBounds_toArray, List.set_cons_zero, List.set_cons_succ]
              refine AnyK.ready [1] (by kernel_rfl) (by simp) ?_
              refine steps_cons ?_ steps_nil
              refine StepK.call (i := 1) (some 40) rfl rfl rfl (fun W => by go_simp) HO.out ?_
              simp only [Act.put, List.setIfInBounds_toArray, List.set_cons_zero, List.set_cons_succ]
              refine AnyK.ready [2] (by kernel_rfl) (by simp) ?_
              refine steps_cons ?_ steps_nil
              refine StepK.call (i := 2) (some 41) rfl rfl rfl (fun W => by go_simp) HADD.out ?_
              simp only [Act.put, List.setIfInBounds_toArray, List.set_cons_zero, List.set_cons_succ]
              refine AnyK.take 3 (some 38) rfl rfl (by kernel_rfl) (by kernel_rfl) (by kernel_rfl) (fun _ _ _ h => nomatch h.1) (v := _) (.inl ⟨by rfl, fun W hW => by first | (go_simp; done) | (go_simp; rfl)⟩) ?_
              simp only [Act.put, List.setIfInBounds_toArray, List.set_cons_zero, List.set_cons_succ]
              refine AnyK.take 4 (some 42) rfl rfl (by kernel_rfl) (by kernel_rfl) (by kernel_rfl) (fun _ _ _ h => nomatch h.1) (v := _) (.inl ⟨by rfl, fun W hW => by first | (go_simp; done) | (go_simp; rfl)⟩) ?_
              simp only [Act.put, List.setIfInBounds_toArray, List.set_cons_zero, List.set_cons_succ]
              refine AnyK.take 5 (some 43) rfl rfl (by kernel_rfl) (by kernel_rfl) (by kernel_rfl) (fun _ _ _ h => nomatch h.1) (v := _) (.inl ⟨by rfl, fun W hW => by first | (go_simp; done) | (go_simp; rfl)⟩) ?_
              simp only [Act.put, List.setIfInBounds_toArray, List.set_cons_zero, List.set_cons_succ]
              refine AnyK.ready [6] (by kernel_rfl) (by simp) ?_
              refine steps_cons ?_ steps_nil
              refine StepK.store 0 (i := 6) rfl rfl rfl 24 _ _ rfl rfl rfl rfl (infoW _) rfl (oneW _) ?_
              refine AnyK.done (by kernel_rfl) ?_
              exact fun W hW => ⟨rfl, rfl, hW⟩
            refine steps_cons ?_ ?_
            ·
              refine StepK.call (i := 1) (some 40) rfl rfl rfl (fun W => by go_simp) HO.out ?_
              simp only [Act.put, List.setIfInBounds_toArray, List.set_cons_zero, List.set_cons_succ]
              refine AnyK.ready [0] (by kernel_rfl) (by simp) ?_
              refine steps_cons ?_ steps_nil
              refine stepK_load (i := 0) 6 (some 39) rfl rfl rfl 24 _ rfl rfl rfl _ Try.underlying24 rfl (infoW _) ?_
              simp only [Act.put, List.setIfInBounds_toArray, List.set_cons_zero, List.set_cons_succ]
              refine AnyK.ready [2] (by kernel_rfl) (by simp) ?_
              refine steps_cons ?_ steps_nil
              refine StepK.call (i := 2) (some 41) rfl rfl rfl (fun W => by go_simp) HADD.out ?_
              simp only [Act.put, List.setIfInBounds_toArray, List.set_cons_zero, List.set_cons_succ]
              refine AnyK.take 3 (some 38) rfl rfl (by kernel_rfl) (by kernel_rfl) (by kernel_rfl) (fun _ _ _ h => nomatch h.1) (v := _) (.inl ⟨by rfl, fun W hW => by first | (go_simp; done) | (go_simp; rfl)⟩) ?_
              simp only [Act.put, List.setIfInBounds_toArray, List.set_cons_zero, List.set_cons_succ]
              refine AnyK.take 4 (some 42) rfl rfl (by kernel_rfl) (by kernel_rfl) (by kernel_rfl) (fun _ _ _ h => nomatch h.1) (v := _) (.inl ⟨by rfl, fun W hW => by first | (go_simp; done) | (go_simp; rfl)⟩) ?_
              simp only [Act.put, List.setIfInBounds_toArray, List.set_cons_zero, List.set_cons_succ]
              refine AnyK.take 5 (some 43) rfl rfl (by kernel_rfl) (by kernel_rfl) (by kernel_rfl) (fun _ _ _ h => nomatch h.1) (v := _) (.inl ⟨by rfl, fun W hW => by first | (go_simp; done) | (go_simp; rfl)⟩) ?_
              simp only [Act.put, List.setIfInBounds_toArray, List.set_cons_zero, List.set_cons_succ]
              refine AnyK.ready [6] (by kernel_rfl) (by simp) ?_
              refine steps_cons ?_ steps_nil
              refine StepK.store 0 (i := 6) rfl rfl rfl 24 _ _ rfl rfl rfl rfl (infoW _) rfl (oneW _) ?_
              refine AnyK.done (by kernel_rfl) ?_
              exact fun W hW => ⟨rfl, rfl, hW⟩
            exact steps_nil
          clear hH
          intro W13 hH
          simp only [List.nil_append, List.cons_append, List.set_cons_zero, List.set_cons_succ] at hH
          go_wp2_with (first | (refine wpList_box hH 6 rfl 24 _ rfl rfl rfl _ Try.underlying24 rfl (infoW _) ?_) | (refine wpList_box hH 1 rfl 24 _ rfl rfl rfl _ Try.underlying24 rfl (infoW _) ?_) | (go_at_call 25; with_reducible refine (HCMP.out _).mono ?_; rintro e W2 ⟨rfl, hB⟩; replace hH := hH.call hB; clear hB) | (go_at_call 29; with_reducible refine (HSUB.out _).mono ?_; rintro e W2 ⟨rfl, hB⟩; replace hH := hH.call hB; clear hB) | (refine wpList_put hH 6 rfl 24 _ _ rfl rfl rfl rfl (infoW _) rfl (oneW _) ?_; clear hH; intro W1 hH; have hca := hH.cellOf 4 rfl j; rw [ibits_get _ _ _ hj256, hc, c1] at hca; have hcc := hH.cellOf 5 rfl j; rw [fbits_get _ _ hj256] at hcc; have hfc := hH.frozen 5 rfl j))
          go_roundw
          case rel =>
            have hH2 := hH.cellSet 5 rfl j (.int .i64 ((1 : Nat) : Int))
            simp only [List.set_cons_succ, List.set_cons_zero, List.nil_append, List.cons_append] at hH2
            rw [fbits_set _ _ _ hj256, HQ1.out] at hH2
            refine ⟨j, by omega, rfl, ?_⟩
            rw [HRS.out]
            exact Keeps.pre (l0 := [_, _, _, _, _, _, _]) (l1 := [_]) hH2
          case measure => simp [RowKit.intOf]
        ·
          have hcs : cv < 0 := by omega
          rw [decide_eq_false hge, if_neg Bool.false_ne_true] at hrs
          replace hqnone := hqnone hge
          clear hqone
          have HQ1 := Lib.hid hqnone
          have HRS := Lib.hid hrs
          clear hqnone hrs hsg hge
          go_wp2_with (first | (refine wpList_box hH 6 rfl 24 _ rfl rfl rfl _ Try.underlying24 rfl (infoW _) ?_) | (go_at_call 46; refine (bits_any r hr0 _).mono ?_; rintro e W2 ⟨g2, rfl, hg, hcell, hb3⟩; replace hH := hH.gain hb3 hg hcell; clear hg hcell hb3; have hcr := hH.cellOf 7 rfl 255; rw [ibits_get _ _ _ (by decide), hr255, cz] at hcr) | (go_at_call 33; with_reducible refine (HLEFT.out _).mono ?_; rintro e W2 ⟨rfl, hB⟩; replace hH := hH.call hB; clear hB) | (refine wpList_put hH 6 rfl 24 _ _ rfl rfl rfl rfl (infoW _) rfl (oneW _) ?_; clear hH; intro W1 hH; have hca := hH.cellOf 4 rfl j; rw [ibits_get _ _ _ hj256, hc, c1] at hca; have hcc := hH.cellOf 5 rfl j; rw [fbits_get _ _ hj256] at hcc; have hfc := hH.frozen 5 rfl j))
          clear hca hcc hfc
          apply wp_keepsL (W0 := w)
          case hreg =>
            refine anyK_start2 (l0 := [(w.heap.size, wcells a, 24), (w.heap.size + 1, wcells b, 24), (w.heap.size + 1 + 1, wcells 0, 24), (w.heap.size + 1 + 1 + 1, wcells 0, 24), (g, ibits a 256, 3), (z, fbits (qb a b (j + 1)), 3)]) (m := [(z + 1, wcells (2 * r), 24), (g2, ibits r 256, 3)]) 7 rfl (by kernel_rfl) hH ?_
            refine AnyK.ready [0, 1] (by kernel_rfl) (by simp) ?_
            refine steps_cons ?_ ?_
            ·
              refine stepK_load (i := 0) 6 (some 39) rfl rfl rfl 24 _ rfl rfl rfl _ Try.underlying24 rfl (infoW _) ?_
              simp only [Act.put, List.setIfInBounds_toArray, List.set_cons_zero, List.set_cons_succ]
              refine AnyK.ready [1] (by kernel_rfl) (by simp) ?_
              refine steps_cons ?_ steps_nil
              refine StepK.call (i := 1) (some 40) rfl rfl rfl (fun W => by go_simp) HO.out ?_
              simp only [Act.put, List.setIfInBounds_toArray, List.set_cons_zero, List.set_cons_succ]
              refine AnyK.ready [2] (by kernel_rfl) (by simp) ?_
              refine steps_cons ?_ steps_nil
              refine StepK.call (i := 2) (some 41) rfl rfl rfl (fun W => by go_simp) HADD.out ?_
              simp only [Act.put, List.setIfInBounds_toArray, List.set_cons_zero, List.set_cons_succ]
              refine AnyK.take 3 (some 38) rfl rfl (by kernel_rfl) (by kernel_rfl) (by kernel_rfl) (fun _ _ _ h => nomatch h.1) (v := _) (.inl ⟨by rfl, fun W hW => by first | (go_simp; done) | (go_simp; rfl)⟩) ?_
              simp only [Act.put, List.setIfInBounds_toArray, List.set_cons_zero, List.set_cons_succ]
              refine AnyK.take 4 (some 42) rfl rfl (by kernel_rfl) (by kernel_rfl) (by kernel_rfl) (fun _ _ _ h => nomatch h.1) (v := _) (.inl ⟨by rfl, fun W hW => by first | (go_simp; done) | (go_simp; rfl)⟩) ?_
              simp only [Act.put, List.setIfInBounds_toArray, List.set_cons_zero, List.set_cons_succ]
              refine AnyK.take 5 (some 43) rfl rfl (by kernel_rfl) (by kernel_rfl) (by kernel_rfl) (fun _ _ _ h => nomatch h.1) (v := _) (.inl ⟨by rfl, fun W hW => by first | (go_simp; done) | (go_simp; rfl)⟩) ?_
              simp only [Act.put, List.setIfInBounds_toArray, List.set_cons_zero, List.set_cons_succ]
              refine AnyK.ready [6] (by kernel_rfl) (by simp) ?_
              refine steps_cons ?_ steps_nil
              refine StepK.store 0 (i := 6) rfl rfl rfl 24 _ _ rfl rfl rfl rfl (infoW _) rfl (oneW _) ?_
              refine AnyK.done (by kernel_rfl) ?_
              exact fun W hW => ⟨rfl, rfl, hW⟩
            refine steps_cons ?_ ?_
            ·
              refine StepK.call (i := 1) (some 40) rfl rfl rfl (fun W => by go_simp) HO.out ?_
              simp only [Act.put, List.setIfInBounds_toArray, List.set_cons_zero, List.set_cons_succ]
              refine AnyK.ready [0] (by kernel_rfl) (by simp) ?_
              refine steps_cons ?_ steps_nil
              refine stepK_load (i := 0) 6 (some 39) rfl rfl rfl 24 _ rfl rfl rfl _ Try.underlying24 rfl (infoW _) ?_
              simp only [Act.put, List.setIfInBounds_toArray, List.set_cons_zero, List.set_cons_succ]
              refine AnyK.ready [2] (by kernel_rfl) (by simp) ?_
              refine steps_cons ?_ steps_nil
              refine StepK.call (i := 2) (some 41) rfl rfl rfl (fun W => by go_simp) HADD.out ?_
              simp only [Act.put, List.setIfInBounds_toArray, List.set_cons_zero, List.set_cons_succ]
              refine AnyK.take 3 (some 38) rfl rfl (by kernel_rfl) (by kernel_rfl) (by kernel_rfl) (fun _ _ _ h => nomatch h.1) (v := _) (.inl ⟨by rfl, fun W hW => by first | (go_simp; done) | (go_simp; rfl)⟩) ?_
              simp only [Act.put, List.setIfInBounds_toArray, List.set_cons_zero, List.set_cons_succ]
              refine AnyK.take 4 (some 42) rfl rfl (by kernel_rfl) (by kernel_rfl) (by kernel_rfl) (fun _ _ _ h => nomatch h.1) (v := _) (.inl ⟨by rfl, fun W hW => by first | (go_simp; done) | (go_simp; rfl)⟩) ?_
              simp only [Act.put, List.setIfInBounds_toArray, List.set_cons_zero, List.set_cons_succ]
              refine AnyK.take 5 (some 43) rfl rfl (by kernel_rfl) (by kernel_rfl) (by kernel_rfl) (fun _ _ _ h => nomatch h.1) (v := _) (.inl ⟨by rfl, fun W hW => by first | (go_simp; done) | (go_simp; rfl)⟩) ?_
              simp only [Act.put, List.setIfInBounds_toArray, List.set_cons_zero, List.set_cons_succ]
              refine AnyK.ready [6] (by kernel_rfl) (by simp) ?_
              refine steps_cons ?_ steps_nil
              refine StepK.store 0 (i := 6) rfl rfl rfl 24 _ _ rfl rfl rfl rfl (infoW _) rfl (oneW _) ?_
              refine AnyK.done (by kernel_rfl) ?_
              exact fun W hW => ⟨rfl, rfl, hW⟩
            exact steps_nil
          clear hH
          intro W13 hH
          simp only [List.nil_append, List.cons_append, List.set_cons_zero, List.set_cons_succ] at hH
          go_wp2_with (first | (refine wpList_box hH 6 rfl 24 _ rfl rfl rfl _ Try.underlying24 rfl (infoW _) ?_) | (refine wpList_box hH 1 rfl 24 _ rfl rfl rfl _ Try.underlying24 rfl (infoW _) ?_) | (go_at_call 25; with_reducible refine (HCMP.out _).mono ?_; rintro e W2 ⟨rfl, hB⟩; replace hH := hH.call hB; clear hB))
          go_roundw
          case rel =>
            try simp only [List.set_cons_succ, List.set_cons_zero, List.nil_append, List.cons_append] at hH
            rw [HQ1.out] at hH
            refine ⟨j, by omega, rfl, ?_⟩
            rw [HRS.out]
            exact Keeps.pre (l0 := [_, _, _, _, _, _, _]) (l1 := [_]) hH
          case measure => simp [RowKit.intOf]
end Go.Proofs.Ytgmgejjlhlibkaa.Oct
