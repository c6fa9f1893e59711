/- SignNames is true. (Closed.) -/
import Derived.Test.YtijobhpmaenjlaaSigK
import Derived.ArgAppend
namespace Go.Proofs.Ytijobhpmaenjlaa.Oct
set_option linter.unusedVariables false
set_option linter.unusedSimpArgs false
open Go.Proofs.Ytijobhpmaenjlaa Go.RowKit Go.Lib Go.Shelf Go.ChangeShapes Go.WideShapes Go.ChangeAt

/-- append to a full slice, one byte. -/
theorem append_full (W : World) (ty : TypeId) (g n c : Nat) (bs : List UInt8) (hn : bs.length = n) (hn9 : n ≤ 1000) (h8 : Holds8 W.heap.size W (some ⟨g, 0, none⟩) bs) (a : Addr) (x : UInt8) (ha : Holds8 W.heap.size W (some a) [x]) :
    ∃ X cc W', (Builtin.append_ #[24, 24] ty #[.slice (some ⟨g, 0, none⟩) n n, .slice (some a) 1 c]).run Try.prog W = .ok (.slice X (n + 1) cc) W' ∧ Below W.heap.size W W' := by
  rcases h8 with ⟨e, _⟩ | ⟨b, off, e, _, hc⟩
  · cases e
  cases e
  rcases ha with ⟨e, _⟩ | ⟨b2, off2, e, _, hc2⟩
  · cases e
  cases e
  obtain ⟨i0, hi, hz0, hz1, hz2⟩ := info_parts byte_info
  obtain ⟨v', w', hr, h2, h3⟩ := run_append_arg_grows (P := Try.prog) W 24 ty 5 i0 (.int .u8 0) 1 1 Try.underlying24 hi hz0 hz1 hz2 rfl (by decide) ⟨g, 0, none⟩ n n (vals bs) (by rw [vals_length, hn, Nat.mul_one]) (fun j u hu => by
      have hj : j < bs.length := by have := (List.getElem?_eq_some_iff.1 hu).1; rwa [vals_length] at this
      rw [vals_get bs j hj] at hu
      rw [add_off, hc j hj]
      exact hu) ⟨b2, off2, none⟩ 1 c (vals [x]) rfl (fun j u hu => by
      have hj : j < [x].length := by have := (List.getElem?_eq_some_iff.1 hu).1; rwa [vals_length] at this
      rw [vals_get [x] j hj] at hu
      rw [add_off, hc2 j hj]
      exact hu) (by omega) (by unfold maxLen; omega) (by omega)
  rcases h2.2 with ⟨_, h0⟩ | ⟨g', cap, cur, rfl, _⟩
  · omega
  · exact ⟨_, _, w', hr, (Below.refl _ W).grown h3 (Nat.le_refl _) (fun k hk => by cases hk)⟩
theorem holds_lit8 (W : World) : Holds8 (W.alloc (.cells (arr8 (hb 8)) 5)).heap.size (W.alloc (.cells (arr8 (hb 8)) 5)) (some ⟨W.heap.size, 0, none⟩) (hb 8) := holdsH (heap_alloc_new W _)
theorem sig_tail {W : World} {g : Nat} {s A : List UInt8} (hs : s.length = 32) (hA : A.length = 32) (h : Holds8 W.heap.size W (some ⟨g, 0, none⟩) (s ++ A)) : Holds8 W.heap.size W (some ⟨g, 0 + 32, none⟩) A := by
  have h2 := h.dropS 32 64 (by rw [List.length_append]; omega) (by rw [List.length_append]; omega)
  unfold cutS at h2
  rw [if_neg (by decide), List.drop_append_of_le_length (by omega), List.drop_of_length_le (by omega), List.nil_append] at h2
  exact h2
theorem sig_head {W : World} {g : Nat} {s A : List UInt8} (hs : s.length = 32) (h : Holds8 W.heap.size W (some ⟨g, 0, none⟩) (s ++ A)) : Holds8 W.heap.size W (some ⟨g, 0, none⟩) s := by
  have h2 := h.takeS 32
  rw [List.take_append_of_le_length (by omega), List.take_of_length_le (by omega)] at h2
  exact h2

set_option maxRecDepth 100000 in
set_option maxHeartbeats 8000000 in
theorem snames_walk (w : World) : Calls Try.prog 5 #[] w fun e w' => e = .returned (.bool true) ∧ Below w.heap.size w w' := by
  have C1 := fun W => public_any W (hb 9) rfl
  have C2 := fun W => sign_any W (hb 9) (hb 8) rfl rfl
  have C3 := fun (W : World) (X : Option Addr) (c : Nat) (h : Holds8 W.heap.size W X (hb 9 ++ hb 8)) (hc : 64 ≤ c) => of_any' W X 64 c (hb 9 ++ hb 8) rfl h hc (by decide)
  have C4 := fun (W : World) (X : Option Addr) (c : Nat) (h : Holds8 W.heap.size W X (hb 9)) (hc : 32 ≤ c) => of_any' W X 32 c (hb 9) rfl h hc (by decide)
  have hk : (sha (hb 9)).length = 32 := hashOf_length _
  have ha : (sha (hb 9 ++ hb 8)).length = 32 := hashOf_length _
  generalize sha (hb 9 ++ hb 8) = A at *
  generalize sha (hb 9) = KK at *
  have CP := Lib.hid C1
  have CS := Lib.hid C2
  have CO := Lib.hid C3
  have CK := Lib.hid C4
  have CA := Lib.hid (fun W => alive_any W)
  have HK := Lib.hid hk
  have HA := Lib.hid ha
  have HSG := Lib.hid (show (hb 9 ++ A).length = 64 by rw [List.length_append, ha]; rfl)
  have H9 : Hid ((hb 9).length = 32) := Lib.hid rfl
  clear C1 C2 C3 C4 hk ha
  have hK := Keeps.nil w
  go_enter Try.func5, Try.ntmps5
  go_wp2_with (first
    | (refine wpList_build rfl 23 #[(0, .const (.int .u8 9))] rfl (v := .agg (arr8 (hb 9))) (by kernel_rfl) ?_)
    | (refine wpList_build rfl 23 #[(0, .const (.int .u8 8))] rfl (v := .agg (arr8 (hb 8))) (by kernel_rfl) ?_)
    | (go_at_call 10; (with_reducible refine (CP.out _).mono ?_); rintro e W1 ⟨rfl, hb1⟩; replace hK := hK.call hb1; clear hb1)
    | (refine wpList_alloc rfl 23 rfl (z := arr8 zero32) (by kernel_rfl) ?_; try simp only [World.size_alloc])
    | (refine wpList_fill hK rfl 23 (.tmp 1) (.tmp 7) rfl rfl rfl (infoH _ HK.out) (size_same rfl HK.out) (one8x _) ?_; clear hK; intro W2 hK; have hsz := hK.lt 0 rfl)
    | (go_at_call 9; (with_reducible refine (CS.out _).mono ?_); rintro e W3 ⟨gs, rfl, hk3⟩; have hI0 := Keeps.add (hK.call hk3.bel) (Nat.le_trans hK.bel.size (hk3.base 0 _ rfl)) (hk3.get 0 rfl) (fun i p hi => (by have h1 := hK.lt i hi; have h2 : W2.heap.size ≤ gs := hk3.base 0 _ rfl; omega)); clear hK hk3 hsz))
  generalize W1.heap.size = B1 at *
  simp only [List.cons_append, List.nil_append] at hI0
  obtain ⟨S9, hS9⟩ : ∃ x : ByteArray, x = ⟨(hb 9).toArray⟩ := ⟨_, rfl⟩
  obtain ⟨SA, hSA⟩ : ∃ x : ByteArray, x = ⟨A.toArray⟩ := ⟨_, rfl⟩
  have HS9 := Lib.hid hS9
  have HSA := Lib.hid hSA
  clear hS9 hSA
  refine wp_region_phased 85 rfl (fun _ _ W W' => Below W.heap.size W W') (fun p W1 => Keeps w [(B1, arr8 KK, 23), (gs, arr8 (hb 9 ++ A), 5)] W1) [.is (.slice (some ⟨B1, 0, none⟩) 31 32), .is (.slice (some ⟨gs, 0, none⟩) 64 64), .is (.agg (arr8 (hb 8))), .is (.bool false), .is (.bool true), .is (.bool true), .is (.slice (some ⟨B1, 0, none⟩) 32 32), .is (.slice (some ⟨gs, 0, none⟩) 64 64), .is (.slice (some ⟨gs, 0, none⟩) 63 64), .is (.agg (arr8 (hb 8))), .is (.bool false), .is (.bool true), .is (.bool true), .is (.bool true), .is (.slice (some ⟨B1, 0, none⟩) 32 32), .is (.slice (some ⟨gs, 0, none⟩) 64 64), ⟨0, 1000, fun v W => ∃ g, v = .slice (some ⟨g, 0, none⟩) 1 1 ∧ Holds8 W.heap.size W (some ⟨g, 0, none⟩) [0], fun k d v W W' hk hd h hr => by obtain ⟨g, e, h2⟩ := h; exact ⟨g, e, h2.later hr⟩⟩, ⟨0, 1000, fun v W => ∃ X c, v = .slice X 65 c, fun k d v W W' hk hd h hr => h⟩, .is (.agg (arr8 (hb 8))), .is (.bool false), .is (.bool true), .is (.bool true), .is (.bool true), .is (.agg (arr8 (hb 8))), .is (.bool false), .is (.bool true), .is (.bool true), .is (.bool true), .is (.slice (some ⟨B1, 0, none⟩) 32 32), ⟨0, 1000, fun v W => ∃ g, v = .slice (some ⟨g, 0, none⟩) 1 1 ∧ Holds8 W.heap.size W (some ⟨g, 0, none⟩) [0], fun k d v W W' hk hd h hr => by obtain ⟨g, e, h2⟩ := h; exact ⟨g, e, h2.later hr⟩⟩, ⟨0, 1000, fun v W => ∃ X c, v = .slice X 33 c, fun k d v W W' hk hd h hr => h⟩, .is (.slice (some ⟨gs, 0, none⟩) 64 64), .is (.agg (arr8 (hb 8))), .is (.bool false), .is (.bool true), .is (.bool true), .is (.bool true)] [] [0, 0, 0, 0, 0, 0, 0, 0, 0, 0, 0, 0, 0, 0, 0, 0, 0, 0, 0, 0, 0, 0, 0, 0, 0, 0, 0, 0, 0, 0, 0, 0, 0, 0, 0, 0, 0] [0, 0, 0, 0, 0, 0, 0, 0, 0, 0, 0, 0, 0, 0, 0, 0, 0, 0, 0, 0, 0, 0, 0, 0, 0, 0, 0, 0, 0, 0, 0, 0, 0, 0, 0, 0, 0] (by kernel_rfl) (by kernel_rfl) (by kernel_rfl) (fun _ _ W => Below.refl _ W) (hI0.drew) ⟨?ob0, ?ob1, ?ob2, ?ob3, ?ob4, ?ob5, ?ob6, ?ob7, ?ob8, ?ob9, ?ob10, ?ob11, ?ob12, ?ob13, ?ob14, ?ob15, ?ob16, ?ob17, ?ob18, ?ob19, ?ob20, ?ob21, ?ob22, ?ob23, ?ob24, ?ob25, ?ob26, ?ob27, ?ob28, ?ob29, ?ob30, ?ob31, ?ob32, ?ob33, ?ob34, ?ob35, ?ob36, trivial⟩ ?obend
  case ob0 => as_aux_lemma =>
    intro p vals W1 F hF hlo hhi hI hd
    have hp : p = 0 := Nat.le_antisymm hhi hlo
    subst hp
    clear hlo hhi
    have E1 : F.eval (.tmp 1) = .pointer (some ⟨B1, 0, none⟩) := hF.out_ (by kernel_rfl) rfl
    refine .inr ⟨wanted_none rfl, .inl ⟨.slice (some ⟨B1, 0, none⟩) 31 32, ?_, hI, TyP.of_is rfl⟩⟩
    have Ec : ∀ v, F.eval (.const v) = v := fun _ => rfl; have Ef : ∀ f, F.eval (.func f) = .func (.func f) #[] #[] := fun _ => rfl; clear hF hd; generalize F.eval = ρ at E1 Ec Ef ⊢
    simp [execOp, go_sem, Ec, E1]
  case ob1 => as_aux_lemma =>
    intro p vals W1 F hF hlo hhi hI hd
    have hp : p = 0 := Nat.le_antisymm hhi hlo
    subst hp
    clear hlo hhi
    have E2 : F.eval (.tmp 2) = .slice (some ⟨gs, 0, none⟩) 64 64 := hF.out_ (by kernel_rfl) rfl
    refine .inr ⟨wanted_none rfl, .inl ⟨.slice (some ⟨gs, 0, none⟩) 64 64, ?_, hI, TyP.of_is rfl⟩⟩
    simp only [execOp, E2, Sem.run_pure]
  case ob2 => as_aux_lemma =>
    intro p vals W1 F hF hlo hhi hI hd
    have hp : p = 0 := Nat.le_antisymm hhi hlo
    subst hp
    clear hlo hhi
    refine .inr ⟨wanted_none rfl, ?_⟩
    refine .inl ⟨.agg (arr8 (hb 8)), by kernel_rfl, hI, TyP.of_is rfl⟩
  case ob3 => as_aux_lemma =>
    intro p vals W1 F hF hlo hhi hI hd
    have hp : p = 0 := Nat.le_antisymm hhi hlo
    subst hp
    clear hlo hhi
    have d0 : vals 0 = .slice (some ⟨B1, 0, none⟩) 31 32 := hd ⟨0, .data⟩ (Array.mem_of_getElem? (i := 0) rfl) rfl (show (0 : Nat) ≤ 1000 by decide)
    have d1 : vals 1 = .slice (some ⟨gs, 0, none⟩) 64 64 := hd ⟨1, .data⟩ (Array.mem_of_getElem? (i := 1) rfl) rfl (show (0 : Nat) ≤ 1000 by decide)
    have d2 : vals 2 = .agg (arr8 (hb 8)) := hd ⟨2, .data⟩ (Array.mem_of_getElem? (i := 2) rfl) rfl (show (0 : Nat) ≤ 1000 by decide)
    have E14 := eval_some (hF.own_ 0 rfl rfl (by kernel_rfl) (by decide)); rw [d0] at E14
    have E15 := eval_some (hF.own_ 1 rfl rfl (by kernel_rfl) (by decide)); rw [d1] at E15
    have E16 := eval_some (hF.own_ 2 rfl rfl (by kernel_rfl) (by decide)); rw [d2] at E16
    refine .inr ⟨wanted_none rfl, ?_⟩
    refine .inr (.inr (.inl ⟨13, #[.slice (some ⟨B1, 0, none⟩) 31 32, .slice (some ⟨gs, 0, none⟩) 64 64, .agg (arr8 (hb 8))], ?_, (is_short W1 _ _ 31 32 64 64 (hb 8) (by decide)).mono ?_⟩))
    · have Ec : ∀ v, F.eval (.const v) = v := fun _ => rfl; have Ef : ∀ f, F.eval (.func f) = .func (.func f) #[] #[] := fun _ => rfl; clear hF hd; generalize F.eval = ρ at E14 E15 E16 Ec Ef ⊢
      simp [execOp, go_sem, Ec, Ef, E14, E15, E16]
    rintro e W2 ⟨rfl, hb⟩
    exact ⟨_, rfl, hb, hI.call hb, TyP.of_is rfl⟩
  case ob4 => as_aux_lemma =>
    intro p vals W1 F hF hlo hhi hI hd
    have hp : p = 0 := Nat.le_antisymm hhi hlo
    subst hp
    clear hlo hhi
    have d3 : vals 3 = .bool false := hd ⟨3, .data⟩ (Array.mem_of_getElem? (i := 0) rfl) rfl (show (0 : Nat) ≤ 1000 by decide)
    have E17 := eval_some (hF.own_ 3 rfl rfl (by kernel_rfl) (by decide)); rw [d3] at E17
    refine .inr ⟨wanted_none rfl, .inl ⟨.bool true, ?_, hI, TyP.of_is rfl⟩⟩
    have Ec : ∀ v, F.eval (.const v) = v := fun _ => rfl; have Ef : ∀ f, F.eval (.func f) = .func (.func f) #[] #[] := fun _ => rfl; clear hF hd; generalize F.eval = ρ at E17 Ec Ef ⊢
    simp [execOp, go_sem, Ec, E17]
  case ob5 => as_aux_lemma =>
    intro p vals W1 F hF hlo hhi hI hd
    have hp : p = 0 := Nat.le_antisymm hhi hlo
    subst hp
    clear hlo hhi
    have d4 : vals 4 = .bool true := hd ⟨4, .data⟩ (Array.mem_of_getElem? (i := 0) rfl) rfl (show (0 : Nat) ≤ 1000 by decide)
    have E18 := eval_some (hF.own_ 4 rfl rfl (by kernel_rfl) (by decide)); rw [d4] at E18
    refine .inr ⟨wanted_none rfl, .inl ⟨.bool true, ?_, hI, TyP.of_is rfl⟩⟩
    simp only [execOp, E18, Sem.run_pure]
  case ob6 => as_aux_lemma =>
    intro p vals W1 F hF hlo hhi hI hd
    have hp : p = 0 := Nat.le_antisymm hhi hlo
    subst hp
    clear hlo hhi
    have d5 : vals 5 = .bool true := hd ⟨5, .guard⟩ (Array.mem_of_getElem? (i := 0) rfl) rfl (show (0 : Nat) ≤ 1000 by decide)
    have E1 : F.eval (.tmp 1) = .pointer (some ⟨B1, 0, none⟩) := hF.out_ (by kernel_rfl) rfl
    have G := hF.own_ 5 rfl rfl (by kernel_rfl) (by decide); rw [d5] at G
    refine .inr ⟨wanted_yes rfl rfl rfl G, .inl ⟨.slice (some ⟨B1, 0, none⟩) 32 32, ?_, hI, TyP.of_is rfl⟩⟩
    have Ec : ∀ v, F.eval (.const v) = v := fun _ => rfl; have Ef : ∀ f, F.eval (.func f) = .func (.func f) #[] #[] := fun _ => rfl; clear hF hd; generalize F.eval = ρ at E1 Ec Ef ⊢
    simp [execOp, go_sem, Ec, E1]
  case ob7 => as_aux_lemma =>
    intro p vals W1 F hF hlo hhi hI hd
    have hp : p = 0 := Nat.le_antisymm hhi hlo
    subst hp
    clear hlo hhi
    have d5 : vals 5 = .bool true := hd ⟨5, .guard⟩ (Array.mem_of_getElem? (i := 0) rfl) rfl (show (0 : Nat) ≤ 1000 by decide)
    have E2 : F.eval (.tmp 2) = .slice (some ⟨gs, 0, none⟩) 64 64 := hF.out_ (by kernel_rfl) rfl
    have G := hF.own_ 5 rfl rfl (by kernel_rfl) (by decide); rw [d5] at G
    refine .inr ⟨wanted_yes rfl rfl rfl G, .inl ⟨.slice (some ⟨gs, 0, none⟩) 64 64, ?_, hI, TyP.of_is rfl⟩⟩
    simp only [execOp, E2, Sem.run_pure]
  case ob8 => as_aux_lemma =>
    intro p vals W1 F hF hlo hhi hI hd
    have hp : p = 0 := Nat.le_antisymm hhi hlo
    subst hp
    clear hlo hhi
    have d5 : vals 5 = .bool true := hd ⟨5, .guard⟩ (Array.mem_of_getElem? (i := 1) rfl) rfl (show (0 : Nat) ≤ 1000 by decide)
    have d7 : vals 7 = .slice (some ⟨gs, 0, none⟩) 64 64 := hd ⟨7, .data⟩ (Array.mem_of_getElem? (i := 0) rfl) rfl (show (0 : Nat) ≤ 1000 by decide)
    have E21 := eval_some (hF.own_ 7 rfl rfl (by kernel_rfl) (by decide)); rw [d7] at E21
    have G := hF.own_ 5 rfl rfl (by kernel_rfl) (by decide); rw [d5] at G
    refine .inr ⟨wanted_yes rfl rfl rfl G, .inl ⟨.slice (some ⟨gs, 0, none⟩) 63 64, ?_, hI, TyP.of_is rfl⟩⟩
    have Ec : ∀ v, F.eval (.const v) = v := fun _ => rfl; have Ef : ∀ f, F.eval (.func f) = .func (.func f) #[] #[] := fun _ => rfl; clear hF hd; generalize F.eval = ρ at E21 Ec Ef ⊢
    simp [execOp, go_sem, Ec, E21]
  case ob9 => as_aux_lemma =>
    intro p vals W1 F hF hlo hhi hI hd
    have hp : p = 0 := Nat.le_antisymm hhi hlo
    subst hp
    clear hlo hhi
    have d5 : vals 5 = .bool true := hd ⟨5, .guard⟩ (Array.mem_of_getElem? (i := 0) rfl) rfl (show (0 : Nat) ≤ 1000 by decide)
    have G := hF.own_ 5 rfl rfl (by kernel_rfl) (by decide); rw [d5] at G
    refine .inr ⟨wanted_yes rfl rfl rfl G, ?_⟩
    refine .inl ⟨.agg (arr8 (hb 8)), by kernel_rfl, hI, TyP.of_is rfl⟩
  case ob10 => as_aux_lemma =>
    intro p vals W1 F hF hlo hhi hI hd
    have hp : p = 0 := Nat.le_antisymm hhi hlo
    subst hp
    clear hlo hhi
    have d5 : vals 5 = .bool true := hd ⟨5, .chain⟩ (Array.mem_of_getElem? (i := 3) rfl) rfl (show (0 : Nat) ≤ 1000 by decide)
    have d6 : vals 6 = .slice (some ⟨B1, 0, none⟩) 32 32 := hd ⟨6, .data⟩ (Array.mem_of_getElem? (i := 0) rfl) rfl (show (0 : Nat) ≤ 1000 by decide)
    have d8 : vals 8 = .slice (some ⟨gs, 0, none⟩) 63 64 := hd ⟨8, .data⟩ (Array.mem_of_getElem? (i := 1) rfl) rfl (show (0 : Nat) ≤ 1000 by decide)
    have d9 : vals 9 = .agg (arr8 (hb 8)) := hd ⟨9, .data⟩ (Array.mem_of_getElem? (i := 2) rfl) rfl (show (0 : Nat) ≤ 1000 by decide)
    have E20 := eval_some (hF.own_ 6 rfl rfl (by kernel_rfl) (by decide)); rw [d6] at E20
    have E22 := eval_some (hF.own_ 8 rfl rfl (by kernel_rfl) (by decide)); rw [d8] at E22
    have E23 := eval_some (hF.own_ 9 rfl rfl (by kernel_rfl) (by decide)); rw [d9] at E23
    have G := hF.own_ 5 rfl rfl (by kernel_rfl) (by decide); rw [d5] at G
    refine .inr ⟨wanted_yes rfl rfl rfl G, ?_⟩
    refine .inr (.inr (.inl ⟨13, #[.slice (some ⟨B1, 0, none⟩) 32 32, .slice (some ⟨gs, 0, none⟩) 63 64, .agg (arr8 (hb 8))], ?_, (is_short W1 _ _ 32 32 63 64 (hb 8) (by decide)).mono ?_⟩))
    · have Ec : ∀ v, F.eval (.const v) = v := fun _ => rfl; have Ef : ∀ f, F.eval (.func f) = .func (.func f) #[] #[] := fun _ => rfl; clear hF hd; generalize F.eval = ρ at E20 E22 E23 Ec Ef ⊢
      simp [execOp, go_sem, Ec, Ef, E20, E22, E23]
    rintro e W2 ⟨rfl, hb⟩
    exact ⟨_, rfl, hb, hI.call hb, TyP.of_is rfl⟩
  case ob11 => as_aux_lemma =>
    intro p vals W1 F hF hlo hhi hI hd
    have hp : p = 0 := Nat.le_antisymm hhi hlo
    subst hp
    clear hlo hhi
    have d5 : vals 5 = .bool true := hd ⟨5, .guard⟩ (Array.mem_of_getElem? (i := 1) rfl) rfl (show (0 : Nat) ≤ 1000 by decide)
    have d10 : vals 10 = .bool false := hd ⟨10, .data⟩ (Array.mem_of_getElem? (i := 0) rfl) rfl (show (0 : Nat) ≤ 1000 by decide)
    have E24 := eval_some (hF.own_ 10 rfl rfl (by kernel_rfl) (by decide)); rw [d10] at E24
    have G := hF.own_ 5 rfl rfl (by kernel_rfl) (by decide); rw [d5] at G
    refine .inr ⟨wanted_yes rfl rfl rfl G, .inl ⟨.bool true, ?_, hI, TyP.of_is rfl⟩⟩
    have Ec : ∀ v, F.eval (.const v) = v := fun _ => rfl; have Ef : ∀ f, F.eval (.func f) = .func (.func f) #[] #[] := fun _ => rfl; clear hF hd; generalize F.eval = ρ at E24 Ec Ef ⊢
    simp [execOp, go_sem, Ec, E24]
  case ob12 => as_aux_lemma =>
    intro p vals W1 F hF hlo hhi hI hd
    have hp : p = 0 := Nat.le_antisymm hhi hlo
    subst hp
    clear hlo hhi
    have d5 : vals 5 = .bool true := hd ⟨5, .data⟩ (Array.mem_of_getElem? (i := 0) rfl) rfl (show (0 : Nat) ≤ 1000 by decide)
    have d11 : vals 11 = .bool true := hd ⟨11, .data⟩ (Array.mem_of_getElem? (i := 1) rfl) rfl (show (0 : Nat) ≤ 1000 by decide)
    have E19 := eval_some (hF.own_ 5 rfl rfl (by kernel_rfl) (by decide)); rw [d5] at E19
    have E25 := eval_some (hF.own_ 11 rfl rfl (by kernel_rfl) (by decide)); rw [d11] at E25
    refine .inr ⟨wanted_none rfl, .inl ⟨.bool true, ?_, hI, TyP.of_is rfl⟩⟩
    have Ec : ∀ v, F.eval (.const v) = v := fun _ => rfl; have Ef : ∀ f, F.eval (.func f) = .func (.func f) #[] #[] := fun _ => rfl; clear hF hd; generalize F.eval = ρ at E19 E25 Ec Ef ⊢
    simp [execOp, go_sem, Ec, E19, E25]
  case ob13 => as_aux_lemma =>
    intro p vals W1 F hF hlo hhi hI hd
    have hp : p = 0 := Nat.le_antisymm hhi hlo
    subst hp
    clear hlo hhi
    have d12 : vals 12 = .bool true := hd ⟨12, .data⟩ (Array.mem_of_getElem? (i := 0) rfl) rfl (show (0 : Nat) ≤ 1000 by decide)
    have E26 := eval_some (hF.own_ 12 rfl rfl (by kernel_rfl) (by decide)); rw [d12] at E26
    refine .inr ⟨wanted_none rfl, .inl ⟨.bool true, ?_, hI, TyP.of_is rfl⟩⟩
    simp only [execOp, E26, Sem.run_pure]
  case ob14 => as_aux_lemma =>
    intro p vals W1 F hF hlo hhi hI hd
    have hp : p = 0 := Nat.le_antisymm hhi hlo
    subst hp
    clear hlo hhi
    have d13 : vals 13 = .bool true := hd ⟨13, .guard⟩ (Array.mem_of_getElem? (i := 0) rfl) rfl (show (0 : Nat) ≤ 1000 by decide)
    have E1 : F.eval (.tmp 1) = .pointer (some ⟨B1, 0, none⟩) := hF.out_ (by kernel_rfl) rfl
    have G := hF.own_ 13 rfl rfl (by kernel_rfl) (by decide); rw [d13] at G
    refine .inr ⟨wanted_yes rfl rfl rfl G, .inl ⟨.slice (some ⟨B1, 0, none⟩) 32 32, ?_, hI, TyP.of_is rfl⟩⟩
    have Ec : ∀ v, F.eval (.const v) = v := fun _ => rfl; have Ef : ∀ f, F.eval (.func f) = .func (.func f) #[] #[] := fun _ => rfl; clear hF hd; generalize F.eval = ρ at E1 Ec Ef ⊢
    simp [execOp, go_sem, Ec, E1]
  case ob15 => as_aux_lemma =>
    intro p vals W1 F hF hlo hhi hI hd
    have hp : p = 0 := Nat.le_antisymm hhi hlo
    subst hp
    clear hlo hhi
    have d13 : vals 13 = .bool true := hd ⟨13, .guard⟩ (Array.mem_of_getElem? (i := 0) rfl) rfl (show (0 : Nat) ≤ 1000 by decide)
    have E2 : F.eval (.tmp 2) = .slice (some ⟨gs, 0, none⟩) 64 64 := hF.out_ (by kernel_rfl) rfl
    have G := hF.own_ 13 rfl rfl (by kernel_rfl) (by decide); rw [d13] at G
    refine .inr ⟨wanted_yes rfl rfl rfl G, .inl ⟨.slice (some ⟨gs, 0, none⟩) 64 64, ?_, hI, TyP.of_is rfl⟩⟩
    simp only [execOp, E2, Sem.run_pure]
  case ob16 => as_aux_lemma =>
    intro p vals W1 F hF hlo hhi hI hd
    have hp : p = 0 := Nat.le_antisymm hhi hlo
    subst hp
    clear hlo hhi
    have d13 : vals 13 = .bool true := hd ⟨13, .guard⟩ (Array.mem_of_getElem? (i := 0) rfl) rfl (show (0 : Nat) ≤ 1000 by decide)
    have G := hF.own_ 13 rfl rfl (by kernel_rfl) (by decide); rw [d13] at G
    refine .inr ⟨wanted_yes rfl rfl rfl G, ?_⟩
    have hb : Below W1.heap.size W1 (W1.alloc (.cells #[.int .u8 0] 5)) := (Below.refl W1.heap.size W1).alloc (Nat.le_refl _) _
    refine .inr (.inl ⟨.slice (some ⟨W1.heap.size, 0, none⟩) 1 1, W1.alloc (.cells #[.int .u8 0] 5), ?_, hb, hI.call hb, W1.heap.size, rfl, holds_one W1 0⟩)
    have Ec : ∀ v, F.eval (.const v) = v := fun _ => rfl; have Ef : ∀ f, F.eval (.func f) = .func (.func f) #[] #[] := fun _ => rfl; clear hF hd; generalize F.eval = ρ at  Ec Ef ⊢
    simp [execOp, go_sem, Ec]
  case ob17 => as_aux_lemma =>
    intro p vals W1 F hF hlo hhi hI hd
    have hp : p = 0 := Nat.le_antisymm hhi hlo
    subst hp
    clear hlo hhi
    have d13 : vals 13 = .bool true := hd ⟨13, .chain⟩ (Array.mem_of_getElem? (i := 2) rfl) rfl (show (0 : Nat) ≤ 1000 by decide)
    have d15 : vals 15 = .slice (some ⟨gs, 0, none⟩) 64 64 := hd ⟨15, .data⟩ (Array.mem_of_getElem? (i := 0) rfl) rfl (show (0 : Nat) ≤ 1000 by decide)
    obtain ⟨g16, hspec16, hh16⟩ := hd ⟨16, .data⟩ (Array.mem_of_getElem? (i := 1) rfl) rfl (show (0 : Nat) ≤ 1000 by decide)
    have d16 : vals 16 = .slice (some ⟨g16, 0, none⟩) 1 1 := hspec16
    have E29 := eval_some (hF.own_ 15 rfl rfl (by kernel_rfl) (by decide)); rw [d15] at E29
    have E30 := eval_some (hF.own_ 16 rfl rfl (by kernel_rfl) (by decide)); rw [d16] at E30
    have G := hF.own_ 13 rfl rfl (by kernel_rfl) (by decide); rw [d13] at G
    refine .inr ⟨wanted_yes rfl rfl rfl G, ?_⟩
    obtain ⟨X, cc, W2, hr, hb⟩ := append_full W1 24 gs 64 1 (hb 9 ++ A) HSG.out (by decide) (holdsK (k := 1) hI rfl) ⟨g16, 0, none⟩ 0 hh16
    refine .inr (.inl ⟨.slice X 65 cc, W2, ?_, hb, hI.call hb, X, cc, rfl⟩)
    have Ec : ∀ v, F.eval (.const v) = v := fun _ => rfl; have Ef : ∀ f, F.eval (.func f) = .func (.func f) #[] #[] := fun _ => rfl; clear hF hd; generalize F.eval = ρ at E29 E30 Ec Ef ⊢
    unfold execOp
    simp only [resolve, invoke, builtin, Sem.run_bind, Sem.run_pure, Result.andThen_ok, List.map_toArray, List.map_cons, List.map_nil, E29, E30, hr]
  case ob18 => as_aux_lemma =>
    intro p vals W1 F hF hlo hhi hI hd
    have hp : p = 0 := Nat.le_antisymm hhi hlo
    subst hp
    clear hlo hhi
    have d13 : vals 13 = .bool true := hd ⟨13, .guard⟩ (Array.mem_of_getElem? (i := 0) rfl) rfl (show (0 : Nat) ≤ 1000 by decide)
    have G := hF.own_ 13 rfl rfl (by kernel_rfl) (by decide); rw [d13] at G
    refine .inr ⟨wanted_yes rfl rfl rfl G, ?_⟩
    refine .inl ⟨.agg (arr8 (hb 8)), by kernel_rfl, hI, TyP.of_is rfl⟩
  case ob19 => as_aux_lemma =>
    intro p vals W1 F hF hlo hhi hI hd
    have hp : p = 0 := Nat.le_antisymm hhi hlo
    subst hp
    clear hlo hhi
    have d13 : vals 13 = .bool true := hd ⟨13, .guard⟩ (Array.mem_of_getElem? (i := 4) rfl) rfl (show (0 : Nat) ≤ 1000 by decide)
    have d14 : vals 14 = .slice (some ⟨B1, 0, none⟩) 32 32 := hd ⟨14, .data⟩ (Array.mem_of_getElem? (i := 0) rfl) rfl (show (0 : Nat) ≤ 1000 by decide)
    obtain ⟨X17, c17, hspec17⟩ := hd ⟨17, .data⟩ (Array.mem_of_getElem? (i := 1) rfl) rfl (show (0 : Nat) ≤ 1000 by decide)
    have d17 : vals 17 = .slice X17 65 c17 := hspec17
    have d18 : vals 18 = .agg (arr8 (hb 8)) := hd ⟨18, .data⟩ (Array.mem_of_getElem? (i := 2) rfl) rfl (show (0 : Nat) ≤ 1000 by decide)
    have E28 := eval_some (hF.own_ 14 rfl rfl (by kernel_rfl) (by decide)); rw [d14] at E28
    have E31 := eval_some (hF.own_ 17 rfl rfl (by kernel_rfl) (by decide)); rw [d17] at E31
    have E32 := eval_some (hF.own_ 18 rfl rfl (by kernel_rfl) (by decide)); rw [d18] at E32
    have G := hF.own_ 13 rfl rfl (by kernel_rfl) (by decide); rw [d13] at G
    refine .inr ⟨wanted_yes rfl rfl rfl G, ?_⟩
    refine .inr (.inr (.inl ⟨13, #[.slice (some ⟨B1, 0, none⟩) 32 32, .slice X17 65 c17, .agg (arr8 (hb 8))], ?_, (is_short W1 _ _ 32 32 65 c17 (hb 8) (by decide)).mono ?_⟩))
    · have Ec : ∀ v, F.eval (.const v) = v := fun _ => rfl; have Ef : ∀ f, F.eval (.func f) = .func (.func f) #[] #[] := fun _ => rfl; clear hF hd; generalize F.eval = ρ at E28 E31 E32 Ec Ef ⊢
      simp [execOp, go_sem, Ec, Ef, E28, E31, E32]
    rintro e W2 ⟨rfl, hb⟩
    exact ⟨_, rfl, hb, hI.call hb, TyP.of_is rfl⟩
  case ob20 => as_aux_lemma =>
    intro p vals W1 F hF hlo hhi hI hd
    have hp : p = 0 := Nat.le_antisymm hhi hlo
    subst hp
    clear hlo hhi
    have d13 : vals 13 = .bool true := hd ⟨13, .guard⟩ (Array.mem_of_getElem? (i := 1) rfl) rfl (show (0 : Nat) ≤ 1000 by decide)
    have d19 : vals 19 = .bool false := hd ⟨19, .data⟩ (Array.mem_of_getElem? (i := 0) rfl) rfl (show (0 : Nat) ≤ 1000 by decide)
    have E33 := eval_some (hF.own_ 19 rfl rfl (by kernel_rfl) (by decide)); rw [d19] at E33
    have G := hF.own_ 13 rfl rfl (by kernel_rfl) (by decide); rw [d13] at G
    refine .inr ⟨wanted_yes rfl rfl rfl G, .inl ⟨.bool true, ?_, hI, TyP.of_is rfl⟩⟩
    have Ec : ∀ v, F.eval (.const v) = v := fun _ => rfl; have Ef : ∀ f, F.eval (.func f) = .func (.func f) #[] #[] := fun _ => rfl; clear hF hd; generalize F.eval = ρ at E33 Ec Ef ⊢
    simp [execOp, go_sem, Ec, E33]
  case ob21 => as_aux_lemma =>
    intro p vals W1 F hF hlo hhi hI hd
    have hp : p = 0 := Nat.le_antisymm hhi hlo
    subst hp
    clear hlo hhi
    have d13 : vals 13 = .bool true := hd ⟨13, .data⟩ (Array.mem_of_getElem? (i := 0) rfl) rfl (show (0 : Nat) ≤ 1000 by decide)
    have d20 : vals 20 = .bool true := hd ⟨20, .data⟩ (Array.mem_of_getElem? (i := 1) rfl) rfl (show (0 : Nat) ≤ 1000 by decide)
    have E27 := eval_some (hF.own_ 13 rfl rfl (by kernel_rfl) (by decide)); rw [d13] at E27
    have E34 := eval_some (hF.own_ 20 rfl rfl (by kernel_rfl) (by decide)); rw [d20] at E34
    refine .inr ⟨wanted_none rfl, .inl ⟨.bool true, ?_, hI, TyP.of_is rfl⟩⟩
    have Ec : ∀ v, F.eval (.const v) = v := fun _ => rfl; have Ef : ∀ f, F.eval (.func f) = .func (.func f) #[] #[] := fun _ => rfl; clear hF hd; generalize F.eval = ρ at E27 E34 Ec Ef ⊢
    simp [execOp, go_sem, Ec, E27, E34]
  case ob22 => as_aux_lemma =>
    intro p vals W1 F hF hlo hhi hI hd
    have hp : p = 0 := Nat.le_antisymm hhi hlo
    subst hp
    clear hlo hhi
    have d21 : vals 21 = .bool true := hd ⟨21, .data⟩ (Array.mem_of_getElem? (i := 0) rfl) rfl (show (0 : Nat) ≤ 1000 by decide)
    have E35 := eval_some (hF.own_ 21 rfl rfl (by kernel_rfl) (by decide)); rw [d21] at E35
    refine .inr ⟨wanted_none rfl, .inl ⟨.bool true, ?_, hI, TyP.of_is rfl⟩⟩
    simp only [execOp, E35, Sem.run_pure]
  case ob23 => as_aux_lemma =>
    intro p vals W1 F hF hlo hhi hI hd
    have hp : p = 0 := Nat.le_antisymm hhi hlo
    subst hp
    clear hlo hhi
    have d22 : vals 22 = .bool true := hd ⟨22, .guard⟩ (Array.mem_of_getElem? (i := 0) rfl) rfl (show (0 : Nat) ≤ 1000 by decide)
    have G := hF.own_ 22 rfl rfl (by kernel_rfl) (by decide); rw [d22] at G
    refine .inr ⟨wanted_yes rfl rfl rfl G, ?_⟩
    refine .inl ⟨.agg (arr8 (hb 8)), by kernel_rfl, hI, TyP.of_is rfl⟩
  case ob24 => as_aux_lemma =>
    intro p vals W1 F hF hlo hhi hI hd
    have hp : p = 0 := Nat.le_antisymm hhi hlo
    subst hp
    clear hlo hhi
    have d22 : vals 22 = .bool true := hd ⟨22, .chain⟩ (Array.mem_of_getElem? (i := 1) rfl) rfl (show (0 : Nat) ≤ 1000 by decide)
    have d23 : vals 23 = .agg (arr8 (hb 8)) := hd ⟨23, .data⟩ (Array.mem_of_getElem? (i := 0) rfl) rfl (show (0 : Nat) ≤ 1000 by decide)
    have E37 := eval_some (hF.own_ 23 rfl rfl (by kernel_rfl) (by decide)); rw [d23] at E37
    have G := hF.own_ 22 rfl rfl (by kernel_rfl) (by decide); rw [d22] at G
    refine .inr ⟨wanted_yes rfl rfl rfl G, ?_⟩
    refine .inr (.inr (.inl ⟨13, #[.slice none 0 0, .slice none 0 0, .agg (arr8 (hb 8))], ?_, (is_short W1 _ _ 0 0 0 0 (hb 8) (by decide)).mono ?_⟩))
    · have Ec : ∀ v, F.eval (.const v) = v := fun _ => rfl; have Ef : ∀ f, F.eval (.func f) = .func (.func f) #[] #[] := fun _ => rfl; clear hF hd; generalize F.eval = ρ at E37 Ec Ef ⊢
      simp [execOp, go_sem, Ec, Ef, E37]
    rintro e W2 ⟨rfl, hb⟩
    exact ⟨_, rfl, hb, hI.call hb, TyP.of_is rfl⟩
  case ob25 => as_aux_lemma =>
    intro p vals W1 F hF hlo hhi hI hd
    have hp : p = 0 := Nat.le_antisymm hhi hlo
    subst hp
    clear hlo hhi
    have d22 : vals 22 = .bool true := hd ⟨22, .guard⟩ (Array.mem_of_getElem? (i := 1) rfl) rfl (show (0 : Nat) ≤ 1000 by decide)
    have d24 : vals 24 = .bool false := hd ⟨24, .data⟩ (Array.mem_of_getElem? (i := 0) rfl) rfl (show (0 : Nat) ≤ 1000 by decide)
    have E38 := eval_some (hF.own_ 24 rfl rfl (by kernel_rfl) (by decide)); rw [d24] at E38
    have G := hF.own_ 22 rfl rfl (by kernel_rfl) (by decide); rw [d22] at G
    refine .inr ⟨wanted_yes rfl rfl rfl G, .inl ⟨.bool true, ?_, hI, TyP.of_is rfl⟩⟩
    have Ec : ∀ v, F.eval (.const v) = v := fun _ => rfl; have Ef : ∀ f, F.eval (.func f) = .func (.func f) #[] #[] := fun _ => rfl; clear hF hd; generalize F.eval = ρ at E38 Ec Ef ⊢
    simp [execOp, go_sem, Ec, E38]
  case ob26 => as_aux_lemma =>
    intro p vals W1 F hF hlo hhi hI hd
    have hp : p = 0 := Nat.le_antisymm hhi hlo
    subst hp
    clear hlo hhi
    have d22 : vals 22 = .bool true := hd ⟨22, .data⟩ (Array.mem_of_getElem? (i := 0) rfl) rfl (show (0 : Nat) ≤ 1000 by decide)
    have d25 : vals 25 = .bool true := hd ⟨25, .data⟩ (Array.mem_of_getElem? (i := 1) rfl) rfl (show (0 : Nat) ≤ 1000 by decide)
    have E36 := eval_some (hF.own_ 22 rfl rfl (by kernel_rfl) (by decide)); rw [d22] at E36
    have E39 := eval_some (hF.own_ 25 rfl rfl (by kernel_rfl) (by decide)); rw [d25] at E39
    refine .inr ⟨wanted_none rfl, .inl ⟨.bool true, ?_, hI, TyP.of_is rfl⟩⟩
    have Ec : ∀ v, F.eval (.const v) = v := fun _ => rfl; have Ef : ∀ f, F.eval (.func f) = .func (.func f) #[] #[] := fun _ => rfl; clear hF hd; generalize F.eval = ρ at E36 E39 Ec Ef ⊢
    simp [execOp, go_sem, Ec, E36, E39]
  case ob27 => as_aux_lemma =>
    intro p vals W1 F hF hlo hhi hI hd
    have hp : p = 0 := Nat.le_antisymm hhi hlo
    subst hp
    clear hlo hhi
    have d26 : vals 26 = .bool true := hd ⟨26, .data⟩ (Array.mem_of_getElem? (i := 0) rfl) rfl (show (0 : Nat) ≤ 1000 by decide)
    have E40 := eval_some (hF.own_ 26 rfl rfl (by kernel_rfl) (by decide)); rw [d26] at E40
    refine .inr ⟨wanted_none rfl, .inl ⟨.bool true, ?_, hI, TyP.of_is rfl⟩⟩
    simp only [execOp, E40, Sem.run_pure]
  case ob28 => as_aux_lemma =>
    intro p vals W1 F hF hlo hhi hI hd
    have hp : p = 0 := Nat.le_antisymm hhi hlo
    subst hp
    clear hlo hhi
    have d27 : vals 27 = .bool true := hd ⟨27, .guard⟩ (Array.mem_of_getElem? (i := 0) rfl) rfl (show (0 : Nat) ≤ 1000 by decide)
    have E1 : F.eval (.tmp 1) = .pointer (some ⟨B1, 0, none⟩) := hF.out_ (by kernel_rfl) rfl
    have G := hF.own_ 27 rfl rfl (by kernel_rfl) (by decide); rw [d27] at G
    refine .inr ⟨wanted_yes rfl rfl rfl G, .inl ⟨.slice (some ⟨B1, 0, none⟩) 32 32, ?_, hI, TyP.of_is rfl⟩⟩
    have Ec : ∀ v, F.eval (.const v) = v := fun _ => rfl; have Ef : ∀ f, F.eval (.func f) = .func (.func f) #[] #[] := fun _ => rfl; clear hF hd; generalize F.eval = ρ at E1 Ec Ef ⊢
    simp [execOp, go_sem, Ec, E1]
  case ob29 => as_aux_lemma =>
    intro p vals W1 F hF hlo hhi hI hd
    have hp : p = 0 := Nat.le_antisymm hhi hlo
    subst hp
    clear hlo hhi
    have d27 : vals 27 = .bool true := hd ⟨27, .guard⟩ (Array.mem_of_getElem? (i := 0) rfl) rfl (show (0 : Nat) ≤ 1000 by decide)
    have G := hF.own_ 27 rfl rfl (by kernel_rfl) (by decide); rw [d27] at G
    refine .inr ⟨wanted_yes rfl rfl rfl G, ?_⟩
    have hb : Below W1.heap.size W1 (W1.alloc (.cells #[.int .u8 0] 5)) := (Below.refl W1.heap.size W1).alloc (Nat.le_refl _) _
    refine .inr (.inl ⟨.slice (some ⟨W1.heap.size, 0, none⟩) 1 1, W1.alloc (.cells #[.int .u8 0] 5), ?_, hb, hI.call hb, W1.heap.size, rfl, holds_one W1 0⟩)
    have Ec : ∀ v, F.eval (.const v) = v := fun _ => rfl; have Ef : ∀ f, F.eval (.func f) = .func (.func f) #[] #[] := fun _ => rfl; clear hF hd; generalize F.eval = ρ at  Ec Ef ⊢
    simp [execOp, go_sem, Ec]
  case ob30 => as_aux_lemma =>
    intro p vals W1 F hF hlo hhi hI hd
    have hp : p = 0 := Nat.le_antisymm hhi hlo
    subst hp
    clear hlo hhi
    have d27 : vals 27 = .bool true := hd ⟨27, .chain⟩ (Array.mem_of_getElem? (i := 2) rfl) rfl (show (0 : Nat) ≤ 1000 by decide)
    have d28 : vals 28 = .slice (some ⟨B1, 0, none⟩) 32 32 := hd ⟨28, .data⟩ (Array.mem_of_getElem? (i := 0) rfl) rfl (show (0 : Nat) ≤ 1000 by decide)
    obtain ⟨g29, hspec29, hh29⟩ := hd ⟨29, .data⟩ (Array.mem_of_getElem? (i := 1) rfl) rfl (show (0 : Nat) ≤ 1000 by decide)
    have d29 : vals 29 = .slice (some ⟨g29, 0, none⟩) 1 1 := hspec29
    have E42 := eval_some (hF.own_ 28 rfl rfl (by kernel_rfl) (by decide)); rw [d28] at E42
    have E43 := eval_some (hF.own_ 29 rfl rfl (by kernel_rfl) (by decide)); rw [d29] at E43
    have G := hF.own_ 27 rfl rfl (by kernel_rfl) (by decide); rw [d27] at G
    refine .inr ⟨wanted_yes rfl rfl rfl G, ?_⟩
    obtain ⟨X, cc, W2, hr, hb⟩ := append_full W1 24 B1 32 1 KK HK.out (by decide) (holdsK (k := 0) hI rfl) ⟨g29, 0, none⟩ 0 hh29
    refine .inr (.inl ⟨.slice X 33 cc, W2, ?_, hb, hI.call hb, X, cc, rfl⟩)
    have Ec : ∀ v, F.eval (.const v) = v := fun _ => rfl; have Ef : ∀ f, F.eval (.func f) = .func (.func f) #[] #[] := fun _ => rfl; clear hF hd; generalize F.eval = ρ at E42 E43 Ec Ef ⊢
    unfold execOp
    simp only [resolve, invoke, builtin, Sem.run_bind, Sem.run_pure, Result.andThen_ok, List.map_toArray, List.map_cons, List.map_nil, E42, E43, hr]
  case ob31 => as_aux_lemma =>
    intro p vals W1 F hF hlo hhi hI hd
    have hp : p = 0 := Nat.le_antisymm hhi hlo
    subst hp
    clear hlo hhi
    have d27 : vals 27 = .bool true := hd ⟨27, .guard⟩ (Array.mem_of_getElem? (i := 0) rfl) rfl (show (0 : Nat) ≤ 1000 by decide)
    have E2 : F.eval (.tmp 2) = .slice (some ⟨gs, 0, none⟩) 64 64 := hF.out_ (by kernel_rfl) rfl
    have G := hF.own_ 27 rfl rfl (by kernel_rfl) (by decide); rw [d27] at G
    refine .inr ⟨wanted_yes rfl rfl rfl G, .inl ⟨.slice (some ⟨gs, 0, none⟩) 64 64, ?_, hI, TyP.of_is rfl⟩⟩
    simp only [execOp, E2, Sem.run_pure]
  case ob32 => as_aux_lemma =>
    intro p vals W1 F hF hlo hhi hI hd
    have hp : p = 0 := Nat.le_antisymm hhi hlo
    subst hp
    clear hlo hhi
    have d27 : vals 27 = .bool true := hd ⟨27, .guard⟩ (Array.mem_of_getElem? (i := 0) rfl) rfl (show (0 : Nat) ≤ 1000 by decide)
    have G := hF.own_ 27 rfl rfl (by kernel_rfl) (by decide); rw [d27] at G
    refine .inr ⟨wanted_yes rfl rfl rfl G, ?_⟩
    refine .inl ⟨.agg (arr8 (hb 8)), by kernel_rfl, hI, TyP.of_is rfl⟩
  case ob33 => as_aux_lemma =>
    intro p vals W1 F hF hlo hhi hI hd
    have hp : p = 0 := Nat.le_antisymm hhi hlo
    subst hp
    clear hlo hhi
    have d27 : vals 27 = .bool true := hd ⟨27, .guard⟩ (Array.mem_of_getElem? (i := 4) rfl) rfl (show (0 : Nat) ≤ 1000 by decide)
    obtain ⟨X30, c30, hspec30⟩ := hd ⟨30, .data⟩ (Array.mem_of_getElem? (i := 0) rfl) rfl (show (0 : Nat) ≤ 1000 by decide)
    have d30 : vals 30 = .slice X30 33 c30 := hspec30
    have d31 : vals 31 = .slice (some ⟨gs, 0, none⟩) 64 64 := hd ⟨31, .data⟩ (Array.mem_of_getElem? (i := 1) rfl) rfl (show (0 : Nat) ≤ 1000 by decide)
    have d32 : vals 32 = .agg (arr8 (hb 8)) := hd ⟨32, .data⟩ (Array.mem_of_getElem? (i := 2) rfl) rfl (show (0 : Nat) ≤ 1000 by decide)
    have E44 := eval_some (hF.own_ 30 rfl rfl (by kernel_rfl) (by decide)); rw [d30] at E44
    have E45 := eval_some (hF.own_ 31 rfl rfl (by kernel_rfl) (by decide)); rw [d31] at E45
    have E46 := eval_some (hF.own_ 32 rfl rfl (by kernel_rfl) (by decide)); rw [d32] at E46
    have G := hF.own_ 27 rfl rfl (by kernel_rfl) (by decide); rw [d27] at G
    refine .inr ⟨wanted_yes rfl rfl rfl G, ?_⟩
    refine .inr (.inr (.inl ⟨13, #[.slice X30 33 c30, .slice (some ⟨gs, 0, none⟩) 64 64, .agg (arr8 (hb 8))], ?_, (is_short W1 _ _ 33 c30 64 64 (hb 8) (by decide)).mono ?_⟩))
    · have Ec : ∀ v, F.eval (.const v) = v := fun _ => rfl; have Ef : ∀ f, F.eval (.func f) = .func (.func f) #[] #[] := fun _ => rfl; clear hF hd; generalize F.eval = ρ at E44 E45 E46 Ec Ef ⊢
      simp [execOp, go_sem, Ec, Ef, E44, E45, E46]
    rintro e W2 ⟨rfl, hb⟩
    exact ⟨_, rfl, hb, hI.call hb, TyP.of_is rfl⟩
  case ob34 => as_aux_lemma =>
    intro p vals W1 F hF hlo hhi hI hd
    have hp : p = 0 := Nat.le_antisymm hhi hlo
    subst hp
    clear hlo hhi
    have d27 : vals 27 = .bool true := hd ⟨27, .guard⟩ (Array.mem_of_getElem? (i := 1) rfl) rfl (show (0 : Nat) ≤ 1000 by decide)
    have d33 : vals 33 = .bool false := hd ⟨33, .data⟩ (Array.mem_of_getElem? (i := 0) rfl) rfl (show (0 : Nat) ≤ 1000 by decide)
    have E47 := eval_some (hF.own_ 33 rfl rfl (by kernel_rfl) (by decide)); rw [d33] at E47
    have G := hF.own_ 27 rfl rfl (by kernel_rfl) (by decide); rw [d27] at G
    refine .inr ⟨wanted_yes rfl rfl rfl G, .inl ⟨.bool true, ?_, hI, TyP.of_is rfl⟩⟩
    have Ec : ∀ v, F.eval (.const v) = v := fun _ => rfl; have Ef : ∀ f, F.eval (.func f) = .func (.func f) #[] #[] := fun _ => rfl; clear hF hd; generalize F.eval = ρ at E47 Ec Ef ⊢
    simp [execOp, go_sem, Ec, E47]
  case ob35 => as_aux_lemma =>
    intro p vals W1 F hF hlo hhi hI hd
    have hp : p = 0 := Nat.le_antisymm hhi hlo
    subst hp
    clear hlo hhi
    have d27 : vals 27 = .bool true := hd ⟨27, .data⟩ (Array.mem_of_getElem? (i := 0) rfl) rfl (show (0 : Nat) ≤ 1000 by decide)
    have d34 : vals 34 = .bool true := hd ⟨34, .data⟩ (Array.mem_of_getElem? (i := 1) rfl) rfl (show (0 : Nat) ≤ 1000 by decide)
    have E41 := eval_some (hF.own_ 27 rfl rfl (by kernel_rfl) (by decide)); rw [d27] at E41
    have E48 := eval_some (hF.own_ 34 rfl rfl (by kernel_rfl) (by decide)); rw [d34] at E48
    refine .inr ⟨wanted_none rfl, .inl ⟨.bool true, ?_, hI, TyP.of_is rfl⟩⟩
    have Ec : ∀ v, F.eval (.const v) = v := fun _ => rfl; have Ef : ∀ f, F.eval (.func f) = .func (.func f) #[] #[] := fun _ => rfl; clear hF hd; generalize F.eval = ρ at E41 E48 Ec Ef ⊢
    simp [execOp, go_sem, Ec, E41, E48]
  case ob36 => as_aux_lemma =>
    intro p vals W1 F hF hlo hhi hI hd
    have hp : p = 0 := Nat.le_antisymm hhi hlo
    subst hp
    clear hlo hhi
    have d35 : vals 35 = .bool true := hd ⟨35, .data⟩ (Array.mem_of_getElem? (i := 0) rfl) rfl (show (0 : Nat) ≤ 1000 by decide)
    have E49 := eval_some (hF.own_ 35 rfl rfl (by kernel_rfl) (by decide)); rw [d35] at E49
    refine .inr ⟨wanted_none rfl, .inl ⟨.bool true, ?_, hI, TyP.of_is rfl⟩⟩
    simp only [execOp, E49, Sem.run_pure]
  case obend =>
    intro vals W1 F hF hdef hI hT
    have hv : vals 36 = .bool true := hT 36 (by decide) (show (0 : Nat) ≤ 1000 by decide)
    rename_i K hK9
    refine hK9 _ _ ?_
    rw [hF.act]
    simp only [fin, Act.put, List.setIfInBounds_toArray, List.set_cons_succ, List.set_cons_zero]
    rw [hv]
    clear hF hT hv hI0
    obtain ⟨W5, hW5⟩ : ∃ W5, W1 = W5 := ⟨_, rfl⟩
    rw [hW5] at hI ⊢
    clear hW5
    go_wp2_with (first
      | (refine wpList_build rfl 23 #[(0, .const (.int .u8 9))] rfl (v := .agg (arr8 (hb 9))) (by kernel_rfl) ?_)
      | (refine wpList_alloc rfl 23 rfl (z := arr8 zero32) (by kernel_rfl) ?_; try simp only [World.size_alloc])
      | (refine wpList_fill hI rfl 23 (.tmp 4) (.tmp 50) rfl rfl rfl (infoH _ H9.out) (size_same rfl H9.out) (one8x _) ?_; clear hI; intro W6 hI6; simp only [List.cons_append, List.nil_append] at hI6; have HB6 := Lib.hid ((Below.refl W6.heap.size W6).alloc (Nat.le_refl _) (.cells #[] 5)); have HN6 := Lib.hid (holdsK (k := 2) hI6 rfl))
      | (at_builtin; refine wpList_append_bytes rfl (.tmp 51) (.tmp 52) rfl W6.heap.size W6.heap.size (.slice (some ⟨W6.heap.size, 0, none⟩) 0 0) [] (hb 9) rfl (own_emptyK W6 _ (Nat.le_refl _)) (some ⟨W5.heap.size, 0, none⟩) 32 rfl (HN6.out.below HB6.out (Nat.le_refl _)) (by decide) (by rw [World.size_alloc]; omega) ?_; intro v1 w1 hown1 hgr1 hv1; have hb1 := HB6.out.grown hgr1 (by rw [World.size_alloc]; omega) (fun k hk => (by have h2 : some W6.heap.size = some k := hk; injection h2 with h2; omega)))
      | (at_builtin; refine wpList_append_bytes rfl (.tmp 53) (.tmp 54) rfl W6.heap.size (w1.alloc (.cells (arr8 (hb 8)) 5)).heap.size _ (hb 9) (hb 8) rfl (ownsRow_below hown1 ((Below.refl _ _).alloc (Nat.le_refl _) _)) (some ⟨w1.heap.size, 0, none⟩) 32 rfl (holds_lit8 w1) (by decide) (by have := hb1.size; rw [World.size_alloc]; omega) ?_; intro v2 w2 hown2 hgr2 hv2; have hb2 := (hb1.alloc hb1.size (.cells (arr8 (hb 8)) 5)).grown hgr2 (by have := hb1.size; rw [World.size_alloc]; omega) (own_row_ge hown1); obtain ⟨X2, c2, e2, hX2, hXc, _⟩ := own_open hown2; have hlen : (hb 9 ++ hb 8).length = 64 := rfl; rw [hlen] at e2 hXc; subst e2; have hI7 := hI6.call hb2; have CO2 := Lib.hid (CO.out w2 X2 c2 hX2 hXc); clear hown1 hgr1 hv1 hb1 hown2 hgr2 hv2 hb2 hX2 hXc hlen hI6)
      | (go_at_call 15; (with_reducible refine CO2.out.mono ?_); rintro e W8 ⟨rfl, hb8⟩; replace hI7 := hI7.call hb8; clear hb8 CO2)
      | (refine wpList_fill hI7 rfl 23 (.tmp 5) (.tmp 56) rfl rfl rfl (infoH _ HA.out) (size_same rfl HA.out) (one8x _) ?_; clear hI7; intro W9 hI9; simp only [List.cons_append, List.nil_append] at hI9))
    generalize W8.heap.size = B5 at *
    generalize W5.heap.size = B4 at *
    clear HB6 HN6
    go_frame
    refine wp_region_phased 85 rfl (fun _ _ W W' => Below W.heap.size W W') (fun p W1 => Keeps w [(B1, arr8 KK, 23), (gs, arr8 (hb 9 ++ A), 5), (B4, arr8 (hb 9), 23), (B5, arr8 A, 23)] W1) [.is (.bool true), .is (.bool true), .is (.bool true), .is (.bool true), .is (.bool true), .is (.bool true), .is (.bool true), .is (.slice (some ⟨gs, 0, none⟩) 64 64), .is (.slice (some ⟨gs, 0, none⟩) 32 64), .is (.string S9), .is (.slice (some ⟨B4, 0, none⟩) 32 32), .is (.string S9), .is (.bool true), .is (.bool true), .is (.bool true), .is (.slice (some ⟨gs, 0, none⟩) 64 64), .is (.slice (some ⟨gs, 0 + 32, none⟩) 32 32), .is (.string SA), .is (.slice (some ⟨B5, 0, none⟩) 32 32), .is (.string SA), .is (.bool true), .is (.bool true), .is (.bool true), .is (.agg (arr8 KK)), .is (.slice (some ⟨B4, 0, none⟩) 32 32), .is (.agg (arr8 KK)), .is (.bool true), .is (.bool true), .is (.bool true)] [] [0, 0, 0, 0, 0, 0, 0, 0, 0, 0, 0, 0, 0, 0, 0, 0, 0, 0, 0, 0, 0, 0, 0, 0, 0, 0, 0, 0, 0] [0, 0, 0, 0, 0, 0, 0, 0, 0, 0, 0, 0, 0, 0, 0, 0, 0, 0, 0, 0, 0, 0, 0, 0, 0, 0, 0, 0, 0] (by kernel_rfl) (by kernel_rfl) (by kernel_rfl) (fun _ _ W => Below.refl _ W) (hI9.drew) ⟨?oc0, ?oc1, ?oc2, ?oc3, ?oc4, ?oc5, ?oc6, ?oc7, ?oc8, ?oc9, ?oc10, ?oc11, ?oc12, ?oc13, ?oc14, ?oc15, ?oc16, ?oc17, ?oc18, ?oc19, ?oc20, ?oc21, ?oc22, ?oc23, ?oc24, ?oc25, ?oc26, ?oc27, ?oc28, trivial⟩ ?ocend
    case oc0 => as_aux_lemma =>
      intro p vals2 W1 F hF hlo hhi hI hd
      have hp : p = 0 := Nat.le_antisymm hhi hlo
      subst hp
      clear hlo hhi
      refine .inr ⟨wanted_none rfl, .inl ⟨.bool true, ?_, hI, TyP.of_is rfl⟩⟩
      rfl
    case oc1 => as_aux_lemma =>
      intro p vals2 W1 F hF hlo hhi hI hd
      have hp : p = 0 := Nat.le_antisymm hhi hlo
      subst hp
      clear hlo hhi
      have d0 : vals2 0 = .bool true := hd ⟨0, .chain⟩ (Array.mem_of_getElem? (i := 0) rfl) rfl (show (0 : Nat) ≤ 1000 by decide)
      have G := hF.own_ 0 rfl rfl (by kernel_rfl) (by decide); rw [d0] at G
      refine .inr ⟨wanted_yes rfl rfl rfl G, ?_⟩
      refine .inr (.inr (.inl ⟨16, #[], ?_, (CA.out W1).mono ?_⟩))
      · have Ec : ∀ v, F.eval (.const v) = v := fun _ => rfl; have Ef : ∀ f, F.eval (.func f) = .func (.func f) #[] #[] := fun _ => rfl; clear hF hd; generalize F.eval = ρ at  Ec Ef ⊢
        simp [execOp, go_sem, Ec, Ef, ]
      rintro e W2 ⟨rfl, hb⟩
      exact ⟨_, rfl, hb, hI.call hb, TyP.of_is rfl⟩
    case oc2 => as_aux_lemma =>
      intro p vals2 W1 F hF hlo hhi hI hd
      have hp : p = 0 := Nat.le_antisymm hhi hlo
      subst hp
      clear hlo hhi
      have d0 : vals2 0 = .bool true := hd ⟨0, .data⟩ (Array.mem_of_getElem? (i := 0) rfl) rfl (show (0 : Nat) ≤ 1000 by decide)
      have d1 : vals2 1 = .bool true := hd ⟨1, .data⟩ (Array.mem_of_getElem? (i := 1) rfl) rfl (show (0 : Nat) ≤ 1000 by decide)
      have E57 := eval_some (hF.own_ 0 rfl rfl (by kernel_rfl) (by decide)); rw [d0] at E57
      have E58 := eval_some (hF.own_ 1 rfl rfl (by kernel_rfl) (by decide)); rw [d1] at E58
      refine .inr ⟨wanted_none rfl, .inl ⟨.bool true, ?_, hI, TyP.of_is rfl⟩⟩
      have Ec : ∀ v, F.eval (.const v) = v := fun _ => rfl; have Ef : ∀ f, F.eval (.func f) = .func (.func f) #[] #[] := fun _ => rfl; clear hF hd; generalize F.eval = ρ at E57 E58 Ec Ef ⊢
      simp [execOp, go_sem, Ec, E57, E58]
    case oc3 => as_aux_lemma =>
      intro p vals2 W1 F hF hlo hhi hI hd
      have hp : p = 0 := Nat.le_antisymm hhi hlo
      subst hp
      clear hlo hhi
      have d2 : vals2 2 = .bool true := hd ⟨2, .data⟩ (Array.mem_of_getElem? (i := 0) rfl) rfl (show (0 : Nat) ≤ 1000 by decide)
      have E59 := eval_some (hF.own_ 2 rfl rfl (by kernel_rfl) (by decide)); rw [d2] at E59
      refine .inr ⟨wanted_none rfl, .inl ⟨.bool true, ?_, hI, TyP.of_is rfl⟩⟩
      simp only [execOp, E59, Sem.run_pure]
    case oc4 => as_aux_lemma =>
      intro p vals2 W1 F hF hlo hhi hI hd
      have hp : p = 0 := Nat.le_antisymm hhi hlo
      subst hp
      clear hlo hhi
      have d3 : vals2 3 = .bool true := hd ⟨3, .guard⟩ (Array.mem_of_getElem? (i := 0) rfl) rfl (show (0 : Nat) ≤ 1000 by decide)
      have E3 : F.eval (.tmp 3) = .bool true := hF.out_ (by kernel_rfl) rfl
      have G := hF.own_ 3 rfl rfl (by kernel_rfl) (by decide); rw [d3] at G
      refine .inr ⟨wanted_yes rfl rfl rfl G, .inl ⟨.bool true, ?_, hI, TyP.of_is rfl⟩⟩
      simp only [execOp, E3, Sem.run_pure]
    case oc5 => as_aux_lemma =>
      intro p vals2 W1 F hF hlo hhi hI hd
      have hp : p = 0 := Nat.le_antisymm hhi hlo
      subst hp
      clear hlo hhi
      have d3 : vals2 3 = .bool true := hd ⟨3, .data⟩ (Array.mem_of_getElem? (i := 0) rfl) rfl (show (0 : Nat) ≤ 1000 by decide)
      have d4 : vals2 4 = .bool true := hd ⟨4, .data⟩ (Array.mem_of_getElem? (i := 1) rfl) rfl (show (0 : Nat) ≤ 1000 by decide)
      have E60 := eval_some (hF.own_ 3 rfl rfl (by kernel_rfl) (by decide)); rw [d3] at E60
      have E61 := eval_some (hF.own_ 4 rfl rfl (by kernel_rfl) (by decide)); rw [d4] at E61
      refine .inr ⟨wanted_none rfl, .inl ⟨.bool true, ?_, hI, TyP.of_is rfl⟩⟩
      have Ec : ∀ v, F.eval (.const v) = v := fun _ => rfl; have Ef : ∀ f, F.eval (.func f) = .func (.func f) #[] #[] := fun _ => rfl; clear hF hd; generalize F.eval = ρ at E60 E61 Ec Ef ⊢
      simp [execOp, go_sem, Ec, E60, E61]
    case oc6 => as_aux_lemma =>
      intro p vals2 W1 F hF hlo hhi hI hd
      have hp : p = 0 := Nat.le_antisymm hhi hlo
      subst hp
      clear hlo hhi
      have d5 : vals2 5 = .bool true := hd ⟨5, .data⟩ (Array.mem_of_getElem? (i := 0) rfl) rfl (show (0 : Nat) ≤ 1000 by decide)
      have E62 := eval_some (hF.own_ 5 rfl rfl (by kernel_rfl) (by decide)); rw [d5] at E62
      refine .inr ⟨wanted_none rfl, .inl ⟨.bool true, ?_, hI, TyP.of_is rfl⟩⟩
      simp only [execOp, E62, Sem.run_pure]
    case oc7 => as_aux_lemma =>
      intro p vals2 W1 F hF hlo hhi hI hd
      have hp : p = 0 := Nat.le_antisymm hhi hlo
      subst hp
      clear hlo hhi
      have d6 : vals2 6 = .bool true := hd ⟨6, .guard⟩ (Array.mem_of_getElem? (i := 0) rfl) rfl (show (0 : Nat) ≤ 1000 by decide)
      have E2 : F.eval (.tmp 2) = .slice (some ⟨gs, 0, none⟩) 64 64 := hF.out_ (by kernel_rfl) rfl
      have G := hF.own_ 6 rfl rfl (by kernel_rfl) (by decide); rw [d6] at G
      refine .inr ⟨wanted_yes rfl rfl rfl G, .inl ⟨.slice (some ⟨gs, 0, none⟩) 64 64, ?_, hI, TyP.of_is rfl⟩⟩
      simp only [execOp, E2, Sem.run_pure]
    case oc8 => as_aux_lemma =>
      intro p vals2 W1 F hF hlo hhi hI hd
      have hp : p = 0 := Nat.le_antisymm hhi hlo
      subst hp
      clear hlo hhi
      have d6 : vals2 6 = .bool true := hd ⟨6, .guard⟩ (Array.mem_of_getElem? (i := 1) rfl) rfl (show (0 : Nat) ≤ 1000 by decide)
      have d7 : vals2 7 = .slice (some ⟨gs, 0, none⟩) 64 64 := hd ⟨7, .data⟩ (Array.mem_of_getElem? (i := 0) rfl) rfl (show (0 : Nat) ≤ 1000 by decide)
      have E64 := eval_some (hF.own_ 7 rfl rfl (by kernel_rfl) (by decide)); rw [d7] at E64
      have G := hF.own_ 6 rfl rfl (by kernel_rfl) (by decide); rw [d6] at G
      refine .inr ⟨wanted_yes rfl rfl rfl G, .inl ⟨.slice (some ⟨gs, 0, none⟩) 32 64, ?_, hI, TyP.of_is rfl⟩⟩
      have Ec : ∀ v, F.eval (.const v) = v := fun _ => rfl; have Ef : ∀ f, F.eval (.func f) = .func (.func f) #[] #[] := fun _ => rfl; clear hF hd; generalize F.eval = ρ at E64 Ec Ef ⊢
      simp [execOp, go_sem, Ec, E64]
    case oc9 => as_aux_lemma =>
      intro p vals2 W1 F hF hlo hhi hI hd
      have hp : p = 0 := Nat.le_antisymm hhi hlo
      subst hp
      clear hlo hhi
      have d6 : vals2 6 = .bool true := hd ⟨6, .guard⟩ (Array.mem_of_getElem? (i := 1) rfl) rfl (show (0 : Nat) ≤ 1000 by decide)
      have d8 : vals2 8 = .slice (some ⟨gs, 0, none⟩) 32 64 := hd ⟨8, .data⟩ (Array.mem_of_getElem? (i := 0) rfl) rfl (show (0 : Nat) ≤ 1000 by decide)
      have E65 := eval_some (hF.own_ 8 rfl rfl (by kernel_rfl) (by decide)); rw [d8] at E65
      have G := hF.own_ 6 rfl rfl (by kernel_rfl) (by decide); rw [d6] at G
      refine .inr ⟨wanted_yes rfl rfl rfl G, ?_⟩
      have hst := str_of (sig_head rfl (holdsK (k := 1) hI rfl)) 64
      refine .inl ⟨.string S9, ?_, hI, TyP.of_is rfl⟩
      have Ec : ∀ v, F.eval (.const v) = v := fun _ => rfl; have Ef : ∀ f, F.eval (.func f) = .func (.func f) #[] #[] := fun _ => rfl; clear hF hd; generalize F.eval = ρ at E65 Ec Ef ⊢
      simp only [execOp, E65]
      rw [H9.out] at hst
      rw [Sem.run_bind, hst, ← HS9.out]
      rfl
    case oc10 => as_aux_lemma =>
      intro p vals2 W1 F hF hlo hhi hI hd
      have hp : p = 0 := Nat.le_antisymm hhi hlo
      subst hp
      clear hlo hhi
      have d6 : vals2 6 = .bool true := hd ⟨6, .guard⟩ (Array.mem_of_getElem? (i := 0) rfl) rfl (show (0 : Nat) ≤ 1000 by decide)
      have E4 : F.eval (.tmp 4) = .pointer (some ⟨B4, 0, none⟩) := hF.out_ (by kernel_rfl) rfl
      have G := hF.own_ 6 rfl rfl (by kernel_rfl) (by decide); rw [d6] at G
      refine .inr ⟨wanted_yes rfl rfl rfl G, .inl ⟨.slice (some ⟨B4, 0, none⟩) 32 32, ?_, hI, TyP.of_is rfl⟩⟩
      have Ec : ∀ v, F.eval (.const v) = v := fun _ => rfl; have Ef : ∀ f, F.eval (.func f) = .func (.func f) #[] #[] := fun _ => rfl; clear hF hd; generalize F.eval = ρ at E4 Ec Ef ⊢
      simp [execOp, go_sem, Ec, E4]
    case oc11 => as_aux_lemma =>
      intro p vals2 W1 F hF hlo hhi hI hd
      have hp : p = 0 := Nat.le_antisymm hhi hlo
      subst hp
      clear hlo hhi
      have d6 : vals2 6 = .bool true := hd ⟨6, .guard⟩ (Array.mem_of_getElem? (i := 1) rfl) rfl (show (0 : Nat) ≤ 1000 by decide)
      have d10 : vals2 10 = .slice (some ⟨B4, 0, none⟩) 32 32 := hd ⟨10, .data⟩ (Array.mem_of_getElem? (i := 0) rfl) rfl (show (0 : Nat) ≤ 1000 by decide)
      have E67 := eval_some (hF.own_ 10 rfl rfl (by kernel_rfl) (by decide)); rw [d10] at E67
      have G := hF.own_ 6 rfl rfl (by kernel_rfl) (by decide); rw [d6] at G
      refine .inr ⟨wanted_yes rfl rfl rfl G, ?_⟩
      have hst := str_of (holdsK (k := 2) hI rfl) 32
      refine .inl ⟨.string S9, ?_, hI, TyP.of_is rfl⟩
      have Ec : ∀ v, F.eval (.const v) = v := fun _ => rfl; have Ef : ∀ f, F.eval (.func f) = .func (.func f) #[] #[] := fun _ => rfl; clear hF hd; generalize F.eval = ρ at E67 Ec Ef ⊢
      simp only [execOp, E67]
      rw [H9.out] at hst
      rw [Sem.run_bind, hst, ← HS9.out]
      rfl
    case oc12 => as_aux_lemma =>
      intro p vals2 W1 F hF hlo hhi hI hd
      have hp : p = 0 := Nat.le_antisymm hhi hlo
      subst hp
      clear hlo hhi
      have d6 : vals2 6 = .bool true := hd ⟨6, .guard⟩ (Array.mem_of_getElem? (i := 2) rfl) rfl (show (0 : Nat) ≤ 1000 by decide)
      have d9 : vals2 9 = .string S9 := hd ⟨9, .data⟩ (Array.mem_of_getElem? (i := 0) rfl) rfl (show (0 : Nat) ≤ 1000 by decide)
      have d11 : vals2 11 = .string S9 := hd ⟨11, .data⟩ (Array.mem_of_getElem? (i := 1) rfl) rfl (show (0 : Nat) ≤ 1000 by decide)
      have E66 := eval_some (hF.own_ 9 rfl rfl (by kernel_rfl) (by decide)); rw [d9] at E66
      have E68 := eval_some (hF.own_ 11 rfl rfl (by kernel_rfl) (by decide)); rw [d11] at E68
      have G := hF.own_ 6 rfl rfl (by kernel_rfl) (by decide); rw [d6] at G
      refine .inr ⟨wanted_yes rfl rfl rfl G, .inl ⟨.bool true, ?_, hI, TyP.of_is rfl⟩⟩
      have Ec : ∀ v, F.eval (.const v) = v := fun _ => rfl; have Ef : ∀ f, F.eval (.func f) = .func (.func f) #[] #[] := fun _ => rfl; clear hF hd; generalize F.eval = ρ at E66 E68 Ec Ef ⊢
      simp [execOp, go_sem, Ec, E66, E68]
    case oc13 => as_aux_lemma =>
      intro p vals2 W1 F hF hlo hhi hI hd
      have hp : p = 0 := Nat.le_antisymm hhi hlo
      subst hp
      clear hlo hhi
      have d6 : vals2 6 = .bool true := hd ⟨6, .data⟩ (Array.mem_of_getElem? (i := 0) rfl) rfl (show (0 : Nat) ≤ 1000 by decide)
      have d12 : vals2 12 = .bool true := hd ⟨12, .data⟩ (Array.mem_of_getElem? (i := 1) rfl) rfl (show (0 : Nat) ≤ 1000 by decide)
      have E63 := eval_some (hF.own_ 6 rfl rfl (by kernel_rfl) (by decide)); rw [d6] at E63
      have E69 := eval_some (hF.own_ 12 rfl rfl (by kernel_rfl) (by decide)); rw [d12] at E69
      refine .inr ⟨wanted_none rfl, .inl ⟨.bool true, ?_, hI, TyP.of_is rfl⟩⟩
      have Ec : ∀ v, F.eval (.const v) = v := fun _ => rfl; have Ef : ∀ f, F.eval (.func f) = .func (.func f) #[] #[] := fun _ => rfl; clear hF hd; generalize F.eval = ρ at E63 E69 Ec Ef ⊢
      simp [execOp, go_sem, Ec, E63, E69]
    case oc14 => as_aux_lemma =>
      intro p vals2 W1 F hF hlo hhi hI hd
      have hp : p = 0 := Nat.le_antisymm hhi hlo
      subst hp
      clear hlo hhi
      have d13 : vals2 13 = .bool true := hd ⟨13, .data⟩ (Array.mem_of_getElem? (i := 0) rfl) rfl (show (0 : Nat) ≤ 1000 by decide)
      have E70 := eval_some (hF.own_ 13 rfl rfl (by kernel_rfl) (by decide)); rw [d13] at E70
      refine .inr ⟨wanted_none rfl, .inl ⟨.bool true, ?_, hI, TyP.of_is rfl⟩⟩
      simp only [execOp, E70, Sem.run_pure]
    case oc15 => as_aux_lemma =>
      intro p vals2 W1 F hF hlo hhi hI hd
      have hp : p = 0 := Nat.le_antisymm hhi hlo
      subst hp
      clear hlo hhi
      have d14 : vals2 14 = .bool true := hd ⟨14, .guard⟩ (Array.mem_of_getElem? (i := 0) rfl) rfl (show (0 : Nat) ≤ 1000 by decide)
      have E2 : F.eval (.tmp 2) = .slice (some ⟨gs, 0, none⟩) 64 64 := hF.out_ (by kernel_rfl) rfl
      have G := hF.own_ 14 rfl rfl (by kernel_rfl) (by decide); rw [d14] at G
      refine .inr ⟨wanted_yes rfl rfl rfl G, .inl ⟨.slice (some ⟨gs, 0, none⟩) 64 64, ?_, hI, TyP.of_is rfl⟩⟩
      simp only [execOp, E2, Sem.run_pure]
    case oc16 => as_aux_lemma =>
      intro p vals2 W1 F hF hlo hhi hI hd
      have hp : p = 0 := Nat.le_antisymm hhi hlo
      subst hp
      clear hlo hhi
      have d14 : vals2 14 = .bool true := hd ⟨14, .guard⟩ (Array.mem_of_getElem? (i := 1) rfl) rfl (show (0 : Nat) ≤ 1000 by decide)
      have d15 : vals2 15 = .slice (some ⟨gs, 0, none⟩) 64 64 := hd ⟨15, .data⟩ (Array.mem_of_getElem? (i := 0) rfl) rfl (show (0 : Nat) ≤ 1000 by decide)
      have E72 := eval_some (hF.own_ 15 rfl rfl (by kernel_rfl) (by decide)); rw [d15] at E72
      have G := hF.own_ 14 rfl rfl (by kernel_rfl) (by decide); rw [d14] at G
      refine .inr ⟨wanted_yes rfl rfl rfl G, .inl ⟨.slice (some ⟨gs, 0 + 32, none⟩) 32 32, ?_, hI, TyP.of_is rfl⟩⟩
      have Ec : ∀ v, F.eval (.const v) = v := fun _ => rfl; have Ef : ∀ f, F.eval (.func f) = .func (.func f) #[] #[] := fun _ => rfl; clear hF hd; generalize F.eval = ρ at E72 Ec Ef ⊢
      simp [execOp, go_sem, Ec, E72]
    case oc17 => as_aux_lemma =>
      intro p vals2 W1 F hF hlo hhi hI hd
      have hp : p = 0 := Nat.le_antisymm hhi hlo
      subst hp
      clear hlo hhi
      have d14 : vals2 14 = .bool true := hd ⟨14, .guard⟩ (Array.mem_of_getElem? (i := 1) rfl) rfl (show (0 : Nat) ≤ 1000 by decide)
      have d16 : vals2 16 = .slice (some ⟨gs, 0 + 32, none⟩) 32 32 := hd ⟨16, .data⟩ (Array.mem_of_getElem? (i := 0) rfl) rfl (show (0 : Nat) ≤ 1000 by decide)
      have E73 := eval_some (hF.own_ 16 rfl rfl (by kernel_rfl) (by decide)); rw [d16] at E73
      have G := hF.own_ 14 rfl rfl (by kernel_rfl) (by decide); rw [d14] at G
      refine .inr ⟨wanted_yes rfl rfl rfl G, ?_⟩
      have hst := str_of (sig_tail rfl HA.out (holdsK (k := 1) hI rfl)) 32
      refine .inl ⟨.string SA, ?_, hI, TyP.of_is rfl⟩
      have Ec : ∀ v, F.eval (.const v) = v := fun _ => rfl; have Ef : ∀ f, F.eval (.func f) = .func (.func f) #[] #[] := fun _ => rfl; clear hF hd; generalize F.eval = ρ at E73 Ec Ef ⊢
      simp only [execOp, E73]
      rw [HA.out] at hst
      rw [Sem.run_bind, hst, ← HSA.out]
      rfl
    case oc18 => as_aux_lemma =>
      intro p vals2 W1 F hF hlo hhi hI hd
      have hp : p = 0 := Nat.le_antisymm hhi hlo
      subst hp
      clear hlo hhi
      have d14 : vals2 14 = .bool true := hd ⟨14, .guard⟩ (Array.mem_of_getElem? (i := 0) rfl) rfl (show (0 : Nat) ≤ 1000 by decide)
      have E5 : F.eval (.tmp 5) = .pointer (some ⟨B5, 0, none⟩) := hF.out_ (by kernel_rfl) rfl
      have G := hF.own_ 14 rfl rfl (by kernel_rfl) (by decide); rw [d14] at G
      refine .inr ⟨wanted_yes rfl rfl rfl G, .inl ⟨.slice (some ⟨B5, 0, none⟩) 32 32, ?_, hI, TyP.of_is rfl⟩⟩
      have Ec : ∀ v, F.eval (.const v) = v := fun _ => rfl; have Ef : ∀ f, F.eval (.func f) = .func (.func f) #[] #[] := fun _ => rfl; clear hF hd; generalize F.eval = ρ at E5 Ec Ef ⊢
      simp [execOp, go_sem, Ec, E5]
    case oc19 => as_aux_lemma =>
      intro p vals2 W1 F hF hlo hhi hI hd
      have hp : p = 0 := Nat.le_antisymm hhi hlo
      subst hp
      clear hlo hhi
      have d14 : vals2 14 = .bool true := hd ⟨14, .guard⟩ (Array.mem_of_getElem? (i := 1) rfl) rfl (show (0 : Nat) ≤ 1000 by decide)
      have d18 : vals2 18 = .slice (some ⟨B5, 0, none⟩) 32 32 := hd ⟨18, .data⟩ (Array.mem_of_getElem? (i := 0) rfl) rfl (show (0 : Nat) ≤ 1000 by decide)
      have E75 := eval_some (hF.own_ 18 rfl rfl (by kernel_rfl) (by decide)); rw [d18] at E75
      have G := hF.own_ 14 rfl rfl (by kernel_rfl) (by decide); rw [d14] at G
      refine .inr ⟨wanted_yes rfl rfl rfl G, ?_⟩
      have hst := str_of (holdsK (k := 3) hI rfl) 32
      refine .inl ⟨.string SA, ?_, hI, TyP.of_is rfl⟩
      have Ec : ∀ v, F.eval (.const v) = v := fun _ => rfl; have Ef : ∀ f, F.eval (.func f) = .func (.func f) #[] #[] := fun _ => rfl; clear hF hd; generalize F.eval = ρ at E75 Ec Ef ⊢
      simp only [execOp, E75]
      rw [HA.out] at hst
      rw [Sem.run_bind, hst, ← HSA.out]
      rfl
    case oc20 => as_aux_lemma =>
      intro p vals2 W1 F hF hlo hhi hI hd
      have hp : p = 0 := Nat.le_antisymm hhi hlo
      subst hp
      clear hlo hhi
      have d14 : vals2 14 = .bool true := hd ⟨14, .guard⟩ (Array.mem_of_getElem? (i := 2) rfl) rfl (show (0 : Nat) ≤ 1000 by decide)
      have d17 : vals2 17 = .string SA := hd ⟨17, .data⟩ (Array.mem_of_getElem? (i := 0) rfl) rfl (show (0 : Nat) ≤ 1000 by decide)
      have d19 : vals2 19 = .string SA := hd ⟨19, .data⟩ (Array.mem_of_getElem? (i := 1) rfl) rfl (show (0 : Nat) ≤ 1000 by decide)
      have E74 := eval_some (hF.own_ 17 rfl rfl (by kernel_rfl) (by decide)); rw [d17] at E74
      have E76 := eval_some (hF.own_ 19 rfl rfl (by kernel_rfl) (by decide)); rw [d19] at E76
      have G := hF.own_ 14 rfl rfl (by kernel_rfl) (by decide); rw [d14] at G
      refine .inr ⟨wanted_yes rfl rfl rfl G, .inl ⟨.bool true, ?_, hI, TyP.of_is rfl⟩⟩
      have Ec : ∀ v, F.eval (.const v) = v := fun _ => rfl; have Ef : ∀ f, F.eval (.func f) = .func (.func f) #[] #[] := fun _ => rfl; clear hF hd; generalize F.eval = ρ at E74 E76 Ec Ef ⊢
      simp [execOp, go_sem, Ec, E74, E76]
    case oc21 => as_aux_lemma =>
      intro p vals2 W1 F hF hlo hhi hI hd
      have hp : p = 0 := Nat.le_antisymm hhi hlo
      subst hp
      clear hlo hhi
      have d14 : vals2 14 = .bool true := hd ⟨14, .data⟩ (Array.mem_of_getElem? (i := 0) rfl) rfl (show (0 : Nat) ≤ 1000 by decide)
      have d20 : vals2 20 = .bool true := hd ⟨20, .data⟩ (Array.mem_of_getElem? (i := 1) rfl) rfl (show (0 : Nat) ≤ 1000 by decide)
      have E71 := eval_some (hF.own_ 14 rfl rfl (by kernel_rfl) (by decide)); rw [d14] at E71
      have E77 := eval_some (hF.own_ 20 rfl rfl (by kernel_rfl) (by decide)); rw [d20] at E77
      refine .inr ⟨wanted_none rfl, .inl ⟨.bool true, ?_, hI, TyP.of_is rfl⟩⟩
      have Ec : ∀ v, F.eval (.const v) = v := fun _ => rfl; have Ef : ∀ f, F.eval (.func f) = .func (.func f) #[] #[] := fun _ => rfl; clear hF hd; generalize F.eval = ρ at E71 E77 Ec Ef ⊢
      simp [execOp, go_sem, Ec, E71, E77]
    case oc22 => as_aux_lemma =>
      intro p vals2 W1 F hF hlo hhi hI hd
      have hp : p = 0 := Nat.le_antisymm hhi hlo
      subst hp
      clear hlo hhi
      have d21 : vals2 21 = .bool true := hd ⟨21, .data⟩ (Array.mem_of_getElem? (i := 0) rfl) rfl (show (0 : Nat) ≤ 1000 by decide)
      have E78 := eval_some (hF.own_ 21 rfl rfl (by kernel_rfl) (by decide)); rw [d21] at E78
      refine .inr ⟨wanted_none rfl, .inl ⟨.bool true, ?_, hI, TyP.of_is rfl⟩⟩
      simp only [execOp, E78, Sem.run_pure]
    case oc23 => as_aux_lemma =>
      intro p vals2 W1 F hF hlo hhi hI hd
      have hp : p = 0 := Nat.le_antisymm hhi hlo
      subst hp
      clear hlo hhi
      have d22 : vals2 22 = .bool true := hd ⟨22, .guard⟩ (Array.mem_of_getElem? (i := 0) rfl) rfl (show (0 : Nat) ≤ 1000 by decide)
      have E1 : F.eval (.tmp 1) = .pointer (some ⟨B1, 0, none⟩) := hF.out_ (by kernel_rfl) rfl
      have G := hF.own_ 22 rfl rfl (by kernel_rfl) (by decide); rw [d22] at G
      refine .inr ⟨wanted_yes rfl rfl rfl G, ?_⟩
      have hl := run_loadVar_row (P := Try.prog) W1 B1 23 23 (arr8 KK) (0, 0) _ (hI.get 0 rfl) Try.underlying23 rfl (infoH _ HK.out)
      refine .inl ⟨.agg (arr8 KK), ?_, hI, TyP.of_is rfl⟩
      have Ec : ∀ v, F.eval (.const v) = v := fun _ => rfl; have Ef : ∀ f, F.eval (.func f) = .func (.func f) #[] #[] := fun _ => rfl; clear hF hd; generalize F.eval = ρ at E1 Ec Ef ⊢
      simp only [execOp, E1, Instr.loadAt, Instr.sureAddr, Sem.run_bind, Sem.run_pure, Result.andThen_ok, hl]
    case oc24 => as_aux_lemma =>
      intro p vals2 W1 F hF hlo hhi hI hd
      have hp : p = 0 := Nat.le_antisymm hhi hlo
      subst hp
      clear hlo hhi
      have d22 : vals2 22 = .bool true := hd ⟨22, .guard⟩ (Array.mem_of_getElem? (i := 0) rfl) rfl (show (0 : Nat) ≤ 1000 by decide)
      have E4 : F.eval (.tmp 4) = .pointer (some ⟨B4, 0, none⟩) := hF.out_ (by kernel_rfl) rfl
      have G := hF.own_ 22 rfl rfl (by kernel_rfl) (by decide); rw [d22] at G
      refine .inr ⟨wanted_yes rfl rfl rfl G, .inl ⟨.slice (some ⟨B4, 0, none⟩) 32 32, ?_, hI, TyP.of_is rfl⟩⟩
      have Ec : ∀ v, F.eval (.const v) = v := fun _ => rfl; have Ef : ∀ f, F.eval (.func f) = .func (.func f) #[] #[] := fun _ => rfl; clear hF hd; generalize F.eval = ρ at E4 Ec Ef ⊢
      simp [execOp, go_sem, Ec, E4]
    case oc25 => as_aux_lemma =>
      intro p vals2 W1 F hF hlo hhi hI hd
      have hp : p = 0 := Nat.le_antisymm hhi hlo
      subst hp
      clear hlo hhi
      have d22 : vals2 22 = .bool true := hd ⟨22, .chain⟩ (Array.mem_of_getElem? (i := 1) rfl) rfl (show (0 : Nat) ≤ 1000 by decide)
      have d24 : vals2 24 = .slice (some ⟨B4, 0, none⟩) 32 32 := hd ⟨24, .data⟩ (Array.mem_of_getElem? (i := 0) rfl) rfl (show (0 : Nat) ≤ 1000 by decide)
      have E81 := eval_some (hF.own_ 24 rfl rfl (by kernel_rfl) (by decide)); rw [d24] at E81
      have G := hF.own_ 22 rfl rfl (by kernel_rfl) (by decide); rw [d22] at G
      refine .inr ⟨wanted_yes rfl rfl rfl G, ?_⟩
      refine .inr (.inr (.inl ⟨15, #[.slice (some ⟨B4, 0, none⟩) 32 32], ?_, (CK.out W1 _ _ (holdsK (k := 2) hI rfl) (by decide)).mono ?_⟩))
      · have Ec : ∀ v, F.eval (.const v) = v := fun _ => rfl; have Ef : ∀ f, F.eval (.func f) = .func (.func f) #[] #[] := fun _ => rfl; clear hF hd; generalize F.eval = ρ at E81 Ec Ef ⊢
        simp [execOp, go_sem, Ec, Ef, E81]
      rintro e W2 ⟨rfl, hb⟩
      exact ⟨_, rfl, hb, hI.call hb, TyP.of_is rfl⟩
    case oc26 => as_aux_lemma =>
      intro p vals2 W1 F hF hlo hhi hI hd
      have hp : p = 0 := Nat.le_antisymm hhi hlo
      subst hp
      clear hlo hhi
      have d22 : vals2 22 = .bool true := hd ⟨22, .guard⟩ (Array.mem_of_getElem? (i := 2) rfl) rfl (show (0 : Nat) ≤ 1000 by decide)
      have d23 : vals2 23 = .agg (arr8 KK) := hd ⟨23, .data⟩ (Array.mem_of_getElem? (i := 0) rfl) rfl (show (0 : Nat) ≤ 1000 by decide)
      have d25 : vals2 25 = .agg (arr8 KK) := hd ⟨25, .data⟩ (Array.mem_of_getElem? (i := 1) rfl) rfl (show (0 : Nat) ≤ 1000 by decide)
      have E80 := eval_some (hF.own_ 23 rfl rfl (by kernel_rfl) (by decide)); rw [d23] at E80
      have E82 := eval_some (hF.own_ 25 rfl rfl (by kernel_rfl) (by decide)); rw [d25] at E82
      have G := hF.own_ 22 rfl rfl (by kernel_rfl) (by decide); rw [d22] at G
      refine .inr ⟨wanted_yes rfl rfl rfl G, .inl ⟨.bool true, ?_, hI, TyP.of_is rfl⟩⟩
      have Ec : ∀ v, F.eval (.const v) = v := fun _ => rfl; have Ef : ∀ f, F.eval (.func f) = .func (.func f) #[] #[] := fun _ => rfl; clear hF hd; generalize F.eval = ρ at E80 E82 Ec Ef ⊢
      simp [execOp, go_sem, Ec, E80, E82, eq_hash KK KK HK.out HK.out]
    case oc27 => as_aux_lemma =>
      intro p vals2 W1 F hF hlo hhi hI hd
      have hp : p = 0 := Nat.le_antisymm hhi hlo
      subst hp
      clear hlo hhi
      have d22 : vals2 22 = .bool true := hd ⟨22, .data⟩ (Array.mem_of_getElem? (i := 0) rfl) rfl (show (0 : Nat) ≤ 1000 by decide)
      have d26 : vals2 26 = .bool true := hd ⟨26, .data⟩ (Array.mem_of_getElem? (i := 1) rfl) rfl (show (0 : Nat) ≤ 1000 by decide)
      have E79 := eval_some (hF.own_ 22 rfl rfl (by kernel_rfl) (by decide)); rw [d22] at E79
      have E83 := eval_some (hF.own_ 26 rfl rfl (by kernel_rfl) (by decide)); rw [d26] at E83
      refine .inr ⟨wanted_none rfl, .inl ⟨.bool true, ?_, hI, TyP.of_is rfl⟩⟩
      have Ec : ∀ v, F.eval (.const v) = v := fun _ => rfl; have Ef : ∀ f, F.eval (.func f) = .func (.func f) #[] #[] := fun _ => rfl; clear hF hd; generalize F.eval = ρ at E79 E83 Ec Ef ⊢
      simp [execOp, go_sem, Ec, E79, E83]
    case oc28 => as_aux_lemma =>
      intro p vals2 W1 F hF hlo hhi hI hd
      have hp : p = 0 := Nat.le_antisymm hhi hlo
      subst hp
      clear hlo hhi
      have d27 : vals2 27 = .bool true := hd ⟨27, .data⟩ (Array.mem_of_getElem? (i := 0) rfl) rfl (show (0 : Nat) ≤ 1000 by decide)
      have E84 := eval_some (hF.own_ 27 rfl rfl (by kernel_rfl) (by decide)); rw [d27] at E84
      refine .inr ⟨wanted_none rfl, .inl ⟨.bool true, ?_, hI, TyP.of_is rfl⟩⟩
      simp only [execOp, E84, Sem.run_pure]
    case ocend =>
      intro vals2 W1 F hF hdef hI hT
      have hv : vals2 28 = .bool true := hT 28 (by decide) (show (0 : Nat) ≤ 1000 by decide)
      rename_i K hK9
      refine hK9 _ _ ?_
      rw [hF.act]
      simp only [fin, Act.put, List.setIfInBounds_toArray, List.set_cons_succ, List.set_cons_zero]
      rw [hv]
      clear hF hT hv
      go_wp2
      go_ret
      exact ⟨rfl, hI.bel⟩
set_option maxRecDepth 100000 in
theorem snames_lifted (os : Os) (started : os.Started) (H : Type) (enc : TypeId × Value → H) :
    ReturnsInHanded {} Try.checked os 5 .any (Rows.signNamesSpec.pre6 enc Try.prog Try.f5 Rows.signNamesRow.domain false) (Rows.signNamesSpec.post enc Try.prog Try.f5 false true false false) := by
  refine returnsInHanded_of_change (C := Try.checked) own started (by kernel_rfl) Try.func5
    (ChangeSpec.witness6 (enc := enc) (C := Try.checked) false ⟨#[], #[], []⟩ 8 (by kernel_rfl) (by kernel_rfl) (by kernel_rfl) (by kernel_rfl)) ?_
  intro W base args ds gs before hval0 hW hcnd _
  have hval : ∀ (j : Nat) t v, Try.f5.params[j]? = some t → args[j]? = some v → Value.okWide Try.prog W .any base t v := hval0
  have hW' := hW
  obtain ⟨p, q, hA0, hV, rfl, hfz, hnd⟩ := hW
  have hA : DataW.TrodAll enc Try.prog W 0 (fun _ => true) true Try.f5.params.toList args.toList ds p := hA0
  rw [Try.params5] at hA hval
  obtain ⟨hargs, rfl, rfl⟩ := trodAll_nil hA
  obtain rfl : args = #[] := by cases args; simp_all
  obtain ⟨rfl, rfl⟩ := trodVars_none hV
  clear hA0 hval0
  refine (snames_walk W).mono fun e W' ⟨he, bel⟩ => ?_
  subst he
  exact ⟨_, rfl, _, _, _, [], _, [], hW', trodAll_mk1 (shut_bool Try.underlying4 _), trodAll_mk0, rfl, bel.frame _, fun h => by cases h⟩

theorem snames_over : Rows.signNamesRow.holds Try.pinned (OpenSpec.ofChange Rows.signNamesSpec) :=
  OpenClaim.holds_of_wide 5 Try.f5 rfl rfl rfl rfl rfl rfl rfl ⟨rfl, rfl, rfl, rfl, rfl⟩ rfl rfl rfl rfl rfl (by kernel_rfl) Try.func5 (by kernel_rfl)
    (of_decide_eq_true (by kernel_rfl)) (by unfold Func.isWrapper; first | (rw [if_pos (by decide +kernel)]; kernel_rfl) | (rw [if_neg (by decide +kernel)]; exact ⟨rfl, rfl⟩))
    (fun os started H enc _ => snames_lifted os started H enc)

/-- Sizes have their numbers; the examples of the chapter; what has another length; the parts of a signature. (Closed.) -/
theorem snames_proved : Rows.SignNamesSaid := snames_over
#print axioms snames_proved
end Go.Proofs.Ytijobhpmaenjlaa.Oct
