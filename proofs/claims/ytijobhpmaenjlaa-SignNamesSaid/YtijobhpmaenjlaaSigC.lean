/- The stage's first example (alive): a signature is its key's. No condition. -/
import Derived.Test.YtijobhpmaenjlaaSigB
import Derived.Test.YtijobhpmaenjlaaReg3
namespace Go.Proofs.Ytijobhpmaenjlaa.Oct
set_option linter.unusedVariables false
set_option linter.unusedSimpArgs false
open Go.Proofs.Ytijobhpmaenjlaa Go.RowKit Go.Lib Go.Shelf

/-- A signature's bytes, in a row of the call's own. -/
def SigV (bs : List UInt8) (v : Value) (W : World) : Prop := ∃ g, v = .slice (some ⟨g, 0, none⟩) 64 64 ∧ W.heap[g]? = some (.cells (arr8 bs) 5 (0, 0))
theorem SigV.mono {bs : List UInt8} {v : Value} {W W' : World} (h : SigV bs v W) (hb : Below W.heap.size W W') : SigV bs v W' := by
  obtain ⟨g, e, hg⟩ := h
  exact ⟨g, e, (hb.block g (Array.getElem?_eq_some_iff.1 hg).1).trans hg⟩
theorem holdsH {W : World} {g : Nat} {bs : List UInt8} {t : TypeId} {fr : Nat × Nat} (h : W.heap[g]? = some (.cells (arr8 bs) t fr)) : Holds8 W.heap.size W (some ⟨g, 0, none⟩) bs :=
  .inr ⟨g, 0, rfl, (Array.getElem?_eq_some_iff.1 h).1, fun j hj => by
    rw [cell_of_row _ _ _ _ _ _ h, Nat.zero_add, arr8_get bs j hj]
    congr 3
    simp [List.getD, hj]⟩
/-- A hash of one byte, and zeros. -/
def hb (x : UInt8) : List UInt8 := x :: List.replicate 31 0
theorem hb_length (x : UInt8) : (hb x).length = 32 := rfl
set_option maxRecDepth 100000 in
theorem sha_unlike : sha (hb 1 ++ hb 3) ≠ sha (hb 1 ++ hb 2) := by
  rw [← shaF_eq, ← shaF_eq]
  decide +kernel
theorem isB_own (s d : List UInt8) (hs : s.length = 32) : isB (sha s) (s ++ sha (s ++ d)) d = true := by
  unfold isB
  have h1 : (s ++ sha (s ++ d)).take 32 = s := by rw [List.take_append_of_le_length (by omega), List.take_of_length_le (by omega)]
  have h2 : (s ++ sha (s ++ d)).drop 32 = sha (s ++ d) := by rw [List.drop_append_of_le_length (by omega), List.drop_of_length_le (by omega), List.nil_append]
  rw [h1, h2, List.length_append, hs]
  simp [sha_length]
theorem isB_alive : isB (sha (hb 1)) (hb 1 ++ sha (hb 1 ++ hb 2)) (hb 3) = false := by
  unfold isB
  have h1 : (hb 1 ++ sha (hb 1 ++ hb 2)).take 32 = hb 1 := by rw [List.take_append_of_le_length (by decide), List.take_of_length_le (by decide)]
  have h2 : (hb 1 ++ sha (hb 1 ++ hb 2)).drop 32 = sha (hb 1 ++ hb 2) := by rw [List.drop_append_of_le_length (by decide), List.drop_of_length_le (by decide), List.nil_append]
  rw [h1, h2]
  simp [sha_unlike]

set_option maxRecDepth 100000 in
set_option maxHeartbeats 4000000 in
theorem alive_any (w : World) : Calls Try.prog 16 #[] w fun e w' => e = .returned (.bool true) ∧ Below w.heap.size w w' := by
  have CPU := Lib.hid (fun W => public_any W (hb 1) rfl)
  have hK := Keeps.nil w
  go_enter Try.func16, Try.ntmps16
  go_wp2_with (first | (refine wpList_build rfl 23 _ rfl (v := .agg (arr8 (hb 1))) (by kernel_rfl) ?_) | (go_at_call 10; (with_reducible refine (CPU.out _).mono ?_); rintro e W1 ⟨rfl, hb⟩; replace hK := hK.call hb; clear hb) | (refine wpList_alloc rfl 23 rfl (z := arr8 zero32) (by kernel_rfl) ?_; try simp only [World.size_alloc]) | (refine wpList_fill hK rfl 23 (.tmp 1) (.tmp 3) rfl rfl rfl (infoH _ rfl) (size_same rfl rfl) (one8x _) ?_; clear hK; intro W2 hK))
  go_frame
  obtain ⟨B1, hB1⟩ : ∃ B1, W1.heap.size = B1 := ⟨_, rfl⟩
  rw [hB1] at hK ⊢
  clear hB1
  simp only [List.nil_append] at hK
  refine wp_region_phased 19 rfl (fun _ _ W W' => Below W.heap.size W W') (fun p W1 => Keeps w [(B1, arr8 (sha (hb 1)), 23)] W1) [.is (.slice (some ⟨B1, 0, none⟩) 32 32), .is (.agg (arr8 (hb 1))), .is (.agg (arr8 (hb 2))), ⟨0, 1000, SigV ((hb 1) ++ sha ((hb 1) ++ (hb 2))), fun k d v W W' _ _ h hr => h.mono hr⟩, .is (.agg (arr8 (hb 2))), .is (.bool true), .is (.bool true), .is (.slice (some ⟨B1, 0, none⟩) 32 32), .is (.agg (arr8 (hb 1))), .is (.agg (arr8 (hb 2))), ⟨0, 1000, SigV ((hb 1) ++ sha ((hb 1) ++ (hb 2))), fun k d v W W' _ _ h hr => h.mono hr⟩, .is (.agg (arr8 (hb 3))), .is (.bool false), .is (.bool true), .is (.bool true), .is (.bool true)] [] [0, 0, 0, 0, 0, 0, 0, 0, 0, 0, 0, 0, 0, 0, 0, 0] [0, 0, 0, 0, 0, 0, 0, 0, 0, 0, 0, 0, 0, 0, 0, 0] (by kernel_rfl) (by kernel_rfl) (by kernel_rfl) (fun _ _ W => Below.refl _ W) (hK.drew) ⟨?ob0, ?ob1, ?ob2, ?ob3, ?ob4, ?ob5, ?ob6, ?ob7, ?ob8, ?ob9, ?ob10, ?ob11, ?ob12, ?ob13, ?ob14, ?ob15, trivial⟩ ?obend
  case ob0 =>
    intro p vals W1 F hF hlo hhi hI hd
    have hp : p = 0 := Nat.le_antisymm hhi hlo
    subst hp
    clear hlo hhi
    have E1 : F.eval (.tmp 1) = .pointer (some ⟨B1, 0, none⟩) := hF.out_ (by kernel_rfl) rfl
    refine .inr ⟨wanted_none rfl, .inl ⟨.slice (some ⟨B1, 0, none⟩) 32 32, ?_, hI, TyP.of_is rfl⟩⟩
    have Ec : ∀ v, F.eval (.const v) = v := fun _ => rfl; have Ef : ∀ f, F.eval (.func f) = .func (.func f) #[] #[] := fun _ => rfl; clear hF hd; generalize F.eval = ρ at E1 Ec Ef ⊢
    simp [execOp, go_sem, Ec, E1]
  case ob1 =>
    intro p vals W1 F hF hlo hhi hI hd
    have hp : p = 0 := Nat.le_antisymm hhi hlo
    subst hp
    clear hlo hhi
    refine .inr ⟨wanted_none rfl, ?_⟩
    refine .inl ⟨.agg (arr8 (hb 1)), by kernel_rfl, hI, TyP.of_is rfl⟩
  case ob2 =>
    intro p vals W1 F hF hlo hhi hI hd
    have hp : p = 0 := Nat.le_antisymm hhi hlo
    subst hp
    clear hlo hhi
    refine .inr ⟨wanted_none rfl, ?_⟩
    refine .inl ⟨.agg (arr8 (hb 2)), by kernel_rfl, hI, TyP.of_is rfl⟩
  case ob3 =>
    intro p vals W1 F hF hlo hhi hI hd
    have hp : p = 0 := Nat.le_antisymm hhi hlo
    subst hp
    clear hlo hhi
    have d1 : vals 1 = .agg (arr8 (hb 1)) := hd ⟨1, .data⟩ (Array.mem_of_getElem? (i := 0) rfl) rfl (show (0 : Nat) ≤ 1000 by decide)
    have d2 : vals 2 = .agg (arr8 (hb 2)) := hd ⟨2, .data⟩ (Array.mem_of_getElem? (i := 1) rfl) rfl (show (0 : Nat) ≤ 1000 by decide)
    have E5 := eval_some (hF.own_ 1 rfl rfl (by kernel_rfl) (by decide)); rw [d1] at E5
    have E6 := eval_some (hF.own_ 2 rfl rfl (by kernel_rfl) (by decide)); rw [d2] at E6
    refine .inr ⟨wanted_none rfl, ?_⟩
    refine .inr (.inr (.inl ⟨9, #[.agg (arr8 (hb 1)), .agg (arr8 (hb 2))], ?_, (sign_any W1 (hb 1) (hb 2) rfl rfl).mono ?_⟩))
    · have Ec : ∀ v, F.eval (.const v) = v := fun _ => rfl; have Ef : ∀ f, F.eval (.func f) = .func (.func f) #[] #[] := fun _ => rfl; clear hF hd; generalize F.eval = ρ at E5 E6 Ec Ef ⊢
      simp [execOp, go_sem, Ec, Ef, E5, E6]
    rintro e W2 ⟨g, rfl, hk⟩
    have hb := hk.bel
    exact ⟨_, rfl, hb, hI.call hb, g, rfl, hk.get 0 rfl⟩
  case ob4 =>
    intro p vals W1 F hF hlo hhi hI hd
    have hp : p = 0 := Nat.le_antisymm hhi hlo
    subst hp
    clear hlo hhi
    refine .inr ⟨wanted_none rfl, ?_⟩
    refine .inl ⟨.agg (arr8 (hb 2)), by kernel_rfl, hI, TyP.of_is rfl⟩
  case ob5 =>
    intro p vals W1 F hF hlo hhi hI hd
    have hp : p = 0 := Nat.le_antisymm hhi hlo
    subst hp
    clear hlo hhi
    have d0 : vals 0 = .slice (some ⟨B1, 0, none⟩) 32 32 := hd ⟨0, .data⟩ (Array.mem_of_getElem? (i := 0) rfl) rfl (show (0 : Nat) ≤ 1000 by decide)
    obtain ⟨g3, hspec3, hh3⟩ := hd ⟨3, .data⟩ (Array.mem_of_getElem? (i := 1) rfl) rfl (show (0 : Nat) ≤ 1000 by decide)
    have d3 : vals 3 = .slice (some ⟨g3, 0, none⟩) 64 64 := hspec3
    have d4 : vals 4 = .agg (arr8 (hb 2)) := hd ⟨4, .data⟩ (Array.mem_of_getElem? (i := 2) rfl) rfl (show (0 : Nat) ≤ 1000 by decide)
    have E4 := eval_some (hF.own_ 0 rfl rfl (by kernel_rfl) (by decide)); rw [d0] at E4
    have E7 := eval_some (hF.own_ 3 rfl rfl (by kernel_rfl) (by decide)); rw [d3] at E7
    have E8 := eval_some (hF.own_ 4 rfl rfl (by kernel_rfl) (by decide)); rw [d4] at E8
    refine .inr ⟨wanted_none rfl, ?_⟩
    have hc := is_any W1 (some ⟨B1, 0, none⟩) (some ⟨g3, 0, none⟩) 32 32 64 64 (sha (hb 1)) (hb 1 ++ sha (hb 1 ++ hb 2)) (hb 2) rfl (holdsK (k := 0) hI rfl) (holdsH hh3) rfl rfl (by decide) (by decide)
    rw [isB_own (hb 1) (hb 2) rfl] at hc
    refine .inr (.inr (.inl ⟨13, #[.slice (some ⟨B1, 0, none⟩) 32 32, .slice (some ⟨g3, 0, none⟩) 64 64, .agg (arr8 (hb 2))], ?_, hc.mono ?_⟩))
    · have Ec : ∀ v, F.eval (.const v) = v := fun _ => rfl; have Ef : ∀ f, F.eval (.func f) = .func (.func f) #[] #[] := fun _ => rfl; clear hF hd; generalize F.eval = ρ at E4 E7 E8 Ec Ef ⊢
      simp [execOp, go_sem, Ec, Ef, E4, E7, E8]
    rintro e W2 ⟨rfl, hb⟩
    exact ⟨_, rfl, hb, hI.call hb, TyP.of_is rfl⟩
  case ob6 =>
    intro p vals W1 F hF hlo hhi hI hd
    have hp : p = 0 := Nat.le_antisymm hhi hlo
    subst hp
    clear hlo hhi
    have d5 : vals 5 = .bool true := hd ⟨5, .data⟩ (Array.mem_of_getElem? (i := 0) rfl) rfl (show (0 : Nat) ≤ 1000 by decide)
    have E9 := eval_some (hF.own_ 5 rfl rfl (by kernel_rfl) (by decide)); rw [d5] at E9
    refine .inr ⟨wanted_none rfl, .inl ⟨.bool true, ?_, hI, TyP.of_is rfl⟩⟩
    simp only [execOp, E9, Sem.run_pure]
  case ob7 =>
    intro p vals W1 F hF hlo hhi hI hd
    have hp : p = 0 := Nat.le_antisymm hhi hlo
    subst hp
    clear hlo hhi
    have d6 : vals 6 = .bool true := hd ⟨6, .guard⟩ (Array.mem_of_getElem? (i := 0) rfl) rfl (show (0 : Nat) ≤ 1000 by decide)
    have E1 : F.eval (.tmp 1) = .pointer (some ⟨B1, 0, none⟩) := hF.out_ (by kernel_rfl) rfl
    have G := hF.own_ 6 rfl rfl (by kernel_rfl) (by decide); rw [d6] at G
    refine .inr ⟨wanted_yes rfl rfl rfl G, .inl ⟨.slice (some ⟨B1, 0, none⟩) 32 32, ?_, hI, TyP.of_is rfl⟩⟩
    have Ec : ∀ v, F.eval (.const v) = v := fun _ => rfl; have Ef : ∀ f, F.eval (.func f) = .func (.func f) #[] #[] := fun _ => rfl; clear hF hd; generalize F.eval = ρ at E1 Ec Ef ⊢
    simp [execOp, go_sem, Ec, E1]
  case ob8 =>
    intro p vals W1 F hF hlo hhi hI hd
    have hp : p = 0 := Nat.le_antisymm hhi hlo
    subst hp
    clear hlo hhi
    have d6 : vals 6 = .bool true := hd ⟨6, .guard⟩ (Array.mem_of_getElem? (i := 0) rfl) rfl (show (0 : Nat) ≤ 1000 by decide)
    have G := hF.own_ 6 rfl rfl (by kernel_rfl) (by decide); rw [d6] at G
    refine .inr ⟨wanted_yes rfl rfl rfl G, ?_⟩
    refine .inl ⟨.agg (arr8 (hb 1)), by kernel_rfl, hI, TyP.of_is rfl⟩
  case ob9 =>
    intro p vals W1 F hF hlo hhi hI hd
    have hp : p = 0 := Nat.le_antisymm hhi hlo
    subst hp
    clear hlo hhi
    have d6 : vals 6 = .bool true := hd ⟨6, .guard⟩ (Array.mem_of_getElem? (i := 0) rfl) rfl (show (0 : Nat) ≤ 1000 by decide)
    have G := hF.own_ 6 rfl rfl (by kernel_rfl) (by decide); rw [d6] at G
    refine .inr ⟨wanted_yes rfl rfl rfl G, ?_⟩
    refine .inl ⟨.agg (arr8 (hb 2)), by kernel_rfl, hI, TyP.of_is rfl⟩
  case ob10 =>
    intro p vals W1 F hF hlo hhi hI hd
    have hp : p = 0 := Nat.le_antisymm hhi hlo
    subst hp
    clear hlo hhi
    have d6 : vals 6 = .bool true := hd ⟨6, .chain⟩ (Array.mem_of_getElem? (i := 2) rfl) rfl (show (0 : Nat) ≤ 1000 by decide)
    have d8 : vals 8 = .agg (arr8 (hb 1)) := hd ⟨8, .data⟩ (Array.mem_of_getElem? (i := 0) rfl) rfl (show (0 : Nat) ≤ 1000 by decide)
    have d9 : vals 9 = .agg (arr8 (hb 2)) := hd ⟨9, .data⟩ (Array.mem_of_getElem? (i := 1) rfl) rfl (show (0 : Nat) ≤ 1000 by decide)
    have E12 := eval_some (hF.own_ 8 rfl rfl (by kernel_rfl) (by decide)); rw [d8] at E12
    have E13 := eval_some (hF.own_ 9 rfl rfl (by kernel_rfl) (by decide)); rw [d9] at E13
    have G := hF.own_ 6 rfl rfl (by kernel_rfl) (by decide); rw [d6] at G
    refine .inr ⟨wanted_yes rfl rfl rfl G, ?_⟩
    refine .inr (.inr (.inl ⟨9, #[.agg (arr8 (hb 1)), .agg (arr8 (hb 2))], ?_, (sign_any W1 (hb 1) (hb 2) rfl rfl).mono ?_⟩))
    · have Ec : ∀ v, F.eval (.const v) = v := fun _ => rfl; have Ef : ∀ f, F.eval (.func f) = .func (.func f) #[] #[] := fun _ => rfl; clear hF hd; generalize F.eval = ρ at E12 E13 Ec Ef ⊢
      simp [execOp, go_sem, Ec, Ef, E12, E13]
    rintro e W2 ⟨g, rfl, hk⟩
    have hb := hk.bel
    exact ⟨_, rfl, hb, hI.call hb, g, rfl, hk.get 0 rfl⟩
  case ob11 =>
    intro p vals W1 F hF hlo hhi hI hd
    have hp : p = 0 := Nat.le_antisymm hhi hlo
    subst hp
    clear hlo hhi
    have d6 : vals 6 = .bool true := hd ⟨6, .guard⟩ (Array.mem_of_getElem? (i := 0) rfl) rfl (show (0 : Nat) ≤ 1000 by decide)
    have G := hF.own_ 6 rfl rfl (by kernel_rfl) (by decide); rw [d6] at G
    refine .inr ⟨wanted_yes rfl rfl rfl G, ?_⟩
    refine .inl ⟨.agg (arr8 (hb 3)), by kernel_rfl, hI, TyP.of_is rfl⟩
  case ob12 =>
    intro p vals W1 F hF hlo hhi hI hd
    have hp : p = 0 := Nat.le_antisymm hhi hlo
    subst hp
    clear hlo hhi
    have d6 : vals 6 = .bool true := hd ⟨6, .guard⟩ (Array.mem_of_getElem? (i := 4) rfl) rfl (show (0 : Nat) ≤ 1000 by decide)
    have d7 : vals 7 = .slice (some ⟨B1, 0, none⟩) 32 32 := hd ⟨7, .data⟩ (Array.mem_of_getElem? (i := 0) rfl) rfl (show (0 : Nat) ≤ 1000 by decide)
    obtain ⟨g10, hspec10, hh10⟩ := hd ⟨10, .data⟩ (Array.mem_of_getElem? (i := 1) rfl) rfl (show (0 : Nat) ≤ 1000 by decide)
    have d10 : vals 10 = .slice (some ⟨g10, 0, none⟩) 64 64 := hspec10
    have d11 : vals 11 = .agg (arr8 (hb 3)) := hd ⟨11, .data⟩ (Array.mem_of_getElem? (i := 2) rfl) rfl (show (0 : Nat) ≤ 1000 by decide)
    have E11 := eval_some (hF.own_ 7 rfl rfl (by kernel_rfl) (by decide)); rw [d7] at E11
    have E14 := eval_some (hF.own_ 10 rfl rfl (by kernel_rfl) (by decide)); rw [d10] at E14
    have E15 := eval_some (hF.own_ 11 rfl rfl (by kernel_rfl) (by decide)); rw [d11] at E15
    have G := hF.own_ 6 rfl rfl (by kernel_rfl) (by decide); rw [d6] at G
    refine .inr ⟨wanted_yes rfl rfl rfl G, ?_⟩
    have hc := is_any W1 (some ⟨B1, 0, none⟩) (some ⟨g10, 0, none⟩) 32 32 64 64 (sha (hb 1)) (hb 1 ++ sha (hb 1 ++ hb 2)) (hb 3) rfl (holdsK (k := 0) hI rfl) (holdsH hh10) rfl rfl (by decide) (by decide)
    rw [isB_alive] at hc
    refine .inr (.inr (.inl ⟨13, #[.slice (some ⟨B1, 0, none⟩) 32 32, .slice (some ⟨g10, 0, none⟩) 64 64, .agg (arr8 (hb 3))], ?_, hc.mono ?_⟩))
    · have Ec : ∀ v, F.eval (.const v) = v := fun _ => rfl; have Ef : ∀ f, F.eval (.func f) = .func (.func f) #[] #[] := fun _ => rfl; clear hF hd; generalize F.eval = ρ at E11 E14 E15 Ec Ef ⊢
      simp [execOp, go_sem, Ec, Ef, E11, E14, E15]
    rintro e W2 ⟨rfl, hb⟩
    exact ⟨_, rfl, hb, hI.call hb, TyP.of_is rfl⟩
  case ob13 =>
    intro p vals W1 F hF hlo hhi hI hd
    have hp : p = 0 := Nat.le_antisymm hhi hlo
    subst hp
    clear hlo hhi
    have d6 : vals 6 = .bool true := hd ⟨6, .guard⟩ (Array.mem_of_getElem? (i := 1) rfl) rfl (show (0 : Nat) ≤ 1000 by decide)
    have d12 : vals 12 = .bool false := hd ⟨12, .data⟩ (Array.mem_of_getElem? (i := 0) rfl) rfl (show (0 : Nat) ≤ 1000 by decide)
    have E16 := eval_some (hF.own_ 12 rfl rfl (by kernel_rfl) (by decide)); rw [d12] at E16
    have G := hF.own_ 6 rfl rfl (by kernel_rfl) (by decide); rw [d6] at G
    refine .inr ⟨wanted_yes rfl rfl rfl G, .inl ⟨.bool true, ?_, hI, TyP.of_is rfl⟩⟩
    have Ec : ∀ v, F.eval (.const v) = v := fun _ => rfl; have Ef : ∀ f, F.eval (.func f) = .func (.func f) #[] #[] := fun _ => rfl; clear hF hd; generalize F.eval = ρ at E16 Ec Ef ⊢
    simp [execOp, go_sem, Ec, E16]
  case ob14 =>
    intro p vals W1 F hF hlo hhi hI hd
    have hp : p = 0 := Nat.le_antisymm hhi hlo
    subst hp
    clear hlo hhi
    have d6 : vals 6 = .bool true := hd ⟨6, .data⟩ (Array.mem_of_getElem? (i := 0) rfl) rfl (show (0 : Nat) ≤ 1000 by decide)
    have d13 : vals 13 = .bool true := hd ⟨13, .data⟩ (Array.mem_of_getElem? (i := 1) rfl) rfl (show (0 : Nat) ≤ 1000 by decide)
    have E10 := eval_some (hF.own_ 6 rfl rfl (by kernel_rfl) (by decide)); rw [d6] at E10
    have E17 := eval_some (hF.own_ 13 rfl rfl (by kernel_rfl) (by decide)); rw [d13] at E17
    refine .inr ⟨wanted_none rfl, .inl ⟨.bool true, ?_, hI, TyP.of_is rfl⟩⟩
    have Ec : ∀ v, F.eval (.const v) = v := fun _ => rfl; have Ef : ∀ f, F.eval (.func f) = .func (.func f) #[] #[] := fun _ => rfl; clear hF hd; generalize F.eval = ρ at E10 E17 Ec Ef ⊢
    simp [execOp, go_sem, Ec, E10, E17]
  case ob15 =>
    intro p vals W1 F hF hlo hhi hI hd
    have hp : p = 0 := Nat.le_antisymm hhi hlo
    subst hp
    clear hlo hhi
    have d14 : vals 14 = .bool true := hd ⟨14, .data⟩ (Array.mem_of_getElem? (i := 0) rfl) rfl (show (0 : Nat) ≤ 1000 by decide)
    have E18 := eval_some (hF.own_ 14 rfl rfl (by kernel_rfl) (by decide)); rw [d14] at E18
    refine .inr ⟨wanted_none rfl, .inl ⟨.bool true, ?_, hI, TyP.of_is rfl⟩⟩
    simp only [execOp, E18, Sem.run_pure]
  case obend =>
    intro vals W1 F hF hdef hI hT
    have hv : vals 15 = .bool true := hT 15 (by decide) (show (0 : Nat) ≤ 1000 by decide)
    rename_i K hK9
    refine hK9 _ _ ?_
    rw [hF.act]
    simp only [fin, Act.put, List.setIfInBounds_toArray, List.set_cons_succ, List.set_cons_zero]
    rw [hv]
    clear hF hT hv
    go_wp2
    go_ret
    exact ⟨rfl, hI.bel⟩
end Go.Proofs.Ytijobhpmaenjlaa.Oct
