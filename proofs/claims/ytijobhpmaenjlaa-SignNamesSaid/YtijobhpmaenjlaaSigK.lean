/- behind: two hashes, one behind the other; what a signature binds, said of bytes. -/
import Derived.Test.YtijobhpmaenjlaaSigJ
namespace Go.Proofs.Ytijobhpmaenjlaa.Oct
set_option linter.unusedVariables false
set_option linter.unusedSimpArgs false
open Go.Proofs.Ytijobhpmaenjlaa Go.RowKit Go.Lib Go.Shelf Go.ChangeShapes Go.WideShapes Go.ChangeAt

theorem keeps_growB {W0 W W' : World} {l : List (Nat × Array Value × TypeId)} {row : Option Nat} (h : Keeps W0 l W) (hg : W.grownBy W' row) (hr : ∀ (i : Nat) p, l[i]? = some p → some p.1 ≠ row) (hb : ∀ k, row = some k → W0.heap.size ≤ k) : Keeps W0 l W' :=
  ⟨fun i p hi => by
    have hlt := h.lt i hi
    rw [hg.block p.1 hlt (hr i p hi)]
    exact h.rows i p hi, h.base, h.apart, ⟨hg.os.trans h.bel.os, hg.tape.trans h.bel.tape, hg.output.trans h.bel.output, Nat.le_trans h.bel.size hg.size, fun k hk => (hg.block k (Nat.lt_of_lt_of_le hk h.bel.size) (fun e => by have := hb k e.symm; omega)).trans (h.bel.block k hk)⟩⟩
/-- What stands in memory while two hashes are laid one behind the other. -/
structure BhI (w : World) (b0 : Nat) (a b : List UInt8) (W : World) : Prop where
  keeps : Keeps w [(w.heap.size, arr8 a, 23), (w.heap.size + 1, arr8 b, 23)] W
  big : b0 ≤ W.heap.size
theorem BhI.call {w : World} {b0 : Nat} {a b : List UInt8} {W W' : World} (h : BhI w b0 a b W) (hb : Below W.heap.size W W') : BhI w b0 a b W' := ⟨h.keeps.call hb, Nat.le_trans h.big hb.size⟩
theorem BhI.grow {w : World} {b0 : Nat} {a b : List UInt8} {W W' : World} {row : Option Nat} (h : BhI w b0 a b W) (hb0 : w.heap.size + 2 ≤ b0) (hg : W.grownBy W' row) (hr : ∀ k, row = some k → b0 ≤ k) : BhI w b0 a b W' :=
  ⟨keeps_growB h.keeps hg (fun i p hi e => by
    have := hr p.1 e.symm
    match i, hi with
    | 0, hi => cases hi; dsimp only at this; omega
    | 1, hi => cases hi; dsimp only at this; omega) (fun k e => by have := hr k e; omega), Nat.le_trans h.big hg.size⟩
theorem own_emptyK (w : World) (base : Nat) (h : base ≤ w.heap.size) : (w.alloc (.cells #[] 5)).ownsRow base 5 1 (.slice (some ⟨w.heap.size, 0, none⟩) 0 0) 0 [] :=
  ⟨rfl, .inr ⟨w.heap.size, 0, #[], rfl, h, heap_alloc_new w _, Nat.le_refl _, by simp, rfl, rfl⟩⟩

set_option maxRecDepth 100000 in
set_option maxHeartbeats 4000000 in
theorem behind_any (w : World) (a b : List UInt8) (ha : a.length = 32) (hb : b.length = 32) : Calls Try.prog 18 #[.agg (arr8 a), .agg (arr8 b)] w (OwnBytes w (a ++ b)) := by
  have hK := ((Keeps.nil w).new (arr8 a) 23).new (arr8 b) 23
  simp only [World.size_alloc, List.nil_append, List.cons_append] at hK
  have HA := Lib.hid ha
  have HB := Lib.hid hb
  clear ha hb
  go_enter Try.func18, Try.ntmps18
  go_wp2
  obtain ⟨W0, hW0⟩ : ∃ W0, (w.alloc (.cells (arr8 a) 23)).alloc (.cells (arr8 b) 23) = W0 := ⟨_, rfl⟩
  rw [hW0] at hK ⊢
  clear hW0
  have HB0 := Lib.hid (show w.heap.size + 2 ≤ W0.heap.size from hK.lt 1 rfl)
  have HI0 := Lib.hid (show BhI w W0.heap.size a b W0 from ⟨hK, Nat.le_refl _⟩)
  clear hK
  generalize W0.heap.size = b0 at *
  refine wp_region_phased 10 rfl (fun k d W W' => (d = 0 → Below W.heap.size W W') ∧ (2 ≤ k → Below W.heap.size W W')) (fun p W1 => BhI w b0 a b W1) [⟨0, 0, fun v W => ∃ g, v = .slice (some ⟨g, 0, none⟩) 0 0 ∧ W.ownsRow b0 5 1 v 0 [], fun k d v W W' hk hd h hr => by obtain ⟨g, e, h2⟩ := h; exact ⟨g, e, ownsRow_below h2 (hr.1 (by omega))⟩⟩, .is (.slice (some ⟨w.heap.size, 0, none⟩) 32 32), ⟨1, 1, fun v W => W.ownsRow b0 5 1 v a.length (Go.Proofs.Ytijobhpmaenjlaa.Oct.vals a), fun k d v W W' hk hd h hr => ownsRow_below h (hr.1 (by omega))⟩, .is (.slice (some ⟨w.heap.size + 1, 0, none⟩) 32 32), ⟨2, 1000, fun v W => W.ownsRow b0 5 1 v (a ++ b).length (Go.Proofs.Ytijobhpmaenjlaa.Oct.vals (a ++ b)), fun k d v W W' hk hd h hr => ownsRow_below h (hr.2 hk)⟩, ⟨2, 1000, fun v W => W.ownsRow b0 5 1 v (a ++ b).length (Go.Proofs.Ytijobhpmaenjlaa.Oct.vals (a ++ b)), fun k d v W W' hk hd h hr => ownsRow_below h (hr.2 hk)⟩] [2, 4] [0, 0, 0, 0, 1, 2] [0, 0, 0, 1, 1, 2] (by kernel_rfl) (by kernel_rfl) (by kernel_rfl) (fun _ _ W => ⟨fun _ => Below.refl _ W, fun _ => Below.refl _ W⟩) (HI0.out.call (Below.refl _ _).drew) ⟨?ob0, ?ob1, ?ob2, ?ob3, ?ob4, ?ob5, trivial⟩ ?obend
  case ob0 => as_aux_lemma =>
    intro p vals W1 F hF hlo hhi hI hd
    have hp : p = 0 := Nat.le_antisymm hhi hlo
    subst hp
    clear hlo hhi
    refine .inr ⟨wanted_none rfl, ?_⟩
    have hb : Below W1.heap.size W1 (W1.alloc (.cells #[] 5)) := (Below.refl W1.heap.size W1).alloc (Nat.le_refl _) _
    refine .inr (.inl ⟨.slice (some ⟨W1.heap.size, 0, none⟩) 0 0, W1.alloc (.cells #[] 5), ?_, ⟨fun _ => hb, fun _ => hb⟩, hI.call hb, W1.heap.size, rfl, own_emptyK W1 b0 hI.big⟩)
    have Ec : ∀ v, F.eval (.const v) = v := fun _ => rfl; have Ef : ∀ f, F.eval (.func f) = .func (.func f) #[] #[] := fun _ => rfl; clear hF hd; generalize F.eval = ρ at  Ec Ef ⊢
    simp [execOp, go_sem, Ec]
  case ob1 => as_aux_lemma =>
    intro p vals W1 F hF hlo hhi hI hd
    have hp : p = 0 := Nat.le_antisymm hhi hlo
    subst hp
    clear hlo hhi
    have E2 : F.eval (.tmp 2) = .pointer (some ⟨w.heap.size, 0, none⟩) := hF.out_ (by kernel_rfl) rfl
    refine .inr ⟨wanted_none rfl, .inl ⟨.slice (some ⟨w.heap.size, 0, none⟩) 32 32, ?_, hI, TyP.of_is rfl⟩⟩
    have Ec : ∀ v, F.eval (.const v) = v := fun _ => rfl; have Ef : ∀ f, F.eval (.func f) = .func (.func f) #[] #[] := fun _ => rfl; clear hF hd; generalize F.eval = ρ at E2 Ec Ef ⊢
    simp [execOp, go_sem, Ec, E2]
  case ob2 => as_aux_lemma =>
    intro p vals W1 F hF hlo hhi hI hd
    have hp : p = 0 := Nat.le_antisymm hhi hlo
    subst hp
    clear hlo hhi
    obtain ⟨g0, hspec0, hr0⟩ := hd ⟨0, .data⟩ (Array.mem_of_getElem? (i := 0) rfl) rfl (show (0 : Nat) ≤ 0 by decide)
    have d0 : vals 0 = .slice (some ⟨g0, 0, none⟩) 0 0 := hspec0
    have d1 : vals 1 = .slice (some ⟨w.heap.size, 0, none⟩) 32 32 := hd ⟨1, .data⟩ (Array.mem_of_getElem? (i := 1) rfl) rfl (show (0 : Nat) ≤ 1000 by decide)
    have E5 := eval_some (hF.own_ 0 rfl rfl (by kernel_rfl) (by decide)); rw [d0] at E5
    have E6 := eval_some (hF.own_ 1 rfl rfl (by kernel_rfl) (by decide)); rw [d1] at E6
    refine .inr ⟨wanted_none rfl, ?_⟩
    obtain ⟨v', w', hr, h2, h3, h4⟩ := append_run W1 24 b0 W1.heap.size (.slice (some ⟨g0, 0, none⟩) 0 0) [] a (hspec0 ▸ hr0) (some ⟨w.heap.size, 0, none⟩) 32 (holdsK (k := 0) hI.keeps rfl) (by rw [HA.out]; decide) hI.big
    refine .inr (.inl ⟨v', w', ?_, ⟨fun h => absurd h (by decide), fun h => absurd h (by decide)⟩, hI.grow HB0.out h3 (fun k e => own_row_ge (hspec0 ▸ hr0) k e), h2⟩)
    rw [HA.out] at hr
    have Ec : ∀ v, F.eval (.const v) = v := fun _ => rfl; have Ef : ∀ f, F.eval (.func f) = .func (.func f) #[] #[] := fun _ => rfl; clear hF hd; generalize F.eval = ρ at E5 E6 Ec Ef ⊢
    unfold execOp
    simp only [resolve, invoke, builtin, Sem.run_bind, Sem.run_pure, Result.andThen_ok, List.map_toArray, List.map_cons, List.map_nil, E5, E6, hr]
  case ob3 => as_aux_lemma =>
    intro p vals W1 F hF hlo hhi hI hd
    have E3 : F.eval (.tmp 3) = .pointer (some ⟨w.heap.size + 1, 0, none⟩) := hF.out_ (by kernel_rfl) rfl
    refine .inr ⟨wanted_none rfl, .inl ⟨.slice (some ⟨w.heap.size + 1, 0, none⟩) 32 32, ?_, hI, TyP.of_is rfl⟩⟩
    have Ec : ∀ v, F.eval (.const v) = v := fun _ => rfl; have Ef : ∀ f, F.eval (.func f) = .func (.func f) #[] #[] := fun _ => rfl; clear hF hd; generalize F.eval = ρ at E3 Ec Ef ⊢
    simp [execOp, go_sem, Ec, E3]
  case ob4 => as_aux_lemma =>
    intro p vals W1 F hF hlo hhi hI hd
    have hp : p = 1 := Nat.le_antisymm hhi hlo
    subst hp
    clear hlo hhi
    obtain hr2 := hd ⟨2, .data⟩ (Array.mem_of_getElem? (i := 0) rfl) rfl (show (1 : Nat) ≤ 1 by decide)
    have d2 : vals 2 = vals 2 := rfl
    have d3 : vals 3 = .slice (some ⟨w.heap.size + 1, 0, none⟩) 32 32 := hd ⟨3, .data⟩ (Array.mem_of_getElem? (i := 1) rfl) rfl (show (1 : Nat) ≤ 1000 by decide)
    have E7 := eval_some (hF.own_ 2 rfl rfl (by kernel_rfl) (by decide)); rw [d2] at E7
    have E8 := eval_some (hF.own_ 3 rfl rfl (by kernel_rfl) (by decide)); rw [d3] at E8
    have hr2' : W1.ownsRow b0 5 1 (vals 2) a.length (Go.Proofs.Ytijobhpmaenjlaa.Oct.vals a) := hr2
    refine .inr ⟨wanted_none rfl, ?_⟩
    obtain ⟨v', w', hr, h2, h3, h4⟩ := append_run W1 24 b0 W1.heap.size _ a b hr2' (some ⟨w.heap.size + 1, 0, none⟩) 32 (holdsK (k := 1) hI.keeps rfl) (by rw [HA.out, HB.out]; decide) hI.big
    refine .inr (.inl ⟨v', w', ?_, ⟨fun h => absurd h (by decide), fun h => absurd h (by decide)⟩, hI.grow HB0.out h3 (fun k e => own_row_ge hr2' k e), h2⟩)
    rw [HB.out] at hr
    have Ec : ∀ v, F.eval (.const v) = v := fun _ => rfl; have Ef : ∀ f, F.eval (.func f) = .func (.func f) #[] #[] := fun _ => rfl; clear hF hd; generalize F.eval = ρ at E7 E8 Ec Ef ⊢
    unfold execOp
    simp only [resolve, invoke, builtin, Sem.run_bind, Sem.run_pure, Result.andThen_ok, List.map_toArray, List.map_cons, List.map_nil, E7, E8, hr]
  case ob5 => as_aux_lemma =>
    intro p vals W1 F hF hlo hhi hI hd
    have hp : p = 2 := Nat.le_antisymm hhi hlo
    subst hp
    clear hlo hhi
    obtain hr4 := hd ⟨4, .data⟩ (Array.mem_of_getElem? (i := 0) rfl) rfl (show (2 : Nat) ≤ 1000 by decide)
    have d4 : vals 4 = vals 4 := rfl
    have E9 := eval_some (hF.own_ 4 rfl rfl (by kernel_rfl) (by decide)); rw [d4] at E9
    refine .inr ⟨wanted_none rfl, ?_⟩
    refine .inl ⟨vals 4, ?_, hI, hr4⟩
    simp only [execOp, E9, Sem.run_pure]
  case obend =>
    intro vals W1 F hF hdef hI hT
    have hr5 : W1.ownsRow b0 5 1 (vals 5) (a ++ b).length (Go.Proofs.Ytijobhpmaenjlaa.Oct.vals (a ++ b)) := hT 5 (by decide) (show (2 : Nat) ≤ 1000 by decide)
    rename_i K hK9
    refine hK9 _ _ ?_
    rw [hF.act]
    simp only [fin, Act.put, List.setIfInBounds_toArray, List.set_cons_succ, List.set_cons_zero]
    clear hF hT
    go_wp2
    go_ret
    exact ⟨_, rfl, ownsRow_base hr5 (by have := HB0.out; omega), hI.keeps.bel⟩

/-- Two unlike messages of these have one hash. -/
def MeetsL (l : List (List UInt8)) : Prop := ∃ (i k : Nat) (x y : List UInt8), k < i ∧ l[i]? = some x ∧ l[k]? = some y ∧ PairM x y
theorem meetsL_of (l : List MV) : Meets l ↔ MeetsL (l.map MV.b) := by
  constructor
  · rintro ⟨i, k, x, y, h1, h2, h3, h4⟩
    exact ⟨i, k, x.b, y.b, h1, by rw [List.getElem?_map, h2]; rfl, by rw [List.getElem?_map, h3]; rfl, h4⟩
  · rintro ⟨i, k, x, y, h1, h2, h3, h4⟩
    rw [List.getElem?_map] at h2 h3
    cases hx : l[i]? with
    | none => rw [hx] at h2; cases h2
    | some p =>
      cases hy : l[k]? with
      | none => rw [hy] at h3; cases h3
      | some q =>
        rw [hx] at h2
        rw [hy] at h3
        cases h2
        cases h3
        exact ⟨i, k, p, q, h1, hx, hy, h4⟩
theorem isB_gen (x y z K : List UInt8) (hx : x.length = 32) (hK : K.length = 32) : isB K (x ++ sha (x ++ y)) z = (decide (sha x = K) && decide (sha (x ++ z) = sha (x ++ y))) := by
  have h2 : (sha (x ++ y)).length = 32 := hashOf_length _
  have h3 : (x ++ sha (x ++ y)).take 32 = x := by rw [List.take_append_of_le_length (by omega), List.take_of_length_le (by omega)]
  have h4 : (x ++ sha (x ++ y)).drop 32 = sha (x ++ y) := by rw [List.drop_append_of_le_length (by omega), List.drop_of_length_le (by omega), List.nil_append]
  unfold isB
  rw [h3, h4, hK, List.length_append, hx, h2]
  simp
theorem unmet {l : List (List UInt8)} (hno : ¬ MeetsL l) {i k : Nat} {x y : List UInt8} (hk : k < i) (hx : l[i]? = some x) (hy : l[k]? = some y) : sha x = sha y ↔ x = y :=
  ⟨fun h => Classical.byContradiction fun e => hno ⟨i, k, x, y, hk, hx, hy, e, h⟩, fun h => by rw [h]⟩
theorem binds_facts (s o d m : List UInt8) (hs : s.length = 32) (ho : o.length = 32) (hno : ¬ MeetsL [s, o, s ++ d, s ++ m, o ++ d]) :
    isB (sha s) (s ++ sha (s ++ d)) m = decide (m = d) ∧ isB (sha s) (o ++ sha (o ++ d)) d = decide (o = s) ∧ isB (sha o) (s ++ sha (s ++ d)) d = decide (o = s) ∧ decide (sha s = sha o) = decide (o = s) := by
  have h1 : (sha s).length = 32 := hashOf_length _
  have h2 : (sha o).length = 32 := hashOf_length _
  have e1 : sha o = sha s ↔ o = s := unmet hno (i := 1) (k := 0) (by decide) rfl rfl
  have e2 : sha (s ++ m) = sha (s ++ d) ↔ s ++ m = s ++ d := unmet hno (i := 3) (k := 2) (by decide) rfl rfl
  have e3 : sha s = sha o ↔ o = s := ⟨fun h => e1.1 h.symm, fun h => by rw [h]⟩
  have e4 : s ++ m = s ++ d ↔ m = d := ⟨fun h => List.append_cancel_left h, fun h => by rw [h]⟩
  rw [isB_gen s d m _ hs h1, isB_gen o d d _ ho h1, isB_gen s d d _ hs h2]
  refine ⟨?_, ?_, ?_, decide_eq_decide.2 e3⟩
  · rw [decide_eq_true rfl, Bool.true_and]
    exact decide_eq_decide.2 (e2.trans e4)
  · rw [decide_eq_true (p := sha (o ++ d) = sha (o ++ d)) rfl, Bool.and_true]
    exact decide_eq_decide.2 e1
  · rw [decide_eq_true (p := sha (s ++ d) = sha (s ++ d)) rfl, Bool.and_true]
    exact decide_eq_decide.2 e3
end Go.Proofs.Ytijobhpmaenjlaa.Oct
