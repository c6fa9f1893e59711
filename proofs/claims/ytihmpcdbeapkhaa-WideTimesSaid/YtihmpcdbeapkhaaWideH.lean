/- The walk of WideTimes: it returns true, and leaves what was there; the calls' answers come in as names. -/
import Derived.Test.YtihmpcdbeapkhaaWideF
namespace Go.Proofs.Ytihmpcdbeapkhaa
open Go.RowKit Go.Lib

/-- The store of one cell of a box. -/
theorem Keeps.cell {W0 W : World} {l : List (Nat × Array Value × TypeId)} (h : Keeps W0 l W) (k : Nat) {g : Nat} {cs : Array Value} {t : TypeId} (hk : l[k]? = some (g, cs, t)) (j : Nat) (v : Value) :
    Keeps W0 (l.set k (g, cs.setIfInBounds j v, t)) (W.setCell ⟨g, j, none⟩ v) := by
  rw [setCell_eq_setRow W g j cs t (0, 0) v (h.get k hk)]
  exact h.put k hk _

theorem frozen_row {W : World} {g j : Nat} {cs : Array Value} {t : TypeId} (h : W.heap[g]? = some (.cells cs t)) : W.frozen? ⟨g, j, none⟩ = false := by
  simp [World.frozen?, h]

theorem infoZ : (Try.prog.info? 24).map (·.size) = some (#[Value.int .u64 0, Value.int .u64 0, Value.int .u64 0, Value.int .u64 0] : Array Value).size := by kernel_rfl
theorem oneZ : (#[Value.int .u64 0, Value.int .u64 0, Value.int .u64 0, Value.int .u64 0] : Array Value).all (·.oneCell') = true := by simp [Value.oneCell']

set_option maxRecDepth 100000 in
set_option maxHeartbeats 8000000 in
theorem times_walk (a0 a1 a2 a3 b0 b1 b2 b3 c0 c1 c2 c3 A B C X S P Z : Nat) (o3 : Bool) (w : World)
    (eA : (#[.int .u64 a0, .int .u64 a1, .int .u64 0, .int .u64 0] : Array Value) = wcells A) (eB : (#[.int .u64 b0, .int .u64 ((b1 : Int) / 2), .int .u64 0, .int .u64 0] : Array Value) = wcells B) (eC : (#[.int .u64 c0, .int .u64 ((c1 : Int) / 2), .int .u64 0, .int .u64 0] : Array Value) = wcells C)
    (CV : Hid (∀ w, Calls Try.prog 42 #[] w fun e w' => e = .returned (.bool true) ∧ Below w.heap.size w w'))
    (X1 : Hid (∀ w, Calls Try.prog 30 #[.agg #[.int .u64 a0, .int .u64 a1, .int .u64 0, .int .u64 0], .agg #[.int .u64 b0, .int .u64 ((b1 : Int) / 2), .int .u64 0, .int .u64 0]] w fun e w' => e = .returned (.tuple #[.agg (wcells X), .agg (wcells 0)]) ∧ Below w.heap.size w w'))
    (X2 : Hid (∀ w, Calls Try.prog 30 #[.agg (wcells B), .agg (wcells A)] w fun e w' => e = .returned (.tuple #[.agg (wcells X), .agg (wcells 0)]) ∧ Below w.heap.size w w'))
    (A3 : Hid (∀ w, Calls Try.prog 26 #[.agg (wcells B), .agg (wcells C)] w fun e w' => e = .returned (.tuple #[.agg (wcells S), .bool o3]) ∧ Below w.heap.size w w'))
    (X4 : Hid (∀ w, Calls Try.prog 30 #[.agg (wcells A), .agg (wcells S)] w fun e w' => e = .returned (.tuple #[.agg (wcells P), .agg (wcells 0)]) ∧ Below w.heap.size w w'))
    (X5 : Hid (∀ w, Calls Try.prog 30 #[.agg (wcells A), .agg (wcells C)] w fun e w' => e = .returned (.tuple #[.agg (wcells Z), .agg (wcells 0)]) ∧ Below w.heap.size w w'))
    (A6 : Hid (∀ w, Calls Try.prog 26 #[.agg (wcells X), .agg (wcells Z)] w fun e w' => e = .returned (.tuple #[.agg (wcells P), .bool false]) ∧ Below w.heap.size w w'))
    (O7 : Hid (∀ w, Calls Try.prog 16 #[.int .u64 1] w fun e w' => e = .returned (.agg (wcells 1)) ∧ Below w.heap.size w w'))
    (X8 : Hid (∀ w, Calls Try.prog 30 #[.agg (wcells A), .agg (wcells 1)] w fun e w' => e = .returned (.tuple #[.agg (wcells A), .agg (wcells 0)]) ∧ Below w.heap.size w w'))
    (X9 : Hid (∀ w, Calls Try.prog 30 #[.agg (wcells A), .agg #[.int .u64 0, .int .u64 0, .int .u64 0, .int .u64 0]] w fun e w' => e = .returned (.tuple #[.agg (wcells 0), .agg (wcells 0)]) ∧ Below w.heap.size w w')) :
    Calls Try.prog 11 #[.agg (cells4 a0 a1 a2 a3), .agg (cells4 b0 b1 b2 b3), .agg (cells4 c0 c1 c2 c3)] w fun e w' => e = .returned (.bool true) ∧ Below w.heap.size w w' := by
  have HA := Lib.hid eA
  have HB := Lib.hid eB
  have HC := Lib.hid eC
  clear eA eB eC
  have hE := Lib.hid eqW
  have hZ : Hid (∀ w, (Op.equalIn 10000 24 (.agg (wcells 0)) (.agg #[.int .u64 0, .int .u64 0, .int .u64 0, .int .u64 0])).run Try.prog w = .ok true w) := fun w => eqW 0 w
  have hH := keeps3 w (cells4 a0 a1 a2 a3) (cells4 b0 b1 b2 b3) (cells4 c0 c1 c2 c3) 24
  unfold cells4 at hH ⊢
  go_enter Try.func11, Try.ntmps11
  go_wp2_with fail
  generalize ((w.alloc (.cells #[.int .u64 a0, .int .u64 a1, .int .u64 a2, .int .u64 a3] 24)).alloc (.cells #[.int .u64 b0, .int .u64 b1, .int .u64 b2, .int .u64 b3] 24)).alloc (.cells #[.int .u64 c0, .int .u64 c1, .int .u64 c2, .int .u64 c3] 24) = W0 at *
  refine (CV.out _).mono ?_
  rintro e W1 ⟨rfl, hB⟩
  replace hH := hH.call hB
  clear hB
  have ra := hH.get 0 rfl
  have fa0 : W1.cell? ⟨w.heap.size, 0, none⟩ = some (.int .u64 a0) := cell_of_row _ _ _ _ _ _ ra
  have fa1 : W1.cell? ⟨w.heap.size, 1, none⟩ = some (.int .u64 a1) := cell_of_row _ _ _ _ _ _ ra
  have fa2 : W1.cell? ⟨w.heap.size, 2, none⟩ = some (.int .u64 a2) := cell_of_row _ _ _ _ _ _ ra
  have fa3 : W1.cell? ⟨w.heap.size, 3, none⟩ = some (.int .u64 a3) := cell_of_row _ _ _ _ _ _ ra
  have za1 : W1.frozen? ⟨w.heap.size, 1, none⟩ = false := frozen_row ra
  have za2 : W1.frozen? ⟨w.heap.size, 2, none⟩ = false := frozen_row ra
  have za3 : W1.frozen? ⟨w.heap.size, 3, none⟩ = false := frozen_row ra
  have rb := hH.get 1 rfl
  have fb0 : W1.cell? ⟨w.heap.size + 1, 0, none⟩ = some (.int .u64 b0) := cell_of_row _ _ _ _ _ _ rb
  have fb1 : W1.cell? ⟨w.heap.size + 1, 1, none⟩ = some (.int .u64 b1) := cell_of_row _ _ _ _ _ _ rb
  have fb2 : W1.cell? ⟨w.heap.size + 1, 2, none⟩ = some (.int .u64 b2) := cell_of_row _ _ _ _ _ _ rb
  have fb3 : W1.cell? ⟨w.heap.size + 1, 3, none⟩ = some (.int .u64 b3) := cell_of_row _ _ _ _ _ _ rb
  have zb1 : W1.frozen? ⟨w.heap.size + 1, 1, none⟩ = false := frozen_row rb
  have zb2 : W1.frozen? ⟨w.heap.size + 1, 2, none⟩ = false := frozen_row rb
  have zb3 : W1.frozen? ⟨w.heap.size + 1, 3, none⟩ = false := frozen_row rb
  have rc := hH.get 2 rfl
  have fc0 : W1.cell? ⟨w.heap.size + 1 + 1, 0, none⟩ = some (.int .u64 c0) := cell_of_row _ _ _ _ _ _ rc
  have fc1 : W1.cell? ⟨w.heap.size + 1 + 1, 1, none⟩ = some (.int .u64 c1) := cell_of_row _ _ _ _ _ _ rc
  have fc2 : W1.cell? ⟨w.heap.size + 1 + 1, 2, none⟩ = some (.int .u64 c2) := cell_of_row _ _ _ _ _ _ rc
  have fc3 : W1.cell? ⟨w.heap.size + 1 + 1, 3, none⟩ = some (.int .u64 c3) := cell_of_row _ _ _ _ _ _ rc
  have zc1 : W1.frozen? ⟨w.heap.size + 1 + 1, 1, none⟩ = false := frozen_row rc
  have zc2 : W1.frozen? ⟨w.heap.size + 1 + 1, 2, none⟩ = false := frozen_row rc
  have zc3 : W1.frozen? ⟨w.heap.size + 1 + 1, 3, none⟩ = false := frozen_row rc
  have RA := Lib.hid (And.intro ra (And.intro rb rc))
  clear ra rb rc
  have HH := Lib.hid hH
  clear hH
  go_wp2
  refine wp_loop_rounds 3 ?_
  rw [rounds_succ]
  go_wp2
  rw [rounds_succ]
  go_wp2
  rw [rounds_succ]
  go_wp2_with fail
  have hK := ((((((((HH.out).cell 0 rfl 2 (.int .u64 0)).cell 1 rfl 2 (.int .u64 0)).cell 2 rfl 2 (.int .u64 0)).cell 0 rfl 3 (.int .u64 0)).cell 1 rfl 3 (.int .u64 0)).cell 2 rfl 3 (.int .u64 0)).cell 2 rfl 1 (.int .u64 ((c1 : Int) / 2))).cell 1 rfl 1 (.int .u64 ((b1 : Int) / 2))
  generalize hW2 : World.setCell _ _ _ = W2
  rw [hW2] at hK
  have hH : Keeps w [(w.heap.size, #[.int .u64 a0, .int .u64 a1, .int .u64 0, .int .u64 0], 24), (w.heap.size + 1, #[.int .u64 b0, .int .u64 ((b1 : Int) / 2), .int .u64 0, .int .u64 0], 24), (w.heap.size + 1 + 1, #[.int .u64 c0, .int .u64 ((c1 : Int) / 2), .int .u64 0, .int .u64 0], 24)] W2 := hK
  rw [HA.out, HB.out, HC.out] at hH
  clear hK hW2 HH RA fa0 fa1 fa2 fa3 fb0 fb1 fb2 fb3 fc0 fc1 fc2 fc3 za1 za2 za3 zb1 zb2 zb3 zc1 zc2 zc3
  have hE := hE.out
  have hZ := hZ.out
  have tk0 : True := trivial
  go_wp2_with (first | (go_at_call 30; with_reducible refine (X1.out _).mono ?_; rintro e W1 ⟨rfl, hB⟩; replace hH := hH.call hB; clear hB) | (go_at_call 30; with_reducible refine (X2.out _).mono ?_; rintro e W1 ⟨rfl, hB⟩; replace hH := hH.call hB; clear hB) | (go_at_call 26; with_reducible refine (A3.out _).mono ?_; rintro e W1 ⟨rfl, hB⟩; replace hH := hH.call hB; clear hB) | (go_at_call 30; with_reducible refine (X4.out _).mono ?_; rintro e W1 ⟨rfl, hB⟩; replace hH := hH.call hB; clear hB) | (go_at_call 30; with_reducible refine (X5.out _).mono ?_; rintro e W1 ⟨rfl, hB⟩; replace hH := hH.call hB; clear hB) | (go_at_call 26; with_reducible refine (A6.out _).mono ?_; rintro e W1 ⟨rfl, hB⟩; replace hH := hH.call hB; clear hB) | (have _t := tk0; refine wpList_fill2 hH rfl 24 _ _ rfl rfl rfl (infoW _) rfl (oneW _) ?_; clear _t tk0 hH; have tk1 : True := trivial; intro W1 hH) | (have _t := tk1; refine wpList_put hH 4 rfl 24 _ _ rfl rfl rfl rfl (infoW _) rfl (oneW _) ?_; clear _t tk1 hH; have tk2 : True := trivial; intro W1 hH) | (have _t := tk2; refine wpList_boxg hH 1 24 _ rfl rfl rfl _ Try.underlying24 rfl (infoW _) (by rfl) ?_; clear _t tk2; have tk3 : True := trivial) | (have _t := tk3; refine wpList_boxg hH 0 24 _ rfl rfl rfl _ Try.underlying24 rfl (infoW _) (by rfl) ?_; clear _t tk3; have tk4 : True := trivial) | (have _t := tk4; refine wpList_fill2 hH rfl 24 _ _ rfl rfl rfl (infoW _) rfl (oneW _) ?_; clear _t tk4 hH; have tk5 : True := trivial; intro W1 hH) | (have _t := tk5; refine wpList_put hH 6 rfl 24 _ _ rfl rfl rfl rfl (infoW _) rfl (oneW _) ?_; clear _t tk5 hH; have tk6 : True := trivial; intro W1 hH) | (have _t := tk6; refine wpList_boxg hH 1 24 _ rfl rfl rfl _ Try.underlying24 rfl (infoW _) (by rfl) ?_; clear _t tk6; have tk7 : True := trivial) | (have _t := tk7; refine wpList_boxg hH 2 24 _ rfl rfl rfl _ Try.underlying24 rfl (infoW _) (by rfl) ?_; clear _t tk7; have tk8 : True := trivial) | (have _t := tk8; refine wpList_fill hH rfl 24 _ _ rfl rfl rfl (infoW _) rfl (oneW _) ?_; clear _t tk8 hH; have tk9 : True := trivial; intro W1 hH) | (have _t := tk9; refine wpList_boxg hH 0 24 _ rfl rfl rfl _ Try.underlying24 rfl (infoW _) (by rfl) ?_; clear _t tk9; have tk10 : True := trivial) | (have _t := tk10; refine wpList_boxg hH 7 24 _ rfl rfl rfl _ Try.underlying24 rfl (infoW _) (by rfl) ?_; clear _t tk10; have tk11 : True := trivial) | (have _t := tk11; refine wpList_fill2 hH rfl 24 _ _ rfl rfl rfl (infoW _) rfl (oneW _) ?_; clear _t tk11 hH; have tk12 : True := trivial; intro W1 hH) | (have _t := tk12; refine wpList_put hH 9 rfl 24 _ _ rfl rfl rfl rfl (infoW _) rfl (oneW _) ?_; clear _t tk12 hH; have tk13 : True := trivial; intro W1 hH) | (have _t := tk13; refine wpList_boxg hH 0 24 _ rfl rfl rfl _ Try.underlying24 rfl (infoW _) (by rfl) ?_; clear _t tk13; have tk14 : True := trivial) | (have _t := tk14; refine wpList_boxg hH 2 24 _ rfl rfl rfl _ Try.underlying24 rfl (infoW _) (by rfl) ?_; clear _t tk14; have tk15 : True := trivial) | (have _t := tk15; refine wpList_fill2 hH rfl 24 _ _ rfl rfl rfl (infoW _) rfl (oneW _) ?_; clear _t tk15 hH; have tk16 : True := trivial; intro W1 hH) | (have _t := tk16; refine wpList_put hH 11 rfl 24 _ _ rfl rfl rfl rfl (infoW _) rfl (oneW _) ?_; clear _t tk16 hH; have tk17 : True := trivial; intro W1 hH) | (have _t := tk17; refine wpList_boxg hH 3 24 _ rfl rfl rfl _ Try.underlying24 rfl (infoW _) (by rfl) ?_; clear _t tk17; have tk18 : True := trivial) | (have _t := tk18; refine wpList_boxg hH 10 24 _ rfl rfl rfl _ Try.underlying24 rfl (infoW _) (by rfl) ?_; clear _t tk18; have tk19 : True := trivial) | (have _t := tk19; refine wpList_fill hH rfl 24 _ _ rfl rfl rfl (infoW _) rfl (oneW _) ?_; clear _t tk19 hH; have tk20 : True := trivial; intro W1 hH))
  apply wp_boxes2 (W0 := w)
  case hreg =>
    refine AnyK.start 10 rfl (by kernel_rfl) hH ?_
    refine AnyK.take 0 (some 82) rfl rfl (by kernel_rfl) (by kernel_rfl) (by kernel_rfl) (fun _ _ _ h => nomatch h.1) (yieldsIf_box 0 rfl 24 _ rfl rfl rfl _ Try.underlying24 rfl (infoW _)) ?_
    simp only [Act.put, List.setIfInBounds_toArray, List.set_cons_zero, List.set_cons_succ]
    refine AnyK.ready [1, 6, 7] (by kernel_rfl) (by simp) ?_
    refine steps_cons ?_ ?_
    · refine StepK.call (i := 1) (some 83) rfl rfl rfl (fun W => by go_simp) O7.out ?_
      simp only [Act.put, List.setIfInBounds_toArray, List.set_cons_zero, List.set_cons_succ]
      refine AnyK.ready [2, 6, 7] (by kernel_rfl) (by simp) ?_
      refine steps_cons ?_ ?_
      · refine StepK.call (i := 2) (some 84) rfl rfl rfl (fun W => by go_simp) X8.out ?_
        simp only [Act.put, List.setIfInBounds_toArray, List.set_cons_zero, List.set_cons_succ]
        refine AnyK.take 3 (some 81) rfl rfl (by kernel_rfl) (by kernel_rfl) (by kernel_rfl) (fun _ _ _ h => nomatch h.1) (v := _) (.inl ⟨by rfl, fun W hW => by first | (go_simp; done) | (go_simp; rfl)⟩) ?_
        simp only [Act.put, List.setIfInBounds_toArray, List.set_cons_zero, List.set_cons_succ]
        refine AnyK.take 4 (some 85) rfl rfl (by kernel_rfl) (by kernel_rfl) (by kernel_rfl) (fun _ _ _ h => nomatch h.1) (v := _) (.inl ⟨by rfl, fun W hW => by first | (go_simp; done) | (go_simp; rfl)⟩) ?_
        simp only [Act.put, List.setIfInBounds_toArray, List.set_cons_zero, List.set_cons_succ]
        refine AnyK.take 5 (some 86) rfl rfl (by kernel_rfl) (by kernel_rfl) (by kernel_rfl) (fun _ _ _ h => nomatch h.1) (v := _) (.inl ⟨by rfl, fun W hW => by first | (go_simp; done) | (go_simp; rfl)⟩) ?_
        simp only [Act.put, List.setIfInBounds_toArray, List.set_cons_zero, List.set_cons_succ]
        refine AnyK.ready [6, 7] (by kernel_rfl) (by simp) ?_
        refine steps_cons ?_ ?_
        · refine StepK.alloc (i := 6) (some 21) rfl rfl rfl (fun W => by go_simp; rfl) (fun g6 => ?_)
          simp only [Act.put, List.setIfInBounds_toArray, List.set_cons_zero, List.set_cons_succ]
          refine AnyK.ready [7] (by kernel_rfl) (by simp) ?_
          refine steps_cons ?_ ?_
          · refine StepK.alloc (i := 7) (some 22) rfl rfl rfl (fun W => by go_simp; rfl) (fun g7 => ?_)
            simp only [Act.put, List.setIfInBounds_toArray, List.set_cons_zero, List.set_cons_succ]
            refine AnyK.ready [8] (by kernel_rfl) (by simp) ?_
            refine steps_cons ?_ ?_
            · refine StepK.store 0 (i := 8) rfl rfl rfl 24 _ _ rfl rfl rfl rfl (infoW _) rfl (oneW _) ?_
              refine AnyK.ready [9] (by kernel_rfl) (by simp) ?_
              refine steps_cons ?_ ?_
              · refine StepK.store 1 (i := 9) rfl rfl rfl 24 _ _ rfl rfl rfl rfl (infoW _) rfl (oneW _) ?_
                refine AnyK.done (by kernel_rfl) ?_
                intro W hW
                exact ⟨rfl, g6, g7, rfl, hW⟩
              exact steps_nil
            exact steps_nil
          exact steps_nil
        refine steps_cons ?_ ?_
        · refine StepK.alloc (i := 7) (some 22) rfl rfl rfl (fun W => by go_simp; rfl) (fun g7 => ?_)
          simp only [Act.put, List.setIfInBounds_toArray, List.set_cons_zero, List.set_cons_succ]
          refine AnyK.ready [6] (by kernel_rfl) (by simp) ?_
          refine steps_cons ?_ ?_
          · refine StepK.alloc (i := 6) (some 21) rfl rfl rfl (fun W => by go_simp; rfl) (fun g6 => ?_)
            simp only [Act.put, List.setIfInBounds_toArray, List.set_cons_zero, List.set_cons_succ]
            refine AnyK.ready [8] (by kernel_rfl) (by simp) ?_
            refine steps_cons ?_ ?_
            · refine StepK.store 1 (i := 8) rfl rfl rfl 24 _ _ rfl rfl rfl rfl (infoW _) rfl (oneW _) ?_
              refine AnyK.ready [9] (by kernel_rfl) (by simp) ?_
              refine steps_cons ?_ ?_
              · refine StepK.store 0 (i := 9) rfl rfl rfl 24 _ _ rfl rfl rfl rfl (infoW _) rfl (oneW _) ?_
                refine AnyK.done (by kernel_rfl) ?_
                intro W hW
                exact ⟨rfl, g6, g7, rfl, Keeps.swap hW⟩
              exact steps_nil
            exact steps_nil
          exact steps_nil
        exact steps_nil
      refine steps_cons ?_ ?_
      · refine StepK.alloc (i := 6) (some 21) rfl rfl rfl (fun W => by go_simp; rfl) (fun g6 => ?_)
        simp only [Act.put, List.setIfInBounds_toArray, List.set_cons_zero, List.set_cons_succ]
        refine AnyK.ready [2, 7] (by kernel_rfl) (by simp) ?_
        refine steps_cons ?_ ?_
        · refine StepK.call (i := 2) (some 84) rfl rfl rfl (fun W => by go_simp) X8.out ?_
          simp only [Act.put, List.setIfInBounds_toArray, List.set_cons_zero, List.set_cons_succ]
          refine AnyK.take 3 (some 81) rfl rfl (by kernel_rfl) (by kernel_rfl) (by kernel_rfl) (fun _ _ _ h => nomatch h.1) (v := _) (.inl ⟨by rfl, fun W hW => by first | (go_simp; done) | (go_simp; rfl)⟩) ?_
          simp only [Act.put, List.setIfInBounds_toArray, List.set_cons_zero, List.set_cons_succ]
          refine AnyK.take 4 (some 85) rfl rfl (by kernel_rfl) (by kernel_rfl) (by kernel_rfl) (fun _ _ _ h => nomatch h.1) (v := _) (.inl ⟨by rfl, fun W hW => by first | (go_simp; done) | (go_simp; rfl)⟩) ?_
          simp only [Act.put, List.setIfInBounds_toArray, List.set_cons_zero, List.set_cons_succ]
          refine AnyK.take 5 (some 86) rfl rfl (by kernel_rfl) (by kernel_rfl) (by kernel_rfl) (fun _ _ _ h => nomatch h.1) (v := _) (.inl ⟨by rfl, fun W hW => by first | (go_simp; done) | (go_simp; rfl)⟩) ?_
          simp only [Act.put, List.setIfInBounds_toArray, List.set_cons_zero, List.set_cons_succ]
          refine AnyK.ready [7] (by kernel_rfl) (by simp) ?_
          refine steps_cons ?_ ?_
          · refine StepK.alloc (i := 7) (some 22) rfl rfl rfl (fun W => by go_simp; rfl) (fun g7 => ?_)
            simp only [Act.put, List.setIfInBounds_toArray, List.set_cons_zero, List.set_cons_succ]
            refine AnyK.ready [8] (by kernel_rfl) (by simp) ?_
            refine steps_cons ?_ ?_
            · refine StepK.store 0 (i := 8) rfl rfl rfl 24 _ _ rfl rfl rfl rfl (infoW _) rfl (oneW _) ?_
              refine AnyK.ready [9] (by kernel_rfl) (by simp) ?_
              refine steps_cons ?_ ?_
              · refine StepK.store 1 (i := 9) rfl rfl rfl 24 _ _ rfl rfl rfl rfl (infoW _) rfl (oneW _) ?_
                refine AnyK.done (by kernel_rfl) ?_
                intro W hW
                exact ⟨rfl, g6, g7, rfl, hW⟩
              exact steps_nil
            exact steps_nil
          exact steps_nil
        refine steps_cons ?_ ?_
        · refine StepK.alloc (i := 7) (some 22) rfl rfl rfl (fun W => by go_simp; rfl) (fun g7 => ?_)
          simp only [Act.put, List.setIfInBounds_toArray, List.set_cons_zero, List.set_cons_succ]
          refine AnyK.ready [2] (by kernel_rfl) (by simp) ?_
          refine steps_cons ?_ ?_
          · refine StepK.call (i := 2) (some 84) rfl rfl rfl (fun W => by go_simp) X8.out ?_
            simp only [Act.put, List.setIfInBounds_toArray, List.set_cons_zero, List.set_cons_succ]
            refine AnyK.take 3 (some 81) rfl rfl (by kernel_rfl) (by kernel_rfl) (by kernel_rfl) (fun _ _ _ h => nomatch h.1) (v := _) (.inl ⟨by rfl, fun W hW => by first | (go_simp; done) | (go_simp; rfl)⟩) ?_
            simp only [Act.put, List.setIfInBounds_toArray, List.set_cons_zero, List.set_cons_succ]
            refine AnyK.take 4 (some 85) rfl rfl (by kernel_rfl) (by kernel_rfl) (by kernel_rfl) (fun _ _ _ h => nomatch h.1) (v := _) (.inl ⟨by rfl, fun W hW => by first | (go_simp; done) | (go_simp; rfl)⟩) ?_
            simp only [Act.put, List.setIfInBounds_toArray, List.set_cons_zero, List.set_cons_succ]
            refine AnyK.take 5 (some 86) rfl rfl (by kernel_rfl) (by kernel_rfl) (by kernel_rfl) (fun _ _ _ h => nomatch h.1) (v := _) (.inl ⟨by rfl, fun W hW => by first | (go_simp; done) | (go_simp; rfl)⟩) ?_
            simp only [Act.put, List.setIfInBounds_toArray, List.set_cons_zero, List.set_cons_succ]
            refine AnyK.ready [8] (by kernel_rfl) (by simp) ?_
            refine steps_cons ?_ ?_
            · refine StepK.store 0 (i := 8) rfl rfl rfl 24 _ _ rfl rfl rfl rfl (infoW _) rfl (oneW _) ?_
              refine AnyK.ready [9] (by kernel_rfl) (by simp) ?_
              refine steps_cons ?_ ?_
              · refine StepK.store 1 (i := 9) rfl rfl rfl 24 _ _ rfl rfl rfl rfl (infoW _) rfl (oneW _) ?_
                refine AnyK.done (by kernel_rfl) ?_
                intro W hW
                exact ⟨rfl, g6, g7, rfl, hW⟩
              exact steps_nil
            exact steps_nil
          exact steps_nil
        exact steps_nil
      refine steps_cons ?_ ?_
      · refine StepK.alloc (i := 7) (some 22) rfl rfl rfl (fun W => by go_simp; rfl) (fun g7 => ?_)
        simp only [Act.put, List.setIfInBounds_toArray, List.set_cons_zero, List.set_cons_succ]
        refine AnyK.ready [2, 6] (by kernel_rfl) (by simp) ?_
        refine steps_cons ?_ ?_
        · refine StepK.call (i := 2) (some 84) rfl rfl rfl (fun W => by go_simp) X8.out ?_
          simp only [Act.put, List.setIfInBounds_toArray, List.set_cons_zero, List.set_cons_succ]
          refine AnyK.take 3 (some 81) rfl rfl (by kernel_rfl) (by kernel_rfl) (by kernel_rfl) (fun _ _ _ h => nomatch h.1) (v := _) (.inl ⟨by rfl, fun W hW => by first | (go_simp; done) | (go_simp; rfl)⟩) ?_
          simp only [Act.put, List.setIfInBounds_toArray, List.set_cons_zero, List.set_cons_succ]
          refine AnyK.take 4 (some 85) rfl rfl (by kernel_rfl) (by kernel_rfl) (by kernel_rfl) (fun _ _ _ h => nomatch h.1) (v := _) (.inl ⟨by rfl, fun W hW => by first | (go_simp; done) | (go_simp; rfl)⟩) ?_
          simp only [Act.put, List.setIfInBounds_toArray, List.set_cons_zero, List.set_cons_succ]
          refine AnyK.take 5 (some 86) rfl rfl (by kernel_rfl) (by kernel_rfl) (by kernel_rfl) (fun _ _ _ h => nomatch h.1) (v := _) (.inl ⟨by rfl, fun W hW => by first | (go_simp; done) | (go_simp; rfl)⟩) ?_
          simp only [Act.put, List.setIfInBounds_toArray, List.set_cons_zero, List.set_cons_succ]
          refine AnyK.ready [6] (by kernel_rfl) (by simp) ?_
          refine steps_cons ?_ ?_
          · refine StepK.alloc (i := 6) (some 21) rfl rfl rfl (fun W => by go_simp; rfl) (fun g6 => ?_)
            simp only [Act.put, List.setIfInBounds_toArray, List.set_cons_zero, List.set_cons_succ]
            refine AnyK.ready [8] (by kernel_rfl) (by simp) ?_
            refine steps_cons ?_ ?_
            · refine StepK.store 1 (i := 8) rfl rfl rfl 24 _ _ rfl rfl rfl rfl (infoW _) rfl (oneW _) ?_
              refine AnyK.ready [9] (by kernel_rfl) (by simp) ?_
              refine steps_cons ?_ ?_
              · refine StepK.store 0 (i := 9) rfl rfl rfl 24 _ _ rfl rfl rfl rfl (infoW _) rfl (oneW _) ?_
                refine AnyK.done (by kernel_rfl) ?_
                intro W hW
                exact ⟨rfl, g6, g7, rfl, Keeps.swap hW⟩
              exact steps_nil
            exact steps_nil
          exact steps_nil
        refine steps_cons ?_ ?_
        · refine StepK.alloc (i := 6) (some 21) rfl rfl rfl (fun W => by go_simp; rfl) (fun g6 => ?_)
          simp only [Act.put, List.setIfInBounds_toArray, List.set_cons_zero, List.set_cons_succ]
          refine AnyK.ready [2] (by kernel_rfl) (by simp) ?_
          refine steps_cons ?_ ?_
          · refine StepK.call (i := 2) (some 84) rfl rfl rfl (fun W => by go_simp) X8.out ?_
            simp only [Act.put, List.setIfInBounds_toArray, List.set_cons_zero, List.set_cons_succ]
            refine AnyK.take 3 (some 81) rfl rfl (by kernel_rfl) (by kernel_rfl) (by kernel_rfl) (fun _ _ _ h => nomatch h.1) (v := _) (.inl ⟨by rfl, fun W hW => by first | (go_simp; done) | (go_simp; rfl)⟩) ?_
            simp only [Act.put, List.setIfInBounds_toArray, List.set_cons_zero, List.set_cons_succ]
            refine AnyK.take 4 (some 85) rfl rfl (by kernel_rfl) (by kernel_rfl) (by kernel_rfl) (fun _ _ _ h => nomatch h.1) (v := _) (.inl ⟨by rfl, fun W hW => by first | (go_simp; done) | (go_simp; rfl)⟩) ?_
            simp only [Act.put, List.setIfInBounds_toArray, List.set_cons_zero, List.set_cons_succ]
            refine AnyK.take 5 (some 86) rfl rfl (by kernel_rfl) (by kernel_rfl) (by kernel_rfl) (fun _ _ _ h => nomatch h.1) (v := _) (.inl ⟨by rfl, fun W hW => by first | (go_simp; done) | (go_simp; rfl)⟩) ?_
            simp only [Act.put, List.setIfInBounds_toArray, List.set_cons_zero, List.set_cons_succ]
            refine AnyK.ready [8] (by kernel_rfl) (by simp) ?_
            refine steps_cons ?_ ?_
            · refine StepK.store 1 (i := 8) rfl rfl rfl 24 _ _ rfl rfl rfl rfl (infoW _) rfl (oneW _) ?_
              refine AnyK.ready [9] (by kernel_rfl) (by simp) ?_
              refine steps_cons ?_ ?_
              · refine StepK.store 0 (i := 9) rfl rfl rfl 24 _ _ rfl rfl rfl rfl (infoW _) rfl (oneW _) ?_
                refine AnyK.done (by kernel_rfl) ?_
                intro W hW
                exact ⟨rfl, g6, g7, rfl, Keeps.swap hW⟩
              exact steps_nil
            exact steps_nil
          exact steps_nil
        exact steps_nil
      exact steps_nil
    refine steps_cons ?_ ?_
    · refine StepK.alloc (i := 6) (some 21) rfl rfl rfl (fun W => by go_simp; rfl) (fun g6 => ?_)
      simp only [Act.put, List.setIfInBounds_toArray, List.set_cons_zero, List.set_cons_succ]
      refine AnyK.ready [1, 7] (by kernel_rfl) (by simp) ?_
      refine steps_cons ?_ ?_
      · refine StepK.call (i := 1) (some 83) rfl rfl rfl (fun W => by go_simp) O7.out ?_
        simp only [Act.put, List.setIfInBounds_toArray, List.set_cons_zero, List.set_cons_succ]
        refine AnyK.ready [2, 7] (by kernel_rfl) (by simp) ?_
        refine steps_cons ?_ ?_
        · refine StepK.call (i := 2) (some 84) rfl rfl rfl (fun W => by go_simp) X8.out ?_
          simp only [Act.put, List.setIfInBounds_toArray, List.set_cons_zero, List.set_cons_succ]
          refine AnyK.take 3 (some 81) rfl rfl (by kernel_rfl) (by kernel_rfl) (by kernel_rfl) (fun _ _ _ h => nomatch h.1) (v := _) (.inl ⟨by rfl, fun W hW => by first | (go_simp; done) | (go_simp; rfl)⟩) ?_
          simp only [Act.put, List.setIfInBounds_toArray, List.set_cons_zero, List.set_cons_succ]
          refine AnyK.take 4 (some 85) rfl rfl (by kernel_rfl) (by kernel_rfl) (by kernel_rfl) (fun _ _ _ h => nomatch h.1) (v := _) (.inl ⟨by rfl, fun W hW => by first | (go_simp; done) | (go_simp; rfl)⟩) ?_
          simp only [Act.put, List.setIfInBounds_toArray, List.set_cons_zero, List.set_cons_succ]
          refine AnyK.take 5 (some 86) rfl rfl (by kernel_rfl) (by kernel_rfl) (by kernel_rfl) (fun _ _ _ h => nomatch h.1) (v := _) (.inl ⟨by rfl, fun W hW => by first | (go_simp; done) | (go_simp; rfl)⟩) ?_
          simp only [Act.put, List.setIfInBounds_toArray, List.set_cons_zero, List.set_cons_succ]
          refine AnyK.ready [7] (by kernel_rfl) (by simp) ?_
          refine steps_cons ?_ ?_
          · refine StepK.alloc (i := 7) (some 22) rfl rfl rfl (fun W => by go_simp; rfl) (fun g7 => ?_)
            simp only [Act.put, List.setIfInBounds_toArray, List.set_cons_zero, List.set_cons_succ]
            refine AnyK.ready [8] (by kernel_rfl) (by simp) ?_
            refine steps_cons ?_ ?_
            · refine StepK.store 0 (i := 8) rfl rfl rfl 24 _ _ rfl rfl rfl rfl (infoW _) rfl (oneW _) ?_
              refine AnyK.ready [9] (by kernel_rfl) (by simp) ?_
              refine steps_cons ?_ ?_
              · refine StepK.store 1 (i := 9) rfl rfl rfl 24 _ _ rfl rfl rfl rfl (infoW _) rfl (oneW _) ?_
                refine AnyK.done (by kernel_rfl) ?_
                intro W hW
                exact ⟨rfl, g6, g7, rfl, hW⟩
              exact steps_nil
            exact steps_nil
          exact steps_nil
        refine steps_cons ?_ ?_
        · refine StepK.alloc (i := 7) (some 22) rfl rfl rfl (fun W => by go_simp; rfl) (fun g7 => ?_)
          simp only [Act.put, List.setIfInBounds_toArray, List.set_cons_zero, List.set_cons_succ]
          refine AnyK.ready [2] (by kernel_rfl) (by simp) ?_
          refine steps_cons ?_ ?_
          · refine StepK.call (i := 2) (some 84) rfl rfl rfl (fun W => by go_simp) X8.out ?_
            simp only [Act.put, List.setIfInBounds_toArray, List.set_cons_zero, List.set_cons_succ]
            refine AnyK.take 3 (some 81) rfl rfl (by kernel_rfl) (by kernel_rfl) (by kernel_rfl) (fun _ _ _ h => nomatch h.1) (v := _) (.inl ⟨by rfl, fun W hW => by first | (go_simp; done) | (go_simp; rfl)⟩) ?_
            simp only [Act.put, List.setIfInBounds_toArray, List.set_cons_zero, List.set_cons_succ]
            refine AnyK.take 4 (some 85) rfl rfl (by kernel_rfl) (by kernel_rfl) (by kernel_rfl) (fun _ _ _ h => nomatch h.1) (v := _) (.inl ⟨by rfl, fun W hW => by first | (go_simp; done) | (go_simp; rfl)⟩) ?_
            simp only [Act.put, List.setIfInBounds_toArray, List.set_cons_zero, List.set_cons_succ]
            refine AnyK.take 5 (some 86) rfl rfl (by kernel_rfl) (by kernel_rfl) (by kernel_rfl) (fun _ _ _ h => nomatch h.1) (v := _) (.inl ⟨by rfl, fun W hW => by first | (go_simp; done) | (go_simp; rfl)⟩) ?_
            simp only [Act.put, List.setIfInBounds_toArray, List.set_cons_zero, List.set_cons_succ]
            refine AnyK.ready [8] (by kernel_rfl) (by simp) ?_
            refine steps_cons ?_ ?_
            · refine StepK.store 0 (i := 8) rfl rfl rfl 24 _ _ rfl rfl rfl rfl (infoW _) rfl (oneW _) ?_
              refine AnyK.ready [9] (by kernel_rfl) (by simp) ?_
              refine steps_cons ?_ ?_
              · refine StepK.store 1 (i := 9) rfl rfl rfl 24 _ _ rfl rfl rfl rfl (infoW _) rfl (oneW _) ?_
                refine AnyK.done (by kernel_rfl) ?_
                intro W hW
                exact ⟨rfl, g6, g7, rfl, hW⟩
              exact steps_nil
            exact steps_nil
          exact steps_nil
        exact steps_nil
      refine steps_cons ?_ ?_
      · refine StepK.alloc (i := 7) (some 22) rfl rfl rfl (fun W => by go_simp; rfl) (fun g7 => ?_)
        simp only [Act.put, List.setIfInBounds_toArray, List.set_cons_zero, List.set_cons_succ]
        refine AnyK.ready [1] (by kernel_rfl) (by simp) ?_
        refine steps_cons ?_ ?_
        · refine StepK.call (i := 1) (some 83) rfl rfl rfl (fun W => by go_simp) O7.out ?_
          simp only [Act.put, List.setIfInBounds_toArray, List.set_cons_zero, List.set_cons_succ]
          refine AnyK.ready [2] (by kernel_rfl) (by simp) ?_
          refine steps_cons ?_ ?_
          · refine StepK.call (i := 2) (some 84) rfl rfl rfl (fun W => by go_simp) X8.out ?_
            simp only [Act.put, List.setIfInBounds_toArray, List.set_cons_zero, List.set_cons_succ]
            refine AnyK.take 3 (some 81) rfl rfl (by kernel_rfl) (by kernel_rfl) (by kernel_rfl) (fun _ _ _ h => nomatch h.1) (v := _) (.inl ⟨by rfl, fun W hW => by first | (go_simp; done) | (go_simp; rfl)⟩) ?_
            simp only [Act.put, List.setIfInBounds_toArray, List.set_cons_zero, List.set_cons_succ]
            refine AnyK.take 4 (some 85) rfl rfl (by kernel_rfl) (by kernel_rfl) (by kernel_rfl) (fun _ _ _ h => nomatch h.1) (v := _) (.inl ⟨by rfl, fun W hW => by first | (go_simp; done) | (go_simp; rfl)⟩) ?_
            simp only [Act.put, List.setIfInBounds_toArray, List.set_cons_zero, List.set_cons_succ]
            refine AnyK.take 5 (some 86) rfl rfl (by kernel_rfl) (by kernel_rfl) (by kernel_rfl) (fun _ _ _ h => nomatch h.1) (v := _) (.inl ⟨by rfl, fun W hW => by first | (go_simp; done) | (go_simp; rfl)⟩) ?_
            simp only [Act.put, List.setIfInBounds_toArray, List.set_cons_zero, List.set_cons_succ]
            refine AnyK.ready [8] (by kernel_rfl) (by simp) ?_
            refine steps_cons ?_ ?_
            · refine StepK.store 0 (i := 8) rfl rfl rfl 24 _ _ rfl rfl rfl rfl (infoW _) rfl (oneW _) ?_
              refine AnyK.ready [9] (by kernel_rfl) (by simp) ?_
              refine steps_cons ?_ ?_
              · refine StepK.store 1 (i := 9) rfl rfl rfl 24 _ _ rfl rfl rfl rfl (infoW _) rfl (oneW _) ?_
                refine AnyK.done (by kernel_rfl) ?_
                intro W hW
                exact ⟨rfl, g6, g7, rfl, hW⟩
              exact steps_nil
            exact steps_nil
          exact steps_nil
        exact steps_nil
      exact steps_nil
    refine steps_cons ?_ ?_
    · refine StepK.alloc (i := 7) (some 22) rfl rfl rfl (fun W => by go_simp; rfl) (fun g7 => ?_)
      simp only [Act.put, List.setIfInBounds_toArray, List.set_cons_zero, List.set_cons_succ]
      refine AnyK.ready [1, 6] (by kernel_rfl) (by simp) ?_
      refine steps_cons ?_ ?_
      · refine StepK.call (i := 1) (some 83) rfl rfl rfl (fun W => by go_simp) O7.out ?_
        simp only [Act.put, List.setIfInBounds_toArray, List.set_cons_zero, List.set_cons_succ]
        refine AnyK.ready [2, 6] (by kernel_rfl) (by simp) ?_
        refine steps_cons ?_ ?_
        · refine StepK.call (i := 2) (some 84) rfl rfl rfl (fun W => by go_simp) X8.out ?_
          simp only [Act.put, List.setIfInBounds_toArray, List.set_cons_zero, List.set_cons_succ]
          refine AnyK.take 3 (some 81) rfl rfl (by kernel_rfl) (by kernel_rfl) (by kernel_rfl) (fun _ _ _ h => nomatch h.1) (v := _) (.inl ⟨by rfl, fun W hW => by first | (go_simp; done) | (go_simp; rfl)⟩) ?_
          simp only [Act.put, List.setIfInBounds_toArray, List.set_cons_zero, List.set_cons_succ]
          refine AnyK.take 4 (some 85) rfl rfl (by kernel_rfl) (by kernel_rfl) (by kernel_rfl) (fun _ _ _ h => nomatch h.1) (v := _) (.inl ⟨by rfl, fun W hW => by first | (go_simp; done) | (go_simp; rfl)⟩) ?_
          simp only [Act.put, List.setIfInBounds_toArray, List.set_cons_zero, List.set_cons_succ]
          refine AnyK.take 5 (some 86) rfl rfl (by kernel_rfl) (by kernel_rfl) (by kernel_rfl) (fun _ _ _ h => nomatch h.1) (v := _) (.inl ⟨by rfl, fun W hW => by first | (go_simp; done) | (go_simp; rfl)⟩) ?_
          simp only [Act.put, List.setIfInBounds_toArray, List.set_cons_zero, List.set_cons_succ]
          refine AnyK.ready [6] (by kernel_rfl) (by simp) ?_
          refine steps_cons ?_ ?_
          · refine StepK.alloc (i := 6) (some 21) rfl rfl rfl (fun W => by go_simp; rfl) (fun g6 => ?_)
            simp only [Act.put, List.setIfInBounds_toArray, List.set_cons_zero, List.set_cons_succ]
            refine AnyK.ready [8] (by kernel_rfl) (by simp) ?_
            refine steps_cons ?_ ?_
            · refine StepK.store 1 (i := 8) rfl rfl rfl 24 _ _ rfl rfl rfl rfl (infoW _) rfl (oneW _) ?_
              refine AnyK.ready [9] (by kernel_rfl) (by simp) ?_
              refine steps_cons ?_ ?_
              · refine StepK.store 0 (i := 9) rfl rfl rfl 24 _ _ rfl rfl rfl rfl (infoW _) rfl (oneW _) ?_
                refine AnyK.done (by kernel_rfl) ?_
                intro W hW
                exact ⟨rfl, g6, g7, rfl, Keeps.swap hW⟩
              exact steps_nil
            exact steps_nil
          exact steps_nil
        refine steps_cons ?_ ?_
        · refine StepK.alloc (i := 6) (some 21) rfl rfl rfl (fun W => by go_simp; rfl) (fun g6 => ?_)
          simp only [Act.put, List.setIfInBounds_toArray, List.set_cons_zero, List.set_cons_succ]
          refine AnyK.ready [2] (by kernel_rfl) (by simp) ?_
          refine steps_cons ?_ ?_
          · refine StepK.call (i := 2) (some 84) rfl rfl rfl (fun W => by go_simp) X8.out ?_
            simp only [Act.put, List.setIfInBounds_toArray, List.set_cons_zero, List.set_cons_succ]
            refine AnyK.take 3 (some 81) rfl rfl (by kernel_rfl) (by kernel_rfl) (by kernel_rfl) (fun _ _ _ h => nomatch h.1) (v := _) (.inl ⟨by rfl, fun W hW => by first | (go_simp; done) | (go_simp; rfl)⟩) ?_
            simp only [Act.put, List.setIfInBounds_toArray, List.set_cons_zero, List.set_cons_succ]
            refine AnyK.take 4 (some 85) rfl rfl (by kernel_rfl) (by kernel_rfl) (by kernel_rfl) (fun _ _ _ h => nomatch h.1) (v := _) (.inl ⟨by rfl, fun W hW => by first | (go_simp; done) | (go_simp; rfl)⟩) ?_
            simp only [Act.put, List.setIfInBounds_toArray, List.set_cons_zero, List.set_cons_succ]
            refine AnyK.take 5 (some 86) rfl rfl (by kernel_rfl) (by kernel_rfl) (by kernel_rfl) (fun _ _ _ h => nomatch h.1) (v := _) (.inl ⟨by rfl, fun W hW => by first | (go_simp; done) | (go_simp; rfl)⟩) ?_
            simp only [Act.put, List.setIfInBounds_toArray, List.set_cons_zero, List.set_cons_succ]
            refine AnyK.ready [8] (by kernel_rfl) (by simp) ?_
            refine steps_cons ?_ ?_
            · refine StepK.store 1 (i := 8) rfl rfl rfl 24 _ _ rfl rfl rfl rfl (infoW _) rfl (oneW _) ?_
              refine AnyK.ready [9] (by kernel_rfl) (by simp) ?_
              refine steps_cons ?_ ?_
              · refine StepK.store 0 (i := 9) rfl rfl rfl 24 _ _ rfl rfl rfl rfl (infoW _) rfl (oneW _) ?_
                refine AnyK.done (by kernel_rfl) ?_
                intro W hW
                exact ⟨rfl, g6, g7, rfl, Keeps.swap hW⟩
              exact steps_nil
            exact steps_nil
          exact steps_nil
        exact steps_nil
      refine steps_cons ?_ ?_
      · refine StepK.alloc (i := 6) (some 21) rfl rfl rfl (fun W => by go_simp; rfl) (fun g6 => ?_)
        simp only [Act.put, List.setIfInBounds_toArray, List.set_cons_zero, List.set_cons_succ]
        refine AnyK.ready [1] (by kernel_rfl) (by simp) ?_
        refine steps_cons ?_ ?_
        · refine StepK.call (i := 1) (some 83) rfl rfl rfl (fun W => by go_simp) O7.out ?_
          simp only [Act.put, List.setIfInBounds_toArray, List.set_cons_zero, List.set_cons_succ]
          refine AnyK.ready [2] (by kernel_rfl) (by simp) ?_
          refine steps_cons ?_ ?_
          · refine StepK.call (i := 2) (some 84) rfl rfl rfl (fun W => by go_simp) X8.out ?_
            simp only [Act.put, List.setIfInBounds_toArray, List.set_cons_zero, List.set_cons_succ]
            refine AnyK.take 3 (some 81) rfl rfl (by kernel_rfl) (by kernel_rfl) (by kernel_rfl) (fun _ _ _ h => nomatch h.1) (v := _) (.inl ⟨by rfl, fun W hW => by first | (go_simp; done) | (go_simp; rfl)⟩) ?_
            simp only [Act.put, List.setIfInBounds_toArray, List.set_cons_zero, List.set_cons_succ]
            refine AnyK.take 4 (some 85) rfl rfl (by kernel_rfl) (by kernel_rfl) (by kernel_rfl) (fun _ _ _ h => nomatch h.1) (v := _) (.inl ⟨by rfl, fun W hW => by first | (go_simp; done) | (go_simp; rfl)⟩) ?_
            simp only [Act.put, List.setIfInBounds_toArray, List.set_cons_zero, List.set_cons_succ]
            refine AnyK.take 5 (some 86) rfl rfl (by kernel_rfl) (by kernel_rfl) (by kernel_rfl) (fun _ _ _ h => nomatch h.1) (v := _) (.inl ⟨by rfl, fun W hW => by first | (go_simp; done) | (go_simp; rfl)⟩) ?_
            simp only [Act.put, List.setIfInBounds_toArray, List.set_cons_zero, List.set_cons_succ]
            refine AnyK.ready [8] (by kernel_rfl) (by simp) ?_
            refine steps_cons ?_ ?_
            · refine StepK.store 1 (i := 8) rfl rfl rfl 24 _ _ rfl rfl rfl rfl (infoW _) rfl (oneW _) ?_
              refine AnyK.ready [9] (by kernel_rfl) (by simp) ?_
              refine steps_cons ?_ ?_
              · refine StepK.store 0 (i := 9) rfl rfl rfl 24 _ _ rfl rfl rfl rfl (infoW _) rfl (oneW _) ?_
                refine AnyK.done (by kernel_rfl) ?_
                intro W hW
                exact ⟨rfl, g6, g7, rfl, Keeps.swap hW⟩
              exact steps_nil
            exact steps_nil
          exact steps_nil
        exact steps_nil
      exact steps_nil
    exact steps_nil
  clear hH
  rintro g h W1 hH
  simp only [List.nil_append, List.cons_append, List.set_cons_zero, List.set_cons_succ] at hH
  go_wp2_with (first | (go_at_call 30; with_reducible refine (X9.out _).mono ?_; rintro e W1 ⟨rfl, hB⟩; replace hH := hH.call hB; clear hB) | (have _t := tk20; refine wpList_boxg hH 0 24 _ rfl rfl rfl _ Try.underlying24 rfl (infoW _) (by rfl) ?_; clear _t tk20; have tk21 : True := trivial) | (have _t := tk21; refine wpList_fill2 hH rfl 24 _ _ rfl rfl rfl (infoW _) rfl (oneW _) ?_; clear _t tk21 hH; have tk22 : True := trivial; intro W1 hH) | (have _t := tk22; refine wpList_put hH 16 rfl 24 _ _ rfl rfl rfl rfl (infoW _) rfl (oneW _) ?_; clear _t tk22 hH; have tk23 : True := trivial; intro W1 hH) | (have _t := tk23; refine wpList_fill hH rfl 24 _ _ rfl rfl rfl infoZ rfl oneZ ?_; clear _t tk23 hH; have tk24 : True := trivial; intro W1 hH) | (have _t := tk24; refine wpList_boxg hH 3 24 _ rfl rfl rfl _ Try.underlying24 rfl (infoW _) (by rfl) ?_; clear _t tk24; have tk25 : True := trivial) | (have _t := tk25; refine wpList_boxg hH 5 24 _ rfl rfl rfl _ Try.underlying24 rfl (infoW _) (by rfl) ?_; clear _t tk25; have tk26 : True := trivial) | (have _t := tk26; refine wpList_boxg hH 4 24 _ rfl rfl rfl _ Try.underlying24 rfl (infoW _) (by rfl) ?_; clear _t tk26; have tk27 : True := trivial) | (have _t := tk27; refine wpList_boxg hH 17 24 _ rfl rfl rfl _ Try.underlying24 rfl infoZ (by rfl) ?_; clear _t tk27; have tk28 : True := trivial) | (have _t := tk28; refine wpList_boxg hH 6 24 _ rfl rfl rfl _ Try.underlying24 rfl (infoW _) (by rfl) ?_; clear _t tk28; have tk29 : True := trivial) | (have _t := tk29; refine wpList_boxg hH 17 24 _ rfl rfl rfl _ Try.underlying24 rfl infoZ (by rfl) ?_; clear _t tk29; have tk30 : True := trivial) | (have _t := tk30; refine wpList_boxg hH 9 24 _ rfl rfl rfl _ Try.underlying24 rfl (infoW _) (by rfl) ?_; clear _t tk30; have tk31 : True := trivial) | (have _t := tk31; refine wpList_boxg hH 17 24 _ rfl rfl rfl _ Try.underlying24 rfl infoZ (by rfl) ?_; clear _t tk31; have tk32 : True := trivial) | (have _t := tk32; refine wpList_boxg hH 11 24 _ rfl rfl rfl _ Try.underlying24 rfl (infoW _) (by rfl) ?_; clear _t tk32; have tk33 : True := trivial) | (have _t := tk33; refine wpList_boxg hH 17 24 _ rfl rfl rfl _ Try.underlying24 rfl infoZ (by rfl) ?_; clear _t tk33; have tk34 : True := trivial) | (have _t := tk34; refine wpList_boxg hH 8 24 _ rfl rfl rfl _ Try.underlying24 rfl (infoW _) (by rfl) ?_; clear _t tk34; have tk35 : True := trivial) | (have _t := tk35; refine wpList_boxg hH 12 24 _ rfl rfl rfl _ Try.underlying24 rfl (infoW _) (by rfl) ?_; clear _t tk35; have tk36 : True := trivial) | (have _t := tk36; refine wpList_boxg hH 13 24 _ rfl rfl rfl _ Try.underlying24 rfl (infoW _) (by rfl) ?_; clear _t tk36; have tk37 : True := trivial) | (have _t := tk37; refine wpList_boxg hH 0 24 _ rfl rfl rfl _ Try.underlying24 rfl (infoW _) (by rfl) ?_; clear _t tk37; have tk38 : True := trivial) | (have _t := tk38; refine wpList_boxg hH 14 24 _ rfl rfl rfl _ Try.underlying24 rfl (infoW _) (by rfl) ?_; clear _t tk38; have tk39 : True := trivial) | (have _t := tk39; refine wpList_boxg hH 17 24 _ rfl rfl rfl _ Try.underlying24 rfl infoZ (by rfl) ?_; clear _t tk39; have tk40 : True := trivial) | (have _t := tk40; refine wpList_boxg hH 15 24 _ rfl rfl rfl _ Try.underlying24 rfl (infoW _) (by rfl) ?_; clear _t tk40; have tk41 : True := trivial) | (have _t := tk41; refine wpList_boxg hH 17 24 _ rfl rfl rfl _ Try.underlying24 rfl infoZ (by rfl) ?_; clear _t tk41; have tk42 : True := trivial) | (have _t := tk42; refine wpList_boxg hH 16 24 _ rfl rfl rfl _ Try.underlying24 rfl (infoW _) (by rfl) ?_; clear _t tk42; have tk43 : True := trivial) | (have _t := tk43; refine wpList_boxg hH 17 24 _ rfl rfl rfl _ Try.underlying24 rfl infoZ (by rfl) ?_; clear _t tk43; have tk44 : True := trivial))
  go_ret
  exact ⟨rfl, hH.bel⟩

end Go.Proofs.Ytihmpcdbeapkhaa
