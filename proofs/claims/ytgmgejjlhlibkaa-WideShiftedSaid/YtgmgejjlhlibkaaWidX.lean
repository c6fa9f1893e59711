/- The walks of WideShifted: it returns true, and leaves what was there. -/
import Derived.Test.YtgmgejjlhlibkaaWidT
import Derived.BigQuiet
namespace Go.Proofs.Ytgmgejjlhlibkaa
set_option linter.unusedVariables false
open Go.RowKit

theorem quiet_skip {P : Program} {ops : Array Oper} {C : World → Prop} {Q : Act → Prop} {a : Act} {o : Oper} {rest : List Oper} (hw : Region.wanted o (yielded ops a.tmps) = false) (h : wpQuiet P ops C Q rest (a.put o.dst undef)) : wpQuiet P ops C Q (o :: rest) a := by
  unfold wpQuiet
  rw [if_neg (by simp [hw])]
  exact h
theorem keeps1 (w : World) (A : Array Value) (t : TypeId) : Keeps w [(w.heap.size, A, t)] (w.alloc (.cells A t)) := by
  have h := (Keeps.nil w).new A t
  simp only [List.nil_append] at h
  exact h
set_option maxRecDepth 100000 in
set_option maxHeartbeats 8000000 in
theorem shifted_far (a k pw l hi r s m half : Nat) (lr la c : Int) (w : World)
    (CV : Hid (∀ w, Calls Try.prog 42 #[] w fun e w' => e = .returned (.bool true) ∧ Below w.heap.size w w'))
    (O1 : Hid (∀ w, Calls Try.prog 16 #[.int .u64 1] w fun e w' => e = .returned (.agg (wcells 1)) ∧ Below w.heap.size w w'))
    (P2 : Hid (∀ w, Calls Try.prog 32 #[.agg (wcells 1), .int .i64 (k : Int)] w fun e w' => e = .returned (.agg (wcells pw)) ∧ Below w.heap.size w w'))
    (X3 : Hid (∀ w, Calls Try.prog 30 #[.agg (wcells a), .agg (wcells pw)] w fun e w' => e = .returned (.tuple #[.agg (wcells l), .agg (wcells hi)]) ∧ Below w.heap.size w w'))
    (D4 : Hid (∀ w, Calls Try.prog 38 #[.agg (wcells a), .agg (wcells pw)] w fun e w' => e = .returned (.tuple #[.agg (wcells r), .agg (wcells s), .int .i64 0]) ∧ Below w.heap.size w w'))
    (L5 : Hid (∀ w, Calls Try.prog 32 #[.agg (wcells a), .int .i64 (k : Int)] w fun e w' => e = .returned (.agg (wcells l)) ∧ Below w.heap.size w w'))
    (R6 : Hid (∀ w, Calls Try.prog 34 #[.agg (wcells a), .int .i64 (k : Int)] w fun e w' => e = .returned (.agg (wcells r)) ∧ Below w.heap.size w w'))
    (N7 : Hid (∀ w, Calls Try.prog 22 #[.agg (wcells pw)] w fun e w' => e = .returned (.int .i64 ((k : Int) + 1)) ∧ Below w.heap.size w w'))
    (N8 : Hid (∀ w, Calls Try.prog 22 #[.agg (wcells r)] w fun e w' => e = .returned (.int .i64 lr) ∧ Below w.heap.size w w'))
    (N9 : Hid (∀ w, Calls Try.prog 22 #[.agg (wcells a)] w fun e w' => e = .returned (.int .i64 la) ∧ Below w.heap.size w w'))
    (L10 : Hid (∀ w, Calls Try.prog 32 #[.agg (wcells a), .int .i64 ((k : Int) / 2)] w fun e w' => e = .returned (.agg (wcells m)) ∧ Below w.heap.size w w'))
    (R11 : Hid (∀ w, Calls Try.prog 34 #[.agg (wcells m), .int .i64 ((k : Int) / 2)] w fun e w' => e = .returned (.agg (wcells half)) ∧ Below w.heap.size w w'))
    (K12 : Hid (∀ w, Calls Try.prog 24 #[.agg (wcells half), .agg (wcells a)] w fun e w' => e = .returned (.int .i64 c) ∧ Below w.heap.size w w'))
    (L13 : Hid (∀ w, Calls Try.prog 32 #[.agg (wcells m), .int .i64 ((k : Int) - (k : Int) / 2)] w fun e w' => e = .returned (.agg (wcells l)) ∧ Below w.heap.size w w'))
    (hk : k < 256) (hla : 0 ≤ la) (hla2 : la ≤ 256) (hlr : lr = max 0 (la - (k : Int))) (hc : c ≤ 0)
    (hfar : 256 < la + (k : Int)) :
    Calls Try.prog 10 #[.agg (wcells a), .int .u8 (k : Int)] w fun e w' => e = .returned (.bool true) ∧ Below w.heap.size w w' := by
  have hE := eqW
  have hH := keeps1 w (wcells a) 24
  have hk2 : (k : Int) / 2 ≤ k := by omega
  have HLR := Lib.hid hlr
  clear hlr
  go_enter Try.func10, Try.ntmps10
  go_wp2_with fail
  generalize w.alloc (.cells (wcells a) 24) = W0 at *
  have tk0 : True := trivial
  go_wp2_with (first | (go_at_call 42; with_reducible refine (CV.out _).mono ?_; rintro e W1 ⟨rfl, hB⟩; replace hH := hH.call hB; clear hB) | (go_at_call 16; with_reducible refine (O1.out _).mono ?_; rintro e W1 ⟨rfl, hB⟩; replace hH := hH.call hB; clear hB) | (go_at_call 32; with_reducible refine (P2.out _).mono ?_; rintro e W1 ⟨rfl, hB⟩; replace hH := hH.call hB; clear hB) | (go_at_call 30; with_reducible refine (X3.out _).mono ?_; rintro e W1 ⟨rfl, hB⟩; replace hH := hH.call hB; clear hB) | (go_at_call 38; with_reducible refine (D4.out _).mono ?_; rintro e W1 ⟨rfl, hB⟩; replace hH := hH.call hB; clear hB) | (go_at_call 32; with_reducible refine (L5.out _).mono ?_; rintro e W1 ⟨rfl, hB⟩; replace hH := hH.call hB; clear hB) | (go_at_call 34; with_reducible refine (R6.out _).mono ?_; rintro e W1 ⟨rfl, hB⟩; replace hH := hH.call hB; clear hB) | (go_at_call 22; with_reducible refine (N7.out _).mono ?_; rintro e W1 ⟨rfl, hB⟩; replace hH := hH.call hB; clear hB) | (go_at_call 22; with_reducible refine (N8.out _).mono ?_; rintro e W1 ⟨rfl, hB⟩; replace hH := hH.call hB; clear hB) | (go_at_call 22; with_reducible refine (N9.out _).mono ?_; rintro e W1 ⟨rfl, hB⟩; replace hH := hH.call hB; clear hB) | (go_at_call 32; with_reducible refine (L10.out _).mono ?_; rintro e W1 ⟨rfl, hB⟩; replace hH := hH.call hB; clear hB) | (go_at_call 34; with_reducible refine (R11.out _).mono ?_; rintro e W1 ⟨rfl, hB⟩; replace hH := hH.call hB; clear hB) | (go_at_call 24; with_reducible refine (K12.out _).mono ?_; rintro e W1 ⟨rfl, hB⟩; replace hH := hH.call hB; clear hB) | (go_at_call 32; with_reducible refine (L13.out _).mono ?_; rintro e W1 ⟨rfl, hB⟩; replace hH := hH.call hB; clear hB) | (have _t := tk0; refine wpList_fill hH rfl 24 _ _ rfl rfl rfl (infoW _) rfl (oneW _) ?_; clear _t tk0 hH; have tk1 : True := trivial; intro W1 hH) | (have _t := tk1; refine wpList_boxg hH 0 24 _ rfl rfl rfl _ Try.underlying24 rfl (infoW _) (by rfl) ?_; clear _t tk1; have tk2 : True := trivial) | (have _t := tk2; refine wpList_boxg hH 1 24 _ rfl rfl rfl _ Try.underlying24 rfl (infoW _) (by rfl) ?_; clear _t tk2; have tk3 : True := trivial) | (have _t := tk3; refine wpList_fill2 hH rfl 24 _ _ rfl rfl rfl (infoW _) rfl (oneW _) ?_; clear _t tk3 hH; have tk4 : True := trivial; intro W1 hH) | (have _t := tk4; refine wpList_put hH 3 rfl 24 _ _ rfl rfl rfl rfl (infoW _) rfl (oneW _) ?_; clear _t tk4 hH; have tk5 : True := trivial; intro W1 hH) | (have _t := tk5; refine wpList_boxg hH 0 24 _ rfl rfl rfl _ Try.underlying24 rfl (infoW _) (by rfl) ?_; clear _t tk5; have tk6 : True := trivial) | (have _t := tk6; refine wpList_boxg hH 1 24 _ rfl rfl rfl _ Try.underlying24 rfl (infoW _) (by rfl) ?_; clear _t tk6; have tk7 : True := trivial) | (have _t := tk7; refine wpList_fill2 hH rfl 24 _ _ rfl rfl rfl (infoW _) rfl (oneW _) ?_; clear _t tk7 hH; have tk8 : True := trivial; intro W1 hH) | (have _t := tk8; refine wpList_put hH 5 rfl 24 _ _ rfl rfl rfl rfl (infoW _) rfl (oneW _) ?_; clear _t tk8 hH; have tk9 : True := trivial; intro W1 hH))
  apply wp_boxes2 (W0 := w)
  case hreg =>
    refine AnyK.start 10 rfl (by kernel_rfl) hH ?_
    refine AnyK.take 0 (some 35) rfl rfl (by kernel_rfl) (by kernel_rfl) (by kernel_rfl) (fun _ _ _ h => nomatch h.1) (yieldsIf_box 0 rfl 24 _ rfl rfl rfl _ Try.underlying24 rfl (infoW _)) ?_
    simp only [Act.put, List.setIfInBounds_toArray, List.set_cons_zero, List.set_cons_succ]
    refine AnyK.take 1 (some 36) rfl rfl (by kernel_rfl) (by kernel_rfl) (by kernel_rfl) (fun _ _ _ h => nomatch h.1) (v := _) (.inl ⟨by rfl, fun W hW => by first | (go_simp; done) | (go_simp; rfl)⟩) ?_
    simp only [Act.put, List.setIfInBounds_toArray, List.set_cons_zero, List.set_cons_succ]
    refine AnyK.take 3 (some 38) rfl rfl (by kernel_rfl) (by kernel_rfl) (by kernel_rfl) (fun _ _ _ h => nomatch h.1) (yieldsIf_box 0 rfl 24 _ rfl rfl rfl _ Try.underlying24 rfl (infoW _)) ?_
    simp only [Act.put, List.setIfInBounds_toArray, List.set_cons_zero, List.set_cons_succ]
    refine AnyK.take 4 (some 39) rfl rfl (by kernel_rfl) (by kernel_rfl) (by kernel_rfl) (fun _ _ _ h => nomatch h.1) (v := _) (.inl ⟨by rfl, fun W hW => by first | (go_simp; done) | (go_simp; rfl)⟩) ?_
    simp only [Act.put, List.setIfInBounds_toArray, List.set_cons_zero, List.set_cons_succ]
    refine AnyK.ready [2, 6, 7] (by kernel_rfl) (by simp) ?_
    refine steps_cons ?_ ?_
    · refine StepK.call (i := 2) (some 37) rfl rfl rfl (fun W => by go_simp) L5.out ?_
      simp only [Act.put, List.setIfInBounds_toArray, List.set_cons_zero, List.set_cons_succ]
      refine AnyK.ready [5, 6, 7] (by kernel_rfl) (by simp) ?_
      refine steps_cons ?_ ?_
      · refine StepK.call (i := 5) (some 40) rfl rfl rfl (fun W => by go_simp) R6.out ?_
        simp only [Act.put, List.setIfInBounds_toArray, List.set_cons_zero, List.set_cons_succ]
        refine AnyK.ready [6, 7] (by kernel_rfl) (by simp) ?_
        refine steps_cons ?_ ?_
        · refine StepK.alloc (i := 6) (some 13) rfl rfl rfl (fun W => by go_simp; rfl) (fun g6 => ?_)
          simp only [Act.put, List.setIfInBounds_toArray, List.set_cons_zero, List.set_cons_succ]
          refine AnyK.ready [7] (by kernel_rfl) (by simp) ?_
          refine steps_cons ?_ ?_
          · refine StepK.alloc (i := 7) (some 14) rfl rfl rfl (fun W => by go_simp; rfl) (fun g7 => ?_)
            simp only [Act.put, List.setIfInBounds_toArray, List.set_cons_zero, List.set_cons_succ]
            refine AnyK.ready [8] (by kernel_rfl) (by simp) ?_
            refine steps_cons ?_ ?_
            · refine StepK.store 0 (i := 8) rfl rfl rfl 24 _ _ rfl rfl rfl rfl (infoW _) rfl (oneW _) ?_
              refine AnyK.ready [9] (by kernel_rfl) (by simp) ?_
              refine steps_cons ?_ ?_
              · refine StepK.store 1 (i := 9) rfl rfl rfl 24 _ _ rfl rfl rfl rfl (infoW _) rfl (oneW _) ?_
                refine AnyK.done (by kernel_rfl) ?_
                intro W hW
                exact ⟨rfl, g6, g7, rfl, hW⟩
              exact steps_nil
            exact steps_nil
          exact steps_nil
        refine steps_cons ?_ ?_
        · refine StepK.alloc (i := 7) (some 14) rfl rfl rfl (fun W => by go_simp; rfl) (fun g7 => ?_)
          simp only [Act.put, List.setIfInBounds_toArray, List.set_cons_zero, List.set_cons_succ]
          refine AnyK.ready [6] (by kernel_rfl) (by simp) ?_
          refine steps_cons ?_ ?_
          · refine StepK.alloc (i := 6) (some 13) rfl rfl rfl (fun W => by go_simp; rfl) (fun g6 => ?_)
            simp only [Act.put, List.setIfInBounds_toArray, List.set_cons_zero, List.set_cons_succ]
            refine AnyK.ready [8] (by kernel_rfl) (by simp) ?_
            refine steps_cons ?_ ?_
            · refine StepK.store 1 (i := 8) rfl rfl rfl 24 _ _ rfl rfl rfl rfl (infoW _) rfl (oneW _) ?_
              refine AnyK.ready [9] (by kernel_rfl) (by simp) ?_
              refine steps_cons ?_ ?_
              · refine StepK.store 0 (i := 9) rfl rfl rfl 24 _ _ rfl rfl rfl rfl (infoW _) rfl (oneW _) ?_
                refine AnyK.done (by kernel_rfl) ?_
                intro W hW
                exact ⟨rfl, g6, g7, rfl, Keeps.swap hW⟩
              exact steps_nil
            exact steps_nil
          exact steps_nil
        exact steps_nil
      refine steps_cons ?_ ?_
      · refine StepK.alloc (i := 6) (some 13) rfl rfl rfl (fun W => by go_simp; rfl) (fun g6 => ?_)
        simp only [Act.put, List.setIfInBounds_toArray, List.set_cons_zero, List.set_cons_succ]
        refine AnyK.ready [5, 7] (by kernel_rfl) (by simp) ?_
        refine steps_cons ?_ ?_
        · refine StepK.call (i := 5) (some 40) rfl rfl rfl (fun W => by go_simp) R6.out ?_
          simp only [Act.put, List.setIfInBounds_toArray, List.set_cons_zero, List.set_cons_succ]
          refine AnyK.ready [7] (by kernel_rfl) (by simp) ?_
          refine steps_cons ?_ ?_
          · refine StepK.alloc (i := 7) (some 14) rfl rfl rfl (fun W => by go_simp; rfl) (fun g7 => ?_)
            simp only [Act.put, List.setIfInBounds_toArray, List.set_cons_zero, List.set_cons_succ]
            refine AnyK.ready [8] (by kernel_rfl) (by simp) ?_
            refine steps_cons ?_ ?_
            · refine StepK.store 0 (i := 8) rfl rfl rfl 24 _ _ rfl rfl rfl rfl (infoW _) rfl (oneW _) ?_
              refine AnyK.ready [9] (by kernel_rfl) (by simp) ?_
              refine steps_cons ?_ ?_
              · refine StepK.store 1 (i := 9) rfl rfl rfl 24 _ _ rfl rfl rfl rfl (infoW _) rfl (oneW _) ?_
                refine AnyK.done (by kernel_rfl) ?_
                intro W hW
                exact ⟨rfl, g6, g7, rfl, hW⟩
              exact steps_nil
            exact steps_nil
          exact steps_nil
        refine steps_cons ?_ ?_
        · refine StepK.alloc (i := 7) (some 14) rfl rfl rfl (fun W => by go_simp; rfl) (fun g7 => ?_)
          simp only [Act.put, List.setIfInBounds_toArray, List.set_cons_zero, List.set_cons_succ]
          refine AnyK.ready [5] (by kernel_rfl) (by simp) ?_
          refine steps_cons ?_ ?_
          · refine StepK.call (i := 5) (some 40) rfl rfl rfl (fun W => by go_simp) R6.out ?_
            simp only [Act.put, List.setIfInBounds_toArray, List.set_cons_zero, List.set_cons_succ]
            refine AnyK.ready [8] (by kernel_rfl) (by simp) ?_
            refine steps_cons ?_ ?_
            · refine StepK.store 0 (i := 8) rfl rfl rfl 24 _ _ rfl rfl rfl rfl (infoW _) rfl (oneW _) ?_
              refine AnyK.ready [9] (by kernel_rfl) (by simp) ?_
              refine steps_cons ?_ ?_
              · refine StepK.store 1 (i := 9) rfl rfl rfl 24 _ _ rfl rfl rfl rfl (infoW _) rfl (oneW _) ?_
                refine AnyK.done (by kernel_rfl) ?_
                intro W hW
                exact ⟨rfl, g6, g7, rfl, hW⟩
              exact steps_nil
            exact steps_nil
          exact steps_nil
        exact steps_nil
      refine steps_cons ?_ ?_
      · refine StepK.alloc (i := 7) (some 14) rfl rfl rfl (fun W => by go_simp; rfl) (fun g7 => ?_)
        simp only [Act.put, List.setIfInBounds_toArray, List.set_cons_zero, List.set_cons_succ]
        refine AnyK.ready [5, 6] (by kernel_rfl) (by simp) ?_
        refine steps_cons ?_ ?_
        · refine StepK.call (i := 5) (some 40) rfl rfl rfl (fun W => by go_simp) R6.out ?_
          simp only [Act.put, List.setIfInBounds_toArray, List.set_cons_zero, List.set_cons_succ]
          refine AnyK.ready [6] (by kernel_rfl) (by simp) ?_
          refine steps_cons ?_ ?_
          · refine StepK.alloc (i := 6) (some 13) rfl rfl rfl (fun W => by go_simp; rfl) (fun g6 => ?_)
            simp only [Act.put, List.setIfInBounds_toArray, List.set_cons_zero, List.set_cons_succ]
            refine AnyK.ready [8] (by kernel_rfl) (by simp) ?_
            refine steps_cons ?_ ?_
            · refine StepK.store 1 (i := 8) rfl rfl rfl 24 _ _ rfl rfl rfl rfl (infoW _) rfl (oneW _) ?_
              refine AnyK.ready [9] (by kernel_rfl) (by simp) ?_
              refine steps_cons ?_ ?_
              · refine StepK.store 0 (i := 9) rfl rfl rfl 24 _ _ rfl rfl rfl rfl (infoW _) rfl (oneW _) ?_
                refine AnyK.done (by kernel_rfl) ?_
                intro W hW
                exact ⟨rfl, g6, g7, rfl, Keeps.swap hW⟩
              exact steps_nil
            exact steps_nil
          exact steps_nil
        refine steps_cons ?_ ?_
        · refine StepK.alloc (i := 6) (some 13) rfl rfl rfl (fun W => by go_simp; rfl) (fun g6 => ?_)
          simp only [Act.put, List.setIfInBounds_toArray, List.set_cons_zero, List.set_cons_succ]
          refine AnyK.ready [5] (by kernel_rfl) (by simp) ?_
          refine steps_cons ?_ ?_
          · refine StepK.call (i := 5) (some 40) rfl rfl rfl (fun W => by go_simp) R6.out ?_
            simp only [Act.put, List.setIfInBounds_toArray, List.set_cons_zero, List.set_cons_succ]
            refine AnyK.ready [8] (by kernel_rfl) (by simp) ?_
            refine steps_cons ?_ ?_
            · refine StepK.store 1 (i := 8) rfl rfl rfl 24 _ _ rfl rfl rfl rfl (infoW _) rfl (oneW _) ?_
              refine AnyK.ready [9] (by kernel_rfl) (by simp) ?_
              refine steps_cons ?_ ?_
              · refine StepK.store 0 (i := 9) rfl rfl rfl 24 _ _ rfl rfl rfl rfl (infoW _) rfl (oneW _) ?_
                refine AnyK.done (by kernel_rfl) ?_
                intro W hW
                exact ⟨rfl, g6, g7, rfl, Keeps.swap hW⟩
              exact steps_nil
            exact steps_nil
          exact steps_nil
        exact steps_nil
      exact steps_nil
    refine steps_cons ?_ ?_
    · refine StepK.alloc (i := 6) (some 13) rfl rfl rfl (fun W => by go_simp; rfl) (fun g6 => ?_)
      simp only [Act.put, List.setIfInBounds_toArray, List.set_cons_zero, List.set_cons_succ]
      refine AnyK.ready [2, 7] (by kernel_rfl) (by simp) ?_
      refine steps_cons ?_ ?_
      · refine StepK.call (i := 2) (some 37) rfl rfl rfl (fun W => by go_simp) L5.out ?_
        simp only [Act.put, List.setIfInBounds_toArray, List.set_cons_zero, List.set_cons_succ]
        refine AnyK.ready [5, 7] (by kernel_rfl) (by simp) ?_
        refine steps_cons ?_ ?_
        · refine StepK.call (i := 5) (some 40) rfl rfl rfl (fun W => by go_simp) R6.out ?_
          simp only [Act.put, List.setIfInBounds_toArray, List.set_cons_zero, List.set_cons_succ]
          refine AnyK.ready [7] (by kernel_rfl) (by simp) ?_
          refine steps_cons ?_ ?_
          · refine StepK.alloc (i := 7) (some 14) rfl rfl rfl (fun W => by go_simp; rfl) (fun g7 => ?_)
            simp only [Act.put, List.setIfInBounds_toArray, List.set_cons_zero, List.set_cons_succ]
            refine AnyK.ready [8] (by kernel_rfl) (by simp) ?_
            refine steps_cons ?_ ?_
            · refine StepK.store 0 (i := 8) rfl rfl rfl 24 _ _ rfl rfl rfl rfl (infoW _) rfl (oneW _) ?_
              refine AnyK.ready [9] (by kernel_rfl) (by simp) ?_
              refine steps_cons ?_ ?_
              · refine StepK.store 1 (i := 9) rfl rfl rfl 24 _ _ rfl rfl rfl rfl (infoW _) rfl (oneW _) ?_
                refine AnyK.done (by kernel_rfl) ?_
                intro W hW
                exact ⟨rfl, g6, g7, rfl, hW⟩
              exact steps_nil
            exact steps_nil
          exact steps_nil
        refine steps_cons ?_ ?_
        · refine StepK.alloc (i := 7) (some 14) rfl rfl rfl (fun W => by go_simp; rfl) (fun g7 => ?_)
          simp only [Act.put, List.setIfInBounds_toArray, List.set_cons_zero, List.set_cons_succ]
          refine AnyK.ready [5] (by kernel_rfl) (by simp) ?_
          refine steps_cons ?_ ?_
          · refine StepK.call (i := 5) (some 40) rfl rfl rfl (fun W => by go_simp) R6.out ?_
            simp only [Act.put, List.setIfInBounds_toArray, List.set_cons_zero, List.set_cons_succ]
            refine AnyK.ready [8] (by kernel_rfl) (by simp) ?_
            refine steps_cons ?_ ?_
            · refine StepK.store 0 (i := 8) rfl rfl rfl 24 _ _ rfl rfl rfl rfl (infoW _) rfl (oneW _) ?_
              refine AnyK.ready [9] (by kernel_rfl) (by simp) ?_
              refine steps_cons ?_ ?_
              · refine StepK.store 1 (i := 9) rfl rfl rfl 24 _ _ rfl rfl rfl rfl (infoW _) rfl (oneW _) ?_
                refine AnyK.done (by kernel_rfl) ?_
                intro W hW
                exact ⟨rfl, g6, g7, rfl, hW⟩
              exact steps_nil
            exact steps_nil
          exact steps_nil
        exact steps_nil
      refine steps_cons ?_ ?_
      · refine StepK.alloc (i := 7) (some 14) rfl rfl rfl (fun W => by go_simp; rfl) (fun g7 => ?_)
        simp only [Act.put, List.setIfInBounds_toArray, List.set_cons_zero, List.set_cons_succ]
        refine AnyK.ready [2] (by kernel_rfl) (by simp) ?_
        refine steps_cons ?_ ?_
        · refine StepK.call (i := 2) (some 37) rfl rfl rfl (fun W => by go_simp) L5.out ?_
          simp only [Act.put, List.setIfInBounds_toArray, List.set_cons_zero, List.set_cons_succ]
          refine AnyK.ready [5] (by kernel_rfl) (by simp) ?_
          refine steps_cons ?_ ?_
          · refine StepK.call (i := 5) (some 40) rfl rfl rfl (fun W => by go_simp) R6.out ?_
            simp only [Act.put, List.setIfInBounds_toArray, List.set_cons_zero, List.set_cons_succ]
            refine AnyK.ready [8] (by kernel_rfl) (by simp) ?_
            refine steps_cons ?_ ?_
            · refine StepK.store 0 (i := 8) rfl rfl rfl 24 _ _ rfl rfl rfl rfl (infoW _) rfl (oneW _) ?_
              refine AnyK.ready [9] (by kernel_rfl) (by simp) ?_
              refine steps_cons ?_ ?_
              · refine StepK.store 1 (i := 9) rfl rfl rfl 24 _ _ rfl rfl rfl rfl (infoW _) rfl (oneW _) ?_
                refine AnyK.done (by kernel_rfl) ?_
                intro W hW
                exact ⟨rfl, g6, g7, rfl, hW⟩
              exact steps_nil
            exact steps_nil
          exact steps_nil
        exact steps_nil
      exact steps_nil
    refine steps_cons ?_ ?_
    · refine StepK.alloc (i := 7) (some 14) rfl rfl rfl (fun W => by go_simp; rfl) (fun g7 => ?_)
      simp only [Act.put, List.setIfInBounds_toArray, List.set_cons_zero, List.set_cons_succ]
      refine AnyK.ready [2, 6] (by kernel_rfl) (by simp) ?_
      refine steps_cons ?_ ?_
      · refine StepK.call (i := 2) (some 37) rfl rfl rfl (fun W => by go_simp) L5.out ?_
        simp only [Act.put, List.setIfInBounds_toArray, List.set_cons_zero, List.set_cons_succ]
        refine AnyK.ready [5, 6] (by kernel_rfl) (by simp) ?_
        refine steps_cons ?_ ?_
        · refine StepK.call (i := 5) (some 40) rfl rfl rfl (fun W => by go_simp) R6.out ?_
          simp only [Act.put, List.setIfInBounds_toArray, List.set_cons_zero, List.set_cons_succ]
          refine AnyK.ready [6] (by kernel_rfl) (by simp) ?_
          refine steps_cons ?_ ?_
          · refine StepK.alloc (i := 6) (some 13) rfl rfl rfl (fun W => by go_simp; rfl) (fun g6 => ?_)
            simp only [Act.put, List.setIfInBounds_toArray, List.set_cons_zero, List.set_cons_succ]
            refine AnyK.ready [8] (by kernel_rfl) (by simp) ?_
            refine steps_cons ?_ ?_
            · refine StepK.store 1 (i := 8) rfl rfl rfl 24 _ _ rfl rfl rfl rfl (infoW _) rfl (oneW _) ?_
              refine AnyK.ready [9] (by kernel_rfl) (by simp) ?_
              refine steps_cons ?_ ?_
              · refine StepK.store 0 (i := 9) rfl rfl rfl 24 _ _ rfl rfl rfl rfl (infoW _) rfl (oneW _) ?_
                refine AnyK.done (by kernel_rfl) ?_
                intro W hW
                exact ⟨rfl, g6, g7, rfl, Keeps.swap hW⟩
              exact steps_nil
            exact steps_nil
          exact steps_nil
        refine steps_cons ?_ ?_
        · refine StepK.alloc (i := 6) (some 13) rfl rfl rfl (fun W => by go_simp; rfl) (fun g6 => ?_)
          simp only [Act.put, List.setIfInBounds_toArray, List.set_cons_zero, List.set_cons_succ]
          refine AnyK.ready [5] (by kernel_rfl) (by simp) ?_
          refine steps_cons ?_ ?_
          · refine StepK.call (i := 5) (some 40) rfl rfl rfl (fun W => by go_simp) R6.out ?_
            simp only [Act.put, List.setIfInBounds_toArray, List.set_cons_zero, List.set_cons_succ]
            refine AnyK.ready [8] (by kernel_rfl) (by simp) ?_
            refine steps_cons ?_ ?_
            · refine StepK.store 1 (i := 8) rfl rfl rfl 24 _ _ rfl rfl rfl rfl (infoW _) rfl (oneW _) ?_
              refine AnyK.ready [9] (by kernel_rfl) (by simp) ?_
              refine steps_cons ?_ ?_
              · refine StepK.store 0 (i := 9) rfl rfl rfl 24 _ _ rfl rfl rfl rfl (infoW _) rfl (oneW _) ?_
                refine AnyK.done (by kernel_rfl) ?_
                intro W hW
                exact ⟨rfl, g6, g7, rfl, Keeps.swap hW⟩
              exact steps_nil
            exact steps_nil
          exact steps_nil
        exact steps_nil
      refine steps_cons ?_ ?_
      · refine StepK.alloc (i := 6) (some 13) rfl rfl rfl (fun W => by go_simp; rfl) (fun g6 => ?_)
        simp only [Act.put, List.setIfInBounds_toArray, List.set_cons_zero, List.set_cons_succ]
        refine AnyK.ready [2] (by kernel_rfl) (by simp) ?_
        refine steps_cons ?_ ?_
        · refine StepK.call (i := 2) (some 37) rfl rfl rfl (fun W => by go_simp) L5.out ?_
          simp only [Act.put, List.setIfInBounds_toArray, List.set_cons_zero, List.set_cons_succ]
          refine AnyK.ready [5] (by kernel_rfl) (by simp) ?_
          refine steps_cons ?_ ?_
          · refine StepK.call (i := 5) (some 40) rfl rfl rfl (fun W => by go_simp) R6.out ?_
            simp only [Act.put, List.setIfInBounds_toArray, List.set_cons_zero, List.set_cons_succ]
            refine AnyK.ready [8] (by kernel_rfl) (by simp) ?_
            refine steps_cons ?_ ?_
            · refine StepK.store 1 (i := 8) rfl rfl rfl 24 _ _ rfl rfl rfl rfl (infoW _) rfl (oneW _) ?_
              refine AnyK.ready [9] (by kernel_rfl) (by simp) ?_
              refine steps_cons ?_ ?_
              · refine StepK.store 0 (i := 9) rfl rfl rfl 24 _ _ rfl rfl rfl rfl (infoW _) rfl (oneW _) ?_
                refine AnyK.done (by kernel_rfl) ?_
                intro W hW
                exact ⟨rfl, g6, g7, rfl, Keeps.swap hW⟩
              exact steps_nil
            exact steps_nil
          exact steps_nil
        exact steps_nil
      exact steps_nil
    exact steps_nil
  clear hH
  rintro g h W1 hH
  simp only [List.nil_append, List.cons_append, List.set_cons_zero, List.set_cons_succ] at hH
  go_wp2_with (first | (go_at_call 22; with_reducible refine (N7.out _).mono ?_; rintro e W1 ⟨rfl, hB⟩; replace hH := hH.call hB; clear hB) | (have _t := tk9; refine wpList_boxg hH 1 24 _ rfl rfl rfl _ Try.underlying24 rfl (infoW _) (by rfl) ?_; clear _t tk9; have tk10 : True := trivial) | (have _t := tk10; refine wpList_boxg hH 6 24 _ rfl rfl rfl _ Try.underlying24 rfl (infoW _) (by rfl) ?_; clear _t tk10; have tk11 : True := trivial) | (have _t := tk11; refine wpList_boxg hH 2 24 _ rfl rfl rfl _ Try.underlying24 rfl (infoW _) (by rfl) ?_; clear _t tk11; have tk12 : True := trivial) | (have _t := tk12; refine wpList_boxg hH 7 24 _ rfl rfl rfl _ Try.underlying24 rfl (infoW _) (by rfl) ?_; clear _t tk12; have tk13 : True := trivial) | (have _t := tk13; refine wpList_boxg hH 4 24 _ rfl rfl rfl _ Try.underlying24 rfl (infoW _) (by rfl) ?_; clear _t tk13; have tk14 : True := trivial))
  have HLR2 := HLR.out
  have hz1 : IntKind.i64.wrap (la - (k : Int)) = la - (k : Int) := IntWalk.i64_in _ (by omega)
  have hz2 : IntKind.i64.wrap (la + (k : Int)) = la + (k : Int) := IntWalk.i64_in _ (by omega)
  have hz3 : IntKind.i64.wrap ((k : Int) / 2) = (k : Int) / 2 := IntWalk.i64_in _ (by omega)
  have hz4 : IntKind.i64.wrap ((k : Int) - (k : Int) / 2) = (k : Int) - (k : Int) / 2 := IntWalk.i64_in _ (by omega)
  have hnd : decide (la + (k : Int) ≤ 256) = false := by simp; omega
  clear hfar
  refine wp_region_class (C := Keeps w _) (by kernel_rfl) (by kernel_rfl) hH.drew ?_
  (first | refine quiet_box 7 rfl 24 _ rfl rfl rfl _ Try.underlying24 rfl (infoW _) ?_ | (refine wpQuiet_step (fun K hK => ?_); go_simp; (first | refine hK _ ?_ | refine ⟨_, fun _ _ => rfl, hK _ ?_⟩); clear hK K))
  (first | (refine wpQuiet_step (fun K hK => ?_); go_simp; refine ⟨_, fun W hW => (N8.out W).mono fun _ _ h => ⟨h.1, hW.call h.2⟩, hK _ ?_⟩; clear hK K) | (refine wpQuiet_step (fun K hK => ?_); go_simp; (first | refine hK _ ?_ | refine ⟨_, fun _ _ => rfl, hK _ ?_⟩); clear hK K))
  (first | refine quiet_box 0 rfl 24 _ rfl rfl rfl _ Try.underlying24 rfl (infoW _) ?_ | (refine wpQuiet_step (fun K hK => ?_); go_simp; (first | refine hK _ ?_ | refine ⟨_, fun _ _ => rfl, hK _ ?_⟩); clear hK K))
  (first | (refine wpQuiet_step (fun K hK => ?_); go_simp; refine ⟨_, fun W hW => (N9.out W).mono fun _ _ h => ⟨h.1, hW.call h.2⟩, hK _ ?_⟩; clear hK K) | (refine wpQuiet_step (fun K hK => ?_); go_simp; (first | refine hK _ ?_ | refine ⟨_, fun _ _ => rfl, hK _ ?_⟩); clear hK K))
  (refine wpQuiet_step (fun K hK => ?_); go_simp; (first | refine hK _ ?_ | refine ⟨_, fun _ _ => rfl, hK _ ?_⟩); clear hK K)
  (refine wpQuiet_step (fun K hK => ?_); go_simp; (first | refine hK _ ?_ | refine ⟨_, fun _ _ => rfl, hK _ ?_⟩); clear hK K)
  (refine wpQuiet_step (fun K hK => ?_); go_simp; (first | refine hK _ ?_ | refine ⟨_, fun _ _ => rfl, hK _ ?_⟩); clear hK K)
  (refine wpQuiet_step (fun K hK => ?_); go_simp; (first | refine hK _ ?_ | refine ⟨_, fun _ _ => rfl, hK _ ?_⟩); clear hK K)
  (refine wpQuiet_step (fun K hK => ?_); go_simp; (first | refine hK _ ?_ | refine ⟨_, fun _ _ => rfl, hK _ ?_⟩); clear hK K)
  (first | refine quiet_box 0 rfl 24 _ rfl rfl rfl _ Try.underlying24 rfl (infoW _) ?_ | (refine wpQuiet_step (fun K hK => ?_); go_simp; (first | refine hK _ ?_ | refine ⟨_, fun _ _ => rfl, hK _ ?_⟩); clear hK K))
  (first | (refine wpQuiet_step (fun K hK => ?_); go_simp; refine ⟨_, fun W hW => (N9.out W).mono fun _ _ h => ⟨h.1, hW.call h.2⟩, hK _ ?_⟩; clear hK K) | (refine wpQuiet_step (fun K hK => ?_); go_simp; (first | refine hK _ ?_ | refine ⟨_, fun _ _ => rfl, hK _ ?_⟩); clear hK K))
  (refine wpQuiet_step (fun K hK => ?_); go_simp; (first | refine hK _ ?_ | refine ⟨_, fun _ _ => rfl, hK _ ?_⟩); clear hK K)
  (refine wpQuiet_step (fun K hK => ?_); go_simp; (first | refine hK _ ?_ | refine ⟨_, fun _ _ => rfl, hK _ ?_⟩); clear hK K)
  (refine wpQuiet_step (fun K hK => ?_); go_simp; (first | refine hK _ ?_ | refine ⟨_, fun _ _ => rfl, hK _ ?_⟩); clear hK K)
  (go_big_quiet_want; go_big_quiet_op; go_big_quiet_on)
  go_big_quiet_skip
  go_big_quiet_skip
  go_big_quiet_skip
  go_big_quiet_skip
  go_big_quiet_skip
  go_big_quiet_skip
  go_big_quiet_skip
  go_big_quiet_skip
  go_big_quiet_skip
  go_big_quiet_skip
  go_big_quiet_skip
  go_big_quiet_skip
  go_big_quiet_skip
  go_big_quiet_skip
  go_big_quiet_skip
  go_big_quiet_skip
  go_big_quiet_skip
  go_big_quiet_skip
  go_big_quiet_skip
  (refine wpQuiet_step (fun K hK => ?_); go_simp; (first | refine hK _ ?_ | refine ⟨_, fun _ _ => rfl, hK _ ?_⟩); clear hK K)
  (refine wpQuiet_step (fun K hK => ?_); go_simp; (first | refine hK _ ?_ | refine ⟨_, fun _ _ => rfl, hK _ ?_⟩); clear hK K)
  refine wpQuiet_nil ?_
  clear hH
  intro W hH
  go_wp2_with (first | (go_at_call 32; with_reducible refine (L10.out _).mono ?_; rintro e W1 ⟨rfl, hB⟩; replace hH := hH.call hB; clear hB) | (go_at_call 34; with_reducible refine (R11.out _).mono ?_; rintro e W1 ⟨rfl, hB⟩; replace hH := hH.call hB; clear hB) | (have _t := tk14; refine wpList_boxg hH 0 24 _ rfl rfl rfl _ Try.underlying24 rfl (infoW _) (by rfl) ?_; clear _t tk14; have tk15 : True := trivial) | (have _t := tk15; refine wpList_fill hH rfl 24 _ _ rfl rfl rfl (infoW _) rfl (oneW _) ?_; clear _t tk15 hH; have tk16 : True := trivial; intro W1 hH))
  refine wp_region_class (C := Keeps w _) (by kernel_rfl) (by kernel_rfl) hH.drew ?_
  (refine wpQuiet_step (fun K hK => ?_); go_simp; (first | refine hK _ ?_ | refine ⟨_, fun _ _ => rfl, hK _ ?_⟩); clear hK K)
  (refine wpQuiet_step (fun K hK => ?_); go_simp; (first | refine hK _ ?_ | refine ⟨_, fun _ _ => rfl, hK _ ?_⟩); clear hK K)
  (first | refine quiet_box 8 rfl 24 _ rfl rfl rfl _ Try.underlying24 rfl (infoW _) ?_ | (refine wpQuiet_step (fun K hK => ?_); go_simp; (first | refine hK _ ?_ | refine ⟨_, fun _ _ => rfl, hK _ ?_⟩); clear hK K))
  (first | refine quiet_box 0 rfl 24 _ rfl rfl rfl _ Try.underlying24 rfl (infoW _) ?_ | (refine wpQuiet_step (fun K hK => ?_); go_simp; (first | refine hK _ ?_ | refine ⟨_, fun _ _ => rfl, hK _ ?_⟩); clear hK K))
  (first | (refine wpQuiet_step (fun K hK => ?_); go_simp; refine ⟨_, fun W hW => (K12.out W).mono fun _ _ h => ⟨h.1, hW.call h.2⟩, hK _ ?_⟩; clear hK K) | (refine wpQuiet_step (fun K hK => ?_); go_simp; (first | refine hK _ ?_ | refine ⟨_, fun _ _ => rfl, hK _ ?_⟩); clear hK K))
  (refine wpQuiet_step (fun K hK => ?_); go_simp; (first | refine hK _ ?_ | refine ⟨_, fun _ _ => rfl, hK _ ?_⟩); clear hK K)
  (refine wpQuiet_step (fun K hK => ?_); go_simp; (first | refine hK _ ?_ | refine ⟨_, fun _ _ => rfl, hK _ ?_⟩); clear hK K)
  (refine wpQuiet_step (fun K hK => ?_); go_simp; (first | refine hK _ ?_ | refine ⟨_, fun _ _ => rfl, hK _ ?_⟩); clear hK K)
  (first | refine quiet_box 0 rfl 24 _ rfl rfl rfl _ Try.underlying24 rfl (infoW _) ?_ | (refine wpQuiet_step (fun K hK => ?_); go_simp; (first | refine hK _ ?_ | refine ⟨_, fun _ _ => rfl, hK _ ?_⟩); clear hK K))
  (refine wpQuiet_step (fun K hK => ?_); go_simp; (first | refine hK _ ?_ | refine ⟨_, fun _ _ => rfl, hK _ ?_⟩); clear hK K)
  (refine wpQuiet_step (fun K hK => ?_); go_simp; (first | refine hK _ ?_ | refine ⟨_, fun _ _ => rfl, hK _ ?_⟩); clear hK K)
  (first | (refine wpQuiet_step (fun K hK => ?_); go_simp; refine ⟨_, fun W hW => (L10.out W).mono fun _ _ h => ⟨h.1, hW.call h.2⟩, hK _ ?_⟩; clear hK K) | (refine wpQuiet_step (fun K hK => ?_); go_simp; (first | refine hK _ ?_ | refine ⟨_, fun _ _ => rfl, hK _ ?_⟩); clear hK K))
  (refine wpQuiet_step (fun K hK => ?_); go_simp; (first | refine hK _ ?_ | refine ⟨_, fun _ _ => rfl, hK _ ?_⟩); clear hK K)
  (refine wpQuiet_step (fun K hK => ?_); go_simp; (first | refine hK _ ?_ | refine ⟨_, fun _ _ => rfl, hK _ ?_⟩); clear hK K)
  (refine wpQuiet_step (fun K hK => ?_); go_simp; (first | refine hK _ ?_ | refine ⟨_, fun _ _ => rfl, hK _ ?_⟩); clear hK K)
  (refine wpQuiet_step (fun K hK => ?_); go_simp; (first | refine hK _ ?_ | refine ⟨_, fun _ _ => rfl, hK _ ?_⟩); clear hK K)
  (first | (refine wpQuiet_step (fun K hK => ?_); go_simp; refine ⟨_, fun W hW => (L13.out W).mono fun _ _ h => ⟨h.1, hW.call h.2⟩, hK _ ?_⟩; clear hK K) | (refine wpQuiet_step (fun K hK => ?_); go_simp; (first | refine hK _ ?_ | refine ⟨_, fun _ _ => rfl, hK _ ?_⟩); clear hK K))
  (first | refine quiet_box 6 rfl 24 _ rfl rfl rfl _ Try.underlying24 rfl (infoW _) ?_ | (refine wpQuiet_step (fun K hK => ?_); go_simp; (first | refine hK _ ?_ | refine ⟨_, fun _ _ => rfl, hK _ ?_⟩); clear hK K))
  (refine wpQuiet_step (fun K hK => ?_); go_simp; (first | refine hK _ ?_ | refine ⟨_, fun _ _ => rfl, hK _ ?_⟩); clear hK K)
  (refine wpQuiet_step (fun K hK => ?_); go_simp; (first | refine hK _ ?_ | refine ⟨_, fun _ _ => rfl, hK _ ?_⟩); clear hK K)
  (refine wpQuiet_step (fun K hK => ?_); go_simp; (first | refine hK _ ?_ | refine ⟨_, fun _ _ => rfl, hK _ ?_⟩); clear hK K)
  refine wpQuiet_nil ?_
  clear hH
  intro W hH
  go_wp2
  go_ret
  exact ⟨rfl, hH.bel⟩

set_option maxRecDepth 100000 in
set_option maxHeartbeats 8000000 in
theorem shifted_zero (a k pw l hi r s m half : Nat) (lr la c : Int) (w : World)
    (CV : Hid (∀ w, Calls Try.prog 42 #[] w fun e w' => e = .returned (.bool true) ∧ Below w.heap.size w w'))
    (O1 : Hid (∀ w, Calls Try.prog 16 #[.int .u64 1] w fun e w' => e = .returned (.agg (wcells 1)) ∧ Below w.heap.size w w'))
    (P2 : Hid (∀ w, Calls Try.prog 32 #[.agg (wcells 1), .int .i64 (k : Int)] w fun e w' => e = .returned (.agg (wcells pw)) ∧ Below w.heap.size w w'))
    (X3 : Hid (∀ w, Calls Try.prog 30 #[.agg (wcells a), .agg (wcells pw)] w fun e w' => e = .returned (.tuple #[.agg (wcells l), .agg (wcells hi)]) ∧ Below w.heap.size w w'))
    (D4 : Hid (∀ w, Calls Try.prog 38 #[.agg (wcells a), .agg (wcells pw)] w fun e w' => e = .returned (.tuple #[.agg (wcells r), .agg (wcells s), .int .i64 0]) ∧ Below w.heap.size w w'))
    (L5 : Hid (∀ w, Calls Try.prog 32 #[.agg (wcells a), .int .i64 (k : Int)] w fun e w' => e = .returned (.agg (wcells l)) ∧ Below w.heap.size w w'))
    (R6 : Hid (∀ w, Calls Try.prog 34 #[.agg (wcells a), .int .i64 (k : Int)] w fun e w' => e = .returned (.agg (wcells r)) ∧ Below w.heap.size w w'))
    (N7 : Hid (∀ w, Calls Try.prog 22 #[.agg (wcells pw)] w fun e w' => e = .returned (.int .i64 ((k : Int) + 1)) ∧ Below w.heap.size w w'))
    (N8 : Hid (∀ w, Calls Try.prog 22 #[.agg (wcells r)] w fun e w' => e = .returned (.int .i64 lr) ∧ Below w.heap.size w w'))
    (N9 : Hid (∀ w, Calls Try.prog 22 #[.agg (wcells a)] w fun e w' => e = .returned (.int .i64 la) ∧ Below w.heap.size w w'))
    (L10 : Hid (∀ w, Calls Try.prog 32 #[.agg (wcells a), .int .i64 ((k : Int) / 2)] w fun e w' => e = .returned (.agg (wcells m)) ∧ Below w.heap.size w w'))
    (R11 : Hid (∀ w, Calls Try.prog 34 #[.agg (wcells m), .int .i64 ((k : Int) / 2)] w fun e w' => e = .returned (.agg (wcells half)) ∧ Below w.heap.size w w'))
    (K12 : Hid (∀ w, Calls Try.prog 24 #[.agg (wcells half), .agg (wcells a)] w fun e w' => e = .returned (.int .i64 c) ∧ Below w.heap.size w w'))
    (L13 : Hid (∀ w, Calls Try.prog 32 #[.agg (wcells m), .int .i64 ((k : Int) - (k : Int) / 2)] w fun e w' => e = .returned (.agg (wcells l)) ∧ Below w.heap.size w w'))
    (R14 : Hid (∀ w, Calls Try.prog 34 #[.agg (wcells l), .int .i64 (k : Int)] w fun e w' => e = .returned (.agg (wcells a)) ∧ Below w.heap.size w w'))
    (hk : k < 256) (hla : 0 ≤ la) (hla2 : la ≤ 256) (hlr : lr = max 0 (la - (k : Int))) (hc : c ≤ 0)
    (hfit : la + (k : Int) ≤ 256)
    (hA : ∀ w, (Op.equalIn 10000 24 (.agg (wcells a)) (.agg #[.int .u64 0, .int .u64 0, .int .u64 0, .int .u64 0])).run Try.prog w = .ok true w) :
    Calls Try.prog 10 #[.agg (wcells a), .int .u8 (k : Int)] w fun e w' => e = .returned (.bool true) ∧ Below w.heap.size w w' := by
  have hE := eqW
  have hH := keeps1 w (wcells a) 24
  have hk2 : (k : Int) / 2 ≤ k := by omega
  have HLR := Lib.hid hlr
  clear hlr
  go_enter Try.func10, Try.ntmps10
  go_wp2_with fail
  generalize w.alloc (.cells (wcells a) 24) = W0 at *
  have tk0 : True := trivial
  go_wp2_with (first | (go_at_call 42; with_reducible refine (CV.out _).mono ?_; rintro e W1 ⟨rfl, hB⟩; replace hH := hH.call hB; clear hB) | (go_at_call 16; with_reducible refine (O1.out _).mono ?_; rintro e W1 ⟨rfl, hB⟩; replace hH := hH.call hB; clear hB) | (go_at_call 32; with_reducible refine (P2.out _).mono ?_; rintro e W1 ⟨rfl, hB⟩; replace hH := hH.call hB; clear hB) | (go_at_call 30; with_reducible refine (X3.out _).mono ?_; rintro e W1 ⟨rfl, hB⟩; replace hH := hH.call hB; clear hB) | (go_at_call 38; with_reducible refine (D4.out _).mono ?_; rintro e W1 ⟨rfl, hB⟩; replace hH := hH.call hB; clear hB) | (go_at_call 32; with_reducible refine (L5.out _).mono ?_; rintro e W1 ⟨rfl, hB⟩; replace hH := hH.call hB; clear hB) | (go_at_call 34; with_reducible refine (R6.out _).mono ?_; rintro e W1 ⟨rfl, hB⟩; replace hH := hH.call hB; clear hB) | (go_at_call 22; with_reducible refine (N7.out _).mono ?_; rintro e W1 ⟨rfl, hB⟩; replace hH := hH.call hB; clear hB) | (go_at_call 22; with_reducible refine (N8.out _).mono ?_; rintro e W1 ⟨rfl, hB⟩; replace hH := hH.call hB; clear hB) | (go_at_call 22; with_reducible refine (N9.out _).mono ?_; rintro e W1 ⟨rfl, hB⟩; replace hH := hH.call hB; clear hB) | (go_at_call 32; with_reducible refine (L10.out _).mono ?_; rintro e W1 ⟨rfl, hB⟩; replace hH := hH.call hB; clear hB) | (go_at_call 34; with_reducible refine (R11.out _).mono ?_; rintro e W1 ⟨rfl, hB⟩; replace hH := hH.call hB; clear hB) | (go_at_call 24; with_reducible refine (K12.out _).mono ?_; rintro e W1 ⟨rfl, hB⟩; replace hH := hH.call hB; clear hB) | (go_at_call 32; with_reducible refine (L13.out _).mono ?_; rintro e W1 ⟨rfl, hB⟩; replace hH := hH.call hB; clear hB) | (go_at_call 34; with_reducible refine (R14.out _).mono ?_; rintro e W1 ⟨rfl, hB⟩; replace hH := hH.call hB; clear hB) | (have _t := tk0; refine wpList_fill hH rfl 24 _ _ rfl rfl rfl (infoW _) rfl (oneW _) ?_; clear _t tk0 hH; have tk1 : True := trivial; intro W1 hH) | (have _t := tk1; refine wpList_boxg hH 0 24 _ rfl rfl rfl _ Try.underlying24 rfl (infoW _) (by rfl) ?_; clear _t tk1; have tk2 : True := trivial) | (have _t := tk2; refine wpList_boxg hH 1 24 _ rfl rfl rfl _ Try.underlying24 rfl (infoW _) (by rfl) ?_; clear _t tk2; have tk3 : True := trivial) | (have _t := tk3; refine wpList_fill2 hH rfl 24 _ _ rfl rfl rfl (infoW _) rfl (oneW _) ?_; clear _t tk3 hH; have tk4 : True := trivial; intro W1 hH) | (have _t := tk4; refine wpList_put hH 3 rfl 24 _ _ rfl rfl rfl rfl (infoW _) rfl (oneW _) ?_; clear _t tk4 hH; have tk5 : True := trivial; intro W1 hH) | (have _t := tk5; refine wpList_boxg hH 0 24 _ rfl rfl rfl _ Try.underlying24 rfl (infoW _) (by rfl) ?_; clear _t tk5; have tk6 : True := trivial) | (have _t := tk6; refine wpList_boxg hH 1 24 _ rfl rfl rfl _ Try.underlying24 rfl (infoW _) (by rfl) ?_; clear _t tk6; have tk7 : True := trivial) | (have _t := tk7; refine wpList_fill2 hH rfl 24 _ _ rfl rfl rfl (infoW _) rfl (oneW _) ?_; clear _t tk7 hH; have tk8 : True := trivial; intro W1 hH) | (have _t := tk8; refine wpList_put hH 5 rfl 24 _ _ rfl rfl rfl rfl (infoW _) rfl (oneW _) ?_; clear _t tk8 hH; have tk9 : True := trivial; intro W1 hH))
  apply wp_boxes2 (W0 := w)
  case hreg =>
    refine AnyK.start 10 rfl (by kernel_rfl) hH ?_
    refine AnyK.take 0 (some 35) rfl rfl (by kernel_rfl) (by kernel_rfl) (by kernel_rfl) (fun _ _ _ h => nomatch h.1) (yieldsIf_box 0 rfl 24 _ rfl rfl rfl _ Try.underlying24 rfl (infoW _)) ?_
    simp only [Act.put, List.setIfInBounds_toArray, List.set_cons_zero, List.set_cons_succ]
    refine AnyK.take 1 (some 36) rfl rfl (by kernel_rfl) (by kernel_rfl) (by kernel_rfl) (fun _ _ _ h => nomatch h.1) (v := _) (.inl ⟨by rfl, fun W hW => by first | (go_simp; done) | (go_simp; rfl)⟩) ?_
    simp only [Act.put, List.setIfInBounds_toArray, List.set_cons_zero, List.set_cons_succ]
    refine AnyK.take 3 (some 38) rfl rfl (by kernel_rfl) (by kernel_rfl) (by kernel_rfl) (fun _ _ _ h => nomatch h.1) (yieldsIf_box 0 rfl 24 _ rfl rfl rfl _ Try.underlying24 rfl (infoW _)) ?_
    simp only [Act.put, List.setIfInBounds_toArray, List.set_cons_zero, List.set_cons_succ]
    refine AnyK.take 4 (some 39) rfl rfl (by kernel_rfl) (by kernel_rfl) (by kernel_rfl) (fun _ _ _ h => nomatch h.1) (v := _) (.inl ⟨by rfl, fun W hW => by first | (go_simp; done) | (go_simp; rfl)⟩) ?_
    simp only [Act.put, List.setIfInBounds_toArray, List.set_cons_zero, List.set_cons_succ]
    refine AnyK.ready [2, 6, 7] (by kernel_rfl) (by simp) ?_
    refine steps_cons ?_ ?_
    · refine StepK.call (i := 2) (some 37) rfl rfl rfl (fun W => by go_simp) L5.out ?_
      simp only [Act.put, List.setIfInBounds_toArray, List.set_cons_zero, List.set_cons_succ]
      refine AnyK.ready [5, 6, 7] (by kernel_rfl) (by simp) ?_
      refine steps_cons ?_ ?_
      · refine StepK.call (i := 5) (some 40) rfl rfl rfl (fun W => by go_simp) R6.out ?_
        simp only [Act.put, List.setIfInBounds_toArray, List.set_cons_zero, List.set_cons_succ]
        refine AnyK.ready [6, 7] (by kernel_rfl) (by simp) ?_
        refine steps_cons ?_ ?_
        · refine StepK.alloc (i := 6) (some 13) rfl rfl rfl (fun W => by go_simp; rfl) (fun g6 => ?_)
          simp only [Act.put, List.setIfInBounds_toArray, List.set_cons_zero, List.set_cons_succ]
          refine AnyK.ready [7] (by kernel_rfl) (by simp) ?_
          refine steps_cons ?_ ?_
          · refine StepK.alloc (i := 7) (some 14) rfl rfl rfl (fun W => by go_simp; rfl) (fun g7 => ?_)
            simp only [Act.put, List.setIfInBounds_toArray, List.set_cons_zero, List.set_cons_succ]
            refine AnyK.ready [8] (by kernel_rfl) (by simp) ?_
            refine steps_cons ?_ ?_
            · refine StepK.store 0 (i := 8) rfl rfl rfl 24 _ _ rfl rfl rfl rfl (infoW _) rfl (oneW _) ?_
              refine AnyK.ready [9] (by kernel_rfl) (by simp) ?_
              refine steps_cons ?_ ?_
              · refine StepK.store 1 (i := 9) rfl rfl rfl 24 _ _ rfl rfl rfl rfl (infoW _) rfl (oneW _) ?_
                refine AnyK.done (by kernel_rfl) ?_
                intro W hW
                exact ⟨rfl, g6, g7, rfl, hW⟩
              exact steps_nil
            exact steps_nil
          exact steps_nil
        refine steps_cons ?_ ?_
        · refine StepK.alloc (i := 7) (some 14) rfl rfl rfl (fun W => by go_simp; rfl) (fun g7 => ?_)
          simp only [Act.put, List.setIfInBounds_toArray, List.set_cons_zero, List.set_cons_succ]
          refine AnyK.ready [6] (by kernel_rfl) (by simp) ?_
          refine steps_cons ?_ ?_
          · refine StepK.alloc (i := 6) (some 13) rfl rfl rfl (fun W => by go_simp; rfl) (fun g6 => ?_)
            simp only [Act.put, List.setIfInBounds_toArray, List.set_cons_zero, List.set_cons_succ]
            refine AnyK.ready [8] (by kernel_rfl) (by simp) ?_
            refine steps_cons ?_ ?_
            · refine StepK.store 1 (i := 8) rfl rfl rfl 24 _ _ rfl rfl rfl rfl (infoW _) rfl (oneW _) ?_
              refine AnyK.ready [9] (by kernel_rfl) (by simp) ?_
              refine steps_cons ?_ ?_
              · refine StepK.store 0 (i := 9) rfl rfl rfl 24 _ _ rfl rfl rfl rfl (infoW _) rfl (oneW _) ?_
                refine AnyK.done (by kernel_rfl) ?_
                intro W hW
                exact ⟨rfl, g6, g7, rfl, Keeps.swap hW⟩
              exact steps_nil
            exact steps_nil
          exact steps_nil
        exact steps_nil
      refine steps_cons ?_ ?_
      · refine StepK.alloc (i := 6) (some 13) rfl rfl rfl (fun W => by go_simp; rfl) (fun g6 => ?_)
        simp only [Act.put, List.setIfInBounds_toArray, List.set_cons_zero, List.set_cons_succ]
        refine AnyK.ready [5, 7] (by kernel_rfl) (by simp) ?_
        refine steps_cons ?_ ?_
        · refine StepK.call (i := 5) (some 40) rfl rfl rfl (fun W => by go_simp) R6.out ?_
          simp only [Act.put, List.setIfInBounds_toArray, List.set_cons_zero, List.set_cons_succ]
          refine AnyK.ready [7] (by kernel_rfl) (by simp) ?_
          refine steps_cons ?_ ?_
          · refine StepK.alloc (i := 7) (some 14) rfl rfl rfl (fun W => by go_simp; rfl) (fun g7 => ?_)
            simp only [Act.put, List.setIfInBounds_toArray, List.set_cons_zero, List.set_cons_succ]
            refine AnyK.ready [8] (by kernel_rfl) (by simp) ?_
            refine steps_cons ?_ ?_
            · refine StepK.store 0 (i := 8) rfl rfl rfl 24 _ _ rfl rfl rfl rfl (infoW _) rfl (oneW _) ?_
              refine AnyK.ready [9] (by kernel_rfl) (by simp) ?_
              refine steps_cons ?_ ?_
              · refine StepK.store 1 (i := 9) rfl rfl rfl 24 _ _ rfl rfl rfl rfl (infoW _) rfl (oneW _) ?_
                refine AnyK.done (by kernel_rfl) ?_
                intro W hW
                exact ⟨rfl, g6, g7, rfl, hW⟩
              exact steps_nil
            exact steps_nil
          exact steps_nil
        refine steps_cons ?_ ?_
        · refine StepK.alloc (i := 7) (some 14) rfl rfl rfl (fun W => by go_simp; rfl) (fun g7 => ?_)
          simp only [Act.put, List.setIfInBounds_toArray, List.set_cons_zero, List.set_cons_succ]
          refine AnyK.ready [5] (by kernel_rfl) (by simp) ?_
          refine steps_cons ?_ ?_
          · refine StepK.call (i := 5) (some 40) rfl rfl rfl (fun W => by go_simp) R6.out ?_
            simp only [Act.put, List.setIfInBounds_toArray, List.set_cons_zero, List.set_cons_succ]
            refine AnyK.ready [8] (by kernel_rfl) (by simp) ?_
            refine steps_cons ?_ ?_
            · refine StepK.store 0 (i := 8) rfl rfl rfl 24 _ _ rfl rfl rfl rfl (infoW _) rfl (oneW _) ?_
              refine AnyK.ready [9] (by kernel_rfl) (by simp) ?_
              refine steps_cons ?_ ?_
              · refine StepK.store 1 (i := 9) rfl rfl rfl 24 _ _ rfl rfl rfl rfl (infoW _) rfl (oneW _) ?_
                refine AnyK.done (by kernel_rfl) ?_
                intro W hW
                exact ⟨rfl, g6, g7, rfl, hW⟩
              exact steps_nil
            exact steps_nil
          exact steps_nil
        exact steps_nil
      refine steps_cons ?_ ?_
      · refine StepK.alloc (i := 7) (some 14) rfl rfl rfl (fun W => by go_simp; rfl) (fun g7 => ?_)
        simp only [Act.put, List.setIfInBounds_toArray, List.set_cons_zero, List.set_cons_succ]
        refine AnyK.ready [5, 6] (by kernel_rfl) (by simp) ?_
        refine steps_cons ?_ ?_
        · refine StepK.call (i := 5) (some 40) rfl rfl rfl (fun W => by go_simp) R6.out ?_
          simp only [Act.put, List.setIfInBounds_toArray, List.set_cons_zero, List.set_cons_succ]
          refine AnyK.ready [6] (by kernel_rfl) (by simp) ?_
          refine steps_cons ?_ ?_
          · refine StepK.alloc (i := 6) (some 13) rfl rfl rfl (fun W => by go_simp; rfl) (fun g6 => ?_)
            simp only [Act.put, List.setIfInBounds_toArray, List.set_cons_zero, List.set_cons_succ]
            refine AnyK.ready [8] (by kernel_rfl) (by simp) ?_
            refine steps_cons ?_ ?_
            · refine StepK.store 1 (i := 8) rfl rfl rfl 24 _ _ rfl rfl rfl rfl (infoW _) rfl (oneW _) ?_
              refine AnyK.ready [9] (by kernel_rfl) (by simp) ?_
              refine steps_cons ?_ ?_
              · refine StepK.store 0 (i := 9) rfl rfl rfl 24 _ _ rfl rfl rfl rfl (infoW _) rfl (oneW _) ?_
                refine AnyK.done (by kernel_rfl) ?_
                intro W hW
                exact ⟨rfl, g6, g7, rfl, Keeps.swap hW⟩
              exact steps_nil
            exact steps_nil
          exact steps_nil
        refine steps_cons ?_ ?_
        · refine StepK.alloc (i := 6) (some 13) rfl rfl rfl (fun W => by go_simp; rfl) (fun g6 => ?_)
          simp only [Act.put, List.setIfInBounds_toArray, List.set_cons_zero, List.set_cons_succ]
          refine AnyK.ready [5] (by kernel_rfl) (by simp) ?_
          refine steps_cons ?_ ?_
          · refine StepK.call (i := 5) (some 40) rfl rfl rfl (fun W => by go_simp) R6.out ?_
            simp only [Act.put, List.setIfInBounds_toArray, List.set_cons_zero, List.set_cons_succ]
            refine AnyK.ready [8] (by kernel_rfl) (by simp) ?_
            refine steps_cons ?_ ?_
            · refine StepK.store 1 (i := 8) rfl rfl rfl 24 _ _ rfl rfl rfl rfl (infoW _) rfl (oneW _) ?_
              refine AnyK.ready [9] (by kernel_rfl) (by simp) ?_
              refine steps_cons ?_ ?_
              · refine StepK.store 0 (i := 9) rfl rfl rfl 24 _ _ rfl rfl rfl rfl (infoW _) rfl (oneW _) ?_
                refine AnyK.done (by kernel_rfl) ?_
                intro W hW
                exact ⟨rfl, g6, g7, rfl, Keeps.swap hW⟩
              exact steps_nil
            exact steps_nil
          exact steps_nil
        exact steps_nil
      exact steps_nil
    refine steps_cons ?_ ?_
    · refine StepK.alloc (i := 6) (some 13) rfl rfl rfl (fun W => by go_simp; rfl) (fun g6 => ?_)
      simp only [Act.put, List.setIfInBounds_toArray, List.set_cons_zero, List.set_cons_succ]
      refine AnyK.ready [2, 7] (by kernel_rfl) (by simp) ?_
      refine steps_cons ?_ ?_
      · refine StepK.call (i := 2) (some 37) rfl rfl rfl (fun W => by go_simp) L5.out ?_
        simp only [Act.put, List.setIfInBounds_toArray, List.set_cons_zero, List.set_cons_succ]
        refine AnyK.ready [5, 7] (by kernel_rfl) (by simp) ?_
        refine steps_cons ?_ ?_
        · refine StepK.call (i := 5) (some 40) rfl rfl rfl (fun W => by go_simp) R6.out ?_
          simp only [Act.put, List.setIfInBounds_toArray, List.set_cons_zero, List.set_cons_succ]
          refine AnyK.ready [7] (by kernel_rfl) (by simp) ?_
          refine steps_cons ?_ ?_
          · refine StepK.alloc (i := 7) (some 14) rfl rfl rfl (fun W => by go_simp; rfl) (fun g7 => ?_)
            simp only [Act.put, List.setIfInBounds_toArray, List.set_cons_zero, List.set_cons_succ]
            refine AnyK.ready [8] (by kernel_rfl) (by simp) ?_
            refine steps_cons ?_ ?_
            · refine StepK.store 0 (i := 8) rfl rfl rfl 24 _ _ rfl rfl rfl rfl (infoW _) rfl (oneW _) ?_
              refine AnyK.ready [9] (by kernel_rfl) (by simp) ?_
              refine steps_cons ?_ ?_
              · refine StepK.store 1 (i := 9) rfl rfl rfl 24 _ _ rfl rfl rfl rfl (infoW _) rfl (oneW _) ?_
                refine AnyK.done (by kernel_rfl) ?_
                intro W hW
                exact ⟨rfl, g6, g7, rfl, hW⟩
              exact steps_nil
            exact steps_nil
          exact steps_nil
        refine steps_cons ?_ ?_
        · refine StepK.alloc (i := 7) (some 14) rfl rfl rfl (fun W => by go_simp; rfl) (fun g7 => ?_)
          simp only [Act.put, List.setIfInBounds_toArray, List.set_cons_zero, List.set_cons_succ]
          refine AnyK.ready [5] (by kernel_rfl) (by simp) ?_
          refine steps_cons ?_ ?_
          · refine StepK.call (i := 5) (some 40) rfl rfl rfl (fun W => by go_simp) R6.out ?_
            simp only [Act.put, List.setIfInBounds_toArray, List.set_cons_zero, List.set_cons_succ]
            refine AnyK.ready [8] (by kernel_rfl) (by simp) ?_
            refine steps_cons ?_ ?_
            · refine StepK.store 0 (i := 8) rfl rfl rfl 24 _ _ rfl rfl rfl rfl (infoW _) rfl (oneW _) ?_
              refine AnyK.ready [9] (by kernel_rfl) (by simp) ?_
              refine steps_cons ?_ ?_
              · refine StepK.store 1 (i := 9) rfl rfl rfl 24 _ _ rfl rfl rfl rfl (infoW _) rfl (oneW _) ?_
                refine AnyK.done (by kernel_rfl) ?_
                intro W hW
                exact ⟨rfl, g6, g7, rfl, hW⟩
              exact steps_nil
            exact steps_nil
          exact steps_nil
        exact steps_nil
      refine steps_cons ?_ ?_
      · refine StepK.alloc (i := 7) (some 14) rfl rfl rfl (fun W => by go_simp; rfl) (fun g7 => ?_)
        simp only [Act.put, List.setIfInBounds_toArray, List.set_cons_zero, List.set_cons_succ]
        refine AnyK.ready [2] (by kernel_rfl) (by simp) ?_
        refine steps_cons ?_ ?_
        · refine StepK.call (i := 2) (some 37) rfl rfl rfl (fun W => by go_simp) L5.out ?_
          simp only [Act.put, List.setIfInBounds_toArray, List.set_cons_zero, List.set_cons_succ]
          refine AnyK.ready [5] (by kernel_rfl) (by simp) ?_
          refine steps_cons ?_ ?_
          · refine StepK.call (i := 5) (some 40) rfl rfl rfl (fun W => by go_simp) R6.out ?_
            simp only [Act.put, List.setIfInBounds_toArray, List.set_cons_zero, List.set_cons_succ]
            refine AnyK.ready [8] (by kernel_rfl) (by simp) ?_
            refine steps_cons ?_ ?_
            · refine StepK.store 0 (i := 8) rfl rfl rfl 24 _ _ rfl rfl rfl rfl (infoW _) rfl (oneW _) ?_
              refine AnyK.ready [9] (by kernel_rfl) (by simp) ?_
              refine steps_cons ?_ ?_
              · refine StepK.store 1 (i := 9) rfl rfl rfl 24 _ _ rfl rfl rfl rfl (infoW _) rfl (oneW _) ?_
                refine AnyK.done (by kernel_rfl) ?_
                intro W hW
                exact ⟨rfl, g6, g7, rfl, hW⟩
              exact steps_nil
            exact steps_nil
          exact steps_nil
        exact steps_nil
      exact steps_nil
    refine steps_cons ?_ ?_
    · refine StepK.alloc (i := 7) (some 14) rfl rfl rfl (fun W => by go_simp; rfl) (fun g7 => ?_)
      simp only [Act.put, List.setIfInBounds_toArray, List.set_cons_zero, List.set_cons_succ]
      refine AnyK.ready [2, 6] (by kernel_rfl) (by simp) ?_
      refine steps_cons ?_ ?_
      · refine StepK.call (i := 2) (some 37) rfl rfl rfl (fun W => by go_simp) L5.out ?_
        simp only [Act.put, List.setIfInBounds_toArray, List.set_cons_zero, List.set_cons_succ]
        refine AnyK.ready [5, 6] (by kernel_rfl) (by simp) ?_
        refine steps_cons ?_ ?_
        · refine StepK.call (i := 5) (some 40) rfl rfl rfl (fun W => by go_simp) R6.out ?_
          simp only [Act.put, List.setIfInBounds_toArray, List.set_cons_zero, List.set_cons_succ]
          refine AnyK.ready [6] (by kernel_rfl) (by simp) ?_
          refine steps_cons ?_ ?_
          · refine StepK.alloc (i := 6) (some 13) rfl rfl rfl (fun W => by go_simp; rfl) (fun g6 => ?_)
            simp only [Act.put, List.setIfInBounds_toArray, List.set_cons_zero, List.set_cons_succ]
            refine AnyK.ready [8] (by kernel_rfl) (by simp) ?_
            refine steps_cons ?_ ?_
            · refine StepK.store 1 (i := 8) rfl rfl rfl 24 _ _ rfl rfl rfl rfl (infoW _) rfl (oneW _) ?_
              refine AnyK.ready [9] (by kernel_rfl) (by simp) ?_
              refine steps_cons ?_ ?_
              · refine StepK.store 0 (i := 9) rfl rfl rfl 24 _ _ rfl rfl rfl rfl (infoW _) rfl (oneW _) ?_
                refine AnyK.done (by kernel_rfl) ?_
                intro W hW
                exact ⟨rfl, g6, g7, rfl, Keeps.swap hW⟩
              exact steps_nil
            exact steps_nil
          exact steps_nil
        refine steps_cons ?_ ?_
        · refine StepK.alloc (i := 6) (some 13) rfl rfl rfl (fun W => by go_simp; rfl) (fun g6 => ?_)
          simp only [Act.put, List.setIfInBounds_toArray, List.set_cons_zero, List.set_cons_succ]
          refine AnyK.ready [5] (by kernel_rfl) (by simp) ?_
          refine steps_cons ?_ ?_
          · refine StepK.call (i := 5) (some 40) rfl rfl rfl (fun W => by go_simp) R6.out ?_
            simp only [Act.put, List.setIfInBounds_toArray, List.set_cons_zero, List.set_cons_succ]
            refine AnyK.ready [8] (by kernel_rfl) (by simp) ?_
            refine steps_cons ?_ ?_
            · refine StepK.store 1 (i := 8) rfl rfl rfl 24 _ _ rfl rfl rfl rfl (infoW _) rfl (oneW _) ?_
              refine AnyK.ready [9] (by kernel_rfl) (by simp) ?_
              refine steps_cons ?_ ?_
              · refine StepK.store 0 (i := 9) rfl rfl rfl 24 _ _ rfl rfl rfl rfl (infoW _) rfl (oneW _) ?_
                refine AnyK.done (by kernel_rfl) ?_
                intro W hW
                exact ⟨rfl, g6, g7, rfl, Keeps.swap hW⟩
              exact steps_nil
            exact steps_nil
          exact steps_nil
        exact steps_nil
      refine steps_cons ?_ ?_
      · refine StepK.alloc (i := 6) (some 13) rfl rfl rfl (fun W => by go_simp; rfl) (fun g6 => ?_)
        simp only [Act.put, List.setIfInBounds_toArray, List.set_cons_zero, List.set_cons_succ]
        refine AnyK.ready [2] (by kernel_rfl) (by simp) ?_
        refine steps_cons ?_ ?_
        · refine StepK.call (i := 2) (some 37) rfl rfl rfl (fun W => by go_simp) L5.out ?_
          simp only [Act.put, List.setIfInBounds_toArray, List.set_cons_zero, List.set_cons_succ]
          refine AnyK.ready [5] (by kernel_rfl) (by simp) ?_
          refine steps_cons ?_ ?_
          · refine StepK.call (i := 5) (some 40) rfl rfl rfl (fun W => by go_simp) R6.out ?_
            simp only [Act.put, List.setIfInBounds_toArray, List.set_cons_zero, List.set_cons_succ]
            refine AnyK.ready [8] (by kernel_rfl) (by simp) ?_
            refine steps_cons ?_ ?_
            · refine StepK.store 1 (i := 8) rfl rfl rfl 24 _ _ rfl rfl rfl rfl (infoW _) rfl (oneW _) ?_
              refine AnyK.ready [9] (by kernel_rfl) (by simp) ?_
              refine steps_cons ?_ ?_
              · refine StepK.store 0 (i := 9) rfl rfl rfl 24 _ _ rfl rfl rfl rfl (infoW _) rfl (oneW _) ?_
                refine AnyK.done (by kernel_rfl) ?_
                intro W hW
                exact ⟨rfl, g6, g7, rfl, Keeps.swap hW⟩
              exact steps_nil
            exact steps_nil
          exact steps_nil
        exact steps_nil
      exact steps_nil
    exact steps_nil
  clear hH
  rintro g h W1 hH
  simp only [List.nil_append, List.cons_append, List.set_cons_zero, List.set_cons_succ] at hH
  go_wp2_with (first | (go_at_call 22; with_reducible refine (N7.out _).mono ?_; rintro e W1 ⟨rfl, hB⟩; replace hH := hH.call hB; clear hB) | (have _t := tk9; refine wpList_boxg hH 1 24 _ rfl rfl rfl _ Try.underlying24 rfl (infoW _) (by rfl) ?_; clear _t tk9; have tk10 : True := trivial) | (have _t := tk10; refine wpList_boxg hH 6 24 _ rfl rfl rfl _ Try.underlying24 rfl (infoW _) (by rfl) ?_; clear _t tk10; have tk11 : True := trivial) | (have _t := tk11; refine wpList_boxg hH 2 24 _ rfl rfl rfl _ Try.underlying24 rfl (infoW _) (by rfl) ?_; clear _t tk11; have tk12 : True := trivial) | (have _t := tk12; refine wpList_boxg hH 7 24 _ rfl rfl rfl _ Try.underlying24 rfl (infoW _) (by rfl) ?_; clear _t tk12; have tk13 : True := trivial) | (have _t := tk13; refine wpList_boxg hH 4 24 _ rfl rfl rfl _ Try.underlying24 rfl (infoW _) (by rfl) ?_; clear _t tk13; have tk14 : True := trivial))
  have HLR2 := HLR.out
  have hz1 : IntKind.i64.wrap (la - (k : Int)) = la - (k : Int) := IntWalk.i64_in _ (by omega)
  have hz2 : IntKind.i64.wrap (la + (k : Int)) = la + (k : Int) := IntWalk.i64_in _ (by omega)
  have hz3 : IntKind.i64.wrap ((k : Int) / 2) = (k : Int) / 2 := IntWalk.i64_in _ (by omega)
  have hz4 : IntKind.i64.wrap ((k : Int) - (k : Int) / 2) = (k : Int) - (k : Int) / 2 := IntWalk.i64_in _ (by omega)
  refine wp_region_class (C := Keeps w _) (by kernel_rfl) (by kernel_rfl) hH.drew ?_
  (first | refine quiet_box 7 rfl 24 _ rfl rfl rfl _ Try.underlying24 rfl (infoW _) ?_ | (refine wpQuiet_step (fun K hK => ?_); go_simp; (first | refine hK _ ?_ | refine ⟨_, fun _ _ => rfl, hK _ ?_⟩); clear hK K))
  (first | (refine wpQuiet_step (fun K hK => ?_); go_simp; refine ⟨_, fun W hW => (N8.out W).mono fun _ _ h => ⟨h.1, hW.call h.2⟩, hK _ ?_⟩; clear hK K) | (refine wpQuiet_step (fun K hK => ?_); go_simp; (first | refine hK _ ?_ | refine ⟨_, fun _ _ => rfl, hK _ ?_⟩); clear hK K))
  (first | refine quiet_box 0 rfl 24 _ rfl rfl rfl _ Try.underlying24 rfl (infoW _) ?_ | (refine wpQuiet_step (fun K hK => ?_); go_simp; (first | refine hK _ ?_ | refine ⟨_, fun _ _ => rfl, hK _ ?_⟩); clear hK K))
  (first | (refine wpQuiet_step (fun K hK => ?_); go_simp; refine ⟨_, fun W hW => (N9.out W).mono fun _ _ h => ⟨h.1, hW.call h.2⟩, hK _ ?_⟩; clear hK K) | (refine wpQuiet_step (fun K hK => ?_); go_simp; (first | refine hK _ ?_ | refine ⟨_, fun _ _ => rfl, hK _ ?_⟩); clear hK K))
  (refine wpQuiet_step (fun K hK => ?_); go_simp; (first | refine hK _ ?_ | refine ⟨_, fun _ _ => rfl, hK _ ?_⟩); clear hK K)
  (refine wpQuiet_step (fun K hK => ?_); go_simp; (first | refine hK _ ?_ | refine ⟨_, fun _ _ => rfl, hK _ ?_⟩); clear hK K)
  (refine wpQuiet_step (fun K hK => ?_); go_simp; (first | refine hK _ ?_ | refine ⟨_, fun _ _ => rfl, hK _ ?_⟩); clear hK K)
  (refine wpQuiet_step (fun K hK => ?_); go_simp; (first | refine hK _ ?_ | refine ⟨_, fun _ _ => rfl, hK _ ?_⟩); clear hK K)
  (refine wpQuiet_step (fun K hK => ?_); go_simp; (first | refine hK _ ?_ | refine ⟨_, fun _ _ => rfl, hK _ ?_⟩); clear hK K)
  (first | refine quiet_box 0 rfl 24 _ rfl rfl rfl _ Try.underlying24 rfl (infoW _) ?_ | (refine wpQuiet_step (fun K hK => ?_); go_simp; (first | refine hK _ ?_ | refine ⟨_, fun _ _ => rfl, hK _ ?_⟩); clear hK K))
  (first | (refine wpQuiet_step (fun K hK => ?_); go_simp; refine ⟨_, fun W hW => (N9.out W).mono fun _ _ h => ⟨h.1, hW.call h.2⟩, hK _ ?_⟩; clear hK K) | (refine wpQuiet_step (fun K hK => ?_); go_simp; (first | refine hK _ ?_ | refine ⟨_, fun _ _ => rfl, hK _ ?_⟩); clear hK K))
  (refine wpQuiet_step (fun K hK => ?_); go_simp; (first | refine hK _ ?_ | refine ⟨_, fun _ _ => rfl, hK _ ?_⟩); clear hK K)
  (refine wpQuiet_step (fun K hK => ?_); go_simp; (first | refine hK _ ?_ | refine ⟨_, fun _ _ => rfl, hK _ ?_⟩); clear hK K)
  (refine wpQuiet_step (fun K hK => ?_); go_simp; (first | refine hK _ ?_ | refine ⟨_, fun _ _ => rfl, hK _ ?_⟩); clear hK K)
  (refine wpQuiet_step (fun K hK => ?_); go_simp; (first | refine hK _ ?_ | refine ⟨_, fun _ _ => rfl, hK _ ?_⟩); clear hK K)
  (first | refine quiet_box 6 rfl 24 _ rfl rfl rfl _ Try.underlying24 rfl (infoW _) ?_ | (refine wpQuiet_step (fun K hK => ?_); go_simp; (first | refine hK _ ?_ | refine ⟨_, fun _ _ => rfl, hK _ ?_⟩); clear hK K))
  (refine wpQuiet_step (fun K hK => ?_); go_simp; (first | refine hK _ ?_ | refine ⟨_, fun _ _ => rfl, hK _ ?_⟩); clear hK K)
  (first | (refine wpQuiet_step (fun K hK => ?_); go_simp; refine ⟨_, fun W hW => (R14.out W).mono fun _ _ h => ⟨h.1, hW.call h.2⟩, hK _ ?_⟩; clear hK K) | (refine wpQuiet_step (fun K hK => ?_); go_simp; (first | refine hK _ ?_ | refine ⟨_, fun _ _ => rfl, hK _ ?_⟩); clear hK K))
  (first | refine quiet_box 0 rfl 24 _ rfl rfl rfl _ Try.underlying24 rfl (infoW _) ?_ | (refine wpQuiet_step (fun K hK => ?_); go_simp; (first | refine hK _ ?_ | refine ⟨_, fun _ _ => rfl, hK _ ?_⟩); clear hK K))
  (refine wpQuiet_step (fun K hK => ?_); go_simp; (first | refine hK _ ?_ | refine ⟨_, fun _ _ => rfl, hK _ ?_⟩); clear hK K)
  (refine wpQuiet_step (fun K hK => ?_); go_simp; (first | refine hK _ ?_ | refine ⟨_, fun _ _ => rfl, hK _ ?_⟩); clear hK K)
  (first | refine quiet_box 0 rfl 24 _ rfl rfl rfl _ Try.underlying24 rfl (infoW _) ?_ | (refine wpQuiet_step (fun K hK => ?_); go_simp; (first | refine hK _ ?_ | refine ⟨_, fun _ _ => rfl, hK _ ?_⟩); clear hK K))
  (refine wpQuiet_step (fun K hK => ?_); go_simp; (first | refine hK _ ?_ | refine ⟨_, fun _ _ => rfl, hK _ ?_⟩); clear hK K)
  (refine wpQuiet_step (fun K hK => ?_); go_simp; (first | refine hK _ ?_ | refine ⟨_, fun _ _ => rfl, hK _ ?_⟩); clear hK K)
  (refine wpQuiet_step (fun K hK => ?_); go_simp; (first | refine hK _ ?_ | refine ⟨_, fun _ _ => rfl, hK _ ?_⟩); clear hK K)
  go_big_quiet_skip
  go_big_quiet_skip
  go_big_quiet_skip
  go_big_quiet_skip
  go_big_quiet_skip
  go_big_quiet_skip
  go_big_quiet_skip
  (refine wpQuiet_step (fun K hK => ?_); go_simp; (first | refine hK _ ?_ | refine ⟨_, fun _ _ => rfl, hK _ ?_⟩); clear hK K)
  (refine wpQuiet_step (fun K hK => ?_); go_simp; (first | refine hK _ ?_ | refine ⟨_, fun _ _ => rfl, hK _ ?_⟩); clear hK K)
  (refine wpQuiet_step (fun K hK => ?_); go_simp; (first | refine hK _ ?_ | refine ⟨_, fun _ _ => rfl, hK _ ?_⟩); clear hK K)
  (refine wpQuiet_step (fun K hK => ?_); go_simp; (first | refine hK _ ?_ | refine ⟨_, fun _ _ => rfl, hK _ ?_⟩); clear hK K)
  refine wpQuiet_nil ?_
  clear hH
  intro W hH
  go_wp2_with (first | (go_at_call 32; with_reducible refine (L10.out _).mono ?_; rintro e W1 ⟨rfl, hB⟩; replace hH := hH.call hB; clear hB) | (go_at_call 34; with_reducible refine (R11.out _).mono ?_; rintro e W1 ⟨rfl, hB⟩; replace hH := hH.call hB; clear hB) | (have _t := tk14; refine wpList_boxg hH 0 24 _ rfl rfl rfl _ Try.underlying24 rfl (infoW _) (by rfl) ?_; clear _t tk14; have tk15 : True := trivial) | (have _t := tk15; refine wpList_fill hH rfl 24 _ _ rfl rfl rfl (infoW _) rfl (oneW _) ?_; clear _t tk15 hH; have tk16 : True := trivial; intro W1 hH))
  refine wp_region_class (C := Keeps w _) (by kernel_rfl) (by kernel_rfl) hH.drew ?_
  (refine wpQuiet_step (fun K hK => ?_); go_simp; (first | refine hK _ ?_ | refine ⟨_, fun _ _ => rfl, hK _ ?_⟩); clear hK K)
  (refine wpQuiet_step (fun K hK => ?_); go_simp; (first | refine hK _ ?_ | refine ⟨_, fun _ _ => rfl, hK _ ?_⟩); clear hK K)
  (first | refine quiet_box 8 rfl 24 _ rfl rfl rfl _ Try.underlying24 rfl (infoW _) ?_ | (refine wpQuiet_step (fun K hK => ?_); go_simp; (first | refine hK _ ?_ | refine ⟨_, fun _ _ => rfl, hK _ ?_⟩); clear hK K))
  (first | refine quiet_box 0 rfl 24 _ rfl rfl rfl _ Try.underlying24 rfl (infoW _) ?_ | (refine wpQuiet_step (fun K hK => ?_); go_simp; (first | refine hK _ ?_ | refine ⟨_, fun _ _ => rfl, hK _ ?_⟩); clear hK K))
  (first | (refine wpQuiet_step (fun K hK => ?_); go_simp; refine ⟨_, fun W hW => (K12.out W).mono fun _ _ h => ⟨h.1, hW.call h.2⟩, hK _ ?_⟩; clear hK K) | (refine wpQuiet_step (fun K hK => ?_); go_simp; (first | refine hK _ ?_ | refine ⟨_, fun _ _ => rfl, hK _ ?_⟩); clear hK K))
  (refine wpQuiet_step (fun K hK => ?_); go_simp; (first | refine hK _ ?_ | refine ⟨_, fun _ _ => rfl, hK _ ?_⟩); clear hK K)
  (refine wpQuiet_step (fun K hK => ?_); go_simp; (first | refine hK _ ?_ | refine ⟨_, fun _ _ => rfl, hK _ ?_⟩); clear hK K)
  (refine wpQuiet_step (fun K hK => ?_); go_simp; (first | refine hK _ ?_ | refine ⟨_, fun _ _ => rfl, hK _ ?_⟩); clear hK K)
  (first | refine quiet_box 0 rfl 24 _ rfl rfl rfl _ Try.underlying24 rfl (infoW _) ?_ | (refine wpQuiet_step (fun K hK => ?_); go_simp; (first | refine hK _ ?_ | refine ⟨_, fun _ _ => rfl, hK _ ?_⟩); clear hK K))
  (refine wpQuiet_step (fun K hK => ?_); go_simp; (first | refine hK _ ?_ | refine ⟨_, fun _ _ => rfl, hK _ ?_⟩); clear hK K)
  (refine wpQuiet_step (fun K hK => ?_); go_simp; (first | refine hK _ ?_ | refine ⟨_, fun _ _ => rfl, hK _ ?_⟩); clear hK K)
  (first | (refine wpQuiet_step (fun K hK => ?_); go_simp; refine ⟨_, fun W hW => (L10.out W).mono fun _ _ h => ⟨h.1, hW.call h.2⟩, hK _ ?_⟩; clear hK K) | (refine wpQuiet_step (fun K hK => ?_); go_simp; (first | refine hK _ ?_ | refine ⟨_, fun _ _ => rfl, hK _ ?_⟩); clear hK K))
  (refine wpQuiet_step (fun K hK => ?_); go_simp; (first | refine hK _ ?_ | refine ⟨_, fun _ _ => rfl, hK _ ?_⟩); clear hK K)
  (refine wpQuiet_step (fun K hK => ?_); go_simp; (first | refine hK _ ?_ | refine ⟨_, fun _ _ => rfl, hK _ ?_⟩); clear hK K)
  (refine wpQuiet_step (fun K hK => ?_); go_simp; (first | refine hK _ ?_ | refine ⟨_, fun _ _ => rfl, hK _ ?_⟩); clear hK K)
  (refine wpQuiet_step (fun K hK => ?_); go_simp; (first | refine hK _ ?_ | refine ⟨_, fun _ _ => rfl, hK _ ?_⟩); clear hK K)
  (first | (refine wpQuiet_step (fun K hK => ?_); go_simp; refine ⟨_, fun W hW => (L13.out W).mono fun _ _ h => ⟨h.1, hW.call h.2⟩, hK _ ?_⟩; clear hK K) | (refine wpQuiet_step (fun K hK => ?_); go_simp; (first | refine hK _ ?_ | refine ⟨_, fun _ _ => rfl, hK _ ?_⟩); clear hK K))
  (first | refine quiet_box 6 rfl 24 _ rfl rfl rfl _ Try.underlying24 rfl (infoW _) ?_ | (refine wpQuiet_step (fun K hK => ?_); go_simp; (first | refine hK _ ?_ | refine ⟨_, fun _ _ => rfl, hK _ ?_⟩); clear hK K))
  (refine wpQuiet_step (fun K hK => ?_); go_simp; (first | refine hK _ ?_ | refine ⟨_, fun _ _ => rfl, hK _ ?_⟩); clear hK K)
  (refine wpQuiet_step (fun K hK => ?_); go_simp; (first | refine hK _ ?_ | refine ⟨_, fun _ _ => rfl, hK _ ?_⟩); clear hK K)
  (refine wpQuiet_step (fun K hK => ?_); go_simp; (first | refine hK _ ?_ | refine ⟨_, fun _ _ => rfl, hK _ ?_⟩); clear hK K)
  refine wpQuiet_nil ?_
  clear hH
  intro W hH
  go_wp2
  go_ret
  exact ⟨rfl, hH.bel⟩

set_option maxRecDepth 100000 in
set_option maxHeartbeats 8000000 in
theorem shifted_some (a k pw l hi r s m half : Nat) (lr la c : Int) (w : World)
    (CV : Hid (∀ w, Calls Try.prog 42 #[] w fun e w' => e = .returned (.bool true) ∧ Below w.heap.size w w'))
    (O1 : Hid (∀ w, Calls Try.prog 16 #[.int .u64 1] w fun e w' => e = .returned (.agg (wcells 1)) ∧ Below w.heap.size w w'))
    (P2 : Hid (∀ w, Calls Try.prog 32 #[.agg (wcells 1), .int .i64 (k : Int)] w fun e w' => e = .returned (.agg (wcells pw)) ∧ Below w.heap.size w w'))
    (X3 : Hid (∀ w, Calls Try.prog 30 #[.agg (wcells a), .agg (wcells pw)] w fun e w' => e = .returned (.tuple #[.agg (wcells l), .agg (wcells hi)]) ∧ Below w.heap.size w w'))
    (D4 : Hid (∀ w, Calls Try.prog 38 #[.agg (wcells a), .agg (wcells pw)] w fun e w' => e = .returned (.tuple #[.agg (wcells r), .agg (wcells s), .int .i64 0]) ∧ Below w.heap.size w w'))
    (L5 : Hid (∀ w, Calls Try.prog 32 #[.agg (wcells a), .int .i64 (k : Int)] w fun e w' => e = .returned (.agg (wcells l)) ∧ Below w.heap.size w w'))
    (R6 : Hid (∀ w, Calls Try.prog 34 #[.agg (wcells a), .int .i64 (k : Int)] w fun e w' => e = .returned (.agg (wcells r)) ∧ Below w.heap.size w w'))
    (N7 : Hid (∀ w, Calls Try.prog 22 #[.agg (wcells pw)] w fun e w' => e = .returned (.int .i64 ((k : Int) + 1)) ∧ Below w.heap.size w w'))
    (N8 : Hid (∀ w, Calls Try.prog 22 #[.agg (wcells r)] w fun e w' => e = .returned (.int .i64 lr) ∧ Below w.heap.size w w'))
    (N9 : Hid (∀ w, Calls Try.prog 22 #[.agg (wcells a)] w fun e w' => e = .returned (.int .i64 la) ∧ Below w.heap.size w w'))
    (L10 : Hid (∀ w, Calls Try.prog 32 #[.agg (wcells a), .int .i64 ((k : Int) / 2)] w fun e w' => e = .returned (.agg (wcells m)) ∧ Below w.heap.size w w'))
    (R11 : Hid (∀ w, Calls Try.prog 34 #[.agg (wcells m), .int .i64 ((k : Int) / 2)] w fun e w' => e = .returned (.agg (wcells half)) ∧ Below w.heap.size w w'))
    (K12 : Hid (∀ w, Calls Try.prog 24 #[.agg (wcells half), .agg (wcells a)] w fun e w' => e = .returned (.int .i64 c) ∧ Below w.heap.size w w'))
    (L13 : Hid (∀ w, Calls Try.prog 32 #[.agg (wcells m), .int .i64 ((k : Int) - (k : Int) / 2)] w fun e w' => e = .returned (.agg (wcells l)) ∧ Below w.heap.size w w'))
    (R14 : Hid (∀ w, Calls Try.prog 34 #[.agg (wcells l), .int .i64 (k : Int)] w fun e w' => e = .returned (.agg (wcells a)) ∧ Below w.heap.size w w'))
    (N15 : Hid (∀ w, Calls Try.prog 22 #[.agg (wcells l)] w fun e w' => e = .returned (.int .i64 (la + (k : Int))) ∧ Below w.heap.size w w'))
    (hk : k < 256) (hla : 0 ≤ la) (hla2 : la ≤ 256) (hlr : lr = max 0 (la - (k : Int))) (hc : c ≤ 0)
    (hfit : la + (k : Int) ≤ 256)
    (hA : ∀ w, (Op.equalIn 10000 24 (.agg (wcells a)) (.agg #[.int .u64 0, .int .u64 0, .int .u64 0, .int .u64 0])).run Try.prog w = .ok false w) :
    Calls Try.prog 10 #[.agg (wcells a), .int .u8 (k : Int)] w fun e w' => e = .returned (.bool true) ∧ Below w.heap.size w w' := by
  have hE := eqW
  have hH := keeps1 w (wcells a) 24
  have hk2 : (k : Int) / 2 ≤ k := by omega
  have HLR := Lib.hid hlr
  clear hlr
  go_enter Try.func10, Try.ntmps10
  go_wp2_with fail
  generalize w.alloc (.cells (wcells a) 24) = W0 at *
  have tk0 : True := trivial
  go_wp2_with (first | (go_at_call 42; with_reducible refine (CV.out _).mono ?_; rintro e W1 ⟨rfl, hB⟩; replace hH := hH.call hB; clear hB) | (go_at_call 16; with_reducible refine (O1.out _).mono ?_; rintro e W1 ⟨rfl, hB⟩; replace hH := hH.call hB; clear hB) | (go_at_call 32; with_reducible refine (P2.out _).mono ?_; rintro e W1 ⟨rfl, hB⟩; replace hH := hH.call hB; clear hB) | (go_at_call 30; with_reducible refine (X3.out _).mono ?_; rintro e W1 ⟨rfl, hB⟩; replace hH := hH.call hB; clear hB) | (go_at_call 38; with_reducible refine (D4.out _).mono ?_; rintro e W1 ⟨rfl, hB⟩; replace hH := hH.call hB; clear hB) | (go_at_call 32; with_reducible refine (L5.out _).mono ?_; rintro e W1 ⟨rfl, hB⟩; replace hH := hH.call hB; clear hB) | (go_at_call 34; with_reducible refine (R6.out _).mono ?_; rintro e W1 ⟨rfl, hB⟩; replace hH := hH.call hB; clear hB) | (go_at_call 22; with_reducible refine (N7.out _).mono ?_; rintro e W1 ⟨rfl, hB⟩; replace hH := hH.call hB; clear hB) | (go_at_call 22; with_reducible refine (N8.out _).mono ?_; rintro e W1 ⟨rfl, hB⟩; replace hH := hH.call hB; clear hB) | (go_at_call 22; with_reducible refine (N9.out _).mono ?_; rintro e W1 ⟨rfl, hB⟩; replace hH := hH.call hB; clear hB) | (go_at_call 32; with_reducible refine (L10.out _).mono ?_; rintro e W1 ⟨rfl, hB⟩; replace hH := hH.call hB; clear hB) | (go_at_call 34; with_reducible refine (R11.out _).mono ?_; rintro e W1 ⟨rfl, hB⟩; replace hH := hH.call hB; clear hB) | (go_at_call 24; with_reducible refine (K12.out _).mono ?_; rintro e W1 ⟨rfl, hB⟩; replace hH := hH.call hB; clear hB) | (go_at_call 32; with_reducible refine (L13.out _).mono ?_; rintro e W1 ⟨rfl, hB⟩; replace hH := hH.call hB; clear hB) | (go_at_call 34; with_reducible refine (R14.out _).mono ?_; rintro e W1 ⟨rfl, hB⟩; replace hH := hH.call hB; clear hB) | (go_at_call 22; with_reducible refine (N15.out _).mono ?_; rintro e W1 ⟨rfl, hB⟩; replace hH := hH.call hB; clear hB) | (have _t := tk0; refine wpList_fill hH rfl 24 _ _ rfl rfl rfl (infoW _) rfl (oneW _) ?_; clear _t tk0 hH; have tk1 : True := trivial; intro W1 hH) | (have _t := tk1; refine wpList_boxg hH 0 24 _ rfl rfl rfl _ Try.underlying24 rfl (infoW _) (by rfl) ?_; clear _t tk1; have tk2 : True := trivial) | (have _t := tk2; refine wpList_boxg hH 1 24 _ rfl rfl rfl _ Try.underlying24 rfl (infoW _) (by rfl) ?_; clear _t tk2; have tk3 : True := trivial) | (have _t := tk3; refine wpList_fill2 hH rfl 24 _ _ rfl rfl rfl (infoW _) rfl (oneW _) ?_; clear _t tk3 hH; have tk4 : True := trivial; intro W1 hH) | (have _t := tk4; refine wpList_put hH 3 rfl 24 _ _ rfl rfl rfl rfl (infoW _) rfl (oneW _) ?_; clear _t tk4 hH; have tk5 : True := trivial; intro W1 hH) | (have _t := tk5; refine wpList_boxg hH 0 24 _ rfl rfl rfl _ Try.underlying24 rfl (infoW _) (by rfl) ?_; clear _t tk5; have tk6 : True := trivial) | (have _t := tk6; refine wpList_boxg hH 1 24 _ rfl rfl rfl _ Try.underlying24 rfl (infoW _) (by rfl) ?_; clear _t tk6; have tk7 : True := trivial) | (have _t := tk7; refine wpList_fill2 hH rfl 24 _ _ rfl rfl rfl (infoW _) rfl (oneW _) ?_; clear _t tk7 hH; have tk8 : True := trivial; intro W1 hH) | (have _t := tk8; refine wpList_put hH 5 rfl 24 _ _ rfl rfl rfl rfl (infoW _) rfl (oneW _) ?_; clear _t tk8 hH; have tk9 : True := trivial; intro W1 hH))
  apply wp_boxes2 (W0 := w)
  case hreg =>
    refine AnyK.start 10 rfl (by kernel_rfl) hH ?_
    refine AnyK.take 0 (some 35) rfl rfl (by kernel_rfl) (by kernel_rfl) (by kernel_rfl) (fun _ _ _ h => nomatch h.1) (yieldsIf_box 0 rfl 24 _ rfl rfl rfl _ Try.underlying24 rfl (infoW _)) ?_
    simp only [Act.put, List.setIfInBounds_toArray, List.set_cons_zero, List.set_cons_succ]
    refine AnyK.take 1 (some 36) rfl rfl (by kernel_rfl) (by kernel_rfl) (by kernel_rfl) (fun _ _ _ h => nomatch h.1) (v := _) (.inl ⟨by rfl, fun W hW => by first | (go_simp; done) | (go_simp; rfl)⟩) ?_
    simp only [Act.put, List.setIfInBounds_toArray, List.set_cons_zero, List.set_cons_succ]
    refine AnyK.take 3 (some 38) rfl rfl (by kernel_rfl) (by kernel_rfl) (by kernel_rfl) (fun _ _ _ h => nomatch h.1) (yieldsIf_box 0 rfl 24 _ rfl rfl rfl _ Try.underlying24 rfl (infoW _)) ?_
    simp only [Act.put, List.setIfInBounds_toArray, List.set_cons_zero, List.set_cons_succ]
    refine AnyK.take 4 (some 39) rfl rfl (by kernel_rfl) (by kernel_rfl) (by kernel_rfl) (fun _ _ _ h => nomatch h.1) (v := _) (.inl ⟨by rfl, fun W hW => by first | (go_simp; done) | (go_simp; rfl)⟩) ?_
    simp only [Act.put, List.setIfInBounds_toArray, List.set_cons_zero, List.set_cons_succ]
    refine AnyK.ready [2, 6, 7] (by kernel_rfl) (by simp) ?_
    refine steps_cons ?_ ?_
    · refine StepK.call (i := 2) (some 37) rfl rfl rfl (fun W => by go_simp) L5.out ?_
      simp only [Act.put, List.setIfInBounds_toArray, List.set_cons_zero, List.set_cons_succ]
      refine AnyK.ready [5, 6, 7] (by kernel_rfl) (by simp) ?_
      refine steps_cons ?_ ?_
      · refine StepK.call (i := 5) (some 40) rfl rfl rfl (fun W => by go_simp) R6.out ?_
        simp only [Act.put, List.setIfInBounds_toArray, List.set_cons_zero, List.set_cons_succ]
        refine AnyK.ready [6, 7] (by kernel_rfl) (by simp) ?_
        refine steps_cons ?_ ?_
        · refine StepK.alloc (i := 6) (some 13) rfl rfl rfl (fun W => by go_simp; rfl) (fun g6 => ?_)
          simp only [Act.put, List.setIfInBounds_toArray, List.set_cons_zero, List.set_cons_succ]
          refine AnyK.ready [7] (by kernel_rfl) (by simp) ?_
          refine steps_cons ?_ ?_
          · refine StepK.alloc (i := 7) (some 14) rfl rfl rfl (fun W => by go_simp; rfl) (fun g7 => ?_)
            simp only [Act.put, List.setIfInBounds_toArray, List.set_cons_zero, List.set_cons_succ]
            refine AnyK.ready [8] (by kernel_rfl) (by simp) ?_
            refine steps_cons ?_ ?_
            · refine StepK.store 0 (i := 8) rfl rfl rfl 24 _ _ rfl rfl rfl rfl (infoW _) rfl (oneW _) ?_
              refine AnyK.ready [9] (by kernel_rfl) (by simp) ?_
              refine steps_cons ?_ ?_
              · refine StepK.store 1 (i := 9) rfl rfl rfl 24 _ _ rfl rfl rfl rfl (infoW _) rfl (oneW _) ?_
                refine AnyK.done (by kernel_rfl) ?_
                intro W hW
                exact ⟨rfl, g6, g7, rfl, hW⟩
              exact steps_nil
            exact steps_nil
          exact steps_nil
        refine steps_cons ?_ ?_
        · refine StepK.alloc (i := 7) (some 14) rfl rfl rfl (fun W => by go_simp; rfl) (fun g7 => ?_)
          simp only [Act.put, List.setIfInBounds_toArray, List.set_cons_zero, List.set_cons_succ]
          refine AnyK.ready [6] (by kernel_rfl) (by simp) ?_
          refine steps_cons ?_ ?_
          · refine StepK.alloc (i := 6) (some 13) rfl rfl rfl (fun W => by go_simp; rfl) (fun g6 => ?_)
            simp only [Act.put, List.setIfInBounds_toArray, List.set_cons_zero, List.set_cons_succ]
            refine AnyK.ready [8] (by kernel_rfl) (by simp) ?_
            refine steps_cons ?_ ?_
            · refine StepK.store 1 (i := 8) rfl rfl rfl 24 _ _ rfl rfl rfl rfl (infoW _) rfl (oneW _) ?_
              refine AnyK.ready [9] (by kernel_rfl) (by simp) ?_
              refine steps_cons ?_ ?_
              · refine StepK.store 0 (i := 9) rfl rfl rfl 24 _ _ rfl rfl rfl rfl (infoW _) rfl (oneW _) ?_
                refine AnyK.done (by kernel_rfl) ?_
                intro W hW
                exact ⟨rfl, g6, g7, rfl, Keeps.swap hW⟩
              exact steps_nil
            exact steps_nil
          exact steps_nil
        exact steps_nil
      refine steps_cons ?_ ?_
      · refine StepK.alloc (i := 6) (some 13) rfl rfl rfl (fun W => by go_simp; rfl) (fun g6 => ?_)
        simp only [Act.put, List.setIfInBounds_toArray, List.set_cons_zero, List.set_cons_succ]
        refine AnyK.ready [5, 7] (by kernel_rfl) (by simp) ?_
        refine steps_cons ?_ ?_
        · refine StepK.call (i := 5) (some 40) rfl rfl rfl (fun W => by go_simp) R6.out ?_
          simp only [Act.put, List.setIfInBounds_toArray, List.set_cons_zero, List.set_cons_succ]
          refine AnyK.ready [7] (by kernel_rfl) (by simp) ?_
          refine steps_cons ?_ ?_
          · refine StepK.alloc (i := 7) (some 14) rfl rfl rfl (fun W => by go_simp; rfl) (fun g7 => ?_)
            simp only [Act.put, List.setIfInBounds_toArray, List.set_cons_zero, List.set_cons_succ]
            refine AnyK.ready [8] (by kernel_rfl) (by simp) ?_
            refine steps_cons ?_ ?_
            · refine StepK.store 0 (i := 8) rfl rfl rfl 24 _ _ rfl rfl rfl rfl (infoW _) rfl (oneW _) ?_
              refine AnyK.ready [9] (by kernel_rfl) (by simp) ?_
              refine steps_cons ?_ ?_
              · refine StepK.store 1 (i := 9) rfl rfl rfl 24 _ _ rfl rfl rfl rfl (infoW _) rfl (oneW _) ?_
                refine AnyK.done (by kernel_rfl) ?_
                intro W hW
                exact ⟨rfl, g6, g7, rfl, hW⟩
              exact steps_nil
            exact steps_nil
          exact steps_nil
        refine steps_cons ?_ ?_
        · refine StepK.alloc (i := 7) (some 14) rfl rfl rfl (fun W => by go_simp; rfl) (fun g7 => ?_)
          simp only [Act.put, List.setIfInBounds_toArray, List.set_cons_zero, List.set_cons_succ]
          refine AnyK.ready [5] (by kernel_rfl) (by simp) ?_
          refine steps_cons ?_ ?_
          · refine StepK.call (i := 5) (some 40) rfl rfl rfl (fun W => by go_simp) R6.out ?_
            simp only [Act.put, List.setIfInBounds_toArray, List.set_cons_zero, List.set_cons_succ]
            refine AnyK.ready [8] (by kernel_rfl) (by simp) ?_
            refine steps_cons ?_ ?_
            · refine StepK.store 0 (i := 8) rfl rfl rfl 24 _ _ rfl rfl rfl rfl (infoW _) rfl (oneW _) ?_
              refine AnyK.ready [9] (by kernel_rfl) (by simp) ?_
              refine steps_cons ?_ ?_
              · refine StepK.store 1 (i := 9) rfl rfl rfl 24 _ _ rfl rfl rfl rfl (infoW _) rfl (oneW _) ?_
                refine AnyK.done (by kernel_rfl) ?_
                intro W hW
                exact ⟨rfl, g6, g7, rfl, hW⟩
              exact steps_nil
            exact steps_nil
          exact steps_nil
        exact steps_nil
      refine steps_cons ?_ ?_
      · refine StepK.alloc (i := 7) (some 14) rfl rfl rfl (fun W => by go_simp; rfl) (fun g7 => ?_)
        simp only [Act.put, List.setIfInBounds_toArray, List.set_cons_zero, List.set_cons_succ]
        refine AnyK.ready [5, 6] (by kernel_rfl) (by simp) ?_
        refine steps_cons ?_ ?_
        · refine StepK.call (i := 5) (some 40) rfl rfl rfl (fun W => by go_simp) R6.out ?_
          simp only [Act.put, List.setIfInBounds_toArray, List.set_cons_zero, List.set_cons_succ]
          refine AnyK.ready [6] (by kernel_rfl) (by simp) ?_
          refine steps_cons ?_ ?_
          · refine StepK.alloc (i := 6) (some 13) rfl rfl rfl (fun W => by go_simp; rfl) (fun g6 => ?_)
            simp only [Act.put, List.setIfInBounds_toArray, List.set_cons_zero, List.set_cons_succ]
            refine AnyK.ready [8] (by kernel_rfl) (by simp) ?_
            refine steps_cons ?_ ?_
            · refine StepK.store 1 (i := 8) rfl rfl rfl 24 _ _ rfl rfl rfl rfl (infoW _) rfl (oneW _) ?_
              refine AnyK.ready [9] (by kernel_rfl) (by simp) ?_
              refine steps_cons ?_ ?_
              · refine StepK.store 0 (i := 9) rfl rfl rfl 24 _ _ rfl rfl rfl rfl (infoW _) rfl (oneW _) ?_
                refine AnyK.done (by kernel_rfl) ?_
                intro W hW
                exact ⟨rfl, g6, g7, rfl, Keeps.swap hW⟩
              exact steps_nil
            exact steps_nil
          exact steps_nil
        refine steps_cons ?_ ?_
        · refine StepK.alloc (i := 6) (some 13) rfl rfl rfl (fun W => by go_simp; rfl) (fun g6 => ?_)
          simp only [Act.put, List.setIfInBounds_toArray, List.set_cons_zero, List.set_cons_succ]
          refine AnyK.ready [5] (by kernel_rfl) (by simp) ?_
          refine steps_cons ?_ ?_
          · refine StepK.call (i := 5) (some 40) rfl rfl rfl (fun W => by go_simp) R6.out ?_
            simp only [Act.put, List.setIfInBounds_toArray, List.set_cons_zero, List.set_cons_succ]
            refine AnyK.ready [8] (by kernel_rfl) (by simp) ?_
            refine steps_cons ?_ ?_
            · refine StepK.store 1 (i := 8) rfl rfl rfl 24 _ _ rfl rfl rfl rfl (infoW _) rfl (oneW _) ?_
              refine AnyK.ready [9] (by kernel_rfl) (by simp) ?_
              refine steps_cons ?_ ?_
              · refine StepK.store 0 (i := 9) rfl rfl rfl 24 _ _ rfl rfl rfl rfl (infoW _) rfl (oneW _) ?_
                refine AnyK.done (by kernel_rfl) ?_
                intro W hW
                exact ⟨rfl, g6, g7, rfl, Keeps.swap hW⟩
              exact steps_nil
            exact steps_nil
          exact steps_nil
        exact steps_nil
      exact steps_nil
    refine steps_cons ?_ ?_
    · refine StepK.alloc (i := 6) (some 13) rfl rfl rfl (fun W => by go_simp; rfl) (fun g6 => ?_)
      simp only [Act.put, List.setIfInBounds_toArray, List.set_cons_zero, List.set_cons_succ]
      refine AnyK.ready [2, 7] (by kernel_rfl) (by simp) ?_
      refine steps_cons ?_ ?_
      · refine StepK.call (i := 2) (some 37) rfl rfl rfl (fun W => by go_simp) L5.out ?_
        simp only [Act.put, List.setIfInBounds_toArray, List.set_cons_zero, List.set_cons_succ]
        refine AnyK.ready [5, 7] (by kernel_rfl) (by simp) ?_
        refine steps_cons ?_ ?_
        · refine StepK.call (i := 5) (some 40) rfl rfl rfl (fun W => by go_simp) R6.out ?_
          simp only [Act.put, List.setIfInBounds_toArray, List.set_cons_zero, List.set_cons_succ]
          refine AnyK.ready [7] (by kernel_rfl) (by simp) ?_
          refine steps_cons ?_ ?_
          · refine StepK.alloc (i := 7) (some 14) rfl rfl rfl (fun W => by go_simp; rfl) (fun g7 => ?_)
            simp only [Act.put, List.setIfInBounds_toArray, List.set_cons_zero, List.set_cons_succ]
            refine AnyK.ready [8] (by kernel_rfl) (by simp) ?_
            refine steps_cons ?_ ?_
            · refine StepK.store 0 (i := 8) rfl rfl rfl 24 _ _ rfl rfl rfl rfl (infoW _) rfl (oneW _) ?_
              refine AnyK.ready [9] (by kernel_rfl) (by simp) ?_
              refine steps_cons ?_ ?_
              · refine StepK.store 1 (i := 9) rfl rfl rfl 24 _ _ rfl rfl rfl rfl (infoW _) rfl (oneW _) ?_
                refine AnyK.done (by kernel_rfl) ?_
                intro W hW
                exact ⟨rfl, g6, g7, rfl, hW⟩
              exact steps_nil
            exact steps_nil
          exact steps_nil
        refine steps_cons ?_ ?_
        · refine StepK.alloc (i := 7) (some 14) rfl rfl rfl (fun W => by go_simp; rfl) (fun g7 => ?_)
          simp only [Act.put, List.setIfInBounds_toArray, List.set_cons_zero, List.set_cons_succ]
          refine AnyK.ready [5] (by kernel_rfl) (by simp) ?_
          refine steps_cons ?_ ?_
          · refine StepK.call (i := 5) (some 40) rfl rfl rfl (fun W => by go_simp) R6.out ?_
            simp only [Act.put, List.setIfInBounds_toArray, List.set_cons_zero, List.set_cons_succ]
            refine AnyK.ready [8] (by kernel_rfl) (by simp) ?_
            refine steps_cons ?_ ?_
            · refine StepK.store 0 (i := 8) rfl rfl rfl 24 _ _ rfl rfl rfl rfl (infoW _) rfl (oneW _) ?_
              refine AnyK.ready [9] (by kernel_rfl) (by simp) ?_
              refine steps_cons ?_ ?_
              · refine StepK.store 1 (i := 9) rfl rfl rfl 24 _ _ rfl rfl rfl rfl (infoW _) rfl (oneW _) ?_
                refine AnyK.done (by kernel_rfl) ?_
                intro W hW
                exact ⟨rfl, g6, g7, rfl, hW⟩
              exact steps_nil
            exact steps_nil
          exact steps_nil
        exact steps_nil
      refine steps_cons ?_ ?_
      · refine StepK.alloc (i := 7) (some 14) rfl rfl rfl (fun W => by go_simp; rfl) (fun g7 => ?_)
        simp only [Act.put, List.setIfInBounds_toArray, List.set_cons_zero, List.set_cons_succ]
        refine AnyK.ready [2] (by kernel_rfl) (by simp) ?_
        refine steps_cons ?_ ?_
        · refine StepK.call (i := 2) (some 37) rfl rfl rfl (fun W => by go_simp) L5.out ?_
          simp only [Act.put, List.setIfInBounds_toArray, List.set_cons_zero, List.set_cons_succ]
          refine AnyK.ready [5] (by kernel_rfl) (by simp) ?_
          refine steps_cons ?_ ?_
          · refine StepK.call (i := 5) (some 40) rfl rfl rfl (fun W => by go_simp) R6.out ?_
            simp only [Act.put, List.setIfInBounds_toArray, List.set_cons_zero, List.set_cons_succ]
            refine AnyK.ready [8] (by kernel_rfl) (by simp) ?_
            refine steps_cons ?_ ?_
            · refine StepK.store 0 (i := 8) rfl rfl rfl 24 _ _ rfl rfl rfl rfl (infoW _) rfl (oneW _) ?_
              refine AnyK.ready [9] (by kernel_rfl) (by simp) ?_
              refine steps_cons ?_ ?_
              · refine StepK.store 1 (i := 9) rfl rfl rfl 24 _ _ rfl rfl rfl rfl (infoW _) rfl (oneW _) ?_
                refine AnyK.done (by kernel_rfl) ?_
                intro W hW
                exact ⟨rfl, g6, g7, rfl, hW⟩
              exact steps_nil
            exact steps_nil
          exact steps_nil
        exact steps_nil
      exact steps_nil
    refine steps_cons ?_ ?_
    · refine StepK.alloc (i := 7) (some 14) rfl rfl rfl (fun W => by go_simp; rfl) (fun g7 => ?_)
      simp only [Act.put, List.setIfInBounds_toArray, List.set_cons_zero, List.set_cons_succ]
      refine AnyK.ready [2, 6] (by kernel_rfl) (by simp) ?_
      refine steps_cons ?_ ?_
      · refine StepK.call (i := 2) (some 37) rfl rfl rfl (fun W => by go_simp) L5.out ?_
        simp only [Act.put, List.setIfInBounds_toArray, List.set_cons_zero, List.set_cons_succ]
        refine AnyK.ready [5, 6] (by kernel_rfl) (by simp) ?_
        refine steps_cons ?_ ?_
        · refine StepK.call (i := 5) (some 40) rfl rfl rfl (fun W => by go_simp) R6.out ?_
          simp only [Act.put, List.setIfInBounds_toArray, List.set_cons_zero, List.set_cons_succ]
          refine AnyK.ready [6] (by kernel_rfl) (by simp) ?_
          refine steps_cons ?_ ?_
          · refine StepK.alloc (i := 6) (some 13) rfl rfl rfl (fun W => by go_simp; rfl) (fun g6 => ?_)
            simp only [Act.put, List.setIfInBounds_toArray, List.set_cons_zero, List.set_cons_succ]
            refine AnyK.ready [8] (by kernel_rfl) (by simp) ?_
            refine steps_cons ?_ ?_
            · refine StepK.store 1 (i := 8) rfl rfl rfl 24 _ _ rfl rfl rfl rfl (infoW _) rfl (oneW _) ?_
              refine AnyK.ready [9] (by kernel_rfl) (by simp) ?_
              refine steps_cons ?_ ?_
              · refine StepK.store 0 (i := 9) rfl rfl rfl 24 _ _ rfl rfl rfl rfl (infoW _) rfl (oneW _) ?_
                refine AnyK.done (by kernel_rfl) ?_
                intro W hW
                exact ⟨rfl, g6, g7, rfl, Keeps.swap hW⟩
              exact steps_nil
            exact steps_nil
          exact steps_nil
        refine steps_cons ?_ ?_
        · refine StepK.alloc (i := 6) (some 13) rfl rfl rfl (fun W => by go_simp; rfl) (fun g6 => ?_)
          simp only [Act.put, List.setIfInBounds_toArray, List.set_cons_zero, List.set_cons_succ]
          refine AnyK.ready [5] (by kernel_rfl) (by simp) ?_
          refine steps_cons ?_ ?_
          · refine StepK.call (i := 5) (some 40) rfl rfl rfl (fun W => by go_simp) R6.out ?_
            simp only [Act.put, List.setIfInBounds_toArray, List.set_cons_zero, List.set_cons_succ]
            refine AnyK.ready [8] (by kernel_rfl) (by simp) ?_
            refine steps_cons ?_ ?_
            · refine StepK.store 1 (i := 8) rfl rfl rfl 24 _ _ rfl rfl rfl rfl (infoW _) rfl (oneW _) ?_
              refine AnyK.ready [9] (by kernel_rfl) (by simp) ?_
              refine steps_cons ?_ ?_
              · refine StepK.store 0 (i := 9) rfl rfl rfl 24 _ _ rfl rfl rfl rfl (infoW _) rfl (oneW _) ?_
                refine AnyK.done (by kernel_rfl) ?_
                intro W hW
                exact ⟨rfl, g6, g7, rfl, Keeps.swap hW⟩
              exact steps_nil
            exact steps_nil
          exact steps_nil
        exact steps_nil
      refine steps_cons ?_ ?_
      · refine StepK.alloc (i := 6) (some 13) rfl rfl rfl (fun W => by go_simp; rfl) (fun g6 => ?_)
        simp only [Act.put, List.setIfInBounds_toArray, List.set_cons_zero, List.set_cons_succ]
        refine AnyK.ready [2] (by kernel_rfl) (by simp) ?_
        refine steps_cons ?_ ?_
        · refine StepK.call (i := 2) (some 37) rfl rfl rfl (fun W => by go_simp) L5.out ?_
          simp only [Act.put, List.setIfInBounds_toArray, List.set_cons_zero, List.set_cons_succ]
          refine AnyK.ready [5] (by kernel_rfl) (by simp) ?_
          refine steps_cons ?_ ?_
          · refine StepK.call (i := 5) (some 40) rfl rfl rfl (fun W => by go_simp) R6.out ?_
            simp only [Act.put, List.setIfInBounds_toArray, List.set_cons_zero, List.set_cons_succ]
            refine AnyK.ready [8] (by kernel_rfl) (by simp) ?_
            refine steps_cons ?_ ?_
            · refine StepK.store 1 (i := 8) rfl rfl rfl 24 _ _ rfl rfl rfl rfl (infoW _) rfl (oneW _) ?_
              refine AnyK.ready [9] (by kernel_rfl) (by simp) ?_
              refine steps_cons ?_ ?_
              · refine StepK.store 0 (i := 9) rfl rfl rfl 24 _ _ rfl rfl rfl rfl (infoW _) rfl (oneW _) ?_
                refine AnyK.done (by kernel_rfl) ?_
                intro W hW
                exact ⟨rfl, g6, g7, rfl, Keeps.swap hW⟩
              exact steps_nil
            exact steps_nil
          exact steps_nil
        exact steps_nil
      exact steps_nil
    exact steps_nil
  clear hH
  rintro g h W1 hH
  simp only [List.nil_append, List.cons_append, List.set_cons_zero, List.set_cons_succ] at hH
  go_wp2_with (first | (go_at_call 22; with_reducible refine (N7.out _).mono ?_; rintro e W1 ⟨rfl, hB⟩; replace hH := hH.call hB; clear hB) | (have _t := tk9; refine wpList_boxg hH 1 24 _ rfl rfl rfl _ Try.underlying24 rfl (infoW _) (by rfl) ?_; clear _t tk9; have tk10 : True := trivial) | (have _t := tk10; refine wpList_boxg hH 6 24 _ rfl rfl rfl _ Try.underlying24 rfl (infoW _) (by rfl) ?_; clear _t tk10; have tk11 : True := trivial) | (have _t := tk11; refine wpList_boxg hH 2 24 _ rfl rfl rfl _ Try.underlying24 rfl (infoW _) (by rfl) ?_; clear _t tk11; have tk12 : True := trivial) | (have _t := tk12; refine wpList_boxg hH 7 24 _ rfl rfl rfl _ Try.underlying24 rfl (infoW _) (by rfl) ?_; clear _t tk12; have tk13 : True := trivial) | (have _t := tk13; refine wpList_boxg hH 4 24 _ rfl rfl rfl _ Try.underlying24 rfl (infoW _) (by rfl) ?_; clear _t tk13; have tk14 : True := trivial))
  have HLR2 := HLR.out
  have hz1 : IntKind.i64.wrap (la - (k : Int)) = la - (k : Int) := IntWalk.i64_in _ (by omega)
  have hz2 : IntKind.i64.wrap (la + (k : Int)) = la + (k : Int) := IntWalk.i64_in _ (by omega)
  have hz3 : IntKind.i64.wrap ((k : Int) / 2) = (k : Int) / 2 := IntWalk.i64_in _ (by omega)
  have hz4 : IntKind.i64.wrap ((k : Int) - (k : Int) / 2) = (k : Int) - (k : Int) / 2 := IntWalk.i64_in _ (by omega)
  refine wp_region_class (C := Keeps w _) (by kernel_rfl) (by kernel_rfl) hH.drew ?_
  (first | refine quiet_box 7 rfl 24 _ rfl rfl rfl _ Try.underlying24 rfl (infoW _) ?_ | (refine wpQuiet_step (fun K hK => ?_); go_simp; (first | refine hK _ ?_ | refine ⟨_, fun _ _ => rfl, hK _ ?_⟩); clear hK K))
  (first | (refine wpQuiet_step (fun K hK => ?_); go_simp; refine ⟨_, fun W hW => (N8.out W).mono fun _ _ h => ⟨h.1, hW.call h.2⟩, hK _ ?_⟩; clear hK K) | (refine wpQuiet_step (fun K hK => ?_); go_simp; (first | refine hK _ ?_ | refine ⟨_, fun _ _ => rfl, hK _ ?_⟩); clear hK K))
  (first | refine quiet_box 0 rfl 24 _ rfl rfl rfl _ Try.underlying24 rfl (infoW _) ?_ | (refine wpQuiet_step (fun K hK => ?_); go_simp; (first | refine hK _ ?_ | refine ⟨_, fun _ _ => rfl, hK _ ?_⟩); clear hK K))
  (first | (refine wpQuiet_step (fun K hK => ?_); go_simp; refine ⟨_, fun W hW => (N9.out W).mono fun _ _ h => ⟨h.1, hW.call h.2⟩, hK _ ?_⟩; clear hK K) | (refine wpQuiet_step (fun K hK => ?_); go_simp; (first | refine hK _ ?_ | refine ⟨_, fun _ _ => rfl, hK _ ?_⟩); clear hK K))
  (refine wpQuiet_step (fun K hK => ?_); go_simp; (first | refine hK _ ?_ | refine ⟨_, fun _ _ => rfl, hK _ ?_⟩); clear hK K)
  (refine wpQuiet_step (fun K hK => ?_); go_simp; (first | refine hK _ ?_ | refine ⟨_, fun _ _ => rfl, hK _ ?_⟩); clear hK K)
  (refine wpQuiet_step (fun K hK => ?_); go_simp; (first | refine hK _ ?_ | refine ⟨_, fun _ _ => rfl, hK _ ?_⟩); clear hK K)
  (refine wpQuiet_step (fun K hK => ?_); go_simp; (first | refine hK _ ?_ | refine ⟨_, fun _ _ => rfl, hK _ ?_⟩); clear hK K)
  (refine wpQuiet_step (fun K hK => ?_); go_simp; (first | refine hK _ ?_ | refine ⟨_, fun _ _ => rfl, hK _ ?_⟩); clear hK K)
  (first | refine quiet_box 0 rfl 24 _ rfl rfl rfl _ Try.underlying24 rfl (infoW _) ?_ | (refine wpQuiet_step (fun K hK => ?_); go_simp; (first | refine hK _ ?_ | refine ⟨_, fun _ _ => rfl, hK _ ?_⟩); clear hK K))
  (first | (refine wpQuiet_step (fun K hK => ?_); go_simp; refine ⟨_, fun W hW => (N9.out W).mono fun _ _ h => ⟨h.1, hW.call h.2⟩, hK _ ?_⟩; clear hK K) | (refine wpQuiet_step (fun K hK => ?_); go_simp; (first | refine hK _ ?_ | refine ⟨_, fun _ _ => rfl, hK _ ?_⟩); clear hK K))
  (refine wpQuiet_step (fun K hK => ?_); go_simp; (first | refine hK _ ?_ | refine ⟨_, fun _ _ => rfl, hK _ ?_⟩); clear hK K)
  (refine wpQuiet_step (fun K hK => ?_); go_simp; (first | refine hK _ ?_ | refine ⟨_, fun _ _ => rfl, hK _ ?_⟩); clear hK K)
  (refine wpQuiet_step (fun K hK => ?_); go_simp; (first | refine hK _ ?_ | refine ⟨_, fun _ _ => rfl, hK _ ?_⟩); clear hK K)
  (refine wpQuiet_step (fun K hK => ?_); go_simp; (first | refine hK _ ?_ | refine ⟨_, fun _ _ => rfl, hK _ ?_⟩); clear hK K)
  (first | refine quiet_box 6 rfl 24 _ rfl rfl rfl _ Try.underlying24 rfl (infoW _) ?_ | (refine wpQuiet_step (fun K hK => ?_); go_simp; (first | refine hK _ ?_ | refine ⟨_, fun _ _ => rfl, hK _ ?_⟩); clear hK K))
  (refine wpQuiet_step (fun K hK => ?_); go_simp; (first | refine hK _ ?_ | refine ⟨_, fun _ _ => rfl, hK _ ?_⟩); clear hK K)
  (first | (refine wpQuiet_step (fun K hK => ?_); go_simp; refine ⟨_, fun W hW => (R14.out W).mono fun _ _ h => ⟨h.1, hW.call h.2⟩, hK _ ?_⟩; clear hK K) | (refine wpQuiet_step (fun K hK => ?_); go_simp; (first | refine hK _ ?_ | refine ⟨_, fun _ _ => rfl, hK _ ?_⟩); clear hK K))
  (first | refine quiet_box 0 rfl 24 _ rfl rfl rfl _ Try.underlying24 rfl (infoW _) ?_ | (refine wpQuiet_step (fun K hK => ?_); go_simp; (first | refine hK _ ?_ | refine ⟨_, fun _ _ => rfl, hK _ ?_⟩); clear hK K))
  (refine wpQuiet_step (fun K hK => ?_); go_simp; (first | refine hK _ ?_ | refine ⟨_, fun _ _ => rfl, hK _ ?_⟩); clear hK K)
  (refine wpQuiet_step (fun K hK => ?_); go_simp; (first | refine hK _ ?_ | refine ⟨_, fun _ _ => rfl, hK _ ?_⟩); clear hK K)
  (first | refine quiet_box 0 rfl 24 _ rfl rfl rfl _ Try.underlying24 rfl (infoW _) ?_ | (refine wpQuiet_step (fun K hK => ?_); go_simp; (first | refine hK _ ?_ | refine ⟨_, fun _ _ => rfl, hK _ ?_⟩); clear hK K))
  (refine wpQuiet_step (fun K hK => ?_); go_simp; (first | refine hK _ ?_ | refine ⟨_, fun _ _ => rfl, hK _ ?_⟩); clear hK K)
  (refine wpQuiet_step (fun K hK => ?_); go_simp; (first | refine hK _ ?_ | refine ⟨_, fun _ _ => rfl, hK _ ?_⟩); clear hK K)
  (refine wpQuiet_step (fun K hK => ?_); go_simp; (first | refine hK _ ?_ | refine ⟨_, fun _ _ => rfl, hK _ ?_⟩); clear hK K)
  (first | refine quiet_box 6 rfl 24 _ rfl rfl rfl _ Try.underlying24 rfl (infoW _) ?_ | (refine wpQuiet_step (fun K hK => ?_); go_simp; (first | refine hK _ ?_ | refine ⟨_, fun _ _ => rfl, hK _ ?_⟩); clear hK K))
  (first | (refine wpQuiet_step (fun K hK => ?_); go_simp; refine ⟨_, fun W hW => (N15.out W).mono fun _ _ h => ⟨h.1, hW.call h.2⟩, hK _ ?_⟩; clear hK K) | (refine wpQuiet_step (fun K hK => ?_); go_simp; (first | refine hK _ ?_ | refine ⟨_, fun _ _ => rfl, hK _ ?_⟩); clear hK K))
  (first | refine quiet_box 0 rfl 24 _ rfl rfl rfl _ Try.underlying24 rfl (infoW _) ?_ | (refine wpQuiet_step (fun K hK => ?_); go_simp; (first | refine hK _ ?_ | refine ⟨_, fun _ _ => rfl, hK _ ?_⟩); clear hK K))
  (first | (refine wpQuiet_step (fun K hK => ?_); go_simp; refine ⟨_, fun W hW => (N9.out W).mono fun _ _ h => ⟨h.1, hW.call h.2⟩, hK _ ?_⟩; clear hK K) | (refine wpQuiet_step (fun K hK => ?_); go_simp; (first | refine hK _ ?_ | refine ⟨_, fun _ _ => rfl, hK _ ?_⟩); clear hK K))
  (refine wpQuiet_step (fun K hK => ?_); go_simp; (first | refine hK _ ?_ | refine ⟨_, fun _ _ => rfl, hK _ ?_⟩); clear hK K)
  (refine wpQuiet_step (fun K hK => ?_); go_simp; (first | refine hK _ ?_ | refine ⟨_, fun _ _ => rfl, hK _ ?_⟩); clear hK K)
  (refine wpQuiet_step (fun K hK => ?_); go_simp; (first | refine hK _ ?_ | refine ⟨_, fun _ _ => rfl, hK _ ?_⟩); clear hK K)
  (refine wpQuiet_step (fun K hK => ?_); go_simp; (first | refine hK _ ?_ | refine ⟨_, fun _ _ => rfl, hK _ ?_⟩); clear hK K)
  (refine wpQuiet_step (fun K hK => ?_); go_simp; (first | refine hK _ ?_ | refine ⟨_, fun _ _ => rfl, hK _ ?_⟩); clear hK K)
  (refine wpQuiet_step (fun K hK => ?_); go_simp; (first | refine hK _ ?_ | refine ⟨_, fun _ _ => rfl, hK _ ?_⟩); clear hK K)
  (refine wpQuiet_step (fun K hK => ?_); go_simp; (first | refine hK _ ?_ | refine ⟨_, fun _ _ => rfl, hK _ ?_⟩); clear hK K)
  refine wpQuiet_nil ?_
  clear hH
  intro W hH
  go_wp2_with (first | (go_at_call 32; with_reducible refine (L10.out _).mono ?_; rintro e W1 ⟨rfl, hB⟩; replace hH := hH.call hB; clear hB) | (go_at_call 34; with_reducible refine (R11.out _).mono ?_; rintro e W1 ⟨rfl, hB⟩; replace hH := hH.call hB; clear hB) | (have _t := tk14; refine wpList_boxg hH 0 24 _ rfl rfl rfl _ Try.underlying24 rfl (infoW _) (by rfl) ?_; clear _t tk14; have tk15 : True := trivial) | (have _t := tk15; refine wpList_fill hH rfl 24 _ _ rfl rfl rfl (infoW _) rfl (oneW _) ?_; clear _t tk15 hH; have tk16 : True := trivial; intro W1 hH))
  refine wp_region_class (C := Keeps w _) (by kernel_rfl) (by kernel_rfl) hH.drew ?_
  (refine wpQuiet_step (fun K hK => ?_); go_simp; (first | refine hK _ ?_ | refine ⟨_, fun _ _ => rfl, hK _ ?_⟩); clear hK K)
  (refine wpQuiet_step (fun K hK => ?_); go_simp; (first | refine hK _ ?_ | refine ⟨_, fun _ _ => rfl, hK _ ?_⟩); clear hK K)
  (first | refine quiet_box 8 rfl 24 _ rfl rfl rfl _ Try.underlying24 rfl (infoW _) ?_ | (refine wpQuiet_step (fun K hK => ?_); go_simp; (first | refine hK _ ?_ | refine ⟨_, fun _ _ => rfl, hK _ ?_⟩); clear hK K))
  (first | refine quiet_box 0 rfl 24 _ rfl rfl rfl _ Try.underlying24 rfl (infoW _) ?_ | (refine wpQuiet_step (fun K hK => ?_); go_simp; (first | refine hK _ ?_ | refine ⟨_, fun _ _ => rfl, hK _ ?_⟩); clear hK K))
  (first | (refine wpQuiet_step (fun K hK => ?_); go_simp; refine ⟨_, fun W hW => (K12.out W).mono fun _ _ h => ⟨h.1, hW.call h.2⟩, hK _ ?_⟩; clear hK K) | (refine wpQuiet_step (fun K hK => ?_); go_simp; (first | refine hK _ ?_ | refine ⟨_, fun _ _ => rfl, hK _ ?_⟩); clear hK K))
  (refine wpQuiet_step (fun K hK => ?_); go_simp; (first | refine hK _ ?_ | refine ⟨_, fun _ _ => rfl, hK _ ?_⟩); clear hK K)
  (refine wpQuiet_step (fun K hK => ?_); go_simp; (first | refine hK _ ?_ | refine ⟨_, fun _ _ => rfl, hK _ ?_⟩); clear hK K)
  (refine wpQuiet_step (fun K hK => ?_); go_simp; (first | refine hK _ ?_ | refine ⟨_, fun _ _ => rfl, hK _ ?_⟩); clear hK K)
  (first | refine quiet_box 0 rfl 24 _ rfl rfl rfl _ Try.underlying24 rfl (infoW _) ?_ | (refine wpQuiet_step (fun K hK => ?_); go_simp; (first | refine hK _ ?_ | refine ⟨_, fun _ _ => rfl, hK _ ?_⟩); clear hK K))
  (refine wpQuiet_step (fun K hK => ?_); go_simp; (first | refine hK _ ?_ | refine ⟨_, fun _ _ => rfl, hK _ ?_⟩); clear hK K)
  (refine wpQuiet_step (fun K hK => ?_); go_simp; (first | refine hK _ ?_ | refine ⟨_, fun _ _ => rfl, hK _ ?_⟩); clear hK K)
  (first | (refine wpQuiet_step (fun K hK => ?_); go_simp; refine ⟨_, fun W hW => (L10.out W).mono fun _ _ h => ⟨h.1, hW.call h.2⟩, hK _ ?_⟩; clear hK K) | (refine wpQuiet_step (fun K hK => ?_); go_simp; (first | refine hK _ ?_ | refine ⟨_, fun _ _ => rfl, hK _ ?_⟩); clear hK K))
  (refine wpQuiet_step (fun K hK => ?_); go_simp; (first | refine hK _ ?_ | refine ⟨_, fun _ _ => rfl, hK _ ?_⟩); clear hK K)
  (refine wpQuiet_step (fun K hK => ?_); go_simp; (first | refine hK _ ?_ | refine ⟨_, fun _ _ => rfl, hK _ ?_⟩); clear hK K)
  (refine wpQuiet_step (fun K hK => ?_); go_simp; (first | refine hK _ ?_ | refine ⟨_, fun _ _ => rfl, hK _ ?_⟩); clear hK K)
  (refine wpQuiet_step (fun K hK => ?_); go_simp; (first | refine hK _ ?_ | refine ⟨_, fun _ _ => rfl, hK _ ?_⟩); clear hK K)
  (first | (refine wpQuiet_step (fun K hK => ?_); go_simp; refine ⟨_, fun W hW => (L13.out W).mono fun _ _ h => ⟨h.1, hW.call h.2⟩, hK _ ?_⟩; clear hK K) | (refine wpQuiet_step (fun K hK => ?_); go_simp; (first | refine hK _ ?_ | refine ⟨_, fun _ _ => rfl, hK _ ?_⟩); clear hK K))
  (first | refine quiet_box 6 rfl 24 _ rfl rfl rfl _ Try.underlying24 rfl (infoW _) ?_ | (refine wpQuiet_step (fun K hK => ?_); go_simp; (first | refine hK _ ?_ | refine ⟨_, fun _ _ => rfl, hK _ ?_⟩); clear hK K))
  (refine wpQuiet_step (fun K hK => ?_); go_simp; (first | refine hK _ ?_ | refine ⟨_, fun _ _ => rfl, hK _ ?_⟩); clear hK K)
  (refine wpQuiet_step (fun K hK => ?_); go_simp; (first | refine hK _ ?_ | refine ⟨_, fun _ _ => rfl, hK _ ?_⟩); clear hK K)
  (refine wpQuiet_step (fun K hK => ?_); go_simp; (first | refine hK _ ?_ | refine ⟨_, fun _ _ => rfl, hK _ ?_⟩); clear hK K)
  refine wpQuiet_nil ?_
  clear hH
  intro W hH
  go_wp2
  go_ret
  exact ⟨rfl, hH.bel⟩

end Go.Proofs.Ytgmgejjlhlibkaa
