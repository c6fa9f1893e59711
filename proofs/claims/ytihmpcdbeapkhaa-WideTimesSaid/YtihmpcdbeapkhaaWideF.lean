/- The walk of WideUndone: it returns true, and leaves what was there; the calls' answers come in as names. -/
import Derived.Test.YtihmpcdbeapkhaaWideE
import Derived.Test.YtihmpcdbeapkhaaKit2
namespace Go.Proofs.Ytihmpcdbeapkhaa
open Go.RowKit Go.Lib

theorem keeps3 (w : World) (A B C : Array Value) (t : TypeId) : Keeps w [(w.heap.size, A, t), (w.heap.size + 1, B, t), (w.heap.size + 1 + 1, C, t)] (((w.alloc (.cells A t)).alloc (.cells B t)).alloc (.cells C t)) := by
  have h := (((Keeps.nil w).new A t).new B t).new C t
  simp only [World.size_alloc, List.nil_append, List.cons_append] at h
  exact h

/-- The load of a whole box, also where it is guarded. -/
theorem wpList_boxg {P : Program} {W0 W : World} {l : List (Nat × Array Value × TypeId)} {ops : Array Oper} {Q : Exit → Act → World → Prop} {rest : List Oper} {o : Oper} {a : Act} (h : Keeps W0 l W) (i : Nat) (ty : TypeId) (x : Operand) (ho : o.op = .load ty x)
    {g : Nat} {cs : Array Value} (hx : a.eval x = .pointer (some ⟨g, 0, none⟩)) (hi : l[i]? = some (g, cs, ty)) (d : TypeDesc)
    (hu : P.underlying ty = some d) (hd : (match d with | .struct _ | .array _ _ => true | _ => false) = true) (hs : (P.info? ty).map (·.size) = some cs.size) (hw : Region.wanted o (yielded ops a.tmps) = true)
    (hn : wpList P ops Q rest (a.put o.dst (.agg cs)) W) : wpList P ops Q (o :: rest) a W :=
  wpList_box h i hw ty x ho hx hi d hu hd hs hn

set_option maxRecDepth 100000 in
set_option maxHeartbeats 4000000 in
theorem undone_walk (a b c s p q x nb y : Nat) (ov o4 o5 o6 less o8 o9 : Bool) (k1 k2 : Int) (w : World)
    (CV : Hid (∀ w, Calls Try.prog 42 #[] w fun e w' => e = .returned (.bool true) ∧ Below w.heap.size w w'))
    (A1 : Hid (∀ w, Calls Try.prog 26 #[.agg (wcells a), .agg (wcells b)] w fun e w' => e = .returned (.tuple #[.agg (wcells s), .bool ov]) ∧ Below w.heap.size w w'))
    (A2 : Hid (∀ w, Calls Try.prog 26 #[.agg (wcells b), .agg (wcells a)] w fun e w' => e = .returned (.tuple #[.agg (wcells s), .bool ov]) ∧ Below w.heap.size w w'))
    (S3 : Hid (∀ w, Calls Try.prog 28 #[.agg (wcells s), .agg (wcells b)] w fun e w' => e = .returned (.tuple #[.agg (wcells a), .bool ov]) ∧ Below w.heap.size w w'))
    (A4 : Hid (∀ w, Calls Try.prog 26 #[.agg (wcells s), .agg (wcells c)] w fun e w' => e = .returned (.tuple #[.agg (wcells p), .bool o4]) ∧ Below w.heap.size w w'))
    (A5 : Hid (∀ w, Calls Try.prog 26 #[.agg (wcells b), .agg (wcells c)] w fun e w' => e = .returned (.tuple #[.agg (wcells q), .bool o5]) ∧ Below w.heap.size w w'))
    (A6 : Hid (∀ w, Calls Try.prog 26 #[.agg (wcells a), .agg (wcells q)] w fun e w' => e = .returned (.tuple #[.agg (wcells p), .bool o6]) ∧ Below w.heap.size w w'))
    (S7 : Hid (∀ w, Calls Try.prog 28 #[.agg (wcells a), .agg (wcells b)] w fun e w' => e = .returned (.tuple #[.agg (wcells x), .bool less]) ∧ Below w.heap.size w w'))
    (N8 : Hid (∀ w, Calls Try.prog 36 #[.agg (wcells b)] w fun e w' => e = .returned (.agg (wcells nb)) ∧ Below w.heap.size w w'))
    (A8 : Hid (∀ w, Calls Try.prog 26 #[.agg (wcells a), .agg (wcells nb)] w fun e w' => e = .returned (.tuple #[.agg (wcells y), .bool o8]) ∧ Below w.heap.size w w'))
    (O9 : Hid (∀ w, Calls Try.prog 16 #[.int .u64 1] w fun e w' => e = .returned (.agg (wcells 1)) ∧ Below w.heap.size w w'))
    (A9 : Hid (∀ w, Calls Try.prog 26 #[.agg (wcells y), .agg (wcells 1)] w fun e w' => e = .returned (.tuple #[.agg (wcells x), .bool o9]) ∧ Below w.heap.size w w'))
    (K1 : Hid (∀ w, Calls Try.prog 24 #[.agg (wcells s), .agg (wcells a)] w fun e w' => e = .returned (.int .i64 k1) ∧ Below w.heap.size w w'))
    (K2 : Hid (∀ w, Calls Try.prog 24 #[.agg (wcells a), .agg (wcells b)] w fun e w' => e = .returned (.int .i64 k2) ∧ Below w.heap.size w w'))
    (d1 : decide (k1 < 0) = ov) (d2 : decide (k2 < 0) = less) :
    Calls Try.prog 8 #[.agg (wcells a), .agg (wcells b), .agg (wcells c)] w fun e w' => e = .returned (.bool true) ∧ Below w.heap.size w w' := by
  have hE := eqW
  have hH := keeps3 w (wcells a) (wcells b) (wcells c) 24
  go_enter Try.func8, Try.ntmps8
  go_wp2_with fail
  generalize ((w.alloc (.cells (wcells a) 24)).alloc (.cells (wcells b) 24)).alloc (.cells (wcells c) 24) = W0 at *
  go_wp2_with (first | (go_at_call 42; with_reducible refine (CV.out _).mono ?_; rintro e W1 ⟨rfl, hB⟩; replace hH := hH.call hB; clear hB) | (go_at_call 26; with_reducible refine (A1.out _).mono ?_; rintro e W1 ⟨rfl, hB⟩; replace hH := hH.call hB; clear hB) | (go_at_call 26; with_reducible refine (A2.out _).mono ?_; rintro e W1 ⟨rfl, hB⟩; replace hH := hH.call hB; clear hB) | (go_at_call 28; with_reducible refine (S3.out _).mono ?_; rintro e W1 ⟨rfl, hB⟩; replace hH := hH.call hB; clear hB) | (go_at_call 26; with_reducible refine (A4.out _).mono ?_; rintro e W1 ⟨rfl, hB⟩; replace hH := hH.call hB; clear hB) | (go_at_call 26; with_reducible refine (A5.out _).mono ?_; rintro e W1 ⟨rfl, hB⟩; replace hH := hH.call hB; clear hB) | (go_at_call 26; with_reducible refine (A6.out _).mono ?_; rintro e W1 ⟨rfl, hB⟩; replace hH := hH.call hB; clear hB) | (go_at_call 28; with_reducible refine (S7.out _).mono ?_; rintro e W1 ⟨rfl, hB⟩; replace hH := hH.call hB; clear hB) | (go_at_call 36; with_reducible refine (N8.out _).mono ?_; rintro e W1 ⟨rfl, hB⟩; replace hH := hH.call hB; clear hB) | (go_at_call 26; with_reducible refine (A8.out _).mono ?_; rintro e W1 ⟨rfl, hB⟩; replace hH := hH.call hB; clear hB) | (go_at_call 16; with_reducible refine (O9.out _).mono ?_; rintro e W1 ⟨rfl, hB⟩; replace hH := hH.call hB; clear hB) | (go_at_call 26; with_reducible refine (A9.out _).mono ?_; rintro e W1 ⟨rfl, hB⟩; replace hH := hH.call hB; clear hB) | (go_at_call 24; with_reducible refine (K1.out _).mono ?_; rintro e W1 ⟨rfl, hB⟩; replace hH := hH.call hB; clear hB) | (go_at_call 24; with_reducible refine (K2.out _).mono ?_; rintro e W1 ⟨rfl, hB⟩; replace hH := hH.call hB; clear hB) | (refine wpList_box hH 0 rfl 24 _ rfl rfl rfl _ Try.underlying24 rfl (infoW _) ?_) | (refine wpList_box hH 1 rfl 24 _ rfl rfl rfl _ Try.underlying24 rfl (infoW _) ?_) | (refine wpList_box hH 2 rfl 24 _ rfl rfl rfl _ Try.underlying24 rfl (infoW _) ?_) | (refine wpList_box hH 3 rfl 24 _ rfl rfl rfl _ Try.underlying24 rfl (infoW _) ?_) | (refine wpList_box hH 4 rfl 24 _ rfl rfl rfl _ Try.underlying24 rfl (infoW _) ?_) | (refine wpList_box hH 5 rfl 24 _ rfl rfl rfl _ Try.underlying24 rfl (infoW _) ?_) | (refine wpList_box hH 6 rfl 24 _ rfl rfl rfl _ Try.underlying24 rfl (infoW _) ?_) | (refine wpList_box hH 7 rfl 24 _ rfl rfl rfl _ Try.underlying24 rfl (infoW _) ?_) | (refine wpList_box hH 8 rfl 24 _ rfl rfl rfl _ Try.underlying24 rfl (infoW _) ?_) | (refine wpList_box hH 9 rfl 24 _ rfl rfl rfl _ Try.underlying24 rfl (infoW _) ?_) | (refine wpList_box hH 10 rfl 24 _ rfl rfl rfl _ Try.underlying24 rfl (infoW _) ?_) | (refine wpList_box hH 11 rfl 24 _ rfl rfl rfl _ Try.underlying24 rfl (infoW _) ?_) | (refine wpList_fill hH rfl 24 _ _ rfl rfl rfl (infoW _) rfl (oneW _) ?_; clear hH; intro W1 hH))
  apply wp_boxes (W0 := w)
  case hreg =>
    refine AnyK.start 10 rfl (by kernel_rfl) hH ?_
    refine AnyK.take 0 (some 70) rfl rfl (by kernel_rfl) (by kernel_rfl) (by kernel_rfl) (fun _ _ _ h => nomatch h.1) (yieldsIf_box 0 rfl 24 _ rfl rfl rfl _ Try.underlying24 rfl (infoW _)) ?_
    simp only [Act.put, List.setIfInBounds_toArray, List.set_cons_zero, List.set_cons_succ]
    refine AnyK.take 1 (some 71) rfl rfl (by kernel_rfl) (by kernel_rfl) (by kernel_rfl) (fun _ _ _ h => nomatch h.1) (yieldsIf_box 1 rfl 24 _ rfl rfl rfl _ Try.underlying24 rfl (infoW _)) ?_
    simp only [Act.put, List.setIfInBounds_toArray, List.set_cons_zero, List.set_cons_succ]
    refine AnyK.ready [2, 7] (by kernel_rfl) (by simp) ?_
    refine steps_cons ?_ ?_
    · refine StepK.call (i := 2) (some 72) rfl rfl rfl (fun W => by go_simp) N8.out ?_
      simp only [Act.put, List.setIfInBounds_toArray, List.set_cons_zero, List.set_cons_succ]
      refine AnyK.ready [3, 7] (by kernel_rfl) (by simp) ?_
      refine steps_cons ?_ ?_
      · refine StepK.call (i := 3) (some 73) rfl rfl rfl (fun W => by go_simp) A8.out ?_
        simp only [Act.put, List.setIfInBounds_toArray, List.set_cons_zero, List.set_cons_succ]
        refine AnyK.take 4 (some 69) rfl rfl (by kernel_rfl) (by kernel_rfl) (by kernel_rfl) (fun _ _ _ h => nomatch h.1) (v := _) (.inl ⟨by rfl, fun W hW => by first | (go_simp; done) | (go_simp; rfl)⟩) ?_
        simp only [Act.put, List.setIfInBounds_toArray, List.set_cons_zero, List.set_cons_succ]
        refine AnyK.take 5 (some 74) rfl rfl (by kernel_rfl) (by kernel_rfl) (by kernel_rfl) (fun _ _ _ h => nomatch h.1) (v := _) (.inl ⟨by rfl, fun W hW => by first | (go_simp; done) | (go_simp; rfl)⟩) ?_
        simp only [Act.put, List.setIfInBounds_toArray, List.set_cons_zero, List.set_cons_succ]
        refine AnyK.take 6 (some 75) rfl rfl (by kernel_rfl) (by kernel_rfl) (by kernel_rfl) (fun _ _ _ h => nomatch h.1) (v := _) (.inl ⟨by rfl, fun W hW => by first | (go_simp; done) | (go_simp; rfl)⟩) ?_
        simp only [Act.put, List.setIfInBounds_toArray, List.set_cons_zero, List.set_cons_succ]
        refine AnyK.ready [7] (by kernel_rfl) (by simp) ?_
        refine steps_cons ?_ ?_
        · refine StepK.alloc (i := 7) (some 22) rfl rfl rfl (fun W => by go_simp; rfl) (fun g7 => ?_)
          simp only [Act.put, List.setIfInBounds_toArray, List.set_cons_zero, List.set_cons_succ]
          refine AnyK.ready [8] (by kernel_rfl) (by simp) ?_
          refine steps_cons ?_ ?_
          · refine StepK.store 0 (i := 8) rfl rfl rfl 24 _ _ rfl rfl rfl rfl (infoW _) rfl (oneW _) ?_
            refine AnyK.take 9 (some 23) rfl rfl (by kernel_rfl) (by kernel_rfl) (by kernel_rfl) (fun _ _ _ h => nomatch h.1) (v := _) (.inl ⟨by rfl, fun W hW => by first | (go_simp; done) | (go_simp; rfl)⟩) ?_
            simp only [Act.put, List.setIfInBounds_toArray, List.set_cons_zero, List.set_cons_succ]
            refine AnyK.done (by kernel_rfl) ?_
            intro W hW
            exact ⟨rfl, g7, rfl, hW⟩
          exact steps_nil
        exact steps_nil
      refine steps_cons ?_ ?_
      · refine StepK.alloc (i := 7) (some 22) rfl rfl rfl (fun W => by go_simp; rfl) (fun g7 => ?_)
        simp only [Act.put, List.setIfInBounds_toArray, List.set_cons_zero, List.set_cons_succ]
        refine AnyK.ready [3] (by kernel_rfl) (by simp) ?_
        refine steps_cons ?_ ?_
        · refine StepK.call (i := 3) (some 73) rfl rfl rfl (fun W => by go_simp) A8.out ?_
          simp only [Act.put, List.setIfInBounds_toArray, List.set_cons_zero, List.set_cons_succ]
          refine AnyK.take 4 (some 69) rfl rfl (by kernel_rfl) (by kernel_rfl) (by kernel_rfl) (fun _ _ _ h => nomatch h.1) (v := _) (.inl ⟨by rfl, fun W hW => by first | (go_simp; done) | (go_simp; rfl)⟩) ?_
          simp only [Act.put, List.setIfInBounds_toArray, List.set_cons_zero, List.set_cons_succ]
          refine AnyK.take 5 (some 74) rfl rfl (by kernel_rfl) (by kernel_rfl) (by kernel_rfl) (fun _ _ _ h => nomatch h.1) (v := _) (.inl ⟨by rfl, fun W hW => by first | (go_simp; done) | (go_simp; rfl)⟩) ?_
          simp only [Act.put, List.setIfInBounds_toArray, List.set_cons_zero, List.set_cons_succ]
          refine AnyK.take 6 (some 75) rfl rfl (by kernel_rfl) (by kernel_rfl) (by kernel_rfl) (fun _ _ _ h => nomatch h.1) (v := _) (.inl ⟨by rfl, fun W hW => by first | (go_simp; done) | (go_simp; rfl)⟩) ?_
          simp only [Act.put, List.setIfInBounds_toArray, List.set_cons_zero, List.set_cons_succ]
          refine AnyK.ready [8] (by kernel_rfl) (by simp) ?_
          refine steps_cons ?_ ?_
          · refine StepK.store 0 (i := 8) rfl rfl rfl 24 _ _ rfl rfl rfl rfl (infoW _) rfl (oneW _) ?_
            refine AnyK.take 9 (some 23) rfl rfl (by kernel_rfl) (by kernel_rfl) (by kernel_rfl) (fun _ _ _ h => nomatch h.1) (v := _) (.inl ⟨by rfl, fun W hW => by first | (go_simp; done) | (go_simp; rfl)⟩) ?_
            simp only [Act.put, List.setIfInBounds_toArray, List.set_cons_zero, List.set_cons_succ]
            refine AnyK.done (by kernel_rfl) ?_
            intro W hW
            exact ⟨rfl, g7, rfl, hW⟩
          exact steps_nil
        exact steps_nil
      exact steps_nil
    refine steps_cons ?_ ?_
    · refine StepK.alloc (i := 7) (some 22) rfl rfl rfl (fun W => by go_simp; rfl) (fun g7 => ?_)
      simp only [Act.put, List.setIfInBounds_toArray, List.set_cons_zero, List.set_cons_succ]
      refine AnyK.ready [2] (by kernel_rfl) (by simp) ?_
      refine steps_cons ?_ ?_
      · refine StepK.call (i := 2) (some 72) rfl rfl rfl (fun W => by go_simp) N8.out ?_
        simp only [Act.put, List.setIfInBounds_toArray, List.set_cons_zero, List.set_cons_succ]
        refine AnyK.ready [3] (by kernel_rfl) (by simp) ?_
        refine steps_cons ?_ ?_
        · refine StepK.call (i := 3) (some 73) rfl rfl rfl (fun W => by go_simp) A8.out ?_
          simp only [Act.put, List.setIfInBounds_toArray, List.set_cons_zero, List.set_cons_succ]
          refine AnyK.take 4 (some 69) rfl rfl (by kernel_rfl) (by kernel_rfl) (by kernel_rfl) (fun _ _ _ h => nomatch h.1) (v := _) (.inl ⟨by rfl, fun W hW => by first | (go_simp; done) | (go_simp; rfl)⟩) ?_
          simp only [Act.put, List.setIfInBounds_toArray, List.set_cons_zero, List.set_cons_succ]
          refine AnyK.take 5 (some 74) rfl rfl (by kernel_rfl) (by kernel_rfl) (by kernel_rfl) (fun _ _ _ h => nomatch h.1) (v := _) (.inl ⟨by rfl, fun W hW => by first | (go_simp; done) | (go_simp; rfl)⟩) ?_
          simp only [Act.put, List.setIfInBounds_toArray, List.set_cons_zero, List.set_cons_succ]
          refine AnyK.take 6 (some 75) rfl rfl (by kernel_rfl) (by kernel_rfl) (by kernel_rfl) (fun _ _ _ h => nomatch h.1) (v := _) (.inl ⟨by rfl, fun W hW => by first | (go_simp; done) | (go_simp; rfl)⟩) ?_
          simp only [Act.put, List.setIfInBounds_toArray, List.set_cons_zero, List.set_cons_succ]
          refine AnyK.ready [8] (by kernel_rfl) (by simp) ?_
          refine steps_cons ?_ ?_
          · refine StepK.store 0 (i := 8) rfl rfl rfl 24 _ _ rfl rfl rfl rfl (infoW _) rfl (oneW _) ?_
            refine AnyK.take 9 (some 23) rfl rfl (by kernel_rfl) (by kernel_rfl) (by kernel_rfl) (fun _ _ _ h => nomatch h.1) (v := _) (.inl ⟨by rfl, fun W hW => by first | (go_simp; done) | (go_simp; rfl)⟩) ?_
            simp only [Act.put, List.setIfInBounds_toArray, List.set_cons_zero, List.set_cons_succ]
            refine AnyK.done (by kernel_rfl) ?_
            intro W hW
            exact ⟨rfl, g7, rfl, hW⟩
          exact steps_nil
        exact steps_nil
      exact steps_nil
    exact steps_nil
  clear hH
  rintro g W1 hH
  go_wp2_with fail
  apply wp_boxes (W0 := w)
  case hreg =>
    refine AnyK.start 9 rfl (by kernel_rfl) hH ?_
    refine AnyK.take 0 (some 77) rfl rfl (by kernel_rfl) (by kernel_rfl) (by kernel_rfl) (fun _ _ _ h => nomatch h.1) (yieldsIf_box 10 rfl 24 _ rfl rfl rfl _ Try.underlying24 rfl (infoW _)) ?_
    simp only [Act.put, List.setIfInBounds_toArray, List.set_cons_zero, List.set_cons_succ]
    refine AnyK.ready [1, 6] (by kernel_rfl) (by simp) ?_
    refine steps_cons ?_ ?_
    · refine StepK.call (i := 1) (some 78) rfl rfl rfl (fun W => by go_simp) O9.out ?_
      simp only [Act.put, List.setIfInBounds_toArray, List.set_cons_zero, List.set_cons_succ]
      refine AnyK.ready [2, 6] (by kernel_rfl) (by simp) ?_
      refine steps_cons ?_ ?_
      · refine StepK.call (i := 2) (some 79) rfl rfl rfl (fun W => by go_simp) A9.out ?_
        simp only [Act.put, List.setIfInBounds_toArray, List.set_cons_zero, List.set_cons_succ]
        refine AnyK.take 3 (some 76) rfl rfl (by kernel_rfl) (by kernel_rfl) (by kernel_rfl) (fun _ _ _ h => nomatch h.1) (v := _) (.inl ⟨by rfl, fun W hW => by first | (go_simp; done) | (go_simp; rfl)⟩) ?_
        simp only [Act.put, List.setIfInBounds_toArray, List.set_cons_zero, List.set_cons_succ]
        refine AnyK.take 4 (some 80) rfl rfl (by kernel_rfl) (by kernel_rfl) (by kernel_rfl) (fun _ _ _ h => nomatch h.1) (v := _) (.inl ⟨by rfl, fun W hW => by first | (go_simp; done) | (go_simp; rfl)⟩) ?_
        simp only [Act.put, List.setIfInBounds_toArray, List.set_cons_zero, List.set_cons_succ]
        refine AnyK.take 5 (some 81) rfl rfl (by kernel_rfl) (by kernel_rfl) (by kernel_rfl) (fun _ _ _ h => nomatch h.1) (v := _) (.inl ⟨by rfl, fun W hW => by first | (go_simp; done) | (go_simp; rfl)⟩) ?_
        simp only [Act.put, List.setIfInBounds_toArray, List.set_cons_zero, List.set_cons_succ]
        refine AnyK.ready [6] (by kernel_rfl) (by simp) ?_
        refine steps_cons ?_ ?_
        · refine StepK.alloc (i := 6) (some 24) rfl rfl rfl (fun W => by go_simp; rfl) (fun g6 => ?_)
          simp only [Act.put, List.setIfInBounds_toArray, List.set_cons_zero, List.set_cons_succ]
          refine AnyK.ready [7] (by kernel_rfl) (by simp) ?_
          refine steps_cons ?_ ?_
          · refine StepK.store 0 (i := 7) rfl rfl rfl 24 _ _ rfl rfl rfl rfl (infoW _) rfl (oneW _) ?_
            refine AnyK.take 8 (some 25) rfl rfl (by kernel_rfl) (by kernel_rfl) (by kernel_rfl) (fun _ _ _ h => nomatch h.1) (v := _) (.inl ⟨by rfl, fun W hW => by first | (go_simp; done) | (go_simp; rfl)⟩) ?_
            simp only [Act.put, List.setIfInBounds_toArray, List.set_cons_zero, List.set_cons_succ]
            refine AnyK.done (by kernel_rfl) ?_
            intro W hW
            exact ⟨rfl, g6, rfl, hW⟩
          exact steps_nil
        exact steps_nil
      refine steps_cons ?_ ?_
      · refine StepK.alloc (i := 6) (some 24) rfl rfl rfl (fun W => by go_simp; rfl) (fun g6 => ?_)
        simp only [Act.put, List.setIfInBounds_toArray, List.set_cons_zero, List.set_cons_succ]
        refine AnyK.ready [2] (by kernel_rfl) (by simp) ?_
        refine steps_cons ?_ ?_
        · refine StepK.call (i := 2) (some 79) rfl rfl rfl (fun W => by go_simp) A9.out ?_
          simp only [Act.put, List.setIfInBounds_toArray, List.set_cons_zero, List.set_cons_succ]
          refine AnyK.take 3 (some 76) rfl rfl (by kernel_rfl) (by kernel_rfl) (by kernel_rfl) (fun _ _ _ h => nomatch h.1) (v := _) (.inl ⟨by rfl, fun W hW => by first | (go_simp; done) | (go_simp; rfl)⟩) ?_
          simp only [Act.put, List.setIfInBounds_toArray, List.set_cons_zero, List.set_cons_succ]
          refine AnyK.take 4 (some 80) rfl rfl (by kernel_rfl) (by kernel_rfl) (by kernel_rfl) (fun _ _ _ h => nomatch h.1) (v := _) (.inl ⟨by rfl, fun W hW => by first | (go_simp; done) | (go_simp; rfl)⟩) ?_
          simp only [Act.put, List.setIfInBounds_toArray, List.set_cons_zero, List.set_cons_succ]
          refine AnyK.take 5 (some 81) rfl rfl (by kernel_rfl) (by kernel_rfl) (by kernel_rfl) (fun _ _ _ h => nomatch h.1) (v := _) (.inl ⟨by rfl, fun W hW => by first | (go_simp; done) | (go_simp; rfl)⟩) ?_
          simp only [Act.put, List.setIfInBounds_toArray, List.set_cons_zero, List.set_cons_succ]
          refine AnyK.ready [7] (by kernel_rfl) (by simp) ?_
          refine steps_cons ?_ ?_
          · refine StepK.store 0 (i := 7) rfl rfl rfl 24 _ _ rfl rfl rfl rfl (infoW _) rfl (oneW _) ?_
            refine AnyK.take 8 (some 25) rfl rfl (by kernel_rfl) (by kernel_rfl) (by kernel_rfl) (fun _ _ _ h => nomatch h.1) (v := _) (.inl ⟨by rfl, fun W hW => by first | (go_simp; done) | (go_simp; rfl)⟩) ?_
            simp only [Act.put, List.setIfInBounds_toArray, List.set_cons_zero, List.set_cons_succ]
            refine AnyK.done (by kernel_rfl) ?_
            intro W hW
            exact ⟨rfl, g6, rfl, hW⟩
          exact steps_nil
        exact steps_nil
      exact steps_nil
    refine steps_cons ?_ ?_
    · refine StepK.alloc (i := 6) (some 24) rfl rfl rfl (fun W => by go_simp; rfl) (fun g6 => ?_)
      simp only [Act.put, List.setIfInBounds_toArray, List.set_cons_zero, List.set_cons_succ]
      refine AnyK.ready [1] (by kernel_rfl) (by simp) ?_
      refine steps_cons ?_ ?_
      · refine StepK.call (i := 1) (some 78) rfl rfl rfl (fun W => by go_simp) O9.out ?_
        simp only [Act.put, List.setIfInBounds_toArray, List.set_cons_zero, List.set_cons_succ]
        refine AnyK.ready [2] (by kernel_rfl) (by simp) ?_
        refine steps_cons ?_ ?_
        · refine StepK.call (i := 2) (some 79) rfl rfl rfl (fun W => by go_simp) A9.out ?_
          simp only [Act.put, List.setIfInBounds_toArray, List.set_cons_zero, List.set_cons_succ]
          refine AnyK.take 3 (some 76) rfl rfl (by kernel_rfl) (by kernel_rfl) (by kernel_rfl) (fun _ _ _ h => nomatch h.1) (v := _) (.inl ⟨by rfl, fun W hW => by first | (go_simp; done) | (go_simp; rfl)⟩) ?_
          simp only [Act.put, List.setIfInBounds_toArray, List.set_cons_zero, List.set_cons_succ]
          refine AnyK.take 4 (some 80) rfl rfl (by kernel_rfl) (by kernel_rfl) (by kernel_rfl) (fun _ _ _ h => nomatch h.1) (v := _) (.inl ⟨by rfl, fun W hW => by first | (go_simp; done) | (go_simp; rfl)⟩) ?_
          simp only [Act.put, List.setIfInBounds_toArray, List.set_cons_zero, List.set_cons_succ]
          refine AnyK.take 5 (some 81) rfl rfl (by kernel_rfl) (by kernel_rfl) (by kernel_rfl) (fun _ _ _ h => nomatch h.1) (v := _) (.inl ⟨by rfl, fun W hW => by first | (go_simp; done) | (go_simp; rfl)⟩) ?_
          simp only [Act.put, List.setIfInBounds_toArray, List.set_cons_zero, List.set_cons_succ]
          refine AnyK.ready [7] (by kernel_rfl) (by simp) ?_
          refine steps_cons ?_ ?_
          · refine StepK.store 0 (i := 7) rfl rfl rfl 24 _ _ rfl rfl rfl rfl (infoW _) rfl (oneW _) ?_
            refine AnyK.take 8 (some 25) rfl rfl (by kernel_rfl) (by kernel_rfl) (by kernel_rfl) (fun _ _ _ h => nomatch h.1) (v := _) (.inl ⟨by rfl, fun W hW => by first | (go_simp; done) | (go_simp; rfl)⟩) ?_
            simp only [Act.put, List.setIfInBounds_toArray, List.set_cons_zero, List.set_cons_succ]
            refine AnyK.done (by kernel_rfl) ?_
            intro W hW
            exact ⟨rfl, g6, rfl, hW⟩
          exact steps_nil
        exact steps_nil
      exact steps_nil
    exact steps_nil
  clear hH
  rintro g W1 hH
  have tk0 : True := trivial
  go_wp2_with (first | (go_at_call 24; with_reducible refine (K1.out _).mono ?_; rintro e W1 ⟨rfl, hB⟩; replace hH := hH.call hB; clear hB) | (go_at_call 24; with_reducible refine (K2.out _).mono ?_; rintro e W1 ⟨rfl, hB⟩; replace hH := hH.call hB; clear hB) | (have _t := tk0; refine wpList_boxg hH 3 24 _ rfl rfl rfl _ Try.underlying24 rfl (infoW _) (by rfl) ?_; clear _t tk0; have tk1 : True := trivial) | (have _t := tk1; refine wpList_boxg hH 4 24 _ rfl rfl rfl _ Try.underlying24 rfl (infoW _) (by rfl) ?_; clear _t tk1; have tk2 : True := trivial) | (have _t := tk2; refine wpList_boxg hH 5 24 _ rfl rfl rfl _ Try.underlying24 rfl (infoW _) (by rfl) ?_; clear _t tk2; have tk3 : True := trivial) | (have _t := tk3; refine wpList_boxg hH 0 24 _ rfl rfl rfl _ Try.underlying24 rfl (infoW _) (by rfl) ?_; clear _t tk3; have tk4 : True := trivial) | (have _t := tk4; refine wpList_boxg hH 3 24 _ rfl rfl rfl _ Try.underlying24 rfl (infoW _) (by rfl) ?_; clear _t tk4; have tk5 : True := trivial) | (have _t := tk5; refine wpList_boxg hH 0 24 _ rfl rfl rfl _ Try.underlying24 rfl (infoW _) (by rfl) ?_; clear _t tk5; have tk6 : True := trivial) | (have _t := tk6; refine wpList_boxg hH 6 24 _ rfl rfl rfl _ Try.underlying24 rfl (infoW _) (by rfl) ?_; clear _t tk6; have tk7 : True := trivial) | (have _t := tk7; refine wpList_boxg hH 8 24 _ rfl rfl rfl _ Try.underlying24 rfl (infoW _) (by rfl) ?_; clear _t tk7; have tk8 : True := trivial) | (have _t := tk8; refine wpList_boxg hH 9 24 _ rfl rfl rfl _ Try.underlying24 rfl (infoW _) (by rfl) ?_; clear _t tk8; have tk9 : True := trivial) | (have _t := tk9; refine wpList_boxg hH 11 24 _ rfl rfl rfl _ Try.underlying24 rfl (infoW _) (by rfl) ?_; clear _t tk9; have tk10 : True := trivial) | (have _t := tk10; refine wpList_boxg hH 0 24 _ rfl rfl rfl _ Try.underlying24 rfl (infoW _) (by rfl) ?_; clear _t tk10; have tk11 : True := trivial) | (have _t := tk11; refine wpList_boxg hH 1 24 _ rfl rfl rfl _ Try.underlying24 rfl (infoW _) (by rfl) ?_; clear _t tk11; have tk12 : True := trivial))
  go_ret
  exact ⟨rfl, hH.bel⟩

end Go.Proofs.Ytihmpcdbeapkhaa
