/- WideForms is true at every input. No condition. -/
import Derived.Test.YtgmgejjlhlibkaaWidT
import Derived.Test.YtgmgejjlhlibkaaWidG
import Derived.Test.YtgmgejjlhlibkaaWidFa
import Derived.Test.YtgmgejjlhlibkaaWidNb
import Derived.Test.YtgmgejjlhlibkaaRefWD
import Derived.Maps.AppendAt
import Derived.Below
namespace Go.Proofs.Ytgmgejjlhlibkaa
set_option linter.unusedVariables false
set_option linter.unusedSimpArgs false
open Go.ChangeShapes Go.WideShapes Go.ChangeAt Go.RowKit Go.Shelf Oct

theorem keeps2f (w : World) (A B : Array Value) (t : TypeId) : Keeps w [(w.heap.size, A, t), (w.heap.size + 1, B, t)] ((w.alloc (.cells A t)).alloc (.cells B t)) := by
  have h := ((Keeps.nil w).new A t).new B t
  simp only [World.size_alloc, List.nil_append, List.cons_append] at h
  exact h
theorem own_emptyF (w : World) : (w.alloc (.cells #[] 5)).ownsRow w.heap.size 5 1 (.slice (some ⟨w.heap.size, 0, none⟩) 0 0) 0 [] :=
  ⟨rfl, .inr ⟨w.heap.size, 0, #[], rfl, Nat.le_refl _, heap_alloc_new w _, Nat.le_refl _, by simp, rfl, rfl⟩⟩
theorem append_noneF (ty : TypeId) (g c : Nat) (w : World) : (Builtin.append_ #[25, 25] ty #[.slice (some ⟨g, 0, none⟩) 0 0, .slice none 0 c]).run Try.prog w = .ok (.slice (some ⟨g, 0, none⟩) 0 0) w := by
  obtain ⟨i0, hi, hz0, hz1, hz2⟩ := info_parts byte_info
  simp [Builtin.append_, run_underlying Try.underlying25, sizeOf, typeInfo, hi, Builtin.lenOf, Builtin.firstCells, storeCells]
theorem append_holdsF {ops : Array Oper} {rest : List Oper} {o : Oper} {a : Act} {Q : Exit → Act → World → Prop} {w : World} (hgd : o.guard = none) (s x : Operand)
    (ho : o.op = .call { callee := .builtin .append, args := #[s, x], argTypes := #[25, 25] }) (base g : Nat) (hs : a.eval s = .slice (some ⟨g, 0, none⟩) 0 0) (hown : w.ownsRow base 5 1 (.slice (some ⟨g, 0, none⟩) 0 0) 0 [])
    (A : Option Addr) (bs : List UInt8) (c n₀ : Nat) (hx : a.eval x = .slice A bs.length c) (hh : Holds8 n₀ w A bs) (hl : bs.length ≤ 100) (hbase : base ≤ w.heap.size)
    (h : ∀ v' w', w'.ownsRow base 5 1 v' bs.length (vals bs) → w.grownBy w' (some g) → wpList Try.prog ops Q rest (a.put o.dst v') w') : wpList Try.prog ops Q (o :: rest) a w := by
  obtain ⟨i0, hi, hz0, hz1, hz2⟩ := info_parts byte_info
  rcases hh with ⟨rfl, rfl⟩ | ⟨b, off, rfl, hb, hc⟩
  · refine wpList_plain hgd fun K hK => ?_
    unfold Oper.wp execOp
    simp only [List.length_nil] at hx
    simp only [ho, resolve, invoke, builtin, Sem.run_bind, Sem.run_pure, Result.andThen_ok, List.map_toArray, List.map_cons, List.map_nil, hs, hx, append_noneF]
    exact hK _ _ (h _ _ hown (World.grownBy.refl _ _))
  · refine wpList_append_own_at w hgd s x 25 ho base 5 i0 (.int .u8 0) 1 1 Try.underlying25 hi hz0 hz1 hz2 rfl (by decide) _ 0 [] hs hown ⟨b, off, none⟩ bs.length c (vals bs) hx (by rw [vals_length, Nat.mul_one]) (fun j u hu => by
      have hj : j < bs.length := by
        have := (List.getElem?_eq_some_iff.1 hu).1
        rwa [vals_length] at this
      rw [vals_get bs j hj] at hu
      rw [add_off, hc j hj]
      exact hu) (vals_one bs) (by unfold maxLen; omega) (by omega) hbase ?_
    intro v' w' hv hgr _ _
    rw [Nat.zero_add, List.nil_append] at hv
    exact h v' w' hv hgr

theorem own_shapeF {W : World} {base : Nat} {v : Value} {bs : List UInt8} (h : W.ownsRow base 5 1 v (bs.length + 1) (vals bs ++ [.int .u8 7])) :
    ∃ g c2 cur, v = .slice (some ⟨g, 0, none⟩) (bs.length + 1) c2 ∧ base ≤ g ∧ W.heap[g]? = some (.cells cur 5 (0, 0)) ∧ bs.length ≤ c2 ∧ bs.length + 1 ≤ c2 ∧ ∀ W', W'.heap[g]? = some (.cells cur 5 (0, 0)) → Holds8 W'.heap.size W' (some ⟨g, 0, none⟩) (bs ++ [7]) := by
  rcases h.2 with ⟨_, h0⟩ | ⟨g, c2, cur, rfl, hgb, hg, hc2, _, _, htk⟩
  · omega
  · refine ⟨g, c2, cur, rfl, hgb, hg, by omega, hc2, fun W' h => .inr ⟨g, 0, rfl, (Array.getElem?_eq_some_iff.1 h).1, fun j hj => ?_⟩⟩
    have h1 := vals_get (bs ++ [7]) j hj
    rw [vals_append] at h1
    have h2 := htk
    rw [show vals bs ++ [Value.int .u8 7] = vals bs ++ vals [7] from rfl] at h2
    rw [← h2, List.getElem?_take, if_pos (by rw [List.length_append, List.length_singleton] at hj; omega)] at h1
    rw [Nat.zero_add, cell_of_row _ _ _ _ _ _ h]
    simpa using h1
theorem front8 {n₀ : Nat} {W : World} {g : Nat} {bs m : List UInt8} (h : Holds8 n₀ W (some ⟨g, 0, none⟩) (bs ++ m)) : Holds8 n₀ W (some ⟨g, 0, none⟩) bs := by
  rcases h with ⟨e, _⟩ | ⟨b, off, e, hb, hc⟩
  · cases e
  · exact .inr ⟨b, off, e, hb, fun j hj => by
      have := hc j (by rw [List.length_append]; omega)
      rwa [List.getElem_append_left hj] at this⟩

set_option maxRecDepth 100000 in
set_option maxHeartbeats 8000000 in
theorem forms_words (a b x y z : Nat) (n e1 e2 ln cm : Int) (bs : List UInt8) (cap : Nat) (A : Option Addr) (s dg : ByteArray) (w : World)
    (P1 : Hid (∀ w, Calls Try.prog 14 #[.string s] w fun e w' => e = .returned (.tuple #[.agg (wcells y), .int .i64 e2]) ∧ Below w.heap.size w w'))
    (P2 : Hid (∀ w, Calls Try.prog 15 #[.string s] w fun e w' => e = .returned (.tuple #[.agg (wcells y), .int .i64 e2]) ∧ Below w.heap.size w w'))
    (O1 : Hid (∀ w, Calls Try.prog 16 #[.int .u64 n] w fun e w' => e = .returned (.agg (wcells z)) ∧ Below w.heap.size w w'))
    (O2 : Hid (∀ w, Calls Try.prog 17 #[.int .u64 n] w fun e w' => e = .returned (.agg (wcells z)) ∧ Below w.heap.size w w'))
    (G1 : Hid (∀ w, Calls Try.prog 20 #[.agg (wcells a)] w fun e w' => e = .returned (.string dg) ∧ Below w.heap.size w w'))
    (G2 : Hid (∀ w, Calls Try.prog 21 #[.agg (wcells a)] w fun e w' => e = .returned (.string dg) ∧ Below w.heap.size w w'))
    (N1 : Hid (∀ w, Calls Try.prog 22 #[.agg (wcells a)] w fun e w' => e = .returned (.int .i64 ln) ∧ Below w.heap.size w w'))
    (N2 : Hid (∀ w, Calls Try.prog 23 #[.agg (wcells a)] w fun e w' => e = .returned (.int .i64 ln) ∧ Below w.heap.size w w'))
    (K1 : Hid (∀ w, Calls Try.prog 24 #[.agg (wcells a), .agg (wcells b)] w fun e w' => e = .returned (.int .i64 cm) ∧ Below w.heap.size w w'))
    (K2 : Hid (∀ w, Calls Try.prog 25 #[.agg (wcells a), .agg (wcells b)] w fun e w' => e = .returned (.int .i64 cm) ∧ Below w.heap.size w w'))
    (R1 : Hid (∀ A c w, Holds8 w.heap.size w A bs → Calls Try.prog 12 #[.slice A bs.length c] w fun e w' => e = .returned (.tuple #[.agg (wcells x), .int .i64 e1]) ∧ Below w.heap.size w w'))
    (R2 : Hid (∀ A c w, Holds8 w.heap.size w A bs → Calls Try.prog 13 #[.slice A bs.length c] w fun e w' => e = .returned (.tuple #[.agg (wcells x), .int .i64 e1]) ∧ Below w.heap.size w w'))
    (B1 : Hid (∀ w, Calls Try.prog 18 #[.agg (wcells a)] w (BRow w a)))
    (B2 : Hid (∀ w, Calls Try.prog 19 #[.agg (wcells a)] w (BRow w a)))
    (hI : Holds8 w.heap.size w A bs) (hl100 : bs.length ≤ 100) (hs200 : s.size ≤ 200) :
    Calls Try.prog 3 #[.agg (wcells a), .agg (wcells b), .slice A bs.length cap, .string s, .int .u64 n] w fun e w' => e = .returned (.bool true) ∧ Below w.heap.size w w' := by
  have hE := eqW
  obtain ⟨i0, hi, hz0, hz1, hz2⟩ := info_parts byte_info
  have hH := keeps2f w (wcells a) (wcells b) 24
  have hsz : ((w.alloc (.cells (wcells a) 24)).alloc (.cells (wcells b) 24)).heap.size = w.heap.size + 1 + 1 := by simp only [World.size_alloc]
  have hO := own_emptyF ((w.alloc (.cells (wcells a) 24)).alloc (.cells (wcells b) 24))
  rw [hsz] at hO
  have hB0 : Below (w.heap.size + 1 + 1) ((w.alloc (.cells (wcells a) 24)).alloc (.cells (wcells b) 24)) (((w.alloc (.cells (wcells a) 24)).alloc (.cells (wcells b) 24)).alloc (.cells #[] 5)) := by
    have h := (Below.refl ((w.alloc (.cells (wcells a) 24)).alloc (.cells (wcells b) 24)).heap.size ((w.alloc (.cells (wcells a) 24)).alloc (.cells (wcells b) 24))).alloc (Nat.le_refl _) (.cells #[] 5)
    rw [hsz] at h
    exact h
  have HSZ := Lib.hid hsz
  clear hsz
  have HI := Lib.hid hI
  have d1 : decide ((100 : Int) < (bs.length : Int)) = false := by simp; omega
  have d2 : decide ((200 : Int) < (s.size : Int)) = false := by simp; omega
  have hcl : ¬ 9223372036854775807 < bs.length + 1 := by omega
  clear hI
  go_enter Try.func3, Try.ntmps3
  have tk0 : True := trivial
  go_wp2_with (first | (at_builtin; refine append_holdsF rfl (.tmp 28) (.tmp 29) rfl (w.heap.size + 1 + 1) (w.heap.size + 1 + 1) rfl hO A bs cap _ rfl (HI.out.below (hH.bel.trans (hB0.mono (by omega))) (Nat.le_refl _)) hl100 (by simp) ?_; intro v1 w1 hrow hgrow; have hB1 : Below (w.heap.size + 1 + 1) ((w.alloc (.cells (wcells a) 24)).alloc (.cells (wcells b) 24)) w1 := hB0.grown hgrow (by simp) (fun k e => by cases e; exact Nat.le_refl _); clear hO hB0) | (at_builtin; refine wpList_append_own_at _ rfl (.tmp 30) (.tmp 31) _ rfl (w.heap.size + 1 + 1) 5 i0 (.int .u8 0) 1 1 Try.underlying25 hi hz0 hz1 hz2 rfl (by decide) _ _ _ rfl (hrow.alloc _) ⟨w1.heap.size, 0, none⟩ 1 1 [.int .u8 7] rfl rfl (cell_one_new _ _ _) (by simp [Value.oneCell']) (by unfold maxLen; omega) (by omega) (by have h1 := hB1.size; rw [HSZ.out] at h1; simp only [World.size_alloc]; omega) ?_; intro v2 w2 hown2 hgrow2 _ _; have hB2 : Below (w.heap.size + 1 + 1) ((w.alloc (.cells (wcells a) 24)).alloc (.cells (wcells b) 24)) w2 := (hB1.alloc (by have h1 := hB1.size; rw [HSZ.out] at h1; exact h1) _).grown hgrow2 (by have h1 := hB1.size; rw [HSZ.out] at h1; simp only [World.size_alloc]; omega) (fun j hj => (hrow.lt j hj).1); obtain ⟨g, c2, cur, rfl, hgb, hg, hlc, hlc2, hall⟩ := own_shapeF hown2; replace hH := hH.gain (by rw [HSZ.out]; exact hB2) (by rw [HSZ.out]; exact hgb) hg; have HALL := Lib.hid hall; have HOWN := Lib.hid (fun W h => front8 (hall W h)); clear hall hB2 hB1 hgrow2 hgrow hrow hown2 hgb hg) | (go_at_call 14; with_reducible refine (P1.out _).mono ?_; rintro e W1 ⟨rfl, hB⟩; replace hH := hH.call hB; clear hB) | (go_at_call 15; with_reducible refine (P2.out _).mono ?_; rintro e W1 ⟨rfl, hB⟩; replace hH := hH.call hB; clear hB) | (go_at_call 16; with_reducible refine (O1.out _).mono ?_; rintro e W1 ⟨rfl, hB⟩; replace hH := hH.call hB; clear hB) | (go_at_call 17; with_reducible refine (O2.out _).mono ?_; rintro e W1 ⟨rfl, hB⟩; replace hH := hH.call hB; clear hB) | (go_at_call 12; with_reducible refine (R1.out _ _ _ (HOWN.out _ (hH.get 2 rfl))).mono ?_; rintro e W1 ⟨rfl, hB⟩; replace hH := hH.call hB; clear hB) | (go_at_call 13; with_reducible refine (R2.out _ _ _ ((HI.out.below hH.bel (Nat.le_refl _)).more hH.bel.size)).mono ?_; rintro e W1 ⟨rfl, hB⟩; replace hH := hH.call hB; clear hB) | (have _t := tk0; refine wpList_fill hH rfl 24 _ _ rfl rfl rfl (infoW _) rfl (oneW _) ?_; clear _t tk0 hH; have tk1 : True := trivial; intro W1 hH) | (have _t := tk1; refine wpList_fill hH rfl 24 _ _ rfl rfl rfl (infoW _) rfl (oneW _) ?_; clear _t tk1 hH; have tk2 : True := trivial; intro W1 hH) | (have _t := tk2; refine wpList_fill hH rfl 24 _ _ rfl rfl rfl (infoW _) rfl (oneW _) ?_; clear _t tk2 hH; have tk3 : True := trivial; intro W1 hH) | (have _t := tk3; refine wpList_fill hH rfl 24 _ _ rfl rfl rfl (infoW _) rfl (oneW _) ?_; clear _t tk3 hH; have tk4 : True := trivial; intro W1 hH) | (have _t := tk4; refine wpList_boxg hH 3 24 _ rfl rfl rfl _ Try.underlying24 rfl (infoW _) (by rfl) ?_; clear _t tk4; have tk5 : True := trivial) | (have _t := tk5; refine wpList_boxg hH 4 24 _ rfl rfl rfl _ Try.underlying24 rfl (infoW _) (by rfl) ?_; clear _t tk5; have tk6 : True := trivial) | (have _t := tk6; refine wpList_boxg hH 5 24 _ rfl rfl rfl _ Try.underlying24 rfl (infoW _) (by rfl) ?_; clear _t tk6; have tk7 : True := trivial) | (have _t := tk7; refine wpList_boxg hH 6 24 _ rfl rfl rfl _ Try.underlying24 rfl (infoW _) (by rfl) ?_; clear _t tk7; have tk8 : True := trivial; have hcv1 : (convert 25 9 (.slice (some ⟨g, 0, none⟩) (bs.length + 1) c2)).run Try.prog _ = .ok (.string (⟨bs.toArray⟩ ++ ⟨#[7]⟩)) _ := (by have q := str_of (HALL.out _ (hH.get 2 rfl)) c2; rw [List.length_append, List.length_singleton, ← str_snoc] at q; exact q); have hcv2 := str_of (HI.out.below hH.bel (Nat.le_refl _)) cap))
  clear hcv1 hcv2
  simp only [List.nil_append, List.cons_append] at hH
  apply wp_boxes2 (W0 := w)
  case hreg =>
    refine AnyK.start 31 rfl (by kernel_rfl) hH ?_
    refine AnyK.take 0 (some 89) rfl rfl (by kernel_rfl) (by kernel_rfl) (by kernel_rfl) (fun _ _ _ h => nomatch h.1) (yieldsIf_box 0 rfl 24 _ rfl rfl rfl _ Try.underlying24 rfl (infoW _)) ?_
    simp only [Act.put, List.setIfInBounds_toArray, List.set_cons_zero, List.set_cons_succ]
    refine AnyK.take 3 (some 92) rfl rfl (by kernel_rfl) (by kernel_rfl) (by kernel_rfl) (fun _ _ _ h => nomatch h.1) (yieldsIf_box 0 rfl 24 _ rfl rfl rfl _ Try.underlying24 rfl (infoW _)) ?_
    simp only [Act.put, List.setIfInBounds_toArray, List.set_cons_zero, List.set_cons_succ]
    refine AnyK.ready [1] (by kernel_rfl) (by simp) ?_
    refine steps_cons ?_ steps_nil
    refine StepK.brow (i := 1) (some 90) rfl rfl rfl (fun W => by go_simp) B1.out (fun q1 => ?_)
    simp only [Act.put, List.setIfInBounds_toArray, List.set_cons_zero, List.set_cons_succ]
    refine AnyK.ready [2, 4] (by kernel_rfl) (by simp) ?_
    refine steps_cons ?_ ?_
    ·
      refine StepK.reads (i := 2) (v := .string ⟨(bytesW a).toArray⟩) (some 91) rfl rfl rfl (fun W hW => by have q := strB a q1 W (hW.get 7 rfl); go_simp) ?_
      simp only [Act.put, List.setIfInBounds_toArray, List.set_cons_zero, List.set_cons_succ]
      refine AnyK.ready [4] (by kernel_rfl) (by simp) ?_
      refine steps_cons ?_ steps_nil
      refine StepK.brow (i := 4) (some 93) rfl rfl rfl (fun W => by go_simp) B2.out (fun q4 => ?_)
      simp only [Act.put, List.setIfInBounds_toArray, List.set_cons_zero, List.set_cons_succ]
      refine AnyK.ready [5] (by kernel_rfl) (by simp) ?_
      refine steps_cons ?_ steps_nil
      refine StepK.reads (i := 5) (v := .string ⟨(bytesW a).toArray⟩) (some 94) rfl rfl rfl (fun W hW => by have q := strB a q4 W (hW.get 8 rfl); go_simp) ?_
      simp only [Act.put, List.setIfInBounds_toArray, List.set_cons_zero, List.set_cons_succ]
      refine AnyK.take 6 (some 95) rfl rfl (by kernel_rfl) (by kernel_rfl) (by kernel_rfl) (fun _ _ _ h => nomatch h.1) (v := _) (.inl ⟨by rfl, fun W hW => by first | (go_simp; done) | (go_simp; rfl)⟩) ?_
      simp only [Act.put, List.setIfInBounds_toArray, List.set_cons_zero, List.set_cons_succ]
      refine AnyK.take 7 (some 96) rfl rfl (by kernel_rfl) (by kernel_rfl) (by kernel_rfl) (fun _ _ _ h => nomatch h.1) (v := _) (.inl ⟨by rfl, fun W hW => by first | (go_simp; done) | (go_simp; rfl)⟩) ?_
      simp only [Act.put, List.setIfInBounds_toArray, List.set_cons_zero, List.set_cons_succ]
      refine AnyK.take 8 (some 97) rfl rfl (by kernel_rfl) (by kernel_rfl) (by kernel_rfl) (fun _ _ _ h => nomatch h.1) (yieldsIf_box 0 rfl 24 _ rfl rfl rfl _ Try.underlying24 rfl (infoW _)) ?_
      simp only [Act.put, List.setIfInBounds_toArray, List.set_cons_zero, List.set_cons_succ]
      refine AnyK.take 10 (some 99) rfl rfl (by kernel_rfl) (by kernel_rfl) (by kernel_rfl) (fun _ _ _ h => nomatch h.1) (yieldsIf_box 0 rfl 24 _ rfl rfl rfl _ Try.underlying24 rfl (infoW _)) ?_
      simp only [Act.put, List.setIfInBounds_toArray, List.set_cons_zero, List.set_cons_succ]
      refine AnyK.ready [9] (by kernel_rfl) (by simp) ?_
      refine steps_cons ?_ steps_nil
      refine StepK.call (i := 9) (some 98) rfl rfl rfl (fun W => by go_simp) G1.out ?_
      simp only [Act.put, List.setIfInBounds_toArray, List.set_cons_zero, List.set_cons_succ]
      refine AnyK.ready [11] (by kernel_rfl) (by simp) ?_
      refine steps_cons ?_ steps_nil
      refine StepK.call (i := 11) (some 100) rfl rfl rfl (fun W => by go_simp) G2.out ?_
      simp only [Act.put, List.setIfInBounds_toArray, List.set_cons_zero, List.set_cons_succ]
      refine AnyK.take 12 (some 101) rfl rfl (by kernel_rfl) (by kernel_rfl) (by kernel_rfl) (fun _ _ _ h => nomatch h.1) (v := _) (.inl ⟨by rfl, fun W hW => by first | (go_simp; done) | (go_simp; rfl)⟩) ?_
      simp only [Act.put, List.setIfInBounds_toArray, List.set_cons_zero, List.set_cons_succ]
      refine AnyK.take 13 (some 102) rfl rfl (by kernel_rfl) (by kernel_rfl) (by kernel_rfl) (fun _ _ _ h => nomatch h.1) (v := _) (.inl ⟨by rfl, fun W hW => by first | (go_simp; done) | (go_simp; rfl)⟩) ?_
      simp only [Act.put, List.setIfInBounds_toArray, List.set_cons_zero, List.set_cons_succ]
      refine AnyK.take 14 (some 103) rfl rfl (by kernel_rfl) (by kernel_rfl) (by kernel_rfl) (fun _ _ _ h => nomatch h.1) (v := _) (.inl ⟨by rfl, fun W hW => by first | (go_simp; done) | (go_simp; rfl)⟩) ?_
      simp only [Act.put, List.setIfInBounds_toArray, List.set_cons_zero, List.set_cons_succ]
      refine AnyK.take 15 (some 104) rfl rfl (by kernel_rfl) (by kernel_rfl) (by kernel_rfl) (fun _ _ _ h => nomatch h.1) (yieldsIf_box 0 rfl 24 _ rfl rfl rfl _ Try.underlying24 rfl (infoW _)) ?_
      simp only [Act.put, List.setIfInBounds_toArray, List.set_cons_zero, List.set_cons_succ]
      refine AnyK.take 17 (some 106) rfl rfl (by kernel_rfl) (by kernel_rfl) (by kernel_rfl) (fun _ _ _ h => nomatch h.1) (yieldsIf_box 0 rfl 24 _ rfl rfl rfl _ Try.underlying24 rfl (infoW _)) ?_
      simp only [Act.put, List.setIfInBounds_toArray, List.set_cons_zero, List.set_cons_succ]
      refine AnyK.ready [16] (by kernel_rfl) (by simp) ?_
      refine steps_cons ?_ steps_nil
      refine StepK.call (i := 16) (some 105) rfl rfl rfl (fun W => by go_simp) N1.out ?_
      simp only [Act.put, List.setIfInBounds_toArray, List.set_cons_zero, List.set_cons_succ]
      refine AnyK.ready [18] (by kernel_rfl) (by simp) ?_
      refine steps_cons ?_ steps_nil
      refine StepK.call (i := 18) (some 107) rfl rfl rfl (fun W => by go_simp) N2.out ?_
      simp only [Act.put, List.setIfInBounds_toArray, List.set_cons_zero, List.set_cons_succ]
      refine AnyK.take 19 (some 108) rfl rfl (by kernel_rfl) (by kernel_rfl) (by kernel_rfl) (fun _ _ _ h => nomatch h.1) (v := _) (.inl ⟨by rfl, fun W hW => by first | (go_simp; done) | (go_simp; rfl)⟩) ?_
      simp only [Act.put, List.setIfInBounds_toArray, List.set_cons_zero, List.set_cons_succ]
      refine AnyK.take 20 (some 109) rfl rfl (by kernel_rfl) (by kernel_rfl) (by kernel_rfl) (fun _ _ _ h => nomatch h.1) (v := _) (.inl ⟨by rfl, fun W hW => by first | (go_simp; done) | (go_simp; rfl)⟩) ?_
      simp only [Act.put, List.setIfInBounds_toArray, List.set_cons_zero, List.set_cons_succ]
      refine AnyK.take 21 (some 110) rfl rfl (by kernel_rfl) (by kernel_rfl) (by kernel_rfl) (fun _ _ _ h => nomatch h.1) (v := _) (.inl ⟨by rfl, fun W hW => by first | (go_simp; done) | (go_simp; rfl)⟩) ?_
      simp only [Act.put, List.setIfInBounds_toArray, List.set_cons_zero, List.set_cons_succ]
      refine AnyK.take 22 (some 111) rfl rfl (by kernel_rfl) (by kernel_rfl) (by kernel_rfl) (fun _ _ _ h => nomatch h.1) (yieldsIf_box 0 rfl 24 _ rfl rfl rfl _ Try.underlying24 rfl (infoW _)) ?_
      simp only [Act.put, List.setIfInBounds_toArray, List.set_cons_zero, List.set_cons_succ]
      refine AnyK.take 23 (some 112) rfl rfl (by kernel_rfl) (by kernel_rfl) (by kernel_rfl) (fun _ _ _ h => nomatch h.1) (yieldsIf_box 1 rfl 24 _ rfl rfl rfl _ Try.underlying24 rfl (infoW _)) ?_
      simp only [Act.put, List.setIfInBounds_toArray, List.set_cons_zero, List.set_cons_succ]
      refine AnyK.take 25 (some 114) rfl rfl (by kernel_rfl) (by kernel_rfl) (by kernel_rfl) (fun _ _ _ h => nomatch h.1) (yieldsIf_box 0 rfl 24 _ rfl rfl rfl _ Try.underlying24 rfl (infoW _)) ?_
      simp only [Act.put, List.setIfInBounds_toArray, List.set_cons_zero, List.set_cons_succ]
      refine AnyK.take 26 (some 115) rfl rfl (by kernel_rfl) (by kernel_rfl) (by kernel_rfl) (fun _ _ _ h => nomatch h.1) (yieldsIf_box 1 rfl 24 _ rfl rfl rfl _ Try.underlying24 rfl (infoW _)) ?_
      simp only [Act.put, List.setIfInBounds_toArray, List.set_cons_zero, List.set_cons_succ]
      refine AnyK.ready [24] (by kernel_rfl) (by simp) ?_
      refine steps_cons ?_ steps_nil
      refine StepK.call (i := 24) (some 113) rfl rfl rfl (fun W => by go_simp) K1.out ?_
      simp only [Act.put, List.setIfInBounds_toArray, List.set_cons_zero, List.set_cons_succ]
      refine AnyK.ready [27] (by kernel_rfl) (by simp) ?_
      refine steps_cons ?_ steps_nil
      refine StepK.call (i := 27) (some 116) rfl rfl rfl (fun W => by go_simp) K2.out ?_
      simp only [Act.put, List.setIfInBounds_toArray, List.set_cons_zero, List.set_cons_succ]
      refine AnyK.take 28 (some 117) rfl rfl (by kernel_rfl) (by kernel_rfl) (by kernel_rfl) (fun _ _ _ h => nomatch h.1) (v := _) (.inl ⟨by rfl, fun W hW => by first | (go_simp; done) | (go_simp; rfl)⟩) ?_
      simp only [Act.put, List.setIfInBounds_toArray, List.set_cons_zero, List.set_cons_succ]
      refine AnyK.take 29 (some 118) rfl rfl (by kernel_rfl) (by kernel_rfl) (by kernel_rfl) (fun _ _ _ h => nomatch h.1) (v := _) (.inl ⟨by rfl, fun W hW => by first | (go_simp; done) | (go_simp; rfl)⟩) ?_
      simp only [Act.put, List.setIfInBounds_toArray, List.set_cons_zero, List.set_cons_succ]
      refine AnyK.take 30 (some 10) rfl rfl (by kernel_rfl) (by kernel_rfl) (by kernel_rfl) (fun _ _ _ h => nomatch h.1) (v := _) (.inl ⟨by rfl, fun W hW => by first | (go_simp; done) | (go_simp; rfl)⟩) ?_
      simp only [Act.put, List.setIfInBounds_toArray, List.set_cons_zero, List.set_cons_succ]
      refine AnyK.done (by kernel_rfl) ?_
      exact fun W hW => ⟨rfl, q1, q4, rfl, hW⟩
    refine steps_cons ?_ ?_
    ·
      refine StepK.brow (i := 4) (some 93) rfl rfl rfl (fun W => by go_simp) B2.out (fun q4 => ?_)
      simp only [Act.put, List.setIfInBounds_toArray, List.set_cons_zero, List.set_cons_succ]
      refine AnyK.ready [2, 5] (by kernel_rfl) (by simp) ?_
      refine steps_cons ?_ ?_
      ·
        refine StepK.reads (i := 2) (v := .string ⟨(bytesW a).toArray⟩) (some 91) rfl rfl rfl (fun W hW => by have q := strB a q1 W (hW.get 7 rfl); go_simp) ?_
        simp only [Act.put, List.setIfInBounds_toArray, List.set_cons_zero, List.set_cons_succ]
        refine AnyK.ready [5] (by kernel_rfl) (by simp) ?_
        refine steps_cons ?_ steps_nil
        refine StepK.reads (i := 5) (v := .string ⟨(bytesW a).toArray⟩) (some 94) rfl rfl rfl (fun W hW => by have q := strB a q4 W (hW.get 8 rfl); go_simp) ?_
        simp only [Act.put, List.setIfInBounds_toArray, List.set_cons_zero, List.set_cons_succ]
        refine AnyK.take 6 (some 95) rfl rfl (by kernel_rfl) (by kernel_rfl) (by kernel_rfl) (fun _ _ _ h => nomatch h.1) (v := _) (.inl ⟨by rfl, fun W hW => by first | (go_simp; done) | (go_simp; rfl)⟩) ?_
        simp only [Act.put, List.setIfInBounds_toArray, List.set_cons_zero, List.set_cons_succ]
        refine AnyK.take 7 (some 96) rfl rfl (by kernel_rfl) (by kernel_rfl) (by kernel_rfl) (fun _ _ _ h => nomatch h.1) (v := _) (.inl ⟨by rfl, fun W hW => by first | (go_simp; done) | (go_simp; rfl)⟩) ?_
        simp only [Act.put, List.setIfInBounds_toArray, List.set_cons_zero, List.set_cons_succ]
        refine AnyK.take 8 (some 97) rfl rfl (by kernel_rfl) (by kernel_rfl) (by kernel_rfl) (fun _ _ _ h => nomatch h.1) (yieldsIf_box 0 rfl 24 _ rfl rfl rfl _ Try.underlying24 rfl (infoW _)) ?_
        simp only [Act.put, List.setIfInBounds_toArray, List.set_cons_zero, List.set_cons_succ]
        refine AnyK.take 10 (some 99) rfl rfl (by kernel_rfl) (by kernel_rfl) (by kernel_rfl) (fun _ _ _ h => nomatch h.1) (yieldsIf_box 0 rfl 24 _ rfl rfl rfl _ Try.underlying24 rfl (infoW _)) ?_
        simp only [Act.put, List.setIfInBounds_toArray, List.set_cons_zero, List.set_cons_succ]
        refine AnyK.ready [9] (by kernel_rfl) (by simp) ?_
        refine steps_cons ?_ steps_nil
        refine StepK.call (i := 9) (some 98) rfl rfl rfl (fun W => by go_simp) G1.out ?_
        simp only [Act.put, List.setIfInBounds_toArray, List.set_cons_zero, List.set_cons_succ]
        refine AnyK.ready [11] (by kernel_rfl) (by simp) ?_
        refine steps_cons ?_ steps_nil
        refine StepK.call (i := 11) (some 100) rfl rfl rfl (fun W => by go_simp) G2.out ?_
        simp only [Act.put, List.setIfInBounds_toArray, List.set_cons_zero, List.set_cons_succ]
        refine AnyK.take 12 (some 101) rfl rfl (by kernel_rfl) (by kernel_rfl) (by kernel_rfl) (fun _ _ _ h => nomatch h.1) (v := _) (.inl ⟨by rfl, fun W hW => by first | (go_simp; done) | (go_simp; rfl)⟩) ?_
        simp only [Act.put, List.setIfInBounds_toArray, List.set_cons_zero, List.set_cons_succ]
        refine AnyK.take 13 (some 102) rfl rfl (by kernel_rfl) (by kernel_rfl) (by kernel_rfl) (fun _ _ _ h => nomatch h.1) (v := _) (.inl ⟨by rfl, fun W hW => by first | (go_simp; done) | (go_simp; rfl)⟩) ?_
        simp only [Act.put, List.setIfInBounds_toArray, List.set_cons_zero, List.set_cons_succ]
        refine AnyK.take 14 (some 103) rfl rfl (by kernel_rfl) (by kernel_rfl) (by kernel_rfl) (fun _ _ _ h => nomatch h.1) (v := _) (.inl ⟨by rfl, fun W hW => by first | (go_simp; done) | (go_simp; rfl)⟩) ?_
        simp only [Act.put, List.setIfInBounds_toArray, List.set_cons_zero, List.set_cons_succ]
        refine AnyK.take 15 (some 104) rfl rfl (by kernel_rfl) (by kernel_rfl) (by kernel_rfl) (fun _ _ _ h => nomatch h.1) (yieldsIf_box 0 rfl 24 _ rfl rfl rfl _ Try.underlying24 rfl (infoW _)) ?_
        simp only [Act.put, List.setIfInBounds_toArray, List.set_cons_zero, List.set_cons_succ]
        refine AnyK.take 17 (some 106) rfl rfl (by kernel_rfl) (by kernel_rfl) (by kernel_rfl) (fun _ _ _ h => nomatch h.1) (yieldsIf_box 0 rfl 24 _ rfl rfl rfl _ Try.underlying24 rfl (infoW _)) ?_
        simp only [Act.put, List.setIfInBounds_toArray, List.set_cons_zero, List.set_cons_succ]
        refine AnyK.ready [16] (by kernel_rfl) (by simp) ?_
        refine steps_cons ?_ steps_nil
        refine StepK.call (i := 16) (some 105) rfl rfl rfl (fun W => by go_simp) N1.out ?_
        simp only [Act.put, List.setIfInBounds_toArray, List.set_cons_zero, List.set_cons_succ]
        refine AnyK.ready [18] (by kernel_rfl) (by simp) ?_
        refine steps_cons ?_ steps_nil
        refine StepK.call (i := 18) (some 107) rfl rfl rfl (fun W => by go_simp) N2.out ?_
        simp only [Act.put, List.setIfInBounds_toArray, List.set_cons_zero, List.set_cons_succ]
        refine AnyK.take 19 (some 108) rfl rfl (by kernel_rfl) (by kernel_rfl) (by kernel_rfl) (fun _ _ _ h => nomatch h.1) (v := _) (.inl ⟨by rfl, fun W hW => by first | (go_simp; done) | (go_simp; rfl)⟩) ?_
        simp only [Act.put, List.setIfInBounds_toArray, List.set_cons_zero, List.set_cons_succ]
        refine AnyK.take 20 (some 109) rfl rfl (by kernel_rfl) (by kernel_rfl) (by kernel_rfl) (fun _ _ _ h => nomatch h.1) (v := _) (.inl ⟨by rfl, fun W hW => by first | (go_simp; done) | (go_simp; rfl)⟩) ?_
        simp only [Act.put, List.setIfInBounds_toArray, List.set_cons_zero, List.set_cons_succ]
        refine AnyK.take 21 (some 110) rfl rfl (by kernel_rfl) (by kernel_rfl) (by kernel_rfl) (fun _ _ _ h => nomatch h.1) (v := _) (.inl ⟨by rfl, fun W hW => by first | (go_simp; done) | (go_simp; rfl)⟩) ?_
        simp only [Act.put, List.setIfInBounds_toArray, List.set_cons_zero, List.set_cons_succ]
        refine AnyK.take 22 (some 111) rfl rfl (by kernel_rfl) (by kernel_rfl) (by kernel_rfl) (fun _ _ _ h => nomatch h.1) (yieldsIf_box 0 rfl 24 _ rfl rfl rfl _ Try.underlying24 rfl (infoW _)) ?_
        simp only [Act.put, List.setIfInBounds_toArray, List.set_cons_zero, List.set_cons_succ]
        refine AnyK.take 23 (some 112) rfl rfl (by kernel_rfl) (by kernel_rfl) (by kernel_rfl) (fun _ _ _ h => nomatch h.1) (yieldsIf_box 1 rfl 24 _ rfl rfl rfl _ Try.underlying24 rfl (infoW _)) ?_
        simp only [Act.put, List.setIfInBounds_toArray, List.set_cons_zero, List.set_cons_succ]
        refine AnyK.take 25 (some 114) rfl rfl (by kernel_rfl) (by kernel_rfl) (by kernel_rfl) (fun _ _ _ h => nomatch h.1) (yieldsIf_box 0 rfl 24 _ rfl rfl rfl _ Try.underlying24 rfl (infoW _)) ?_
        simp only [Act.put, List.setIfInBounds_toArray, List.set_cons_zero, List.set_cons_succ]
        refine AnyK.take 26 (some 115) rfl rfl (by kernel_rfl) (by kernel_rfl) (by kernel_rfl) (fun _ _ _ h => nomatch h.1) (yieldsIf_box 1 rfl 24 _ rfl rfl rfl _ Try.underlying24 rfl (infoW _)) ?_
        simp only [Act.put, List.setIfInBounds_toArray, List.set_cons_zero, List.set_cons_succ]
        refine AnyK.ready [24] (by kernel_rfl) (by simp) ?_
        refine steps_cons ?_ steps_nil
        refine StepK.call (i := 24) (some 113) rfl rfl rfl (fun W => by go_simp) K1.out ?_
        simp only [Act.put, List.setIfInBounds_toArray, List.set_cons_zero, List.set_cons_succ]
        refine AnyK.ready [27] (by kernel_rfl) (by simp) ?_
        refine steps_cons ?_ steps_nil
        refine StepK.call (i := 27) (some 116) rfl rfl rfl (fun W => by go_simp) K2.out ?_
        simp only [Act.put, List.setIfInBounds_toArray, List.set_cons_zero, List.set_cons_succ]
        refine AnyK.take 28 (some 117) rfl rfl (by kernel_rfl) (by kernel_rfl) (by kernel_rfl) (fun _ _ _ h => nomatch h.1) (v := _) (.inl ⟨by rfl, fun W hW => by first | (go_simp; done) | (go_simp; rfl)⟩) ?_
        simp only [Act.put, List.setIfInBounds_toArray, List.set_cons_zero, List.set_cons_succ]
        refine AnyK.take 29 (some 118) rfl rfl (by kernel_rfl) (by kernel_rfl) (by kernel_rfl) (fun _ _ _ h => nomatch h.1) (v := _) (.inl ⟨by rfl, fun W hW => by first | (go_simp; done) | (go_simp; rfl)⟩) ?_
        simp only [Act.put, List.setIfInBounds_toArray, List.set_cons_zero, List.set_cons_succ]
        refine AnyK.take 30 (some 10) rfl rfl (by kernel_rfl) (by kernel_rfl) (by kernel_rfl) (fun _ _ _ h => nomatch h.1) (v := _) (.inl ⟨by rfl, fun W hW => by first | (go_simp; done) | (go_simp; rfl)⟩) ?_
        simp only [Act.put, List.setIfInBounds_toArray, List.set_cons_zero, List.set_cons_succ]
        refine AnyK.done (by kernel_rfl) ?_
        exact fun W hW => ⟨rfl, q1, q4, rfl, hW⟩
      refine steps_cons ?_ ?_
      ·
        refine StepK.reads (i := 5) (v := .string ⟨(bytesW a).toArray⟩) (some 94) rfl rfl rfl (fun W hW => by have q := strB a q4 W (hW.get 8 rfl); go_simp) ?_
        simp only [Act.put, List.setIfInBounds_toArray, List.set_cons_zero, List.set_cons_succ]
        refine AnyK.ready [2] (by kernel_rfl) (by simp) ?_
        refine steps_cons ?_ steps_nil
        refine StepK.reads (i := 2) (v := .string ⟨(bytesW a).toArray⟩) (some 91) rfl rfl rfl (fun W hW => by have q := strB a q1 W (hW.get 7 rfl); go_simp) ?_
        simp only [Act.put, List.setIfInBounds_toArray, List.set_cons_zero, List.set_cons_succ]
        refine AnyK.take 6 (some 95) rfl rfl (by kernel_rfl) (by kernel_rfl) (by kernel_rfl) (fun _ _ _ h => nomatch h.1) (v := _) (.inl ⟨by rfl, fun W hW => by first | (go_simp; done) | (go_simp; rfl)⟩) ?_
        simp only [Act.put, List.setIfInBounds_toArray, List.set_cons_zero, List.set_cons_succ]
        refine AnyK.take 7 (some 96) rfl rfl (by kernel_rfl) (by kernel_rfl) (by kernel_rfl) (fun _ _ _ h => nomatch h.1) (v := _) (.inl ⟨by rfl, fun W hW => by first | (go_simp; done) | (go_simp; rfl)⟩) ?_
        simp only [Act.put, List.setIfInBounds_toArray, List.set_cons_zero, List.set_cons_succ]
        refine AnyK.take 8 (some 97) rfl rfl (by kernel_rfl) (by kernel_rfl) (by kernel_rfl) (fun _ _ _ h => nomatch h.1) (yieldsIf_box 0 rfl 24 _ rfl rfl rfl _ Try.underlying24 rfl (infoW _)) ?_
        simp only [Act.put, List.setIfInBounds_toArray, List.set_cons_zero, List.set_cons_succ]
        refine AnyK.take 10 (some 99) rfl rfl (by kernel_rfl) (by kernel_rfl) (by kernel_rfl) (fun _ _ _ h => nomatch h.1) (yieldsIf_box 0 rfl 24 _ rfl rfl rfl _ Try.underlying24 rfl (infoW _)) ?_
        simp only [Act.put, List.setIfInBounds_toArray, List.set_cons_zero, List.set_cons_succ]
        refine AnyK.ready [9] (by kernel_rfl) (by simp) ?_
        refine steps_cons ?_ steps_nil
        refine StepK.call (i := 9) (some 98) rfl rfl rfl (fun W => by go_simp) G1.out ?_
        simp only [Act.put, List.setIfInBounds_toArray, List.set_cons_zero, List.set_cons_succ]
        refine AnyK.ready [11] (by kernel_rfl) (by simp) ?_
        refine steps_cons ?_ steps_nil
        refine StepK.call (i := 11) (some 100) rfl rfl rfl (fun W => by go_simp) G2.out ?_
        simp only [Act.put, List.setIfInBounds_toArray, List.set_cons_zero, List.set_cons_succ]
        refine AnyK.take 12 (some 101) rfl rfl (by kernel_rfl) (by kernel_rfl) (by kernel_rfl) (fun _ _ _ h => nomatch h.1) (v := _) (.inl ⟨by rfl, fun W hW => by first | (go_simp; done) | (go_simp; rfl)⟩) ?_
        simp only [Act.put, List.setIfInBounds_toArray, List.set_cons_zero, List.set_cons_succ]
        refine AnyK.take 13 (some 102) rfl rfl (by kernel_rfl) (by kernel_rfl) (by kernel_rfl) (fun _ _ _ h => nomatch h.1) (v := _) (.inl ⟨by rfl, fun W hW => by first | (go_simp; done) | (go_simp; rfl)⟩) ?_
        simp only [Act.put, List.setIfInBounds_toArray, List.set_cons_zero, List.set_cons_succ]
        refine AnyK.take 14 (some 103) rfl rfl (by kernel_rfl) (by kernel_rfl) (by kernel_rfl) (fun _ _ _ h => nomatch h.1) (v := _) (.inl ⟨by rfl, fun W hW => by first | (go_simp; done) | (go_simp; rfl)⟩) ?_
        simp only [Act.put, List.setIfInBounds_toArray, List.set_cons_zero, List.set_cons_succ]
        refine AnyK.take 15 (some 104) rfl rfl (by kernel_rfl) (by kernel_rfl) (by kernel_rfl) (fun _ _ _ h => nomatch h.1) (yieldsIf_box 0 rfl 24 _ rfl rfl rfl _ Try.underlying24 rfl (infoW _)) ?_
        simp only [Act.put, List.setIfInBounds_toArray, List.set_cons_zero, List.set_cons_succ]
        refine AnyK.take 17 (some 106) rfl rfl (by kernel_rfl) (by kernel_rfl) (by kernel_rfl) (fun _ _ _ h => nomatch h.1) (yieldsIf_box 0 rfl 24 _ rfl rfl rfl _ Try.underlying24 rfl (infoW _)) ?_
        simp only [Act.put, List.setIfInBounds_toArray, List.set_cons_zero, List.set_cons_succ]
        refine AnyK.ready [16] (by kernel_rfl) (by simp) ?_
        refine steps_cons ?_ steps_nil
        refine StepK.call (i := 16) (some 105) rfl rfl rfl (fun W => by go_simp) N1.out ?_
        simp only [Act.put, List.setIfInBounds_toArray, List.set_cons_zero, List.set_cons_succ]
        refine AnyK.ready [18] (by kernel_rfl) (by simp) ?_
        refine steps_cons ?_ steps_nil
        refine StepK.call (i := 18) (some 107) rfl rfl rfl (fun W => by go_simp) N2.out ?_
        simp only [Act.put, List.setIfInBounds_toArray, List.set_cons_zero, List.set_cons_succ]
        refine AnyK.take 19 (some 108) rfl rfl (by kernel_rfl) (by kernel_rfl) (by kernel_rfl) (fun _ _ _ h => nomatch h.1) (v := _) (.inl ⟨by rfl, fun W hW => by first | (go_simp; done) | (go_simp; rfl)⟩) ?_
        simp only [Act.put, List.setIfInBounds_toArray, List.set_cons_zero, List.set_cons_succ]
        refine AnyK.take 20 (some 109) rfl rfl (by kernel_rfl) (by kernel_rfl) (by kernel_rfl) (fun _ _ _ h => nomatch h.1) (v := _) (.inl ⟨by rfl, fun W hW => by first | (go_simp; done) | (go_simp; rfl)⟩) ?_
        simp only [Act.put, List.setIfInBounds_toArray, List.set_cons_zero, List.set_cons_succ]
        refine AnyK.take 21 (some 110) rfl rfl (by kernel_rfl) (by kernel_rfl) (by kernel_rfl) (fun _ _ _ h => nomatch h.1) (v := _) (.inl ⟨by rfl, fun W hW => by first | (go_simp; done) | (go_simp; rfl)⟩) ?_
        simp only [Act.put, List.setIfInBounds_toArray, List.set_cons_zero, List.set_cons_succ]
        refine AnyK.take 22 (some 111) rfl rfl (by kernel_rfl) (by kernel_rfl) (by kernel_rfl) (fun _ _ _ h => nomatch h.1) (yieldsIf_box 0 rfl 24 _ rfl rfl rfl _ Try.underlying24 rfl (infoW _)) ?_
        simp only [Act.put, List.setIfInBounds_toArray, List.set_cons_zero, List.set_cons_succ]
        refine AnyK.take 23 (some 112) rfl rfl (by kernel_rfl) (by kernel_rfl) (by kernel_rfl) (fun _ _ _ h => nomatch h.1) (yieldsIf_box 1 rfl 24 _ rfl rfl rfl _ Try.underlying24 rfl (infoW _)) ?_
        simp only [Act.put, List.setIfInBounds_toArray, List.set_cons_zero, List.set_cons_succ]
        refine AnyK.take 25 (some 114) rfl rfl (by kernel_rfl) (by kernel_rfl) (by kernel_rfl) (fun _ _ _ h => nomatch h.1) (yieldsIf_box 0 rfl 24 _ rfl rfl rfl _ Try.underlying24 rfl (infoW _)) ?_
        simp only [Act.put, List.setIfInBounds_toArray, List.set_cons_zero, List.set_cons_succ]
        refine AnyK.take 26 (some 115) rfl rfl (by kernel_rfl) (by kernel_rfl) (by kernel_rfl) (fun _ _ _ h => nomatch h.1) (yieldsIf_box 1 rfl 24 _ rfl rfl rfl _ Try.underlying24 rfl (infoW _)) ?_
        simp only [Act.put, List.setIfInBounds_toArray, List.set_cons_zero, List.set_cons_succ]
        refine AnyK.ready [24] (by kernel_rfl) (by simp) ?_
        refine steps_cons ?_ steps_nil
        refine StepK.call (i := 24) (some 113) rfl rfl rfl (fun W => by go_simp) K1.out ?_
        simp only [Act.put, List.setIfInBounds_toArray, List.set_cons_zero, List.set_cons_succ]
        refine AnyK.ready [27] (by kernel_rfl) (by simp) ?_
        refine steps_cons ?_ steps_nil
        refine StepK.call (i := 27) (some 116) rfl rfl rfl (fun W => by go_simp) K2.out ?_
        simp only [Act.put, List.setIfInBounds_toArray, List.set_cons_zero, List.set_cons_succ]
        refine AnyK.take 28 (some 117) rfl rfl (by kernel_rfl) (by kernel_rfl) (by kernel_rfl) (fun _ _ _ h => nomatch h.1) (v := _) (.inl ⟨by rfl, fun W hW => by first | (go_simp; done) | (go_simp; rfl)⟩) ?_
        simp only [Act.put, List.setIfInBounds_toArray, List.set_cons_zero, List.set_cons_succ]
        refine AnyK.take 29 (some 118) rfl rfl (by kernel_rfl) (by kernel_rfl) (by kernel_rfl) (fun _ _ _ h => nomatch h.1) (v := _) (.inl ⟨by rfl, fun W hW => by first | (go_simp; done) | (go_simp; rfl)⟩) ?_
        simp only [Act.put, List.setIfInBounds_toArray, List.set_cons_zero, List.set_cons_succ]
        refine AnyK.take 30 (some 10) rfl rfl (by kernel_rfl) (by kernel_rfl) (by kernel_rfl) (fun _ _ _ h => nomatch h.1) (v := _) (.inl ⟨by rfl, fun W hW => by first | (go_simp; done) | (go_simp; rfl)⟩) ?_
        simp only [Act.put, List.setIfInBounds_toArray, List.set_cons_zero, List.set_cons_succ]
        refine AnyK.done (by kernel_rfl) ?_
        exact fun W hW => ⟨rfl, q1, q4, rfl, hW⟩
      exact steps_nil
    exact steps_nil
  clear hH
  rintro g1 g4 W1 hH
  go_wp2
  go_ret
  exact ⟨rfl, hH.bel⟩


end Go.Proofs.Ytgmgejjlhlibkaa
