/- Contracts of sign.Public, prove, Sign and hash. Secrets and digests have 32 bytes. -/
import Derived.Test.YtijobhpmaenjlaaShaK
namespace Go.Proofs.Ytijobhpmaenjlaa
open Go.RowKit
theorem Keeps.nth {W0 W : World} {l : List (Nat × Array Value × TypeId)} (h : Keeps W0 l W) (k : Nat) {p : Nat × Array Value × TypeId} (hk : l[k]? = some p) : Keeps W0 [p] W :=
  ⟨fun i q hi => by
    match i, hi with
    | 0, hi => cases hi; exact h.rows k _ hk, fun i q hi => by
    match i, hi with
    | 0, hi => cases hi; exact h.base k _ hk, fun i j p q hi hj hij => by
    match i, j, hi, hj with
    | 0, 0, _, _ => exact absurd rfl hij, h.bel⟩
end Go.Proofs.Ytijobhpmaenjlaa
namespace Go.Proofs.Ytijobhpmaenjlaa.Oct
set_option linter.unusedVariables false
set_option linter.unusedSimpArgs false
open Go.Proofs.Ytijobhpmaenjlaa Go.RowKit Go.Lib Go.Shelf

theorem holdsK {w W : World} {l : List (Nat × Array Value × TypeId)} {k g : Nat} {bs : List UInt8} {t : TypeId} (h : Keeps w l W) (hk : l[k]? = some (g, arr8 bs, t)) : Holds8 W.heap.size W (some ⟨g, 0, none⟩) bs :=
  .inr ⟨g, 0, rfl, h.lt k hk, fun j hj => by
    rw [h.cell k hk (0 + j), Nat.zero_add, arr8_get bs j hj]
    congr 3
    simp [List.getD, hj]⟩
/-- Thirty-two bytes copied into a row of the call's own. -/
theorem run_copyK (W : World) (dT sT ty : TypeId) (g off dl dc c : Nat) (A : Option Addr) (old src : List UInt8) (t : TypeId) (n0 : Nat) (hu : Try.prog.underlying dT = some (.slice 5))
    (hg : W.heap[g]? = some (.cells (arr8 old) t (0, 0))) (h8 : Holds8 n0 W A src) (hs : src.length = 32) (hd : 32 ≤ dl) (hfit : off + 32 ≤ old.length) :
    (Builtin.copy_ #[dT, sT] ty #[.slice (some ⟨g, off, none⟩) dl dc, .slice A 32 c]).run Try.prog W = .ok (.int .i64 32) (W.setRow g (arr8 (old.take off ++ src ++ old.drop (off + 32)))) := by
  rcases h8 with ⟨_, e⟩ | ⟨b, o, rfl, hb, hc⟩
  · rw [e] at hs; cases hs
  · have hl : (vals src).length = 32 := by rw [vals_length, hs]
    have h := run_copy_row (P := Try.prog) W dT sT ty 5 g off dl dc ⟨b, o, none⟩ 32 c (arr8 old) t (vals src) hu (by kernel_rfl) hg (by rw [hl]; exact (Nat.min_eq_left hd).symm)
      (fun j x hx => by
        have hj : j < src.length := by
          have := (List.getElem?_eq_some_iff.1 hx).1
          rwa [vals_length] at this
        rw [add_off, hc j hj, ← hx, vals_get src j hj])
      (by rw [hl, arr8_size]; exact hfit) (vals_one _)
    rw [h, hl]
    congr 2
    unfold arr8
    rw [show (vals old).toArray.toList = vals old from rfl]
    congr 1
    simp only [vals, List.map_append, List.map_take, List.map_drop]
theorem wpList_copyK {W0 W : World} {l : List (Nat × Array Value × TypeId)} {ops : Array Oper} {rest : List Oper} {o : Oper} {a : Act} {Q : Exit → Act → World → Prop} (h : Keeps W0 l W) (hgd : o.guard = none) (k : Nat) (x y : Operand) (ho : o.op = .call { callee := .builtin .copy, args := #[x, y], argTypes := #[24, 24] })
    {g off dl dc c n0 : Nat} {A : Option Addr} {old src : List UInt8} {t : TypeId} (hx : a.eval x = .slice (some ⟨g, off, none⟩) dl dc) (hy : a.eval y = .slice A 32 c) (hk : l[k]? = some (g, arr8 old, t)) (h8 : Holds8 n0 W A src) (hs : src.length = 32) (hd : 32 ≤ dl) (hfit : off + 32 ≤ old.length)
    (hn : ∀ W1, Keeps W0 (l.set k (g, arr8 (old.take off ++ src ++ old.drop (off + 32)), t)) W1 → wpList Try.prog ops Q rest (a.put o.dst (.int .i64 32)) W1) : wpList Try.prog ops Q (o :: rest) a W := by
  refine wpList_run hgd (v := .int .i64 32) (w' := W.setRow g (arr8 (old.take off ++ src ++ old.drop (off + 32)))) ?_ (hn _ (h.put k hk _))
  unfold execOp
  simp only [ho, resolve, invoke, builtin, Sem.run_bind, Sem.run_pure, Result.andThen_ok, List.map_toArray, List.map_cons, List.map_nil, hx, hy, run_copyK W _ _ _ g off dl dc c A old src t n0 Try.underlying24 (h.get k hk) h8 hs hd hfit]

set_option maxRecDepth 100000 in
set_option maxHeartbeats 2000000 in
theorem public_any (w : World) (s : List UInt8) (hs : s.length = 32) : Calls Try.prog 10 #[.agg (arr8 s)] w fun e w' => e = .returned (.agg (arr8 (sha s))) ∧ Below w.heap.size w w' := by
  have hK := ((Keeps.nil w).new (arr8 s) 23).new (arr8 zero32) 23
  rw [World.size_alloc] at hK
  have CO := Lib.hid (of_32 _ w.heap.size s hs (holdsK (k := 0) hK rfl))
  clear hs
  go_enter Try.func10, Try.ntmps10
  go_wp2_with (first | (refine wpList_alloc rfl 23 rfl (z := arr8 zero32) (by kernel_rfl) ?_; try simp only [World.size_alloc]) | (go_at_call 15; (with_reducible refine CO.out.mono ?_); rintro e W1 ⟨rfl, hb⟩; replace hK := hK.call hb; clear hb) | (refine wpList_put hK 1 rfl 23 (.tmp 2) (.tmp 4) rfl rfl rfl rfl (infoH _ rfl) (size_same rfl rfl) (one8x _) ?_; clear hK; intro W5 hK))
  refine bodyPost_ret (v := .agg (arr8 (sha s))) ?_ rfl ⟨rfl, hK.bel⟩
  exact results_cell_row rfl _ _ (w.heap.size + 1) 23 _ (0, 0) _ rfl (hK.get 1 rfl) Try.underlying23 rfl (infoH _ rfl)

def zero64c : List UInt8 := List.replicate 64 0
theorem both_of (s d : List UInt8) (hs : s.length = 32) (hd : d.length = 32) : ([] ++ s ++ zero64c.drop (0 + 32)).take 32 ++ d ++ ([] ++ s ++ zero64c.drop (0 + 32)).drop (32 + 32) = s ++ d := by
  have h2 : (zero64c.drop (0 + 32)).length = 32 := rfl
  rw [List.nil_append, List.take_append_of_le_length (by omega), List.take_of_length_le (by omega), List.drop_of_length_le (by rw [List.length_append]; omega), List.append_nil]
set_option maxRecDepth 100000 in
set_option maxHeartbeats 2000000 in
theorem prove_any (w : World) (s d : List UInt8) (hs : s.length = 32) (hd : d.length = 32) : Calls Try.prog 19 #[.agg (arr8 s), .agg (arr8 d)] w fun e w' => e = .returned (.agg (arr8 (sha (s ++ d)))) ∧ Below w.heap.size w w' := by
  have hK := ((((Keeps.nil w).new (arr8 s) 23).new (arr8 d) 23).new (arr8 zero32) 23).new (arr8 zero64c) 41
  simp only [World.size_alloc, List.nil_append, List.cons_append] at hK
  have HS := Lib.hid hs
  have HD := Lib.hid hd
  clear hs hd
  go_enter Try.func19, Try.ntmps19
  go_wp2_with (first | (refine wpList_alloc rfl 23 rfl (z := arr8 zero32) (by kernel_rfl) ?_; try simp only [World.size_alloc]) | (refine wpList_alloc rfl 41 rfl (z := arr8 zero64c) (by kernel_rfl) ?_; try simp only [World.size_alloc]))
  refine wp_region_class_tail (C := Keeps w _) 2 (by kernel_rfl) (by kernel_rfl) hK.drew ?_
  simp only [List.take_succ_cons, List.take_zero, List.drop_succ_cons, List.drop_zero]
  (refine wpQuiet_step (fun K hK => ?_); go_simp; (first | refine hK _ ?_ | refine ⟨_, fun _ _ => rfl, hK _ ?_⟩); clear hK K)
  (refine wpQuiet_step (fun K hK => ?_); go_simp; (first | refine hK _ ?_ | refine ⟨_, fun _ _ => rfl, hK _ ?_⟩); clear hK K)
  refine wpQuiet_nil ?_
  clear hK
  intro W1 hK
  refine wpList_copyK hK rfl 3 (.tmp 6) (.tmp 7) rfl rfl rfl rfl (holdsK (k := 0) hK rfl) HS.out (by decide) (by decide) ?_
  clear hK
  intro W2 hK
  simp only [List.set_cons_succ, List.set_cons_zero] at hK
  unfold wpList
  go_wp2
  refine wp_region_class_tail (C := Keeps w _) 2 (by kernel_rfl) (by kernel_rfl) hK.drew ?_
  simp only [List.take_succ_cons, List.take_zero, List.drop_succ_cons, List.drop_zero]
  (refine wpQuiet_step (fun K hK => ?_); go_simp; (first | refine hK _ ?_ | refine ⟨_, fun _ _ => rfl, hK _ ?_⟩); clear hK K)
  (refine wpQuiet_step (fun K hK => ?_); go_simp; (first | refine hK _ ?_ | refine ⟨_, fun _ _ => rfl, hK _ ?_⟩); clear hK K)
  refine wpQuiet_nil ?_
  clear hK
  intro W3 hK
  refine wpList_copyK hK rfl 3 (.tmp 9) (.tmp 10) rfl rfl rfl rfl (holdsK (k := 1) hK rfl) HD.out (by decide) (by simp [HS.out, zero64c]) ?_
  clear hK
  intro W4 hK
  simp only [List.set_cons_succ, List.set_cons_zero] at hK
  have e : ([] ++ s ++ zero64c.drop (0 + 32)).take 32 ++ d ++ ([] ++ s ++ zero64c.drop (0 + 32)).drop (32 + 32) = s ++ d := both_of s d HS.out HD.out
  rw [e] at hK
  clear e
  have CO := Lib.hid (of_any' W4 (some ⟨w.heap.size + 1 + 1 + 1, 0, none⟩) 64 64 (s ++ d) (by rw [List.length_append, HS.out, HD.out]) (holdsK (k := 3) hK rfl) (by decide) (by decide))
  unfold wpList
  go_wp2_with (first | (go_at_call 15; (with_reducible refine CO.out.mono ?_); rintro e W5 ⟨rfl, hb⟩; replace hK := hK.call hb; clear hb) | (refine wpList_put hK 2 rfl 23 (.tmp 4) (.tmp 13) rfl rfl rfl rfl (infoH _ rfl) (size_same rfl rfl) (one8x _) ?_; clear hK; intro W6 hK))
  refine bodyPost_ret (v := .agg (arr8 (sha (s ++ d)))) ?_ rfl ⟨rfl, hK.bel⟩
  exact results_cell_row rfl _ _ (w.heap.size + 1 + 1) 23 _ (0, 0) _ rfl (hK.get 2 rfl) Try.underlying23 rfl (infoH _ rfl)

set_option maxRecDepth 100000 in
set_option maxHeartbeats 2000000 in
theorem hash_any (w : World) (A : Option Addr) (c : Nat) (h : List UInt8) (hl : h.length = 32) (h8 : Holds8 w.heap.size w A h) : Calls Try.prog 21 #[.slice A 32 c] w fun e w' => e = .returned (.agg (arr8 h)) ∧ Below w.heap.size w w' := by
  have hK := (Keeps.nil w).new (arr8 zero32) 23
  have H8 : Hid (Holds8 w.heap.size (w.alloc (.cells (arr8 zero32) 23)) A h) := Lib.hid (h8.below ((Below.refl _ _).alloc (Nat.le_refl _) _) (Nat.le_refl _))
  have HL := Lib.hid hl
  simp only [List.nil_append] at hK
  clear h8 hl
  go_enter Try.func21, Try.ntmps21
  go_wp2_with (first | (refine wpList_alloc rfl 23 rfl (z := arr8 zero32) (by kernel_rfl) ?_; try simp only [World.size_alloc]) | (refine wpList_copyK hK rfl 0 (.tmp 3) (.tmp 4) rfl rfl rfl rfl H8.out HL.out (by decide) (by decide) ?_; clear hK; intro W2 hK; rw [show zero32.take 0 ++ h ++ zero32.drop (0 + 32) = h by simp [zero32]] at hK; simp only [List.set_cons_zero] at hK) | (refine wpList_load_row rfl 23 (.tmp 2) rfl w.heap.size rfl 23 _ (0, 0) _ (hK.get 0 rfl) Try.underlying23 rfl (infoH _ HL.out) ?_) | (refine wpList_put hK 0 rfl 23 (.tmp 2) (.tmp 6) rfl rfl rfl rfl (infoH _ HL.out) rfl (one8x _) ?_; clear hK; intro W6 hK))
  refine bodyPost_ret (v := .agg (arr8 h)) ?_ rfl ⟨rfl, hK.bel⟩
  exact results_cell_row rfl _ _ w.heap.size 23 _ (0, 0) _ rfl (hK.get 0 rfl) Try.underlying23 rfl (infoH _ HL.out)

theorem make64b (w : World) : (Instr.makeSlice 24 (.int .i64 64) (.int .i64 64)).run Try.prog w = .ok (.slice (some ⟨w.heap.size, 0, none⟩) 64 64) (w.alloc (.cells (arr8 zero64c) 5)) := make8 64 (by decide) w
set_option maxRecDepth 100000 in
set_option maxHeartbeats 2000000 in
theorem sign_any (w : World) (s d : List UInt8) (hs : s.length = 32) (hd : d.length = 32) : Calls Try.prog 9 #[.agg (arr8 s), .agg (arr8 d)] w fun e w' => ∃ g, e = .returned (.slice (some ⟨g, 0, none⟩) 64 64) ∧ Keeps w [(g, arr8 (s ++ sha (s ++ d)), 5)] w' := by
  have hK := ((Keeps.nil w).new (arr8 s) 23).new (arr8 d) 23
  simp only [World.size_alloc, List.nil_append, List.cons_append] at hK
  have HS := Lib.hid hs
  have HD := Lib.hid hd
  have CP := Lib.hid (fun W => prove_any W s d hs hd)
  have hm := make64b
  clear hs hd
  go_enter Try.func9, Try.ntmps9
  go_wp2_with (first | (refine wpList_box hK 0 rfl 23 (.tmp 2) rfl rfl rfl _ Try.underlying23 rfl (infoH _ HS.out) ?_) | (refine wpList_box hK 1 rfl 23 (.tmp 3) rfl rfl rfl _ Try.underlying23 rfl (infoH _ HD.out) ?_) | (go_at_call 19; (with_reducible refine (CP.out _).mono ?_); rintro e W1 ⟨rfl, hb⟩; replace hK := hK.call hb; clear hb) | (refine wpList_alloc rfl 23 rfl (z := arr8 zero32) (by kernel_rfl) ?_; try simp only [World.size_alloc]) | (refine wpList_fill hK rfl 23 (.tmp 5) (.tmp 9) rfl rfl rfl (infoH _ rfl) (size_same rfl rfl) (one8x _) ?_; clear hK; intro W2 hK; have hK3 := hK.new (arr8 zero64c) 5; simp only [List.cons_append, List.nil_append] at hK3; clear hK) | (refine wpList_copyK hK3 rfl 3 (.tmp 11) (.tmp 12) rfl rfl rfl rfl (holdsK (k := 0) hK3 rfl) HS.out (by decide) (by decide) ?_; clear hK3; intro W4 hK; simp only [List.set_cons_succ, List.set_cons_zero] at hK))
  refine wp_region_class_tail (C := Keeps w _) 3 (by kernel_rfl) (by kernel_rfl) hK.drew ?_
  simp only [List.take_succ_cons, List.take_zero, List.drop_succ_cons, List.drop_zero]
  (refine wpQuiet_step (fun K hK => ?_); go_simp; (first | refine hK _ ?_ | refine ⟨_, fun _ _ => rfl, hK _ ?_⟩); clear hK K)
  (refine wpQuiet_step (fun K hK => ?_); go_simp; (first | refine hK _ ?_ | refine ⟨_, fun _ _ => rfl, hK _ ?_⟩); clear hK K)
  (refine wpQuiet_step (fun K hK => ?_); go_simp; (first | refine hK _ ?_ | refine ⟨_, fun _ _ => rfl, hK _ ?_⟩); clear hK K)
  refine wpQuiet_nil ?_
  clear hK
  intro W5 hK
  refine wpList_copyK hK rfl 3 (.tmp 15) (.tmp 16) rfl rfl rfl rfl (holdsK (k := 2) hK rfl) rfl (by decide) (by simp [HS.out, zero64c]) ?_
  clear hK
  intro W6 hK
  simp only [List.set_cons_succ, List.set_cons_zero] at hK
  rw [both_of s (sha (s ++ d)) HS.out rfl] at hK
  unfold wpList
  go_wp2
  go_ret
  exact ⟨_, rfl, hK.nth 3 rfl⟩
end Go.Proofs.Ytijobhpmaenjlaa.Oct
