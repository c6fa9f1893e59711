/- The chapter's first examples (alive) are true. No condition. -/
import Derived.Test.YtgmgejjlhlibkaaWideD
namespace Go.Proofs.Ytgmgejjlhlibkaa
open Go.RowKit Go.Lib

theorem infoW (n : Nat) : (Try.prog.info? 24).map (·.size) = some (wcells n).size := by kernel_rfl
theorem sizeW (n : Nat) : (wcells n).size = 4 := rfl
theorem oneW (n : Nat) : (wcells n).all (·.oneCell') = true := by simp [wcells, cells4, Value.oneCell']
theorem eqW (n : Nat) (w : World) : (Op.equalIn 10000 24 (.agg (wcells n)) (.agg (wcells n))).run Try.prog w = .ok true w := by
  have h := run_eq4 (w0 n) (w1 n) (w2 n) (w3 n) (w0 n) (w1 n) (w2 n) (w3 n) w
  simp only [and_self, decide_true] at h
  exact h

theorem mod_top (n : Nat) : n % top < top := Nat.mod_lt _ (by unfold top; omega)
theorem top_pos : 0 < top := by unfold top; omega

set_option maxRecDepth 100000 in
set_option maxHeartbeats 1000000 in
theorem alive_any (w : World) : Calls Try.prog 42 #[] w fun e w' => e = .returned (.bool true) ∧ Below w.heap.size w w' := by
  have CM := Lib.hid (fun w => most_any w)
  have C0 : Hid (∀ w, Calls Try.prog 16 #[.int .u64 0] w fun e w' => e = .returned (.agg (wcells 0)) ∧ Below w.heap.size w w') := fun w => of_any 0 (by unfold word; omega) w
  have C1 : Hid (∀ w, Calls Try.prog 16 #[.int .u64 1] w fun e w' => e = .returned (.agg (wcells 1)) ∧ Below w.heap.size w w') := fun w => of_any 1 (by unfold word; omega) w
  have CA : Hid (∀ w, Calls Try.prog 26 #[.agg (wcells (top - 1)), .agg (wcells 1)] w fun e w' => e = .returned (.tuple #[.agg (wcells 0), .bool true]) ∧ Below w.heap.size w w') := fun w => by
    have h := add_any (top - 1) 1 (by unfold top; omega) (by unfold top; omega) w
    have e1 : (top - 1 + 1) % top = 0 := by unfold top; omega
    have e2 : decide (top ≤ top - 1 + 1) = true := by unfold top; simp
    rw [e1, e2] at h
    exact h
  have CS : Hid (∀ w, Calls Try.prog 28 #[.agg (wcells 0), .agg (wcells 1)] w fun e w' => e = .returned (.tuple #[.agg (wcells (top - 1)), .bool true]) ∧ Below w.heap.size w w') := fun w => by
    have h := sub_any 0 1 (by unfold top; omega) (by unfold top; omega) w
    have e1 : (0 + top - 1) % top = top - 1 := by unfold top; omega
    rw [e1] at h
    exact h
  have CX : Hid (∀ w, Calls Try.prog 30 #[.agg #[.int .u64 0, .int .u64 0, .int .u64 1, .int .u64 0], .agg #[.int .u64 0, .int .u64 0, .int .u64 1, .int .u64 0]] w fun e w' => e = .returned (.tuple #[.agg (wcells 0), .agg (wcells 1)]) ∧ Below w.heap.size w w') := fun w => by
    have h := mul_any 340282366920938463463374607431768211456 340282366920938463463374607431768211456 (by unfold top; omega) (by unfold top; omega) w
    have e1 : 340282366920938463463374607431768211456 * 340282366920938463463374607431768211456 % top = 0 := by unfold top; omega
    have e2 : 340282366920938463463374607431768211456 * 340282366920938463463374607431768211456 / top = 1 := by unfold top; omega
    have e3 : wcells 340282366920938463463374607431768211456 = #[.int .u64 0, .int .u64 0, .int .u64 1, .int .u64 0] := rfl
    rw [e1, e2, e3] at h
    exact h
  have hE := eqW
  have hZ : ∀ w, (Op.equalIn 10000 24 (.agg (wcells 0)) (.agg #[.int .u64 0, .int .u64 0, .int .u64 0, .int .u64 0])).run Try.prog w = .ok true w := fun w => eqW 0 w
  have hH := Keeps.nil w
  go_enter Try.func42, Try.ntmps42
  go_wp2_with (first | (go_at_call 41; with_reducible refine (CM.out _).mono ?_; rintro e W1 ⟨rfl, hB⟩; replace hH := hH.call hB; clear hB) | (go_at_call 16; with_reducible refine (C1.out _).mono ?_; rintro e W1 ⟨rfl, hB⟩; replace hH := hH.call hB; clear hB) | (go_at_call 16; with_reducible refine (C0.out _).mono ?_; rintro e W1 ⟨rfl, hB⟩; replace hH := hH.call hB; clear hB) | (go_at_call 26; with_reducible refine (CA.out _).mono ?_; rintro e W1 ⟨rfl, hB⟩; replace hH := hH.call hB; clear hB) | (go_at_call 28; with_reducible refine (CS.out _).mono ?_; rintro e W1 ⟨rfl, hB⟩; replace hH := hH.call hB; clear hB) | (go_at_call 30; with_reducible refine (CX.out _).mono ?_; rintro e W1 ⟨rfl, hB⟩; replace hH := hH.call hB; clear hB) | (refine wpList_fill hH rfl 24 _ _ rfl rfl rfl (infoW _) rfl (oneW _) ?_; clear hH; intro W1 hH) | (refine wpList_fill2 hH rfl 24 _ _ rfl rfl rfl (infoW _) rfl (oneW _) ?_; clear hH; intro W1 hH) | (refine wpList_put hH 3 rfl 24 _ _ rfl rfl rfl rfl (infoW _) rfl (oneW _) ?_; clear hH; intro W1 hH))
  refine wp_region_class (C := Keeps w _) (by kernel_rfl) (by kernel_rfl) hH.drew ?_
  refine quiet_box 0 rfl 24 _ rfl rfl rfl _ Try.underlying24 rfl (infoW _) ?_
  (refine wpQuiet_step (fun K hK => ?_); go_simp; (first | refine hK _ ?_ | refine ⟨_, fun _ _ => rfl, hK _ ?_⟩); clear hK K)
  (refine wpQuiet_step (fun K hK => ?_); go_simp; (first | refine hK _ ?_ | refine ⟨_, fun _ _ => rfl, hK _ ?_⟩); clear hK K)
  (refine wpQuiet_step (fun K hK => ?_); go_simp; (first | refine hK _ ?_ | refine ⟨_, fun _ _ => rfl, hK _ ?_⟩); clear hK K)
  (refine wpQuiet_step (fun K hK => ?_); go_simp; (first | refine hK _ ?_ | refine ⟨_, fun _ _ => rfl, hK _ ?_⟩); clear hK K)
  (refine wpQuiet_step (fun K hK => ?_); go_simp; (first | refine hK _ ?_ | refine ⟨_, fun _ _ => rfl, hK _ ?_⟩); clear hK K)
  (refine wpQuiet_step (fun K hK => ?_); go_simp; (first | refine hK _ ?_ | refine ⟨_, fun _ _ => rfl, hK _ ?_⟩); clear hK K)
  refine quiet_box 1 rfl 24 _ rfl rfl rfl _ Try.underlying24 rfl (infoW _) ?_
  (refine wpQuiet_step (fun K hK => ?_); go_simp; refine ⟨_, fun W hW => (CM.out W).mono fun _ _ h => ⟨h.1, hW.call h.2⟩, hK _ ?_⟩; clear hK K)
  (refine wpQuiet_step (fun K hK => ?_); go_simp; (first | refine hK _ ?_ | refine ⟨_, fun _ _ => rfl, hK _ ?_⟩); clear hK K)
  (refine wpQuiet_step (fun K hK => ?_); go_simp; (first | refine hK _ ?_ | refine ⟨_, fun _ _ => rfl, hK _ ?_⟩); clear hK K)
  (refine wpQuiet_step (fun K hK => ?_); go_simp; (first | refine hK _ ?_ | refine ⟨_, fun _ _ => rfl, hK _ ?_⟩); clear hK K)
  (refine wpQuiet_step (fun K hK => ?_); go_simp; (first | refine hK _ ?_ | refine ⟨_, fun _ _ => rfl, hK _ ?_⟩); clear hK K)
  (refine wpQuiet_step (fun K hK => ?_); go_simp; (first | refine hK _ ?_ | refine ⟨_, fun _ _ => rfl, hK _ ?_⟩); clear hK K)
  (refine wpQuiet_step (fun K hK => ?_); go_simp; (first | refine hK _ ?_ | refine ⟨_, fun _ _ => rfl, hK _ ?_⟩); clear hK K)
  refine quiet_box 2 rfl 24 _ rfl rfl rfl _ Try.underlying24 rfl (infoW _) ?_
  (refine wpQuiet_step (fun K hK => ?_); go_simp; (first | refine hK _ ?_ | refine ⟨_, fun _ _ => rfl, hK _ ?_⟩); clear hK K)
  (refine wpQuiet_step (fun K hK => ?_); go_simp; (first | refine hK _ ?_ | refine ⟨_, fun _ _ => rfl, hK _ ?_⟩); clear hK K)
  (refine wpQuiet_step (fun K hK => ?_); go_simp; (first | refine hK _ ?_ | refine ⟨_, fun _ _ => rfl, hK _ ?_⟩); clear hK K)
  (refine wpQuiet_step (fun K hK => ?_); go_simp; (first | refine hK _ ?_ | refine ⟨_, fun _ _ => rfl, hK _ ?_⟩); clear hK K)
  refine quiet_box 3 rfl 24 _ rfl rfl rfl _ Try.underlying24 rfl (infoW _) ?_
  (refine wpQuiet_step (fun K hK => ?_); go_simp; refine ⟨_, fun W hW => (C1.out W).mono fun _ _ h => ⟨h.1, hW.call h.2⟩, hK _ ?_⟩; clear hK K)
  (refine wpQuiet_step (fun K hK => ?_); go_simp; (first | refine hK _ ?_ | refine ⟨_, fun _ _ => rfl, hK _ ?_⟩); clear hK K)
  (refine wpQuiet_step (fun K hK => ?_); go_simp; (first | refine hK _ ?_ | refine ⟨_, fun _ _ => rfl, hK _ ?_⟩); clear hK K)
  (refine wpQuiet_step (fun K hK => ?_); go_simp; (first | refine hK _ ?_ | refine ⟨_, fun _ _ => rfl, hK _ ?_⟩); clear hK K)
  refine wpQuiet_nil ?_
  intro W hW
  go_wp2
  go_ret
  exact ⟨rfl, hW.bel⟩

end Go.Proofs.Ytgmgejjlhlibkaa
