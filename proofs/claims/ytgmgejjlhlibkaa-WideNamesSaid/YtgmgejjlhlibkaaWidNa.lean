/- WideNames is true. No condition. -/
import Derived.Test.YtgmgejjlhlibkaaWidT
import Derived.Test.YtgmgejjlhlibkaaWidG
import Derived.Test.YtgmgejjlhlibkaaDig
import Derived.BigQuiet
namespace Go.Proofs.Ytgmgejjlhlibkaa
set_option linter.unusedVariables false
open Go.ChangeShapes Go.WideShapes Go.ChangeAt Go.RowKit Oct

set_option maxRecDepth 100000 in
set_option maxHeartbeats 16000000 in
theorem names_words (m64 p tp mx n64 rs : Nat) (bz31 bz33 : Array Value) (d255 z62 z63 zF zf : ByteArray) (w : World)
    (OM : Hid (∀ w, Calls Try.prog 16 #[.int .u64 18446744073709551615] w fun e w' => e = .returned (.agg (wcells m64)) ∧ Below w.heap.size w w'))
    (X1 : Hid (∀ w, Calls Try.prog 30 #[.agg (wcells m64), .agg (wcells m64)] w fun e w' => e = .returned (.tuple #[.agg (wcells p), .agg (wcells 0)]) ∧ Below w.heap.size w w'))
    (O100 : Hid (∀ w, Calls Try.prog 16 #[.int .u64 100] w fun e w' => e = .returned (.agg (wcells 100)) ∧ Below w.heap.size w w'))
    (O7 : Hid (∀ w, Calls Try.prog 16 #[.int .u64 7] w fun e w' => e = .returned (.agg (wcells 7)) ∧ Below w.heap.size w w'))
    (D1 : Hid (∀ w, Calls Try.prog 38 #[.agg (wcells 100), .agg (wcells 7)] w fun e w' => e = .returned (.tuple #[.agg (wcells 14), .agg (wcells 2), .int .i64 0]) ∧ Below w.heap.size w w'))
    (O1 : Hid (∀ w, Calls Try.prog 16 #[.int .u64 1] w fun e w' => e = .returned (.agg (wcells 1)) ∧ Below w.heap.size w w'))
    (O0 : Hid (∀ w, Calls Try.prog 16 #[.int .u64 0] w fun e w' => e = .returned (.agg (wcells 0)) ∧ Below w.heap.size w w'))
    (D2 : Hid (∀ w, Calls Try.prog 38 #[.agg (wcells 1), .agg (wcells 0)] w fun e w' => e = .returned (.tuple #[.agg (wcells 0), .agg (wcells 0), .int .i64 30]) ∧ Below w.heap.size w w'))
    (L1 : Hid (∀ w, Calls Try.prog 32 #[.agg (wcells 1), .int .i64 255] w fun e w' => e = .returned (.agg (wcells tp)) ∧ Below w.heap.size w w'))
    (O14 : Hid (∀ w, Calls Try.prog 16 #[.int .u64 14] w fun e w' => e = .returned (.agg (wcells 14)) ∧ Below w.heap.size w w'))
    (O2 : Hid (∀ w, Calls Try.prog 16 #[.int .u64 2] w fun e w' => e = .returned (.agg (wcells 2)) ∧ Below w.heap.size w w'))
    (R1 : Hid (∀ w, Calls Try.prog 34 #[.agg (wcells tp), .int .i64 254] w fun e w' => e = .returned (.agg (wcells 2)) ∧ Below w.heap.size w w'))
    (N1 : Hid (∀ w, Calls Try.prog 22 #[.agg (wcells tp)] w fun e w' => e = .returned (.int .i64 256) ∧ Below w.heap.size w w'))
    (N2 : Hid (∀ w, Calls Try.prog 22 #[.agg #[.int .u64 0, .int .u64 0, .int .u64 0, .int .u64 0]] w fun e w' => e = .returned (.int .i64 0) ∧ Below w.heap.size w w'))
    (O255 : Hid (∀ w, Calls Try.prog 16 #[.int .u64 255] w fun e w' => e = .returned (.agg (wcells 255)) ∧ Below w.heap.size w w'))
    (G1 : Hid (∀ w, Calls Try.prog 20 #[.agg (wcells 255)] w fun e w' => e = .returned (.string d255) ∧ Below w.heap.size w w'))
    (S62 : Hid (∀ w, Calls Try.prog 40 #[.string ⟨#[48]⟩, .int .i64 62] w fun e w' => e = .returned (.string z62) ∧ Below w.heap.size w w'))
    (S63 : Hid (∀ w, Calls Try.prog 40 #[.string ⟨#[48]⟩, .int .i64 63] w fun e w' => e = .returned (.string z63) ∧ Below w.heap.size w w'))
    (P63 : Hid (∀ w, Calls Try.prog 14 #[.string z63] w fun e w' => e = .returned (.tuple #[.agg (wcells 0), .int .i64 30]) ∧ Below w.heap.size w w'))
    (SF : Hid (∀ w, Calls Try.prog 40 #[.string ⟨#[70]⟩, .int .i64 64] w fun e w' => e = .returned (.string zF) ∧ Below w.heap.size w w'))
    (PF : Hid (∀ w, Calls Try.prog 14 #[.string zF] w fun e w' => e = .returned (.tuple #[.agg (wcells 0), .int .i64 30]) ∧ Below w.heap.size w w'))
    (PN : Hid (∀ w, Calls Try.prog 14 #[.string (⟨#[45]⟩ ++ z63)] w fun e w' => e = .returned (.tuple #[.agg (wcells 0), .int .i64 30]) ∧ Below w.heap.size w w'))
    (Sf : Hid (∀ w, Calls Try.prog 40 #[.string ⟨#[102]⟩, .int .i64 64] w fun e w' => e = .returned (.string zf) ∧ Below w.heap.size w w'))
    (Pf : Hid (∀ w, Calls Try.prog 14 #[.string zf] w fun e w' => e = .returned (.tuple #[.agg (wcells mx), .int .i64 0]) ∧ Below w.heap.size w w'))
    (MO : Hid (∀ w, Calls Try.prog 41 #[] w fun e w' => e = .returned (.agg (wcells mx)) ∧ Below w.heap.size w w'))
    (L2 : Hid (∀ w, Calls Try.prog 32 #[.agg (wcells mx), .int .i64 256] w fun e w' => e = .returned (.agg (wcells 0)) ∧ Below w.heap.size w w'))
    (R2 : Hid (∀ w, Calls Try.prog 34 #[.agg (wcells mx), .int .i64 300] w fun e w' => e = .returned (.agg (wcells 0)) ∧ Below w.heap.size w w'))
    (O5 : Hid (∀ w, Calls Try.prog 16 #[.int .u64 5] w fun e w' => e = .returned (.agg (wcells 5)) ∧ Below w.heap.size w w'))
    (L3 : Hid (∀ w, Calls Try.prog 32 #[.agg (wcells 5), .int .i64 (-1)] w fun e w' => e = .returned (.agg (wcells 5)) ∧ Below w.heap.size w w'))
    (R3 : Hid (∀ w, Calls Try.prog 34 #[.agg (wcells 5), .int .i64 0] w fun e w' => e = .returned (.agg (wcells 5)) ∧ Below w.heap.size w w'))
    (O3 : Hid (∀ w, Calls Try.prog 16 #[.int .u64 3] w fun e w' => e = .returned (.agg (wcells 3)) ∧ Below w.heap.size w w'))
    (L4 : Hid (∀ w, Calls Try.prog 32 #[.agg (wcells 3), .int .i64 64] w fun e w' => e = .returned (.agg (wcells n64)) ∧ Below w.heap.size w w'))
    (R4 : Hid (∀ w, Calls Try.prog 34 #[.agg #[.int .u64 0, .int .u64 3, .int .u64 0, .int .u64 0], .int .i64 65] w fun e w' => e = .returned (.agg (wcells 1)) ∧ Below w.heap.size w w'))
    (D3 : Hid (∀ w, Calls Try.prog 38 #[.agg (wcells mx), .agg (wcells tp)] w fun e w' => e = .returned (.tuple #[.agg (wcells 1), .agg (wcells rs), .int .i64 0]) ∧ Below w.heap.size w w'))
    (U1 : Hid (∀ w, Calls Try.prog 28 #[.agg (wcells mx), .agg (wcells tp)] w fun e w' => e = .returned (.tuple #[.agg (wcells rs), .bool false]) ∧ Below w.heap.size w w'))
    (AL : Hid (∀ w, Calls Try.prog 42 #[] w fun e w' => e = .returned (.bool true) ∧ Below w.heap.size w w'))
    (K1 : Hid (∀ w, Calls Try.prog 24 #[.agg (wcells tp), .agg (wcells mx)] w fun e w' => e = .returned (.int .i64 (-1)) ∧ Below w.heap.size w w'))
    (K2 : Hid (∀ w, Calls Try.prog 24 #[.agg (wcells tp), .agg (wcells tp)] w fun e w' => e = .returned (.int .i64 0) ∧ Below w.heap.size w w'))
    (NT : Hid (∀ w, Calls Try.prog 36 #[.agg #[.int .u64 0, .int .u64 0, .int .u64 0, .int .u64 0]] w fun e w' => e = .returned (.agg (wcells mx)) ∧ Below w.heap.size w w'))
    (RD31 : Hid (∀ A w, Calls Try.prog 12 #[.slice A 31 31] w fun e w' => e = .returned (.tuple #[.agg (wcells 0), .int .i64 30]) ∧ Below w.heap.size w w'))
    (hm31 : ∀ w, (Instr.makeSlice 25 (.int .i64 31) (.int .i64 31)).run Try.prog w = .ok (.slice (some ⟨w.heap.size, 0, none⟩) 31 31) (w.alloc (.cells (bz31) 5)))
    (RD33 : Hid (∀ A w, Calls Try.prog 12 #[.slice A 33 33] w fun e w' => e = .returned (.tuple #[.agg (wcells 0), .int .i64 30]) ∧ Below w.heap.size w w'))
    (hm33 : ∀ w, (Instr.makeSlice 25 (.int .i64 33) (.int .i64 33)).run Try.prog w = .ok (.slice (some ⟨w.heap.size, 0, none⟩) 33 33) (w.alloc (.cells (bz33) 5)))
    (E1 : ∀ w, (Op.equalIn 10000 24 (.agg (wcells p)) (.agg #[.int .u64 1, .int .u64 18446744073709551614, .int .u64 0, .int .u64 0])).run Try.prog w = .ok true w) (E2 : ∀ w, (Op.equalIn 10000 24 (.agg (wcells tp)) (.agg #[.int .u64 0, .int .u64 0, .int .u64 0, .int .u64 9223372036854775808])).run Try.prog w = .ok true w) (E3 : ∀ w, (Op.equalIn 10000 24 (.agg (wcells n64)) (.agg #[.int .u64 0, .int .u64 3, .int .u64 0, .int .u64 0])).run Try.prog w = .ok true w)
    (hcat : z62 ++ ⟨#[102, 102]⟩ = d255) (hz62 : z62.size = 62) (hz63 : z63.size = 63) :
    Calls Try.prog 6 #[] w fun e w' => e = .returned (.bool true) ∧ Below w.heap.size w w' := by
  have hE := eqW
  have hZ : ∀ w, (Op.equalIn 10000 24 (.agg (wcells 0)) (.agg #[.int .u64 0, .int .u64 0, .int .u64 0, .int .u64 0])).run Try.prog w = .ok true w := fun w => eqW 0 w
  have hH := Keeps.nil w
  go_enter Try.func6, Try.ntmps6
  have tk0 : True := trivial
  go_wp2_with (first | (go_at_call 16; with_reducible refine (OM.out _).mono ?_; rintro e W1 ⟨rfl, hB⟩; replace hH := hH.call hB; clear hB) | (go_at_call 30; with_reducible refine (X1.out _).mono ?_; rintro e W1 ⟨rfl, hB⟩; replace hH := hH.call hB; clear hB) | (go_at_call 16; with_reducible refine (O100.out _).mono ?_; rintro e W1 ⟨rfl, hB⟩; replace hH := hH.call hB; clear hB) | (go_at_call 16; with_reducible refine (O7.out _).mono ?_; rintro e W1 ⟨rfl, hB⟩; replace hH := hH.call hB; clear hB) | (go_at_call 38; with_reducible refine (D1.out _).mono ?_; rintro e W1 ⟨rfl, hB⟩; replace hH := hH.call hB; clear hB) | (go_at_call 16; with_reducible refine (O1.out _).mono ?_; rintro e W1 ⟨rfl, hB⟩; replace hH := hH.call hB; clear hB) | (go_at_call 16; with_reducible refine (O0.out _).mono ?_; rintro e W1 ⟨rfl, hB⟩; replace hH := hH.call hB; clear hB) | (go_at_call 38; with_reducible refine (D2.out _).mono ?_; rintro e W1 ⟨rfl, hB⟩; replace hH := hH.call hB; clear hB) | (go_at_call 32; with_reducible refine (L1.out _).mono ?_; rintro e W1 ⟨rfl, hB⟩; replace hH := hH.call hB; clear hB) | (have _t := tk0; refine wpList_fill2 hH rfl 24 _ _ rfl rfl rfl (infoW _) rfl (oneW _) ?_; clear _t tk0 hH; have tk1 : True := trivial; intro W1 hH) | (have _t := tk1; refine wpList_put hH 1 rfl 24 _ _ rfl rfl rfl rfl (infoW _) rfl (oneW _) ?_; clear _t tk1 hH; have tk2 : True := trivial; intro W1 hH) | (have _t := tk2; refine wpList_fill2 hH rfl 24 _ _ rfl rfl rfl (infoW _) rfl (oneW _) ?_; clear _t tk2 hH; have tk3 : True := trivial; intro W1 hH) | (have _t := tk3; refine wpList_put hH 3 rfl 24 _ _ rfl rfl rfl rfl (infoW _) rfl (oneW _) ?_; clear _t tk3 hH; have tk4 : True := trivial; intro W1 hH) | (have _t := tk4; refine wpList_fill2 hH rfl 24 _ _ rfl rfl rfl (infoW _) rfl (oneW _) ?_; clear _t tk4 hH; have tk5 : True := trivial; intro W1 hH) | (have _t := tk5; refine wpList_put hH 5 rfl 24 _ _ rfl rfl rfl rfl (infoW _) rfl (oneW _) ?_; clear _t tk5 hH; have tk6 : True := trivial; intro W1 hH) | (have _t := tk6; refine wpList_fill hH rfl 24 _ _ rfl rfl rfl (infoW _) rfl (oneW _) ?_; clear _t tk6 hH; have tk7 : True := trivial; intro W1 hH))
  refine wp_region_class (C := Keeps w _) (by kernel_rfl) (by kernel_rfl) hH.drew ?_
  refine quiet_box 0 rfl 24 _ rfl rfl rfl _ Try.underlying24 rfl (infoW _) ?_
  (refine wpQuiet_step (fun K hK => ?_); go_simp; (first | refine hK _ ?_ | refine ⟨_, fun _ _ => rfl, hK _ ?_⟩); clear hK K)
  (refine wpQuiet_step (fun K hK => ?_); go_simp; (first | refine hK _ ?_ | refine ⟨_, fun _ _ => rfl, hK _ ?_⟩); clear hK K)
  (first | (go_big_quiet_want; go_big_quiet_op; go_big_quiet_on) | (refine wpQuiet_step (fun K hK => ?_); go_simp; (first | refine hK _ ?_ | refine ⟨_, fun _ _ => rfl, hK _ ?_⟩); clear hK K))
  refine quiet_box 1 rfl 24 _ rfl rfl rfl _ Try.underlying24 rfl (infoW _) ?_
  (refine wpQuiet_step (fun K hK => ?_); go_simp; (first | refine hK _ ?_ | refine ⟨_, fun _ _ => rfl, hK _ ?_⟩); clear hK K)
  (refine wpQuiet_step (fun K hK => ?_); go_simp; (first | refine hK _ ?_ | refine ⟨_, fun _ _ => rfl, hK _ ?_⟩); clear hK K)
  (refine wpQuiet_step (fun K hK => ?_); go_simp; (first | refine hK _ ?_ | refine ⟨_, fun _ _ => rfl, hK _ ?_⟩); clear hK K)
  (first | (go_big_quiet_want; go_big_quiet_op; go_big_quiet_on) | (refine wpQuiet_step (fun K hK => ?_); go_simp; (first | refine hK _ ?_ | refine ⟨_, fun _ _ => rfl, hK _ ?_⟩); clear hK K))
  refine quiet_box 2 rfl 24 _ rfl rfl rfl _ Try.underlying24 rfl (infoW _) ?_
  (refine wpQuiet_step (fun K hK => ?_); go_simp; refine ⟨_, fun W hW => (O14.out W).mono fun _ _ h => ⟨h.1, hW.call h.2⟩, hK _ ?_⟩; clear hK K)
  (refine wpQuiet_step (fun K hK => ?_); go_simp; (first | refine hK _ ?_ | refine ⟨_, fun _ _ => rfl, hK _ ?_⟩); clear hK K)
  (refine wpQuiet_step (fun K hK => ?_); go_simp; (first | refine hK _ ?_ | refine ⟨_, fun _ _ => rfl, hK _ ?_⟩); clear hK K)
  (first | (go_big_quiet_want; go_big_quiet_op; go_big_quiet_on) | (refine wpQuiet_step (fun K hK => ?_); go_simp; (first | refine hK _ ?_ | refine ⟨_, fun _ _ => rfl, hK _ ?_⟩); clear hK K))
  refine quiet_box 3 rfl 24 _ rfl rfl rfl _ Try.underlying24 rfl (infoW _) ?_
  (refine wpQuiet_step (fun K hK => ?_); go_simp; refine ⟨_, fun W hW => (O2.out W).mono fun _ _ h => ⟨h.1, hW.call h.2⟩, hK _ ?_⟩; clear hK K)
  (refine wpQuiet_step (fun K hK => ?_); go_simp; (first | refine hK _ ?_ | refine ⟨_, fun _ _ => rfl, hK _ ?_⟩); clear hK K)
  (refine wpQuiet_step (fun K hK => ?_); go_simp; (first | refine hK _ ?_ | refine ⟨_, fun _ _ => rfl, hK _ ?_⟩); clear hK K)
  (first | (go_big_quiet_want; go_big_quiet_op; go_big_quiet_on) | (refine wpQuiet_step (fun K hK => ?_); go_simp; (first | refine hK _ ?_ | refine ⟨_, fun _ _ => rfl, hK _ ?_⟩); clear hK K))
  (first | (go_big_quiet_want; go_big_quiet_op; go_big_quiet_on) | (refine wpQuiet_step (fun K hK => ?_); go_simp; (first | refine hK _ ?_ | refine ⟨_, fun _ _ => rfl, hK _ ?_⟩); clear hK K))
  (refine wpQuiet_step (fun K hK => ?_); go_simp; (first | refine hK _ ?_ | refine ⟨_, fun _ _ => rfl, hK _ ?_⟩); clear hK K)
  (refine wpQuiet_step (fun K hK => ?_); go_simp; (first | refine hK _ ?_ | refine ⟨_, fun _ _ => rfl, hK _ ?_⟩); clear hK K)
  (first | (go_big_quiet_want; go_big_quiet_op; go_big_quiet_on) | (refine wpQuiet_step (fun K hK => ?_); go_simp; (first | refine hK _ ?_ | refine ⟨_, fun _ _ => rfl, hK _ ?_⟩); clear hK K))
  (first | (go_big_quiet_want; go_big_quiet_op; go_big_quiet_on) | (refine wpQuiet_step (fun K hK => ?_); go_simp; (first | refine hK _ ?_ | refine ⟨_, fun _ _ => rfl, hK _ ?_⟩); clear hK K))
  (refine wpQuiet_step (fun K hK => ?_); go_simp; (first | refine hK _ ?_ | refine ⟨_, fun _ _ => rfl, hK _ ?_⟩); clear hK K)
  (refine wpQuiet_step (fun K hK => ?_); go_simp; (first | refine hK _ ?_ | refine ⟨_, fun _ _ => rfl, hK _ ?_⟩); clear hK K)
  (first | (go_big_quiet_want; go_big_quiet_op; go_big_quiet_on) | (refine wpQuiet_step (fun K hK => ?_); go_simp; (first | refine hK _ ?_ | refine ⟨_, fun _ _ => rfl, hK _ ?_⟩); clear hK K))
  refine quiet_box 6 rfl 24 _ rfl rfl rfl _ Try.underlying24 rfl (infoW _) ?_
  (refine wpQuiet_step (fun K hK => ?_); go_simp; (first | refine hK _ ?_ | refine ⟨_, fun _ _ => rfl, hK _ ?_⟩); clear hK K)
  (refine wpQuiet_step (fun K hK => ?_); go_simp; (first | refine hK _ ?_ | refine ⟨_, fun _ _ => rfl, hK _ ?_⟩); clear hK K)
  (refine wpQuiet_step (fun K hK => ?_); go_simp; (first | refine hK _ ?_ | refine ⟨_, fun _ _ => rfl, hK _ ?_⟩); clear hK K)
  (first | (go_big_quiet_want; go_big_quiet_op; go_big_quiet_on) | (refine wpQuiet_step (fun K hK => ?_); go_simp; (first | refine hK _ ?_ | refine ⟨_, fun _ _ => rfl, hK _ ?_⟩); clear hK K))
  refine quiet_box 6 rfl 24 _ rfl rfl rfl _ Try.underlying24 rfl (infoW _) ?_
  (refine wpQuiet_step (fun K hK => ?_); go_simp; refine ⟨_, fun W hW => (R1.out W).mono fun _ _ h => ⟨h.1, hW.call h.2⟩, hK _ ?_⟩; clear hK K)
  (refine wpQuiet_step (fun K hK => ?_); go_simp; refine ⟨_, fun W hW => (O2.out W).mono fun _ _ h => ⟨h.1, hW.call h.2⟩, hK _ ?_⟩; clear hK K)
  (refine wpQuiet_step (fun K hK => ?_); go_simp; (first | refine hK _ ?_ | refine ⟨_, fun _ _ => rfl, hK _ ?_⟩); clear hK K)
  (refine wpQuiet_step (fun K hK => ?_); go_simp; (first | refine hK _ ?_ | refine ⟨_, fun _ _ => rfl, hK _ ?_⟩); clear hK K)
  (first | (go_big_quiet_want; go_big_quiet_op; go_big_quiet_on) | (refine wpQuiet_step (fun K hK => ?_); go_simp; (first | refine hK _ ?_ | refine ⟨_, fun _ _ => rfl, hK _ ?_⟩); clear hK K))
  refine quiet_box 6 rfl 24 _ rfl rfl rfl _ Try.underlying24 rfl (infoW _) ?_
  (refine wpQuiet_step (fun K hK => ?_); go_simp; refine ⟨_, fun W hW => (N1.out W).mono fun _ _ h => ⟨h.1, hW.call h.2⟩, hK _ ?_⟩; clear hK K)
  (refine wpQuiet_step (fun K hK => ?_); go_simp; (first | refine hK _ ?_ | refine ⟨_, fun _ _ => rfl, hK _ ?_⟩); clear hK K)
  (refine wpQuiet_step (fun K hK => ?_); go_simp; (first | refine hK _ ?_ | refine ⟨_, fun _ _ => rfl, hK _ ?_⟩); clear hK K)
  (first | (go_big_quiet_want; go_big_quiet_op; go_big_quiet_on) | (refine wpQuiet_step (fun K hK => ?_); go_simp; (first | refine hK _ ?_ | refine ⟨_, fun _ _ => rfl, hK _ ?_⟩); clear hK K))
  (refine wpQuiet_step (fun K hK => ?_); go_simp; (first | refine hK _ ?_ | refine ⟨_, fun _ _ => rfl, hK _ ?_⟩); clear hK K)
  (refine wpQuiet_step (fun K hK => ?_); go_simp; refine ⟨_, fun W hW => (N2.out W).mono fun _ _ h => ⟨h.1, hW.call h.2⟩, hK _ ?_⟩; clear hK K)
  (refine wpQuiet_step (fun K hK => ?_); go_simp; (first | refine hK _ ?_ | refine ⟨_, fun _ _ => rfl, hK _ ?_⟩); clear hK K)
  (refine wpQuiet_step (fun K hK => ?_); go_simp; (first | refine hK _ ?_ | refine ⟨_, fun _ _ => rfl, hK _ ?_⟩); clear hK K)
  (first | (go_big_quiet_want; go_big_quiet_op; go_big_quiet_on) | (refine wpQuiet_step (fun K hK => ?_); go_simp; (first | refine hK _ ?_ | refine ⟨_, fun _ _ => rfl, hK _ ?_⟩); clear hK K))
  (refine wpQuiet_step (fun K hK => ?_); go_simp; refine ⟨_, fun W hW => (O255.out W).mono fun _ _ h => ⟨h.1, hW.call h.2⟩, hK _ ?_⟩; clear hK K)
  (refine wpQuiet_step (fun K hK => ?_); go_simp; refine ⟨_, fun W hW => (G1.out W).mono fun _ _ h => ⟨h.1, hW.call h.2⟩, hK _ ?_⟩; clear hK K)
  (refine wpQuiet_step (fun K hK => ?_); go_simp; refine ⟨_, fun W hW => (S62.out W).mono fun _ _ h => ⟨h.1, hW.call h.2⟩, hK _ ?_⟩; clear hK K)
  (refine wpQuiet_step (fun K hK => ?_); go_simp; (first | refine hK _ ?_ | refine ⟨_, fun _ _ => rfl, hK _ ?_⟩); clear hK K)
  (refine wpQuiet_step (fun K hK => ?_); go_simp; (first | refine hK _ ?_ | refine ⟨_, fun _ _ => rfl, hK _ ?_⟩); clear hK K)
  (refine wpQuiet_step (fun K hK => ?_); go_simp; (first | refine hK _ ?_ | refine ⟨_, fun _ _ => rfl, hK _ ?_⟩); clear hK K)
  (first | (go_big_quiet_want; go_big_quiet_op; go_big_quiet_on) | (refine wpQuiet_step (fun K hK => ?_); go_simp; (first | refine hK _ ?_ | refine ⟨_, fun _ _ => rfl, hK _ ?_⟩); clear hK K))
  refine wpQuiet_nil ?_
  clear hH
  intro W hH
  go_wp2_with (first | (go_at_call 40; with_reducible refine (S63.out _).mono ?_; rintro e W1 ⟨rfl, hB⟩; replace hH := hH.call hB; clear hB) | (go_at_call 14; with_reducible refine (P63.out _).mono ?_; rintro e W1 ⟨rfl, hB⟩; replace hH := hH.call hB; clear hB) | (go_at_call 40; with_reducible refine (SF.out _).mono ?_; rintro e W1 ⟨rfl, hB⟩; replace hH := hH.call hB; clear hB) | (go_at_call 14; with_reducible refine (PF.out _).mono ?_; rintro e W1 ⟨rfl, hB⟩; replace hH := hH.call hB; clear hB) | (go_at_call 14; with_reducible refine (PN.out _).mono ?_; rintro e W1 ⟨rfl, hB⟩; replace hH := hH.call hB; clear hB) | (go_at_call 40; with_reducible refine (Sf.out _).mono ?_; rintro e W1 ⟨rfl, hB⟩; replace hH := hH.call hB; clear hB) | (go_at_call 14; with_reducible refine (Pf.out _).mono ?_; rintro e W1 ⟨rfl, hB⟩; replace hH := hH.call hB; clear hB) | (go_at_call 12; with_reducible refine (RD31.out _ _).mono ?_; rintro e W1 ⟨rfl, hB⟩; replace hH := (hH.new _ _).call hB; clear hB) | (go_at_call 12; with_reducible refine (RD33.out _ _).mono ?_; rintro e W1 ⟨rfl, hB⟩; replace hH := (hH.new _ _).call hB; clear hB) | (have _t := tk7; refine wpList_fill hH rfl 24 _ _ rfl rfl rfl (infoW _) rfl (oneW _) ?_; clear _t tk7 hH; have tk8 : True := trivial; intro W1 hH) | (have _t := tk8; refine wpList_fill hH rfl 24 _ _ rfl rfl rfl (infoW _) rfl (oneW _) ?_; clear _t tk8 hH; have tk9 : True := trivial; intro W1 hH) | (have _t := tk9; refine wpList_fill hH rfl 24 _ _ rfl rfl rfl (infoW _) rfl (oneW _) ?_; clear _t tk9 hH; have tk10 : True := trivial; intro W1 hH) | (have _t := tk10; refine wpList_fill hH rfl 24 _ _ rfl rfl rfl (infoW _) rfl (oneW _) ?_; clear _t tk10 hH; have tk11 : True := trivial; intro W1 hH) | (have _t := tk11; refine wpList_fill hH rfl 24 _ _ rfl rfl rfl (infoW _) rfl (oneW _) ?_; clear _t tk11 hH; have tk12 : True := trivial; intro W1 hH) | (have _t := tk12; refine wpList_fill hH rfl 24 _ _ rfl rfl rfl (infoW _) rfl (oneW _) ?_; clear _t tk12 hH; have tk13 : True := trivial; intro W1 hH))
  refine wp_region_class (C := Keeps w _) (by kernel_rfl) (by kernel_rfl) hH.drew ?_
  (first | (go_big_quiet_want; go_big_quiet_op; go_big_quiet_on) | (refine wpQuiet_step (fun K hK => ?_); go_simp; (first | refine hK _ ?_ | refine ⟨_, fun _ _ => rfl, hK _ ?_⟩); clear hK K))
  (refine wpQuiet_step (fun K hK => ?_); go_simp; (first | refine hK _ ?_ | refine ⟨_, fun _ _ => rfl, hK _ ?_⟩); clear hK K)
  (first | (go_big_quiet_want; go_big_quiet_op; go_big_quiet_on) | (refine wpQuiet_step (fun K hK => ?_); go_simp; (first | refine hK _ ?_ | refine ⟨_, fun _ _ => rfl, hK _ ?_⟩); clear hK K))
  (first | (go_big_quiet_want; go_big_quiet_op; go_big_quiet_on) | (refine wpQuiet_step (fun K hK => ?_); go_simp; (first | refine hK _ ?_ | refine ⟨_, fun _ _ => rfl, hK _ ?_⟩); clear hK K))
  (refine wpQuiet_step (fun K hK => ?_); go_simp; (first | refine hK _ ?_ | refine ⟨_, fun _ _ => rfl, hK _ ?_⟩); clear hK K)
  (refine wpQuiet_step (fun K hK => ?_); go_simp; (first | refine hK _ ?_ | refine ⟨_, fun _ _ => rfl, hK _ ?_⟩); clear hK K)
  (first | (go_big_quiet_want; go_big_quiet_op; go_big_quiet_on) | (refine wpQuiet_step (fun K hK => ?_); go_simp; (first | refine hK _ ?_ | refine ⟨_, fun _ _ => rfl, hK _ ?_⟩); clear hK K))
  (first | (go_big_quiet_want; go_big_quiet_op; go_big_quiet_on) | (refine wpQuiet_step (fun K hK => ?_); go_simp; (first | refine hK _ ?_ | refine ⟨_, fun _ _ => rfl, hK _ ?_⟩); clear hK K))
  (refine wpQuiet_step (fun K hK => ?_); go_simp; (first | refine hK _ ?_ | refine ⟨_, fun _ _ => rfl, hK _ ?_⟩); clear hK K)
  (refine wpQuiet_step (fun K hK => ?_); go_simp; (first | refine hK _ ?_ | refine ⟨_, fun _ _ => rfl, hK _ ?_⟩); clear hK K)
  (first | (go_big_quiet_want; go_big_quiet_op; go_big_quiet_on) | (refine wpQuiet_step (fun K hK => ?_); go_simp; (first | refine hK _ ?_ | refine ⟨_, fun _ _ => rfl, hK _ ?_⟩); clear hK K))
  (first | (go_big_quiet_want; go_big_quiet_op; go_big_quiet_on) | (refine wpQuiet_step (fun K hK => ?_); go_simp; (first | refine hK _ ?_ | refine ⟨_, fun _ _ => rfl, hK _ ?_⟩); clear hK K))
  (refine wpQuiet_step (fun K hK => ?_); go_simp; (first | refine hK _ ?_ | refine ⟨_, fun _ _ => rfl, hK _ ?_⟩); clear hK K)
  (refine wpQuiet_step (fun K hK => ?_); go_simp; (first | refine hK _ ?_ | refine ⟨_, fun _ _ => rfl, hK _ ?_⟩); clear hK K)
  (first | (go_big_quiet_want; go_big_quiet_op; go_big_quiet_on) | (refine wpQuiet_step (fun K hK => ?_); go_simp; (first | refine hK _ ?_ | refine ⟨_, fun _ _ => rfl, hK _ ?_⟩); clear hK K))
  (first | (go_big_quiet_want; go_big_quiet_op; go_big_quiet_on) | (refine wpQuiet_step (fun K hK => ?_); go_simp; (first | refine hK _ ?_ | refine ⟨_, fun _ _ => rfl, hK _ ?_⟩); clear hK K))
  (refine wpQuiet_step (fun K hK => ?_); go_simp; (first | refine hK _ ?_ | refine ⟨_, fun _ _ => rfl, hK _ ?_⟩); clear hK K)
  (refine wpQuiet_step (fun K hK => ?_); go_simp; (first | refine hK _ ?_ | refine ⟨_, fun _ _ => rfl, hK _ ?_⟩); clear hK K)
  (first | (go_big_quiet_want; go_big_quiet_op; go_big_quiet_on) | (refine wpQuiet_step (fun K hK => ?_); go_simp; (first | refine hK _ ?_ | refine ⟨_, fun _ _ => rfl, hK _ ?_⟩); clear hK K))
  refine quiet_box 14 rfl 24 _ rfl rfl rfl _ Try.underlying24 rfl (infoW _) ?_
  (refine wpQuiet_step (fun K hK => ?_); go_simp; refine ⟨_, fun W hW => (MO.out W).mono fun _ _ h => ⟨h.1, hW.call h.2⟩, hK _ ?_⟩; clear hK K)
  (refine wpQuiet_step (fun K hK => ?_); go_simp; (first | refine hK _ ?_ | refine ⟨_, fun _ _ => rfl, hK _ ?_⟩); clear hK K)
  (refine wpQuiet_step (fun K hK => ?_); go_simp; (first | refine hK _ ?_ | refine ⟨_, fun _ _ => rfl, hK _ ?_⟩); clear hK K)
  (first | (go_big_quiet_want; go_big_quiet_op; go_big_quiet_on) | (refine wpQuiet_step (fun K hK => ?_); go_simp; (first | refine hK _ ?_ | refine ⟨_, fun _ _ => rfl, hK _ ?_⟩); clear hK K))
  (first | (go_big_quiet_want; go_big_quiet_op; go_big_quiet_on) | (refine wpQuiet_step (fun K hK => ?_); go_simp; (first | refine hK _ ?_ | refine ⟨_, fun _ _ => rfl, hK _ ?_⟩); clear hK K))
  (refine wpQuiet_step (fun K hK => ?_); go_simp; (first | refine hK _ ?_ | refine ⟨_, fun _ _ => rfl, hK _ ?_⟩); clear hK K)
  (refine wpQuiet_step (fun K hK => ?_); go_simp; (first | refine hK _ ?_ | refine ⟨_, fun _ _ => rfl, hK _ ?_⟩); clear hK K)
  (first | (go_big_quiet_want; go_big_quiet_op; go_big_quiet_on) | (refine wpQuiet_step (fun K hK => ?_); go_simp; (first | refine hK _ ?_ | refine ⟨_, fun _ _ => rfl, hK _ ?_⟩); clear hK K))
  refine wpQuiet_nil ?_
  clear hH
  intro W hH
  go_wp2_with (first | (go_at_call 41; with_reducible refine (MO.out _).mono ?_; rintro e W1 ⟨rfl, hB⟩; replace hH := hH.call hB; clear hB) | (go_at_call 32; with_reducible refine (L2.out _).mono ?_; rintro e W1 ⟨rfl, hB⟩; replace hH := hH.call hB; clear hB) | (go_at_call 34; with_reducible refine (R2.out _).mono ?_; rintro e W1 ⟨rfl, hB⟩; replace hH := hH.call hB; clear hB) | (go_at_call 16; with_reducible refine (O5.out _).mono ?_; rintro e W1 ⟨rfl, hB⟩; replace hH := hH.call hB; clear hB) | (go_at_call 32; with_reducible refine (L3.out _).mono ?_; rintro e W1 ⟨rfl, hB⟩; replace hH := hH.call hB; clear hB) | (go_at_call 34; with_reducible refine (R3.out _).mono ?_; rintro e W1 ⟨rfl, hB⟩; replace hH := hH.call hB; clear hB) | (go_at_call 16; with_reducible refine (O3.out _).mono ?_; rintro e W1 ⟨rfl, hB⟩; replace hH := hH.call hB; clear hB) | (go_at_call 32; with_reducible refine (L4.out _).mono ?_; rintro e W1 ⟨rfl, hB⟩; replace hH := hH.call hB; clear hB) | (go_at_call 34; with_reducible refine (R4.out _).mono ?_; rintro e W1 ⟨rfl, hB⟩; replace hH := hH.call hB; clear hB) | (go_at_call 16; with_reducible refine (O1.out _).mono ?_; rintro e W1 ⟨rfl, hB⟩; replace hH := hH.call hB; clear hB))
  apply wp_boxes2 (W0 := w)
  case hreg =>
    refine AnyK.start 12 rfl (by kernel_rfl) hH ?_
    refine AnyK.take 1 (some 200) rfl rfl (by kernel_rfl) (by kernel_rfl) (by kernel_rfl) (fun _ _ _ h => nomatch h.1) (yieldsIf_box 6 rfl 24 _ rfl rfl rfl _ Try.underlying24 rfl (infoW _)) ?_
    simp only [Act.put, List.setIfInBounds_toArray, List.set_cons_zero, List.set_cons_succ]
    refine AnyK.ready [0, 7, 8] (by kernel_rfl) (by simp) ?_
    refine steps_cons ?_ ?_
    · refine StepK.call (i := 0) (some 199) rfl rfl rfl (fun W => by go_simp) MO.out ?_
      simp only [Act.put, List.setIfInBounds_toArray, List.set_cons_zero, List.set_cons_succ]
      refine AnyK.ready [2, 7, 8] (by kernel_rfl) (by simp) ?_
      refine steps_cons ?_ ?_
      · refine StepK.call (i := 2) (some 201) rfl rfl rfl (fun W => by go_simp) D3.out ?_
        simp only [Act.put, List.setIfInBounds_toArray, List.set_cons_zero, List.set_cons_succ]
        refine AnyK.take 3 (some 198) rfl rfl (by kernel_rfl) (by kernel_rfl) (by kernel_rfl) (fun _ _ _ h => nomatch h.1) (v := _) (.inl ⟨by rfl, fun W hW => by first | (go_simp; done) | (go_simp; rfl)⟩) ?_
        simp only [Act.put, List.setIfInBounds_toArray, List.set_cons_zero, List.set_cons_succ]
        refine AnyK.take 4 (some 202) rfl rfl (by kernel_rfl) (by kernel_rfl) (by kernel_rfl) (fun _ _ _ h => nomatch h.1) (v := _) (.inl ⟨by rfl, fun W hW => by first | (go_simp; done) | (go_simp; rfl)⟩) ?_
        simp only [Act.put, List.setIfInBounds_toArray, List.set_cons_zero, List.set_cons_succ]
        refine AnyK.take 5 (some 203) rfl rfl (by kernel_rfl) (by kernel_rfl) (by kernel_rfl) (fun _ _ _ h => nomatch h.1) (v := _) (.inl ⟨by rfl, fun W hW => by first | (go_simp; done) | (go_simp; rfl)⟩) ?_
        simp only [Act.put, List.setIfInBounds_toArray, List.set_cons_zero, List.set_cons_succ]
        refine AnyK.take 6 (some 204) rfl rfl (by kernel_rfl) (by kernel_rfl) (by kernel_rfl) (fun _ _ _ h => nomatch h.1) (v := _) (.inl ⟨by rfl, fun W hW => by first | (go_simp; done) | (go_simp; rfl)⟩) ?_
        simp only [Act.put, List.setIfInBounds_toArray, List.set_cons_zero, List.set_cons_succ]
        refine AnyK.ready [7, 8] (by kernel_rfl) (by simp) ?_
        refine steps_cons ?_ ?_
        · refine StepK.alloc (i := 7) (some 25) rfl rfl rfl (fun W => by go_simp; rfl) (fun g7 => ?_)
          simp only [Act.put, List.setIfInBounds_toArray, List.set_cons_zero, List.set_cons_succ]
          refine AnyK.ready [8] (by kernel_rfl) (by simp) ?_
          refine steps_cons ?_ ?_
          · refine StepK.alloc (i := 8) (some 26) rfl rfl rfl (fun W => by go_simp; rfl) (fun g8 => ?_)
            simp only [Act.put, List.setIfInBounds_toArray, List.set_cons_zero, List.set_cons_succ]
            refine AnyK.ready [9] (by kernel_rfl) (by simp) ?_
            refine steps_cons ?_ ?_
            · refine StepK.store 0 (i := 9) rfl rfl rfl 24 _ _ rfl rfl rfl rfl (infoW _) rfl (oneW _) ?_
              refine AnyK.ready [10] (by kernel_rfl) (by simp) ?_
              refine steps_cons ?_ ?_
              · refine StepK.store 1 (i := 10) rfl rfl rfl 24 _ _ rfl rfl rfl rfl (infoW _) rfl (oneW _) ?_
                refine AnyK.take 11 (some 27) rfl rfl (by kernel_rfl) (by kernel_rfl) (by kernel_rfl) (fun _ _ _ h => nomatch h.1) (v := _) (.inl ⟨by rfl, fun W hW => by first | (go_simp; done) | (go_simp; rfl)⟩) ?_
                simp only [Act.put, List.setIfInBounds_toArray, List.set_cons_zero, List.set_cons_succ]
                refine AnyK.done (by kernel_rfl) ?_
                intro W hW
                exact ⟨rfl, g7, g8, rfl, hW⟩
              exact steps_nil
            exact steps_nil
          exact steps_nil
        refine steps_cons ?_ ?_
        · refine StepK.alloc (i := 8) (some 26) rfl rfl rfl (fun W => by go_simp; rfl) (fun g8 => ?_)
          simp only [Act.put, List.setIfInBounds_toArray, List.set_cons_zero, List.set_cons_succ]
          refine AnyK.ready [7] (by kernel_rfl) (by simp) ?_
          refine steps_cons ?_ ?_
          · refine StepK.alloc (i := 7) (some 25) rfl rfl rfl (fun W => by go_simp; rfl) (fun g7 => ?_)
            simp only [Act.put, List.setIfInBounds_toArray, List.set_cons_zero, List.set_cons_succ]
            refine AnyK.ready [9] (by kernel_rfl) (by simp) ?_
            refine steps_cons ?_ ?_
            · refine StepK.store 1 (i := 9) rfl rfl rfl 24 _ _ rfl rfl rfl rfl (infoW _) rfl (oneW _) ?_
              refine AnyK.ready [10] (by kernel_rfl) (by simp) ?_
              refine steps_cons ?_ ?_
              · refine StepK.store 0 (i := 10) rfl rfl rfl 24 _ _ rfl rfl rfl rfl (infoW _) rfl (oneW _) ?_
                refine AnyK.take 11 (some 27) rfl rfl (by kernel_rfl) (by kernel_rfl) (by kernel_rfl) (fun _ _ _ h => nomatch h.1) (v := _) (.inl ⟨by rfl, fun W hW => by first | (go_simp; done) | (go_simp; rfl)⟩) ?_
                simp only [Act.put, List.setIfInBounds_toArray, List.set_cons_zero, List.set_cons_succ]
                refine AnyK.done (by kernel_rfl) ?_
                intro W hW
                exact ⟨rfl, g7, g8, rfl, Keeps.swap hW⟩
              exact steps_nil
            exact steps_nil
          exact steps_nil
        exact steps_nil
      refine steps_cons ?_ ?_
      · refine StepK.alloc (i := 7) (some 25) rfl rfl rfl (fun W => by go_simp; rfl) (fun g7 => ?_)
        simp only [Act.put, List.setIfInBounds_toArray, List.set_cons_zero, List.set_cons_succ]
        refine AnyK.ready [2, 8] (by kernel_rfl) (by simp) ?_
        refine steps_cons ?_ ?_
        · refine StepK.call (i := 2) (some 201) rfl rfl rfl (fun W => by go_simp) D3.out ?_
          simp only [Act.put, List.setIfInBounds_toArray, List.set_cons_zero, List.set_cons_succ]
          refine AnyK.take 3 (some 198) rfl rfl (by kernel_rfl) (by kernel_rfl) (by kernel_rfl) (fun _ _ _ h => nomatch h.1) (v := _) (.inl ⟨by rfl, fun W hW => by first | (go_simp; done) | (go_simp; rfl)⟩) ?_
          simp only [Act.put, List.setIfInBounds_toArray, List.set_cons_zero, List.set_cons_succ]
          refine AnyK.take 4 (some 202) rfl rfl (by kernel_rfl) (by kernel_rfl) (by kernel_rfl) (fun _ _ _ h => nomatch h.1) (v := _) (.inl ⟨by rfl, fun W hW => by first | (go_simp; done) | (go_simp; rfl)⟩) ?_
          simp only [Act.put, List.setIfInBounds_toArray, List.set_cons_zero, List.set_cons_succ]
          refine AnyK.take 5 (some 203) rfl rfl (by kernel_rfl) (by kernel_rfl) (by kernel_rfl) (fun _ _ _ h => nomatch h.1) (v := _) (.inl ⟨by rfl, fun W hW => by first | (go_simp; done) | (go_simp; rfl)⟩) ?_
          simp only [Act.put, List.setIfInBounds_toArray, List.set_cons_zero, List.set_cons_succ]
          refine AnyK.take 6 (some 204) rfl rfl (by kernel_rfl) (by kernel_rfl) (by kernel_rfl) (fun _ _ _ h => nomatch h.1) (v := _) (.inl ⟨by rfl, fun W hW => by first | (go_simp; done) | (go_simp; rfl)⟩) ?_
          simp only [Act.put, List.setIfInBounds_toArray, List.set_cons_zero, List.set_cons_succ]
          refine AnyK.ready [8] (by kernel_rfl) (by simp) ?_
          refine steps_cons ?_ ?_
          · refine StepK.alloc (i := 8) (some 26) rfl rfl rfl (fun W => by go_simp; rfl) (fun g8 => ?_)
            simp only [Act.put, List.setIfInBounds_toArray, List.set_cons_zero, List.set_cons_succ]
            refine AnyK.ready [9] (by kernel_rfl) (by simp) ?_
            refine steps_cons ?_ ?_
            · refine StepK.store 0 (i := 9) rfl rfl rfl 24 _ _ rfl rfl rfl rfl (infoW _) rfl (oneW _) ?_
              refine AnyK.ready [10] (by kernel_rfl) (by simp) ?_
              refine steps_cons ?_ ?_
              · refine StepK.store 1 (i := 10) rfl rfl rfl 24 _ _ rfl rfl rfl rfl (infoW _) rfl (oneW _) ?_
                refine AnyK.take 11 (some 27) rfl rfl (by kernel_rfl) (by kernel_rfl) (by kernel_rfl) (fun _ _ _ h => nomatch h.1) (v := _) (.inl ⟨by rfl, fun W hW => by first | (go_simp; done) | (go_simp; rfl)⟩) ?_
                simp only [Act.put, List.setIfInBounds_toArray, List.set_cons_zero, List.set_cons_succ]
                refine AnyK.done (by kernel_rfl) ?_
                intro W hW
                exact ⟨rfl, g7, g8, rfl, hW⟩
              exact steps_nil
            exact steps_nil
          exact steps_nil
        refine steps_cons ?_ ?_
        · refine StepK.alloc (i := 8) (some 26) rfl rfl rfl (fun W => by go_simp; rfl) (fun g8 => ?_)
          simp only [Act.put, List.setIfInBounds_toArray, List.set_cons_zero, List.set_cons_succ]
          refine AnyK.ready [2] (by kernel_rfl) (by simp) ?_
          refine steps_cons ?_ ?_
          · refine StepK.call (i := 2) (some 201) rfl rfl rfl (fun W => by go_simp) D3.out ?_
            simp only [Act.put, List.setIfInBounds_toArray, List.set_cons_zero, List.set_cons_succ]
            refine AnyK.take 3 (some 198) rfl rfl (by kernel_rfl) (by kernel_rfl) (by kernel_rfl) (fun _ _ _ h => nomatch h.1) (v := _) (.inl ⟨by rfl, fun W hW => by first | (go_simp; done) | (go_simp; rfl)⟩) ?_
            simp only [Act.put, List.setIfInBounds_toArray, List.set_cons_zero, List.set_cons_succ]
            refine AnyK.take 4 (some 202) rfl rfl (by kernel_rfl) (by kernel_rfl) (by kernel_rfl) (fun _ _ _ h => nomatch h.1) (v := _) (.inl ⟨by rfl, fun W hW => by first | (go_simp; done) | (go_simp; rfl)⟩) ?_
            simp only [Act.put, List.setIfInBounds_toArray, List.set_cons_zero, List.set_cons_succ]
            refine AnyK.take 5 (some 203) rfl rfl (by kernel_rfl) (by kernel_rfl) (by kernel_rfl) (fun _ _ _ h => nomatch h.1) (v := _) (.inl ⟨by rfl, fun W hW => by first | (go_simp; done) | (go_simp; rfl)⟩) ?_
            simp only [Act.put, List.setIfInBounds_toArray, List.set_cons_zero, List.set_cons_succ]
            refine AnyK.take 6 (some 204) rfl rfl (by kernel_rfl) (by kernel_rfl) (by kernel_rfl) (fun _ _ _ h => nomatch h.1) (v := _) (.inl ⟨by rfl, fun W hW => by first | (go_simp; done) | (go_simp; rfl)⟩) ?_
            simp only [Act.put, List.setIfInBounds_toArray, List.set_cons_zero, List.set_cons_succ]
            refine AnyK.ready [9] (by kernel_rfl) (by simp) ?_
            refine steps_cons ?_ ?_
            · refine StepK.store 0 (i := 9) rfl rfl rfl 24 _ _ rfl rfl rfl rfl (infoW _) rfl (oneW _) ?_
              refine AnyK.ready [10] (by kernel_rfl) (by simp) ?_
              refine steps_cons ?_ ?_
              · refine StepK.store 1 (i := 10) rfl rfl rfl 24 _ _ rfl rfl rfl rfl (infoW _) rfl (oneW _) ?_
                refine AnyK.take 11 (some 27) rfl rfl (by kernel_rfl) (by kernel_rfl) (by kernel_rfl) (fun _ _ _ h => nomatch h.1) (v := _) (.inl ⟨by rfl, fun W hW => by first | (go_simp; done) | (go_simp; rfl)⟩) ?_
                simp only [Act.put, List.setIfInBounds_toArray, List.set_cons_zero, List.set_cons_succ]
                refine AnyK.done (by kernel_rfl) ?_
                intro W hW
                exact ⟨rfl, g7, g8, rfl, hW⟩
              exact steps_nil
            exact steps_nil
          exact steps_nil
        exact steps_nil
      refine steps_cons ?_ ?_
      · refine StepK.alloc (i := 8) (some 26) rfl rfl rfl (fun W => by go_simp; rfl) (fun g8 => ?_)
        simp only [Act.put, List.setIfInBounds_toArray, List.set_cons_zero, List.set_cons_succ]
        refine AnyK.ready [2, 7] (by kernel_rfl) (by simp) ?_
        refine steps_cons ?_ ?_
        · refine StepK.call (i := 2) (some 201) rfl rfl rfl (fun W => by go_simp) D3.out ?_
          simp only [Act.put, List.setIfInBounds_toArray, List.set_cons_zero, List.set_cons_succ]
          refine AnyK.take 3 (some 198) rfl rfl (by kernel_rfl) (by kernel_rfl) (by kernel_rfl) (fun _ _ _ h => nomatch h.1) (v := _) (.inl ⟨by rfl, fun W hW => by first | (go_simp; done) | (go_simp; rfl)⟩) ?_
          simp only [Act.put, List.setIfInBounds_toArray, List.set_cons_zero, List.set_cons_succ]
          refine AnyK.take 4 (some 202) rfl rfl (by kernel_rfl) (by kernel_rfl) (by kernel_rfl) (fun _ _ _ h => nomatch h.1) (v := _) (.inl ⟨by rfl, fun W hW => by first | (go_simp; done) | (go_simp; rfl)⟩) ?_
          simp only [Act.put, List.setIfInBounds_toArray, List.set_cons_zero, List.set_cons_succ]
          refine AnyK.take 5 (some 203) rfl rfl (by kernel_rfl) (by kernel_rfl) (by kernel_rfl) (fun _ _ _ h => nomatch h.1) (v := _) (.inl ⟨by rfl, fun W hW => by first | (go_simp; done) | (go_simp; rfl)⟩) ?_
          simp only [Act.put, List.setIfInBounds_toArray, List.set_cons_zero, List.set_cons_succ]
          refine AnyK.take 6 (some 204) rfl rfl (by kernel_rfl) (by kernel_rfl) (by kernel_rfl) (fun _ _ _ h => nomatch h.1) (v := _) (.inl ⟨by rfl, fun W hW => by first | (go_simp; done) | (go_simp; rfl)⟩) ?_
          simp only [Act.put, List.setIfInBounds_toArray, List.set_cons_zero, List.set_cons_succ]
          refine AnyK.ready [7] (by kernel_rfl) (by simp) ?_
          refine steps_cons ?_ ?_
          · refine StepK.alloc (i := 7) (some 25) rfl rfl rfl (fun W => by go_simp; rfl) (fun g7 => ?_)
            simp only [Act.put, List.setIfInBounds_toArray, List.set_cons_zero, List.set_cons_succ]
            refine AnyK.ready [9] (by kernel_rfl) (by simp) ?_
            refine steps_cons ?_ ?_
            · refine StepK.store 1 (i := 9) rfl rfl rfl 24 _ _ rfl rfl rfl rfl (infoW _) rfl (oneW _) ?_
              refine AnyK.ready [10] (by kernel_rfl) (by simp) ?_
              refine steps_cons ?_ ?_
              · refine StepK.store 0 (i := 10) rfl rfl rfl 24 _ _ rfl rfl rfl rfl (infoW _) rfl (oneW _) ?_
                refine AnyK.take 11 (some 27) rfl rfl (by kernel_rfl) (by kernel_rfl) (by kernel_rfl) (fun _ _ _ h => nomatch h.1) (v := _) (.inl ⟨by rfl, fun W hW => by first | (go_simp; done) | (go_simp; rfl)⟩) ?_
                simp only [Act.put, List.setIfInBounds_toArray, List.set_cons_zero, List.set_cons_succ]
                refine AnyK.done (by kernel_rfl) ?_
                intro W hW
                exact ⟨rfl, g7, g8, rfl, Keeps.swap hW⟩
              exact steps_nil
            exact steps_nil
          exact steps_nil
        refine steps_cons ?_ ?_
        · refine StepK.alloc (i := 7) (some 25) rfl rfl rfl (fun W => by go_simp; rfl) (fun g7 => ?_)
          simp only [Act.put, List.setIfInBounds_toArray, List.set_cons_zero, List.set_cons_succ]
          refine AnyK.ready [2] (by kernel_rfl) (by simp) ?_
          refine steps_cons ?_ ?_
          · refine StepK.call (i := 2) (some 201) rfl rfl rfl (fun W => by go_simp) D3.out ?_
            simp only [Act.put, List.setIfInBounds_toArray, List.set_cons_zero, List.set_cons_succ]
            refine AnyK.take 3 (some 198) rfl rfl (by kernel_rfl) (by kernel_rfl) (by kernel_rfl) (fun _ _ _ h => nomatch h.1) (v := _) (.inl ⟨by rfl, fun W hW => by first | (go_simp; done) | (go_simp; rfl)⟩) ?_
            simp only [Act.put, List.setIfInBounds_toArray, List.set_cons_zero, List.set_cons_succ]
            refine AnyK.take 4 (some 202) rfl rfl (by kernel_rfl) (by kernel_rfl) (by kernel_rfl) (fun _ _ _ h => nomatch h.1) (v := _) (.inl ⟨by rfl, fun W hW => by first | (go_simp; done) | (go_simp; rfl)⟩) ?_
            simp only [Act.put, List.setIfInBounds_toArray, List.set_cons_zero, List.set_cons_succ]
            refine AnyK.take 5 (some 203) rfl rfl (by kernel_rfl) (by kernel_rfl) (by kernel_rfl) (fun _ _ _ h => nomatch h.1) (v := _) (.inl ⟨by rfl, fun W hW => by first | (go_simp; done) | (go_simp; rfl)⟩) ?_
            simp only [Act.put, List.setIfInBounds_toArray, List.set_cons_zero, List.set_cons_succ]
            refine AnyK.take 6 (some 204) rfl rfl (by kernel_rfl) (by kernel_rfl) (by kernel_rfl) (fun _ _ _ h => nomatch h.1) (v := _) (.inl ⟨by rfl, fun W hW => by first | (go_simp; done) | (go_simp; rfl)⟩) ?_
            simp only [Act.put, List.setIfInBounds_toArray, List.set_cons_zero, List.set_cons_succ]
            refine AnyK.ready [9] (by kernel_rfl) (by simp) ?_
            refine steps_cons ?_ ?_
            · refine StepK.store 1 (i := 9) rfl rfl rfl 24 _ _ rfl rfl rfl rfl (infoW _) rfl (oneW _) ?_
              refine AnyK.ready [10] (by kernel_rfl) (by simp) ?_
              refine steps_cons ?_ ?_
              · refine StepK.store 0 (i := 10) rfl rfl rfl 24 _ _ rfl rfl rfl rfl (infoW _) rfl (oneW _) ?_
                refine AnyK.take 11 (some 27) rfl rfl (by kernel_rfl) (by kernel_rfl) (by kernel_rfl) (fun _ _ _ h => nomatch h.1) (v := _) (.inl ⟨by rfl, fun W hW => by first | (go_simp; done) | (go_simp; rfl)⟩) ?_
                simp only [Act.put, List.setIfInBounds_toArray, List.set_cons_zero, List.set_cons_succ]
                refine AnyK.done (by kernel_rfl) ?_
                intro W hW
                exact ⟨rfl, g7, g8, rfl, Keeps.swap hW⟩
              exact steps_nil
            exact steps_nil
          exact steps_nil
        exact steps_nil
      exact steps_nil
    refine steps_cons ?_ ?_
    · refine StepK.alloc (i := 7) (some 25) rfl rfl rfl (fun W => by go_simp; rfl) (fun g7 => ?_)
      simp only [Act.put, List.setIfInBounds_toArray, List.set_cons_zero, List.set_cons_succ]
      refine AnyK.ready [0, 8] (by kernel_rfl) (by simp) ?_
      refine steps_cons ?_ ?_
      · refine StepK.call (i := 0) (some 199) rfl rfl rfl (fun W => by go_simp) MO.out ?_
        simp only [Act.put, List.setIfInBounds_toArray, List.set_cons_zero, List.set_cons_succ]
        refine AnyK.ready [2, 8] (by kernel_rfl) (by simp) ?_
        refine steps_cons ?_ ?_
        · refine StepK.call (i := 2) (some 201) rfl rfl rfl (fun W => by go_simp) D3.out ?_
          simp only [Act.put, List.setIfInBounds_toArray, List.set_cons_zero, List.set_cons_succ]
          refine AnyK.take 3 (some 198) rfl rfl (by kernel_rfl) (by kernel_rfl) (by kernel_rfl) (fun _ _ _ h => nomatch h.1) (v := _) (.inl ⟨by rfl, fun W hW => by first | (go_simp; done) | (go_simp; rfl)⟩) ?_
          simp only [Act.put, List.setIfInBounds_toArray, List.set_cons_zero, List.set_cons_succ]
          refine AnyK.take 4 (some 202) rfl rfl (by kernel_rfl) (by kernel_rfl) (by kernel_rfl) (fun _ _ _ h => nomatch h.1) (v := _) (.inl ⟨by rfl, fun W hW => by first | (go_simp; done) | (go_simp; rfl)⟩) ?_
          simp only [Act.put, List.setIfInBounds_toArray, List.set_cons_zero, List.set_cons_succ]
          refine AnyK.take 5 (some 203) rfl rfl (by kernel_rfl) (by kernel_rfl) (by kernel_rfl) (fun _ _ _ h => nomatch h.1) (v := _) (.inl ⟨by rfl, fun W hW => by first | (go_simp; done) | (go_simp; rfl)⟩) ?_
          simp only [Act.put, List.setIfInBounds_toArray, List.set_cons_zero, List.set_cons_succ]
          refine AnyK.take 6 (some 204) rfl rfl (by kernel_rfl) (by kernel_rfl) (by kernel_rfl) (fun _ _ _ h => nomatch h.1) (v := _) (.inl ⟨by rfl, fun W hW => by first | (go_simp; done) | (go_simp; rfl)⟩) ?_
          simp only [Act.put, List.setIfInBounds_toArray, List.set_cons_zero, List.set_cons_succ]
          refine AnyK.ready [8] (by kernel_rfl) (by simp) ?_
          refine steps_cons ?_ ?_
          · refine StepK.alloc (i := 8) (some 26) rfl rfl rfl (fun W => by go_simp; rfl) (fun g8 => ?_)
            simp only [Act.put, List.setIfInBounds_toArray, List.set_cons_zero, List.set_cons_succ]
            refine AnyK.ready [9] (by kernel_rfl) (by simp) ?_
            refine steps_cons ?_ ?_
            · refine StepK.store 0 (i := 9) rfl rfl rfl 24 _ _ rfl rfl rfl rfl (infoW _) rfl (oneW _) ?_
              refine AnyK.ready [10] (by kernel_rfl) (by simp) ?_
              refine steps_cons ?_ ?_
              · refine StepK.store 1 (i := 10) rfl rfl rfl 24 _ _ rfl rfl rfl rfl (infoW _) rfl (oneW _) ?_
                refine AnyK.take 11 (some 27) rfl rfl (by kernel_rfl) (by kernel_rfl) (by kernel_rfl) (fun _ _ _ h => nomatch h.1) (v := _) (.inl ⟨by rfl, fun W hW => by first | (go_simp; done) | (go_simp; rfl)⟩) ?_
                simp only [Act.put, List.setIfInBounds_toArray, List.set_cons_zero, List.set_cons_succ]
                refine AnyK.done (by kernel_rfl) ?_
                intro W hW
                exact ⟨rfl, g7, g8, rfl, hW⟩
              exact steps_nil
            exact steps_nil
          exact steps_nil
        refine steps_cons ?_ ?_
        · refine StepK.alloc (i := 8) (some 26) rfl rfl rfl (fun W => by go_simp; rfl) (fun g8 => ?_)
          simp only [Act.put, List.setIfInBounds_toArray, List.set_cons_zero, List.set_cons_succ]
          refine AnyK.ready [2] (by kernel_rfl) (by simp) ?_
          refine steps_cons ?_ ?_
          · refine StepK.call (i := 2) (some 201) rfl rfl rfl (fun W => by go_simp) D3.out ?_
            simp only [Act.put, List.setIfInBounds_toArray, List.set_cons_zero, List.set_cons_succ]
            refine AnyK.take 3 (some 198) rfl rfl (by kernel_rfl) (by kernel_rfl) (by kernel_rfl) (fun _ _ _ h => nomatch h.1) (v := _) (.inl ⟨by rfl, fun W hW => by first | (go_simp; done) | (go_simp; rfl)⟩) ?_
            simp only [Act.put, List.setIfInBounds_toArray, List.set_cons_zero, List.set_cons_succ]
            refine AnyK.take 4 (some 202) rfl rfl (by kernel_rfl) (by kernel_rfl) (by kernel_rfl) (fun _ _ _ h => nomatch h.1) (v := _) (.inl ⟨by rfl, fun W hW => by first | (go_simp; done) | (go_simp; rfl)⟩) ?_
            simp only [Act.put, List.setIfInBounds_toArray, List.set_cons_zero, List.set_cons_succ]
            refine AnyK.take 5 (some 203) rfl rfl (by kernel_rfl) (by kernel_rfl) (by kernel_rfl) (fun _ _ _ h => nomatch h.1) (v := _) (.inl ⟨by rfl, fun W hW => by first | (go_simp; done) | (go_simp; rfl)⟩) ?_
            simp only [Act.put, List.setIfInBounds_toArray, List.set_cons_zero, List.set_cons_succ]
            refine AnyK.take 6 (some 204) rfl rfl (by kernel_rfl) (by kernel_rfl) (by kernel_rfl) (fun _ _ _ h => nomatch h.1) (v := _) (.inl ⟨by rfl, fun W hW => by first | (go_simp; done) | (go_simp; rfl)⟩) ?_
            simp only [Act.put, List.setIfInBounds_toArray, List.set_cons_zero, List.set_cons_succ]
            refine AnyK.ready [9] (by kernel_rfl) (by simp) ?_
            refine steps_cons ?_ ?_
            · refine StepK.store 0 (i := 9) rfl rfl rfl 24 _ _ rfl rfl rfl rfl (infoW _) rfl (oneW _) ?_
              refine AnyK.ready [10] (by kernel_rfl) (by simp) ?_
              refine steps_cons ?_ ?_
              · refine StepK.store 1 (i := 10) rfl rfl rfl 24 _ _ rfl rfl rfl rfl (infoW _) rfl (oneW _) ?_
                refine AnyK.take 11 (some 27) rfl rfl (by kernel_rfl) (by kernel_rfl) (by kernel_rfl) (fun _ _ _ h => nomatch h.1) (v := _) (.inl ⟨by rfl, fun W hW => by first | (go_simp; done) | (go_simp; rfl)⟩) ?_
                simp only [Act.put, List.setIfInBounds_toArray, List.set_cons_zero, List.set_cons_succ]
                refine AnyK.done (by kernel_rfl) ?_
                intro W hW
                exact ⟨rfl, g7, g8, rfl, hW⟩
              exact steps_nil
            exact steps_nil
          exact steps_nil
        exact steps_nil
      refine steps_cons ?_ ?_
      · refine StepK.alloc (i := 8) (some 26) rfl rfl rfl (fun W => by go_simp; rfl) (fun g8 => ?_)
        simp only [Act.put, List.setIfInBounds_toArray, List.set_cons_zero, List.set_cons_succ]
        refine AnyK.ready [0] (by kernel_rfl) (by simp) ?_
        refine steps_cons ?_ ?_
        · refine StepK.call (i := 0) (some 199) rfl rfl rfl (fun W => by go_simp) MO.out ?_
          simp only [Act.put, List.setIfInBounds_toArray, List.set_cons_zero, List.set_cons_succ]
          refine AnyK.ready [2] (by kernel_rfl) (by simp) ?_
          refine steps_cons ?_ ?_
          · refine StepK.call (i := 2) (some 201) rfl rfl rfl (fun W => by go_simp) D3.out ?_
            simp only [Act.put, List.setIfInBounds_toArray, List.set_cons_zero, List.set_cons_succ]
            refine AnyK.take 3 (some 198) rfl rfl (by kernel_rfl) (by kernel_rfl) (by kernel_rfl) (fun _ _ _ h => nomatch h.1) (v := _) (.inl ⟨by rfl, fun W hW => by first | (go_simp; done) | (go_simp; rfl)⟩) ?_
            simp only [Act.put, List.setIfInBounds_toArray, List.set_cons_zero, List.set_cons_succ]
            refine AnyK.take 4 (some 202) rfl rfl (by kernel_rfl) (by kernel_rfl) (by kernel_rfl) (fun _ _ _ h => nomatch h.1) (v := _) (.inl ⟨by rfl, fun W hW => by first | (go_simp; done) | (go_simp; rfl)⟩) ?_
            simp only [Act.put, List.setIfInBounds_toArray, List.set_cons_zero, List.set_cons_succ]
            refine AnyK.take 5 (some 203) rfl rfl (by kernel_rfl) (by kernel_rfl) (by kernel_rfl) (fun _ _ _ h => nomatch h.1) (v := _) (.inl ⟨by rfl, fun W hW => by first | (go_simp; done) | (go_simp; rfl)⟩) ?_
            simp only [Act.put, List.setIfInBounds_toArray, List.set_cons_zero, List.set_cons_succ]
            refine AnyK.take 6 (some 204) rfl rfl (by kernel_rfl) (by kernel_rfl) (by kernel_rfl) (fun _ _ _ h => nomatch h.1) (v := _) (.inl ⟨by rfl, fun W hW => by first | (go_simp; done) | (go_simp; rfl)⟩) ?_
            simp only [Act.put, List.setIfInBounds_toArray, List.set_cons_zero, List.set_cons_succ]
            refine AnyK.ready [9] (by kernel_rfl) (by simp) ?_
            refine steps_cons ?_ ?_
            · refine StepK.store 0 (i := 9) rfl rfl rfl 24 _ _ rfl rfl rfl rfl (infoW _) rfl (oneW _) ?_
              refine AnyK.ready [10] (by kernel_rfl) (by simp) ?_
              refine steps_cons ?_ ?_
              · refine StepK.store 1 (i := 10) rfl rfl rfl 24 _ _ rfl rfl rfl rfl (infoW _) rfl (oneW _) ?_
                refine AnyK.take 11 (some 27) rfl rfl (by kernel_rfl) (by kernel_rfl) (by kernel_rfl) (fun _ _ _ h => nomatch h.1) (v := _) (.inl ⟨by rfl, fun W hW => by first | (go_simp; done) | (go_simp; rfl)⟩) ?_
                simp only [Act.put, List.setIfInBounds_toArray, List.set_cons_zero, List.set_cons_succ]
                refine AnyK.done (by kernel_rfl) ?_
                intro W hW
                exact ⟨rfl, g7, g8, rfl, hW⟩
              exact steps_nil
            exact steps_nil
          exact steps_nil
        exact steps_nil
      exact steps_nil
    refine steps_cons ?_ ?_
    · refine StepK.alloc (i := 8) (some 26) rfl rfl rfl (fun W => by go_simp; rfl) (fun g8 => ?_)
      simp only [Act.put, List.setIfInBounds_toArray, List.set_cons_zero, List.set_cons_succ]
      refine AnyK.ready [0, 7] (by kernel_rfl) (by simp) ?_
      refine steps_cons ?_ ?_
      · refine StepK.call (i := 0) (some 199) rfl rfl rfl (fun W => by go_simp) MO.out ?_
        simp only [Act.put, List.setIfInBounds_toArray, List.set_cons_zero, List.set_cons_succ]
        refine AnyK.ready [2, 7] (by kernel_rfl) (by simp) ?_
        refine steps_cons ?_ ?_
        · refine StepK.call (i := 2) (some 201) rfl rfl rfl (fun W => by go_simp) D3.out ?_
          simp only [Act.put, List.setIfInBounds_toArray, List.set_cons_zero, List.set_cons_succ]
          refine AnyK.take 3 (some 198) rfl rfl (by kernel_rfl) (by kernel_rfl) (by kernel_rfl) (fun _ _ _ h => nomatch h.1) (v := _) (.inl ⟨by rfl, fun W hW => by first | (go_simp; done) | (go_simp; rfl)⟩) ?_
          simp only [Act.put, List.setIfInBounds_toArray, List.set_cons_zero, List.set_cons_succ]
          refine AnyK.take 4 (some 202) rfl rfl (by kernel_rfl) (by kernel_rfl) (by kernel_rfl) (fun _ _ _ h => nomatch h.1) (v := _) (.inl ⟨by rfl, fun W hW => by first | (go_simp; done) | (go_simp; rfl)⟩) ?_
          simp only [Act.put, List.setIfInBounds_toArray, List.set_cons_zero, List.set_cons_succ]
          refine AnyK.take 5 (some 203) rfl rfl (by kernel_rfl) (by kernel_rfl) (by kernel_rfl) (fun _ _ _ h => nomatch h.1) (v := _) (.inl ⟨by rfl, fun W hW => by first | (go_simp; done) | (go_simp; rfl)⟩) ?_
          simp only [Act.put, List.setIfInBounds_toArray, List.set_cons_zero, List.set_cons_succ]
          refine AnyK.take 6 (some 204) rfl rfl (by kernel_rfl) (by kernel_rfl) (by kernel_rfl) (fun _ _ _ h => nomatch h.1) (v := _) (.inl ⟨by rfl, fun W hW => by first | (go_simp; done) | (go_simp; rfl)⟩) ?_
          simp only [Act.put, List.setIfInBounds_toArray, List.set_cons_zero, List.set_cons_succ]
          refine AnyK.ready [7] (by kernel_rfl) (by simp) ?_
          refine steps_cons ?_ ?_
          · refine StepK.alloc (i := 7) (some 25) rfl rfl rfl (fun W => by go_simp; rfl) (fun g7 => ?_)
            simp only [Act.put, List.setIfInBounds_toArray, List.set_cons_zero, List.set_cons_succ]
            refine AnyK.ready [9] (by kernel_rfl) (by simp) ?_
            refine steps_cons ?_ ?_
            · refine StepK.store 1 (i := 9) rfl rfl rfl 24 _ _ rfl rfl rfl rfl (infoW _) rfl (oneW _) ?_
              refine AnyK.ready [10] (by kernel_rfl) (by simp) ?_
              refine steps_cons ?_ ?_
              · refine StepK.store 0 (i := 10) rfl rfl rfl 24 _ _ rfl rfl rfl rfl (infoW _) rfl (oneW _) ?_
                refine AnyK.take 11 (some 27) rfl rfl (by kernel_rfl) (by kernel_rfl) (by kernel_rfl) (fun _ _ _ h => nomatch h.1) (v := _) (.inl ⟨by rfl, fun W hW => by first | (go_simp; done) | (go_simp; rfl)⟩) ?_
                simp only [Act.put, List.setIfInBounds_toArray, List.set_cons_zero, List.set_cons_succ]
                refine AnyK.done (by kernel_rfl) ?_
                intro W hW
                exact ⟨rfl, g7, g8, rfl, Keeps.swap hW⟩
              exact steps_nil
            exact steps_nil
          exact steps_nil
        refine steps_cons ?_ ?_
        · refine StepK.alloc (i := 7) (some 25) rfl rfl rfl (fun W => by go_simp; rfl) (fun g7 => ?_)
          simp only [Act.put, List.setIfInBounds_toArray, List.set_cons_zero, List.set_cons_succ]
          refine AnyK.ready [2] (by kernel_rfl) (by simp) ?_
          refine steps_cons ?_ ?_
          · refine StepK.call (i := 2) (some 201) rfl rfl rfl (fun W => by go_simp) D3.out ?_
            simp only [Act.put, List.setIfInBounds_toArray, List.set_cons_zero, List.set_cons_succ]
            refine AnyK.take 3 (some 198) rfl rfl (by kernel_rfl) (by kernel_rfl) (by kernel_rfl) (fun _ _ _ h => nomatch h.1) (v := _) (.inl ⟨by rfl, fun W hW => by first | (go_simp; done) | (go_simp; rfl)⟩) ?_
            simp only [Act.put, List.setIfInBounds_toArray, List.set_cons_zero, List.set_cons_succ]
            refine AnyK.take 4 (some 202) rfl rfl (by kernel_rfl) (by kernel_rfl) (by kernel_rfl) (fun _ _ _ h => nomatch h.1) (v := _) (.inl ⟨by rfl, fun W hW => by first | (go_simp; done) | (go_simp; rfl)⟩) ?_
            simp only [Act.put, List.setIfInBounds_toArray, List.set_cons_zero, List.set_cons_succ]
            refine AnyK.take 5 (some 203) rfl rfl (by kernel_rfl) (by kernel_rfl) (by kernel_rfl) (fun _ _ _ h => nomatch h.1) (v := _) (.inl ⟨by rfl, fun W hW => by first | (go_simp; done) | (go_simp; rfl)⟩) ?_
            simp only [Act.put, List.setIfInBounds_toArray, List.set_cons_zero, List.set_cons_succ]
            refine AnyK.take 6 (some 204) rfl rfl (by kernel_rfl) (by kernel_rfl) (by kernel_rfl) (fun _ _ _ h => nomatch h.1) (v := _) (.inl ⟨by rfl, fun W hW => by first | (go_simp; done) | (go_simp; rfl)⟩) ?_
            simp only [Act.put, List.setIfInBounds_toArray, List.set_cons_zero, List.set_cons_succ]
            refine AnyK.ready [9] (by kernel_rfl) (by simp) ?_
            refine steps_cons ?_ ?_
            · refine StepK.store 1 (i := 9) rfl rfl rfl 24 _ _ rfl rfl rfl rfl (infoW _) rfl (oneW _) ?_
              refine AnyK.ready [10] (by kernel_rfl) (by simp) ?_
              refine steps_cons ?_ ?_
              · refine StepK.store 0 (i := 10) rfl rfl rfl 24 _ _ rfl rfl rfl rfl (infoW _) rfl (oneW _) ?_
                refine AnyK.take 11 (some 27) rfl rfl (by kernel_rfl) (by kernel_rfl) (by kernel_rfl) (fun _ _ _ h => nomatch h.1) (v := _) (.inl ⟨by rfl, fun W hW => by first | (go_simp; done) | (go_simp; rfl)⟩) ?_
                simp only [Act.put, List.setIfInBounds_toArray, List.set_cons_zero, List.set_cons_succ]
                refine AnyK.done (by kernel_rfl) ?_
                intro W hW
                exact ⟨rfl, g7, g8, rfl, Keeps.swap hW⟩
              exact steps_nil
            exact steps_nil
          exact steps_nil
        exact steps_nil
      refine steps_cons ?_ ?_
      · refine StepK.alloc (i := 7) (some 25) rfl rfl rfl (fun W => by go_simp; rfl) (fun g7 => ?_)
        simp only [Act.put, List.setIfInBounds_toArray, List.set_cons_zero, List.set_cons_succ]
        refine AnyK.ready [0] (by kernel_rfl) (by simp) ?_
        refine steps_cons ?_ ?_
        · refine StepK.call (i := 0) (some 199) rfl rfl rfl (fun W => by go_simp) MO.out ?_
          simp only [Act.put, List.setIfInBounds_toArray, List.set_cons_zero, List.set_cons_succ]
          refine AnyK.ready [2] (by kernel_rfl) (by simp) ?_
          refine steps_cons ?_ ?_
          · refine StepK.call (i := 2) (some 201) rfl rfl rfl (fun W => by go_simp) D3.out ?_
            simp only [Act.put, List.setIfInBounds_toArray, List.set_cons_zero, List.set_cons_succ]
            refine AnyK.take 3 (some 198) rfl rfl (by kernel_rfl) (by kernel_rfl) (by kernel_rfl) (fun _ _ _ h => nomatch h.1) (v := _) (.inl ⟨by rfl, fun W hW => by first | (go_simp; done) | (go_simp; rfl)⟩) ?_
            simp only [Act.put, List.setIfInBounds_toArray, List.set_cons_zero, List.set_cons_succ]
            refine AnyK.take 4 (some 202) rfl rfl (by kernel_rfl) (by kernel_rfl) (by kernel_rfl) (fun _ _ _ h => nomatch h.1) (v := _) (.inl ⟨by rfl, fun W hW => by first | (go_simp; done) | (go_simp; rfl)⟩) ?_
            simp only [Act.put, List.setIfInBounds_toArray, List.set_cons_zero, List.set_cons_succ]
            refine AnyK.take 5 (some 203) rfl rfl (by kernel_rfl) (by kernel_rfl) (by kernel_rfl) (fun _ _ _ h => nomatch h.1) (v := _) (.inl ⟨by rfl, fun W hW => by first | (go_simp; done) | (go_simp; rfl)⟩) ?_
            simp only [Act.put, List.setIfInBounds_toArray, List.set_cons_zero, List.set_cons_succ]
            refine AnyK.take 6 (some 204) rfl rfl (by kernel_rfl) (by kernel_rfl) (by kernel_rfl) (fun _ _ _ h => nomatch h.1) (v := _) (.inl ⟨by rfl, fun W hW => by first | (go_simp; done) | (go_simp; rfl)⟩) ?_
            simp only [Act.put, List.setIfInBounds_toArray, List.set_cons_zero, List.set_cons_succ]
            refine AnyK.ready [9] (by kernel_rfl) (by simp) ?_
            refine steps_cons ?_ ?_
            · refine StepK.store 1 (i := 9) rfl rfl rfl 24 _ _ rfl rfl rfl rfl (infoW _) rfl (oneW _) ?_
              refine AnyK.ready [10] (by kernel_rfl) (by simp) ?_
              refine steps_cons ?_ ?_
              · refine StepK.store 0 (i := 10) rfl rfl rfl 24 _ _ rfl rfl rfl rfl (infoW _) rfl (oneW _) ?_
                refine AnyK.take 11 (some 27) rfl rfl (by kernel_rfl) (by kernel_rfl) (by kernel_rfl) (fun _ _ _ h => nomatch h.1) (v := _) (.inl ⟨by rfl, fun W hW => by first | (go_simp; done) | (go_simp; rfl)⟩) ?_
                simp only [Act.put, List.setIfInBounds_toArray, List.set_cons_zero, List.set_cons_succ]
                refine AnyK.done (by kernel_rfl) ?_
                intro W hW
                exact ⟨rfl, g7, g8, rfl, Keeps.swap hW⟩
              exact steps_nil
            exact steps_nil
          exact steps_nil
        exact steps_nil
      exact steps_nil
    exact steps_nil
  clear hH
  rintro g h W1 hH
  simp only [List.nil_append, List.cons_append, List.set_cons_zero, List.set_cons_succ] at hH
  go_wp2_with fail
  apply wp_boxes (W0 := w)
  case hreg =>
    refine AnyK.start 9 rfl (by kernel_rfl) hH ?_
    refine AnyK.take 1 (some 207) rfl rfl (by kernel_rfl) (by kernel_rfl) (by kernel_rfl) (fun _ _ _ h => nomatch h.1) (yieldsIf_box 6 rfl 24 _ rfl rfl rfl _ Try.underlying24 rfl (infoW _)) ?_
    simp only [Act.put, List.setIfInBounds_toArray, List.set_cons_zero, List.set_cons_succ]
    refine AnyK.ready [0, 6] (by kernel_rfl) (by simp) ?_
    refine steps_cons ?_ ?_
    · refine StepK.call (i := 0) (some 206) rfl rfl rfl (fun W => by go_simp) MO.out ?_
      simp only [Act.put, List.setIfInBounds_toArray, List.set_cons_zero, List.set_cons_succ]
      refine AnyK.ready [2, 6] (by kernel_rfl) (by simp) ?_
      refine steps_cons ?_ ?_
      · refine StepK.call (i := 2) (some 208) rfl rfl rfl (fun W => by go_simp) U1.out ?_
        simp only [Act.put, List.setIfInBounds_toArray, List.set_cons_zero, List.set_cons_succ]
        refine AnyK.take 3 (some 205) rfl rfl (by kernel_rfl) (by kernel_rfl) (by kernel_rfl) (fun _ _ _ h => nomatch h.1) (v := _) (.inl ⟨by rfl, fun W hW => by first | (go_simp; done) | (go_simp; rfl)⟩) ?_
        simp only [Act.put, List.setIfInBounds_toArray, List.set_cons_zero, List.set_cons_succ]
        refine AnyK.take 4 (some 209) rfl rfl (by kernel_rfl) (by kernel_rfl) (by kernel_rfl) (fun _ _ _ h => nomatch h.1) (v := _) (.inl ⟨by rfl, fun W hW => by first | (go_simp; done) | (go_simp; rfl)⟩) ?_
        simp only [Act.put, List.setIfInBounds_toArray, List.set_cons_zero, List.set_cons_succ]
        refine AnyK.take 5 (some 210) rfl rfl (by kernel_rfl) (by kernel_rfl) (by kernel_rfl) (fun _ _ _ h => nomatch h.1) (v := _) (.inl ⟨by rfl, fun W hW => by first | (go_simp; done) | (go_simp; rfl)⟩) ?_
        simp only [Act.put, List.setIfInBounds_toArray, List.set_cons_zero, List.set_cons_succ]
        refine AnyK.ready [6] (by kernel_rfl) (by simp) ?_
        refine steps_cons ?_ ?_
        · refine StepK.alloc (i := 6) (some 28) rfl rfl rfl (fun W => by go_simp; rfl) (fun g6 => ?_)
          simp only [Act.put, List.setIfInBounds_toArray, List.set_cons_zero, List.set_cons_succ]
          refine AnyK.ready [7] (by kernel_rfl) (by simp) ?_
          refine steps_cons ?_ ?_
          · refine StepK.store 0 (i := 7) rfl rfl rfl 24 _ _ rfl rfl rfl rfl (infoW _) rfl (oneW _) ?_
            refine AnyK.take 8 (some 29) rfl rfl (by kernel_rfl) (by kernel_rfl) (by kernel_rfl) (fun _ _ _ h => nomatch h.1) (v := _) (.inl ⟨by rfl, fun W hW => by first | (go_simp; done) | (go_simp; rfl)⟩) ?_
            simp only [Act.put, List.setIfInBounds_toArray, List.set_cons_zero, List.set_cons_succ]
            refine AnyK.done (by kernel_rfl) ?_
            intro W hW
            exact ⟨rfl, g6, rfl, hW⟩
          exact steps_nil
        exact steps_nil
      refine steps_cons ?_ ?_
      · refine StepK.alloc (i := 6) (some 28) rfl rfl rfl (fun W => by go_simp; rfl) (fun g6 => ?_)
        simp only [Act.put, List.setIfInBounds_toArray, List.set_cons_zero, List.set_cons_succ]
        refine AnyK.ready [2] (by kernel_rfl) (by simp) ?_
        refine steps_cons ?_ ?_
        · refine StepK.call (i := 2) (some 208) rfl rfl rfl (fun W => by go_simp) U1.out ?_
          simp only [Act.put, List.setIfInBounds_toArray, List.set_cons_zero, List.set_cons_succ]
          refine AnyK.take 3 (some 205) rfl rfl (by kernel_rfl) (by kernel_rfl) (by kernel_rfl) (fun _ _ _ h => nomatch h.1) (v := _) (.inl ⟨by rfl, fun W hW => by first | (go_simp; done) | (go_simp; rfl)⟩) ?_
          simp only [Act.put, List.setIfInBounds_toArray, List.set_cons_zero, List.set_cons_succ]
          refine AnyK.take 4 (some 209) rfl rfl (by kernel_rfl) (by kernel_rfl) (by kernel_rfl) (fun _ _ _ h => nomatch h.1) (v := _) (.inl ⟨by rfl, fun W hW => by first | (go_simp; done) | (go_simp; rfl)⟩) ?_
          simp only [Act.put, List.setIfInBounds_toArray, List.set_cons_zero, List.set_cons_succ]
          refine AnyK.take 5 (some 210) rfl rfl (by kernel_rfl) (by kernel_rfl) (by kernel_rfl) (fun _ _ _ h => nomatch h.1) (v := _) (.inl ⟨by rfl, fun W hW => by first | (go_simp; done) | (go_simp; rfl)⟩) ?_
          simp only [Act.put, List.setIfInBounds_toArray, List.set_cons_zero, List.set_cons_succ]
          refine AnyK.ready [7] (by kernel_rfl) (by simp) ?_
          refine steps_cons ?_ ?_
          · refine StepK.store 0 (i := 7) rfl rfl rfl 24 _ _ rfl rfl rfl rfl (infoW _) rfl (oneW _) ?_
            refine AnyK.take 8 (some 29) rfl rfl (by kernel_rfl) (by kernel_rfl) (by kernel_rfl) (fun _ _ _ h => nomatch h.1) (v := _) (.inl ⟨by rfl, fun W hW => by first | (go_simp; done) | (go_simp; rfl)⟩) ?_
            simp only [Act.put, List.setIfInBounds_toArray, List.set_cons_zero, List.set_cons_succ]
            refine AnyK.done (by kernel_rfl) ?_
            intro W hW
            exact ⟨rfl, g6, rfl, hW⟩
          exact steps_nil
        exact steps_nil
      exact steps_nil
    refine steps_cons ?_ ?_
    · refine StepK.alloc (i := 6) (some 28) rfl rfl rfl (fun W => by go_simp; rfl) (fun g6 => ?_)
      simp only [Act.put, List.setIfInBounds_toArray, List.set_cons_zero, List.set_cons_succ]
      refine AnyK.ready [0] (by kernel_rfl) (by simp) ?_
      refine steps_cons ?_ ?_
      · refine StepK.call (i := 0) (some 206) rfl rfl rfl (fun W => by go_simp) MO.out ?_
        simp only [Act.put, List.setIfInBounds_toArray, List.set_cons_zero, List.set_cons_succ]
        refine AnyK.ready [2] (by kernel_rfl) (by simp) ?_
        refine steps_cons ?_ ?_
        · refine StepK.call (i := 2) (some 208) rfl rfl rfl (fun W => by go_simp) U1.out ?_
          simp only [Act.put, List.setIfInBounds_toArray, List.set_cons_zero, List.set_cons_succ]
          refine AnyK.take 3 (some 205) rfl rfl (by kernel_rfl) (by kernel_rfl) (by kernel_rfl) (fun _ _ _ h => nomatch h.1) (v := _) (.inl ⟨by rfl, fun W hW => by first | (go_simp; done) | (go_simp; rfl)⟩) ?_
          simp only [Act.put, List.setIfInBounds_toArray, List.set_cons_zero, List.set_cons_succ]
          refine AnyK.take 4 (some 209) rfl rfl (by kernel_rfl) (by kernel_rfl) (by kernel_rfl) (fun _ _ _ h => nomatch h.1) (v := _) (.inl ⟨by rfl, fun W hW => by first | (go_simp; done) | (go_simp; rfl)⟩) ?_
          simp only [Act.put, List.setIfInBounds_toArray, List.set_cons_zero, List.set_cons_succ]
          refine AnyK.take 5 (some 210) rfl rfl (by kernel_rfl) (by kernel_rfl) (by kernel_rfl) (fun _ _ _ h => nomatch h.1) (v := _) (.inl ⟨by rfl, fun W hW => by first | (go_simp; done) | (go_simp; rfl)⟩) ?_
          simp only [Act.put, List.setIfInBounds_toArray, List.set_cons_zero, List.set_cons_succ]
          refine AnyK.ready [7] (by kernel_rfl) (by simp) ?_
          refine steps_cons ?_ ?_
          · refine StepK.store 0 (i := 7) rfl rfl rfl 24 _ _ rfl rfl rfl rfl (infoW _) rfl (oneW _) ?_
            refine AnyK.take 8 (some 29) rfl rfl (by kernel_rfl) (by kernel_rfl) (by kernel_rfl) (fun _ _ _ h => nomatch h.1) (v := _) (.inl ⟨by rfl, fun W hW => by first | (go_simp; done) | (go_simp; rfl)⟩) ?_
            simp only [Act.put, List.setIfInBounds_toArray, List.set_cons_zero, List.set_cons_succ]
            refine AnyK.done (by kernel_rfl) ?_
            intro W hW
            exact ⟨rfl, g6, rfl, hW⟩
          exact steps_nil
        exact steps_nil
      exact steps_nil
    exact steps_nil
  clear hH
  rintro g2 W2 hH
  simp only [List.nil_append, List.cons_append, List.set_cons_zero, List.set_cons_succ] at hH
  go_wp2_with fail
  refine wp_region_class (C := Keeps w _) (by kernel_rfl) (by kernel_rfl) hH.drew ?_
  (first | (go_big_quiet_want; go_big_quiet_op; go_big_quiet_on) | (refine wpQuiet_step (fun K hK => ?_); go_simp; (first | refine hK _ ?_ | refine ⟨_, fun _ _ => rfl, hK _ ?_⟩); clear hK K))
  (refine wpQuiet_step (fun K hK => ?_); go_simp; refine ⟨_, fun W hW => (AL.out W).mono fun _ _ h => ⟨h.1, hW.call h.2⟩, hK _ ?_⟩; clear hK K)
  (refine wpQuiet_step (fun K hK => ?_); go_simp; (first | refine hK _ ?_ | refine ⟨_, fun _ _ => rfl, hK _ ?_⟩); clear hK K)
  (first | (go_big_quiet_want; go_big_quiet_op; go_big_quiet_on) | (refine wpQuiet_step (fun K hK => ?_); go_simp; (first | refine hK _ ?_ | refine ⟨_, fun _ _ => rfl, hK _ ?_⟩); clear hK K))
  (first | (go_big_quiet_want; go_big_quiet_op; go_big_quiet_on) | (refine wpQuiet_step (fun K hK => ?_); go_simp; (first | refine hK _ ?_ | refine ⟨_, fun _ _ => rfl, hK _ ?_⟩); clear hK K))
  (refine wpQuiet_step (fun K hK => ?_); go_simp; (first | refine hK _ ?_ | refine ⟨_, fun _ _ => rfl, hK _ ?_⟩); clear hK K)
  (first | (go_big_quiet_want; go_big_quiet_op; go_big_quiet_on) | (refine wpQuiet_step (fun K hK => ?_); go_simp; (first | refine hK _ ?_ | refine ⟨_, fun _ _ => rfl, hK _ ?_⟩); clear hK K))
  (first | (go_big_quiet_want; go_big_quiet_op; go_big_quiet_on) | (refine wpQuiet_step (fun K hK => ?_); go_simp; (first | refine hK _ ?_ | refine ⟨_, fun _ _ => rfl, hK _ ?_⟩); clear hK K))
  (refine wpQuiet_step (fun K hK => ?_); go_simp; (first | refine hK _ ?_ | refine ⟨_, fun _ _ => rfl, hK _ ?_⟩); clear hK K)
  (first | (go_big_quiet_want; go_big_quiet_op; go_big_quiet_on) | (refine wpQuiet_step (fun K hK => ?_); go_simp; (first | refine hK _ ?_ | refine ⟨_, fun _ _ => rfl, hK _ ?_⟩); clear hK K))
  (first | (go_big_quiet_want; go_big_quiet_op; go_big_quiet_on) | (refine wpQuiet_step (fun K hK => ?_); go_simp; (first | refine hK _ ?_ | refine ⟨_, fun _ _ => rfl, hK _ ?_⟩); clear hK K))
  (refine wpQuiet_step (fun K hK => ?_); go_simp; (first | refine hK _ ?_ | refine ⟨_, fun _ _ => rfl, hK _ ?_⟩); clear hK K)
  (first | (go_big_quiet_want; go_big_quiet_op; go_big_quiet_on) | (refine wpQuiet_step (fun K hK => ?_); go_simp; (first | refine hK _ ?_ | refine ⟨_, fun _ _ => rfl, hK _ ?_⟩); clear hK K))
  refine quiet_box 15 rfl 24 _ rfl rfl rfl _ Try.underlying24 rfl (infoW _) ?_
  (refine wpQuiet_step (fun K hK => ?_); go_simp; refine ⟨_, fun W hW => (O1.out W).mono fun _ _ h => ⟨h.1, hW.call h.2⟩, hK _ ?_⟩; clear hK K)
  (refine wpQuiet_step (fun K hK => ?_); go_simp; (first | refine hK _ ?_ | refine ⟨_, fun _ _ => rfl, hK _ ?_⟩); clear hK K)
  (refine wpQuiet_step (fun K hK => ?_); go_simp; (first | refine hK _ ?_ | refine ⟨_, fun _ _ => rfl, hK _ ?_⟩); clear hK K)
  (first | (go_big_quiet_want; go_big_quiet_op; go_big_quiet_on) | (refine wpQuiet_step (fun K hK => ?_); go_simp; (first | refine hK _ ?_ | refine ⟨_, fun _ _ => rfl, hK _ ?_⟩); clear hK K))
  refine quiet_box 16 rfl 24 _ rfl rfl rfl _ Try.underlying24 rfl (infoW _) ?_
  refine quiet_box 17 rfl 24 _ rfl rfl rfl _ Try.underlying24 rfl (infoW _) ?_
  (refine wpQuiet_step (fun K hK => ?_); go_simp; (first | refine hK _ ?_ | refine ⟨_, fun _ _ => rfl, hK _ ?_⟩); clear hK K)
  (refine wpQuiet_step (fun K hK => ?_); go_simp; (first | refine hK _ ?_ | refine ⟨_, fun _ _ => rfl, hK _ ?_⟩); clear hK K)
  (first | (go_big_quiet_want; go_big_quiet_op; go_big_quiet_on) | (refine wpQuiet_step (fun K hK => ?_); go_simp; (first | refine hK _ ?_ | refine ⟨_, fun _ _ => rfl, hK _ ?_⟩); clear hK K))
  (first | (go_big_quiet_want; go_big_quiet_op; go_big_quiet_on) | (refine wpQuiet_step (fun K hK => ?_); go_simp; (first | refine hK _ ?_ | refine ⟨_, fun _ _ => rfl, hK _ ?_⟩); clear hK K))
  (refine wpQuiet_step (fun K hK => ?_); go_simp; (first | refine hK _ ?_ | refine ⟨_, fun _ _ => rfl, hK _ ?_⟩); clear hK K)
  (refine wpQuiet_step (fun K hK => ?_); go_simp; (first | refine hK _ ?_ | refine ⟨_, fun _ _ => rfl, hK _ ?_⟩); clear hK K)
  (first | (go_big_quiet_want; go_big_quiet_op; go_big_quiet_on) | (refine wpQuiet_step (fun K hK => ?_); go_simp; (first | refine hK _ ?_ | refine ⟨_, fun _ _ => rfl, hK _ ?_⟩); clear hK K))
  refine quiet_box 6 rfl 24 _ rfl rfl rfl _ Try.underlying24 rfl (infoW _) ?_
  (refine wpQuiet_step (fun K hK => ?_); go_simp; refine ⟨_, fun W hW => (MO.out W).mono fun _ _ h => ⟨h.1, hW.call h.2⟩, hK _ ?_⟩; clear hK K)
  (refine wpQuiet_step (fun K hK => ?_); go_simp; refine ⟨_, fun W hW => (K1.out W).mono fun _ _ h => ⟨h.1, hW.call h.2⟩, hK _ ?_⟩; clear hK K)
  (refine wpQuiet_step (fun K hK => ?_); go_simp; (first | refine hK _ ?_ | refine ⟨_, fun _ _ => rfl, hK _ ?_⟩); clear hK K)
  (refine wpQuiet_step (fun K hK => ?_); go_simp; (first | refine hK _ ?_ | refine ⟨_, fun _ _ => rfl, hK _ ?_⟩); clear hK K)
  (first | (go_big_quiet_want; go_big_quiet_op; go_big_quiet_on) | (refine wpQuiet_step (fun K hK => ?_); go_simp; (first | refine hK _ ?_ | refine ⟨_, fun _ _ => rfl, hK _ ?_⟩); clear hK K))
  refine quiet_box 6 rfl 24 _ rfl rfl rfl _ Try.underlying24 rfl (infoW _) ?_
  refine quiet_box 6 rfl 24 _ rfl rfl rfl _ Try.underlying24 rfl (infoW _) ?_
  (refine wpQuiet_step (fun K hK => ?_); go_simp; refine ⟨_, fun W hW => (K2.out W).mono fun _ _ h => ⟨h.1, hW.call h.2⟩, hK _ ?_⟩; clear hK K)
  (refine wpQuiet_step (fun K hK => ?_); go_simp; (first | refine hK _ ?_ | refine ⟨_, fun _ _ => rfl, hK _ ?_⟩); clear hK K)
  (refine wpQuiet_step (fun K hK => ?_); go_simp; (first | refine hK _ ?_ | refine ⟨_, fun _ _ => rfl, hK _ ?_⟩); clear hK K)
  (first | (go_big_quiet_want; go_big_quiet_op; go_big_quiet_on) | (refine wpQuiet_step (fun K hK => ?_); go_simp; (first | refine hK _ ?_ | refine ⟨_, fun _ _ => rfl, hK _ ?_⟩); clear hK K))
  (refine wpQuiet_step (fun K hK => ?_); go_simp; (first | refine hK _ ?_ | refine ⟨_, fun _ _ => rfl, hK _ ?_⟩); clear hK K)
  (refine wpQuiet_step (fun K hK => ?_); go_simp; refine ⟨_, fun W hW => (NT.out W).mono fun _ _ h => ⟨h.1, hW.call h.2⟩, hK _ ?_⟩; clear hK K)
  (refine wpQuiet_step (fun K hK => ?_); go_simp; refine ⟨_, fun W hW => (MO.out W).mono fun _ _ h => ⟨h.1, hW.call h.2⟩, hK _ ?_⟩; clear hK K)
  (refine wpQuiet_step (fun K hK => ?_); go_simp; (first | refine hK _ ?_ | refine ⟨_, fun _ _ => rfl, hK _ ?_⟩); clear hK K)
  (refine wpQuiet_step (fun K hK => ?_); go_simp; (first | refine hK _ ?_ | refine ⟨_, fun _ _ => rfl, hK _ ?_⟩); clear hK K)
  (first | (go_big_quiet_want; go_big_quiet_op; go_big_quiet_on) | (refine wpQuiet_step (fun K hK => ?_); go_simp; (first | refine hK _ ?_ | refine ⟨_, fun _ _ => rfl, hK _ ?_⟩); clear hK K))
  refine wpQuiet_nil ?_
  clear hH
  intro W hH
  go_wp2
  go_ret
  exact ⟨rfl, hH.bel⟩

end Go.Proofs.Ytgmgejjlhlibkaa
