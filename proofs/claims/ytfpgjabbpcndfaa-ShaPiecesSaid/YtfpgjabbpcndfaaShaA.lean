/- Contracts of sha.turned and of the tables of constants. A word is below 2^32, and is turned by 1 to 31 places. -/
import Derived.Test.YtfpgjabbpcndfaaRows
import Derived.Test.YtfpgjabbpcndfaaKit
import Derived.Test.YtfpgjabbpcndfaaShaP
import Derived.WalkSpells
import Derived.WalkLawsBesides
import Derived.Lib.Hide
import Derived.RegionTactic
import Derived.BigRegion
import Derived.ChangeAlike
import Derived.Laws.BitsAllLaws
import Derived.WalkSmall
import Derived.Deep.Draws
namespace Go.Proofs.Ytfpgjabbpcndfaa
section
variable {W0 W : World} {l : List (Nat × Array Value × TypeId)}
theorem Keeps.cell (h : Keeps W0 l W) (k : Nat) {g : Nat} {cs : Array Value} {t : TypeId} (hk : l[k]? = some (g, cs, t)) (i : Nat) : W.cell? ⟨g, i, none⟩ = cs[i]? := cell_of_row W g i cs t (0, 0) (h.get k hk)
theorem Keeps.frozen (h : Keeps W0 l W) (k : Nat) {g : Nat} {cs : Array Value} {t : TypeId} (hk : l[k]? = some (g, cs, t)) (i : Nat) : W.frozen? ⟨g, i, none⟩ = false := frozen_of_row W g i cs t (h.get k hk)
theorem Keeps.setc (h : Keeps W0 l W) (k : Nat) {g : Nat} {cs : Array Value} {t : TypeId} (hk : l[k]? = some (g, cs, t)) (i : Nat) (v : Value) : Keeps W0 (l.set k (g, cs.setIfInBounds i v, t)) (W.setCell ⟨g, i, none⟩ v) := by
  rw [setCell_eq_setRow W g i cs t (0, 0) v (h.get k hk)]
  exact h.put k hk _
theorem Keeps.drewN (h : Keeps W0 l W) (n : Nat) : Keeps W0 l (W.drewN n) := ⟨h.rows, h.base, h.apart, below_drewN h.bel n⟩
end
/-- An element of an array of integers, by its number. -/
theorem run_index_arr {P : Program} {t e : TypeId} {kd : IntKind} {n : Nat} {cs : Array Value} {i : Nat} {v : Value} (ht : P.underlying t = some (.array n e)) (he : P.underlying e = some (.int kd)) (hs : (P.info? e).map (·.size) = some 1) (hi : i < n) (hv : cs[i]? = some v) (w : World) :
    (Instr.index t (.agg cs) (.int .i64 i)).run P w = .ok v w := by
  have hsz : (sizeOf e).run P w = .ok 1 w := by
    cases hq : P.info? e with
    | none => simp [hq] at hs
    | some i => simp [hq] at hs; simp [sizeOf, typeInfo, hq, hs]
  have h1 : (0 : Int) ≤ (i : Int) ∧ (i : Int) < (n : Int) := by omega
  have hp := run_part_int (P := P) w e kd cs i he v hv
  unfold Instr.index
  simp only [asIntOf, Sem.run_bind, Sem.run_pure, Result.andThen_ok, run_underlying ht, if_pos h1, hsz, Nat.mul_one, Int.toNat_natCast, hp]
end Go.Proofs.Ytfpgjabbpcndfaa
namespace Go.Proofs.Ytfpgjabbpcndfaa.Oct
set_option linter.unusedVariables false
set_option linter.unusedSimpArgs false
open Go.Proofs.Ytfpgjabbpcndfaa Go.RowKit Go.Lib

def v32 (x : Nat) : Value := .int .u32 (x : Int)
def vals32 (l : List Nat) : Array Value := (l.map v32).toArray

theorem ret_u32 {a b : Int} (h : a = b) : Ending.returned (.int .u32 a) = .returned (.int .u32 b) := by rw [h]

set_option maxHeartbeats 1000000 in
theorem rotl_any (x n : Nat) (hx : x < 4294967296) (h1 : 1 ≤ n) (h2 : n ≤ 31) (w : World) :
    Calls Try.prog 35 #[.int .u32 x, .int .i64 (-(n : Int))] w fun e w' => e = .returned (.int .u32 (rot x n)) ∧ w = w' := by
  have e1 : bits .and .u64 (IntKind.u64.wrap (-(n : Int))) 31 = ((32 - n : Nat) : Int) := by
    rw [IntKind.wrap_u64, show (-(n : Int)) % 18446744073709551616 = ((18446744073709551616 - n : Nat) : Int) by omega, show (31 : Int) = ((31 : Nat) : Int) by rfl, u64_and_nat _ _ (by omega) (by omega), nat_mask5]
    omega
  go_enter Try.func35, Try.ntmps35
  go_wp2
  go_ret
  refine ⟨ret_u32 ?_, rfl⟩
  rw [show 32 - (32 - n) = n by omega]
  unfold rot
  rw [← u32_or_nat _ _ (Nat.mod_lt _ (by decide)) (Nat.lt_of_le_of_lt (Nat.div_le_self _ _) hx)]
  simp only [Int.natCast_emod, Int.natCast_mul, Int.natCast_pow, Int.natCast_ediv]
  rfl

theorem turned_any (x n : Nat) (hx : x < 4294967296) (h1 : 1 ≤ n) (h2 : n ≤ 31) (w : World) :
    Calls Try.prog 34 #[.int .u32 x, .int .i64 n] w fun e w' => e = .returned (.int .u32 (rot x n)) ∧ w = w' := by
  go_enter Try.func34, Try.ntmps34
  go_wp2_with (go_at_call 35; refine (rotl_any x n hx h1 h2 _).mono ?_; rintro e w' ⟨rfl, rfl⟩)
  go_ret
  exact ⟨rfl, rfl⟩

theorem turned_z (x : Nat) (z : Int) (hx : x < 4294967296) (h1 : 1 ≤ z) (h2 : z ≤ 31) (w : World) :
    Calls Try.prog 34 #[.int .u32 x, .int .i64 z] w fun e w' => e = .returned (.int .u32 (rot x z.toNat)) ∧ w = w' := by
  have h := turned_any x z.toNat hx (by omega) (by omega) w
  rw [Int.toNat_of_nonneg (by omega)] at h
  exact h

/-- A state's words, as cells. -/
def stc (s : St) : Array Value := #[v32 s.a, v32 s.b, v32 s.c, v32 s.d, v32 s.e, v32 s.f, v32 s.g, v32 s.h]
theorem info8 (s : St) : (Try.prog.info? 45).map (·.size) = some (stc s).size := by kernel_rfl
theorem one8 (s : St) : (stc s).all (·.oneCell') = true := by simp [stc, v32, Value.oneCell']
theorem vals32_size (l : List Nat) : (vals32 l).size = l.length := by simp [vals32]
theorem info64 (l : List Nat) (h : l.length = 64) : (Try.prog.info? 57).map (·.size) = some (vals32 l).size := by
  rw [vals32_size, h]
  kernel_rfl
theorem one32 (l : List Nat) : (vals32 l).all (·.oneCell') = true := by simp [vals32, v32, Value.oneCell']

section
variable {P : Program} {ops : Array Oper} {Q : Exit → Act → World → Prop} {rest : List Oper} {o : Oper} {a : Act} {w w' : World}
/-- A step whose value is known. -/
theorem wpList_run {v : Value} (hgd : o.guard = none) (hr : (execOp a.eval o).run P w = .ok (.value v) w') (h : wpList P ops Q rest (a.put o.dst v) w') : wpList P ops Q (o :: rest) a w :=
  wpList_plain hgd fun _ hK => by
    unfold Oper.wp
    rw [hr]
    exact hK _ _ h
theorem wpList_build (hgd : o.guard = none) (ty : TypeId) (parts : Array (Nat × Operand)) (ho : o.op = .build ty parts) {v : Value} (hr : (execOp a.eval o).run P w = .ok (.value v) w) (h : wpList P ops Q rest (a.put o.dst v) w) : wpList P ops Q (o :: rest) a w :=
  wpList_run hgd hr h
theorem wpList_alloc (hgd : o.guard = none) (ty : TypeId) (ho : o.op = .alloc ty) {z : Array Value} (hr : (execOp a.eval o).run P w = .ok (.value (.pointer (some ⟨w.heap.size, 0, none⟩))) (w.alloc (.cells z ty)))
    (h : wpList P ops Q rest (a.put o.dst (.pointer (some ⟨w.heap.size, 0, none⟩))) (w.alloc (.cells z ty))) : wpList P ops Q (o :: rest) a w :=
  wpList_run hgd hr h
end
theorem vals32_set (l : List Nat) (i x : Nat) : (vals32 l).setIfInBounds i (v32 x) = vals32 (l.set i x) := by
  unfold vals32
  simp [List.map_set]
theorem vals32_get (l : List Nat) (i : Nat) (h : i < l.length) : (vals32 l)[i]? = some (v32 (l.getD i 0)) := by
  unfold vals32
  simp [List.getD, h]

def zero64 : List Nat := List.replicate 64 0
theorem zero64_length : zero64.length = 64 := by simp [zero64]

set_option maxHeartbeats 1000000 in
theorem squares_any (w : World) : Calls Try.prog 24 #[] w fun e w' => e = .returned (.agg (stc squ)) ∧ Below w.heap.size w w' := by
  have hH := Keeps.nil w
  go_enter Try.func24, Try.ntmps24
  go_wp2_with (first | (refine wpList_build rfl 45 _ rfl (v := .agg (stc squ)) (by kernel_rfl) ?_) | (refine wpList_fill hH rfl 45 _ _ rfl rfl rfl (info8 _) rfl (one8 _) ?_; clear hH; intro W1 hH))
  refine bodyPost_ret (v := .agg (stc squ)) ?_ rfl ⟨rfl, hH.bel⟩
  exact results_cell_row rfl _ _ w.heap.size 45 (stc squ) (0, 0) _ rfl (hH.get 0 rfl) Try.underlying45 rfl (info8 _)

set_option maxRecDepth 100000 in
set_option maxHeartbeats 1000000 in
theorem cubes_any (w : World) : Calls Try.prog 33 #[] w fun e w' => e = .returned (.agg (vals32 cub)) ∧ Below w.heap.size w w' := by
  have hH := Keeps.nil w
  go_enter Try.func33, Try.ntmps33
  go_wp2_with (first | (refine wpList_alloc rfl 57 rfl (z := vals32 zero64) (by kernel_rfl) ?_) | (refine wpList_build rfl 57 _ rfl (v := .agg (vals32 cub)) (by kernel_rfl) ?_) | (refine wpList_fill hH rfl 57 _ _ rfl rfl rfl (info64 _ cub_length) (by rw [vals32_size, vals32_size, zero64_length, cub_length]) (one32 _) ?_; clear hH; intro W1 hH))
  refine bodyPost_ret (v := .agg (vals32 cub)) ?_ rfl ⟨rfl, hH.bel⟩
  exact results_cell_row rfl _ _ w.heap.size 57 (vals32 cub) (0, 0) _ rfl (hH.get 0 rfl) Try.underlying57 rfl (info64 _ cub_length)
end Go.Proofs.Ytfpgjabbpcndfaa.Oct
