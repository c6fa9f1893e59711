/- The contracts of a pen's methods. No condition beyond the memory's reach. -/
import Derived.Test.YtkecldmjjhhlgaaOctB
import Derived.Test.YtkecldmjjhhlgaaReg3
import Derived.Deep.RegionWith
namespace Go.Proofs.Ytkecldmjjhhlgaa.Oct
open Go.Proofs.Ytkecldmjjhhlgaa Go.RowKit Go.Shelf

/-- append(s, x...), as a step of a walk. -/
theorem wpList_append_bytes {ops : Array Oper} {rest : List Oper} {o : Oper} {a : Act} {Q : Exit → Act → World → Prop} {w : World} (hgd : o.guard = none) (s x : Operand)
    (ho : o.op = .call { callee := .builtin .append, args := #[s, x], argTypes := #[22, 22] }) (base n₀ : Nat) (v : Value) (xs bs : List UInt8) (hs : a.eval s = v) (hown : w.ownsRow base 5 1 v xs.length (vals xs))
    (A : Option Addr) (c : Nat) (hx : a.eval x = .slice A bs.length c) (hh : Holds8 n₀ w A bs) (hl : xs.length + bs.length ≤ 140737488355328) (hbase : base ≤ w.heap.size)
    (h : ∀ v' w', w'.ownsRow base 5 1 v' (xs ++ bs).length (vals (xs ++ bs)) → w.grownBy w' v.ownBlock → (v'.ownBlock = v.ownBlock ∨ v'.ownBlock = some w.heap.size) → wpList Try.prog ops Q rest (a.put o.dst v') w') : wpList Try.prog ops Q (o :: rest) a w := by
  obtain ⟨v', w', hr, h2, h3, h4⟩ := append_run w o.type base n₀ v xs bs hown A c hh hl hbase
  refine wpList_plain hgd fun K hK => ?_
  unfold Oper.wp execOp
  simp only [ho, resolve, invoke, builtin, Sem.run_bind, Sem.run_pure, Result.andThen_ok, List.map_toArray, List.map_cons, List.map_nil, hs, hx, hr]
  exact hK _ _ (h v' w' h2 h3 h4)
/-- One byte, laid in a block of its own. -/
theorem holds_one (w : World) (y : UInt8) : Holds8 (w.alloc (.cells #[.int .u8 (y.toNat : Int)] 5)).heap.size (w.alloc (.cells #[.int .u8 (y.toNat : Int)] 5)) (some ⟨w.heap.size, 0, none⟩) [y] := by
  refine .inr ⟨w.heap.size, 0, rfl, by simp, fun j hj => ?_⟩
  have : j = 0 := by simpa using hj
  subst this
  rw [cell_of_row _ _ _ _ _ _ (heap_alloc_new w _)]
  rfl
def fixedE (s : Int) (x : Nat) : Int := if sizeOkB s = true then (if 256 ^ s.toNat ≤ x then 10 else 0) else 2
def fixedB (s : Int) (x : Nat) : List UInt8 := if sizeOkB s = true then (if 256 ^ s.toNat ≤ x then [] else leB s.toNat x) else []
theorem sizeOk_cases {s : Int} (h : sizeOkB s = true) : ∃ k : Nat, s = (k : Int) ∧ (k = 1 ∨ k = 2 ∨ k = 4 ∨ k = 8) := by
  unfold sizeOkB at h
  simp only [Bool.or_eq_true, beq_iff_eq] at h
  refine ⟨s.toNat, by omega, by omega⟩
end Go.Proofs.Ytkecldmjjhhlgaa.Oct
