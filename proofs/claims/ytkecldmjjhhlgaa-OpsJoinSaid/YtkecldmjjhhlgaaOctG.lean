/- The contracts of an eye's methods. No condition beyond the memory's reach. -/
import Derived.Test.YtkecldmjjhhlgaaOctF
namespace Go.Proofs.Ytkecldmjjhhlgaa.Oct
open Go.Proofs.Ytkecldmjjhhlgaa Go.RowKit Go.Shelf

/-- The compact size at the beginning of bytes: number, length, is it one. -/
def szOf (bs : List UInt8) : Nat × Nat × Bool :=
  match bs with
  | [] => (0, 0, false)
  | x :: l => if (x :: l).length < annL x then (0, 0, false) else if annL x = 1 then (x.toNat, 1, true) else (leNum (l.take (annL x - 1)), annL x, cmpL (leNum (l.take (annL x - 1))) == annL x)
theorem annL_cases (x : UInt8) : annL x = 1 ∨ annL x = 3 ∨ annL x = 5 ∨ annL x = 9 := by unfold annL; (repeat' split) <;> simp
theorem holds_mid {n₀ : Nat} {W : World} {b off : Nat} {x : UInt8} {l : List UInt8} (h : Holds8 n₀ W (some ⟨b, off, none⟩) (x :: l)) (k : Nat) (hk : k ≤ l.length) : Holds8 n₀ W (some ⟨b, off + 1, none⟩) (l.take k) := by
  rcases h with ⟨e, _⟩ | ⟨b', off', e, hb, hc⟩
  · cases e
  · injection e with e
    injection e with e1 e2
    subst e1 e2
    refine .inr ⟨b, off + 1, rfl, hb, fun j hj => ?_⟩
    rw [List.length_take] at hj
    have := hc (j + 1) (by simp; omega)
    rw [show off + 1 + j = off + (j + 1) by omega, this]
    simp

end Go.Proofs.Ytkecldmjjhhlgaa.Oct
