/- The contracts of purserref01.Size and Bytes. No condition beyond the memory's reach. -/
import Derived.Test.YtkecldmjjhhlgaaRefA
import Derived.Test.YtkecldmjjhhlgaaOctS
namespace Go.Proofs.Ytkecldmjjhhlgaa.Oct
open Go.Proofs.Ytkecldmjjhhlgaa Go.RowKit Go.Shelf

theorem own_one (W : World) (base : Nat) (hb : base ≤ W.heap.size) (y : UInt8) : (W.alloc (.cells #[.int .u8 (y.toNat : Int)] 5)).ownsRow base 5 1 (.slice (some ⟨W.heap.size, 0, none⟩) 1 1) [y].length (vals [y]) :=
  ⟨rfl, .inr ⟨W.heap.size, 1, #[.int .u8 (y.toNat : Int)], rfl, hb, heap_alloc_new W _, Nat.le_refl _, by decide, rfl, rfl⟩⟩
theorem leB_one (x : Nat) (h : x < 253) : leB 1 x = [UInt8.ofNat x] := by
  unfold leB leB
  congr 1
  apply UInt8.toNat.inj
  simp
theorem fixed_size (s : Nat) (x : Nat) (hs : s = 2 ∨ s = 4 ∨ s = 8) (hx : x < 256 ^ s) : fixedB (s : Int) x = leB s x := by
  unfold fixedB
  rw [if_pos (by rcases hs with rfl | rfl | rfl <;> decide), if_neg (by simp; omega)]
  simp
end Go.Proofs.Ytkecldmjjhhlgaa.Oct
