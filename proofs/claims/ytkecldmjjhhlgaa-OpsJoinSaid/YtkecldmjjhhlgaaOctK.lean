/- purserlaw01.alive. No condition. -/
import Derived.Test.YtkecldmjjhhlgaaOctJ
namespace Go.Proofs.Ytkecldmjjhhlgaa.Oct
open Go.Proofs.Ytkecldmjjhhlgaa Go.RowKit Go.Shelf

/-- A literal of bytes, laid and marked. -/
def laid (w : World) (bs : List UInt8) : World := (w.alloc (.cells (vals bs).toArray 5)).freeze ⟨w.heap.size, bs.length, none⟩ 1
theorem heap_freeze (W : World) (g n : Nat) (cs : Array Value) (hh : W.heap[g]? = some (.cells cs 5 (0, 0))) : (W.freeze ⟨g, n, none⟩ 1).heap[g]? = some (.cells cs 5 (n, n + 1)) := by
  unfold World.freeze
  simp only [Nat.succ_ne_self, if_false, Array.getElem?_modify, if_true, hh]
  simp
theorem conv_mark (W : World) (g k c : Nat) (cs : Array Value) (hh : W.heap[g]? = some (.cells cs 5 (0, 0))) : (convert 22 22 (.slice (some ⟨g, 0, none⟩) k c)).run Try.prog W = .ok (.slice (some ⟨g, 0, none⟩) k c) (W.freeze ⟨g, cs.size, none⟩ 1) := by
  unfold convert markStringish
  simp [run_underlying Try.underlying22, run_underlying Try.underlying5, World.shape?, hh]
theorem laid_conv (w : World) (bs : List UInt8) (cs : Array Value) (hc : cs = (vals bs).toArray) (n : Nat) : (convert 22 22 (.slice (some ⟨w.heap.size, 0, none⟩) n n)).run Try.prog (w.alloc (.cells cs 5)) = .ok (.slice (some ⟨w.heap.size, 0, none⟩) n n) (laid w bs) := by
  subst hc
  rw [conv_mark _ w.heap.size n n (vals bs).toArray (heap_alloc_new w _)]
  unfold laid
  rw [show (vals bs).toArray.size = bs.length by simp [vals]]
theorem laid_size (w : World) (bs : List UInt8) : (laid w bs).heap.size = w.heap.size + 1 := by
  unfold laid World.freeze
  simp
theorem laid_below (w : World) (bs : List UInt8) : Below w.heap.size w (laid w bs) := by
  refine ((Below.refl _ w).alloc (Nat.le_refl _) (.cells (vals bs).toArray 5)).trans ?_
  unfold laid World.freeze
  exact ⟨rfl, rfl, rfl, by simp, fun k hk => by
    simp only [Nat.succ_ne_self, if_false, Array.getElem?_modify]
    rw [if_neg (by omega)]⟩
theorem laid_holds (w : World) (bs : List UInt8) : Holds8 (laid w bs).heap.size (laid w bs) (some ⟨w.heap.size, 0, none⟩) bs := by
  refine .inr ⟨w.heap.size, 0, rfl, by rw [laid_size]; omega, fun j hj => ?_⟩
  rw [Nat.zero_add, cell_of_row (laid w bs) w.heap.size j (vals bs).toArray 5 (bs.length, bs.length + 1) (heap_freeze _ _ _ _ (heap_alloc_new w _))]
  simpa using vals_get bs j hj

end Go.Proofs.Ytkecldmjjhhlgaa.Oct
