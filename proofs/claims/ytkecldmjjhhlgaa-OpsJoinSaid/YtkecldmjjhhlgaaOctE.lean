/- The contracts of a pen's Raw and Bytes. No condition beyond the memory's reach. -/
import Derived.Test.YtkecldmjjhhlgaaOctD
namespace Go.Proofs.Ytkecldmjjhhlgaa.Oct
open Go.Proofs.Ytkecldmjjhhlgaa Go.RowKit Go.Shelf

/-- A block that is none of the pen's. -/
def Out (W : World) (b k : Nat) : Prop := k < W.heap.size ∧ k ≠ b ∧ rowOf W b ≠ some k
theorem Out.step {W W' : World} {b k : Nat} (h : Out W b k) (hs : PenStep b W W') : Out W' b k ∧ W'.heap[k]? = W.heap[k]? :=
  ⟨⟨Nat.lt_of_lt_of_le h.1 hs.size, h.2.1, (hs.keep k h.1 h.2.1 h.2.2).2⟩, (hs.keep k h.1 h.2.1 h.2.2).1⟩
theorem Out.below {W W' : World} {b k : Nat} (h : Out W b k) (hb : b < W.heap.size) (hs : Below W.heap.size W W') : Out W' b k := (h.step (PenStep.of_below hb hs)).1
/-- Bytes that are none of the pen's. -/
def Apart8 (W : World) (b : Nat) (A : Option Addr) (bs : List UInt8) : Prop := Holds8 W.heap.size W A bs ∧ ∀ a, A = some a → Out W b a.block
theorem Apart8.step {W W' : World} {b : Nat} {A : Option Addr} {bs : List UInt8} (h : Apart8 W b A bs) (hs : PenStep b W W') : Apart8 W' b A bs :=
  ⟨(hs.holds h.1 fun a e => by have := h.2 a e; exact ⟨this.1, this.2.1, this.2.2⟩).more hs.size, fun a e => ((h.2 a e).step hs).1⟩
theorem Apart8.below {W W' : World} {b : Nat} {A : Option Addr} {bs : List UInt8} (h : Apart8 W b A bs) (hb : b < W.heap.size) (hs : Below W.heap.size W W') : Apart8 W' b A bs := h.step (PenStep.of_below hb hs)
def flat (ps : List (Option Addr × List UInt8 × Nat)) : List UInt8 := (ps.map fun p => p.2.1).flatten
theorem flat_snoc (ps : List (Option Addr × List UInt8 × Nat)) (k : Nat) (hk : k < ps.length) : flat (ps.take (k + 1)) = flat (ps.take k) ++ ps[k].2.1 := by
  unfold flat
  rw [List.take_succ_eq_append_getElem hk, List.map_append, List.flatten_append]
  simp only [List.map_cons, List.map_nil, List.flatten_cons, List.flatten_nil, List.append_nil]
theorem flat_take_le (ps : List (Option Addr × List UInt8 × Nat)) (k : Nat) : (flat (ps.take k)).length ≤ (flat ps).length := by
  conv => rhs; rw [← List.take_append_drop k ps]
  unfold flat
  simp only [List.map_append, List.flatten_append, List.length_append]
  omega
/-- The parts, as a slice of slices that is none of the pen's. -/
structure PartsAt (W : World) (b : Nat) (A : Option Addr) (ps : List (Option Addr × List UInt8 × Nat)) : Prop where
  cell : ∀ k (h : k < ps.length), ∃ g off, A = some ⟨g, off, none⟩ ∧ Out W b g ∧ W.cell? ⟨g, off + k, none⟩ = some (.slice ps[k].1 ps[k].2.1.length ps[k].2.2)
  each : ∀ p ∈ ps, Apart8 W b p.1 p.2.1

end Go.Proofs.Ytkecldmjjhhlgaa.Oct
