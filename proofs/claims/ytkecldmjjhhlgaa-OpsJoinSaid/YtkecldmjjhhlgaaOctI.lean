/- The contracts of an eye's Raw, Bytes, Left, End. No condition beyond the memory's reach. -/
import Derived.Test.YtkecldmjjhhlgaaOctH
namespace Go.Proofs.Ytkecldmjjhhlgaa.Oct
open Go.Proofs.Ytkecldmjjhhlgaa Go.RowKit Go.Shelf

def rawR (bs : List UInt8) (n : Int) : List UInt8 × Int × List UInt8 := if n < 0 then ([], 2, bs) else if bs.length < n.toNat then ([], 10, bs) else (bs.take n.toNat, 0, bs.drop n.toNat)
theorem own_put {w W1 : World} {r : Nat} {v u : Value} {n : Nat} {xs : List Value} (hr : r < w.heap.size) (h : W1.ownsRow w.heap.size 5 1 v n xs) : (W1.setCell ⟨r, 0, none⟩ u).ownsRow w.heap.size 5 1 v n xs :=
  ownsRow_same h fun k hk => Below.heap_setCell _ _ _ _ (by have := (h.lt k hk).1; simp only; omega)
end Go.Proofs.Ytkecldmjjhhlgaa.Oct
