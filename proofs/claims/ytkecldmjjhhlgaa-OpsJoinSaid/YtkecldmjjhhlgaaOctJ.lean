/- The contract of an eye's Bytes. No condition beyond the memory's reach. -/
import Derived.Test.YtkecldmjjhhlgaaOctI
namespace Go.Proofs.Ytkecldmjjhhlgaa.Oct
open Go.Proofs.Ytkecldmjjhhlgaa Go.RowKit Go.Shelf

def bytesR (bs : List UInt8) (most : Int) : List UInt8 × Int × List UInt8 :=
  if (szOf bs).2.2 = true ∧ 0 ≤ most ∧ ((szOf bs).1 : Int) ≤ most ∧ (szOf bs).1 ≤ bs.length - (szOf bs).2.1 then ((bs.drop (szOf bs).2.1).take (szOf bs).1, 0, (bs.drop (szOf bs).2.1).drop (szOf bs).1) else ([], 10, bs)
end Go.Proofs.Ytkecldmjjhhlgaa.Oct
