/- The contracts of octet.width, Compact, isSize, announced. No condition. -/
import Derived.Test.YtkecldmjjhhlgaaOctA
import Derived.Deep.QuietTactic
import Derived.BigQuiet
import Derived.RegionTactic
namespace Go.Proofs.Ytkecldmjjhhlgaa.Oct
open Go.Proofs.Ytkecldmjjhhlgaa Go.RowKit Go.Shelf
attribute [local go_sem] Oper.semAt_some

theorem lastW_snoc (q : List (Nat × Nat)) (x : Nat × Nat) : lastW (q ++ [x]) = wrap64 ((x.1 : Int) + 1) := by unfold lastW; rw [List.getLast?_append]; rfl

def sizeOkB (s : Int) : Bool := s == 1 || s == 2 || s == 4 || s == 8
end Go.Proofs.Ytkecldmjjhhlgaa.Oct
