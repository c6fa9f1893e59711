/-
  No cell of these rows narrows 'for every input' (looked for: loops, veiled, ifaces, maps, wideKeys, modest, calm, conditions, laid).
  DERIVED. THE GIVEN ROWS OF THIS SEAT. 2 by the template 'for every input the law returns true; each argument reads behind the call as it read before'; 0 by the template 'total and deterministic' (their statements: YtpcneodkcdpldaaTotals.lean).
  GIVEN WITH THE SEED: the statements are not yours to turn. If you find one false, say at which input.
  Laid BY PROGRAM, IN A SANDBOX (cutbox-rows.mjs): the forced cells as the released guide's own fill.sh prints them over the translation e9406e5df3e272cd… (all of the seat's roots in one cut). By AI agents, Wed Nov 11 2026. No macro, syntax, notation, axiom, sorry.
-/
import Derived.Test.YtpcneodkcdpldaaChecked
import GoSem.Claim
import GoSem.ClaimJoined
import GoSem.ClaimMapViews
import Derived.JoinedTies
import Derived.KernelRfl
namespace Go.Proofs.Ytpcneodkcdpldaa
/- THE CELL 'sum', in the pinned program and in every row, IS THE sha256 OF THE DUMP (.gsa) THAT YtpcneodkcdpldaaProg.lean LOADS. Nothing in Lean hashes anything: it is a label: what it is worth is what the hold of that sum in a sandbox is worth. -/
noncomputable def Try.pinned : Pinned := { name := "ytpcneodkcdpldaa", sum := "e9406e5df3e272cd6afdc6dfd5908a66a354b7e9bf6789de15c3c35b3b3f3d7c", checked := Try.checked }
namespace Rows
def none {H : Type} : Left H := { results := [], args := [] }

/-- 'purserlaw06.TxOrders': WHATEVER THE INPUT: true; the input reads as it did. -/
def txOrdersSpec : ChangeSpec := { name := "txOrders", fn := fun _ => fun
  | [d1, d2] => { results := [.lit (.bool true)], args := [d1, d2] }
  | _ => none }
def txOrdersRow : OpenClaim := { program := "ytpcneodkcdpldaa", sum := "e9406e5df3e272cd6afdc6dfd5908a66a354b7e9bf6789de15c3c35b3b3f3d7c", func := "purser/purserlaw06.TxOrders", spec := "txOrders", inPlace := ["internal/bytealg.Compare"], apart := false }
def TxOrdersSaid : Prop := txOrdersRow.holds Try.pinned (OpenSpec.ofChange txOrdersSpec)

/-- ITS FALSE NEIGHBOUR: 'it returns false'. Refute it at one input. -/
def txOrdersWrong : ChangeSpec := { name := "txOrders", fn := fun _ => fun
  | [d1, d2] => { results := [.lit (.bool false)], args := [d1, d2] }
  | _ => none }
def TxOrdersWrongFalsely : Prop := txOrdersRow.holds Try.pinned (OpenSpec.ofChange txOrdersWrong)

/-- 'purserlaw06.TxSorted': WHATEVER THE INPUT: true; the input reads as it did. -/
def txSortedSpec : ChangeSpec := { name := "txSorted", fn := fun _ => fun
  | [d1, d2, d3] => { results := [.lit (.bool true)], args := [d1, d2, d3] }
  | _ => none }
def txSortedRow : OpenClaim := { program := "ytpcneodkcdpldaa", sum := "e9406e5df3e272cd6afdc6dfd5908a66a354b7e9bf6789de15c3c35b3b3f3d7c", func := "purser/purserlaw06.TxSorted", spec := "txSorted", inPlace := ["internal/abi.NoEscape", "internal/bytealg.MakeNoZero", "internal/bytealg.Compare"], unfollowed := true, recurses := true, apart := false }
def TxSortedSaid : Prop := txSortedRow.holds Try.pinned (OpenSpec.ofChange txSortedSpec)

/-- ITS FALSE NEIGHBOUR: 'it returns false'. Refute it at one input. -/
def txSortedWrong : ChangeSpec := { name := "txSorted", fn := fun _ => fun
  | [d1, d2, d3] => { results := [.lit (.bool false)], args := [d1, d2, d3] }
  | _ => none }
def TxSortedWrongFalsely : Prop := txSortedRow.holds Try.pinned (OpenSpec.ofChange txSortedWrong)

/- THE SECOND FORM. 'bulk': how many values and letters a reading holds, each counted each time it is reached (what is shared counts as often as it is met; a slice's spare places count too). A statement '..UptoSaid' is the law's where the arguments, and the package variables that the reading takes, are together of bulk at most 1048576: NARROWER than '..Said'. Prove '..Said' where nothing that the law and all that it calls make is longer than what came in: it says more and counts as full. Else prove '..UptoSaid'. A law counts once. -/
mutual
def uptoBulk {H : Type} : DataW H → Nat
  | .lit (.string bytes) => bytes.length + 1
  | .lit _ => 1
  | .nil => 1
  | .ptr d => uptoBulk d + 1
  | .slice elems spare => uptoBulkAll elems + uptoBulkAll spare + 1
  | .agg parts => uptoBulkAll parts + 1
  | .iface _ d => uptoBulk d + 1
  | .map entries => uptoBulkEntries entries + 1
  | .held _ => 1
def uptoBulkAll {H : Type} : List (DataW H) → Nat
  | [] => 0
  | d :: r => uptoBulk d + uptoBulkAll r
def uptoBulkEntries {H : Type} : List (Lit × DataW H) → Nat
  | [] => 0
  | x :: r => uptoBulkEntry x + uptoBulkEntries r
def uptoBulkEntry {H : Type} : Lit × DataW H → Nat
  | (.string bytes, d) => bytes.length + uptoBulk d + 1
  | (_, d) => uptoBulk d + 1
 end
def uptoSmall : (H : Type) → List (DataW H) → Bool := fun _ ds => decide (uptoBulkAll ds ≤ 1048576)
def OpenSpec.upto (s : _root_.Go.ChangeSpec) : _root_.Go.OpenSpec := { _root_.Go.OpenSpec.ofChange s with cond := some uptoSmall }

/-- 'purserlaw06.TxOrders', WHERE WHAT IT READS IS OF BULK AT MOST 1048576: true; the input reads as it did. -/
def txOrdersUptoRow : OpenClaim := { program := "ytpcneodkcdpldaa", sum := "e9406e5df3e272cd6afdc6dfd5908a66a354b7e9bf6789de15c3c35b3b3f3d7c", func := "purser/purserlaw06.TxOrders", spec := "txOrders", inPlace := ["internal/bytealg.Compare"], apart := false, narrowed := true }
def TxOrdersUptoSaid : Prop := txOrdersUptoRow.holds Try.pinned (OpenSpec.upto txOrdersSpec)

/-- 'purserlaw06.TxSorted', WHERE WHAT IT READS IS OF BULK AT MOST 1048576: true; the input reads as it did. -/
def txSortedUptoRow : OpenClaim := { program := "ytpcneodkcdpldaa", sum := "e9406e5df3e272cd6afdc6dfd5908a66a354b7e9bf6789de15c3c35b3b3f3d7c", func := "purser/purserlaw06.TxSorted", spec := "txSorted", inPlace := ["internal/abi.NoEscape", "internal/bytealg.MakeNoZero", "internal/bytealg.Compare"], unfollowed := true, recurses := true, apart := false, narrowed := true }
def TxSortedUptoSaid : Prop := txSortedUptoRow.holds Try.pinned (OpenSpec.upto txSortedSpec)

end Rows
end Go.Proofs.Ytpcneodkcdpldaa
