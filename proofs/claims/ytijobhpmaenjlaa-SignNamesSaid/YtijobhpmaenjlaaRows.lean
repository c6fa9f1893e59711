/-
  No cell of these rows narrows 'for every input' (looked for: loops, veiled, ifaces, maps, wideKeys, modest, calm, conditions, laid).
  DERIVED. THE GIVEN ROWS OF THIS SEAT. 6 by the template 'for every input the law returns true; each argument reads behind the call as it read before'; 0 by the template 'total and deterministic' (their statements: YtijobhpmaenjlaaTotals.lean).
  GIVEN WITH THE SEED: the statements are not yours to turn. If you find one false, say at which input.
  Laid BY PROGRAM, IN A SANDBOX (cutbox-rows.mjs): the forced cells as the released guide's own fill.sh prints them over the translation 4761ad194cc9a1dd… (all of the seat's roots in one cut). By AI agents, Wed Nov 11 2026. No macro, syntax, notation, axiom, sorry.
-/
import Derived.Test.YtijobhpmaenjlaaChecked
import GoSem.Claim
import GoSem.ClaimJoined
import GoSem.ClaimMapViews
import Derived.JoinedTies
import Derived.KernelRfl
namespace Go.Proofs.Ytijobhpmaenjlaa
/- THE CELL 'sum', in the pinned program and in every row, IS THE sha256 OF THE DUMP (.gsa) THAT YtijobhpmaenjlaaProg.lean LOADS. Nothing in Lean hashes anything: it is a label: what it is worth is what the hold of that sum in a sandbox is worth. -/
noncomputable def Try.pinned : Pinned := { name := "ytijobhpmaenjlaa", sum := "4761ad194cc9a1dd20cc2b75c22454744dbb12c5f728c7afa5ec5c17d7cdb5bc", checked := Try.checked }
namespace Rows
def none {H : Type} : Left H := { results := [], args := [] }

/-- 'purserlaw09.SignForms': WHATEVER THE INPUT: true; the input reads as it did. -/
def signFormsSpec : ChangeSpec := { name := "signForms", fn := fun _ => fun
  | [d1, d2] => { results := [.lit (.bool true)], args := [d1, d2] }
  | _ => none }
def signFormsRow : OpenClaim := { program := "ytijobhpmaenjlaa", sum := "4761ad194cc9a1dd20cc2b75c22454744dbb12c5f728c7afa5ec5c17d7cdb5bc", func := "purser/purserlaw09.SignForms", spec := "signForms", unfollowed := true, recurses := true, apart := false }
def SignFormsSaid : Prop := signFormsRow.holds Try.pinned (OpenSpec.ofChange signFormsSpec)

/-- ITS FALSE NEIGHBOUR: 'it returns false'. Refute it at one input. -/
def signFormsWrong : ChangeSpec := { name := "signForms", fn := fun _ => fun
  | [d1, d2] => { results := [.lit (.bool false)], args := [d1, d2] }
  | _ => none }
def SignFormsWrongFalsely : Prop := signFormsRow.holds Try.pinned (OpenSpec.ofChange signFormsWrong)

/-- 'purserlaw09.SignJudges': WHATEVER THE INPUT: true; the input reads as it did. -/
def signJudgesSpec : ChangeSpec := { name := "signJudges", fn := fun _ => fun
  | [d1, d2, d3] => { results := [.lit (.bool true)], args := [d1, d2, d3] }
  | _ => none }
def signJudgesRow : OpenClaim := { program := "ytijobhpmaenjlaa", sum := "4761ad194cc9a1dd20cc2b75c22454744dbb12c5f728c7afa5ec5c17d7cdb5bc", func := "purser/purserlaw09.SignJudges", spec := "signJudges", unfollowed := true, recurses := true, apart := false }
def SignJudgesSaid : Prop := signJudgesRow.holds Try.pinned (OpenSpec.ofChange signJudgesSpec)

/-- ITS FALSE NEIGHBOUR: 'it returns false'. Refute it at one input. -/
def signJudgesWrong : ChangeSpec := { name := "signJudges", fn := fun _ => fun
  | [d1, d2, d3] => { results := [.lit (.bool false)], args := [d1, d2, d3] }
  | _ => none }
def SignJudgesWrongFalsely : Prop := signJudgesRow.holds Try.pinned (OpenSpec.ofChange signJudgesWrong)

/-- 'purserlaw09.SignNames': WHATEVER THE INPUT: true; the input reads as it did. -/
def signNamesSpec : ChangeSpec := { name := "signNames", fn := fun _ => fun
  | [] => { results := [.lit (.bool true)], args := [] }
  | _ => none }
def signNamesRow : OpenClaim := { program := "ytijobhpmaenjlaa", sum := "4761ad194cc9a1dd20cc2b75c22454744dbb12c5f728c7afa5ec5c17d7cdb5bc", func := "purser/purserlaw09.SignNames", spec := "signNames", unfollowed := true, recurses := true, apart := false }
def SignNamesSaid : Prop := signNamesRow.holds Try.pinned (OpenSpec.ofChange signNamesSpec)

/-- ITS FALSE NEIGHBOUR: 'it returns false'. Refute it at one input. -/
def signNamesWrong : ChangeSpec := { name := "signNames", fn := fun _ => fun
  | [] => { results := [.lit (.bool false)], args := [] }
  | _ => none }
def SignNamesWrongFalsely : Prop := signNamesRow.holds Try.pinned (OpenSpec.ofChange signNamesWrong)

/-- 'purserlaw09.SignBinds': WHATEVER THE INPUT: true; the input reads as it did. -/
def signBindsSpec : ChangeSpec := { name := "signBinds", fn := fun _ => fun
  | [d1, d2, d3, d4] => { results := [.lit (.bool true)], args := [d1, d2, d3, d4] }
  | _ => none }
def signBindsRow : OpenClaim := { program := "ytijobhpmaenjlaa", sum := "4761ad194cc9a1dd20cc2b75c22454744dbb12c5f728c7afa5ec5c17d7cdb5bc", func := "purser/purserlaw09.SignBinds", spec := "signBinds", unfollowed := true, recurses := true, apart := false }
def SignBindsSaid : Prop := signBindsRow.holds Try.pinned (OpenSpec.ofChange signBindsSpec)

/-- ITS FALSE NEIGHBOUR: 'it returns false'. Refute it at one input. -/
def signBindsWrong : ChangeSpec := { name := "signBinds", fn := fun _ => fun
  | [d1, d2, d3, d4] => { results := [.lit (.bool false)], args := [d1, d2, d3, d4] }
  | _ => none }
def SignBindsWrongFalsely : Prop := signBindsRow.holds Try.pinned (OpenSpec.ofChange signBindsWrong)

/-- 'purserlaw09.SignTurned': WHATEVER THE INPUT: true; the input reads as it did. -/
def signTurnedSpec : ChangeSpec := { name := "signTurned", fn := fun _ => fun
  | [d1, d2, d3, d4] => { results := [.lit (.bool true)], args := [d1, d2, d3, d4] }
  | _ => none }
def signTurnedRow : OpenClaim := { program := "ytijobhpmaenjlaa", sum := "4761ad194cc9a1dd20cc2b75c22454744dbb12c5f728c7afa5ec5c17d7cdb5bc", func := "purser/purserlaw09.SignTurned", spec := "signTurned", unfollowed := true, recurses := true, apart := false }
def SignTurnedSaid : Prop := signTurnedRow.holds Try.pinned (OpenSpec.ofChange signTurnedSpec)

/-- ITS FALSE NEIGHBOUR: 'it returns false'. Refute it at one input. -/
def signTurnedWrong : ChangeSpec := { name := "signTurned", fn := fun _ => fun
  | [d1, d2, d3, d4] => { results := [.lit (.bool false)], args := [d1, d2, d3, d4] }
  | _ => none }
def SignTurnedWrongFalsely : Prop := signTurnedRow.holds Try.pinned (OpenSpec.ofChange signTurnedWrong)

/-- 'purserlaw09.SignTold': WHATEVER THE INPUT: true; the input reads as it did. -/
def signToldSpec : ChangeSpec := { name := "signTold", fn := fun _ => fun
  | [d1, d2, d3] => { results := [.lit (.bool true)], args := [d1, d2, d3] }
  | _ => none }
def signToldRow : OpenClaim := { program := "ytijobhpmaenjlaa", sum := "4761ad194cc9a1dd20cc2b75c22454744dbb12c5f728c7afa5ec5c17d7cdb5bc", func := "purser/purserlaw09.SignTold", spec := "signTold", unfollowed := true, recurses := true, apart := false }
def SignToldSaid : Prop := signToldRow.holds Try.pinned (OpenSpec.ofChange signToldSpec)

/-- ITS FALSE NEIGHBOUR: 'it returns false'. Refute it at one input. -/
def signToldWrong : ChangeSpec := { name := "signTold", fn := fun _ => fun
  | [d1, d2, d3] => { results := [.lit (.bool false)], args := [d1, d2, d3] }
  | _ => none }
def SignToldWrongFalsely : Prop := signToldRow.holds Try.pinned (OpenSpec.ofChange signToldWrong)

/- THE SECOND FORM. 'bulk': how many values and letters a reading holds, each counted each time it is reached (what is shared counts as often as it is met; a slice's spare places count too). A statement '..UptoSaid' is the law's where the arguments, and the package variables that the reading takes, are together of bulk at most 1048576: NARROWER than '..Said'. Prove '..Said' where nothing that the law and all that it calls make is longer than what came in: it says more and counts as full. Else prove '..UptoSaid'. A law counts once. -/
mutual
def uptoBulk {H : Type} : DataW H → Nat
  | .lit (.string bytes) => bytes.length + 1
  | .lit _ => 1
  | .nil => 1
  | .ptr d => uptoBulk d + 1
  | .slice elems spare => uptoBulkAll elems + uptoBulkAll spare + 1
  | .agg parts => uptoBulkAll parts + 1
  | .iface _ d => uptoBulk d + 1
  | .map entries => uptoBulkEntries entries + 1
  | .held _ => 1
def uptoBulkAll {H : Type} : List (DataW H) → Nat
  | [] => 0
  | d :: r => uptoBulk d + uptoBulkAll r
def uptoBulkEntries {H : Type} : List (Lit × DataW H) → Nat
  | [] => 0
  | x :: r => uptoBulkEntry x + uptoBulkEntries r
def uptoBulkEntry {H : Type} : Lit × DataW H → Nat
  | (.string bytes, d) => bytes.length + uptoBulk d + 1
  | (_, d) => uptoBulk d + 1
 end
def uptoSmall : (H : Type) → List (DataW H) → Bool := fun _ ds => decide (uptoBulkAll ds ≤ 1048576)
def OpenSpec.upto (s : _root_.Go.ChangeSpec) : _root_.Go.OpenSpec := { _root_.Go.OpenSpec.ofChange s with cond := some uptoSmall }

/-- 'purserlaw09.SignForms', WHERE WHAT IT READS IS OF BULK AT MOST 1048576: true; the input reads as it did. -/
def signFormsUptoRow : OpenClaim := { program := "ytijobhpmaenjlaa", sum := "4761ad194cc9a1dd20cc2b75c22454744dbb12c5f728c7afa5ec5c17d7cdb5bc", func := "purser/purserlaw09.SignForms", spec := "signForms", unfollowed := true, recurses := true, apart := false, narrowed := true }
def SignFormsUptoSaid : Prop := signFormsUptoRow.holds Try.pinned (OpenSpec.upto signFormsSpec)

/-- 'purserlaw09.SignJudges', WHERE WHAT IT READS IS OF BULK AT MOST 1048576: true; the input reads as it did. -/
def signJudgesUptoRow : OpenClaim := { program := "ytijobhpmaenjlaa", sum := "4761ad194cc9a1dd20cc2b75c22454744dbb12c5f728c7afa5ec5c17d7cdb5bc", func := "purser/purserlaw09.SignJudges", spec := "signJudges", unfollowed := true, recurses := true, apart := false, narrowed := true }
def SignJudgesUptoSaid : Prop := signJudgesUptoRow.holds Try.pinned (OpenSpec.upto signJudgesSpec)

/-- 'purserlaw09.SignNames', WHERE WHAT IT READS IS OF BULK AT MOST 1048576: true; the input reads as it did. -/
def signNamesUptoRow : OpenClaim := { program := "ytijobhpmaenjlaa", sum := "4761ad194cc9a1dd20cc2b75c22454744dbb12c5f728c7afa5ec5c17d7cdb5bc", func := "purser/purserlaw09.SignNames", spec := "signNames", unfollowed := true, recurses := true, apart := false, narrowed := true }
def SignNamesUptoSaid : Prop := signNamesUptoRow.holds Try.pinned (OpenSpec.upto signNamesSpec)

/-- 'purserlaw09.SignBinds', WHERE WHAT IT READS IS OF BULK AT MOST 1048576: true; the input reads as it did. -/
def signBindsUptoRow : OpenClaim := { program := "ytijobhpmaenjlaa", sum := "4761ad194cc9a1dd20cc2b75c22454744dbb12c5f728c7afa5ec5c17d7cdb5bc", func := "purser/purserlaw09.SignBinds", spec := "signBinds", unfollowed := true, recurses := true, apart := false, narrowed := true }
def SignBindsUptoSaid : Prop := signBindsUptoRow.holds Try.pinned (OpenSpec.upto signBindsSpec)

/-- 'purserlaw09.SignTurned', WHERE WHAT IT READS IS OF BULK AT MOST 1048576: true; the input reads as it did. -/
def signTurnedUptoRow : OpenClaim := { program := "ytijobhpmaenjlaa", sum := "4761ad194cc9a1dd20cc2b75c22454744dbb12c5f728c7afa5ec5c17d7cdb5bc", func := "purser/purserlaw09.SignTurned", spec := "signTurned", unfollowed := true, recurses := true, apart := false, narrowed := true }
def SignTurnedUptoSaid : Prop := signTurnedUptoRow.holds Try.pinned (OpenSpec.upto signTurnedSpec)

/-- 'purserlaw09.SignTold', WHERE WHAT IT READS IS OF BULK AT MOST 1048576: true; the input reads as it did. -/
def signToldUptoRow : OpenClaim := { program := "ytijobhpmaenjlaa", sum := "4761ad194cc9a1dd20cc2b75c22454744dbb12c5f728c7afa5ec5c17d7cdb5bc", func := "purser/purserlaw09.SignTold", spec := "signTold", unfollowed := true, recurses := true, apart := false, narrowed := true }
def SignToldUptoSaid : Prop := signToldUptoRow.holds Try.pinned (OpenSpec.upto signToldSpec)

end Rows
end Go.Proofs.Ytijobhpmaenjlaa
