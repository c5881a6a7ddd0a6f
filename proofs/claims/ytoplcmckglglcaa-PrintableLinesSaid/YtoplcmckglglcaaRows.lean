/-
  No cell of these rows narrows 'for every input' (looked for: loops, veiled, ifaces, maps, wideKeys, modest, calm, conditions, laid).
  DERIVED. THE GIVEN ROWS OF THIS SEAT. 3 by the template 'for every input the law returns true; each argument reads behind the call as it read before'; 0 by the template 'total and deterministic' (their statements: YtoplcmckglglcaaTotals.lean).
  GIVEN WITH THE SEED: the statements are not yours to turn. If you find one false, say at which input.
  Laid BY PROGRAM, IN A SANDBOX (cutbox-rows.mjs): the forced cells as the released guide's own fill.sh prints them over the translation d2406734206eecd3… (all of the seat's roots in one cut). By AI agents, Wed Nov 11 2026. No macro, syntax, notation, axiom, sorry.
-/
import Derived.Test.YtoplcmckglglcaaChecked
import GoSem.Claim
import GoSem.ClaimJoined
import GoSem.ClaimMapViews
import Derived.JoinedTies
import Derived.KernelRfl
namespace Go.Proofs.Ytoplcmckglglcaa
/- THE CELL 'sum', in the pinned program and in every row, IS THE sha256 OF THE DUMP (.gsa) THAT YtoplcmckglglcaaProg.lean LOADS. Nothing in Lean hashes anything: it is a label: what it is worth is what the hold of that sum in a sandbox is worth. -/
noncomputable def Try.pinned : Pinned := { name := "ytoplcmckglglcaa", sum := "d2406734206eecd33b557622ba7d0630c208374fe3c1acf202064ec5b2946451", checked := Try.checked }
namespace Rows
def none {H : Type} : Left H := { results := [], args := [] }

/-- 'nunciolaw05.PrintableEncodes': WHATEVER THE INPUT: true; the input reads as it did. -/
def printableEncodesSpec : ChangeSpec := { name := "printableEncodes", fn := fun _ => fun
  | [d] => { results := [.lit (.bool true)], args := [d] }
  | _ => none }
def printableEncodesRow : OpenClaim := { program := "ytoplcmckglglcaa", sum := "d2406734206eecd33b557622ba7d0630c208374fe3c1acf202064ec5b2946451", func := "nuncio/nunciolaw05.PrintableEncodes", spec := "printableEncodes", unfollowed := true, recurses := true, apart := false }
def PrintableEncodesSaid : Prop := printableEncodesRow.holds Try.pinned (OpenSpec.ofChange printableEncodesSpec)

/-- ITS FALSE NEIGHBOUR: 'it returns false'. Refute it at one input. -/
def printableEncodesWrong : ChangeSpec := { name := "printableEncodes", fn := fun _ => fun
  | [d] => { results := [.lit (.bool false)], args := [d] }
  | _ => none }
def PrintableEncodesWrongFalsely : Prop := printableEncodesRow.holds Try.pinned (OpenSpec.ofChange printableEncodesWrong)

/-- 'nunciolaw05.PrintableDecodes': WHATEVER THE INPUT: true; the input reads as it did. -/
def printableDecodesSpec : ChangeSpec := { name := "printableDecodes", fn := fun _ => fun
  | [d] => { results := [.lit (.bool true)], args := [d] }
  | _ => none }
def printableDecodesRow : OpenClaim := { program := "ytoplcmckglglcaa", sum := "d2406734206eecd33b557622ba7d0630c208374fe3c1acf202064ec5b2946451", func := "nuncio/nunciolaw05.PrintableDecodes", spec := "printableDecodes", unfollowed := true, recurses := true, apart := false }
def PrintableDecodesSaid : Prop := printableDecodesRow.holds Try.pinned (OpenSpec.ofChange printableDecodesSpec)

/-- ITS FALSE NEIGHBOUR: 'it returns false'. Refute it at one input. -/
def printableDecodesWrong : ChangeSpec := { name := "printableDecodes", fn := fun _ => fun
  | [d] => { results := [.lit (.bool false)], args := [d] }
  | _ => none }
def PrintableDecodesWrongFalsely : Prop := printableDecodesRow.holds Try.pinned (OpenSpec.ofChange printableDecodesWrong)

/-- 'nunciolaw05.PrintableLines': WHATEVER THE INPUT: true; the input reads as it did. -/
def printableLinesSpec : ChangeSpec := { name := "printableLines", fn := fun _ => fun
  | [d] => { results := [.lit (.bool true)], args := [d] }
  | _ => none }
def printableLinesRow : OpenClaim := { program := "ytoplcmckglglcaa", sum := "d2406734206eecd33b557622ba7d0630c208374fe3c1acf202064ec5b2946451", func := "nuncio/nunciolaw05.PrintableLines", spec := "printableLines", unfollowed := true, recurses := true, apart := false }
def PrintableLinesSaid : Prop := printableLinesRow.holds Try.pinned (OpenSpec.ofChange printableLinesSpec)

/-- ITS FALSE NEIGHBOUR: 'it returns false'. Refute it at one input. -/
def printableLinesWrong : ChangeSpec := { name := "printableLines", fn := fun _ => fun
  | [d] => { results := [.lit (.bool false)], args := [d] }
  | _ => none }
def PrintableLinesWrongFalsely : Prop := printableLinesRow.holds Try.pinned (OpenSpec.ofChange printableLinesWrong)

/- THE SECOND FORM. 'bulk': how many values and letters a reading holds, each counted each time it is reached (what is shared counts as often as it is met; a slice's spare places count too). A statement '..UptoSaid' is the law's where the arguments, and the package variables that the reading takes, are together of bulk at most 1048576: NARROWER than '..Said'. Prove '..Said' where nothing that the law and all that it calls make is longer than what came in: it says more and counts as full. Else prove '..UptoSaid'. A law counts once. -/
mutual
def uptoBulk {H : Type} : DataW H → Nat
  | .lit (.string bytes) => bytes.length + 1
  | .lit _ => 1
  | .nil => 1
  | .ptr d => uptoBulk d + 1
  | .slice elems spare => uptoBulkAll elems + uptoBulkAll spare + 1
  | .agg parts => uptoBulkAll parts + 1
  | .iface _ d => uptoBulk d + 1
  | .map entries => uptoBulkEntries entries + 1
  | .held _ => 1
def uptoBulkAll {H : Type} : List (DataW H) → Nat
  | [] => 0
  | d :: r => uptoBulk d + uptoBulkAll r
def uptoBulkEntries {H : Type} : List (Lit × DataW H) → Nat
  | [] => 0
  | x :: r => uptoBulkEntry x + uptoBulkEntries r
def uptoBulkEntry {H : Type} : Lit × DataW H → Nat
  | (.string bytes, d) => bytes.length + uptoBulk d + 1
  | (_, d) => uptoBulk d + 1
 end
def uptoSmall : (H : Type) → List (DataW H) → Bool := fun _ ds => decide (uptoBulkAll ds ≤ 1048576)
def OpenSpec.upto (s : _root_.Go.ChangeSpec) : _root_.Go.OpenSpec := { _root_.Go.OpenSpec.ofChange s with cond := some uptoSmall }

/-- 'nunciolaw05.PrintableEncodes', WHERE WHAT IT READS IS OF BULK AT MOST 1048576: true; the input reads as it did. -/
def printableEncodesUptoRow : OpenClaim := { program := "ytoplcmckglglcaa", sum := "d2406734206eecd33b557622ba7d0630c208374fe3c1acf202064ec5b2946451", func := "nuncio/nunciolaw05.PrintableEncodes", spec := "printableEncodes", unfollowed := true, recurses := true, apart := false, narrowed := true }
def PrintableEncodesUptoSaid : Prop := printableEncodesUptoRow.holds Try.pinned (OpenSpec.upto printableEncodesSpec)

/-- 'nunciolaw05.PrintableDecodes', WHERE WHAT IT READS IS OF BULK AT MOST 1048576: true; the input reads as it did. -/
def printableDecodesUptoRow : OpenClaim := { program := "ytoplcmckglglcaa", sum := "d2406734206eecd33b557622ba7d0630c208374fe3c1acf202064ec5b2946451", func := "nuncio/nunciolaw05.PrintableDecodes", spec := "printableDecodes", unfollowed := true, recurses := true, apart := false, narrowed := true }
def PrintableDecodesUptoSaid : Prop := printableDecodesUptoRow.holds Try.pinned (OpenSpec.upto printableDecodesSpec)

/-- 'nunciolaw05.PrintableLines', WHERE WHAT IT READS IS OF BULK AT MOST 1048576: true; the input reads as it did. -/
def printableLinesUptoRow : OpenClaim := { program := "ytoplcmckglglcaa", sum := "d2406734206eecd33b557622ba7d0630c208374fe3c1acf202064ec5b2946451", func := "nuncio/nunciolaw05.PrintableLines", spec := "printableLines", unfollowed := true, recurses := true, apart := false, narrowed := true }
def PrintableLinesUptoSaid : Prop := printableLinesUptoRow.holds Try.pinned (OpenSpec.upto printableLinesSpec)

end Rows
end Go.Proofs.Ytoplcmckglglcaa
