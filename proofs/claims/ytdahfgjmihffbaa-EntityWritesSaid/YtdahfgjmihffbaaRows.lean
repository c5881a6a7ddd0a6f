/-
  No cell of these rows narrows 'for every input' (looked for: loops, veiled, ifaces, maps, wideKeys, modest, calm, conditions, laid).
  DERIVED. THE GIVEN ROWS OF THIS SEAT. 4 by the template 'for every input the law returns true; each argument reads behind the call as it read before'; 0 by the template 'total and deterministic' (their statements: YtdahfgjmihffbaaTotals.lean).
  GIVEN WITH THE SEED: the statements are not yours to turn. If you find one false, say at which input.
  Laid BY PROGRAM, IN A SANDBOX (cutbox-rows.mjs): the forced cells as the released guide's own fill.sh prints them over the translation f22c46fa72d47259… (all of the seat's roots in one cut). By AI agents, Wed Nov 11 2026. No macro, syntax, notation, axiom, sorry.
-/
import Derived.Test.YtdahfgjmihffbaaChecked
import GoSem.Claim
import GoSem.ClaimJoined
import GoSem.ClaimMapViews
import Derived.JoinedTies
import Derived.KernelRfl
namespace Go.Proofs.Ytdahfgjmihffbaa
/- THE CELL 'sum', in the pinned program and in every row, IS THE sha256 OF THE DUMP (.gsa) THAT YtdahfgjmihffbaaProg.lean LOADS. Nothing in Lean hashes anything: it is a label: what it is worth is what the hold of that sum in a sandbox is worth. -/
noncomputable def Try.pinned : Pinned := { name := "ytdahfgjmihffbaa", sum := "f22c46fa72d4725917d2d65fd902270c227539799b5871a21adae0ca132901a6", checked := Try.checked }
namespace Rows
def none {H : Type} : Left H := { results := [], args := [] }

/-- 'nunciolaw06.EntityWrites': WHATEVER THE INPUT: true; the input reads as it did. -/
def entityWritesSpec : ChangeSpec := { name := "entityWrites", fn := fun _ => fun
  | [d] => { results := [.lit (.bool true)], args := [d] }
  | _ => none }
def entityWritesRow : OpenClaim := { program := "ytdahfgjmihffbaa", sum := "f22c46fa72d4725917d2d65fd902270c227539799b5871a21adae0ca132901a6", func := "nuncio/nunciolaw06.EntityWrites", spec := "entityWrites", apart := false }
def EntityWritesSaid : Prop := entityWritesRow.holds Try.pinned (OpenSpec.ofChange entityWritesSpec)

/-- ITS FALSE NEIGHBOUR: 'it returns false'. Refute it at one input. -/
def entityWritesWrong : ChangeSpec := { name := "entityWrites", fn := fun _ => fun
  | [d] => { results := [.lit (.bool false)], args := [d] }
  | _ => none }
def EntityWritesWrongFalsely : Prop := entityWritesRow.holds Try.pinned (OpenSpec.ofChange entityWritesWrong)

/-- 'nunciolaw06.EntityOne': WHATEVER THE INPUT: true; the input reads as it did. -/
def entityOneSpec : ChangeSpec := { name := "entityOne", fn := fun _ => fun
  | [d1, d2] => { results := [.lit (.bool true)], args := [d1, d2] }
  | _ => none }
def entityOneRow : OpenClaim := { program := "ytdahfgjmihffbaa", sum := "f22c46fa72d4725917d2d65fd902270c227539799b5871a21adae0ca132901a6", func := "nuncio/nunciolaw06.EntityOne", spec := "entityOne", apart := false }
def EntityOneSaid : Prop := entityOneRow.holds Try.pinned (OpenSpec.ofChange entityOneSpec)

/-- ITS FALSE NEIGHBOUR: 'it returns false'. Refute it at one input. -/
def entityOneWrong : ChangeSpec := { name := "entityOne", fn := fun _ => fun
  | [d1, d2] => { results := [.lit (.bool false)], args := [d1, d2] }
  | _ => none }
def EntityOneWrongFalsely : Prop := entityOneRow.holds Try.pinned (OpenSpec.ofChange entityOneWrong)

/-- 'nunciolaw06.EntityDecodes': WHATEVER THE INPUT: true; the input reads as it did. -/
def entityDecodesSpec : ChangeSpec := { name := "entityDecodes", fn := fun _ => fun
  | [d] => { results := [.lit (.bool true)], args := [d] }
  | _ => none }
def entityDecodesRow : OpenClaim := { program := "ytdahfgjmihffbaa", sum := "f22c46fa72d4725917d2d65fd902270c227539799b5871a21adae0ca132901a6", func := "nuncio/nunciolaw06.EntityDecodes", spec := "entityDecodes", apart := false }
def EntityDecodesSaid : Prop := entityDecodesRow.holds Try.pinned (OpenSpec.ofChange entityDecodesSpec)

/-- ITS FALSE NEIGHBOUR: 'it returns false'. Refute it at one input. -/
def entityDecodesWrong : ChangeSpec := { name := "entityDecodes", fn := fun _ => fun
  | [d] => { results := [.lit (.bool false)], args := [d] }
  | _ => none }
def EntityDecodesWrongFalsely : Prop := entityDecodesRow.holds Try.pinned (OpenSpec.ofChange entityDecodesWrong)

/-- 'nunciolaw06.EntitySafe': WHATEVER THE INPUT: true; the input reads as it did. -/
def entitySafeSpec : ChangeSpec := { name := "entitySafe", fn := fun _ => fun
  | [d] => { results := [.lit (.bool true)], args := [d] }
  | _ => none }
def entitySafeRow : OpenClaim := { program := "ytdahfgjmihffbaa", sum := "f22c46fa72d4725917d2d65fd902270c227539799b5871a21adae0ca132901a6", func := "nuncio/nunciolaw06.EntitySafe", spec := "entitySafe", apart := false }
def EntitySafeSaid : Prop := entitySafeRow.holds Try.pinned (OpenSpec.ofChange entitySafeSpec)

/-- ITS FALSE NEIGHBOUR: 'it returns false'. Refute it at one input. -/
def entitySafeWrong : ChangeSpec := { name := "entitySafe", fn := fun _ => fun
  | [d] => { results := [.lit (.bool false)], args := [d] }
  | _ => none }
def EntitySafeWrongFalsely : Prop := entitySafeRow.holds Try.pinned (OpenSpec.ofChange entitySafeWrong)

/- THE SECOND FORM. 'bulk': how many values and letters a reading holds, each counted each time it is reached (what is shared counts as often as it is met; a slice's spare places count too). A statement '..UptoSaid' is the law's where the arguments, and the package variables that the reading takes, are together of bulk at most 1048576: NARROWER than '..Said'. Prove '..Said' where nothing that the law and all that it calls make is longer than what came in: it says more and counts as full. Else prove '..UptoSaid'. A law counts once. -/
mutual
def uptoBulk {H : Type} : DataW H → Nat
  | .lit (.string bytes) => bytes.length + 1
  | .lit _ => 1
  | .nil => 1
  | .ptr d => uptoBulk d + 1
  | .slice elems spare => uptoBulkAll elems + uptoBulkAll spare + 1
  | .agg parts => uptoBulkAll parts + 1
  | .iface _ d => uptoBulk d + 1
  | .map entries => uptoBulkEntries entries + 1
  | .held _ => 1
def uptoBulkAll {H : Type} : List (DataW H) → Nat
  | [] => 0
  | d :: r => uptoBulk d + uptoBulkAll r
def uptoBulkEntries {H : Type} : List (Lit × DataW H) → Nat
  | [] => 0
  | x :: r => uptoBulkEntry x + uptoBulkEntries r
def uptoBulkEntry {H : Type} : Lit × DataW H → Nat
  | (.string bytes, d) => bytes.length + uptoBulk d + 1
  | (_, d) => uptoBulk d + 1
 end
def uptoSmall : (H : Type) → List (DataW H) → Bool := fun _ ds => decide (uptoBulkAll ds ≤ 1048576)
def OpenSpec.upto (s : _root_.Go.ChangeSpec) : _root_.Go.OpenSpec := { _root_.Go.OpenSpec.ofChange s with cond := some uptoSmall }

/-- 'nunciolaw06.EntityWrites', WHERE WHAT IT READS IS OF BULK AT MOST 1048576: true; the input reads as it did. -/
def entityWritesUptoRow : OpenClaim := { program := "ytdahfgjmihffbaa", sum := "f22c46fa72d4725917d2d65fd902270c227539799b5871a21adae0ca132901a6", func := "nuncio/nunciolaw06.EntityWrites", spec := "entityWrites", apart := false, narrowed := true }
def EntityWritesUptoSaid : Prop := entityWritesUptoRow.holds Try.pinned (OpenSpec.upto entityWritesSpec)

/-- 'nunciolaw06.EntityOne', WHERE WHAT IT READS IS OF BULK AT MOST 1048576: true; the input reads as it did. -/
def entityOneUptoRow : OpenClaim := { program := "ytdahfgjmihffbaa", sum := "f22c46fa72d4725917d2d65fd902270c227539799b5871a21adae0ca132901a6", func := "nuncio/nunciolaw06.EntityOne", spec := "entityOne", apart := false, narrowed := true }
def EntityOneUptoSaid : Prop := entityOneUptoRow.holds Try.pinned (OpenSpec.upto entityOneSpec)

/-- 'nunciolaw06.EntityDecodes', WHERE WHAT IT READS IS OF BULK AT MOST 1048576: true; the input reads as it did. -/
def entityDecodesUptoRow : OpenClaim := { program := "ytdahfgjmihffbaa", sum := "f22c46fa72d4725917d2d65fd902270c227539799b5871a21adae0ca132901a6", func := "nuncio/nunciolaw06.EntityDecodes", spec := "entityDecodes", apart := false, narrowed := true }
def EntityDecodesUptoSaid : Prop := entityDecodesUptoRow.holds Try.pinned (OpenSpec.upto entityDecodesSpec)

/-- 'nunciolaw06.EntitySafe', WHERE WHAT IT READS IS OF BULK AT MOST 1048576: true; the input reads as it did. -/
def entitySafeUptoRow : OpenClaim := { program := "ytdahfgjmihffbaa", sum := "f22c46fa72d4725917d2d65fd902270c227539799b5871a21adae0ca132901a6", func := "nuncio/nunciolaw06.EntitySafe", spec := "entitySafe", apart := false, narrowed := true }
def EntitySafeUptoSaid : Prop := entitySafeUptoRow.holds Try.pinned (OpenSpec.upto entitySafeSpec)

end Rows
end Go.Proofs.Ytdahfgjmihffbaa
