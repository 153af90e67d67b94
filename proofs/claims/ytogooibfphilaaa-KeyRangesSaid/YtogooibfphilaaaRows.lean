/-
  No cell of these rows narrows 'for every input' (looked for: loops, veiled, ifaces, maps, wideKeys, modest, calm, conditions, laid).
  DERIVED. THE GIVEN ROWS OF THIS SEAT. 3 by the template 'for every input the law returns true; each argument reads behind the call as it read before'; 0 by the template 'total and deterministic' (their statements: YtogooibfphilaaaTotals.lean).
  GIVEN WITH THE SEED: the statements are not yours to turn. If you find one false, say at which input.
  Laid BY PROGRAM, IN A SANDBOX (cutbox-rows.mjs): the forced cells as the released guide's own fill.sh prints them over the translation 71fb0cb537b30479… (all of the seat's roots in one cut). By AI agents, Wed Nov 11 2026. No macro, syntax, notation, axiom, sorry.
-/
import Derived.Test.YtogooibfphilaaaChecked
import GoSem.Claim
import GoSem.ClaimJoined
import GoSem.ClaimMapViews
import Derived.JoinedTies
import Derived.KernelRfl
namespace Go.Proofs.Ytogooibfphilaaa
/- THE CELL 'sum', in the pinned program and in every row, IS THE sha256 OF THE DUMP (.gsa) THAT YtogooibfphilaaaProg.lean LOADS. Nothing in Lean hashes anything: it is a label: what it is worth is what the hold of that sum in a sandbox is worth. -/
noncomputable def Try.pinned : Pinned := { name := "ytogooibfphilaaa", sum := "71fb0cb537b3047909dcd5ee1b73cc2a3faaa982fbd1be2fc9a3118e74821b4d", checked := Try.checked }
namespace Rows
def none {H : Type} : Left H := { results := [], args := [] }

/-- 'quorumlaw1.KeyRanges': WHATEVER THE INPUT: true; the input reads as it did. -/
def keyRangesSpec : ChangeSpec := { name := "keyRanges", fn := fun _ => fun
  | [d] => { results := [.lit (.bool true)], args := [d] }
  | _ => none }
def keyRangesRow : OpenClaim := { program := "ytogooibfphilaaa", sum := "71fb0cb537b3047909dcd5ee1b73cc2a3faaa982fbd1be2fc9a3118e74821b4d", func := "quorum/quorumlaw1.KeyRanges", spec := "keyRanges", apart := false }
def KeyRangesSaid : Prop := keyRangesRow.holds Try.pinned (OpenSpec.ofChange keyRangesSpec)

/-- ITS FALSE NEIGHBOUR: 'it returns false'. Refute it at one input. -/
def keyRangesWrong : ChangeSpec := { name := "keyRanges", fn := fun _ => fun
  | [d] => { results := [.lit (.bool false)], args := [d] }
  | _ => none }
def KeyRangesWrongFalsely : Prop := keyRangesRow.holds Try.pinned (OpenSpec.ofChange keyRangesWrong)

/-- 'quorumlaw1.KeyBoth': WHATEVER THE INPUT: true; the input reads as it did. -/
def keyBothSpec : ChangeSpec := { name := "keyBoth", fn := fun _ => fun
  | [d] => { results := [.lit (.bool true)], args := [d] }
  | _ => none }
def keyBothRow : OpenClaim := { program := "ytogooibfphilaaa", sum := "71fb0cb537b3047909dcd5ee1b73cc2a3faaa982fbd1be2fc9a3118e74821b4d", func := "quorum/quorumlaw1.KeyBoth", spec := "keyBoth", apart := false }
def KeyBothSaid : Prop := keyBothRow.holds Try.pinned (OpenSpec.ofChange keyBothSpec)

/-- ITS FALSE NEIGHBOUR: 'it returns false'. Refute it at one input. -/
def keyBothWrong : ChangeSpec := { name := "keyBoth", fn := fun _ => fun
  | [d] => { results := [.lit (.bool false)], args := [d] }
  | _ => none }
def KeyBothWrongFalsely : Prop := keyBothRow.holds Try.pinned (OpenSpec.ofChange keyBothWrong)

/-- 'quorumlaw2.ModeLess': WHATEVER THE INPUT: true; the input reads as it did. -/
def modeLessSpec : ChangeSpec := { name := "modeLess", fn := fun _ => fun
  | [d] => { results := [.lit (.bool true)], args := [d] }
  | _ => none }
def modeLessRow : OpenClaim := { program := "ytogooibfphilaaa", sum := "71fb0cb537b3047909dcd5ee1b73cc2a3faaa982fbd1be2fc9a3118e74821b4d", func := "quorum/quorumlaw2.ModeLess", spec := "modeLess", apart := false }
def ModeLessSaid : Prop := modeLessRow.holds Try.pinned (OpenSpec.ofChange modeLessSpec)

/-- ITS FALSE NEIGHBOUR: 'it returns false'. Refute it at one input. -/
def modeLessWrong : ChangeSpec := { name := "modeLess", fn := fun _ => fun
  | [d] => { results := [.lit (.bool false)], args := [d] }
  | _ => none }
def ModeLessWrongFalsely : Prop := modeLessRow.holds Try.pinned (OpenSpec.ofChange modeLessWrong)

/- THE SECOND FORM. 'bulk': how many values and letters a reading holds, each counted each time it is reached (what is shared counts as often as it is met; a slice's spare places count too). A statement '..UptoSaid' is the law's where the arguments, and the package variables that the reading takes, are together of bulk at most 1048576: NARROWER than '..Said'. Prove '..Said' where nothing that the law and all that it calls make is longer than what came in: it says more and counts as full. Else prove '..UptoSaid'. A law counts once. -/
mutual
def uptoBulk {H : Type} : DataW H → Nat
  | .lit (.string bytes) => bytes.length + 1
  | .lit _ => 1
  | .nil => 1
  | .ptr d => uptoBulk d + 1
  | .slice elems spare => uptoBulkAll elems + uptoBulkAll spare + 1
  | .agg parts => uptoBulkAll parts + 1
  | .iface _ d => uptoBulk d + 1
  | .map entries => uptoBulkEntries entries + 1
  | .held _ => 1
def uptoBulkAll {H : Type} : List (DataW H) → Nat
  | [] => 0
  | d :: r => uptoBulk d + uptoBulkAll r
def uptoBulkEntries {H : Type} : List (Lit × DataW H) → Nat
  | [] => 0
  | x :: r => uptoBulkEntry x + uptoBulkEntries r
def uptoBulkEntry {H : Type} : Lit × DataW H → Nat
  | (.string bytes, d) => bytes.length + uptoBulk d + 1
  | (_, d) => uptoBulk d + 1
 end
def uptoSmall : (H : Type) → List (DataW H) → Bool := fun _ ds => decide (uptoBulkAll ds ≤ 1048576)
def OpenSpec.upto (s : _root_.Go.ChangeSpec) : _root_.Go.OpenSpec := { _root_.Go.OpenSpec.ofChange s with cond := some uptoSmall }

/-- 'quorumlaw1.KeyRanges', WHERE WHAT IT READS IS OF BULK AT MOST 1048576: true; the input reads as it did. -/
def keyRangesUptoRow : OpenClaim := { program := "ytogooibfphilaaa", sum := "71fb0cb537b3047909dcd5ee1b73cc2a3faaa982fbd1be2fc9a3118e74821b4d", func := "quorum/quorumlaw1.KeyRanges", spec := "keyRanges", apart := false, narrowed := true }
def KeyRangesUptoSaid : Prop := keyRangesUptoRow.holds Try.pinned (OpenSpec.upto keyRangesSpec)

/-- 'quorumlaw1.KeyBoth', WHERE WHAT IT READS IS OF BULK AT MOST 1048576: true; the input reads as it did. -/
def keyBothUptoRow : OpenClaim := { program := "ytogooibfphilaaa", sum := "71fb0cb537b3047909dcd5ee1b73cc2a3faaa982fbd1be2fc9a3118e74821b4d", func := "quorum/quorumlaw1.KeyBoth", spec := "keyBoth", apart := false, narrowed := true }
def KeyBothUptoSaid : Prop := keyBothUptoRow.holds Try.pinned (OpenSpec.upto keyBothSpec)

/-- 'quorumlaw2.ModeLess', WHERE WHAT IT READS IS OF BULK AT MOST 1048576: true; the input reads as it did. -/
def modeLessUptoRow : OpenClaim := { program := "ytogooibfphilaaa", sum := "71fb0cb537b3047909dcd5ee1b73cc2a3faaa982fbd1be2fc9a3118e74821b4d", func := "quorum/quorumlaw2.ModeLess", spec := "modeLess", apart := false, narrowed := true }
def ModeLessUptoSaid : Prop := modeLessUptoRow.holds Try.pinned (OpenSpec.upto modeLessSpec)

end Rows
end Go.Proofs.Ytogooibfphilaaa
