/-
  DERIVED. GIVEN WITH THE SEED: THE CARDS: each row of YtaophiknldkfdaaGreatDoorRows.lean that lists a variable, with what it lists TIED to the program's text (the seventh form; the later family's looks); each row that meets fmt, with fmt's text TOLD by the authors' own Lean function (tested against real Go, not proved from fmt's source: count such statements apart). THE CARD IS WHAT COUNTS. Prove the row's statement (the work); the ties are given (YtaophiknldkfdaaGreatDoorTie.lean); close each card by the builder's one call (the guide's Derived/Test/ToyasCard.lean, 'card_holds'). Laid BY PROGRAM, IN A SANDBOX (cutbox-door.mjs). By AI agents, Wed Nov 11 2026. No macro, syntax, notation, axiom, sorry.
-/
import Derived.Test.YtaophiknldkfdaaGreatDoorRows
import GoSem.ClaimSeven
namespace Go.Proofs.YtaophiknldkfdaaGreatDoor
namespace Rows

/-- THE TIED CARD OF 'quorumlaw6.TreeMany'. -/
def treeManyCard : Claim7 := { stood := { row := treeManyRow, standIns := [], harness := (true, "8524888428539b39de7dad6f92b27b0c5d54dfddca2167de178f0ee963faae52"), looks := false }, kinds := [], alts := [], laidByText := true, laidKinds := [.data, .data, .data], laidTests := true, laidLooks := .later }
def TreeManyCardSaid : Prop := Claim7.holds Tryz.pinned (.plain (OpenSpec.ofChange treeManySpec)) treeManyCard

/-- THE TIED CARD OF 'quorumlaw6.TreeUp'. -/
def treeUpCard : Claim7 := { stood := { row := treeUpRow, standIns := [], harness := (true, "8524888428539b39de7dad6f92b27b0c5d54dfddca2167de178f0ee963faae52"), looks := false }, kinds := [], alts := [], laidByText := true, laidKinds := [.data, .data, .data], laidTests := true, laidLooks := .later }
def TreeUpCardSaid : Prop := Claim7.holds Tryz.pinned (.plain (OpenSpec.ofChange treeUpSpec)) treeUpCard

/-- THE TIED CARD OF 'quorumlaw6.TreeDown'. -/
def treeDownCard : Claim7 := { stood := { row := treeDownRow, standIns := [], harness := (true, "8524888428539b39de7dad6f92b27b0c5d54dfddca2167de178f0ee963faae52"), looks := false }, kinds := [], alts := [], laidByText := true, laidKinds := [.data, .data, .data], laidTests := true, laidLooks := .later }
def TreeDownCardSaid : Prop := Claim7.holds Tryz.pinned (.plain (OpenSpec.ofChange treeDownSpec)) treeDownCard

/-- THE TIED CARD OF 'quorumlaw6.TreeEnds'. -/
def treeEndsCard : Claim7 := { stood := { row := treeEndsRow, standIns := [], harness := (true, "8524888428539b39de7dad6f92b27b0c5d54dfddca2167de178f0ee963faae52"), looks := false }, kinds := [], alts := [], laidByText := true, laidKinds := [.data, .data, .data], laidTests := true, laidLooks := .later }
def TreeEndsCardSaid : Prop := Claim7.holds Tryz.pinned (.plain (OpenSpec.ofChange treeEndsSpec)) treeEndsCard

/-- THE SECOND FORM's CARD OF 'quorumlaw6.TreeMany'. -/
def treeManyUptoCard : Claim7 := { stood := { row := treeManyUptoRow, standIns := [], harness := (true, "8524888428539b39de7dad6f92b27b0c5d54dfddca2167de178f0ee963faae52"), looks := false }, kinds := [], alts := [], laidByText := true, laidKinds := [.data, .data, .data], laidTests := true, laidLooks := .later }
def TreeManyUptoCardSaid : Prop := Claim7.holds Tryz.pinned (.plain (OpenSpec.upto treeManySpec)) treeManyUptoCard

/-- THE SECOND FORM's CARD OF 'quorumlaw6.TreeUp'. -/
def treeUpUptoCard : Claim7 := { stood := { row := treeUpUptoRow, standIns := [], harness := (true, "8524888428539b39de7dad6f92b27b0c5d54dfddca2167de178f0ee963faae52"), looks := false }, kinds := [], alts := [], laidByText := true, laidKinds := [.data, .data, .data], laidTests := true, laidLooks := .later }
def TreeUpUptoCardSaid : Prop := Claim7.holds Tryz.pinned (.plain (OpenSpec.upto treeUpSpec)) treeUpUptoCard

/-- THE SECOND FORM's CARD OF 'quorumlaw6.TreeDown'. -/
def treeDownUptoCard : Claim7 := { stood := { row := treeDownUptoRow, standIns := [], harness := (true, "8524888428539b39de7dad6f92b27b0c5d54dfddca2167de178f0ee963faae52"), looks := false }, kinds := [], alts := [], laidByText := true, laidKinds := [.data, .data, .data], laidTests := true, laidLooks := .later }
def TreeDownUptoCardSaid : Prop := Claim7.holds Tryz.pinned (.plain (OpenSpec.upto treeDownSpec)) treeDownUptoCard

/-- THE SECOND FORM's CARD OF 'quorumlaw6.TreeEnds'. -/
def treeEndsUptoCard : Claim7 := { stood := { row := treeEndsUptoRow, standIns := [], harness := (true, "8524888428539b39de7dad6f92b27b0c5d54dfddca2167de178f0ee963faae52"), looks := false }, kinds := [], alts := [], laidByText := true, laidKinds := [.data, .data, .data], laidTests := true, laidLooks := .later }
def TreeEndsUptoCardSaid : Prop := Claim7.holds Tryz.pinned (.plain (OpenSpec.upto treeEndsSpec)) treeEndsUptoCard
end Rows
end Go.Proofs.YtaophiknldkfdaaGreatDoor
