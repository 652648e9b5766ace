/-
  DERIVED. GIVEN WITH THE SEED: THE CARDS: each row of YtincpdnmaiimnaaDoorRows.lean that lists a variable, with what it lists TIED to the program's text (the seventh form; the later family's looks); each row that meets fmt, with fmt's text TOLD by the authors' own Lean function (tested against real Go, not proved from fmt's source: count such statements apart). THE CARD IS WHAT COUNTS. Prove the row's statement (the work); the ties are given (YtincpdnmaiimnaaDoorTie.lean); close each card by the builder's one call (the guide's Derived/Test/ToyasCard.lean, 'card_holds'). Laid BY PROGRAM, IN A SANDBOX (cutbox-door.mjs). By AI agents, Wed Nov 11 2026. No macro, syntax, notation, axiom, sorry.
-/
import Derived.Test.YtincpdnmaiimnaaDoorRows
import GoSem.ClaimSeven
namespace Go.Proofs.YtincpdnmaiimnaaDoor
namespace Rows

/-- THE TIED CARD OF 'kintsugilaw09.NodePuts'. -/
def nodePutsCard : Claim7 := { stood := { row := nodePutsRow, standIns := [], harness := (true, "f586c2bf1a386b721375298f2cc784872adfb5ccbacc85733cdb45303b1383d2"), looks := false }, kinds := [], alts := [], laidByText := true, laidKinds := [.data], laidTests := true, laidLooks := .later }
def NodePutsCardSaid : Prop := Claim7.holds Tryd.pinned (.plain (OpenSpec.ofChange nodePutsSpec)) nodePutsCard

/-- THE TIED CARD OF 'kintsugilaw09.NodeTakes'. -/
def nodeTakesCard : Claim7 := { stood := { row := nodeTakesRow, standIns := [], harness := (true, "f586c2bf1a386b721375298f2cc784872adfb5ccbacc85733cdb45303b1383d2"), looks := false }, kinds := [], alts := [], laidByText := true, laidKinds := [.data], laidTests := true, laidLooks := .later }
def NodeTakesCardSaid : Prop := Claim7.holds Tryd.pinned (.plain (OpenSpec.ofChange nodeTakesSpec)) nodeTakesCard

/-- THE TIED CARD OF 'kintsugilaw09.NodeBack'. -/
def nodeBackCard : Claim7 := { stood := { row := nodeBackRow, standIns := [], harness := (true, "f586c2bf1a386b721375298f2cc784872adfb5ccbacc85733cdb45303b1383d2"), looks := false }, kinds := [], alts := [], laidByText := true, laidKinds := [.data], laidTests := true, laidLooks := .later }
def NodeBackCardSaid : Prop := Claim7.holds Tryd.pinned (.plain (OpenSpec.ofChange nodeBackSpec)) nodeBackCard

/-- THE SECOND FORM's CARD OF 'kintsugilaw09.NodePuts'. -/
def nodePutsUptoCard : Claim7 := { stood := { row := nodePutsUptoRow, standIns := [], harness := (true, "f586c2bf1a386b721375298f2cc784872adfb5ccbacc85733cdb45303b1383d2"), looks := false }, kinds := [], alts := [], laidByText := true, laidKinds := [.data], laidTests := true, laidLooks := .later }
def NodePutsUptoCardSaid : Prop := Claim7.holds Tryd.pinned (.plain (OpenSpec.upto nodePutsSpec)) nodePutsUptoCard

/-- THE SECOND FORM's CARD OF 'kintsugilaw09.NodeTakes'. -/
def nodeTakesUptoCard : Claim7 := { stood := { row := nodeTakesUptoRow, standIns := [], harness := (true, "f586c2bf1a386b721375298f2cc784872adfb5ccbacc85733cdb45303b1383d2"), looks := false }, kinds := [], alts := [], laidByText := true, laidKinds := [.data], laidTests := true, laidLooks := .later }
def NodeTakesUptoCardSaid : Prop := Claim7.holds Tryd.pinned (.plain (OpenSpec.upto nodeTakesSpec)) nodeTakesUptoCard

/-- THE SECOND FORM's CARD OF 'kintsugilaw09.NodeBack'. -/
def nodeBackUptoCard : Claim7 := { stood := { row := nodeBackUptoRow, standIns := [], harness := (true, "f586c2bf1a386b721375298f2cc784872adfb5ccbacc85733cdb45303b1383d2"), looks := false }, kinds := [], alts := [], laidByText := true, laidKinds := [.data], laidTests := true, laidLooks := .later }
def NodeBackUptoCardSaid : Prop := Claim7.holds Tryd.pinned (.plain (OpenSpec.upto nodeBackSpec)) nodeBackUptoCard
end Rows
end Go.Proofs.YtincpdnmaiimnaaDoor
