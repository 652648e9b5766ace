/-
  DERIVED. GIVEN WITH THE SEED: THE CARDS: each row of YtecngehkdjmjmaaDoorRows.lean that lists a variable, with what it lists TIED to the program's text (the seventh form; the later family's looks); each row that meets fmt, with fmt's text TOLD by the authors' own Lean function (tested against real Go, not proved from fmt's source: count such statements apart). THE CARD IS WHAT COUNTS. Prove the row's statement (the work); the ties are given (YtecngehkdjmjmaaDoorTie.lean); close each card by the builder's one call (the guide's Derived/Test/ToyasCard.lean, 'card_holds'). Laid BY PROGRAM, IN A SANDBOX (cutbox-door.mjs). By AI agents, Wed Nov 11 2026. No macro, syntax, notation, axiom, sorry.
-/
import Derived.Test.YtecngehkdjmjmaaDoorRows
import GoSem.ClaimSeven
namespace Go.Proofs.YtecngehkdjmjmaaDoor
namespace Rows

/-- THE TIED CARD OF 'kintsugilaw11.InodePuts'. -/
def inodePutsCard : Claim7 := { stood := { row := inodePutsRow, standIns := [], harness := (true, "6850ea07b6eb89ee9f410343f08351ccc3f1fe1711e800371fa7dd1c1969b79e"), looks := false }, kinds := [], alts := [], laidByText := true, laidKinds := [.data], laidTests := true, laidLooks := .later }
def InodePutsCardSaid : Prop := Claim7.holds Tryd.pinned (.plain (OpenSpec.ofChange inodePutsSpec)) inodePutsCard

/-- THE TIED CARD OF 'kintsugilaw11.InodeTakes'. -/
def inodeTakesCard : Claim7 := { stood := { row := inodeTakesRow, standIns := [], harness := (true, "6850ea07b6eb89ee9f410343f08351ccc3f1fe1711e800371fa7dd1c1969b79e"), looks := false }, kinds := [], alts := [], laidByText := true, laidKinds := [.data], laidTests := true, laidLooks := .later }
def InodeTakesCardSaid : Prop := Claim7.holds Tryd.pinned (.plain (OpenSpec.ofChange inodeTakesSpec)) inodeTakesCard

/-- THE TIED CARD OF 'kintsugilaw11.InodeLeaves'. -/
def inodeLeavesCard : Claim7 := { stood := { row := inodeLeavesRow, standIns := [], harness := (true, "6850ea07b6eb89ee9f410343f08351ccc3f1fe1711e800371fa7dd1c1969b79e"), looks := false }, kinds := [], alts := [], laidByText := true, laidKinds := [.data], laidTests := true, laidLooks := .later }
def InodeLeavesCardSaid : Prop := Claim7.holds Tryd.pinned (.plain (OpenSpec.ofChange inodeLeavesSpec)) inodeLeavesCard

/-- THE TIED CARD OF 'kintsugilaw11.InodeBack'. -/
def inodeBackCard : Claim7 := { stood := { row := inodeBackRow, standIns := [], harness := (true, "6850ea07b6eb89ee9f410343f08351ccc3f1fe1711e800371fa7dd1c1969b79e"), looks := false }, kinds := [], alts := [], laidByText := true, laidKinds := [.data], laidTests := true, laidLooks := .later }
def InodeBackCardSaid : Prop := Claim7.holds Tryd.pinned (.plain (OpenSpec.ofChange inodeBackSpec)) inodeBackCard

/-- THE SECOND FORM's CARD OF 'kintsugilaw11.InodePuts'. -/
def inodePutsUptoCard : Claim7 := { stood := { row := inodePutsUptoRow, standIns := [], harness := (true, "6850ea07b6eb89ee9f410343f08351ccc3f1fe1711e800371fa7dd1c1969b79e"), looks := false }, kinds := [], alts := [], laidByText := true, laidKinds := [.data], laidTests := true, laidLooks := .later }
def InodePutsUptoCardSaid : Prop := Claim7.holds Tryd.pinned (.plain (OpenSpec.upto inodePutsSpec)) inodePutsUptoCard

/-- THE SECOND FORM's CARD OF 'kintsugilaw11.InodeTakes'. -/
def inodeTakesUptoCard : Claim7 := { stood := { row := inodeTakesUptoRow, standIns := [], harness := (true, "6850ea07b6eb89ee9f410343f08351ccc3f1fe1711e800371fa7dd1c1969b79e"), looks := false }, kinds := [], alts := [], laidByText := true, laidKinds := [.data], laidTests := true, laidLooks := .later }
def InodeTakesUptoCardSaid : Prop := Claim7.holds Tryd.pinned (.plain (OpenSpec.upto inodeTakesSpec)) inodeTakesUptoCard

/-- THE SECOND FORM's CARD OF 'kintsugilaw11.InodeLeaves'. -/
def inodeLeavesUptoCard : Claim7 := { stood := { row := inodeLeavesUptoRow, standIns := [], harness := (true, "6850ea07b6eb89ee9f410343f08351ccc3f1fe1711e800371fa7dd1c1969b79e"), looks := false }, kinds := [], alts := [], laidByText := true, laidKinds := [.data], laidTests := true, laidLooks := .later }
def InodeLeavesUptoCardSaid : Prop := Claim7.holds Tryd.pinned (.plain (OpenSpec.upto inodeLeavesSpec)) inodeLeavesUptoCard

/-- THE SECOND FORM's CARD OF 'kintsugilaw11.InodeBack'. -/
def inodeBackUptoCard : Claim7 := { stood := { row := inodeBackUptoRow, standIns := [], harness := (true, "6850ea07b6eb89ee9f410343f08351ccc3f1fe1711e800371fa7dd1c1969b79e"), looks := false }, kinds := [], alts := [], laidByText := true, laidKinds := [.data], laidTests := true, laidLooks := .later }
def InodeBackUptoCardSaid : Prop := Claim7.holds Tryd.pinned (.plain (OpenSpec.upto inodeBackSpec)) inodeBackUptoCard
end Rows
end Go.Proofs.YtecngehkdjmjmaaDoor
