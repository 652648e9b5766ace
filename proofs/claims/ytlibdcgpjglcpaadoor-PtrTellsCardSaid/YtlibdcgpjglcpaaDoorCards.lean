/-
  DERIVED. GIVEN WITH THE SEED: THE CARDS: each row of YtlibdcgpjglcpaaDoorRows.lean that lists a variable, with what it lists TIED to the program's text (the seventh form; the later family's looks); each row that meets fmt, with fmt's text TOLD by the authors' own Lean function (tested against real Go, not proved from fmt's source: count such statements apart). THE CARD IS WHAT COUNTS. Prove the row's statement (the work); the ties are given (YtlibdcgpjglcpaaDoorTie.lean); close each card by the builder's one call (the guide's Derived/Test/ToyasCard.lean, 'card_holds'). Laid BY PROGRAM, IN A SANDBOX (cutbox-door.mjs). By AI agents, Wed Nov 11 2026. No macro, syntax, notation, axiom, sorry.
-/
import Derived.Test.YtlibdcgpjglcpaaDoorRows
import GoSem.ClaimSeven
namespace Go.Proofs.YtlibdcgpjglcpaaDoor
namespace Rows

/-- THE TIED CARD OF 'kintsugilaw06.PtrTells'. -/
def ptrTellsCard : Claim7 := { stood := { row := ptrTellsRow, standIns := [], harness := (true, "03fe87e7a4f24602a8ebe08b92b825c9543fc55fd924062a7493850936d27b5d"), looks := false }, kinds := [], alts := [], laidByText := true, laidKinds := [.data, .data], laidTests := true, laidLooks := .later }
def PtrTellsCardSaid : Prop := Claim7.holds Tryd.pinned (.plain (OpenSpec.ofChange ptrTellsSpec)) ptrTellsCard

/-- THE TIED CARD OF 'kintsugilaw06.PtrTakes'. -/
def ptrTakesCard : Claim7 := { stood := { row := ptrTakesRow, standIns := [], harness := (true, "03fe87e7a4f24602a8ebe08b92b825c9543fc55fd924062a7493850936d27b5d"), looks := false }, kinds := [], alts := [], laidByText := true, laidKinds := [.data, .data], laidTests := true, laidLooks := .later }
def PtrTakesCardSaid : Prop := Claim7.holds Tryd.pinned (.plain (OpenSpec.ofChange ptrTakesSpec)) ptrTakesCard

/-- THE TIED CARD OF 'kintsugilaw06.PtrOne'. -/
def ptrOneCard : Claim7 := { stood := { row := ptrOneRow, standIns := [], harness := (true, "03fe87e7a4f24602a8ebe08b92b825c9543fc55fd924062a7493850936d27b5d"), looks := false }, kinds := [], alts := [], laidByText := true, laidKinds := [.data, .data], laidTests := true, laidLooks := .later }
def PtrOneCardSaid : Prop := Claim7.holds Tryd.pinned (.plain (OpenSpec.ofChange ptrOneSpec)) ptrOneCard

/-- THE SECOND FORM's CARD OF 'kintsugilaw06.PtrTells'. -/
def ptrTellsUptoCard : Claim7 := { stood := { row := ptrTellsUptoRow, standIns := [], harness := (true, "03fe87e7a4f24602a8ebe08b92b825c9543fc55fd924062a7493850936d27b5d"), looks := false }, kinds := [], alts := [], laidByText := true, laidKinds := [.data, .data], laidTests := true, laidLooks := .later }
def PtrTellsUptoCardSaid : Prop := Claim7.holds Tryd.pinned (.plain (OpenSpec.upto ptrTellsSpec)) ptrTellsUptoCard

/-- THE SECOND FORM's CARD OF 'kintsugilaw06.PtrTakes'. -/
def ptrTakesUptoCard : Claim7 := { stood := { row := ptrTakesUptoRow, standIns := [], harness := (true, "03fe87e7a4f24602a8ebe08b92b825c9543fc55fd924062a7493850936d27b5d"), looks := false }, kinds := [], alts := [], laidByText := true, laidKinds := [.data, .data], laidTests := true, laidLooks := .later }
def PtrTakesUptoCardSaid : Prop := Claim7.holds Tryd.pinned (.plain (OpenSpec.upto ptrTakesSpec)) ptrTakesUptoCard

/-- THE SECOND FORM's CARD OF 'kintsugilaw06.PtrOne'. -/
def ptrOneUptoCard : Claim7 := { stood := { row := ptrOneUptoRow, standIns := [], harness := (true, "03fe87e7a4f24602a8ebe08b92b825c9543fc55fd924062a7493850936d27b5d"), looks := false }, kinds := [], alts := [], laidByText := true, laidKinds := [.data, .data], laidTests := true, laidLooks := .later }
def PtrOneUptoCardSaid : Prop := Claim7.holds Tryd.pinned (.plain (OpenSpec.upto ptrOneSpec)) ptrOneUptoCard
end Rows
end Go.Proofs.YtlibdcgpjglcpaaDoor
