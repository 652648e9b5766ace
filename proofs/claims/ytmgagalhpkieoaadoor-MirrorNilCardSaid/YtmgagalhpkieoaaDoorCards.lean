/-
  DERIVED. GIVEN WITH THE SEED: THE CARDS: each row of YtmgagalhpkieoaaDoorRows.lean that lists a variable, with what it lists TIED to the program's text (the seventh form; the later family's looks); each row that meets fmt, with fmt's text TOLD by the authors' own Lean function (tested against real Go, not proved from fmt's source: count such statements apart). THE CARD IS WHAT COUNTS. Prove the row's statement (the work); the ties are given (YtmgagalhpkieoaaDoorTie.lean); close each card by the builder's one call (the guide's Derived/Test/ToyasCard.lean, 'card_holds'). Laid BY PROGRAM, IN A SANDBOX (cutbox-door.mjs). By AI agents, Wed Nov 11 2026. No macro, syntax, notation, axiom, sorry.
-/
import Derived.Test.YtmgagalhpkieoaaDoorRows
import GoSem.ClaimSeven
namespace Go.Proofs.YtmgagalhpkieoaaDoor
namespace Rows

/-- THE TIED CARD OF 'kintsugilaw08.MirrorNil'. -/
def mirrorNilCard : Claim7 := { stood := { row := mirrorNilRow, standIns := [], harness := (true, "0ff9e5c0ee5711fa9cb7c8dd4350198d977be4576a6158ab00b8dde4b46a348b"), looks := false }, kinds := [], alts := [], laidByText := true, laidKinds := [.data, .data], laidTests := true, laidLooks := .later }
def MirrorNilCardSaid : Prop := Claim7.holds Tryd.pinned (.plain (OpenSpec.ofChange mirrorNilSpec)) mirrorNilCard

/-- THE SECOND FORM's CARD OF 'kintsugilaw08.MirrorNil'. -/
def mirrorNilUptoCard : Claim7 := { stood := { row := mirrorNilUptoRow, standIns := [], harness := (true, "0ff9e5c0ee5711fa9cb7c8dd4350198d977be4576a6158ab00b8dde4b46a348b"), looks := false }, kinds := [], alts := [], laidByText := true, laidKinds := [.data, .data], laidTests := true, laidLooks := .later }
def MirrorNilUptoCardSaid : Prop := Claim7.holds Tryd.pinned (.plain (OpenSpec.upto mirrorNilSpec)) mirrorNilUptoCard
end Rows
end Go.Proofs.YtmgagalhpkieoaaDoor
