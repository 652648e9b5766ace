/-
  No cell of these rows narrows 'for every input' (looked for: loops, veiled, ifaces, maps, wideKeys, modest, calm, conditions, laid).
  DERIVED. THE GIVEN ROWS OF THIS SEAT. 3 by the template 'for every input the law returns true; each argument reads behind the call as it read before'; 0 by the template 'total and deterministic' (their statements: YtchbeaogbjmddaaTotals.lean).
  GIVEN WITH THE SEED: the statements are not yours to turn. If you find one false, say at which input.
  Laid BY PROGRAM, IN A SANDBOX (cutbox-rows.mjs): the forced cells as the released guide's own fill.sh prints them over the translation 99babab50e72d8cf… (all of the seat's roots in one cut). By AI agents, Wed Nov 11 2026. No macro, syntax, notation, axiom, sorry.
-/
import Derived.Test.YtchbeaogbjmddaaChecked
import GoSem.Claim
import GoSem.ClaimJoined
import GoSem.ClaimMapViews
import Derived.JoinedTies
import Derived.KernelRfl
namespace Go.Proofs.Ytchbeaogbjmddaa
/- THE CELL 'sum', in the pinned program and in every row, IS THE sha256 OF THE DUMP (.gsa) THAT YtchbeaogbjmddaaProg.lean LOADS. Nothing in Lean hashes anything: it is a label: what it is worth is what the hold of that sum in a sandbox is worth. -/
noncomputable def Try.pinned : Pinned := { name := "ytchbeaogbjmddaa", sum := "99babab50e72d8cfce6e8c169a831e74e0dce7c682ec02c8ba09bda7c1a45a87", checked := Try.checked }
namespace Rows
def none {H : Type} : Left H := { results := [], args := [] }

/-- 'kintsugilaw05.AnchorBytes': WHATEVER THE INPUT: true; the input reads as it did. -/
def anchorBytesSpec : ChangeSpec := { name := "anchorBytes", fn := fun _ => fun
  | [d1, d2] => { results := [.lit (.bool true)], args := [d1, d2] }
  | _ => none }
def anchorBytesRow : OpenClaim := { program := "ytchbeaogbjmddaa", sum := "99babab50e72d8cfce6e8c169a831e74e0dce7c682ec02c8ba09bda7c1a45a87", func := "kintsugi/kintsugilaw05.AnchorBytes", spec := "anchorBytes", apart := false }
def AnchorBytesSaid : Prop := anchorBytesRow.holds Try.pinned (OpenSpec.ofChange anchorBytesSpec)

/-- ITS FALSE NEIGHBOUR: 'it returns false'. Refute it at one input. -/
def anchorBytesWrong : ChangeSpec := { name := "anchorBytes", fn := fun _ => fun
  | [d1, d2] => { results := [.lit (.bool false)], args := [d1, d2] }
  | _ => none }
def AnchorBytesWrongFalsely : Prop := anchorBytesRow.holds Try.pinned (OpenSpec.ofChange anchorBytesWrong)

/-- 'kintsugilaw05.AnchorWhole': WHATEVER THE INPUT: true; the input reads as it did. -/
def anchorWholeSpec : ChangeSpec := { name := "anchorWhole", fn := fun _ => fun
  | [d] => { results := [.lit (.bool true)], args := [d] }
  | _ => none }
def anchorWholeRow : OpenClaim := { program := "ytchbeaogbjmddaa", sum := "99babab50e72d8cfce6e8c169a831e74e0dce7c682ec02c8ba09bda7c1a45a87", func := "kintsugi/kintsugilaw05.AnchorWhole", spec := "anchorWhole", apart := false }
def AnchorWholeSaid : Prop := anchorWholeRow.holds Try.pinned (OpenSpec.ofChange anchorWholeSpec)

/-- ITS FALSE NEIGHBOUR: 'it returns false'. Refute it at one input. -/
def anchorWholeWrong : ChangeSpec := { name := "anchorWhole", fn := fun _ => fun
  | [d] => { results := [.lit (.bool false)], args := [d] }
  | _ => none }
def AnchorWholeWrongFalsely : Prop := anchorWholeRow.holds Try.pinned (OpenSpec.ofChange anchorWholeWrong)

/-- 'kintsugilaw05.AnchorNil': WHATEVER THE INPUT: true; the input reads as it did. -/
def anchorNilSpec : ChangeSpec := { name := "anchorNil", fn := fun _ => fun
  | [d] => { results := [.lit (.bool true)], args := [d] }
  | _ => none }
def anchorNilRow : OpenClaim := { program := "ytchbeaogbjmddaa", sum := "99babab50e72d8cfce6e8c169a831e74e0dce7c682ec02c8ba09bda7c1a45a87", func := "kintsugi/kintsugilaw05.AnchorNil", spec := "anchorNil", apart := false }
def AnchorNilSaid : Prop := anchorNilRow.holds Try.pinned (OpenSpec.ofChange anchorNilSpec)

/-- ITS FALSE NEIGHBOUR: 'it returns false'. Refute it at one input. -/
def anchorNilWrong : ChangeSpec := { name := "anchorNil", fn := fun _ => fun
  | [d] => { results := [.lit (.bool false)], args := [d] }
  | _ => none }
def AnchorNilWrongFalsely : Prop := anchorNilRow.holds Try.pinned (OpenSpec.ofChange anchorNilWrong)

/- THE SECOND FORM. 'bulk': how many values and letters a reading holds, each counted each time it is reached (what is shared counts as often as it is met; a slice's spare places count too). A statement '..UptoSaid' is the law's where the arguments, and the package variables that the reading takes, are together of bulk at most 1048576: NARROWER than '..Said'. Prove '..Said' where nothing that the law and all that it calls make is longer than what came in: it says more and counts as full. Else prove '..UptoSaid'. A law counts once. -/
mutual
def uptoBulk {H : Type} : DataW H → Nat
  | .lit (.string bytes) => bytes.length + 1
  | .lit _ => 1
  | .nil => 1
  | .ptr d => uptoBulk d + 1
  | .slice elems spare => uptoBulkAll elems + uptoBulkAll spare + 1
  | .agg parts => uptoBulkAll parts + 1
  | .iface _ d => uptoBulk d + 1
  | .map entries => uptoBulkEntries entries + 1
  | .held _ => 1
def uptoBulkAll {H : Type} : List (DataW H) → Nat
  | [] => 0
  | d :: r => uptoBulk d + uptoBulkAll r
def uptoBulkEntries {H : Type} : List (Lit × DataW H) → Nat
  | [] => 0
  | x :: r => uptoBulkEntry x + uptoBulkEntries r
def uptoBulkEntry {H : Type} : Lit × DataW H → Nat
  | (.string bytes, d) => bytes.length + uptoBulk d + 1
  | (_, d) => uptoBulk d + 1
 end
def uptoSmall : (H : Type) → List (DataW H) → Bool := fun _ ds => decide (uptoBulkAll ds ≤ 1048576)
def OpenSpec.upto (s : _root_.Go.ChangeSpec) : _root_.Go.OpenSpec := { _root_.Go.OpenSpec.ofChange s with cond := some uptoSmall }

/-- 'kintsugilaw05.AnchorBytes', WHERE WHAT IT READS IS OF BULK AT MOST 1048576: true; the input reads as it did. -/
def anchorBytesUptoRow : OpenClaim := { program := "ytchbeaogbjmddaa", sum := "99babab50e72d8cfce6e8c169a831e74e0dce7c682ec02c8ba09bda7c1a45a87", func := "kintsugi/kintsugilaw05.AnchorBytes", spec := "anchorBytes", apart := false, narrowed := true }
def AnchorBytesUptoSaid : Prop := anchorBytesUptoRow.holds Try.pinned (OpenSpec.upto anchorBytesSpec)

/-- 'kintsugilaw05.AnchorWhole', WHERE WHAT IT READS IS OF BULK AT MOST 1048576: true; the input reads as it did. -/
def anchorWholeUptoRow : OpenClaim := { program := "ytchbeaogbjmddaa", sum := "99babab50e72d8cfce6e8c169a831e74e0dce7c682ec02c8ba09bda7c1a45a87", func := "kintsugi/kintsugilaw05.AnchorWhole", spec := "anchorWhole", apart := false, narrowed := true }
def AnchorWholeUptoSaid : Prop := anchorWholeUptoRow.holds Try.pinned (OpenSpec.upto anchorWholeSpec)

/-- 'kintsugilaw05.AnchorNil', WHERE WHAT IT READS IS OF BULK AT MOST 1048576: true; the input reads as it did. -/
def anchorNilUptoRow : OpenClaim := { program := "ytchbeaogbjmddaa", sum := "99babab50e72d8cfce6e8c169a831e74e0dce7c682ec02c8ba09bda7c1a45a87", func := "kintsugi/kintsugilaw05.AnchorNil", spec := "anchorNil", apart := false, narrowed := true }
def AnchorNilUptoSaid : Prop := anchorNilUptoRow.holds Try.pinned (OpenSpec.upto anchorNilSpec)

end Rows
end Go.Proofs.Ytchbeaogbjmddaa
