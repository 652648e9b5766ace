/-
  NARROWER THAN 'FOR EVERY INPUT', by the rows' own cells (each row's printed sentence says how): TreeMaps: laid · TreeFails: laid.
  DERIVED. THE GIVEN ROWS OF THIS SEAT. 2 by the template 'for every input the law returns true; each argument reads behind the call as it read before'; 0 by the template 'total and deterministic' (their statements: YtfcjeceoedfldaaDoorTotals.lean).
  GIVEN WITH THE SEED: the statements are not yours to turn. If you find one false, say at which input.
  Laid BY PROGRAM, IN A SANDBOX (cutbox-rows.mjs): the forced cells as the released guide's own fill.sh prints them over the translation 70f4bdc5984f4cfe… (all of the seat's roots in one cut). By AI agents, Wed Nov 11 2026. No macro, syntax, notation, axiom, sorry.
-/
import Derived.Test.YtfcjeceoedfldaaDoorChecked
import GoSem.Claim
import GoSem.ClaimJoined
import GoSem.ClaimMapViews
import Derived.JoinedTies
import Derived.KernelRfl
namespace Go.Proofs.YtfcjeceoedfldaaDoor
/- THE CELL 'sum', in the pinned program and in every row, IS THE sha256 OF THE DUMP (.gsa) THAT YtfcjeceoedfldaaDoorProg.lean LOADS. Nothing in Lean hashes anything: it is a label: what it is worth is what the hold of that sum in a sandbox is worth. -/
noncomputable def Tryd.pinned : Pinned := { name := "ytfcjeceoedfldaadoor", sum := "70f4bdc5984f4cfe31c676f4616e08f26032b398db0b7e4375427e8e62cc2e4b", checked := Tryd.checked }
namespace Rows
def none {H : Type} : Left H := { results := [], args := [] }

/- WHAT THE LISTED PACKAGE-LEVEL VARIABLES READ AS WHEN THE CALL BEGINS. Each datum BY PROGRAM (the guide's laid-datum.mjs) off the statement by which the dump's own 'gosem.cut.vars' lays the variable. In a bare row this is a premise. The card (YtfcjeceoedfldaaDoorCards.lean) ties it to the program's text. -/
def laid_kintsugi_ptr_rules {H : Type} : DataW H := .agg [.agg [.lit (.int .i64 0), .lit (.int .u8 0), .lit (.int .u8 0)], .agg [.lit (.int .i64 1), .lit (.int .u8 0), .lit (.int .u8 0)], .agg [.lit (.int .i64 2), .lit (.int .u8 0), .lit (.int .u8 0)], .agg [.lit (.int .i64 2), .lit (.int .u8 1), .lit (.int .u8 2)], .agg [.lit (.int .i64 2), .lit (.int .u8 0), .lit (.int .u8 0)], .agg [.lit (.int .i64 2), .lit (.int .u8 0), .lit (.int .u8 0)]]

/-- 'kintsugilaw10.TreeMaps': WHATEVER THE INPUT: true; the input reads as it did. -/
def treeMapsSpec : ChangeSpec := { name := "treeMaps", fn := fun _ => fun
  | [d] => { results := [.lit (.bool true)], args := [d] }
  | _ => none }
def treeMapsRow : OpenClaim := { program := "ytfcjeceoedfldaadoor", sum := "70f4bdc5984f4cfe31c676f4616e08f26032b398db0b7e4375427e8e62cc2e4b", func := "kintsugi/kintsugilaw10.TreeMaps", spec := "treeMaps", unfollowed := true, recurses := true, named := ["kintsugi/ptr.rules"], apart := false, laid := [("kintsugi/ptr.rules", laid_kintsugi_ptr_rules)] }
def TreeMapsSaid : Prop := treeMapsRow.holds Tryd.pinned (OpenSpec.ofChange treeMapsSpec)

/-- ITS FALSE NEIGHBOUR: 'it returns false'. Refute it at one input. -/
def treeMapsWrong : ChangeSpec := { name := "treeMaps", fn := fun _ => fun
  | [d] => { results := [.lit (.bool false)], args := [d] }
  | _ => none }
def TreeMapsWrongFalsely : Prop := treeMapsRow.holds Tryd.pinned (OpenSpec.ofChange treeMapsWrong)

/-- 'kintsugilaw10.TreeFails': WHATEVER THE INPUT: true; the input reads as it did. -/
def treeFailsSpec : ChangeSpec := { name := "treeFails", fn := fun _ => fun
  | [d1, d2, d3, d4, d5] => { results := [.lit (.bool true)], args := [d1, d2, d3, d4, d5] }
  | _ => none }
def treeFailsRow : OpenClaim := { program := "ytfcjeceoedfldaadoor", sum := "70f4bdc5984f4cfe31c676f4616e08f26032b398db0b7e4375427e8e62cc2e4b", func := "kintsugi/kintsugilaw10.TreeFails", spec := "treeFails", unfollowed := true, recurses := true, named := ["kintsugi/ptr.rules"], apart := false, laid := [("kintsugi/ptr.rules", laid_kintsugi_ptr_rules)] }
def TreeFailsSaid : Prop := treeFailsRow.holds Tryd.pinned (OpenSpec.ofChange treeFailsSpec)

/-- ITS FALSE NEIGHBOUR: 'it returns false'. Refute it at one input. -/
def treeFailsWrong : ChangeSpec := { name := "treeFails", fn := fun _ => fun
  | [d1, d2, d3, d4, d5] => { results := [.lit (.bool false)], args := [d1, d2, d3, d4, d5] }
  | _ => none }
def TreeFailsWrongFalsely : Prop := treeFailsRow.holds Tryd.pinned (OpenSpec.ofChange treeFailsWrong)

/- THE SECOND FORM. 'bulk': how many values and letters a reading holds, each counted each time it is reached (what is shared counts as often as it is met; a slice's spare places count too). A statement '..UptoSaid' is the law's where the arguments, and the package variables that the reading takes, are together of bulk at most 1048576: NARROWER than '..Said'. Prove '..Said' where nothing that the law and all that it calls make is longer than what came in: it says more and counts as full. Else prove '..UptoSaid'. A law counts once. -/
mutual
def uptoBulk {H : Type} : DataW H → Nat
  | .lit (.string bytes) => bytes.length + 1
  | .lit _ => 1
  | .nil => 1
  | .ptr d => uptoBulk d + 1
  | .slice elems spare => uptoBulkAll elems + uptoBulkAll spare + 1
  | .agg parts => uptoBulkAll parts + 1
  | .iface _ d => uptoBulk d + 1
  | .map entries => uptoBulkEntries entries + 1
  | .held _ => 1
def uptoBulkAll {H : Type} : List (DataW H) → Nat
  | [] => 0
  | d :: r => uptoBulk d + uptoBulkAll r
def uptoBulkEntries {H : Type} : List (Lit × DataW H) → Nat
  | [] => 0
  | x :: r => uptoBulkEntry x + uptoBulkEntries r
def uptoBulkEntry {H : Type} : Lit × DataW H → Nat
  | (.string bytes, d) => bytes.length + uptoBulk d + 1
  | (_, d) => uptoBulk d + 1
 end
def uptoSmall : (H : Type) → List (DataW H) → Bool := fun _ ds => decide (uptoBulkAll ds ≤ 1048576)
def OpenSpec.upto (s : _root_.Go.ChangeSpec) : _root_.Go.OpenSpec := { _root_.Go.OpenSpec.ofChange s with cond := some uptoSmall }

/-- 'kintsugilaw10.TreeMaps', WHERE WHAT IT READS IS OF BULK AT MOST 1048576: true; the input reads as it did. -/
def treeMapsUptoRow : OpenClaim := { program := "ytfcjeceoedfldaadoor", sum := "70f4bdc5984f4cfe31c676f4616e08f26032b398db0b7e4375427e8e62cc2e4b", func := "kintsugi/kintsugilaw10.TreeMaps", spec := "treeMaps", unfollowed := true, recurses := true, named := ["kintsugi/ptr.rules"], apart := false, laid := [("kintsugi/ptr.rules", laid_kintsugi_ptr_rules)], narrowed := true }
def TreeMapsUptoSaid : Prop := treeMapsUptoRow.holds Tryd.pinned (OpenSpec.upto treeMapsSpec)

/-- 'kintsugilaw10.TreeFails', WHERE WHAT IT READS IS OF BULK AT MOST 1048576: true; the input reads as it did. -/
def treeFailsUptoRow : OpenClaim := { program := "ytfcjeceoedfldaadoor", sum := "70f4bdc5984f4cfe31c676f4616e08f26032b398db0b7e4375427e8e62cc2e4b", func := "kintsugi/kintsugilaw10.TreeFails", spec := "treeFails", unfollowed := true, recurses := true, named := ["kintsugi/ptr.rules"], apart := false, laid := [("kintsugi/ptr.rules", laid_kintsugi_ptr_rules)], narrowed := true }
def TreeFailsUptoSaid : Prop := treeFailsUptoRow.holds Tryd.pinned (OpenSpec.upto treeFailsSpec)

end Rows
end Go.Proofs.YtfcjeceoedfldaaDoor
