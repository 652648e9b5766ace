/-
  NARROWER THAN 'FOR EVERY INPUT', by the rows' own cells (each row's printed sentence says how): NodePuts: laid · NodeTakes: laid · NodeBack: laid.
  DERIVED. THE GIVEN ROWS OF THIS SEAT. 3 by the template 'for every input the law returns true; each argument reads behind the call as it read before'; 0 by the template 'total and deterministic' (their statements: YtincpdnmaiimnaaDoorTotals.lean).
  GIVEN WITH THE SEED: the statements are not yours to turn. If you find one false, say at which input.
  Laid BY PROGRAM, IN A SANDBOX (cutbox-rows.mjs): the forced cells as the released guide's own fill.sh prints them over the translation d38a2e8fa61243f9… (all of the seat's roots in one cut). By AI agents, Wed Nov 11 2026. No macro, syntax, notation, axiom, sorry.
-/
import Derived.Test.YtincpdnmaiimnaaDoorChecked
import GoSem.Claim
import GoSem.ClaimJoined
import GoSem.ClaimMapViews
import Derived.JoinedTies
import Derived.KernelRfl
namespace Go.Proofs.YtincpdnmaiimnaaDoor
/- THE CELL 'sum', in the pinned program and in every row, IS THE sha256 OF THE DUMP (.gsa) THAT YtincpdnmaiimnaaDoorProg.lean LOADS. Nothing in Lean hashes anything: it is a label: what it is worth is what the hold of that sum in a sandbox is worth. -/
noncomputable def Tryd.pinned : Pinned := { name := "ytincpdnmaiimnaadoor", sum := "d38a2e8fa61243f9c866930da6099c4dd700bbd909578d111cbe2eef7fcff795", checked := Tryd.checked }
namespace Rows
def none {H : Type} : Left H := { results := [], args := [] }

/- WHAT THE LISTED PACKAGE-LEVEL VARIABLES READ AS WHEN THE CALL BEGINS. Each datum BY PROGRAM (the guide's laid-datum.mjs) off the statement by which the dump's own 'gosem.cut.vars' lays the variable. In a bare row this is a premise. The card (YtincpdnmaiimnaaDoorCards.lean) ties it to the program's text. -/
def laid_kintsugi_ptr_rules {H : Type} : DataW H := .agg [.agg [.lit (.int .i64 0), .lit (.int .u8 0), .lit (.int .u8 0)], .agg [.lit (.int .i64 1), .lit (.int .u8 0), .lit (.int .u8 0)], .agg [.lit (.int .i64 2), .lit (.int .u8 0), .lit (.int .u8 0)], .agg [.lit (.int .i64 2), .lit (.int .u8 1), .lit (.int .u8 2)], .agg [.lit (.int .i64 2), .lit (.int .u8 0), .lit (.int .u8 0)], .agg [.lit (.int .i64 2), .lit (.int .u8 0), .lit (.int .u8 0)]]

/-- 'kintsugilaw09.NodePuts': WHATEVER THE INPUT: true; the input reads as it did. -/
def nodePutsSpec : ChangeSpec := { name := "nodePuts", fn := fun _ => fun
  | [d] => { results := [.lit (.bool true)], args := [d] }
  | _ => none }
def nodePutsRow : OpenClaim := { program := "ytincpdnmaiimnaadoor", sum := "d38a2e8fa61243f9c866930da6099c4dd700bbd909578d111cbe2eef7fcff795", func := "kintsugi/kintsugilaw09.NodePuts", spec := "nodePuts", unfollowed := true, recurses := true, named := ["kintsugi/ptr.rules"], apart := false, laid := [("kintsugi/ptr.rules", laid_kintsugi_ptr_rules)] }
def NodePutsSaid : Prop := nodePutsRow.holds Tryd.pinned (OpenSpec.ofChange nodePutsSpec)

/-- ITS FALSE NEIGHBOUR: 'it returns false'. Refute it at one input. -/
def nodePutsWrong : ChangeSpec := { name := "nodePuts", fn := fun _ => fun
  | [d] => { results := [.lit (.bool false)], args := [d] }
  | _ => none }
def NodePutsWrongFalsely : Prop := nodePutsRow.holds Tryd.pinned (OpenSpec.ofChange nodePutsWrong)

/-- 'kintsugilaw09.NodeTakes': WHATEVER THE INPUT: true; the input reads as it did. -/
def nodeTakesSpec : ChangeSpec := { name := "nodeTakes", fn := fun _ => fun
  | [d] => { results := [.lit (.bool true)], args := [d] }
  | _ => none }
def nodeTakesRow : OpenClaim := { program := "ytincpdnmaiimnaadoor", sum := "d38a2e8fa61243f9c866930da6099c4dd700bbd909578d111cbe2eef7fcff795", func := "kintsugi/kintsugilaw09.NodeTakes", spec := "nodeTakes", unfollowed := true, recurses := true, named := ["kintsugi/ptr.rules"], apart := false, laid := [("kintsugi/ptr.rules", laid_kintsugi_ptr_rules)] }
def NodeTakesSaid : Prop := nodeTakesRow.holds Tryd.pinned (OpenSpec.ofChange nodeTakesSpec)

/-- ITS FALSE NEIGHBOUR: 'it returns false'. Refute it at one input. -/
def nodeTakesWrong : ChangeSpec := { name := "nodeTakes", fn := fun _ => fun
  | [d] => { results := [.lit (.bool false)], args := [d] }
  | _ => none }
def NodeTakesWrongFalsely : Prop := nodeTakesRow.holds Tryd.pinned (OpenSpec.ofChange nodeTakesWrong)

/-- 'kintsugilaw09.NodeBack': WHATEVER THE INPUT: true; the input reads as it did. -/
def nodeBackSpec : ChangeSpec := { name := "nodeBack", fn := fun _ => fun
  | [d1, d2, d3, d4] => { results := [.lit (.bool true)], args := [d1, d2, d3, d4] }
  | _ => none }
def nodeBackRow : OpenClaim := { program := "ytincpdnmaiimnaadoor", sum := "d38a2e8fa61243f9c866930da6099c4dd700bbd909578d111cbe2eef7fcff795", func := "kintsugi/kintsugilaw09.NodeBack", spec := "nodeBack", unfollowed := true, recurses := true, named := ["kintsugi/ptr.rules"], apart := false, laid := [("kintsugi/ptr.rules", laid_kintsugi_ptr_rules)] }
def NodeBackSaid : Prop := nodeBackRow.holds Tryd.pinned (OpenSpec.ofChange nodeBackSpec)

/-- ITS FALSE NEIGHBOUR: 'it returns false'. Refute it at one input. -/
def nodeBackWrong : ChangeSpec := { name := "nodeBack", fn := fun _ => fun
  | [d1, d2, d3, d4] => { results := [.lit (.bool false)], args := [d1, d2, d3, d4] }
  | _ => none }
def NodeBackWrongFalsely : Prop := nodeBackRow.holds Tryd.pinned (OpenSpec.ofChange nodeBackWrong)

/- THE SECOND FORM. 'bulk': how many values and letters a reading holds, each counted each time it is reached (what is shared counts as often as it is met; a slice's spare places count too). A statement '..UptoSaid' is the law's where the arguments, and the package variables that the reading takes, are together of bulk at most 1048576: NARROWER than '..Said'. Prove '..Said' where nothing that the law and all that it calls make is longer than what came in: it says more and counts as full. Else prove '..UptoSaid'. A law counts once. -/
mutual
def uptoBulk {H : Type} : DataW H → Nat
  | .lit (.string bytes) => bytes.length + 1
  | .lit _ => 1
  | .nil => 1
  | .ptr d => uptoBulk d + 1
  | .slice elems spare => uptoBulkAll elems + uptoBulkAll spare + 1
  | .agg parts => uptoBulkAll parts + 1
  | .iface _ d => uptoBulk d + 1
  | .map entries => uptoBulkEntries entries + 1
  | .held _ => 1
def uptoBulkAll {H : Type} : List (DataW H) → Nat
  | [] => 0
  | d :: r => uptoBulk d + uptoBulkAll r
def uptoBulkEntries {H : Type} : List (Lit × DataW H) → Nat
  | [] => 0
  | x :: r => uptoBulkEntry x + uptoBulkEntries r
def uptoBulkEntry {H : Type} : Lit × DataW H → Nat
  | (.string bytes, d) => bytes.length + uptoBulk d + 1
  | (_, d) => uptoBulk d + 1
 end
def uptoSmall : (H : Type) → List (DataW H) → Bool := fun _ ds => decide (uptoBulkAll ds ≤ 1048576)
def OpenSpec.upto (s : _root_.Go.ChangeSpec) : _root_.Go.OpenSpec := { _root_.Go.OpenSpec.ofChange s with cond := some uptoSmall }

/-- 'kintsugilaw09.NodePuts', WHERE WHAT IT READS IS OF BULK AT MOST 1048576: true; the input reads as it did. -/
def nodePutsUptoRow : OpenClaim := { program := "ytincpdnmaiimnaadoor", sum := "d38a2e8fa61243f9c866930da6099c4dd700bbd909578d111cbe2eef7fcff795", func := "kintsugi/kintsugilaw09.NodePuts", spec := "nodePuts", unfollowed := true, recurses := true, named := ["kintsugi/ptr.rules"], apart := false, laid := [("kintsugi/ptr.rules", laid_kintsugi_ptr_rules)], narrowed := true }
def NodePutsUptoSaid : Prop := nodePutsUptoRow.holds Tryd.pinned (OpenSpec.upto nodePutsSpec)

/-- 'kintsugilaw09.NodeTakes', WHERE WHAT IT READS IS OF BULK AT MOST 1048576: true; the input reads as it did. -/
def nodeTakesUptoRow : OpenClaim := { program := "ytincpdnmaiimnaadoor", sum := "d38a2e8fa61243f9c866930da6099c4dd700bbd909578d111cbe2eef7fcff795", func := "kintsugi/kintsugilaw09.NodeTakes", spec := "nodeTakes", unfollowed := true, recurses := true, named := ["kintsugi/ptr.rules"], apart := false, laid := [("kintsugi/ptr.rules", laid_kintsugi_ptr_rules)], narrowed := true }
def NodeTakesUptoSaid : Prop := nodeTakesUptoRow.holds Tryd.pinned (OpenSpec.upto nodeTakesSpec)

/-- 'kintsugilaw09.NodeBack', WHERE WHAT IT READS IS OF BULK AT MOST 1048576: true; the input reads as it did. -/
def nodeBackUptoRow : OpenClaim := { program := "ytincpdnmaiimnaadoor", sum := "d38a2e8fa61243f9c866930da6099c4dd700bbd909578d111cbe2eef7fcff795", func := "kintsugi/kintsugilaw09.NodeBack", spec := "nodeBack", unfollowed := true, recurses := true, named := ["kintsugi/ptr.rules"], apart := false, laid := [("kintsugi/ptr.rules", laid_kintsugi_ptr_rules)], narrowed := true }
def NodeBackUptoSaid : Prop := nodeBackUptoRow.holds Tryd.pinned (OpenSpec.upto nodeBackSpec)

end Rows
end Go.Proofs.YtincpdnmaiimnaaDoor
