/-
  NARROWER THAN 'FOR EVERY INPUT', by the rows' own cells (each row's printed sentence says how): InodePuts: laid · InodeTakes: laid · InodeLeaves: laid · InodeBack: laid.
  DERIVED. THE GIVEN ROWS OF THIS SEAT. 4 by the template 'for every input the law returns true; each argument reads behind the call as it read before'; 0 by the template 'total and deterministic' (their statements: YtecngehkdjmjmaaDoorTotals.lean).
  GIVEN WITH THE SEED: the statements are not yours to turn. If you find one false, say at which input.
  Laid BY PROGRAM, IN A SANDBOX (cutbox-rows.mjs): the forced cells as the released guide's own fill.sh prints them over the translation 076fdcf7bf14398b… (all of the seat's roots in one cut). By AI agents, Wed Nov 11 2026. No macro, syntax, notation, axiom, sorry.
-/
import Derived.Test.YtecngehkdjmjmaaDoorChecked
import GoSem.Claim
import GoSem.ClaimJoined
import GoSem.ClaimMapViews
import Derived.JoinedTies
import Derived.KernelRfl
namespace Go.Proofs.YtecngehkdjmjmaaDoor
/- THE CELL 'sum', in the pinned program and in every row, IS THE sha256 OF THE DUMP (.gsa) THAT YtecngehkdjmjmaaDoorProg.lean LOADS. Nothing in Lean hashes anything: it is a label: what it is worth is what the hold of that sum in a sandbox is worth. -/
noncomputable def Tryd.pinned : Pinned := { name := "ytecngehkdjmjmaadoor", sum := "076fdcf7bf14398b8f46456a340d0396037b9c381b2e45dfad79245c2c750221", checked := Tryd.checked }
namespace Rows
def none {H : Type} : Left H := { results := [], args := [] }

/- WHAT THE LISTED PACKAGE-LEVEL VARIABLES READ AS WHEN THE CALL BEGINS. Each datum BY PROGRAM (the guide's laid-datum.mjs) off the statement by which the dump's own 'gosem.cut.vars' lays the variable. In a bare row this is a premise. The card (YtecngehkdjmjmaaDoorCards.lean) ties it to the program's text. -/
def laid_kintsugi_ptr_rules {H : Type} : DataW H := .agg [.agg [.lit (.int .i64 0), .lit (.int .u8 0), .lit (.int .u8 0)], .agg [.lit (.int .i64 1), .lit (.int .u8 0), .lit (.int .u8 0)], .agg [.lit (.int .i64 2), .lit (.int .u8 0), .lit (.int .u8 0)], .agg [.lit (.int .i64 2), .lit (.int .u8 1), .lit (.int .u8 2)], .agg [.lit (.int .i64 2), .lit (.int .u8 0), .lit (.int .u8 0)], .agg [.lit (.int .i64 2), .lit (.int .u8 0), .lit (.int .u8 0)]]

/-- 'kintsugilaw11.InodePuts': WHATEVER THE INPUT: true; the input reads as it did. -/
def inodePutsSpec : ChangeSpec := { name := "inodePuts", fn := fun _ => fun
  | [d] => { results := [.lit (.bool true)], args := [d] }
  | _ => none }
def inodePutsRow : OpenClaim := { program := "ytecngehkdjmjmaadoor", sum := "076fdcf7bf14398b8f46456a340d0396037b9c381b2e45dfad79245c2c750221", func := "kintsugi/kintsugilaw11.InodePuts", spec := "inodePuts", unfollowed := true, recurses := true, named := ["kintsugi/ptr.rules"], apart := false, laid := [("kintsugi/ptr.rules", laid_kintsugi_ptr_rules)] }
def InodePutsSaid : Prop := inodePutsRow.holds Tryd.pinned (OpenSpec.ofChange inodePutsSpec)

/-- ITS FALSE NEIGHBOUR: 'it returns false'. Refute it at one input. -/
def inodePutsWrong : ChangeSpec := { name := "inodePuts", fn := fun _ => fun
  | [d] => { results := [.lit (.bool false)], args := [d] }
  | _ => none }
def InodePutsWrongFalsely : Prop := inodePutsRow.holds Tryd.pinned (OpenSpec.ofChange inodePutsWrong)

/-- 'kintsugilaw11.InodeTakes': WHATEVER THE INPUT: true; the input reads as it did. -/
def inodeTakesSpec : ChangeSpec := { name := "inodeTakes", fn := fun _ => fun
  | [d] => { results := [.lit (.bool true)], args := [d] }
  | _ => none }
def inodeTakesRow : OpenClaim := { program := "ytecngehkdjmjmaadoor", sum := "076fdcf7bf14398b8f46456a340d0396037b9c381b2e45dfad79245c2c750221", func := "kintsugi/kintsugilaw11.InodeTakes", spec := "inodeTakes", unfollowed := true, recurses := true, named := ["kintsugi/ptr.rules"], apart := false, laid := [("kintsugi/ptr.rules", laid_kintsugi_ptr_rules)] }
def InodeTakesSaid : Prop := inodeTakesRow.holds Tryd.pinned (OpenSpec.ofChange inodeTakesSpec)

/-- ITS FALSE NEIGHBOUR: 'it returns false'. Refute it at one input. -/
def inodeTakesWrong : ChangeSpec := { name := "inodeTakes", fn := fun _ => fun
  | [d] => { results := [.lit (.bool false)], args := [d] }
  | _ => none }
def InodeTakesWrongFalsely : Prop := inodeTakesRow.holds Tryd.pinned (OpenSpec.ofChange inodeTakesWrong)

/-- 'kintsugilaw11.InodeLeaves': WHATEVER THE INPUT: true; the input reads as it did. -/
def inodeLeavesSpec : ChangeSpec := { name := "inodeLeaves", fn := fun _ => fun
  | [d1, d2] => { results := [.lit (.bool true)], args := [d1, d2] }
  | _ => none }
def inodeLeavesRow : OpenClaim := { program := "ytecngehkdjmjmaadoor", sum := "076fdcf7bf14398b8f46456a340d0396037b9c381b2e45dfad79245c2c750221", func := "kintsugi/kintsugilaw11.InodeLeaves", spec := "inodeLeaves", unfollowed := true, recurses := true, named := ["kintsugi/ptr.rules"], apart := false, laid := [("kintsugi/ptr.rules", laid_kintsugi_ptr_rules)] }
def InodeLeavesSaid : Prop := inodeLeavesRow.holds Tryd.pinned (OpenSpec.ofChange inodeLeavesSpec)

/-- ITS FALSE NEIGHBOUR: 'it returns false'. Refute it at one input. -/
def inodeLeavesWrong : ChangeSpec := { name := "inodeLeaves", fn := fun _ => fun
  | [d1, d2] => { results := [.lit (.bool false)], args := [d1, d2] }
  | _ => none }
def InodeLeavesWrongFalsely : Prop := inodeLeavesRow.holds Tryd.pinned (OpenSpec.ofChange inodeLeavesWrong)

/-- 'kintsugilaw11.InodeBack': WHATEVER THE INPUT: true; the input reads as it did. -/
def inodeBackSpec : ChangeSpec := { name := "inodeBack", fn := fun _ => fun
  | [d1, d2] => { results := [.lit (.bool true)], args := [d1, d2] }
  | _ => none }
def inodeBackRow : OpenClaim := { program := "ytecngehkdjmjmaadoor", sum := "076fdcf7bf14398b8f46456a340d0396037b9c381b2e45dfad79245c2c750221", func := "kintsugi/kintsugilaw11.InodeBack", spec := "inodeBack", unfollowed := true, recurses := true, named := ["kintsugi/ptr.rules"], apart := false, laid := [("kintsugi/ptr.rules", laid_kintsugi_ptr_rules)] }
def InodeBackSaid : Prop := inodeBackRow.holds Tryd.pinned (OpenSpec.ofChange inodeBackSpec)

/-- ITS FALSE NEIGHBOUR: 'it returns false'. Refute it at one input. -/
def inodeBackWrong : ChangeSpec := { name := "inodeBack", fn := fun _ => fun
  | [d1, d2] => { results := [.lit (.bool false)], args := [d1, d2] }
  | _ => none }
def InodeBackWrongFalsely : Prop := inodeBackRow.holds Tryd.pinned (OpenSpec.ofChange inodeBackWrong)

/- THE SECOND FORM. 'bulk': how many values and letters a reading holds, each counted each time it is reached (what is shared counts as often as it is met; a slice's spare places count too). A statement '..UptoSaid' is the law's where the arguments, and the package variables that the reading takes, are together of bulk at most 1048576: NARROWER than '..Said'. Prove '..Said' where nothing that the law and all that it calls make is longer than what came in: it says more and counts as full. Else prove '..UptoSaid'. A law counts once. -/
mutual
def uptoBulk {H : Type} : DataW H → Nat
  | .lit (.string bytes) => bytes.length + 1
  | .lit _ => 1
  | .nil => 1
  | .ptr d => uptoBulk d + 1
  | .slice elems spare => uptoBulkAll elems + uptoBulkAll spare + 1
  | .agg parts => uptoBulkAll parts + 1
  | .iface _ d => uptoBulk d + 1
  | .map entries => uptoBulkEntries entries + 1
  | .held _ => 1
def uptoBulkAll {H : Type} : List (DataW H) → Nat
  | [] => 0
  | d :: r => uptoBulk d + uptoBulkAll r
def uptoBulkEntries {H : Type} : List (Lit × DataW H) → Nat
  | [] => 0
  | x :: r => uptoBulkEntry x + uptoBulkEntries r
def uptoBulkEntry {H : Type} : Lit × DataW H → Nat
  | (.string bytes, d) => bytes.length + uptoBulk d + 1
  | (_, d) => uptoBulk d + 1
 end
def uptoSmall : (H : Type) → List (DataW H) → Bool := fun _ ds => decide (uptoBulkAll ds ≤ 1048576)
def OpenSpec.upto (s : _root_.Go.ChangeSpec) : _root_.Go.OpenSpec := { _root_.Go.OpenSpec.ofChange s with cond := some uptoSmall }

/-- 'kintsugilaw11.InodePuts', WHERE WHAT IT READS IS OF BULK AT MOST 1048576: true; the input reads as it did. -/
def inodePutsUptoRow : OpenClaim := { program := "ytecngehkdjmjmaadoor", sum := "076fdcf7bf14398b8f46456a340d0396037b9c381b2e45dfad79245c2c750221", func := "kintsugi/kintsugilaw11.InodePuts", spec := "inodePuts", unfollowed := true, recurses := true, named := ["kintsugi/ptr.rules"], apart := false, laid := [("kintsugi/ptr.rules", laid_kintsugi_ptr_rules)], narrowed := true }
def InodePutsUptoSaid : Prop := inodePutsUptoRow.holds Tryd.pinned (OpenSpec.upto inodePutsSpec)

/-- 'kintsugilaw11.InodeTakes', WHERE WHAT IT READS IS OF BULK AT MOST 1048576: true; the input reads as it did. -/
def inodeTakesUptoRow : OpenClaim := { program := "ytecngehkdjmjmaadoor", sum := "076fdcf7bf14398b8f46456a340d0396037b9c381b2e45dfad79245c2c750221", func := "kintsugi/kintsugilaw11.InodeTakes", spec := "inodeTakes", unfollowed := true, recurses := true, named := ["kintsugi/ptr.rules"], apart := false, laid := [("kintsugi/ptr.rules", laid_kintsugi_ptr_rules)], narrowed := true }
def InodeTakesUptoSaid : Prop := inodeTakesUptoRow.holds Tryd.pinned (OpenSpec.upto inodeTakesSpec)

/-- 'kintsugilaw11.InodeLeaves', WHERE WHAT IT READS IS OF BULK AT MOST 1048576: true; the input reads as it did. -/
def inodeLeavesUptoRow : OpenClaim := { program := "ytecngehkdjmjmaadoor", sum := "076fdcf7bf14398b8f46456a340d0396037b9c381b2e45dfad79245c2c750221", func := "kintsugi/kintsugilaw11.InodeLeaves", spec := "inodeLeaves", unfollowed := true, recurses := true, named := ["kintsugi/ptr.rules"], apart := false, laid := [("kintsugi/ptr.rules", laid_kintsugi_ptr_rules)], narrowed := true }
def InodeLeavesUptoSaid : Prop := inodeLeavesUptoRow.holds Tryd.pinned (OpenSpec.upto inodeLeavesSpec)

/-- 'kintsugilaw11.InodeBack', WHERE WHAT IT READS IS OF BULK AT MOST 1048576: true; the input reads as it did. -/
def inodeBackUptoRow : OpenClaim := { program := "ytecngehkdjmjmaadoor", sum := "076fdcf7bf14398b8f46456a340d0396037b9c381b2e45dfad79245c2c750221", func := "kintsugi/kintsugilaw11.InodeBack", spec := "inodeBack", unfollowed := true, recurses := true, named := ["kintsugi/ptr.rules"], apart := false, laid := [("kintsugi/ptr.rules", laid_kintsugi_ptr_rules)], narrowed := true }
def InodeBackUptoSaid : Prop := inodeBackUptoRow.holds Tryd.pinned (OpenSpec.upto inodeBackSpec)

end Rows
end Go.Proofs.YtecngehkdjmjmaaDoor
