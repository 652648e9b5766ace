/- Regions that draw and make memory: what a condition on worlds keeps; calls and appends that hand new bytes back. -/
import Derived.Test.YtkbkmfmekjpleaaDoorM05
namespace Go.Proofs.YtkbkmfmekjpleaaDoor
open Go.RowKit

/-- What stays where only new memory is written. -/
def Stable (S : World → Prop) : Prop := ∀ w w', S w → Below w.heap.size w w' → S w'
section
variable {ops : Array Oper} {Q : Exit → Act → World → Prop} {S : World → Prop}
/-- A call that only says something, or leaves new memory. -/
theorem wpG_says {i : Nat} {r : Tr} {a : Act} {w : World} (o : Oper) (hi : ops.toList[i]? = some o) (hw : Region.wanted o (yielded ops a.tmps) = true) (f : FuncId) (args : Array Value) (hrun : ∀ w, (execOp a.eval o).run Tryd.prog w = .ok (.enter f args) w)
    (hst : Stable S) (hS : S w) (v : Value) (hc : Calls Tryd.prog f args w fun e w' => e = .returned v ∧ Below w.heap.size w w')
    (h : ∀ w', S w' → wpG Tryd.prog ops Q r S (a.put o.dst v) w') : wpG Tryd.prog ops Q (.step i r) S a w :=
  wpG_call o hi hw f args hrun (fun u _ => u = v) (hc.mono fun _ w' ⟨e1, hb⟩ => ⟨v, e1, hst _ _ hS hb, rfl⟩) fun u w' hS' hu => by
    subst hu
    exact ⟨S, fun _ h => h, hS', h w' hS'⟩
end
section
variable {ops : Array Oper} {Q : Exit → Act → World → Prop}
end
end Go.Proofs.YtkbkmfmekjpleaaDoor
