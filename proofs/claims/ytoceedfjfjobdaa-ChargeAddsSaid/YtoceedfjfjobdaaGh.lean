/- Charge: each's iterator: objects that are some, each once, and where they have leaves. -/
import Derived.Test.YtoceedfjfjobdaaGg
import Derived.Test.YtoceedfjfjobdaaGf
import Derived.RangeFuncNested
import Derived.RangeFuncBound
import Derived.RangeFuncCalls
import Derived.RangeFuncLeaves
import Derived.Shelf.Abstract
import Derived.Shelf.RegionOpen
import Derived.OwnWalkIn
import Derived.TacticsInMore
import Derived.LoopNIn
import Derived.LoopIn
import Derived.Outline
namespace Go.Proofs.Ytoceedfjfjobdaa
open Go.RowKit Go.Shelf

attribute [local go_sem] Oper.semAt_some

abbrev Yi := Oi × List Bool
def yiE (y : Yi) : Array Value := #[.agg (ocells y.1).toArray, .agg (bcs y.2).toArray]
def eachI : List Bool → List Oi → List Yi
  | _, [] => []
  | s, o :: l => if okO o.ob s = true then (o, ownT o.offs) :: eachI (s.set o.num true) l else eachI s l
def Yi.yo (y : Yi) : Yo := (y.1.ob, y.2)
theorem each_map : ∀ (s : List Bool) (l : List Oi), (eachI s l).map Yi.yo = eachL s (l.map Oi.ob)
  | _, [] => rfl
  | s, o :: l => by
    rw [List.map_cons]
    unfold eachI eachL
    by_cases h : okO o.ob s = true
    · rw [if_pos h, if_pos h, List.map_cons, each_map (s.set o.num true) l]; rfl
    · rw [if_neg h, if_neg h, each_map s l]
/-- What the iterator looks at. -/
structure HdO (G : Nat) (sp : Option Addr) (cap : Nat) (l : List Oi) (A : World) : Prop where
  b : Blk A G [.slice sp l.length cap] 35
  r : SrcO A sp l
  k : ∀ o ∈ l, o.OK A
theorem zeroOf {ty : TypeId} {z : Array Value} (h : (Try.prog.info? ty).map (fun i => i.zero) = some (some (.agg z))) (W : World) : (zeroValue ty).run Try.prog W = .ok (.agg z) W := by
  obtain ⟨i, h1, h2⟩ := Option.map_eq_some_iff.1 h
  simp [zeroValue, typeInfo, h1, h2]
theorem ex_al {ρ : Operand → Value} {o : Oper} {w : World} {ty : TypeId} {z : Array Value} (h : (Try.prog.info? ty).map (fun i => i.zero) = some (some (.agg z))) (ho : o.op = .alloc ty) : (execOp ρ o).run Try.prog w = .ok (.value (.pointer (some ⟨w.heap.size, 0, none⟩))) (w.alloc (.cells z ty)) := by
  have hr : (Instr.alloc ty true (.tuple #[])).run Try.prog w = .ok (.pointer (some ⟨w.heap.size, 0, none⟩)) (w.alloc (.cells z ty)) := by
    unfold Instr.alloc
    simp only [Sem.run_bind, zeroOf h, Result.andThen_ok]
    simp [newVar, newRow, newObj]
    rfl
  unfold execOp
  simp only [ho, Sem.run_bind, hr, Result.andThen_ok, Sem.run_pure]
theorem zeroS : (Try.prog.info? 62).map (fun i => i.zero) = some (some (.agg (bcs seen0).toArray)) := by kernel_rfl
theorem zeroTr : (Try.prog.info? 51).map (fun i => i.zero) = some (some (.agg (bcs zeroT).toArray)) := by kernel_rfl
end Go.Proofs.Ytoceedfjfjobdaa
