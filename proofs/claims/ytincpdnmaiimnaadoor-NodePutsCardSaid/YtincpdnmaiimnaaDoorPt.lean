/- Whether a block fits a pointer: Fits. -/
import Derived.Test.YtincpdnmaiimnaaDoorPs
namespace Go.Proofs.YtincpdnmaiimnaaDoor
open Go.RowKit

theorem ex_eqi {ρ : Operand → Value} {o : Oper} {x y : Operand} {k : IntKind} {a b : Int} {w : World} {ty : TypeId} (hu : Tryd.prog.underlying ty = some (.int k)) (ho : o.op = .binOp .eql ty x y ty) (hx : ρ x = .int k a) (hy : ρ y = .int k b) : (execOp ρ o).run Tryd.prog w = .ok (.value (.bool (decide (a = b)))) w := by
  have h := run_equalIn_int (P := Tryd.prog) w 9999 ty k k a b hu
  unfold execOp
  simp only [ho]
  go_simp
  by_cases h : a = b <;> simp [h]
theorem ex_nei {ρ : Operand → Value} {o : Oper} {x y : Operand} {k : IntKind} {a b : Int} {w : World} {ty : TypeId} (hu : Tryd.prog.underlying ty = some (.int k)) (ho : o.op = .binOp .neq ty x y ty) (hx : ρ x = .int k a) (hy : ρ y = .int k b) : (execOp ρ o).run Tryd.prog w = .ok (.value (.bool (!decide (a = b)))) w := by
  have h := run_equalIn_int (P := Tryd.prog) w 9999 ty k k a b hu
  unfold execOp
  simp only [ho]
  go_simp
  by_cases h : a = b <;> simp [h]
end Go.Proofs.YtincpdnmaiimnaaDoor
