/- The table of kinds as it is laid; whole numbers that came in. -/
import Derived.Test.YtjgjohdeeeoeoaaGreatDoorM11
import Derived.Test.YtjgjohdeeeoeoaaGreatDoorM08
set_option linter.all false
namespace Go.Proofs.YtjgjohdeeeoeoaaGreatDoor
open Go.ChangeShapes Go.WideShapes Go.ChangeAt Go.WideMaps Go.WideElems Go.RowKit
def laidK : List (String × DataW Unit) := [("kintsugi/ptr.rules", Rows.laid_kintsugi_ptr_rules)]
theorem gK : (laidK.map fun x => Tryz.prog.globalNamed x.1) = [some 0] := by kernel_rfl
theorem Rd (os : Os) (args : Array Value) : laidMetH Tryz.prog laidK ((World.doorLaid Tryz.prog 400 os).forCall (fun _ _ => 0) ⟨#[], args, []⟩).memory :=
 laidMetH_of_parts3 (fuel := 8) (laidMet_of_run' 8 (by kernel_rfl) (by kernel_rfl)) (by kernel_rfl) (by kernel_rfl)
theorem Yh {W : World} (h : laidMetH Tryz.prog laidK W) : RTab W := by
 rw [MakeChecks.laidMetH_plain _ _ _ (by kernel_rfl)] at h;obtain ⟨ps, ⟨g1, t1, a5, f1, p1, q1, a0, a3, a4, a2, _, _⟩, _, _⟩ := h;have a1 : [some g1] = [some 0] := by rw [← gK]; show _ = [Tryz.prog.globalNamed _]; rw [← a0]
 simp only [List.cons.injEq, Option.some.injEq, and_true] at a1;obtain rfl := a1;obtain rfl := Option.some.inj (tRu.symm.trans a3);have hc := Je a2 rfl;obtain ⟨t, fr, hh⟩ := a1d a0 a4;refine ⟨t, fr, ?_⟩;rw [hh, ← hc]
section
variable {H : Type} {enc : TypeId × Value → H} {W : World} {b' : Nat} {spare : Nat → Bool} {held : Bool}
end
end Go.Proofs.YtjgjohdeeeoeoaaGreatDoor
