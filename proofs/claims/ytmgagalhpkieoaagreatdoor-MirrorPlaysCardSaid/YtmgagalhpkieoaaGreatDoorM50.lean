/- A plain mirror heals: what is read fits; it is read just if a copy is good; behind a check of calm disks each copy is good, or its address is sick. -/
import Derived.Test.YtmgagalhpkieoaaGreatDoorM41
namespace Go.Proofs.YtmgagalhpkieoaaGreatDoor
open Go.RowKit

end Go.Proofs.YtmgagalhpkieoaaGreatDoor
/- MirrorHeals, walked. -/
namespace Go.Proofs.YtmgagalhpkieoaaGreatDoor
open Go.RowKit

theorem sizeMA : (Tryz.prog.info? 65).map (·.size) = some 51 := by kernel_rfl
theorem start_lim (n : Nat) : Lim (start n) (8 * 0) := ⟨fun k _ => Nat.le_refl _, fun _ => Nat.le_refl _, fun _ => Nat.le_refl _, Nat.le_refl _⟩
end Go.Proofs.YtmgagalhpkieoaaGreatDoor
