/- What the rows need: texts that came in. -/
import Derived.Test.YtchjioknobmegaaWak
import Derived.ProofKit
import Derived.OpenShut
namespace Go.Proofs.Ytchjioknobmegaa
open Go.ChangeShapes Go.WideShapes Go.ChangeAt Go.RowKit

theorem own : ownKnob Try.prog.godebug = none := by kernel_rfl
theorem laidOut : laidOutB Try.prog = true := by kernel_rfl
theorem of_bytes (s : ByteArray) : ∃ l, s = str l := ⟨s.data.toList, by cases s; simp⟩
end Go.Proofs.Ytchjioknobmegaa
