/- DirPlays: the law's walk, with its guard. -/
import Derived.Test.YtlkhnmhhcagghaaEm
namespace Go.Proofs.Ytlkhnmhhcagghaa
open Go.RowKit

attribute [local go_sem] Oper.semAt_some

set_option maxRecDepth 100000 in
set_option maxHeartbeats 4000000 in
theorem plays_far (n : Nat) (sp : Option Addr) (cap : Nat) (hl : 150 < n) (w : World) : Calls Try.prog 4 #[.slice sp n cap] w fun e w' => e = .returned (.bool true) ∧ Below w.heap.size w w' := by
  have z0 : (150 : Int) < (n : Int) := by omega
  clear hl
  go_enter Try.func4, Try.ntmps4
  go_wp2_with fail
  refine (enWakes_any w).mono ?_
  rintro x W3 ⟨rfl, hb3⟩
  have HB := Lib.hid hb3
  clear hb3
  go_wp2_with fail
  first | exact ⟨rfl, HB.out⟩ | (go_ret; exact ⟨rfl, HB.out⟩)
theorem plays_walk (l : List AcD) (sp : Option Addr) (cap : Nat) (hc : l.length ≤ cap) (w : World) (hA : ActsD w sp l) : Calls Try.prog 4 #[.slice sp l.length cap] w fun e w' => e = .returned (.bool true) ∧ Below w.heap.size w w' := by
  by_cases hl : l.length ≤ 150
  · exact plays_go l sp cap hc hl w hA
  · exact plays_far l.length sp cap (by omega) w
end Go.Proofs.Ytlkhnmhhcagghaa
