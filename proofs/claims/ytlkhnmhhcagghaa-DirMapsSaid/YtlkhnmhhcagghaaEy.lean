/- DirMaps: the law's walk, with its guard. -/
import Derived.Test.YtlkhnmhhcagghaaEx
namespace Go.Proofs.Ytlkhnmhhcagghaa
open Go.RowKit

attribute [local go_sem] Oper.semAt_some

set_option maxRecDepth 100000 in
set_option maxHeartbeats 4000000 in
theorem maps_far (n : Nat) (sp : Option Addr) (cap : Nat) (m : Nat) (sq : Option Addr) (capq : Nat) (hl : 150 < n ∨ ¬ 150 < n ∧ 4000 < m) (w : World) : Calls Try.prog 5 #[.slice sp n cap, .slice sq m capq] w fun e w' => e = .returned (.bool true) ∧ Below w.heap.size w w' := by
  rcases hl with hl | ⟨hl, hm⟩
  · have z0 : (150 : Int) < (n : Int) := by omega
    clear hl
    go_enter Try.func5, Try.ntmps5
    go_wp2_with fail
    refine (enWakes_any w).mono ?_
    rintro x W3 ⟨rfl, hb3⟩
    have HB := Lib.hid hb3
    clear hb3
    go_wp2_with fail
    first | exact ⟨rfl, HB.out⟩ | (go_ret; exact ⟨rfl, HB.out⟩)
  · have z0 : ¬ (150 : Int) < (n : Int) := by omega
    have z1 : (4000 : Int) < (m : Int) := by omega
    clear hl hm
    go_enter Try.func5, Try.ntmps5
    go_wp2_with fail
    refine (enWakes_any w).mono ?_
    rintro x W3 ⟨rfl, hb3⟩
    have HB := Lib.hid hb3
    clear hb3
    go_wp2_with fail
    first | exact ⟨rfl, HB.out⟩ | (go_ret; exact ⟨rfl, HB.out⟩)
theorem maps_walk (l : List AcD) (sp : Option Addr) (cap : Nat) (hc : l.length ≤ cap) (hok : ∀ a ∈ l, a.OK) (b : List (BitVec 8)) (sq : Option Addr) (capq : Nat) (hcq : b.length ≤ capq) (hzq : sq = none → capq = 0) (w : World) (hA : ActsD w sp l) (hS : SrcA w sq b) :
    Calls Try.prog 5 #[.slice sp l.length cap, .slice sq b.length capq] w fun e w' => e = .returned (.bool true) ∧ Below w.heap.size w w' := by
  by_cases hl : l.length ≤ 150
  · by_cases hb : b.length ≤ 4000
    · exact maps_go l sp cap hc hl hok b sq capq hcq hzq hb w hA hS
    · exact maps_far l.length sp cap b.length sq capq (.inr ⟨by omega, by omega⟩) w
  · exact maps_far l.length sp cap b.length sq capq (.inl (by omega)) w
end Go.Proofs.Ytlkhnmhhcagghaa
