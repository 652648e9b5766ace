/- ContentKeeps: the law's walk, with its guard. -/
import Derived.Test.YthionhliokhcgaaCx
namespace Go.Proofs.Ythionhliokhcgaa
open Go.RowKit Go.Shelf

attribute [local go_sem] Oper.semAt_some

set_option maxRecDepth 100000 in
set_option maxHeartbeats 4000000 in
theorem keeps_great (l : List AcT) (sp : Option Addr) (cap : Nat) (hc : l.length ≤ cap) (w : World) (hA : ActsT w sp l) (hg : greatB l = true) : Calls Try.prog 5 #[.slice sp l.length cap] w fun e w' => e = .returned (.bool true) ∧ Below w.heap.size w w' := by
  have hgr := great_go l sp cap hc w hA
  rw [hg] at hgr
  obtain ⟨N, hN⟩ : ∃ N, l.length = N := ⟨_, rfl⟩
  rw [hN] at hc hgr ⊢
  have HGR := Lib.hid hgr
  clear hgr hN hc hA hg
  go_enter Try.func5, Try.ntmps5
  go_upto_region 1 with fail
  go_wp2_with fail
  refine HGR.out.mono ?_
  rintro e W0 ⟨rfl, hb0⟩
  have HB0 := Lib.hid hb0
  clear hb0
  go_wp2_with fail
  refine (cwakes_any _).mono ?_
  rintro e W2 ⟨rfl, hb2⟩
  have HE : Hid (Below w.heap.size w W2) := Lib.hid (HB0.out.trans (hb2.mono HB0.out.size))
  clear hb2
  go_wp2_with fail
  go_ret
  exact ⟨rfl, HE.out⟩
theorem keeps_walk (l : List AcT) (sp : Option Addr) (cap : Nat) (hc : l.length ≤ cap) (w : World) (hA : ActsT w sp l) : Calls Try.prog 5 #[.slice sp l.length cap] w fun e w' => e = .returned (.bool true) ∧ Below w.heap.size w w' := by
  cases hg : greatB l with
  | false => exact keeps_go l sp cap hc w hA hg
  | true => exact keeps_great l sp cap hc w hA hg
end Go.Proofs.Ythionhliokhcgaa
