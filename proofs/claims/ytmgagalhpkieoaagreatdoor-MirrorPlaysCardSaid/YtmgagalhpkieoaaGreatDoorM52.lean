/- MirrorPlays: its guards. -/
import Derived.Test.YtmgagalhpkieoaaGreatDoorM51
namespace Go.Proofs.YtmgagalhpkieoaaGreatDoor
open Go.RowKit

set_option maxRecDepth 100000 in
set_option maxHeartbeats 8000000 in
theorem mirrorPlays_walk (N : Nat) (l : List Ma) (sp : Option Addr) (cap : Nat) (w : World) (hN : N < 256) (hc : l.length ≤ cap) (hm : cap ≤ maxLen) (hA : MActsAt w sp l) (ht : Tab w) (hr : RTab w) :
    Calls Tryz.prog 3 #[.int .u8 (N : Int), .slice sp l.length cap] w fun e w' => e = .returned (.bool true) ∧ Below w.heap.size w w' := by
  by_cases hgo : mgreat l = false ∧ 1 ≤ N ∧ N ≤ 12
  · exact mplays_go N hgo.2.1 hgo.2.2 l sp cap w hgo.1 hc hm hA ht hr
  obtain ⟨n, hn⟩ : ∃ n, l.length = n := ⟨_, rfl⟩
  have hg1 := mgreat_any l sp n cap hn (by omega) hm _ hA
  have HWK : Hid (∀ W, Below w.heap.size w W → Calls Tryz.prog 6 #[] W fun e w' => e = .returned (.bool true) ∧ Below w.heap.size w w') := Lib.hid fun W hb => (mwakes_any W (ht.below hb (Nat.le_refl _)) (hr.below hb (Nat.le_refl _))).mono fun e w' ⟨h1, h2⟩ => ⟨h1, hb.trans (h2.mono hb.size)⟩
  rw [hn]
  cases h1 : mgreat l
  · rw [h1] at hg1
    have hnn : N < 1 ∨ 12 < N := by
      rcases Nat.lt_or_ge N 1 with h | h
      · exact .inl h
      · rcases Nat.lt_or_ge 12 N with h' | h'
        · exact .inr h'
        · exact absurd ⟨h1, h, h'⟩ hgo
    have HG1 := Lib.hid hg1
    clear hgo hn hg1 hc hm hA ht hr h1
    go_enter Tryz.func3, Tryz.ntmps3
    go_wp2_with fail
    refine HG1.out.mono ?_
    rintro e W2 ⟨rfl, hb2⟩
    have HBB := Lib.hid hb2
    clear hb2 HG1
    rcases hnn with h | h
    · obtain rfl : N = 0 := by omega
      rw [show ((0 : Nat) : Int) = (0 : Int) from rfl]
      go_wp2_with fail
      refine (HWK.out W2 HBB.out).mono ?_
      rintro e w6 ⟨rfl, hb6⟩
      have HB6 := Lib.hid hb6
      clear hb6 HWK
      go_wp2_with fail
      go_ret
      exact ⟨rfl, HB6.out⟩
    · have j1 : ¬ (N : Int) < 1 := by omega
      have j2 : (12 : Int) < (N : Int) := by omega
      have j3 : decide ((N : Int) < 1) = false := decide_eq_false j1
      go_wp2_with fail
      refine (HWK.out W2 HBB.out).mono ?_
      rintro e w6 ⟨rfl, hb6⟩
      have HB6 := Lib.hid hb6
      clear hb6 HWK
      go_wp2_with fail
      go_ret
      exact ⟨rfl, HB6.out⟩
  · rw [h1] at hg1
    have HG1 := Lib.hid hg1
    clear hgo hn hg1 hc hm hA ht hr h1
    go_enter Tryz.func3, Tryz.ntmps3
    go_wp2_with fail
    refine HG1.out.mono ?_
    rintro e W1 ⟨rfl, hb1⟩
    have HBA := Lib.hid hb1
    clear hb1 HG1
    go_wp2_with fail
    refine (HWK.out W1 HBA.out).mono ?_
    rintro e w6 ⟨rfl, hb6⟩
    have HB6 := Lib.hid hb6
    clear hb6 HWK
    go_wp2_with fail
    go_ret
    exact ⟨rfl, HB6.out⟩
end Go.Proofs.YtmgagalhpkieoaaGreatDoor
