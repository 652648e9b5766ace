/- MirrorHeals: its guards. -/
import Derived.Test.YtmgagalhpkieoaaGreatDoorM43
namespace Go.Proofs.YtmgagalhpkieoaaGreatDoor
open Go.RowKit

def zma : Ma := ⟨0, zeroP, [], none, 0, false, ⟨0, 0, 0, [], none, 0, false, 0, [], none, 0⟩⟩
set_option maxRecDepth 100000 in
set_option maxHeartbeats 8000000 in
theorem mirrorHeals_walk (N : Nat) (l : List Ma) (sp : Option Addr) (cap : Nat) (la : Ma) (w : World) (hN : N < 256) (hc : l.length ≤ cap) (hm : cap ≤ maxLen) (hA : MActsAt w sp l) (hLA : MaOK w la) (ht : Tab w) (hr : RTab w) :
    Calls Tryz.prog 4 #[.int .u8 (N : Int), .slice sp l.length cap, .agg la.cells.toArray] w fun e w' => e = .returned (.bool true) ∧ Below w.heap.size w w' := by
  by_cases hgo : mgreat l = false ∧ mgreat [la] = false ∧ 1 ≤ N ∧ N ≤ 12
  · exact mheals_go N hgo.2.2.1 hgo.2.2.2 l sp cap la w hgo.1 hgo.2.1 hc hm hA hLA ht hr
  have hb0 : Below w.heap.size w (w.alloc (.cells la.cells.toArray 65)) := (Below.refl _ _).alloc (Nat.le_refl _) _
  have HB0 := Lib.hid hb0
  have HBX : Hid (Blk (w.alloc (.cells la.cells.toArray 65)) w.heap.size la.cells 65) := Lib.hid (Blk.new _ _ _)
  obtain ⟨n, hn⟩ : ∃ n, l.length = n := ⟨_, rfl⟩
  have hg1 := mgreat_any l sp n cap hn (by omega) hm _ (hA.below hb0 (Nat.le_refl _))
  have HWK : Hid (∀ W, Below w.heap.size w W → Calls Tryz.prog 6 #[] W fun e w' => e = .returned (.bool true) ∧ Below w.heap.size w w') := Lib.hid fun W hb => (mwakes_any W (ht.below hb (Nat.le_refl _)) (hr.below hb (Nat.le_refl _))).mono fun e w' ⟨h1, h2⟩ => ⟨h1, hb.trans (h2.mono hb.size)⟩
  have HLL := Lib.hid hLA.len; have HLA := Lib.hid hLA
  rw [hn]
  cases h1 : mgreat l
  · rw [h1] at hg1
    cases h2 : mgreat [la]
    · have hnn : N < 1 ∨ 12 < N := by
        rcases Nat.lt_or_ge N 1 with h | h
        · exact .inl h
        · rcases Nat.lt_or_ge 12 N with h' | h'
          · exact .inr h'
          · exact absurd ⟨h1, h2, h, h'⟩ hgo
      have HG1 := Lib.hid hg1; have H2 := Lib.hid h2
      clear hgo hb0 hn hg1 hc hm hA hLA ht hr h1 h2
      go_enter Tryz.func4, Tryz.ntmps4
      go_wp2_with fail
      refine HG1.out.mono ?_
      rintro e W1 ⟨rfl, hb1⟩
      have HBA := Lib.hid (HB0.out.trans (hb1.mono HB0.out.size))
      have HX1 := Lib.hid (HBX.out.below hb1 HBX.out.lt)
      clear hb1 HG1 HBX HB0
      have hg2 := mgreat_any [la] (some ⟨W1.heap.size, 0, none⟩) 1 1 rfl (by omega) (by unfold maxLen; omega) (W1.alloc (.cells la.cells.toArray 65)) (macts_one (HLA.out.below (HBA.out.alloc HBA.out.size _) (Nat.le_refl _)) (Blk.new _ _ _))
      rw [H2.out] at hg2
      have HG2 := Lib.hid hg2
      clear hg2
      go_wp2_with (first | (refine q_valG (by rfl) (ex_ld (ty := 65) (cs := la.cells) rfl rfl (rng_all HX1.out) Tryz.underlying65 rfl (by rw [sizeMA, HLL.out])) ?_) | (refine q_valG (by rfl) (q_oneMA la HLL.out rfl rfl) ?_) | fail)
      refine HG2.out.mono ?_
      rintro e W2 ⟨rfl, hb2⟩
      have HBB := Lib.hid ((HBA.out.alloc HBA.out.size (.cells la.cells.toArray 65)).trans (hb2.mono (Nat.le_trans HBA.out.size (by simp))))
      clear hb2 HG2 HX1 HBA
      rcases hnn with h | h
      · obtain rfl : N = 0 := by omega
        rw [show ((0 : Nat) : Int) = (0 : Int) from rfl]
        go_wp2_with fail
        refine (HWK.out W2 HBB.out).mono ?_
        rintro e w6 ⟨rfl, hb6⟩
        have HB6 := Lib.hid hb6
        clear hb6 HWK
        go_wp2_with fail
        go_ret
        exact ⟨rfl, HB6.out⟩
      · have j1 : ¬ (N : Int) < 1 := by omega
        have j2 : (12 : Int) < (N : Int) := by omega
        have j3 : decide ((N : Int) < 1) = false := decide_eq_false j1
        go_wp2_with fail
        refine (HWK.out W2 HBB.out).mono ?_
        rintro e w6 ⟨rfl, hb6⟩
        have HB6 := Lib.hid hb6
        clear hb6 HWK
        go_wp2_with fail
        go_ret
        exact ⟨rfl, HB6.out⟩
    · have HG1 := Lib.hid hg1; have H2 := Lib.hid h2
      clear hgo hb0 hn hg1 hc hm hA hLA ht hr h1 h2
      go_enter Tryz.func4, Tryz.ntmps4
      go_wp2_with fail
      refine HG1.out.mono ?_
      rintro e W1 ⟨rfl, hb1⟩
      have HBA := Lib.hid (HB0.out.trans (hb1.mono HB0.out.size))
      have HX1 := Lib.hid (HBX.out.below hb1 HBX.out.lt)
      clear hb1 HG1 HBX HB0
      have hg2 := mgreat_any [la] (some ⟨W1.heap.size, 0, none⟩) 1 1 rfl (by omega) (by unfold maxLen; omega) (W1.alloc (.cells la.cells.toArray 65)) (macts_one (HLA.out.below (HBA.out.alloc HBA.out.size _) (Nat.le_refl _)) (Blk.new _ _ _))
      rw [H2.out] at hg2
      have HG2 := Lib.hid hg2
      clear hg2
      go_wp2_with (first | (refine q_valG (by rfl) (ex_ld (ty := 65) (cs := la.cells) rfl rfl (rng_all HX1.out) Tryz.underlying65 rfl (by rw [sizeMA, HLL.out])) ?_) | (refine q_valG (by rfl) (q_oneMA la HLL.out rfl rfl) ?_) | fail)
      refine HG2.out.mono ?_
      rintro e W2 ⟨rfl, hb2⟩
      have HBB := Lib.hid ((HBA.out.alloc HBA.out.size (.cells la.cells.toArray 65)).trans (hb2.mono (Nat.le_trans HBA.out.size (by simp))))
      clear hb2 HG2 HX1 HBA
      go_wp2_with fail
      refine (HWK.out W2 HBB.out).mono ?_
      rintro e w6 ⟨rfl, hb6⟩
      have HB6 := Lib.hid hb6
      clear hb6 HWK
      go_wp2_with fail
      go_ret
      exact ⟨rfl, HB6.out⟩
  · rw [h1] at hg1
    have HG1 := Lib.hid hg1
    clear hgo hb0 hn hg1 hc hm hA hLA ht hr h1
    go_enter Tryz.func4, Tryz.ntmps4
    go_wp2_with fail
    refine HG1.out.mono ?_
    rintro e W1 ⟨rfl, hb1⟩
    have HBA := Lib.hid (HB0.out.trans (hb1.mono HB0.out.size))
    clear hb1 HG1 HBX HB0
    go_wp2_with fail
    refine (HWK.out W1 HBA.out).mono ?_
    rintro e w6 ⟨rfl, hb6⟩
    have HB6 := Lib.hid hb6
    clear hb6 HWK
    go_wp2_with fail
    go_ret
    exact ⟨rfl, HB6.out⟩
end Go.Proofs.YtmgagalhpkieoaaGreatDoor
