/- Bytes that are known, asked of the program. -/
import Derived.Test.YtfamohnbaelccaaRdNil
namespace Go.Proofs.Ytfamohnbaelccaa
open Go.RowKit

def b123 : List (BitVec 8) := [1#8, 2#8, 3#8]
abbrev obj123 : Obj := .cells #[.int .u8 1, .int .u8 2, .int .u8 3] 5
theorem src123 (w : World) : SrcA (w.alloc obj123) (some ⟨w.heap.size, 0, none⟩) b123 := fun _ => by
  refine ⟨w.heap.size, 0, rfl, by simp, fun j hj => ?_⟩
  rw [Nat.zero_add]
  exact (Blk.new' w _ (b123.map V8) 5 w.heap.size rfl rfl).cell (get_map V8 b123 j hj 0)
theorem conv_own {w : World} {B g n cap : Nat} {l : List (BitVec 8)} (h : OwnB w B (.slice (some ⟨g, 0, none⟩) l.length cap) l) (hn : l.length = n) : (convert 22 9 (.slice (some ⟨g, 0, none⟩) n cap)).run Try.prog w = .ok (.string (bstr l)) w := by
  subst hn
  obtain ⟨sp, cap', e, _, _, hs, _⟩ := OwnB.form h
  cases e
  exact conv_str hs
theorem bs258 : bstr ([] ++ leb 258 2) = { data := #[2, 1] } := by kernel_rfl
theorem bs1 : bstr ([] ++ leb 1 4) = { data := #[1, 0, 0, 0] } := by kernel_rfl

set_option maxRecDepth 100000 in
set_option maxHeartbeats 1000000 in
theorem wakes_any (w : World) : Calls Try.prog 7 #[] w fun e w' => e = .returned (.bool true) ∧ Below w.heap.size w w' := by
  go_enter Try.func7, Try.ntmps7
  go_wp2_with fail
  refine (new_any b123 (some ⟨w.heap.size, 0, none⟩) 3 _ (by decide) (fun h => by cases h) (by decide) (src123 w)).mono ?_
  rintro e1 w1 ⟨H, rfl, hR1, hH, hb1⟩
  have hB1 : Below w.heap.size w w1 := ((Below.refl _ _).alloc (Nat.le_refl _) _).trans (hb1.mono (by simp))
  have HB1 := Lib.hid hB1
  have HR1 := Lib.hid hR1
  simp only [World.size_alloc] at hH
  clear hB1 hR1 hb1
  go_wp2_with fail
  refine (ru16_any H b123 0 w1 HR1.out).mono ?_
  rintro e2 w2 ⟨rfl, hR2, hb2⟩
  have HB2 : Hid (Below w.heap.size w w2) := Lib.hid (HB1.out.trans (hb2.below (by omega) HB1.out.size))
  have HR2 : Hid (RdAt w2 H _ [3#8] 0) := Lib.hid hR2
  have HE2 : Hid ((val (nextRes b123 0 2).1 : Int) = 513) := Lib.hid (by kernel_rfl)
  rw [HE2.out]
  clear hR2 hb2 HB1 HR1 HE2
  go_wp2_with fail
  refine (ru16_any H [3#8] 0 w2 HR2.out).mono ?_
  rintro e3 w3 ⟨rfl, hR3, hb3⟩
  have HB3 : Hid (Below w.heap.size w w3) := Lib.hid (HB2.out.trans (hb3.below (by omega) HB2.out.size))
  have HR3 : Hid (RdAt w3 H _ [3#8] 4) := Lib.hid hR3
  have HE3 : Hid ((val (nextRes [3#8] 0 2).1 : Int) = 0) := Lib.hid (by kernel_rfl)
  rw [HE3.out]
  clear hR3 hb3 HB2 HR2 HE3
  go_wp2_with fail
  refine (pu16_any [] none 0 258 w3 (by simp) (by omega) (SrcA.nil _ _)).mono ?_
  rintro e4 w4 ⟨rfl, ho4, hb4⟩
  have HB4 : Hid (Below w.heap.size w w4) := Lib.hid (HB3.out.trans (hb4.mono HB3.out.size))
  have HR4 : Hid (RdAt w4 H _ [3#8] 4) := Lib.hid (HR3.out.below hb4 (Nat.le_refl _))
  have hcv := conv_own (n := 2) (cap := 2) ho4 (by simp [leb_length])
  rw [bs258] at hcv
  clear ho4 hb4 HB3 HR3
  go_wp2_with fail
  refine (pu32_any [] none 0 1 w4 (by simp) (by omega) (SrcA.nil _ _)).mono ?_
  rintro e5 w5 ⟨rfl, ho5, hb5⟩
  have HB5 : Hid (Below w.heap.size w w5) := Lib.hid (HB4.out.trans (hb5.mono HB4.out.size))
  have HR5 : Hid (RdAt w5 H _ [3#8] 4) := Lib.hid (HR4.out.below hb5 (Nat.le_refl _))
  have hcv5 := conv_own (n := 4) (cap := 4) ho5 (by simp [leb_length])
  rw [bs1] at hcv5
  clear ho5 hb5 HB4 HR4 hcv
  go_wp2_with fail
  refine (err_any H [3#8] 4 w5 HR5.out).mono ?_
  rintro e6 w6 ⟨rfl, rfl⟩
  clear hcv5 HR5
  go_wp2
  go_ret
  exact ⟨rfl, HB5.out⟩
end Go.Proofs.Ytfamohnbaelccaa
