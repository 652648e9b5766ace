/- The space that is known. -/
import Derived.Test.YtjfedhaafdfibaaKf
import Derived.Test.YtjfedhaafdfibaaKg
import Derived.Test.YtjfedhaafdfibaaKh
import Derived.Deep.Light
namespace Go.Proofs.Ytjfedhaafdfibaa
open Go.RowKit

/-- A space that the call made. -/
structure Live (w0 w : World) (D : Nat) (B : Nat → Nat) (sp : Sp) : Prop where
  at' : SpAt w D B sp
  own : ∀ k, Of B k → w0.heap.size ≤ k
  bel : Below w0.heap.size w0 w
theorem Live.step {w0 w w' : World} {D : Nat} {B : Nat → Nat} {sp sp' : Sp} (h : Live w0 w D B sp) (h1 : SpAt w' D B sp' ∧ Chg (Of B) w w') : Live w0 w' D B sp' :=
  ⟨h1.1, h.own, h.bel.trans (h1.2.below h.own h.bel.size)⟩
theorem Live.below {w0 w w' : World} {D : Nat} {B : Nat → Nat} {sp : Sp} (h : Live w0 w D B sp) (h1 : Below w.heap.size w w') : Live w0 w' D B sp :=
  ⟨h.at'.below h1, h.own, h.bel.trans (h1.mono h.bel.size)⟩
/-- The space that is known, walked. -/
def k0 : Sp := freshS 3 3
def k1 : Sp := allocS k0 0
def k2 : Sp := allocS k1 0
def k3 : Sp := allocS k2 0
def k4 : Sp := allocS k3 0
def k5 : Sp := oneS k4 0 2 (turnA 1 2)
def k6 : Sp := allocS k5 0
def k7 : Sp := allS k6 (turnA 2 0)
def k8 : Sp := allocS k7 0
def k9 : Sp := oneS k8 1 1 (fun x => { x with sick := true })
def k10 : Sp := allocS k9 1
theorem kn1 : ((allocN k0 0 : Nat) : Int) = 1 := by decide
theorem kn2 : ((allocN k1 0 : Nat) : Int) = 2 := by decide
theorem kn3 : ((allocN k2 0 : Nat) : Int) = 3 := by decide
theorem kn4 : ((allocN k3 0 : Nat) : Int) = 0 := by decide
theorem kn5 : ((oneE k4 0 2 (turnE 1) : Nat) : Int) = 0 := by decide
theorem kn6 : ((allocN k5 0 : Nat) : Int) = 0 := by decide
theorem kn8 : ((allocN k7 0 : Nat) : Int) = 2 := by decide
theorem kn9 : ((oneE k8 1 1 (fun _ => 0) : Nat) : Int) = 0 := by decide
theorem kis : isS k9 1 1 = true := by decide
theorem kn10 : ((allocN k9 1 : Nat) : Int) = 2 := by decide
theorem kcnt : countOf k10 0 = .agg #[.int .i64 0, .int .i64 3, .int .i64 0, .int .i64 0] := by
  have h0 : cnt (isB 0) (k10 0) = 0 := by decide
  have h1 : cnt (isB 1) (k10 0) = 3 := by decide
  have h2 : cnt (isB 2) (k10 0) = 0 := by decide
  have h3 : cnt sickB (k10 0) = 0 := by decide
  unfold countOf countV
  rw [h0, h1, h2, h3]
  rfl
set_option maxRecDepth 100000 in
set_option maxHeartbeats 4000000 in
theorem wakes_any (w : World) : Calls Try.prog 6 #[] w fun e w' => e = .returned (.bool true) ∧ Below w.heap.size w w' := by
  go_enter Try.func6, Try.ntmps6
  go_wp2_with fail
  refine (new_any 4 4 w).mono ?_
  rintro e w1 ⟨hb1, _, hy⟩
  obtain ⟨B, rfl, h1, hB⟩ := hy ⟨⟨by omega, by omega⟩, ⟨by omega, by omega⟩⟩
  have H1 : Hid (Live w w1 w.heap.size B k0) := Lib.hid ⟨h1, hB, hb1⟩
  have HW := Lib.hid (rfl : w.heap.size = w.heap.size)
  clear h1 hB hb1 hy
  obtain ⟨D, hD⟩ : ∃ D, w.heap.size = D := ⟨_, rfl⟩
  rw [hD] at H1 ⊢
  clear hD
  go_wp2_with fail
  refine (alloc_any 0 D B _ w1 H1.out.at' (by omega)).mono ?_
  rw [kn1]
  rintro e w2 ⟨rfl, h2⟩
  have H2 := Lib.hid (show Live w w2 D B k1 from H1.out.step h2)
  clear h2 H1
  go_wp2_with fail
  refine (alloc_any 0 D B _ w2 H2.out.at' (by omega)).mono ?_
  rw [kn2]
  rintro e w3 ⟨rfl, h2⟩
  have H3 := Lib.hid (show Live w w3 D B k2 from H2.out.step h2)
  clear h2 H2
  go_wp2_with fail
  refine (alloc_any 0 D B _ w3 H3.out.at' (by omega)).mono ?_
  rw [kn3]
  rintro e w4 ⟨rfl, h2⟩
  have H4 := Lib.hid (show Live w w4 D B k3 from H3.out.step h2)
  clear h2 H3
  go_wp2_with fail
  refine (alloc_any 0 D B _ w4 H4.out.at' (by omega)).mono ?_
  rw [kn4]
  rintro e w5 ⟨rfl, h2⟩
  have H5 := Lib.hid (show Live w w5 D B k4 from H4.out.step h2)
  clear h2 H4
  go_wp2_with fail
  refine (hold_any 0 D 2 B _ w5 H5.out.at' (by omega) (by omega)).mono ?_
  rw [kn5]
  rintro e w6 ⟨rfl, h2⟩
  have H6 := Lib.hid (show Live w w6 D B k5 from H5.out.step h2)
  clear h2 H5
  go_wp2_with fail
  refine (alloc_any 0 D B _ w6 H6.out.at' (by omega)).mono ?_
  rw [kn6]
  rintro e w7 ⟨rfl, h2⟩
  have H7 := Lib.hid (show Live w w7 D B k6 from H6.out.step h2)
  clear h2 H6
  go_wp2_with fail
  refine (release_any D B _ w7 H7.out.at').mono ?_
  rintro e w8 ⟨rfl, h2⟩
  have H8 := Lib.hid (show Live w w8 D B k7 from H7.out.step h2)
  clear h2 H7
  go_wp2_with fail
  refine (alloc_any 0 D B _ w8 H8.out.at' (by omega)).mono ?_
  rw [kn8]
  rintro e w9 ⟨rfl, h2⟩
  have H9 := Lib.hid (show Live w w9 D B k8 from H8.out.step h2)
  clear h2 H8
  go_wp2_with fail
  refine (sick_any 1 D 1 B _ w9 H9.out.at' (by omega) (by omega)).mono ?_
  rw [kn9]
  rintro e w10 ⟨rfl, h2⟩
  have H10 := Lib.hid (show Live w w10 D B k9 from H9.out.step h2)
  clear h2 H9
  go_wp2_with fail
  refine (is_any 1 D 1 B _ w10 H10.out.at' (by omega) (by omega)).mono ?_
  rw [kis]
  rintro e w11 ⟨rfl, h2⟩
  have H11 := Lib.hid (show Live w w11 D B k9 from H10.out.below h2)
  clear h2 H10
  go_wp2_with fail
  refine (alloc_any 1 D B _ w11 H11.out.at' (by omega)).mono ?_
  rw [kn10]
  rintro e w12 ⟨rfl, h2⟩
  have H12 := Lib.hid (show Live w w12 D B k10 from H11.out.step h2)
  clear h2 H11
  go_wp2_with fail
  refine (count_any 0 D B _ w12 H12.out.at' (by omega)).mono ?_
  rw [kcnt]
  rintro e w13 ⟨rfl, h2⟩
  have H13 := Lib.hid (show Live w w13 D B k10 from H12.out.below h2)
  clear h2 H12
  go_wp2_with fail
  go_ret
  exact ⟨rfl, H13.out.bel⟩
end Go.Proofs.Ytjfedhaafdfibaa
