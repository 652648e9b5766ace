/- The digest that is known, asked of the program. -/
import Derived.Test.YtoaaaonpmcebfaaDoorHex
import Derived.Lib.SlBytesConst
namespace Go.Proofs.YtoaaaonpmcebfaaDoor
open Go.RowKit

def abc : List (BitVec 8) := [97#8, 98#8, 99#8]
theorem abc_digits : bstr (hexOf (digest abc)) = { data := #[98, 97, 55, 56, 49, 54, 98, 102, 56, 102, 48, 49, 99, 102, 101, 97, 52, 49, 52, 49, 52, 48, 100, 101, 53, 100, 97, 101, 50, 50, 50, 51, 98, 48, 48, 51, 54, 49, 97, 51, 57, 54, 49, 55, 55, 97, 57, 99, 98, 52, 49, 48, 102, 102, 54, 49, 102, 50, 48, 48, 49, 53, 97, 100] } := by kernel_rfl

/-- The bytes of a constant text, as the program lays them. -/
abbrev abcObj : Obj := .cells #[.int .u8 97, .int .u8 98, .int .u8 99] 5 (3, 4)
theorem abc_src (w : World) : SrcA (w.alloc abcObj) (some ⟨w.heap.size, 0, none⟩) abc := fun _ => by
  refine ⟨w.heap.size, 0, rfl, by simp, fun j hj => ?_⟩
  rw [Nat.zero_add, cell_of_row _ _ _ _ _ _ (heap_alloc_new w abcObj)]
  have := get_map V8 abc j hj 0
  rw [← this]
  show (#[Value.int .u8 97, .int .u8 98, .int .u8 99] : Array Value)[j]? = _
  rw [show (#[Value.int .u8 97, .int .u8 98, .int .u8 99] : Array Value) = (abc.map V8).toArray from rfl]
  simp

set_option maxRecDepth 100000 in
set_option maxHeartbeats 1000000 in
theorem wakes_any (w : World) (hT : Tab w) : Calls Tryd.prog 8 #[] w fun e w' => e = .returned (.bool true) ∧ Below w.heap.size w w' := by
  have HT := Lib.hid hT
  clear hT
  go_enter Tryd.func8, Tryd.ntmps8
  have kc := fun (w : World) (C : Array Value) (n c : Nat) => Lib.run_convert_bytes_const (P := Tryd.prog) w 22 5 C n c Tryd.underlying22 Tryd.underlying5
  go_wp2_with fail
  have hS := abc_src w
  have hT1 : Tab (w.alloc abcObj) := Tab.alloc HT.out _
  refine (shaSum_any abc (some ⟨w.heap.size, 0, none⟩) 3 _ (by decide) (by decide) (by decide) hS hT1).mono ?_
  rintro e1 w1 ⟨rfl, hb1⟩
  have HB1 : Hid (Below w.heap.size w w1) := Lib.hid (((Below.refl _ _).alloc (Nat.le_refl _) _).trans (hb1.mono (by simp)))
  clear hb1 hS hT1 kc
  go_wp2_with fail
  refine (hex_any (digest abc) (digest_length _) w1).mono ?_
  rintro e2 w2 ⟨rfl, hb2⟩
  have HB2 : Hid (Below w.heap.size w w2) := Lib.hid (HB1.out.trans (hb2.mono HB1.out.size))
  rw [abc_digits]
  clear hb2 HB1
  go_wp2
  go_ret
  exact ⟨rfl, HB2.out⟩

end Go.Proofs.YtoaaaonpmcebfaaDoor
