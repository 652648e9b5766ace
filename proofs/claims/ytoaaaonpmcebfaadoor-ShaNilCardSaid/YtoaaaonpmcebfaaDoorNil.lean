/- A hash that is none: nothing is taken in; the digest is that of no bytes. -/
import Derived.Test.YtoaaaonpmcebfaaDoorSum
namespace Go.Proofs.YtoaaaonpmcebfaaDoor
open Go.RowKit

theorem writeNil_any (s : Value) (w : World) : Calls Tryd.prog 13 #[.pointer none, s] w fun e w' => e = .returned (.tuple #[]) ∧ w = w' := by
  go_enter Tryd.func13, Tryd.ntmps13
  go_wp2
  exact bodyPost_ret (v := .tuple #[]) (results_none Tryd.results13 _ _ _) rfl ⟨rfl, rfl⟩

set_option maxRecDepth 100000 in
set_option maxHeartbeats 1000000 in
theorem sumNil_any (w : World) (hT : Tab w) : Calls Tryd.prog 14 #[.pointer none] w fun e w' => e = .returned (.agg ((digest []).map V8).toArray) ∧ Below w.heap.size w w' := by
  have HT := Lib.hid hT
  clear hT
  go_enter Tryd.func14, Tryd.ntmps14
  go_wp2_with fail
  refine (shaSum_any [] none 0 _ (by decide) (by decide) (by decide) (fun h => absurd h (by decide)) (HT.out.alloc _)).mono ?_
  rintro e1 w1 ⟨rfl, hb1⟩
  have HZ : Hid (Blk w1 w.heap.size (List.replicate 32 Z8) 24) := Lib.hid ((Blk.new' _ _ _ _ _ rfl rfl).below hb1 (by simp))
  have HB : Hid (Below w.heap.size w w1) := Lib.hid (((Below.refl _ _).alloc (Nat.le_refl _) _).trans (hb1.mono (by simp)))
  clear hb1
  go_wp2_with (first
    | (refine wpList_store_row rfl 24 (.tmp 2) (.tmp 6) rfl w.heap.size _ rfl rfl 24 _ HZ.out (size24d []) (by simp [digest_length]) (one_ints V8 (fun _ => rfl) _) ?_)
    | fail)
  exact bodyPost_ret (results_cell_row Tryd.results14 _ _ w.heap.size 24 _ _ _ rfl (HZ.out.row _) Tryd.underlying24 rfl (size24d [])) rfl ⟨rfl, below_row HB.out (Nat.le_refl _) _⟩

end Go.Proofs.YtoaaaonpmcebfaaDoor
