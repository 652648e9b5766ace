/- The pointer that a block fits: Seal. -/
import Derived.Test.YtincpdnmaiimnaaDoorPn
import Derived.Deep.RegionLaw
import Derived.WalkSpells
import Derived.Deep.Quiet
import Derived.Stop.BytesEq
import Derived.Deep.RegionWith
import Derived.Deep.RegionHeld3
import Derived.Deep.MidRow
import Derived.Deep.QuietTactic
import Derived.BigQuiet
import Derived.StillTailTactics
import Derived.WalkKit
import Derived.Lib.Hide
import Derived.Test.YtincpdnmaiimnaaDoorPut
namespace Go.Proofs.YtincpdnmaiimnaaDoor
open Go.RowKit

theorem one_pc (p : Pt) : (pcells p).toArray.all (·.oneCell') = true := by
  rw [Array.all_eq_true_iff_forall_mem]
  intro v hv
  simp only [pcells, pnums, List.mem_toArray, List.mem_cons, List.mem_append, List.mem_map, List.not_mem_nil, or_false] at hv
  rcases hv with (rfl | rfl | rfl | rfl | rfl) | ⟨x, _, rfl⟩ | ⟨x, _, rfl⟩ <;> rfl
theorem size_pc {p : Pt} (hp : p.OK) : (Tryd.prog.info? 28).map (·.size) = some (pcells p).toArray.size := by rw [sizeP]; simp [pcells_length hp]
theorem pc_hash {p : Pt} (hp : p.OK) (h : Bs) (hh : h.length = 32) : (pcells p).take 5 ++ h.map V8 ++ (pcells p).drop (5 + (h.map V8).length) = pcells { p with hash := h } := by
  have e : pcells p = pnums p ++ (p.hash.map V8 ++ p.ats.map U16) := rfl
  rw [e, List.take_left' (by rfl), show 5 + (h.map V8).length = 5 + 32 by simp [hh], ← List.drop_drop, List.drop_left' (by rfl), List.drop_left' (by simp [hp.hash])]
  simp [pcells, pnums]
end Go.Proofs.YtincpdnmaiimnaaDoor
