/- What the rows need: bytes that came in, opened. -/
import Derived.Test.YtlkhnmhhcagghaaSl
import Derived.ProofKit
import Derived.OpenShut
namespace Go.Proofs.Ytlkhnmhhcagghaa
open Go.ChangeShapes Go.WideShapes Go.ChangeAt Go.RowKit

theorem own : ownKnob Try.prog.godebug = none := by kernel_rfl
theorem laidOut : laidOutB Try.prog = true := by kernel_rfl
theorem cellsB : Try.prog.cellsOf 5 = 1 := by kernel_rfl
theorem lt_of_cell {w : World} {g o : Nat} {v : Value} (h : w.cell? ⟨g, o, none⟩ = some v) : g < w.heap.size := by
  rcases Nat.lt_or_ge g w.heap.size with h1 | h1
  · exact h1
  · simp [World.cell?, Array.getElem?_eq_none h1] at h
set_option maxRecDepth 100000 in
/-- A slice of bytes that came in. -/
theorem open_bytes {H : Type} {enc : TypeId × Value → H} {W : World} {spare : Nat → Bool} {held : Bool} {b b' : Nat} {v : Value} {d : DataW H} {p : List MemPlace}
    (ho : Value.okWide Try.prog W .any b 23 v) (h : DataW.Trod enc Try.prog W b' spare held 23 v d p) :
    ∃ (l : List (BitVec 8)) (sp : Option Addr) (cap : Nat), v = .slice sp l.length cap ∧ l.length ≤ cap ∧ cap ≤ maxLen ∧ (sp = none → cap = 0) ∧ SrcA W sp l := by
  obtain ⟨a0, len, cap, rfl⟩ := okWide_slice Try.underlying23 ho
  obtain ⟨fuel, hf⟩ := h
  rcases open_ints Try.underlying23 Try.underlying5 cellsB hf with ⟨hcs, hx⟩ | ⟨a, len', cap', zs, hcs, _, hl, hm, hz, hx, hcell, hwz⟩
  · simp [Value.cells] at hcs
    obtain ⟨rfl, rfl, rfl⟩ := hcs
    exact ⟨[], none, 0, rfl, by simp, by unfold maxLen; omega, fun _ => rfl, SrcA.nil _ _⟩
  · simp [Value.cells] at hcs
    obtain ⟨rfl, rfl, rfl⟩ := hcs
    have hlz : len ≤ zs.length := by rw [hz]; split <;> omega
    have hlen : ((zs.take len).map (fun m => BitVec.ofNat 8 m.toNat)).length = len := by simp; omega
    refine ⟨(zs.take len).map (fun m => BitVec.ofNat 8 m.toNat), some a, cap, by rw [hlen], by omega, hm, (fun h0 => by cases h0), fun h0 => ?_⟩
    rw [hlen] at h0
    obtain ⟨g, o, rfl, hc⟩ := ints_at hcell (by omega)
    have hcl : ∀ j, j < len → W.cell? ⟨g, o + j, none⟩ = some (V8 (((zs.take len).map (fun m => BitVec.ofNat 8 m.toNat)).getD j 0)) := fun j hj => by
      have hj' : j < zs.length := by omega
      have hb := bounds_u8 (hwz _ (List.getElem_mem hj'))
      rw [hc j hj']
      simp only [List.getD_eq_getElem?_getD, List.getElem?_map, List.getElem?_take, if_pos hj, List.getElem?_eq_getElem hj', Option.map_some, Option.getD_some, V8, N8, BitVec.toNat_ofNat]
      congr 2
      omega
    exact ⟨g, o, rfl, lt_of_cell (hc 0 (by omega)), fun j hj => hcl j (by rw [hlen] at hj; exact hj)⟩
end Go.Proofs.Ytlkhnmhhcagghaa
