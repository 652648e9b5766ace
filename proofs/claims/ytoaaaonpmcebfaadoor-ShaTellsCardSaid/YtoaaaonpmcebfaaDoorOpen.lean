/- Slices of bytes, and of numbers, that came in, opened. -/
import Derived.Test.YtoaaaonpmcebfaaDoorBase
import Derived.Test.YtoaaaonpmcebfaaDoorPieces
namespace Go.Proofs.YtoaaaonpmcebfaaDoor
open Go.ChangeShapes Go.WideShapes Go.ChangeAt Go.WideMaps Go.WideElems Go.RowKit

theorem lt_of_cell {w : World} {g o : Nat} {v : Value} (h : w.cell? ⟨g, o, none⟩ = some v) : g < w.heap.size := by
  rcases Nat.lt_or_ge g w.heap.size with h1 | h1
  · exact h1
  · simp [World.cell?, Array.getElem?_eq_none h1] at h
/-- A slice of bytes that came in. -/
theorem open_bytes {H : Type} {enc : TypeId × Value → H} {W : World} {spare : Nat → Bool} {held : Bool} {b b' : Nat} {v : Value} {d : DataW H} {p : List MemPlace}
    (ho : Value.okWide Tryd.prog W .any b 22 v) (h : DataW.Trod enc Tryd.prog W b' spare held 22 v d p) :
    ∃ (l : List (BitVec 8)) (sp : Option Addr) (cap : Nat), v = .slice sp l.length cap ∧ l.length ≤ cap ∧ cap ≤ maxLen ∧ (sp = none → cap = 0) ∧ SrcA W sp l := by
  obtain ⟨a0, len, cap, rfl⟩ := okWide_slice Tryd.underlying22 ho
  obtain ⟨fuel, hf⟩ := h
  rcases open_ints Tryd.underlying22 Tryd.underlying5 cells5 hf with ⟨hcs, hx⟩ | ⟨a, len', cap', zs, hcs, _, hl, hm, hz, hx, hcell, hwz⟩
  · simp [Value.cells] at hcs
    obtain ⟨rfl, rfl, rfl⟩ := hcs
    exact ⟨[], none, 0, rfl, by simp, by unfold maxLen; omega, fun _ => rfl, SrcA.nil _ _⟩
  · simp [Value.cells] at hcs
    obtain ⟨rfl, rfl, rfl⟩ := hcs
    have hlz : len ≤ zs.length := by rw [hz]; split <;> omega
    have hlen : ((zs.take len).map (fun m => BitVec.ofNat 8 m.toNat)).length = len := by simp; omega
    refine ⟨(zs.take len).map (fun m => BitVec.ofNat 8 m.toNat), some a, cap, by rw [hlen], by omega, hm, (fun h0 => by cases h0), fun h0 => ?_⟩
    rw [hlen] at h0
    obtain ⟨g, o, rfl, hc⟩ := ints_at hcell (by omega)
    have hcl : ∀ j, j < len → W.cell? ⟨g, o + j, none⟩ = some (V8 (((zs.take len).map (fun m => BitVec.ofNat 8 m.toNat)).getD j 0)) := fun j hj => by
      have hj' : j < zs.length := by omega
      have hb := bounds_u8 (hwz _ (List.getElem_mem hj'))
      rw [hc j hj']
      simp only [List.getD_eq_getElem?_getD, List.getElem?_map, List.getElem?_take, if_pos hj, List.getElem?_eq_getElem hj', Option.map_some, Option.getD_some, V8, N8, BitVec.toNat_ofNat]
      congr 2
      omega
    exact ⟨g, o, rfl, lt_of_cell (hc 0 (by omega)), fun j hj => hcl j (by rw [hlen] at hj; exact hj)⟩
theorem cells34 : Tryd.prog.cellsOf 34 = 1 := by kernel_rfl
/-- A slice of 16-bit numbers that came in. -/
theorem open_cuts {H : Type} {enc : TypeId × Value → H} {W : World} {spare : Nat → Bool} {held : Bool} {b b' : Nat} {v : Value} {d : DataW H} {p : List MemPlace}
    (ho : Value.okWide Tryd.prog W .any b 33 v) (h : DataW.Trod enc Tryd.prog W b' spare held 33 v d p) :
    ∃ (qs : List Nat) (sp : Option Addr) (cap : Nat), v = .slice sp qs.length cap ∧ CutsAt W sp qs ∧ ∀ i, i < qs.length → qs.getD i 0 < 65536 := by
  obtain ⟨a0, len, cap, rfl⟩ := okWide_slice Tryd.underlying33 ho
  obtain ⟨fuel, hf⟩ := h
  rcases open_ints Tryd.underlying33 Tryd.underlying34 cells34 hf with ⟨hcs, hx⟩ | ⟨a, len', cap', zs, hcs, _, hl, hm, hz, hx, hcell, hwz⟩
  · simp [Value.cells] at hcs
    obtain ⟨rfl, rfl, rfl⟩ := hcs
    exact ⟨[], none, 0, rfl, fun h => absurd h (by simp), fun i hi => by simp at hi⟩
  · simp [Value.cells] at hcs
    obtain ⟨rfl, rfl, rfl⟩ := hcs
    have hlz : len ≤ zs.length := by rw [hz]; split <;> omega
    have hlen : ((zs.take len).map Int.toNat).length = len := by simp; omega
    have hget : ∀ j (hj : j < len), ((zs.take len).map Int.toNat).getD j 0 = (zs[j]'(by omega)).toNat := fun j hj => by
      have hj' : j < zs.length := by omega
      simp [List.getD_eq_getElem?_getD, hj, hj']
    refine ⟨(zs.take len).map Int.toNat, some a, cap, by rw [hlen], fun h0 => ?_, fun i hi => ?_⟩
    · rw [hlen] at h0
      obtain ⟨g, o, rfl, hc⟩ := ints_at hcell (by omega)
      refine ⟨g, o, rfl, lt_of_cell (hc 0 (by omega)), fun j hj => ?_⟩
      rw [hlen] at hj
      have hj' : j < zs.length := by omega
      have hb := bounds_u16 (hwz _ (List.getElem_mem hj'))
      rw [hc j hj', hget j hj]
      congr 2
      simp only [List.getD_eq_getElem?_getD, List.getElem?_eq_getElem hj', Option.getD_some]
      omega
    · rw [hlen] at hi
      have hi' : i < zs.length := by omega
      have hb := bounds_u16 (hwz _ (List.getElem_mem hi'))
      rw [hget i hi]
      omega
theorem shaPieces_walk (bs : List (BitVec 8)) (sp : Option Addr) (cap : Nat) (qs : List Nat) (sp2 : Option Addr) (cap2 : Nat) (w : World) (hc : bs.length ≤ cap) (hcm : cap ≤ 9223372036854775807) (hz : sp = none → cap = 0) (hS : SrcA w sp bs) (hQ : CutsAt w sp2 qs) (hq16 : ∀ i, i < qs.length → qs.getD i 0 < 65536) (hT : Tab w) :
    Calls Tryd.prog 6 #[.slice sp bs.length cap, .slice sp2 qs.length cap2] w fun e w' => e = .returned (.bool true) ∧ Below w.heap.size w w' := by
  by_cases h : bs.length ≤ 4000 ∧ qs.length ≤ 100
  · exact shaPieces_body bs sp cap qs sp2 cap2 w h.1 h.2 hc hcm hz hS hQ hq16 hT
  · obtain ⟨L, hL⟩ : ∃ L, bs.length = L := ⟨_, rfl⟩
    obtain ⟨C, hC⟩ : ∃ C, qs.length = C := ⟨_, rfl⟩
    rw [hL, hC] at h ⊢
    have HT := Lib.hid hT
    clear hL hC hc hcm hz hS hQ hq16 hT
    by_cases h1 : (4000 : Int) < (L : Int)
    · clear h
      go_enter Tryd.func6, Tryd.ntmps6
      go_wp2_with (go_at_call 8; refine (wakes_any _ HT.out).mono ?_; rintro x w2 ⟨rfl, hb2⟩; have HB2 := Lib.hid hb2; clear hb2)
      go_ret
      exact ⟨rfl, HB2.out⟩
    · have h2 : (100 : Int) < (C : Int) := by omega
      clear h
      go_enter Tryd.func6, Tryd.ntmps6
      go_wp2_with (go_at_call 8; refine (wakes_any _ HT.out).mono ?_; rintro x w2 ⟨rfl, hb2⟩; have HB2 := Lib.hid hb2; clear hb2)
      go_ret
      exact ⟨rfl, HB2.out⟩
end Go.Proofs.YtoaaaonpmcebfaaDoor
