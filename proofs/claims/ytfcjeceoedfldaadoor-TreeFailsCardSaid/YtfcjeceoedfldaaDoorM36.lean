/- Numbers of 16 bits, and one act, that came in. -/
import Derived.Test.YtfcjeceoedfldaaDoorM33
import Derived.Test.YtfcjeceoedfldaaDoorM35
import Derived.Test.YtfcjeceoedfldaaDoorM14
import Derived.Test.YtfcjeceoedfldaaDoorM11
namespace Go.Proofs.YtfcjeceoedfldaaDoor
open Go.ChangeShapes Go.WideShapes Go.ChangeAt Go.WideMaps Go.WideElems Go.RowKit Go.Deep

theorem cellsU16T : Tryd.prog.cellsOf 31 = 1 := by kernel_rfl
section
variable {H : Type} {enc : TypeId × Value → H} {W : World} {spare : Nat → Bool} {held : Bool} {b' : Nat}
set_option maxRecDepth 100000 in
theorem open_u16sT {b : Nat} {v : Value} {d : DataW H} {p : List MemPlace} (ho : Value.okWide Tryd.prog W .any b 27 v) (h : DataW.Trod enc Tryd.prog W b' spare held 27 v d p) :
    ∃ (l : List Nat) (sp : Option Addr) (cap : Nat), v = .slice sp l.length cap ∧ l.length ≤ cap ∧ (sp = none → cap = 0) ∧ (∀ x ∈ l, x < 65536) ∧ SrcU W sp l ∧ ∀ a, sp = some a → a.block < W.heap.size := by
  have ho2 := ho
  obtain ⟨a0, len, cap, rfl⟩ := okWide_slice Tryd.underlying27 ho
  obtain ⟨fuel, hf⟩ := h
  rcases open_ints Tryd.underlying27 Tryd.underlying31 cellsU16T hf with ⟨hcs, hx⟩ | ⟨a, len', cap', zs, hcs, _, hl, hm, hz, hx, hcell, hwz⟩
  · simp [Value.cells] at hcs
    obtain ⟨rfl, rfl, rfl⟩ := hcs
    exact ⟨[], none, 0, rfl, by simp, fun _ => rfl, fun x hx => by simp at hx, fun h => absurd h (by simp), fun a ha => by cases ha⟩
  · simp [Value.cells] at hcs
    obtain ⟨rfl, rfl, rfl⟩ := hcs
    have hlz : len ≤ zs.length := by rw [hz]; split <;> omega
    have hlen : ((zs.take len).map Int.toNat).length = len := by simp; omega
    refine ⟨(zs.take len).map Int.toNat, some a, cap, by rw [hlen], by omega, (fun h0 => by cases h0), fun x hx => ?_, fun h0 => ?_, fun a' ha => by cases ha; exact okWide_lt Tryd.underlying27 ho2⟩
    · obtain ⟨z, hz1, rfl⟩ := List.mem_map.1 hx
      have := bounds_u16 (hwz z (List.mem_of_mem_take hz1))
      omega
    · rw [hlen] at h0
      obtain ⟨g, o, rfl, hc⟩ := ints_at hcell (by omega)
      refine ⟨g, o, rfl, lt_of_cell (hc 0 (by omega)), fun i x hx => ?_⟩
      rw [List.getElem?_map, List.getElem?_take] at hx
      split at hx
      · rename_i hi
        have hj' : i < zs.length := by omega
        rw [List.getElem?_eq_getElem hj', Option.map_some, Option.some.injEq] at hx
        have hb := bounds_u16 (hwz _ (List.getElem_mem hj'))
        have e : ((zs[i].toNat : Nat) : Int) = zs[i] := Int.toNat_of_nonneg hb.1
        rw [← hx]
        unfold U16
        rw [e]
        have h9 := hc i hj'
        rw [List.getD_eq_getElem?_getD, List.getElem?_eq_getElem hj', Option.getD_some] at h9
        exact h9
      · cases hx
set_option maxRecDepth 100000 in
theorem open_actT1 {b : Nat} {v : Value} {d : DataW H} {p : List MemPlace} (ho : Value.okWide Tryd.prog W .any b 43 v) (h : DataW.Trod enc Tryd.prog W b' spare held 43 v d p) : ∃ a : AcT, AcOKT W a ∧ v = .agg (tacells a).toArray := by
  unfold Value.okWide at ho
  rw [Tryd.underlying43] at ho
  obtain ⟨cs, rfl, hcs⟩ := ho
  obtain ⟨fuel, hf⟩ := h
  have hl : (Value.agg cs).cells.toList.length = 3 := by
    obtain ⟨xs, k, h1, h2, h3, h4, h5⟩ := DataW.trod_struct Tryd.underlying43 hf
    rw [cellsTA] at h3
    exact h3
  obtain ⟨a, h1, h2⟩ := cells_act hl hf
  refine ⟨a, h1, ?_⟩
  congr 1
  apply Array.toList_inj.1
  simpa [Value.cells] using h2
end
end Go.Proofs.YtfcjeceoedfldaaDoor
/- TreeFails: its walk, from what came in. -/
namespace Go.Proofs.YtfcjeceoedfldaaDoor
open Go.RowKit

theorem treeFails_walk (l : List AcT) (sp : Option Addr) (cap : Nat) (hc : l.length ≤ cap) (bl : List Nat) (spb : Option Addr) (capb : Nat) (hcb : bl.length ≤ capb) (hzb : spb = none → capb = 0) (hbl : ∀ x ∈ bl, x < 65536) (room off : Nat) (hoff : off < 4294967296) (last : AcT) (w : World) (hA : ActsT w sp l) (hB : SrcU w spb bl) (hltb : ∀ a, spb = some a → a.block < w.heap.size) (hroom : room < 256) (hLa : AcOKT w last) (hT : RTab w) :
    Calls Tryd.prog 4 #[.slice sp l.length cap, .slice spb bl.length capb, .int .u8 (room : Int), .int .u32 (off : Int), .agg (tacells last).toArray] w fun e w' => e = .returned (.bool true) ∧ Below w.heap.size w w' :=
  treeFails_go l sp cap hc bl spb capb hcb hzb hbl room off hroom hoff last w hA hLa hB hltb hT
end Go.Proofs.YtfcjeceoedfldaaDoor
/- Eight pointers that came in; the table of kinds as it is laid. -/
namespace Go.Proofs.YtfcjeceoedfldaaDoor
open Go.ChangeShapes Go.WideShapes Go.ChangeAt Go.WideMaps Go.WideElems Go.RowKit

def laidK : List (String × DataW Unit) := [("kintsugi/ptr.rules", Rows.laid_kintsugi_ptr_rules)]
theorem gK : (laidK.map fun x => Tryd.prog.globalNamed x.1) = [some 0] := by kernel_rfl
theorem door_met (os : Os) (args : Array Value) : laidMetH Tryd.prog laidK ((World.doorLaid Tryd.prog 400 os).forCall (fun _ _ => 0) ⟨#[], args, []⟩).memory :=
  laidMetH_of_parts3 (fuel := 8) (laidMet_of_run' 8 (by kernel_rfl) (by kernel_rfl)) (by kernel_rfl) (by kernel_rfl)
theorem of_laid {W : World} (h : laidMetH Tryd.prog laidK W) : RTab W := by
  rw [MakeChecks.laidMetH_plain _ _ _ (by kernel_rfl)] at h
  obtain ⟨ps, ⟨g1, t1, cs1, f1, p1, q1, hg1, ht1, hv1, hd1, _, _⟩, _, _⟩ := h
  have hgg : [some g1] = [some 0] := by rw [← gK]; show _ = [Tryd.prog.globalNamed _]; rw [← hg1]
  simp only [List.cons.injEq, Option.some.injEq, and_true] at hgg
  obtain rfl := hgg
  obtain rfl := Option.some.inj (tRu.symm.trans ht1)
  have hc := trod_rules hd1 rfl
  obtain ⟨t, fr, hh⟩ := row_of hg1 hv1
  refine ⟨t, fr, ?_⟩
  rw [hh, ← hc]
section
variable {H : Type} {enc : TypeId × Value → H} {W : World} {b' : Nat} {spare : Nat → Bool} {held : Bool}
end
end Go.Proofs.YtfcjeceoedfldaaDoor
