/- Charge: objects that came in. -/
import Derived.Test.YtoceedfjfjobdaaGo
import Derived.ProofKit
import Derived.OpenShut
import Derived.Deep.Slices
namespace Go.Proofs.Ytoceedfjfjobdaa
open Go.ChangeShapes Go.WideShapes Go.ChangeAt Go.WideMaps Go.WideElems Go.RowKit Go.Deep

theorem cellsLo : Try.prog.cellsOf 33 = 3 := by kernel_rfl
theorem cellsOf_ : Try.prog.cellsOf 31 = 1 := by kernel_rfl
theorem cells16 : Try.prog.cellsOf 30 = 1 := by kernel_rfl
theorem cells8 : Try.prog.cellsOf 5 = 1 := by kernel_rfl
theorem cells32 : Try.prog.cellsOf 47 = 1 := by kernel_rfl
section
variable {H : Type} {enc : TypeId × Value → H} {W : World} {spare : Nat → Bool} {held : Bool} {b' : Nat}
theorem field_offs {v : Value} {n : Nat} {x : DataW H × List MemPlace} (hf : DataW.trod enc Try.prog W b' spare held n 31 [v] = some x) :
    ∃ (l : List Nat) (sp : Option Addr) (cap : Nat), v = .slice sp l.length cap ∧ l.length ≤ cap ∧ cap ≤ maxLen ∧ SrcN W sp l ∧ ∀ y ∈ l, y < 4294967296 := by
  rcases open_ints Try.underlying31 Try.underlying47 cells32 hf with ⟨hcs, hx⟩ | ⟨a, len, cap, zs, hcs, _, hl, hm, hz, hx, hcell, hwz⟩
  · simp at hcs
    exact ⟨[], none, 0, hcs, by simp, by unfold maxLen; omega, fun h => absurd h (by simp), fun y hy => by simp at hy⟩
  · simp at hcs
    have hlz : len ≤ zs.length := by rw [hz]; split <;> omega
    have hlen : ((zs.take len).map Int.toNat).length = len := by simp; omega
    refine ⟨(zs.take len).map Int.toNat, some a, cap, by rw [hlen]; exact hcs, by omega, hm, fun h0 => ?_, fun y hy => ?_⟩
    · rw [hlen] at h0
      obtain ⟨g, o, rfl, hc⟩ := ints_at hcell (by omega)
      refine ⟨g, o, rfl, lt_of_cell (hc 0 (by omega)), fun j x hj => ?_⟩
      have hj2 : j < len := by rw [← hlen]; exact (List.getElem?_eq_some_iff.1 hj).1
      have hj' : j < zs.length := by omega
      have hb := bounds_u32 (hwz _ (List.getElem_mem hj'))
      rw [hc j hj']
      rw [List.getElem?_map, List.getElem?_take, if_pos hj2, List.getElem?_eq_getElem hj'] at hj
      simp only [Option.map_some, Option.some.injEq] at hj
      rw [← hj, Int.toNat_of_nonneg hb.1]
      simp [List.getD_eq_getElem?_getD, hj']
    · obtain ⟨z, hz2, rfl⟩ := List.mem_map.1 hy
      have hb := bounds_u32 (hwz z (List.mem_of_mem_take hz2))
      omega
set_option maxRecDepth 100000 in
theorem cells_obj {fuel : Nat} {cs : List Value} {x : DataW H × List MemPlace} (hlen : cs.length = 3) (h : DataW.trod enc Try.prog W b' spare held fuel 33 cs = some x) : ∃ q : Oi, q.OK W ∧ cs = ocells q := by
  obtain ⟨xs, k, _, _, _, hxl, hfl⟩ := DataW.trod_struct Try.underlying33 h
  match xs, hxl, cs, hlen with
  | [y0, y1, y2], _, [v0, v1, v2], _ =>
    have g0 := hfl 0 _ rfl
    have g1 := hfl 1 _ rfl
    have g2 := hfl 2 _ rfl
    simp [cells16, cells8, cellsOf_] at g0 g1 g2
    obtain ⟨z0, e0, _, w0⟩ := DataW.trod_int Try.underlying30 g0
    obtain ⟨z1, e1, _, w1⟩ := DataW.trod_int Try.underlying5 g1
    obtain ⟨l2, sp2, c2, e2, k2, m2, s2, x2⟩ := field_offs g2
    have b0 := bounds_u16 w0
    have b1 := bounds_u8 w1
    simp at e0 e1
    subst e0 e1 e2
    refine ⟨⟨z0.toNat, z1.toNat, l2, sp2, c2⟩, ⟨s2, k2, m2, by show z0.toNat < 65536; omega, by show z1.toNat < 256; omega, x2⟩, ?_⟩
    show _ = [Value.int .u16 ((z0.toNat : Nat) : Int), Value.int .u8 ((z1.toNat : Nat) : Int), _]
    rw [Int.toNat_of_nonneg b0.1, Int.toNat_of_nonneg b1.1]
theorem open_obj {b : Nat} {v : Value} {d : DataW H} {p : List MemPlace} (ho : Value.okWide Try.prog W .any b 33 v) (h : DataW.Trod enc Try.prog W b' spare held 33 v d p) : ∃ a : Oi, a.OK W ∧ v = .agg (ocells a).toArray := by
  unfold Value.okWide at ho
  rw [Try.underlying33] at ho
  obtain ⟨cs, rfl, hcs⟩ := ho
  obtain ⟨fuel, hf⟩ := h
  have hl : (Value.agg cs).cells.toList.length = 3 := by
    obtain ⟨xs, k, _, _, hl, _, _⟩ := DataW.trod_struct Try.underlying33 hf
    rw [hl, cellsLo]
  obtain ⟨a, h1, h2⟩ := cells_obj hl hf
  refine ⟨a, h1, ?_⟩
  congr 1
  apply Array.toList_inj.1
  simpa [Value.cells] using h2
set_option maxRecDepth 100000 in
theorem open_objs {b : Nat} {v : Value} {d : DataW H} {p : List MemPlace} (ho : Value.okWide Try.prog W .any b 29 v) (h : DataW.Trod enc Try.prog W b' spare held 29 v d p) :
    ∃ (l : List Oi) (sp : Option Addr) (cap : Nat), v = .slice sp l.length cap ∧ l.length ≤ cap ∧ SrcO W sp l ∧ ∀ o ∈ l, o.OK W := by
  obtain ⟨a0, len, cap, rfl⟩ := okWide_slice Try.underlying29 ho
  obtain ⟨fuel, hf⟩ := h
  rcases open_slice Try.underlying29 hf with ⟨hcs, hx⟩ | ⟨a, len', cap', m, n, D, Pl, hcs, _, hl, hm, hmm, hx, hcell⟩
  · simp [Value.cells] at hcs
    obtain ⟨rfl, rfl, rfl⟩ := hcs
    exact ⟨[], none, 0, rfl, by simp, SrcO.nil _ _, fun a ha => by simp at ha⟩
  · simp [Value.cells] at hcs
    obtain ⟨rfl, rfl, rfl⟩ := hcs
    have hlm : len ≤ m := by rw [hmm]; split <;> omega
    have each : ∀ i, i < m → ∃ q : Oi, q.OK W ∧ ∀ j v, (ocells q)[j]? = some v → W.cell? (a.add (i * 3 + j)) = some v := by
      intro i hi
      obtain ⟨cs', h1, h2⟩ := hcell i hi
      rw [cellsLo] at h1
      obtain ⟨_, hlen, hcl⟩ := World.cells?_some h1
      obtain ⟨q, hq, e⟩ := cells_obj (by omega) h2
      refine ⟨q, hq, fun j v hj => ?_⟩
      rw [← e] at hj
      have hjl : j < cs'.length := (List.getElem?_eq_some_iff.1 hj).1
      have hc := hcl j (by omega)
      rw [add_add, hj] at hc
      exact hc
    obtain ⟨q, hq⟩ := choose_lt each
    refine ⟨(List.range len).map q, some a, cap, by simp, by simpa using hl, fun h0 => ?_, fun x hx => ?_⟩
    · have h0' : 0 < len := by simpa using h0
      have h00 : (ocells (q 0))[0]? = some (.int .u16 ((q 0).num : Int)) := rfl
      obtain ⟨g, o, spot⟩ := a
      have hspot : spot = none := by simpa [Addr.add] using World.cell?_spot ((hq 0 (by omega)).2 0 _ h00)
      subst hspot
      refine ⟨g, o, rfl, ?_, fun i x hi j v hj => ?_⟩
      · have := (hq 0 (by omega)).2 0 _ h00
        rw [Addr.add_mid] at this
        exact lt_of_cell this
      · obtain ⟨hi1, hi2⟩ := List.getElem?_eq_some_iff.1 hi
        have hi' : i < len := by simpa using hi1
        have e : x = q i := by rw [← hi2]; simp
        subst e
        have hc := (hq i (by omega)).2 j v hj
        rw [Addr.add_mid] at hc
        rw [Nat.add_assoc]
        exact hc
    · obtain ⟨i, hi, rfl⟩ := List.mem_map.1 hx
      exact (hq i (by have := List.mem_range.1 hi; omega)).1
end
end Go.Proofs.Ytoceedfjfjobdaa
