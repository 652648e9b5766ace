/- Entries and acts that came in. -/
import Derived.Test.YtlkhnmhhcagghaaEm
import Derived.Test.YtlkhnmhhcagghaaBase
import Derived.Deep.Slices
namespace Go.Proofs.Ytlkhnmhhcagghaa
open Go.ChangeShapes Go.WideShapes Go.ChangeAt Go.WideMaps Go.WideElems Go.RowKit Go.Deep

theorem cellsREnt : Try.prog.cellsOf 41 = 3 := by kernel_rfl
theorem cellsEAct : Try.prog.cellsOf 43 = 4 := by kernel_rfl
theorem cellsStr : Try.prog.cellsOf 9 = 1 := by kernel_rfl
theorem cellsU16 : Try.prog.cellsOf 39 = 1 := by kernel_rfl
section
variable {H : Type} {enc : TypeId × Value → H} {W : World} {spare : Nat → Bool} {held : Bool} {b' : Nat}
set_option maxRecDepth 100000 in
theorem cells_ents {fuel : Nat} {cs : List Value} {x : DataW H × List MemPlace} (hlen : cs.length = 3) (h : DataW.trod enc Try.prog W b' spare held fuel 41 cs = some x) : ∃ q : Ent, q.OK ∧ cs = ecells q := by
  obtain ⟨xs, k, _, _, _, hxl, hfl⟩ := DataW.trod_struct Try.underlying41 h
  match xs, hxl, cs, hlen with
  | [y0, y1, y2], _, [v0, v1, v2], _ =>
    have g0 := hfl 0 _ rfl
    have g1 := hfl 1 _ rfl
    have g2 := hfl 2 _ rfl
    simp [cellsStr, cellsB, cellsU16] at g0 g1 g2
    obtain ⟨s, e0, _, _⟩ := DataW.trod_string Try.underlying9 g0
    obtain ⟨z1, e1, _, w1⟩ := DataW.trod_int Try.underlying39 g1
    obtain ⟨z2, e2, _, w2⟩ := DataW.trod_int Try.underlying5 g2
    have b1 := bounds_u16 w1
    have b2 := bounds_u8 w2
    obtain ⟨n, rfl⟩ := str_ext s
    simp at e0 e1 e2
    subst e0 e1 e2
    refine ⟨⟨n, z1.toNat, z2.toNat⟩, ⟨by show z1.toNat < 65536; omega, by show z2.toNat < 256; omega⟩, ?_⟩
    show _ = [Value.string _, .int .u16 ((z1.toNat : Nat) : Int), .int .u8 ((z2.toNat : Nat) : Int)]
    rw [Int.toNat_of_nonneg b1.1, Int.toNat_of_nonneg b2.1]
def AcD.OK (a : AcD) : Prop := a.d < 256 ∧ a.e.OK
set_option maxRecDepth 100000 in
theorem cells_actsD {fuel : Nat} {cs : List Value} {x : DataW H × List MemPlace} (hlen : cs.length = 4) (h : DataW.trod enc Try.prog W b' spare held fuel 43 cs = some x) : ∃ q : AcD, q.OK ∧ cs = dacells q := by
  obtain ⟨xs, k, _, _, _, hxl, hfl⟩ := DataW.trod_struct Try.underlying43 h
  match xs, hxl, cs, hlen with
  | [y0, y1], _, [v0, v1, v2, v3], _ =>
    have g0 := hfl 0 _ rfl
    have g1 := hfl 1 _ rfl
    simp [cellsB, cellsREnt] at g0 g1
    obtain ⟨z0, e0, _, w0⟩ := DataW.trod_int Try.underlying5 g0
    obtain ⟨q, hq, e1⟩ := cells_ents rfl g1
    have b0 := bounds_u8 w0
    simp at e0
    subst e0
    refine ⟨⟨z0.toNat, q⟩, ⟨by show z0.toNat < 256; omega, hq⟩, ?_⟩
    show _ = Value.int .u8 ((z0.toNat : Nat) : Int) :: ecells q
    rw [Int.toNat_of_nonneg b0.1, e1]
set_option maxRecDepth 100000 in
theorem open_ents {b : Nat} {v : Value} {d : DataW H} {p : List MemPlace} (ho : Value.okWide Try.prog W .any b 22 v) (h : DataW.Trod enc Try.prog W b' spare held 22 v d p) :
    ∃ (l : List Ent) (sp : Option Addr) (cap : Nat), v = .slice sp l.length cap ∧ l.length ≤ cap ∧ cap ≤ maxLen ∧ (sp = none → cap = 0) ∧ (∀ a ∈ l, a.OK) ∧ SrcE W sp l := by
  obtain ⟨a0, len, cap, rfl⟩ := okWide_slice Try.underlying22 ho
  obtain ⟨fuel, hf⟩ := h
  rcases open_slice Try.underlying22 hf with ⟨hcs, hx⟩ | ⟨a, len', cap', m, n, D, Pl, hcs, _, hl, hm, hmm, hx, hcell⟩
  · simp [Value.cells] at hcs
    obtain ⟨rfl, rfl, rfl⟩ := hcs
    exact ⟨[], none, 0, rfl, by simp, by unfold maxLen; omega, fun _ => rfl, fun a ha => by simp at ha, fun h => absurd h (by simp)⟩
  · simp [Value.cells] at hcs
    obtain ⟨rfl, rfl, rfl⟩ := hcs
    have hlm : len ≤ m := by rw [hmm]; split <;> omega
    have each : ∀ i, i < m → ∃ a' : Ent, a'.OK ∧ ∀ j v, (ecells a')[j]? = some v → W.cell? (a.add (i * 3 + j)) = some v := by
      intro i hi
      obtain ⟨cs', h1, h2⟩ := hcell i hi
      rw [cellsREnt] at h1
      obtain ⟨_, hlen, hcl⟩ := World.cells?_some h1
      obtain ⟨q, hq, e⟩ := cells_ents (by omega) h2
      refine ⟨q, hq, fun j v hj => ?_⟩
      rw [← e] at hj
      have hjl : j < cs'.length := (List.getElem?_eq_some_iff.1 hj).1
      have hc := hcl j (by omega)
      rw [add_add, hj] at hc
      exact hc
    obtain ⟨q, hq⟩ := choose_lt each
    refine ⟨(List.range len).map q, some a, cap, by simp, by simpa using hl, hm, (fun h => by cases h), fun x hx => ?_, fun h0 => ?_⟩
    · obtain ⟨i, hi, rfl⟩ := List.mem_map.1 hx
      exact (hq i (by have := List.mem_range.1 hi; omega)).1
    · have h0' : 0 < len := by simpa using h0
      have h00 : (ecells (q 0))[0]? = some (.string (str (q 0).n)) := rfl
      obtain ⟨g, o, spot⟩ := a
      have hspot : spot = none := by simpa [Addr.add] using World.cell?_spot ((hq 0 (by omega)).2 0 _ h00)
      subst hspot
      refine ⟨g, o, rfl, ?_, fun i x hi j v hj => ?_⟩
      · have := (hq 0 (by omega)).2 0 _ h00
        rw [Addr.add_mid] at this
        exact e_lt this
      · obtain ⟨hi1, hi2⟩ := List.getElem?_eq_some_iff.1 hi
        have hi' : i < len := by simpa using hi1
        have e : x = q i := by rw [← hi2]; simp
        subst e
        have hc := (hq i (by omega)).2 j v hj
        rw [Addr.add_mid] at hc
        rw [Nat.add_assoc]
        exact hc
set_option maxRecDepth 100000 in
theorem open_actsD {b : Nat} {v : Value} {d : DataW H} {p : List MemPlace} (ho : Value.okWide Try.prog W .any b 38 v) (h : DataW.Trod enc Try.prog W b' spare held 38 v d p) :
    ∃ (l : List AcD) (sp : Option Addr) (cap : Nat), v = .slice sp l.length cap ∧ l.length ≤ cap ∧ cap ≤ maxLen ∧ (sp = none → cap = 0) ∧ (∀ a ∈ l, a.OK) ∧ ActsD W sp l := by
  obtain ⟨a0, len, cap, rfl⟩ := okWide_slice Try.underlying38 ho
  obtain ⟨fuel, hf⟩ := h
  rcases open_slice Try.underlying38 hf with ⟨hcs, hx⟩ | ⟨a, len', cap', m, n, D, Pl, hcs, _, hl, hm, hmm, hx, hcell⟩
  · simp [Value.cells] at hcs
    obtain ⟨rfl, rfl, rfl⟩ := hcs
    exact ⟨[], none, 0, rfl, by simp, by unfold maxLen; omega, fun _ => rfl, fun a ha => by simp at ha, fun h => absurd h (by simp)⟩
  · simp [Value.cells] at hcs
    obtain ⟨rfl, rfl, rfl⟩ := hcs
    have hlm : len ≤ m := by rw [hmm]; split <;> omega
    have each : ∀ i, i < m → ∃ a' : AcD, a'.OK ∧ ∀ j v, (dacells a')[j]? = some v → W.cell? (a.add (i * 4 + j)) = some v := by
      intro i hi
      obtain ⟨cs', h1, h2⟩ := hcell i hi
      rw [cellsEAct] at h1
      obtain ⟨_, hlen, hcl⟩ := World.cells?_some h1
      obtain ⟨q, hq, e⟩ := cells_actsD (by omega) h2
      refine ⟨q, hq, fun j v hj => ?_⟩
      rw [← e] at hj
      have hjl : j < cs'.length := (List.getElem?_eq_some_iff.1 hj).1
      have hc := hcl j (by omega)
      rw [add_add, hj] at hc
      exact hc
    obtain ⟨q, hq⟩ := choose_lt each
    refine ⟨(List.range len).map q, some a, cap, by simp, by simpa using hl, hm, (fun h => by cases h), fun x hx => ?_, fun h0 => ?_⟩
    · obtain ⟨i, hi, rfl⟩ := List.mem_map.1 hx
      exact (hq i (by have := List.mem_range.1 hi; omega)).1
    · have h0' : 0 < len := by simpa using h0
      have h00 : (dacells (q 0))[0]? = some (.int .u8 ((q 0).d : Int)) := rfl
      obtain ⟨g, o, spot⟩ := a
      have hspot : spot = none := by simpa [Addr.add] using World.cell?_spot ((hq 0 (by omega)).2 0 _ h00)
      subst hspot
      refine ⟨g, o, rfl, ?_, fun i x hi j v hj => ?_⟩
      · have := (hq 0 (by omega)).2 0 _ h00
        rw [Addr.add_mid] at this
        exact e_lt this
      · obtain ⟨hi1, hi2⟩ := List.getElem?_eq_some_iff.1 hi
        have hi' : i < len := by simpa using hi1
        have e : x = q i := by rw [← hi2]; simp
        subst e
        have hc := (hq i (by omega)).2 j v hj
        rw [Addr.add_mid] at hc
        rw [Nat.add_assoc]
        exact hc
end
end Go.Proofs.Ytlkhnmhhcagghaa
