/- What came in, opened: acts. -/
import Derived.Test.YtjfedhaafdfibaaKa
import Derived.Test.YtjfedhaafdfibaaRows
import Derived.ProofKit
import Derived.OpenShut
import Derived.Deep.Slices
namespace Go.Proofs.Ytjfedhaafdfibaa
open Go.ChangeShapes Go.WideShapes Go.ChangeAt Go.RowKit Go.Deep

theorem own : ownKnob Try.prog.godebug = none := by kernel_rfl
theorem laidOut : laidOutB Try.prog = true := by kernel_rfl
theorem cells_u8 : Try.prog.cellsOf 5 = 1 := by kernel_rfl
theorem cells_int : Try.prog.cellsOf 3 = 1 := by kernel_rfl
theorem cells_u16 : Try.prog.cellsOf 33 = 1 := by kernel_rfl
theorem cells_kact : Try.prog.cellsOf 35 = 3 := by kernel_rfl
theorem lt_of_cell {w : World} {g o : Nat} {v : Value} (h : w.cell? ⟨g, o, none⟩ = some v) : g < w.heap.size := by
  rcases Nat.lt_or_ge g w.heap.size with h1 | h1
  · exact h1
  · simp [World.cell?, Array.getElem?_eq_none h1] at h
/-- An act of the laws. -/
structure KA where
  what : Nat
  disk : Int
  addr : Nat
instance : Inhabited KA := ⟨⟨0, 0, 0⟩⟩
def KA.cells (a : KA) : List Value := [.int .u8 (a.what : Int), .int .i64 a.disk, .int .u16 (a.addr : Int)]
structure KA.OK (a : KA) : Prop where
  what : a.what < 256
  d1 : -9223372036854775808 ≤ a.disk
  d2 : a.disk ≤ 9223372036854775807
  addr : a.addr < 65536
/-- The acts l lie where the slice begins. -/
def KActs (w : World) (sp : Option Addr) (l : List KA) : Prop :=
  (∀ a ∈ l, a.OK) ∧ (0 < l.length → ∃ g o, sp = some ⟨g, o, none⟩ ∧ g < w.heap.size ∧ ∀ i a, l[i]? = some a → ∀ j v, a.cells[j]? = some v → w.cell? ⟨g, o + i * 3 + j, none⟩ = some v)
theorem KActs.below {w W : World} {sp : Option Addr} {l : List KA} (h : KActs w sp l) {B : Nat} (hb : Below B w W) (hB : w.heap.size ≤ B) : KActs W sp l :=
  ⟨h.1, fun h0 => by
    obtain ⟨g, o, rfl, hg, hc⟩ := h.2 h0
    exact ⟨g, o, rfl, Nat.lt_of_lt_of_le hg hb.size, fun i a hi j v hj => (hb.cell (p := ⟨g, o + i * 3 + j, none⟩) (Nat.lt_of_lt_of_le hg hB)).trans (hc i a hi j v hj)⟩⟩
section
variable {H : Type} {enc : TypeId × Value → H} {W : World} {spare : Nat → Bool} {held : Bool} {b' : Nat}
theorem cells_ka {fuel : Nat} {cs : List Value} {x : DataW H × List MemPlace} (h : DataW.trod enc Try.prog W b' spare held fuel 35 cs = some x) : ∃ a : KA, a.OK ∧ cs = a.cells := by
  obtain ⟨xs, k, _, _, hl, hxl, hfl⟩ := DataW.trod_struct Try.underlying35 h
  rw [cells_kact] at hl
  match xs, hxl, cs, hl with
  | [y0, y1, y2], _, [v0, v1, v2], _ =>
    have g0 := hfl 0 _ rfl
    have g1 := hfl 1 _ rfl
    have g2 := hfl 2 _ rfl
    simp [cells_u8, cells_int, cells_u16] at g0 g1 g2
    obtain ⟨z0, e0, _, w0⟩ := DataW.trod_int Try.underlying5 g0
    obtain ⟨z1, e1, _, w1⟩ := DataW.trod_int Try.underlying3 g1
    obtain ⟨z2, e2, _, w2⟩ := DataW.trod_int Try.underlying33 g2
    simp at e0 e1 e2
    subst e0 e1 e2
    have b0 := bounds_u8 w0
    have b1 := bounds_i64 w1
    have b2 := bounds_u16 w2
    refine ⟨⟨z0.toNat, z1, z2.toNat⟩, ⟨by simp only; omega, b1.1, b1.2, by simp only; omega⟩, ?_⟩
    simp only [KA.cells]
    rw [show ((z0.toNat : Nat) : Int) = z0 by omega, show ((z2.toNat : Nat) : Int) = z2 by omega]
theorem open_kacts {b : Nat} {v : Value} {d : DataW H} {p : List MemPlace} (ho : Value.okWide Try.prog W .any b 22 v) (h : DataW.Trod enc Try.prog W b' spare held 22 v d p) :
    ∃ (l : List KA) (sp : Option Addr) (cap : Nat), v = .slice sp l.length cap ∧ KActs W sp l := by
  obtain ⟨a0, len, cap, rfl⟩ := okWide_slice Try.underlying22 ho
  obtain ⟨fuel, hf⟩ := h
  rcases open_slice Try.underlying22 hf with ⟨hcs, hx⟩ | ⟨a, len', cap', m, n, D, Pl, hcs, _, hl, hm, hmm, hx, hcell⟩
  · simp [Value.cells] at hcs
    obtain ⟨rfl, rfl, rfl⟩ := hcs
    exact ⟨[], none, 0, rfl, ⟨fun a ha => (by cases ha), fun h => absurd h (Nat.lt_irrefl 0)⟩⟩
  · simp [Value.cells] at hcs
    obtain ⟨rfl, rfl, rfl⟩ := hcs
    have hlm : len ≤ m := by rw [hmm]; split <;> omega
    have each : ∀ i, i < m → ∃ q : KA, q.OK ∧ ∀ j v, q.cells[j]? = some v → W.cell? (a.add (i * 3 + j)) = some v := by
      intro i hi
      obtain ⟨cs', h1, h2⟩ := hcell i hi
      rw [cells_kact] at h1
      obtain ⟨_, hlen, hcl⟩ := World.cells?_some h1
      obtain ⟨q, hq, rfl⟩ := cells_ka h2
      refine ⟨q, hq, fun j v hv => ?_⟩
      have hj : j < 3 := by
        have := (List.getElem?_eq_some_iff.1 hv).1
        omega
      have hc := hcl j hj
      rw [add_add] at hc
      rw [hc, hv]
    obtain ⟨q, hq⟩ := choose_lt each
    refine ⟨(List.range len).map q, some a, cap, by simp, fun x hx => ?_, fun h0 => ?_⟩
    · obtain ⟨i, hi, rfl⟩ := List.mem_map.1 hx
      exact (hq i (by have := List.mem_range.1 hi; omega)).1
    · have h0' : 0 < len := by simpa using h0
      obtain ⟨g, o, spot⟩ := a
      have hfirst := (hq 0 (by omega)).2 0 _ rfl
      have hspot : spot = none := by simpa [Addr.add] using World.cell?_spot hfirst
      subst hspot
      refine ⟨g, o, rfl, ?_, fun i x hi j v hj => ?_⟩
      · rw [Addr.add_mid] at hfirst
        exact lt_of_cell hfirst
      · obtain ⟨hi1, hi2⟩ := List.getElem?_eq_some_iff.1 hi
        have hi' : i < len := by simpa using hi1
        have hx : q i = x := by rw [← hi2]; simp
        have hc := (hq i (by omega)).2 j v (by rw [hx]; exact hj)
        rw [Addr.add_mid] at hc
        rw [Nat.add_assoc]
        exact hc
end
end Go.Proofs.Ytjfedhaafdfibaa
