/- Slices of pairs (a byte, a number) that came in. -/
import Derived.Test.YtfamohnbaelccaaBase
import Derived.Deep.SlicePairs
namespace Go.Proofs.Ytfamohnbaelccaa
open Go.ChangeShapes Go.WideShapes Go.ChangeAt Go.RowKit Go.Deep

def PairsAt (k : IntKind) (w : World) (sp : Option Addr) (ps : List (BitVec 8 × Int)) : Prop :=
  0 < ps.length → ∃ g o, sp = some ⟨g, o, none⟩ ∧ g < w.heap.size ∧ ∀ i, i < ps.length → w.cell? ⟨g, o + i * 2, none⟩ = some (V8 (ps.getD i (0, 0)).1) ∧ w.cell? ⟨g, o + i * 2 + 1, none⟩ = some (.int k (ps.getD i (0, 0)).2)
theorem PairsAt.below {k : IntKind} {w W : World} {sp : Option Addr} {ps : List (BitVec 8 × Int)} (h : PairsAt k w sp ps) {B : Nat} (hb : Below B w W) (hB : w.heap.size ≤ B) : PairsAt k W sp ps := fun h0 => by
  obtain ⟨g, o, rfl, hg, hc⟩ := h h0
  exact ⟨g, o, rfl, Nat.lt_of_lt_of_le hg hb.size, fun j hj => ⟨(hb.cell (p := ⟨g, o + j * 2, none⟩) (Nat.lt_of_lt_of_le hg hB)).trans (hc j hj).1, (hb.cell (p := ⟨g, o + j * 2 + 1, none⟩) (Nat.lt_of_lt_of_le hg hB)).trans (hc j hj).2⟩⟩
theorem PairsAt.nil (k : IntKind) (w : World) (sp : Option Addr) : PairsAt k w sp [] := fun h => absurd h (by simp)

theorem open_pairs {H : Type} {enc : TypeId × Value → H} {W : World} {spare : Nat → Bool} {held : Bool} {b b' : Nat} {v : Value} {d : DataW H} {p : List MemPlace} {t e t1 : TypeId} {k : IntKind} {f0 f1 : Field}
    (ht : Try.prog.underlying t = some (.slice e)) (he : Try.prog.underlying e = some (.struct #[f0, f1])) (ce : Try.prog.cellsOf e = 2) (o0 : f0.offset = 0) (o1 : f1.offset = 1) (y0 : f0.type = 5) (y1 : f1.type = t1) (c1 : Try.prog.cellsOf t1 = 1) (hk : Try.prog.underlying t1 = some (.int k))
    (ho : Value.okWide Try.prog W .any b t v) (h : DataW.Trod enc Try.prog W b' spare held t v d p) :
    ∃ (ps : List (BitVec 8 × Int)) (sp : Option Addr) (cap : Nat), v = .slice sp ps.length cap ∧ ps.length ≤ cap ∧ cap ≤ maxLen ∧ PairsAt k W sp ps ∧ ∀ x ∈ ps, (Lit.int k x.2).wf = true := by
  obtain ⟨a0, len, cap, rfl⟩ := okWide_slice ht ho
  obtain ⟨fuel, hf⟩ := h
  rcases open_slice_pairs ht he ce o0 o1 (by rw [y0]; exact cellsB) (by rw [y1]; exact c1) hf with ⟨hcs, hx⟩ | ⟨a, len', cap', m, n, V0, V1, D0, D1, P0, P1, hcs, _, hl, hm, hmm, hx, hcell⟩
  · simp [Value.cells] at hcs
    obtain ⟨rfl, rfl, rfl⟩ := hcs
    exact ⟨[], none, 0, rfl, by simp, by unfold maxLen; omega, PairsAt.nil _ _ _, by simp⟩
  · simp [Value.cells] at hcs
    obtain ⟨rfl, rfl, rfl⟩ := hcs
    have hlm : len ≤ m := by rw [hmm]; split <;> omega
    have hv : ∀ i, i < m → ∃ x : BitVec 8 × Int, V0 i = V8 x.1 ∧ V1 i = .int k x.2 ∧ (Lit.int k x.2).wf = true := fun i hi => by
      obtain ⟨_, _, h0, h1⟩ := hcell i hi
      rw [y0] at h0
      rw [y1] at h1
      obtain ⟨z0, e0, _, w0⟩ := DataW.trod_int Try.underlying5 h0
      obtain ⟨z1, e1, _, w1⟩ := DataW.trod_int hk h1
      have hb := bounds_u8 w0
      refine ⟨(BitVec.ofNat 8 z0.toNat, z1), ?_, by simpa using e1, w1⟩
      have e0' : V0 i = .int .u8 z0 := by simpa using e0
      rw [e0']
      simp only [V8, N8, BitVec.toNat_ofNat]
      congr 1
      omega
    let f : Nat → BitVec 8 × Int := fun i => if hi : i < m then (hv i hi).choose else (0, 0)
    have hff : ∀ i (hi : i < m), V0 i = V8 (f i).1 ∧ V1 i = .int k (f i).2 ∧ (Lit.int k (f i).2).wf = true := fun i hi => by
      have : f i = (hv i hi).choose := dif_pos hi
      rw [this]; exact (hv i hi).choose_spec
    refine ⟨(List.range len).map f, some a, cap, by simp, by simpa using hl, hm, fun h0 => ?_, fun x hx => ?_⟩
    · have h0' : 0 < len := by simpa using h0
      obtain ⟨g, o, spot⟩ := a
      have hspot : spot = none := by simpa [Addr.add] using World.cell?_spot (hcell 0 (by omega)).1
      subst hspot
      refine ⟨g, o, rfl, ?_, fun i hi => ?_⟩
      · have := (hcell 0 (by omega)).1
        rw [Addr.add_mid] at this
        exact lt_of_cell this
      · have hi' : i < len := by simpa using hi
        obtain ⟨q0, q1, _, _⟩ := hcell i (by omega)
        have hg : ((List.range len).map f).getD i (0, 0) = f i := by simp [List.getD_eq_getElem?_getD, hi']
        rw [hg, ← (hff i (by omega)).1, ← (hff i (by omega)).2.1]
        rw [Addr.add_mid] at q0 q1
        exact ⟨q0, by rw [← q1, Nat.add_assoc]⟩
    · obtain ⟨i, hi, rfl⟩ := List.mem_map.1 hx
      have h2 : i < len := by simpa using hi
      exact (hff i (by omega)).2.2
end Go.Proofs.Ytfamohnbaelccaa
