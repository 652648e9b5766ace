/- Acts that came in. -/
import Derived.Test.YtneemllgimeacaaWk
import Derived.Test.YtneemllgimeacaaBase
import Derived.Deep.Slices
namespace Go.Proofs.Ytneemllgimeacaa
open Go.ChangeShapes Go.WideShapes Go.ChangeAt Go.RowKit Go.Deep

structure Ac where
  act : Nat
  d : Nat
  addr : Nat
  b : Bs
  spb : Option Addr
  capb : Nat
  short : Bool
  n : Int
  z : List Int
  spz : Option Addr
  capz : Nat
instance : Inhabited Ac := ⟨⟨0, 0, 0, [], none, 0, false, 0, [], none, 0⟩⟩
def Ac.cell (a : Ac) : Nat → Value
  | 0 => .int .u8 (a.act : Int)
  | 1 => .int .u8 (a.d : Int)
  | 2 => .int .u16 (a.addr : Int)
  | 3 => .slice a.spb a.b.length a.capb
  | 4 => .bool a.short
  | 5 => .int .i64 a.n
  | _ => .slice a.spz a.z.length a.capz
structure AcOK (w : World) (a : Ac) : Prop where
  act : a.act < 256
  d : a.d < 256
  addr : a.addr < 65536
  b : SrcA w a.spb a.b
  cb : a.b.length ≤ a.capb
  mb : a.capb ≤ maxLen
  n1 : -9223372036854775808 ≤ a.n
  n2 : a.n ≤ 9223372036854775807
  z : SrcI w a.spz a.z
  cz : a.z.length ≤ a.capz
  mz : a.capz ≤ maxLen
  zb : a.spb = none → a.capb = 0
theorem SrcI.below {w W : World} {sp : Option Addr} {zs : List Int} (h : SrcI w sp zs) {B : Nat} (hb : Below B w W) (hB : w.heap.size ≤ B) : SrcI W sp zs :=
  ⟨h.1, fun h0 => by
    obtain ⟨g, o, rfl, hg, hc⟩ := h.2 h0
    exact ⟨g, o, rfl, Nat.lt_of_lt_of_le hg hb.size, fun j hj => (hb.cell (p := ⟨g, o + j, none⟩) (Nat.lt_of_lt_of_le hg hB)).trans (hc j hj)⟩⟩
theorem AcOK.below {w W : World} {a : Ac} (h : AcOK w a) {B : Nat} (hb : Below B w W) (hB : w.heap.size ≤ B) : AcOK W a :=
  ⟨h.act, h.d, h.addr, h.b.below hb hB, h.cb, h.mb, h.n1, h.n2, h.z.below hb hB, h.cz, h.mz, h.zb⟩
/-- The acts l lie where the slice begins; all that they reach lies below B. -/
def ActsAt (w : World) (sp : Option Addr) (l : List Ac) : Prop :=
  (∀ a ∈ l, AcOK w a) ∧ (0 < l.length → ∃ g o, sp = some ⟨g, o, none⟩ ∧ g < w.heap.size ∧ ∀ i a, l[i]? = some a → ∀ j, j < 7 → w.cell? ⟨g, o + i * 7 + j, none⟩ = some (a.cell j))
theorem ActsAt.below {w W : World} {sp : Option Addr} {l : List Ac} (h : ActsAt w sp l) {B : Nat} (hb : Below B w W) (hB : w.heap.size ≤ B) : ActsAt W sp l :=
  ⟨fun a ha => (h.1 a ha).below hb hB, fun h0 => by
    obtain ⟨g, o, rfl, hg, hc⟩ := h.2 h0
    exact ⟨g, o, rfl, Nat.lt_of_lt_of_le hg hb.size, fun i a hi j hj => (hb.cell (p := ⟨g, o + i * 7 + j, none⟩) (Nat.lt_of_lt_of_le hg hB)).trans (hc i a hi j hj)⟩⟩
theorem ActsAt.nil (w : World) (sp : Option Addr) : ActsAt w sp [] := ⟨fun a ha => by simp at ha, fun h => absurd h (by simp)⟩
theorem cells7 : Try.prog.cellsOf 45 = 7 := by kernel_rfl
theorem cells43 : Try.prog.cellsOf 43 = 1 := by kernel_rfl
theorem cells42 : Try.prog.cellsOf 42 = 1 := by kernel_rfl
theorem cells41 : Try.prog.cellsOf 41 = 1 := by kernel_rfl
theorem cells4 : Try.prog.cellsOf 4 = 1 := by kernel_rfl
theorem cells3 : Try.prog.cellsOf 3 = 1 := by kernel_rfl

section
variable {H : Type} {enc : TypeId × Value → H} {W : World} {spare : Nat → Bool} {held : Bool} {b' : Nat}
theorem field_bytes {v : Value} {n : Nat} {x : DataW H × List MemPlace} (hf : DataW.trod enc Try.prog W b' spare held n 42 [v] = some x) :
    ∃ (l : Bs) (sp : Option Addr) (cap : Nat), v = .slice sp l.length cap ∧ l.length ≤ cap ∧ cap ≤ maxLen ∧ SrcA W sp l ∧ (sp = none → cap = 0) := by
  rcases open_ints Try.underlying42 Try.underlying5 cellsB hf with ⟨hcs, hx⟩ | ⟨a, len, cap, zs, hcs, _, hl, hm, hz, hx, hcell, hwz⟩
  · simp at hcs
    exact ⟨[], none, 0, hcs, by simp, by unfold maxLen; omega, SrcA.nil _ _, fun _ => rfl⟩
  · simp at hcs
    have hlz : len ≤ zs.length := by rw [hz]; split <;> omega
    have hlen : ((zs.take len).map (fun m => BitVec.ofNat 8 m.toNat)).length = len := by simp; omega
    refine ⟨(zs.take len).map (fun m => BitVec.ofNat 8 m.toNat), some a, cap, by rw [hlen]; exact hcs, by omega, hm, fun h0 => ?_, fun h0 => by cases h0⟩
    rw [hlen] at h0
    obtain ⟨g, o, rfl, hc⟩ := ints_at hcell (by omega)
    have hcl : ∀ j, j < len → W.cell? ⟨g, o + j, none⟩ = some (V8 (((zs.take len).map (fun m => BitVec.ofNat 8 m.toNat)).getD j 0)) := fun j hj => by
      have hj' : j < zs.length := by omega
      have hb := bounds_u8 (hwz _ (List.getElem_mem hj'))
      rw [hc j hj']
      simp only [List.getD_eq_getElem?_getD, List.getElem?_map, List.getElem?_take, if_pos hj, List.getElem?_eq_getElem hj', Option.map_some, Option.getD_some, V8, N8, BitVec.toNat_ofNat]
      congr 2
      omega
    exact ⟨g, o, rfl, lt_of_cell (hc 0 (by omega)), fun j hj => hcl j (by rw [hlen] at hj; exact hj)⟩
theorem field_ints {v : Value} {n : Nat} {x : DataW H × List MemPlace} (hf : DataW.trod enc Try.prog W b' spare held n 43 [v] = some x) :
    ∃ (l : List Int) (sp : Option Addr) (cap : Nat), v = .slice sp l.length cap ∧ l.length ≤ cap ∧ cap ≤ maxLen ∧ SrcI W sp l := by
  rcases open_ints Try.underlying43 Try.underlying3 cells3 hf with ⟨hcs, hx⟩ | ⟨a, len, cap, zs, hcs, _, hl, hm, hz, hx, hcell, hwz⟩
  · simp at hcs
    exact ⟨[], none, 0, hcs, by simp, by unfold maxLen; omega, fun z hz => by simp at hz, fun h => by simp at h⟩
  · simp at hcs
    have hlz : len ≤ zs.length := by rw [hz]; split <;> omega
    have hlen : (zs.take len).length = len := by simp; omega
    refine ⟨zs.take len, some a, cap, by rw [hlen]; exact hcs, by omega, hm, fun z hz' => (bounds_i64 (hwz _ (List.mem_of_mem_take hz'))).2, fun h0 => ?_⟩
    rw [hlen] at h0
    obtain ⟨g, o, rfl, hc⟩ := ints_at hcell (by omega)
    refine ⟨g, o, rfl, lt_of_cell (hc 0 (by omega)), fun j hj => ?_⟩
    rw [hlen] at hj
    have hj' : j < zs.length := by omega
    rw [hc j hj']
    simp [List.getD_eq_getElem?_getD, List.getElem?_take, hj, hj']
set_option maxRecDepth 100000 in
theorem open_acts {b : Nat} {v : Value} {d : DataW H} {p : List MemPlace} (ho : Value.okWide Try.prog W .any b 22 v) (h : DataW.Trod enc Try.prog W b' spare held 22 v d p) :
    ∃ (l : List Ac) (sp : Option Addr) (cap : Nat), v = .slice sp l.length cap ∧ l.length ≤ cap ∧ cap ≤ maxLen ∧ ActsAt W sp l := by
  obtain ⟨a0, len, cap, rfl⟩ := okWide_slice Try.underlying22 ho
  obtain ⟨fuel, hf⟩ := h
  rcases open_slice Try.underlying22 hf with ⟨hcs, hx⟩ | ⟨a, len', cap', m, n, D, Pl, hcs, _, hl, hm, hmm, hx, hcell⟩
  · simp [Value.cells] at hcs
    obtain ⟨rfl, rfl, rfl⟩ := hcs
    exact ⟨[], none, 0, rfl, by simp, by unfold maxLen; omega, ActsAt.nil _ _⟩
  · simp [Value.cells] at hcs
    obtain ⟨rfl, rfl, rfl⟩ := hcs
    have hlm : len ≤ m := by rw [hmm]; split <;> omega
    have each : ∀ i, i < m → ∃ q : Ac, AcOK W q ∧ ∀ j, j < 7 → W.cell? (a.add (i * 7 + j)) = some (q.cell j) := by
      intro i hi
      obtain ⟨cs', h1, h2⟩ := hcell i hi
      rw [cells7] at h1
      obtain ⟨_, hlen, hcl⟩ := World.cells?_some h1
      obtain ⟨xs, k, hk, hxy, _, hxl, hfl⟩ := DataW.trod_struct Try.underlying45 h2
      match xs, hxl, cs', hlen with
      | [y0, y1, y2, y3, y4, y5, y6], _, [v0, v1, v2, v3, v4, v5, v6], _ =>
        have g0 := hfl 0 _ rfl
        have g1 := hfl 1 _ rfl
        have g2 := hfl 2 _ rfl
        have g3 := hfl 3 _ rfl
        have g4 := hfl 4 _ rfl
        have g5 := hfl 5 _ rfl
        have g6 := hfl 6 _ rfl
        simp [cellsB, cells41, cells42, cells4, cells3, cells43] at g0 g1 g2 g3 g4 g5 g6
        obtain ⟨z0, e0, _, w0⟩ := DataW.trod_int Try.underlying5 g0
        obtain ⟨z1, e1, _, w1⟩ := DataW.trod_int Try.underlying5 g1
        obtain ⟨z2, e2, _, w2⟩ := DataW.trod_int Try.underlying41 g2
        obtain ⟨l3, sp3, c3, e3, k3, m3, s3, zb3⟩ := field_bytes g3
        obtain ⟨b4, e4, _⟩ := DataW.trod_bool Try.underlying4 g4
        obtain ⟨z5, e5, _, w5⟩ := DataW.trod_int Try.underlying3 g5
        obtain ⟨l6, sp6, c6, e6, k6, m6, s6⟩ := field_ints g6
        simp at e0 e1 e2 e4 e5
        subst e0 e1 e2 e3 e4 e5 e6
        have b0 := bounds_u8 w0
        have b1 := bounds_u8 w1
        have b2 := bounds_u16 w2
        have b5 := bounds_i64 w5
        refine ⟨⟨z0.toNat, z1.toNat, z2.toNat, l3, sp3, c3, b4, z5, l6, sp6, c6⟩, ⟨by simp; omega, by simp; omega, by simp; omega, s3, k3, m3, b5.1, b5.2, s6, k6, m6, zb3⟩, fun j hj => ?_⟩
        have hc := hcl j hj
        rw [add_add] at hc
        match j, hj with
        | 0, _ => simpa [Ac.cell, Int.toNat_of_nonneg b0.1] using hc
        | 1, _ => simpa [Ac.cell, Int.toNat_of_nonneg b1.1] using hc
        | 2, _ => simpa [Ac.cell, Int.toNat_of_nonneg b2.1] using hc
        | 3, _ => simpa [Ac.cell] using hc
        | 4, _ => simpa [Ac.cell] using hc
        | 5, _ => simpa [Ac.cell] using hc
        | 6, _ => simpa [Ac.cell] using hc
    obtain ⟨q, hq⟩ := choose_lt each
    refine ⟨(List.range len).map q, some a, cap, by simp, by simpa using hl, hm, fun x hx => ?_, fun h0 => ?_⟩
    · obtain ⟨i, hi, rfl⟩ := List.mem_map.1 hx
      exact (hq i (by have := List.mem_range.1 hi; omega)).1
    · have h0' : 0 < len := by simpa using h0
      obtain ⟨g, o, spot⟩ := a
      have hspot : spot = none := by simpa [Addr.add] using World.cell?_spot ((hq 0 (by omega)).2 0 (by omega))
      subst hspot
      refine ⟨g, o, rfl, ?_, fun i x hi j hj => ?_⟩
      · have := (hq 0 (by omega)).2 0 (by omega)
        rw [Addr.add_mid] at this
        exact lt_of_cell this
      · obtain ⟨hi1, hi2⟩ := List.getElem?_eq_some_iff.1 hi
        have hi' : i < len := by simpa using hi1
        have hc := (hq i (by omega)).2 j hj
        rw [Addr.add_mid] at hc
        rw [Nat.add_assoc, hc]
        rw [← hi2]
        simp
end
end Go.Proofs.Ytneemllgimeacaa
