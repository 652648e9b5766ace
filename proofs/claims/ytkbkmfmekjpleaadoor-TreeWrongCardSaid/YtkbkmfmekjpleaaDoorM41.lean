/- TreeWrong, whatever came in. -/
import Derived.Test.YtkbkmfmekjpleaaDoorM40
import Derived.Test.YtkbkmfmekjpleaaDoorM39
import Derived.Test.YtkbkmfmekjpleaaDoorM19
import Derived.Deep.Slices
import Derived.Test.YtkbkmfmekjpleaaDoorM15
namespace Go.Proofs.YtkbkmfmekjpleaaDoor
open Go.RowKit

attribute [local go_sem] Oper.semAt_some

set_option maxRecDepth 100000 in
theorem treeWrong_far (p : Pt) (off N M cap capb : Nat) (sp spb : Option Addr) (w : World) (hT : RTab w) (hf : 20 < N ∨ 600 < M) :
    Calls Tryd.prog 5 #[.agg (pcells p).toArray, .int .u32 (off : Int), .slice sp N cap, .slice spb M capb] w fun e w' => e = .returned (.bool true) ∧ Below w.heap.size w w' := by
  have HB : Hid (Below w.heap.size w (w.alloc (.cells (pcells p).toArray 37))) := Lib.hid ((Below.refl _ _).alloc (Nat.le_refl _) _)
  have HTW := Lib.hid (hT.alloc (.cells (pcells p).toArray 37))
  clear hT
  rcases Nat.lt_or_ge 20 N with hN | hN
  · have hNi : (20 : Int) < (N : Int) := by omega
    have hNd : decide ((20 : Int) < (N : Int)) = true := decide_eq_true hNi
    clear hf hN
    go_enter Tryd.func5, Tryd.ntmps5
    go_wp2_with fail
    refine (twakes_any _ HTW.out).mono ?_
    rintro e W ⟨rfl, hb⟩
    have HE := Lib.hid (HB.out.trans (hb.mono HB.out.size))
    clear hb HB HTW
    go_wp2_with fail
    first | exact ⟨rfl, HE.out⟩ | (go_ret; exact ⟨rfl, HE.out⟩)
  · have hM : 600 < M := by omega
    have hNi : ¬ (20 : Int) < (N : Int) := by omega
    have hNd : decide ((20 : Int) < (N : Int)) = false := decide_eq_false hNi
    have hMi : (600 : Int) < (M : Int) := by omega
    have hMd : decide ((600 : Int) < (M : Int)) = true := decide_eq_true hMi
    clear hf hN hM
    go_enter Tryd.func5, Tryd.ntmps5
    go_wp2_with fail
    refine (twakes_any _ HTW.out).mono ?_
    rintro e W ⟨rfl, hb⟩
    have HE := Lib.hid (HB.out.trans (hb.mono HB.out.size))
    clear hb HB HTW
    go_wp2_with fail
    first | exact ⟨rfl, HE.out⟩ | (go_ret; exact ⟨rfl, HE.out⟩)
theorem treeWrong_walk (p : Pt) (hp : p.OK) (off : Nat) (hoff : off < 4294967296) (l : List Lf) (hok : ∀ x ∈ l, Lf.OK x) (sp : Option Addr) (cap : Nat) (hc : l.length ≤ cap) (b : Bs) (spb : Option Addr) (capb : Nat) (hcb : b.length ≤ capb) (hzb : spb = none → capb = 0) (w : World) (hS : SrcF w sp l) (hlt : ∀ a, sp = some a → a.block < w.heap.size) (hB : SrcA w spb b) (hltb : ∀ a, spb = some a → a.block < w.heap.size) (hT : RTab w) :
    Calls Tryd.prog 5 #[.agg (pcells p).toArray, .int .u32 (off : Int), .slice sp l.length cap, .slice spb b.length capb] w fun e w' => e = .returned (.bool true) ∧ Below w.heap.size w w' := by
  by_cases hf : 20 < l.length ∨ 600 < b.length
  · exact treeWrong_far p off l.length b.length cap capb sp spb w hT hf
  · exact treeWrong_go p hp off hoff l hok sp cap hc (by omega) b spb capb hcb hzb (by omega) w hS hlt hB hltb hT
end Go.Proofs.YtkbkmfmekjpleaaDoor
/- Leaves that came in. -/
namespace Go.Proofs.YtkbkmfmekjpleaaDoor
open Go.ChangeShapes Go.WideShapes Go.ChangeAt Go.WideMaps Go.WideElems Go.RowKit Go.Deep

set_option maxRecDepth 100000 in
theorem okWide_lt {W : World} {b : Nat} {t e : TypeId} {a : Addr} {n cap : Nat} (ht : Tryd.prog.underlying t = some (.slice e)) (ho : Value.okWide Tryd.prog W .any b t (.slice (some a) n cap)) : a.block < W.heap.size := by
  simp only [Value.okWide, ht, Cell.okWide, Cell.ok] at ho
  obtain ⟨_, _, _, _, row, cells, hs, _⟩ := ho
  unfold World.shape? at hs
  by_cases h : a.block < W.heap.size
  · exact h
  · rw [Array.getElem?_eq_none (by omega)] at hs; cases hs
section
variable {H : Type} {enc : TypeId × Value → H} {W : World} {b' : Nat} {spare : Nat → Bool} {held : Bool}
theorem cellsLf : Tryd.prog.cellsOf 45 = 42 := by kernel_rfl
theorem cellsL0 : Tryd.prog.cellsOf 32 = 1 := by kernel_rfl
theorem cellsL1 : Tryd.prog.cellsOf 37 = 41 := by kernel_rfl
set_option maxRecDepth 100000 in
theorem cells_lf {fuel : Nat} {cs : List Value} {x : DataW H × List MemPlace} (h : DataW.trod enc Tryd.prog W b' spare held fuel 45 cs = some x) : ∃ q : Lf, Lf.OK q ∧ cs = lcells q := by
  obtain ⟨xs, k, _, _, hl, hxl, hfl⟩ := DataW.trod_struct Tryd.underlying45 h
  rw [cellsLf] at hl
  match xs, hxl with
  | [y0, y1], _ =>
    have g0 := hfl 0 _ rfl
    have g1 := hfl 1 _ rfl
    simp [cellsL0, cellsL1] at g0 g1
    obtain ⟨z0, e0, _, w0⟩ := DataW.trod_int Tryd.underlying32 g0
    obtain ⟨p, hp, e1⟩ := cells_ptr g1
    have b0 := bounds_u32 w0
    refine ⟨(z0.toNat, p), ⟨by show z0.toNat < _; omega, hp⟩, ?_⟩
    have ht : cs.tail.take 41 = cs.tail := List.take_of_length_le (by simp [hl])
    have hcs : cs = cs.take 1 ++ cs.tail := by rw [← List.drop_one, List.take_append_drop]
    rw [ht] at e1
    rw [hcs, e0, e1]
    show [Value.int .u32 z0] ++ pcells p = Value.int .u32 ((z0.toNat : Nat) : Int) :: pcells p
    rw [Int.toNat_of_nonneg b0.1]
    rfl
set_option maxRecDepth 100000 in
theorem open_leaves {b : Nat} {v : Value} {d : DataW H} {p : List MemPlace} (ho : Value.okWide Tryd.prog W .any b 39 v) (h : DataW.Trod enc Tryd.prog W b' spare held 39 v d p) :
    ∃ (l : List Lf) (sp : Option Addr) (cap : Nat), v = .slice sp l.length cap ∧ l.length ≤ cap ∧ (∀ x ∈ l, Lf.OK x) ∧ SrcF W sp l ∧ ∀ a, sp = some a → a.block < W.heap.size := by
  obtain ⟨a0, len, cap, rfl⟩ := okWide_slice Tryd.underlying39 ho
  obtain ⟨fuel, hf⟩ := h
  rcases open_slice Tryd.underlying39 hf with ⟨hcs, hx⟩ | ⟨a, len', cap', m, n, D, Pl, hcs, _, hl, hm, hmm, hx, hcell⟩
  · simp [Value.cells] at hcs
    obtain ⟨rfl, rfl, rfl⟩ := hcs
    exact ⟨[], none, 0, rfl, by simp, by simp, fun h => by simp at h, fun a h => by cases h⟩
  · simp [Value.cells] at hcs
    obtain ⟨rfl, rfl, rfl⟩ := hcs
    have hlm : len ≤ m := by rw [hmm]; split <;> omega
    have each : ∀ i, i < m → ∃ q : Lf, Lf.OK q ∧ ∀ j v, (lcells q)[j]? = some v → W.cell? (a.add (i * 42 + j)) = some v := by
      intro i hi
      obtain ⟨cs', h1, h2⟩ := hcell i hi
      rw [cellsLf] at h1
      obtain ⟨_, hlen, hcl⟩ := World.cells?_some h1
      obtain ⟨q, hq, e⟩ := cells_lf h2
      refine ⟨q, hq, fun j v hj => ?_⟩
      rw [← e] at hj
      have hjl : j < cs'.length := (List.getElem?_eq_some_iff.1 hj).1
      have hc := hcl j (by omega)
      rw [add_add, hj] at hc
      exact hc
    have : Inhabited Lf := ⟨(0, zeroP)⟩
    obtain ⟨q, hq⟩ := choose_lt each
    refine ⟨(List.range len).map q, some a, cap, by simp, by simpa using hl, fun x hx => ?_, fun h0 => ?_, fun a' ha' => ?_⟩
    · obtain ⟨i, hi, rfl⟩ := List.mem_map.1 hx
      exact (hq i (by have := List.mem_range.1 hi; omega)).1
    · have h0' : 0 < len := by simpa using h0
      have h00 : (lcells (q 0))[0]? = some (.int .u32 ((q 0).1 : Int)) := rfl
      obtain ⟨g, o, spot⟩ := a
      have hspot : spot = none := by simpa [Addr.add] using World.cell?_spot ((hq 0 (by omega)).2 0 _ h00)
      subst hspot
      refine ⟨g, o, rfl, ?_, fun i x hi j v hj => ?_⟩
      · have := (hq 0 (by omega)).2 0 _ h00
        rw [Addr.add_mid] at this
        exact lt_of_cell this
      · obtain ⟨hi1, hi2⟩ := List.getElem?_eq_some_iff.1 hi
        have hi' : i < len := by simpa using hi1
        have e : x = q i := by rw [← hi2]; simp
        subst e
        have hc := (hq i (by omega)).2 j v hj
        rw [Addr.add_mid] at hc
        rw [Nat.add_assoc]
        exact hc
    · cases ha'; exact okWide_lt Tryd.underlying39 ho
set_option maxRecDepth 100000 in
theorem open_u32 {b : Nat} {v : Value} {d : DataW H} {p : List MemPlace} (ho : Value.okWide Tryd.prog W .any b 32 v) (h : DataW.Trod enc Tryd.prog W b' spare held 32 v d p) : ∃ m : Nat, m < 4294967296 ∧ v = .int .u32 (m : Int) := by
  obtain ⟨z, e, _, _, hw⟩ := open_int Tryd.underlying32 ho h
  have hb := bounds_u32 hw
  exact ⟨z.toNat, by omega, by rw [e, show ((z.toNat : Nat) : Int) = z by omega]⟩
end
end Go.Proofs.YtkbkmfmekjpleaaDoor
/- Eight pointers that came in; the table of kinds as it is laid. -/
namespace Go.Proofs.YtkbkmfmekjpleaaDoor
open Go.ChangeShapes Go.WideShapes Go.ChangeAt Go.WideMaps Go.WideElems Go.RowKit

def laidK : List (String × DataW Unit) := [("kintsugi/ptr.rules", Rows.laid_kintsugi_ptr_rules)]
theorem gK : (laidK.map fun x => Tryd.prog.globalNamed x.1) = [some 0] := by kernel_rfl
theorem door_met (os : Os) (args : Array Value) : laidMetH Tryd.prog laidK ((World.doorLaid Tryd.prog 400 os).forCall (fun _ _ => 0) ⟨#[], args, []⟩).memory :=
  laidMetH_of_parts3 (fuel := 8) (laidMet_of_run' 8 (by kernel_rfl) (by kernel_rfl)) (by kernel_rfl) (by kernel_rfl)
theorem of_laid {W : World} (h : laidMetH Tryd.prog laidK W) : RTab W := by
  rw [MakeChecks.laidMetH_plain _ _ _ (by kernel_rfl)] at h
  obtain ⟨ps, ⟨g1, t1, cs1, f1, p1, q1, hg1, ht1, hv1, hd1, _, _⟩, _, _⟩ := h
  have hgg : [some g1] = [some 0] := by rw [← gK]; show _ = [Tryd.prog.globalNamed _]; rw [← hg1]
  simp only [List.cons.injEq, Option.some.injEq, and_true] at hgg
  obtain rfl := hgg
  obtain rfl := Option.some.inj (tRu.symm.trans ht1)
  have hc := trod_rules hd1 rfl
  obtain ⟨t, fr, hh⟩ := row_of hg1 hv1
  refine ⟨t, fr, ?_⟩
  rw [hh, ← hc]
section
variable {H : Type} {enc : TypeId × Value → H} {W : World} {b' : Nat} {spare : Nat → Bool} {held : Bool}
end
end Go.Proofs.YtkbkmfmekjpleaaDoor
