/- Eight pointers that came in; the table of kinds as it is laid. -/
import Derived.Test.YtincpdnmaiimnaaDoorPop
import Derived.Test.YtincpdnmaiimnaaDoorNa
namespace Go.Proofs.YtincpdnmaiimnaaDoor
open Go.ChangeShapes Go.WideShapes Go.ChangeAt Go.WideMaps Go.WideElems Go.RowKit

def laidK : List (String × DataW Unit) := [("kintsugi/ptr.rules", Rows.laid_kintsugi_ptr_rules)]
theorem gK : (laidK.map fun x => Tryd.prog.globalNamed x.1) = [some 0] := by kernel_rfl
theorem door_met (os : Os) (args : Array Value) : laidMetH Tryd.prog laidK ((World.doorLaid Tryd.prog 400 os).forCall (fun _ _ => 0) ⟨#[], args, []⟩).memory :=
  laidMetH_of_parts3 (fuel := 8) (laidMet_of_run' 8 (by kernel_rfl) (by kernel_rfl)) (by kernel_rfl) (by kernel_rfl)
theorem of_laid {W : World} (h : laidMetH Tryd.prog laidK W) : RTab W := by
  rw [MakeChecks.laidMetH_plain _ _ _ (by kernel_rfl)] at h
  obtain ⟨ps, ⟨g1, t1, cs1, f1, p1, q1, hg1, ht1, hv1, hd1, _, _⟩, _, _⟩ := h
  have hgg : [some g1] = [some 0] := by rw [← gK]; show _ = [Tryd.prog.globalNamed _]; rw [← hg1]
  simp only [List.cons.injEq, Option.some.injEq, and_true] at hgg
  obtain rfl := hgg
  obtain rfl := Option.some.inj (tRu.symm.trans ht1)
  have hc := trod_rules hd1 rfl
  obtain ⟨t, fr, hh⟩ := row_of hg1 hv1
  refine ⟨t, fr, ?_⟩
  rw [hh, ← hc]
section
variable {H : Type} {enc : TypeId × Value → H} {W : World} {b' : Nat} {spare : Nat → Bool} {held : Bool}
theorem cells_a8 : Tryd.prog.cellsOf 29 = 328 := by kernel_rfl
theorem chunks41 (cs : List Value) : ∀ k, (List.range k).flatMap (fun j => (cs.drop (j * 41)).take 41) = cs.take (k * 41)
  | 0 => by simp
  | k + 1 => by
    rw [List.range_succ, List.flatMap_append, chunks41 cs k]
    simp only [List.flatMap_cons, List.flatMap_nil, List.append_nil]
    rw [show (k + 1) * 41 = k * 41 + 41 by omega, List.take_add]
theorem pick_all {α : Type} (P : Nat → α → Prop) : ∀ n : Nat, (∀ i, i < n → ∃ m, P i m) → ∃ l : List α, l.length = n ∧ ∀ i x, l[i]? = some x → P i x
  | 0, _ => ⟨[], rfl, fun i x h => by simp at h⟩
  | n + 1, h => by
    obtain ⟨l, hl, hp⟩ := pick_all P n (fun i hi => h i (by omega))
    obtain ⟨m, hm⟩ := h n (by omega)
    refine ⟨l ++ [m], by simp [hl], fun i x hx => ?_⟩
    rcases Nat.lt_trichotomy i n with h1 | h1 | h1
    · rw [List.getElem?_append_left (by omega)] at hx; exact hp i x hx
    · subst h1
      rw [List.getElem?_append_right (by omega), hl, Nat.sub_self] at hx
      simp at hx
      rw [← hx]; exact hm
    · rw [List.getElem?_eq_none (by simp; omega)] at hx; cases hx
set_option maxRecDepth 100000 in
theorem open_arr8 {b : Nat} {v : Value} {d : DataW H} {p : List MemPlace} (ho : Value.okWide Tryd.prog W .any b 29 v) (h : DataW.Trod enc Tryd.prog W b' spare held 29 v d p) : ∃ ns : List Pt, NOK ns ∧ v = .agg (ncells ns).toArray := by
  unfold Value.okWide at ho
  rw [Tryd.underlying29] at ho
  obtain ⟨cs, rfl, _⟩ := ho
  obtain ⟨fuel, hf⟩ := h
  obtain ⟨xs, m, _, _, hl, hn, hel⟩ := DataW.trod_array Tryd.underlying29 hf
  rw [cells_a8] at hl
  rw [cellsPtr] at hel
  have hcs : (Value.agg cs).cells.toList = cs.toList := rfl
  rw [hcs] at hl hel
  obtain ⟨ns, hnl, hns⟩ := pick_all (fun i (p : Pt) => p.OK ∧ (cs.toList.drop (i * 41)).take 41 = pcells p) 8 (fun i hi => by
    have h1 := hel i (by omega)
    rw [List.getElem?_eq_getElem (show i < xs.length by omega)] at h1
    exact cells_ptr h1)
  have hok : NOK ns := ⟨hnl, fun p hp => by
    obtain ⟨i, hi⟩ := List.getElem?_of_mem hp
    exact (hns i p hi).1⟩
  refine ⟨ns, hok, ?_⟩
  congr 1
  apply Array.toList_inj.1
  have e1 : cs.toList = (List.range 8).flatMap (fun j => (cs.toList.drop (j * 41)).take 41) := by
    rw [chunks41, List.take_of_length_le (by omega)]
  have e2 : ncells ns = (List.range 8).flatMap (fun j => pcells (ns.getD j zeroP)) := by
    have e3 : ns = (List.range 8).map (fun j => ns.getD j zeroP) := by
      apply List.ext_getElem?
      intro j
      by_cases hj : j < 8
      · obtain ⟨p, hp⟩ := hok.get hj
        simp [hp, hj, List.getD_eq_getElem?_getD]
      · rw [List.getElem?_eq_none (by omega), List.getElem?_eq_none (by simp; omega)]
    conv => lhs; rw [e3]
    unfold ncells
    rw [List.flatMap_map]
  rw [e1]
  show _ = ncells ns
  rw [e2, List.flatMap_def, List.flatMap_def]
  refine congrArg List.flatten (List.map_congr_left fun j hj => ?_)
  have hj8 := List.mem_range.1 hj
  obtain ⟨p, hp⟩ := hok.get hj8
  rw [List.getD_eq_getElem?_getD, hp]
  exact (hns j p hp).2
end
end Go.Proofs.YtincpdnmaiimnaaDoor
