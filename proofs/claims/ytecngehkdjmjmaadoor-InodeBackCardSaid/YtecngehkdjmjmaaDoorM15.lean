/- Inodes that came in; the table of kinds as it is laid. -/
import Derived.Test.YtecngehkdjmjmaaDoorM14
import Derived.Test.YtecngehkdjmjmaaDoorM09
namespace Go.Proofs.YtecngehkdjmjmaaDoor
open Go.ChangeShapes Go.WideShapes Go.ChangeAt Go.WideMaps Go.WideElems Go.RowKit

def laidK : List (String × DataW Unit) := [("kintsugi/ptr.rules", Rows.laid_kintsugi_ptr_rules)]
theorem gK : (laidK.map fun x => Tryd.prog.globalNamed x.1) = [some 0] := by kernel_rfl
theorem door_met (os : Os) (args : Array Value) : laidMetH Tryd.prog laidK ((World.doorLaid Tryd.prog 400 os).forCall (fun _ _ => 0) ⟨#[], args, []⟩).memory :=
  laidMetH_of_parts3 (fuel := 8) (laidMet_of_run' 8 (by kernel_rfl) (by kernel_rfl)) (by kernel_rfl) (by kernel_rfl)
theorem of_laid {W : World} (h : laidMetH Tryd.prog laidK W) : RTab W := by
  rw [MakeChecks.laidMetH_plain _ _ _ (by kernel_rfl)] at h
  obtain ⟨ps, ⟨g1, t1, cs1, f1, p1, q1, hg1, ht1, hv1, hd1, _, _⟩, _, _⟩ := h
  have hgg : [some g1] = [some 0] := by rw [← gK]; show _ = [Tryd.prog.globalNamed _]; rw [← hg1]
  simp only [List.cons.injEq, Option.some.injEq, and_true] at hgg
  obtain rfl := hgg
  obtain rfl := Option.some.inj (tRu.symm.trans ht1)
  have hc := trod_rules hd1 rfl
  obtain ⟨t, fr, hh⟩ := row_of hg1 hv1
  refine ⟨t, fr, ?_⟩
  rw [hh, ← hc]
section
variable {H : Type} {enc : TypeId × Value → H} {W : World} {b' : Nat} {spare : Nat → Bool} {held : Bool}
theorem cellsI0 : Tryd.prog.cellsOf 5 = 1 := by kernel_rfl
theorem cellsI1 : Tryd.prog.cellsOf 22 = 1 := by kernel_rfl
theorem cellsI2 : Tryd.prog.cellsOf 23 = 1 := by kernel_rfl
theorem cellsI3 : Tryd.prog.cellsOf 28 = 41 := by kernel_rfl
theorem cells_ri4 : Tryd.prog.cellsOf 31 = 176 := by kernel_rfl
set_option maxRecDepth 100000 in
theorem cells_ino {fuel : Nat} {cs : List Value} {x : DataW H × List MemPlace} (h : DataW.trod enc Tryd.prog W b' spare held fuel 30 cs = some x) : ∃ q : Ino, q.OK ∧ cs = icells q := by
  obtain ⟨xs, k, _, _, hl, hxl, hfl⟩ := DataW.trod_struct Tryd.underlying30 h
  rw [cellsRn] at hl
  match xs, hxl with
  | [y0, y1, y2, y3], _ =>
    have g0 := hfl 0 _ rfl
    have g1 := hfl 1 _ rfl
    have g2 := hfl 2 _ rfl
    have g3 := hfl 3 _ rfl
    simp [cellsI0, cellsI1, cellsI2, cellsI3] at g0 g1 g2 g3
    obtain ⟨z0, e0, _, w0⟩ := DataW.trod_int Tryd.underlying5 g0
    obtain ⟨z1, e1, _, w1⟩ := DataW.trod_int Tryd.underlying22 g1
    obtain ⟨z2, e2, _, w2⟩ := DataW.trod_int Tryd.underlying23 g2
    obtain ⟨p, hp, e3⟩ := cells_ptr g3
    have b0 := bounds_u8 w0
    have b1 := bounds_u16 w1
    have b2 := bounds_u32 w2
    refine ⟨⟨z0.toNat, z1.toNat, z2.toNat, p⟩, ⟨by show z0.toNat < _; omega, by show z1.toNat < _; omega, by show z2.toNat < _; omega, hp⟩, ?_⟩
    have g : ∀ n m, cs.take n ++ (cs.drop n).take m = cs.take (n + m) := fun n m => by rw [List.take_add]
    have hcs : cs = cs.take 1 ++ ((cs.drop 1).take 1 ++ ((cs.drop 2).take 1 ++ (cs.drop 3).take 41)) := by
      simp only [← List.append_assoc]
      rw [g 1 1, g 2 1, g 3 41, List.take_of_length_le (by omega)]
    have e1' : (cs.drop 1).take 1 = [Value.int .u16 z1] := by simpa using e1
    have e2' : (cs.drop 2).take 1 = [Value.int .u32 z2] := by simpa using e2
    have e3' : (cs.drop 3).take 41 = pcells p := by simpa using e3
    have e0' : cs.take 1 = [Value.int .u8 z0] := by simpa using e0
    rw [hcs, e0', e1', e2', e3']
    show _ = [Value.int .u8 ((z0.toNat : Nat) : Int), .int .u16 ((z1.toNat : Nat) : Int), .int .u32 ((z2.toNat : Nat) : Int)] ++ pcells p
    rw [Int.toNat_of_nonneg b0.1, Int.toNat_of_nonneg b1.1, Int.toNat_of_nonneg b2.1]
    rfl
theorem chunks44 (cs : List Value) : ∀ k, (List.range k).flatMap (fun j => (cs.drop (j * 44)).take 44) = cs.take (k * 44)
  | 0 => by simp
  | k + 1 => by
    rw [List.range_succ, List.flatMap_append, chunks44 cs k]
    simp only [List.flatMap_cons, List.flatMap_nil, List.append_nil]
    rw [show (k + 1) * 44 = k * 44 + 44 by omega, List.take_add]
theorem pick_all {α : Type} (P : Nat → α → Prop) : ∀ n : Nat, (∀ i, i < n → ∃ m, P i m) → ∃ l : List α, l.length = n ∧ ∀ i x, l[i]? = some x → P i x
  | 0, _ => ⟨[], rfl, fun i x h => by simp at h⟩
  | n + 1, h => by
    obtain ⟨l, hl, hp⟩ := pick_all P n (fun i hi => h i (by omega))
    obtain ⟨m, hm⟩ := h n (by omega)
    refine ⟨l ++ [m], by simp [hl], fun i x hx => ?_⟩
    rcases Nat.lt_trichotomy i n with h1 | h1 | h1
    · rw [List.getElem?_append_left (by omega)] at hx; exact hp i x hx
    · subst h1
      rw [List.getElem?_append_right (by omega), hl, Nat.sub_self] at hx
      simp at hx
      rw [← hx]; exact hm
    · rw [List.getElem?_eq_none (by simp; omega)] at hx; cases hx
set_option maxRecDepth 100000 in
theorem open_ri4 {b : Nat} {v : Value} {d : DataW H} {p : List MemPlace} (ho : Value.okWide Tryd.prog W .any b 31 v) (h : DataW.Trod enc Tryd.prog W b' spare held 31 v d p) : ∃ ns : List Ino, BOK ns ∧ v = .agg (bcells ns).toArray := by
  unfold Value.okWide at ho
  rw [Tryd.underlying31] at ho
  obtain ⟨cs, rfl, _⟩ := ho
  obtain ⟨fuel, hf⟩ := h
  obtain ⟨xs, m, _, _, hl, hn, hel⟩ := DataW.trod_array Tryd.underlying31 hf
  rw [cells_ri4] at hl
  rw [cellsRn] at hel
  have hcs : (Value.agg cs).cells.toList = cs.toList := rfl
  rw [hcs] at hl hel
  obtain ⟨ns, hnl, hns⟩ := pick_all (fun i (p : Ino) => p.OK ∧ (cs.toList.drop (i * 44)).take 44 = icells p) 4 (fun i hi => by
    have h1 := hel i (by omega)
    rw [List.getElem?_eq_getElem (show i < xs.length by omega)] at h1
    exact cells_ino h1)
  have hok : BOK ns := ⟨hnl, fun p hp => by
    obtain ⟨i, hi⟩ := List.getElem?_of_mem hp
    exact (hns i p hi).1⟩
  refine ⟨ns, hok, ?_⟩
  congr 1
  apply Array.toList_inj.1
  have e1 : cs.toList = (List.range 4).flatMap (fun j => (cs.toList.drop (j * 44)).take 44) := by
    rw [chunks44, List.take_of_length_le (by omega)]
  have e2 : bcells ns = (List.range 4).flatMap (fun j => icells (ns.getD j zeroI)) := by
    have e3 : ns = (List.range 4).map (fun j => ns.getD j zeroI) := by
      apply List.ext_getElem?
      intro j
      by_cases hj : j < 4
      · obtain ⟨p, hp⟩ := hok.get hj
        simp [hp, hj, List.getD_eq_getElem?_getD]
      · rw [List.getElem?_eq_none (by omega), List.getElem?_eq_none (by simp; omega)]
    conv => lhs; rw [e3]
    unfold bcells
    rw [List.flatMap_map]
  rw [e1]
  show _ = bcells ns
  rw [e2, List.flatMap_def, List.flatMap_def]
  refine congrArg List.flatten (List.map_congr_left fun j hj => ?_)
  have hj8 := List.mem_range.1 hj
  obtain ⟨p, hp⟩ := hok.get hj8
  rw [List.getD_eq_getElem?_getD, hp]
  exact (hns j p hp).2
end
end Go.Proofs.YtecngehkdjmjmaaDoor
