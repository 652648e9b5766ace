/- Anchors that came in. -/
import Derived.Test.YtchbeaogbjmddaaWk
import Derived.Test.YtchbeaogbjmddaaBase
import Derived.ProofKit
import Derived.OpenShut
namespace Go.Proofs.Ytchbeaogbjmddaa
open Go.ChangeShapes Go.WideShapes Go.ChangeAt Go.RowKit

theorem exists_list (P : Nat → Int → Prop) : ∀ n : Nat, (∀ i, i < n → ∃ m, P i m) → ∃ ns : List Int, ns.length = n ∧ ∀ i, i < n → P i (ns.getD i 0)
  | 0, _ => ⟨[], rfl, fun i hi => by omega⟩
  | n + 1, h => by
    obtain ⟨ns, hl, hp⟩ := exists_list P n (fun i hi => h i (by omega))
    obtain ⟨m, hm⟩ := h n (by omega)
    refine ⟨ns ++ [m], by simp [hl], fun i hi => ?_⟩
    by_cases hin : i < n
    · have := hp i hin
      rw [List.getD_eq_getElem?_getD, List.getElem?_append_left (by omega), ← List.getD_eq_getElem?_getD]
      exact this
    · obtain rfl : i = n := by omega
      rw [List.getD_eq_getElem?_getD, List.getElem?_append_right (by omega)]
      simpa [hl] using hm

theorem trod_int_array {H : Type} {enc : TypeId × Value → H} {P : Program} {w : World} {base fuel : Nat} {spare : Nat → Bool} {held : Bool} {t e n : Nat} {k : IntKind} {cs : List Value} {x : DataW H × List MemPlace}
    (ht : P.underlying t = some (.array n e)) (he : P.underlying e = some (.int k)) (hc : P.cellsOf e = 1) (hct : P.cellsOf t = n) (h : DataW.trod enc P w base spare held fuel t cs = some x) :
    ∃ ns : List Int, ns.length = n ∧ cs = ns.map (Value.int k) ∧ x.1 = .agg (ns.map fun m => .lit (.int k m)) ∧ ∀ i, i < n → (Lit.int k (ns.getD i 0)).wf = true := by
  obtain ⟨xs, m, rfl, rfl, hl, hn, hel⟩ := DataW.trod_array ht h
  obtain ⟨ns, hnl, hns⟩ := exists_list (fun i m => cs[i]? = some (.int k m) ∧ (xs[i]?).map (·.1) = some (.lit (.int k m)) ∧ (Lit.int k m).wf = true) n (fun i hi => by
    have h1 := hel i hi
    rw [hc, Nat.mul_one] at h1
    have hxi : xs[i]? = some xs[i] := List.getElem?_eq_getElem (by omega)
    rw [hxi] at h1
    obtain ⟨q, e1, e2, e3⟩ := DataW.trod_int he h1
    refine ⟨q, ?_, by rw [hxi]; simp [e2], e3⟩
    have hci : i < cs.length := by omega
    have e4 : (cs.drop i).take 1 = [cs[i]] := by
      rw [List.drop_eq_getElem_cons hci]; rfl
    rw [e4] at e1
    rw [List.getElem?_eq_getElem hci]
    simpa using e1)
  refine ⟨ns, hnl, ?_, ?_, fun i hi => (hns i hi).2.2⟩
  · apply List.ext_getElem?
    intro i
    by_cases hi : i < n
    · rw [(hns i hi).1, List.getElem?_map, List.getElem?_eq_getElem (by omega)]
      simp [List.getD_eq_getElem?_getD, List.getElem?_eq_getElem (show i < ns.length by omega)]
    · rw [List.getElem?_eq_none (by omega), List.getElem?_eq_none (by simp; omega)]
  · show DataW.agg _ = DataW.agg _
    refine congrArg DataW.agg ?_
    apply List.ext_getElem?
    intro i
    by_cases hi : i < n
    · rw [List.getElem?_map, (hns i hi).2.1, List.getElem?_map, List.getElem?_eq_getElem (by omega)]
      simp [List.getD_eq_getElem?_getD, List.getElem?_eq_getElem (show i < ns.length by omega)]
    · rw [List.getElem?_eq_none (by simp; omega), List.getElem?_eq_none (by simp; omega)]

theorem cells22 : Try.prog.cellsOf 22 = 1 := by kernel_rfl
theorem cells23 : Try.prog.cellsOf 23 = 32 := by kernel_rfl
theorem cells24 : Try.prog.cellsOf 24 = 1 := by kernel_rfl
theorem cells25 : Try.prog.cellsOf 25 = 4 := by kernel_rfl
theorem cells27 : Try.prog.cellsOf 27 = 37 := by kernel_rfl
theorem cells28 : Try.prog.cellsOf 28 = 64 := by kernel_rfl
section
variable {H : Type} {enc : TypeId × Value → H} {W : World} {spare : Nat → Bool} {held : Bool} {b' : Nat}
theorem bytes_of {n : Nat} {ns : List Int} (hl : ns.length = n) (hw : ∀ i, i < n → (Lit.int .u8 (ns.getD i 0)).wf = true) : ns.map (Value.int .u8) = (ns.map fun m => BitVec.ofNat 8 m.toNat).map V8 := by
  rw [List.map_map]
  apply List.map_congr_left
  intro m hm
  obtain ⟨i, hi, rfl⟩ := List.mem_iff_getElem.1 hm
  have hbd := bounds_u8 (hw i (by omega))
  rw [List.getD_eq_getElem?_getD, List.getElem?_eq_getElem hi] at hbd
  simp only [Option.getD_some] at hbd
  simp only [Function.comp_apply, V8, N8, BitVec.toNat_ofNat]
  congr 1
  omega
theorem u16_of {n : Nat} {ns : List Int} (hl : ns.length = n) (hw : ∀ i, i < n → (Lit.int .u16 (ns.getD i 0)).wf = true) : ns.map (Value.int .u16) = (ns.map Int.toNat).map U16 ∧ ∀ x ∈ ns.map Int.toNat, x < 65536 := by
  have hb : ∀ m ∈ ns, 0 ≤ m ∧ m < 65536 := fun m hm => by
    obtain ⟨i, hi, rfl⟩ := List.mem_iff_getElem.1 hm
    have hbd := bounds_u16 (hw i (by omega))
    rw [List.getD_eq_getElem?_getD, List.getElem?_eq_getElem hi] at hbd
    simp only [Option.getD_some] at hbd
    omega
  constructor
  · rw [List.map_map]
    apply List.map_congr_left
    intro m hm
    have := hb m hm
    simp only [Function.comp_apply, U16]
    congr 1
    omega
  · intro x hx
    obtain ⟨m, hm, rfl⟩ := List.mem_map.1 hx
    have := hb m hm
    omega
theorem cells_anchor {fuel : Nat} {cs : List Value} {x : DataW H × List MemPlace} (h : DataW.trod enc Try.prog W b' spare held fuel 27 cs = some x) : ∃ a : An, a.OK ∧ cs = acells a := by
  obtain ⟨xs, k, _, _, hl, hxl, hfl⟩ := DataW.trod_struct Try.underlying27 h
  rw [cells27] at hl
  match xs, hxl with
  | [y0, y1, y2], _ =>
    have g0 := hfl 0 _ rfl
    have g1 := hfl 1 _ rfl
    have g2 := hfl 2 _ rfl
    simp [cells22, cells23, cells25] at g0 g1 g2
    obtain ⟨z0, e0, _, w0⟩ := DataW.trod_int Try.underlying22 g0
    obtain ⟨n1, l1, e1, _, w1⟩ := trod_int_array Try.underlying23 Try.underlying5 cellsB cells23 g1
    obtain ⟨n2, l2, e2, _, w2⟩ := trod_int_array Try.underlying25 Try.underlying24 cells24 cells25 g2
    have b0 := bounds_u64 w0
    obtain ⟨u1, u2⟩ := u16_of l2 w2
    refine ⟨⟨z0.toNat, n1.map fun m => BitVec.ofNat 8 m.toNat, n2.map Int.toNat⟩, ⟨by simp only; omega, by simp [l1], by simp [l2], u2⟩, ?_⟩
    rw [bytes_of l1 w1, ← List.drop_one] at e1
    rw [u1] at e2
    have e3 : cs = cs.take 1 ++ ((cs.drop 1).take 32 ++ (cs.drop 33).take 4) := by
      have h1 : (cs.drop 33).take 4 = cs.drop 33 := List.take_of_length_le (by simp [hl])
      rw [h1, show 33 = 1 + 32 by rfl, ← List.drop_drop, List.take_append_drop, List.take_append_drop]
    rw [e3, e0, e1, e2]
    simp only [acells]
    rw [show ((z0.toNat : Nat) : Int) = z0 by omega]
    rfl
theorem open_anchor {b : Nat} {v : Value} {d : DataW H} {p : List MemPlace} (ho : Value.okWide Try.prog W .any b 27 v) (h : DataW.Trod enc Try.prog W b' spare held 27 v d p) : ∃ a : An, a.OK ∧ v = .agg (acells a).toArray := by
  unfold Value.okWide at ho
  rw [Try.underlying27] at ho
  obtain ⟨cs, rfl, _⟩ := ho
  obtain ⟨fuel, hf⟩ := h
  obtain ⟨a, h1, h2⟩ := cells_anchor hf
  refine ⟨a, h1, ?_⟩
  congr 1
  apply Array.toList_inj.1
  simpa [Value.cells] using h2
theorem open_arr64 {b : Nat} {v : Value} {d : DataW H} {p : List MemPlace} (ho : Value.okWide Try.prog W .any b 28 v) (h : DataW.Trod enc Try.prog W b' spare held 28 v d p) : ∃ l : Bs, l.length = 64 ∧ v = .agg (l.map V8).toArray := by
  unfold Value.okWide at ho
  rw [Try.underlying28] at ho
  obtain ⟨cs, rfl, _⟩ := ho
  obtain ⟨fuel, hf⟩ := h
  obtain ⟨ns, hnl, h2, _, hw⟩ := trod_int_array Try.underlying28 Try.underlying5 cellsB cells28 hf
  refine ⟨ns.map (fun m => BitVec.ofNat 8 m.toNat), by simp [hnl], ?_⟩
  congr 1
  apply Array.toList_inj.1
  rw [bytes_of hnl hw] at h2
  simpa [Value.cells] using h2
end
end Go.Proofs.Ytchbeaogbjmddaa
