/- What the rows need of the program and of what came in: the table as it is laid; arrays of numbers opened. -/
import Derived.Test.YtoaaaonpmcebfaaDoorRows
import Derived.Test.YtoaaaonpmcebfaaDoorTake
import Derived.ProofKit
import Derived.LaidMore
import Derived.OpenShut
import Derived.Stop.Joined
namespace Go.Proofs.YtoaaaonpmcebfaaDoor
open Go.ChangeShapes Go.WideShapes Go.ChangeAt Go.WideMaps Go.WideElems Go.RowKit

theorem own : ownKnob Tryd.prog.godebug = none := by kernel_rfl
theorem laidOut : laidOutB Tryd.prog = true := by kernel_rfl
def laidK : List (String × DataW Unit) := Rows.shaHexRow.laid
theorem gK : (laidK.map fun x => Tryd.prog.globalNamed x.1) = [some 0] := by kernel_rfl
theorem tK : (Tryd.prog.globals[0]?).map (·.type) = some 52 := by kernel_rfl
theorem cells36 : Tryd.prog.cellsOf 36 = 1 := by kernel_rfl
theorem cells52 : Tryd.prog.cellsOf 52 = 64 := by kernel_rfl
theorem cells5 : Tryd.prog.cellsOf 5 = 1 := by kernel_rfl
theorem cells24 : Tryd.prog.cellsOf 24 = 32 := by kernel_rfl

theorem door_met (os : Os) (args : Array Value) : laidMetH Tryd.prog laidK ((World.doorLaid Tryd.prog 400 os).forCall (fun _ _ => 0) ⟨#[], args, []⟩).memory :=
  laidMetH_of_parts3 (fuel := 8) (laidMet_of_run' 8 (by kernel_rfl) (by kernel_rfl)) (by kernel_rfl) (by kernel_rfl)

theorem exists_list (P : Nat → Int → Prop) : ∀ n : Nat, (∀ i, i < n → ∃ m, P i m) → ∃ ns : List Int, ns.length = n ∧ ∀ i, i < n → P i (ns.getD i 0)
  | 0, _ => ⟨[], rfl, fun i hi => by omega⟩
  | n + 1, h => by
    obtain ⟨ns, hl, hp⟩ := exists_list P n (fun i hi => h i (by omega))
    obtain ⟨m, hm⟩ := h n (by omega)
    refine ⟨ns ++ [m], by simp [hl], fun i hi => ?_⟩
    by_cases hin : i < n
    · have := hp i hin
      rw [List.getD_eq_getElem?_getD, List.getElem?_append_left (by omega), ← List.getD_eq_getElem?_getD]
      exact this
    · obtain rfl : i = n := by omega
      rw [List.getD_eq_getElem?_getD, List.getElem?_append_right (by omega)]
      simpa [hl] using hm

theorem trod_int_array {H : Type} {enc : TypeId × Value → H} {P : Program} {w : World} {base fuel : Nat} {spare : Nat → Bool} {held : Bool} {t e n : Nat} {k : IntKind} {cs : List Value} {x : DataW H × List MemPlace}
    (ht : P.underlying t = some (.array n e)) (he : P.underlying e = some (.int k)) (hc : P.cellsOf e = 1) (hct : P.cellsOf t = n) (h : DataW.trod enc P w base spare held fuel t cs = some x) :
    ∃ ns : List Int, ns.length = n ∧ cs = ns.map (Value.int k) ∧ x.1 = .agg (ns.map fun m => .lit (.int k m)) ∧ ∀ i, i < n → (Lit.int k (ns.getD i 0)).wf = true := by
  obtain ⟨xs, m, rfl, rfl, hl, hn, hel⟩ := DataW.trod_array ht h
  obtain ⟨ns, hnl, hns⟩ := exists_list (fun i m => cs[i]? = some (.int k m) ∧ (xs[i]?).map (·.1) = some (.lit (.int k m)) ∧ (Lit.int k m).wf = true) n (fun i hi => by
    have h1 := hel i hi
    rw [hc, Nat.mul_one] at h1
    have hxi : xs[i]? = some xs[i] := List.getElem?_eq_getElem (by omega)
    rw [hxi] at h1
    obtain ⟨q, e1, e2, e3⟩ := DataW.trod_int he h1
    refine ⟨q, ?_, by rw [hxi]; simp [e2], e3⟩
    have hci : i < cs.length := by omega
    have e4 : (cs.drop i).take 1 = [cs[i]] := by
      rw [List.drop_eq_getElem_cons hci]; rfl
    rw [e4] at e1
    rw [List.getElem?_eq_getElem hci]
    simpa using e1)
  refine ⟨ns, hnl, ?_, ?_, fun i hi => (hns i hi).2.2⟩
  · apply List.ext_getElem?
    intro i
    by_cases hi : i < n
    · rw [(hns i hi).1, List.getElem?_map, List.getElem?_eq_getElem (by omega)]
      simp [List.getD_eq_getElem?_getD, List.getElem?_eq_getElem (show i < ns.length by omega)]
    · rw [List.getElem?_eq_none (by omega), List.getElem?_eq_none (by simp; omega)]
  · show DataW.agg _ = DataW.agg _
    refine congrArg DataW.agg ?_
    apply List.ext_getElem?
    intro i
    by_cases hi : i < n
    · rw [List.getElem?_map, (hns i hi).2.1, List.getElem?_map, List.getElem?_eq_getElem (by omega)]
      simp [List.getD_eq_getElem?_getD, List.getElem?_eq_getElem (show i < ns.length by omega)]
    · rw [List.getElem?_eq_none (by simp; omega), List.getElem?_eq_none (by simp; omega)]

theorem lits_inj {H : Type} {k : IntKind} : ∀ (a b : List Int), (a.map fun m => (DataW.lit (.int k m) : DataW H)) = b.map (fun m => .lit (.int k m)) → a = b
  | [], [], _ => rfl
  | [], _ :: _, h => by simp at h
  | _ :: _, [], h => by simp at h
  | x :: a, y :: b, h => by
    simp only [List.map_cons, List.cons.injEq, DataW.lit.injEq, Lit.int.injEq, true_and] at h
    rw [h.1, lits_inj a b h.2]

/-- WHAT THE CONDITION GIVES THE WALKS: the table. -/
theorem of_laid {W : World} (h : laidMetH Tryd.prog laidK W) : Tab W := by
  rw [MakeChecks.laidMetH_plain _ _ _ (by kernel_rfl)] at h
  obtain ⟨ps, ⟨g0, t0, cs0, f0, p0, q0, hg0, ht0, hv0, hd0, _, _⟩, _, _⟩ := h
  obtain rfl : g0 = 0 := by
    have h1 : [some g0] = [some 0] := by rw [← gK]; show _ = [Tryd.prog.globalNamed _]; rw [← hg0]
    simpa using h1
  obtain rfl := Option.some.inj (tK.symm.trans ht0)
  obtain ⟨ns, _, h2, h3, _⟩ := trod_int_array Tryd.underlying52 Tryd.underlying36 cells36 cells52 hd0
  have hn : ns = KC.map N32 := by
    refine lits_inj (H := Unit) (k := .u32) _ _ ?_
    have h4 := (DataW.agg.inj h3).symm
    rw [h4]
    rfl
  subst hn
  unfold World.var? at hv0
  rw [hg0] at hv0
  simp only [Option.bind_some] at hv0
  split at hv0
  · rename_i cs t fr hh
    obtain rfl := Option.some.inj hv0
    refine ⟨t, fr, ?_⟩
    rw [hh]
    have : cs = (KC.map V32).toArray := by
      apply Array.toList_inj.1
      rw [h2, List.map_map]
      rfl
    rw [this]
  · cases hv0

/-- An array of 32 bytes that came in. -/
theorem open_arr24 {H : Type} {enc : TypeId × Value → H} {W : World} {spare : Nat → Bool} {held : Bool} {b b' : Nat} {v : Value} {d : DataW H} {p : List MemPlace}
    (ho : Value.okWide Tryd.prog W .any b 24 v) (h : DataW.Trod enc Tryd.prog W b' spare held 24 v d p) : ∃ l : List (BitVec 8), l.length = 32 ∧ v = .agg (l.map V8).toArray := by
  unfold Value.okWide at ho
  rw [Tryd.underlying24] at ho
  obtain ⟨cs, rfl, _, _⟩ := ho
  obtain ⟨fuel, hf⟩ := h
  obtain ⟨ns, hnl, h2, _, hw⟩ := trod_int_array Tryd.underlying24 Tryd.underlying5 cells5 cells24 hf
  refine ⟨ns.map (fun m => BitVec.ofNat 8 m.toNat), by simp [hnl], ?_⟩
  congr 1
  apply Array.toList_inj.1
  have h2' : cs.toList = ns.map (Value.int .u8) := by simpa [Value.cells] using h2
  rw [h2', List.map_map]
  apply List.map_congr_left
  intro m hm
  obtain ⟨i, hi, rfl⟩ := List.mem_iff_getElem.1 hm
  have hb := hw i (by omega)
  have hbd := bounds_u8 hb
  rw [List.getD_eq_getElem?_getD, List.getElem?_eq_getElem hi] at hbd
  simp only [Option.getD_some] at hbd
  simp only [Function.comp_apply, V8, N8, BitVec.toNat_ofNat]
  congr 1
  omega
end Go.Proofs.YtoaaaonpmcebfaaDoor
