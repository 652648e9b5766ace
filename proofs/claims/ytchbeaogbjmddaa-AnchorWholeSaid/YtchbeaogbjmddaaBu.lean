/- An anchor built of its parts. -/
import Derived.Test.YtchbeaogbjmddaaWk
import Derived.Great.FillDense
namespace Go.Proofs.Ytchbeaogbjmddaa
open Go.RowKit

theorem fold_splice (off : Nat) (vs : List Value) (cs : Array Value) (h : off + vs.length ≤ cs.size) : (vs.zipIdx 0).foldl (fun cs (x : Value × Nat) => cs.setIfInBounds (off + x.2) x.1) cs = (splice cs.toList off vs).toArray := by
  obtain ⟨h1, h2⟩ := Go.Great.foldl_set off vs 0 cs
  apply Array.ext_getElem?
  intro k
  rw [h2 k]
  simp only [List.getElem?_toArray, splice, Nat.add_zero]
  by_cases hk : k < off
  · rw [if_neg (by omega), List.getElem?_append_left (by simp; omega), List.getElem?_take, if_pos hk]
    simp
  · rw [List.getElem?_append_right (by simp; omega)]
    have e : (cs.toList.take off).length = off := by simp; omega
    rw [e]
    by_cases hk2 : k < off + vs.length
    · rw [if_pos (by omega), List.getElem?_append_left (by omega)]
    · rw [if_neg (by omega), List.getElem?_append_right (by omega), List.getElem?_drop]
      rw [show off + vs.length + (k - off - vs.length) = k by omega]
      simp
theorem fill_one {pl : Array (Nat × Nat)} {cells : Array Value} {i off size : Nat} {v : Value} (hp : pl[i]? = some (off, size)) (hv : v.cells.size = size) (hle : off + size ≤ cells.size) (rest : List (Nat × Value)) :
    Instr.fill (pl[·]?) cells ((i, v) :: rest) = Instr.fill (pl[·]?) (splice cells.toList off v.cells.toList).toArray rest := by
  have hf := fold_splice off v.cells.toList cells (by simp; omega)
  conv => lhs; unfold Instr.fill
  simp only [hp]
  rw [if_neg (by simp [hv]; omega)]
  congr 1
  rw [← hf]
  rw [← Array.foldl_toList]
  simp
theorem built29 (parts : List (Nat × Value)) : Try.prog.built 29 parts = Instr.fill ((#[(0, 1), (1, 32), (33, 4)] : Array (Nat × Nat))[·]?) (acells zeroA).toArray parts := by kernel_rfl
theorem built27 (parts : List (Nat × Value)) : Try.prog.built 27 parts = Instr.fill ((#[(0, 1), (1, 32), (33, 4)] : Array (Nat × Nat))[·]?) (acells zeroA).toArray parts := by kernel_rfl
theorem fill_anchor {a : An} (ha : a.OK) : Instr.fill ((#[(0, 1), (1, 32), (33, 4)] : Array (Nat × Nat))[·]?) (acells zeroA).toArray [(0, .int .u64 (a.gen : Int)), (1, .agg (a.hash.map V8).toArray), (2, .agg (a.ats.map U16).toArray)] = some (acells a).toArray := by
  have hh := ha.hash
  have hl := ha.len
  rw [fill_one (i := 0) (off := 0) (size := 1) rfl rfl (by rw [zlen]; omega)]
  have e1 : splice (acells zeroA).toArray.toList 0 (Value.int .u64 (a.gen : Int)).cells.toList = acells ⟨a.gen, List.replicate 32 0#8, [0, 0, 0, 0]⟩ := rfl
  rw [e1, fill_one (i := 1) (off := 1) (size := 32) rfl (by simp [Value.cells, hh]) (by simp [acells])]
  have e2 : splice (acells ⟨a.gen, List.replicate 32 0#8, [0, 0, 0, 0]⟩).toArray.toList 1 (Value.agg (a.hash.map V8).toArray).cells.toList = acells ⟨a.gen, a.hash, [0, 0, 0, 0]⟩ := by
    have := splice_hash a.gen (List.replicate 32 0#8) a.hash [0, 0, 0, 0] (by simp) hh
    simpa [Value.cells] using this
  rw [e2, fill_one (i := 2) (off := 33) (size := 4) rfl (by simp [Value.cells, hl]) (by simp [acells, hh])]
  have e3 : splice (acells ⟨a.gen, a.hash, [0, 0, 0, 0]⟩).toArray.toList 33 (Value.agg (a.ats.map U16).toArray).cells.toList = acells a := by
    have e : ∀ t, acells ⟨a.gen, a.hash, t⟩ = (Value.int .u64 (a.gen : Int) :: a.hash.map V8) ++ t.map U16 := fun t => by simp [acells]
    have e' : acells a = (Value.int .u64 (a.gen : Int) :: a.hash.map V8) ++ a.ats.map U16 := by simp [acells]
    unfold splice
    rw [e, e']
    simp only [Value.cells]
    rw [List.take_left' (by simp [hh]), List.drop_of_length_le (by simp [hh, hl])]
    simp
  rw [e3]
  rfl
theorem ex_build29 {ρ : Operand → Value} {o : Oper} {x y z : Operand} {a : An} {w : World} (ho : o.op = .build 29 #[(0, x), (1, y), (2, z)]) (hx : ρ x = .int .u64 (a.gen : Int)) (hy : ρ y = .agg (a.hash.map V8).toArray) (hz : ρ z = .agg (a.ats.map U16).toArray) (ha : a.OK) : (execOp ρ o).run Try.prog w = .ok (.value (.agg (acells a).toArray)) w := by
  have hr : (Instr.build 29 #[(0, .int .u64 (a.gen : Int)), (1, .agg (a.hash.map V8).toArray), (2, .agg (a.ats.map U16).toArray)]).run Try.prog w = .ok (.agg (acells a).toArray) w := run_build w 29 _ _ (by rw [built29]; exact fill_anchor ha)
  unfold execOp
  simp only [ho]
  rw [show (Array.map (fun x : Nat × Operand => (x.1, ρ x.2)) #[(0, x), (1, y), (2, z)]) = #[(0, .int .u64 (a.gen : Int)), (1, .agg (a.hash.map V8).toArray), (2, .agg (a.ats.map U16).toArray)] by simp [hx, hy, hz]]
  simp only [Sem.run_bind, hr, Result.andThen_ok, Sem.run_pure]
theorem ex_build27 {ρ : Operand → Value} {o : Oper} {x y z : Operand} {a : An} {w : World} (ho : o.op = .build 27 #[(0, x), (1, y), (2, z)]) (hx : ρ x = .int .u64 (a.gen : Int)) (hy : ρ y = .agg (a.hash.map V8).toArray) (hz : ρ z = .agg (a.ats.map U16).toArray) (ha : a.OK) : (execOp ρ o).run Try.prog w = .ok (.value (.agg (acells a).toArray)) w := by
  have hr : (Instr.build 27 #[(0, .int .u64 (a.gen : Int)), (1, .agg (a.hash.map V8).toArray), (2, .agg (a.ats.map U16).toArray)]).run Try.prog w = .ok (.agg (acells a).toArray) w := run_build w 27 _ _ (by rw [built27]; exact fill_anchor ha)
  unfold execOp
  simp only [ho]
  rw [show (Array.map (fun x : Nat × Operand => (x.1, ρ x.2)) #[(0, x), (1, y), (2, z)]) = #[(0, .int .u64 (a.gen : Int)), (1, .agg (a.hash.map V8).toArray), (2, .agg (a.ats.map U16).toArray)] by simp [hx, hy, hz]]
  simp only [Sem.run_bind, hr, Result.andThen_ok, Sem.run_pure]
end Go.Proofs.Ytchbeaogbjmddaa
