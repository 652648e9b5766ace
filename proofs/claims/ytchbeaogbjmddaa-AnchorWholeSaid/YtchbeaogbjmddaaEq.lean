/- Anchors that are one are equal. -/
import Derived.Test.YtchbeaogbjmddaaSt
import Derived.ChangeKeysEq
namespace Go.Proofs.Ytchbeaogbjmddaa
open Go.RowKit

theorem eqFields_same (d : Nat) (xs : Array Value) (W : World) : ∀ fs : List Field, (∀ f ∈ fs, ∃ x, (Go.part f.type xs f.offset).run Try.prog W = .ok x W ∧ (Op.equalIn d f.type x x).run Try.prog W = .ok true W) → (Op.eqFields d xs xs fs).run Try.prog W = .ok true W
  | [], _ => by simp [Op.eqFields]
  | f :: fs, h => by
    obtain ⟨x, h1, h2⟩ := h f (by simp)
    have ih := eqFields_same d xs W fs (fun g hg => h g (by simp [hg]))
    unfold Op.eqFields
    split
    · simp only [Sem.run_bind, h1, h2, Result.andThen_ok]
      simpa using ih
    · exact ih
theorem eqItems_same (d : Nat) (e : TypeId) (k : Nat) (xs : Array Value) (W : World) : ∀ is : List Nat, (∀ i ∈ is, ∃ x, (Go.part e xs (i * k)).run Try.prog W = .ok x W ∧ (Op.equalIn d e x x).run Try.prog W = .ok true W) → (Op.eqItems d e k xs xs is).run Try.prog W = .ok true W
  | [], _ => by simp [Op.eqItems]
  | i :: is, h => by
    obtain ⟨x, h1, h2⟩ := h i (by simp)
    have ih := eqItems_same d e k xs W is (fun g hg => h g (by simp [hg]))
    unfold Op.eqItems
    simp only [Sem.run_bind, h1, h2, Result.andThen_ok]
    simpa using ih
theorem isAgg_int {t : TypeId} {k : IntKind} (h : Try.prog.underlying t = some (.int k)) (W : World) : (isAgg t).run Try.prog W = .ok false W := by
  unfold isAgg
  rw [Sem.run_bind, run_underlying h W]; rfl
theorem isAgg_arr {t e : TypeId} {n : Nat} (h : Try.prog.underlying t = some (.array n e)) (W : World) : (isAgg t).run Try.prog W = .ok true W := by
  unfold isAgg
  rw [Sem.run_bind, run_underlying h W]; rfl
theorem part_one {t : TypeId} {k : IntKind} (h : Try.prog.underlying t = some (.int k)) {xs : Array Value} {off : Nat} {v : Value} (hv : xs[off]? = some v) (W : World) : (Go.part t xs off).run Try.prog W = .ok v W := by
  unfold Go.part
  simp only [Sem.run_bind, isAgg_int h W, Result.andThen_ok, hv]
  rfl
theorem part_arr {t e : TypeId} {n m : Nat} (h : Try.prog.underlying t = some (.array n e)) (hs : (Try.prog.info? t).map (·.size) = some m) (xs : Array Value) (off : Nat) (W : World) : (Go.part t xs off).run Try.prog W = .ok (.agg (xs.extract off (off + m))) W := by
  obtain ⟨i, h1, h2⟩ := Option.map_eq_some_iff.1 hs
  have hsz : (sizeOf t).run Try.prog W = .ok m W := by simp [sizeOf, typeInfo, h1, h2]
  unfold Go.part
  simp only [Sem.run_bind, isAgg_arr h W, Result.andThen_ok, hsz, if_true]
  rfl
theorem ext_hash {a : An} (ha : a.OK) : (acells a).toArray.extract 1 (1 + 32) = (a.hash.map V8).toArray := by
  apply Array.toList_inj.1
  have hh := ha.hash
  simp [acells, List.extract]
  rw [List.take_append_of_le_length (by simp [hh])]
  exact List.take_of_length_le (by simp [hh])
theorem ext_ats {a : An} (ha : a.OK) : (acells a).toArray.extract 33 (33 + 4) = (a.ats.map U16).toArray := by
  apply Array.toList_inj.1
  have hh := ha.hash
  have hl := ha.len
  have e : acells a = (Value.int .u64 (a.gen : Int) :: a.hash.map V8) ++ a.ats.map U16 := by simp [acells]
  rw [e]
  simp only [List.extract_toArray, List.extract]
  rw [List.drop_left' (by simp [hh])]
  exact List.take_of_length_le (by simp [hl])
theorem eq_hash {a : An} (ha : a.OK) (d : Nat) (W : World) : (Op.equalIn (d + 2) 23 (.agg (a.hash.map V8).toArray) (.agg (a.hash.map V8).toArray)).run Try.prog W = .ok true W := by
  have h := run_equalIn_bytes (P := Try.prog) W d 23 5 32 Try.underlying23 Try.underlying5 sizeOf5 (a.hash.map UInt8.ofBitVec) (a.hash.map UInt8.ofBitVec) (by simpa using ha.hash) (by simpa using ha.hash)
  have e : ∀ l : Bs, (l.map UInt8.ofBitVec).map Extern.Stop.cell = l.map V8 := fun l => by
    rw [List.map_map]; rfl
  rw [e] at h
  rw [h]
  simp
theorem eq_ats {a : An} (ha : a.OK) (d : Nat) (W : World) : (Op.equalIn (d + 2) 25 (.agg (a.ats.map U16).toArray) (.agg (a.ats.map U16).toArray)).run Try.prog W = .ok true W := by
  obtain ⟨i, h1, h2⟩ := Option.map_eq_some_iff.1 size24
  rw [run_equalIn_array W (d + 1) _ _ Try.underlying25 h1]
  refine eqItems_same _ _ _ _ W _ (fun j hj => ?_)
  have hj4 : j < 4 := List.mem_range.1 hj
  have hc : Try.prog.cellsOf 24 = 1 := by kernel_rfl
  obtain ⟨x, hx⟩ : ∃ x, a.ats[j]? = some x := ⟨_, List.getElem?_eq_getElem (by have := ha.len; omega)⟩
  refine ⟨U16 x, part_one Try.underlying24 (by rw [hc, Nat.mul_one]; simp [hx]) W, ?_⟩
  unfold U16
  rw [run_equalIn_int W d 24 .u16 .u16 _ _ Try.underlying24]
  simp
theorem fields29 : (Try.prog.fieldsOf 29).toList.map (fun f => (f.type, f.offset)) = [(22, 0), (23, 1), (25, 33)] := by kernel_rfl
theorem fields27 : (Try.prog.fieldsOf 27).toList.map (fun f => (f.type, f.offset)) = [(22, 0), (23, 1), (25, 33)] := by kernel_rfl
theorem eq_fields {a : An} (ha : a.OK) (W : World) {fs : List Field} (hf : fs.map (fun f => (f.type, f.offset)) = [(22, 0), (23, 1), (25, 33)]) : (Op.eqFields 9999 (acells a).toArray (acells a).toArray fs).run Try.prog W = .ok true W := by
  refine eqFields_same _ _ W _ (fun f hm => ?_)
  have h1 : (f.type, f.offset) ∈ fs.map (fun f => (f.type, f.offset)) := List.mem_map.2 ⟨f, hm, rfl⟩
  rw [hf] at h1
  simp only [List.mem_cons, Prod.mk.injEq, List.not_mem_nil, or_false] at h1
  rcases h1 with ⟨e1, e2⟩ | ⟨e1, e2⟩ | ⟨e1, e2⟩ <;> rw [e1, e2]
  · refine ⟨_, part_one Try.underlying22 (v := .int .u64 (a.gen : Int)) (by simp [acells]) W, ?_⟩
    rw [run_equalIn_int W 9998 22 .u64 .u64 _ _ Try.underlying22]
    simp
  · refine ⟨_, part_arr Try.underlying23 size23 _ _ W, ?_⟩
    rw [ext_hash ha]
    exact eq_hash ha 9997 W
  · refine ⟨_, part_arr Try.underlying25 size25 _ _ W, ?_⟩
    rw [ext_ats ha]
    exact eq_ats ha 9997 W
theorem run_eq29 {a : An} (ha : a.OK) (W : World) : (Op.equalIn 10000 29 (.agg (acells a).toArray) (.agg (acells a).toArray)).run Try.prog W = .ok true W := by
  rw [run_equalIn_struct W 9999 29 _ _ (by kernel_rfl) (by kernel_rfl)]
  exact eq_fields ha W fields29
theorem run_eq27 {a : An} (ha : a.OK) (W : World) : (Op.equalIn 10000 27 (.agg (acells a).toArray) (.agg (acells a).toArray)).run Try.prog W = .ok true W := by
  rw [run_equalIn_struct W 9999 27 _ _ (by kernel_rfl) (by kernel_rfl)]
  exact eq_fields ha W fields27
theorem ex_ne29 {ρ : Operand → Value} {o : Oper} {x y : Operand} {a : An} {w : World} (ho : o.op = .binOp .neq 29 x y 29) (hx : ρ x = .agg (acells a).toArray) (hy : ρ y = .agg (acells a).toArray) (ha : a.OK) : (execOp ρ o).run Try.prog w = .ok (.value (.bool false)) w := by
  have hq := run_eq29 ha w
  unfold execOp
  have hg := run_eqGuard_agg (P := Try.prog) w .neq 29 x y (acells a).toArray (acells a).toArray (by kernel_rfl)
  simp only [ho, hx, hy, Sem.run_bind, hg, run_neq_struct, hq, Result.andThen_ok, Sem.run_pure]
  rfl
theorem ex_eq29 {ρ : Operand → Value} {o : Oper} {x y : Operand} {a : An} {w : World} (ho : o.op = .binOp .eql 29 x y 29) (hx : ρ x = .agg (acells a).toArray) (hy : ρ y = .agg (acells a).toArray) (ha : a.OK) : (execOp ρ o).run Try.prog w = .ok (.value (.bool true)) w := by
  have hq := run_eq29 ha w
  unfold execOp
  have hg := run_eqGuard_agg (P := Try.prog) w .eql 29 x y (acells a).toArray (acells a).toArray (by kernel_rfl)
  simp only [ho, hx, hy, Sem.run_bind, hg, run_eql_struct, hq, Result.andThen_ok, Sem.run_pure]
theorem ex_eq27 {ρ : Operand → Value} {o : Oper} {x y : Operand} {a : An} {w : World} (ho : o.op = .binOp .eql 27 x y 27) (hx : ρ x = .agg (acells a).toArray) (hy : ρ y = .agg (acells a).toArray) (ha : a.OK) : (execOp ρ o).run Try.prog w = .ok (.value (.bool true)) w := by
  have hq := run_eq27 ha w
  unfold execOp
  have hg := run_eqGuard_agg (P := Try.prog) w .eql 27 x y (acells a).toArray (acells a).toArray (by kernel_rfl)
  simp only [ho, hx, hy, Sem.run_bind, hg, run_eql_struct, hq, Result.andThen_ok, Sem.run_pure]
theorem ex_eq28 {ρ : Operand → Value} {o : Oper} {x y : Operand} {a : Bs} {w : World} (ho : o.op = .binOp .eql 28 x y 28) (hx : ρ x = .agg (a.map V8).toArray) (hy : ρ y = .agg (a.map V8).toArray) (ha : a.length = 64) : (execOp ρ o).run Try.prog w = .ok (.value (.bool true)) w := by
  have hq := run_eq28 a a ha ha w
  rw [decide_eq_true rfl] at hq
  unfold execOp
  simp only [ho]
  go_simp
end Go.Proofs.Ytchbeaogbjmddaa
