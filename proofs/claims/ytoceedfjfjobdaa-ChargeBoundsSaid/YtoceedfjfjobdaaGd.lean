/- Charge: trees of marks in memory: held against one another, marked, counted. -/
import Derived.Test.YtoceedfjfjobdaaGc
import Derived.ChangeKeysEq
import Derived.Laws.StructEq
namespace Go.Proofs.Ytoceedfjfjobdaa
open Go.RowKit

attribute [local go_sem] Oper.semAt_some

abbrev bcs (l : List Bool) : List Value := l.map Value.bool
def rowG (t : List Bool) (g : Nat) : List Bool := (t.drop (8 * g)).take 8
theorem rowG_length {t : List Bool} (h : t.length = 64) {g : Nat} (hg : g < 8) : (rowG t g).length = 8 := by unfold rowG; rw [List.length_take, List.length_drop]; omega
theorem rowG_get (t : List Bool) (g : Nat) {j : Nat} (hj : j < 8) : (rowG t g)[j]? = t[8 * g + j]? := by unfold rowG; rw [List.getElem?_take, if_pos hj, List.getElem?_drop]
theorem rowG_getD (t : List Bool) (g : Nat) {j : Nat} (hj : j < 8) : (rowG t g).getD j false = t.getD (8 * g + j) false := by rw [List.getD_eq_getElem?_getD, rowG_get t g hj, List.getD_eq_getElem?_getD]
theorem all_eq {a b : List Bool} {n : Nat} (ha : a.length = n) (hb : b.length = n) : (List.range n).all (fun j => a.getD j false == b.getD j false) = decide (a = b) := by
  rw [Bool.eq_iff_iff, List.all_eq_true, decide_eq_true_eq]
  constructor
  · intro h
    apply List.ext_getElem (ha.trans hb.symm)
    intro i h1 h2
    have := h i (List.mem_range.2 (by omega))
    simpa [List.getD_eq_getElem?_getD, h1, h2] using this
  · rintro rfl j _
    simp
theorem rows_eq {a b : List Bool} (ha : a.length = 64) (hb : b.length = 64) : (List.range 8).all (fun i => decide (rowG a i = rowG b i)) = decide (a = b) := by
  rw [Bool.eq_iff_iff, List.all_eq_true, decide_eq_true_eq]
  constructor
  · intro h
    apply List.ext_getElem?
    intro i
    rcases Nat.lt_or_ge i 64 with hi | hi
    · have h1 := h (i / 8) (List.mem_range.2 (by omega))
      have h2 := rowG_get a (i / 8) (j := i % 8) (by omega)
      have h3 := rowG_get b (i / 8) (j := i % 8) (by omega)
      rw [show 8 * (i / 8) + i % 8 = i by omega] at h2 h3
      rw [← h2, ← h3, of_decide_eq_true h1]
    · rw [List.getElem?_eq_none (by omega), List.getElem?_eq_none (by omega)]
  · rintro rfl j _
    simp
theorem isAgg_bool {t : TypeId} (h : Try.prog.underlying t = some .bool) (W : World) : (isAgg t).run Try.prog W = .ok false W := by
  unfold isAgg
  rw [Sem.run_bind, run_underlying h W]; rfl
theorem isAgg_arr {t e : TypeId} {n : Nat} (h : Try.prog.underlying t = some (.array n e)) (W : World) : (isAgg t).run Try.prog W = .ok true W := by
  unfold isAgg
  rw [Sem.run_bind, run_underlying h W]; rfl
theorem part_bool {t : TypeId} (h : Try.prog.underlying t = some .bool) {xs : Array Value} {off : Nat} {v : Value} (hv : xs[off]? = some v) (W : World) : (Go.part t xs off).run Try.prog W = .ok v W := by
  unfold Go.part
  simp only [Sem.run_bind, isAgg_bool h W, Result.andThen_ok, hv]
  rfl
theorem part_arr {t e : TypeId} {n m : Nat} (h : Try.prog.underlying t = some (.array n e)) (hs : (Try.prog.info? t).map (·.size) = some m) (xs : Array Value) (off : Nat) (W : World) : (Go.part t xs off).run Try.prog W = .ok (.agg (xs.extract off (off + m))) W := by
  obtain ⟨i, h1, h2⟩ := Option.map_eq_some_iff.1 hs
  have hsz : (sizeOf t).run Try.prog W = .ok m W := by simp [sizeOf, typeInfo, h1, h2]
  unfold Go.part
  simp only [Sem.run_bind, isAgg_arr h W, Result.andThen_ok, hsz, if_true]
  rfl
theorem eqItems_dec (d : Nat) (e : TypeId) (k : Nat) (xs ys : Array Value) (W : World) (B : Nat → Bool) : ∀ is : List Nat, (∀ i ∈ is, ∃ x y, (Go.part e xs (i * k)).run Try.prog W = .ok x W ∧ (Go.part e ys (i * k)).run Try.prog W = .ok y W ∧ (Op.equalIn d e x y).run Try.prog W = .ok (B i) W) →
    (Op.eqItems d e k xs ys is).run Try.prog W = .ok (is.all B) W
  | [], _ => by simp [Op.eqItems]
  | i :: is, h => by
    obtain ⟨x, y, h1, h2, h3⟩ := h i (by simp)
    have ih := eqItems_dec d e k xs ys W B is (fun g hg => h g (by simp [hg]))
    unfold Op.eqItems
    simp only [Sem.run_bind, h1, h2, h3, Result.andThen_ok]
    cases hB : B i
    · simp [hB]
    · simpa [hB] using ih
theorem sizeBo : (Try.prog.info? 4).map (·.size) = some 1 := by kernel_rfl
theorem sizeG8 : (Try.prog.info? 49).map (·.size) = some 8 := by kernel_rfl
theorem sizeTr : (Try.prog.info? 51).map (·.size) = some 64 := by kernel_rfl
theorem bcs_get {l : List Bool} {j : Nat} (h : j < l.length) : (bcs l).toArray[j]? = some (.bool (l.getD j false)) := by
  simp [List.getD_eq_getElem?_getD, h]
theorem ext_row (t : List Bool) (i : Nat) : (bcs t).toArray.extract (i * 8) (i * 8 + 8) = (bcs (rowG t i)).toArray := by
  apply Array.toList_inj.1
  unfold rowG
  rw [Nat.mul_comm i 8]
  simp [List.extract]
theorem eq8 {a b : List Bool} (ha : a.length = 8) (hb : b.length = 8) (d : Nat) (W : World) : (Op.equalIn (d + 2) 49 (.agg (bcs a).toArray) (.agg (bcs b).toArray)).run Try.prog W = .ok (decide (a = b)) W := by
  obtain ⟨i, h1, h2⟩ := Option.map_eq_some_iff.1 sizeBo
  rw [run_equalIn_array W (d + 1) _ _ Try.underlying49 h1, ← all_eq ha hb]
  have hc : Try.prog.cellsOf 4 = 1 := by kernel_rfl
  refine eqItems_dec _ _ _ _ _ W _ _ (fun j hj => ?_)
  have hj8 : j < 8 := List.mem_range.1 hj
  exact ⟨_, _, part_bool Try.underlying4 (by rw [hc, Nat.mul_one]; exact bcs_get (by omega)) W, part_bool Try.underlying4 (by rw [hc, Nat.mul_one]; exact bcs_get (by omega)) W, run_equalIn_bool W d 4 _ _ Try.underlying4⟩
theorem eqTr {a b : List Bool} (ha : a.length = 64) (hb : b.length = 64) (d : Nat) (W : World) : (Op.equalIn (d + 3) 51 (.agg (bcs a).toArray) (.agg (bcs b).toArray)).run Try.prog W = .ok (decide (a = b)) W := by
  obtain ⟨i, h1, h2⟩ := Option.map_eq_some_iff.1 sizeG8
  rw [run_equalIn_array W (d + 2) _ _ Try.underlying51 h1, ← rows_eq ha hb]
  have hc : Try.prog.cellsOf 49 = 8 := by kernel_rfl
  refine eqItems_dec _ _ _ _ _ W _ _ (fun j hj => ?_)
  have hj8 : j < 8 := List.mem_range.1 hj
  rw [hc]
  refine ⟨_, _, part_arr Try.underlying49 sizeG8 _ _ W, part_arr Try.underlying49 sizeG8 _ _ W, ?_⟩
  rw [ext_row, ext_row]
  exact eq8 (rowG_length ha hj8) (rowG_length hb hj8) d W
section
variable {ρ : Operand → Value} {o : Oper} {x y : Operand} {w : World}
theorem ex_ne8 {a b : List Bool} (ha : a.length = 8) (hb : b.length = 8) {z : Bool} (hz : (!decide (a = b)) = z) (ho : o.op = .binOp .neq 49 x y 49) (hx : ρ x = .agg (bcs a).toArray) (hy : ρ y = .agg (bcs b).toArray) : (execOp ρ o).run Try.prog w = .ok (.value (.bool z)) w := by
  have h := eq8 ha hb 9998 w
  have hg := run_eqGuard_agg (P := Try.prog) w .neq 49 x y (bcs a).toArray (bcs b).toArray (by kernel_rfl)
  subst hz
  unfold execOp
  simp only [ho, hx, hy, Sem.run_bind, hg, run_neq_struct, h, Result.andThen_ok, Sem.run_pure]
theorem ex_neTr {a b : List Bool} (ha : a.length = 64) (hb : b.length = 64) {z : Bool} (hz : (!decide (a = b)) = z) (ho : o.op = .binOp .neq 51 x y 51) (hx : ρ x = .agg (bcs a).toArray) (hy : ρ y = .agg (bcs b).toArray) : (execOp ρ o).run Try.prog w = .ok (.value (.bool z)) w := by
  have h := eqTr ha hb 9997 w
  have hg := run_eqGuard_agg (P := Try.prog) w .neq 51 x y (bcs a).toArray (bcs b).toArray (by kernel_rfl)
  subst hz
  unfold execOp
  simp only [ho, hx, hy, Sem.run_bind, hg, run_neq_struct, h, Result.andThen_ok, Sem.run_pure]
def zero8 : List Bool := List.replicate 8 false
theorem ex_bld8 (ho : o.op = .build 49 #[]) : (execOp ρ o).run Try.prog w = .ok (.value (.agg (bcs zero8).toArray)) w := by
  have hr : (Instr.build 49 #[]).run Try.prog w = .ok (.agg (bcs zero8).toArray) w := run_build w 49 _ _ (by kernel_rfl)
  unfold execOp
  simp only [ho]
  simp only [List.map_toArray, List.map_nil, Sem.run_bind, hr, Result.andThen_ok, Sem.run_pure]
theorem ex_bldTr (ho : o.op = .build 51 #[]) : (execOp ρ o).run Try.prog w = .ok (.value (.agg (bcs zeroT).toArray)) w := by
  have hr : (Instr.build 51 #[]).run Try.prog w = .ok (.agg (bcs zeroT).toArray) w := run_build w 51 _ _ (by kernel_rfl)
  unfold execOp
  simp only [ho]
  simp only [List.map_toArray, List.map_nil, Sem.run_bind, hr, Result.andThen_ok, Sem.run_pure]
theorem ex_ixTr {t : List Bool} {k : Nat} (hk : k < 8) (ho : o.op = .index 51 x y) (hx : ρ x = .agg (bcs t).toArray) (hy : ρ y = .int .i64 (k : Int)) : (execOp ρ o).run Try.prog w = .ok (.value (.agg (bcs (rowG t k)).toArray)) w := by
  obtain ⟨i, h1, h2⟩ := Option.map_eq_some_iff.1 sizeG8
  have hsz : (sizeOf 49).run Try.prog w = .ok 8 w := by simp [sizeOf, typeInfo, h1, h2]
  have hr : (Instr.index 51 (.agg (bcs t).toArray) (.int .i64 (k : Int))).run Try.prog w = .ok (.agg (bcs (rowG t k)).toArray) w := by
    unfold Instr.index
    simp only [asIntOf, Sem.run_bind, Sem.run_pure, Result.andThen_ok, run_underlying Try.underlying51 w]
    rw [if_pos ⟨by omega, by omega⟩]
    simp only [Sem.run_bind, hsz, Result.andThen_ok, Int.toNat_natCast]
    rw [part_arr Try.underlying49 sizeG8, ext_row]
  unfold execOp
  simp only [ho, hx, hy, Sem.run_bind, hr, Result.andThen_ok, Sem.run_pure]
theorem ex_ix8 {l : List Bool} {k : Nat} {z : Bool} (hk : k < 8) (hl : l.length = 8) (hz : l.getD k false = z) (ho : o.op = .index 49 x y) (hx : ρ x = .agg (bcs l).toArray) (hy : ρ y = .int .i64 (k : Int)) : (execOp ρ o).run Try.prog w = .ok (.value (.bool z)) w := by
  subst hz
  obtain ⟨i, h1, h2⟩ := Option.map_eq_some_iff.1 sizeBo
  have hsz : (sizeOf 4).run Try.prog w = .ok 1 w := by simp [sizeOf, typeInfo, h1, h2]
  have hr : (Instr.index 49 (.agg (bcs l).toArray) (.int .i64 (k : Int))).run Try.prog w = .ok (.bool (l.getD k false)) w := by
    unfold Instr.index
    simp only [asIntOf, Sem.run_bind, Sem.run_pure, Result.andThen_ok, run_underlying Try.underlying49 w]
    rw [if_pos ⟨by omega, by omega⟩]
    simp only [Sem.run_bind, hsz, Result.andThen_ok, Int.toNat_natCast]
    exact part_bool Try.underlying4 (by rw [Nat.mul_one]; exact bcs_get (by omega)) w
  unfold execOp
  simp only [ho, hx, hy, Sem.run_bind, hr, Result.andThen_ok, Sem.run_pure]
theorem c_ld8 {g : Nat} {l : List Bool} {t : TypeId} (hl : l.length = 8) (hb : Blk w g (bcs l) t) (ho : o.op = .load 49 x) (hx : ρ x = .pointer (some ⟨g, 0, none⟩)) : (execOp ρ o).run Try.prog w = .ok (.value (.agg (bcs l).toArray)) w :=
  c_ld ho hx (c_rng hb) Try.underlying49 rfl (by rw [sizeG8, List.length_map, hl])
theorem c_ldTr {g : Nat} {l : List Bool} {t : TypeId} (hl : l.length = 64) (hb : Blk w g (bcs l) t) (ho : o.op = .load 51 x) (hx : ρ x = .pointer (some ⟨g, 0, none⟩)) : (execOp ρ o).run Try.prog w = .ok (.value (.agg (bcs l).toArray)) w :=
  c_ld ho hx (c_rng hb) Try.underlying51 rfl (by rw [sizeTr, List.length_map, hl])
end
theorem one_bcs (l : List Bool) : (bcs l).all (·.oneCell') = true := by
  rw [List.all_eq_true]
  intro v hv
  obtain ⟨x, _, rfl⟩ := List.mem_map.1 hv
  rfl
theorem mark_any (t : List Bool) (ht : t.length = 64) (off : Nat) (hoff : off < 4294967296) (g : Nat) (w : World) (hb : Blk w g (bcs t) 51) : Calls Try.prog 20 #[.pointer (some ⟨g, 0, none⟩), .int .u32 (off : Int)] w fun e w' => e = .returned (.tuple #[]) ∧ Blk w' g (bcs (mark t off)) 51 ∧ Chg (fun k => k = g) w w' := by
  by_cases h : off < 64
  · obtain ⟨q, hq⟩ : ∃ q, off / 8 = q := ⟨_, rfl⟩
    obtain ⟨r, hr⟩ : ∃ r, off % 8 = r := ⟨_, rfl⟩
    have e1 : (off : Int) / 8 = (q : Int) := by omega
    have e2 : (off : Int) % 8 = (r : Int) := by omega
    have j1 : (off : Int) < 64 := by omega
    have j2 : q < 8 := by omega
    have j3 : r < 8 := by omega
    have j4 : (q : Int) < 8 := by omega
    have j5 : (r : Int) < 8 := by omega
    have hc : w.cell? ⟨g, q * 8 + r, none⟩ = some (.bool (t.getD off false)) := by
      rw [show q * 8 + r = off by omega]
      refine hb.cell ?_
      have := bcs_get (l := t) (j := off) (by omega)
      simpa using this
    have hf := hb.free (q * 8 + r)
    have HE : Hid (Blk (w.setCell ⟨g, q * 8 + r, none⟩ (.bool true)) g (bcs (mark t off)) 51 ∧ Chg (fun k => k = g) w (w.setCell ⟨g, q * 8 + r, none⟩ (.bool true))) := Lib.hid (by
      refine ⟨?_, chg1 w g _ _⟩
      have := hb.set (q * 8 + r) (.bool true)
      rw [show q * 8 + r = off by omega] at this ⊢
      unfold mark
      rw [if_pos h]
      unfold bcs
      rw [List.map_set]
      exact this)
    clear hq hr hb h
    go_enter Try.func20, Try.ntmps20
    go_wp2_with fail
    first | exact ⟨rfl, HE.out⟩ | (go_end0; exact ⟨rfl, HE.out⟩)
  · have j1 : ¬ (off : Int) < 64 := by omega
    have HE : Hid (Blk w g (bcs (mark t off)) 51 ∧ Chg (fun k => k = g) w w) := Lib.hid ⟨by unfold mark; rw [if_neg h]; exact hb, Chg.refl _ _⟩
    clear hb h
    go_enter Try.func20, Try.ntmps20
    go_wp2_with fail
    first | exact ⟨rfl, HE.out⟩ | (go_end0; exact ⟨rfl, HE.out⟩)
end Go.Proofs.Ytoceedfjfjobdaa
