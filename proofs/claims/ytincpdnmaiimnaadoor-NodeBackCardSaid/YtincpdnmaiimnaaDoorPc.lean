/- What a kind asks; how many copies it has; whether a pointer may be, as the document says it. -/
import Derived.Test.YtincpdnmaiimnaaDoorPb
namespace Go.Proofs.YtincpdnmaiimnaaDoor
open Go.RowKit

def rcell (k : Nat) : List Value := [.int .i64 (wideN k : Int), .int .u8 (lowN k : Int), .int .u8 (highN k : Int)]
/-- The table of the kinds' rules, as it lies in memory. -/
def RTab (w : World) : Prop := ∃ t fr, w.heap[0]? = some (.cells ((List.range 6).flatMap rcell).toArray t fr)
theorem RTab.lt {w : World} (h : RTab w) : 0 < w.heap.size := by
  obtain ⟨t, fr, h⟩ := h
  exact (Array.getElem?_eq_some_iff.1 h).1
theorem RTab.of_heap {w w' : World} (h : RTab w) (he : w'.heap[0]? = w.heap[0]?) : RTab w' := by
  obtain ⟨t, fr, h⟩ := h
  exact ⟨t, fr, by rw [he]; exact h⟩
theorem RTab.below {B : Nat} {w w' : World} (h : RTab w) (hb : Below B w w') (hB : w.heap.size ≤ B) : RTab w' := h.of_heap (hb.block 0 (Nat.lt_of_lt_of_le h.lt hB))
theorem RTab.grown {w w' : World} (h : RTab w) (hb : Below w.heap.size w w') : RTab w' := h.below hb (Nat.le_refl _)
theorem RTab.alloc {w : World} (h : RTab w) (o : Obj) : RTab (w.alloc o) := h.of_heap (Below.heap_alloc w o 0 h.lt)
theorem RTab.range {w : World} (h : RTab w) {k : Nat} (hk : k < 6) : w.rangeAt 0 (k * 3) (rcell k) := by
  obtain ⟨t, fr, h⟩ := h
  intro j v hv
  rw [cell_of_row w 0 (k * 3 + j) _ t fr h]
  have hj : j < 3 := by
    have := (List.getElem?_eq_some_iff.1 hv).1
    simpa [rcell] using this
  match k, hk with
  | 0, _ | 1, _ | 2, _ | 3, _ | 4, _ | 5, _ =>
    match j, hj with
    | 0, _ | 1, _ | 2, _ => exact hv
theorem one_rule (k : Nat) : (rcell k).toArray.all (·.oneCell') = true := by simp [rcell, Value.oneCell']
theorem blk_row1 (w : World) (z : Array Value) (cs : List Value) (t : TypeId) : Blk ((w.alloc (.cells z t)).setRow w.heap.size cs.toArray) w.heap.size cs t ∧ Below w.heap.size w ((w.alloc (.cells z t)).setRow w.heap.size cs.toArray) :=
  ⟨Blk.row (Blk.new' w z z.toList t _ rfl (by simp)) _, below_row ((Below.refl _ _).alloc (Nat.le_refl _) _) (Nat.le_refl _) _⟩
theorem rcell_none {k : Nat} (h : ¬ k < 6) : rcell k = [.int .i64 0, .int .u8 0, .int .u8 0] := by
  unfold rcell wideN lowN highN
  rw [if_pos (by omega), if_neg (by omega), if_neg (by omega)]
  rfl
set_option maxRecDepth 100000 in
theorem rule_any (k : Nat) (hk : k < 256) (w : World) (hT : RTab w) : Calls Tryd.prog 29 #[.int .u8 (k : Int)] w fun e w' => e = .returned (.agg (rcell k).toArray) ∧ Below w.heap.size w w' := by
  have HT := Lib.hid hT
  clear hT
  have e1 := IntWalk.i64_in (k : Int) (by omega)
  obtain ⟨r, hr⟩ : ∃ r, rcell k = r := ⟨_, rfl⟩
  have hr3 : r.length = 3 := by rw [← hr]; rfl
  have HR3 := Lib.hid hr3
  have HSZ : Hid ((Tryd.prog.info? 64).map (·.size) = some r.toArray.size) := Lib.hid (by rw [sizeRule]; simp [hr3])
  have HONE : Hid (r.toArray.all (·.oneCell') = true) := Lib.hid (by rw [← hr]; exact one_rule k)
  have HB := Lib.hid (blk_row1 w #[.int .i64 0, .int .u8 0, .int .u8 0] r 64)
  go_enter Tryd.func29, Tryd.ntmps29
  by_cases h6 : k < 6
  · have HG : Hid ((w.alloc (.cells #[.int .i64 0, .int .u8 0, .int .u8 0] 64)).rangeAt 0 (k * 3) r) := Lib.hid (by rw [← hr]; exact (HT.out.alloc _).range h6)
    have hk6 : (k : Int) < 6 := by omega
    rw [hr]
    clear hr hr3
    go_wp2_with (first | (refine wpL_val rfl (ex_ld (ty := 64) (cs := r) (off := k * 3) rfl rfl HG.out Tryd.underlying64 rfl (by rw [sizeRule, HR3.out])) ?_) | (refine wpList_store_row rfl 64 (.tmp 2) (.tmp 8) rfl w.heap.size _ rfl rfl 64 _ (heap_alloc_new _ _) HSZ.out (by simp [HR3.out]) HONE.out ?_) | fail)
    exact bodyPost_ret (results_cell_row Tryd.results29 _ _ w.heap.size 64 _ _ _ rfl HB.out.1 Tryd.underlying64 rfl HSZ.out) rfl ⟨rfl, HB.out.2⟩
  · have hk6 : ¬ (k : Int) < 6 := by omega
    have h0 := rcell_none h6
    rw [hr] at h0
    rw [hr, h0]
    rw [h0] at HB
    clear hr hr3 h0 HR3 HSZ HONE h6
    go_wp2
    exact bodyPost_ret (results_cell_row Tryd.results29 _ _ w.heap.size 64 _ _ _ rfl (heap_alloc_new _ _) Tryd.underlying64 rfl sizeRule) rfl ⟨rfl, (Below.refl _ _).alloc (Nat.le_refl _) _⟩
theorem rule_any' (k : Nat) (hk : k < 256) (w : World) (hT : RTab w) : Calls Tryd.prog 29 #[.int .u8 (k : Int)] w fun e w' => e = .returned (.agg #[.int .i64 (wideN k : Int), .int .u8 (lowN k : Int), .int .u8 (highN k : Int)]) ∧ Below w.heap.size w w' := rule_any k hk w hT
theorem run_fieldR (a b c : Value) (w : World) : (Instr.field 64 (.agg #[a, b, c]) 0).run Tryd.prog w = .ok a w := by
  unfold Instr.field
  rw [Sem.run_bind, run_underlying Tryd.underlying64 w, Result.andThen_ok]
  exact part_one (t := 3) Tryd.underlying3 rfl w
end Go.Proofs.YtincpdnmaiimnaaDoor
