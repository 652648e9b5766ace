/- Pointers that are known. -/
import Derived.Test.YtlibdcgpjglcpaaDoorPu
namespace Go.Proofs.YtlibdcgpjglcpaaDoor
open Go.RowKit

def k1 : Pt := ⟨1, 0, 7, 3, 9, List.replicate 32 0#8, [5, 0, 6, 0]⟩
theorem k1_ok : k1.OK := ⟨by simp [k1], by simp [k1], by simp [k1], by simp [k1], by simp [k1], by simp [k1], by simp [k1], by simp [k1]⟩
def zs : Bs := List.replicate 512 0#8
def z9 : Bs := List.replicate 9 0#8 ++ 1#8 :: List.replicate 502 0#8
theorem dg9 : decide (digest (tagB k1 ++ z9) = digest (tagB k1 ++ zs)) = false := by kernel_rfl
def k2 : Pt := sealP k1 zs
theorem k2_ok : k2.OK := sealP_ok k1_ok zs
theorem may1 : mayP k1 = true := by decide
theorem may0 : mayP zeroP = false := by decide
theorem may_seal (p : Pt) (bs : Bs) : mayP (sealP p bs) = mayP p := rfl
theorem may2 : mayP k2 = true := (may_seal k1 zs).trans may1
theorem ex_eqPs {ρ : Operand → Value} {o : Oper} {x y : Operand} {p : Pt} {w : World} (ho : o.op = .binOp .eql 28 x y 28) (hx : ρ x = .agg (pcells p).toArray) (hy : ρ y = .agg (pcells p).toArray) (hp : p.OK) : (execOp ρ o).run Tryd.prog w = .ok (.value (.bool true)) w := by
  have h := ex_eqP (w := w) ho hx hy hp hp
  rw [eqP_same] at h
  exact h
theorem ex_nePs {ρ : Operand → Value} {o : Oper} {x y : Operand} {p : Pt} {w : World} (ho : o.op = .binOp .neq 28 x y 28) (hx : ρ x = .agg (pcells p).toArray) (hy : ρ y = .agg (pcells p).toArray) (hp : p.OK) : (execOp ρ o).run Tryd.prog w = .ok (.value (.bool false)) w := by
  have h := ex_neP (w := w) ho hx hy hp hp
  rw [eqP_same] at h
  exact h
theorem taken_padB {p : Pt} (h : p.OK) (hm : mayP p = true) : takeE (padB p) 0 = 0 ∧ takenP (padB p) 0 = p := by
  have h1 := pt_padB h
  have hl := padB_length h
  have e : takeE (padB p) 0 = 0 := by
    unfold takeE
    rw [if_neg (by omega), if_neg (by omega), List.take_of_length_le (by omega), h1.2, h1.1, hm]
    simp
  exact ⟨e, by unfold takenP; rw [if_pos e, h1.1]⟩
theorem fits_seal (p : Pt) (bs cs : Bs) : fitsP (sealP p bs) cs = (decide (cs.length = 512) && decide (digest (tagB p ++ cs) = digest (tagB p ++ bs))) := rfl
theorem zs_len : zs.length = 512 := List.length_replicate
theorem z9_len : z9.length = 512 := by unfold z9; rw [List.length_append, List.length_cons, List.length_replicate, List.length_replicate]
theorem fits2 : fitsP k2 zs = true := by
  unfold k2
  rw [fits_seal, decide_eq_true zs_len, decide_eq_true rfl]
  rfl
theorem fits9 : fitsP k2 z9 = false := by
  unfold k2
  rw [fits_seal, dg9, Bool.and_false]
theorem zs_cells : (List.replicate 512 (Value.int .u8 0)) = zs.map V8 := by
  unfold zs
  rw [List.map_replicate]
  rfl
theorem z9_cells : (zs.map V8).set 9 (.int .u8 1) = z9.map V8 := by
  rw [show zs = List.replicate 9 0#8 ++ 0#8 :: List.replicate 502 0#8 by unfold zs; rw [← List.replicate_succ, List.replicate_append_replicate], List.map_append, List.map_cons, List.set_append_right _ _ (by rw [List.length_map, List.length_replicate]; omega), List.length_map, List.length_replicate]
  unfold z9
  rw [List.map_append, List.map_cons]
  rfl
theorem ex_mk512 {ρ : Operand → Value} {o : Oper} {w : World} (ho : o.op = .makeSlice 29 (.const (.int .i64 512)) (.const (.int .i64 512))) (h1 : ρ (.const (.int .i64 512)) = .int .i64 512) : (execOp ρ o).run Tryd.prog w = .ok (.value (.slice (some ⟨w.heap.size, 0, none⟩) 512 512)) (w.alloc (.cells (zs.map V8).toArray 5)) := by
  obtain ⟨i0, hi, hz0, hz1, hz2⟩ := info_parts infoB
  have hrun := run_make (P := Tryd.prog) w 29 5 i0 (.int .u8 0) Tryd.underlying29 hi hz0 .i64 .i64 512 512 (by omega) (by omega) (by rw [hz2]; decide) (by decide)
  have e : madeCells (Value.int .u8 0).cells (512 * i0.size) = (zs.map V8).toArray := by
    apply Array.toList_inj.1
    rw [hz1]
    show (madeCells #[Value.int .u8 0] 512).toList = _
    rw [toList_madeCells_one, ← zs_cells]
  unfold execOp
  simp [ho, h1, hrun, Result.andThen]
  exact congrArg (fun c => w.alloc (.cells c 5)) e
end Go.Proofs.YtlibdcgpjglcpaaDoor
