/- Nodes: what reads and builds them; hole, With, Empty, Len. -/
import Derived.Test.YtincpdnmaiimnaaDoorNa
import Derived.Test.YtincpdnmaiimnaaDoorPu
namespace Go.Proofs.YtincpdnmaiimnaaDoor
open Go.RowKit

section
variable {ρ : Operand → Value} {o : Oper} {x y : Operand} {w : World} {ns ms : List Pt}
theorem ex_ldT {t : TypeId} (hu : Tryd.prog.underlying t = some (.array 8 28)) (hs : (Tryd.prog.info? t).map (·.size) = some 328) (h : NOK ns) {g : Nat} {t' : TypeId} (hB : Blk w g (ncells ns) t') (ho : o.op = .load t x) (hx : ρ x = .pointer (some ⟨g, 0, none⟩)) : (execOp ρ o).run Tryd.prog w = .ok (.value (.agg (ncells ns).toArray)) w :=
  ex_ld (ty := t) (cs := ncells ns) ho hx (rng_all hB) hu rfl (by rw [hs, h.cells])
theorem ex_ldN (h : NOK ns) {g : Nat} {t' : TypeId} (hB : Blk w g (ncells ns) t') (ho : o.op = .load 35 x) (hx : ρ x = .pointer (some ⟨g, 0, none⟩)) : (execOp ρ o).run Tryd.prog w = .ok (.value (.agg (ncells ns).toArray)) w := ex_ldT Tryd.underlying35 size_nd h hB ho hx
theorem ex_ldP {p : Pt} (hp : p.OK) {g : Nat} {t' : TypeId} (hB : Blk w g (pcells p) t') (ho : o.op = .load 28 x) (hx : ρ x = .pointer (some ⟨g, 0, none⟩)) : (execOp ρ o).run Tryd.prog w = .ok (.value (.agg (pcells p).toArray)) w :=
  ex_ld (ty := 28) (cs := pcells p) ho hx (rng_all hB) Tryd.underlying28 rfl (by rw [sizeP, pcells_length hp])
theorem rng_elem {g : Nat} {t' : TypeId} (h : NOK ns) (hB : Blk w g (ncells ns) t') {k : Nat} {p : Pt} (hk : ns[k]? = some p) : w.rangeAt g (41 * k) (pcells p) := by
  obtain ⟨e, hl⟩ := ncells_split h.ok hk
  have := hB.rng _ _ _ e
  rw [hl] at this
  exact this
/-- An element is loaded. -/
theorem ex_ldE {g off : Nat} {t' : TypeId} (h : NOK ns) (hB : Blk w g (ncells ns) t') {k : Nat} {p : Pt} (hk : ns[k]? = some p) (hoff : off = 41 * k) (ho : o.op = .load 28 x) (hx : ρ x = .pointer (some ⟨g, off, none⟩)) : (execOp ρ o).run Tryd.prog w = .ok (.value (.agg (pcells p).toArray)) w := by
  subst hoff
  exact ex_ld (ty := 28) (cs := pcells p) ho hx (rng_elem h hB hk) Tryd.underlying28 rfl (by rw [sizeP, pcells_length (h.at hk)])
theorem ex_bldN (ho : o.op = .build 35 #[]) : (execOp ρ o).run Tryd.prog w = .ok (.value (.agg (ncells holes).toArray)) w := by
  have hr : (Instr.build 35 #[]).run Tryd.prog w = .ok (.agg (ncells holes).toArray) w := run_build w 35 _ _ (by kernel_rfl)
  unfold execOp
  simp only [ho]
  simp only [List.map_toArray, List.map_nil, Sem.run_bind, hr, Result.andThen_ok, Sem.run_pure]
theorem ex_eqN (h : NOK ns) (h' : NOK ms) (ho : o.op = .binOp .eql 35 x y 35) (hx : ρ x = .agg (ncells ns).toArray) (hy : ρ y = .agg (ncells ms).toArray) : (execOp ρ o).run Tryd.prog w = .ok (.value (.bool (decide (ns = ms)))) w := by
  have h := run_eqN Tryd.underlying35 h h' w
  unfold execOp
  simp only [ho]
  go_simp
theorem ex_neN (h : NOK ns) (h' : NOK ms) (ho : o.op = .binOp .neq 35 x y 35) (hx : ρ x = .agg (ncells ns).toArray) (hy : ρ y = .agg (ncells ms).toArray) : (execOp ρ o).run Tryd.prog w = .ok (.value (.bool (!decide (ns = ms)))) w := by
  have h := run_eqN Tryd.underlying35 h h' w
  unfold execOp
  simp only [ho]
  go_simp
end
theorem hole_any (p : Pt) (hp : p.OK) (w : World) : Calls Tryd.prog 19 #[.agg (pcells p).toArray] w fun e w' => e = .returned (.bool (eqP p zeroP)) ∧ Below w.heap.size w w' := by
  have HP := Lib.hid hp
  have HB := Lib.hid (Blk.new w (pcells p) 28)
  have HW : Hid (Below w.heap.size w (w.alloc (.cells (pcells p).toArray 28))) := Lib.hid ((Below.refl _ _).alloc (Nat.le_refl _) _)
  clear hp
  go_enter Tryd.func19, Tryd.ntmps19
  go_wp2_with (first | (refine wpL_val rfl (ex_ldP HP.out HB.out rfl rfl) ?_) | (refine wpL_val rfl (ex_bld0 rfl) ?_) | (refine wpL_val rfl (ex_eqP (p := p) (q := zeroP) rfl rfl rfl HP.out zeroP_ok) ?_) | fail)
  go_ret
  exact ⟨rfl, HW.out⟩
theorem empty_any (ns : List Pt) (h : NOK ns) (w : World) : Calls Tryd.prog 10 #[.agg (ncells ns).toArray] w fun e w' => e = .returned (.bool (decide (ns = holes))) ∧ Below w.heap.size w w' := by
  have HP := Lib.hid h
  have HB := Lib.hid (Blk.new w (ncells ns) 35)
  have HW : Hid (Below w.heap.size w (w.alloc (.cells (ncells ns).toArray 35))) := Lib.hid ((Below.refl _ _).alloc (Nat.le_refl _) _)
  clear h
  go_enter Tryd.func10, Tryd.ntmps10
  go_wp2_with (first | (refine wpL_val rfl (ex_ldN HP.out HB.out rfl rfl) ?_) | (refine wpL_val rfl (ex_bldN rfl) ?_) | (refine wpL_val rfl (ex_eqN HP.out holes_ok rfl rfl rfl) ?_) | fail)
  go_ret
  exact ⟨rfl, HW.out⟩
end Go.Proofs.YtincpdnmaiimnaaDoor
