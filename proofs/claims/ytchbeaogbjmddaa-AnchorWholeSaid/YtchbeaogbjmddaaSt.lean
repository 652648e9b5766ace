/- The cell: stored. -/
import Derived.Test.YtchbeaogbjmddaaCe
namespace Go.Proofs.Ytchbeaogbjmddaa
open Go.RowKit

theorem box29 (w : World) (a : An) : Blk (w.alloc (.cells (acells a).toArray 29)) w.heap.size (acells a) 29 ∧ Below w.heap.size w (w.alloc (.cells (acells a).toArray 29)) := ⟨Blk.new _ _ _, (Below.refl _ _).alloc (Nat.le_refl _) _⟩
theorem store_nil (a : An) (w : World) : Calls Try.prog 15 #[.pointer none, .agg (acells a).toArray] w fun e w' => e = .returned (.int .i64 2) ∧ Below w.heap.size w w' := by
  have H2 := Lib.hid (box29 w a).2
  go_enter Try.func15, Try.ntmps15
  go_wp2
  go_ret
  exact ⟨rfl, H2.out⟩
theorem run_field29 (a : An) (w : World) : (Instr.field 29 (.agg (acells a).toArray) 0).run Try.prog w = .ok (.int .u64 (a.gen : Int)) w := by
  have hag : (isAgg 22).run Try.prog w = .ok false w := by
    unfold isAgg
    rw [Sem.run_bind, run_underlying Try.underlying22 w]; rfl
  unfold Instr.field
  rw [Sem.run_bind, run_underlying Try.underlying29 w, Result.andThen_ok]
  have hc : (acells a).toArray[0]? = some (.int .u64 (a.gen : Int)) := by simp [acells]
  show (Go.part 22 (acells a).toArray 0).run Try.prog w = _
  unfold Go.part
  simp only [Sem.run_bind, hag, Result.andThen_ok, hc]
  rfl
theorem ex_field29 {ρ : Operand → Value} {o : Oper} {x : Operand} {a : An} {w : World} (ho : o.op = .field 29 x 0) (hx : ρ x = .agg (acells a).toArray) : (execOp ρ o).run Try.prog w = .ok (.value (.int .u64 (a.gen : Int))) w := by
  have hr := run_field29 a w
  unfold execOp
  simp only [ho, hx, Sem.run_bind, hr, Result.andThen_ok, Sem.run_pure]
theorem ex_leq22 {ρ : Operand → Value} {o : Oper} {x y : Operand} {m n : Nat} {w : World} (ho : o.op = .binOp .leq 22 x y 22) (hx : ρ x = .int .u64 (m : Int)) (hy : ρ y = .int .u64 (n : Int)) : (execOp ρ o).run Try.prog w = .ok (.value (.bool (decide (m ≤ n)))) w := by
  unfold execOp
  simp only [ho]
  go_simp
/-- What Store comes to: its error, the bytes, the power. -/
def storeR (l : Bs) (p : Pw) (a : An) : Int × Bs × Pw :=
  if a.gen ≤ (tkA l).gen then (1, l, p) else if p.step.1 = false then (3, l, p.step.2) else (0, pad a, p.step.2)
def Stored (D Q : Nat) (r : Int × Bs × Pw) (w : World) (e : Ending) (w' : World) : Prop :=
  e = .returned (.int .i64 r.1) ∧ CelAt w' D Q r.2.1 ∧ PwAt w' Q r.2.2 ∧ Chg (fun k => k = D ∨ k = Q) w w'
/-- The cell's bytes put anew. -/
theorem CelAt.put {w : World} {D Q : Nat} {l m : Bs} (h : CelAt w D Q l) (hm : m.length = 64) : CelAt (w.setCells D 1 (m.map V8)) D Q m ∧ Chg (fun k => k = D) w (w.setCells D 1 (m.map V8)) := by
  have hl := h.len
  have h1 := blk_setCells D 65 (m.map V8) 1 w (ccells Q l) h.blk (by simp [ccells, hm, hl])
  have e : (ccells Q l).take 1 ++ m.map V8 ++ (ccells Q l).drop (1 + (m.map V8).length) = ccells Q m := by
    have : (ccells Q l).drop (1 + (m.map V8).length) = [] := List.drop_eq_nil_of_le (by simp [ccells, hm, hl])
    rw [this]
    simp [ccells]
  rw [e] at h1
  have hb : ButFor D w (w.setCells D 1 (m.map V8)) := ButFor.sets _ _ _ (ButFor.refl _ _)
  exact ⟨⟨h1, hm⟩, ⟨hb.os, hb.tape, hb.output, hb.size, fun k hk hn => hb.block k hk hn⟩⟩
set_option maxRecDepth 100000 in
set_option maxHeartbeats 4000000 in
theorem store_any (D Q : Nat) (hDQ : D ≠ Q) (l : Bs) (p : Pw) (a : An) (ha : a.OK) (w : World) (h : CelAt w D Q l) (hp : PwAt w Q p) : Calls Try.prog 15 #[.pointer (some ⟨D, 0, none⟩), .agg (acells a).toArray] w (Stored D Q (storeR l p a) w) := by
  obtain ⟨h1, h2⟩ := box29 w a
  have HA := Lib.hid ha
  have H1 := Lib.hid h1
  have H2 := Lib.hid h2
  have hcel := h.chg (F := fun _ => False) (Chg.of_below h2) (fun h => h)
  have HC := Lib.hid hcel
  have HP := Lib.hid (hp.chg (F := fun _ => False) (Chg.of_below h2) (fun h => h))
  have c0 := hcel.c0
  have hDl := h.blk.lt
  have hQl := hp.blk.lt
  have HLL := Lib.hid h.len
  have HOK := Lib.hid (tkA_ok h.len)
  clear ha h1 h2 hcel h hp
  go_enter Try.func15, Try.ntmps15
  go_wp2_with fail
  refine wp_region_sched (.take 0 (.take 1 (.take 2 (.step 3 (.take 4 (.take 5 (.take 6 (.nil)))))))) (by kernel_rfl) (by kernel_rfl) (fun d _ _ _ _ h => by cases d <;> exact h) (fun X => Blk X w.heap.size (acells a) 29) H1.out.drew ?_
  refine wpG_take _ (.pointer (some ⟨w.heap.size, 0, none⟩)) rfl (by rfl) (fun X hX => ex_fa29 0 0 (by omega) rfl rfl) ?_
  (try simp only [Act.put, List.setIfInBounds_toArray, List.set_cons_zero, List.set_cons_succ])
  refine wpG_take _ (.int .u64 (a.gen : Int)) rfl (by rfl) (fun X hX => ex_ld22 rfl rfl (hX.cell rfl)) ?_
  (try simp only [Act.put, List.setIfInBounds_toArray, List.set_cons_zero, List.set_cons_succ])
  refine wpG_take _ (.pointer (some ⟨D, 0, none⟩)) rfl (by rfl) (fun X hX => by first | rfl | go_simp) ?_
  (try simp only [Act.put, List.setIfInBounds_toArray, List.set_cons_zero, List.set_cons_succ])
  refine wpG_call _ rfl (by rfl) 16 #[.pointer (some ⟨D, 0, none⟩)] (fun _ => by go_simp) (fun u w' => u = .agg (acells (tkA l)).toArray ∧ Below (w.alloc (.cells (acells a).toArray 29)).heap.size (w.alloc (.cells (acells a).toArray 29)) w') ((load_any D Q l (w.alloc (.cells (acells a).toArray 29)).drew (HC.out.chg (F := fun _ => False) (Chg.of_below (Below.refl _ _).drew) (fun h => h))).mono fun e w' ⟨e1, e2⟩ => ⟨_, e1, H1.out.drew.below e2 H1.out.lt, rfl, (Below.refl _ _).drew.trans e2⟩) ?_
  rintro u w2 hs2 ⟨rfl, hb2⟩
  refine ⟨_, fun _ h => h, hs2, ?_⟩
  (try simp only [Act.put, List.setIfInBounds_toArray, List.set_cons_zero, List.set_cons_succ])
  refine wpG_take _ (.int .u64 ((tkA l).gen : Int)) rfl (by rfl) (fun X hX => ex_field29 rfl rfl) ?_
  (try simp only [Act.put, List.setIfInBounds_toArray, List.set_cons_zero, List.set_cons_succ])
  refine wpG_take _ (.bool (decide (a.gen ≤ (tkA l).gen))) rfl (by rfl) (fun X hX => ex_leq22 rfl rfl rfl) ?_
  (try simp only [Act.put, List.setIfInBounds_toArray, List.set_cons_zero, List.set_cons_succ])
  refine wpG_take _ (.bool (decide (a.gen ≤ (tkA l).gen))) rfl (by rfl) (fun X hX => by first | rfl | go_simp) ?_
  (try simp only [Act.put, List.setIfInBounds_toArray, List.set_cons_zero, List.set_cons_succ])
  refine wpG_nil ?_
  have HS2 := Lib.hid hs2
  have HB2 := Lib.hid (H2.out.trans (hb2.mono H2.out.size))
  have hc2 := HC.out.chg (F := fun _ => False) (Chg.of_below hb2) (fun h => h)
  have HC2 := Lib.hid hc2
  have HP2 := Lib.hid (HP.out.chg (F := fun _ => False) (Chg.of_below hb2) (fun h => h))
  have c2 := hc2.c0
  clear hs2 hb2 hc2 c0 H1 H2 HC HP
  by_cases hg : a.gen ≤ (tkA l).gen
  · have hR : storeR l p a = (1, l, p) := by unfold storeR; rw [if_pos hg]
    have HRR := Lib.hid hR
    rw [decide_eq_true hg]
    clear hg hR
    go_wp2_with fail
    go_ret
    unfold Stored
    rw [HRR.out]
    exact ⟨rfl, HC2.out, HP2.out, Chg.of_below HB2.out⟩
  · rw [decide_eq_false hg]
    have HG := Lib.hid hg
    clear hg
    go_wp2_with fail
    refine (step_any Q p w2 HP2.out).mono ?_
    rintro e w3 ⟨rfl, hp3, hch3⟩
    have hc3 := HC2.out.chg hch3 (fun e => hDQ e)
    have c3 := hc3.c0
    have HP3 := Lib.hid hp3
    have HCH3 : Hid (Chg (fun k => k = D ∨ k = Q) w w3) := Lib.hid ((Chg.of_below HB2.out).trans' (hch3.mono (fun _ h => .inr h)))
    have HC3 := Lib.hid hc3
    have HS3 := Lib.hid (HS2.out.chg hch3 (by omega))
    clear hp3 hc3 hch3 c2 HC2 HP2 HS2 HB2
    by_cases hst : p.step.1 = false
    · have hR : storeR l p a = (3, l, p.step.2) := by unfold storeR; rw [if_neg HG.out, if_pos hst]
      have HRR := Lib.hid hR
      rw [hst]
      clear hst hR
      go_wp2_with fail
      go_ret
      unfold Stored
      rw [HRR.out]
      exact ⟨rfl, HC3.out, HP3.out, HCH3.out⟩
    · have hst' : p.step.1 = true := by simpa using hst
      have hR : storeR l p a = (0, pad a, p.step.2) := by unfold storeR; rw [if_neg HG.out, if_neg hst]
      have HRR := Lib.hid hR
      rw [hst']
      clear hst hst' hR
      go_wp2_with (first | (refine wpL_val rfl (ex_ld (ty := 29) (cs := acells a) rfl rfl (rng_all HS3.out) Try.underlying29 rfl (by rw [size29, acells_length HA.out])) ?_) | fail)
      refine (put_any a HA.out w3).mono ?_
      rintro e w4 ⟨rfl, hb4⟩
      have hc4 := HC3.out.chg (F := fun _ => False) (Chg.of_below hb4) (fun h => h)
      obtain ⟨k1, k2⟩ := hc4.put (pad_length HA.out)
      have K1 := Lib.hid k1
      have K2 := Lib.hid k2
      have HT4 : Hid (w4.there D 1 64) := Lib.hid (hc4.blk.there 1 64 (by simp [ccells, HLL.out]))
      have HP4 := Lib.hid (HP3.out.chg (F := fun _ => False) (Chg.of_below hb4) (fun h => h))
      have HCH4 : Hid (Chg (fun k => k = D ∨ k = Q) w w4) := Lib.hid (HCH3.out.trans' ((Chg.of_below (F := fun _ => False) hb4).mono (fun _ h => h.elim)))
      have HPL := Lib.hid (pad_length HA.out)
      clear hb4 hc4 k1 k2 c3
      go_wp2_with (first | (refine wpList_store_mid rfl 28 (.tmp 30) (.tmp 28) rfl D 1 ((pad a).map V8).toArray rfl rfl (by have := HT4.out; simpa [HPL.out] using this) (size64 HPL.out) (one64 _) ?_) | fail)
      go_ret
      unfold Stored
      rw [HRR.out]
      exact ⟨rfl, K1.out, HP4.out.chg K2.out (fun e => hDQ e.symm), HCH4.out.trans' (K2.out.mono (fun _ h => .inl h))⟩
end Go.Proofs.Ytchbeaogbjmddaa
