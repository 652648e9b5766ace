/- A cell that is known. -/
import Derived.Test.YtchbeaogbjmddaaEq
namespace Go.Proofs.Ytchbeaogbjmddaa
open Go.RowKit

/-- .. whatever its guard, where that is met. -/
theorem wpL_valG {ops : Array Oper} {rest : List Oper} {o : Oper} {a : Act} {Q : Exit → Act → World → Prop} {w w' : World} {v : Value} (hw : Region.wanted o (yielded ops a.tmps) = true) (hrun : (execOp a.eval o).run Try.prog w = .ok (.value v) w')
    (hK : wpList Try.prog ops Q rest (a.put o.dst v) w') : wpList Try.prog ops Q (o :: rest) a w := by
  unfold wpList
  rw [if_pos hw]
  refine .inl ?_
  unfold Oper.wp
  rw [hrun]
  exact hK
def p0 : Pw := ⟨true, -1⟩
theorem p0_step : p0.step = (true, p0) := by simp [p0, Pw.step]
def a1 : An := ⟨1, List.replicate 32 0#8, [2, 3, 4, 5]⟩
theorem a1_ok : a1.OK := ⟨by simp [a1], by simp [a1], by simp [a1], by simp [a1]⟩
theorem store1 : storeR zero64 p0 a1 = (0, pad a1, p0) := by
  unfold storeR
  rw [show tkA zero64 = zeroA from tkA_zero, if_neg (by decide), if_neg (by rw [p0_step]; decide), p0_step]
theorem store2 : storeR (pad a1) p0 a1 = (1, pad a1, p0) := by
  unfold storeR
  rw [(tkA_pad a1_ok).1, if_pos (Nat.le_refl _)]
theorem blkA (w : World) (z : Array Value) (a : An) : Blk ((w.alloc (.cells z 29)).setRow w.heap.size (acells a).toArray) w.heap.size (acells a) 29 ∧ Below w.heap.size w ((w.alloc (.cells z 29)).setRow w.heap.size (acells a).toArray) :=
  ⟨Blk.row (Blk.new' w z z.toList 29 _ rfl (by simp)) _, below_row ((Below.refl _ _).alloc (Nat.le_refl _) _) (Nat.le_refl _) _⟩
theorem ex_build29z {ρ : Operand → Value} {o : Oper} {w : World} (ho : o.op = .build 29 #[]) : (execOp ρ o).run Try.prog w = .ok (.value (.agg (acells zeroA).toArray)) w := by
  have hr : (Instr.build 29 #[]).run Try.prog w = .ok (.agg (acells zeroA).toArray) w := by kernel_rfl
  unfold execOp
  simp only [ho]
  rw [show (Array.map (fun x : Nat × Operand => (x.1, ρ x.2)) #[]) = #[] by simp]
  simp only [Sem.run_bind, hr, Result.andThen_ok, Sem.run_pure]
set_option maxRecDepth 100000 in
set_option maxHeartbeats 4000000 in
theorem wakes_any (w : World) : Calls Try.prog 10 #[] w fun e w' => e = .returned (.bool true) ∧ Below w.heap.size w w' := by
  go_enter Try.func10, Try.ntmps10
  go_wp2_with fail
  refine (on_any w).mono ?_
  rintro e w1 ⟨Q, rfl, hQ1, hQ2, hp1, hb1⟩
  have HP1 := Lib.hid hp1
  have HB1 := Lib.hid hb1
  clear hp1 hb1
  go_wp2_with fail
  refine (newc_any Q ⟨true, -1⟩ w1 HP1.out rfl).mono ?_
  rintro e w2 ⟨D, rfl, hc2, hD, hb2⟩
  have HC2 := Lib.hid hc2
  have HP2 := Lib.hid (HP1.out.chg (F := fun _ => False) (Chg.of_below hb2) (fun h => h))
  have HB2 := Lib.hid (HB1.out.trans (hb2.mono HB1.out.size))
  have hwD : w.heap.size ≤ D := Nat.le_trans HB1.out.size hD
  clear hc2 hb2 HP1 HB1
  go_wp2_with fail
  refine (load_any D Q zero64 w2 HC2.out).mono ?_
  rw [show tkA zero64 = zeroA from tkA_zero]
  rintro e w3 ⟨rfl, hb3⟩
  have HC3 := Lib.hid (HC2.out.chg (F := fun _ => False) (Chg.of_below hb3) (fun h => h))
  have HP3 := Lib.hid (HP2.out.chg (F := fun _ => False) (Chg.of_below hb3) (fun h => h))
  have HB3 := Lib.hid (HB2.out.trans (hb3.mono HB2.out.size))
  clear hb3 HC2 HP2 HB2
  go_wp2_with (first | (refine wpL_valG (by rfl) (ex_build29z rfl) ?_) | (refine wpL_valG (by rfl) (ex_ne29 (a := zeroA) rfl rfl rfl zeroA_ok) ?_) | (refine wpList_build' rfl 29 #[(0, .const (.int .u64 1)), (2, .tmp 25)] rfl (acells a1).toArray (by rfl) ?_) | (refine wpList_store_row rfl 29 (.tmp 4) (.tmp 26) rfl w3.heap.size (acells a1).toArray rfl rfl 29 _ (heap_alloc_new w3 _) (size29a a1_ok) (by rfl) (one29 _) ?_) | fail)
  refine (fun (k : ∀ W, Blk W w3.heap.size (acells a1) 29 → Below w3.heap.size w3 W → Code.wp _ _ _ _ W) => k _ (blkA w3 _ a1).1 (blkA w3 _ a1).2) ?_
  intro w4 hb4 hbel4
  obtain ⟨g4, hg4⟩ : ∃ g, w3.heap.size = g := ⟨_, rfl⟩
  have hQ3 := HP3.out.blk.lt
  have hD3 := HC3.out.blk.lt
  have hDQ : D ≠ Q := by omega
  have h3 := HB3.out.size
  rw [hg4] at hb4 hQ3 hD3 h3 ⊢
  have HG4 := Lib.hid hb4
  have HC4 := Lib.hid (HC3.out.chg (F := fun _ => False) (Chg.of_below hbel4) (fun h => h))
  have HP4 := Lib.hid (HP3.out.chg (F := fun _ => False) (Chg.of_below hbel4) (fun h => h))
  have HB4 := Lib.hid (HB3.out.trans (hbel4.mono HB3.out.size))
  clear hb4 hbel4 hg4 HC3 HP3 HB3
  refine wp_region_sched (.take 0 (.take 1 (.take 3 (.take 4 (.step 2 (.step 5 (.take 6 (.take 7 (.nil))))))))) (by kernel_rfl) (by kernel_rfl) (fun d _ _ _ _ h => by cases d <;> exact h) (fun X => Blk X g4 (acells a1) 29) HG4.out.drew ?_
  refine wpG_take _ (.pointer (some ⟨D, 0, none⟩)) rfl (by rfl) (fun X hX => by first | rfl | go_simp) ?_
  (try simp only [Act.put, List.setIfInBounds_toArray, List.set_cons_zero, List.set_cons_succ])
  refine wpG_take _ (.agg (acells a1).toArray) rfl (by rfl) (fun X hX => ex_ld rfl rfl (rng_all hX) Try.underlying29 rfl (by rw [size29, acells_length a1_ok])) ?_
  (try simp only [Act.put, List.setIfInBounds_toArray, List.set_cons_zero, List.set_cons_succ])
  refine wpG_take _ (.pointer (some ⟨D, 0, none⟩)) rfl (by rfl) (fun X hX => by first | rfl | go_simp) ?_
  (try simp only [Act.put, List.setIfInBounds_toArray, List.set_cons_zero, List.set_cons_succ])
  refine wpG_take _ (.agg (acells a1).toArray) rfl (by rfl) (fun X hX => ex_ld rfl rfl (rng_all hX) Try.underlying29 rfl (by rw [size29, acells_length a1_ok])) ?_
  (try simp only [Act.put, List.setIfInBounds_toArray, List.set_cons_zero, List.set_cons_succ])
  refine wpG_call _ rfl (by rfl) 15 #[.pointer (some ⟨D, 0, none⟩), .agg (acells a1).toArray] (fun _ => by go_simp) (fun u w' => u = .int .i64 0 ∧ CelAt w' D Q (pad a1) ∧ PwAt w' Q p0 ∧ Chg (fun k => k = D ∨ k = Q) w4.drew w') ((store_any D Q hDQ zero64 p0 a1 a1_ok w4.drew (HC4.out.chg (F := fun _ => False) (Chg.of_below (Below.refl _ _).drew) (fun h => h)) (HP4.out.chg (F := fun _ => False) (Chg.of_below (Below.refl _ _).drew) (fun h => h))).mono fun e w' hh => by rw [store1] at hh; obtain ⟨e1, e2, e3, e4⟩ := hh; exact ⟨_, e1, HG4.out.drew.chg e4 (by omega), rfl, e2, e3, e4⟩) ?_
  rintro u w5 hs5 ⟨rfl, hc5, hp5, hch5⟩
  refine ⟨_, fun _ h => h, hs5, ?_⟩
  (try simp only [Act.put, List.setIfInBounds_toArray, List.set_cons_zero, List.set_cons_succ])
  refine wpG_call _ rfl (by rfl) 15 #[.pointer (some ⟨D, 0, none⟩), .agg (acells a1).toArray] (fun _ => by go_simp) (fun u w' => u = .int .i64 1 ∧ CelAt w' D Q (pad a1) ∧ PwAt w' Q p0 ∧ Chg (fun k => k = D ∨ k = Q) w5 w') ((store_any D Q hDQ (pad a1) p0 a1 a1_ok w5 hc5 hp5).mono fun e w' hh => by rw [store2] at hh; obtain ⟨e1, e2, e3, e4⟩ := hh; exact ⟨_, e1, hs5.chg e4 (by omega), rfl, e2, e3, e4⟩) ?_
  rintro u w6 hs6 ⟨rfl, hc6, hp6, hch6⟩
  refine ⟨_, fun _ h => h, hs6, ?_⟩
  (try simp only [Act.put, List.setIfInBounds_toArray, List.set_cons_zero, List.set_cons_succ])
  refine wpG_take _ (.int .i64 0) rfl (by rfl) (fun X hX => by first | rfl | go_simp) ?_
  (try simp only [Act.put, List.setIfInBounds_toArray, List.set_cons_zero, List.set_cons_succ])
  refine wpG_take _ (.int .i64 1) rfl (by rfl) (fun X hX => by first | rfl | go_simp) ?_
  (try simp only [Act.put, List.setIfInBounds_toArray, List.set_cons_zero, List.set_cons_succ])
  refine wpG_nil ?_
  have hF : ∀ k, (k = D ∨ k = Q) → w.heap.size ≤ k := fun k hk => by omega
  have HB6 := Lib.hid (HB4.out.trans (((Chg.refl (fun k => k = D ∨ k = Q) _).drew.trans' (hch5.trans' hch6)).below hF HB4.out.size))
  have HC6 := Lib.hid hc6
  have HG6 := Lib.hid hs6
  clear hc5 hp5 hch5 hc6 hp6 hch6 hs5 hs6 HG4 HC4 HP4 HB4
  go_wp2_with fail
  refine wp_region_sched (.take 0 (.take 1 (.take 2 (.take 3 (.take 4 (.take 5 (.take 6 (.take 7 (.take 9 (.step 8 (.take 10 (.take 11 (.take 12 (.take 13 (.take 15 (.step 14 (.step 16 (.take 17 (.take 18 (.take 19 (.nil))))))))))))))))))))) (by kernel_rfl) (by kernel_rfl) (fun d _ _ _ _ h => by cases d <;> exact h) (fun X => Blk X g4 (acells a1) 29) HG6.out.drew ?_
  refine wpG_take _ (.int .i64 0) rfl (by rfl) (fun X hX => by first | rfl | go_simp) ?_
  (try simp only [Act.put, List.setIfInBounds_toArray, List.set_cons_zero, List.set_cons_succ])
  refine wpG_take _ (.bool true) rfl (by rfl) (fun X hX => by first | rfl | go_simp) ?_
  (try simp only [Act.put, List.setIfInBounds_toArray, List.set_cons_zero, List.set_cons_succ])
  refine wpG_take _ (.bool true) rfl (by rfl) (fun X hX => by first | rfl | go_simp) ?_
  (try simp only [Act.put, List.setIfInBounds_toArray, List.set_cons_zero, List.set_cons_succ])
  refine wpG_take _ (.int .i64 1) rfl (by rfl) (fun X hX => by first | rfl | go_simp) ?_
  (try simp only [Act.put, List.setIfInBounds_toArray, List.set_cons_zero, List.set_cons_succ])
  refine wpG_take _ (.bool true) rfl (by rfl) (fun X hX => by first | rfl | go_simp) ?_
  (try simp only [Act.put, List.setIfInBounds_toArray, List.set_cons_zero, List.set_cons_succ])
  refine wpG_take _ (.bool true) rfl (by rfl) (fun X hX => by first | rfl | go_simp) ?_
  (try simp only [Act.put, List.setIfInBounds_toArray, List.set_cons_zero, List.set_cons_succ])
  refine wpG_take _ (.bool true) rfl (by rfl) (fun X hX => by first | rfl | go_simp) ?_
  (try simp only [Act.put, List.setIfInBounds_toArray, List.set_cons_zero, List.set_cons_succ])
  refine wpG_take _ (.pointer (some ⟨D, 0, none⟩)) rfl (by rfl) (fun X hX => by first | rfl | go_simp) ?_
  (try simp only [Act.put, List.setIfInBounds_toArray, List.set_cons_zero, List.set_cons_succ])
  refine wpG_take _ (.agg (acells a1).toArray) rfl (by rfl) (fun X hX => ex_ld rfl rfl (rng_all hX) Try.underlying29 rfl (by rw [size29, acells_length a1_ok])) ?_
  (try simp only [Act.put, List.setIfInBounds_toArray, List.set_cons_zero, List.set_cons_succ])
  refine wpG_call _ rfl (by rfl) 16 #[.pointer (some ⟨D, 0, none⟩)] (fun _ => by go_simp) (fun u w' => u = .agg (acells a1).toArray ∧ Below w6.heap.size w6 w') ((load_any D Q (pad a1) w6.drew (HC6.out.chg (F := fun _ => False) (Chg.of_below (Below.refl _ _).drew) (fun h => h))).mono fun e w' hh => by rw [(tkA_pad a1_ok).1] at hh; obtain ⟨e1, e2⟩ := hh; exact ⟨_, e1, HG6.out.drew.below e2 HG6.out.lt, rfl, (Below.refl _ _).drew.trans e2⟩) ?_
  rintro u w7 hs7 ⟨rfl, hb7⟩
  refine ⟨_, fun _ h => h, hs7, ?_⟩
  (try simp only [Act.put, List.setIfInBounds_toArray, List.set_cons_zero, List.set_cons_succ])
  refine wpG_take _ (.bool true) rfl (by rfl) (fun X hX => ex_eq29 (a := a1) rfl rfl rfl a1_ok) ?_
  (try simp only [Act.put, List.setIfInBounds_toArray, List.set_cons_zero, List.set_cons_succ])
  refine wpG_take _ (.bool true) rfl (by rfl) (fun X hX => by first | rfl | go_simp) ?_
  (try simp only [Act.put, List.setIfInBounds_toArray, List.set_cons_zero, List.set_cons_succ])
  refine wpG_take _ (.bool true) rfl (by rfl) (fun X hX => by first | rfl | go_simp) ?_
  (try simp only [Act.put, List.setIfInBounds_toArray, List.set_cons_zero, List.set_cons_succ])
  refine wpG_take _ (.pointer (some ⟨D, 0, none⟩)) rfl (by rfl) (fun X hX => by first | rfl | go_simp) ?_
  (try simp only [Act.put, List.setIfInBounds_toArray, List.set_cons_zero, List.set_cons_succ])
  refine wpG_take _ (.agg (acells a1).toArray) rfl (by rfl) (fun X hX => ex_ld rfl rfl (rng_all hX) Try.underlying29 rfl (by rw [size29, acells_length a1_ok])) ?_
  (try simp only [Act.put, List.setIfInBounds_toArray, List.set_cons_zero, List.set_cons_succ])
  refine wpG_call _ rfl (by rfl) 17 #[.pointer (some ⟨D, 0, none⟩)] (fun _ => by go_simp) (fun u w' => u = .agg ((pad a1).map V8).toArray ∧ Below w6.heap.size w6 w') ((bytes_any D Q (pad a1) w7 (HC6.out.chg (F := fun _ => False) (Chg.of_below hb7) (fun h => h))).mono fun e w' ⟨e1, e2⟩ => ⟨_, e1, hs7.below e2 hs7.lt, rfl, hb7.trans (e2.mono hb7.size)⟩) ?_
  rintro u w8 hs8 ⟨rfl, hb8⟩
  refine ⟨_, fun _ h => h, hs8, ?_⟩
  (try simp only [Act.put, List.setIfInBounds_toArray, List.set_cons_zero, List.set_cons_succ])
  refine wpG_call _ rfl (by rfl) 8 #[.agg (acells a1).toArray] (fun _ => by go_simp) (fun u w' => u = .agg ((pad a1).map V8).toArray ∧ Below w6.heap.size w6 w') ((put_any a1 a1_ok w8).mono fun e w' ⟨e1, e2⟩ => ⟨_, e1, hs8.below e2 hs8.lt, rfl, hb8.trans (e2.mono hb8.size)⟩) ?_
  rintro u w9 hs9 ⟨rfl, hb9⟩
  refine ⟨_, fun _ h => h, hs9, ?_⟩
  (try simp only [Act.put, List.setIfInBounds_toArray, List.set_cons_zero, List.set_cons_succ])
  refine wpG_take _ (.bool true) rfl (by rfl) (fun X hX => ex_eq28 rfl rfl rfl (pad_length a1_ok)) ?_
  (try simp only [Act.put, List.setIfInBounds_toArray, List.set_cons_zero, List.set_cons_succ])
  refine wpG_take _ (.bool true) rfl (by rfl) (fun X hX => by first | rfl | go_simp) ?_
  (try simp only [Act.put, List.setIfInBounds_toArray, List.set_cons_zero, List.set_cons_succ])
  refine wpG_take _ (.bool true) rfl (by rfl) (fun X hX => by first | rfl | go_simp) ?_
  (try simp only [Act.put, List.setIfInBounds_toArray, List.set_cons_zero, List.set_cons_succ])
  refine wpG_nil ?_
  have HB9 := Lib.hid (HB6.out.trans (hb9.mono HB6.out.size))
  clear hs7 hs8 hs9 hb7 hb8 hb9 HB6 HC6 HG6 hF
  go_wp2_with fail
  go_ret
  exact ⟨rfl, HB9.out⟩
end Go.Proofs.Ytchbeaogbjmddaa
