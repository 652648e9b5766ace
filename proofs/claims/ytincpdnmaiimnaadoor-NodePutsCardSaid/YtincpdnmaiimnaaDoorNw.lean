/- A node that is known: wakes. -/
import Derived.Test.YtincpdnmaiimnaaDoorNg
namespace Go.Proofs.YtincpdnmaiimnaaDoor
open Go.RowKit

def kp : Pt := ⟨1, 0, 5, 0, 0, List.replicate 32 0#8, [1, 0, 0, 0]⟩
theorem kp_ok : kp.OK := ⟨by simp [kp], by simp [kp], by simp [kp], by simp [kp], by simp [kp], by simp [kp], by simp [kp], by simp [kp]⟩
def kn : List Pt := List.replicate 7 zeroP ++ [kp]
theorem kn_with : withN holes 7 kp = kn := rfl
theorem kn_ok : NOK kn := by rw [← kn_with]; exact withN_ok holes_ok 7 kp_ok
theorem kn_put : putOk kn = true := by decide
def kb : Bs := nodeB kn
theorem kb_len : kb.length = 512 := by unfold kb; rw [nodeB_length kn_ok.ok, kn_ok.len]
theorem zeros_B : ∀ n, (List.replicate n zeroP).flatMap padB = List.replicate (64 * n) 0#8
  | 0 => rfl
  | n + 1 => by rw [List.replicate_succ, List.flatMap_cons, padB_zero, zeros_B n, List.replicate_append_replicate]; congr 1; omega
theorem kb_eq : kb = List.replicate 448 0#8 ++ padB kp := by
  show nodeB _ = _
  unfold nodeB kn
  rw [List.flatMap_append]
  rw [zeros_B 7, List.flatMap_cons, List.flatMap_nil, List.append_nil]
theorem kb_take : kb.take 448 = List.replicate 448 0#8 := by rw [kb_eq, List.take_left' List.length_replicate]
theorem kb_448 : kb.getD 448 0 = 1#8 := by
  rw [kb_eq, List.getD_eq_getElem?_getD, List.getElem?_append_right (by rw [List.length_replicate]; omega), List.length_replicate]
  rfl
theorem kn_E : nodeE kb = 0 := (put_back kn_ok kn_put).1
theorem kn_T : nodeT kb = kn := (put_back kn_ok kn_put).2
theorem kn_len : lenN kn = 1 := by decide
theorem kn_empty : decide (kn = holes) = false := by decide
def z448 : Bs := List.replicate 448 0#8
theorem z448_cells : (List.replicate 448 (Value.int .u8 0)) = z448.map V8 := by
  unfold z448
  rw [List.map_replicate]
  rfl
theorem z448_len : z448.length = 448 := List.length_replicate
theorem ex_mk448 {ρ : Operand → Value} {o : Oper} {w : World} (ho : o.op = .makeSlice 30 (.const (.int .i64 448)) (.const (.int .i64 448))) (h1 : ρ (.const (.int .i64 448)) = .int .i64 448) : (execOp ρ o).run Tryd.prog w = .ok (.value (.slice (some ⟨w.heap.size, 0, none⟩) 448 448)) (w.alloc (.cells (z448.map V8).toArray 5)) := by
  obtain ⟨i0, hi, hz0, hz1, hz2⟩ := info_parts infoB
  have hrun := run_make (P := Tryd.prog) w 30 5 i0 (.int .u8 0) Tryd.underlying30 hi hz0 .i64 .i64 448 448 (by omega) (by omega) (by rw [hz2]; decide) (by decide)
  have e : madeCells (Value.int .u8 0).cells (448 * i0.size) = (z448.map V8).toArray := by
    apply Array.toList_inj.1
    rw [hz1]
    show (madeCells #[Value.int .u8 0] 448).toList = _
    rw [toList_madeCells_one, ← z448_cells]
  unfold execOp
  simp [ho, h1, hrun, Result.andThen]
  exact congrArg (fun c => w.alloc (.cells c 5)) e
theorem ex_eqSt {ρ : Operand → Value} {o : Oper} {x y : Operand} {k : TypeId} {a : Bs} {w : World} (ho : o.op = .binOp .eql 9 x y k) (hx : ρ x = .string (bstr a)) (hy : ρ y = .string (bstr a)) : (execOp ρ o).run Tryd.prog w = .ok (.value (.bool true)) w := by
  have h := ex_eql (w := w) ho hx hy
  rw [decide_eq_true rfl] at h
  exact h
theorem ex_eqNs {ρ : Operand → Value} {o : Oper} {x y : Operand} {w : World} {ns : List Pt} (h : NOK ns) (ho : o.op = .binOp .eql 35 x y 35) (hx : ρ x = .agg (ncells ns).toArray) (hy : ρ y = .agg (ncells ns).toArray) : (execOp ρ o).run Tryd.prog w = .ok (.value (.bool true)) w := by
  have h := ex_eqN (w := w) h h ho hx hy
  rw [decide_eq_true rfl] at h
  exact h
/-- What wakes holds. -/
structure WkN (w : World) (g2 g5 g o : Nat) (X : World) : Prop where
  a : Blk X g2 (ncells kn) 35
  b : Blk X g5 (ncells kn) 35
  src : g < X.heap.size ∧ ∀ j, j < kb.length → X.cell? ⟨g, o + j, none⟩ = some (V8 (kb.getD j 0))
  bel : Below w.heap.size w X
theorem WkN.grown {w X Y : World} {g2 g5 g o : Nat} (h : WkN w g2 g5 g o X) (hb : Below X.heap.size X Y) : WkN w g2 g5 g o Y :=
  ⟨h.a.below hb h.a.lt, h.b.below hb h.b.lt, ⟨Nat.lt_of_lt_of_le h.src.1 hb.size, fun j hj => (hb.cell (p := ⟨g, o + j, none⟩) h.src.1).trans (h.src.2 j hj)⟩, h.bel.trans (hb.mono h.bel.size)⟩
theorem WkN.drew {w X : World} {g2 g5 g o : Nat} (h : WkN w g2 g5 g o X) : WkN w g2 g5 g o X.drew := h.grown (Below.refl _ _).drew
theorem WkN.z {w X : World} {g2 g5 g o : Nat} (h : WkN w g2 g5 g o X) : SrcA X (some ⟨g, o, none⟩) z448 := fun _ => ⟨g, o, rfl, h.src.1, fun j hj => by
  rw [z448_len] at hj
  rw [h.src.2 j (by rw [kb_len]; omega)]
  have e : kb.getD j 0 = (kb.take 448).getD j 0 := by simp [List.getD_eq_getElem?_getD, hj]
  rw [e, kb_take]
  rfl⟩
theorem WkN.c {w X : World} {g2 g5 g o : Nat} (h : WkN w g2 g5 g o X) : X.cell? ⟨g, o + 448, none⟩ = some (.int .u8 1) := by
  have h1 := h.src.2 448 (by rw [kb_len]; omega)
  rw [kb_448] at h1
  exact h1
theorem src_z448 (w : World) : SrcA (w.alloc (.cells (z448.map V8).toArray 5)) (some ⟨w.heap.size, 0, none⟩) z448 := fun _ => ⟨_, 0, rfl, by simp, fun j hj => by rw [Nat.zero_add]; exact (Blk.new w (z448.map V8) 5).cell (get_map V8 z448 j hj 0)⟩
set_option maxRecDepth 100000 in
set_option maxHeartbeats 8000000 in
theorem nwakes_any (w : World) (hT : RTab w) : Calls Tryd.prog 9 #[] w fun e w' => e = .returned (.bool true) ∧ Below w.heap.size w w' := by
  have HT := Lib.hid hT
  clear hT
  have HSP := Lib.hid (size_pc kp_ok)
  have HSN := Lib.hid (size_nc kn_ok)
  have HSA : Hid ((ncells kn).toArray.size = 328) := Lib.hid kn_ok.size
  have HON := Lib.hid (ncells_one kn_ok.ok)
  go_enter Tryd.func9, Tryd.ntmps9
  go_upto_region 2 with (first | (refine wpList_build' rfl 28 _ rfl (pcells kp).toArray (by kernel_rfl) ?_) | (refine wpList_store_row rfl 28 (.tmp 1) (.tmp 8) rfl w.heap.size (pcells kp).toArray rfl rfl 28 _ (heap_alloc_new w _) HSP.out rfl (one_pc kp) ?_) | fail)
  refine (fun (k : ∀ W, Blk W w.heap.size (pcells kp) 28 → Below w.heap.size w W → Code.wp _ _ _ _ W) => k _ (blk_row1 w _ (pcells kp) 28).1 (blk_row1 w _ (pcells kp) 28).2) ?_
  intro W1 hb1 hw1
  have HB1 := Lib.hid hb1; have HW1 := Lib.hid hw1
  clear hb1 hw1
  go_wp2_with (first | (refine wpL_val rfl (ex_bldN rfl) ?_) | (refine wpL_val rfl (ex_ldP kp_ok HB1.out rfl rfl) ?_) | fail)
  refine (with_any holes holes_ok 7 kp kp_ok W1).mono ?_
  rw [kn_with]
  rintro e W2 ⟨rfl, hb2⟩
  have HB2 := Lib.hid (HW1.out.trans (hb2.mono HW1.out.size))
  clear hb2 HB1 HW1
  go_upto_region 3 with (first | (refine wpList_store_row rfl 35 (.tmp 2) (.tmp 11) rfl W2.heap.size (ncells kn).toArray rfl rfl 35 _ (heap_alloc_new W2 _) HSN.out (by rw [HSA.out]; rfl) HON.out ?_) | fail)
  refine (fun (k : ∀ W, Blk W W2.heap.size (ncells kn) 35 → Below W2.heap.size W2 W → Code.wp _ _ _ _ W) => k _ (blk_row1 W2 _ (ncells kn) 35).1 (blk_row1 W2 _ (ncells kn) 35).2) ?_
  intro W3 hb3 hw3
  obtain ⟨g2, hg2⟩ : ∃ g, W2.heap.size = g := ⟨_, rfl⟩
  have HW3 := Lib.hid (HB2.out.trans (hw3.mono HB2.out.size))
  rw [hg2] at hb3 ⊢
  have HB3 := Lib.hid hb3
  clear hb3 hw3 hg2 HB2
  go_wp2_with (first | (refine wpL_val rfl (ex_ldN kn_ok HB3.out rfl rfl) ?_) | fail)
  refine (nodePut_any kn kn_ok W3 (HT.out.grown HW3.out)).mono ?_
  rintro e W4 ⟨h4 | h4, hb4⟩
  rotate_left
  · rw [kn_put] at h4; cases h4.1
  obtain ⟨-, v4, rfl, ho4⟩ := h4
  obtain ⟨sp4, cap4, rfl, q1, q2, q3, q4, q5⟩ := OwnB.form ho4
  obtain ⟨g, o, rfl, q6, q7⟩ := q3 (by show 0 < kb.length; rw [kb_len]; omega)
  have hsrc : g < W4.heap.size ∧ ∀ j, j < kb.length → W4.cell? ⟨g, o + j, none⟩ = some (V8 (kb.getD j 0)) := ⟨q6, q7⟩
  have HS4 := Lib.hid hsrc
  have HW4 := Lib.hid (HW3.out.trans (hb4.mono HW3.out.size))
  have HB4 := Lib.hid (HB3.out.below hb4 HB3.out.lt)
  have e5 : (nodeB kn).length = 512 := kb_len
  have icap : ¬ (cap4 : Int) < 448 := by have : kb.length ≤ cap4 := q1; rw [kb_len] at this; omega
  have htk := nodeTake_any kb (some ⟨g, o, none⟩) cap4 W4 (by simp) q1 (fun _ => ⟨g, o, rfl, q6, q7⟩) (HT.out.grown HW4.out)
  rw [kb_len] at htk
  have HTK := Lib.hid htk
  rw [e5]
  clear ho4 q1 q2 q3 q4 q5 q6 q7 hsrc hb4 e5 htk HW3 HB3
  go_wp2_with fail
  refine HTK.out.mono ?_
  unfold NTakePost
  rw [kn_E, kn_T]
  rintro e W5 ⟨rfl, hb5⟩
  have HW5 := Lib.hid (HW4.out.trans (hb5.mono HW4.out.size))
  have HB5 := Lib.hid (HB4.out.below hb5 HB4.out.lt)
  have HS5 : Hid (g < W5.heap.size ∧ ∀ j, j < kb.length → W5.cell? ⟨g, o + j, none⟩ = some (V8 (kb.getD j 0))) := Lib.hid ⟨Nat.lt_of_lt_of_le HS4.out.1 hb5.size, fun j hj => (hb5.cell (p := ⟨g, o + j, none⟩) HS4.out.1).trans (HS4.out.2 j hj)⟩
  clear hb5 HW4 HB4 HS4 HTK
  go_upto_region 5 with (first | (refine wpList_store_row rfl 35 (.tmp 5) (.tmp 20) rfl W5.heap.size (ncells kn).toArray rfl rfl 35 _ (heap_alloc_new W5 _) HSN.out (by rw [HSA.out]; rfl) HON.out ?_) | fail)
  refine (fun (k : ∀ W, Blk W W5.heap.size (ncells kn) 35 → Below W5.heap.size W5 W → Code.wp _ _ _ _ W) => k _ (blk_row1 W5 _ (ncells kn) 35).1 (blk_row1 W5 _ (ncells kn) 35).2) ?_
  intro W6 hb6 hw6
  obtain ⟨g5, hg5⟩ : ∃ g, W5.heap.size = g := ⟨_, rfl⟩
  have HX : Hid (WkN w g2 W5.heap.size g o W6) := Lib.hid ⟨HB5.out.below hw6 HB5.out.lt, hb6, ⟨Nat.lt_of_lt_of_le HS5.out.1 hw6.size, fun j hj => (hw6.cell (p := ⟨g, o + j, none⟩) HS5.out.1).trans (HS5.out.2 j hj)⟩, HW5.out.trans (hw6.mono HW5.out.size)⟩
  rw [hg5] at HX ⊢
  clear hb6 hw6 hg5 HW5 HB5 HS5
  refine wp_region_sched (.take 0 (.take 1 (.take 2 (.take 3 (.take 4 (.take 5 (.take 6 (.take 7 (.take 8 (.take 9 (.take 10 (.step 11 (.take 12 (.take 13 (.take 14 (.take 15 (.take 16 (.take 17 (.take 18 (.take 19 (.take 20 (.take 21 (.take 22 (.take 23 (.take 24 (.take 25 (.take 26 (.take 27 (.take 28 (.take 29 (.take 30 (.take 31 (.step 32 (.take 33 (.take 34 (.take 35 (.take 36 (.step 37 (.take 38 (.take 39 (.take 40 (.take 41 (.step 42 (.take 43 (.take 44 (.nil)))))))))))))))))))))))))))))))))))))))))))))) (by kernel_rfl) (by kernel_rfl) (fun d _ _ _ _ h => by cases d <;> exact h) (WkN w g2 g5 g o) HX.out.drew ?_
  refine wpG_take _ (.int .i64 0) rfl (by rfl) (fun X hX => by first | rfl | go_simp) ?_
  (try simp only [Act.put, List.setIfInBounds_toArray, List.set_cons_zero, List.set_cons_succ])
  refine wpG_take _ (.bool true) rfl (by rfl) (fun X hX => by first | rfl | go_simp) ?_
  (try simp only [Act.put, List.setIfInBounds_toArray, List.set_cons_zero, List.set_cons_succ])
  refine wpG_take _ (.bool true) rfl (by rfl) (fun X hX => by first | rfl | go_simp) ?_
  (try simp only [Act.put, List.setIfInBounds_toArray, List.set_cons_zero, List.set_cons_succ])
  refine wpG_take _ (.slice (some ⟨g, o, none⟩) 512 cap4) rfl (by rfl) (fun X hX => by first | rfl | go_simp) ?_
  (try simp only [Act.put, List.setIfInBounds_toArray, List.set_cons_zero, List.set_cons_succ])
  refine wpG_take _ (.int .i64 512) rfl (by rfl) (fun X hX => by first | rfl | go_simp) ?_
  (try simp only [Act.put, List.setIfInBounds_toArray, List.set_cons_zero, List.set_cons_succ])
  refine wpG_take _ (.bool true) rfl (by rfl) (fun X hX => by first | rfl | go_simp) ?_
  (try simp only [Act.put, List.setIfInBounds_toArray, List.set_cons_zero, List.set_cons_succ])
  refine wpG_take _ (.bool true) rfl (by rfl) (fun X hX => by first | rfl | go_simp) ?_
  (try simp only [Act.put, List.setIfInBounds_toArray, List.set_cons_zero, List.set_cons_succ])
  refine wpG_take _ (.bool true) rfl (by rfl) (fun X hX => by first | rfl | go_simp) ?_
  (try simp only [Act.put, List.setIfInBounds_toArray, List.set_cons_zero, List.set_cons_succ])
  refine wpG_take _ (.slice (some ⟨g, o, none⟩) 512 cap4) rfl (by rfl) (fun X hX => by first | rfl | go_simp) ?_
  (try simp only [Act.put, List.setIfInBounds_toArray, List.set_cons_zero, List.set_cons_succ])
  refine wpG_take _ (.slice (some ⟨g, o, none⟩) 448 cap4) rfl (by rfl) (fun X hX => by first | rfl | go_simp) ?_
  (try simp only [Act.put, List.setIfInBounds_toArray, List.set_cons_zero, List.set_cons_succ])
  refine wpG_take _ (.string (bstr z448)) rfl (by rfl) (fun X hX => ex_cvs rfl z448_len rfl hX.z) ?_
  (try simp only [Act.put, List.setIfInBounds_toArray, List.set_cons_zero, List.set_cons_succ])
  have hz4 := (HX.out.drew).grown ((Below.refl W6.drew.heap.size W6.drew).alloc (Nat.le_refl _) (.cells (z448.map V8).toArray 5))
  have hsz := src_z448 W6.drew
  refine wpG_mk _ rfl (by rfl) _ _ (ex_mk448 rfl rfl) (fun X => WkN w g2 g5 g o X ∧ SrcA X (some ⟨W6.drew.heap.size, 0, none⟩) z448) ⟨hz4, hsz⟩ (fun _ h => h.1) ?_
  (try simp only [Act.put, List.setIfInBounds_toArray, List.set_cons_zero, List.set_cons_succ])
  refine wpG_take _ (.string (bstr z448)) rfl (by rfl) (fun X hX => ex_cvs rfl z448_len rfl hX.2) ?_
  (try simp only [Act.put, List.setIfInBounds_toArray, List.set_cons_zero, List.set_cons_succ])
  refine wpG_take _ (.bool true) rfl (by rfl) (fun X hX => ex_eqSt rfl rfl rfl) ?_
  (try simp only [Act.put, List.setIfInBounds_toArray, List.set_cons_zero, List.set_cons_succ])
  refine wpG_take _ (.bool true) rfl (by rfl) (fun X hX => by first | rfl | go_simp) ?_
  (try simp only [Act.put, List.setIfInBounds_toArray, List.set_cons_zero, List.set_cons_succ])
  refine wpG_take _ (.bool true) rfl (by rfl) (fun X hX => by first | rfl | go_simp) ?_
  (try simp only [Act.put, List.setIfInBounds_toArray, List.set_cons_zero, List.set_cons_succ])
  refine wpG_take _ (.slice (some ⟨g, o, none⟩) 512 cap4) rfl (by rfl) (fun X hX => by first | rfl | go_simp) ?_
  (try simp only [Act.put, List.setIfInBounds_toArray, List.set_cons_zero, List.set_cons_succ])
  refine wpG_take _ (.pointer (some ⟨g, o + 448, none⟩)) rfl (by rfl) (fun X hX => by first | rfl | go_simp) ?_
  (try simp only [Act.put, List.setIfInBounds_toArray, List.set_cons_zero, List.set_cons_succ])
  refine wpG_take _ (.int .u8 1) rfl (by rfl) (fun X hX => ex_ld1 Tryd.underlying5 rfl rfl hX.1.c) ?_
  (try simp only [Act.put, List.setIfInBounds_toArray, List.set_cons_zero, List.set_cons_succ])
  refine wpG_take _ (.bool true) rfl (by rfl) (fun X hX => by first | rfl | go_simp) ?_
  (try simp only [Act.put, List.setIfInBounds_toArray, List.set_cons_zero, List.set_cons_succ])
  refine wpG_take _ (.bool true) rfl (by rfl) (fun X hX => by first | rfl | go_simp) ?_
  (try simp only [Act.put, List.setIfInBounds_toArray, List.set_cons_zero, List.set_cons_succ])
  refine wpG_take _ (.bool true) rfl (by rfl) (fun X hX => by first | rfl | go_simp) ?_
  (try simp only [Act.put, List.setIfInBounds_toArray, List.set_cons_zero, List.set_cons_succ])
  refine wpG_take _ (.int .i64 0) rfl (by rfl) (fun X hX => by first | rfl | go_simp) ?_
  (try simp only [Act.put, List.setIfInBounds_toArray, List.set_cons_zero, List.set_cons_succ])
  refine wpG_take _ (.bool true) rfl (by rfl) (fun X hX => by first | rfl | go_simp) ?_
  (try simp only [Act.put, List.setIfInBounds_toArray, List.set_cons_zero, List.set_cons_succ])
  refine wpG_take _ (.bool true) rfl (by rfl) (fun X hX => by first | rfl | go_simp) ?_
  (try simp only [Act.put, List.setIfInBounds_toArray, List.set_cons_zero, List.set_cons_succ])
  refine wpG_take _ (.bool true) rfl (by rfl) (fun X hX => by first | rfl | go_simp) ?_
  (try simp only [Act.put, List.setIfInBounds_toArray, List.set_cons_zero, List.set_cons_succ])
  refine wpG_take _ (.agg (ncells kn).toArray) rfl (by rfl) (fun X hX => ex_ldN kn_ok hX.1.b rfl rfl) ?_
  (try simp only [Act.put, List.setIfInBounds_toArray, List.set_cons_zero, List.set_cons_succ])
  refine wpG_take _ (.agg (ncells kn).toArray) rfl (by rfl) (fun X hX => ex_ldN kn_ok hX.1.a rfl rfl) ?_
  (try simp only [Act.put, List.setIfInBounds_toArray, List.set_cons_zero, List.set_cons_succ])
  refine wpG_take _ (.bool true) rfl (by rfl) (fun X hX => ex_eqNs kn_ok rfl rfl rfl) ?_
  (try simp only [Act.put, List.setIfInBounds_toArray, List.set_cons_zero, List.set_cons_succ])
  refine wpG_take _ (.bool true) rfl (by rfl) (fun X hX => by first | rfl | go_simp) ?_
  (try simp only [Act.put, List.setIfInBounds_toArray, List.set_cons_zero, List.set_cons_succ])
  refine wpG_take _ (.bool true) rfl (by rfl) (fun X hX => by first | rfl | go_simp) ?_
  (try simp only [Act.put, List.setIfInBounds_toArray, List.set_cons_zero, List.set_cons_succ])
  refine wpG_take _ (.agg (ncells kn).toArray) rfl (by rfl) (fun X hX => ex_ldN kn_ok hX.1.a rfl rfl) ?_
  (try simp only [Act.put, List.setIfInBounds_toArray, List.set_cons_zero, List.set_cons_succ])
  have hl6 := len_any kn kn_ok (W6.drew.alloc (.cells (z448.map V8).toArray 5))
  rw [kn_len] at hl6
  refine wpG_call _ rfl (by rfl) 11 #[.agg (ncells kn).toArray] (fun _ => by go_simp) (fun u _ => u = .int .i64 1) (hl6.mono fun e w' ⟨e1, e2⟩ => ⟨_, e1, ⟨hz4.grown e2, hsz.grown e2⟩, rfl⟩) ?_
  rintro u X7 hs7 rfl
  refine ⟨fun X => WkN w g2 g5 g o X ∧ SrcA X (some ⟨W6.drew.heap.size, 0, none⟩) z448, fun _ h => h, hs7, ?_⟩
  (try simp only [Act.put, List.setIfInBounds_toArray, List.set_cons_zero, List.set_cons_succ])
  refine wpG_take _ (.bool true) rfl (by rfl) (fun X hX => by first | rfl | go_simp) ?_
  (try simp only [Act.put, List.setIfInBounds_toArray, List.set_cons_zero, List.set_cons_succ])
  refine wpG_take _ (.bool true) rfl (by rfl) (fun X hX => by first | rfl | go_simp) ?_
  (try simp only [Act.put, List.setIfInBounds_toArray, List.set_cons_zero, List.set_cons_succ])
  refine wpG_take _ (.bool true) rfl (by rfl) (fun X hX => by first | rfl | go_simp) ?_
  (try simp only [Act.put, List.setIfInBounds_toArray, List.set_cons_zero, List.set_cons_succ])
  refine wpG_take _ (.agg (ncells kn).toArray) rfl (by rfl) (fun X hX => ex_ldN kn_ok hX.1.a rfl rfl) ?_
  (try simp only [Act.put, List.setIfInBounds_toArray, List.set_cons_zero, List.set_cons_succ])
  have hl7 := empty_any kn kn_ok X7
  rw [kn_empty] at hl7
  refine wpG_call _ rfl (by rfl) 10 #[.agg (ncells kn).toArray] (fun _ => by go_simp) (fun u _ => u = .bool false) (hl7.mono fun e w' ⟨e1, e2⟩ => ⟨_, e1, ⟨hs7.1.grown e2, hs7.2.grown e2⟩, rfl⟩) ?_
  rintro u X8 hs8 rfl
  refine ⟨fun X => WkN w g2 g5 g o X ∧ SrcA X (some ⟨W6.drew.heap.size, 0, none⟩) z448, fun _ h => h, hs8, ?_⟩
  (try simp only [Act.put, List.setIfInBounds_toArray, List.set_cons_zero, List.set_cons_succ])
  refine wpG_take _ (.bool true) rfl (by rfl) (fun X hX => by first | rfl | go_simp) ?_
  (try simp only [Act.put, List.setIfInBounds_toArray, List.set_cons_zero, List.set_cons_succ])
  refine wpG_take _ (.bool true) rfl (by rfl) (fun X hX => by first | rfl | go_simp) ?_
  (try simp only [Act.put, List.setIfInBounds_toArray, List.set_cons_zero, List.set_cons_succ])
  refine wpG_take _ (.bool true) rfl (by rfl) (fun X hX => by first | rfl | go_simp) ?_
  (try simp only [Act.put, List.setIfInBounds_toArray, List.set_cons_zero, List.set_cons_succ])
  refine wpG_take _ (.agg (ncells holes).toArray) rfl (by rfl) (fun X hX => ex_bldN rfl) ?_
  (try simp only [Act.put, List.setIfInBounds_toArray, List.set_cons_zero, List.set_cons_succ])
  have hl8 := empty_any holes holes_ok X8
  rw [decide_eq_true rfl] at hl8
  refine wpG_call _ rfl (by rfl) 10 #[.agg (ncells holes).toArray] (fun _ => by go_simp) (fun u _ => u = .bool true) (hl8.mono fun e w' ⟨e1, e2⟩ => ⟨_, e1, ⟨hs8.1.grown e2, hs8.2.grown e2⟩, rfl⟩) ?_
  rintro u X9 hs9 rfl
  refine ⟨fun X => WkN w g2 g5 g o X ∧ SrcA X (some ⟨W6.drew.heap.size, 0, none⟩) z448, fun _ h => h, hs9, ?_⟩
  (try simp only [Act.put, List.setIfInBounds_toArray, List.set_cons_zero, List.set_cons_succ])
  refine wpG_take _ (.bool true) rfl (by rfl) (fun X hX => by first | rfl | go_simp) ?_
  (try simp only [Act.put, List.setIfInBounds_toArray, List.set_cons_zero, List.set_cons_succ])
  refine wpG_take _ (.bool true) rfl (by rfl) (fun X hX => by first | rfl | go_simp) ?_
  (try simp only [Act.put, List.setIfInBounds_toArray, List.set_cons_zero, List.set_cons_succ])
  refine wpG_nil ?_
  have HBE := Lib.hid hs9.1.bel
  clear hs7 hs8 hs9 hl6 hl7 hl8 hz4 hsz HX
  go_wp2_with fail
  go_ret
  exact ⟨rfl, HBE.out⟩
end Go.Proofs.YtincpdnmaiimnaaDoor
