/- Tops: PutTop, TakeTop, the law's own reading of one. -/
import Derived.Test.YtjgjohdeeeoeoaaGreatDoorM40
import Derived.Test.YtjgjohdeeeoeoaaGreatDoorM24
import Derived.Test.YtjgjohdeeeoeoaaGreatDoorM26
import Derived.Test.YtjgjohdeeeoeoaaGreatDoorM06
namespace Go.Proofs.YtjgjohdeeeoeoaaGreatDoor
open Go.RowKit
attribute [local go_sem] Oper.semAt_some
abbrev Tpp := Nat × Pt
def tpc (t : Tpp) : List Value := .int .u64 (t.1 : Int) :: pcells t.2
def Tpp.OK (t : Tpp) : Prop := t.1 < 18446744073709551616 ∧ t.2.OK
def zeroT : Tpp := (0, zeroP)
theorem zeroT_ok : zeroT.OK := ⟨by simp [zeroT], zeroP_ok⟩
theorem tpc_length {t : Tpp} (h : t.2.OK) : (tpc t).length = 42 := by simp [tpc, pcells_length h]
theorem sizeTp : (Tryz.prog.info? 36).map (·.size) = some 42 := by kernel_rfl
theorem size_tp {t : Tpp} (h : t.2.OK) : (Tryz.prog.info? 36).map (·.size) = some (tpc t).toArray.size := by rw [sizeTp, List.size_toArray, tpc_length h]
theorem size_tpl {t : Tpp} (h : t.2.OK) : (Tryz.prog.info? 36).map (·.size) = some (tpc t).length := by rw [sizeTp, tpc_length h]
theorem one_tpc (t : Tpp) : (tpc t).toArray.all (·.oneCell') = true := by
  rw [Array.all_eq_true_iff_forall_mem]
  intro u hu
  simp only [tpc, List.mem_toArray, List.mem_cons] at hu
  rcases hu with rfl | hu
  · rfl
  · exact one_pcells t.2 u hu
def topB (t : Tpp) : Bs := fillOf (leb t.1 8 ++ padB t.2) 512
def ttOk (b : Bs) : Bool := decide (b.length = 512) && (quietP ((b.drop 8).take 64) && fineP (pt (b.drop 8))) && (b.drop 72).all (· == 0#8)
def ttE (b : Bs) : Nat := if ttOk b = true then 0 else 5
def ttV (b : Bs) : Tpp := if ttOk b = true then (val (b.take 8), pt (b.drop 8)) else zeroT
theorem tpre_len {t : Tpp} (h : t.2.OK) : (leb t.1 8 ++ padB t.2).length = 72 := by rw [List.length_append, leb_length, padB_length h]
theorem topB_len {t : Tpp} (h : t.2.OK) : (topB t).length = 512 := by
  unfold topB fillOf
  rw [List.length_append, tpre_len h, List.length_replicate]
  rfl
theorem topB_eq {t : Tpp} (h : t.2.OK) : topB t = leb t.1 8 ++ (padB t.2 ++ List.replicate 440 0#8) := by
  unfold topB fillOf
  rw [tpre_len h, List.append_assoc]
  rfl
theorem top_back {t : Tpp} (h : t.OK) : ttOk (topB t) = fineP t.2 ∧ val ((topB t).take 8) = t.1 ∧ pt ((topB t).drop 8) = t.2 := by
  have hl := topB_len h.2
  rw [topB_eq h.2] at hl ⊢
  have e1 : (leb t.1 8 ++ (padB t.2 ++ List.replicate 440 0#8)).take 8 = leb t.1 8 := List.take_left' (leb_length _ _)
  have e2 : (leb t.1 8 ++ (padB t.2 ++ List.replicate 440 0#8)).drop 8 = padB t.2 ++ List.replicate 440 0#8 := List.drop_left' (leb_length _ _)
  have e3 : (padB t.2 ++ List.replicate 440 0#8).take 64 = padB t.2 := List.take_left' (padB_length h.2)
  have e4 : (leb t.1 8 ++ (padB t.2 ++ List.replicate 440 0#8)).drop 72 = List.replicate 440 0#8 := by
    rw [show 72 = 8 + 64 from rfl, ← List.drop_drop, e2]
    exact List.drop_left' (padB_length h.2)
  have e5 : pt (padB t.2 ++ List.replicate 440 0#8) = t.2 := by
    rw [← pt_takeQ, e3]
    exact (pt_padB h.2).1
  refine ⟨?_, ?_, ?_⟩
  · unfold ttOk
    rw [e2, e3, e4, e5, (pt_padB h.2).2, hl]
    have e6 : (List.replicate 440 0#8).all (· == 0#8) = true := by
      rw [List.all_eq_true]
      intro x hx
      rw [List.eq_of_mem_replicate hx]
      rfl
    rw [e6]
    cases fineP t.2 <;> rfl
  · rw [e1, val_leb]
    have := h.1
    omega
  · rw [e2, e5]
theorem top_take {b : Bs} (h : ttOk b = true) : topB (val (b.take 8), pt (b.drop 8)) = b := by
  unfold ttOk at h
  simp only [Bool.and_eq_true, decide_eq_true_eq] at h
  obtain ⟨⟨hl, hq, hf⟩, hz⟩ := h
  have h64 : ((b.drop 8).take 64).length = 64 := by rw [List.length_take, List.length_drop]; omega
  have e1 : padB (pt (b.drop 8)) = (b.drop 8).take 64 := by
    rw [← pt_takeQ]
    exact (padB_pt h64).2 hq
  have e2 : leb (val (b.take 8)) 8 = b.take 8 := leb_val_of (by rw [List.length_take]; omega)
  have e3 : List.replicate 440 0#8 = b.drop 72 := by
    symm
    rw [List.eq_replicate_iff]
    refine ⟨by rw [List.length_drop]; omega, fun x hx => ?_⟩
    have := List.all_eq_true.1 hz x hx
    simpa using this
  have hok : (pt (b.drop 8)).OK := pt_ok (by rw [List.length_drop]; omega)
  rw [topB_eq hok]
  show leb (val (b.take 8)) 8 ++ (padB (pt (b.drop 8)) ++ List.replicate 440 0#8) = b
  rw [e1, e2, e3]
  have e4 : (b.drop 8).take 64 ++ b.drop 72 = b.drop 8 := by
    have := List.take_append_drop 64 (b.drop 8)
    rw [List.drop_drop] at this
    exact this
  rw [e4, List.take_append_drop]
theorem ttV_ok {b : Bs} : (ttV b).OK := by
  unfold ttV
  split
  · rename_i h
    unfold ttOk at h
    simp only [Bool.and_eq_true, decide_eq_true_eq] at h
    refine ⟨?_, pt_ok (by rw [List.length_drop]; omega)⟩
    have := val_take_lt b 8
    show val (b.take 8) < _
    omega
  · exact zeroT_ok
def lawT (b : Bs) : Tpp := (val (b.take 8), takenP (b.drop 8) 0)
theorem lawT_ok (b : Bs) : (lawT b).OK := by
  refine ⟨?_, takenP_ok _ _⟩
  have := val_take_lt b 8
  show val (b.take 8) < _
  omega
theorem lawT_no {b : Bs} (h : ttOk b = false) (_hl : b.length = 512) : topB (lawT b) ≠ b := fun e => by
  have h1 := (top_back (lawT_ok b)).1
  rw [e, h] at h1
  have h2 : fineP (lawT b).2 = true := by
    show fineP (takenP (b.drop 8) 0) = true
    unfold takenP
    split
    · rename_i h3
      unfold takeE at h3
      split at h3
      · rename_i h4; exact absurd rfl h4
      · split at h3
        · cases h3
        · split at h3
          · rename_i h5
            simp only [Bool.and_eq_true] at h5
            exact h5.2
          · cases h3
    · unfold fineP; rw [eqP_same]; rfl
  rw [h2] at h1
  cases h1
section
variable {ρ : Operand → Value} {o : Oper} {x y : Operand} {w : World}
theorem ex_faT {g j : Nat} (hj : j < 2) (ho : o.op = .fieldAddr 36 x j) (hx : ρ x = .pointer (some ⟨g, 0, none⟩)) : (execOp ρ o).run Tryz.prog w = .ok (.value (.pointer (some ⟨g, j, none⟩))) w := by
  unfold execOp
  simp only [ho]
  match j, hj with
  | 0, _ | 1, _ => go_simp
theorem ex_ldTp {t : Tpp} (h : t.2.OK) {g : Nat} {t' : TypeId} (hB : Blk w g (tpc t) t') (ho : o.op = .load 36 x) (hx : ρ x = .pointer (some ⟨g, 0, none⟩)) : (execOp ρ o).run Tryz.prog w = .ok (.value (.agg (tpc t).toArray)) w :=
  ex_ld (ty := 36) (cs := tpc t) ho hx (rng_all hB) Tryz.underlying36 rfl (by rw [sizeTp, tpc_length h])
theorem builtT0 : Tryz.prog.built 36 [] = some (tpc zeroT).toArray := by kernel_rfl
theorem ex_bldT0 (ho : o.op = .build 36 #[]) : (execOp ρ o).run Tryz.prog w = .ok (.value (.agg (tpc zeroT).toArray)) w := by
  have hr : (Instr.build 36 #[]).run Tryz.prog w = .ok (.agg (tpc zeroT).toArray) w := run_build w 36 _ _ builtT0
  unfold execOp
  simp only [ho]
  rw [show (Array.map (fun x : Nat × Operand => (x.1, ρ x.2)) #[]) = #[] by simp]
  simp only [Sem.run_bind, hr, Result.andThen_ok, Sem.run_pure]
theorem builtTp (parts : List (Nat × Value)) : Tryz.prog.built 36 parts = Instr.fill ((#[(0, 1), (1, 41)] : Array (Nat × Nat))[·]?) (tpc zeroT).toArray parts := by kernel_rfl
theorem ex_bldTp {f : Nat} {p : Pt} (hp : p.OK) (ho : o.op = .build 36 #[(0, x), (1, y)]) (hx : ρ x = .int .u64 (f : Int)) (hy : ρ y = .agg (pcells p).toArray) : (execOp ρ o).run Tryz.prog w = .ok (.value (.agg (tpc (f, p)).toArray)) w := by
  have hl := pcells_length hp
  have hz : (tpc zeroT).toArray.size = 42 := by rw [List.size_toArray]; exact tpc_length zeroP_ok
  have hr : (Instr.build 36 #[(0, .int .u64 (f : Int)), (1, .agg (pcells p).toArray)]).run Tryz.prog w = .ok (.agg (tpc (f, p)).toArray) w := run_build w 36 _ _ (by
    rw [builtTp]
    show Instr.fill _ _ [(0, .int .u64 (f : Int)), (1, .agg (pcells p).toArray)] = _
    rw [fill_oneL (i := 0) (off := 0) (size := 1) rfl rfl (by rw [hz]; omega)]
    have e1 : splice (tpc zeroT).toArray.toList 0 (Value.int .u64 (f : Int)).cells.toList = tpc (f, zeroP) := rfl
    rw [e1, fill_oneL (i := 1) (off := 1) (size := 41) rfl (by simp [Value.cells, hl]) (by rw [List.size_toArray, tpc_length zeroP_ok]; omega)]
    have e2 : splice (tpc (f, zeroP)).toArray.toList 1 (Value.agg (pcells p).toArray).cells.toList = tpc (f, p) := by
      unfold splice
      show (Value.int .u64 (f : Int) :: pcells zeroP).take 1 ++ pcells p ++ (Value.int .u64 (f : Int) :: pcells zeroP).drop (1 + (pcells p).length) = Value.int .u64 (f : Int) :: pcells p
      rw [List.drop_of_length_le (by simp [hl, pcells_length zeroP_ok])]
      simp
    rw [e2]
    rfl)
  unfold execOp
  simp only [ho]
  rw [show (Array.map (fun x : Nat × Operand => (x.1, ρ x.2)) #[(0, x), (1, y)]) = #[(0, .int .u64 (f : Int)), (1, .agg (pcells p).toArray)] by simp [hx, hy]]
  simp only [Sem.run_bind, hr, Result.andThen_ok, Sem.run_pure]
end
theorem fieldsTp : (Tryz.prog.fieldsOf 36).toList.map (fun f => (f.type, f.offset)) = [(22, 0), (28, 1)] := by kernel_rfl
theorem namesTp : ((Tryz.prog.fieldsOf 36).toList.all fun f => f.name != "_") = true := by kernel_rfl
theorem ext_top {x : Tpp} (h : x.2.OK) : (tpc x).toArray.extract 1 (1 + 41) = (pcells x.2).toArray := by
  have := pcells_length h
  simp [tpc, List.extract_toArray, List.extract, this]
  exact List.take_of_length_le (by omega)
def eqAtTp (x y : Tpp) (f : TypeId × Nat) : Bool := match f.2 with | 0 => decide (x.1 = y.1) | _ => eqP x.2 y.2
theorem run_eqTp (d : Nat) {x y : Tpp} (hx : x.2.OK) (hy : y.2.OK) (W : World) : (Op.equalIn (d + 4) 36 (.agg (tpc x).toArray) (.agg (tpc y).toArray)).run Tryz.prog W = .ok (decide (x.1 = y.1) && eqP x.2 y.2) W := by
  rw [run_equalIn_struct W (d + 3) 36 _ _ (by kernel_rfl) (by kernel_rfl)]
  have e : (decide (x.1 = y.1) && eqP x.2 y.2) = (((Tryz.prog.fieldsOf 36).toList.map fun f => (f.type, f.offset)).all (eqAtTp x y)) := by
    rw [fieldsTp]
    simp [eqAtTp]
  rw [e]
  refine eqFields_dec _ _ _ W _ _ (fun f hm => ⟨?_, ?_⟩)
  · have := List.all_eq_true.1 namesTp f hm
    simpa using this
  have h1 : (f.type, f.offset) ∈ (Tryz.prog.fieldsOf 36).toList.map (fun f => (f.type, f.offset)) := List.mem_map.2 ⟨f, hm, rfl⟩
  rw [fieldsTp] at h1
  simp only [List.mem_cons, Prod.mk.injEq, List.not_mem_nil, or_false] at h1
  rcases h1 with ⟨e1, e2⟩ | ⟨e1, e2⟩ <;> rw [e1, e2]
  · refine ⟨_, _, part_one Tryz.underlying22 (v := .int .u64 (x.1 : Int)) rfl W, part_one Tryz.underlying22 (v := .int .u64 (y.1 : Int)) rfl W, ?_⟩
    rw [run_equalIn_int W (d + 2) 22 .u64 .u64 _ _ Tryz.underlying22]
    refine congrArg (fun b => Result.ok b W) ?_
    show _ = decide (x.1 = y.1)
    rw [Bool.eq_iff_iff]
    simp
    omega
  · refine ⟨_, _, part_ptrI _ _ W, part_ptrI _ _ W, ?_⟩
    rw [ext_top hx, ext_top hy]
    exact run_eqPi d hx hy W
theorem ex_eqTp {ρ : Operand → Value} {o : Oper} {a b : Operand} {w : World} {x y : Tpp} (hx : x.2.OK) (hy : y.2.OK) (ho : o.op = .binOp .eql 36 a b 36) (ha : ρ a = .agg (tpc x).toArray) (hb : ρ b = .agg (tpc y).toArray) :
    (execOp ρ o).run Tryz.prog w = .ok (.value (.bool (decide (x.1 = y.1) && eqP x.2 y.2))) w := by
  have h' : (Op.equal 36 (.agg (tpc x).toArray) (.agg (tpc y).toArray)).run Tryz.prog w = .ok (decide (x.1 = y.1) && eqP x.2 y.2) w := run_eqTp 9996 hx hy w
  have hb' : (binOp .eql 36 (.agg (tpc x).toArray) (.agg (tpc y).toArray)).run Tryz.prog w = .ok (.bool (decide (x.1 = y.1) && eqP x.2 y.2)) w := by
    show ((do pure (.bool ((← Op.equal 36 (.agg (tpc x).toArray) (.agg (tpc y).toArray)))) : Sem Value)).run Tryz.prog w = _
    simp only [Sem.run_bind, h', Result.andThen_ok, Sem.run_pure]
  have hg : (eqGuard .eql 36 a b (.agg (tpc x).toArray) (.agg (tpc y).toArray)).run Tryz.prog w = .ok () w := by
    unfold eqGuard
    go_simp
  unfold execOp
  simp only [ho, ha, hb, Sem.run_bind, hg, hb', Result.andThen_ok, Sem.run_pure]
theorem ex_neTp {ρ : Operand → Value} {o : Oper} {a b : Operand} {w : World} {x : Tpp} (hx : x.2.OK) (ho : o.op = .binOp .neq 36 a b 36) (ha : ρ a = .agg (tpc x).toArray) (hb : ρ b = .agg (tpc x).toArray) :
    (execOp ρ o).run Tryz.prog w = .ok (.value (.bool false)) w := by
  have h' : (Op.equal 36 (.agg (tpc x).toArray) (.agg (tpc x).toArray)).run Tryz.prog w = .ok true w := (run_eqTp 9996 hx hx w).trans (by rw [eqP_same]; simp)
  have hb' : (binOp .neq 36 (.agg (tpc x).toArray) (.agg (tpc x).toArray)).run Tryz.prog w = .ok (.bool false) w := by
    show ((do pure (.bool (!(← Op.equal 36 (.agg (tpc x).toArray) (.agg (tpc x).toArray)))) : Sem Value)).run Tryz.prog w = _
    simp only [Sem.run_bind, h', Result.andThen_ok, Sem.run_pure, Bool.not_true]
  have hg : (eqGuard .neq 36 a b (.agg (tpc x).toArray) (.agg (tpc x).toArray)).run Tryz.prog w = .ok () w := by
    unfold eqGuard
    go_simp
  unfold execOp
  simp only [ho, ha, hb, Sem.run_bind, hg, hb', Result.andThen_ok, Sem.run_pure]
set_option maxRecDepth 100000 in
set_option maxHeartbeats 4000000 in
theorem putTop_any (t : Tpp) (h : t.OK) (w : World) : Calls Tryz.prog 10 #[.agg (tpc t).toArray] w (RetOwn (topB t) w) := by
  have HT := Lib.hid h
  have HB0 : Hid (Blk (w.alloc (.cells (tpc t).toArray 36)) w.heap.size (tpc t) 36) := Lib.hid (Blk.new _ _ _)
  have HW0 : Hid (Below w.heap.size w (w.alloc (.cells (tpc t).toArray 36))) := Lib.hid ((Below.refl _ _).alloc (Nat.le_refl _) _)
  generalize hPost : RetOwn (topB t) w = Post
  have HP : Hid (∀ v W, OwnB W w.heap.size v (topB t) → Below w.heap.size w W → Post (.returned v) W) := Lib.hid fun v W h1 h2 => by rw [← hPost]; exact ⟨v, rfl, h1, h2⟩
  clear h hPost
  go_enter Tryz.func10, Tryz.ntmps10
  go_upto_region 1 with fail
  generalize (w.alloc (.cells (tpc t).toArray 36)) = W0 at HB0 HW0 ⊢
  refine gS (.take 0 (.take 1 (.take 3 (.take 4 (.step 2 (.step 5 (.step 6 (.take 7 (.nil))))))))) (fun X => Blk X w.heap.size (tpc t) 36) HB0.out.drew ?_
  refine wpG_take _ (.pointer (some ⟨w.heap.size, 0, none⟩)) rfl (by rfl) (fun X hX => ex_faT (by omega) rfl rfl) ?_; try simp only [pS]
  refine wpG_take _ (.int .u64 (t.1 : Int)) rfl (by rfl) (fun X hX => ex_ld1 Tryz.underlying22 rfl rfl (hX.cell (j := 0) rfl)) ?_; try simp only [pS]
  refine wpG_take _ (.pointer (some ⟨w.heap.size, 1, none⟩)) rfl (by rfl) (fun X hX => ex_faT (by omega) rfl rfl) ?_; try simp only [pS]
  refine wpG_take _ (.agg (pcells t.2).toArray) rfl (by rfl) (fun X hX => ex_ld (ty := 28) (cs := pcells t.2) rfl rfl (fun j v hj => by
    have := hX.cell (j := 1 + j) (v := v) (by rw [show 1 + j = j + 1 by omega]; simpa [tpc] using hj)
    exact this) Tryz.underlying28 rfl (by rw [sizeP, pcells_length HT.out.2])) ?_; try simp only [pS]
  refine wpG_call _ rfl (by rfl) 25 #[.slice none 0 0, .int .u64 (t.1 : Int)] (fun _ => by go_simp) (fun u w' => u = .slice (some ⟨W0.heap.size, 0, none⟩) 8 8 ∧ OwnB w' W0.heap.size u (leb t.1 8) ∧ Below W0.heap.size W0 w') ((pu64_any [] none 0 t.1 W0.drew (by simp) (by have := HT.out.1; omega) (fun h => by simp at h)).mono fun e w' ⟨e1, e2, e3⟩ => ⟨_, e1, HB0.out.drew.below e3 HB0.out.lt, rfl, (by rw [List.nil_append, leb_length] at e2; exact e2), (Below.refl _ _).drew.trans e3⟩) ?_
  rintro u w2 hs2 ⟨rfl, ho2, hb2⟩
  refine ⟨_, fun _ h => h, hs2, ?_⟩; try simp only [pS]
  obtain ⟨sp2, cap2, e2, q1, q2, q3, q4, q5⟩ := OwnB.form ho2
  rw [leb_length] at e2
  have HPP := ptrPut_any t.2 HT.out.2 (leb t.1 8) sp2 cap2 w2 (by rw [leb_length]; omega) q3 q4
  rw [leb_length, ← e2] at HPP
  refine wpG_call _ rfl (by rfl) 24 #[.slice (some ⟨W0.heap.size, 0, none⟩) 8 8, .agg (pcells t.2).toArray] (fun _ => by go_simp) (fun u w' => OwnB w' w2.heap.size u (leb t.1 8 ++ padB t.2) ∧ Below w2.heap.size w2 w') (HPP.mono fun e w' ⟨v, e1, e2, e3⟩ => ⟨v, e1, hs2.below e3 hs2.lt, e2, e3⟩) ?_
  rintro u w3 hs3 ⟨ho3, hb3⟩
  refine ⟨_, fun _ h => h, hs3, ?_⟩; try simp only [pS]
  obtain ⟨sp3, cap3, rfl, r1, r2, r3, r4, r5⟩ := OwnB.form ho3
  have HFF := fill_any (leb t.1 8 ++ padB t.2) sp3 cap3 512 w3 (by rw [tpre_len HT.out.2]; omega) (by omega) r3
  rw [tpre_len HT.out.2] at HFF ⊢
  refine wpG_call _ rfl (by rfl) 23 #[.slice sp3 72 cap3, .int .i64 512] (fun _ => by go_simp) (fun u w' => OwnB w' w3.heap.size u (topB t) ∧ Below w3.heap.size w3 w') (HFF.mono fun e w' ⟨v, e1, e2, e3⟩ => ⟨v, e1, hs3.below e3 hs3.lt, e2, e3⟩) ?_
  rintro u w4 hs4 ⟨ho4, hb4⟩
  refine ⟨_, fun _ h => h, hs4, ?_⟩; try simp only [pS]
  refine wpG_take _ u rfl (by rfl) (fun X hX => by first | rfl | go_simp) ?_; try simp only [pS]
  refine wpG_nil ?_
  have hsz := HW0.out.size
  have HE := Lib.hid (HP.out u w4 (ho4.mono (B' := w.heap.size) (by have := hb2.size; have := hb3.size; omega)) (HW0.out.trans ((hb2.trans ((hb3.mono hb2.size).trans (hb4.mono (by have := hb2.size; have := hb3.size; omega)))).mono hsz)))
  clear ho2 hb2 ho3 hb3 ho4 hb4 hs2 hs3 hs4 HPP HFF q1 q2 q3 q4 q5 r1 r2 r3 r4 r5 e2
  go_wp2_with fail
  first | exact HE.out | (go_ret; exact HE.out)
theorem results_cT {fn : Func} {p u : Tmp} (h : fn.results = #[.cell p 36, .tmp u]) (tmps : Array Value) (w : World) (g t : Nat) (cs : List Value)
    (hp : tmps.getD p undef = .pointer (some ⟨g, 0, none⟩)) (hg : Blk w g cs t) (hi : (Tryz.prog.info? 36).map (·.size) = some cs.length) :
    (results fn tmps).run Tryz.prog w = .ok (.tuple #[.agg cs.toArray, tmps.getD u undef]) w := by
  rw [results_cell_tmp h, hp]
  simp only [asAddr, Sem.run_pure, Result.andThen_ok, run_loadVar_row w g t 36 cs.toArray (0, 0) _ hg Tryz.underlying36 rfl (by simpa using hi)]
def TtPost (b : Bs) (w : World) (e : Ending) (w' : World) : Prop := e = .returned (.tuple #[.agg (tpc (ttV b)).toArray, .int .i64 (ttE b : Int)]) ∧ Below w.heap.size w w'
theorem next_8 {b : Bs} (h : b.length = 512) : nextRes b 0 8 = (b.take 8, b.drop 8, 0) := by
  unfold nextRes
  rw [if_neg (by simp), if_neg (by omega)]
  rfl
theorem rest_end {b rest : Bs} (hl : b.length = 512) {te : Nat} (ht : takeE (b.drop 8) 0 = te) (hr : te = 0 → rest = (b.drop 8).drop 64) :
    endOf (nouOf rest te (leftOf rest te : Int)).1 (nouOf rest te (leftOf rest te : Int)).2 = ttE b := by
  have hlen : 64 ≤ (b.drop 8).length := by rw [List.length_drop]; omega
  have hfine := takeE_fine hlen
  rw [ht] at hfine
  have hbad : ttOk b = false → ttE b = 5 := fun h => by unfold ttE; rw [if_neg (by rw [h]; decide)]
  by_cases hc : (quietP ((b.drop 8).take 64) && fineP (pt (b.drop 8))) = true
  · rw [if_pos hc] at hfine
    subst hfine
    have hr := hr rfl
    rw [List.drop_drop] at hr
    have hr : rest = b.drop 72 := hr
    subst hr
    have hn : (b.drop 72).length = 440 := by rw [List.length_drop]; omega
    have e1 : leftOf (b.drop 72) 0 = 440 := by unfold leftOf; rw [if_pos rfl, hn]
    rw [e1]
    have e2 : nextRes (b.drop 72) 0 ((440 : Nat) : Int) = (b.drop 72, [], 0) := by
      unfold nextRes
      rw [if_neg (by simp), if_neg (by omega)]
      rw [show ((440 : Nat) : Int).toNat = 440 from rfl, List.take_of_length_le (show (b.drop 72).length ≤ 440 by omega), List.drop_of_length_le (show (b.drop 72).length ≤ 440 by omega)]
    have e3 : nouOf (b.drop 72) 0 ((440 : Nat) : Int) = ([], if (b.drop 72).all (· == 0#8) then 0 else 5) := by unfold nouOf; rw [e2]
    rw [e3]
    have e4 : ∀ e, endOf [] e = e := fun e => by unfold endOf leftOf; split <;> simp
    rw [e4]
    unfold ttE ttOk
    rw [hc, hl]
    simp
  · rw [if_neg hc] at hfine
    subst hfine
    have e1 : leftOf rest 5 = 0 := by unfold leftOf; rw [if_neg (by simp)]
    rw [e1]
    have e2 : nouOf rest 5 ((0 : Nat) : Int) = (rest, 5) := by
      unfold nouOf nextRes
      rw [if_pos (.inl (by simp))]
      rfl
    rw [e2]
    have e3 : endOf rest 5 = 5 := by unfold endOf; rw [e1]; rfl
    rw [e3, hbad]
    unfold ttOk
    rw [Bool.not_eq_true] at hc
    rw [hc]
    simp
theorem ttV_val {b : Bs} (h : ttE b = 0) : ttV b = (val (b.take 8), takenP (b.drop 8) 0) := by
  have hk : ttOk b = true := by
    unfold ttE at h
    split at h
    · assumption
    · cases h
  unfold ttV
  rw [if_pos hk]
  have : takenP (b.drop 8) 0 = pt (b.drop 8) := by
    unfold ttOk at hk
    simp only [Bool.and_eq_true, decide_eq_true_eq] at hk
    refine takenP_zero ?_
    rw [takeE_fine (by rw [List.length_drop]; omega)]
    rw [if_pos (by simp [hk.1.2.1, hk.1.2.2])]
  rw [this]
set_option maxRecDepth 100000 in
set_option maxHeartbeats 8000000 in
theorem takeTop_any (b : Bs) (sp : Option Addr) (cap : Nat) (w : World) (hl : b.length ≤ 600) (hc : b.length ≤ cap) (hz : sp = none → cap = 0) (hS : SrcA w sp b) (hT : RTab w) : Calls Tryz.prog 11 #[.slice sp b.length cap] w (TtPost b w) := by
  have HX : Hid (∀ z, z = (tpc zeroT).toArray → Blk (w.alloc (.cells z 36)) w.heap.size (tpc zeroT) 36 ∧ Below w.heap.size w (w.alloc (.cells z 36))) := Lib.hid (fun z hz => by
    subst hz
    exact ⟨Blk.new _ _ _, (Below.refl _ _).alloc (Nat.le_refl _) _⟩)
  have HC := Lib.hid hc; have HZ := Lib.hid hz; have HS := Lib.hid hS; have HT := Lib.hid hT; have HL := Lib.hid hl
  have HSZ0 := Lib.hid (size_tp (t := zeroT) zeroP_ok)
  generalize hPost : TtPost b w = Post
  have HP : Hid (∀ W, Below w.heap.size w W → Post (.returned (.tuple #[.agg (tpc (ttV b)).toArray, .int .i64 (ttE b : Int)])) W) := Lib.hid fun W h => by rw [← hPost]; exact ⟨rfl, h⟩
  obtain ⟨N, hN⟩ : ∃ N, b.length = N := ⟨_, rfl⟩
  have HN := Lib.hid hN
  rw [hN]
  clear hl hc hz hS hT hPost hN
  go_enter Tryz.func11, Tryz.ntmps11
  go_upto_region 1 with fail
  refine (fun (k : ∀ W, Blk W w.heap.size (tpc zeroT) 36 → Below w.heap.size w W → Code.wp _ _ _ _ W) => k _ (HX.out _ rfl).1 (HX.out _ rfl).2) ?_
  intro W hr hb
  have HR := Lib.hid hr; have HB := Lib.hid hb
  obtain ⟨G, hG⟩ : ∃ g, w.heap.size = g := ⟨_, rfl⟩
  rw [hG] at HR ⊢
  have HG := Lib.hid hG
  clear hr hb HX hG
  have HEND : Hid (∀ X, Blk X G (tpc zeroT) 36 → Below w.heap.size w X → ∀ t : Tpp, t.2.OK → Blk (X.setRow G (tpc t).toArray) G (tpc t) 36 ∧ Below w.heap.size w (X.setRow G (tpc t).toArray)) := Lib.hid (fun X hx hb t ht => ⟨hx.row _, below_row hb (by have := HG.out; omega) _⟩)
  by_cases hN5 : N = 512
  · subst hN5
    have HNB := Lib.hid (new_any b sp cap W (by have := HL.out; omega) HZ.out HC.out (HS.out.below HB.out (Nat.le_refl _)))
    rw [HN.out] at HNB
    go_wp2_with fail
    refine HNB.out.mono ?_
    rintro e W2 ⟨H, rfl, hrd, hH, hb2⟩
    have HNE : Hid (G ≠ H ∧ 0 ≠ H) := Lib.hid ⟨by have := HR.out.lt; omega, by have := HT.out.lt; have := HB.out.size; omega⟩
    have HRD2 := Lib.hid hrd; have HH := Lib.hid hH; have HB2 := Lib.hid (HB.out.trans (hb2.mono HB.out.size)); have HR2 := Lib.hid (HR.out.below hb2 HR.out.lt)
    clear hrd hH hb2 HNB HR
    have HNU := Lib.hid (ru64_any H b 0 W2 HRD2.out)
    go_wp2_with fail
    refine HNU.out.mono ?_
    rintro e W3 ⟨rfl, hrd3, hbf3⟩
    rw [next_8 HN.out] at hrd3 ⊢
    have hHlt := HRD2.out.lt
    have hgr := HT.out.lt
    have hK3 : ∀ g, (fun g => W.heap.size ≤ g ∧ g < H) g → g < W3.heap.size := fun g hg => by have := hbf3.size; omega
    have hT3 : RTab W3 := (HT.out.grown HB2.out).of_heap (hbf3.block 0 (Nat.lt_of_lt_of_le hgr HB2.out.size) HNE.out.2)
    have hPT := ptrTake_len (b.drop 8) 0 H W3 hrd3 hK3 (by rw [List.length_drop]; have := HL.out; omega) hT3 HNE.out.2
    have HPT := Lib.hid hPT; have HBF3 := Lib.hid hbf3; have HHL := Lib.hid hHlt
    have HR3 := Lib.hid (hbf3.blk HR2.out HNE.out.1)
    clear hrd3 hbf3 hHlt hgr hK3 hT3 hPT HNU HRD2 HR2
    obtain ⟨gv, hgv⟩ : ∃ v, val (b.take 8) = v := ⟨_, rfl⟩
    rw [hgv]
    have HGV := Lib.hid hgv
    clear hgv
    go_wp2_with fail
    refine HPT.out.mono ?_
    rintro e W4 ⟨rfl, ⟨rest, hrd4, hre4, hrl4⟩, hbf4⟩
    obtain ⟨te, hte⟩ : ∃ t, takeE (b.drop 8) 0 = t := ⟨_, rfl⟩
    obtain ⟨tp, htp⟩ : ∃ t, takenP (b.drop 8) 0 = t := ⟨_, rfl⟩
    have HTPO : Hid tp.OK := Lib.hid (by rw [← htp]; exact takenP_ok _ _)
    rw [hte] at hrd4 hre4
    rw [htp]
    have HTE := Lib.hid hte; have HTP := Lib.hid htp; have HRD4 := Lib.hid hrd4; have HRE4 := Lib.hid hre4; have HRL4 := Lib.hid hrl4; have HBF4 := Lib.hid (HBF3.out.trans hbf4)
    have HR4 := Lib.hid (hbf4.blk HR3.out HNE.out.1)
    have HSTP := Lib.hid (size_tp (t := (gv, tp)) HTPO.out)
    have HLTP : Hid ((tpc (gv, tp)).toArray.size = 42) := Lib.hid (by rw [List.size_toArray, tpc_length HTPO.out])
    clear hte htp hrd4 hre4 hrl4 hbf4 HPT HBF3 HR3
    go_upto_region 5 with (first | (refine wpL_val rfl (ex_bldTp (f := gv) HTPO.out rfl rfl rfl) ?_) | (refine wpList_store_row rfl 36 (.tmp 5) (.tmp 17) rfl W4.heap.size (tpc (gv, tp)).toArray rfl rfl 36 _ (heap_alloc_new W4 _) HSTP.out (by rw [HLTP.out]; rfl) (one_tpc (gv, tp)) ?_) | fail)
    refine (fun (k : ∀ W, Blk W W4.heap.size (tpc (gv, tp)) 36 → Below W4.heap.size W4 W → Code.wp _ _ _ _ W) => k _ (blk_row1 W4 _ (tpc (gv, tp)) 36).1 (blk_row1 W4 _ (tpc (gv, tp)) 36).2) ?_
    intro W5 hx5 hb5
    have HRD5 := Lib.hid (HRD4.out.below hb5 (Nat.le_refl _))
    have HR5 := Lib.hid (HR4.out.below hb5 HR4.out.lt)
    have HBF5 : Hid (ButFor H W2 W5) := Lib.hid (HBF4.out.trans (ButFor.of_below hb5))
    obtain ⟨g5, hg5⟩ : ∃ g, W4.heap.size = g := ⟨_, rfl⟩
    have HG5 : Hid (g5 ≠ H) := Lib.hid (by have := HRD4.out.lt; omega)
    rw [hg5] at hx5 ⊢
    have HX5 := Lib.hid hx5
    clear hx5 hb5 hg5 HRD4 HR4 HBF4
    have HLF := Lib.hid (left_any H rest te W5 HRD5.out)
    go_wp2_with fail
    refine HLF.out.mono ?_
    rintro e W6 ⟨rfl, rfl⟩
    have HNG := Lib.hid (noughts_any H rest te (leftOf rest te : Int) W5 (by have := HRL4.out; rw [List.length_drop] at this; have := HL.out; omega) HRD5.out)
    obtain ⟨ln, hln⟩ : ∃ n, leftOf rest te = n := ⟨_, rfl⟩
    rw [hln] at HNG ⊢
    have HLN := Lib.hid hln
    clear hln HLF
    go_wp2_with fail
    refine HNG.out.mono ?_
    rintro e W7 ⟨rfl, hrd7, hbf7⟩
    have HEA := Lib.hid (end_any H _ _ W7 hrd7)
    have HX7 := Lib.hid (hbf7.blk HX5.out HG5.out); have HR7 := Lib.hid (hbf7.blk HR5.out HNE.out.1); have HBF7 := Lib.hid (HBF5.out.trans hbf7)
    clear hrd7 hbf7 HNG HX5 HR5 HBF5 HRD5
    have hee : endOf (nouOf rest te (ln : Int)).1 (nouOf rest te (ln : Int)).2 = ttE b := by rw [← HLN.out]; exact rest_end HN.out HTE.out HRE4.out
    rw [hee] at HEA
    clear hee
    go_wp2_with fail
    refine HEA.out.mono ?_
    rintro e W8 ⟨rfl, -, hbf8⟩
    have HX8 := Lib.hid (hbf8.blk HX7.out HG5.out); have HR8 := Lib.hid (hbf8.blk HR7.out HNE.out.1)
    have HB8 : Hid (Below w.heap.size w W8) := Lib.hid (HB2.out.trans ((HBF7.out.trans hbf8).below (by have := HB.out.size; have := HH.out; omega) HB2.out.size))
    clear hbf8 HEA HX7 HR7 HBF7
    obtain ⟨te2, hte2⟩ : ∃ n, ttE b = n := ⟨_, rfl⟩
    rw [hte2]
    by_cases h0 : te2 = 0
    · subst h0
      have hv : ttV b = (gv, tp) := by rw [ttV_val hte2, HGV.out, HTP.out]
      have hbe := HEND.out W8 HR8.out HB8.out (gv, tp) HTPO.out
      have hE := HP.out _ hbe.2
      rw [hte2, hv] at hE
      have HE := Lib.hid hE; have HBE := Lib.hid hbe.1
      have HZR : Hid ((tpc zeroT).toArray.size = (tpc (gv, tp)).toArray.size) := Lib.hid (by rw [HLTP.out, List.size_toArray, tpc_length zeroP_ok])
      clear hv hE hbe HP HEND hte2
      rw [show ((0 : Nat) : Int) = (0 : Int) from rfl]
      go_wp2_with (first | (refine wpL_val rfl (ex_ldTp (t := (gv, tp)) HTPO.out HX8.out rfl rfl) ?_) | (refine wpList_store_row rfl 36 (.tmp 2) (.tmp 28) rfl G (tpc (gv, tp)).toArray rfl rfl 36 _ HR8.out HSTP.out HZR.out (one_tpc (gv, tp)) ?_) | fail)
      refine bodyPost_ret (results_cT Tryz.results11 _ _ G 36 _ rfl HBE.out (size_tpl (t := (gv, tp)) HTPO.out)) rfl ?_
      exact HE.out
    · have h0' : ¬ (te2 : Int) = 0 := by omega
      have hv : ttV b = zeroT := by
        unfold ttV
        rw [if_neg]
        intro hk
        unfold ttE at hte2
        rw [if_pos hk] at hte2
        exact h0 hte2.symm
      have hbe := HEND.out W8 HR8.out HB8.out zeroT zeroP_ok
      have hE := HP.out _ hbe.2
      rw [hte2, hv] at hE
      have HE := Lib.hid hE; have HBE := Lib.hid hbe.1
      clear hv hE hbe HP HEND hte2 h0
      go_wp2_with (first | (refine wpL_val rfl (ex_bldT0 rfl) ?_) | (refine wpList_store_row rfl 36 (.tmp 2) (.tmp 26) rfl G (tpc zeroT).toArray rfl rfl 36 _ HR8.out HSZ0.out rfl (one_tpc zeroT) ?_) | fail)
      refine bodyPost_ret (results_cT Tryz.results11 _ _ G 36 _ rfl HBE.out (size_tpl zeroP_ok)) rfl ?_
      exact HE.out
  · have hne : ¬ ((N : Int) = 512) := by omega
    have e1 : ttOk b = false := by unfold ttOk; rw [HN.out]; simp [hN5]
    have e2 : ttE b = 5 := by unfold ttE; rw [if_neg (by rw [e1]; decide)]
    have e3 : ttV b = zeroT := by unfold ttV; rw [if_neg (by rw [e1]; decide)]
    have hbe := HEND.out W HR.out HB.out zeroT zeroP_ok
    have hE := HP.out _ hbe.2
    rw [e2, e3] at hE
    have HE := Lib.hid hE; have HBE := Lib.hid hbe.1
    clear e1 e2 e3 hE hbe HP HEND
    go_wp2_with (first | (refine wpL_val rfl (ex_bldT0 rfl) ?_) | (refine wpList_store_row rfl 36 (.tmp 2) (.tmp 10) rfl G (tpc zeroT).toArray rfl rfl 36 _ HR.out HSZ0.out rfl (one_tpc zeroT) ?_) | fail)
    refine bodyPost_ret (results_cT Tryz.results11 _ _ G 36 _ rfl HBE.out (size_tpl zeroP_ok)) rfl ?_
    exact HE.out
theorem ref_8 {b : Bs} (h : b.length = 512) : refRes b 0 8 = (b.take 8, b.drop 8, 0) := by
  unfold refRes
  rw [if_neg (by simp), if_neg (by omega)]
  rfl
theorem ex_bldRef {ρ : Operand → Value} {o : Oper} {x : Operand} {w : World} {sp : Option Addr} {n cap : Nat} (ho : o.op = .build 87 #[(0, x)]) (hx : ρ x = .slice sp n cap) : (execOp ρ o).run Tryz.prog w = .ok (.value (.agg #[.slice sp n cap, .int .i64 0])) w := by
  have hr : (Instr.build 87 #[(0, .slice sp n cap)]).run Tryz.prog w = .ok (.agg #[.slice sp n cap, .int .i64 0]) w := run_build w 87 _ _ (by kernel_rfl)
  unfold execOp
  simp only [ho]
  rw [show (Array.map (fun x : Nat × Operand => (x.1, ρ x.2)) #[(0, x)]) = #[(0, .slice sp n cap)] by simp [hx]]
  simp only [Sem.run_bind, hr, Result.andThen_ok, Sem.run_pure]
set_option maxRecDepth 100000 in
set_option maxHeartbeats 8000000 in
theorem lawTop_any (b : Bs) (sp : Option Addr) (cap : Nat) (w : World) (hl : b.length = 512) (hc : b.length ≤ cap) (hz : sp = none → cap = 0) (hS : SrcA w sp b) : Calls Tryz.prog 13 #[.slice sp 512 cap] w fun e w' => e = .returned (.agg (tpc (lawT b)).toArray) ∧ Below w.heap.size w w' := by
  have HX : Hid (∀ z, z = (tpc zeroT).toArray → Blk (w.alloc (.cells z 36)) w.heap.size (tpc zeroT) 36 ∧ Below w.heap.size w (w.alloc (.cells z 36))) := Lib.hid (fun z hz => by
    subst hz
    exact ⟨Blk.new _ _ _, (Below.refl _ _).alloc (Nat.le_refl _) _⟩)
  have HC := Lib.hid hc; have HZ := Lib.hid hz; have HS := Lib.hid hS; have HL := Lib.hid hl
  generalize hPost : (fun (e : Ending) (w' : World) => e = .returned (.agg (tpc (lawT b)).toArray) ∧ Below w.heap.size w w') = Post
  have HP : Hid (∀ W, Below w.heap.size w W → Post (.returned (.agg (tpc (lawT b)).toArray)) W) := Lib.hid fun W h => by rw [← hPost]; exact ⟨rfl, h⟩
  clear hc hz hS hPost hl
  go_enter Tryz.func13, Tryz.ntmps13
  go_upto_region 1 with fail
  refine (fun (k : ∀ W, Blk W w.heap.size (tpc zeroT) 36 → Below w.heap.size w W → Code.wp _ _ _ _ W) => k _ (HX.out _ rfl).1 (HX.out _ rfl).2) ?_
  intro W hr hb
  have HR := Lib.hid hr; have HB := Lib.hid hb
  obtain ⟨G, hG⟩ : ∃ g, w.heap.size = g := ⟨_, rfl⟩
  rw [hG] at HR ⊢
  have HG := Lib.hid hG
  clear hr hb HX hG
  have hRN := refNum_any b sp cap 0 8 W (K := fun _ => True) (by omega) ⟨HC.out, HZ.out, fun h0 => by
    obtain ⟨g, o, e, h1, h2⟩ := HS.out.below HB.out (Nat.le_refl _) h0
    exact ⟨g, o, e, trivial, h1, h2⟩⟩
  rw [HL.out] at hRN
  have HRN : Hid (Calls Tryz.prog 32 #[.agg #[.slice sp 512 cap, .int .i64 0], .int .i64 8] W (NumOf (fun _ => True) b 0 8 W)) := Lib.hid hRN
  clear hRN
  go_wp2_with (first | (refine wpL_val rfl (ex_bldRef rfl rfl) ?_) | fail)
  refine HRN.out.mono ?_
  rintro e W2 ⟨sp2, cap2, rfl, href, hb2⟩
  have href : RefIs W2 (fun _ => True) sp2 (refRes b 0 8).2.1 cap2 := href
  have e8 : refRes b 0 (8 : Int) = (b.take 8, b.drop 8, 0) := ref_8 HL.out
  have e8' : refRes b 0 ((8 : Nat) : Int) = (b.take 8, b.drop 8, 0) := ref_8 HL.out
  unfold RefV
  simp only [e8, e8'] at href ⊢
  have hd : (b.drop 8).length = 504 := by rw [List.length_drop, HL.out]
  rw [hd]
  have HRF := Lib.hid href; have HB2 := Lib.hid (HB.out.trans (hb2.mono HB.out.size)); have HR2 := Lib.hid (HR.out.below hb2 HR.out.lt); have HD := Lib.hid hd
  obtain ⟨gv, hgv⟩ : ∃ v, val (b.take 8) = v := ⟨_, rfl⟩
  rw [hgv]
  have HGV := Lib.hid hgv
  clear href hb2 e8 e8' hd hgv HRN HR HB
  go_upto_region 2 with (first | (refine wpList_store_row rfl 87 (.tmp 4) (.tmp 12) rfl W2.heap.size #[.slice sp2 504 cap2, .int .i64 0] rfl rfl 87 _ (heap_alloc_new W2 _) sizeRef rfl (one_ref _ _ _ _) ?_) | fail)
  refine (fun (k : ∀ W, Blk W W2.heap.size [.slice sp2 504 cap2, .int .i64 0] 87 → Below W2.heap.size W2 W → Code.wp _ _ _ _ W) => k _ (blk_row1 W2 _ [.slice sp2 504 cap2, .int .i64 0] 87).1 (blk_row1 W2 _ [.slice sp2 504 cap2, .int .i64 0] 87).2) ?_
  intro W3 hx3 hb3
  have hq := qtake_any (b.drop 8) sp2 cap2 0 W3 (K := fun _ => True) (by rw [HD.out]; omega) (HRF.out.below hb3)
  rw [HD.out] at hq
  have HQ : Hid (Calls Tryz.prog 33 #[.agg #[.slice sp2 504 cap2, .int .i64 0]] W3 (QtPost (b.drop 8) 0 (fun _ => True) W3)) := Lib.hid hq
  have HB3 := Lib.hid (HB2.out.trans (hb3.mono HB2.out.size)); have HR3 := Lib.hid (HR2.out.below hb3 HR2.out.lt)
  obtain ⟨g4, hg4⟩ : ∃ g, W2.heap.size = g := ⟨_, rfl⟩
  rw [hg4] at hx3 ⊢
  have HX3 := Lib.hid hx3
  clear hx3 hb3 hg4 hq HB2 HR2 HRF
  go_wp2_with (first | (refine wpList_load_row rfl 87 (.tmp 4) rfl g4 rfl 87 _ _ _ HX3.out Tryz.underlying87 rfl sizeRef ?_) | fail)
  refine HQ.out.mono ?_
  rintro e W4 ⟨sp5, cap5, rest, rfl, -, -, -, hb4⟩
  have HB4 := Lib.hid (HB3.out.trans (hb4.mono HB3.out.size)); have HR4 := Lib.hid (HR3.out.below hb4 HR3.out.lt)
  obtain ⟨tp, htp⟩ : ∃ t, takenP (b.drop 8) 0 = t := ⟨_, rfl⟩
  have HTPO : Hid tp.OK := Lib.hid (by rw [← htp]; exact takenP_ok _ _)
  have HLW : Hid (lawT b = (gv, tp)) := Lib.hid (by unfold lawT; rw [HGV.out, htp])
  rw [htp]
  obtain ⟨rn, hrn⟩ : ∃ n, rest.length = n := ⟨_, rfl⟩
  obtain ⟨te, hte⟩ : ∃ n, takeE (b.drop 8) 0 = n := ⟨_, rfl⟩
  rw [hrn, hte]
  have HSP := Lib.hid (size_pc HTPO.out)
  have HLP : Hid ((pcells tp).toArray.size = 41) := Lib.hid (by rw [List.size_toArray, pcells_length HTPO.out])
  clear hb4 htp hrn hte HQ HB3 HR3 HX3
  have HZP1 : Hid (∀ z z2 : Array Value, ((W4.alloc (.cells z 28)).alloc (.cells z2 87)).heap[W4.heap.size]? = some (.cells z 28 (0, 0))) := Lib.hid (fun z z2 => (Below.heap_alloc _ _ _ (by simp)).trans (heap_alloc_new W4 _))
  have HZP2 : Hid (∀ z z2 c : Array Value, (((W4.alloc (.cells z 28)).alloc (.cells z2 87)).setRow W4.heap.size c).heap[W4.heap.size + 1]? = some (.cells z2 87 (0, 0))) := Lib.hid (fun z z2 c => by
    rw [setRow_other _ _ _ _ (by omega)]
    have h := heap_alloc_new (W4.alloc (.cells z 28)) (.cells z2 87)
    rw [World.size_alloc] at h
    exact h)
  have HFR : Hid (∀ z z2 c : Array Value, Blk ((((W4.alloc (.cells z 28)).alloc (.cells z2 87)).setRow W4.heap.size (pcells tp).toArray).setRow (W4.heap.size + 1) c) W4.heap.size (pcells tp) 28 ∧ Below W4.heap.size W4 ((((W4.alloc (.cells z 28)).alloc (.cells z2 87)).setRow W4.heap.size (pcells tp).toArray).setRow (W4.heap.size + 1) c)) := Lib.hid (fun z z2 c => by
    refine ⟨?_, ?_⟩
    · have h1 := ((Blk.new' W4 z z.toList 28 _ rfl (by simp)).alloc (.cells z2 87)).row (pcells tp)
      exact h1.rowOther (by omega) _
    · exact below_row (below_row (((Below.refl _ _).alloc (Nat.le_refl _) _).alloc (by simp) _) (Nat.le_refl _) _) (by omega) _)
  go_upto_region 3 with (first | (refine wpList_store_row rfl 28 (.tmp 5) (.tmp 16) rfl W4.heap.size (pcells tp).toArray rfl rfl 28 _ (HZP1.out _ _) HSP.out (by rw [HLP.out]; rfl) (one_pc tp) ?_) | (refine wpList_store_row rfl 87 (.tmp 6) (.tmp 17) rfl (W4.heap.size + 1) #[.slice sp5 rn cap5, .int .i64 (te : Int)] rfl rfl 87 _ (HZP2.out _ _ _) sizeRef rfl (one_ref _ _ _ _) ?_) | fail)
  refine (fun (k : ∀ W, Blk W W4.heap.size (pcells tp) 28 → Below W4.heap.size W4 W → Code.wp _ _ _ _ W) => k _ (HFR.out _ _ _).1 (HFR.out _ _ _).2) ?_
  intro W5 hx5 hb5
  have HX5 := Lib.hid hx5; have HR5 := Lib.hid (HR4.out.below hb5 HR4.out.lt); have HB5 := Lib.hid (HB4.out.trans (hb5.mono HB4.out.size))
  have HSTP := Lib.hid (size_tp (t := (gv, tp)) HTPO.out)
  have HZR : Hid ((tpc zeroT).toArray.size = (tpc (gv, tp)).toArray.size) := Lib.hid (by rw [List.size_toArray, List.size_toArray, tpc_length zeroP_ok, tpc_length HTPO.out])
  have HBE : Hid (Blk (W5.setRow G (tpc (gv, tp)).toArray) G (tpc (gv, tp)) 36) := Lib.hid (HR5.out.row _)
  have hE := HP.out (W5.setRow G (tpc (gv, tp)).toArray) (below_row HB5.out (by have := HG.out; omega) _)
  rw [HLW.out] at hE
  have HE := Lib.hid hE
  clear hx5 hb5 hE HP HZP1 HZP2 HFR HR4
  go_wp2_with (first | (refine wpL_val rfl (ex_ldP HTPO.out HX5.out rfl rfl) ?_) | (refine wpL_val rfl (ex_bldTp (f := gv) HTPO.out rfl rfl rfl) ?_) | (refine wpList_store_row rfl 36 (.tmp 2) (.tmp 20) rfl G (tpc (gv, tp)).toArray rfl rfl 36 _ HR5.out HSTP.out HZR.out (one_tpc (gv, tp)) ?_) | fail)
  exact bodyPost_ret (results_cell_row Tryz.results13 _ _ G 36 _ _ _ rfl HBE.out Tryz.underlying36 rfl HSTP.out) rfl HE.out
end Go.Proofs.YtjgjohdeeeoeoaaGreatDoor
