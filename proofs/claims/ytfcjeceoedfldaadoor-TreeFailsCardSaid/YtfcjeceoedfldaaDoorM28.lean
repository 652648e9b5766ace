/- wakes: a tree that is known. -/
import Derived.Test.YtfcjeceoedfldaaDoorM27
namespace Go.Proofs.YtfcjeceoedfldaaDoor
open Go.RowKit

attribute [local go_sem] Oper.semAt_some

theorem Fr.set {w X : World} {D : Nat} {s : Sh} {bs : Bxs} (h : Fr w D s bs X) (p : Pt) (hp : p.OK) (x : Lf) (hx : Lf.OK x) {gs : Nat} (hmem : (gs, lcells x, 45) ∈ bs) {m : Nat} (hk : Lim m s) (hm : m + 715 < 1000000) :
    Calls Tryd.prog 8 #[shI D, .agg (pcells p).toArray, .int .u16 9, .slice (some ⟨gs, 0, none⟩) 1 1] X fun e Y => e = .returned (.tuple #[.agg (pcells (setR s p 9 [x]).p).toArray, .int .i64 ((setR s p 9 [x]).e : Int)]) ∧ Fr w D (setR s p 9 [x]).s bs Y ∧ Lim (m + 715) (setR s p 9 [x]).s := by
  obtain ⟨L1, v1, h1, h2, h3, h4, h5⟩ := h.call
  have hb := h.at hmem
  refine (trSet_any (obj := 9) p hp (by omega) [x] (fun y hy => by simp at hy; subst hy; exact hx) (some ⟨gs, 0, none⟩) 1 (by simp) (by simp) (fun _ => ⟨gs, 0, rfl, hb.lt, fun i y hy => ?_⟩) (fun a ha => ?_) h1 hk hm).mono ?_
  · cases i with
    | zero => simp at hy; subst hy; simpa using rng_all hb
    | succ i => simp at hy
  · cases ha
    exact ⟨hb.lt, .inl (h4 _ hmem)⟩
  · rintro e Y ⟨e1, e2, e3, _⟩
    exact ⟨e1, h5 _ Y e2, e3⟩
theorem Fr.get {w X : World} {D : Nat} {s : Sh} {bs : Bxs} (h : Fr w D s bs X) (p : Pt) (hp : p.OK) (off : Nat) (hoff : off < 4294967296) {m : Nat} (hk : Lim m s) (hm : m + 73 < 1000000) :
    Calls Tryd.prog 12 #[shI D, .agg (pcells p).toArray, .int .u32 (off : Int)] X fun e Y => e = .returned (.tuple #[.agg (pcells (getP s p off)).toArray, .int .i64 (getE s p off : Int)]) ∧ Fr w D (getS s p off) bs Y ∧ Lim (m + 73) (getS s p off) := by
  obtain ⟨L1, v1, h1, h2, h3, h4, h5⟩ := h.call
  refine (trGet_any p hp off hoff h1 h2 hk hm).mono ?_
  rintro e Y ⟨e1, e2, e3⟩
  exact ⟨e1, h5 _ Y e2, e3⟩
theorem built_l9 : Tryd.prog.built 45 [(0, .int .u32 9)] = some (lcells (9, zeroP)).toArray := by kernel_rfl
theorem ex_bldL0 {ρ : Operand → Value} {o : Oper} {x : Operand} {w : World} (ho : o.op = .build 45 #[(0, x)]) (hx : ρ x = .int .u32 9) : (execOp ρ o).run Tryd.prog w = .ok (.value (.agg (lcells (9, zeroP)).toArray)) w := by
  have hr : (Instr.build 45 #[(0, .int .u32 9)]).run Tryd.prog w = .ok (.agg (lcells (9, zeroP)).toArray) w := run_build w 45 _ _ built_l9
  unfold execOp
  simp only [ho]
  rw [show (Array.map (fun x : Nat × Operand => (x.1, ρ x.2)) #[(0, x)]) = #[(0, .int .u32 9)] by simp [hx]]
  simp only [Sem.run_bind, hr, Result.andThen_ok, Sem.run_pure]
theorem lim0 : Lim 0 sh0 := ⟨Nat.le_refl _, Nat.le_refl _, Nat.le_refl _, by omega, by simp [sh0], by simp [sh0], by simp [sh0]⟩
theorem limk (n : Nat) (gone rd : List Pt) (h1 : gone.length ≤ n) (h2 : rd.length ≤ n) (hn : 2 ≤ n ∧ n < 1000000) : Lim n (ks gone rd) := ⟨h2, hn.1, h1, hn.2, by simp [ks], by simp [ks], by simp [ks]⟩
/-- A row of pointers in a shelf's cell. -/
theorem own_rng {X : World} {v : Value} {l : List Pt} (h : OwnM X 0 v l) (hok : ∀ q ∈ l, q.OK) (h0 : 0 < l.length) : ∃ g cap, v = .slice (some ⟨g, 0, none⟩) l.length cap ∧ l.length ≤ cap ∧ ∀ i q, l[i]? = some q → X.rangeAt g (i * 41) (pcells q) := by
  obtain ⟨sp, cap, e, h1, _, _, h3⟩ := h.src hok
  obtain ⟨g, e2, _, h4⟩ := h3 h0
  exact ⟨g, cap, by rw [e, e2], h1, h4⟩
set_option maxRecDepth 100000 in
set_option maxHeartbeats 16000000 in
theorem twakes_any (w : World) (hT : RTab w) : Calls Tryd.prog 6 #[] w fun e w' => e = .returned (.bool true) ∧ Below w.heap.size w w' := by
  have HX0 := Lib.hid (fr_new w hT)
  generalize hPost : (fun e w' => e = Ending.returned (.bool true) ∧ Below w.heap.size w w') = Post
  have HP : Hid (∀ w', Below w.heap.size w w' → Post (.returned (.bool true)) w') := Lib.hid fun w' h => by rw [← hPost]; exact ⟨rfl, h⟩
  have HS9 := Lib.hid (size_pc kp9_ok)
  have HSQ := Lib.hid (size_pc kq2_ok)
  have HSZ := Lib.hid (size_pc zeroP_ok)
  have HL9 : Hid ((pcells kp9).toArray.size = 41) := Lib.hid (by rw [List.size_toArray, pcells_length kp9_ok])
  have HLQ : Hid ((pcells kq2).toArray.size = 41) := Lib.hid (by rw [List.size_toArray, pcells_length kq2_ok])
  have HLZ : Hid ((pcells zeroP).toArray.size = 41) := Lib.hid (by rw [List.size_toArray, pcells_length zeroP_ok])
  clear hT hPost
  go_enter Tryd.func6, Tryd.ntmps6
  go_upto_region 2 with fail
  refine (fun (k : ∀ W, Fr w w.heap.size sh0 [] W → Code.wp _ _ _ _ W) => k _ HX0.out) ?_
  intro W0 hW0
  obtain ⟨D, hD⟩ : ∃ d, w.heap.size = d := ⟨_, rfl⟩
  rw [hD] at hW0 ⊢
  have HF := Lib.hid hW0
  clear hW0 HX0 hD
  go_wp2_with fail
  refine (leaf_any 1 9 (by omega) (by omega) W0).mono ?_
  rintro e W1 ⟨rfl, hb1⟩
  have HF1 := Lib.hid (HF.out.below hb1)
  clear hb1 HF
  rw [show leafP 1 9 = kp9 from rfl]
  go_upto_region 3 with (first | (refine wpList_store_row rfl 37 (.tmp 2) (.tmp 13) rfl W1.heap.size (pcells kp9).toArray rfl rfl 37 _ (heap_alloc_new W1 _) HS9.out (by rw [HL9.out]; rfl) (one_pc kp9) ?_) | fail)
  refine (fun (k : ∀ W, Fr w D sh0 [(W1.heap.size, pcells kp9, 37)] W → Code.wp _ _ _ _ W) => k _ (HF1.out.add (blk_row1 W1 _ (pcells kp9) 37).2 (Nat.le_refl _) (blk_row1 W1 _ (pcells kp9) 37).1)) ?_
  intro W2 hW2
  obtain ⟨g2, hg2⟩ : ∃ g, W1.heap.size = g := ⟨_, rfl⟩
  rw [hg2] at hW2 ⊢
  have HF2 := Lib.hid hW2
  have HB2 := Lib.hid (hW2.at (g := g2) (cs := pcells kp9) (t := 37) (by simp))
  have hx9 : Lf.OK (9, kp9) := ⟨by show 9 < _; omega, kp9_ok⟩
  have HW3 := Lib.hid (hW2.add ((Below.refl _ _).alloc (Nat.le_refl _) (.cells (lcells (9, kp9)).toArray 45)) (Nat.le_refl _) (Blk.new W2 (lcells (9, kp9)) 45))
  have hset := HW3.out.set zeroP zeroP_ok (9, kp9) hx9 (gs := W2.heap.size) (by simp) lim0 (by omega)
  rw [wk1] at hset
  have HSET := Lib.hid hset
  clear hW2 hg2 HF1 hset hx9 HW3
  go_wp2_with (first | (refine wpL_val rfl (ex_bld0 rfl) ?_) | (refine wpL_val rfl (ex_ldP kp9_ok HB2.out rfl rfl) ?_) | (refine wpL_val rfl (ex_bldL (f := 9) (p := kp9) kp9_ok rfl rfl rfl) ?_) | (refine wpL_val rfl (ex_oneL (l := (9, kp9)) kp9_ok rfl rfl) ?_) | fail)
  refine HSET.out.mono ?_
  rintro e W4 ⟨rfl, hf4, hl4⟩
  have HF4 := Lib.hid hf4
  obtain ⟨gs, hgs⟩ : ∃ g, W2.heap.size = g := ⟨_, rfl⟩
  rw [hgs] at HF4 ⊢
  clear hf4 hl4 HSET HB2 HF2 hgs
  go_upto_region 4 with (first | (refine wpList_store_row rfl 37 (.tmp 3) (.tmp 22) rfl W4.heap.size (pcells kq2).toArray rfl rfl 37 _ (heap_alloc_new W4 _) HSQ.out (by rw [HLQ.out]; rfl) (one_pc kq2) ?_) | fail)
  refine (fun (k : ∀ W, Fr w D (ks [] []) [(W4.heap.size, pcells kq2, 37), (gs, lcells (9, kp9), 45), (g2, pcells kp9, 37)] W → Code.wp _ _ _ _ W) => k _ (HF4.out.add (blk_row1 W4 _ (pcells kq2) 37).2 (Nat.le_refl _) (blk_row1 W4 _ (pcells kq2) 37).1)) ?_
  intro W5 hW5
  obtain ⟨g3, hg3⟩ : ∃ g, W4.heap.size = g := ⟨_, rfl⟩
  rw [hg3] at hW5 ⊢
  have HF5 := Lib.hid hW5.drew
  clear hg3 HF4
  obtain ⟨L5, v5, h5, -⟩ := HF5.out.call
  obtain ⟨gm, capm, em, hcm, hrm⟩ := own_rng h5.md.1 h5.okm (by show 0 < 2; omega)
  obtain ⟨spg, capg, eg, -⟩ := owns_form h5.gn.1
  have c2 := h5.blk.cell (j := 2) rfl
  have c3 := h5.blk.cell (j := 3) rfl
  rw [em] at c2
  rw [eg] at c3
  have HR0 := Lib.hid (hrm 0 kq1 rfl)
  have HR1 := Lib.hid (hrm 1 kq2 rfl)
  have HB3 := Lib.hid (HF5.out.at (g := g3) (cs := pcells kq2) (t := 37) (by simp))
  have HC2 : Hid (W5.drew.cell? ⟨D, 2, none⟩ = some (.slice (some ⟨gm, 0, none⟩) 2 capm)) := Lib.hid c2
  have HC3 : Hid (W5.drew.cell? ⟨D, 3, none⟩ = some (.slice spg 0 capg)) := Lib.hid c3
  have HCM : Hid (2 ≤ capm) := Lib.hid hcm
  clear h5 em hcm hrm eg c2 c3 hW5
  refine wp_region_sched (.take 0 (.take 1 (.take 2 (.take 3 (.take 4 (.take 5 (.take 6 (.take 7 (.take 8 (.take 9 (.take 10 (.take 11 (.take 12 (.take 13 (.take 14 (.take 15 (.take 16 (.take 17 (.take 18 (.take 19 (.take 20 (.take 21 (.take 22 (.take 23 (.take 24 (.take 25 (.take 26 (.take 27 (.take 28 (.take 29 (.take 30 (.take 31 (.take 32 (.take 33 (.take 34 (.take 35 (.take 36 (.take 37 (.take 38 (.take 39 (.take 40 (.take 41 (.take 42 (.take 43 (.take 44 (.take 45 (.take 46 (.take 47 (.nil))))))))))))))))))))))))))))))))))))))))))))))))) (by kernel_rfl) (by kernel_rfl) (fun d _ _ _ _ h => by cases d <;> exact h) (fun X => X = W5.drew) (rfl) ?_
  refine wpG_take _ (.int .i64 0) rfl (by rfl) (fun X hX => by first | rfl | go_simp) ?_
  (try simp only [Act.put, List.setIfInBounds_toArray, List.set_cons_zero, List.set_cons_succ])
  refine wpG_take _ (.bool false) rfl (by rfl) (fun X hX => by first | rfl | go_simp) ?_
  (try simp only [Act.put, List.setIfInBounds_toArray, List.set_cons_zero, List.set_cons_succ])
  refine wpG_take _ (.bool false) rfl (by rfl) (fun X hX => by first | rfl | go_simp) ?_
  (try simp only [Act.put, List.setIfInBounds_toArray, List.set_cons_zero, List.set_cons_succ])
  refine wpG_take _ (.pointer (some ⟨D, 0, none⟩)) rfl (by rfl) (fun X hX => by first | rfl | go_simp) ?_
  (try simp only [Act.put, List.setIfInBounds_toArray, List.set_cons_zero, List.set_cons_succ])
  refine wpG_take _ (.pointer (some ⟨D, 0, none⟩)) rfl (by rfl) (fun X hX => by first | rfl | go_simp) ?_
  (try simp only [Act.put, List.setIfInBounds_toArray, List.set_cons_zero, List.set_cons_succ])
  refine wpG_take _ (.pointer (some ⟨D, 2, none⟩)) rfl (by rfl) (fun X hX => by first | rfl | go_simp) ?_
  (try simp only [Act.put, List.setIfInBounds_toArray, List.set_cons_zero, List.set_cons_succ])
  refine wpG_take _ (.slice (some ⟨gm, 0, none⟩) 2 capm) rfl (by rfl) (fun X hX => by subst hX; exact ex_ldPs rfl rfl HC2.out) ?_
  (try simp only [Act.put, List.setIfInBounds_toArray, List.set_cons_zero, List.set_cons_succ])
  refine wpG_take _ (.int .i64 2) rfl (by rfl) (fun X hX => by first | rfl | go_simp) ?_
  (try simp only [Act.put, List.setIfInBounds_toArray, List.set_cons_zero, List.set_cons_succ])
  refine wpG_take _ (.bool false) rfl (by rfl) (fun X hX => by first | rfl | go_simp) ?_
  (try simp only [Act.put, List.setIfInBounds_toArray, List.set_cons_zero, List.set_cons_succ])
  refine wpG_take _ (.bool false) rfl (by rfl) (fun X hX => by first | rfl | go_simp) ?_
  (try simp only [Act.put, List.setIfInBounds_toArray, List.set_cons_zero, List.set_cons_succ])
  refine wpG_take _ (.bool false) rfl (by rfl) (fun X hX => by first | rfl | go_simp) ?_
  (try simp only [Act.put, List.setIfInBounds_toArray, List.set_cons_zero, List.set_cons_succ])
  refine wpG_take _ (.pointer (some ⟨D, 0, none⟩)) rfl (by rfl) (fun X hX => by first | rfl | go_simp) ?_
  (try simp only [Act.put, List.setIfInBounds_toArray, List.set_cons_zero, List.set_cons_succ])
  refine wpG_take _ (.pointer (some ⟨D, 0, none⟩)) rfl (by rfl) (fun X hX => by first | rfl | go_simp) ?_
  (try simp only [Act.put, List.setIfInBounds_toArray, List.set_cons_zero, List.set_cons_succ])
  refine wpG_take _ (.pointer (some ⟨D, 2, none⟩)) rfl (by rfl) (fun X hX => by first | rfl | go_simp) ?_
  (try simp only [Act.put, List.setIfInBounds_toArray, List.set_cons_zero, List.set_cons_succ])
  refine wpG_take _ (.slice (some ⟨gm, 0, none⟩) 2 capm) rfl (by rfl) (fun X hX => by subst hX; exact ex_ldPs rfl rfl HC2.out) ?_
  (try simp only [Act.put, List.setIfInBounds_toArray, List.set_cons_zero, List.set_cons_succ])
  refine wpG_take _ (.pointer (some ⟨gm, 0, none⟩)) rfl (by rfl) (fun X hX => q_iaP (k := 0) rfl rfl rfl ⟨by omega, HCM.out⟩) ?_
  (try simp only [Act.put, List.setIfInBounds_toArray, List.set_cons_zero, List.set_cons_succ])
  refine wpG_take _ (.pointer (some ⟨gm, 1, none⟩)) rfl (by rfl) (fun X hX => by first | rfl | go_simp) ?_
  (try simp only [Act.put, List.setIfInBounds_toArray, List.set_cons_zero, List.set_cons_succ])
  refine wpG_take _ (.int .u8 1) rfl (by rfl) (fun X hX => by subst hX; exact ex_ld1 Tryd.underlying5 rfl rfl (HR0.out 1 _ rfl)) ?_
  (try simp only [Act.put, List.setIfInBounds_toArray, List.set_cons_zero, List.set_cons_succ])
  refine wpG_take _ (.bool false) rfl (by rfl) (fun X hX => by first | rfl | go_simp) ?_
  (try simp only [Act.put, List.setIfInBounds_toArray, List.set_cons_zero, List.set_cons_succ])
  refine wpG_take _ (.bool false) rfl (by rfl) (fun X hX => by first | rfl | go_simp) ?_
  (try simp only [Act.put, List.setIfInBounds_toArray, List.set_cons_zero, List.set_cons_succ])
  refine wpG_take _ (.bool false) rfl (by rfl) (fun X hX => by first | rfl | go_simp) ?_
  (try simp only [Act.put, List.setIfInBounds_toArray, List.set_cons_zero, List.set_cons_succ])
  refine wpG_take _ (.pointer (some ⟨D, 0, none⟩)) rfl (by rfl) (fun X hX => by first | rfl | go_simp) ?_
  (try simp only [Act.put, List.setIfInBounds_toArray, List.set_cons_zero, List.set_cons_succ])
  refine wpG_take _ (.pointer (some ⟨D, 0, none⟩)) rfl (by rfl) (fun X hX => by first | rfl | go_simp) ?_
  (try simp only [Act.put, List.setIfInBounds_toArray, List.set_cons_zero, List.set_cons_succ])
  refine wpG_take _ (.pointer (some ⟨D, 2, none⟩)) rfl (by rfl) (fun X hX => by first | rfl | go_simp) ?_
  (try simp only [Act.put, List.setIfInBounds_toArray, List.set_cons_zero, List.set_cons_succ])
  refine wpG_take _ (.slice (some ⟨gm, 0, none⟩) 2 capm) rfl (by rfl) (fun X hX => by subst hX; exact ex_ldPs rfl rfl HC2.out) ?_
  (try simp only [Act.put, List.setIfInBounds_toArray, List.set_cons_zero, List.set_cons_succ])
  refine wpG_take _ (.pointer (some ⟨gm, 0, none⟩)) rfl (by rfl) (fun X hX => q_iaP (k := 0) rfl rfl rfl ⟨by omega, HCM.out⟩) ?_
  (try simp only [Act.put, List.setIfInBounds_toArray, List.set_cons_zero, List.set_cons_succ])
  refine wpG_take _ (.pointer (some ⟨gm, 3, none⟩)) rfl (by rfl) (fun X hX => by first | rfl | go_simp) ?_
  (try simp only [Act.put, List.setIfInBounds_toArray, List.set_cons_zero, List.set_cons_succ])
  refine wpG_take _ (.int .u32 1) rfl (by rfl) (fun X hX => by subst hX; exact ex_ld1 Tryd.underlying32 rfl rfl (HR0.out 3 _ rfl)) ?_
  (try simp only [Act.put, List.setIfInBounds_toArray, List.set_cons_zero, List.set_cons_succ])
  refine wpG_take _ (.bool false) rfl (by rfl) (fun X hX => by first | rfl | go_simp) ?_
  (try simp only [Act.put, List.setIfInBounds_toArray, List.set_cons_zero, List.set_cons_succ])
  refine wpG_take _ (.bool false) rfl (by rfl) (fun X hX => by first | rfl | go_simp) ?_
  (try simp only [Act.put, List.setIfInBounds_toArray, List.set_cons_zero, List.set_cons_succ])
  refine wpG_take _ (.bool false) rfl (by rfl) (fun X hX => by first | rfl | go_simp) ?_
  (try simp only [Act.put, List.setIfInBounds_toArray, List.set_cons_zero, List.set_cons_succ])
  refine wpG_take _ (.pointer (some ⟨D, 0, none⟩)) rfl (by rfl) (fun X hX => by first | rfl | go_simp) ?_
  (try simp only [Act.put, List.setIfInBounds_toArray, List.set_cons_zero, List.set_cons_succ])
  refine wpG_take _ (.pointer (some ⟨D, 0, none⟩)) rfl (by rfl) (fun X hX => by first | rfl | go_simp) ?_
  (try simp only [Act.put, List.setIfInBounds_toArray, List.set_cons_zero, List.set_cons_succ])
  refine wpG_take _ (.pointer (some ⟨D, 2, none⟩)) rfl (by rfl) (fun X hX => by first | rfl | go_simp) ?_
  (try simp only [Act.put, List.setIfInBounds_toArray, List.set_cons_zero, List.set_cons_succ])
  refine wpG_take _ (.slice (some ⟨gm, 0, none⟩) 2 capm) rfl (by rfl) (fun X hX => by subst hX; exact ex_ldPs rfl rfl HC2.out) ?_
  (try simp only [Act.put, List.setIfInBounds_toArray, List.set_cons_zero, List.set_cons_succ])
  refine wpG_take _ (.pointer (some ⟨gm, 41, none⟩)) rfl (by rfl) (fun X hX => q_iaP (k := 1) rfl rfl rfl ⟨by omega, HCM.out⟩) ?_
  (try simp only [Act.put, List.setIfInBounds_toArray, List.set_cons_zero, List.set_cons_succ])
  refine wpG_take _ (.agg (pcells kq2).toArray) rfl (by rfl) (fun X hX => by subst hX; exact ex_ld (ty := 37) (cs := pcells kq2) rfl rfl HR1.out Tryd.underlying37 rfl (by rw [sizeP, pcells_length kq2_ok])) ?_
  (try simp only [Act.put, List.setIfInBounds_toArray, List.set_cons_zero, List.set_cons_succ])
  refine wpG_take _ (.agg (pcells kq2).toArray) rfl (by rfl) (fun X hX => by subst hX; exact ex_ldP kq2_ok HB3.out rfl rfl) ?_
  (try simp only [Act.put, List.setIfInBounds_toArray, List.set_cons_zero, List.set_cons_succ])
  refine wpG_take _ (.bool false) rfl (by rfl) (fun X hX => (ex_neP (w := X) rfl rfl rfl kq2_ok kq2_ok).trans (by rw [eqP_same]; rfl)) ?_
  (try simp only [Act.put, List.setIfInBounds_toArray, List.set_cons_zero, List.set_cons_succ])
  refine wpG_take _ (.bool false) rfl (by rfl) (fun X hX => by first | rfl | go_simp) ?_
  (try simp only [Act.put, List.setIfInBounds_toArray, List.set_cons_zero, List.set_cons_succ])
  refine wpG_take _ (.bool false) rfl (by rfl) (fun X hX => by first | rfl | go_simp) ?_
  (try simp only [Act.put, List.setIfInBounds_toArray, List.set_cons_zero, List.set_cons_succ])
  refine wpG_take _ (.pointer (some ⟨D, 0, none⟩)) rfl (by rfl) (fun X hX => by first | rfl | go_simp) ?_
  (try simp only [Act.put, List.setIfInBounds_toArray, List.set_cons_zero, List.set_cons_succ])
  refine wpG_take _ (.pointer (some ⟨D, 0, none⟩)) rfl (by rfl) (fun X hX => by first | rfl | go_simp) ?_
  (try simp only [Act.put, List.setIfInBounds_toArray, List.set_cons_zero, List.set_cons_succ])
  refine wpG_take _ (.pointer (some ⟨D, 3, none⟩)) rfl (by rfl) (fun X hX => by first | rfl | go_simp) ?_
  (try simp only [Act.put, List.setIfInBounds_toArray, List.set_cons_zero, List.set_cons_succ])
  refine wpG_take _ (.slice spg 0 capg) rfl (by rfl) (fun X hX => by subst hX; exact ex_ldPs rfl rfl HC3.out) ?_
  (try simp only [Act.put, List.setIfInBounds_toArray, List.set_cons_zero, List.set_cons_succ])
  refine wpG_take _ (.int .i64 0) rfl (by rfl) (fun X hX => by first | rfl | go_simp) ?_
  (try simp only [Act.put, List.setIfInBounds_toArray, List.set_cons_zero, List.set_cons_succ])
  refine wpG_take _ (.bool false) rfl (by rfl) (fun X hX => by first | rfl | go_simp) ?_
  (try simp only [Act.put, List.setIfInBounds_toArray, List.set_cons_zero, List.set_cons_succ])
  refine wpG_take _ (.bool false) rfl (by rfl) (fun X hX => by first | rfl | go_simp) ?_
  (try simp only [Act.put, List.setIfInBounds_toArray, List.set_cons_zero, List.set_cons_succ])
  refine wpG_nil ?_
  clear HR0 HR1 HB3 HC2 HC3 HCM
  obtain ⟨W6, hW6⟩ : ∃ W, W5.drew = W := ⟨_, rfl⟩
  rw [hW6] at HF5 ⊢
  clear hW6
  have HB3 := Lib.hid (HF5.out.at (g := g3) (cs := pcells kq2) (t := 37) (by simp))
  have hget := HF5.out.get kq2 kq2_ok 9 (by omega) (limk 2 [] [] (by simp) (by simp) (by omega)) (by omega)
  obtain ⟨a1, a2, a3⟩ := wk2 [] []
  rw [a1, a2, a3] at hget
  have HGET := Lib.hid hget
  clear hget a1 a2 a3
  go_wp2_with (first | (refine wpL_val rfl (ex_ldP kq2_ok HB3.out rfl rfl) ?_) | fail)
  refine HGET.out.mono ?_
  rintro e W7 ⟨rfl, hf7, hl7⟩
  have HF7 := Lib.hid hf7; have HL7 := Lib.hid hl7
  clear hf7 hl7 HGET HF5 HB3
  go_upto_region 7 with (first | (refine wpList_store_row rfl 37 (.tmp 5) (.tmp 77) rfl W7.heap.size (pcells kp9).toArray rfl rfl 37 _ (heap_alloc_new W7 _) HS9.out (by rw [HL9.out]; rfl) (one_pc kp9) ?_) | fail)
  refine (fun (k : ∀ W, Fr w D (ks [] [kq2, kq1]) [(W7.heap.size, pcells kp9, 37), (g3, pcells kq2, 37), (gs, lcells (9, kp9), 45), (g2, pcells kp9, 37)] W → Code.wp _ _ _ _ W) => k _ (HF7.out.add (blk_row1 W7 _ (pcells kp9) 37).2 (Nat.le_refl _) (blk_row1 W7 _ (pcells kp9) 37).1)) ?_
  intro W8 hW8
  obtain ⟨g5, hg5⟩ : ∃ g, W7.heap.size = g := ⟨_, rfl⟩
  rw [hg5] at hW8 ⊢
  have HF8 := Lib.hid hW8
  have HB3 := Lib.hid (hW8.at (g := g3) (cs := pcells kq2) (t := 37) (by simp))
  have hget := hW8.get kq2 kq2_ok 8 (by omega) (limk 2 [] [kq2, kq1] (by simp) (by simp) (by omega)) (by omega)
  obtain ⟨a1, a2, a3⟩ := wk3 [] [kq2, kq1]
  rw [a1, a2, a3] at hget
  have HGET := Lib.hid hget
  clear hg5 hW8 HF7 HL7 hget a1 a2 a3
  go_wp2_with (first | (refine wpL_val rfl (ex_ldP kq2_ok HB3.out rfl rfl) ?_) | fail)
  refine HGET.out.mono ?_
  rintro e W9 ⟨rfl, hf9, hl9⟩
  have HF9 := Lib.hid hf9
  clear hf9 hl9 HGET HF8 HB3
  go_upto_region 8 with (first | (refine wpList_store_row rfl 37 (.tmp 7) (.tmp 84) rfl W9.heap.size (pcells zeroP).toArray rfl rfl 37 _ (heap_alloc_new W9 _) HSZ.out (by rw [HLZ.out]; rfl) (one_pc zeroP) ?_) | fail)
  refine (fun (k : ∀ W, Fr w D (ks [] [kq2, kq1, kq2, kq1]) [(W9.heap.size, pcells zeroP, 37), (g5, pcells kp9, 37), (g3, pcells kq2, 37), (gs, lcells (9, kp9), 45), (g2, pcells kp9, 37)] W → Code.wp _ _ _ _ W) => k _ (HF9.out.add (blk_row1 W9 _ (pcells zeroP) 37).2 (Nat.le_refl _) (blk_row1 W9 _ (pcells zeroP) 37).1)) ?_
  intro WA hWA
  obtain ⟨g7, hg7⟩ : ∃ g, W9.heap.size = g := ⟨_, rfl⟩
  rw [hg7] at hWA ⊢
  have HB3 := Lib.hid (hWA.at (g := g3) (cs := pcells kq2) (t := 37) (by simp))
  have hxz : Lf.OK (9, zeroP) := ⟨by show 9 < _; omega, zeroP_ok⟩
  have hWB := hWA.add ((Below.refl _ _).alloc (Nat.le_refl _) (.cells (lcells (9, zeroP)).toArray 45)) (Nat.le_refl _) (Blk.new WA (lcells (9, zeroP)) 45)
  have hset := hWB.set kq2 kq2_ok (9, zeroP) hxz (gs := WA.heap.size) (by simp) (limk 4 [] [kq2, kq1, kq2, kq1] (by simp) (by simp) (by omega)) (by omega)
  rw [wk4] at hset
  have HSET := Lib.hid hset
  clear hWA hg7 HF9 hset hxz hWB
  go_wp2_with (first | (refine wpL_val rfl (ex_ldP kq2_ok HB3.out rfl rfl) ?_) | (refine wpL_val rfl (ex_bldL0 rfl rfl) ?_) | (refine wpL_val rfl (ex_oneL (l := (9, zeroP)) zeroP_ok rfl rfl) ?_) | fail)
  refine HSET.out.mono ?_
  rintro e WC ⟨rfl, hfC, hlC⟩
  have HFC := Lib.hid hfC
  obtain ⟨gt, hgt⟩ : ∃ g, WA.heap.size = g := ⟨_, rfl⟩
  rw [hgt] at HFC ⊢
  clear hfC hlC HSET HB3 hgt
  go_upto_region 9 with (first | (refine wpList_store_row rfl 37 (.tmp 9) (.tmp 93) rfl WC.heap.size (pcells zeroP).toArray rfl rfl 37 _ (heap_alloc_new WC _) HSZ.out (by rw [HLZ.out]; rfl) (one_pc zeroP) ?_) | fail)
  refine (fun (k : ∀ W, Fr w D (ks [kp9, kq1, kq2] [kq2, kq1, kq2, kq1, kq2, kq1]) [(WC.heap.size, pcells zeroP, 37), (gt, lcells (9, zeroP), 45), (g7, pcells zeroP, 37), (g5, pcells kp9, 37), (g3, pcells kq2, 37), (gs, lcells (9, kp9), 45), (g2, pcells kp9, 37)] W → Code.wp _ _ _ _ W) => k _ (HFC.out.add (blk_row1 WC _ (pcells zeroP) 37).2 (Nat.le_refl _) (blk_row1 WC _ (pcells zeroP) 37).1)) ?_
  intro WD hWD
  obtain ⟨g9, hg9⟩ : ∃ g, WC.heap.size = g := ⟨_, rfl⟩
  rw [hg9] at hWD ⊢
  have HFD := Lib.hid hWD.drew
  clear hg9 HFC hWD
  obtain ⟨LD, vD, hD, -⟩ := HFD.out.call
  obtain ⟨gg, capg2, eg, hcg, hrg⟩ := own_rng hD.gn.1 hD.okg (by show 0 < 3; omega)
  have c3 := hD.blk.cell (j := 3) rfl
  rw [eg] at c3
  have HC3 : Hid (WD.drew.cell? ⟨D, 3, none⟩ = some (.slice (some ⟨gg, 0, none⟩) 3 capg2)) := Lib.hid c3
  have HR0 := Lib.hid (hrg 0 kp9 rfl)
  have HCG : Hid (3 ≤ capg2) := Lib.hid hcg
  have HB2 := Lib.hid (HFD.out.at (g := g2) (cs := pcells kp9) (t := 37) (by simp))
  have HB5 := Lib.hid (HFD.out.at (g := g5) (cs := pcells kp9) (t := 37) (by simp))
  have HB7 := Lib.hid (HFD.out.at (g := g7) (cs := pcells zeroP) (t := 37) (by simp))
  have HB9 := Lib.hid (HFD.out.at (g := g9) (cs := pcells zeroP) (t := 37) (by simp))
  have HE := Lib.hid (HP.out _ HFD.out.bel)
  clear hD eg hcg hrg c3
  refine wp_region_sched (.take 0 (.take 1 (.take 2 (.take 3 (.take 4 (.take 5 (.take 6 (.take 7 (.take 8 (.take 9 (.take 10 (.take 11 (.take 12 (.take 13 (.take 14 (.take 15 (.take 16 (.take 17 (.take 18 (.take 19 (.take 20 (.take 21 (.take 22 (.take 23 (.take 24 (.take 25 (.take 26 (.take 27 (.take 28 (.take 29 (.take 30 (.take 31 (.take 32 (.take 33 (.take 34 (.take 35 (.take 36 (.take 37 (.take 38 (.take 39 (.take 40 (.take 41 (.take 42 (.take 43 (.nil))))))))))))))))))))))))))))))))))))))))))))) (by kernel_rfl) (by kernel_rfl) (fun d _ _ _ _ h => by cases d <;> exact h) (fun X => X = WD.drew) (rfl) ?_
  refine wpG_take _ (.int .i64 0) rfl (by rfl) (fun X hX => by first | rfl | go_simp) ?_
  (try simp only [Act.put, List.setIfInBounds_toArray, List.set_cons_zero, List.set_cons_succ])
  refine wpG_take _ (.bool true) rfl (by rfl) (fun X hX => by first | rfl | go_simp) ?_
  (try simp only [Act.put, List.setIfInBounds_toArray, List.set_cons_zero, List.set_cons_succ])
  refine wpG_take _ (.bool true) rfl (by rfl) (fun X hX => by first | rfl | go_simp) ?_
  (try simp only [Act.put, List.setIfInBounds_toArray, List.set_cons_zero, List.set_cons_succ])
  refine wpG_take _ (.agg (pcells kp9).toArray) rfl (by rfl) (fun X hX => by subst hX; exact ex_ldP kp9_ok HB5.out rfl rfl) ?_
  (try simp only [Act.put, List.setIfInBounds_toArray, List.set_cons_zero, List.set_cons_succ])
  refine wpG_take _ (.agg (pcells kp9).toArray) rfl (by rfl) (fun X hX => by subst hX; exact ex_ldP kp9_ok HB2.out rfl rfl) ?_
  (try simp only [Act.put, List.setIfInBounds_toArray, List.set_cons_zero, List.set_cons_succ])
  refine wpG_take _ (.bool true) rfl (by rfl) (fun X hX => (ex_eqP (w := X) rfl rfl rfl kp9_ok kp9_ok).trans (by rw [eqP_same])) ?_
  (try simp only [Act.put, List.setIfInBounds_toArray, List.set_cons_zero, List.set_cons_succ])
  refine wpG_take _ (.bool true) rfl (by rfl) (fun X hX => by first | rfl | go_simp) ?_
  (try simp only [Act.put, List.setIfInBounds_toArray, List.set_cons_zero, List.set_cons_succ])
  refine wpG_take _ (.bool true) rfl (by rfl) (fun X hX => by first | rfl | go_simp) ?_
  (try simp only [Act.put, List.setIfInBounds_toArray, List.set_cons_zero, List.set_cons_succ])
  refine wpG_take _ (.int .i64 0) rfl (by rfl) (fun X hX => by first | rfl | go_simp) ?_
  (try simp only [Act.put, List.setIfInBounds_toArray, List.set_cons_zero, List.set_cons_succ])
  refine wpG_take _ (.bool true) rfl (by rfl) (fun X hX => by first | rfl | go_simp) ?_
  (try simp only [Act.put, List.setIfInBounds_toArray, List.set_cons_zero, List.set_cons_succ])
  refine wpG_take _ (.bool true) rfl (by rfl) (fun X hX => by first | rfl | go_simp) ?_
  (try simp only [Act.put, List.setIfInBounds_toArray, List.set_cons_zero, List.set_cons_succ])
  refine wpG_take _ (.bool true) rfl (by rfl) (fun X hX => by first | rfl | go_simp) ?_
  (try simp only [Act.put, List.setIfInBounds_toArray, List.set_cons_zero, List.set_cons_succ])
  refine wpG_take _ (.agg (pcells zeroP).toArray) rfl (by rfl) (fun X hX => by subst hX; exact ex_ldP zeroP_ok HB7.out rfl rfl) ?_
  (try simp only [Act.put, List.setIfInBounds_toArray, List.set_cons_zero, List.set_cons_succ])
  refine wpG_take _ (.agg (pcells zeroP).toArray) rfl (by rfl) (fun X hX => ex_bld0 rfl) ?_
  (try simp only [Act.put, List.setIfInBounds_toArray, List.set_cons_zero, List.set_cons_succ])
  refine wpG_take _ (.bool true) rfl (by rfl) (fun X hX => (ex_eqP (w := X) rfl rfl rfl zeroP_ok zeroP_ok).trans (by rw [eqP_same])) ?_
  (try simp only [Act.put, List.setIfInBounds_toArray, List.set_cons_zero, List.set_cons_succ])
  refine wpG_take _ (.bool true) rfl (by rfl) (fun X hX => by first | rfl | go_simp) ?_
  (try simp only [Act.put, List.setIfInBounds_toArray, List.set_cons_zero, List.set_cons_succ])
  refine wpG_take _ (.bool true) rfl (by rfl) (fun X hX => by first | rfl | go_simp) ?_
  (try simp only [Act.put, List.setIfInBounds_toArray, List.set_cons_zero, List.set_cons_succ])
  refine wpG_take _ (.int .i64 0) rfl (by rfl) (fun X hX => by first | rfl | go_simp) ?_
  (try simp only [Act.put, List.setIfInBounds_toArray, List.set_cons_zero, List.set_cons_succ])
  refine wpG_take _ (.bool true) rfl (by rfl) (fun X hX => by first | rfl | go_simp) ?_
  (try simp only [Act.put, List.setIfInBounds_toArray, List.set_cons_zero, List.set_cons_succ])
  refine wpG_take _ (.bool true) rfl (by rfl) (fun X hX => by first | rfl | go_simp) ?_
  (try simp only [Act.put, List.setIfInBounds_toArray, List.set_cons_zero, List.set_cons_succ])
  refine wpG_take _ (.bool true) rfl (by rfl) (fun X hX => by first | rfl | go_simp) ?_
  (try simp only [Act.put, List.setIfInBounds_toArray, List.set_cons_zero, List.set_cons_succ])
  refine wpG_take _ (.agg (pcells zeroP).toArray) rfl (by rfl) (fun X hX => by subst hX; exact ex_ldP zeroP_ok HB9.out rfl rfl) ?_
  (try simp only [Act.put, List.setIfInBounds_toArray, List.set_cons_zero, List.set_cons_succ])
  refine wpG_take _ (.agg (pcells zeroP).toArray) rfl (by rfl) (fun X hX => ex_bld0 rfl) ?_
  (try simp only [Act.put, List.setIfInBounds_toArray, List.set_cons_zero, List.set_cons_succ])
  refine wpG_take _ (.bool true) rfl (by rfl) (fun X hX => (ex_eqP (w := X) rfl rfl rfl zeroP_ok zeroP_ok).trans (by rw [eqP_same])) ?_
  (try simp only [Act.put, List.setIfInBounds_toArray, List.set_cons_zero, List.set_cons_succ])
  refine wpG_take _ (.bool true) rfl (by rfl) (fun X hX => by first | rfl | go_simp) ?_
  (try simp only [Act.put, List.setIfInBounds_toArray, List.set_cons_zero, List.set_cons_succ])
  refine wpG_take _ (.bool true) rfl (by rfl) (fun X hX => by first | rfl | go_simp) ?_
  (try simp only [Act.put, List.setIfInBounds_toArray, List.set_cons_zero, List.set_cons_succ])
  refine wpG_take _ (.pointer (some ⟨D, 0, none⟩)) rfl (by rfl) (fun X hX => by first | rfl | go_simp) ?_
  (try simp only [Act.put, List.setIfInBounds_toArray, List.set_cons_zero, List.set_cons_succ])
  refine wpG_take _ (.pointer (some ⟨D, 0, none⟩)) rfl (by rfl) (fun X hX => by first | rfl | go_simp) ?_
  (try simp only [Act.put, List.setIfInBounds_toArray, List.set_cons_zero, List.set_cons_succ])
  refine wpG_take _ (.pointer (some ⟨D, 3, none⟩)) rfl (by rfl) (fun X hX => by first | rfl | go_simp) ?_
  (try simp only [Act.put, List.setIfInBounds_toArray, List.set_cons_zero, List.set_cons_succ])
  refine wpG_take _ (.slice (some ⟨gg, 0, none⟩) 3 capg2) rfl (by rfl) (fun X hX => by subst hX; exact ex_ldPs rfl rfl HC3.out) ?_
  (try simp only [Act.put, List.setIfInBounds_toArray, List.set_cons_zero, List.set_cons_succ])
  refine wpG_take _ (.int .i64 3) rfl (by rfl) (fun X hX => by first | rfl | go_simp) ?_
  (try simp only [Act.put, List.setIfInBounds_toArray, List.set_cons_zero, List.set_cons_succ])
  refine wpG_take _ (.bool true) rfl (by rfl) (fun X hX => by first | rfl | go_simp) ?_
  (try simp only [Act.put, List.setIfInBounds_toArray, List.set_cons_zero, List.set_cons_succ])
  refine wpG_take _ (.bool true) rfl (by rfl) (fun X hX => by first | rfl | go_simp) ?_
  (try simp only [Act.put, List.setIfInBounds_toArray, List.set_cons_zero, List.set_cons_succ])
  refine wpG_take _ (.bool true) rfl (by rfl) (fun X hX => by first | rfl | go_simp) ?_
  (try simp only [Act.put, List.setIfInBounds_toArray, List.set_cons_zero, List.set_cons_succ])
  refine wpG_take _ (.pointer (some ⟨D, 0, none⟩)) rfl (by rfl) (fun X hX => by first | rfl | go_simp) ?_
  (try simp only [Act.put, List.setIfInBounds_toArray, List.set_cons_zero, List.set_cons_succ])
  refine wpG_take _ (.pointer (some ⟨D, 0, none⟩)) rfl (by rfl) (fun X hX => by first | rfl | go_simp) ?_
  (try simp only [Act.put, List.setIfInBounds_toArray, List.set_cons_zero, List.set_cons_succ])
  refine wpG_take _ (.pointer (some ⟨D, 3, none⟩)) rfl (by rfl) (fun X hX => by first | rfl | go_simp) ?_
  (try simp only [Act.put, List.setIfInBounds_toArray, List.set_cons_zero, List.set_cons_succ])
  refine wpG_take _ (.slice (some ⟨gg, 0, none⟩) 3 capg2) rfl (by rfl) (fun X hX => by subst hX; exact ex_ldPs rfl rfl HC3.out) ?_
  (try simp only [Act.put, List.setIfInBounds_toArray, List.set_cons_zero, List.set_cons_succ])
  refine wpG_take _ (.pointer (some ⟨gg, 0, none⟩)) rfl (by rfl) (fun X hX => q_iaP (k := 0) rfl rfl rfl ⟨by omega, HCG.out⟩) ?_
  (try simp only [Act.put, List.setIfInBounds_toArray, List.set_cons_zero, List.set_cons_succ])
  refine wpG_take _ (.agg (pcells kp9).toArray) rfl (by rfl) (fun X hX => by subst hX; exact ex_ld (ty := 37) (cs := pcells kp9) rfl rfl HR0.out Tryd.underlying37 rfl (by rw [sizeP, pcells_length kp9_ok])) ?_
  (try simp only [Act.put, List.setIfInBounds_toArray, List.set_cons_zero, List.set_cons_succ])
  refine wpG_take _ (.agg (pcells kp9).toArray) rfl (by rfl) (fun X hX => by subst hX; exact ex_ldP kp9_ok HB2.out rfl rfl) ?_
  (try simp only [Act.put, List.setIfInBounds_toArray, List.set_cons_zero, List.set_cons_succ])
  refine wpG_take _ (.bool true) rfl (by rfl) (fun X hX => (ex_eqP (w := X) rfl rfl rfl kp9_ok kp9_ok).trans (by rw [eqP_same])) ?_
  (try simp only [Act.put, List.setIfInBounds_toArray, List.set_cons_zero, List.set_cons_succ])
  refine wpG_take _ (.bool true) rfl (by rfl) (fun X hX => by first | rfl | go_simp) ?_
  (try simp only [Act.put, List.setIfInBounds_toArray, List.set_cons_zero, List.set_cons_succ])
  refine wpG_take _ (.bool true) rfl (by rfl) (fun X hX => by first | rfl | go_simp) ?_
  (try simp only [Act.put, List.setIfInBounds_toArray, List.set_cons_zero, List.set_cons_succ])
  refine wpG_nil ?_
  clear HC3 HR0 HCG HB2 HB5 HB7 HB9 HFD HP
  go_wp2_with fail
  first | exact HE.out | (go_ret; exact HE.out)
end Go.Proofs.YtfcjeceoedfldaaDoor
/- No source; what errors there are; what is bad stays. -/
namespace Go.Proofs.YtfcjeceoedfldaaDoor
open Go.RowKit

attribute [local go_sem] Oper.semAt_some

/-- The errors of a walk and of a Set; what is bad stays. -/
def EOk (e : Nat) : Prop := e = 0 ∨ e = 5 ∨ e = 6 ∨ e = 21 ∨ e = 30
theorem EOk.ne {e : Nat} (h : EOk e) : e ≠ 1 := by unfold EOk at h; omega
theorem rdE_ok (s : Sh) (p : Pt) : rdE s p = 0 ∨ rdE s p = 6 ∨ rdE s p = 21 := by
  unfold rdE
  split
  · omega
  · split <;> omega
theorem rnE_ok (s : Sh) (p : Pt) : EOk (rnE s p) := by
  have h := rdE_ok s p
  unfold rnE EOk
  split
  · omega
  · split
    · omega
    · split <;> omega
theorem rnS_bad (s : Sh) (p : Pt) : (rnS s p).bad = s.bad := by unfold rnS; split <;> rfl
theorem goB_pres {f : Sh → List Pt → List Lf → Pt → Nat → Bw} (hf : ∀ s ns ls q a, EOk (f s ns ls q a).e ∧ (f s ns ls q a).s.bad = s.bad) (wide first fr tt : Nat) : ∀ (qs : List Pt) (i : Nat) (s : Sh) (ns : List Pt) (ls : List Lf), EOk (goB f wide first fr tt qs i s ns ls).e ∧ (goB f wide first fr tt qs i s ns ls).s.bad = s.bad
  | [], i, s, ns, ls => ⟨.inl rfl, rfl⟩
  | q :: qs, i, s, ns, ls => by
    by_cases hc : first + i * wide + wide ≤ fr ∨ tt ≤ first + i * wide
    · rw [goB_skip hc]; exact goB_pres hf wide first fr tt qs _ _ _ _
    · by_cases he : (f s ns ls q (first + i * wide)).e = 0
      · rw [goB_ok hc he]
        have h1 := goB_pres hf wide first fr tt qs (i + 1) (f s ns ls q (first + i * wide)).s (f s ns ls q (first + i * wide)).ns (f s ns ls q (first + i * wide)).ls
        exact ⟨h1.1, h1.2.trans (hf _ _ _ _ _).2⟩
      · rw [goB_err hc he]; exact hf _ _ _ _ _
theorem belowP_pres (fr tt : Nat) : ∀ (n : Nat) (s : Sh) (ns : List Pt) (ls : List Lf) (p : Pt) (first : Nat), EOk (belowP fr tt n s ns ls p first).e ∧ (belowP fr tt n s ns ls p first).s.bad = s.bad
  | 0, s, ns, ls, p, first => by
    unfold belowP
    split
    · exact ⟨.inl rfl, rfl⟩
    · exact ⟨.inl rfl, rfl⟩
  | n + 1, s, ns, ls, p, first => by
    rw [belowP_succ]
    split
    · exact ⟨.inl rfl, rfl⟩
    · split
      · exact ⟨rnE_ok s p, rnS_bad s p⟩
      · have h1 := goB_pres (belowP_pres fr tt n) (8 ^ n) first fr tt (rnN s p) 0 (rnS s p) (ns ++ [p]) ls
        exact ⟨h1.1, h1.2.trans (rnS_bad s p)⟩
/-- Whether a root may be. -/
def rootOk (p : Pt) : Bool := eqP p zeroP || (mayP p && decide (p.kind = 3) && decide (p.level = 2))
theorem refE_may (p : Pt) : refE p = if rootOk p = true then 0 else 1 := by
  unfold refE rootOk
  cases h1 : eqP p zeroP
  · cases h2 : mayP p
    · simp
    · by_cases h3 : p.kind = 3
      · by_cases h4 : p.level = 2
        · simp [h3, h4]
        · simp [h4]
      · simp [h3]
  · simp
theorem getE_one (s : Sh) (p : Pt) (off : Nat) : (getE s p off = 1) ↔ (rootOk p = false ∨ 64 ≤ off) := by
  unfold getE
  rw [refE_may]
  cases h : rootOk p
  · simp
  · have := (belowP_pres off (off + 1) 2 s [] [] p 0).1.ne
    by_cases h64 : 64 ≤ off
    · simp [h64]
    · simp [h64]; exact this
end Go.Proofs.YtfcjeceoedfldaaDoor
