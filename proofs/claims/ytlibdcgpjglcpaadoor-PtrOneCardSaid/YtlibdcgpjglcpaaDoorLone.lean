/- THE STAGE's THEOREM, walked: a block fits one tag, and a tag one block. -/
import Derived.Test.YtlibdcgpjglcpaaDoorPvb
import Derived.Test.YtlibdcgpjglcpaaDoorPx
import Derived.Test.YtlibdcgpjglcpaaDoorReg
import Derived.Deep.DeepCutAuto
namespace Go.Proofs.YtlibdcgpjglcpaaDoor
open Go.RowKit

theorem ex_cvs {ρ : Operand → Value} {o : Oper} {x : Operand} {sp : Option Addr} {cap n : Nat} {l : Bs} {w : World} (ho : o.op = .convert 29 9 x) (hn : l.length = n) (hx : ρ x = .slice sp n cap) (hS : SrcA w sp l) : (execOp ρ o).run Tryd.prog w = .ok (.value (.string (bstr l))) w := by
  subst hn
  have h := conv_str (cap := cap) hS
  unfold execOp
  simp only [ho, hx]
  simp only [Sem.run_bind, h, Result.andThen_ok, Sem.run_pure]
theorem ex_eqH {ρ : Operand → Value} {o : Oper} {x y : Operand} {a b : Bs} {w : World} (ho : o.op = .binOp .eql 25 x y 25) (hx : ρ x = .agg (a.map V8).toArray) (hy : ρ y = .agg (b.map V8).toArray) (ha : a.length = 32) (hb : b.length = 32) : (execOp ρ o).run Tryd.prog w = .ok (.value (.bool (decide (a = b)))) w := by
  have h := eq_hash ha hb 9998 w
  unfold execOp
  simp only [ho]
  go_simp
theorem ex_neH {ρ : Operand → Value} {o : Oper} {x y : Operand} {a b : Bs} {w : World} (ho : o.op = .binOp .neq 25 x y 25) (hx : ρ x = .agg (a.map V8).toArray) (hy : ρ y = .agg (b.map V8).toArray) (ha : a.length = 32) (hb : b.length = 32) : (execOp ρ o).run Tryd.prog w = .ok (.value (.bool (!decide (a = b)))) w := by
  have h := eq_hash ha hb 9998 w
  unfold execOp
  simp only [ho]
  go_simp
theorem ex_eqHs {ρ : Operand → Value} {o : Oper} {x y : Operand} {a : Bs} {w : World} (ho : o.op = .binOp .eql 25 x y 25) (hx : ρ x = .agg (a.map V8).toArray) (hy : ρ y = .agg (a.map V8).toArray) (ha : a.length = 32) : (execOp ρ o).run Tryd.prog w = .ok (.value (.bool true)) w := by
  have h := ex_eqH (w := w) ho hx hy ha ha
  rw [decide_eq_true rfl] at h
  exact h
theorem ex_neHs {ρ : Operand → Value} {o : Oper} {x y : Operand} {a : Bs} {w : World} (ho : o.op = .binOp .neq 25 x y 25) (hx : ρ x = .agg (a.map V8).toArray) (hy : ρ y = .agg (a.map V8).toArray) (ha : a.length = 32) : (execOp ρ o).run Tryd.prog w = .ok (.value (.bool false)) w := by
  have h := ex_neH (w := w) ho hx hy ha ha
  rw [decide_eq_true rfl] at h
  exact h
section
variable {p : Pt} {bs : Bs} {sp : Option Addr} {cap : Nat} {w : World}
theorem seal512 (hp : p.OK) (hb : bs.length = 512) (hc : 512 ≤ cap) (hc2 : cap ≤ maxLen) (hS : SrcA w sp bs) (hT : Tab w) : Calls Tryd.prog 20 #[.agg (pcells p).toArray, .slice sp 512 cap] w fun e w' => e = .returned (.agg (pcells (sealP p bs)).toArray) ∧ Below w.heap.size w w' := by
  have h := seal_any p hp bs sp cap w (by omega) (by omega) hc2 hS hT
  rw [hb] at h
  exact h
theorem fits512 (hp : p.OK) (hb : bs.length = 512) (hc : 512 ≤ cap) (hc2 : cap ≤ maxLen) (hS : SrcA w sp bs) (hT : Tab w) : Calls Tryd.prog 21 #[.agg (pcells p).toArray, .slice sp 512 cap] w fun e w' => e = .returned (.bool (fitsP p bs)) ∧ Below w.heap.size w w' := by
  have h := fits_any p hp bs sp cap w (by omega) (by omega) hc2 hS hT
  rw [hb] at h
  exact h
theorem digest512 (hp : p.OK) (hb : bs.length = 512) (hz : sp = none → cap = 0) (hS : SrcA w sp bs) : Calls Tryd.prog 22 #[.agg (pcells p).toArray, .slice sp 512 cap] w fun e w' => e = .returned (.agg ((digest (tagB p ++ bs)).map V8).toArray) ∧ Below w.heap.size w w' := by
  have h := qdigest_any p hp bs sp cap w (by omega) hz hS
  rw [hb] at h
  exact h
end
/-- What the law holds. -/
structure OnS (p q s : Pt) (bs os : Bs) (sp1 sp2 : Option Addr) (w : World) (g : Nat) (X : World) : Prop where
  p : Blk X w.heap.size (pcells p) 28
  q : Blk X (w.heap.size + 1) (pcells q) 28
  s : Blk X g (pcells s) 28
  b : SrcA X sp1 bs
  o : SrcA X sp2 os
  tab : Tab X
  rt : RTab X
  bel : Below w.heap.size w X
section
variable {p q s : Pt} {bs os : Bs} {sp1 sp2 : Option Addr} {w X Y : World} {g : Nat}
theorem OnS.grown (h : OnS p q s bs os sp1 sp2 w g X) (hb : Below X.heap.size X Y) : OnS p q s bs os sp1 sp2 w g Y :=
  ⟨h.p.below hb h.p.lt, h.q.below hb h.q.lt, h.s.below hb h.s.lt, h.b.grown hb, h.o.grown hb, h.tab.below hb (Nat.le_refl _), h.rt.grown hb, h.bel.trans (hb.mono h.bel.size)⟩
theorem OnS.drew (h : OnS p q s bs os sp1 sp2 w g X) : OnS p q s bs os sp1 sp2 w g X.drew := h.grown (Below.refl _ _).drew
end
/-- Are the tags alike? -/
def tagsB (q s : Pt) : Bool := decide (q.kind = s.kind ∧ q.level = s.level ∧ q.obj = s.obj ∧ q.off = s.off ∧ q.birth = s.birth)
theorem tagsB_tag {q s : Pt} (h : tagsB q s = true) : tagB q = tagB s := by
  obtain ⟨h1, h2, h3, h4, h5⟩ := of_decide_eq_true h
  unfold tagB
  rw [h1, h2, h3, h4, h5]
set_option maxRecDepth 100000 in
set_option maxHeartbeats 16000000 in
theorem ptrOne_go (p q : Pt) (hp : p.OK) (hq : q.OK) (bs os : Bs) (sp1 sp2 : Option Addr) (cap1 cap2 : Nat) (w : World) (hb : bs.length = 512) (ho : os.length = 512) (hc1 : 512 ≤ cap1) (hc2 : 512 ≤ cap2) (hm1 : cap1 ≤ maxLen) (hm2 : cap2 ≤ maxLen) (hz1 : sp1 = none → cap1 = 0) (hz2 : sp2 = none → cap2 = 0) (hS1 : SrcA w sp1 bs) (hS2 : SrcA w sp2 os) (hT : Tab w) (hR : RTab w) :
    Calls Tryd.prog 5 #[.agg (pcells p).toArray, .agg (pcells q).toArray, .slice sp1 512 cap1, .slice sp2 512 cap2] w fun e w' => e = .returned (.bool true) ∧ Below w.heap.size w w' := by
  have HP := Lib.hid hp; have HQ := Lib.hid hq; have HB := Lib.hid hb; have HO := Lib.hid ho
  have HC1 := Lib.hid hc1; have HC2 := Lib.hid hc2; have HM1 := Lib.hid hm1; have HM2 := Lib.hid hm2; have HZ1 := Lib.hid hz1; have HZ2 := Lib.hid hz2
  have HSO := Lib.hid (sealP_ok hp bs)
  obtain ⟨s, hs⟩ : ∃ s, sealP p bs = s := ⟨_, rfl⟩
  have HSE := Lib.hid hs
  rw [hs] at HSO
  have HST : Hid (∀ W, W = (w.alloc (.cells (pcells p).toArray 28)).alloc (.cells (pcells q).toArray 28) → Blk W w.heap.size (pcells p) 28 ∧ Blk W (w.heap.size + 1) (pcells q) 28 ∧ Below w.heap.size w W) := Lib.hid (fun W e => by
    subst e
    exact ⟨(Blk.new _ _ _).alloc _, Blk.new' _ _ _ _ _ (by simp) rfl, ((Below.refl _ _).alloc (Nat.le_refl _) _).alloc (by simp) _⟩)
  have HS1 := Lib.hid hS1; have HS2 := Lib.hid hS2; have HT := Lib.hid hT; have HR := Lib.hid hR
  have HSW1 := Lib.hid hS1; have HSW2 := Lib.hid hS2; have HTW := Lib.hid hT; have HRW := Lib.hid hR
  clear hp hq hb ho hc1 hc2 hm1 hm2 hz1 hz2 hs hS1 hS2 hT hR
  have HLP := Lib.hid (pcells_length HP.out)
  go_enter Tryd.func5, Tryd.ntmps5
  go_upto_region 3 with fail
  obtain ⟨W0, hW0⟩ : ∃ W0, (w.alloc (.cells (pcells p).toArray 28)).alloc (.cells (pcells q).toArray 28) = W0 := ⟨_, rfl⟩
  rw [hW0]
  have h0 := HST.out W0 hW0.symm
  have HA0 := Lib.hid h0.1; have HQ0 := Lib.hid h0.2.1; have HB0 := Lib.hid h0.2.2
  clear h0 hW0 HST
  go_wp2_with (first | (refine wpL_val rfl (ex_ld (ty := 28) (cs := pcells p) rfl rfl (rng_all HA0.out) Tryd.underlying28 rfl (by rw [sizeP, HLP.out])) ?_) | fail)
  refine (seal512 HP.out HB.out HC1.out HM1.out (HS1.out.below HB0.out (Nat.le_refl _)) (HT.out.below HB0.out (Nat.le_refl _))).mono ?_
  rintro e1 W1 ⟨rfl, hb1⟩
  rw [HSE.out]
  have HA1 := Lib.hid (HA0.out.below hb1 HA0.out.lt); have HQ1 := Lib.hid (HQ0.out.below hb1 HQ0.out.lt); have HB1 := Lib.hid (HB0.out.trans (hb1.mono HB0.out.size))
  clear hb1 HA0 HQ0 HB0
  have HSS := Lib.hid (size_pc HSO.out)
  have HLS : Hid ((pcells s).toArray.size = 41) := Lib.hid (by rw [List.size_toArray, pcells_length HSO.out])
  go_upto_region 4 with (first | (refine wpList_store_row rfl 28 (.tmp 9) (.tmp 22) rfl W1.heap.size (pcells s).toArray rfl rfl 28 _ (heap_alloc_new W1 _) HSS.out (by rw [HLS.out]; rfl) (one_pc s) ?_) | fail)
  refine (fun (k : ∀ W, Blk W W1.heap.size (pcells s) 28 → Below W1.heap.size W1 W → Code.wp _ _ _ _ W) => k _ (blk_row1 W1 _ (pcells s) 28).1 (blk_row1 W1 _ (pcells s) 28).2) ?_
  intro W2 hs2 hb2
  have hq1 := HQ1.out.lt
  have hBB := HB1.out.trans (hb2.mono HB1.out.size)
  have hW2 : OnS p q s bs os sp1 sp2 w W1.heap.size W2 := ⟨HA1.out.below hb2 HA1.out.lt, HQ1.out.below hb2 HQ1.out.lt, hs2, HS1.out.below hBB (Nat.le_refl _), HS2.out.below hBB (Nat.le_refl _), HT.out.below hBB (Nat.le_refl _), HR.out.below hBB (Nat.le_refl _), hBB⟩
  obtain ⟨g, hg⟩ : ∃ g, W1.heap.size = g := ⟨_, rfl⟩
  rw [hg] at hW2 hq1 ⊢
  have HGQ := Lib.hid hq1
  have HW2 := Lib.hid hW2
  clear hs2 hb2 hBB hW2 hg hq1 HA1 HQ1 HB1 HS1 HS2 HT HR HSS HLS HLP
  (try simp only [Act.put, List.setIfInBounds_toArray, List.set_cons_zero, List.set_cons_succ])
  go_cut [32] (fun v wx => v = .bool false ∧ OnS p q s bs os sp1 sp2 w g wx)
  case first =>
    cases hms : mayP s
    · have HMS := Lib.hid hms
      clear hms
      refine wp_region_sched (.take 0 (.step 1 (.take 2 (.take 3 (.take 7 (.step 4 (.step 5 (.step 6 (.take 8 (.take 9 (.nil))))))))))) (by kernel_rfl) (by kernel_rfl) (fun d _ _ _ _ h => by cases d <;> exact h) (OnS p q s bs os sp1 sp2 w g) HW2.out.drew ?_
      refine wpG_take _ (.agg (pcells s).toArray) rfl (by rfl) (fun X hX => ex_ld (ty := 28) (cs := pcells s) rfl rfl (rng_all hX.s) Tryd.underlying28 rfl (by rw [sizeP, pcells_length HSO.out])) ?_
      (try simp only [Act.put, List.setIfInBounds_toArray, List.set_cons_zero, List.set_cons_succ])
      refine wpG_call _ rfl (by rfl) 7 #[.agg (pcells s).toArray] (fun _ => by go_simp) (fun u _ => u = .bool false) ((may_any s HSO.out W2.drew HW2.out.drew.rt).mono fun e w' ⟨e1, e2⟩ => ⟨_, e1, HW2.out.drew.grown e2, by rw [HMS.out]⟩) ?_
      rintro u X1 hs1 rfl
      refine ⟨_, fun _ h => h, hs1, ?_⟩
      (try simp only [Act.put, List.setIfInBounds_toArray, List.set_cons_zero, List.set_cons_succ])
      refine wpG_take _ (.bool false) rfl (by rfl) (fun X hX => by first | rfl | go_simp) ?_
      (try simp only [Act.put, List.setIfInBounds_toArray, List.set_cons_zero, List.set_cons_succ])
      refine wpG_pass _ rfl (by rfl) ?_
      (try simp only [Act.put, List.setIfInBounds_toArray, List.set_cons_zero, List.set_cons_succ])
      refine wpG_pass _ rfl (by rfl) ?_
      (try simp only [Act.put, List.setIfInBounds_toArray, List.set_cons_zero, List.set_cons_succ])
      refine wpG_skip _ rfl (by rfl) hs1 ?_
      (try simp only [Act.put, List.setIfInBounds_toArray, List.set_cons_zero, List.set_cons_succ])
      refine wpG_skip _ rfl (by rfl) hs1 ?_
      (try simp only [Act.put, List.setIfInBounds_toArray, List.set_cons_zero, List.set_cons_succ])
      refine wpG_skip _ rfl (by rfl) hs1 ?_
      (try simp only [Act.put, List.setIfInBounds_toArray, List.set_cons_zero, List.set_cons_succ])
      refine wpG_pass _ rfl (by rfl) ?_
      (try simp only [Act.put, List.setIfInBounds_toArray, List.set_cons_zero, List.set_cons_succ])
      refine wpG_take _ (.bool false) rfl (by rfl) (fun X hX => by first | rfl | go_simp) ?_
      (try simp only [Act.put, List.setIfInBounds_toArray, List.set_cons_zero, List.set_cons_succ])
      refine wpG_nil ?_
      have HX := Lib.hid hs1
      clear hs1
      go_wp2_with fail
      go_meet
      case rel => exact ⟨rfl, HX.out⟩
    · have HMS := Lib.hid hms
      clear hms
      refine wp_region_sched (.take 0 (.step 1 (.take 2 (.take 3 (.take 7 (.step 4 (.step 5 (.step 6 (.take 8 (.take 9 (.nil))))))))))) (by kernel_rfl) (by kernel_rfl) (fun d _ _ _ _ h => by cases d <;> exact h) (OnS p q s bs os sp1 sp2 w g) HW2.out.drew ?_
      refine wpG_take _ (.agg (pcells s).toArray) rfl (by rfl) (fun X hX => ex_ld (ty := 28) (cs := pcells s) rfl rfl (rng_all hX.s) Tryd.underlying28 rfl (by rw [sizeP, pcells_length HSO.out])) ?_
      (try simp only [Act.put, List.setIfInBounds_toArray, List.set_cons_zero, List.set_cons_succ])
      refine wpG_call _ rfl (by rfl) 7 #[.agg (pcells s).toArray] (fun _ => by go_simp) (fun u _ => u = .bool true) ((may_any s HSO.out W2.drew HW2.out.drew.rt).mono fun e w' ⟨e1, e2⟩ => ⟨_, e1, HW2.out.drew.grown e2, by rw [HMS.out]⟩) ?_
      rintro u X1 hs1 rfl
      refine ⟨_, fun _ h => h, hs1, ?_⟩
      (try simp only [Act.put, List.setIfInBounds_toArray, List.set_cons_zero, List.set_cons_succ])
      refine wpG_take _ (.bool true) rfl (by rfl) (fun X hX => by first | rfl | go_simp) ?_
      (try simp only [Act.put, List.setIfInBounds_toArray, List.set_cons_zero, List.set_cons_succ])
      refine wpG_take _ (.agg (pcells s).toArray) rfl (by rfl) (fun X hX => ex_ld (ty := 28) (cs := pcells s) rfl rfl (rng_all hX.s) Tryd.underlying28 rfl (by rw [sizeP, pcells_length HSO.out])) ?_
      (try simp only [Act.put, List.setIfInBounds_toArray, List.set_cons_zero, List.set_cons_succ])
      refine wpG_take _ (.agg (pcells s).toArray) rfl (by rfl) (fun X hX => ex_ld (ty := 28) (cs := pcells s) rfl rfl (rng_all hX.s) Tryd.underlying28 rfl (by rw [sizeP, pcells_length HSO.out])) ?_
      (try simp only [Act.put, List.setIfInBounds_toArray, List.set_cons_zero, List.set_cons_succ])
      refine wpG_call _ rfl (by rfl) 9 #[.slice none 0 0, .agg (pcells s).toArray] (fun _ => by go_simp) (fun u w' => ∃ sp cap, u = .slice sp 64 cap ∧ 64 ≤ cap ∧ SrcA w' sp (padB s) ∧ (sp = none → cap = 0)) ((ptrPut_any s HSO.out [] none 0 X1 (by simp) (SrcA.nil _ _) (fun _ => rfl)).mono fun e w' ⟨v, e1, e2, e3⟩ => ⟨_, e1, hs1.grown e3, by
        obtain ⟨sp, cap, e, q1, q2, q3, q4, q5⟩ := OwnB.form e2
        rw [List.nil_append] at e q1 q3
        rw [padB_length HSO.out] at e q1
        exact ⟨sp, cap, e, q1, q3, q4⟩⟩) ?_
      rintro u X2 hs2 ⟨sp, cap, rfl, q1, q3, q4⟩
      refine ⟨_, fun _ h => h, hs2, ?_⟩
      (try simp only [Act.put, List.setIfInBounds_toArray, List.set_cons_zero, List.set_cons_succ])
      have hnw : Calls Tryd.prog 15 #[.slice sp 64 cap] X2 (RetRd (padB s) X2) := by
        have h := new_any (padB s) sp cap X2 (by rw [padB_length HSO.out]; omega) q4 (by rw [padB_length HSO.out]; exact q1) q3
        rw [padB_length HSO.out] at h
        exact h
      refine wpG_call _ rfl (by rfl) 15 #[.slice sp 64 cap] (fun _ => by go_simp) (fun u w' => ∃ H, u = .pointer (some ⟨H, 0, none⟩) ∧ RdAt w' H (fun g => X2.heap.size ≤ g ∧ g < H) (padB s) 0 ∧ X2.heap.size ≤ H ∧ Below X2.heap.size X2 w') (hnw.mono fun e w' ⟨H, e1, e2, e3, e4⟩ => ⟨_, e1, hs2.grown e4, H, rfl, e2, e3, e4⟩) ?_
      rintro u X3 hs3 ⟨H, rfl, hrd3, hH3, hb3⟩
      refine ⟨_, fun _ h => h, hs3, ?_⟩
      (try simp only [Act.put, List.setIfInBounds_toArray, List.set_cons_zero, List.set_cons_succ])
      refine wpG_call _ rfl (by rfl) 16 #[.pointer (some ⟨H, 0, none⟩)] (fun _ => by go_simp) (fun u _ => u = .agg (pcells s).toArray) ((ptrTake_any (padB s) 0 H X3 hrd3 (fun g hg => Nat.lt_trans hg.2 hrd3.lt) (by rw [padB_length HSO.out]; omega) hs3.rt (by have := hs2.rt.lt; omega)).mono fun e w' ⟨e1, e2, e3⟩ => ⟨_, e1, hs2.grown (hb3.trans (e3.below hH3 hb3.size)), by rw [(taken_padB HSO.out HMS.out).2]⟩) ?_
      rintro u X4 hs4 rfl
      refine ⟨_, fun _ h => h, hs4, ?_⟩
      (try simp only [Act.put, List.setIfInBounds_toArray, List.set_cons_zero, List.set_cons_succ])
      refine wpG_take _ (.bool false) rfl (by rfl) (fun X hX => ex_nePs (p := s) rfl rfl rfl HSO.out) ?_
      (try simp only [Act.put, List.setIfInBounds_toArray, List.set_cons_zero, List.set_cons_succ])
      refine wpG_take _ (.bool false) rfl (by rfl) (fun X hX => by first | rfl | go_simp) ?_
      (try simp only [Act.put, List.setIfInBounds_toArray, List.set_cons_zero, List.set_cons_succ])
      refine wpG_nil ?_
      have HX := Lib.hid hs4
      clear hs1 hs2 hs3 hs4 hrd3 hH3 hb3 hnw q1 q3 q4
      go_wp2_with fail
      go_meet
      case rel => exact ⟨rfl, HX.out⟩
  case rest =>
  obtain ⟨rfl, hX⟩ := hcut
  obtain ⟨q', hq'⟩ : ∃ q' : Pt, { q with hash := s.hash } = q' := ⟨_, rfl⟩
  have HQE := Lib.hid hq'
  have HQO : Hid q'.OK := Lib.hid (by rw [← hq']; exact ⟨HQ.out.kind, HQ.out.level, HQ.out.obj, HQ.out.off, HQ.out.birth, HSO.out.hash, HQ.out.len, HQ.out.ats⟩)
  have hY : OnS p q' s bs os sp1 sp2 w g (wc.setCells (w.heap.size + 1) 5 (s.hash.map V8).toArray.toList) := by
    have h1 := blk_setCells (w.heap.size + 1) 28 (s.hash.map V8) 5 wc _ hX.q (by simp [HSO.out.hash, pcells_length HQ.out])
    rw [pc_hash HQ.out _ HSO.out.hash, HQE.out] at h1
    have hbf := (ButFor.refl (w.heap.size + 1) wc).sets (s.hash.map V8) 5
    have hlt := HGQ.out
    have hsz := hX.bel.size
    have hb : Below w.heap.size w (wc.setCells (w.heap.size + 1) 5 (s.hash.map V8)) := hX.bel.trans (hbf.below (by omega) hsz)
    exact ⟨hbf.blk hX.p (by omega), h1, hbf.blk hX.s (by omega), HSW1.out.below hb (Nat.le_refl _), HSW2.out.below hb (Nat.le_refl _), HTW.out.below hb (Nat.le_refl _), HRW.out.below hb (Nat.le_refl _), hb⟩
  have HTH : Hid (wc.there (w.heap.size + 1) 5 (s.hash.map V8).toArray.size) := Lib.hid (hX.q.there 5 _ (by simp [HSO.out.hash, pcells_length HQ.out]))
  have HH32 : Hid ((Tryd.prog.info? 25).map (·.size) = some (s.hash.map V8).toArray.size) := Lib.hid (by rw [sizeA32]; simp [HSO.out.hash])
  have HRH := Lib.hid (rng_hash hX.s)
  have HLH : Hid ((Tryd.prog.info? 25).map (·.size) = some (s.hash.map V8).length) := Lib.hid (by rw [sizeA32]; simp [HSO.out.hash])
  have HY := Lib.hid hY
  clear hq' hX hY
  go_upto_region 7 with (first | (refine wpL_val rfl (ex_ld (ty := 25) (cs := s.hash.map V8) (off := 5) rfl rfl HRH.out Tryd.underlying25 rfl HLH.out) ?_) | (refine wpList_store_mid rfl 25 (.tmp 35) (.tmp 34) rfl (w.heap.size + 1) 5 _ rfl rfl HTH.out HH32.out (one_ints V8 (fun _ => rfl) _) ?_) | fail)
  refine (fun (k : ∀ W, OnS p q' s bs os sp1 sp2 w g W → Code.wp _ _ _ _ W) => k _ HY.out) ?_
  intro X hX
  have HX := Lib.hid hX
  have a0 : X.cell? ⟨w.heap.size + 1, 0, none⟩ = some (.int .u8 (q'.kind : Int)) := hX.q.cell rfl
  have a1 : X.cell? ⟨w.heap.size + 1, 1, none⟩ = some (.int .u8 (q'.level : Int)) := hX.q.cell rfl
  have a2 : X.cell? ⟨w.heap.size + 1, 2, none⟩ = some (.int .u16 (q'.obj : Int)) := hX.q.cell rfl
  have a3 : X.cell? ⟨w.heap.size + 1, 3, none⟩ = some (.int .u32 (q'.off : Int)) := hX.q.cell rfl
  have a4 : X.cell? ⟨w.heap.size + 1, 4, none⟩ = some (.int .u64 (q'.birth : Int)) := hX.q.cell rfl
  have b0 : X.cell? ⟨g, 0, none⟩ = some (.int .u8 (s.kind : Int)) := hX.s.cell rfl
  have b1 : X.cell? ⟨g, 1, none⟩ = some (.int .u8 (s.level : Int)) := hX.s.cell rfl
  have b2 : X.cell? ⟨g, 2, none⟩ = some (.int .u16 (s.obj : Int)) := hX.s.cell rfl
  have b3 : X.cell? ⟨g, 3, none⟩ = some (.int .u32 (s.off : Int)) := hX.s.cell rfl
  have b4 : X.cell? ⟨g, 4, none⟩ = some (.int .u64 (s.birth : Int)) := hX.s.cell rfl
  clear hX HY HTH HH32 HRH HLH HW2
  (try simp only [Act.put, List.setIfInBounds_toArray, List.set_cons_zero, List.set_cons_succ])
  go_cut [10] (fun v wx => v = .bool (tagsB q' s) ∧ OnS p q' s bs os sp1 sp2 w g wx)
  case first =>
    by_cases c0 : q'.kind = s.kind
    · have d0 : (q'.kind : Int) = (s.kind : Int) := by omega
      by_cases c1 : q'.level = s.level
      · have d1 : (q'.level : Int) = (s.level : Int) := by omega
        by_cases c2 : q'.obj = s.obj
        · have d2 : (q'.obj : Int) = (s.obj : Int) := by omega
          by_cases c3 : q'.off = s.off
          · have d3 : (q'.off : Int) = (s.off : Int) := by omega
            by_cases c4 : q'.birth = s.birth
            · have d4 : (q'.birth : Int) = (s.birth : Int) := by omega
              go_wp2
              go_meet
              case rel => exact ⟨congrArg Value.bool (by unfold tagsB; first | exact (decide_eq_true ⟨c0, c1, c2, c3, c4⟩).symm | (rw [db]; exact (decide_eq_true ⟨c0, c1, c2, c3, c4⟩).symm)), HX.out⟩
            · have d4 : ¬ (q'.birth : Int) = (s.birth : Int) := by omega
              have db : ((q'.birth : Int) == (s.birth : Int)) = false := by simp; omega
              go_wp2
              go_meet
              case rel => exact ⟨congrArg Value.bool (by unfold tagsB; first | exact (decide_eq_false (p := q'.kind = s.kind ∧ q'.level = s.level ∧ q'.obj = s.obj ∧ q'.off = s.off ∧ q'.birth = s.birth) (fun h => c4 h.2.2.2.2)).symm | (rw [db]; exact (decide_eq_false (p := q'.kind = s.kind ∧ q'.level = s.level ∧ q'.obj = s.obj ∧ q'.off = s.off ∧ q'.birth = s.birth) (fun h => c4 h.2.2.2.2)).symm)), HX.out⟩
          · have d3 : ¬ (q'.off : Int) = (s.off : Int) := by omega
            have db : ((q'.off : Int) == (s.off : Int)) = false := by simp; omega
            go_wp2
            go_meet
            case rel => exact ⟨congrArg Value.bool (by unfold tagsB; first | exact (decide_eq_false (p := q'.kind = s.kind ∧ q'.level = s.level ∧ q'.obj = s.obj ∧ q'.off = s.off ∧ q'.birth = s.birth) (fun h => c3 h.2.2.2.1)).symm | (rw [db]; exact (decide_eq_false (p := q'.kind = s.kind ∧ q'.level = s.level ∧ q'.obj = s.obj ∧ q'.off = s.off ∧ q'.birth = s.birth) (fun h => c3 h.2.2.2.1)).symm)), HX.out⟩
        · have d2 : ¬ (q'.obj : Int) = (s.obj : Int) := by omega
          have db : ((q'.obj : Int) == (s.obj : Int)) = false := by simp; omega
          go_wp2
          go_meet
          case rel => exact ⟨congrArg Value.bool (by unfold tagsB; first | exact (decide_eq_false (p := q'.kind = s.kind ∧ q'.level = s.level ∧ q'.obj = s.obj ∧ q'.off = s.off ∧ q'.birth = s.birth) (fun h => c2 h.2.2.1)).symm | (rw [db]; exact (decide_eq_false (p := q'.kind = s.kind ∧ q'.level = s.level ∧ q'.obj = s.obj ∧ q'.off = s.off ∧ q'.birth = s.birth) (fun h => c2 h.2.2.1)).symm)), HX.out⟩
      · have d1 : ¬ (q'.level : Int) = (s.level : Int) := by omega
        have db : ((q'.level : Int) == (s.level : Int)) = false := by simp; omega
        go_wp2
        go_meet
        case rel => exact ⟨congrArg Value.bool (by unfold tagsB; first | exact (decide_eq_false (p := q'.kind = s.kind ∧ q'.level = s.level ∧ q'.obj = s.obj ∧ q'.off = s.off ∧ q'.birth = s.birth) (fun h => c1 h.2.1)).symm | (rw [db]; exact (decide_eq_false (p := q'.kind = s.kind ∧ q'.level = s.level ∧ q'.obj = s.obj ∧ q'.off = s.off ∧ q'.birth = s.birth) (fun h => c1 h.2.1)).symm)), HX.out⟩
    · have d0 : ¬ (q'.kind : Int) = (s.kind : Int) := by omega
      have db : ((q'.kind : Int) == (s.kind : Int)) = false := by simp; omega
      go_wp2
      go_meet
      case rel => exact ⟨congrArg Value.bool (by unfold tagsB; first | exact (decide_eq_false (p := q'.kind = s.kind ∧ q'.level = s.level ∧ q'.obj = s.obj ∧ q'.off = s.off ∧ q'.birth = s.birth) (fun h => c0 h.1)).symm | (rw [db]; exact (decide_eq_false (p := q'.kind = s.kind ∧ q'.level = s.level ∧ q'.obj = s.obj ∧ q'.off = s.off ∧ q'.birth = s.birth) (fun h => c0 h.1)).symm)), HX.out⟩
  case rest =>
  obtain ⟨rfl, hX2⟩ := hcut
  clear a0 a1 a2 a3 a4 b0 b1 b2 b3 b4 HX
  have HX := Lib.hid hX2
  have HDS : Hid (digest (tagB s ++ bs) = s.hash) := Lib.hid (by rw [← HSE.out]; rfl)
  have HH32 := Lib.hid HSO.out.hash
  have HLQ := Lib.hid (pcells_length HQO.out)
  have HLS := Lib.hid (pcells_length HSO.out)
  clear hX2
  cases htg : tagsB q' s
  · have HTG := Lib.hid htg
    clear htg
    go_upto_region 8 with fail
    (try simp only [Act.put, List.setIfInBounds_toArray, List.set_cons_zero, List.set_cons_succ])
    go_cut [84] (fun v wx => v = .bool false ∧ OnS p q' s bs os sp1 sp2 w g wx)
    case first =>
      cases hfq : fitsP q' bs
      · have HFQ := Lib.hid hfq
        clear hfq
        refine wp_region_sched (.take 0 (.take 1 (.step 2 (.take 3 (.take 4 (.take 5 (.take 6 (.take 7 (.take 8 (.take 9 (.take 11 (.take 12 (.step 10 (.step 13 (.take 14 (.take 15 (.nil))))))))))))))))) (by kernel_rfl) (by kernel_rfl) (fun d _ _ _ _ h => by cases d <;> exact h) (OnS p q' s bs os sp1 sp2 w g) HX.out.drew ?_
        refine wpG_take _ ((.agg (pcells q').toArray)) rfl (by rfl) (fun X hX => ex_ld (ty := 28) (cs := pcells q') rfl rfl (rng_all hX.q) Tryd.underlying28 rfl (by rw [sizeP, pcells_length HQO.out])) ?_
        (try simp only [Act.put, List.setIfInBounds_toArray, List.set_cons_zero, List.set_cons_succ])
        refine wpG_take _ (.slice sp1 512 cap1) rfl (by rfl) (fun X hX => by first | rfl | go_simp) ?_
        (try simp only [Act.put, List.setIfInBounds_toArray, List.set_cons_zero, List.set_cons_succ])
        refine wpG_call _ rfl (by rfl) 21 #[.agg (pcells q').toArray, .slice sp1 512 cap1] (fun _ => by go_simp) (fun u _ => u = .bool false) ((fits512 HQO.out HB.out HC1.out HM1.out HX.out.drew.b HX.out.drew.tab).mono fun e w' ⟨e1, e2⟩ => ⟨_, e1, HX.out.drew.grown e2, by rw [HFQ.out]⟩) ?_
        rintro u Y1 hy1 rfl
        refine ⟨_, fun _ h => h, hy1, ?_⟩
        (try simp only [Act.put, List.setIfInBounds_toArray, List.set_cons_zero, List.set_cons_succ])
        refine wpG_take _ (.bool false) rfl (by rfl) (fun X hX => by first | rfl | go_simp) ?_
        (try simp only [Act.put, List.setIfInBounds_toArray, List.set_cons_zero, List.set_cons_succ])
        refine wpG_pass _ rfl (by rfl) ?_
        (try simp only [Act.put, List.setIfInBounds_toArray, List.set_cons_zero, List.set_cons_succ])
        refine wpG_pass _ rfl (by rfl) ?_
        (try simp only [Act.put, List.setIfInBounds_toArray, List.set_cons_zero, List.set_cons_succ])
        refine wpG_take _ (.bool false) rfl (by rfl) (fun X hX => by first | rfl | go_simp) ?_
        (try simp only [Act.put, List.setIfInBounds_toArray, List.set_cons_zero, List.set_cons_succ])
        refine wpG_take _ (.bool false) rfl (by rfl) (fun X hX => by first | rfl | go_simp) ?_
        (try simp only [Act.put, List.setIfInBounds_toArray, List.set_cons_zero, List.set_cons_succ])
        refine wpG_pass _ rfl (by rfl) ?_
        (try simp only [Act.put, List.setIfInBounds_toArray, List.set_cons_zero, List.set_cons_succ])
        refine wpG_pass _ rfl (by rfl) ?_
        (try simp only [Act.put, List.setIfInBounds_toArray, List.set_cons_zero, List.set_cons_succ])
        refine wpG_pass _ rfl (by rfl) ?_
        (try simp only [Act.put, List.setIfInBounds_toArray, List.set_cons_zero, List.set_cons_succ])
        refine wpG_pass _ rfl (by rfl) ?_
        (try simp only [Act.put, List.setIfInBounds_toArray, List.set_cons_zero, List.set_cons_succ])
        refine wpG_skip _ rfl (by rfl) hy1 ?_
        (try simp only [Act.put, List.setIfInBounds_toArray, List.set_cons_zero, List.set_cons_succ])
        refine wpG_skip _ rfl (by rfl) hy1 ?_
        (try simp only [Act.put, List.setIfInBounds_toArray, List.set_cons_zero, List.set_cons_succ])
        refine wpG_pass _ rfl (by rfl) ?_
        (try simp only [Act.put, List.setIfInBounds_toArray, List.set_cons_zero, List.set_cons_succ])
        refine wpG_take _ (.bool false) rfl (by rfl) (fun X hX => by first | rfl | go_simp) ?_
        (try simp only [Act.put, List.setIfInBounds_toArray, List.set_cons_zero, List.set_cons_succ])
        refine wpG_nil ?_
        have HX1 := Lib.hid hy1
        clear hy1
        go_wp2_with fail
        go_meet
        case rel => exact ⟨rfl, HX1.out⟩
      · have hfd : digest (tagB q' ++ bs) = s.hash := by
          unfold fitsP at hfq
          have h := of_decide_eq_true (Bool.and_eq_true _ _ ▸ hfq).2
          rw [h, ← HQE.out]
        have HFQ := Lib.hid hfq
        have HFD := Lib.hid hfd
        clear hfq hfd
        refine wp_region_sched (.take 0 (.take 1 (.step 2 (.take 3 (.take 4 (.take 5 (.take 6 (.take 7 (.take 8 (.take 9 (.take 11 (.take 12 (.step 10 (.step 13 (.take 14 (.take 15 (.nil))))))))))))))))) (by kernel_rfl) (by kernel_rfl) (fun d _ _ _ _ h => by cases d <;> exact h) (OnS p q' s bs os sp1 sp2 w g) HX.out.drew ?_
        refine wpG_take _ ((.agg (pcells q').toArray)) rfl (by rfl) (fun X hX => ex_ld (ty := 28) (cs := pcells q') rfl rfl (rng_all hX.q) Tryd.underlying28 rfl (by rw [sizeP, pcells_length HQO.out])) ?_
        (try simp only [Act.put, List.setIfInBounds_toArray, List.set_cons_zero, List.set_cons_succ])
        refine wpG_take _ (.slice sp1 512 cap1) rfl (by rfl) (fun X hX => by first | rfl | go_simp) ?_
        (try simp only [Act.put, List.setIfInBounds_toArray, List.set_cons_zero, List.set_cons_succ])
        refine wpG_call _ rfl (by rfl) 21 #[.agg (pcells q').toArray, .slice sp1 512 cap1] (fun _ => by go_simp) (fun u _ => u = .bool true) ((fits512 HQO.out HB.out HC1.out HM1.out HX.out.drew.b HX.out.drew.tab).mono fun e w' ⟨e1, e2⟩ => ⟨_, e1, HX.out.drew.grown e2, by rw [HFQ.out]⟩) ?_
        rintro u Y1 hy1 rfl
        refine ⟨_, fun _ h => h, hy1, ?_⟩
        (try simp only [Act.put, List.setIfInBounds_toArray, List.set_cons_zero, List.set_cons_succ])
        refine wpG_take _ (.bool true) rfl (by rfl) (fun X hX => by first | rfl | go_simp) ?_
        (try simp only [Act.put, List.setIfInBounds_toArray, List.set_cons_zero, List.set_cons_succ])
        refine wpG_take _ (.bool false) rfl (by rfl) (fun X hX => by first | rfl | go_simp) ?_
        (try simp only [Act.put, List.setIfInBounds_toArray, List.set_cons_zero, List.set_cons_succ])
        refine wpG_take _ (.bool true) rfl (by rfl) (fun X hX => by first | rfl | go_simp) ?_
        (try simp only [Act.put, List.setIfInBounds_toArray, List.set_cons_zero, List.set_cons_succ])
        refine wpG_take _ (.bool true) rfl (by rfl) (fun X hX => by first | rfl | go_simp) ?_
        (try simp only [Act.put, List.setIfInBounds_toArray, List.set_cons_zero, List.set_cons_succ])
        refine wpG_take _ (.bool true) rfl (by rfl) (fun X hX => by first | rfl | go_simp) ?_
        (try simp only [Act.put, List.setIfInBounds_toArray, List.set_cons_zero, List.set_cons_succ])
        refine wpG_take _ ((.agg (pcells q').toArray)) rfl (by rfl) (fun X hX => ex_ld (ty := 28) (cs := pcells q') rfl rfl (rng_all hX.q) Tryd.underlying28 rfl (by rw [sizeP, pcells_length HQO.out])) ?_
        (try simp only [Act.put, List.setIfInBounds_toArray, List.set_cons_zero, List.set_cons_succ])
        refine wpG_take _ (.slice sp1 512 cap1) rfl (by rfl) (fun X hX => by first | rfl | go_simp) ?_
        (try simp only [Act.put, List.setIfInBounds_toArray, List.set_cons_zero, List.set_cons_succ])
        refine wpG_take _ ((.agg (pcells s).toArray)) rfl (by rfl) (fun X hX => ex_ld (ty := 28) (cs := pcells s) rfl rfl (rng_all hX.s) Tryd.underlying28 rfl (by rw [sizeP, pcells_length HSO.out])) ?_
        (try simp only [Act.put, List.setIfInBounds_toArray, List.set_cons_zero, List.set_cons_succ])
        refine wpG_take _ (.slice sp1 512 cap1) rfl (by rfl) (fun X hX => by first | rfl | go_simp) ?_
        (try simp only [Act.put, List.setIfInBounds_toArray, List.set_cons_zero, List.set_cons_succ])
        refine wpG_call _ rfl (by rfl) 22 #[.agg (pcells q').toArray, .slice sp1 512 cap1] (fun _ => by go_simp) (fun u _ => u = .agg (s.hash.map V8).toArray) ((digest512 HQO.out HB.out HZ1.out hy1.b).mono fun e w' ⟨e1, e2⟩ => ⟨_, e1, hy1.grown e2, by rw [HFD.out]⟩) ?_
        rintro u Y2 hy2 rfl
        refine ⟨_, fun _ h => h, hy2, ?_⟩
        (try simp only [Act.put, List.setIfInBounds_toArray, List.set_cons_zero, List.set_cons_succ])
        refine wpG_call _ rfl (by rfl) 22 #[.agg (pcells s).toArray, .slice sp1 512 cap1] (fun _ => by go_simp) (fun u _ => u = .agg (s.hash.map V8).toArray) ((digest512 HSO.out HB.out HZ1.out hy2.b).mono fun e w' ⟨e1, e2⟩ => ⟨_, e1, hy2.grown e2, by rw [HDS.out]⟩) ?_
        rintro u Y3 hy3 rfl
        refine ⟨_, fun _ h => h, hy3, ?_⟩
        (try simp only [Act.put, List.setIfInBounds_toArray, List.set_cons_zero, List.set_cons_succ])
        refine wpG_take _ (.bool false) rfl (by rfl) (fun X hX => ex_neHs (a := s.hash) rfl rfl rfl HH32.out) ?_
        (try simp only [Act.put, List.setIfInBounds_toArray, List.set_cons_zero, List.set_cons_succ])
        refine wpG_take _ (.bool false) rfl (by rfl) (fun X hX => by first | rfl | go_simp) ?_
        (try simp only [Act.put, List.setIfInBounds_toArray, List.set_cons_zero, List.set_cons_succ])
        refine wpG_nil ?_
        have HX1 := Lib.hid hy3
        clear hy1 hy2 hy3
        go_wp2_with fail
        go_meet
        case rel => exact ⟨rfl, HX1.out⟩
    case rest =>
    obtain ⟨rfl, hX3⟩ := hcut
    have HY := Lib.hid hX3
    clear hX3
    go_upto_region 12 with fail
    cases hf2 : fitsP s os
    · have HF2 := Lib.hid hf2
      clear hf2
      refine wp_region_sched (.take 0 (.take 1 (.step 2 (.take 3 (.take 4 (.take 5 (.take 6 (.take 7 (.take 8 (.take 9 (.take 10 (.take 11 (.take 12 (.take 13 (.take 15 (.take 16 (.step 14 (.step 17 (.take 18 (.take 19 (.take 20 (.step 21 (.take 22 (.take 23 (.nil))))))))))))))))))))))))) (by kernel_rfl) (by kernel_rfl) (fun d _ _ _ _ h => by cases d <;> exact h) (OnS p q' s bs os sp1 sp2 w g) HY.out.drew ?_
      refine wpG_take _ ((.agg (pcells s).toArray)) rfl (by rfl) (fun X hX => ex_ld (ty := 28) (cs := pcells s) rfl rfl (rng_all hX.s) Tryd.underlying28 rfl (by rw [sizeP, pcells_length HSO.out])) ?_
      (try simp only [Act.put, List.setIfInBounds_toArray, List.set_cons_zero, List.set_cons_succ])
      refine wpG_take _ (.slice sp2 512 cap2) rfl (by rfl) (fun X hX => by first | rfl | go_simp) ?_
      (try simp only [Act.put, List.setIfInBounds_toArray, List.set_cons_zero, List.set_cons_succ])
      refine wpG_call _ rfl (by rfl) 21 #[.agg (pcells s).toArray, .slice sp2 512 cap2] (fun _ => by go_simp) (fun u _ => u = .bool false) ((fits512 HSO.out HO.out HC2.out HM2.out HY.out.drew.o HY.out.drew.tab).mono fun e w' ⟨e1, e2⟩ => ⟨_, e1, HY.out.drew.grown e2, by rw [HF2.out]⟩) ?_
      rintro u Z1 hz1 rfl
      refine ⟨_, fun _ h => h, hz1, ?_⟩
      (try simp only [Act.put, List.setIfInBounds_toArray, List.set_cons_zero, List.set_cons_succ])
      refine wpG_take _ (.bool true) rfl (by rfl) (fun X hX => by first | rfl | go_simp) ?_
      (try simp only [Act.put, List.setIfInBounds_toArray, List.set_cons_zero, List.set_cons_succ])
      refine wpG_take _ (.bool true) rfl (by rfl) (fun X hX => by first | rfl | go_simp) ?_
      (try simp only [Act.put, List.setIfInBounds_toArray, List.set_cons_zero, List.set_cons_succ])
      refine wpG_pass _ rfl (by rfl) ?_
      (try simp only [Act.put, List.setIfInBounds_toArray, List.set_cons_zero, List.set_cons_succ])
      refine wpG_pass _ rfl (by rfl) ?_
      (try simp only [Act.put, List.setIfInBounds_toArray, List.set_cons_zero, List.set_cons_succ])
      refine wpG_pass _ rfl (by rfl) ?_
      (try simp only [Act.put, List.setIfInBounds_toArray, List.set_cons_zero, List.set_cons_succ])
      refine wpG_pass _ rfl (by rfl) ?_
      (try simp only [Act.put, List.setIfInBounds_toArray, List.set_cons_zero, List.set_cons_succ])
      refine wpG_pass _ rfl (by rfl) ?_
      (try simp only [Act.put, List.setIfInBounds_toArray, List.set_cons_zero, List.set_cons_succ])
      refine wpG_take _ (.bool true) rfl (by rfl) (fun X hX => by first | rfl | go_simp) ?_
      (try simp only [Act.put, List.setIfInBounds_toArray, List.set_cons_zero, List.set_cons_succ])
      refine wpG_take _ (.bool true) rfl (by rfl) (fun X hX => by first | rfl | go_simp) ?_
      (try simp only [Act.put, List.setIfInBounds_toArray, List.set_cons_zero, List.set_cons_succ])
      refine wpG_pass _ rfl (by rfl) ?_
      (try simp only [Act.put, List.setIfInBounds_toArray, List.set_cons_zero, List.set_cons_succ])
      refine wpG_pass _ rfl (by rfl) ?_
      (try simp only [Act.put, List.setIfInBounds_toArray, List.set_cons_zero, List.set_cons_succ])
      refine wpG_pass _ rfl (by rfl) ?_
      (try simp only [Act.put, List.setIfInBounds_toArray, List.set_cons_zero, List.set_cons_succ])
      refine wpG_pass _ rfl (by rfl) ?_
      (try simp only [Act.put, List.setIfInBounds_toArray, List.set_cons_zero, List.set_cons_succ])
      refine wpG_skip _ rfl (by rfl) hz1 ?_
      (try simp only [Act.put, List.setIfInBounds_toArray, List.set_cons_zero, List.set_cons_succ])
      refine wpG_skip _ rfl (by rfl) hz1 ?_
      (try simp only [Act.put, List.setIfInBounds_toArray, List.set_cons_zero, List.set_cons_succ])
      refine wpG_pass _ rfl (by rfl) ?_
      (try simp only [Act.put, List.setIfInBounds_toArray, List.set_cons_zero, List.set_cons_succ])
      refine wpG_take _ (.bool true) rfl (by rfl) (fun X hX => by first | rfl | go_simp) ?_
      (try simp only [Act.put, List.setIfInBounds_toArray, List.set_cons_zero, List.set_cons_succ])
      refine wpG_take _ (.bool true) rfl (by rfl) (fun X hX => by first | rfl | go_simp) ?_
      (try simp only [Act.put, List.setIfInBounds_toArray, List.set_cons_zero, List.set_cons_succ])
      refine wpG_call _ rfl (by rfl) 6 #[] (fun _ => by go_simp) (fun u _ => u = .bool true) ((wakes_any _ hz1.tab hz1.rt (by decide)).mono fun e w' ⟨e1, e2⟩ => ⟨_, e1, hz1.grown e2, rfl⟩) ?_
      rintro u Z9 hz9 rfl
      refine ⟨_, fun _ h => h, hz9, ?_⟩
      (try simp only [Act.put, List.setIfInBounds_toArray, List.set_cons_zero, List.set_cons_succ])
      refine wpG_take _ (.bool true) rfl (by rfl) (fun X hX => by first | rfl | go_simp) ?_
      (try simp only [Act.put, List.setIfInBounds_toArray, List.set_cons_zero, List.set_cons_succ])
      refine wpG_take _ (.bool true) rfl (by rfl) (fun X hX => by first | rfl | go_simp) ?_
      (try simp only [Act.put, List.setIfInBounds_toArray, List.set_cons_zero, List.set_cons_succ])
      refine wpG_nil ?_
      have HZZ := Lib.hid hz9.bel
      clear hz9
      go_wp2_with fail
      go_ret
      exact ⟨rfl, HZZ.out⟩
    · have hfd : digest (tagB s ++ os) = s.hash := by
        unfold fitsP at hf2
        exact of_decide_eq_true (Bool.and_eq_true _ _ ▸ hf2).2
      have HF2 := Lib.hid hf2
      have HFD := Lib.hid hfd
      clear hf2 hfd
      by_cases hbo : bs = os
      · have HBO : Hid (decide (bs = os) = true) := Lib.hid (decide_eq_true hbo)
        clear hbo
        refine wp_region_sched (.take 0 (.take 1 (.step 2 (.take 3 (.take 4 (.take 5 (.take 6 (.take 7 (.take 8 (.take 9 (.take 10 (.take 11 (.take 12 (.take 13 (.take 15 (.take 16 (.step 14 (.step 17 (.take 18 (.take 19 (.take 20 (.step 21 (.take 22 (.take 23 (.nil))))))))))))))))))))))))) (by kernel_rfl) (by kernel_rfl) (fun d _ _ _ _ h => by cases d <;> exact h) (OnS p q' s bs os sp1 sp2 w g) HY.out.drew ?_
        refine wpG_take _ ((.agg (pcells s).toArray)) rfl (by rfl) (fun X hX => ex_ld (ty := 28) (cs := pcells s) rfl rfl (rng_all hX.s) Tryd.underlying28 rfl (by rw [sizeP, pcells_length HSO.out])) ?_
        (try simp only [Act.put, List.setIfInBounds_toArray, List.set_cons_zero, List.set_cons_succ])
        refine wpG_take _ (.slice sp2 512 cap2) rfl (by rfl) (fun X hX => by first | rfl | go_simp) ?_
        (try simp only [Act.put, List.setIfInBounds_toArray, List.set_cons_zero, List.set_cons_succ])
        refine wpG_call _ rfl (by rfl) 21 #[.agg (pcells s).toArray, .slice sp2 512 cap2] (fun _ => by go_simp) (fun u _ => u = .bool true) ((fits512 HSO.out HO.out HC2.out HM2.out HY.out.drew.o HY.out.drew.tab).mono fun e w' ⟨e1, e2⟩ => ⟨_, e1, HY.out.drew.grown e2, by rw [HF2.out]⟩) ?_
        rintro u Z1 hz1 rfl
        refine ⟨_, fun _ h => h, hz1, ?_⟩
        (try simp only [Act.put, List.setIfInBounds_toArray, List.set_cons_zero, List.set_cons_succ])
        refine wpG_take _ (.bool false) rfl (by rfl) (fun X hX => by first | rfl | go_simp) ?_
        (try simp only [Act.put, List.setIfInBounds_toArray, List.set_cons_zero, List.set_cons_succ])
        refine wpG_take _ (.bool false) rfl (by rfl) (fun X hX => by first | rfl | go_simp) ?_
        (try simp only [Act.put, List.setIfInBounds_toArray, List.set_cons_zero, List.set_cons_succ])
        refine wpG_take _ (.slice sp1 512 cap1) rfl (by rfl) (fun X hX => by first | rfl | go_simp) ?_
        (try simp only [Act.put, List.setIfInBounds_toArray, List.set_cons_zero, List.set_cons_succ])
        refine wpG_take _ (.string (bstr bs)) rfl (by rfl) (fun X hX => ex_cvs rfl HB.out rfl hX.b) ?_
        (try simp only [Act.put, List.setIfInBounds_toArray, List.set_cons_zero, List.set_cons_succ])
        refine wpG_take _ (.slice sp2 512 cap2) rfl (by rfl) (fun X hX => by first | rfl | go_simp) ?_
        (try simp only [Act.put, List.setIfInBounds_toArray, List.set_cons_zero, List.set_cons_succ])
        refine wpG_take _ (.string (bstr os)) rfl (by rfl) (fun X hX => ex_cvs rfl HO.out rfl hX.o) ?_
        (try simp only [Act.put, List.setIfInBounds_toArray, List.set_cons_zero, List.set_cons_succ])
        refine wpG_take _ (.bool true) rfl (by rfl) (fun X hX => by rw [← HBO.out]; exact ex_eql rfl rfl rfl) ?_
        (try simp only [Act.put, List.setIfInBounds_toArray, List.set_cons_zero, List.set_cons_succ])
        refine wpG_take _ (.bool true) rfl (by rfl) (fun X hX => by first | rfl | go_simp) ?_
        (try simp only [Act.put, List.setIfInBounds_toArray, List.set_cons_zero, List.set_cons_succ])
        refine wpG_take _ (.bool true) rfl (by rfl) (fun X hX => by first | rfl | go_simp) ?_
        (try simp only [Act.put, List.setIfInBounds_toArray, List.set_cons_zero, List.set_cons_succ])
        refine wpG_pass _ rfl (by rfl) ?_
        (try simp only [Act.put, List.setIfInBounds_toArray, List.set_cons_zero, List.set_cons_succ])
        refine wpG_pass _ rfl (by rfl) ?_
        (try simp only [Act.put, List.setIfInBounds_toArray, List.set_cons_zero, List.set_cons_succ])
        refine wpG_pass _ rfl (by rfl) ?_
        (try simp only [Act.put, List.setIfInBounds_toArray, List.set_cons_zero, List.set_cons_succ])
        refine wpG_pass _ rfl (by rfl) ?_
        (try simp only [Act.put, List.setIfInBounds_toArray, List.set_cons_zero, List.set_cons_succ])
        refine wpG_skip _ rfl (by rfl) hz1 ?_
        (try simp only [Act.put, List.setIfInBounds_toArray, List.set_cons_zero, List.set_cons_succ])
        refine wpG_skip _ rfl (by rfl) hz1 ?_
        (try simp only [Act.put, List.setIfInBounds_toArray, List.set_cons_zero, List.set_cons_succ])
        refine wpG_pass _ rfl (by rfl) ?_
        (try simp only [Act.put, List.setIfInBounds_toArray, List.set_cons_zero, List.set_cons_succ])
        refine wpG_take _ (.bool true) rfl (by rfl) (fun X hX => by first | rfl | go_simp) ?_
        (try simp only [Act.put, List.setIfInBounds_toArray, List.set_cons_zero, List.set_cons_succ])
        refine wpG_take _ (.bool true) rfl (by rfl) (fun X hX => by first | rfl | go_simp) ?_
        (try simp only [Act.put, List.setIfInBounds_toArray, List.set_cons_zero, List.set_cons_succ])
        refine wpG_call _ rfl (by rfl) 6 #[] (fun _ => by go_simp) (fun u _ => u = .bool true) ((wakes_any _ hz1.tab hz1.rt (by decide)).mono fun e w' ⟨e1, e2⟩ => ⟨_, e1, hz1.grown e2, rfl⟩) ?_
        rintro u Z9 hz9 rfl
        refine ⟨_, fun _ h => h, hz9, ?_⟩
        (try simp only [Act.put, List.setIfInBounds_toArray, List.set_cons_zero, List.set_cons_succ])
        refine wpG_take _ (.bool true) rfl (by rfl) (fun X hX => by first | rfl | go_simp) ?_
        (try simp only [Act.put, List.setIfInBounds_toArray, List.set_cons_zero, List.set_cons_succ])
        refine wpG_take _ (.bool true) rfl (by rfl) (fun X hX => by first | rfl | go_simp) ?_
        (try simp only [Act.put, List.setIfInBounds_toArray, List.set_cons_zero, List.set_cons_succ])
        refine wpG_nil ?_
        have HZZ := Lib.hid hz9.bel
        clear hz9
        go_wp2_with fail
        go_ret
        exact ⟨rfl, HZZ.out⟩
      · have HBO : Hid (decide (bs = os) = false) := Lib.hid (decide_eq_false hbo)
        clear hbo
        refine wp_region_sched (.take 0 (.take 1 (.step 2 (.take 3 (.take 4 (.take 5 (.take 6 (.take 7 (.take 8 (.take 9 (.take 10 (.take 11 (.take 12 (.take 13 (.take 15 (.take 16 (.step 14 (.step 17 (.take 18 (.take 19 (.take 20 (.step 21 (.take 22 (.take 23 (.nil))))))))))))))))))))))))) (by kernel_rfl) (by kernel_rfl) (fun d _ _ _ _ h => by cases d <;> exact h) (OnS p q' s bs os sp1 sp2 w g) HY.out.drew ?_
        refine wpG_take _ ((.agg (pcells s).toArray)) rfl (by rfl) (fun X hX => ex_ld (ty := 28) (cs := pcells s) rfl rfl (rng_all hX.s) Tryd.underlying28 rfl (by rw [sizeP, pcells_length HSO.out])) ?_
        (try simp only [Act.put, List.setIfInBounds_toArray, List.set_cons_zero, List.set_cons_succ])
        refine wpG_take _ (.slice sp2 512 cap2) rfl (by rfl) (fun X hX => by first | rfl | go_simp) ?_
        (try simp only [Act.put, List.setIfInBounds_toArray, List.set_cons_zero, List.set_cons_succ])
        refine wpG_call _ rfl (by rfl) 21 #[.agg (pcells s).toArray, .slice sp2 512 cap2] (fun _ => by go_simp) (fun u _ => u = .bool true) ((fits512 HSO.out HO.out HC2.out HM2.out HY.out.drew.o HY.out.drew.tab).mono fun e w' ⟨e1, e2⟩ => ⟨_, e1, HY.out.drew.grown e2, by rw [HF2.out]⟩) ?_
        rintro u Z1 hz1 rfl
        refine ⟨_, fun _ h => h, hz1, ?_⟩
        (try simp only [Act.put, List.setIfInBounds_toArray, List.set_cons_zero, List.set_cons_succ])
        refine wpG_take _ (.bool false) rfl (by rfl) (fun X hX => by first | rfl | go_simp) ?_
        (try simp only [Act.put, List.setIfInBounds_toArray, List.set_cons_zero, List.set_cons_succ])
        refine wpG_take _ (.bool false) rfl (by rfl) (fun X hX => by first | rfl | go_simp) ?_
        (try simp only [Act.put, List.setIfInBounds_toArray, List.set_cons_zero, List.set_cons_succ])
        refine wpG_take _ (.slice sp1 512 cap1) rfl (by rfl) (fun X hX => by first | rfl | go_simp) ?_
        (try simp only [Act.put, List.setIfInBounds_toArray, List.set_cons_zero, List.set_cons_succ])
        refine wpG_take _ (.string (bstr bs)) rfl (by rfl) (fun X hX => ex_cvs rfl HB.out rfl hX.b) ?_
        (try simp only [Act.put, List.setIfInBounds_toArray, List.set_cons_zero, List.set_cons_succ])
        refine wpG_take _ (.slice sp2 512 cap2) rfl (by rfl) (fun X hX => by first | rfl | go_simp) ?_
        (try simp only [Act.put, List.setIfInBounds_toArray, List.set_cons_zero, List.set_cons_succ])
        refine wpG_take _ (.string (bstr os)) rfl (by rfl) (fun X hX => ex_cvs rfl HO.out rfl hX.o) ?_
        (try simp only [Act.put, List.setIfInBounds_toArray, List.set_cons_zero, List.set_cons_succ])
        refine wpG_take _ (.bool false) rfl (by rfl) (fun X hX => by rw [← HBO.out]; exact ex_eql rfl rfl rfl) ?_
        (try simp only [Act.put, List.setIfInBounds_toArray, List.set_cons_zero, List.set_cons_succ])
        refine wpG_take _ (.bool false) rfl (by rfl) (fun X hX => by first | rfl | go_simp) ?_
        (try simp only [Act.put, List.setIfInBounds_toArray, List.set_cons_zero, List.set_cons_succ])
        refine wpG_take _ (.bool false) rfl (by rfl) (fun X hX => by first | rfl | go_simp) ?_
        (try simp only [Act.put, List.setIfInBounds_toArray, List.set_cons_zero, List.set_cons_succ])
        refine wpG_take _ ((.agg (pcells s).toArray)) rfl (by rfl) (fun X hX => ex_ld (ty := 28) (cs := pcells s) rfl rfl (rng_all hX.s) Tryd.underlying28 rfl (by rw [sizeP, pcells_length HSO.out])) ?_
        (try simp only [Act.put, List.setIfInBounds_toArray, List.set_cons_zero, List.set_cons_succ])
        refine wpG_take _ (.slice sp1 512 cap1) rfl (by rfl) (fun X hX => by first | rfl | go_simp) ?_
        (try simp only [Act.put, List.setIfInBounds_toArray, List.set_cons_zero, List.set_cons_succ])
        refine wpG_take _ ((.agg (pcells s).toArray)) rfl (by rfl) (fun X hX => ex_ld (ty := 28) (cs := pcells s) rfl rfl (rng_all hX.s) Tryd.underlying28 rfl (by rw [sizeP, pcells_length HSO.out])) ?_
        (try simp only [Act.put, List.setIfInBounds_toArray, List.set_cons_zero, List.set_cons_succ])
        refine wpG_take _ (.slice sp2 512 cap2) rfl (by rfl) (fun X hX => by first | rfl | go_simp) ?_
        (try simp only [Act.put, List.setIfInBounds_toArray, List.set_cons_zero, List.set_cons_succ])
        refine wpG_call _ rfl (by rfl) 22 #[.agg (pcells s).toArray, .slice sp1 512 cap1] (fun _ => by go_simp) (fun u _ => u = .agg (s.hash.map V8).toArray) ((digest512 HSO.out HB.out HZ1.out hz1.b).mono fun e w' ⟨e1, e2⟩ => ⟨_, e1, hz1.grown e2, by rw [HDS.out]⟩) ?_
        rintro u Z2 hz2 rfl
        refine ⟨_, fun _ h => h, hz2, ?_⟩
        (try simp only [Act.put, List.setIfInBounds_toArray, List.set_cons_zero, List.set_cons_succ])
        refine wpG_call _ rfl (by rfl) 22 #[.agg (pcells s).toArray, .slice sp2 512 cap2] (fun _ => by go_simp) (fun u _ => u = .agg (s.hash.map V8).toArray) ((digest512 HSO.out HO.out HZ2.out hz2.o).mono fun e w' ⟨e1, e2⟩ => ⟨_, e1, hz2.grown e2, by rw [HFD.out]⟩) ?_
        rintro u Z3 hz3 rfl
        refine ⟨_, fun _ h => h, hz3, ?_⟩
        (try simp only [Act.put, List.setIfInBounds_toArray, List.set_cons_zero, List.set_cons_succ])
        refine wpG_take _ (.bool true) rfl (by rfl) (fun X hX => ex_eqHs (a := s.hash) rfl rfl rfl HH32.out) ?_
        (try simp only [Act.put, List.setIfInBounds_toArray, List.set_cons_zero, List.set_cons_succ])
        refine wpG_take _ (.bool true) rfl (by rfl) (fun X hX => by first | rfl | go_simp) ?_
        (try simp only [Act.put, List.setIfInBounds_toArray, List.set_cons_zero, List.set_cons_succ])
        refine wpG_take _ (.bool true) rfl (by rfl) (fun X hX => by first | rfl | go_simp) ?_
        (try simp only [Act.put, List.setIfInBounds_toArray, List.set_cons_zero, List.set_cons_succ])
        refine wpG_call _ rfl (by rfl) 6 #[] (fun _ => by go_simp) (fun u _ => u = .bool true) ((wakes_any _ hz3.tab hz3.rt (by decide)).mono fun e w' ⟨e1, e2⟩ => ⟨_, e1, hz3.grown e2, rfl⟩) ?_
        rintro u Z9 hz9 rfl
        refine ⟨_, fun _ h => h, hz9, ?_⟩
        (try simp only [Act.put, List.setIfInBounds_toArray, List.set_cons_zero, List.set_cons_succ])
        refine wpG_take _ (.bool true) rfl (by rfl) (fun X hX => by first | rfl | go_simp) ?_
        (try simp only [Act.put, List.setIfInBounds_toArray, List.set_cons_zero, List.set_cons_succ])
        refine wpG_take _ (.bool true) rfl (by rfl) (fun X hX => by first | rfl | go_simp) ?_
        (try simp only [Act.put, List.setIfInBounds_toArray, List.set_cons_zero, List.set_cons_succ])
        refine wpG_nil ?_
        have HZZ := Lib.hid hz9.bel
        clear hz9
        go_wp2_with fail
        go_ret
        exact ⟨rfl, HZZ.out⟩
  · have hfq : fitsP q' bs = true := by
      unfold fitsP
      rw [decide_eq_true HB.out, tagsB_tag htg, HDS.out, ← HQE.out]
      simp
    have HFQ := Lib.hid hfq
    clear hfq htg
    go_upto_region 8 with fail
    refine wp_region_sched (.take 0 (.take 1 (.step 2 (.take 3 (.take 4 (.take 5 (.take 6 (.take 7 (.take 8 (.take 9 (.take 11 (.take 12 (.step 10 (.step 13 (.take 14 (.take 15 (.nil))))))))))))))))) (by kernel_rfl) (by kernel_rfl) (fun d _ _ _ _ h => by cases d <;> exact h) (OnS p q' s bs os sp1 sp2 w g) HX.out.drew ?_
    refine wpG_take _ ((.agg (pcells q').toArray)) rfl (by rfl) (fun X hX => ex_ld (ty := 28) (cs := pcells q') rfl rfl (rng_all hX.q) Tryd.underlying28 rfl (by rw [sizeP, pcells_length HQO.out])) ?_
    (try simp only [Act.put, List.setIfInBounds_toArray, List.set_cons_zero, List.set_cons_succ])
    refine wpG_take _ (.slice sp1 512 cap1) rfl (by rfl) (fun X hX => by first | rfl | go_simp) ?_
    (try simp only [Act.put, List.setIfInBounds_toArray, List.set_cons_zero, List.set_cons_succ])
    refine wpG_call _ rfl (by rfl) 21 #[.agg (pcells q').toArray, .slice sp1 512 cap1] (fun _ => by go_simp) (fun u _ => u = .bool true) ((fits512 HQO.out HB.out HC1.out HM1.out HX.out.drew.b HX.out.drew.tab).mono fun e w' ⟨e1, e2⟩ => ⟨_, e1, HX.out.drew.grown e2, by rw [HFQ.out]⟩) ?_
    rintro u Y1 hy1 rfl
    refine ⟨_, fun _ h => h, hy1, ?_⟩
    (try simp only [Act.put, List.setIfInBounds_toArray, List.set_cons_zero, List.set_cons_succ])
    refine wpG_take _ (.bool true) rfl (by rfl) (fun X hX => by first | rfl | go_simp) ?_
    (try simp only [Act.put, List.setIfInBounds_toArray, List.set_cons_zero, List.set_cons_succ])
    refine wpG_take _ (.bool true) rfl (by rfl) (fun X hX => by first | rfl | go_simp) ?_
    (try simp only [Act.put, List.setIfInBounds_toArray, List.set_cons_zero, List.set_cons_succ])
    refine wpG_take _ (.bool false) rfl (by rfl) (fun X hX => by first | rfl | go_simp) ?_
    (try simp only [Act.put, List.setIfInBounds_toArray, List.set_cons_zero, List.set_cons_succ])
    refine wpG_take _ (.bool false) rfl (by rfl) (fun X hX => by first | rfl | go_simp) ?_
    (try simp only [Act.put, List.setIfInBounds_toArray, List.set_cons_zero, List.set_cons_succ])
    refine wpG_take _ (.bool false) rfl (by rfl) (fun X hX => by first | rfl | go_simp) ?_
    (try simp only [Act.put, List.setIfInBounds_toArray, List.set_cons_zero, List.set_cons_succ])
    refine wpG_pass _ rfl (by rfl) ?_
    (try simp only [Act.put, List.setIfInBounds_toArray, List.set_cons_zero, List.set_cons_succ])
    refine wpG_pass _ rfl (by rfl) ?_
    (try simp only [Act.put, List.setIfInBounds_toArray, List.set_cons_zero, List.set_cons_succ])
    refine wpG_pass _ rfl (by rfl) ?_
    (try simp only [Act.put, List.setIfInBounds_toArray, List.set_cons_zero, List.set_cons_succ])
    refine wpG_pass _ rfl (by rfl) ?_
    (try simp only [Act.put, List.setIfInBounds_toArray, List.set_cons_zero, List.set_cons_succ])
    refine wpG_skip _ rfl (by rfl) hy1 ?_
    (try simp only [Act.put, List.setIfInBounds_toArray, List.set_cons_zero, List.set_cons_succ])
    refine wpG_skip _ rfl (by rfl) hy1 ?_
    (try simp only [Act.put, List.setIfInBounds_toArray, List.set_cons_zero, List.set_cons_succ])
    refine wpG_pass _ rfl (by rfl) ?_
    (try simp only [Act.put, List.setIfInBounds_toArray, List.set_cons_zero, List.set_cons_succ])
    refine wpG_take _ (.bool false) rfl (by rfl) (fun X hX => by first | rfl | go_simp) ?_
    (try simp only [Act.put, List.setIfInBounds_toArray, List.set_cons_zero, List.set_cons_succ])
    refine wpG_nil ?_
    have HY := Lib.hid hy1
    clear hy1
    go_wp2_with (first | (refine wpL_valG (by rfl) (ex_ld (ty := 28) (cs := pcells q') rfl rfl (rng_all HY.out.q) Tryd.underlying28 rfl (by rw [sizeP, HLQ.out])) ?_) | fail)
    refine (fits512 HQO.out HB.out HC1.out HM1.out HY.out.b HY.out.tab).mono ?_
    rintro e3 Y3 ⟨rfl, hb3⟩
    rw [HFQ.out]
    have HY3 := Lib.hid (HY.out.grown hb3)
    clear hb3
    go_upto_region 12 with fail
    cases hf2 : fitsP s os
    · have HF2 := Lib.hid hf2
      clear hf2
      refine wp_region_sched (.take 0 (.take 1 (.step 2 (.take 3 (.take 4 (.take 5 (.take 6 (.take 7 (.take 8 (.take 9 (.take 10 (.take 11 (.take 12 (.take 13 (.take 15 (.take 16 (.step 14 (.step 17 (.take 18 (.take 19 (.take 20 (.step 21 (.take 22 (.take 23 (.nil))))))))))))))))))))))))) (by kernel_rfl) (by kernel_rfl) (fun d _ _ _ _ h => by cases d <;> exact h) (OnS p q' s bs os sp1 sp2 w g) HY3.out.drew ?_
      refine wpG_take _ ((.agg (pcells s).toArray)) rfl (by rfl) (fun X hX => ex_ld (ty := 28) (cs := pcells s) rfl rfl (rng_all hX.s) Tryd.underlying28 rfl (by rw [sizeP, pcells_length HSO.out])) ?_
      (try simp only [Act.put, List.setIfInBounds_toArray, List.set_cons_zero, List.set_cons_succ])
      refine wpG_take _ (.slice sp2 512 cap2) rfl (by rfl) (fun X hX => by first | rfl | go_simp) ?_
      (try simp only [Act.put, List.setIfInBounds_toArray, List.set_cons_zero, List.set_cons_succ])
      refine wpG_call _ rfl (by rfl) 21 #[.agg (pcells s).toArray, .slice sp2 512 cap2] (fun _ => by go_simp) (fun u _ => u = .bool false) ((fits512 HSO.out HO.out HC2.out HM2.out HY3.out.drew.o HY3.out.drew.tab).mono fun e w' ⟨e1, e2⟩ => ⟨_, e1, HY3.out.drew.grown e2, by rw [HF2.out]⟩) ?_
      rintro u Z1 hz1 rfl
      refine ⟨_, fun _ h => h, hz1, ?_⟩
      (try simp only [Act.put, List.setIfInBounds_toArray, List.set_cons_zero, List.set_cons_succ])
      refine wpG_take _ (.bool true) rfl (by rfl) (fun X hX => by first | rfl | go_simp) ?_
      (try simp only [Act.put, List.setIfInBounds_toArray, List.set_cons_zero, List.set_cons_succ])
      refine wpG_take _ (.bool true) rfl (by rfl) (fun X hX => by first | rfl | go_simp) ?_
      (try simp only [Act.put, List.setIfInBounds_toArray, List.set_cons_zero, List.set_cons_succ])
      refine wpG_pass _ rfl (by rfl) ?_
      (try simp only [Act.put, List.setIfInBounds_toArray, List.set_cons_zero, List.set_cons_succ])
      refine wpG_pass _ rfl (by rfl) ?_
      (try simp only [Act.put, List.setIfInBounds_toArray, List.set_cons_zero, List.set_cons_succ])
      refine wpG_pass _ rfl (by rfl) ?_
      (try simp only [Act.put, List.setIfInBounds_toArray, List.set_cons_zero, List.set_cons_succ])
      refine wpG_pass _ rfl (by rfl) ?_
      (try simp only [Act.put, List.setIfInBounds_toArray, List.set_cons_zero, List.set_cons_succ])
      refine wpG_pass _ rfl (by rfl) ?_
      (try simp only [Act.put, List.setIfInBounds_toArray, List.set_cons_zero, List.set_cons_succ])
      refine wpG_take _ (.bool true) rfl (by rfl) (fun X hX => by first | rfl | go_simp) ?_
      (try simp only [Act.put, List.setIfInBounds_toArray, List.set_cons_zero, List.set_cons_succ])
      refine wpG_take _ (.bool true) rfl (by rfl) (fun X hX => by first | rfl | go_simp) ?_
      (try simp only [Act.put, List.setIfInBounds_toArray, List.set_cons_zero, List.set_cons_succ])
      refine wpG_pass _ rfl (by rfl) ?_
      (try simp only [Act.put, List.setIfInBounds_toArray, List.set_cons_zero, List.set_cons_succ])
      refine wpG_pass _ rfl (by rfl) ?_
      (try simp only [Act.put, List.setIfInBounds_toArray, List.set_cons_zero, List.set_cons_succ])
      refine wpG_pass _ rfl (by rfl) ?_
      (try simp only [Act.put, List.setIfInBounds_toArray, List.set_cons_zero, List.set_cons_succ])
      refine wpG_pass _ rfl (by rfl) ?_
      (try simp only [Act.put, List.setIfInBounds_toArray, List.set_cons_zero, List.set_cons_succ])
      refine wpG_skip _ rfl (by rfl) hz1 ?_
      (try simp only [Act.put, List.setIfInBounds_toArray, List.set_cons_zero, List.set_cons_succ])
      refine wpG_skip _ rfl (by rfl) hz1 ?_
      (try simp only [Act.put, List.setIfInBounds_toArray, List.set_cons_zero, List.set_cons_succ])
      refine wpG_pass _ rfl (by rfl) ?_
      (try simp only [Act.put, List.setIfInBounds_toArray, List.set_cons_zero, List.set_cons_succ])
      refine wpG_take _ (.bool true) rfl (by rfl) (fun X hX => by first | rfl | go_simp) ?_
      (try simp only [Act.put, List.setIfInBounds_toArray, List.set_cons_zero, List.set_cons_succ])
      refine wpG_take _ (.bool true) rfl (by rfl) (fun X hX => by first | rfl | go_simp) ?_
      (try simp only [Act.put, List.setIfInBounds_toArray, List.set_cons_zero, List.set_cons_succ])
      refine wpG_call _ rfl (by rfl) 6 #[] (fun _ => by go_simp) (fun u _ => u = .bool true) ((wakes_any _ hz1.tab hz1.rt (by decide)).mono fun e w' ⟨e1, e2⟩ => ⟨_, e1, hz1.grown e2, rfl⟩) ?_
      rintro u Z9 hz9 rfl
      refine ⟨_, fun _ h => h, hz9, ?_⟩
      (try simp only [Act.put, List.setIfInBounds_toArray, List.set_cons_zero, List.set_cons_succ])
      refine wpG_take _ (.bool true) rfl (by rfl) (fun X hX => by first | rfl | go_simp) ?_
      (try simp only [Act.put, List.setIfInBounds_toArray, List.set_cons_zero, List.set_cons_succ])
      refine wpG_take _ (.bool true) rfl (by rfl) (fun X hX => by first | rfl | go_simp) ?_
      (try simp only [Act.put, List.setIfInBounds_toArray, List.set_cons_zero, List.set_cons_succ])
      refine wpG_nil ?_
      have HZZ := Lib.hid hz9.bel
      clear hz9
      go_wp2_with fail
      go_ret
      exact ⟨rfl, HZZ.out⟩
    · have hfd : digest (tagB s ++ os) = s.hash := by
        unfold fitsP at hf2
        exact of_decide_eq_true (Bool.and_eq_true _ _ ▸ hf2).2
      have HF2 := Lib.hid hf2
      have HFD := Lib.hid hfd
      clear hf2 hfd
      by_cases hbo : bs = os
      · have HBO : Hid (decide (bs = os) = true) := Lib.hid (decide_eq_true hbo)
        clear hbo
        refine wp_region_sched (.take 0 (.take 1 (.step 2 (.take 3 (.take 4 (.take 5 (.take 6 (.take 7 (.take 8 (.take 9 (.take 10 (.take 11 (.take 12 (.take 13 (.take 15 (.take 16 (.step 14 (.step 17 (.take 18 (.take 19 (.take 20 (.step 21 (.take 22 (.take 23 (.nil))))))))))))))))))))))))) (by kernel_rfl) (by kernel_rfl) (fun d _ _ _ _ h => by cases d <;> exact h) (OnS p q' s bs os sp1 sp2 w g) HY3.out.drew ?_
        refine wpG_take _ ((.agg (pcells s).toArray)) rfl (by rfl) (fun X hX => ex_ld (ty := 28) (cs := pcells s) rfl rfl (rng_all hX.s) Tryd.underlying28 rfl (by rw [sizeP, pcells_length HSO.out])) ?_
        (try simp only [Act.put, List.setIfInBounds_toArray, List.set_cons_zero, List.set_cons_succ])
        refine wpG_take _ (.slice sp2 512 cap2) rfl (by rfl) (fun X hX => by first | rfl | go_simp) ?_
        (try simp only [Act.put, List.setIfInBounds_toArray, List.set_cons_zero, List.set_cons_succ])
        refine wpG_call _ rfl (by rfl) 21 #[.agg (pcells s).toArray, .slice sp2 512 cap2] (fun _ => by go_simp) (fun u _ => u = .bool true) ((fits512 HSO.out HO.out HC2.out HM2.out HY3.out.drew.o HY3.out.drew.tab).mono fun e w' ⟨e1, e2⟩ => ⟨_, e1, HY3.out.drew.grown e2, by rw [HF2.out]⟩) ?_
        rintro u Z1 hz1 rfl
        refine ⟨_, fun _ h => h, hz1, ?_⟩
        (try simp only [Act.put, List.setIfInBounds_toArray, List.set_cons_zero, List.set_cons_succ])
        refine wpG_take _ (.bool false) rfl (by rfl) (fun X hX => by first | rfl | go_simp) ?_
        (try simp only [Act.put, List.setIfInBounds_toArray, List.set_cons_zero, List.set_cons_succ])
        refine wpG_take _ (.bool false) rfl (by rfl) (fun X hX => by first | rfl | go_simp) ?_
        (try simp only [Act.put, List.setIfInBounds_toArray, List.set_cons_zero, List.set_cons_succ])
        refine wpG_take _ (.slice sp1 512 cap1) rfl (by rfl) (fun X hX => by first | rfl | go_simp) ?_
        (try simp only [Act.put, List.setIfInBounds_toArray, List.set_cons_zero, List.set_cons_succ])
        refine wpG_take _ (.string (bstr bs)) rfl (by rfl) (fun X hX => ex_cvs rfl HB.out rfl hX.b) ?_
        (try simp only [Act.put, List.setIfInBounds_toArray, List.set_cons_zero, List.set_cons_succ])
        refine wpG_take _ (.slice sp2 512 cap2) rfl (by rfl) (fun X hX => by first | rfl | go_simp) ?_
        (try simp only [Act.put, List.setIfInBounds_toArray, List.set_cons_zero, List.set_cons_succ])
        refine wpG_take _ (.string (bstr os)) rfl (by rfl) (fun X hX => ex_cvs rfl HO.out rfl hX.o) ?_
        (try simp only [Act.put, List.setIfInBounds_toArray, List.set_cons_zero, List.set_cons_succ])
        refine wpG_take _ (.bool true) rfl (by rfl) (fun X hX => by rw [← HBO.out]; exact ex_eql rfl rfl rfl) ?_
        (try simp only [Act.put, List.setIfInBounds_toArray, List.set_cons_zero, List.set_cons_succ])
        refine wpG_take _ (.bool true) rfl (by rfl) (fun X hX => by first | rfl | go_simp) ?_
        (try simp only [Act.put, List.setIfInBounds_toArray, List.set_cons_zero, List.set_cons_succ])
        refine wpG_take _ (.bool true) rfl (by rfl) (fun X hX => by first | rfl | go_simp) ?_
        (try simp only [Act.put, List.setIfInBounds_toArray, List.set_cons_zero, List.set_cons_succ])
        refine wpG_pass _ rfl (by rfl) ?_
        (try simp only [Act.put, List.setIfInBounds_toArray, List.set_cons_zero, List.set_cons_succ])
        refine wpG_pass _ rfl (by rfl) ?_
        (try simp only [Act.put, List.setIfInBounds_toArray, List.set_cons_zero, List.set_cons_succ])
        refine wpG_pass _ rfl (by rfl) ?_
        (try simp only [Act.put, List.setIfInBounds_toArray, List.set_cons_zero, List.set_cons_succ])
        refine wpG_pass _ rfl (by rfl) ?_
        (try simp only [Act.put, List.setIfInBounds_toArray, List.set_cons_zero, List.set_cons_succ])
        refine wpG_skip _ rfl (by rfl) hz1 ?_
        (try simp only [Act.put, List.setIfInBounds_toArray, List.set_cons_zero, List.set_cons_succ])
        refine wpG_skip _ rfl (by rfl) hz1 ?_
        (try simp only [Act.put, List.setIfInBounds_toArray, List.set_cons_zero, List.set_cons_succ])
        refine wpG_pass _ rfl (by rfl) ?_
        (try simp only [Act.put, List.setIfInBounds_toArray, List.set_cons_zero, List.set_cons_succ])
        refine wpG_take _ (.bool true) rfl (by rfl) (fun X hX => by first | rfl | go_simp) ?_
        (try simp only [Act.put, List.setIfInBounds_toArray, List.set_cons_zero, List.set_cons_succ])
        refine wpG_take _ (.bool true) rfl (by rfl) (fun X hX => by first | rfl | go_simp) ?_
        (try simp only [Act.put, List.setIfInBounds_toArray, List.set_cons_zero, List.set_cons_succ])
        refine wpG_call _ rfl (by rfl) 6 #[] (fun _ => by go_simp) (fun u _ => u = .bool true) ((wakes_any _ hz1.tab hz1.rt (by decide)).mono fun e w' ⟨e1, e2⟩ => ⟨_, e1, hz1.grown e2, rfl⟩) ?_
        rintro u Z9 hz9 rfl
        refine ⟨_, fun _ h => h, hz9, ?_⟩
        (try simp only [Act.put, List.setIfInBounds_toArray, List.set_cons_zero, List.set_cons_succ])
        refine wpG_take _ (.bool true) rfl (by rfl) (fun X hX => by first | rfl | go_simp) ?_
        (try simp only [Act.put, List.setIfInBounds_toArray, List.set_cons_zero, List.set_cons_succ])
        refine wpG_take _ (.bool true) rfl (by rfl) (fun X hX => by first | rfl | go_simp) ?_
        (try simp only [Act.put, List.setIfInBounds_toArray, List.set_cons_zero, List.set_cons_succ])
        refine wpG_nil ?_
        have HZZ := Lib.hid hz9.bel
        clear hz9
        go_wp2_with fail
        go_ret
        exact ⟨rfl, HZZ.out⟩
      · have HBO : Hid (decide (bs = os) = false) := Lib.hid (decide_eq_false hbo)
        clear hbo
        refine wp_region_sched (.take 0 (.take 1 (.step 2 (.take 3 (.take 4 (.take 5 (.take 6 (.take 7 (.take 8 (.take 9 (.take 10 (.take 11 (.take 12 (.take 13 (.take 15 (.take 16 (.step 14 (.step 17 (.take 18 (.take 19 (.take 20 (.step 21 (.take 22 (.take 23 (.nil))))))))))))))))))))))))) (by kernel_rfl) (by kernel_rfl) (fun d _ _ _ _ h => by cases d <;> exact h) (OnS p q' s bs os sp1 sp2 w g) HY3.out.drew ?_
        refine wpG_take _ ((.agg (pcells s).toArray)) rfl (by rfl) (fun X hX => ex_ld (ty := 28) (cs := pcells s) rfl rfl (rng_all hX.s) Tryd.underlying28 rfl (by rw [sizeP, pcells_length HSO.out])) ?_
        (try simp only [Act.put, List.setIfInBounds_toArray, List.set_cons_zero, List.set_cons_succ])
        refine wpG_take _ (.slice sp2 512 cap2) rfl (by rfl) (fun X hX => by first | rfl | go_simp) ?_
        (try simp only [Act.put, List.setIfInBounds_toArray, List.set_cons_zero, List.set_cons_succ])
        refine wpG_call _ rfl (by rfl) 21 #[.agg (pcells s).toArray, .slice sp2 512 cap2] (fun _ => by go_simp) (fun u _ => u = .bool true) ((fits512 HSO.out HO.out HC2.out HM2.out HY3.out.drew.o HY3.out.drew.tab).mono fun e w' ⟨e1, e2⟩ => ⟨_, e1, HY3.out.drew.grown e2, by rw [HF2.out]⟩) ?_
        rintro u Z1 hz1 rfl
        refine ⟨_, fun _ h => h, hz1, ?_⟩
        (try simp only [Act.put, List.setIfInBounds_toArray, List.set_cons_zero, List.set_cons_succ])
        refine wpG_take _ (.bool false) rfl (by rfl) (fun X hX => by first | rfl | go_simp) ?_
        (try simp only [Act.put, List.setIfInBounds_toArray, List.set_cons_zero, List.set_cons_succ])
        refine wpG_take _ (.bool false) rfl (by rfl) (fun X hX => by first | rfl | go_simp) ?_
        (try simp only [Act.put, List.setIfInBounds_toArray, List.set_cons_zero, List.set_cons_succ])
        refine wpG_take _ (.slice sp1 512 cap1) rfl (by rfl) (fun X hX => by first | rfl | go_simp) ?_
        (try simp only [Act.put, List.setIfInBounds_toArray, List.set_cons_zero, List.set_cons_succ])
        refine wpG_take _ (.string (bstr bs)) rfl (by rfl) (fun X hX => ex_cvs rfl HB.out rfl hX.b) ?_
        (try simp only [Act.put, List.setIfInBounds_toArray, List.set_cons_zero, List.set_cons_succ])
        refine wpG_take _ (.slice sp2 512 cap2) rfl (by rfl) (fun X hX => by first | rfl | go_simp) ?_
        (try simp only [Act.put, List.setIfInBounds_toArray, List.set_cons_zero, List.set_cons_succ])
        refine wpG_take _ (.string (bstr os)) rfl (by rfl) (fun X hX => ex_cvs rfl HO.out rfl hX.o) ?_
        (try simp only [Act.put, List.setIfInBounds_toArray, List.set_cons_zero, List.set_cons_succ])
        refine wpG_take _ (.bool false) rfl (by rfl) (fun X hX => by rw [← HBO.out]; exact ex_eql rfl rfl rfl) ?_
        (try simp only [Act.put, List.setIfInBounds_toArray, List.set_cons_zero, List.set_cons_succ])
        refine wpG_take _ (.bool false) rfl (by rfl) (fun X hX => by first | rfl | go_simp) ?_
        (try simp only [Act.put, List.setIfInBounds_toArray, List.set_cons_zero, List.set_cons_succ])
        refine wpG_take _ (.bool false) rfl (by rfl) (fun X hX => by first | rfl | go_simp) ?_
        (try simp only [Act.put, List.setIfInBounds_toArray, List.set_cons_zero, List.set_cons_succ])
        refine wpG_take _ ((.agg (pcells s).toArray)) rfl (by rfl) (fun X hX => ex_ld (ty := 28) (cs := pcells s) rfl rfl (rng_all hX.s) Tryd.underlying28 rfl (by rw [sizeP, pcells_length HSO.out])) ?_
        (try simp only [Act.put, List.setIfInBounds_toArray, List.set_cons_zero, List.set_cons_succ])
        refine wpG_take _ (.slice sp1 512 cap1) rfl (by rfl) (fun X hX => by first | rfl | go_simp) ?_
        (try simp only [Act.put, List.setIfInBounds_toArray, List.set_cons_zero, List.set_cons_succ])
        refine wpG_take _ ((.agg (pcells s).toArray)) rfl (by rfl) (fun X hX => ex_ld (ty := 28) (cs := pcells s) rfl rfl (rng_all hX.s) Tryd.underlying28 rfl (by rw [sizeP, pcells_length HSO.out])) ?_
        (try simp only [Act.put, List.setIfInBounds_toArray, List.set_cons_zero, List.set_cons_succ])
        refine wpG_take _ (.slice sp2 512 cap2) rfl (by rfl) (fun X hX => by first | rfl | go_simp) ?_
        (try simp only [Act.put, List.setIfInBounds_toArray, List.set_cons_zero, List.set_cons_succ])
        refine wpG_call _ rfl (by rfl) 22 #[.agg (pcells s).toArray, .slice sp1 512 cap1] (fun _ => by go_simp) (fun u _ => u = .agg (s.hash.map V8).toArray) ((digest512 HSO.out HB.out HZ1.out hz1.b).mono fun e w' ⟨e1, e2⟩ => ⟨_, e1, hz1.grown e2, by rw [HDS.out]⟩) ?_
        rintro u Z2 hz2 rfl
        refine ⟨_, fun _ h => h, hz2, ?_⟩
        (try simp only [Act.put, List.setIfInBounds_toArray, List.set_cons_zero, List.set_cons_succ])
        refine wpG_call _ rfl (by rfl) 22 #[.agg (pcells s).toArray, .slice sp2 512 cap2] (fun _ => by go_simp) (fun u _ => u = .agg (s.hash.map V8).toArray) ((digest512 HSO.out HO.out HZ2.out hz2.o).mono fun e w' ⟨e1, e2⟩ => ⟨_, e1, hz2.grown e2, by rw [HFD.out]⟩) ?_
        rintro u Z3 hz3 rfl
        refine ⟨_, fun _ h => h, hz3, ?_⟩
        (try simp only [Act.put, List.setIfInBounds_toArray, List.set_cons_zero, List.set_cons_succ])
        refine wpG_take _ (.bool true) rfl (by rfl) (fun X hX => ex_eqHs (a := s.hash) rfl rfl rfl HH32.out) ?_
        (try simp only [Act.put, List.setIfInBounds_toArray, List.set_cons_zero, List.set_cons_succ])
        refine wpG_take _ (.bool true) rfl (by rfl) (fun X hX => by first | rfl | go_simp) ?_
        (try simp only [Act.put, List.setIfInBounds_toArray, List.set_cons_zero, List.set_cons_succ])
        refine wpG_take _ (.bool true) rfl (by rfl) (fun X hX => by first | rfl | go_simp) ?_
        (try simp only [Act.put, List.setIfInBounds_toArray, List.set_cons_zero, List.set_cons_succ])
        refine wpG_call _ rfl (by rfl) 6 #[] (fun _ => by go_simp) (fun u _ => u = .bool true) ((wakes_any _ hz3.tab hz3.rt (by decide)).mono fun e w' ⟨e1, e2⟩ => ⟨_, e1, hz3.grown e2, rfl⟩) ?_
        rintro u Z9 hz9 rfl
        refine ⟨_, fun _ h => h, hz9, ?_⟩
        (try simp only [Act.put, List.setIfInBounds_toArray, List.set_cons_zero, List.set_cons_succ])
        refine wpG_take _ (.bool true) rfl (by rfl) (fun X hX => by first | rfl | go_simp) ?_
        (try simp only [Act.put, List.setIfInBounds_toArray, List.set_cons_zero, List.set_cons_succ])
        refine wpG_take _ (.bool true) rfl (by rfl) (fun X hX => by first | rfl | go_simp) ?_
        (try simp only [Act.put, List.setIfInBounds_toArray, List.set_cons_zero, List.set_cons_succ])
        refine wpG_nil ?_
        have HZZ := Lib.hid hz9.bel
        clear hz9
        go_wp2_with fail
        go_ret
        exact ⟨rfl, HZZ.out⟩
end Go.Proofs.YtlibdcgpjglcpaaDoor
