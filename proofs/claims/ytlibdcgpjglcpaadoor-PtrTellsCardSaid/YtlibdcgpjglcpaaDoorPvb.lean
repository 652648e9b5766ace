/- Pointers that are known: wakes. -/
import Derived.Test.YtlibdcgpjglcpaaDoorPva
namespace Go.Proofs.YtlibdcgpjglcpaaDoor
open Go.RowKit

/-- What wakes holds. -/
structure WkS (w : World) (g g3 : Nat) (sp : Option Addr) (X : World) : Prop where
  a : Blk X w.heap.size (pcells k1) 28
  b : Blk X g (z9.map V8) 5
  s : Blk X g3 (pcells k2) 28
  src : SrcA X sp (padB k2)
  tab : Tab X
  rt : RTab X
  bel : Below w.heap.size w X
theorem WkS.grown {w X Y : World} {g g3 : Nat} {sp : Option Addr} (h : WkS w g g3 sp X) (hb : Below X.heap.size X Y) : WkS w g g3 sp Y :=
  ⟨h.a.below hb h.a.lt, h.b.below hb h.b.lt, h.s.below hb h.s.lt, h.src.grown hb, h.tab.below hb (Nat.le_refl _), h.rt.grown hb, h.bel.trans (hb.mono h.bel.size)⟩
theorem WkS.drew {w X : World} {g g3 : Nat} {sp : Option Addr} (h : WkS w g g3 sp X) : WkS w g g3 sp X.drew := h.grown (Below.refl _ _).drew
theorem sizeK1 : (Tryd.prog.info? 28).map (·.size) = some (pcells k1).toArray.size := size_pc k1_ok
theorem sizeK2 : (Tryd.prog.info? 28).map (·.size) = some (pcells k2).toArray.size := size_pc k2_ok
set_option maxRecDepth 100000 in
set_option maxHeartbeats 8000000 in
theorem wakes_any (w : World) (hT : Tab w) (hR : RTab w) (hg : 0 ≠ 1) : Calls Tryd.prog 6 #[] w fun e w' => e = .returned (.bool true) ∧ Below w.heap.size w w' := by
  have HT := Lib.hid hT
  have HR := Lib.hid hR
  clear hT hR
  obtain ⟨i0, hi, hz0, hz1, hz2⟩ := info_parts infoB
  have HI := Lib.hid hi
  have HZ0 := Lib.hid hz0
  have HZ1 := Lib.hid hz1
  have HZ2 := Lib.hid hz2
  clear hi hz0 hz1 hz2
  have HLK1 := Lib.hid (pcells_length k1_ok)
  have HK1 := Lib.hid (one_pc k1)
  have HSK1 := Lib.hid sizeK1
  have HSQ1 : Hid (41 = (pcells k1).toArray.size) := Lib.hid (by rw [List.size_toArray, HLK1.out])
  go_enter Tryd.func6, Tryd.ntmps6
  go_upto_region 2 with (first | (refine wpList_build' rfl 28 _ rfl (pcells k1).toArray (by kernel_rfl) ?_) | (refine wpList_store_row rfl 28 (.tmp 1) (.tmp 6) rfl w.heap.size _ rfl rfl 28 _ (heap_alloc_new w _) HSK1.out (by first | exact HSQ1.out | (rw [← HSQ1.out]; rfl)) HK1.out ?_) | fail)
  refine (fun (k : ∀ W, Blk W w.heap.size (pcells k1) 28 → Below w.heap.size w W → Code.wp _ _ _ _ W) => k _ (blk_row1 w _ (pcells k1) 28).1 (blk_row1 w _ (pcells k1) 28).2) ?_
  intro W1 hA1 hB1
  have HA1 := Lib.hid hA1
  have HB1 := Lib.hid hB1
  clear hA1 hB1 HSQ1
  go_upto_region 3 with (first | (refine wpL_val rfl (ex_mk512 rfl rfl) ?_) | fail)
  refine (fun (k : ∀ W, Blk W w.heap.size (pcells k1) 28 → Blk W W1.heap.size (zs.map V8) 5 → Below w.heap.size w W → Code.wp _ _ _ _ W) => k _ (HA1.out.alloc _) (Blk.new _ _ _) (HB1.out.alloc HB1.out.size _)) ?_
  intro W2 hA2 hZ2 hB2
  obtain ⟨g, hg1⟩ : ∃ g, W1.heap.size = g := ⟨_, rfl⟩
  rw [hg1] at hZ2 ⊢
  have hgw : w.heap.size < g := by have := HA1.out.lt; omega
  have HGW := Lib.hid hgw
  have HA2 := Lib.hid hA2
  have HZ2' := Lib.hid hZ2
  have HB2 := Lib.hid hB2
  have hsl : Calls Tryd.prog 20 #[.agg (pcells k1).toArray, .slice (some ⟨g, 0, none⟩) 512 512] W2 fun e w' => e = .returned (.agg (pcells k2).toArray) ∧ Below W2.heap.size W2 w' := by
    have h := seal_any k1 k1_ok zs (some ⟨g, 0, none⟩) 512 W2 (by rw [zs_len]; omega) (by rw [zs_len]; omega) (by unfold maxLen; omega) (fun _ => ⟨g, 0, rfl, hZ2.lt, fun j hj => by rw [Nat.zero_add]; exact hZ2.cell (get_map V8 zs j hj 0)⟩) (HT.out.below hB2 (Nat.le_refl _))
    rw [zs_len] at h
    exact h
  have HSL := Lib.hid hsl
  clear hA2 hZ2 hB2 hsl hg1 hgw HA1 HB1
  go_wp2_with (first | (refine wpL_valG (by rfl) (ex_ld (ty := 28) (cs := pcells k1) rfl rfl (rng_all HA2.out) Tryd.underlying28 rfl (by rw [sizeP, HLK1.out])) ?_) | fail)
  refine HSL.out.mono ?_
  rintro e3 W3 ⟨rfl, hb3⟩
  have HA3 := Lib.hid (HA2.out.below hb3 HA2.out.lt)
  have HZ3 := Lib.hid (HZ2'.out.below hb3 HZ2'.out.lt)
  have HB3 := Lib.hid (HB2.out.trans (hb3.mono HB2.out.size))
  have HK2 := Lib.hid (one_pc k2)
  have HSK2 := Lib.hid sizeK2
  have HLK2 := Lib.hid (pcells_length k2_ok)
  have HSQ2 : Hid (41 = (pcells k2).toArray.size) := Lib.hid (by rw [List.size_toArray, HLK2.out])
  clear hb3 HSL HA2 HZ2' HB2
  obtain ⟨P, hP⟩ : ∃ P, (pcells k2).toArray = P := ⟨_, rfl⟩
  have HPP := Lib.hid hP
  rw [hP] at HK2 HSK2 HSQ2 ⊢
  clear hP
  go_upto_region 4 with (first | (refine wpList_store_row rfl 28 (.tmp 3) (.tmp 10) rfl W3.heap.size _ rfl rfl 28 _ (heap_alloc_new W3 _) HSK2.out (by first | exact HSQ2.out | (rw [← HSQ2.out]; rfl)) HK2.out ?_) | fail)
  rw [← HPP.out]
  refine (fun (k : ∀ W, Blk W W3.heap.size (pcells k2) 28 → Below W3.heap.size W3 W → Code.wp _ _ _ _ W) => k _ (blk_row1 W3 _ (pcells k2) 28).1 (blk_row1 W3 _ (pcells k2) 28).2) ?_
  intro W4 hS4 hb4
  obtain ⟨g3, hg3⟩ : ∃ g, W3.heap.size = g := ⟨_, rfl⟩
  have hlt := HZ3.out.lt
  have HA4 := Lib.hid (HA3.out.below hb4 HA3.out.lt)
  have HZ4 := Lib.hid (HZ3.out.below hb4 HZ3.out.lt)
  have HB4 := Lib.hid (HB3.out.trans (hb4.mono HB3.out.size))
  rw [hg3] at hS4 hlt ⊢
  have HS4 := Lib.hid hS4
  have HLT := Lib.hid hlt
  clear hS4 hb4 hg3 hlt HA3 HZ3 HB3 HPP HK2 HSK2 HSQ2
  have hpu : Calls Tryd.prog 9 #[.slice none 0 0, .agg (pcells k2).toArray] W4 fun e w' => ∃ v, e = .returned v ∧ OwnB w' W4.heap.size v (padB k2) ∧ Below W4.heap.size W4 w' := ptrPut_any k2 k2_ok [] none 0 W4 (by simp) (SrcA.nil _ _) (fun _ => rfl)
  have HPU := Lib.hid hpu
  clear hpu
  go_wp2_with (first | (refine wpL_valG (by rfl) (ex_ld (ty := 28) (cs := pcells k2) rfl rfl (rng_all HS4.out) Tryd.underlying28 rfl (by rw [sizeP, HLK2.out])) ?_) | fail)
  refine HPU.out.mono ?_
  rintro e5 W5 ⟨v5, rfl, ho5, hb5⟩
  obtain ⟨sp5, cp5, e, q1, q2, q3, q4, q5⟩ := OwnB.form ho5
  rw [padB_length k2_ok] at e q1
  subst e
  have HQ1 := Lib.hid q1
  have HQ2 := Lib.hid q2
  have HQ4 := Lib.hid q4
  have HSRC := Lib.hid q3
  have HA5 := Lib.hid (HA4.out.below hb5 HA4.out.lt)
  have HZ5 := Lib.hid (HZ4.out.below hb5 HZ4.out.lt)
  have HS5 := Lib.hid (HS4.out.below hb5 HS4.out.lt)
  have HB5 := Lib.hid (HB4.out.trans (hb5.mono HB4.out.size))
  have HNG : Hid (∀ h o, sp5 = some ⟨h, o, none⟩ → h ≠ g) := Lib.hid (fun h o e => by have h1 := (q5 _ e).1; have h2 := HZ4.out.lt; simp at h1; omega)
  have c9 : W5.cell? ⟨g, 9, none⟩ = some (.int .u8 0) := HZ5.out.cell (by rw [← zs_cells]; rfl)
  have f9 := HZ5.out.free 9
  clear ho5 hb5 q1 q2 q3 q4 q5 HA4 HZ4 HS4 HB4 HPU
  go_upto_region 6 with fail
  have hW : WkS w g g3 sp5 (W5.setCell ⟨g, 9, none⟩ (.int .u8 1)) := by
    have hne := HNG.out
    have h1 := HZ5.out.set 9 (.int .u8 1)
    rw [z9_cells] at h1
    have hb : Below w.heap.size w (W5.setCell ⟨g, 9, none⟩ (.int .u8 1)) := HB5.out.setCell (p := ⟨g, 9, none⟩) (Nat.le_of_lt HGW.out) _
    have hg0 := HGW.out
    refine ⟨HA5.out.other (by simp; omega) _, h1, HS5.out.other (by simp; have := HLT.out; omega) _, fun h0 => ?_, HT.out.below hb (Nat.le_refl _), HR.out.below hb (Nat.le_refl _), hb⟩
    obtain ⟨h, o, e, h2, h3⟩ := HSRC.out h0
    exact ⟨h, o, e, by simpa using h2, fun j hj => by rw [World.cell?_setCell_other]; exact h3 j hj; simp; exact fun e2 => absurd e2.symm (hne h o e)⟩
  have HW := Lib.hid hW
  clear hW c9 f9 HSRC HA5 HZ5 HS5 HB5 HNG
  generalize (W5.setCell ⟨g, 9, none⟩ (.int .u8 1)) = X0 at HW ⊢
  refine wp_region_sched (.take 0 (.step 1 (.take 2 (.take 3 (.step 4 (.take 5 (.take 6 (.take 7 (.take 8 (.take 9 (.take 10 (.take 11 (.take 12 (.take 13 (.take 16 (.step 14 (.step 15 (.take 17 (.take 18 (.take 19 (.take 20 (.step 21 (.step 22 (.take 23 (.take 24 (.take 25 (.take 26 (.step 27 (.take 28 (.take 29 (.take 30 (.step 31 (.take 32 (.take 33 (.take 34 (.nil)))))))))))))))))))))))))))))))))))) (by kernel_rfl) (by kernel_rfl) (fun d _ _ _ _ h => by cases d <;> exact h) (WkS w g g3 sp5) HW.out.drew ?_
  refine wpG_take _ (.agg (pcells k1).toArray) rfl (by rfl) (fun X hX => ex_ld (ty := 28) (cs := pcells k1) rfl rfl (rng_all hX.a) Tryd.underlying28 rfl (by rw [sizeP, pcells_length k1_ok])) ?_
  (try simp only [Act.put, List.setIfInBounds_toArray, List.set_cons_zero, List.set_cons_succ])
  refine wpG_call _ rfl (by rfl) 7 #[.agg (pcells k1).toArray] (fun _ => by go_simp) (fun u _ => u = .bool true) ((may_any k1 k1_ok X0.drew HW.out.drew.rt).mono fun e w' ⟨e1, e2⟩ => ⟨_, e1, HW.out.drew.grown e2, by rw [may1]⟩) ?_
  rintro u X1 hs1 rfl
  refine ⟨_, fun _ h => h, hs1, ?_⟩
  (try simp only [Act.put, List.setIfInBounds_toArray, List.set_cons_zero, List.set_cons_succ])
  refine wpG_take _ (.bool true) rfl (by rfl) (fun X hX => by first | rfl | go_simp) ?_
  (try simp only [Act.put, List.setIfInBounds_toArray, List.set_cons_zero, List.set_cons_succ])
  refine wpG_take _ (.agg (pcells zeroP).toArray) rfl (by rfl) (fun X hX => ex_bld0 rfl) ?_
  (try simp only [Act.put, List.setIfInBounds_toArray, List.set_cons_zero, List.set_cons_succ])
  refine wpG_call _ rfl (by rfl) 7 #[.agg (pcells zeroP).toArray] (fun _ => by go_simp) (fun u _ => u = .bool false) ((may_any zeroP zeroP_ok X1 hs1.rt).mono fun e w' ⟨e1, e2⟩ => ⟨_, e1, hs1.grown e2, by rw [may0]⟩) ?_
  rintro u X2 hs2 rfl
  refine ⟨_, fun _ h => h, hs2, ?_⟩
  (try simp only [Act.put, List.setIfInBounds_toArray, List.set_cons_zero, List.set_cons_succ])
  refine wpG_take _ (.bool true) rfl (by rfl) (fun X hX => by first | rfl | go_simp) ?_
  (try simp only [Act.put, List.setIfInBounds_toArray, List.set_cons_zero, List.set_cons_succ])
  refine wpG_take _ (.bool true) rfl (by rfl) (fun X hX => by first | rfl | go_simp) ?_
  (try simp only [Act.put, List.setIfInBounds_toArray, List.set_cons_zero, List.set_cons_succ])
  refine wpG_take _ (.bool true) rfl (by rfl) (fun X hX => by first | rfl | go_simp) ?_
  (try simp only [Act.put, List.setIfInBounds_toArray, List.set_cons_zero, List.set_cons_succ])
  refine wpG_take _ (.slice sp5 64 cp5) rfl (by rfl) (fun X hX => by first | rfl | go_simp) ?_
  (try simp only [Act.put, List.setIfInBounds_toArray, List.set_cons_zero, List.set_cons_succ])
  refine wpG_take _ (.int .i64 64) rfl (by rfl) (fun X hX => by first | rfl | go_simp) ?_
  (try simp only [Act.put, List.setIfInBounds_toArray, List.set_cons_zero, List.set_cons_succ])
  refine wpG_take _ (.bool true) rfl (by rfl) (fun X hX => by first | rfl | go_simp) ?_
  (try simp only [Act.put, List.setIfInBounds_toArray, List.set_cons_zero, List.set_cons_succ])
  refine wpG_take _ (.bool true) rfl (by rfl) (fun X hX => by first | rfl | go_simp) ?_
  (try simp only [Act.put, List.setIfInBounds_toArray, List.set_cons_zero, List.set_cons_succ])
  refine wpG_take _ (.bool true) rfl (by rfl) (fun X hX => by first | rfl | go_simp) ?_
  (try simp only [Act.put, List.setIfInBounds_toArray, List.set_cons_zero, List.set_cons_succ])
  refine wpG_take _ (.slice sp5 64 cp5) rfl (by rfl) (fun X hX => by first | rfl | go_simp) ?_
  (try simp only [Act.put, List.setIfInBounds_toArray, List.set_cons_zero, List.set_cons_succ])
  refine wpG_take _ (.agg (pcells k2).toArray) rfl (by rfl) (fun X hX => ex_ld (ty := 28) (cs := pcells k2) rfl rfl (rng_all hX.s) Tryd.underlying28 rfl (by rw [sizeP, pcells_length k2_ok])) ?_
  (try simp only [Act.put, List.setIfInBounds_toArray, List.set_cons_zero, List.set_cons_succ])
  have hnw : Calls Tryd.prog 15 #[.slice sp5 64 cp5] X2 (RetRd (padB k2) X2) := by
    have h := new_any (padB k2) sp5 cp5 X2 (by rw [padB_length k2_ok]; omega) HQ4.out (by rw [padB_length k2_ok]; exact HQ1.out) hs2.src
    rw [padB_length k2_ok] at h
    exact h
  refine wpG_call _ rfl (by rfl) 15 #[.slice sp5 64 cp5] (fun _ => by go_simp) (fun u w' => ∃ H, u = .pointer (some ⟨H, 0, none⟩) ∧ RdAt w' H (fun g => X2.heap.size ≤ g ∧ g < H) (padB k2) 0 ∧ X2.heap.size ≤ H ∧ Below X2.heap.size X2 w') (hnw.mono fun e w' ⟨H, e1, e2, e3, e4⟩ => ⟨_, e1, hs2.grown e4, H, rfl, e2, e3, e4⟩) ?_
  rintro u X3 hs3 ⟨H, rfl, hrd3, hH3, hb3⟩
  refine ⟨_, fun _ h => h, hs3, ?_⟩
  (try simp only [Act.put, List.setIfInBounds_toArray, List.set_cons_zero, List.set_cons_succ])
  refine wpG_call _ rfl (by rfl) 16 #[.pointer (some ⟨H, 0, none⟩)] (fun _ => by go_simp) (fun u _ => u = .agg (pcells k2).toArray) ((ptrTake_any (padB k2) 0 H X3 hrd3 (fun g hg => Nat.lt_trans hg.2 hrd3.lt) (by rw [padB_length k2_ok]; omega) hs3.rt (by have := hs2.rt.lt; omega)).mono fun e w' ⟨e1, e2, e3⟩ => ⟨_, e1, hs2.grown (hb3.trans (e3.below hH3 hb3.size)), by rw [(taken_padB k2_ok may2).2]⟩) ?_
  rintro u X4 hs4 rfl
  refine ⟨_, fun _ h => h, hs4, ?_⟩
  (try simp only [Act.put, List.setIfInBounds_toArray, List.set_cons_zero, List.set_cons_succ])
  refine wpG_take _ (.bool true) rfl (by rfl) (fun X hX => ex_eqPs (p := k2) rfl rfl rfl k2_ok) ?_
  (try simp only [Act.put, List.setIfInBounds_toArray, List.set_cons_zero, List.set_cons_succ])
  refine wpG_take _ (.bool true) rfl (by rfl) (fun X hX => by first | rfl | go_simp) ?_
  (try simp only [Act.put, List.setIfInBounds_toArray, List.set_cons_zero, List.set_cons_succ])
  refine wpG_take _ (.bool true) rfl (by rfl) (fun X hX => by first | rfl | go_simp) ?_
  (try simp only [Act.put, List.setIfInBounds_toArray, List.set_cons_zero, List.set_cons_succ])
  refine wpG_take _ (.agg (pcells k2).toArray) rfl (by rfl) (fun X hX => ex_ld (ty := 28) (cs := pcells k2) rfl rfl (rng_all hX.s) Tryd.underlying28 rfl (by rw [sizeP, pcells_length k2_ok])) ?_
  (try simp only [Act.put, List.setIfInBounds_toArray, List.set_cons_zero, List.set_cons_succ])
  refine wpG_mk _ rfl (by rfl) _ _ (ex_mk512 rfl rfl) (WkS w g g3 sp5) (hs4.grown ((Below.refl _ _).alloc (Nat.le_refl _) _)) (fun _ h => h) ?_
  (try simp only [Act.put, List.setIfInBounds_toArray, List.set_cons_zero, List.set_cons_succ])
  have hft : Calls Tryd.prog 21 #[.agg (pcells k2).toArray, .slice (some ⟨X4.heap.size, 0, none⟩) 512 512] (X4.alloc (.cells (zs.map V8).toArray 5)) fun e w' => e = .returned (.bool true) ∧ Below X4.heap.size X4 w' := by
    have hs5 := hs4.grown ((Below.refl X4.heap.size X4).alloc (Nat.le_refl _) (.cells (zs.map V8).toArray 5))
    have h := fits_any k2 k2_ok zs (some ⟨X4.heap.size, 0, none⟩) 512 (X4.alloc (.cells (zs.map V8).toArray 5)) (by rw [zs_len]; omega) (by rw [zs_len]; omega) (by unfold maxLen; omega) (fun _ => ⟨_, 0, rfl, by simp, fun j hj => by rw [Nat.zero_add]; exact (Blk.new X4 (zs.map V8) 5).cell (get_map V8 zs j hj 0)⟩) hs5.tab
    rw [zs_len, fits2] at h
    exact h.mono fun e w' ⟨e1, e2⟩ => ⟨e1, ((Below.refl X4.heap.size X4).alloc (Nat.le_refl _) _).trans (e2.mono (by simp))⟩
  refine wpG_call _ rfl (by rfl) 21 #[.agg (pcells k2).toArray, .slice (some ⟨X4.heap.size, 0, none⟩) 512 512] (fun _ => by go_simp) (fun u _ => u = .bool true) (hft.mono fun e w' ⟨e1, e2⟩ => ⟨_, e1, hs4.grown e2, rfl⟩) ?_
  rintro u X5 hs5 rfl
  refine ⟨_, fun _ h => h, hs5, ?_⟩
  (try simp only [Act.put, List.setIfInBounds_toArray, List.set_cons_zero, List.set_cons_succ])
  refine wpG_take _ (.bool true) rfl (by rfl) (fun X hX => by first | rfl | go_simp) ?_
  (try simp only [Act.put, List.setIfInBounds_toArray, List.set_cons_zero, List.set_cons_succ])
  refine wpG_take _ (.bool true) rfl (by rfl) (fun X hX => by first | rfl | go_simp) ?_
  (try simp only [Act.put, List.setIfInBounds_toArray, List.set_cons_zero, List.set_cons_succ])
  refine wpG_take _ (.agg (pcells k2).toArray) rfl (by rfl) (fun X hX => ex_ld (ty := 28) (cs := pcells k2) rfl rfl (rng_all hX.s) Tryd.underlying28 rfl (by rw [sizeP, pcells_length k2_ok])) ?_
  (try simp only [Act.put, List.setIfInBounds_toArray, List.set_cons_zero, List.set_cons_succ])
  refine wpG_take _ (.slice (some ⟨g, 0, none⟩) 512 512) rfl (by rfl) (fun X hX => by first | rfl | go_simp) ?_
  (try simp only [Act.put, List.setIfInBounds_toArray, List.set_cons_zero, List.set_cons_succ])
  have hft9 : Calls Tryd.prog 21 #[.agg (pcells k2).toArray, .slice (some ⟨g, 0, none⟩) 512 512] X5 fun e w' => e = .returned (.bool false) ∧ Below X5.heap.size X5 w' := by
    have h := fits_any k2 k2_ok z9 (some ⟨g, 0, none⟩) 512 X5 (by rw [z9_len]; omega) (by rw [z9_len]; omega) (by unfold maxLen; omega) (fun _ => ⟨_, 0, rfl, hs5.b.lt, fun j hj => by rw [Nat.zero_add]; exact hs5.b.cell (get_map V8 z9 j hj 0)⟩) hs5.tab
    rw [z9_len, fits9] at h
    exact h
  refine wpG_call _ rfl (by rfl) 21 #[.agg (pcells k2).toArray, .slice (some ⟨g, 0, none⟩) 512 512] (fun _ => by go_simp) (fun u _ => u = .bool false) (hft9.mono fun e w' ⟨e1, e2⟩ => ⟨_, e1, hs5.grown e2, rfl⟩) ?_
  rintro u X6 hs6 rfl
  refine ⟨_, fun _ h => h, hs6, ?_⟩
  (try simp only [Act.put, List.setIfInBounds_toArray, List.set_cons_zero, List.set_cons_succ])
  refine wpG_take _ (.bool true) rfl (by rfl) (fun X hX => by first | rfl | go_simp) ?_
  (try simp only [Act.put, List.setIfInBounds_toArray, List.set_cons_zero, List.set_cons_succ])
  refine wpG_take _ (.bool true) rfl (by rfl) (fun X hX => by first | rfl | go_simp) ?_
  (try simp only [Act.put, List.setIfInBounds_toArray, List.set_cons_zero, List.set_cons_succ])
  refine wpG_take _ (.bool true) rfl (by rfl) (fun X hX => by first | rfl | go_simp) ?_
  (try simp only [Act.put, List.setIfInBounds_toArray, List.set_cons_zero, List.set_cons_succ])
  refine wpG_call _ rfl (by rfl) 11 #[.int .u8 1] (fun _ => by go_simp) (fun u _ => u = .int .i64 1) ((wide_any 1 (by omega) X6 hs6.rt).mono fun e w' ⟨e1, e2⟩ => ⟨_, e1, hs6.grown e2, rfl⟩) ?_
  rintro u X7 hs7 rfl
  refine ⟨_, fun _ h => h, hs7, ?_⟩
  (try simp only [Act.put, List.setIfInBounds_toArray, List.set_cons_zero, List.set_cons_succ])
  refine wpG_take _ (.bool true) rfl (by rfl) (fun X hX => by first | rfl | go_simp) ?_
  (try simp only [Act.put, List.setIfInBounds_toArray, List.set_cons_zero, List.set_cons_succ])
  refine wpG_take _ (.bool true) rfl (by rfl) (fun X hX => by first | rfl | go_simp) ?_
  (try simp only [Act.put, List.setIfInBounds_toArray, List.set_cons_zero, List.set_cons_succ])
  refine wpG_take _ (.bool true) rfl (by rfl) (fun X hX => by first | rfl | go_simp) ?_
  (try simp only [Act.put, List.setIfInBounds_toArray, List.set_cons_zero, List.set_cons_succ])
  refine wpG_nil ?_
  have HB := Lib.hid hs7.bel
  clear hs1 hs2 hs3 hs4 hs5 hs6 hs7 hrd3 hH3 hb3 hft hft9 hnw HW
  go_wp2_with fail
  go_ret
  exact ⟨rfl, HB.out⟩
end Go.Proofs.YtlibdcgpjglcpaaDoor
