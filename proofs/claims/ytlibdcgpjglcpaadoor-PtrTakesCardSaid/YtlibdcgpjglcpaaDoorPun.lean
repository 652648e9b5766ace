/- Take of no reader: a hole. -/
import Derived.Test.YtlibdcgpjglcpaaDoorPva
import Derived.Test.YtlibdcgpjglcpaaDoorRdNil
namespace Go.Proofs.YtlibdcgpjglcpaaDoor
open Go.RowKit

structure TnW (w : World) (G : Nat) (W : World) : Prop where
  res : Blk W w.heap.size (pcells zeroP) 28
  an : Blk W G (pcells zeroP) 28
  bel : Below w.heap.size w W
  hG : w.heap.size < G
theorem TnW.grown {w W W' : World} {G : Nat} (h : TnW w G W) (hb : Below W.heap.size W W') : TnW w G W' := ⟨h.res.below hb h.res.lt, h.an.below hb h.an.lt, h.bel.trans (hb.mono h.bel.size), h.hG⟩
theorem TnW.set {w W W' : World} {G : Nat} (h : TnW w G W) (ha : Blk W' G (pcells zeroP) 28) (hb : ButFor G W W') : TnW w G W' :=
  have := h.hG
  ⟨hb.blk h.res (by omega), ha, h.bel.trans (hb.below (by omega) h.bel.size), h.hG⟩
theorem zero_set (k : Nat) (hk : k < 4) : (pcells zeroP).set (37 + k) (.int .u16 0) = pcells zeroP := by
  match k, hk with
  | 0, _ | 1, _ | 2, _ | 3, _ => rfl
set_option maxRecDepth 100000 in
set_option maxHeartbeats 4000000 in
theorem ptrTake_nil (w : World) : Calls Tryd.prog 16 #[.pointer none] w fun x w' => x = .returned (.agg (pcells zeroP).toArray) ∧ Below w.heap.size w w' := by
  have HSZ := Lib.hid (size_pc zeroP_ok)
  have HLZ : Hid ((pcells zeroP).toArray.size = (pcells zeroP).toArray.size) := Lib.hid rfl
  go_enter Tryd.func16, Tryd.ntmps16
  go_upto_region 1 with fail
  refine (fun (k : ∀ W, Blk W w.heap.size (pcells zeroP) 28 → Below w.heap.size w W → Code.wp _ _ _ _ W) => k _ (Blk.new w (pcells zeroP) 28) ((Below.refl _ _).alloc (Nat.le_refl _) _)) ?_
  intro W0 hr hb
  have HR0 := Lib.hid hr; have HB0 := Lib.hid hb
  clear hr hb
  go_wp2_with fail
  refine (ru8_nil W0).mono ?_
  rintro x w' ⟨rfl, rfl⟩
  go_wp2_with fail
  refine (ru8_nil W0).mono ?_
  rintro x w' ⟨rfl, rfl⟩
  go_wp2_with fail
  refine (ru16_nil W0).mono ?_
  rintro x w' ⟨rfl, rfl⟩
  go_wp2_with fail
  refine (ru32_nil W0).mono ?_
  rintro x w' ⟨rfl, rfl⟩
  go_wp2_with fail
  refine (ru64_nil W0).mono ?_
  rintro x w' ⟨rfl, rfl⟩
  go_upto_region 2 with (first | (refine wpList_build' rfl 28 _ rfl (pcells zeroP).toArray (by kernel_rfl) ?_) | (refine wpList_store_row rfl 28 (.tmp 3) (.tmp 15) rfl W0.heap.size (pcells zeroP).toArray rfl rfl 28 _ (heap_alloc_new W0 _) HSZ.out rfl (one_pc zeroP) ?_) | fail)
  refine (fun (k : ∀ W, Blk W W0.heap.size (pcells zeroP) 28 → Below W0.heap.size W0 W → Code.wp _ _ _ _ W) => k _ (blk_row1 W0 _ (pcells zeroP) 28).1 (blk_row1 W0 _ (pcells zeroP) 28).2) ?_
  intro W1 ha hb1
  have hT : TnW w W0.heap.size W1 := ⟨HR0.out.below hb1 HR0.out.lt, ha, HB0.out.trans (hb1.mono HB0.out.size), HR0.out.lt⟩
  obtain ⟨G, hG⟩ : ∃ G, W0.heap.size = G := ⟨_, rfl⟩
  rw [hG] at hT ⊢
  have HT := Lib.hid hT
  clear ha hb1 hT hG HR0 HB0
  refine wp_region_sched (.take 0 (.take 1 (.take 2 (.step 3 (.step 4 (.nil)))))) (by kernel_rfl) (by kernel_rfl) (fun d _ _ _ _ h => by cases d <;> exact h) (fun _ => True) trivial ?_
  refine wpG_take _ (.pointer (some ⟨G, 5, none⟩)) rfl (by rfl) (fun X hX => ex_faP 5 5 (by omega) rfl rfl) ?_
  (try simp only [Act.put, List.setIfInBounds_toArray, List.set_cons_zero, List.set_cons_succ])
  refine wpG_take _ (.slice (some ⟨G, 5, none⟩) 32 32) rfl (by rfl) (fun X hX => ex_slH rfl rfl) ?_
  (try simp only [Act.put, List.setIfInBounds_toArray, List.set_cons_zero, List.set_cons_succ])
  refine wpG_take _ (.pointer none) rfl (by rfl) (fun X hX => by first | rfl | go_simp) ?_
  (try simp only [Act.put, List.setIfInBounds_toArray, List.set_cons_zero, List.set_cons_succ])
  refine wpG_call _ rfl (by rfl) 37 #[.pointer none, .int .i64 32] (fun _ => by go_simp) (fun u w' => OwnB w' W1.drew.heap.size u [] ∧ Below W1.drew.heap.size W1.drew w') ((raw_nil 32 W1.drew).mono fun e w' ⟨v, e1, e2, e3⟩ => ⟨v, e1, trivial, e2, e3⟩) ?_
  rintro u W2 - ⟨ho, hb2⟩
  obtain ⟨spn, capn, e, _, _, hsn, _⟩ := OwnB.form ho
  rw [List.length_nil] at e
  subst e
  have HT2 := HT.out.grown ((Below.refl _ _).drew.trans hb2)
  refine ⟨_, fun _ h => h, trivial, ?_⟩
  (try simp only [Act.put, List.setIfInBounds_toArray, List.set_cons_zero, List.set_cons_succ])
  refine wpG_copyE _ rfl (by rfl) (.tmp 17) (.tmp 19) rfl (m := []) (sp := spn) (cap := capn) rfl rfl (by simp) hsn HT2.an (by simp [pcells_length zeroP_ok]) ?_
  intro W8 gv hb8 hbf8
  refine ⟨fun _ => True, fun _ _ => trivial, trivial, ?_⟩
  (try simp only [Act.put, List.setIfInBounds_toArray, List.set_cons_zero, List.set_cons_succ])
  refine wpG_nil ?_
  have HT3 : Hid (TnW w G W8) := Lib.hid (HT2.set (by have h := hb8; simp only [splice, List.map_nil, List.nil_append, List.length_nil, Nat.add_zero, List.take_append_drop] at h; exact h) hbf8)
  clear hb8 hbf8 HT2 ho hb2 hsn HT
  go_wp2_with fail
  go_loopw [21] (fun i wr => ∃ k : Nat, k ≤ 4 ∧ i = .int .i64 (k : Int) ∧ TnW w G wr) (fun i _ => 4 - (intOf i).toNat)
  case atStart => exact ⟨0, by omega, rfl, HT3.out⟩
  case round =>
    clear HT3
    obtain ⟨k, hk, rfl, hT⟩ := hrel
    have HT := Lib.hid hT
    clear hT
    have wk1 := IntWalk.i64_in ((k : Int) + 1) (by omega)
    by_cases hlt : k < 4
    · go_wp2_with fail
      refine (ru16_nil wr).mono ?_
      rintro x w' ⟨rfl, rfl⟩
      obtain ⟨y, hy⟩ := HT.out.an.has (37 + k) (by rw [pcells_length zeroP_ok]; omega)
      have fy := HT.out.an.free (37 + k)
      have hst : TnW w G (wr.setCell ⟨G, 37 + k, none⟩ (.int .u16 0)) := by
        have h8 := HT.out.an.set (37 + k) (.int .u16 0)
        rw [zero_set k hlt] at h8
        exact HT.out.set h8 ((ButFor.refl _ _).set _ _)
      have HST := Lib.hid hst
      clear hst
      go_wp2_with fail
      go_roundw
      case rel => exact ⟨k + 1, by omega, by go_num, HST.out⟩
      case measure => simp [intOf]; omega
    · obtain rfl : k = 4 := by omega
      clear hlt hk
      rw [show ((4 : Nat) : Int) = (4 : Int) from rfl]
      go_wp2_with fail
      refine (noughts_nil 8 wr).mono ?_
      rintro x w' ⟨rfl, rfl⟩
      have HEZ : Hid ((!eqP zeroP zeroP) = false) := Lib.hid (by rw [eqP_same]; rfl)
      have HRS := Lib.hid HT.out.res
      go_wp2_with (first | (refine wpL_valG (by rfl) (ex_ld (ty := 28) (cs := pcells zeroP) rfl rfl (rng_all HT.out.an) Tryd.underlying28 rfl (by rw [sizeP, pcells_length zeroP_ok])) ?_) | (refine wpL_val rfl (ex_bld0 rfl) ?_) | (refine wpL_val rfl (ex_nePs (p := zeroP) rfl rfl rfl zeroP_ok) ?_) | fail)
      refine (err_nil wr).mono ?_
      rintro x w' ⟨rfl, rfl⟩
      go_wp2_with (first | (refine wpL_val rfl (ex_bld0 rfl) ?_) | (refine wpList_store_row rfl 28 (.tmp 2) (.tmp 45) rfl w.heap.size (pcells zeroP).toArray rfl rfl 28 _ HRS.out HSZ.out rfl (one_pc zeroP) ?_) | fail)
      exact bodyPost_ret (results_cell_row Tryd.results16 _ _ w.heap.size 28 _ _ _ rfl (HRS.out.row _) Tryd.underlying28 rfl HSZ.out) rfl ⟨rfl, below_row HT.out.bel (Nat.le_refl _) _⟩
end Go.Proofs.YtlibdcgpjglcpaaDoor
