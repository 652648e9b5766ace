/- Charge: ChargeBounds' walk. -/
import Derived.Test.YtoceedfjfjobdaaGm
namespace Go.Proofs.Ytoceedfjfjobdaa
open Go.RowKit

attribute [local go_sem] Oper.semAt_some

theorem infoL : (Try.prog.info? 33).map (fun i => (i.zero.map (·.cells.size), i.size, i.bytes)) = some (some 3, 3, 32) := by kernel_rfl
theorem info_partsL : ∃ i z, Try.prog.info? 33 = some i ∧ i.zero = some z ∧ z.cells.size = 3 ∧ i.size = 3 ∧ i.bytes = 32 := by
  obtain ⟨i, h1, h2⟩ := Option.map_eq_some_iff.1 infoL
  simp only [Prod.mk.injEq] at h2
  obtain ⟨z, hz, hz2⟩ := Option.map_eq_some_iff.1 h2.1
  exact ⟨i, z, h1, hz, hz2, h2.2.1, h2.2.2⟩
theorem sizeL : (Try.prog.info? 33).map (·.size) = some 3 := by kernel_rfl
section
variable {ρ : Operand → Value} {o : Oper} {x y : Operand} {w : World}
theorem ex_oneL {e : Oi} (ho : o.op = .buildSlice 29 1 #[(0, x)]) (hx : ρ x = .agg (ocells e).toArray) :
    (execOp ρ o).run Try.prog w = .ok (.value (.slice (some ⟨w.heap.size, 0, none⟩) 1 1)) (w.alloc (.cells (ocells e).toArray 33)) := by
  obtain ⟨i, z, hi, hz, hzs, his, _⟩ := info_partsL
  have hr := run_buildSlice (P := Try.prog) w 29 33 1 #[(0, .agg (ocells e).toArray)] (ocells e).toArray i z Try.underlying29 hi hz (by rw [his]; omega) (by rw [his]; omega)
    (fill_whole (size := 3) (by simp [his]) (by simp [Value.cells]) (by simp [his]))
  unfold execOp
  simp only [ho]
  rw [show (Array.map (fun x : Nat × Operand => (x.1, ρ x.2)) #[(0, x)]) = #[(0, .agg (ocells e).toArray)] by simp [hx]]
  simp only [Sem.run_bind, hr, Result.andThen_ok]
  rfl
theorem ex_ldL {e : Oi} {g : Nat} {t : TypeId} (hb : Blk w g (ocells e) t) (ho : o.op = .load 33 x) (hx : ρ x = .pointer (some ⟨g, 0, none⟩)) : (execOp ρ o).run Try.prog w = .ok (.value (.agg (ocells e).toArray)) w :=
  c_ld ho hx (c_rng hb) Try.underlying33 rfl sizeL
end
theorem w_joinE {P : Program} {c : Code} {Q : Exit → Act → World → Prop} {a : Act} {w : World} (R : Act → World → Prop) (h : c.wp P (fun e a w => e = .normal ∧ R a w) a w) (k : ∀ a w, R a w → Q .normal a w) : c.wp P Q a w :=
  wp_mono h (fun e a w ⟨e1, e2⟩ => by subst e1; exact k a w e2)
theorem charge_pr (ys : List Yo) : pr (filesL ys : Int) (metasL ys : Int) (ys.length : Int) = (chargeL ys : Int) := by
  unfold pr chargeL
  omega
theorem in33_of {ys : List Yo} (h : ys.length < 1000) : In33 (filesL ys : Int) (metasL ys : Int) (ys.length : Int) := by
  have h1 := files_le ys
  have h2 := metas_le ys
  unfold In33
  omega
set_option maxRecDepth 100000 in
set_option maxHeartbeats 16000000 in
theorem bounds_go (l : List Oi) (sp : Option Addr) (cap : Nat) (hc : l.length ≤ cap) (one : Oi) (w : World) (hs : SrcO w sp l) (hk : ∀ o ∈ l, o.OK w) (h1 : one.OK w) :
    Calls Try.prog 4 #[.slice sp l.length cap, .agg (ocells one).toArray] w (Ret w (.bool true)) := by
  obtain ⟨N, hN⟩ : ∃ N, l.length = N := ⟨_, rfl⟩
  have HGR := Lib.hid (great_any l sp cap hc)
  have HOF0 := Lib.hid (of_any l sp cap hc)
  rw [hN] at HGR HOF0 ⊢
  have HN := Lib.hid hN; have HS := Lib.hid hs; have HK := Lib.hid hk; have H1 := Lib.hid h1
  obtain ⟨M, hM⟩ : ∃ M, one.offs.length = M := ⟨_, rfl⟩
  have HM := Lib.hid hM
  generalize hPost : Ret w (.bool true) = Post
  have HP : Hid (∀ W, Below w.heap.size w W → Post (.returned (.bool true)) W) := Lib.hid fun W h => by rw [← hPost]; exact ⟨rfl, h⟩
  clear hN hs hk h1 hM hc hPost
  go_enter Try.func4, Try.ntmps4
  go_upto_region 1 with fail
  refine (fun (k' : ∀ W, Blk W w.heap.size (ocells one) 33 → Below w.heap.size w W → Code.wp _ _ _ _ W) => k' _ (Blk.new' _ _ _ _ _ rfl rfl) ((Below.refl _ _).alloc (Nat.le_refl _) _)) ?_
  intro W1 hA hb1
  obtain ⟨g, hg⟩ : ∃ g, w.heap.size = g := ⟨_, rfl⟩
  rw [hg] at hA ⊢
  have HA := Lib.hid hA; have HB1 := Lib.hid hb1
  clear hA hb1 hg
  go_wp2_with fail
  refine (HGR.out W1 (HS.out.grown HB1.out)).mono ?_
  rintro e W2 ⟨rfl, hb2⟩
  have HA2 := Lib.hid (HA.out.below hb2 HA.out.lt)
  have HB2 := Lib.hid (HB1.out.trans (hb2.mono HB1.out.size))
  clear hb2 HA HB1
  obtain ⟨gr, hgr⟩ : ∃ b, greatO l = b := ⟨_, rfl⟩
  rw [hgr]
  have p2 := HA2.out.cell (j := 2) rfl
  rw [HM.out] at p2
  have wake : ∀ X, Below w.heap.size w X → Calls Try.prog 8 #[] X (fun e W => e = .returned (.bool true) ∧ Below w.heap.size w W) := fun X hX => (gwakes_any X).mono fun e W he => ⟨he.1, hX.trans (he.2.mono hX.size)⟩
  have HWK := Lib.hid wake
  clear wake
  cases gr
  case true =>
    clear p2
    go_wp2_with fail
    refine (HWK.out W2 HB2.out).mono ?_
    rintro e W3 ⟨rfl, hb3⟩
    have HE := Lib.hid (HP.out _ hb3)
    clear hb3
    go_wp2_with fail
    first | exact HE.out | (go_ret; exact HE.out)
  case false =>
  by_cases hm : 100 < M
  · have z1 : (100 : Int) < (M : Int) := by omega
    clear hm
    go_wp2_with fail
    refine (HWK.out W2 HB2.out).mono ?_
    rintro e W3 ⟨rfl, hb3⟩
    have HE := Lib.hid (HP.out _ hb3)
    clear hb3
    go_wp2_with fail
    first | exact HE.out | (go_ret; exact HE.out)
  have z1 : ¬ (100 : Int) < (M : Int) := by omega
  have hgs : N ≤ 300 ∧ ∀ o ∈ l, o.offs.length ≤ 100 := by
    unfold greatO at hgr
    rw [Bool.or_eq_false_iff] at hgr
    have h1 := hgr.1
    have h2 := hgr.2
    rw [HN.out] at h1
    refine ⟨by simpa using h1, fun a ha => ?_⟩
    have := List.any_eq_false.1 h2 a ha
    simpa using this
  have HN1 : Hid ((l ++ [one]).length = N + 1) := Lib.hid (by rw [List.length_append, HN.out]; rfl)
  have HNB : Hid (N ≤ 300) := Lib.hid hgs.1
  have HOL : Hid (∀ o ∈ l ++ [one], o.offs.length < 1000000) := Lib.hid (fun o ho => by
    rcases List.mem_append.1 ho with h | h
    · have := hgs.2 o h; omega
    · simp only [List.mem_singleton] at h; subst h; rw [HM.out]; omega)
  have HOFL : Hid (∀ X, Below W2.heap.size W2 X → Calls Try.prog 10 #[.slice sp N cap] X fun e w' => ∃ v, e = .returned v ∧ OwnO w' X.heap.size v l ∧ Below X.heap.size X w') := Lib.hid fun X hX => HOF0.out (by have := HNB.out; omega) X (HS.out.grown (HB2.out.trans (hX.mono HB2.out.size)))
  clear hgr hgs hm
  go_upto_region 3 with fail
  clear p2 z1
  go_wp2_with fail
  refine (HOFL.out W2 (Below.refl _ _)).mono ?_
  rintro e W3 ⟨va, rfl, ho3, hb3⟩
  obtain ⟨spa, capa, rfl, hca, -, hsa, -, -⟩ := ho3.form
  rw [HN.out] at hca ⊢
  have HSA := Lib.hid hsa; have HCA := Lib.hid hca
  replace HOFL : Hid (∀ X, Below W3.heap.size W3 X → Calls Try.prog 10 #[.slice sp N cap] X fun e w' => ∃ v, e = .returned v ∧ OwnO w' X.heap.size v l ∧ Below X.heap.size X w') := Lib.hid fun X hX => HOFL.out X (hb3.trans (hX.mono hb3.size))
  have HA3 := Lib.hid (HA2.out.below hb3 HA2.out.lt)
  have HB3 := Lib.hid (HB2.out.trans (hb3.mono HB2.out.size))
  clear ho3 hb3 hca hsa HA2
  go_upto_region 4 with fail
  refine w_joinE (fun a W => ∃ (v19 v21 v22 : Value) (spb : Option Addr) (capb : Nat), a = { tmps := #[.slice sp N cap, .agg (ocells one).toArray, undef, .pointer (some ⟨g, 0, none⟩), .bool false, .slice spa N capa, .slice spb (N + 1) capb, .slice sp N cap, .bool false, .bool false, .pointer (some ⟨g, 2, none⟩), .slice one.sp M one.cap, .int .i64 (M : Int), .bool (decide ((100 : Int) < (M : Int))), .bool (decide ((100 : Int) < (M : Int))), undef, .slice sp N cap, .slice spa N capa, .slice sp N cap, v19, .agg (ocells one).toArray, v21, v22, .slice spb (N + 1) capb, undef, undef, undef, undef, undef, undef, undef, undef, undef, undef, undef, undef, undef, undef, undef, undef, undef, undef, undef, undef, undef, undef, undef, undef, undef, undef, undef, undef, undef, undef, undef, undef, undef], defers := [] } ∧ Below W3.heap.size W3 W ∧ SrcO W spb (l ++ [one]) ∧ N + 1 ≤ capb) ?_ ?_
  · refine wp_region_sched (.take 0 (.take 2 (.fork 1 (.step 3 (.step 4 (.step 5 (.take 6 (.nil))))) 3 (.step 1 (.step 4 (.step 5 (.take 6 (.nil)))))))) (by kernel_rfl) (by kernel_rfl) (fun _ _ _ _ _ h => by cases h.1) (fun X => Below W3.heap.size W3 X) ((Below.refl _ _).drew) ?_
    refine wpG_take _ (.slice sp N cap) rfl (by rfl) (fun X hX => by first | rfl | go_simp) ?_
    (try simp only [Act.put, List.setIfInBounds_toArray, List.set_cons_zero, List.set_cons_succ])
    refine wpG_take _ (.agg (ocells one).toArray) rfl (by rfl) (fun X hX => ex_ldL (HA3.out.below hX HA3.out.lt) rfl rfl) ?_
    (try simp only [Act.put, List.setIfInBounds_toArray, List.set_cons_zero, List.set_cons_succ])
    refine wpG_fork ?_ ?_
    · refine wpG_call _ rfl (by rfl) 10 (#[.slice sp N cap]) (fun X => by go_simp) (fun u X => OwnO X W3.heap.size u l ∧ Below W3.heap.size W3 X) ((HOFL.out W3.drew (Below.refl _ _).drew).mono fun e X he => by
        obtain ⟨v, e1, h1, h2⟩ := he
        have h3 : Below W3.heap.size W3 X := (Below.refl W3.heap.size W3).drew.trans h2
        exact ⟨v, e1, h3, h1, h3⟩) ?_
      rintro u X3 - ⟨ho3, hb3⟩
      refine ⟨_, fun _ h => h, hb3, ?_⟩
      (try simp only [Act.put, List.setIfInBounds_toArray, List.set_cons_zero, List.set_cons_succ])
      refine wpG_mkE _ rfl (by rfl) (.slice (some ⟨X3.heap.size, 0, none⟩) 1 1) (X3.alloc (.cells (ocells one).toArray 33)) (ex_oneL rfl rfl) (fun X => Below W3.heap.size W3 X) (hb3.alloc hb3.size _) (fun _ h => h) ?_
      (try simp only [Act.put, List.setIfInBounds_toArray, List.set_cons_zero, List.set_cons_succ])
      have hb4 := hb3.alloc hb3.size (.cells (ocells one).toArray 33)
      have hx : Below X3.heap.size X3 (X3.alloc (.cells (ocells one).toArray 33)) := (Below.refl _ _).alloc (Nat.le_refl _) _
      have ho4 := ho3.below hx (Nat.le_refl _)
      have hk4 : Blk (X3.alloc (.cells (ocells one).toArray 33)) X3.heap.size (ocells one) 33 := Blk.new' _ _ _ _ _ rfl rfl
      obtain ⟨X4, hX4⟩ : ∃ X, X3.alloc (.cells (ocells one).toArray 33) = X := ⟨_, rfl⟩
      obtain ⟨gb, hgb⟩ : ∃ g, X3.heap.size = g := ⟨_, rfl⟩
      rw [hX4] at hb4 ho4 hk4 ⊢
      rw [hgb] at hk4 ⊢
      refine wpG_call _ rfl (by rfl) 10 (#[.slice (some ⟨gb, 0, none⟩) 1 1]) (fun X => by go_simp) (fun u X => OwnO X X4.heap.size u [one] ∧ Below X4.heap.size X4 X) ((of_any [one] (some ⟨gb, 0, none⟩) 1 (Nat.le_refl _) (by simp) X4 (srcO_one hk4)).mono fun e X he => by
        obtain ⟨v, e1, h1, h2⟩ := he
        exact ⟨v, e1, hb4.trans (h2.mono hb4.size), h1, h2⟩) ?_
      rintro u5 X5 - ⟨ho5, hx5⟩
      have hb5 := hb4.trans (hx5.mono hb4.size)
      refine ⟨_, fun _ h => h, hb5, ?_⟩
      (try simp only [Act.put, List.setIfInBounds_toArray, List.set_cons_zero, List.set_cons_succ])
      have ho6 := ho4.below hx5 (Nat.le_refl _)
      obtain ⟨sp5, cap5, rfl, -, -, hs5, hz5, -⟩ := ho5.form
      obtain ⟨v7, W7, hr7, ho7, hg7, -⟩ := ownO_apps ho6 hb5.size (l2 := [one]) (by have := HNB.out; have := HN.out; simp; omega) hs5 hz5 35
      have hb7 := ownO_bel ho6 hb5 hg7
      obtain ⟨sp7, cap7, rfl, hc7, -, hs7, -, -⟩ := ho7.form
      rw [HN1.out] at hc7 hr7
      refine wpG_mkE _ rfl (by rfl) (.slice sp7 (N + 1) cap7) W7 (ex_appO rfl rfl rfl hr7) (fun X => Below W3.heap.size W3 X) hb7 (fun _ h => h) ?_
      (try simp only [Act.put, List.setIfInBounds_toArray, List.set_cons_zero, List.set_cons_succ])
      refine wpG_take _ (.slice sp7 (N + 1) cap7) rfl (by rfl) (fun X hX => by first | rfl | go_simp) ?_
      (try simp only [Act.put, List.setIfInBounds_toArray, List.set_cons_zero, List.set_cons_succ])
      refine wpG_nil ?_
      exact ⟨rfl, _, _, _, sp7, cap7, rfl, hb7, hs7, hc7⟩
    · refine wpG_mkE _ rfl (by rfl) (.slice (some ⟨W3.drew.heap.size, 0, none⟩) 1 1) (W3.drew.alloc (.cells (ocells one).toArray 33)) (ex_oneL rfl rfl) (fun X => Below W3.heap.size W3 X) ((Below.refl _ _).drew.alloc (Nat.le_refl _) _) (fun _ h => h) ?_
      (try simp only [Act.put, List.setIfInBounds_toArray, List.set_cons_zero, List.set_cons_succ])
      have hb3 : Below W3.heap.size W3 (W3.drew.alloc (.cells (ocells one).toArray 33)) := (Below.refl _ _).drew.alloc (Nat.le_refl _) _
      have hk3 : Blk (W3.drew.alloc (.cells (ocells one).toArray 33)) W3.drew.heap.size (ocells one) 33 := Blk.new' _ _ _ _ _ rfl rfl
      obtain ⟨X3, hX3⟩ : ∃ X, W3.drew.alloc (.cells (ocells one).toArray 33) = X := ⟨_, rfl⟩
      obtain ⟨gb, hgb⟩ : ∃ g, W3.drew.heap.size = g := ⟨_, rfl⟩
      rw [hX3] at hb3 hk3 ⊢
      rw [hgb] at hk3 ⊢
      refine wpG_call _ rfl (by rfl) 10 (#[.slice sp N cap]) (fun X => by go_simp) (fun u X => OwnO X W3.heap.size u l ∧ Below X3.heap.size X3 X) ((HOFL.out X3 hb3).mono fun e X he => by
        obtain ⟨v, e1, h1, h2⟩ := he
        exact ⟨v, e1, hb3.trans (h2.mono hb3.size), h1.lower hb3.size, h2⟩) ?_
      rintro u X4 - ⟨ho4, hx4⟩
      have hb4 := hb3.trans (hx4.mono hb3.size)
      have hk4 := hk3.below hx4 hk3.lt
      refine ⟨_, fun _ h => h, hb4, ?_⟩
      (try simp only [Act.put, List.setIfInBounds_toArray, List.set_cons_zero, List.set_cons_succ])
      refine wpG_call _ rfl (by rfl) 10 (#[.slice (some ⟨gb, 0, none⟩) 1 1]) (fun X => by go_simp) (fun u X => OwnO X X4.heap.size u [one] ∧ Below X4.heap.size X4 X) ((of_any [one] (some ⟨gb, 0, none⟩) 1 (Nat.le_refl _) (by simp) X4 (srcO_one hk4)).mono fun e X he => by
        obtain ⟨v, e1, h1, h2⟩ := he
        exact ⟨v, e1, hb4.trans (h2.mono hb4.size), h1, h2⟩) ?_
      rintro u5 X5 - ⟨ho5, hx5⟩
      have hb5 := hb4.trans (hx5.mono hb4.size)
      refine ⟨_, fun _ h => h, hb5, ?_⟩
      (try simp only [Act.put, List.setIfInBounds_toArray, List.set_cons_zero, List.set_cons_succ])
      have ho6 := ho4.below hx5 (Nat.le_refl _)
      obtain ⟨sp5, cap5, rfl, -, -, hs5, hz5, -⟩ := ho5.form
      obtain ⟨v7, W7, hr7, ho7, hg7, -⟩ := ownO_apps ho6 hb5.size (l2 := [one]) (by have := HNB.out; have := HN.out; simp; omega) hs5 hz5 35
      have hb7 := ownO_bel ho6 hb5 hg7
      obtain ⟨sp7, cap7, rfl, hc7, -, hs7, -, -⟩ := ho7.form
      rw [HN1.out] at hc7 hr7
      refine wpG_mkE _ rfl (by rfl) (.slice sp7 (N + 1) cap7) W7 (ex_appO rfl rfl rfl hr7) (fun X => Below W3.heap.size W3 X) hb7 (fun _ h => h) ?_
      (try simp only [Act.put, List.setIfInBounds_toArray, List.set_cons_zero, List.set_cons_succ])
      refine wpG_take _ (.slice sp7 (N + 1) cap7) rfl (by rfl) (fun X hX => by first | rfl | go_simp) ?_
      (try simp only [Act.put, List.setIfInBounds_toArray, List.set_cons_zero, List.set_cons_succ])
      refine wpG_nil ?_
      exact ⟨rfl, _, _, _, sp7, cap7, rfl, hb7, hs7, hc7⟩
  rintro a W20 ⟨v19, v21, v22, spb, capb, rfl, hb5, hsb, hcb⟩
  have HB5 := Lib.hid (HB3.out.trans (hb5.mono HB3.out.size))
  have HX3 := Lib.hid hb5
  have HOK : Hid (∀ X, Below W20.heap.size W20 X → ∀ o ∈ l ++ [one], o.OK X) := Lib.hid fun X hX o ho => by
    have hw := HB5.out.trans (hX.mono HB5.out.size)
    rcases List.mem_append.1 ho with h | h
    · exact (HK.out o h).grown hw
    · simp only [List.mem_singleton] at h
      subst h
      exact H1.out.grown hw
  obtain ⟨ya, hya⟩ : ∃ y, eachL seen0 (l.map Oi.ob) = y := ⟨_, rfl⟩
  obtain ⟨yb, hyb⟩ : ∃ y, eachL seen0 ((l ++ [one]).map Oi.ob) = y := ⟨_, rfl⟩
  have la : ya.length < 1000 := by
    have := each_le (l.map Oi.ob) seen0
    rw [hya, List.length_map, HN.out] at this
    have := HNB.out
    omega
  have lb : yb.length < 1000 := by
    have := each_le ((l ++ [one]).map Oi.ob) seen0
    rw [hyb, List.length_map, HN1.out] at this
    have := HNB.out
    omega
  have HTa : Hid (∀ X, Below W20.heap.size W20 X → Calls Try.prog 11 #[.slice spa N capa] X (Ret X (.int .i64 (takesL ya : Int)))) := Lib.hid fun X hX => by
    have := takes_go l spa capa (by rw [HN.out]; exact HCA.out) (by rw [HN.out]; have := HNB.out; omega) (fun o ho => HOL.out o (by simp [ho])) X (HSA.out.grown (HX3.out.trans (hX.mono HX3.out.size))) (fun o ho => HOK.out X hX o (by simp [ho]))
    rw [hya, HN.out] at this
    exact this
  have HOa : Hid (∀ X, Below W20.heap.size W20 X → Calls Try.prog 12 #[.slice spa N capa] X (Ret X (tlv (filesL ya : Int) (metasL ya : Int) (ya.length : Int)))) := Lib.hid fun X hX => by
    have := of_tally l spa capa (by rw [HN.out]; exact HCA.out) (by rw [HN.out]; have := HNB.out; omega) (fun o ho => HOL.out o (by simp [ho])) X (HSA.out.grown (HX3.out.trans (hX.mono HX3.out.size))) (fun o ho => HOK.out X hX o (by simp [ho]))
    rw [hya, HN.out] at this
    exact this
  have HTb : Hid (∀ X, Below W20.heap.size W20 X → Calls Try.prog 11 #[.slice spb (N + 1) capb] X (Ret X (.int .i64 (takesL yb : Int)))) := Lib.hid fun X hX => by
    have := takes_go (l ++ [one]) spb capb (by rw [HN1.out]; exact hcb) (by rw [HN1.out]; have := HNB.out; omega) HOL.out X (hsb.grown hX) (HOK.out X hX)
    rw [hyb, HN1.out] at this
    exact this
  have HOb : Hid (∀ X, Below W20.heap.size W20 X → Calls Try.prog 12 #[.slice spb (N + 1) capb] X (Ret X (tlv (filesL yb : Int) (metasL yb : Int) (yb.length : Int)))) := Lib.hid fun X hX => by
    have := of_tally (l ++ [one]) spb capb (by rw [HN1.out]; exact hcb) (by rw [HN1.out]; have := HNB.out; omega) HOL.out X (hsb.grown hX) (HOK.out X hX)
    rw [hyb, HN1.out] at this
    exact this
  have HCa : Hid (∀ X, Calls Try.prog 6 #[tlv (filesL ya : Int) (metasL ya : Int) (ya.length : Int)] X (Ret X (.int .i64 (chargeL ya : Int)))) := Lib.hid fun X => by rw [← charge_pr]; exact charge_any _ _ _ (in33_of la) X
  have HCb : Hid (∀ X, Calls Try.prog 6 #[tlv (filesL yb : Int) (metasL yb : Int) (yb.length : Int)] X (Ret X (.int .i64 (chargeL yb : Int)))) := Lib.hid fun X => by rw [← charge_pr]; exact charge_any _ _ _ (in33_of lb) X
  have t1 : takesL ya ≤ chargeL ya := takes_charge ya (fun y hy => (each_ok _ _ y (by rw [hya]; exact hy)).1)
  have t2 : takesL yb ≤ chargeL yb := takes_charge yb (fun y hy => (each_ok _ _ y (by rw [hyb]; exact hy)).1)
  have t34 : takesL ya ≤ takesL yb ∧ chargeL ya ≤ chargeL yb := by
    obtain ⟨r, hr⟩ := each_snoc (l.map Oi.ob) seen0 one.ob
    rw [List.map_append, List.map_cons, List.map_nil, hr, hya] at hyb
    rw [← hyb]
    exact app_mono ya r
  have hres : ∀ X, Below W20.heap.size W20 X → Post (.returned (.bool true)) X := fun X hX => HP.out X (HB5.out.trans (hX.mono HB5.out.size))
  have HRES := Lib.hid hres
  obtain ⟨TA, hTA⟩ : ∃ n, takesL ya = n := ⟨_, rfl⟩
  obtain ⟨TB, hTB⟩ : ∃ n, takesL yb = n := ⟨_, rfl⟩
  obtain ⟨CA, hCA⟩ : ∃ n, chargeL ya = n := ⟨_, rfl⟩
  obtain ⟨CB, hCB⟩ : ∃ n, chargeL yb = n := ⟨_, rfl⟩
  rw [hTA] at HTa t1 t34
  rw [hTB] at HTb t2 t34
  rw [hCA] at HCa t1 t34
  rw [hCB] at HCb t2 t34
  have z1 : (TA : Int) ≤ (CA : Int) := by omega
  have z2 : (TB : Int) ≤ (CB : Int) := by omega
  have z3 : (TA : Int) ≤ (TB : Int) := by omega
  have z4 : (CA : Int) ≤ (CB : Int) := by omega
  have HB20 : Hid (Below W20.heap.size W20 W20) := Lib.hid (Below.refl _ _)
  clear hb5 hsb hcb hya hyb la lb t1 t2 t34 hres hTA hTB hCA hCB
  go_wp2_with fail
  refine (HTa.out W20 HB20.out).mono ?_
  rintro e W21 ⟨rfl, hb⟩
  have HB21 := Lib.hid (HB20.out.trans (hb.mono HB20.out.size))
  clear hb HB20
  go_wp2_with fail
  refine (HOa.out W21 HB21.out).mono ?_
  rintro e W22 ⟨rfl, hb⟩
  have HB22 := Lib.hid (HB21.out.trans (hb.mono HB21.out.size))
  clear hb HB21
  go_wp2_with fail
  refine (HCa.out W22).mono ?_
  rintro e W23 ⟨rfl, hb⟩
  have HB23 := Lib.hid (HB22.out.trans (hb.mono HB22.out.size))
  clear hb HB22
  go_wp2_with fail
  refine (HTb.out W23 HB23.out).mono ?_
  rintro e W24 ⟨rfl, hb⟩
  have HB24 := Lib.hid (HB23.out.trans (hb.mono HB23.out.size))
  clear hb HB23
  go_wp2_with fail
  refine (HOb.out W24 HB24.out).mono ?_
  rintro e W25 ⟨rfl, hb⟩
  have HB25 := Lib.hid (HB24.out.trans (hb.mono HB24.out.size))
  clear hb HB24
  go_wp2_with fail
  refine (HCb.out W25).mono ?_
  rintro e W26 ⟨rfl, hb⟩
  have HB26 := Lib.hid (HB25.out.trans (hb.mono HB25.out.size))
  clear hb HB25
  go_wp2_with fail
  refine (HTa.out W26 HB26.out).mono ?_
  rintro e W27 ⟨rfl, hb⟩
  have HB27 := Lib.hid (HB26.out.trans (hb.mono HB26.out.size))
  clear hb HB26
  go_wp2_with fail
  refine (HTb.out W27 HB27.out).mono ?_
  rintro e W28 ⟨rfl, hb⟩
  have HB28 := Lib.hid (HB27.out.trans (hb.mono HB27.out.size))
  clear hb HB27
  go_wp2_with fail
  refine (HOa.out W28 HB28.out).mono ?_
  rintro e W29 ⟨rfl, hb⟩
  have HB29 := Lib.hid (HB28.out.trans (hb.mono HB28.out.size))
  clear hb HB28
  go_wp2_with fail
  refine (HCa.out W29).mono ?_
  rintro e W30 ⟨rfl, hb⟩
  have HB30 := Lib.hid (HB29.out.trans (hb.mono HB29.out.size))
  clear hb HB29
  go_wp2_with fail
  refine (HOb.out W30 HB30.out).mono ?_
  rintro e W31 ⟨rfl, hb⟩
  have HB31 := Lib.hid (HB30.out.trans (hb.mono HB30.out.size))
  clear hb HB30
  go_wp2_with fail
  refine (HCb.out W31).mono ?_
  rintro e W32 ⟨rfl, hb⟩
  have HB32 := Lib.hid (HB31.out.trans (hb.mono HB31.out.size))
  clear hb HB31
  go_wp2_with fail
  refine (gwakes_any W32).mono ?_
  rintro e W33 ⟨rfl, hb⟩
  have HE := Lib.hid (HB32.out.trans (hb.mono HB32.out.size))
  have HEE := Lib.hid (HRES.out _ HE.out)
  clear hb HE
  go_wp2_with fail
  first | exact HEE.out | (go_ret; exact HEE.out)
end Go.Proofs.Ytoceedfjfjobdaa
