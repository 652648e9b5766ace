/- An act, the program's alone: does. -/
import Derived.Test.YtmgagalhpkieoaaGreatDoorM40
namespace Go.Proofs.YtmgagalhpkieoaaGreatDoor
open Go.RowKit

/-- What the act's regions look at. -/
structure DoF (Xp : Nat) (P : Pl) (m : Ma) (g3 g6 : Nat) (Z : World) : Prop where
  cp : Z.cell? ⟨Xp, 0, none⟩ = some (.pointer (some ⟨P.Q, 0, none⟩))
  cd : ∀ k, k < 2 → Z.cell? ⟨Xp, 1 + k, none⟩ = some (.pointer (some ⟨P.D k, 0, none⟩))
  cm : Z.cell? ⟨Xp, 4, none⟩ = some (.pointer (some ⟨P.M, 0, none⟩))
  box : Blk Z g3 m.cells 65
  pt : Blk Z g6 (pcells m.q) 58
/-- The pair at another state, all that was not its own as before. -/
def PrT (w0 V : World) (labV : Nat → Nat) (W : World) (Xp : Nat) (P : Pl) (y : Mi Dsk Sp) : Prop := ∃ lab', PrS w0 W lab' Xp P y ∧ Stp V labV W lab'
structure DoW (w0 V : World) (labV : Nat → Nat) (W : World) (lab : Nat → Nat) (Xp : Nat) (P : Pl) (x : Mi Dsk Sp) (m : Ma) (g3 g6 : Nat) : Prop where
  st : Stp V labV W lab
  s : PrS w0 W lab Xp P x
  box : Blk W g3 m.cells 65
  l3 : lab g3 = 0
  pt : Blk W g6 (pcells m.q) 58
  l6 : lab g6 = 0
section
variable {w0 V W W' : World} {labV lab lab' : Nat → Nat} {Xp : Nat} {P : Pl} {x y : Mi Dsk Sp} {m : Ma} {g3 g6 : Nat}
theorem DoW.fact (h : DoW w0 V labV W lab Xp P x m g3 g6) : DoF Xp P m g3 g6 W := ⟨h.s.cp, fun _ hk => h.s.cd hk, h.s.cm, h.box, h.pt⟩
theorem DoW.stp (h : DoW w0 V labV W lab Xp P x m g3 g6) (hm : MiAt W' lab' P y) (hs : Stp W lab W' lab') : DoW w0 V labV W' lab' Xp P y m g3 g6 :=
  ⟨h.st.trans hs, h.s.stp hm hs, hs.blk h.box h.l3, hs.lab0 h.box.lt h.l3, hs.blk h.pt h.l6, hs.lab0 h.pt.lt h.l6⟩
theorem DoW.below (h : DoW w0 V labV W lab Xp P x m g3 g6) (hb : Below W.heap.size W W') : DoW w0 V labV W' lab Xp P x m g3 g6 := h.stp (h.s.mi.below hb) (Stp.below hb)
theorem DoW.turn (h : DoW w0 V labV W lab Xp P x m g3 g6) (hp : MiPost W lab P y W') : DoF Xp P m g3 g6 W' ∧ PrT w0 V labV W' Xp P y := by
  obtain ⟨l', h1, h2⟩ := hp
  have h3 := h.stp h1 h2
  exact ⟨h3.fact, l', h3.s, h3.st⟩
end
theorem q_isAggS {t e : TypeId} (h : Tryz.prog.underlying t = some (.slice e)) (W : World) : (isAgg t).run Tryz.prog W = .ok false W := by
  unfold isAgg
  rw [Sem.run_bind, run_underlying h W]; rfl
theorem q_ldZ {ρ : Operand → Value} {o : Oper} {x : Operand} {ad : Addr} {v : Value} {w : World} {ty e : TypeId} (hu : Tryz.prog.underlying ty = some (.slice e)) (ho : o.op = .load ty x) (hx : ρ x = .pointer (some ad)) (hc : w.cell? ad = some v) : (execOp ρ o).run Tryz.prog w = .ok (.value v) w := by
  have h := q_isAggS hu w
  unfold execOp
  simp only [ho]
  go_simp
theorem ex_rem2 {ρ : Operand → Value} {o : Oper} {x : Operand} {k j : Nat} {w : World} (hj : k % 2 = j) (hk : k < 256) (ho : o.op = .binOp .rem 3 x (.const (.int .i64 2)) 3) (hc : ρ (.const (.int .i64 2)) = .int .i64 2) (hx : ρ x = .int .i64 (k : Int)) : (execOp ρ o).run Tryz.prog w = .ok (.value (.int .i64 (j : Int))) w := by
  subst hj
  unfold execOp
  simp only [ho, hx, hc]
  have e : IntKind.i64.wrap (Int.tmod (k : Int) 2) = ((k % 2 : Nat) : Int) := by
    rw [Int.tmod_eq_emod_of_nonneg (by omega), show (k : Int) % 2 = ((k % 2 : Nat) : Int) by omega]
    exact IntWalk.i64_in _ (by omega)
  simp [go_sem]
  exact Int.tmod_eq_emod_of_nonneg (by omega)
/-- What an act answers. -/
def DoPost (w0 V : World) (labV : Nat → Nat) (Xp : Nat) (P : Pl) (x : Mi Dsk Sp) (m : Ma) (e : Ending) (w' : World) : Prop :=
  ∃ (v : Value) (z : Int), e = .returned (.tuple #[v, .int .i64 z]) ∧ PrT w0 V labV w' Xp P (doS x m) ∧ (m.d = 0 → z = healE kinD x m.q false ∧ ∀ b, healB kinD x m.q false = some b → ∃ g, v = .slice (some ⟨g, 0, none⟩) 512 512 ∧ Blk w' g (b.map V8) 5) ∧ (m.d = 1 → z = healE kinD x m.q true)
theorem doS_of5 {x : Mi Dsk Sp} {m : Ma} (h0 : ¬ m.d = 0) (h1 : ¬ m.d = 1) (h2 : ¬ m.d = 2) (h3 : ¬ m.d = 3) (h4 : ¬ m.d = 4) : doS x m = faultS x m.a := by
  unfold doS
  rw [if_neg h0, if_neg h1, if_neg h2, if_neg h3, if_neg h4]
theorem doPost_of {w0 V w' : World} {labV : Nat → Nat} {Xp : Nat} {P : Pl} {x y : Mi Dsk Sp} {m : Ma} {e : Ending} {v : Value} {z : Int} (he : e = .returned (.tuple #[v, .int .i64 z])) (h0 : ¬ m.d = 0) (h1 : ¬ m.d = 1) (hy : doS x m = y) (hs : PrT w0 V labV w' Xp P y) : DoPost w0 V labV Xp P x m e w' :=
  ⟨v, z, he, by rw [hy]; exact hs, fun h => absurd h h0, fun h => absurd h h1⟩
set_option maxRecDepth 100000 in
set_option maxHeartbeats 16000000 in
theorem does_any (m : Ma) (w W : World) (lab : Nat → Nat) (Xp : Nat) (P : Pl) (x : Mi Dsk Sp) (n : Nat) (hm : MaOK w m) (hmb : m.b.length ≤ 600) (hab : m.a.b.length ≤ 600) (h : PrS w W lab Xp P x) (hl : Lim x n) (hn : n < 500000) :
    Calls Tryz.prog 21 #[.pointer (some ⟨Xp, 0, none⟩), .agg m.cells.toArray] W (DoPost w W lab Xp P x m) := by
  have HM := Lib.hid hm; have HL := Lib.hid hl; have HN := Lib.hid hn; have HMB := Lib.hid hmb; have HAB := Lib.hid hab
  have HS : Hid (PrS w (W.alloc (.cells m.cells.toArray 65)) lab Xp P x) := Lib.hid (h.below ((Below.refl _ _).alloc (Nat.le_refl _) _))
  have HB : Hid (Blk (W.alloc (.cells m.cells.toArray 65)) W.heap.size m.cells 65) := Lib.hid (Blk.new _ _ _)
  have HB00 : Hid (Below W.heap.size W (W.alloc (.cells m.cells.toArray 65))) := Lib.hid ((Below.refl _ _).alloc (Nat.le_refl _) _)
  have HL3 : Hid (lab W.heap.size = 0) := Lib.hid (h.new (Nat.le_refl _))
  have HLN := Lib.hid hm.len
  have HSZ : Hid ((Tryz.prog.info? 65).map (·.size) = some 51) := Lib.hid (by kernel_rfl)
  have HQO := Lib.hid (Ma.q_ok hm)
  have HSQ := Lib.hid (size_pc HQO.out)
  have HLQ : Hid ((pcells m.q).toArray.size = 41) := Lib.hid (by rw [List.size_toArray, pcells_length HQO.out])
  generalize hPost : DoPost w W lab Xp P x m = Post
  have HQ : Hid (∀ e w', DoPost w W lab Xp P x m e w' → Post e w') := Lib.hid fun e w' h => by rw [← hPost]; exact h
  clear hm hl hn hmb hab h hPost
  go_enter Tryz.func21, Tryz.ntmps21
  go_upto_region 1 with fail
  refine (fun (k : ∀ Z, PrS w Z lab Xp P x → Blk Z W.heap.size m.cells 65 → Below W.heap.size W Z → Code.wp _ _ _ _ Z) => k _ HS.out HB.out HB00.out) ?_
  intro W0 hs0 hb0 hb00
  have HBW0 := Lib.hid hb00
  clear hb00 HB00
  obtain ⟨g3, hg3⟩ : ∃ g, W.heap.size = g := ⟨_, rfl⟩
  have HGS : Hid (W.heap.size ≤ g3) := Lib.hid (by omega)
  rw [hg3] at HL3 hb0 ⊢
  have HS0 := Lib.hid hs0; have HB0 := Lib.hid hb0
  clear hs0 hb0 HS HB hg3
  have HSE := Lib.hid (sealed_any (m.d : Int) m.p HM.out.p m.b m.sp m.b.length m.cap rfl (by have := HMB.out; omega) m.wr (acs m.a) (acs_len _) W0 (HM.out.b.below HS0.out.bel (Nat.le_refl _)))
  rw [show (.agg (actC (m.d : Int) m.p (.slice m.sp m.b.length m.cap) m.wr (acs m.a)).toArray : Value) = .agg m.cells.toArray from rfl] at HSE
  go_wp2_with (first | (refine wpL_val rfl (ex_ld (ty := 65) (cs := m.cells) rfl rfl (rng_all HB0.out) Tryz.underlying65 rfl (by rw [HSZ.out, HLN.out])) ?_) | fail)
  refine HSE.out.mono ?_
  rintro e W1 ⟨v, rfl, ho, hb1⟩
  rw [show (if m.wr then m.p else sealP m.p (d_full m.b)) = m.q from rfl]
  obtain ⟨sp7, cap7, rfl, r1, r2, r3, r4, r5⟩ := OwnB.form ho
  have HF : Hid ((d_full m.b).length = 512) := Lib.hid (full_length _)
  rw [HF.out] at r1 ⊢
  have HC7 := Lib.hid r1; have HM7 := Lib.hid r2; have HZ7 := Lib.hid r4
  have HS1 := Lib.hid (HS0.out.below hb1)
  have HB1 := Lib.hid (HB0.out.below hb1 HB0.out.lt)
  have HBB : Hid (∀ {Z : World}, Below W1.heap.size W1 Z → Stp W lab Z lab) := Lib.hid (fun hz => Stp.below (HBW0.out.trans ((hb1.mono HBW0.out.size).trans (hz.mono (Nat.le_trans HBW0.out.size hb1.size)))))
  have HL7 : Hid (∀ a, sp7 = some a → lab a.block = 0) := Lib.hid (fun a ha => HS0.out.new (r5 a ha).1)
  have HR7 := Lib.hid r3
  clear ho hb1 r1 r2 r3 r4 r5 HS0 HB0 HSE
  go_upto_region 2 with (first | (refine wpList_store_row rfl 58 (.tmp 6) (.tmp 12) rfl W1.heap.size (pcells m.q).toArray rfl rfl 58 _ (heap_alloc_new W1 _) HSQ.out (by rw [HLQ.out]; rfl) (one_pc m.q) ?_) | fail)
  refine (fun (k : ∀ Z, Blk Z W1.heap.size (pcells m.q) 58 → Below W1.heap.size W1 Z → Code.wp _ _ _ _ Z) => k _ (blk_row1 W1 _ (pcells m.q) 58).1 (blk_row1 W1 _ (pcells m.q) 58).2) ?_
  intro W2 hb2 hw2
  have HX : Hid (DoW w W lab W2 lab Xp P x m g3 W1.heap.size) := Lib.hid ⟨HBB.out hw2, HS1.out.below hw2, HB1.out.below hw2 HB1.out.lt, HL3.out, hb2, HS1.out.new (Nat.le_refl _)⟩
  have HR2 : Hid (SrcA W2 sp7 (d_full m.b)) := Lib.hid (HR7.out.grown hw2)
  obtain ⟨g6, hg6⟩ : ∃ g, W1.heap.size = g := ⟨_, rfl⟩
  rw [hg6] at HX ⊢
  clear hb2 hw2 hg6 HS1 HB1 HR7
  have c0 : W2.cell? ⟨g3, 0, none⟩ = some (.int .u8 (m.d : Int)) := HX.out.box.cell rfl
  by_cases h0 : m.d = 0
  · have i0 : (m.d : Int) = 0 := by omega
    have HD0 := Lib.hid h0
    clear h0
    go_upto_region 4 with fail
    refine wp_region_sched (.take 0 (.take 1 (.take 2 (.take 3 (.take 4 (.step 5 (.take 6 (.take 7 (.take 8 (.take 9 (.nil))))))))))) (by kernel_rfl) (by kernel_rfl) (fun d _ _ _ _ h => by cases d <;> exact h) (DoF Xp P m g3 g6) (HX.out.below (Below.refl _ _).drew).fact ?_
    refine wpG_take _ (.pointer (some ⟨Xp, 0, none⟩)) rfl (by rfl) (fun X hX => by first | rfl | go_simp) ?_
    (try simp only [Act.put, List.setIfInBounds_toArray, List.set_cons_zero, List.set_cons_succ])
    refine wpG_take _ (.pointer (some ⟨Xp, 0, none⟩)) rfl (by rfl) (fun X hX => by first | rfl | go_simp) ?_
    (try simp only [Act.put, List.setIfInBounds_toArray, List.set_cons_zero, List.set_cons_succ])
    refine wpG_take _ (.pointer (some ⟨Xp, 4, none⟩)) rfl (by rfl) (fun X hX => by first | rfl | go_simp) ?_
    (try simp only [Act.put, List.setIfInBounds_toArray, List.set_cons_zero, List.set_cons_succ])
    refine wpG_take _ (.pointer (some ⟨P.M, 0, none⟩)) rfl (by rfl) (fun X hX => q_ldM rfl rfl hX.cm) ?_
    (try simp only [Act.put, List.setIfInBounds_toArray, List.set_cons_zero, List.set_cons_succ])
    refine wpG_take _ (.agg (pcells m.q).toArray) rfl (by rfl) (fun X hX => ex_ldPq HQO.out hX.pt rfl rfl) ?_
    (try simp only [Act.put, List.setIfInBounds_toArray, List.set_cons_zero, List.set_cons_succ])
    have hrd := read_any8 m.q HQO.out W2.drew lab P x n HX.out.s.drew.mi HL.out (by have := HN.out; omega)
    refine wpG_call _ rfl (by rfl) 9 #[.pointer (some ⟨P.M, 0, none⟩), .agg (pcells m.q).toArray] (fun _ => by go_simp) (fun u w' => ∃ v, u = .tuple #[v, .int .i64 (healE kinD x m.q false)] ∧ PrT w W lab w' Xp P (healS kinD x m.q false) ∧ ∀ b, healB kinD x m.q false = some b → ∃ g, v = .slice (some ⟨g, 0, none⟩) 512 512 ∧ Blk w' g (b.map V8) 5) (hrd.mono fun e w' hh => by
      obtain ⟨v, e1, lab', h1, h2, h3⟩ := hh
      obtain ⟨f1, f2⟩ := (HX.out.below (Below.refl _ _).drew).turn ⟨lab', h1, h2⟩
      refine ⟨_, e1, f1, v, rfl, f2, fun b hb => ?_⟩
      rw [hb] at h3
      obtain ⟨g, e2, -, h4, -⟩ := h3
      exact ⟨g, e2, h4⟩) ?_
    rintro u W3 hs3 ⟨v3, rfl, hp3, hv3⟩
    refine ⟨_, fun _ h => h, hs3, ?_⟩
    (try simp only [Act.put, List.setIfInBounds_toArray, List.set_cons_zero, List.set_cons_succ])
    refine wpG_take _ (v3) rfl (by rfl) (fun X hX => by first | rfl | go_simp) ?_
    (try simp only [Act.put, List.setIfInBounds_toArray, List.set_cons_zero, List.set_cons_succ])
    refine wpG_take _ (.int .i64 (healE kinD x m.q false)) rfl (by rfl) (fun X hX => by first | rfl | go_simp) ?_
    (try simp only [Act.put, List.setIfInBounds_toArray, List.set_cons_zero, List.set_cons_succ])
    refine wpG_take _ (v3) rfl (by rfl) (fun X hX => by first | rfl | go_simp) ?_
    (try simp only [Act.put, List.setIfInBounds_toArray, List.set_cons_zero, List.set_cons_succ])
    refine wpG_take _ (.int .i64 (healE kinD x m.q false)) rfl (by rfl) (fun X hX => by first | rfl | go_simp) ?_
    (try simp only [Act.put, List.setIfInBounds_toArray, List.set_cons_zero, List.set_cons_succ])
    refine wpG_nil ?_
    have HP3 := Lib.hid hp3; have HV3 := Lib.hid hv3
    clear hs3 hp3 hv3 hrd
    go_wp2_with fail
    refine HQ.out _ _ ⟨_, _, rfl, ?_, fun _ => ⟨rfl, HV3.out⟩, fun h => absurd (HD0.out.symm.trans h) (by omega)⟩
    rw [show doS x m = healS kinD x m.q false by unfold doS; rw [if_pos HD0.out]]
    exact HP3.out
  have i0 : ¬ (m.d : Int) = 0 := by omega
  go_upto_region 5 with fail
  by_cases h1 : m.d = 1
  · have i1 : (m.d : Int) = 1 := by omega
    have HD0 := Lib.hid h0; have HD1 := Lib.hid h1
    clear h0 h1
    go_upto_region 6 with fail
    refine wp_region_sched (.take 0 (.take 1 (.take 2 (.take 3 (.take 4 (.step 5 (.take 6 (.take 7 (.nil))))))))) (by kernel_rfl) (by kernel_rfl) (fun d _ _ _ _ h => by cases d <;> exact h) (DoF Xp P m g3 g6) (HX.out.below (Below.refl _ _).drew).fact ?_
    refine wpG_take _ (.pointer (some ⟨Xp, 0, none⟩)) rfl (by rfl) (fun X hX => by first | rfl | go_simp) ?_
    (try simp only [Act.put, List.setIfInBounds_toArray, List.set_cons_zero, List.set_cons_succ])
    refine wpG_take _ (.pointer (some ⟨Xp, 0, none⟩)) rfl (by rfl) (fun X hX => by first | rfl | go_simp) ?_
    (try simp only [Act.put, List.setIfInBounds_toArray, List.set_cons_zero, List.set_cons_succ])
    refine wpG_take _ (.pointer (some ⟨Xp, 4, none⟩)) rfl (by rfl) (fun X hX => by first | rfl | go_simp) ?_
    (try simp only [Act.put, List.setIfInBounds_toArray, List.set_cons_zero, List.set_cons_succ])
    refine wpG_take _ (.pointer (some ⟨P.M, 0, none⟩)) rfl (by rfl) (fun X hX => q_ldM rfl rfl hX.cm) ?_
    (try simp only [Act.put, List.setIfInBounds_toArray, List.set_cons_zero, List.set_cons_succ])
    refine wpG_take _ (.agg (pcells m.q).toArray) rfl (by rfl) (fun X hX => ex_ldPq HQO.out hX.pt rfl rfl) ?_
    (try simp only [Act.put, List.setIfInBounds_toArray, List.set_cons_zero, List.set_cons_succ])
    have hrd := check_any8 m.q HQO.out W2.drew lab P x n HX.out.s.drew.mi HL.out (by have := HN.out; omega)
    refine wpG_call _ rfl (by rfl) 11 #[.pointer (some ⟨P.M, 0, none⟩), .agg (pcells m.q).toArray] (fun _ => by go_simp) (fun u w' => u = .int .i64 (healE kinD x m.q true) ∧ PrT w W lab w' Xp P (healS kinD x m.q true)) (hrd.mono fun e w' hh => by
      obtain ⟨e1, v, lab', h1, h2, h3⟩ := hh
      obtain ⟨f1, f2⟩ := (HX.out.below (Below.refl _ _).drew).turn ⟨lab', h1, h2⟩
      exact ⟨_, e1, f1, rfl, f2⟩) ?_
    rintro u W3 hs3 ⟨rfl, hp3⟩
    refine ⟨_, fun _ h => h, hs3, ?_⟩
    (try simp only [Act.put, List.setIfInBounds_toArray, List.set_cons_zero, List.set_cons_succ])
    refine wpG_take _ (.slice none 0 0) rfl (by rfl) (fun X hX => by first | rfl | go_simp) ?_
    (try simp only [Act.put, List.setIfInBounds_toArray, List.set_cons_zero, List.set_cons_succ])
    refine wpG_take _ (.int .i64 (healE kinD x m.q true)) rfl (by rfl) (fun X hX => by first | rfl | go_simp) ?_
    (try simp only [Act.put, List.setIfInBounds_toArray, List.set_cons_zero, List.set_cons_succ])
    refine wpG_nil ?_
    have HP3 := Lib.hid hp3
    clear hs3 hp3 hrd
    go_wp2_with fail
    refine HQ.out _ _ ⟨_, _, rfl, ?_, fun h => absurd h HD0.out, fun _ => rfl⟩
    rw [show doS x m = healS kinD x m.q true by unfold doS; rw [if_neg HD0.out, if_pos HD1.out]]
    exact HP3.out
  have i1 : ¬ (m.d : Int) = 1 := by omega
  go_upto_region 7 with fail
  by_cases h2 : m.d = 2
  · have i2 : (m.d : Int) = 2 := by omega
    have HD0 := Lib.hid h0; have HD1 := Lib.hid h1; have HD2 := Lib.hid h2
    clear h0 h1 h2
    go_upto_region 8 with fail
    refine wp_region_sched (.take 0 (.take 1 (.take 2 (.take 3 (.take 4 (.take 5 (.step 6 (.take 7 (.take 8 (.nil)))))))))) (by kernel_rfl) (by kernel_rfl) (fun d _ _ _ _ h => by cases d <;> exact h) (DoF Xp P m g3 g6) (HX.out.below (Below.refl _ _).drew).fact ?_
    refine wpG_take _ (.pointer (some ⟨Xp, 0, none⟩)) rfl (by rfl) (fun X hX => by first | rfl | go_simp) ?_
    (try simp only [Act.put, List.setIfInBounds_toArray, List.set_cons_zero, List.set_cons_succ])
    refine wpG_take _ (.pointer (some ⟨Xp, 0, none⟩)) rfl (by rfl) (fun X hX => by first | rfl | go_simp) ?_
    (try simp only [Act.put, List.setIfInBounds_toArray, List.set_cons_zero, List.set_cons_succ])
    refine wpG_take _ (.pointer (some ⟨Xp, 4, none⟩)) rfl (by rfl) (fun X hX => by first | rfl | go_simp) ?_
    (try simp only [Act.put, List.setIfInBounds_toArray, List.set_cons_zero, List.set_cons_succ])
    refine wpG_take _ (.pointer (some ⟨P.M, 0, none⟩)) rfl (by rfl) (fun X hX => q_ldM rfl rfl hX.cm) ?_
    (try simp only [Act.put, List.setIfInBounds_toArray, List.set_cons_zero, List.set_cons_succ])
    refine wpG_take _ (.agg (pcells m.q).toArray) rfl (by rfl) (fun X hX => ex_ldPq HQO.out hX.pt rfl rfl) ?_
    (try simp only [Act.put, List.setIfInBounds_toArray, List.set_cons_zero, List.set_cons_succ])
    refine wpG_take _ (.slice sp7 512 cap7) rfl (by rfl) (fun X hX => by first | rfl | go_simp) ?_
    (try simp only [Act.put, List.setIfInBounds_toArray, List.set_cons_zero, List.set_cons_succ])
    have hrd := write_any8 m.q HQO.out (d_full m.b) sp7 512 cap7 W2.drew lab P x n HX.out.s.drew.mi HL.out (by have := HN.out; omega) HF.out (by omega) HC7.out HM7.out HR2.out.drew HL7.out
    refine wpG_call _ rfl (by rfl) 12 #[.pointer (some ⟨P.M, 0, none⟩), .agg (pcells m.q).toArray, .slice sp7 512 cap7] (fun _ => by go_simp) (fun u w' => u = .int .i64 (writeR kinD x m.q (d_full m.b)).1 ∧ PrT w W lab w' Xp P (writeR kinD x m.q (d_full m.b)).2) (hrd.mono fun e w' hh => by
      obtain ⟨e1, h1⟩ := hh
      obtain ⟨f1, f2⟩ := (HX.out.below (Below.refl _ _).drew).turn h1
      exact ⟨_, e1, f1, rfl, f2⟩) ?_
    rintro u W3 hs3 ⟨rfl, hp3⟩
    refine ⟨_, fun _ h => h, hs3, ?_⟩
    (try simp only [Act.put, List.setIfInBounds_toArray, List.set_cons_zero, List.set_cons_succ])
    refine wpG_take _ (.slice none 0 0) rfl (by rfl) (fun X hX => by first | rfl | go_simp) ?_
    (try simp only [Act.put, List.setIfInBounds_toArray, List.set_cons_zero, List.set_cons_succ])
    refine wpG_take _ (.int .i64 (writeR kinD x m.q (d_full m.b)).1) rfl (by rfl) (fun X hX => by first | rfl | go_simp) ?_
    (try simp only [Act.put, List.setIfInBounds_toArray, List.set_cons_zero, List.set_cons_succ])
    refine wpG_nil ?_
    have HP3 := Lib.hid hp3
    clear hs3 hp3 hrd
    go_wp2_with fail
    exact HQ.out _ _ (doPost_of rfl HD0.out HD1.out (by unfold doS; rw [if_neg HD0.out, if_neg HD1.out, if_pos HD2.out]; rfl) HP3.out)
  have i2 : ¬ (m.d : Int) = 2 := by omega
  go_upto_region 9 with fail
  by_cases h3 : m.d = 3
  · have i3 : (m.d : Int) = 3 := by omega
    have HD0 := Lib.hid h0; have HD1 := Lib.hid h1; have HD2 := Lib.hid h2; have HD3 := Lib.hid h3
    clear h0 h1 h2 h3
    have HFL := Lib.hid (flush_any8 W2 lab P x n HX.out.s.mi HL.out (by have := HN.out; omega))
    go_wp2_with (first | (refine wpL_val rfl (q_ldM rfl rfl HX.out.s.cm) ?_) | fail)
    refine HFL.out.mono ?_
    rintro e W3 ⟨rfl, hp⟩
    have HP3 := Lib.hid (HX.out.turn hp).2
    clear hp HFL
    go_wp2_with fail
    exact HQ.out _ _ (doPost_of rfl HD0.out HD1.out (by unfold doS; rw [if_neg HD0.out, if_neg HD1.out, if_neg HD2.out, if_pos HD3.out]) HP3.out)
  have i3 : ¬ (m.d : Int) = 3 := by omega
  go_upto_region 11 with fail
  by_cases h4 : m.d = 4
  · have i4 : (m.d : Int) = 4 := by omega
    have HD0 := Lib.hid h0; have HD1 := Lib.hid h1; have HD2 := Lib.hid h2; have HD3 := Lib.hid h3; have HD4 := Lib.hid h4
    clear h0 h1 h2 h3 h4
    have HFL := Lib.hid (clear_any8 W2 lab P x HX.out.s.mi)
    go_wp2_with (first | (refine wpL_val rfl (q_ldM rfl rfl HX.out.s.cm) ?_) | fail)
    refine HFL.out.mono ?_
    rintro e W3 ⟨rfl, hp⟩
    have HP3 := Lib.hid (HX.out.turn hp).2
    clear hp HFL
    go_wp2_with fail
    exact HQ.out _ _ (doPost_of rfl HD0.out HD1.out (by unfold doS; rw [if_neg HD0.out, if_neg HD1.out, if_neg HD2.out, if_neg HD3.out, if_pos HD4.out]) HP3.out)
  have i4 : ¬ (m.d : Int) = 4 := by omega
  have HDF := Lib.hid (doS_of5 (x := x) (m := m) h0 h1 h2 h3 h4)
  have HD0 := Lib.hid h0; have HD1 := Lib.hid h1
  have hd256 := HM.out.a.d
  have HD256 := Lib.hid hd256
  have d0 : W2.cell? ⟨g3, 44, none⟩ = some (.int .u8 (m.a.act : Int)) := HX.out.box.cell (Ma.cell44 HM.out (j := 0) (by omega))
  have d1 : W2.cell? ⟨g3, 44 + 1, none⟩ = some (.int .u8 (m.a.d : Int)) := HX.out.box.cell (Ma.cell44 HM.out (j := 1) (by omega))
  have wd := IntWalk.i64_in (m.a.d : Int) (by omega)
  obtain ⟨j, hj⟩ : ∃ j, m.a.d % 2 = j := ⟨_, rfl⟩
  have HJ := Lib.hid hj
  have hj2 : j < 2 := by omega
  have HJ2 := Lib.hid hj2
  have h0j : (0 : Int) ≤ (j : Int) := by omega
  have h2j : (j : Int) < 2 := by omega
  clear h0 h1 h2 h3 h4 hj hd256
  go_upto_region 16 with (first | (refine wpL_val rfl (ex_rem2 HJ.out HD256.out rfl rfl rfl) ?_) | fail)
  by_cases h3 : m.a.act = 3
  · have i3 : (m.a.act : Int) = 3 := by omega
    have HC3 := Lib.hid h3
    clear h3
    go_upto_region 17 with fail
    have HXd := Lib.hid (HX.out.below (Below.refl _ _).drew)
    refine wp_region_sched (.take 0 (.take 1 (.take 2 (.take 3 (.take 4 (.take 5 (.take 6 (.take 7 (.take 8 (.step 9 (.nil))))))))))) (by kernel_rfl) (by kernel_rfl) (fun d _ _ _ _ h => by cases d <;> exact h) (DoF Xp P m g3 g6) (HX.out.below (Below.refl _ _).drew).fact ?_
    refine wpG_take _ (.pointer (some ⟨Xp, 0, none⟩)) rfl (by rfl) (fun X hX => by first | rfl | go_simp) ?_
    (try simp only [Act.put, List.setIfInBounds_toArray, List.set_cons_zero, List.set_cons_succ])
    refine wpG_take _ (.int .i64 (j : Int)) rfl (by rfl) (fun X hX => by first | rfl | go_simp) ?_
    (try simp only [Act.put, List.setIfInBounds_toArray, List.set_cons_zero, List.set_cons_succ])
    refine wpG_take _ (.pointer (some ⟨Xp, 0, none⟩)) rfl (by rfl) (fun X hX => by first | rfl | go_simp) ?_
    (try simp only [Act.put, List.setIfInBounds_toArray, List.set_cons_zero, List.set_cons_succ])
    refine wpG_take _ (.pointer (some ⟨Xp, 1, none⟩)) rfl (by rfl) (fun X hX => by first | rfl | go_simp) ?_
    (try simp only [Act.put, List.setIfInBounds_toArray, List.set_cons_zero, List.set_cons_succ])
    refine wpG_take _ (.pointer (some ⟨Xp, 1 + j, none⟩)) rfl (by rfl) (fun X hX => by first | rfl | go_simp) ?_
    (try simp only [Act.put, List.setIfInBounds_toArray, List.set_cons_zero, List.set_cons_succ])
    refine wpG_take _ (.pointer (some ⟨P.D j, 0, none⟩)) rfl (by rfl) (fun X hX => q_ldD rfl rfl (hX.cd j HJ2.out)) ?_
    (try simp only [Act.put, List.setIfInBounds_toArray, List.set_cons_zero, List.set_cons_succ])
    refine wpG_take _ (.pointer (some ⟨g3, 44, none⟩)) rfl (by rfl) (fun X hX => by first | rfl | go_simp) ?_
    (try simp only [Act.put, List.setIfInBounds_toArray, List.set_cons_zero, List.set_cons_succ])
    refine wpG_take _ (.pointer (some ⟨g3, 44 + 6, none⟩)) rfl (by rfl) (fun X hX => by first | rfl | go_simp) ?_
    (try simp only [Act.put, List.setIfInBounds_toArray, List.set_cons_zero, List.set_cons_succ])
    refine wpG_take _ (.slice m.a.spz m.a.z.length m.a.capz) rfl (by rfl) (fun X hX => q_ldZ Tryz.underlying61 rfl rfl (hX.box.cell (Ma.cell44 HM.out (j := 6) (by omega)))) ?_
    (try simp only [Act.put, List.setIfInBounds_toArray, List.set_cons_zero, List.set_cons_succ])
    have hcl := flt_crash HXd.out.s HL.out (by have := HN.out; omega) HJ2.out HM.out.a.z HM.out.a.cz HM.out.a.mz
    refine wpG_call _ rfl (by rfl) 26 #[.pointer (some ⟨P.D j, 0, none⟩), .slice m.a.spz m.a.z.length m.a.capz] (fun _ => by go_simp) (fun u w' => (u = .tuple #[]) ∧ PrT w W lab w' Xp P (fD x j (crashed (x.d j) m.a.z))) (hcl.mono fun e w' hh => by
      obtain ⟨e1, h1⟩ := hh
      skip
      obtain ⟨f1, f2⟩ := (HXd.out).turn h1
      exact ⟨_, e1, f1, rfl, f2⟩) ?_
    rintro u W3 hs3 ⟨rfl, hp3⟩
    refine ⟨_, fun _ h => h, hs3, ?_⟩
    (try simp only [Act.put, List.setIfInBounds_toArray, List.set_cons_zero, List.set_cons_succ])
    refine wpG_nil ?_
    have HP3 := Lib.hid hp3
    clear hs3 hp3 hcl
    go_wp2_with fail
    exact HQ.out _ _ (doPost_of rfl HD0.out HD1.out (by rw [HDF.out]; unfold faultS; rw [if_pos HC3.out, HJ.out]) HP3.out)
  have i3 : ¬ (m.a.act : Int) = 3 := by omega
  have HN3 := Lib.hid h3
  clear h3
  go_upto_region 18 with fail
  by_cases h4 : m.a.act = 4
  · have i4 : (m.a.act : Int) = 4 := by omega
    have HC4 := Lib.hid h4
    clear h4
    go_upto_region 19 with fail
    have HXd := Lib.hid (HX.out.below (Below.refl _ _).drew)
    refine wp_region_sched (.take 0 (.take 1 (.take 2 (.take 3 (.take 4 (.take 5 (.take 6 (.take 7 (.take 8 (.take 9 (.take 10 (.take 11 (.step 12 (.step 13 (.nil))))))))))))))) (by kernel_rfl) (by kernel_rfl) (fun d _ _ _ _ h => by cases d <;> exact h) (DoF Xp P m g3 g6) (HX.out.below (Below.refl _ _).drew).fact ?_
    refine wpG_take _ (.pointer (some ⟨Xp, 0, none⟩)) rfl (by rfl) (fun X hX => by first | rfl | go_simp) ?_
    (try simp only [Act.put, List.setIfInBounds_toArray, List.set_cons_zero, List.set_cons_succ])
    refine wpG_take _ (.int .i64 (j : Int)) rfl (by rfl) (fun X hX => by first | rfl | go_simp) ?_
    (try simp only [Act.put, List.setIfInBounds_toArray, List.set_cons_zero, List.set_cons_succ])
    refine wpG_take _ (.pointer (some ⟨Xp, 0, none⟩)) rfl (by rfl) (fun X hX => by first | rfl | go_simp) ?_
    (try simp only [Act.put, List.setIfInBounds_toArray, List.set_cons_zero, List.set_cons_succ])
    refine wpG_take _ (.pointer (some ⟨Xp, 1, none⟩)) rfl (by rfl) (fun X hX => by first | rfl | go_simp) ?_
    (try simp only [Act.put, List.setIfInBounds_toArray, List.set_cons_zero, List.set_cons_succ])
    refine wpG_take _ (.pointer (some ⟨Xp, 1 + j, none⟩)) rfl (by rfl) (fun X hX => by first | rfl | go_simp) ?_
    (try simp only [Act.put, List.setIfInBounds_toArray, List.set_cons_zero, List.set_cons_succ])
    refine wpG_take _ (.pointer (some ⟨P.D j, 0, none⟩)) rfl (by rfl) (fun X hX => q_ldD rfl rfl (hX.cd j HJ2.out)) ?_
    (try simp only [Act.put, List.setIfInBounds_toArray, List.set_cons_zero, List.set_cons_succ])
    refine wpG_take _ (.pointer (some ⟨g3, 44, none⟩)) rfl (by rfl) (fun X hX => by first | rfl | go_simp) ?_
    (try simp only [Act.put, List.setIfInBounds_toArray, List.set_cons_zero, List.set_cons_succ])
    refine wpG_take _ (.pointer (some ⟨g3, 44 + 2, none⟩)) rfl (by rfl) (fun X hX => by first | rfl | go_simp) ?_
    (try simp only [Act.put, List.setIfInBounds_toArray, List.set_cons_zero, List.set_cons_succ])
    refine wpG_take _ (.int .u16 (m.a.addr : Int)) rfl (by rfl) (fun X hX => ex_ld1 Tryz.underlying52 rfl rfl (hX.box.cell (Ma.cell44 HM.out (j := 2) (by omega)))) ?_
    (try simp only [Act.put, List.setIfInBounds_toArray, List.set_cons_zero, List.set_cons_succ])
    refine wpG_take _ (.pointer (some ⟨g3, 44, none⟩)) rfl (by rfl) (fun X hX => by first | rfl | go_simp) ?_
    (try simp only [Act.put, List.setIfInBounds_toArray, List.set_cons_zero, List.set_cons_succ])
    refine wpG_take _ (.pointer (some ⟨g3, 44 + 3, none⟩)) rfl (by rfl) (fun X hX => by first | rfl | go_simp) ?_
    (try simp only [Act.put, List.setIfInBounds_toArray, List.set_cons_zero, List.set_cons_succ])
    refine wpG_take _ (.slice m.a.spb m.a.b.length m.a.capb) rfl (by rfl) (fun X hX => q_ldB rfl rfl (hX.box.cell (Ma.cell44 HM.out (j := 3) (by omega)))) ?_
    (try simp only [Act.put, List.setIfInBounds_toArray, List.set_cons_zero, List.set_cons_succ])
    have hfu := full_any m.a.b m.a.spb m.a.b.length m.a.capb rfl (by have := HAB.out; omega) W2.drew (HM.out.a.b.below HXd.out.s.bel (Nat.le_refl _))
    refine wpG_call _ rfl (by rfl) 32 #[.slice m.a.spb m.a.b.length m.a.capb] (fun _ => by go_simp) (fun u w' => OwnB w' W2.drew.heap.size u (d_full m.a.b) ∧ Below W2.drew.heap.size W2.drew w') (hfu.mono fun e w' ⟨v, e1, e2, e3⟩ => ⟨v, e1, (HXd.out.below e3).fact, e2, e3⟩) ?_
    rintro u W4 hs4 ⟨ho4, hb4⟩
    obtain ⟨sp4, cap4, rfl, -, -, q3, -, -⟩ := OwnB.form ho4
    rw [full_length]
    have HXe := Lib.hid (HXd.out.below hb4)
    refine ⟨_, fun _ h => h, hs4, ?_⟩
    (try simp only [Act.put, List.setIfInBounds_toArray, List.set_cons_zero, List.set_cons_succ])
    have hcl := flt_rot HXe.out.s HL.out (by have := HN.out; omega) HJ2.out HM.out.a.addr (cap := cap4) (full_length _) q3
    refine wpG_call _ rfl (by rfl) 31 #[.pointer (some ⟨P.D j, 0, none⟩), .int .u16 (m.a.addr : Int), .slice sp4 512 cap4] (fun _ => by go_simp) (fun u w' => (∃ z : Int, u = .int .i64 z) ∧ PrT w W lab w' Xp P (fD x j (ailed (x.d j) m.a.addr 512 (rotK (d_full m.a.b))).2)) (hcl.mono fun e w' hh => by
      obtain ⟨e1, h1⟩ := hh
      obtain ⟨z, e1⟩ := e1
      obtain ⟨f1, f2⟩ := (HXe.out).turn h1
      exact ⟨_, e1, f1, ⟨z, rfl⟩, f2⟩) ?_
    rintro u W3 hs3 ⟨⟨z3, rfl⟩, hp3⟩
    refine ⟨_, fun _ h => h, hs3, ?_⟩
    (try simp only [Act.put, List.setIfInBounds_toArray, List.set_cons_zero, List.set_cons_succ])
    refine wpG_nil ?_
    have HP3 := Lib.hid hp3
    clear hs3 hp3 hcl
    go_wp2_with fail
    exact HQ.out _ _ (doPost_of rfl HD0.out HD1.out (by rw [HDF.out]; unfold faultS; rw [if_neg HN3.out, if_pos HC4.out, HJ.out]) HP3.out)
  have i4 : ¬ (m.a.act : Int) = 4 := by omega
  have HN4 := Lib.hid h4
  clear h4
  go_upto_region 20 with fail
  by_cases h5 : m.a.act = 5
  · have i5 : (m.a.act : Int) = 5 := by omega
    have HC5 := Lib.hid h5
    clear h5
    go_upto_region 21 with fail
    have HXd := Lib.hid (HX.out.below (Below.refl _ _).drew)
    refine wp_region_sched (.take 0 (.take 1 (.take 2 (.take 3 (.take 4 (.take 5 (.take 6 (.take 7 (.take 8 (.step 9 (.nil))))))))))) (by kernel_rfl) (by kernel_rfl) (fun d _ _ _ _ h => by cases d <;> exact h) (DoF Xp P m g3 g6) (HX.out.below (Below.refl _ _).drew).fact ?_
    refine wpG_take _ (.pointer (some ⟨Xp, 0, none⟩)) rfl (by rfl) (fun X hX => by first | rfl | go_simp) ?_
    (try simp only [Act.put, List.setIfInBounds_toArray, List.set_cons_zero, List.set_cons_succ])
    refine wpG_take _ (.int .i64 (j : Int)) rfl (by rfl) (fun X hX => by first | rfl | go_simp) ?_
    (try simp only [Act.put, List.setIfInBounds_toArray, List.set_cons_zero, List.set_cons_succ])
    refine wpG_take _ (.pointer (some ⟨Xp, 0, none⟩)) rfl (by rfl) (fun X hX => by first | rfl | go_simp) ?_
    (try simp only [Act.put, List.setIfInBounds_toArray, List.set_cons_zero, List.set_cons_succ])
    refine wpG_take _ (.pointer (some ⟨Xp, 1, none⟩)) rfl (by rfl) (fun X hX => by first | rfl | go_simp) ?_
    (try simp only [Act.put, List.setIfInBounds_toArray, List.set_cons_zero, List.set_cons_succ])
    refine wpG_take _ (.pointer (some ⟨Xp, 1 + j, none⟩)) rfl (by rfl) (fun X hX => by first | rfl | go_simp) ?_
    (try simp only [Act.put, List.setIfInBounds_toArray, List.set_cons_zero, List.set_cons_succ])
    refine wpG_take _ (.pointer (some ⟨P.D j, 0, none⟩)) rfl (by rfl) (fun X hX => q_ldD rfl rfl (hX.cd j HJ2.out)) ?_
    (try simp only [Act.put, List.setIfInBounds_toArray, List.set_cons_zero, List.set_cons_succ])
    refine wpG_take _ (.pointer (some ⟨g3, 44, none⟩)) rfl (by rfl) (fun X hX => by first | rfl | go_simp) ?_
    (try simp only [Act.put, List.setIfInBounds_toArray, List.set_cons_zero, List.set_cons_succ])
    refine wpG_take _ (.pointer (some ⟨g3, 44 + 2, none⟩)) rfl (by rfl) (fun X hX => by first | rfl | go_simp) ?_
    (try simp only [Act.put, List.setIfInBounds_toArray, List.set_cons_zero, List.set_cons_succ])
    refine wpG_take _ (.int .u16 (m.a.addr : Int)) rfl (by rfl) (fun X hX => ex_ld1 Tryz.underlying52 rfl rfl (hX.box.cell (Ma.cell44 HM.out (j := 2) (by omega)))) ?_
    (try simp only [Act.put, List.setIfInBounds_toArray, List.set_cons_zero, List.set_cons_succ])
    have hcl := flt_bad HXd.out.s HL.out (by have := HN.out; omega) HJ2.out HM.out.a.addr
    refine wpG_call _ rfl (by rfl) 55 #[.pointer (some ⟨P.D j, 0, none⟩), .int .u16 (m.a.addr : Int)] (fun _ => by go_simp) (fun u w' => (∃ z : Int, u = .int .i64 z) ∧ PrT w W lab w' Xp P (fD x j (ailed (x.d j) m.a.addr 512 (fun k => { k with bad := true })).2)) (hcl.mono fun e w' hh => by
      obtain ⟨e1, h1⟩ := hh
      obtain ⟨z, e1⟩ := e1
      obtain ⟨f1, f2⟩ := (HXd.out).turn h1
      exact ⟨_, e1, f1, ⟨z, rfl⟩, f2⟩) ?_
    rintro u W3 hs3 ⟨⟨z3, rfl⟩, hp3⟩
    refine ⟨_, fun _ h => h, hs3, ?_⟩
    (try simp only [Act.put, List.setIfInBounds_toArray, List.set_cons_zero, List.set_cons_succ])
    refine wpG_nil ?_
    have HP3 := Lib.hid hp3
    clear hs3 hp3 hcl
    go_wp2_with fail
    exact HQ.out _ _ (doPost_of rfl HD0.out HD1.out (by rw [HDF.out]; unfold faultS; rw [if_neg HN3.out, if_neg HN4.out, if_pos HC5.out, HJ.out]) HP3.out)
  have i5 : ¬ (m.a.act : Int) = 5 := by omega
  have HN5 := Lib.hid h5
  clear h5
  go_upto_region 22 with fail
  by_cases h6 : m.a.act = 6
  · have i6 : (m.a.act : Int) = 6 := by omega
    have HC6 := Lib.hid h6
    clear h6
    go_upto_region 23 with fail
    have HXd := Lib.hid (HX.out.below (Below.refl _ _).drew)
    refine wp_region_sched (.take 0 (.take 1 (.take 2 (.take 3 (.take 4 (.take 5 (.take 6 (.take 7 (.take 8 (.step 9 (.nil))))))))))) (by kernel_rfl) (by kernel_rfl) (fun d _ _ _ _ h => by cases d <;> exact h) (DoF Xp P m g3 g6) (HX.out.below (Below.refl _ _).drew).fact ?_
    refine wpG_take _ (.pointer (some ⟨Xp, 0, none⟩)) rfl (by rfl) (fun X hX => by first | rfl | go_simp) ?_
    (try simp only [Act.put, List.setIfInBounds_toArray, List.set_cons_zero, List.set_cons_succ])
    refine wpG_take _ (.int .i64 (j : Int)) rfl (by rfl) (fun X hX => by first | rfl | go_simp) ?_
    (try simp only [Act.put, List.setIfInBounds_toArray, List.set_cons_zero, List.set_cons_succ])
    refine wpG_take _ (.pointer (some ⟨Xp, 0, none⟩)) rfl (by rfl) (fun X hX => by first | rfl | go_simp) ?_
    (try simp only [Act.put, List.setIfInBounds_toArray, List.set_cons_zero, List.set_cons_succ])
    refine wpG_take _ (.pointer (some ⟨Xp, 1, none⟩)) rfl (by rfl) (fun X hX => by first | rfl | go_simp) ?_
    (try simp only [Act.put, List.setIfInBounds_toArray, List.set_cons_zero, List.set_cons_succ])
    refine wpG_take _ (.pointer (some ⟨Xp, 1 + j, none⟩)) rfl (by rfl) (fun X hX => by first | rfl | go_simp) ?_
    (try simp only [Act.put, List.setIfInBounds_toArray, List.set_cons_zero, List.set_cons_succ])
    refine wpG_take _ (.pointer (some ⟨P.D j, 0, none⟩)) rfl (by rfl) (fun X hX => q_ldD rfl rfl (hX.cd j HJ2.out)) ?_
    (try simp only [Act.put, List.setIfInBounds_toArray, List.set_cons_zero, List.set_cons_succ])
    refine wpG_take _ (.pointer (some ⟨g3, 44, none⟩)) rfl (by rfl) (fun X hX => by first | rfl | go_simp) ?_
    (try simp only [Act.put, List.setIfInBounds_toArray, List.set_cons_zero, List.set_cons_succ])
    refine wpG_take _ (.pointer (some ⟨g3, 44 + 2, none⟩)) rfl (by rfl) (fun X hX => by first | rfl | go_simp) ?_
    (try simp only [Act.put, List.setIfInBounds_toArray, List.set_cons_zero, List.set_cons_succ])
    refine wpG_take _ (.int .u16 (m.a.addr : Int)) rfl (by rfl) (fun X hX => ex_ld1 Tryz.underlying52 rfl rfl (hX.box.cell (Ma.cell44 HM.out (j := 2) (by omega)))) ?_
    (try simp only [Act.put, List.setIfInBounds_toArray, List.set_cons_zero, List.set_cons_succ])
    have hcl := flt_stick HXd.out.s HL.out (by have := HN.out; omega) HJ2.out HM.out.a.addr
    refine wpG_call _ rfl (by rfl) 33 #[.pointer (some ⟨P.D j, 0, none⟩), .int .u16 (m.a.addr : Int)] (fun _ => by go_simp) (fun u w' => (∃ z : Int, u = .int .i64 z) ∧ PrT w W lab w' Xp P (fD x j (ailed (x.d j) m.a.addr 512 (fun k => { k with stuck := true })).2)) (hcl.mono fun e w' hh => by
      obtain ⟨e1, h1⟩ := hh
      obtain ⟨z, e1⟩ := e1
      obtain ⟨f1, f2⟩ := (HXd.out).turn h1
      exact ⟨_, e1, f1, ⟨z, rfl⟩, f2⟩) ?_
    rintro u W3 hs3 ⟨⟨z3, rfl⟩, hp3⟩
    refine ⟨_, fun _ h => h, hs3, ?_⟩
    (try simp only [Act.put, List.setIfInBounds_toArray, List.set_cons_zero, List.set_cons_succ])
    refine wpG_nil ?_
    have HP3 := Lib.hid hp3
    clear hs3 hp3 hcl
    go_wp2_with fail
    exact HQ.out _ _ (doPost_of rfl HD0.out HD1.out (by rw [HDF.out]; unfold faultS; rw [if_neg HN3.out, if_neg HN4.out, if_neg HN5.out, if_pos HC6.out, HJ.out]) HP3.out)
  have i6 : ¬ (m.a.act : Int) = 6 := by omega
  have HN6 := Lib.hid h6
  clear h6
  go_upto_region 24 with fail
  by_cases h7 : m.a.act = 7
  · have i7 : (m.a.act : Int) = 7 := by omega
    have HC7 := Lib.hid h7
    clear h7
    have HCL := Lib.hid (flt_lose HX.out.s HJ2.out)
    go_wp2_with (first | (refine wpL_val rfl (q_ldD rfl rfl (HX.out.s.cd HJ2.out)) ?_) | fail)
    refine HCL.out.mono ?_
    rintro e W3 ⟨rfl, hp⟩
    have HP3 := Lib.hid (HX.out.turn hp).2
    clear hp HCL
    go_wp2_with fail
    exact HQ.out _ _ (doPost_of rfl HD0.out HD1.out (by rw [HDF.out]; unfold faultS; rw [if_neg HN3.out, if_neg HN4.out, if_neg HN5.out, if_neg HN6.out, if_pos HC7.out, HJ.out]) HP3.out)
  have i7 : ¬ (m.a.act : Int) = 7 := by omega
  have HN7 := Lib.hid h7
  clear h7
  go_upto_region 26 with fail
  by_cases h8 : m.a.act = 8
  · have i8 : (m.a.act : Int) = 8 := by omega
    have HC8 := Lib.hid h8
    clear h8
    go_upto_region 27 with fail
    have HXd := Lib.hid (HX.out.below (Below.refl _ _).drew)
    refine wp_region_sched (.take 0 (.take 1 (.take 2 (.take 3 (.take 4 (.take 5 (.take 6 (.take 7 (.take 8 (.step 9 (.nil))))))))))) (by kernel_rfl) (by kernel_rfl) (fun d _ _ _ _ h => by cases d <;> exact h) (DoF Xp P m g3 g6) (HX.out.below (Below.refl _ _).drew).fact ?_
    refine wpG_take _ (.pointer (some ⟨Xp, 0, none⟩)) rfl (by rfl) (fun X hX => by first | rfl | go_simp) ?_
    (try simp only [Act.put, List.setIfInBounds_toArray, List.set_cons_zero, List.set_cons_succ])
    refine wpG_take _ (.int .i64 (j : Int)) rfl (by rfl) (fun X hX => by first | rfl | go_simp) ?_
    (try simp only [Act.put, List.setIfInBounds_toArray, List.set_cons_zero, List.set_cons_succ])
    refine wpG_take _ (.pointer (some ⟨Xp, 0, none⟩)) rfl (by rfl) (fun X hX => by first | rfl | go_simp) ?_
    (try simp only [Act.put, List.setIfInBounds_toArray, List.set_cons_zero, List.set_cons_succ])
    refine wpG_take _ (.pointer (some ⟨Xp, 1, none⟩)) rfl (by rfl) (fun X hX => by first | rfl | go_simp) ?_
    (try simp only [Act.put, List.setIfInBounds_toArray, List.set_cons_zero, List.set_cons_succ])
    refine wpG_take _ (.pointer (some ⟨Xp, 1 + j, none⟩)) rfl (by rfl) (fun X hX => by first | rfl | go_simp) ?_
    (try simp only [Act.put, List.setIfInBounds_toArray, List.set_cons_zero, List.set_cons_succ])
    refine wpG_take _ (.pointer (some ⟨P.D j, 0, none⟩)) rfl (by rfl) (fun X hX => q_ldD rfl rfl (hX.cd j HJ2.out)) ?_
    (try simp only [Act.put, List.setIfInBounds_toArray, List.set_cons_zero, List.set_cons_succ])
    refine wpG_take _ (.pointer (some ⟨g3, 44, none⟩)) rfl (by rfl) (fun X hX => by first | rfl | go_simp) ?_
    (try simp only [Act.put, List.setIfInBounds_toArray, List.set_cons_zero, List.set_cons_succ])
    refine wpG_take _ (.pointer (some ⟨g3, 44 + 2, none⟩)) rfl (by rfl) (fun X hX => by first | rfl | go_simp) ?_
    (try simp only [Act.put, List.setIfInBounds_toArray, List.set_cons_zero, List.set_cons_succ])
    refine wpG_take _ (.int .u16 (m.a.addr : Int)) rfl (by rfl) (fun X hX => ex_ld1 Tryz.underlying52 rfl rfl (hX.box.cell (Ma.cell44 HM.out (j := 2) (by omega)))) ?_
    (try simp only [Act.put, List.setIfInBounds_toArray, List.set_cons_zero, List.set_cons_succ])
    have hcl := flt_astray HXd.out.s HJ2.out HM.out.a.addr
    refine wpG_call _ rfl (by rfl) 57 #[.pointer (some ⟨P.D j, 0, none⟩), .int .u16 (m.a.addr : Int)] (fun _ => by go_simp) (fun u w' => (u = .tuple #[]) ∧ PrT w W lab w' Xp P (fD x j { x.d j with astray := some m.a.addr })) (hcl.mono fun e w' hh => by
      obtain ⟨e1, h1⟩ := hh
      skip
      obtain ⟨f1, f2⟩ := (HXd.out).turn h1
      exact ⟨_, e1, f1, rfl, f2⟩) ?_
    rintro u W3 hs3 ⟨rfl, hp3⟩
    refine ⟨_, fun _ h => h, hs3, ?_⟩
    (try simp only [Act.put, List.setIfInBounds_toArray, List.set_cons_zero, List.set_cons_succ])
    refine wpG_nil ?_
    have HP3 := Lib.hid hp3
    clear hs3 hp3 hcl
    go_wp2_with fail
    exact HQ.out _ _ (doPost_of rfl HD0.out HD1.out (by rw [HDF.out]; unfold faultS; rw [if_neg HN3.out, if_neg HN4.out, if_neg HN5.out, if_neg HN6.out, if_neg HN7.out, if_pos HC8.out, HJ.out]) HP3.out)
  have i8 : ¬ (m.a.act : Int) = 8 := by omega
  have HN8 := Lib.hid h8
  clear h8
  go_upto_region 28 with fail
  by_cases h9 : m.a.act = 9
  · have i9 : (m.a.act : Int) = 9 := by omega
    have HC9 := Lib.hid h9
    clear h9
    have HCL := Lib.hid (flt_die HX.out.s HJ2.out)
    go_wp2_with (first | (refine wpL_val rfl (q_ldD rfl rfl (HX.out.s.cd HJ2.out)) ?_) | fail)
    refine HCL.out.mono ?_
    rintro e W3 ⟨rfl, hp⟩
    have HP3 := Lib.hid (HX.out.turn hp).2
    clear hp HCL
    go_wp2_with fail
    exact HQ.out _ _ (doPost_of rfl HD0.out HD1.out (by rw [HDF.out]; unfold faultS; rw [if_neg HN3.out, if_neg HN4.out, if_neg HN5.out, if_neg HN6.out, if_neg HN7.out, if_neg HN8.out, if_pos HC9.out, HJ.out]) HP3.out)
  have i9 : ¬ (m.a.act : Int) = 9 := by omega
  have HN9 := Lib.hid h9
  clear h9
  go_upto_region 30 with fail
  by_cases h10 : m.a.act = 10
  · have i10 : (m.a.act : Int) = 10 := by omega
    have HC10 := Lib.hid h10
    clear h10
    go_upto_region 31 with fail
    have HXd := Lib.hid (HX.out.below (Below.refl _ _).drew)
    refine wp_region_sched (.take 0 (.take 1 (.take 2 (.take 3 (.take 4 (.take 5 (.take 6 (.step 7 (.nil))))))))) (by kernel_rfl) (by kernel_rfl) (fun d _ _ _ _ h => by cases d <;> exact h) (DoF Xp P m g3 g6) (HX.out.below (Below.refl _ _).drew).fact ?_
    refine wpG_take _ (.pointer (some ⟨Xp, 0, none⟩)) rfl (by rfl) (fun X hX => by first | rfl | go_simp) ?_
    (try simp only [Act.put, List.setIfInBounds_toArray, List.set_cons_zero, List.set_cons_succ])
    refine wpG_take _ (.pointer (some ⟨Xp, 0, none⟩)) rfl (by rfl) (fun X hX => by first | rfl | go_simp) ?_
    (try simp only [Act.put, List.setIfInBounds_toArray, List.set_cons_zero, List.set_cons_succ])
    refine wpG_take _ (.pointer (some ⟨Xp, 0, none⟩)) rfl (by rfl) (fun X hX => by first | rfl | go_simp) ?_
    (try simp only [Act.put, List.setIfInBounds_toArray, List.set_cons_zero, List.set_cons_succ])
    refine wpG_take _ (.pointer (some ⟨P.Q, 0, none⟩)) rfl (by rfl) (fun X hX => q_ldPw rfl rfl hX.cp) ?_
    (try simp only [Act.put, List.setIfInBounds_toArray, List.set_cons_zero, List.set_cons_succ])
    refine wpG_take _ (.pointer (some ⟨g3, 44, none⟩)) rfl (by rfl) (fun X hX => by first | rfl | go_simp) ?_
    (try simp only [Act.put, List.setIfInBounds_toArray, List.set_cons_zero, List.set_cons_succ])
    refine wpG_take _ (.pointer (some ⟨g3, 44 + 5, none⟩)) rfl (by rfl) (fun X hX => by first | rfl | go_simp) ?_
    (try simp only [Act.put, List.setIfInBounds_toArray, List.set_cons_zero, List.set_cons_succ])
    refine wpG_take _ (.int .i64 m.a.n) rfl (by rfl) (fun X hX => q_ldI rfl rfl (hX.box.cell (Ma.cell44 HM.out (j := 5) (by omega)))) ?_
    (try simp only [Act.put, List.setIfInBounds_toArray, List.set_cons_zero, List.set_cons_succ])
    have hcl := flt_fuse HXd.out.s HM.out.a.n2
    refine wpG_call _ rfl (by rfl) 59 #[.pointer (some ⟨P.Q, 0, none⟩), .int .i64 m.a.n] (fun _ => by go_simp) (fun u w' => (u = .tuple #[]) ∧ PrT w W lab w' Xp P ({ x with p := x.p.set m.a.n })) (hcl.mono fun e w' hh => by
      obtain ⟨e1, h1⟩ := hh
      skip
      obtain ⟨f1, f2⟩ := (HXd.out).turn h1
      exact ⟨_, e1, f1, rfl, f2⟩) ?_
    rintro u W3 hs3 ⟨rfl, hp3⟩
    refine ⟨_, fun _ h => h, hs3, ?_⟩
    (try simp only [Act.put, List.setIfInBounds_toArray, List.set_cons_zero, List.set_cons_succ])
    refine wpG_nil ?_
    have HP3 := Lib.hid hp3
    clear hs3 hp3 hcl
    go_wp2_with fail
    exact HQ.out _ _ (doPost_of rfl HD0.out HD1.out (by rw [HDF.out]; unfold faultS; rw [if_neg HN3.out, if_neg HN4.out, if_neg HN5.out, if_neg HN6.out, if_neg HN7.out, if_neg HN8.out, if_neg HN9.out, if_pos HC10.out]) HP3.out)
  have i10 : ¬ (m.a.act : Int) = 10 := by omega
  have HN10 := Lib.hid h10
  clear h10
  go_upto_region 32 with fail
  by_cases h11 : m.a.act = 11
  · have i11 : (m.a.act : Int) = 11 := by omega
    have HC11 := Lib.hid h11
    clear h11
    have HCL := Lib.hid (flt_back HX.out.s)
    go_wp2_with (first | (refine wpL_val rfl (q_ldPw rfl rfl HX.out.s.cp) ?_) | fail)
    refine HCL.out.mono ?_
    rintro e W3 ⟨rfl, hp⟩
    have HP3 := Lib.hid (HX.out.turn hp).2
    clear hp HCL
    go_wp2_with fail
    exact HQ.out _ _ (doPost_of rfl HD0.out HD1.out (by rw [HDF.out]; unfold faultS; rw [if_neg HN3.out, if_neg HN4.out, if_neg HN5.out, if_neg HN6.out, if_neg HN7.out, if_neg HN8.out, if_neg HN9.out, if_neg HN10.out, if_pos HC11.out]) HP3.out)
  have i11 : ¬ (m.a.act : Int) = 11 := by omega
  have HN11 := Lib.hid h11
  clear h11
  go_wp2_with fail
  exact HQ.out _ _ (doPost_of rfl HD0.out HD1.out (by rw [HDF.out]; unfold faultS; rw [if_neg HN3.out, if_neg HN4.out, if_neg HN5.out, if_neg HN6.out, if_neg HN7.out, if_neg HN8.out, if_neg HN9.out, if_neg HN10.out, if_neg HN11.out]) ⟨_, HX.out.s, HX.out.st⟩)
end Go.Proofs.YtmgagalhpkieoaaGreatDoor
