/- A fault befalls both mirrors. -/
import Derived.Test.YtmgagalhpkieoaaGreatDoorM45
namespace Go.Proofs.YtmgagalhpkieoaaGreatDoor
open Go.RowKit

structure FaF (Xp : Nat) (P : Pl) (V : Rl) (a : Ac) (g : Nat) (Z : World) : Prop where
  cp : Z.cell? ⟨Xp, 0, none⟩ = some (.pointer (some ⟨P.Q, 0, none⟩))
  cd : ∀ k, k < 2 → Z.cell? ⟨Xp, 1 + k, none⟩ = some (.pointer (some ⟨P.D k, 0, none⟩))
  wd : ∀ k, k < 2 → Z.cell? ⟨V.M, k, none⟩ = some (.pointer (some ⟨V.D k, 0, none⟩))
  box : Blk Z g (acs a) 63
structure FaW (w0 W0 : World) (lp0 lw0 : Nat → Nat) (Xp : Nat) (P : Pl) (V : Rl) (a : Ac) (g B : Nat) (vb : Value) (x : Mi Dsk Sp) (y : Wi) (lp lw : Nat → Nat) (Z : World) : Prop where
  b : Bo w0 Z lp lw Xp P x V y
  st : St2 W0 lp0 lw0 Z lp lw
  box : Blk Z g (acs a) 63
  l : lp g = 0 ∧ lw g = 0
  ob : OwnB Z B vb (d_full a.b)
  lb : ∀ i, vb.ownBlock = some i → lp i = 0 ∧ lw i = 0
def FaT (w0 W0 : World) (lp0 lw0 : Nat → Nat) (Xp : Nat) (P : Pl) (V : Rl) (a : Ac) (g B : Nat) (vb : Value) (x : Mi Dsk Sp) (y : Wi) (Z : World) : Prop := ∃ lp lw, FaW w0 W0 lp0 lw0 Xp P V a g B vb x y lp lw Z
section
variable {w0 W0 Z Z' : World} {lp0 lw0 lp lw : Nat → Nat} {Xp : Nat} {P : Pl} {V : Rl} {a : Ac} {g B : Nat} {vb : Value} {x x' : Mi Dsk Sp} {y y' : Wi}
theorem FaW.fact (h : FaW w0 W0 lp0 lw0 Xp P V a g B vb x y lp lw Z) : FaF Xp P V a g Z := ⟨h.b.s.cp, fun _ hk => h.b.s.cd hk, h.b.m.cell.1, h.box⟩
theorem FaW.post (h : FaW w0 W0 lp0 lw0 Xp P V a g B vb x y lp lw Z) (hp : BoPost w0 Z lp lw Xp P x' V y' Z') : FaT w0 W0 lp0 lw0 Xp P V a g B vb x' y' Z' := by
  obtain ⟨l1, l2, h1, h2⟩ := hp
  exact ⟨l1, l2, h1, h.st.trans h2, h2.blk h.box h.l.1 h.l.2, h2.lab0 h.box.lt h.l.1 h.l.2, owns_chg h.ob h2.chg (fun i hi hf => by
    have := h.lb i hi
    rcases hf with hf | hf
    · exact hf.1 this.1
    · exact hf this.2), fun i hi => h2.lab0 (World.ownsRow.lt h.ob i hi).2 (h.lb i hi).1 (h.lb i hi).2⟩
theorem FaW.below (h : FaW w0 W0 lp0 lw0 Xp P V a g B vb x y lp lw Z) (hb : Below Z.heap.size Z Z') : FaW w0 W0 lp0 lw0 Xp P V a g B vb x y lp lw Z' := ⟨h.b.below hb, h.st.trans (St2.below hb), h.box.below hb h.box.lt, h.l, owns_chg h.ob (Chg.of_below (F := fun _ => False) hb) (fun _ _ h => h), h.lb⟩
theorem FaW.drew (h : FaW w0 W0 lp0 lw0 Xp P V a g B vb x y lp lw Z) : FaW w0 W0 lp0 lw0 Xp P V a g B vb x y lp lw Z.drew := h.below (Below.refl _ _).drew
theorem FaT.fact (h : FaT w0 W0 lp0 lw0 Xp P V a g B vb x y Z) : FaF Xp P V a g Z := by
  obtain ⟨_, _, h⟩ := h
  exact h.fact
theorem FaT.fin (h : FaT w0 W0 lp0 lw0 Xp P V a g B vb x y Z) : BoPost w0 W0 lp0 lw0 Xp P x V y Z := by
  obtain ⟨l1, l2, h⟩ := h
  exact ⟨l1, l2, h.b, h.st⟩
theorem FaF.cell (h : FaF Xp P V a g Z) {j : Nat} (hj : j < 7) : Z.cell? ⟨g, j, none⟩ = some (a.cell j) := h.box.cell (acs_at a hj)
theorem FaW.q0 (h : FaW w0 W0 lp0 lw0 Xp P V a g B vb x y lp lw Z) : Z.cell? ⟨V.D 0, 1, none⟩ = some (.pointer (some ⟨V.q, 0, none⟩)) := by
  obtain ⟨_, _, _, _, _, hi⟩ := h.b.m.dk 0 (by omega)
  exact hi.c.2.1
end
section
variable {ρ : Operand → Value} {o : Oper} {x y : Operand} {w : World}
theorem w_one38 {a : Nat} (ho : o.op = .buildSlice 47 1 #[(0, x)]) (hx : ρ x = .int .u16 (a : Int)) : (execOp ρ o).run Tryz.prog w = .ok (.value (.slice (some ⟨w.heap.size, 0, none⟩) 1 1)) (w.alloc (.cells #[.int .u16 (a : Int)] 52)) := by
  unfold execOp
  simp only [ho]
  go_simp
end
set_option maxRecDepth 100000 in
set_option maxHeartbeats 16000000 in
theorem mfaults_any (a : Ac) (w0 W : World) (lp lw : Nat → Nat) (Xp : Nat) (P : Pl) (x : Mi Dsk Sp) (V : Rl) (y : Wi) (n m : Nat) (h : Bo w0 W lp lw Xp P x V y) (hl : Lim x n) (hn : n < 500000) (hb : Bw y m) (hm : m < 890) (ha : AcOK w0 a) (hab : a.b.length ≤ 600) :
    Calls Tryz.prog 17 #[.pointer (some ⟨Xp, 0, none⟩), .pointer (some ⟨V.M, 0, none⟩), .agg (acs a).toArray] W fun e w' => e = .returned (.tuple #[]) ∧ BoPost w0 W lp lw Xp P (faultS x a) V (faultR y a) w' := by
  have HL := Lib.hid hl; have HN := Lib.hid hn; have HBW := Lib.hid hb; have HM := Lib.hid hm; have HA := Lib.hid ha; have HAB := Lib.hid hab; have HH := Lib.hid h
  have HB0 : Hid (Bo w0 (W.alloc (.cells (acs a).toArray 63)) lp lw Xp P x V y) := Lib.hid (h.below ((Below.refl _ _).alloc (Nat.le_refl _) _))
  have HX0 : Hid (Blk (W.alloc (.cells (acs a).toArray 63)) W.heap.size (acs a) 63) := Lib.hid (Blk.new _ _ _)
  have HBE : Hid (Below W.heap.size W (W.alloc (.cells (acs a).toArray 63))) := Lib.hid ((Below.refl _ _).alloc (Nat.le_refl _) _)
  obtain ⟨Po, hPo⟩ : ∃ Po : Ending → World → Prop, (fun e w' => e = .returned (.tuple #[]) ∧ BoPost w0 W lp lw Xp P (faultS x a) V (faultR y a) w') = Po := ⟨_, rfl⟩
  have HPo : Hid (∀ w', BoPost w0 W lp lw Xp P (faultS x a) V (faultR y a) w' → Po (.returned (.tuple #[])) w') := Lib.hid (fun w' hh => by rw [← hPo]; exact ⟨rfl, hh⟩)
  rw [hPo]
  have hd256 := ha.d
  have HD256 := Lib.hid hd256
  have wd := IntWalk.i64_in (a.d : Int) (by omega)
  obtain ⟨j, hj⟩ : ∃ j, a.d % 2 = j := ⟨_, rfl⟩
  have HJ := Lib.hid hj
  have hj2 : j < 2 := by omega
  have HJ2 := Lib.hid hj2
  have h0j : (0 : Int) ≤ (j : Int) := by omega
  have h2j : (j : Int) < 2 := by omega
  clear hl hn hb hm ha hab h hPo hj hd256
  go_enter Tryz.func17, Tryz.ntmps17
  go_upto_region 1 with fail
  refine (fun (k : ∀ Z, Bo w0 Z lp lw Xp P x V y → Blk Z W.heap.size (acs a) 63 → Below W.heap.size W Z → Code.wp _ _ _ _ Z) => k _ HB0.out HX0.out HBE.out) ?_
  intro W1 hb1 hx1 hw1
  have HB1 := Lib.hid hb1; have HX1 := Lib.hid hx1; have HW1 := Lib.hid hw1
  have d1 : W1.cell? ⟨W.heap.size, 1, none⟩ = some (.int .u8 (a.d : Int)) := hx1.cell (acs_at a (j := 1) (by omega))
  have d3 : W1.cell? ⟨W.heap.size, 3, none⟩ = some (.slice a.spb a.b.length a.capb) := hx1.cell (acs_at a (j := 3) (by omega))
  have hfu := full_any a.b a.spb a.b.length a.capb rfl (by have := HAB.out; omega) W1 (HA.out.b.below hb1.s.bel (Nat.le_refl _))
  have HFU := Lib.hid hfu
  clear hb1 hx1 hw1 HB0 HX0 HBE hfu
  go_upto_region 2 with (first | (refine wpL_val rfl (ex_rem2 HJ.out HD256.out rfl rfl rfl) ?_) | fail)
  go_wp2_with (first | (refine wpL_val rfl (q_ldB rfl rfl d3) ?_) | fail)
  refine HFU.out.mono ?_
  rintro e W2 ⟨vb, rfl, ho2, hb2⟩
  obtain ⟨sp4, cap4, rfl, -, -, -, -, -⟩ := OwnB.form ho2
  rw [full_length] at ho2 ⊢
  have HX : Hid (FaW w0 W lp lw Xp P V a W.heap.size W1.heap.size (.slice sp4 512 cap4) x y lp lw W2) := Lib.hid ⟨HB1.out.below hb2, (St2.below HW1.out).trans (St2.below hb2), HX1.out.below hb2 HX1.out.lt, HH.out.new (Nat.le_refl _), ho2, fun i hi => HB1.out.new (World.ownsRow.lt ho2 i hi).1⟩
  obtain ⟨g, hg⟩ : ∃ g, W.heap.size = g := ⟨_, rfl⟩
  obtain ⟨B, hB⟩ : ∃ B, W1.heap.size = B := ⟨_, rfl⟩
  rw [hg, hB] at HX
  rw [hg]
  have HSR : Hid (∀ {x' : Mi Dsk Sp} {y' : Wi} {Z : World} {l1 l2 : Nat → Nat}, FaW w0 W lp lw Xp P V a g B (.slice sp4 512 cap4) x' y' l1 l2 Z → SrcA Z sp4 (d_full a.b)) := Lib.hid (fun hz => by
    obtain ⟨sp5, cap5, e5, -, -, q3, -, -⟩ := OwnB.form hz.ob
    rw [full_length] at e5
    injection e5 with e6 _ _
    rw [e6]
    exact q3)
  have d0 : W2.cell? ⟨g, 0, none⟩ = some (.int .u8 (a.act : Int)) := HX.out.fact.cell (j := 0) (by omega)
  clear ho2 hb2 hg hB d1 d3 HFU HB1 HX1 HW1 HH
  go_upto_region 4 with fail
  by_cases h3 : a.act = 3
  · have i3 : (a.act : Int) = 3 := by omega
    have HC3 := Lib.hid h3
    clear h3
    go_upto_region 5 with fail
    refine gS (.take 0 (.take 1 (.take 2 (.take 3 (.take 4 (.take 5 (.take 6 (.take 7 (.step 8 (.nil)))))))))) (FaF Xp P V a g) HX.out.drew.fact ?_
    refine gT (.pointer (some ⟨Xp, 0, none⟩)) ?_; try simp only [pS]
    refine gT (.int .i64 (j : Int)) ?_; try simp only [pS]
    refine gT (.pointer (some ⟨Xp, 0, none⟩)) ?_; try simp only [pS]
    refine gT (.pointer (some ⟨Xp, 1, none⟩)) ?_; try simp only [pS]
    refine gT (.pointer (some ⟨Xp, 1 + j, none⟩)) ?_; try simp only [pS]
    refine wpG_take _ (.pointer (some ⟨P.D j, 0, none⟩)) rfl (by rfl) (fun X hX => q_ldD rfl rfl (hX.cd j HJ2.out)) ?_; try simp only [pS]
    refine gT (.pointer (some ⟨g, 6, none⟩)) ?_; try simp only [pS]
    refine wpG_take _ (.slice a.spz a.z.length a.capz) rfl (by rfl) (fun X hX => q_ldZ Tryz.underlying61 rfl rfl (hX.cell (j := 6) (by omega))) ?_; try simp only [pS]
    have hcl := flt_crash HX.out.drew.b.s HL.out (by have := HN.out; omega) HJ2.out HA.out.z HA.out.cz HA.out.mz
    refine wpG_call _ rfl (by rfl) 26 #[.pointer (some ⟨P.D j, 0, none⟩), .slice a.spz a.z.length a.capz] (fun _ => by go_simp) (fun u w' => (u = .tuple #[]) ∧ FaT w0 W lp lw Xp P V a g B (.slice sp4 512 cap4) (fD x j (crashed (x.d j) a.z)) (y) w') (hcl.mono fun e w' hh => by
      obtain ⟨e1, h1⟩ := hh
      skip
      have f1 := HX.out.drew.post (HX.out.drew.b.prog h1)
      exact ⟨_, e1, f1.fact, rfl, f1⟩) ?_
    rintro u W3 hs3 ⟨rfl, hp3⟩
    refine ⟨_, fun _ h => h, hs3, ?_⟩; try simp only [pS]
    refine wpG_nil ?_
    obtain ⟨l1, l2, hx1⟩ := hp3
    have HX1 := Lib.hid hx1
    clear hs3 hcl hx1 HX d0
    go_upto_region 6 with fail
    refine gS (.take 0 (.take 1 (.take 2 (.take 3 (.take 4 (.take 5 (.take 6 (.take 7 (.step 8 (.nil)))))))))) (FaF Xp P V a g) HX1.out.drew.fact ?_
    refine gT (.pointer (some ⟨V.M, 0, none⟩)) ?_; try simp only [pS]
    refine gT (.int .i64 (j : Int)) ?_; try simp only [pS]
    refine gT (.pointer (some ⟨V.M, 0, none⟩)) ?_; try simp only [pS]
    refine gT (.pointer (some ⟨V.M, 0, none⟩)) ?_; try simp only [pS]
    refine gT (.pointer (some ⟨V.M, j, none⟩)) ?_; try simp only [pS]
    refine wpG_take _ (.pointer (some ⟨V.D j, 0, none⟩)) rfl (by rfl) (fun X hX => w_ldP Tryz.underlying38 rfl rfl (hX.wd j HJ2.out)) ?_; try simp only [pS]
    refine gT (.pointer (some ⟨g, 6, none⟩)) ?_; try simp only [pS]
    refine wpG_take _ (.slice a.spz a.z.length a.capz) rfl (by rfl) (fun X hX => q_ldZ Tryz.underlying61 rfl rfl (hX.cell (j := 6) (by omega))) ?_; try simp only [pS]
    have hcl := wflt_crash HX1.out.drew.b.m HBW.out (by have := HM.out; omega) HJ2.out (HA.out.z.below HX1.out.drew.b.s.bel (Nat.le_refl _)) HA.out.cz HA.out.mz (fun h0 ad had => by
      obtain ⟨gz, oz, ez, hz, _⟩ := HA.out.z.2 h0
      rw [ez] at had
      obtain rfl := Option.some.inj had
      by_cases e : l2 gz = 0
      · exact e
      · have := HX1.out.drew.b.own gz e; omega)
    refine wpG_call _ rfl (by rfl) 53 #[.pointer (some ⟨V.D j, 0, none⟩), .slice a.spz a.z.length a.capz] (fun _ => by go_simp) (fun u w' => (u = .tuple #[]) ∧ FaT w0 W lp lw Xp P V a g B (.slice sp4 512 cap4) (fD x j (crashed (x.d j) a.z)) (rfd y j (rcrashed (y.d j) a.z)) w') (hcl.mono fun e w' hh => by
      obtain ⟨e1, h1⟩ := hh
      skip
      have f1 := HX1.out.drew.post (HX1.out.drew.b.doc h1)
      exact ⟨_, e1, f1.fact, rfl, f1⟩) ?_
    rintro u W3 hs3 ⟨rfl, hp3⟩
    refine ⟨_, fun _ h => h, hs3, ?_⟩; try simp only [pS]
    refine wpG_nil ?_
    have HF := Lib.hid (HPo.out _ (by
      have e1 : faultS x a = fD x j (crashed (x.d j) a.z) := by unfold faultS; rw [if_pos HC3.out, HJ.out]
      have e2 : faultR y a = rfd y j (rcrashed (y.d j) a.z) := by unfold faultR; rw [if_pos HC3.out, HJ.out]
      rw [e1, e2]
      exact FaT.fin hp3))
    clear HPo HX1
    go_wp2_with fail
    first | exact HF.out | (go_end0; exact HF.out) | (refine bodyPost_ret (results_none rfl _ _ _) rfl ?_; exact HF.out)
  have i3 : ¬ (a.act : Int) = 3 := by omega
  have HN3 := Lib.hid h3
  clear h3
  go_upto_region 7 with fail
  by_cases h4 : a.act = 4
  · have i4 : (a.act : Int) = 4 := by omega
    have HC4 := Lib.hid h4
    clear h4
    go_upto_region 8 with fail
    refine gS (.take 0 (.take 1 (.take 2 (.take 3 (.take 4 (.take 5 (.take 6 (.take 7 (.take 8 (.step 9 (.nil))))))))))) (FaF Xp P V a g) HX.out.drew.fact ?_
    refine gT (.pointer (some ⟨Xp, 0, none⟩)) ?_; try simp only [pS]
    refine gT (.int .i64 (j : Int)) ?_; try simp only [pS]
    refine gT (.pointer (some ⟨Xp, 0, none⟩)) ?_; try simp only [pS]
    refine gT (.pointer (some ⟨Xp, 1, none⟩)) ?_; try simp only [pS]
    refine gT (.pointer (some ⟨Xp, 1 + j, none⟩)) ?_; try simp only [pS]
    refine wpG_take _ (.pointer (some ⟨P.D j, 0, none⟩)) rfl (by rfl) (fun X hX => q_ldD rfl rfl (hX.cd j HJ2.out)) ?_; try simp only [pS]
    refine gT (.pointer (some ⟨g, 2, none⟩)) ?_; try simp only [pS]
    refine wpG_take _ (.int .u16 (a.addr : Int)) rfl (by rfl) (fun X hX => ex_ld1 Tryz.underlying52 rfl rfl (hX.cell (j := 2) (by omega))) ?_; try simp only [pS]
    refine gT (.slice sp4 512 cap4) ?_; try simp only [pS]
    have hcl := flt_rot HX.out.drew.b.s HL.out (by have := HN.out; omega) HJ2.out HA.out.addr (cap := cap4) (full_length _) (HSR.out HX.out.drew)
    refine wpG_call _ rfl (by rfl) 31 #[.pointer (some ⟨P.D j, 0, none⟩), .int .u16 (a.addr : Int), .slice sp4 512 cap4] (fun _ => by go_simp) (fun u w' => (∃ z : Int, u = .int .i64 z) ∧ FaT w0 W lp lw Xp P V a g B (.slice sp4 512 cap4) (fD x j (ailed (x.d j) a.addr 512 (rotK (d_full a.b))).2) (y) w') (hcl.mono fun e w' hh => by
      obtain ⟨e1, h1⟩ := hh
      obtain ⟨z, e1⟩ := e1
      have f1 := HX.out.drew.post (HX.out.drew.b.prog h1)
      exact ⟨_, e1, f1.fact, ⟨z, rfl⟩, f1⟩) ?_
    rintro u W3 hs3 ⟨⟨z3, rfl⟩, hp3⟩
    refine ⟨_, fun _ h => h, hs3, ?_⟩; try simp only [pS]
    refine wpG_nil ?_
    obtain ⟨l1, l2, hx1⟩ := hp3
    have HX1 := Lib.hid hx1
    clear hs3 hcl hx1 HX d0
    go_upto_region 9 with fail
    refine gS (.take 0 (.take 1 (.take 2 (.take 3 (.take 4 (.take 5 (.take 6 (.take 7 (.take 8 (.take 9 (.step 10 (.nil)))))))))))) (fun Z => FaF Xp P V a g Z ∧ SrcA Z sp4 (d_full a.b)) ⟨HX1.out.drew.fact, HSR.out HX1.out.drew⟩ ?_
    refine gT (.pointer (some ⟨V.M, 0, none⟩)) ?_; try simp only [pS]
    refine gT (.int .i64 (j : Int)) ?_; try simp only [pS]
    refine gT (.pointer (some ⟨V.M, 0, none⟩)) ?_; try simp only [pS]
    refine gT (.pointer (some ⟨V.M, 0, none⟩)) ?_; try simp only [pS]
    refine gT (.pointer (some ⟨V.M, j, none⟩)) ?_; try simp only [pS]
    refine wpG_take _ (.pointer (some ⟨V.D j, 0, none⟩)) rfl (by rfl) (fun X hX => w_ldP Tryz.underlying38 rfl rfl (hX.1.wd j HJ2.out)) ?_; try simp only [pS]
    refine gT (.pointer (some ⟨g, 2, none⟩)) ?_; try simp only [pS]
    refine wpG_take _ (.int .u16 (a.addr : Int)) rfl (by rfl) (fun X hX => ex_ld1 Tryz.underlying52 rfl rfl (hX.1.cell (j := 2) (by omega))) ?_; try simp only [pS]
    refine gT (.slice sp4 512 cap4) ?_; try simp only [pS]
    refine wpG_take _ (.string (bstr (d_full a.b))) rfl (by rfl) (fun X hX => q_cvs rfl (full_length _) rfl hX.2) ?_; try simp only [pS]
    have hcl := wflt_fault HX1.out.drew.b.m HBW.out (by have := HM.out; omega) HJ2.out (j := 0) (by omega) HA.out.addr (d_full a.b)
    refine wpG_call _ rfl (by rfl) 54 #[.pointer (some ⟨V.D j, 0, none⟩), .int .i64 0, .int .u16 (a.addr : Int), .string (bstr (d_full a.b))] (fun _ => by go_simp) (fun u w' => (∃ z : Int, u = .int .i64 z) ∧ FaT w0 W lp lw Xp P V a g B (.slice sp4 512 cap4) (fD x j (ailed (x.d j) a.addr 512 (rotK (d_full a.b))).2) (rfd y j (rfault (y.d j) 0 a.addr (d_full a.b)).2) w') (hcl.mono fun e w' hh => by
      obtain ⟨e1, h1⟩ := hh
      obtain ⟨z, e1⟩ := e1
      have f1 := HX1.out.drew.post (HX1.out.drew.b.doc h1)
      exact ⟨_, e1, ⟨f1.fact, by obtain ⟨_, _, f2⟩ := f1; exact HSR.out f2⟩, ⟨z, rfl⟩, f1⟩) ?_
    rintro u W3 hs3 ⟨⟨z3, rfl⟩, hp3⟩
    refine ⟨_, fun _ h => h, hs3, ?_⟩; try simp only [pS]
    refine wpG_nil ?_
    have HF := Lib.hid (HPo.out _ (by
      have e1 : faultS x a = fD x j (ailed (x.d j) a.addr 512 (rotK (d_full a.b))).2 := by unfold faultS; rw [if_neg HN3.out, if_pos HC4.out, HJ.out]
      have e2 : faultR y a = rfd y j (rfault (y.d j) 0 a.addr (d_full a.b)).2 := by unfold faultR; rw [if_neg HN3.out, if_pos HC4.out, HJ.out]
      rw [e1, e2]
      exact FaT.fin hp3))
    clear HPo HX1
    go_wp2_with fail
    first | exact HF.out | (go_end0; exact HF.out) | (refine bodyPost_ret (results_none rfl _ _ _) rfl ?_; exact HF.out)
  have i4 : ¬ (a.act : Int) = 4 := by omega
  have HN4 := Lib.hid h4
  clear h4
  go_upto_region 10 with fail
  by_cases h5 : a.act = 5
  · have i5 : (a.act : Int) = 5 := by omega
    have HC5 := Lib.hid h5
    clear h5
    go_upto_region 11 with fail
    refine gS (.take 0 (.take 1 (.take 2 (.take 3 (.take 4 (.take 5 (.take 6 (.take 7 (.step 8 (.nil)))))))))) (FaF Xp P V a g) HX.out.drew.fact ?_
    refine gT (.pointer (some ⟨Xp, 0, none⟩)) ?_; try simp only [pS]
    refine gT (.int .i64 (j : Int)) ?_; try simp only [pS]
    refine gT (.pointer (some ⟨Xp, 0, none⟩)) ?_; try simp only [pS]
    refine gT (.pointer (some ⟨Xp, 1, none⟩)) ?_; try simp only [pS]
    refine gT (.pointer (some ⟨Xp, 1 + j, none⟩)) ?_; try simp only [pS]
    refine wpG_take _ (.pointer (some ⟨P.D j, 0, none⟩)) rfl (by rfl) (fun X hX => q_ldD rfl rfl (hX.cd j HJ2.out)) ?_; try simp only [pS]
    refine gT (.pointer (some ⟨g, 2, none⟩)) ?_; try simp only [pS]
    refine wpG_take _ (.int .u16 (a.addr : Int)) rfl (by rfl) (fun X hX => ex_ld1 Tryz.underlying52 rfl rfl (hX.cell (j := 2) (by omega))) ?_; try simp only [pS]
    have hcl := flt_bad HX.out.drew.b.s HL.out (by have := HN.out; omega) HJ2.out HA.out.addr
    refine wpG_call _ rfl (by rfl) 55 #[.pointer (some ⟨P.D j, 0, none⟩), .int .u16 (a.addr : Int)] (fun _ => by go_simp) (fun u w' => (∃ z : Int, u = .int .i64 z) ∧ FaT w0 W lp lw Xp P V a g B (.slice sp4 512 cap4) (fD x j (ailed (x.d j) a.addr 512 (fun k => { k with bad := true })).2) (y) w') (hcl.mono fun e w' hh => by
      obtain ⟨e1, h1⟩ := hh
      obtain ⟨z, e1⟩ := e1
      have f1 := HX.out.drew.post (HX.out.drew.b.prog h1)
      exact ⟨_, e1, f1.fact, ⟨z, rfl⟩, f1⟩) ?_
    rintro u W3 hs3 ⟨⟨z3, rfl⟩, hp3⟩
    refine ⟨_, fun _ h => h, hs3, ?_⟩; try simp only [pS]
    refine wpG_nil ?_
    obtain ⟨l1, l2, hx1⟩ := hp3
    have HX1 := Lib.hid hx1
    clear hs3 hcl hx1 HX d0
    go_upto_region 12 with fail
    refine gS (.take 0 (.take 1 (.take 2 (.take 3 (.take 4 (.take 5 (.take 6 (.take 7 (.step 8 (.nil)))))))))) (FaF Xp P V a g) HX1.out.drew.fact ?_
    refine gT (.pointer (some ⟨V.M, 0, none⟩)) ?_; try simp only [pS]
    refine gT (.int .i64 (j : Int)) ?_; try simp only [pS]
    refine gT (.pointer (some ⟨V.M, 0, none⟩)) ?_; try simp only [pS]
    refine gT (.pointer (some ⟨V.M, 0, none⟩)) ?_; try simp only [pS]
    refine gT (.pointer (some ⟨V.M, j, none⟩)) ?_; try simp only [pS]
    refine wpG_take _ (.pointer (some ⟨V.D j, 0, none⟩)) rfl (by rfl) (fun X hX => w_ldP Tryz.underlying38 rfl rfl (hX.wd j HJ2.out)) ?_; try simp only [pS]
    refine gT (.pointer (some ⟨g, 2, none⟩)) ?_; try simp only [pS]
    refine wpG_take _ (.int .u16 (a.addr : Int)) rfl (by rfl) (fun X hX => ex_ld1 Tryz.underlying52 rfl rfl (hX.cell (j := 2) (by omega))) ?_; try simp only [pS]
    have hcl := wflt_fault HX1.out.drew.b.m HBW.out (by have := HM.out; omega) HJ2.out (j := 1) (by omega) HA.out.addr []
    refine wpG_call _ rfl (by rfl) 54 #[.pointer (some ⟨V.D j, 0, none⟩), .int .i64 1, .int .u16 (a.addr : Int), .string { data := #[] }] (fun _ => by go_simp) (fun u w' => (∃ z : Int, u = .int .i64 z) ∧ FaT w0 W lp lw Xp P V a g B (.slice sp4 512 cap4) (fD x j (ailed (x.d j) a.addr 512 (fun k => { k with bad := true })).2) (rfd y j (rfault (y.d j) 1 a.addr []).2) w') (hcl.mono fun e w' hh => by
      obtain ⟨e1, h1⟩ := hh
      obtain ⟨z, e1⟩ := e1
      have f1 := HX1.out.drew.post (HX1.out.drew.b.doc h1)
      exact ⟨_, e1, f1.fact, ⟨z, rfl⟩, f1⟩) ?_
    rintro u W3 hs3 ⟨⟨z3, rfl⟩, hp3⟩
    refine ⟨_, fun _ h => h, hs3, ?_⟩; try simp only [pS]
    refine wpG_nil ?_
    have HF := Lib.hid (HPo.out _ (by
      have e1 : faultS x a = fD x j (ailed (x.d j) a.addr 512 (fun k => { k with bad := true })).2 := by unfold faultS; rw [if_neg HN3.out, if_neg HN4.out, if_pos HC5.out, HJ.out]
      have e2 : faultR y a = rfd y j (rfault (y.d j) 1 a.addr []).2 := by unfold faultR; rw [if_neg HN3.out, if_neg HN4.out, if_pos HC5.out, HJ.out]
      rw [e1, e2]
      exact FaT.fin hp3))
    clear HPo HX1
    go_wp2_with fail
    first | exact HF.out | (go_end0; exact HF.out) | (refine bodyPost_ret (results_none rfl _ _ _) rfl ?_; exact HF.out)
  have i5 : ¬ (a.act : Int) = 5 := by omega
  have HN5 := Lib.hid h5
  clear h5
  go_upto_region 13 with fail
  by_cases h6 : a.act = 6
  · have i6 : (a.act : Int) = 6 := by omega
    have HC6 := Lib.hid h6
    clear h6
    go_upto_region 14 with fail
    refine gS (.take 0 (.take 1 (.take 2 (.take 3 (.take 4 (.take 5 (.take 6 (.take 7 (.step 8 (.nil)))))))))) (FaF Xp P V a g) HX.out.drew.fact ?_
    refine gT (.pointer (some ⟨Xp, 0, none⟩)) ?_; try simp only [pS]
    refine gT (.int .i64 (j : Int)) ?_; try simp only [pS]
    refine gT (.pointer (some ⟨Xp, 0, none⟩)) ?_; try simp only [pS]
    refine gT (.pointer (some ⟨Xp, 1, none⟩)) ?_; try simp only [pS]
    refine gT (.pointer (some ⟨Xp, 1 + j, none⟩)) ?_; try simp only [pS]
    refine wpG_take _ (.pointer (some ⟨P.D j, 0, none⟩)) rfl (by rfl) (fun X hX => q_ldD rfl rfl (hX.cd j HJ2.out)) ?_; try simp only [pS]
    refine gT (.pointer (some ⟨g, 2, none⟩)) ?_; try simp only [pS]
    refine wpG_take _ (.int .u16 (a.addr : Int)) rfl (by rfl) (fun X hX => ex_ld1 Tryz.underlying52 rfl rfl (hX.cell (j := 2) (by omega))) ?_; try simp only [pS]
    have hcl := flt_stick HX.out.drew.b.s HL.out (by have := HN.out; omega) HJ2.out HA.out.addr
    refine wpG_call _ rfl (by rfl) 33 #[.pointer (some ⟨P.D j, 0, none⟩), .int .u16 (a.addr : Int)] (fun _ => by go_simp) (fun u w' => (∃ z : Int, u = .int .i64 z) ∧ FaT w0 W lp lw Xp P V a g B (.slice sp4 512 cap4) (fD x j (ailed (x.d j) a.addr 512 (fun k => { k with stuck := true })).2) (y) w') (hcl.mono fun e w' hh => by
      obtain ⟨e1, h1⟩ := hh
      obtain ⟨z, e1⟩ := e1
      have f1 := HX.out.drew.post (HX.out.drew.b.prog h1)
      exact ⟨_, e1, f1.fact, ⟨z, rfl⟩, f1⟩) ?_
    rintro u W3 hs3 ⟨⟨z3, rfl⟩, hp3⟩
    refine ⟨_, fun _ h => h, hs3, ?_⟩; try simp only [pS]
    refine wpG_nil ?_
    obtain ⟨l1, l2, hx1⟩ := hp3
    have HX1 := Lib.hid hx1
    clear hs3 hcl hx1 HX d0
    go_upto_region 15 with fail
    refine gS (.take 0 (.take 1 (.take 2 (.take 3 (.take 4 (.take 5 (.take 6 (.take 7 (.step 8 (.nil)))))))))) (FaF Xp P V a g) HX1.out.drew.fact ?_
    refine gT (.pointer (some ⟨V.M, 0, none⟩)) ?_; try simp only [pS]
    refine gT (.int .i64 (j : Int)) ?_; try simp only [pS]
    refine gT (.pointer (some ⟨V.M, 0, none⟩)) ?_; try simp only [pS]
    refine gT (.pointer (some ⟨V.M, 0, none⟩)) ?_; try simp only [pS]
    refine gT (.pointer (some ⟨V.M, j, none⟩)) ?_; try simp only [pS]
    refine wpG_take _ (.pointer (some ⟨V.D j, 0, none⟩)) rfl (by rfl) (fun X hX => w_ldP Tryz.underlying38 rfl rfl (hX.wd j HJ2.out)) ?_; try simp only [pS]
    refine gT (.pointer (some ⟨g, 2, none⟩)) ?_; try simp only [pS]
    refine wpG_take _ (.int .u16 (a.addr : Int)) rfl (by rfl) (fun X hX => ex_ld1 Tryz.underlying52 rfl rfl (hX.cell (j := 2) (by omega))) ?_; try simp only [pS]
    have hcl := wflt_fault HX1.out.drew.b.m HBW.out (by have := HM.out; omega) HJ2.out (j := 2) (by omega) HA.out.addr []
    refine wpG_call _ rfl (by rfl) 54 #[.pointer (some ⟨V.D j, 0, none⟩), .int .i64 2, .int .u16 (a.addr : Int), .string { data := #[] }] (fun _ => by go_simp) (fun u w' => (∃ z : Int, u = .int .i64 z) ∧ FaT w0 W lp lw Xp P V a g B (.slice sp4 512 cap4) (fD x j (ailed (x.d j) a.addr 512 (fun k => { k with stuck := true })).2) (rfd y j (rfault (y.d j) 2 a.addr []).2) w') (hcl.mono fun e w' hh => by
      obtain ⟨e1, h1⟩ := hh
      obtain ⟨z, e1⟩ := e1
      have f1 := HX1.out.drew.post (HX1.out.drew.b.doc h1)
      exact ⟨_, e1, f1.fact, ⟨z, rfl⟩, f1⟩) ?_
    rintro u W3 hs3 ⟨⟨z3, rfl⟩, hp3⟩
    refine ⟨_, fun _ h => h, hs3, ?_⟩; try simp only [pS]
    refine wpG_nil ?_
    have HF := Lib.hid (HPo.out _ (by
      have e1 : faultS x a = fD x j (ailed (x.d j) a.addr 512 (fun k => { k with stuck := true })).2 := by unfold faultS; rw [if_neg HN3.out, if_neg HN4.out, if_neg HN5.out, if_pos HC6.out, HJ.out]
      have e2 : faultR y a = rfd y j (rfault (y.d j) 2 a.addr []).2 := by unfold faultR; rw [if_neg HN3.out, if_neg HN4.out, if_neg HN5.out, if_pos HC6.out, HJ.out]
      rw [e1, e2]
      exact FaT.fin hp3))
    clear HPo HX1
    go_wp2_with fail
    first | exact HF.out | (go_end0; exact HF.out) | (refine bodyPost_ret (results_none rfl _ _ _) rfl ?_; exact HF.out)
  have i6 : ¬ (a.act : Int) = 6 := by omega
  have HN6 := Lib.hid h6
  clear h6
  go_upto_region 16 with fail
  by_cases h7 : a.act = 7
  · have i7 : (a.act : Int) = 7 := by omega
    have HC7 := Lib.hid h7
    clear h7
    have HCL := Lib.hid (flt_lose HX.out.b.s HJ2.out)
    go_wp2_with (first | (refine wpL_val rfl (q_ldD rfl rfl (HX.out.b.s.cd HJ2.out)) ?_) | fail)
    refine HCL.out.mono ?_
    rintro e W3 ⟨rfl, hp⟩
    obtain ⟨l1, l2, hx1⟩ := HX.out.post (HX.out.b.prog hp)
    have HX1 := Lib.hid hx1
    clear hp HCL hx1 HX d0
    go_upto_region 18 with fail
    obtain ⟨⟨u9, hu9⟩, hf9⟩ := HX1.out.b.m.dcell HJ2.out (j := 7) (by omega)
    have cdj := HX1.out.b.m.cell.1 j HJ2.out
    have hp3 : FaT w0 W lp lw Xp P V a g B (.slice sp4 512 cap4) (fD x j { x.d j with lose := true }) (rfd y j { y.d j with lose := true }) (W3.setCell ⟨V.D j, 7, none⟩ (.bool true)) := HX1.out.post (HX1.out.b.doc (HX1.out.b.m.lose HJ2.out))
    have HP3 := Lib.hid hp3
    clear hp3
    have HF := Lib.hid (HPo.out _ (by
      have e1 : faultS x a = fD x j { x.d j with lose := true } := by unfold faultS; rw [if_neg HN3.out, if_neg HN4.out, if_neg HN5.out, if_neg HN6.out, if_pos HC7.out, HJ.out]
      have e2 : faultR y a = rfd y j { y.d j with lose := true } := by unfold faultR; rw [if_neg HN3.out, if_neg HN4.out, if_neg HN5.out, if_neg HN6.out, if_pos HC7.out, HJ.out]
      rw [e1, e2]
      exact FaT.fin HP3.out))
    clear HPo HX1
    go_wp2_with (first | (refine wpL_val rfl (w_ldP Tryz.underlying38 rfl rfl cdj) ?_) | fail)
    first | exact HF.out | (go_end0; exact HF.out) | (refine bodyPost_ret (results_none rfl _ _ _) rfl ?_; exact HF.out)
  have i7 : ¬ (a.act : Int) = 7 := by omega
  have HN7 := Lib.hid h7
  clear h7
  go_upto_region 19 with fail
  by_cases h8 : a.act = 8
  · have i8 : (a.act : Int) = 8 := by omega
    have HC8 := Lib.hid h8
    clear h8
    go_upto_region 20 with fail
    refine gS (.take 0 (.take 1 (.take 2 (.take 3 (.take 4 (.take 5 (.take 6 (.take 7 (.step 8 (.nil)))))))))) (FaF Xp P V a g) HX.out.drew.fact ?_
    refine gT (.pointer (some ⟨Xp, 0, none⟩)) ?_; try simp only [pS]
    refine gT (.int .i64 (j : Int)) ?_; try simp only [pS]
    refine gT (.pointer (some ⟨Xp, 0, none⟩)) ?_; try simp only [pS]
    refine gT (.pointer (some ⟨Xp, 1, none⟩)) ?_; try simp only [pS]
    refine gT (.pointer (some ⟨Xp, 1 + j, none⟩)) ?_; try simp only [pS]
    refine wpG_take _ (.pointer (some ⟨P.D j, 0, none⟩)) rfl (by rfl) (fun X hX => q_ldD rfl rfl (hX.cd j HJ2.out)) ?_; try simp only [pS]
    refine gT (.pointer (some ⟨g, 2, none⟩)) ?_; try simp only [pS]
    refine wpG_take _ (.int .u16 (a.addr : Int)) rfl (by rfl) (fun X hX => ex_ld1 Tryz.underlying52 rfl rfl (hX.cell (j := 2) (by omega))) ?_; try simp only [pS]
    have hcl := flt_astray HX.out.drew.b.s HJ2.out HA.out.addr
    refine wpG_call _ rfl (by rfl) 57 #[.pointer (some ⟨P.D j, 0, none⟩), .int .u16 (a.addr : Int)] (fun _ => by go_simp) (fun u w' => (u = .tuple #[]) ∧ FaT w0 W lp lw Xp P V a g B (.slice sp4 512 cap4) (fD x j { x.d j with astray := some a.addr }) (y) w') (hcl.mono fun e w' hh => by
      obtain ⟨e1, h1⟩ := hh
      skip
      have f1 := HX.out.drew.post (HX.out.drew.b.prog h1)
      exact ⟨_, e1, f1.fact, rfl, f1⟩) ?_
    rintro u W3 hs3 ⟨rfl, hp3⟩
    refine ⟨_, fun _ h => h, hs3, ?_⟩; try simp only [pS]
    refine wpG_nil ?_
    obtain ⟨l1, l2, hx1⟩ := hp3
    have HX1 := Lib.hid hx1
    clear hs3 hcl hx1 HX d0
    go_upto_region 21 with fail
    obtain ⟨⟨u9, hu9⟩, hf9⟩ := (HX1.out.drew.below ((Below.refl _ _).alloc (Nat.le_refl _) (.cells #[.int .u16 (a.addr : Int)] 52))).b.m.dcell HJ2.out (j := 8) (by omega)
    have HU9 := Lib.hid hu9; have HF9 := Lib.hid hf9
    have HAl := Lib.hid (HX1.out.drew.below ((Below.refl _ _).alloc (Nat.le_refl _) (.cells #[.int .u16 (a.addr : Int)] 52)))
    have HP3 := Lib.hid (HX1.out.drew.post (HX1.out.drew.b.doc (HX1.out.drew.b.m.astray HJ2.out a.addr)))
    clear hu9 hf9
    refine gS (.take 0 (.take 1 (.take 2 (.take 3 (.take 4 (.take 5 (.take 6 (.take 7 (.step 8 (.take 9 (.take 10 (.step 11 (.nil))))))))))))) (FaF Xp P V a g) HX1.out.drew.fact ?_
    refine gT (.pointer (some ⟨V.M, 0, none⟩)) ?_; try simp only [pS]
    refine gT (.int .i64 (j : Int)) ?_; try simp only [pS]
    refine gT (.pointer (some ⟨V.M, 0, none⟩)) ?_; try simp only [pS]
    refine gT (.pointer (some ⟨V.M, 0, none⟩)) ?_; try simp only [pS]
    refine gT (.pointer (some ⟨V.M, j, none⟩)) ?_; try simp only [pS]
    refine wpG_take _ (.pointer (some ⟨V.D j, 0, none⟩)) rfl (by rfl) (fun X hX => w_ldP Tryz.underlying38 rfl rfl (hX.wd j HJ2.out)) ?_; try simp only [pS]
    refine gT (.pointer (some ⟨g, 2, none⟩)) ?_; try simp only [pS]
    refine wpG_take _ (.int .u16 (a.addr : Int)) rfl (by rfl) (fun X hX => ex_ld1 Tryz.underlying52 rfl rfl (hX.cell (j := 2) (by omega))) ?_; try simp only [pS]
    refine d_wpG_mk _ rfl (by rfl) (.slice (some ⟨W3.drew.heap.size, 0, none⟩) 1 1) _ (w_one38 rfl rfl) (FaF Xp P V a g) HAl.out.fact (fun _ h => h) ?_; try simp only [pS]
    refine gT (.pointer (some ⟨V.D j, 0, none⟩)) ?_; try simp only [pS]
    refine gT (.pointer (some ⟨V.D j, 8, none⟩)) ?_; try simp only [pS]
    refine wpG_st _ rfl (by rfl) _ (ex_st38 rfl rfl rfl HU9.out HF9.out) (FaF Xp P V a g) HP3.out.fact HP3.out.fact (fun _ h => h) ?_; try simp only [pS]
    refine wpG_nil ?_
    have HF := Lib.hid (HPo.out _ (by
      have e1 : faultS x a = fD x j { x.d j with astray := some a.addr } := by unfold faultS; rw [if_neg HN3.out, if_neg HN4.out, if_neg HN5.out, if_neg HN6.out, if_neg HN7.out, if_pos HC8.out, HJ.out]
      have e2 : faultR y a = rfd y j { y.d j with astray := some a.addr } := by unfold faultR; rw [if_neg HN3.out, if_neg HN4.out, if_neg HN5.out, if_neg HN6.out, if_neg HN7.out, if_pos HC8.out, HJ.out]
      rw [e1, e2]
      exact FaT.fin HP3.out))
    clear HPo HX1 HU9 HF9 HAl
    go_wp2_with fail
    first | exact HF.out | (go_end0; exact HF.out) | (refine bodyPost_ret (results_none rfl _ _ _) rfl ?_; exact HF.out)
  have i8 : ¬ (a.act : Int) = 8 := by omega
  have HN8 := Lib.hid h8
  clear h8
  go_upto_region 22 with fail
  by_cases h9 : a.act = 9
  · have i9 : (a.act : Int) = 9 := by omega
    have HC9 := Lib.hid h9
    clear h9
    have HCL := Lib.hid (flt_die HX.out.b.s HJ2.out)
    go_wp2_with (first | (refine wpL_val rfl (q_ldD rfl rfl (HX.out.b.s.cd HJ2.out)) ?_) | fail)
    refine HCL.out.mono ?_
    rintro e W3 ⟨rfl, hp⟩
    obtain ⟨l1, l2, hx1⟩ := HX.out.post (HX.out.b.prog hp)
    have HX1 := Lib.hid hx1
    clear hp HCL hx1 HX d0
    go_upto_region 24 with fail
    obtain ⟨⟨u9, hu9⟩, hf9⟩ := HX1.out.b.m.dcell HJ2.out (j := 6) (by omega)
    have cdj := HX1.out.b.m.cell.1 j HJ2.out
    have hp3 : FaT w0 W lp lw Xp P V a g B (.slice sp4 512 cap4) (fD x j { x.d j with dead := true }) (rfd y j { y.d j with dead := true }) (W3.setCell ⟨V.D j, 6, none⟩ (.bool true)) := HX1.out.post (HX1.out.b.doc (HX1.out.b.m.die HJ2.out))
    have HP3 := Lib.hid hp3
    clear hp3
    have HF := Lib.hid (HPo.out _ (by
      have e1 : faultS x a = fD x j { x.d j with dead := true } := by unfold faultS; rw [if_neg HN3.out, if_neg HN4.out, if_neg HN5.out, if_neg HN6.out, if_neg HN7.out, if_neg HN8.out, if_pos HC9.out, HJ.out]
      have e2 : faultR y a = rfd y j { y.d j with dead := true } := by unfold faultR; rw [if_neg HN3.out, if_neg HN4.out, if_neg HN5.out, if_neg HN6.out, if_neg HN7.out, if_neg HN8.out, if_pos HC9.out, HJ.out]
      rw [e1, e2]
      exact FaT.fin HP3.out))
    clear HPo HX1
    go_wp2_with (first | (refine wpL_val rfl (w_ldP Tryz.underlying38 rfl rfl cdj) ?_) | fail)
    first | exact HF.out | (go_end0; exact HF.out) | (refine bodyPost_ret (results_none rfl _ _ _) rfl ?_; exact HF.out)
  have i9 : ¬ (a.act : Int) = 9 := by omega
  have HN9 := Lib.hid h9
  clear h9
  go_upto_region 25 with fail
  by_cases h10 : a.act = 10
  · have i10 : (a.act : Int) = 10 := by omega
    have HC10 := Lib.hid h10
    clear h10
    go_upto_region 26 with fail
    refine gS (.take 0 (.take 1 (.take 2 (.take 3 (.take 4 (.take 5 (.step 6 (.nil)))))))) (FaF Xp P V a g) HX.out.drew.fact ?_
    refine gT (.pointer (some ⟨Xp, 0, none⟩)) ?_; try simp only [pS]
    refine gT (.pointer (some ⟨Xp, 0, none⟩)) ?_; try simp only [pS]
    refine gT (.pointer (some ⟨Xp, 0, none⟩)) ?_; try simp only [pS]
    refine wpG_take _ (.pointer (some ⟨P.Q, 0, none⟩)) rfl (by rfl) (fun X hX => q_ldPw rfl rfl hX.cp) ?_; try simp only [pS]
    refine gT (.pointer (some ⟨g, 5, none⟩)) ?_; try simp only [pS]
    refine wpG_take _ (.int .i64 a.n) rfl (by rfl) (fun X hX => q_ldI rfl rfl (hX.cell (j := 5) (by omega))) ?_; try simp only [pS]
    have hcl := flt_fuse HX.out.drew.b.s HA.out.n2
    refine wpG_call _ rfl (by rfl) 59 #[.pointer (some ⟨P.Q, 0, none⟩), .int .i64 a.n] (fun _ => by go_simp) (fun u w' => (u = .tuple #[]) ∧ FaT w0 W lp lw Xp P V a g B (.slice sp4 512 cap4) ({ x with p := x.p.set a.n }) (y) w') (hcl.mono fun e w' hh => by
      obtain ⟨e1, h1⟩ := hh
      skip
      have f1 := HX.out.drew.post (HX.out.drew.b.prog h1)
      exact ⟨_, e1, f1.fact, rfl, f1⟩) ?_
    rintro u W3 hs3 ⟨rfl, hp3⟩
    refine ⟨_, fun _ h => h, hs3, ?_⟩; try simp only [pS]
    refine wpG_nil ?_
    obtain ⟨l1, l2, hx1⟩ := hp3
    have HX1 := Lib.hid hx1
    clear hs3 hcl hx1 HX d0
    go_upto_region 27 with fail
    have cd0 := HX1.out.b.m.cell.1 0 (by omega)
    have cq0 := HX1.out.q0
    have cpo : W3.cell? ⟨V.q, 0, none⟩ = some (.bool (!y.p.on)) := HX1.out.b.m.pw.blk.cell rfl
    cases hon : y.p.on with
    | false =>
      rw [hon] at cpo
      have HP3 : Hid (FaT w0 W lp lw Xp P V a g B (.slice sp4 512 cap4) ({ x with p := x.p.set a.n }) ({ y with p := y.p.set a.n }) W3) := Lib.hid (by rw [Pw.set_off hon]; exact ⟨l1, l2, HX1.out⟩)
      have HF := Lib.hid (HPo.out _ (by
        have e1 : faultS x a = { x with p := x.p.set a.n } := by unfold faultS; rw [if_neg HN3.out, if_neg HN4.out, if_neg HN5.out, if_neg HN6.out, if_neg HN7.out, if_neg HN8.out, if_neg HN9.out, if_pos HC10.out]
        have e2 : faultR y a = { y with p := y.p.set a.n } := by unfold faultR; rw [if_neg HN3.out, if_neg HN4.out, if_neg HN5.out, if_neg HN6.out, if_neg HN7.out, if_neg HN8.out, if_neg HN9.out, if_pos HC10.out]
        rw [e1, e2]
        exact FaT.fin HP3.out))
      clear HPo HX1 hon
      go_wp2_with (first | (refine wpL_val rfl (w_ldP Tryz.underlying38 rfl rfl cd0) ?_) | (refine wpL_val rfl (w_ldP Tryz.underlying34 rfl rfl cq0) ?_) | fail)
      first | exact HF.out | (go_end0; exact HF.out) | (refine bodyPost_ret (results_none rfl _ _ _) rfl ?_; exact HF.out)
    | true =>
      rw [hon] at cpo
      have HON := Lib.hid hon
      go_upto_region 28 with (first | (refine wpL_val rfl (w_ldP Tryz.underlying38 rfl rfl cd0) ?_) | (refine wpL_val rfl (w_ldP Tryz.underlying34 rfl rfl cq0) ?_) | fail)
      have HP3 := Lib.hid (HX1.out.drew.post (HX1.out.drew.b.doc (HX1.out.drew.b.m.fuse HON.out HA.out.n2)))
      have HU9 : Hid (W3.drew.cell? ⟨V.q, 1, none⟩ = some (.int .i64 y.p.fuse)) := Lib.hid (HX1.out.drew.b.m.pw.blk.cell rfl)
      have HF9 := Lib.hid (HX1.out.drew.b.m.pw.blk.free 1)
      have HQ0 : Hid (W3.drew.cell? ⟨V.D 0, 1, none⟩ = some (.pointer (some ⟨V.q, 0, none⟩))) := Lib.hid HX1.out.drew.q0
      have HQ9 : Hid ((W3.drew.setCell ⟨V.q, 1, none⟩ (.int .i64 (max a.n (-1)))).cell? ⟨V.D 0, 1, none⟩ = some (.pointer (some ⟨V.q, 0, none⟩))) := Lib.hid (by obtain ⟨_, _, h9⟩ := HP3.out; exact h9.q0)
      clear cd0 cq0 cpo
      refine gS (.take 0 (.take 1 (.take 2 (.take 3 (.take 4 (.take 5 (.take 6 (.take 7 (.take 8 (.take 9 (.take 10 (.take 11 (.take 12 (.step 13 (.nil))))))))))))))) (fun Z => FaF Xp P V a g Z ∧ Z.cell? ⟨V.D 0, 1, none⟩ = some (.pointer (some ⟨V.q, 0, none⟩))) ⟨HX1.out.drew.fact, HQ0.out⟩ ?_
      refine gT (.pointer (some ⟨V.M, 0, none⟩)) ?_; try simp only [pS]
      refine gT (.pointer (some ⟨V.M, 0, none⟩)) ?_; try simp only [pS]
      refine gT (.pointer (some ⟨V.M, 0, none⟩)) ?_; try simp only [pS]
      refine gT (.pointer (some ⟨V.M, 0, none⟩)) ?_; try simp only [pS]
      refine wpG_take _ (.pointer (some ⟨V.D 0, 0, none⟩)) rfl (by rfl) (fun X hX => w_ldP Tryz.underlying38 rfl rfl (hX.1.wd 0 (by omega))) ?_; try simp only [pS]
      refine gT (.pointer (some ⟨V.D 0, 0, none⟩)) ?_; try simp only [pS]
      refine gT (.pointer (some ⟨V.D 0, 1, none⟩)) ?_; try simp only [pS]
      refine wpG_take _ (.pointer (some ⟨V.q, 0, none⟩)) rfl (by rfl) (fun X hX => w_ldP Tryz.underlying34 rfl rfl hX.2) ?_; try simp only [pS]
      refine gT (.pointer (some ⟨g, 5, none⟩)) ?_; try simp only [pS]
      refine wpG_take _ (.int .i64 a.n) rfl (by rfl) (fun X hX => q_ldI rfl rfl (hX.1.cell (j := 5) (by omega))) ?_; try simp only [pS]
      refine gT (.int .i64 (max a.n (-1))) ?_; try simp only [pS]
      refine gT (.pointer (some ⟨V.q, 0, none⟩)) ?_; try simp only [pS]
      refine gT (.pointer (some ⟨V.q, 1, none⟩)) ?_; try simp only [pS]
      refine wpG_st _ rfl (by rfl) _ (q_stI rfl rfl rfl HU9.out HF9.out) (fun Z => FaF Xp P V a g Z ∧ Z.cell? ⟨V.D 0, 1, none⟩ = some (.pointer (some ⟨V.q, 0, none⟩))) ⟨HP3.out.fact, HQ9.out⟩ ⟨HP3.out.fact, HQ9.out⟩ (fun _ h => h) ?_; try simp only [pS]
      refine wpG_nil ?_
      have HF := Lib.hid (HPo.out _ (by
        have e1 : faultS x a = { x with p := x.p.set a.n } := by unfold faultS; rw [if_neg HN3.out, if_neg HN4.out, if_neg HN5.out, if_neg HN6.out, if_neg HN7.out, if_neg HN8.out, if_neg HN9.out, if_pos HC10.out]
        have e2 : faultR y a = { y with p := y.p.set a.n } := by unfold faultR; rw [if_neg HN3.out, if_neg HN4.out, if_neg HN5.out, if_neg HN6.out, if_neg HN7.out, if_neg HN8.out, if_neg HN9.out, if_pos HC10.out]
        rw [e1, e2]
        exact FaT.fin HP3.out))
      clear HPo HX1 HU9 HF9 HQ0 HQ9
      go_wp2_with fail
      first | exact HF.out | (go_end0; exact HF.out) | (refine bodyPost_ret (results_none rfl _ _ _) rfl ?_; exact HF.out)
  have i10 : ¬ (a.act : Int) = 10 := by omega
  have HN10 := Lib.hid h10
  clear h10
  go_upto_region 29 with fail
  by_cases h11 : a.act = 11
  · have i11 : (a.act : Int) = 11 := by omega
    have HC11 := Lib.hid h11
    clear h11
    have cpx := HX.out.b.s.cp
    have HCL := Lib.hid (flt_back HX.out.b.s)
    go_wp2_with (first | (refine wpL_val rfl (q_ldPw rfl rfl cpx) ?_) | fail)
    refine HCL.out.mono ?_
    rintro e W3 ⟨rfl, hp⟩
    obtain ⟨l1, l2, hx1⟩ := HX.out.post (HX.out.b.prog hp)
    have HX1 := Lib.hid hx1
    clear hp HCL hx1 HX d0 cpx
    go_upto_region 31 with fail
    have cd0 := HX1.out.b.m.cell.1 0 (by omega)
    have cq0 := HX1.out.q0
    have cpo : W3.cell? ⟨V.q, 0, none⟩ = some (.bool (!y.p.on)) := HX1.out.b.m.pw.blk.cell rfl
    have cpf : W3.cell? ⟨V.q, 1, none⟩ = some (.int .i64 y.p.fuse) := HX1.out.b.m.pw.blk.cell rfl
    have cf0 := HX1.out.b.m.pw.blk.free 0
    have cf1 := HX1.out.b.m.pw.blk.free 1
    have HP3 : Hid (FaT w0 W lp lw Xp P V a g B (.slice sp4 512 cap4) ({ x with p := ⟨true, -1⟩ }) ({ y with p := ⟨true, -1⟩ }) ((W3.setCell ⟨V.q, 0, none⟩ (.bool false)).setCell ⟨V.q, 1, none⟩ (.int .i64 (-1)))) := Lib.hid (HX1.out.post (HX1.out.b.doc (HX1.out.b.m.power (p' := ⟨true, -1⟩) ⟨(HX1.out.b.m.pw.blk.set 0 (.bool false)).set 1 (.int .i64 (-1)), by simp, by simp⟩ ((chg1 _ _ _ _).trans' (chg1 _ _ _ _)))))
    have HF := Lib.hid (HPo.out _ (by
      have e1 : faultS x a = { x with p := ⟨true, -1⟩ } := by unfold faultS; rw [if_neg HN3.out, if_neg HN4.out, if_neg HN5.out, if_neg HN6.out, if_neg HN7.out, if_neg HN8.out, if_neg HN9.out, if_neg HN10.out, if_pos HC11.out]
      have e2 : faultR y a = { y with p := ⟨true, -1⟩ } := by unfold faultR; rw [if_neg HN3.out, if_neg HN4.out, if_neg HN5.out, if_neg HN6.out, if_neg HN7.out, if_neg HN8.out, if_neg HN9.out, if_neg HN10.out, if_pos HC11.out]
      rw [e1, e2]
      exact FaT.fin HP3.out))
    clear HPo HX1
    go_wp2_with (first | (refine wpL_val rfl (w_ldP Tryz.underlying38 rfl rfl cd0) ?_) | (refine wpL_val rfl (w_ldP Tryz.underlying34 rfl rfl cq0) ?_) | fail)
    first | exact HF.out | (go_end0; exact HF.out) | (refine bodyPost_ret (results_none rfl _ _ _) rfl ?_; exact HF.out)
  have i11 : ¬ (a.act : Int) = 11 := by omega
  have HN11 := Lib.hid h11
  clear h11
  have HF := Lib.hid (HPo.out _ (by
    have e1 : faultS x a = x := by unfold faultS; rw [if_neg HN3.out, if_neg HN4.out, if_neg HN5.out, if_neg HN6.out, if_neg HN7.out, if_neg HN8.out, if_neg HN9.out, if_neg HN10.out, if_neg HN11.out]
    have e2 : faultR y a = y := by unfold faultR; rw [if_neg HN3.out, if_neg HN4.out, if_neg HN5.out, if_neg HN6.out, if_neg HN7.out, if_neg HN8.out, if_neg HN9.out, if_neg HN10.out, if_neg HN11.out]
    rw [e1, e2]
    exact FaT.fin ⟨_, _, HX.out⟩))
  clear HPo
  go_wp2_with fail
  first | exact HF.out | (go_end0; exact HF.out) | (refine bodyPost_ret (results_none rfl _ _ _) rfl ?_; exact HF.out)
end Go.Proofs.YtmgagalhpkieoaaGreatDoor
