/- The document's mirror: a copy mended. -/
import Derived.Test.YtmgagalhpkieoaaGreatDoorM43
namespace Go.Proofs.YtmgagalhpkieoaaGreatDoor
open Go.RowKit

theorem size_cp : (Tryz.prog.info? 121).map (·.size) = some 2 := by kernel_rfl
theorem ex_ldC {ρ : Operand → Value} {o : Oper} {x : Operand} {w : World} {c : Cpy} {g : Nat} {t' : TypeId} (hB : Blk w g (plc c) t') (ho : o.op = .load 121 x) (hx : ρ x = .pointer (some ⟨g, 0, none⟩)) : (execOp ρ o).run Tryz.prog w = .ok (.value (.agg (plc c).toArray)) w :=
  ex_ld (ty := 121) (cs := plc c) ho hx (rng_all hB) Tryz.underlying121 rfl size_cp
theorem eqP_comm (p q : Pt) : eqP p q = eqP q p := by
  rw [Bool.eq_iff_iff, eqP_iff, eqP_iff]
  exact ⟨fun h => h.symm, fun h => h.symm⟩
structure WnF (w : World) (V : Rl) (p : Pt) (c : Cpy) (Z : World) : Prop where
  pt : Blk Z w.heap.size (pcells p) 58
  cp : Blk Z (w.heap.size + 1) (plc c) 121
  cd : ∀ k, k < 2 → Z.cell? ⟨V.M, k, none⟩ = some (.pointer (some ⟨V.D k, 0, none⟩))
  cr : ∀ k, k < 2 → Z.cell? ⟨V.M, 2 + k, none⟩ = some (.pointer (some ⟨V.R k, 0, none⟩))
structure WnW (w : World) (lab0 : Nat → Nat) (V : Rl) (p : Pt) (c : Cpy) (lab : Nat → Nat) (y : Wi) (Z : World) : Prop where
  pt : Blk Z w.heap.size (pcells p) 58
  cp : Blk Z (w.heap.size + 1) (plc c) 121
  lp : lab w.heap.size = 0
  lc : lab (w.heap.size + 1) = 0
  m : WmAt Z lab V y
  st : Stp w lab0 Z lab
def WnT (w : World) (lab0 : Nat → Nat) (V : Rl) (p : Pt) (c : Cpy) (y : Wi) (Z : World) : Prop := ∃ lab, WnW w lab0 V p c lab y Z
section
variable {w Z Z' : World} {lab0 lab : Nat → Nat} {V : Rl} {p : Pt} {c : Cpy} {y y' : Wi}
theorem WnW.fact (h : WnW w lab0 V p c lab y Z) : WnF w V p c Z := ⟨h.pt, h.cp, h.m.cell.1, h.m.cell.2.1⟩
theorem WnW.post (h : WnW w lab0 V p c lab y Z) (hp : WmPost Z lab V y' Z') : WnT w lab0 V p c y' Z' := by
  obtain ⟨l', h1, h2⟩ := hp
  exact ⟨l', h2.blk h.pt h.lp, h2.blk h.cp h.lc, h2.lab0 h.pt.lt h.lp, h2.lab0 h.cp.lt h.lc, h1, h.st.trans h2⟩
theorem WnW.below (h : WnW w lab0 V p c lab y Z) (hb : Below Z.heap.size Z Z') : WnW w lab0 V p c lab y Z' := ⟨h.pt.below hb h.pt.lt, h.cp.below hb h.cp.lt, h.lp, h.lc, h.m.below hb, h.st.trans (Stp.below hb)⟩
theorem WnW.drew (h : WnW w lab0 V p c lab y Z) : WnW w lab0 V p c lab y Z.drew := h.below (Below.refl _ _).drew
theorem WnW.turn (h : WnW w lab0 V p c lab y Z) (hp : WmPost Z lab V y' Z') : WnF w V p c Z' ∧ WnT w lab0 V p c y' Z' := by
  obtain ⟨l', h1⟩ := h.post hp
  exact ⟨h1.fact, l', h1⟩
theorem WnT.fin (h : WnT w lab0 V p c y Z) : WmPost w lab0 V y Z := by
  obtain ⟨l', h1⟩ := h
  exact ⟨l', h1.m, h1.st⟩
theorem wnw_start (h : WmAt w lab V y) : WnW w lab V p c lab y ((w.alloc (.cells (pcells p).toArray 58)).alloc (.cells (plc c).toArray 121)) := by
  have n : ∀ g, w.heap.size ≤ g → lab g = 0 := fun g hg => by
    by_cases e : lab g = 0
    · exact e
    · have := h.lt g e; omega
  have hb : Below w.heap.size w ((w.alloc (.cells (pcells p).toArray 58)).alloc (.cells (plc c).toArray 121)) := ((Below.refl _ _).alloc (Nat.le_refl _) _).alloc (by simp) _
  exact ⟨(Blk.new _ _ _).alloc _, by have := Blk.new (w.alloc (.cells (pcells p).toArray 58)) (plc c) 121; simpa using this, n _ (Nat.le_refl _), n _ (by omega), h.below hb, Stp.below hb⟩
theorem WmAt.push (h : WmAt Z lab V y) (hp : p.OK) (hl : y.mv.length < 1000000) {v : Value} (hv : Z.cell? ⟨V.M, 8, none⟩ = some v) (ty : TypeId) : ∃ v' w2, (Z.alloc (.cells (pcells p).toArray 58)).cell? ⟨V.M, 8, none⟩ = some v ∧
    (Builtin.append_ #[43, 43] ty #[v, .slice (some ⟨Z.heap.size, 0, none⟩) 1 1]).run Tryz.prog (Z.alloc (.cells (pcells p).toArray 58)) = .ok v' w2 ∧ (∃ sp n c, v' = .slice sp n c) ∧ w2.cell? ⟨V.M, 8, none⟩ = some v ∧ w2.frozen? ⟨V.M, 8, none⟩ = false ∧
    Chg (fun b => lab b = 7) Z w2 ∧ WmPost Z lab V { y with mv := y.mv ++ [p] } (w2.setCell ⟨V.M, 8, none⟩ v') := by
  obtain ⟨v0, hb, hm, h7⟩ := h.mi
  have hv0 : Z.cell? ⟨V.M, 8, none⟩ = some v0 := hb.cell rfl
  rw [hv0] at hv
  injection hv with e
  subst e
  have ha : Below Z.heap.size Z (Z.alloc (.cells (pcells p).toArray 58)) := (Below.refl _ _).alloc (Nat.le_refl _) _
  have hbk : Blk (Z.alloc (.cells (pcells p).toArray 58)) Z.heap.size (pcells p) 58 := Blk.new _ _ _
  have hm1 : OwnM (Z.alloc (.cells (pcells p).toArray 58)) 0 v0 y.mv := hm.chg (Chg.of_below (F := fun _ => False) ha) (fun _ _ h => h)
  obtain ⟨v', w2, hr, ho, hg, hob⟩ := ownM_app hm1 (Nat.zero_le _) hl hp (adr := ⟨Z.heap.size, 0, none⟩) (c := 1) (fun j u hj => by rw [Addr.add_mid, Nat.zero_add]; exact hbk.cell hj) ty
  have hc : Chg (fun b => lab b = 7) Z w2 := ((Chg.refl _ Z).alloc _).grown hg (fun k hk => .inl (h7 k hk))
  have hb2 : Blk w2 V.M (wmcells V v0 y) 45 := hb.chg hc (by rw [h.lm]; omega)
  refine ⟨v', w2, (hb.alloc _).cell rfl, hr, own_slice3 ho, hb2.cell rfl, hb2.free 8, hc, h.moves hc (fun _ hb => hb) ho (fun q hq => ?_) (fun g hg2 => ?_)⟩
  · rcases List.mem_append.1 hq with hq | hq
    · exact h.ok q hq
    · simp at hq; subst hq; exact hp
  · rcases hob with e | e
    · left; rw [e] at hg2; exact h7 g hg2
    · right
      rw [e] at hg2
      simp only [Option.some.injEq, World.size_alloc] at hg2
      rcases ho.2 with ⟨e2, _⟩ | ⟨g', cap, cur, e2, _, hh, _⟩
      · rw [e2] at e; cases e
      · have hgg : g = g' := by rw [e2] at e; simp [Value.ownBlock] at e; omega
        exact ⟨by omega, by rw [hgg]; exact (Array.getElem?_eq_some_iff.1 hh).1⟩
theorem mend1_t {b : d_Bs} (h : (gd kinR (wrote1 kinR y b c).2 p c).isSome = true) : mend1 kinR p b y c = { (wrote1 kinR y b c).2 with g := upk (wrote1 kinR y b c).2.g c.1 ((wrote1 kinR y b c).2.g c.1 + 1) } := by
  unfold mend1
  rw [if_pos h]
  rfl
theorem mend1_f {b : d_Bs} (h : (gd kinR (wrote1 kinR y b c).2 p c).isSome = false) : mend1 kinR p b y c = { (wrote1 kinR y b c).2 with s := upk (wrote1 kinR y b c).2.s c.1 (felt ((wrote1 kinR y b c).2.s c.1) c.2), mv := addMv (wrote1 kinR y b c).2.mv p } := by
  unfold mend1
  rw [if_neg (by rw [h]; decide)]
  have e : (wrote1 kinR y b c).2.s = y.s := rfl
  rw [e, ← felt_eq]
  rfl
end
structure WnL (w : World) (lab0 : Nat → Nat) (V : Rl) (p : Pt) (c : Cpy) (lab : Nat → Nat) (y : Wi) (v : Value) (Z : World) : Prop where
  s : WnW w lab0 V p c lab y Z
  c8 : Z.cell? ⟨V.M, 8, none⟩ = some v
  src : SrcM Z v y.mv
theorem WnL.below {w Z Z' : World} {lab0 lab : Nat → Nat} {V : Rl} {p : Pt} {c : Cpy} {y : Wi} {v : Value} (h : WnL w lab0 V p c lab y v Z) (hb : Below Z.heap.size Z Z') : WnL w lab0 V p c lab y v Z' := ⟨h.s.below hb, (hb.cell (p := ⟨V.M, 8, none⟩) h.s.m.ms).trans h.c8, h.src.grown hb⟩
theorem WnL.drew {w Z : World} {lab0 lab : Nat → Nat} {V : Rl} {p : Pt} {c : Cpy} {y : Wi} {v : Value} (h : WnL w lab0 V p c lab y v Z) : WnL w lab0 V p c lab y v Z.drew := h.below (Below.refl _ _).drew
theorem WnW.looks {w Z : World} {lab0 lab : Nat → Nat} {V : Rl} {p : Pt} {c : Cpy} {y : Wi} (h : WnW w lab0 V p c lab y Z) : ∃ v, WnL w lab0 V p c lab y v Z := by
  obtain ⟨v, hb, hm, _⟩ := h.m.mi
  exact ⟨v, h, hb.cell rfl, OwnM.src hm h.m.ok⟩
set_option maxRecDepth 100000 in
set_option maxHeartbeats 8000000 in
theorem wmend_any (p : Pt) (hp : p.OK) (c : Cpy) (hc : c.1 < 2 ∧ 0 < c.2 ∧ c.2 < 65536) (b : d_Bs) (hbl : b.length < 1000000) (w : World) (lab : Nat → Nat) (V : Rl) (y : Wi) (n : Nat) (h : WmAt w lab V y) (hb : Bw y n) (hn : n < 890) :
    Calls Tryz.prog 48 #[.pointer (some ⟨V.M, 0, none⟩), .agg (pcells p).toArray, .agg (plc c).toArray, .string (bstr b)] w fun e w' => e = .returned (.tuple #[]) ∧ WmPost w lab V (mend1 kinR p b y c) w' := by
  have HB1 := Lib.hid (hb.wrote1 b hc)
  have HC := Lib.hid hc
  have HBD := Lib.hid (hb.d c.1 hc.1)
  have hsm := ((hb.d c.1 hc.1).room (by omega)).small
  have HSM := Lib.hid hsm
  have HP := Lib.hid hp
  have HLP := Lib.hid (pcells_length hp)
  have HBL := Lib.hid hbl
  have HN := Lib.hid hn
  have HW : Hid (WnW w lab V p c lab y ((w.alloc (.cells (pcells p).toArray 58)).alloc (.cells (plc c).toArray 121))) := Lib.hid (wnw_start h)
  obtain ⟨j, a⟩ := c
  obtain ⟨hj, h0, ha⟩ := hc
  have HJ := Lib.hid hj; have HA := Lib.hid ha; have H0 := Lib.hid h0
  have h0q : (0 : Int) ≤ (j : Int) := by omega
  have hq2 : (j : Int) < 2 := by omega
  obtain ⟨s, hs⟩ : ∃ s, bstr b = s := ⟨_, rfl⟩
  have HS := Lib.hid hs
  rw [hs]
  obtain ⟨ym, hym⟩ : ∃ ym, mend1 kinR p b y (j, a) = ym := ⟨_, rfl⟩
  have HYM := Lib.hid hym
  rw [hym]
  clear hp h hb hn hsm hj h0 ha hs hbl hym
  go_enter Tryz.func48, Tryz.ntmps48
  go_upto_region 1 with fail
  generalize ((w.alloc (.cells (pcells p).toArray 58)).alloc (.cells _ 121)) = W at HW ⊢
  refine gS (.take 0 (.take 1 (.take 2 (.take 3 (.take 4 (.take 5 (.take 6 (.take 7 (.take 8 (.take 9 (.step 10 (.nil)))))))))))) (WnF w V p (j, a)) HW.out.drew.fact ?_
  refine gT (.pointer (some ⟨V.M, 0, none⟩)) ?_; try simp only [pS]
  refine gT (.pointer (some ⟨w.heap.size + 1, 0, none⟩)) ?_; try simp only [pS]
  refine wpG_take _ (.int .i64 (j : Int)) rfl (by rfl) (fun X hX => ex_ld1 Tryz.underlying3 rfl rfl (hX.cp.cell rfl)) ?_; try simp only [pS]
  refine gT (.pointer (some ⟨V.M, 0, none⟩)) ?_; try simp only [pS]
  refine gT (.pointer (some ⟨V.M, 0, none⟩)) ?_; try simp only [pS]
  refine gT (.pointer (some ⟨V.M, j, none⟩)) ?_; try simp only [pS]
  refine wpG_take _ (.pointer (some ⟨V.D j, 0, none⟩)) rfl (by rfl) (fun X hX => w_ldP Tryz.underlying38 rfl rfl (hX.cd j HJ.out)) ?_; try simp only [pS]
  refine gT (.pointer (some ⟨w.heap.size + 1, 1, none⟩)) ?_; try simp only [pS]
  refine wpG_take _ (.int .u16 (a : Int)) rfl (by rfl) (fun X hX => ex_ld1 Tryz.underlying52 rfl rfl (hX.cp.cell rfl)) ?_; try simp only [pS]
  refine gT (.string s) ?_; try simp only [pS]
  have hwr := rwrite_any (V.D j) V.q (fun b => lab b = j + 1) (y.d j) y.p a b HA.out HBL.out HBD.out.al W.drew (HW.out.drew.m.dk j HJ.out) HW.out.drew.m.pw HSM.out
  rw [HS.out] at hwr
  refine wpG_call _ rfl (by rfl) 51 #[.pointer (some ⟨V.D j, 0, none⟩), .int .u16 (a : Int), .string s] (fun _ => by go_simp) (fun u w' => (∃ z : Int, u = .int .i64 z) ∧ WnT w lab V p (j, a) (wrote1 kinR y b (j, a)).2 w') (hwr.mono fun e w' ⟨e1, e2, e3, e4⟩ => by
    obtain ⟨f1, f2⟩ := HW.out.drew.turn (HW.out.drew.m.stepD HJ.out e2 e3 e4)
    exact ⟨_, e1, f1, ⟨_, rfl⟩, f2⟩) ?_
  rintro u W2 hs2 ⟨⟨z2, rfl⟩, lab1, hw2⟩
  refine ⟨_, fun _ h => h, hs2, ?_⟩; try simp only [pS]
  refine wpG_nil ?_
  have HW2 := Lib.hid hw2
  obtain ⟨y1, hy1⟩ : ∃ y1, (wrote1 kinR y b (j, a)).2 = y1 := ⟨_, rfl⟩
  have HYT := Lib.hid (mend1_t (y := y) (p := p) (c := (j, a)) (b := b))
  have HYF := Lib.hid (mend1_f (y := y) (p := p) (c := (j, a)) (b := b))
  rw [HYM.out, hy1] at HYT HYF
  rw [hy1] at HW2 HB1
  have HG := Lib.hid (wgood_any p HP.out (j, a) HC.out W2 lab1 V y1 (n + 1) HW2.out.m HB1.out (by have := HN.out; omega))
  clear hs2 hw2 hwr hy1 HW HYM HBD HSM
  go_wp2_with (first | (refine wpL_val rfl (ex_ldPq HP.out HW2.out.pt rfl rfl) ?_) | (refine wpL_val rfl (ex_ldC HW2.out.cp rfl rfl) ?_) | fail)
  refine HG.out.mono ?_
  rintro e W3 ⟨⟨b', rfl, -⟩, hb3⟩
  have HW3 := Lib.hid (HW2.out.below hb3)
  clear hb3 HG HW2
  generalize bstr b' = s'
  obtain ⟨f, hf⟩ : ∃ f, (gd kinR y1 p (j, a)).isSome = f := ⟨_, rfl⟩
  rw [hf] at HYT HYF ⊢
  clear hf
  cases f with
  | true =>
    have HY := Lib.hid (HYT.out rfl)
    obtain ⟨G, hG⟩ : ∃ G, y1.g j = G := ⟨_, rfl⟩
    have HGL : Hid (G < 1000) := Lib.hid (by have := HB1.out.g j; have := HN.out; omega)
    have cg := HW3.out.drew.m.cell.2.2.2 j HJ.out
    have HFR := Lib.hid (HW3.out.drew.m.mfree (6 + j))
    have HMe := Lib.hid (HW3.out.drew.turn (HW3.out.drew.m.mended HJ.out))
    rw [hG] at cg HMe HY
    have HCG := Lib.hid cg
    clear HYT HYF hG cg
    go_upto_region 4 with fail
    refine gS (.take 0 (.take 1 (.take 2 (.take 3 (.take 4 (.take 5 (.take 8 (.take 9 (.step 6 (.take 7 (.take 10 (.step 11 (.nil))))))))))))) (WnF w V p (j, a)) HW3.out.drew.fact ?_
    refine gT (.pointer (some ⟨V.M, 0, none⟩)) ?_; try simp only [pS]
    refine gT (.pointer (some ⟨w.heap.size + 1, 0, none⟩)) ?_; try simp only [pS]
    refine wpG_take _ (.int .i64 (j : Int)) rfl (by rfl) (fun X hX => ex_ld1 Tryz.underlying3 rfl rfl (hX.cp.cell rfl)) ?_; try simp only [pS]
    refine gT (.pointer (some ⟨V.M, 0, none⟩)) ?_; try simp only [pS]
    refine gT (.pointer (some ⟨V.M, 6, none⟩)) ?_; try simp only [pS]
    refine gT (.pointer (some ⟨V.M, 6 + j, none⟩)) ?_; try simp only [pS]
    refine gT (.pointer (some ⟨V.M, 0, none⟩)) ?_; try simp only [pS]
    refine gT (.pointer (some ⟨V.M, 6, none⟩)) ?_; try simp only [pS]
    refine d_wpG_mk _ rfl (by rfl) (.int .i64 (G : Int)) _ (ex_ld1 Tryz.underlying3 rfl rfl HCG.out) _ HW3.out.drew.fact (fun _ h => h) ?_; try simp only [pS]
    refine wpG_take _ (.int .i64 ((G + 1 : Nat) : Int)) rfl (by rfl) (fun X hX => q_inc rfl rfl rfl (by have := HGL.out; omega)) ?_; try simp only [pS]
    refine gT (.pointer (some ⟨V.M, 6 + j, none⟩)) ?_; try simp only [pS]
    refine wpG_st _ rfl (by rfl) _ (q_stI rfl rfl rfl HCG.out HFR.out) (WnF w V p (j, a)) HMe.out.1 HMe.out.1 (fun _ h => h) ?_; try simp only [pS]
    refine wpG_nil ?_
    have HPO : Hid (WmPost w lab V ym (W3.drew.setCell ⟨V.M, 6 + j, none⟩ (.int .i64 ((G + 1 : Nat) : Int)))) := Lib.hid (by rw [HY.out]; exact HMe.out.2.fin)
    clear HMe HY HCG HFR HGL HB1
    go_wp2_with fail
    refine bodyPost_ret (results_none rfl _ _ _) rfl ?_
    exact ⟨rfl, HPO.out⟩
  | false =>
    have HY := Lib.hid (HYF.out rfl)
    clear HYT HYF
    go_upto_region 5 with fail
    refine gS (.take 0 (.take 1 (.take 2 (.take 3 (.take 4 (.take 5 (.take 6 (.take 7 (.take 8 (.step 9 (.nil))))))))))) (WnF w V p (j, a)) HW3.out.drew.fact ?_
    refine gT (.pointer (some ⟨V.M, 0, none⟩)) ?_; try simp only [pS]
    refine gT (.pointer (some ⟨w.heap.size + 1, 0, none⟩)) ?_; try simp only [pS]
    refine wpG_take _ (.int .i64 (j : Int)) rfl (by rfl) (fun X hX => ex_ld1 Tryz.underlying3 rfl rfl (hX.cp.cell rfl)) ?_; try simp only [pS]
    refine gT (.pointer (some ⟨V.M, 0, none⟩)) ?_; try simp only [pS]
    refine gT (.pointer (some ⟨V.M, 2, none⟩)) ?_; try simp only [pS]
    refine gT (.pointer (some ⟨V.M, 2 + j, none⟩)) ?_; try simp only [pS]
    refine wpG_take _ (.pointer (some ⟨V.R j, 0, none⟩)) rfl (by rfl) (fun X hX => w_ldP Tryz.underlying40 rfl rfl (hX.cr j HJ.out)) ?_; try simp only [pS]
    refine gT (.pointer (some ⟨w.heap.size + 1, 1, none⟩)) ?_; try simp only [pS]
    refine wpG_take _ (.int .u16 (a : Int)) rfl (by rfl) (fun X hX => ex_ld1 Tryz.underlying52 rfl rfl (hX.cp.cell rfl)) ?_; try simp only [pS]
    have hac := wact_any W3.drew (fun b => lab1 b = j + 5) (V.R j) (y1.s j) a (HW3.out.drew.m.sp j HJ.out) (fun i hi => by have := HB1.out.s j HJ.out i hi; have := HN.out; omega) H0.out HA.out
    refine wpG_call _ rfl (by rfl) 88 #[.pointer (some ⟨V.R j, 0, none⟩), .int .i64 3, .int .u16 (a : Int)] (fun _ => by go_simp) (fun u w' => (∃ z : Int, u = .int .i64 z) ∧ WnT w lab V p (j, a) { y1 with s := upk y1.s j (felt (y1.s j) a) } w') (hac.mono fun e w' ⟨⟨z, e1⟩, e2, e3⟩ => by
      obtain ⟨f1, f2⟩ := HW3.out.drew.turn (HW3.out.drew.m.stepS HJ.out e2 e3)
      exact ⟨_, e1, f1, ⟨z, rfl⟩, f2⟩) ?_
    rintro u W4 hs4 ⟨⟨z4, rfl⟩, lab4, hw4⟩
    refine ⟨_, fun _ h => h, hs4, ?_⟩; try simp only [pS]
    refine wpG_nil ?_
    obtain ⟨v, hv⟩ := hw4.looks
    have HV := Lib.hid hv
    have hmv : y1.mv.length < 1000 := by have := HB1.out.mv; have := HN.out; omega
    have HOK : Hid (∀ q ∈ y1.mv, q.OK) := Lib.hid hw4.m.ok
    obtain ⟨y4, hy4⟩ : ∃ y4, ({ y1 with s := upk y1.s j (felt (y1.s j) a) } : Wi) = y4 := ⟨_, rfl⟩
    have hmv4 : y4.mv = y1.mv := by rw [← hy4]
    have HY4 : Hid (ym = { y4 with mv := addMv y1.mv p }) := Lib.hid (by rw [← hy4]; exact HY.out)
    rw [hy4] at HV
    obtain ⟨mv, hmvq⟩ : ∃ mv, y1.mv = mv := ⟨_, rfl⟩
    rw [hmvq] at hmv4 HY4 HOK hmv
    have HM4 := Lib.hid hmv4
    obtain ⟨sp, cap, ev, hcap, hmx, -, hsrc⟩ := HV.out.src
    rw [hmv4] at ev hcap hsrc
    obtain ⟨N, hN⟩ : ∃ N, mv.length = N := ⟨_, rfl⟩
    rw [hN] at ev hcap hmv hsrc
    have HN1 := Lib.hid hN
    have HCP : Hid (N ≤ cap) := Lib.hid hcap
    have HSR := Lib.hid hsrc
    subst ev
    have HR0 : Hid ((mv.take 0).any (fun q => eqP p q) = false ∧ WnL w lab V p (j, a) lab4 y4 (.slice sp N cap) W4) := Lib.hid ⟨by simp, HV.out⟩
    have HNL : Hid (N < 1000) := Lib.hid hmv
    have c8 := HV.out.c8
    clear hs4 hw4 hac hv hy4 hmvq hmv4 hcap hmx hsrc hN hmv HY HB1 HW3 HV c8
    go_upto_region 7 with fail
    go_loopw [10] (fun i wr => ∃ k : Nat, k ≤ N ∧ i = .int .i64 (k : Int) ∧ (mv.take k).any (fun q => eqP p q) = false ∧ WnL w lab V p (j, a) lab4 y4 (.slice sp N cap) wr) (fun i _ => N - (intOf i).toNat)
    case atStart => exact ⟨0, by omega, rfl, HR0.out.1, HR0.out.2⟩
    case round =>
      clear HR0
      obtain ⟨k, hk, rfl, hno, hl⟩ := hrel
      have HNO := Lib.hid hno; have HLL := Lib.hid hl
      have c8 := hl.c8
      clear hno hl
      have wk1 := IntWalk.i64_in ((k : Int) + 1) (by have := HNL.out; omega)
      by_cases hlt : k < N
      · obtain ⟨q, hq⟩ : ∃ q, mv[k]? = some q := ⟨_, List.getElem?_eq_getElem (by have := HN1.out; omega)⟩
        obtain ⟨g, rfl, -, -⟩ := HSR.out (by omega)
        have HQ : Hid q.OK := Lib.hid (HOK.out q (List.mem_of_getElem? hq))
        have HLQ := Lib.hid (pcells_length HQ.out)
        have HRG : Hid (∀ X, WnL w lab V p (j, a) lab4 y4 (.slice (some ⟨g, 0, none⟩) N cap) X → X.rangeAt g (k * 41) (pcells q)) := Lib.hid (fun X hX => by
          obtain ⟨sp', cap', e, _, _, _, h3⟩ := hX.src
          rw [HM4.out] at e h3
          obtain ⟨g', e2, _, h4⟩ := h3 (by have := HN1.out; omega)
          injection e with e3 _ _
          rw [e2] at e3
          injection e3 with e4
          injection e4 with e5 _ _
          rw [e5]
          exact h4 k q hq)
        have HKN : Hid (k < N ∧ N ≤ cap) := Lib.hid ⟨hlt, HCP.out⟩
        have HQK := Lib.hid hq
        clear hq
        go_upto_region 9 with (first | (refine wpL_val rfl (q_ldS rfl rfl c8) ?_) | fail)
        refine gS (.take 0 (.take 1 (.take 2 (.take 3 (.take 4 (.take 5 (.take 6 (.take 7 (.take 8 (.nil)))))))))) (WnL w lab V p (j, a) lab4 y4 (.slice (some ⟨g, 0, none⟩) N cap)) HLL.out.drew ?_
        refine gT (.pointer (some ⟨V.M, 0, none⟩)) ?_; try simp only [pS]
        refine gT (.pointer (some ⟨V.M, 0, none⟩)) ?_; try simp only [pS]
        refine gT (.pointer (some ⟨V.M, 8, none⟩)) ?_; try simp only [pS]
        refine wpG_take _ (.slice (some ⟨g, 0, none⟩) N cap) rfl (by rfl) (fun X hX => q_ldS rfl rfl hX.c8) ?_; try simp only [pS]
        refine gT (.int .i64 (k : Int)) ?_; try simp only [pS]
        refine wpG_take _ (.pointer (some ⟨g, k * 41, none⟩)) rfl (by rfl) (fun X hX => q_iaP rfl rfl rfl HKN.out) ?_; try simp only [pS]
        refine wpG_take _ (.agg (pcells q).toArray) rfl (by rfl) (fun X hX => ex_ld (ty := 58) (cs := pcells q) rfl rfl (HRG.out X hX) Tryz.underlying58 rfl (by rw [sizeP, HLQ.out])) ?_; try simp only [pS]
        refine wpG_take _ (.agg (pcells p).toArray) rfl (by rfl) (fun X hX => ex_ldPq HP.out hX.s.pt rfl rfl) ?_; try simp only [pS]
        refine wpG_take _ (.bool (eqP q p)) rfl (by rfl) (fun X hX => ex_eqP rfl rfl rfl HQ.out HP.out) ?_; try simp only [pS]
        refine wpG_nil ?_
        cases hcase : eqP q p with
        | false =>
          have HN3 : Hid ((mv.take (k + 1)).any (fun q => eqP p q) = false) := Lib.hid (any_take HQK.out HNO.out (by rw [eqP_comm]; exact hcase))
          have HLD := Lib.hid HLL.out.drew
          clear c8 hcase HLL
          go_wp2_with fail
          go_roundw
          case rel => exact ⟨k + 1, by omega, by go_num, HN3.out, HLD.out⟩
          case measure => simp [intOf]; omega
        | true =>
          have HPO : Hid (WmPost w lab V ym wr.drew) := Lib.hid (by
            have hany : mv.any (fun q => eqP p q) = true := any_at HQK.out (by rw [eqP_comm]; exact hcase)
            rw [HY4.out]
            unfold addMv
            rw [if_pos hany]
            have e : ({ y4 with mv := mv } : Wi) = y4 := by rw [← HM4.out]
            rw [e]
            exact ⟨lab4, HLL.out.drew.s.m, HLL.out.drew.s.st⟩)
          clear c8 hcase HLL
          go_wp2_with fail
          refine bodyPost_ret (results_none rfl _ _ _) rfl ?_
          exact ⟨rfl, HPO.out⟩
      · obtain rfl : k = N := by omega
        have hno : mv.any (fun q => eqP p q) = false := by have := HNO.out; rw [List.take_of_length_le (by have := HN1.out; omega)] at this; exact this
        have HYE : Hid (ym = { y4 with mv := y4.mv ++ [p] }) := Lib.hid (by
          rw [HY4.out, HM4.out]
          unfold addMv
          rw [if_neg (by rw [hno]; decide)])
        have HLD := Lib.hid HLL.out.drew
        have c8d := HLD.out.c8
        obtain ⟨v', W8, hc8a, hr8, ⟨sp8, n8, cap8, rfl⟩, hc8b, hf8, hch8, hp8⟩ := HLD.out.s.m.push HP.out (by rw [HM4.out, HN1.out]; have := HNL.out; omega) c8d 43
        have HR8 := Lib.hid hr8; have HC8 := Lib.hid hc8b; have HF8 := Lib.hid hf8; have HC8D := Lib.hid c8d; have HC8A := Lib.hid hc8a
        have HPO : Hid (WmPost w lab V ym (W8.setCell ⟨V.M, 8, none⟩ (.slice sp8 n8 cap8))) := Lib.hid (by rw [HYE.out]; exact (HLD.out.s.post hp8).fin)
        have HSc : Hid (Blk W8 w.heap.size (pcells p) 58) := Lib.hid (HLD.out.s.pt.chg hch8 (fun e => by have := HLD.out.s.lp; omega))
        have HSd : Hid (Blk (W8.setCell ⟨V.M, 8, none⟩ (.slice sp8 n8 cap8)) w.heap.size (pcells p) 58) := Lib.hid (by
          obtain ⟨l9, h9⟩ := HLD.out.s.post hp8
          exact h9.pt)
        clear hr8 hc8b hf8 hch8 hp8 hc8a c8d hno HYE HNO HLL hlt wk1
        go_upto_region 10 with (first | (refine wpL_val rfl (q_ldS rfl rfl c8) ?_) | fail)
        clear c8
        have HSa : Hid (Blk wr.drew w.heap.size (pcells p) 58) := Lib.hid HLD.out.s.pt
        have HSb : Hid (Blk (wr.drew.alloc (.cells (pcells p).toArray 58)) w.heap.size (pcells p) 58) := Lib.hid (HLD.out.s.pt.alloc _)
        refine gS (.take 0 (.take 1 (.take 2 (.take 3 (.take 5 (.fork 4 (.step 6 (.step 7 (.take 8 (.take 9 (.step 10 (.nil)))))) 6 (.step 4 (.step 7 (.take 8 (.take 9 (.step 10 (.nil)))))))))))) (fun X => Blk X w.heap.size (pcells p) 58) HSa.out ?_
        refine gT (.pointer (some ⟨V.M, 0, none⟩)) ?_; try simp only [pS]
        refine gT (.pointer (some ⟨V.M, 0, none⟩)) ?_; try simp only [pS]
        refine gT (.pointer (some ⟨V.M, 0, none⟩)) ?_; try simp only [pS]
        refine gT (.pointer (some ⟨V.M, 8, none⟩)) ?_; try simp only [pS]
        refine wpG_take _ (.agg (pcells p).toArray) rfl (by rfl) (fun X hX => ex_ldPq HP.out hX rfl rfl) ?_; try simp only [pS]
        refine wpG_fork (d_wpG_mk _ rfl (by rfl) (.slice sp k cap) _ (q_ldS rfl rfl HC8D.out) (fun X => Blk X w.heap.size (pcells p) 58) HSa.out (fun _ h => h) ?_) (d_wpG_mk _ rfl (by rfl) (.slice (some ⟨wr.drew.heap.size, 0, none⟩) 1 1) _ (q_one p rfl rfl HP.out) (fun X => Blk X w.heap.size (pcells p) 58) HSb.out (fun _ h => h) ?_)
        · (try simp only [pS])
          refine d_wpG_mk _ rfl (by rfl) (.slice (some ⟨wr.drew.heap.size, 0, none⟩) 1 1) _ (q_one p rfl rfl HP.out) (fun X => Blk X w.heap.size (pcells p) 58) HSb.out (fun _ h => h) ?_; try simp only [pS]
          refine d_wpG_mk _ rfl (by rfl) (.slice sp8 n8 cap8) W8 (q_appM rfl rfl rfl HR8.out) (fun X => Blk X w.heap.size (pcells p) 58) HSc.out (fun _ h => h) ?_; try simp only [pS]
          refine gT (.pointer (some ⟨V.M, 0, none⟩)) ?_; try simp only [pS]
          refine gT (.pointer (some ⟨V.M, 8, none⟩)) ?_; try simp only [pS]
          refine wpG_st _ rfl (by rfl) _ (q_stS rfl rfl rfl HC8.out HF8.out) (fun X => Blk X w.heap.size (pcells p) 58) HSd.out HSd.out (fun _ h => h) ?_; try simp only [pS]
          refine wpG_nil ?_
          clear HR8 HC8 HF8 HC8D HC8A
          go_wp2_with fail
          go_end0
          exact ⟨rfl, HPO.out⟩
        · (try simp only [pS])
          refine d_wpG_mk _ rfl (by rfl) (.slice sp k cap) _ (q_ldS rfl rfl HC8A.out) (fun X => Blk X w.heap.size (pcells p) 58) HSb.out (fun _ h => h) ?_; try simp only [pS]
          refine d_wpG_mk _ rfl (by rfl) (.slice sp8 n8 cap8) W8 (q_appM rfl rfl rfl HR8.out) (fun X => Blk X w.heap.size (pcells p) 58) HSc.out (fun _ h => h) ?_; try simp only [pS]
          refine gT (.pointer (some ⟨V.M, 0, none⟩)) ?_; try simp only [pS]
          refine gT (.pointer (some ⟨V.M, 8, none⟩)) ?_; try simp only [pS]
          refine wpG_st _ rfl (by rfl) _ (q_stS rfl rfl rfl HC8.out HF8.out) (fun X => Blk X w.heap.size (pcells p) 58) HSd.out HSd.out (fun _ h => h) ?_; try simp only [pS]
          refine wpG_nil ?_
          clear HR8 HC8 HF8 HC8D HC8A
          go_wp2_with fail
          go_end0
          exact ⟨rfl, HPO.out⟩
end Go.Proofs.YtmgagalhpkieoaaGreatDoor
