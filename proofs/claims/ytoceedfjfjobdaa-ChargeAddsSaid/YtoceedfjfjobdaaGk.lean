/- Charge: Of. -/
import Derived.Test.YtoceedfjfjobdaaGj
namespace Go.Proofs.Ytoceedfjfjobdaa
open Go.RowKit Go.Shelf

attribute [local go_sem] Oper.semAt_some

theorem files_le : ∀ ys : List Yo, filesL ys ≤ 64 * ys.length
  | [] => by simp [filesL]
  | y :: ys => by
    have := files_le ys
    have := leaves_le y.2
    rw [filesL_cons, List.length_cons]
    split <;> omega
theorem metas_le : ∀ ys : List Yo, metasL ys ≤ 64 * ys.length
  | [] => by simp [metasL]
  | y :: ys => by
    have := metas_le ys
    have := leaves_le y.2
    rw [metasL_cons, List.length_cons]
    split <;> omega
/-- A tally of objects, in memory. -/
abbrev tly (ys : List Yo) : List Value := tls (filesL ys : Int) (metasL ys : Int) (ys.length : Int)
theorem tly_snoc (ys : List Yo) (y : Yo) (n : Nat) (hn : leavesT y.2 = n) : tls (if leafG y.1.kind = 1 then (filesL ys : Int) + (n : Int) else (filesL ys : Int)) (if leafG y.1.kind = 2 then (metasL ys : Int) + (n : Int) else (metasL ys : Int)) ((ys.length : Int) + 1) = tly (ys ++ [y]) := by
  subst hn
  unfold tly
  rw [filesL_snoc, metasL_snoc, List.length_append]
  have e1 : (if leafG y.1.kind = 1 then (filesL ys : Int) + (leavesT y.2 : Int) else (filesL ys : Int)) = ((filesL ys + (if leafG y.1.kind = 1 then leavesT y.2 else 0) : Nat) : Int) := by split <;> simp
  have e2 : (if leafG y.1.kind = 2 then (metasL ys : Int) + (leavesT y.2 : Int) else (metasL ys : Int)) = ((metasL ys + (if leafG y.1.kind = 2 then leavesT y.2 else 0) : Nat) : Int) := by split <;> simp
  rw [e1, e2]
  simp
def zeroOi : Oi := ⟨0, 0, [], none, 0⟩
theorem zeroGO : (Try.prog.info? 48).map (fun i => i.zero) = some (some (.agg (ocells zeroOi).toArray)) := by kernel_rfl
theorem KA.of_below {B : Nat} {A A' : World} (h : Below A.heap.size A A') : KA B A A' := ⟨h.size, fun k o _ hk => by
  rw [h.block k (Array.getElem?_eq_some_iff.1 hk).1]; exact hk⟩
theorem c_callR {ops : Array Oper} {rest : List Oper} {o : Oper} {a : Act} {Q : Exit → Act → World → Prop} {w : World} (f : FuncId) (args : Array Value) (v : Value) (hg : o.guard = none) (hrun : (execOp a.eval o).run Try.prog w = .ok (.enter f args) w)
    (hc : Calls Try.prog f args w (Ret w v)) (hK : ∀ W, Below w.heap.size w W → wpList Try.prog ops Q rest (a.put o.dst v) W) : wpList Try.prog ops Q (o :: rest) a w := by
  refine wpList_plain hg fun K' hK' => ?_
  unfold Oper.wp
  rw [hrun]
  refine hc.mono ?_
  rintro e W ⟨rfl, hb⟩
  exact hK' _ _ (hK W hb)
section
variable {ρ : Operand → Value} {o : Oper} {x : Operand} {w : World}
theorem ex_mv {v : Value} (ho : o.op = .move x) (hx : ρ x = v) : (execOp ρ o).run Try.prog w = .ok (.value v) w := by
  unfold execOp; simp only [ho]; go_simp
theorem ex_as {v : Value} (ho : o.op = .assign x) (hx : ρ x = v) : (execOp ρ o).run Try.prog w = .ok (.value v) w := by
  unfold execOp; simp only [ho]; go_simp
theorem ex_e0 {u v : Value} (ho : o.op = .extract x 0) (hx : ρ x = .tuple #[u, v]) : (execOp ρ o).run Try.prog w = .ok (.value u) w := by
  unfold execOp; simp only [ho]; go_simp
theorem ex_e1 {u v : Value} (ho : o.op = .extract x 1) (hx : ρ x = .tuple #[u, v]) : (execOp ρ o).run Try.prog w = .ok (.value v) w := by
  unfold execOp; simp only [ho]; go_simp
end
theorem c_nil {P : Program} {ops : Array Oper} {Q : Exit → Act → World → Prop} {a : Act} {w : World} (h : Q .normal a w) : wpList P ops Q [] a w := h
theorem c_then {K : Act → World → Prop} {Q : Exit → Act → World → Prop} {a : Act} {w : World} (h : K a w) : Exit.then K Q .normal a w := h
def OfK (gT gR : Nat) (pre : List Yi) (A : World) : Prop := Blk A gT (tly (pre.map Yi.yo)) 23 ∧ Blk A gR (tls 0 0 0) 23
theorem ofK_keeps {nS gT gR : Nat} (h1 : gT < nS) (h2 : gR < nS) : KpB nS (OfK gT gR) := fun _ _ _ h hb _ => ⟨h.1.below hb h1, h.2.below hb h2⟩
theorem ex_faG {ρ : Operand → Value} {o : Oper} {x : Operand} {w : World} {g a j : Nat} (hj : j = 0 ∨ j = 1 ∨ j = 2) (ho : o.op = .fieldAddr 48 x j) (hx : ρ x = .pointer (some ⟨g, a, none⟩)) : (execOp ρ o).run Try.prog w = .ok (.value (.pointer (some ⟨g, a + j, none⟩))) w := ex_faO hj ho hx
set_option maxRecDepth 100000 in
set_option maxHeartbeats 16000000 in
theorem of_tally (l : List Oi) (sp : Option Addr) (cap : Nat) (hc : l.length ≤ cap) (hl : l.length < 1000) (hO : ∀ o ∈ l, o.offs.length < 1000000) (w : World) (hs : SrcO w sp l) (hk : ∀ o ∈ l, o.OK w) :
    Calls Try.prog 12 #[.slice sp l.length cap] w (Ret w (.agg (tly (eachL seen0 (l.map Oi.ob))).toArray)) := by
  have HS := Lib.hid hs; have HKK := Lib.hid hk; have HL := Lib.hid hl; have HC := Lib.hid hc; have HO := Lib.hid hO
  rw [← each_map]
  generalize hPost : Ret w (.agg (tly ((eachI seen0 l).map Yi.yo)).toArray) = Post
  have HP : Hid (∀ W, Below w.heap.size w W → Post (.returned (.agg (tly ((eachI seen0 l).map Yi.yo)).toArray)) W) := Lib.hid fun W h => by rw [← hPost]; exact ⟨rfl, h⟩
  obtain ⟨N, hN⟩ : ∃ N, l.length = N := ⟨_, rfl⟩
  have HN := Lib.hid hN
  rw [hN]
  clear hs hk hl hc hO hPost hN
  refine callsIn_wide.1 (callsIn_of_wp_marks (F := Fence.wide) (n := 5) Try.func12 rfl trivial ?_ rfl)
  refine wpIn_wide.2 ?_
  simp only [Try.ntmps12, List.size_toArray, List.length_cons, List.length_nil, Nat.reduceAdd, Nat.reduceSub, Array.replicate_succ, Array.replicate_zero, List.push_toArray, List.append_toArray, List.nil_append, List.cons_append]
  go_upto_region 2 with fail
  refine (fun (k' : ∀ W, Blk W w.heap.size (tls 0 0 0) 23 → Blk W (w.heap.size + 1) (tls 0 0 0) 23 → Below w.heap.size w W → Code.wp _ _ _ _ W) => k' _ ((Blk.new' _ _ _ _ _ rfl rfl).alloc _) (Blk.new' _ _ _ _ _ (by simp) rfl) (((Below.refl _ _).alloc (Nat.le_refl _) _).alloc (by simp) _)) ?_
  intro W1 hR hT hb1
  obtain ⟨gR, hgR⟩ : ∃ g, w.heap.size = g := ⟨_, rfl⟩
  have HGR : Hid (w.heap.size = gR) := Lib.hid hgR
  rw [hgR] at hR hT ⊢
  go_wp2_with fail
  refine (each_any sp N cap W1).mono ?_
  rintro e wS ⟨rfl, hG, hbS⟩
  obtain ⟨G, hGG⟩ : ∃ G, W1.heap.size = G := ⟨_, rfl⟩
  obtain ⟨nS, hnS⟩ : ∃ n, wS.heap.size = n := ⟨_, rfl⟩
  have hR2 := hR.below hbS hR.lt
  have hT2 := hT.below hbS hT.lt
  have hGl := hG.lt
  have hTl := hT.lt
  have hsz := hb1.size
  rw [hGG] at hG hGl hTl
  rw [hnS] at hGl
  have HB : Hid (w.heap.size ≤ nS ∧ G < nS ∧ gR + 1 < nS ∧ gR < nS) := Lib.hid (by omega)
  have HLP : Hid (LpI w nS G sp cap l (OfK (gR + 1) gR) [] wS) := Lib.hid ⟨hb1.trans (hbS.mono hb1.size), by rw [HN.out]; exact hG, by omega, hT2, hR2⟩
  have HNS := Lib.hid hnS
  rw [hGG]
  clear hR hT hb1 hgR hG hbS hGG hnS hR2 hT2 hGl hTl hsz
  have HOWN := Lib.hid (ofK_keeps HB.out.2.2.1 HB.out.2.2.2)
  unfold eachV
  go_wp2_with fail
  refine (wpIn_wide (n := 5)).1 ?_
  have hnS := HNS.out
  subst hnS
  apply (wpIn_rangeFunc_k (n := 5) (w := wS) (α := Yi) rfl (by omega) (gf := 24) (lb := #[.pointer (some ⟨G, 0, none⟩)]) rfl trivial (enters_of Try.func24 (by kernel_rfl) rfl)
    (encs := yiE) (fun _ => rfl)
    (LpI w wS.heap.size G sp cap l (OfK (gR + 1) gR))
    (fun pre x A => LpI w wS.heap.size G sp cap l (OfK (gR + 1) gR) pre A ∧ ∃ r, eachI seen0 l = pre ++ x :: r)
    (Lp2 w wS.heap.size G sp cap l (OfK (gR + 1) gR) _)
    (fun _ _ _ => False)
    (lp_own HB.out.1 HB.out.2.1 HOWN.out) (lp2_own HB.out.1 HB.out.2.1 HOWN.out _) (fun _ => fun _ _ _ _ h _ _ => h.elim) HLP.out
    (each_in 4 (by omega) HC.out (by have := HL.out; omega) HO.out _ (fun pre A h => h.hd HS.out HKK.out) (fun pre A A' h hb => h.below HB.out.1 HB.out.2.1 HOWN.out hb) (fun pre A h => h.sz)) ?assign ?body ?done ?stop)
  case assign =>
    rintro lb pre x W K ⟨hI, hr⟩ hKf
    have HI := Lib.hid hI; have HR := Lib.hid hr; have HKF := Lib.hid hKf
    have hx2 : x.2.length = 64 := by
      obtain ⟨r, hr⟩ := hr
      obtain ⟨-, h2, -⟩ := eachI_ok l seen0 x (by rw [hr]; simp)
      rw [h2]; exact ownT_length _
    have HX2 := Lib.hid hx2
    clear hI hr hKf hx2
    unfold yiE
    refine wpIn_seq ?_
    refine c_regionL 3 (by kernel_rfl) (fun ⟨_, _, h⟩ => h) ?_
    simp only [List.zip_toArray, List.zip_cons_cons, List.zip_nil_right, List.foldl_toArray, List.foldl_cons, List.foldl_nil, List.setIfInBounds_toArray, List.set_cons_succ, List.set_cons_zero]
    refine c_val rfl (ex_al zeroGO rfl) ?_
    simp only [Act.put, List.setIfInBounds_toArray, List.set_cons_succ, List.set_cons_zero]
    refine c_stR (cs := ocells x.1) (Blk.new W (ocells zeroOi) 48) rfl rfl rfl rfl sizeO rfl rfl ?_
    intro W4 hR4 hc4
    refine c_nil (c_then ?_)
    simp only [Act.put, List.setIfInBounds_toArray, List.set_cons_succ, List.set_cons_zero]
    refine c_regionL 4 (by kernel_rfl) (fun ⟨_, _, h⟩ => h) ?_
    refine c_val rfl (ex_al zeroTr rfl) ?_
    simp only [Act.put, List.setIfInBounds_toArray, List.set_cons_succ, List.set_cons_zero]
    refine c_stR (cs := bcs x.2) (Blk.new W4 (bcs zeroT) 51) rfl rfl rfl rfl (by rw [List.length_map, HX2.out]; exact sizeTr) (by rw [List.length_map, List.length_map, HX2.out]; rfl) (one_bcs _) ?_
    intro W5 hR5 hc5
    refine c_nil (c_then ?_)
    simp only [Act.put, List.setIfInBounds_toArray, List.set_cons_succ, List.set_cons_zero]
    have b4 : Below W.heap.size W W4 := ((Below.refl _ _).alloc (Nat.le_refl _) _).trans (hc4.below (fun k e => by omega) (by simp))
    have b5 : Below W4.heap.size W4 W5 := ((Below.refl _ _).alloc (Nat.le_refl _) _).trans (hc5.below (fun k e => by omega) (by simp))
    have b6 := b4.trans (b5.mono b4.size)
    have hsz := HI.out.sz
    have h1 := hR4.below b5 hR4.lt
    have h4 := b4.size
    obtain ⟨g1, hg1⟩ : ∃ g, W.heap.size = g := ⟨_, rfl⟩
    obtain ⟨g2, hg2⟩ : ∃ g, W4.heap.size = g := ⟨_, rfl⟩
    have HIn := HI.out.below HB.out.1 HB.out.2.1 HOWN.out (b6.mono hsz)
    refine HKF.out _ _ (KA.of_below b6) ?_
    rw [hg1] at h1
    rw [hg2] at hR5
    rw [hg1, hg2]
    exact ⟨g1, g2, rfl, by omega, by omega, h1, hR5, HIn, HR.out⟩
  case body =>
    rintro lb pre x a' W ⟨g1, g2, rfl, hg1, hg2, hb1, hb2, hI, r, hr⟩
    have hpx : (pre ++ [x]).length ≤ l.length := by
      have h1 := eachI_le l seen0
      rw [hr] at h1
      simp at h1 ⊢
      omega
    have hx2 : x.2.length = 64 := by
      obtain ⟨-, h2, -⟩ := eachI_ok l seen0 x (by rw [hr]; simp)
      rw [h2]; exact ownT_length _
    have HX2 := Lib.hid hx2; have HPX := Lib.hid hpx
    have HI := Lib.hid hI; have HG1 := Lib.hid hg1; have HG2 := Lib.hid hg2; have HB1 := Lib.hid hb1; have HB2 := Lib.hid hb2
    have HNL : Hid (leavesT x.2 ≤ 64) := Lib.hid (leaves_le _)
    have hf := files_le (pre.map Yi.yo)
    have hm := metas_le (pre.map Yi.yo)
    have hpl : pre.length < 1000 := by have := HL.out; simp at hpx; omega
    rw [List.length_map] at hf hm
    have HIN : Hid (In33 (filesL (pre.map Yi.yo) : Int) (metasL (pre.map Yi.yo) : Int) ((pre.map Yi.yo).length : Int)) := Lib.hid (by
      rw [List.length_map]
      unfold In33
      omega)
    have HSN := Lib.hid (tly_snoc (pre.map Yi.yo) x.yo (leavesT x.2) rfl)
    clear hpx hx2 hg1 hg2 hb1 hb2 hI hr hf hm hpl
    dsimp only
    refine wpIn_block ?_
    refine wpIn_seq ?_
    refine c_regionL 5 (by kernel_rfl) (fun ⟨_, _, h⟩ => h) ?_
    refine c_val rfl (c_ldTr HX2.out HB2.out rfl rfl) ?_
    simp only [Act.put, List.setIfInBounds_toArray, List.set_cons_succ, List.set_cons_zero]
    refine c_callR 23 (#[.agg (bcs x.2).toArray]) (.tuple #[.int .i64 (leavesT x.2 : Int), .int .i64 (nodesT x.2 : Int)]) rfl (by go_simp) (count_any x.2 HX2.out _) ?_
    intro W2 hw2
    simp only [Act.put, List.setIfInBounds_toArray, List.set_cons_succ, List.set_cons_zero]
    refine c_val rfl (ex_mv (v := .tuple #[.int .i64 (leavesT x.2 : Int), .int .i64 (nodesT x.2 : Int)]) rfl rfl) ?_
    simp only [Act.put, List.setIfInBounds_toArray, List.set_cons_succ, List.set_cons_zero]
    refine c_val rfl (ex_e0 (u := .int .i64 (leavesT x.2 : Int)) (v := .int .i64 (nodesT x.2 : Int)) rfl rfl) ?_
    simp only [Act.put, List.setIfInBounds_toArray, List.set_cons_succ, List.set_cons_zero]
    refine c_val rfl (ex_e1 (u := .int .i64 (leavesT x.2 : Int)) (v := .int .i64 (nodesT x.2 : Int)) rfl rfl) ?_
    simp only [Act.put, List.setIfInBounds_toArray, List.set_cons_succ, List.set_cons_zero]
    refine c_val rfl (ex_as (v := .int .i64 (leavesT x.2 : Int)) rfl rfl) ?_
    simp only [Act.put, List.setIfInBounds_toArray, List.set_cons_succ, List.set_cons_zero]
    refine c_val rfl (ex_as (v := .int .i64 (nodesT x.2 : Int)) rfl rfl) ?_
    simp only [Act.put, List.setIfInBounds_toArray, List.set_cons_succ, List.set_cons_zero]
    refine c_nil (c_then ?_)
    have hI2 := HI.out.below HB.out.1 HB.out.2.1 HOWN.out (hw2.mono HI.out.sz)
    have HK2 := Lib.hid hI2.k.1
    have HO2 := Lib.hid (HB1.out.below hw2 HB1.out.lt)
    refine c_regionL 6 (by kernel_rfl) (fun ⟨_, _, h⟩ => h) ?_
    refine c_val rfl (c_ldT HK2.out rfl rfl) ?_
    simp only [Act.put, List.setIfInBounds_toArray, List.set_cons_succ, List.set_cons_zero]
    refine c_val rfl (ex_faG (a := 0) (j := 1) (by decide) rfl rfl) ?_
    simp only [Act.put, List.setIfInBounds_toArray, List.set_cons_succ, List.set_cons_zero]
    refine c_val rfl (ex_ldB8 rfl rfl (HO2.out.cell (j := 1) rfl)) ?_
    simp only [Act.put, List.setIfInBounds_toArray, List.set_cons_succ, List.set_cons_zero]
    refine c_val rfl (ex_mv (v := .int .i64 (leavesT x.2 : Int)) rfl rfl) ?_
    simp only [Act.put, List.setIfInBounds_toArray, List.set_cons_succ, List.set_cons_zero]
    refine c_callR 5 (#[tlv (filesL (pre.map Yi.yo) : Int) (metasL (pre.map Yi.yo) : Int) ((pre.map Yi.yo).length : Int), .int .u8 (x.1.kind : Int), .int .i64 (leavesT x.2 : Int), .int .i64 1]) (.agg (tly (pre.map Yi.yo ++ [x.yo])).toArray) rfl (by go_simp) (by rw [← HSN.out]; exact with_any _ _ _ _ 1 x.1.kind HIN.out (by have := HNL.out; omega) (by omega) _) ?_
    intro W3 hw3
    simp only [Act.put, List.setIfInBounds_toArray, List.set_cons_succ, List.set_cons_zero]
    have hK3 := HK2.out.below hw3 HK2.out.lt
    refine c_stR (cs := tly (pre.map Yi.yo ++ [x.yo])) hK3 rfl rfl rfl rfl infoT rfl rfl ?_
    intro W4 hT4 hc4
    refine c_nil ?_
    have h23 := hw2.trans (hw3.mono hw2.size)
    have hI3 := HI.out.below HB.out.1 HB.out.2.1 HOWN.out (h23.mono HI.out.sz)
    have hF : ∀ k, k = gR + 1 → w.heap.size ≤ k := fun k e => by have := HGR.out; omega
    have hGne : ¬ G = gR + 1 := hI3.box.not hI3.k.1 (by decide)
    refine ⟨(KA.of_below h23).trans (KA.of_chg hc4 (fun k e => by have := HB.out.2.2.1; omega)), hI3.bel.trans (hc4.below hF hI3.bel.size), hI3.box.chg hc4 hGne, Nat.le_trans hI3.sz hc4.size, ?_, hI3.k.2.chg hc4 (by omega)⟩
    rw [List.map_append]
    exact hT4
  case done =>
    intro Dd ys W hD hS hI hK
    subst hS
    have h1 := hI.k.1
    have h2 := hI.k.2
    have HT := Lib.hid h1; have HR := Lib.hid h2; have HBL := Lib.hid hI.bel; have HK := Lib.hid hK
    clear hI h1 h2
    go_wp2_with (first | (refine c_val rfl (c_ldT HT.out rfl rfl) ?_) | (refine c_stR (cs := tly ((eachI seen0 l).map Yi.yo)) HR.out rfl rfl rfl rfl infoT rfl rfl ?_; intro W9 hR9 hc9) | fail)
    have hk9 : W9.heap[Dd]? = some (.deferred (some [])) := by
      rw [hc9.block Dd (Array.getElem?_eq_some_iff.1 HK.out).1 (fun e => by have := HB.out.2.2.2; omega)]
      exact HK.out
    have hg := grownBy_putObj' W9 Dd (.deferred none)
    have hr : ∀ r, some Dd = some r → wS.heap.size ≤ r ∧ ∃ o : Obj, W9.heap[r]? = some o ∧ o.isCells = false := fun r e => by cases e; exact ⟨hD, _, hk9, rfl⟩
    have hRX := blk_grown hg (fun r e => (hr r e).2) hR9
    have hbl := HBL.out.trans (hc9.below (fun k e => by have := HGR.out; omega) HBL.out.size)
    have hbl2 := hbl.trans (below_grown hg (fun r e => Nat.le_trans HB.out.1 (hr r e).1) hbl.size)
    refine ⟨by simp, .inl ⟨_, _, rfl, run_takeDeferred hk9, ?_⟩⟩
    exact ⟨_, results_cell_row Try.results12 _ _ gR 23 _ _ _ rfl hRX Try.underlying23 rfl infoT, HP.out _ hbl2⟩
  case stop => rintro Dd c pre W hD - h; exact h.elim
end Go.Proofs.Ytoceedfjfjobdaa
