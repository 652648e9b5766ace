/- TableTops, walked. -/
import Derived.Test.YtjgjohdeeeoeoaaGreatDoorM41
import Derived.Test.YtjgjohdeeeoeoaaGreatDoorM28
import Derived.Test.YtjgjohdeeeoeoaaGreatDoorM06
namespace Go.Proofs.YtjgjohdeeeoeoaaGreatDoor
open Go.RowKit
attribute [local go_sem] Oper.semAt_some
structure TopW (p : Pt) (l : Bs) (sp : Option Addr) (w W : World) : Prop where
  p : Blk W w.heap.size (pcells p) 28
  src : SrcA W sp l
  tab : RTab W
  bel : Below w.heap.size w W
theorem TopW.grown {p : Pt} {l : Bs} {sp : Option Addr} {w W W' : World} (h : TopW p l sp w W) (hb : Below W.heap.size W W') : TopW p l sp w W' :=
  ⟨h.p.below hb h.p.lt, h.src.grown hb, h.tab.grown hb, h.bel.trans (hb.mono h.bel.size)⟩
theorem ex_eqTz {ρ : Operand → Value} {o : Oper} {a b : Operand} {w : World} {x : Tpp} (hx : x.2.OK) (ho : o.op = .binOp .eql 36 a b 36) (ha : ρ a = .agg (tpc x).toArray) (hb : ρ b = .agg (tpc x).toArray) :
    (execOp ρ o).run Tryz.prog w = .ok (.value (.bool true)) w := by
  have h := ex_eqTp (w := w) hx hx ho ha hb
  rw [eqP_same] at h
  simpa using h
theorem tt_fine {t : Tpp} (h : t.OK) (hf : fineP t.2 = true) : ttE (topB t) = 0 ∧ ttV (topB t) = t := by
  obtain ⟨h1, h2, h3⟩ := top_back h
  rw [hf] at h1
  refine ⟨by unfold ttE; rw [if_pos h1], ?_⟩
  unfold ttV
  rw [if_pos h1, h2, h3]
theorem tt_ill {t : Tpp} (h : t.OK) (hf : fineP t.2 = false) : ttE (topB t) = 5 ∧ ttV (topB t) = zeroT := by
  obtain ⟨h1, h2, h3⟩ := top_back h
  rw [hf] at h1
  exact ⟨by unfold ttE; rw [if_neg (by rw [h1]; decide)], by unfold ttV; rw [if_neg (by rw [h1]; decide)]⟩
theorem tt_good {b : Bs} (h : ttOk b = true) : ttE b = 0 ∧ topB (ttV b) = b :=
  ⟨by unfold ttE; rw [if_pos h], by unfold ttV; rw [if_pos h]; exact top_take h⟩
theorem tt_bad {b : Bs} (h : ttOk b = false) : ttE b = 5 ∧ ttV b = zeroT :=
  ⟨by unfold ttE; rw [if_neg (by rw [h]; decide)], by unfold ttV; rw [if_neg (by rw [h]; decide)]⟩
theorem ex_neSs {ρ : Operand → Value} {o : Oper} {x y : Operand} {k : TypeId} {a : Bs} {w : World} (ho : o.op = .binOp .neq 9 x y k) (hx : ρ x = .string (bstr a)) (hy : ρ y = .string (bstr a)) : (execOp ρ o).run Tryz.prog w = .ok (.value (.bool false)) w :=
  ex_neS ho hx hy (by rw [decide_eq_true rfl]; rfl)
theorem ex_eqSs {ρ : Operand → Value} {o : Oper} {x y : Operand} {k : TypeId} {a : Bs} {w : World} (ho : o.op = .binOp .eql 9 x y k) (hx : ρ x = .string (bstr a)) (hy : ρ y = .string (bstr a)) : (execOp ρ o).run Tryz.prog w = .ok (.value (.bool true)) w := by
  have h := ex_eql (w := w) ho hx hy
  rw [decide_eq_true rfl] at h
  exact h
@[irreducible] def holdL (ops : Array Oper) (Q : Exit → Act → World → Prop) (l : List Oper) (a : Act) (w : World) : Prop := wpList Tryz.prog ops Q l a w
theorem hold_in {ops : Array Oper} {Q : Exit → Act → World → Prop} {l : List Oper} {a : Act} {w : World} (h : holdL ops Q l a w) : wpList Tryz.prog ops Q l a w := by unfold holdL at h; exact h
theorem hold_out {ops : Array Oper} {Q : Exit → Act → World → Prop} {l : List Oper} {a : Act} {w : World} (h : wpList Tryz.prog ops Q l a w) : holdL ops Q l a w := by unfold holdL; exact h
theorem q_valS {ops : Array Oper} {rest : List Oper} {o : Oper} {a : Act} {Q : Exit → Act → World → Prop} {w : World} (v : Value) (hw : Region.wanted o (yielded ops a.tmps) = true) (hrun : (execOp a.eval o).run Tryz.prog w = .ok (.value v) w)
    (hK : holdL ops Q rest (a.put o.dst v) w) : holdL ops Q (o :: rest) a w := hold_out (wpL_valG hw hrun (hold_in hK))
theorem qV {ops : Array Oper} {rest : List Oper} {o : Oper} {a : Act} {Q : Exit → Act → World → Prop} {w : World} (v : Value) (hK : holdL ops Q rest (a.put o.dst v) w) (hw : Region.wanted o (yielded ops a.tmps) = true := by rfl) (hrun : (execOp a.eval o).run Tryz.prog w = .ok (.value v) w := by first | rfl | go_simp) : holdL ops Q (o :: rest) a w := q_valS v hw hrun hK
theorem q_skipG {ops : Array Oper} {rest : List Oper} {o : Oper} {a : Act} {Q : Exit → Act → World → Prop} {w : World} (hw : Region.wanted o (yielded ops a.tmps) = false)
    (hK : holdL ops Q rest (a.put o.dst undef) w) : holdL ops Q (o :: rest) a w := by
  refine hold_out ?_
  unfold wpList
  rw [if_neg (by rw [hw]; decide)]
  exact hold_in hK
theorem ex_neI {ρ : Operand → Value} {o : Oper} {x y : Operand} {k : IntKind} {a b : Int} {w : World} {ty : TypeId} (hab : ¬ a = b) (hu : Tryz.prog.underlying ty = some (.int k)) (ho : o.op = .binOp .neq ty x y ty) (hx : ρ x = .int k a) (hy : ρ y = .int k b) : (execOp ρ o).run Tryz.prog w = .ok (.value (.bool true)) w := by
  have h := ex_nei (w := w) hu ho hx hy
  rw [decide_eq_false hab] at h
  exact h
set_option maxRecDepth 100000 in
set_option maxHeartbeats 16000000 in
theorem tableTops_go (t : Tpp) (h : t.OK) (l : Bs) (sp : Option Addr) (cap : Nat) (hc : l.length ≤ cap) (hz : sp = none → cap = 0) (hl : l.length ≤ 600) (w : World) (hS : SrcA w sp l) (hT : RTab w) :
    Calls Tryz.prog 3 #[.int .u64 (t.1 : Int), .agg (pcells t.2).toArray, .slice sp l.length cap] w fun e w' => e = .returned (.bool true) ∧ Below w.heap.size w w' := by
  have HP := Lib.hid h
  have HX : Hid (TopW t.2 l sp w (w.alloc (.cells (pcells t.2).toArray 28))) := Lib.hid (by
    have hb : Below w.heap.size w (w.alloc (.cells (pcells t.2).toArray 28)) := (Below.refl _ _).alloc (Nat.le_refl _) _
    exact ⟨Blk.new _ _ _, hS.grown hb, hT.grown hb, hb⟩)
  have HTK : Hid (∀ W, SrcA W sp l → RTab W → Calls Tryz.prog 11 #[.slice sp l.length cap] W (TtPost l W)) := Lib.hid fun W h1 h2 => takeTop_any l sp cap W hl hc hz h1 h2
  have HLT : Hid (l.length = 512 → ∀ W, SrcA W sp l → Calls Tryz.prog 13 #[.slice sp 512 cap] W fun e w' => e = .returned (.agg (tpc (lawT l)).toArray) ∧ Below W.heap.size W w') := Lib.hid fun e W h1 => lawTop_any l sp cap W e hc hz h1
  obtain ⟨L, hL⟩ : ∃ L, l.length = L := ⟨_, rfl⟩
  have HL := Lib.hid hL
  rw [hL] at HTK HLT ⊢
  have i1 : ¬ ((600 : Int) < (L : Int)) := by omega
  have HWK : Hid (∀ W, Below w.heap.size w W → RTab W → Calls Tryz.prog 6 #[] W fun e w' => e = .returned (.bool true) ∧ Below w.heap.size w w') := Lib.hid fun W hb ht => (ulwakes_any W ht).mono fun e w' ⟨h1, h2⟩ => ⟨h1, hb.trans (h2.mono hb.size)⟩
  have HSZ0 := Lib.hid (size_tp zeroP_ok : (Tryz.prog.info? 36).map (·.size) = some (tpc zeroT).toArray.size)
  have HSZT := Lib.hid (size_tp HP.out.2)
  have HLZ0 : Hid ((tpc zeroT).toArray.size = 42) := Lib.hid (by rw [List.size_toArray]; exact tpc_length zeroP_ok)
  have HLZT : Hid ((tpc t).toArray.size = 42) := Lib.hid (by rw [List.size_toArray]; exact tpc_length HP.out.2)
  generalize hPost : (fun e w' => e = Ending.returned (.bool true) ∧ Below w.heap.size w w') = Post
  have HPP : Hid (∀ w', Below w.heap.size w w' → Post (.returned (.bool true)) w') := Lib.hid fun w' h => by rw [← hPost]; exact ⟨rfl, h⟩
  clear h hc hz hS hT hL hPost hl
  go_enter Tryz.func3, Tryz.ntmps3
  go_upto_region 3 with fail
  refine (fun (k : ∀ W, TopW t.2 l sp w W → Code.wp _ _ _ _ W) => k _ HX.out) ?_
  intro W1 hx1
  have HX1 := Lib.hid (hx1.grown (Below.refl _ _).drew)
  obtain ⟨B0, hB0⟩ : ∃ n, W1.drew.heap.size = n := ⟨_, rfl⟩
  have HN0 := Lib.hid hB0
  clear hx1 HX hB0
  refine gS ((.take 0 (.take 2 (.step 1 (.step 3 (.step 4 (.step 5 (.take 6 (.nil))))))))) (fun X => Below B0 W1.drew X) (Below.refl _ _) ?_
  refine gT (.int .u64 (t.1 : Int)) ?_; try simp only [pS]
  refine wpG_take _ (.agg (pcells t.2).toArray) rfl (by rfl) (fun X hX => ex_ldP HP.out.2 (HX1.out.grown (HN0.out.symm ▸ hX)).p rfl rfl) ?_; try simp only [pS]
  refine wpG_call _ rfl (by rfl) 8 #[.int .u64 (t.1 : Int), .int .i64 8] (fun X => by go_simp) (fun u X => OwnB X B0 u (leb t.1 8)) ((wNum_any t.1 8 W1.drew (by omega) HP.out.1).mono fun e X ⟨v, e1, e2, e3⟩ => ⟨v, e1, HN0.out ▸ e3, HN0.out ▸ e2⟩) ?_
  rintro u1 Y1 hb1 ho1
  refine ⟨fun X => Below B0 W1.drew X, fun _ h => h, hb1, ?_⟩; try simp only [pS]
  refine wpG_call _ rfl (by rfl) 9 #[.agg (pcells t.2).toArray] (fun X => by go_simp) (fun u X => OwnB X Y1.heap.size u (padB t.2) ∧ OwnB X B0 u1 (leb t.1 8)) ((qbytes_any t.2 HP.out.2 Y1).mono fun e X ⟨v, e1, e2, e3⟩ => ⟨v, e1, hb1.trans (e3.mono (HN0.out ▸ hb1.size)), e2, ho1.below e3 (Nat.le_refl _)⟩) ?_
  rintro u2 Y2 hb2 ⟨ho2, ho1'⟩
  have hsz2 : B0 ≤ Y2.heap.size := HN0.out ▸ hb2.size
  obtain ⟨v3, Y3, hr3, ho3, hb3⟩ := own_app2 ho1' ho2 hsz2 (by rw [leb_length, padB_length HP.out.2]; omega) 29
  have hb3' : Below B0 W1.drew Y3 := hb2.trans hb3
  have hn3 : (leb t.1 8 ++ padB t.2).length = 72 := tpre_len HP.out.2
  obtain ⟨sp3, cap3, e3, q1, q2, q3, q4, q5⟩ := OwnB.form ho3
  have hfl := wFillR_any (leb t.1 8 ++ padB t.2) sp3 cap3 512 Y3 (by rw [hn3]; omega) (by omega) q1 q4 q3
  rw [hn3] at e3 hfl
  subst e3
  refine ⟨fun X => Below B0 W1.drew X, fun _ h => h, hb2, ?_⟩; try simp only [pS]
  refine wpG_mk _ rfl (by rfl) (.slice sp3 72 cap3) Y3 (ex_appB rfl rfl rfl hr3) (fun X => Below B0 W1.drew X) hb3' (fun _ h => h) ?_; try simp only [pS]
  refine wpG_call _ rfl (by rfl) 7 #[.slice sp3 72 cap3, .int .i64 512] (fun X => by go_simp) (fun u X => OwnB X B0 u (topB t)) (hfl.mono fun e X ⟨v, e1, e2, e3⟩ => ⟨v, e1, hb3'.trans (e3.mono (HN0.out ▸ hb3'.size)), e2.mono (HN0.out ▸ hb3'.size)⟩) ?_
  rintro u4 Y4 hb4 ho4
  have hlt : (topB t).length = 512 := topB_len HP.out.2
  obtain ⟨sp4, cap4, e4, -, -, q3', -, -⟩ := OwnB.form ho4
  rw [hlt] at e4
  subst e4
  have HS4 := Lib.hid q3'; have HTL := Lib.hid hlt
  have HX4 := Lib.hid (HX1.out.grown (HN0.out.symm ▸ hb4))
  refine ⟨fun X => Below B0 W1.drew X, fun _ h => h, hb4, ?_⟩
  clear hb1 ho1 hb2 ho2 ho1' hsz2 hr3 ho3 hb3 hb3' hn3 q1 q2 q3 q4 q5 hfl hb4 ho4 hlt q3' HX1 HN0; try simp only [pS]
  refine gT (.slice sp4 512 cap4) ?_; try simp only [pS]
  refine wpG_nil ?_
  have HPU := Lib.hid (putTop_any t HP.out Y4)
  go_wp2_with (first | (refine wpL_valG (by rfl) (ex_ldP HP.out.2 HX4.out.p rfl rfl) ?_) | (refine wpL_valG (by rfl) (ex_bldTp (f := t.1) HP.out.2 rfl rfl rfl) ?_) | fail)
  refine HPU.out.mono ?_
  rintro e W5 ⟨v5, rfl, ho5, hb5⟩
  obtain ⟨sp5, cap5, e5, c5, -, s5, z5, -⟩ := OwnB.form ho5
  have htk := fun W => takeTop_any (topB t) sp5 cap5 W (by rw [HTL.out]; omega) c5 z5
  rw [HTL.out] at e5 htk
  subst e5
  have HTK5 := Lib.hid htk
  have HS5 := Lib.hid s5
  have HX5 := Lib.hid (HX4.out.grown hb5)
  have HS45 := Lib.hid (HS4.out.grown hb5)
  clear ho5 hb5 c5 s5 z5 htk HPU HX4 HS4
  go_wp2_with fail
  refine (HTK5.out _ HS5.out HX5.out.tab).mono ?_
  rintro e W6 ⟨rfl, hb6⟩
  have HX6 := Lib.hid (HX5.out.grown hb6); have HS46 := Lib.hid (HS45.out.grown hb6); have HS56 := Lib.hid (HS5.out.grown hb6)
  clear hb6 HX5 HS45 HS5 HTK5
  cases he0 : eqP t.2 zeroP
  · have HE0 := Lib.hid he0
    cases hm : mayR t.2
    · have HM := Lib.hid hm
      obtain ⟨hte, htv⟩ := tt_ill HP.out (by unfold fineP; rw [he0, mayP_eq HP.out.2.len, hm]; rfl)
      clear he0 hm
      rw [hte, htv, show ((5 : Nat) : Int) = (5 : Int) from rfl]
      clear hte htv
      go_upto_region 6 with (first | (refine wpList_store_row rfl 36 (.tmp 9) (.tmp 31) rfl W6.heap.size (tpc zeroT).toArray rfl rfl 36 _ (heap_alloc_new W6 _) HSZ0.out (by rw [HLZ0.out]; rfl) (one_tpc zeroT) ?_) | fail)
      refine (fun (k : ∀ W, Blk W W6.heap.size (tpc zeroT) 36 → Below W6.heap.size W6 W → Code.wp _ _ _ _ W) => k _ (blk_row1 W6 _ (tpc zeroT) 36).1 (blk_row1 W6 _ (tpc zeroT) 36).2) ?_
      intro W7 hx7 hb7
      obtain ⟨g7, hg7⟩ : ∃ g, W6.heap.size = g := ⟨_, rfl⟩
      have HX7 := Lib.hid (HX6.out.grown hb7); have HS47 := Lib.hid (HS46.out.grown hb7); have HS57 := Lib.hid (HS56.out.grown hb7)
      rw [hg7] at hx7 ⊢
      have HB7 := Lib.hid hx7
      clear hx7 hb7 hg7 HX6 HS46 HS56
      go_wp2_with (first | (refine wpL_valG (by rfl) (ex_ldP HP.out.2 HX7.out.p rfl rfl) ?_) | (refine wpL_valG (by rfl) (ex_bld0 rfl) ?_) | (refine wpL_valG (by rfl) (ex_eqPb HE0.out rfl rfl rfl HP.out.2 zeroP_ok) ?_) | fail)
      refine (qmay_any t.2 HP.out.2 W7).mono ?_
      rintro e W8 ⟨rfl, hb8⟩
      rw [HM.out]
      have HB8 := Lib.hid (HB7.out.below hb8 HB7.out.lt); have HX8 := Lib.hid (HX7.out.grown hb8); have HS48 := Lib.hid (HS47.out.grown hb8); have HS58 := Lib.hid (HS57.out.grown hb8)
      clear hb8 HB7 HX7 HS47 HS57 HE0 HM
      go_upto_region 7 with fail
      refine wp_region_list (hold_in ?_)
      refine qV (.slice sp5 512 cap5) ?_; try simp only [pS]
      refine q_valS (.string (bstr (topB t))) (by rfl) (ex_cvs rfl HTL.out rfl HS58.out) ?_; try simp only [pS]
      refine qV (.slice sp4 512 cap4) ?_; try simp only [pS]
      refine q_valS (.string (bstr (topB t))) (by rfl) (ex_cvs rfl HTL.out rfl HS48.out) ?_; try simp only [pS]
      refine q_valS (.bool false) (by rfl) (ex_neSs rfl rfl rfl) ?_; try simp only [pS]
      refine qV (.bool false) ?_; try simp only [pS]
      refine qV (.int .i64 5) ?_; try simp only [pS]
      refine qV (.bool false) ?_; try simp only [pS]
      refine qV (.bool false) ?_; try simp only [pS]
      refine qV (.bool false) ?_; try simp only [pS]
      refine qV (.bool false) ?_; try simp only [pS]
      refine qV (.bool false) ?_; try simp only [pS]
      refine qV (.bool false) ?_; try simp only [pS]
      refine qV (.bool false) ?_; try simp only [pS]
      refine q_skipG (by rfl) ?_; try simp only [pS]
      refine q_skipG (by rfl) ?_; try simp only [pS]
      refine q_skipG (by rfl) ?_; try simp only [pS]
      refine q_skipG (by rfl) ?_; try simp only [pS]
      refine q_skipG (by rfl) ?_; try simp only [pS]
      refine qV (.bool false) ?_; try simp only [pS]
      refine qV (.bool false) ?_; try simp only [pS]
      refine qV (.bool false) ?_; try simp only [pS]
      refine qV (.bool false) ?_; try simp only [pS]
      refine qV (.bool true) ?_; try simp only [pS]
      refine qV (.bool true) ?_; try simp only [pS]
      refine qV (.int .i64 5) ?_; try simp only [pS]
      refine qV (.bool false) ?_; try simp only [pS]
      refine qV (.bool false) ?_; try simp only [pS]
      refine q_valS (.agg (tpc zeroT).toArray) (by rfl) (ex_ldTp (t := zeroT) zeroP_ok HB8.out rfl rfl) ?_; try simp only [pS]
      refine q_valS (.agg (tpc zeroT).toArray) (by rfl) (ex_bldT0 rfl) ?_; try simp only [pS]
      refine q_valS (.bool false) (by rfl) (ex_neTp (x := zeroT) zeroP_ok rfl rfl rfl) ?_; try simp only [pS]
      refine qV (.bool false) ?_; try simp only [pS]
      refine qV (.bool false) ?_; try simp only [pS]
      refine qV (.bool false) ?_; try simp only [pS]
      refine hold_out ?_
      clear HB8 HS48 HS58
      go_upto_region 9 with fail
      go_wp2_with fail
      refine (HTK.out _ HX8.out.src HX8.out.tab).mono ?_
      rintro e W10 ⟨rfl, hb10⟩
      have HX10 := Lib.hid (HX8.out.grown hb10)
      clear hb10 HX8 HTK
      cases hok : ttOk l
      · obtain ⟨hte, htv⟩ := tt_bad hok
        rw [hte, htv, show ((5 : Nat) : Int) = (5 : Int) from rfl]
        have HOK := Lib.hid hok
        clear hte htv hok
        go_upto_region 11 with (first | (refine wpList_store_row rfl 36 (.tmp 12) (.tmp 77) rfl W10.heap.size (tpc zeroT).toArray rfl rfl 36 _ (heap_alloc_new W10 _) HSZ0.out (by rw [HLZ0.out]; rfl) (one_tpc zeroT) ?_) | fail)
        refine (fun (k : ∀ W, Blk W W10.heap.size (tpc zeroT) 36 → Below W10.heap.size W10 W → Code.wp _ _ _ _ W) => k _ (blk_row1 W10 _ (tpc zeroT) 36).1 (blk_row1 W10 _ (tpc zeroT) 36).2) ?_
        intro W11 hx11 hb11
        obtain ⟨g11, hg11⟩ : ∃ g, W10.heap.size = g := ⟨_, rfl⟩
        have HX11 := Lib.hid (HX10.out.grown hb11)
        rw [hg11] at hx11 ⊢
        have HB11 := Lib.hid hx11
        clear hx11 hb11 hg11 HX10
        have hs0 : TopW t.2 l sp w W11.drew ∧ Blk W11.drew g11 (tpc zeroT) 36 := ⟨HX11.out.grown (Below.refl _ _).drew, HB11.out.drew⟩
        by_cases h5 : L = 512
        · subst h5
          have hn : topB (lawT l) ≠ l := lawT_no HOK.out HL.out
          have hll := HLT.out rfl
          have hlk := topB_len (lawT_ok l).2
          refine gS ((.take 0 (.take 1 (.take 2 (.take 3 (.take 4 (.take 5 (.take 6 (.take 7 (.take 8 (.take 9 (.take 10 (.take 11 (.take 12 (.take 16 (.take 17 (.step 13 (.step 14 (.take 15 (.take 18 (.take 19 (.take 20 (.take 21 (.step 22 (.take 23 (.take 24 (.nil))))))))))))))))))))))))))) (fun X => TopW t.2 l sp w X ∧ Blk X g11 (tpc zeroT) 36) (hs0) ?_
          refine gT (.int .i64 5) ?_; try simp only [pS]
          refine gT (.bool true) ?_; try simp only [pS]
          refine gT (.bool true) ?_; try simp only [pS]
          refine wpG_take _ (.agg (tpc zeroT).toArray) rfl (by rfl) (fun X hX => ex_ldTp (t := zeroT) zeroP_ok hX.2 rfl rfl) ?_; try simp only [pS]
          refine wpG_take _ (.agg (tpc zeroT).toArray) rfl (by rfl) (fun X hX => ex_bldT0 rfl) ?_; try simp only [pS]
          refine wpG_take _ (.bool true) rfl (by rfl) (fun X hX => ex_eqTz (x := zeroT) zeroP_ok rfl rfl rfl) ?_; try simp only [pS]
          refine gT (.bool true) ?_; try simp only [pS]
          refine gT (.bool true) ?_; try simp only [pS]
          refine gT (.slice sp 512 cap) ?_; try simp only [pS]
          refine gT (.int .i64 512) ?_; try simp only [pS]
          refine gT (.bool false) ?_; try simp only [pS]
          refine gT (.bool false) ?_; try simp only [pS]
          refine gT (.slice sp 512 cap) ?_; try simp only [pS]
          refine gT (.slice sp 512 cap) ?_; try simp only [pS]
          refine wpG_take _ (.string (bstr l)) rfl (by rfl) (fun X hX => ex_cvs rfl HL.out rfl hX.1.src) ?_; try simp only [pS]
          refine wpG_call _ rfl (by rfl) 13 #[.slice sp 512 cap] (fun X => by go_simp) (fun u X => u = .agg (tpc (lawT l)).toArray) ((hll _ hs0.1.src).mono fun e X ⟨e1, e2⟩ => ⟨_, e1, ⟨hs0.1.grown e2, hs0.2.below e2 hs0.2.lt⟩, rfl⟩) ?_
          rintro u Y1 hs1 rfl
          refine ⟨fun X => TopW t.2 l sp w X ∧ Blk X g11 (tpc zeroT) 36, fun _ h => h, hs1, ?_⟩; try simp only [pS]
          refine wpG_call _ rfl (by rfl) 10 #[.agg (tpc (lawT l)).toArray] (fun X => by go_simp) (fun u X => OwnB X Y1.heap.size u (topB (lawT l))) ((putTop_any (lawT l) (lawT_ok l) Y1).mono fun e X ⟨v, e1, e2, e3⟩ => ⟨v, e1, ⟨hs1.1.grown e3, hs1.2.below e3 hs1.2.lt⟩, e2⟩) ?_
          rintro u Y2 hs2 ho2
          obtain ⟨sp2, cap2, rfl, -, -, q3, -, -⟩ := OwnB.form ho2
          rw [hlk]
          refine ⟨fun X => (TopW t.2 l sp w X ∧ Blk X g11 (tpc zeroT) 36) ∧ SrcA X sp2 (topB (lawT l)), fun _ h => h.1, ⟨hs2, q3⟩, ?_⟩; try simp only [pS]
          refine wpG_take _ (.string (bstr (topB (lawT l)))) rfl (by rfl) (fun X hX => ex_cvs rfl hlk rfl hX.2) ?_; try simp only [pS]
          refine wpG_take _ (.bool true) rfl (by rfl) (fun X hX => ex_neS rfl rfl rfl (by rw [decide_eq_false hn]; rfl)) ?_; try simp only [pS]
          refine gT (.bool true) ?_; try simp only [pS]
          refine gT (.bool true) ?_; try simp only [pS]
          refine gT (.bool true) ?_; try simp only [pS]
          refine wpG_call _ rfl (by rfl) 6 #[] (fun X => by go_simp) (fun u X => u = .bool true) ((ulwakes_any Y2 hs2.1.tab).mono fun e X ⟨e1, e2⟩ => ⟨_, e1, ⟨⟨hs2.1.grown e2, hs2.2.below e2 hs2.2.lt⟩, q3.grown e2⟩, rfl⟩) ?_
          rintro u Y3 hs3 rfl
          refine ⟨fun X => (TopW t.2 l sp w X ∧ Blk X g11 (tpc zeroT) 36) ∧ SrcA X sp2 (topB (lawT l)), fun _ h => h, hs3, ?_⟩; try simp only [pS]
          refine gT (.bool true) ?_; try simp only [pS]
          refine gT (.bool true) ?_; try simp only [pS]
          refine wpG_nil ?_
          have HE := Lib.hid (HPP.out _ hs3.1.1.bel)
          clear hs3
          go_wp2_with fail
          first | exact HE.out | (go_ret; exact HE.out)
        · have hne : ¬ ((L : Int) = 512) := by omega
          refine gS ((.take 0 (.take 1 (.take 2 (.take 3 (.take 4 (.take 5 (.take 6 (.take 7 (.take 8 (.take 9 (.take 10 (.take 11 (.take 12 (.take 16 (.take 17 (.step 13 (.step 14 (.take 15 (.take 18 (.take 19 (.take 20 (.take 21 (.step 22 (.take 23 (.take 24 (.nil))))))))))))))))))))))))))) (fun X => TopW t.2 l sp w X ∧ Blk X g11 (tpc zeroT) 36) (hs0) ?_
          refine gT (.int .i64 5) ?_; try simp only [pS]
          refine gT (.bool true) ?_; try simp only [pS]
          refine gT (.bool true) ?_; try simp only [pS]
          refine wpG_take _ (.agg (tpc zeroT).toArray) rfl (by rfl) (fun X hX => ex_ldTp (t := zeroT) zeroP_ok hX.2 rfl rfl) ?_; try simp only [pS]
          refine wpG_take _ (.agg (tpc zeroT).toArray) rfl (by rfl) (fun X hX => ex_bldT0 rfl) ?_; try simp only [pS]
          refine wpG_take _ (.bool true) rfl (by rfl) (fun X hX => ex_eqTz (x := zeroT) zeroP_ok rfl rfl rfl) ?_; try simp only [pS]
          refine gT (.bool true) ?_; try simp only [pS]
          refine gT (.bool true) ?_; try simp only [pS]
          refine gT (.slice sp L cap) ?_; try simp only [pS]
          refine gT (.int .i64 (L : Int)) ?_; try simp only [pS]
          refine wpG_take _ (.bool true) rfl (by rfl) (fun X hX => ex_neI hne Tryz.underlying3 rfl rfl rfl) ?_; try simp only [pS]
          refine gT (.bool true) ?_; try simp only [pS]
          refine wpG_pass _ rfl (by rfl) ?_; try simp only [pS]
          refine wpG_pass _ rfl (by rfl) ?_; try simp only [pS]
          refine wpG_pass _ rfl (by rfl) ?_; try simp only [pS]
          refine wpG_skip _ rfl (by rfl) hs0 ?_; try simp only [pS]
          refine wpG_skip _ rfl (by rfl) hs0 ?_; try simp only [pS]
          refine wpG_pass _ rfl (by rfl) ?_; try simp only [pS]
          refine wpG_pass _ rfl (by rfl) ?_; try simp only [pS]
          refine gT (.bool true) ?_; try simp only [pS]
          refine gT (.bool true) ?_; try simp only [pS]
          refine gT (.bool true) ?_; try simp only [pS]
          refine wpG_call _ rfl (by rfl) 6 #[] (fun X => by go_simp) (fun u X => u = .bool true) ((ulwakes_any W11.drew hs0.1.tab).mono fun e X ⟨e1, e2⟩ => ⟨_, e1, ⟨hs0.1.grown e2, hs0.2.below e2 hs0.2.lt⟩, rfl⟩) ?_
          rintro u Y3 hs3 rfl
          refine ⟨fun X => TopW t.2 l sp w X ∧ Blk X g11 (tpc zeroT) 36, fun _ h => h, hs3, ?_⟩; try simp only [pS]
          refine gT (.bool true) ?_; try simp only [pS]
          refine gT (.bool true) ?_; try simp only [pS]
          refine wpG_nil ?_
          have HE := Lib.hid (HPP.out _ hs3.1.bel)
          clear hs3
          go_wp2_with fail
          first | exact HE.out | (go_ret; exact HE.out)
      · obtain ⟨hte, htb⟩ := tt_good hok
        have hvo : (ttV l).OK := ttV_ok
        obtain ⟨v, hv⟩ : ∃ v, ttV l = v := ⟨_, rfl⟩
        rw [hv] at htb hvo
        rw [hte, hv, show ((0 : Nat) : Int) = (0 : Int) from rfl]
        have HV := Lib.hid hvo; have HBK := Lib.hid htb
        have HSV := Lib.hid (size_tp hvo.2)
        have HLV : Hid ((tpc v).toArray.size = 42) := Lib.hid (by rw [List.size_toArray]; exact tpc_length hvo.2)
        clear hte htb hok hvo hv
        go_upto_region 12 with (first | (refine wpList_store_row rfl 36 (.tmp 12) (.tmp 77) rfl W10.heap.size (tpc v).toArray rfl rfl 36 _ (heap_alloc_new W10 _) HSV.out (by rw [HLV.out]; rfl) (one_tpc v) ?_) | fail)
        refine (fun (k : ∀ W, Blk W W10.heap.size (tpc v) 36 → Below W10.heap.size W10 W → Code.wp _ _ _ _ W) => k _ (blk_row1 W10 _ (tpc v) 36).1 (blk_row1 W10 _ (tpc v) 36).2) ?_
        intro W11 hx11 hb11
        obtain ⟨g11, hg11⟩ : ∃ g, W10.heap.size = g := ⟨_, rfl⟩
        have HX11 := Lib.hid (HX10.out.grown hb11)
        rw [hg11] at hx11 ⊢
        have HB11 := Lib.hid hx11
        clear hx11 hb11 hg11 HX10
        have hs0 : TopW t.2 l sp w W11.drew ∧ Blk W11.drew g11 (tpc v) 36 := ⟨HX11.out.grown (Below.refl _ _).drew, HB11.out.drew⟩
        refine gS ((.take 0 (.take 3 (.take 4 (.step 1 (.take 2 (.take 5 (.take 6 (.step 7 (.take 8 (.take 9 (.nil)))))))))))) (fun X => TopW t.2 l sp w X ∧ Blk X g11 (tpc v) 36) (hs0) ?_
        refine wpG_take _ (.agg (tpc v).toArray) rfl (by rfl) (fun X hX => ex_ldTp HV.out.2 hX.2 rfl rfl) ?_; try simp only [pS]
        refine gT (.slice sp L cap) ?_; try simp only [pS]
        refine wpG_take _ (.string (bstr l)) rfl (by rfl) (fun X hX => ex_cvs rfl HL.out rfl hX.1.src) ?_; try simp only [pS]
        refine wpG_call _ rfl (by rfl) 10 #[.agg (tpc v).toArray] (fun X => by go_simp) (fun u X => OwnB X W11.drew.heap.size u (topB v)) ((putTop_any v HV.out W11.drew).mono fun e X ⟨v, e1, e2, e3⟩ => ⟨v, e1, ⟨hs0.1.grown e3, hs0.2.below e3 hs0.2.lt⟩, e2⟩) ?_
        rintro u Y2 hs2 ho2
        rw [HBK.out] at ho2
        obtain ⟨sp2, cap2, rfl, -, -, q3, -, -⟩ := OwnB.form ho2
        rw [HL.out]
        refine ⟨fun X => (TopW t.2 l sp w X ∧ Blk X g11 (tpc v) 36) ∧ SrcA X sp2 l, fun _ h => h.1, ⟨hs2, q3⟩, ?_⟩; try simp only [pS]
        refine wpG_take _ (.string (bstr l)) rfl (by rfl) (fun X hX => ex_cvs rfl HL.out rfl hX.2) ?_; try simp only [pS]
        refine wpG_take _ (.bool true) rfl (by rfl) (fun X hX => ex_eqSs rfl rfl rfl) ?_; try simp only [pS]
        refine gT (.bool true) ?_; try simp only [pS]
        refine wpG_call _ rfl (by rfl) 6 #[] (fun X => by go_simp) (fun u X => u = .bool true) ((ulwakes_any Y2 hs2.1.tab).mono fun e X ⟨e1, e2⟩ => ⟨_, e1, ⟨⟨hs2.1.grown e2, hs2.2.below e2 hs2.2.lt⟩, q3.grown e2⟩, rfl⟩) ?_
        rintro u Y3 hs3 rfl
        refine ⟨fun X => (TopW t.2 l sp w X ∧ Blk X g11 (tpc v) 36) ∧ SrcA X sp2 l, fun _ h => h, hs3, ?_⟩; try simp only [pS]
        refine gT (.bool true) ?_; try simp only [pS]
        refine gT (.bool true) ?_; try simp only [pS]
        refine wpG_nil ?_
        have HE := Lib.hid (HPP.out _ hs3.1.1.bel)
        clear hs3
        go_wp2_with fail
        first | exact HE.out | (go_ret; exact HE.out)
    · have HM := Lib.hid hm
      obtain ⟨hte, htv⟩ := tt_fine HP.out (by unfold fineP; rw [he0, mayP_eq HP.out.2.len, hm]; rfl)
      clear he0 hm
      rw [hte, htv, show ((0 : Nat) : Int) = (0 : Int) from rfl]
      clear hte htv
      go_upto_region 6 with (first | (refine wpList_store_row rfl 36 (.tmp 9) (.tmp 31) rfl W6.heap.size (tpc t).toArray rfl rfl 36 _ (heap_alloc_new W6 _) HSZT.out (by rw [HLZT.out]; rfl) (one_tpc t) ?_) | fail)
      refine (fun (k : ∀ W, Blk W W6.heap.size (tpc t) 36 → Below W6.heap.size W6 W → Code.wp _ _ _ _ W) => k _ (blk_row1 W6 _ (tpc t) 36).1 (blk_row1 W6 _ (tpc t) 36).2) ?_
      intro W7 hx7 hb7
      obtain ⟨g7, hg7⟩ : ∃ g, W6.heap.size = g := ⟨_, rfl⟩
      have HX7 := Lib.hid (HX6.out.grown hb7); have HS47 := Lib.hid (HS46.out.grown hb7); have HS57 := Lib.hid (HS56.out.grown hb7)
      rw [hg7] at hx7 ⊢
      have HB7 := Lib.hid hx7
      clear hx7 hb7 hg7 HX6 HS46 HS56
      go_wp2_with (first | (refine wpL_valG (by rfl) (ex_ldP HP.out.2 HX7.out.p rfl rfl) ?_) | (refine wpL_valG (by rfl) (ex_bld0 rfl) ?_) | (refine wpL_valG (by rfl) (ex_eqPb HE0.out rfl rfl rfl HP.out.2 zeroP_ok) ?_) | fail)
      refine (qmay_any t.2 HP.out.2 W7).mono ?_
      rintro e W8 ⟨rfl, hb8⟩
      rw [HM.out]
      have HB8 := Lib.hid (HB7.out.below hb8 HB7.out.lt); have HX8 := Lib.hid (HX7.out.grown hb8); have HS48 := Lib.hid (HS47.out.grown hb8); have HS58 := Lib.hid (HS57.out.grown hb8)
      clear hb8 HB7 HX7 HS47 HS57 HE0 HM
      go_upto_region 7 with fail
      refine wp_region_list (hold_in ?_)
      refine qV (.slice sp5 512 cap5) ?_; try simp only [pS]
      refine q_valS (.string (bstr (topB t))) (by rfl) (ex_cvs rfl HTL.out rfl HS58.out) ?_; try simp only [pS]
      refine qV (.slice sp4 512 cap4) ?_; try simp only [pS]
      refine q_valS (.string (bstr (topB t))) (by rfl) (ex_cvs rfl HTL.out rfl HS48.out) ?_; try simp only [pS]
      refine q_valS (.bool false) (by rfl) (ex_neSs rfl rfl rfl) ?_; try simp only [pS]
      refine qV (.bool false) ?_; try simp only [pS]
      refine qV (.int .i64 0) ?_; try simp only [pS]
      refine qV (.bool true) ?_; try simp only [pS]
      refine qV (.bool true) ?_; try simp only [pS]
      refine qV (.bool false) ?_; try simp only [pS]
      refine qV (.bool false) ?_; try simp only [pS]
      refine qV (.bool false) ?_; try simp only [pS]
      refine qV (.bool true) ?_; try simp only [pS]
      refine qV (.bool true) ?_; try simp only [pS]
      refine q_valS (.agg (tpc t).toArray) (by rfl) (ex_ldTp HP.out.2 HB8.out rfl rfl) ?_; try simp only [pS]
      refine qV (.int .u64 (t.1 : Int)) ?_; try simp only [pS]
      refine q_valS (.agg (pcells t.2).toArray) (by rfl) (ex_ldP HP.out.2 HX8.out.p rfl rfl) ?_; try simp only [pS]
      refine q_valS (.agg (tpc t).toArray) (by rfl) (ex_bldTp (f := t.1) HP.out.2 rfl rfl rfl) ?_; try simp only [pS]
      refine q_valS (.bool false) (by rfl) (ex_neTp HP.out.2 rfl rfl rfl) ?_; try simp only [pS]
      refine qV (.bool false) ?_; try simp only [pS]
      refine qV (.bool false) ?_; try simp only [pS]
      refine qV (.bool false) ?_; try simp only [pS]
      refine qV (.bool true) ?_; try simp only [pS]
      refine qV (.bool false) ?_; try simp only [pS]
      refine qV (.bool false) ?_; try simp only [pS]
      refine q_skipG (by rfl) ?_; try simp only [pS]
      refine q_skipG (by rfl) ?_; try simp only [pS]
      refine q_skipG (by rfl) ?_; try simp only [pS]
      refine q_skipG (by rfl) ?_; try simp only [pS]
      refine q_skipG (by rfl) ?_; try simp only [pS]
      refine q_skipG (by rfl) ?_; try simp only [pS]
      refine q_skipG (by rfl) ?_; try simp only [pS]
      refine qV (.bool false) ?_; try simp only [pS]
      refine qV (.bool false) ?_; try simp only [pS]
      refine hold_out ?_
      clear HB8 HS48 HS58
      go_upto_region 9 with fail
      go_wp2_with fail
      refine (HTK.out _ HX8.out.src HX8.out.tab).mono ?_
      rintro e W10 ⟨rfl, hb10⟩
      have HX10 := Lib.hid (HX8.out.grown hb10)
      clear hb10 HX8 HTK
      cases hok : ttOk l
      · obtain ⟨hte, htv⟩ := tt_bad hok
        rw [hte, htv, show ((5 : Nat) : Int) = (5 : Int) from rfl]
        have HOK := Lib.hid hok
        clear hte htv hok
        go_upto_region 11 with (first | (refine wpList_store_row rfl 36 (.tmp 12) (.tmp 77) rfl W10.heap.size (tpc zeroT).toArray rfl rfl 36 _ (heap_alloc_new W10 _) HSZ0.out (by rw [HLZ0.out]; rfl) (one_tpc zeroT) ?_) | fail)
        refine (fun (k : ∀ W, Blk W W10.heap.size (tpc zeroT) 36 → Below W10.heap.size W10 W → Code.wp _ _ _ _ W) => k _ (blk_row1 W10 _ (tpc zeroT) 36).1 (blk_row1 W10 _ (tpc zeroT) 36).2) ?_
        intro W11 hx11 hb11
        obtain ⟨g11, hg11⟩ : ∃ g, W10.heap.size = g := ⟨_, rfl⟩
        have HX11 := Lib.hid (HX10.out.grown hb11)
        rw [hg11] at hx11 ⊢
        have HB11 := Lib.hid hx11
        clear hx11 hb11 hg11 HX10
        have hs0 : TopW t.2 l sp w W11.drew ∧ Blk W11.drew g11 (tpc zeroT) 36 := ⟨HX11.out.grown (Below.refl _ _).drew, HB11.out.drew⟩
        by_cases h5 : L = 512
        · subst h5
          have hn : topB (lawT l) ≠ l := lawT_no HOK.out HL.out
          have hll := HLT.out rfl
          have hlk := topB_len (lawT_ok l).2
          refine gS ((.take 0 (.take 1 (.take 2 (.take 3 (.take 4 (.take 5 (.take 6 (.take 7 (.take 8 (.take 9 (.take 10 (.take 11 (.take 12 (.take 16 (.take 17 (.step 13 (.step 14 (.take 15 (.take 18 (.take 19 (.take 20 (.take 21 (.step 22 (.take 23 (.take 24 (.nil))))))))))))))))))))))))))) (fun X => TopW t.2 l sp w X ∧ Blk X g11 (tpc zeroT) 36) (hs0) ?_
          refine gT (.int .i64 5) ?_; try simp only [pS]
          refine gT (.bool true) ?_; try simp only [pS]
          refine gT (.bool true) ?_; try simp only [pS]
          refine wpG_take _ (.agg (tpc zeroT).toArray) rfl (by rfl) (fun X hX => ex_ldTp (t := zeroT) zeroP_ok hX.2 rfl rfl) ?_; try simp only [pS]
          refine wpG_take _ (.agg (tpc zeroT).toArray) rfl (by rfl) (fun X hX => ex_bldT0 rfl) ?_; try simp only [pS]
          refine wpG_take _ (.bool true) rfl (by rfl) (fun X hX => ex_eqTz (x := zeroT) zeroP_ok rfl rfl rfl) ?_; try simp only [pS]
          refine gT (.bool true) ?_; try simp only [pS]
          refine gT (.bool true) ?_; try simp only [pS]
          refine gT (.slice sp 512 cap) ?_; try simp only [pS]
          refine gT (.int .i64 512) ?_; try simp only [pS]
          refine gT (.bool false) ?_; try simp only [pS]
          refine gT (.bool false) ?_; try simp only [pS]
          refine gT (.slice sp 512 cap) ?_; try simp only [pS]
          refine gT (.slice sp 512 cap) ?_; try simp only [pS]
          refine wpG_take _ (.string (bstr l)) rfl (by rfl) (fun X hX => ex_cvs rfl HL.out rfl hX.1.src) ?_; try simp only [pS]
          refine wpG_call _ rfl (by rfl) 13 #[.slice sp 512 cap] (fun X => by go_simp) (fun u X => u = .agg (tpc (lawT l)).toArray) ((hll _ hs0.1.src).mono fun e X ⟨e1, e2⟩ => ⟨_, e1, ⟨hs0.1.grown e2, hs0.2.below e2 hs0.2.lt⟩, rfl⟩) ?_
          rintro u Y1 hs1 rfl
          refine ⟨fun X => TopW t.2 l sp w X ∧ Blk X g11 (tpc zeroT) 36, fun _ h => h, hs1, ?_⟩; try simp only [pS]
          refine wpG_call _ rfl (by rfl) 10 #[.agg (tpc (lawT l)).toArray] (fun X => by go_simp) (fun u X => OwnB X Y1.heap.size u (topB (lawT l))) ((putTop_any (lawT l) (lawT_ok l) Y1).mono fun e X ⟨v, e1, e2, e3⟩ => ⟨v, e1, ⟨hs1.1.grown e3, hs1.2.below e3 hs1.2.lt⟩, e2⟩) ?_
          rintro u Y2 hs2 ho2
          obtain ⟨sp2, cap2, rfl, -, -, q3, -, -⟩ := OwnB.form ho2
          rw [hlk]
          refine ⟨fun X => (TopW t.2 l sp w X ∧ Blk X g11 (tpc zeroT) 36) ∧ SrcA X sp2 (topB (lawT l)), fun _ h => h.1, ⟨hs2, q3⟩, ?_⟩; try simp only [pS]
          refine wpG_take _ (.string (bstr (topB (lawT l)))) rfl (by rfl) (fun X hX => ex_cvs rfl hlk rfl hX.2) ?_; try simp only [pS]
          refine wpG_take _ (.bool true) rfl (by rfl) (fun X hX => ex_neS rfl rfl rfl (by rw [decide_eq_false hn]; rfl)) ?_; try simp only [pS]
          refine gT (.bool true) ?_; try simp only [pS]
          refine gT (.bool true) ?_; try simp only [pS]
          refine gT (.bool true) ?_; try simp only [pS]
          refine wpG_call _ rfl (by rfl) 6 #[] (fun X => by go_simp) (fun u X => u = .bool true) ((ulwakes_any Y2 hs2.1.tab).mono fun e X ⟨e1, e2⟩ => ⟨_, e1, ⟨⟨hs2.1.grown e2, hs2.2.below e2 hs2.2.lt⟩, q3.grown e2⟩, rfl⟩) ?_
          rintro u Y3 hs3 rfl
          refine ⟨fun X => (TopW t.2 l sp w X ∧ Blk X g11 (tpc zeroT) 36) ∧ SrcA X sp2 (topB (lawT l)), fun _ h => h, hs3, ?_⟩; try simp only [pS]
          refine gT (.bool true) ?_; try simp only [pS]
          refine gT (.bool true) ?_; try simp only [pS]
          refine wpG_nil ?_
          have HE := Lib.hid (HPP.out _ hs3.1.1.bel)
          clear hs3
          go_wp2_with fail
          first | exact HE.out | (go_ret; exact HE.out)
        · have hne : ¬ ((L : Int) = 512) := by omega
          refine gS ((.take 0 (.take 1 (.take 2 (.take 3 (.take 4 (.take 5 (.take 6 (.take 7 (.take 8 (.take 9 (.take 10 (.take 11 (.take 12 (.take 16 (.take 17 (.step 13 (.step 14 (.take 15 (.take 18 (.take 19 (.take 20 (.take 21 (.step 22 (.take 23 (.take 24 (.nil))))))))))))))))))))))))))) (fun X => TopW t.2 l sp w X ∧ Blk X g11 (tpc zeroT) 36) (hs0) ?_
          refine gT (.int .i64 5) ?_; try simp only [pS]
          refine gT (.bool true) ?_; try simp only [pS]
          refine gT (.bool true) ?_; try simp only [pS]
          refine wpG_take _ (.agg (tpc zeroT).toArray) rfl (by rfl) (fun X hX => ex_ldTp (t := zeroT) zeroP_ok hX.2 rfl rfl) ?_; try simp only [pS]
          refine wpG_take _ (.agg (tpc zeroT).toArray) rfl (by rfl) (fun X hX => ex_bldT0 rfl) ?_; try simp only [pS]
          refine wpG_take _ (.bool true) rfl (by rfl) (fun X hX => ex_eqTz (x := zeroT) zeroP_ok rfl rfl rfl) ?_; try simp only [pS]
          refine gT (.bool true) ?_; try simp only [pS]
          refine gT (.bool true) ?_; try simp only [pS]
          refine gT (.slice sp L cap) ?_; try simp only [pS]
          refine gT (.int .i64 (L : Int)) ?_; try simp only [pS]
          refine wpG_take _ (.bool true) rfl (by rfl) (fun X hX => ex_neI hne Tryz.underlying3 rfl rfl rfl) ?_; try simp only [pS]
          refine gT (.bool true) ?_; try simp only [pS]
          refine wpG_pass _ rfl (by rfl) ?_; try simp only [pS]
          refine wpG_pass _ rfl (by rfl) ?_; try simp only [pS]
          refine wpG_pass _ rfl (by rfl) ?_; try simp only [pS]
          refine wpG_skip _ rfl (by rfl) hs0 ?_; try simp only [pS]
          refine wpG_skip _ rfl (by rfl) hs0 ?_; try simp only [pS]
          refine wpG_pass _ rfl (by rfl) ?_; try simp only [pS]
          refine wpG_pass _ rfl (by rfl) ?_; try simp only [pS]
          refine gT (.bool true) ?_; try simp only [pS]
          refine gT (.bool true) ?_; try simp only [pS]
          refine gT (.bool true) ?_; try simp only [pS]
          refine wpG_call _ rfl (by rfl) 6 #[] (fun X => by go_simp) (fun u X => u = .bool true) ((ulwakes_any W11.drew hs0.1.tab).mono fun e X ⟨e1, e2⟩ => ⟨_, e1, ⟨hs0.1.grown e2, hs0.2.below e2 hs0.2.lt⟩, rfl⟩) ?_
          rintro u Y3 hs3 rfl
          refine ⟨fun X => TopW t.2 l sp w X ∧ Blk X g11 (tpc zeroT) 36, fun _ h => h, hs3, ?_⟩; try simp only [pS]
          refine gT (.bool true) ?_; try simp only [pS]
          refine gT (.bool true) ?_; try simp only [pS]
          refine wpG_nil ?_
          have HE := Lib.hid (HPP.out _ hs3.1.bel)
          clear hs3
          go_wp2_with fail
          first | exact HE.out | (go_ret; exact HE.out)
      · obtain ⟨hte, htb⟩ := tt_good hok
        have hvo : (ttV l).OK := ttV_ok
        obtain ⟨v, hv⟩ : ∃ v, ttV l = v := ⟨_, rfl⟩
        rw [hv] at htb hvo
        rw [hte, hv, show ((0 : Nat) : Int) = (0 : Int) from rfl]
        have HV := Lib.hid hvo; have HBK := Lib.hid htb
        have HSV := Lib.hid (size_tp hvo.2)
        have HLV : Hid ((tpc v).toArray.size = 42) := Lib.hid (by rw [List.size_toArray]; exact tpc_length hvo.2)
        clear hte htb hok hvo hv
        go_upto_region 12 with (first | (refine wpList_store_row rfl 36 (.tmp 12) (.tmp 77) rfl W10.heap.size (tpc v).toArray rfl rfl 36 _ (heap_alloc_new W10 _) HSV.out (by rw [HLV.out]; rfl) (one_tpc v) ?_) | fail)
        refine (fun (k : ∀ W, Blk W W10.heap.size (tpc v) 36 → Below W10.heap.size W10 W → Code.wp _ _ _ _ W) => k _ (blk_row1 W10 _ (tpc v) 36).1 (blk_row1 W10 _ (tpc v) 36).2) ?_
        intro W11 hx11 hb11
        obtain ⟨g11, hg11⟩ : ∃ g, W10.heap.size = g := ⟨_, rfl⟩
        have HX11 := Lib.hid (HX10.out.grown hb11)
        rw [hg11] at hx11 ⊢
        have HB11 := Lib.hid hx11
        clear hx11 hb11 hg11 HX10
        have hs0 : TopW t.2 l sp w W11.drew ∧ Blk W11.drew g11 (tpc v) 36 := ⟨HX11.out.grown (Below.refl _ _).drew, HB11.out.drew⟩
        refine gS ((.take 0 (.take 3 (.take 4 (.step 1 (.take 2 (.take 5 (.take 6 (.step 7 (.take 8 (.take 9 (.nil)))))))))))) (fun X => TopW t.2 l sp w X ∧ Blk X g11 (tpc v) 36) (hs0) ?_
        refine wpG_take _ (.agg (tpc v).toArray) rfl (by rfl) (fun X hX => ex_ldTp HV.out.2 hX.2 rfl rfl) ?_; try simp only [pS]
        refine gT (.slice sp L cap) ?_; try simp only [pS]
        refine wpG_take _ (.string (bstr l)) rfl (by rfl) (fun X hX => ex_cvs rfl HL.out rfl hX.1.src) ?_; try simp only [pS]
        refine wpG_call _ rfl (by rfl) 10 #[.agg (tpc v).toArray] (fun X => by go_simp) (fun u X => OwnB X W11.drew.heap.size u (topB v)) ((putTop_any v HV.out W11.drew).mono fun e X ⟨v, e1, e2, e3⟩ => ⟨v, e1, ⟨hs0.1.grown e3, hs0.2.below e3 hs0.2.lt⟩, e2⟩) ?_
        rintro u Y2 hs2 ho2
        rw [HBK.out] at ho2
        obtain ⟨sp2, cap2, rfl, -, -, q3, -, -⟩ := OwnB.form ho2
        rw [HL.out]
        refine ⟨fun X => (TopW t.2 l sp w X ∧ Blk X g11 (tpc v) 36) ∧ SrcA X sp2 l, fun _ h => h.1, ⟨hs2, q3⟩, ?_⟩; try simp only [pS]
        refine wpG_take _ (.string (bstr l)) rfl (by rfl) (fun X hX => ex_cvs rfl HL.out rfl hX.2) ?_; try simp only [pS]
        refine wpG_take _ (.bool true) rfl (by rfl) (fun X hX => ex_eqSs rfl rfl rfl) ?_; try simp only [pS]
        refine gT (.bool true) ?_; try simp only [pS]
        refine wpG_call _ rfl (by rfl) 6 #[] (fun X => by go_simp) (fun u X => u = .bool true) ((ulwakes_any Y2 hs2.1.tab).mono fun e X ⟨e1, e2⟩ => ⟨_, e1, ⟨⟨hs2.1.grown e2, hs2.2.below e2 hs2.2.lt⟩, q3.grown e2⟩, rfl⟩) ?_
        rintro u Y3 hs3 rfl
        refine ⟨fun X => (TopW t.2 l sp w X ∧ Blk X g11 (tpc v) 36) ∧ SrcA X sp2 l, fun _ h => h, hs3, ?_⟩; try simp only [pS]
        refine gT (.bool true) ?_; try simp only [pS]
        refine gT (.bool true) ?_; try simp only [pS]
        refine wpG_nil ?_
        have HE := Lib.hid (HPP.out _ hs3.1.1.bel)
        clear hs3
        go_wp2_with fail
        first | exact HE.out | (go_ret; exact HE.out)
  · have HE0 := Lib.hid he0
    obtain ⟨hte, htv⟩ := tt_fine HP.out (by unfold fineP; rw [he0]; rfl)
    clear he0
    rw [hte, htv, show ((0 : Nat) : Int) = (0 : Int) from rfl]
    clear hte htv
    go_upto_region 6 with (first | (refine wpList_store_row rfl 36 (.tmp 9) (.tmp 31) rfl W6.heap.size (tpc t).toArray rfl rfl 36 _ (heap_alloc_new W6 _) HSZT.out (by rw [HLZT.out]; rfl) (one_tpc t) ?_) | fail)
    refine (fun (k : ∀ W, Blk W W6.heap.size (tpc t) 36 → Below W6.heap.size W6 W → Code.wp _ _ _ _ W) => k _ (blk_row1 W6 _ (tpc t) 36).1 (blk_row1 W6 _ (tpc t) 36).2) ?_
    intro W7 hx7 hb7
    obtain ⟨g7, hg7⟩ : ∃ g, W6.heap.size = g := ⟨_, rfl⟩
    have HX7 := Lib.hid (HX6.out.grown hb7); have HS47 := Lib.hid (HS46.out.grown hb7); have HS57 := Lib.hid (HS56.out.grown hb7)
    rw [hg7] at hx7 ⊢
    have HB7 := Lib.hid hx7
    clear hx7 hb7 hg7 HX6 HS46 HS56
    go_upto_region 7 with (first | (refine wpL_valG (by rfl) (ex_ldP HP.out.2 HX7.out.p rfl rfl) ?_) | (refine wpL_valG (by rfl) (ex_bld0 rfl) ?_) | (refine wpL_valG (by rfl) (ex_eqPb HE0.out rfl rfl rfl HP.out.2 zeroP_ok) ?_) | fail)
    clear HE0
    refine wp_region_list (hold_in ?_)
    refine qV (.slice sp5 512 cap5) ?_; try simp only [pS]
    refine q_valS (.string (bstr (topB t))) (by rfl) (ex_cvs rfl HTL.out rfl HS57.out) ?_; try simp only [pS]
    refine qV (.slice sp4 512 cap4) ?_; try simp only [pS]
    refine q_valS (.string (bstr (topB t))) (by rfl) (ex_cvs rfl HTL.out rfl HS47.out) ?_; try simp only [pS]
    refine q_valS (.bool false) (by rfl) (ex_neSs rfl rfl rfl) ?_; try simp only [pS]
    refine qV (.bool false) ?_; try simp only [pS]
    refine qV (.int .i64 0) ?_; try simp only [pS]
    refine qV (.bool true) ?_; try simp only [pS]
    refine qV (.bool true) ?_; try simp only [pS]
    refine qV (.bool false) ?_; try simp only [pS]
    refine qV (.bool false) ?_; try simp only [pS]
    refine qV (.bool false) ?_; try simp only [pS]
    refine qV (.bool true) ?_; try simp only [pS]
    refine qV (.bool true) ?_; try simp only [pS]
    refine q_valS (.agg (tpc t).toArray) (by rfl) (ex_ldTp HP.out.2 HB7.out rfl rfl) ?_; try simp only [pS]
    refine qV (.int .u64 (t.1 : Int)) ?_; try simp only [pS]
    refine q_valS (.agg (pcells t.2).toArray) (by rfl) (ex_ldP HP.out.2 HX7.out.p rfl rfl) ?_; try simp only [pS]
    refine q_valS (.agg (tpc t).toArray) (by rfl) (ex_bldTp (f := t.1) HP.out.2 rfl rfl rfl) ?_; try simp only [pS]
    refine q_valS (.bool false) (by rfl) (ex_neTp HP.out.2 rfl rfl rfl) ?_; try simp only [pS]
    refine qV (.bool false) ?_; try simp only [pS]
    refine qV (.bool false) ?_; try simp only [pS]
    refine qV (.bool false) ?_; try simp only [pS]
    refine qV (.bool true) ?_; try simp only [pS]
    refine qV (.bool false) ?_; try simp only [pS]
    refine qV (.bool false) ?_; try simp only [pS]
    refine q_skipG (by rfl) ?_; try simp only [pS]
    refine q_skipG (by rfl) ?_; try simp only [pS]
    refine q_skipG (by rfl) ?_; try simp only [pS]
    refine q_skipG (by rfl) ?_; try simp only [pS]
    refine q_skipG (by rfl) ?_; try simp only [pS]
    refine q_skipG (by rfl) ?_; try simp only [pS]
    refine q_skipG (by rfl) ?_; try simp only [pS]
    refine qV (.bool false) ?_; try simp only [pS]
    refine qV (.bool false) ?_; try simp only [pS]
    refine hold_out ?_
    clear HB7 HS47 HS57
    go_upto_region 9 with fail
    go_wp2_with fail
    refine (HTK.out _ HX7.out.src HX7.out.tab).mono ?_
    rintro e W10 ⟨rfl, hb10⟩
    have HX10 := Lib.hid (HX7.out.grown hb10)
    clear hb10 HX7 HTK
    cases hok : ttOk l
    · obtain ⟨hte, htv⟩ := tt_bad hok
      rw [hte, htv, show ((5 : Nat) : Int) = (5 : Int) from rfl]
      have HOK := Lib.hid hok
      clear hte htv hok
      go_upto_region 11 with (first | (refine wpList_store_row rfl 36 (.tmp 12) (.tmp 77) rfl W10.heap.size (tpc zeroT).toArray rfl rfl 36 _ (heap_alloc_new W10 _) HSZ0.out (by rw [HLZ0.out]; rfl) (one_tpc zeroT) ?_) | fail)
      refine (fun (k : ∀ W, Blk W W10.heap.size (tpc zeroT) 36 → Below W10.heap.size W10 W → Code.wp _ _ _ _ W) => k _ (blk_row1 W10 _ (tpc zeroT) 36).1 (blk_row1 W10 _ (tpc zeroT) 36).2) ?_
      intro W11 hx11 hb11
      obtain ⟨g11, hg11⟩ : ∃ g, W10.heap.size = g := ⟨_, rfl⟩
      have HX11 := Lib.hid (HX10.out.grown hb11)
      rw [hg11] at hx11 ⊢
      have HB11 := Lib.hid hx11
      clear hx11 hb11 hg11 HX10
      have hs0 : TopW t.2 l sp w W11.drew ∧ Blk W11.drew g11 (tpc zeroT) 36 := ⟨HX11.out.grown (Below.refl _ _).drew, HB11.out.drew⟩
      by_cases h5 : L = 512
      · subst h5
        have hn : topB (lawT l) ≠ l := lawT_no HOK.out HL.out
        have hll := HLT.out rfl
        have hlk := topB_len (lawT_ok l).2
        refine gS ((.take 0 (.take 1 (.take 2 (.take 3 (.take 4 (.take 5 (.take 6 (.take 7 (.take 8 (.take 9 (.take 10 (.take 11 (.take 12 (.take 16 (.take 17 (.step 13 (.step 14 (.take 15 (.take 18 (.take 19 (.take 20 (.take 21 (.step 22 (.take 23 (.take 24 (.nil))))))))))))))))))))))))))) (fun X => TopW t.2 l sp w X ∧ Blk X g11 (tpc zeroT) 36) (hs0) ?_
        refine gT (.int .i64 5) ?_; try simp only [pS]
        refine gT (.bool true) ?_; try simp only [pS]
        refine gT (.bool true) ?_; try simp only [pS]
        refine wpG_take _ (.agg (tpc zeroT).toArray) rfl (by rfl) (fun X hX => ex_ldTp (t := zeroT) zeroP_ok hX.2 rfl rfl) ?_; try simp only [pS]
        refine wpG_take _ (.agg (tpc zeroT).toArray) rfl (by rfl) (fun X hX => ex_bldT0 rfl) ?_; try simp only [pS]
        refine wpG_take _ (.bool true) rfl (by rfl) (fun X hX => ex_eqTz (x := zeroT) zeroP_ok rfl rfl rfl) ?_; try simp only [pS]
        refine gT (.bool true) ?_; try simp only [pS]
        refine gT (.bool true) ?_; try simp only [pS]
        refine gT (.slice sp 512 cap) ?_; try simp only [pS]
        refine gT (.int .i64 512) ?_; try simp only [pS]
        refine gT (.bool false) ?_; try simp only [pS]
        refine gT (.bool false) ?_; try simp only [pS]
        refine gT (.slice sp 512 cap) ?_; try simp only [pS]
        refine gT (.slice sp 512 cap) ?_; try simp only [pS]
        refine wpG_take _ (.string (bstr l)) rfl (by rfl) (fun X hX => ex_cvs rfl HL.out rfl hX.1.src) ?_; try simp only [pS]
        refine wpG_call _ rfl (by rfl) 13 #[.slice sp 512 cap] (fun X => by go_simp) (fun u X => u = .agg (tpc (lawT l)).toArray) ((hll _ hs0.1.src).mono fun e X ⟨e1, e2⟩ => ⟨_, e1, ⟨hs0.1.grown e2, hs0.2.below e2 hs0.2.lt⟩, rfl⟩) ?_
        rintro u Y1 hs1 rfl
        refine ⟨fun X => TopW t.2 l sp w X ∧ Blk X g11 (tpc zeroT) 36, fun _ h => h, hs1, ?_⟩; try simp only [pS]
        refine wpG_call _ rfl (by rfl) 10 #[.agg (tpc (lawT l)).toArray] (fun X => by go_simp) (fun u X => OwnB X Y1.heap.size u (topB (lawT l))) ((putTop_any (lawT l) (lawT_ok l) Y1).mono fun e X ⟨v, e1, e2, e3⟩ => ⟨v, e1, ⟨hs1.1.grown e3, hs1.2.below e3 hs1.2.lt⟩, e2⟩) ?_
        rintro u Y2 hs2 ho2
        obtain ⟨sp2, cap2, rfl, -, -, q3, -, -⟩ := OwnB.form ho2
        rw [hlk]
        refine ⟨fun X => (TopW t.2 l sp w X ∧ Blk X g11 (tpc zeroT) 36) ∧ SrcA X sp2 (topB (lawT l)), fun _ h => h.1, ⟨hs2, q3⟩, ?_⟩; try simp only [pS]
        refine wpG_take _ (.string (bstr (topB (lawT l)))) rfl (by rfl) (fun X hX => ex_cvs rfl hlk rfl hX.2) ?_; try simp only [pS]
        refine wpG_take _ (.bool true) rfl (by rfl) (fun X hX => ex_neS rfl rfl rfl (by rw [decide_eq_false hn]; rfl)) ?_; try simp only [pS]
        refine gT (.bool true) ?_; try simp only [pS]
        refine gT (.bool true) ?_; try simp only [pS]
        refine gT (.bool true) ?_; try simp only [pS]
        refine wpG_call _ rfl (by rfl) 6 #[] (fun X => by go_simp) (fun u X => u = .bool true) ((ulwakes_any Y2 hs2.1.tab).mono fun e X ⟨e1, e2⟩ => ⟨_, e1, ⟨⟨hs2.1.grown e2, hs2.2.below e2 hs2.2.lt⟩, q3.grown e2⟩, rfl⟩) ?_
        rintro u Y3 hs3 rfl
        refine ⟨fun X => (TopW t.2 l sp w X ∧ Blk X g11 (tpc zeroT) 36) ∧ SrcA X sp2 (topB (lawT l)), fun _ h => h, hs3, ?_⟩; try simp only [pS]
        refine gT (.bool true) ?_; try simp only [pS]
        refine gT (.bool true) ?_; try simp only [pS]
        refine wpG_nil ?_
        have HE := Lib.hid (HPP.out _ hs3.1.1.bel)
        clear hs3
        go_wp2_with fail
        first | exact HE.out | (go_ret; exact HE.out)
      · have hne : ¬ ((L : Int) = 512) := by omega
        refine gS ((.take 0 (.take 1 (.take 2 (.take 3 (.take 4 (.take 5 (.take 6 (.take 7 (.take 8 (.take 9 (.take 10 (.take 11 (.take 12 (.take 16 (.take 17 (.step 13 (.step 14 (.take 15 (.take 18 (.take 19 (.take 20 (.take 21 (.step 22 (.take 23 (.take 24 (.nil))))))))))))))))))))))))))) (fun X => TopW t.2 l sp w X ∧ Blk X g11 (tpc zeroT) 36) (hs0) ?_
        refine gT (.int .i64 5) ?_; try simp only [pS]
        refine gT (.bool true) ?_; try simp only [pS]
        refine gT (.bool true) ?_; try simp only [pS]
        refine wpG_take _ (.agg (tpc zeroT).toArray) rfl (by rfl) (fun X hX => ex_ldTp (t := zeroT) zeroP_ok hX.2 rfl rfl) ?_; try simp only [pS]
        refine wpG_take _ (.agg (tpc zeroT).toArray) rfl (by rfl) (fun X hX => ex_bldT0 rfl) ?_; try simp only [pS]
        refine wpG_take _ (.bool true) rfl (by rfl) (fun X hX => ex_eqTz (x := zeroT) zeroP_ok rfl rfl rfl) ?_; try simp only [pS]
        refine gT (.bool true) ?_; try simp only [pS]
        refine gT (.bool true) ?_; try simp only [pS]
        refine gT (.slice sp L cap) ?_; try simp only [pS]
        refine gT (.int .i64 (L : Int)) ?_; try simp only [pS]
        refine wpG_take _ (.bool true) rfl (by rfl) (fun X hX => ex_neI hne Tryz.underlying3 rfl rfl rfl) ?_; try simp only [pS]
        refine gT (.bool true) ?_; try simp only [pS]
        refine wpG_pass _ rfl (by rfl) ?_; try simp only [pS]
        refine wpG_pass _ rfl (by rfl) ?_; try simp only [pS]
        refine wpG_pass _ rfl (by rfl) ?_; try simp only [pS]
        refine wpG_skip _ rfl (by rfl) hs0 ?_; try simp only [pS]
        refine wpG_skip _ rfl (by rfl) hs0 ?_; try simp only [pS]
        refine wpG_pass _ rfl (by rfl) ?_; try simp only [pS]
        refine wpG_pass _ rfl (by rfl) ?_; try simp only [pS]
        refine gT (.bool true) ?_; try simp only [pS]
        refine gT (.bool true) ?_; try simp only [pS]
        refine gT (.bool true) ?_; try simp only [pS]
        refine wpG_call _ rfl (by rfl) 6 #[] (fun X => by go_simp) (fun u X => u = .bool true) ((ulwakes_any W11.drew hs0.1.tab).mono fun e X ⟨e1, e2⟩ => ⟨_, e1, ⟨hs0.1.grown e2, hs0.2.below e2 hs0.2.lt⟩, rfl⟩) ?_
        rintro u Y3 hs3 rfl
        refine ⟨fun X => TopW t.2 l sp w X ∧ Blk X g11 (tpc zeroT) 36, fun _ h => h, hs3, ?_⟩; try simp only [pS]
        refine gT (.bool true) ?_; try simp only [pS]
        refine gT (.bool true) ?_; try simp only [pS]
        refine wpG_nil ?_
        have HE := Lib.hid (HPP.out _ hs3.1.bel)
        clear hs3
        go_wp2_with fail
        first | exact HE.out | (go_ret; exact HE.out)
    · obtain ⟨hte, htb⟩ := tt_good hok
      have hvo : (ttV l).OK := ttV_ok
      obtain ⟨v, hv⟩ : ∃ v, ttV l = v := ⟨_, rfl⟩
      rw [hv] at htb hvo
      rw [hte, hv, show ((0 : Nat) : Int) = (0 : Int) from rfl]
      have HV := Lib.hid hvo; have HBK := Lib.hid htb
      have HSV := Lib.hid (size_tp hvo.2)
      have HLV : Hid ((tpc v).toArray.size = 42) := Lib.hid (by rw [List.size_toArray]; exact tpc_length hvo.2)
      clear hte htb hok hvo hv
      go_upto_region 12 with (first | (refine wpList_store_row rfl 36 (.tmp 12) (.tmp 77) rfl W10.heap.size (tpc v).toArray rfl rfl 36 _ (heap_alloc_new W10 _) HSV.out (by rw [HLV.out]; rfl) (one_tpc v) ?_) | fail)
      refine (fun (k : ∀ W, Blk W W10.heap.size (tpc v) 36 → Below W10.heap.size W10 W → Code.wp _ _ _ _ W) => k _ (blk_row1 W10 _ (tpc v) 36).1 (blk_row1 W10 _ (tpc v) 36).2) ?_
      intro W11 hx11 hb11
      obtain ⟨g11, hg11⟩ : ∃ g, W10.heap.size = g := ⟨_, rfl⟩
      have HX11 := Lib.hid (HX10.out.grown hb11)
      rw [hg11] at hx11 ⊢
      have HB11 := Lib.hid hx11
      clear hx11 hb11 hg11 HX10
      have hs0 : TopW t.2 l sp w W11.drew ∧ Blk W11.drew g11 (tpc v) 36 := ⟨HX11.out.grown (Below.refl _ _).drew, HB11.out.drew⟩
      refine gS ((.take 0 (.take 3 (.take 4 (.step 1 (.take 2 (.take 5 (.take 6 (.step 7 (.take 8 (.take 9 (.nil)))))))))))) (fun X => TopW t.2 l sp w X ∧ Blk X g11 (tpc v) 36) (hs0) ?_
      refine wpG_take _ (.agg (tpc v).toArray) rfl (by rfl) (fun X hX => ex_ldTp HV.out.2 hX.2 rfl rfl) ?_; try simp only [pS]
      refine gT (.slice sp L cap) ?_; try simp only [pS]
      refine wpG_take _ (.string (bstr l)) rfl (by rfl) (fun X hX => ex_cvs rfl HL.out rfl hX.1.src) ?_; try simp only [pS]
      refine wpG_call _ rfl (by rfl) 10 #[.agg (tpc v).toArray] (fun X => by go_simp) (fun u X => OwnB X W11.drew.heap.size u (topB v)) ((putTop_any v HV.out W11.drew).mono fun e X ⟨v, e1, e2, e3⟩ => ⟨v, e1, ⟨hs0.1.grown e3, hs0.2.below e3 hs0.2.lt⟩, e2⟩) ?_
      rintro u Y2 hs2 ho2
      rw [HBK.out] at ho2
      obtain ⟨sp2, cap2, rfl, -, -, q3, -, -⟩ := OwnB.form ho2
      rw [HL.out]
      refine ⟨fun X => (TopW t.2 l sp w X ∧ Blk X g11 (tpc v) 36) ∧ SrcA X sp2 l, fun _ h => h.1, ⟨hs2, q3⟩, ?_⟩; try simp only [pS]
      refine wpG_take _ (.string (bstr l)) rfl (by rfl) (fun X hX => ex_cvs rfl HL.out rfl hX.2) ?_; try simp only [pS]
      refine wpG_take _ (.bool true) rfl (by rfl) (fun X hX => ex_eqSs rfl rfl rfl) ?_; try simp only [pS]
      refine gT (.bool true) ?_; try simp only [pS]
      refine wpG_call _ rfl (by rfl) 6 #[] (fun X => by go_simp) (fun u X => u = .bool true) ((ulwakes_any Y2 hs2.1.tab).mono fun e X ⟨e1, e2⟩ => ⟨_, e1, ⟨⟨hs2.1.grown e2, hs2.2.below e2 hs2.2.lt⟩, q3.grown e2⟩, rfl⟩) ?_
      rintro u Y3 hs3 rfl
      refine ⟨fun X => (TopW t.2 l sp w X ∧ Blk X g11 (tpc v) 36) ∧ SrcA X sp2 l, fun _ h => h, hs3, ?_⟩; try simp only [pS]
      refine gT (.bool true) ?_; try simp only [pS]
      refine gT (.bool true) ?_; try simp only [pS]
      refine wpG_nil ?_
      have HE := Lib.hid (HPP.out _ hs3.1.1.bel)
      clear hs3
      go_wp2_with fail
      first | exact HE.out | (go_ret; exact HE.out)
end Go.Proofs.YtjgjohdeeeoeoaaGreatDoor
