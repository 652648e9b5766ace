/- NodeTakes, walked. -/
import Derived.Test.YtincpdnmaiimnaaDoorNw
namespace Go.Proofs.YtincpdnmaiimnaaDoor
open Go.RowKit

/-- What the law holds, so many pointers being read by the document's own Take. -/
structure LtW (l : Bs) (w : World) (K : Nat → Prop) (g3 g5 g6 k : Nat) (W : World) : Prop where
  a : Blk W g3 (ncells (nodeT l)) 35
  ok : ∃ (ns : List Pt) (sp : Option Addr) (cap : Nat) (rest : Bs) (e : Nat), NOK ns ∧ Blk W g5 (ncells ns) 35 ∧ Blk W g6 [.slice sp rest.length cap, .int .i64 (e : Int)] 43 ∧ RefIs W (fun g => K g ∧ g < w.heap.size) sp rest cap ∧ e = stE l k ∧ (e = 0 → rest = l.drop (64 * k) ∧ ∀ j, j < k → ns[j]? = some (pt (l.drop (64 * j))))
  bel : Below w.heap.size w W
  ord : w.heap.size ≤ g3 ∧ g3 < g5 ∧ g5 < g6
theorem qtake_all (l : Bs) (sp : Option Addr) (cap e : Nat) (w : World) {K : Nat → Prop} (hl : e = 0 → l.length ≤ 100000) (hR : RefIs w K sp l cap) :
    Calls Tryd.prog 13 #[.agg #[.slice sp l.length cap, .int .i64 (e : Int)]] w (QtPost l e K w) := by
  by_cases h : e = 0
  · exact qtake_any l sp cap e w (hl h) hR
  · exact qtake_bad l sp cap e w (.inl h) hR
theorem LtW.next {l : Bs} {w W5 : World} {K : Nat → Prop} {g3 g5 g6 k e : Nat} {ns : List Pt} {sp' : Option Addr} {cap' : Nat} {rest rest2 : Bs} {c6 : List Value} (hk : k < 8) (hord : w.heap.size ≤ g3 ∧ g3 < g5 ∧ g5 < g6) (hn : NOK ns) (ha : Blk W5 g3 (ncells (nodeT l)) 35) (hb5 : Blk W5 g5 (ncells ns) 35) (h6 : Blk W5 g6 c6 43) (he : e = stE l k) (hr : e = 0 → rest = l.drop (64 * k) ∧ ∀ j, j < k → ns[j]? = some (pt (l.drop (64 * j))))
    (hrf : RefIs W5 (fun g => K g ∧ g < w.heap.size) sp' rest2 cap') (hbel : Below w.heap.size w W5) (hr5 : takeE rest e = 0 → rest2 = rest.drop 64) : LtW l w K g3 g5 g6 (k + 1) ((W5.setRow g6 #[.slice sp' rest2.length cap', .int .i64 (takeE rest e : Int)]).setCells g5 (k * 41) (pcells (takenP rest e))) := by
  have hto := takenP_ok rest e
  have hb1 : Below w.heap.size W5 (W5.setRow g6 #[.slice sp' rest2.length cap', .int .i64 (takeE rest e : Int)]) := below_row (Below.refl _ _) (by omega) _
  have hb2 := below_sets (g := g5) (pcells (takenP rest e)) (k * 41) _ hb1 (by omega)
  refine ⟨blk_setCells_other (by omega) _ _ _ _ (ha.rowOther (by omega) _), ⟨ns.set k (takenP rest e), sp', cap', rest2, takeE rest e, hn.set k hto, blk_setE hn (hb5.rowOther (by omega) _) hk (Nat.mul_comm k 41) hto, blk_setCells_other (by omega) _ _ _ _ (h6.row [.slice sp' rest2.length cap', .int .i64 (takeE rest e : Int)]), hrf.keep hb2, stE_step he (fun h0 => (hr h0).1), fun h0 => ?_⟩, hbel.trans hb2, hord⟩
  have e0 := takeE_zero h0
  obtain ⟨r1, r2⟩ := hr e0
  subst e0
  refine ⟨by rw [hr5 h0, r1, List.drop_drop]; congr 1, ?_⟩
  rw [takenP_zero h0, r1]
  exact get_set_lt (f := fun j => pt (l.drop (64 * j))) (by rw [hn.len]; exact hk) r2
theorem run_fieldE (a b : Value) (w : World) : (Instr.field 43 (.agg #[a, b]) 1).run Tryd.prog w = .ok b w := by
  unfold Instr.field
  rw [Sem.run_bind, run_underlying Tryd.underlying43 w, Result.andThen_ok]
  exact part_one (t := 33) Tryd.underlying33 rfl w
def LtRel (l : Bs) (w : World) (K : Nat → Prop) (g3 g5 g6 : Nat) (i : Value) (W : World) : Prop := ∃ k : Nat, k ≤ 8 ∧ i = .int .i64 (k : Int) ∧ LtW l w K g3 g5 g6 k W
set_option maxRecDepth 100000 in
set_option maxHeartbeats 8000000 in
theorem nodeTakes_go (l : Bs) (sp : Option Addr) (cap : Nat) (w : World) (hl : l.length ≤ 600) (hc : l.length ≤ cap) (hz : sp = none → cap = 0) (hS : SrcA w sp l) (hT : RTab w) :
    Calls Tryd.prog 4 #[.slice sp l.length cap] w fun e w' => e = .returned (.bool true) ∧ Below w.heap.size w w' := by
  have HT := Lib.hid hT
  have HTK := Lib.hid (nodeTake_any l sp cap w hz hc hS hT)
  have HRF : Hid (∀ W, Below w.heap.size w W → RefIs W (fun g => True ∧ g < w.heap.size) sp l cap) := Lib.hid fun W hb => ⟨hc, hz, fun h0 => by
    obtain ⟨g, o, e, h1, h2⟩ := hS h0
    exact ⟨g, o, e, ⟨trivial, h1⟩, Nat.lt_of_lt_of_le h1 hb.size, fun j hj => (hb.cell (p := ⟨g, o + j, none⟩) h1).trans (h2 j hj)⟩⟩
  have HLL := Lib.hid hl
  obtain ⟨L, hL⟩ : ∃ L, l.length = L := ⟨_, rfl⟩
  have HL := Lib.hid hL
  rw [hL] at HTK ⊢
  have i1 : ¬ ((600 : Int) < (L : Int)) := by omega
  have HTO := Lib.hid (nodeT_ok l)
  have HST := Lib.hid (size_nc HTO.out)
  have HSA : Hid ((ncells (nodeT l)).toArray.size = 328) := Lib.hid HTO.out.size
  have HON := Lib.hid (ncells_one HTO.out.ok)
  have HWK : Hid (∀ W, Below w.heap.size w W → Calls Tryd.prog 9 #[] W fun e w' => e = .returned (.bool true) ∧ Below w.heap.size w w') := Lib.hid fun W hb => (nwakes_any W (HT.out.grown hb)).mono fun e w' ⟨h1, h2⟩ => ⟨h1, hb.trans (h2.mono hb.size)⟩
  clear hl hc hz hS hT hL
  go_enter Tryd.func4, Tryd.ntmps4
  go_wp2_with fail
  refine HTK.out.mono ?_
  rintro e W1 ⟨rfl, hb1⟩
  have HB1 := Lib.hid hb1
  clear hb1 HTK
  go_upto_region 4 with (first | (refine wpList_store_row rfl 35 (.tmp 3) (.tmp 17) rfl W1.heap.size (ncells (nodeT l)).toArray rfl rfl 35 _ (heap_alloc_new W1 _) HST.out (by rw [HSA.out]; rfl) HON.out ?_) | fail)
  refine (fun (k : ∀ W, Blk W W1.heap.size (ncells (nodeT l)) 35 → Below W1.heap.size W1 W → Code.wp _ _ _ _ W) => k _ (blk_row1 W1 _ (ncells (nodeT l)) 35).1 (blk_row1 W1 _ (ncells (nodeT l)) 35).2) ?_
  intro W2 ha2 hb2
  have HA2 := Lib.hid ha2
  have HB2 := Lib.hid (HB1.out.trans (hb2.mono HB1.out.size))
  obtain ⟨g3, hg3⟩ : ∃ g, W1.heap.size = g := ⟨_, rfl⟩
  have HG3 : Hid (w.heap.size ≤ g3) := Lib.hid (by have := HB1.out.size; omega)
  rw [hg3] at HA2 ⊢
  clear ha2 hb2 hg3 HB1
  have HZZ : Hid (∀ (z1 : Array Value), z1 = (ncells holes).toArray → LtW l w (fun _ => True) g3 W2.heap.size (W2.heap.size + 1) 0 ((W2.alloc (.cells z1 35)).alloc (.cells #[.slice sp L cap, .int .i64 0] 43))) := Lib.hid fun z1 h1 => by
    subst h1
    have hb : Below W2.heap.size W2 ((W2.alloc (.cells (ncells holes).toArray 35)).alloc (.cells #[.slice sp L cap, .int .i64 0] 43)) := ((Below.refl _ _).alloc (Nat.le_refl _) _).alloc (by simp) _
    have hbw := HB2.out.trans (hb.mono HB2.out.size)
    refine ⟨HA2.out.below hb HA2.out.lt, ⟨holes, sp, cap, l, 0, holes_ok, ?_, ?_, HRF.out _ hbw, rfl, fun _ => ⟨rfl, fun j hj => by omega⟩⟩, hbw, by have := HG3.out; have := HA2.out.lt; omega⟩
    · exact (Blk.new W2 (ncells holes) 35).alloc _
    · rw [HL.out]; exact Blk.new' _ _ _ _ _ (by simp) rfl
  go_upto_region 6 with fail
  refine (fun (k : ∀ W, LtW l w (fun _ => True) g3 W2.heap.size (W2.heap.size + 1) 0 W → Code.wp _ _ _ _ W) => k _ (HZZ.out _ (by kernel_rfl))) ?_
  intro W3 h3
  obtain ⟨g5, hg5⟩ : ∃ g, W2.heap.size = g := ⟨_, rfl⟩
  rw [hg5] at h3 ⊢
  have HR : Hid (LtRel l w (fun _ => True) g3 g5 (g5 + 1) (.int .i64 0) W3) := Lib.hid ⟨0, by omega, rfl, h3⟩
  clear h3 HZZ HA2 HB2 HG3 HRF hg5
  have HSR : Hid ((Tryd.prog.info? 43).map (·.size) = some 2) := Lib.hid sizeRef
  go_wp2_with fail
  go_loopw [7] (fun i wr => LtRel l w (fun _ => True) g3 g5 (g5 + 1) i wr) (fun i _ => 8 - (intOf i).toNat)
  case atStart => exact HR.out
  case round =>
    clear HR
    obtain ⟨k, hk, rfl, hW⟩ := hrel
    have HW := Lib.hid hW
    obtain ⟨ns, sq, cq, rest, e, hn, hb, h6, hrf, he, hr⟩ := hW.ok
    have HN := Lib.hid hn; have HB5 := Lib.hid hb; have HRF := Lib.hid hrf; have HE := Lib.hid he; have HR := Lib.hid hr
    obtain ⟨m, hm⟩ : ∃ m, rest.length = m := ⟨_, rfl⟩
    have HM := Lib.hid hm
    rw [hm] at h6
    have HB6 := Lib.hid h6
    clear hW hn hb h6 hrf he hr hm
    have wk1 := IntWalk.i64_in ((k : Int) + 1) (by omega)
    by_cases hlt : k < 8
    · have hqt := qtake_all rest sq cq e wr (fun h0 => by rw [(HR.out h0).1, List.length_drop]; have := HLL.out; omega) HRF.out
      rw [HM.out] at hqt
      have HQT := Lib.hid hqt
      obtain ⟨tp, htp⟩ : ∃ tp, takenP rest e = tp := ⟨_, rfl⟩
      obtain ⟨te, hte⟩ : ∃ te, takeE rest e = te := ⟨_, rfl⟩
      have HTP := Lib.hid htp; have HTE := Lib.hid hte
      have HTO2 : Hid tp.OK := Lib.hid (by rw [← htp]; exact takenP_ok _ _)
      have HSP := Lib.hid (size_pc HTO2.out)
      have HLP : Hid ((pcells tp).toArray.size = 41) := Lib.hid (by rw [List.size_toArray, pcells_length HTO2.out])
      clear hqt htp hte
      go_wp2_with (first | (refine wpL_val rfl (ex_ld (ty := 43) (cs := [.slice sq m cq, .int .i64 (e : Int)]) rfl rfl (rng_all HB6.out) Tryd.underlying43 rfl HSR.out) ?_) | fail)
      refine HQT.out.mono ?_
      rintro e4 W4 ⟨sp', cap', rest2, rfl, hr4, hr5, hr6, hb4⟩
      rw [HTP.out, HTE.out]
      rw [HTE.out] at hr5 hr6
      obtain ⟨n, hn⟩ : ∃ n, rest2.length = n := ⟨_, rfl⟩
      rw [hn]
      have HNN := Lib.hid hn
      have HRF4 := Lib.hid hr4; have HR5 := Lib.hid hr5; have HR6 := Lib.hid hr6; have HB4 := Lib.hid hb4
      clear hn hr4 hr5 hr6 hb4 HQT
      have H1 : ∀ z1 z2 : Array Value, ((W4.alloc (.cells z1 28)).alloc (.cells z2 43)).heap[W4.heap.size]? = some (.cells z1 28 (0, 0)) := fun z1 z2 => ((Blk.new' W4 z1 z1.toList 28 _ rfl (by simp)).alloc (.cells z2 43) : Blk _ _ _ _)
      have H2 : ∀ (z1 z2 c : Array Value), (((W4.alloc (.cells z1 28)).alloc (.cells z2 43)).setRow W4.heap.size c).heap[W4.heap.size + 1]? = some (.cells z2 43 (0, 0)) := fun z1 z2 c => ((Blk.new' (W4.alloc (.cells z1 28)) z2 z2.toList 43 (W4.heap.size + 1) (by simp) (by simp)).rowOther (by omega) c : Blk _ _ _ _)
      have HH1 := Lib.hid H1; have HH2 := Lib.hid H2
      have HZ5 : Hid (∀ (z1 z2 : Array Value) W, W = (((W4.alloc (.cells z1 28)).alloc (.cells z2 43)).setRow W4.heap.size (pcells tp).toArray).setRow (W4.heap.size + 1) #[.slice sp' n cap', .int .i64 (te : Int)] → Blk W W4.heap.size (pcells tp) 28 ∧ Blk W (W4.heap.size + 1) [.slice sp' n cap', .int .i64 (te : Int)] 43 ∧ Below W4.heap.size W4 W) := Lib.hid fun z1 z2 W eW => by
        subst eW
        refine ⟨(((Blk.new' W4 z1 z1.toList 28 _ rfl (by simp)).alloc _).row (pcells tp)).rowOther (by omega) _, ((Blk.new' (W4.alloc (.cells z1 28)) z2 z2.toList 43 _ (by simp) (by simp)).rowOther (by omega) _).row [.slice sp' n cap', .int .i64 (te : Int)], below_row (below_row (((Below.refl _ _).alloc (Nat.le_refl _) _).alloc (by simp) _) (Nat.le_refl _) _) (by omega) _⟩
      clear H1 H2
      go_upto_region 10 with (first | (refine wpList_store_row rfl 28 (.tmp 8) (.tmp 28) rfl W4.heap.size (pcells tp).toArray rfl rfl 28 _ (HH1.out _ _) HSP.out (by rw [HLP.out]; rfl) (one_pc tp) ?_) | (refine wpList_store_row rfl 43 (.tmp 9) (.tmp 29) rfl (W4.heap.size + 1) #[.slice sp' n cap', .int .i64 (te : Int)] rfl rfl 43 _ (HH2.out _ _ _) sizeRef rfl (one_ref _ _ _ _) ?_) | fail)
      refine (fun (k : ∀ W, Blk W W4.heap.size (pcells tp) 28 ∧ Blk W (W4.heap.size + 1) [.slice sp' n cap', .int .i64 (te : Int)] 43 ∧ Below W4.heap.size W4 W → Code.wp _ _ _ _ W) => k _ (HZ5.out _ _ _ rfl)) ?_
      rintro W5 ⟨hx1, hx2, hx3⟩
      have hb45 := HB4.out.trans (hx3.mono HB4.out.size)
      have HX1 := Lib.hid hx1; have HX2 := Lib.hid hx2
      have HA5 := Lib.hid (HW.out.a.below hb45 HW.out.a.lt)
      have HN5 := Lib.hid (HB5.out.below hb45 HB5.out.lt)
      have HC5 := Lib.hid (HB6.out.below hb45 HB6.out.lt)
      have HBW := Lib.hid (HW.out.bel.trans (hb45.mono HW.out.bel.size))
      have HRF5 := Lib.hid (HRF4.out.keep (hx3.mono (Nat.le_trans HW.out.bel.size HB4.out.size)))
      have HOR := Lib.hid HW.out.ord
      have hnx := LtW.next hlt HOR.out HN.out HA5.out HN5.out HC5.out HE.out HR.out HRF5.out HBW.out (fun h0 => HR5.out (HTE.out.symm.trans h0))
      rw [HTP.out, HTE.out, HNN.out] at hnx
      have HNX := Lib.hid hnx
      have HTH : Hid ((W5.setRow (g5 + 1) #[.slice sp' n cap', .int .i64 (te : Int)]).there g5 (k * 41) (pcells tp).toArray.size) := Lib.hid ((HN5.out.rowOther (by omega) _).there _ _ (by rw [HLP.out, HN.out.cells]; omega))
      have HX1' := Lib.hid (HX1.out.rowOther (k := g5 + 1) (by have := HC5.out.lt; have := HB6.out.lt; have := HB4.out.size; omega) #[.slice sp' n cap', .int .i64 (te : Int)])
      clear hb45 hx1 hx2 hx3 hnx HZ5 HH1 HH2 HRF4 HRF HW HB5 HB6 HB4 HBW HRF5 HA5 HR HR5 HR6
      go_wp2_with (first | (refine wpL_val rfl (ex_ld (ty := 43) (cs := [.slice sp' n cap', .int .i64 (te : Int)]) rfl rfl (rng_all HX2.out) Tryd.underlying43 rfl HSR.out) ?_) | (refine wpList_store_row rfl 43 (.tmp 6) (.tmp 30) rfl (g5 + 1) #[.slice sp' n cap', .int .i64 (te : Int)] rfl rfl 43 _ HC5.out sizeRef rfl (one_ref _ _ _ _) ?_) | (refine wpL_val rfl (ex_ldP HTO2.out HX1'.out rfl rfl) ?_) | (refine wpList_store_mid rfl 28 (.tmp 33) (.tmp 32) rfl g5 (k * 41) (pcells tp).toArray rfl rfl HTH.out HSP.out (one_pc tp) ?_) | fail)
      go_roundw
      case rel => exact ⟨k + 1, by omega, by go_num, HNX.out⟩
      case measure => simp [intOf]; omega
    · obtain rfl : k = 8 := by omega
      have hre := refEnd_any rest sq cq e wr HRF.out
      rw [HM.out] at hre
      have HRE := Lib.hid hre
      have HNE := Lib.hid (refEnd_node HE.out (fun h => (HR.out h).1))
      obtain ⟨ee, hee⟩ : ∃ x, (refEnd rest e).2 = x := ⟨_, rfl⟩
      obtain ⟨er, her⟩ : ∃ x, (refEnd rest e).1 = x := ⟨_, rfl⟩
      rw [hee, her] at HRE
      rw [hee] at HNE
      clear hre hee her hk hlt
      rw [show ((8 : Nat) : Int) = (8 : Int) from rfl]
      go_wp2_with (first | (refine wpL_val rfl (ex_ld (ty := 43) (cs := [.slice sq m cq, .int .i64 (e : Int)]) rfl rfl (rng_all HB6.out) Tryd.underlying43 rfl HSR.out) ?_) | fail)
      refine HRE.out.mono ?_
      rintro e4 W4 ⟨sp4, cap4, rfl, -, hb4⟩
      unfold RefV
      have hfl := run_fieldE (.slice sp4 er.length cap4) (.int .i64 (ee : Int))
      obtain ⟨v4, hv4⟩ : ∃ v, Value.slice sp4 er.length cap4 = v := ⟨_, rfl⟩
      rw [hv4] at hfl ⊢
      clear hv4
      have HA4 := Lib.hid (HW.out.a.below hb4 HW.out.a.lt)
      have HN4 := Lib.hid (HB5.out.below hb4 HB5.out.lt)
      have HB4 := Lib.hid (HW.out.bel.trans (hb4.mono HW.out.bel.size))
      have HFD := Lib.hid (FiW.done (l := l) (w := w) (W := wr) (H := 0) (G := 0) (K := fun _ => True) HN.out HR.out)
      clear hb4 HW HB5 HB6 HRF HRE HR
      by_cases h0 : ee = 0
      · have hE : nodeE l = 0 := HNE.out.1 h0
        have hns : ns = nodeT l := by
          unfold nodeT
          rw [if_pos hE]
          have h8 : e = 0 := by
            have h9 := hE
            unfold nodeE at h9
            rw [if_pos (nodeE_long hE), ← HE.out] at h9
            exact h9
          exact (HFD.out h8).2
        rw [hns] at HN HN4
        have i2 : (ee : Int) = 0 := by omega
        rw [hE, show ((0 : Nat) : Int) = (0 : Int) from rfl]
        subst h0
        rw [show ((0 : Nat) : Int) = (0 : Int) from rfl] at hfl ⊢
        clear hE hns HFD HNE HE
        go_wp2_with (first | (refine wpL_valG (by rfl) (ex_ldN HN.out HA4.out rfl rfl) ?_) | (refine wpL_valG (by rfl) (ex_ldN HN.out HN4.out rfl rfl) ?_) | (refine wpL_valG (by rfl) (ex_eqNs HN.out rfl rfl rfl) ?_) | fail)
        refine (HWK.out W4 HB4.out).mono ?_
        rintro e w6 ⟨rfl, hb6⟩
        have HB6 := Lib.hid hb6
        clear hb6
        go_wp2_with fail
        go_ret
        exact ⟨rfl, HB6.out⟩
      · have hE : nodeE l ≠ 0 := fun h => h0 (HNE.out.2 h)
        have hE5 : nodeE l = 5 := (nodeE_five l).resolve_left hE
        have hT : nodeT l = holes := by unfold nodeT; rw [if_neg hE]
        have i2 : ¬ (ee : Int) = 0 := by omega
        rw [hT] at HA4
        rw [hE5, show ((5 : Nat) : Int) = (5 : Int) from rfl]
        clear h0 hE hE5 hT HFD HNE HE
        go_wp2_with (first | (refine wpL_valG (by rfl) (ex_ldN holes_ok HA4.out rfl rfl) ?_) | (refine wpL_valG (by rfl) (ex_bldN rfl) ?_) | (refine wpL_valG (by rfl) (ex_eqNs holes_ok rfl rfl rfl) ?_) | fail)
        refine (HWK.out W4 HB4.out).mono ?_
        rintro e w6 ⟨rfl, hb6⟩
        have HB6 := Lib.hid hb6
        clear hb6
        go_wp2_with fail
        go_ret
        exact ⟨rfl, HB6.out⟩
theorem nodeTakes_walk (l : Bs) (sp : Option Addr) (cap : Nat) (w : World) (hc : l.length ≤ cap) (_hm : cap ≤ maxLen) (hz : sp = none → cap = 0) (hS : SrcA w sp l) (hT : RTab w) :
    Calls Tryd.prog 4 #[.slice sp l.length cap] w fun e w' => e = .returned (.bool true) ∧ Below w.heap.size w w' := by
  by_cases h : l.length ≤ 600
  · exact nodeTakes_go l sp cap w h hc hz hS hT
  · obtain ⟨L, hL⟩ : ∃ L, l.length = L := ⟨_, rfl⟩
    rw [hL] at h ⊢
    have i1 : (600 : Int) < (L : Int) := by omega
    have HWK := Lib.hid (nwakes_any w hT)
    clear hc hz hS hT hL h
    go_enter Tryd.func4, Tryd.ntmps4
    go_wp2_with fail
    refine HWK.out.mono ?_
    rintro e w6 ⟨rfl, hb6⟩
    have HB6 := Lib.hid hb6
    clear hb6 HWK
    go_wp2_with fail
    go_ret
    exact ⟨rfl, HB6.out⟩
end Go.Proofs.YtincpdnmaiimnaaDoor
