/- The tree's hole, span, refuse, read. -/
import Derived.Test.YtjgjohdeeeoeoaaGreatDoorM15
import Derived.Handy
namespace Go.Proofs.YtjgjohdeeeoeoaaGreatDoor
open Go.RowKit
attribute [local go_sem] Oper.semAt_some
theorem trHole_any (p : Pt) (hp : p.OK) (w : World) : Calls Tryz.prog 94 #[.agg (pcells p).toArray] w fun e w' => e = .returned (.bool (eqP p zeroP)) ∧ Below w.heap.size w w' := by
  have HP := Lib.hid hp
  have HB := Lib.hid (Blk.new w (pcells p) 28)
  have HW : Hid (Below w.heap.size w (w.alloc (.cells (pcells p).toArray 28))) := Lib.hid ((Below.refl _ _).alloc (Nat.le_refl _) _)
  clear hp
  go_enter Tryz.func94, Tryz.ntmps94
  go_wp2_with (first | (refine wpL_val rfl (ex_ldP HP.out HB.out rfl rfl) ?_) | (refine wpL_val rfl (ex_bld0 rfl) ?_) | (refine wpL_val rfl (ex_eqP (p := p) (q := zeroP) rfl rfl rfl HP.out zeroP_ok) ?_) | fail)
  go_ret
  exact ⟨rfl, HW.out⟩
theorem span_any (lv : Nat) (h : lv ≤ 2) (w : World) : Calls Tryz.prog 97 #[.int .u8 (lv : Int)] w fun e w' => e = .returned (.int .u32 ((8 ^ lv : Nat) : Int)) ∧ w' = w := by
  have HL := Lib.hid h
  generalize hPost : (fun e w' => e = Ending.returned (.int .u32 ((8 ^ lv : Nat) : Int)) ∧ w' = w) = Post
  have HP : Hid (Post (.returned (.int .u32 ((8 ^ lv : Nat) : Int))) w) := Lib.hid (by rw [← hPost]; exact ⟨rfl, rfl⟩)
  clear h hPost
  go_enter Tryz.func97, Tryz.ntmps97
  go_wp2_with fail
  go_loopw [3, 5] (fun n i wr => ∃ k : Nat, k ≤ lv ∧ i = .int .u8 (k : Int) ∧ n = .int .u32 ((8 ^ k : Nat) : Int) ∧ wr = w) (fun _ i _ => lv - (intOf i).toNat)
  case atStart => exact ⟨0, by omega, rfl, rfl, rfl⟩
  case round =>
    obtain ⟨k, hk, rfl, rfl, rfl⟩ := hrel
    by_cases hlt : k < lv
    · have h2 := HL.out
      have e8 : ((8 ^ (k + 1) : Nat) : Int) = ((8 ^ k : Nat) : Int) * 8 := by rw [Nat.pow_succ]; simp
      have hw1 : IntKind.u8.wrap ((k : Int) + 1) = (k : Int) + 1 := by rw [IntKind.wrap_u8]; omega
      have hb : (8 ^ k : Nat) ≤ 8 := by
        have : k = 0 ∨ k = 1 := by omega
        rcases this with rfl | rfl <;> decide
      obtain ⟨x, hx⟩ : ∃ x, 8 ^ k = x := ⟨_, rfl⟩
      have HX := Lib.hid hx
      rw [hx] at hb e8 ⊢
      have hw2 : IntKind.u32.wrap ((x : Int) * 8) = (x : Int) * 8 := by rw [IntKind.wrap_u32]; omega
      clear hb h2
      go_wp2_with fail
      go_roundw
      case rel => exact ⟨k + 1, by omega, by go_num, by rw [e8], trivial⟩
      case measure => simp [intOf]; omega
    · obtain rfl : k = lv := by omega
      obtain ⟨x, hx⟩ : ∃ x, 8 ^ k = x := ⟨_, rfl⟩
      rw [hx] at HP ⊢
      clear hx hlt
      go_wp2_with fail
      first | exact HP.out | (go_ret; exact HP.out)
def refE (p : Pt) : Nat := if eqP p zeroP then 0 else if mayP p = false ∨ p.kind ≠ 3 ∨ p.level ≠ 2 then 1 else 0
def shI (D : Nat) : Value := .iface 45 (.pointer (some ⟨D, 0, none⟩))
set_option maxRecDepth 100000 in
set_option maxHeartbeats 4000000 in
theorem trRefuse_any (p : Pt) (hp : p.OK) (D : Nat) (w : World) (hT : RTab w) : Calls Tryz.prog 71 #[shI D, .agg (pcells p).toArray] w fun e w' => e = .returned (.int .i64 (refE p : Int)) ∧ Below w.heap.size w w' := by
  have HP := Lib.hid hp
  have HT := Lib.hid hT
  have HB := Lib.hid (Blk.new w (pcells p) 28)
  have HW : Hid (Below w.heap.size w (w.alloc (.cells (pcells p).toArray 28))) := Lib.hid ((Below.refl _ _).alloc (Nat.le_refl _) _)
  obtain ⟨re, hre⟩ : ∃ re, refE p = re := ⟨_, rfl⟩
  have HRE := Lib.hid hre
  rw [hre]
  generalize hPost : (fun e w' => e = Ending.returned (.int .i64 (re : Int)) ∧ Below w.heap.size w w') = Post
  have HPO : Hid (∀ w', Below w.heap.size w w' → Post (.returned (.int .i64 (re : Int))) w') := Lib.hid fun w' h => by rw [← hPost]; exact ⟨rfl, h⟩
  clear hp hT hre hPost
  unfold shI
  go_enter Tryz.func71, Tryz.ntmps71
  go_upto_region 1 with fail
  obtain ⟨G, hG⟩ : ∃ G, w.heap.size = G := ⟨_, rfl⟩
  have HWS : Hid (∀ W', Below (w.alloc (.cells (pcells p).toArray 28)).heap.size (w.alloc (.cells (pcells p).toArray 28)) W' → Below w.heap.size w W') := Lib.hid fun W' h => HW.out.trans (h.mono HW.out.size)
  have HTW : Hid (RTab (w.alloc (.cells (pcells p).toArray 28))) := Lib.hid (HT.out.alloc _)
  rw [hG] at HB ⊢
  generalize (w.alloc (.cells (pcells p).toArray 28)) = W at HB HWS HTW ⊢
  clear HW hG
  go_wp2_with (first | (refine wpL_val rfl (ex_ldP HP.out HB.out rfl rfl) ?_) | fail)
  refine (trHole_any p HP.out W).mono ?_
  rintro e W2 ⟨rfl, hb2⟩
  have HB2 := Lib.hid (HB.out.below hb2 HB.out.lt)
  have HT2 := Lib.hid (HTW.out.grown hb2)
  have HW2 := Lib.hid hb2
  clear hb2 HB HTW
  cases hz : eqP p zeroP
  · go_wp2_with (first | (refine wpL_val rfl (ex_ldP HP.out HB2.out rfl rfl) ?_) | fail)
    refine (may_any p HP.out W2 HT2.out).mono ?_
    rintro e W3 ⟨rfl, hb3⟩
    have HB3 := Lib.hid (HB2.out.below hb3 HB2.out.lt)
    have HE := Lib.hid (HPO.out W3 (HWS.out W3 (HW2.out.trans (hb3.mono HW2.out.size))))
    have c0 := HB3.out.cell (j := 0) rfl
    have c1 := HB3.out.cell (j := 1) rfl
    obtain ⟨kk, hkk⟩ : ∃ k, p.kind = k := ⟨_, rfl⟩
    obtain ⟨ll, hll⟩ : ∃ k, p.level = k := ⟨_, rfl⟩
    have hre2 : re = if mayP p = false ∨ kk ≠ 3 ∨ ll ≠ 2 then 1 else 0 := by rw [← HRE.out, ← hkk, ← hll]; unfold refE; rw [hz]; rfl
    have HRE2 := Lib.hid hre2
    rw [hkk] at c0
    rw [hll] at c1
    clear hb3 HB2 HT2 HW2 HWS HRE hre2 hkk hll hz
    cases hm : mayP p
    · obtain rfl : re = 1 := by rw [HRE2.out, if_pos (.inl hm)]
      go_wp2_with fail
      first | exact HE.out | (go_ret; exact HE.out)
    · by_cases h3 : kk = 3
      · subst h3
        by_cases h2 : ll = 2
        · subst h2
          obtain rfl : re = 0 := by rw [HRE2.out, if_neg (by simp [hm])]
          go_wp2_with fail
          first | exact HE.out | (go_ret; exact HE.out)
        · obtain rfl : re = 1 := by rw [HRE2.out, if_pos (.inr (.inr h2))]
          have h2' : ¬ (ll : Int) = 2 := by omega
          go_wp2_with fail
          first | exact HE.out | (go_ret; exact HE.out)
      · obtain rfl : re = 1 := by rw [HRE2.out, if_pos (.inr (.inl h3))]
        have h3' : ¬ (kk : Int) = 3 := by omega
        go_wp2_with fail
        first | exact HE.out | (go_ret; exact HE.out)
  · obtain rfl : re = 0 := by rw [← HRE.out]; unfold refE; rw [hz]; rfl
    have HE := Lib.hid (HPO.out W2 (HWS.out W2 HW2.out))
    go_wp2_with fail
    first | exact HE.out | (go_ret; exact HE.out)
def rnE (s : Sh) (p : Pt) : Nat := if eqP p zeroP = true then 0 else if rdE s p ≠ 0 then rdE s p else if nodeE (rdB s p) ≠ 0 then 21 else 0
def rnN (s : Sh) (p : Pt) : List Pt := if eqP p zeroP = true then holes else if rdE s p ≠ 0 then holes else nodeT (rdB s p)
def rnS (s : Sh) (p : Pt) : Sh := if eqP p zeroP = true then s else rdS s p
theorem rnN_ok (s : Sh) (p : Pt) : NOK (rnN s p) := by
  unfold rnN
  split
  · exact holes_ok
  · split
    · exact holes_ok
    · exact nodeT_ok _
structure Lim (n : Nat) (s : Sh) : Prop where
  rd : s.read0.length ≤ n
  md : s.made.length ≤ n
  gn : s.gone.length ≤ n
  n : n < 100000000
  bl : s.blocks.length ≤ 30000
  bd : s.bad.length ≤ 1000
  rm : -1 ≤ s.room ∧ s.room ≤ 1000
theorem results_csN {fn : Func} {p u : Tmp} (h : fn.results = #[.cell p 170, .tmp u]) (tmps : Array Value) (w : World) (g t : Nat) (cs : List Value)
    (hp : tmps.getD p undef = .pointer (some ⟨g, 0, none⟩)) (hg : Blk w g cs t) (hi : (Tryz.prog.info? 170).map (·.size) = some cs.length) :
    (results fn tmps).run Tryz.prog w = .ok (.tuple #[.agg cs.toArray, tmps.getD u undef]) w := results_ct h tmps w g t cs hp hg Tryz.underlying170 hi
def RnPost (L : Nat → Nat) (w : World) (D : Nat) (s : Sh) (p : Pt) (e : Ending) (w' : World) : Prop := e = .returned (.tuple #[.agg (ncells (rnN s p)).toArray, .int .i64 (rnE s p : Int)]) ∧ ShPost 5 L w D (rnS s p) w'
structure RnS (L : Nat → Nat) (w : World) (D G : Nat) (s1 : Sh) (p : Pt) (X : World) : Prop where
  sh : ∃ L1 v1, ShAt X L1 D s1 v1 ∧ Mv 5 L w L1 X ∧ L1 G = 0 ∧ L1 (G + 1) = 0
  box : Blk X G (pcells p) 28
  res : Blk X (G + 1) (ncells holes) 170
  lo : w.heap.size ≤ G
theorem RnS.below {L : Nat → Nat} {w : World} {D G : Nat} {s1 : Sh} {p : Pt} {X Y : World} (h : RnS L w D G s1 p X) (hb : Below X.heap.size X Y) : RnS L w D G s1 p Y := by
  obtain ⟨⟨L1, v1, h1, h2, h3, h4⟩, hg, hr, hlo⟩ := h
  exact ⟨⟨L1, v1, h1.below hb, h2.trans (Mv.of_below hb h1.lt), h3, h4⟩, hg.below hb hg.lt, hr.below hb hr.lt, hlo⟩
theorem RnS.ends {L : Nat → Nat} {w : World} {D G : Nat} {s1 : Sh} {p : Pt} {X : World} (h : RnS L w D G s1 p X) (ns : List Pt) : ShPost 5 L w D s1 (X.setRow (G + 1) (ncells ns).toArray) ∧ Blk (X.setRow (G + 1) (ncells ns).toArray) (G + 1) (ncells ns) 170 := by
  obtain ⟨⟨L1, v1, h1, h2, h3, h4⟩, hg, hr, hlo⟩ := h
  have hc := chgR X (G + 1) (ncells ns).toArray
  have hz : (X.setRow (G + 1) (ncells ns).toArray).heap.size = X.heap.size := by simp
  refine ⟨⟨L1, v1, h1.out hc (fun g e _ => .inl (by rw [e]; exact h4)) (fun _ _ => .inl rfl) (fun g hg => by rw [hz]; exact h1.lt g hg), ?_⟩, hr.row _⟩
  exact ⟨h2.chg.trans hc (fun g e => by right; have : g = G + 1 := e; omega), h2.old, h2.new⟩
set_option maxRecDepth 100000 in
set_option maxHeartbeats 8000000 in
theorem trRead_any {w : World} {L : Nat → Nat} {D : Nat} {s : Sh} {v : Sv} {n : Nat} (p : Pt) (hp : p.OK) (h : ShAt w L D s v) (hn : Lim n s) : Calls Tryz.prog 95 #[shI D, .agg (pcells p).toArray] w (RnPost L w D s p) := by
  have HPO := Lib.hid hp
  have HN := Lib.hid hn
  have HX : Hid (∀ z, z = (ncells holes).toArray → RnS L w D w.heap.size s p ((w.alloc (.cells (pcells p).toArray 28)).alloc (.cells z 170))) := Lib.hid (fun z hz => by
    subst hz
    have hw1 : Below w.heap.size w ((w.alloc (.cells (pcells p).toArray 28)).alloc (.cells (ncells holes).toArray 170)) := ((Below.refl _ _).alloc (Nat.le_refl _) _).alloc (by simp) _
    exact ⟨⟨L, v, h.below hw1, Mv.of_below hw1 h.lt, h.not (Nat.le_refl _), h.not (by omega)⟩, (Blk.new _ _ _).alloc _, Blk.new' _ _ _ _ _ (by simp) rfl, Nat.le_refl _⟩)
  generalize hPost : RnPost L w D s p = Post
  have HP : Hid (∀ w', ShPost 5 L w D (rnS s p) w' → Post (.returned (.tuple #[.agg (ncells (rnN s p)).toArray, .int .i64 (rnE s p : Int)])) w') := Lib.hid fun w' h => by rw [← hPost]; exact ⟨rfl, h⟩
  have HSH := Lib.hid (size_nc holes_ok)
  have HOH := Lib.hid (ncells_one holes_ok.ok)
  clear hp h hn hPost
  unfold shI
  go_enter Tryz.func95, Tryz.ntmps95
  go_upto_region 1 with fail
  refine (fun (k : ∀ W, RnS L w D w.heap.size s p W → Code.wp _ _ _ _ W) => k _ (HX.out _ rfl)) ?_
  intro W hW
  obtain ⟨G, hG⟩ : ∃ G, w.heap.size = G := ⟨_, rfl⟩
  rw [hG] at hW ⊢
  clear HX
  have HX := Lib.hid hW
  clear hW
  go_wp2_with (first | (refine wpL_val rfl (ex_ldP HPO.out HX.out.box rfl rfl) ?_) | fail)
  refine (trHole_any p HPO.out W).mono ?_
  rintro e W2 ⟨rfl, hb2⟩
  have HX2 := Lib.hid (HX.out.below hb2)
  clear hb2 HX
  cases hz : eqP p zeroP
  · have HE : Hid (rnS s p = rdS s p ∧ rnE s p = (if rdE s p ≠ 0 then rdE s p else if nodeE (rdB s p) ≠ 0 then 21 else 0) ∧ rnN s p = if rdE s p ≠ 0 then holes else nodeT (rdB s p)) := Lib.hid (by unfold rnS rnE rnN; rw [hz]; exact ⟨rfl, rfl, rfl⟩)
    obtain ⟨⟨L1, v1, h1, h2, h3, h4⟩, h5, h6, h7⟩ := HX2.out
    have HRD := Lib.hid (shRead_any p HPO.out h1 (by have := HN.out.rd; have := HN.out.n; omega) HN.out.bl HN.out.bd)
    have HM : Hid (∀ e X, RdPost 5 L1 W2 D s p e X → ∃ val L3, e = .returned (.tuple #[val, .int .i64 (rdE s p : Int)]) ∧ RnS L w D G (rdS s p) p X ∧ BkV X L3 val (rdB s p)) := Lib.hid (by
      rintro e X ⟨val, L3, v3, rfl, k1, k2, k3⟩
      exact ⟨val, L3, rfl, ⟨⟨L3, v3, k1, h2.trans k2, (k2.old G h5.lt).trans h3, (k2.old (G + 1) h6.lt).trans h4⟩, k2.blk h5 h3, k2.blk h6 h4, h7⟩, k3⟩)
    clear h1 h2 h3 h4 h5 h6 h7
    go_wp2_with (first | (refine wpL_val rfl (ex_ldP HPO.out HX2.out.box rfl rfl) ?_) | fail)
    refine HRD.out.mono ?_
    intro e X hpost
    obtain ⟨val, L3, rfl, hx3, hbk⟩ := HM.out e X hpost
    have HX3 := Lib.hid hx3
    have HBK := Lib.hid hbk
    clear hpost hx3 hbk HM HRD HX2
    obtain ⟨re, hre⟩ : ∃ re, rdE s p = re := ⟨_, rfl⟩
    rw [hre] at HE ⊢
    by_cases h0 : re = 0
    · subst h0
      obtain ⟨sp, cap, rfl, hc, hz1, hS, -⟩ := HBK.out
      obtain ⟨⟨L4, v4, h4, -⟩, -⟩ := HX3.out
      have htk := nodeTake_any (rdB s p) sp cap X hz1 hc hS h4.tab.1
      obtain ⟨ln, hln⟩ : ∃ ln, (rdB s p).length = ln := ⟨_, rfl⟩
      rw [hln] at htk ⊢
      have HTK := Lib.hid htk
      have HTO := Lib.hid (nodeT_ok (rdB s p))
      have HST := Lib.hid (size_nc HTO.out)
      have HSA : Hid ((ncells (nodeT (rdB s p))).toArray.size = 328) := Lib.hid HTO.out.size
      have HOT := Lib.hid (ncells_one HTO.out.ok)
      clear hc hz1 hS htk h4 hln HBK hre
      go_wp2_with fail
      refine HTK.out.mono ?_
      rintro e X4 ⟨rfl, hb4⟩
      have HX4 := Lib.hid (HX3.out.below hb4)
      clear hb4 HX3 HTK
      obtain ⟨ns, hns⟩ : ∃ ns, nodeT (rdB s p) = ns := ⟨_, rfl⟩
      obtain ⟨ne, hne⟩ : ∃ ne, nodeE (rdB s p) = ne := ⟨_, rfl⟩
      rw [hns] at HTO HST HSA HOT
      rw [hns, hne] at HE
      rw [hns, hne]
      have HNT : Hid (ne ≠ 0 → ns = holes) := Lib.hid (fun h => by rw [← hns]; unfold nodeT; rw [hne, if_neg h])
      clear hns hne
      go_upto_region 7 with (first | (refine wpList_store_row rfl 170 (.tmp 8) (.tmp 25) rfl X4.heap.size (ncells ns).toArray rfl rfl 170 _ (heap_alloc_new X4 _) HST.out (by rw [HSA.out]; rfl) HOT.out ?_) | fail)
      refine (fun (k : ∀ W, RnS L w D G (rdS s p) p W → Blk W X4.heap.size (ncells ns) 170 → Code.wp _ _ _ _ W) => k _ (HX4.out.below (blk_row1 X4 _ (ncells ns) 170).2) (blk_row1 X4 _ (ncells ns) 170).1) ?_
      intro X5 hX5 hb5
      have HX5 := Lib.hid hX5; have HB5 := Lib.hid hb5
      obtain ⟨G5, hG5⟩ : ∃ g, X4.heap.size = g := ⟨_, rfl⟩
      rw [hG5] at HB5 ⊢
      have HRB := Lib.hid hX5.res
      clear hX5 hb5 HX4 hG5
      by_cases hn0 : ne = 0
      · subst hn0
        obtain ⟨e1, e2, e3⟩ := HE.out
        rw [if_neg (by simp), if_neg (by simp)] at e2
        rw [if_neg (by simp)] at e3
        have HBE := Lib.hid (HX5.out.ends ns)
        have HEND := Lib.hid (HP.out _ (by rw [e1]; exact HBE.out.1))
        rw [e2, e3] at HEND
        have HZN : Hid ((ncells holes).toArray.size = (ncells ns).toArray.size) := Lib.hid (by rw [HSA.out, holes_ok.size])
        clear e1 e2 e3 HE
        go_wp2_with (first | (refine wpL_val rfl (ex_ldN HTO.out HB5.out rfl rfl) ?_) | (refine wpList_store_row rfl 170 (.tmp 4) (.tmp 30) rfl (G + 1) (ncells ns).toArray rfl rfl 170 _ HRB.out HST.out HZN.out HOT.out ?_) | fail)
        refine bodyPost_ret (results_csN Tryz.results95 _ _ (G + 1) 170 _ rfl HBE.out.2 (size_ncl HTO.out)) rfl ?_
        exact HEND.out
      · obtain ⟨e1, e2, e3⟩ := HE.out
        rw [if_neg (by simp), if_pos hn0] at e2
        rw [if_neg (by simp), HNT.out hn0] at e3
        have HBE := Lib.hid (HX5.out.ends holes)
        have HEND := Lib.hid (HP.out _ (by rw [e1]; exact HBE.out.1))
        rw [e2, e3] at HEND
        have hn0' : ¬ (ne : Int) = 0 := by omega
        clear e1 e2 e3 HE hn0
        go_wp2_with (first | (refine wpL_val rfl (ex_bldN rfl) ?_) | (refine wpList_store_row rfl 170 (.tmp 4) (.tmp 29) rfl (G + 1) (ncells holes).toArray rfl rfl 170 _ HRB.out HSH.out rfl HOH.out ?_) | fail)
        refine bodyPost_ret (results_csN Tryz.results95 _ _ (G + 1) 170 _ rfl HBE.out.2 (size_ncl holes_ok)) rfl ?_
        exact HEND.out
    · obtain ⟨e1, e2, e3⟩ := HE.out
      rw [if_pos h0] at e2
      rw [if_pos h0] at e3
      have HBE := Lib.hid (HX3.out.ends holes)
      have HEND := Lib.hid (HP.out _ (by rw [e1]; exact HBE.out.1))
      rw [e2, e3] at HEND
      have HRB := Lib.hid HX3.out.res
      have h0' : ¬ (re : Int) = 0 := by omega
      clear e1 e2 e3 HE h0 hre
      go_wp2_with (first | (refine wpL_val rfl (ex_bldN rfl) ?_) | (refine wpList_store_row rfl 170 (.tmp 4) (.tmp 20) rfl (G + 1) (ncells holes).toArray rfl rfl 170 _ HRB.out HSH.out rfl HOH.out ?_) | fail)
      refine bodyPost_ret (results_csN Tryz.results95 _ _ (G + 1) 170 _ rfl HBE.out.2 (size_ncl holes_ok)) rfl ?_
      exact HEND.out
  · have HBE := Lib.hid (HX2.out.ends holes)
    have HEND := Lib.hid (HP.out _ (by unfold rnS; rw [hz]; exact HBE.out.1))
    have e2 : rnE s p = 0 := by unfold rnE; rw [hz]; rfl
    have e3 : rnN s p = holes := by unfold rnN; rw [hz]; rfl
    rw [e2, e3] at HEND
    have HRB := Lib.hid HX2.out.res
    clear e2 e3 hz
    go_wp2_with (first | (refine wpL_val rfl (ex_bldN rfl) ?_) | (refine wpList_store_row rfl 170 (.tmp 4) (.tmp 11) rfl (G + 1) (ncells holes).toArray rfl rfl 170 _ HRB.out HSH.out rfl HOH.out ?_) | fail)
    refine bodyPost_ret (results_csN Tryz.results95 _ _ (G + 1) 170 _ rfl HBE.out.2 (size_ncl holes_ok)) rfl ?_
    exact HEND.out
abbrev Lf := Nat × Pt
def lcells (x : Lf) : List Value := .int .u32 (x.1 : Int) :: pcells x.2
def Lf.OK (x : Lf) : Prop := x.1 < 4294967296 ∧ x.2.OK
theorem lcells_length {x : Lf} (h : x.2.OK) : (lcells x).length = 42 := by simp [lcells, pcells_length h]
def lrows (l : List Lf) : List Value := l.flatMap lcells
theorem lrows_snoc (l : List Lf) (x : Lf) : lrows (l ++ [x]) = lrows l ++ lcells x := by simp [lrows]
abbrev OwnL (w : World) (B : Nat) (v : Value) (l : List Lf) : Prop := w.ownsRow B 110 42 v l.length (lrows l)
theorem infoLf : (Tryz.prog.info? 110).map (fun i => (i.zero.map (·.cells.size), i.size, i.bytes)) = some (some 42, 42, 64) := by kernel_rfl
theorem info_partsLf : ∃ i z, Tryz.prog.info? 110 = some i ∧ i.zero = some z ∧ z.cells.size = 42 ∧ i.size = 42 ∧ i.bytes = 64 := by
  obtain ⟨i, h1, h2⟩ := Option.map_eq_some_iff.1 infoLf
  simp only [Prod.mk.injEq] at h2
  obtain ⟨z, hz, hz2⟩ := Option.map_eq_some_iff.1 h2.1
  exact ⟨i, z, h1, hz, hz2, h2.2.1, h2.2.2⟩
theorem sizeLf : (Tryz.prog.info? 110).map (·.size) = some 42 := by kernel_rfl
theorem one_lcells (x : Lf) : ∀ u ∈ lcells x, u.oneCell' = true := fun u hu => by
  simp only [lcells, List.mem_cons] at hu
  rcases hu with rfl | hu
  · rfl
  · exact one_pcells x.2 u hu
theorem ownL_app {w : World} {B : Nat} {v : Value} {l : List Lf} (h : OwnL w B v l) (hB : B ≤ w.heap.size) (hl : l.length < 100000000) {x : Lf} (hx : x.2.OK) {g : Nat} {t : TypeId} (hg : Blk w g (lcells x) t) (ty : TypeId) :
    ∃ v' w', (Builtin.append_ #[95, 95] ty #[v, .slice (some ⟨g, 0, none⟩) 1 1]).run Tryz.prog w = .ok v' w' ∧ OwnL w' B v' (l ++ [x]) ∧ w.grownBy w' v.ownBlock ∧ (v'.ownBlock = v.ownBlock ∨ v'.ownBlock = some w.heap.size) := by
  obtain ⟨i0, z, hi, hz0, hz1, hz2, hz3⟩ := info_partsLf
  obtain ⟨v', w', hr, h2, h3, _, h5⟩ := run_append_own_at (P := Tryz.prog) w B 95 ty 110 i0 z 42 64 Tryz.underlying95 hi hz0 hz2 hz3 hz1 (by decide) v l.length (lrows l) h ⟨g, 0, none⟩ 1 1 (lcells x) (by rw [lcells_length hx]) (fun j y hj => by
    rw [Addr.add_mid, Nat.zero_add]
    exact hg.cell hj) (one_lcells x) (by unfold maxLen; omega) (by omega) hB
  refine ⟨v', w', hr, ?_, h3, h5⟩
  unfold OwnL
  rw [lrows_snoc, List.length_append]
  exact h2
section
variable {ρ : Operand → Value} {o : Oper} {x y : Operand} {w : World}
theorem ex_ldLs {ad : Addr} {v : Value} (ho : o.op = .load 95 x) (hx : ρ x = .pointer (some ad)) (hc : w.cell? ad = some v) : (execOp ρ o).run Tryz.prog w = .ok (.value v) w := by
  unfold execOp; simp only [ho]; go_simp
theorem ex_ldLf {l : Lf} (hl : l.2.OK) {g : Nat} {t' : TypeId} (hB : Blk w g (lcells l) t') (ho : o.op = .load 110 x) (hx : ρ x = .pointer (some ⟨g, 0, none⟩)) : (execOp ρ o).run Tryz.prog w = .ok (.value (.agg (lcells l).toArray)) w :=
  ex_ld (ty := 110) (cs := lcells l) ho hx (rng_all hB) Tryz.underlying110 rfl (by rw [sizeLf, lcells_length hl])
theorem ex_oneL {l : Lf} (hl : l.2.OK) (ho : o.op = .buildSlice 95 1 #[(0, x)]) (hx : ρ x = .agg (lcells l).toArray) :
    (execOp ρ o).run Tryz.prog w = .ok (.value (.slice (some ⟨w.heap.size, 0, none⟩) 1 1)) (w.alloc (.cells (lcells l).toArray 110)) := by
  obtain ⟨i, z, hi, hz, hzs, his, _⟩ := info_partsLf
  have hr := run_buildSlice (P := Tryz.prog) w 95 110 1 #[(0, .agg (lcells l).toArray)] (lcells l).toArray i z Tryz.underlying95 hi hz (by rw [his]; omega) (by rw [his]; omega)
    (fill_whole (size := 42) (by simp [his]) (by simp [Value.cells, lcells_length hl]) (by simp [his]))
  unfold execOp
  simp only [ho]
  rw [show (Array.map (fun x : Nat × Operand => (x.1, ρ x.2)) #[(0, x)]) = #[(0, .agg (lcells l).toArray)] by simp [hx]]
  simp only [Sem.run_bind, hr, Result.andThen_ok]
  rfl
theorem ex_appL {v u v' : Value} {w w' : World} (ho : o.op = .call { callee := .builtin .append, args := #[x, y], argTypes := #[95, 95] }) (hx : ρ x = v) (hy : ρ y = u)
    (hr : (Builtin.append_ #[95, 95] o.type #[v, u]).run Tryz.prog w = .ok v' w') : (execOp ρ o).run Tryz.prog w = .ok (.value v') w' := by
  unfold execOp
  simp only [ho, resolve, invoke, builtin, Sem.run_bind, Sem.run_pure, Result.andThen_ok, List.map_toArray, List.map_cons, List.map_nil, hx, hy, hr]
end
def lastP (l : List Lf) : Pt := (l.getLast?.map (·.2)).getD zeroP
theorem lastP_snoc (l : List Lf) (x : Lf) : lastP (l ++ [x]) = x.2 := by simp [lastP]
def GaAt (w : World) (L : Nat → Nat) (md : Bool) (Bx : Nat) (ls : List Lf) : Prop :=
  if md then ∃ sv, Blk w Bx [sv] 95 ∧ OwnL w 0 sv ls ∧ ∀ g, sv.ownBlock = some g → L g = 9 else Blk w Bx (pcells (lastP ls)) 28
def leafF (md : Bool) (Bx : Nat) : Value := fval (if md then 74 else 91) #[.pointer (some ⟨Bx, 0, none⟩)]
def wkcells (D fr tt : Nat) (nv : Value) (md : Bool) (Bx : Nat) : List Value := [shI D, .int .u32 (fr : Int), .int .u32 (tt : Int), nv, leafF md Bx]
structure WkAt (w : World) (L : Nat → Nat) (D Wk Bx : Nat) (md : Bool) (fr tt : Nat) (s : Sh) (ns : List Pt) (ls : List Lf) : Prop where
  sh : ∃ v, ShAt w L D s v
  wk : ∃ nv, Blk w Wk (wkcells D fr tt nv md Bx) 149 ∧ OwnM w 0 nv ns ∧ ∀ g, nv.ownBlock = some g → L g = 8
  ga : GaAt w L md Bx ls
  l7 : L Wk = 7
  l6 : L Bx = 6
  okn : ∀ q ∈ ns, q.OK
  okl : ∀ x ∈ ls, Lf.OK x
section
variable {w w' : World} {L L' : Nat → Nat} {D Wk Bx fr tt : Nat} {md : Bool} {s s' : Sh} {ns : List Pt} {ls : List Lf}
theorem GaAt.chg {F : Nat → Prop} (h : GaAt w L md Bx ls) (hc : Chg F w w') (hB : ¬ F Bx) (hF : ∀ g, F g → L g ≠ 9) (hL : ∀ g, g < w.heap.size → L' g = L g) : GaAt w' L' md Bx ls := by
  unfold GaAt at *
  cases md
  · exact Blk.chg h hc hB
  · obtain ⟨sv, h1, h2, h3⟩ := h
    exact ⟨sv, h1.chg hc hB, owns_chg h2 hc (fun g hg hf => hF g hf (h3 g hg)), fun g hg => (hL g (owns_lt h2 hg)).trans (h3 g hg)⟩
theorem GaAt.lt (h : GaAt w L md Bx ls) : Bx < w.heap.size := by
  unfold GaAt at h
  cases md
  · exact Blk.lt h
  · obtain ⟨sv, h1, _⟩ := h; exact h1.lt
theorem WkAt.shelf {v' : Sv} (h : WkAt w L D Wk Bx md fr tt s ns ls) (hs : ShAt w' L' D s' v') (hm : Mv 5 L w L' w') : WkAt w' L' D Wk Bx md fr tt s' ns ls := by
  obtain ⟨nv, h1, h2, h3⟩ := h.wk
  have hf : ∀ g, 6 ≤ L g → ¬ Foot 5 L g := fun g hg hf => by unfold Foot at hf; omega
  refine ⟨⟨v', hs⟩, ⟨nv, h1.chg hm.chg (hf _ (by rw [h.l7]; omega)), owns_chg h2 hm.chg (fun g hg => hf g (by rw [h3 g hg]; omega)), fun g hg => (hm.old g (owns_lt h2 hg)).trans (h3 g hg)⟩, h.ga.chg hm.chg (hf _ (by rw [h.l6]; omega)) (fun g hg e => hf g (by omega) hg) hm.old, (hm.old _ h1.lt).trans h.l7, (hm.old _ h.ga.lt).trans h.l6, h.okn, h.okl⟩
theorem WkAt.below (h : WkAt w L D Wk Bx md fr tt s ns ls) (hb : Below w.heap.size w w') : WkAt w' L D Wk Bx md fr tt s ns ls := by
  obtain ⟨v, hs⟩ := h.sh
  exact h.shelf (hs.below hb) (Mv.of_below hb hs.lt)
theorem WkAt.drew (h : WkAt w L D Wk Bx md fr tt s ns ls) : WkAt w.drew L D Wk Bx md fr tt s ns ls := h.below (Below.refl _ _).drew
def WkPost (L : Nat → Nat) (w : World) (D Wk Bx : Nat) (md : Bool) (fr tt : Nat) (s' : Sh) (ns' : List Pt) (ls' : List Lf) (w' : World) : Prop := ∃ L', WkAt w' L' D Wk Bx md fr tt s' ns' ls' ∧ Mv 9 L w L' w'
theorem WkPost.of_below (h : WkAt w L D Wk Bx md fr tt s ns ls) (hb : Below w.heap.size w w') : WkPost L w D Wk Bx md fr tt s ns ls w' := by
  obtain ⟨v, hs⟩ := h.sh
  exact ⟨L, h.below hb, Mv.of_below hb hs.lt⟩
theorem WkPost.mv {w1 w2 : World} {L1 : Nat → Nat} {s' : Sh} {ns' : List Pt} {ls' : List Lf} (h : Mv 9 L w L1 w1) (k : WkPost L1 w1 D Wk Bx md fr tt s' ns' ls' w2) : WkPost L w D Wk Bx md fr tt s' ns' ls' w2 := by
  obtain ⟨L2, h2, k2⟩ := k
  exact ⟨L2, h2, h.trans k2⟩
theorem WkPost.pre {w1 w2 : World} {s' : Sh} {ns' : List Pt} {ls' : List Lf} (h : WkAt w L D Wk Bx md fr tt s ns ls) (hb : Below w.heap.size w w1) (k : WkPost L w1 D Wk Bx md fr tt s' ns' ls' w2) : WkPost L w D Wk Bx md fr tt s' ns' ls' w2 := by
  obtain ⟨v, hs⟩ := h.sh
  exact WkPost.mv (Mv.of_below hb hs.lt) k
end
theorem getC_any {w : World} {L : Nat → Nat} {D Wk Bx fr tt : Nat} {s : Sh} {ns : List Pt} {ls : List Lf} (x : Lf) (hx : Lf.OK x) (h : WkAt w L D Wk Bx false fr tt s ns ls) :
    Calls Tryz.prog 91 #[.agg (lcells x).toArray, .pointer (some ⟨Bx, 0, none⟩)] w fun e w' => e = .returned (.tuple #[]) ∧ WkPost L w D Wk Bx false fr tt s ns (ls ++ [x]) w' := by
  have HX := Lib.hid hx
  have hw1 : Below w.heap.size w (w.alloc (.cells (lcells x).toArray 110)) := (Below.refl _ _).alloc (Nat.le_refl _) _
  have HB : Hid (Blk (w.alloc (.cells (lcells x).toArray 110)) w.heap.size (lcells x) 110) := Lib.hid (Blk.new _ _ _)
  have h1 := h.below hw1
  have HG : Hid (Blk (w.alloc (.cells (lcells x).toArray 110)) Bx (pcells (lastP ls)) 28) := Lib.hid h1.ga
  have HLP : Hid ((pcells (lastP ls)).toArray.size = (pcells x.2).toArray.size) := Lib.hid (by
    have e : (lastP ls).OK := by
      unfold lastP
      cases hl : ls.getLast? with
      | none => exact zeroP_ok
      | some y => exact (h.okl y (List.mem_of_getLast? hl)).2
    rw [List.size_toArray, List.size_toArray, pcells_length e, pcells_length hx.2])
  have HSP := Lib.hid (size_pc hx.2)
  have HR : Hid ((w.alloc (.cells (lcells x).toArray 110)).rangeAt w.heap.size 1 (pcells x.2)) := Lib.hid (by
    have := (Blk.new w (lcells x) 110).rng [.int .u32 (x.1 : Int)] (pcells x.2) [] (by simp [lcells])
    exact this)
  generalize hPost : (fun e w' => e = Ending.returned (.tuple #[]) ∧ WkPost L w D Wk Bx false fr tt s ns (ls ++ [x]) w') = Post
  have HP : Hid (Post (.returned (.tuple #[])) ((w.alloc (.cells (lcells x).toArray 110)).setRow Bx (pcells x.2).toArray)) := Lib.hid (by
    rw [← hPost]
    refine ⟨rfl, ?_⟩
    generalize (w.alloc (.cells (lcells x).toArray 110)) = W at h1 hw1 HG
    obtain ⟨v, hs⟩ := h1.sh
    obtain ⟨nv, k1, k2, k3⟩ := h1.wk
    have hc := chgR W Bx (pcells x.2).toArray
    have hz : (W.setRow Bx (pcells x.2).toArray).heap.size = W.heap.size := by simp
    have hs2 : ShAt (W.setRow Bx (pcells x.2).toArray) L D s v := hs.out hc (fun g e _ => .inr (by rw [e, h1.l6]; omega)) (fun _ _ => .inl rfl) (fun g hg => by rw [hz]; exact hs.lt g hg)
    refine ⟨L, ⟨⟨v, hs2⟩, ⟨nv, k1.chg hc (fun e => by have h6 := h1.l6; rw [← e, h1.l7] at h6; omega), owns_chg k2 hc (fun g hg e => by have h6 := h1.l6; rw [← e, k3 g hg] at h6; omega), k3⟩, ?_, h1.l7, h1.l6, h1.okn, fun y hy => ?_⟩, ?_⟩
    · show Blk _ Bx (pcells (lastP (ls ++ [x]))) 28
      rw [lastP_snoc]
      exact HG.out.row _
    · rcases List.mem_append.1 hy with hy | hy
      · exact h1.okl y hy
      · simp at hy; subst hy; exact hx
    · obtain ⟨v0, hs0⟩ := h.sh
      refine (Mv.of_below hw1 hs0.lt).trans ⟨hc.mono (fun g e => ?_), fun _ _ => rfl, fun g hg => ?_⟩
      · have e : g = Bx := e
        unfold Foot; rw [e, h1.l6]; omega
      · left; have := hs.lt g; omega)
  clear hx h h1 hw1 hPost
  go_enter Tryz.func91, Tryz.ntmps91
  go_upto_region 1 with fail
  obtain ⟨G, hG⟩ : ∃ G, w.heap.size = G := ⟨_, rfl⟩
  rw [hG] at HB HR ⊢
  generalize (w.alloc (.cells (lcells x).toArray 110)) = W at HB HG HR HP ⊢
  go_wp2_with (first | (refine wpL_val rfl (ex_ld (ty := 28) (cs := pcells x.2) rfl rfl HR.out Tryz.underlying28 rfl (by rw [sizeP, pcells_length HX.out.2])) ?_) | (refine wpList_store_row rfl 28 (.tmp 1) (.tmp 4) rfl Bx (pcells x.2).toArray rfl rfl 28 _ HG.out HSP.out HLP.out (one_pc x.2) ?_) | fail)
  go_end0
  exact HP.out
theorem leaf_here {W w2 : World} {L : Nat → Nat} {D Wk Bx fr tt : Nat} {s : Sh} {ns : List Pt} {ls : List Lf} (x : Lf) (hx : Lf.OK x) (h : WkAt W L D Wk Bx true fr tt s ns ls) (hw2 : w2 = W.alloc (.cells (lcells x).toArray 110)) (hl : ls.length < 100000000) :
    ∃ sp n cap sp3 n3 cap3 w3, W.cell? ⟨Bx, 0, none⟩ = some (.slice sp n cap) ∧ (Builtin.append_ #[95, 95] 95 #[.slice sp n cap, .slice (some ⟨W.heap.size, 0, none⟩) 1 1]).run Tryz.prog w2 = .ok (.slice sp3 n3 cap3) w3 ∧ (∃ c, w3.cell? ⟨Bx, 0, none⟩ = some c) ∧ w3.frozen? ⟨Bx, 0, none⟩ = false ∧
      WkPost L W D Wk Bx true fr tt s ns (ls ++ [x]) (w3.setCell ⟨Bx, 0, none⟩ (.slice sp3 n3 cap3)) := by
  subst hw2
  have hw2 : Below W.heap.size W (W.alloc (.cells (lcells x).toArray 110)) := (Below.refl _ _).alloc (Nat.le_refl _) _
  obtain ⟨v, hs⟩ := h.sh
  obtain ⟨nv, k1, k2, k3⟩ := h.wk
  obtain ⟨sv, g1, g2, g3⟩ := h.ga
  have g2' : OwnL (W.alloc (.cells (lcells x).toArray 110)) 0 sv ls := owns_chg g2 (Chg.of_below (F := fun _ => False) hw2) (fun _ _ h => h)
  have hnew : Blk (W.alloc (.cells (lcells x).toArray 110)) W.heap.size (lcells x) 110 := Blk.new _ _ _
  obtain ⟨v3, w3, hr, ho3, hg3, hn3⟩ := ownL_app g2' (Nat.zero_le _) hl hx.2 hnew 95
  obtain ⟨sp, cap, e, _⟩ := owns_form g2
  obtain ⟨sp3, cap3, e3, _⟩ := owns_form ho3
  have hnB : sv.ownBlock ≠ some Bx := fun e => by have := g3 Bx e; rw [h.l6] at this; omega
  have hc3 : Chg (fun g => sv.ownBlock = some g) W w3 := (Chg.of_below hw2).grown hg3 (fun g hg => .inl hg)
  have hB3 : Blk w3 Bx [sv] 95 := g1.chg hc3 hnB
  have hc4 : Chg (fun g => g = Bx ∨ sv.ownBlock = some g) W (w3.setCell ⟨Bx, 0, none⟩ v3) := (hc3.mono (fun g hg => .inr hg)).setCell (.inl (.inl rfl)) 0 v3
  have hnx : ∀ g, v3.ownBlock = some g → sv.ownBlock = some g ∨ W.heap.size ≤ g := fun g hg => by
    rcases hn3 with e | e
    · left; rw [← e]; exact hg
    · right; rw [e] at hg; injection hg; simp at *; omega
  have hL : ∀ g, g < W.heap.size → setL L v3 9 g = L g := fun g hg => setL_old g3 hnx hg
  have hz : (w3.setCell ⟨Bx, 0, none⟩ v3).heap.size = w3.heap.size := by simp [World.setCell]
  have hlt : ∀ g, setL L v3 9 g ≠ 0 → g < (w3.setCell ⟨Bx, 0, none⟩ v3).heap.size := setL_lt (fun g hg => Nat.lt_of_lt_of_le (hs.lt g hg) hc4.size) (fun g hg => by rw [hz]; exact owns_lt ho3 hg)
  have hF : ∀ g, (g = Bx ∨ sv.ownBlock = some g) → L g = 6 ∨ L g = 9 := fun g hg => by
    rcases hg with rfl | hg
    · exact .inl h.l6
    · exact .inr (g3 g hg)
  have hnB3 : v3.ownBlock ≠ some Bx := fun e => by
    rcases hnx Bx e with e1 | e1
    · exact hnB e1
    · have := g1.lt; omega
  refine ⟨sp, ls.length, cap, sp3, (ls ++ [x]).length, cap3, w3, by rw [← e]; exact g1.cell rfl, by rw [← e, ← e3]; exact hr, hB3.has 0 (by simp), hB3.free 0, ?_⟩
  rw [← e3]
  refine ⟨setL L v3 9, ⟨⟨v, hs.out hc4 (fun g hg _ => .inr (by rcases hF g hg with e | e <;> omega)) (fun g hg => .inl (hL g hg)) hlt⟩, ⟨nv, k1.chg hc4 (fun e => by rcases hF _ e with e | e <;> (rw [h.l7] at e; omega)), owns_chg k2 hc4 (fun g hg hf => by have := k3 g hg; rcases hF _ hf with e | e <;> omega), fun g hg => (hL g (owns_lt k2 hg)).trans (k3 g hg)⟩, ⟨v3, hB3.set 0 v3, owns_chg ho3 (chg1 w3 Bx 0 v3) (fun g hg e => hnB3 (by rw [← e]; exact hg)), fun g hg => setL_at hg⟩, (hL _ k1.lt).trans h.l7, (hL _ g1.lt).trans h.l6, h.okn, fun y hy => ?_⟩, ⟨hc4.mono (fun g hg => by rcases hF g hg with e | e <;> (unfold Foot; omega)), hL, fun g hg => ?_⟩⟩
  · rcases List.mem_append.1 hy with hy | hy
    · exact h.okl y hy
    · simp at hy; subst hy; exact hx
  · unfold setL
    split
    · left; omega
    · left; have := hs.lt g; omega
theorem allC_any {w : World} {L : Nat → Nat} {D Wk Bx fr tt : Nat} {s : Sh} {ns : List Pt} {ls : List Lf} (x : Lf) (hx : Lf.OK x) (h : WkAt w L D Wk Bx true fr tt s ns ls) (hl : ls.length < 100000000) :
    Calls Tryz.prog 74 #[.agg (lcells x).toArray, .pointer (some ⟨Bx, 0, none⟩)] w fun e w' => e = .returned (.tuple #[]) ∧ WkPost L w D Wk Bx true fr tt s ns (ls ++ [x]) w' := by
  have HX := Lib.hid hx
  have hw1 : Below w.heap.size w (w.alloc (.cells (lcells x).toArray 110)) := (Below.refl _ _).alloc (Nat.le_refl _) _
  have HB : Hid (Blk (w.alloc (.cells (lcells x).toArray 110)) w.heap.size (lcells x) 110) := Lib.hid (Blk.new _ _ _)
  have H1 := Lib.hid (h.below hw1)
  have HPR : Hid (∀ w', WkPost L (w.alloc (.cells (lcells x).toArray 110)) D Wk Bx true fr tt s ns (ls ++ [x]) w' → WkPost L w D Wk Bx true fr tt s ns (ls ++ [x]) w') := Lib.hid fun w' h2 => WkPost.pre h hw1 h2
  have HL := Lib.hid hl
  generalize hPost : (fun e w' => e = Ending.returned (.tuple #[]) ∧ WkPost L w D Wk Bx true fr tt s ns (ls ++ [x]) w') = Post
  have HP : Hid (∀ w', WkPost L (w.alloc (.cells (lcells x).toArray 110)) D Wk Bx true fr tt s ns (ls ++ [x]) w' → Post (.returned (.tuple #[])) w') := Lib.hid fun w' h2 => by rw [← hPost]; exact ⟨rfl, HPR.out w' h2⟩
  clear hx h hl hw1 hPost HPR
  go_enter Tryz.func74, Tryz.ntmps74
  go_upto_region 1 with fail
  obtain ⟨G, hG⟩ : ∃ G, w.heap.size = G := ⟨_, rfl⟩
  rw [hG] at HB ⊢
  generalize (w.alloc (.cells (lcells x).toArray 110)) = W at HB H1 HP ⊢
  obtain ⟨sp, n, cap, sp3, n3, cap3, w3, c0, hr, ⟨_, hc⟩, hf, hp⟩ := leaf_here (w2 := W.alloc (.cells (lcells x).toArray 110)) x HX.out H1.out rfl HL.out
  have HE := Lib.hid (HP.out _ hp)
  have HRR := Lib.hid hr
  clear hp hr HP
  go_wp2_with (first | (refine wpL_val rfl (ex_ldLf HX.out.2 HB.out rfl rfl) ?_) | (refine wpL_val rfl (ex_oneL HX.out.2 rfl rfl) ?_) | (at_builtin; refine wpL_val rfl (ex_appL rfl rfl rfl HRR.out) ?_) | fail)
  go_end0
  exact HE.out
theorem leafC_any {w : World} {L : Nat → Nat} {D Wk Bx fr tt : Nat} {md : Bool} {s : Sh} {ns : List Pt} {ls : List Lf} (x : Lf) (hx : Lf.OK x) (h : WkAt w L D Wk Bx md fr tt s ns ls) (hl : ls.length < 100000000) :
    Calls Tryz.prog (if md then 74 else 91) #[.agg (lcells x).toArray, .pointer (some ⟨Bx, 0, none⟩)] w fun e w' => e = .returned (.tuple #[]) ∧ WkPost L w D Wk Bx md fr tt s ns (ls ++ [x]) w' := by
  cases md
  · exact getC_any x hx h
  · exact allC_any x hx h hl
theorem node_here {W : World} {L : Nat → Nat} {D Wk Bx fr tt : Nat} {md : Bool} {s : Sh} {ns : List Pt} {ls : List Lf} {p : Pt} (hp : p.OK) (h : WkAt W L D Wk Bx md fr tt s ns ls) (hl : ns.length < 100000000) :
    ∃ u v3 w3, (∀ X, Below W.heap.size W X → X.cell? ⟨Wk, 3, none⟩ = some u) ∧ (Builtin.append_ #[48, 48] 48 #[u, .slice (some ⟨W.drew.heap.size, 0, none⟩) 1 1]).run Tryz.prog (W.drew.alloc (.cells (pcells p).toArray 28)) = .ok v3 w3 ∧ (∃ sp n cap, v3 = .slice sp n cap) ∧ (∃ c, w3.cell? ⟨Wk, 3, none⟩ = some c) ∧ w3.frozen? ⟨Wk, 3, none⟩ = false ∧
      (∀ {g : Nat} {cs' : List Value} {t' : TypeId}, Blk W g cs' t' → L g = 0 → Blk w3 g cs' t' ∧ Blk (w3.setCell ⟨Wk, 3, none⟩ v3) g cs' t') ∧ WkPost L W D Wk Bx md fr tt s (ns ++ [p]) ls (w3.setCell ⟨Wk, 3, none⟩ v3) := by
  obtain ⟨v, hs⟩ := h.sh
  obtain ⟨nv, k1, k2, k3⟩ := h.wk
  have hnD : nv.ownBlock ≠ some Wk := fun e => by have := k3 Wk e; rw [h.l7] at this; omega
  obtain ⟨v3, w3, hr, hsl, hcell, hfree, hoth, j1, j2, j3, j4, j5⟩ := app_here (k := 3) k2 k1 hnD hp hl (by simp [wkcells])
  have hL : ∀ g, g < W.heap.size → setL L v3 8 g = L g := fun g hg => setL_old k3 j4 hg
  have hF : ∀ g, (g = Wk ∨ nv.ownBlock = some g) → L g = 7 ∨ L g = 8 := fun g hg => by
    rcases hg with rfl | hg
    · exact .inl h.l7
    · exact .inr (k3 g hg)
  refine ⟨nv, v3, w3, fun X hX => (k1.below hX k1.lt).cell rfl, hr, hsl, hcell, hfree, fun hb hg => ?_, setL L v3 8, ⟨⟨v, hs.out j2 (fun g hg _ => .inr (by rcases hF g hg with e | e <;> omega)) (fun g hg => .inl (hL g hg)) (setL_lt (fun g hg => Nat.lt_of_lt_of_le (hs.lt g hg) j2.size) j5)⟩, ⟨v3, j1, j3, fun g hg => setL_at hg⟩, h.ga.chg j2 (fun e => by rcases hF _ e with e | e <;> (rw [h.l6] at e; omega)) (fun g hg => by rcases hF g hg with e | e <;> omega) hL, (hL _ k1.lt).trans h.l7, (hL _ h.ga.lt).trans h.l6, fun q hq => ?_, h.okl⟩, ⟨j2.mono (fun g hg => by rcases hF g hg with e | e <;> (unfold Foot; omega)), hL, fun g hg => ?_⟩⟩
  · have hne : nv.ownBlock ≠ some _ := fun e => by have := k3 _ e; rw [hg] at this; omega
    have h2 := hoth hb hne
    exact ⟨h2.1, h2.2 (fun e => by rw [e, h.l7] at hg; omega)⟩
  · rcases List.mem_append.1 hq with hq | hq
    · exact h.okn q hq
    · simp at hq; subst hq; exact hp
  · unfold setL
    split
    · left; omega
    · left; have := hs.lt g; omega
end Go.Proofs.YtjgjohdeeeoeoaaGreatDoor
