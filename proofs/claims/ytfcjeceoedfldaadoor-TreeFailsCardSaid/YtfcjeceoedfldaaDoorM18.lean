/- The tree's hole, span, refuse, read. -/
import Derived.Test.YtfcjeceoedfldaaDoorM17
import Derived.Handy
namespace Go.Proofs.YtfcjeceoedfldaaDoor
open Go.RowKit

attribute [local go_sem] Oper.semAt_some

theorem trHole_any (p : Pt) (hp : p.OK) (w : World) : Calls Tryd.prog 21 #[.agg (pcells p).toArray] w fun e w' => e = .returned (.bool (eqP p zeroP)) ∧ Below w.heap.size w w' := by
  have HP := Lib.hid hp
  have HB := Lib.hid (Blk.new w (pcells p) 37)
  have HW : Hid (Below w.heap.size w (w.alloc (.cells (pcells p).toArray 37))) := Lib.hid ((Below.refl _ _).alloc (Nat.le_refl _) _)
  clear hp
  go_enter Tryd.func21, Tryd.ntmps21
  go_wp2_with (first | (refine wpL_val rfl (ex_ldP HP.out HB.out rfl rfl) ?_) | (refine wpL_val rfl (ex_bld0 rfl) ?_) | (refine wpL_val rfl (ex_eqP (p := p) (q := zeroP) rfl rfl rfl HP.out zeroP_ok) ?_) | fail)
  go_ret
  exact ⟨rfl, HW.out⟩
theorem span_any (lv : Nat) (h : lv ≤ 2) (w : World) : Calls Tryd.prog 25 #[.int .u8 (lv : Int)] w fun e w' => e = .returned (.int .u32 ((8 ^ lv : Nat) : Int)) ∧ w' = w := by
  have HL := Lib.hid h
  generalize hPost : (fun e w' => e = Ending.returned (.int .u32 ((8 ^ lv : Nat) : Int)) ∧ w' = w) = Post
  have HP : Hid (Post (.returned (.int .u32 ((8 ^ lv : Nat) : Int))) w) := Lib.hid (by rw [← hPost]; exact ⟨rfl, rfl⟩)
  clear h hPost
  go_enter Tryd.func25, Tryd.ntmps25
  go_wp2_with fail
  go_loopw [3, 5] (fun n i wr => ∃ k : Nat, k ≤ lv ∧ i = .int .u8 (k : Int) ∧ n = .int .u32 ((8 ^ k : Nat) : Int) ∧ wr = w) (fun _ i _ => lv - (intOf i).toNat)
  case atStart => exact ⟨0, by omega, rfl, rfl, rfl⟩
  case round =>
    obtain ⟨k, hk, rfl, rfl, rfl⟩ := hrel
    by_cases hlt : k < lv
    · have h2 := HL.out
      have e8 : ((8 ^ (k + 1) : Nat) : Int) = ((8 ^ k : Nat) : Int) * 8 := by rw [Nat.pow_succ]; simp
      have hw1 : IntKind.u8.wrap ((k : Int) + 1) = (k : Int) + 1 := by rw [IntKind.wrap_u8]; omega
      have hb : (8 ^ k : Nat) ≤ 8 := by
        have : k = 0 ∨ k = 1 := by omega
        rcases this with rfl | rfl <;> decide
      obtain ⟨x, hx⟩ : ∃ x, 8 ^ k = x := ⟨_, rfl⟩
      have HX := Lib.hid hx
      rw [hx] at hb e8 ⊢
      have hw2 : IntKind.u32.wrap ((x : Int) * 8) = (x : Int) * 8 := by rw [IntKind.wrap_u32]; omega
      clear hb h2
      go_wp2_with fail
      go_roundw
      case rel => exact ⟨k + 1, by omega, by go_num, by rw [e8], trivial⟩
      case measure => simp [intOf]; omega
    · obtain rfl : k = lv := by omega
      obtain ⟨x, hx⟩ : ∃ x, 8 ^ k = x := ⟨_, rfl⟩
      rw [hx] at HP ⊢
      clear hx hlt
      go_wp2_with fail
      first | exact HP.out | (go_ret; exact HP.out)
def refE (p : Pt) : Nat := if eqP p zeroP then 0 else if mayP p = false ∨ p.kind ≠ 3 ∨ p.level ≠ 2 then 1 else 0
def shI (D : Nat) : Value := .iface 25 (.pointer (some ⟨D, 0, none⟩))
set_option maxRecDepth 100000 in
set_option maxHeartbeats 4000000 in
theorem trRefuse_any (p : Pt) (hp : p.OK) (D : Nat) (w : World) (hT : RTab w) : Calls Tryd.prog 15 #[shI D, .agg (pcells p).toArray] w fun e w' => e = .returned (.int .i64 (refE p : Int)) ∧ Below w.heap.size w w' := by
  have HP := Lib.hid hp
  have HT := Lib.hid hT
  have HB := Lib.hid (Blk.new w (pcells p) 37)
  have HW : Hid (Below w.heap.size w (w.alloc (.cells (pcells p).toArray 37))) := Lib.hid ((Below.refl _ _).alloc (Nat.le_refl _) _)
  obtain ⟨re, hre⟩ : ∃ re, refE p = re := ⟨_, rfl⟩
  have HRE := Lib.hid hre
  rw [hre]
  generalize hPost : (fun e w' => e = Ending.returned (.int .i64 (re : Int)) ∧ Below w.heap.size w w') = Post
  have HPO : Hid (∀ w', Below w.heap.size w w' → Post (.returned (.int .i64 (re : Int))) w') := Lib.hid fun w' h => by rw [← hPost]; exact ⟨rfl, h⟩
  clear hp hT hre hPost
  unfold shI
  go_enter Tryd.func15, Tryd.ntmps15
  go_upto_region 1 with fail
  obtain ⟨G, hG⟩ : ∃ G, w.heap.size = G := ⟨_, rfl⟩
  have HWS : Hid (∀ W', Below (w.alloc (.cells (pcells p).toArray 37)).heap.size (w.alloc (.cells (pcells p).toArray 37)) W' → Below w.heap.size w W') := Lib.hid fun W' h => HW.out.trans (h.mono HW.out.size)
  have HTW : Hid (RTab (w.alloc (.cells (pcells p).toArray 37))) := Lib.hid (HT.out.alloc _)
  rw [hG] at HB ⊢
  generalize (w.alloc (.cells (pcells p).toArray 37)) = W at HB HWS HTW ⊢
  clear HW hG
  go_wp2_with (first | (refine wpL_val rfl (ex_ldP HP.out HB.out rfl rfl) ?_) | fail)
  refine (trHole_any p HP.out W).mono ?_
  rintro e W2 ⟨rfl, hb2⟩
  have HB2 := Lib.hid (HB.out.below hb2 HB.out.lt)
  have HT2 := Lib.hid (HTW.out.grown hb2)
  have HW2 := Lib.hid hb2
  clear hb2 HB HTW
  cases hz : eqP p zeroP
  · go_wp2_with (first | (refine wpL_val rfl (ex_ldP HP.out HB2.out rfl rfl) ?_) | fail)
    refine (may_any p HP.out W2 HT2.out).mono ?_
    rintro e W3 ⟨rfl, hb3⟩
    have HB3 := Lib.hid (HB2.out.below hb3 HB2.out.lt)
    have HE := Lib.hid (HPO.out W3 (HWS.out W3 (HW2.out.trans (hb3.mono HW2.out.size))))
    have c0 := HB3.out.cell (j := 0) rfl
    have c1 := HB3.out.cell (j := 1) rfl
    obtain ⟨kk, hkk⟩ : ∃ k, p.kind = k := ⟨_, rfl⟩
    obtain ⟨ll, hll⟩ : ∃ k, p.level = k := ⟨_, rfl⟩
    have hre2 : re = if mayP p = false ∨ kk ≠ 3 ∨ ll ≠ 2 then 1 else 0 := by rw [← HRE.out, ← hkk, ← hll]; unfold refE; rw [hz]; rfl
    have HRE2 := Lib.hid hre2
    rw [hkk] at c0
    rw [hll] at c1
    clear hb3 HB2 HT2 HW2 HWS HRE hre2 hkk hll hz
    cases hm : mayP p
    · obtain rfl : re = 1 := by rw [HRE2.out, if_pos (.inl hm)]
      go_wp2_with fail
      first | exact HE.out | (go_ret; exact HE.out)
    · by_cases h3 : kk = 3
      · subst h3
        by_cases h2 : ll = 2
        · subst h2
          obtain rfl : re = 0 := by rw [HRE2.out, if_neg (by simp [hm])]
          go_wp2_with fail
          first | exact HE.out | (go_ret; exact HE.out)
        · obtain rfl : re = 1 := by rw [HRE2.out, if_pos (.inr (.inr h2))]
          have h2' : ¬ (ll : Int) = 2 := by omega
          go_wp2_with fail
          first | exact HE.out | (go_ret; exact HE.out)
      · obtain rfl : re = 1 := by rw [HRE2.out, if_pos (.inr (.inl h3))]
        have h3' : ¬ (kk : Int) = 3 := by omega
        go_wp2_with fail
        first | exact HE.out | (go_ret; exact HE.out)
  · obtain rfl : re = 0 := by rw [← HRE.out]; unfold refE; rw [hz]; rfl
    have HE := Lib.hid (HPO.out W2 (HWS.out W2 HW2.out))
    go_wp2_with fail
    first | exact HE.out | (go_ret; exact HE.out)
end Go.Proofs.YtfcjeceoedfldaaDoor
/- The tree's read: the node of a pointer. -/
namespace Go.Proofs.YtfcjeceoedfldaaDoor
open Go.RowKit

attribute [local go_sem] Oper.semAt_some

def rnE (s : Sh) (p : Pt) : Nat := if eqP p zeroP = true then 0 else if rdE s p ≠ 0 then rdE s p else if nodeE (rdB s p) ≠ 0 then 21 else 0
def rnN (s : Sh) (p : Pt) : List Pt := if eqP p zeroP = true then holes else if rdE s p ≠ 0 then holes else nodeT (rdB s p)
def rnS (s : Sh) (p : Pt) : Sh := if eqP p zeroP = true then s else rdS s p
theorem rnN_ok (s : Sh) (p : Pt) : NOK (rnN s p) := by
  unfold rnN
  split
  · exact holes_ok
  · split
    · exact holes_ok
    · exact nodeT_ok _
/-- How much a shelf holds at most. -/
structure Lim (n : Nat) (s : Sh) : Prop where
  rd : s.read0.length ≤ n
  md : s.made.length ≤ n
  gn : s.gone.length ≤ n
  n : n < 1000000
  bl : s.blocks.length ≤ 30000
  bd : s.bad.length ≤ 1000
  rm : -1 ≤ s.room ∧ s.room ≤ 1000
theorem results_csN {fn : Func} {p u : Tmp} (h : fn.results = #[.cell p 73, .tmp u]) (tmps : Array Value) (w : World) (g t : Nat) (cs : List Value)
    (hp : tmps.getD p undef = .pointer (some ⟨g, 0, none⟩)) (hg : Blk w g cs t) (hi : (Tryd.prog.info? 73).map (·.size) = some cs.length) :
    (results fn tmps).run Tryd.prog w = .ok (.tuple #[.agg cs.toArray, tmps.getD u undef]) w := results_ct h tmps w g t cs hp hg Tryd.underlying73 hi
def RnPost (L : Nat → Nat) (w : World) (D : Nat) (s : Sh) (p : Pt) (e : Ending) (w' : World) : Prop := e = .returned (.tuple #[.agg (ncells (rnN s p)).toArray, .int .i64 (rnE s p : Int)]) ∧ ShPost 5 L w D (rnS s p) w'
/-- What stands while read goes on: the box of the pointer, the result's box. -/
structure RnS (L : Nat → Nat) (w : World) (D G : Nat) (s1 : Sh) (p : Pt) (X : World) : Prop where
  sh : ∃ L1 v1, ShAt X L1 D s1 v1 ∧ Mv 5 L w L1 X ∧ L1 G = 0 ∧ L1 (G + 1) = 0
  box : Blk X G (pcells p) 37
  res : Blk X (G + 1) (ncells holes) 73
  lo : w.heap.size ≤ G
theorem RnS.below {L : Nat → Nat} {w : World} {D G : Nat} {s1 : Sh} {p : Pt} {X Y : World} (h : RnS L w D G s1 p X) (hb : Below X.heap.size X Y) : RnS L w D G s1 p Y := by
  obtain ⟨⟨L1, v1, h1, h2, h3, h4⟩, hg, hr, hlo⟩ := h
  exact ⟨⟨L1, v1, h1.below hb, h2.trans (Mv.of_below hb h1.lt), h3, h4⟩, hg.below hb hg.lt, hr.below hb hr.lt, hlo⟩
theorem RnS.ends {L : Nat → Nat} {w : World} {D G : Nat} {s1 : Sh} {p : Pt} {X : World} (h : RnS L w D G s1 p X) (ns : List Pt) : ShPost 5 L w D s1 (X.setRow (G + 1) (ncells ns).toArray) ∧ Blk (X.setRow (G + 1) (ncells ns).toArray) (G + 1) (ncells ns) 73 := by
  obtain ⟨⟨L1, v1, h1, h2, h3, h4⟩, hg, hr, hlo⟩ := h
  have hc := chgR X (G + 1) (ncells ns).toArray
  have hz : (X.setRow (G + 1) (ncells ns).toArray).heap.size = X.heap.size := by simp
  refine ⟨⟨L1, v1, h1.out hc (fun g e _ => .inl (by rw [e]; exact h4)) (fun _ _ => .inl rfl) (fun g hg => by rw [hz]; exact h1.lt g hg), ?_⟩, hr.row _⟩
  exact ⟨h2.chg.trans hc (fun g e => by right; have : g = G + 1 := e; omega), h2.old, h2.new⟩
set_option maxRecDepth 100000 in
set_option maxHeartbeats 8000000 in
theorem trRead_any {w : World} {L : Nat → Nat} {D : Nat} {s : Sh} {v : Sv} {n : Nat} (p : Pt) (hp : p.OK) (h : ShAt w L D s v) (hn : Lim n s) : Calls Tryd.prog 23 #[shI D, .agg (pcells p).toArray] w (RnPost L w D s p) := by
  have HPO := Lib.hid hp
  have HN := Lib.hid hn
  have HX : Hid (∀ z, z = (ncells holes).toArray → RnS L w D w.heap.size s p ((w.alloc (.cells (pcells p).toArray 37)).alloc (.cells z 73))) := Lib.hid (fun z hz => by
    subst hz
    have hw1 : Below w.heap.size w ((w.alloc (.cells (pcells p).toArray 37)).alloc (.cells (ncells holes).toArray 73)) := ((Below.refl _ _).alloc (Nat.le_refl _) _).alloc (by simp) _
    exact ⟨⟨L, v, h.below hw1, Mv.of_below hw1 h.lt, h.not (Nat.le_refl _), h.not (by omega)⟩, (Blk.new _ _ _).alloc _, Blk.new' _ _ _ _ _ (by simp) rfl, Nat.le_refl _⟩)
  generalize hPost : RnPost L w D s p = Post
  have HP : Hid (∀ w', ShPost 5 L w D (rnS s p) w' → Post (.returned (.tuple #[.agg (ncells (rnN s p)).toArray, .int .i64 (rnE s p : Int)])) w') := Lib.hid fun w' h => by rw [← hPost]; exact ⟨rfl, h⟩
  have HSH := Lib.hid (size_nc holes_ok)
  have HOH := Lib.hid (ncells_one holes_ok.ok)
  clear hp h hn hPost
  unfold shI
  go_enter Tryd.func23, Tryd.ntmps23
  go_upto_region 1 with fail
  refine (fun (k : ∀ W, RnS L w D w.heap.size s p W → Code.wp _ _ _ _ W) => k _ (HX.out _ rfl)) ?_
  intro W hW
  obtain ⟨G, hG⟩ : ∃ G, w.heap.size = G := ⟨_, rfl⟩
  rw [hG] at hW ⊢
  clear HX
  have HX := Lib.hid hW
  clear hW
  go_wp2_with (first | (refine wpL_val rfl (ex_ldP HPO.out HX.out.box rfl rfl) ?_) | fail)
  refine (trHole_any p HPO.out W).mono ?_
  rintro e W2 ⟨rfl, hb2⟩
  have HX2 := Lib.hid (HX.out.below hb2)
  clear hb2 HX
  cases hz : eqP p zeroP
  · have HE : Hid (rnS s p = rdS s p ∧ rnE s p = (if rdE s p ≠ 0 then rdE s p else if nodeE (rdB s p) ≠ 0 then 21 else 0) ∧ rnN s p = if rdE s p ≠ 0 then holes else nodeT (rdB s p)) := Lib.hid (by unfold rnS rnE rnN; rw [hz]; exact ⟨rfl, rfl, rfl⟩)
    obtain ⟨⟨L1, v1, h1, h2, h3, h4⟩, h5, h6, h7⟩ := HX2.out
    have HRD := Lib.hid (shRead_any p HPO.out h1 (by have := HN.out.rd; have := HN.out.n; omega) HN.out.bl HN.out.bd)
    have HM : Hid (∀ e X, RdPost 5 L1 W2 D s p e X → ∃ val L3, e = .returned (.tuple #[val, .int .i64 (rdE s p : Int)]) ∧ RnS L w D G (rdS s p) p X ∧ BkV X L3 val (rdB s p)) := Lib.hid (by
      rintro e X ⟨val, L3, v3, rfl, k1, k2, k3⟩
      exact ⟨val, L3, rfl, ⟨⟨L3, v3, k1, h2.trans k2, (k2.old G h5.lt).trans h3, (k2.old (G + 1) h6.lt).trans h4⟩, k2.blk h5 h3, k2.blk h6 h4, h7⟩, k3⟩)
    clear h1 h2 h3 h4 h5 h6 h7
    go_wp2_with (first | (refine wpL_val rfl (ex_ldP HPO.out HX2.out.box rfl rfl) ?_) | fail)
    refine HRD.out.mono ?_
    intro e X hpost
    obtain ⟨val, L3, rfl, hx3, hbk⟩ := HM.out e X hpost
    have HX3 := Lib.hid hx3
    have HBK := Lib.hid hbk
    clear hpost hx3 hbk HM HRD HX2
    obtain ⟨re, hre⟩ : ∃ re, rdE s p = re := ⟨_, rfl⟩
    rw [hre] at HE ⊢
    by_cases h0 : re = 0
    · subst h0
      obtain ⟨sp, cap, rfl, hc, hz1, hS, -⟩ := HBK.out
      obtain ⟨⟨L4, v4, h4, -⟩, -⟩ := HX3.out
      have htk := nodeTake_any (rdB s p) sp cap X hz1 hc hS h4.tab.1
      obtain ⟨ln, hln⟩ : ∃ ln, (rdB s p).length = ln := ⟨_, rfl⟩
      rw [hln] at htk ⊢
      have HTK := Lib.hid htk
      have HTO := Lib.hid (nodeT_ok (rdB s p))
      have HST := Lib.hid (size_nc HTO.out)
      have HSA : Hid ((ncells (nodeT (rdB s p))).toArray.size = 328) := Lib.hid HTO.out.size
      have HOT := Lib.hid (ncells_one HTO.out.ok)
      clear hc hz1 hS htk h4 hln HBK hre
      go_wp2_with fail
      refine HTK.out.mono ?_
      rintro e X4 ⟨rfl, hb4⟩
      have HX4 := Lib.hid (HX3.out.below hb4)
      clear hb4 HX3 HTK
      obtain ⟨ns, hns⟩ : ∃ ns, nodeT (rdB s p) = ns := ⟨_, rfl⟩
      obtain ⟨ne, hne⟩ : ∃ ne, nodeE (rdB s p) = ne := ⟨_, rfl⟩
      rw [hns] at HTO HST HSA HOT
      rw [hns, hne] at HE
      rw [hns, hne]
      have HNT : Hid (ne ≠ 0 → ns = holes) := Lib.hid (fun h => by rw [← hns]; unfold nodeT; rw [hne, if_neg h])
      clear hns hne
      go_upto_region 7 with (first | (refine wpList_store_row rfl 73 (.tmp 8) (.tmp 25) rfl X4.heap.size (ncells ns).toArray rfl rfl 73 _ (heap_alloc_new X4 _) HST.out (by rw [HSA.out]; rfl) HOT.out ?_) | fail)
      refine (fun (k : ∀ W, RnS L w D G (rdS s p) p W → Blk W X4.heap.size (ncells ns) 73 → Code.wp _ _ _ _ W) => k _ (HX4.out.below (blk_row1 X4 _ (ncells ns) 73).2) (blk_row1 X4 _ (ncells ns) 73).1) ?_
      intro X5 hX5 hb5
      have HX5 := Lib.hid hX5; have HB5 := Lib.hid hb5
      obtain ⟨G5, hG5⟩ : ∃ g, X4.heap.size = g := ⟨_, rfl⟩
      rw [hG5] at HB5 ⊢
      have HRB := Lib.hid hX5.res
      clear hX5 hb5 HX4 hG5
      by_cases hn0 : ne = 0
      · subst hn0
        obtain ⟨e1, e2, e3⟩ := HE.out
        rw [if_neg (by simp), if_neg (by simp)] at e2
        rw [if_neg (by simp)] at e3
        have HBE := Lib.hid (HX5.out.ends ns)
        have HEND := Lib.hid (HP.out _ (by rw [e1]; exact HBE.out.1))
        rw [e2, e3] at HEND
        have HZN : Hid ((ncells holes).toArray.size = (ncells ns).toArray.size) := Lib.hid (by rw [HSA.out, holes_ok.size])
        clear e1 e2 e3 HE
        go_wp2_with (first | (refine wpL_val rfl (ex_ldN HTO.out HB5.out rfl rfl) ?_) | (refine wpList_store_row rfl 73 (.tmp 4) (.tmp 30) rfl (G + 1) (ncells ns).toArray rfl rfl 73 _ HRB.out HST.out HZN.out HOT.out ?_) | fail)
        refine bodyPost_ret (results_csN Tryd.results23 _ _ (G + 1) 73 _ rfl HBE.out.2 (size_ncl HTO.out)) rfl ?_
        exact HEND.out
      · obtain ⟨e1, e2, e3⟩ := HE.out
        rw [if_neg (by simp), if_pos hn0] at e2
        rw [if_neg (by simp), HNT.out hn0] at e3
        have HBE := Lib.hid (HX5.out.ends holes)
        have HEND := Lib.hid (HP.out _ (by rw [e1]; exact HBE.out.1))
        rw [e2, e3] at HEND
        have hn0' : ¬ (ne : Int) = 0 := by omega
        clear e1 e2 e3 HE hn0
        go_wp2_with (first | (refine wpL_val rfl (ex_bldN rfl) ?_) | (refine wpList_store_row rfl 73 (.tmp 4) (.tmp 29) rfl (G + 1) (ncells holes).toArray rfl rfl 73 _ HRB.out HSH.out rfl HOH.out ?_) | fail)
        refine bodyPost_ret (results_csN Tryd.results23 _ _ (G + 1) 73 _ rfl HBE.out.2 (size_ncl holes_ok)) rfl ?_
        exact HEND.out
    · obtain ⟨e1, e2, e3⟩ := HE.out
      rw [if_pos h0] at e2
      rw [if_pos h0] at e3
      have HBE := Lib.hid (HX3.out.ends holes)
      have HEND := Lib.hid (HP.out _ (by rw [e1]; exact HBE.out.1))
      rw [e2, e3] at HEND
      have HRB := Lib.hid HX3.out.res
      have h0' : ¬ (re : Int) = 0 := by omega
      clear e1 e2 e3 HE h0 hre
      go_wp2_with (first | (refine wpL_val rfl (ex_bldN rfl) ?_) | (refine wpList_store_row rfl 73 (.tmp 4) (.tmp 20) rfl (G + 1) (ncells holes).toArray rfl rfl 73 _ HRB.out HSH.out rfl HOH.out ?_) | fail)
      refine bodyPost_ret (results_csN Tryd.results23 _ _ (G + 1) 73 _ rfl HBE.out.2 (size_ncl holes_ok)) rfl ?_
      exact HEND.out
  · have HBE := Lib.hid (HX2.out.ends holes)
    have HEND := Lib.hid (HP.out _ (by unfold rnS; rw [hz]; exact HBE.out.1))
    have e2 : rnE s p = 0 := by unfold rnE; rw [hz]; rfl
    have e3 : rnN s p = holes := by unfold rnN; rw [hz]; rfl
    rw [e2, e3] at HEND
    have HRB := Lib.hid HX2.out.res
    clear e2 e3 hz
    go_wp2_with (first | (refine wpL_val rfl (ex_bldN rfl) ?_) | (refine wpList_store_row rfl 73 (.tmp 4) (.tmp 11) rfl (G + 1) (ncells holes).toArray rfl rfl 73 _ HRB.out HSH.out rfl HOH.out ?_) | fail)
    refine bodyPost_ret (results_csN Tryd.results23 _ _ (G + 1) 73 _ rfl HBE.out.2 (size_ncl holes_ok)) rfl ?_
    exact HEND.out
end Go.Proofs.YtfcjeceoedfldaaDoor
/- A walk in memory; its closures. -/
namespace Go.Proofs.YtfcjeceoedfldaaDoor
open Go.RowKit

attribute [local go_sem] Oper.semAt_some

abbrev Lf := Nat × Pt
def lcells (x : Lf) : List Value := .int .u32 (x.1 : Int) :: pcells x.2
def Lf.OK (x : Lf) : Prop := x.1 < 4294967296 ∧ x.2.OK
theorem lcells_length {x : Lf} (h : x.2.OK) : (lcells x).length = 42 := by simp [lcells, pcells_length h]
def lrows (l : List Lf) : List Value := l.flatMap lcells
theorem lrows_snoc (l : List Lf) (x : Lf) : lrows (l ++ [x]) = lrows l ++ lcells x := by simp [lrows]
abbrev OwnL (w : World) (B : Nat) (v : Value) (l : List Lf) : Prop := w.ownsRow B 45 42 v l.length (lrows l)
theorem infoLf : (Tryd.prog.info? 45).map (fun i => (i.zero.map (·.cells.size), i.size, i.bytes)) = some (some 42, 42, 64) := by kernel_rfl
theorem info_partsLf : ∃ i z, Tryd.prog.info? 45 = some i ∧ i.zero = some z ∧ z.cells.size = 42 ∧ i.size = 42 ∧ i.bytes = 64 := by
  obtain ⟨i, h1, h2⟩ := Option.map_eq_some_iff.1 infoLf
  simp only [Prod.mk.injEq] at h2
  obtain ⟨z, hz, hz2⟩ := Option.map_eq_some_iff.1 h2.1
  exact ⟨i, z, h1, hz, hz2, h2.2.1, h2.2.2⟩
theorem sizeLf : (Tryd.prog.info? 45).map (·.size) = some 42 := by kernel_rfl
theorem one_lcells (x : Lf) : ∀ u ∈ lcells x, u.oneCell' = true := fun u hu => by
  simp only [lcells, List.mem_cons] at hu
  rcases hu with rfl | hu
  · rfl
  · exact one_pcells x.2 u hu
theorem ownL_app {w : World} {B : Nat} {v : Value} {l : List Lf} (h : OwnL w B v l) (hB : B ≤ w.heap.size) (hl : l.length < 1000000) {x : Lf} (hx : x.2.OK) {g : Nat} {t : TypeId} (hg : Blk w g (lcells x) t) (ty : TypeId) :
    ∃ v' w', (Builtin.append_ #[39, 39] ty #[v, .slice (some ⟨g, 0, none⟩) 1 1]).run Tryd.prog w = .ok v' w' ∧ OwnL w' B v' (l ++ [x]) ∧ w.grownBy w' v.ownBlock ∧ (v'.ownBlock = v.ownBlock ∨ v'.ownBlock = some w.heap.size) := by
  obtain ⟨i0, z, hi, hz0, hz1, hz2, hz3⟩ := info_partsLf
  obtain ⟨v', w', hr, h2, h3, _, h5⟩ := run_append_own_at (P := Tryd.prog) w B 39 ty 45 i0 z 42 64 Tryd.underlying39 hi hz0 hz2 hz3 hz1 (by decide) v l.length (lrows l) h ⟨g, 0, none⟩ 1 1 (lcells x) (by rw [lcells_length hx]) (fun j y hj => by
    rw [Addr.add_mid, Nat.zero_add]
    exact hg.cell hj) (one_lcells x) (by unfold maxLen; omega) (by omega) hB
  refine ⟨v', w', hr, ?_, h3, h5⟩
  unfold OwnL
  rw [lrows_snoc, List.length_append]
  exact h2
section
variable {ρ : Operand → Value} {o : Oper} {x y : Operand} {w : World}
theorem ex_ldLs {ad : Addr} {v : Value} (ho : o.op = .load 39 x) (hx : ρ x = .pointer (some ad)) (hc : w.cell? ad = some v) : (execOp ρ o).run Tryd.prog w = .ok (.value v) w := by
  unfold execOp; simp only [ho]; go_simp
theorem ex_ldLf {l : Lf} (hl : l.2.OK) {g : Nat} {t' : TypeId} (hB : Blk w g (lcells l) t') (ho : o.op = .load 45 x) (hx : ρ x = .pointer (some ⟨g, 0, none⟩)) : (execOp ρ o).run Tryd.prog w = .ok (.value (.agg (lcells l).toArray)) w :=
  ex_ld (ty := 45) (cs := lcells l) ho hx (rng_all hB) Tryd.underlying45 rfl (by rw [sizeLf, lcells_length hl])
theorem ex_oneL {l : Lf} (hl : l.2.OK) (ho : o.op = .buildSlice 39 1 #[(0, x)]) (hx : ρ x = .agg (lcells l).toArray) :
    (execOp ρ o).run Tryd.prog w = .ok (.value (.slice (some ⟨w.heap.size, 0, none⟩) 1 1)) (w.alloc (.cells (lcells l).toArray 45)) := by
  obtain ⟨i, z, hi, hz, hzs, his, _⟩ := info_partsLf
  have hr := run_buildSlice (P := Tryd.prog) w 39 45 1 #[(0, .agg (lcells l).toArray)] (lcells l).toArray i z Tryd.underlying39 hi hz (by rw [his]; omega) (by rw [his]; omega)
    (fill_whole (size := 42) (by simp [his]) (by simp [Value.cells, lcells_length hl]) (by simp [his]))
  unfold execOp
  simp only [ho]
  rw [show (Array.map (fun x : Nat × Operand => (x.1, ρ x.2)) #[(0, x)]) = #[(0, .agg (lcells l).toArray)] by simp [hx]]
  simp only [Sem.run_bind, hr, Result.andThen_ok]
  rfl
theorem ex_appL {v u v' : Value} {w w' : World} (ho : o.op = .call { callee := .builtin .append, args := #[x, y], argTypes := #[39, 39] }) (hx : ρ x = v) (hy : ρ y = u)
    (hr : (Builtin.append_ #[39, 39] o.type #[v, u]).run Tryd.prog w = .ok v' w') : (execOp ρ o).run Tryd.prog w = .ok (.value v') w' := by
  unfold execOp
  simp only [ho, resolve, invoke, builtin, Sem.run_bind, Sem.run_pure, Result.andThen_ok, List.map_toArray, List.map_cons, List.map_nil, hx, hy, hr]
end
def lastP (l : List Lf) : Pt := (l.getLast?.map (·.2)).getD zeroP
theorem lastP_snoc (l : List Lf) (x : Lf) : lastP (l ++ [x]) = x.2 := by simp [lastP]
/-- What a walk's closure has gathered: Get's (false) the last one, All's (true) all. -/
def GaAt (w : World) (L : Nat → Nat) (md : Bool) (Bx : Nat) (ls : List Lf) : Prop :=
  if md then ∃ sv, Blk w Bx [sv] 39 ∧ OwnL w 0 sv ls ∧ ∀ g, sv.ownBlock = some g → L g = 9 else Blk w Bx (pcells (lastP ls)) 37
def leafF (md : Bool) (Bx : Nat) : Value := fval (if md then 18 else 20) #[.pointer (some ⟨Bx, 0, none⟩)]
def wkcells (D fr tt : Nat) (nv : Value) (md : Bool) (Bx : Nat) : List Value := [shI D, .int .u32 (fr : Int), .int .u32 (tt : Int), nv, leafF md Bx]
/-- A walk on a shelf. Labels: 6 its closure's box, 7 the walk, 8 its nodes' row, 9 its leaves' row. -/
structure WkAt (w : World) (L : Nat → Nat) (D Wk Bx : Nat) (md : Bool) (fr tt : Nat) (s : Sh) (ns : List Pt) (ls : List Lf) : Prop where
  sh : ∃ v, ShAt w L D s v
  wk : ∃ nv, Blk w Wk (wkcells D fr tt nv md Bx) 69 ∧ OwnM w 0 nv ns ∧ ∀ g, nv.ownBlock = some g → L g = 8
  ga : GaAt w L md Bx ls
  l7 : L Wk = 7
  l6 : L Bx = 6
  okn : ∀ q ∈ ns, q.OK
  okl : ∀ x ∈ ls, Lf.OK x
section
variable {w w' : World} {L L' : Nat → Nat} {D Wk Bx fr tt : Nat} {md : Bool} {s s' : Sh} {ns : List Pt} {ls : List Lf}
theorem GaAt.chg {F : Nat → Prop} (h : GaAt w L md Bx ls) (hc : Chg F w w') (hB : ¬ F Bx) (hF : ∀ g, F g → L g ≠ 9) (hL : ∀ g, g < w.heap.size → L' g = L g) : GaAt w' L' md Bx ls := by
  unfold GaAt at *
  cases md
  · exact Blk.chg h hc hB
  · obtain ⟨sv, h1, h2, h3⟩ := h
    exact ⟨sv, h1.chg hc hB, owns_chg h2 hc (fun g hg hf => hF g hf (h3 g hg)), fun g hg => (hL g (owns_lt h2 hg)).trans (h3 g hg)⟩
theorem GaAt.lt (h : GaAt w L md Bx ls) : Bx < w.heap.size := by
  unfold GaAt at h
  cases md
  · exact Blk.lt h
  · obtain ⟨sv, h1, _⟩ := h; exact h1.lt
/-- The shelf has turned. -/
theorem WkAt.shelf {v' : Sv} (h : WkAt w L D Wk Bx md fr tt s ns ls) (hs : ShAt w' L' D s' v') (hm : Mv 5 L w L' w') : WkAt w' L' D Wk Bx md fr tt s' ns ls := by
  obtain ⟨nv, h1, h2, h3⟩ := h.wk
  have hf : ∀ g, 6 ≤ L g → ¬ Foot 5 L g := fun g hg hf => by unfold Foot at hf; omega
  refine ⟨⟨v', hs⟩, ⟨nv, h1.chg hm.chg (hf _ (by rw [h.l7]; omega)), owns_chg h2 hm.chg (fun g hg => hf g (by rw [h3 g hg]; omega)), fun g hg => (hm.old g (owns_lt h2 hg)).trans (h3 g hg)⟩, h.ga.chg hm.chg (hf _ (by rw [h.l6]; omega)) (fun g hg e => hf g (by omega) hg) hm.old, (hm.old _ h1.lt).trans h.l7, (hm.old _ h.ga.lt).trans h.l6, h.okn, h.okl⟩
theorem WkAt.below (h : WkAt w L D Wk Bx md fr tt s ns ls) (hb : Below w.heap.size w w') : WkAt w' L D Wk Bx md fr tt s ns ls := by
  obtain ⟨v, hs⟩ := h.sh
  exact h.shelf (hs.below hb) (Mv.of_below hb hs.lt)
theorem WkAt.drew (h : WkAt w L D Wk Bx md fr tt s ns ls) : WkAt w.drew L D Wk Bx md fr tt s ns ls := h.below (Below.refl _ _).drew
def WkPost (L : Nat → Nat) (w : World) (D Wk Bx : Nat) (md : Bool) (fr tt : Nat) (s' : Sh) (ns' : List Pt) (ls' : List Lf) (w' : World) : Prop := ∃ L', WkAt w' L' D Wk Bx md fr tt s' ns' ls' ∧ Mv 9 L w L' w'
theorem WkPost.refl (h : WkAt w L D Wk Bx md fr tt s ns ls) : WkPost L w D Wk Bx md fr tt s ns ls w := by
  obtain ⟨v, hs⟩ := h.sh
  exact ⟨L, h, Mv.of_below (Below.refl _ _) hs.lt⟩
theorem WkPost.of_below (h : WkAt w L D Wk Bx md fr tt s ns ls) (hb : Below w.heap.size w w') : WkPost L w D Wk Bx md fr tt s ns ls w' := by
  obtain ⟨v, hs⟩ := h.sh
  exact ⟨L, h.below hb, Mv.of_below hb hs.lt⟩
theorem WkPost.mv {w1 w2 : World} {L1 : Nat → Nat} {s' : Sh} {ns' : List Pt} {ls' : List Lf} (h : Mv 9 L w L1 w1) (k : WkPost L1 w1 D Wk Bx md fr tt s' ns' ls' w2) : WkPost L w D Wk Bx md fr tt s' ns' ls' w2 := by
  obtain ⟨L2, h2, k2⟩ := k
  exact ⟨L2, h2, h.trans k2⟩
theorem WkPost.pre {w1 w2 : World} {s' : Sh} {ns' : List Pt} {ls' : List Lf} (h : WkAt w L D Wk Bx md fr tt s ns ls) (hb : Below w.heap.size w w1) (k : WkPost L w1 D Wk Bx md fr tt s' ns' ls' w2) : WkPost L w D Wk Bx md fr tt s' ns' ls' w2 := by
  obtain ⟨v, hs⟩ := h.sh
  exact WkPost.mv (Mv.of_below hb hs.lt) k
end
/-- Get's closure. -/
theorem getC_any {w : World} {L : Nat → Nat} {D Wk Bx fr tt : Nat} {s : Sh} {ns : List Pt} {ls : List Lf} (x : Lf) (hx : Lf.OK x) (h : WkAt w L D Wk Bx false fr tt s ns ls) :
    Calls Tryd.prog 20 #[.agg (lcells x).toArray, .pointer (some ⟨Bx, 0, none⟩)] w fun e w' => e = .returned (.tuple #[]) ∧ WkPost L w D Wk Bx false fr tt s ns (ls ++ [x]) w' := by
  have HX := Lib.hid hx
  have hw1 : Below w.heap.size w (w.alloc (.cells (lcells x).toArray 45)) := (Below.refl _ _).alloc (Nat.le_refl _) _
  have HB : Hid (Blk (w.alloc (.cells (lcells x).toArray 45)) w.heap.size (lcells x) 45) := Lib.hid (Blk.new _ _ _)
  have h1 := h.below hw1
  have HG : Hid (Blk (w.alloc (.cells (lcells x).toArray 45)) Bx (pcells (lastP ls)) 37) := Lib.hid h1.ga
  have HLP : Hid ((pcells (lastP ls)).toArray.size = (pcells x.2).toArray.size) := Lib.hid (by
    have e : (lastP ls).OK := by
      unfold lastP
      cases hl : ls.getLast? with
      | none => exact zeroP_ok
      | some y => exact (h.okl y (List.mem_of_getLast? hl)).2
    rw [List.size_toArray, List.size_toArray, pcells_length e, pcells_length hx.2])
  have HSP := Lib.hid (size_pc hx.2)
  have HR : Hid ((w.alloc (.cells (lcells x).toArray 45)).rangeAt w.heap.size 1 (pcells x.2)) := Lib.hid (by
    have := (Blk.new w (lcells x) 45).rng [.int .u32 (x.1 : Int)] (pcells x.2) [] (by simp [lcells])
    exact this)
  generalize hPost : (fun e w' => e = Ending.returned (.tuple #[]) ∧ WkPost L w D Wk Bx false fr tt s ns (ls ++ [x]) w') = Post
  have HP : Hid (Post (.returned (.tuple #[])) ((w.alloc (.cells (lcells x).toArray 45)).setRow Bx (pcells x.2).toArray)) := Lib.hid (by
    rw [← hPost]
    refine ⟨rfl, ?_⟩
    generalize (w.alloc (.cells (lcells x).toArray 45)) = W at h1 hw1 HG
    obtain ⟨v, hs⟩ := h1.sh
    obtain ⟨nv, k1, k2, k3⟩ := h1.wk
    have hc := chgR W Bx (pcells x.2).toArray
    have hz : (W.setRow Bx (pcells x.2).toArray).heap.size = W.heap.size := by simp
    have hs2 : ShAt (W.setRow Bx (pcells x.2).toArray) L D s v := hs.out hc (fun g e _ => .inr (by rw [e, h1.l6]; omega)) (fun _ _ => .inl rfl) (fun g hg => by rw [hz]; exact hs.lt g hg)
    refine ⟨L, ⟨⟨v, hs2⟩, ⟨nv, k1.chg hc (fun e => by have h6 := h1.l6; rw [← e, h1.l7] at h6; omega), owns_chg k2 hc (fun g hg e => by have h6 := h1.l6; rw [← e, k3 g hg] at h6; omega), k3⟩, ?_, h1.l7, h1.l6, h1.okn, fun y hy => ?_⟩, ?_⟩
    · show Blk _ Bx (pcells (lastP (ls ++ [x]))) 37
      rw [lastP_snoc]
      exact HG.out.row _
    · rcases List.mem_append.1 hy with hy | hy
      · exact h1.okl y hy
      · simp at hy; subst hy; exact hx
    · obtain ⟨v0, hs0⟩ := h.sh
      refine (Mv.of_below hw1 hs0.lt).trans ⟨hc.mono (fun g e => ?_), fun _ _ => rfl, fun g hg => ?_⟩
      · have e : g = Bx := e
        unfold Foot; rw [e, h1.l6]; omega
      · left; have := hs.lt g; omega)
  clear hx h h1 hw1 hPost
  go_enter Tryd.func20, Tryd.ntmps20
  go_upto_region 1 with fail
  obtain ⟨G, hG⟩ : ∃ G, w.heap.size = G := ⟨_, rfl⟩
  rw [hG] at HB HR ⊢
  generalize (w.alloc (.cells (lcells x).toArray 45)) = W at HB HG HR HP ⊢
  go_wp2_with (first | (refine wpL_val rfl (ex_ld (ty := 37) (cs := pcells x.2) rfl rfl HR.out Tryd.underlying37 rfl (by rw [sizeP, pcells_length HX.out.2])) ?_) | (refine wpList_store_row rfl 37 (.tmp 1) (.tmp 4) rfl Bx (pcells x.2).toArray rfl rfl 37 _ HG.out HSP.out HLP.out (one_pc x.2) ?_) | fail)
  go_end0
  exact HP.out
end Go.Proofs.YtfcjeceoedfldaaDoor
