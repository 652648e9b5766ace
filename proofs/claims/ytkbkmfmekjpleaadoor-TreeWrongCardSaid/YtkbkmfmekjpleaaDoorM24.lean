/- The tree's hole, span, refuse, read. -/
import Derived.Test.YtkbkmfmekjpleaaDoorM23
import Derived.Handy
namespace Go.Proofs.YtkbkmfmekjpleaaDoor
open Go.RowKit

attribute [local go_sem] Oper.semAt_some

theorem trHole_any (p : Pt) (hp : p.OK) (w : World) : Calls Tryd.prog 23 #[.agg (pcells p).toArray] w fun e w' => e = .returned (.bool (eqP p zeroP)) ∧ Below w.heap.size w w' := by
  have HP := Lib.hid hp
  have HB := Lib.hid (Blk.new w (pcells p) 37)
  have HW : Hid (Below w.heap.size w (w.alloc (.cells (pcells p).toArray 37))) := Lib.hid ((Below.refl _ _).alloc (Nat.le_refl _) _)
  clear hp
  go_enter Tryd.func23, Tryd.ntmps23
  go_wp2_with (first | (refine wpL_val rfl (ex_ldP HP.out HB.out rfl rfl) ?_) | (refine wpL_val rfl (ex_bld0 rfl) ?_) | (refine wpL_val rfl (ex_eqP (p := p) (q := zeroP) rfl rfl rfl HP.out zeroP_ok) ?_) | fail)
  go_ret
  exact ⟨rfl, HW.out⟩
theorem span_any (lv : Nat) (h : lv ≤ 2) (w : World) : Calls Tryd.prog 27 #[.int .u8 (lv : Int)] w fun e w' => e = .returned (.int .u32 ((8 ^ lv : Nat) : Int)) ∧ w' = w := by
  have HL := Lib.hid h
  generalize hPost : (fun e w' => e = Ending.returned (.int .u32 ((8 ^ lv : Nat) : Int)) ∧ w' = w) = Post
  have HP : Hid (Post (.returned (.int .u32 ((8 ^ lv : Nat) : Int))) w) := Lib.hid (by rw [← hPost]; exact ⟨rfl, rfl⟩)
  clear h hPost
  go_enter Tryd.func27, Tryd.ntmps27
  go_wp2_with fail
  go_loopw [3, 5] (fun n i wr => ∃ k : Nat, k ≤ lv ∧ i = .int .u8 (k : Int) ∧ n = .int .u32 ((8 ^ k : Nat) : Int) ∧ wr = w) (fun _ i _ => lv - (intOf i).toNat)
  case atStart => exact ⟨0, by omega, rfl, rfl, rfl⟩
  case round =>
    obtain ⟨k, hk, rfl, rfl, rfl⟩ := hrel
    by_cases hlt : k < lv
    · have h2 := HL.out
      have e8 : ((8 ^ (k + 1) : Nat) : Int) = ((8 ^ k : Nat) : Int) * 8 := by rw [Nat.pow_succ]; simp
      have hw1 : IntKind.u8.wrap ((k : Int) + 1) = (k : Int) + 1 := by rw [IntKind.wrap_u8]; omega
      have hb : (8 ^ k : Nat) ≤ 8 := by
        have : k = 0 ∨ k = 1 := by omega
        rcases this with rfl | rfl <;> decide
      obtain ⟨x, hx⟩ : ∃ x, 8 ^ k = x := ⟨_, rfl⟩
      have HX := Lib.hid hx
      rw [hx] at hb e8 ⊢
      have hw2 : IntKind.u32.wrap ((x : Int) * 8) = (x : Int) * 8 := by rw [IntKind.wrap_u32]; omega
      clear hb h2
      go_wp2_with fail
      go_roundw
      case rel => exact ⟨k + 1, by omega, by go_num, by rw [e8], trivial⟩
      case measure => simp [intOf]; omega
    · obtain rfl : k = lv := by omega
      obtain ⟨x, hx⟩ : ∃ x, 8 ^ k = x := ⟨_, rfl⟩
      rw [hx] at HP ⊢
      clear hx hlt
      go_wp2_with fail
      first | exact HP.out | (go_ret; exact HP.out)
def refE (p : Pt) : Nat := if eqP p zeroP then 0 else if mayP p = false ∨ p.kind ≠ 3 ∨ p.level ≠ 2 then 1 else 0
def shI (D : Nat) : Value := .iface 25 (.pointer (some ⟨D, 0, none⟩))
set_option maxRecDepth 100000 in
set_option maxHeartbeats 4000000 in
theorem trRefuse_any (p : Pt) (hp : p.OK) (D : Nat) (w : World) (hT : RTab w) : Calls Tryd.prog 17 #[shI D, .agg (pcells p).toArray] w fun e w' => e = .returned (.int .i64 (refE p : Int)) ∧ Below w.heap.size w w' := by
  have HP := Lib.hid hp
  have HT := Lib.hid hT
  have HB := Lib.hid (Blk.new w (pcells p) 37)
  have HW : Hid (Below w.heap.size w (w.alloc (.cells (pcells p).toArray 37))) := Lib.hid ((Below.refl _ _).alloc (Nat.le_refl _) _)
  obtain ⟨re, hre⟩ : ∃ re, refE p = re := ⟨_, rfl⟩
  have HRE := Lib.hid hre
  rw [hre]
  generalize hPost : (fun e w' => e = Ending.returned (.int .i64 (re : Int)) ∧ Below w.heap.size w w') = Post
  have HPO : Hid (∀ w', Below w.heap.size w w' → Post (.returned (.int .i64 (re : Int))) w') := Lib.hid fun w' h => by rw [← hPost]; exact ⟨rfl, h⟩
  clear hp hT hre hPost
  unfold shI
  go_enter Tryd.func17, Tryd.ntmps17
  go_upto_region 1 with fail
  obtain ⟨G, hG⟩ : ∃ G, w.heap.size = G := ⟨_, rfl⟩
  have HWS : Hid (∀ W', Below (w.alloc (.cells (pcells p).toArray 37)).heap.size (w.alloc (.cells (pcells p).toArray 37)) W' → Below w.heap.size w W') := Lib.hid fun W' h => HW.out.trans (h.mono HW.out.size)
  have HTW : Hid (RTab (w.alloc (.cells (pcells p).toArray 37))) := Lib.hid (HT.out.alloc _)
  rw [hG] at HB ⊢
  generalize (w.alloc (.cells (pcells p).toArray 37)) = W at HB HWS HTW ⊢
  clear HW hG
  go_wp2_with (first | (refine wpL_val rfl (ex_ldP HP.out HB.out rfl rfl) ?_) | fail)
  refine (trHole_any p HP.out W).mono ?_
  rintro e W2 ⟨rfl, hb2⟩
  have HB2 := Lib.hid (HB.out.below hb2 HB.out.lt)
  have HT2 := Lib.hid (HTW.out.grown hb2)
  have HW2 := Lib.hid hb2
  clear hb2 HB HTW
  cases hz : eqP p zeroP
  · go_wp2_with (first | (refine wpL_val rfl (ex_ldP HP.out HB2.out rfl rfl) ?_) | fail)
    refine (may_any p HP.out W2 HT2.out).mono ?_
    rintro e W3 ⟨rfl, hb3⟩
    have HB3 := Lib.hid (HB2.out.below hb3 HB2.out.lt)
    have HE := Lib.hid (HPO.out W3 (HWS.out W3 (HW2.out.trans (hb3.mono HW2.out.size))))
    have c0 := HB3.out.cell (j := 0) rfl
    have c1 := HB3.out.cell (j := 1) rfl
    obtain ⟨kk, hkk⟩ : ∃ k, p.kind = k := ⟨_, rfl⟩
    obtain ⟨ll, hll⟩ : ∃ k, p.level = k := ⟨_, rfl⟩
    have hre2 : re = if mayP p = false ∨ kk ≠ 3 ∨ ll ≠ 2 then 1 else 0 := by rw [← HRE.out, ← hkk, ← hll]; unfold refE; rw [hz]; rfl
    have HRE2 := Lib.hid hre2
    rw [hkk] at c0
    rw [hll] at c1
    clear hb3 HB2 HT2 HW2 HWS HRE hre2 hkk hll hz
    cases hm : mayP p
    · obtain rfl : re = 1 := by rw [HRE2.out, if_pos (.inl hm)]
      go_wp2_with fail
      first | exact HE.out | (go_ret; exact HE.out)
    · by_cases h3 : kk = 3
      · subst h3
        by_cases h2 : ll = 2
        · subst h2
          obtain rfl : re = 0 := by rw [HRE2.out, if_neg (by simp [hm])]
          go_wp2_with fail
          first | exact HE.out | (go_ret; exact HE.out)
        · obtain rfl : re = 1 := by rw [HRE2.out, if_pos (.inr (.inr h2))]
          have h2' : ¬ (ll : Int) = 2 := by omega
          go_wp2_with fail
          first | exact HE.out | (go_ret; exact HE.out)
      · obtain rfl : re = 1 := by rw [HRE2.out, if_pos (.inr (.inl h3))]
        have h3' : ¬ (kk : Int) = 3 := by omega
        go_wp2_with fail
        first | exact HE.out | (go_ret; exact HE.out)
  · obtain rfl : re = 0 := by rw [← HRE.out]; unfold refE; rw [hz]; rfl
    have HE := Lib.hid (HPO.out W2 (HWS.out W2 HW2.out))
    go_wp2_with fail
    first | exact HE.out | (go_ret; exact HE.out)
set_option maxRecDepth 100000 in
theorem trRefuse_nil (p : Pt) (w : World) : Calls Tryd.prog 17 #[.nilIface, .agg (pcells p).toArray] w fun e w' => e = .returned (.int .i64 2) ∧ Below w.heap.size w w' := by
  have HW : Hid (Below w.heap.size w (w.alloc (.cells (pcells p).toArray 37))) := Lib.hid ((Below.refl _ _).alloc (Nat.le_refl _) _)
  go_enter Tryd.func17, Tryd.ntmps17
  go_wp2_with fail
  go_ret
  exact ⟨rfl, HW.out⟩
end Go.Proofs.YtkbkmfmekjpleaaDoor
/- The tree's read: the node of a pointer. -/
namespace Go.Proofs.YtkbkmfmekjpleaaDoor
open Go.RowKit

attribute [local go_sem] Oper.semAt_some

def rnE (s : Sh) (p : Pt) : Nat := if eqP p zeroP = true then 0 else if rdE s p ≠ 0 then rdE s p else if nodeE (rdB s p) ≠ 0 then 21 else 0
def rnN (s : Sh) (p : Pt) : List Pt := if eqP p zeroP = true then holes else if rdE s p ≠ 0 then holes else nodeT (rdB s p)
def rnS (s : Sh) (p : Pt) : Sh := if eqP p zeroP = true then s else rdS s p
theorem rnN_ok (s : Sh) (p : Pt) : NOK (rnN s p) := by
  unfold rnN
  split
  · exact holes_ok
  · split
    · exact holes_ok
    · exact nodeT_ok _
/-- How much a shelf holds at most. -/
structure Lim (n : Nat) (s : Sh) : Prop where
  rd : s.read0.length ≤ n
  md : s.made.length ≤ n
  gn : s.gone.length ≤ n
  n : n < 1000000
  bl : s.blocks.length ≤ 30000
  bd : s.bad.length ≤ 1000
  rm : -1 ≤ s.room ∧ s.room ≤ 1000
theorem results_csN {fn : Func} {p u : Tmp} (h : fn.results = #[.cell p 74, .tmp u]) (tmps : Array Value) (w : World) (g t : Nat) (cs : List Value)
    (hp : tmps.getD p undef = .pointer (some ⟨g, 0, none⟩)) (hg : Blk w g cs t) (hi : (Tryd.prog.info? 74).map (·.size) = some cs.length) :
    (results fn tmps).run Tryd.prog w = .ok (.tuple #[.agg cs.toArray, tmps.getD u undef]) w := results_ct h tmps w g t cs hp hg Tryd.underlying74 hi
def RnPost (L : Nat → Nat) (w : World) (D : Nat) (s : Sh) (p : Pt) (e : Ending) (w' : World) : Prop := e = .returned (.tuple #[.agg (ncells (rnN s p)).toArray, .int .i64 (rnE s p : Int)]) ∧ ShPost 5 L w D (rnS s p) w'
/-- What stands while read goes on: the box of the pointer, the result's box. -/
structure RnS (L : Nat → Nat) (w : World) (D G : Nat) (s1 : Sh) (p : Pt) (X : World) : Prop where
  sh : ∃ L1 v1, ShAt X L1 D s1 v1 ∧ Mv 5 L w L1 X ∧ L1 G = 0 ∧ L1 (G + 1) = 0
  box : Blk X G (pcells p) 37
  res : Blk X (G + 1) (ncells holes) 74
  lo : w.heap.size ≤ G
theorem RnS.below {L : Nat → Nat} {w : World} {D G : Nat} {s1 : Sh} {p : Pt} {X Y : World} (h : RnS L w D G s1 p X) (hb : Below X.heap.size X Y) : RnS L w D G s1 p Y := by
  obtain ⟨⟨L1, v1, h1, h2, h3, h4⟩, hg, hr, hlo⟩ := h
  exact ⟨⟨L1, v1, h1.below hb, h2.trans (Mv.of_below hb h1.lt), h3, h4⟩, hg.below hb hg.lt, hr.below hb hr.lt, hlo⟩
theorem RnS.ends {L : Nat → Nat} {w : World} {D G : Nat} {s1 : Sh} {p : Pt} {X : World} (h : RnS L w D G s1 p X) (ns : List Pt) : ShPost 5 L w D s1 (X.setRow (G + 1) (ncells ns).toArray) ∧ Blk (X.setRow (G + 1) (ncells ns).toArray) (G + 1) (ncells ns) 74 := by
  obtain ⟨⟨L1, v1, h1, h2, h3, h4⟩, hg, hr, hlo⟩ := h
  have hc := chgR X (G + 1) (ncells ns).toArray
  have hz : (X.setRow (G + 1) (ncells ns).toArray).heap.size = X.heap.size := by simp
  refine ⟨⟨L1, v1, h1.out hc (fun g e _ => .inl (by rw [e]; exact h4)) (fun _ _ => .inl rfl) (fun g hg => by rw [hz]; exact h1.lt g hg), ?_⟩, hr.row _⟩
  exact ⟨h2.chg.trans hc (fun g e => by right; have : g = G + 1 := e; omega), h2.old, h2.new⟩
set_option maxRecDepth 100000 in
set_option maxHeartbeats 8000000 in
theorem trRead_any {w : World} {L : Nat → Nat} {D : Nat} {s : Sh} {v : Sv} {n : Nat} (p : Pt) (hp : p.OK) (h : ShAt w L D s v) (hn : Lim n s) : Calls Tryd.prog 25 #[shI D, .agg (pcells p).toArray] w (RnPost L w D s p) := by
  have HPO := Lib.hid hp
  have HN := Lib.hid hn
  have HX : Hid (∀ z, z = (ncells holes).toArray → RnS L w D w.heap.size s p ((w.alloc (.cells (pcells p).toArray 37)).alloc (.cells z 74))) := Lib.hid (fun z hz => by
    subst hz
    have hw1 : Below w.heap.size w ((w.alloc (.cells (pcells p).toArray 37)).alloc (.cells (ncells holes).toArray 74)) := ((Below.refl _ _).alloc (Nat.le_refl _) _).alloc (by simp) _
    exact ⟨⟨L, v, h.below hw1, Mv.of_below hw1 h.lt, h.not (Nat.le_refl _), h.not (by omega)⟩, (Blk.new _ _ _).alloc _, Blk.new' _ _ _ _ _ (by simp) rfl, Nat.le_refl _⟩)
  generalize hPost : RnPost L w D s p = Post
  have HP : Hid (∀ w', ShPost 5 L w D (rnS s p) w' → Post (.returned (.tuple #[.agg (ncells (rnN s p)).toArray, .int .i64 (rnE s p : Int)])) w') := Lib.hid fun w' h => by rw [← hPost]; exact ⟨rfl, h⟩
  have HSH := Lib.hid (size_nc holes_ok)
  have HOH := Lib.hid (ncells_one holes_ok.ok)
  clear hp h hn hPost
  unfold shI
  go_enter Tryd.func25, Tryd.ntmps25
  go_upto_region 1 with fail
  refine (fun (k : ∀ W, RnS L w D w.heap.size s p W → Code.wp _ _ _ _ W) => k _ (HX.out _ rfl)) ?_
  intro W hW
  obtain ⟨G, hG⟩ : ∃ G, w.heap.size = G := ⟨_, rfl⟩
  rw [hG] at hW ⊢
  clear HX
  have HX := Lib.hid hW
  clear hW
  go_wp2_with (first | (refine wpL_val rfl (ex_ldP HPO.out HX.out.box rfl rfl) ?_) | fail)
  refine (trHole_any p HPO.out W).mono ?_
  rintro e W2 ⟨rfl, hb2⟩
  have HX2 := Lib.hid (HX.out.below hb2)
  clear hb2 HX
  cases hz : eqP p zeroP
  · have HE : Hid (rnS s p = rdS s p ∧ rnE s p = (if rdE s p ≠ 0 then rdE s p else if nodeE (rdB s p) ≠ 0 then 21 else 0) ∧ rnN s p = if rdE s p ≠ 0 then holes else nodeT (rdB s p)) := Lib.hid (by unfold rnS rnE rnN; rw [hz]; exact ⟨rfl, rfl, rfl⟩)
    obtain ⟨⟨L1, v1, h1, h2, h3, h4⟩, h5, h6, h7⟩ := HX2.out
    have HRD := Lib.hid (shRead_any p HPO.out h1 (by have := HN.out.rd; have := HN.out.n; omega) HN.out.bl HN.out.bd)
    have HM : Hid (∀ e X, RdPost 5 L1 W2 D s p e X → ∃ val L3, e = .returned (.tuple #[val, .int .i64 (rdE s p : Int)]) ∧ RnS L w D G (rdS s p) p X ∧ BkV X L3 val (rdB s p)) := Lib.hid (by
      rintro e X ⟨val, L3, v3, rfl, k1, k2, k3⟩
      exact ⟨val, L3, rfl, ⟨⟨L3, v3, k1, h2.trans k2, (k2.old G h5.lt).trans h3, (k2.old (G + 1) h6.lt).trans h4⟩, k2.blk h5 h3, k2.blk h6 h4, h7⟩, k3⟩)
    clear h1 h2 h3 h4 h5 h6 h7
    go_wp2_with (first | (refine wpL_val rfl (ex_ldP HPO.out HX2.out.box rfl rfl) ?_) | fail)
    refine HRD.out.mono ?_
    intro e X hpost
    obtain ⟨val, L3, rfl, hx3, hbk⟩ := HM.out e X hpost
    have HX3 := Lib.hid hx3
    have HBK := Lib.hid hbk
    clear hpost hx3 hbk HM HRD HX2
    obtain ⟨re, hre⟩ : ∃ re, rdE s p = re := ⟨_, rfl⟩
    rw [hre] at HE ⊢
    by_cases h0 : re = 0
    · subst h0
      obtain ⟨sp, cap, rfl, hc, hz1, hS, -⟩ := HBK.out
      obtain ⟨⟨L4, v4, h4, -⟩, -⟩ := HX3.out
      have htk := nodeTake_any (rdB s p) sp cap X hz1 hc hS h4.tab.1
      obtain ⟨ln, hln⟩ : ∃ ln, (rdB s p).length = ln := ⟨_, rfl⟩
      rw [hln] at htk ⊢
      have HTK := Lib.hid htk
      have HTO := Lib.hid (nodeT_ok (rdB s p))
      have HST := Lib.hid (size_nc HTO.out)
      have HSA : Hid ((ncells (nodeT (rdB s p))).toArray.size = 328) := Lib.hid HTO.out.size
      have HOT := Lib.hid (ncells_one HTO.out.ok)
      clear hc hz1 hS htk h4 hln HBK hre
      go_wp2_with fail
      refine HTK.out.mono ?_
      rintro e X4 ⟨rfl, hb4⟩
      have HX4 := Lib.hid (HX3.out.below hb4)
      clear hb4 HX3 HTK
      obtain ⟨ns, hns⟩ : ∃ ns, nodeT (rdB s p) = ns := ⟨_, rfl⟩
      obtain ⟨ne, hne⟩ : ∃ ne, nodeE (rdB s p) = ne := ⟨_, rfl⟩
      rw [hns] at HTO HST HSA HOT
      rw [hns, hne] at HE
      rw [hns, hne]
      have HNT : Hid (ne ≠ 0 → ns = holes) := Lib.hid (fun h => by rw [← hns]; unfold nodeT; rw [hne, if_neg h])
      clear hns hne
      go_upto_region 7 with (first | (refine wpList_store_row rfl 74 (.tmp 8) (.tmp 25) rfl X4.heap.size (ncells ns).toArray rfl rfl 74 _ (heap_alloc_new X4 _) HST.out (by rw [HSA.out]; rfl) HOT.out ?_) | fail)
      refine (fun (k : ∀ W, RnS L w D G (rdS s p) p W → Blk W X4.heap.size (ncells ns) 74 → Code.wp _ _ _ _ W) => k _ (HX4.out.below (blk_row1 X4 _ (ncells ns) 74).2) (blk_row1 X4 _ (ncells ns) 74).1) ?_
      intro X5 hX5 hb5
      have HX5 := Lib.hid hX5; have HB5 := Lib.hid hb5
      obtain ⟨G5, hG5⟩ : ∃ g, X4.heap.size = g := ⟨_, rfl⟩
      rw [hG5] at HB5 ⊢
      have HRB := Lib.hid hX5.res
      clear hX5 hb5 HX4 hG5
      by_cases hn0 : ne = 0
      · subst hn0
        obtain ⟨e1, e2, e3⟩ := HE.out
        rw [if_neg (by simp), if_neg (by simp)] at e2
        rw [if_neg (by simp)] at e3
        have HBE := Lib.hid (HX5.out.ends ns)
        have HEND := Lib.hid (HP.out _ (by rw [e1]; exact HBE.out.1))
        rw [e2, e3] at HEND
        have HZN : Hid ((ncells holes).toArray.size = (ncells ns).toArray.size) := Lib.hid (by rw [HSA.out, holes_ok.size])
        clear e1 e2 e3 HE
        go_wp2_with (first | (refine wpL_val rfl (ex_ldN HTO.out HB5.out rfl rfl) ?_) | (refine wpList_store_row rfl 74 (.tmp 4) (.tmp 30) rfl (G + 1) (ncells ns).toArray rfl rfl 74 _ HRB.out HST.out HZN.out HOT.out ?_) | fail)
        refine bodyPost_ret (results_csN Tryd.results25 _ _ (G + 1) 74 _ rfl HBE.out.2 (size_ncl HTO.out)) rfl ?_
        exact HEND.out
      · obtain ⟨e1, e2, e3⟩ := HE.out
        rw [if_neg (by simp), if_pos hn0] at e2
        rw [if_neg (by simp), HNT.out hn0] at e3
        have HBE := Lib.hid (HX5.out.ends holes)
        have HEND := Lib.hid (HP.out _ (by rw [e1]; exact HBE.out.1))
        rw [e2, e3] at HEND
        have hn0' : ¬ (ne : Int) = 0 := by omega
        clear e1 e2 e3 HE hn0
        go_wp2_with (first | (refine wpL_val rfl (ex_bldN rfl) ?_) | (refine wpList_store_row rfl 74 (.tmp 4) (.tmp 29) rfl (G + 1) (ncells holes).toArray rfl rfl 74 _ HRB.out HSH.out rfl HOH.out ?_) | fail)
        refine bodyPost_ret (results_csN Tryd.results25 _ _ (G + 1) 74 _ rfl HBE.out.2 (size_ncl holes_ok)) rfl ?_
        exact HEND.out
    · obtain ⟨e1, e2, e3⟩ := HE.out
      rw [if_pos h0] at e2
      rw [if_pos h0] at e3
      have HBE := Lib.hid (HX3.out.ends holes)
      have HEND := Lib.hid (HP.out _ (by rw [e1]; exact HBE.out.1))
      rw [e2, e3] at HEND
      have HRB := Lib.hid HX3.out.res
      have h0' : ¬ (re : Int) = 0 := by omega
      clear e1 e2 e3 HE h0 hre
      go_wp2_with (first | (refine wpL_val rfl (ex_bldN rfl) ?_) | (refine wpList_store_row rfl 74 (.tmp 4) (.tmp 20) rfl (G + 1) (ncells holes).toArray rfl rfl 74 _ HRB.out HSH.out rfl HOH.out ?_) | fail)
      refine bodyPost_ret (results_csN Tryd.results25 _ _ (G + 1) 74 _ rfl HBE.out.2 (size_ncl holes_ok)) rfl ?_
      exact HEND.out
  · have HBE := Lib.hid (HX2.out.ends holes)
    have HEND := Lib.hid (HP.out _ (by unfold rnS; rw [hz]; exact HBE.out.1))
    have e2 : rnE s p = 0 := by unfold rnE; rw [hz]; rfl
    have e3 : rnN s p = holes := by unfold rnN; rw [hz]; rfl
    rw [e2, e3] at HEND
    have HRB := Lib.hid HX2.out.res
    clear e2 e3 hz
    go_wp2_with (first | (refine wpL_val rfl (ex_bldN rfl) ?_) | (refine wpList_store_row rfl 74 (.tmp 4) (.tmp 11) rfl (G + 1) (ncells holes).toArray rfl rfl 74 _ HRB.out HSH.out rfl HOH.out ?_) | fail)
    refine bodyPost_ret (results_csN Tryd.results25 _ _ (G + 1) 74 _ rfl HBE.out.2 (size_ncl holes_ok)) rfl ?_
    exact HEND.out
end Go.Proofs.YtkbkmfmekjpleaaDoor
