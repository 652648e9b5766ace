/- The table's small functions; what stands under a leaf's pointer. -/
import Derived.Test.YtjgjohdeeeoeoaaGreatDoorM27
import Derived.Test.YtjgjohdeeeoeoaaGreatDoorM29
namespace Go.Proofs.YtjgjohdeeeoeoaaGreatDoor
open Go.RowKit
attribute [local go_sem] Oper.semAt_some
def numOk (k : Nat) : Bool := decide (k ≠ 0) && decide (k ≤ 255)
theorem tbNum_any (k : Nat) (hk : k < 65536) (w : World) : Calls Tryz.prog 43 #[.int .u16 (k : Int)] w fun e w' => e = .returned (.bool (numOk k)) ∧ w' = w := by
  generalize hPost : (fun (e : Ending) (w' : World) => e = .returned (.bool (numOk k)) ∧ w' = w) = Post
  have HPO : Hid (∀ b, numOk k = b → Post (.returned (.bool b)) w) := Lib.hid fun b e => by rw [← hPost, ← e]; exact ⟨rfl, rfl⟩
  clear hPost
  go_enter Tryz.func43, Tryz.ntmps43
  by_cases h0 : k = 0
  · subst h0
    have HE := Lib.hid (HPO.out false rfl)
    go_wp2_with fail
    first | exact HE.out | (simpa [bne, j0] using HE.out) | (simpa using HE.out)
  · have j0 : ((k : Int) == 0) = false := by simp; omega
    have j0' : ¬ (k : Int) = 0 := by omega
    by_cases h1 : k ≤ 255
    · have j1 : (k : Int) ≤ 255 := by omega
      have HE := Lib.hid (HPO.out true (by unfold numOk; rw [decide_eq_true h0, decide_eq_true h1]; rfl))
      clear h0 h1
      go_wp2_with fail
      first | exact HE.out | (simpa [bne, j0] using HE.out) | (simpa using HE.out)
    · have j1 : ¬ (k : Int) ≤ 255 := by omega
      have HE := Lib.hid (HPO.out false (by unfold numOk; rw [decide_eq_false h1, Bool.and_false]))
      clear h0 h1
      go_wp2_with fail
      first | exact HE.out | (simpa [bne, j0] using HE.out) | (simpa using HE.out)
def tbE (s : Sh) (p : Pt) : Nat := if eqP p zeroP = true then 0 else if rdE s p ≠ 0 then rdE s p else if inoE (rdB s p) ≠ 0 then 21 else 0
def tbN (s : Sh) (p : Pt) : List Ino := if eqP p zeroP = true then zeros4 else if rdE s p ≠ 0 then zeros4 else inoT (rdB s p)
def tbS (s : Sh) (p : Pt) : Sh := if eqP p zeroP = true then s else rdS s p
def TbPost (L : Nat → Nat) (w : World) (D : Nat) (s : Sh) (p : Pt) (e : Ending) (w' : World) : Prop := e = .returned (.tuple #[.agg (bcells (tbN s p)).toArray, .int .i64 (tbE s p : Int)]) ∧ ShPost 5 L w D (tbS s p) w'
structure TbRS (L : Nat → Nat) (w : World) (D G : Nat) (s1 : Sh) (p : Pt) (X : World) : Prop where
  sh : ∃ L1 v1, ShAt X L1 D s1 v1 ∧ Mv 5 L w L1 X ∧ L1 G = 0 ∧ L1 (G + 1) = 0
  box : Blk X G (pcells p) 28
  res : Blk X (G + 1) (bcells zeros4) 104
  lo : w.heap.size ≤ G
theorem TbRS.below {L : Nat → Nat} {w : World} {D G : Nat} {s1 : Sh} {p : Pt} {X Y : World} (h : TbRS L w D G s1 p X) (hb : Below X.heap.size X Y) : TbRS L w D G s1 p Y := by
  obtain ⟨⟨L1, v1, h1, h2, h3, h4⟩, hg, hr, hlo⟩ := h
  exact ⟨⟨L1, v1, h1.below hb, h2.trans (Mv.of_below hb h1.lt), h3, h4⟩, hg.below hb hg.lt, hr.below hb hr.lt, hlo⟩
theorem TbRS.ends {L : Nat → Nat} {w : World} {D G : Nat} {s1 : Sh} {p : Pt} {X : World} (h : TbRS L w D G s1 p X) (ns : List Ino) : ShPost 5 L w D s1 (X.setRow (G + 1) (bcells ns).toArray) ∧ Blk (X.setRow (G + 1) (bcells ns).toArray) (G + 1) (bcells ns) 104 := by
  obtain ⟨⟨L1, v1, h1, h2, h3, h4⟩, hg, hr, hlo⟩ := h
  have hc := chgR X (G + 1) (bcells ns).toArray
  have hz : (X.setRow (G + 1) (bcells ns).toArray).heap.size = X.heap.size := by simp
  refine ⟨⟨L1, v1, h1.out hc (fun g e _ => .inl (by rw [e]; exact h4)) (fun _ _ => .inl rfl) (fun g hg => by rw [hz]; exact h1.lt g hg), ?_⟩, hr.row _⟩
  exact ⟨h2.chg.trans hc (fun g e => by right; have : g = G + 1 := e; omega), h2.old, h2.new⟩
set_option maxRecDepth 100000 in
set_option maxHeartbeats 8000000 in
theorem tbRead_any {w : World} {L : Nat → Nat} {D : Nat} {s : Sh} {v : Sv} {n : Nat} (p : Pt) (hp : p.OK) (h : ShAt w L D s v) (hn : Lim n s) (hbl : (rdB s p).length ≤ 100000) : Calls Tryz.prog 46 #[shI D, .agg (pcells p).toArray] w (TbPost L w D s p) := by
  have HPO := Lib.hid hp
  have HN := Lib.hid hn
  have HBL := Lib.hid hbl
  have HX : Hid (∀ z, z = (bcells zeros4).toArray → TbRS L w D w.heap.size s p ((w.alloc (.cells (pcells p).toArray 28)).alloc (.cells z 104))) := Lib.hid (fun z hz => by
    subst hz
    have hw1 : Below w.heap.size w ((w.alloc (.cells (pcells p).toArray 28)).alloc (.cells (bcells zeros4).toArray 104)) := ((Below.refl _ _).alloc (Nat.le_refl _) _).alloc (by simp) _
    exact ⟨⟨L, v, h.below hw1, Mv.of_below hw1 h.lt, h.not (Nat.le_refl _), h.not (by omega)⟩, (Blk.new _ _ _).alloc _, Blk.new' _ _ _ _ _ (by simp) rfl, Nat.le_refl _⟩)
  generalize hPost : TbPost L w D s p = Post
  have HP : Hid (∀ w', ShPost 5 L w D (tbS s p) w' → Post (.returned (.tuple #[.agg (bcells (tbN s p)).toArray, .int .i64 (tbE s p : Int)])) w') := Lib.hid fun w' h => by rw [← hPost]; exact ⟨rfl, h⟩
  have HSH := Lib.hid (size_bcB zeros4_ok)
  have HOH := Lib.hid (bcells_one zeros4)
  clear hp h hn hPost
  unfold shI
  go_enter Tryz.func46, Tryz.ntmps46
  go_upto_region 1 with fail
  refine (fun (k : ∀ W, TbRS L w D w.heap.size s p W → Code.wp _ _ _ _ W) => k _ (HX.out _ rfl)) ?_
  intro W hW
  obtain ⟨G, hG⟩ : ∃ G, w.heap.size = G := ⟨_, rfl⟩
  rw [hG] at hW ⊢
  clear HX
  have HX := Lib.hid hW
  clear hW
  have HX2 := HX
  cases hz : eqP p zeroP
  · have HE : Hid (tbS s p = rdS s p ∧ tbE s p = (if rdE s p ≠ 0 then rdE s p else if inoE (rdB s p) ≠ 0 then 21 else 0) ∧ tbN s p = if rdE s p ≠ 0 then zeros4 else inoT (rdB s p)) := Lib.hid (by unfold tbS tbE tbN; rw [hz]; exact ⟨rfl, rfl, rfl⟩)
    obtain ⟨⟨L1, v1, h1, h2, h3, h4⟩, h5, h6, h7⟩ := HX2.out
    have HRD := Lib.hid (shRead_any p HPO.out h1 (by have := HN.out.rd; have := HN.out.n; omega) HN.out.bl HN.out.bd)
    have HM : Hid (∀ e X, RdPost 5 L1 W D s p e X → ∃ val L3, e = .returned (.tuple #[val, .int .i64 (rdE s p : Int)]) ∧ TbRS L w D G (rdS s p) p X ∧ BkV X L3 val (rdB s p)) := Lib.hid (by
      rintro e X ⟨val, L3, v3, rfl, k1, k2, k3⟩
      exact ⟨val, L3, rfl, ⟨⟨L3, v3, k1, h2.trans k2, (k2.old G h5.lt).trans h3, (k2.old (G + 1) h6.lt).trans h4⟩, k2.blk h5 h3, k2.blk h6 h4, h7⟩, k3⟩)
    clear h1 h2 h3 h4 h5 h6 h7
    clear HX
    go_wp2_with (first | (refine wpL_val rfl (ex_ldP HPO.out HX2.out.box rfl rfl) ?_) | (refine wpL_val rfl (ex_bld0 rfl) ?_) | (refine wpL_val rfl ((ex_eqP rfl rfl rfl HPO.out zeroP_ok).trans (by rw [hz])) ?_) | fail)
    refine HRD.out.mono ?_
    intro e X hpost
    obtain ⟨val, L3, rfl, hx3, hbk⟩ := HM.out e X hpost
    have HX3 := Lib.hid hx3
    have HBK := Lib.hid hbk
    clear hpost hx3 hbk HM HRD HX2
    obtain ⟨re, hre⟩ : ∃ re, rdE s p = re := ⟨_, rfl⟩
    rw [hre] at HE ⊢
    by_cases h0 : re = 0
    · subst h0
      obtain ⟨sp, cap, rfl, hc, hz1, hS, -⟩ := HBK.out
      obtain ⟨⟨L4, v4, h4, -⟩, -⟩ := HX3.out
      have htk := itake_any (rdB s p) sp cap X HBL.out hz1 hc hS h4.tab.1
      obtain ⟨ln, hln⟩ : ∃ ln, (rdB s p).length = ln := ⟨_, rfl⟩
      rw [hln] at htk ⊢
      have HTK := Lib.hid htk
      have HTO := Lib.hid (inoT_ok (rdB s p))
      have HST := Lib.hid (size_bcB HTO.out)
      have HSA : Hid ((bcells (inoT (rdB s p))).toArray.size = 176) := Lib.hid HTO.out.size
      have HOT := Lib.hid (bcells_one (inoT (rdB s p)))
      clear hc hz1 hS htk h4 hln HBK hre
      go_wp2_with fail
      refine HTK.out.mono ?_
      rintro e X4 ⟨rfl, hb4⟩
      have HX4 := Lib.hid (HX3.out.below hb4)
      clear hb4 HX3 HTK
      obtain ⟨ns, hns⟩ : ∃ ns, inoT (rdB s p) = ns := ⟨_, rfl⟩
      obtain ⟨ne, hne⟩ : ∃ ne, inoE (rdB s p) = ne := ⟨_, rfl⟩
      rw [hns] at HTO HST HSA HOT
      rw [hns, hne] at HE
      rw [hns, hne]
      have HNT : Hid (ne ≠ 0 → ns = zeros4) := Lib.hid (fun h => by rw [← hns]; rw [← hne] at h; unfold inoE at h; unfold inoT; by_cases k : inoOk (rdB s p) = true <;> simp_all)
      clear hns hne
      go_upto_region 7 with (first | (refine wpList_store_row rfl 104 (.tmp 8) (.tmp 26) rfl X4.heap.size (bcells ns).toArray rfl rfl 104 _ (heap_alloc_new X4 _) HST.out (by rw [HSA.out]; rfl) HOT.out ?_) | fail)
      refine (fun (k : ∀ W, TbRS L w D G (rdS s p) p W → Blk W X4.heap.size (bcells ns) 104 → Code.wp _ _ _ _ W) => k _ (HX4.out.below (blk_row1 X4 _ (bcells ns) 104).2) (blk_row1 X4 _ (bcells ns) 104).1) ?_
      intro X5 hX5 hb5
      have HX5 := Lib.hid hX5; have HB5 := Lib.hid hb5
      obtain ⟨G5, hG5⟩ : ∃ g, X4.heap.size = g := ⟨_, rfl⟩
      rw [hG5] at HB5 ⊢
      have HRB := Lib.hid hX5.res
      clear hX5 hb5 HX4 hG5
      by_cases hn0 : ne = 0
      · subst hn0
        obtain ⟨e1, e2, e3⟩ := HE.out
        rw [if_neg (by simp), if_neg (by simp)] at e2
        rw [if_neg (by simp)] at e3
        have HBE := Lib.hid (HX5.out.ends ns)
        have HEND := Lib.hid (HP.out _ (by rw [e1]; exact HBE.out.1))
        rw [e2, e3] at HEND
        have HZN : Hid ((bcells zeros4).toArray.size = (bcells ns).toArray.size) := Lib.hid (by rw [HSA.out, zeros4_ok.size])
        clear e1 e2 e3 HE
        go_wp2_with (first | (refine wpL_val rfl (ex_ldBn HTO.out HB5.out rfl rfl) ?_) | (refine wpList_store_row rfl 104 (.tmp 4) (.tmp 31) rfl (G + 1) (bcells ns).toArray rfl rfl 104 _ HRB.out HST.out HZN.out HOT.out ?_) | fail)
        refine bodyPost_ret (results_ctI Tryz.results46 _ _ (G + 1) 104 _ rfl HBE.out.2 Tryz.underlying104 (size_bcBl HTO.out)) rfl ?_
        exact HEND.out
      · obtain ⟨e1, e2, e3⟩ := HE.out
        rw [if_neg (by simp), if_pos hn0] at e2
        rw [if_neg (by simp), HNT.out hn0] at e3
        have HBE := Lib.hid (HX5.out.ends zeros4)
        have HEND := Lib.hid (HP.out _ (by rw [e1]; exact HBE.out.1))
        rw [e2, e3] at HEND
        have hn0' : ¬ (ne : Int) = 0 := by omega
        clear e1 e2 e3 HE hn0
        go_wp2_with (first | (refine wpL_val rfl (ex_bldB0 rfl) ?_) | (refine wpList_store_row rfl 104 (.tmp 4) (.tmp 30) rfl (G + 1) (bcells zeros4).toArray rfl rfl 104 _ HRB.out HSH.out rfl HOH.out ?_) | fail)
        refine bodyPost_ret (results_ctI Tryz.results46 _ _ (G + 1) 104 _ rfl HBE.out.2 Tryz.underlying104 (size_bcBl zeros4_ok)) rfl ?_
        exact HEND.out
    · obtain ⟨e1, e2, e3⟩ := HE.out
      rw [if_pos h0] at e2
      rw [if_pos h0] at e3
      have HBE := Lib.hid (HX3.out.ends zeros4)
      have HEND := Lib.hid (HP.out _ (by rw [e1]; exact HBE.out.1))
      rw [e2, e3] at HEND
      have HRB := Lib.hid HX3.out.res
      have h0' : ¬ (re : Int) = 0 := by omega
      clear e1 e2 e3 HE h0 hre
      go_wp2_with (first | (refine wpL_val rfl (ex_bldB0 rfl) ?_) | (refine wpList_store_row rfl 104 (.tmp 4) (.tmp 21) rfl (G + 1) (bcells zeros4).toArray rfl rfl 104 _ HRB.out HSH.out rfl HOH.out ?_) | fail)
      refine bodyPost_ret (results_ctI Tryz.results46 _ _ (G + 1) 104 _ rfl HBE.out.2 Tryz.underlying104 (size_bcBl zeros4_ok)) rfl ?_
      exact HEND.out
  · have HBE := Lib.hid (HX2.out.ends zeros4)
    have HEND := Lib.hid (HP.out _ (by unfold tbS; rw [hz]; exact HBE.out.1))
    have e2 : tbE s p = 0 := by unfold tbE; rw [hz]; rfl
    have e3 : tbN s p = zeros4 := by unfold tbN; rw [hz]; rfl
    rw [e2, e3] at HEND
    have HRB := Lib.hid HX2.out.res
    clear e2 e3 HX
    go_wp2_with (first | (refine wpL_val rfl (ex_ldP HPO.out HX2.out.box rfl rfl) ?_) | (refine wpL_val rfl (ex_bld0 rfl) ?_) | (refine wpL_val rfl ((ex_eqP rfl rfl rfl HPO.out zeroP_ok).trans (by rw [hz])) ?_) | (refine wpL_val rfl (ex_bldB0 rfl) ?_) | (refine wpList_store_row rfl 104 (.tmp 4) (.tmp 12) rfl (G + 1) (bcells zeros4).toArray rfl rfl 104 _ HRB.out HSH.out rfl HOH.out ?_) | fail)
    refine bodyPost_ret (results_ctI Tryz.results46 _ _ (G + 1) 104 _ rfl HBE.out.2 Tryz.underlying104 (size_bcBl zeros4_ok)) rfl ?_
    exact HEND.out
def blE (s : Sh) (p : Pt) (off : Nat) : Nat := if getE s p off ≠ 0 then getE s p off else tbE (getS s p off) (getP s p off)
def blN (s : Sh) (p : Pt) (off : Nat) : List Ino := if getE s p off ≠ 0 then zeros4 else tbN (getS s p off) (getP s p off)
def blS (s : Sh) (p : Pt) (off : Nat) : Sh := if getE s p off ≠ 0 then getS s p off else tbS (getS s p off) (getP s p off)
def BlPost (L : Nat → Nat) (w : World) (D : Nat) (s : Sh) (p : Pt) (off m : Nat) (e : Ending) (w' : World) : Prop := e = .returned (.tuple #[.agg (bcells (blN s p off)).toArray, .int .i64 (blE s p off : Int)]) ∧ ShPost 5 L w D (blS s p off) w' ∧ Lim m (blS s p off)
theorem goB_okt {f : Sh → List Pt → List Lf → Pt → Nat → Bw} (hf : ∀ s ns ls q a, q.OK → (∀ x ∈ ls, Pt.OK x.2) → ∀ x ∈ (f s ns ls q a).ls, Pt.OK x.2) (wide first fr tt : Nat) : ∀ (qs : List Pt) (i : Nat) (s : Sh) (ns : List Pt) (ls : List Lf), (∀ q ∈ qs, q.OK) → (∀ x ∈ ls, Pt.OK x.2) → ∀ x ∈ (goB f wide first fr tt qs i s ns ls).ls, Pt.OK x.2
  | [], _, _, _, _, _, hl => hl
  | q :: qs, i, s, ns, ls, hq, hl => by
    have hq1 := hq q (List.mem_cons_self ..)
    have hq2 : ∀ q ∈ qs, q.OK := fun y hy => hq y (List.mem_cons_of_mem _ hy)
    by_cases hc : first + i * wide + wide ≤ fr ∨ tt ≤ first + i * wide
    · rw [goB_skip hc]; exact goB_okt hf wide first fr tt qs _ _ _ _ hq2 hl
    · by_cases he : (f s ns ls q (first + i * wide)).e = 0
      · rw [goB_ok hc he]
        exact goB_okt hf wide first fr tt qs _ _ _ _ hq2 (hf _ _ _ _ _ hq1 hl)
      · rw [goB_err hc he]; exact hf _ _ _ _ _ hq1 hl
theorem belowP_okt (fr tt : Nat) : ∀ (n : Nat) (s : Sh) (ns : List Pt) (ls : List Lf) (p : Pt) (first : Nat), p.OK → (∀ x ∈ ls, Pt.OK x.2) → ∀ x ∈ (belowP fr tt n s ns ls p first).ls, Pt.OK x.2
  | 0, s, ns, ls, p, first, hp, hl => by
    unfold belowP
    split
    · exact hl
    · intro x hx
      rcases List.mem_append.1 hx with h | h
      · exact hl x h
      · simp at h; subst h; exact hp
  | n + 1, s, ns, ls, p, first, hp, hl => by
    rw [belowP_succ]
    split
    · exact hl
    · split
      · exact hl
      · exact goB_okt (fun s ns ls q a h1 h2 => belowP_okt fr tt n s ns ls q a h1 h2) (8 ^ n) first fr tt (rnN s p) 0 (rnS s p) (ns ++ [p]) ls (rnN_ok s p).ok hl
theorem getP_okt (s : Sh) {p : Pt} (off : Nat) (hp : p.OK) : (getP s p off).OK := by
  unfold getP
  split
  · exact zeroP_ok
  · unfold lastP
    cases hl : (getR s p off).ls.getLast? with
    | none => exact zeroP_ok
    | some y => exact belowP_okt off (off + 1) 2 s [] [] p 0 hp (fun x hx => by simp at hx) y (List.mem_of_getLast? hl)
theorem tbN_ok (s : Sh) (p : Pt) : BOK (tbN s p) := by
  unfold tbN
  split
  · exact zeros4_ok
  · split
    · exact zeros4_ok
    · exact inoT_ok _
theorem TbRS.post {L : Nat → Nat} {w : World} {D G : Nat} {s s2 : Sh} {p : Pt} {X Y : World} (h : TbRS L w D G s p X) {L1 : Nat → Nat} {v1 : Sv} (h1 : ShAt X L1 D s v1) (h2 : Mv 5 L w L1 X) (h3 : L1 G = 0) (h4 : L1 (G + 1) = 0) (hp : ShPost 5 L1 X D s2 Y) : TbRS L w D G s2 p Y := by
  obtain ⟨L3, v3, k1, k2⟩ := hp
  exact ⟨⟨L3, v3, k1, h2.trans k2, (k2.old G h.box.lt).trans h3, (k2.old (G + 1) h.res.lt).trans h4⟩, k2.blk h.box h3, k2.blk h.res h4, h.lo⟩
theorem Lo.of {L : Nat → Nat} {w : World} {L1 : Nat → Nat} {X : World} (h : Lo L) (hm : Mv 5 L w L1 X) : Lo L1 := h.mv hm
set_option maxRecDepth 100000 in
set_option maxHeartbeats 8000000 in
theorem tbBelow_any {w : World} {L : Nat → Nat} {D : Nat} {s : Sh} {v : Sv} {m : Nat} (p : Pt) (hp : p.OK) (off : Nat) (hoff : off < 4294967296) (h : ShAt w L D s v) (hlo : Lo L) (hk : Lim m s) (hm : m + 74 < 100000000) (hbl : (rdB (getS s p off) (getP s p off)).length ≤ 100000) :
    Calls Tryz.prog 38 #[shI D, .agg (pcells p).toArray, .int .u32 (off : Int)] w (BlPost L w D s p off (m + 74)) := by
  have HPO := Lib.hid hp
  have HK := Lib.hid hk
  have HM := Lib.hid hm
  have HBL := Lib.hid hbl
  have HLO := Lib.hid hlo
  have HOF := Lib.hid hoff
  have HX : Hid (∀ z, z = (bcells zeros4).toArray → TbRS L w D w.heap.size s p ((w.alloc (.cells (pcells p).toArray 28)).alloc (.cells z 104))) := Lib.hid (fun z hz => by
    subst hz
    have hw1 : Below w.heap.size w ((w.alloc (.cells (pcells p).toArray 28)).alloc (.cells (bcells zeros4).toArray 104)) := ((Below.refl _ _).alloc (Nat.le_refl _) _).alloc (by simp) _
    exact ⟨⟨L, v, h.below hw1, Mv.of_below hw1 h.lt, h.not (Nat.le_refl _), h.not (by omega)⟩, (Blk.new _ _ _).alloc _, Blk.new' _ _ _ _ _ (by simp) rfl, Nat.le_refl _⟩)
  generalize hPost : BlPost L w D s p off (m + 74) = Post
  have HP : Hid (∀ w', ShPost 5 L w D (blS s p off) w' → Lim (m + 74) (blS s p off) → Post (.returned (.tuple #[.agg (bcells (blN s p off)).toArray, .int .i64 (blE s p off : Int)])) w') := Lib.hid fun w' h hl => by rw [← hPost]; exact ⟨rfl, h, hl⟩
  have HSH := Lib.hid (size_bcB zeros4_ok)
  have HP2 : Hid (getP s p off).OK := Lib.hid (getP_okt s off hp)
  obtain ⟨e2, he2⟩ : ∃ x, getE s p off = x := ⟨_, rfl⟩
  obtain ⟨p2, hp2⟩ : ∃ x, getP s p off = x := ⟨_, rfl⟩
  obtain ⟨s2, hs2⟩ : ∃ x, getS s p off = x := ⟨_, rfl⟩
  have HE : Hid (blE s p off = (if e2 ≠ 0 then e2 else tbE s2 p2) ∧ blN s p off = (if e2 ≠ 0 then zeros4 else tbN s2 p2) ∧ blS s p off = (if e2 ≠ 0 then s2 else tbS s2 p2)) := Lib.hid (by unfold blE blN blS; rw [he2, hp2, hs2]; exact ⟨rfl, rfl, rfl⟩)
  have HGET : Hid (∀ (W : World) (L1 : Nat → Nat) (v1 : Sv), ShAt W L1 D s v1 → Lo L1 → Calls Tryz.prog 69 #[shI D, .agg (pcells p).toArray, .int .u32 (off : Int)] W fun e Y => e = .returned (.tuple #[.agg (pcells p2).toArray, .int .i64 (e2 : Int)]) ∧ ShPost 5 L1 W D s2 Y ∧ Lim (m + 73) s2) := Lib.hid fun W L1 v1 a b => by
    have := trGet_any p HPO.out off HOF.out a b HK.out (by have := HM.out; show m + 73 < 100000000; omega)
    unfold GetPost at this
    rw [he2, hp2, hs2] at this
    exact this
  rw [hp2] at HP2
  rw [hp2, hs2] at HBL
  have HSQ := Lib.hid (size_pc HP2.out)
  have HLQ : Hid ((pcells p2).toArray.size = 41) := Lib.hid (by rw [List.size_toArray, pcells_length HP2.out])
  clear hp h hk hm hbl hlo hoff hPost he2 hp2 hs2
  unfold shI at HGET ⊢
  go_enter Tryz.func38, Tryz.ntmps38
  go_upto_region 1 with fail
  refine (fun (k : ∀ W, TbRS L w D w.heap.size s p W → Code.wp _ _ _ _ W) => k _ (HX.out _ rfl)) ?_
  intro W hW
  obtain ⟨G, hG⟩ : ∃ G, w.heap.size = G := ⟨_, rfl⟩
  rw [hG] at hW ⊢
  clear HX
  have HX2 := Lib.hid hW
  clear hW
  obtain ⟨⟨L1, v1, h1, h2, h3, h4⟩, h5, h6, h7⟩ := HX2.out
  have HGC := Lib.hid (HGET.out W L1 v1 h1 (HLO.out.of h2))
  have HPS : Hid (∀ Y, ShPost 5 L1 W D s2 Y → TbRS L w D G s2 p Y) := Lib.hid fun Y hy => HX2.out.post h1 h2 h3 h4 hy
  clear h1 h2 h3 h4 h5 h6 h7
  go_wp2_with (first | (refine wpL_val rfl (ex_ldP HPO.out HX2.out.box rfl rfl) ?_) | fail)
  refine HGC.out.mono ?_
  rintro e X2 ⟨rfl, hx2, hl2⟩
  have HX3 := Lib.hid (HPS.out X2 hx2); have HL2 := Lib.hid hl2
  clear hx2 hl2 HGC HPS HX2
  go_upto_region 2 with (first | (refine wpList_store_row rfl 28 (.tmp 8) (.tmp 15) rfl X2.heap.size (pcells p2).toArray rfl rfl 28 _ (heap_alloc_new X2 _) HSQ.out (by rw [HLQ.out]; rfl) (one_pc p2) ?_) | fail)
  refine (fun (k : ∀ W, TbRS L w D G s2 p W → Blk W X2.heap.size (pcells p2) 28 → Code.wp _ _ _ _ W) => k _ (HX3.out.below (blk_row1 X2 _ (pcells p2) 28).2) (blk_row1 X2 _ (pcells p2) 28).1) ?_
  intro X5 hX5 hb5
  have HX5 := Lib.hid hX5; have HB5 := Lib.hid hb5
  obtain ⟨G5, hG5⟩ : ∃ g, X2.heap.size = g := ⟨_, rfl⟩
  rw [hG5] at HB5 ⊢
  have HRB := Lib.hid hX5.res
  clear hX5 hb5 hG5 HX3
  by_cases h0 : e2 = 0
  · subst h0
    obtain ⟨a1, a2, a3⟩ := HE.out
    rw [if_neg (by simp)] at a1 a2 a3
    obtain ⟨⟨L1, v1, h1, h2, h3, h4⟩, h5, h6, h7⟩ := HX5.out
    have HRD := Lib.hid (tbRead_any p2 HP2.out h1 HL2.out HBL.out)
    have HPS : Hid (∀ Y, ShPost 5 L1 X5 D (tbS s2 p2) Y → TbRS L w D G (tbS s2 p2) p Y) := Lib.hid fun Y hy => HX5.out.post h1 h2 h3 h4 hy
    have HTO := Lib.hid (tbN_ok s2 p2)
    have HPE : Hid (∀ w', ShPost 5 L w D (tbS s2 p2) w' → Post (.returned (.tuple #[.agg (bcells (tbN s2 p2)).toArray, .int .i64 (tbE s2 p2 : Int)])) w') := Lib.hid (by have := HP.out; rw [a1, a2, a3] at this; exact fun w' h => this w' h (HL2.out.rnS (p := p2) HM.out))
    obtain ⟨ns, hns⟩ : ∃ x, tbN s2 p2 = x := ⟨_, rfl⟩
    obtain ⟨er, her⟩ : ∃ x, tbE s2 p2 = x := ⟨_, rfl⟩
    obtain ⟨s3, hs3⟩ : ∃ x, tbS s2 p2 = x := ⟨_, rfl⟩
    rw [hns] at HTO
    rw [hns, her, hs3] at HPE
    rw [hs3] at HPS
    have HRD2 : Hid (Calls Tryz.prog 46 #[shI D, .agg (pcells p2).toArray] X5 fun e Y => e = .returned (.tuple #[.agg (bcells ns).toArray, .int .i64 (er : Int)]) ∧ ShPost 5 L1 X5 D s3 Y) := Lib.hid (by have := HRD.out; unfold TbPost at this; rw [hns, her, hs3] at this; exact this)
    have HST := Lib.hid (size_bcB HTO.out)
    have HSA : Hid ((bcells ns).toArray.size = 176) := Lib.hid HTO.out.size
    clear a1 a2 a3 h1 h2 h3 h4 h5 h6 h7 hns her hs3 HRD HE HP
    unfold shI at HRD2
    go_wp2_with (first | (refine wpL_val rfl (ex_ldP HP2.out HB5.out rfl rfl) ?_) | fail)
    refine HRD2.out.mono ?_
    rintro e X6 ⟨rfl, hx6⟩
    have HX6 := Lib.hid (HPS.out X6 hx6)
    have HRB6 := Lib.hid HX6.out.res
    have HBE := Lib.hid (HX6.out.ends ns)
    have HEND := Lib.hid (HPE.out _ HBE.out.1)
    have HZN : Hid ((bcells zeros4).toArray.size = (bcells ns).toArray.size) := Lib.hid (by rw [HSA.out, zeros4_ok.size])
    clear hx6 HPS HRD2 HX5 HRB
    go_wp2_with (first | (refine wpList_store_row rfl 104 (.tmp 6) (.tmp 24) rfl (G + 1) (bcells ns).toArray rfl rfl 104 _ HRB6.out HST.out HZN.out (bcells_one _) ?_) | fail)
    refine bodyPost_ret (results_ctI Tryz.results38 _ _ (G + 1) 104 _ rfl HBE.out.2 Tryz.underlying104 (size_bcBl HTO.out)) rfl ?_
    exact HEND.out
  · obtain ⟨a1, a2, a3⟩ := HE.out
    rw [if_pos h0] at a1 a2 a3
    have HBE := Lib.hid (HX5.out.ends zeros4)
    have HEND := Lib.hid (HP.out _ (by rw [a3]; exact HBE.out.1) (by rw [a3]; exact HL2.out.mono (by omega) HM.out))
    rw [a1, a2] at HEND
    have h0' : ¬ (e2 : Int) = 0 := by omega
    clear a1 a2 a3 h0
    go_wp2_with (first | (refine wpL_val rfl (ex_bldB0 rfl) ?_) | (refine wpList_store_row rfl 104 (.tmp 6) (.tmp 19) rfl (G + 1) (bcells zeros4).toArray rfl rfl 104 _ HRB.out HSH.out rfl (bcells_one _) ?_) | fail)
    refine bodyPost_ret (results_ctI Tryz.results38 _ _ (G + 1) 104 _ rfl HBE.out.2 Tryz.underlying104 (size_bcBl zeros4_ok)) rfl ?_
    exact HEND.out
theorem tbLeafOf_any (k : Nat) (hk : k < 65536) (w : World) : Calls Tryz.prog 44 #[.int .u16 (k : Int)] w fun e w' => e = .returned (.int .u32 ((k / 4 : Nat) : Int)) ∧ w' = w := by
  generalize hPost : (fun (e : Ending) (w' : World) => e = .returned (.int .u32 ((k / 4 : Nat) : Int)) ∧ w' = w) = Post
  have HPO : Hid (Post (.returned (.int .u32 ((k / 4 : Nat) : Int))) w) := Lib.hid (by rw [← hPost]; exact ⟨rfl, rfl⟩)
  clear hPost
  have h1 : IntKind.u16.wrap ((k : Int) / 4) = ((k / 4 : Nat) : Int) := by simp only [IntKind.wrap_u16]; omega
  have h2 : IntKind.u32.wrap ((k / 4 : Nat) : Int) = ((k / 4 : Nat) : Int) := by simp only [IntKind.wrap_u32]; omega
  go_enter Tryz.func44, Tryz.ntmps44
  go_wp2_with fail
  first | exact HPO.out | (simpa [h1, h2] using HPO.out) | (go_ret; exact HPO.out)
def tbTag (off : Nat) : Pt := { zeroP with kind := 4, off := off }
theorem tbTag_ok {off : Nat} (h3 : off < 4294967296) : (tbTag off).OK :=
  ⟨by simp [tbTag], by simp [tbTag, zeroP], by simp [tbTag, zeroP], h3, by simp [tbTag, zeroP], by simp [tbTag, zeroP], by simp [tbTag, zeroP], fun x hx => by simp [tbTag, zeroP] at hx; subst hx; omega⟩
def taP (s : Sh) (ns : List Ino) (off : Nat) : Pt := if ns = zeros4 then zeroP else if allMay ns = false then zeroP else nwP s (tbTag off) (blkB ns)
def taE (s : Sh) (ns : List Ino) : Nat := if ns = zeros4 then 0 else if allMay ns = false then 5 else nwE s
def taS (s : Sh) (ns : List Ino) (off : Nat) : Sh := if ns = zeros4 then s else if allMay ns = false then s else nwS s (tbTag off) (blkB ns)
structure TaS (L : Nat → Nat) (w : World) (D : Nat) (ns : List Ino) (G : Nat) (s : Sh) (X : World) : Prop where
  sh : ∃ L1 v1, ShAt X L1 D s v1 ∧ Mv 5 L w L1 X ∧ L1 G = 0 ∧ L1 (G + 1) = 0
  nd : Blk X G (bcells ns) 104
  res : Blk X (G + 1) (pcells zeroP) 28
  lo : w.heap.size ≤ G
theorem TaS.below {L : Nat → Nat} {w : World} {D : Nat} {ns : List Ino} {G : Nat} {s : Sh} {X Y : World} (h : TaS L w D ns G s X) (hb : Below X.heap.size X Y) : TaS L w D ns G s Y := by
  obtain ⟨⟨L1, v1, h1, h2, h3⟩, k1, k2, k4⟩ := h
  exact ⟨⟨L1, v1, h1.below hb, h2.trans (Mv.of_below hb h1.lt), h3⟩, k1.below hb k1.lt, k2.below hb k2.lt, k4⟩
theorem TaS.moved {L L1 : Nat → Nat} {w : World} {D : Nat} {ns : List Ino} {G : Nat} {s s' : Sh} {X Y : World} (h : TaS L w D ns G s X) (hm : Mv 5 L w L1 X) (hl : L1 G = 0 ∧ L1 (G + 1) = 0) (hp : ShPost 5 L1 X D s' Y) : TaS L w D ns G s' Y := by
  obtain ⟨L2, v2, k1, k2⟩ := hp
  exact ⟨⟨L2, v2, k1, hm.trans k2, (k2.old _ h.nd.lt).trans hl.1, (k2.old _ h.res.lt).trans hl.2⟩, k2.blk h.nd hl.1, k2.blk h.res hl.2, h.lo⟩
theorem TaS.ends {L : Nat → Nat} {w : World} {D : Nat} {ns : List Ino} {G : Nat} {s : Sh} {X : World} (h : TaS L w D ns G s X) (q : Pt) : ShPost 5 L w D s (X.setRow (G + 1) (pcells q).toArray) ∧ Blk (X.setRow (G + 1) (pcells q).toArray) (G + 1) (pcells q) 28 := by
  obtain ⟨⟨L1, v1, h1, h2, h3⟩, k1, k2, k4⟩ := h
  have hc := chgR X (G + 1) (pcells q).toArray
  have hz : (X.setRow (G + 1) (pcells q).toArray).heap.size = X.heap.size := by simp
  refine ⟨⟨L1, v1, h1.out hc (fun g e _ => .inl (by rw [e]; exact h3.2)) (fun _ _ => .inl rfl) (fun g hg => by rw [hz]; exact h1.lt g hg), ?_⟩, k2.row _⟩
  exact ⟨h2.chg.trans hc (fun g e => by right; have : g = G + 1 := e; omega), h2.old, h2.new⟩
def TaPost (L : Nat → Nat) (w : World) (D : Nat) (s : Sh) (ns : List Ino) (off m : Nat) (e : Ending) (w' : World) : Prop :=
  e = .returned (.tuple #[.agg (pcells (taP s ns off)).toArray, .int .i64 (taE s ns : Int)]) ∧ ShPost 5 L w D (taS s ns off) w' ∧ Lim m (taS s ns off)
theorem built_tbt (off : Nat) : Tryz.prog.built 28 [(0, .int .u8 4), (2, .int .u16 0), (3, .int .u32 (off : Int))] = some (pcells (tbTag off)).toArray := by kernel_rfl
theorem ex_bldTb {ρ : Operand → Value} {o : Oper} {x y z : Operand} {w : World} {off : Nat} (ho : o.op = .build 28 #[(0, x), (2, y), (3, z)]) (hx : ρ x = .int .u8 4) (hy : ρ y = .int .u16 0) (hz : ρ z = .int .u32 (off : Int)) :
    (execOp ρ o).run Tryz.prog w = .ok (.value (.agg (pcells (tbTag off)).toArray)) w := by
  have hr : (Instr.build 28 #[(0, .int .u8 4), (2, .int .u16 0), (3, .int .u32 (off : Int))]).run Tryz.prog w = .ok (.agg (pcells (tbTag off)).toArray) w := run_build w 28 _ _ (built_tbt off)
  unfold execOp
  simp only [ho]
  rw [show (Array.map (fun x : Nat × Operand => (x.1, ρ x.2)) #[(0, x), (2, y), (3, z)]) = #[(0, .int .u8 4), (2, .int .u16 0), (3, .int .u32 (off : Int))] by simp [hx, hy, hz]]
  simp only [Sem.run_bind, hr, Result.andThen_ok, Sem.run_pure]
theorem blkB_512 {ns : List Ino} (h : BOK ns) : (blkB ns).length = 512 := by
  have := len_blkB h (Nat.le_refl 4)
  rwa [List.take_of_length_le (by rw [h.len]; omega)] at this
set_option maxRecDepth 100000 in
set_option maxHeartbeats 8000000 in
theorem tbAnew_any {w : World} {L : Nat → Nat} {D : Nat} {s : Sh} {v : Sv} {m : Nat} (ns : List Ino) (hns : BOK ns) (off : Nat) (hoff : off < 4294967296) (h : ShAt w L D s v) (hk : Lim m s) (hm : m + 1 < 100000000) :
    Calls Tryz.prog 40 #[shI D, .int .u32 (off : Int), .agg (bcells ns).toArray] w (TaPost L w D s ns off (m + 1)) := by
  have HA := Lib.hid hns
  have HX : Hid (∀ z, z = (pcells zeroP).toArray → TaS L w D ns w.heap.size s ((w.alloc (.cells (bcells ns).toArray 104)).alloc (.cells z 28))) := Lib.hid (fun z hz => by
    subst hz
    have hw1 : Below w.heap.size w ((w.alloc (.cells (bcells ns).toArray 104)).alloc (.cells (pcells zeroP).toArray 28)) := ((Below.refl _ _).alloc (Nat.le_refl _) _).alloc (by simp) _
    exact ⟨⟨L, v, h.below hw1, Mv.of_below hw1 h.lt, h.not (Nat.le_refl _), h.not (by omega)⟩, (Blk.new _ _ _).alloc _, Blk.new' _ _ _ _ _ (by simp) rfl, Nat.le_refl _⟩)
  have HK := Lib.hid hk; have HM := Lib.hid hm
  have HTG : Hid (tbTag off).OK := Lib.hid (tbTag_ok hoff)
  have HSZ := Lib.hid (size_pc zeroP_ok)
  obtain ⟨rp, hrp⟩ : ∃ r, taP s ns off = r := ⟨_, rfl⟩
  obtain ⟨re, hre⟩ : ∃ r, taE s ns = r := ⟨_, rfl⟩
  obtain ⟨rs, hrs⟩ : ∃ r, taS s ns off = r := ⟨_, rfl⟩
  have HRP := Lib.hid hrp; have HRE := Lib.hid hre; have HRS := Lib.hid hrs
  generalize hPost : TaPost L w D s ns off (m + 1) = Post
  have HP : Hid (∀ w', ShPost 5 L w D rs w' → Lim (m + 1) rs → Post (.returned (.tuple #[.agg (pcells rp).toArray, .int .i64 (re : Int)])) w') := Lib.hid fun w' h2 h3 => by rw [← hPost]; unfold TaPost; rw [hrp, hre, hrs]; exact ⟨rfl, h2, h3⟩
  clear hns h hk hm hPost hrp hre hrs hoff
  unfold shI
  go_enter Tryz.func40, Tryz.ntmps40
  go_upto_region 1 with fail
  refine (fun (k : ∀ W, TaS L w D ns w.heap.size s W → Code.wp _ _ _ _ W) => k _ (HX.out _ rfl)) ?_
  intro W hW
  obtain ⟨G, hG⟩ : ∃ g, w.heap.size = g := ⟨_, rfl⟩
  rw [hG] at hW ⊢
  have HX1 := Lib.hid hW
  clear hW HX hG
  have HRB := Lib.hid HX1.out.res
  by_cases hh : ns = zeros4
  · have HBE := Lib.hid (HX1.out.ends zeroP)
    have e1 : rp = zeroP := by rw [← HRP.out]; unfold taP; rw [if_pos hh]
    have e2 : re = 0 := by rw [← HRE.out]; unfold taE; rw [if_pos hh]
    have e3 : rs = s := by rw [← HRS.out]; unfold taS; rw [if_pos hh]
    rw [e1, e2, e3] at HP
    have HE := Lib.hid (HP.out _ HBE.out.1 (HK.out.mono (by omega) HM.out))
    have HD : Hid (decide (ns = zeros4) = true) := Lib.hid (decide_eq_true hh)
    clear e1 e2 e3 HP hh HRP HRE HRS
    go_wp2_with (first | (refine wpL_val rfl (ex_ldBn HA.out HX1.out.nd rfl rfl) ?_) | (refine wpL_val rfl (ex_bldB0 rfl) ?_) | (refine wpL_val rfl ((ex_eqBn HA.out zeros4_ok rfl rfl rfl).trans (by rw [HD.out])) ?_) | (refine wpL_val rfl (ex_bld0 rfl) ?_) | (refine wpList_store_row rfl 28 (.tmp 6) (.tmp 13) rfl (G + 1) (pcells zeroP).toArray rfl rfl 28 _ HRB.out HSZ.out rfl (one_pc zeroP) ?_) | fail)
    refine bodyPost_ret (results_cs Tryz.results40 _ _ (G + 1) 28 _ rfl HBE.out.2 (size_pcl zeroP_ok)) rfl ?_
    exact HE.out
  · have HD : Hid (decide (ns = zeros4) = false) := Lib.hid (decide_eq_false hh)
    have HNH : Hid (¬ ns = zeros4) := Lib.hid hh
    clear hh
    obtain ⟨⟨L1, v1, h1, h2, h3⟩, -⟩ := HX1.out
    have HPU := Lib.hid (iput_any ns HA.out W h1.tab.1)
    have HLT := Lib.hid h1.lt
    have HMV := Lib.hid h2; have HL3 := Lib.hid h3; have HSH := Lib.hid h1
    clear h1 h2 h3
    go_wp2_with (first | (refine wpL_val rfl (ex_ldBn HA.out HX1.out.nd rfl rfl) ?_) | (refine wpL_val rfl (ex_bldB0 rfl) ?_) | (refine wpL_val rfl ((ex_eqBn HA.out zeros4_ok rfl rfl rfl).trans (by rw [HD.out])) ?_) | fail)
    refine HPU.out.mono ?_
    rintro e X3 ⟨hpp, hb3⟩
    have HX3 := Lib.hid (HX1.out.below hb3)
    have HSH3 := Lib.hid (HSH.out.below hb3)
    have HMV3 := Lib.hid (HMV.out.trans (Mv.of_below hb3 HLT.out))
    have HRB3 := Lib.hid HX3.out.res
    clear hb3 HPU HSH HMV HRB
    rcases hpp with ⟨hok, vv, rfl, hown⟩ | ⟨hno, rfl⟩
    · obtain ⟨sp, cap, rfl, q1, q2, q3, q4, q5⟩ := OwnB.form hown
      have hlen : (blkB ns).length = 512 := blkB_512 HA.out
      have hnw := shNew_any (tbTag off) HTG.out (blkB ns) sp cap HSH3.out (by have := HK.out.md; have := HM.out; omega) HK.out.bl HK.out.rm (by omega) q3 q4 (fun a ha => ⟨(q5 a ha).2, .inl (by
        have h1 := (q5 a ha).1
        have h2 := HLT.out a.block
        omega)⟩)
      obtain ⟨bl, hbl⟩ : ∃ n, (blkB ns).length = n := ⟨_, rfl⟩
      rw [hbl] at hnw ⊢
      have e1 : nwP s (tbTag off) (blkB ns) = rp := by rw [← HRP.out]; unfold taP; rw [if_neg HNH.out, if_neg (by rw [hok]; decide)]
      have e2 : nwE s = re := by rw [← HRE.out]; unfold taE; rw [if_neg HNH.out, if_neg (by rw [hok]; decide)]
      have e3 : nwS s (tbTag off) (blkB ns) = rs := by rw [← HRS.out]; unfold taS; rw [if_neg HNH.out, if_neg (by rw [hok]; decide)]
      unfold NwPost at hnw
      rw [e1, e2, e3] at hnw
      have HNW := Lib.hid hnw
      have HPK : Hid rp.OK := Lib.hid (by rw [← e1]; exact nwP_ok HTG.out _)
      have HLM : Hid (Lim (m + 1) rs) := Lib.hid (by rw [← e3]; exact HK.out.nwS HM.out)
      clear hok hown q1 q2 q3 q4 q5 hlen hnw hbl e1 e2 e3 HX1 HRP HRE HRS
      go_wp2_with (first | (refine wpL_val rfl (ex_bldTb (off := off) rfl rfl rfl rfl) ?_) | fail)
      refine HNW.out.mono ?_
      rintro e X4 ⟨rfl, hp4⟩
      have HX4 := Lib.hid (HX3.out.moved HMV3.out HL3.out hp4)
      clear hp4 HNW HX3 HSH3 HMV3 HRB3
      have HSP := Lib.hid (size_pc HPK.out)
      have HLP : Hid ((pcells rp).toArray.size = 41) := Lib.hid (by rw [List.size_toArray, pcells_length HPK.out])
      have HZN : Hid ((pcells zeroP).toArray.size = (pcells rp).toArray.size) := Lib.hid (by rw [HLP.out, List.size_toArray, pcells_length zeroP_ok])
      have HRB4 := Lib.hid HX4.out.res
      have HBE := Lib.hid (HX4.out.ends rp)
      have HE := Lib.hid (HP.out _ HBE.out.1 HLM.out)
      clear HP
      go_wp2_with (first | (refine wpList_store_row rfl 28 (.tmp 6) (.tmp 28) rfl (G + 1) (pcells rp).toArray rfl rfl 28 _ HRB4.out HSP.out HZN.out (one_pc rp) ?_) | fail)
      refine bodyPost_ret (results_cs Tryz.results40 _ _ (G + 1) 28 _ rfl HBE.out.2 (size_pcl HPK.out)) rfl ?_
      exact HE.out
    · have HBE := Lib.hid (HX3.out.ends zeroP)
      have e1 : rp = zeroP := by rw [← HRP.out]; unfold taP; rw [if_neg HNH.out, if_pos hno]
      have e2 : re = 5 := by rw [← HRE.out]; unfold taE; rw [if_neg HNH.out, if_pos hno]
      have e3 : rs = s := by rw [← HRS.out]; unfold taS; rw [if_neg HNH.out, if_pos hno]
      rw [e1, e2, e3] at HP
      have HE := Lib.hid (HP.out _ HBE.out.1 (HK.out.mono (by omega) HM.out))
      clear e1 e2 e3 HP hno HRP HRE HRS
      go_wp2_with (first | (refine wpL_val rfl (ex_bld0 rfl) ?_) | (refine wpList_store_row rfl 28 (.tmp 6) (.tmp 21) rfl (G + 1) (pcells zeroP).toArray rfl rfl 28 _ HRB3.out HSZ.out rfl (one_pc zeroP) ?_) | fail)
      refine bodyPost_ret (results_cs Tryz.results40 _ _ (G + 1) 28 _ rfl HBE.out.2 (size_pcl zeroP_ok)) rfl ?_
      exact HE.out
theorem one_icells (p : Ino) : ∀ u ∈ icells p, u.oneCell' = true := fun u hu => by
  have := one_ic p
  rw [Array.all_eq_true'] at this
  exact this u (by simpa using hu)
abbrev Itm := Nat × Ino
def tcI (x : Itm) : List Value := .int .u16 (x.1 : Int) :: icells x.2
def Itm.OK (x : Itm) : Prop := x.1 < 65536 ∧ x.2.OK
theorem tcI_length {x : Itm} (h : x.2.OK) : (tcI x).length = 45 := by simp [tcI, icells_length h]
def trI (l : List Itm) : List Value := l.flatMap tcI
theorem trI_snoc (l : List Itm) (x : Itm) : trI (l ++ [x]) = trI l ++ tcI x := by simp [trI]
abbrev OwnT (w : World) (B : Nat) (v : Value) (l : List Itm) : Prop := w.ownsRow B 76 45 v l.length (trI l)
theorem infoTm : (Tryz.prog.info? 76).map (fun i => (i.zero.map (·.cells.size), i.size, i.bytes)) = some (some 45, 45, 72) := by kernel_rfl
theorem info_partsTm : ∃ i z, Tryz.prog.info? 76 = some i ∧ i.zero = some z ∧ z.cells.size = 45 ∧ i.size = 45 ∧ i.bytes = 72 := by
  obtain ⟨i, h1, h2⟩ := Option.map_eq_some_iff.1 infoTm
  simp only [Prod.mk.injEq] at h2
  obtain ⟨z, hz, hz2⟩ := Option.map_eq_some_iff.1 h2.1
  exact ⟨i, z, h1, hz, hz2, h2.2.1, h2.2.2⟩
theorem sizeTm : (Tryz.prog.info? 76).map (·.size) = some 45 := by kernel_rfl
theorem one_tcI (x : Itm) : ∀ u ∈ tcI x, u.oneCell' = true := fun u hu => by
  simp only [tcI, List.mem_cons] at hu
  rcases hu with rfl | hu
  · rfl
  · exact one_icells x.2 u hu
theorem ownT_app {w : World} {B : Nat} {v : Value} {l : List Itm} (h : OwnT w B v l) (hB : B ≤ w.heap.size) (hl : l.length < 100000000) {x : Itm} (hx : x.2.OK) {g : Nat} {t : TypeId} (hg : Blk w g (tcI x) t) (ty : TypeId) :
    ∃ v' w', (Builtin.append_ #[55, 55] ty #[v, .slice (some ⟨g, 0, none⟩) 1 1]).run Tryz.prog w = .ok v' w' ∧ OwnT w' B v' (l ++ [x]) ∧ w.grownBy w' v.ownBlock ∧ (v'.ownBlock = v.ownBlock ∨ v'.ownBlock = some w.heap.size) := by
  obtain ⟨i0, z, hi, hz0, hz1, hz2, hz3⟩ := info_partsTm
  obtain ⟨v', w', hr, h2, h3, _, h5⟩ := run_append_own_at (P := Tryz.prog) w B 55 ty 76 i0 z 45 72 Tryz.underlying55 hi hz0 hz2 hz3 hz1 (by decide) v l.length (trI l) h ⟨g, 0, none⟩ 1 1 (tcI x) (by rw [tcI_length hx]) (fun j y hj => by
    rw [Addr.add_mid, Nat.zero_add]
    exact hg.cell hj) (one_tcI x) (by unfold maxLen; omega) (by omega) hB
  refine ⟨v', w', hr, ?_, h3, h5⟩
  unfold OwnT
  rw [trI_snoc, List.length_append]
  exact h2
section
variable {ρ : Operand → Value} {o : Oper} {x y : Operand} {w : World}
theorem ex_oneTm {l : Itm} (hl : l.2.OK) (ho : o.op = .buildSlice 55 1 #[(0, x)]) (hx : ρ x = .agg (tcI l).toArray) :
    (execOp ρ o).run Tryz.prog w = .ok (.value (.slice (some ⟨w.heap.size, 0, none⟩) 1 1)) (w.alloc (.cells (tcI l).toArray 76)) := by
  obtain ⟨i, z, hi, hz, hzs, his, _⟩ := info_partsTm
  have hr := run_buildSlice (P := Tryz.prog) w 55 76 1 #[(0, .agg (tcI l).toArray)] (tcI l).toArray i z Tryz.underlying55 hi hz (by rw [his]; omega) (by rw [his]; omega)
    (fill_whole (size := 45) (by simp [his]) (by simp [Value.cells, tcI_length hl]) (by simp [his]))
  unfold execOp
  simp only [ho]
  rw [show (Array.map (fun x : Nat × Operand => (x.1, ρ x.2)) #[(0, x)]) = #[(0, .agg (tcI l).toArray)] by simp [hx]]
  simp only [Sem.run_bind, hr, Result.andThen_ok]
  rfl
theorem ex_appTm {v u v' : Value} {w w' : World} (ho : o.op = .call { callee := .builtin .append, args := #[x, y], argTypes := #[55, 55] }) (hx : ρ x = v) (hy : ρ y = u)
    (hr : (Builtin.append_ #[55, 55] o.type #[v, u]).run Tryz.prog w = .ok v' w') : (execOp ρ o).run Tryz.prog w = .ok (.value v') w' := by
  unfold execOp
  simp only [ho, resolve, invoke, builtin, Sem.run_bind, Sem.run_pure, Result.andThen_ok, List.map_toArray, List.map_cons, List.map_nil, hx, hy, hr]
end
def SrcT (w : World) (sp : Option Addr) (l : List Itm) : Prop :=
  0 < l.length → ∃ g o, sp = some ⟨g, o, none⟩ ∧ g < w.heap.size ∧ ∀ i x, l[i]? = some x → w.rangeAt g (o + i * 45) (tcI x)
theorem SrcT.chg {F : Nat → Prop} {w w' : World} {sp : Option Addr} {l : List Itm} (h : SrcT w sp l) (hc : Chg F w w') (hn : ∀ a, sp = some a → ¬ F a.block) : SrcT w' sp l := fun h0 => by
  obtain ⟨g, o, e, hg, hr⟩ := h h0
  refine ⟨g, o, e, Nat.lt_of_lt_of_le hg hc.size, fun i x hx j v hv => ?_⟩
  rw [World.cell?_of_block (w := w) (a := ⟨g, o + i * 45 + j, none⟩) (hc.block g hg (hn _ e))]
  exact hr i x hx j v hv
theorem SrcT.grown {w w' : World} {sp : Option Addr} {l : List Itm} (h : SrcT w sp l) (hb : Below w.heap.size w w') : SrcT w' sp l := h.chg (F := fun _ => False) (Chg.of_below hb) (fun _ _ h => h)
theorem SrcT.drew {w : World} {sp : Option Addr} {l : List Itm} (h : SrcT w sp l) : SrcT w.drew sp l := h.grown (Below.refl _ _).drew
theorem elemTm : Tryz.prog.underlying 55 = some (.slice (Tryz.prog.elem 55)) := by kernel_rfl
theorem elemTm' : Tryz.prog.elem 55 = 76 := by kernel_rfl
theorem sizeOfTm (W : World) : (sizeOf 76).run Tryz.prog W = .ok 45 W := by
  obtain ⟨i, z, h1, h2, h3, h4, h5⟩ := info_partsTm
  simp [sizeOf, typeInfo, h1, h4]
section
variable {ρ : Operand → Value} {o : Oper} {x y : Operand} {w : World}
theorem ex_iaTm {g o' n cap k : Nat} (ho : o.op = .indexAddr 55 x y) (hx : ρ x = .slice (some ⟨g, o', none⟩) n cap) (hy : ρ y = .int .i64 (k : Int)) (hk : k < n ∧ n ≤ cap) :
    (execOp ρ o).run Tryz.prog w = .ok (.value (.pointer (some ⟨g, o' + k * 45, none⟩))) w := by
  have h1 : ¬ n ≤ k := by omega
  unfold execOp
  simp only [ho]
  go_simp
end
theorem rng_numT {w : World} {g o : Nat} {x : Itm} (h : w.rangeAt g o (tcI x)) : w.cell? ⟨g, o, none⟩ = some (.int .u16 (x.1 : Int)) := by
  have := h 0 (.int .u16 (x.1 : Int)) rfl
  rw [Nat.add_zero] at this
  exact this
end Go.Proofs.YtjgjohdeeeoeoaaGreatDoor
