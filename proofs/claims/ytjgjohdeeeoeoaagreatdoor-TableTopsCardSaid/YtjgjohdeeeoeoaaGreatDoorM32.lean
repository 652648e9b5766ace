/- A number's inode. -/
import Derived.Test.YtjgjohdeeeoeoaaGreatDoorM31
import Derived.Laws.OwnMore
namespace Go.Proofs.YtjgjohdeeeoeoaaGreatDoor
open Go.RowKit
attribute [local go_sem] Oper.semAt_some
def gtE (s : Sh) (p : Pt) (k : Nat) : Nat := if numOk k = false then 1 else blE s p (k / 4)
def gtN (s : Sh) (p : Pt) (k : Nat) : Ino := if numOk k = false then zeroI else if blE s p (k / 4) ≠ 0 then zeroI else (blN s p (k / 4)).getD (k % 4) zeroI
def gtS (s : Sh) (p : Pt) (k : Nat) : Sh := if numOk k = false then s else blS s p (k / 4)
def GtPost (L : Nat → Nat) (w : World) (D : Nat) (s : Sh) (p : Pt) (k m : Nat) (e : Ending) (w' : World) : Prop := e = .returned (.tuple #[.agg (icells (gtN s p k)).toArray, .int .i64 (gtE s p k : Int)]) ∧ ShPost 5 L w D (gtS s p k) w' ∧ Lim m (gtS s p k)
structure TgS (L : Nat → Nat) (w : World) (D G : Nat) (s1 : Sh) (p : Pt) (X : World) : Prop where
  sh : ∃ L1 v1, ShAt X L1 D s1 v1 ∧ Mv 5 L w L1 X ∧ L1 G = 0 ∧ L1 (G + 1) = 0
  box : Blk X G (pcells p) 28
  res : Blk X (G + 1) (icells zeroI) 68
  lo : w.heap.size ≤ G
theorem TgS.below {L : Nat → Nat} {w : World} {D G : Nat} {s1 : Sh} {p : Pt} {X Y : World} (h : TgS L w D G s1 p X) (hb : Below X.heap.size X Y) : TgS L w D G s1 p Y := by
  obtain ⟨⟨L1, v1, h1, h2, h3, h4⟩, hg, hr, hlo⟩ := h
  exact ⟨⟨L1, v1, h1.below hb, h2.trans (Mv.of_below hb h1.lt), h3, h4⟩, hg.below hb hg.lt, hr.below hb hr.lt, hlo⟩
theorem TgS.ends {L : Nat → Nat} {w : World} {D G : Nat} {s1 : Sh} {p : Pt} {X : World} (h : TgS L w D G s1 p X) (q : Ino) : ShPost 5 L w D s1 (X.setRow (G + 1) (icells q).toArray) ∧ Blk (X.setRow (G + 1) (icells q).toArray) (G + 1) (icells q) 68 := by
  obtain ⟨⟨L1, v1, h1, h2, h3, h4⟩, hg, hr, hlo⟩ := h
  have hc := chgR X (G + 1) (icells q).toArray
  have hz : (X.setRow (G + 1) (icells q).toArray).heap.size = X.heap.size := by simp
  refine ⟨⟨L1, v1, h1.out hc (fun g e _ => .inl (by rw [e]; exact h4)) (fun _ _ => .inl rfl) (fun g hg => by rw [hz]; exact h1.lt g hg), ?_⟩, hr.row _⟩
  exact ⟨h2.chg.trans hc (fun g e => by right; have : g = G + 1 := e; omega), h2.old, h2.new⟩
theorem TgS.post {L : Nat → Nat} {w : World} {D G : Nat} {s s2 : Sh} {p : Pt} {X Y : World} (h : TgS L w D G s p X) {L1 : Nat → Nat} {v1 : Sv} (h1 : ShAt X L1 D s v1) (h2 : Mv 5 L w L1 X) (h3 : L1 G = 0) (h4 : L1 (G + 1) = 0) (hp : ShPost 5 L1 X D s2 Y) : TgS L w D G s2 p Y := by
  obtain ⟨L3, v3, k1, k2⟩ := hp
  exact ⟨⟨L3, v3, k1, h2.trans k2, (k2.old G h.box.lt).trans h3, (k2.old (G + 1) h.res.lt).trans h4⟩, k2.blk h.box h3, k2.blk h.res h4, h.lo⟩
def GtR (L : Nat → Nat) (w : World) (D G : Nat) (s1 : Sh) (p : Pt) (ns : List Ino) (m g : Nat) (X : World) : Prop := TgS L w D G s1 p X ∧ Blk X g (bcells ns) 104 ∧ Lim m s1
theorem ex_alB {ρ : Operand → Value} {o : Oper} {w : World} (ho : o.op = .alloc 104) : (execOp ρ o).run Tryz.prog w = .ok (.value (.pointer (some ⟨w.heap.size, 0, none⟩))) (w.alloc (.cells (bcells zeros4).toArray 104)) := by
  unfold execOp
  simp only [ho]
  go_simp
  rfl
theorem results_csI {fn : Func} {p u : Tmp} (h : fn.results = #[.cell p 68, .tmp u]) (tmps : Array Value) (w : World) (g t : Nat) (cs : List Value)
    (hp : tmps.getD p undef = .pointer (some ⟨g, 0, none⟩)) (hg : Blk w g cs t) (hi : (Tryz.prog.info? 68).map (·.size) = some cs.length) :
    (results fn tmps).run Tryz.prog w = .ok (.tuple #[.agg cs.toArray, tmps.getD u undef]) w := by
  rw [results_cell_tmp h, hp]
  simp only [asAddr, Sem.run_pure, Result.andThen_ok, run_loadVar_row w g t 68 cs.toArray (0, 0) _ hg Tryz.underlying68 rfl (by simpa using hi)]
theorem blN_ok (s : Sh) (p : Pt) (off : Nat) : BOK (blN s p off) := by
  unfold blN
  split
  · exact zeros4_ok
  · exact tbN_ok _ _
set_option maxRecDepth 100000 in
set_option maxHeartbeats 16000000 in
theorem tbGet_any {w : World} {L : Nat → Nat} {D : Nat} {s : Sh} {v : Sv} {m : Nat} (p : Pt) (hp : p.OK) (k : Nat) (hk6 : k < 65536) (h : ShAt w L D s v) (hlo : Lo L) (hk : Lim m s) (hm : m + 74 < 100000000) (hbl : (rdB (getS s p (k / 4)) (getP s p (k / 4))).length ≤ 100000) :
    Calls Tryz.prog 20 #[shI D, .agg (pcells p).toArray, .int .u16 (k : Int)] w (GtPost L w D s p k (m + 74)) := by
  have HPO := Lib.hid hp; have HKB := Lib.hid hk6; have HLO := Lib.hid hlo; have HK := Lib.hid hk; have HM := Lib.hid hm; have HBL := Lib.hid hbl
  have HX : Hid (∀ z, z = (icells zeroI).toArray → TgS L w D w.heap.size s p ((w.alloc (.cells (pcells p).toArray 28)).alloc (.cells z 68))) := Lib.hid (fun z hz => by
    subst hz
    have hw1 : Below w.heap.size w ((w.alloc (.cells (pcells p).toArray 28)).alloc (.cells (icells zeroI).toArray 68)) := ((Below.refl _ _).alloc (Nat.le_refl _) _).alloc (by simp) _
    exact ⟨⟨L, v, h.below hw1, Mv.of_below hw1 h.lt, h.not (Nat.le_refl _), h.not (by omega)⟩, (Blk.new _ _ _).alloc _, Blk.new' _ _ _ _ _ (by simp) rfl, Nat.le_refl _⟩)
  generalize hPost : GtPost L w D s p k (m + 74) = Post
  have HP : Hid (∀ w', ShPost 5 L w D (gtS s p k) w' → Lim (m + 74) (gtS s p k) → Post (.returned (.tuple #[.agg (icells (gtN s p k)).toArray, .int .i64 (gtE s p k : Int)])) w') := Lib.hid fun w' h hl => by rw [← hPost]; exact ⟨rfl, h, hl⟩
  have HSZ := Lib.hid (size_icI zeroI_ok)
  clear hp h hk hm hbl hlo hPost hk6
  unfold shI
  go_enter Tryz.func20, Tryz.ntmps20
  go_upto_region 1 with fail
  refine (fun (k : ∀ W, TgS L w D w.heap.size s p W → Code.wp _ _ _ _ W) => k _ (HX.out _ rfl)) ?_
  intro W hW
  obtain ⟨G, hG⟩ : ∃ G, w.heap.size = G := ⟨_, rfl⟩
  rw [hG] at hW ⊢
  clear HX hG
  have HX1 := Lib.hid hW
  have HRB := Lib.hid hW.res
  clear hW
  go_wp2_with fail
  refine (tbNum_any k HKB.out W).mono ?_
  rintro e W2 ⟨rfl, rfl⟩
  cases hnk : numOk k
  · have HBE := Lib.hid (HX1.out.ends zeroI)
    have HE := Lib.hid (HP.out _ (by unfold gtS; rw [if_pos hnk]; exact HBE.out.1) (by unfold gtS; rw [if_pos hnk]; exact HK.out.mono (by omega) HM.out))
    have e1 : gtN s p k = zeroI := by unfold gtN; rw [if_pos hnk]
    have e2 : gtE s p k = 1 := by unfold gtE; rw [if_pos hnk]
    rw [e1, e2] at HE
    clear e1 e2 hnk HP
    go_wp2_with (first | (refine wpL_val rfl (ex_bldI0 rfl) ?_) | (refine wpList_store_row rfl 68 (.tmp 6) (.tmp 16) rfl (G + 1) (icells zeroI).toArray rfl rfl 68 _ HRB.out HSZ.out rfl (one_ic _) ?_) | fail)
    refine bodyPost_ret (results_csI Tryz.results20 _ _ (G + 1) 68 _ rfl HBE.out.2 (size_icIl zeroI_ok)) rfl ?_
    exact HE.out
  · have hnf : ¬ numOk k = false := by rw [hnk]; decide
    obtain ⟨kq, hkq⟩ : ∃ q, k / 4 = q := ⟨_, rfl⟩
    have HKQ := Lib.hid hkq
    obtain ⟨ns, hns⟩ : ∃ x, blN s p kq = x := ⟨_, rfl⟩
    obtain ⟨er, her⟩ : ∃ x, blE s p kq = x := ⟨_, rfl⟩
    obtain ⟨s2, hs2⟩ : ∃ x, blS s p kq = x := ⟨_, rfl⟩
    have HNS : Hid (BOK ns) := Lib.hid (by rw [← hns]; exact blN_ok _ _ _)
    have HST := Lib.hid (size_bcB HNS.out)
    have HSA := Lib.hid HNS.out.size
    have HGT : Hid (gtN s p k = (if er ≠ 0 then zeroI else ns.getD (k % 4) zeroI) ∧ gtE s p k = er ∧ gtS s p k = s2) := Lib.hid (by unfold gtN gtE gtS; rw [if_neg hnf, if_neg hnf, if_neg hnf, hkq, hns, her, hs2]; exact ⟨rfl, rfl, rfl⟩)
    rw [hkq] at HBL
    have hkq2 : kq < 4294967296 := by have := HKB.out; omega
    obtain ⟨⟨L1, v1, h1, h2, h3, h4⟩, h5, h6, h7⟩ := HX1.out
    have hbe : Below W2.heap.size W2 W2.drew := (Below.refl _ _).drew
    have hbf : Below W2.heap.size W2 (W2.drew.alloc (.cells (bcells zeros4).toArray 104)) := (Below.refl _ _).drew.alloc (Nat.le_refl _) _
    have HGA := tbBelow_any p HPO.out kq hkq2 (h1.below hbe) (HLO.out.of h2) HK.out HM.out HBL.out
    have HGB := tbBelow_any p HPO.out kq hkq2 (h1.below hbf) (HLO.out.of h2) HK.out HM.out HBL.out
    unfold BlPost at HGA HGB
    rw [hns, her, hs2] at HGA HGB
    have hT0 := HX1.out.below hbe
    have hT1 := HX1.out.below hbf
    have hm0 : Mv 5 L w L1 W2.drew := h2.trans (Mv.of_below hbe h1.lt)
    have hm1 : Mv 5 L w L1 (W2.drew.alloc (.cells (bcells zeros4).toArray 104)) := h2.trans (Mv.of_below hbf h1.lt)
    have HA : ∀ X, (ShPost 5 L1 W2.drew D s2 X ∧ Lim (m + 74) s2) → Blk X G (pcells p) 28 ∧ GtR L w D G s2 p ns (m + 74) X.heap.size ((X.alloc (.cells (bcells zeros4).toArray 104)).setRow X.heap.size (bcells ns).toArray) := fun X ⟨hx, hl⟩ => by
      have ht := hT0.post (h1.below hbe) hm0 h3 h4 hx
      have hbb := (blk_row1 X (bcells zeros4).toArray (bcells ns) 104).2
      exact ⟨ht.box, ht.below hbb, (blk_row1 X _ (bcells ns) 104).1, hl⟩
    have HBo : ∀ X, (ShPost 5 L1 (W2.drew.alloc (.cells (bcells zeros4).toArray 104)) D s2 X ∧ Lim (m + 74) s2) → (Blk X G (pcells p) 28 ∧ Blk X W2.heap.size (bcells zeros4) 104) ∧ GtR L w D G s2 p ns (m + 74) W2.heap.size (X.setRow W2.heap.size (bcells ns).toArray) := fun X ⟨hx, hl⟩ => by
      have ht := hT1.post (h1.below hbf) hm1 h3 h4 hx
      obtain ⟨L3, v3, k1, k2⟩ := hx
      have hlab : L1 W2.heap.size = 0 := h1.not (Nat.le_refl _)
      have hnb : Blk X W2.heap.size (bcells zeros4) 104 := k2.blk (Blk.new W2.drew _ _) hlab
      have hlab' : L3 W2.heap.size = 0 := (k2.old _ (by simp)).trans hlab
      have hc := chgR X W2.heap.size (bcells ns).toArray
      have hz : (X.setRow W2.heap.size (bcells ns).toArray).heap.size = X.heap.size := by simp
      have l5 := h5.lt
      have l6 := h6.lt
      have hm3 := hm1.trans k2
      refine ⟨⟨ht.box, hnb⟩, ⟨⟨L3, v3, k1.out hc (fun g e _ => .inl (by have e : g = W2.heap.size := e; rw [e]; exact hlab')) (fun _ _ => .inl rfl) (fun g hg => by rw [hz]; exact k1.lt g hg), ⟨hm3.chg.trans hc (fun g e => by right; have : g = W2.heap.size := e; omega), hm3.old, hm3.new⟩, (k2.old G (by simp; omega)).trans h3, (k2.old (G + 1) (by simp; omega)).trans h4⟩, ht.box.rowOther (by omega) _, ht.res.rowOther (by omega) _, ht.lo⟩, hnb.row _, hl⟩
    have hb0 := hT0.box
    have hbA := hT1.box
    obtain ⟨WA, hWA⟩ : ∃ X, W2.drew.alloc (.cells (bcells zeros4).toArray 104) = X := ⟨_, rfl⟩
    rw [hWA] at HGB HBo hbA
    clear hT0 hT1 hm0 hm1 h1 h2 h3 h4 h5 h6 h7 hbe hbf hkq hns her hs2 hnf hnk hkq2
    unfold shI at HGA HGB
    go_upto_region 5 with fail
    refine wp_joinP (fun g X => GtR L w D G s2 p ns (m + 74) g X) ?_
    apply Exists.intro
    constructor
    refine wp_region_sched (.take 0 (.take 1 (.take 2 (.fork 3 (.fork 4 (.take 5 (.take 6 (.take 7 (.step 8 (.step 9 (.take 10 (.nil))))))) 8 (.step 4 (.take 5 (.take 6 (.take 7 (.step 9 (.take 10 (.nil)))))))) 8 (.step 3 (.step 4 (.take 5 (.take 6 (.take 7 (.step 9 (.take 10 (.nil))))))))))))  (by kernel_rfl) (by kernel_rfl) (fun d _ _ _ _ h => by cases h.1) (fun X => Blk X G (pcells p) 28) (hb0) ?_
    refine gT (shI D) ?_; try simp only [pS]
    refine wpG_take _ (.agg (pcells p).toArray) rfl (by rfl) (fun X hX => ex_ldP HPO.out hX rfl rfl) ?_; try simp only [pS]
    refine gT (.int .u16 (k : Int)) ?_; try simp only [pS]
    refine wpG_fork ?_ ?_
    · refine wpG_call _ rfl (by rfl) 44 #[.int .u16 (k : Int)] (fun X => by go_simp) (fun u X => u = .int .u32 (kq : Int) ∧ X = W2.drew) ((tbLeafOf_any k HKB.out W2.drew).mono fun e X ⟨e1, e2⟩ => ⟨_, e1, by rw [e2]; exact hb0, by rw [HKQ.out], e2⟩) ?_
      rintro u X3 hs3 ⟨rfl, e3⟩
      have e4 := e3.symm
      clear e3
      subst e4
      refine ⟨fun X => Blk X G (pcells p) 28, fun _ h => h, hs3, ?_⟩; try simp only [pS]
      refine wpG_fork ?_ ?_
      · refine wpG_call _ rfl (by rfl) 38 #[shI D, .agg (pcells p).toArray, .int .u32 (kq : Int)] (fun X => by go_simp) (fun u X => u = .tuple #[.agg (bcells ns).toArray, .int .i64 (er : Int)] ∧ (ShPost 5 L1 W2.drew D s2 X ∧ Lim (m + 74) s2)) (HGA.mono fun e X ⟨e1, e2⟩ => ⟨_, e1, (HA X e2).1, rfl, e2⟩) ?_
        rintro u X4 hs4 ⟨rfl, hX4⟩
        refine ⟨fun X => Blk X G (pcells p) 28, fun _ h => h, hs4, ?_⟩; try simp only [pS]
        refine gT (.tuple #[.agg (bcells ns).toArray, .int .i64 (er : Int)]) ?_; try simp only [pS]
        refine gT (.agg (bcells ns).toArray) ?_; try simp only [pS]
        refine gT (.int .i64 (er : Int)) ?_; try simp only [pS]
        obtain ⟨ga, hga⟩ : ∃ g, X4.heap.size = g := ⟨_, rfl⟩
        have hA2 := (HA X4 hX4).2
        have hn9 : Blk (X4.alloc (.cells (bcells zeros4).toArray 104)) ga (bcells zeros4) 104 := by rw [← hga]; exact Blk.new _ _ _
        have hc9 : Blk (X4.alloc (.cells (bcells zeros4).toArray 104)) G (pcells p) 28 := hs4.alloc _
        have hal : ∀ {ρ : Operand → Value} {o : Oper}, o.op = .alloc 104 → (execOp ρ o).run Tryz.prog X4 = .ok (.value (.pointer (some ⟨ga, 0, none⟩))) (X4.alloc (.cells (bcells zeros4).toArray 104)) := fun h => by rw [← hga]; exact ex_alB h
        rw [hga] at hA2
        refine wpG_mk _ rfl (by rfl) (.pointer (some ⟨ga, 0, none⟩)) _ (hal rfl) (fun X => Blk X G (pcells p) 28) hc9 (fun _ h => h) ?_; try simp only [pS]
        refine wpG_row _ rfl (by rfl) 104 (.tmp 8) (.tmp 23) rfl ga (bcells ns).toArray rfl rfl hn9 HST.out (by rw [HSA.out, zeros4_ok.cells]) (bcells_one ns) (fun X => Blk X G (pcells p) 28) (fun _ h => h) hA2.1.box ?_; try simp only [pS]
        refine gT (.int .i64 (er : Int)) ?_; try simp only [pS]
        refine wpG_nil ?_
        exact ⟨rfl, ga, rfl, hA2⟩
      · obtain ⟨gb, hgb⟩ : ∃ g, W2.drew.heap.size = g := ⟨_, rfl⟩
        have hal : ∀ {ρ : Operand → Value} {o : Oper}, o.op = .alloc 104 → (execOp ρ o).run Tryz.prog W2.drew = .ok (.value (.pointer (some ⟨gb, 0, none⟩))) WA := fun h => by rw [← hgb, ← hWA]; exact ex_alB h
        have hgb2 : W2.heap.size = gb := hgb
        rw [hgb2] at HBo
        refine wpG_mk _ rfl (by rfl) (.pointer (some ⟨gb, 0, none⟩)) WA (hal rfl) (fun X => Blk X G (pcells p) 28) hbA (fun _ h => h) ?_; try simp only [pS]
        refine wpG_call _ rfl (by rfl) 38 #[shI D, .agg (pcells p).toArray, .int .u32 (kq : Int)] (fun X => by go_simp) (fun u X => u = .tuple #[.agg (bcells ns).toArray, .int .i64 (er : Int)] ∧ (ShPost 5 L1 WA D s2 X ∧ Lim (m + 74) s2)) (HGB.mono fun e X ⟨e1, e2⟩ => ⟨_, e1, (HBo X e2).1.1, rfl, e2⟩) ?_
        rintro u X4 hs4 ⟨rfl, hX4⟩
        refine ⟨fun X => Blk X G (pcells p) 28, fun _ h => h, hs4, ?_⟩; try simp only [pS]
        refine gT (.tuple #[.agg (bcells ns).toArray, .int .i64 (er : Int)]) ?_; try simp only [pS]
        refine gT (.agg (bcells ns).toArray) ?_; try simp only [pS]
        refine gT (.int .i64 (er : Int)) ?_; try simp only [pS]
        have hA2 := (HBo X4 hX4).2
        refine wpG_row _ rfl (by rfl) 104 (.tmp 8) (.tmp 23) rfl gb (bcells ns).toArray rfl rfl (HBo X4 hX4).1.2 HST.out (by rw [HSA.out, zeros4_ok.cells]) (bcells_one ns) (fun X => Blk X G (pcells p) 28) (fun _ h => h) hA2.1.box ?_; try simp only [pS]
        refine gT (.int .i64 (er : Int)) ?_; try simp only [pS]
        refine wpG_nil ?_
        exact ⟨rfl, gb, rfl, hA2⟩
    · obtain ⟨gb, hgb⟩ : ∃ g, W2.drew.heap.size = g := ⟨_, rfl⟩
      have hal : ∀ {ρ : Operand → Value} {o : Oper}, o.op = .alloc 104 → (execOp ρ o).run Tryz.prog W2.drew = .ok (.value (.pointer (some ⟨gb, 0, none⟩))) WA := fun h => by rw [← hgb, ← hWA]; exact ex_alB h
      have hgb2 : W2.heap.size = gb := hgb
      rw [hgb2] at HBo
      refine wpG_mk _ rfl (by rfl) (.pointer (some ⟨gb, 0, none⟩)) WA (hal rfl) (fun X => Blk X G (pcells p) 28) hbA (fun _ h => h) ?_; try simp only [pS]
      refine wpG_call _ rfl (by rfl) 44 #[.int .u16 (k : Int)] (fun X => by go_simp) (fun u X => u = .int .u32 (kq : Int) ∧ X = WA) ((tbLeafOf_any k HKB.out WA).mono fun e X ⟨e1, e2⟩ => ⟨_, e1, by rw [e2]; exact hbA, by rw [HKQ.out], e2⟩) ?_
      rintro u X3 hs3 ⟨rfl, e3⟩
      have e4 := e3.symm
      clear e3
      subst e4
      refine ⟨fun X => Blk X G (pcells p) 28, fun _ h => h, hs3, ?_⟩; try simp only [pS]
      refine wpG_call _ rfl (by rfl) 38 #[shI D, .agg (pcells p).toArray, .int .u32 (kq : Int)] (fun X => by go_simp) (fun u X => u = .tuple #[.agg (bcells ns).toArray, .int .i64 (er : Int)] ∧ (ShPost 5 L1 WA D s2 X ∧ Lim (m + 74) s2)) (HGB.mono fun e X ⟨e1, e2⟩ => ⟨_, e1, (HBo X e2).1.1, rfl, e2⟩) ?_
      rintro u X4 hs4 ⟨rfl, hX4⟩
      refine ⟨fun X => Blk X G (pcells p) 28, fun _ h => h, hs4, ?_⟩; try simp only [pS]
      refine gT (.tuple #[.agg (bcells ns).toArray, .int .i64 (er : Int)]) ?_; try simp only [pS]
      refine gT (.agg (bcells ns).toArray) ?_; try simp only [pS]
      refine gT (.int .i64 (er : Int)) ?_; try simp only [pS]
      have hA2 := (HBo X4 hX4).2
      refine wpG_row _ rfl (by rfl) 104 (.tmp 8) (.tmp 23) rfl gb (bcells ns).toArray rfl rfl (HBo X4 hX4).1.2 HST.out (by rw [HSA.out, zeros4_ok.cells]) (bcells_one ns) (fun X => Blk X G (pcells p) 28) (fun _ h => h) hA2.1.box ?_; try simp only [pS]
      refine gT (.int .i64 (er : Int)) ?_; try simp only [pS]
      refine wpG_nil ?_
      exact ⟨rfl, gb, rfl, hA2⟩
    intro g X hX
    have HX5 := Lib.hid hX.1
    have HNB := Lib.hid hX.2.1
    have HLM := Lib.hid hX.2.2
    have HRX := Lib.hid hX.1.res
    clear hX HA HBo HGA HGB hb0 hbA hWA HX1 HRB
    by_cases h0 : er = 0
    · subst h0
      obtain ⟨q, hq⟩ := HNS.out.get (k := k % 4) (by omega)
      have HQ := Lib.hid hq
      have HQO := Lib.hid (HNS.out.at hq)
      have HBE := Lib.hid (HX5.out.ends q)
      have HE := Lib.hid (HP.out _ (by rw [HGT.out.2.2]; exact HBE.out.1) (by rw [HGT.out.2.2]; exact HLM.out))
      rw [HGT.out.1, HGT.out.2.1, if_neg (by simp), List.getD_eq_getElem?_getD, hq] at HE
      have HK4 : Hid (k % 4 < 4) := Lib.hid (by omega)
      have HSQ := Lib.hid (size_icI HQO.out)
      have HZN : Hid ((icells zeroI).toArray.size = (icells q).toArray.size) := Lib.hid (by rw [List.size_toArray, List.size_toArray, icells_length zeroI_ok, icells_length HQO.out])
      clear hq HP HGT
      go_wp2_with (first | (refine wpL_val rfl (ex_rem4 rfl rfl rfl) ?_) | (refine wpL_val rfl (ex_iaBu HK4.out rfl rfl rfl) ?_) | (refine wpL_val rfl (ex_ldEI HNS.out HNB.out HQ.out (Nat.mul_comm _ 44) rfl rfl) ?_) | (refine wpList_store_row rfl 68 (.tmp 6) (.tmp 32) rfl (G + 1) (icells q).toArray rfl rfl 68 _ HRX.out HSQ.out HZN.out (one_ic _) ?_) | fail)
      refine bodyPost_ret (results_csI Tryz.results20 _ _ (G + 1) 68 _ rfl HBE.out.2 (size_icIl HQO.out)) rfl ?_
      exact HE.out
    · have h0' : ¬ (er : Int) = 0 := by omega
      have HBE := Lib.hid (HX5.out.ends zeroI)
      have HE := Lib.hid (HP.out _ (by rw [HGT.out.2.2]; exact HBE.out.1) (by rw [HGT.out.2.2]; exact HLM.out))
      rw [HGT.out.1, HGT.out.2.1, if_pos h0] at HE
      clear HP HGT h0
      go_wp2_with (first | (refine wpL_val rfl (ex_bldI0 rfl) ?_) | (refine wpList_store_row rfl 68 (.tmp 6) (.tmp 27) rfl (G + 1) (icells zeroI).toArray rfl rfl 68 _ HRX.out HSZ.out rfl (one_ic _) ?_) | fail)
      refine bodyPost_ret (results_csI Tryz.results20 _ _ (G + 1) 68 _ rfl HBE.out.2 (size_icIl zeroI_ok)) rfl ?_
      exact HE.out
end Go.Proofs.YtjgjohdeeeoeoaaGreatDoor
namespace Go.Proofs.YtjgjohdeeeoeoaaGreatDoor
open Go.RowKit
theorem trI_append (l m : List Itm) : trI (l ++ m) = trI l ++ trI m := by simp [trI]
theorem one_trI (l : List Itm) : ∀ u ∈ trI l, u.oneCell' = true := fun u hu => by
  simp only [trI, List.mem_flatMap] at hu
  obtain ⟨x, _, hx⟩ := hu
  exact one_tcI x u hx
theorem ownT_appS {w : World} {B : Nat} {v : Value} {l : List Itm} (h : OwnT w B v l) (hB : B ≤ w.heap.size) {B2 : Nat} {v2 : Value} {l2 : List Itm} (h2 : OwnT w B2 v2 l2) (hl : l.length + l2.length < 100000000) (ty : TypeId) :
    ∃ v' w', (Builtin.append_ #[55, 55] ty #[v, v2]).run Tryz.prog w = .ok v' w' ∧ OwnT w' B v' (l ++ l2) ∧ w.grownBy w' v.ownBlock ∧ (v'.ownBlock = v.ownBlock ∨ v'.ownBlock = some w.heap.size) := by
  obtain ⟨i0, z, hi, hz0, hz1, hz2, hz3⟩ := info_partsTm
  obtain ⟨k1, k2⟩ := h2
  rcases k2 with ⟨rfl, hn⟩ | ⟨g, cap, cur, rfl, hb, hg, hc, hm, hs, ht⟩
  · have e : l2 = [] := List.eq_nil_of_length_eq_zero hn
    subst e
    exact ⟨v, w, run_append_owned_none (P := Tryz.prog) w B 55 ty 76 i0 45 Tryz.underlying55 hi v l.length (trI l) h, by rw [List.append_nil]; exact h, ⟨rfl, rfl, rfl, Nat.le_refl _, fun _ _ _ => rfl⟩, .inl rfl⟩
  · have hBk : Blk w g cur.toList 76 := by unfold Blk; simpa using hg
    obtain ⟨v', w', hr, j2, j3, _, j5⟩ := run_append_own_at (P := Tryz.prog) w B 55 ty 76 i0 z 45 72 Tryz.underlying55 hi hz0 hz2 hz3 hz1 (by decide) v l.length (trI l) h ⟨g, 0, none⟩ l2.length cap (trI l2) k1 (fun j y hj => by
      rw [Addr.add_mid, Nat.zero_add]
      rw [← ht, List.getElem?_take] at hj
      split at hj
      · exact hBk.cell hj
      · cases hj) (one_trI l2) (by unfold maxLen; omega) (by omega) hB
    refine ⟨v', w', hr, ?_, j3, j5⟩
    unfold OwnT
    rw [trI_append, List.length_append]
    exact j2
structure Ta where
  e : Nat
  s : Sh
  l : List Itm
  b : List Pt
def taGo : List Lf → Sh → List Itm → List Pt → Ta
  | [], s, l, b => ⟨0, s, l, b⟩
  | x :: xs, s, l, b => if tbE s x.2 ≠ 0 then ⟨tbE s x.2, tbS s x.2, [], []⟩ else taGo xs (tbS s x.2) (l ++ itmK x.1 (tbN s x.2) 4) (b ++ [x.2])
def taAll (s : Sh) (p : Pt) : Ta := if allE s p ≠ 0 then ⟨allE s p, allS s p, [], []⟩ else taGo (allL s p) (allS s p) [] (allN s p)
theorem taGo_err {x : Lf} {xs : List Lf} {s : Sh} {l : List Itm} {b : List Pt} (h : tbE s x.2 ≠ 0) : taGo (x :: xs) s l b = ⟨tbE s x.2, tbS s x.2, [], []⟩ := by
  unfold taGo
  rw [if_pos h]
theorem taGo_ok {x : Lf} {xs : List Lf} {s : Sh} {l : List Itm} {b : List Pt} (h : tbE s x.2 = 0) : taGo (x :: xs) s l b = taGo xs (tbS s x.2) (l ++ itmK x.1 (tbN s x.2) 4) (b ++ [x.2]) := by
  conv => lhs; unfold taGo
  rw [if_neg (by simp [h])]
theorem drop_atT {l : List Lf} {k : Nat} {x : Lf} (h : l[k]? = some x) : l.drop k = x :: l.drop (k + 1) := by
  obtain ⟨hk, e⟩ := List.getElem?_eq_some_iff.1 h
  rw [List.drop_eq_getElem_cons hk, e]
theorem Lim.tbS {m : Nat} {s : Sh} {p : Pt} (h : Lim m s) (hm : m + 1 < 100000000) : Lim (m + 1) (Go.Proofs.YtjgjohdeeeoeoaaGreatDoor.tbS s p) := h.rnS (p := p) hm
end Go.Proofs.YtjgjohdeeeoeoaaGreatDoor
namespace Go.Proofs.YtjgjohdeeeoeoaaGreatDoor
open Go.RowKit
attribute [local go_sem] Oper.semAt_some
structure TaW (L : Nat → Nat) (w : World) (D : Nat) (ls : List Lf) (lv : Value) (s : Sh) (l : List Itm) (b : List Pt) (ov nv : Value) (X : World) : Prop where
  sh : ∃ L1 v1, ShAt X L1 D s v1 ∧ Mv 5 L w L1 X ∧ (∀ g, lv.ownBlock = some g → L1 g = 0) ∧ (∀ g, ov.ownBlock = some g → L1 g = 0) ∧ ∀ g, nv.ownBlock = some g → L1 g = 0
  lo : OwnL X 0 lv ls
  oo : OwnT X 0 ov l
  no : OwnM X 0 nv b
  og : ∀ g, ov.ownBlock = some g → w.heap.size ≤ g
  ng : ∀ g, nv.ownBlock = some g → w.heap.size ≤ g
section
variable {L : Nat → Nat} {w : World} {D : Nat} {ls : List Lf} {lv : Value} {s : Sh} {l : List Itm} {b : List Pt} {ov nv : Value} {X : World}
theorem TaW.below (h : TaW L w D ls lv s l b ov nv X) {Y : World} (hb : Below X.heap.size X Y) : TaW L w D ls lv s l b ov nv Y := by
  obtain ⟨⟨L1, v1, h1, h2, h3⟩, k1, k2, k3, k4, k5⟩ := h
  exact ⟨⟨L1, v1, h1.below hb, h2.trans (Mv.of_below hb h1.lt), h3⟩, owns_chg k1 (Chg.of_below (F := fun _ => False) hb) (fun _ _ h => h), owns_chg k2 (Chg.of_below (F := fun _ => False) hb) (fun _ _ h => h), owns_chg k3 (Chg.of_below (F := fun _ => False) hb) (fun _ _ h => h), k4, k5⟩
theorem TaW.call (h : TaW L w D ls lv s l b ov nv X) : ∃ L1 v1, ShAt X L1 D s v1 ∧ ∀ s2 X5 Y, Below X.heap.size X X5 → ShPost 5 L1 X5 D s2 Y → TaW L w D ls lv s2 l b ov nv Y ∧ ∀ g cs t, X.heap.size ≤ g → Blk X5 g cs t → Blk Y g cs t := by
  obtain ⟨⟨L1, v1, h1, h2, h3, h4, h5⟩, k1, k2, k3, k4, k5⟩ := h
  refine ⟨L1, v1, h1, fun s2 X5 Y hb ⟨L3, v3, j1, j2⟩ => ⟨?_, fun g cs t hg hB => j2.blk hB (h1.not hg)⟩⟩
  have m1 : Mv 5 L w L1 X5 := h2.trans (Mv.of_below hb h1.lt)
  have hf : ∀ g, L1 g = 0 → ¬ Foot 5 L1 g := fun g e hf => by unfold Foot at hf; omega
  have l1 := fun g e => Nat.lt_of_lt_of_le (owns_lt k1 (g := g) e) hb.size
  have l2 := fun g e => Nat.lt_of_lt_of_le (owns_lt k2 (g := g) e) hb.size
  have l3 := fun g e => Nat.lt_of_lt_of_le (owns_lt k3 (g := g) e) hb.size
  exact ⟨⟨L3, v3, j1, m1.trans j2, fun g e => (j2.old g (l1 g e)).trans (h3 g e), fun g e => (j2.old g (l2 g e)).trans (h4 g e), fun g e => (j2.old g (l3 g e)).trans (h5 g e)⟩, owns_chg (owns_chg k1 (Chg.of_below (F := fun _ => False) hb) (fun _ _ h => h)) j2.chg (fun g e => hf g (h3 g e)), owns_chg (owns_chg k2 (Chg.of_below (F := fun _ => False) hb) (fun _ _ h => h)) j2.chg (fun g e => hf g (h4 g e)), owns_chg (owns_chg k3 (Chg.of_below (F := fun _ => False) hb) (fun _ _ h => h)) j2.chg (fun g e => hf g (h5 g e)), k4, k5⟩
theorem own_ty {w : World} {B e e' k k' n n' : Nat} {B' : Nat} {v v' : Value} {xs xs' : List Value} (h : w.ownsRow B e k v n xs) (h' : w.ownsRow B' e' k' v' n' xs') (hne : e ≠ e') {g : Nat} (hg : v.ownBlock = some g) : v'.ownBlock ≠ some g := fun hg' => by
  rcases h.2 with ⟨rfl, _⟩ | ⟨a, cap, cur, rfl, _, ha, _⟩
  · cases hg
  · rcases h'.2 with ⟨rfl, _⟩ | ⟨a', cap', cur', rfl, _, ha', _⟩
    · cases hg'
    · have e1 : a = g := by injection hg
      have e2 : a' = g := by injection hg'
      subst e1
      subst e2
      rw [ha] at ha'
      injection ha' with ha'
      injection ha' with _ h2 _
      exact hne h2
theorem TaW.app (h : TaW L w D ls lv s l b ov nv X) {B2 : Nat} {v2 : Value} {l2 : List Itm} (h2 : OwnT X B2 v2 l2) (hl : l.length + l2.length < 100000000) (ty : TypeId) :
    ∃ v' w', (Builtin.append_ #[55, 55] ty #[ov, v2]).run Tryz.prog X = .ok v' w' ∧ TaW L w D ls lv s (l ++ l2) b v' nv w' ∧ ∀ g cs t, t ≠ 76 → Blk X g cs t → Blk w' g cs t := by
  obtain ⟨⟨L1, v1, h1, m1, h3, h4, h5⟩, k1, k2, k3, k4, k5⟩ := h
  obtain ⟨v', w', hr, ho, hgr, hn⟩ := ownT_appS k2 (Nat.zero_le _) h2 hl ty
  have hc : Chg (fun g => ov.ownBlock = some g) X w' := (Chg.refl _ X).grown hgr (fun k e => .inl e)
  refine ⟨v', w', hr, ⟨⟨L1, v1, h1.out hc (fun g e _ => .inl (h4 g e)) (fun g e => .inl (by rfl)) (fun g hg => Nat.lt_of_lt_of_le (h1.lt g hg) hgr.size), ⟨m1.chg.trans hc (fun g e => .inr (k4 g e)), m1.old, m1.new⟩, h3, fun g e => ?_, h5⟩, owns_chg k1 hc (fun g e e' => own_ty k1 k2 (by decide) e e'), ho, owns_chg k3 hc (fun g e e' => own_ty k3 k2 (by decide) e e'), fun g e => ?_, k5⟩, fun g cs t ht hB => hB.chg hc (fun e => ?_)⟩
  · rcases hn with q | q
    · exact h4 g (q ▸ e)
    · have e := Option.some.inj (q.symm.trans e)
      have hx := h1.not (g := g) (Nat.le_of_eq e)
      exact hx
  · rcases hn with q | q
    · exact k4 g (q ▸ e)
    · have e := Option.some.inj (q.symm.trans e)
      have := m1.size
      omega
  · rcases k2.2 with ⟨rfl, _⟩ | ⟨a, cap, cur, rfl, _, ha, _⟩
    · cases e
    · have e1 : a = g := by injection e
      subst e1
      unfold Blk at hB
      rw [ha] at hB
      injection hB with hB
      injection hB with _ q _
      exact ht q.symm
theorem TaW.appP (h : TaW L w D ls lv s l b ov nv X) {Y : World} (hb : Below X.heap.size X Y) {q : Pt} (hq : q.OK) {g : Nat} {t : TypeId} (hg : Blk Y g (pcells q) t) (hl : b.length < 100000000) (ty : TypeId) :
    ∃ v' w', (Builtin.append_ #[48, 48] ty #[nv, .slice (some ⟨g, 0, none⟩) 1 1]).run Tryz.prog Y = .ok v' w' ∧ TaW L w D ls lv s l (b ++ [q]) ov v' w' := by
  obtain ⟨⟨L1, v1, h1, m1, h3, h4, h5⟩, k1, k2, k3, k4, k5⟩ := h.below hb
  obtain ⟨v', w', hr, ho, hgr, hn⟩ := ownM_app k3 (Nat.zero_le _) hl hq (adr := ⟨g, 0, none⟩) (c := 1) (fun j u hj => by rw [Addr.add_mid, Nat.zero_add]; exact hg.cell hj) ty
  have hc : Chg (fun g => nv.ownBlock = some g) Y w' := (Chg.refl _ Y).grown hgr (fun k e => .inl e)
  refine ⟨v', w', hr, ⟨⟨L1, v1, h1.out hc (fun g e _ => .inl (h5 g e)) (fun g e => .inl (by rfl)) (fun g hg => Nat.lt_of_lt_of_le (h1.lt g hg) hgr.size), ⟨m1.chg.trans hc (fun g e => .inr (k5 g e)), m1.old, m1.new⟩, h3, h4, fun g e => ?_⟩, owns_chg k1 hc (fun g e e' => own_ty k1 k3 (by decide) e e'), owns_chg k2 hc (fun g e e' => own_ty k2 k3 (by decide) e e'), ho, k4, fun g e => ?_⟩⟩
  · rcases hn with q | q
    · exact h5 g (q ▸ e)
    · have e := Option.some.inj (q.symm.trans e)
      have hx := h1.not (g := g) (Nat.le_of_eq e)
      exact hx
  · rcases hn with q | q
    · exact k5 g (q ▸ e)
    · have e := Option.some.inj (q.symm.trans e)
      have := m1.size
      omega
end
end Go.Proofs.YtjgjohdeeeoeoaaGreatDoor
