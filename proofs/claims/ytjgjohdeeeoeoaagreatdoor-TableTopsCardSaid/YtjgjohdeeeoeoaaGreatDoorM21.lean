/- The tree's lost, old. -/
import Derived.Test.YtjgjohdeeeoeoaaGreatDoorM20
namespace Go.Proofs.YtjgjohdeeeoeoaaGreatDoor
open Go.RowKit
attribute [local go_sem] Oper.semAt_some
def isIn (l : List Pt) (p : Pt) : Bool := l.any (fun q => eqP p q)
def lostC (was now : List Pt) (i : Nat) (p : Pt) : Bool := !eqP p zeroP && !isIn now p && !isIn (was.take i) p
def lostG (was now : List Pt) : Nat → List Pt → Sh → Sh
  | _, [], s => s
  | i, p :: ps, s => lostG was now (i + 1) ps (if lostC was now i p = true then oldS s p else s)
def lostS (s : Sh) (was now : List Pt) : Sh := lostG was now 0 was s
def oldN (s : Sh) (p : Pt) (lv : Nat) (was now : List Pt) : Sh := if eqP p zeroP = true then (if lv = 1 then lostS s was now else s) else oldS (if lv = 1 then lostS s was now else s) p
def mcells (D obj : Nat) : List Value := [shI D, .int .u16 (obj : Int)]
structure LsS (L : Nat → Nat) (w : World) (D obj : Nat) (was now : List Pt) (GM GA GB : Nat) (s : Sh) (X : World) : Prop where
  sh : ∃ L1 v1, ShAt X L1 D s v1 ∧ Mv 5 L w L1 X ∧ L1 GM = 0 ∧ L1 GA = 0 ∧ L1 GB = 0
  mb : Blk X GM (mcells D obj) 145
  a : Blk X GA (ncells was) 170
  b : Blk X GB (ncells now) 170
theorem LsS.below {L : Nat → Nat} {w : World} {D obj : Nat} {was now : List Pt} {GM GA GB : Nat} {s : Sh} {X Y : World} (h : LsS L w D obj was now GM GA GB s X) (hb : Below X.heap.size X Y) : LsS L w D obj was now GM GA GB s Y := by
  obtain ⟨⟨L1, v1, h1, h2, h3⟩, k1, k2, k3⟩ := h
  exact ⟨⟨L1, v1, h1.below hb, h2.trans (Mv.of_below hb h1.lt), h3⟩, k1.below hb k1.lt, k2.below hb k2.lt, k3.below hb k3.lt⟩
theorem LsS.moved {L L1 : Nat → Nat} {w : World} {D obj : Nat} {was now : List Pt} {GM GA GB : Nat} {s s' : Sh} {X Y : World} (h : LsS L w D obj was now GM GA GB s X) (hm : Mv 5 L w L1 X) (hl : L1 GM = 0 ∧ L1 GA = 0 ∧ L1 GB = 0) (hp : ShPost 5 L1 X D s' Y) : LsS L w D obj was now GM GA GB s' Y := by
  obtain ⟨L2, v2, k1, k2⟩ := hp
  exact ⟨⟨L2, v2, k1, hm.trans k2, (k2.old _ h.mb.lt).trans hl.1, (k2.old _ h.a.lt).trans hl.2.1, (k2.old _ h.b.lt).trans hl.2.2⟩, k2.blk h.mb hl.1, k2.blk h.a hl.2.1, k2.blk h.b hl.2.2⟩
theorem srcN_take {W : World} {g : Nat} {ns : List Pt} {t : TypeId} (hn : NOK ns) (h : Blk W g (ncells ns) t) (k : Nat) (hk : k ≤ 8) : SrcM W (.slice (some ⟨g, 0, none⟩) k 8) (ns.take k) := by
  have hl : (ns.take k).length = k := by rw [List.length_take, hn.len, Nat.min_eq_left hk]
  refine ⟨some ⟨g, 0, none⟩, 8, by rw [hl], by rw [hl]; exact hk, by unfold maxLen; omega, (fun e => by cases e), fun _ => ⟨g, rfl, h.lt, fun i q hq => ?_⟩⟩
  rw [List.getElem?_take] at hq
  split at hq
  · have := rng_elem hn h hq
    rw [Nat.mul_comm] at this
    exact this
  · cases hq
section
variable {ρ : Operand → Value} {o : Oper} {x y : Operand} {w : World}
theorem ex_slN8 {b : Nat} (ho : o.op = .slice 170 x none none none) (hx : ρ x = .pointer (some ⟨b, 0, none⟩)) : (execOp ρ o).run Tryz.prog w = .ok (.value (.slice (some ⟨b, 0, none⟩) 8 8)) w := by
  unfold execOp
  simp only [ho]
  go_simp
theorem ex_slNk {b k : Nat} (hk : k ≤ 8) (ho : o.op = .slice 170 x none (some y) none) (hx : ρ x = .pointer (some ⟨b, 0, none⟩)) (hy : ρ y = .int .i64 (k : Int)) : (execOp ρ o).run Tryz.prog w = .ok (.value (.slice (some ⟨b, 0, none⟩) k 8)) w := by
  have h1 : ¬ (8 < k) := by omega
  have h2 : (k : Int) ≤ 8 := by omega
  have h3 : (0 : Int) ≤ (k : Int) := by omega
  unfold execOp
  simp only [ho]
  go_simp
end
structure LqS (L : Nat → Nat) (w : World) (D obj : Nat) (was now : List Pt) (GM GA GB : Nat) (s : Sh) (q : Pt) (gq : Nat) (X : World) : Prop where
  ls : LsS L w D obj was now GM GA GB s X
  q : Blk X gq (pcells q) 28
theorem LqS.below {L : Nat → Nat} {w : World} {D obj : Nat} {was now : List Pt} {GM GA GB : Nat} {s : Sh} {q : Pt} {gq : Nat} {X Y : World} (h : LqS L w D obj was now GM GA GB s q gq X) (hb : Below X.heap.size X Y) : LqS L w D obj was now GM GA GB s q gq Y := ⟨h.ls.below hb, h.q.below hb h.q.lt⟩
theorem LqS.stable {L : Nat → Nat} {w : World} {D obj : Nat} {was now : List Pt} {GM GA GB : Nat} {s : Sh} {q : Pt} {gq : Nat} : Stable (LqS L w D obj was now GM GA GB s q gq) := fun _ _ h hb => h.below hb
def LsPost (L : Nat → Nat) (w : World) (D : Nat) (s' : Sh) (m : Nat) (e : Ending) (w' : World) : Prop := e = .returned (.tuple #[]) ∧ ShPost 5 L w D s' w' ∧ Lim m s'
theorem Lim.oldS {m : Nat} {s : Sh} {p : Pt} (h : Lim m s) (hm : m + 1 < 100000000) : Lim (m + 1) (oldS s p) := ⟨Nat.le_trans h.rd (by omega), Nat.le_trans h.md (by omega), by have := h.gn; simp [Go.Proofs.YtjgjohdeeeoeoaaGreatDoor.oldS]; omega, hm, h.bl, h.bd, h.rm⟩
theorem lostG_cons (was now : List Pt) (i : Nat) (p : Pt) (ps : List Pt) (s : Sh) : lostG was now i (p :: ps) s = lostG was now (i + 1) ps (if lostC was now i p = true then oldS s p else s) := rfl
set_option maxRecDepth 100000 in
set_option maxHeartbeats 16000000 in
theorem trLost_any {w : World} {L : Nat → Nat} {D : Nat} {s : Sh} {v : Sv} {m : Nat} (obj : Nat) (was now : List Pt) (hwas : NOK was) (hnow : NOK now) (h : ShAt w L D s v) (hk : Lim m s) (hm : m + 8 < 100000000) :
    Calls Tryz.prog 118 #[.agg (mcells D obj).toArray, .agg (ncells was).toArray, .agg (ncells now).toArray] w (LsPost L w D (lostS s was now) (m + 8)) := by
  have HA := Lib.hid hwas; have HB := Lib.hid hnow
  have hw1 : Below w.heap.size w (((w.alloc (.cells (mcells D obj).toArray 145)).alloc (.cells (ncells was).toArray 170)).alloc (.cells (ncells now).toArray 170)) := (((Below.refl _ _).alloc (Nat.le_refl _) _).alloc (by simp) _).alloc (by simp; omega) _
  have HX : Hid (LsS L w D obj was now w.heap.size (w.heap.size + 1) (w.heap.size + 1 + 1) s (((w.alloc (.cells (mcells D obj).toArray 145)).alloc (.cells (ncells was).toArray 170)).alloc (.cells (ncells now).toArray 170))) := Lib.hid
    ⟨⟨L, v, h.below hw1, Mv.of_below hw1 h.lt, h.not (Nat.le_refl _), h.not (by omega), h.not (by omega)⟩, ((Blk.new _ _ _).alloc _).alloc _, (Blk.new' _ _ _ _ _ (by simp) rfl).alloc _, Blk.new' _ _ _ _ _ (by simp) rfl⟩
  have HK := Lib.hid hk; have HM := Lib.hid hm
  obtain ⟨r, hr⟩ : ∃ r, lostS s was now = r := ⟨_, rfl⟩
  have HR : Hid (lostG was now 0 was s = r) := Lib.hid hr
  rw [hr]
  generalize hPost : LsPost L w D r (m + 8) = Post
  have HP : Hid (∀ w', ShPost 5 L w D r w' → Lim (m + 8) r → Post (.returned (.tuple #[])) w') := Lib.hid fun w' h2 h3 => by rw [← hPost]; exact ⟨rfl, h2, h3⟩
  clear hwas hnow h hk hm hr hPost hw1
  go_enter Tryz.func118, Tryz.ntmps118
  go_upto_region 1 with fail
  refine (fun (k : ∀ W, LsS L w D obj was now w.heap.size (w.heap.size + 1) (w.heap.size + 1 + 1) s W → Code.wp _ _ _ _ W) => k _ HX.out) ?_
  intro W hW
  obtain ⟨GM, hGM⟩ : ∃ g, w.heap.size = g := ⟨_, rfl⟩
  rw [hGM] at hW ⊢
  obtain ⟨GA, hGA⟩ : ∃ g, GM + 1 = g := ⟨_, rfl⟩
  rw [hGA] at hW ⊢
  obtain ⟨GB, hGB⟩ : ∃ g, GA + 1 = g := ⟨_, rfl⟩
  rw [hGB] at hW ⊢
  have HX1 := Lib.hid hW
  clear hW HX hGM hGA hGB
  go_wp2_with (first | (refine wpL_val rfl (ex_ldN HA.out HX1.out.a rfl rfl) ?_) | fail)
  have HR0 : Hid (∃ k s2, k ≤ 8 ∧ Value.int .i64 0 = .int .i64 ((k : Nat) : Int) ∧ lostG was now k (was.drop k) s2 = r ∧ LsS L w D obj was now GM GA GB s2 W ∧ Lim (m + k) s2) := Lib.hid ⟨0, s, by omega, rfl, by rw [List.drop_zero]; exact HR.out, HX1.out, HK.out⟩
  clear HX1 HR
  go_loopw [9] (fun v wr => ∃ k s2, k ≤ 8 ∧ v = .int .i64 ((k : Nat) : Int) ∧ lostG was now k (was.drop k) s2 = r ∧ LsS L w D obj was now GM GA GB s2 wr ∧ Lim (m + k) s2) (fun v _ => 8 - (intOf v).toNat)
  case atStart => exact HR0.out
  case round =>
    clear HR0
    obtain ⟨k, s2, hk8, rfl, hgo, hls, hlk⟩ := hrel
    have HGO := Lib.hid hgo; have HLS := Lib.hid hls; have HLK := Lib.hid hlk
    clear hgo hls hlk
    have wk1 := IntWalk.i64_in ((k : Int) + 1) (by omega)
    by_cases hlt : k < 8
    · obtain ⟨q, hq⟩ := HA.out.get hlt
      have hix : ∀ W : World, (Instr.index 170 (.agg (ncells was).toArray) (.int .i64 (k : Int))).run Tryz.prog W = .ok (.agg (pcells q).toArray) W := fun W => run_ixT Tryz.underlying170 HA.out hq W
      have HQO := Lib.hid (HA.out.at hq)
      have HSQ := Lib.hid (size_pc HQO.out)
      have HLQ : Hid ((pcells q).toArray.size = 41) := Lib.hid (by rw [List.size_toArray, pcells_length HQO.out])
      have HGO2 : Hid (lostG was now (k + 1) (was.drop (k + 1)) (if lostC was now k q = true then oldS s2 q else s2) = r) := Lib.hid (by rw [← lostG_cons, ← drop_at hq]; exact HGO.out)
      have HK8 : Hid (k ≤ 8) := Lib.hid hk8
      clear hq HGO
      go_upto_region 4 with (first | (refine wpList_store_row rfl 28 (.tmp 7) (.tmp 12) rfl wr.heap.size (pcells q).toArray rfl rfl 28 _ (heap_alloc_new wr _) HSQ.out (by rw [HLQ.out]; rfl) (one_pc q) ?_) | fail)
      refine (fun (k : ∀ W, LqS L w D obj was now GM GA GB s2 q wr.heap.size W → Code.wp _ _ _ _ W) => k _ ⟨HLS.out.below (blk_row1 wr _ (pcells q) 28).2, (blk_row1 wr _ (pcells q) 28).1⟩) ?_
      intro X5 hX5
      obtain ⟨gq, hgq⟩ : ∃ g, wr.heap.size = g := ⟨_, rfl⟩
      rw [hgq] at hX5 ⊢
      have HX5 := Lib.hid hX5
      clear hX5 hgq HLS
      have hC1 : ∀ X, LqS L w D obj was now GM GA GB s2 q gq X → Calls Tryz.prog 94 #[.agg (pcells q).toArray] X fun e w' => e = .returned (.bool (eqP q zeroP)) ∧ Below X.heap.size X w' := fun X _ => trHole_any q HQO.out X
      have hC2 : ∀ X, LqS L w D obj was now GM GA GB s2 q gq X → Calls Tryz.prog 130 #[.slice (some ⟨GB, 0, none⟩) 8 8, .agg (pcells q).toArray] X fun e w' => e = .returned (.bool (isIn now q)) ∧ Below X.heap.size X w' := fun X hX => by
        have h1 := srcN_take HB.out hX.ls.b 8 (Nat.le_refl _)
        rw [List.take_of_length_le (by rw [HB.out.len]; omega)] at h1
        exact contains_any now _ q HQO.out HB.out.ok (by rw [HB.out.len]; omega) X h1
      have hC3 : ∀ X, LqS L w D obj was now GM GA GB s2 q gq X → Calls Tryz.prog 130 #[.slice (some ⟨GA, 0, none⟩) k 8, .agg (pcells q).toArray] X fun e w' => e = .returned (.bool (isIn (was.take k) q)) ∧ Below X.heap.size X w' := fun X hX =>
        contains_any (was.take k) _ q HQO.out (fun p hp => HA.out.ok p (List.mem_of_mem_take hp)) (by rw [List.length_take]; omega) X (srcN_take HA.out hX.ls.a k HK8.out)
      have hLC : lostC was now k q = (!eqP q zeroP && !isIn now q && !isIn (was.take k) q) := rfl
      obtain ⟨bA, hbA⟩ : ∃ b, eqP q zeroP = b := ⟨_, rfl⟩
      obtain ⟨bB, hbB⟩ : ∃ b, isIn now q = b := ⟨_, rfl⟩
      obtain ⟨bC, hbC⟩ : ∃ b, isIn (was.take k) q = b := ⟨_, rfl⟩
      rw [hbA, hbB, hbC] at hLC
      have HLC := Lib.hid hLC
      rw [hbA] at hC1
      rw [hbB] at hC2
      rw [hbC] at hC3
      clear hLC hbA hbB hbC
      cases bA
      · cases bB
        · cases bC
          · have hx0 : LqS L w D obj was now GM GA GB s2 q gq X5.drew := HX5.out.below (Below.refl _ _).drew
            refine gS (.take 0 (.step 1 (.take 2 (.take 3 (.take 4 (.take 5 (.step 6 (.take 7 (.take 8 (.take 9 (.take 10 (.take 11 (.take 12 (.step 13 (.take 14 (.take 15 (.nil))))))))))))))))) (LqS L w D obj was now GM GA GB s2 q gq) (hx0) ?_
            refine wpG_take _ (.agg (pcells q).toArray) rfl (by rfl) (fun X hX => ex_ldP HQO.out hX.q rfl rfl) ?_; try simp only [pS]
            refine wpG_says _ rfl (by rfl) 94 #[.agg (pcells q).toArray] (fun X => by go_simp) LqS.stable hx0 (.bool false) (hC1 _ hx0) ?_
            intro Y1 hx1; try simp only [pS]
            refine gT (.bool true) ?_; try simp only [pS]
            refine gT (.bool true) ?_; try simp only [pS]
            refine wpG_take _ (.slice (some ⟨GB, 0, none⟩) 8 8) rfl (by rfl) (fun X hX => ex_slN8 rfl rfl) ?_; try simp only [pS]
            refine wpG_take _ (.agg (pcells q).toArray) rfl (by rfl) (fun X hX => ex_ldP HQO.out hX.q rfl rfl) ?_; try simp only [pS]
            refine wpG_says _ rfl (by rfl) 130 #[.slice (some ⟨GB, 0, none⟩) 8 8, .agg (pcells q).toArray] (fun X => by go_simp) LqS.stable hx1 (.bool false) (hC2 _ hx1) ?_
            intro Y2 hx2; try simp only [pS]
            refine gT (.bool true) ?_; try simp only [pS]
            refine gT (.bool true) ?_; try simp only [pS]
            refine gT (.bool true) ?_; try simp only [pS]
            refine gT (.int .i64 (k : Int)) ?_; try simp only [pS]
            refine wpG_take _ (.slice (some ⟨GA, 0, none⟩) k 8) rfl (by rfl) (fun X hX => ex_slNk HK8.out rfl rfl rfl) ?_; try simp only [pS]
            refine wpG_take _ (.agg (pcells q).toArray) rfl (by rfl) (fun X hX => ex_ldP HQO.out hX.q rfl rfl) ?_; try simp only [pS]
            refine wpG_says _ rfl (by rfl) 130 #[.slice (some ⟨GA, 0, none⟩) k 8, .agg (pcells q).toArray] (fun X => by go_simp) LqS.stable hx2 (.bool false) (hC3 _ hx2) ?_
            intro Y3 hx3; try simp only [pS]
            refine gT (.bool true) ?_; try simp only [pS]
            refine gT (.bool true) ?_; try simp only [pS]
            refine wpG_nil ?_
            have HX6 := Lib.hid hx3
            rw [HLC.out] at HGO2
            have HGO3 : Hid (lostG was now (k + 1) (was.drop (k + 1)) (oldS s2 q) = r) := Lib.hid (by have h1 := HGO2.out; rw [if_pos (by rfl)] at h1; exact h1)
            clear HX5 hC1 hC2 hC3 HGO2 HLC
            obtain ⟨⟨⟨L6, v6, e1, e2, e3⟩, e4, e5, e6⟩, e7⟩ := HX6.out
            have HOC := Lib.hid (shOld_any q HQO.out e1 (by have := HLK.out.gn; have := HM.out; omega))
            have HMV : Hid (∀ Y, ShPost 5 L6 Y3 D (oldS s2 q) Y → LsS L w D obj was now GM GA GB (oldS s2 q) Y) := Lib.hid (fun Y hY => HX6.out.ls.moved e2 e3 hY)
            have c0 : Y3.cell? ⟨GM, 0, none⟩ = some (.iface 45 (.pointer (some ⟨D, 0, none⟩))) := e4.cell rfl
            clear e1 e2 e3 e4 e5 e6 e7 hx0 hx1 hx2 hx3
            go_wp2_with (first | (refine wpL_val rfl (ex_ldP HQO.out HX6.out.q rfl rfl) ?_) | fail)
            refine HOC.out.mono ?_
            rintro e X8 ⟨rfl, hp8⟩
            have HL8 := Lib.hid (HMV.out X8 hp8)
            clear hp8 HOC HMV HX6 c0
            go_wp2_with fail
            go_roundw
            case rel => exact ⟨k + 1, oldS s2 q, by omega, by go_num, HGO3.out, HL8.out, HLK.out.oldS (by have := HM.out; omega)⟩
            case measure => simp [intOf]; omega
          · have hx0 : LqS L w D obj was now GM GA GB s2 q gq X5.drew := HX5.out.below (Below.refl _ _).drew
            refine gS (.take 0 (.step 1 (.take 2 (.take 3 (.take 4 (.take 5 (.step 6 (.take 7 (.take 8 (.take 9 (.take 10 (.take 11 (.take 12 (.step 13 (.take 14 (.take 15 (.nil))))))))))))))))) (LqS L w D obj was now GM GA GB s2 q gq) (hx0) ?_
            refine wpG_take _ (.agg (pcells q).toArray) rfl (by rfl) (fun X hX => ex_ldP HQO.out hX.q rfl rfl) ?_; try simp only [pS]
            refine wpG_says _ rfl (by rfl) 94 #[.agg (pcells q).toArray] (fun X => by go_simp) LqS.stable hx0 (.bool false) (hC1 _ hx0) ?_
            intro Y1 hx1; try simp only [pS]
            refine gT (.bool true) ?_; try simp only [pS]
            refine gT (.bool true) ?_; try simp only [pS]
            refine wpG_take _ (.slice (some ⟨GB, 0, none⟩) 8 8) rfl (by rfl) (fun X hX => ex_slN8 rfl rfl) ?_; try simp only [pS]
            refine wpG_take _ (.agg (pcells q).toArray) rfl (by rfl) (fun X hX => ex_ldP HQO.out hX.q rfl rfl) ?_; try simp only [pS]
            refine wpG_says _ rfl (by rfl) 130 #[.slice (some ⟨GB, 0, none⟩) 8 8, .agg (pcells q).toArray] (fun X => by go_simp) LqS.stable hx1 (.bool false) (hC2 _ hx1) ?_
            intro Y2 hx2; try simp only [pS]
            refine gT (.bool true) ?_; try simp only [pS]
            refine gT (.bool true) ?_; try simp only [pS]
            refine gT (.bool true) ?_; try simp only [pS]
            refine gT (.int .i64 (k : Int)) ?_; try simp only [pS]
            refine wpG_take _ (.slice (some ⟨GA, 0, none⟩) k 8) rfl (by rfl) (fun X hX => ex_slNk HK8.out rfl rfl rfl) ?_; try simp only [pS]
            refine wpG_take _ (.agg (pcells q).toArray) rfl (by rfl) (fun X hX => ex_ldP HQO.out hX.q rfl rfl) ?_; try simp only [pS]
            refine wpG_says _ rfl (by rfl) 130 #[.slice (some ⟨GA, 0, none⟩) k 8, .agg (pcells q).toArray] (fun X => by go_simp) LqS.stable hx2 (.bool true) (hC3 _ hx2) ?_
            intro Y3 hx3; try simp only [pS]
            refine gT (.bool false) ?_; try simp only [pS]
            refine gT (.bool false) ?_; try simp only [pS]
            refine wpG_nil ?_
            have HX6 := Lib.hid hx3
            rw [HLC.out] at HGO2
            have HGO3 : Hid (lostG was now (k + 1) (was.drop (k + 1)) s2 = r) := Lib.hid (by have h1 := HGO2.out; rw [if_neg (by simp)] at h1; exact h1)
            clear HX5 hC1 hC2 hC3 HGO2 HLC hx0 hx1 hx2 hx3
            go_wp2_with fail
            go_roundw
            case rel => exact ⟨k + 1, s2, by omega, by go_num, HGO3.out, HX6.out.ls, HLK.out.mono (by omega) (by have := HM.out; omega)⟩
            case measure => simp [intOf]; omega
        · have hx0 : LqS L w D obj was now GM GA GB s2 q gq X5.drew := HX5.out.below (Below.refl _ _).drew
          refine gS (.take 0 (.step 1 (.take 2 (.take 3 (.take 4 (.take 5 (.step 6 (.take 7 (.take 8 (.take 9 (.take 10 (.take 11 (.take 12 (.step 13 (.take 14 (.take 15 (.nil))))))))))))))))) (LqS L w D obj was now GM GA GB s2 q gq) (hx0) ?_
          refine wpG_take _ (.agg (pcells q).toArray) rfl (by rfl) (fun X hX => ex_ldP HQO.out hX.q rfl rfl) ?_; try simp only [pS]
          refine wpG_says _ rfl (by rfl) 94 #[.agg (pcells q).toArray] (fun X => by go_simp) LqS.stable hx0 (.bool false) (hC1 _ hx0) ?_
          intro Y1 hx1; try simp only [pS]
          refine gT (.bool true) ?_; try simp only [pS]
          refine gT (.bool true) ?_; try simp only [pS]
          refine wpG_take _ (.slice (some ⟨GB, 0, none⟩) 8 8) rfl (by rfl) (fun X hX => ex_slN8 rfl rfl) ?_; try simp only [pS]
          refine wpG_take _ (.agg (pcells q).toArray) rfl (by rfl) (fun X hX => ex_ldP HQO.out hX.q rfl rfl) ?_; try simp only [pS]
          refine wpG_says _ rfl (by rfl) 130 #[.slice (some ⟨GB, 0, none⟩) 8 8, .agg (pcells q).toArray] (fun X => by go_simp) LqS.stable hx1 (.bool true) (hC2 _ hx1) ?_
          intro Y2 hx2; try simp only [pS]
          refine gT (.bool false) ?_; try simp only [pS]
          refine gT (.bool false) ?_; try simp only [pS]
          refine gT (.bool false) ?_; try simp only [pS]
          refine wpG_pass _ rfl (by rfl) ?_; try simp only [pS]
          refine wpG_pass _ rfl (by rfl) ?_; try simp only [pS]
          refine wpG_pass _ rfl (by rfl) ?_; try simp only [pS]
          refine wpG_skip _ rfl (by rfl) hx2 ?_; try simp only [pS]
          refine wpG_pass _ rfl (by rfl) ?_; try simp only [pS]
          refine gT (.bool false) ?_; try simp only [pS]
          refine wpG_nil ?_
          have HX6 := Lib.hid hx2
          rw [HLC.out] at HGO2
          have HGO3 : Hid (lostG was now (k + 1) (was.drop (k + 1)) s2 = r) := Lib.hid (by have h1 := HGO2.out; rw [if_neg (by simp)] at h1; exact h1)
          clear HX5 hC1 hC2 hC3 HGO2 HLC hx0 hx1 hx2
          go_wp2_with fail
          go_roundw
          case rel => exact ⟨k + 1, s2, by omega, by go_num, HGO3.out, HX6.out.ls, HLK.out.mono (by omega) (by have := HM.out; omega)⟩
          case measure => simp [intOf]; omega
      · have hx0 : LqS L w D obj was now GM GA GB s2 q gq X5.drew := HX5.out.below (Below.refl _ _).drew
        refine gS (.take 0 (.step 1 (.take 2 (.take 3 (.take 4 (.take 5 (.step 6 (.take 7 (.take 8 (.take 9 (.take 10 (.take 11 (.take 12 (.step 13 (.take 14 (.take 15 (.nil))))))))))))))))) (LqS L w D obj was now GM GA GB s2 q gq) (hx0) ?_
        refine wpG_take _ (.agg (pcells q).toArray) rfl (by rfl) (fun X hX => ex_ldP HQO.out hX.q rfl rfl) ?_; try simp only [pS]
        refine wpG_says _ rfl (by rfl) 94 #[.agg (pcells q).toArray] (fun X => by go_simp) LqS.stable hx0 (.bool true) (hC1 _ hx0) ?_
        intro Y1 hx1; try simp only [pS]
        refine gT (.bool false) ?_; try simp only [pS]
        refine gT (.bool false) ?_; try simp only [pS]
        refine wpG_pass _ rfl (by rfl) ?_; try simp only [pS]
        refine wpG_pass _ rfl (by rfl) ?_; try simp only [pS]
        refine wpG_skip _ rfl (by rfl) hx1 ?_; try simp only [pS]
        refine wpG_pass _ rfl (by rfl) ?_; try simp only [pS]
        refine gT (.bool false) ?_; try simp only [pS]
        refine gT (.bool false) ?_; try simp only [pS]
        refine wpG_pass _ rfl (by rfl) ?_; try simp only [pS]
        refine wpG_pass _ rfl (by rfl) ?_; try simp only [pS]
        refine wpG_pass _ rfl (by rfl) ?_; try simp only [pS]
        refine wpG_skip _ rfl (by rfl) hx1 ?_; try simp only [pS]
        refine wpG_pass _ rfl (by rfl) ?_; try simp only [pS]
        refine gT (.bool false) ?_; try simp only [pS]
        refine wpG_nil ?_
        have HX6 := Lib.hid hx1
        rw [HLC.out] at HGO2
        have HGO3 : Hid (lostG was now (k + 1) (was.drop (k + 1)) s2 = r) := Lib.hid (by have h1 := HGO2.out; rw [if_neg (by simp)] at h1; exact h1)
        clear HX5 hC1 hC2 hC3 HGO2 HLC hx0 hx1
        go_wp2_with fail
        go_roundw
        case rel => exact ⟨k + 1, s2, by omega, by go_num, HGO3.out, HX6.out.ls, HLK.out.mono (by omega) (by have := HM.out; omega)⟩
        case measure => simp [intOf]; omega
    · obtain rfl : k = 8 := by omega
      have hgo := HGO.out
      rw [List.drop_of_length_le (by rw [HA.out.len]; omega)] at hgo
      have hgo : s2 = r := hgo
      obtain rfl := hgo
      obtain ⟨⟨L1, v1, h1, h2, -⟩, -⟩ := HLS.out
      have HE := Lib.hid (HP.out wr ⟨L1, v1, h1, h2⟩ HLK.out)
      clear h1 h2 hlt hk8 HGO
      rw [show ((8 : Nat) : Int) = (8 : Int) from rfl]
      go_wp2_with fail
      go_end0
      exact HE.out
theorem sizeMk : (Tryz.prog.info? 145).map (·.size) = some 2 := by kernel_rfl
theorem ex_ldMk {ρ : Operand → Value} {o : Oper} {x : Operand} {w : World} {D obj g : Nat} {t' : TypeId} (hB : Blk w g (mcells D obj) t') (ho : o.op = .load 145 x) (hx : ρ x = .pointer (some ⟨g, 0, none⟩)) : (execOp ρ o).run Tryz.prog w = .ok (.value (.agg (mcells D obj).toArray)) w :=
  ex_ld (ty := 145) (cs := mcells D obj) ho hx (rng_all hB) Tryz.underlying145 rfl (by rw [sizeMk]; rfl)
structure OlS (L : Nat → Nat) (w : World) (D obj : Nat) (p : Pt) (was now : List Pt) (G : Nat) (s : Sh) (X : World) : Prop where
  sh : ∃ L1 v1, ShAt X L1 D s v1 ∧ Mv 5 L w L1 X ∧ L1 G = 0 ∧ L1 (G + 1) = 0
  mb : Blk X G (mcells D obj) 145
  p : Blk X (G + 1) (pcells p) 28
theorem OlS.below {L : Nat → Nat} {w : World} {D obj : Nat} {p : Pt} {was now : List Pt} {G : Nat} {s : Sh} {X Y : World} (h : OlS L w D obj p was now G s X) (hb : Below X.heap.size X Y) : OlS L w D obj p was now G s Y := by
  obtain ⟨⟨L1, v1, h1, h2, h3⟩, k1, k2⟩ := h
  exact ⟨⟨L1, v1, h1.below hb, h2.trans (Mv.of_below hb h1.lt), h3⟩, k1.below hb k1.lt, k2.below hb k2.lt⟩
theorem OlS.moved {L L1 : Nat → Nat} {w : World} {D obj : Nat} {p : Pt} {was now : List Pt} {G : Nat} {s s' : Sh} {X Y : World} (h : OlS L w D obj p was now G s X) (hm : Mv 5 L w L1 X) (hl : L1 G = 0 ∧ L1 (G + 1) = 0) (hp : ShPost 5 L1 X D s' Y) : OlS L w D obj p was now G s' Y := by
  obtain ⟨L2, v2, k1, k2⟩ := hp
  exact ⟨⟨L2, v2, k1, hm.trans k2, (k2.old _ h.mb.lt).trans hl.1, (k2.old _ h.p.lt).trans hl.2⟩, k2.blk h.mb hl.1, k2.blk h.p hl.2⟩
theorem OlS.post {L : Nat → Nat} {w : World} {D obj : Nat} {p : Pt} {was now : List Pt} {G : Nat} {s : Sh} {X : World} (h : OlS L w D obj p was now G s X) : ShPost 5 L w D s X := by
  obtain ⟨⟨L1, v1, h1, h2, h3⟩, k1, k2⟩ := h
  exact ⟨L1, v1, h1, h2⟩
set_option maxRecDepth 100000 in
set_option maxHeartbeats 8000000 in
theorem trOld_any {w : World} {L : Nat → Nat} {D : Nat} {s : Sh} {v : Sv} {m : Nat} (obj : Nat) (p : Pt) (hp : p.OK) (lv : Nat) (was now : List Pt) (hwas : NOK was) (hnow : NOK now) (h : ShAt w L D s v) (hk : Lim m s) (hm : m + 9 < 100000000) :
    Calls Tryz.prog 98 #[.agg (mcells D obj).toArray, .agg (pcells p).toArray, .int .u8 (lv : Int), .agg (ncells was).toArray, .agg (ncells now).toArray] w (LsPost L w D (oldN s p lv was now) (m + 9)) := by
  have HPO := Lib.hid hp
  have HA := Lib.hid hwas; have HB := Lib.hid hnow
  have hw1 : Below w.heap.size w ((((w.alloc (.cells (mcells D obj).toArray 145)).alloc (.cells (pcells p).toArray 28)).alloc (.cells (ncells was).toArray 170)).alloc (.cells (ncells now).toArray 170)) := ((((Below.refl _ _).alloc (Nat.le_refl _) _).alloc (by simp) _).alloc (by simp; omega) _).alloc (by simp; omega) _
  have HX : Hid (OlS L w D obj p was now w.heap.size s ((((w.alloc (.cells (mcells D obj).toArray 145)).alloc (.cells (pcells p).toArray 28)).alloc (.cells (ncells was).toArray 170)).alloc (.cells (ncells now).toArray 170)) ∧ Blk ((((w.alloc (.cells (mcells D obj).toArray 145)).alloc (.cells (pcells p).toArray 28)).alloc (.cells (ncells was).toArray 170)).alloc (.cells (ncells now).toArray 170)) (w.heap.size + 1 + 1) (ncells was) 170 ∧ Blk ((((w.alloc (.cells (mcells D obj).toArray 145)).alloc (.cells (pcells p).toArray 28)).alloc (.cells (ncells was).toArray 170)).alloc (.cells (ncells now).toArray 170)) (w.heap.size + 1 + 1 + 1) (ncells now) 170) := Lib.hid
    ⟨⟨⟨L, v, h.below hw1, Mv.of_below hw1 h.lt, h.not (Nat.le_refl _), h.not (by omega)⟩, (((Blk.new _ _ _).alloc _).alloc _).alloc _, ((Blk.new' _ _ _ _ _ (by simp) rfl).alloc _).alloc _⟩, (Blk.new' _ _ _ _ _ (by simp) rfl).alloc _, Blk.new' _ _ _ _ _ (by simp) rfl⟩
  have HK := Lib.hid hk; have HM := Lib.hid hm
  obtain ⟨r, hr⟩ : ∃ r, oldN s p lv was now = r := ⟨_, rfl⟩
  have HR := Lib.hid hr
  rw [hr]
  generalize hPost : LsPost L w D r (m + 9) = Post
  have HP : Hid (∀ w', ShPost 5 L w D r w' → Lim (m + 9) r → Post (.returned (.tuple #[])) w') := Lib.hid fun w' h2 h3 => by rw [← hPost]; exact ⟨rfl, h2, h3⟩
  clear hp hwas hnow h hk hm hr hPost hw1
  -- behind lost, or not
  have HREST : Hid (∀ s2 X, r = (if eqP p zeroP = true then s2 else oldS s2 p) → OlS L w D obj p was now w.heap.size s2 X → Lim (m + 8) s2 → (eqP p zeroP = true → Post (.returned (.tuple #[])) X) ∧ (eqP p zeroP = false → ∃ L1, Mv 5 L w L1 X ∧ L1 w.heap.size = 0 ∧ Calls Tryz.prog 151 #[.pointer (some ⟨D, 0, none⟩), .agg (pcells p).toArray] X fun e w' => e = .returned (.tuple #[]) ∧ Post (.returned (.tuple #[])) w')) := Lib.hid (by
    intro s2 X hr2 hX hl
    refine ⟨fun hz => HP.out X (by rw [hr2, if_pos hz]; exact hX.post) (by rw [hr2, if_pos hz]; exact hl.mono (by omega) HM.out), fun hz => ?_⟩
    obtain ⟨⟨L1, v1, h1, h2, h3⟩, k1, k2⟩ := hX
    refine ⟨L1, h2, h3.1, (shOld_any p HPO.out h1 (by have := hl.gn; have := HM.out; omega)).mono ?_⟩
    rintro e w' ⟨rfl, hp⟩
    refine ⟨rfl, HP.out w' ?_ ?_⟩
    · rw [hr2, if_neg (by rw [hz]; decide)]
      exact ShPost.mv h2 hp
    · rw [hr2, if_neg (by rw [hz]; decide)]
      exact hl.oldS HM.out)
  clear HP
  go_enter Tryz.func98, Tryz.ntmps98
  go_upto_region 1 with fail
  refine (fun (k : ∀ W, (OlS L w D obj p was now w.heap.size s W ∧ Blk W (w.heap.size + 1 + 1) (ncells was) 170 ∧ Blk W (w.heap.size + 1 + 1 + 1) (ncells now) 170) → Code.wp _ _ _ _ W) => k _ HX.out) ?_
  intro W hW
  obtain ⟨G, hG⟩ : ∃ g, w.heap.size = g := ⟨_, rfl⟩
  rw [hG] at hW HREST ⊢
  have HX1 := Lib.hid hW.1; have HBA := Lib.hid hW.2.1; have HBB := Lib.hid hW.2.2
  clear hW HX hG
  have HTAIL : Hid (∀ s2 X, r = (if eqP p zeroP = true then s2 else oldS s2 p) → OlS L w D obj p was now G s2 X → Lim (m + 8) s2 → True) := Lib.hid (fun _ _ _ _ _ => trivial)
  by_cases h1 : lv = 1
  · subst h1
    have HR2 : Hid (r = (if eqP p zeroP = true then lostS s was now else oldS (lostS s was now) p)) := Lib.hid (by rw [← HR.out]; unfold oldN; rfl)
    obtain ⟨⟨L1, v1, e1, e2, e3⟩, e4, e5⟩ := HX1.out
    have HLO := Lib.hid (trLost_any obj was now HA.out HB.out e1 HK.out (by have := HM.out; omega))
    have HMV : Hid (∀ Y, ShPost 5 L1 W D (lostS s was now) Y → OlS L w D obj p was now G (lostS s was now) Y) := Lib.hid (fun Y hY => HX1.out.moved e2 e3 hY)
    clear e1 e2 e3 e4 e5 HR HTAIL
    go_wp2_with (first | (refine wpL_val rfl (ex_ldMk HX1.out.mb rfl rfl) ?_) | (refine wpL_val rfl (ex_ldN HA.out HBA.out rfl rfl) ?_) | (refine wpL_val rfl (ex_ldN HB.out HBB.out rfl rfl) ?_) | fail)
    refine HLO.out.mono ?_
    rintro e X2 ⟨rfl, hp2, hl2⟩
    have HX2 := Lib.hid (HMV.out X2 hp2)
    have HL2 := Lib.hid hl2
    clear hp2 hl2 HLO HMV HX1 HBA HBB
    go_wp2_with (first | (refine wpL_val rfl (ex_ldP HPO.out HX2.out.p rfl rfl) ?_) | fail)
    refine (trHole_any p HPO.out X2).mono ?_
    rintro e X3 ⟨rfl, hb3⟩
    have HX3 := Lib.hid (HX2.out.below hb3)
    have HT := HREST.out _ X3 HR2.out HX3.out HL2.out
    clear hb3 HX2
    cases hz : eqP p zeroP
    · obtain ⟨L3, e1, e2, hc⟩ := HT.2 hz
      have HC := Lib.hid hc
      have c0 : X3.cell? ⟨G, 0, none⟩ = some (.iface 45 (.pointer (some ⟨D, 0, none⟩))) := HX3.out.mb.cell rfl
      clear HT e1 e2 hc
      go_wp2_with (first | (refine wpL_val rfl (ex_ldP HPO.out HX3.out.p rfl rfl) ?_) | fail)
      refine HC.out.mono ?_
      rintro e X4 ⟨rfl, hpost⟩
      have HE := Lib.hid hpost
      clear hpost c0 HX3 HC
      go_wp2_with fail
      first | exact HE.out | (go_end0; exact HE.out)
    · have HE := Lib.hid (HT.1 hz)
      clear HT
      go_wp2_with fail
      first | exact HE.out | (go_end0; exact HE.out)
  · have HR2 : Hid (r = (if eqP p zeroP = true then s else oldS s p)) := Lib.hid (by rw [← HR.out]; unfold oldN; rw [if_neg h1])
    have h1' : ((lv : Int) == 1) = false := by simp; omega
    clear HR HTAIL h1
    go_wp2_with (first | (refine wpL_val rfl (ex_ldP HPO.out HX1.out.p rfl rfl) ?_) | fail)
    refine (trHole_any p HPO.out W).mono ?_
    rintro e X3 ⟨rfl, hb3⟩
    have HX3 := Lib.hid (HX1.out.below hb3)
    have HT := HREST.out _ X3 HR2.out HX3.out (HK.out.mono (by omega) (by have := HM.out; omega))
    clear hb3 HX1
    cases hz : eqP p zeroP
    · obtain ⟨L3, e1, e2, hc⟩ := HT.2 hz
      have HC := Lib.hid hc
      have c0 : X3.cell? ⟨G, 0, none⟩ = some (.iface 45 (.pointer (some ⟨D, 0, none⟩))) := HX3.out.mb.cell rfl
      clear HT e1 e2 hc
      go_wp2_with (first | (refine wpL_val rfl (ex_ldP HPO.out HX3.out.p rfl rfl) ?_) | fail)
      refine HC.out.mono ?_
      rintro e X4 ⟨rfl, hpost⟩
      have HE := Lib.hid hpost
      clear hpost c0 HX3 HC
      go_wp2_with fail
      first | exact HE.out | (go_end0; exact HE.out)
    · have HE := Lib.hid (HT.1 hz)
      clear HT
      go_wp2_with fail
      first | exact HE.out | (go_end0; exact HE.out)
end Go.Proofs.YtjgjohdeeeoeoaaGreatDoor
