/- Regions that draw and make memory: what a condition on worlds keeps; calls and appends that hand new bytes back. -/
import Derived.Test.YtfcjeceoedfldaaDoorM04
import Derived.Test.YtfcjeceoedfldaaDoorM22
namespace Go.Proofs.YtfcjeceoedfldaaDoor
open Go.RowKit

/-- What stays where only new memory is written. -/
def Stable (S : World → Prop) : Prop := ∀ w w', S w → Below w.heap.size w w' → S w'
def Plus (S : World → Prop) (sp : Option Addr) (l : List (BitVec 8)) (w : World) : Prop := S w ∧ SrcA w sp l
theorem Stable.plus {S : World → Prop} (h : Stable S) (sp : Option Addr) (l : List (BitVec 8)) : Stable (Plus S sp l) := fun w w' hS hb => ⟨h w w' hS.1 hb, hS.2.grown hb⟩
/-- The world as it was at the start, and bytes that lie there. -/
def SL (w0 : World) (sp : Option Addr) (l : List (BitVec 8)) (w : World) : Prop := SrcA w sp l ∧ Below w0.heap.size w0 w
theorem SL.stable (w0 : World) (sp : Option Addr) (l : List (BitVec 8)) : Stable (SL w0 sp l) := fun _ _ hS hb => ⟨hS.1.grown hb, hS.2.trans (hb.mono hS.2.size)⟩
section
variable {ops : Array Oper} {Q : Exit → Act → World → Prop} {S : World → Prop}
/-- A call that only says something, or leaves new memory. -/
theorem wpG_says {i : Nat} {r : Tr} {a : Act} {w : World} (o : Oper) (hi : ops.toList[i]? = some o) (hw : Region.wanted o (yielded ops a.tmps) = true) (f : FuncId) (args : Array Value) (hrun : ∀ w, (execOp a.eval o).run Tryd.prog w = .ok (.enter f args) w)
    (hst : Stable S) (hS : S w) (v : Value) (hc : Calls Tryd.prog f args w fun e w' => e = .returned v ∧ Below w.heap.size w w')
    (h : ∀ w', S w' → wpG Tryd.prog ops Q r S (a.put o.dst v) w') : wpG Tryd.prog ops Q (.step i r) S a w :=
  wpG_call o hi hw f args hrun (fun u _ => u = v) (hc.mono fun _ w' ⟨e1, hb⟩ => ⟨v, e1, hst _ _ hS hb, rfl⟩) fun u w' hS' hu => by
    subst hu
    exact ⟨S, fun _ h => h, hS', h w' hS'⟩
end
section
variable {ops : Array Oper} {Q : Exit → Act → World → Prop}
end
end Go.Proofs.YtfcjeceoedfldaaDoor
/- The tree's lost, old. -/
namespace Go.Proofs.YtfcjeceoedfldaaDoor
open Go.RowKit

attribute [local go_sem] Oper.semAt_some

def isIn (l : List Pt) (p : Pt) : Bool := l.any (fun q => eqP p q)
def lostC (was now : List Pt) (i : Nat) (p : Pt) : Bool := !eqP p zeroP && !isIn now p && !isIn (was.take i) p
def lostG (was now : List Pt) : Nat → List Pt → Sh → Sh
  | _, [], s => s
  | i, p :: ps, s => lostG was now (i + 1) ps (if lostC was now i p = true then oldS s p else s)
def lostS (s : Sh) (was now : List Pt) : Sh := lostG was now 0 was s
/-- Old: what a node that turns leaves behind. -/
def oldN (s : Sh) (p : Pt) (lv : Nat) (was now : List Pt) : Sh := if eqP p zeroP = true then (if lv = 1 then lostS s was now else s) else oldS (if lv = 1 then lostS s was now else s) p
def mcells (D obj : Nat) : List Value := [shI D, .int .u16 (obj : Int)]
/-- What stands in lost. -/
structure LsS (L : Nat → Nat) (w : World) (D obj : Nat) (was now : List Pt) (GM GA GB : Nat) (s : Sh) (X : World) : Prop where
  sh : ∃ L1 v1, ShAt X L1 D s v1 ∧ Mv 5 L w L1 X ∧ L1 GM = 0 ∧ L1 GA = 0 ∧ L1 GB = 0
  mb : Blk X GM (mcells D obj) 63
  a : Blk X GA (ncells was) 73
  b : Blk X GB (ncells now) 73
theorem LsS.below {L : Nat → Nat} {w : World} {D obj : Nat} {was now : List Pt} {GM GA GB : Nat} {s : Sh} {X Y : World} (h : LsS L w D obj was now GM GA GB s X) (hb : Below X.heap.size X Y) : LsS L w D obj was now GM GA GB s Y := by
  obtain ⟨⟨L1, v1, h1, h2, h3⟩, k1, k2, k3⟩ := h
  exact ⟨⟨L1, v1, h1.below hb, h2.trans (Mv.of_below hb h1.lt), h3⟩, k1.below hb k1.lt, k2.below hb k2.lt, k3.below hb k3.lt⟩
theorem LsS.moved {L L1 : Nat → Nat} {w : World} {D obj : Nat} {was now : List Pt} {GM GA GB : Nat} {s s' : Sh} {X Y : World} (h : LsS L w D obj was now GM GA GB s X) (hm : Mv 5 L w L1 X) (hl : L1 GM = 0 ∧ L1 GA = 0 ∧ L1 GB = 0) (hp : ShPost 5 L1 X D s' Y) : LsS L w D obj was now GM GA GB s' Y := by
  obtain ⟨L2, v2, k1, k2⟩ := hp
  exact ⟨⟨L2, v2, k1, hm.trans k2, (k2.old _ h.mb.lt).trans hl.1, (k2.old _ h.a.lt).trans hl.2.1, (k2.old _ h.b.lt).trans hl.2.2⟩, k2.blk h.mb hl.1, k2.blk h.a hl.2.1, k2.blk h.b hl.2.2⟩
theorem srcN_take {W : World} {g : Nat} {ns : List Pt} {t : TypeId} (hn : NOK ns) (h : Blk W g (ncells ns) t) (k : Nat) (hk : k ≤ 8) : SrcM W (.slice (some ⟨g, 0, none⟩) k 8) (ns.take k) := by
  have hl : (ns.take k).length = k := by rw [List.length_take, hn.len, Nat.min_eq_left hk]
  refine ⟨some ⟨g, 0, none⟩, 8, by rw [hl], by rw [hl]; exact hk, by unfold maxLen; omega, (fun e => by cases e), fun _ => ⟨g, rfl, h.lt, fun i q hq => ?_⟩⟩
  rw [List.getElem?_take] at hq
  split at hq
  · have := rng_elem hn h hq
    rw [Nat.mul_comm] at this
    exact this
  · cases hq
section
variable {ρ : Operand → Value} {o : Oper} {x y : Operand} {w : World}
theorem ex_slN8 {b : Nat} (ho : o.op = .slice 73 x none none none) (hx : ρ x = .pointer (some ⟨b, 0, none⟩)) : (execOp ρ o).run Tryd.prog w = .ok (.value (.slice (some ⟨b, 0, none⟩) 8 8)) w := by
  unfold execOp
  simp only [ho]
  go_simp
theorem ex_slNk {b k : Nat} (hk : k ≤ 8) (ho : o.op = .slice 73 x none (some y) none) (hx : ρ x = .pointer (some ⟨b, 0, none⟩)) (hy : ρ y = .int .i64 (k : Int)) : (execOp ρ o).run Tryd.prog w = .ok (.value (.slice (some ⟨b, 0, none⟩) k 8)) w := by
  have h1 : ¬ (8 < k) := by omega
  have h2 : (k : Int) ≤ 8 := by omega
  have h3 : (0 : Int) ≤ (k : Int) := by omega
  unfold execOp
  simp only [ho]
  go_simp
end
structure LqS (L : Nat → Nat) (w : World) (D obj : Nat) (was now : List Pt) (GM GA GB : Nat) (s : Sh) (q : Pt) (gq : Nat) (X : World) : Prop where
  ls : LsS L w D obj was now GM GA GB s X
  q : Blk X gq (pcells q) 37
theorem LqS.below {L : Nat → Nat} {w : World} {D obj : Nat} {was now : List Pt} {GM GA GB : Nat} {s : Sh} {q : Pt} {gq : Nat} {X Y : World} (h : LqS L w D obj was now GM GA GB s q gq X) (hb : Below X.heap.size X Y) : LqS L w D obj was now GM GA GB s q gq Y := ⟨h.ls.below hb, h.q.below hb h.q.lt⟩
theorem LqS.stable {L : Nat → Nat} {w : World} {D obj : Nat} {was now : List Pt} {GM GA GB : Nat} {s : Sh} {q : Pt} {gq : Nat} : Stable (LqS L w D obj was now GM GA GB s q gq) := fun _ _ h hb => h.below hb
def LsPost (L : Nat → Nat) (w : World) (D : Nat) (s' : Sh) (m : Nat) (e : Ending) (w' : World) : Prop := e = .returned (.tuple #[]) ∧ ShPost 5 L w D s' w' ∧ Lim m s'
theorem Lim.oldS {m : Nat} {s : Sh} {p : Pt} (h : Lim m s) (hm : m + 1 < 1000000) : Lim (m + 1) (oldS s p) := ⟨Nat.le_trans h.rd (by omega), Nat.le_trans h.md (by omega), by have := h.gn; simp [Go.Proofs.YtfcjeceoedfldaaDoor.oldS]; omega, hm, h.bl, h.bd, h.rm⟩
theorem lostG_cons (was now : List Pt) (i : Nat) (p : Pt) (ps : List Pt) (s : Sh) : lostG was now i (p :: ps) s = lostG was now (i + 1) ps (if lostC was now i p = true then oldS s p else s) := rfl
set_option maxRecDepth 100000 in
set_option maxHeartbeats 16000000 in
theorem trLost_any {w : World} {L : Nat → Nat} {D : Nat} {s : Sh} {v : Sv} {m : Nat} (obj : Nat) (was now : List Pt) (hwas : NOK was) (hnow : NOK now) (h : ShAt w L D s v) (hk : Lim m s) (hm : m + 8 < 1000000) :
    Calls Tryd.prog 31 #[.agg (mcells D obj).toArray, .agg (ncells was).toArray, .agg (ncells now).toArray] w (LsPost L w D (lostS s was now) (m + 8)) := by
  have HA := Lib.hid hwas; have HB := Lib.hid hnow
  have hw1 : Below w.heap.size w (((w.alloc (.cells (mcells D obj).toArray 63)).alloc (.cells (ncells was).toArray 73)).alloc (.cells (ncells now).toArray 73)) := (((Below.refl _ _).alloc (Nat.le_refl _) _).alloc (by simp) _).alloc (by simp; omega) _
  have HX : Hid (LsS L w D obj was now w.heap.size (w.heap.size + 1) (w.heap.size + 1 + 1) s (((w.alloc (.cells (mcells D obj).toArray 63)).alloc (.cells (ncells was).toArray 73)).alloc (.cells (ncells now).toArray 73))) := Lib.hid
    ⟨⟨L, v, h.below hw1, Mv.of_below hw1 h.lt, h.not (Nat.le_refl _), h.not (by omega), h.not (by omega)⟩, ((Blk.new _ _ _).alloc _).alloc _, (Blk.new' _ _ _ _ _ (by simp) rfl).alloc _, Blk.new' _ _ _ _ _ (by simp) rfl⟩
  have HK := Lib.hid hk; have HM := Lib.hid hm
  obtain ⟨r, hr⟩ : ∃ r, lostS s was now = r := ⟨_, rfl⟩
  have HR : Hid (lostG was now 0 was s = r) := Lib.hid hr
  rw [hr]
  generalize hPost : LsPost L w D r (m + 8) = Post
  have HP : Hid (∀ w', ShPost 5 L w D r w' → Lim (m + 8) r → Post (.returned (.tuple #[])) w') := Lib.hid fun w' h2 h3 => by rw [← hPost]; exact ⟨rfl, h2, h3⟩
  clear hwas hnow h hk hm hr hPost hw1
  go_enter Tryd.func31, Tryd.ntmps31
  go_upto_region 1 with fail
  refine (fun (k : ∀ W, LsS L w D obj was now w.heap.size (w.heap.size + 1) (w.heap.size + 1 + 1) s W → Code.wp _ _ _ _ W) => k _ HX.out) ?_
  intro W hW
  obtain ⟨GM, hGM⟩ : ∃ g, w.heap.size = g := ⟨_, rfl⟩
  rw [hGM] at hW ⊢
  obtain ⟨GA, hGA⟩ : ∃ g, GM + 1 = g := ⟨_, rfl⟩
  rw [hGA] at hW ⊢
  obtain ⟨GB, hGB⟩ : ∃ g, GA + 1 = g := ⟨_, rfl⟩
  rw [hGB] at hW ⊢
  have HX1 := Lib.hid hW
  clear hW HX hGM hGA hGB
  go_wp2_with (first | (refine wpL_val rfl (ex_ldN HA.out HX1.out.a rfl rfl) ?_) | fail)
  have HR0 : Hid (∃ k s2, k ≤ 8 ∧ Value.int .i64 0 = .int .i64 ((k : Nat) : Int) ∧ lostG was now k (was.drop k) s2 = r ∧ LsS L w D obj was now GM GA GB s2 W ∧ Lim (m + k) s2) := Lib.hid ⟨0, s, by omega, rfl, by rw [List.drop_zero]; exact HR.out, HX1.out, HK.out⟩
  clear HX1 HR
  go_loopw [9] (fun v wr => ∃ k s2, k ≤ 8 ∧ v = .int .i64 ((k : Nat) : Int) ∧ lostG was now k (was.drop k) s2 = r ∧ LsS L w D obj was now GM GA GB s2 wr ∧ Lim (m + k) s2) (fun v _ => 8 - (intOf v).toNat)
  case atStart => exact HR0.out
  case round =>
    clear HR0
    obtain ⟨k, s2, hk8, rfl, hgo, hls, hlk⟩ := hrel
    have HGO := Lib.hid hgo; have HLS := Lib.hid hls; have HLK := Lib.hid hlk
    clear hgo hls hlk
    have wk1 := IntWalk.i64_in ((k : Int) + 1) (by omega)
    by_cases hlt : k < 8
    · obtain ⟨q, hq⟩ := HA.out.get hlt
      have hix : ∀ W : World, (Instr.index 73 (.agg (ncells was).toArray) (.int .i64 (k : Int))).run Tryd.prog W = .ok (.agg (pcells q).toArray) W := fun W => run_ixT Tryd.underlying73 HA.out hq W
      have HQO := Lib.hid (HA.out.at hq)
      have HSQ := Lib.hid (size_pc HQO.out)
      have HLQ : Hid ((pcells q).toArray.size = 41) := Lib.hid (by rw [List.size_toArray, pcells_length HQO.out])
      have HGO2 : Hid (lostG was now (k + 1) (was.drop (k + 1)) (if lostC was now k q = true then oldS s2 q else s2) = r) := Lib.hid (by rw [← lostG_cons, ← drop_at hq]; exact HGO.out)
      have HK8 : Hid (k ≤ 8) := Lib.hid hk8
      clear hq HGO
      go_upto_region 4 with (first | (refine wpList_store_row rfl 37 (.tmp 7) (.tmp 12) rfl wr.heap.size (pcells q).toArray rfl rfl 37 _ (heap_alloc_new wr _) HSQ.out (by rw [HLQ.out]; rfl) (one_pc q) ?_) | fail)
      refine (fun (k : ∀ W, LqS L w D obj was now GM GA GB s2 q wr.heap.size W → Code.wp _ _ _ _ W) => k _ ⟨HLS.out.below (blk_row1 wr _ (pcells q) 37).2, (blk_row1 wr _ (pcells q) 37).1⟩) ?_
      intro X5 hX5
      obtain ⟨gq, hgq⟩ : ∃ g, wr.heap.size = g := ⟨_, rfl⟩
      rw [hgq] at hX5 ⊢
      have HX5 := Lib.hid hX5
      clear hX5 hgq HLS
      have hC1 : ∀ X, LqS L w D obj was now GM GA GB s2 q gq X → Calls Tryd.prog 21 #[.agg (pcells q).toArray] X fun e w' => e = .returned (.bool (eqP q zeroP)) ∧ Below X.heap.size X w' := fun X _ => trHole_any q HQO.out X
      have hC2 : ∀ X, LqS L w D obj was now GM GA GB s2 q gq X → Calls Tryd.prog 40 #[.slice (some ⟨GB, 0, none⟩) 8 8, .agg (pcells q).toArray] X fun e w' => e = .returned (.bool (isIn now q)) ∧ Below X.heap.size X w' := fun X hX => by
        have h1 := srcN_take HB.out hX.ls.b 8 (Nat.le_refl _)
        rw [List.take_of_length_le (by rw [HB.out.len]; omega)] at h1
        exact contains_any now _ q HQO.out HB.out.ok (by rw [HB.out.len]; omega) X h1
      have hC3 : ∀ X, LqS L w D obj was now GM GA GB s2 q gq X → Calls Tryd.prog 40 #[.slice (some ⟨GA, 0, none⟩) k 8, .agg (pcells q).toArray] X fun e w' => e = .returned (.bool (isIn (was.take k) q)) ∧ Below X.heap.size X w' := fun X hX =>
        contains_any (was.take k) _ q HQO.out (fun p hp => HA.out.ok p (List.mem_of_mem_take hp)) (by rw [List.length_take]; omega) X (srcN_take HA.out hX.ls.a k HK8.out)
      have hLC : lostC was now k q = (!eqP q zeroP && !isIn now q && !isIn (was.take k) q) := rfl
      obtain ⟨bA, hbA⟩ : ∃ b, eqP q zeroP = b := ⟨_, rfl⟩
      obtain ⟨bB, hbB⟩ : ∃ b, isIn now q = b := ⟨_, rfl⟩
      obtain ⟨bC, hbC⟩ : ∃ b, isIn (was.take k) q = b := ⟨_, rfl⟩
      rw [hbA, hbB, hbC] at hLC
      have HLC := Lib.hid hLC
      rw [hbA] at hC1
      rw [hbB] at hC2
      rw [hbC] at hC3
      clear hLC hbA hbB hbC
      cases bA
      · cases bB
        · cases bC
          · have hx0 : LqS L w D obj was now GM GA GB s2 q gq X5.drew := HX5.out.below (Below.refl _ _).drew
            refine wp_region_sched (.take 0 (.step 1 (.take 2 (.take 3 (.take 4 (.take 5 (.step 6 (.take 7 (.take 8 (.take 9 (.take 10 (.take 11 (.take 12 (.step 13 (.take 14 (.take 15 (.nil))))))))))))))))) (by kernel_rfl) (by kernel_rfl) (fun d _ _ _ _ h => by cases d <;> exact h) (LqS L w D obj was now GM GA GB s2 q gq) (hx0) ?_
            refine wpG_take _ (.agg (pcells q).toArray) rfl (by rfl) (fun X hX => ex_ldP HQO.out hX.q rfl rfl) ?_
            (try simp only [Act.put, List.setIfInBounds_toArray, List.set_cons_zero, List.set_cons_succ])
            refine wpG_says _ rfl (by rfl) 21 #[.agg (pcells q).toArray] (fun X => by go_simp) LqS.stable hx0 (.bool false) (hC1 _ hx0) ?_
            intro Y1 hx1
            (try simp only [Act.put, List.setIfInBounds_toArray, List.set_cons_zero, List.set_cons_succ])
            refine wpG_take _ (.bool true) rfl (by rfl) (fun X hX => by first | rfl | go_simp) ?_
            (try simp only [Act.put, List.setIfInBounds_toArray, List.set_cons_zero, List.set_cons_succ])
            refine wpG_take _ (.bool true) rfl (by rfl) (fun X hX => by first | rfl | go_simp) ?_
            (try simp only [Act.put, List.setIfInBounds_toArray, List.set_cons_zero, List.set_cons_succ])
            refine wpG_take _ (.slice (some ⟨GB, 0, none⟩) 8 8) rfl (by rfl) (fun X hX => ex_slN8 rfl rfl) ?_
            (try simp only [Act.put, List.setIfInBounds_toArray, List.set_cons_zero, List.set_cons_succ])
            refine wpG_take _ (.agg (pcells q).toArray) rfl (by rfl) (fun X hX => ex_ldP HQO.out hX.q rfl rfl) ?_
            (try simp only [Act.put, List.setIfInBounds_toArray, List.set_cons_zero, List.set_cons_succ])
            refine wpG_says _ rfl (by rfl) 40 #[.slice (some ⟨GB, 0, none⟩) 8 8, .agg (pcells q).toArray] (fun X => by go_simp) LqS.stable hx1 (.bool false) (hC2 _ hx1) ?_
            intro Y2 hx2
            (try simp only [Act.put, List.setIfInBounds_toArray, List.set_cons_zero, List.set_cons_succ])
            refine wpG_take _ (.bool true) rfl (by rfl) (fun X hX => by first | rfl | go_simp) ?_
            (try simp only [Act.put, List.setIfInBounds_toArray, List.set_cons_zero, List.set_cons_succ])
            refine wpG_take _ (.bool true) rfl (by rfl) (fun X hX => by first | rfl | go_simp) ?_
            (try simp only [Act.put, List.setIfInBounds_toArray, List.set_cons_zero, List.set_cons_succ])
            refine wpG_take _ (.bool true) rfl (by rfl) (fun X hX => by first | rfl | go_simp) ?_
            (try simp only [Act.put, List.setIfInBounds_toArray, List.set_cons_zero, List.set_cons_succ])
            refine wpG_take _ (.int .i64 (k : Int)) rfl (by rfl) (fun X hX => by first | rfl | go_simp) ?_
            (try simp only [Act.put, List.setIfInBounds_toArray, List.set_cons_zero, List.set_cons_succ])
            refine wpG_take _ (.slice (some ⟨GA, 0, none⟩) k 8) rfl (by rfl) (fun X hX => ex_slNk HK8.out rfl rfl rfl) ?_
            (try simp only [Act.put, List.setIfInBounds_toArray, List.set_cons_zero, List.set_cons_succ])
            refine wpG_take _ (.agg (pcells q).toArray) rfl (by rfl) (fun X hX => ex_ldP HQO.out hX.q rfl rfl) ?_
            (try simp only [Act.put, List.setIfInBounds_toArray, List.set_cons_zero, List.set_cons_succ])
            refine wpG_says _ rfl (by rfl) 40 #[.slice (some ⟨GA, 0, none⟩) k 8, .agg (pcells q).toArray] (fun X => by go_simp) LqS.stable hx2 (.bool false) (hC3 _ hx2) ?_
            intro Y3 hx3
            (try simp only [Act.put, List.setIfInBounds_toArray, List.set_cons_zero, List.set_cons_succ])
            refine wpG_take _ (.bool true) rfl (by rfl) (fun X hX => by first | rfl | go_simp) ?_
            (try simp only [Act.put, List.setIfInBounds_toArray, List.set_cons_zero, List.set_cons_succ])
            refine wpG_take _ (.bool true) rfl (by rfl) (fun X hX => by first | rfl | go_simp) ?_
            (try simp only [Act.put, List.setIfInBounds_toArray, List.set_cons_zero, List.set_cons_succ])
            refine wpG_nil ?_
            have HX6 := Lib.hid hx3
            rw [HLC.out] at HGO2
            have HGO3 : Hid (lostG was now (k + 1) (was.drop (k + 1)) (oldS s2 q) = r) := Lib.hid (by have h1 := HGO2.out; rw [if_pos (by rfl)] at h1; exact h1)
            clear HX5 hC1 hC2 hC3 HGO2 HLC
            obtain ⟨⟨⟨L6, v6, e1, e2, e3⟩, e4, e5, e6⟩, e7⟩ := HX6.out
            have HOC := Lib.hid (shOld_any q HQO.out e1 (by have := HLK.out.gn; have := HM.out; omega))
            have HMV : Hid (∀ Y, ShPost 5 L6 Y3 D (oldS s2 q) Y → LsS L w D obj was now GM GA GB (oldS s2 q) Y) := Lib.hid (fun Y hY => HX6.out.ls.moved e2 e3 hY)
            have c0 : Y3.cell? ⟨GM, 0, none⟩ = some (.iface 25 (.pointer (some ⟨D, 0, none⟩))) := e4.cell rfl
            clear e1 e2 e3 e4 e5 e6 e7 hx0 hx1 hx2 hx3
            go_wp2_with (first | (refine wpL_val rfl (ex_ldP HQO.out HX6.out.q rfl rfl) ?_) | fail)
            refine HOC.out.mono ?_
            rintro e X8 ⟨rfl, hp8⟩
            have HL8 := Lib.hid (HMV.out X8 hp8)
            clear hp8 HOC HMV HX6 c0
            go_wp2_with fail
            go_roundw
            case rel => exact ⟨k + 1, oldS s2 q, by omega, by go_num, HGO3.out, HL8.out, HLK.out.oldS (by have := HM.out; omega)⟩
            case measure => simp [intOf]; omega
          · have hx0 : LqS L w D obj was now GM GA GB s2 q gq X5.drew := HX5.out.below (Below.refl _ _).drew
            refine wp_region_sched (.take 0 (.step 1 (.take 2 (.take 3 (.take 4 (.take 5 (.step 6 (.take 7 (.take 8 (.take 9 (.take 10 (.take 11 (.take 12 (.step 13 (.take 14 (.take 15 (.nil))))))))))))))))) (by kernel_rfl) (by kernel_rfl) (fun d _ _ _ _ h => by cases d <;> exact h) (LqS L w D obj was now GM GA GB s2 q gq) (hx0) ?_
            refine wpG_take _ (.agg (pcells q).toArray) rfl (by rfl) (fun X hX => ex_ldP HQO.out hX.q rfl rfl) ?_
            (try simp only [Act.put, List.setIfInBounds_toArray, List.set_cons_zero, List.set_cons_succ])
            refine wpG_says _ rfl (by rfl) 21 #[.agg (pcells q).toArray] (fun X => by go_simp) LqS.stable hx0 (.bool false) (hC1 _ hx0) ?_
            intro Y1 hx1
            (try simp only [Act.put, List.setIfInBounds_toArray, List.set_cons_zero, List.set_cons_succ])
            refine wpG_take _ (.bool true) rfl (by rfl) (fun X hX => by first | rfl | go_simp) ?_
            (try simp only [Act.put, List.setIfInBounds_toArray, List.set_cons_zero, List.set_cons_succ])
            refine wpG_take _ (.bool true) rfl (by rfl) (fun X hX => by first | rfl | go_simp) ?_
            (try simp only [Act.put, List.setIfInBounds_toArray, List.set_cons_zero, List.set_cons_succ])
            refine wpG_take _ (.slice (some ⟨GB, 0, none⟩) 8 8) rfl (by rfl) (fun X hX => ex_slN8 rfl rfl) ?_
            (try simp only [Act.put, List.setIfInBounds_toArray, List.set_cons_zero, List.set_cons_succ])
            refine wpG_take _ (.agg (pcells q).toArray) rfl (by rfl) (fun X hX => ex_ldP HQO.out hX.q rfl rfl) ?_
            (try simp only [Act.put, List.setIfInBounds_toArray, List.set_cons_zero, List.set_cons_succ])
            refine wpG_says _ rfl (by rfl) 40 #[.slice (some ⟨GB, 0, none⟩) 8 8, .agg (pcells q).toArray] (fun X => by go_simp) LqS.stable hx1 (.bool false) (hC2 _ hx1) ?_
            intro Y2 hx2
            (try simp only [Act.put, List.setIfInBounds_toArray, List.set_cons_zero, List.set_cons_succ])
            refine wpG_take _ (.bool true) rfl (by rfl) (fun X hX => by first | rfl | go_simp) ?_
            (try simp only [Act.put, List.setIfInBounds_toArray, List.set_cons_zero, List.set_cons_succ])
            refine wpG_take _ (.bool true) rfl (by rfl) (fun X hX => by first | rfl | go_simp) ?_
            (try simp only [Act.put, List.setIfInBounds_toArray, List.set_cons_zero, List.set_cons_succ])
            refine wpG_take _ (.bool true) rfl (by rfl) (fun X hX => by first | rfl | go_simp) ?_
            (try simp only [Act.put, List.setIfInBounds_toArray, List.set_cons_zero, List.set_cons_succ])
            refine wpG_take _ (.int .i64 (k : Int)) rfl (by rfl) (fun X hX => by first | rfl | go_simp) ?_
            (try simp only [Act.put, List.setIfInBounds_toArray, List.set_cons_zero, List.set_cons_succ])
            refine wpG_take _ (.slice (some ⟨GA, 0, none⟩) k 8) rfl (by rfl) (fun X hX => ex_slNk HK8.out rfl rfl rfl) ?_
            (try simp only [Act.put, List.setIfInBounds_toArray, List.set_cons_zero, List.set_cons_succ])
            refine wpG_take _ (.agg (pcells q).toArray) rfl (by rfl) (fun X hX => ex_ldP HQO.out hX.q rfl rfl) ?_
            (try simp only [Act.put, List.setIfInBounds_toArray, List.set_cons_zero, List.set_cons_succ])
            refine wpG_says _ rfl (by rfl) 40 #[.slice (some ⟨GA, 0, none⟩) k 8, .agg (pcells q).toArray] (fun X => by go_simp) LqS.stable hx2 (.bool true) (hC3 _ hx2) ?_
            intro Y3 hx3
            (try simp only [Act.put, List.setIfInBounds_toArray, List.set_cons_zero, List.set_cons_succ])
            refine wpG_take _ (.bool false) rfl (by rfl) (fun X hX => by first | rfl | go_simp) ?_
            (try simp only [Act.put, List.setIfInBounds_toArray, List.set_cons_zero, List.set_cons_succ])
            refine wpG_take _ (.bool false) rfl (by rfl) (fun X hX => by first | rfl | go_simp) ?_
            (try simp only [Act.put, List.setIfInBounds_toArray, List.set_cons_zero, List.set_cons_succ])
            refine wpG_nil ?_
            have HX6 := Lib.hid hx3
            rw [HLC.out] at HGO2
            have HGO3 : Hid (lostG was now (k + 1) (was.drop (k + 1)) s2 = r) := Lib.hid (by have h1 := HGO2.out; rw [if_neg (by simp)] at h1; exact h1)
            clear HX5 hC1 hC2 hC3 HGO2 HLC hx0 hx1 hx2 hx3
            go_wp2_with fail
            go_roundw
            case rel => exact ⟨k + 1, s2, by omega, by go_num, HGO3.out, HX6.out.ls, HLK.out.mono (by omega) (by have := HM.out; omega)⟩
            case measure => simp [intOf]; omega
        · have hx0 : LqS L w D obj was now GM GA GB s2 q gq X5.drew := HX5.out.below (Below.refl _ _).drew
          refine wp_region_sched (.take 0 (.step 1 (.take 2 (.take 3 (.take 4 (.take 5 (.step 6 (.take 7 (.take 8 (.take 9 (.take 10 (.take 11 (.take 12 (.step 13 (.take 14 (.take 15 (.nil))))))))))))))))) (by kernel_rfl) (by kernel_rfl) (fun d _ _ _ _ h => by cases d <;> exact h) (LqS L w D obj was now GM GA GB s2 q gq) (hx0) ?_
          refine wpG_take _ (.agg (pcells q).toArray) rfl (by rfl) (fun X hX => ex_ldP HQO.out hX.q rfl rfl) ?_
          (try simp only [Act.put, List.setIfInBounds_toArray, List.set_cons_zero, List.set_cons_succ])
          refine wpG_says _ rfl (by rfl) 21 #[.agg (pcells q).toArray] (fun X => by go_simp) LqS.stable hx0 (.bool false) (hC1 _ hx0) ?_
          intro Y1 hx1
          (try simp only [Act.put, List.setIfInBounds_toArray, List.set_cons_zero, List.set_cons_succ])
          refine wpG_take _ (.bool true) rfl (by rfl) (fun X hX => by first | rfl | go_simp) ?_
          (try simp only [Act.put, List.setIfInBounds_toArray, List.set_cons_zero, List.set_cons_succ])
          refine wpG_take _ (.bool true) rfl (by rfl) (fun X hX => by first | rfl | go_simp) ?_
          (try simp only [Act.put, List.setIfInBounds_toArray, List.set_cons_zero, List.set_cons_succ])
          refine wpG_take _ (.slice (some ⟨GB, 0, none⟩) 8 8) rfl (by rfl) (fun X hX => ex_slN8 rfl rfl) ?_
          (try simp only [Act.put, List.setIfInBounds_toArray, List.set_cons_zero, List.set_cons_succ])
          refine wpG_take _ (.agg (pcells q).toArray) rfl (by rfl) (fun X hX => ex_ldP HQO.out hX.q rfl rfl) ?_
          (try simp only [Act.put, List.setIfInBounds_toArray, List.set_cons_zero, List.set_cons_succ])
          refine wpG_says _ rfl (by rfl) 40 #[.slice (some ⟨GB, 0, none⟩) 8 8, .agg (pcells q).toArray] (fun X => by go_simp) LqS.stable hx1 (.bool true) (hC2 _ hx1) ?_
          intro Y2 hx2
          (try simp only [Act.put, List.setIfInBounds_toArray, List.set_cons_zero, List.set_cons_succ])
          refine wpG_take _ (.bool false) rfl (by rfl) (fun X hX => by first | rfl | go_simp) ?_
          (try simp only [Act.put, List.setIfInBounds_toArray, List.set_cons_zero, List.set_cons_succ])
          refine wpG_take _ (.bool false) rfl (by rfl) (fun X hX => by first | rfl | go_simp) ?_
          (try simp only [Act.put, List.setIfInBounds_toArray, List.set_cons_zero, List.set_cons_succ])
          refine wpG_take _ (.bool false) rfl (by rfl) (fun X hX => by first | rfl | go_simp) ?_
          (try simp only [Act.put, List.setIfInBounds_toArray, List.set_cons_zero, List.set_cons_succ])
          refine wpG_pass _ rfl (by rfl) ?_
          (try simp only [Act.put, List.setIfInBounds_toArray, List.set_cons_zero, List.set_cons_succ])
          refine wpG_pass _ rfl (by rfl) ?_
          (try simp only [Act.put, List.setIfInBounds_toArray, List.set_cons_zero, List.set_cons_succ])
          refine wpG_pass _ rfl (by rfl) ?_
          (try simp only [Act.put, List.setIfInBounds_toArray, List.set_cons_zero, List.set_cons_succ])
          refine wpG_skip _ rfl (by rfl) hx2 ?_
          (try simp only [Act.put, List.setIfInBounds_toArray, List.set_cons_zero, List.set_cons_succ])
          refine wpG_pass _ rfl (by rfl) ?_
          (try simp only [Act.put, List.setIfInBounds_toArray, List.set_cons_zero, List.set_cons_succ])
          refine wpG_take _ (.bool false) rfl (by rfl) (fun X hX => by first | rfl | go_simp) ?_
          (try simp only [Act.put, List.setIfInBounds_toArray, List.set_cons_zero, List.set_cons_succ])
          refine wpG_nil ?_
          have HX6 := Lib.hid hx2
          rw [HLC.out] at HGO2
          have HGO3 : Hid (lostG was now (k + 1) (was.drop (k + 1)) s2 = r) := Lib.hid (by have h1 := HGO2.out; rw [if_neg (by simp)] at h1; exact h1)
          clear HX5 hC1 hC2 hC3 HGO2 HLC hx0 hx1 hx2
          go_wp2_with fail
          go_roundw
          case rel => exact ⟨k + 1, s2, by omega, by go_num, HGO3.out, HX6.out.ls, HLK.out.mono (by omega) (by have := HM.out; omega)⟩
          case measure => simp [intOf]; omega
      · have hx0 : LqS L w D obj was now GM GA GB s2 q gq X5.drew := HX5.out.below (Below.refl _ _).drew
        refine wp_region_sched (.take 0 (.step 1 (.take 2 (.take 3 (.take 4 (.take 5 (.step 6 (.take 7 (.take 8 (.take 9 (.take 10 (.take 11 (.take 12 (.step 13 (.take 14 (.take 15 (.nil))))))))))))))))) (by kernel_rfl) (by kernel_rfl) (fun d _ _ _ _ h => by cases d <;> exact h) (LqS L w D obj was now GM GA GB s2 q gq) (hx0) ?_
        refine wpG_take _ (.agg (pcells q).toArray) rfl (by rfl) (fun X hX => ex_ldP HQO.out hX.q rfl rfl) ?_
        (try simp only [Act.put, List.setIfInBounds_toArray, List.set_cons_zero, List.set_cons_succ])
        refine wpG_says _ rfl (by rfl) 21 #[.agg (pcells q).toArray] (fun X => by go_simp) LqS.stable hx0 (.bool true) (hC1 _ hx0) ?_
        intro Y1 hx1
        (try simp only [Act.put, List.setIfInBounds_toArray, List.set_cons_zero, List.set_cons_succ])
        refine wpG_take _ (.bool false) rfl (by rfl) (fun X hX => by first | rfl | go_simp) ?_
        (try simp only [Act.put, List.setIfInBounds_toArray, List.set_cons_zero, List.set_cons_succ])
        refine wpG_take _ (.bool false) rfl (by rfl) (fun X hX => by first | rfl | go_simp) ?_
        (try simp only [Act.put, List.setIfInBounds_toArray, List.set_cons_zero, List.set_cons_succ])
        refine wpG_pass _ rfl (by rfl) ?_
        (try simp only [Act.put, List.setIfInBounds_toArray, List.set_cons_zero, List.set_cons_succ])
        refine wpG_pass _ rfl (by rfl) ?_
        (try simp only [Act.put, List.setIfInBounds_toArray, List.set_cons_zero, List.set_cons_succ])
        refine wpG_skip _ rfl (by rfl) hx1 ?_
        (try simp only [Act.put, List.setIfInBounds_toArray, List.set_cons_zero, List.set_cons_succ])
        refine wpG_pass _ rfl (by rfl) ?_
        (try simp only [Act.put, List.setIfInBounds_toArray, List.set_cons_zero, List.set_cons_succ])
        refine wpG_take _ (.bool false) rfl (by rfl) (fun X hX => by first | rfl | go_simp) ?_
        (try simp only [Act.put, List.setIfInBounds_toArray, List.set_cons_zero, List.set_cons_succ])
        refine wpG_take _ (.bool false) rfl (by rfl) (fun X hX => by first | rfl | go_simp) ?_
        (try simp only [Act.put, List.setIfInBounds_toArray, List.set_cons_zero, List.set_cons_succ])
        refine wpG_pass _ rfl (by rfl) ?_
        (try simp only [Act.put, List.setIfInBounds_toArray, List.set_cons_zero, List.set_cons_succ])
        refine wpG_pass _ rfl (by rfl) ?_
        (try simp only [Act.put, List.setIfInBounds_toArray, List.set_cons_zero, List.set_cons_succ])
        refine wpG_pass _ rfl (by rfl) ?_
        (try simp only [Act.put, List.setIfInBounds_toArray, List.set_cons_zero, List.set_cons_succ])
        refine wpG_skip _ rfl (by rfl) hx1 ?_
        (try simp only [Act.put, List.setIfInBounds_toArray, List.set_cons_zero, List.set_cons_succ])
        refine wpG_pass _ rfl (by rfl) ?_
        (try simp only [Act.put, List.setIfInBounds_toArray, List.set_cons_zero, List.set_cons_succ])
        refine wpG_take _ (.bool false) rfl (by rfl) (fun X hX => by first | rfl | go_simp) ?_
        (try simp only [Act.put, List.setIfInBounds_toArray, List.set_cons_zero, List.set_cons_succ])
        refine wpG_nil ?_
        have HX6 := Lib.hid hx1
        rw [HLC.out] at HGO2
        have HGO3 : Hid (lostG was now (k + 1) (was.drop (k + 1)) s2 = r) := Lib.hid (by have h1 := HGO2.out; rw [if_neg (by simp)] at h1; exact h1)
        clear HX5 hC1 hC2 hC3 HGO2 HLC hx0 hx1
        go_wp2_with fail
        go_roundw
        case rel => exact ⟨k + 1, s2, by omega, by go_num, HGO3.out, HX6.out.ls, HLK.out.mono (by omega) (by have := HM.out; omega)⟩
        case measure => simp [intOf]; omega
    · obtain rfl : k = 8 := by omega
      have hgo := HGO.out
      rw [List.drop_of_length_le (by rw [HA.out.len]; omega)] at hgo
      have hgo : s2 = r := hgo
      obtain rfl := hgo
      obtain ⟨⟨L1, v1, h1, h2, -⟩, -⟩ := HLS.out
      have HE := Lib.hid (HP.out wr ⟨L1, v1, h1, h2⟩ HLK.out)
      clear h1 h2 hlt hk8 HGO
      rw [show ((8 : Nat) : Int) = (8 : Int) from rfl]
      go_wp2_with fail
      go_end0
      exact HE.out
end Go.Proofs.YtfcjeceoedfldaaDoor
