/- The tree's lost, old. -/
import Derived.Test.YtjgjohdeeeoeoaaGreatDoorM18
set_option linter.all false
namespace Go.Proofs.YtjgjohdeeeoeoaaGreatDoor
open Go.RowKit
attribute [local go_sem] Oper.semAt_some
variable {now ns was : List Pt} {D G GA GB GM b g gq lv m obj off : Nat} {L L1 : Nat → Nat} {p q : Pt} {s s' : Sh} {v : Sv} {X Y : World}
def Ez (l : List Pt) (p : Pt) : Bool := l.any (fun q => eqP p q)
def Bl (was now : List Pt) (i : Nat) (p : Pt) : Bool := !eqP p zeroP && !Ez now p && !Ez (was.take i) p
def m4 (was now : List Pt) : Nat → List Pt → Sh → Sh
 | _, [], s => s
 | i, p :: ps, s => m4 was now (i + 1) ps (if Bl was now i p = true then oldS s p else s)
def um (s : Sh) (was now : List Pt) : Sh := m4 was now 0 was s
def qr (s : Sh) (p : Pt) (lv : Nat) (was now : List Pt) : Sh := if eqP p zeroP = true then (if lv = 1 then um s was now else s) else oldS (if lv = 1 then um s was now else s) p
def bv (D obj : Nat) : List Value := [shI D, .int .u16 (obj : Int)]
structure LsS (L : Nat → Nat) (w : World) (D obj : Nat) (was now : List Pt) (GM GA GB : Nat) (s : Sh) (X : World) : Prop where
 sh : ∃ L1 v1, ShAt X L1 D s v1 ∧ Mv 5 L w L1 X ∧ L1 GM = 0 ∧ L1 GA = 0 ∧ L1 GB = 0
 mb : Blk X GM (bv D obj) 145
 a : Blk X GA (ah was) 170
 b : Blk X GB (ah now) 170
theorem LsS.below {w : World} (h : LsS L w D obj was now GM GA GB s X) (hb : Below X.heap.size X Y) : LsS L w D obj was now GM GA GB s Y := by
 obtain ⟨⟨L1, v1, h1, h2, h3⟩, k1, k2, k3⟩ := h;exact ⟨⟨L1, v1, h1.below hb, h2.trans (Mv.of_below hb h1.lt), h3⟩, k1.below hb k1.lt, k2.below hb k2.lt, k3.below hb k3.lt⟩
theorem LsS.moved {w : World} (h : LsS L w D obj was now GM GA GB s X) (hm : Mv 5 L w L1 X) (hl : L1 GM = 0 ∧ L1 GA = 0 ∧ L1 GB = 0) (hp : ShPost 5 L1 X D s' Y) : LsS L w D obj was now GM GA GB s' Y := by
 obtain ⟨L2, v2, k1, k2⟩ := hp;exact ⟨⟨L2, v2, k1, hm.trans k2, (k2.old _ h.mb.lt).trans hl.1, (k2.old _ h.a.lt).trans hl.2.1, (k2.old _ h.b.lt).trans hl.2.2⟩, k2.blk h.mb hl.1, k2.blk h.a hl.2.1, k2.blk h.b hl.2.2⟩
theorem Bv {W : World} {t : TypeId} (hn : NOK ns) (h : Blk W g (ah ns) t) (k : Nat) (hk : k ≤ 8) : SrcM W (.slice (some ⟨g, 0, none⟩) k 8) (ns.take k) := by
 have hl : (ns.take k).length = k := by rw [List.length_take, hn.len, Nat.min_eq_left hk]
 refine ⟨some ⟨g, 0, none⟩, 8, by rw [hl], by rw [hl]; exact hk, by unfold maxLen; omega, (fun e => by cases e), fun _ => ⟨g, rfl, h.lt, fun i q hq => ?_⟩⟩;rw [List.getElem?_take] at hq;split at hq
 ·have := Fq hn h hq
  rw [Nat.mul_comm] at this;exact this
 ·cases hq
section
variable {ρ : Operand → Value} {o : Oper} {x y : Operand} {w : World}
theorem Cs (ho : o.op = .slice 170 x none none none) (hx : ρ x = .pointer (some ⟨b, 0, none⟩)) : (execOp ρ o).run Tryz.prog w = .ok (.value (.slice (some ⟨b, 0, none⟩) 8 8)) w := by
 unfold execOp;simp only [ho];go_simp
theorem Ks {k : Nat} (hk : k ≤ 8) (ho : o.op = .slice 170 x none (some y) none) (hx : ρ x = .pointer (some ⟨b, 0, none⟩)) (hy : ρ y = .int .i64 (k : Int)) : (execOp ρ o).run Tryz.prog w = .ok (.value (.slice (some ⟨b, 0, none⟩) k 8)) w := by
 have h1 : ¬ (8 < k) := by omega
 have h2 : (k : Int) ≤ 8 := by omega
 have h3 : (0 : Int) ≤ (k : Int) := by omega
 unfold execOp;simp only [ho];go_simp
end
structure LqS (L : Nat → Nat) (w : World) (D obj : Nat) (was now : List Pt) (GM GA GB : Nat) (s : Sh) (q : Pt) (gq : Nat) (X : World) : Prop where
 ls : LsS L w D obj was now GM GA GB s X
 q : Blk X gq (a8 q) 28
theorem LqS.below {w : World} (h : LqS L w D obj was now GM GA GB s q gq X) (hb : Below X.heap.size X Y) : LqS L w D obj was now GM GA GB s q gq Y := ⟨h.ls.below hb, h.q.below hb h.q.lt⟩
theorem LqS.stable {w : World} : Qt (LqS L w D obj was now GM GA GB s q gq) := fun _ _ h hb => h.below hb
def C7 (L : Nat → Nat) (w : World) (D : Nat) (s' : Sh) (m : Nat) (e : Ending) (w' : World) : Prop := e = .returned (.tuple #[]) ∧ ShPost 5 L w D s' w' ∧ Lim m s'
theorem Lim.oldS (h : Lim m s) (hm : m + 1 < 100000000) : Lim (m + 1) (oldS s p) := ⟨Nat.le_trans h.rd (by omega), Nat.le_trans h.md (by omega), by have := h.gn; simp [Go.Proofs.YtjgjohdeeeoeoaaGreatDoor.oldS]; omega, hm, h.bl, h.bd, h.rm⟩
theorem zw (was now : List Pt) (i : Nat) (p : Pt) (ps : List Pt) (s : Sh) : m4 was now i (p :: ps) s = m4 was now (i + 1) ps (if Bl was now i p = true then oldS s p else s) := rfl
set_option maxRecDepth 100000 in
set_option maxHeartbeats 16000000 in
theorem Jd {w : World} (obj : Nat) (was now : List Pt) (hwas : NOK was) (hnow : NOK now) (h : ShAt w L D s v) (hk : Lim m s) (hm : m + 8 < 100000000) :
  Calls Tryz.prog 118 #[.agg (bv D obj).toArray, .agg (ah was).toArray, .agg (ah now).toArray] w (C7 L w D (um s was now) (m + 8)) := by
 have HA := zH hwas; have HB := zH hnow;have ap : Below w.heap.size w (((w.alloc (.cells (bv D obj).toArray 145)).alloc (.cells (ah was).toArray 170)).alloc (.cells (ah now).toArray 170)) := (((Below.refl _ _).alloc (Nat.le_refl _) _).alloc (by simp) _).alloc (by simp; omega) _
 have HX : Hid (LsS L w D obj was now w.heap.size (w.heap.size + 1) (w.heap.size + 1 + 1) s (((w.alloc (.cells (bv D obj).toArray 145)).alloc (.cells (ah was).toArray 170)).alloc (.cells (ah now).toArray 170))) := zH
  ⟨⟨L, v, h.below ap, Mv.of_below ap h.lt, h.not (Nat.le_refl _), h.not (by omega), h.not (by omega)⟩, ((Blk.new _ _ _).alloc _).alloc _, (Blk.new' _ _ _ _ _ (by simp) rfl).alloc _, Blk.new' _ _ _ _ _ (by simp) rfl⟩
 have HK := zH hk; have HM := zH hm;obtain ⟨r, hr⟩ : ∃ r, um s was now = r := ⟨_, rfl⟩;have HR : Hid (m4 was now 0 was s = r) := zH hr;rw [hr];generalize hPost : C7 L w D r (m + 8) = Post;have HP : Hid (∀ w', ShPost 5 L w D r w' → Lim (m + 8) r → Post (.returned (.tuple #[])) w') := zH fun w' h2 h3 => by rw [← hPost]; exact ⟨rfl, h2, h3⟩
 clear hwas hnow h hk hm hr hPost ap;go_enter Tryz.func118, Tryz.ntmps118
 go_upto_region 1 with fail
 refine (fun (k : ∀ W, LsS L w D obj was now w.heap.size (w.heap.size + 1) (w.heap.size + 1 + 1) s W → Code.wp _ _ _ _ W) => k _ HX.out) ?_;intro W hW;obtain ⟨GM, b0⟩ : ∃ g, w.heap.size = g := ⟨_, rfl⟩;rw [b0] at hW ⊢;obtain ⟨GA, ay⟩ : ∃ g, GM + 1 = g := ⟨_, rfl⟩;rw [ay] at hW ⊢;obtain ⟨GB, az⟩ : ∃ g, GA + 1 = g := ⟨_, rfl⟩;rw [az] at hW ⊢;have ak := zH hW;clear hW HX b0 ay az
 go_wp2_with (first | (refine a9 rfl (gx HA.out ak.out.a rfl rfl) ?_) | fail)
 have aw : Hid (∃ k s2, k ≤ 8 ∧ Value.int .i64 0 = .int .i64 ((k : Nat) : Int) ∧ m4 was now k (was.drop k) s2 = r ∧ LsS L w D obj was now GM GA GB s2 W ∧ Lim (m + k) s2) := zH ⟨0, s, by omega, rfl, by rw [List.drop_zero]; exact HR.out, ak.out, HK.out⟩;clear ak HR;go_loopw [9] (fun v wr => ∃ k s2, k ≤ 8 ∧ v = .int .i64 ((k : Nat) : Int) ∧ m4 was now k (was.drop k) s2 = r ∧ LsS L w D obj was now GM GA GB s2 wr ∧ Lim (m + k) s2) (fun v _ => 8 - (intOf v).toNat)
 case atStart => exact aw.out
 case round =>
  clear aw;obtain ⟨k, s2, b2, rfl, ae, b4, b3⟩ := hrel;have ag := zH ae; have aj := zH b4; have af := zH b3;clear ae b4 b3;have ba := IntWalk.i64_in ((k : Int) + 1) (by omega);by_cases hlt : k < 8
  ·obtain ⟨q, hq⟩ := HA.out.get hlt
   have b9 : ∀ W : World, (Instr.index 170 (.agg (ah was).toArray) (.int .i64 (k : Int))).run Tryz.prog W = .ok (.agg (a8 q).toArray) W := fun W => Di Tryz.underlying170 HA.out hq W
   have a2 := zH (HA.out.at hq);have b8 := zH (bh a2.out);have b7 : Hid ((a8 q).toArray.size = 41) := zH (by rw [List.size_toArray, aa a2.out]);have a0 : Hid (m4 was now (k + 1) (was.drop (k + 1)) (if Bl was now k q = true then oldS s2 q else s2) = r) := zH (by rw [← zw, ← K4 hq]; exact ag.out);have ai : Hid (k ≤ 8) := zH b2;clear hq ag
   go_upto_region 4 with (first | (refine wpList_store_row rfl 28 (.tmp 7) (.tmp 12) rfl wr.heap.size (a8 q).toArray rfl rfl 28 _ (heap_alloc_new wr _) b8.out (by rw [b7.out]; rfl) (bb q) ?_) | fail)
   refine (fun (k : ∀ W, LqS L w D obj was now GM GA GB s2 q wr.heap.size W → Code.wp _ _ _ _ W) => k _ ⟨aj.out.below (ar wr _ (a8 q) 28).2, (ar wr _ (a8 q) 28).1⟩) ?_;intro X5 hX5;obtain ⟨gq, b1⟩ : ∃ g, wr.heap.size = g := ⟨_, rfl⟩;rw [b1] at hX5 ⊢;have a7 := zH hX5;clear hX5 b1 aj;have a5 : ∀ X, LqS L w D obj was now GM GA GB s2 q gq X → Calls Tryz.prog 94 #[.agg (a8 q).toArray] X fun e w' => e = .returned (.bool (eqP q zeroP)) ∧ Below X.heap.size X w' := fun X _ => fk q a2.out X
   have ab : ∀ X, LqS L w D obj was now GM GA GB s2 q gq X → Calls Tryz.prog 130 #[.slice (some ⟨GB, 0, none⟩) 8 8, .agg (a8 q).toArray] X fun e w' => e = .returned (.bool (Ez now q)) ∧ Below X.heap.size X w' := fun X hX => by
    have h1 := Bv HB.out hX.ls.b 8 (Nat.le_refl _);rw [List.take_of_length_le (by rw [HB.out.len]; omega)] at h1;exact u0 now _ q a2.out HB.out.ok (by rw [HB.out.len]; omega) X h1
   have ad : ∀ X, LqS L w D obj was now GM GA GB s2 q gq X → Calls Tryz.prog 130 #[.slice (some ⟨GA, 0, none⟩) k 8, .agg (a8 q).toArray] X fun e w' => e = .returned (.bool (Ez (was.take k) q)) ∧ Below X.heap.size X w' := fun X hX =>
    u0 (was.take k) _ q a2.out (fun p hp => HA.out.ok p (List.mem_of_mem_take hp)) (by rw [List.length_take]; omega) X (Bv HA.out hX.ls.a k ai.out)
   have al : Bl was now k q = (!eqP q zeroP && !Ez now q && !Ez (was.take k) q) := rfl;obtain ⟨bA, am⟩ : ∃ b, eqP q zeroP = b := ⟨_, rfl⟩;obtain ⟨bB, an⟩ : ∃ b, Ez now q = b := ⟨_, rfl⟩;obtain ⟨bC, ao⟩ : ∃ b, Ez (was.take k) q = b := ⟨_, rfl⟩;rw [am, an, ao] at al;have a6 := zH al;rw [am] at a5;rw [an] at ab;rw [ao] at ad;clear al am an ao;cases bA
   ·cases bB
    ·cases bC
     ·have a1 : LqS L w D obj was now GM GA GB s2 q gq X5.drew := a7.out.below (Below.refl _ _).drew
      refine gS (.take 0 (.step 1 (.take 2 (.take 3 (.take 4 (.take 5 (.step 6 (.take 7 (.take 8 (.take 9 (.take 10 (.take 11 (.take 12 (.step 13 (.take 14 (.take 15 (.nil))))))))))))))))) (LqS L w D obj was now GM GA GB s2 q gq) (a1) ?_;refine gU (.agg (a8 q).toArray) rfl (fun X hX => ax a2.out hX.q rfl rfl) ?_;refine ji _ rfl (by rfl) 94 #[.agg (a8 q).toArray] (fun X => by go_simp) LqS.stable a1 (.bool false) (a5 _ a1) ?_;intro Y1 hx1; try simp only [pS]
      refine gT (.bool true) ?_;refine gT (.bool true) ?_;refine gU (.slice (some ⟨GB, 0, none⟩) 8 8) rfl (fun X hX => Cs rfl rfl) ?_;refine gU (.agg (a8 q).toArray) rfl (fun X hX => ax a2.out hX.q rfl rfl) ?_;refine ji _ rfl (by rfl) 130 #[.slice (some ⟨GB, 0, none⟩) 8 8, .agg (a8 q).toArray] (fun X => by go_simp) LqS.stable hx1 (.bool false) (ab _ hx1) ?_;intro Y2 hx2; try simp only [pS]
      refine gT (.bool true) ?_;refine gT (.bool true) ?_;refine gT (.bool true) ?_;refine gT (.int .i64 (k : Int)) ?_;refine gU (.slice (some ⟨GA, 0, none⟩) k 8) rfl (fun X hX => Ks ai.out rfl rfl rfl) ?_;refine gU (.agg (a8 q).toArray) rfl (fun X hX => ax a2.out hX.q rfl rfl) ?_;refine ji _ rfl (by rfl) 130 #[.slice (some ⟨GA, 0, none⟩) k 8, .agg (a8 q).toArray] (fun X => by go_simp) LqS.stable hx2 (.bool false) (ad _ hx2) ?_;intro Y3 hx3; try simp only [pS]
      refine gT (.bool true) ?_;refine gT (.bool true) ?_;refine au ?_;have a4 := zH hx3;rw [a6.out] at a0;have a3 : Hid (m4 was now (k + 1) (was.drop (k + 1)) (oldS s2 q) = r) := zH (by have h1 := a0.out; rw [if_pos (by rfl)] at h1; exact h1);clear a7 a5 ab ad a0 a6;obtain ⟨⟨⟨L6, v6, e1, e2, e3⟩, e4, e5, e6⟩, e7⟩ := a4.out;have av := zH (Bu q a2.out e1 (by have := af.out.gn; have := HM.out; omega));have aq : Hid (∀ Y, ShPost 5 L6 Y3 D (oldS s2 q) Y → LsS L w D obj was now GM GA GB (oldS s2 q) Y) := zH (fun Y hY => a4.out.ls.moved e2 e3 hY);have c0 : Y3.cell? ⟨GM, 0, none⟩ = some (.iface 45 (.pointer (some ⟨D, 0, none⟩))) := e4.cell rfl;clear e1 e2 e3 e4 e5 e6 e7 a1 hx1 hx2 hx3
      go_wp2_with (first | (refine a9 rfl (ax a2.out a4.out.q rfl rfl) ?_) | fail)
      refine av.out.mono ?_;rintro e X8 ⟨rfl, b5⟩;have b6 := zH (aq.out X8 b5);clear b5 av aq a4 c0
      go_wp2_with fail
      go_roundw
      case rel => exact ⟨k + 1, oldS s2 q, by omega, by go_num, a3.out, b6.out, af.out.oldS (by have := HM.out; omega)⟩
      case measure => simp [intOf]; omega
     ·have a1 : LqS L w D obj was now GM GA GB s2 q gq X5.drew := a7.out.below (Below.refl _ _).drew
      refine gS (.take 0 (.step 1 (.take 2 (.take 3 (.take 4 (.take 5 (.step 6 (.take 7 (.take 8 (.take 9 (.take 10 (.take 11 (.take 12 (.step 13 (.take 14 (.take 15 (.nil))))))))))))))))) (LqS L w D obj was now GM GA GB s2 q gq) (a1) ?_;refine gU (.agg (a8 q).toArray) rfl (fun X hX => ax a2.out hX.q rfl rfl) ?_;refine ji _ rfl (by rfl) 94 #[.agg (a8 q).toArray] (fun X => by go_simp) LqS.stable a1 (.bool false) (a5 _ a1) ?_;intro Y1 hx1; try simp only [pS]
      refine gT (.bool true) ?_;refine gT (.bool true) ?_;refine gU (.slice (some ⟨GB, 0, none⟩) 8 8) rfl (fun X hX => Cs rfl rfl) ?_;refine gU (.agg (a8 q).toArray) rfl (fun X hX => ax a2.out hX.q rfl rfl) ?_;refine ji _ rfl (by rfl) 130 #[.slice (some ⟨GB, 0, none⟩) 8 8, .agg (a8 q).toArray] (fun X => by go_simp) LqS.stable hx1 (.bool false) (ab _ hx1) ?_;intro Y2 hx2; try simp only [pS]
      refine gT (.bool true) ?_;refine gT (.bool true) ?_;refine gT (.bool true) ?_;refine gT (.int .i64 (k : Int)) ?_;refine gU (.slice (some ⟨GA, 0, none⟩) k 8) rfl (fun X hX => Ks ai.out rfl rfl rfl) ?_;refine gU (.agg (a8 q).toArray) rfl (fun X hX => ax a2.out hX.q rfl rfl) ?_;refine ji _ rfl (by rfl) 130 #[.slice (some ⟨GA, 0, none⟩) k 8, .agg (a8 q).toArray] (fun X => by go_simp) LqS.stable hx2 (.bool true) (ad _ hx2) ?_;intro Y3 hx3; try simp only [pS]
      refine gT (.bool false) ?_;refine gT (.bool false) ?_;refine au ?_;have a4 := zH hx3;rw [a6.out] at a0;have a3 : Hid (m4 was now (k + 1) (was.drop (k + 1)) s2 = r) := zH (by have h1 := a0.out; rw [if_neg (by simp)] at h1; exact h1);clear a7 a5 ab ad a0 a6 a1 hx1 hx2 hx3
      go_wp2_with fail
      go_roundw
      case rel => exact ⟨k + 1, s2, by omega, by go_num, a3.out, a4.out.ls, af.out.mono (by omega) (by have := HM.out; omega)⟩
      case measure => simp [intOf]; omega
    ·have a1 : LqS L w D obj was now GM GA GB s2 q gq X5.drew := a7.out.below (Below.refl _ _).drew
     refine gS (.take 0 (.step 1 (.take 2 (.take 3 (.take 4 (.take 5 (.step 6 (.take 7 (.take 8 (.take 9 (.take 10 (.take 11 (.take 12 (.step 13 (.take 14 (.take 15 (.nil))))))))))))))))) (LqS L w D obj was now GM GA GB s2 q gq) (a1) ?_;refine gU (.agg (a8 q).toArray) rfl (fun X hX => ax a2.out hX.q rfl rfl) ?_;refine ji _ rfl (by rfl) 94 #[.agg (a8 q).toArray] (fun X => by go_simp) LqS.stable a1 (.bool false) (a5 _ a1) ?_;intro Y1 hx1; try simp only [pS]
     refine gT (.bool true) ?_;refine gT (.bool true) ?_;refine gU (.slice (some ⟨GB, 0, none⟩) 8 8) rfl (fun X hX => Cs rfl rfl) ?_;refine gU (.agg (a8 q).toArray) rfl (fun X hX => ax a2.out hX.q rfl rfl) ?_;refine ji _ rfl (by rfl) 130 #[.slice (some ⟨GB, 0, none⟩) 8 8, .agg (a8 q).toArray] (fun X => by go_simp) LqS.stable hx1 (.bool true) (ab _ hx1) ?_;intro Y2 hx2; try simp only [pS]
     refine gT (.bool false) ?_;refine gT (.bool false) ?_;refine gT (.bool false) ?_;refine gP ?_;refine gP ?_;refine gP ?_;refine jz _ rfl (by rfl) hx2 ?_; try simp only [pS]
     refine gP ?_;refine gT (.bool false) ?_;refine au ?_;have a4 := zH hx2;rw [a6.out] at a0;have a3 : Hid (m4 was now (k + 1) (was.drop (k + 1)) s2 = r) := zH (by have h1 := a0.out; rw [if_neg (by simp)] at h1; exact h1);clear a7 a5 ab ad a0 a6 a1 hx1 hx2
     go_wp2_with fail
     go_roundw
     case rel => exact ⟨k + 1, s2, by omega, by go_num, a3.out, a4.out.ls, af.out.mono (by omega) (by have := HM.out; omega)⟩
     case measure => simp [intOf]; omega
   ·have a1 : LqS L w D obj was now GM GA GB s2 q gq X5.drew := a7.out.below (Below.refl _ _).drew
    refine gS (.take 0 (.step 1 (.take 2 (.take 3 (.take 4 (.take 5 (.step 6 (.take 7 (.take 8 (.take 9 (.take 10 (.take 11 (.take 12 (.step 13 (.take 14 (.take 15 (.nil))))))))))))))))) (LqS L w D obj was now GM GA GB s2 q gq) (a1) ?_;refine gU (.agg (a8 q).toArray) rfl (fun X hX => ax a2.out hX.q rfl rfl) ?_;refine ji _ rfl (by rfl) 94 #[.agg (a8 q).toArray] (fun X => by go_simp) LqS.stable a1 (.bool true) (a5 _ a1) ?_;intro Y1 hx1; try simp only [pS]
    refine gT (.bool false) ?_;refine gT (.bool false) ?_;refine gP ?_;refine gP ?_;refine jz _ rfl (by rfl) hx1 ?_; try simp only [pS]
    refine gP ?_;refine gT (.bool false) ?_;refine gT (.bool false) ?_;refine gP ?_;refine gP ?_;refine gP ?_;refine jz _ rfl (by rfl) hx1 ?_; try simp only [pS]
    refine gP ?_;refine gT (.bool false) ?_;refine au ?_;have a4 := zH hx1;rw [a6.out] at a0;have a3 : Hid (m4 was now (k + 1) (was.drop (k + 1)) s2 = r) := zH (by have h1 := a0.out; rw [if_neg (by simp)] at h1; exact h1);clear a7 a5 ab ad a0 a6 a1 hx1
    go_wp2_with fail
    go_roundw
    case rel => exact ⟨k + 1, s2, by omega, by go_num, a3.out, a4.out.ls, af.out.mono (by omega) (by have := HM.out; omega)⟩
    case measure => simp [intOf]; omega
  ·obtain rfl : k = 8 := by omega
   have ae := ag.out;rw [List.drop_of_length_le (by rw [HA.out.len]; omega)] at ae;have ae : s2 = r := ae;obtain rfl := ae;obtain ⟨⟨L1, v1, h1, h2, -⟩, -⟩ := aj.out;have HE := zH (HP.out wr ⟨L1, v1, h1, h2⟩ af.out);clear h1 h2 hlt b2 ag;rw [show ((8 : Nat) : Int) = (8 : Int) from rfl]
   go_wp2_with fail
   go_end0;exact HE.out
theorem a1j : (Tryz.prog.info? 145).map (·.size) = some 2 := by kernel_rfl
theorem yk {ρ : Operand → Value} {o : Oper} {x : Operand} {w : World} {t' : TypeId} (hB : Blk w g (bv D obj) t') (ho : o.op = .load 145 x) (hx : ρ x = .pointer (some ⟨g, 0, none⟩)) : (execOp ρ o).run Tryz.prog w = .ok (.value (.agg (bv D obj).toArray)) w :=
 c6 (ty := 145) (cs := bv D obj) ho hx (d9 hB) Tryz.underlying145 rfl (by rw [a1j]; rfl)
structure OlS (L : Nat → Nat) (w : World) (D obj : Nat) (p : Pt) (was now : List Pt) (G : Nat) (s : Sh) (X : World) : Prop where
 sh : ∃ L1 v1, ShAt X L1 D s v1 ∧ Mv 5 L w L1 X ∧ L1 G = 0 ∧ L1 (G + 1) = 0
 mb : Blk X G (bv D obj) 145
 p : Blk X (G + 1) (a8 p) 28
theorem OlS.below {w : World} (h : OlS L w D obj p was now G s X) (hb : Below X.heap.size X Y) : OlS L w D obj p was now G s Y := by
 obtain ⟨⟨L1, v1, h1, h2, h3⟩, k1, k2⟩ := h;exact ⟨⟨L1, v1, h1.below hb, h2.trans (Mv.of_below hb h1.lt), h3⟩, k1.below hb k1.lt, k2.below hb k2.lt⟩
theorem OlS.moved {w : World} (h : OlS L w D obj p was now G s X) (hm : Mv 5 L w L1 X) (hl : L1 G = 0 ∧ L1 (G + 1) = 0) (hp : ShPost 5 L1 X D s' Y) : OlS L w D obj p was now G s' Y := by
 obtain ⟨L2, v2, k1, k2⟩ := hp;exact ⟨⟨L2, v2, k1, hm.trans k2, (k2.old _ h.mb.lt).trans hl.1, (k2.old _ h.p.lt).trans hl.2⟩, k2.blk h.mb hl.1, k2.blk h.p hl.2⟩
theorem OlS.post {w : World} (h : OlS L w D obj p was now G s X) : ShPost 5 L w D s X := by
 obtain ⟨⟨L1, v1, h1, h2, h3⟩, k1, k2⟩ := h;exact ⟨L1, v1, h1, h2⟩
set_option maxRecDepth 100000 in
set_option maxHeartbeats 8000000 in
theorem Qd {w : World} (obj : Nat) (p : Pt) (hp : p.OK) (lv : Nat) (was now : List Pt) (hwas : NOK was) (hnow : NOK now) (h : ShAt w L D s v) (hk : Lim m s) (hm : m + 9 < 100000000) :
  Calls Tryz.prog 98 #[.agg (bv D obj).toArray, .agg (a8 p).toArray, .int .u8 (lv : Int), .agg (ah was).toArray, .agg (ah now).toArray] w (C7 L w D (qr s p lv was now) (m + 9)) := by
 have a4 := zH hp;have HA := zH hwas; have HB := zH hnow;have ab : Below w.heap.size w ((((w.alloc (.cells (bv D obj).toArray 145)).alloc (.cells (a8 p).toArray 28)).alloc (.cells (ah was).toArray 170)).alloc (.cells (ah now).toArray 170)) := ((((Below.refl _ _).alloc (Nat.le_refl _) _).alloc (by simp) _).alloc (by simp; omega) _).alloc (by simp; omega) _
 have HX : Hid (OlS L w D obj p was now w.heap.size s ((((w.alloc (.cells (bv D obj).toArray 145)).alloc (.cells (a8 p).toArray 28)).alloc (.cells (ah was).toArray 170)).alloc (.cells (ah now).toArray 170)) ∧ Blk ((((w.alloc (.cells (bv D obj).toArray 145)).alloc (.cells (a8 p).toArray 28)).alloc (.cells (ah was).toArray 170)).alloc (.cells (ah now).toArray 170)) (w.heap.size + 1 + 1) (ah was) 170 ∧ Blk ((((w.alloc (.cells (bv D obj).toArray 145)).alloc (.cells (a8 p).toArray 28)).alloc (.cells (ah was).toArray 170)).alloc (.cells (ah now).toArray 170)) (w.heap.size + 1 + 1 + 1) (ah now) 170) := zH
  ⟨⟨⟨L, v, h.below ab, Mv.of_below ab h.lt, h.not (Nat.le_refl _), h.not (by omega)⟩, (((Blk.new _ _ _).alloc _).alloc _).alloc _, ((Blk.new' _ _ _ _ _ (by simp) rfl).alloc _).alloc _⟩, (Blk.new' _ _ _ _ _ (by simp) rfl).alloc _, Blk.new' _ _ _ _ _ (by simp) rfl⟩
 have HK := zH hk; have HM := zH hm;obtain ⟨r, hr⟩ : ∃ r, qr s p lv was now = r := ⟨_, rfl⟩;have HR := zH hr;rw [hr];generalize hPost : C7 L w D r (m + 9) = Post;have HP : Hid (∀ w', ShPost 5 L w D r w' → Lim (m + 9) r → Post (.returned (.tuple #[])) w') := zH fun w' h2 h3 => by rw [← hPost]; exact ⟨rfl, h2, h3⟩
 clear hp hwas hnow h hk hm hr hPost ab
 -- behind lost, or not
 have a1 : Hid (∀ s2 X, r = (if eqP p zeroP = true then s2 else oldS s2 p) → OlS L w D obj p was now w.heap.size s2 X → Lim (m + 8) s2 → (eqP p zeroP = true → Post (.returned (.tuple #[])) X) ∧ (eqP p zeroP = false → ∃ L1, Mv 5 L w L1 X ∧ L1 w.heap.size = 0 ∧ Calls Tryz.prog 151 #[.pointer (some ⟨D, 0, none⟩), .agg (a8 p).toArray] X fun e w' => e = .returned (.tuple #[]) ∧ Post (.returned (.tuple #[])) w')) := zH (by
  intro s2 X hr2 hX hl;refine ⟨fun hz => HP.out X (by rw [hr2, if_pos hz]; exact hX.post) (by rw [hr2, if_pos hz]; exact hl.mono (by omega) HM.out), fun hz => ?_⟩;obtain ⟨⟨L1, v1, h1, h2, h3⟩, k1, k2⟩ := hX;refine ⟨L1, h2, h3.1, (Bu p a4.out h1 (by have := hl.gn; have := HM.out; omega)).mono ?_⟩;rintro e w' ⟨rfl, hp⟩;refine ⟨rfl, HP.out w' ?_ ?_⟩
  ·rw [hr2, if_neg (by rw [hz]; decide)]
   exact ShPost.mv h2 hp
  ·rw [hr2, if_neg (by rw [hz]; decide)]
   exact hl.oldS HM.out)
 clear HP;go_enter Tryz.func98, Tryz.ntmps98
 go_upto_region 1 with fail
 refine (fun (k : ∀ W, (OlS L w D obj p was now w.heap.size s W ∧ Blk W (w.heap.size + 1 + 1) (ah was) 170 ∧ Blk W (w.heap.size + 1 + 1 + 1) (ah now) 170) → Code.wp _ _ _ _ W) => k _ HX.out) ?_;intro W hW;obtain ⟨G, hG⟩ : ∃ g, w.heap.size = g := ⟨_, rfl⟩;rw [hG] at hW a1 ⊢;have a5 := zH hW.1; have ad := zH hW.2.1; have ae := zH hW.2.2;clear hW HX hG;have a3 : Hid (∀ s2 X, r = (if eqP p zeroP = true then s2 else oldS s2 p) → OlS L w D obj p was now G s2 X → Lim (m + 8) s2 → True) := zH (fun _ _ _ _ _ => trivial);by_cases h1 : lv = 1
 ·subst h1
  have a7 : Hid (r = (if eqP p zeroP = true then um s was now else oldS (um s was now) p)) := zH (by rw [← HR.out]; unfold qr; rfl);obtain ⟨⟨L1, v1, e1, e2, e3⟩, e4, e5⟩ := a5.out;have af := zH (Jd obj was now HA.out HB.out e1 HK.out (by have := HM.out; omega));have ag : Hid (∀ Y, ShPost 5 L1 W D (um s was now) Y → OlS L w D obj p was now G (um s was now) Y) := zH (fun Y hY => a5.out.moved e2 e3 hY);clear e1 e2 e3 e4 e5 HR a3
  go_wp2_with (first | (refine a9 rfl (yk a5.out.mb rfl rfl) ?_) | (refine a9 rfl (gx HA.out ad.out rfl rfl) ?_) | (refine a9 rfl (gx HB.out ae.out rfl rfl) ?_) | fail)
  refine af.out.mono ?_;rintro e X2 ⟨rfl, aj, ai⟩;have aa := zH (ag.out X2 aj);have ak := zH ai;clear aj ai af ag a5 ad ae
  go_wp2_with (first | (refine a9 rfl (ax a4.out aa.out.p rfl rfl) ?_) | fail)
  refine (fk p a4.out X2).mono ?_;rintro e X3 ⟨rfl, a6⟩;have a2 := zH (aa.out.below a6);have HT := a1.out _ X3 a7.out a2.out ak.out;clear a6 aa;cases hz : eqP p zeroP
  ·obtain ⟨L3, e1, e2, hc⟩ := HT.2 hz
   have HC := zH hc;have c0 : X3.cell? ⟨G, 0, none⟩ = some (.iface 45 (.pointer (some ⟨D, 0, none⟩))) := a2.out.mb.cell rfl;clear HT e1 e2 hc
   go_wp2_with (first | (refine a9 rfl (ax a4.out a2.out.p rfl rfl) ?_) | fail)
   refine HC.out.mono ?_;rintro e X4 ⟨rfl, a0⟩;have HE := zH a0;clear a0 c0 a2 HC
   go_wp2_with fail
   first | exact HE.out | (go_end0; exact HE.out)
  ·have HE := zH (HT.1 hz)
   clear HT
   go_wp2_with fail
   first | exact HE.out | (go_end0; exact HE.out)
 ·have a7 : Hid (r = (if eqP p zeroP = true then s else oldS s p)) := zH (by rw [← HR.out]; unfold qr; rw [if_neg h1])
  have al : ((lv : Int) == 1) = false := (by simp; omega);clear HR a3 h1
  go_wp2_with (first | (refine a9 rfl (ax a4.out a5.out.p rfl rfl) ?_) | fail)
  refine (fk p a4.out W).mono ?_;rintro e X3 ⟨rfl, a6⟩;have a2 := zH (a5.out.below a6);have HT := a1.out _ X3 a7.out a2.out (HK.out.mono (by omega) (by have := HM.out; omega));clear a6 a5;cases hz : eqP p zeroP
  ·obtain ⟨L3, e1, e2, hc⟩ := HT.2 hz
   have HC := zH hc;have c0 : X3.cell? ⟨G, 0, none⟩ = some (.iface 45 (.pointer (some ⟨D, 0, none⟩))) := a2.out.mb.cell rfl;clear HT e1 e2 hc
   go_wp2_with (first | (refine a9 rfl (ax a4.out a2.out.p rfl rfl) ?_) | fail)
   refine HC.out.mono ?_;rintro e X4 ⟨rfl, a0⟩;have HE := zH a0;clear a0 c0 a2 HC
   go_wp2_with fail
   first | exact HE.out | (go_end0; exact HE.out)
  ·have HE := zH (HT.1 hz)
   clear HT
   go_wp2_with fail
   first | exact HE.out | (go_end0; exact HE.out)
def km (lv obj off : Nat) : Pt := { zeroP with kind := 3, level := lv, obj := obj, off := off }
theorem sx (h1 : lv < 256) (h2 : obj < 65536) (h3 : off < 4294967296) : (km lv obj off).OK :=
 ⟨by simp [km], h1, h2, h3, by simp [km, zeroP], by simp [km, zeroP], by simp [km, zeroP], fun x hx => by simp [km, zeroP] at hx; subst hx; omega⟩
def anP (s : Sh) (ns : List Pt) (lv obj off : Nat) : Pt := if ns = holes then zeroP else if jy ns = false then zeroP else nwP s (km lv obj off) (co ns)
def anE (s : Sh) (ns : List Pt) : Nat := if ns = holes then 0 else if jy ns = false then 5 else nwE s
def anS (s : Sh) (ns : List Pt) (lv obj off : Nat) : Sh := if ns = holes then s else if jy ns = false then s else nwS s (km lv obj off) (co ns)
theorem Lim.nwS {b : Bs} (h : Lim m s) (hm : m + 1 < 100000000) : Lim (m + 1) (nwS s p b) := by
 unfold Go.Proofs.YtjgjohdeeeoeoaaGreatDoor.nwS;split
 ·exact h.mono (by omega) hm
 ·rename_i hf
  unfold ja at hf;have := h.rm;exact ⟨Nat.le_trans h.rd (by omega), by have := h.md; simp; omega, Nat.le_trans h.gn (by omega), hm, by have := h.bl; simp; omega, h.bd, by show -1 ≤ max (s.room - 1) (-1) ∧ max (s.room - 1) (-1) ≤ 1000; omega⟩
theorem Tx {b : Bs} (h : nwE s ≠ 0) : nwP s p b = zeroP := by
 unfold nwP;unfold nwE at h;split
 ·rfl
 ·rename_i hf; rw [if_neg hf] at h; exact absurd rfl h
structure AnS (L : Nat → Nat) (w : World) (D obj : Nat) (ns : List Pt) (G : Nat) (s : Sh) (X : World) : Prop where
 sh : ∃ L1 v1, ShAt X L1 D s v1 ∧ Mv 5 L w L1 X ∧ L1 G = 0 ∧ L1 (G + 1) = 0 ∧ L1 (G + 1 + 1) = 0
 mb : Blk X G (bv D obj) 145
 nd : Blk X (G + 1) (ah ns) 170
 res : Blk X (G + 1 + 1) (a8 zeroP) 28
 lo : w.heap.size ≤ G
theorem AnS.below {w : World} (h : AnS L w D obj ns G s X) (hb : Below X.heap.size X Y) : AnS L w D obj ns G s Y := by
 obtain ⟨⟨L1, v1, h1, h2, h3⟩, k1, k2, k3, k4⟩ := h;exact ⟨⟨L1, v1, h1.below hb, h2.trans (Mv.of_below hb h1.lt), h3⟩, k1.below hb k1.lt, k2.below hb k2.lt, k3.below hb k3.lt, k4⟩
theorem AnS.moved {w : World} (h : AnS L w D obj ns G s X) (hm : Mv 5 L w L1 X) (hl : L1 G = 0 ∧ L1 (G + 1) = 0 ∧ L1 (G + 1 + 1) = 0) (hp : ShPost 5 L1 X D s' Y) : AnS L w D obj ns G s' Y := by
 obtain ⟨L2, v2, k1, k2⟩ := hp;exact ⟨⟨L2, v2, k1, hm.trans k2, (k2.old _ h.mb.lt).trans hl.1, (k2.old _ h.nd.lt).trans hl.2.1, (k2.old _ h.res.lt).trans hl.2.2⟩, k2.blk h.mb hl.1, k2.blk h.nd hl.2.1, k2.blk h.res hl.2.2, h.lo⟩
theorem AnS.ends {w : World} (h : AnS L w D obj ns G s X) (q : Pt) : ShPost 5 L w D s (X.setRow (G + 1 + 1) (a8 q).toArray) ∧ Blk (X.setRow (G + 1 + 1) (a8 q).toArray) (G + 1 + 1) (a8 q) 28 := by
 obtain ⟨⟨L1, v1, h1, h2, h3⟩, k1, k2, k3, k4⟩ := h;have hc := tf X (G + 1 + 1) (a8 q).toArray;have hz : (X.setRow (G + 1 + 1) (a8 q).toArray).heap.size = X.heap.size := by simp
 refine ⟨⟨L1, v1, h1.out hc (fun g e _ => .inl (by rw [e]; exact h3.2.2)) (fun _ _ => .inl rfl) (fun g hg => by rw [hz]; exact h1.lt g hg), ?_⟩, k3.row _⟩;exact ⟨h2.chg.trans hc (fun g e => by right; have : g = G + 1 + 1 := e; omega), h2.old, h2.new⟩
def C2 (L : Nat → Nat) (w : World) (D : Nat) (s : Sh) (ns : List Pt) (lv obj off m : Nat) (e : Ending) (w' : World) : Prop :=
 e = .returned (.tuple #[.agg (a8 (anP s ns lv obj off)).toArray, .int .i64 (anE s ns : Int)]) ∧ ShPost 5 L w D (anS s ns lv obj off) w' ∧ Lim m (anS s ns lv obj off)
theorem Mg (lv obj off : Nat) : Tryz.prog.built 28 [(0, .int .u8 3), (1, .int .u8 (lv : Int)), (2, .int .u16 (obj : Int)), (3, .int .u32 (off : Int))] = some (a8 (km lv obj off)).toArray := by kernel_rfl
theorem Wy {ρ : Operand → Value} {o : Oper} {x y z u : Operand} {w : World} (ho : o.op = .build 28 #[(0, x), (1, y), (2, z), (3, u)]) (hx : ρ x = .int .u8 3) (hy : ρ y = .int .u8 (lv : Int)) (hz : ρ z = .int .u16 (obj : Int)) (hu : ρ u = .int .u32 (off : Int)) :
  (execOp ρ o).run Tryz.prog w = .ok (.value (.agg (a8 (km lv obj off)).toArray)) w := by
 have hr : (Instr.build 28 #[(0, .int .u8 3), (1, .int .u8 (lv : Int)), (2, .int .u16 (obj : Int)), (3, .int .u32 (off : Int))]).run Tryz.prog w = .ok (.agg (a8 (km lv obj off)).toArray) w := run_build w 28 _ _ (Mg lv obj off);unfold execOp;simp only [ho];rw [show (Array.map (fun x : Nat × Operand => (x.1, ρ x.2)) #[(0, x), (1, y), (2, z), (3, u)]) = #[(0, .int .u8 3), (1, .int .u8 (lv : Int)), (2, .int .u16 (obj : Int)), (3, .int .u32 (off : Int))] by simp [hx, hy, hz, hu]];simp only [Sem.run_bind, hr, Result.andThen_ok, Sem.run_pure]
set_option maxRecDepth 100000 in
set_option maxHeartbeats 8000000 in
theorem Jb {w : World} (obj : Nat) (ns : List Pt) (hns : NOK ns) (lv off : Nat) (hlv : lv < 256) (hobj : obj < 65536) (hoff : off < 4294967296) (h : ShAt w L D s v) (hk : Lim m s) (hm : m + 1 < 100000000) :
  Calls Tryz.prog 99 #[.agg (bv D obj).toArray, .agg (ah ns).toArray, .int .u8 (lv : Int), .int .u32 (off : Int)] w (C2 L w D s ns lv obj off (m + 1)) := by
 have HA := zH hns
 have HX : Hid (∀ z, z = (a8 zeroP).toArray → AnS L w D obj ns w.heap.size s (((w.alloc (.cells (bv D obj).toArray 145)).alloc (.cells (ah ns).toArray 170)).alloc (.cells z 28))) := zH (fun z hz => by
  subst hz;have bf : Below w.heap.size w (((w.alloc (.cells (bv D obj).toArray 145)).alloc (.cells (ah ns).toArray 170)).alloc (.cells (a8 zeroP).toArray 28)) := (((Below.refl _ _).alloc (Nat.le_refl _) _).alloc (by simp) _).alloc (by simp; omega) _
  exact ⟨⟨L, v, h.below bf, Mv.of_below bf h.lt, h.not (Nat.le_refl _), h.not (by omega), h.not (by omega)⟩, ((Blk.new _ _ _).alloc _).alloc _, (Blk.new' _ _ _ _ _ (by simp) rfl).alloc _, Blk.new' _ _ _ _ _ (by simp) rfl, Nat.le_refl _⟩)
 have HK := zH hk; have HM := zH hm;have b5 : Hid (km lv obj off).OK := zH (sx hlv hobj hoff);have aj := zH (bh ak);obtain ⟨rp, ap⟩ : ∃ r, anP s ns lv obj off = r := ⟨_, rfl⟩;obtain ⟨re, ao⟩ : ∃ r, anE s ns = r := ⟨_, rfl⟩;obtain ⟨rs, aq⟩ : ∃ r, anS s ns lv obj off = r := ⟨_, rfl⟩;have a3 := zH ap; have a2 := zH ao; have a4 := zH aq;generalize hPost : C2 L w D s ns lv obj off (m + 1) = Post;have HP : Hid (∀ w', ShPost 5 L w D rs w' → Lim (m + 1) rs → Post (.returned (.tuple #[.agg (a8 rp).toArray, .int .i64 (re : Int)])) w') := zH fun w' h2 h3 => by rw [← hPost]; unfold C2; rw [ap, ao, aq]; exact ⟨rfl, h2, h3⟩
 have bq : Hid (lv < 256 ∧ obj < 65536 ∧ off < 4294967296) := zH ⟨hlv, hobj, hoff⟩;clear hns h hk hm hPost ap ao aq hlv hobj hoff;go_enter Tryz.func99, Tryz.ntmps99
 go_upto_region 1 with fail
 refine (fun (k : ∀ W, AnS L w D obj ns w.heap.size s W → Code.wp _ _ _ _ W) => k _ (HX.out _ rfl)) ?_;intro W hW;obtain ⟨G, hG⟩ : ∃ g, w.heap.size = g := ⟨_, rfl⟩;rw [hG] at hW ⊢;have al := zH hW;clear hW HX hG
 go_wp2_with (first | (refine a9 rfl (gx HA.out al.out.nd rfl rfl) ?_) | fail)
 refine (Mo ns HA.out W).mono ?_;rintro e X2 ⟨rfl, b8⟩;have a5 := zH (al.out.below b8);have b2 := zH a5.out.res;clear b8 al;by_cases hh : ns = holes
 ·have a0 := zH (a5.out.ends zeroP)
  have e1 : rp = zeroP := (by rw [← a3.out]; unfold anP; rw [if_pos hh]);have e2 : re = 0 := (by rw [← a2.out]; unfold anE; rw [if_pos hh]);have e3 : rs = s := (by rw [← a4.out]; unfold anS; rw [if_pos hh]);rw [e1, e2, e3] at HP;have HE := zH (HP.out _ a0.out.1 (HK.out.mono (by omega) HM.out));rw [decide_eq_true hh];clear e1 e2 e3 HP hh a3 a2 a4
  go_wp2_with (first | (refine a9 rfl (bj rfl) ?_) | (refine wpList_store_row rfl 28 (.tmp 8) (.tmp 15) rfl (G + 1 + 1) (a8 zeroP).toArray rfl rfl 28 _ b2.out aj.out rfl (bb zeroP) ?_) | fail)
  refine bodyPost_ret (b9 Tryz.results99 _ _ (G + 1 + 1) 28 _ rfl a0.out.2 (bo ak)) rfl ?_;exact HE.out
 ·rw [decide_eq_false hh]
  have a1 : Hid (¬ ns = holes) := zH hh;clear hh;obtain ⟨⟨L1, v1, h1, h2, h3⟩, -⟩ := a5.out;have b1 := zH (F7 ns HA.out X2 h1.tab.1);have ay := zH h1.lt;have az := zH h2; have bi := zH h3; have b3 := zH h1;clear h1 h2 h3
  go_wp2_with (first | (refine a9 rfl (gx HA.out a5.out.nd rfl rfl) ?_) | fail)
  refine b1.out.mono ?_;rintro e X3 ⟨bp, ai⟩;have a6 := zH (a5.out.below ai);have ae := zH (b3.out.below ai);have a7 := zH (az.out.trans (Mv.of_below ai ay.out));have ab := zH a6.out.res;clear ai b1 b3 az b2;rcases bp with ⟨hok, vv, rfl, hown⟩ | ⟨hno, rfl⟩
  ·obtain ⟨sp, bn, rfl, q1, q2, q3, q4, q5⟩ := OwnB.form hown
   have an : (co ns).length = 512 := by rw [jf HA.out.ok, HA.out.len]
   have af := Bt (km lv obj off) b5.out (co ns) sp bn ae.out (by have := HK.out.md; have := HM.out; omega) HK.out.bl HK.out.rm (by omega) q3 q4 (fun a ha => ⟨(q5 a ha).2, .inl (by
    have h1 := (q5 a ha).1;have h2 := ay.out a.block
    omega)⟩)
   obtain ⟨bl, ba⟩ : ∃ n, (co ns).length = n := ⟨_, rfl⟩;rw [ba] at af ⊢;have e1 : nwP s (km lv obj off) (co ns) = rp := (by rw [← a3.out]; unfold anP; rw [if_neg a1.out, if_neg (by rw [hok]; decide)]);have e2 : nwE s = re := (by rw [← a2.out]; unfold anE; rw [if_neg a1.out, if_neg (by rw [hok]; decide)]);have e3 : nwS s (km lv obj off) (co ns) = rs := (by rw [← a4.out]; unfold anS; rw [if_neg a1.out, if_neg (by rw [hok]; decide)]);unfold yx at af;rw [e1, e2, e3] at af;have b0 := zH af;have ag : Hid rp.OK := zH (by rw [← e1]; exact zz b5.out _);have bk : Hid (re ≠ 0 → rp = zeroP) := zH (fun h => by rw [← e1]; exact Tx (by rw [e2]; exact h));have av : Hid (Lim (m + 1) rs) := zH (by rw [← e3]; exact HK.out.nwS HM.out);have c0 : X3.cell? ⟨G, 0, none⟩ = some (.iface 45 (.pointer (some ⟨D, 0, none⟩))) := a6.out.mb.cell rfl;have c1 : X3.cell? ⟨G, 1, none⟩ = some (.int .u16 (obj : Int)) := a6.out.mb.cell rfl;clear hok hown q1 q2 q3 q4 q5 an af ba e1 e2 e3 a5 a3 a2 a4
   go_wp2_with (first | (refine a9 rfl (Wy (lv := lv) (obj := obj) (off := off) rfl rfl rfl rfl rfl) ?_) | fail)
   refine b0.out.mono ?_;rintro e X4 ⟨rfl, bd⟩;have b6 := zH (a6.out.moved a7.out bi.out bd);clear bd c0 c1 b0 a6 ae a7 ab;have b4 := zH (bh ag.out);have aw : Hid ((a8 rp).toArray.size = 41) := zH (by rw [List.size_toArray, aa ag.out])
   go_upto_region 7 with (first | (refine wpList_store_row rfl 28 (.tmp 12) (.tmp 35) rfl X4.heap.size (a8 rp).toArray rfl rfl 28 _ (heap_alloc_new X4 _) b4.out (by rw [aw.out]; rfl) (bb rp) ?_) | fail)
   refine (fun (k : ∀ W, (AnS L w D obj ns G rs W ∧ Blk W X4.heap.size (a8 rp) 28) → Code.wp _ _ _ _ W) => k _ ⟨b6.out.below (ar X4 _ (a8 rp) 28).2, (ar X4 _ (a8 rp) 28).1⟩) ?_;rintro X5 ⟨au, am⟩;obtain ⟨g5, bc⟩ : ∃ g, X4.heap.size = g := ⟨_, rfl⟩;rw [bc] at am ⊢;have b7 := zH au; have bg := zH am;have ad := zH au.res;clear au am bc b6;by_cases he : re = 0
   ·subst he
    have a0 := zH (b7.out.ends rp);have HE := zH (HP.out _ a0.out.1 av.out);have bm : Hid ((a8 zeroP).toArray.size = (a8 rp).toArray.size) := zH (by rw [aw.out, List.size_toArray, aa ak]);clear HP
    go_wp2_with (first | (refine a9 rfl (ax ag.out bg.out rfl rfl) ?_) | (refine wpList_store_row rfl 28 (.tmp 8) (.tmp 41) rfl (G + 1 + 1) (a8 rp).toArray rfl rfl 28 _ ad.out b4.out bm.out (bb rp) ?_) | fail)
    refine bodyPost_ret (b9 Tryz.results99 _ _ (G + 1 + 1) 28 _ rfl a0.out.2 (bo ag.out)) rfl ?_;exact HE.out
   ·have br : ¬ (re : Int) = 0 := by omega
    have a0 := zH (b7.out.ends zeroP);rw [bk.out he] at HP;have HE := zH (HP.out _ a0.out.1 av.out);clear HP he
    go_wp2_with (first | (refine a9 rfl (bj rfl) ?_) | (refine wpList_store_row rfl 28 (.tmp 8) (.tmp 39) rfl (G + 1 + 1) (a8 zeroP).toArray rfl rfl 28 _ ad.out aj.out rfl (bb zeroP) ?_) | fail)
    refine bodyPost_ret (b9 Tryz.results99 _ _ (G + 1 + 1) 28 _ rfl a0.out.2 (bo ak)) rfl ?_;exact HE.out
  ·have a0 := zH (a6.out.ends zeroP)
   have e1 : rp = zeroP := (by rw [← a3.out]; unfold anP; rw [if_neg a1.out, if_pos hno]);have e2 : re = 5 := (by rw [← a2.out]; unfold anE; rw [if_neg a1.out, if_pos hno]);have e3 : rs = s := (by rw [← a4.out]; unfold anS; rw [if_neg a1.out, if_pos hno]);rw [e1, e2, e3] at HP;have HE := zH (HP.out _ a0.out.1 (HK.out.mono (by omega) HM.out));clear e1 e2 e3 HP hno a3 a2 a4
   go_wp2_with (first | (refine a9 rfl (bj rfl) ?_) | (refine wpList_store_row rfl 28 (.tmp 8) (.tmp 23) rfl (G + 1 + 1) (a8 zeroP).toArray rfl rfl 28 _ ab.out aj.out rfl (bb zeroP) ?_) | fail)
   refine bodyPost_ret (b9 Tryz.results99 _ _ (G + 1 + 1) 28 _ rfl a0.out.2 (bo ak)) rfl ?_;exact HE.out
end Go.Proofs.YtjgjohdeeeoeoaaGreatDoor
