/- The tree's lost, old. -/
import Derived.Test.YtjgjohdeeeoeoaaGreatDoorM18
namespace Go.Proofs.YtjgjohdeeeoeoaaGreatDoor
open Go.RowKit
attribute [local go_sem] Oper.semAt_some
variable {now ns was : List Pt} {D G GA GB GM b g gq lv m obj off : Nat} {L L1 : Nat → Nat} {p q : Pt} {s s' : Sh} {v : Sv} {X Y : World}
def Ef (l : List Pt) (p : Pt) : Bool := l.any (fun q => eqP p q)
def Bg (was now : List Pt) (i : Nat) (p : Pt) : Bool := !eqP p zeroP && !Ef now p && !Ef (was.take i) p
def mf (was now : List Pt) : Nat → List Pt → Sh → Sh
 | _, [], s => s
 | i, p :: ps, s => mf was now (i + 1) ps (if Bg was now i p = true then oldS s p else s)
def tz (s : Sh) (was now : List Pt) : Sh := mf was now 0 was s
def qk (s : Sh) (p : Pt) (lv : Nat) (was now : List Pt) : Sh := if eqP p zeroP = true then (if lv = 1 then tz s was now else s) else oldS (if lv = 1 then tz s was now else s) p
def bv (D obj : Nat) : List Value := [shI D, .int .u16 (obj : Int)]
structure LsS (L : Nat → Nat) (w : World) (D obj : Nat) (was now : List Pt) (GM GA GB : Nat) (s : Sh) (X : World) : Prop where
 sh : ∃ L1 v1, ShAt X L1 D s v1 ∧ Mv 5 L w L1 X ∧ L1 GM = 0 ∧ L1 GA = 0 ∧ L1 GB = 0
 mb : Blk X GM (bv D obj) 145
 a : Blk X GA (ah was) 170
 b : Blk X GB (ah now) 170
theorem LsS.below {w : World} (h : LsS L w D obj was now GM GA GB s X) (hb : Below X.heap.size X Y) : LsS L w D obj was now GM GA GB s Y := by
 obtain ⟨⟨L1, v1, h1, h2, h3⟩, k1, k2, k3⟩ := h;exact ⟨⟨L1, v1, h1.below hb, h2.trans (Mv.of_below hb h1.lt), h3⟩, k1.below hb k1.lt, k2.below hb k2.lt, k3.below hb k3.lt⟩
theorem LsS.moved {w : World} (h : LsS L w D obj was now GM GA GB s X) (hm : Mv 5 L w L1 X) (hl : L1 GM = 0 ∧ L1 GA = 0 ∧ L1 GB = 0) (hp : ShPost 5 L1 X D s' Y) : LsS L w D obj was now GM GA GB s' Y := by
 obtain ⟨L2, v2, k1, k2⟩ := hp;exact ⟨⟨L2, v2, k1, hm.trans k2, (k2.old _ h.mb.lt).trans hl.1, (k2.old _ h.a.lt).trans hl.2.1, (k2.old _ h.b.lt).trans hl.2.2⟩, k2.blk h.mb hl.1, k2.blk h.a hl.2.1, k2.blk h.b hl.2.2⟩
theorem By {W : World} {t : TypeId} (hn : NOK ns) (h : Blk W g (ah ns) t) (k : Nat) (hk : k ≤ 8) : SrcM W (.slice (some ⟨g, 0, none⟩) k 8) (ns.take k) := by
 have hl : (ns.take k).length = k := by rw [List.length_take, hn.len, Nat.min_eq_left hk]
 refine ⟨some ⟨g, 0, none⟩, 8, by rw [hl], by rw [hl]; exact hk, by unfold maxLen; omega, (fun e => by cases e), fun _ => ⟨g, rfl, h.lt, fun i q hq => ?_⟩⟩;rw [List.getElem?_take] at hq;split at hq
 ·have := Gb hn h hq
  rw [Nat.mul_comm] at this;exact this
 ·cases hq
section
variable {ρ : Operand → Value} {o : Oper} {x y : Operand} {w : World}
theorem C7 (ho : o.op = .slice 170 x none none none) (hx : ρ x = .pointer (some ⟨b, 0, none⟩)) : (execOp ρ o).run Tryz.prog w = .ok (.value (.slice (some ⟨b, 0, none⟩) 8 8)) w := by
 unfold execOp;simp only [ho];go_simp
theorem M4 {k : Nat} (hk : k ≤ 8) (ho : o.op = .slice 170 x none (some y) none) (hx : ρ x = .pointer (some ⟨b, 0, none⟩)) (hy : ρ y = .int .i64 (k : Int)) : (execOp ρ o).run Tryz.prog w = .ok (.value (.slice (some ⟨b, 0, none⟩) k 8)) w := by
 have h1 : ¬ (8 < k) := by omega
 have h2 : (k : Int) ≤ 8 := by omega
 have h3 : (0 : Int) ≤ (k : Int) := by omega
 unfold execOp;simp only [ho];go_simp
end
structure LqS (L : Nat → Nat) (w : World) (D obj : Nat) (was now : List Pt) (GM GA GB : Nat) (s : Sh) (q : Pt) (gq : Nat) (X : World) : Prop where
 ls : LsS L w D obj was now GM GA GB s X
 q : Blk X gq (a8 q) 28
theorem LqS.below {w : World} (h : LqS L w D obj was now GM GA GB s q gq X) (hb : Below X.heap.size X Y) : LqS L w D obj was now GM GA GB s q gq Y := ⟨h.ls.below hb, h.q.below hb h.q.lt⟩
theorem LqS.stable {w : World} : Ul (LqS L w D obj was now GM GA GB s q gq) := fun _ _ h hb => h.below hb
def Dv (L : Nat → Nat) (w : World) (D : Nat) (s' : Sh) (m : Nat) (e : Ending) (w' : World) : Prop := e = .returned (.tuple #[]) ∧ ShPost 5 L w D s' w' ∧ Lim m s'
theorem Lim.oldS (h : Lim m s) (hm : m + 1 < 100000000) : Lim (m + 1) (oldS s p) := ⟨Nat.le_trans h.rd (by omega), Nat.le_trans h.md (by omega), by have := h.gn; simp [Go.Proofs.YtjgjohdeeeoeoaaGreatDoor.oldS]; omega, hm, h.bl, h.bd, h.rm⟩
theorem z8 (was now : List Pt) (i : Nat) (p : Pt) (ps : List Pt) (s : Sh) : mf was now i (p :: ps) s = mf was now (i + 1) ps (if Bg was now i p = true then oldS s p else s) := rfl
set_option maxRecDepth 100000 in
set_option maxHeartbeats 16000000 in
theorem Ij {w : World} (obj : Nat) (was now : List Pt) (hwas : NOK was) (hnow : NOK now) (h : ShAt w L D s v) (hk : Lim m s) (hm : m + 8 < 100000000) :
  Calls Tryz.prog 118 #[.agg (bv D obj).toArray, .agg (ah was).toArray, .agg (ah now).toArray] w (Dv L w D (tz s was now) (m + 8)) := by
 have HA := zH hwas; have HB := zH hnow;have am : Below w.heap.size w (((w.alloc (.cells (bv D obj).toArray 145)).alloc (.cells (ah was).toArray 170)).alloc (.cells (ah now).toArray 170)) := (((Below.refl _ _).alloc (Nat.le_refl _) _).alloc (by simp) _).alloc (by simp; omega) _
 have HX : Hid (LsS L w D obj was now w.heap.size (w.heap.size + 1) (w.heap.size + 1 + 1) s (((w.alloc (.cells (bv D obj).toArray 145)).alloc (.cells (ah was).toArray 170)).alloc (.cells (ah now).toArray 170))) := zH
  ⟨⟨L, v, h.below am, Mv.of_below am h.lt, h.not (Nat.le_refl _), h.not (by omega), h.not (by omega)⟩, ((Blk.new _ _ _).alloc _).alloc _, (Blk.new' _ _ _ _ _ (by simp) rfl).alloc _, Blk.new' _ _ _ _ _ (by simp) rfl⟩
 have HK := zH hk; have HM := zH hm;obtain ⟨r, hr⟩ : ∃ r, tz s was now = r := ⟨_, rfl⟩;have HR : Hid (mf was now 0 was s = r) := zH hr;rw [hr];generalize hPost : Dv L w D r (m + 8) = Post;have HP : Hid (∀ w', ShPost 5 L w D r w' → Lim (m + 8) r → Post (.returned (.tuple #[])) w') := zH fun w' h2 h3 => by rw [← hPost]; exact ⟨rfl, h2, h3⟩
 clear hwas hnow h hk hm hr hPost am;go_enter Tryz.func118, Tryz.ntmps118
 go_upto_region 1 with fail
 refine (fun (k : ∀ W, LsS L w D obj was now w.heap.size (w.heap.size + 1) (w.heap.size + 1 + 1) s W → Code.wp _ _ _ _ W) => k _ HX.out) ?_;intro W hW;obtain ⟨GM, av⟩ : ∃ g, w.heap.size = g := ⟨_, rfl⟩;rw [av] at hW ⊢;obtain ⟨GA, b2⟩ : ∃ g, GM + 1 = g := ⟨_, rfl⟩;rw [b2] at hW ⊢;obtain ⟨GB, b3⟩ : ∃ g, GA + 1 = g := ⟨_, rfl⟩;rw [b3] at hW ⊢;have ap := zH hW;clear hW HX av b2 b3
 go_wp2_with (first | (refine a9 rfl (gt HA.out ap.out.a rfl rfl) ?_) | fail)
 have b1 : Hid (∃ k s2, k ≤ 8 ∧ Value.int .i64 0 = .int .i64 ((k : Nat) : Int) ∧ mf was now k (was.drop k) s2 = r ∧ LsS L w D obj was now GM GA GB s2 W ∧ Lim (m + k) s2) := zH ⟨0, s, by omega, rfl, by rw [List.drop_zero]; exact HR.out, ap.out, HK.out⟩;clear ap HR;go_loopw [9] (fun v wr => ∃ k s2, k ≤ 8 ∧ v = .int .i64 ((k : Nat) : Int) ∧ mf was now k (was.drop k) s2 = r ∧ LsS L w D obj was now GM GA GB s2 wr ∧ Lim (m + k) s2) (fun v _ => 8 - (intOf v).toNat)
 case atStart => exact b1.out
 case round =>
  clear b1;obtain ⟨k, s2, aw, rfl, ae, ay, az⟩ := hrel;have ag := zH ae; have al := zH ay; have af := zH az;clear ae ay az;have ba := IntWalk.i64_in ((k : Int) + 1) (by omega);by_cases hlt : k < 8
  ·obtain ⟨q, hq⟩ := HA.out.get hlt
   have b9 : ∀ W : World, (Instr.index 170 (.agg (ah was).toArray) (.int .i64 (k : Int))).run Tryz.prog W = .ok (.agg (a8 q).toArray) W := fun W => D2 Tryz.underlying170 HA.out hq W
   have a2 := zH (HA.out.at hq);have b6 := zH (bh a2.out);have b7 : Hid ((a8 q).toArray.size = 41) := zH (by rw [List.size_toArray, aa a2.out]);have a0 : Hid (mf was now (k + 1) (was.drop (k + 1)) (if Bg was now k q = true then oldS s2 q else s2) = r) := zH (by rw [← z8, ← Jy hq]; exact ag.out);have ao : Hid (k ≤ 8) := zH aw;clear hq ag
   go_upto_region 4 with (first | (refine wpList_store_row rfl 28 (.tmp 7) (.tmp 12) rfl wr.heap.size (a8 q).toArray rfl rfl 28 _ (heap_alloc_new wr _) b6.out (by rw [b7.out]; rfl) (bb q) ?_) | fail)
   refine (fun (k : ∀ W, LqS L w D obj was now GM GA GB s2 q wr.heap.size W → Code.wp _ _ _ _ W) => k _ ⟨al.out.below (ar wr _ (a8 q) 28).2, (ar wr _ (a8 q) 28).1⟩) ?_;intro X5 hX5;obtain ⟨gq, aq⟩ : ∃ g, wr.heap.size = g := ⟨_, rfl⟩;rw [aq] at hX5 ⊢;have ab := zH hX5;clear hX5 aq al;have a5 : ∀ X, LqS L w D obj was now GM GA GB s2 q gq X → Calls Tryz.prog 94 #[.agg (a8 q).toArray] X fun e w' => e = .returned (.bool (eqP q zeroP)) ∧ Below X.heap.size X w' := fun X _ => fi q a2.out X
   have a6 : ∀ X, LqS L w D obj was now GM GA GB s2 q gq X → Calls Tryz.prog 130 #[.slice (some ⟨GB, 0, none⟩) 8 8, .agg (a8 q).toArray] X fun e w' => e = .returned (.bool (Ef now q)) ∧ Below X.heap.size X w' := fun X hX => by
    have h1 := By HB.out hX.ls.b 8 (Nat.le_refl _);rw [List.take_of_length_le (by rw [HB.out.len]; omega)] at h1;exact vr now _ q a2.out HB.out.ok (by rw [HB.out.len]; omega) X h1
   have ad : ∀ X, LqS L w D obj was now GM GA GB s2 q gq X → Calls Tryz.prog 130 #[.slice (some ⟨GA, 0, none⟩) k 8, .agg (a8 q).toArray] X fun e w' => e = .returned (.bool (Ef (was.take k) q)) ∧ Below X.heap.size X w' := fun X hX =>
    vr (was.take k) _ q a2.out (fun p hp => HA.out.ok p (List.mem_of_mem_take hp)) (by rw [List.length_take]; omega) X (By HA.out hX.ls.a k ao.out)
   have ai : Bg was now k q = (!eqP q zeroP && !Ef now q && !Ef (was.take k) q) := rfl;obtain ⟨bA, ak⟩ : ∃ b, eqP q zeroP = b := ⟨_, rfl⟩;obtain ⟨bB, aj⟩ : ∃ b, Ef now q = b := ⟨_, rfl⟩;obtain ⟨bC, an⟩ : ∃ b, Ef (was.take k) q = b := ⟨_, rfl⟩;rw [ak, aj, an] at ai;have a7 := zH ai;rw [ak] at a5;rw [aj] at a6;rw [an] at ad;clear ai ak aj an;cases bA
   ·cases bB
    ·cases bC
     ·have a1 : LqS L w D obj was now GM GA GB s2 q gq X5.drew := ab.out.below (Below.refl _ _).drew
      refine gS (.take 0 (.step 1 (.take 2 (.take 3 (.take 4 (.take 5 (.step 6 (.take 7 (.take 8 (.take 9 (.take 10 (.take 11 (.take 12 (.step 13 (.take 14 (.take 15 (.nil))))))))))))))))) (LqS L w D obj was now GM GA GB s2 q gq) (a1) ?_;refine gU (.agg (a8 q).toArray) rfl (fun X hX => ax a2.out hX.q rfl rfl) ?_;refine jc _ rfl (by rfl) 94 #[.agg (a8 q).toArray] (fun X => by go_simp) LqS.stable a1 (.bool false) (a5 _ a1) ?_;intro Y1 hx1; try simp only [pS]
      refine gT (.bool true) ?_;refine gT (.bool true) ?_;refine gU (.slice (some ⟨GB, 0, none⟩) 8 8) rfl (fun X hX => C7 rfl rfl) ?_;refine gU (.agg (a8 q).toArray) rfl (fun X hX => ax a2.out hX.q rfl rfl) ?_;refine jc _ rfl (by rfl) 130 #[.slice (some ⟨GB, 0, none⟩) 8 8, .agg (a8 q).toArray] (fun X => by go_simp) LqS.stable hx1 (.bool false) (a6 _ hx1) ?_;intro Y2 hx2; try simp only [pS]
      refine gT (.bool true) ?_;refine gT (.bool true) ?_;refine gT (.bool true) ?_;refine gT (.int .i64 (k : Int)) ?_;refine gU (.slice (some ⟨GA, 0, none⟩) k 8) rfl (fun X hX => M4 ao.out rfl rfl rfl) ?_;refine gU (.agg (a8 q).toArray) rfl (fun X hX => ax a2.out hX.q rfl rfl) ?_;refine jc _ rfl (by rfl) 130 #[.slice (some ⟨GA, 0, none⟩) k 8, .agg (a8 q).toArray] (fun X => by go_simp) LqS.stable hx2 (.bool false) (ad _ hx2) ?_;intro Y3 hx3; try simp only [pS]
      refine gT (.bool true) ?_;refine gT (.bool true) ?_;refine au ?_;have a4 := zH hx3;rw [a7.out] at a0;have a3 : Hid (mf was now (k + 1) (was.drop (k + 1)) (oldS s2 q) = r) := zH (by have h1 := a0.out; rw [if_pos (by rfl)] at h1; exact h1);clear ab a5 a6 ad a0 a7;obtain ⟨⟨⟨L6, v6, e1, e2, e3⟩, e4, e5, e6⟩, e7⟩ := a4.out;have b5 := zH (C0 q a2.out e1 (by have := af.out.gn; have := HM.out; omega));have b4 : Hid (∀ Y, ShPost 5 L6 Y3 D (oldS s2 q) Y → LsS L w D obj was now GM GA GB (oldS s2 q) Y) := zH (fun Y hY => a4.out.ls.moved e2 e3 hY);have c0 : Y3.cell? ⟨GM, 0, none⟩ = some (.iface 45 (.pointer (some ⟨D, 0, none⟩))) := e4.cell rfl;clear e1 e2 e3 e4 e5 e6 e7 a1 hx1 hx2 hx3
      go_wp2_with (first | (refine a9 rfl (ax a2.out a4.out.q rfl rfl) ?_) | fail)
      refine b5.out.mono ?_;rintro e X8 ⟨rfl, b0⟩;have b8 := zH (b4.out X8 b0);clear b0 b5 b4 a4 c0
      go_wp2_with fail
      go_roundw
      case rel => exact ⟨k + 1, oldS s2 q, by omega, by go_num, a3.out, b8.out, af.out.oldS (by have := HM.out; omega)⟩
      case measure => simp [intOf]; omega
     ·have a1 : LqS L w D obj was now GM GA GB s2 q gq X5.drew := ab.out.below (Below.refl _ _).drew
      refine gS (.take 0 (.step 1 (.take 2 (.take 3 (.take 4 (.take 5 (.step 6 (.take 7 (.take 8 (.take 9 (.take 10 (.take 11 (.take 12 (.step 13 (.take 14 (.take 15 (.nil))))))))))))))))) (LqS L w D obj was now GM GA GB s2 q gq) (a1) ?_;refine gU (.agg (a8 q).toArray) rfl (fun X hX => ax a2.out hX.q rfl rfl) ?_;refine jc _ rfl (by rfl) 94 #[.agg (a8 q).toArray] (fun X => by go_simp) LqS.stable a1 (.bool false) (a5 _ a1) ?_;intro Y1 hx1; try simp only [pS]
      refine gT (.bool true) ?_;refine gT (.bool true) ?_;refine gU (.slice (some ⟨GB, 0, none⟩) 8 8) rfl (fun X hX => C7 rfl rfl) ?_;refine gU (.agg (a8 q).toArray) rfl (fun X hX => ax a2.out hX.q rfl rfl) ?_;refine jc _ rfl (by rfl) 130 #[.slice (some ⟨GB, 0, none⟩) 8 8, .agg (a8 q).toArray] (fun X => by go_simp) LqS.stable hx1 (.bool false) (a6 _ hx1) ?_;intro Y2 hx2; try simp only [pS]
      refine gT (.bool true) ?_;refine gT (.bool true) ?_;refine gT (.bool true) ?_;refine gT (.int .i64 (k : Int)) ?_;refine gU (.slice (some ⟨GA, 0, none⟩) k 8) rfl (fun X hX => M4 ao.out rfl rfl rfl) ?_;refine gU (.agg (a8 q).toArray) rfl (fun X hX => ax a2.out hX.q rfl rfl) ?_;refine jc _ rfl (by rfl) 130 #[.slice (some ⟨GA, 0, none⟩) k 8, .agg (a8 q).toArray] (fun X => by go_simp) LqS.stable hx2 (.bool true) (ad _ hx2) ?_;intro Y3 hx3; try simp only [pS]
      refine gT (.bool false) ?_;refine gT (.bool false) ?_;refine au ?_;have a4 := zH hx3;rw [a7.out] at a0;have a3 : Hid (mf was now (k + 1) (was.drop (k + 1)) s2 = r) := zH (by have h1 := a0.out; rw [if_neg (by simp)] at h1; exact h1);clear ab a5 a6 ad a0 a7 a1 hx1 hx2 hx3
      go_wp2_with fail
      go_roundw
      case rel => exact ⟨k + 1, s2, by omega, by go_num, a3.out, a4.out.ls, af.out.mono (by omega) (by have := HM.out; omega)⟩
      case measure => simp [intOf]; omega
    ·have a1 : LqS L w D obj was now GM GA GB s2 q gq X5.drew := ab.out.below (Below.refl _ _).drew
     refine gS (.take 0 (.step 1 (.take 2 (.take 3 (.take 4 (.take 5 (.step 6 (.take 7 (.take 8 (.take 9 (.take 10 (.take 11 (.take 12 (.step 13 (.take 14 (.take 15 (.nil))))))))))))))))) (LqS L w D obj was now GM GA GB s2 q gq) (a1) ?_;refine gU (.agg (a8 q).toArray) rfl (fun X hX => ax a2.out hX.q rfl rfl) ?_;refine jc _ rfl (by rfl) 94 #[.agg (a8 q).toArray] (fun X => by go_simp) LqS.stable a1 (.bool false) (a5 _ a1) ?_;intro Y1 hx1; try simp only [pS]
     refine gT (.bool true) ?_;refine gT (.bool true) ?_;refine gU (.slice (some ⟨GB, 0, none⟩) 8 8) rfl (fun X hX => C7 rfl rfl) ?_;refine gU (.agg (a8 q).toArray) rfl (fun X hX => ax a2.out hX.q rfl rfl) ?_;refine jc _ rfl (by rfl) 130 #[.slice (some ⟨GB, 0, none⟩) 8 8, .agg (a8 q).toArray] (fun X => by go_simp) LqS.stable hx1 (.bool true) (a6 _ hx1) ?_;intro Y2 hx2; try simp only [pS]
     refine gT (.bool false) ?_;refine gT (.bool false) ?_;refine gT (.bool false) ?_;refine gP ?_;refine gP ?_;refine gP ?_;refine ju _ rfl (by rfl) hx2 ?_; try simp only [pS]
     refine gP ?_;refine gT (.bool false) ?_;refine au ?_;have a4 := zH hx2;rw [a7.out] at a0;have a3 : Hid (mf was now (k + 1) (was.drop (k + 1)) s2 = r) := zH (by have h1 := a0.out; rw [if_neg (by simp)] at h1; exact h1);clear ab a5 a6 ad a0 a7 a1 hx1 hx2
     go_wp2_with fail
     go_roundw
     case rel => exact ⟨k + 1, s2, by omega, by go_num, a3.out, a4.out.ls, af.out.mono (by omega) (by have := HM.out; omega)⟩
     case measure => simp [intOf]; omega
   ·have a1 : LqS L w D obj was now GM GA GB s2 q gq X5.drew := ab.out.below (Below.refl _ _).drew
    refine gS (.take 0 (.step 1 (.take 2 (.take 3 (.take 4 (.take 5 (.step 6 (.take 7 (.take 8 (.take 9 (.take 10 (.take 11 (.take 12 (.step 13 (.take 14 (.take 15 (.nil))))))))))))))))) (LqS L w D obj was now GM GA GB s2 q gq) (a1) ?_;refine gU (.agg (a8 q).toArray) rfl (fun X hX => ax a2.out hX.q rfl rfl) ?_;refine jc _ rfl (by rfl) 94 #[.agg (a8 q).toArray] (fun X => by go_simp) LqS.stable a1 (.bool true) (a5 _ a1) ?_;intro Y1 hx1; try simp only [pS]
    refine gT (.bool false) ?_;refine gT (.bool false) ?_;refine gP ?_;refine gP ?_;refine ju _ rfl (by rfl) hx1 ?_; try simp only [pS]
    refine gP ?_;refine gT (.bool false) ?_;refine gT (.bool false) ?_;refine gP ?_;refine gP ?_;refine gP ?_;refine ju _ rfl (by rfl) hx1 ?_; try simp only [pS]
    refine gP ?_;refine gT (.bool false) ?_;refine au ?_;have a4 := zH hx1;rw [a7.out] at a0;have a3 : Hid (mf was now (k + 1) (was.drop (k + 1)) s2 = r) := zH (by have h1 := a0.out; rw [if_neg (by simp)] at h1; exact h1);clear ab a5 a6 ad a0 a7 a1 hx1
    go_wp2_with fail
    go_roundw
    case rel => exact ⟨k + 1, s2, by omega, by go_num, a3.out, a4.out.ls, af.out.mono (by omega) (by have := HM.out; omega)⟩
    case measure => simp [intOf]; omega
  ·obtain rfl : k = 8 := by omega
   have ae := ag.out;rw [List.drop_of_length_le (by rw [HA.out.len]; omega)] at ae;have ae : s2 = r := ae;obtain rfl := ae;obtain ⟨⟨L1, v1, h1, h2, -⟩, -⟩ := al.out;have HE := zH (HP.out wr ⟨L1, v1, h1, h2⟩ af.out);clear h1 h2 hlt aw ag;rw [show ((8 : Nat) : Int) = (8 : Int) from rfl]
   go_wp2_with fail
   go_end0;exact HE.out
theorem a0k : (Tryz.prog.info? 145).map (·.size) = some 2 := by kernel_rfl
theorem ym {ρ : Operand → Value} {o : Oper} {x : Operand} {w : World} {t' : TypeId} (hB : Blk w g (bv D obj) t') (ho : o.op = .load 145 x) (hx : ρ x = .pointer (some ⟨g, 0, none⟩)) : (execOp ρ o).run Tryz.prog w = .ok (.value (.agg (bv D obj).toArray)) w :=
 c6 (ty := 145) (cs := bv D obj) ho hx (d9 hB) Tryz.underlying145 rfl (by rw [a0k]; rfl)
structure OlS (L : Nat → Nat) (w : World) (D obj : Nat) (p : Pt) (was now : List Pt) (G : Nat) (s : Sh) (X : World) : Prop where
 sh : ∃ L1 v1, ShAt X L1 D s v1 ∧ Mv 5 L w L1 X ∧ L1 G = 0 ∧ L1 (G + 1) = 0
 mb : Blk X G (bv D obj) 145
 p : Blk X (G + 1) (a8 p) 28
theorem OlS.below {w : World} (h : OlS L w D obj p was now G s X) (hb : Below X.heap.size X Y) : OlS L w D obj p was now G s Y := by
 obtain ⟨⟨L1, v1, h1, h2, h3⟩, k1, k2⟩ := h;exact ⟨⟨L1, v1, h1.below hb, h2.trans (Mv.of_below hb h1.lt), h3⟩, k1.below hb k1.lt, k2.below hb k2.lt⟩
theorem OlS.moved {w : World} (h : OlS L w D obj p was now G s X) (hm : Mv 5 L w L1 X) (hl : L1 G = 0 ∧ L1 (G + 1) = 0) (hp : ShPost 5 L1 X D s' Y) : OlS L w D obj p was now G s' Y := by
 obtain ⟨L2, v2, k1, k2⟩ := hp;exact ⟨⟨L2, v2, k1, hm.trans k2, (k2.old _ h.mb.lt).trans hl.1, (k2.old _ h.p.lt).trans hl.2⟩, k2.blk h.mb hl.1, k2.blk h.p hl.2⟩
theorem OlS.post {w : World} (h : OlS L w D obj p was now G s X) : ShPost 5 L w D s X := by
 obtain ⟨⟨L1, v1, h1, h2, h3⟩, k1, k2⟩ := h;exact ⟨L1, v1, h1, h2⟩
set_option maxRecDepth 100000 in
set_option maxHeartbeats 8000000 in
theorem Oz {w : World} (obj : Nat) (p : Pt) (hp : p.OK) (lv : Nat) (was now : List Pt) (hwas : NOK was) (hnow : NOK now) (h : ShAt w L D s v) (hk : Lim m s) (hm : m + 9 < 100000000) :
  Calls Tryz.prog 98 #[.agg (bv D obj).toArray, .agg (a8 p).toArray, .int .u8 (lv : Int), .agg (ah was).toArray, .agg (ah now).toArray] w (Dv L w D (qk s p lv was now) (m + 9)) := by
 have a5 := zH hp;have HA := zH hwas; have HB := zH hnow;have ab : Below w.heap.size w ((((w.alloc (.cells (bv D obj).toArray 145)).alloc (.cells (a8 p).toArray 28)).alloc (.cells (ah was).toArray 170)).alloc (.cells (ah now).toArray 170)) := ((((Below.refl _ _).alloc (Nat.le_refl _) _).alloc (by simp) _).alloc (by simp; omega) _).alloc (by simp; omega) _
 have HX : Hid (OlS L w D obj p was now w.heap.size s ((((w.alloc (.cells (bv D obj).toArray 145)).alloc (.cells (a8 p).toArray 28)).alloc (.cells (ah was).toArray 170)).alloc (.cells (ah now).toArray 170)) ∧ Blk ((((w.alloc (.cells (bv D obj).toArray 145)).alloc (.cells (a8 p).toArray 28)).alloc (.cells (ah was).toArray 170)).alloc (.cells (ah now).toArray 170)) (w.heap.size + 1 + 1) (ah was) 170 ∧ Blk ((((w.alloc (.cells (bv D obj).toArray 145)).alloc (.cells (a8 p).toArray 28)).alloc (.cells (ah was).toArray 170)).alloc (.cells (ah now).toArray 170)) (w.heap.size + 1 + 1 + 1) (ah now) 170) := zH
  ⟨⟨⟨L, v, h.below ab, Mv.of_below ab h.lt, h.not (Nat.le_refl _), h.not (by omega)⟩, (((Blk.new _ _ _).alloc _).alloc _).alloc _, ((Blk.new' _ _ _ _ _ (by simp) rfl).alloc _).alloc _⟩, (Blk.new' _ _ _ _ _ (by simp) rfl).alloc _, Blk.new' _ _ _ _ _ (by simp) rfl⟩
 have HK := zH hk; have HM := zH hm;obtain ⟨r, hr⟩ : ∃ r, qk s p lv was now = r := ⟨_, rfl⟩;have HR := zH hr;rw [hr];generalize hPost : Dv L w D r (m + 9) = Post;have HP : Hid (∀ w', ShPost 5 L w D r w' → Lim (m + 9) r → Post (.returned (.tuple #[])) w') := zH fun w' h2 h3 => by rw [← hPost]; exact ⟨rfl, h2, h3⟩
 clear hp hwas hnow h hk hm hr hPost ab
 -- behind lost, or not
 have a1 : Hid (∀ s2 X, r = (if eqP p zeroP = true then s2 else oldS s2 p) → OlS L w D obj p was now w.heap.size s2 X → Lim (m + 8) s2 → (eqP p zeroP = true → Post (.returned (.tuple #[])) X) ∧ (eqP p zeroP = false → ∃ L1, Mv 5 L w L1 X ∧ L1 w.heap.size = 0 ∧ Calls Tryz.prog 151 #[.pointer (some ⟨D, 0, none⟩), .agg (a8 p).toArray] X fun e w' => e = .returned (.tuple #[]) ∧ Post (.returned (.tuple #[])) w')) := zH (by
  intro s2 X hr2 hX hl;refine ⟨fun hz => HP.out X (by rw [hr2, if_pos hz]; exact hX.post) (by rw [hr2, if_pos hz]; exact hl.mono (by omega) HM.out), fun hz => ?_⟩;obtain ⟨⟨L1, v1, h1, h2, h3⟩, k1, k2⟩ := hX;refine ⟨L1, h2, h3.1, (C0 p a5.out h1 (by have := hl.gn; have := HM.out; omega)).mono ?_⟩;rintro e w' ⟨rfl, hp⟩;refine ⟨rfl, HP.out w' ?_ ?_⟩
  ·rw [hr2, if_neg (by rw [hz]; decide)]
   exact ShPost.mv h2 hp
  ·rw [hr2, if_neg (by rw [hz]; decide)]
   exact hl.oldS HM.out)
 clear HP;go_enter Tryz.func98, Tryz.ntmps98
 go_upto_region 1 with fail
 refine (fun (k : ∀ W, (OlS L w D obj p was now w.heap.size s W ∧ Blk W (w.heap.size + 1 + 1) (ah was) 170 ∧ Blk W (w.heap.size + 1 + 1 + 1) (ah now) 170) → Code.wp _ _ _ _ W) => k _ HX.out) ?_;intro W hW;obtain ⟨G, hG⟩ : ∃ g, w.heap.size = g := ⟨_, rfl⟩;rw [hG] at hW a1 ⊢;have a4 := zH hW.1; have aj := zH hW.2.1; have ad := zH hW.2.2;clear hW HX hG;have a3 : Hid (∀ s2 X, r = (if eqP p zeroP = true then s2 else oldS s2 p) → OlS L w D obj p was now G s2 X → Lim (m + 8) s2 → True) := zH (fun _ _ _ _ _ => trivial);by_cases h1 : lv = 1
 ·subst h1
  have aa : Hid (r = (if eqP p zeroP = true then tz s was now else oldS (tz s was now) p)) := zH (by rw [← HR.out]; unfold qk; rfl);obtain ⟨⟨L1, v1, e1, e2, e3⟩, e4, e5⟩ := a4.out;have af := zH (Ij obj was now HA.out HB.out e1 HK.out (by have := HM.out; omega));have ai : Hid (∀ Y, ShPost 5 L1 W D (tz s was now) Y → OlS L w D obj p was now G (tz s was now) Y) := zH (fun Y hY => a4.out.moved e2 e3 hY);clear e1 e2 e3 e4 e5 HR a3
  go_wp2_with (first | (refine a9 rfl (ym a4.out.mb rfl rfl) ?_) | (refine a9 rfl (gt HA.out aj.out rfl rfl) ?_) | (refine a9 rfl (gt HB.out ad.out rfl rfl) ?_) | fail)
  refine af.out.mono ?_;rintro e X2 ⟨rfl, ae, ag⟩;have a7 := zH (ai.out X2 ae);have ak := zH ag;clear ae ag af ai a4 aj ad
  go_wp2_with (first | (refine a9 rfl (ax a5.out a7.out.p rfl rfl) ?_) | fail)
  refine (fi p a5.out X2).mono ?_;rintro e X3 ⟨rfl, a6⟩;have a2 := zH (a7.out.below a6);have HT := a1.out _ X3 aa.out a2.out ak.out;clear a6 a7;cases hz : eqP p zeroP
  ·obtain ⟨L3, e1, e2, hc⟩ := HT.2 hz
   have HC := zH hc;have c0 : X3.cell? ⟨G, 0, none⟩ = some (.iface 45 (.pointer (some ⟨D, 0, none⟩))) := a2.out.mb.cell rfl;clear HT e1 e2 hc
   go_wp2_with (first | (refine a9 rfl (ax a5.out a2.out.p rfl rfl) ?_) | fail)
   refine HC.out.mono ?_;rintro e X4 ⟨rfl, a0⟩;have HE := zH a0;clear a0 c0 a2 HC
   go_wp2_with fail
   first | exact HE.out | (go_end0; exact HE.out)
  ·have HE := zH (HT.1 hz)
   clear HT
   go_wp2_with fail
   first | exact HE.out | (go_end0; exact HE.out)
 ·have aa : Hid (r = (if eqP p zeroP = true then s else oldS s p)) := zH (by rw [← HR.out]; unfold qk; rw [if_neg h1])
  have al : ((lv : Int) == 1) = false := (by simp; omega);clear HR a3 h1
  go_wp2_with (first | (refine a9 rfl (ax a5.out a4.out.p rfl rfl) ?_) | fail)
  refine (fi p a5.out W).mono ?_;rintro e X3 ⟨rfl, a6⟩;have a2 := zH (a4.out.below a6);have HT := a1.out _ X3 aa.out a2.out (HK.out.mono (by omega) (by have := HM.out; omega));clear a6 a4;cases hz : eqP p zeroP
  ·obtain ⟨L3, e1, e2, hc⟩ := HT.2 hz
   have HC := zH hc;have c0 : X3.cell? ⟨G, 0, none⟩ = some (.iface 45 (.pointer (some ⟨D, 0, none⟩))) := a2.out.mb.cell rfl;clear HT e1 e2 hc
   go_wp2_with (first | (refine a9 rfl (ax a5.out a2.out.p rfl rfl) ?_) | fail)
   refine HC.out.mono ?_;rintro e X4 ⟨rfl, a0⟩;have HE := zH a0;clear a0 c0 a2 HC
   go_wp2_with fail
   first | exact HE.out | (go_end0; exact HE.out)
  ·have HE := zH (HT.1 hz)
   clear HT
   go_wp2_with fail
   first | exact HE.out | (go_end0; exact HE.out)
def ko (lv obj off : Nat) : Pt := { zeroP with kind := 3, level := lv, obj := obj, off := off }
theorem su (h1 : lv < 256) (h2 : obj < 65536) (h3 : off < 4294967296) : (ko lv obj off).OK :=
 ⟨by simp [ko], h1, h2, h3, by simp [ko, zeroP], by simp [ko, zeroP], by simp [ko, zeroP], fun x hx => by simp [ko, zeroP] at hx; subst hx; omega⟩
def anP (s : Sh) (ns : List Pt) (lv obj off : Nat) : Pt := if ns = holes then zeroP else if jy ns = false then zeroP else nwP s (ko lv obj off) (co ns)
def anE (s : Sh) (ns : List Pt) : Nat := if ns = holes then 0 else if jy ns = false then 5 else nwE s
def anS (s : Sh) (ns : List Pt) (lv obj off : Nat) : Sh := if ns = holes then s else if jy ns = false then s else nwS s (ko lv obj off) (co ns)
theorem Lim.nwS {b : Bs} (h : Lim m s) (hm : m + 1 < 100000000) : Lim (m + 1) (nwS s p b) := by
 unfold Go.Proofs.YtjgjohdeeeoeoaaGreatDoor.nwS;split
 ·exact h.mono (by omega) hm
 ·rename_i hf
  unfold jb at hf;have := h.rm;exact ⟨Nat.le_trans h.rd (by omega), by have := h.md; simp; omega, Nat.le_trans h.gn (by omega), hm, by have := h.bl; simp; omega, h.bd, by show -1 ≤ max (s.room - 1) (-1) ∧ max (s.room - 1) (-1) ≤ 1000; omega⟩
theorem U3 {b : Bs} (h : nwE s ≠ 0) : nwP s p b = zeroP := by
 unfold nwP;unfold nwE at h;split
 ·rfl
 ·rename_i hf; rw [if_neg hf] at h; exact absurd rfl h
structure AnS (L : Nat → Nat) (w : World) (D obj : Nat) (ns : List Pt) (G : Nat) (s : Sh) (X : World) : Prop where
 sh : ∃ L1 v1, ShAt X L1 D s v1 ∧ Mv 5 L w L1 X ∧ L1 G = 0 ∧ L1 (G + 1) = 0 ∧ L1 (G + 1 + 1) = 0
 mb : Blk X G (bv D obj) 145
 nd : Blk X (G + 1) (ah ns) 170
 res : Blk X (G + 1 + 1) (a8 zeroP) 28
 lo : w.heap.size ≤ G
theorem AnS.below {w : World} (h : AnS L w D obj ns G s X) (hb : Below X.heap.size X Y) : AnS L w D obj ns G s Y := by
 obtain ⟨⟨L1, v1, h1, h2, h3⟩, k1, k2, k3, k4⟩ := h;exact ⟨⟨L1, v1, h1.below hb, h2.trans (Mv.of_below hb h1.lt), h3⟩, k1.below hb k1.lt, k2.below hb k2.lt, k3.below hb k3.lt, k4⟩
theorem AnS.moved {w : World} (h : AnS L w D obj ns G s X) (hm : Mv 5 L w L1 X) (hl : L1 G = 0 ∧ L1 (G + 1) = 0 ∧ L1 (G + 1 + 1) = 0) (hp : ShPost 5 L1 X D s' Y) : AnS L w D obj ns G s' Y := by
 obtain ⟨L2, v2, k1, k2⟩ := hp;exact ⟨⟨L2, v2, k1, hm.trans k2, (k2.old _ h.mb.lt).trans hl.1, (k2.old _ h.nd.lt).trans hl.2.1, (k2.old _ h.res.lt).trans hl.2.2⟩, k2.blk h.mb hl.1, k2.blk h.nd hl.2.1, k2.blk h.res hl.2.2, h.lo⟩
theorem AnS.ends {w : World} (h : AnS L w D obj ns G s X) (q : Pt) : ShPost 5 L w D s (X.setRow (G + 1 + 1) (a8 q).toArray) ∧ Blk (X.setRow (G + 1 + 1) (a8 q).toArray) (G + 1 + 1) (a8 q) 28 := by
 obtain ⟨⟨L1, v1, h1, h2, h3⟩, k1, k2, k3, k4⟩ := h;have hc := tc X (G + 1 + 1) (a8 q).toArray;have hz : (X.setRow (G + 1 + 1) (a8 q).toArray).heap.size = X.heap.size := by simp
 refine ⟨⟨L1, v1, h1.out hc (fun g e _ => .inl (by rw [e]; exact h3.2.2)) (fun _ _ => .inl rfl) (fun g hg => by rw [hz]; exact h1.lt g hg), ?_⟩, k3.row _⟩;exact ⟨h2.chg.trans hc (fun g e => by right; have : g = G + 1 + 1 := e; omega), h2.old, h2.new⟩
def Du (L : Nat → Nat) (w : World) (D : Nat) (s : Sh) (ns : List Pt) (lv obj off m : Nat) (e : Ending) (w' : World) : Prop :=
 e = .returned (.tuple #[.agg (a8 (anP s ns lv obj off)).toArray, .int .i64 (anE s ns : Int)]) ∧ ShPost 5 L w D (anS s ns lv obj off) w' ∧ Lim m (anS s ns lv obj off)
theorem N7 (lv obj off : Nat) : Tryz.prog.built 28 [(0, .int .u8 3), (1, .int .u8 (lv : Int)), (2, .int .u16 (obj : Int)), (3, .int .u32 (off : Int))] = some (a8 (ko lv obj off)).toArray := by kernel_rfl
theorem Wc {ρ : Operand → Value} {o : Oper} {x y z u : Operand} {w : World} (ho : o.op = .build 28 #[(0, x), (1, y), (2, z), (3, u)]) (hx : ρ x = .int .u8 3) (hy : ρ y = .int .u8 (lv : Int)) (hz : ρ z = .int .u16 (obj : Int)) (hu : ρ u = .int .u32 (off : Int)) :
  (execOp ρ o).run Tryz.prog w = .ok (.value (.agg (a8 (ko lv obj off)).toArray)) w := by
 have hr : (Instr.build 28 #[(0, .int .u8 3), (1, .int .u8 (lv : Int)), (2, .int .u16 (obj : Int)), (3, .int .u32 (off : Int))]).run Tryz.prog w = .ok (.agg (a8 (ko lv obj off)).toArray) w := run_build w 28 _ _ (N7 lv obj off);unfold execOp;simp only [ho];rw [show (Array.map (fun x : Nat × Operand => (x.1, ρ x.2)) #[(0, x), (1, y), (2, z), (3, u)]) = #[(0, .int .u8 3), (1, .int .u8 (lv : Int)), (2, .int .u16 (obj : Int)), (3, .int .u32 (off : Int))] by simp [hx, hy, hz, hu]];simp only [Sem.run_bind, hr, Result.andThen_ok, Sem.run_pure]
set_option maxRecDepth 100000 in
set_option maxHeartbeats 8000000 in
theorem I0 {w : World} (obj : Nat) (ns : List Pt) (hns : NOK ns) (lv off : Nat) (hlv : lv < 256) (hobj : obj < 65536) (hoff : off < 4294967296) (h : ShAt w L D s v) (hk : Lim m s) (hm : m + 1 < 100000000) :
  Calls Tryz.prog 99 #[.agg (bv D obj).toArray, .agg (ah ns).toArray, .int .u8 (lv : Int), .int .u32 (off : Int)] w (Du L w D s ns lv obj off (m + 1)) := by
 have HA := zH hns
 have HX : Hid (∀ z, z = (a8 zeroP).toArray → AnS L w D obj ns w.heap.size s (((w.alloc (.cells (bv D obj).toArray 145)).alloc (.cells (ah ns).toArray 170)).alloc (.cells z 28))) := zH (fun z hz => by
  subst hz;have az : Below w.heap.size w (((w.alloc (.cells (bv D obj).toArray 145)).alloc (.cells (ah ns).toArray 170)).alloc (.cells (a8 zeroP).toArray 28)) := (((Below.refl _ _).alloc (Nat.le_refl _) _).alloc (by simp) _).alloc (by simp; omega) _
  exact ⟨⟨L, v, h.below az, Mv.of_below az h.lt, h.not (Nat.le_refl _), h.not (by omega), h.not (by omega)⟩, ((Blk.new _ _ _).alloc _).alloc _, (Blk.new' _ _ _ _ _ (by simp) rfl).alloc _, Blk.new' _ _ _ _ _ (by simp) rfl, Nat.le_refl _⟩)
 have HK := zH hk; have HM := zH hm;have aw : Hid (ko lv obj off).OK := zH (su hlv hobj hoff);have au := zH (bh ak);obtain ⟨rp, am⟩ : ∃ r, anP s ns lv obj off = r := ⟨_, rfl⟩;obtain ⟨re, aj⟩ : ∃ r, anE s ns = r := ⟨_, rfl⟩;obtain ⟨rs, an⟩ : ∃ r, anS s ns lv obj off = r := ⟨_, rfl⟩;have a5 := zH am; have a4 := zH aj; have a3 := zH an;generalize hPost : Du L w D s ns lv obj off (m + 1) = Post;have HP : Hid (∀ w', ShPost 5 L w D rs w' → Lim (m + 1) rs → Post (.returned (.tuple #[.agg (a8 rp).toArray, .int .i64 (re : Int)])) w') := zH fun w' h2 h3 => by rw [← hPost]; unfold Du; rw [am, aj, an]; exact ⟨rfl, h2, h3⟩
 have bq : Hid (lv < 256 ∧ obj < 65536 ∧ off < 4294967296) := zH ⟨hlv, hobj, hoff⟩;clear hns h hk hm hPost am aj an hlv hobj hoff;go_enter Tryz.func99, Tryz.ntmps99
 go_upto_region 1 with fail
 refine (fun (k : ∀ W, AnS L w D obj ns w.heap.size s W → Code.wp _ _ _ _ W) => k _ (HX.out _ rfl)) ?_;intro W hW;obtain ⟨G, hG⟩ : ∃ g, w.heap.size = g := ⟨_, rfl⟩;rw [hG] at hW ⊢;have aq := zH hW;clear hW HX hG
 go_wp2_with (first | (refine a9 rfl (gt HA.out aq.out.nd rfl rfl) ?_) | fail)
 refine (Ps ns HA.out W).mono ?_;rintro e X2 ⟨rfl, b4⟩;have a6 := zH (aq.out.below b4);have b3 := zH a6.out.res;clear b4 aq;by_cases hh : ns = holes
 ·have a0 := zH (a6.out.ends zeroP)
  have e1 : rp = zeroP := (by rw [← a5.out]; unfold anP; rw [if_pos hh]);have e2 : re = 0 := (by rw [← a4.out]; unfold anE; rw [if_pos hh]);have e3 : rs = s := (by rw [← a3.out]; unfold anS; rw [if_pos hh]);rw [e1, e2, e3] at HP;have HE := zH (HP.out _ a0.out.1 (HK.out.mono (by omega) HM.out));rw [decide_eq_true hh];clear e1 e2 e3 HP hh a5 a4 a3
  go_wp2_with (first | (refine a9 rfl (bj rfl) ?_) | (refine wpList_store_row rfl 28 (.tmp 8) (.tmp 15) rfl (G + 1 + 1) (a8 zeroP).toArray rfl rfl 28 _ b3.out au.out rfl (bb zeroP) ?_) | fail)
  refine bodyPost_ret (b9 Tryz.results99 _ _ (G + 1 + 1) 28 _ rfl a0.out.2 (bo ak)) rfl ?_;exact HE.out
 ·rw [decide_eq_false hh]
  have a1 : Hid (¬ ns = holes) := zH hh;clear hh;obtain ⟨⟨L1, v1, h1, h2, h3⟩, -⟩ := a6.out;have b0 := zH (Ew ns HA.out X2 h1.tab.1);have b8 := zH h1.lt;have b1 := zH h2; have bn := zH h3; have bd := zH h1;clear h1 h2 h3
  go_wp2_with (first | (refine a9 rfl (gt HA.out a6.out.nd rfl rfl) ?_) | fail)
  refine b0.out.mono ?_;rintro e X3 ⟨bm, ai⟩;have a2 := zH (a6.out.below ai);have a7 := zH (bd.out.below ai);have ae := zH (b1.out.trans (Mv.of_below ai b8.out));have af := zH a2.out.res;clear ai b0 bd b1 b3;rcases bm with ⟨hok, vv, rfl, hown⟩ | ⟨hno, rfl⟩
  ·obtain ⟨sp, bk, rfl, q1, q2, q3, q4, q5⟩ := OwnB.form hown
   have al : (co ns).length = 512 := by rw [jf HA.out.ok, HA.out.len]
   have ab := B9 (ko lv obj off) aw.out (co ns) sp bk a7.out (by have := HK.out.md; have := HM.out; omega) HK.out.bl HK.out.rm (by omega) q3 q4 (fun a ha => ⟨(q5 a ha).2, .inl (by
    have h1 := (q5 a ha).1;have h2 := b8.out a.block
    omega)⟩)
   obtain ⟨bl, av⟩ : ∃ n, (co ns).length = n := ⟨_, rfl⟩;rw [av] at ab ⊢;have e1 : nwP s (ko lv obj off) (co ns) = rp := (by rw [← a5.out]; unfold anP; rw [if_neg a1.out, if_neg (by rw [hok]; decide)]);have e2 : nwE s = re := (by rw [← a4.out]; unfold anE; rw [if_neg a1.out, if_neg (by rw [hok]; decide)]);have e3 : nwS s (ko lv obj off) (co ns) = rs := (by rw [← a3.out]; unfold anS; rw [if_neg a1.out, if_neg (by rw [hok]; decide)]);unfold Ak at ab;rw [e1, e2, e3] at ab;have bf := zH ab;have ag : Hid rp.OK := zH (by rw [← e1]; exact As aw.out _);have bg : Hid (re ≠ 0 → rp = zeroP) := zH (fun h => by rw [← e1]; exact U3 (by rw [e2]; exact h));have ba : Hid (Lim (m + 1) rs) := zH (by rw [← e3]; exact HK.out.nwS HM.out);have c0 : X3.cell? ⟨G, 0, none⟩ = some (.iface 45 (.pointer (some ⟨D, 0, none⟩))) := a2.out.mb.cell rfl;have c1 : X3.cell? ⟨G, 1, none⟩ = some (.int .u16 (obj : Int)) := a2.out.mb.cell rfl;clear hok hown q1 q2 q3 q4 q5 al ab av e1 e2 e3 a6 a5 a4 a3
   go_wp2_with (first | (refine a9 rfl (Wc (lv := lv) (obj := obj) (off := off) rfl rfl rfl rfl rfl) ?_) | fail)
   refine bf.out.mono ?_;rintro e X4 ⟨rfl, bc⟩;have b6 := zH (a2.out.moved ae.out bn.out bc);clear bc c0 c1 bf a2 a7 ae af;have b5 := zH (bh ag.out);have ay : Hid ((a8 rp).toArray.size = 41) := zH (by rw [List.size_toArray, aa ag.out])
   go_upto_region 7 with (first | (refine wpList_store_row rfl 28 (.tmp 12) (.tmp 35) rfl X4.heap.size (a8 rp).toArray rfl rfl 28 _ (heap_alloc_new X4 _) b5.out (by rw [ay.out]; rfl) (bb rp) ?_) | fail)
   refine (fun (k : ∀ W, (AnS L w D obj ns G rs W ∧ Blk W X4.heap.size (a8 rp) 28) → Code.wp _ _ _ _ W) => k _ ⟨b6.out.below (ar X4 _ (a8 rp) 28).2, (ar X4 _ (a8 rp) 28).1⟩) ?_;rintro X5 ⟨ap, ao⟩;obtain ⟨g5, b2⟩ : ∃ g, X4.heap.size = g := ⟨_, rfl⟩;rw [b2] at ao ⊢;have b7 := zH ap; have bp := zH ao;have ad := zH ap.res;clear ap ao b2 b6;by_cases he : re = 0
   ·subst he
    have a0 := zH (b7.out.ends rp);have HE := zH (HP.out _ a0.out.1 ba.out);have bi : Hid ((a8 zeroP).toArray.size = (a8 rp).toArray.size) := zH (by rw [ay.out, List.size_toArray, aa ak]);clear HP
    go_wp2_with (first | (refine a9 rfl (ax ag.out bp.out rfl rfl) ?_) | (refine wpList_store_row rfl 28 (.tmp 8) (.tmp 41) rfl (G + 1 + 1) (a8 rp).toArray rfl rfl 28 _ ad.out b5.out bi.out (bb rp) ?_) | fail)
    refine bodyPost_ret (b9 Tryz.results99 _ _ (G + 1 + 1) 28 _ rfl a0.out.2 (bo ag.out)) rfl ?_;exact HE.out
   ·have br : ¬ (re : Int) = 0 := by omega
    have a0 := zH (b7.out.ends zeroP);rw [bg.out he] at HP;have HE := zH (HP.out _ a0.out.1 ba.out);clear HP he
    go_wp2_with (first | (refine a9 rfl (bj rfl) ?_) | (refine wpList_store_row rfl 28 (.tmp 8) (.tmp 39) rfl (G + 1 + 1) (a8 zeroP).toArray rfl rfl 28 _ ad.out au.out rfl (bb zeroP) ?_) | fail)
    refine bodyPost_ret (b9 Tryz.results99 _ _ (G + 1 + 1) 28 _ rfl a0.out.2 (bo ak)) rfl ?_;exact HE.out
  ·have a0 := zH (a2.out.ends zeroP)
   have e1 : rp = zeroP := (by rw [← a5.out]; unfold anP; rw [if_neg a1.out, if_pos hno]);have e2 : re = 5 := (by rw [← a4.out]; unfold anE; rw [if_neg a1.out, if_pos hno]);have e3 : rs = s := (by rw [← a3.out]; unfold anS; rw [if_neg a1.out, if_pos hno]);rw [e1, e2, e3] at HP;have HE := zH (HP.out _ a0.out.1 (HK.out.mono (by omega) HM.out));clear e1 e2 e3 HP hno a5 a4 a3
   go_wp2_with (first | (refine a9 rfl (bj rfl) ?_) | (refine wpList_store_row rfl 28 (.tmp 8) (.tmp 23) rfl (G + 1 + 1) (a8 zeroP).toArray rfl rfl 28 _ af.out au.out rfl (bb zeroP) ?_) | fail)
   refine bodyPost_ret (b9 Tryz.results99 _ _ (G + 1 + 1) 28 _ rfl a0.out.2 (bo ak)) rfl ?_;exact HE.out
end Go.Proofs.YtjgjohdeeeoeoaaGreatDoor
