/- That no two copies are at one place: a range over the iterator. -/
import Derived.Test.YtjgjohdeeeoeoaaGreatDoorM04
import Derived.Deep.DeepCutAuto
import Derived.Lib.AppendZerosOnto
import Derived.Lib.Walk
import Derived.Laws.OwnMore
namespace Go.Proofs.YtjgjohdeeeoeoaaGreatDoor
open Go.RowKit Go.Shelf
attribute [local go_sem] Oper.semAt_some
theorem Blk.kept {A W : World} {row : Option Nat} {g : Nat} {cs : List Value} {t : TypeId} (h : Blk A g cs t) (hg : A.grownBy W row) (hr : ∀ r, row = some r → ∃ o : Obj, A.heap[r]? = some o ∧ o.isCells = false) : Blk W g cs t := by
 unfold Blk;rw [hg.block g h.lt (fun e => ?_)]
 ·exact h
 ·obtain ⟨o, h1, h2⟩ := hr g e.symm
  have h' : A.heap[g]? = some (.cells cs.toArray t (0, 0)) := h;rw [h'] at h1;cases h1;cases h2
structure ApI (w : World) (pre : List Cp) (W : World) : Prop where
 h : ∃ f x y, m6 (pre.map (·.1)) (false, 0, 0) = some (f, x, y) ∧ Blk W (w.heap.size + 1 + 1) [.bool f] 4 ∧ Blk W (w.heap.size + 1 + 1 + 1) [.int .u16 (x : Int), .int .u16 (y : Int)] 181
 r : Blk W (w.heap.size + 1) [.bool false] 4
 b : Below w.heap.size w W
structure ApX (w : World) (c : Code) (pre : List Cp) (W : World) : Prop where
 c : c = .ret
 h : m6 (pre.map (·.1)) (false, 0, 0) = none
 r : Blk W (w.heap.size + 1) [.bool false] 4
 b : Below w.heap.size w W
theorem Xt (w W0 : World) (hs : w.heap.size ≤ W0.heap.size) : OwnFrom W0.heap.size (ApI w) := fun s A B row hs0 hg hr => by
 have a0 : ∀ r, row = some r → ∃ o : Obj, A.heap[r]? = some o ∧ o.isCells = false := fun r e => (hr r e).2
 obtain ⟨f, x, y, h1, h2, h3⟩ := hs0.h;exact ⟨⟨f, x, y, h1, h2.kept hg a0, h3.kept hg a0⟩, hs0.r.kept hg a0, hs0.b.grown hg hs0.b.size (fun k e => by have := (hr k e).1; omega)⟩
theorem Ze (w W0 : World) (hs : w.heap.size ≤ W0.heap.size) (c : Code) : OwnFrom W0.heap.size (ApX w c) := fun s A B row hs0 hg hr => by
 have a0 : ∀ r, row = some r → ∃ o : Obj, A.heap[r]? = some o ∧ o.isCells = false := fun r e => (hr r e).2
 exact ⟨hs0.c, hs0.h, hs0.r.kept hg a0, hs0.b.grown hg hs0.b.size (fun k e => by have := (hr k e).1; omega)⟩
def ApW (p : Pt) (w W : World) : Prop := Blk W w.heap.size (a8 p) 28 ∧ Blk W (w.heap.size + 1) [.bool false] 4 ∧ Blk W (w.heap.size + 1 + 1) [.bool false] 4 ∧ Blk W (w.heap.size + 1 + 1 + 1) [.int .u16 0, .int .u16 0] 181 ∧ Below w.heap.size w W ∧ W.heap.size = w.heap.size + 4
theorem N1 (p : Pt) (w : World) : ApW p w ((((w.alloc (.cells (a8 p).toArray 28)).alloc (.cells #[.bool false] 4)).alloc (.cells #[.bool false] 4)).alloc (.cells #[.int .u16 0, .int .u16 0] 181)) :=
 ⟨(((Blk.new _ _ _).alloc _).alloc _).alloc _, ((Blk.new' _ _ [.bool false] _ _ (by simp) rfl).alloc _).alloc _, (Blk.new' _ _ [.bool false] _ _ (by simp) rfl).alloc _, Blk.new' _ _ [.int .u16 0, .int .u16 0] _ _ (by simp) rfl,
  (((((Below.refl _ _).alloc (Nat.le_refl _) _).alloc (by simp) _).alloc (by simp; omega) _).alloc (by simp; omega) _), by simp⟩
set_option maxRecDepth 100000 in
set_option maxHeartbeats 4000000 in
theorem Q6 (p : Pt) (hp : p.OK) (w : World) : Calls Tryz.prog 85 #[.agg (a8 p).toArray] w fun e w' => e = .returned (.bool (ka p)) ∧ Below w.heap.size w w' := by
 have HP := zH hp;obtain ⟨m, hm⟩ : ∃ m, ka p = m := ⟨_, rfl⟩;rw [hm];have HM := zH hm;obtain ⟨P, a7⟩ : ∃ P, (a8 p).toArray = P := ⟨_, rfl⟩;have ab := zH a7;have ar : Hid ((Tryz.prog.info? 28).map (·.size) = some P.size) := zH (by rw [← a7, dw]; simp [aa hp]);rw [a7];clear hm hp a7;refine callsIn_wide.1 (callsIn_of_wp_marks (F := Fence.wide) (n := 5) Tryz.func85 rfl trivial ?_ rfl);refine wpIn_wide.2 ?_;simp only [Tryz.ntmps85, List.size_toArray, List.length_cons, List.length_nil, Nat.reduceAdd, Nat.reduceSub, Array.replicate_succ, Array.replicate_zero, List.push_toArray, List.append_toArray, List.nil_append, List.cons_append]
 go_upto_region 3 with fail
 refine (fun (k : ∀ W1, ApW p w W1 → Code.wp _ _ _ _ W1) => k _ (by rw [← ab.out]; exact N1 p w)) ?_;intro W1 hW;have HW := zH hW;have HC : Hid (Calls Tryz.prog 106 #[.agg P] W1 fun e w' => e = .returned (.func (.func 121) #[] #[.pointer (some ⟨W1.heap.size, 0, none⟩)]) ∧ w' = W1.alloc (.cells P 28)) := zH (by rw [← ab.out]; exact Ih p W1);have HG : Hid (W1.heap[w.heap.size]? = some (.cells P 28 (0, 0))) := zH (by rw [← ab.out]; exact hW.1);clear hW
 go_wp2_with (first | (refine wpList_load_row rfl 28 (.tmp 1) rfl w.heap.size rfl 28 _ _ _ HG.out Tryz.underlying28 rfl ar.out ?_) | (go_at_call 106; refine HC.out.mono ?_; rintro e w' ⟨rfl, rfl⟩) | fail)
 have am : W1.heap.size = w.heap.size + 4 := HW.out.2.2.2.2.2;have au : Blk (W1.alloc (.cells P 28)) W1.heap.size (a8 p) 28 := Blk.new' W1 P (a8 p) 28 _ rfl ab.out.symm;have a5 := zH am;clear am
 refine wpIn_wide.1 (wpIn_rangeFunc_ownF (n := 5) (w := W1.alloc (.cells P 28)) rfl (by omega) (gf := 121) (lb := #[.pointer (some ⟨W1.heap.size, 0, none⟩)]) rfl trivial (enters_of Tryz.func121 (by kernel_rfl) rfl)
  (Dq Fence.wide 4 trivial rfl (by omega) W1.heap.size p HP.out _ au) (fun _ _ => trivial) (fun _ _ _ _ _ _ _ _ => trivial) (Below.refl _ _) (fun _ => rfl)
  (ApI w) (ApX w) (Xt w _ (by have := a5.out; simp; omega)) (Ze w _ (by have := a5.out; simp; omega)) ⟨⟨false, 0, 0, rfl, HW.out.2.2.1.alloc _, HW.out.2.2.2.1.alloc _⟩, HW.out.2.1.alloc _, HW.out.2.2.2.2.1.alloc (by have := a5.out; omega) _⟩
  (fun x => { tmps := #[.agg P, .pointer (some ⟨w.heap.size, 0, none⟩), .pointer (some ⟨w.heap.size + 1, 0, none⟩), .pointer (some ⟨w.heap.size + 1 + 1, 0, none⟩), .pointer (some ⟨w.heap.size + 1 + 1 + 1, 0, none⟩), .int .i64 (x.1.1 : Int), .int .u16 (x.1.2 : Int), .agg P, .func (.func 121) #[] #[.pointer (some ⟨W1.heap.size, 0, none⟩)], .int .i64 (x.1.1 : Int), .int .u16 (x.1.2 : Int), undef, undef, undef, undef, undef, undef, undef, undef, undef], defers := [] }) ?assign ?body ?done ?stop)
 case assign =>
  intro l x W K hK;unfold Vp
  gi_wp2
  exact hK
 case body =>
  rintro l a9 ⟨⟨d, a⟩, hd, ad, a6⟩ W hI _;have HI := zH hI;obtain ⟨⟨f, x, y, a0, a1, a2⟩, hr, hb⟩ := hI;simp only at hd ad a6;have c3 := a2.cell (j := 0) rfl;have c4 := a2.cell (j := 1) rfl;have f3 := a2.free 0;have f4 := a2.free 1;have c2 := a1.cell (j := 0) rfl;have f2 := a1.free 0;have c1 := hr.cell (j := 0) rfl;have f1 := hr.free 0;have af := zH a0;clear a1 a2 hr hb a0
  have ao : a = (if d = 0 then x else y) → ApX w .ret (a9 ++ [⟨(d, a), hd, ad, a6⟩]) (W.setCell ⟨w.heap.size + 1, 0, none⟩ (.bool false)) := fun e =>
   ⟨rfl, by rw [List.map_append, kn, af.out]; show m6 [(d, a)] (f, x, y) = none; show (if _ then _ else _) = _; rw [if_pos e], HI.out.r.set 0 (.bool false), HI.out.b.setCell (by simp) _⟩
  have al : ¬ a = (if d = 0 then x else y) → ApI w (a9 ++ [⟨(d, a), hd, ad, a6⟩]) ((W.setCell ⟨w.heap.size + 1 + 1, 0, none⟩ (.bool true)).setCell ⟨w.heap.size + 1 + 1 + 1, d, none⟩ (.int .u16 (a : Int))) := fun e => by
   obtain ⟨⟨f', x', y', a0, a1, a2⟩, hr, hb⟩ := HI.out;rw [af.out] at a0;cases a0;have h2 := (a1.set 0 (.bool true)).other (a := ⟨w.heap.size + 1 + 1 + 1, d, none⟩) (by simp) (.int .u16 (a : Int));have h3 := (a2.other (a := ⟨w.heap.size + 1 + 1, 0, none⟩) (by simp) (.bool true)).set d (.int .u16 (a : Int))
   have hs : m6 ((a9 ++ [(⟨(d, a), hd, ad, a6⟩ : Cp)]).map (fun z => z.1)) (false, 0, 0) = some (if d = 0 then (true, a, y) else (true, x, a)) := by
    rw [List.map_append, kn, af.out];show m6 [(d, a)] (f, x, y) = _;show (if _ then _ else _) = _;rw [if_neg e];rfl
   have an := (hr.other (a := ⟨w.heap.size + 1 + 1, 0, none⟩) (by simp) (.bool true)).other (a := ⟨w.heap.size + 1 + 1 + 1, d, none⟩) (by first | (simp; done) | (simp; omega)) (.int .u16 (a : Int));have aq := (hb.setCell (p := ⟨w.heap.size + 1 + 1, 0, none⟩) (by first | (simp; done) | (simp; omega)) (.bool true)).setCell (p := ⟨w.heap.size + 1 + 1 + 1, d, none⟩) (by first | (simp; done) | (simp; omega)) (.int .u16 (a : Int));have ag : d = 0 ∨ d = 1 := (by omega);rcases ag with rfl | rfl
   ·exact ⟨⟨true, a, y, hs, h2, h3⟩, an, aq⟩
   ·exact ⟨⟨true, x, a, hs, h2, h3⟩, an, aq⟩
  have a3 := zH ao; have a4 := zH al;clear ao al;have ag : d = 0 ∨ d = 1 := (by omega);rcases ag with rfl | rfl
  ·by_cases hc : a = x
   ·have ai : (a : Int) = (x : Int) := by omega
    have HR := zH (a3.out (by simp [hc]));clear hc a3 a4
    gi_wp2
    exact ⟨KeepsOthers.setCell _ _ _, HR.out⟩
   ·have ai : ¬ (a : Int) = (x : Int) := by omega
    have HR := zH (a4.out (by simp [hc]));clear hc a3 a4
    gi_wp2
    exact ⟨(KeepsOthers.setCell _ _ _).trans (KeepsOthers.setCell _ _ _), trivial, HR.out⟩
  ·by_cases hc : a = y
   ·have ai : (a : Int) = (y : Int) := by omega
    have HR := zH (a3.out (by simp [hc]));clear hc a3 a4
    gi_wp2
    exact ⟨KeepsOthers.setCell _ _ _, HR.out⟩
   ·have ai : ¬ (a : Int) = (y : Int) := by omega
    have HR := zH (a4.out (by simp [hc]));clear hc a3 a4
    gi_wp2
    exact ⟨(KeepsOthers.setCell _ _ _).trans (KeepsOthers.setCell _ _ _), trivial, HR.out⟩
 case done =>
  rintro D ys W hD rfl hI hK;have ap := hI;obtain ⟨⟨f, x, y, a0, a1, -⟩, hr, -⟩ := hI;have c2 := a1.cell (j := 0) rfl;have c1 := hr.cell (j := 0) rfl;have f1 := hr.free 0
  have aj : m = f := by
   rw [← HM.out];unfold ka;rw [← Lz HP.out, a0]
  subst aj;have HI := zH ap;clear ap a1 hr a0
  go_wp2
  have ae := (KeepsOthers.setCell W ⟨w.heap.size + 1, 0, none⟩ (.bool m)).same D _ hK rfl;refine ⟨by simp, .inl ⟨_, _, rfl, run_takeDeferred ae, ?_⟩⟩;have ah := cell_kept (World.cell?_setCell_same' W ⟨w.heap.size + 1, 0, none⟩ (.bool m) (by rw [c1]; rfl)) (grownBy_putObj' _ D (.deferred none)) (fun r e => by cases e; exact ⟨_, ae, rfl⟩);refine ⟨.bool m, ?_, rfl, (HI.out.b.setCell (p := ⟨w.heap.size + 1, 0, none⟩) (by simp) _).trans (belowK_b (w := w) (Nat.le_refl _) _ D _ _ (by have := a5.out; simp at hD; omega) ae rfl rfl)⟩;simp [results, Tryz.f85, go_sem, ah]
 case stop =>
  rintro D c a9 W hD ak hX hK;obtain ⟨rfl, a0, hr, hb⟩ := hX
  have aj : m = false := by
   rw [← HM.out];unfold ka;obtain ⟨r, hr⟩ := ak;rw [← Lz HP.out, ← hr, List.map_append, kn, a0];rfl
  subst aj;have c1 := hr.cell (j := 0) rfl;refine wpIn_wide.2 ?_
  go_wp2
  refine ⟨by simp, .inl ⟨_, _, rfl, run_takeDeferred hK, ?_⟩⟩;have ah := cell_kept c1 (grownBy_putObj' _ D (.deferred none)) (fun r e => by cases e; exact ⟨_, hK, rfl⟩);refine ⟨.bool false, ?_, rfl, hb.trans (belowK_b (w := w) (Nat.le_refl _) _ D _ _ (by have := a5.out; simp at hD; omega) hK rfl rfl)⟩;simp [results, Tryz.f85, go_sem, ah]
end Go.Proofs.YtjgjohdeeeoeoaaGreatDoor
namespace Go.Proofs.YtjgjohdeeeoeoaaGreatDoor
open Go.RowKit
variable {k : Nat} {p : Pt} {w : World}
structure MyW (p : Pt) (w : World) (g : Nat) (W : World) : Prop where
 a : Blk W w.heap.size (a8 p) 28
 r : Blk W g (rcell p.kind) 158
 b : Below w.heap.size w W
theorem Oj {w1 : World} (h : Blk w1 w.heap.size (a8 p) 28) (hb : Below w.heap.size w w1) (z : Array Value) : MyW p w w1.heap.size ((w1.alloc (.cells z 158)).setRow w1.heap.size (rcell p.kind).toArray) := by
 obtain ⟨h1, h2⟩ := ar w1 z (rcell p.kind) 158;exact ⟨h.below h2 h.lt, h1, hb.trans (h2.mono hb.size)⟩
set_option maxRecDepth 100000 in
set_option maxHeartbeats 4000000 in
theorem sf (p : Pt) (hp : p.OK) (w : World) (hT : RTab w) : Calls Tryz.prog 58 #[.agg (a8 p).toArray] w fun e w' => e = .returned (.bool (fz p)) ∧ Below w.heap.size w w' := by
 have HP := zH hp;have hk := hp.kind;obtain ⟨m, hm⟩ : ∃ m, fz p = m := ⟨_, rfl⟩;rw [hm];have HM := zH hm;have a1 : Hid (Blk (w.alloc (.cells (a8 p).toArray 28)) w.heap.size (a8 p) 28) := zH (Blk.new _ _ _);have a2 : Hid (Below w.heap.size w (w.alloc (.cells (a8 p).toArray 28))) := zH ((Below.refl _ _).alloc (Nat.le_refl _) _);have HT : Hid (RTab (w.alloc (.cells (a8 p).toArray 28))) := zH (hT.alloc _);have cK := a1.out.cell (j := 0) rfl;have HK := zH hk;obtain ⟨P, a4⟩ : ∃ P, (a8 p).toArray = P := ⟨_, rfl⟩;have ad := zH a4;have aj : Hid ((Tryz.prog.info? 28).map (·.size) = some P.size) := zH (by rw [← a4, dw]; simp [aa hp]);rw [a4] at a1 a2 HT cK ⊢;clear hm hp hT a4 hk;go_enter Tryz.func58, Tryz.ntmps58
 go_upto_region 1 with fail
 generalize (w.alloc (.cells P 28)) = W0 at a1 a2 HT cK ⊢
 go_upto_region 2 with (first | (go_at_call 84; refine (Tk p.kind HK.out _ HT.out).mono ?_; rintro e w1 ⟨rfl, a5⟩; have ab := zH (a1.out.below a5 a1.out.lt); have a7 := zH (a2.out.trans (a5.mono a2.out.size)); clear a5) | (refine wpList_store_row rfl 158 (.tmp 3) (.tmp 8) rfl w1.heap.size _ rfl rfl 158 _ (heap_alloc_new _ _) (by rw [uy]; rfl) rfl (Gp _) ?_) | fail)
 refine (fun (k : ∀ W1, MyW p w w1.heap.size W1 → Code.wp _ _ _ _ W1) => k _ (Oj ab.out a7.out _)) ?_;intro W hW;have HW := zH hW;obtain ⟨ha, hr, hb⟩ := hW;have cL := ha.cell (j := 1) rfl;have cw := hr.cell (j := 0) rfl;have cl := hr.cell (j := 1) rfl;have ch := hr.cell (j := 2) rfl;have HB := zH hb;have HA : Hid (W.heap[w.heap.size]? = some (.cells P 28 (0, 0))) := zH (by rw [← ad.out]; exact ha);have ak := zH (yu ha HP.out.hash);obtain ⟨g, hg⟩ : ∃ g, w1.heap.size = g := ⟨_, rfl⟩;rw [hg] at cw cl ch ⊢;clear ha hr hb HW ab a7 hg cK a1 a2 HT;by_cases hl : p.level < xj p.kind
 ·have : (p.level : Int) < (xj p.kind : Int) := by omega
  obtain rfl : m = false := by rw [← HM.out]; unfold fz; rw [decide_eq_false (by omega)]; rfl
  go_wp2
  go_ret;exact ⟨rfl, HB.out⟩
 have il : ¬ (p.level : Int) < (xj p.kind : Int) := by omega
 by_cases hh : nc p.kind < p.level
 ·have : (nc p.kind : Int) < (p.level : Int) := by omega
  obtain rfl : m = false := by rw [← HM.out]; unfold fz; rw [decide_eq_false (by omega)]; rfl
  go_wp2
  go_ret;exact ⟨rfl, HB.out⟩
 have ih : ¬ (nc p.kind : Int) < (p.level : Int) := by omega
 have ai : Hid (decide (xj p.kind ≤ p.level ∧ p.level ≤ nc p.kind) = true) := zH (decide_eq_true (by omega));clear hl hh
 go_wp2_with (first | (refine a9 rfl (c6 (ty := 26) (cs := p.ats.map U16) rfl rfl ak.out Tryz.underlying26 rfl (by rw [jr]; simp [HP.out.len])) ?_) | fail)
 clear il ih cl ch cL
 go_loop [23] (fun i => ∃ k : Nat, k ≤ 4 ∧ i = .int .i64 k ∧ ∀ j, j < k → p.ats.getD j 0 = 0 ∨ j % 2 < kx p.kind) (fun i => 4 - (intOf i).toNat)
 case atStart => exact ⟨0, by omega, rfl, fun j hj => by omega⟩
 case round =>
  obtain ⟨k, hk, rfl, a3⟩ := hrel;have a0 := zH a3;clear a3;by_cases hlt : k < 4
  ·obtain ⟨x, hx⟩ : ∃ x, p.ats[k]? = some x := ⟨_, List.getElem?_eq_getElem (by rw [HP.out.len]; exact hlt)⟩
   have al : ∀ W : World, (Instr.index 26 (.agg (p.ats.map U16).toArray) (.int .i64 (k : Int))).run Tryz.prog W = .ok (.int .u16 (x : Int)) W := fun W => we p hx hlt W
   have a6 : p.ats.getD k 0 = x := (by rw [List.getD_eq_getElem?_getD, hx]; rfl);have HX := zH a6;have q : (k : Int) < 4 := (by omega);clear hx a6;by_cases h00 : x = 0
   ·have ix : (x : Int) = 0 := by omega
    have HN : Hid (∀ j, j < k + 1 → p.ats.getD j 0 = 0 ∨ j % 2 < kx p.kind) := zH (fun j hj => by
     rcases Nat.lt_or_eq_of_le (Nat.lt_succ_iff.1 hj) with h | rfl
     ·exact a0.out j h
     ·exact .inl (by rw [HX.out]; exact h00))
    clear h00
    go_wp2
    go_round
    case rel => exact ⟨k + 1, by omega, by go_num, HN.out⟩
    case measure => simp [intOf]; omega
   ·have ix : ¬ (x : Int) = 0 := by omega
    have ah : (k : Int).tmod 2 = (k : Int) % 2 := Int.tmod_eq_emod_of_nonneg (by omega);by_cases hw : k % 2 < kx p.kind
    ·have iw : ¬ (kx p.kind : Int) ≤ (k : Int) % 2 := by omega
     have HN : Hid (∀ j, j < k + 1 → p.ats.getD j 0 = 0 ∨ j % 2 < kx p.kind) := zH (fun j hj => by
      rcases Nat.lt_or_eq_of_le (Nat.lt_succ_iff.1 hj) with h | rfl
      ·exact a0.out j h
      ·exact .inr hw)
     clear h00 hw
     go_wp2
     go_round
     case rel => exact ⟨k + 1, by omega, by go_num, HN.out⟩
     case measure => simp [intOf]; omega
    ·have iw : (kx p.kind : Int) ≤ (k : Int) % 2 := by omega
     obtain rfl : m = false := by
      rw [← HM.out]
      have : jh p = false := by
       unfold jh;rw [List.all_eq_false];exact ⟨k, List.mem_range.2 hlt, by rw [HX.out]; simp; omega⟩
      unfold fz;rw [this];simp
     clear h00 hw
     go_wp2
     go_ret;exact ⟨rfl, HB.out⟩
  ·obtain rfl : k = 4 := by omega
   have af : m = ka p := by
    rw [← HM.out]
    have : jh p = true := by
     unfold jh;rw [List.all_eq_true];exact fun j hj => decide_eq_true (a0.out j (List.mem_range.1 hj))
    unfold fz;rw [ai.out, this];rfl
   subst af;have HC : Hid (Calls Tryz.prog 85 #[.agg P] W fun e w' => e = .returned (.bool (ka p)) ∧ Below W.heap.size W w') := zH (by rw [← ad.out]; exact Q6 p HP.out W);clear hlt hk
   go_wp2_with (first | (refine wpList_load_row rfl 28 (.tmp 1) rfl w.heap.size rfl 28 _ _ _ HA.out Tryz.underlying28 rfl aj.out ?_) | (go_at_call 85; refine HC.out.mono ?_; rintro e w3 ⟨rfl, ae⟩; have ag := zH (HB.out.trans (ae.mono HB.out.size)); clear ae) | fail)
   go_ret;exact ⟨rfl, ag.out⟩
theorem ut {n : Nat} (h : n < 256) : Value.int .u8 (n : Int) = V8 (lb n 0) := by
 unfold V8 N8;rw [Hm];simp;omega
theorem Wo (w : World) (l : Bs) (cs : Array Value) (h : cs = (l.map V8).toArray) : SrcA (w.alloc (.cells cs 5)) (some ⟨w.heap.size, 0, none⟩) l := fun _ => by
 refine ⟨w.heap.size, 0, rfl, by simp, fun j hj => ?_⟩;rw [Nat.zero_add];exact (Blk.new' w cs (l.map V8) 5 _ rfl h).cell (sj V8 l j hj 0)
theorem p8 {l : List Nat} {x : Nat} (h : l[k]? = some x) : l.take (k + 1) = l.take k ++ [x] := by
 obtain ⟨h2, h3⟩ := List.getElem?_eq_some_iff.1 h;rw [List.take_succ_eq_append_getElem h2, h3]
set_option maxRecDepth 100000 in
set_option maxHeartbeats 4000000 in
theorem Wv (p : Pt) (hp : p.OK) (w : World) : Calls Tryz.prog 48 #[.agg (a8 p).toArray] w fun e w' => ∃ v, e = .returned v ∧ OwnB w' w.heap.size v (iz p) ∧ Below w.heap.size w w' := by
 have HP := zH hp;have a2 : Hid (Blk (w.alloc (.cells (a8 p).toArray 28)) w.heap.size (a8 p) 28) := zH (Blk.new _ _ _);have aa : Hid (Below w.heap.size w (w.alloc (.cells (a8 p).toArray 28))) := zH ((Below.refl _ _).alloc (Nat.le_refl _) _);have cK := a2.out.cell (j := 0) rfl;have cL := a2.out.cell (j := 1) rfl;have cO := a2.out.cell (j := 2) rfl;clear hp;go_enter Tryz.func48, Tryz.ntmps48
 go_upto_region 1 with fail
 generalize (w.alloc (.cells (a8 p).toArray 28)) = W0 at a2 aa cK cL cO ⊢;have ao : ∀ o, (W0.alloc o).cell? ⟨w.heap.size, 2, none⟩ = some (.int .u16 (p.obj : Int)) := fun o => (a2.out.alloc o).cell rfl
 have hc := zn (leb p.kind 1 ++ leb p.level 1) (some ⟨W0.heap.size, 0, none⟩) 2 p.obj (W0.alloc (.cells #[.int .u8 (p.kind : Int), .int .u8 (p.level : Int)] 5)) (by simp [aw]) HP.out.obj (Wo W0 _ _ (by rw [ut HP.out.kind, ut HP.out.level]; rfl));rw [show (leb p.kind 1 ++ leb p.level 1).length = 2 by simp [aw]] at hc;have HC := zH hc;clear hc
 go_upto_region 2 with (first | (go_at_call 49; refine HC.out.mono ?_; rintro e w1 ⟨rfl, aj, ah⟩; have a9 := zH aj; have a4 := zH ah; clear aj ah) | fail)
 obtain ⟨g1, a3⟩ : ∃ g, (W0.alloc (.cells #[.int .u8 (p.kind : Int), .int .u8 (p.level : Int)] 5)).heap.size = g := ⟨_, rfl⟩;rw [a3] at a9 a4;have ai : W0.heap.size + 1 = g1 := by rw [← a3]; simp
 try rw [ai]
 try rw [a3]
 have ap := aa.out.size
 have ae : SrcA w1 (some ⟨g1, 0, none⟩) (leb p.kind 1 ++ leb p.level 1 ++ leb p.obj 2) := by
  obtain ⟨sp, aq, e, _, _, h, _⟩ := OwnB.form a9.out;cases e;exact h
 have ar := a2.out.lt;have ag : Blk w1 w.heap.size (a8 p) 28 := (a2.out.alloc _).below a4.out (by omega);have af : Below w.heap.size w w1 := (aa.out.alloc ap _).trans (a4.out.mono (by omega));have ab := zH ag; have al := zH ae; have a5 := zH af;clear ag ae af a3 ai a9 a4 HC ao cK cL cO;refine gS (.take 0 (.take 1 (.take 2 (.take 4 (.take 5 (.step 3 (.step 6 (.take 7 (.nil))))))))) (fun X => Blk X w.heap.size (a8 p) 28 ∧ Below w.heap.size w X) ⟨ab.out.drew, a5.out.drew⟩ ?_;refine gT (.slice (some ⟨g1, 0, none⟩) (2 + 2) (2 + 2)) ?_;refine gU (.pointer (some ⟨w.heap.size, 3, none⟩)) rfl (fun X hX => Dk 3 3 (by omega) rfl rfl) ?_;refine gU (.int .u32 (p.off : Int)) rfl (fun X hX => az Tryz.underlying24 rfl rfl (hX.1.cell rfl)) ?_;refine gU (.pointer (some ⟨w.heap.size, 4, none⟩)) rfl (fun X hX => Dk 4 4 (by omega) rfl rfl) ?_;refine gU (.int .u64 (p.birth : Int)) rfl (fun X hX => az Tryz.underlying22 rfl rfl (hX.1.cell rfl)) ?_;have a6 := Fz (leb p.kind 1 ++ leb p.level 1 ++ leb p.obj 2) (some ⟨g1, 0, none⟩) (2 + 2) p.off w1.drew (by simp [aw]) HP.out.off al.out;rw [show (leb p.kind 1 ++ leb p.level 1 ++ leb p.obj 2).length = 2 + 2 by simp [aw]] at a6
 refine b8 _ rfl (by rfl) 77 #[.slice (some ⟨g1, 0, none⟩) (2 + 2) (2 + 2), .int .u32 (p.off : Int)] (fun _ => by go_simp) (fun u w' => u = .slice (some ⟨w1.drew.heap.size, 0, none⟩) (2 + 2 + 4) (2 + 2 + 4) ∧ SrcA w' (some ⟨w1.drew.heap.size, 0, none⟩) (leb p.kind 1 ++ leb p.level 1 ++ leb p.obj 2 ++ leb p.off 4)) (a6.mono fun e w' ⟨e1, e2, e3⟩ => ⟨_, e1, ⟨ab.out.drew.below e3 ab.out.lt, a5.out.drew.trans (e3.mono a5.out.size)⟩, rfl, by
  obtain ⟨sp, aq, e, _, _, h, _⟩ := OwnB.form e2;cases e
  exact h⟩) ?_
 rintro u w2 a1 ⟨rfl, a0⟩;refine ⟨_, fun _ h => h, a1, ?_⟩; try simp only [pS]
 have a7 := Sk (leb p.kind 1 ++ leb p.level 1 ++ leb p.obj 2 ++ leb p.off 4) (some ⟨w1.drew.heap.size, 0, none⟩) (2 + 2 + 4) p.birth w2 (by simp [aw]) HP.out.birth a0;rw [show (leb p.kind 1 ++ leb p.level 1 ++ leb p.obj 2 ++ leb p.off 4).length = 2 + 2 + 4 by simp [aw]] at a7
 refine b8 _ rfl (by rfl) 25 #[.slice (some ⟨w1.drew.heap.size, 0, none⟩) (2 + 2 + 4) (2 + 2 + 4), .int .u64 (p.birth : Int)] (fun _ => by go_simp) (fun u w' => u = .slice (some ⟨w2.heap.size, 0, none⟩) (2 + 2 + 4 + 8) (2 + 2 + 4 + 8) ∧ OwnB w' w2.heap.size u (iz p)) (a7.mono fun e w' ⟨e1, e2, e3⟩ => ⟨_, e1, ⟨a1.1.below e3 a1.1.lt, a1.2.trans (e3.mono a1.2.size)⟩, rfl, by
  have e : (leb p.kind 1 ++ leb p.level 1 ++ leb p.obj 2 ++ leb p.off 4 ++ leb p.birth 8).length = 2 + 2 + 4 + 8 := (by simp [aw]);rw [e] at e2
  exact e2⟩) ?_
 rintro u w3 ad ⟨rfl, ak⟩;refine ⟨_, fun _ h => h, ad, ?_⟩; try simp only [pS]
 refine gT (.slice (some ⟨w2.heap.size, 0, none⟩) (2 + 2 + 4 + 8) (2 + 2 + 4 + 8)) ?_;refine au ?_;have an := zH (ak.mono (B' := w.heap.size) a1.2.size);have am := zH ad.2;clear ak ad a1 a0 a6 a7
 go_wp2_with fail
 go_ret;exact ⟨_, rfl, an.out, am.out⟩
theorem lh {B : Nat} {v : Value} {l m : Bs} {sp : Option Addr} {cap : Nat} (h : OwnB w B v l) (hB : B ≤ w.heap.size) (hl : l.length + m.length ≤ 1000000) (hS : SrcA w sp m) (hz : sp = none → cap = 0) (ty : TypeId) :
  ∃ v' w', (Builtin.append_ #[29, 29] ty #[v, .slice sp m.length cap]).run Tryz.prog w = .ok v' w' ∧ OwnB w' B v' (l ++ m) ∧ Below B w w' := by
 obtain ⟨i0, hi, a1, a0, a2⟩ := info_parts po;cases sp with
 | none =>
  have hm : m = [] := by
   rcases Nat.eq_zero_or_pos m.length with h0 | h0
   ·exact List.eq_nil_of_length_eq_zero h0
   ·obtain ⟨_, _, he, _⟩ := hS h0; cases he
  subst hm;obtain rfl := hz rfl;exact ⟨v, w, run_append_owned_none (P := Tryz.prog) (w := w) B 29 ty 5 i0 1 Tryz.underlying29 hi v l.length (l.map V8) h, by rw [List.append_nil]; exact h, Below.refl _ _⟩
 | some ad =>
  obtain ⟨v', w', hr, h2, h3, _, h5⟩ := run_append_own_at (P := Tryz.prog) w B 29 ty 5 i0 (.int .u8 0) 1 1 Tryz.underlying29 hi a1 a0 a2 rfl (by decide) v l.length (l.map V8) h ad m.length cap (m.map V8) (by simp) (fun j u hj => by
   have a3 : 0 < m.length := by
    have := (List.getElem?_eq_some_iff.1 hj).1;simp at this; omega
   obtain ⟨g, o, e, _, hc⟩ := hS a3;cases e
   exact mx hc j u hj) (ly m) (by unfold maxLen; omega) (by omega) hB
  refine ⟨v', w', hr, ?_, (Below.refl _ _).grown h3 hB (fun k hk => (h.lt k hk).1)⟩;unfold OwnB;rw [List.map_append, List.length_append];exact h2
theorem tb (n : Nat) : (Builtin.zeroCells #[Value.int .u8 0] n).size = n := by simp [Builtin.zeroCells]
set_option maxRecDepth 100000 in
set_option maxHeartbeats 2000000 in
theorem Tx (n : Nat) (h0 : 0 < n) (hn : n ≤ 200000) (w : World) : Calls Tryz.prog 79 #[.slice none 0 0, .int .i64 (n : Int)] w fun e w' => ∃ v, e = .returned v ∧ OwnB w' w.heap.size v [] ∧ Below w.heap.size w w' := by
 obtain ⟨i0, hi, a8, a5, a3⟩ := info_parts po;have a0 : (Builtin.firstCells i0.size 0 (.slice none 0 0)).run Tryz.prog w.drew = .ok ([] : List Value).toArray w.drew := by rw [a5]; exact run_firstCells_none w.drew 1 0 0 0
 have a1 : ∀ ty, (Builtin.append_ #[29, 3] ty #[.slice none 0 0, .int .i64 (n : Int)]).run Tryz.prog w = .ok (.slice (some ⟨w.heap.size, 0, none⟩) (0 + n) (grownCap w (0 + n) 0 5)) (w.drew.alloc (.cells (([] : List Value).toArray ++ Builtin.zeroCells (Value.int .u8 0).cells n ++ Builtin.zeroCells (Value.int .u8 0).cells (grownCap w (0 + n) 0 5 - (0 + n))) 5)) := fun ty =>
  Lib.run_append_grow_zeros w 29 3 ty 5 i0 (.int .u8 0) .i64 .i64 Tryz.underlying29 Tryz.underlying3 hi a8 none 0 0 [] a0 n h0 (by omega) (by omega) (by omega) (by rw [a3]; omega) (growslice_fits (by omega) (by rw [a3]; omega))
 have a7 : 0 + n ≤ grownCap w (0 + n) 0 5 := grownCap_ge w _ _ _;have a2 := grownCap_le_maxLen w (0 + n) 0 5 (by unfold maxLen; omega);obtain ⟨G, hG⟩ : ∃ G, grownCap w (0 + n) 0 5 = G := ⟨_, rfl⟩;rw [hG] at a1 a7 a2;rw [Nat.zero_add] at a1 a7;obtain ⟨cs, a4⟩ : ∃ cs : Array Value, (([] : List Value).toArray ++ Builtin.zeroCells (Value.int .u8 0).cells n ++ Builtin.zeroCells (Value.int .u8 0).cells (G - n)) = cs := ⟨_, rfl⟩
 have a6 : cs.size = G * 1 := by
  rw [← a4, Array.size_append, Array.size_append];have e : (Value.int .u8 0).cells = #[Value.int .u8 0] := rfl;rw [e, tb, tb];simp;omega
 rw [a4] at a1;have hO : OwnB (w.drew.alloc (.cells cs 5)) w.heap.size (.slice (some ⟨w.heap.size, 0, none⟩) 0 G) [] := World.ownsRow_made w.drew cs G (Nat.le_refl _) a2 a6;have HO := zH hO;have aa := zH a1;have a9 : G ≤ 9223372036854775807 := by unfold maxLen at a2; omega
 clear a4 a6 hO a1 a0 hG a2 hi a8 a5 a3;have q : (0 : Int) < (n : Int) := by omega
 have qn : ¬ (n : Int) < 0 := by omega
 have e0 := IntWalk.i64_in ((n : Int) - 0) (by omega);go_enter Tryz.func79, Tryz.ntmps79
 go_wp2_with (first | (at_builtin; refine Lib.wpList_append_run _ rfl _ _ _ _ rfl _ _ rfl rfl _ _ (aa.out _) ?_) | fail)
 go_ret;exact ⟨_, rfl, HO.out, (Below.refl _ _).drew.alloc (Nat.le_refl _) _⟩
def CcI (a b : Bs) (k : Nat) : Bs := if k = 0 then [] else if k = 1 then a else a ++ b
set_option maxRecDepth 100000 in
set_option maxHeartbeats 2000000 in
theorem Vw (a b : Bs) (sp0 sp1 : Option Addr) (c0 c1 g : Nat) (w : World) (h0 : 0 < a.length + b.length) (hl : a.length + b.length ≤ 100000) (hg : g < w.heap.size)
  (x0 : w.cell? ⟨g, 0, none⟩ = some (.slice sp0 a.length c0)) (x1 : w.cell? ⟨g, 1, none⟩ = some (.slice sp1 b.length c1)) (hS0 : SrcA w sp0 a) (hS1 : SrcA w sp1 b) (hz0 : sp0 = none → c0 = 0) (hz1 : sp1 = none → c1 = 0) :
  Calls Tryz.prog 50 #[.slice (some ⟨g, 0, none⟩) 2 2] w fun e w' => ∃ v, e = .returned v ∧ OwnB w' w.heap.size v (a ++ b) ∧ Below w.heap.size w w' := by
 obtain ⟨A, hA⟩ : ∃ A, a.length = A := ⟨_, rfl⟩;obtain ⟨B, hB⟩ : ∃ B, b.length = B := ⟨_, rfl⟩;have HA := zH hA; have HB := zH hB; have af := zH hS0; have a6 := zH hS1; have ad := zH hz0; have a8 := zH hz1;have ab := zH x0; have ae := zH x1;rw [hA] at x0 h0 hl; rw [hB] at x1 h0 hl;have e1 := IntWalk.i64_in ((A : Int) + (B : Int)) (by omega);have e2 := IntWalk.i64_in (0 + (A : Int)) (by omega);have qa : ¬ (A : Int) < 0 := by omega
 have qb : ¬ (A : Int) + (B : Int) < 0 := by omega
 clear hA hB hS0 hS1 hz0 hz1;go_enter Tryz.func50, Tryz.ntmps50
 go_wp2
 go_loop [3, 11] (fun s i => (s = .int .i64 0 ∧ i = .int .i64 0) ∨ (s = .int .i64 (A : Int) ∧ i = .int .i64 1) ∨ (s = .int .i64 ((A : Int) + (B : Int)) ∧ i = .int .i64 2)) (fun _ i => 2 - (intOf i).toNat)
 case atStart => exact .inl ⟨rfl, rfl⟩
 case round =>
  rcases hrel with ⟨rfl, rfl⟩ | ⟨rfl, rfl⟩ | ⟨rfl, rfl⟩
  ·go_wp2
   go_round
   case rel => exact .inr (.inl ⟨rfl, rfl⟩)
   case measure => simp [intOf]
  ·go_wp2
   go_round
   case rel => exact .inr (.inr ⟨rfl, rfl⟩)
   case measure => simp [intOf]
  ·clear e1 e2 qa qb x0 x1
   have hc := Tx (A + B) h0 (by omega) w;rw [show ((A + B : Nat) : Int) = (A : Int) + (B : Int) by omega] at hc;have HC := zH hc;clear hc
   go_wp2_with (first | (go_at_call 79; refine HC.out.mono ?_; rintro e w1 ⟨v1, rfl, a5, a4⟩; have a2 := zH a5; have a3 := zH a4; clear a5 a4) | fail)
   go_loopw [6, 27] (fun v i wr => ∃ k : Nat, k ≤ 2 ∧ i = .int .i64 (k : Int) ∧ OwnB wr w.heap.size v (CcI a b k) ∧ Below w.heap.size w wr) (fun _ i _ => 2 - (intOf i).toNat)
   case atStart => exact ⟨0, by omega, rfl, a2.out, a3.out⟩
   case round =>
    clear a2 a3 HC;obtain ⟨k, hk, rfl, ho, hb⟩ := hrel;have aa : k = 0 ∨ k = 1 ∨ k = 2 := (by omega);have y0 : wr.cell? ⟨g, 0, none⟩ = some (.slice sp0 A c0) := (hb.cell (p := ⟨g, 0, none⟩) hg).trans (by rw [ab.out, HA.out]);have y1 : wr.cell? ⟨g, 1, none⟩ = some (.slice sp1 B c1) := (hb.cell (p := ⟨g, 1, none⟩) hg).trans (by rw [ae.out, HB.out]);rcases aa with rfl | rfl | rfl
    ·obtain ⟨v', w', hr, a0, a1⟩ := lh (m := a) ho hb.size (by rw [HA.out]; simp [CcI]; omega) (af.out.below hb (Nat.le_refl _)) ad.out 29
     rw [HA.out] at hr;have HR := zH hr;have HN : Hid (OwnB w' w.heap.size v' (CcI a b 1) ∧ Below w.heap.size w w') := zH ⟨by simpa [CcI] using a0, hb.trans a1⟩
     obtain ⟨a7, n', c', rfl⟩ : ∃ sp n c, v' = .slice sp n c := by
      obtain ⟨sp, c, e, _⟩ := OwnB.form a0;exact ⟨sp, _, c, e⟩
     clear hr a0 a1 ho hb
     go_wp2_with (first | (at_builtin; refine a9 rfl (ib rfl rfl rfl HR.out) ?_) | fail)
     go_roundw
     case rel => exact ⟨1, by omega, rfl, HN.out⟩
     case measure => simp [intOf]
    ·obtain ⟨v', w', hr, a0, a1⟩ := lh (m := b) ho hb.size (by rw [HB.out]; simp [CcI, HA.out]; omega) (a6.out.below hb (Nat.le_refl _)) a8.out 29
     rw [HB.out] at hr;have HR := zH hr;have HN : Hid (OwnB w' w.heap.size v' (CcI a b 2) ∧ Below w.heap.size w w') := zH ⟨by simpa [CcI] using a0, hb.trans a1⟩
     obtain ⟨a7, n', c', rfl⟩ : ∃ sp n c, v' = .slice sp n c := by
      obtain ⟨sp, c, e, _⟩ := OwnB.form a0;exact ⟨sp, _, c, e⟩
     clear hr a0 a1 ho hb
     go_wp2_with (first | (at_builtin; refine a9 rfl (ib rfl rfl rfl HR.out) ?_) | fail)
     go_roundw
     case rel => exact ⟨2, by omega, rfl, HN.out⟩
     case measure => simp [intOf]
    ·have HN := zH (And.intro ho hb)
     clear ho hb
     go_wp2
     go_ret;exact ⟨_, rfl, by simpa [CcI] using HN.out.1, HN.out.2⟩
def Zs (p : Pt) (w : World) (v i : Value) (wr : World) : Prop :=
 ∃ k : Nat, k ≤ 4 ∧ i = .int .i64 (k : Int) ∧ OwnB wr w.heap.size v (iz p ++ p.hash ++ jk (p.ats.take k)) ∧ Below w.heap.size w wr
theorem zm (hp : p.OK) (hk : k ≤ 4) : (iz p ++ p.hash ++ jk (p.ats.take k)).length = 48 + 2 * k := by
 have := hp.len;simp [dd, hp.hash, ou];omega
set_option maxRecDepth 100000 in
set_option maxHeartbeats 4000000 in
theorem Ai (p : Pt) (hp : p.OK) (l : Bs) (sp : Option Addr) (cap : Nat) (w : World) (hl : l.length ≤ 1000) (hS : SrcA w sp l) (hz : sp = none → cap = 0) :
  Calls Tryz.prog 24 #[.slice sp l.length cap, .agg (a8 p).toArray] w fun e w' => ∃ v, e = .returned v ∧ OwnB w' w.heap.size v (l ++ g8 p) ∧ Below w.heap.size w w' := by
 have HP := zH hp;have a3 : Hid (Blk (w.alloc (.cells (a8 p).toArray 28)) w.heap.size (a8 p) 28) := zH (Blk.new _ _ _);have ad : Hid (Below w.heap.size w (w.alloc (.cells (a8 p).toArray 28))) := zH ((Below.refl _ _).alloc (Nat.le_refl _) _);obtain ⟨L, hL⟩ : ∃ L, l.length = L := ⟨_, rfl⟩;rw [hL] at hl ⊢;have HL := zH hL; have HS := zH hS; have HZ := zH hz;clear hp hL hS hz;go_enter Tryz.func24, Tryz.ntmps24
 go_upto_region 1 with fail
 generalize (w.alloc (.cells (a8 p).toArray 28)) = W0 at a3 ad ⊢;refine gS (.take 0 (.take 2 (.take 3 (.step 1 (.step 4 (.take 5 (.nil))))))) (fun X => Blk X w.heap.size (a8 p) 28) a3.out.drew ?_;refine gU (.agg (a8 p).toArray) rfl (fun X hX => c6 rfl rfl (d9 hX) Tryz.underlying28 rfl (by rw [dw, aa HP.out])) ?_;refine gU (.pointer (some ⟨w.heap.size, 5, none⟩)) rfl (fun X hX => Dk 5 5 (by omega) rfl rfl) ?_;refine gU (.slice (some ⟨w.heap.size, 5, none⟩) 32 32) rfl (fun X hX => Un rfl rfl) ?_;refine b8 _ rfl (by rfl) 48 #[.agg (a8 p).toArray] (fun _ => by go_simp) (fun u w' => OwnB w' W0.heap.size u (iz p) ∧ Below W0.heap.size W0 w') ((Wv p HP.out W0.drew).mono fun e w' ⟨v, e1, e2, e3⟩ => ⟨v, e1, a3.out.drew.below e3 a3.out.lt, e2, (Below.refl _ _).drew.trans e3⟩) ?_;rintro u w2 ab ⟨ap, am⟩;refine ⟨_, fun _ h => h, ab, ?_⟩; try simp only [pS]
 obtain ⟨v3, w3, ak, b2, ag⟩ := Ez (m := p.hash) ap am.size (by rw [dd, HP.out.hash]; omega) (g := w.heap.size) (off := 5) (c := 32) (Eu ab) 29;rw [HP.out.hash] at ak;refine bm _ rfl (by rfl) v3 w3 (ib rfl rfl rfl ak) _ (ab.below ag a3.out.lt) (fun _ h => h) ?_; try simp only [pS]
 refine gU (v3) rfl (fun X hX => by rfl) ?_;refine au ?_;have ax := zH (ab.below ag a3.out.lt);have aj := zH (b2.mono (B' := w.heap.size) ad.out.size);have av := zH (ad.out.trans ((am.trans ag).mono ad.out.size));clear ab ap am ak b2 ag;have ao : Hid ((p.ats.map U16).length = 4) := zH (by simp [HP.out.len])
 obtain ⟨b4, n3, c3, rfl⟩ : ∃ sp n c, v3 = .slice sp n c := by
  obtain ⟨sp, c, e, _⟩ := OwnB.form aj.out;exact ⟨sp, _, c, e⟩
 go_wp2_with (first | (refine a9 rfl (c6 (ty := 26) (cs := p.ats.map U16) rfl rfl (yu ax.out HP.out.hash) Tryz.underlying26 rfl (by rw [jr, ao.out])) ?_) | fail)
 have HR := zH (show Zs p w (.slice b4 n3 c3) (.int .i64 0) w3 from ⟨0, by omega, rfl, by simpa [jk] using aj.out, av.out⟩);clear ax av aj ad a3;go_loopw [5, 15] (fun v i wr => Zs p w v i wr) (fun _ i _ => 4 - (intOf i).toNat)
 case atStart => exact HR.out
 case round =>
  clear HR;obtain ⟨k, hk, rfl, hO, hB⟩ := hrel;have HO := zH hO;have HB := zH hB;obtain ⟨aq, a5, e, q1, q2, q3, q4, q5⟩ := OwnB.form hO;have af := zH q3;have bb := zH q4;have a1 := zm HP.out hk;rw [a1] at e;subst e;clear hO hB q1 q2 q3 q4 q5;have bd := IntWalk.i64_in ((k : Int) + 1) (by omega);by_cases hlt : k < 4
  ·obtain ⟨x, hx⟩ : ∃ x, p.ats[k]? = some x := ⟨_, List.getElem?_eq_getElem (by rw [HP.out.len]; exact hlt)⟩
   have ba : x < 65536 := HP.out.ats x (List.mem_of_getElem? hx);have bc : ∀ W : World, (Instr.index 26 (.agg (p.ats.map U16).toArray) (.int .i64 (k : Int))).run Tryz.prog W = .ok (.int .u16 (x : Int)) W := fun W => we p hx hlt W
   have HX := zH hx;have hc := zn (iz p ++ p.hash ++ jk (p.ats.take k)) aq a5 x wr (by omega) ba af.out;rw [a1] at hc;have HC := zH hc;clear hx hc a1
   go_wp2_with fail
   refine HC.out.mono ?_;rintro e w4 ⟨rfl, aw, b0⟩;have b6 := zH aw;have b9 := zH b0;clear aw b0
   go_wp2_with fail
   go_roundw
   case rel =>
    refine ⟨k + 1, by omega, by go_num, ?_, HB.out.trans (b9.out.mono HB.out.size)⟩;have h1 := b6.out;rw [List.append_assoc, ← zk, ← p8 HX.out] at h1;have h2 : (iz p ++ p.hash ++ jk (p.ats.take (k + 1))).length = 48 + 2 * k + 2 := (by rw [zm HP.out (by omega)]; omega);rw [h2] at h1;exact h1.mono HB.out.size
   case measure => simp [intOf]; omega
  ·obtain rfl : k = 4 := by omega
   have e4 : p.ats.take 4 = p.ats := List.take_of_length_le (by rw [HP.out.len]; omega);have a2 : iz p ++ p.hash ++ jk (p.ats.take 4) = o5 p := (by rw [e4]; rfl);rw [a2] at af;have ai : Hid ((o5 p).length = 56) := zH (od HP.out);rw [show 48 + 2 * 4 = 56 from rfl];have hc := Ga (o5 p) aq a5 64 wr (by rw [ai.out]; omega) (by omega) af.out;rw [ai.out] at hc;have HC := zH hc;clear hlt hk e4 a2 a1 hc;rw [show ((4 : Nat) : Int) = (4 : Int) from rfl]
   go_wp2_with (first | (go_at_call 23; refine HC.out.mono ?_; fail) | fail)
   refine HC.out.mono ?_;rintro e w5 ⟨v5, rfl, al, ar⟩
   have a6 : k8 (o5 p) 64 = g8 p := by
    unfold k8 g8;rw [ai.out];rfl
   rw [a6] at al;obtain ⟨a4, a0, e5, q1, q2, q3, q4, q5⟩ := OwnB.form al;have a7 := gy HP.out;rw [a7] at e5;subst e5;have ah := HB.out.trans (ar.mono HB.out.size);have hw := ah.size;have an : Blk (w5.alloc (.cells #[.slice sp L cap, .slice a4 64 a0] 29)) w5.heap.size [.slice sp L cap, .slice a4 64 a0] 29 := Blk.new' _ _ _ _ _ rfl rfl;have ae : Below w5.heap.size w5 (w5.alloc (.cells #[.slice sp L cap, .slice a4 64 a0] 29)) := (Below.refl _ _).alloc (Nat.le_refl _) _;have az := Vw l (g8 p) sp a4 cap a0 w5.heap.size _ (by rw [a7]; omega) (by rw [HL.out, a7]; omega) (by simp) (by rw [HL.out]; exact an.cell rfl) (by rw [a7]; exact an.cell rfl) ((HS.out.below ah (Nat.le_refl _)).grown ae) (q3.grown ae) HZ.out q4;have b5 : Hid (Calls Tryz.prog 50 #[.slice (some ⟨w5.heap.size, 0, none⟩) 2 2] (w5.alloc (.cells #[.slice sp L cap, .slice a4 64 a0] 29)) fun e w' => ∃ v, e = .returned v ∧ OwnB w' w.heap.size v (l ++ g8 p) ∧ Below w.heap.size w w') := zH (az.mono fun e w' ⟨v, e1, e2, e3⟩ => ⟨v, e1, e2.mono (by simp; omega), ah.trans ((ae.trans (e3.mono (by simp))).mono hw)⟩);clear az an ae ah q1 q2 q3 q4 q5 a6 al ar a7 hw HC HO af bb
   go_wp2_with (first | (go_at_call 50; refine b5.out.mono ?_; rintro e w7 ⟨v7, rfl, ay, b1⟩; have b7 := zH ay; have b3 := zH b1; clear ay b1) | fail)
   go_ret;exact ⟨_, rfl, b7.out, b3.out⟩
end Go.Proofs.YtjgjohdeeeoeoaaGreatDoor
