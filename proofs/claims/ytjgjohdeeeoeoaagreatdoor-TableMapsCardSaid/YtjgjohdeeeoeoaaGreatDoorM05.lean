/- That no two copies are at one place: a range over the iterator. -/
import Derived.Test.YtjgjohdeeeoeoaaGreatDoorM04
import Derived.Deep.DeepCutAuto
import Derived.Lib.AppendZerosOnto
import Derived.Lib.Walk
import Derived.Laws.OwnMore
set_option linter.all false
namespace Go.Proofs.YtjgjohdeeeoeoaaGreatDoor
open Go.RowKit Go.Shelf
attribute [local go_sem] Oper.semAt_some
theorem Blk.kept {A W : World} {row : Option Nat} {g : Nat} {cs : List Value} {t : TypeId} (h : Blk A g cs t) (hg : A.grownBy W row) (hr : ∀ r, row = some r → ∃ o : Obj, A.heap[r]? = some o ∧ o.isCells = false) : Blk W g cs t := by
 unfold Blk;rw [hg.block g h.lt (fun e => ?_)]
 ·exact h
 ·obtain ⟨o, h1, h2⟩ := hr g e.symm
  have h' : A.heap[g]? = some (.cells cs.toArray t (0, 0)) := h;rw [h'] at h1;cases h1;cases h2
structure ApI (w : World) (pre : List Cp) (W : World) : Prop where
 h : ∃ f x y, mh (pre.map (·.1)) (false, 0, 0) = some (f, x, y) ∧ Blk W (w.heap.size + 1 + 1) [.bool f] 4 ∧ Blk W (w.heap.size + 1 + 1 + 1) [.int .u16 (x : Int), .int .u16 (y : Int)] 181
 r : Blk W (w.heap.size + 1) [.bool false] 4
 b : Below w.heap.size w W
structure ApX (w : World) (c : Code) (pre : List Cp) (W : World) : Prop where
 c : c = .ret
 h : mh (pre.map (·.1)) (false, 0, 0) = none
 r : Blk W (w.heap.size + 1) [.bool false] 4
 b : Below w.heap.size w W
theorem Wf (w W0 : World) (hs : w.heap.size ≤ W0.heap.size) : OwnFrom W0.heap.size (ApI w) := fun s A B row hs0 hg hr => by
 have a0 : ∀ r, row = some r → ∃ o : Obj, A.heap[r]? = some o ∧ o.isCells = false := fun r e => (hr r e).2
 obtain ⟨f, x, y, h1, h2, h3⟩ := hs0.h;exact ⟨⟨f, x, y, h1, h2.kept hg a0, h3.kept hg a0⟩, hs0.r.kept hg a0, hs0.b.grown hg hs0.b.size (fun k e => by have := (hr k e).1; omega)⟩
theorem Wg (w W0 : World) (hs : w.heap.size ≤ W0.heap.size) (c : Code) : OwnFrom W0.heap.size (ApX w c) := fun s A B row hs0 hg hr => by
 have a0 : ∀ r, row = some r → ∃ o : Obj, A.heap[r]? = some o ∧ o.isCells = false := fun r e => (hr r e).2
 exact ⟨hs0.c, hs0.h, hs0.r.kept hg a0, hs0.b.grown hg hs0.b.size (fun k e => by have := (hr k e).1; omega)⟩
def ApW (p : Pt) (w W : World) : Prop := Blk W w.heap.size (a8 p) 28 ∧ Blk W (w.heap.size + 1) [.bool false] 4 ∧ Blk W (w.heap.size + 1 + 1) [.bool false] 4 ∧ Blk W (w.heap.size + 1 + 1 + 1) [.int .u16 0, .int .u16 0] 181 ∧ Below w.heap.size w W ∧ W.heap.size = w.heap.size + 4
theorem Mc (p : Pt) (w : World) : ApW p w ((((w.alloc (.cells (a8 p).toArray 28)).alloc (.cells #[.bool false] 4)).alloc (.cells #[.bool false] 4)).alloc (.cells #[.int .u16 0, .int .u16 0] 181)) :=
 ⟨(((Blk.new _ _ _).alloc _).alloc _).alloc _, ((Blk.new' _ _ [.bool false] _ _ (by simp) rfl).alloc _).alloc _, (Blk.new' _ _ [.bool false] _ _ (by simp) rfl).alloc _, Blk.new' _ _ [.int .u16 0, .int .u16 0] _ _ (by simp) rfl,
  (((((Below.refl _ _).alloc (Nat.le_refl _) _).alloc (by simp) _).alloc (by simp; omega) _).alloc (by simp; omega) _), by simp⟩
set_option maxRecDepth 100000 in
set_option maxHeartbeats 4000000 in
theorem Md (p : Pt) (hp : p.OK) (w : World) : Calls Tryz.prog 85 #[.agg (a8 p).toArray] w fun e w' => e = .returned (.bool (k7 p)) ∧ Below w.heap.size w w' := by
 have HP := zH hp;obtain ⟨m, hm⟩ : ∃ m, k7 p = m := ⟨_, rfl⟩;rw [hm];have HM := zH hm;obtain ⟨P, a7⟩ : ∃ P, (a8 p).toArray = P := ⟨_, rfl⟩;have a6 := zH a7;have ar : Hid ((Tryz.prog.info? 28).map (·.size) = some P.size) := zH (by rw [← a7, dw]; simp [aa hp]);rw [a7];clear hm hp a7;refine callsIn_wide.1 (callsIn_of_wp_marks (F := Fence.wide) (n := 5) Tryz.func85 rfl trivial ?_ rfl);refine wpIn_wide.2 ?_;simp only [Tryz.ntmps85, List.size_toArray, List.length_cons, List.length_nil, Nat.reduceAdd, Nat.reduceSub, Array.replicate_succ, Array.replicate_zero, List.push_toArray, List.append_toArray, List.nil_append, List.cons_append]
 go_upto_region 3 with fail
 refine (fun (k : ∀ W1, ApW p w W1 → Code.wp _ _ _ _ W1) => k _ (by rw [← a6.out]; exact Mc p w)) ?_;intro W1 hW;have HW := zH hW;have HC : Hid (Calls Tryz.prog 106 #[.agg P] W1 fun e w' => e = .returned (.func (.func 121) #[] #[.pointer (some ⟨W1.heap.size, 0, none⟩)]) ∧ w' = W1.alloc (.cells P 28)) := zH (by rw [← a6.out]; exact Hi p W1);have HG : Hid (W1.heap[w.heap.size]? = some (.cells P 28 (0, 0))) := zH (by rw [← a6.out]; exact hW.1);clear hW
 go_wp2_with (first | (refine wpList_load_row rfl 28 (.tmp 1) rfl w.heap.size rfl 28 _ _ _ HG.out Tryz.underlying28 rfl ar.out ?_) | (go_at_call 106; refine HC.out.mono ?_; rintro e w' ⟨rfl, rfl⟩) | fail)
 have aq : W1.heap.size = w.heap.size + 4 := HW.out.2.2.2.2.2;have au : Blk (W1.alloc (.cells P 28)) W1.heap.size (a8 p) 28 := Blk.new' W1 P (a8 p) 28 _ rfl a6.out.symm;have a5 := zH aq;clear aq
 refine wpIn_wide.1 (wpIn_rangeFunc_ownF (n := 5) (w := W1.alloc (.cells P 28)) rfl (by omega) (gf := 121) (lb := #[.pointer (some ⟨W1.heap.size, 0, none⟩)]) rfl trivial (enters_of Tryz.func121 (by kernel_rfl) rfl)
  (Cg Fence.wide 4 trivial rfl (by omega) W1.heap.size p HP.out _ au) (fun _ _ => trivial) (fun _ _ _ _ _ _ _ _ => trivial) (Below.refl _ _) (fun _ => rfl)
  (ApI w) (ApX w) (Wf w _ (by have := a5.out; simp; omega)) (Wg w _ (by have := a5.out; simp; omega)) ⟨⟨false, 0, 0, rfl, HW.out.2.2.1.alloc _, HW.out.2.2.2.1.alloc _⟩, HW.out.2.1.alloc _, HW.out.2.2.2.2.1.alloc (by have := a5.out; omega) _⟩
  (fun x => { tmps := #[.agg P, .pointer (some ⟨w.heap.size, 0, none⟩), .pointer (some ⟨w.heap.size + 1, 0, none⟩), .pointer (some ⟨w.heap.size + 1 + 1, 0, none⟩), .pointer (some ⟨w.heap.size + 1 + 1 + 1, 0, none⟩), .int .i64 (x.1.1 : Int), .int .u16 (x.1.2 : Int), .agg P, .func (.func 121) #[] #[.pointer (some ⟨W1.heap.size, 0, none⟩)], .int .i64 (x.1.1 : Int), .int .u16 (x.1.2 : Int), undef, undef, undef, undef, undef, undef, undef, undef, undef], defers := [] }) ?assign ?body ?done ?stop)
 case assign =>
  intro l x W K hK;unfold Rj
  gi_wp2
  exact hK
 case body =>
  rintro l ad ⟨⟨d, a⟩, hd, a9, ab⟩ W hI _;have HI := zH hI;obtain ⟨⟨f, x, y, a0, a1, a2⟩, hr, hb⟩ := hI;simp only at hd a9 ab;have c3 := a2.cell (j := 0) rfl;have c4 := a2.cell (j := 1) rfl;have f3 := a2.free 0;have f4 := a2.free 1;have c2 := a1.cell (j := 0) rfl;have f2 := a1.free 0;have c1 := hr.cell (j := 0) rfl;have f1 := hr.free 0;have ae := zH a0;clear a1 a2 hr hb a0
  have an : a = (if d = 0 then x else y) → ApX w .ret (ad ++ [⟨(d, a), hd, a9, ab⟩]) (W.setCell ⟨w.heap.size + 1, 0, none⟩ (.bool false)) := fun e =>
   ⟨rfl, by rw [List.map_append, kh, ae.out]; show mh [(d, a)] (f, x, y) = none; show (if _ then _ else _) = _; rw [if_pos e], HI.out.r.set 0 (.bool false), HI.out.b.setCell (by simp) _⟩
  have ao : ¬ a = (if d = 0 then x else y) → ApI w (ad ++ [⟨(d, a), hd, a9, ab⟩]) ((W.setCell ⟨w.heap.size + 1 + 1, 0, none⟩ (.bool true)).setCell ⟨w.heap.size + 1 + 1 + 1, d, none⟩ (.int .u16 (a : Int))) := fun e => by
   obtain ⟨⟨f', x', y', a0, a1, a2⟩, hr, hb⟩ := HI.out;rw [ae.out] at a0;cases a0;have h2 := (a1.set 0 (.bool true)).other (a := ⟨w.heap.size + 1 + 1 + 1, d, none⟩) (by simp) (.int .u16 (a : Int));have h3 := (a2.other (a := ⟨w.heap.size + 1 + 1, 0, none⟩) (by simp) (.bool true)).set d (.int .u16 (a : Int))
   have hs : mh ((ad ++ [(⟨(d, a), hd, a9, ab⟩ : Cp)]).map (fun z => z.1)) (false, 0, 0) = some (if d = 0 then (true, a, y) else (true, x, a)) := by
    rw [List.map_append, kh, ae.out];show mh [(d, a)] (f, x, y) = _;show (if _ then _ else _) = _;rw [if_neg e];rfl
   have ap := (hr.other (a := ⟨w.heap.size + 1 + 1, 0, none⟩) (by simp) (.bool true)).other (a := ⟨w.heap.size + 1 + 1 + 1, d, none⟩) (by first | (simp; done) | (simp; omega)) (.int .u16 (a : Int));have am := (hb.setCell (p := ⟨w.heap.size + 1 + 1, 0, none⟩) (by first | (simp; done) | (simp; omega)) (.bool true)).setCell (p := ⟨w.heap.size + 1 + 1 + 1, d, none⟩) (by first | (simp; done) | (simp; omega)) (.int .u16 (a : Int));have ai : d = 0 ∨ d = 1 := (by omega);rcases ai with rfl | rfl
   ·exact ⟨⟨true, a, y, hs, h2, h3⟩, ap, am⟩
   ·exact ⟨⟨true, x, a, hs, h2, h3⟩, ap, am⟩
  have a3 := zH an; have a4 := zH ao;clear an ao;have ai : d = 0 ∨ d = 1 := (by omega);rcases ai with rfl | rfl
  ·by_cases hc : a = x
   ·have ah : (a : Int) = (x : Int) := by omega
    have HR := zH (a3.out (by simp [hc]));clear hc a3 a4
    gi_wp2
    exact ⟨KeepsOthers.setCell _ _ _, HR.out⟩
   ·have ah : ¬ (a : Int) = (x : Int) := by omega
    have HR := zH (a4.out (by simp [hc]));clear hc a3 a4
    gi_wp2
    exact ⟨(KeepsOthers.setCell _ _ _).trans (KeepsOthers.setCell _ _ _), trivial, HR.out⟩
  ·by_cases hc : a = y
   ·have ah : (a : Int) = (y : Int) := by omega
    have HR := zH (a3.out (by simp [hc]));clear hc a3 a4
    gi_wp2
    exact ⟨KeepsOthers.setCell _ _ _, HR.out⟩
   ·have ah : ¬ (a : Int) = (y : Int) := by omega
    have HR := zH (a4.out (by simp [hc]));clear hc a3 a4
    gi_wp2
    exact ⟨(KeepsOthers.setCell _ _ _).trans (KeepsOthers.setCell _ _ _), trivial, HR.out⟩
 case done =>
  rintro D ys W hD rfl hI hK;have al := hI;obtain ⟨⟨f, x, y, a0, a1, -⟩, hr, -⟩ := hI;have c2 := a1.cell (j := 0) rfl;have c1 := hr.cell (j := 0) rfl;have f1 := hr.free 0
  have aj : m = f := by
   rw [← HM.out];unfold k7;rw [← K2 HP.out, a0]
  subst aj;have HI := zH al;clear al a1 hr a0
  go_wp2
  have af := (KeepsOthers.setCell W ⟨w.heap.size + 1, 0, none⟩ (.bool m)).same D _ hK rfl;refine ⟨by simp, .inl ⟨_, _, rfl, run_takeDeferred af, ?_⟩⟩;have ag := cell_kept (World.cell?_setCell_same' W ⟨w.heap.size + 1, 0, none⟩ (.bool m) (by rw [c1]; rfl)) (grownBy_putObj' _ D (.deferred none)) (fun r e => by cases e; exact ⟨_, af, rfl⟩);refine ⟨.bool m, ?_, rfl, (HI.out.b.setCell (p := ⟨w.heap.size + 1, 0, none⟩) (by simp) _).trans (belowK_b (w := w) (Nat.le_refl _) _ D _ _ (by have := a5.out; simp at hD; omega) af rfl rfl)⟩;simp [results, Tryz.f85, go_sem, ag]
 case stop =>
  rintro D c ad W hD ak hX hK;obtain ⟨rfl, a0, hr, hb⟩ := hX
  have aj : m = false := by
   rw [← HM.out];unfold k7;obtain ⟨r, hr⟩ := ak;rw [← K2 HP.out, ← hr, List.map_append, kh, a0];rfl
  subst aj;have c1 := hr.cell (j := 0) rfl;refine wpIn_wide.2 ?_
  go_wp2
  refine ⟨by simp, .inl ⟨_, _, rfl, run_takeDeferred hK, ?_⟩⟩;have ag := cell_kept c1 (grownBy_putObj' _ D (.deferred none)) (fun r e => by cases e; exact ⟨_, hK, rfl⟩);refine ⟨.bool false, ?_, rfl, hb.trans (belowK_b (w := w) (Nat.le_refl _) _ D _ _ (by have := a5.out; simp at hD; omega) hK rfl rfl)⟩;simp [results, Tryz.f85, go_sem, ag]
end Go.Proofs.YtjgjohdeeeoeoaaGreatDoor
namespace Go.Proofs.YtjgjohdeeeoeoaaGreatDoor
open Go.RowKit
variable {k : Nat} {p : Pt} {w : World}
structure MyW (p : Pt) (w : World) (g : Nat) (W : World) : Prop where
 a : Blk W w.heap.size (a8 p) 28
 r : Blk W g (rcell p.kind) 158
 b : Below w.heap.size w W
theorem P8 {w1 : World} (h : Blk w1 w.heap.size (a8 p) 28) (hb : Below w.heap.size w w1) (z : Array Value) : MyW p w w1.heap.size ((w1.alloc (.cells z 158)).setRow w1.heap.size (rcell p.kind).toArray) := by
 obtain ⟨h1, h2⟩ := ar w1 z (rcell p.kind) 158;exact ⟨h.below h2 h.lt, h1, hb.trans (h2.mono hb.size)⟩
set_option maxRecDepth 100000 in
set_option maxHeartbeats 4000000 in
theorem sf (p : Pt) (hp : p.OK) (w : World) (hT : RTab w) : Calls Tryz.prog 58 #[.agg (a8 p).toArray] w fun e w' => e = .returned (.bool (fz p)) ∧ Below w.heap.size w w' := by
 have HP := zH hp;have hk := hp.kind;obtain ⟨m, hm⟩ : ∃ m, fz p = m := ⟨_, rfl⟩;rw [hm];have HM := zH hm;have a1 : Hid (Blk (w.alloc (.cells (a8 p).toArray 28)) w.heap.size (a8 p) 28) := zH (Blk.new _ _ _);have a2 : Hid (Below w.heap.size w (w.alloc (.cells (a8 p).toArray 28))) := zH ((Below.refl _ _).alloc (Nat.le_refl _) _);have HT : Hid (RTab (w.alloc (.cells (a8 p).toArray 28))) := zH (hT.alloc _);have cK := a1.out.cell (j := 0) rfl;have HK := zH hk;obtain ⟨P, a4⟩ : ∃ P, (a8 p).toArray = P := ⟨_, rfl⟩;have ab := zH a4;have ai : Hid ((Tryz.prog.info? 28).map (·.size) = some P.size) := zH (by rw [← a4, dw]; simp [aa hp]);rw [a4] at a1 a2 HT cK ⊢;clear hm hp hT a4 hk;go_enter Tryz.func58, Tryz.ntmps58
 go_upto_region 1 with fail
 generalize (w.alloc (.cells P 28)) = W0 at a1 a2 HT cK ⊢
 go_upto_region 2 with (first | (go_at_call 84; refine (Ur p.kind HK.out _ HT.out).mono ?_; rintro e w1 ⟨rfl, a5⟩; have a7 := zH (a1.out.below a5 a1.out.lt); have a6 := zH (a2.out.trans (a5.mono a2.out.size)); clear a5) | (refine wpList_store_row rfl 158 (.tmp 3) (.tmp 8) rfl w1.heap.size _ rfl rfl 158 _ (heap_alloc_new _ _) (by rw [vk]; rfl) rfl (Ff _) ?_) | fail)
 refine (fun (k : ∀ W1, MyW p w w1.heap.size W1 → Code.wp _ _ _ _ W1) => k _ (P8 a7.out a6.out _)) ?_;intro W hW;have HW := zH hW;obtain ⟨ha, hr, hb⟩ := hW;have cL := ha.cell (j := 1) rfl;have cw := hr.cell (j := 0) rfl;have cl := hr.cell (j := 1) rfl;have ch := hr.cell (j := 2) rfl;have HB := zH hb;have HA : Hid (W.heap[w.heap.size]? = some (.cells P 28 (0, 0))) := zH (by rw [← ab.out]; exact ha);have af := zH (yt ha HP.out.hash);obtain ⟨g, hg⟩ : ∃ g, w1.heap.size = g := ⟨_, rfl⟩;rw [hg] at cw cl ch ⊢;clear ha hr hb HW a7 a6 hg cK a1 a2 HT;by_cases hl : p.level < wi p.kind
 ·have : (p.level : Int) < (wi p.kind : Int) := by omega
  obtain rfl : m = false := by rw [← HM.out]; unfold fz; rw [decide_eq_false (by omega)]; rfl
  go_wp2
  go_ret;exact ⟨rfl, HB.out⟩
 have il : ¬ (p.level : Int) < (wi p.kind : Int) := by omega
 by_cases hh : nh p.kind < p.level
 ·have : (nh p.kind : Int) < (p.level : Int) := by omega
  obtain rfl : m = false := by rw [← HM.out]; unfold fz; rw [decide_eq_false (by omega)]; rfl
  go_wp2
  go_ret;exact ⟨rfl, HB.out⟩
 have ih : ¬ (nh p.kind : Int) < (p.level : Int) := by omega
 have ah : Hid (decide (wi p.kind ≤ p.level ∧ p.level ≤ nh p.kind) = true) := zH (decide_eq_true (by omega));clear hl hh
 go_wp2_with (first | (refine a9 rfl (c6 (ty := 26) (cs := p.ats.map U16) rfl rfl af.out Tryz.underlying26 rfl (by rw [js]; simp [HP.out.len])) ?_) | fail)
 clear il ih cl ch cL
 go_loop [23] (fun i => ∃ k : Nat, k ≤ 4 ∧ i = .int .i64 k ∧ ∀ j, j < k → p.ats.getD j 0 = 0 ∨ j % 2 < ly p.kind) (fun i => 4 - (intOf i).toNat)
 case atStart => exact ⟨0, by omega, rfl, fun j hj => by omega⟩
 case round =>
  obtain ⟨k, hk, rfl, a3⟩ := hrel;have a0 := zH a3;clear a3;by_cases hlt : k < 4
  ·obtain ⟨x, hx⟩ : ∃ x, p.ats[k]? = some x := ⟨_, List.getElem?_eq_getElem (by rw [HP.out.len]; exact hlt)⟩
   have al : ∀ W : World, (Instr.index 26 (.agg (p.ats.map U16).toArray) (.int .i64 (k : Int))).run Tryz.prog W = .ok (.int .u16 (x : Int)) W := fun W => we p hx hlt W
   have ae : p.ats.getD k 0 = x := (by rw [List.getD_eq_getElem?_getD, hx]; rfl);have HX := zH ae;have q : (k : Int) < 4 := (by omega);clear hx ae;by_cases h00 : x = 0
   ·have ix : (x : Int) = 0 := by omega
    have HN : Hid (∀ j, j < k + 1 → p.ats.getD j 0 = 0 ∨ j % 2 < ly p.kind) := zH (fun j hj => by
     rcases Nat.lt_or_eq_of_le (Nat.lt_succ_iff.1 hj) with h | rfl
     ·exact a0.out j h
     ·exact .inl (by rw [HX.out]; exact h00))
    clear h00
    go_wp2
    go_round
    case rel => exact ⟨k + 1, by omega, by go_num, HN.out⟩
    case measure => simp [intOf]; omega
   ·have ix : ¬ (x : Int) = 0 := by omega
    have ak : (k : Int).tmod 2 = (k : Int) % 2 := Int.tmod_eq_emod_of_nonneg (by omega);by_cases hw : k % 2 < ly p.kind
    ·have iw : ¬ (ly p.kind : Int) ≤ (k : Int) % 2 := by omega
     have HN : Hid (∀ j, j < k + 1 → p.ats.getD j 0 = 0 ∨ j % 2 < ly p.kind) := zH (fun j hj => by
      rcases Nat.lt_or_eq_of_le (Nat.lt_succ_iff.1 hj) with h | rfl
      ·exact a0.out j h
      ·exact .inr hw)
     clear h00 hw
     go_wp2
     go_round
     case rel => exact ⟨k + 1, by omega, by go_num, HN.out⟩
     case measure => simp [intOf]; omega
    ·have iw : (ly p.kind : Int) ≤ (k : Int) % 2 := by omega
     obtain rfl : m = false := by
      rw [← HM.out]
      have : jg p = false := by
       unfold jg;rw [List.all_eq_false];exact ⟨k, List.mem_range.2 hlt, by rw [HX.out]; simp; omega⟩
      unfold fz;rw [this];simp
     clear h00 hw
     go_wp2
     go_ret;exact ⟨rfl, HB.out⟩
  ·obtain rfl : k = 4 := by omega
   have aj : m = k7 p := by
    rw [← HM.out]
    have : jg p = true := by
     unfold jg;rw [List.all_eq_true];exact fun j hj => decide_eq_true (a0.out j (List.mem_range.1 hj))
    unfold fz;rw [ah.out, this];rfl
   subst aj;have HC : Hid (Calls Tryz.prog 85 #[.agg P] W fun e w' => e = .returned (.bool (k7 p)) ∧ Below W.heap.size W w') := zH (by rw [← ab.out]; exact Md p HP.out W);clear hlt hk
   go_wp2_with (first | (refine wpList_load_row rfl 28 (.tmp 1) rfl w.heap.size rfl 28 _ _ _ HA.out Tryz.underlying28 rfl ai.out ?_) | (go_at_call 85; refine HC.out.mono ?_; rintro e w3 ⟨rfl, ad⟩; have ag := zH (HB.out.trans (ad.mono HB.out.size)); clear ad) | fail)
   go_ret;exact ⟨rfl, ag.out⟩
theorem vp {n : Nat} (h : n < 256) : Value.int .u8 (n : Int) = V8 (lb n 0) := by
 unfold V8 N8;rw [I3];simp;omega
theorem Za (w : World) (l : Bs) (cs : Array Value) (h : cs = (l.map V8).toArray) : SrcA (w.alloc (.cells cs 5)) (some ⟨w.heap.size, 0, none⟩) l := fun _ => by
 refine ⟨w.heap.size, 0, rfl, by simp, fun j hj => ?_⟩;rw [Nat.zero_add];exact (Blk.new' w cs (l.map V8) 5 _ rfl h).cell (sd V8 l j hj 0)
theorem pd {l : List Nat} {x : Nat} (h : l[k]? = some x) : l.take (k + 1) = l.take k ++ [x] := by
 obtain ⟨h2, h3⟩ := List.getElem?_eq_some_iff.1 h;rw [List.take_succ_eq_append_getElem h2, h3]
set_option maxRecDepth 100000 in
set_option maxHeartbeats 4000000 in
theorem Zc (p : Pt) (hp : p.OK) (w : World) : Calls Tryz.prog 48 #[.agg (a8 p).toArray] w fun e w' => ∃ v, e = .returned v ∧ OwnB w' w.heap.size v (iy p) ∧ Below w.heap.size w w' := by
 have HP := zH hp;have a1 : Hid (Blk (w.alloc (.cells (a8 p).toArray 28)) w.heap.size (a8 p) 28) := zH (Blk.new _ _ _);have a6 : Hid (Below w.heap.size w (w.alloc (.cells (a8 p).toArray 28))) := zH ((Below.refl _ _).alloc (Nat.le_refl _) _);have cK := a1.out.cell (j := 0) rfl;have cL := a1.out.cell (j := 1) rfl;have cO := a1.out.cell (j := 2) rfl;clear hp;go_enter Tryz.func48, Tryz.ntmps48
 go_upto_region 1 with fail
 generalize (w.alloc (.cells (a8 p).toArray 28)) = W0 at a1 a6 cK cL cO ⊢;have ao : ∀ o, (W0.alloc o).cell? ⟨w.heap.size, 2, none⟩ = some (.int .u16 (p.obj : Int)) := fun o => (a1.out.alloc o).cell rfl
 have hc := A8 (leb p.kind 1 ++ leb p.level 1) (some ⟨W0.heap.size, 0, none⟩) 2 p.obj (W0.alloc (.cells #[.int .u8 (p.kind : Int), .int .u8 (p.level : Int)] 5)) (by simp [aw]) HP.out.obj (Za W0 _ _ (by rw [vp HP.out.kind, vp HP.out.level]; rfl));rw [show (leb p.kind 1 ++ leb p.level 1).length = 2 by simp [aw]] at hc;have HC := zH hc;clear hc
 go_upto_region 2 with (first | (go_at_call 49; refine HC.out.mono ?_; rintro e w1 ⟨rfl, ai, ag⟩; have a9 := zH ai; have a3 := zH ag; clear ai ag) | fail)
 obtain ⟨g1, a4⟩ : ∃ g, (W0.alloc (.cells #[.int .u8 (p.kind : Int), .int .u8 (p.level : Int)] 5)).heap.size = g := ⟨_, rfl⟩;rw [a4] at a9 a3;have ah : W0.heap.size + 1 = g1 := by rw [← a4]; simp
 try rw [ah]
 try rw [a4]
 have aq := a6.out.size
 have ak : SrcA w1 (some ⟨g1, 0, none⟩) (leb p.kind 1 ++ leb p.level 1 ++ leb p.obj 2) := by
  obtain ⟨sp, ap, e, _, _, h, _⟩ := OwnB.form a9.out;cases e;exact h
 have ar := a1.out.lt;have ae : Blk w1 w.heap.size (a8 p) 28 := (a1.out.alloc _).below a3.out (by omega);have af : Below w.heap.size w w1 := (a6.out.alloc aq _).trans (a3.out.mono (by omega));have a5 := zH ae; have an := zH ak; have a7 := zH af;clear ae ak af a4 ah a9 a3 HC ao cK cL cO;refine gS (.take 0 (.take 1 (.take 2 (.take 4 (.take 5 (.step 3 (.step 6 (.take 7 (.nil))))))))) (fun X => Blk X w.heap.size (a8 p) 28 ∧ Below w.heap.size w X) ⟨a5.out.drew, a7.out.drew⟩ ?_;refine gT (.slice (some ⟨g1, 0, none⟩) (2 + 2) (2 + 2)) ?_;refine gU (.pointer (some ⟨w.heap.size, 3, none⟩)) rfl (fun X hX => Cn 3 3 (by omega) rfl rfl) ?_;refine gU (.int .u32 (p.off : Int)) rfl (fun X hX => az Tryz.underlying24 rfl rfl (hX.1.cell rfl)) ?_;refine gU (.pointer (some ⟨w.heap.size, 4, none⟩)) rfl (fun X hX => Cn 4 4 (by omega) rfl rfl) ?_;refine gU (.int .u64 (p.birth : Int)) rfl (fun X hX => az Tryz.underlying22 rfl rfl (hX.1.cell rfl)) ?_;have aa := Fm (leb p.kind 1 ++ leb p.level 1 ++ leb p.obj 2) (some ⟨g1, 0, none⟩) (2 + 2) p.off w1.drew (by simp [aw]) HP.out.off an.out;rw [show (leb p.kind 1 ++ leb p.level 1 ++ leb p.obj 2).length = 2 + 2 by simp [aw]] at aa
 refine b8 _ rfl (by rfl) 77 #[.slice (some ⟨g1, 0, none⟩) (2 + 2) (2 + 2), .int .u32 (p.off : Int)] (fun _ => by go_simp) (fun u w' => u = .slice (some ⟨w1.drew.heap.size, 0, none⟩) (2 + 2 + 4) (2 + 2 + 4) ∧ SrcA w' (some ⟨w1.drew.heap.size, 0, none⟩) (leb p.kind 1 ++ leb p.level 1 ++ leb p.obj 2 ++ leb p.off 4)) (aa.mono fun e w' ⟨e1, e2, e3⟩ => ⟨_, e1, ⟨a5.out.drew.below e3 a5.out.lt, a7.out.drew.trans (e3.mono a7.out.size)⟩, rfl, by
  obtain ⟨sp, ap, e, _, _, h, _⟩ := OwnB.form e2;cases e
  exact h⟩) ?_
 rintro u w2 a2 ⟨rfl, a0⟩;refine ⟨_, fun _ h => h, a2, ?_⟩; try simp only [pS]
 have ab := Uh (leb p.kind 1 ++ leb p.level 1 ++ leb p.obj 2 ++ leb p.off 4) (some ⟨w1.drew.heap.size, 0, none⟩) (2 + 2 + 4) p.birth w2 (by simp [aw]) HP.out.birth a0;rw [show (leb p.kind 1 ++ leb p.level 1 ++ leb p.obj 2 ++ leb p.off 4).length = 2 + 2 + 4 by simp [aw]] at ab
 refine b8 _ rfl (by rfl) 25 #[.slice (some ⟨w1.drew.heap.size, 0, none⟩) (2 + 2 + 4) (2 + 2 + 4), .int .u64 (p.birth : Int)] (fun _ => by go_simp) (fun u w' => u = .slice (some ⟨w2.heap.size, 0, none⟩) (2 + 2 + 4 + 8) (2 + 2 + 4 + 8) ∧ OwnB w' w2.heap.size u (iy p)) (ab.mono fun e w' ⟨e1, e2, e3⟩ => ⟨_, e1, ⟨a2.1.below e3 a2.1.lt, a2.2.trans (e3.mono a2.2.size)⟩, rfl, by
  have e : (leb p.kind 1 ++ leb p.level 1 ++ leb p.obj 2 ++ leb p.off 4 ++ leb p.birth 8).length = 2 + 2 + 4 + 8 := (by simp [aw]);rw [e] at e2
  exact e2⟩) ?_
 rintro u w3 ad ⟨rfl, aj⟩;refine ⟨_, fun _ h => h, ad, ?_⟩; try simp only [pS]
 refine gT (.slice (some ⟨w2.heap.size, 0, none⟩) (2 + 2 + 4 + 8) (2 + 2 + 4 + 8)) ?_;refine au ?_;have am := zH (aj.mono (B' := w.heap.size) a2.2.size);have al := zH ad.2;clear aj ad a2 a0 aa ab
 go_wp2_with fail
 go_ret;exact ⟨_, rfl, am.out, al.out⟩
theorem lq {B : Nat} {v : Value} {l m : Bs} {sp : Option Addr} {cap : Nat} (h : OwnB w B v l) (hB : B ≤ w.heap.size) (hl : l.length + m.length ≤ 1000000) (hS : SrcA w sp m) (hz : sp = none → cap = 0) (ty : TypeId) :
  ∃ v' w', (Builtin.append_ #[29, 29] ty #[v, .slice sp m.length cap]).run Tryz.prog w = .ok v' w' ∧ OwnB w' B v' (l ++ m) ∧ Below B w w' := by
 obtain ⟨i0, hi, a1, a2, a3⟩ := info_parts po;cases sp with
 | none =>
  have hm : m = [] := by
   rcases Nat.eq_zero_or_pos m.length with h0 | h0
   ·exact List.eq_nil_of_length_eq_zero h0
   ·obtain ⟨_, _, he, _⟩ := hS h0; cases he
  subst hm;obtain rfl := hz rfl;exact ⟨v, w, run_append_owned_none (P := Tryz.prog) (w := w) B 29 ty 5 i0 1 Tryz.underlying29 hi v l.length (l.map V8) h, by rw [List.append_nil]; exact h, Below.refl _ _⟩
 | some ad =>
  obtain ⟨v', w', hr, h2, h3, _, h5⟩ := run_append_own_at (P := Tryz.prog) w B 29 ty 5 i0 (.int .u8 0) 1 1 Tryz.underlying29 hi a1 a2 a3 rfl (by decide) v l.length (l.map V8) h ad m.length cap (m.map V8) (by simp) (fun j u hj => by
   have a0 : 0 < m.length := by
    have := (List.getElem?_eq_some_iff.1 hj).1;simp at this; omega
   obtain ⟨g, o, e, _, hc⟩ := hS a0;cases e
   exact nu hc j u hj) (lp m) (by unfold maxLen; omega) (by omega) hB
  refine ⟨v', w', hr, ?_, (Below.refl _ _).grown h3 hB (fun k hk => (h.lt k hk).1)⟩;unfold OwnB;rw [List.map_append, List.length_append];exact h2
theorem tb (n : Nat) : (Builtin.zeroCells #[Value.int .u8 0] n).size = n := by simp [Builtin.zeroCells]
set_option maxRecDepth 100000 in
set_option maxHeartbeats 2000000 in
theorem Ss (n : Nat) (h0 : 0 < n) (hn : n ≤ 200000) (w : World) : Calls Tryz.prog 79 #[.slice none 0 0, .int .i64 (n : Int)] w fun e w' => ∃ v, e = .returned v ∧ OwnB w' w.heap.size v [] ∧ Below w.heap.size w w' := by
 obtain ⟨i0, hi, a7, a8, a4⟩ := info_parts po;have a0 : (Builtin.firstCells i0.size 0 (.slice none 0 0)).run Tryz.prog w.drew = .ok ([] : List Value).toArray w.drew := by rw [a8]; exact run_firstCells_none w.drew 1 0 0 0
 have a1 : ∀ ty, (Builtin.append_ #[29, 3] ty #[.slice none 0 0, .int .i64 (n : Int)]).run Tryz.prog w = .ok (.slice (some ⟨w.heap.size, 0, none⟩) (0 + n) (grownCap w (0 + n) 0 5)) (w.drew.alloc (.cells (([] : List Value).toArray ++ Builtin.zeroCells (Value.int .u8 0).cells n ++ Builtin.zeroCells (Value.int .u8 0).cells (grownCap w (0 + n) 0 5 - (0 + n))) 5)) := fun ty =>
  Lib.run_append_grow_zeros w 29 3 ty 5 i0 (.int .u8 0) .i64 .i64 Tryz.underlying29 Tryz.underlying3 hi a7 none 0 0 [] a0 n h0 (by omega) (by omega) (by omega) (by rw [a4]; omega) (growslice_fits (by omega) (by rw [a4]; omega))
 have a5 : 0 + n ≤ grownCap w (0 + n) 0 5 := grownCap_ge w _ _ _;have a2 := grownCap_le_maxLen w (0 + n) 0 5 (by unfold maxLen; omega);obtain ⟨G, hG⟩ : ∃ G, grownCap w (0 + n) 0 5 = G := ⟨_, rfl⟩;rw [hG] at a1 a5 a2;rw [Nat.zero_add] at a1 a5;obtain ⟨cs, a3⟩ : ∃ cs : Array Value, (([] : List Value).toArray ++ Builtin.zeroCells (Value.int .u8 0).cells n ++ Builtin.zeroCells (Value.int .u8 0).cells (G - n)) = cs := ⟨_, rfl⟩
 have a6 : cs.size = G * 1 := by
  rw [← a3, Array.size_append, Array.size_append];have e : (Value.int .u8 0).cells = #[Value.int .u8 0] := rfl;rw [e, tb, tb];simp;omega
 rw [a3] at a1;have hO : OwnB (w.drew.alloc (.cells cs 5)) w.heap.size (.slice (some ⟨w.heap.size, 0, none⟩) 0 G) [] := World.ownsRow_made w.drew cs G (Nat.le_refl _) a2 a6;have HO := zH hO;have a9 := zH a1;have aa : G ≤ 9223372036854775807 := by unfold maxLen at a2; omega
 clear a3 a6 hO a1 a0 hG a2 hi a7 a8 a4;have q : (0 : Int) < (n : Int) := by omega
 have qn : ¬ (n : Int) < 0 := by omega
 have e0 := IntWalk.i64_in ((n : Int) - 0) (by omega);go_enter Tryz.func79, Tryz.ntmps79
 go_wp2_with (first | (at_builtin; refine Lib.wpList_append_run _ rfl _ _ _ _ rfl _ _ rfl rfl _ _ (a9.out _) ?_) | fail)
 go_ret;exact ⟨_, rfl, HO.out, (Below.refl _ _).drew.alloc (Nat.le_refl _) _⟩
def CcI (a b : Bs) (k : Nat) : Bs := if k = 0 then [] else if k = 1 then a else a ++ b
set_option maxRecDepth 100000 in
set_option maxHeartbeats 2000000 in
theorem Rc (a b : Bs) (sp0 sp1 : Option Addr) (c0 c1 g : Nat) (w : World) (h0 : 0 < a.length + b.length) (hl : a.length + b.length ≤ 100000) (hg : g < w.heap.size)
  (x0 : w.cell? ⟨g, 0, none⟩ = some (.slice sp0 a.length c0)) (x1 : w.cell? ⟨g, 1, none⟩ = some (.slice sp1 b.length c1)) (hS0 : SrcA w sp0 a) (hS1 : SrcA w sp1 b) (hz0 : sp0 = none → c0 = 0) (hz1 : sp1 = none → c1 = 0) :
  Calls Tryz.prog 50 #[.slice (some ⟨g, 0, none⟩) 2 2] w fun e w' => ∃ v, e = .returned v ∧ OwnB w' w.heap.size v (a ++ b) ∧ Below w.heap.size w w' := by
 obtain ⟨A, hA⟩ : ∃ A, a.length = A := ⟨_, rfl⟩;obtain ⟨B, hB⟩ : ∃ B, b.length = B := ⟨_, rfl⟩;have HA := zH hA; have HB := zH hB; have a6 := zH hS0; have a7 := zH hS1; have ab := zH hz0; have ad := zH hz1;have a8 := zH x0; have aa := zH x1;rw [hA] at x0 h0 hl; rw [hB] at x1 h0 hl;have e1 := IntWalk.i64_in ((A : Int) + (B : Int)) (by omega);have e2 := IntWalk.i64_in (0 + (A : Int)) (by omega);have qa : ¬ (A : Int) < 0 := by omega
 have qb : ¬ (A : Int) + (B : Int) < 0 := by omega
 clear hA hB hS0 hS1 hz0 hz1;go_enter Tryz.func50, Tryz.ntmps50
 go_wp2
 go_loop [3, 11] (fun s i => (s = .int .i64 0 ∧ i = .int .i64 0) ∨ (s = .int .i64 (A : Int) ∧ i = .int .i64 1) ∨ (s = .int .i64 ((A : Int) + (B : Int)) ∧ i = .int .i64 2)) (fun _ i => 2 - (intOf i).toNat)
 case atStart => exact .inl ⟨rfl, rfl⟩
 case round =>
  rcases hrel with ⟨rfl, rfl⟩ | ⟨rfl, rfl⟩ | ⟨rfl, rfl⟩
  ·go_wp2
   go_round
   case rel => exact .inr (.inl ⟨rfl, rfl⟩)
   case measure => simp [intOf]
  ·go_wp2
   go_round
   case rel => exact .inr (.inr ⟨rfl, rfl⟩)
   case measure => simp [intOf]
  ·clear e1 e2 qa qb x0 x1
   have hc := Ss (A + B) h0 (by omega) w;rw [show ((A + B : Nat) : Int) = (A : Int) + (B : Int) by omega] at hc;have HC := zH hc;clear hc
   go_wp2_with (first | (go_at_call 79; refine HC.out.mono ?_; rintro e w1 ⟨v1, rfl, a5, a4⟩; have a3 := zH a5; have a2 := zH a4; clear a5 a4) | fail)
   go_loopw [6, 27] (fun v i wr => ∃ k : Nat, k ≤ 2 ∧ i = .int .i64 (k : Int) ∧ OwnB wr w.heap.size v (CcI a b k) ∧ Below w.heap.size w wr) (fun _ i _ => 2 - (intOf i).toNat)
   case atStart => exact ⟨0, by omega, rfl, a3.out, a2.out⟩
   case round =>
    clear a3 a2 HC;obtain ⟨k, hk, rfl, ho, hb⟩ := hrel;have ae : k = 0 ∨ k = 1 ∨ k = 2 := (by omega);have y0 : wr.cell? ⟨g, 0, none⟩ = some (.slice sp0 A c0) := (hb.cell (p := ⟨g, 0, none⟩) hg).trans (by rw [a8.out, HA.out]);have y1 : wr.cell? ⟨g, 1, none⟩ = some (.slice sp1 B c1) := (hb.cell (p := ⟨g, 1, none⟩) hg).trans (by rw [aa.out, HB.out]);rcases ae with rfl | rfl | rfl
    ·obtain ⟨v', w', hr, a0, a1⟩ := lq (m := a) ho hb.size (by rw [HA.out]; simp [CcI]; omega) (a6.out.below hb (Nat.le_refl _)) ab.out 29
     rw [HA.out] at hr;have HR := zH hr;have HN : Hid (OwnB w' w.heap.size v' (CcI a b 1) ∧ Below w.heap.size w w') := zH ⟨by simpa [CcI] using a0, hb.trans a1⟩
     obtain ⟨af, n', c', rfl⟩ : ∃ sp n c, v' = .slice sp n c := by
      obtain ⟨sp, c, e, _⟩ := OwnB.form a0;exact ⟨sp, _, c, e⟩
     clear hr a0 a1 ho hb
     go_wp2_with (first | (at_builtin; refine a9 rfl (ia rfl rfl rfl HR.out) ?_) | fail)
     go_roundw
     case rel => exact ⟨1, by omega, rfl, HN.out⟩
     case measure => simp [intOf]
    ·obtain ⟨v', w', hr, a0, a1⟩ := lq (m := b) ho hb.size (by rw [HB.out]; simp [CcI, HA.out]; omega) (a7.out.below hb (Nat.le_refl _)) ad.out 29
     rw [HB.out] at hr;have HR := zH hr;have HN : Hid (OwnB w' w.heap.size v' (CcI a b 2) ∧ Below w.heap.size w w') := zH ⟨by simpa [CcI] using a0, hb.trans a1⟩
     obtain ⟨af, n', c', rfl⟩ : ∃ sp n c, v' = .slice sp n c := by
      obtain ⟨sp, c, e, _⟩ := OwnB.form a0;exact ⟨sp, _, c, e⟩
     clear hr a0 a1 ho hb
     go_wp2_with (first | (at_builtin; refine a9 rfl (ia rfl rfl rfl HR.out) ?_) | fail)
     go_roundw
     case rel => exact ⟨2, by omega, rfl, HN.out⟩
     case measure => simp [intOf]
    ·have HN := zH (And.intro ho hb)
     clear ho hb
     go_wp2
     go_ret;exact ⟨_, rfl, by simpa [CcI] using HN.out.1, HN.out.2⟩
def Zp (p : Pt) (w : World) (v i : Value) (wr : World) : Prop :=
 ∃ k : Nat, k ≤ 4 ∧ i = .int .i64 (k : Int) ∧ OwnB wr w.heap.size v (iy p ++ p.hash ++ jl (p.ats.take k)) ∧ Below w.heap.size w wr
theorem z9 (hp : p.OK) (hk : k ≤ 4) : (iy p ++ p.hash ++ jl (p.ats.take k)).length = 48 + 2 * k := by
 have := hp.len;simp [dd, hp.hash, p6];omega
set_option maxRecDepth 100000 in
set_option maxHeartbeats 4000000 in
theorem A7 (p : Pt) (hp : p.OK) (l : Bs) (sp : Option Addr) (cap : Nat) (w : World) (hl : l.length ≤ 1000) (hS : SrcA w sp l) (hz : sp = none → cap = 0) :
  Calls Tryz.prog 24 #[.slice sp l.length cap, .agg (a8 p).toArray] w fun e w' => ∃ v, e = .returned v ∧ OwnB w' w.heap.size v (l ++ g8 p) ∧ Below w.heap.size w w' := by
 have HP := zH hp;have a3 : Hid (Blk (w.alloc (.cells (a8 p).toArray 28)) w.heap.size (a8 p) 28) := zH (Blk.new _ _ _);have a4 : Hid (Below w.heap.size w (w.alloc (.cells (a8 p).toArray 28))) := zH ((Below.refl _ _).alloc (Nat.le_refl _) _);obtain ⟨L, hL⟩ : ∃ L, l.length = L := ⟨_, rfl⟩;rw [hL] at hl ⊢;have HL := zH hL; have HS := zH hS; have HZ := zH hz;clear hp hL hS hz;go_enter Tryz.func24, Tryz.ntmps24
 go_upto_region 1 with fail
 generalize (w.alloc (.cells (a8 p).toArray 28)) = W0 at a3 a4 ⊢;refine gS (.take 0 (.take 2 (.take 3 (.step 1 (.step 4 (.take 5 (.nil))))))) (fun X => Blk X w.heap.size (a8 p) 28) a3.out.drew ?_;refine gU (.agg (a8 p).toArray) rfl (fun X hX => c6 rfl rfl (d9 hX) Tryz.underlying28 rfl (by rw [dw, aa HP.out])) ?_;refine gU (.pointer (some ⟨w.heap.size, 5, none⟩)) rfl (fun X hX => Cn 5 5 (by omega) rfl rfl) ?_;refine gU (.slice (some ⟨w.heap.size, 5, none⟩) 32 32) rfl (fun X hX => Sa rfl rfl) ?_;refine b8 _ rfl (by rfl) 48 #[.agg (a8 p).toArray] (fun _ => by go_simp) (fun u w' => OwnB w' W0.heap.size u (iy p) ∧ Below W0.heap.size W0 w') ((Zc p HP.out W0.drew).mono fun e w' ⟨v, e1, e2, e3⟩ => ⟨v, e1, a3.out.drew.below e3 a3.out.lt, e2, (Below.refl _ _).drew.trans e3⟩) ?_;rintro u w2 ab ⟨ay, al⟩;refine ⟨_, fun _ h => h, ab, ?_⟩; try simp only [pS]
 obtain ⟨v3, w3, ao, az, af⟩ := Fg (m := p.hash) ay al.size (by rw [dd, HP.out.hash]; omega) (g := w.heap.size) (off := 5) (c := 32) (Fs ab) 29;rw [HP.out.hash] at ao;refine bm _ rfl (by rfl) v3 w3 (ia rfl rfl rfl ao) _ (ab.below af a3.out.lt) (fun _ h => h) ?_; try simp only [pS]
 refine gU (v3) rfl (fun X hX => by rfl) ?_;refine au ?_;have aq := zH (ab.below af a3.out.lt);have ak := zH (az.mono (B' := w.heap.size) a4.out.size);have ap := zH (a4.out.trans ((al.trans af).mono a4.out.size));clear ab ay al ao az af;have ai : Hid ((p.ats.map U16).length = 4) := zH (by simp [HP.out.len])
 obtain ⟨bb, n3, c3, rfl⟩ : ∃ sp n c, v3 = .slice sp n c := by
  obtain ⟨sp, c, e, _⟩ := OwnB.form ak.out;exact ⟨sp, _, c, e⟩
 go_wp2_with (first | (refine a9 rfl (c6 (ty := 26) (cs := p.ats.map U16) rfl rfl (yt aq.out HP.out.hash) Tryz.underlying26 rfl (by rw [js, ai.out])) ?_) | fail)
 have HR := zH (show Zp p w (.slice bb n3 c3) (.int .i64 0) w3 from ⟨0, by omega, rfl, by simpa [jl] using ak.out, ap.out⟩);clear aq ap ak a4 a3;go_loopw [5, 15] (fun v i wr => Zp p w v i wr) (fun _ i _ => 4 - (intOf i).toNat)
 case atStart => exact HR.out
 case round =>
  clear HR;obtain ⟨k, hk, rfl, hO, hB⟩ := hrel;have HO := zH hO;have HB := zH hB;obtain ⟨b2, a5, e, q1, q2, q3, q4, q5⟩ := OwnB.form hO;have ae := zH q3;have b9 := zH q4;have a1 := z9 HP.out hk;rw [a1] at e;subst e;clear hO hB q1 q2 q3 q4 q5;have bd := IntWalk.i64_in ((k : Int) + 1) (by omega);by_cases hlt : k < 4
  ·obtain ⟨x, hx⟩ : ∃ x, p.ats[k]? = some x := ⟨_, List.getElem?_eq_getElem (by rw [HP.out.len]; exact hlt)⟩
   have ba : x < 65536 := HP.out.ats x (List.mem_of_getElem? hx);have bc : ∀ W : World, (Instr.index 26 (.agg (p.ats.map U16).toArray) (.int .i64 (k : Int))).run Tryz.prog W = .ok (.int .u16 (x : Int)) W := fun W => we p hx hlt W
   have HX := zH hx;have hc := A8 (iy p ++ p.hash ++ jl (p.ats.take k)) b2 a5 x wr (by omega) ba ae.out;rw [a1] at hc;have HC := zH hc;clear hx hc a1
   go_wp2_with fail
   refine HC.out.mono ?_;rintro e w4 ⟨rfl, b0, ar⟩;have b6 := zH b0;have b3 := zH ar;clear b0 ar
   go_wp2_with fail
   go_roundw
   case rel =>
    refine ⟨k + 1, by omega, by go_num, ?_, HB.out.trans (b3.out.mono HB.out.size)⟩;have h1 := b6.out;rw [List.append_assoc, ← Ak, ← pd HX.out] at h1;have h2 : (iy p ++ p.hash ++ jl (p.ats.take (k + 1))).length = 48 + 2 * k + 2 := (by rw [z9 HP.out (by omega)]; omega);rw [h2] at h1;exact h1.mono HB.out.size
   case measure => simp [intOf]; omega
  ·obtain rfl : k = 4 := by omega
   have e4 : p.ats.take 4 = p.ats := List.take_of_length_le (by rw [HP.out.len]; omega);have a2 : iy p ++ p.hash ++ jl (p.ats.take 4) = my p := (by rw [e4]; rfl);rw [a2] at ae;have aj : Hid ((my p).length = 56) := zH (oc HP.out);rw [show 48 + 2 * 4 = 56 from rfl];have hc := Er (my p) b2 a5 64 wr (by rw [aj.out]; omega) (by omega) ae.out;rw [aj.out] at hc;have HC := zH hc;clear hlt hk e4 a2 a1 hc;rw [show ((4 : Nat) : Int) = (4 : Int) from rfl]
   go_wp2_with (first | (go_at_call 23; refine HC.out.mono ?_; fail) | fail)
   refine HC.out.mono ?_;rintro e w5 ⟨v5, rfl, an, av⟩
   have a6 : k8 (my p) 64 = g8 p := by
    unfold k8 g8;rw [aj.out];rfl
   rw [a6] at an;obtain ⟨ad, a0, e5, q1, q2, q3, q4, q5⟩ := OwnB.form an;have a7 := i4 HP.out;rw [a7] at e5;subst e5;have ag := HB.out.trans (av.mono HB.out.size);have hw := ag.size;have am : Blk (w5.alloc (.cells #[.slice sp L cap, .slice ad 64 a0] 29)) w5.heap.size [.slice sp L cap, .slice ad 64 a0] 29 := Blk.new' _ _ _ _ _ rfl rfl;have ah : Below w5.heap.size w5 (w5.alloc (.cells #[.slice sp L cap, .slice ad 64 a0] 29)) := (Below.refl _ _).alloc (Nat.le_refl _) _;have ax := Rc l (g8 p) sp ad cap a0 w5.heap.size _ (by rw [a7]; omega) (by rw [HL.out, a7]; omega) (by simp) (by rw [HL.out]; exact am.cell rfl) (by rw [a7]; exact am.cell rfl) ((HS.out.below ag (Nat.le_refl _)).grown ah) (q3.grown ah) HZ.out q4;have b5 : Hid (Calls Tryz.prog 50 #[.slice (some ⟨w5.heap.size, 0, none⟩) 2 2] (w5.alloc (.cells #[.slice sp L cap, .slice ad 64 a0] 29)) fun e w' => ∃ v, e = .returned v ∧ OwnB w' w.heap.size v (l ++ g8 p) ∧ Below w.heap.size w w') := zH (ax.mono fun e w' ⟨v, e1, e2, e3⟩ => ⟨v, e1, e2.mono (by simp; omega), ag.trans ((ah.trans (e3.mono (by simp))).mono hw)⟩);clear ax am ah ag q1 q2 q3 q4 q5 a6 an av a7 hw HC HO ae b9
   go_wp2_with (first | (go_at_call 50; refine b5.out.mono ?_; rintro e w7 ⟨v7, rfl, b1, aw⟩; have b7 := zH b1; have b4 := zH aw; clear b1 aw) | fail)
   go_ret;exact ⟨_, rfl, b7.out, b4.out⟩
end Go.Proofs.YtjgjohdeeeoeoaaGreatDoor
