/- Laws: a frame of boxes beside a shelf; a new shelf; leaf. -/
import Derived.Test.YtjgjohdeeeoeoaaGreatDoorM21
import Derived.Test.YtjgjohdeeeoeoaaGreatDoorM09
import Derived.Test.YtjgjohdeeeoeoaaGreatDoorM18
import Derived.Test.YtjgjohdeeeoeoaaGreatDoorM03
import Derived.RegionTactic
import Derived.Test.YtjgjohdeeeoeoaaGreatDoorM04
import Derived.Deep.DeepCutAuto
import Derived.Test.YtjgjohdeeeoeoaaGreatDoorM06
import Derived.Test.YtjgjohdeeeoeoaaGreatDoorM10
import Derived.Test.YtjgjohdeeeoeoaaGreatDoorM05
set_option linter.all false
namespace Go.Proofs.YtjgjohdeeeoeoaaGreatDoor
open Go.RowKit
attribute [local go_sem] Oper.semAt_some
variable {cs : List Value} {D g : Nat} {s : Sh} {t : TypeId} {X Y w : World}
abbrev Bxs := List (Nat × List Value × TypeId)
structure Fr (w : World) (D : Nat) (s : Sh) (bs : Bxs) (X : World) : Prop where
 sh : ∃ L1 v1, ShAt X L1 D s v1 ∧ Lo L1 ∧ (∀ b ∈ bs, L1 b.1 = 0) ∧ ∀ g, g < w.heap.size → L1 g = 0 ∨ L1 g = 10
 bx : ∀ b ∈ bs, Blk X b.1 b.2.1 b.2.2
 bel : Below w.heap.size w X
theorem Fr.below {bs : Bxs} (h : Fr w D s bs X) (hb : Below X.heap.size X Y) : Fr w D s bs Y := by
 obtain ⟨⟨L1, v1, h1, h2, h3, h4⟩, k, hl⟩ := h;exact ⟨⟨L1, v1, h1.below hb, h2, h3, h4⟩, fun b hb' => (k b hb').below hb (k b hb').lt, hl.trans (hb.mono hl.size)⟩
theorem Fr.drew {bs : Bxs} (h : Fr w D s bs X) : Fr w D s bs X.drew := h.below (Below.refl _ _).drew
theorem Fr.call {bs : Bxs} (h : Fr w D s bs X) : ∃ L1 v1, ShAt X L1 D s v1 ∧ Lo L1 ∧ (∀ g, g < w.heap.size → L1 g = 0 ∨ L1 g = 10) ∧ (∀ b ∈ bs, L1 b.1 = 0) ∧ ∀ s' Y, ShPost 5 L1 X D s' Y → Fr w D s' bs Y := by
 obtain ⟨⟨L1, v1, h1, h2, h3, h4⟩, k, hl⟩ := h;refine ⟨L1, v1, h1, h2, h4, h3, fun s' Y ⟨L2, v2, j1, j2⟩ => ⟨⟨L2, v2, j1, h2.mv j2, fun b hb => (j2.old _ (k b hb).lt).trans (h3 b hb), fun g hg => by rw [j2.old g (Nat.lt_of_lt_of_le hg hl.size)]; exact h4 g hg⟩, fun b hb => j2.blk (k b hb) (h3 b hb), ?_⟩⟩;refine ⟨j2.chg.os.trans hl.os, j2.chg.tape.trans hl.tape, j2.chg.output.trans hl.output, Nat.le_trans hl.size j2.chg.size, fun g hg => ?_⟩;rw [j2.chg.block g (Nat.lt_of_lt_of_le hg hl.size) (fun hf => by have := h4 g hg; unfold kx at hf; omega)];exact hl.block g hg
theorem Fr.add {bs : Bxs} (h : Fr w D s bs X) (hb : Below X.heap.size X Y) (hg : X.heap.size ≤ g) (hn : Blk Y g cs t) : Fr w D s ((g, cs, t) :: bs) Y := by
 have h' := h.below hb;obtain ⟨⟨L1, v1, h1, h2, h3, h4⟩, k, hl⟩ := h;obtain ⟨-, k', a0⟩ := h';refine ⟨⟨L1, v1, h1.below hb, h2, fun b hb' => ?_, h4⟩, fun b hb' => ?_, a0⟩
 ·rcases List.mem_cons.1 hb' with rfl | hb'
  ·exact h1.not hg
  ·exact h3 b hb'
 ·rcases List.mem_cons.1 hb' with rfl | hb'
  ·exact hn
  ·exact k' b hb'
theorem Fr.at {bs : Bxs} (h : Fr w D s bs X) (hm : (g, cs, t) ∈ bs) : Blk X g cs t := h.bx _ hm
theorem Fr.tab {bs : Bxs} (h : Fr w D s bs X) : RTab X := by
 obtain ⟨⟨L1, v1, h1, _⟩, _⟩ := h;exact h1.tab.1
def sh0 : Sh := ⟨[], [], [], [], -1, []⟩
def v0 : Sv := ⟨.slice none 0 0, .slice none 0 0, .slice none 0 0, .slice none 0 0, .slice none 0 0⟩
theorem Sf (w : World) (hT : RTab w) : Fr w w.heap.size sh0 [] (w.alloc (.cells (i6 v0 (-1)).toArray 50)) := by
 have hb : Below w.heap.size w (w.alloc (.cells (i6 v0 (-1)).toArray 50)) := (Below.refl _ _).alloc (Nat.le_refl _) _;have a2 := hT.lt;have a0 : ∀ {j : Nat} {L : Nat → Nat}, OwnM (w.alloc (.cells (i6 v0 (-1)).toArray 50)) 0 (.slice none 0 0) [] ∧ ∀ g, (Value.slice none 0 0).ownBlock = some g → L g = j := ⟨World.ownsRow_nil _ _ _ _, fun g hg => by cases hg⟩;refine ⟨⟨fun g => if g = w.heap.size then 1 else if g = 0 then 10 else 0, v0, ⟨Blk.new _ _ _, if_pos rfl, ⟨[], World.ownsRow_nil _ _ _ _, (fun g hg => by cases hg), rfl, fun i u b h => by simp at h, fun u h => by simp at h⟩, ⟨none, 0, rfl, Nat.le_refl _, fun _ => rfl, fun h => by simp [sh0] at h⟩, a0, a0, a0, fun g hg => ?_, fun q h => by simp [sh0] at h, fun q h => by simp [sh0] at h, fun q h => by simp [sh0] at h, hT.alloc _, ?_⟩, fun g => ?_, fun b hb => by simp at hb, fun g hg => ?_⟩, fun b hb => by simp at hb, hb⟩
 ·by_cases e : g = w.heap.size
  ·subst e; simp
  ·rw [if_neg e] at hg
   by_cases e2 : g = 0
   ·have := hT.lt; simp; omega
   ·rw [if_neg e2] at hg; exact absurd rfl hg
 ·rw [if_neg (by omega), if_pos rfl]
 ·show (if g = w.heap.size then 1 else if g = 0 then 10 else 0) ≤ 5 ∨ (if g = w.heap.size then 1 else if g = 0 then 10 else 0) = 10
  by_cases e : g = w.heap.size
  ·left; rw [if_pos e]; omega
  ·rw [if_neg e]
   by_cases e2 : g = 0
   ·right; rw [if_pos e2]
   ·left; rw [if_neg e2]; omega
 ·have a1 : ¬ g = w.heap.size := by omega
  show (if g = w.heap.size then 1 else if g = 0 then 10 else 0) = 0 ∨ (if g = w.heap.size then 1 else if g = 0 then 10 else 0) = 10;rw [if_neg a1];by_cases e2 : g = 0
  ·right; rw [if_pos e2]
  ·left; rw [if_neg e2]
def xw (n off : Nat) : Pt := ⟨1, 0, 9, off, n, List.replicate 32 0#8, [0, 0, 7, 0]⟩
theorem T7 {n off : Nat} (h1 : n < 18446744073709551616) (h2 : off < 4294967296) : (xw n off).OK :=
 ⟨by simp [xw], by simp [xw], by simp [xw], h2, h1, by simp [xw], by simp [xw], fun x hx => by simp [xw] at hx; rcases hx with rfl | rfl | rfl | rfl <;> omega⟩
end Go.Proofs.YtjgjohdeeeoeoaaGreatDoor
namespace Go.Proofs.YtjgjohdeeeoeoaaGreatDoor
open Go.RowKit
variable {ns : List Pt}
theorem Yv (l : Bs) : pt (l.take 64) = pt l := by
 have h : ∀ n m, n + m ≤ 64 → ((l.take 64).drop n).take m = (l.drop n).take m := fun n m hnm => by
  rw [List.drop_take, List.take_take, Nat.min_eq_left (by omega)]
 unfold pt;rw [h 1 1 (by omega), h 2 2 (by omega), h 4 4 (by omega), h 8 8 (by omega), h 16 32 (by omega), h 48 2 (by omega), h 50 2 (by omega), h 52 2 (by omega), h 54 2 (by omega), List.take_take, Nat.min_eq_left (by omega)]
set_option maxRecDepth 100000 in
set_option maxHeartbeats 8000000 in
theorem Um (p : Pt) (hp : p.OK) (w : World) : Calls Tryz.prog 12 #[.agg (a8 p).toArray] w fun e w' => e = .returned (.bool (un p)) ∧ Below w.heap.size w w' := by
 have a7 : Hid (Below w.heap.size w (w.alloc (.cells (a8 p).toArray 28))) := zH ((Below.refl _ _).alloc (Nat.le_refl _) _);have hG : Blk (w.alloc (.cells (a8 p).toArray 28)) w.heap.size (a8 p) 28 := Blk.new _ _ _;have hA := yt hG hp.hash;obtain ⟨k, lv, ob, a3, bi, hs, aa⟩ := p;have hl := hp.len
 match aa, hl with
 | [a, b, c, d], _ =>
 have hh := hp.hash;clear hp hl;have cK := hG.cell (j := 0) rfl;have cL := hG.cell (j := 1) rfl;have cA : (w.alloc (.cells (a8 ⟨k, lv, ob, a3, bi, hs, [a, b, c, d]⟩).toArray 28)).cell? ⟨w.heap.size, 37, none⟩ = some (.int .u16 (a : Int)) := im hG hh (k := 0) rfl;have cB : (w.alloc (.cells (a8 ⟨k, lv, ob, a3, bi, hs, [a, b, c, d]⟩).toArray 28)).cell? ⟨w.heap.size, 38, none⟩ = some (.int .u16 (b : Int)) := im hG hh (k := 1) rfl;have cC : (w.alloc (.cells (a8 ⟨k, lv, ob, a3, bi, hs, [a, b, c, d]⟩).toArray 28)).cell? ⟨w.heap.size, 39, none⟩ = some (.int .u16 (c : Int)) := im hG hh (k := 2) rfl;have cD : (w.alloc (.cells (a8 ⟨k, lv, ob, a3, bi, hs, [a, b, c, d]⟩).toArray 28)).cell? ⟨w.heap.size, 40, none⟩ = some (.int .u16 (d : Int)) := im hG hh (k := 3) rfl;have HG := zH hA;have HB := a7;obtain ⟨P, hP⟩ : ∃ P, (a8 ⟨k, lv, ob, a3, bi, hs, [a, b, c, d]⟩).toArray = P := ⟨_, rfl⟩;rw [hP] at cK cL cA cB cC cD HG HB ⊢;obtain ⟨m, hm⟩ : ∃ m, un ⟨k, lv, ob, a3, bi, hs, [a, b, c, d]⟩ = m := ⟨_, rfl⟩;rw [hm];have HM := zH hm;clear hG hA a7 hh hP hm;go_enter Tryz.func12, Tryz.ntmps12
 go_upto_region 1 with fail
 generalize (w.alloc (.cells P 28)) = W at cK cL cA cB cC cD HG HB ⊢;by_cases h1 : k < 1
 ·have ah : (k : Int) < 1 := by omega
  obtain rfl : m = false := by rw [← HM.out]; unfold un; simp only [List.getD_cons_zero, List.getD_cons_succ]; rw [if_pos (by omega)]
  go_wp2
  go_ret;exact ⟨rfl, HB.out⟩
 have ah : ¬ (k : Int) < 1 := by omega
 by_cases h5 : 5 < k
 ·have aj : (5 : Int) < k := by omega
  obtain rfl : m = false := by rw [← HM.out]; unfold un; simp only [List.getD_cons_zero, List.getD_cons_succ]; rw [if_pos (by omega)]
  go_wp2
  go_ret;exact ⟨rfl, HB.out⟩
 have aj : ¬ (5 : Int) < k := by omega
 have n1 : ¬ (k < 1 ∨ 5 < k) := by omega
 go_upto_region 3 with fail
 go_cut [33] (fun v wx => v = .bool (decide ((k = 3 ∧ (lv < 1 ∨ 2 < lv)) ∨ (k ≠ 3 ∧ lv ≠ 0))) ∧ wx = W)
 case first =>
  by_cases h3 : k = 3
  ·have ai : (k : Int) = 3 := by omega
   by_cases l1 : lv < 1
   ·have am : (lv : Int) < 1 := by omega
    go_wp2
    go_meet
    exact ⟨congrArg Value.bool (by first | exact (decide_eq_true (by omega)).symm | (rw [Bool.eq_iff_iff]; simp; omega)), rfl⟩
   ·have am : ¬ (lv : Int) < 1 := by omega
    by_cases l2 : 2 < lv
    ·have an : (2 : Int) < lv := by omega
     go_wp2
     go_meet
     exact ⟨congrArg Value.bool (by first | exact (decide_eq_true (by omega)).symm | (rw [Bool.eq_iff_iff]; simp; omega)), rfl⟩
    ·have an : ¬ (2 : Int) < lv := by omega
     go_wp2
     go_meet
     exact ⟨congrArg Value.bool (by first | exact (decide_eq_false (by omega)).symm | (rw [Bool.eq_iff_iff]; simp; omega)), rfl⟩
  ·have ai : ¬ (k : Int) = 3 := by omega
   by_cases l0 : lv = 0
   ·have al : (lv : Int) = 0 := by omega
    go_wp2
    go_meet
    exact ⟨congrArg Value.bool (by first | exact (decide_eq_false (by omega)).symm | (rw [Bool.eq_iff_iff]; simp; omega)), rfl⟩
   ·have al : ¬ (lv : Int) = 0 := by omega
    go_wp2
    go_meet
    exact ⟨congrArg Value.bool (by first | exact (decide_eq_true (by omega)).symm | (rw [Bool.eq_iff_iff]; simp; omega)), rfl⟩
 case rest =>
 obtain ⟨rfl, rfl⟩ := hcut;by_cases h3 : ((k = 3 ∧ (lv < 1 ∨ 2 < lv)) ∨ (k ≠ 3 ∧ lv ≠ 0))
 ·rw [decide_eq_true h3]
  obtain rfl : m = false := by rw [← HM.out]; unfold un; simp only [List.getD_cons_zero, List.getD_cons_succ]; rw [if_neg n1, if_pos h3]
  go_wp2
  go_ret;exact ⟨rfl, HB.out⟩
 rw [decide_eq_false h3];have a1 := zH n1; have a2 := zH h3; clear n1 h3;by_cases z : [a, b, c, d] = [0, 0, 0, 0]
 ·have HZ := zH z; clear z
  obtain rfl : m = false := by rw [← HM.out]; unfold un; simp only [List.getD_cons_zero, List.getD_cons_succ]; rw [if_neg a1.out, if_neg a2.out, if_pos HZ.out]
  go_wp2_with (first | (refine a9 rfl (c6 (ty := 26) (cs := [a, b, c, d].map U16) rfl rfl HG.out Tryz.underlying26 rfl js) ?_) | (refine a9 rfl (Ef (a := [a, b, c, d]) (b := [0, 0, 0, 0]) rfl rfl rfl rfl rfl) ?_; rw [decide_eq_true HZ.out]) | fail)
  go_ret;exact ⟨rfl, HB.out⟩
 have HZ := zH z; clear z
 go_upto_region 7 with (first | (refine a9 rfl (c6 (ty := 26) (cs := [a, b, c, d].map U16) rfl rfl HG.out Tryz.underlying26 rfl js) ?_) | (refine a9 rfl (Ef (a := [a, b, c, d]) (b := [0, 0, 0, 0]) rfl rfl rfl rfl rfl) ?_; rw [decide_eq_false HZ.out]) | fail); try simp only [pS]
 go_cut [65] (fun v wx => v = .bool (decide ((a ≠ 0 ∧ a = b) ∨ (c ≠ 0 ∧ c = d))) ∧ wx = wc)
 case first =>
  by_cases a0 : a = 0
  ·have ad : (a : Int) = 0 := by omega
   by_cases c0 : c = 0
   ·have a5 : (c : Int) = 0 := by omega
    go_wp2
    go_meet
    exact ⟨congrArg Value.bool (by first | exact (decide_eq_false (by omega)).symm | (rw [Bool.eq_iff_iff]; simp; omega)), rfl⟩
   ·have a5 : ¬ (c : Int) = 0 := by omega
    by_cases cd : c = d
    ·have a6 : (c : Int) = d := by omega
     go_wp2
     go_meet
     exact ⟨congrArg Value.bool (by first | exact (decide_eq_true (by omega)).symm | (rw [Bool.eq_iff_iff]; simp; omega)), rfl⟩
    ·have a6 : ¬ (c : Int) = d := by omega
     go_wp2
     go_meet
     exact ⟨congrArg Value.bool (by first | exact (decide_eq_false (by omega)).symm | (rw [Bool.eq_iff_iff]; simp; omega)), rfl⟩
  ·have ad : ¬ (a : Int) = 0 := by omega
   by_cases ab : a = b
   ·have ae : (a : Int) = b := by omega
    go_wp2
    go_meet
    exact ⟨congrArg Value.bool (by first | exact (decide_eq_true (by omega)).symm | (rw [Bool.eq_iff_iff]; simp; omega)), rfl⟩
   ·have ae : ¬ (a : Int) = b := by omega
    by_cases c0 : c = 0
    ·have a5 : (c : Int) = 0 := by omega
     go_wp2
     go_meet
     exact ⟨congrArg Value.bool (by first | exact (decide_eq_false (by omega)).symm | (rw [Bool.eq_iff_iff]; simp; omega)), rfl⟩
    ·have a5 : ¬ (c : Int) = 0 := by omega
     by_cases cd : c = d
     ·have a6 : (c : Int) = d := by omega
      go_wp2
      go_meet
      exact ⟨congrArg Value.bool (by first | exact (decide_eq_true (by omega)).symm | (rw [Bool.eq_iff_iff]; simp; omega)), rfl⟩
     ·have a6 : ¬ (c : Int) = d := by omega
      go_wp2
      go_meet
      exact ⟨congrArg Value.bool (by first | exact (decide_eq_false (by omega)).symm | (rw [Bool.eq_iff_iff]; simp; omega)), rfl⟩
 case rest =>
 obtain ⟨rfl, rfl⟩ := hcut;by_cases h7 : ((a ≠ 0 ∧ a = b) ∨ (c ≠ 0 ∧ c = d))
 ·rw [decide_eq_true h7]
  obtain rfl : m = false := by rw [← HM.out]; unfold un; simp only [List.getD_cons_zero, List.getD_cons_succ]; rw [if_neg a1.out, if_neg a2.out, if_neg HZ.out, if_pos h7]
  go_wp2
  go_ret;exact ⟨rfl, HB.out⟩
 rw [decide_eq_false h7];have a4 := zH h7; clear h7;by_cases k1 : k = 1
 ·have ak : (k : Int) = 1 := by omega
  by_cases b0 : b = 0
  ·have af : (b : Int) = 0 := by omega
   by_cases d0 : d = 0
   ·have ag : (d : Int) = 0 := by omega
    obtain rfl : m = true := by rw [← HM.out]; unfold un; simp only [List.getD_cons_zero, List.getD_cons_succ]; rw [if_neg a1.out, if_neg a2.out, if_neg HZ.out, if_neg a4.out]; exact decide_eq_true (by omega)
    go_wp2
    go_ret;exact ⟨rfl, HB.out⟩
   ·have ag : ¬ (d : Int) = 0 := by omega
    have ao : ((d : Int) == 0) = false := (by simp; omega);obtain rfl : m = false := by rw [← HM.out]; unfold un; simp only [List.getD_cons_zero, List.getD_cons_succ]; rw [if_neg a1.out, if_neg a2.out, if_neg HZ.out, if_neg a4.out]; exact decide_eq_false (by omega)
    go_wp2
    go_ret;exact ⟨rfl, HB.out⟩
  ·have af : ¬ (b : Int) = 0 := by omega
   obtain rfl : m = false := by rw [← HM.out]; unfold un; simp only [List.getD_cons_zero, List.getD_cons_succ]; rw [if_neg a1.out, if_neg a2.out, if_neg HZ.out, if_neg a4.out]; exact decide_eq_false (by omega)
   go_wp2
   go_ret;exact ⟨rfl, HB.out⟩
 ·have ak : ¬ (k : Int) = 1 := by omega
  obtain rfl : m = true := by rw [← HM.out]; unfold un; simp only [List.getD_cons_zero, List.getD_cons_succ]; rw [if_neg a1.out, if_neg a2.out, if_neg HZ.out, if_neg a4.out]; exact decide_eq_true (by omega)
  go_wp2
  go_ret;exact ⟨rfl, HB.out⟩
section
variable {ops : Array Oper} {Q : Exit → Act → World → Prop} {S : World → Prop}
end
section
variable {l : Bs} {w W W' : World} {K : Nat → Prop} {spb spn : Option Addr} {capb capn g5 g6 g7 : Nat} {p : Pt} {rest : Bs}
end
theorem Ug (l : Bs) : pt (l.take 64) = pt l := by
 have h : ∀ n m, n + m ≤ 64 → ((l.take 64).drop n).take m = (l.drop n).take m := fun n m hnm => by
  rw [List.drop_take, List.take_take, Nat.min_eq_left (by omega)]
 unfold pt;rw [h 1 1 (by omega), h 2 2 (by omega), h 4 4 (by omega), h 8 8 (by omega), h 16 32 (by omega), h 48 2 (by omega), h 50 2 (by omega), h 52 2 (by omega), h 54 2 (by omega), List.take_take, Nat.min_eq_left (by omega)]
theorem w8 {n : Nat} (h : n < 256) : IntKind.u8.wrap (n : Int) = n := by simp only [IntKind.wrap_u8']; omega
theorem J5 {l : Bs} (h : 64 ≤ l.length) : cj l 0 = if jo (l.take 64) && j6 (pt l) then 0 else 5 := by
 unfold cj j6;rw [if_neg (by omega), if_neg (by omega)]
theorem A5 : ∀ {ns : List Pt}, (∀ p ∈ ns, p.OK) → ∀ {j : Nat} {p : Pt}, ns[j]? = some p → ((co ns).drop (64 * j)).take 64 = g8 p
 | [], _, j, p, h => by simp at h
 | q :: ns, hok, j, p, h => by
  have hq := i4 (hok q (by simp));have e : co (q :: ns) = g8 q ++ co ns := (by simp [co])
  match j, h with
  | 0, h =>
   simp only [List.getElem?_cons_zero, Option.some.injEq] at h;subst h;rw [e, Nat.mul_zero, List.drop_zero, List.take_left' hq]
  | j + 1, h =>
   simp only [List.getElem?_cons_succ] at h;rw [e, show 64 * (j + 1) = 64 + 64 * j by omega, ← List.drop_drop, List.drop_left' hq];exact A5 (ns := ns) (fun p hp => hok p (by simp [hp])) h
theorem Fo (h : NOK ns) (hp : jy ns = true) : kb (co ns) = 0 ∧ ke (co ns) = ns := by
 have hl : (co ns).length = 512 := by rw [jf h.ok, h.len]
 have a0 : ∀ {j p}, ns[j]? = some p → pt ((co ns).drop (64 * j)) = p := fun {j p} hj => by
  rw [← Yv, A5 h.ok hj];exact (yr (h.at hj)).1
 have hs : ∀ k, k ≤ 8 → stE (co ns) k = 0 := by
  intro k
  induction k with
  | zero => intro _; rfl
  | succ k ih =>
   intro hk;obtain ⟨p, hp'⟩ := h.get (show k < 8 by omega);show cj _ _ = 0;rw [ih (by omega), J5 (by rw [List.length_drop, hl]; omega), a0 hp', A5 h.ok hp', (yr (h.at hp')).2, List.all_eq_true.1 hp p (List.mem_of_getElem? hp')];rfl
 have h0 : kb (co ns) = 0 := by unfold kb; rw [if_pos hl]; exact hs 8 (Nat.le_refl _)
 refine ⟨h0, ?_⟩;unfold ke;rw [if_pos h0];apply List.ext_getElem?;intro j;by_cases hj : j < 8
 ·obtain ⟨p, hp'⟩ := h.get hj
  rw [hp'];simp [t8, hj, a0 hp']
 ·rw [List.getElem?_eq_none (by simp [t8]; omega), List.getElem?_eq_none (by rw [h.len]; omega)]
theorem Zx {s : Sh} {q : Pt} (hz : eqP q zeroP = false) (hb : s.bad.any (fun x => x == at0 q) = false) {k : Nat} (hk : at0 q = k + 1) (hg : s.blocks[k]? = some (co ns)) (hn : NOK ns) (hp : jy ns = true) : rnE s q = 0 ∧ rnN s q = ns ∧ rnS s q = rdS s q := by
 have a0 := (List.getElem?_eq_some_iff.1 hg).1;have hE : rdE s q = 0 := by unfold rdE; rw [if_neg (by rw [hb]; decide), if_neg (by omega)]
 have hB : rdB s q = co ns := by
  unfold rdB;rw [if_neg (by rw [hb]; decide), if_neg (by omega), hk, Nat.add_sub_cancel, List.getD_eq_getElem?_getD, hg];rfl
 obtain ⟨e1, e2⟩ := Fo hn hp;refine ⟨?_, ?_, ?_⟩
 ·unfold rnE; rw [if_neg (by rw [hz]; decide), hE, hB, e1, if_neg (by simp), if_neg (by simp)]
 ·unfold rnN; rw [if_neg (by rw [hz]; decide), hE, if_neg (by simp), hB, e2]
 ·unfold rnS; rw [if_neg (by rw [hz]; decide)]
def kp9 : Pt := xw 1 9
def kn1 : List Pt := holes.set 1 kp9
def kB1 : Bs := co kn1
def kq1 : Pt := iu (km 1 9 1) 1 kB1
def kn2 : List Pt := holes.set 1 kq1
def kB2 : Bs := co kn2
def kq2 : Pt := iu (km 2 9 0) 2 kB2
def ks (gone read0 : List Pt) : Sh := ⟨[kB1, kB2], [], [kq1, kq2], gone, -1, read0⟩
theorem a10 : kp9.OK := T7 (by omega) (by omega)
theorem a0y : NOK kn1 := holes_ok.set 1 a10
theorem a11 : kq1.OK := sg (sx (by omega) (by omega) (by omega)) (by omega) _
theorem a0z : NOK kn2 := holes_ok.set 1 a11
theorem a1y : jy kn1 = true := by kernel_rfl
theorem a1z : jy kn2 = true := by kernel_rfl
theorem kz1 : eqP kq1 zeroP = false := by kernel_rfl
theorem kz2 : eqP kq2 zeroP = false := by kernel_rfl
theorem wk1 : vh sh0 zeroP 9 [(9, kp9)] = ⟨kq2, 0, ks [] []⟩ := by kernel_rfl
theorem a21 (gone rd : List Pt) : rnE (ks gone rd) kq2 = 0 ∧ rnN (ks gone rd) kq2 = kn2 ∧ rnS (ks gone rd) kq2 = ks gone (rd ++ [kq2]) := Zx kz2 rfl (k := 1) rfl rfl a0z a1z
theorem a20 (gone rd : List Pt) : rnE (ks gone rd) kq1 = 0 ∧ rnN (ks gone rd) kq1 = kn1 ∧ rnS (ks gone rd) kq1 = ks gone (rd ++ [kq1]) := Zx kz1 rfl (k := 0) rfl rfl a0y a1y
theorem zs : mu kq2 = 0 := by kernel_rfl
theorem kb1 (fr tt : Nat) (gone rd ns : List Pt) (ls : List Lf) (first : Nat) : bg fr tt 1 (ks gone rd) ns ls kq1 first = goB (bg fr tt 0) 1 first fr tt kn1 0 (ks gone (rd ++ [kq1])) (ns ++ [kq1]) ls := by
 obtain ⟨e1, e2, e3⟩ := a20 gone rd;rw [bu, if_neg (by rw [kz1]; decide), if_neg (by rw [e1]; simp), e2, e3]
theorem kgo (fr tt : Nat) (f : Sh → List Pt → List Lf → Pt → Nat → Bw) (h0 : ∀ s ns ls at_, f s ns ls zeroP at_ = ⟨0, s, ns, ls⟩) (wide first : Nat) (q : Pt) (s : Sh) (ns : List Pt) (ls : List Lf) : goB f wide first fr tt (holes.set 1 q) 0 s ns ls = if first + 1 * wide + wide ≤ fr ∨ tt ≤ first + 1 * wide then ⟨0, s, ns, ls⟩ else f s ns ls q (first + 1 * wide) := by
 have hz : ∀ n i s ns ls, goB f wide first fr tt (List.replicate n zeroP) i s ns ls = ⟨0, s, ns, ls⟩ := by
  intro n
  induction n with
  | zero => intro i s ns ls; rfl
  | succ n ih =>
   intro i s ns ls;rw [List.replicate_succ];by_cases hc : first + i * wide + wide ≤ fr ∨ tt ≤ first + i * wide
   ·rw [jc hc, ih]
   ·rw [mp hc (by rw [h0]), h0, ih]
 have e : holes.set 1 q = zeroP :: q :: List.replicate 6 zeroP := rfl;rw [e]
 have a0 : ∀ l, goB f wide first fr tt (zeroP :: l) 0 s ns ls = goB f wide first fr tt l 1 s ns ls := fun l => by
  by_cases hc : first + 0 * wide + wide ≤ fr ∨ tt ≤ first + 0 * wide
  ·rw [jc hc]
  ·rw [mp hc (by rw [h0]), h0]
 rw [a0];by_cases hc : first + 1 * wide + wide ≤ fr ∨ tt ≤ first + 1 * wide
 ·rw [jc hc, if_pos hc, hz]
 ·rw [if_neg hc]
  by_cases he : (f s ns ls q (first + 1 * wide)).e = 0
  ·rw [mp hc he, hz]
   cases hq : f s ns ls q (first + 1 * wide) with
   | mk e s ns ls => rw [hq] at he; simp at he; subst he; rfl
  ·rw [ug hc he]
theorem bz (fr tt n : Nat) (s : Sh) (ns : List Pt) (ls : List Lf) (at_ : Nat) : bg fr tt n s ns ls zeroP at_ = ⟨0, s, ns, ls⟩ := by
 cases n with
 | zero => unfold bg; rw [if_pos (by kernel_rfl)]
 | succ n => rw [bu, if_pos (by kernel_rfl)]
theorem a1x (off : Nat) (gone rd : List Pt) : tj (ks gone rd) kq2 off = if 16 ≤ off ∨ off + 1 ≤ 8 then ⟨0, ks gone (rd ++ [kq2]), [kq2], []⟩ else if 10 ≤ off ∨ off + 1 ≤ 9 then ⟨0, ks gone (rd ++ [kq2] ++ [kq1]), [kq2, kq1], []⟩ else ⟨0, ks gone (rd ++ [kq2] ++ [kq1]), [kq2, kq1], [(9, kp9)]⟩ := by
 obtain ⟨e1, e2, e3⟩ := a21 gone rd;unfold tj;rw [bu, if_neg (by rw [kz2]; decide), if_neg (by rw [e1]; simp), e2, e3];unfold kn2;rw [kgo _ _ _ (bz off (off + 1) 1)];show (if 16 ≤ off ∨ off + 1 ≤ 8 then _ else _) = _;by_cases h1 : 16 ≤ off ∨ off + 1 ≤ 8
 ·rw [if_pos h1, if_pos h1]; rfl
 ·rw [if_neg h1, if_neg h1, kb1]
  unfold kn1;rw [kgo _ _ _ (bz off (off + 1) 0)];show (if 10 ≤ off ∨ off + 1 ≤ 9 then _ else _) = _;by_cases h2 : 10 ≤ off ∨ off + 1 ≤ 9
  ·rw [if_pos h2, if_pos h2]; rfl
  ·rw [if_neg h2, if_neg h2]; rfl
theorem wk2 (gone rd : List Pt) : lg (ks gone rd) kq2 9 = 0 ∧ jm (ks gone rd) kq2 9 = kp9 ∧ jb (ks gone rd) kq2 9 = ks gone (rd ++ [kq2] ++ [kq1]) := by
 have h := a1x 9 gone rd;rw [if_neg (by omega), if_neg (by omega)] at h;refine ⟨?_, ?_, ?_⟩
 ·unfold lg; rw [zs, if_neg (by simp), if_neg (by omega), h]
 ·unfold jm; rw [zs, h, if_neg (by simp)]; rfl
 ·unfold jb; rw [zs, h, if_neg (by simp)]
theorem wk3 (gone rd : List Pt) : lg (ks gone rd) kq2 8 = 0 ∧ jm (ks gone rd) kq2 8 = zeroP ∧ jb (ks gone rd) kq2 8 = ks gone (rd ++ [kq2] ++ [kq1]) := by
 have h := a1x 8 gone rd;rw [if_neg (by omega), if_pos (by omega)] at h;refine ⟨?_, ?_, ?_⟩
 ·unfold lg; rw [zs, if_neg (by simp), if_neg (by omega), h]
 ·unfold jm; rw [zs, h, if_neg (by simp)]; rfl
 ·unfold jb; rw [zs, h, if_neg (by simp)]
theorem kw1 (gone rd : List Pt) : c7 9 1 (ks gone rd) kq1 [(9, zeroP)] = ⟨zeroP, 0, ks (gone ++ [kp9] ++ [kq1]) (rd ++ [kq1])⟩ := by
 obtain ⟨e1, e2, e3⟩ := a20 gone rd;rw [iz, if_neg (by simp), if_neg (by rw [e1]; simp), e2, e3];kernel_rfl
theorem wk4 (gone rd : List Pt) : vh (ks gone rd) kq2 9 [(9, zeroP)] = ⟨zeroP, 0, ks (gone ++ [kp9] ++ [kq1] ++ [kq2]) (rd ++ [kq2] ++ [kq1])⟩ := by
 obtain ⟨e1, e2, e3⟩ := a21 gone rd;unfold vh;rw [zs, if_neg (by simp), if_neg (by rw [show ra [(9, zeroP)] = true from by kernel_rfl]; decide), iz, if_neg (by simp), if_neg (by rw [e1]; simp), e2, e3]
 have hg : goW (c7 9 1) 8 kn2 1 (ks gone (rd ++ [kq2])) kn2 [(9, zeroP)] = ⟨holes, 0, ks (gone ++ [kp9] ++ [kq1]) (rd ++ [kq2] ++ [kq1])⟩ := by
  have hf : c7 9 1 (ks gone (rd ++ [kq2])) (kn2.getD ((([(9, zeroP)] : List Lf).getD 0 dl).1 / 8 % 8) zeroP) (([(9, zeroP)] : List Lf).take (d7 8 [(9, zeroP)])) = ⟨zeroP, 0, ks (gone ++ [kp9] ++ [kq1]) (rd ++ [kq2] ++ [kq1])⟩ := by
   have := kw1 gone (rd ++ [kq2]);exact this
  rw [zk (by simp) (by rw [hf]), hf];rfl
 show u5 9 2 kq2 kn2 _ (goW (c7 9 1) 8 kn2 1 (ks gone (rd ++ [kq2])) kn2 [(9, zeroP)]) = _;rw [hg];kernel_rfl
end Go.Proofs.YtjgjohdeeeoeoaaGreatDoor
namespace Go.Proofs.YtjgjohdeeeoeoaaGreatDoor
open Go.RowKit
attribute [local go_sem] Oper.semAt_some
theorem a23 : Lim 0 sh0 := ⟨Nat.le_refl _, Nat.le_refl _, Nat.le_refl _, by omega, by simp [sh0], by simp [sh0], by simp [sh0]⟩
theorem Ym {X : World} {v : Value} {l : List Pt} (h : OwnM X 0 v l) (hok : ∀ q ∈ l, q.OK) (h0 : 0 < l.length) : ∃ g cap, v = .slice (some ⟨g, 0, none⟩) l.length cap ∧ l.length ≤ cap ∧ ∀ i q, l[i]? = some q → X.rangeAt g (i * 41) (a8 q) := by
 obtain ⟨sp, cap, e, h1, _, _, h3⟩ := h.src hok;obtain ⟨g, e2, _, h4⟩ := h3 h0;exact ⟨g, cap, by rw [e, e2], h1, h4⟩
end Go.Proofs.YtjgjohdeeeoeoaaGreatDoor
namespace Go.Proofs.YtjgjohdeeeoeoaaGreatDoor
open Go.RowKit
variable {l : Bs} {k : Nat}
structure Ino where
 kind : Nat
 links : Nat
 size : Nat
 root : Pt
structure Ino.OK (n : Ino) : Prop where
 kind : n.kind < 256
 links : n.links < 65536
 size : n.size < 4294967296
 root : n.root.OK
def m2 (n : Ino) : List Value := [.int .u8 (n.kind : Int), .int .u16 (n.links : Int), .int .u32 (n.size : Int)]
def af (n : Ino) : List Value := m2 n ++ a8 n.root
theorem am {n : Ino} (h : n.OK) : (af n).length = 44 := by simp [af, m2, aa h.root]
def zeroI : Ino := ⟨0, 0, 0, zeroP⟩
theorem zeroI_ok : zeroI.OK := ⟨by simp [zeroI], by simp [zeroI], by simp [zeroI], ak⟩
def eqI (a b : Ino) : Bool := decide (a.kind = b.kind) && decide (a.links = b.links) && decide (a.size = b.size) && eqP a.root b.root
theorem ir {a b : Ino} : eqI a b = true ↔ a = b := by
 obtain ⟨k, l, s, r⟩ := a;obtain ⟨k', l', s', r'⟩ := b;simp only [eqI, Bool.and_eq_true, decide_eq_true_eq, rj, Ino.mk.injEq, and_assoc]
theorem mz (a : Ino) : eqI a a = true := ir.2 rfl
instance decIno : DecidableEq Ino := fun _ _ => decidable_of_iff _ ir
def me (p : Pt) : Bool := eqP p zeroP || (decide (p.kind = 3) && decide (p.level = 2) && fz p)
def ij (n : Ino) : Bool := eqI n zeroI || (decide (1 ≤ n.kind ∧ n.kind ≤ 3) && decide (n.size ≤ 32768) && decide (n.kind = 3 → 1 ≤ n.size ∧ n.size ≤ 128) && me n.root)
theorem P4 : ij zeroI = true := by unfold ij; rw [mz]; rfl
def mq (n : Ino) : Bs := leb n.kind 1 ++ ([0#8] ++ (leb n.links 2 ++ (leb n.size 4 ++ (g8 n.root ++ List.replicate 56 0#8))))
theorem qm {n : Ino} (h : n.OK) : (mq n).length = 128 := by simp [mq, aw, i4 h.root]
def ino (l : Bs) : Ino := ⟨val (l.take 1), val ((l.drop 2).take 2), val ((l.drop 4).take 4), pt (l.drop 8)⟩
theorem a0w (h : 72 ≤ l.length) : (ino l).OK := ⟨ej _ 1, ej _ 2, ej _ 4, Uf (by rw [List.length_drop]; omega)⟩
def jh (l : Bs) : Bool := ((l.drop 1).take 1).all (· == 0#8) && jo ((l.drop 8).take 64) && ((l.drop 72).take 56).all (· == 0#8)
theorem T2 {n : Ino} (h : n.OK) (r : Bs) : ino (mq n ++ r) = n ∧ jh (mq n ++ r) = true := by
 have e : mq n ++ r = leb n.kind 1 ++ ([0#8] ++ (leb n.links 2 ++ (leb n.size 4 ++ (g8 n.root ++ (List.replicate 56 0#8 ++ r))))) := by simp [mq]
 have v : ∀ n m, n < 2 ^ (8 * m) → val (leb n m) = n := fun n m hn => by rw [M7]; exact Nat.mod_eq_of_lt hn
 have L : ∀ n m, (leb n m).length = m := aw;have LP := i4 h.root;have d1 : (mq n ++ r).drop 1 = [0#8] ++ (leb n.links 2 ++ (leb n.size 4 ++ (g8 n.root ++ (List.replicate 56 0#8 ++ r)))) := by rw [e, List.drop_left' (L _ _)]
 have d2 : (mq n ++ r).drop 2 = leb n.links 2 ++ (leb n.size 4 ++ (g8 n.root ++ (List.replicate 56 0#8 ++ r))) := dt (n := 1) (m := 1) d1 rfl;have d4 : (mq n ++ r).drop 4 = leb n.size 4 ++ (g8 n.root ++ (List.replicate 56 0#8 ++ r)) := dt (n := 2) (m := 2) d2 (L _ _);have d8 : (mq n ++ r).drop 8 = g8 n.root ++ (List.replicate 56 0#8 ++ r) := dt (n := 4) (m := 4) d4 (L _ _);have a0 : (mq n ++ r).drop 72 = List.replicate 56 0#8 ++ r := dt (n := 8) (m := 64) d8 LP;constructor
 ·unfold ino
  rw [d2, d4, ← Ug ((mq n ++ r).drop 8), d8, e];simp only [List.take_left' (L _ _), List.take_left' LP];rw [v _ 1 h.kind, v _ 2 h.links, v _ 4 h.size, (yr h.root).1]
 ·unfold jh
  rw [d1, d8, a0, List.take_left' LP, (yr h.root).2, List.take_left' (by simp), List.take_left' (by simp)];rfl
def ai (ns : List Ino) : List Value := ns.flatMap af
structure BOK (ns : List Ino) : Prop where
 len : ns.length = 4
 ok : ∀ n ∈ ns, n.OK
theorem mj : ∀ {ns : List Ino}, (∀ n ∈ ns, n.OK) → (ai ns).length = 44 * ns.length
 | [], _ => rfl
 | p :: ns, h => by
  have ih := mj (ns := ns) (fun q hq => h q (by simp [hq]));have h1 := am (h p (by simp));simp only [ai, List.flatMap_cons, List.length_append, List.length_cons] at *;omega
theorem BOK.cells {ns : List Ino} (h : BOK ns) : (ai ns).length = 176 := by rw [mj h.ok, h.len]
theorem BOK.size {ns : List Ino} (h : BOK ns) : (ai ns).toArray.size = 176 := by rw [List.size_toArray, h.cells]
theorem BOK.at {ns : List Ino} (h : BOK ns) {n : Ino} (hk : ns[k]? = some n) : n.OK := h.ok n (List.mem_of_getElem? hk)
theorem BOK.get {ns : List Ino} (h : BOK ns) (hk : k < 4) : ∃ n, ns[k]? = some n := ⟨_, List.getElem?_eq_getElem (by rw [h.len]; exact hk)⟩
theorem t6 (a b : List Ino) : ai (a ++ b) = ai a ++ ai b := by simp [ai]
theorem xq (n : Ino) (b : List Ino) : ai (n :: b) = af n ++ ai b := by simp [ai]
theorem N2 {α : Type} {l : List α} {x : α} (h : l[k]? = some x) : l = l.take k ++ (x :: l.drop (k + 1)) := by
 obtain ⟨hk, e⟩ := List.getElem?_eq_some_iff.1 h;rw [← e, ← List.drop_eq_getElem_cons hk, List.take_append_drop]
theorem o9 {ns : List Ino} (h : ∀ n ∈ ns, n.OK) {n : Ino} (hk : ns[k]? = some n) : ai ns = ai (ns.take k) ++ (af n ++ ai (ns.drop (k + 1))) ∧ (ai (ns.take k)).length = 44 * k := by
 obtain ⟨hl, _⟩ := List.getElem?_eq_some_iff.1 hk;constructor
 ·conv => lhs; rw [N2 hk]
  rw [t6, xq]
 ·rw [mj (fun q hq => h q (List.mem_of_mem_take hq)), List.length_take, Nat.min_eq_left (Nat.le_of_lt hl)]
theorem Y4 {α : Type} {l : List α} (h : k < l.length) (x : α) : l.set k x = l.take k ++ (x :: l.drop (k + 1)) := by
 rw [List.set_eq_take_append_cons_drop, if_pos h]
theorem H8 {ns : List Ino} (h : ∀ n ∈ ns, n.OK) (hk : k < ns.length) {q : Ino} (hq : q.OK) : splice (ai ns) (44 * k) (af q) = ai (ns.set k q) := by
 obtain ⟨p, hp⟩ : ∃ p, ns[k]? = some p := ⟨_, List.getElem?_eq_getElem hk⟩;obtain ⟨e, hl⟩ := o9 h hp;have a0 := h p (List.mem_of_getElem? hp);unfold splice;rw [e, List.take_left' hl, ← List.drop_drop, List.drop_left' hl, List.drop_left' (by rw [am hq, am a0]), Y4 hk, t6, xq]
theorem BOK.set {ns : List Ino} (h : BOK ns) (k : Nat) {q : Ino} (hq : q.OK) : BOK (ns.set k q) :=
 ⟨by rw [List.length_set, h.len], fun p hp => by
  rcases List.mem_or_eq_of_mem_set hp with h1 | h1
  ·exact h.ok p h1
  ·rw [h1]; exact hq⟩
def zeros4 : List Ino := List.replicate 4 zeroI
theorem zeros4_ok : BOK zeros4 := ⟨rfl, fun p hp => by rw [List.eq_of_mem_replicate hp]; exact zeroI_ok⟩
theorem fj (n : Ino) : (af n).toArray.all (·.oneCell') = true := by
 rw [Array.all_eq_true_iff_forall_mem];intro v hv;simp only [List.mem_toArray, af, m2, List.mem_append, List.mem_cons, List.not_mem_nil, or_false] at hv;rcases hv with (rfl | rfl | rfl) | hp
 ·rfl
 ·rfl
 ·rfl
 ·exact Array.all_eq_true_iff_forall_mem.1 (bb n.root) v (by simpa using hp)
theorem cn (ns : List Ino) : (ai ns).toArray.all (·.oneCell') = true := by
 rw [Array.all_eq_true_iff_forall_mem];intro v hv;simp only [List.mem_toArray, ai, List.mem_flatMap] at hv;obtain ⟨p, _, hp⟩ := hv;exact Array.all_eq_true_iff_forall_mem.1 (fj p) v (by simpa using hp)
def i9 (ns : List Ino) : Bs := ns.flatMap mq
theorem pz : ∀ {ns : List Ino}, (∀ n ∈ ns, n.OK) → (i9 ns).length = 128 * ns.length
 | [], _ => rfl
 | p :: ns, h => by
  have ih := pz (ns := ns) (fun q hq => h q (by simp [hq]));have h1 := qm (h p (by simp));simp only [i9, List.flatMap_cons, List.length_append, List.length_cons] at *;omega
theorem zo {α : Type} {l : List α} {x : α} (h : l[k]? = some x) : l.take (k + 1) = l.take k ++ [x] := by
 obtain ⟨hk, e⟩ := List.getElem?_eq_some_iff.1 h;rw [List.take_succ_eq_append_getElem hk, e]
theorem Mf {ns : List Ino} {n : Ino} (h : ns[k]? = some n) : i9 (ns.take (k + 1)) = i9 (ns.take k) ++ mq n := by
 rw [zo h]; simp [i9]
theorem zu {ns : List Ino} (h : BOK ns) (hk : k ≤ 4) : (i9 (ns.take k)).length = 128 * k := by
 rw [pz (fun p hp => h.ok p (List.mem_of_mem_take hp)), List.length_take, h.len, Nat.min_eq_left hk]
def o8 (n : Ino) : Ino := if ij n then n else zeroI
def gd (ns : List Ino) : List Ino := ns.map o8
theorem Ba {n : Ino} (h : n.OK) : (o8 n).OK := by
 unfold o8;split
 ·exact h
 ·exact zeroI_ok
theorem z6 {ns : List Ino} (h : BOK ns) : BOK (gd ns) := ⟨by simp [gd, h.len], fun p hp => by
 simp only [gd, List.mem_map] at hp;obtain ⟨q, hq, rfl⟩ := hp
 exact Ba (h.ok q hq)⟩
def du (ns : List Ino) : Bool := ns.all ij
theorem tx : ∀ ns : List Ino, ns = gd ns ↔ du ns = true
 | [] => by simp [gd, du]
 | n :: ns => by
  have ih := tx ns;simp only [gd, du, List.map_cons, List.all_cons, Bool.and_eq_true, List.cons.injEq] at ih ⊢;rw [ih]
  have e : n = o8 n ↔ ij n = true := by
   unfold o8;cases h : ij n
   ·simp only [Bool.false_eq_true, if_false, iff_false]
    intro e;rw [e, P4] at h;cases h
   ·simp
  rw [e]
def pm (l : Bs) : Bool := jh l && ij (ino l)
def jw (l : Bs) : Bool := decide (l.length = 512) && (List.range 4).all fun j => pm (l.drop (128 * j))
def Ay (l : Bs) : List Ino := (List.range 4).map fun j => ino (l.drop (128 * j))
def pr (l : Bs) : List Ino := if jw l then Ay l else zeros4
def yb (l : Bs) : Nat := if jw l then 0 else 5
theorem Hx (h : jw l = true) : l.length = 512 := by
 unfold jw at h;simp only [Bool.and_eq_true, decide_eq_true_eq] at h;exact h.1
theorem Xx (h : l.length = 512) : BOK (Ay l) := ⟨by simp [Ay], fun p hp => by
 simp only [Ay, List.mem_map, List.mem_range] at hp;obtain ⟨j, hj, rfl⟩ := hp
 exact a0w (by rw [List.length_drop, h]; omega)⟩
theorem Lg (l : Bs) : BOK (pr l) := by
 unfold pr;split
 ·rename_i h; exact Xx (Hx h)
 ·exact zeros4_ok
theorem Bf : ∀ {ns : List Ino}, (∀ n ∈ ns, n.OK) → ∀ {j : Nat} {n : Ino}, ns[j]? = some n → ∃ r, (i9 ns).drop (128 * j) = mq n ++ r
 | [], _, j, p, h => by simp at h
 | q :: ns, hok, j, p, h => by
  have hq := qm (hok q (by simp));have e : i9 (q :: ns) = mq q ++ i9 ns := (by simp [i9])
  match j, h with
  | 0, h =>
   simp only [List.getElem?_cons_zero, Option.some.injEq] at h;subst h;exact ⟨i9 ns, by rw [e, Nat.mul_zero, List.drop_zero]⟩
  | j + 1, h =>
   simp only [List.getElem?_cons_succ] at h;rw [e, show 128 * (j + 1) = 128 + 128 * j by omega, ← List.drop_drop, List.drop_left' hq];exact Bf (ns := ns) (fun p hp => hok p (by simp [hp])) h
theorem wg {ns : List Ino} (h : BOK ns) (hp : du ns = true) : jw (i9 ns) = true ∧ pr (i9 ns) = ns := by
 have hl : (i9 ns).length = 512 := by rw [pz h.ok, h.len]
 have a0 : ∀ {j n}, ns[j]? = some n → ino ((i9 ns).drop (128 * j)) = n ∧ jh ((i9 ns).drop (128 * j)) = true := fun {j n} hj => by
  obtain ⟨r, hr⟩ := Bf h.ok hj;rw [hr];exact T2 (h.at hj) r
 have h0 : jw (i9 ns) = true := by
  unfold jw;simp only [Bool.and_eq_true, decide_eq_true_eq, List.all_eq_true, List.mem_range];refine ⟨hl, fun j hj => ?_⟩;obtain ⟨n, hn⟩ := h.get hj;obtain ⟨h1, h2⟩ := a0 hn;unfold pm;rw [h1, h2, List.all_eq_true.1 hp n (List.mem_of_getElem? hn)];rfl
 refine ⟨h0, ?_⟩;unfold pr;rw [if_pos h0];apply List.ext_getElem?;intro j;by_cases hj : j < 4
 ·obtain ⟨n, hn⟩ := h.get hj
  rw [hn];simp [Ay, hj, (a0 hn).1]
 ·rw [List.getElem?_eq_none (by simp [Ay]; omega), List.getElem?_eq_none (by rw [h.len]; omega)]
end Go.Proofs.YtjgjohdeeeoeoaaGreatDoor
