/- Leaves that lie in memory; settable, head. -/
import Derived.Test.YtjgjohdeeeoeoaaGreatDoorM17
import Derived.Test.YtjgjohdeeeoeoaaGreatDoorM03
set_option linter.all false
namespace Go.Proofs.YtjgjohdeeeoeoaaGreatDoor
open Go.RowKit
attribute [local go_sem] Oper.semAt_some
variable {l : List Lf} {a b g k wide : Nat} {sp : Option Addr} {t : TypeId} {W w' : World}
def SrcF (w : World) (sp : Option Addr) (l : List Lf) : Prop :=
 0 < l.length → ∃ g o, sp = some ⟨g, o, none⟩ ∧ g < w.heap.size ∧ ∀ i x, l[i]? = some x → w.rangeAt g (o + i * 42) (av x)
theorem SrcF.chg {F : Nat → Prop} {w : World} (h : SrcF w sp l) (hc : Chg F w w') (hn : ∀ a, sp = some a → ¬ F a.block) : SrcF w' sp l := fun h0 => by
 obtain ⟨g, o, e, hg, hr⟩ := h h0;refine ⟨g, o, e, Nat.lt_of_lt_of_le hg hc.size, fun i x hx j v hv => ?_⟩;rw [World.cell?_of_block (w := w) (a := ⟨g, o + i * 42 + j, none⟩) (hc.block g hg (hn _ e))];exact hr i x hx j v hv
theorem SrcF.grown {w : World} (h : SrcF w sp l) (hb : Below w.heap.size w w') : SrcF w' sp l := h.chg (F := fun _ => False) (Chg.of_below hb) (fun _ _ h => h)
theorem SrcF.drew {w : World} (h : SrcF w sp l) : SrcF w.drew sp l := h.grown (Below.refl _ _).drew
def di (l : List Lf) (i : Nat) : Bool := match l[i]? with
 | some x => decide (x.1 < 64) && (decide (i = 0) || decide ((l.getD (i - 1) (0, zeroP)).1 < x.1)) && (eqP x.2 zeroP || fz x.2)
 | none => true
def ra (l : List Lf) : Bool := (List.range l.length).all (di l)
theorem vg (hk : k < l.length) (h : di l k = false) : ra l = false := by
 unfold ra;rw [List.all_eq_false];exact ⟨k, List.mem_range.2 hk, by simp [h]⟩
theorem Bo (h : ∀ i, i < l.length → di l i = true) : ra l = true := by
 unfold ra;rw [List.all_eq_true];exact fun i hi => h i (List.mem_range.1 hi)
theorem K6 : Tryz.prog.underlying 95 = some (.slice (Tryz.prog.elem 95)) := by kernel_rfl
theorem Rh : Tryz.prog.elem 95 = 110 := by kernel_rfl
theorem M0 (W : World) : (sizeOf 110).run Tryz.prog W = .ok 42 W := by
 obtain ⟨i, z, h1, h2, h3, h4, h5⟩ := ot;simp [sizeOf, typeInfo, h1, h4]
set_option maxRecDepth 100000 in
theorem G7 (sp : Option Addr) (L cap n : Nat) (h : n ≤ cap) (W : World) : (Instr.sliceAt 95 (.slice sp L cap) none (some (.int .i64 (n : Int))) none).run Tryz.prog W = .ok (.slice sp n cap) W := by
 rw [run_sliceAt_slice W 95 _ _ _ _ K6, run_slice_h W 95 sp L cap K6 .i64 n (by omega) (by omega), Rh, M0];have e : Option.map (fun x : Addr => x.add 0) sp = sp := by cases sp with | none => rfl | some a => cases a; simp [Addr.add]
 simp [Result.andThen, sliced, e]
section
variable {ρ : Operand → Value} {o : Oper} {x y : Operand} {w : World}
theorem ud (hb : 0 < b) (ha : a < 4294967296) (ho : o.op = .binOp .quo 24 x y t) (hx : ρ x = .int .u32 (a : Int)) (hy : ρ y = .int .u32 (b : Int)) : (execOp ρ o).run Tryz.prog w = .ok (.value (.int .u32 ((a / b : Nat) : Int))) w := by
 have e : ((a : Int)).tdiv (b : Int) = ((a / b : Nat) : Int) := by
  rw [Int.tdiv_eq_ediv_of_nonneg (by omega)]; rfl
 have a0 : ((b : Int) == 0) = false := by simp; omega
 have a1 : ¬ (b : Int) = 0 := by omega
 have a2 : ¬ b = 0 := by omega
 have hw : IntKind.u32.wrap ((a : Int) / (b : Int)) = (a : Int) / (b : Int) := by
  have h1 := Nat.div_le_self a b;have h2 : (a : Int) / (b : Int) = ((a / b : Nat) : Int) := rfl;rw [h2];generalize a / b = q at h1;rw [IntKind.wrap_u32];omega
 unfold execOp;simp only [ho];go_simp
theorem zf {o' n cap : Nat} (ho : o.op = .indexAddr 95 x y) (hx : ρ x = .slice (some ⟨g, o', none⟩) n cap) (hy : ρ y = .int .i64 (k : Int)) (hk : k < n ∧ n ≤ cap) :
  (execOp ρ o).run Tryz.prog w = .ok (.value (.pointer (some ⟨g, o' + k * 42, none⟩))) w := by
 have h1 : ¬ n ≤ k := by omega
 unfold execOp;simp only [ho];go_simp
theorem X0 (ho : o.op = .binOp .eql 24 x y t) (hx : ρ x = .int .u32 (a : Int)) (hy : ρ y = .int .u32 (b : Int)) : (execOp ρ o).run Tryz.prog w = .ok (.value (.bool (decide (a = b)))) w := by
 have e : ((a : Int) == (b : Int)) = decide (a = b) := by
  rw [Bool.eq_iff_iff]; simp; omega
 unfold execOp;simp only [ho];go_simp
theorem Xk (ho : o.op = .binOp .leq 24 x y t) (hx : ρ x = .int .u32 (a : Int)) (hy : ρ y = .int .u32 (b : Int)) : (execOp ρ o).run Tryz.prog w = .ok (.value (.bool (decide (a ≤ b)))) w := by
 have e : decide ((a : Int) ≤ (b : Int)) = decide (a ≤ b) := by
  rw [Bool.eq_iff_iff]; simp
 unfold execOp;simp only [ho];go_simp
end
theorem qy {w : World} {o : Nat} {x : Lf} (h : w.rangeAt g o (av x)) : w.cell? ⟨g, o, none⟩ = some (.int .u32 (x.1 : Int)) := by
 have := h 0 (.int .u32 (x.1 : Int)) rfl;rw [Nat.add_zero] at this;exact this
theorem oz {w : World} {o : Nat} {x : Lf} (h : w.rangeAt g o (av x)) : w.rangeAt g (o + 1) (a8 x.2) := fun j v hj => by
 have := h (j + 1) v (by simpa [av] using hj);rw [show o + 1 + j = o + (j + 1) by omega];exact this
theorem SrcF.at {w : World} {o : Nat} (h : SrcF w (some ⟨g, o, none⟩) l) {i : Nat} {x : Lf} (hx : l[i]? = some x) : w.rangeAt g (o + i * 42) (av x) := by
 obtain ⟨g', o', e, _, hr⟩ := h (by have := (List.getElem?_eq_some_iff.1 hx).1; omega);injection e with e
 injection e with e1 e2 _
 rw [e1, e2];exact hr i x hx
theorem SrcF.form {w : World} (h : SrcF w sp l) (h0 : 0 < l.length) : ∃ g o, sp = some ⟨g, o, none⟩ ∧ g < w.heap.size := by
 obtain ⟨g, o, e, hg, _⟩ := h h0;exact ⟨g, o, e, hg⟩
structure StW (sp : Option Addr) (l : List Lf) (w W : World) : Prop where
 src : SrcF W sp l
 tab : RTab W
 bel : Below w.heap.size w W
theorem StW.drewS {w : World} (h : StW sp l w W) : StW sp l w W.drew := ⟨h.src.drew, h.tab.grown (Below.refl _ _).drew, h.bel.drew⟩
theorem U0 (x : Lf) : (av x).toArray.all (·.oneCell') = true := by
 rw [Array.all_eq_true_iff_forall_mem];intro v hv;exact A1 x v (by simpa using hv)
theorem StW.grown {w W' : World} (h : StW sp l w W) (hb : Below W.heap.size W W') : StW sp l w W' := ⟨h.src.grown hb, h.tab.grown hb, h.bel.trans (hb.mono h.bel.size)⟩
set_option maxRecDepth 100000 in
set_option maxHeartbeats 8000000 in
theorem Dl (l : List Lf) (hok : ∀ x ∈ l, Lf.OK x) (sp : Option Addr) (cap : Nat) (hc : l.length ≤ cap) (hl : l.length ≤ 1000) (w : World) (hS : SrcF w sp l) (hT : RTab w) : Calls Tryz.prog 72 #[.slice sp l.length cap] w fun e w' => e = .returned (.bool (ra l)) ∧ Below w.heap.size w w' := by
 have b2 := zH hok;have HX : Hid (StW sp l w w) := zH ⟨hS, hT, Below.refl _ _⟩;obtain ⟨N, hN⟩ : ∃ N, l.length = N := ⟨_, rfl⟩;rw [hN] at hc hl ⊢;have HN := zH hN; have HC := zH hc; have HL := zH hl;obtain ⟨rs, ao⟩ : ∃ b, ra l = b := ⟨_, rfl⟩;have ah := zH ao;rw [ao];generalize hPost : (fun e w' => e = Ending.returned (.bool rs) ∧ Below w.heap.size w w') = Post;have HP : Hid (∀ w', Below w.heap.size w w' → Post (.returned (.bool rs)) w') := zH fun w' h => by rw [← hPost]; exact ⟨rfl, h⟩
 clear hok hS hT hN hc hl ao hPost;go_enter Tryz.func72, Tryz.ntmps72
 go_wp2_with fail
 go_loopw [7] (fun v wr => ∃ k : Nat, k ≤ N ∧ v = .int .i64 (k : Int) ∧ (∀ i, i < k → di l i = true) ∧ StW sp l w wr) (fun v _ => N - (intOf v).toNat)
 case atStart => exact ⟨0, by omega, rfl, fun i hi => by omega, HX.out⟩
 case round =>
  clear HX;obtain ⟨k, hk, rfl, ab, aw⟩ := hrel;have HG := zH ab; have ai := zH aw;clear ab aw;have bd := IntWalk.i64_in ((k : Int) + 1) (by have := HL.out; omega);by_cases hlt : k < N
  ·obtain ⟨x, hx⟩ : ∃ x, l[k]? = some x := ⟨_, List.getElem?_eq_getElem (by have := HN.out; omega)⟩
   obtain ⟨g, o', rfl, hg⟩ := ai.out.src.form (by have := HN.out; omega);have ak : Hid (Lf.OK x) := zH (b2.out x (List.mem_of_getElem? hx));have b3 : Hid ((Tryz.prog.info? 110).map (·.size) = some (av x).toArray.size) := zH (by rw [List.size_toArray, bq ak.out.2]; exact Aj);have b1 : Hid ((av x).toArray.size = 42) := zH (by rw [List.size_toArray, bq ak.out.2]);have ap := zH (ai.out.src.at hx);have HX := zH hx;have b9 : Hid (k < N ∧ N ≤ cap) := zH ⟨hlt, HC.out⟩;have ba : ¬ N ≤ k := (by omega);clear hx hg
   go_upto_region 4 with (first | (refine a9 rfl (c6 (ty := 110) (cs := av x) rfl rfl ap.out Tryz.underlying110 rfl (by rw [Aj, bq ak.out.2])) ?_) | (refine wpList_store_row rfl 110 (.tmp 4) (.tmp 11) rfl wr.heap.size (av x).toArray rfl rfl 110 _ (heap_alloc_new wr _) b3.out (by rw [b1.out]; rfl) (U0 x) ?_) | fail)
   refine (fun (k : ∀ W, Blk W wr.heap.size (av x) 110 → Below wr.heap.size wr W → Code.wp _ _ _ _ W) => k _ (ar wr _ (av x) 110).1 (ar wr _ (av x) 110).2) ?_;intro W5 hx5 hb5;obtain ⟨B, hB⟩ : ∃ B, wr.heap.size = B := ⟨_, rfl⟩;have a3 := zH (ai.out.grown hb5);rw [hB] at hx5 ⊢;have af := zH hx5;have c0 := hx5.cell (j := 0) rfl;obtain ⟨xo, ax⟩ : ∃ n, x.1 = n := ⟨_, rfl⟩;rw [ax] at c0;have ag := zH ax;clear hx5 hb5 hB ai ap;by_cases h64 : 64 ≤ xo
   ·have al : (64 : Int) ≤ (xo : Int) := by omega
    have a6 : di l k = false := (by unfold di; rw [HX.out]; simp; omega);obtain rfl : rs = false := by rw [← ah.out]; exact vg (by have := HN.out; omega) a6
    have HE := zH (HP.out W5 a3.out.bel);clear a6 h64
    go_wp2_with fail
    first | exact HE.out | (go_ret; exact HE.out)
   ·have al : ¬ (64 : Int) ≤ (xo : Int) := by omega
    have b5 : decide ((64 : Int) ≤ (xo : Int)) = false := decide_eq_false al;by_cases hk0 : k = 0
    ·subst hk0
     have b6 : ¬ (0 : Int) < ((0 : Nat) : Int) := by omega
     go_upto_region 5 with fail
     refine gS (.take 0 (.take 1 (.take 2 (.take 3 (.take 4 (.take 5 (.take 6 (.take 7 (.take 8 (.take 9 (.take 10 (.take 11 (.take 12 (.take 13 (.nil))))))))))))))) (fun X => StW (some ⟨g, o', none⟩) l w X ∧ Blk X B (av x) 110) (⟨a3.out.drewS, af.out.drew⟩) ?_;refine gT (.int .i64 ((0 : Nat) : Int)) ?_;refine gT (.bool false) ?_;refine gT (.bool false) ?_;refine gP ?_;refine gP ?_;refine gP ?_;refine gP ?_;refine gP ?_;refine gP ?_;refine gP ?_;refine gP ?_;refine gP ?_;refine gT (.bool false) ?_;refine gT (.bool false) ?_;refine au ?_;have a4 := zH a3.out.drewS;have a7 := zH af.out.drew;clear a3 af;have a1 := zH ak.out.2
     go_wp2_with (first | (refine a9 rfl (c6 (ty := 28) (cs := a8 x.2) rfl rfl (oz (d9 a7.out)) Tryz.underlying28 rfl (by rw [dw, aa a1.out])) ?_) | fail)
     refine (fk x.2 a1.out _).mono ?_;rintro e W7 ⟨rfl, ae⟩;have a2 := zH (a4.out.grown ae);have aj := zH (a7.out.below ae a7.out.lt);clear ae a4 a7;cases hz : eqP x.2 zeroP
     ·go_wp2_with (first | (refine aq (by rfl) (c6 (ty := 28) (cs := a8 x.2) rfl rfl (oz (d9 aj.out)) Tryz.underlying28 rfl (by rw [dw, aa a1.out])) ?_) | fail)
      refine (sf x.2 a1.out _ a2.out.tab).mono ?_;rintro e W8 ⟨rfl, am⟩;have a5 := zH (a2.out.grown am);clear am a2 aj;cases hm : fz x.2
      ·have a6 : di l 0 = false := by unfold di; rw [HX.out]; simp [hz, hm]
       obtain rfl : rs = false := by rw [← ah.out]; exact vg (by have := HN.out; omega) a6
       have HE := zH (HP.out _ a5.out.bel);clear a6
       go_wp2_with fail
       first | exact HE.out | (go_ret; exact HE.out)
      ·have a0 : di l 0 = true := by
        unfold di;rw [HX.out];have h1 := ag.out;simp [hz, hm];omega
       have ad : Hid (∀ i, i < 0 + 1 → di l i = true) := zH (fun i hi => by
        by_cases e : i = 0
        ·rw [e]; exact a0
        ·exact HG.out i (by omega))
       clear a0
       go_wp2_with fail
       go_roundw
       case rel => exact ⟨0 + 1, by omega, by go_num, ad.out, a5.out⟩
       case measure => simp [intOf]; omega
     ·have a0 : di l 0 = true := by
       unfold di;rw [HX.out];have h1 := ag.out;simp [hz];omega
      have ad : Hid (∀ i, i < 0 + 1 → di l i = true) := zH (fun i hi => by
       by_cases e : i = 0
       ·rw [e]; exact a0
       ·exact HG.out i (by omega))
      clear a0
      go_wp2_with fail
      go_roundw
      case rel => exact ⟨0 + 1, by omega, by go_num, ad.out, a2.out⟩
      case measure => simp [intOf]; omega
    ·obtain ⟨k1, rfl⟩ : ∃ k1, k = k1 + 1 := ⟨k - 1, by omega⟩
     obtain ⟨y, hy⟩ : ∃ y, l[k1]? = some y := ⟨_, List.getElem?_eq_getElem (by have := HN.out; omega)⟩;have HY := zH hy;have b4 : Hid (∀ X, StW (some ⟨g, o', none⟩) l w X → X.rangeAt g (o' + k1 * 42) (av y)) := zH (fun X hX => hX.src.at hy);obtain ⟨yo, ay⟩ : ∃ n, y.1 = n := ⟨_, rfl⟩;have an := zH ay;have bb : (0 : Int) < ((k1 + 1 : Nat) : Int) := (by omega);have bc := IntWalk.i64_in ((k1 : Int)) (by have := HL.out; omega);have bf := IntWalk.i64_in ((k1 : Int) + 1 + 1) (by have := HL.out; omega);have b0 : Hid (k1 < N ∧ N ≤ cap) := zH ⟨by omega, HC.out⟩;clear hy ay
     go_upto_region 5 with fail
     refine gS (.take 0 (.take 1 (.take 2 (.take 3 (.take 4 (.take 5 (.take 6 (.take 7 (.take 8 (.take 9 (.take 10 (.take 11 (.take 12 (.take 13 (.nil))))))))))))))) (fun X => StW (some ⟨g, o', none⟩) l w X ∧ Blk X B (av x) 110) (⟨a3.out.drewS, af.out.drew⟩) ?_;refine gT (.int .i64 ((k1 + 1 : Nat) : Int)) ?_;refine gT (.bool true) ?_;refine gT (.bool true) ?_;refine gT (.pointer (some ⟨B, 0, none⟩)) ?_;refine gU (.int .u32 (xo : Int)) rfl (fun X hX => (az Tryz.underlying24 rfl rfl (hX.2.cell (j := 0) rfl)).trans (by rw [ag.out])) ?_;refine gT (.slice (some ⟨g, o', none⟩) N cap) ?_;refine gT (.int .i64 ((k1 + 1 : Nat) : Int)) ?_;refine gT (.int .i64 (k1 : Int)) ?_;refine gU (.pointer (some ⟨g, o' + k1 * 42, none⟩)) rfl (fun X hX => zf rfl rfl rfl b0.out) ?_;refine gT (.pointer (some ⟨g, o' + k1 * 42, none⟩)) ?_;refine gU (.int .u32 (yo : Int)) rfl (fun X hX => (az Tryz.underlying24 rfl rfl (qy (b4.out X hX.1))).trans (by rw [an.out])) ?_;refine gU (.bool (decide (xo ≤ yo))) rfl (fun X hX => Xk rfl rfl rfl) ?_;refine gT (.bool (decide (xo ≤ yo))) ?_;refine gT (.bool (decide (xo ≤ yo))) ?_;refine au ?_;have a4 := zH a3.out.drewS;have a7 := zH af.out.drew;clear a3 af;cases hle : decide (xo ≤ yo)
     ·have b8 : ¬ xo ≤ yo := by simpa using hle
      have a1 := zH ak.out.2
      go_wp2_with (first | (refine a9 rfl (c6 (ty := 28) (cs := a8 x.2) rfl rfl (oz (d9 a7.out)) Tryz.underlying28 rfl (by rw [dw, aa a1.out])) ?_) | fail)
      refine (fk x.2 a1.out _).mono ?_;rintro e W7 ⟨rfl, ae⟩;have a2 := zH (a4.out.grown ae);have aj := zH (a7.out.below ae a7.out.lt);clear ae a4 a7;cases hz : eqP x.2 zeroP
      ·go_wp2_with (first | (refine aq (by rfl) (c6 (ty := 28) (cs := a8 x.2) rfl rfl (oz (d9 aj.out)) Tryz.underlying28 rfl (by rw [dw, aa a1.out])) ?_) | fail)
       refine (sf x.2 a1.out _ a2.out.tab).mono ?_;rintro e W8 ⟨rfl, am⟩;have a5 := zH (a2.out.grown am);clear am a2 aj;cases hm : fz x.2
       ·have a6 : di l (k1 + 1) = false := by unfold di; rw [HX.out]; simp [hz, hm]
        obtain rfl : rs = false := by rw [← ah.out]; exact vg (by have := HN.out; omega) a6
        have HE := zH (HP.out _ a5.out.bel);clear a6
        go_wp2_with fail
        first | exact HE.out | (go_ret; exact HE.out)
       ·have a0 : di l (k1 + 1) = true := by
         unfold di;rw [HX.out];have e : l.getD (k1 + 1 - 1) (0, zeroP) = y := (by rw [Nat.add_sub_cancel, List.getD_eq_getElem?_getD, HY.out]; rfl);simp only [e];have h1 := ag.out; have h2 := an.out;simp [hz, hm];omega
        have ad : Hid (∀ i, i < (k1 + 1) + 1 → di l i = true) := zH (fun i hi => by
         by_cases e : i = (k1 + 1)
         ·rw [e]; exact a0
         ·exact HG.out i (by omega))
        clear a0
        go_wp2_with fail
        go_roundw
        case rel => exact ⟨(k1 + 1) + 1, by omega, by go_num, ad.out, a5.out⟩
        case measure => simp [intOf]; omega
      ·have a0 : di l (k1 + 1) = true := by
        unfold di;rw [HX.out];have e : l.getD (k1 + 1 - 1) (0, zeroP) = y := (by rw [Nat.add_sub_cancel, List.getD_eq_getElem?_getD, HY.out]; rfl);simp only [e];have h1 := ag.out; have h2 := an.out;simp [hz];omega
       have ad : Hid (∀ i, i < (k1 + 1) + 1 → di l i = true) := zH (fun i hi => by
        by_cases e : i = (k1 + 1)
        ·rw [e]; exact a0
        ·exact HG.out i (by omega))
       clear a0
       go_wp2_with fail
       go_roundw
       case rel => exact ⟨(k1 + 1) + 1, by omega, by go_num, ad.out, a2.out⟩
       case measure => simp [intOf]; omega
     ·have b7 : xo ≤ yo := by simpa using hle
      have a6 : di l (k1 + 1) = false := by
       unfold di;rw [HX.out];have e : l.getD (k1 + 1 - 1) (0, zeroP) = y := (by rw [Nat.add_sub_cancel, List.getD_eq_getElem?_getD, HY.out]; rfl);simp only [e];have h1 := ag.out; have h2 := an.out;simp;omega
      obtain rfl : rs = false := by rw [← ah.out]; exact vg (by have := HN.out; omega) a6
      have HE := zH (HP.out _ a4.out.bel);clear a6
      go_wp2_with fail
      first | exact HE.out | (go_ret; exact HE.out)
  ·obtain rfl : k = N := by omega
   obtain rfl : rs = true := by rw [← ah.out]; exact Bo (fun i hi => HG.out i (by have := HN.out; omega))
   have HE := zH (HP.out wr ai.out.bel);clear hk hlt
   go_wp2_with fail
   first | exact HE.out | (go_ret; exact HE.out)
def d7 (wide : Nat) : List Lf → Nat
 | [] => 0
 | x :: xs => 1 + (xs.takeWhile (fun y => decide (y.1 / wide = x.1 / wide))).length
theorem t9 {α : Type} (f : α → Bool) : ∀ (l : List α) (k : Nat), (∀ i x, i < k → l[i]? = some x → f x = true) → k ≤ l.length → (∀ x, l[k]? = some x → f x = false) → (l.takeWhile f).length = k
 | [], k, _, h, _ => by simp at h; subst h; rfl
 | a :: l, 0, _, _, h => by
  have := h a rfl;simp [this]
 | a :: l, k + 1, h1, h2, h3 => by
  have ha := h1 0 a (by omega) rfl;rw [List.takeWhile_cons_of_pos ha, List.length_cons, t9 f l k (fun i x hi hx => h1 (i + 1) x (by omega) (by simpa using hx)) (by simpa using h2) (fun x hx => h3 x (by simpa using hx))]
theorem Eu {x : Lf} (h0 : l[0]? = some x) (hk1 : 1 ≤ k) (hk : k ≤ l.length) (h1 : ∀ i y, 1 ≤ i → i < k → l[i]? = some y → y.1 / wide = x.1 / wide) (h2 : ∀ y, l[k]? = some y → y.1 / wide ≠ x.1 / wide) : d7 wide l = k := by
 cases l with
 | nil => simp at h0
 | cons a l =>
  simp at h0;subst h0;obtain ⟨j, rfl⟩ : ∃ j, k = j + 1 := ⟨k - 1, by omega⟩;have := t9 (fun y : Lf => decide (y.1 / wide = a.1 / wide)) l j (fun i y hi hy => by simpa using h1 (i + 1) y (by omega) (by omega) (by simpa using hy)) (by simpa using hk) (fun y hy => by simpa using h2 y (by simpa using hy));simp only [d7, this];omega
theorem Ev (wide : Nat) (l : List Lf) : d7 wide l ≤ l.length := by
 cases l with
 | nil => exact Nat.le_refl _
 | cons a l =>
  have := (List.takeWhile_sublist (fun y : Lf => decide (y.1 / wide = a.1 / wide)) (l := l)).length_le;simp only [d7, List.length_cons];omega
theorem Mx (h : 0 < l.length) : 1 ≤ d7 wide l := by
 cases l with
 | nil => simp at h
 | cons a l => simp only [d7]; omega
set_option maxRecDepth 100000 in
set_option maxHeartbeats 8000000 in
theorem Sw (l : List Lf) (hok : ∀ x ∈ l, Lf.OK x) (sp : Option Addr) (cap : Nat) (hc : l.length ≤ cap) (hl : l.length ≤ 1000) (h0 : 0 < l.length) (wide : Nat) (hw0 : 0 < wide) (hw1 : wide ≤ 64) (w : World) (hS : SrcF w sp l) : Calls Tryz.prog 96 #[.slice sp l.length cap, .int .u32 (wide : Int)] w fun e w' => e = .returned (.slice sp (d7 wide l) cap) ∧ Below w.heap.size w w' := by
 have ai := zH hok;have HX : Hid (SrcF w sp l ∧ Below w.heap.size w w) := zH ⟨hS, Below.refl _ _⟩;obtain ⟨g, o', rfl, hg⟩ := hS.form h0;obtain ⟨x, hx⟩ : ∃ x, l[0]? = some x := ⟨_, List.getElem?_eq_getElem h0⟩;obtain ⟨N, hN⟩ : ∃ N, l.length = N := ⟨_, rfl⟩;rw [hN] at hc hl h0 ⊢;have HN := zH hN; have HC := zH hc; have HL := zH hl; have H0 := zH h0; have a3 := zH hx; have aa := zH hw0;have am : Hid (Lf.OK x) := zH (hok x (List.mem_of_getElem? hx));obtain ⟨hn, a2⟩ : ∃ n, d7 wide l = n := ⟨_, rfl⟩;have a8 := zH a2;have ar : Hid (hn ≤ N) := zH (by rw [← a2, ← hN]; exact Ev _ _);rw [a2];generalize hPost : (fun e w' => e = Ending.returned (.slice (some ⟨g, o', none⟩) hn cap) ∧ Below w.heap.size w w') = Post;have HP : Hid (∀ w', Below w.heap.size w w' → Post (.returned (.slice (some ⟨g, o', none⟩) hn cap)) w') := zH fun w' h => by rw [← hPost]; exact ⟨rfl, h⟩
 obtain ⟨xo, a6⟩ : ∃ n, x.1 = n := ⟨_, rfl⟩;have a4 := zH a6;have al : Hid (xo < 4294967296) := zH (by rw [← a6]; exact am.out.1);have av : ¬ (wide : Int) = 0 := by omega
 clear hok hS hN hc hl hx a2 hPost hg a6 hw0 hw1 h0;go_enter Tryz.func96, Tryz.ntmps96
 go_wp2_with fail
 go_loopw [5] (fun v wr => ∃ k : Nat, 1 ≤ k ∧ k ≤ N ∧ v = .int .i64 (k : Int) ∧ (∀ i y, 1 ≤ i → i < k → l[i]? = some y → y.1 / wide = x.1 / wide) ∧ SrcF wr (some ⟨g, o', none⟩) l ∧ Below w.heap.size w wr) (fun v _ => N - (intOf v).toNat)
 case atStart => exact ⟨1, by omega, H0.out, rfl, fun i y h1 h2 => by omega, HX.out⟩
 case round =>
  clear HX;obtain ⟨k, ad, hk, rfl, ab, af⟩ := hrel;have HQ := zH ab; have a0 := zH af;clear ab af;have aw := IntWalk.i64_in ((k : Int) + 1) (by have := HL.out; omega);by_cases hlt : k < N
  ·obtain ⟨y, hy⟩ : ∃ y, l[k]? = some y := ⟨_, List.getElem?_eq_getElem (by have := HN.out; omega)⟩
   have HY := zH hy;obtain ⟨yo, a7⟩ : ∃ n, y.1 = n := ⟨_, rfl⟩;have a5 := zH a7;have an : Hid (yo < 4294967296) := zH (by rw [← a7]; exact (ai.out y (List.mem_of_getElem? hy)).1);have ah : Hid (k < N ∧ N ≤ cap) := zH ⟨hlt, HC.out⟩;have aj : Hid (0 < N ∧ N ≤ cap) := zH ⟨by omega, HC.out⟩;have ap : (k : Int) < (N : Int) := (by omega);clear hy a7
   go_upto_region 2 with fail
   refine gS (.take 0 (.take 1 (.take 2 (.take 3 (.take 4 (.take 5 (.take 6 (.take 7 (.take 8 (.take 9 (.take 10 (.take 11 (.take 12 (.take 13 (.take 14 (.take 15 (.take 16 (.take 17 (.take 18 (.take 19 (.nil))))))))))))))))))))) (fun X => SrcF X (some ⟨g, o', none⟩) l ∧ True) (⟨a0.out.1.drew, trivial⟩) ?_;refine gT (.int .i64 (k : Int)) ?_;refine gT (.slice (some ⟨g, o', none⟩) N cap) ?_;refine gT (.int .i64 N) ?_;refine gT (.bool true) ?_;refine gT (.bool true) ?_;refine gT (.slice (some ⟨g, o', none⟩) N cap) ?_;refine gT (.int .i64 (k : Int)) ?_;refine gU (.pointer (some ⟨g, o' + k * 42, none⟩)) rfl (fun X hX => zf rfl rfl rfl ah.out) ?_;refine gT (.pointer (some ⟨g, o' + k * 42, none⟩)) ?_;refine gU (.int .u32 (yo : Int)) rfl (fun X hX => (az Tryz.underlying24 rfl rfl (qy (hX.1.at HY.out))).trans (by rw [a5.out])) ?_;refine gT (.int .u32 (wide : Int)) ?_;refine gU (.int .u32 ((yo / wide : Nat) : Int)) rfl (fun X hX => ud aa.out an.out rfl rfl rfl) ?_;refine gT (.slice (some ⟨g, o', none⟩) N cap) ?_;refine gU (.pointer (some ⟨g, o' + 0 * 42, none⟩)) rfl (fun X hX => zf (k := 0) rfl rfl rfl aj.out) ?_;refine gT (.pointer (some ⟨g, o' + 0 * 42, none⟩)) ?_;refine gU (.int .u32 (xo : Int)) rfl (fun X hX => (az Tryz.underlying24 rfl rfl (qy (hX.1.at a3.out))).trans (by rw [a4.out])) ?_;refine gT (.int .u32 (wide : Int)) ?_;refine gU (.int .u32 ((xo / wide : Nat) : Int)) rfl (fun X hX => ud aa.out al.out rfl rfl rfl) ?_;refine gU (.bool (decide (yo / wide = xo / wide))) rfl (fun X hX => X0 rfl rfl rfl) ?_;refine gT (.bool (decide (yo / wide = xo / wide))) ?_;refine au ?_;have a9 := zH (show SrcF wr.drew (some ⟨g, o', none⟩) l ∧ Below w.heap.size w wr.drew from ⟨a0.out.1.drew, a0.out.2.drew⟩);cases hcase : decide (yo / wide = xo / wide)
   ·have ae : ¬ yo / wide = xo / wide := by simpa using hcase
    obtain rfl : k = hn := by
     rw [← a8.out]
     exact (Eu a3.out ad (by have := HN.out; omega) HQ.out (fun z hz => by
      rw [HY.out] at hz;obtain rfl := Option.some.inj hz;rw [a5.out, a4.out]
      exact ae)).symm
    have HE := zH (HP.out _ a9.out.2);have ag : Hid (k ≤ cap) := zH (by have := HC.out; omega);have aq : ∀ W : World, (Instr.sliceAt 95 (.slice (some ⟨g, o', none⟩) N cap) none (some (.int .i64 (k : Int))) none).run Tryz.prog W = .ok (.slice (some ⟨g, o', none⟩) k cap) W := G7 (some ⟨g, o', none⟩) N cap k ag.out;clear ae a0
    go_wp2_with fail
    first | exact HE.out | (go_ret; exact HE.out)
   ·have a1 : yo / wide = xo / wide := by simpa using hcase
    have ak : Hid (∀ i z, 1 ≤ i → i < k + 1 → l[i]? = some z → z.1 / wide = x.1 / wide) := zH (fun i z h1 h2 hz => by
     by_cases e : i = k
     ·subst e
      rw [HY.out] at hz;obtain rfl := Option.some.inj hz;rw [a5.out, a4.out];exact a1
     ·exact HQ.out i z h1 (by omega) hz)
    clear a1 a0
    go_wp2_with fail
    go_roundw
    case rel => exact ⟨k + 1, by omega, by omega, by go_num, ak.out, a9.out⟩
    case measure => simp [intOf]; omega
  ·obtain rfl : k = N := by omega
   obtain rfl : hn = k := by
    rw [← a8.out]
    exact Eu a3.out ad (by have := HN.out; omega) HQ.out (fun z hz => by
     have := (List.getElem?_eq_some_iff.1 hz).1;have := HN.out
     omega)
   have ao : decide ((hn : Int) < (hn : Int)) = false := by simp
   go_upto_region 2 with fail
   refine gS (.take 0 (.take 1 (.take 2 (.take 3 (.take 4 (.take 5 (.take 6 (.take 7 (.take 8 (.take 9 (.take 10 (.take 11 (.take 12 (.take 13 (.take 14 (.take 15 (.take 16 (.take 17 (.take 18 (.take 19 (.nil))))))))))))))))))))) (fun _ => True) (trivial) ?_;refine gT (.int .i64 (hn : Int)) ?_;refine gT (.slice (some ⟨g, o', none⟩) hn cap) ?_;refine gT (.int .i64 hn) ?_;refine gT (.bool false) ?_;refine gT (.bool false) ?_;refine gP ?_;refine gP ?_;refine gP ?_;refine gP ?_;refine gP ?_;refine gP ?_;refine gP ?_;refine gP ?_;refine gP ?_;refine gP ?_;refine gP ?_;refine gP ?_;refine gP ?_;refine gP ?_;refine gT (.bool false) ?_;refine au ?_;have HE := zH (HP.out _ a0.out.2.drew);have aq : ∀ W : World, (Instr.sliceAt 95 (.slice (some ⟨g, o', none⟩) hn cap) none (some (.int .i64 (hn : Int))) none).run Tryz.prog W = .ok (.slice (some ⟨g, o', none⟩) hn cap) W := G7 (some ⟨g, o', none⟩) hn cap hn HC.out;clear hk hlt a0
   go_wp2_with fail
   first | exact HE.out | (go_ret; exact HE.out)
end Go.Proofs.YtjgjohdeeeoeoaaGreatDoor
namespace Go.Proofs.YtjgjohdeeeoeoaaGreatDoor
open Go.RowKit
def Qt (S : World → Prop) : Prop := ∀ w w', S w → Below w.heap.size w w' → S w'
section
variable {ops : Array Oper} {Q : Exit → Act → World → Prop} {S : World → Prop}
theorem ji {i : Nat} {r : Tr} {a : Act} {w : World} (o : Oper) (hi : ops.toList[i]? = some o) (hw : Region.wanted o (yielded ops a.tmps) = true) (f : FuncId) (args : Array Value) (hrun : ∀ w, (execOp a.eval o).run Tryz.prog w = .ok (.enter f args) w)
  (hst : Qt S) (hS : S w) (v : Value) (hc : Calls Tryz.prog f args w fun e w' => e = .returned v ∧ Below w.heap.size w w')
  (h : ∀ w', S w' → wpG Tryz.prog ops Q r S (a.put o.dst v) w') : wpG Tryz.prog ops Q (.step i r) S a w :=
 b8 o hi hw f args hrun (fun u _ => u = v) (hc.mono fun _ w' ⟨e1, hb⟩ => ⟨v, e1, hst _ _ hS hb, rfl⟩) fun u w' hS' hu => by
  subst hu;exact ⟨S, fun _ h => h, hS', h w' hS'⟩
end
section
variable {ops : Array Oper} {Q : Exit → Act → World → Prop}
end
end Go.Proofs.YtjgjohdeeeoeoaaGreatDoor
