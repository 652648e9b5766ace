/- Slices of pointers: a call's own, and such as lie in memory; whether a pointer is among some. -/
import Derived.Test.YtjgjohdeeeoeoaaGreatDoorM10
import Derived.Maps.AppendAt
import Derived.Handy
import Derived.Test.YtjgjohdeeeoeoaaGreatDoorM08
import Derived.Test.YtjgjohdeeeoeoaaGreatDoorM06
import Derived.Test.YtjgjohdeeeoeoaaGreatDoorM01
import Derived.ProofKit
import Derived.OpenShut
import Derived.Test.YtjgjohdeeeoeoaaGreatDoorM04
import Derived.LaidMore
import Derived.Stop.Joined
set_option linter.all false
namespace Go.Proofs.YtjgjohdeeeoeoaaGreatDoor
open Go.RowKit
attribute [local go_sem] Oper.semAt_some
variable {l : List Pt} {B g k n : Nat} {p q : Pt} {v : Value} {w w' : World}
theorem bc {F : Nat → Prop} {e : Nat} {xs : List Value} (h : w.ownsRow B e k v n xs) (hc : Chg F w w') (hn : ∀ g, v.ownBlock = some g → ¬ F g) : w'.ownsRow B e k v n xs := by
 refine ⟨h.1, ?_⟩;rcases h.2 with hx | ⟨g, cap, cur, rfl, hb, hgg, rest⟩
 ·exact .inl hx
 ·refine .inr ⟨g, cap, cur, rfl, hb, ?_, rest⟩
  rw [hc.block g (Array.getElem?_eq_some_iff.1 hgg).1 (hn g rfl)];exact hgg
def ma (l : List Pt) : List Value := l.flatMap a8
theorem A6 (l : List Pt) (p : Pt) : ma (l ++ [p]) = ma l ++ a8 p := by simp [ma]
theorem Fl : ∀ (l : List Pt) (i : Nat) (p : Pt), (∀ q ∈ l, q.OK) → l[i]? = some p → ∀ j, j < 41 → (ma l)[i * 41 + j]? = (a8 p)[j]?
 | [], i, p, _, h, _, _ => by simp at h
 | q :: l, 0, p, hq, h, j, hj => by
  simp only [List.getElem?_cons_zero, Option.some.injEq] at h;subst h;have := aa (hq q (by simp));show (a8 q ++ ma l)[0 * 41 + j]? = _;rw [Nat.zero_mul, Nat.zero_add, List.getElem?_append_left (by omega)]
 | q :: l, i + 1, p, hq, h, j, hj => by
  have := aa (hq q (by simp));have ih := Fl l i p (fun x hx => hq x (by simp [hx])) (by simpa using h) j hj;show (a8 q ++ ma l)[(i + 1) * 41 + j]? = _;rw [List.getElem?_append_right (by omega), ← ih];congr 1;omega
abbrev OwnM (w : World) (B : Nat) (v : Value) (l : List Pt) : Prop := w.ownsRow B 28 41 v l.length (ma l)
theorem a0s : (Tryz.prog.info? 28).map (fun i => (i.zero.map (·.cells.size), i.size, i.bytes)) = some (some 41, 41, 56) := by kernel_rfl
theorem ou : ∃ i z, Tryz.prog.info? 28 = some i ∧ i.zero = some z ∧ z.cells.size = 41 ∧ i.size = 41 ∧ i.bytes = 56 := by
 obtain ⟨i, h1, h2⟩ := Option.map_eq_some_iff.1 a0s;simp only [Prod.mk.injEq] at h2;obtain ⟨z, hz, a0⟩ := Option.map_eq_some_iff.1 h2.1;exact ⟨i, z, h1, hz, a0, h2.2.1, h2.2.2⟩
theorem tu (p : Pt) : ∀ u ∈ a8 p, u.oneCell' = true := fun u hu => by
 have := bb p;rw [Array.all_eq_true'] at this;exact this u (by simpa using hu)
theorem Fi (h : OwnM w B v l) (hB : B ≤ w.heap.size) (hl : l.length < 100000000) (hp : p.OK) {adr : Addr} {c : Nat} (hnews : ∀ j u, (a8 p)[j]? = some u → w.cell? (adr.add j) = some u) (ty : TypeId) :
  ∃ v' w', (Builtin.append_ #[48, 48] ty #[v, .slice (some adr) 1 c]).run Tryz.prog w = .ok v' w' ∧ OwnM w' B v' (l ++ [p]) ∧ w.grownBy w' v.ownBlock ∧ (v'.ownBlock = v.ownBlock ∨ v'.ownBlock = some w.heap.size) := by
 obtain ⟨i0, z, hi, a0, a1, a2, a3⟩ := ou;obtain ⟨v', w', hr, h2, h3, _, h5⟩ := run_append_own_at (P := Tryz.prog) w B 48 ty 28 i0 z 41 56 Tryz.underlying48 hi a0 a2 a3 a1 (by decide) v l.length (ma l) h adr 1 c (a8 p) (by rw [aa hp]) hnews (tu p) (by unfold maxLen; omega) (by omega) hB;refine ⟨v', w', hr, ?_, h3, h5⟩;unfold OwnM;rw [A6, List.length_append];exact h2
def SrcM (w : World) (v : Value) (l : List Pt) : Prop :=
 ∃ sp cap, v = .slice sp l.length cap ∧ l.length ≤ cap ∧ cap ≤ maxLen ∧ (sp = none → cap = 0) ∧ (0 < l.length → ∃ g, sp = some ⟨g, 0, none⟩ ∧ g < w.heap.size ∧ ∀ i q, l[i]? = some q → w.rangeAt g (i * 41) (a8 q))
theorem sr {o : Nat} {cs : List Value} (h : w.rangeAt g o cs) (hb : Below w.heap.size w w') (hg : g < w.heap.size) : w'.rangeAt g o cs := fun j v hv => by
 have := h j v hv;rw [hb.cell (p := ⟨g, o + j, none⟩) hg];exact this
theorem SrcM.grown (h : SrcM w v l) (hb : Below w.heap.size w w') : SrcM w' v l := by
 obtain ⟨sp, a0, e, h1, h2, h4, h3⟩ := h;refine ⟨sp, a0, e, h1, h2, h4, fun h0 => ?_⟩;obtain ⟨g, e1, hg, hr⟩ := h3 h0;exact ⟨g, e1, Nat.lt_of_lt_of_le hg hb.size, fun i q hq => sr (hr i q hq) hb hg⟩
theorem OwnM.src (h : OwnM w B v l) (hok : ∀ q ∈ l, q.OK) : SrcM w v l := by
 rcases h.2 with ⟨rfl, hn⟩ | ⟨g, cap, cur, rfl, hb, hg, hc, hm, hs, ht⟩
 ·exact ⟨none, 0, by rw [hn], by omega, by unfold maxLen; omega, fun _ => rfl, fun h0 => by omega⟩
 ·have a2 : g < w.heap.size := (Array.getElem?_eq_some_iff.1 hg).1
  refine ⟨some ⟨g, 0, none⟩, cap, rfl, hc, hm, (fun e => by cases e), fun _ => ⟨g, rfl, a2, fun i q hq j u hj => ?_⟩⟩;have a1 : j < 41 := (by have := (List.getElem?_eq_some_iff.1 hj).1; rw [aa (hok q (List.mem_of_getElem? hq))] at this; exact this);have h1 := Fl l i q hok hq j a1;rw [hj, ← ht, List.getElem?_take] at h1;rw [if_pos (by have := (List.getElem?_eq_some_iff.1 hq).1; omega)] at h1;have a0 : Blk w g cur.toList 28 := (by unfold Blk; simpa using hg);exact a0.cell h1
theorem Qz (h : l[k]? = some q) (h0 : (l.take k).any (fun q => eqP p q) = false) (h1 : eqP p q = false) : (l.take (k + 1)).any (fun q => eqP p q) = false := by
 rw [j7 h, List.any_append, h0];simp [h1]
theorem a04 (h : l[k]? = some q) (h1 : eqP p q = true) : l.any (fun q => eqP p q) = true := List.any_eq_true.2 ⟨q, List.mem_of_getElem? h, h1⟩
def IdxS (w : World) (p : Pt) (v : Value) (l : List Pt) (X : World) : Prop := Blk X w.heap.size (a8 p) 28 ∧ SrcM X v l ∧ Below w.heap.size w X
theorem IdxS.grown {X Y : World} (h : IdxS w p v l X) (hb : Below X.heap.size X Y) : IdxS w p v l Y := ⟨h.1.below hb h.1.lt, h.2.1.grown hb, h.2.2.trans (hb.mono h.2.2.size)⟩
def a2i (l : List Pt) (p : Pt) (r : Int) : Prop := (r = -1 ∧ l.any (fun q => eqP p q) = false) ∨ (0 ≤ r ∧ l.any (fun q => eqP p q) = true)
theorem Lt {ρ : Operand → Value} {o : Oper} {x y : Operand} {cap : Nat} (ho : o.op = .indexAddr 48 x y) (hx : ρ x = .slice (some ⟨g, 0, none⟩) n cap) (hy : ρ y = .int .i64 (k : Int)) (hk : k < n ∧ n ≤ cap) :
  (execOp ρ o).run Tryz.prog w = .ok (.value (.pointer (some ⟨g, k * 41, none⟩))) w := by
 have h1 : ¬ n ≤ k := by omega
 unfold execOp;simp only [ho];go_simp
set_option maxRecDepth 100000 in
set_option maxHeartbeats 4000000 in
theorem Mz (l : List Pt) (v : Value) (p : Pt) (hp : p.OK) (hok : ∀ q ∈ l, q.OK) (hl : l.length < 100000000) (w : World) (h : SrcM w v l) : Calls Tryz.prog 133 #[v, .agg (a8 p).toArray] w fun e w' => ∃ r, e = .returned (.int .i64 r) ∧ a2i l p r ∧ Below w.heap.size w w' := by
 have HP := zH hp; have ad := zH hok; have HL := zH hl; have a7 := zH (aa hp);have a2 : Below w.heap.size w (w.alloc (.cells (a8 p).toArray 28)) := (Below.refl _ _).alloc (Nat.le_refl _) _;have HS : Hid (IdxS w p v l (w.alloc (.cells (a8 p).toArray 28))) := zH ⟨Blk.new _ _ _, h.grown a2, a2⟩;obtain ⟨sp, a1, rfl, hc, hm, -, hr⟩ := h;obtain ⟨N, hN⟩ : ∃ N, l.length = N := ⟨_, rfl⟩;rw [hN] at HS hc hr ⊢;have HN := zH hN; have HC := zH hc; have HR := zH hr; have ab : Hid (N < 100000000) := zH (by omega);clear hp hok hl a2 hc hm hr hN;go_enter Tryz.func133, Tryz.ntmps133
 go_wp2_with fail
 generalize (w.alloc (.cells (a8 p).toArray 28)) = W0 at HS ⊢;go_loopw [8] (fun i wr => ∃ k : Nat, k ≤ N ∧ i = .int .i64 (k : Int) ∧ (l.take k).any (fun q => eqP p q) = false ∧ IdxS w p (.slice sp N a1) l wr) (fun i _ => N - (intOf i).toNat)
 case atStart => exact ⟨0, by omega, rfl, by simp, HS.out⟩
 case round =>
  clear HS;obtain ⟨k, hk, rfl, a5, hs⟩ := hrel;have a3 := zH a5; have HS := zH hs;clear a5 hs;have ah := IntWalk.i64_in ((k : Int) + 1) (by have := ab.out; omega);by_cases hlt : k < N
  ·obtain ⟨q, hq⟩ : ∃ q, l[k]? = some q := ⟨_, List.getElem?_eq_getElem (by have := HN.out; omega)⟩
   obtain ⟨g, rfl, hg, -⟩ := HR.out (by omega);have HQ : Hid q.OK := zH (ad.out q (List.mem_of_getElem? hq));have a9 := zH (aa HQ.out)
   have ae : Hid (∀ X, IdxS w p (.slice (some ⟨g, 0, none⟩) N a1) l X → X.rangeAt g (k * 41) (a8 q)) := zH (fun X hX => by
    obtain ⟨ag, af, e, _, _, _, h3⟩ := hX.2.1;obtain ⟨g', e2, _, h4⟩ := h3 (by have := HN.out; omega);injection e with e3 _ _
    rw [e2] at e3;injection e3 with e4
    injection e4 with e5 _ _
    rw [e5]
    exact h4 k q hq)
   have a6 : Hid (k < N ∧ N ≤ a1) := zH ⟨hlt, HC.out⟩;have a4 := zH hq;clear hg hq
   go_upto_region 4 with fail
   refine gS (.take 0 (.take 1 (.take 2 (.take 3 (.take 4 (.take 5 (.nil))))))) (IdxS w p (.slice (some ⟨g, 0, none⟩) N a1) l) (HS.out.grown (Below.refl _ _).drew) ?_;refine gU (.agg (a8 p).toArray) rfl (fun X hX => c6 (ty := 28) (cs := a8 p) rfl rfl (d9 hX.1) Tryz.underlying28 rfl (by rw [dw, a7.out])) ?_;refine gT (.slice (some ⟨g, 0, none⟩) N a1) ?_;refine gT (.int .i64 (k : Int)) ?_;refine gU (.pointer (some ⟨g, k * 41, none⟩)) rfl (fun X hX => Lt rfl rfl rfl a6.out) ?_;refine gU (.agg (a8 q).toArray) rfl (fun X hX => c6 (ty := 28) (cs := a8 q) rfl rfl (ae.out X hX) Tryz.underlying28 rfl (by rw [dw, a9.out])) ?_;refine gU (.bool (eqP p q)) rfl (fun X hX => tg rfl rfl rfl HP.out HQ.out) ?_;refine au ?_;cases hcase : eqP p q with
   | false =>
    have a0 : Hid ((l.take (k + 1)).any (fun q => eqP p q) = false) := zH (Qz a4.out a3.out hcase)
    go_wp2_with fail
    go_roundw
    case rel => exact ⟨k + 1, by omega, by go_num, a0.out, HS.out.grown (Below.refl _ _).drew⟩
    case measure => simp [intOf]; omega
   | true =>
    have a0 : Hid (l.any (fun q => eqP p q) = true) := zH (a04 a4.out hcase)
    go_wp2_with fail
    go_ret;exact ⟨_, rfl, .inr ⟨by omega, a0.out⟩, (HS.out.grown (Below.refl _ _).drew).2.2⟩
  ·obtain rfl : k = N := by omega
   have a0 : Hid (l.any (fun q => eqP p q) = false) := zH (by have := a3.out; rw [List.take_of_length_le (by have := HN.out; omega)] at this; exact this)
   go_wp2_with fail
   go_ret;exact ⟨_, rfl, .inl ⟨rfl, a0.out⟩, HS.out.2.2⟩
set_option maxRecDepth 100000 in
set_option maxHeartbeats 4000000 in
theorem u0 (l : List Pt) (v : Value) (p : Pt) (hp : p.OK) (hok : ∀ q ∈ l, q.OK) (hl : l.length < 100000000) (w : World) (h : SrcM w v l) : Calls Tryz.prog 130 #[v, .agg (a8 p).toArray] w fun e w' => e = .returned (.bool (l.any (fun q => eqP p q))) ∧ Below w.heap.size w w' := by
 have a0 : Below w.heap.size w (w.alloc (.cells (a8 p).toArray 28)) := (Below.refl _ _).alloc (Nat.le_refl _) _;have HS : Hid (IdxS w p v l (w.alloc (.cells (a8 p).toArray 28))) := zH ⟨Blk.new _ _ _, h.grown a0, a0⟩;have HZ : Hid ((Tryz.prog.info? 28).map (·.size) = some (a8 p).toArray.size) := zH (bh hp);obtain ⟨m, hm⟩ : ∃ m, l.any (fun q => eqP p q) = m := ⟨_, rfl⟩;rw [hm];have HM := zH hm; have HP := zH hp; have a1 := zH hok; have HL := zH hl;obtain ⟨sp, a2, rfl, -⟩ := h;clear a0 hm hp hok hl;go_enter Tryz.func130, Tryz.ntmps130
 go_upto_region 1 with fail
 generalize (w.alloc (.cells (a8 p).toArray 28)) = W0 at HS ⊢;have HG : Hid (W0.heap[w.heap.size]? = some (.cells (a8 p).toArray 28 (0, 0))) := zH HS.out.1
 go_wp2_with (first | (refine wpList_load_row rfl 28 (.tmp 3) rfl w.heap.size rfl 28 _ _ _ HG.out Tryz.underlying28 rfl HZ.out ?_) | fail)
 refine (Mz l _ p HP.out a1.out HL.out W0 HS.out.2.1).mono ?_;rintro e w' ⟨r, rfl, hr, hb⟩;have HB : Hid (Below w.heap.size w w') := zH (HS.out.2.2.trans (hb.mono HS.out.2.2.size));rcases hr with ⟨rfl, hr⟩ | ⟨h0, hr⟩
 ·obtain rfl : m = false := by rw [← HM.out]; exact hr
  clear hb hr
  go_wp2_with fail
  go_ret;exact ⟨rfl, HB.out⟩
 ·obtain rfl : m = true := by rw [← HM.out]; exact hr
  clear hb hr
  go_wp2_with fail
  go_ret;exact ⟨rfl, HB.out⟩
end Go.Proofs.YtjgjohdeeeoeoaaGreatDoor
namespace Go.Proofs.YtjgjohdeeeoeoaaGreatDoor
open Go.RowKit
variable {w : World}
theorem U5 (p : Pt) : (g8 p).take 16 = iy p := by
 unfold g8 my;rw [List.append_assoc, List.append_assoc, List.take_left' (dd p)]
theorem SrcA.take {sp : Option Addr} {bs : Bs} (h : SrcA w sp bs) (n : Nat) : SrcA w sp (bs.take n) := fun h0 => by
 obtain ⟨g, o, e, hg, hc⟩ := h (by simp at h0; omega);refine ⟨g, o, e, hg, fun j hj => ?_⟩;have a0 : j < n ∧ j < bs.length := by simp at hj; omega
 rw [hc j a0.2];simp [List.getD_eq_getElem?_getD, a0.1]
structure QdW (p : Pt) (w : World) (W : World) : Prop where
 box : Blk W w.heap.size (a8 p) 28
 res : Blk W (w.heap.size + 1) (List.replicate 32 (Value.int .u8 0)) 25
 bel : Below w.heap.size w W
theorem QdW.grown {p : Pt} {W W' : World} (h : QdW p w W) {B : Nat} (hb : Below B W W') (h1 : w.heap.size + 2 ≤ B) : QdW p w W' :=
 ⟨h.box.below hb (by omega), h.res.below hb (by omega), h.bel.trans (hb.mono (by omega))⟩
theorem Ps (p : Pt) (w : World) (z : Array Value) (hz : z = (List.replicate 32 (Value.int .u8 0)).toArray) : QdW p w ((w.alloc (.cells (a8 p).toArray 28)).alloc (.cells z 25)) := by
 subst hz;exact ⟨(Blk.new _ _ _).alloc _, Blk.new' _ _ _ _ _ (by simp) rfl, ((Below.refl _ _).alloc (Nat.le_refl _) _).alloc (by simp) _⟩
set_option maxRecDepth 100000 in
set_option maxHeartbeats 4000000 in
theorem Fp (p : Pt) (hp : p.OK) (bs : Bs) (sp : Option Addr) (cap : Nat) (w : World) (hl : bs.length ≤ 4000) (hz : sp = none → cap = 0) (hS : SrcA w sp bs) :
  Calls Tryz.prog 153 #[.agg (a8 p).toArray, .slice sp bs.length cap] w fun e w' => e = .returned (.agg ((od (iy p ++ bs)).map V8).toArray) ∧ Below w.heap.size w w' := by
 have HP := zH hp;have HS := zH hS;have aw := zH (aa hp);have al := zH (Z4 (iy p ++ bs));have av : Hid (((List.replicate 32 (Value.int .u8 0)).toArray).size = ((od (iy p ++ bs)).map V8).toArray.size) := zH (by simp [jq]);obtain ⟨L, hL⟩ : ∃ L, bs.length = L := ⟨_, rfl⟩;have HL := zH hL;have ai : Hid (L ≤ 4000) := zH (by omega);have HZ := zH hz;rw [hL];clear hp hS hl hz hL;go_enter Tryz.func153, Tryz.ntmps153
 go_upto_region 1 with fail
 refine (fun (k : ∀ W, QdW p w W → W.heap.size = w.heap.size + 2 → Code.wp _ _ _ _ W) => k _ (Ps p w _ rfl) (by simp)) ?_;intro W1 hW1 hs1;have a6 := zH hW1;have ak := zH hs1;clear hW1 hs1
 go_wp2_with (first | (refine a9 rfl (c6 (ty := 28) (cs := a8 p) rfl rfl (d9 a6.out.box) Tryz.underlying28 rfl (by rw [dw, aw.out])) ?_) | fail)
 refine (Iq p HP.out W1).mono ?_;rintro e2 W2 ⟨v2, rfl, ar, ae⟩;obtain ⟨ah, a0, e, q1, q2, q3, q4, q5⟩ := OwnB.form ar;rw [i4 HP.out] at e q1;subst e;have a7 := zH (a6.out.grown ae (by rw [ak.out]; exact Nat.le_refl _));have b1 := ae.size;have b0 := ak.out;have ad := q3.take 16;rw [U5] at ad;obtain ⟨v3, w3, af, a4, a3⟩ := lq (m := iy p) (l := []) (w := W2) (B := W2.heap.size) (World.ownsRow_nil _ _ _ _) (Nat.le_refl _) (by simp [dd]) ad q4 29;rw [dd] at af;rw [List.nil_append] at a4;have ao := (HS.out.below a7.out.bel (Nat.le_refl _)).below a3 (Nat.le_refl _);obtain ⟨v4, w4, ag, au, ap⟩ := lq (m := bs) (l := iy p) (w := w3) (B := W2.heap.size) a4 a3.size (by have := ai.out; have := HL.out; simp [dd]; omega) ao HZ.out 29;rw [HL.out] at ag;obtain ⟨b2, ab, e4, s1, s2, s3, s4, s5⟩ := OwnB.form au;have ax := zH af;have ay := zH ag;have am := zH (a7.out.grown (a3.trans ap) (by omega));have a1 := Is (iy p ++ bs) b2 ab w4 (by have := ai.out; have := HL.out; simp [dd]; omega) s1 s4 s3;have a2 : (iy p ++ bs).length = 16 + L := by rw [List.length_append, dd, HL.out]
 rw [a2] at a1 e4;have a5 := zH a1;have b3 : ∀ W : World, (Instr.sliceAt 29 (.slice ah 64 a0) none (some (.int .i64 16)) none).run Tryz.prog W = .ok (.slice ah 16 a0) W := M3 ah 64 a0 16 (by omega);obtain ⟨b4, az, e3, _⟩ := OwnB.form a4;rw [dd] at e3;subst e3 e4;clear ar ae q1 q2 q3 q4 q5 b1 b0 ad af a4 a3 ao ag au ap s1 s2 s3 s4 s5 a1 a6 a7 a2
 go_wp2_with (first | (at_builtin; refine a9 rfl (ia rfl rfl rfl ax.out) ?_) | (at_builtin; refine a9 rfl (ia rfl rfl rfl ay.out) ?_) | (go_at_call 154; refine a5.out.mono ?_; rintro e5 w5 ⟨rfl, aq⟩; have an := zH (am.out.grown aq (by have := am.out.res.lt; omega)); clear aq; have aj := zH an.out.res) | (refine wpList_store_row rfl 25 (.tmp 4) (.tmp 11) rfl (w.heap.size + 1) _ rfl rfl 25 _ aj.out al.out av.out (A0 V8 (fun _ => rfl) _) ?_) | fail)
 exact bodyPost_ret (results_cell_row Tryz.results153 _ _ (w.heap.size + 1) 25 _ _ _ rfl (aj.out.row _) Tryz.underlying25 rfl al.out) rfl ⟨rfl, cz an.out.bel (by omega) _⟩
end Go.Proofs.YtjgjohdeeeoeoaaGreatDoor
namespace Go.Proofs.YtjgjohdeeeoeoaaGreatDoor
open Go.ChangeShapes Go.WideShapes Go.ChangeAt Go.RowKit
theorem own : ownKnob Tryz.prog.godebug = none := by kernel_rfl
theorem Y5 : laidOutB Tryz.prog = true := by kernel_rfl
theorem Hd : Tryz.prog.cellsOf 5 = 1 := by kernel_rfl
theorem lj {w : World} {g o : Nat} {v : Value} (h : w.cell? ⟨g, o, none⟩ = some v) : g < w.heap.size := by
 rcases Nat.lt_or_ge g w.heap.size with h1 | h1
 ·exact h1
 ·simp [World.cell?, Array.getElem?_eq_none h1] at h
end Go.Proofs.YtjgjohdeeeoeoaaGreatDoor
namespace Go.Proofs.YtjgjohdeeeoeoaaGreatDoor
open Go.ChangeShapes Go.WideShapes Go.ChangeAt Go.WideMaps Go.WideElems Go.RowKit
variable {cs : List Value} {fuel n : Nat}
theorem tRu : (Tryz.prog.globals[0]?).map (·.type) = some 180 := by kernel_rfl
theorem K1 : Tryz.prog.cellsOf 158 = 3 := by kernel_rfl
theorem R6 : Tryz.prog.cellsOf 180 = 18 := by kernel_rfl
theorem R5 : Tryz.prog.cellsOf 3 = 1 := by kernel_rfl
theorem xt (P : Nat → Int → Prop) : ∀ n : Nat, (∀ i, i < n → ∃ m, P i m) → ∃ ns : List Int, ns.length = n ∧ ∀ i, i < n → P i (ns.getD i 0)
 | 0, _ => ⟨[], rfl, fun i hi => by omega⟩
 | n + 1, h => by
  obtain ⟨ns, hl, hp⟩ := xt P n (fun i hi => h i (by omega));obtain ⟨m, hm⟩ := h n (by omega);refine ⟨ns ++ [m], by simp [hl], fun i hi => ?_⟩;by_cases hin : i < n
  ·have := hp i hin
   rw [List.getD_eq_getElem?_getD, List.getElem?_append_left (by omega), ← List.getD_eq_getElem?_getD];exact this
  ·obtain rfl : i = n := by omega
   rw [List.getD_eq_getElem?_getD, List.getElem?_append_right (by omega)];simpa [hl] using hm
theorem rg {H : Type} {enc : TypeId × Value → H} {P : Program} {w : World} {base : Nat} {spare : Nat → Bool} {held : Bool} {t e : Nat} {k : IntKind} {x : DataW H × List MemPlace}
  (ht : P.underlying t = some (.array n e)) (he : P.underlying e = some (.int k)) (hc : P.cellsOf e = 1) (hct : P.cellsOf t = n) (h : DataW.trod enc P w base spare held fuel t cs = some x) :
  ∃ ns : List Int, ns.length = n ∧ cs = ns.map (Value.int k) ∧ x.1 = .agg (ns.map fun m => .lit (.int k m)) ∧ ∀ i, i < n → (Lit.int k (ns.getD i 0)).wf = true := by
 obtain ⟨xs, m, rfl, rfl, hl, hn, a3⟩ := DataW.trod_array ht h
 obtain ⟨ns, a4, a0⟩ := xt (fun i m => cs[i]? = some (.int k m) ∧ (xs[i]?).map (·.1) = some (.lit (.int k m)) ∧ (Lit.int k m).wf = true) n (fun i hi => by
  have h1 := a3 i hi;rw [hc, Nat.mul_one] at h1;have a2 : xs[i]? = some xs[i] := List.getElem?_eq_getElem (by omega);rw [a2] at h1;obtain ⟨q, e1, e2, e3⟩ := DataW.trod_int he h1;refine ⟨q, ?_, by rw [a2]; simp [e2], e3⟩;have a1 : i < cs.length := (by omega)
  have e4 : (cs.drop i).take 1 = [cs[i]] := by
   rw [List.drop_eq_getElem_cons a1]; rfl
  rw [e4] at e1;rw [List.getElem?_eq_getElem a1]
  simpa using e1)
 refine ⟨ns, a4, ?_, ?_, fun i hi => (a0 i hi).2.2⟩
 ·apply List.ext_getElem?
  intro i;by_cases hi : i < n
  ·rw [(a0 i hi).1, List.getElem?_map, List.getElem?_eq_getElem (by omega)]
   simp [List.getD_eq_getElem?_getD, List.getElem?_eq_getElem (show i < ns.length by omega)]
  ·rw [List.getElem?_eq_none (by omega), List.getElem?_eq_none (by simp; omega)]
 ·show DataW.agg _ = DataW.agg _
  refine congrArg DataW.agg ?_;apply List.ext_getElem?;intro i;by_cases hi : i < n
  ·rw [List.getElem?_map, (a0 i hi).2.1, List.getElem?_map, List.getElem?_eq_getElem (by omega)]
   simp [List.getD_eq_getElem?_getD, List.getElem?_eq_getElem (show i < ns.length by omega)]
  ·rw [List.getElem?_eq_none (by simp; omega), List.getElem?_eq_none (by simp; omega)]
section
variable {H : Type} {enc : TypeId × Value → H} {W : World} {spare : Nat → Bool} {held : Bool} {b' : Nat}
theorem R4 {ns : List Int} (hl : ns.length = n) (hw : ∀ i, i < n → (Lit.int .u8 (ns.getD i 0)).wf = true) : ns.map (Value.int .u8) = (ns.map fun m => BitVec.ofNat 8 m.toNat).map V8 := by
 rw [List.map_map];apply List.map_congr_left;intro m hm;obtain ⟨i, hi, rfl⟩ := List.mem_iff_getElem.1 hm;have a0 := bounds_u8 (hw i (by omega));rw [List.getD_eq_getElem?_getD, List.getElem?_eq_getElem hi] at a0;simp only [Option.getD_some] at a0;simp only [Function.comp_apply, V8, N8, BitVec.toNat_ofNat];congr 1;omega
theorem a1l {ns : List Int} (hl : ns.length = n) (hw : ∀ i, i < n → (Lit.int .u16 (ns.getD i 0)).wf = true) : ns.map (Value.int .u16) = (ns.map Int.toNat).map U16 ∧ ∀ x ∈ ns.map Int.toNat, x < 65536 := by
 have hb : ∀ m ∈ ns, 0 ≤ m ∧ m < 65536 := fun m hm => by
  obtain ⟨i, hi, rfl⟩ := List.mem_iff_getElem.1 hm;have a0 := bounds_u16 (hw i (by omega));rw [List.getD_eq_getElem?_getD, List.getElem?_eq_getElem hi] at a0;simp only [Option.getD_some] at a0;omega
 constructor
 ·rw [List.map_map]
  apply List.map_congr_left;intro m hm;have := hb m hm;simp only [Function.comp_apply, U16];congr 1;omega
 ·intro x hx
  obtain ⟨m, hm, rfl⟩ := List.mem_map.1 hx;have := hb m hm;omega
theorem Eb : Tryz.prog.cellsOf 23 = 1 := by kernel_rfl
theorem R7 : Tryz.prog.cellsOf 24 = 1 := by kernel_rfl
theorem R8 : Tryz.prog.cellsOf 22 = 1 := by kernel_rfl
theorem E7 : Tryz.prog.cellsOf 25 = 32 := by kernel_rfl
theorem E8 : Tryz.prog.cellsOf 26 = 4 := by kernel_rfl
theorem a0d : Tryz.prog.cellsOf 28 = 41 := by kernel_rfl
theorem Mn (cs : List Value) (hl : cs.length = 41) : cs = cs.take 1 ++ ((cs.drop 1).take 1 ++ ((cs.drop 2).take 1 ++ ((cs.drop 3).take 1 ++ ((cs.drop 4).take 1 ++ ((cs.drop 5).take 32 ++ (cs.drop 37).take 4))))) := by
 have g : ∀ n m, (cs.drop n).take m ++ cs.drop (n + m) = cs.drop n := fun n m => by rw [← List.drop_drop, List.take_append_drop]
 have h1 : (cs.drop 37).take 4 = cs.drop 37 := List.take_of_length_le (by simp [hl]);rw [h1, g 5 32, g 4 1, g 3 1, g 2 1, g 1 1, List.take_append_drop]
theorem Ml {x : DataW H × List MemPlace} (h : DataW.trod enc Tryz.prog W b' spare held fuel 28 cs = some x) : ∃ p : Pt, p.OK ∧ cs = a8 p := by
 obtain ⟨xs, k, _, _, hl, a2, a0⟩ := DataW.trod_struct Tryz.underlying28 h;rw [a0d] at hl
 match xs, a2 with
 | [y0, y1, y2, y3, y4, y5, y6], _ =>
  have g0 := a0 0 _ rfl;have g1 := a0 1 _ rfl;have g2 := a0 2 _ rfl;have g3 := a0 3 _ rfl;have g4 := a0 4 _ rfl;have g5 := a0 5 _ rfl;have g6 := a0 6 _ rfl;simp [Hd, Eb, R7, R8, E7, E8] at g0 g1 g2 g3 g4 g5 g6;obtain ⟨z0, e0, _, w0⟩ := DataW.trod_int Tryz.underlying5 g0;obtain ⟨z1, e1, _, w1⟩ := DataW.trod_int Tryz.underlying5 g1;obtain ⟨z2, e2, _, w2⟩ := DataW.trod_int Tryz.underlying23 g2;obtain ⟨z3, e3, _, w3⟩ := DataW.trod_int Tryz.underlying24 g3;obtain ⟨z4, e4, _, w4⟩ := DataW.trod_int Tryz.underlying22 g4;obtain ⟨n5, l5, e5, _, w5⟩ := rg Tryz.underlying25 Tryz.underlying5 Hd E7 g5;obtain ⟨n6, l6, e6, _, w6⟩ := rg Tryz.underlying26 Tryz.underlying23 Eb E8 g6;have b0 := bounds_u8 w0;have b1 := bounds_u8 w1;have b2 := bounds_u16 w2;have b3 := bounds_u32 w3;have b4 := bounds_u64 w4;obtain ⟨u1, u2⟩ := a1l l6 w6;refine ⟨⟨z0.toNat, z1.toNat, z2.toNat, z3.toNat, z4.toNat, n5.map fun m => BitVec.ofNat 8 m.toNat, n6.map Int.toNat⟩, ⟨by simp only; omega, by simp only; omega, by simp only; omega, by simp only; omega, by simp only; omega, by simp [l5], by simp [l6], u2⟩, ?_⟩;rw [R4 l5 w5] at e5;rw [u1] at e6;have a1 := Mn cs hl;have tl : (cs.drop 1).take 1 = cs.tail.take 1 := (by rw [List.drop_one]);rw [tl] at a1;rw [a1]
  first | rw [e0, e1, e2, e3, e4, e5, e6] | rw [List.drop_one, e0, e1, e2, e3, e4, e5, e6]
  simp only [a8, i5];rw [show ((z0.toNat : Nat) : Int) = z0 by omega, show ((z1.toNat : Nat) : Int) = z1 by omega, show ((z2.toNat : Nat) : Int) = z2 by omega, show ((z3.toNat : Nat) : Int) = z3 by omega, show ((z4.toNat : Nat) : Int) = z4 by omega];rfl
theorem a2c {α : Type} : ∀ cs : List α, cs.length = 3 → ∃ a b c, cs = [a, b, c]
 | [a, b, c], _ => ⟨a, b, c, rfl⟩
set_option maxRecDepth 100000 in
theorem ku {x : DataW H × List MemPlace} (h : DataW.trod enc Tryz.prog W b' spare held fuel 158 cs = some x) : ∃ a b c, cs = [.int .i64 a, .int .u8 b, .int .u8 c] ∧ x.1 = .agg [.lit (.int .i64 a), .lit (.int .u8 b), .lit (.int .u8 c)] := by
 obtain ⟨xs, k, _, rfl, hl, a1, a0⟩ := DataW.trod_struct Tryz.underlying158 h;rw [K1] at hl;obtain ⟨c0, c1, c2, rfl⟩ := a2c cs hl
 match xs, a1 with
 | [y0, y1, y2], _ =>
  have g0 := a0 0 _ rfl;have g1 := a0 1 _ rfl;have g2 := a0 2 _ rfl;simp [Hd, R5] at g0 g1 g2;obtain ⟨z0, e0, f0, _⟩ := DataW.trod_int Tryz.underlying3 g0;obtain ⟨z1, e1, f1, _⟩ := DataW.trod_int Tryz.underlying5 g1;obtain ⟨z2, e2, f2, _⟩ := DataW.trod_int Tryz.underlying5 g2;refine ⟨z0, z1, z2, ?_, ?_⟩
  ·simp at e0 e1 e2
   rw [e0, e1, e2]
  ·rw [f0, f1, f2]; rfl
theorem a1r (cs : List Value) (hl : cs.length = 18) : cs = cs.take 3 ++ ((cs.drop 3).take 3 ++ ((cs.drop 6).take 3 ++ ((cs.drop 9).take 3 ++ ((cs.drop 12).take 3 ++ (cs.drop 15).take 3)))) := by
 have g : ∀ n m, (cs.drop n).take m ++ cs.drop (n + m) = cs.drop n := fun n m => by rw [← List.drop_drop, List.take_append_drop]
 have h1 : (cs.drop 15).take 3 = cs.drop 15 := List.take_of_length_le (by simp [hl]);rw [h1, g 12 3, g 9 3, g 6 3, g 3 3, List.take_append_drop]
set_option maxRecDepth 100000 in
theorem Je {x : DataW H × List MemPlace} (h : DataW.trod enc Tryz.prog W b' spare held fuel 180 cs = some x) (hx : x.1 = Rows.laid_kintsugi_ptr_rules) : cs = (List.range 6).flatMap rcell := by
 obtain ⟨xs, m, rfl, rfl, hl, hn, a6⟩ := DataW.trod_array Tryz.underlying180 h;rw [R6] at hl;rw [K1] at a6
 match xs, hn with
 | [y0, y1, y2, y3, y4, y5], _ =>
  obtain ⟨a0, b0, c0, e0, f0⟩ := ku (x := y0) (a6 0 (by omega));obtain ⟨a1, b1, c1, e1, f1⟩ := ku (x := y1) (a6 1 (by omega));obtain ⟨a2, b2, c2, e2, f2⟩ := ku (x := y2) (a6 2 (by omega));obtain ⟨a3, b3, c3, e3, f3⟩ := ku (x := y3) (a6 3 (by omega));obtain ⟨a4, b4, c4, e4, f4⟩ := ku (x := y4) (a6 4 (by omega));obtain ⟨a5, b5, c5, e5, f5⟩ := ku (x := y5) (a6 5 (by omega));simp only [List.map_cons, List.map_nil, f0, f1, f2, f3, f4, f5, Rows.laid_kintsugi_ptr_rules, DataW.agg.injEq, List.cons.injEq, DataW.lit.injEq, Lit.int.injEq, true_and, and_true] at hx;rw [a1r cs hl];simp only [Nat.zero_mul, List.drop_zero] at e0;rw [e0, e1, e2, e3, e4, e5];obtain ⟨⟨rfl, rfl, rfl⟩, ⟨rfl, rfl, rfl⟩, ⟨rfl, rfl, rfl⟩, ⟨rfl, rfl, rfl⟩, ⟨rfl, rfl, rfl⟩, ⟨rfl, rfl, rfl⟩⟩ := hx;rfl
end
theorem a1d {W : World} {n : String} {g : Nat} {cs : Array Value} (hg : Tryz.prog.globalNamed n = some g) (hv : W.var? Tryz.prog n = some cs) : ∃ t fr, W.heap[g]? = some (.cells cs t fr) := by
 unfold World.var? at hv;rw [hg] at hv;simp only [Option.bind_some] at hv;split at hv
 ·rename_i cs' t fr hh
  obtain rfl := Option.some.inj hv;exact ⟨t, fr, hh⟩
 ·cases hv
end Go.Proofs.YtjgjohdeeeoeoaaGreatDoor
namespace Go.Proofs.YtjgjohdeeeoeoaaGreatDoor
open Go.RowKit
variable {b : Bs} {g n : Nat} {F : Nat → Prop} {p : Pt}
structure Sh where
 blocks : List Bs
 bad : List Nat
 made : List Pt
 gone : List Pt
 room : Int
 read0 : List Pt
def at0 (p : Pt) : Nat := p.ats.getD 0 0
def rdB (s : Sh) (p : Pt) : Bs := if s.bad.any (fun x => x == at0 p) = true then [] else if at0 p = 0 ∨ s.blocks.length < at0 p then [] else s.blocks.getD (at0 p - 1) []
def rdE (s : Sh) (p : Pt) : Nat := if s.bad.any (fun x => x == at0 p) = true then 21 else if at0 p = 0 ∨ s.blocks.length < at0 p then 6 else 0
def rdS (s : Sh) (p : Pt) : Sh := { s with read0 := s.read0 ++ [p] }
def oldS (s : Sh) (p : Pt) : Sh := { s with gone := s.gone ++ [p] }
def ph (p : Pt) (n : Nat) : Pt := { p with birth := n, ats := [n, 0, 0, 0] }
def iu (p : Pt) (n : Nat) (b : Bs) : Pt := { ph p n with hash := od (iy (ph p n) ++ b) }
def ja (s : Sh) : Prop := s.room = 0 ∨ 30000 ≤ s.blocks.length
instance (s : Sh) : Decidable (ja s) := by unfold ja; infer_instance
def nwP (s : Sh) (p : Pt) (b : Bs) : Pt := if ja s then zeroP else iu p (s.blocks.length + 1) b
def nwE (s : Sh) : Nat := if ja s then 30 else 0
def nwS (s : Sh) (p : Pt) (b : Bs) : Sh := if ja s then s else { s with room := max (s.room - 1) (-1), blocks := s.blocks ++ [b], made := s.made ++ [iu p (s.blocks.length + 1) b] }
theorem za (h : p.OK) (hn : n ≤ 30000) : (ph p n).OK :=
 ⟨h.kind, h.level, h.obj, h.off, by simp only [ph]; omega, h.hash, rfl, fun x hx => by simp [ph] at hx; rcases hx with rfl | rfl <;> omega⟩
theorem sg (h : p.OK) (hn : n ≤ 30000) (b : Bs) : (iu p n b).OK :=
 ⟨h.kind, h.level, h.obj, h.off, (za h hn).birth, jq _, rfl, (za h hn).ats⟩
theorem zz {s : Sh} (h : p.OK) (b : Bs) : (nwP s p b).OK := by
 unfold nwP;split
 ·exact ak
 ·rename_i hf; unfold ja at hf; exact sg h (by omega) b
structure Sv where
 bl : Value
 bd : Value
 md : Value
 gn : Value
 rd : Value
def i6 (v : Sv) (r : Int) : List Value := [v.bl, v.bd, v.md, v.gn, .int .i64 r, v.rd]
def BkV (w : World) (L : Nat → Nat) (v : Value) (b : Bs) : Prop := ∃ sp cap, v = .slice sp b.length cap ∧ b.length ≤ cap ∧ (sp = none → cap = 0) ∧ SrcA w sp b ∧ ∀ a, sp = some a → L a.block = 10
def SrcN (w : World) (L : Nat → Nat) (v : Value) (l : List Nat) : Prop :=
 ∃ sp cap, v = .slice sp l.length cap ∧ l.length ≤ cap ∧ (sp = none → cap = 0) ∧ (0 < l.length → ∃ g o, sp = some ⟨g, o, none⟩ ∧ g < w.heap.size ∧ L g = 10 ∧ ∀ i x, l[i]? = some x → w.cell? ⟨g, o + i, none⟩ = some (U16 x))
def M9 (w : World) (v : Value) (vs : List Value) : Prop := w.ownsRow 0 29 1 v vs.length vs
structure ShAt (w : World) (L : Nat → Nat) (D : Nat) (s : Sh) (v : Sv) : Prop where
 blk : Blk w D (i6 v s.room) 50
 ld : L D = 1
 row : ∃ vs, M9 w v.bl vs ∧ (∀ g, v.bl.ownBlock = some g → L g = 2) ∧ vs.length = s.blocks.length ∧ (∀ (i : Nat) (u : Value) (b : Bs), vs[i]? = some u → s.blocks[i]? = some b → BkV w L u b) ∧ ∀ u ∈ vs, u.oneCell' = true
 bad : SrcN w L v.bd s.bad
 md : OwnM w 0 v.md s.made ∧ ∀ g, v.md.ownBlock = some g → L g = 3
 gn : OwnM w 0 v.gn s.gone ∧ ∀ g, v.gn.ownBlock = some g → L g = 4
 rd : OwnM w 0 v.rd s.read0 ∧ ∀ g, v.rd.ownBlock = some g → L g = 5
 lt : ∀ g, L g ≠ 0 → g < w.heap.size
 okm : ∀ q ∈ s.made, q.OK
 okg : ∀ q ∈ s.gone, q.OK
 okr : ∀ q ∈ s.read0, q.OK
 tab : RTab w ∧ L 0 = 10
def kx (k : Nat) (L : Nat → Nat) (g : Nat) : Prop := 1 ≤ L g ∧ L g ≤ k
structure Mv (k : Nat) (L : Nat → Nat) (w : World) (L' : Nat → Nat) (w' : World) : Prop where
 chg : Chg (kx k L) w w'
 old : ∀ g, g < w.heap.size → L' g = L g
 new : ∀ g, w.heap.size ≤ g → L' g ≤ k ∨ L' g = 10
section
variable {w w' w1 w2 : World} {L L' L1 L2 : Nat → Nat} {k : Nat}
theorem Mv.trans (h : Mv k L w L1 w1) (j : Mv k L1 w1 L2 w2) : Mv k L w L2 w2 :=
 ⟨h.chg.trans j.chg (fun g hg => by
  by_cases hs : g < w.heap.size
  ·left
   unfold kx at *;rw [← h.old g hs]; exact hg
  ·right; omega), fun g hg => (j.old g (Nat.lt_of_lt_of_le hg h.chg.size)).trans (h.old g hg), fun g hg => by
  by_cases hs : g < w1.heap.size
  ·rw [j.old g hs]; exact h.new g hg
  ·exact j.new g (by omega)⟩
theorem Mv.mono (h : Mv k L w L1 w1) {j : Nat} (hj : k ≤ j) : Mv j L w L1 w1 := ⟨h.chg.mono (fun g hg => ⟨hg.1, Nat.le_trans hg.2 hj⟩), h.old, fun g hg => by rcases h.new g hg with e | e; left; omega; right; exact e⟩
theorem Mv.of_below (h : Below w.heap.size w w') (hl : ∀ g, L g ≠ 0 → g < w.heap.size) : Mv k L w L w' := ⟨Chg.of_below h, fun _ _ => rfl, fun g hg => by left; have := hl g; omega⟩
theorem Mv.size (h : Mv k L w L1 w1) : w.heap.size ≤ w1.heap.size := h.chg.size
theorem Mv.blk (h : Mv k L w L1 w1) {cs : List Value} {t : TypeId} (hb : Blk w g cs t) (hg : L g = 0) : Blk w1 g cs t := hb.chg h.chg (fun hf => by unfold kx at hf; omega)
theorem SrcA.chgF {sp : Option Addr} (h : SrcA w sp b) (hc : Chg F w w') (hn : ∀ a, sp = some a → ¬ F a.block) : SrcA w' sp b := fun h0 => by
 obtain ⟨g, o, e, hg, a0⟩ := h h0;refine ⟨g, o, e, Nat.lt_of_lt_of_le hg hc.size, fun j hj => ?_⟩;rw [World.cell?_of_block (w := w) (a := ⟨g, o + j, none⟩) (hc.block g hg (hn _ e))];exact a0 j hj
theorem BkV.chg {v : Value} (h : BkV w L v b) (hc : Chg F w w') (hn : ∀ g, F g → L g ≠ 10) (hL : ∀ g, g < w.heap.size → L' g = L g) (hlt : ∀ g, L g ≠ 0 → g < w.heap.size) : BkV w' L' v b := by
 obtain ⟨sp, a0, e, h1, h2, h3, h4⟩ := h;exact ⟨sp, a0, e, h1, h2, h3.chgF hc (fun a ha hf => hn _ hf (h4 a ha)), fun a ha => by rw [hL _ (hlt _ (by rw [h4 a ha]; omega))]; exact h4 a ha⟩
theorem SrcN.chg {v : Value} {l : List Nat} (h : SrcN w L v l) (hc : Chg F w w') (hn : ∀ g, F g → L g ≠ 10) (hL : ∀ g, g < w.heap.size → L' g = L g) : SrcN w' L' v l := by
 obtain ⟨sp, a1, e, h1, h2, h3⟩ := h;refine ⟨sp, a1, e, h1, h2, fun h0 => ?_⟩;obtain ⟨g, o, e1, hg, hl, a0⟩ := h3 h0;refine ⟨g, o, e1, Nat.lt_of_lt_of_le hg hc.size, (hL g hg).trans hl, fun i x hx => ?_⟩;rw [World.cell?_of_block (w := w) (a := ⟨g, o + i, none⟩) (hc.block g hg (fun hf => hn g hf hl))];exact a0 i x hx
variable {D : Nat} {s : Sh} {v : Sv}
theorem ShAt.out (h : ShAt w L D s v) (hc : Chg F w w') (hF : ∀ g, F g → g < w.heap.size → L g = 0 ∨ (6 ≤ L g ∧ L g ≤ 9)) (hL : ∀ g, g < w.heap.size → L' g = L g ∨ ((L g = 0 ∨ (6 ≤ L g ∧ L g ≤ 9)) ∧ (L' g = 0 ∨ (6 ≤ L' g ∧ L' g ≤ 9)))) (hlt : ∀ g, L' g ≠ 0 → g < w'.heap.size) : ShAt w' L' D s v := by
 have a0 : ∀ g, (1 ≤ L g ∧ L g ≤ 5) ∨ L g = 10 → g < w.heap.size ∧ L' g = L g := fun g hg => by
  have h1 : g < w.heap.size := h.lt g (by omega);refine ⟨h1, ?_⟩;rcases hL g h1 with e | e
  ·exact e
  ·omega
 have n : ∀ g, (1 ≤ L g ∧ L g ≤ 5) ∨ L g = 10 → ¬ F g := fun g hg hf => by
  have := hF g hf (a0 g hg).1;omega
 have bk : ∀ u b, BkV w L u b → BkV w' L' u b := fun u b ⟨sp, a2, e, h1, h2, h3, h4⟩ =>
  ⟨sp, a2, e, h1, h2, h3.chgF hc (fun a ha => n _ (.inr (h4 a ha))), fun a ha => by rw [(a0 _ (.inr (h4 a ha))).2]; exact h4 a ha⟩
 have ow : ∀ {x : Value} {l : List Pt} {j : Nat}, 1 ≤ j → j ≤ 5 → (OwnM w 0 x l ∧ ∀ g, x.ownBlock = some g → L g = j) → (OwnM w' 0 x l ∧ ∀ g, x.ownBlock = some g → L' g = j) := fun h1 h5 ⟨ha, hb⟩ =>
  ⟨bc ha hc (fun g hg => n _ (.inl (by rw [hb g hg]; omega))), fun g hg => by rw [(a0 g (.inl (by rw [hb g hg]; omega))).2]; exact hb g hg⟩
 obtain ⟨vs, r1, r2, r3, r4, r5⟩ := h.row;refine ⟨h.blk.chg hc (n _ (by rw [h.ld]; omega)), by rw [(a0 D (by rw [h.ld]; omega)).2]; exact h.ld, ⟨vs, bc r1 hc (fun g hg => n _ (.inl (by rw [r2 g hg]; omega))), fun g hg => by rw [(a0 g (.inl (by rw [r2 g hg]; omega))).2]; exact r2 g hg, r3, fun i u b hu hb => bk _ _ (r4 i u b hu hb), r5⟩, ?_, ow (by omega) (by omega) h.md, ow (by omega) (by omega) h.gn, ow (by omega) (by omega) h.rd, hlt, h.okm, h.okg, h.okr, ?_⟩
 ·obtain ⟨sp, a2, e, h1, h2, h3⟩ := h.bad
  refine ⟨sp, a2, e, h1, h2, fun h0 => ?_⟩;obtain ⟨g, o, e1, hg, hl, a1⟩ := h3 h0;refine ⟨g, o, e1, Nat.lt_of_lt_of_le hg hc.size, (a0 g (.inr hl)).2.trans hl, fun i x hx => ?_⟩;rw [World.cell?_of_block (w := w) (a := ⟨g, o + i, none⟩) (hc.block g hg (n g (.inr hl)))];exact a1 i x hx
 ·exact ⟨h.tab.1.of_heap (hc.block _ h.tab.1.lt (n _ (.inr h.tab.2))), by rw [(a0 _ (.inr h.tab.2)).2]; exact h.tab.2⟩
theorem ShAt.below (h : ShAt w L D s v) (hb : Below w.heap.size w w') : ShAt w' L D s v := h.out (F := fun _ => False) (Chg.of_below hb) (fun _ hf => hf.elim) (fun _ _ => .inl rfl) (fun g hg => Nat.lt_of_lt_of_le (h.lt g hg) hb.size)
theorem ShAt.drew (h : ShAt w L D s v) : ShAt w.drew L D s v := h.below (Below.refl _ _).drew
theorem ShAt.not (h : ShAt w L D s v) (hg : w.heap.size ≤ g) : L g = 0 := by have := h.lt g; omega
def ShPost (k : Nat) (L : Nat → Nat) (w : World) (D : Nat) (s' : Sh) (w' : World) : Prop := ∃ L' v', ShAt w' L' D s' v' ∧ Mv k L w L' w'
theorem ShPost.below (h : ShAt w L D s v) (hb : Below w.heap.size w w') : ShPost k L w D s w' := ⟨L, v, h.below hb, Mv.of_below hb h.lt⟩
theorem ShPost.mv {s' : Sh} (h : Mv k L w L1 w1) (j : ShPost k L1 w1 D s' w2) : ShPost k L w D s' w2 := by
 obtain ⟨L2, v2, h2, j2⟩ := j;exact ⟨L2, v2, h2, h.trans j2⟩
theorem ShPost.pre {s' : Sh} (hb : Below w.heap.size w w1) (hl : ∀ g, L g ≠ 0 → g < w.heap.size) (j : ShPost k L w1 D s' w2) : ShPost k L w D s' w2 := ShPost.mv (Mv.of_below hb hl) j
end
end Go.Proofs.YtjgjohdeeeoeoaaGreatDoor
