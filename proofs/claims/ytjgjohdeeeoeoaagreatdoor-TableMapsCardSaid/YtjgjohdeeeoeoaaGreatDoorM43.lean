/- TableMaps: the law's walk. -/
import Derived.Test.YtjgjohdeeeoeoaaGreatDoorM42
import Derived.Deep.CutBlock
import Derived.Deep.CutRange
set_option linter.all false
namespace Go.Proofs.YtjgjohdeeeoeoaaGreatDoor
open Go.RowKit
attribute [local go_sem] Oper.semAt_some
variable {a : Act} {ops : Array Oper} {Q : Exit → Act → World → Prop} {l rest : List Oper} {o : Oper} {w : World}
@[irreducible] def holdL (ops : Array Oper) (Q : Exit → Act → World → Prop) (l : List Oper) (a : Act) (w : World) : Prop := wpList Tryz.prog ops Q l a w
theorem yp (h : holdL ops Q l a w) : wpList Tryz.prog ops Q l a w := by unfold holdL at h; exact h
theorem ui (h : wpList Tryz.prog ops Q l a w) : holdL ops Q l a w := by unfold holdL; exact h
theorem qw (v : Value) (hw : Region.wanted o (yielded ops a.tmps) = true) (hrun : (execOp a.eval o).run Tryz.prog w = .ok (.value v) w)
  (hK : holdL ops Q rest (a.put o.dst v) w) : holdL ops Q (o :: rest) a w := ui (aq hw hrun (yp hK))
theorem qV {ops : Array Oper} {rest : List Oper} {o : Oper} {a a1 : Act} {Q : Exit → Act → World → Prop} {w : World} (v : Value) (hK : holdL ops Q rest a1 w) (hw : Region.wanted o (yielded ops a.tmps) = true := by rfl) (hrun : (execOp a.eval o).run Tryz.prog w = .ok (.value v) w := by first | rfl | go_simp) (ha : a.put o.dst v = a1 := by (try simp only [pS]); try rfl) : holdL ops Q (o :: rest) a w := qw v hw hrun (by subst ha; exact hK)
theorem dh (hw : Region.wanted o (yielded ops a.tmps) = false)
  (hK : holdL ops Q rest (a.put o.dst undef) w) : holdL ops Q (o :: rest) a w := by
 refine ui ?_;unfold wpList;rw [if_neg (by rw [hw]; decide)];exact yp hK
theorem Aq (n : Nat) (x : Ino) : (tcI (n, x))[0]? = some (.int .u16 (n : Int)) := rfl
theorem Au {S : World → Prop} {i : Nat} {r : Tr} (o : Oper) (hi : ops.toList[i]? = some o) (hw : Region.wanted o (yielded ops a.tmps) = true) (v : Value) (w1 : World) (hrun : (execOp a.eval o).run Tryz.prog w = .ok (.value v) w1)
  (S' : World → Prop) (hS : S' w1) (hSS : ∀ w, S' w → S w) (h : wpG Tryz.prog ops Q r S' (a.put o.dst v) w1) : wpG Tryz.prog ops Q (.step i r) S a w := by
 show wpOp Tryz.prog ops Q i _ a w;unfold wpOp;simp only [m6 hi];rw [if_pos hw];refine .inl ?_;unfold Oper.wp;rw [hrun];exact ⟨hSS _ hS, S', hSS, hS, h⟩
set_option maxRecDepth 100000 in
set_option maxHeartbeats 64000000 in
theorem Ds (l : List AcU) (sp : Option Addr) (cap : Nat) (hc : l.length ≤ cap) (w : World) (hA : ActsU w sp l) (hT : RTab w) : Calls Tryz.prog 4 #[.slice sp l.length cap] w fun e w' => e = .returned (.bool true) ∧ Below w.heap.size w w' := by
 have HA := zH hA; have HT := zH hT; have HC := zH hc;have d3 := Jg l sp cap hc w hA;obtain ⟨N, hN⟩ : ∃ N, l.length = N := ⟨_, rfl⟩;rw [hN] at d3 ⊢;have HN := zH hN; have jp := zH d3;generalize hPost : (fun e w' => e = Ending.returned (.bool true) ∧ Below w.heap.size w w') = Post;have HP : Hid (∀ w', Below w.heap.size w w' → Post (.returned (.bool true)) w') := zH fun w' h => by rw [← hPost]; exact ⟨rfl, h⟩
 have k3 := zH (bh ak);have jv : Hid ((a8 zeroP).toArray.size = 41) := zH (by rw [List.size_toArray, aa ak]);clear hA hT hc d3 hN hPost;go_enter Tryz.func4, Tryz.ntmps4
 go_wp2_with fail
 refine jp.out.mono ?_;rintro e W1 ⟨rfl, d1⟩;have gx := zH d1;have i7 := zH (HT.out.grown d1);obtain ⟨gb, d2⟩ : ∃ b, om l = b := ⟨_, rfl⟩;rw [d2];cases gb
 case true =>
  go_wp2_with fail
  refine (ya _ i7.out).mono ?_;rintro e W2 ⟨rfl, kb⟩;have HE := zH (HP.out _ (d1.trans (kb.mono d1.size)))
  go_wp2_with fail
  first | exact HE.out | (go_ret; exact HE.out)
 case false =>
 have HS : Hid (N ≤ 30 ∧ ∀ a ∈ l, a.l.length ≤ 30) := zH (by
  unfold om at d2;rw [Bool.or_eq_false_iff] at d2;have h1 := d2.1;have h2 := d2.2;rw [HN.out] at h1;refine ⟨by simpa using h1, fun a ha => ?_⟩;have := List.any_eq_false.1 h2 a ha
  simpa using this)
 have gv := zH (HA.out.grown d1);have hj := zH (Sf W1 i7.out);clear d2 d1
 go_upto_region 4 with fail
 refine (fun (k : ∀ W, Fr W1 W1.heap.size sh0 [] W → Code.wp _ _ _ _ W) => k _ hj.out) ?_;intro W2 hW2;obtain ⟨D, hD⟩ : ∃ d, W1.heap.size = d := ⟨_, rfl⟩;rw [hD] at hW2 ⊢;have ch := zH hW2;have HD := zH hD;clear hW2 hD hj
 go_upto_region 5 with (first | (refine a9 rfl (bj rfl) ?_) | (refine wpList_store_row rfl 28 (.tmp 4) (.tmp 25) rfl W2.heap.size (a8 zeroP).toArray rfl rfl 28 _ (heap_alloc_new W2 _) k3.out (by rw [jv.out]; rfl) (bb zeroP) ?_) | fail)
 refine (fun (k : ∀ W, Fr W1 D sh0 [(W2.heap.size, a8 zeroP, 28)] W → Code.wp _ _ _ _ W) => k _ (ch.out.add (ar W2 _ (a8 zeroP) 28).2 (Nat.le_refl _) (ar W2 _ (a8 zeroP) 28).1)) ?_;intro W3 hW3;obtain ⟨gR, g4⟩ : ∃ g, W2.heap.size = g := ⟨_, rfl⟩;rw [g4] at hW3 ⊢;have q1 : W1.heap.size ≤ gR := by rw [← g4]; exact ch.out.bel.size
 have q2 : gR < W3.heap.size := (hW3.at (g := gR) (cs := a8 zeroP) (t := 28) (by simp)).lt;have jo := zH hW3;obtain ⟨h0, j0⟩ : ∃ h, h = List.replicate 256 zeroI := ⟨_, rfl⟩;have hl := zH j0;have a5 := hW3.add (g := W3.heap.size) (cs := cu h0) (t := 62) ((Below.refl _ _).alloc (Nat.le_refl _) (.cells (cu h0).toArray 62)) (Nat.le_refl _) (Blk.new W3 (cu h0) 62);have dg := zH a5;clear hW3 g4 ch a5 j0
 go_upto_region 6 with (first | (refine a9 rfl (Ms hl.out rfl rfl) ?_) | fail)
 refine (fun (k : ∀ W, Fr W1 D sh0 [(W3.heap.size, cu h0, 62), (gR, a8 zeroP, 28)] W → Code.wp _ _ _ _ W) => k _ dg.out) ?_;intro W4 hW4;obtain ⟨gH, iw⟩ : ∃ g, W3.heap.size = g := ⟨_, rfl⟩;rw [iw] at hW4 q2 ⊢;have q3 : gH < W4.heap.size := (hW4.at (g := gH) (cs := cu h0) (t := 62) (by simp)).lt;have gy := zH (hW4.at (g := gR) (cs := a8 zeroP) (t := 28) (by simp));have c0 := zH (hW4.add (g := W4.heap.size) (cs := a8 zeroP) (t := 28) ((Below.refl _ _).alloc (Nat.le_refl _) (.cells (a8 zeroP).toArray 28)) (Nat.le_refl _) (Blk.new W4 (a8 zeroP) 28));clear hW4 iw jo dg
 go_upto_region 7 with (first | (refine a9 rfl (ax ak gy.out rfl rfl) ?_) | (refine a9 rfl (Aa zeroP rfl rfl ak) ?_) | fail)
 refine (fun (k : ∀ W, Fr W1 D sh0 [(W4.heap.size, a8 zeroP, 28), (gH, cu h0, 62), (gR, a8 zeroP, 28)] W → Code.wp _ _ _ _ W) => k _ c0.out) ?_;intro W5 hW5;obtain ⟨gr, d3⟩ : ∃ g, W4.heap.size = g := ⟨_, rfl⟩;rw [d3] at hW5 q3 ⊢;have q4 : gr < W5.heap.size := (hW5.at (g := gr) (cs := a8 zeroP) (t := 28) (by simp)).lt;have di := zH (hW5.add (g := W5.heap.size) (cs := [.slice (some ⟨gH, 0, none⟩) 256 256]) (t := 51) ((Below.refl _ _).alloc (Nat.le_refl _) (.cells [Value.slice (some ⟨gH, 0, none⟩) 256 256].toArray 51)) (Nat.le_refl _) (Blk.new W5 [.slice (some ⟨gH, 0, none⟩) 256 256] 51));clear hW5 d3 c0 gy
 go_upto_region 8 with (first | (refine a9 rfl (Eh rfl rfl) ?_) | fail)
 refine (fun (k : ∀ W, Fr W1 D sh0 [(W5.heap.size, [.slice (some ⟨gH, 0, none⟩) 256 256], 51), (gr, a8 zeroP, 28), (gH, cu h0, 62), (gR, a8 zeroP, 28)] W → Code.wp _ _ _ _ W) => k _ di.out) ?_;intro W6 hW6;obtain ⟨gm, iz⟩ : ∃ g, W5.heap.size = g := ⟨_, rfl⟩;rw [iz] at hW6 q4 ⊢;have a3 := zH (Vu hl.out hW6 ⟨q1, by omega, by omega⟩ ⟨by omega, by omega, by omega, by omega, by omega, by omega⟩);clear hW6 iz di q2 q3 q4
 go_wp2_with fail
 go_loopw [5, 6, 7, 8] (fun hv rv mv i wr => ∃ (k : Nat) (s : Sh) (a7 : List Rt) (r : Rt) (rb mb K : Bxs), k ≤ N ∧ i = .int .i64 (k : Int) ∧ hv = r.v ∧ UmS W1 D gR s k a7 r rv mv rb mb K wr) (fun _ _ _ i _ => N - (intOf i).toNat)
 case atStart => exact ⟨0, sh0, [], _, _, _, _, by omega, rfl, rfl, a3.out⟩
 case round =>
  clear a3;obtain ⟨k, s, a7, r, rb, mb, K, hk, rfl, rfl, b9⟩ := hrel;have a3 := zH b9;obtain ⟨jf, b1, rfl⟩ := b9.roots.form;obtain ⟨je, bo, rfl⟩ := b9.maps.form;clear b9;have km := IntWalk.i64_in ((k : Int) + 1) (by have := HS.out.1; omega);by_cases hlt : k < N
  ·obtain ⟨root, hv, hh, mids, v⟩ := r
   have c9 := a3.out.rcs ⟨root, hv, hh, mids, v⟩ (by simp);obtain ⟨gH, cH, ja, e0⟩ := c9.2.form;simp only at ja;subst ja;have cy : Hid (IsTab s.blocks root hv hh mids) := zH c9.1;have c3 : Hid root.OK := zH cy.out.root;have ht : Hid (MapI K (.slice (some ⟨gH, 0, none⟩) 256 cH) hv) := zH c9.2;have f8 : Hid (256 ≤ cH) := zH e0;obtain ⟨⟨al, bn, ad⟩, ha⟩ : ∃ a, l[k]? = some a := ⟨_, List.getElem?_eq_getElem (by have := HN.out; omega)⟩;obtain ⟨ga, oa, rfl, ix, c6⟩ := gv.out.2 (by have := HN.out; omega);have ah : Hid (Jo W1 ⟨al, bn, ad⟩) := zH (gv.out.1 _ (List.mem_of_getElem? ha));obtain ⟨M, hM⟩ : ∃ M, al.length = M := ⟨_, rfl⟩;have HM := zH hM;have bg : Hid (M ≤ 30) := zH (by rw [← hM]; exact HS.out.2 _ (List.mem_of_getElem? ha));have et : Hid (k < N ∧ N ≤ cap) := zH ⟨hlt, by have := HC.out; rw [HN.out] at this; exact this⟩
   have eu : Hid (∀ X, Below W1.heap.size W1 X → X.cell? ⟨ga, oa + k, none⟩ = some (.slice bn M ad)) := zH fun X hX => by
    rw [hX.cell (p := ⟨ga, oa + k, none⟩) ix];have := c6 k _ ha 0 _ rfl;rw [hM] at this;exact this
   have HF := zH a3.out.fr;obtain ⟨BS, cl⟩ : ∃ b, (gR, a8 root, 28) :: (rb ++ (mb ++ K)) = b := ⟨_, rfl⟩;simp only at HF;rw [cl] at HF;have bc := zH cl;clear c9 e0 ha ix c6 cl hM;obtain ⟨vS, bq, -⟩ := HF.out.cells;have c2 := bq.cell (j := 2) rfl;have f2 := bq.free 2;obtain ⟨s1, el⟩ : ∃ x : Sh, { s with made := [] } = x := ⟨_, rfl⟩;have g2 := Xs HF.out;rw [el] at g2;have h9 := zH g2;clear bq g2
   go_upto_region 12 with fail
   refine (fun (k' : ∀ W, Fr W1 D s1 BS W → Code.wp _ _ _ _ W) => k' _ h9.out) ?_;intro W2 hX2;have ch := zH hX2;clear c2 f2 h9 HF hX2;have ji : Hid (∀ s' X, Fr W1 D s' BS X → Blk X gR (a8 root) 28) := zH fun s' X hX => hX.at (by rw [← bc.out]; simp)
   have cj : Hid (∀ bs' X, Fr W1 D s1 bs' X → Calls Tryz.prog 16 #[.slice bn M ad] X fun e Y => ∃ v, e = .returned v ∧ ∃ lb, RowB 76 45 lb v M (trI al) ∧ Fr W1 D s1 (lb ++ bs') Y) := zH fun bs' X hX => by
    have h := Jh al ah.out.2.2 bn ad ah.out.2.1 (by rw [HM.out]; have := bg.out; omega) X (iv ah.out.1 hX.bel);rw [HM.out] at h;refine h.mono ?_;rintro e Y ⟨v, e1, ho, hb⟩;obtain ⟨lb, h1, h2⟩ := RowB.of ho;rw [HM.out] at h1;exact ⟨v, e1, lb, h1, a0o hX hb (fun y hy => ⟨(h2 y hy).1, (ho.lt _ (h2 y hy).2).1⟩)⟩
   have j2 : Lim (23000 * k) s1 := (by rw [← el]; exact ⟨a3.out.lim.rd, by simp, a3.out.lim.gn, a3.out.lim.n, a3.out.lim.bl, a3.out.lim.bd, a3.out.lim.rm⟩);have cn : BlkOK s1 := (by rw [← el]; exact a3.out.bk);obtain ⟨t2, gp⟩ : ∃ x, (tsR s1 root al).s = x := ⟨_, rfl⟩;obtain ⟨p2, g8⟩ : ∃ x, (tsR s1 root al).p = x := ⟨_, rfl⟩;obtain ⟨e2, g3⟩ : ∃ x, (tsR s1 root al).e = x := ⟨_, rfl⟩
   have bi : Hid (∀ bs' lb X v, Fr W1 D s1 bs' X → RowB 76 45 lb v M (trI al) → (∀ y ∈ lb, y ∈ bs') → Calls Tryz.prog 15 #[shI D, .agg (a8 root).toArray, v] X fun e Y => e = .returned (.tuple #[.agg (a8 p2).toArray, .int .i64 (e2 : Int)]) ∧ Fr W1 D t2 bs' Y ∧ Lim (23000 * k + 3715) t2 ∧ p2.OK) := zH fun bs' lb X v hX hr hsub => by
    have h := Kz hX root c3.out al ah.out.2.2 (by rw [HM.out]; have := bg.out; omega) (by rw [HM.out]; exact hr) hsub j2 (by have := HS.out.1; omega) cn;rw [gp, g8, g3] at h;exact h
   have fm := zH gp; have jx := zH g8; have hg := zH g3; have c5 := zH el; have f7 := zH cn;have ce : ∃ s2, Fr W1 D s2 BS W2.drew := ⟨s1, ch.out.drew⟩;have a4 := zH ch.out.drew;clear j2 cn gp g8 g3 el;refine Zh (fun u g W => Fr W1 D t2 ((g, a8 p2, 28) :: BS) W ∧ Lim (23000 * k + 3715) t2 ∧ p2.OK ∧ W1.heap.size ≤ g) ?_;apply Exists.intro;constructor;refine ci (.take 0 (.take 1 (.take 2 (.take 3 (.take 4 (.take 5 (.take 6 (.take 7 (.fork 8 (.fork 9 (.take 10 (.take 11 (.take 12 (.step 13 (.step 14 (.take 15 (.nil))))))) 13 (.step 9 (.take 10 (.take 11 (.take 12 (.step 14 (.take 15 (.nil)))))))) 13 (.step 8 (.step 9 (.take 10 (.take 11 (.take 12 (.step 14 (.take 15 (.nil))))))))))))))))) (by kernel_rfl) (by kernel_rfl) (fun d _ _ _ _ h => by cases h.1) (fun X => ∃ s2, Fr W1 D s2 BS X) (ce) ?_;refine gT (.pointer (some ⟨D, 0, none⟩)) ?_;refine gT (shI D) ?_;refine gU (.agg (a8 root).toArray) rfl (fun X hX => ax c3.out (ji.out _ _ hX.choose_spec) rfl rfl) ?_;refine gT (.slice (some ⟨ga, oa, none⟩) N cap) ?_;refine gT (.int .i64 (k : Int)) ?_;refine gU (.pointer (some ⟨ga, oa + k, none⟩)) rfl (fun X hX => rq rfl rfl rfl et.out) ?_;refine gT (.pointer (some ⟨ga, oa + k, none⟩)) ?_;refine gU (.slice bn M ad) rfl (fun X hX => rx rfl rfl (eu.out _ hX.choose_spec.bel)) ?_;refine i8 ?_ ?_
   ·refine b8 _ rfl (by rfl) 16 #[.slice bn M ad] (fun X => by go_simp) (fun u X => ∃ lb, RowB 76 45 lb u M (trI al) ∧ Fr W1 D s1 (lb ++ BS) X) ((cj.out _ _ a4.out).mono fun e X ⟨v, e1, lb, h1, h2⟩ => ⟨v, e1, ⟨_, h2.sub (fun y hy => by simp [hy])⟩, lb, h1, h2⟩) ?_
    rintro u X3 gj ⟨lb, ej, ae⟩;have a4 := zH ae;have ev := zH ej;refine ⟨_, fun _ h => h, gj, ?_⟩;clear ae ej; try simp only [pS]
    refine i8 ?_ ?_
    ·refine b8 _ rfl (by rfl) 15 #[shI D, .agg (a8 root).toArray, u] (fun X => by go_simp) (fun v X => v = .tuple #[.agg (a8 p2).toArray, .int .i64 (e2 : Int)] ∧ Fr W1 D t2 (lb ++ BS) X ∧ Lim (23000 * k + 3715) t2 ∧ p2.OK) ((bi.out _ _ _ _ a4.out ev.out (fun y hy => by simp [hy])).mono fun e X ⟨e1, h2, h3, h4⟩ => ⟨_, e1, ⟨_, h2.sub (fun y hy => by simp [hy])⟩, rfl, h2, h3, h4⟩) ?_
     rintro v X4 em ⟨rfl, ae, b4, c8⟩;clear a4;have a4 := zH ae;have dj := zH b4; have av := zH c8;refine ⟨_, fun _ h => h, em, ?_⟩;clear ae b4 c8; try simp only [pS]
     refine gT (.tuple #[.agg (a8 p2).toArray, .int .i64 (e2 : Int)]) ?_;refine gT (.agg (a8 p2).toArray) ?_;refine gT (.int .i64 (e2 : Int)) ?_;obtain ⟨g9, ab⟩ : ∃ g, (X4).heap.size = g := ⟨_, rfl⟩;have a5 := a4.out.add (g := g9) (cs := a8 zeroP) (t := 28) ((Below.refl _ _).alloc (Nat.le_refl _) (.cells (a8 zeroP).toArray 28)) (by rw [← ab]; exact Nat.le_refl _) (by rw [← ab]; exact Blk.new _ (a8 zeroP) 28);refine Au _ rfl (by rfl) (.pointer (some ⟨g9, 0, none⟩)) _ (Hk ab Jn rfl) (fun X => ∃ s2, Fr W1 D s2 BS X) ⟨_, a5.sub (fun y hy => by simp [hy])⟩ (fun _ h => h) ?_;have am : Hid (W1.heap.size ≤ g9 ∧ ∀ z ∈ (lb ++ BS), z.1 ≠ g9) := zH ⟨by rw [← ab]; exact a4.out.bel.size, fun z hz e => by have := (a4.out.bx z hz).lt; rw [e, ab] at this; omega⟩;clear a4;have a4 := zH a5;clear a5 ab; try simp only [pS]
     have ao : Hid (Fr W1 D t2 ((g9, a8 zeroP, 28) :: BS) _) := zH (a4.out.sub (fun y hy => by simp only [List.mem_cons, List.mem_append] at hy ⊢; rcases hy with h | h <;> simp [h]));have dt := ao.out.at (g := g9) (cs := a8 zeroP) (t := 28) (by simp);have ag := Cw (cs' := a8 p2) ao.out am.out.1 (fun z hz => am.out.2 z (by simp [hz]));refine kp _ rfl (by rfl) 28 (.tmp 9) (.tmp 51) rfl g9 (a8 p2).toArray rfl rfl dt (bh av.out) (by rw [List.size_toArray, aa av.out, aa ak]) (bb p2) (fun X => ∃ s2, Fr W1 D s2 BS X) (fun _ h => h) ⟨_, ag.sub (fun y hy => by simp [hy])⟩ ?_; try simp only [pS]
     refine gT (.int .i64 (e2 : Int)) ?_;refine au ?_;exact ⟨rfl, u, g9, rfl, ag, dj.out, av.out, am.out.1⟩
    ·obtain ⟨g9, ab⟩ : ∃ g, (X3).heap.size = g := ⟨_, rfl⟩
     have a5 := a4.out.add (g := g9) (cs := a8 zeroP) (t := 28) ((Below.refl _ _).alloc (Nat.le_refl _) (.cells (a8 zeroP).toArray 28)) (by rw [← ab]; exact Nat.le_refl _) (by rw [← ab]; exact Blk.new _ (a8 zeroP) 28);refine Au _ rfl (by rfl) (.pointer (some ⟨g9, 0, none⟩)) _ (Hk ab Jn rfl) (fun X => ∃ s2, Fr W1 D s2 BS X) ⟨_, a5.sub (fun y hy => by simp [hy])⟩ (fun _ h => h) ?_;have am : Hid (W1.heap.size ≤ g9 ∧ ∀ z ∈ (lb ++ BS), z.1 ≠ g9) := zH ⟨by rw [← ab]; exact a4.out.bel.size, fun z hz e => by have := (a4.out.bx z hz).lt; rw [e, ab] at this; omega⟩;clear a4;have a4 := zH a5;clear a5 ab; try simp only [pS]
     refine b8 _ rfl (by rfl) 15 #[shI D, .agg (a8 root).toArray, u] (fun X => by go_simp) (fun v X => v = .tuple #[.agg (a8 p2).toArray, .int .i64 (e2 : Int)] ∧ Fr W1 D t2 ((g9, a8 zeroP, 28) :: (lb ++ BS)) X ∧ Lim (23000 * k + 3715) t2 ∧ p2.OK) ((bi.out _ _ _ _ a4.out ev.out (fun y hy => by simp [hy])).mono fun e X ⟨e1, h2, h3, h4⟩ => ⟨_, e1, ⟨_, h2.sub (fun y hy => by simp [hy])⟩, rfl, h2, h3, h4⟩) ?_;rintro v X4 em ⟨rfl, ae, b4, c8⟩;clear a4;have a4 := zH ae;have dj := zH b4; have av := zH c8;refine ⟨_, fun _ h => h, em, ?_⟩;clear ae b4 c8; try simp only [pS]
     refine gT (.tuple #[.agg (a8 p2).toArray, .int .i64 (e2 : Int)]) ?_;refine gT (.agg (a8 p2).toArray) ?_;refine gT (.int .i64 (e2 : Int)) ?_;have ao : Hid (Fr W1 D t2 ((g9, a8 zeroP, 28) :: BS) _) := zH (a4.out.sub (fun y hy => by simp only [List.mem_cons, List.mem_append] at hy ⊢; rcases hy with h | h <;> simp [h]));have dt := ao.out.at (g := g9) (cs := a8 zeroP) (t := 28) (by simp);have ag := Cw (cs' := a8 p2) ao.out am.out.1 (fun z hz => am.out.2 z (by simp [hz]));refine kp _ rfl (by rfl) 28 (.tmp 9) (.tmp 51) rfl g9 (a8 p2).toArray rfl rfl dt (bh av.out) (by rw [List.size_toArray, aa av.out, aa ak]) (bb p2) (fun X => ∃ s2, Fr W1 D s2 BS X) (fun _ h => h) ⟨_, ag.sub (fun y hy => by simp [hy])⟩ ?_; try simp only [pS]
     refine gT (.int .i64 (e2 : Int)) ?_;refine au ?_;exact ⟨rfl, u, g9, rfl, ag, dj.out, av.out, am.out.1⟩
   ·obtain ⟨g9, ab⟩ : ∃ g, (W2.drew).heap.size = g := ⟨_, rfl⟩
    have a5 := a4.out.add (g := g9) (cs := a8 zeroP) (t := 28) ((Below.refl _ _).alloc (Nat.le_refl _) (.cells (a8 zeroP).toArray 28)) (by rw [← ab]; exact Nat.le_refl _) (by rw [← ab]; exact Blk.new _ (a8 zeroP) 28);refine Au _ rfl (by rfl) (.pointer (some ⟨g9, 0, none⟩)) _ (Hk ab Jn rfl) (fun X => ∃ s2, Fr W1 D s2 BS X) ⟨_, a5.sub (fun y hy => by simp [hy])⟩ (fun _ h => h) ?_;have am : Hid (W1.heap.size ≤ g9 ∧ ∀ z ∈ BS, z.1 ≠ g9) := zH ⟨by rw [← ab]; exact a4.out.bel.size, fun z hz e => by have := (a4.out.bx z hz).lt; rw [e, ab] at this; omega⟩;clear a4;have a4 := zH a5;clear a5 ab; try simp only [pS]
    refine b8 _ rfl (by rfl) 16 #[.slice bn M ad] (fun X => by go_simp) (fun u X => ∃ lb, RowB 76 45 lb u M (trI al) ∧ Fr W1 D s1 (lb ++ ((g9, a8 zeroP, 28) :: (BS))) X) ((cj.out _ _ a4.out).mono fun e X ⟨v, e1, lb, h1, h2⟩ => ⟨v, e1, ⟨_, h2.sub (fun y hy => by simp [hy])⟩, lb, h1, h2⟩) ?_;rintro u X3 gj ⟨lb, ej, ae⟩;clear a4;have a4 := zH ae;have ev := zH ej;refine ⟨_, fun _ h => h, gj, ?_⟩;clear ae ej; try simp only [pS]
    refine b8 _ rfl (by rfl) 15 #[shI D, .agg (a8 root).toArray, u] (fun X => by go_simp) (fun v X => v = .tuple #[.agg (a8 p2).toArray, .int .i64 (e2 : Int)] ∧ Fr W1 D t2 (lb ++ ((g9, a8 zeroP, 28) :: (BS))) X ∧ Lim (23000 * k + 3715) t2 ∧ p2.OK) ((bi.out _ _ _ _ a4.out ev.out (fun y hy => by simp [hy])).mono fun e X ⟨e1, h2, h3, h4⟩ => ⟨_, e1, ⟨_, h2.sub (fun y hy => by simp [hy])⟩, rfl, h2, h3, h4⟩) ?_;rintro v X4 em ⟨rfl, ae, b4, c8⟩;clear a4;have a4 := zH ae;have dj := zH b4; have av := zH c8;refine ⟨_, fun _ h => h, em, ?_⟩;clear ae b4 c8; try simp only [pS]
    refine gT (.tuple #[.agg (a8 p2).toArray, .int .i64 (e2 : Int)]) ?_;refine gT (.agg (a8 p2).toArray) ?_;refine gT (.int .i64 (e2 : Int)) ?_;have ao : Hid (Fr W1 D t2 ((g9, a8 zeroP, 28) :: BS) _) := zH (a4.out.sub (fun y hy => by simp only [List.mem_cons, List.mem_append] at hy ⊢; rcases hy with h | h <;> simp [h]));have dt := ao.out.at (g := g9) (cs := a8 zeroP) (t := 28) (by simp);have ag := Cw (cs' := a8 p2) ao.out am.out.1 (fun z hz => am.out.2 z (by simp [hz]));refine kp _ rfl (by rfl) 28 (.tmp 9) (.tmp 51) rfl g9 (a8 p2).toArray rfl rfl dt (bh av.out) (by rw [List.size_toArray, aa av.out, aa ak]) (bb p2) (fun X => ∃ s2, Fr W1 D s2 BS X) (fun _ h => h) ⟨_, ag.sub (fun y hy => by simp [hy])⟩ ?_; try simp only [pS]
    refine gT (.int .i64 (e2 : Int)) ?_;refine au ?_;exact ⟨rfl, u, g9, rfl, ag, dj.out, av.out, am.out.1⟩
   rintro u g9 X4 ⟨ey, j3, j6, ab⟩;have dg := zH ey; have fd := zH j3; have aq : Hid p2.OK := zH j6; have am := zH ab;have g5 := Jj al ah.out.2.2 bn ad ah.out.2.1 (by rw [HM.out]; have := bg.out; omega) X4 (iv ah.out.1 ey.bel);rw [HM.out] at g5;have hm := zH g5;have h5 := zH (eu.out X4 ey.bel);clear ey j3 j6 ab g5 ce a4 ch cj bi
   go_wp2_with (first | (refine a9 rfl (rq rfl rfl rfl et.out) ?_) | (refine a9 rfl (rx rfl rfl h5.out) ?_) | fail)
   refine hm.out.mono ?_;rintro e X5 ⟨rfl, io⟩;have c0 := zH (dg.out.below io);clear io dg hm h5;obtain ⟨st, b9⟩ : ∃ b, ka al = b := ⟨_, rfl⟩;rw [b9];cases st
   case false =>
    obtain ⟨h1, h2, h3⟩ := Vt (s := s1) (p := root) b9;rw [hg.out] at h1;rw [fm.out] at h2;subst h1;have j5 : t2.made = [] := (by rw [h2, ← c5.out]);obtain ⟨vS, bq, ep, -, -, -⟩ := c0.out.cells;obtain ⟨cw, ay, dr, -⟩ := d6 ep;have c2 := bq.cell (j := 2) rfl;rw [dr, j5] at c2;have ea := fd.out.mono (b := 23000 * (k + 1)) (by omega) (by have := HS.out.1; omega)
    have en : UmS W1 D gR t2 (k + 1) a7 ⟨root, hv, hh, mids, .slice (some ⟨gH, 0, none⟩) 256 cH⟩ (.slice jf a7.length.succ b1) (.slice je a7.length.succ bo) rb mb K X5 := by
     have h6 : t2.blocks = s.blocks := (by rw [h2, ← c5.out]);have h7 : t2.bad = s.bad := (by rw [h2, ← c5.out]);have h8 : t2.room = s.room := (by rw [h2, ← c5.out]);have o := a3.out;refine ⟨c0.out.sub (fun y hy => by rw [← bc.out]; exact List.mem_cons_of_mem _ hy), o.roots, o.maps, Nat.le_succ_of_le o.len, fun q hq => ?_, h7.trans o.bad, h8.trans o.room, ?_, fun b hb => o.bk b (by rw [← h6]; exact hb), ea, o.apR, o.apM, o.apG⟩
     ·rw [h6]; exact o.rcs q hq
     ·rw [h6]; have := o.bl; omega
    have k5 := zH en;clear h2 h3 j5 bq ep dr ea en b9
    go_wp2_with fail
    go_roundw
    case rel => exact ⟨k + 1, t2, a7, _, rb, mb, K, by omega, by go_num, rfl, k5.out⟩
    case measure => simp [intOf]; omega
   case true =>
    have ex : s1.blocks = s.blocks := (by rw [← c5.out]);have e8 : IsTab s1.blocks root hv hh mids := (by rw [ex]; exact cy.out);have se := Lz (l := al) e8 ah.out.2.2 b9 (by rw [← c5.out]; exact a3.out.bad) (by rw [← c5.out]; exact a3.out.room) (by rw [ex]; have := a3.out.bl; have := HS.out.1; omega);have it := se.e;have bu := se.pre;have bt := se.len;have g0 := se.bd;have gf := se.rm;obtain ⟨j1, cf, bv⟩ := se.tab;have a0 := se.same;have a6 := se.diff;rw [hg.out] at it;rw [fm.out] at bu bt g0 gf bv a0;rw [jx.out] at bv a0 a6;rw [ex] at bu bt;subst it;have j4 : s1.made = [] := (by rw [← c5.out]);rw [j4] at a0;have dz : BlkOK t2 := (by rw [← fm.out]; exact Vs ah.out.2.2 f7.out c3.out);have fk := zH bu; have fe := zH bt; have d8 := zH g0; have fl := zH gf; have aw := zH bv; have dm := zH a0; have dc := zH a6; have d9 := zH dz; have dn := zH b9;clear ex e8 se bu bt g0 gf bv a0 a6 dz j4 b9
    go_upto_region 16 with fail
    have ij : ∀ y ∈ K, y ∈ (g9, a8 p2, 28) :: BS := fun y hy => by rw [← bc.out]; simp [hy]
    obtain ⟨-, fz, fx, ce⟩ := ht.out;have ed := c0.out.row fx (fun y hy => ij y (ce y hy));obtain ⟨xv, X6, xb, j7, jb, iu, im⟩ := Hq a06 (rb := []) (bs := (g9, a8 p2, 28) :: BS) (v := .slice none 0 0) (n := 0) (xs := []) (ys := cu hv) (g := gH) (c := cH) (m := 256) c0.out ⟨rfl, .inl ⟨rfl, rfl, rfl⟩⟩ (fun y hy => by simp at hy) (by omega) (Below.refl _ _) fx.1 (ed.cells rfl) (Hv hv);have d5 := zH j7;have fo := zH jb;have di := zH iu;have gw := zH im;clear ij fx ce ed j7 jb iu im c0
    go_upto_region 17 with (first | (at_builtin; refine a9 rfl (Rm rfl rfl rfl d5.out) ?_) | fail)
    obtain ⟨gX, cX, fs, rfl, rfl, kc⟩ := fo.out.big (by omega);have f9 : Hid (256 ≤ cX) := zH (by omega);have fp : Hid (W1.heap.size ≤ gX ∧ ∀ z ∈ (g9, a8 p2, 28) :: BS, z.1 ≠ gX) := zH (gw.out (gX, fs, 62) (by simp));have ie : Hid (RowB 62 44 [(gX, fs, 62)] (.slice (some ⟨gX, 0, none⟩) 256 cX) 256 (cu (jj hv (al.take 0)))) := zH fo.out;clear kc gw fo d5;rw [show (0 + 256 : Nat) = 256 from rfl];have fn : Hid (hv.length = 256) := zH cy.out.len
    go_wp2_with fail
    go_loopw [12, 13] (fun sm j wr => ∃ (k2 : Nat) (cs : List Value), k2 ≤ M ∧ j = .int .i64 (k2 : Int) ∧ sm = .bool (y7 hv (al.take k2)) ∧ RowB 62 44 [(gX, cs, 62)] (.slice (some ⟨gX, 0, none⟩) 256 cX) 256 (cu (jj hv (al.take k2))) ∧ Fr W1 D t2 ((gX, cs, 62) :: (g9, a8 p2, 28) :: BS) wr) (fun _ j _ => M - (intOf j).toNat)
    case atStart => exact ⟨0, fs, by omega, rfl, rfl, ie.out, di.out⟩
    case round =>
     clear ie di;obtain ⟨k2, cs, kf, rfl, rfl, ek, ae⟩ := hrel;have ew := zH ek; have ba := zH ae;have gz := zH (eu.out _ ae.bel);clear ek ae;have kn := IntWalk.i64_in ((k2 : Int) + 1) (by have := bg.out; omega);by_cases hlm : k2 < M
     ·obtain ⟨⟨xn, xi⟩, hx⟩ : ∃ x, al[k2]? = some x := ⟨_, List.getElem?_eq_getElem (by have := HM.out; omega)⟩
      have gq := List.mem_of_getElem? hx;have k6 : Hid (Itm.OK (xn, xi)) := zH (ah.out.2.2 _ gq);have bm : Hid xi.OK := zH k6.out.2
      have eo : xn < 256 := by
       have := (rc dn.out _ gq).1;unfold df at this;simp at this;omega
      have ih : Hid (xn < 256 ∧ 256 ≤ cX) := zH ⟨eo, f9.out⟩;have fq : Hid (xn < 256 ∧ 256 ≤ cH) := zH ⟨eo, f8.out⟩;have gl := iv ah.out.1 ba.out.bel;obtain ⟨gI, oI, gk, -⟩ := gl (by show 0 < al.length; have := HM.out; omega);have gk : bn = some ⟨gI, oI, none⟩ := gk;subst gk;have ii := zH (vn gl hx);have js : Hid (k2 < M ∧ M ≤ ad) := zH ⟨hlm, by have h : al.length ≤ ad := ah.out.2.1; rw [HM.out] at h; exact h⟩;obtain ⟨n0, hn0⟩ : ∃ n, hv[xn]? = some n := ⟨_, List.getElem?_eq_getElem (by rw [fn.out]; exact eo)⟩;have hw : Hid n0.OK := zH (cy.out.ok n0 (List.mem_of_getElem? hn0));have iy : hv.getD xn zeroI = n0 := (by rw [List.getD_eq_getElem?_getD, hn0]; rfl);obtain ⟨cz, co⟩ : ∃ b, eqI n0 xi = b := ⟨_, rfl⟩;have jn := zH co;have b7 := Iu (hv := hv) hx;rw [show (hv.getD (xn, xi).1 zeroI) = n0 from iy, show eqI n0 (xn, xi).2 = cz from co] at b7;have i6 := zH b7;obtain ⟨ir, cb⟩ := ew.out.putI (by rw [vj]; exact fn.out) (Z2 cy.out.ok (fun y hy => ah.out.2.2 y (List.mem_of_mem_take hy))) eo bm.out
      have cd : RowB 62 44 [(gX, cs.take (xn * 44) ++ af xi ++ cs.drop (xn * 44 + (af xi).length), 62)] (.slice (some ⟨gX, 0, none⟩) 256 cX) 256 (cu (jj hv (al.take (k2 + 1)))) := by
       rw [Py hx]; exact cb
      have dl := zH cd; have hd := zH ir;have jq : Hid (∀ X bs', Fr W1 D t2 bs' X → (∀ y ∈ (gX, cs, 62) :: (g9, a8 p2, 28) :: BS, y ∈ bs') → X.rangeAt gH (xn * 44) (af n0)) := zH fun X bs' hX hsub => (ht.out.src hX (fun y hy => hsub y (by rw [← bc.out]; simp [hy])) cy.out.ok).2 xn n0 hn0
      have ic : Hid ((tcI (xn, xi)).toArray.size = 45) := zH (by rw [List.size_toArray, bw bm.out])
      have jw : Hid ((tcI (xn, xi)).toArray.all (·.oneCell') = true) := zH (by
       rw [Array.all_eq_true_iff_forall_mem];intro u hu;rcases List.mem_cons.1 (by simpa [tcI] using hu) with rfl | h
       ·rfl
       ·exact tq xi u h)
      clear hx gq eo gl hn0 iy co b7 ir cb cd
      go_upto_region 22 with (first | (refine a9 rfl (rq rfl rfl rfl et.out) ?_) | (refine a9 rfl (rx rfl rfl gz.out) ?_) | (refine a9 rfl (dy rfl rfl rfl js.out) ?_) | (refine a9 rfl (Xi bm.out ii.out rfl rfl) ?_) | (refine wpList_store_row rfl 64 (.tmp 14) (.tmp 88) rfl wr.heap.size (tcI (xn, xi)).toArray rfl rfl 64 _ (heap_alloc_new wr _) (by rw [ic.out]; exact V6) (by rw [ic.out]; rfl) jw.out ?_) | fail)
      refine (fun (k' : ∀ W, Fr W1 D t2 ((wr.heap.size, tcI (xn, xi), 64) :: (gX, cs, 62) :: (g9, a8 p2, 28) :: BS) W → Code.wp _ _ _ _ W) => k' _ (ba.out.add (ar wr _ (tcI (xn, xi)) 64).2 (Nat.le_refl _) (ar wr _ (tcI (xn, xi)) 64).1)) ?_;intro X8 hf8;obtain ⟨d0, e7⟩ : ∃ g, wr.heap.size = g := ⟨_, rfl⟩;rw [e7] at hf8 ⊢;have kq := zH hf8;have ft := hf8.at (g := d0) (cs := tcI (xn, xi)) (t := 64) (by simp);have gi : Blk X8.drew d0 (tcI (xn, xi)) 64 ∧ X8.drew.rangeAt gH (xn * 44) (af n0) := ⟨ft.drew, jq.out _ _ hf8.drew (fun y hy => by simp only [List.mem_cons] at hy ⊢; exact .inr hy)⟩;have cq := hf8.drew;have fu := ft.drew;have ao : Hid (Fr W1 D t2 ((gX, cs, 62) :: (g9, a8 p2, 28) :: BS) X8.drew) := zH (cq.sub (fun y hy => by simp only [List.mem_cons] at hy ⊢; exact .inr hy));have ai := zH (Se ao.out fp.out.1 fp.out.2 hd.out);have ip := ao.out.at (g := gX) (cs := cs) (t := 62) (by simp);have ia : Hid (X8.drew.there gX (xn * 44) (af xi).toArray.size) := zH (ip.there _ _ (by rw [List.size_toArray]; exact hd.out));have aj := zH gi;clear hf8 e7 ft cq fu ip ba gz ew ii;obtain ⟨b0, fz⟩ : ∃ b, y7 hv (al.take k2) = b := ⟨_, rfl⟩;have b5 := i6.out;rw [fz] at b5 ⊢;obtain ⟨jd, b6⟩ : ∃ b, (b0 && cz) = b := ⟨_, rfl⟩;rw [b6] at b5;have i5 := zH b5;have kr : (tcI (xn, xi))[0]? = some (.int .u16 (xn : Int)) := rfl;clear b5 fz i6;cases b0
      case true =>
       have ct : cz = jd := (by simpa using b6);subst ct;clear b6;refine gS (.take 0 (.take 1 (.take 2 (.take 3 (.take 4 (.take 5 (.take 6 (.take 7 (.take 8 (.take 9 (.take 10 (.take 11 (.nil))))))))))))) (fun X => Blk X d0 (tcI (xn, xi)) 64 ∧ X.rangeAt gH (xn * 44) (af n0)) (aj.out) ?_;refine gT (.bool true) ?_;refine gT (.bool true) ?_;refine gT (.slice (some ⟨gH, 0, none⟩) 256 cH) ?_;refine gU (.pointer (some ⟨d0, 0, none⟩)) rfl (fun X hX => ro (.inl rfl) rfl rfl) ?_;refine gU (.int .u16 (xn : Int)) rfl (fun X hX => az Tryz.underlying23 rfl rfl (hX.1.cell (Aq xn xi))) ?_;refine gU (.pointer (some ⟨gH, xn * 44, none⟩)) rfl (fun X hX => Cq rfl rfl rfl fq.out) ?_;refine gU (.agg (af n0).toArray) rfl (fun X hX => ez hw.out hX.2 rfl rfl) ?_;refine gU (.pointer (some ⟨d0, 1, none⟩)) rfl (fun X hX => ro (.inr rfl) rfl rfl) ?_;refine gU (.agg (af xi).toArray) rfl (fun X hX => ez bm.out (su hX.1) rfl rfl) ?_;refine gU (.bool cz) rfl (fun X hX => ua jn.out rfl rfl rfl hw.out bm.out) ?_;refine gT (.bool cz) ?_;refine gT (.bool cz) ?_;refine au ?_
       go_wp2_with (first | (refine a9 rfl (ro (.inl rfl) rfl rfl) ?_) | (refine a9 rfl (az Tryz.underlying23 rfl rfl (aj.out.1.cell (Aq xn xi))) ?_) | (refine a9 rfl (ro (.inr rfl) rfl rfl) ?_) | (refine a9 rfl (ez bm.out (su aj.out.1) rfl rfl) ?_) | (refine a9 rfl (Cq rfl rfl rfl ih.out) ?_) | (refine wpList_store_mid rfl 62 (.tmp 105) (.tmp 104) rfl gX (xn * 44) (af xi).toArray rfl rfl ia.out (G6 bm.out) (fj xi) ?_) | fail)
       go_roundw
       case rel => exact ⟨k2 + 1, _, by omega, by go_num, by rw [i5.out], dl.out, ai.out⟩
       case measure => simp [intOf]; omega
      case false =>
       have ct : jd = false := (by simpa using b6.symm);subst ct;clear b6;refine gS (.take 0 (.take 1 (.take 2 (.take 3 (.take 4 (.take 5 (.take 6 (.take 7 (.take 8 (.take 9 (.take 10 (.take 11 (.nil))))))))))))) (fun X => Blk X d0 (tcI (xn, xi)) 64 ∧ X.rangeAt gH (xn * 44) (af n0)) (aj.out) ?_;refine gT (.bool false) ?_;refine gT (.bool false) ?_;refine gP ?_;refine gP ?_;refine gP ?_;refine gP ?_;refine gP ?_;refine gP ?_;refine gP ?_;refine gP ?_;refine gT (.bool false) ?_;refine gT (.bool false) ?_;refine au ?_
       go_wp2_with (first | (refine a9 rfl (ro (.inl rfl) rfl rfl) ?_) | (refine a9 rfl (az Tryz.underlying23 rfl rfl (aj.out.1.cell (Aq xn xi))) ?_) | (refine a9 rfl (ro (.inr rfl) rfl rfl) ?_) | (refine a9 rfl (ez bm.out (su aj.out.1) rfl rfl) ?_) | (refine a9 rfl (Cq rfl rfl rfl ih.out) ?_) | (refine wpList_store_mid rfl 62 (.tmp 105) (.tmp 104) rfl gX (xn * 44) (af xi).toArray rfl rfl ia.out (G6 bm.out) (fj xi) ?_) | fail)
       go_roundw
       case rel => exact ⟨k2 + 1, _, by omega, by go_num, by rw [i5.out], dl.out, ai.out⟩
       case measure => simp [intOf]; omega
     ·obtain rfl : M = k2 := by omega
      clear hlm kf kn;have j9 : al.take M = al := (by rw [← HM.out, List.take_length]);have gh := ew.out;rw [j9] at gh ⊢;have ig := zH gh;obtain ⟨d4, f0⟩ : ∃ x, jj hv al = x := ⟨_, rfl⟩;rw [f0] at ig aw;have cv := Pw (hv := hv) fn.out dn.out;rw [f0] at cv;have a0 := dm.out;have a6 := dc.out;rw [f0] at a0 a6;have ap : Hid (d4.length = 256 ∧ ∀ n ∈ d4, n.OK) := zH ⟨aw.out.len, aw.out.ok⟩;have fi : Hid (MapI ((gX, cs, 62) :: K) (.slice (some ⟨gX, 0, none⟩) 256 cX) d4) := zH ⟨ap.out.1, [(gX, cs, 62)], ig.out, fun y hy => by simp at hy; simp [hy]⟩;obtain ⟨vS, bq, ep, -, -, -⟩ := ba.out.cells;obtain ⟨cw, ay, dr, -⟩ := d6 ep;have c2 := bq.cell (j := 2) rfl;rw [dr] at c2;have dx := ba.out.at (g := g9) (cs := a8 p2) (t := 28) (by simp);have g1 := ba.out.at (g := gR) (cs := a8 root) (t := 28) (by rw [← bc.out]; simp);obtain ⟨X9, il⟩ : ∃ X, wr = X := ⟨_, rfl⟩;rw [il] at c2 dx g1 ba ⊢;have cx := zH dx; have db := zH g1;obtain ⟨sm, b5⟩ : ∃ b, y7 hv al = b := ⟨_, rfl⟩;rw [b5] at cv ⊢;clear j9 gh ew f0 bq ep dr dx g1 il b5;have jl := zH (eu.out _ ba.out.bel)
      go_upto_region 24 with (first | (refine a9 rfl (rq rfl rfl rfl et.out) ?_) | (refine a9 rfl (rx rfl rfl jl.out) ?_) | fail)
      go_cut [134] from 31 to 159 (fun s wx => s = .bool false ∧ X9 = wx)
      case first =>
       cases sm
       case true =>
        have hq := a0 (cv.1 rfl);have HQ : Hid (eqP p2 root = true) := zH (by rw [hq.1]; exact br _);rw [hq.2] at c2;have jk : Hid (X9.cell? ⟨D, 2, none⟩ = some (.slice cw 0 ay)) := zH c2;clear cv a0 a6 hq c2;refine wp_region_list (yp ?_);refine qV (.int .i64 0) ?_;refine qV (.bool false) ?_;refine qV (.bool false) ?_;refine qV (.bool true) ?_;refine qw (.agg (a8 p2).toArray) (by rfl) (ax aq.out cx.out rfl rfl) ?_; try simp only [pS]
        refine qw (.agg (a8 root).toArray) (by rfl) (ax c3.out db.out rfl rfl) ?_; try simp only [pS]
        refine qw (.bool true) (by rfl) (Ke HQ.out rfl rfl rfl aq.out c3.out) ?_; try simp only [pS]
        refine qV (.bool false) ?_;refine qV (.bool false) ?_;refine dh (by rfl) ?_; try simp only [pS]
        refine dh (by rfl) ?_; try simp only [pS]
        refine dh (by rfl) ?_; try simp only [pS]
        refine dh (by rfl) ?_; try simp only [pS]
        refine dh (by rfl) ?_; try simp only [pS]
        refine dh (by rfl) ?_; try simp only [pS]
        refine dh (by rfl) ?_; try simp only [pS]
        refine qV (.bool false) ?_;refine qV (.bool false) ?_;refine qV (.bool false) ?_;refine qV (.bool true) ?_;refine qV (.bool true) ?_;refine qV (.pointer (some ⟨D, 0, none⟩)) ?_;refine qV (.pointer (some ⟨D, 0, none⟩)) ?_;refine qV (.pointer (some ⟨D, 2, none⟩)) ?_;refine qw (.slice cw 0 ay) (by rfl) (ib rfl rfl jk.out) ?_; try simp only [pS]
        refine qV (.int .i64 0) ?_;refine qV (.bool false) ?_;refine qV (.bool false) ?_;refine qV (.bool false) ?_;refine ui ?_
        go_wp2_with fail
        go_meet
        exact ⟨rfl, rfl⟩
       case false =>
        have hq := a6 (fun e => by have := cv.2 e; cases this)
        have HQ : Hid (eqP p2 root = false) := zH (by
         cases h : eqP p2 root
         ·rfl
         ·exact absurd (rj.1 h) hq)
        clear cv a0 a6 hq c2;refine wp_region_list (yp ?_);refine qV (.int .i64 0) ?_;refine qV (.bool false) ?_;refine qV (.bool false) ?_;refine qV (.bool false) ?_;refine qw (.agg (a8 p2).toArray) (by rfl) (ax aq.out cx.out rfl rfl) ?_; try simp only [pS]
        refine qw (.agg (a8 root).toArray) (by rfl) (ax c3.out db.out rfl rfl) ?_; try simp only [pS]
        refine qw (.bool false) (by rfl) (Ke HQ.out rfl rfl rfl aq.out c3.out) ?_; try simp only [pS]
        refine qV (.bool false) ?_;refine qV (.bool false) ?_;refine dh (by rfl) ?_; try simp only [pS]
        refine dh (by rfl) ?_; try simp only [pS]
        refine dh (by rfl) ?_; try simp only [pS]
        refine dh (by rfl) ?_; try simp only [pS]
        refine dh (by rfl) ?_; try simp only [pS]
        refine dh (by rfl) ?_; try simp only [pS]
        refine dh (by rfl) ?_; try simp only [pS]
        refine qV (.bool false) ?_;refine qV (.bool false) ?_;refine qV (.bool false) ?_;refine qV (.bool false) ?_;refine qV (.bool false) ?_;refine dh (by rfl) ?_; try simp only [pS]
        refine dh (by rfl) ?_; try simp only [pS]
        refine dh (by rfl) ?_; try simp only [pS]
        refine dh (by rfl) ?_; try simp only [pS]
        refine dh (by rfl) ?_; try simp only [pS]
        refine dh (by rfl) ?_; try simp only [pS]
        refine qV (.bool false) ?_;refine qV (.bool false) ?_;refine ui ?_
        go_wp2_with fail
        go_meet
        exact ⟨rfl, rfl⟩
      case rest =>
       obtain ⟨rfl, rfl⟩ := hcut;clear cv a0 a6 c2
       go_wp2_with (first | (refine a9 rfl (ax aq.out cx.out rfl rfl) ?_) | fail)
       refine (Ar ba.out aw.out d8.out d9.out gX cX f9.out (fun s' bs' Y hY hsub => fi.out.src hY (fun y hy => by
        rcases List.mem_cons.1 hy with h | h
        ·exact hsub y (by simp [h])
        ·exact hsub y (by rw [← bc.out]; simp [h])) ap.out.2) fd.out (by have := HS.out.1; omega)).mono ?_
       rintro e k7 ⟨s3, rs, rfl, eb, cp, e9⟩;have ck := zH eb; have ai := zH cp;have fc := zH (e9.mono (b := 23000 * (k + 1)) (by omega) (by have := HS.out.1; omega))
       have jh := zH (Gg d4 ap.out.1 ap.out.2 gX cX f9.out k7 (fi.out.src cp (fun y hy => by
        rcases List.mem_cons.1 hy with h | h
        ·simp [h]
        ·rw [← bc.out]; simp [h]) ap.out.2))
       clear eb cp e9 ba fd
       go_wp2_with fail
       refine jh.out.mono ?_;rintro e k8 ⟨rfl, rfl⟩
       go_upto_region 29 with fail
       have k1 := zH (bh aq.out);have ju : Hid ((a8 p2).toArray.size = 41) := zH (by rw [List.size_toArray, aa aq.out]);have fh : Hid ((a8 root).toArray.size = 41) := zH (by rw [List.size_toArray, aa c3.out]);obtain ⟨aR, aM, aG⟩ := a09 (c1 := a8 p2) (cs := cs) bc.out a3.out.apR a3.out.apM a3.out.apG (fun z hz => fp.out.2 z (by simp [hz]));have jg := zH aR; have f3 := zH aM; have es := zH aG
       have cg : Hid (Fr W1 D s3 ((gR, a8 root, 28) :: (rb ++ (mb ++ ((gX, cs, 62) :: K)))) k8) := zH (ai.out.sub (fun y hy => by
        have hB : ∀ z : Nat × List Value × TypeId, z ∈ (gR, a8 root, 28) :: (rb ++ (mb ++ K)) → z ∈ BS := fun z hz => by rw [← bc.out]; exact hz
        simp only [List.mem_cons, List.mem_append] at hy ⊢;rcases hy with h | h | h | h | h
        ·exact .inr (.inr (hB y (by simp [h])))
        ·exact .inr (.inr (hB y (by simp [h])))
        ·exact .inr (.inr (hB y (by simp [h])))
        ·exact .inl h
        ·exact .inr (.inr (hB y (by simp [h])))))
       have d7 := zH (ai.out.at (g := g9) (cs := a8 p2) (t := 28) (by simp));have bz := zH (cg.out.at (g := gR) (cs := a8 root) (t := 28) (by simp));have dd := zH (Cw (cs' := a8 p2) cg.out (es.out (gR, a8 p2, 28) (by simp)).1 (es.out (gR, a8 p2, 28) (by simp)).2);clear aR aM aG
       go_upto_region 30 with (first | (refine a9 rfl (ax aq.out d7.out rfl rfl) ?_) | (refine wpList_store_row rfl 28 (.tmp 4) (.tmp 150) rfl gR (a8 p2).toArray rfl rfl 28 _ bz.out k1.out (by rw [ju.out, fh.out]) (bb p2) ?_) | fail)
       refine (fun (k' : ∀ W, Fr W1 D s3 ((gR, a8 p2, 28) :: (rb ++ (mb ++ ((gX, cs, 62) :: K)))) W → Code.wp _ _ _ _ W) => k' _ dd.out) ?_;intro X12 hX12;have da := zH (hX12.at (g := gR) (cs := a8 p2) (t := 28) (by simp));have j8 := a3.out.roots;have du : Below X12.heap.size X12 (X12.alloc (.cells (a8 p2).toArray 28)) := (Below.refl _ _).alloc (Nat.le_refl _) _;have i0 : Hid (a7.length ≤ 30) := zH (by have := a3.out.len; have := HS.out.1; omega)
       obtain ⟨ks, dp, gs, ef, ca, e4, dw⟩ := Hq a05 (rb := rb) (bs := (gR, a8 p2, 28) :: (mb ++ ((gX, cs, 62) :: K))) (ys := a8 p2) (g := X12.heap.size) (c := 1) (m := 1) (hX12.sub (fun y hy => by
        simp only [List.mem_cons, List.mem_append] at hy ⊢;rcases hy with h | h | h
        ·exact .inr (.inl h)
        ·exact .inl h
        ·exact .inr (.inr h))) j8 jg.out (by have := i0.out; omega) du (by rw [aa aq.out]) (fun j u hu => by
        have hB := (Blk.new X12 (a8 p2) 28).cell hu;rw [Addr.add_mid, Nat.zero_add]
        exact hB) (fun u hu => tu p2 u hu)
       have d5 := zH ef; have c4 := zH ca; have de := zH e4; have an := zH dw;clear hX12 j8 du ef ca e4 dw ai cg dd d7 bz
       go_upto_region 31 with (first | (refine a9 rfl (ax aq.out da.out rfl rfl) ?_) | (refine a9 rfl (Aa p2 rfl rfl aq.out) ?_) | (at_builtin; refine a9 rfl (rk rfl rfl rfl d5.out) ?_) | fail)
       obtain ⟨gu, dq, rfl⟩ := c4.out.form;have ec := a3.out.maps
       have ds : pg W1 mb ((gR, a8 p2, 28) :: (gs ++ ((gX, cs, 62) :: K))) := fun y hy => ⟨(f3.out y hy).1, fun z hz => by
        rcases List.mem_cons.1 hz with h | h
        ·exact (f3.out y hy).2 z (by simp [h])
        ·rcases List.mem_append.1 h with h | h
         ·exact fun e => (an.out z h).2 y (by simp [hy]) e.symm
         ·exact (f3.out y hy).2 z (by simp only [List.mem_cons, List.mem_append]; exact .inr (.inr (by simpa using h)))⟩
       have dv : Below dp.heap.size dp (dp.alloc (.cells #[.slice (some ⟨gX, 0, none⟩) 256 cX] 51)) := (Below.refl _ _).alloc (Nat.le_refl _) _
       obtain ⟨kl, k9, kk, eg, c7, e5, b2⟩ := Hq Wh (rb := mb) (bs := (gR, a8 p2, 28) :: (gs ++ ((gX, cs, 62) :: K))) (ys := [.slice (some ⟨gX, 0, none⟩) 256 cX]) (g := dp.heap.size) (c := 1) (m := 1) (de.out.sub (fun y hy => by
        simp only [List.mem_cons, List.mem_append] at hy ⊢;rcases hy with h | h | h | h
        ·exact .inr (.inr (.inl h))
        ·exact .inr (.inl h)
        ·exact .inl h
        ·exact .inr (.inr (.inr h)))) ec ds (by have := i0.out; omega) dv rfl (fun j u hu => by
        have hB := (Blk.new dp [.slice (some ⟨gX, 0, none⟩) 256 cX] 51).cell hu;rw [Addr.add_mid, Nat.zero_add]
        exact hB) (fun u hu => by simp only [List.mem_singleton] at hu; subst hu; rfl)
       have f4 := zH eg;have g6 : (a7 ++ [(⟨root, hv, hh, mids, .slice (some ⟨gH, 0, none⟩) 256 cH⟩ : Rt)]).length.succ = a7.length.succ + 1 := (by simp)
       have e6 : UmS W1 D gR s3 (k + 1) (a7 ++ [(⟨root, hv, hh, mids, .slice (some ⟨gH, 0, none⟩) 256 cH⟩ : Rt)]) ⟨p2, d4, j1, cf, .slice (some ⟨gX, 0, none⟩) 256 cX⟩ (.slice gu (a7.length.succ + 1) dq) kl gs kk ((gX, cs, 62) :: K) k9 := by
        have b3 := ck.out.bl;have gg : s3.room = t2.room := (by have := ck.out; unfold More at this; rw [this]);have ee : ∀ (j : Nat) (b : Bs), s.blocks[j]? = some b → s3.blocks[j]? = some b := fun j b hb => by rw [b3.1]; exact fk.out j b hb
        refine ⟨e5.sub (fun y hy => ?_), ?_, ?_, by rw [List.length_append]; have := a3.out.len; simp; omega, fun q hq => ?_, b3.2.trans d8.out, gg.trans fl.out, ?_, fun b hb => d9.out b (by rw [← b3.1]; exact hb), fc.out, fun y hy => ⟨(an.out y hy).1, fun z hz => ?_⟩, fun y hy => ⟨(b2 y hy).1, fun z hz => ?_⟩, fun y hy => ⟨(es.out y hy).1, fun z hz => ?_⟩⟩
        ·simp only [List.mem_cons, List.mem_append] at hy ⊢
         rcases hy with h | h | h | h
         ·exact .inr (.inl h)
         ·exact .inr (.inr (.inl h))
         ·exact .inl h
         ·exact .inr (.inr (.inr h))
        ·have := c4.out
         rw [g6, List.map_append, List.map_cons, List.map_nil, A6];exact this
        ·have := c7
         rw [g6, List.map_append, List.map_cons, List.map_nil];exact this
        ·rcases List.mem_append.1 hq with hq | hq
         ·obtain ⟨a1, a2⟩ := a3.out.rcs q hq
          exact ⟨a1.mono ee, a2.mono (fun y hy => by simp [hy])⟩
         ·simp only [List.mem_singleton] at hq
          subst hq;refine ⟨?_, fi.out⟩;show IsTab s3.blocks p2 d4 j1 cf;rw [b3.1]; exact aw.out
        ·rw [b3.1]
         have a1 := fe.out;have a2 := a3.out.bl;omega
        ·rcases List.mem_cons.1 hz with h | h
         ·exact (an.out y hy).2 z (by rw [h]; simp)
         ·rcases List.mem_append.1 h with h | h
          ·exact fun e => (b2 z h).2 y (by simp [hy]) e.symm
          ·exact (an.out y hy).2 z (by simp only [List.mem_cons, List.mem_append]; exact .inr (.inr (by simpa using h)))
        ·exact (b2 y hy).2 z hz
        ·have jc : y = (gR, a8 p2, 28) := by simpa using hy
         rcases List.mem_append.1 hz with h | h
         ·exact fun e => (an.out z h).2 y (by rw [jc]; simp) e.symm
         ·rcases List.mem_append.1 h with h | h
          ·exact fun e => (b2 z h).2 y (by rw [jc]; simp) e.symm
          ·exact (es.out y hy).2 z (by simp only [List.mem_append]; exact .inr (.inr (by simpa using h)))
       have fa := zH e6;clear ec ds dv eg c7 e5 b2 g6 e6 de d5
       go_wp2_with (first | (refine a9 rfl (Eh rfl rfl) ?_) | (at_builtin; refine a9 rfl (Rn rfl rfl rfl f4.out) ?_) | fail)
       go_roundw
       case rel => exact ⟨k + 1, s3, _, _, _, _, _, by omega, by go_num, rfl, fa.out⟩
       case measure => simp [intOf]; omega
  ·obtain rfl : N = k := by omega
   clear hlt hk km;have fv := a3.out.fr;have ei := a3.out.roots;have eh := a3.out.maps;obtain ⟨RC, fy⟩ : ∃ l, a7 ++ [r] = l := ⟨_, rfl⟩;obtain ⟨H1, fw⟩ : ∃ n, a7.length.succ = n := ⟨_, rfl⟩;have ik : RC.length = H1 := (by rw [← fy, ← fw]; simp);have bp : H1 ≤ 31 ∧ 0 < H1 := (by have := a3.out.len; have := HS.out.1; omega);rw [fw] at ei eh ⊢;obtain ⟨gr, cr, _, ki, -, iq⟩ : ∃ g cap cs, Value.slice jf H1 b1 = .slice (some ⟨g, 0, none⟩) H1 cap ∧ rb = [(g, cs, 28)] ∧ H1 ≤ cap := ei.big bp.2;injection ki with e1 _ e3
   subst e1 e3;obtain ⟨gm, cm, _, kh, -, kd⟩ : ∃ g cap cs, Value.slice je H1 bo = .slice (some ⟨g, 0, none⟩) H1 cap ∧ mb = [(g, cs, 51)] ∧ H1 ≤ cap := eh.big bp.2;injection kh with e1 _ e3
   subst e1 e3;obtain ⟨BS, cl⟩ : ∃ b, (gR, a8 r.root, 28) :: (rb ++ (mb ++ K)) = b := ⟨_, rfl⟩;rw [cl] at fv;have c9 := a3.out.rcs;rw [fy] at c9 ei eh;have i2 : Hid (∀ q ∈ RC, IsTab s.blocks q.root q.hv q.hh q.mids ∧ MapI K q.v q.hv) := zH c9;have i3 := zH ik;have k0 := zH ei; have i4 := zH eh
   have bf : Hid ((∀ y ∈ rb, y ∈ BS) ∧ (∀ y ∈ mb, y ∈ BS) ∧ ∀ y ∈ K, y ∈ BS) := zH (by
    rw [← cl]
    exact ⟨fun y hy => by simp [hy], fun y hy => by simp [hy], fun y hy => by simp [hy]⟩)
   have hi := zH fv;have jm : Hid (H1 ≤ b1) := zH iq;have hs : Hid (Lim (23000 * N + 19043 * 0) s) := zH (by simpa using a3.out.lim);have f5 := zH a3.out.bad;have f6 := zH a3.out.bk;have dk : Hid (N ≤ 30) := zH HS.out.1;have fb : Hid (H1 ≤ 31) := zH bp.1;clear fv ei eh fy ik cl c9 iq kd a3 HS fw bp
   go_wp2_with fail
   go_loopw [17] (fun i wr => ∃ (k : Nat) (s' : Sh) (rs : List Pt), k ≤ H1 ∧ i = .int .i64 (k : Int) ∧ More s s' rs ∧ Lim (23000 * N + 19043 * k) s' ∧ Fr W1 D s' BS wr) (fun i _ => H1 - (intOf i).toNat)
   case atStart => exact ⟨0, s, [], by omega, rfl, More.refl s, hs.out, hi.out⟩
   case round =>
    clear hi hs;obtain ⟨k, s', rs, hk, rfl, eb, b4, hf⟩ := hrel;have ck := zH eb; have jt := zH b4; have HF := zH hf;clear eb b4 hf;have ko := IntWalk.i64_in ((k : Int) + 1) (by have := fb.out; omega);by_cases hlt : k < H1
    ·obtain ⟨q, hq⟩ : ∃ q, RC[k]? = some q := ⟨_, List.getElem?_eq_getElem (by have := i3.out; omega)⟩
     obtain ⟨gd, gc⟩ := i2.out q (List.mem_of_getElem? hq);obtain ⟨gH, cH, f1, e0⟩ := gc.form;have cq := HF.out.drew;have hn : Hid (k < H1 ∧ H1 ≤ b1) := zH ⟨hlt, jm.out⟩;have b5 := i4.out.cellI cq bf.out.2.1 (k := k) (v := q.v) (by rw [List.getElem?_map, hq]; rfl);have jr : Hid (k < H1 ∧ H1 ≤ bo) := zH ⟨hlt, b5.1⟩;rw [f1] at b5;have i1 := zH gd; have jy : Hid q.root.OK := zH gd.root; have jz : Hid (MapI K (.slice (some ⟨gH, 0, none⟩) 256 cH) q.hv) := zH (by rw [← f1]; exact gc);have f8 : Hid (256 ≤ cH) := zH e0
     have fh : Hid (∀ s2 X, Fr W1 D s2 BS X → X.rangeAt gr (k * 41) (a8 q.root)) := zH fun s2 X hX => by
      have h1 := k0.out;have h2 : (RC.map Rt.root).length = H1 := (by rw [List.length_map, i3.out]);rw [← h2] at h1
      exact (OwnM.src (hX.row h1 bf.out.1) (fun p hp => by
       obtain ⟨z, hz, e⟩ := List.mem_map.1 hp
       rw [← e]; exact (i2.out z hz).1.root)).at (by rw [List.getElem?_map, hq]; rfl)
     have fg : Hid (∀ s2 X, Fr W1 D s2 BS X → X.cell? ⟨gm, k, none⟩ = some (.slice (some ⟨gH, 0, none⟩) 256 cH)) := zH fun s2 X hX => by
      have := (i4.out.cellI hX bf.out.2.1 (k := k) (v := q.v) (by rw [List.getElem?_map, hq]; rfl)).2;rw [f1] at this;exact this
     have i9 := zH (Ar cq (by rw [ck.out.bl.1]; exact i1.out) (by rw [ck.out.bl.2]; exact f5.out) (fun b hb => f6.out b (by rw [← ck.out.bl.1]; exact hb)) gH cH f8.out (fun s2 bs' Y hY hsub => jz.out.src hY (fun y hy => hsub y (bf.out.2.2 y hy)) i1.out.ok) jt.out (by have := dk.out; have := fb.out; omega));have ce : ∃ s2, Fr W1 D s2 BS wr.drew := ⟨s', cq⟩;clear hq gd gc f1 e0 cq b5
     go_upto_region 35 with fail
     refine gS (.take 0 (.take 1 (.take 2 (.take 3 (.take 4 (.take 5 (.take 6 (.take 7 (.take 8 (.step 9 (.take 10 (.take 11 (.take 12 (.take 13 (.take 14 (.nil)))))))))))))))) (fun X => ∃ s2, Fr W1 D s2 BS X) (ce) ?_;refine gT (.pointer (some ⟨D, 0, none⟩)) ?_;refine gT (.slice (some ⟨gr, 0, none⟩) H1 b1) ?_;refine gT (.int .i64 (k : Int)) ?_;refine gU (.pointer (some ⟨gr, k * 41, none⟩)) rfl (fun X hX => Lt rfl rfl rfl hn.out) ?_;refine gU (.agg (a8 q.root).toArray) rfl (fun X hX => a0k jy.out (fh.out _ _ hX.choose_spec) rfl rfl) ?_;refine gT (.slice (some ⟨gm, 0, none⟩) H1 bo) ?_;refine gT (.int .i64 (k : Int)) ?_;refine gU (.pointer (some ⟨gm, k, none⟩)) rfl (fun X hX => Rx rfl rfl rfl jr.out) ?_;refine gU (.slice (some ⟨gH, 0, none⟩) 256 cH) rfl (fun X hX => Rz rfl rfl (fg.out _ _ hX.choose_spec)) ?_
     refine b8 _ rfl (by rfl) 18 #[.pointer (some ⟨D, 0, none⟩), .agg (a8 q.root).toArray, .slice (some ⟨gH, 0, none⟩) 256 cH] (fun X => by go_simp) (fun u X => u = .tuple #[.int .i64 (vy q.hv : Int), .bool true] ∧ ∃ s3 er, More s' s3 er ∧ Fr W1 D s3 BS X ∧ Lim (23000 * N + 19043 * (k + 1)) s3) (i9.out.mono fun e X he => by
      obtain ⟨s3, er, e1, h2, h3, h4⟩ := he
      exact ⟨_, e1, ⟨s3, h3⟩, rfl, s3, er, h2, h3, h4.mono (by omega) (by have := dk.out; have := fb.out; have := hn.out; omega)⟩) ?_
     rintro u X3 kj ⟨rfl, s3, er, g7, ke, kg⟩;refine ⟨_, fun _ h => h, kj, ?_⟩; try simp only [pS]
     refine gT (.tuple #[.int .i64 (vy q.hv : Int), .bool true]) ?_;refine gT (.int .i64 (vy q.hv : Int)) ?_;refine gT (.bool true) ?_;refine gT (.int .i64 (vy q.hv : Int)) ?_;refine gT (.bool true) ?_;refine au ?_;clear ce i9
     go_wp2_with fail
     go_roundw
     case rel => exact ⟨k + 1, s3, rs ++ er, by omega, by go_num, ck.out.trans g7, kg, ke⟩
     case measure => simp [intOf]; omega
    ·obtain rfl : k = H1 := by omega
     clear hlt hk ko;have k4 := zH HF.out.tab;have cx := zH HF.out.bel
     go_wp2_with fail
     refine (ya _ k4.out).mono ?_;rintro e W9 ⟨rfl, dx⟩;have HE := zH (HP.out _ (gx.out.trans ((cx.out.trans (dx.mono cx.out.size)).mono gx.out.size)))
     go_wp2_with fail
     first | exact HE.out | (go_ret; exact HE.out)
end Go.Proofs.YtjgjohdeeeoeoaaGreatDoor
