/- TableMaps: the law's walk. -/
import Derived.Test.YtjgjohdeeeoeoaaGreatDoorM42
import Derived.Deep.CutBlock
import Derived.Deep.CutRange
namespace Go.Proofs.YtjgjohdeeeoeoaaGreatDoor
open Go.RowKit
attribute [local go_sem] Oper.semAt_some
variable {a : Act} {ops : Array Oper} {Q : Exit → Act → World → Prop} {l rest : List Oper} {o : Oper} {w : World}
@[irreducible] def holdL (ops : Array Oper) (Q : Exit → Act → World → Prop) (l : List Oper) (a : Act) (w : World) : Prop := wpList Tryz.prog ops Q l a w
theorem yl (h : holdL ops Q l a w) : wpList Tryz.prog ops Q l a w := by unfold holdL at h; exact h
theorem ug (h : wpList Tryz.prog ops Q l a w) : holdL ops Q l a w := by unfold holdL; exact h
theorem qm (v : Value) (hw : Region.wanted o (yielded ops a.tmps) = true) (hrun : (execOp a.eval o).run Tryz.prog w = .ok (.value v) w)
  (hK : holdL ops Q rest (a.put o.dst v) w) : holdL ops Q (o :: rest) a w := ug (aq hw hrun (yl hK))
theorem qV {ops : Array Oper} {rest : List Oper} {o : Oper} {a a1 : Act} {Q : Exit → Act → World → Prop} {w : World} (v : Value) (hK : holdL ops Q rest a1 w) (hw : Region.wanted o (yielded ops a.tmps) = true := by rfl) (hrun : (execOp a.eval o).run Tryz.prog w = .ok (.value v) w := by first | rfl | go_simp) (ha : a.put o.dst v = a1 := by (try simp only [pS]); try rfl) : holdL ops Q (o :: rest) a w := qm v hw hrun (by subst ha; exact hK)
theorem df (hw : Region.wanted o (yielded ops a.tmps) = false)
  (hK : holdL ops Q rest (a.put o.dst undef) w) : holdL ops Q (o :: rest) a w := by
 refine ug ?_;unfold wpList;rw [if_neg (by rw [hw]; decide)];exact yl hK
theorem zv (n : Nat) (x : Ino) : (tcI (n, x))[0]? = some (.int .u16 (n : Int)) := rfl
theorem Ae {S : World → Prop} {i : Nat} {r : Tr} (o : Oper) (hi : ops.toList[i]? = some o) (hw : Region.wanted o (yielded ops a.tmps) = true) (v : Value) (w1 : World) (hrun : (execOp a.eval o).run Tryz.prog w = .ok (.value v) w1)
  (S' : World → Prop) (hS : S' w1) (hSS : ∀ w, S' w → S w) (h : wpG Tryz.prog ops Q r S' (a.put o.dst v) w1) : wpG Tryz.prog ops Q (.step i r) S a w := by
 show wpOp Tryz.prog ops Q i _ a w;unfold wpOp;simp only [m4 hi];rw [if_pos hw];refine .inl ?_;unfold Oper.wp;rw [hrun];exact ⟨hSS _ hS, S', hSS, hS, h⟩
set_option maxRecDepth 100000 in
set_option maxHeartbeats 64000000 in
theorem Cf (l : List AcU) (sp : Option Addr) (cap : Nat) (hc : l.length ≤ cap) (w : World) (hA : ActsU w sp l) (hT : RTab w) : Calls Tryz.prog 4 #[.slice sp l.length cap] w fun e w' => e = .returned (.bool true) ∧ Below w.heap.size w w' := by
 have HA := zH hA; have HT := zH hT; have HC := zH hc;have d1 := I1 l sp cap hc w hA;obtain ⟨N, hN⟩ : ∃ N, l.length = N := ⟨_, rfl⟩;rw [hN] at d1 ⊢;have HN := zH hN; have kg := zH d1;generalize hPost : (fun e w' => e = Ending.returned (.bool true) ∧ Below w.heap.size w w') = Post;have HP : Hid (∀ w', Below w.heap.size w w' → Post (.returned (.bool true)) w') := zH fun w' h => by rw [← hPost]; exact ⟨rfl, h⟩
 have ki := zH (bh ak);have jr : Hid ((a8 zeroP).toArray.size = 41) := zH (by rw [List.size_toArray, aa ak]);clear hA hT hc d1 hN hPost;go_enter Tryz.func4, Tryz.ntmps4
 go_wp2_with fail
 refine kg.out.mono ?_;rintro e W1 ⟨rfl, d2⟩;have ix := zH d2;have ie := zH (HT.out.grown d2);obtain ⟨gb, cx⟩ : ∃ b, oi l = b := ⟨_, rfl⟩;rw [cx];cases gb
 case true =>
  go_wp2_with fail
  refine (y8 _ ie.out).mono ?_;rintro e W2 ⟨rfl, k8⟩;have HE := zH (HP.out _ (d2.trans (k8.mono d2.size)))
  go_wp2_with fail
  first | exact HE.out | (go_ret; exact HE.out)
 case false =>
 have HS : Hid (N ≤ 30 ∧ ∀ a ∈ l, a.l.length ≤ 30) := zH (by
  unfold oi at cx;rw [Bool.or_eq_false_iff] at cx;have h1 := cx.1;have h2 := cx.2;rw [HN.out] at h1;refine ⟨by simpa using h1, fun a ha => ?_⟩;have := List.any_eq_false.1 h2 a ha
  simpa using this)
 have j0 := zH (HA.out.grown d2);have ih := zH (S8 W1 ie.out);clear cx d2
 go_upto_region 4 with fail
 refine (fun (k : ∀ W, Fr W1 W1.heap.size sh0 [] W → Code.wp _ _ _ _ W) => k _ ih.out) ?_;intro W2 hW2;obtain ⟨D, hD⟩ : ∃ d, W1.heap.size = d := ⟨_, rfl⟩;rw [hD] at hW2 ⊢;have ct := zH hW2;have HD := zH hD;clear hW2 hD ih
 go_upto_region 5 with (first | (refine a9 rfl (bj rfl) ?_) | (refine wpList_store_row rfl 28 (.tmp 4) (.tmp 25) rfl W2.heap.size (a8 zeroP).toArray rfl rfl 28 _ (heap_alloc_new W2 _) ki.out (by rw [jr.out]; rfl) (bb zeroP) ?_) | fail)
 refine (fun (k : ∀ W, Fr W1 D sh0 [(W2.heap.size, a8 zeroP, 28)] W → Code.wp _ _ _ _ W) => k _ (ct.out.add (ar W2 _ (a8 zeroP) 28).2 (Nat.le_refl _) (ar W2 _ (a8 zeroP) 28).1)) ?_;intro W3 hW3;obtain ⟨gR, fn⟩ : ∃ g, W2.heap.size = g := ⟨_, rfl⟩;rw [fn] at hW3 ⊢;have q1 : W1.heap.size ≤ gR := by rw [← fn]; exact ct.out.bel.size
 have q2 : gR < W3.heap.size := (hW3.at (g := gR) (cs := a8 zeroP) (t := 28) (by simp)).lt;have jh := zH hW3;obtain ⟨h0, im⟩ : ∃ h, h = List.replicate 256 zeroI := ⟨_, rfl⟩;have ib := zH im;have a6 := hW3.add (g := W3.heap.size) (cs := cu h0) (t := 62) ((Below.refl _ _).alloc (Nat.le_refl _) (.cells (cu h0).toArray 62)) (Nat.le_refl _) (Blk.new W3 (cu h0) 62);have dg := zH a6;clear hW3 fn ct a6 im
 go_upto_region 6 with (first | (refine a9 rfl (Ok ib.out rfl rfl) ?_) | fail)
 refine (fun (k : ∀ W, Fr W1 D sh0 [(W3.heap.size, cu h0, 62), (gR, a8 zeroP, 28)] W → Code.wp _ _ _ _ W) => k _ dg.out) ?_;intro W4 hW4;obtain ⟨gH, j6⟩ : ∃ g, W3.heap.size = g := ⟨_, rfl⟩;rw [j6] at hW4 q2 ⊢;have q3 : gH < W4.heap.size := (hW4.at (g := gH) (cs := cu h0) (t := 62) (by simp)).lt;have hw := zH (hW4.at (g := gR) (cs := a8 zeroP) (t := 28) (by simp));have c9 := zH (hW4.add (g := W4.heap.size) (cs := a8 zeroP) (t := 28) ((Below.refl _ _).alloc (Nat.le_refl _) (.cells (a8 zeroP).toArray 28)) (Nat.le_refl _) (Blk.new W4 (a8 zeroP) 28));clear hW4 j6 jh dg
 go_upto_region 7 with (first | (refine a9 rfl (ax ak hw.out rfl rfl) ?_) | (refine a9 rfl (Ab zeroP rfl rfl ak) ?_) | fail)
 refine (fun (k : ∀ W, Fr W1 D sh0 [(W4.heap.size, a8 zeroP, 28), (gH, cu h0, 62), (gR, a8 zeroP, 28)] W → Code.wp _ _ _ _ W) => k _ c9.out) ?_;intro W5 hW5;obtain ⟨gr, d1⟩ : ∃ g, W4.heap.size = g := ⟨_, rfl⟩;rw [d1] at hW5 q3 ⊢;have q4 : gr < W5.heap.size := (hW5.at (g := gr) (cs := a8 zeroP) (t := 28) (by simp)).lt;have e0 := zH (hW5.add (g := W5.heap.size) (cs := [.slice (some ⟨gH, 0, none⟩) 256 256]) (t := 51) ((Below.refl _ _).alloc (Nat.le_refl _) (.cells [Value.slice (some ⟨gH, 0, none⟩) 256 256].toArray 51)) (Nat.le_refl _) (Blk.new W5 [.slice (some ⟨gH, 0, none⟩) 256 256] 51));clear hW5 d1 c9 hw
 go_upto_region 8 with (first | (refine a9 rfl (Gt rfl rfl) ?_) | fail)
 refine (fun (k : ∀ W, Fr W1 D sh0 [(W5.heap.size, [.slice (some ⟨gH, 0, none⟩) 256 256], 51), (gr, a8 zeroP, 28), (gH, cu h0, 62), (gR, a8 zeroP, 28)] W → Code.wp _ _ _ _ W) => k _ e0.out) ?_;intro W6 hW6;obtain ⟨gm, j8⟩ : ∃ g, W5.heap.size = g := ⟨_, rfl⟩;rw [j8] at hW6 q4 ⊢;have a3 := zH (Rr ib.out hW6 ⟨q1, by omega, by omega⟩ ⟨by omega, by omega, by omega, by omega, by omega, by omega⟩);clear hW6 j8 e0 q2 q3 q4
 go_wp2_with fail
 go_loopw [5, 6, 7, 8] (fun hv rv mv i wr => ∃ (k : Nat) (s : Sh) (a7 : List Rt) (r : Rt) (rb mb K : Bxs), k ≤ N ∧ i = .int .i64 (k : Int) ∧ hv = r.v ∧ UmS W1 D gR s k a7 r rv mv rb mb K wr) (fun _ _ _ i _ => N - (intOf i).toNat)
 case atStart => exact ⟨0, sh0, [], _, _, _, _, by omega, rfl, rfl, a3.out⟩
 case round =>
  clear a3;obtain ⟨k, s, a7, r, rb, mb, K, hk, rfl, rfl, av⟩ := hrel;have a3 := zH av;obtain ⟨j3, aw, rfl⟩ := av.roots.form;obtain ⟨i2, bv, rfl⟩ := av.maps.form;clear av;have jo := IntWalk.i64_in ((k : Int) + 1) (by have := HS.out.1; omega);by_cases hlt : k < N
  ·obtain ⟨root, hv, hh, mids, v⟩ := r
   have c4 := a3.out.rcs ⟨root, hv, hh, mids, v⟩ (by simp);obtain ⟨gH, cH, h5, dl⟩ := c4.2.form;simp only at h5;subst h5;have d3 : Hid (IsTab s.blocks root hv hh mids) := zH c4.1;have ce : Hid root.OK := zH d3.out.root;have i1 : Hid (MapI K (.slice (some ⟨gH, 0, none⟩) 256 cH) hv) := zH c4.2;have gh : Hid (256 ≤ cH) := zH dl;obtain ⟨⟨al, bu, ad⟩, ha⟩ : ∃ a, l[k]? = some a := ⟨_, List.getElem?_eq_getElem (by have := HN.out; omega)⟩;obtain ⟨ga, oa, rfl, j4, c6⟩ := j0.out.2 (by have := HN.out; omega);have aj : Hid (Ll W1 ⟨al, bu, ad⟩) := zH (j0.out.1 _ (List.mem_of_getElem? ha));obtain ⟨M, hM⟩ : ∃ M, al.length = M := ⟨_, rfl⟩;have HM := zH hM;have bc : Hid (M ≤ 30) := zH (by rw [← hM]; exact HS.out.2 _ (List.mem_of_getElem? ha));have et : Hid (k < N ∧ N ≤ cap) := zH ⟨hlt, by have := HC.out; rw [HN.out] at this; exact this⟩
   have ew : Hid (∀ X, Below W1.heap.size W1 X → X.cell? ⟨ga, oa + k, none⟩ = some (.slice bu M ad)) := zH fun X hX => by
    rw [hX.cell (p := ⟨ga, oa + k, none⟩) j4];have := c6 k _ ha 0 _ rfl;rw [hM] at this;exact this
   have HF := zH a3.out.fr;obtain ⟨BS, cq⟩ : ∃ b, (gR, a8 root, 28) :: (rb ++ (mb ++ K)) = b := ⟨_, rfl⟩;simp only at HF;rw [cq] at HF;have bi := zH cq;clear c4 dl ha j4 c6 cq hM;obtain ⟨vS, bn, -⟩ := HF.out.cells;have c2 := bn.cell (j := 2) rfl;have f2 := bn.free 2;obtain ⟨s1, dr⟩ : ∃ x : Sh, { s with made := [] } = x := ⟨_, rfl⟩;have gd := Xq HF.out;rw [dr] at gd;have il := zH gd;clear bn gd
   go_upto_region 12 with fail
   refine (fun (k' : ∀ W, Fr W1 D s1 BS W → Code.wp _ _ _ _ W) => k' _ il.out) ?_;intro W2 hX2;have ct := zH hX2;clear c2 f2 il HF hX2;have kd : Hid (∀ s' X, Fr W1 D s' BS X → Blk X gR (a8 root) 28) := zH fun s' X hX => hX.at (by rw [← bi.out]; simp)
   have cp : Hid (∀ bs' X, Fr W1 D s1 bs' X → Calls Tryz.prog 16 #[.slice bu M ad] X fun e Y => ∃ v, e = .returned v ∧ ∃ lb, RowB 76 45 lb v M (trI al) ∧ Fr W1 D s1 (lb ++ bs') Y) := zH fun bs' X hX => by
    have h := H6 al aj.out.2.2 bu ad aj.out.2.1 (by rw [HM.out]; have := bc.out; omega) X (iv aj.out.1 hX.bel);rw [HM.out] at h;refine h.mono ?_;rintro e Y ⟨v, e1, ho, hb⟩;obtain ⟨lb, h1, h2⟩ := RowB.of ho;rw [HM.out] at h1;exact ⟨v, e1, lb, h1, a1g hX hb (fun y hy => ⟨(h2 y hy).1, (ho.lt _ (h2 y hy).2).1⟩)⟩
   have io : Lim (23000 * k) s1 := (by rw [← dr]; exact ⟨a3.out.lim.rd, by simp, a3.out.lim.gn, a3.out.lim.n, a3.out.lim.bl, a3.out.lim.bd, a3.out.lim.rm⟩);have cj : BlkOK s1 := (by rw [← dr]; exact a3.out.bk);obtain ⟨t2, fv⟩ : ∃ x, (tsR s1 root al).s = x := ⟨_, rfl⟩;obtain ⟨p2, fx⟩ : ∃ x, (tsR s1 root al).p = x := ⟨_, rfl⟩;obtain ⟨e2, fp⟩ : ∃ x, (tsR s1 root al).e = x := ⟨_, rfl⟩
   have bg : Hid (∀ bs' lb X v, Fr W1 D s1 bs' X → RowB 76 45 lb v M (trI al) → (∀ y ∈ lb, y ∈ bs') → Calls Tryz.prog 15 #[shI D, .agg (a8 root).toArray, v] X fun e Y => e = .returned (.tuple #[.agg (a8 p2).toArray, .int .i64 (e2 : Int)]) ∧ Fr W1 D t2 bs' Y ∧ Lim (23000 * k + 3715) t2 ∧ p2.OK) := zH fun bs' lb X v hX hr hsub => by
    have h := Lc hX root ce.out al aj.out.2.2 (by rw [HM.out]; have := bc.out; omega) (by rw [HM.out]; exact hr) hsub io (by have := HS.out.1; omega) cj;rw [fv, fx, fp] at h;exact h
   have f6 := zH fv; have jq := zH fx; have iu := zH fp; have c3 := zH dr; have gs := zH cj;have cb : ∃ s2, Fr W1 D s2 BS W2.drew := ⟨s1, ct.out.drew⟩;have a4 := zH ct.out.drew;clear io cj fv fx fp dr;refine Yn (fun u g W => Fr W1 D t2 ((g, a8 p2, 28) :: BS) W ∧ Lim (23000 * k + 3715) t2 ∧ p2.OK ∧ W1.heap.size ≤ g) ?_;apply Exists.intro;constructor;refine cg (.take 0 (.take 1 (.take 2 (.take 3 (.take 4 (.take 5 (.take 6 (.take 7 (.fork 8 (.fork 9 (.take 10 (.take 11 (.take 12 (.step 13 (.step 14 (.take 15 (.nil))))))) 13 (.step 9 (.take 10 (.take 11 (.take 12 (.step 14 (.take 15 (.nil)))))))) 13 (.step 8 (.step 9 (.take 10 (.take 11 (.take 12 (.step 14 (.take 15 (.nil))))))))))))))))) (by kernel_rfl) (by kernel_rfl) (fun d _ _ _ _ h => by cases h.1) (fun X => ∃ s2, Fr W1 D s2 BS X) (cb) ?_;refine gT (.pointer (some ⟨D, 0, none⟩)) ?_;refine gT (shI D) ?_;refine gU (.agg (a8 root).toArray) rfl (fun X hX => ax ce.out (kd.out _ _ hX.choose_spec) rfl rfl) ?_;refine gT (.slice (some ⟨ga, oa, none⟩) N cap) ?_;refine gT (.int .i64 (k : Int)) ?_;refine gU (.pointer (some ⟨ga, oa + k, none⟩)) rfl (fun X hX => si rfl rfl rfl et.out) ?_;refine gT (.pointer (some ⟨ga, oa + k, none⟩)) ?_;refine gU (.slice bu M ad) rfl (fun X hX => ry rfl rfl (ew.out _ hX.choose_spec.bel)) ?_;refine i5 ?_ ?_
   ·refine b8 _ rfl (by rfl) 16 #[.slice bu M ad] (fun X => by go_simp) (fun u X => ∃ lb, RowB 76 45 lb u M (trI al) ∧ Fr W1 D s1 (lb ++ BS) X) ((cp.out _ _ a4.out).mono fun e X ⟨v, e1, lb, h1, h2⟩ => ⟨v, e1, ⟨_, h2.sub (fun y hy => by simp [hy])⟩, lb, h1, h2⟩) ?_
    rintro u X3 f5 ⟨lb, d7, ae⟩;have a4 := zH ae;have ez := zH d7;refine ⟨_, fun _ h => h, f5, ?_⟩;clear ae d7; try simp only [pS]
    refine i5 ?_ ?_
    ·refine b8 _ rfl (by rfl) 15 #[shI D, .agg (a8 root).toArray, u] (fun X => by go_simp) (fun v X => v = .tuple #[.agg (a8 p2).toArray, .int .i64 (e2 : Int)] ∧ Fr W1 D t2 (lb ++ BS) X ∧ Lim (23000 * k + 3715) t2 ∧ p2.OK) ((bg.out _ _ _ _ a4.out ez.out (fun y hy => by simp [hy])).mono fun e X ⟨e1, h2, h3, h4⟩ => ⟨_, e1, ⟨_, h2.sub (fun y hy => by simp [hy])⟩, rfl, h2, h3, h4⟩) ?_
     rintro v X4 em ⟨rfl, ae, b9, c0⟩;clear a4;have a4 := zH ae;have du := zH b9; have aq := zH c0;refine ⟨_, fun _ h => h, em, ?_⟩;clear ae b9 c0; try simp only [pS]
     refine gT (.tuple #[.agg (a8 p2).toArray, .int .i64 (e2 : Int)]) ?_;refine gT (.agg (a8 p2).toArray) ?_;refine gT (.int .i64 (e2 : Int)) ?_;obtain ⟨g9, ab⟩ : ∃ g, (X4).heap.size = g := ⟨_, rfl⟩;have a6 := a4.out.add (g := g9) (cs := a8 zeroP) (t := 28) ((Below.refl _ _).alloc (Nat.le_refl _) (.cells (a8 zeroP).toArray 28)) (by rw [← ab]; exact Nat.le_refl _) (by rw [← ab]; exact Blk.new _ (a8 zeroP) 28);refine Ae _ rfl (by rfl) (.pointer (some ⟨g9, 0, none⟩)) _ (Ho ab Ja rfl) (fun X => ∃ s2, Fr W1 D s2 BS X) ⟨_, a6.sub (fun y hy => by simp [hy])⟩ (fun _ h => h) ?_;have am : Hid (W1.heap.size ≤ g9 ∧ ∀ z ∈ (lb ++ BS), z.1 ≠ g9) := zH ⟨by rw [← ab]; exact a4.out.bel.size, fun z hz e => by have := (a4.out.bx z hz).lt; rw [e, ab] at this; omega⟩;clear a4;have a4 := zH a6;clear a6 ab; try simp only [pS]
     have ap : Hid (Fr W1 D t2 ((g9, a8 zeroP, 28) :: BS) _) := zH (a4.out.sub (fun y hy => by simp only [List.mem_cons, List.mem_append] at hy ⊢; rcases hy with h | h <;> simp [h]));have eh := ap.out.at (g := g9) (cs := a8 zeroP) (t := 28) (by simp);have ag := Dr (cs' := a8 p2) ap.out am.out.1 (fun z hz => am.out.2 z (by simp [hz]));refine kp _ rfl (by rfl) 28 (.tmp 9) (.tmp 51) rfl g9 (a8 p2).toArray rfl rfl eh (bh aq.out) (by rw [List.size_toArray, aa aq.out, aa ak]) (bb p2) (fun X => ∃ s2, Fr W1 D s2 BS X) (fun _ h => h) ⟨_, ag.sub (fun y hy => by simp [hy])⟩ ?_; try simp only [pS]
     refine gT (.int .i64 (e2 : Int)) ?_;refine au ?_;exact ⟨rfl, u, g9, rfl, ag, du.out, aq.out, am.out.1⟩
    ·obtain ⟨g9, ab⟩ : ∃ g, (X3).heap.size = g := ⟨_, rfl⟩
     have a6 := a4.out.add (g := g9) (cs := a8 zeroP) (t := 28) ((Below.refl _ _).alloc (Nat.le_refl _) (.cells (a8 zeroP).toArray 28)) (by rw [← ab]; exact Nat.le_refl _) (by rw [← ab]; exact Blk.new _ (a8 zeroP) 28);refine Ae _ rfl (by rfl) (.pointer (some ⟨g9, 0, none⟩)) _ (Ho ab Ja rfl) (fun X => ∃ s2, Fr W1 D s2 BS X) ⟨_, a6.sub (fun y hy => by simp [hy])⟩ (fun _ h => h) ?_;have am : Hid (W1.heap.size ≤ g9 ∧ ∀ z ∈ (lb ++ BS), z.1 ≠ g9) := zH ⟨by rw [← ab]; exact a4.out.bel.size, fun z hz e => by have := (a4.out.bx z hz).lt; rw [e, ab] at this; omega⟩;clear a4;have a4 := zH a6;clear a6 ab; try simp only [pS]
     refine b8 _ rfl (by rfl) 15 #[shI D, .agg (a8 root).toArray, u] (fun X => by go_simp) (fun v X => v = .tuple #[.agg (a8 p2).toArray, .int .i64 (e2 : Int)] ∧ Fr W1 D t2 ((g9, a8 zeroP, 28) :: (lb ++ BS)) X ∧ Lim (23000 * k + 3715) t2 ∧ p2.OK) ((bg.out _ _ _ _ a4.out ez.out (fun y hy => by simp [hy])).mono fun e X ⟨e1, h2, h3, h4⟩ => ⟨_, e1, ⟨_, h2.sub (fun y hy => by simp [hy])⟩, rfl, h2, h3, h4⟩) ?_;rintro v X4 em ⟨rfl, ae, b9, c0⟩;clear a4;have a4 := zH ae;have du := zH b9; have aq := zH c0;refine ⟨_, fun _ h => h, em, ?_⟩;clear ae b9 c0; try simp only [pS]
     refine gT (.tuple #[.agg (a8 p2).toArray, .int .i64 (e2 : Int)]) ?_;refine gT (.agg (a8 p2).toArray) ?_;refine gT (.int .i64 (e2 : Int)) ?_;have ap : Hid (Fr W1 D t2 ((g9, a8 zeroP, 28) :: BS) _) := zH (a4.out.sub (fun y hy => by simp only [List.mem_cons, List.mem_append] at hy ⊢; rcases hy with h | h <;> simp [h]));have eh := ap.out.at (g := g9) (cs := a8 zeroP) (t := 28) (by simp);have ag := Dr (cs' := a8 p2) ap.out am.out.1 (fun z hz => am.out.2 z (by simp [hz]));refine kp _ rfl (by rfl) 28 (.tmp 9) (.tmp 51) rfl g9 (a8 p2).toArray rfl rfl eh (bh aq.out) (by rw [List.size_toArray, aa aq.out, aa ak]) (bb p2) (fun X => ∃ s2, Fr W1 D s2 BS X) (fun _ h => h) ⟨_, ag.sub (fun y hy => by simp [hy])⟩ ?_; try simp only [pS]
     refine gT (.int .i64 (e2 : Int)) ?_;refine au ?_;exact ⟨rfl, u, g9, rfl, ag, du.out, aq.out, am.out.1⟩
   ·obtain ⟨g9, ab⟩ : ∃ g, (W2.drew).heap.size = g := ⟨_, rfl⟩
    have a6 := a4.out.add (g := g9) (cs := a8 zeroP) (t := 28) ((Below.refl _ _).alloc (Nat.le_refl _) (.cells (a8 zeroP).toArray 28)) (by rw [← ab]; exact Nat.le_refl _) (by rw [← ab]; exact Blk.new _ (a8 zeroP) 28);refine Ae _ rfl (by rfl) (.pointer (some ⟨g9, 0, none⟩)) _ (Ho ab Ja rfl) (fun X => ∃ s2, Fr W1 D s2 BS X) ⟨_, a6.sub (fun y hy => by simp [hy])⟩ (fun _ h => h) ?_;have am : Hid (W1.heap.size ≤ g9 ∧ ∀ z ∈ BS, z.1 ≠ g9) := zH ⟨by rw [← ab]; exact a4.out.bel.size, fun z hz e => by have := (a4.out.bx z hz).lt; rw [e, ab] at this; omega⟩;clear a4;have a4 := zH a6;clear a6 ab; try simp only [pS]
    refine b8 _ rfl (by rfl) 16 #[.slice bu M ad] (fun X => by go_simp) (fun u X => ∃ lb, RowB 76 45 lb u M (trI al) ∧ Fr W1 D s1 (lb ++ ((g9, a8 zeroP, 28) :: (BS))) X) ((cp.out _ _ a4.out).mono fun e X ⟨v, e1, lb, h1, h2⟩ => ⟨v, e1, ⟨_, h2.sub (fun y hy => by simp [hy])⟩, lb, h1, h2⟩) ?_;rintro u X3 f5 ⟨lb, d7, ae⟩;clear a4;have a4 := zH ae;have ez := zH d7;refine ⟨_, fun _ h => h, f5, ?_⟩;clear ae d7; try simp only [pS]
    refine b8 _ rfl (by rfl) 15 #[shI D, .agg (a8 root).toArray, u] (fun X => by go_simp) (fun v X => v = .tuple #[.agg (a8 p2).toArray, .int .i64 (e2 : Int)] ∧ Fr W1 D t2 (lb ++ ((g9, a8 zeroP, 28) :: (BS))) X ∧ Lim (23000 * k + 3715) t2 ∧ p2.OK) ((bg.out _ _ _ _ a4.out ez.out (fun y hy => by simp [hy])).mono fun e X ⟨e1, h2, h3, h4⟩ => ⟨_, e1, ⟨_, h2.sub (fun y hy => by simp [hy])⟩, rfl, h2, h3, h4⟩) ?_;rintro v X4 em ⟨rfl, ae, b9, c0⟩;clear a4;have a4 := zH ae;have du := zH b9; have aq := zH c0;refine ⟨_, fun _ h => h, em, ?_⟩;clear ae b9 c0; try simp only [pS]
    refine gT (.tuple #[.agg (a8 p2).toArray, .int .i64 (e2 : Int)]) ?_;refine gT (.agg (a8 p2).toArray) ?_;refine gT (.int .i64 (e2 : Int)) ?_;have ap : Hid (Fr W1 D t2 ((g9, a8 zeroP, 28) :: BS) _) := zH (a4.out.sub (fun y hy => by simp only [List.mem_cons, List.mem_append] at hy ⊢; rcases hy with h | h <;> simp [h]));have eh := ap.out.at (g := g9) (cs := a8 zeroP) (t := 28) (by simp);have ag := Dr (cs' := a8 p2) ap.out am.out.1 (fun z hz => am.out.2 z (by simp [hz]));refine kp _ rfl (by rfl) 28 (.tmp 9) (.tmp 51) rfl g9 (a8 p2).toArray rfl rfl eh (bh aq.out) (by rw [List.size_toArray, aa aq.out, aa ak]) (bb p2) (fun X => ∃ s2, Fr W1 D s2 BS X) (fun _ h => h) ⟨_, ag.sub (fun y hy => by simp [hy])⟩ ?_; try simp only [pS]
    refine gT (.int .i64 (e2 : Int)) ?_;refine au ?_;exact ⟨rfl, u, g9, rfl, ag, du.out, aq.out, am.out.1⟩
   rintro u g9 X4 ⟨f0, i4, hj, ab⟩;have dg := zH f0; have gl := zH i4; have b2 : Hid p2.OK := zH hj; have am := zH ab;have fl := Jn al aj.out.2.2 bu ad aj.out.2.1 (by rw [HM.out]; have := bc.out; omega) X4 (iv aj.out.1 f0.bel);rw [HM.out] at fl;have ik := zH fl;have j7 := zH (ew.out X4 f0.bel);clear f0 i4 hj ab fl cb a4 ct cp bg
   go_wp2_with (first | (refine a9 rfl (si rfl rfl rfl et.out) ?_) | (refine a9 rfl (ry rfl rfl j7.out) ?_) | fail)
   refine ik.out.mono ?_;rintro e X5 ⟨rfl, gy⟩;have c9 := zH (dg.out.below gy);clear gy dg ik j7;obtain ⟨st, av⟩ : ∃ b, k7 al = b := ⟨_, rfl⟩;rw [av];cases st
   case false =>
    obtain ⟨h1, h2, h3⟩ := R1 (s := s1) (p := root) av;rw [iu.out] at h1;rw [f6.out] at h2;subst h1;have iy : t2.made = [] := (by rw [h2, ← c3.out]);obtain ⟨vS, bn, ek, -, -, -⟩ := c9.out.cells;obtain ⟨cv, b4, db, -⟩ := cz ek;have c2 := bn.cell (j := 2) rfl;rw [db, iy] at c2;have dx := gl.out.mono (b := 23000 * (k + 1)) (by omega) (by have := HS.out.1; omega)
    have d8 : UmS W1 D gR t2 (k + 1) a7 ⟨root, hv, hh, mids, .slice (some ⟨gH, 0, none⟩) 256 cH⟩ (.slice j3 a7.length.succ aw) (.slice i2 a7.length.succ bv) rb mb K X5 := by
     have h6 : t2.blocks = s.blocks := (by rw [h2, ← c3.out]);have h7 : t2.bad = s.bad := (by rw [h2, ← c3.out]);have h8 : t2.room = s.room := (by rw [h2, ← c3.out]);have o := a3.out;refine ⟨c9.out.sub (fun y hy => by rw [← bi.out]; exact List.mem_cons_of_mem _ hy), o.roots, o.maps, Nat.le_succ_of_le o.len, fun q hq => ?_, h7.trans o.bad, h8.trans o.room, ?_, fun b hb => o.bk b (by rw [← h6]; exact hb), dx, o.apR, o.apM, o.apG⟩
     ·rw [h6]; exact o.rcs q hq
     ·rw [h6]; have := o.bl; omega
    have k3 := zH d8;clear h2 h3 iy bn ek db dx d8 av
    go_wp2_with fail
    go_roundw
    case rel => exact ⟨k + 1, t2, a7, _, rb, mb, K, by omega, by go_num, rfl, k3.out⟩
    case measure => simp [intOf]; omega
   case true =>
    have ex : s1.blocks = s.blocks := (by rw [← c3.out]);have el : IsTab s1.blocks root hv hh mids := (by rw [ex]; exact d3.out);have se := La (l := al) el aj.out.2.2 av (by rw [← c3.out]; exact a3.out.bad) (by rw [← c3.out]; exact a3.out.room) (by rw [ex]; have := a3.out.bl; have := HS.out.1; omega);have je := se.e;have bo := se.pre;have bp := se.len;have fe := se.bd;have gc := se.rm;obtain ⟨jd, cf, bf⟩ := se.tab;have a0 := se.same;have a5 := se.diff;rw [iu.out] at je;rw [f6.out] at bo bp fe gc bf a0;rw [jq.out] at bf a0 a5;rw [ex] at bo bp;subst je;have hn : s1.made = [] := (by rw [← c3.out]);rw [hn] at a0;have dn : BlkOK t2 := (by rw [← f6.out]; exact Rw aj.out.2.2 gs.out ce.out);have gq := zH bo; have gj := zH bp; have ef := zH fe; have f1 := zH gc; have b6 := zH bf; have dm := zH a0; have dh := zH a5; have en := zH dn; have eb := zH av;clear ex el se bo bp fe gc bf a0 a5 dn hn av
    go_upto_region 16 with fail
    have ig : ∀ y ∈ K, y ∈ (g9, a8 p2, 28) :: BS := fun y hy => by rw [← bi.out]; simp [hy]
    obtain ⟨-, gg, fi, cb⟩ := i1.out;have dc := c9.out.row fi (fun y hy => ig y (cb y hy));obtain ⟨xv, X6, xb, i3, ij, j9, hd⟩ := Ik a1d (rb := []) (bs := (g9, a8 p2, 28) :: BS) (v := .slice none 0 0) (n := 0) (xs := []) (ys := cu hv) (g := gH) (c := cH) (m := 256) c9.out ⟨rfl, .inl ⟨rfl, rfl, rfl⟩⟩ (fun y hy => by simp at hy) (by omega) (Below.refl _ _) fi.1 (dc.cells rfl) (Hq hv);have dv := zH i3;have g4 := zH ij;have e0 := zH j9;have gw := zH hd;clear ig fi cb dc i3 ij j9 hd c9
    go_upto_region 17 with (first | (at_builtin; refine a9 rfl (R7 rfl rfl rfl dv.out) ?_) | fail)
    obtain ⟨gX, cX, fz, rfl, rfl, kf⟩ := g4.out.big (by omega);have fy : Hid (256 ≤ cX) := zH (by omega);have g7 : Hid (W1.heap.size ≤ gX ∧ ∀ z ∈ (g9, a8 p2, 28) :: BS, z.1 ≠ gX) := zH (gw.out (gX, fz, 62) (by simp));have h9 : Hid (RowB 62 44 [(gX, fz, 62)] (.slice (some ⟨gX, 0, none⟩) 256 cX) 256 (cu (jj hv (al.take 0)))) := zH g4.out;clear kf gw g4 dv;rw [show (0 + 256 : Nat) = 256 from rfl];have g0 : Hid (hv.length = 256) := zH d3.out.len
    go_wp2_with fail
    go_loopw [12, 13] (fun sm j wr => ∃ (k2 : Nat) (cs : List Value), k2 ≤ M ∧ j = .int .i64 (k2 : Int) ∧ sm = .bool (y7 hv (al.take k2)) ∧ RowB 62 44 [(gX, cs, 62)] (.slice (some ⟨gX, 0, none⟩) 256 cX) 256 (cu (jj hv (al.take k2))) ∧ Fr W1 D t2 ((gX, cs, 62) :: (g9, a8 p2, 28) :: BS) wr) (fun _ j _ => M - (intOf j).toNat)
    case atStart => exact ⟨0, fz, by omega, rfl, rfl, h9.out, e0.out⟩
    case round =>
     clear h9 e0;obtain ⟨k2, cs, k9, rfl, rfl, e4, ae⟩ := hrel;have ey := zH e4; have ba := zH ae;have it := zH (ew.out _ ae.bel);clear e4 ae;have kh := IntWalk.i64_in ((k2 : Int) + 1) (by have := bc.out; omega);by_cases hlm : k2 < M
     ·obtain ⟨⟨xn, xi⟩, hx⟩ : ∃ x, al[k2]? = some x := ⟨_, List.getElem?_eq_getElem (by have := HM.out; omega)⟩
      have gf := List.mem_of_getElem? hx;have js : Hid (Itm.OK (xn, xi)) := zH (aj.out.2.2 _ gf);have bq : Hid xi.OK := zH js.out.2
      have dj : xn < 256 := by
       have := (pv eb.out _ gf).1;unfold de at this;simp at this;omega
      have i8 : Hid (xn < 256 ∧ 256 ≤ cX) := zH ⟨dj, fy.out⟩;have fg : Hid (xn < 256 ∧ 256 ≤ cH) := zH ⟨dj, gh.out⟩;have f9 := iv aj.out.1 ba.out.bel;obtain ⟨gI, oI, f4, -⟩ := f9 (by show 0 < al.length; have := HM.out; omega);have f4 : bu = some ⟨gI, oI, none⟩ := f4;subst f4;have ja := zH (ua f9 hx);have kl : Hid (k2 < M ∧ M ≤ ad) := zH ⟨hlm, by have h : al.length ≤ ad := aj.out.2.1; rw [HM.out] at h; exact h⟩;obtain ⟨n0, hn0⟩ : ∃ n, hv[xn]? = some n := ⟨_, List.getElem?_eq_getElem (by rw [g0.out]; exact dj)⟩;have ic : Hid n0.OK := zH (d3.out.ok n0 (List.mem_of_getElem? hn0));have ir : hv.getD xn zeroI = n0 := (by rw [List.getD_eq_getElem?_getD, hn0]; rfl);obtain ⟨cy, ch⟩ : ∃ b, eqI n0 xi = b := ⟨_, rfl⟩;have kb := zH ch;have b1 := I9 (hv := hv) hx;rw [show (hv.getD (xn, xi).1 zeroI) = n0 from ir, show eqI n0 (xn, xi).2 = cy from ch] at b1;have j5 := zH b1;obtain ⟨iq, bz⟩ := ey.out.putI (by rw [vm]; exact g0.out) (Yj d3.out.ok (fun y hy => aj.out.2.2 y (List.mem_of_mem_take hy))) dj bq.out
      have cd : RowB 62 44 [(gX, cs.take (xn * 44) ++ af xi ++ cs.drop (xn * 44 + (af xi).length), 62)] (.slice (some ⟨gX, 0, none⟩) 256 cX) 256 (cu (jj hv (al.take (k2 + 1)))) := by
       rw [Pv hx]; exact bz
      have dd := zH cd; have i6 := zH iq;have jn : Hid (∀ X bs', Fr W1 D t2 bs' X → (∀ y ∈ (gX, cs, 62) :: (g9, a8 p2, 28) :: BS, y ∈ bs') → X.rangeAt gH (xn * 44) (af n0)) := zH fun X bs' hX hsub => (i1.out.src hX (fun y hy => hsub y (by rw [← bi.out]; simp [hy])) d3.out.ok).2 xn n0 hn0
      have jf : Hid ((tcI (xn, xi)).toArray.size = 45) := zH (by rw [List.size_toArray, bw bq.out])
      have ko : Hid ((tcI (xn, xi)).toArray.all (·.oneCell') = true) := zH (by
       rw [Array.all_eq_true_iff_forall_mem];intro u hu;rcases List.mem_cons.1 (by simpa [tcI] using hu) with rfl | h
       ·rfl
       ·exact tg xi u h)
      clear hx gf dj f9 hn0 ir ch b1 iq bz cd
      go_upto_region 22 with (first | (refine a9 rfl (si rfl rfl rfl et.out) ?_) | (refine a9 rfl (ry rfl rfl it.out) ?_) | (refine a9 rfl (dy rfl rfl rfl kl.out) ?_) | (refine a9 rfl (Z6 bq.out ja.out rfl rfl) ?_) | (refine wpList_store_row rfl 64 (.tmp 14) (.tmp 88) rfl wr.heap.size (tcI (xn, xi)).toArray rfl rfl 64 _ (heap_alloc_new wr _) (by rw [jf.out]; exact Rl) (by rw [jf.out]; rfl) ko.out ?_) | fail)
      refine (fun (k' : ∀ W, Fr W1 D t2 ((wr.heap.size, tcI (xn, xi), 64) :: (gX, cs, 62) :: (g9, a8 p2, 28) :: BS) W → Code.wp _ _ _ _ W) => k' _ (ba.out.add (ar wr _ (tcI (xn, xi)) 64).2 (Nat.le_refl _) (ar wr _ (tcI (xn, xi)) 64).1)) ?_;intro X8 hf8;obtain ⟨d4, ec⟩ : ∃ g, wr.heap.size = g := ⟨_, rfl⟩;rw [ec] at hf8 ⊢;have ks := zH hf8;have gk := hf8.at (g := d4) (cs := tcI (xn, xi)) (t := 64) (by simp);have g8 : Blk X8.drew d4 (tcI (xn, xi)) 64 ∧ X8.drew.rangeAt gH (xn * 44) (af n0) := ⟨gk.drew, jn.out _ _ hf8.drew (fun y hy => by simp only [List.mem_cons] at hy ⊢; exact .inr hy)⟩;have ci := hf8.drew;have fu := gk.drew;have ap : Hid (Fr W1 D t2 ((gX, cs, 62) :: (g9, a8 p2, 28) :: BS) X8.drew) := zH (ci.sub (fun y hy => by simp only [List.mem_cons] at hy ⊢; exact .inr hy));have ai := zH (Rx ap.out g7.out.1 g7.out.2 i6.out);have ip := ap.out.at (g := gX) (cs := cs) (t := 62) (by simp);have j2 : Hid (X8.drew.there gX (xn * 44) (af xi).toArray.size) := zH (ip.there _ _ (by rw [List.size_toArray]; exact i6.out));have ah := zH g8;clear hf8 ec gk ci fu ip ba it ey ja;obtain ⟨b0, gg⟩ : ∃ b, y7 hv (al.take k2) = b := ⟨_, rfl⟩;have b3 := j5.out;rw [gg] at b3 ⊢;obtain ⟨i7, ao⟩ : ∃ b, (b0 && cy) = b := ⟨_, rfl⟩;rw [ao] at b3;have ht := zH b3;have kr : (tcI (xn, xi))[0]? = some (.int .u16 (xn : Int)) := rfl;clear b3 gg j5;cases b0
      case true =>
       have ck : cy = i7 := (by simpa using ao);subst ck;clear ao;refine gS (.take 0 (.take 1 (.take 2 (.take 3 (.take 4 (.take 5 (.take 6 (.take 7 (.take 8 (.take 9 (.take 10 (.take 11 (.nil))))))))))))) (fun X => Blk X d4 (tcI (xn, xi)) 64 ∧ X.rangeAt gH (xn * 44) (af n0)) (ah.out) ?_;refine gT (.bool true) ?_;refine gT (.bool true) ?_;refine gT (.slice (some ⟨gH, 0, none⟩) 256 cH) ?_;refine gU (.pointer (some ⟨d4, 0, none⟩)) rfl (fun X hX => rj (.inl rfl) rfl rfl) ?_;refine gU (.int .u16 (xn : Int)) rfl (fun X hX => az Tryz.underlying23 rfl rfl (hX.1.cell (zv xn xi))) ?_;refine gU (.pointer (some ⟨gH, xn * 44, none⟩)) rfl (fun X hX => Dw rfl rfl rfl fg.out) ?_;refine gU (.agg (af n0).toArray) rfl (fun X hX => fa ic.out hX.2 rfl rfl) ?_;refine gU (.pointer (some ⟨d4, 1, none⟩)) rfl (fun X hX => rj (.inr rfl) rfl rfl) ?_;refine gU (.agg (af xi).toArray) rfl (fun X hX => fa bq.out (sg hX.1) rfl rfl) ?_;refine gU (.bool cy) rfl (fun X hX => ur kb.out rfl rfl rfl ic.out bq.out) ?_;refine gT (.bool cy) ?_;refine gT (.bool cy) ?_;refine au ?_
       go_wp2_with (first | (refine a9 rfl (rj (.inl rfl) rfl rfl) ?_) | (refine a9 rfl (az Tryz.underlying23 rfl rfl (ah.out.1.cell (zv xn xi))) ?_) | (refine a9 rfl (rj (.inr rfl) rfl rfl) ?_) | (refine a9 rfl (fa bq.out (sg ah.out.1) rfl rfl) ?_) | (refine a9 rfl (Dw rfl rfl rfl i8.out) ?_) | (refine wpList_store_mid rfl 62 (.tmp 105) (.tmp 104) rfl gX (xn * 44) (af xi).toArray rfl rfl j2.out (E7 bq.out) (fk xi) ?_) | fail)
       go_roundw
       case rel => exact ⟨k2 + 1, _, by omega, by go_num, by rw [ht.out], dd.out, ai.out⟩
       case measure => simp [intOf]; omega
      case false =>
       have ck : i7 = false := (by simpa using ao.symm);subst ck;clear ao;refine gS (.take 0 (.take 1 (.take 2 (.take 3 (.take 4 (.take 5 (.take 6 (.take 7 (.take 8 (.take 9 (.take 10 (.take 11 (.nil))))))))))))) (fun X => Blk X d4 (tcI (xn, xi)) 64 ∧ X.rangeAt gH (xn * 44) (af n0)) (ah.out) ?_;refine gT (.bool false) ?_;refine gT (.bool false) ?_;refine gP ?_;refine gP ?_;refine gP ?_;refine gP ?_;refine gP ?_;refine gP ?_;refine gP ?_;refine gP ?_;refine gT (.bool false) ?_;refine gT (.bool false) ?_;refine au ?_
       go_wp2_with (first | (refine a9 rfl (rj (.inl rfl) rfl rfl) ?_) | (refine a9 rfl (az Tryz.underlying23 rfl rfl (ah.out.1.cell (zv xn xi))) ?_) | (refine a9 rfl (rj (.inr rfl) rfl rfl) ?_) | (refine a9 rfl (fa bq.out (sg ah.out.1) rfl rfl) ?_) | (refine a9 rfl (Dw rfl rfl rfl i8.out) ?_) | (refine wpList_store_mid rfl 62 (.tmp 105) (.tmp 104) rfl gX (xn * 44) (af xi).toArray rfl rfl j2.out (E7 bq.out) (fk xi) ?_) | fail)
       go_roundw
       case rel => exact ⟨k2 + 1, _, by omega, by go_num, by rw [ht.out], dd.out, ai.out⟩
       case measure => simp [intOf]; omega
     ·obtain rfl : M = k2 := by omega
      clear hlm k9 kh;have j1 : al.take M = al := (by rw [← HM.out, List.take_length]);have g2 := ey.out;rw [j1] at g2 ⊢;have gz := zH g2;obtain ⟨d5, es⟩ : ∃ x, jj hv al = x := ⟨_, rfl⟩;rw [es] at gz b6;have cw := O2 (hv := hv) g0.out eb.out;rw [es] at cw;have a0 := dm.out;have a5 := dh.out;rw [es] at a0 a5;have b5 : Hid (d5.length = 256 ∧ ∀ n ∈ d5, n.OK) := zH ⟨b6.out.len, b6.out.ok⟩;have fq : Hid (MapI ((gX, cs, 62) :: K) (.slice (some ⟨gX, 0, none⟩) 256 cX) d5) := zH ⟨b5.out.1, [(gX, cs, 62)], gz.out, fun y hy => by simp at hy; simp [hy]⟩;obtain ⟨vS, bn, ek, -, -, -⟩ := ba.out.cells;obtain ⟨cv, b4, db, -⟩ := cz ek;have c2 := bn.cell (j := 2) rfl;rw [db] at c2;have dq := ba.out.at (g := g9) (cs := a8 p2) (t := 28) (by simp);have fd := ba.out.at (g := gR) (cs := a8 root) (t := 28) (by rw [← bi.out]; simp);obtain ⟨X9, iz⟩ : ∃ X, wr = X := ⟨_, rfl⟩;rw [iz] at c2 dq fd ba ⊢;have d0 := zH dq; have da := zH fd;obtain ⟨sm, b3⟩ : ∃ b, y7 hv al = b := ⟨_, rfl⟩;rw [b3] at cw ⊢;clear j1 g2 ey es bn ek db dq fd iz b3;have k1 := zH (ew.out _ ba.out.bel)
      go_upto_region 24 with (first | (refine a9 rfl (si rfl rfl rfl et.out) ?_) | (refine a9 rfl (ry rfl rfl k1.out) ?_) | fail)
      go_cut [134] from 31 to 159 (fun s wx => s = .bool false ∧ X9 = wx)
      case first =>
       cases sm
       case true =>
        have hq := a0 (cw.1 rfl);have HQ : Hid (eqP p2 root = true) := zH (by rw [hq.1]; exact br _);rw [hq.2] at c2;have ke : Hid (X9.cell? ⟨D, 2, none⟩ = some (.slice cv 0 b4)) := zH c2;clear cw a0 a5 hq c2;refine wp_region_list (yl ?_);refine qV (.int .i64 0) ?_;refine qV (.bool false) ?_;refine qV (.bool false) ?_;refine qV (.bool true) ?_;refine qm (.agg (a8 p2).toArray) (by rfl) (ax b2.out d0.out rfl rfl) ?_; try simp only [pS]
        refine qm (.agg (a8 root).toArray) (by rfl) (ax ce.out da.out rfl rfl) ?_; try simp only [pS]
        refine qm (.bool true) (by rfl) (Kq HQ.out rfl rfl rfl b2.out ce.out) ?_; try simp only [pS]
        refine qV (.bool false) ?_;refine qV (.bool false) ?_;refine df (by rfl) ?_; try simp only [pS]
        refine df (by rfl) ?_; try simp only [pS]
        refine df (by rfl) ?_; try simp only [pS]
        refine df (by rfl) ?_; try simp only [pS]
        refine df (by rfl) ?_; try simp only [pS]
        refine df (by rfl) ?_; try simp only [pS]
        refine df (by rfl) ?_; try simp only [pS]
        refine qV (.bool false) ?_;refine qV (.bool false) ?_;refine qV (.bool false) ?_;refine qV (.bool true) ?_;refine qV (.bool true) ?_;refine qV (.pointer (some ⟨D, 0, none⟩)) ?_;refine qV (.pointer (some ⟨D, 0, none⟩)) ?_;refine qV (.pointer (some ⟨D, 2, none⟩)) ?_;refine qm (.slice cv 0 b4) (by rfl) (i9 rfl rfl ke.out) ?_; try simp only [pS]
        refine qV (.int .i64 0) ?_;refine qV (.bool false) ?_;refine qV (.bool false) ?_;refine qV (.bool false) ?_;refine ug ?_
        go_wp2_with fail
        go_meet
        exact ⟨rfl, rfl⟩
       case false =>
        have hq := a5 (fun e => by have := cw.2 e; cases this)
        have HQ : Hid (eqP p2 root = false) := zH (by
         cases h : eqP p2 root
         ·rfl
         ·exact absurd (sa.1 h) hq)
        clear cw a0 a5 hq c2;refine wp_region_list (yl ?_);refine qV (.int .i64 0) ?_;refine qV (.bool false) ?_;refine qV (.bool false) ?_;refine qV (.bool false) ?_;refine qm (.agg (a8 p2).toArray) (by rfl) (ax b2.out d0.out rfl rfl) ?_; try simp only [pS]
        refine qm (.agg (a8 root).toArray) (by rfl) (ax ce.out da.out rfl rfl) ?_; try simp only [pS]
        refine qm (.bool false) (by rfl) (Kq HQ.out rfl rfl rfl b2.out ce.out) ?_; try simp only [pS]
        refine qV (.bool false) ?_;refine qV (.bool false) ?_;refine df (by rfl) ?_; try simp only [pS]
        refine df (by rfl) ?_; try simp only [pS]
        refine df (by rfl) ?_; try simp only [pS]
        refine df (by rfl) ?_; try simp only [pS]
        refine df (by rfl) ?_; try simp only [pS]
        refine df (by rfl) ?_; try simp only [pS]
        refine df (by rfl) ?_; try simp only [pS]
        refine qV (.bool false) ?_;refine qV (.bool false) ?_;refine qV (.bool false) ?_;refine qV (.bool false) ?_;refine qV (.bool false) ?_;refine df (by rfl) ?_; try simp only [pS]
        refine df (by rfl) ?_; try simp only [pS]
        refine df (by rfl) ?_; try simp only [pS]
        refine df (by rfl) ?_; try simp only [pS]
        refine df (by rfl) ?_; try simp only [pS]
        refine df (by rfl) ?_; try simp only [pS]
        refine qV (.bool false) ?_;refine qV (.bool false) ?_;refine ug ?_
        go_wp2_with fail
        go_meet
        exact ⟨rfl, rfl⟩
      case rest =>
       obtain ⟨rfl, rfl⟩ := hcut;clear cw a0 a5 c2
       go_wp2_with (first | (refine a9 rfl (ax b2.out d0.out rfl rfl) ?_) | fail)
       refine (z9 ba.out b6.out ef.out en.out gX cX fy.out (fun s' bs' Y hY hsub => fq.out.src hY (fun y hy => by
        rcases List.mem_cons.1 hy with h | h
        ·exact hsub y (by simp [h])
        ·exact hsub y (by rw [← bi.out]; simp [h])) b5.out.2) gl.out (by have := HS.out.1; omega)).mono ?_
       rintro e kc ⟨s3, rs, rfl, eo, cn, ed⟩;have cl := zH eo; have ai := zH cn;have fw := zH (ed.mono (b := 23000 * (k + 1)) (by omega) (by have := HS.out.1; omega))
       have ju := zH (F9 d5 b5.out.1 b5.out.2 gX cX fy.out kc (fq.out.src cn (fun y hy => by
        rcases List.mem_cons.1 hy with h | h
        ·simp [h]
        ·rw [← bi.out]; simp [h]) b5.out.2))
       clear eo cn ed ba gl
       go_wp2_with fail
       refine ju.out.mono ?_;rintro e k6 ⟨rfl, rfl⟩
       go_upto_region 29 with fail
       have ka := zH (bh b2.out);have k5 : Hid ((a8 p2).toArray.size = 41) := zH (by rw [List.size_toArray, aa b2.out]);have f7 : Hid ((a8 root).toArray.size = 41) := zH (by rw [List.size_toArray, aa ce.out]);obtain ⟨aR, aM, aG⟩ := a0t (c1 := a8 p2) (cs := cs) bi.out a3.out.apR a3.out.apM a3.out.apG (fun z hz => g7.out.2 z (by simp [hz]));have jw := zH aR; have g3 := zH aM; have ev := zH aG
       have co : Hid (Fr W1 D s3 ((gR, a8 root, 28) :: (rb ++ (mb ++ ((gX, cs, 62) :: K)))) k6) := zH (ai.out.sub (fun y hy => by
        have hB : ∀ z : Nat × List Value × TypeId, z ∈ (gR, a8 root, 28) :: (rb ++ (mb ++ K)) → z ∈ BS := fun z hz => by rw [← bi.out]; exact hz
        simp only [List.mem_cons, List.mem_append] at hy ⊢;rcases hy with h | h | h | h | h
        ·exact .inr (.inr (hB y (by simp [h])))
        ·exact .inr (.inr (hB y (by simp [h])))
        ·exact .inr (.inr (hB y (by simp [h])))
        ·exact .inl h
        ·exact .inr (.inr (hB y (by simp [h])))))
       have e7 := zH (ai.out.at (g := g9) (cs := a8 p2) (t := 28) (by simp));have c8 := zH (co.out.at (g := gR) (cs := a8 root) (t := 28) (by simp));have d9 := zH (Dr (cs' := a8 p2) co.out (ev.out (gR, a8 p2, 28) (by simp)).1 (ev.out (gR, a8 p2, 28) (by simp)).2);clear aR aM aG
       go_upto_region 30 with (first | (refine a9 rfl (ax b2.out e7.out rfl rfl) ?_) | (refine wpList_store_row rfl 28 (.tmp 4) (.tmp 150) rfl gR (a8 p2).toArray rfl rfl 28 _ c8.out ka.out (by rw [k5.out, f7.out]) (bb p2) ?_) | fail)
       refine (fun (k' : ∀ W, Fr W1 D s3 ((gR, a8 p2, 28) :: (rb ++ (mb ++ ((gX, cs, 62) :: K)))) W → Code.wp _ _ _ _ W) => k' _ d9.out) ?_;intro X12 hX12;have e5 := zH (hX12.at (g := gR) (cs := a8 p2) (t := 28) (by simp));have jb := a3.out.roots;have dz : Below X12.heap.size X12 (X12.alloc (.cells (a8 p2).toArray 28)) := (Below.refl _ _).alloc (Nat.le_refl _) _;have gv : Hid (a7.length ≤ 30) := zH (by have := a3.out.len; have := HS.out.1; omega)
       obtain ⟨kq, dp, g1, eg, c7, dt, ei⟩ := Ik a0w (rb := rb) (bs := (gR, a8 p2, 28) :: (mb ++ ((gX, cs, 62) :: K))) (ys := a8 p2) (g := X12.heap.size) (c := 1) (m := 1) (hX12.sub (fun y hy => by
        simp only [List.mem_cons, List.mem_append] at hy ⊢;rcases hy with h | h | h
        ·exact .inr (.inl h)
        ·exact .inl h
        ·exact .inr (.inr h))) jb jw.out (by have := gv.out; omega) dz (by rw [aa b2.out]) (fun j u hu => by
        have hB := (Blk.new X12 (a8 p2) 28).cell hu;rw [Addr.add_mid, Nat.zero_add]
        exact hB) (fun u hu => tu p2 u hu)
       have dv := zH eg; have c5 := zH c7; have e8 := zH dt; have ay := zH ei;clear hX12 jb dz eg c7 dt ei ai co d9 e7 c8
       go_upto_region 31 with (first | (refine a9 rfl (ax b2.out e5.out rfl rfl) ?_) | (refine a9 rfl (Ab p2 rfl rfl b2.out) ?_) | (at_builtin; refine a9 rfl (sn rfl rfl rfl dv.out) ?_) | fail)
       obtain ⟨g6, ds, rfl⟩ := c5.out.form;have ee := a3.out.maps
       have e6 : pj W1 mb ((gR, a8 p2, 28) :: (g1 ++ ((gX, cs, 62) :: K))) := fun y hy => ⟨(g3.out y hy).1, fun z hz => by
        rcases List.mem_cons.1 hz with h | h
        ·exact (g3.out y hy).2 z (by simp [h])
        ·rcases List.mem_append.1 h with h | h
         ·exact fun e => (ay.out z h).2 y (by simp [hy]) e.symm
         ·exact (g3.out y hy).2 z (by simp only [List.mem_cons, List.mem_append]; exact .inr (.inr (by simpa using h)))⟩
       have er : Below dp.heap.size dp (dp.alloc (.cells #[.slice (some ⟨gX, 0, none⟩) 256 cX] 51)) := (Below.refl _ _).alloc (Nat.le_refl _) _
       obtain ⟨kk, k0, ji, ej, ca, ea, an⟩ := Ik Z0 (rb := mb) (bs := (gR, a8 p2, 28) :: (g1 ++ ((gX, cs, 62) :: K))) (ys := [.slice (some ⟨gX, 0, none⟩) 256 cX]) (g := dp.heap.size) (c := 1) (m := 1) (e8.out.sub (fun y hy => by
        simp only [List.mem_cons, List.mem_append] at hy ⊢;rcases hy with h | h | h | h
        ·exact .inr (.inr (.inl h))
        ·exact .inr (.inl h)
        ·exact .inl h
        ·exact .inr (.inr (.inr h)))) ee e6 (by have := gv.out; omega) er rfl (fun j u hu => by
        have hB := (Blk.new dp [.slice (some ⟨gX, 0, none⟩) 256 cX] 51).cell hu;rw [Addr.add_mid, Nat.zero_add]
        exact hB) (fun u hu => by simp only [List.mem_singleton] at hu; subst hu; rfl)
       have g5 := zH ej;have fm : (a7 ++ [(⟨root, hv, hh, mids, .slice (some ⟨gH, 0, none⟩) 256 cH⟩ : Rt)]).length.succ = a7.length.succ + 1 := (by simp)
       have d6 : UmS W1 D gR s3 (k + 1) (a7 ++ [(⟨root, hv, hh, mids, .slice (some ⟨gH, 0, none⟩) 256 cH⟩ : Rt)]) ⟨p2, d5, jd, cf, .slice (some ⟨gX, 0, none⟩) 256 cX⟩ (.slice g6 (a7.length.succ + 1) ds) kk g1 ji ((gX, cs, 62) :: K) k0 := by
        have b7 := cl.out.bl;have fc : s3.room = t2.room := (by have := cl.out; unfold More at this; rw [this]);have di : ∀ (j : Nat) (b : Bs), s.blocks[j]? = some b → s3.blocks[j]? = some b := fun j b hb => by rw [b7.1]; exact gq.out j b hb
        refine ⟨ea.sub (fun y hy => ?_), ?_, ?_, by rw [List.length_append]; have := a3.out.len; simp; omega, fun q hq => ?_, b7.2.trans ef.out, fc.trans f1.out, ?_, fun b hb => en.out b (by rw [← b7.1]; exact hb), fw.out, fun y hy => ⟨(ay.out y hy).1, fun z hz => ?_⟩, fun y hy => ⟨(an y hy).1, fun z hz => ?_⟩, fun y hy => ⟨(ev.out y hy).1, fun z hz => ?_⟩⟩
        ·simp only [List.mem_cons, List.mem_append] at hy ⊢
         rcases hy with h | h | h | h
         ·exact .inr (.inl h)
         ·exact .inr (.inr (.inl h))
         ·exact .inl h
         ·exact .inr (.inr (.inr h))
        ·have := c5.out
         rw [fm, List.map_append, List.map_cons, List.map_nil, Ac];exact this
        ·have := ca
         rw [fm, List.map_append, List.map_cons, List.map_nil];exact this
        ·rcases List.mem_append.1 hq with hq | hq
         ·obtain ⟨a1, a2⟩ := a3.out.rcs q hq
          exact ⟨a1.mono di, a2.mono (fun y hy => by simp [hy])⟩
         ·simp only [List.mem_singleton] at hq
          subst hq;refine ⟨?_, fq.out⟩;show IsTab s3.blocks p2 d5 jd cf;rw [b7.1]; exact b6.out
        ·rw [b7.1]
         have a1 := gj.out;have a2 := a3.out.bl;omega
        ·rcases List.mem_cons.1 hz with h | h
         ·exact (ay.out y hy).2 z (by rw [h]; simp)
         ·rcases List.mem_append.1 h with h | h
          ·exact fun e => (an z h).2 y (by simp [hy]) e.symm
          ·exact (ay.out y hy).2 z (by simp only [List.mem_cons, List.mem_append]; exact .inr (.inr (by simpa using h)))
        ·exact (an y hy).2 z hz
        ·have hl : y = (gR, a8 p2, 28) := by simpa using hy
         rcases List.mem_append.1 hz with h | h
         ·exact fun e => (ay.out z h).2 y (by rw [hl]; simp) e.symm
         ·rcases List.mem_append.1 h with h | h
          ·exact fun e => (an z h).2 y (by rw [hl]; simp) e.symm
          ·exact (ev.out y hy).2 z (by simp only [List.mem_append]; exact .inr (.inr (by simpa using h)))
       have fj := zH d6;clear ee e6 er ej ca ea an fm d6 e8 dv
       go_wp2_with (first | (refine a9 rfl (Gt rfl rfl) ?_) | (at_builtin; refine a9 rfl (Qk rfl rfl rfl g5.out) ?_) | fail)
       go_roundw
       case rel => exact ⟨k + 1, s3, _, _, _, _, _, by omega, by go_num, rfl, fj.out⟩
       case measure => simp [intOf]; omega
  ·obtain rfl : N = k := by omega
   clear hlt hk jo;have fo := a3.out.fr;have dw := a3.out.roots;have dk := a3.out.maps;obtain ⟨RC, fh⟩ : ∃ l, a7 ++ [r] = l := ⟨_, rfl⟩;obtain ⟨H1, gu⟩ : ∃ n, a7.length.succ = n := ⟨_, rfl⟩;have iw : RC.length = H1 := (by rw [← fh, ← gu]; simp);have bm : H1 ≤ 31 ∧ 0 < H1 := (by have := a3.out.len; have := HS.out.1; omega);rw [gu] at dw dk ⊢;obtain ⟨gr, cr, _, kn, -, jc⟩ : ∃ g cap cs, Value.slice j3 H1 aw = .slice (some ⟨g, 0, none⟩) H1 cap ∧ rb = [(g, cs, 28)] ∧ H1 ≤ cap := dw.big bm.2;injection kn with e1 _ e3
   subst e1 e3;obtain ⟨gm, cm, _, jm, -, jz⟩ : ∃ g cap cs, Value.slice i2 H1 bv = .slice (some ⟨g, 0, none⟩) H1 cap ∧ mb = [(g, cs, 51)] ∧ H1 ≤ cap := dk.big bm.2;injection jm with e1 _ e3
   subst e1 e3;obtain ⟨BS, cq⟩ : ∃ b, (gR, a8 r.root, 28) :: (rb ++ (mb ++ K)) = b := ⟨_, rfl⟩;rw [cq] at fo;have c4 := a3.out.rcs;rw [fh] at c4 dw dk;have hg : Hid (∀ q ∈ RC, IsTab s.blocks q.root q.hv q.hh q.mids ∧ MapI K q.v q.hv) := zH c4;have hm := zH iw;have jt := zH dw; have gx := zH dk
   have bt : Hid ((∀ y ∈ rb, y ∈ BS) ∧ (∀ y ∈ mb, y ∈ BS) ∧ ∀ y ∈ K, y ∈ BS) := zH (by
    rw [← cq]
    exact ⟨fun y hy => by simp [hy], fun y hy => by simp [hy], fun y hy => by simp [hy]⟩)
   have i0 := zH fo;have jp : Hid (H1 ≤ aw) := zH jc;have hi : Hid (Lim (23000 * N + 19043 * 0) s) := zH (by simpa using a3.out.lim);have gi := zH a3.out.bad;have gp := zH a3.out.bk;have ep : Hid (N ≤ 30) := zH HS.out.1;have f3 : Hid (H1 ≤ 31) := zH bm.1;clear fo dw dk fh iw cq c4 jc jz a3 HS gu bm
   go_wp2_with fail
   go_loopw [17] (fun i wr => ∃ (k : Nat) (s' : Sh) (rs : List Pt), k ≤ H1 ∧ i = .int .i64 (k : Int) ∧ More s s' rs ∧ Lim (23000 * N + 19043 * k) s' ∧ Fr W1 D s' BS wr) (fun i _ => H1 - (intOf i).toNat)
   case atStart => exact ⟨0, s, [], by omega, rfl, More.refl s, hi.out, i0.out⟩
   case round =>
    clear i0 hi;obtain ⟨k, s', rs, hk, rfl, eo, b9, hf⟩ := hrel;have cl := zH eo; have jk := zH b9; have HF := zH hf;clear eo b9 hf;have jl := IntWalk.i64_in ((k : Int) + 1) (by have := f3.out; omega);by_cases hlt : k < H1
    ·obtain ⟨q, hq⟩ : ∃ q, RC[k]? = some q := ⟨_, List.getElem?_eq_getElem (by have := hm.out; omega)⟩
     obtain ⟨ft, fb⟩ := hg.out q (List.mem_of_getElem? hq);obtain ⟨gH, cH, eu, dl⟩ := fb.form;have ci := HF.out.drew;have hs : Hid (k < H1 ∧ H1 ≤ aw) := zH ⟨hlt, jp.out⟩;have b3 := gx.out.cellI ci bt.out.2.1 (k := k) (v := q.v) (by rw [List.getElem?_map, hq]; rfl);have jx : Hid (k < H1 ∧ H1 ≤ bv) := zH ⟨hlt, b3.1⟩;rw [eu] at b3;have ii := zH ft; have jg : Hid q.root.OK := zH ft.root; have km : Hid (MapI K (.slice (some ⟨gH, 0, none⟩) 256 cH) q.hv) := zH (by rw [← eu]; exact fb);have gh : Hid (256 ≤ cH) := zH dl
     have f7 : Hid (∀ s2 X, Fr W1 D s2 BS X → X.rangeAt gr (k * 41) (a8 q.root)) := zH fun s2 X hX => by
      have h1 := jt.out;have h2 : (RC.map Rt.root).length = H1 := (by rw [List.length_map, hm.out]);rw [← h2] at h1
      exact (OwnM.src (hX.row h1 bt.out.1) (fun p hp => by
       obtain ⟨z, hz, e⟩ := List.mem_map.1 hp
       rw [← e]; exact (hg.out z hz).1.root)).at (by rw [List.getElem?_map, hq]; rfl)
     have fs : Hid (∀ s2 X, Fr W1 D s2 BS X → X.cell? ⟨gm, k, none⟩ = some (.slice (some ⟨gH, 0, none⟩) 256 cH)) := zH fun s2 X hX => by
      have := (gx.out.cellI hX bt.out.2.1 (k := k) (v := q.v) (by rw [List.getElem?_map, hq]; rfl)).2;rw [eu] at this;exact this
     have ia := zH (z9 ci (by rw [cl.out.bl.1]; exact ii.out) (by rw [cl.out.bl.2]; exact gi.out) (fun b hb => gp.out b (by rw [← cl.out.bl.1]; exact hb)) gH cH gh.out (fun s2 bs' Y hY hsub => km.out.src hY (fun y hy => hsub y (bt.out.2.2 y hy)) ii.out.ok) jk.out (by have := ep.out; have := f3.out; omega));have cb : ∃ s2, Fr W1 D s2 BS wr.drew := ⟨s', ci⟩;clear hq ft fb eu dl ci b3
     go_upto_region 35 with fail
     refine gS (.take 0 (.take 1 (.take 2 (.take 3 (.take 4 (.take 5 (.take 6 (.take 7 (.take 8 (.step 9 (.take 10 (.take 11 (.take 12 (.take 13 (.take 14 (.nil)))))))))))))))) (fun X => ∃ s2, Fr W1 D s2 BS X) (cb) ?_;refine gT (.pointer (some ⟨D, 0, none⟩)) ?_;refine gT (.slice (some ⟨gr, 0, none⟩) H1 aw) ?_;refine gT (.int .i64 (k : Int)) ?_;refine gU (.pointer (some ⟨gr, k * 41, none⟩)) rfl (fun X hX => K6 rfl rfl rfl hs.out) ?_;refine gU (.agg (a8 q.root).toArray) rfl (fun X hX => a0a jg.out (f7.out _ _ hX.choose_spec) rfl rfl) ?_;refine gT (.slice (some ⟨gm, 0, none⟩) H1 bv) ?_;refine gT (.int .i64 (k : Int)) ?_;refine gU (.pointer (some ⟨gm, k, none⟩)) rfl (fun X hX => T9 rfl rfl rfl jx.out) ?_;refine gU (.slice (some ⟨gH, 0, none⟩) 256 cH) rfl (fun X hX => Ty rfl rfl (fs.out _ _ hX.choose_spec)) ?_
     refine b8 _ rfl (by rfl) 18 #[.pointer (some ⟨D, 0, none⟩), .agg (a8 q.root).toArray, .slice (some ⟨gH, 0, none⟩) 256 cH] (fun X => by go_simp) (fun u X => u = .tuple #[.int .i64 (wg q.hv : Int), .bool true] ∧ ∃ s3 e9, More s' s3 e9 ∧ Fr W1 D s3 BS X ∧ Lim (23000 * N + 19043 * (k + 1)) s3) (ia.out.mono fun e X he => by
      obtain ⟨s3, e9, e1, h2, h3, h4⟩ := he
      exact ⟨_, e1, ⟨s3, h3⟩, rfl, s3, e9, h2, h3, h4.mono (by omega) (by have := ep.out; have := f3.out; have := hs.out; omega)⟩) ?_
     rintro u X3 k4 ⟨rfl, s3, e9, f8, jy, kj⟩;refine ⟨_, fun _ h => h, k4, ?_⟩; try simp only [pS]
     refine gT (.tuple #[.int .i64 (wg q.hv : Int), .bool true]) ?_;refine gT (.int .i64 (wg q.hv : Int)) ?_;refine gT (.bool true) ?_;refine gT (.int .i64 (wg q.hv : Int)) ?_;refine gT (.bool true) ?_;refine au ?_;clear cb ia
     go_wp2_with fail
     go_roundw
     case rel => exact ⟨k + 1, s3, rs ++ e9, by omega, by go_num, cl.out.trans f8, kj, jy⟩
     case measure => simp [intOf]; omega
    ·obtain rfl : k = H1 := by omega
     clear hlt hk jl;have jv := zH HF.out.tab;have d0 := zH HF.out.bel
     go_wp2_with fail
     refine (y8 _ jv.out).mono ?_;rintro e W9 ⟨rfl, dq⟩;have HE := zH (HP.out _ (ix.out.trans ((d0.out.trans (dq.mono d0.out.size)).mono ix.out.size)))
     go_wp2_with fail
     first | exact HE.out | (go_ret; exact HE.out)
end Go.Proofs.YtjgjohdeeeoeoaaGreatDoor
