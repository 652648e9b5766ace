/- Whether items may be set. -/
import Derived.Test.YtjgjohdeeeoeoaaGreatDoorM27
import Derived.Laws.OwnMore
set_option linter.all false
namespace Go.Proofs.YtjgjohdeeeoeoaaGreatDoor
open Go.RowKit
attribute [local go_sem] Oper.semAt_some
variable {l : List Itm} {D G : Nat} {L : Nat → Nat} {o : Oper} {ρ : Operand → Value} {sp : Option Addr} {p : Pt} {s s1 : Sh} {W X Y w : World}
def de (l : List Itm) (i : Nat) : Bool := match l[i]? with
 | some x => df x.1 && (decide (i = 0) || decide ((l.getD (i - 1) (0, zeroI)).1 < x.1)) && ij x.2
 | none => true
def ka (l : List Itm) : Bool := (List.range l.length).all (de l)
theorem vi {k : Nat} (hk : k < l.length) (h : de l k = false) : ka l = false := by
 unfold ka;rw [List.all_eq_false];exact ⟨k, List.mem_range.2 hk, by simp [h]⟩
theorem G1 (h : ∀ i, i < l.length → de l i = true) : ka l = true := by
 unfold ka;rw [List.all_eq_true];exact fun i hi => h i (List.mem_range.1 hi)
theorem S3 {x y : Operand} {a b : Nat} {t : TypeId} (ho : o.op = .binOp .leq 23 x y t) (hx : ρ x = .int .u16 (a : Int)) (hy : ρ y = .int .u16 (b : Int)) : (execOp ρ o).run Tryz.prog w = .ok (.value (.bool (decide (a ≤ b)))) w := by
 have e : decide ((a : Int) ≤ (b : Int)) = decide (a ≤ b) := by
  rw [Bool.eq_iff_iff]; simp
 unfold execOp;simp only [ho];go_simp
structure StTm (sp : Option Addr) (l : List Itm) (w W : World) : Prop where
 src : SrcT W sp l
 tab : RTab W
 bel : Below w.heap.size w W
theorem StTm.drewS (h : StTm sp l w W) : StTm sp l w W.drew := ⟨h.src.drew, h.tab.grown (Below.refl _ _).drew, h.bel.drew⟩
theorem StTm.grown {W' : World} (h : StTm sp l w W) (hb : Below W.heap.size W W') : StTm sp l w W' := ⟨h.src.grown hb, h.tab.grown hb, h.bel.trans (hb.mono h.bel.size)⟩
set_option maxRecDepth 100000 in
set_option maxHeartbeats 8000000 in
theorem Ao (l : List Itm) (hok : ∀ x ∈ l, Itm.OK x) (sp : Option Addr) (cap : Nat) (hc : l.length ≤ cap) (hl : l.length ≤ 1000) (w : World) (hS : SrcT w sp l) (hT : RTab w) : Calls Tryz.prog 34 #[.slice sp l.length cap] w fun e w' => e = .returned (.bool (ka l)) ∧ Below w.heap.size w w' := by
 have av := zH hok;have HX : Hid (StTm sp l w w) := zH ⟨hS, hT, Below.refl _ _⟩;obtain ⟨N, hN⟩ : ∃ N, l.length = N := ⟨_, rfl⟩;rw [hN] at hc hl ⊢;have HN := zH hN; have HC := zH hc; have HL := zH hl;obtain ⟨rs, aj⟩ : ∃ b, ka l = b := ⟨_, rfl⟩;have a8 := zH aj;rw [aj];generalize hPost : (fun e w' => e = Ending.returned (.bool rs) ∧ Below w.heap.size w w') = Post;have HP : Hid (∀ w', Below w.heap.size w w' → Post (.returned (.bool rs)) w') := zH fun w' h => by rw [← hPost]; exact ⟨rfl, h⟩
 clear hok hS hT hN hc hl aj hPost;go_enter Tryz.func34, Tryz.ntmps34
 go_wp2_with fail
 go_loopw [7] (fun v wr => ∃ k : Nat, k ≤ N ∧ v = .int .i64 (k : Int) ∧ (∀ i, i < k → de l i = true) ∧ StTm sp l w wr) (fun v _ => N - (intOf v).toNat)
 case atStart => exact ⟨0, by omega, rfl, fun i hi => by omega, HX.out⟩
 case round =>
  clear HX;obtain ⟨k, hk, rfl, a6, an⟩ := hrel;have HG := zH a6; have aa := zH an;clear a6 an;have b7 := IntWalk.i64_in ((k : Int) + 1) (by have := HL.out; omega);by_cases hlt : k < N
  ·obtain ⟨x, hx⟩ : ∃ x, l[k]? = some x := ⟨_, List.getElem?_eq_getElem (by have := HN.out; omega)⟩
   obtain ⟨g, o', rfl, hg⟩ := aa.out.src.form (by have := HN.out; omega);have a5 : Hid (Itm.OK x) := zH (av.out x (List.mem_of_getElem? hx));have aw : Hid ((Tryz.prog.info? 76).map (·.size) = some (tcI x).toArray.size) := zH (by rw [List.size_toArray, bw a5.out.2]; exact wv);have aq : Hid ((tcI x).toArray.size = 45) := zH (by rw [List.size_toArray, bw a5.out.2]);have al := zH (aa.out.src.at hx);have HX := zH hx;have b3 : Hid (k < N ∧ N ≤ cap) := zH ⟨hlt, HC.out⟩;have b4 : ¬ N ≤ k := (by omega);clear hx hg
   go_upto_region 4 with (first | (refine a9 rfl (c6 (ty := 76) (cs := tcI x) rfl rfl al.out Tryz.underlying76 rfl (by rw [wv, bw a5.out.2])) ?_) | (refine wpList_store_row rfl 76 (.tmp 4) (.tmp 11) rfl wr.heap.size (tcI x).toArray rfl rfl 76 _ (heap_alloc_new wr _) aw.out (by rw [aq.out]; rfl) (U1 x) ?_) | fail)
   refine (fun (k : ∀ W, Blk W wr.heap.size (tcI x) 76 → Below wr.heap.size wr W → Code.wp _ _ _ _ W) => k _ (ar wr _ (tcI x) 76).1 (ar wr _ (tcI x) 76).2) ?_;intro W5 hx5 hb5;obtain ⟨B, hB⟩ : ∃ B, wr.heap.size = B := ⟨_, rfl⟩;have a1 := zH (aa.out.grown hb5);rw [hB] at hx5 ⊢;have a7 := zH hx5;have c0 := hx5.cell (j := 0) rfl;obtain ⟨xo, ag⟩ : ∃ n, x.1 = n := ⟨_, rfl⟩;rw [ag] at c0;have ad := zH ag;have ax : Hid (xo < 65536) := zH (by rw [← ag]; exact a5.out.1);clear hx5 hb5 hB ag aa al
   go_wp2_with fail
   refine (xk xo ax.out W5).mono ?_;rintro e w6 ⟨rfl, rfl⟩;clear c0;cases hnk : df xo
   ·have a3 : de l k = false := by unfold de; rw [HX.out]; simp [ad.out, hnk]
    obtain rfl : rs = false := by rw [← a8.out]; exact vi (by have := HN.out; omega) a3
    have HE := zH (HP.out w6 a1.out.bel);clear a3 hnk
    go_wp2_with fail
    first | exact HE.out | (go_ret; exact HE.out)
   ·have ak := zH hnk
    clear hnk;by_cases hk0 : k = 0
    ·subst hk0
     have b0 : ¬ (0 : Int) < ((0 : Nat) : Int) := by omega
     go_upto_region 5 with fail
     refine gS (.take 0 (.take 1 (.take 2 (.take 3 (.take 4 (.take 5 (.take 6 (.take 7 (.take 8 (.take 9 (.take 10 (.take 11 (.take 12 (.take 13 (.nil))))))))))))))) (fun X => StTm (some ⟨g, o', none⟩) l w X ∧ Blk X B (tcI x) 76) (⟨a1.out.drewS, a7.out.drew⟩) ?_;refine gT (.int .i64 ((0 : Nat) : Int)) ?_;refine gT (.bool false) ?_;refine gT (.bool false) ?_;refine gP ?_;refine gP ?_;refine gP ?_;refine gP ?_;refine gP ?_;refine gP ?_;refine gP ?_;refine gP ?_;refine gP ?_;refine gT (.bool false) ?_;refine gT (.bool false) ?_;refine au ?_;have a0 := zH a1.out.drewS;have ab := zH a7.out.drew;clear a1 a7
     go_wp2_with (first | (refine a9 rfl (c6 (ty := 68) (cs := af x.2) rfl rfl (su ab.out) Tryz.underlying68 rfl (by rw [mw, am a5.out.2])) ?_) | fail)
     refine (zm x.2 a5.out.2 _ a0.out.tab).mono ?_;rintro e W8 ⟨rfl, ae⟩;have a2 := zH (a0.out.grown ae);clear ae a0 ab;cases hm : ij x.2
     ·have a3 : de l 0 = false := by unfold de; rw [HX.out]; simp [hm]
      obtain rfl : rs = false := by rw [← a8.out]; exact vi (by have := HN.out; omega) a3
      have HE := zH (HP.out _ a2.out.bel);clear a3
      go_wp2_with fail
      first | exact HE.out | (go_ret; exact HE.out)
     ·have a4 : de l 0 = true := by
       unfold de;rw [HX.out];have h1 := ad.out;have h2 := ak.out;simp [hm, h1, h2]
      have ah : Hid (∀ i, i < 0 + 1 → de l i = true) := zH (fun i hi => by
       by_cases e : i = 0
       ·rw [e]; exact a4
       ·exact HG.out i (by omega))
      clear a4
      go_wp2_with fail
      go_roundw
      case rel => exact ⟨0 + 1, by omega, by go_num, ah.out, a2.out⟩
      case measure => simp [intOf]; omega
    ·obtain ⟨k1, rfl⟩ : ∃ k1, k = k1 + 1 := ⟨k - 1, by omega⟩
     obtain ⟨y, hy⟩ : ∃ y, l[k1]? = some y := ⟨_, List.getElem?_eq_getElem (by have := HN.out; omega)⟩;have HY := zH hy;have ay : Hid (∀ X, StTm (some ⟨g, o', none⟩) l w X → X.rangeAt g (o' + k1 * 45) (tcI y)) := zH (fun X hX => hX.src.at hy);obtain ⟨yo, ao⟩ : ∃ n, y.1 = n := ⟨_, rfl⟩;have ai := zH ao;have b5 : (0 : Int) < ((k1 + 1 : Nat) : Int) := (by omega);have b6 := IntWalk.i64_in ((k1 : Int)) (by have := HL.out; omega);have b8 := IntWalk.i64_in ((k1 : Int) + 1 + 1) (by have := HL.out; omega);have ap : Hid (k1 < N ∧ N ≤ cap) := zH ⟨by omega, HC.out⟩;clear hy ao
     go_upto_region 5 with fail
     refine gS (.take 0 (.take 1 (.take 2 (.take 3 (.take 4 (.take 5 (.take 6 (.take 7 (.take 8 (.take 9 (.take 10 (.take 11 (.take 12 (.take 13 (.nil))))))))))))))) (fun X => StTm (some ⟨g, o', none⟩) l w X ∧ Blk X B (tcI x) 76) (⟨a1.out.drewS, a7.out.drew⟩) ?_;refine gT (.int .i64 ((k1 + 1 : Nat) : Int)) ?_;refine gT (.bool true) ?_;refine gT (.bool true) ?_;refine gT (.pointer (some ⟨B, 0, none⟩)) ?_;refine gU (.int .u16 (xo : Int)) rfl (fun X hX => (az Tryz.underlying23 rfl rfl (hX.2.cell (j := 0) rfl)).trans (by rw [ad.out])) ?_;refine gT (.slice (some ⟨g, o', none⟩) N cap) ?_;refine gT (.int .i64 ((k1 + 1 : Nat) : Int)) ?_;refine gT (.int .i64 (k1 : Int)) ?_;refine gU (.pointer (some ⟨g, o' + k1 * 45, none⟩)) rfl (fun X hX => uc rfl rfl rfl ap.out) ?_;refine gT (.pointer (some ⟨g, o' + k1 * 45, none⟩)) ?_;refine gU (.int .u16 (yo : Int)) rfl (fun X hX => (az Tryz.underlying23 rfl rfl (Ft (ay.out X hX.1))).trans (by rw [ai.out])) ?_;refine gU (.bool (decide (xo ≤ yo))) rfl (fun X hX => S3 rfl rfl rfl) ?_;refine gT (.bool (decide (xo ≤ yo))) ?_;refine gT (.bool (decide (xo ≤ yo))) ?_;refine au ?_;have a0 := zH a1.out.drewS;have ab := zH a7.out.drew;clear a1 a7;cases hle : decide (xo ≤ yo)
     ·have b2 : ¬ xo ≤ yo := by simpa using hle
      go_wp2_with (first | (refine a9 rfl (c6 (ty := 68) (cs := af x.2) rfl rfl (su ab.out) Tryz.underlying68 rfl (by rw [mw, am a5.out.2])) ?_) | fail)
      refine (zm x.2 a5.out.2 _ a0.out.tab).mono ?_;rintro e W8 ⟨rfl, ae⟩;have a2 := zH (a0.out.grown ae);clear ae a0 ab;cases hm : ij x.2
      ·have a3 : de l (k1 + 1) = false := by unfold de; rw [HX.out]; simp [hm]
       obtain rfl : rs = false := by rw [← a8.out]; exact vi (by have := HN.out; omega) a3
       have HE := zH (HP.out _ a2.out.bel);clear a3
       go_wp2_with fail
       first | exact HE.out | (go_ret; exact HE.out)
      ·have a4 : de l (k1 + 1) = true := by
        unfold de;rw [HX.out];have h1 := ad.out;have h2 := ak.out;have h3 := HY.out; have h4 := ai.out; simp [hm, h1, h2, h3, h4]; omega
       have ah : Hid (∀ i, i < k1 + 1 + 1 → de l i = true) := zH (fun i hi => by
        by_cases e : i = (k1 + 1)
        ·rw [e]; exact a4
        ·exact HG.out i (by omega))
       clear a4
       go_wp2_with fail
       go_roundw
       case rel => exact ⟨k1 + 1 + 1, by omega, by go_num, ah.out, a2.out⟩
       case measure => simp [intOf]; omega
     ·have b1 : xo ≤ yo := by simpa using hle
      have a3 : de l (k1 + 1) = false := by
       unfold de;rw [HX.out];have h1 := ad.out;have h2 := ai.out;have h3 := HY.out;simp [h3, h1, h2];omega
      obtain rfl : rs = false := by rw [← a8.out]; exact vi (by have := HN.out; omega) a3
      have HE := zH (HP.out _ a0.out.bel);clear a3
      go_wp2_with fail
      first | exact HE.out | (go_ret; exact HE.out)
  ·obtain rfl : k = N := by omega
   obtain rfl : rs = true := by rw [← a8.out]; exact G1 (fun i hi => HG.out i (by have := HN.out; omega))
   have HE := zH (HP.out _ aa.out.bel);clear hlt hk
   go_wp2_with fail
   first | exact HE.out | (go_ret; exact HE.out)
def gtE (s : Sh) (p : Pt) (k : Nat) : Nat := if df k = false then 1 else blE s p (k / 4)
def gtN (s : Sh) (p : Pt) (k : Nat) : Ino := if df k = false then zeroI else if blE s p (k / 4) ≠ 0 then zeroI else (blN s p (k / 4)).getD (k % 4) zeroI
def gtS (s : Sh) (p : Pt) (k : Nat) : Sh := if df k = false then s else blS s p (k / 4)
def Ql (L : Nat → Nat) (w : World) (D : Nat) (s : Sh) (p : Pt) (k m : Nat) (e : Ending) (w' : World) : Prop := e = .returned (.tuple #[.agg (af (gtN s p k)).toArray, .int .i64 (gtE s p k : Int)]) ∧ ShPost 5 L w D (gtS s p k) w' ∧ Lim m (gtS s p k)
structure TgS (L : Nat → Nat) (w : World) (D G : Nat) (s1 : Sh) (p : Pt) (X : World) : Prop where
 sh : ∃ L1 v1, ShAt X L1 D s1 v1 ∧ Mv 5 L w L1 X ∧ L1 G = 0 ∧ L1 (G + 1) = 0
 box : Blk X G (a8 p) 28
 res : Blk X (G + 1) (af zeroI) 68
 lo : w.heap.size ≤ G
theorem TgS.below (h : TgS L w D G s1 p X) (hb : Below X.heap.size X Y) : TgS L w D G s1 p Y := by
 obtain ⟨⟨L1, v1, h1, h2, h3, h4⟩, hg, hr, a0⟩ := h;exact ⟨⟨L1, v1, h1.below hb, h2.trans (Mv.of_below hb h1.lt), h3, h4⟩, hg.below hb hg.lt, hr.below hb hr.lt, a0⟩
theorem TgS.ends (h : TgS L w D G s1 p X) (q : Ino) : ShPost 5 L w D s1 (X.setRow (G + 1) (af q).toArray) ∧ Blk (X.setRow (G + 1) (af q).toArray) (G + 1) (af q) 68 := by
 obtain ⟨⟨L1, v1, h1, h2, h3, h4⟩, hg, hr, a0⟩ := h;have hc := tf X (G + 1) (af q).toArray;have hz : (X.setRow (G + 1) (af q).toArray).heap.size = X.heap.size := by simp
 refine ⟨⟨L1, v1, h1.out hc (fun g e _ => .inl (by rw [e]; exact h4)) (fun _ _ => .inl rfl) (fun g hg => by rw [hz]; exact h1.lt g hg), ?_⟩, hr.row _⟩;exact ⟨h2.chg.trans hc (fun g e => by right; have : g = G + 1 := e; omega), h2.old, h2.new⟩
theorem TgS.post {s2 : Sh} (h : TgS L w D G s p X) {L1 : Nat → Nat} {v1 : Sv} (h1 : ShAt X L1 D s v1) (h2 : Mv 5 L w L1 X) (h3 : L1 G = 0) (h4 : L1 (G + 1) = 0) (hp : ShPost 5 L1 X D s2 Y) : TgS L w D G s2 p Y := by
 obtain ⟨L3, v3, k1, k2⟩ := hp;exact ⟨⟨L3, v3, k1, h2.trans k2, (k2.old G h.box.lt).trans h3, (k2.old (G + 1) h.res.lt).trans h4⟩, k2.blk h.box h3, k2.blk h.res h4, h.lo⟩
def GtR (L : Nat → Nat) (w : World) (D G : Nat) (s1 : Sh) (p : Pt) (ns : List Ino) (m g : Nat) (X : World) : Prop := TgS L w D G s1 p X ∧ Blk X g (ai ns) 104 ∧ Lim m s1
theorem Hj (ho : o.op = .alloc 104) : (execOp ρ o).run Tryz.prog w = .ok (.value (.pointer (some ⟨w.heap.size, 0, none⟩))) (w.alloc (.cells (ai zeros4).toArray 104)) := by
 unfold execOp;simp only [ho];go_simp;rfl
theorem qx {fn : Func} {p u : Tmp} (h : fn.results = #[.cell p 68, .tmp u]) (tmps : Array Value) (w : World) (g t : Nat) (cs : List Value)
  (hp : tmps.getD p undef = .pointer (some ⟨g, 0, none⟩)) (hg : Blk w g cs t) (hi : (Tryz.prog.info? 68).map (·.size) = some cs.length) :
  (results fn tmps).run Tryz.prog w = .ok (.tuple #[.agg cs.toArray, tmps.getD u undef]) w := by
 rw [results_cell_tmp h, hp];simp only [asAddr, Sem.run_pure, Result.andThen_ok, run_loadVar_row w g t 68 cs.toArray (0, 0) _ hg Tryz.underlying68 rfl (by simpa using hi)]
theorem Hb (s : Sh) (p : Pt) (off : Nat) : BOK (blN s p off) := by
 unfold blN;split
 ·exact zeros4_ok
 ·exact J9 _ _
set_option maxRecDepth 100000 in
set_option maxHeartbeats 16000000 in
theorem Q8 {v : Sv} {m : Nat} (p : Pt) (hp : p.OK) (k : Nat) (hk6 : k < 65536) (h : ShAt w L D s v) (hlo : Lo L) (hk : Lim m s) (hm : m + 74 < 100000000) (hbl : (rdB (jb s p (k / 4)) (jm s p (k / 4))).length ≤ 100000) :
  Calls Tryz.prog 20 #[shI D, .agg (a8 p).toArray, .int .u16 (k : Int)] w (Ql L w D s p k (m + 74)) := by
 have b0 := zH hp; have ap := zH hk6; have bh := zH hlo; have HK := zH hk; have HM := zH hm; have az := zH hbl
 have HX : Hid (∀ z, z = (af zeroI).toArray → TgS L w D w.heap.size s p ((w.alloc (.cells (a8 p).toArray 28)).alloc (.cells z 68))) := zH (fun z hz => by
  subst hz;have bp : Below w.heap.size w ((w.alloc (.cells (a8 p).toArray 28)).alloc (.cells (af zeroI).toArray 68)) := ((Below.refl _ _).alloc (Nat.le_refl _) _).alloc (by simp) _
  exact ⟨⟨L, v, h.below bp, Mv.of_below bp h.lt, h.not (Nat.le_refl _), h.not (by omega)⟩, (Blk.new _ _ _).alloc _, Blk.new' _ _ _ _ _ (by simp) rfl, Nat.le_refl _⟩)
 generalize hPost : Ql L w D s p k (m + 74) = Post;have HP : Hid (∀ w', ShPost 5 L w D (gtS s p k) w' → Lim (m + 74) (gtS s p k) → Post (.returned (.tuple #[.agg (af (gtN s p k)).toArray, .int .i64 (gtE s p k : Int)])) w') := zH fun w' h hl => by rw [← hPost]; exact ⟨rfl, h, hl⟩
 have bk := zH (fb zeroI_ok);clear hp h hk hm hbl hlo hPost hk6;unfold shI;go_enter Tryz.func20, Tryz.ntmps20
 go_upto_region 1 with fail
 refine (fun (k : ∀ W, TgS L w D w.heap.size s p W → Code.wp _ _ _ _ W) => k _ (HX.out _ rfl)) ?_;intro W hW;obtain ⟨G, hG⟩ : ∃ G, w.heap.size = G := ⟨_, rfl⟩;rw [hG] at hW ⊢;clear HX hG;have ae := zH hW;have bi := zH hW.res;clear hW
 go_wp2_with fail
 refine (xk k ap.out W).mono ?_;rintro e W2 ⟨rfl, rfl⟩;cases hnk : df k
 ·have a3 := zH (ae.out.ends zeroI)
  have HE := zH (HP.out _ (by unfold gtS; rw [if_pos hnk]; exact a3.out.1) (by unfold gtS; rw [if_pos hnk]; exact HK.out.mono (by omega) HM.out));have e1 : gtN s p k = zeroI := (by unfold gtN; rw [if_pos hnk]);have e2 : gtE s p k = 1 := (by unfold gtE; rw [if_pos hnk]);rw [e1, e2] at HE;clear e1 e2 hnk HP
  go_wp2_with (first | (refine a9 rfl (lc rfl) ?_) | (refine wpList_store_row rfl 68 (.tmp 6) (.tmp 16) rfl (G + 1) (af zeroI).toArray rfl rfl 68 _ bi.out bk.out rfl (fj _) ?_) | fail)
  refine bodyPost_ret (qx Tryz.results20 _ _ (G + 1) 68 _ rfl a3.out.2 (wy zeroI_ok)) rfl ?_;exact HE.out
 ·have aw : ¬ df k = false := by rw [hnk]; decide
  obtain ⟨kq, av⟩ : ∃ q, k / 4 = q := ⟨_, rfl⟩;have bf := zH av;obtain ⟨ns, ay⟩ : ∃ x, blN s p kq = x := ⟨_, rfl⟩;obtain ⟨er, b7⟩ : ∃ x, blE s p kq = x := ⟨_, rfl⟩;obtain ⟨s2, bc⟩ : ∃ x, blS s p kq = x := ⟨_, rfl⟩;have ad : Hid (BOK ns) := zH (by rw [← ay]; exact Hb _ _ _);have b3 := zH (fa ad.out);have b2 := zH ad.out.size;have a1 : Hid (gtN s p k = (if er ≠ 0 then zeroI else ns.getD (k % 4) zeroI) ∧ gtE s p k = er ∧ gtS s p k = s2) := zH (by unfold gtN gtE gtS; rw [if_neg aw, if_neg aw, if_neg aw, av, ay, b7, bc]; exact ⟨rfl, rfl, rfl⟩);rw [av] at az;have a7 : kq < 4294967296 := (by have := ap.out; omega);obtain ⟨⟨L1, v1, h1, h2, h3, h4⟩, h5, h6, h7⟩ := ae.out;have aj : Below W2.heap.size W2 W2.drew := (Below.refl _ _).drew;have ak : Below W2.heap.size W2 (W2.drew.alloc (.cells (ai zeros4).toArray 104)) := (Below.refl _ _).drew.alloc (Nat.le_refl _) _;have ab := rf p b0.out kq a7 (h1.below aj) (bh.out.of h2) HK.out HM.out az.out;have a4 := rf p b0.out kq a7 (h1.below ak) (bh.out.of h2) HK.out HM.out az.out;unfold Gu at ab a4;rw [ay, b7, bc] at ab a4;have b4 := ae.out.below aj;have b5 := ae.out.below ak;have bn : Mv 5 L w L1 W2.drew := h2.trans (Mv.of_below aj h1.lt);have ba : Mv 5 L w L1 (W2.drew.alloc (.cells (ai zeros4).toArray 104)) := h2.trans (Mv.of_below ak h1.lt)
  have HA : ∀ X, (ShPost 5 L1 W2.drew D s2 X ∧ Lim (m + 74) s2) → Blk X G (a8 p) 28 ∧ GtR L w D G s2 p ns (m + 74) X.heap.size ((X.alloc (.cells (ai zeros4).toArray 104)).setRow X.heap.size (ai ns).toArray) := fun X ⟨hx, hl⟩ => by
   have ht := b4.post (h1.below aj) bn h3 h4 hx;have bu := (ar X (ai zeros4).toArray (ai ns) 104).2;exact ⟨ht.box, ht.below bu, (ar X _ (ai ns) 104).1, hl⟩
  have a0 : ∀ X, (ShPost 5 L1 (W2.drew.alloc (.cells (ai zeros4).toArray 104)) D s2 X ∧ Lim (m + 74) s2) → (Blk X G (a8 p) 28 ∧ Blk X W2.heap.size (ai zeros4) 104) ∧ GtR L w D G s2 p ns (m + 74) W2.heap.size (X.setRow W2.heap.size (ai ns).toArray) := fun X ⟨hx, hl⟩ => by
   have ht := b5.post (h1.below ak) ba h3 h4 hx;obtain ⟨L3, v3, k1, k2⟩ := hx;have an : L1 W2.heap.size = 0 := h1.not (Nat.le_refl _);have bo : Blk X W2.heap.size (ai zeros4) 104 := k2.blk (Blk.new W2.drew _ _) an;have ao : L3 W2.heap.size = 0 := (k2.old _ (by simp)).trans an;have hc := tf X W2.heap.size (ai ns).toArray;have hz : (X.setRow W2.heap.size (ai ns).toArray).heap.size = X.heap.size := (by simp);have l5 := h5.lt;have l6 := h6.lt;have bb := ba.trans k2;refine ⟨⟨ht.box, bo⟩, ⟨⟨L3, v3, k1.out hc (fun g e _ => .inl (by have e : g = W2.heap.size := e; rw [e]; exact ao)) (fun _ _ => .inl rfl) (fun g hg => by rw [hz]; exact k1.lt g hg), ⟨bb.chg.trans hc (fun g e => by right; have : g = W2.heap.size := e; omega), bb.old, bb.new⟩, (k2.old G (by simp; omega)).trans h3, (k2.old (G + 1) (by simp; omega)).trans h4⟩, ht.box.rowOther (by omega) _, ht.res.rowOther (by omega) _, ht.lo⟩, bo.row _, hl⟩
  have b6 := b4.box;have ah := b5.box;obtain ⟨WA, aq⟩ : ∃ X, W2.drew.alloc (.cells (ai zeros4).toArray 104) = X := ⟨_, rfl⟩;rw [aq] at a4 a0 ah;clear b4 b5 bn ba h1 h2 h3 h4 h5 h6 h7 aj ak av ay b7 bc aw hnk a7;unfold shI at ab a4
  go_upto_region 5 with fail
  refine Gt (fun g X => GtR L w D G s2 p ns (m + 74) g X) ?_;apply Exists.intro;constructor;refine ci (.take 0 (.take 1 (.take 2 (.fork 3 (.fork 4 (.take 5 (.take 6 (.take 7 (.step 8 (.step 9 (.take 10 (.nil))))))) 8 (.step 4 (.take 5 (.take 6 (.take 7 (.step 9 (.take 10 (.nil)))))))) 8 (.step 3 (.step 4 (.take 5 (.take 6 (.take 7 (.step 9 (.take 10 (.nil))))))))))))  (by kernel_rfl) (by kernel_rfl) (fun d _ _ _ _ h => by cases h.1) (fun X => Blk X G (a8 p) 28) (b6) ?_;refine gT (shI D) ?_;refine gU (.agg (a8 p).toArray) rfl (fun X hX => ax b0.out hX rfl rfl) ?_;refine gT (.int .u16 (k : Int)) ?_;refine i8 ?_ ?_
  ·refine b8 _ rfl (by rfl) 44 #[.int .u16 (k : Int)] (fun X => by go_simp) (fun u X => u = .int .u32 (kq : Int) ∧ X = W2.drew) ((kn k ap.out W2.drew).mono fun e X ⟨e1, e2⟩ => ⟨_, e1, by rw [e2]; exact b6, by rw [bf.out], e2⟩) ?_
   rintro u X3 bd ⟨rfl, e3⟩;have e4 := e3.symm;clear e3;subst e4;refine ⟨fun X => Blk X G (a8 p) 28, fun _ h => h, bd, ?_⟩; try simp only [pS]
   refine i8 ?_ ?_
   ·refine b8 _ rfl (by rfl) 38 #[shI D, .agg (a8 p).toArray, .int .u32 (kq : Int)] (fun X => by go_simp) (fun u X => u = .tuple #[.agg (ai ns).toArray, .int .i64 (er : Int)] ∧ (ShPost 5 L1 W2.drew D s2 X ∧ Lim (m + 74) s2)) (ab.mono fun e X ⟨e1, e2⟩ => ⟨_, e1, (HA X e2).1, rfl, e2⟩) ?_
    rintro u X4 aa ⟨rfl, a5⟩;refine ⟨fun X => Blk X G (a8 p) 28, fun _ h => h, aa, ?_⟩; try simp only [pS]
    refine gT (.tuple #[.agg (ai ns).toArray, .int .i64 (er : Int)]) ?_;refine gT (.agg (ai ns).toArray) ?_;refine gT (.int .i64 (er : Int)) ?_;obtain ⟨ga, b9⟩ : ∃ g, X4.heap.size = g := ⟨_, rfl⟩;have a2 := (HA X4 a5).2;have bw : Blk (X4.alloc (.cells (ai zeros4).toArray 104)) ga (ai zeros4) 104 := (by rw [← b9]; exact Blk.new _ _ _);have bv : Blk (X4.alloc (.cells (ai zeros4).toArray 104)) G (a8 p) 28 := aa.alloc _;have ag : ∀ {ρ : Operand → Value} {o : Oper}, o.op = .alloc 104 → (execOp ρ o).run Tryz.prog X4 = .ok (.value (.pointer (some ⟨ga, 0, none⟩))) (X4.alloc (.cells (ai zeros4).toArray 104)) := fun h => by rw [← b9]; exact Hj h
    rw [b9] at a2;refine bm _ rfl (by rfl) (.pointer (some ⟨ga, 0, none⟩)) _ (ag rfl) (fun X => Blk X G (a8 p) 28) bv (fun _ h => h) ?_; try simp only [pS]
    refine kp _ rfl (by rfl) 104 (.tmp 8) (.tmp 23) rfl ga (ai ns).toArray rfl rfl bw b3.out (by rw [b2.out, zeros4_ok.cells]) (cn ns) (fun X => Blk X G (a8 p) 28) (fun _ h => h) a2.1.box ?_; try simp only [pS]
    refine gT (.int .i64 (er : Int)) ?_;refine au ?_;exact ⟨rfl, ga, rfl, a2⟩
   ·obtain ⟨gb, al⟩ : ∃ g, W2.drew.heap.size = g := ⟨_, rfl⟩
    have ag : ∀ {ρ : Operand → Value} {o : Oper}, o.op = .alloc 104 → (execOp ρ o).run Tryz.prog W2.drew = .ok (.value (.pointer (some ⟨gb, 0, none⟩))) WA := fun h => by rw [← al, ← aq]; exact Hj h
    have a6 : W2.heap.size = gb := al;rw [a6] at a0;refine bm _ rfl (by rfl) (.pointer (some ⟨gb, 0, none⟩)) WA (ag rfl) (fun X => Blk X G (a8 p) 28) ah (fun _ h => h) ?_; try simp only [pS]
    refine b8 _ rfl (by rfl) 38 #[shI D, .agg (a8 p).toArray, .int .u32 (kq : Int)] (fun X => by go_simp) (fun u X => u = .tuple #[.agg (ai ns).toArray, .int .i64 (er : Int)] ∧ (ShPost 5 L1 WA D s2 X ∧ Lim (m + 74) s2)) (a4.mono fun e X ⟨e1, e2⟩ => ⟨_, e1, (a0 X e2).1.1, rfl, e2⟩) ?_;rintro u X4 aa ⟨rfl, a5⟩;refine ⟨fun X => Blk X G (a8 p) 28, fun _ h => h, aa, ?_⟩; try simp only [pS]
    refine gT (.tuple #[.agg (ai ns).toArray, .int .i64 (er : Int)]) ?_;refine gT (.agg (ai ns).toArray) ?_;refine gT (.int .i64 (er : Int)) ?_;have a2 := (a0 X4 a5).2;refine kp _ rfl (by rfl) 104 (.tmp 8) (.tmp 23) rfl gb (ai ns).toArray rfl rfl (a0 X4 a5).1.2 b3.out (by rw [b2.out, zeros4_ok.cells]) (cn ns) (fun X => Blk X G (a8 p) 28) (fun _ h => h) a2.1.box ?_; try simp only [pS]
    refine gT (.int .i64 (er : Int)) ?_;refine au ?_;exact ⟨rfl, gb, rfl, a2⟩
  ·obtain ⟨gb, al⟩ : ∃ g, W2.drew.heap.size = g := ⟨_, rfl⟩
   have ag : ∀ {ρ : Operand → Value} {o : Oper}, o.op = .alloc 104 → (execOp ρ o).run Tryz.prog W2.drew = .ok (.value (.pointer (some ⟨gb, 0, none⟩))) WA := fun h => by rw [← al, ← aq]; exact Hj h
   have a6 : W2.heap.size = gb := al;rw [a6] at a0;refine bm _ rfl (by rfl) (.pointer (some ⟨gb, 0, none⟩)) WA (ag rfl) (fun X => Blk X G (a8 p) 28) ah (fun _ h => h) ?_; try simp only [pS]
   refine b8 _ rfl (by rfl) 44 #[.int .u16 (k : Int)] (fun X => by go_simp) (fun u X => u = .int .u32 (kq : Int) ∧ X = WA) ((kn k ap.out WA).mono fun e X ⟨e1, e2⟩ => ⟨_, e1, by rw [e2]; exact ah, by rw [bf.out], e2⟩) ?_;rintro u X3 bd ⟨rfl, e3⟩;have e4 := e3.symm;clear e3;subst e4;refine ⟨fun X => Blk X G (a8 p) 28, fun _ h => h, bd, ?_⟩; try simp only [pS]
   refine b8 _ rfl (by rfl) 38 #[shI D, .agg (a8 p).toArray, .int .u32 (kq : Int)] (fun X => by go_simp) (fun u X => u = .tuple #[.agg (ai ns).toArray, .int .i64 (er : Int)] ∧ (ShPost 5 L1 WA D s2 X ∧ Lim (m + 74) s2)) (a4.mono fun e X ⟨e1, e2⟩ => ⟨_, e1, (a0 X e2).1.1, rfl, e2⟩) ?_;rintro u X4 aa ⟨rfl, a5⟩;refine ⟨fun X => Blk X G (a8 p) 28, fun _ h => h, aa, ?_⟩; try simp only [pS]
   refine gT (.tuple #[.agg (ai ns).toArray, .int .i64 (er : Int)]) ?_;refine gT (.agg (ai ns).toArray) ?_;refine gT (.int .i64 (er : Int)) ?_;have a2 := (a0 X4 a5).2;refine kp _ rfl (by rfl) 104 (.tmp 8) (.tmp 23) rfl gb (ai ns).toArray rfl rfl (a0 X4 a5).1.2 b3.out (by rw [b2.out, zeros4_ok.cells]) (cn ns) (fun X => Blk X G (a8 p) 28) (fun _ h => h) a2.1.box ?_; try simp only [pS]
   refine gT (.int .i64 (er : Int)) ?_;refine au ?_;exact ⟨rfl, gb, rfl, a2⟩
  intro g X hX;have bl := zH hX.1;have br := zH hX.2.1;have bg := zH hX.2.2;have bj := zH hX.1.res;clear hX HA a0 ab a4 b6 ah aq ae bi;by_cases h0 : er = 0
  ·subst h0
   obtain ⟨q, hq⟩ := ad.out.get (k := k % 4) (by omega);have HQ := zH hq;have b1 := zH (ad.out.at hq);have a3 := zH (bl.out.ends q);have HE := zH (HP.out _ (by rw [a1.out.2.2]; exact a3.out.1) (by rw [a1.out.2.2]; exact bg.out));rw [a1.out.1, a1.out.2.1, if_neg (by simp), List.getD_eq_getElem?_getD, hq] at HE;have bq : Hid (k % 4 < 4) := zH (by omega);have bs := zH (fb b1.out);have bt : Hid ((af zeroI).toArray.size = (af q).toArray.size) := zH (by rw [List.size_toArray, List.size_toArray, am zeroI_ok, am b1.out]);clear hq HP a1
   go_wp2_with (first | (refine a9 rfl (Kq rfl rfl rfl) ?_) | (refine a9 rfl (Ki bq.out rfl rfl rfl) ?_) | (refine a9 rfl (Xf ad.out br.out HQ.out (Nat.mul_comm _ 44) rfl rfl) ?_) | (refine wpList_store_row rfl 68 (.tmp 6) (.tmp 32) rfl (G + 1) (af q).toArray rfl rfl 68 _ bj.out bs.out bt.out (fj _) ?_) | fail)
   refine bodyPost_ret (qx Tryz.results20 _ _ (G + 1) 68 _ rfl a3.out.2 (wy b1.out)) rfl ?_;exact HE.out
  ·have bx : ¬ (er : Int) = 0 := by omega
   have a3 := zH (bl.out.ends zeroI);have HE := zH (HP.out _ (by rw [a1.out.2.2]; exact a3.out.1) (by rw [a1.out.2.2]; exact bg.out));rw [a1.out.1, a1.out.2.1, if_pos h0] at HE;clear HP a1 h0
   go_wp2_with (first | (refine a9 rfl (lc rfl) ?_) | (refine wpList_store_row rfl 68 (.tmp 6) (.tmp 27) rfl (G + 1) (af zeroI).toArray rfl rfl 68 _ bj.out bk.out rfl (fj _) ?_) | fail)
   refine bodyPost_ret (qx Tryz.results20 _ _ (G + 1) 68 _ rfl a3.out.2 (wy zeroI_ok)) rfl ?_;exact HE.out
end Go.Proofs.YtjgjohdeeeoeoaaGreatDoor
namespace Go.Proofs.YtjgjohdeeeoeoaaGreatDoor
open Go.RowKit
variable {x : Lf} {l : List Itm} {xs : List Lf} {b : List Pt} {s : Sh}
theorem Jc (l m : List Itm) : trI (l ++ m) = trI l ++ trI m := by simp [trI]
theorem Yi (l : List Itm) : ∀ u ∈ trI l, u.oneCell' = true := fun u hu => by
 simp only [trI, List.mem_flatMap] at hu;obtain ⟨x, _, hx⟩ := hu;exact Da x u hx
theorem Ph {w : World} {B : Nat} {v : Value} (h : OwnT w B v l) (hB : B ≤ w.heap.size) {B2 : Nat} {v2 : Value} {l2 : List Itm} (h2 : OwnT w B2 v2 l2) (hl : l.length + l2.length < 100000000) (ty : TypeId) :
  ∃ v' w', (Builtin.append_ #[55, 55] ty #[v, v2]).run Tryz.prog w = .ok v' w' ∧ OwnT w' B v' (l ++ l2) ∧ w.grownBy w' v.ownBlock ∧ (v'.ownBlock = v.ownBlock ∨ v'.ownBlock = some w.heap.size) := by
 obtain ⟨i0, z, hi, a1, a2, a3, a4⟩ := kg;obtain ⟨k1, k2⟩ := h2;rcases k2 with ⟨rfl, hn⟩ | ⟨g, cap, cur, rfl, hb, hg, hc, hm, hs, ht⟩
 ·have e : l2 = [] := List.eq_nil_of_length_eq_zero hn
  subst e;exact ⟨v, w, run_append_owned_none (P := Tryz.prog) w B 55 ty 76 i0 45 Tryz.underlying55 hi v l.length (trI l) h, by rw [List.append_nil]; exact h, ⟨rfl, rfl, rfl, Nat.le_refl _, fun _ _ _ => rfl⟩, .inl rfl⟩
 ·have a0 : Blk w g cur.toList 76 := by unfold Blk; simpa using hg
  obtain ⟨v', w', hr, j2, j3, _, j5⟩ := run_append_own_at (P := Tryz.prog) w B 55 ty 76 i0 z 45 72 Tryz.underlying55 hi a1 a3 a4 a2 (by decide) v l.length (trI l) h ⟨g, 0, none⟩ l2.length cap (trI l2) k1 (fun j y hj => by
   rw [Addr.add_mid, Nat.zero_add];rw [← ht, List.getElem?_take] at hj;split at hj
   ·exact a0.cell hj
   ·cases hj) (Yi l2) (by unfold maxLen; omega) (by omega) hB
  refine ⟨v', w', hr, ?_, j3, j5⟩;unfold OwnT;rw [Jc, List.length_append];exact j2
structure Ta where
 e : Nat
 s : Sh
 l : List Itm
 b : List Pt
def t5 : List Lf → Sh → List Itm → List Pt → Ta
 | [], s, l, b => ⟨0, s, l, b⟩
 | x :: xs, s, l, b => if tbE s x.2 ≠ 0 then ⟨tbE s x.2, tbS s x.2, [], []⟩ else t5 xs (tbS s x.2) (l ++ j9 x.1 (tbN s x.2) 4) (b ++ [x.2])
def ny (s : Sh) (p : Pt) : Ta := if pp s p ≠ 0 then ⟨pp s p, ky s p, [], []⟩ else t5 (sz s p) (ky s p) [] (td s p)
theorem Vf (h : tbE s x.2 ≠ 0) : t5 (x :: xs) s l b = ⟨tbE s x.2, tbS s x.2, [], []⟩ := by
 unfold t5;rw [if_pos h]
theorem M6 (h : tbE s x.2 = 0) : t5 (x :: xs) s l b = t5 xs (tbS s x.2) (l ++ j9 x.1 (tbN s x.2) 4) (b ++ [x.2]) := by
 conv => lhs; unfold t5
 rw [if_neg (by simp [h])]
theorem Re {l : List Lf} {k : Nat} (h : l[k]? = some x) : l.drop k = x :: l.drop (k + 1) := by
 obtain ⟨hk, e⟩ := List.getElem?_eq_some_iff.1 h;rw [List.drop_eq_getElem_cons hk, e]
theorem Lim.tbS {m : Nat} {p : Pt} (h : Lim m s) (hm : m + 1 < 100000000) : Lim (m + 1) (Go.Proofs.YtjgjohdeeeoeoaaGreatDoor.tbS s p) := h.rnS (p := p) hm
end Go.Proofs.YtjgjohdeeeoeoaaGreatDoor
namespace Go.Proofs.YtjgjohdeeeoeoaaGreatDoor
open Go.RowKit
attribute [local go_sem] Oper.semAt_some
variable {g : Nat} {Y : World}
structure TaW (L : Nat → Nat) (w : World) (D : Nat) (ls : List Lf) (lv : Value) (s : Sh) (l : List Itm) (b : List Pt) (ov nv : Value) (X : World) : Prop where
 sh : ∃ L1 v1, ShAt X L1 D s v1 ∧ Mv 5 L w L1 X ∧ (∀ g, lv.ownBlock = some g → L1 g = 0) ∧ (∀ g, ov.ownBlock = some g → L1 g = 0) ∧ ∀ g, nv.ownBlock = some g → L1 g = 0
 lo : OwnL X 0 lv ls
 oo : OwnT X 0 ov l
 no : OwnM X 0 nv b
 og : ∀ g, ov.ownBlock = some g → w.heap.size ≤ g
 ng : ∀ g, nv.ownBlock = some g → w.heap.size ≤ g
section
variable {L : Nat → Nat} {w : World} {D : Nat} {ls : List Lf} {lv : Value} {s : Sh} {l : List Itm} {b : List Pt} {ov nv : Value} {X : World}
theorem TaW.below (h : TaW L w D ls lv s l b ov nv X) (hb : Below X.heap.size X Y) : TaW L w D ls lv s l b ov nv Y := by
 obtain ⟨⟨L1, v1, h1, h2, h3⟩, k1, k2, k3, k4, k5⟩ := h;exact ⟨⟨L1, v1, h1.below hb, h2.trans (Mv.of_below hb h1.lt), h3⟩, bc k1 (Chg.of_below (F := fun _ => False) hb) (fun _ _ h => h), bc k2 (Chg.of_below (F := fun _ => False) hb) (fun _ _ h => h), bc k3 (Chg.of_below (F := fun _ => False) hb) (fun _ _ h => h), k4, k5⟩
theorem TaW.call (h : TaW L w D ls lv s l b ov nv X) : ∃ L1 v1, ShAt X L1 D s v1 ∧ ∀ s2 X5 Y, Below X.heap.size X X5 → ShPost 5 L1 X5 D s2 Y → TaW L w D ls lv s2 l b ov nv Y ∧ ∀ g cs t, X.heap.size ≤ g → Blk X5 g cs t → Blk Y g cs t := by
 obtain ⟨⟨L1, v1, h1, h2, h3, h4, h5⟩, k1, k2, k3, k4, k5⟩ := h;refine ⟨L1, v1, h1, fun s2 X5 Y hb ⟨L3, v3, j1, j2⟩ => ⟨?_, fun g cs t hg hB => j2.blk hB (h1.not hg)⟩⟩;have m1 : Mv 5 L w L1 X5 := h2.trans (Mv.of_below hb h1.lt);have hf : ∀ g, L1 g = 0 → ¬ kx 5 L1 g := fun g e hf => by unfold kx at hf; omega
 have l1 := fun g e => Nat.lt_of_lt_of_le (eu k1 (g := g) e) hb.size
 have l2 := fun g e => Nat.lt_of_lt_of_le (eu k2 (g := g) e) hb.size
 have l3 := fun g e => Nat.lt_of_lt_of_le (eu k3 (g := g) e) hb.size
 exact ⟨⟨L3, v3, j1, m1.trans j2, fun g e => (j2.old g (l1 g e)).trans (h3 g e), fun g e => (j2.old g (l2 g e)).trans (h4 g e), fun g e => (j2.old g (l3 g e)).trans (h5 g e)⟩, bc (bc k1 (Chg.of_below (F := fun _ => False) hb) (fun _ _ h => h)) j2.chg (fun g e => hf g (h3 g e)), bc (bc k2 (Chg.of_below (F := fun _ => False) hb) (fun _ _ h => h)) j2.chg (fun g e => hf g (h4 g e)), bc (bc k3 (Chg.of_below (F := fun _ => False) hb) (fun _ _ h => h)) j2.chg (fun g e => hf g (h5 g e)), k4, k5⟩
theorem Dd {w : World} {B e e' k k' n n' : Nat} {B' : Nat} {v v' : Value} {xs xs' : List Value} (h : w.ownsRow B e k v n xs) (h' : w.ownsRow B' e' k' v' n' xs') (hne : e ≠ e') (hg : v.ownBlock = some g) : v'.ownBlock ≠ some g := fun hg' => by
 rcases h.2 with ⟨rfl, _⟩ | ⟨a, cap, cur, rfl, _, ha, _⟩
 ·cases hg
 ·rcases h'.2 with ⟨rfl, _⟩ | ⟨a', cap', cur', rfl, _, ha', _⟩
  ·cases hg'
  ·have e1 : a = g := by injection hg
   have e2 : a' = g := (by injection hg');subst e1;subst e2;rw [ha] at ha';injection ha' with ha'
   injection ha' with _ h2 _
   exact hne h2
theorem TaW.app (h : TaW L w D ls lv s l b ov nv X) {B2 : Nat} {v2 : Value} {l2 : List Itm} (h2 : OwnT X B2 v2 l2) (hl : l.length + l2.length < 100000000) (ty : TypeId) :
  ∃ v' w', (Builtin.append_ #[55, 55] ty #[ov, v2]).run Tryz.prog X = .ok v' w' ∧ TaW L w D ls lv s (l ++ l2) b v' nv w' ∧ ∀ g cs t, t ≠ 76 → Blk X g cs t → Blk w' g cs t := by
 obtain ⟨⟨L1, v1, h1, m1, h3, h4, h5⟩, k1, k2, k3, k4, k5⟩ := h;obtain ⟨v', w', hr, ho, a0, hn⟩ := Ph k2 (Nat.zero_le _) h2 hl ty;have hc : Chg (fun g => ov.ownBlock = some g) X w' := (Chg.refl _ X).grown a0 (fun k e => .inl e);refine ⟨v', w', hr, ⟨⟨L1, v1, h1.out hc (fun g e _ => .inl (h4 g e)) (fun g e => .inl (by rfl)) (fun g hg => Nat.lt_of_lt_of_le (h1.lt g hg) a0.size), ⟨m1.chg.trans hc (fun g e => .inr (k4 g e)), m1.old, m1.new⟩, h3, fun g e => ?_, h5⟩, bc k1 hc (fun g e e' => Dd k1 k2 (by decide) e e'), ho, bc k3 hc (fun g e e' => Dd k3 k2 (by decide) e e'), fun g e => ?_, k5⟩, fun g cs t ht hB => hB.chg hc (fun e => ?_)⟩
 ·rcases hn with q | q
  ·exact h4 g (q ▸ e)
  ·have e := Option.some.inj (q.symm.trans e)
   have hx := h1.not (g := g) (Nat.le_of_eq e);exact hx
 ·rcases hn with q | q
  ·exact k4 g (q ▸ e)
  ·have e := Option.some.inj (q.symm.trans e)
   have := m1.size;omega
 ·rcases k2.2 with ⟨rfl, _⟩ | ⟨a, cap, cur, rfl, _, ha, _⟩
  ·cases e
  ·have e1 : a = g := by injection e
   subst e1;unfold Blk at hB;rw [ha] at hB;injection hB with hB
   injection hB with _ q _
   exact ht q.symm
theorem TaW.appP (h : TaW L w D ls lv s l b ov nv X) (hb : Below X.heap.size X Y) {q : Pt} (hq : q.OK) {t : TypeId} (hg : Blk Y g (a8 q) t) (hl : b.length < 100000000) (ty : TypeId) :
  ∃ v' w', (Builtin.append_ #[48, 48] ty #[nv, .slice (some ⟨g, 0, none⟩) 1 1]).run Tryz.prog Y = .ok v' w' ∧ TaW L w D ls lv s l (b ++ [q]) ov v' w' := by
 obtain ⟨⟨L1, v1, h1, m1, h3, h4, h5⟩, k1, k2, k3, k4, k5⟩ := h.below hb;obtain ⟨v', w', hr, ho, a0, hn⟩ := Fi k3 (Nat.zero_le _) hl hq (adr := ⟨g, 0, none⟩) (c := 1) (fun j u hj => by rw [Addr.add_mid, Nat.zero_add]; exact hg.cell hj) ty;have hc : Chg (fun g => nv.ownBlock = some g) Y w' := (Chg.refl _ Y).grown a0 (fun k e => .inl e);refine ⟨v', w', hr, ⟨⟨L1, v1, h1.out hc (fun g e _ => .inl (h5 g e)) (fun g e => .inl (by rfl)) (fun g hg => Nat.lt_of_lt_of_le (h1.lt g hg) a0.size), ⟨m1.chg.trans hc (fun g e => .inr (k5 g e)), m1.old, m1.new⟩, h3, h4, fun g e => ?_⟩, bc k1 hc (fun g e e' => Dd k1 k3 (by decide) e e'), bc k2 hc (fun g e e' => Dd k2 k3 (by decide) e e'), ho, k4, fun g e => ?_⟩⟩
 ·rcases hn with q | q
  ·exact h5 g (q ▸ e)
  ·have e := Option.some.inj (q.symm.trans e)
   have hx := h1.not (g := g) (Nat.le_of_eq e);exact hx
 ·rcases hn with q | q
  ·exact k5 g (q ▸ e)
  ·have e := Option.some.inj (q.symm.trans e)
   have := m1.size;omega
end
end Go.Proofs.YtjgjohdeeeoeoaaGreatDoor
