/- Inodes: Take. -/
import Derived.Test.YtjgjohdeeeoeoaaGreatDoorM25
import Derived.Test.YtjgjohdeeeoeoaaGreatDoorM22
namespace Go.Proofs.YtjgjohdeeeoeoaaGreatDoor
open Go.RowKit
variable {l rest rest' : Bs} {ns : List Ino} {G H L ee ee' k : Nat} {W W' w : World}
def StI (l : Bs) (k : Nat) (rest : Bs) (ee : Nat) (ns : List Ino) : Prop := rest.length ≤ l.length ∧ BOK ns ∧ ((ee = 0 ∧ rest = l.drop (128 * k) ∧ 128 * k ≤ l.length ∧ ∀ j, j < k → ns[j]? = some (ino (l.drop (128 * j))) ∧ jg (l.drop (128 * j)) = true) ∨ (ee ≠ 0 ∧ jv l = false))
theorem U9 {j : Nat} (hj : j < 4) (h : ph (l.drop (128 * j)) = false) : jv l = false := by
 unfold jv;have : ((List.range 4).all fun j => ph (l.drop (128 * j))) = false := by rw [List.all_eq_false]; exact ⟨j, List.mem_range.2 hj, by simp [h]⟩
 rw [this]; simp
theorem Bu (h : l.length ≠ 512) : jv l = false := by unfold jv; rw [decide_eq_false h]; rfl
theorem Fv {α : Type} {l : List α} {f : Nat → α} {q : Nat → Prop} (hk : k < l.length) (h : ∀ i, i < k → l[i]? = some (f i) ∧ q i) (hq : q k) : ∀ j, j < k + 1 → (l.set k (f k))[j]? = some (f j) ∧ q j := fun j hj => by
 by_cases e : k = j
 ·subst e; rw [List.getElem?_set_self hk]; exact ⟨rfl, hq⟩
 ·rw [List.getElem?_set_ne e]; exact h j (by omega)
theorem StI.next {n : Ino} (h : StI l k rest ee ns) (hk : k < 4) (hn : n.OK) (hl : rest'.length ≤ rest.length) (hr : (ee' = 0 ∧ ee = 0 ∧ 128 ≤ rest.length ∧ rest' = rest.drop 128 ∧ n = ino rest ∧ jg rest = true) ∨ (ee' ≠ 0 ∧ Ci rest ee)) : StI l (k + 1) rest' ee' (ns.set k n) := by
 obtain ⟨h1, h2, h3⟩ := h;refine ⟨Nat.le_trans hl h1, h2.set k hn, ?_⟩;rcases hr with ⟨a1, a2, a3, a4, a5, a6⟩ | ⟨a1, a2⟩
 ·rcases h3 with ⟨b1, b2, b3, b4⟩ | ⟨b1, b2⟩
  ·subst b2
   rw [List.length_drop] at a3;refine .inl ⟨a1, by rw [a4, List.drop_drop]; congr 1, by omega, ?_⟩;rw [a5];exact Fv (f := fun j => ino (l.drop (128 * j))) (q := fun j => jg (l.drop (128 * j)) = true) (by rw [h2.len]; exact hk) b4 a6
  ·exact absurd a2 b1
 ·refine .inr ⟨a1, ?_⟩
  rcases h3 with ⟨b1, b2, b3, b4⟩ | ⟨b1, b2⟩
  ·subst b2
   rcases a2 with c | c | c
   ·exact absurd b1 c
   ·rw [List.length_drop] at c
    exact Bu (by omega)
   ·exact U9 hk c
  ·exact b2
theorem StI.fin (h : StI l 4 rest ee ns) : (qd rest ee ≠ 0 → jv l = false) ∧ (qd rest ee = 0 → jv l = dx ns ∧ (dx ns = true → ns = pr l)) := by
 obtain ⟨h1, h2, h3⟩ := h;rcases h3 with ⟨b1, b2, b3, b4⟩ | ⟨b1, b2⟩
 ·subst b1 b2
  have e1 : qd (l.drop (128 * 4)) 0 = if l.length = 512 then 0 else 5 := by
   unfold qd lm n9;rw [if_pos rfl, List.length_drop];by_cases h : l.length = 512
   ·rw [if_pos h, if_pos (by omega)]
   ·rw [if_neg h, if_neg (by omega)]; rfl
  rw [e1];by_cases h : l.length = 512
  ·rw [if_pos h]
   have a1 : ns = Aw l := by
    apply List.ext_getElem?;intro j;by_cases hj : j < 4
    ·rw [(b4 j hj).1]; simp [Aw, hj]
    ·rw [List.getElem?_eq_none (by rw [h2.len]; omega), List.getElem?_eq_none (by simp [Aw]; omega)]
   have a0 : jv l = dx ns := by
    rw [a1];unfold jv dx Aw;rw [decide_eq_true h, List.all_map, Bool.true_and, Bool.eq_iff_iff, List.all_eq_true, List.all_eq_true];have hf : ∀ j, j < 4 → ph (l.drop (128 * j)) = ij (ino (l.drop (128 * j))) := fun j hj => by unfold ph; rw [(b4 j hj).2]; rfl
    constructor
    ·intro H j hj; have := H j hj; rw [hf j (List.mem_range.1 hj)] at this; exact this
    ·intro H j hj; rw [hf j (List.mem_range.1 hj)]; exact H j hj
   exact ⟨fun h => absurd rfl h, fun _ => ⟨a0, fun ha => by unfold pr; rw [if_pos (by rw [a0]; exact ha)]; exact a1⟩⟩
  ·rw [if_neg h]
   exact ⟨fun _ => Bu h, fun h => by cases h⟩
 ·refine ⟨fun _ => b2, fun h => ?_⟩
  unfold qd lm n9 at h;rw [if_neg b1, if_pos rfl] at h;exact absurd h b1
def wm (l : Bs) (w : World) (x : Ending) (w' : World) : Prop := x = .returned (.tuple #[.agg (ai (pr l)).toArray, .int .i64 (ye l : Int)]) ∧ Below w.heap.size w w'
structure TkB (w : World) (L H G : Nat) (ns : List Ino) (rest : Bs) (ee : Nat) (W : World) : Prop where
 res : Blk W w.heap.size (ai zeros4) 104
 b : Blk W G (ai ns) 104
 rd : RdAt W H (fun g => L ≤ g ∧ g < H) rest ee
 bel : Below w.heap.size w W
 hH : w.heap.size + 1 ≤ H ∧ H < G
theorem TkB.read (h : TkB w L H G ns rest ee W) (hr : RdAt W' H (fun g => L ≤ g ∧ g < H) rest' ee') (hb : ButFor H W W') : TkB w L H G ns rest' ee' W' :=
 have h1 := h.hH
 ⟨hb.blk h.res (by omega), hb.blk h.b (by omega), hr, h.bel.trans (hb.below (by omega) h.bel.size), h.hH⟩
theorem TkB.grown (h : TkB w L H G ns rest ee W) (hb : Below W.heap.size W W') : TkB w L H G ns rest ee W' :=
 ⟨h.res.below hb h.res.lt, h.b.below hb h.b.lt, h.rd.below hb (Nat.le_refl _), h.bel.trans (hb.mono h.bel.size), h.hH⟩
theorem TkB.put (h : TkB w L H G ns rest ee W) (hn : BOK ns) (hk : k < 4) {q : Ino} (hq : q.OK) : TkB w L H G (ns.set k q) rest ee (W.setCells G (k * 44) (af q)) :=
 have h1 := h.hH
 ⟨fh (by omega) _ _ _ _ h.res, E3 hn h.b hk (Nat.mul_comm k 44) hq, h.rd.other (J := G) (ButFor.sets _ _ _ (ButFor.refl _ _)) (by omega) (fun hk => by omega), ra _ _ _ h.bel (by omega), h1⟩
set_option maxRecDepth 100000 in
set_option maxHeartbeats 8000000 in
theorem Nb (l : Bs) (sp : Option Addr) (cap : Nat) (w : World) (hl : l.length ≤ 100000) (hz : sp = none → cap = 0) (hc : l.length ≤ cap) (hS : SrcA w sp l) (hT : RTab w) : Calls Tryz.prog 76 #[.slice sp l.length cap] w (wm l w) := by
 have HL := zH hl; have HT := zH hT;have HB : Hid (Blk (w.alloc (.cells (ai zeros4).toArray 104)) w.heap.size (ai zeros4) 104) := zH (Blk.new _ _ _);have HW : Hid (Below w.heap.size w (w.alloc (.cells (ai zeros4).toArray 104))) := zH ((Below.refl _ _).alloc (Nat.le_refl _) _);obtain ⟨N, hN⟩ : ∃ N, l.length = N := ⟨_, rfl⟩;have HN := zH hN
 have bg : Hid (∀ W, Below w.heap.size w W → Calls Tryz.prog 26 #[.slice sp N cap] W (Vr l W)) := zH fun W hb => by
  have h1 := Ks l sp cap W hl hz hc (hS.grown hb);rw [hN] at h1;exact h1
 have ae : Hid ((w.alloc (.cells (ai zeros4).toArray 104)).heap.size = w.heap.size + 1) := zH (by simp);rw [hN];generalize hPost : wm l w = Post;have HQ : Hid (∀ x w', wm l w x w' → Post x w') := zH fun x w' h => by rw [← hPost]; exact h
 clear hl hz hc hS hT hPost hN;go_enter Tryz.func76, Tryz.ntmps76
 go_upto_region 1 with fail
 refine (fun (k : ∀ W, Blk W w.heap.size (ai zeros4) 104 → Below w.heap.size w W → W.heap.size = w.heap.size + 1 → Code.wp _ _ _ _ W) => k _ HB.out HW.out ae.out) ?_;intro W0 hb hw hs;have bd := zH hb; have b2 := zH hw; have b0 := zH hs;clear hb hw hs HB HW ae
 go_wp2_with fail
 refine (bg.out W0 b2.out).mono ?_;rintro e1 W1 ⟨H, rfl, aj, hH, bb⟩;have av := zH aj; have HH := zH hH; have ay := zH bb;clear aj hH bb bg
 go_upto_region 3 with fail
 have hx : ∀ z, z = (ai zeros4).toArray → TkB w W0.heap.size H W1.heap.size zeros4 l 0 (W1.alloc (.cells z 104)) := fun z hz => by
  subst hz;have h1 := b0.out;have h2 := HH.out;have h3 := av.out.lt;have hg : Below W1.heap.size W1 (W1.alloc (.cells (ai zeros4).toArray 104)) := (Below.refl _ _).alloc (Nat.le_refl _) _;have b5 : Below w.heap.size w W1 := b2.out.trans (ay.out.mono (by omega));exact ⟨(bd.out.below ay.out (by omega)).alloc _, Blk.new _ _ _, av.out.below hg (Nat.le_refl _), b5.trans (hg.mono b5.size), by omega⟩
 refine (fun (k : ∀ W, TkB w W0.heap.size H W1.heap.size zeros4 l 0 W → Code.wp _ _ _ _ W) => k _ (hx _ rfl)) ?_;intro W2 hx2;obtain ⟨G, hG⟩ : ∃ g, W1.heap.size = g := ⟨_, rfl⟩;obtain ⟨L, b3⟩ : ∃ g, W0.heap.size = g := ⟨_, rfl⟩;have az : Hid (0 < H) := zH (by have := HT.out.lt; have := HH.out; have := b0.out; omega);rw [hG, b3] at hx2;rw [hG];have HX := zH hx2;clear hx hx2 hG b3 av ay bd b2 HH b0;have bo := zH zeros4_ok;have ag : Hid (StI l 0 l 0 zeros4) := zH ⟨Nat.le_refl _, bo.out, .inl ⟨rfl, by simp, by omega, fun j hj => by omega⟩⟩
 go_wp2_with fail
 go_loopw [9] (fun i wr => ∃ (k : Nat) (ns : List Ino) (a0 : Bs) (ee : Nat), k ≤ 4 ∧ i = .int .i64 (k : Int) ∧ StI l k a0 ee ns ∧ TkB w L H G ns a0 ee wr) (fun i _ => 4 - (intOf i).toNat)
 case atStart => exact ⟨0, zeros4, l, 0, by omega, rfl, ag.out, HX.out⟩
 case round =>
  clear HX ag;obtain ⟨k, ns, a0, ee, hk, rfl, ar, hX⟩ := hrel;have HX := zH hX; have aa := zH ar;have a2 := zH ar.2.1;have bp := IntWalk.i64_in ((k : Int) + 1) (by omega);have bl := hX.hH;have ba := HT.out.grown hX.bel;have b9 := N6 a0 ee H wr hX.rd (fun g hg => by have := hX.b.lt; omega) (Nat.le_trans ar.1 HL.out) ba (by have := az.out; omega);have b1 := zH b9;clear hX ar bl ba b9;by_cases hlt : k < 4
  ·go_wp2_with fail
   refine b1.out.mono ?_;rintro e w3 ⟨⟨n, b6, br, rfl, a3, aj, bc, ak⟩, b7⟩;have aw := HX.out.read aj b7;have bm := zH (aw.put a2.out hlt a3);have bk := zH (aa.out.next hlt a3 bc ak);have bi : Hid (w3.there G (k * 44) (af n).toArray.size) := zH (aw.b.there _ _ (by rw [List.size_toArray, am a3, a2.out.cells]; omega));have a7 := zH (ez a3);have bn := zH hlt;clear a3 aj bc ak b7 aw HX aa b1
   go_wp2_with (first | (refine aq (by rfl) (Ky bn.out rfl rfl rfl) ?_) | (refine wpList_store_mid rfl 68 (.tmp 15) (.tmp 14) rfl G (k * 44) (af n).toArray rfl rfl bi.out a7.out (fk n) ?_) | fail)
   go_roundw
   case rel => exact ⟨k + 1, _, _, _, by omega, by go_num, bk.out, bm.out⟩
   case measure => simp [intOf]; omega
  ·obtain rfl : k = 4 := by omega
   rw [show ((4 : Nat) : Int) = (4 : Int) from rfl];have ax := zH aa.out.fin;obtain ⟨E, hE⟩ : ∃ E, qd a0 ee = E := ⟨_, rfl⟩;have HE := zH hE;have a1 := Kd H a0 ee wr.drew (HX.out.grown (Below.refl _ _).drew).rd;rw [hE] at a1 ax;have bq := zH (ey a2.out);have bj := zH (A2 a2.out);clear hlt hk hE b1 bp
   go_upto_region 8 with fail
   have ad : Blk wr.drew G (ai ns) 104 := HX.out.b.drew;have a5 := HX.out.grown (Below.refl _ _).drew;by_cases hE0 : E = 0
   ·subst hE0
    have ab := ax.out.2 rfl;obtain ⟨eb, b4⟩ : ∃ b, decide (ns = gi ns) = b := ⟨_, rfl⟩;have bf := zH b4;clear b4;refine gS (.take 0 (.step 1 (.take 2 (.take 3 (.take 4 (.take 5 (.step 6 (.take 7 (.take 8 (.nil)))))))))) (fun X => Blk X G (ai ns) 104) (ad) ?_;refine gT (.pointer (some ⟨H, 0, none⟩)) ?_;refine b8 _ rfl (by rfl) 31 #[.pointer (some ⟨H, 0, none⟩)] (fun X => by go_simp) (fun u X => u = .int .i64 ((0 : Nat) : Int) ∧ TkB w L H G ns a0 0 X) (a1.mono fun e X ⟨e1, e2, e3⟩ => ⟨_, e1, (a5.read e2 e3).b, rfl, a5.read e2 e3⟩) ?_;rintro u X5 ao ⟨rfl, al⟩;refine ⟨fun X => Blk X G (ai ns) 104, fun _ h => h, ao, ?_⟩; try simp only [pS]
    refine gT (.bool false) ?_;refine gT (.bool false) ?_;refine gU (.agg (ai ns).toArray) rfl (fun X hX => dn a2.out hX rfl rfl) ?_;refine gU (.agg (ai ns).toArray) rfl (fun X hX => dn a2.out hX rfl rfl) ?_;refine b8 _ rfl (by rfl) 92 #[.agg (ai ns).toArray] (fun X => by go_simp) (fun u X => u = .agg (ai (gi ns)).toArray ∧ TkB w L H G ns a0 0 X) ((ya ns a2.out X5 (HT.out.grown al.bel)).mono fun e X ⟨e1, e2⟩ => ⟨_, e1, (al.grown e2).b, rfl, al.grown e2⟩) ?_;rintro u X7 a8 ⟨rfl, a4⟩;refine ⟨fun X => Blk X G (ai ns) 104, fun _ h => h, a8, ?_⟩; try simp only [pS]
    refine gU (.bool (!eb)) rfl (fun X hX => (Lb a2.out bj.out rfl rfl rfl).trans (by rw [bf.out])) ?_;refine gT (.bool (!eb)) ?_;refine au ?_;have ah : dx ns = eb := (by rw [← bf.out, Bool.eq_iff_iff, decide_eq_true_iff]; exact (ub ns).symm);have ap := zH a4.bel;have a6 := zH a4.res;have bh := zH a8;cases eb
    ·have hv : ye l = 5 ∧ pr l = zeros4 := by unfold ye pr; rw [ab.1, ah]; exact ⟨rfl, rfl⟩
     have HV := zH hv;have a7 := zH (ey zeros4_ok);have an := zH (cn zeros4);clear hv ab ah a4 a8 a5 ad a1 HX aa
     go_wp2_with (first | (refine a9 rfl (jz rfl) ?_) | (refine wpList_store_row rfl 104 (.tmp 2) (.tmp 26) rfl w.heap.size (ai zeros4).toArray rfl rfl 104 _ a6.out a7.out rfl an.out ?_) | fail)
     refine bodyPost_ret (ei Tryz.results76 _ _ w.heap.size 104 _ rfl (a6.out.row _) Tryz.underlying104 (ia zeros4_ok)) rfl (HQ.out _ _ ⟨?_, d6 ap.out (Nat.le_refl _) _⟩);rw [HV.out.1, HV.out.2]; rfl
    ·have hv : ye l = 0 ∧ pr l = ns := ⟨by unfold ye; rw [ab.1, ah]; rfl, (ab.2 ah).symm⟩
     have HV := zH hv;have an := zH (cn ns);have a7 : Hid ((ai zeros4).toArray.size = (ai ns).toArray.size) := zH (by rw [zeros4_ok.size, a2.out.size]);clear hv ab ah a4 a8 a5 ad a1 HX aa
     go_wp2_with (first | (refine a9 rfl (dn a2.out bh.out rfl rfl) ?_) | (refine wpList_store_row rfl 104 (.tmp 2) (.tmp 27) rfl w.heap.size (ai ns).toArray rfl rfl 104 _ a6.out bq.out a7.out an.out ?_) | fail)
     refine bodyPost_ret (ei Tryz.results76 _ _ w.heap.size 104 _ rfl (a6.out.row _) Tryz.underlying104 (ia a2.out)) rfl (HQ.out _ _ ⟨?_, d6 ap.out (Nat.le_refl _) _⟩);rw [HV.out.1, HV.out.2]; rfl
   ·have i0 : ¬ (E : Int) = 0 := by omega
    have a3 := ax.out.1 hE0;refine gS (.take 0 (.step 1 (.take 2 (.take 3 (.take 4 (.take 5 (.step 6 (.take 7 (.take 8 (.nil)))))))))) (fun X => Blk X G (ai ns) 104) (ad) ?_;refine gT (.pointer (some ⟨H, 0, none⟩)) ?_;refine b8 _ rfl (by rfl) 31 #[.pointer (some ⟨H, 0, none⟩)] (fun X => by go_simp) (fun u X => u = .int .i64 (E : Int) ∧ TkB w L H G ns a0 E X) (a1.mono fun e X ⟨e1, e2, e3⟩ => ⟨_, e1, (a5.read e2 e3).b, rfl, a5.read e2 e3⟩) ?_;rintro u X5 ao ⟨rfl, al⟩;refine ⟨fun X => Blk X G (ai ns) 104, fun _ h => h, ao, ?_⟩; try simp only [pS]
    refine gT (.bool true) ?_;refine gT (.bool true) ?_;refine gP ?_;refine gP ?_;refine ju _ rfl (by rfl) ao ?_; try simp only [pS]
    refine gP ?_;refine gT (.bool true) ?_;refine au ?_;have a4 := al;have a8 := ao;have hv : ye l = 5 ∧ pr l = zeros4 := (by unfold ye pr; rw [a3]; exact ⟨rfl, rfl⟩);have HV := zH hv;have ap := zH a4.bel;have a6 := zH a4.res;have a7 := zH (ey zeros4_ok);have an := zH (cn zeros4);clear hv a3 a4 a8 a5 ad a1 HX aa
    go_wp2_with (first | (refine a9 rfl (jz rfl) ?_) | (refine wpList_store_row rfl 104 (.tmp 2) (.tmp 26) rfl w.heap.size (ai zeros4).toArray rfl rfl 104 _ a6.out a7.out rfl an.out ?_) | fail)
    refine bodyPost_ret (ei Tryz.results76 _ _ w.heap.size 104 _ rfl (a6.out.row _) Tryz.underlying104 (ia zeros4_ok)) rfl (HQ.out _ _ ⟨?_, d6 ap.out (Nat.le_refl _) _⟩);rw [HV.out.1, HV.out.2]; rfl
end Go.Proofs.YtjgjohdeeeoeoaaGreatDoor
namespace Go.Proofs.YtjgjohdeeeoeoaaGreatDoor
open Go.RowKit
attribute [local go_sem] Oper.semAt_some
variable {D G : Nat} {L L1 : Nat → Nat} {p : Pt} {s s1 : Sh} {v : Sv} {X Y w : World}
def de (k : Nat) : Bool := decide (k ≠ 0) && decide (k ≤ 255)
theorem vy (k : Nat) (hk : k < 65536) (w : World) : Calls Tryz.prog 43 #[.int .u16 (k : Int)] w fun e w' => e = .returned (.bool (de k)) ∧ w' = w := by
 generalize hPost : (fun (e : Ending) (w' : World) => e = .returned (.bool (de k)) ∧ w' = w) = Post;have a0 : Hid (∀ b, de k = b → Post (.returned (.bool b)) w) := zH fun b e => by rw [← hPost, ← e]; exact ⟨rfl, rfl⟩
 clear hPost;go_enter Tryz.func43, Tryz.ntmps43;by_cases h0 : k = 0
 ·subst h0
  have HE := zH (a0.out false rfl)
  go_wp2_with fail
  first | exact HE.out | (simpa [bne, j0] using HE.out) | (simpa using HE.out)
 ·have j0 : ((k : Int) == 0) = false := by simp; omega
  have a1 : ¬ (k : Int) = 0 := (by omega);by_cases h1 : k ≤ 255
  ·have j1 : (k : Int) ≤ 255 := by omega
   have HE := zH (a0.out true (by unfold de; rw [decide_eq_true h0, decide_eq_true h1]; rfl));clear h0 h1
   go_wp2_with fail
   first | exact HE.out | (simpa [bne, j0] using HE.out) | (simpa using HE.out)
  ·have j1 : ¬ (k : Int) ≤ 255 := by omega
   have HE := zH (a0.out false (by unfold de; rw [decide_eq_false h1, Bool.and_false]));clear h0 h1
   go_wp2_with fail
   first | exact HE.out | (simpa [bne, j0] using HE.out) | (simpa using HE.out)
def tbE (s : Sh) (p : Pt) : Nat := if eqP p zeroP = true then 0 else if rdE s p ≠ 0 then rdE s p else if ye (rdB s p) ≠ 0 then 21 else 0
def tbN (s : Sh) (p : Pt) : List Ino := if eqP p zeroP = true then zeros4 else if rdE s p ≠ 0 then zeros4 else pr (rdB s p)
def tbS (s : Sh) (p : Pt) : Sh := if eqP p zeroP = true then s else rdS s p
def Do (L : Nat → Nat) (w : World) (D : Nat) (s : Sh) (p : Pt) (e : Ending) (w' : World) : Prop := e = .returned (.tuple #[.agg (ai (tbN s p)).toArray, .int .i64 (tbE s p : Int)]) ∧ ShPost 5 L w D (tbS s p) w'
structure TbRS (L : Nat → Nat) (w : World) (D G : Nat) (s1 : Sh) (p : Pt) (X : World) : Prop where
 sh : ∃ L1 v1, ShAt X L1 D s1 v1 ∧ Mv 5 L w L1 X ∧ L1 G = 0 ∧ L1 (G + 1) = 0
 box : Blk X G (a8 p) 28
 res : Blk X (G + 1) (ai zeros4) 104
 lo : w.heap.size ≤ G
theorem TbRS.below (h : TbRS L w D G s1 p X) (hb : Below X.heap.size X Y) : TbRS L w D G s1 p Y := by
 obtain ⟨⟨L1, v1, h1, h2, h3, h4⟩, hg, hr, a0⟩ := h;exact ⟨⟨L1, v1, h1.below hb, h2.trans (Mv.of_below hb h1.lt), h3, h4⟩, hg.below hb hg.lt, hr.below hb hr.lt, a0⟩
theorem TbRS.ends (h : TbRS L w D G s1 p X) (ns : List Ino) : ShPost 5 L w D s1 (X.setRow (G + 1) (ai ns).toArray) ∧ Blk (X.setRow (G + 1) (ai ns).toArray) (G + 1) (ai ns) 104 := by
 obtain ⟨⟨L1, v1, h1, h2, h3, h4⟩, hg, hr, a0⟩ := h;have hc := tc X (G + 1) (ai ns).toArray;have hz : (X.setRow (G + 1) (ai ns).toArray).heap.size = X.heap.size := by simp
 refine ⟨⟨L1, v1, h1.out hc (fun g e _ => .inl (by rw [e]; exact h4)) (fun _ _ => .inl rfl) (fun g hg => by rw [hz]; exact h1.lt g hg), ?_⟩, hr.row _⟩;exact ⟨h2.chg.trans hc (fun g e => by right; have : g = G + 1 := e; omega), h2.old, h2.new⟩
set_option maxRecDepth 100000 in
set_option maxHeartbeats 8000000 in
theorem Aa {n : Nat} (p : Pt) (hp : p.OK) (h : ShAt w L D s v) (hn : Lim n s) (hbl : (rdB s p).length ≤ 100000) : Calls Tryz.prog 46 #[shI D, .agg (a8 p).toArray] w (Do L w D s p) := by
 have a4 := zH hp;have HN := zH hn;have b4 := zH hbl
 have HX : Hid (∀ z, z = (ai zeros4).toArray → TbRS L w D w.heap.size s p ((w.alloc (.cells (a8 p).toArray 28)).alloc (.cells z 104))) := zH (fun z hz => by
  subst hz;have b0 : Below w.heap.size w ((w.alloc (.cells (a8 p).toArray 28)).alloc (.cells (ai zeros4).toArray 104)) := ((Below.refl _ _).alloc (Nat.le_refl _) _).alloc (by simp) _
  exact ⟨⟨L, v, h.below b0, Mv.of_below b0 h.lt, h.not (Nat.le_refl _), h.not (by omega)⟩, (Blk.new _ _ _).alloc _, Blk.new' _ _ _ _ _ (by simp) rfl, Nat.le_refl _⟩)
 generalize hPost : Do L w D s p = Post;have HP : Hid (∀ w', ShPost 5 L w D (tbS s p) w' → Post (.returned (.tuple #[.agg (ai (tbN s p)).toArray, .int .i64 (tbE s p : Int)])) w') := zH fun w' h => by rw [← hPost]; exact ⟨rfl, h⟩
 have af := zH (ey zeros4_ok);have ag := zH (cn zeros4);clear hp h hn hPost;unfold shI;go_enter Tryz.func46, Tryz.ntmps46
 go_upto_region 1 with fail
 refine (fun (k : ∀ W, TbRS L w D w.heap.size s p W → Code.wp _ _ _ _ W) => k _ (HX.out _ rfl)) ?_;intro W hW;obtain ⟨G, hG⟩ : ∃ G, w.heap.size = G := ⟨_, rfl⟩;rw [hG] at hW ⊢;clear HX;have HX := zH hW;clear hW;have a3 := HX;cases hz : eqP p zeroP
 ·have HE : Hid (tbS s p = rdS s p ∧ tbE s p = (if rdE s p ≠ 0 then rdE s p else if ye (rdB s p) ≠ 0 then 21 else 0) ∧ tbN s p = if rdE s p ≠ 0 then zeros4 else pr (rdB s p)) := zH (by unfold tbS tbE tbN; rw [hz]; exact ⟨rfl, rfl, rfl⟩)
  obtain ⟨⟨L1, v1, h1, h2, h3, h4⟩, h5, h6, h7⟩ := a3.out;have au := zH (zy p a4.out h1 (by have := HN.out.rd; have := HN.out.n; omega) HN.out.bl HN.out.bd)
  have HM : Hid (∀ e X, D4 5 L1 W D s p e X → ∃ a6 L3, e = .returned (.tuple #[a6, .int .i64 (rdE s p : Int)]) ∧ TbRS L w D G (rdS s p) p X ∧ BkV X L3 a6 (rdB s p)) := zH (by
   rintro e X ⟨a6, L3, v3, rfl, k1, k2, k3⟩
   exact ⟨a6, L3, rfl, ⟨⟨L3, v3, k1, h2.trans k2, (k2.old G h5.lt).trans h3, (k2.old (G + 1) h6.lt).trans h4⟩, k2.blk h5 h3, k2.blk h6 h4, h7⟩, k3⟩)
  clear h1 h2 h3 h4 h5 h6 h7;clear HX
  go_wp2_with (first | (refine a9 rfl (ax a4.out a3.out.box rfl rfl) ?_) | (refine a9 rfl (bj rfl) ?_) | (refine a9 rfl ((tf rfl rfl rfl a4.out ak).trans (by rw [hz])) ?_) | fail)
  refine au.out.mono ?_;intro e X hpost;obtain ⟨a6, L3, rfl, av, b2⟩ := HM.out e X hpost;have a7 := zH av;have aw := zH b2;clear hpost av b2 HM au a3;obtain ⟨re, ae⟩ : ∃ re, rdE s p = re := ⟨_, rfl⟩;rw [ae] at HE ⊢;by_cases h0 : re = 0
  ·subst h0
   obtain ⟨sp, b7, rfl, hc, ao, hS, -⟩ := aw.out;obtain ⟨⟨L4, v4, h4, -⟩, -⟩ := a7.out;have ad := Nb (rdB s p) sp b7 X b4.out ao hc hS h4.tab.1;obtain ⟨ln, ap⟩ : ∃ ln, (rdB s p).length = ln := ⟨_, rfl⟩;rw [ap] at ad ⊢;have aq := zH ad;have a5 := zH (Lv (rdB s p));have ah := zH (ey a5.out);have aj : Hid ((ai (pr (rdB s p))).toArray.size = 176) := zH a5.out.size;have al := zH (cn (pr (rdB s p)));clear hc ao hS ad h4 ap aw ae
   go_wp2_with fail
   refine aq.out.mono ?_;rintro e X4 ⟨rfl, am⟩;have ay := zH (a7.out.below am);clear am a7 aq;obtain ⟨ns, aa⟩ : ∃ ns, pr (rdB s p) = ns := ⟨_, rfl⟩;obtain ⟨ne, ab⟩ : ∃ ne, ye (rdB s p) = ne := ⟨_, rfl⟩;rw [aa] at a5 ah aj al;rw [aa, ab] at HE;rw [aa, ab];have b5 : Hid (ne ≠ 0 → ns = zeros4) := zH (fun h => by rw [← aa]; rw [← ab] at h; unfold ye at h; unfold pr; by_cases k : jv (rdB s p) = true <;> simp_all);clear aa ab
   go_upto_region 7 with (first | (refine wpList_store_row rfl 104 (.tmp 8) (.tmp 26) rfl X4.heap.size (ai ns).toArray rfl rfl 104 _ (heap_alloc_new X4 _) ah.out (by rw [aj.out]; rfl) al.out ?_) | fail)
   refine (fun (k : ∀ W, TbRS L w D G (rdS s p) p W → Blk W X4.heap.size (ai ns) 104 → Code.wp _ _ _ _ W) => k _ (ay.out.below (ar X4 _ (ai ns) 104).2) (ar X4 _ (ai ns) 104).1) ?_;intro X5 hX5 hb5;have az := zH hX5; have b1 := zH hb5;obtain ⟨G5, an⟩ : ∃ g, X4.heap.size = g := ⟨_, rfl⟩;rw [an] at b1 ⊢;have a2 := zH hX5.res;clear hX5 hb5 ay an;by_cases hn0 : ne = 0
   ·subst hn0
    obtain ⟨e1, e2, e3⟩ := HE.out;rw [if_neg (by simp), if_neg (by simp)] at e2;rw [if_neg (by simp)] at e3;have a1 := zH (az.out.ends ns);have a0 := zH (HP.out _ (by rw [e1]; exact a1.out.1));rw [e2, e3] at a0;have b6 : Hid ((ai zeros4).toArray.size = (ai ns).toArray.size) := zH (by rw [aj.out, zeros4_ok.size]);clear e1 e2 e3 HE
    go_wp2_with (first | (refine a9 rfl (dn a5.out b1.out rfl rfl) ?_) | (refine wpList_store_row rfl 104 (.tmp 4) (.tmp 31) rfl (G + 1) (ai ns).toArray rfl rfl 104 _ a2.out ah.out b6.out al.out ?_) | fail)
    refine bodyPost_ret (ei Tryz.results46 _ _ (G + 1) 104 _ rfl a1.out.2 Tryz.underlying104 (ia a5.out)) rfl ?_;exact a0.out
   ·obtain ⟨e1, e2, e3⟩ := HE.out
    rw [if_neg (by simp), if_pos hn0] at e2;rw [if_neg (by simp), b5.out hn0] at e3;have a1 := zH (az.out.ends zeros4);have a0 := zH (HP.out _ (by rw [e1]; exact a1.out.1));rw [e2, e3] at a0;have b3 : ¬ (ne : Int) = 0 := (by omega);clear e1 e2 e3 HE hn0
    go_wp2_with (first | (refine a9 rfl (jz rfl) ?_) | (refine wpList_store_row rfl 104 (.tmp 4) (.tmp 30) rfl (G + 1) (ai zeros4).toArray rfl rfl 104 _ a2.out af.out rfl ag.out ?_) | fail)
    refine bodyPost_ret (ei Tryz.results46 _ _ (G + 1) 104 _ rfl a1.out.2 Tryz.underlying104 (ia zeros4_ok)) rfl ?_;exact a0.out
  ·obtain ⟨e1, e2, e3⟩ := HE.out
   rw [if_pos h0] at e2;rw [if_pos h0] at e3;have a1 := zH (a7.out.ends zeros4);have a0 := zH (HP.out _ (by rw [e1]; exact a1.out.1));rw [e2, e3] at a0;have a2 := zH a7.out.res;have b8 : ¬ (re : Int) = 0 := (by omega);clear e1 e2 e3 HE h0 ae
   go_wp2_with (first | (refine a9 rfl (jz rfl) ?_) | (refine wpList_store_row rfl 104 (.tmp 4) (.tmp 21) rfl (G + 1) (ai zeros4).toArray rfl rfl 104 _ a2.out af.out rfl ag.out ?_) | fail)
   refine bodyPost_ret (ei Tryz.results46 _ _ (G + 1) 104 _ rfl a1.out.2 Tryz.underlying104 (ia zeros4_ok)) rfl ?_;exact a0.out
 ·have a1 := zH (a3.out.ends zeros4)
  have a0 := zH (HP.out _ (by unfold tbS; rw [hz]; exact a1.out.1));have e2 : tbE s p = 0 := (by unfold tbE; rw [hz]; rfl);have e3 : tbN s p = zeros4 := (by unfold tbN; rw [hz]; rfl);rw [e2, e3] at a0;have a2 := zH a3.out.res;clear e2 e3 HX
  go_wp2_with (first | (refine a9 rfl (ax a4.out a3.out.box rfl rfl) ?_) | (refine a9 rfl (bj rfl) ?_) | (refine a9 rfl ((tf rfl rfl rfl a4.out ak).trans (by rw [hz])) ?_) | (refine a9 rfl (jz rfl) ?_) | (refine wpList_store_row rfl 104 (.tmp 4) (.tmp 12) rfl (G + 1) (ai zeros4).toArray rfl rfl 104 _ a2.out af.out rfl ag.out ?_) | fail)
  refine bodyPost_ret (ei Tryz.results46 _ _ (G + 1) 104 _ rfl a1.out.2 Tryz.underlying104 (ia zeros4_ok)) rfl ?_;exact a0.out
def blE (s : Sh) (p : Pt) (off : Nat) : Nat := if lq s p off ≠ 0 then lq s p off else tbE (ja s p off) (jp s p off)
def blN (s : Sh) (p : Pt) (off : Nat) : List Ino := if lq s p off ≠ 0 then zeros4 else tbN (ja s p off) (jp s p off)
def blS (s : Sh) (p : Pt) (off : Nat) : Sh := if lq s p off ≠ 0 then ja s p off else tbS (ja s p off) (jp s p off)
def Hi (L : Nat → Nat) (w : World) (D : Nat) (s : Sh) (p : Pt) (off m : Nat) (e : Ending) (w' : World) : Prop := e = .returned (.tuple #[.agg (ai (blN s p off)).toArray, .int .i64 (blE s p off : Int)]) ∧ ShPost 5 L w D (blS s p off) w' ∧ Lim m (blS s p off)
theorem D5 {f : Sh → List Pt → List Lf → Pt → Nat → Bw} (hf : ∀ s ns ls q a, q.OK → (∀ x ∈ ls, Pt.OK x.2) → ∀ x ∈ (f s ns ls q a).ls, Pt.OK x.2) (wide first fr tt : Nat) : ∀ (qs : List Pt) (i : Nat) (s : Sh) (ns : List Pt) (ls : List Lf), (∀ q ∈ qs, q.OK) → (∀ x ∈ ls, Pt.OK x.2) → ∀ x ∈ (goB f wide first fr tt qs i s ns ls).ls, Pt.OK x.2
 | [], _, _, _, _, _, hl => hl
 | q :: qs, i, s, ns, ls, hq, hl => by
  have a0 := hq q (List.mem_cons_self ..);have a1 : ∀ q ∈ qs, q.OK := fun y hy => hq y (List.mem_cons_of_mem _ hy)
  by_cases hc : first + i * wide + wide ≤ fr ∨ tt ≤ first + i * wide
  ·rw [ji hc]; exact D5 hf wide first fr tt qs _ _ _ _ a1 hl
  ·by_cases he : (f s ns ls q (first + i * wide)).e = 0
   ·rw [mp hc he]
    exact D5 hf wide first fr tt qs _ _ _ _ a1 (hf _ _ _ _ _ a0 hl)
   ·rw [uk hc he]; exact hf _ _ _ _ _ a0 hl
theorem ze (fr tt : Nat) : ∀ (n : Nat) (s : Sh) (ns : List Pt) (ls : List Lf) (p : Pt) (first : Nat), p.OK → (∀ x ∈ ls, Pt.OK x.2) → ∀ x ∈ (bg fr tt n s ns ls p first).ls, Pt.OK x.2
 | 0, s, ns, ls, p, first, hp, hl => by
  unfold bg;split
  ·exact hl
  ·intro x hx
   rcases List.mem_append.1 hx with h | h
   ·exact hl x h
   ·simp at h; subst h; exact hp
 | n + 1, s, ns, ls, p, first, hp, hl => by
  rw [bu];split
  ·exact hl
  ·split
   ·exact hl
   ·exact D5 (fun s ns ls q a h1 h2 => ze fr tt n s ns ls q a h1 h2) (8 ^ n) first fr tt (rnN s p) 0 (rnS s p) (ns ++ [p]) ls (za s p).ok hl
theorem R8 (s : Sh) (off : Nat) (hp : p.OK) : (jp s p off).OK := by
 unfold jp;split
 ·exact ak
 ·unfold io
  cases hl : (tk s p off).ls.getLast? with
  | none => exact ak
  | some y => exact ze off (off + 1) 2 s [] [] p 0 hp (fun x hx => by simp at hx) y (List.mem_of_getLast? hl)
theorem Hl (s : Sh) (p : Pt) : BOK (tbN s p) := by
 unfold tbN;split
 ·exact zeros4_ok
 ·split
  ·exact zeros4_ok
  ·exact Lv _
theorem TbRS.post {s2 : Sh} (h : TbRS L w D G s p X) {v1 : Sv} (h1 : ShAt X L1 D s v1) (h2 : Mv 5 L w L1 X) (h3 : L1 G = 0) (h4 : L1 (G + 1) = 0) (hp : ShPost 5 L1 X D s2 Y) : TbRS L w D G s2 p Y := by
 obtain ⟨L3, v3, k1, k2⟩ := hp;exact ⟨⟨L3, v3, k1, h2.trans k2, (k2.old G h.box.lt).trans h3, (k2.old (G + 1) h.res.lt).trans h4⟩, k2.blk h.box h3, k2.blk h.res h4, h.lo⟩
theorem Lo.of (h : Lo L) (hm : Mv 5 L w L1 X) : Lo L1 := h.mv hm
set_option maxRecDepth 100000 in
set_option maxHeartbeats 8000000 in
theorem py {m : Nat} (p : Pt) (hp : p.OK) (off : Nat) (hoff : off < 4294967296) (h : ShAt w L D s v) (hlo : Lo L) (hk : Lim m s) (hm : m + 74 < 100000000) (hbl : (rdB (ja s p off) (jp s p off)).length ≤ 100000) :
  Calls Tryz.prog 38 #[shI D, .agg (a8 p).toArray, .int .u32 (off : Int)] w (Hi L w D s p off (m + 74)) := by
 have aq := zH hp;have HK := zH hk;have HM := zH hm;have au := zH hbl;have bf := zH hlo;have b7 := zH hoff
 have HX : Hid (∀ z, z = (ai zeros4).toArray → TbRS L w D w.heap.size s p ((w.alloc (.cells (a8 p).toArray 28)).alloc (.cells z 104))) := zH (fun z hz => by
  subst hz;have b5 : Below w.heap.size w ((w.alloc (.cells (a8 p).toArray 28)).alloc (.cells (ai zeros4).toArray 104)) := ((Below.refl _ _).alloc (Nat.le_refl _) _).alloc (by simp) _
  exact ⟨⟨L, v, h.below b5, Mv.of_below b5 h.lt, h.not (Nat.le_refl _), h.not (by omega)⟩, (Blk.new _ _ _).alloc _, Blk.new' _ _ _ _ _ (by simp) rfl, Nat.le_refl _⟩)
 generalize hPost : Hi L w D s p off (m + 74) = Post;have HP : Hid (∀ w', ShPost 5 L w D (blS s p off) w' → Lim (m + 74) (blS s p off) → Post (.returned (.tuple #[.agg (ai (blN s p off)).toArray, .int .i64 (blE s p off : Int)])) w') := zH fun w' h hl => by rw [← hPost]; exact ⟨rfl, h, hl⟩
 have ba := zH (ey zeros4_ok);have ab : Hid (jp s p off).OK := zH (R8 s off hp);obtain ⟨e2, am⟩ : ∃ x, lq s p off = x := ⟨_, rfl⟩;obtain ⟨p2, a6⟩ : ∃ x, jp s p off = x := ⟨_, rfl⟩;obtain ⟨s2, af⟩ : ∃ x, ja s p off = x := ⟨_, rfl⟩;have HE : Hid (blE s p off = (if e2 ≠ 0 then e2 else tbE s2 p2) ∧ blN s p off = (if e2 ≠ 0 then zeros4 else tbN s2 p2) ∧ blS s p off = (if e2 ≠ 0 then s2 else tbS s2 p2)) := zH (by unfold blE blN blS; rw [am, a6, af]; exact ⟨rfl, rfl, rfl⟩)
 have a7 : Hid (∀ (W : World) (L1 : Nat → Nat) (v1 : Sv), ShAt W L1 D s v1 → Lo L1 → Calls Tryz.prog 69 #[shI D, .agg (a8 p).toArray, .int .u32 (off : Int)] W fun e Y => e = .returned (.tuple #[.agg (a8 p2).toArray, .int .i64 (e2 : Int)]) ∧ ShPost 5 L1 W D s2 Y ∧ Lim (m + 73) s2) := zH fun W L1 v1 a b => by
  have := Me p aq.out off b7.out a b HK.out (by have := HM.out; show m + 73 < 100000000; omega);unfold Cy at this;rw [am, a6, af] at this;exact this
 rw [a6] at ab;rw [a6, af] at au;have b8 := zH (bh ab.out);have b9 : Hid ((a8 p2).toArray.size = 41) := zH (by rw [List.size_toArray, aa ab.out]);clear hp h hk hm hbl hlo hoff hPost am a6 af;unfold shI at a7 ⊢;go_enter Tryz.func38, Tryz.ntmps38
 go_upto_region 1 with fail
 refine (fun (k : ∀ W, TbRS L w D w.heap.size s p W → Code.wp _ _ _ _ W) => k _ (HX.out _ rfl)) ?_;intro W hW;obtain ⟨G, hG⟩ : ∃ G, w.heap.size = G := ⟨_, rfl⟩;rw [hG] at hW ⊢;clear HX;have ag := zH hW;clear hW;obtain ⟨⟨L1, v1, h1, h2, h3, h4⟩, h5, h6, h7⟩ := ag.out;have b0 := zH (a7.out W L1 v1 h1 (bf.out.of h2));have a5 : Hid (∀ Y, ShPost 5 L1 W D s2 Y → TbRS L w D G s2 p Y) := zH fun Y hy => ag.out.post h1 h2 h3 h4 hy
 clear h1 h2 h3 h4 h5 h6 h7
 go_wp2_with (first | (refine a9 rfl (ax aq.out ag.out.box rfl rfl) ?_) | fail)
 refine b0.out.mono ?_;rintro e X2 ⟨rfl, az, b3⟩;have b4 := zH (a5.out X2 az); have ao := zH b3;clear az b3 b0 a5 ag
 go_upto_region 2 with (first | (refine wpList_store_row rfl 28 (.tmp 8) (.tmp 15) rfl X2.heap.size (a8 p2).toArray rfl rfl 28 _ (heap_alloc_new X2 _) b8.out (by rw [b9.out]; rfl) (bb p2) ?_) | fail)
 refine (fun (k : ∀ W, TbRS L w D G s2 p W → Blk W X2.heap.size (a8 p2) 28 → Code.wp _ _ _ _ W) => k _ (b4.out.below (ar X2 _ (a8 p2) 28).2) (ar X2 _ (a8 p2) 28).1) ?_;intro X5 hX5 hb5;have ah := zH hX5; have b6 := zH hb5;obtain ⟨G5, ap⟩ : ∃ g, X2.heap.size = g := ⟨_, rfl⟩;rw [ap] at b6 ⊢;have av := zH hX5.res;clear hX5 hb5 ap b4;by_cases h0 : e2 = 0
 ·subst h0
  obtain ⟨a1, a2, a3⟩ := HE.out;rw [if_neg (by simp)] at a1 a2 a3;obtain ⟨⟨L1, v1, h1, h2, h3, h4⟩, h5, h6, h7⟩ := ah.out;have ay := zH (Aa p2 ab.out h1 ao.out au.out);have a5 : Hid (∀ Y, ShPost 5 L1 X5 D (tbS s2 p2) Y → TbRS L w D G (tbS s2 p2) p Y) := zH fun Y hy => ah.out.post h1 h2 h3 h4 hy
  have ae := zH (Hl s2 p2);have aw : Hid (∀ w', ShPost 5 L w D (tbS s2 p2) w' → Post (.returned (.tuple #[.agg (ai (tbN s2 p2)).toArray, .int .i64 (tbE s2 p2 : Int)])) w') := zH (by have := HP.out; rw [a1, a2, a3] at this; exact fun w' h => this w' h (ao.out.rnS (p := p2) HM.out));obtain ⟨ns, aj⟩ : ∃ x, tbN s2 p2 = x := ⟨_, rfl⟩;obtain ⟨er, an⟩ : ∃ x, tbE s2 p2 = x := ⟨_, rfl⟩;obtain ⟨s3, ak⟩ : ∃ x, tbS s2 p2 = x := ⟨_, rfl⟩;rw [aj] at ae;rw [aj, an, ak] at aw;rw [ak] at a5;have a4 : Hid (Calls Tryz.prog 46 #[shI D, .agg (a8 p2).toArray] X5 fun e Y => e = .returned (.tuple #[.agg (ai ns).toArray, .int .i64 (er : Int)]) ∧ ShPost 5 L1 X5 D s3 Y) := zH (by have := ay.out; unfold Do at this; rw [aj, an, ak] at this; exact this);have bd := zH (ey ae.out);have bg : Hid ((ai ns).toArray.size = 176) := zH ae.out.size;clear a1 a2 a3 h1 h2 h3 h4 h5 h6 h7 aj an ak ay HE HP;unfold shI at a4
  go_wp2_with (first | (refine a9 rfl (ax ab.out b6.out rfl rfl) ?_) | fail)
  refine a4.out.mono ?_;rintro e X6 ⟨rfl, b1⟩;have b2 := zH (a5.out X6 b1);have al := zH b2.out.res;have ad := zH (b2.out.ends ns);have a0 := zH (aw.out _ ad.out.1);have bc : Hid ((ai zeros4).toArray.size = (ai ns).toArray.size) := zH (by rw [bg.out, zeros4_ok.size]);clear b1 a5 a4 ah av
  go_wp2_with (first | (refine wpList_store_row rfl 104 (.tmp 6) (.tmp 24) rfl (G + 1) (ai ns).toArray rfl rfl 104 _ al.out bd.out bc.out (cn _) ?_) | fail)
  refine bodyPost_ret (ei Tryz.results38 _ _ (G + 1) 104 _ rfl ad.out.2 Tryz.underlying104 (ia ae.out)) rfl ?_;exact a0.out
 ·obtain ⟨a1, a2, a3⟩ := HE.out
  rw [if_pos h0] at a1 a2 a3;have ad := zH (ah.out.ends zeros4);have a0 := zH (HP.out _ (by rw [a3]; exact ad.out.1) (by rw [a3]; exact ao.out.mono (by omega) HM.out));rw [a1, a2] at a0;have bi : ¬ (e2 : Int) = 0 := (by omega);clear a1 a2 a3 h0
  go_wp2_with (first | (refine a9 rfl (jz rfl) ?_) | (refine wpList_store_row rfl 104 (.tmp 6) (.tmp 19) rfl (G + 1) (ai zeros4).toArray rfl rfl 104 _ av.out ba.out rfl (cn _) ?_) | fail)
  refine bodyPost_ret (ei Tryz.results38 _ _ (G + 1) 104 _ rfl ad.out.2 Tryz.underlying104 (ia zeros4_ok)) rfl ?_;exact a0.out
end Go.Proofs.YtjgjohdeeeoeoaaGreatDoor
