/- Inodes: Take. -/
import Derived.Test.YtjgjohdeeeoeoaaGreatDoorM25
import Derived.Test.YtjgjohdeeeoeoaaGreatDoorM22
set_option linter.all false
namespace Go.Proofs.YtjgjohdeeeoeoaaGreatDoor
open Go.RowKit
variable {l rest rest' : Bs} {ns : List Ino} {G H L ee ee' k : Nat} {W W' w : World}
def StI (l : Bs) (k : Nat) (rest : Bs) (ee : Nat) (ns : List Ino) : Prop := rest.length ≤ l.length ∧ BOK ns ∧ ((ee = 0 ∧ rest = l.drop (128 * k) ∧ 128 * k ≤ l.length ∧ ∀ j, j < k → ns[j]? = some (ino (l.drop (128 * j))) ∧ jh (l.drop (128 * j)) = true) ∨ (ee ≠ 0 ∧ jw l = false))
theorem T1 {j : Nat} (hj : j < 4) (h : pm (l.drop (128 * j)) = false) : jw l = false := by
 unfold jw;have : ((List.range 4).all fun j => pm (l.drop (128 * j))) = false := by rw [List.all_eq_false]; exact ⟨j, List.mem_range.2 hj, by simp [h]⟩
 rw [this]; simp
theorem Be (h : l.length ≠ 512) : jw l = false := by unfold jw; rw [decide_eq_false h]; rfl
theorem Ew {α : Type} {l : List α} {f : Nat → α} {q : Nat → Prop} (hk : k < l.length) (h : ∀ i, i < k → l[i]? = some (f i) ∧ q i) (hq : q k) : ∀ j, j < k + 1 → (l.set k (f k))[j]? = some (f j) ∧ q j := fun j hj => by
 by_cases e : k = j
 ·subst e; rw [List.getElem?_set_self hk]; exact ⟨rfl, hq⟩
 ·rw [List.getElem?_set_ne e]; exact h j (by omega)
theorem StI.next {n : Ino} (h : StI l k rest ee ns) (hk : k < 4) (hn : n.OK) (hl : rest'.length ≤ rest.length) (hr : (ee' = 0 ∧ ee = 0 ∧ 128 ≤ rest.length ∧ rest' = rest.drop 128 ∧ n = ino rest ∧ jh rest = true) ∨ (ee' ≠ 0 ∧ C3 rest ee)) : StI l (k + 1) rest' ee' (ns.set k n) := by
 obtain ⟨h1, h2, h3⟩ := h;refine ⟨Nat.le_trans hl h1, h2.set k hn, ?_⟩;rcases hr with ⟨a1, a2, a3, a4, a5, a6⟩ | ⟨a1, a2⟩
 ·rcases h3 with ⟨b1, b2, b3, b4⟩ | ⟨b1, b2⟩
  ·subst b2
   rw [List.length_drop] at a3;refine .inl ⟨a1, by rw [a4, List.drop_drop]; congr 1, by omega, ?_⟩;rw [a5];exact Ew (f := fun j => ino (l.drop (128 * j))) (q := fun j => jh (l.drop (128 * j)) = true) (by rw [h2.len]; exact hk) b4 a6
  ·exact absurd a2 b1
 ·refine .inr ⟨a1, ?_⟩
  rcases h3 with ⟨b1, b2, b3, b4⟩ | ⟨b1, b2⟩
  ·subst b2
   rcases a2 with c | c | c
   ·exact absurd b1 c
   ·rw [List.length_drop] at c
    exact Be (by omega)
   ·exact T1 hk c
  ·exact b2
theorem StI.fin (h : StI l 4 rest ee ns) : (qe rest ee ≠ 0 → jw l = false) ∧ (qe rest ee = 0 → jw l = du ns ∧ (du ns = true → ns = pr l)) := by
 obtain ⟨h1, h2, h3⟩ := h;rcases h3 with ⟨b1, b2, b3, b4⟩ | ⟨b1, b2⟩
 ·subst b1 b2
  have e1 : qe (l.drop (128 * 4)) 0 = if l.length = 512 then 0 else 5 := by
   unfold qe li mx;rw [if_pos rfl, List.length_drop];by_cases h : l.length = 512
   ·rw [if_pos h, if_pos (by omega)]
   ·rw [if_neg h, if_neg (by omega)]; rfl
  rw [e1];by_cases h : l.length = 512
  ·rw [if_pos h]
   have a0 : ns = Ay l := by
    apply List.ext_getElem?;intro j;by_cases hj : j < 4
    ·rw [(b4 j hj).1]; simp [Ay, hj]
    ·rw [List.getElem?_eq_none (by rw [h2.len]; omega), List.getElem?_eq_none (by simp [Ay]; omega)]
   have a1 : jw l = du ns := by
    rw [a0];unfold jw du Ay;rw [decide_eq_true h, List.all_map, Bool.true_and, Bool.eq_iff_iff, List.all_eq_true, List.all_eq_true];have hf : ∀ j, j < 4 → pm (l.drop (128 * j)) = ij (ino (l.drop (128 * j))) := fun j hj => by unfold pm; rw [(b4 j hj).2]; rfl
    constructor
    ·intro H j hj; have := H j hj; rw [hf j (List.mem_range.1 hj)] at this; exact this
    ·intro H j hj; rw [hf j (List.mem_range.1 hj)]; exact H j hj
   exact ⟨fun h => absurd rfl h, fun _ => ⟨a1, fun ha => by unfold pr; rw [if_pos (by rw [a1]; exact ha)]; exact a0⟩⟩
  ·rw [if_neg h]
   exact ⟨fun _ => Be h, fun h => by cases h⟩
 ·refine ⟨fun _ => b2, fun h => ?_⟩
  unfold qe li mx at h;rw [if_neg b1, if_pos rfl] at h;exact absurd h b1
def vu (l : Bs) (w : World) (x : Ending) (w' : World) : Prop := x = .returned (.tuple #[.agg (ai (pr l)).toArray, .int .i64 (yb l : Int)]) ∧ Below w.heap.size w w'
structure TkB (w : World) (L H G : Nat) (ns : List Ino) (rest : Bs) (ee : Nat) (W : World) : Prop where
 res : Blk W w.heap.size (ai zeros4) 104
 b : Blk W G (ai ns) 104
 rd : RdAt W H (fun g => L ≤ g ∧ g < H) rest ee
 bel : Below w.heap.size w W
 hH : w.heap.size + 1 ≤ H ∧ H < G
theorem TkB.read (h : TkB w L H G ns rest ee W) (hr : RdAt W' H (fun g => L ≤ g ∧ g < H) rest' ee') (hb : ButFor H W W') : TkB w L H G ns rest' ee' W' :=
 have h1 := h.hH
 ⟨hb.blk h.res (by omega), hb.blk h.b (by omega), hr, h.bel.trans (hb.below (by omega) h.bel.size), h.hH⟩
theorem TkB.grown (h : TkB w L H G ns rest ee W) (hb : Below W.heap.size W W') : TkB w L H G ns rest ee W' :=
 ⟨h.res.below hb h.res.lt, h.b.below hb h.b.lt, h.rd.below hb (Nat.le_refl _), h.bel.trans (hb.mono h.bel.size), h.hH⟩
theorem TkB.put (h : TkB w L H G ns rest ee W) (hn : BOK ns) (hk : k < 4) {q : Ino} (hq : q.OK) : TkB w L H G (ns.set k q) rest ee (W.setCells G (k * 44) (af q)) :=
 have h1 := h.hH
 ⟨fh (by omega) _ _ _ _ h.res, E5 hn h.b hk (Nat.mul_comm k 44) hq, h.rd.other (J := G) (ButFor.sets _ _ _ (ButFor.refl _ _)) (by omega) (fun hk => by omega), py _ _ _ h.bel (by omega), h1⟩
set_option maxRecDepth 100000 in
set_option maxHeartbeats 8000000 in
theorem N3 (l : Bs) (sp : Option Addr) (cap : Nat) (w : World) (hl : l.length ≤ 100000) (hz : sp = none → cap = 0) (hc : l.length ≤ cap) (hS : SrcA w sp l) (hT : RTab w) : Calls Tryz.prog 76 #[.slice sp l.length cap] w (vu l w) := by
 have HL := zH hl; have HT := zH hT;have HB : Hid (Blk (w.alloc (.cells (ai zeros4).toArray 104)) w.heap.size (ai zeros4) 104) := zH (Blk.new _ _ _);have HW : Hid (Below w.heap.size w (w.alloc (.cells (ai zeros4).toArray 104))) := zH ((Below.refl _ _).alloc (Nat.le_refl _) _);obtain ⟨N, hN⟩ : ∃ N, l.length = N := ⟨_, rfl⟩;have HN := zH hN
 have b5 : Hid (∀ W, Below w.heap.size w W → Calls Tryz.prog 26 #[.slice sp N cap] W (Qr l W)) := zH fun W hb => by
  have h1 := Ln l sp cap W hl hz hc (hS.grown hb);rw [hN] at h1;exact h1
 have ae : Hid ((w.alloc (.cells (ai zeros4).toArray 104)).heap.size = w.heap.size + 1) := zH (by simp);rw [hN];generalize hPost : vu l w = Post;have HQ : Hid (∀ x w', vu l w x w' → Post x w') := zH fun x w' h => by rw [← hPost]; exact h
 clear hl hz hc hS hT hPost hN;go_enter Tryz.func76, Tryz.ntmps76
 go_upto_region 1 with fail
 refine (fun (k : ∀ W, Blk W w.heap.size (ai zeros4) 104 → Below w.heap.size w W → W.heap.size = w.heap.size + 1 → Code.wp _ _ _ _ W) => k _ HB.out HW.out ae.out) ?_;intro W0 hb hw hs;have b3 := zH hb; have b1 := zH hw; have ay := zH hs;clear hb hw hs HB HW ae
 go_wp2_with fail
 refine (b5.out W0 b1.out).mono ?_;rintro e1 W1 ⟨H, rfl, aj, hH, ba⟩;have ax := zH aj; have HH := zH hH; have av := zH ba;clear aj hH ba b5
 go_upto_region 3 with fail
 have hx : ∀ z, z = (ai zeros4).toArray → TkB w W0.heap.size H W1.heap.size zeros4 l 0 (W1.alloc (.cells z 104)) := fun z hz => by
  subst hz;have h1 := ay.out;have h2 := HH.out;have h3 := ax.out.lt;have hg : Below W1.heap.size W1 (W1.alloc (.cells (ai zeros4).toArray 104)) := (Below.refl _ _).alloc (Nat.le_refl _) _;have bf : Below w.heap.size w W1 := b1.out.trans (av.out.mono (by omega));exact ⟨(b3.out.below av.out (by omega)).alloc _, Blk.new _ _ _, ax.out.below hg (Nat.le_refl _), bf.trans (hg.mono bf.size), by omega⟩
 refine (fun (k : ∀ W, TkB w W0.heap.size H W1.heap.size zeros4 l 0 W → Code.wp _ _ _ _ W) => k _ (hx _ rfl)) ?_;intro W2 hx2;obtain ⟨G, hG⟩ : ∃ g, W1.heap.size = g := ⟨_, rfl⟩;obtain ⟨L, b6⟩ : ∃ g, W0.heap.size = g := ⟨_, rfl⟩;have az : Hid (0 < H) := zH (by have := HT.out.lt; have := HH.out; have := ay.out; omega);rw [hG, b6] at hx2;rw [hG];have HX := zH hx2;clear hx hx2 hG b6 ax av b3 b1 HH ay;have bo := zH zeros4_ok;have ad : Hid (StI l 0 l 0 zeros4) := zH ⟨Nat.le_refl _, bo.out, .inl ⟨rfl, by simp, by omega, fun j hj => by omega⟩⟩
 go_wp2_with fail
 go_loopw [9] (fun i wr => ∃ (k : Nat) (ns : List Ino) (a0 : Bs) (ee : Nat), k ≤ 4 ∧ i = .int .i64 (k : Int) ∧ StI l k a0 ee ns ∧ TkB w L H G ns a0 ee wr) (fun i _ => 4 - (intOf i).toNat)
 case atStart => exact ⟨0, zeros4, l, 0, by omega, rfl, ad.out, HX.out⟩
 case round =>
  clear HX ad;obtain ⟨k, ns, a0, ee, hk, rfl, ar, hX⟩ := hrel;have HX := zH hX; have a8 := zH ar;have a2 := zH ar.2.1;have bq := IntWalk.i64_in ((k : Int) + 1) (by omega);have bp := hX.hH;have b7 := HT.out.grown hX.bel;have b9 := Q5 a0 ee H wr hX.rd (fun g hg => by have := hX.b.lt; omega) (Nat.le_trans ar.1 HL.out) b7 (by have := az.out; omega);have b0 := zH b9;clear hX ar bp b7 b9;by_cases hlt : k < 4
  ·go_wp2_with fail
   refine b0.out.mono ?_;rintro e w3 ⟨⟨n, bg, br, rfl, a4, aj, bd, ak⟩, bb⟩;have b2 := HX.out.read aj bb;have bn := zH (b2.put a2.out hlt a4);have bk := zH (a8.out.next hlt a4 bd ak);have bm : Hid (w3.there G (k * 44) (af n).toArray.size) := zH (b2.b.there _ _ (by rw [List.size_toArray, am a4, a2.out.cells]; omega));have a6 := zH (fb a4);have bj := zH hlt;clear a4 aj bd ak bb b2 HX a8 b0
   go_wp2_with (first | (refine aq (by rfl) (Kh bj.out rfl rfl rfl) ?_) | (refine wpList_store_mid rfl 68 (.tmp 15) (.tmp 14) rfl G (k * 44) (af n).toArray rfl rfl bm.out a6.out (fj n) ?_) | fail)
   go_roundw
   case rel => exact ⟨k + 1, _, _, _, by omega, by go_num, bk.out, bn.out⟩
   case measure => simp [intOf]; omega
  ·obtain rfl : k = 4 := by omega
   rw [show ((4 : Nat) : Int) = (4 : Int) from rfl];have aw := zH a8.out.fin;obtain ⟨E, hE⟩ : ∃ E, qe a0 ee = E := ⟨_, rfl⟩;have HE := zH hE;have a1 := K8 H a0 ee wr.drew (HX.out.grown (Below.refl _ _).drew).rd;rw [hE] at a1 aw;have bl := zH (fa a2.out);have bh := zH (z6 a2.out);clear hlt hk hE b0 bq
   go_upto_region 8 with fail
   have an : Blk wr.drew G (ai ns) 104 := HX.out.b.drew;have a7 := HX.out.grown (Below.refl _ _).drew;by_cases hE0 : E = 0
   ·subst hE0
    have ah := aw.out.2 rfl;obtain ⟨eb, bc⟩ : ∃ b, decide (ns = gd ns) = b := ⟨_, rfl⟩;have b4 := zH bc;clear bc;refine gS (.take 0 (.step 1 (.take 2 (.take 3 (.take 4 (.take 5 (.step 6 (.take 7 (.take 8 (.nil)))))))))) (fun X => Blk X G (ai ns) 104) (an) ?_;refine gT (.pointer (some ⟨H, 0, none⟩)) ?_;refine b8 _ rfl (by rfl) 31 #[.pointer (some ⟨H, 0, none⟩)] (fun X => by go_simp) (fun u X => u = .int .i64 ((0 : Nat) : Int) ∧ TkB w L H G ns a0 0 X) (a1.mono fun e X ⟨e1, e2, e3⟩ => ⟨_, e1, (a7.read e2 e3).b, rfl, a7.read e2 e3⟩) ?_;rintro u X5 ao ⟨rfl, ag⟩;refine ⟨fun X => Blk X G (ai ns) 104, fun _ h => h, ao, ?_⟩; try simp only [pS]
    refine gT (.bool false) ?_;refine gT (.bool false) ?_;refine gU (.agg (ai ns).toArray) rfl (fun X hX => dp a2.out hX rfl rfl) ?_;refine gU (.agg (ai ns).toArray) rfl (fun X hX => dp a2.out hX rfl rfl) ?_;refine b8 _ rfl (by rfl) 92 #[.agg (ai ns).toArray] (fun X => by go_simp) (fun u X => u = .agg (ai (gd ns)).toArray ∧ TkB w L H G ns a0 0 X) ((xp ns a2.out X5 (HT.out.grown ag.bel)).mono fun e X ⟨e1, e2⟩ => ⟨_, e1, (ag.grown e2).b, rfl, ag.grown e2⟩) ?_;rintro u X7 aa ⟨rfl, a3⟩;refine ⟨fun X => Blk X G (ai ns) 104, fun _ h => h, aa, ?_⟩; try simp only [pS]
    refine gU (.bool (!eb)) rfl (fun X hX => (Kn a2.out bh.out rfl rfl rfl).trans (by rw [b4.out])) ?_;refine gT (.bool (!eb)) ?_;refine au ?_;have al : du ns = eb := (by rw [← b4.out, Bool.eq_iff_iff, decide_eq_true_iff]; exact (tx ns).symm);have ap := zH a3.bel;have a5 := zH a3.res;have bi := zH aa;cases eb
    ·have hv : yb l = 5 ∧ pr l = zeros4 := by unfold yb pr; rw [ah.1, al]; exact ⟨rfl, rfl⟩
     have HV := zH hv;have a6 := zH (fa zeros4_ok);have ab := zH (cn zeros4);clear hv ah al a3 aa a7 an a1 HX a8
     go_wp2_with (first | (refine a9 rfl (ju rfl) ?_) | (refine wpList_store_row rfl 104 (.tmp 2) (.tmp 26) rfl w.heap.size (ai zeros4).toArray rfl rfl 104 _ a5.out a6.out rfl ab.out ?_) | fail)
     refine bodyPost_ret (ef Tryz.results76 _ _ w.heap.size 104 _ rfl (a5.out.row _) Tryz.underlying104 (ig zeros4_ok)) rfl (HQ.out _ _ ⟨?_, cz ap.out (Nat.le_refl _) _⟩);rw [HV.out.1, HV.out.2]; rfl
    ·have hv : yb l = 0 ∧ pr l = ns := ⟨by unfold yb; rw [ah.1, al]; rfl, (ah.2 al).symm⟩
     have HV := zH hv;have ab := zH (cn ns);have a6 : Hid ((ai zeros4).toArray.size = (ai ns).toArray.size) := zH (by rw [zeros4_ok.size, a2.out.size]);clear hv ah al a3 aa a7 an a1 HX a8
     go_wp2_with (first | (refine a9 rfl (dp a2.out bi.out rfl rfl) ?_) | (refine wpList_store_row rfl 104 (.tmp 2) (.tmp 27) rfl w.heap.size (ai ns).toArray rfl rfl 104 _ a5.out bl.out a6.out ab.out ?_) | fail)
     refine bodyPost_ret (ef Tryz.results76 _ _ w.heap.size 104 _ rfl (a5.out.row _) Tryz.underlying104 (ig a2.out)) rfl (HQ.out _ _ ⟨?_, cz ap.out (Nat.le_refl _) _⟩);rw [HV.out.1, HV.out.2]; rfl
   ·have i0 : ¬ (E : Int) = 0 := by omega
    have a4 := aw.out.1 hE0;refine gS (.take 0 (.step 1 (.take 2 (.take 3 (.take 4 (.take 5 (.step 6 (.take 7 (.take 8 (.nil)))))))))) (fun X => Blk X G (ai ns) 104) (an) ?_;refine gT (.pointer (some ⟨H, 0, none⟩)) ?_;refine b8 _ rfl (by rfl) 31 #[.pointer (some ⟨H, 0, none⟩)] (fun X => by go_simp) (fun u X => u = .int .i64 (E : Int) ∧ TkB w L H G ns a0 E X) (a1.mono fun e X ⟨e1, e2, e3⟩ => ⟨_, e1, (a7.read e2 e3).b, rfl, a7.read e2 e3⟩) ?_;rintro u X5 ao ⟨rfl, ag⟩;refine ⟨fun X => Blk X G (ai ns) 104, fun _ h => h, ao, ?_⟩; try simp only [pS]
    refine gT (.bool true) ?_;refine gT (.bool true) ?_;refine gP ?_;refine gP ?_;refine jz _ rfl (by rfl) ao ?_; try simp only [pS]
    refine gP ?_;refine gT (.bool true) ?_;refine au ?_;have a3 := ag;have aa := ao;have hv : yb l = 5 ∧ pr l = zeros4 := (by unfold yb pr; rw [a4]; exact ⟨rfl, rfl⟩);have HV := zH hv;have ap := zH a3.bel;have a5 := zH a3.res;have a6 := zH (fa zeros4_ok);have ab := zH (cn zeros4);clear hv a4 a3 aa a7 an a1 HX a8
    go_wp2_with (first | (refine a9 rfl (ju rfl) ?_) | (refine wpList_store_row rfl 104 (.tmp 2) (.tmp 26) rfl w.heap.size (ai zeros4).toArray rfl rfl 104 _ a5.out a6.out rfl ab.out ?_) | fail)
    refine bodyPost_ret (ef Tryz.results76 _ _ w.heap.size 104 _ rfl (a5.out.row _) Tryz.underlying104 (ig zeros4_ok)) rfl (HQ.out _ _ ⟨?_, cz ap.out (Nat.le_refl _) _⟩);rw [HV.out.1, HV.out.2]; rfl
end Go.Proofs.YtjgjohdeeeoeoaaGreatDoor
namespace Go.Proofs.YtjgjohdeeeoeoaaGreatDoor
open Go.RowKit
attribute [local go_sem] Oper.semAt_some
variable {D G : Nat} {L L1 : Nat → Nat} {p : Pt} {s s1 : Sh} {v : Sv} {X Y w : World}
def df (k : Nat) : Bool := decide (k ≠ 0) && decide (k ≤ 255)
theorem xk (k : Nat) (hk : k < 65536) (w : World) : Calls Tryz.prog 43 #[.int .u16 (k : Int)] w fun e w' => e = .returned (.bool (df k)) ∧ w' = w := by
 generalize hPost : (fun (e : Ending) (w' : World) => e = .returned (.bool (df k)) ∧ w' = w) = Post;have a0 : Hid (∀ b, df k = b → Post (.returned (.bool b)) w) := zH fun b e => by rw [← hPost, ← e]; exact ⟨rfl, rfl⟩
 clear hPost;go_enter Tryz.func43, Tryz.ntmps43;by_cases h0 : k = 0
 ·subst h0
  have HE := zH (a0.out false rfl)
  go_wp2_with fail
  first | exact HE.out | (simpa [bne, j0] using HE.out) | (simpa using HE.out)
 ·have j0 : ((k : Int) == 0) = false := by simp; omega
  have a1 : ¬ (k : Int) = 0 := (by omega);by_cases h1 : k ≤ 255
  ·have j1 : (k : Int) ≤ 255 := by omega
   have HE := zH (a0.out true (by unfold df; rw [decide_eq_true h0, decide_eq_true h1]; rfl));clear h0 h1
   go_wp2_with fail
   first | exact HE.out | (simpa [bne, j0] using HE.out) | (simpa using HE.out)
  ·have j1 : ¬ (k : Int) ≤ 255 := by omega
   have HE := zH (a0.out false (by unfold df; rw [decide_eq_false h1, Bool.and_false]));clear h0 h1
   go_wp2_with fail
   first | exact HE.out | (simpa [bne, j0] using HE.out) | (simpa using HE.out)
def tbE (s : Sh) (p : Pt) : Nat := if eqP p zeroP = true then 0 else if rdE s p ≠ 0 then rdE s p else if yb (rdB s p) ≠ 0 then 21 else 0
def tbN (s : Sh) (p : Pt) : List Ino := if eqP p zeroP = true then zeros4 else if rdE s p ≠ 0 then zeros4 else pr (rdB s p)
def tbS (s : Sh) (p : Pt) : Sh := if eqP p zeroP = true then s else rdS s p
def Cb (L : Nat → Nat) (w : World) (D : Nat) (s : Sh) (p : Pt) (e : Ending) (w' : World) : Prop := e = .returned (.tuple #[.agg (ai (tbN s p)).toArray, .int .i64 (tbE s p : Int)]) ∧ ShPost 5 L w D (tbS s p) w'
structure TbRS (L : Nat → Nat) (w : World) (D G : Nat) (s1 : Sh) (p : Pt) (X : World) : Prop where
 sh : ∃ L1 v1, ShAt X L1 D s1 v1 ∧ Mv 5 L w L1 X ∧ L1 G = 0 ∧ L1 (G + 1) = 0
 box : Blk X G (a8 p) 28
 res : Blk X (G + 1) (ai zeros4) 104
 lo : w.heap.size ≤ G
theorem TbRS.below (h : TbRS L w D G s1 p X) (hb : Below X.heap.size X Y) : TbRS L w D G s1 p Y := by
 obtain ⟨⟨L1, v1, h1, h2, h3, h4⟩, hg, hr, a0⟩ := h;exact ⟨⟨L1, v1, h1.below hb, h2.trans (Mv.of_below hb h1.lt), h3, h4⟩, hg.below hb hg.lt, hr.below hb hr.lt, a0⟩
theorem TbRS.ends (h : TbRS L w D G s1 p X) (ns : List Ino) : ShPost 5 L w D s1 (X.setRow (G + 1) (ai ns).toArray) ∧ Blk (X.setRow (G + 1) (ai ns).toArray) (G + 1) (ai ns) 104 := by
 obtain ⟨⟨L1, v1, h1, h2, h3, h4⟩, hg, hr, a0⟩ := h;have hc := tf X (G + 1) (ai ns).toArray;have hz : (X.setRow (G + 1) (ai ns).toArray).heap.size = X.heap.size := by simp
 refine ⟨⟨L1, v1, h1.out hc (fun g e _ => .inl (by rw [e]; exact h4)) (fun _ _ => .inl rfl) (fun g hg => by rw [hz]; exact h1.lt g hg), ?_⟩, hr.row _⟩;exact ⟨h2.chg.trans hc (fun g e => by right; have : g = G + 1 := e; omega), h2.old, h2.new⟩
set_option maxRecDepth 100000 in
set_option maxHeartbeats 8000000 in
theorem An {n : Nat} (p : Pt) (hp : p.OK) (h : ShAt w L D s v) (hn : Lim n s) (hbl : (rdB s p).length ≤ 100000) : Calls Tryz.prog 46 #[shI D, .agg (a8 p).toArray] w (Cb L w D s p) := by
 have a4 := zH hp;have HN := zH hn;have b3 := zH hbl
 have HX : Hid (∀ z, z = (ai zeros4).toArray → TbRS L w D w.heap.size s p ((w.alloc (.cells (a8 p).toArray 28)).alloc (.cells z 104))) := zH (fun z hz => by
  subst hz;have b0 : Below w.heap.size w ((w.alloc (.cells (a8 p).toArray 28)).alloc (.cells (ai zeros4).toArray 104)) := ((Below.refl _ _).alloc (Nat.le_refl _) _).alloc (by simp) _
  exact ⟨⟨L, v, h.below b0, Mv.of_below b0 h.lt, h.not (Nat.le_refl _), h.not (by omega)⟩, (Blk.new _ _ _).alloc _, Blk.new' _ _ _ _ _ (by simp) rfl, Nat.le_refl _⟩)
 generalize hPost : Cb L w D s p = Post;have HP : Hid (∀ w', ShPost 5 L w D (tbS s p) w' → Post (.returned (.tuple #[.agg (ai (tbN s p)).toArray, .int .i64 (tbE s p : Int)])) w') := zH fun w' h => by rw [← hPost]; exact ⟨rfl, h⟩
 have ag := zH (fa zeros4_ok);have ad := zH (cn zeros4);clear hp h hn hPost;unfold shI;go_enter Tryz.func46, Tryz.ntmps46
 go_upto_region 1 with fail
 refine (fun (k : ∀ W, TbRS L w D w.heap.size s p W → Code.wp _ _ _ _ W) => k _ (HX.out _ rfl)) ?_;intro W hW;obtain ⟨G, hG⟩ : ∃ G, w.heap.size = G := ⟨_, rfl⟩;rw [hG] at hW ⊢;clear HX;have HX := zH hW;clear hW;have a3 := HX;cases hz : eqP p zeroP
 ·have HE : Hid (tbS s p = rdS s p ∧ tbE s p = (if rdE s p ≠ 0 then rdE s p else if yb (rdB s p) ≠ 0 then 21 else 0) ∧ tbN s p = if rdE s p ≠ 0 then zeros4 else pr (rdB s p)) := zH (by unfold tbS tbE tbN; rw [hz]; exact ⟨rfl, rfl, rfl⟩)
  obtain ⟨⟨L1, v1, h1, h2, h3, h4⟩, h5, h6, h7⟩ := a3.out;have ao := zH (Ai p a4.out h1 (by have := HN.out.rd; have := HN.out.n; omega) HN.out.bl HN.out.bd)
  have HM : Hid (∀ e X, C8 5 L1 W D s p e X → ∃ aa L3, e = .returned (.tuple #[aa, .int .i64 (rdE s p : Int)]) ∧ TbRS L w D G (rdS s p) p X ∧ BkV X L3 aa (rdB s p)) := zH (by
   rintro e X ⟨aa, L3, v3, rfl, k1, k2, k3⟩
   exact ⟨aa, L3, rfl, ⟨⟨L3, v3, k1, h2.trans k2, (k2.old G h5.lt).trans h3, (k2.old (G + 1) h6.lt).trans h4⟩, k2.blk h5 h3, k2.blk h6 h4, h7⟩, k3⟩)
  clear h1 h2 h3 h4 h5 h6 h7;clear HX
  go_wp2_with (first | (refine a9 rfl (ax a4.out a3.out.box rfl rfl) ?_) | (refine a9 rfl (bj rfl) ?_) | (refine a9 rfl ((tg rfl rfl rfl a4.out ak).trans (by rw [hz])) ?_) | fail)
  refine ao.out.mono ?_;intro e X hpost;obtain ⟨aa, L3, rfl, b1, ay⟩ := HM.out e X hpost;have a6 := zH b1;have an := zH ay;clear hpost b1 ay HM ao a3;obtain ⟨re, aj⟩ : ∃ re, rdE s p = re := ⟨_, rfl⟩;rw [aj] at HE ⊢;by_cases h0 : re = 0
  ·subst h0
   obtain ⟨sp, b6, rfl, hc, b2, hS, -⟩ := an.out;obtain ⟨⟨L4, v4, h4, -⟩, -⟩ := a6.out;have al := N3 (rdB s p) sp b6 X b3.out b2 hc hS h4.tab.1;obtain ⟨ln, az⟩ : ∃ ln, (rdB s p).length = ln := ⟨_, rfl⟩;rw [az] at al ⊢;have ap := zH al;have a5 := zH (Lg (rdB s p));have ah := zH (fa a5.out);have af : Hid ((ai (pr (rdB s p))).toArray.size = 176) := zH a5.out.size;have ae := zH (cn (pr (rdB s p)));clear hc b2 hS al h4 az an aj
   go_wp2_with fail
   refine ap.out.mono ?_;rintro e X4 ⟨rfl, aw⟩;have aq := zH (a6.out.below aw);clear aw a6 ap;obtain ⟨ns, a7⟩ : ∃ ns, pr (rdB s p) = ns := ⟨_, rfl⟩;obtain ⟨ne, ab⟩ : ∃ ne, yb (rdB s p) = ne := ⟨_, rfl⟩;rw [a7] at a5 ah af ae;rw [a7, ab] at HE;rw [a7, ab];have b4 : Hid (ne ≠ 0 → ns = zeros4) := zH (fun h => by rw [← a7]; rw [← ab] at h; unfold yb at h; unfold pr; by_cases k : jw (rdB s p) = true <;> simp_all);clear a7 ab
   go_upto_region 7 with (first | (refine wpList_store_row rfl 104 (.tmp 8) (.tmp 26) rfl X4.heap.size (ai ns).toArray rfl rfl 104 _ (heap_alloc_new X4 _) ah.out (by rw [af.out]; rfl) ae.out ?_) | fail)
   refine (fun (k : ∀ W, TbRS L w D G (rdS s p) p W → Blk W X4.heap.size (ai ns) 104 → Code.wp _ _ _ _ W) => k _ (aq.out.below (ar X4 _ (ai ns) 104).2) (ar X4 _ (ai ns) 104).1) ?_;intro X5 hX5 hb5;have au := zH hX5; have am := zH hb5;obtain ⟨G5, av⟩ : ∃ g, X4.heap.size = g := ⟨_, rfl⟩;rw [av] at am ⊢;have a2 := zH hX5.res;clear hX5 hb5 aq av;by_cases hn0 : ne = 0
   ·subst hn0
    obtain ⟨e1, e2, e3⟩ := HE.out;rw [if_neg (by simp), if_neg (by simp)] at e2;rw [if_neg (by simp)] at e3;have a1 := zH (au.out.ends ns);have a0 := zH (HP.out _ (by rw [e1]; exact a1.out.1));rw [e2, e3] at a0;have b5 : Hid ((ai zeros4).toArray.size = (ai ns).toArray.size) := zH (by rw [af.out, zeros4_ok.size]);clear e1 e2 e3 HE
    go_wp2_with (first | (refine a9 rfl (dp a5.out am.out rfl rfl) ?_) | (refine wpList_store_row rfl 104 (.tmp 4) (.tmp 31) rfl (G + 1) (ai ns).toArray rfl rfl 104 _ a2.out ah.out b5.out ae.out ?_) | fail)
    refine bodyPost_ret (ef Tryz.results46 _ _ (G + 1) 104 _ rfl a1.out.2 Tryz.underlying104 (ig a5.out)) rfl ?_;exact a0.out
   ·obtain ⟨e1, e2, e3⟩ := HE.out
    rw [if_neg (by simp), if_pos hn0] at e2;rw [if_neg (by simp), b4.out hn0] at e3;have a1 := zH (au.out.ends zeros4);have a0 := zH (HP.out _ (by rw [e1]; exact a1.out.1));rw [e2, e3] at a0;have b7 : ¬ (ne : Int) = 0 := (by omega);clear e1 e2 e3 HE hn0
    go_wp2_with (first | (refine a9 rfl (ju rfl) ?_) | (refine wpList_store_row rfl 104 (.tmp 4) (.tmp 30) rfl (G + 1) (ai zeros4).toArray rfl rfl 104 _ a2.out ag.out rfl ad.out ?_) | fail)
    refine bodyPost_ret (ef Tryz.results46 _ _ (G + 1) 104 _ rfl a1.out.2 Tryz.underlying104 (ig zeros4_ok)) rfl ?_;exact a0.out
  ·obtain ⟨e1, e2, e3⟩ := HE.out
   rw [if_pos h0] at e2;rw [if_pos h0] at e3;have a1 := zH (a6.out.ends zeros4);have a0 := zH (HP.out _ (by rw [e1]; exact a1.out.1));rw [e2, e3] at a0;have a2 := zH a6.out.res;have b8 : ¬ (re : Int) = 0 := (by omega);clear e1 e2 e3 HE h0 aj
   go_wp2_with (first | (refine a9 rfl (ju rfl) ?_) | (refine wpList_store_row rfl 104 (.tmp 4) (.tmp 21) rfl (G + 1) (ai zeros4).toArray rfl rfl 104 _ a2.out ag.out rfl ad.out ?_) | fail)
   refine bodyPost_ret (ef Tryz.results46 _ _ (G + 1) 104 _ rfl a1.out.2 Tryz.underlying104 (ig zeros4_ok)) rfl ?_;exact a0.out
 ·have a1 := zH (a3.out.ends zeros4)
  have a0 := zH (HP.out _ (by unfold tbS; rw [hz]; exact a1.out.1));have e2 : tbE s p = 0 := (by unfold tbE; rw [hz]; rfl);have e3 : tbN s p = zeros4 := (by unfold tbN; rw [hz]; rfl);rw [e2, e3] at a0;have a2 := zH a3.out.res;clear e2 e3 HX
  go_wp2_with (first | (refine a9 rfl (ax a4.out a3.out.box rfl rfl) ?_) | (refine a9 rfl (bj rfl) ?_) | (refine a9 rfl ((tg rfl rfl rfl a4.out ak).trans (by rw [hz])) ?_) | (refine a9 rfl (ju rfl) ?_) | (refine wpList_store_row rfl 104 (.tmp 4) (.tmp 12) rfl (G + 1) (ai zeros4).toArray rfl rfl 104 _ a2.out ag.out rfl ad.out ?_) | fail)
  refine bodyPost_ret (ef Tryz.results46 _ _ (G + 1) 104 _ rfl a1.out.2 Tryz.underlying104 (ig zeros4_ok)) rfl ?_;exact a0.out
def blE (s : Sh) (p : Pt) (off : Nat) : Nat := if lg s p off ≠ 0 then lg s p off else tbE (jb s p off) (jm s p off)
def blN (s : Sh) (p : Pt) (off : Nat) : List Ino := if lg s p off ≠ 0 then zeros4 else tbN (jb s p off) (jm s p off)
def blS (s : Sh) (p : Pt) (off : Nat) : Sh := if lg s p off ≠ 0 then jb s p off else tbS (jb s p off) (jm s p off)
def Gu (L : Nat → Nat) (w : World) (D : Nat) (s : Sh) (p : Pt) (off m : Nat) (e : Ending) (w' : World) : Prop := e = .returned (.tuple #[.agg (ai (blN s p off)).toArray, .int .i64 (blE s p off : Int)]) ∧ ShPost 5 L w D (blS s p off) w' ∧ Lim m (blS s p off)
theorem Cy {f : Sh → List Pt → List Lf → Pt → Nat → Bw} (hf : ∀ s ns ls q a, q.OK → (∀ x ∈ ls, Pt.OK x.2) → ∀ x ∈ (f s ns ls q a).ls, Pt.OK x.2) (wide first fr tt : Nat) : ∀ (qs : List Pt) (i : Nat) (s : Sh) (ns : List Pt) (ls : List Lf), (∀ q ∈ qs, q.OK) → (∀ x ∈ ls, Pt.OK x.2) → ∀ x ∈ (goB f wide first fr tt qs i s ns ls).ls, Pt.OK x.2
 | [], _, _, _, _, _, hl => hl
 | q :: qs, i, s, ns, ls, hq, hl => by
  have a0 := hq q (List.mem_cons_self ..);have a1 : ∀ q ∈ qs, q.OK := fun y hy => hq y (List.mem_cons_of_mem _ hy)
  by_cases hc : first + i * wide + wide ≤ fr ∨ tt ≤ first + i * wide
  ·rw [jc hc]; exact Cy hf wide first fr tt qs _ _ _ _ a1 hl
  ·by_cases he : (f s ns ls q (first + i * wide)).e = 0
   ·rw [mp hc he]
    exact Cy hf wide first fr tt qs _ _ _ _ a1 (hf _ _ _ _ _ a0 hl)
   ·rw [ug hc he]; exact hf _ _ _ _ _ a0 hl
theorem z7 (fr tt : Nat) : ∀ (n : Nat) (s : Sh) (ns : List Pt) (ls : List Lf) (p : Pt) (first : Nat), p.OK → (∀ x ∈ ls, Pt.OK x.2) → ∀ x ∈ (bg fr tt n s ns ls p first).ls, Pt.OK x.2
 | 0, s, ns, ls, p, first, hp, hl => by
  unfold bg;split
  ·exact hl
  ·intro x hx
   rcases List.mem_append.1 hx with h | h
   ·exact hl x h
   ·simp at h; subst h; exact hp
 | n + 1, s, ns, ls, p, first, hp, hl => by
  rw [bu];split
  ·exact hl
  ·split
   ·exact hl
   ·exact Cy (fun s ns ls q a h1 h2 => z7 fr tt n s ns ls q a h1 h2) (8 ^ n) first fr tt (rnN s p) 0 (rnS s p) (ns ++ [p]) ls (Ac s p).ok hl
theorem Sk (s : Sh) (off : Nat) (hp : p.OK) : (jm s p off).OK := by
 unfold jm;split
 ·exact ak
 ·unfold io
  cases hl : (tj s p off).ls.getLast? with
  | none => exact ak
  | some y => exact z7 off (off + 1) 2 s [] [] p 0 hp (fun x hx => by simp at hx) y (List.mem_of_getLast? hl)
theorem J9 (s : Sh) (p : Pt) : BOK (tbN s p) := by
 unfold tbN;split
 ·exact zeros4_ok
 ·split
  ·exact zeros4_ok
  ·exact Lg _
theorem TbRS.post {s2 : Sh} (h : TbRS L w D G s p X) {v1 : Sv} (h1 : ShAt X L1 D s v1) (h2 : Mv 5 L w L1 X) (h3 : L1 G = 0) (h4 : L1 (G + 1) = 0) (hp : ShPost 5 L1 X D s2 Y) : TbRS L w D G s2 p Y := by
 obtain ⟨L3, v3, k1, k2⟩ := hp;exact ⟨⟨L3, v3, k1, h2.trans k2, (k2.old G h.box.lt).trans h3, (k2.old (G + 1) h.res.lt).trans h4⟩, k2.blk h.box h3, k2.blk h.res h4, h.lo⟩
theorem Lo.of (h : Lo L) (hm : Mv 5 L w L1 X) : Lo L1 := h.mv hm
set_option maxRecDepth 100000 in
set_option maxHeartbeats 8000000 in
theorem rf {m : Nat} (p : Pt) (hp : p.OK) (off : Nat) (hoff : off < 4294967296) (h : ShAt w L D s v) (hlo : Lo L) (hk : Lim m s) (hm : m + 74 < 100000000) (hbl : (rdB (jb s p off) (jm s p off)).length ≤ 100000) :
  Calls Tryz.prog 38 #[shI D, .agg (a8 p).toArray, .int .u32 (off : Int)] w (Gu L w D s p off (m + 74)) := by
 have aw := zH hp;have HK := zH hk;have HM := zH hm;have aq := zH hbl;have b7 := zH hlo;have b9 := zH hoff
 have HX : Hid (∀ z, z = (ai zeros4).toArray → TbRS L w D w.heap.size s p ((w.alloc (.cells (a8 p).toArray 28)).alloc (.cells z 104))) := zH (fun z hz => by
  subst hz;have b4 : Below w.heap.size w ((w.alloc (.cells (a8 p).toArray 28)).alloc (.cells (ai zeros4).toArray 104)) := ((Below.refl _ _).alloc (Nat.le_refl _) _).alloc (by simp) _
  exact ⟨⟨L, v, h.below b4, Mv.of_below b4 h.lt, h.not (Nat.le_refl _), h.not (by omega)⟩, (Blk.new _ _ _).alloc _, Blk.new' _ _ _ _ _ (by simp) rfl, Nat.le_refl _⟩)
 generalize hPost : Gu L w D s p off (m + 74) = Post;have HP : Hid (∀ w', ShPost 5 L w D (blS s p off) w' → Lim (m + 74) (blS s p off) → Post (.returned (.tuple #[.agg (ai (blN s p off)).toArray, .int .i64 (blE s p off : Int)])) w') := zH fun w' h hl => by rw [← hPost]; exact ⟨rfl, h, hl⟩
 have bc := zH (fa zeros4_ok);have ab : Hid (jm s p off).OK := zH (Sk s off hp);obtain ⟨e2, an⟩ : ∃ x, lg s p off = x := ⟨_, rfl⟩;obtain ⟨p2, ad⟩ : ∃ x, jm s p off = x := ⟨_, rfl⟩;obtain ⟨s2, aj⟩ : ∃ x, jb s p off = x := ⟨_, rfl⟩;have HE : Hid (blE s p off = (if e2 ≠ 0 then e2 else tbE s2 p2) ∧ blN s p off = (if e2 ≠ 0 then zeros4 else tbN s2 p2) ∧ blS s p off = (if e2 ≠ 0 then s2 else tbS s2 p2)) := zH (by unfold blE blN blS; rw [an, ad, aj]; exact ⟨rfl, rfl, rfl⟩)
 have a7 : Hid (∀ (W : World) (L1 : Nat → Nat) (v1 : Sv), ShAt W L1 D s v1 → Lo L1 → Calls Tryz.prog 69 #[shI D, .agg (a8 p).toArray, .int .u32 (off : Int)] W fun e Y => e = .returned (.tuple #[.agg (a8 p2).toArray, .int .i64 (e2 : Int)]) ∧ ShPost 5 L1 W D s2 Y ∧ Lim (m + 73) s2) := zH fun W L1 v1 a b => by
  have := Qc p aw.out off b9.out a b HK.out (by have := HM.out; show m + 73 < 100000000; omega);unfold C6 at this;rw [an, ad, aj] at this;exact this
 rw [ad] at ab;rw [ad, aj] at aq;have bd := zH (bh ab.out);have b8 : Hid ((a8 p2).toArray.size = 41) := zH (by rw [List.size_toArray, aa ab.out]);clear hp h hk hm hbl hlo hoff hPost an ad aj;unfold shI at a7 ⊢;go_enter Tryz.func38, Tryz.ntmps38
 go_upto_region 1 with fail
 refine (fun (k : ∀ W, TbRS L w D w.heap.size s p W → Code.wp _ _ _ _ W) => k _ (HX.out _ rfl)) ?_;intro W hW;obtain ⟨G, hG⟩ : ∃ G, w.heap.size = G := ⟨_, rfl⟩;rw [hG] at hW ⊢;clear HX;have af := zH hW;clear hW;obtain ⟨⟨L1, v1, h1, h2, h3, h4⟩, h5, h6, h7⟩ := af.out;have au := zH (a7.out W L1 v1 h1 (b7.out.of h2));have a5 : Hid (∀ Y, ShPost 5 L1 W D s2 Y → TbRS L w D G s2 p Y) := zH fun Y hy => af.out.post h1 h2 h3 h4 hy
 clear h1 h2 h3 h4 h5 h6 h7
 go_wp2_with (first | (refine a9 rfl (ax aw.out af.out.box rfl rfl) ?_) | fail)
 refine au.out.mono ?_;rintro e X2 ⟨rfl, b5, b3⟩;have b0 := zH (a5.out X2 b5); have al := zH b3;clear b5 b3 au a5 af
 go_upto_region 2 with (first | (refine wpList_store_row rfl 28 (.tmp 8) (.tmp 15) rfl X2.heap.size (a8 p2).toArray rfl rfl 28 _ (heap_alloc_new X2 _) bd.out (by rw [b8.out]; rfl) (bb p2) ?_) | fail)
 refine (fun (k : ∀ W, TbRS L w D G s2 p W → Blk W X2.heap.size (a8 p2) 28 → Code.wp _ _ _ _ W) => k _ (b0.out.below (ar X2 _ (a8 p2) 28).2) (ar X2 _ (a8 p2) 28).1) ?_;intro X5 hX5 hb5;have ag := zH hX5; have ap := zH hb5;obtain ⟨G5, b2⟩ : ∃ g, X2.heap.size = g := ⟨_, rfl⟩;rw [b2] at ap ⊢;have ay := zH hX5.res;clear hX5 hb5 b2 b0;by_cases h0 : e2 = 0
 ·subst h0
  obtain ⟨a1, a2, a3⟩ := HE.out;rw [if_neg (by simp)] at a1 a2 a3;obtain ⟨⟨L1, v1, h1, h2, h3, h4⟩, h5, h6, h7⟩ := ag.out;have az := zH (An p2 ab.out h1 al.out aq.out);have a5 : Hid (∀ Y, ShPost 5 L1 X5 D (tbS s2 p2) Y → TbRS L w D G (tbS s2 p2) p Y) := zH fun Y hy => ag.out.post h1 h2 h3 h4 hy
  have ae := zH (J9 s2 p2);have av : Hid (∀ w', ShPost 5 L w D (tbS s2 p2) w' → Post (.returned (.tuple #[.agg (ai (tbN s2 p2)).toArray, .int .i64 (tbE s2 p2 : Int)])) w') := zH (by have := HP.out; rw [a1, a2, a3] at this; exact fun w' h => this w' h (al.out.rnS (p := p2) HM.out));obtain ⟨ns, ah⟩ : ∃ x, tbN s2 p2 = x := ⟨_, rfl⟩;obtain ⟨er, ao⟩ : ∃ x, tbE s2 p2 = x := ⟨_, rfl⟩;obtain ⟨s3, ak⟩ : ∃ x, tbS s2 p2 = x := ⟨_, rfl⟩;rw [ah] at ae;rw [ah, ao, ak] at av;rw [ak] at a5;have a4 : Hid (Calls Tryz.prog 46 #[shI D, .agg (a8 p2).toArray] X5 fun e Y => e = .returned (.tuple #[.agg (ai ns).toArray, .int .i64 (er : Int)]) ∧ ShPost 5 L1 X5 D s3 Y) := zH (by have := az.out; unfold Cb at this; rw [ah, ao, ak] at this; exact this);have bf := zH (fa ae.out);have ba : Hid ((ai ns).toArray.size = 176) := zH ae.out.size;clear a1 a2 a3 h1 h2 h3 h4 h5 h6 h7 ah ao ak az HE HP;unfold shI at a4
  go_wp2_with (first | (refine a9 rfl (ax ab.out ap.out rfl rfl) ?_) | fail)
  refine a4.out.mono ?_;rintro e X6 ⟨rfl, b6⟩;have b1 := zH (a5.out X6 b6);have am := zH b1.out.res;have a6 := zH (b1.out.ends ns);have a0 := zH (av.out _ a6.out.1);have bg : Hid ((ai zeros4).toArray.size = (ai ns).toArray.size) := zH (by rw [ba.out, zeros4_ok.size]);clear b6 a5 a4 ag ay
  go_wp2_with (first | (refine wpList_store_row rfl 104 (.tmp 6) (.tmp 24) rfl (G + 1) (ai ns).toArray rfl rfl 104 _ am.out bf.out bg.out (cn _) ?_) | fail)
  refine bodyPost_ret (ef Tryz.results38 _ _ (G + 1) 104 _ rfl a6.out.2 Tryz.underlying104 (ig ae.out)) rfl ?_;exact a0.out
 ·obtain ⟨a1, a2, a3⟩ := HE.out
  rw [if_pos h0] at a1 a2 a3;have a6 := zH (ag.out.ends zeros4);have a0 := zH (HP.out _ (by rw [a3]; exact a6.out.1) (by rw [a3]; exact al.out.mono (by omega) HM.out));rw [a1, a2] at a0;have bi : ¬ (e2 : Int) = 0 := (by omega);clear a1 a2 a3 h0
  go_wp2_with (first | (refine a9 rfl (ju rfl) ?_) | (refine wpList_store_row rfl 104 (.tmp 6) (.tmp 19) rfl (G + 1) (ai zeros4).toArray rfl rfl 104 _ ay.out bc.out rfl (cn _) ?_) | fail)
  refine bodyPost_ret (ef Tryz.results38 _ _ (G + 1) 104 _ rfl a6.out.2 Tryz.underlying104 (ig zeros4_ok)) rfl ?_;exact a0.out
end Go.Proofs.YtjgjohdeeeoeoaaGreatDoor
