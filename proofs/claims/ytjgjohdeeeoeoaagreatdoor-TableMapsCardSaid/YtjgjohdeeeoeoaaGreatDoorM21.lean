/- A node with other leaves: from a level to the next. -/
import Derived.Test.YtjgjohdeeeoeoaaGreatDoorM20
set_option linter.all false
namespace Go.Proofs.YtjgjohdeeeoeoaaGreatDoor
open Go.RowKit
attribute [local go_sem] Oper.semAt_some
variable {l : List Lf} {now was : List Pt} {D G fuel wide : Nat} {L : Nat → Nat} {sp : Option Addr} {p : Pt} {s : Sh} {X Y w : World}
def a22 : Value → Nat
 | .slice _ n _ => n
 | _ => 0
theorem yn {f : Sh → Pt → List Lf → Ww} : goW f wide was fuel s now [] = ⟨now, 0, s⟩ := by
 cases fuel <;> rfl
theorem La {f : Sh → Pt → List Lf → Ww} (h0 : l ≠ []) (he : (f s (was.getD ((l.getD 0 dl).1 / wide % 8) zeroP) (l.take (d7 wide l))).e ≠ 0) : (goW f wide was (fuel + 1) s now l).e = (f s (was.getD ((l.getD 0 dl).1 / wide % 8) zeroP) (l.take (d7 wide l))).e ∧ (goW f wide was (fuel + 1) s now l).s = (f s (was.getD ((l.getD 0 dl).1 / wide % 8) zeroP) (l.take (d7 wide l))).s := by
 unfold goW;rw [if_neg h0, if_pos he];exact ⟨rfl, rfl⟩
theorem zk {f : Sh → Pt → List Lf → Ww} (h0 : l ≠ []) (he : (f s (was.getD ((l.getD 0 dl).1 / wide % 8) zeroP) (l.take (d7 wide l))).e = 0) : goW f wide was (fuel + 1) s now l = goW f wide was fuel (f s (was.getD ((l.getD 0 dl).1 / wide % 8) zeroP) (l.take (d7 wide l))).s (now.set ((l.getD 0 dl).1 / wide % 8) (f s (was.getD ((l.getD 0 dl).1 / wide % 8) zeroP) (l.take (d7 wide l))).p) (l.drop (d7 wide l)) := by
 conv => lhs; unfold goW
 rw [if_neg h0, if_neg (by omega)]
def Zr (L : Nat → Nat) (w : World) (D obj : Nat) (p : Pt) (l : List Lf) (sp : Option Addr) (G ga gb : Nat) (was : List Pt) (f : Sh → Pt → List Lf → Ww) (wd : Nat) (R : Gw) (m c N : Nat) (v : Value) (wr : World) : Prop :=
 ∃ l2 sp2 cap2 fuel now2 s2, v = .slice sp2 (List.length l2) cap2 ∧ l2.length ≤ cap2 ∧ l2.length ≤ fuel ∧ goW f wd was fuel s2 now2 l2 = R ∧ NOK now2 ∧ (∀ x ∈ l2, Lf.OK x) ∧ (∀ X, SrcF X sp l → SrcF X sp2 l2) ∧ (∀ a, sp2 = some a → ∃ a0, sp = some a0 ∧ a.block = a0.block) ∧ WiS L w D obj p l sp G ga gb was now2 s2 wr ∧ Lim (m + (N - l2.length) * c) s2 ∧ l2.length ≤ N
set_option maxRecDepth 100000 in
set_option maxHeartbeats 16000000 in
theorem Qg (n : Nat) (hn2 : n ≤ 1) (IH : Jw n) : Jw (n + 1) := by
 intro w L D obj s v m p hp hobj l hok sp cap hc hl hS hsp h hk hm;have al := zH hp
 have HX : Hid (∀ z, z = (a8 zeroP).toArray → WbS L w D obj p l sp w.heap.size s (((w.alloc (.cells (bv D obj).toArray 145)).alloc (.cells (a8 p).toArray 28)).alloc (.cells z 28))) := zH (fun z hz => by
  subst hz;have d2 : Below w.heap.size w (((w.alloc (.cells (bv D obj).toArray 145)).alloc (.cells (a8 p).toArray 28)).alloc (.cells (a8 zeroP).toArray 28)) := (((Below.refl _ _).alloc (Nat.le_refl _) _).alloc (by simp) _).alloc (by simp; omega) _
  exact ⟨⟨L, v, h.below d2, Mv.of_below d2 h.lt, ⟨h.not (Nat.le_refl _), h.not (by omega), h.not (by omega)⟩, fun a ha => ⟨Nat.lt_of_lt_of_le (hsp a ha).1 d2.size, (hsp a ha).2⟩⟩, ((Blk.new _ _ _).alloc _).alloc _, (Blk.new' _ _ _ _ _ (by simp) rfl).alloc _, Blk.new' _ _ _ _ _ (by simp) rfl, hS.grown d2, Nat.le_refl _⟩)
 have ec := zH hok; have db := zH hobj;have bw : Hid (∀ a, sp = some a → a.block < w.heap.size) := zH (fun a ha => (hsp a ha).1);obtain ⟨N, hN⟩ : ∃ N, l.length = N := ⟨_, rfl⟩;have HN := zH hN; have HK := zH hk;rw [hN] at hc hl ⊢;have HC := zH hc; have HL := zH hl;obtain ⟨c, cx⟩ : ∃ c, cW n = c := ⟨_, rfl⟩;have HM : Hid (m + (11 + 64 * c) < 100000000) := zH (by rw [← cx]; exact hm);have e0 := zH cx;have cn := zH hn2;obtain ⟨r, hr⟩ : ∃ r, c7 obj (n + 1) s p l = r := ⟨_, rfl⟩;have HR : Hid (r = if l = [] then ⟨p, 0, s⟩ else if rnE s p ≠ 0 then ⟨zeroP, rnE s p, rnS s p⟩ else u5 obj (n + 1) p (rnN s p) ((l.getD 0 dl).1 / 8 ^ (n + 1)) (goW (c7 obj n) (8 ^ n) (rnN s p) l.length (rnS s p) (rnN s p) l)) := zH (by rw [← hr, iz]);rw [hr];generalize hPost : (fun e w' => e = Ending.returned (.tuple #[.agg (a8 r.p).toArray, .int .i64 (r.e : Int)]) ∧ ShPost 5 L w D r.s w' ∧ Lim (m + cW (n + 1)) r.s ∧ r.p.OK) = Post;have HP : Hid (∀ w', ShPost 5 L w D r.s w' → Lim (m + (11 + 64 * c)) r.s → r.p.OK → Post (.returned (.tuple #[.agg (a8 r.p).toArray, .int .i64 (r.e : Int)])) w') := zH fun w' h2 h3 h4 => by rw [← hPost]; rw [← cx] at h3; exact ⟨rfl, h2, h3, h4⟩
 have en := zH (bh hp);have bx := zH (bh ak);have es : Hid ((a8 zeroP).toArray.size = (a8 p).toArray.size) := zH (by rw [List.size_toArray, List.size_toArray, aa hp, aa ak]);obtain ⟨lv, ce⟩ : ∃ lv, n + 1 = lv := ⟨_, rfl⟩;have fb := zH ce;have dq : ((lv : Int) == 0) = false := by rw [← ce]; simp; omega
 have fs : IntKind.u8.wrap ((lv : Int) - 1) = (n : Int) := by rw [IntKind.wrap_u8, ← ce]; omega
 rw [ce] at HR ⊢;clear hp hobj hok hc hl hS hsp h hk hm hN hr hPost hn2 cx ce;go_enter Tryz.func73, Tryz.ntmps73
 go_upto_region 1 with fail
 refine (fun (k : ∀ W, WbS L w D obj p l sp w.heap.size s W → Code.wp _ _ _ _ W) => k _ (HX.out _ rfl)) ?_;intro W hW;obtain ⟨G, hG⟩ : ∃ g, w.heap.size = g := ⟨_, rfl⟩;have f8 := zH hG;rw [hG] at hW ⊢;have b6 := zH hW;have ei := zH hW.res;clear hW HX hG;by_cases h0 : N = 0
 ·subst h0
  have dq : l = [] := List.eq_nil_of_length_eq_zero HN.out;obtain rfl : r = ⟨p, 0, s⟩ := by rw [HR.out, if_pos dq]
  have af := zH (b6.out.ends p);have HE := zH (HP.out _ af.out.1 (HK.out.mono (by omega) HM.out) al.out);clear dq HR HP
  go_wp2_with (first | (refine a9 rfl (ax al.out b6.out.p rfl rfl) ?_) | (refine wpList_store_row rfl 28 (.tmp 8) (.tmp 19) rfl (G + 1 + 1) (a8 p).toArray rfl rfl 28 _ ei.out en.out es.out (bb p) ?_) | fail)
  refine bodyPost_ret (b9 Tryz.results73 _ _ (G + 1 + 1) 28 _ rfl af.out.2 (bo al.out)) rfl ?_;exact HE.out
 ·have bc : l ≠ [] := fun e => h0 (by have := HN.out; rw [e] at this; simpa using this.symm)
  have fl : ((N : Int) == 0) = false := (by simp; omega);obtain ⟨nd, cz⟩ : ∃ nd, rnN s p = nd := ⟨_, rfl⟩;obtain ⟨re, ad⟩ : ∃ re, rnE s p = re := ⟨_, rfl⟩;obtain ⟨s1, d1⟩ : ∃ s1, rnS s p = s1 := ⟨_, rfl⟩;have cp : Hid (r = if re ≠ 0 then ⟨zeroP, re, s1⟩ else u5 obj lv p nd ((l.getD 0 dl).1 / 8 ^ lv) (goW (c7 obj n) (8 ^ n) nd l.length s1 nd l)) := zH (by rw [HR.out, if_neg bc, cz, ad, d1]);have fa := zH bc;have ag : Hid (NOK nd) := zH (by rw [← cz]; exact Ac s p);have da : Hid (Lim (m + 1) s1) := zH (by rw [← d1]; exact HK.out.rnS (by have := HM.out; omega));obtain ⟨⟨L1, v1, k1, k2, k3, k4⟩, -⟩ := b6.out;have d0 := tv p al.out k1 HK.out;unfold Ca at d0;rw [cz, ad, d1] at d0;have ej := zH d0;have bt : Hid (∀ Y, ShPost 5 L1 W D s1 Y → WbS L w D obj p l sp G s1 Y) := zH (fun Y hY => b6.out.moved k2 k3 k4 hY);have em := zH (mg ag.out);have el : Hid ((ah nd).toArray.size = 328) := zH ag.out.size;have ee := zH (gz ag.out.ok);have c0 : W.cell? ⟨G, 0, none⟩ = some (.iface 45 (.pointer (some ⟨D, 0, none⟩))) := b6.out.mb.cell rfl;clear k1 k2 k3 k4 d0 cz ad d1 bc HR
  go_wp2_with (first | (refine a9 rfl (ax al.out b6.out.p rfl rfl) ?_) | fail)
  refine ej.out.mono ?_;rintro e X2 ⟨rfl, f0⟩;have bg := zH (bt.out X2 f0);clear f0 c0 ej bt b6 ei
  go_upto_region 6 with (first | (refine wpList_store_row rfl 170 (.tmp 10) (.tmp 31) rfl X2.heap.size (ah nd).toArray rfl rfl 170 _ (heap_alloc_new X2 _) em.out (by rw [el.out]; rfl) ee.out ?_) | fail)
  refine (fun (k : ∀ X, (WbS L w D obj p l sp G s1 X ∧ Blk X X2.heap.size (ah nd) 170 ∧ Below X2.heap.size X2 X) → Code.wp _ _ _ _ X) => k _ ⟨bg.out.below (ar X2 _ (ah nd) 170).2, (ar X2 _ (ah nd) 170).1, (ar X2 _ (ah nd) 170).2⟩) ?_;rintro X3 ⟨dx, dk, a7⟩;have b0 : Hid (G + 1 + 1 < X2.heap.size ∧ w.heap.size ≤ X2.heap.size) := zH ⟨bg.out.res.lt, by have := bg.out.res.lt; have := bg.out.lo; omega⟩
  have b2 : Hid (∃ L1 v1, ShAt X3 L1 D s1 v1 ∧ Mv 5 L w L1 X3 ∧ (L1 G = 0 ∧ L1 (G + 1) = 0 ∧ L1 (G + 1 + 1) = 0) ∧ (∀ a, sp = some a → a.block < X3.heap.size ∧ (L1 a.block = 0 ∨ L1 a.block = 10)) ∧ ∀ g, X2.heap.size ≤ g → L1 g = 0) := zH (by
   obtain ⟨⟨L2, v2, k1, k2, k3, k4⟩, -⟩ := bg.out
   exact ⟨L2, v2, k1.below a7, k2.trans (Mv.of_below a7 k1.lt), k3, fun a ha => ⟨Nat.lt_of_lt_of_le (k4 a ha).1 a7.size, (k4 a ha).2⟩, fun g hg => k1.not hg⟩)
  obtain ⟨ga, ev⟩ : ∃ g, X2.heap.size = g := ⟨_, rfl⟩;rw [ev] at dk b0 b2 ⊢;have c1 := zH dx; have ay := zH dk;have bu := zH dx.res;clear dx dk a7 ev bg;by_cases ad : re = 0
  ·subst ad
   obtain ⟨R, dj⟩ : ∃ R, goW (c7 obj n) (8 ^ n) nd l.length s1 nd l = R := ⟨_, rfl⟩;have dc : Hid (r = u5 obj lv p nd ((l.getD 0 dl).1 / 8 ^ lv) R) := zH (by rw [cp.out, if_neg (by simp), dj]);have de := zH dj;clear dj cp;rw [show ((0 : Nat) : Int) = (0 : Int) from rfl]
   go_upto_region 9 with (first | (refine a9 rfl (gx ag.out ay.out rfl rfl) ?_) | (refine wpList_store_row rfl 170 (.tmp 12) (.tmp 37) rfl X3.heap.size (ah nd).toArray rfl rfl 170 _ (heap_alloc_new X3 _) em.out (by rw [el.out]; rfl) ee.out ?_) | fail)
   refine (fun (k : ∀ X, WiS L w D obj p l sp G ga X3.heap.size nd nd s1 X → Code.wp _ _ _ _ X) => k _ ?_) ?_
   ·have c4 := (ar X3 (ah holes).toArray (ah nd) 170).2
    obtain ⟨L1, v1, k1, k2, k3, k4, k5⟩ := b2.out;exact ⟨c1.out.below c4, ay.out.below c4 ay.out.lt, (ar X3 _ (ah nd) 170).1, ⟨b0.out.2, by have := ay.out.lt; have := b0.out.2; omega, by have := ay.out.lt; omega, by have := b0.out.1; omega, by have := b0.out.1; omega, b0.out.1, by have := b0.out.1; have := ay.out.lt; omega⟩, ⟨L1, v1, k1.below c4, k2.trans (Mv.of_below c4 k1.lt), k3, fun a ha => ⟨Nat.lt_of_lt_of_le (k4 a ha).1 c4.size, (k4 a ha).2, by have := bw.out a ha; have := c1.out.lo; have := c1.out.mb.lt; omega⟩, k5 ga (Nat.le_refl _), k1.not (Nat.le_refl _)⟩⟩
   intro X4 hX4;obtain ⟨gb, ew⟩ : ∃ g, X3.heap.size = g := ⟨_, rfl⟩;rw [ew] at hX4 ⊢;have ep := zH hX4;clear hX4 ew c1 ay b2 bu;obtain ⟨wd, d3⟩ : ∃ wd, 8 ^ n = wd := ⟨_, rfl⟩;have eo := zH d3
   have dh : Hid (0 < wd ∧ wd ≤ 64) := zH (by
    rw [← d3];have h2 := cn.out;have : n = 0 ∨ n = 1 := (by omega)
    rcases this with rfl | rfl <;> decide)
   rw [d3] at de;have eh : Hid (Zr L w D obj p l sp G ga gb nd (c7 obj n) wd R (m + 1) c N (.slice sp N cap) X4) := zH ⟨l, sp, cap, l.length, nd, s1, by rw [HN.out], by rw [HN.out]; exact HC.out, Nat.le_refl _, de.out, ag.out, ec.out, fun _ h => h, fun a ha => ⟨a, ha, rfl⟩, ep.out, by rw [HN.out, Nat.sub_self, Nat.zero_mul]; exact da.out, by rw [HN.out]; exact Nat.le_refl _⟩;clear d3 ep de da
   go_wp2_with fail
   go_loopw [13] (fun v wr => Zr L w D obj p l sp G ga gb nd (c7 obj n) wd R (m + 1) c N v wr) (fun v _ => a22 v)
   case atStart => exact eh.out
   case round =>
    clear eh;obtain ⟨l2, fy, a4, fuel, a2, s2, rfl, et, eu, c9, cf, cg, aq, c5, f5, cb, hn2⟩ := hrel;have cl := zH c9; have ae := zH cf; have am := zH cg; have cu := zH aq; have dz := zH c5; have a5 := zH f5; have bq := zH cb; have bm := zH et; have ck := zH eu; have bf := zH hn2;obtain ⟨M, hM⟩ : ∃ M, l2.length = M := ⟨_, rfl⟩;have a6 := zH hM;rw [hM] at bq bm ck bf ⊢;clear c9 cf cg aq c5 f5 cb et eu hn2 hM;by_cases hM0 : 0 < M
    ·have fw : (0 : Int) < (M : Int) := by omega
     obtain ⟨x, hx⟩ : ∃ x, l2[0]? = some x := ⟨_, List.getElem?_eq_getElem (by have := a6.out; omega)⟩;have er := zH hx;have cv : Hid (Lf.OK x) := zH (am.out x (List.mem_of_getElem? hx));have ex : l2.getD 0 dl = x := (by rw [List.getD_eq_getElem?_getD, hx]; rfl);have f7 := zH ex;have ey : l2 ≠ [] := fun e => by rw [e] at hx; cases hx
     have e9 := zH ey;have cs := zH (cu.out wr a5.out.b.src);obtain ⟨g, o', rfl, hg⟩ := cs.out.form (by have := a6.out; omega);obtain ⟨hn, ca⟩ : ∃ h, d7 wd l2 = h := ⟨_, rfl⟩;have e8 := zH ca;have b1 : Hid (1 ≤ hn ∧ hn ≤ M) := zH ⟨by rw [← ca]; exact Mx (by have := a6.out; omega), by rw [← ca, ← a6.out]; exact Ev _ _⟩;have dp := Sw l2 am.out (some ⟨g, o', none⟩) a4 (by rw [a6.out]; exact bm.out) (by have := bf.out; have := HL.out; rw [a6.out]; omega) (by have := a6.out; omega) wd dh.out.1 dh.out.2 wr cs.out;rw [a6.out, ca] at dp;have e7 := zH dp;clear hx ex ey hg ca dp
     go_wp2_with fail
     refine (vm n (by have := cn.out; omega) wr).mono ?_;rintro e W5 ⟨rfl, rfl⟩;rw [eo.out]
     go_wp2_with fail
     refine e7.out.mono ?_;rintro e X5 ⟨rfl, dm⟩;have bz := zH (a5.out.below dm);have ct := zH (cs.out.grown dm);obtain ⟨ft, fr, av, c6⟩ := J0 (some ⟨g, o', none⟩) M a4 hn b1.out.2 bm.out;have df := zH av; have d6 := zH c6;clear dm a5 cs e7 av c6
     go_upto_region 13 with fail
     obtain ⟨xo, aw⟩ : ∃ n, x.1 = n := ⟨_, rfl⟩;have c2 := zH aw;have bi : Hid (xo < 4294967296) := zH (by rw [← aw]; exact cv.out.1);have d9 : Hid (0 < hn ∧ hn ≤ a4) := zH ⟨by have := b1.out; omega, by have := b1.out; have := bm.out; omega⟩;clear aw;refine gS (.take 0 (.take 1 (.take 2 (.take 3 (.take 4 (.take 5 (.step 6 (.take 7 (.take 8 (.take 9 (.nil))))))))))) (fun X => SrcF X (some ⟨g, o', none⟩) l2 ∧ True) (⟨ct.out.drew, trivial⟩) ?_;refine gT (.slice (some ⟨g, o', none⟩) hn a4) ?_;refine gU (.pointer (some ⟨g, o' + 0 * 42, none⟩)) rfl (fun X hX => zf (k := 0) rfl rfl rfl d9.out) ?_;refine gT (.pointer (some ⟨g, o' + 0 * 42, none⟩)) ?_;refine gU (.int .u32 (xo : Int)) rfl (fun X hX => (az Tryz.underlying24 rfl rfl (qy (hX.1.at er.out))).trans (by rw [c2.out])) ?_;refine gT (.int .u8 (lv : Int)) ?_;refine gT (.int .u8 (n : Int)) ?_;refine b8 _ rfl (by rfl) 97 #[.int .u8 (n : Int)] (fun X => by go_simp) (fun u X => u = .int .u32 (wd : Int) ∧ X = X5.drew) ((vm n (by have := cn.out; omega) X5.drew).mono fun e X ⟨e1, e2⟩ => ⟨_, e1, by rw [e2]; exact ⟨ct.out.drew, trivial⟩, by rw [eo.out], e2⟩) ?_;rintro u X6 fp ⟨rfl, rfl⟩;refine ⟨fun X => SrcF X (some ⟨g, o', none⟩) l2 ∧ True, fun _ h => h, fp, ?_⟩; try simp only [pS]
     refine gU (.int .u32 ((xo / wd : Nat) : Int)) rfl (fun X hX => ud dh.out.1 bi.out rfl rfl rfl) ?_;refine gU (.int .u32 ((xo / wd % 8 : Nat) : Int)) rfl (fun X hX => Xq rfl rfl rfl) ?_;refine gT (.int .u32 ((xo / wd % 8 : Nat) : Int)) ?_;refine au ?_;have ai := zH (bz.out.below (Below.refl _ _).drew);have ek := zH ct.out.drew;clear bz ct;obtain ⟨i, hi⟩ : ∃ i, xo / wd % 8 = i := ⟨_, rfl⟩;have HI : Hid (i < 8 ∧ (l2.getD 0 dl).1 / wd % 8 = i) := zH ⟨by omega, by rw [f7.out, c2.out]; exact hi⟩;rw [hi];clear hi;obtain ⟨q, hq⟩ := ag.out.get HI.out.1;have HQ := zH hq;have eg := zH (ag.out.at hq);have ef : Hid (nd.getD ((l2.getD 0 dl).1 / wd % 8) zeroP = q) := zH (by rw [HI.out.2, List.getD_eq_getElem?_getD, hq]; rfl);clear hq;obtain ⟨-, -, -, -, ⟨L6, v6, e1, e2, e3, e4, e5, e6⟩⟩ := ai.out
     have cy := fun (X : World) (hX : Below X5.drew.heap.size X5.drew X) => IH (obj := obj) q eg.out db.out (l2.take hn) (fun y hy => am.out y (List.mem_of_mem_take hy)) (some ⟨g, o', none⟩) a4 (by rw [List.length_take, a6.out]; have := d9.out; omega) (by rw [List.length_take, a6.out]; have := HL.out; have := bf.out; omega) ((ek.out.take hn).grown hX) (fun a ha => by
      obtain ⟨a0, ea, eb⟩ := dz.out a ha;rw [eb]
      exact ⟨Nat.lt_of_lt_of_le (e4 a0 ea).1 hX.size, (e4 a0 ea).2.1⟩) (e1.below hX) bq.out (by
      rw [e0.out];have := HM.out;have h2 := bf.out;have h3 := HL.out;have : (N - M) * c + c ≤ 64 * c := (by rw [← Nat.succ_mul]; exact Nat.mul_le_mul (by omega) (Nat.le_refl _))
      omega)
     rw [List.length_take, a6.out, Nat.min_eq_left b1.out.2] at cy;obtain ⟨a3, dt⟩ : ∃ x : Ww, c7 obj n s2 q (l2.take hn) = x := ⟨_, rfl⟩;rw [dt] at cy;have cr : Hid (c7 obj n s2 (nd.getD ((l2.getD 0 dl).1 / wd % 8) zeroP) (l2.take (d7 wd l2)) = a3) := zH (by rw [ef.out, e8.out]; exact dt)
     have bk : ∀ X, Below X5.drew.heap.size X5.drew X → ∀ Y, ShPost 5 L6 X D a3.s Y → WiS L w D obj p l sp G ga gb nd a2 a3.s Y := fun X hX Y hY =>
      (ai.out.below hX).moved (e2.trans (Mv.of_below hX e1.lt)) e3 (fun a ha => ⟨Nat.lt_of_lt_of_le (e4 a ha).1 hX.size, (e4 a ha).2⟩) ⟨e5, e6⟩ hY
     have br : Hid (∀ Y, Lim (m + 1 + (N - M) * c + cW n) Y → Lim (m + 1 + (N - (M - hn)) * c) Y) := zH (fun Y hY => hY.mono (by
      rw [e0.out];have h1 := b1.out;have h2 := bf.out;have : (N - M) * c + c ≤ (N - (M - hn)) * c := (by rw [← Nat.succ_mul]; exact Nat.mul_le_mul (by omega) (Nat.le_refl _))
      omega) (by
      have := HM.out;have h3 := HL.out;have : (N - (M - hn)) * c ≤ 64 * c := Nat.mul_le_mul (by omega) (Nat.le_refl _)
      omega))
     clear e1 e2 e3 e4 e5 e6 dt
     go_upto_region 14 with fail
     have bl : Blk X5.drew.drew G (bv D obj) 145 ∧ Blk X5.drew.drew ga (ah nd) 170 := ⟨ai.out.b.mb.drew, ai.out.wa.drew⟩;refine gS (.take 0 (.take 1 (.take 2 (.take 3 (.take 4 (.take 5 (.take 6 (.take 7 (.step 8 (.take 9 (.take 10 (.take 11 (.take 12 (.step 13 (.take 14 (.nil)))))))))))))))) (fun X => Blk X G (bv D obj) 145 ∧ Blk X ga (ah nd) 170) (bl) ?_;refine gT (.int .u32 (i : Int)) ?_;refine gU (.agg (bv D obj).toArray) rfl (fun X hX => yk hX.1 rfl rfl) ?_;refine gT (.int .u32 (i : Int)) ?_;refine gU (.pointer (some ⟨ga, i * 41, none⟩)) rfl (fun X hX => Kj HI.out.1 rfl rfl rfl) ?_;refine gU (.agg (a8 q).toArray) rfl (fun X hX => a0h ag.out hX.2 HQ.out (Nat.mul_comm i 41) rfl rfl) ?_;refine gT (.int .u8 (lv : Int)) ?_;refine gT (.int .u8 (n : Int)) ?_;refine gT (.slice (some ⟨g, o', none⟩) hn a4) ?_
     refine b8 _ rfl (by rfl) 73 #[.agg (bv D obj).toArray, .agg (a8 q).toArray, .int .u8 (n : Int), .slice (some ⟨g, o', none⟩) hn a4] (fun X => by go_simp) (fun u X => u = .tuple #[.agg (a8 a3.p).toArray, .int .i64 (a3.e : Int)] ∧ WiS L w D obj p l sp G ga gb nd a2 a3.s X ∧ Lim (m + 1 + (N - M) * c + cW n) a3.s ∧ a3.p.OK) ((cy X5.drew.drew (Below.refl _ _).drew).mono fun e X ⟨e1, e2, e3, e4⟩ => by
      have bd := bk X5.drew.drew (Below.refl _ _).drew X e2
      exact ⟨_, e1, ⟨bd.b.mb, bd.wa⟩, rfl, bd, e3, e4⟩) ?_
     rintro u X7 fq ⟨rfl, b7, cd, ab⟩;refine ⟨fun X => Blk X G (bv D obj) 145 ∧ Blk X ga (ah nd) 170, fun _ h => h, fq, ?_⟩; try simp only [pS]
     have c3 := b7.put ae.out HI.out.1 ab;have aj : X7.there gb (i * 41) (a8 a3.p).toArray.size := b7.nw.there _ _ (by rw [List.size_toArray, aa ab, ae.out.cells]; have := HI.out.1; omega);refine gT (.tuple #[.agg (a8 a3.p).toArray, .int .i64 (a3.e : Int)]) ?_;refine gT (.agg (a8 a3.p).toArray) ?_;refine gT (.int .i64 (a3.e : Int)) ?_;refine gU (.pointer (some ⟨gb, i * 41, none⟩)) rfl (fun X hX => Kj HI.out.1 rfl rfl rfl) ?_;refine Zj _ rfl (by rfl) 28 (.tmp 72) (.tmp 70) rfl gb (i * 41) (a8 a3.p).toArray rfl rfl aj (bh ab) (bb a3.p) (fun X => Blk X G (bv D obj) 145 ∧ Blk X ga (ah nd) 170) (fun _ h => h) ⟨c3.b.mb, c3.wa⟩ ?_; try simp only [pS]
     refine gT (.int .i64 (a3.e : Int)) ?_;refine au ?_;generalize X7.setCells gb (i * 41) (a8 a3.p) = X8 at c3 ⊢;have dg := zH c3;have bs := zH (br.out _ cd);have fd := zH (ae.out.set i ab);have fg := zH ab;clear c3 cd ab b7 cy bk ai ek br aj bl;obtain ⟨f1, dn⟩ : ∃ f1, fuel = f1 + 1 := ⟨fuel - 1, by have := ck.out; omega⟩;have bp : Hid (goW (c7 obj n) wd nd (f1 + 1) s2 a2 l2 = R) := zH (by rw [← dn]; exact cl.out);have f6 : Hid (M ≤ f1 + 1) := zH (by rw [← dn]; exact ck.out);clear dn cl ck HQ eg ef er cv c2 bi d9;by_cases ad : a3.e = 0
     ·have ao : (a3.e : Int) = 0 := by omega
      have ba := zk (f := c7 obj n) (wide := wd) (was := nd) (fuel := f1) (s := s2) (now := a2) e9.out (by rw [cr.out]; exact ad);rw [cr.out, HI.out.2, e8.out] at ba;have d8 : Hid (goW (c7 obj n) wd nd f1 a3.s (a2.set i a3.p) (l2.drop hn) = R) := zH (ba.symm.trans bp.out);have bn : Hid ((l2.drop hn).length = M - hn) := zH (by rw [List.length_drop, a6.out]);rw [ao];clear ad ao ba hM0
      go_wp2_with fail
      go_roundw
      case rel =>
       refine ⟨l2.drop hn, ft, a4 - hn, f1, a2.set i a3.p, a3.s, by rw [bn.out], by rw [bn.out]; have := bm.out; omega, by rw [bn.out]; have := f6.out; have := b1.out; omega, d8.out, fd.out, fun y hy => am.out y (List.mem_of_mem_drop hy), fun X hX => df.out X l2 a6.out (cu.out X hX), fun a ha => ?_, dg.out, by rw [bn.out]; exact bs.out, by rw [bn.out]; have := bf.out; omega⟩;obtain ⟨a0, e1, e2⟩ := d6.out a ha;obtain ⟨a1, e3, e4⟩ := dz.out a0 e1;exact ⟨a1, e3, e2.trans e4⟩
      case measure => simp [a22]; have := b1.out; omega
     ·have ao : ¬ (a3.e : Int) = 0 := by omega
      obtain ⟨ge, gs⟩ := La (f := c7 obj n) (wide := wd) (was := nd) (fuel := f1) (s := s2) (now := a2) e9.out (by rw [cr.out]; exact ad);rw [cr.out, bp.out] at ge gs;have f4 : r = ⟨zeroP, a3.e, a3.s⟩ := (by rw [dc.out]; unfold u5; rw [ge, gs, if_pos ad]);have af := zH (dg.out.b.ends zeroP)
      have HE : Hid (Post (.returned (.tuple #[.agg (a8 zeroP).toArray, .int .i64 (a3.e : Int)])) (X8.setRow (G + 1 + 1) (a8 zeroP).toArray)) := zH (by
       have h1 := HP.out (X8.setRow (G + 1 + 1) (a8 zeroP).toArray);rw [f4] at h1
       exact h1 af.out.1 (bs.out.mono (by
        have := HM.out;have h3 := HL.out;have : (N - (M - hn)) * c ≤ 64 * c := Nat.mul_le_mul (by omega) (Nat.le_refl _)
        omega) HM.out) ak)
      have b4 := zH dg.out.b.res;clear ad ge gs f4 hM0 HP
      go_wp2_with (first | (refine a9 rfl (bj rfl) ?_) | (refine wpList_store_row rfl 28 (.tmp 8) (.tmp 75) rfl (G + 1 + 1) (a8 zeroP).toArray rfl rfl 28 _ b4.out bx.out rfl (bb zeroP) ?_) | fail)
      refine bodyPost_ret (b9 Tryz.results73 _ _ (G + 1 + 1) 28 _ rfl af.out.2 (bo ak)) rfl ?_;exact HE.out
    ·obtain rfl : M = 0 := by omega
     obtain rfl : l2 = [] := List.eq_nil_of_length_eq_zero a6.out;have c9 := cl.out;rw [yn] at c9;obtain rfl := c9;obtain ⟨x0, hx0⟩ : ∃ x, l[0]? = some x := ⟨_, List.getElem?_eq_getElem (by have := HN.out; omega)⟩;have fj := zH hx0;have c8 : l.getD 0 dl = x0 := (by rw [List.getD_eq_getElem?_getD, hx0]; rfl);have cv : Hid (Lf.OK x0) := zH (ec.out x0 (List.mem_of_getElem? hx0));obtain ⟨g0, o0, ci, -⟩ := a5.out.b.src.form (by have := HN.out; omega);have an := zH ci;obtain ⟨xo, aw⟩ : ∃ n, x0.1 = n := ⟨_, rfl⟩;have c2 := zH aw;have bi : Hid (xo < 4294967296) := zH (by rw [← aw]; exact cv.out.1);obtain ⟨wl, d4⟩ : ∃ wl, 8 ^ lv = wl := ⟨_, rfl⟩;have fi := zH d4;have b3 : Hid (lv ≤ 2) := zH (by have := cn.out; have := fb.out; omega);have fh : Hid (0 < wl) := zH (by rw [← d4]; exact Nat.pow_pos (by omega));have cq : Hid (r = if a2 = nd then ⟨p, 0, s2⟩ else ⟨anP (qr s2 p lv nd a2) a2 lv obj (xo / wl), anE (qr s2 p lv nd a2) a2, anS (qr s2 p lv nd a2) a2 lv obj (xo / wl)⟩) := zH (by rw [dc.out, c8, aw, d4]; unfold u5; rw [if_neg (by simp)])
     have cm : Hid (m + 1 + (N - 0) * c + 10 ≤ m + (11 + 64 * c)) := zH (by
      have h3 := HL.out;have : (N - 0) * c ≤ 64 * c := Nat.mul_le_mul (by omega) (Nat.le_refl _)
      omega)
     have fx : ((N : Int) == 0) = false := fl;clear hx0 c8 ci aw d4 dc hM0 cl;by_cases heq : a2 = nd
     ·subst heq
      obtain rfl : r = ⟨p, 0, s2⟩ := by rw [cq.out, if_pos rfl]
      have af := zH (a5.out.b.ends p);have HE := zH (HP.out _ af.out.1 (bq.out.mono (by have := cm.out; omega) HM.out) al.out);have b4 := zH a5.out.b.res;clear cq HP
      go_wp2_with (first | (refine a9 rfl (gx ae.out a5.out.nw rfl rfl) ?_) | (refine a9 rfl (gx ae.out a5.out.wa rfl rfl) ?_) | (refine a9 rfl ((Hl ae.out ae.out rfl rfl rfl).trans (by rw [decide_eq_true rfl])) ?_) | (refine a9 rfl (ax al.out a5.out.b.p rfl rfl) ?_) | (refine wpList_store_row rfl 28 (.tmp 8) (.tmp 80) rfl (G + 1 + 1) (a8 p).toArray rfl rfl 28 _ b4.out en.out es.out (bb p) ?_) | fail)
      refine bodyPost_ret (b9 Tryz.results73 _ _ (G + 1 + 1) 28 _ rfl af.out.2 (bo al.out)) rfl ?_;exact HE.out
     ·have fe : Hid (decide (a2 = nd) = false) := zH (decide_eq_false heq)
      obtain ⟨s3, dv⟩ : ∃ s3, qr s2 p lv nd a2 = s3 := ⟨_, rfl⟩;have dd : Hid (r = ⟨anP s3 a2 lv obj (xo / wl), anE s3 a2, anS s3 a2 lv obj (xo / wl)⟩) := zH (by rw [cq.out, if_neg heq, dv]);obtain ⟨-, -, -, -, ⟨L6, v6, e1, e2, e3, e4, e5, e6⟩⟩ := a5.out;have dr := Qd obj p al.out lv nd a2 ag.out ae.out e1 bq.out (by have := cm.out; have := HM.out; omega);rw [dv] at dr;have ed := zH dr;have bt : Hid (∀ Y, ShPost 5 L6 wr D s3 Y → WiS L w D obj p l sp G ga gb nd a2 s3 Y) := zH (fun Y hY => a5.out.moved e2 e3 e4 ⟨e5, e6⟩ hY);clear e1 e2 e3 e4 e5 e6 dr heq cq dv
      go_wp2_with (first | (refine a9 rfl (gx ae.out a5.out.nw rfl rfl) ?_) | (refine a9 rfl (gx ag.out a5.out.wa rfl rfl) ?_) | (refine a9 rfl ((Hl ae.out ag.out rfl rfl rfl).trans (by rw [fe.out])) ?_) | (refine a9 rfl (ax al.out a5.out.b.p rfl rfl) ?_) | (refine a9 rfl (yk a5.out.b.mb rfl rfl) ?_) | fail)
      refine ed.out.mono ?_;rintro e X9 ⟨rfl, f2, ez⟩;have b5 := zH (bt.out X9 f2);have f9 := zH ez;clear f2 ez ed bt a5 bq;obtain ⟨-, -, -, -, ⟨L9, v9, e1, e2, e3, e4, e5, e6⟩⟩ := b5.out;have cw := Jb (w := X9.drew) obj a2 ae.out lv (xo / wl) (by have := b3.out; omega) db.out (by have := Nat.div_le_self xo wl; have := bi.out; omega) e1.drew f9.out (by have := cm.out; have := HM.out; omega)
      have bk : ∀ Y, ShPost 5 L9 X9.drew D (anS s3 a2 lv obj (xo / wl)) Y → WbS L w D obj p l sp G (anS s3 a2 lv obj (xo / wl)) Y ∧ Blk Y gb (ah a2) 170 := fun Y hY => by
       have hh := (b5.out.below (Below.refl _ _).drew).moved (e2.trans (Mv.of_below (Below.refl _ _).drew e1.lt)) e3 (fun a ha => ⟨Nat.lt_of_lt_of_le (e4 a ha).1 (Below.refl X9.heap.size X9).drew.size, (e4 a ha).2⟩) ⟨e5, e6⟩ hY;exact ⟨hh.b, hh.nw⟩
      obtain ⟨rp, ds⟩ : ∃ x, anP s3 a2 lv obj (xo / wl) = x := ⟨_, rfl⟩;obtain ⟨dy, ch⟩ : ∃ x, anE s3 a2 = x := ⟨_, rfl⟩;obtain ⟨s4, dw⟩ : ∃ x, anS s3 a2 lv obj (xo / wl) = x := ⟨_, rfl⟩;unfold C2 at cw;rw [ds, ch, dw] at cw dd;rw [dw] at bk;obtain rfl := dd.out
      have co : Hid rp.OK := zH (by
       rw [← ds];unfold anP;split
       ·exact ak
       ·split
        ·exact ak
        ·exact zz (sx (by have := b3.out; omega) db.out (by have := Nat.div_le_self xo wl; have := bi.out; omega)) _)
      have cu := zH (bh co.out);have fk : Hid ((a8 zeroP).length = (a8 rp).toArray.size) := zH (by rw [List.size_toArray, aa co.out, aa ak]);have bl : Blk X9.drew G (bv D obj) 145 ∧ Blk X9.drew gb (ah a2) 170 ∧ SrcF X9.drew (some ⟨g0, o0, none⟩) l := ⟨b5.out.b.mb.drew, b5.out.nw.drew, by have := b5.out.b.src.drew; rw [an.out] at this; exact this⟩;have fc : Hid (0 < N ∧ N ≤ cap) := zH ⟨by omega, HC.out⟩;rw [an.out];clear e1 e2 e3 e4 e5 e6 ds ch dw dd
      go_upto_region 20 with fail
      refine gS (.take 0 (.take 1 (.take 2 (.take 3 (.take 4 (.take 5 (.take 6 (.take 7 (.step 8 (.take 9 (.step 10 (.take 11 (.take 12 (.step 13 (.take 14 (.nil)))))))))))))))) (fun X => Blk X G (bv D obj) 145 ∧ Blk X gb (ah a2) 170 ∧ SrcF X (some ⟨g0, o0, none⟩) l) (bl) ?_;refine gU (.agg (bv D obj).toArray) rfl (fun X hX => yk hX.1 rfl rfl) ?_;refine gU (.agg (ah a2).toArray) rfl (fun X hX => gx ae.out hX.2.1 rfl rfl) ?_;refine gT (.int .u8 (lv : Int)) ?_;refine gT (.slice (some ⟨g0, o0, none⟩) N cap) ?_;refine gU (.pointer (some ⟨g0, o0 + 0 * 42, none⟩)) rfl (fun X hX => zf (k := 0) rfl rfl rfl fc.out) ?_;refine gT (.pointer (some ⟨g0, o0 + 0 * 42, none⟩)) ?_;refine gU (.int .u32 (xo : Int)) rfl (fun X hX => (az Tryz.underlying24 rfl rfl (qy (hX.2.2.at fj.out))).trans (by rw [c2.out])) ?_;refine gT (.int .u8 (lv : Int)) ?_;refine b8 _ rfl (by rfl) 97 #[.int .u8 (lv : Int)] (fun X => by go_simp) (fun u X => u = .int .u32 (wl : Int) ∧ X = X9.drew) ((vm lv b3.out X9.drew).mono fun e X ⟨e1, e2⟩ => ⟨_, e1, by rw [e2]; exact bl, by rw [fi.out], e2⟩) ?_;rintro u fu du ⟨rfl, rfl⟩;refine ⟨fun X => Blk X G (bv D obj) 145 ∧ Blk X gb (ah a2) 170 ∧ SrcF X (some ⟨g0, o0, none⟩) l, fun _ h => h, du, ?_⟩; try simp only [pS]
      refine gU (.int .u32 ((xo / wl : Nat) : Int)) rfl (fun X hX => ud fh.out bi.out rfl rfl rfl) ?_
      refine b8 _ rfl (by rfl) 99 #[.agg (bv D obj).toArray, .agg (ah a2).toArray, .int .u8 (lv : Int), .int .u32 ((xo / wl : Nat) : Int)] (fun X => by go_simp) (fun u X => u = .tuple #[.agg (a8 rp).toArray, .int .i64 (dy : Int)] ∧ WbS L w D obj p l sp G s4 X ∧ Lim (m + 1 + (N - 0) * c + 9 + 1) s4) (cw.mono fun e X ⟨e1, e2, e3⟩ => by
       obtain ⟨bd, fo⟩ := bk X e2
       exact ⟨_, e1, ⟨bd.mb, fo, by have := bd.src; rw [an.out] at this; exact this⟩, rfl, bd, e3⟩) ?_
      rintro u fv ap ⟨rfl, cj, cb⟩;refine ⟨fun X => Blk X G (bv D obj) 145 ∧ Blk X gb (ah a2) 170 ∧ SrcF X (some ⟨g0, o0, none⟩) l, fun _ h => h, ap, ?_⟩; try simp only [pS]
      have di := cj.ends rp;have fm := cj.lo;have fn := cj.mb.lt;refine gT (.agg (a8 rp).toArray) ?_;refine gT (.int .i64 (dy : Int)) ?_;refine kp _ rfl (by rfl) 28 (.tmp 8) (.tmp 98) rfl (G + 1 + 1) (a8 rp).toArray rfl rfl cj.res cu.out fk.out (bb rp) (fun X => Blk X G (bv D obj) 145 ∧ Blk X gb (ah a2) 170 ∧ SrcF X (some ⟨g0, o0, none⟩) l) (fun _ h => h) ⟨ap.1.rowOther (by omega) _, ap.2.1.rowOther (by have := b5.out.ne; omega) _, ap.2.2.chg (tf _ _ _) (fun a ha e => by have h5 := bw.out a (by rw [an.out]; exact ha); have h6 := f8.out; have e : a.block = G + 1 + 1 := e; omega)⟩ ?_; try simp only [pS]
      refine gT (.int .i64 (dy : Int)) ?_;refine au ?_;have d5 := zH di;have HE := zH (HP.out _ di.1 (cb.mono (by have := cm.out; omega) HM.out) co.out);clear di cb cj cw bk bl HP b5
      go_wp2_with fail
      refine bodyPost_ret (b9 Tryz.results73 _ _ (G + 1 + 1) 28 _ rfl d5.out.2 (bo co.out)) rfl ?_;exact HE.out
  ·have ao : ¬ (re : Int) = 0 := by omega
   have f3 : r = ⟨zeroP, re, s1⟩ := (by rw [cp.out, if_pos ad]);have af := zH (c1.out.ends zeroP)
   have HE : Hid (Post (.returned (.tuple #[.agg (a8 zeroP).toArray, .int .i64 (re : Int)])) (X3.setRow (G + 1 + 1) (a8 zeroP).toArray)) := zH (by
    have h1 := HP.out (X3.setRow (G + 1 + 1) (a8 zeroP).toArray);rw [f3] at h1
    exact h1 af.out.1 (da.out.mono (by omega) HM.out) ak)
   clear ad f3 HP cp
   go_wp2_with (first | (refine a9 rfl (bj rfl) ?_) | (refine wpList_store_row rfl 28 (.tmp 8) (.tmp 35) rfl (G + 1 + 1) (a8 zeroP).toArray rfl rfl 28 _ bu.out bx.out rfl (bb zeroP) ?_) | fail)
   refine bodyPost_ret (b9 Tryz.results73 _ _ (G + 1 + 1) 28 _ rfl af.out.2 (bo ak)) rfl ?_;exact HE.out
theorem Gq : ∀ n, n ≤ 2 → Jw n
 | 0, _ => a2f
 | n + 1, h => Qg n (by omega) (Gq n (by omega))
def vh (s : Sh) (p : Pt) (obj : Nat) (l : List Lf) : Ww := if mu p ≠ 0 then ⟨zeroP, mu p, s⟩ else if ra l = false then ⟨zeroP, 1, s⟩ else c7 obj 2 s p l
def yh (L : Nat → Nat) (w : World) (D : Nat) (r : Ww) (m : Nat) (e : Ending) (w' : World) : Prop :=
 e = .returned (.tuple #[.agg (a8 r.p).toArray, .int .i64 (r.e : Int)]) ∧ ShPost 5 L w D r.s w' ∧ Lim m r.s ∧ r.p.OK
structure SeS (L : Nat → Nat) (w : World) (D : Nat) (p : Pt) (l : List Lf) (sp : Option Addr) (G : Nat) (s : Sh) (X : World) : Prop where
 sh : ∃ L1 v1, ShAt X L1 D s v1 ∧ Mv 5 L w L1 X ∧ (L1 G = 0 ∧ L1 (G + 1) = 0) ∧ ∀ a, sp = some a → a.block < X.heap.size ∧ (L1 a.block = 0 ∨ L1 a.block = 10)
 p : Blk X G (a8 p) 28
 res : Blk X (G + 1) (a8 zeroP) 28
 src : SrcF X sp l
 lo : w.heap.size ≤ G
theorem SeS.below (h : SeS L w D p l sp G s X) (hb : Below X.heap.size X Y) : SeS L w D p l sp G s Y := by
 obtain ⟨⟨L1, v1, h1, h2, h3, h4⟩, k2, k3, k4, k5⟩ := h;exact ⟨⟨L1, v1, h1.below hb, h2.trans (Mv.of_below hb h1.lt), h3, fun a ha => ⟨Nat.lt_of_lt_of_le (h4 a ha).1 hb.size, (h4 a ha).2⟩⟩, k2.below hb k2.lt, k3.below hb k3.lt, k4.grown hb, k5⟩
theorem SeS.moved {L1 : Nat → Nat} {s' : Sh} (h : SeS L w D p l sp G s X) (hm : Mv 5 L w L1 X) (hl : L1 G = 0 ∧ L1 (G + 1) = 0) (ha : ∀ a, sp = some a → a.block < X.heap.size ∧ (L1 a.block = 0 ∨ L1 a.block = 10)) (hp : ShPost 5 L1 X D s' Y) : SeS L w D p l sp G s' Y := by
 obtain ⟨L2, v2, k1, k2⟩ := hp;exact ⟨⟨L2, v2, k1, hm.trans k2, ⟨(k2.old _ h.p.lt).trans hl.1, (k2.old _ h.res.lt).trans hl.2⟩, fun a ha' => ⟨Nat.lt_of_lt_of_le (ha a ha').1 k2.size, by rw [k2.old _ (ha a ha').1]; exact (ha a ha').2⟩⟩, k2.blk h.p hl.1, k2.blk h.res hl.2, h.src.chg k2.chg (fun a ha' hf => by have := (ha a ha').2; unfold kx at hf; omega), h.lo⟩
theorem SeS.ends (h : SeS L w D p l sp G s X) (q : Pt) : ShPost 5 L w D s (X.setRow (G + 1) (a8 q).toArray) ∧ Blk (X.setRow (G + 1) (a8 q).toArray) (G + 1) (a8 q) 28 := by
 obtain ⟨⟨L1, v1, h1, h2, h3, h4⟩, k2, k3, k4, k5⟩ := h;have hc := tf X (G + 1) (a8 q).toArray;have hz : (X.setRow (G + 1) (a8 q).toArray).heap.size = X.heap.size := by simp
 refine ⟨⟨L1, v1, h1.out hc (fun g e _ => .inl (by rw [e]; exact h3.2)) (fun _ _ => .inl rfl) (fun g hg => by rw [hz]; exact h1.lt g hg), ?_⟩, k3.row _⟩;exact ⟨h2.chg.trans hc (fun g e => by right; have : g = G + 1 := e; omega), h2.old, h2.new⟩
set_option maxRecDepth 100000 in
set_option maxHeartbeats 8000000 in
theorem Qe {obj : Nat} {v : Sv} {m : Nat} (p : Pt) (hp : p.OK) (hobj : obj < 65536) (l : List Lf) (hok : ∀ x ∈ l, Lf.OK x) (sp : Option Addr) (cap : Nat) (hc : l.length ≤ cap) (hl : l.length ≤ 64) (hS : SrcF w sp l) (hsp : ∀ a, sp = some a → a.block < w.heap.size ∧ (L a.block = 0 ∨ L a.block = 10)) (h : ShAt w L D s v) (hk : Lim m s) (hm : m + 715 < 100000000) :
  Calls Tryz.prog 41 #[shI D, .agg (a8 p).toArray, .int .u16 (obj : Int), .slice sp l.length cap] w (yh L w D (vh s p obj l) (m + 715)) := by
 have a6 := zH hp
 have HX : Hid (∀ z, z = (a8 zeroP).toArray → SeS L w D p l sp w.heap.size s ((w.alloc (.cells (a8 p).toArray 28)).alloc (.cells z 28))) := zH (fun z hz => by
  subst hz;have ab : Below w.heap.size w ((w.alloc (.cells (a8 p).toArray 28)).alloc (.cells (a8 zeroP).toArray 28)) := ((Below.refl _ _).alloc (Nat.le_refl _) _).alloc (by simp) _
  exact ⟨⟨L, v, h.below ab, Mv.of_below ab h.lt, ⟨h.not (Nat.le_refl _), h.not (by omega)⟩, fun a ha => ⟨Nat.lt_of_lt_of_le (hsp a ha).1 ab.size, (hsp a ha).2⟩⟩, (Blk.new _ _ _).alloc _, Blk.new' _ _ _ _ _ (by simp) rfl, hS.grown ab, Nat.le_refl _⟩)
 have al := zH hok; have az := zH hobj; have HK := zH hk; have HM := zH hm; have HC := zH hc; have HL := zH hl;obtain ⟨r, hr⟩ : ∃ r, vh s p obj l = r := ⟨_, rfl⟩;have HR : Hid (r = if mu p ≠ 0 then ⟨zeroP, mu p, s⟩ else if ra l = false then ⟨zeroP, 1, s⟩ else c7 obj 2 s p l) := zH hr.symm;rw [hr];generalize hPost : yh L w D r (m + 715) = Post;have HP : Hid (∀ w', ShPost 5 L w D r.s w' → Lim (m + 715) r.s → r.p.OK → Post (.returned (.tuple #[.agg (a8 r.p).toArray, .int .i64 (r.e : Int)])) w') := zH fun w' h2 h3 h4 => by rw [← hPost]; exact ⟨rfl, h2, h3, h4⟩
 have a4 := zH (bh ak);obtain ⟨N, hN⟩ : ∃ N, l.length = N := ⟨_, rfl⟩;have HN := zH hN;rw [hN];clear hp hobj hok hc hl hS hsp h hk hm hr hPost hN;unfold shI;go_enter Tryz.func41, Tryz.ntmps41
 go_upto_region 1 with fail
 refine (fun (k : ∀ W, SeS L w D p l sp w.heap.size s W → Code.wp _ _ _ _ W) => k _ (HX.out _ rfl)) ?_;intro W hW;obtain ⟨G, hG⟩ : ∃ g, w.heap.size = g := ⟨_, rfl⟩;rw [hG] at hW ⊢;have a7 := zH hW;clear hW HX hG;obtain ⟨⟨L1, v1, h1, -⟩, -⟩ := a7.out;have an := zH (p8 p a6.out D W h1.tab.1);clear h1
 go_wp2_with (first | (refine a9 rfl (ax a6.out a7.out.p rfl rfl) ?_) | fail)
 refine an.out.mono ?_;rintro e W2 ⟨rfl, ar⟩;have a2 := zH (a7.out.below ar);have am := zH a2.out.res;clear ar a7 an;obtain ⟨re, aw⟩ : ∃ re, mu p = re := ⟨_, rfl⟩;rw [aw] at HR ⊢;clear aw;by_cases h0 : re = 0
 ·subst h0
  obtain ⟨⟨L2, v2, k1, k2, k3, k4⟩, -⟩ := a2.out;have ah := Dl l al.out sp cap HC.out (by have := HL.out; omega) W2 a2.out.src k1.tab.1;rw [HN.out] at ah;have ao := zH ah;clear k1 k2 k3 k4 ah;rw [show ((0 : Nat) : Int) = (0 : Int) from rfl]
  go_wp2_with fail
  refine ao.out.mono ?_;rintro e W3 ⟨rfl, au⟩;have a1 := zH (a2.out.below au);have a3 := zH a1.out.res;clear au a2 ao am;cases hso : ra l
  ·obtain rfl : r = ⟨zeroP, 1, s⟩ := by rw [HR.out, if_neg (by simp), if_pos hso]
   have a0 := zH (a1.out.ends zeroP);have HE := zH (HP.out _ a0.out.1 (HK.out.mono (by omega) HM.out) ak);clear HP HR hso
   go_wp2_with (first | (refine a9 rfl (bj rfl) ?_) | (refine wpList_store_row rfl 28 (.tmp 8) (.tmp 21) rfl (G + 1) (a8 zeroP).toArray rfl rfl 28 _ a3.out a4.out rfl (bb zeroP) ?_) | fail)
   refine bodyPost_ret (b9 Tryz.results41 _ _ (G + 1) 28 _ rfl a0.out.2 (bo ak)) rfl ?_;exact HE.out
  ·obtain rfl : c7 obj 2 s p l = r := by rw [HR.out, if_neg (by simp), if_neg (by rw [hso]; decide)]
   obtain ⟨⟨L3, v3, k1, k2, k3, k4⟩, -⟩ := a1.out;have ai := Gq 2 (Nat.le_refl _) p a6.out az.out l al.out sp cap HC.out HL.out a1.out.src k4 k1 HK.out (by have := HM.out; show m + 715 < _; omega);have aj : Hid (∀ s' Y, ShPost 5 L3 W3 D s' Y → SeS L w D p l sp G s' Y) := zH (fun s' Y hY => a1.out.moved k2 k3 k4 hY);obtain ⟨ad, ag⟩ : ∃ x, c7 obj 2 s p l = x := ⟨_, rfl⟩;rw [ag, HN.out] at ai;rw [ag] at HP;have ap := zH ai;clear k1 k2 k3 k4 ai ag HR hso
   go_wp2_with (first | (refine a9 rfl (ax a6.out a1.out.p rfl rfl) ?_) | fail)
   refine ap.out.mono ?_;rintro e W4 ⟨rfl, av, af, a5⟩;have aq := zH (aj.out _ W4 av);have b3 := zH af; have ay := zH a5;have a0 := zH (aq.out.ends ad.p);have HE := zH (HP.out _ a0.out.1 af a5);have ae := zH aq.out.res;have b0 := zH (bh a5);have b1 : Hid ((a8 zeroP).toArray.size = (a8 ad.p).toArray.size) := zH (by rw [List.size_toArray, List.size_toArray, aa a5, aa ak]);clear av af a5 HP aj a1 a3 ap
   go_wp2_with (first | (refine wpList_store_row rfl 28 (.tmp 8) (.tmp 28) rfl (G + 1) (a8 ad.p).toArray rfl rfl 28 _ ae.out b0.out b1.out (bb ad.p) ?_) | fail)
   refine bodyPost_ret (b9 Tryz.results41 _ _ (G + 1) 28 _ rfl a0.out.2 (bo ay.out)) rfl ?_;exact HE.out
 ·have b2 : ¬ (re : Int) = 0 := by omega
  obtain rfl : r = ⟨zeroP, re, s⟩ := by rw [HR.out, if_pos h0]
  have a0 := zH (a2.out.ends zeroP);have HE := zH (HP.out _ a0.out.1 (HK.out.mono (by omega) HM.out) ak);clear HP HR h0
  go_wp2_with (first | (refine a9 rfl (bj rfl) ?_) | (refine wpList_store_row rfl 28 (.tmp 8) (.tmp 16) rfl (G + 1) (a8 zeroP).toArray rfl rfl 28 _ am.out a4.out rfl (bb zeroP) ?_) | fail)
  refine bodyPost_ret (b9 Tryz.results41 _ _ (G + 1) 28 _ rfl a0.out.2 (bo ak)) rfl ?_;exact HE.out
end Go.Proofs.YtjgjohdeeeoeoaaGreatDoor
