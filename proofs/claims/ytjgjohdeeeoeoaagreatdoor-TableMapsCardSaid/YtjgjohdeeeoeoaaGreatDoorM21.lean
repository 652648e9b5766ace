/- A node with other leaves: from a level to the next. -/
import Derived.Test.YtjgjohdeeeoeoaaGreatDoorM20
namespace Go.Proofs.YtjgjohdeeeoeoaaGreatDoor
open Go.RowKit
attribute [local go_sem] Oper.semAt_some
variable {l : List Lf} {now was : List Pt} {D G fuel wide : Nat} {L : Nat → Nat} {sp : Option Addr} {p : Pt} {s : Sh} {X Y w : World}
def a2g : Value → Nat
 | .slice _ n _ => n
 | _ => 0
theorem yg {f : Sh → Pt → List Lf → Ww} : goW f wide was fuel s now [] = ⟨now, 0, s⟩ := by
 cases fuel <;> rfl
theorem Kk {f : Sh → Pt → List Lf → Ww} (h0 : l ≠ []) (he : (f s (was.getD ((l.getD 0 dl).1 / wide % 8) zeroP) (l.take (d7 wide l))).e ≠ 0) : (goW f wide was (fuel + 1) s now l).e = (f s (was.getD ((l.getD 0 dl).1 / wide % 8) zeroP) (l.take (d7 wide l))).e ∧ (goW f wide was (fuel + 1) s now l).s = (f s (was.getD ((l.getD 0 dl).1 / wide % 8) zeroP) (l.take (d7 wide l))).s := by
 unfold goW;rw [if_neg h0, if_pos he];exact ⟨rfl, rfl⟩
theorem zw {f : Sh → Pt → List Lf → Ww} (h0 : l ≠ []) (he : (f s (was.getD ((l.getD 0 dl).1 / wide % 8) zeroP) (l.take (d7 wide l))).e = 0) : goW f wide was (fuel + 1) s now l = goW f wide was fuel (f s (was.getD ((l.getD 0 dl).1 / wide % 8) zeroP) (l.take (d7 wide l))).s (now.set ((l.getD 0 dl).1 / wide % 8) (f s (was.getD ((l.getD 0 dl).1 / wide % 8) zeroP) (l.take (d7 wide l))).p) (l.drop (d7 wide l)) := by
 conv => lhs; unfold goW
 rw [if_neg h0, if_neg (by omega)]
def Zu (L : Nat → Nat) (w : World) (D obj : Nat) (p : Pt) (l : List Lf) (sp : Option Addr) (G ga gb : Nat) (was : List Pt) (f : Sh → Pt → List Lf → Ww) (wd : Nat) (R : Gw) (m c N : Nat) (v : Value) (wr : World) : Prop :=
 ∃ l2 sp2 cap2 fuel now2 s2, v = .slice sp2 (List.length l2) cap2 ∧ l2.length ≤ cap2 ∧ l2.length ≤ fuel ∧ goW f wd was fuel s2 now2 l2 = R ∧ NOK now2 ∧ (∀ x ∈ l2, Lf.OK x) ∧ (∀ X, SrcF X sp l → SrcF X sp2 l2) ∧ (∀ a, sp2 = some a → ∃ a0, sp = some a0 ∧ a.block = a0.block) ∧ WiS L w D obj p l sp G ga gb was now2 s2 wr ∧ Lim (m + (N - l2.length) * c) s2 ∧ l2.length ≤ N
set_option maxRecDepth 100000 in
set_option maxHeartbeats 16000000 in
theorem Qg (n : Nat) (hn2 : n ≤ 1) (IH : Km n) : Km (n + 1) := by
 intro w L D obj s v m p hp hobj l hok sp cap hc hl hS hsp h hk hm;have al := zH hp
 have HX : Hid (∀ z, z = (a8 zeroP).toArray → WbS L w D obj p l sp w.heap.size s (((w.alloc (.cells (bv D obj).toArray 145)).alloc (.cells (a8 p).toArray 28)).alloc (.cells z 28))) := zH (fun z hz => by
  subst hz;have cq : Below w.heap.size w (((w.alloc (.cells (bv D obj).toArray 145)).alloc (.cells (a8 p).toArray 28)).alloc (.cells (a8 zeroP).toArray 28)) := (((Below.refl _ _).alloc (Nat.le_refl _) _).alloc (by simp) _).alloc (by simp; omega) _
  exact ⟨⟨L, v, h.below cq, Mv.of_below cq h.lt, ⟨h.not (Nat.le_refl _), h.not (by omega), h.not (by omega)⟩, fun a ha => ⟨Nat.lt_of_lt_of_le (hsp a ha).1 cq.size, (hsp a ha).2⟩⟩, ((Blk.new _ _ _).alloc _).alloc _, (Blk.new' _ _ _ _ _ (by simp) rfl).alloc _, Blk.new' _ _ _ _ _ (by simp) rfl, hS.grown cq, Nat.le_refl _⟩)
 have ep := zH hok; have d8 := zH hobj;have cf : Hid (∀ a, sp = some a → a.block < w.heap.size) := zH (fun a ha => (hsp a ha).1);obtain ⟨N, hN⟩ : ∃ N, l.length = N := ⟨_, rfl⟩;have HN := zH hN; have HK := zH hk;rw [hN] at hc hl ⊢;have HC := zH hc; have HL := zH hl;obtain ⟨c, cw⟩ : ∃ c, cW n = c := ⟨_, rfl⟩;have HM : Hid (m + (11 + 64 * c) < 100000000) := zH (by rw [← cw]; exact hm);have er := zH cw;have ct := zH hn2;obtain ⟨r, hr⟩ : ∃ r, c7 obj (n + 1) s p l = r := ⟨_, rfl⟩;have HR : Hid (r = if l = [] then ⟨p, 0, s⟩ else if rnE s p ≠ 0 then ⟨zeroP, rnE s p, rnS s p⟩ else uh obj (n + 1) p (rnN s p) ((l.getD 0 dl).1 / 8 ^ (n + 1)) (goW (c7 obj n) (8 ^ n) (rnN s p) l.length (rnS s p) (rnN s p) l)) := zH (by rw [← hr, iy]);rw [hr];generalize hPost : (fun e w' => e = Ending.returned (.tuple #[.agg (a8 r.p).toArray, .int .i64 (r.e : Int)]) ∧ ShPost 5 L w D r.s w' ∧ Lim (m + cW (n + 1)) r.s ∧ r.p.OK) = Post;have HP : Hid (∀ w', ShPost 5 L w D r.s w' → Lim (m + (11 + 64 * c)) r.s → r.p.OK → Post (.returned (.tuple #[.agg (a8 r.p).toArray, .int .i64 (r.e : Int)])) w') := zH fun w' h2 h3 h4 => by rw [← hPost]; rw [← cw] at h3; exact ⟨rfl, h2, h3, h4⟩
 have en := zH (bh hp);have cg := zH (bh ak);have ei : Hid ((a8 zeroP).toArray.size = (a8 p).toArray.size) := zH (by rw [List.size_toArray, List.size_toArray, aa hp, aa ak]);obtain ⟨lv, cd⟩ : ∃ lv, n + 1 = lv := ⟨_, rfl⟩;have f6 := zH cd;have dk : ((lv : Int) == 0) = false := by rw [← cd]; simp; omega
 have fc : IntKind.u8.wrap ((lv : Int) - 1) = (n : Int) := by rw [IntKind.wrap_u8, ← cd]; omega
 rw [cd] at HR ⊢;clear hp hobj hok hc hl hS hsp h hk hm hN hr hPost hn2 cw cd;go_enter Tryz.func73, Tryz.ntmps73
 go_upto_region 1 with fail
 refine (fun (k : ∀ W, WbS L w D obj p l sp w.heap.size s W → Code.wp _ _ _ _ W) => k _ (HX.out _ rfl)) ?_;intro W hW;obtain ⟨G, hG⟩ : ∃ g, w.heap.size = g := ⟨_, rfl⟩;have fh := zH hG;rw [hG] at hW ⊢;have b7 := zH hW;have et := zH hW.res;clear hW HX hG;by_cases h0 : N = 0
 ·subst h0
  have dk : l = [] := List.eq_nil_of_length_eq_zero HN.out;obtain rfl : r = ⟨p, 0, s⟩ := by rw [HR.out, if_pos dk]
  have af := zH (b7.out.ends p);have HE := zH (HP.out _ af.out.1 (HK.out.mono (by omega) HM.out) al.out);clear dk HR HP
  go_wp2_with (first | (refine a9 rfl (ax al.out b7.out.p rfl rfl) ?_) | (refine wpList_store_row rfl 28 (.tmp 8) (.tmp 19) rfl (G + 1 + 1) (a8 p).toArray rfl rfl 28 _ et.out en.out ei.out (bb p) ?_) | fail)
  refine bodyPost_ret (b9 Tryz.results73 _ _ (G + 1 + 1) 28 _ rfl af.out.2 (bo al.out)) rfl ?_;exact HE.out
 ·have ay : l ≠ [] := fun e => h0 (by have := HN.out; rw [e] at this; simpa using this.symm)
  have fm : ((N : Int) == 0) = false := (by simp; omega);obtain ⟨nd, d3⟩ : ∃ nd, rnN s p = nd := ⟨_, rfl⟩;obtain ⟨re, ab⟩ : ∃ re, rnE s p = re := ⟨_, rfl⟩;obtain ⟨s1, cr⟩ : ∃ s1, rnS s p = s1 := ⟨_, rfl⟩;have co : Hid (r = if re ≠ 0 then ⟨zeroP, re, s1⟩ else uh obj lv p nd ((l.getD 0 dl).1 / 8 ^ lv) (goW (c7 obj n) (8 ^ n) nd l.length s1 nd l)) := zH (by rw [HR.out, if_neg ay, d3, ab, cr]);have fe := zH ay;have ai : Hid (NOK nd) := zH (by rw [← d3]; exact za s p);have dr : Hid (Lim (m + 1) s1) := zH (by rw [← cr]; exact HK.out.rnS (by have := HM.out; omega));obtain ⟨⟨L1, v1, k1, k2, k3, k4⟩, -⟩ := b7.out;have cx := tn p al.out k1 HK.out;unfold Ds at cx;rw [d3, ab, cr] at cx;have e9 := zH cx;have c2 : Hid (∀ Y, ShPost 5 L1 W D s1 Y → WbS L w D obj p l sp G s1 Y) := zH (fun Y hY => b7.out.moved k2 k3 k4 hY);have f2 := zH (m2 ai.out);have ez : Hid ((ah nd).toArray.size = 328) := zH ai.out.size;have f3 := zH (gu ai.out.ok);have c0 : W.cell? ⟨G, 0, none⟩ = some (.iface 45 (.pointer (some ⟨D, 0, none⟩))) := b7.out.mb.cell rfl;clear k1 k2 k3 k4 cx d3 ab cr ay HR
  go_wp2_with (first | (refine a9 rfl (ax al.out b7.out.p rfl rfl) ?_) | fail)
  refine e9.out.mono ?_;rintro e X2 ⟨rfl, e0⟩;have bl := zH (c2.out X2 e0);clear e0 c0 e9 c2 b7 et
  go_upto_region 6 with (first | (refine wpList_store_row rfl 170 (.tmp 10) (.tmp 31) rfl X2.heap.size (ah nd).toArray rfl rfl 170 _ (heap_alloc_new X2 _) f2.out (by rw [ez.out]; rfl) f3.out ?_) | fail)
  refine (fun (k : ∀ X, (WbS L w D obj p l sp G s1 X ∧ Blk X X2.heap.size (ah nd) 170 ∧ Below X2.heap.size X2 X) → Code.wp _ _ _ _ X) => k _ ⟨bl.out.below (ar X2 _ (ah nd) 170).2, (ar X2 _ (ah nd) 170).1, (ar X2 _ (ah nd) 170).2⟩) ?_;rintro X3 ⟨d9, dh, a6⟩;have b5 : Hid (G + 1 + 1 < X2.heap.size ∧ w.heap.size ≤ X2.heap.size) := zH ⟨bl.out.res.lt, by have := bl.out.res.lt; have := bl.out.lo; omega⟩
  have b3 : Hid (∃ L1 v1, ShAt X3 L1 D s1 v1 ∧ Mv 5 L w L1 X3 ∧ (L1 G = 0 ∧ L1 (G + 1) = 0 ∧ L1 (G + 1 + 1) = 0) ∧ (∀ a, sp = some a → a.block < X3.heap.size ∧ (L1 a.block = 0 ∨ L1 a.block = 10)) ∧ ∀ g, X2.heap.size ≤ g → L1 g = 0) := zH (by
   obtain ⟨⟨L2, v2, k1, k2, k3, k4⟩, -⟩ := bl.out
   exact ⟨L2, v2, k1.below a6, k2.trans (Mv.of_below a6 k1.lt), k3, fun a ha => ⟨Nat.lt_of_lt_of_le (k4 a ha).1 a6.size, (k4 a ha).2⟩, fun g hg => k1.not hg⟩)
  obtain ⟨ga, ef⟩ : ∃ g, X2.heap.size = g := ⟨_, rfl⟩;rw [ef] at dh b5 b3 ⊢;have bp := zH d9; have b4 := zH dh;have cj := zH d9.res;clear d9 dh a6 ef bl;by_cases ab : re = 0
  ·subst ab
   obtain ⟨R, dv⟩ : ∃ R, goW (c7 obj n) (8 ^ n) nd l.length s1 nd l = R := ⟨_, rfl⟩;have dq : Hid (r = uh obj lv p nd ((l.getD 0 dl).1 / 8 ^ lv) R) := zH (by rw [co.out, if_neg (by simp), dv]);have da := zH dv;clear dv co;rw [show ((0 : Nat) : Int) = (0 : Int) from rfl]
   go_upto_region 9 with (first | (refine a9 rfl (gt ai.out b4.out rfl rfl) ?_) | (refine wpList_store_row rfl 170 (.tmp 12) (.tmp 37) rfl X3.heap.size (ah nd).toArray rfl rfl 170 _ (heap_alloc_new X3 _) f2.out (by rw [ez.out]; rfl) f3.out ?_) | fail)
   refine (fun (k : ∀ X, WiS L w D obj p l sp G ga X3.heap.size nd nd s1 X → Code.wp _ _ _ _ X) => k _ ?_) ?_
   ·have cb := (ar X3 (ah holes).toArray (ah nd) 170).2
    obtain ⟨L1, v1, k1, k2, k3, k4, k5⟩ := b3.out;exact ⟨bp.out.below cb, b4.out.below cb b4.out.lt, (ar X3 _ (ah nd) 170).1, ⟨b5.out.2, by have := b4.out.lt; have := b5.out.2; omega, by have := b4.out.lt; omega, by have := b5.out.1; omega, by have := b5.out.1; omega, b5.out.1, by have := b5.out.1; have := b4.out.lt; omega⟩, ⟨L1, v1, k1.below cb, k2.trans (Mv.of_below cb k1.lt), k3, fun a ha => ⟨Nat.lt_of_lt_of_le (k4 a ha).1 cb.size, (k4 a ha).2, by have := cf.out a ha; have := bp.out.lo; have := bp.out.mb.lt; omega⟩, k5 ga (Nat.le_refl _), k1.not (Nat.le_refl _)⟩⟩
   intro X4 hX4;obtain ⟨gb, eg⟩ : ∃ g, X3.heap.size = g := ⟨_, rfl⟩;rw [eg] at hX4 ⊢;have ew := zH hX4;clear hX4 eg bp b4 b3 cj;obtain ⟨wd, d4⟩ : ∃ wd, 8 ^ n = wd := ⟨_, rfl⟩;have eh := zH d4
   have di : Hid (0 < wd ∧ wd ≤ 64) := zH (by
    rw [← d4];have h2 := ct.out;have : n = 0 ∨ n = 1 := (by omega)
    rcases this with rfl | rfl <;> decide)
   rw [d4] at da;have f5 : Hid (Zu L w D obj p l sp G ga gb nd (c7 obj n) wd R (m + 1) c N (.slice sp N cap) X4) := zH ⟨l, sp, cap, l.length, nd, s1, by rw [HN.out], by rw [HN.out]; exact HC.out, Nat.le_refl _, da.out, ai.out, ep.out, fun _ h => h, fun a ha => ⟨a, ha, rfl⟩, ew.out, by rw [HN.out, Nat.sub_self, Nat.zero_mul]; exact dr.out, by rw [HN.out]; exact Nat.le_refl _⟩;clear d4 ew da dr
   go_wp2_with fail
   go_loopw [13] (fun v wr => Zu L w D obj p l sp G ga gb nd (c7 obj n) wd R (m + 1) c N v wr) (fun v _ => a2g v)
   case atStart => exact f5.out
   case round =>
    clear f5;obtain ⟨l2, fu, a4, fuel, a2, s2, rfl, eo, ev, bs, bn, c6, av, bz, ee, ch, hn2⟩ := hrel;have cz := zH bs; have ae := zH bn; have an := zH c6; have d2 := zH av; have e8 := zH bz; have a5 := zH ee; have c9 := zH ch; have bu := zH eo; have cn := zH ev; have bg := zH hn2;obtain ⟨M, hM⟩ : ∃ M, l2.length = M := ⟨_, rfl⟩;have a7 := zH hM;rw [hM] at c9 bu cn bg ⊢;clear bs bn c6 av bz ee ch eo ev hn2 hM;by_cases hM0 : 0 < M
    ·have fv : (0 : Int) < (M : Int) := by omega
     obtain ⟨x, hx⟩ : ∃ x, l2[0]? = some x := ⟨_, List.getElem?_eq_getElem (by have := a7.out; omega)⟩;have eu := zH hx;have cv : Hid (Lf.OK x) := zH (an.out x (List.mem_of_getElem? hx));have em : l2.getD 0 dl = x := (by rw [List.getD_eq_getElem?_getD, hx]; rfl);have f7 := zH em;have ek : l2 ≠ [] := fun e => by rw [e] at hx; cases hx
     have ey := zH ek;have d0 := zH (d2.out wr a5.out.b.src);obtain ⟨g, o', rfl, hg⟩ := d0.out.form (by have := a7.out; omega);obtain ⟨hn, bm⟩ : ∃ h, d7 wd l2 = h := ⟨_, rfl⟩;have f4 := zH bm;have bd : Hid (1 ≤ hn ∧ hn ≤ M) := zH ⟨by rw [← bm]; exact N2 (by have := a7.out; omega), by rw [← bm, ← a7.out]; exact E1 _ _⟩;have du := T2 l2 an.out (some ⟨g, o', none⟩) a4 (by rw [a7.out]; exact bu.out) (by have := bg.out; have := HL.out; rw [a7.out]; omega) (by have := a7.out; omega) wd di.out.1 di.out.2 wr d0.out;rw [a7.out, bm] at du;have es := zH du;clear hx em ek hg bm du
     go_wp2_with fail
     refine (vp n (by have := ct.out; omega) wr).mono ?_;rintro e W5 ⟨rfl, rfl⟩;rw [eh.out]
     go_wp2_with fail
     refine es.out.mono ?_;rintro e X5 ⟨rfl, dd⟩;have c4 := zH (a5.out.below dd);have cm := zH (d0.out.grown dd);obtain ⟨fb, fq, aw, bx⟩ := I5 (some ⟨g, o', none⟩) M a4 hn bd.out.2 bu.out;have db := zH aw; have dn := zH bx;clear dd a5 d0 es aw bx
     go_upto_region 13 with fail
     obtain ⟨xo, aq⟩ : ∃ n, x.1 = n := ⟨_, rfl⟩;have c3 := zH aq;have bi : Hid (xo < 4294967296) := zH (by rw [← aq]; exact cv.out.1);have dm : Hid (0 < hn ∧ hn ≤ a4) := zH ⟨by have := bd.out; omega, by have := bd.out; have := bu.out; omega⟩;clear aq;refine gS (.take 0 (.take 1 (.take 2 (.take 3 (.take 4 (.take 5 (.step 6 (.take 7 (.take 8 (.take 9 (.nil))))))))))) (fun X => SrcF X (some ⟨g, o', none⟩) l2 ∧ True) (⟨cm.out.drew, trivial⟩) ?_;refine gT (.slice (some ⟨g, o', none⟩) hn a4) ?_;refine gU (.pointer (some ⟨g, o' + 0 * 42, none⟩)) rfl (fun X hX => zf (k := 0) rfl rfl rfl dm.out) ?_;refine gT (.pointer (some ⟨g, o' + 0 * 42, none⟩)) ?_;refine gU (.int .u32 (xo : Int)) rfl (fun X hX => (az Tryz.underlying24 rfl rfl (qy (hX.1.at eu.out))).trans (by rw [c3.out])) ?_;refine gT (.int .u8 (lv : Int)) ?_;refine gT (.int .u8 (n : Int)) ?_;refine b8 _ rfl (by rfl) 97 #[.int .u8 (n : Int)] (fun X => by go_simp) (fun u X => u = .int .u32 (wd : Int) ∧ X = X5.drew) ((vp n (by have := ct.out; omega) X5.drew).mono fun e X ⟨e1, e2⟩ => ⟨_, e1, by rw [e2]; exact ⟨cm.out.drew, trivial⟩, by rw [eh.out], e2⟩) ?_;rintro u X6 fp ⟨rfl, rfl⟩;refine ⟨fun X => SrcF X (some ⟨g, o', none⟩) l2 ∧ True, fun _ h => h, fp, ?_⟩; try simp only [pS]
     refine gU (.int .u32 ((xo / wd : Nat) : Int)) rfl (fun X hX => ui di.out.1 bi.out rfl rfl rfl) ?_;refine gU (.int .u32 ((xo / wd % 8 : Nat) : Int)) rfl (fun X hX => Y7 rfl rfl rfl) ?_;refine gT (.int .u32 ((xo / wd % 8 : Nat) : Int)) ?_;refine au ?_;have ag := zH (c4.out.below (Below.refl _ _).drew);have ex := zH cm.out.drew;clear c4 cm;obtain ⟨i, hi⟩ : ∃ i, xo / wd % 8 = i := ⟨_, rfl⟩;have HI : Hid (i < 8 ∧ (l2.getD 0 dl).1 / wd % 8 = i) := zH ⟨by omega, by rw [f7.out, c3.out]; exact hi⟩;rw [hi];clear hi;obtain ⟨q, hq⟩ := ai.out.get HI.out.1;have HQ := zH hq;have ec := zH (ai.out.at hq);have dz : Hid (nd.getD ((l2.getD 0 dl).1 / wd % 8) zeroP = q) := zH (by rw [HI.out.2, List.getD_eq_getElem?_getD, hq]; rfl);clear hq;obtain ⟨-, -, -, -, ⟨L6, v6, e1, e2, e3, e4, e5, e6⟩⟩ := ag.out
     have cl := fun (X : World) (hX : Below X5.drew.heap.size X5.drew X) => IH (obj := obj) q ec.out d8.out (l2.take hn) (fun y hy => an.out y (List.mem_of_mem_take hy)) (some ⟨g, o', none⟩) a4 (by rw [List.length_take, a7.out]; have := dm.out; omega) (by rw [List.length_take, a7.out]; have := HL.out; have := bg.out; omega) ((ex.out.take hn).grown hX) (fun a ha => by
      obtain ⟨a0, ea, eb⟩ := e8.out a ha;rw [eb]
      exact ⟨Nat.lt_of_lt_of_le (e4 a0 ea).1 hX.size, (e4 a0 ea).2.1⟩) (e1.below hX) c9.out (by
      rw [er.out];have := HM.out;have h2 := bg.out;have h3 := HL.out;have : (N - M) * c + c ≤ 64 * c := (by rw [← Nat.succ_mul]; exact Nat.mul_le_mul (by omega) (Nat.le_refl _))
      omega)
     rw [List.length_take, a7.out, Nat.min_eq_left bd.out.2] at cl;obtain ⟨a3, df⟩ : ∃ x : Ww, c7 obj n s2 q (l2.take hn) = x := ⟨_, rfl⟩;rw [df] at cl;have cp : Hid (c7 obj n s2 (nd.getD ((l2.getD 0 dl).1 / wd % 8) zeroP) (l2.take (d7 wd l2)) = a3) := zH (by rw [dz.out, f4.out]; exact df)
     have bk : ∀ X, Below X5.drew.heap.size X5.drew X → ∀ Y, ShPost 5 L6 X D a3.s Y → WiS L w D obj p l sp G ga gb nd a2 a3.s Y := fun X hX Y hY =>
      (ag.out.below hX).moved (e2.trans (Mv.of_below hX e1.lt)) e3 (fun a ha => ⟨Nat.lt_of_lt_of_le (e4 a ha).1 hX.size, (e4 a ha).2⟩) ⟨e5, e6⟩ hY
     have ce : Hid (∀ Y, Lim (m + 1 + (N - M) * c + cW n) Y → Lim (m + 1 + (N - (M - hn)) * c) Y) := zH (fun Y hY => hY.mono (by
      rw [er.out];have h1 := bd.out;have h2 := bg.out;have : (N - M) * c + c ≤ (N - (M - hn)) * c := (by rw [← Nat.succ_mul]; exact Nat.mul_le_mul (by omega) (Nat.le_refl _))
      omega) (by
      have := HM.out;have h3 := HL.out;have : (N - (M - hn)) * c ≤ 64 * c := Nat.mul_le_mul (by omega) (Nat.le_refl _)
      omega))
     clear e1 e2 e3 e4 e5 e6 df
     go_upto_region 14 with fail
     have bf : Blk X5.drew.drew G (bv D obj) 145 ∧ Blk X5.drew.drew ga (ah nd) 170 := ⟨ag.out.b.mb.drew, ag.out.wa.drew⟩;refine gS (.take 0 (.take 1 (.take 2 (.take 3 (.take 4 (.take 5 (.take 6 (.take 7 (.step 8 (.take 9 (.take 10 (.take 11 (.take 12 (.step 13 (.take 14 (.nil)))))))))))))))) (fun X => Blk X G (bv D obj) 145 ∧ Blk X ga (ah nd) 170) (bf) ?_;refine gT (.int .u32 (i : Int)) ?_;refine gU (.agg (bv D obj).toArray) rfl (fun X hX => ym hX.1 rfl rfl) ?_;refine gT (.int .u32 (i : Int)) ?_;refine gU (.pointer (some ⟨ga, i * 41, none⟩)) rfl (fun X hX => K4 HI.out.1 rfl rfl rfl) ?_;refine gU (.agg (a8 q).toArray) rfl (fun X hX => a02 ai.out hX.2 HQ.out (Nat.mul_comm i 41) rfl rfl) ?_;refine gT (.int .u8 (lv : Int)) ?_;refine gT (.int .u8 (n : Int)) ?_;refine gT (.slice (some ⟨g, o', none⟩) hn a4) ?_
     refine b8 _ rfl (by rfl) 73 #[.agg (bv D obj).toArray, .agg (a8 q).toArray, .int .u8 (n : Int), .slice (some ⟨g, o', none⟩) hn a4] (fun X => by go_simp) (fun u X => u = .tuple #[.agg (a8 a3.p).toArray, .int .i64 (a3.e : Int)] ∧ WiS L w D obj p l sp G ga gb nd a2 a3.s X ∧ Lim (m + 1 + (N - M) * c + cW n) a3.s ∧ a3.p.OK) ((cl X5.drew.drew (Below.refl _ _).drew).mono fun e X ⟨e1, e2, e3, e4⟩ => by
      have b2 := bk X5.drew.drew (Below.refl _ _).drew X e2
      exact ⟨_, e1, ⟨b2.b.mb, b2.wa⟩, rfl, b2, e3, e4⟩) ?_
     rintro u X7 fa ⟨rfl, b6, c8, ad⟩;refine ⟨fun X => Blk X G (bv D obj) 145 ∧ Blk X ga (ah nd) 170, fun _ h => h, fa, ?_⟩; try simp only [pS]
     have ci := b6.put ae.out HI.out.1 ad;have aj : X7.there gb (i * 41) (a8 a3.p).toArray.size := b6.nw.there _ _ (by rw [List.size_toArray, aa ad, ae.out.cells]; have := HI.out.1; omega);refine gT (.tuple #[.agg (a8 a3.p).toArray, .int .i64 (a3.e : Int)]) ?_;refine gT (.agg (a8 a3.p).toArray) ?_;refine gT (.int .i64 (a3.e : Int)) ?_;refine gU (.pointer (some ⟨gb, i * 41, none⟩)) rfl (fun X hX => K4 HI.out.1 rfl rfl rfl) ?_;refine Xc _ rfl (by rfl) 28 (.tmp 72) (.tmp 70) rfl gb (i * 41) (a8 a3.p).toArray rfl rfl aj (bh ad) (bb a3.p) (fun X => Blk X G (bv D obj) 145 ∧ Blk X ga (ah nd) 170) (fun _ h => h) ⟨ci.b.mb, ci.wa⟩ ?_; try simp only [pS]
     refine gT (.int .i64 (a3.e : Int)) ?_;refine au ?_;generalize X7.setCells gb (i * 41) (a8 a3.p) = X8 at ci ⊢;have dc := zH ci;have ca := zH (ce.out _ c8);have fj := zH (ae.out.set i ad);have f9 := zH ad;clear ci c8 ad b6 cl bk ag ex ce aj bf;obtain ⟨f1, ds⟩ : ∃ f1, fuel = f1 + 1 := ⟨fuel - 1, by have := cn.out; omega⟩;have br : Hid (goW (c7 obj n) wd nd (f1 + 1) s2 a2 l2 = R) := zH (by rw [← ds]; exact cz.out);have fg : Hid (M ≤ f1 + 1) := zH (by rw [← ds]; exact cn.out);clear ds cz cn HQ ec dz eu cv c3 bi dm;by_cases ab : a3.e = 0
     ·have ao : (a3.e : Int) = 0 := by omega
      have b1 := zw (f := c7 obj n) (wide := wd) (was := nd) (fuel := f1) (s := s2) (now := a2) ey.out (by rw [cp.out]; exact ab);rw [cp.out, HI.out.2, f4.out] at b1;have dy : Hid (goW (c7 obj n) wd nd f1 a3.s (a2.set i a3.p) (l2.drop hn) = R) := zH (b1.symm.trans br.out);have bw : Hid ((l2.drop hn).length = M - hn) := zH (by rw [List.length_drop, a7.out]);rw [ao];clear ab ao b1 hM0
      go_wp2_with fail
      go_roundw
      case rel =>
       refine ⟨l2.drop hn, fb, a4 - hn, f1, a2.set i a3.p, a3.s, by rw [bw.out], by rw [bw.out]; have := bu.out; omega, by rw [bw.out]; have := fg.out; have := bd.out; omega, dy.out, fj.out, fun y hy => an.out y (List.mem_of_mem_drop hy), fun X hX => db.out X l2 a7.out (d2.out X hX), fun a ha => ?_, dc.out, by rw [bw.out]; exact ca.out, by rw [bw.out]; have := bg.out; omega⟩;obtain ⟨a0, e1, e2⟩ := dn.out a ha;obtain ⟨a1, e3, e4⟩ := e8.out a0 e1;exact ⟨a1, e3, e2.trans e4⟩
      case measure => simp [a2g]; have := bd.out; omega
     ·have ao : ¬ (a3.e : Int) = 0 := by omega
      obtain ⟨ge, gs⟩ := Kk (f := c7 obj n) (wide := wd) (was := nd) (fuel := f1) (s := s2) (now := a2) ey.out (by rw [cp.out]; exact ab);rw [cp.out, br.out] at ge gs;have el : r = ⟨zeroP, a3.e, a3.s⟩ := (by rw [dq.out]; unfold uh; rw [ge, gs, if_pos ab]);have af := zH (dc.out.b.ends zeroP)
      have HE : Hid (Post (.returned (.tuple #[.agg (a8 zeroP).toArray, .int .i64 (a3.e : Int)])) (X8.setRow (G + 1 + 1) (a8 zeroP).toArray)) := zH (by
       have h1 := HP.out (X8.setRow (G + 1 + 1) (a8 zeroP).toArray);rw [el] at h1
       exact h1 af.out.1 (ca.out.mono (by
        have := HM.out;have h3 := HL.out;have : (N - (M - hn)) * c ≤ 64 * c := Nat.mul_le_mul (by omega) (Nat.le_refl _)
        omega) HM.out) ak)
      have bc := zH dc.out.b.res;clear ab ge gs el hM0 HP
      go_wp2_with (first | (refine a9 rfl (bj rfl) ?_) | (refine wpList_store_row rfl 28 (.tmp 8) (.tmp 75) rfl (G + 1 + 1) (a8 zeroP).toArray rfl rfl 28 _ bc.out cg.out rfl (bb zeroP) ?_) | fail)
      refine bodyPost_ret (b9 Tryz.results73 _ _ (G + 1 + 1) 28 _ rfl af.out.2 (bo ak)) rfl ?_;exact HE.out
    ·obtain rfl : M = 0 := by omega
     obtain rfl : l2 = [] := List.eq_nil_of_length_eq_zero a7.out;have bs := cz.out;rw [yg] at bs;obtain rfl := bs;obtain ⟨x0, hx0⟩ : ∃ x, l[0]? = some x := ⟨_, List.getElem?_eq_getElem (by have := HN.out; omega)⟩;have fd := zH hx0;have c5 : l.getD 0 dl = x0 := (by rw [List.getD_eq_getElem?_getD, hx0]; rfl);have cv : Hid (Lf.OK x0) := zH (ep.out x0 (List.mem_of_getElem? hx0));obtain ⟨g0, o0, bt, -⟩ := a5.out.b.src.form (by have := HN.out; omega);have am := zH bt;obtain ⟨xo, aq⟩ : ∃ n, x0.1 = n := ⟨_, rfl⟩;have c3 := zH aq;have bi : Hid (xo < 4294967296) := zH (by rw [← aq]; exact cv.out.1);obtain ⟨wl, cs⟩ : ∃ wl, 8 ^ lv = wl := ⟨_, rfl⟩;have fr := zH cs;have ba : Hid (lv ≤ 2) := zH (by have := ct.out; have := f6.out; omega);have ft : Hid (0 < wl) := zH (by rw [← cs]; exact Nat.pow_pos (by omega));have ck : Hid (r = if a2 = nd then ⟨p, 0, s2⟩ else ⟨anP (qk s2 p lv nd a2) a2 lv obj (xo / wl), anE (qk s2 p lv nd a2) a2, anS (qk s2 p lv nd a2) a2 lv obj (xo / wl)⟩) := zH (by rw [dq.out, c5, aq, cs]; unfold uh; rw [if_neg (by simp)])
     have cy : Hid (m + 1 + (N - 0) * c + 10 ≤ m + (11 + 64 * c)) := zH (by
      have h3 := HL.out;have : (N - 0) * c ≤ 64 * c := Nat.mul_le_mul (by omega) (Nat.le_refl _)
      omega)
     have fy : ((N : Int) == 0) = false := fm;clear hx0 c5 bt aq cs dq hM0 cz;by_cases heq : a2 = nd
     ·subst heq
      obtain rfl : r = ⟨p, 0, s2⟩ := by rw [ck.out, if_pos rfl]
      have af := zH (a5.out.b.ends p);have HE := zH (HP.out _ af.out.1 (c9.out.mono (by have := cy.out; omega) HM.out) al.out);have bc := zH a5.out.b.res;clear ck HP
      go_wp2_with (first | (refine a9 rfl (gt ae.out a5.out.nw rfl rfl) ?_) | (refine a9 rfl (gt ae.out a5.out.wa rfl rfl) ?_) | (refine a9 rfl ((Hv ae.out ae.out rfl rfl rfl).trans (by rw [decide_eq_true rfl])) ?_) | (refine a9 rfl (ax al.out a5.out.b.p rfl rfl) ?_) | (refine wpList_store_row rfl 28 (.tmp 8) (.tmp 80) rfl (G + 1 + 1) (a8 p).toArray rfl rfl 28 _ bc.out en.out ei.out (bb p) ?_) | fail)
      refine bodyPost_ret (b9 Tryz.results73 _ _ (G + 1 + 1) 28 _ rfl af.out.2 (bo al.out)) rfl ?_;exact HE.out
     ·have f8 : Hid (decide (a2 = nd) = false) := zH (decide_eq_false heq)
      obtain ⟨s3, dj⟩ : ∃ s3, qk s2 p lv nd a2 = s3 := ⟨_, rfl⟩;have d5 : Hid (r = ⟨anP s3 a2 lv obj (xo / wl), anE s3 a2, anS s3 a2 lv obj (xo / wl)⟩) := zH (by rw [ck.out, if_neg heq, dj]);obtain ⟨-, -, -, -, ⟨L6, v6, e1, e2, e3, e4, e5, e6⟩⟩ := a5.out;have de := Oz obj p al.out lv nd a2 ai.out ae.out e1 c9.out (by have := cy.out; have := HM.out; omega);rw [dj] at de;have ed := zH de;have c2 : Hid (∀ Y, ShPost 5 L6 wr D s3 Y → WiS L w D obj p l sp G ga gb nd a2 s3 Y) := zH (fun Y hY => a5.out.moved e2 e3 e4 ⟨e5, e6⟩ hY);clear e1 e2 e3 e4 e5 e6 de heq ck dj
      go_wp2_with (first | (refine a9 rfl (gt ae.out a5.out.nw rfl rfl) ?_) | (refine a9 rfl (gt ai.out a5.out.wa rfl rfl) ?_) | (refine a9 rfl ((Hv ae.out ai.out rfl rfl rfl).trans (by rw [f8.out])) ?_) | (refine a9 rfl (ax al.out a5.out.b.p rfl rfl) ?_) | (refine a9 rfl (ym a5.out.b.mb rfl rfl) ?_) | fail)
      refine ed.out.mono ?_;rintro e X9 ⟨rfl, f0, e7⟩;have b0 := zH (c2.out X9 f0);have fo := zH e7;clear f0 e7 ed c2 a5 c9;obtain ⟨-, -, -, -, ⟨L9, v9, e1, e2, e3, e4, e5, e6⟩⟩ := b0.out;have d1 := I0 (w := X9.drew) obj a2 ae.out lv (xo / wl) (by have := ba.out; omega) d8.out (by have := Nat.div_le_self xo wl; have := bi.out; omega) e1.drew fo.out (by have := cy.out; have := HM.out; omega)
      have bk : ∀ Y, ShPost 5 L9 X9.drew D (anS s3 a2 lv obj (xo / wl)) Y → WbS L w D obj p l sp G (anS s3 a2 lv obj (xo / wl)) Y ∧ Blk Y gb (ah a2) 170 := fun Y hY => by
       have hh := (b0.out.below (Below.refl _ _).drew).moved (e2.trans (Mv.of_below (Below.refl _ _).drew e1.lt)) e3 (fun a ha => ⟨Nat.lt_of_lt_of_le (e4 a ha).1 (Below.refl X9.heap.size X9).drew.size, (e4 a ha).2⟩) ⟨e5, e6⟩ hY;exact ⟨hh.b, hh.nw⟩
      obtain ⟨rp, d6⟩ : ∃ x, anP s3 a2 lv obj (xo / wl) = x := ⟨_, rfl⟩;obtain ⟨dt, c1⟩ : ∃ x, anE s3 a2 = x := ⟨_, rfl⟩;obtain ⟨s4, dp⟩ : ∃ x, anS s3 a2 lv obj (xo / wl) = x := ⟨_, rfl⟩;unfold Du at d1;rw [d6, c1, dp] at d1 d5;rw [dp] at bk;obtain rfl := d5.out
      have cu : Hid rp.OK := zH (by
       rw [← d6];unfold anP;split
       ·exact ak
       ·split
        ·exact ak
        ·exact As (su (by have := ba.out; omega) d8.out (by have := Nat.div_le_self xo wl; have := bi.out; omega)) _)
      have d2 := zH (bh cu.out);have fk : Hid ((a8 zeroP).length = (a8 rp).toArray.size) := zH (by rw [List.size_toArray, aa cu.out, aa ak]);have bf : Blk X9.drew G (bv D obj) 145 ∧ Blk X9.drew gb (ah a2) 170 ∧ SrcF X9.drew (some ⟨g0, o0, none⟩) l := ⟨b0.out.b.mb.drew, b0.out.nw.drew, by have := b0.out.b.src.drew; rw [am.out] at this; exact this⟩;have fl : Hid (0 < N ∧ N ≤ cap) := zH ⟨by omega, HC.out⟩;rw [am.out];clear e1 e2 e3 e4 e5 e6 d6 c1 dp d5
      go_upto_region 20 with fail
      refine gS (.take 0 (.take 1 (.take 2 (.take 3 (.take 4 (.take 5 (.take 6 (.take 7 (.step 8 (.take 9 (.step 10 (.take 11 (.take 12 (.step 13 (.take 14 (.nil)))))))))))))))) (fun X => Blk X G (bv D obj) 145 ∧ Blk X gb (ah a2) 170 ∧ SrcF X (some ⟨g0, o0, none⟩) l) (bf) ?_;refine gU (.agg (bv D obj).toArray) rfl (fun X hX => ym hX.1 rfl rfl) ?_;refine gU (.agg (ah a2).toArray) rfl (fun X hX => gt ae.out hX.2.1 rfl rfl) ?_;refine gT (.int .u8 (lv : Int)) ?_;refine gT (.slice (some ⟨g0, o0, none⟩) N cap) ?_;refine gU (.pointer (some ⟨g0, o0 + 0 * 42, none⟩)) rfl (fun X hX => zf (k := 0) rfl rfl rfl fl.out) ?_;refine gT (.pointer (some ⟨g0, o0 + 0 * 42, none⟩)) ?_;refine gU (.int .u32 (xo : Int)) rfl (fun X hX => (az Tryz.underlying24 rfl rfl (qy (hX.2.2.at fd.out))).trans (by rw [c3.out])) ?_;refine gT (.int .u8 (lv : Int)) ?_;refine b8 _ rfl (by rfl) 97 #[.int .u8 (lv : Int)] (fun X => by go_simp) (fun u X => u = .int .u32 (wl : Int) ∧ X = X9.drew) ((vp lv ba.out X9.drew).mono fun e X ⟨e1, e2⟩ => ⟨_, e1, by rw [e2]; exact bf, by rw [fr.out], e2⟩) ?_;rintro u fx dw ⟨rfl, rfl⟩;refine ⟨fun X => Blk X G (bv D obj) 145 ∧ Blk X gb (ah a2) 170 ∧ SrcF X (some ⟨g0, o0, none⟩) l, fun _ h => h, dw, ?_⟩; try simp only [pS]
      refine gU (.int .u32 ((xo / wl : Nat) : Int)) rfl (fun X hX => ui ft.out bi.out rfl rfl rfl) ?_
      refine b8 _ rfl (by rfl) 99 #[.agg (bv D obj).toArray, .agg (ah a2).toArray, .int .u8 (lv : Int), .int .u32 ((xo / wl : Nat) : Int)] (fun X => by go_simp) (fun u X => u = .tuple #[.agg (a8 rp).toArray, .int .i64 (dt : Int)] ∧ WbS L w D obj p l sp G s4 X ∧ Lim (m + 1 + (N - 0) * c + 9 + 1) s4) (d1.mono fun e X ⟨e1, e2, e3⟩ => by
       obtain ⟨b2, fs⟩ := bk X e2
       exact ⟨_, e1, ⟨b2.mb, fs, by have := b2.src; rw [am.out] at this; exact this⟩, rfl, b2, e3⟩) ?_
      rintro u fw ap ⟨rfl, bq, ch⟩;refine ⟨fun X => Blk X G (bv D obj) 145 ∧ Blk X gb (ah a2) 170 ∧ SrcF X (some ⟨g0, o0, none⟩) l, fun _ h => h, ap, ?_⟩; try simp only [pS]
      have dx := bq.ends rp;have fn := bq.lo;have fi := bq.mb.lt;refine gT (.agg (a8 rp).toArray) ?_;refine gT (.int .i64 (dt : Int)) ?_;refine kp _ rfl (by rfl) 28 (.tmp 8) (.tmp 98) rfl (G + 1 + 1) (a8 rp).toArray rfl rfl bq.res d2.out fk.out (bb rp) (fun X => Blk X G (bv D obj) 145 ∧ Blk X gb (ah a2) 170 ∧ SrcF X (some ⟨g0, o0, none⟩) l) (fun _ h => h) ⟨ap.1.rowOther (by omega) _, ap.2.1.rowOther (by have := b0.out.ne; omega) _, ap.2.2.chg (tc _ _ _) (fun a ha e => by have h5 := cf.out a (by rw [am.out]; exact ha); have h6 := fh.out; have e : a.block = G + 1 + 1 := e; omega)⟩ ?_; try simp only [pS]
      refine gT (.int .i64 (dt : Int)) ?_;refine au ?_;have dg := zH dx;have HE := zH (HP.out _ dx.1 (ch.mono (by have := cy.out; omega) HM.out) cu.out);clear dx ch bq d1 bk bf HP b0
      go_wp2_with fail
      refine bodyPost_ret (b9 Tryz.results73 _ _ (G + 1 + 1) 28 _ rfl dg.out.2 (bo cu.out)) rfl ?_;exact HE.out
  ·have ao : ¬ (re : Int) = 0 := by omega
   have ej : r = ⟨zeroP, re, s1⟩ := (by rw [co.out, if_pos ab]);have af := zH (bp.out.ends zeroP)
   have HE : Hid (Post (.returned (.tuple #[.agg (a8 zeroP).toArray, .int .i64 (re : Int)])) (X3.setRow (G + 1 + 1) (a8 zeroP).toArray)) := zH (by
    have h1 := HP.out (X3.setRow (G + 1 + 1) (a8 zeroP).toArray);rw [ej] at h1
    exact h1 af.out.1 (dr.out.mono (by omega) HM.out) ak)
   clear ab ej HP co
   go_wp2_with (first | (refine a9 rfl (bj rfl) ?_) | (refine wpList_store_row rfl 28 (.tmp 8) (.tmp 35) rfl (G + 1 + 1) (a8 zeroP).toArray rfl rfl 28 _ cj.out cg.out rfl (bb zeroP) ?_) | fail)
   refine bodyPost_ret (b9 Tryz.results73 _ _ (G + 1 + 1) 28 _ rfl af.out.2 (bo ak)) rfl ?_;exact HE.out
theorem G9 : ∀ n, n ≤ 2 → Km n
 | 0, _ => a28
 | n + 1, h => Qg n (by omega) (G9 n (by omega))
def vi (s : Sh) (p : Pt) (obj : Nat) (l : List Lf) : Ww := if mn p ≠ 0 then ⟨zeroP, mn p, s⟩ else if qg l = false then ⟨zeroP, 1, s⟩ else c7 obj 2 s p l
def yn (L : Nat → Nat) (w : World) (D : Nat) (r : Ww) (m : Nat) (e : Ending) (w' : World) : Prop :=
 e = .returned (.tuple #[.agg (a8 r.p).toArray, .int .i64 (r.e : Int)]) ∧ ShPost 5 L w D r.s w' ∧ Lim m r.s ∧ r.p.OK
structure SeS (L : Nat → Nat) (w : World) (D : Nat) (p : Pt) (l : List Lf) (sp : Option Addr) (G : Nat) (s : Sh) (X : World) : Prop where
 sh : ∃ L1 v1, ShAt X L1 D s v1 ∧ Mv 5 L w L1 X ∧ (L1 G = 0 ∧ L1 (G + 1) = 0) ∧ ∀ a, sp = some a → a.block < X.heap.size ∧ (L1 a.block = 0 ∨ L1 a.block = 10)
 p : Blk X G (a8 p) 28
 res : Blk X (G + 1) (a8 zeroP) 28
 src : SrcF X sp l
 lo : w.heap.size ≤ G
theorem SeS.below (h : SeS L w D p l sp G s X) (hb : Below X.heap.size X Y) : SeS L w D p l sp G s Y := by
 obtain ⟨⟨L1, v1, h1, h2, h3, h4⟩, k2, k3, k4, k5⟩ := h;exact ⟨⟨L1, v1, h1.below hb, h2.trans (Mv.of_below hb h1.lt), h3, fun a ha => ⟨Nat.lt_of_lt_of_le (h4 a ha).1 hb.size, (h4 a ha).2⟩⟩, k2.below hb k2.lt, k3.below hb k3.lt, k4.grown hb, k5⟩
theorem SeS.moved {L1 : Nat → Nat} {s' : Sh} (h : SeS L w D p l sp G s X) (hm : Mv 5 L w L1 X) (hl : L1 G = 0 ∧ L1 (G + 1) = 0) (ha : ∀ a, sp = some a → a.block < X.heap.size ∧ (L1 a.block = 0 ∨ L1 a.block = 10)) (hp : ShPost 5 L1 X D s' Y) : SeS L w D p l sp G s' Y := by
 obtain ⟨L2, v2, k1, k2⟩ := hp;exact ⟨⟨L2, v2, k1, hm.trans k2, ⟨(k2.old _ h.p.lt).trans hl.1, (k2.old _ h.res.lt).trans hl.2⟩, fun a ha' => ⟨Nat.lt_of_lt_of_le (ha a ha').1 k2.size, by rw [k2.old _ (ha a ha').1]; exact (ha a ha').2⟩⟩, k2.blk h.p hl.1, k2.blk h.res hl.2, h.src.chg k2.chg (fun a ha' hf => by have := (ha a ha').2; unfold lj at hf; omega), h.lo⟩
theorem SeS.ends (h : SeS L w D p l sp G s X) (q : Pt) : ShPost 5 L w D s (X.setRow (G + 1) (a8 q).toArray) ∧ Blk (X.setRow (G + 1) (a8 q).toArray) (G + 1) (a8 q) 28 := by
 obtain ⟨⟨L1, v1, h1, h2, h3, h4⟩, k2, k3, k4, k5⟩ := h;have hc := tc X (G + 1) (a8 q).toArray;have hz : (X.setRow (G + 1) (a8 q).toArray).heap.size = X.heap.size := by simp
 refine ⟨⟨L1, v1, h1.out hc (fun g e _ => .inl (by rw [e]; exact h3.2)) (fun _ _ => .inl rfl) (fun g hg => by rw [hz]; exact h1.lt g hg), ?_⟩, k3.row _⟩;exact ⟨h2.chg.trans hc (fun g e => by right; have : g = G + 1 := e; omega), h2.old, h2.new⟩
set_option maxRecDepth 100000 in
set_option maxHeartbeats 8000000 in
theorem Om {obj : Nat} {v : Sv} {m : Nat} (p : Pt) (hp : p.OK) (hobj : obj < 65536) (l : List Lf) (hok : ∀ x ∈ l, Lf.OK x) (sp : Option Addr) (cap : Nat) (hc : l.length ≤ cap) (hl : l.length ≤ 64) (hS : SrcF w sp l) (hsp : ∀ a, sp = some a → a.block < w.heap.size ∧ (L a.block = 0 ∨ L a.block = 10)) (h : ShAt w L D s v) (hk : Lim m s) (hm : m + 715 < 100000000) :
  Calls Tryz.prog 41 #[shI D, .agg (a8 p).toArray, .int .u16 (obj : Int), .slice sp l.length cap] w (yn L w D (vi s p obj l) (m + 715)) := by
 have a6 := zH hp
 have HX : Hid (∀ z, z = (a8 zeroP).toArray → SeS L w D p l sp w.heap.size s ((w.alloc (.cells (a8 p).toArray 28)).alloc (.cells z 28))) := zH (fun z hz => by
  subst hz;have ab : Below w.heap.size w ((w.alloc (.cells (a8 p).toArray 28)).alloc (.cells (a8 zeroP).toArray 28)) := ((Below.refl _ _).alloc (Nat.le_refl _) _).alloc (by simp) _
  exact ⟨⟨L, v, h.below ab, Mv.of_below ab h.lt, ⟨h.not (Nat.le_refl _), h.not (by omega)⟩, fun a ha => ⟨Nat.lt_of_lt_of_le (hsp a ha).1 ab.size, (hsp a ha).2⟩⟩, (Blk.new _ _ _).alloc _, Blk.new' _ _ _ _ _ (by simp) rfl, hS.grown ab, Nat.le_refl _⟩)
 have am := zH hok; have b0 := zH hobj; have HK := zH hk; have HM := zH hm; have HC := zH hc; have HL := zH hl;obtain ⟨r, hr⟩ : ∃ r, vi s p obj l = r := ⟨_, rfl⟩;have HR : Hid (r = if mn p ≠ 0 then ⟨zeroP, mn p, s⟩ else if qg l = false then ⟨zeroP, 1, s⟩ else c7 obj 2 s p l) := zH hr.symm;rw [hr];generalize hPost : yn L w D r (m + 715) = Post;have HP : Hid (∀ w', ShPost 5 L w D r.s w' → Lim (m + 715) r.s → r.p.OK → Post (.returned (.tuple #[.agg (a8 r.p).toArray, .int .i64 (r.e : Int)])) w') := zH fun w' h2 h3 h4 => by rw [← hPost]; exact ⟨rfl, h2, h3, h4⟩
 have a4 := zH (bh ak);obtain ⟨N, hN⟩ : ∃ N, l.length = N := ⟨_, rfl⟩;have HN := zH hN;rw [hN];clear hp hobj hok hc hl hS hsp h hk hm hr hPost hN;unfold shI;go_enter Tryz.func41, Tryz.ntmps41
 go_upto_region 1 with fail
 refine (fun (k : ∀ W, SeS L w D p l sp w.heap.size s W → Code.wp _ _ _ _ W) => k _ (HX.out _ rfl)) ?_;intro W hW;obtain ⟨G, hG⟩ : ∃ g, w.heap.size = g := ⟨_, rfl⟩;rw [hG] at hW ⊢;have ad := zH hW;clear hW HX hG;obtain ⟨⟨L1, v1, h1, -⟩, -⟩ := ad.out;have aw := zH (oj p a6.out D W h1.tab.1);clear h1
 go_wp2_with (first | (refine a9 rfl (ax a6.out ad.out.p rfl rfl) ?_) | fail)
 refine aw.out.mono ?_;rintro e W2 ⟨rfl, ao⟩;have a2 := zH (ad.out.below ao);have an := zH a2.out.res;clear ao ad aw;obtain ⟨re, al⟩ : ∃ re, mn p = re := ⟨_, rfl⟩;rw [al] at HR ⊢;clear al;by_cases h0 : re = 0
 ·subst h0
  obtain ⟨⟨L2, v2, k1, k2, k3, k4⟩, -⟩ := a2.out;have ah := Di l am.out sp cap HC.out (by have := HL.out; omega) W2 a2.out.src k1.tab.1;rw [HN.out] at ah;have ap := zH ah;clear k1 k2 k3 k4 ah;rw [show ((0 : Nat) : Int) = (0 : Int) from rfl]
  go_wp2_with fail
  refine ap.out.mono ?_;rintro e W3 ⟨rfl, aq⟩;have a1 := zH (a2.out.below aq);have a5 := zH a1.out.res;clear aq a2 ap an;cases hso : qg l
  ·obtain rfl : r = ⟨zeroP, 1, s⟩ := by rw [HR.out, if_neg (by simp), if_pos hso]
   have a0 := zH (a1.out.ends zeroP);have HE := zH (HP.out _ a0.out.1 (HK.out.mono (by omega) HM.out) ak);clear HP HR hso
   go_wp2_with (first | (refine a9 rfl (bj rfl) ?_) | (refine wpList_store_row rfl 28 (.tmp 8) (.tmp 21) rfl (G + 1) (a8 zeroP).toArray rfl rfl 28 _ a5.out a4.out rfl (bb zeroP) ?_) | fail)
   refine bodyPost_ret (b9 Tryz.results41 _ _ (G + 1) 28 _ rfl a0.out.2 (bo ak)) rfl ?_;exact HE.out
  ·obtain rfl : c7 obj 2 s p l = r := by rw [HR.out, if_neg (by simp), if_neg (by rw [hso]; decide)]
   obtain ⟨⟨L3, v3, k1, k2, k3, k4⟩, -⟩ := a1.out;have ai := G9 2 (Nat.le_refl _) p a6.out b0.out l am.out sp cap HC.out HL.out a1.out.src k4 k1 HK.out (by have := HM.out; show m + 715 < _; omega);have av : Hid (∀ s' Y, ShPost 5 L3 W3 D s' Y → SeS L w D p l sp G s' Y) := zH (fun s' Y hY => a1.out.moved k2 k3 k4 hY);obtain ⟨a7, af⟩ : ∃ x, c7 obj 2 s p l = x := ⟨_, rfl⟩;rw [af, HN.out] at ai;rw [af] at HP;have aj := zH ai;clear k1 k2 k3 k4 ai af HR hso
   go_wp2_with (first | (refine a9 rfl (ax a6.out a1.out.p rfl rfl) ?_) | fail)
   refine aj.out.mono ?_;rintro e W4 ⟨rfl, au, ag, a3⟩;have ar := zH (av.out _ W4 au);have b3 := zH ag; have ay := zH a3;have a0 := zH (ar.out.ends a7.p);have HE := zH (HP.out _ a0.out.1 ag a3);have ae := zH ar.out.res;have b1 := zH (bh a3);have az : Hid ((a8 zeroP).toArray.size = (a8 a7.p).toArray.size) := zH (by rw [List.size_toArray, List.size_toArray, aa a3, aa ak]);clear au ag a3 HP av a1 a5 aj
   go_wp2_with (first | (refine wpList_store_row rfl 28 (.tmp 8) (.tmp 28) rfl (G + 1) (a8 a7.p).toArray rfl rfl 28 _ ae.out b1.out az.out (bb a7.p) ?_) | fail)
   refine bodyPost_ret (b9 Tryz.results41 _ _ (G + 1) 28 _ rfl a0.out.2 (bo ay.out)) rfl ?_;exact HE.out
 ·have b2 : ¬ (re : Int) = 0 := by omega
  obtain rfl : r = ⟨zeroP, re, s⟩ := by rw [HR.out, if_pos h0]
  have a0 := zH (a2.out.ends zeroP);have HE := zH (HP.out _ a0.out.1 (HK.out.mono (by omega) HM.out) ak);clear HP HR h0
  go_wp2_with (first | (refine a9 rfl (bj rfl) ?_) | (refine wpList_store_row rfl 28 (.tmp 8) (.tmp 16) rfl (G + 1) (a8 zeroP).toArray rfl rfl 28 _ an.out a4.out rfl (bb zeroP) ?_) | fail)
  refine bodyPost_ret (b9 Tryz.results41 _ _ (G + 1) 28 _ rfl a0.out.2 (bo ak)) rfl ?_;exact HE.out
end Go.Proofs.YtjgjohdeeeoeoaaGreatDoor
