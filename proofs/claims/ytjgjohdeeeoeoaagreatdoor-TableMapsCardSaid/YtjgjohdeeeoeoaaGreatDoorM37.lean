/- A table's Set: what stands while leaves are made anew. -/
import Derived.Test.YtjgjohdeeeoeoaaGreatDoorM36
namespace Go.Proofs.YtjgjohdeeeoeoaaGreatDoor
open Go.RowKit
attribute [local go_sem] Oper.semAt_some
variable {B g k n : Nat} {v : Value}
theorem uo {w : World} {e : Nat} {xs : List Value} (h : w.ownsRow B e k v n xs) (hg : v.ownBlock = some g) : (∃ cs, Blk w g cs e) ∧ B ≤ g := by
 rcases h.2 with ⟨rfl, _⟩ | ⟨a, cap, cur, rfl, hb, ha, _⟩
 ·cases hg
 ·have e1 : a = g := by injection hg
  subst e1;exact ⟨⟨cur.toList, by unfold Blk; simpa using ha⟩, hb⟩
def TsB (w : World) (sp : Option Addr) (M : Nat) (kv lv : Value) (g : Nat) : Prop :=
 g = w.heap.size ∨ g = w.heap.size + 1 ∨ (∃ a, sp = some a ∧ a.block = g) ∨ g = M ∨ kv.ownBlock = some g ∨ lv.ownBlock = some g
structure TsM (w : World) (p : Pt) (l : List Itm) (sp : Option Addr) (M : Nat) (ks : List Nat) (kv : Value) (ls : List Lf) (lv : Value) (X : World) : Prop where
 bp : Blk X w.heap.size (a8 p) 28
 res : Blk X (w.heap.size + 1) (a8 zeroP) 28
 src : SrcT X sp l
 sl : ∀ a, sp = some a → a.block < w.heap.size
 map : ∀ g o, (0 < l.length → sp = some ⟨g, o, none⟩) → ∃ n, n ≤ l.length ∧ MapG TU X M (jl g o l) n
 mo : ∃ es c, X.heap[M]? = some (.map es c)
 ml : w.heap.size ≤ M
 kr : X.ownsRow w.heap.size 24 1 kv ks.length (ks.map UV)
 lr : OwnL X w.heap.size lv ls
 lok : ∀ x ∈ ls, Lf.OK x
section
variable {L : Nat → Nat} {w : World} {D : Nat} {p : Pt} {l : List Itm} {sp : Option Addr} {M : Nat} {ks : List Nat} {kv : Value} {ls : List Lf} {lv : Value} {s : Sh} {X Y : World}
theorem TsM.chg {F : Nat → Prop} (h : TsM w p l sp M ks kv ls lv X) (hc : Chg F X Y) (hn : ∀ g, TsB w sp M kv lv g → ¬ F g) : TsM w p l sp M ks kv ls lv Y := by
 have hM := hn M (.inr (.inr (.inr (.inl rfl))));obtain ⟨es, c, a0⟩ := h.mo;have a1 : M < X.heap.size := (Array.getElem?_eq_some_iff.1 a0).1;refine ⟨h.bp.chg hc (hn _ (.inl rfl)), h.res.chg hc (hn _ (.inr (.inl rfl))), h.src.chg hc (fun a e => hn _ (.inr (.inr (.inl ⟨a, e, rfl⟩)))), h.sl, fun g o e => ?_, ⟨es, c, (hc.block M a1 hM).trans a0⟩, h.ml, bc h.kr hc (fun g e => hn g (.inr (.inr (.inr (.inr (.inl e)))))), bc h.lr hc (fun g e => hn g (.inr (.inr (.inr (.inr (.inr e)))))), h.lok⟩;obtain ⟨n, h1, h2⟩ := h.map g o e;exact ⟨n, h1, h2.kept (hc.block M a1 hM)⟩
theorem TsM.lt (h : TsM w p l sp M ks kv ls lv X) (hg : TsB w sp M kv lv g) : g < X.heap.size := by
 have h1 := h.bp.lt;rcases hg with e | e | ⟨a, e, e2⟩ | e | e | e
 ·omega
 ·rw [e]; exact h.res.lt
 ·have := h.sl a e; omega
 ·obtain ⟨es, c, a0⟩ := h.mo
  rw [e]; exact (Array.getElem?_eq_some_iff.1 a0).1
 ·exact et h.kr e
 ·exact et h.lr e
def TsW (L : Nat → Nat) (w : World) (D : Nat) (p : Pt) (l : List Itm) (sp : Option Addr) (M : Nat) (ks : List Nat) (kv : Value) (ls : List Lf) (lv : Value) (s : Sh) (X : World) : Prop :=
 TsM w p l sp M ks kv ls lv X ∧ ∃ L1 v1, ShAt X L1 D s v1 ∧ Mv 5 L w L1 X ∧ ∀ g, TsB w sp M kv lv g → L1 g = 0 ∨ (L1 g = 10 ∧ g < w.heap.size)
theorem TsW.below (h : TsW L w D p l sp M ks kv ls lv s X) (hb : Below X.heap.size X Y) : TsW L w D p l sp M ks kv ls lv s Y := by
 obtain ⟨h1, L1, v1, h2, h3, h4⟩ := h;exact ⟨h1.chg (F := fun _ => False) (Chg.of_below hb) (fun _ _ h => h), L1, v1, h2.below hb, h3.trans (Mv.of_below hb h2.lt), h4⟩
theorem Mv.lo {L1 : Nat → Nat} (h : Mv 5 L w L1 X) (hl : Lo L) : Lo L1 := fun g => by
 rcases Nat.lt_or_ge g w.heap.size with k | k
 ·rw [h.old g k]; exact hl g
 ·exact h.new g k
theorem TsW.call (h : TsW L w D p l sp M ks kv ls lv s X) : ∃ L1 v1, ShAt X L1 D s v1 ∧ (Lo L → Lo L1) ∧ (∀ g, TsB w sp M kv lv g → L1 g = 0 ∨ (L1 g = 10 ∧ g < w.heap.size)) ∧ ∀ s2 Y, ShPost 5 L1 X D s2 Y → TsW L w D p l sp M ks kv ls lv s2 Y ∧ ∀ g cs t, L1 g = 0 → Blk X g cs t → Blk Y g cs t := by
 obtain ⟨h1, L1, v1, h2, h3, h4⟩ := h;refine ⟨L1, v1, h2, fun hl => h3.lo hl, h4, fun s2 Y ⟨L3, v3, j1, j2⟩ => ⟨⟨h1.chg j2.chg (fun g hg hf => by have := h4 g hg; unfold lj at hf; omega), L3, v3, j1, h3.trans j2, fun g hg => by rw [j2.old g (h1.lt hg)]; exact h4 g hg⟩, fun g cs t hg hB => j2.blk hB hg⟩⟩
theorem TsW.app (h : TsW L w D p l sp M ks kv ls lv s X) (hlen : ls.length < 1000) {x : Lf} (hx : Lf.OK x) {t : TypeId} (hb : Below X.heap.size X Y) (hg : Blk Y g (av x) t) (ty : TypeId) :
  ∃ v' w', (Builtin.append_ #[95, 95] ty #[lv, .slice (some ⟨g, 0, none⟩) 1 1]).run Tryz.prog Y = .ok v' w' ∧ TsW L w D p l sp M ks kv (ls ++ [x]) v' s w' := by
 obtain ⟨h1, L1, v1, h2, h3, h4⟩ := h.below hb;obtain ⟨v', w', hr, ho, a3, hn⟩ := Gm h1.lr (by have := h1.bp.lt; omega) (by omega) hx.2 hg ty;have hc : Chg (fun g => lv.ownBlock = some g) Y w' := (Chg.refl _ Y).grown a3 (fun k e => .inl e)
 have a7 : ∀ g, TsB w sp M kv (.slice none 0 0) g → lv.ownBlock ≠ some g := fun k hk e => by
  obtain ⟨⟨cs, a1⟩, a5⟩ := uo h1.lr e;rcases hk with q | q | ⟨a, q, q2⟩ | q | q | q
  ·subst q; exact absurd (a1.same h1.bp) (by decide)
  ·subst q; exact absurd (a1.same h1.res) (by decide)
  ·have := h1.sl a q; omega
  ·subst q
   obtain ⟨es, c, a4⟩ := h1.mo;unfold Blk at a1;rw [a4] at a1;cases a1
  ·obtain ⟨⟨a8, a2⟩, -⟩ := uo h1.kr q
   exact absurd (a1.same a2) (by decide)
  ·cases q
 have a6 : TsM w p l sp M ks kv [] (.slice none 0 0) Y := ⟨h1.bp, h1.res, h1.src, h1.sl, h1.map, h1.mo, h1.ml, h1.kr, ⟨rfl, .inl ⟨rfl, rfl⟩⟩, fun _ h => by cases h⟩;have a0 := a6.chg hc a7;refine ⟨v', w', hr, ⟨a0.bp, a0.res, a0.src, a0.sl, a0.map, a0.mo, a0.ml, a0.kr, ho, fun y hy => ?_⟩, L1, v1, ?_, ⟨h3.chg.trans hc (fun g e => .inr (uo h1.lr e).2), h3.old, h3.new⟩, fun k hk => ?_⟩
 ·rcases List.mem_append.1 hy with hy | hy
  ·exact h1.lok y hy
  ·simp at hy; subst hy; exact hx
 ·refine h2.out hc (fun g e _ => ?_) (fun _ _ => .inl rfl) (fun g hg => Nat.lt_of_lt_of_le (h2.lt g hg) a3.size)
  have a5 := (uo h1.lr e).2;rcases h4 g (.inr (.inr (.inr (.inr (.inr e))))) with q | q
  ·exact .inl q
  ·omega
 ·rcases hk with q | q | q | q | q | q
  ·exact h4 k (.inl q)
  ·exact h4 k (.inr (.inl q))
  ·exact h4 k (.inr (.inr (.inl q)))
  ·exact h4 k (.inr (.inr (.inr (.inl q))))
  ·exact h4 k (.inr (.inr (.inr (.inr (.inl q)))))
  ·rcases hn with q' | q'
   ·exact h4 k (.inr (.inr (.inr (.inr (.inr (by rw [← q']; exact q))))))
   ·have e := Option.some.inj (q.symm.trans q')
    exact .inl (h2.not (Nat.le_of_eq e.symm))
theorem TsW.ends (h : TsW L w D p l sp M ks kv ls lv s X) (q : Pt) : ShPost 5 L w D s (X.setRow (w.heap.size + 1) (a8 q).toArray) ∧ Blk (X.setRow (w.heap.size + 1) (a8 q).toArray) (w.heap.size + 1) (a8 q) 28 := by
 obtain ⟨h1, L1, v1, h2, h3, h4⟩ := h;have hc := tc X (w.heap.size + 1) (a8 q).toArray;have hz : (X.setRow (w.heap.size + 1) (a8 q).toArray).heap.size = X.heap.size := by simp
 have a0 : L1 (w.heap.size + 1) = 0 := by
  rcases h4 _ (.inr (.inl rfl)) with e | e
  ·exact e
  ·omega
 refine ⟨⟨L1, v1, h2.out hc (fun g e _ => .inl (by rw [e]; exact a0)) (fun _ _ => .inl rfl) (fun g hg => by rw [hz]; exact h2.lt g hg), ?_⟩, h1.res.row _⟩;exact ⟨h3.chg.trans hc (fun g e => by right; have : g = w.heap.size + 1 := e; omega), h3.old, h3.new⟩
end
theorem Td {ρ : Operand → Value} {o : Oper} {x y : Operand} {w : World} {M : Nat} {f : Nat → Option Spt} (h : MapG TU w M f n) (hk : k < 4294967296) (hv : SpV ((f k).getD none) = v) (ho : o.op = .lookup 96 x y false) (hx : ρ x = .map (some M)) (hy : ρ y = .int .u32 (k : Int)) :
  (execOp ρ o).run Tryz.prog w = .ok (.value v) w := by
 subst hv;have hr : (Instr.lookup 96 (.map (some M)) (.int .u32 (k : Int)) false).run Tryz.prog w = .ok (SpV ((f k).getD none)) w := h.look hk;unfold execOp;simp only [ho, hx, hy, Sem.run_bind, hr, Result.andThen_ok, Sem.run_pure]
theorem Pp {X : World} {kv : Value} {ks : List Nat} (h : X.ownsRow B 24 1 kv ks.length (ks.map UV)) (h0 : 0 < ks.length) : ∃ g cap, kv = .slice (some ⟨g, 0, none⟩) ks.length cap ∧ ks.length ≤ cap ∧ ∀ (k off : Nat), ks[k]? = some off → X.cell? ⟨g, k, none⟩ = some (.int .u32 (off : Int)) := by
 rcases h.2 with ⟨_, e⟩ | ⟨g, cap, cur, rfl, _, hg, hc, _, hs, ht⟩
 ·omega
 ·refine ⟨g, cap, rfl, hc, fun k off hk => ?_⟩
  have hb : Blk X g cur.toList 24 := (by unfold Blk; simpa using hg);refine hb.cell ?_;have a0 := (List.getElem?_eq_some_iff.1 hk).1;have e1 : (ks.map UV)[k]? = some (.int .u32 (off : Int)) := (by rw [List.getElem?_map, hk]; rfl);rw [← ht, List.getElem?_take, if_pos (by omega)] at e1;exact e1
theorem Dz {ns : List Ino} {l : List Itm} (h : BOK ns) (hok : ∀ x ∈ l, Itm.OK x) (off : Nat) : BOK (wth ns (cq off l)) := Iq _ h (fun x hx => hok x ((List.mem_filter.1 hx).1))
set_option maxRecDepth 100000 in
set_option maxHeartbeats 16000000 in
theorem Oo {w : World} {L : Nat → Nat} {D : Nat} {s : Sh} {v : Sv} {m : Nat} (p : Pt) (hp : p.OK) (l : List Itm) (hok : ∀ x ∈ l, Itm.OK x) (sp : Option Addr) (cap : Nat) (hc : l.length ≤ cap) (hl : l.length ≤ 40) (hS : SrcT w sp l) (hsp : ∀ a, sp = some a → a.block < w.heap.size ∧ (L a.block = 0 ∨ L a.block = 10)) (h : ShAt w L D s v) (hlo : Lo L) (hk : Lim m s) (hm : m + 3715 < 100000000) (hbk : BlkOK s) :
  Calls Tryz.prog 15 #[shI D, .agg (a8 p).toArray, .slice sp l.length cap] w (yn L w D (tsR s p l) (m + 3715)) := by
 have cj := zH hp; have co := zH hok; have HC := zH hc; have HL := zH hl; have dx := zH hsp; have HK := zH hk; have HM := zH hm; have f8 := zH hbk; have fa := zH hlo; have bl := zH h; have ad := zH hS
 have HX : Hid (∀ z, z = (a8 zeroP).toArray → Blk ((w.alloc (.cells (a8 p).toArray 28)).alloc (.cells z 28)) w.heap.size (a8 p) 28 ∧ Blk ((w.alloc (.cells (a8 p).toArray 28)).alloc (.cells z 28)) (w.heap.size + 1) (a8 zeroP) 28 ∧ Below w.heap.size w ((w.alloc (.cells (a8 p).toArray 28)).alloc (.cells z 28))) := zH (fun z hz => by
  subst hz
  exact ⟨(Blk.new _ _ _).alloc _, Blk.new' _ _ _ _ _ (by simp) rfl, ((Below.refl _ _).alloc (Nat.le_refl _) _).alloc (by simp) _⟩)
 obtain ⟨r, hr⟩ : ∃ r, tsR s p l = r := ⟨_, rfl⟩;have HR : Hid (r = if k7 l = false then ⟨zeroP, 1, s⟩ else if (dz p l (dr l) s []).e ≠ 0 then ⟨zeroP, (dz p l (dr l) s []).e, (dz p l (dr l) s []).s⟩ else vi (dz p l (dr l) s []).s p 0 (dz p l (dr l) s []).l) := zH hr.symm;rw [hr];generalize hPost : yn L w D r (m + 3715) = Post;have HP : Hid (∀ w', ShPost 5 L w D r.s w' → Lim (m + 3715) r.s → r.p.OK → Post (.returned (.tuple #[.agg (a8 r.p).toArray, .int .i64 (r.e : Int)])) w') := zH fun w' h2 h3 h4 => by rw [← hPost]; exact ⟨rfl, h2, h3, h4⟩
 have bd := zH (bh ak);obtain ⟨N, hN⟩ : ∃ N, l.length = N := ⟨_, rfl⟩;have HN := zH hN;rw [hN];clear hp hok hc hl hS hsp h hlo hk hm hbk hr hPost hN;unfold shI;go_enter Tryz.func15, Tryz.ntmps15
 go_upto_region 1 with fail
 refine (fun (k : ∀ W, Blk W w.heap.size (a8 p) 28 → Blk W (w.heap.size + 1) (a8 zeroP) 28 → Below w.heap.size w W → Code.wp _ _ _ _ W) => k _ (HX.out _ rfl).1 (HX.out _ rfl).2.1 (HX.out _ rfl).2.2) ?_;intro W hp1 hr1 hb1;have e6 := zH (A3 l co.out sp cap HC.out (by have := HL.out; omega) W (ad.out.grown hb1) (bl.out.below hb1).tab.1);rw [HN.out] at e6;have e9 := zH hp1; have cx := zH hr1; have dt := zH hb1;obtain ⟨G, hG⟩ : ∃ g, w.heap.size + 1 = g := ⟨_, rfl⟩;rw [hG] at cx ⊢;have HG := zH hG;clear hp1 hr1 hb1 HX hG
 go_wp2_with fail
 refine e6.out.mono ?_;rintro e W2 ⟨rfl, cp⟩;have da := zH (e9.out.below cp e9.out.lt); have bu := zH (cx.out.below cp cx.out.lt); have bg := zH (dt.out.trans (cp.mono dt.out.size));clear cp e6 e9 cx dt;cases hst : k7 l
 ·obtain rfl : r = ⟨zeroP, 1, s⟩ := by rw [HR.out, if_pos hst]
  have a5 : Hid (ShPost 5 L w D s (W2.setRow G (a8 zeroP).toArray) ∧ Blk (W2.setRow G (a8 zeroP).toArray) G (a8 zeroP) 28) := zH ⟨by
   have hz : Below w.heap.size w (W2.setRow G (a8 zeroP).toArray) := d6 bg.out (by have := HG.out; omega) _
   exact ShPost.below bl.out hz, bu.out.row _⟩
  have HE := zH (HP.out _ a5.out.1 (HK.out.mono (by omega) HM.out) ak);clear HP HR hst
  go_wp2_with (first | (refine a9 rfl (bj rfl) ?_) | (refine wpList_store_row rfl 28 (.tmp 6) (.tmp 22) rfl G (a8 zeroP).toArray rfl rfl 28 _ bu.out bd.out rfl (bb zeroP) ?_) | fail)
  refine bodyPost_ret (b9 Tryz.results15 _ _ G 28 _ rfl a5.out.2 (bo ak)) rfl ?_;exact HE.out
 ·have aj := zH hst
  have b5 : Hid (r = if (dz p l (dr l) s []).e ≠ 0 then ⟨zeroP, (dz p l (dr l) s []).e, (dz p l (dr l) s []).s⟩ else vi (dz p l (dr l) s []).s p 0 (dz p l (dr l) s []).l) := zH (by rw [HR.out, if_neg (by rw [hst]; decide)]);have d4 := zH (J4 l co.out (zl hst) sp cap HC.out (by have := HL.out; omega) W2 (ad.out.grown bg.out));rw [HN.out] at d4;clear HR hst
  go_wp2_with fail
  refine d4.out.mono ?_;rintro e W3 ⟨M, rfl, ee, cl, c0⟩;have dw := zH (da.out.below cl da.out.lt); have e0 := zH (bu.out.below cl bu.out.lt); have di := zH (bg.out.trans (cl.mono bg.out.size)); have ew : Hid (w.heap.size ≤ M) := zH (Nat.le_trans bg.out.size ee); have b6 := zH c0;clear cl ee c0 d4 da bu bg
  go_wp2_with fail
  refine (Qn (some M) W3).mono ?_;rintro e W4 ⟨rfl, cu⟩
  obtain ⟨gg, oo, b7⟩ : ∃ g o, 0 < l.length → sp = some ⟨g, o, none⟩ := by
   by_cases h0 : 0 < l.length
   ·obtain ⟨g, o, e, -⟩ := ad.out h0
    exact ⟨g, o, fun _ => e⟩
   ·exact ⟨0, 0, fun h => absurd h h0⟩
  obtain ⟨nm, f2, d9⟩ := b6.out gg oo b7;have bk : Below W3.heap.size W3 W4 := (by rw [cu]; exact (Below.refl _ _).alloc (Nat.le_refl _) _);have b1 : W4.cell? ⟨W3.heap.size, 0, none⟩ = some (.map (some M)) := (by rw [cu]; exact (Blk.new' _ #[.map (some M)] [.map (some M)] _ _ rfl rfl).cell (j := 0) rfl);have f1 := zH (I3 (T := TU) rfl (enters_of Tryz.func68 (by kernel_rfl) rfl) (S := vq TU (jl gg oo l) nm) (fun ss h => by have := h.1; have := HL.out; omega) (N := nm) (by have := HL.out; omega) (If (T := TU) rfl 4 (by omega) b1 (by rw [cu]; simp) (d9.below bk d9.lt)));have e4 := zH (dw.out.below bk dw.out.lt); have d2 := zH (e0.out.below bk e0.out.lt); have ce := zH (di.out.trans (bk.mono di.out.size))
  have b0 : Hid (∀ g o, (0 < l.length → sp = some ⟨g, o, none⟩) → ∃ n, n ≤ l.length ∧ MapG TU W4 M (jl g o l) n) := zH (fun g o e => by
   obtain ⟨n, h1, h2⟩ := b6.out g o e
   exact ⟨n, h1, h2.below bk h2.lt⟩)
  have fe := zH f2;clear f2 d9 bk b1 cu b6 dw e0 di
  go_wp2_with fail
  refine f1.out.mono ?_;rintro e W5 ⟨kv, ss, rfl, c2, ah, bx⟩;rw [Bf aj.out c2] at ah;rw [← Bn aj.out c2] at ah;have ah : W5.ownsRow W4.heap.size 24 1 kv (dr l).length ((dr l).map UV) := ah
  have eg : (dr l).length ≤ 40 := by
   rw [Bn aj.out c2];have := c2.1;have := HL.out;have := fe.out;omega
  have ae : ∀ g o, (0 < l.length → sp = some ⟨g, o, none⟩) → ∃ n, n ≤ l.length ∧ MapG TU W5 M (jl g o l) n := fun g o e => by
   obtain ⟨n, h1, h2⟩ := b0.out g o e;exact ⟨n, h1, h2.below bx h2.lt⟩
  have am := ce.out.trans (bx.mono ce.out.size)
  have HT : Hid (TsW L w D p l sp M (dr l) kv [] (.slice none 0 0) s W5) := zH (by
   refine ⟨⟨e4.out.below bx e4.out.lt, by rw [HG.out]; exact d2.out.below bx d2.out.lt, ad.out.grown am, fun a e => (dx.out a e).1, ae, ?_, ew.out, ?_, ⟨rfl, .inl ⟨rfl, rfl⟩⟩, fun _ h => by cases h⟩, L, v, bl.out.below am, Mv.of_below am bl.out.lt, ?_⟩
   ·obtain ⟨n, _, h2⟩ := ae gg oo b7
    exact h2.obj
   ·refine ⟨ah.1, ?_⟩
    rcases ah.2 with e | ⟨g, c, cur, e1, e2, e3⟩
    ·exact .inl e
    ·exact .inr ⟨g, c, cur, e1, Nat.le_trans ce.out.size e2, e3⟩
   ·intro k hk
    have cy : ∀ k, w.heap.size ≤ k → L k = 0 := fun k hk => by
     have := bl.out.lt k;omega
    rcases hk with e | e | ⟨a, e, e2⟩ | e | e | e
    ·exact .inl (cy k (by omega))
    ·exact .inl (cy k (by omega))
    ·have := dx.out a e
     rw [← e2];rcases this.2 with q | q
     ·exact .inl q
     ·exact .inr ⟨q, this.1⟩
    ·exact .inl (cy k (by rw [e]; exact ew.out))
    ·have := (uo ah e).2
     exact .inl (cy k (by have := ce.out.size; omega))
    ·cases e)
  have a4 := zH eg;obtain ⟨ks, b4⟩ : ∃ ks, dr l = ks := ⟨_, rfl⟩;have fb : Hid (∀ a0 ∈ ks, a0 < 64 ∧ cq a0 l ≠ []) := zH (fun a0 h => xm (by rw [b4]; exact h));rw [b4] at HT b5 a4 ah;obtain ⟨K, hK⟩ : ∃ K, ks.length = K := ⟨_, rfl⟩;have a3 := zH hK;obtain ⟨ei, b8, eh, du, -⟩ := cz ah;rw [hK] at eh du;subst eh;have fj := zH du;have bt := zH b7;clear b7 c2 ah bx eg ae am b4 hK du f1 e4 d2 ce b0 bl ad dx
  go_wp2_with fail
  go_loopw [8, 29] (fun lv i wr => ∃ (k : Nat) (sk : Sh) (ls : List Lf), k ≤ K ∧ i = .int .i64 (k : Int) ∧ TsW L w D p l sp M ks (.slice ei K b8) ls lv sk wr ∧ dz p l ks s [] = dz p l (ks.drop k) sk ls ∧ Lim (m + 75 * k) sk ∧ BlkOK sk ∧ ls.length ≤ k) (fun _ i _ => K - (intOf i).toNat)
  case atStart => exact ⟨0, s, [], by omega, rfl, HT.out, rfl, by simpa using HK.out, f8.out, by simp⟩
  case round =>
   clear HT;obtain ⟨k, sk, ls, hk, rfl, ht, b7, ez, hbk, ep⟩ := hrel;obtain ⟨eu, cd, fd, -⟩ := cz ht.1.lr;subst fd;have HT := zH ht; have ct := zH b7; have cs := zH ez; have c8 := zH hbk; have cw := zH ep;have fq := IntWalk.i64_in ((k : Int) + 1) (by have := a4.out; have := a3.out; omega);clear ht b7 ez hbk ep;by_cases hlt : k < K
   ·obtain ⟨a0, hoff⟩ : ∃ a0, ks[k]? = some a0 := ⟨_, List.getElem?_eq_getElem (by have := a3.out; omega)⟩
    obtain ⟨gk, f3, e, f5, em⟩ := Pp HT.out.1.kr (by have := a3.out; omega);injection e with e1 e2 e3
    subst e1;have ck := em k a0 hoff;have aw := zH (fb.out a0 (List.mem_of_getElem? hoff))
    have b2 : Hid (dz p l ks s [] = dz p l (a0 :: ks.drop (k + 1)) sk ls) := zH (by
     rw [ct.out];obtain ⟨h1, e1⟩ := List.getElem?_eq_some_iff.1 hoff
     rw [List.drop_eq_getElem_cons h1, e1])
    have f4 : Hid (k < K ∧ K ≤ b8) := zH ⟨hlt, fj.out⟩;have fp : ¬ K ≤ k := (by omega);obtain ⟨L1, v1, h1, br, h2, a1⟩ := HT.out.call;have e8 := zH (py p cj.out a0 (by have := aw.out.1; omega) h1 (br fa.out) cs.out (by have := HM.out; have := a4.out; have := a3.out; omega) ((c8.out.same (rq _ _ _)).rdB _));have au := zH (a1 (blS sk p a0));clear em f5 e2 e3 ct hoff h1 h2 a1 br;have c4 := zH HT.out.1.bp
    go_wp2_with (first | (refine a9 rfl (p7 (k := k) f4.out rfl rfl rfl) ?_) | (refine a9 rfl (ax cj.out c4.out rfl rfl) ?_) | fail)
    unfold shI at e8;refine e8.out.mono ?_;rintro e X6 ⟨rfl, af, ab⟩;have bm := zH (au.out X6 af).1;have al := zH ab;clear af ab e8 au c4 ck HT cs;obtain ⟨be, db⟩ : ∃ r, blE sk p a0 = r := ⟨_, rfl⟩;obtain ⟨ns, d1⟩ : ∃ r, blN sk p a0 = r := ⟨_, rfl⟩;obtain ⟨s6, d0⟩ : ∃ r, blS sk p a0 = r := ⟨_, rfl⟩;have a5 := zH db; have cm := zH d1; have bi := zH d0;have an : Hid (BOK ns) := zH (by rw [← d1]; exact Iw _ _ _);have ca : Hid (BlkOK s6) := zH (by rw [← d0]; exact c8.out.same (Ej _ _ _));rw [db, d1];rw [d0] at bm al;have dd := zH (ey an.out);have d8 : Hid ((ai ns).toArray.size = 176) := zH an.out.size;clear db d1 d0
    go_upto_region 11 with (first | (refine wpList_store_row rfl 104 (.tmp 12) (.tmp 38) rfl X6.heap.size (ai ns).toArray rfl rfl 104 _ (heap_alloc_new X6 _) dd.out (by rw [d8.out]; rfl) (cn ns) ?_) | fail)
    refine (fun (k : ∀ W, Blk W X6.heap.size (ai ns) 104 → Below X6.heap.size X6 W → Code.wp _ _ _ _ W) => k _ (ar X6 _ (ai ns) 104).1 (ar X6 _ (ai ns) 104).2) ?_;intro X7 hx7 hb7;have bn := zH (bm.out.below hb7);obtain ⟨g7, f0⟩ : ∃ g, X6.heap.size = g := ⟨_, rfl⟩;rw [f0] at hx7 ⊢;have cr := zH hx7;clear hx7 hb7 f0 bm;by_cases h0 : be = 0
    ·subst h0
     rw [show ((0 : Nat) : Int) = (0 : Int) from rfl]
     have en : 0 < l.length := by
      have := aw.out.2;cases l with
      | nil => simp [cq] at this
      | cons a l => simp
     have c1 := bt.out en;obtain ⟨n7, f6, el⟩ := bn.out.1.map gg oo bt.out;have ag := bn.out.1.src;rw [c1] at ag;have dc := Y5 (zl aj.out) ag a0 aw.out.2;obtain ⟨q, hq⟩ : ∃ q, (cq a0 l).length = q := ⟨_, rfl⟩;obtain ⟨oq, d3⟩ : ∃ oq, oo + l.findIdx (fun x => x.1 / 4 == a0) * 45 = oq := ⟨_, rfl⟩;rw [d3] at dc
     have bv : SpV ((jl gg oo l a0).getD none) = .slice (some ⟨gg, oq, none⟩) q q := by
      unfold jl;rw [if_neg aw.out.2, d3, hq];rfl
     have f9 : (cq a0 l).length ≤ l.length := List.length_filter_le _ _;have df := J1 ns an.out (cq a0 l) (fun x hx => co.out x (List.mem_filter.1 hx).1) (some ⟨gg, oq, none⟩) q (by omega) (by have := HL.out; omega) X7 dc;obtain ⟨nw, ci⟩ : ∃ r, wth ns (cq a0 l) = r := ⟨_, rfl⟩;have a2 : Hid (jn p l sk a0 = nw) := zH (by unfold jn; rw [cm.out]; exact ci);rw [hq, ci] at df;have ed := zH df; have ef := zH el; have dk := zH bv;have b3 : Hid (BOK nw) := zH (by rw [← ci]; exact Dz an.out co.out a0);have e5 := zH (ey b3.out);have dv : Hid ((ai nw).toArray.size = 176) := zH b3.out.size;clear en c1 f6 el ag dc hq d3 bv f9 df ci
     go_wp2_with (first | (refine a9 rfl (dn an.out cr.out rfl rfl) ?_) | (refine a9 rfl (Td ef.out (by have := aw.out.1; omega) dk.out rfl rfl rfl) ?_) | fail)
     refine ed.out.mono ?_;rintro e X8 ⟨rfl, dm⟩;have ev := zH (bn.out.below dm);have ec := zH (cr.out.below dm cr.out.lt);clear dm bn cr ed ef
     go_upto_region 14 with (first | (refine wpList_store_row rfl 104 (.tmp 14) (.tmp 48) rfl X8.heap.size (ai nw).toArray rfl rfl 104 _ (heap_alloc_new X8 _) e5.out (by rw [dv.out]; rfl) (cn nw) ?_) | fail)
     refine (fun (k : ∀ W, Blk W X8.heap.size (ai nw) 104 → Below X8.heap.size X8 W → Code.wp _ _ _ _ W) => k _ (ar X8 _ (ai nw) 104).1 (ar X8 _ (ai nw) 104).2) ?_;intro X9 hx9 hb9;have dq := zH (ev.out.below hb9);have dy := zH (ec.out.below hb9 ec.out.lt);obtain ⟨g9, es⟩ : ∃ g, X8.heap.size = g := ⟨_, rfl⟩;rw [es] at hx9 ⊢;have e7 := zH hx9;clear hx9 hb9 es ev ec;by_cases hsame : nw = ns
     ·have HD : Hid (decide (nw = ns) = true) := zH (decide_eq_true hsame)
      have dg : Hid (dz p l ks s [] = dz p l (ks.drop (k + 1)) s6 ls) := zH (by rw [b2.out, C4 a5.out (by rw [a2.out, cm.out]; exact hsame), bi.out]);clear hsame b2 a5 a2
      go_wp2_with (first | (refine a9 rfl (dn b3.out e7.out rfl rfl) ?_) | (refine a9 rfl (dn an.out dy.out rfl rfl) ?_) | (refine a9 rfl ((yh b3.out an.out rfl rfl rfl).trans (by rw [HD.out])) ?_) | fail)
      go_roundw
      case rel => exact ⟨k + 1, s6, ls, by omega, by go_num, dq.out, dg.out, al.out.mono (by omega) (by have := HM.out; have := a4.out; have := a3.out; omega), ca.out, by have := cw.out; omega⟩
      case measure => simp [intOf]; omega
     ·have HD : Hid (decide (nw = ns) = false) := zH (decide_eq_false hsame)
      have ch : Hid (¬ nw = ns) := zH hsame;obtain ⟨L1, v1, h1, -, -, a1⟩ := dq.out.call;have dl := zH (Io nw b3.out a0 (by have := aw.out.1; omega) h1 al.out (by have := HM.out; have := a4.out; have := a3.out; omega));have au := zH (a1 (taS s6 nw a0));clear hsame h1 a1
      go_wp2_with (first | (refine a9 rfl (dn b3.out e7.out rfl rfl) ?_) | (refine a9 rfl (dn an.out dy.out rfl rfl) ?_) | (refine a9 rfl ((yh b3.out an.out rfl rfl rfl).trans (by rw [HD.out])) ?_) | fail)
      unfold shI at dl;refine dl.out.mono ?_;rintro e ap ⟨rfl, ay, az⟩;have ba := zH (au.out ap ay).1;have a6 := zH az;clear ay az dl au dq e7 dy HD;obtain ⟨qp, cv⟩ : ∃ r, taP s6 nw a0 = r := ⟨_, rfl⟩;obtain ⟨er, de⟩ : ∃ r, taE s6 nw = r := ⟨_, rfl⟩;obtain ⟨bz, ao⟩ : ∃ r, taS s6 nw a0 = r := ⟨_, rfl⟩;have fk := zH cv; have eb := zH de; have c6 := zH ao;have bf : Hid qp.OK := zH (by rw [← cv]; exact Ue (by have := aw.out.1; omega));have bw : Hid (BlkOK bz) := zH (by rw [← ao]; exact ca.out.taS b3.out a0);rw [cv, de];rw [ao] at ba a6;have d7 := zH (bh bf.out);have ea : Hid ((a8 qp).toArray.size = 41) := zH (by rw [List.size_toArray, aa bf.out]);clear cv de ao
      go_upto_region 16 with (first | (refine wpList_store_row rfl 28 (.tmp 15) (.tmp 57) rfl ap.heap.size (a8 qp).toArray rfl rfl 28 _ (heap_alloc_new ap _) d7.out (by rw [ea.out]; rfl) (bb qp) ?_) | fail)
      refine (fun (k : ∀ W, Blk W ap.heap.size (a8 qp) 28 → Below ap.heap.size ap W → Code.wp _ _ _ _ W) => k _ (ar ap _ (a8 qp) 28).1 (ar ap _ (a8 qp) 28).2) ?_;intro X11 hx11 hb11;have bc := zH (ba.out.below hb11);obtain ⟨fr, c3⟩ : ∃ g, ap.heap.size = g := ⟨_, rfl⟩;rw [c3] at hx11 ⊢;have dp := zH hx11;clear hx11 hb11 c3 ba;by_cases h1 : er = 0
      ·subst h1
       have dg : Hid (dz p l ks s [] = dz p l (ks.drop (k + 1)) bz (ls ++ [(a0, qp)])) := zH (by
        rw [b2.out, Hs a5.out (by rw [a2.out, cm.out]; exact ch.out) (by rw [a2.out, bi.out]; exact eb.out), a2.out, bi.out, fk.out, c6.out])
       obtain ⟨fi, fm, c5, c7⟩ := bc.out.app (by have := cw.out; have := a4.out; have := a3.out; omega) (x := (a0, qp)) ⟨by have := aw.out.1; show a0 < 4294967296; omega, bf.out⟩ ((Below.refl X11.heap.size X11).alloc (Nat.le_refl _) (.cells (av (a0, qp)).toArray 110)) (Blk.new X11 (av (a0, qp)) 110) 95;have dj := zH c5; have d5 := zH c7;clear c5 c7 b2 a5 a2 ch;rw [show ((0 : Nat) : Int) = (0 : Int) from rfl]
       go_wp2_with (first | (refine a9 rfl (ax bf.out dp.out rfl rfl) ?_) | (refine a9 rfl (Ku (f := a0) bf.out rfl rfl rfl) ?_) | (refine a9 rfl (Ly (l := (a0, qp)) bf.out rfl rfl) ?_) | (at_builtin; refine a9 rfl (K3 rfl rfl rfl dj.out) ?_) | fail)
       go_roundw
       case rel => exact ⟨k + 1, bz, ls ++ [(a0, qp)], by omega, by go_num, d5.out, dg.out, a6.out.mono (by omega) (by have := HM.out; have := a4.out; have := a3.out; omega), bw.out, by have := cw.out; rw [List.length_append, List.length_singleton]; omega⟩
       case measure => simp [intOf]; omega
      ·have fo : ¬ (er : Int) = 0 := by omega
       have bq : Hid (dz p l ks s [] = ⟨er, bz, []⟩) := zH (by
        rw [b2.out, U5 a5.out (by rw [a2.out, cm.out]; exact ch.out) (by rw [a2.out, bi.out, eb.out]; exact h1), a2.out, bi.out, eb.out, c6.out])
       have dh : r = ⟨zeroP, er, bz⟩ := (by rw [b5.out, bq.out, if_pos h1]);subst dh;have a7 := zH (bc.out.ends zeroP);have aq := zH bc.out.1.res;rw [HG.out] at a7 aq;have HE := zH (HP.out _ a7.out.1 (a6.out.mono (by have := a4.out; have := a3.out; omega) HM.out) ak);clear HP b5 b2 bq h1 a5 a2 ch
       go_wp2_with (first | (refine a9 rfl (bj rfl) ?_) | (refine wpList_store_row rfl 28 (.tmp 6) (.tmp 61) rfl G (a8 zeroP).toArray rfl rfl 28 _ aq.out bd.out rfl (bb zeroP) ?_) | fail)
       refine bodyPost_ret (b9 Tryz.results15 _ _ G 28 _ rfl a7.out.2 (bo ak)) rfl ?_;exact HE.out
    ·have fl : ¬ (be : Int) = 0 := by omega
     have bq : Hid (dz p l ks s [] = ⟨be, s6, []⟩) := zH (by rw [b2.out, Im (by rw [a5.out]; exact h0), a5.out, bi.out]);have dh : r = ⟨zeroP, be, s6⟩ := (by rw [b5.out, bq.out, if_pos h0]);subst dh;have a7 := zH (bn.out.ends zeroP);have cf := zH bn.out.1.res;rw [HG.out] at a7 cf;have HE := zH (HP.out _ a7.out.1 (al.out.mono (by have := a4.out; have := a3.out; omega) HM.out) ak);clear HP b5 b2 bq h0 a5
     go_wp2_with (first | (refine a9 rfl (bj rfl) ?_) | (refine wpList_store_row rfl 28 (.tmp 6) (.tmp 42) rfl G (a8 zeroP).toArray rfl rfl 28 _ cf.out bd.out rfl (bb zeroP) ?_) | fail)
     refine bodyPost_ret (b9 Tryz.results15 _ _ G 28 _ rfl a7.out.2 (bo ak)) rfl ?_;exact HE.out
   ·obtain rfl : k = K := by omega
    have ex : dz p l ks s [] = ⟨0, sk, ls⟩ := (by rw [ct.out, List.drop_of_length_le (by have := a3.out; omega)]; rfl);have eo : Hid (vi sk p 0 ls = r) := zH (by rw [b5.out, ex, if_neg (by simp)]);obtain ⟨fn, f7, e, ek, et⟩ := Xh HT.out.1.lr HT.out.1.lok;injection e with e1 e2 e3
    subst e1 e3;obtain ⟨L1, v1, h1, -, c9, a1⟩ := HT.out.call
    have ds := Om (obj := 0) p cj.out (by omega) ls HT.out.1.lok eu cd ek (by have := cw.out; have := a4.out; have := a3.out; omega) et (fun a ha => by
     have hb : TsB w sp M (.slice ei k b8) (.slice eu ls.length cd) a.block := .inr (.inr (.inr (.inr (.inr (by rw [ha]; rfl)))));have h3 := c9 a.block hb
     exact ⟨HT.out.1.lt hb, by omega⟩) h1 cs.out (by have := HM.out; have := a4.out; have := a3.out; omega)
    rw [eo.out] at ds;have cg := zH ds;have au := zH (a1 r.s);have c4 := zH HT.out.1.bp;obtain ⟨ln, ej⟩ : ∃ n, ls.length = n := ⟨_, rfl⟩;rw [ej] at cg ⊢;clear ex e2 ek et h1 c9 a1 ds hlt ej ct
    go_wp2_with (first | (refine a9 rfl (ax cj.out c4.out rfl rfl) ?_) | fail)
    unfold shI at cg;refine cg.out.mono ?_;rintro e X6 ⟨rfl, af, ab, cb⟩;have bm := zH (au.out X6 af).1;have a7 := zH (bm.out.ends r.p);have bs := zH bm.out.1.res;have fc := zH cb;rw [HG.out] at a7 bs;have HE := zH (HP.out _ a7.out.1 (ab.mono (by have := a4.out; have := a3.out; omega) HM.out) cb);have fh := zH (bh cb);have fg : Hid ((a8 zeroP).toArray.size = (a8 r.p).toArray.size) := zH (by rw [List.size_toArray, List.size_toArray, aa cb, aa ak]);clear af ab cb cg au HP b5 eo c4 HT cs
    go_wp2_with (first | (refine wpList_store_row rfl 28 (.tmp 6) (.tmp 74) rfl G (a8 r.p).toArray rfl rfl 28 _ bs.out fh.out fg.out (bb r.p) ?_) | fail)
    refine bodyPost_ret (b9 Tryz.results15 _ _ G 28 _ rfl a7.out.2 (bo fc.out)) rfl ?_;exact HE.out
end Go.Proofs.YtjgjohdeeeoeoaaGreatDoor
