/- A table's Set: what stands while leaves are made anew. -/
import Derived.Test.YtjgjohdeeeoeoaaGreatDoorM36
set_option linter.all false
namespace Go.Proofs.YtjgjohdeeeoeoaaGreatDoor
open Go.RowKit
attribute [local go_sem] Oper.semAt_some
variable {B g k n : Nat} {v : Value}
theorem uo {w : World} {e : Nat} {xs : List Value} (h : w.ownsRow B e k v n xs) (hg : v.ownBlock = some g) : (∃ cs, Blk w g cs e) ∧ B ≤ g := by
 rcases h.2 with ⟨rfl, _⟩ | ⟨a, cap, cur, rfl, hb, ha, _⟩
 ·cases hg
 ·have e1 : a = g := by injection hg
  subst e1;exact ⟨⟨cur.toList, by unfold Blk; simpa using ha⟩, hb⟩
def TsB (w : World) (sp : Option Addr) (M : Nat) (kv lv : Value) (g : Nat) : Prop :=
 g = w.heap.size ∨ g = w.heap.size + 1 ∨ (∃ a, sp = some a ∧ a.block = g) ∨ g = M ∨ kv.ownBlock = some g ∨ lv.ownBlock = some g
structure TsM (w : World) (p : Pt) (l : List Itm) (sp : Option Addr) (M : Nat) (ks : List Nat) (kv : Value) (ls : List Lf) (lv : Value) (X : World) : Prop where
 bp : Blk X w.heap.size (a8 p) 28
 res : Blk X (w.heap.size + 1) (a8 zeroP) 28
 src : SrcT X sp l
 sl : ∀ a, sp = some a → a.block < w.heap.size
 map : ∀ g o, (0 < l.length → sp = some ⟨g, o, none⟩) → ∃ n, n ≤ l.length ∧ MapG TU X M (jk g o l) n
 mo : ∃ es c, X.heap[M]? = some (.map es c)
 ml : w.heap.size ≤ M
 kr : X.ownsRow w.heap.size 24 1 kv ks.length (ks.map UV)
 lr : OwnL X w.heap.size lv ls
 lok : ∀ x ∈ ls, Lf.OK x
section
variable {L : Nat → Nat} {w : World} {D : Nat} {p : Pt} {l : List Itm} {sp : Option Addr} {M : Nat} {ks : List Nat} {kv : Value} {ls : List Lf} {lv : Value} {s : Sh} {X Y : World}
theorem TsM.chg {F : Nat → Prop} (h : TsM w p l sp M ks kv ls lv X) (hc : Chg F X Y) (hn : ∀ g, TsB w sp M kv lv g → ¬ F g) : TsM w p l sp M ks kv ls lv Y := by
 have hM := hn M (.inr (.inr (.inr (.inl rfl))));obtain ⟨es, c, a1⟩ := h.mo;have a0 : M < X.heap.size := (Array.getElem?_eq_some_iff.1 a1).1;refine ⟨h.bp.chg hc (hn _ (.inl rfl)), h.res.chg hc (hn _ (.inr (.inl rfl))), h.src.chg hc (fun a e => hn _ (.inr (.inr (.inl ⟨a, e, rfl⟩)))), h.sl, fun g o e => ?_, ⟨es, c, (hc.block M a0 hM).trans a1⟩, h.ml, bc h.kr hc (fun g e => hn g (.inr (.inr (.inr (.inr (.inl e)))))), bc h.lr hc (fun g e => hn g (.inr (.inr (.inr (.inr (.inr e)))))), h.lok⟩;obtain ⟨n, h1, h2⟩ := h.map g o e;exact ⟨n, h1, h2.kept (hc.block M a0 hM)⟩
theorem TsM.lt (h : TsM w p l sp M ks kv ls lv X) (hg : TsB w sp M kv lv g) : g < X.heap.size := by
 have h1 := h.bp.lt;rcases hg with e | e | ⟨a, e, e2⟩ | e | e | e
 ·omega
 ·rw [e]; exact h.res.lt
 ·have := h.sl a e; omega
 ·obtain ⟨es, c, a0⟩ := h.mo
  rw [e]; exact (Array.getElem?_eq_some_iff.1 a0).1
 ·exact eu h.kr e
 ·exact eu h.lr e
def TsW (L : Nat → Nat) (w : World) (D : Nat) (p : Pt) (l : List Itm) (sp : Option Addr) (M : Nat) (ks : List Nat) (kv : Value) (ls : List Lf) (lv : Value) (s : Sh) (X : World) : Prop :=
 TsM w p l sp M ks kv ls lv X ∧ ∃ L1 v1, ShAt X L1 D s v1 ∧ Mv 5 L w L1 X ∧ ∀ g, TsB w sp M kv lv g → L1 g = 0 ∨ (L1 g = 10 ∧ g < w.heap.size)
theorem TsW.below (h : TsW L w D p l sp M ks kv ls lv s X) (hb : Below X.heap.size X Y) : TsW L w D p l sp M ks kv ls lv s Y := by
 obtain ⟨h1, L1, v1, h2, h3, h4⟩ := h;exact ⟨h1.chg (F := fun _ => False) (Chg.of_below hb) (fun _ _ h => h), L1, v1, h2.below hb, h3.trans (Mv.of_below hb h2.lt), h4⟩
theorem Mv.lo {L1 : Nat → Nat} (h : Mv 5 L w L1 X) (hl : Lo L) : Lo L1 := fun g => by
 rcases Nat.lt_or_ge g w.heap.size with k | k
 ·rw [h.old g k]; exact hl g
 ·exact h.new g k
theorem TsW.call (h : TsW L w D p l sp M ks kv ls lv s X) : ∃ L1 v1, ShAt X L1 D s v1 ∧ (Lo L → Lo L1) ∧ (∀ g, TsB w sp M kv lv g → L1 g = 0 ∨ (L1 g = 10 ∧ g < w.heap.size)) ∧ ∀ s2 Y, ShPost 5 L1 X D s2 Y → TsW L w D p l sp M ks kv ls lv s2 Y ∧ ∀ g cs t, L1 g = 0 → Blk X g cs t → Blk Y g cs t := by
 obtain ⟨h1, L1, v1, h2, h3, h4⟩ := h;refine ⟨L1, v1, h2, fun hl => h3.lo hl, h4, fun s2 Y ⟨L3, v3, j1, j2⟩ => ⟨⟨h1.chg j2.chg (fun g hg hf => by have := h4 g hg; unfold kx at hf; omega), L3, v3, j1, h3.trans j2, fun g hg => by rw [j2.old g (h1.lt hg)]; exact h4 g hg⟩, fun g cs t hg hB => j2.blk hB hg⟩⟩
theorem TsW.app (h : TsW L w D p l sp M ks kv ls lv s X) (hlen : ls.length < 1000) {x : Lf} (hx : Lf.OK x) {t : TypeId} (hb : Below X.heap.size X Y) (hg : Blk Y g (av x) t) (ty : TypeId) :
  ∃ v' w', (Builtin.append_ #[95, 95] ty #[lv, .slice (some ⟨g, 0, none⟩) 1 1]).run Tryz.prog Y = .ok v' w' ∧ TsW L w D p l sp M ks kv (ls ++ [x]) v' s w' := by
 obtain ⟨h1, L1, v1, h2, h3, h4⟩ := h.below hb;obtain ⟨v', w', hr, ho, a3, hn⟩ := Fh h1.lr (by have := h1.bp.lt; omega) (by omega) hx.2 hg ty;have hc : Chg (fun g => lv.ownBlock = some g) Y w' := (Chg.refl _ Y).grown a3 (fun k e => .inl e)
 have a7 : ∀ g, TsB w sp M kv (.slice none 0 0) g → lv.ownBlock ≠ some g := fun k hk e => by
  obtain ⟨⟨cs, a1⟩, a5⟩ := uo h1.lr e;rcases hk with q | q | ⟨a, q, q2⟩ | q | q | q
  ·subst q; exact absurd (a1.same h1.bp) (by decide)
  ·subst q; exact absurd (a1.same h1.res) (by decide)
  ·have := h1.sl a q; omega
  ·subst q
   obtain ⟨es, c, a6⟩ := h1.mo;unfold Blk at a1;rw [a6] at a1;cases a1
  ·obtain ⟨⟨a8, a2⟩, -⟩ := uo h1.kr q
   exact absurd (a1.same a2) (by decide)
  ·cases q
 have a4 : TsM w p l sp M ks kv [] (.slice none 0 0) Y := ⟨h1.bp, h1.res, h1.src, h1.sl, h1.map, h1.mo, h1.ml, h1.kr, ⟨rfl, .inl ⟨rfl, rfl⟩⟩, fun _ h => by cases h⟩;have a0 := a4.chg hc a7;refine ⟨v', w', hr, ⟨a0.bp, a0.res, a0.src, a0.sl, a0.map, a0.mo, a0.ml, a0.kr, ho, fun y hy => ?_⟩, L1, v1, ?_, ⟨h3.chg.trans hc (fun g e => .inr (uo h1.lr e).2), h3.old, h3.new⟩, fun k hk => ?_⟩
 ·rcases List.mem_append.1 hy with hy | hy
  ·exact h1.lok y hy
  ·simp at hy; subst hy; exact hx
 ·refine h2.out hc (fun g e _ => ?_) (fun _ _ => .inl rfl) (fun g hg => Nat.lt_of_lt_of_le (h2.lt g hg) a3.size)
  have a5 := (uo h1.lr e).2;rcases h4 g (.inr (.inr (.inr (.inr (.inr e))))) with q | q
  ·exact .inl q
  ·omega
 ·rcases hk with q | q | q | q | q | q
  ·exact h4 k (.inl q)
  ·exact h4 k (.inr (.inl q))
  ·exact h4 k (.inr (.inr (.inl q)))
  ·exact h4 k (.inr (.inr (.inr (.inl q))))
  ·exact h4 k (.inr (.inr (.inr (.inr (.inl q)))))
  ·rcases hn with q' | q'
   ·exact h4 k (.inr (.inr (.inr (.inr (.inr (by rw [← q']; exact q))))))
   ·have e := Option.some.inj (q.symm.trans q')
    exact .inl (h2.not (Nat.le_of_eq e.symm))
theorem TsW.ends (h : TsW L w D p l sp M ks kv ls lv s X) (q : Pt) : ShPost 5 L w D s (X.setRow (w.heap.size + 1) (a8 q).toArray) ∧ Blk (X.setRow (w.heap.size + 1) (a8 q).toArray) (w.heap.size + 1) (a8 q) 28 := by
 obtain ⟨h1, L1, v1, h2, h3, h4⟩ := h;have hc := tf X (w.heap.size + 1) (a8 q).toArray;have hz : (X.setRow (w.heap.size + 1) (a8 q).toArray).heap.size = X.heap.size := by simp
 have a0 : L1 (w.heap.size + 1) = 0 := by
  rcases h4 _ (.inr (.inl rfl)) with e | e
  ·exact e
  ·omega
 refine ⟨⟨L1, v1, h2.out hc (fun g e _ => .inl (by rw [e]; exact a0)) (fun _ _ => .inl rfl) (fun g hg => by rw [hz]; exact h2.lt g hg), ?_⟩, h1.res.row _⟩;exact ⟨h3.chg.trans hc (fun g e => by right; have : g = w.heap.size + 1 := e; omega), h3.old, h3.new⟩
end
theorem S4 {ρ : Operand → Value} {o : Oper} {x y : Operand} {w : World} {M : Nat} {f : Nat → Option Spt} (h : MapG TU w M f n) (hk : k < 4294967296) (hv : SpV ((f k).getD none) = v) (ho : o.op = .lookup 96 x y false) (hx : ρ x = .map (some M)) (hy : ρ y = .int .u32 (k : Int)) :
  (execOp ρ o).run Tryz.prog w = .ok (.value v) w := by
 subst hv;have hr : (Instr.lookup 96 (.map (some M)) (.int .u32 (k : Int)) false).run Tryz.prog w = .ok (SpV ((f k).getD none)) w := h.look hk;unfold execOp;simp only [ho, hx, hy, Sem.run_bind, hr, Result.andThen_ok, Sem.run_pure]
theorem N7 {X : World} {kv : Value} {ks : List Nat} (h : X.ownsRow B 24 1 kv ks.length (ks.map UV)) (h0 : 0 < ks.length) : ∃ g cap, kv = .slice (some ⟨g, 0, none⟩) ks.length cap ∧ ks.length ≤ cap ∧ ∀ (k off : Nat), ks[k]? = some off → X.cell? ⟨g, k, none⟩ = some (.int .u32 (off : Int)) := by
 rcases h.2 with ⟨_, e⟩ | ⟨g, cap, cur, rfl, _, hg, hc, _, hs, ht⟩
 ·omega
 ·refine ⟨g, cap, rfl, hc, fun k off hk => ?_⟩
  have hb : Blk X g cur.toList 24 := (by unfold Blk; simpa using hg);refine hb.cell ?_;have a0 := (List.getElem?_eq_some_iff.1 hk).1;have e1 : (ks.map UV)[k]? = some (.int .u32 (off : Int)) := (by rw [List.getElem?_map, hk]; rfl);rw [← ht, List.getElem?_take, if_pos (by omega)] at e1;exact e1
theorem Dz {ns : List Ino} {l : List Itm} (h : BOK ns) (hok : ∀ x ∈ l, Itm.OK x) (off : Nat) : BOK (wth ns (cq off l)) := Jm _ h (fun x hx => hok x ((List.mem_filter.1 hx).1))
set_option maxRecDepth 100000 in
set_option maxHeartbeats 16000000 in
theorem Q9 {w : World} {L : Nat → Nat} {D : Nat} {s : Sh} {v : Sv} {m : Nat} (p : Pt) (hp : p.OK) (l : List Itm) (hok : ∀ x ∈ l, Itm.OK x) (sp : Option Addr) (cap : Nat) (hc : l.length ≤ cap) (hl : l.length ≤ 40) (hS : SrcT w sp l) (hsp : ∀ a, sp = some a → a.block < w.heap.size ∧ (L a.block = 0 ∨ L a.block = 10)) (h : ShAt w L D s v) (hlo : Lo L) (hk : Lim m s) (hm : m + 3715 < 100000000) (hbk : BlkOK s) :
  Calls Tryz.prog 15 #[shI D, .agg (a8 p).toArray, .slice sp l.length cap] w (yh L w D (tsR s p l) (m + 3715)) := by
 have cp := zH hp; have co := zH hok; have HC := zH hc; have HL := zH hl; have dq := zH hsp; have HK := zH hk; have HM := zH hm; have f2 := zH hbk; have f6 := zH hlo; have bk := zH h; have ab := zH hS
 have HX : Hid (∀ z, z = (a8 zeroP).toArray → Blk ((w.alloc (.cells (a8 p).toArray 28)).alloc (.cells z 28)) w.heap.size (a8 p) 28 ∧ Blk ((w.alloc (.cells (a8 p).toArray 28)).alloc (.cells z 28)) (w.heap.size + 1) (a8 zeroP) 28 ∧ Below w.heap.size w ((w.alloc (.cells (a8 p).toArray 28)).alloc (.cells z 28))) := zH (fun z hz => by
  subst hz
  exact ⟨(Blk.new _ _ _).alloc _, Blk.new' _ _ _ _ _ (by simp) rfl, ((Below.refl _ _).alloc (Nat.le_refl _) _).alloc (by simp) _⟩)
 obtain ⟨r, hr⟩ : ∃ r, tsR s p l = r := ⟨_, rfl⟩;have HR : Hid (r = if ka l = false then ⟨zeroP, 1, s⟩ else if (dz p l (dr l) s []).e ≠ 0 then ⟨zeroP, (dz p l (dr l) s []).e, (dz p l (dr l) s []).s⟩ else vh (dz p l (dr l) s []).s p 0 (dz p l (dr l) s []).l) := zH hr.symm;rw [hr];generalize hPost : yh L w D r (m + 3715) = Post;have HP : Hid (∀ w', ShPost 5 L w D r.s w' → Lim (m + 3715) r.s → r.p.OK → Post (.returned (.tuple #[.agg (a8 r.p).toArray, .int .i64 (r.e : Int)])) w') := zH fun w' h2 h3 h4 => by rw [← hPost]; exact ⟨rfl, h2, h3, h4⟩
 have b6 := zH (bh ak);obtain ⟨N, hN⟩ : ∃ N, l.length = N := ⟨_, rfl⟩;have HN := zH hN;rw [hN];clear hp hok hc hl hS hsp h hlo hk hm hbk hr hPost hN;unfold shI;go_enter Tryz.func15, Tryz.ntmps15
 go_upto_region 1 with fail
 refine (fun (k : ∀ W, Blk W w.heap.size (a8 p) 28 → Blk W (w.heap.size + 1) (a8 zeroP) 28 → Below w.heap.size w W → Code.wp _ _ _ _ W) => k _ (HX.out _ rfl).1 (HX.out _ rfl).2.1 (HX.out _ rfl).2.2) ?_;intro W hp1 hr1 hb1;have ds := zH (Ao l co.out sp cap HC.out (by have := HL.out; omega) W (ab.out.grown hb1) (bk.out.below hb1).tab.1);rw [HN.out] at ds;have de := zH hp1; have cr := zH hr1; have d3 := zH hb1;obtain ⟨G, hG⟩ : ∃ g, w.heap.size + 1 = g := ⟨_, rfl⟩;rw [hG] at cr ⊢;have HG := zH hG;clear hp1 hr1 hb1 HX hG
 go_wp2_with fail
 refine ds.out.mono ?_;rintro e W2 ⟨rfl, cv⟩;have df := zH (de.out.below cv de.out.lt); have bx := zH (cr.out.below cv cr.out.lt); have bf := zH (d3.out.trans (cv.mono d3.out.size));clear cv ds de cr d3;cases hst : ka l
 ·obtain rfl : r = ⟨zeroP, 1, s⟩ := by rw [HR.out, if_pos hst]
  have a4 : Hid (ShPost 5 L w D s (W2.setRow G (a8 zeroP).toArray) ∧ Blk (W2.setRow G (a8 zeroP).toArray) G (a8 zeroP) 28) := zH ⟨by
   have hz : Below w.heap.size w (W2.setRow G (a8 zeroP).toArray) := cz bf.out (by have := HG.out; omega) _
   exact ShPost.below bk.out hz, bx.out.row _⟩
  have HE := zH (HP.out _ a4.out.1 (HK.out.mono (by omega) HM.out) ak);clear HP HR hst
  go_wp2_with (first | (refine a9 rfl (bj rfl) ?_) | (refine wpList_store_row rfl 28 (.tmp 6) (.tmp 22) rfl G (a8 zeroP).toArray rfl rfl 28 _ bx.out b6.out rfl (bb zeroP) ?_) | fail)
  refine bodyPost_ret (b9 Tryz.results15 _ _ G 28 _ rfl a4.out.2 (bo ak)) rfl ?_;exact HE.out
 ·have am := zH hst
  have b5 : Hid (r = if (dz p l (dr l) s []).e ≠ 0 then ⟨zeroP, (dz p l (dr l) s []).e, (dz p l (dr l) s []).s⟩ else vh (dz p l (dr l) s []).s p 0 (dz p l (dr l) s []).l) := zH (by rw [HR.out, if_neg (by rw [hst]; decide)]);have d5 := zH (Hc l co.out (Af hst) sp cap HC.out (by have := HL.out; omega) W2 (ab.out.grown bf.out));rw [HN.out] at d5;clear HR hst
  go_wp2_with fail
  refine d5.out.mono ?_;rintro e W3 ⟨M, rfl, ex, cw, c9⟩;have dg := zH (df.out.below cw df.out.lt); have dj := zH (bx.out.below cw bx.out.lt); have d4 := zH (bf.out.trans (cw.mono bf.out.size)); have ee : Hid (w.heap.size ≤ M) := zH (Nat.le_trans bf.out.size ex); have b4 := zH c9;clear cw ex c9 d5 df bx bf
  go_wp2_with fail
  refine (T6 (some M) W3).mono ?_;rintro e W4 ⟨rfl, cu⟩
  obtain ⟨gg, oo, bc⟩ : ∃ g o, 0 < l.length → sp = some ⟨g, o, none⟩ := by
   by_cases h0 : 0 < l.length
   ·obtain ⟨g, o, e, -⟩ := ab.out h0
    exact ⟨g, o, fun _ => e⟩
   ·exact ⟨0, 0, fun h => absurd h h0⟩
  obtain ⟨nm, ey, e7⟩ := b4.out gg oo bc;have bn : Below W3.heap.size W3 W4 := (by rw [cu]; exact (Below.refl _ _).alloc (Nat.le_refl _) _);have b1 : W4.cell? ⟨W3.heap.size, 0, none⟩ = some (.map (some M)) := (by rw [cu]; exact (Blk.new' _ #[.map (some M)] [.map (some M)] _ _ rfl rfl).cell (j := 0) rfl);have eg := zH (J1 (T := TU) rfl (enters_of Tryz.func68 (by kernel_rfl) rfl) (S := tw TU (jk gg oo l) nm) (fun ss h => by have := h.1; have := HL.out; omega) (N := nm) (by have := HL.out; omega) (I0 (T := TU) rfl 4 (by omega) b1 (by rw [cu]; simp) (e7.below bn e7.lt)));have dh := zH (dg.out.below bn dg.out.lt); have dk := zH (dj.out.below bn dj.out.lt); have bq := zH (d4.out.trans (bn.mono d4.out.size))
  have aw : Hid (∀ g o, (0 < l.length → sp = some ⟨g, o, none⟩) → ∃ n, n ≤ l.length ∧ MapG TU W4 M (jk g o l) n) := zH (fun g o e => by
   obtain ⟨n, h1, h2⟩ := b4.out g o e
   exact ⟨n, h1, h2.below bn h2.lt⟩)
  have f7 := zH ey;clear ey e7 bn b1 cu b4 dg dj d4
  go_wp2_with fail
  refine eg.out.mono ?_;rintro e W5 ⟨kv, ss, rfl, c6, ah, c4⟩;rw [Bj am.out c6] at ah;rw [← Bm am.out c6] at ah;have ah : W5.ownsRow W4.heap.size 24 1 kv (dr l).length ((dr l).map UV) := ah
  have ez : (dr l).length ≤ 40 := by
   rw [Bm am.out c6];have := c6.1;have := HL.out;have := f7.out;omega
  have ae : ∀ g o, (0 < l.length → sp = some ⟨g, o, none⟩) → ∃ n, n ≤ l.length ∧ MapG TU W5 M (jk g o l) n := fun g o e => by
   obtain ⟨n, h1, h2⟩ := aw.out g o e;exact ⟨n, h1, h2.below c4 h2.lt⟩
  have ao := bq.out.trans (c4.mono bq.out.size)
  have HT : Hid (TsW L w D p l sp M (dr l) kv [] (.slice none 0 0) s W5) := zH (by
   refine ⟨⟨dh.out.below c4 dh.out.lt, by rw [HG.out]; exact dk.out.below c4 dk.out.lt, ab.out.grown ao, fun a e => (dq.out a e).1, ae, ?_, ee.out, ?_, ⟨rfl, .inl ⟨rfl, rfl⟩⟩, fun _ h => by cases h⟩, L, v, bk.out.below ao, Mv.of_below ao bk.out.lt, ?_⟩
   ·obtain ⟨n, _, h2⟩ := ae gg oo bc
    exact h2.obj
   ·refine ⟨ah.1, ?_⟩
    rcases ah.2 with e | ⟨g, c, cur, e1, e2, e3⟩
    ·exact .inl e
    ·exact .inr ⟨g, c, cur, e1, Nat.le_trans bq.out.size e2, e3⟩
   ·intro k hk
    have ct : ∀ k, w.heap.size ≤ k → L k = 0 := fun k hk => by
     have := bk.out.lt k;omega
    rcases hk with e | e | ⟨a, e, e2⟩ | e | e | e
    ·exact .inl (ct k (by omega))
    ·exact .inl (ct k (by omega))
    ·have := dq.out a e
     rw [← e2];rcases this.2 with q | q
     ·exact .inl q
     ·exact .inr ⟨q, this.1⟩
    ·exact .inl (ct k (by rw [e]; exact ee.out))
    ·have := (uo ah e).2
     exact .inl (ct k (by have := bq.out.size; omega))
    ·cases e)
  have a5 := zH ez;obtain ⟨ks, bd⟩ : ∃ ks, dr l = ks := ⟨_, rfl⟩;have f5 : Hid (∀ a0 ∈ ks, a0 < 64 ∧ cq a0 l ≠ []) := zH (fun a0 h => wj (by rw [bd]; exact h));rw [bd] at HT b5 a5 ah;obtain ⟨K, hK⟩ : ∃ K, ks.length = K := ⟨_, rfl⟩;have a3 := zH hK;obtain ⟨f0, ba, ep, e6, -⟩ := d6 ah;rw [hK] at ep e6;subst ep;have f3 := zH e6;have bv := zH bc;clear bc c6 ah c4 ez ae ao bd hK e6 eg dh dk bq aw bk ab dq
  go_wp2_with fail
  go_loopw [8, 29] (fun lv i wr => ∃ (k : Nat) (sk : Sh) (ls : List Lf), k ≤ K ∧ i = .int .i64 (k : Int) ∧ TsW L w D p l sp M ks (.slice f0 K ba) ls lv sk wr ∧ dz p l ks s [] = dz p l (ks.drop k) sk ls ∧ Lim (m + 75 * k) sk ∧ BlkOK sk ∧ ls.length ≤ k) (fun _ i _ => K - (intOf i).toNat)
  case atStart => exact ⟨0, s, [], by omega, rfl, HT.out, rfl, by simpa using HK.out, f2.out, by simp⟩
  case round =>
   clear HT;obtain ⟨k, sk, ls, hk, rfl, ht, bc, eu, hbk, et⟩ := hrel;obtain ⟨f1, c2, fi, -⟩ := d6 ht.1.lr;subst fi;have HT := zH ht; have cg := zH bc; have cj := zH eu; have bs := zH hbk; have ci := zH et;have fr := IntWalk.i64_in ((k : Int) + 1) (by have := a5.out; have := a3.out; omega);clear ht bc eu hbk et;by_cases hlt : k < K
   ·obtain ⟨a0, hoff⟩ : ∃ a0, ks[k]? = some a0 := ⟨_, List.getElem?_eq_getElem (by have := a3.out; omega)⟩
    obtain ⟨gk, fd, e, fg, el⟩ := N7 HT.out.1.kr (by have := a3.out; omega);injection e with e1 e2 e3
    subst e1;have ck := el k a0 hoff;have az := zH (f5.out a0 (List.mem_of_getElem? hoff))
    have au : Hid (dz p l ks s [] = dz p l (a0 :: ks.drop (k + 1)) sk ls) := zH (by
     rw [cg.out];obtain ⟨h1, e1⟩ := List.getElem?_eq_some_iff.1 hoff
     rw [List.drop_eq_getElem_cons h1, e1])
    have f4 : Hid (k < K ∧ K ≤ ba) := zH ⟨hlt, f3.out⟩;have fo : ¬ K ≤ k := (by omega);obtain ⟨L1, v1, h1, c8, h2, a1⟩ := HT.out.call;have d7 := zH (rf p cp.out a0 (by have := az.out.1; omega) h1 (c8 f6.out) cj.out (by have := HM.out; have := a5.out; have := a3.out; omega) ((bs.out.same (sc _ _ _)).rdB _));have aq := zH (a1 (blS sk p a0));clear el fg e2 e3 cg hoff h1 h2 a1 c8;have bw := zH HT.out.1.bp
    go_wp2_with (first | (refine a9 rfl (oe (k := k) f4.out rfl rfl rfl) ?_) | (refine a9 rfl (ax cp.out bw.out rfl rfl) ?_) | fail)
    unfold shI at d7;refine d7.out.mono ?_;rintro e X6 ⟨rfl, af, ad⟩;have bl := zH (aq.out X6 af).1;have aj := zH ad;clear af ad d7 aq bw ck HT cj;obtain ⟨be, e4⟩ : ∃ r, blE sk p a0 = r := ⟨_, rfl⟩;obtain ⟨ns, cx⟩ : ∃ r, blN sk p a0 = r := ⟨_, rfl⟩;obtain ⟨s6, d1⟩ : ∃ r, blS sk p a0 = r := ⟨_, rfl⟩;have a4 := zH e4; have cm := zH cx; have bi := zH d1;have al : Hid (BOK ns) := zH (by rw [← cx]; exact Hb _ _ _);have bt : Hid (BlkOK s6) := zH (by rw [← d1]; exact bs.out.same (E2 _ _ _));rw [e4, cx];rw [d1] at bl aj;have dt := zH (fa al.out);have dl : Hid ((ai ns).toArray.size = 176) := zH al.out.size;clear e4 cx d1
    go_upto_region 11 with (first | (refine wpList_store_row rfl 104 (.tmp 12) (.tmp 38) rfl X6.heap.size (ai ns).toArray rfl rfl 104 _ (heap_alloc_new X6 _) dt.out (by rw [dl.out]; rfl) (cn ns) ?_) | fail)
    refine (fun (k : ∀ W, Blk W X6.heap.size (ai ns) 104 → Below X6.heap.size X6 W → Code.wp _ _ _ _ W) => k _ (ar X6 _ (ai ns) 104).1 (ar X6 _ (ai ns) 104).2) ?_;intro X7 hx7 hb7;have bm := zH (bl.out.below hb7);obtain ⟨g7, en⟩ : ∃ g, X6.heap.size = g := ⟨_, rfl⟩;rw [en] at hx7 ⊢;have ch := zH hx7;clear hx7 hb7 en bl;by_cases h0 : be = 0
    ·subst h0
     rw [show ((0 : Nat) : Int) = (0 : Int) from rfl]
     have es : 0 < l.length := by
      have := az.out.2;cases l with
      | nil => simp [cq] at this
      | cons a l => simp
     have cd := bv.out es;obtain ⟨n7, fj, ew⟩ := bm.out.1.map gg oo bv.out;have ag := bm.out.1.src;rw [cd] at ag;have ea := Xt (Af am.out) ag a0 az.out.2;obtain ⟨q, hq⟩ : ∃ q, (cq a0 l).length = q := ⟨_, rfl⟩;obtain ⟨oq, e8⟩ : ∃ oq, oo + l.findIdx (fun x => x.1 / 4 == a0) * 45 = oq := ⟨_, rfl⟩;rw [e8] at ea
     have ce : SpV ((jk gg oo l a0).getD none) = .slice (some ⟨gg, oq, none⟩) q q := by
      unfold jk;rw [if_neg az.out.2, e8, hq];rfl
     have fh : (cq a0 l).length ≤ l.length := List.length_filter_le _ _;have ec := Ja ns al.out (cq a0 l) (fun x hx => co.out x (List.mem_filter.1 hx).1) (some ⟨gg, oq, none⟩) q (by omega) (by have := HL.out; omega) X7 ea;obtain ⟨nw, cy⟩ : ∃ r, wth ns (cq a0 l) = r := ⟨_, rfl⟩;have a2 : Hid (jn p l sk a0 = nw) := zH (by unfold jn; rw [cm.out]; exact cy);rw [hq, cy] at ec;have ei := zH ec; have ed := zH ew; have dy := zH ce;have ay : Hid (BOK nw) := zH (by rw [← cy]; exact Dz al.out co.out a0);have dv := zH (fa ay.out);have dn : Hid ((ai nw).toArray.size = 176) := zH ay.out.size;clear es cd fj ew ag ea hq e8 ce fh ec cy
     go_wp2_with (first | (refine a9 rfl (dp al.out ch.out rfl rfl) ?_) | (refine a9 rfl (S4 ed.out (by have := az.out.1; omega) dy.out rfl rfl rfl) ?_) | fail)
     refine ei.out.mono ?_;rintro e X8 ⟨rfl, e0⟩;have eh := zH (bm.out.below e0);have db := zH (ch.out.below e0 ch.out.lt);clear e0 bm ch ei ed
     go_upto_region 14 with (first | (refine wpList_store_row rfl 104 (.tmp 14) (.tmp 48) rfl X8.heap.size (ai nw).toArray rfl rfl 104 _ (heap_alloc_new X8 _) dv.out (by rw [dn.out]; rfl) (cn nw) ?_) | fail)
     refine (fun (k : ∀ W, Blk W X8.heap.size (ai nw) 104 → Below X8.heap.size X8 W → Code.wp _ _ _ _ W) => k _ (ar X8 _ (ai nw) 104).1 (ar X8 _ (ai nw) 104).2) ?_;intro X9 hx9 hb9;have dx := zH (eh.out.below hb9);have dc := zH (db.out.below hb9 db.out.lt);obtain ⟨g9, eo⟩ : ∃ g, X8.heap.size = g := ⟨_, rfl⟩;rw [eo] at hx9 ⊢;have dd := zH hx9;clear hx9 hb9 eo eh db;by_cases hsame : nw = ns
     ·have HD : Hid (decide (nw = ns) = true) := zH (decide_eq_true hsame)
      have d9 : Hid (dz p l ks s [] = dz p l (ks.drop (k + 1)) s6 ls) := zH (by rw [au.out, Dm a4.out (by rw [a2.out, cm.out]; exact hsame), bi.out]);clear hsame au a4 a2
      go_wp2_with (first | (refine a9 rfl (dp ay.out dd.out rfl rfl) ?_) | (refine a9 rfl (dp al.out dc.out rfl rfl) ?_) | (refine a9 rfl ((yi ay.out al.out rfl rfl rfl).trans (by rw [HD.out])) ?_) | fail)
      go_roundw
      case rel => exact ⟨k + 1, s6, ls, by omega, by go_num, dx.out, d9.out, aj.out.mono (by omega) (by have := HM.out; have := a5.out; have := a3.out; omega), bt.out, by have := ci.out; omega⟩
      case measure => simp [intOf]; omega
     ·have HD : Hid (decide (nw = ns) = false) := zH (decide_eq_false hsame)
      have cl : Hid (¬ nw = ns) := zH hsame;obtain ⟨L1, v1, h1, -, -, a1⟩ := dx.out.call;have d2 := zH (J8 nw ay.out a0 (by have := az.out.1; omega) h1 aj.out (by have := HM.out; have := a5.out; have := a3.out; omega));have aq := zH (a1 (taS s6 nw a0));clear hsame h1 a1
      go_wp2_with (first | (refine a9 rfl (dp ay.out dd.out rfl rfl) ?_) | (refine a9 rfl (dp al.out dc.out rfl rfl) ?_) | (refine a9 rfl ((yi ay.out al.out rfl rfl rfl).trans (by rw [HD.out])) ?_) | fail)
      unfold shI at d2;refine d2.out.mono ?_;rintro e an ⟨rfl, b3, b2⟩;have b7 := zH (aq.out an b3).1;have a7 := zH b2;clear b3 b2 d2 aq dx dd dc HD;obtain ⟨qp, d0⟩ : ∃ r, taP s6 nw a0 = r := ⟨_, rfl⟩;obtain ⟨er, e5⟩ : ∃ r, taE s6 nw = r := ⟨_, rfl⟩;obtain ⟨cf, ap⟩ : ∃ r, taS s6 nw a0 = r := ⟨_, rfl⟩;have f8 := zH d0; have d8 := zH e5; have c1 := zH ap;have bg : Hid qp.OK := zH (by rw [← d0]; exact Vg (by have := az.out.1; omega));have br : Hid (BlkOK cf) := zH (by rw [← ap]; exact bt.out.taS ay.out a0);rw [d0, e5];rw [ap] at b7 a7;have du := zH (bh bg.out);have dm : Hid ((a8 qp).toArray.size = 41) := zH (by rw [List.size_toArray, aa bg.out]);clear d0 e5 ap
      go_upto_region 16 with (first | (refine wpList_store_row rfl 28 (.tmp 15) (.tmp 57) rfl an.heap.size (a8 qp).toArray rfl rfl 28 _ (heap_alloc_new an _) du.out (by rw [dm.out]; rfl) (bb qp) ?_) | fail)
      refine (fun (k : ∀ W, Blk W an.heap.size (a8 qp) 28 → Below an.heap.size an W → Code.wp _ _ _ _ W) => k _ (ar an _ (a8 qp) 28).1 (ar an _ (a8 qp) 28).2) ?_;intro X11 hx11 hb11;have b8 := zH (b7.out.below hb11);obtain ⟨fl, c5⟩ : ∃ g, an.heap.size = g := ⟨_, rfl⟩;rw [c5] at hx11 ⊢;have da := zH hx11;clear hx11 hb11 c5 b7;by_cases h1 : er = 0
      ·subst h1
       have d9 : Hid (dz p l ks s [] = dz p l (ks.drop (k + 1)) cf (ls ++ [(a0, qp)])) := zH (by
        rw [au.out, Ix a4.out (by rw [a2.out, cm.out]; exact cl.out) (by rw [a2.out, bi.out]; exact d8.out), a2.out, bi.out, f8.out, c1.out])
       obtain ⟨fk, fq, ca, c3⟩ := b8.out.app (by have := ci.out; have := a5.out; have := a3.out; omega) (x := (a0, qp)) ⟨by have := az.out.1; show a0 < 4294967296; omega, bg.out⟩ ((Below.refl X11.heap.size X11).alloc (Nat.le_refl _) (.cells (av (a0, qp)).toArray 110)) (Blk.new X11 (av (a0, qp)) 110) 95;have di := zH ca; have dw := zH c3;clear ca c3 au a4 a2 cl;rw [show ((0 : Nat) : Int) = (0 : Int) from rfl]
       go_wp2_with (first | (refine a9 rfl (ax bg.out da.out rfl rfl) ?_) | (refine a9 rfl (Kc (f := a0) bg.out rfl rfl rfl) ?_) | (refine a9 rfl (Ko (l := (a0, qp)) bg.out rfl rfl) ?_) | (at_builtin; refine a9 rfl (Kb rfl rfl rfl di.out) ?_) | fail)
       go_roundw
       case rel => exact ⟨k + 1, cf, ls ++ [(a0, qp)], by omega, by go_num, dw.out, d9.out, a7.out.mono (by omega) (by have := HM.out; have := a5.out; have := a3.out; omega), br.out, by have := ci.out; rw [List.length_append, List.length_singleton]; omega⟩
       case measure => simp [intOf]; omega
      ·have fn : ¬ (er : Int) = 0 := by omega
       have bu : Hid (dz p l ks s [] = ⟨er, cf, []⟩) := zH (by
        rw [au.out, Uw a4.out (by rw [a2.out, cm.out]; exact cl.out) (by rw [a2.out, bi.out, d8.out]; exact h1), a2.out, bi.out, d8.out, c1.out])
       have e9 : r = ⟨zeroP, er, cf⟩ := (by rw [b5.out, bu.out, if_pos h1]);subst e9;have a6 := zH (b8.out.ends zeroP);have b0 := zH b8.out.1.res;rw [HG.out] at a6 b0;have HE := zH (HP.out _ a6.out.1 (a7.out.mono (by have := a5.out; have := a3.out; omega) HM.out) ak);clear HP b5 au bu h1 a4 a2 cl
       go_wp2_with (first | (refine a9 rfl (bj rfl) ?_) | (refine wpList_store_row rfl 28 (.tmp 6) (.tmp 61) rfl G (a8 zeroP).toArray rfl rfl 28 _ b0.out b6.out rfl (bb zeroP) ?_) | fail)
       refine bodyPost_ret (b9 Tryz.results15 _ _ G 28 _ rfl a6.out.2 (bo ak)) rfl ?_;exact HE.out
    ·have fm : ¬ (be : Int) = 0 := by omega
     have bu : Hid (dz p l ks s [] = ⟨be, s6, []⟩) := zH (by rw [au.out, Iw (by rw [a4.out]; exact h0), a4.out, bi.out]);have e9 : r = ⟨zeroP, be, s6⟩ := (by rw [b5.out, bu.out, if_pos h0]);subst e9;have a6 := zH (bm.out.ends zeroP);have c0 := zH bm.out.1.res;rw [HG.out] at a6 c0;have HE := zH (HP.out _ a6.out.1 (aj.out.mono (by have := a5.out; have := a3.out; omega) HM.out) ak);clear HP b5 au bu h0 a4
     go_wp2_with (first | (refine a9 rfl (bj rfl) ?_) | (refine wpList_store_row rfl 28 (.tmp 6) (.tmp 42) rfl G (a8 zeroP).toArray rfl rfl 28 _ c0.out b6.out rfl (bb zeroP) ?_) | fail)
     refine bodyPost_ret (b9 Tryz.results15 _ _ G 28 _ rfl a6.out.2 (bo ak)) rfl ?_;exact HE.out
   ·obtain rfl : k = K := by omega
    have ej : dz p l ks s [] = ⟨0, sk, ls⟩ := (by rw [cg.out, List.drop_of_length_le (by have := a3.out; omega)]; rfl);have ef : Hid (vh sk p 0 ls = r) := zH (by rw [b5.out, ej, if_neg (by simp)]);obtain ⟨fp, fe, e, em, ek⟩ := Z7 HT.out.1.lr HT.out.1.lok;injection e with e1 e2 e3
    subst e1 e3;obtain ⟨L1, v1, h1, -, c7, a1⟩ := HT.out.call
    have eb := Qe (obj := 0) p cp.out (by omega) ls HT.out.1.lok f1 c2 em (by have := ci.out; have := a5.out; have := a3.out; omega) ek (fun a ha => by
     have hb : TsB w sp M (.slice f0 k ba) (.slice f1 ls.length c2) a.block := .inr (.inr (.inr (.inr (.inr (by rw [ha]; rfl)))));have h3 := c7 a.block hb
     exact ⟨HT.out.1.lt hb, by omega⟩) h1 cj.out (by have := HM.out; have := a5.out; have := a3.out; omega)
    rw [ef.out] at eb;have cs := zH eb;have aq := zH (a1 r.s);have bw := zH HT.out.1.bp;obtain ⟨ln, ev⟩ : ∃ n, ls.length = n := ⟨_, rfl⟩;rw [ev] at cs ⊢;clear ej e2 em ek h1 c7 a1 eb hlt ev cg
    go_wp2_with (first | (refine a9 rfl (ax cp.out bw.out rfl rfl) ?_) | fail)
    unfold shI at cs;refine cs.out.mono ?_;rintro e X6 ⟨rfl, af, ad, cb⟩;have bl := zH (aq.out X6 af).1;have a6 := zH (bl.out.ends r.p);have bz := zH bl.out.1.res;have f9 := zH cb;rw [HG.out] at a6 bz;have HE := zH (HP.out _ a6.out.1 (ad.mono (by have := a5.out; have := a3.out; omega) HM.out) cb);have fb := zH (bh cb);have fc : Hid ((a8 zeroP).toArray.size = (a8 r.p).toArray.size) := zH (by rw [List.size_toArray, List.size_toArray, aa cb, aa ak]);clear af ad cb cs aq HP b5 ef bw HT cj
    go_wp2_with (first | (refine wpList_store_row rfl 28 (.tmp 6) (.tmp 74) rfl G (a8 r.p).toArray rfl rfl 28 _ bz.out fb.out fc.out (bb r.p) ?_) | fail)
    refine bodyPost_ret (b9 Tryz.results15 _ _ G 28 _ rfl a6.out.2 (bo f9.out)) rfl ?_;exact HE.out
end Go.Proofs.YtjgjohdeeeoeoaaGreatDoor
