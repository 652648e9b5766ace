/- A node with other leaves: any level. -/
import Derived.Test.YtjgjohdeeeoeoaaGreatDoorM19
set_option linter.all false
namespace Go.Proofs.YtjgjohdeeeoeoaaGreatDoor
open Go.RowKit
attribute [local go_sem] Oper.semAt_some
variable {l : List Lf} {now was : List Pt} {D G ga gb i obj : Nat} {L L1 : Nat → Nat} {o : Oper} {x y : Operand} {ρ : Operand → Value} {sp : Option Addr} {p : Pt} {s s' : Sh} {X Y w : World}
structure Ww where
 p : Pt
 e : Nat
 s : Sh
structure Gw where
 now : List Pt
 e : Nat
 s : Sh
def dl : Lf := (0, zeroP)
def goW (f : Sh → Pt → List Lf → Ww) (wide : Nat) (was : List Pt) : Nat → Sh → List Pt → List Lf → Gw
 | 0, s, now, _ => ⟨now, 0, s⟩
 | fuel + 1, s, now, l =>
  if l = [] then ⟨now, 0, s⟩
  else if (f s (was.getD ((l.getD 0 dl).1 / wide % 8) zeroP) (l.take (d7 wide l))).e ≠ 0 then ⟨now, (f s (was.getD ((l.getD 0 dl).1 / wide % 8) zeroP) (l.take (d7 wide l))).e, (f s (was.getD ((l.getD 0 dl).1 / wide % 8) zeroP) (l.take (d7 wide l))).s⟩
  else goW f wide was fuel (f s (was.getD ((l.getD 0 dl).1 / wide % 8) zeroP) (l.take (d7 wide l))).s (now.set ((l.getD 0 dl).1 / wide % 8) (f s (was.getD ((l.getD 0 dl).1 / wide % 8) zeroP) (l.take (d7 wide l))).p) (l.drop (d7 wide l))
def u5 (obj : Nat) (n : Nat) (p : Pt) (was : List Pt) (off : Nat) (g : Gw) : Ww :=
 if g.e ≠ 0 then ⟨zeroP, g.e, g.s⟩ else if g.now = was then ⟨p, 0, g.s⟩
 else ⟨anP (qr g.s p n was g.now) g.now n obj off, anE (qr g.s p n was g.now) g.now, anS (qr g.s p n was g.now) g.now n obj off⟩
def c7 (obj : Nat) : Nat → Sh → Pt → List Lf → Ww
 | 0, s, p, l => if l = [] then ⟨p, 0, s⟩ else ⟨(l.getD 0 dl).2, 0, s⟩
 | n + 1, s, p, l => if l = [] then ⟨p, 0, s⟩ else if rnE s p ≠ 0 then ⟨zeroP, rnE s p, rnS s p⟩
  else u5 obj (n + 1) p (rnN s p) ((l.getD 0 dl).1 / 8 ^ (n + 1)) (goW (c7 obj n) (8 ^ n) (rnN s p) l.length (rnS s p) (rnN s p) l)
theorem iz (obj n : Nat) (s : Sh) (p : Pt) (l : List Lf) : c7 obj (n + 1) s p l = if l = [] then ⟨p, 0, s⟩ else if rnE s p ≠ 0 then ⟨zeroP, rnE s p, rnS s p⟩
  else u5 obj (n + 1) p (rnN s p) ((l.getD 0 dl).1 / 8 ^ (n + 1)) (goW (c7 obj n) (8 ^ n) (rnN s p) l.length (rnS s p) (rnN s p) l) := rfl
def cW : Nat → Nat
 | 0 => 0
 | n + 1 => 11 + 64 * cW n
def Jw (n : Nat) : Prop := ∀ {w : World} {L : Nat → Nat} {D obj : Nat} {s : Sh} {v : Sv} {m : Nat} (p : Pt) (_ : p.OK) (_ : obj < 65536) (l : List Lf) (_ : ∀ x ∈ l, Lf.OK x) (sp : Option Addr) (cap : Nat) (_ : l.length ≤ cap) (_ : l.length ≤ 64) (_ : SrcF w sp l) (_ : ∀ a, sp = some a → a.block < w.heap.size ∧ (L a.block = 0 ∨ L a.block = 10)) (_ : ShAt w L D s v) (_ : Lim m s) (_ : m + cW n < 100000000),
  Calls Tryz.prog 73 #[.agg (bv D obj).toArray, .agg (a8 p).toArray, .int .u8 (n : Int), .slice sp l.length cap] w fun e w' => e = .returned (.tuple #[.agg (a8 (c7 obj n s p l).p).toArray, .int .i64 ((c7 obj n s p l).e : Int)]) ∧ ShPost 5 L w D (c7 obj n s p l).s w' ∧ Lim (m + cW n) (c7 obj n s p l).s ∧ (c7 obj n s p l).p.OK
structure WbS (L : Nat → Nat) (w : World) (D obj : Nat) (p : Pt) (l : List Lf) (sp : Option Addr) (G : Nat) (s : Sh) (X : World) : Prop where
 sh : ∃ L1 v1, ShAt X L1 D s v1 ∧ Mv 5 L w L1 X ∧ (L1 G = 0 ∧ L1 (G + 1) = 0 ∧ L1 (G + 1 + 1) = 0) ∧ ∀ a, sp = some a → a.block < X.heap.size ∧ (L1 a.block = 0 ∨ L1 a.block = 10)
 mb : Blk X G (bv D obj) 145
 p : Blk X (G + 1) (a8 p) 28
 res : Blk X (G + 1 + 1) (a8 zeroP) 28
 src : SrcF X sp l
 lo : w.heap.size ≤ G
theorem WbS.below (h : WbS L w D obj p l sp G s X) (hb : Below X.heap.size X Y) : WbS L w D obj p l sp G s Y := by
 obtain ⟨⟨L1, v1, h1, h2, h3, h4⟩, k1, k2, k3, k4, k5⟩ := h;exact ⟨⟨L1, v1, h1.below hb, h2.trans (Mv.of_below hb h1.lt), h3, fun a ha => ⟨Nat.lt_of_lt_of_le (h4 a ha).1 hb.size, (h4 a ha).2⟩⟩, k1.below hb k1.lt, k2.below hb k2.lt, k3.below hb k3.lt, k4.grown hb, k5⟩
theorem WbS.moved (h : WbS L w D obj p l sp G s X) (hm : Mv 5 L w L1 X) (hl : L1 G = 0 ∧ L1 (G + 1) = 0 ∧ L1 (G + 1 + 1) = 0) (ha : ∀ a, sp = some a → a.block < X.heap.size ∧ (L1 a.block = 0 ∨ L1 a.block = 10)) (hp : ShPost 5 L1 X D s' Y) : WbS L w D obj p l sp G s' Y := by
 obtain ⟨L2, v2, k1, k2⟩ := hp;exact ⟨⟨L2, v2, k1, hm.trans k2, ⟨(k2.old _ h.mb.lt).trans hl.1, (k2.old _ h.p.lt).trans hl.2.1, (k2.old _ h.res.lt).trans hl.2.2⟩, fun a ha' => ⟨Nat.lt_of_lt_of_le (ha a ha').1 k2.size, by rw [k2.old _ (ha a ha').1]; exact (ha a ha').2⟩⟩, k2.blk h.mb hl.1, k2.blk h.p hl.2.1, k2.blk h.res hl.2.2, h.src.chg k2.chg (fun a ha' hf => by have := (ha a ha').2; unfold kx at hf; omega), h.lo⟩
theorem WbS.ends (h : WbS L w D obj p l sp G s X) (q : Pt) : ShPost 5 L w D s (X.setRow (G + 1 + 1) (a8 q).toArray) ∧ Blk (X.setRow (G + 1 + 1) (a8 q).toArray) (G + 1 + 1) (a8 q) 28 := by
 obtain ⟨⟨L1, v1, h1, h2, h3, h4⟩, k1, k2, k3, k4, k5⟩ := h;have hc := tf X (G + 1 + 1) (a8 q).toArray;have hz : (X.setRow (G + 1 + 1) (a8 q).toArray).heap.size = X.heap.size := by simp
 refine ⟨⟨L1, v1, h1.out hc (fun g e _ => .inl (by rw [e]; exact h3.2.2)) (fun _ _ => .inl rfl) (fun g hg => by rw [hz]; exact h1.lt g hg), ?_⟩, k3.row _⟩;exact ⟨h2.chg.trans hc (fun g e => by right; have : g = G + 1 + 1 := e; omega), h2.old, h2.new⟩
structure WiS (L : Nat → Nat) (w : World) (D obj : Nat) (p : Pt) (l : List Lf) (sp : Option Addr) (G ga gb : Nat) (was now : List Pt) (s : Sh) (X : World) : Prop where
 b : WbS L w D obj p l sp G s X
 wa : Blk X ga (ah was) 170
 nw : Blk X gb (ah now) 170
 ne : w.heap.size ≤ ga ∧ w.heap.size ≤ gb ∧ ga ≠ gb ∧ G < ga ∧ G + 1 < ga ∧ G + 1 + 1 < ga ∧ G + 1 + 1 < gb
 lab : ∃ L1 v1, ShAt X L1 D s v1 ∧ Mv 5 L w L1 X ∧ (L1 G = 0 ∧ L1 (G + 1) = 0 ∧ L1 (G + 1 + 1) = 0) ∧ (∀ a, sp = some a → a.block < X.heap.size ∧ (L1 a.block = 0 ∨ L1 a.block = 10) ∧ a.block ≠ gb) ∧ L1 ga = 0 ∧ L1 gb = 0
theorem WiS.below (h : WiS L w D obj p l sp G ga gb was now s X) (hb : Below X.heap.size X Y) : WiS L w D obj p l sp G ga gb was now s Y := by
 obtain ⟨h0, k1, k2, k3, ⟨L1, v1, h1, h2, h3, h4, h5⟩⟩ := h;exact ⟨h0.below hb, k1.below hb k1.lt, k2.below hb k2.lt, k3, ⟨L1, v1, h1.below hb, h2.trans (Mv.of_below hb h1.lt), h3, fun a ha => ⟨Nat.lt_of_lt_of_le (h4 a ha).1 hb.size, (h4 a ha).2⟩, h5⟩⟩
theorem WiS.moved (h : WiS L w D obj p l sp G ga gb was now s X) (hm : Mv 5 L w L1 X) (hl : L1 G = 0 ∧ L1 (G + 1) = 0 ∧ L1 (G + 1 + 1) = 0) (ha : ∀ a, sp = some a → a.block < X.heap.size ∧ (L1 a.block = 0 ∨ L1 a.block = 10) ∧ a.block ≠ gb) (hg : L1 ga = 0 ∧ L1 gb = 0) (hp : ShPost 5 L1 X D s' Y) : WiS L w D obj p l sp G ga gb was now s' Y := by
 have hb := h.b.moved hm hl (fun a ha' => ⟨(ha a ha').1, (ha a ha').2.1⟩) hp;obtain ⟨L2, v2, k1, k2⟩ := hp;exact ⟨hb, k2.blk h.wa hg.1, k2.blk h.nw hg.2, h.ne, ⟨L2, v2, k1, hm.trans k2, ⟨(k2.old _ h.b.mb.lt).trans hl.1, (k2.old _ h.b.p.lt).trans hl.2.1, (k2.old _ h.b.res.lt).trans hl.2.2⟩, fun a ha' => ⟨Nat.lt_of_lt_of_le (ha a ha').1 k2.size, by rw [k2.old _ (ha a ha').1]; exact (ha a ha').2.1, (ha a ha').2.2⟩, (k2.old _ h.wa.lt).trans hg.1, (k2.old _ h.nw.lt).trans hg.2⟩⟩
theorem WiS.put (h : WiS L w D obj p l sp G ga gb was now s X) (hn : NOK now) (hi : i < 8) {q : Pt} (hq : q.OK) : WiS L w D obj p l sp G ga gb was (now.set i q) s (X.setCells gb (i * 41) (a8 q)) := by
 obtain ⟨h0, k1, k2, k3, ⟨L1, v1, h1, h2, h3, h4, h5⟩⟩ := h;have hc := Chg.setsG (fun k => k = gb) rfl (a8 q) (i * 41) X;have hz := jr gb (a8 q) (i * 41) X;have hs : ShAt (X.setCells gb (i * 41) (a8 q)) L1 D s v1 := h1.out hc (fun g e _ => .inl (by rw [e]; exact h5.2)) (fun _ _ => .inl rfl) (fun g hg => by rw [hz]; exact h1.lt g hg);have hm : Mv 5 L w L1 (X.setCells gb (i * 41) (a8 q)) := ⟨h2.chg.trans hc (fun g e => by right; have : g = gb := e; omega), h2.old, h2.new⟩;have nG : ∀ g, g < gb ∨ g ≠ gb → ¬ g = gb := fun g hg e => by omega
 obtain ⟨⟨_, _, _, _, _, _⟩, j1, j2, j3, j4, j5⟩ := h0;exact ⟨⟨⟨L1, v1, hs, hm, h3, fun a ha => ⟨by rw [hz]; exact (h4 a ha).1, (h4 a ha).2.1⟩⟩, j1.chg hc (by omega), j2.chg hc (by omega), j3.chg hc (by omega), j4.chg hc (fun a ha => (h4 a ha).2.2), j5⟩, k1.chg hc k3.2.2.1, E4 hn k2 hi (Nat.mul_comm i 41) hq, k3, ⟨L1, v1, hs, hm, h3, fun a ha => ⟨by rw [hz]; exact (h4 a ha).1, (h4 a ha).2⟩, h5⟩⟩
theorem J0 (sp : Option Addr) (N cap n : Nat) (hn : n ≤ N) (hc : N ≤ cap) : ∃ sp2, (∀ W : World, (Instr.sliceAt 95 (.slice sp N cap) (some (.int .i64 (n : Int))) none none).run Tryz.prog W = .ok (.slice sp2 (N - n) (cap - n)) W) ∧ (∀ W (l : List Lf), l.length = N → SrcF W sp l → SrcF W sp2 (l.drop n)) ∧ ∀ a, sp2 = some a → ∃ a0, sp = some a0 ∧ a.block = a0.block := by
 refine ⟨if cap = n then sp else sp.map (·.add (n * 42)), fun W => ?_, fun W l hl h h0 => ?_, fun a ha => ?_⟩
 ·rw [run_sliceAt_slice W 95 _ _ _ _ K6, run_slice_l W 95 sp N cap K6 .i64 n (by omega) (by omega), Rh, M0]
  simp [Result.andThen, sliced]
 ·rw [List.length_drop, hl] at h0
  obtain ⟨g, o, e, hg, hr⟩ := h (by omega);rw [if_neg (by omega)];refine ⟨g, o + n * 42, by rw [e]; simp only [Option.map_some, Addr.add_mid], hg, fun i x hx => ?_⟩;rw [List.getElem?_drop] at hx;have := hr (n + i) x hx;rw [Nat.add_mul, ← Nat.add_assoc] at this;exact this
 ·split at ha
  ·exact ⟨a, ha, rfl⟩
  ·cases sp with
   | none => cases ha
   | some b => simp at ha; subst ha; exact ⟨b, rfl, by unfold Addr.add; split <;> rfl⟩
theorem SrcF.take {W : World} (h : SrcF W sp l) (n : Nat) : SrcF W sp (l.take n) := fun h0 => by
 obtain ⟨g, o, e, hg, hr⟩ := h (by rw [List.length_take] at h0; omega);refine ⟨g, o, e, hg, fun i x hx => ?_⟩;rw [List.getElem?_take] at hx;split at hx
 ·exact hr i x hx
 ·cases hx
theorem Xq {a : Nat} {t : TypeId} (ho : o.op = .binOp .rem 24 x y t) (hx : ρ x = .int .u32 (a : Int)) (hy : ρ y = .int .u32 8) : (execOp ρ o).run Tryz.prog w = .ok (.value (.int .u32 ((a % 8 : Nat) : Int))) w := by
 have e : (a : Int).tmod 8 = (a : Int) % 8 := Int.tmod_eq_emod_of_nonneg (by omega);unfold execOp;simp only [ho];go_simp
theorem Kj {g : Nat} (hi : i < 8) (ho : o.op = .indexAddr 170 x y) (hx : ρ x = .pointer (some ⟨g, 0, none⟩)) (hy : ρ y = .int .u32 (i : Int)) : (execOp ρ o).run Tryz.prog w = .ok (.value (.pointer (some ⟨g, i * 41, none⟩))) w := by
 have h1 : (i : Int) < 8 := by omega
 have h0 : (0 : Int) ≤ (i : Int) := by omega
 unfold execOp;simp only [ho];go_simp
section
variable {ops : Array Oper} {Q : Exit → Act → World → Prop} {S : World → Prop}
theorem Zj {r : Tr} {a : Act} (o : Oper) (hi : ops.toList[i]? = some o) (hw : Region.wanted o (yielded ops a.tmps) = true) (ty : TypeId) (x y : Operand) (ho : o.op = .store ty x y) (b off : Nat) (cells : Array Value) (hx : a.eval x = .pointer (some ⟨b, off, none⟩)) (hy : a.eval y = .agg cells) (ht : w.there b off cells.size) (hs : (Tryz.prog.info? ty).map (·.size) = some cells.size) (h1 : cells.all (·.oneCell') = true)
  (S' : World → Prop) (hSS : ∀ w, S' w → S w) (hS : S' (w.setCells b off cells.toList)) (h : wpG Tryz.prog ops Q r S' (a.put o.dst undef) (w.setCells b off cells.toList)) : wpG Tryz.prog ops Q (.step i r) S a w := by
 refine At o hi hw fun K hK => ?_
 exact wpList_store_mid rfl ty x y ho b off cells hx hy ht hs h1 (ko (hK _ _ S' hSS hS h))
end
theorem a2f : Jw 0 := by
 intro w L D obj s v m p hp hobj l hok sp cap hc hl hS hsp h hk hm;have a4 := zH hp
 have HX : Hid (∀ z, z = (a8 zeroP).toArray → WbS L w D obj p l sp w.heap.size s (((w.alloc (.cells (bv D obj).toArray 145)).alloc (.cells (a8 p).toArray 28)).alloc (.cells z 28))) := zH (fun z hz => by
  subst hz;have a3 : Below w.heap.size w (((w.alloc (.cells (bv D obj).toArray 145)).alloc (.cells (a8 p).toArray 28)).alloc (.cells (a8 zeroP).toArray 28)) := (((Below.refl _ _).alloc (Nat.le_refl _) _).alloc (by simp) _).alloc (by simp; omega) _
  exact ⟨⟨L, v, h.below a3, Mv.of_below a3 h.lt, ⟨h.not (Nat.le_refl _), h.not (by omega), h.not (by omega)⟩, fun a ha => ⟨Nat.lt_of_lt_of_le (hsp a ha).1 a3.size, (hsp a ha).2⟩⟩, ((Blk.new _ _ _).alloc _).alloc _, (Blk.new' _ _ _ _ _ (by simp) rfl).alloc _, Blk.new' _ _ _ _ _ (by simp) rfl, hS.grown a3, Nat.le_refl _⟩)
 have ab := zH hok;obtain ⟨N, hN⟩ : ∃ N, l.length = N := ⟨_, rfl⟩;have HN := zH hN; have HK := zH hk;rw [hN] at hc hl ⊢;have HC := zH hc; have HL := zH hl;obtain ⟨r, hr⟩ : ∃ r, c7 obj 0 s p l = r := ⟨_, rfl⟩;have HR : Hid (r = if l = [] then ⟨p, 0, s⟩ else ⟨(l.getD 0 dl).2, 0, s⟩) := zH hr.symm;rw [hr];generalize hPost : (fun e w' => e = Ending.returned (.tuple #[.agg (a8 r.p).toArray, .int .i64 (r.e : Int)]) ∧ ShPost 5 L w D r.s w' ∧ Lim (m + cW 0) r.s ∧ r.p.OK) = Post;have HP : Hid (∀ w', ShPost 5 L w D r.s w' → Lim m r.s → r.p.OK → Post (.returned (.tuple #[.agg (a8 r.p).toArray, .int .i64 (r.e : Int)])) w') := zH fun w' h2 h3 h4 => by rw [← hPost]; exact ⟨rfl, h2, h3, h4⟩
 have af := zH (bh hp);have ah : Hid ((a8 zeroP).toArray.size = (a8 p).toArray.size) := zH (by rw [List.size_toArray, List.size_toArray, aa hp, aa ak]);clear hp hobj hok hc hl hS hsp h hk hm hN hr hPost;go_enter Tryz.func73, Tryz.ntmps73
 go_upto_region 1 with fail
 refine (fun (k : ∀ W, WbS L w D obj p l sp w.heap.size s W → Code.wp _ _ _ _ W) => k _ (HX.out _ rfl)) ?_;intro W hW;obtain ⟨G, hG⟩ : ∃ g, w.heap.size = g := ⟨_, rfl⟩;rw [hG] at hW ⊢;have a1 := zH hW;have a5 := zH hW.res;clear hW HX hG;by_cases h0 : N = 0
 ·subst h0
  have a7 : l = [] := List.eq_nil_of_length_eq_zero HN.out;obtain rfl : r = ⟨p, 0, s⟩ := by rw [HR.out, if_pos a7]
  have a0 := zH (a1.out.ends p);have HE := zH (HP.out _ a0.out.1 HK.out a4.out);clear a7 HR HP;rw [show ((0 : Nat) : Int) = (0 : Int) from rfl]
  go_wp2_with (first | (refine a9 rfl (ax a4.out a1.out.p rfl rfl) ?_) | (refine wpList_store_row rfl 28 (.tmp 8) (.tmp 19) rfl (G + 1 + 1) (a8 p).toArray rfl rfl 28 _ a5.out af.out ah.out (bb p) ?_) | fail)
  refine bodyPost_ret (b9 Tryz.results73 _ _ (G + 1 + 1) 28 _ rfl a0.out.2 (bo a4.out)) rfl ?_;exact HE.out
 ·obtain ⟨x, hx⟩ : ∃ x, l[0]? = some x := ⟨_, List.getElem?_eq_getElem (by have := HN.out; omega)⟩
  obtain ⟨g, o', rfl, hg⟩ := a1.out.src.form (by have := HN.out; omega);have a6 : l.getD 0 dl = x := (by rw [List.getD_eq_getElem?_getD, hx]; rfl);obtain rfl : r = ⟨x.2, 0, s⟩ := by rw [HR.out, if_neg (fun e => by rw [e] at hx; cases hx), a6]
  have a2 : Hid (Lf.OK x) := zH (ab.out x (List.mem_of_getElem? hx))
  have ad : Hid (W.rangeAt g (o' + 1) (a8 x.2)) := zH (by
   have := oz (a1.out.src.at hx);rw [Nat.zero_mul, Nat.add_zero] at this
   exact this)
  have a0 := zH (a1.out.ends x.2);have HE := zH (HP.out _ a0.out.1 HK.out a2.out.2);have ae := zH (bh a2.out.2);have ag : Hid ((a8 zeroP).toArray.size = (a8 x.2).toArray.size) := zH (by rw [List.size_toArray, List.size_toArray, aa a2.out.2, aa ak]);have ai : ((N : Int) == 0) = false := (by simp; omega);have aj : 0 < N := (by omega);have al : (0 : Int) < (N : Int) := (by omega);have am : ¬ N ≤ 0 := (by omega);clear hx a6 HR HP hg
  go_wp2_with (first | (refine a9 rfl (c6 (ty := 28) (cs := a8 x.2) rfl rfl ad.out Tryz.underlying28 rfl (by rw [dw, aa a2.out.2])) ?_) | (refine wpList_store_row rfl 28 (.tmp 8) (.tmp 25) rfl (G + 1 + 1) (a8 x.2).toArray rfl rfl 28 _ a5.out ae.out ag.out (bb x.2) ?_) | fail)
  refine bodyPost_ret (b9 Tryz.results73 _ _ (G + 1 + 1) 28 _ rfl a0.out.2 (bo a2.out.2)) rfl ?_;exact HE.out
end Go.Proofs.YtjgjohdeeeoeoaaGreatDoor
