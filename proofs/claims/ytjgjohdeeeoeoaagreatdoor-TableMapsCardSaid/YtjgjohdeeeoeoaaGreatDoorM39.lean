/- Tables within a law's frame. -/
import Derived.Test.YtjgjohdeeeoeoaaGreatDoorM38
import Derived.Test.YtjgjohdeeeoeoaaGreatDoorM36
import Derived.Test.YtjgjohdeeeoeoaaGreatDoorM30
set_option linter.all false
namespace Go.Proofs.YtjgjohdeeeoeoaaGreatDoor
open Go.RowKit
attribute [local go_sem] Oper.semAt_some
variable {bs : Bxs} {hv : List Ino} {l : List Itm} {mids : List Pt} {B D cap g k m n off : Nat} {sp : Option Addr} {p : Pt} {s : Sh} {v : Value} {W X : World}
theorem BlkOK.nwS (h : BlkOK s) {b : Bs} (hb : b.length ≤ 100000) : BlkOK (nwS s p b) := by
 unfold Go.Proofs.YtjgjohdeeeoeoaaGreatDoor.nwS;split
 ·exact h
 ·intro c hc
  rcases List.mem_append.1 hc with hc | hc
  ·exact h c hc
  ·simp at hc; subst hc; exact hb
theorem Sm {f : Sh → Pt → List Lf → Ww} {was : List Pt} (hf : ∀ s q l, BlkOK s → q.OK → (∀ x ∈ l, Lf.OK x) → BlkOK (f s q l).s ∧ (f s q l).p.OK) (wide : Nat) (hw : NOK was) : ∀ (fuel : Nat) (s : Sh) (now : List Pt) (l : List Lf), BlkOK s → NOK now → (∀ x ∈ l, Lf.OK x) → BlkOK (goW f wide was fuel s now l).s ∧ NOK (goW f wide was fuel s now l).now
 | 0, s, now, l, h1, h2, _ => ⟨h1, h2⟩
 | fuel + 1, s, now, l, h1, h2, h3 => by
  by_cases h0 : l = []
  ·subst h0; rw [yn]; exact ⟨h1, h2⟩
  ·have hq : (was.getD ((l.getD 0 dl).1 / wide % 8) zeroP).OK := by
    rw [List.getD_eq_getElem?_getD];cases hg : was[(l.getD 0 dl).1 / wide % 8]? with
    | none => exact ak
    | some q => exact hw.ok q (List.mem_of_getElem? hg)
   have hr := hf s _ (l.take (d7 wide l)) h1 hq (fun x hx => h3 x (List.mem_of_mem_take hx));by_cases he : (f s (was.getD ((l.getD 0 dl).1 / wide % 8) zeroP) (l.take (d7 wide l))).e = 0
   ·rw [zk h0 he]
    exact Sm hf wide hw fuel _ _ _ hr.1 (h2.set _ hr.2) (fun x hx => h3 x (List.mem_of_mem_drop hx))
   ·unfold goW
    rw [if_neg h0, if_pos he];exact ⟨hr.1, h2⟩
theorem M8 {obj : Nat} (ho : obj < 65536) : ∀ (n : Nat) (s : Sh) (p : Pt) (l : List Lf), n ≤ 2 → BlkOK s → p.OK → (∀ x ∈ l, Lf.OK x) → BlkOK (c7 obj n s p l).s ∧ (c7 obj n s p l).p.OK
 | 0, s, p, l, _, h1, h2, h3 => by
  unfold c7;split
  ·exact ⟨h1, h2⟩
  ·refine ⟨h1, ?_⟩
   rename_i h0
   cases l with
   | nil => exact absurd rfl h0
   | cons x l => exact (h3 x (by simp)).2
 | n + 1, s, p, l, hn, h1, h2, h3 => by
  rw [iz];split
  ·exact ⟨h1, h2⟩
  ·rename_i h0
   split
   ·exact ⟨h1.same (uw s p), ak⟩
   ·obtain ⟨g1, g2⟩ := Sm (f := c7 obj n) (fun s q l a b c => M8 ho n s q l (by omega) a b c) (8 ^ n) (Ac s p) l.length (rnS s p) (rnN s p) l (h1.same (uw s p)) (Ac s p) h3
    generalize goW (c7 obj n) (8 ^ n) (rnN s p) l.length (rnS s p) (rnN s p) l = g at g1 g2
    have a2 : (l.getD 0 dl).1 / 8 ^ (n + 1) < 4294967296 := by
     cases l with
     | nil => exact absurd rfl h0
     | cons x l => exact Nat.lt_of_le_of_lt (Nat.div_le_self _ _) (h3 x (by simp)).1
    unfold u5;split
    ·exact ⟨g1, ak⟩
    ·split
     ·exact ⟨g1, h2⟩
     ·have a0 : BlkOK (qr g.s p (n + 1) (rnN s p) g.now) := by
       rcases (show n = 0 ∨ n = 1 by omega) with rfl | rfl
       ·rw [Fd]; exact g1
       ·rw [Fe]; exact g1
      have a1 : (co g.now).length ≤ 100000 := (by rw [jf g2.ok, g2.len]; omega);constructor
      ·unfold anS
       split
       ·exact a0
       ·split
        ·exact a0
        ·exact a0.nwS a1
      ·unfold anP
       split
       ·exact ak
       ·split
        ·exact ak
        ·exact zz (sx (by omega) ho a2) _
theorem Z1 {l : List Lf} (h1 : BlkOK s) (h2 : p.OK) (h3 : ∀ x ∈ l, Lf.OK x) : BlkOK (vh s p 0 l).s := by
 unfold vh;split
 ·exact h1
 ·split
  ·exact h1
  ·exact (M8 (by omega) 2 s p l (Nat.le_refl _) h1 h2 h3).1
theorem Ux {p : Pt} {l : List Itm} (hok : ∀ x ∈ l, Itm.OK x) : ∀ (os : List Nat) (s : Sh) (ls : List Lf), (∀ o ∈ os, o < 64) → BlkOK s → (∀ x ∈ ls, Lf.OK x) → BlkOK (dz p l os s ls).s ∧ ∀ x ∈ (dz p l os s ls).l, Lf.OK x
 | [], s, ls, _, h1, h2 => ⟨h1, h2⟩
 | off :: os, s, ls, ho, h1, h2 => by
  have a0 := ho off (by simp);have hb := h1.same (E2 s p off);have hw : BOK (jn p l s off) := (by unfold jn; exact Dz (Hb _ _ _) hok off);by_cases e : blE s p off = 0
  ·by_cases e2 : jn p l s off = blN s p off
   ·rw [Dm e e2]; exact Ux hok os _ _ (fun o h => ho o (by simp [h])) hb h2
   ·by_cases e3 : taE (blS s p off) (jn p l s off) = 0
    ·rw [Ix e e2 e3]
     refine Ux hok os _ _ (fun o h => ho o (by simp [h])) (hb.taS hw off) (fun x hx => ?_);rcases List.mem_append.1 hx with hx | hx
     ·exact h2 x hx
     ·simp at hx; subst hx
      exact ⟨by show off < 4294967296; omega, Vg (by omega)⟩
    ·rw [Uw e e2 e3]; exact ⟨hb.taS hw off, fun x hx => by cases hx⟩
  ·rw [Iw e]; exact ⟨hb, fun x hx => by cases hx⟩
theorem Vs (hok : ∀ x ∈ l, Itm.OK x) (h1 : BlkOK s) (h2 : p.OK) : BlkOK (tsR s p l).s := by
 unfold tsR;obtain ⟨g1, g2⟩ := Ux (p := p) hok (dr l) s [] (fun o h => (wj h).1) h1 (fun x hx => by cases hx);split
 ·exact h1
 ·split
  ·exact g1
  ·exact Z1 g1 h2 g2
theorem Gf : ∀ (l : List Itm) (i : Nat) (x : Itm), (∀ y ∈ l, Itm.OK y) → l[i]? = some x → ∀ j, j < 45 → (trI l)[i * 45 + j]? = (tcI x)[j]?
 | [], i, x, _, h, _, _ => by simp at h
 | y :: l, 0, x, hq, h, j, hj => by
  simp only [List.getElem?_cons_zero, Option.some.injEq] at h;subst h;have := bw (hq y (by simp)).2;show (tcI y ++ trI l)[0 * 45 + j]? = _;rw [List.getElem?_append_left (by omega)];congr 1;omega
 | y :: l, i + 1, x, hq, h, j, hj => by
  have h0 : l[i]? = some x := (by simpa using h);have hl := bw (hq y (by simp)).2;have ih := Gf l i x (fun z hz => hq z (by simp [hz])) h0 j hj;show (tcI y ++ trI l)[(i + 1) * 45 + j]? = _;rw [List.getElem?_append_right (by omega), ← ih];congr 1;omega
theorem OwnT.at (h : OwnT X B v l) (hok : ∀ x ∈ l, Itm.OK x) (h0 : 0 < l.length) : ∃ g cap, v = .slice (some ⟨g, 0, none⟩) l.length cap ∧ l.length ≤ cap ∧ ∀ i x, l[i]? = some x → X.rangeAt g (i * 45) (tcI x) := by
 rcases h.2 with ⟨_, e⟩ | ⟨g, cap, cur, rfl, _, hg, hc, _, hs, ht⟩
 ·omega
 ·refine ⟨g, cap, rfl, hc, fun i x hx j u hu => ?_⟩
  have hb : Blk X g cur.toList 76 := (by unfold Blk; simpa using hg);have hj : j < 45 := (by have := (List.getElem?_eq_some_iff.1 hu).1; rw [bw (hok x (List.mem_of_getElem? hx)).2] at this; exact this);have hi := (List.getElem?_eq_some_iff.1 hx).1;refine hb.cell ?_;have e := Gf l i x hok hx j hj;rw [hu, ← ht, List.getElem?_take, if_pos (by omega)] at e;exact e
theorem Z9 (h : OwnT X B v l) (hok : ∀ x ∈ l, Itm.OK x) : ∃ sp cap, v = .slice sp l.length cap ∧ l.length ≤ cap ∧ SrcT X sp l := by
 by_cases h0 : 0 < l.length
 ·obtain ⟨g, cap, e, hc, hr⟩ := h.at hok h0
  refine ⟨_, cap, e, hc, fun _ => ⟨g, 0, rfl, ?_, fun i x hx => by rw [Nat.zero_add]; exact hr i x hx⟩⟩;exact (h.lt g (by rw [e]; rfl)).2
 ·rcases h.2 with ⟨e2, _⟩ | ⟨g, cap2, cur, e2, _, _, hc2, _⟩
  ·exact ⟨none, 0, by rw [e2]; congr 1; omega, by omega, fun h => absurd h h0⟩
  ·exact ⟨_, _, e2, hc2, fun h => absurd h h0⟩
theorem Kz {w : World} {lb : Bxs} (h : Fr w D s bs X) (p : Pt) (hp : p.OK) (l : List Itm) (hok : ∀ x ∈ l, Itm.OK x) (hl : l.length ≤ 40) (hr : RowB 76 45 lb v l.length (trI l)) (hs : ∀ y ∈ lb, y ∈ bs) (hk : Lim m s) (hm : m + 3715 < 100000000) (hb : BlkOK s) :
  Calls Tryz.prog 15 #[shI D, .agg (a8 p).toArray, v] X fun e Y => e = .returned (.tuple #[.agg (a8 (tsR s p l).p).toArray, .int .i64 ((tsR s p l).e : Int)]) ∧ Fr w D (tsR s p l).s bs Y ∧ Lim (m + 3715) (tsR s p l).s ∧ (tsR s p l).p.OK := by
 have ho : OwnT X 0 v l := h.row hr hs;obtain ⟨L1, v1, h1, h2, h3, h4, h5⟩ := h.call;obtain ⟨sp, a1, e, hc, hS⟩ := Z9 ho hok
 have a0 : ∀ a, sp = some a → a.block < X.heap.size ∧ (L1 a.block = 0 ∨ L1 a.block = 10) := fun a ha => by
  have e1 : v.ownBlock = some a.block := (by rw [e, ha]; rfl);obtain ⟨y, hy, e2⟩ := hr.blk e1;refine ⟨by rw [← e2]; exact (h.bx y (hs y hy)).lt, .inl ?_⟩;rw [← e2];exact h4 y (hs y hy)
 subst e;refine (Q9 p hp l hok sp a1 hc hl hS a0 h1 h2 hk hm hb).mono ?_;rintro e Y ⟨e1, e2, e3, e4⟩;exact ⟨e1, h5 _ Y e2, e3, e4⟩
theorem Cx {w : World} (h : Fr w D s bs X) (p : Pt) (hp : p.OK) (num : Nat) (hn : num < 65536) (hk : Lim m s) (hm : m + 74 < 100000000) (hb : BlkOK s) :
  Calls Tryz.prog 20 #[shI D, .agg (a8 p).toArray, .int .u16 (num : Int)] X fun e Y => e = .returned (.tuple #[.agg (af (gtN s p num)).toArray, .int .i64 (gtE s p num : Int)]) ∧ Fr w D (gtS s p num) bs Y ∧ Lim (m + 74) (gtS s p num) := by
 obtain ⟨L1, v1, h1, h2, h3, h4, h5⟩ := h.call;refine (Q8 p hp num hn h1 h2 hk hm ((hb.same (sc _ _ _)).rdB _)).mono ?_;rintro e Y ⟨e1, e2, e3⟩;exact ⟨e1, h5 _ Y e2, e3⟩
theorem Ii : ∀ (h : List Pt) (i : Nat) (x : Lf), x ∈ nz i h → i ≤ x.1 ∧ x.1 < i + h.length
 | [], _, _, hx => by cases hx
 | q :: h, i, x, hx => by
  simp only [nz] at hx;rw [List.length_cons];split at hx
  ·have := Ii h (i + 1) x hx; omega
  ·rcases List.mem_cons.1 hx with rfl | hx
   ·exact ⟨Nat.le_refl _, by show i < _; omega⟩
   ·have := Ii h (i + 1) x hx; omega
theorem Ty : ∀ (h : List Pt) (i : Nat), (nz i h).length ≤ h.length
 | [], _ => Nat.le_refl _
 | q :: h, i => by
  simp only [nz];have := Ty h (i + 1);split
  ·rw [List.length_cons]; omega
  ·rw [List.length_cons, List.length_cons]; omega
theorem Tv {root : Pt} (h : mids.length = 8) : (dq root mids).length ≤ 9 := by
 unfold dq;split
 ·simp
 ·have := List.length_filter_le (fun q => !eqP q zeroP) mids
  rw [List.length_cons]; omega
theorem IsTab.root {bl : List Bs} {root : Pt} {h : List Pt} (ht : IsTab bl root hv h mids) : root.OK := ht.t.2.2.1.ok ⟨by omega, by omega⟩
theorem Ky {w : World} (h : Fr w D s bs X) {hh : List Pt} (ht : IsTab s.blocks p hv hh mids) (hbad : s.bad = []) (hk : Lim m s) (hm : m + 173 < 100000000) (hb : BlkOK s) :
  Calls Tryz.prog 21 #[shI D, .agg (a8 p).toArray] X fun e Y => ∃ ov nv ob nb rs s', e = .returned (.tuple #[ov, nv, .int .i64 0]) ∧ More s s' rs ∧ Fr w D s' (ob ++ (nb ++ bs)) Y ∧ Lim (m + 173) s' ∧
   RowB 76 45 ob ov (lh hv).length (trI (lh hv)) ∧ RowB 28 41 nb nv (dq p mids ++ (nz 0 hh).map (·.2)).length (ma (dq p mids ++ (nz 0 hh).map (·.2))) ∧ ∀ y ∈ ob ++ nb, X.heap.size ≤ y.1 := by
 obtain ⟨L1, v1, h1, h2, h3, h4, h5⟩ := h.call;obtain ⟨⟨a9, a6⟩, a7, a2, a3⟩ := E0 ht.t hbad;obtain ⟨rs, s', a0, a5⟩ := ht.all hbad;refine (Q7 p ht.root h1 h2 hk hm (fun q => (hb.same (Ma _ _)).rdB q) (fun x hx => by rw [a2] at hx; have := Ii hh 0 x hx; have := ht.t.1; omega) (by rw [a2]; have := Ty hh 0; have := ht.t.1; omega) (by rw [a3]; have := Tv (root := p) ht.t.2.2.1.1.len; omega)).mono ?_;rintro e Y ⟨ov, nv, lv, ls, e1, ⟨⟨L2, v2, k1, k2, k3, k4, k5⟩, lo, oo, no, og, ng⟩, e3⟩;rw [a5] at e1 e3 oo no k1;obtain ⟨ob, r1, r2⟩ := RowB.of oo;obtain ⟨nb, r3, r4⟩ := RowB.of no;have hF := h5 _ Y ⟨L2, v2, k1, k2⟩;obtain ⟨-, a4, a1⟩ := hF;refine ⟨ov, nv, ob, nb, rs, s', e1, a0, ⟨⟨L2, v2, k1, h2.mv k2, fun b hb => ?_, fun g hg => ?_⟩, fun b hb => ?_, a1⟩, e3, r1, r3, fun y hy => ?_⟩
 ·rcases List.mem_append.1 hb with hb | hb
  ·exact k4 _ (r2 b hb).2
  ·rcases List.mem_append.1 hb with hb | hb
   ·exact k5 _ (r4 b hb).2
   ·exact (k2.old _ (h.bx b hb).lt).trans (h4 b hb)
 ·rw [k2.old g (Nat.lt_of_lt_of_le hg h.bel.size)]
  exact h3 g hg
 ·rcases List.mem_append.1 hb with hb | hb
  ·exact (r2 b hb).1
  ·rcases List.mem_append.1 hb with hb | hb
   ·exact (r4 b hb).1
   ·exact a4 b hb
 ·rcases List.mem_append.1 hy with hy | hy
  ·exact og _ (r2 y hy).2
  ·exact ng _ (r4 y hy).2
structure AcU where
 l : List Itm
 sp : Option Addr
 cap : Nat
instance : Inhabited AcU := ⟨⟨[], none, 0⟩⟩
def yv (a : AcU) : List Value := [.slice a.sp a.l.length a.cap]
def Jo (w : World) (a : AcU) : Prop := SrcT w a.sp a.l ∧ a.l.length ≤ a.cap ∧ ∀ x ∈ a.l, Itm.OK x
def ActsU (w : World) (sp : Option Addr) (l : List AcU) : Prop :=
 (∀ a ∈ l, Jo w a) ∧ (0 < l.length → ∃ g o, sp = some ⟨g, o, none⟩ ∧ g < w.heap.size ∧ ∀ i a, l[i]? = some a → w.rangeAt g (o + i) (yv a))
theorem iv {w : World} (h : SrcT w sp l) (hb : Below w.heap.size w W) : SrcT W sp l := fun h0 => by
 obtain ⟨g, o, e, hg, hc⟩ := h h0;exact ⟨g, o, e, Nat.lt_of_lt_of_le hg hb.size, fun i a hi => sr (hc i a hi) hb hg⟩
theorem ActsU.grown {w : World} {l : List AcU} (h : ActsU w sp l) (hb : Below w.heap.size w W) : ActsU W sp l :=
 ⟨fun a ha => ⟨iv (h.1 a ha).1 hb, (h.1 a ha).2⟩, fun h0 => by
  obtain ⟨g, o, e, hg, hc⟩ := h.2 h0
  exact ⟨g, o, e, Nat.lt_of_lt_of_le hg hb.size, fun i a hi => sr (hc i a hi) hb hg⟩⟩
section
variable {ρ : Operand → Value} {o : Oper} {x y : Operand} {w : World}
theorem rq (ho : o.op = .indexAddr 43 x y) (hx : ρ x = .slice (some ⟨g, off, none⟩) n cap) (hy : ρ y = .int .i64 (k : Int)) (hk : k < n ∧ n ≤ cap) :
  (execOp ρ o).run Tryz.prog w = .ok (.value (.pointer (some ⟨g, off + k, none⟩))) w := by
 have h1 : ¬ n ≤ k := by omega
 unfold execOp;simp only [ho];go_simp
theorem rx {ad : Addr} (ho : o.op = .load 57 x) (hx : ρ x = .pointer (some ad)) (hc : w.cell? ad = some v) : (execOp ρ o).run Tryz.prog w = .ok (.value v) w := by
 unfold execOp; simp only [ho]; go_simp
theorem Kf (ho : o.op = .fieldAddr 59 x 0) (hx : ρ x = .pointer (some ⟨g, off, none⟩)) : (execOp ρ o).run Tryz.prog w = .ok (.value (.pointer (some ⟨g, off, none⟩))) w := by
 unfold execOp; simp only [ho]; go_simp
end
def om (l : List AcU) : Bool := decide (30 < l.length) || l.any (fun a => decide (30 < a.l.length))
set_option maxRecDepth 100000 in
set_option maxHeartbeats 4000000 in
theorem Jg (l : List AcU) (sp : Option Addr) (cap : Nat) (hc : l.length ≤ cap) (w : World) (hA : ActsU w sp l) : Calls Tryz.prog 14 #[.slice sp l.length cap] w fun e w' => e = .returned (.bool (om l)) ∧ Below w.heap.size w w' := by
 obtain ⟨N, hN⟩ : ∃ N, l.length = N := ⟨_, rfl⟩;rw [hN] at hc ⊢;have HN := zH hN; have HC := zH hc; have HA := zH hA;generalize hPost : (fun e w' => e = Ending.returned (.bool (om l)) ∧ Below w.heap.size w w') = Post;have a3 : Hid (∀ b w', om l = b → Below w.heap.size w w' → Post (.returned (.bool b)) w') := zH fun b w' e h => by rw [← hPost, ← e]; exact ⟨rfl, h⟩
 clear hN hc hA hPost;go_enter Tryz.func14, Tryz.ntmps14;by_cases hb : 30 < N
 ·have j1 : (30 : Int) < (N : Int) := by omega
  have HE := zH (a3.out true w (by unfold om; rw [HN.out, decide_eq_true hb]; rfl) (Below.refl _ _));clear hb
  go_wp2_with fail
  first | exact HE.out | (go_ret; exact HE.out)
 ·have j1 : ¬ (30 : Int) < (N : Int) := by omega
  have HB : Hid (N ≤ 30) := zH (by omega);clear hb
  go_wp2_with fail
  go_loopw [3] (fun i wr => ∃ k : Nat, k ≤ N ∧ i = .int .i64 (k : Int) ∧ (l.take k).any (fun a => decide (30 < a.l.length)) = false ∧ Below w.heap.size w wr) (fun i _ => N - (intOf i).toNat)
  case atStart => exact ⟨0, by omega, rfl, by simp, Below.refl _ _⟩
  case round =>
   clear j1;obtain ⟨k, hk, rfl, a0, a8⟩ := hrel;have a6 := zH a0; have a1 := zH a8;clear a0 a8;have ad := IntWalk.i64_in ((k : Int) + 1) (by have := HB.out; omega);by_cases hlt : k < N
   ·obtain ⟨q, hq⟩ : ∃ q, l[k]? = some q := ⟨_, List.getElem?_eq_getElem (by have := HN.out; omega)⟩
    obtain ⟨g, o, rfl, hg, aa⟩ := HA.out.2 (by have := HN.out; omega);have a5 : Hid (k < N ∧ N ≤ cap) := zH ⟨hlt, HC.out⟩;have a2 : Hid (wr.cell? ⟨g, o + k, none⟩ = some (.slice q.sp q.l.length q.cap)) := zH (sr (aa k q hq) a1.out hg 0 _ rfl)
    have a7 : Hid ((l.take (k + 1)).any (fun a => decide (30 < a.l.length)) = decide (30 < q.l.length)) := zH (by
     rw [j7 hq, List.any_append, a6.out]
     simp)
    have a4 : Hid (30 < q.l.length → om l = true) := zH fun h => by
     unfold om;rw [Bool.or_eq_true];exact .inr (List.any_eq_true.2 ⟨q, List.mem_of_getElem? hq, by simpa using h⟩)
    obtain ⟨m, hm⟩ : ∃ m, q.l.length = m := ⟨_, rfl⟩;rw [hm] at a2 a7 a4;clear hq hg aa hm;by_cases hz : 30 < m
    ·have j2 : (30 : Int) < (m : Int) := by omega
     have HE := zH (a3.out true wr (a4.out hz) a1.out);clear hz
     go_wp2_with (first | (refine a9 rfl (rq rfl rfl rfl a5.out) ?_) | (refine a9 rfl (Kf rfl rfl) ?_) | (refine a9 rfl (rx rfl rfl a2.out) ?_) | fail)
     first | exact HE.out | (go_ret; exact HE.out)
    ·have j2 : ¬ (30 : Int) < (m : Int) := by omega
     have ab := zH (a7.out.trans (decide_eq_false hz));clear hz
     go_wp2_with (first | (refine a9 rfl (rq rfl rfl rfl a5.out) ?_) | (refine a9 rfl (Kf rfl rfl) ?_) | (refine a9 rfl (rx rfl rfl a2.out) ?_) | fail)
     go_roundw
     case rel => exact ⟨k + 1, by omega, by go_num, ab.out, a1.out⟩
     case measure => simp [intOf]; omega
   ·obtain rfl : N = k := by omega
    have a0 : l.any (fun a => decide (30 < a.l.length)) = false := (by have := a6.out; rw [List.take_of_length_le (by have := HN.out; omega)] at this; exact this);have HE := zH (a3.out false wr (by unfold om; rw [a0, HN.out, decide_eq_false (by have := HB.out; omega)]; rfl) a1.out);clear hlt hk ad a0
    go_wp2_with fail
    first | exact HE.out | (go_ret; exact HE.out)
theorem Z6 : (Tryz.prog.info? 62).map (·.size) = some 44 := by kernel_rfl
theorem Ad {w : World} {x : Itm} (h : w.rangeAt g off (tcI x)) : w.rangeAt g (off + 1) (af x.2) := fun j v hj => by
 have h1 := h (j + 1) v (by simpa [tcI] using hj);rw [show off + 1 + j = off + (j + 1) by omega];exact h1
theorem eh {w : World} {x : Itm} (h : w.rangeAt g off (tcI x)) : w.cell? ⟨g, off, none⟩ = some (.int .u16 (x.1 : Int)) := h 0 _ rfl
theorem Dp {w : World} (h : SrcT w sp l) {x : Itm} (hk : l[k]? = some x) : ∃ g o, sp = some ⟨g, o, none⟩ ∧ w.rangeAt g (o + k * 45) (tcI x) := by
 have := (List.getElem?_eq_some_iff.1 hk).1;obtain ⟨g, o, e, _, hr⟩ := h (by omega);exact ⟨g, o, e, hr k x hk⟩
theorem vn {w : World} {o : Nat} (h : SrcT w (some ⟨g, o, none⟩) l) {x : Itm} (hk : l[k]? = some x) : w.rangeAt g (o + k * 45) (tcI x) := by
 obtain ⟨g', o', e, hr⟩ := Dp h hk;cases e;exact hr
section
variable {ρ : Operand → Value} {o : Oper} {x y : Operand} {w : World}
theorem dy (ho : o.op = .indexAddr 57 x y) (hx : ρ x = .slice (some ⟨g, off, none⟩) n cap) (hy : ρ y = .int .i64 (k : Int)) (hk : k < n ∧ n ≤ cap) :
  (execOp ρ o).run Tryz.prog w = .ok (.value (.pointer (some ⟨g, off + k * 45, none⟩))) w := by
 have h1 : ¬ n ≤ k := by omega
 unfold execOp;simp only [ho];go_simp
theorem ed (ho : o.op = .fieldAddr 64 x 0) (hx : ρ x = .pointer (some ⟨g, off, none⟩)) : (execOp ρ o).run Tryz.prog w = .ok (.value (.pointer (some ⟨g, off, none⟩))) w := by
 unfold execOp; simp only [ho]; go_simp
theorem zd (ho : o.op = .fieldAddr 64 x 1) (hx : ρ x = .pointer (some ⟨g, off, none⟩)) : (execOp ρ o).run Tryz.prog w = .ok (.value (.pointer (some ⟨g, off + 1, none⟩))) w := by
 unfold execOp; simp only [ho]; go_simp
theorem ez {n : Ino} (hn : n.OK) (hr : w.rangeAt g off (af n)) (ho : o.op = .load 62 x) (hx : ρ x = .pointer (some ⟨g, off, none⟩)) : (execOp ρ o).run Tryz.prog w = .ok (.value (.agg (af n).toArray)) w :=
 c6 (ty := 62) (cs := af n) ho hx hr Tryz.underlying62 rfl (by rw [Z6, am hn])
end
theorem E1 {w Y : World} (hb : Below w.heap.size w X) (hg : X.grownBy Y v.ownBlock) (ho : OwnT X w.heap.size v l) : Below w.heap.size w Y :=
 ⟨hg.os.trans hb.os, hg.tape.trans hb.tape, hg.output.trans hb.output, Nat.le_trans hb.size hg.size, fun k hk => by
  rw [hg.block k (Nat.lt_of_lt_of_le hk hb.size) (fun e => by have := (ho.lt k e.symm).1; omega)]
  exact hb.block k hk⟩
def Qv (w : World) (l : List Itm) (e : Ending) (Y : World) : Prop := ∃ v, e = .returned v ∧ OwnT Y w.heap.size v l ∧ Below w.heap.size w Y
set_option maxRecDepth 100000 in
set_option maxHeartbeats 8000000 in
theorem Jh (l : List Itm) (hok : ∀ x ∈ l, Itm.OK x) (sp : Option Addr) (cap : Nat) (hc : l.length ≤ cap) (hl : l.length ≤ 1000) (w : World) (hS : SrcT w sp l) : Calls Tryz.prog 16 #[.slice sp l.length cap] w (Qv w l) := by
 obtain ⟨N, hN⟩ : ∃ N, l.length = N := ⟨_, rfl⟩;rw [hN] at hc hl ⊢;have HN := zH hN; have HC := zH hc; have HL := zH hl; have HS := zH hS; have ak := zH hok;have a8 : Hid (OwnT w w.heap.size (.slice none 0 0) (l.take 0)) := zH ⟨rfl, .inl ⟨rfl, rfl⟩⟩;generalize hPost : Qv w l = Post;have al : Hid (∀ v Y, OwnT Y w.heap.size v l → Below w.heap.size w Y → Post (.returned v) Y) := zH fun v Y h1 h2 => by rw [← hPost]; exact ⟨v, rfl, h1, h2⟩
 clear hN hc hl hS hok hPost;go_enter Tryz.func16, Tryz.ntmps16
 go_wp2_with fail
 go_loopw [3, 4] (fun v0 i wr => ∃ (k : Nat) (v : Value), k ≤ N ∧ i = .int .i64 (k : Int) ∧ v = v0 ∧ OwnT wr w.heap.size v (l.take k) ∧ Below w.heap.size w wr) (fun _ i _ => N - (intOf i).toNat)
 case atStart => exact ⟨0, _, by omega, rfl, rfl, a8.out, Below.refl _ _⟩
 case round =>
  clear a8;obtain ⟨k, v, hk, rfl, rfl, ho, aa⟩ := hrel;have HO := zH ho; have a4 := zH aa;clear ho aa;have an := IntWalk.i64_in ((k : Int) + 1) (by have := HL.out; omega);by_cases hlt : k < N
  ·obtain ⟨q, hq⟩ : ∃ q, l[k]? = some q := ⟨_, List.getElem?_eq_getElem (by have := HN.out; omega)⟩
   have ag := ak.out q (List.mem_of_getElem? hq);obtain ⟨g, o, rfl, -⟩ := Dp HS.out hq;have a0 : Hid (k < N ∧ N ≤ cap) := zH ⟨hlt, HC.out⟩;have HR : Hid (∀ X, Below w.heap.size w X → X.rangeAt g (o + k * 45) (tcI q)) := zH fun X hb => vn (iv HS.out hb) hq
   have am : Hid (l.take (k + 1) = l.take k ++ [q]) := zH (j7 hq);have HQ := zH ag;have ai : Hid ((l.take k).length < 100000000) := zH (by rw [List.length_take]; have := HN.out; have := HL.out; omega);obtain ⟨qn, qi⟩ := q;clear hq ag
   go_upto_region 5 with fail
   obtain ⟨W1, a9⟩ : ∃ W, wr = W := ⟨_, rfl⟩;rw [a9] at HO a4 ⊢;clear a9;have a3 : Below w.heap.size w W1.drew := a4.out.trans ((Below.refl _ _).drew);refine gS ((.take 0 (.take 1 (.take 2 (.take 3 (.take 4 (.take 5 (.take 6 (.take 7 (.take 8 (.take 9 (.take 10 (.step 11 (.take 12 (.step 13 (.step 14 (.take 15 (.nil)))))))))))))))))) (fun X => Below w.heap.size w X) a3 ?_;refine gT (v) ?_;refine gT (.slice (some ⟨g, o, none⟩) N cap) ?_;refine gT (.int .i64 (k : Int)) ?_;refine gU (.pointer (some ⟨g, o + k * 45, none⟩)) rfl (fun X hX => dy rfl rfl rfl a0.out) ?_;refine gU (.pointer (some ⟨g, o + k * 45, none⟩)) rfl (fun X hX => ed rfl rfl) ?_;refine gU (.int .u16 (qn : Int)) rfl (fun X hX => az Tryz.underlying23 rfl rfl (eh (HR.out X hX))) ?_;refine gT (.slice (some ⟨g, o, none⟩) N cap) ?_;refine gT (.int .i64 (k : Int)) ?_;refine gU (.pointer (some ⟨g, o + k * 45, none⟩)) rfl (fun X hX => dy rfl rfl rfl a0.out) ?_;refine gU (.pointer (some ⟨g, o + k * 45 + 1, none⟩)) rfl (fun X hX => zd rfl rfl) ?_;refine gU (.agg (af qi).toArray) rfl (fun X hX => ez HQ.out.2 (Ad (HR.out X hX)) rfl rfl) ?_;refine b8 _ rfl (by rfl) 22 #[.agg (af qi).toArray] (fun X => by go_simp) (fun u X => u = .agg (af qi).toArray ∧ Below W1.drew.heap.size W1.drew X) ((Ge qi HQ.out.2 W1.drew).mono fun e X ⟨e1, e2⟩ => ⟨_, e1, a3.trans (e2.mono a3.size), rfl, e2⟩) ?_;rintro u Y1 a1 ⟨rfl, a6⟩;refine ⟨fun X => Below w.heap.size w X, fun _ h => h, a1, ?_⟩; try simp only [pS]
   refine gU (.agg (tcI (qn, qi)).toArray) rfl (fun X hX => n8 (f := qn) HQ.out.2 rfl rfl rfl) ?_;have a2 : Below w.heap.size w (Y1.alloc (.cells (tcI (qn, qi)).toArray 76)) := a1.trans ((Below.refl _ _).alloc a1.size _);refine bm _ rfl (by rfl) (.slice (some ⟨Y1.heap.size, 0, none⟩) 1 1) (Y1.alloc (.cells (tcI (qn, qi)).toArray 76)) (Ei (l := (qn, qi)) HQ.out.2 rfl rfl) (fun X => Below w.heap.size w X) a2 (fun _ h => h) ?_; try simp only [pS]
   have ab : Below W1.drew.heap.size W1.drew (Y1.alloc (.cells (tcI (qn, qi)).toArray 76)) := a6.trans ((Below.refl _ _).alloc a6.size _);have a7 : OwnT (Y1.alloc (.cells (tcI (qn, qi)).toArray 76)) w.heap.size v (l.take k) := bc (w := W1.drew) HO.out (Chg.of_below (F := fun _ => False) ab) (fun _ _ h => h);obtain ⟨v', w', hr, ae, ad, -⟩ := Fj a7 a2.size ai.out (x := (qn, qi)) HQ.out.2 (Blk.new Y1 (tcI (qn, qi)) 76) 55;have a5 : Below w.heap.size w w' := E1 a2 ad a7;refine bm _ rfl (by rfl) v' w' (zb rfl rfl rfl hr) (fun X => Below w.heap.size w X) a5 (fun _ h => h) ?_; try simp only [pS]
   refine gT (v') ?_;refine au ?_;have aj := zH ae; have ah := zH a5;clear a3 a1 a6 a2 ab a7 hr ae ad a5
   go_wp2_with fail
   go_roundw
   case rel => exact ⟨k + 1, _, by have := a0.out; omega, by go_num, rfl, by rw [am.out]; exact aj.out, ah.out⟩
   case measure => simp [intOf]; have := a0.out; omega
  ·obtain rfl : N = k := by omega
   have ho := HO.out;rw [List.take_of_length_le (by have := HN.out; omega)] at ho;have HE := zH (al.out _ _ ho a4.out);clear hlt hk an ho
   go_wp2_with fail
   first | exact HE.out | (go_ret; exact HE.out)
end Go.Proofs.YtjgjohdeeeoeoaaGreatDoor
