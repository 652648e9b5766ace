/- Take: what a reader reads as a pointer. -/
import Derived.Test.YtjgjohdeeeoeoaaGreatDoorM08
import Derived.Laws.CopyOwn
set_option linter.all false
namespace Go.Proofs.YtjgjohdeeeoeoaaGreatDoor
open Go.RowKit
variable {a : Act} {l rest rest' : Bs} {xs : List Nat} {G H e ee ee' g k off : Nat} {K : Nat → Prop} {p q : Pt} {t t' : TypeId} {W W' w' : World}
def Rs (l : Bs) (e k : Nat) (rest : Bs) (ee : Nat) : Prop := (ee = 0 ∧ e = 0 ∧ k ≤ l.length ∧ rest = l.drop k) ∨ (ee ≠ 0 ∧ ee = (if e = 0 then 4 else e) ∧ (e ≠ 0 ∨ l.length < 64) ∧ rest.length ≤ l.length)
theorem Rs.start (l : Bs) (e : Nat) : Rs l e 0 l e := by
 by_cases h : e = 0
 ·exact .inl ⟨h, h, Nat.zero_le _, rfl⟩
 ·exact .inr ⟨h, by rw [if_neg h], .inl h, Nat.le_refl _⟩
theorem Rs.len (h : Rs l e k rest ee) : rest.length ≤ l.length := by
 rcases h with ⟨_, _, _, rfl⟩ | ⟨_, _, _, h⟩
 ·simp
 ·exact h
theorem Rs.next (h : Rs l e k rest ee) (n : Nat) (hn : 0 < n) (hk : k + n ≤ 64) : Rs l e (k + n) (ap rest ee n).2.1 (ap rest ee n).2.2 ∧ ((ap rest ee n).2.2 = 0 → (ap rest ee n).1 = (l.drop k).take n) ∧ ((ap rest ee n).1.length = n ∨ (ap rest ee n).1 = []) := by
 rcases h with ⟨rfl, rfl, h2, rfl⟩ | ⟨h1, h2, h3, h4⟩
 ·by_cases hs : l.length - k < n
  ·have e1 : ap (l.drop k) 0 n = ([], l.drop k, 4) := by
    unfold ap;rw [if_neg (by omega), if_pos (by rw [List.length_drop]; omega)]
   rw [e1];exact ⟨.inr ⟨by simp, by simp, .inr (by omega), by simp⟩, fun h => by simp at h, .inr rfl⟩
  ·have e1 : ap (l.drop k) 0 n = ((l.drop k).take n, (l.drop k).drop n, 0) := by
    unfold ap;rw [if_neg (by omega), if_neg (by rw [List.length_drop]; omega), Int.toNat_natCast]
   rw [e1];exact ⟨.inl ⟨rfl, rfl, by omega, by rw [List.drop_drop]⟩, fun _ => rfl, .inl (by simp; omega)⟩
 ·have e1 : ap rest ee n = ([], rest, ee) := by
   unfold ap;rw [if_pos (.inl h1)]
  rw [e1];exact ⟨.inr ⟨h1, h2, h3, h4⟩, fun h => absurd h h1, .inr rfl⟩
theorem Rs.num (h : Rs l e k rest ee) (n : Nat) (hn : 0 < n) (hk : k + n ≤ 64) : ∃ x rest' ee', val (ap rest ee n).1 = x ∧ (ap rest ee n).2.1 = rest' ∧ (ap rest ee n).2.2 = ee' ∧ Rs l e (k + n) rest' ee' ∧ x < 2 ^ (8 * n) ∧ (ee' = 0 → x = val ((l.drop k).take n)) ∧ (ee' = 0 → ee = 0) := by
 obtain ⟨h1, h2, h3⟩ := h.next n hn hk;refine ⟨_, _, _, rfl, rfl, rfl, h1, ?_, fun h0 => by rw [h2 h0], fun h0 => ?_⟩
 ·refine Nat.lt_of_lt_of_le (pc _) (Nat.pow_le_pow_right (by omega) ?_)
  rcases h3 with h3 | h3 <;> simp [h3]
 ·rcases Nat.eq_zero_or_pos ee with h4 | h4
  ·exact h4
  ·have : ap rest ee n = ([], rest, ee) := by unfold ap; rw [if_pos (.inl (by omega))]
   rw [this] at h0;exact h0
theorem ii {n : Nat} {k : IntKind} {w : World} {x : Ending} {v : Nat} (h : ey H K l e n k w x w') (e1 : val (ap l e n).1 = v) (e2 : (ap l e n).2.1 = rest) (e3 : (ap l e n).2.2 = ee) : x = .returned (.int k (v : Int)) ∧ RdAt w' H K rest ee ∧ ButFor H w w' := by
 subst e1 e2 e3;exact h
def cj (l : Bs) (e : Nat) : Nat := if e ≠ 0 then e else if l.length < 64 then 4 else if jo (l.take 64) && (eqP (pt l) zeroP || fz (pt l)) then 0 else 5
def dx (l : Bs) (e : Nat) : Pt := if cj l e = 0 then pt l else zeroP
theorem Am (h : cj l e = 0) : e = 0 ∧ 64 ≤ l.length := by
 unfold cj at h;split at h
 ·rename_i h1; exact absurd h h1
 ·rename_i h1
  split at h
  ·cases h
  ·rename_i h2; exact ⟨by omega, by omega⟩
theorem o4 (l : Bs) (e : Nat) : (dx l e).OK := by
 unfold dx;split
 ·rename_i h; exact Uf (Am h).2
 ·exact ak
theorem a1e (h : Rs l e 56 rest ee) (hp : ee = 0 → p = pt l) : (if (!eqP p zeroP && !fz p) then mx (gi rest ee 8).2 else (gi rest ee 8).2) = cj l e ∧ (cj l e = 0 → p = dx l e ∧ (gi rest ee 8).1 = l.drop 64) := by
 rcases h with ⟨rfl, rfl, h2, rfl⟩ | ⟨h1, h2, h3, h4⟩
 ·have a0 := hp rfl
  subst a0;by_cases hs : l.length < 64
  ·have e1 : gi (l.drop 56) 0 8 = (l.drop 56, 4) := by
    unfold gi ap;rw [if_neg (by omega), if_pos (by rw [List.length_drop]; omega)];rfl
   have e2 : cj l 0 = 4 := (by unfold cj; rw [if_neg (by omega), if_pos hs]);rw [e1, e2];exact ⟨by split <;> rfl, fun h => by cases h⟩
  ·have hq : jo (l.take 64) = ((l.drop 56).take 8).all (· == 0#8) := by unfold jo; rw [List.drop_take]
   have e1 : gi (l.drop 56) 0 8 = (l.drop 64, if jo (l.take 64) then 0 else 5) := by
    unfold gi ap;rw [if_neg (by omega), if_neg (by rw [List.length_drop]; omega), hq];simp
   have e2 : cj l 0 = if jo (l.take 64) && (eqP (pt l) zeroP || fz (pt l)) then 0 else 5 := by unfold cj; rw [if_neg (by omega), if_neg hs]
   rw [e1, e2];refine ⟨?_, fun h => ⟨?_, rfl⟩⟩
   ·cases jo (l.take 64) <;> cases eqP (pt l) zeroP <;> cases fz (pt l) <;> rfl
   ·unfold dx
    rw [e2, if_pos h]
 ·have e1 : gi rest ee 8 = (rest, ee) := by
   unfold gi ap;rw [if_pos (.inl h1)];rfl
  have e2 : cj l e = ee := by
   unfold cj;rw [h2];by_cases he : e = 0
   ·rw [if_neg (by omega), if_pos (by omega), if_pos he]
   ·rw [if_pos he, if_neg he]
  rw [e1, e2];refine ⟨?_, fun h => absurd h h1⟩;split
  ·unfold mx; rw [if_neg h1]
  ·rfl
def Pe (a b c d f : Nat) (hs : Bs) (xs : List Nat) : Pt := ⟨a, b, c, d, f, hs, xs⟩
structure TkR (w : World) (H : Nat) (K : Nat → Prop) (rest : Bs) (ee : Nat) (W : World) : Prop where
 res : Blk W w.heap.size (a8 zeroP) 28
 rd : RdAt W H K rest ee
 bf : ButFor H w W
 hH : H < w.heap.size
 hK : ∀ g, K g → g < w.heap.size
structure TkW (w : World) (H : Nat) (K : Nat → Prop) (G : Nat) (p : Pt) (rest : Bs) (ee : Nat) (W : World) : Prop where
 r : TkR w H K rest ee W
 an : Blk W G (a8 p) 28
 hG : w.heap.size < G
theorem TkR.start {w : World} (hR : RdAt w H K l e) (hK : ∀ g, K g → g < w.heap.size) (z : Array Value) (hz : z = (a8 zeroP).toArray) : TkR w H K l e (w.alloc (.cells z 28)) := by
 subst hz;exact ⟨Blk.new _ _ _, hR.below ((Below.refl _ _).alloc (Nat.le_refl _) _) (Nat.le_refl _), (ButFor.refl _ _).alloc _, hR.lt, hK⟩
theorem TkR.read {w : World} (h : TkR w H K rest ee W) (hr : RdAt W' H K rest' ee') (hb : ButFor H W W') : TkR w H K rest' ee' W' :=
 have := h.hH
 ⟨hb.blk h.res (by omega), hr, h.bf.trans hb, h.hH, h.hK⟩
theorem TkR.grown {w : World} (h : TkR w H K rest ee W) (hb : Below W.heap.size W W') : TkR w H K rest ee W' :=
 ⟨h.res.below hb h.res.lt, h.rd.below hb (Nat.le_refl _), h.bf.trans (ButFor.of_below hb), h.hH, h.hK⟩
theorem TkW.read {w : World} (h : TkW w H K G p rest ee W) (hr : RdAt W' H K rest' ee') (hb : ButFor H W W') : TkW w H K G p rest' ee' W' :=
 have h1 := h.r.hH;have h2 := h.hG
 ⟨h.r.read hr hb, hb.blk h.an (by omega), h.hG⟩
theorem TkW.grown {w : World} (h : TkW w H K G p rest ee W) (hb : Below W.heap.size W W') : TkW w H K G p rest ee W' :=
 ⟨h.r.grown hb, h.an.below hb h.an.lt, h.hG⟩
theorem TkW.store {w : World} {p' : Pt} (h : TkW w H K G p rest ee W) (hr : Blk W' G (a8 p') 28) (hb : ButFor G W W') : TkW w H K G p' rest ee W' :=
 have h1 := h.r.hH;have h2 := h.hG
 ⟨⟨hb.blk h.r.res (by omega), h.r.rd.other hb (by omega) (fun hk => by have := h.r.hK _ hk; omega), ⟨hb.os.trans h.r.bf.os, hb.tape.trans h.r.bf.tape, hb.output.trans h.r.bf.output, Nat.le_trans h.r.bf.size hb.size, fun k hk hn => (hb.block k (Nat.lt_of_lt_of_le hk h.r.bf.size) (by omega)).trans (h.r.bf.block k hk hn)⟩, h1, h.r.hK⟩, hr, h.hG⟩
theorem TkW.start {w : World} (h : TkR w H K rest ee W) (z : Array Value) (p : Pt) : TkW w H K W.heap.size p rest ee ((W.alloc (.cells z 28)).setRow W.heap.size (a8 p).toArray) := by
 have hz : Below W.heap.size W ((W.alloc (.cells z 28)).setRow W.heap.size (a8 p).toArray) := cz ((Below.refl _ _).alloc (Nat.le_refl _) _) (Nat.le_refl _) _;exact ⟨h.grown hz, Blk.row (Blk.new' W z z.toList 28 _ rfl (by simp)) _, h.res.lt⟩
theorem TkR.result {w : World} (h : TkR w H K rest ee W) (cs : Array Value) : RdAt (W.setRow w.heap.size cs) H K rest ee ∧ ButFor H w (W.setRow w.heap.size cs) := by
 have h1 := h.hH;refine ⟨h.rd.other (J := w.heap.size) ⟨rfl, rfl, rfl, by simp, fun k _ hn => setRow_other W w.heap.size k cs hn⟩ (by omega) (fun hk => by have := h.hK _ hk; omega), ?_⟩;exact ⟨h.bf.os, h.bf.tape, h.bf.output, by simpa using h.bf.size, fun k hk hn => (setRow_other W w.heap.size k cs (by omega)).trans (h.bf.block k hk hn)⟩
theorem te {w : World} (cs : Array Value) : ButFor g w (w.setRow g cs) := ⟨rfl, rfl, rfl, by simp, fun k _ hn => setRow_other w g k cs hn⟩
theorem aq {ops : Array Oper} {rest : List Oper} {o : Oper} {Q : Exit → Act → World → Prop} {w : World} {v : Value} (hw : Region.wanted o (yielded ops a.tmps) = true) (hrun : (execOp a.eval o).run Tryz.prog w = .ok (.value v) w')
  (hK : wpList Tryz.prog ops Q rest (a.put o.dst v) w') : wpList Tryz.prog ops Q (o :: rest) a w := by
 unfold wpList;rw [if_pos hw];refine .inl ?_;unfold Oper.wp;rw [hrun];exact hK
section
variable {ops : Array Oper} {Q : Exit → Act → World → Prop} {S : World → Prop}
theorem Qi {i : Nat} {r : Tr} {w : World} (o : Oper) (hi : ops.toList[i]? = some o) (hw : Region.wanted o (yielded ops a.tmps) = true) (d s : Operand)
  (ho : o.op = .call { callee := .builtin .copy, args := #[d, s], argTypes := #[29, 29] }) {dl dc cap : Nat} {sp : Option Addr} {m : Bs} (hd : a.eval d = .slice (some ⟨g, off, none⟩) dl dc) (hs : a.eval s = .slice sp m.length cap) (hm : m.length ≤ dl) (hsrc : SrcA w sp m)
  {cur : List Value} (hg : Blk w g cur t) (hfit : off + m.length ≤ cur.length)
  (h : ∀ W' gv, Blk W' g (splice cur off (m.map V8)) t → ButFor g w W' → ∃ S' : World → Prop, (∀ w, S' w → S w) ∧ S' W' ∧ wpG Tryz.prog ops Q r S' (a.put o.dst gv) W') : wpG Tryz.prog ops Q (.step i r) S a w := by
 refine At o hi hw fun K hK => ?_
 rcases Nat.eq_zero_or_pos m.length with h0 | h0
 ·have a1 : m = [] := List.eq_nil_of_length_eq_zero h0
  subst a1;obtain ⟨S', h1, h2, h3⟩ := h w (goInt 0) (by simpa [splice] using hg) (ButFor.refl _ _);refine wpList_copy_nothing rfl d s 29 29 ho 5 Tryz.underlying29 y8 _ sp dl dc 0 cap hd hs (by simp) ?_;exact ko (hK _ _ S' h1 h2 h3)
 ·obtain ⟨g2, o2, rfl, a2, a0⟩ := hsrc h0
  have e : (cur.toArray.toList.take off ++ (m.map V8 ++ cur.toArray.toList.drop (off + (m.map V8).length))) = splice cur off (m.map V8) := (by simp [splice]);obtain ⟨S', h1, h2, h3⟩ := h (w.setRow g (splice cur off (m.map V8)).toArray) (goInt m.length) (hg.row _) (te _);refine wpList_copy_own rfl d s 29 29 ho 5 Tryz.underlying29 y8 g off dl dc ⟨g2, o2, none⟩ m.length cap hd hs cur.toArray t hg (m.map V8) (by rw [List.length_map]; show m.length = min m.length dl; omega) (fun j v hv => nu a0 j v hv) (by simpa using hfit) (lp _) ?_;rw [e];exact ko (hK _ _ S' h1 h2 (by rw [List.length_map]; exact h3))
end
theorem G8 (hz : p.hash.length = 32) (h : Bs) (hh : h.length = 32) : splice (a8 p) 5 (h.map V8) = a8 { p with hash := h } := by
 have e : a8 p = i5 p ++ (p.hash.map V8 ++ p.ats.map U16) := rfl;unfold splice;rw [e, List.take_left' (by rfl), show 5 + (h.map V8).length = 5 + 32 by simp [hh], ← List.drop_drop, List.drop_left' (by rfl), List.drop_left' (by simp [hz])];rfl
theorem Wj (hh : p.hash.length = 32) (k x : Nat) : (a8 p).set (37 + k) (U16 x) = a8 { p with ats := p.ats.set k x } := by
 have e : ∀ q : Pt, a8 q = (i5 q ++ q.hash.map V8) ++ q.ats.map U16 := fun q => by simp [a8]
 rw [e, e, List.set_append_right _ _ (by simp [hh, i5])];rw [show 37 + k - (i5 p ++ p.hash.map V8).length = k by simp [hh, i5], List.map_set];rfl
def a02 (q : Pt) (l : Bs) : Prop := q.kind = (pt l).kind ∧ q.level = (pt l).level ∧ q.obj = (pt l).obj ∧ q.off = (pt l).off ∧ q.birth = (pt l).birth ∧ q.hash = (pt l).hash
def Qu (l : Bs) (e : Nat) (w : World) (H : Nat) (K : Nat → Prop) (G : Nat) (q : Pt) (i : Value) (wr : World) : Prop :=
 ∃ (k : Nat) (xs : List Nat) (rest : Bs) (ee : Nat), k ≤ 4 ∧ i = .int .i64 (k : Int) ∧ xs.length = 4 ∧ (∀ x ∈ xs, x < 65536) ∧ Rs l e (48 + 2 * k) rest ee ∧ (ee = 0 → a02 q l ∧ xs.take k = (pt l).ats.take k) ∧ TkW w H K G { q with ats := xs } rest ee wr
theorem a08 (l : Bs) (k : Nat) (hk : k < 4) : (pt l).ats[k]? = some (val ((l.drop (48 + 2 * k)).take 2)) := by
 match k, hk with
 | 0, _ | 1, _ | 2, _ | 3, _ => rfl
theorem To (h : a02 q l) (hx : xs.take 4 = (pt l).ats.take 4) (hl : xs.length = 4) : { q with ats := xs } = pt l := by
 obtain ⟨h1, h2, h3, h4, h5, h6⟩ := h;have e : xs = (pt l).ats := by rw [List.take_of_length_le (by omega)] at hx; rw [hx]; rfl
 rw [h1, h2, h3, h4, h5, h6, e]
theorem Vk {ys : List Nat} {x : Nat} (h : xs.take k = ys.take k) (hk : k < xs.length) (hy : ys[k]? = some x) : (xs.set k x).take (k + 1) = ys.take (k + 1) := by
 rw [pd hy, ← h, List.take_succ_eq_append_getElem (by simpa using hk)];simp [List.take_set_of_le]
theorem Tw (l : Bs) (e : Nat) (n : Int) : (gi l e n).1.length ≤ l.length := by
 unfold gi ap;split
 ·exact Nat.le_refl _
 ·split
  ·exact Nat.le_refl _
  ·simp
set_option maxRecDepth 100000 in
set_option maxHeartbeats 8000000 in
theorem xz (l : Bs) (e H : Nat) (w : World) (hR : RdAt w H K l e) (hK : ∀ g, K g → g < w.heap.size) (hl : l.length ≤ 100000) (hT : RTab w) (hg : 0 ≠ H) :
  Calls Tryz.prog 28 #[.pointer (some ⟨H, 0, none⟩)] w fun x w' => x = .returned (.agg (a8 (dx l e)).toArray) ∧ (∃ rest, RdAt w' H K rest (cj l e) ∧ (cj l e = 0 → rest = l.drop 64) ∧ rest.length ≤ l.length) ∧ ButFor H w w' := by
 have HL := zH hl;have HT := zH hT;have cw := zH hg;obtain ⟨pe, a7⟩ : ∃ t, cj l e = t := ⟨_, rfl⟩;obtain ⟨tp, bi⟩ : ∃ t, dx l e = t := ⟨_, rfl⟩;have c8 : Hid (tp.OK) := zH (by rw [← bi]; exact o4 l e);rw [a7, bi];have b4 := zH a7;have a4 := zH bi;have a2 : Hid (∀ z, z = (a8 zeroP).toArray → TkR w H K l e (w.alloc (.cells z 28))) := zH (fun z hz => TkR.start hR hK z hz);have c1 := zH (Rs.start l e);clear hR hK hl hT hg a7 bi;go_enter Tryz.func28, Tryz.ntmps28
 go_upto_region 1 with fail
 refine (fun (k : ∀ W, TkR w H K l e W → Code.wp _ _ _ _ W) => k _ (a2.out _ rfl)) ?_;intro W0 hw;have bo := zH hw;clear hw a2
 go_wp2_with fail
 refine (Dg H l e W0 bo.out.rd).mono ?_;intro x0 W1 hh;obtain ⟨a, r1, e1, q1, q2, q3, q4, q5, q6, q7⟩ := c1.out.num 1 (by omega) (by omega);obtain ⟨rfl, q8, q9⟩ := ii hh q1 q2 q3;have bp := zH (bo.out.read q8 q9);have c2 := zH q4;have cg := zH q5;have c9 : Hid (e1 = 0 → a = (pt l).kind ∧ e = 0) := zH (fun h => ⟨q6 h, q7 h⟩);clear hh q1 q2 q3 q4 q5 q6 q7 q8 q9 bo c1
 go_wp2_with fail
 refine (Dg H r1 e1 W1 bp.out.rd).mono ?_;intro x1 W2 hh;obtain ⟨b, r2, e2, q1, q2, q3, q4, q5, q6, q7⟩ := c2.out.num 1 (by omega) (by omega);obtain ⟨rfl, q8, q9⟩ := ii hh q1 q2 q3;have bq := zH (bp.out.read q8 q9);have b6 := zH q4;have ch := zH q5;have ca : Hid (e2 = 0 → b = (pt l).level ∧ e1 = 0) := zH (fun h => ⟨q6 h, q7 h⟩);clear hh q1 q2 q3 q4 q5 q6 q7 q8 q9 bp c2
 go_wp2_with fail
 refine (Ae H r2 e2 W2 bq.out.rd).mono ?_;intro x2 W3 hh;obtain ⟨c, r3, e3, q1, q2, q3, q4, q5, q6, q7⟩ := b6.out.num 2 (by omega) (by omega);obtain ⟨rfl, q8, q9⟩ := ii hh q1 q2 q3;have br := zH (bq.out.read q8 q9);have c3 := zH q4;have ci := zH q5;have cb : Hid (e3 = 0 → c = (pt l).obj ∧ e2 = 0) := zH (fun h => ⟨q6 h, q7 h⟩);clear hh q1 q2 q3 q4 q5 q6 q7 q8 q9 bq b6
 go_wp2_with fail
 refine (Fu H r3 e3 W3 br.out.rd).mono ?_;intro x3 W4 hh;obtain ⟨d, r4, e4, q1, q2, q3, q4, q5, q6, q7⟩ := c3.out.num 4 (by omega) (by omega);obtain ⟨rfl, q8, q9⟩ := ii hh q1 q2 q3;have bs := zH (br.out.read q8 q9);have c4 := zH q4;have ck := zH q5;have cd : Hid (e4 = 0 → d = (pt l).off ∧ e3 = 0) := zH (fun h => ⟨q6 h, q7 h⟩);clear hh q1 q2 q3 q4 q5 q6 q7 q8 q9 br c3
 go_wp2_with fail
 refine (Uq H r4 e4 W4 bs.out.rd).mono ?_;intro x4 W5 hh;obtain ⟨f, r5, e5, q1, q2, q3, q4, q5, q6, q7⟩ := c4.out.num 8 (by omega) (by omega);obtain ⟨rfl, q8, q9⟩ := ii hh q1 q2 q3;have cf := zH (bs.out.read q8 q9);have b7 := zH q4;have cl := zH q5;have ce : Hid (e5 = 0 → f = (pt l).birth ∧ e4 = 0) := zH (fun h => ⟨q6 h, q7 h⟩);clear hh q1 q2 q3 q4 q5 q6 q7 q8 q9 bs c4;obtain ⟨q0, bd⟩ : ∃ q0, q0 = Pe a b c d f (List.replicate 32 0#8) [0, 0, 0, 0] := ⟨_, rfl⟩
 have a3 : q0.OK := by
  subst bd;exact ⟨cg.out, ch.out, ci.out, ck.out, cl.out, by simp [Pe], by simp [Pe], by simp [Pe]⟩
 have b5 := zH bd;have a0 := zH a3;have c0 : Hid ((a8 (Pe a b c d f (List.replicate 32 0#8) [0, 0, 0, 0])).toArray = (a8 q0).toArray) := zH (by rw [bd]);have c7 := zH (bh a3);have cx : Hid ((a8 q0).toArray.size = 41) := zH (by rw [List.size_toArray, aa a3]);clear bd a3
 go_wp2_with (first | (refine B4 rfl 28 _ rfl (a8 (Pe a b c d f (List.replicate 32 0#8) [0, 0, 0, 0])).toArray (by kernel_rfl) ?_; rw [c0.out]) | (refine wpList_store_row rfl 28 (.tmp 3) (.tmp 15) rfl W5.heap.size (a8 q0).toArray rfl rfl 28 _ (heap_alloc_new W5 _) c7.out (by rw [cx.out]; rfl) (bb q0) ?_) | fail)
 refine (fun (k : ∀ W, TkW w H K W5.heap.size q0 r5 e5 W → Code.wp _ _ _ _ W) => k _ (TkW.start cf.out _ _)) ?_;intro W6 hw;obtain ⟨G, hG⟩ : ∃ G, W5.heap.size = G := ⟨_, rfl⟩;rw [hG] at hw ⊢;have bt := zH hw;clear hw hG cf c7 c0;refine gS (.take 0 (.take 1 (.take 2 (.step 3 (.step 4 (.nil)))))) (fun _ => True) trivial ?_;refine gU (.pointer (some ⟨G, 5, none⟩)) rfl (fun X hX => Cn 5 5 (by omega) rfl rfl) ?_;refine gU (.slice (some ⟨G, 5, none⟩) 32 32) rfl (fun X hX => Sa rfl rfl) ?_;refine gT (.pointer (some ⟨H, 0, none⟩)) ?_;refine b8 _ rfl (by rfl) 57 #[.pointer (some ⟨H, 0, none⟩), .int .i64 32] (fun _ => by go_simp) (fun u w' => Ju H K r5 e5 32 W6.drew (.returned u) w') ((Yw H r5 e5 32 W6.drew (Nat.le_trans b7.out.len HL.out) (bt.out.r.rd.below (Below.refl _ _).drew (Nat.le_refl _))).mono fun e w' hh => by obtain ⟨v, rfl, h2⟩ := hh; exact ⟨v, rfl, trivial, v, rfl, h2⟩) ?_;rintro u W7 - ⟨v, e, ho, hrd, hbf⟩;cases e;obtain ⟨t1, t2, t3⟩ := b7.out.next 32 (by omega) (by omega)
 have t4 : (ap r5 e5 ((32 : Nat) : Int)).2.2 = 0 → e5 = 0 := by
  obtain ⟨_, _, _, _, _, u3, _, _, _, u7⟩ := b7.out.num 32 (by omega) (by omega);intro h;rw [u3] at h;exact u7 h
 rw [show ((32 : Nat) : Int) = (32 : Int) from rfl] at t1 t2 t3 t4;obtain ⟨m, hm⟩ : ∃ m, (ap r5 e5 32).1 = m := ⟨_, rfl⟩;obtain ⟨r6, cq⟩ : ∃ m, (ap r5 e5 32).2.1 = m := ⟨_, rfl⟩;obtain ⟨e6, cn⟩ : ∃ m, (ap r5 e5 32).2.2 = m := ⟨_, rfl⟩;rw [hm] at t2 t3 ho;rw [cq] at t1 hrd;rw [cn] at t1 t2 t4 hrd;obtain ⟨d3, d1, d2, s1, s2, s3, -⟩ := OwnB.form ho;subst d2;have bv := bt.out.read hrd ((ButFor.refl _ _).drew.trans hbf);refine ⟨_, fun _ h => h, trivial, ?_⟩; try simp only [pS]
 refine Qi _ rfl (by rfl) (.tmp 17) (.tmp 19) rfl (m := m) (sp := d3) (cap := d1) rfl rfl (by rcases t3 with h | h <;> simp [h]) s3 bv.an (by rw [aa a0.out]; rcases t3 with h | h <;> simp [h]) ?_;intro W8 gv am hbf8;refine ⟨fun _ => True, fun _ _ => trivial, trivial, ?_⟩; try simp only [pS]
 refine au ?_
 obtain ⟨q, hq, b3, bx⟩ : ∃ q : Pt, splice (a8 q0) 5 (m.map V8) = a8 q ∧ q.OK ∧ (e6 = 0 → a02 q l) ∧ q = { q with ats := [0, 0, 0, 0] } := by
  rcases t3 with h | h
  ·refine ⟨{ q0 with hash := m }, G8 a0.out.hash m h, ⟨a0.out.kind, a0.out.level, a0.out.obj, a0.out.off, a0.out.birth, h, a0.out.len, a0.out.ats⟩, fun h0 => ?_, by rw [b5.out]; rfl⟩
   have v4 := ce.out (t4 h0);have v3 := cd.out v4.2;have v2 := cb.out v3.2;have v1 := ca.out v2.2;have v0 := c9.out v1.2;rw [b5.out];exact ⟨v0.1, v1.1, v2.1, v3.1, v4.1, t2 h0⟩
  ·refine ⟨q0, ?_, a0.out, fun h0 => ?_, by rw [b5.out]; rfl⟩
   ·rw [h]; simp [splice]
   ·exfalso
    have h1 := t2 h0;rw [h] at h1;rcases t1 with ⟨_, _, h2, _⟩ | ⟨h2, _⟩
    ·have := congrArg List.length h1
     simp at this;omega
    ·exact h2 h0
 rw [hq] at am;have HR := zH (show Qu l e w H K G q (.int .i64 0) W8 from ⟨0, [0, 0, 0, 0], r6, e6, by omega, rfl, rfl, by simp, t1, fun h0 => ⟨bx.1 h0, rfl⟩, by rw [← bx.2]; exact bv.store am hbf8⟩);have HQ := zH b3;clear am hbf8 bv s1 s2 s3 ho hrd hbf t1 t2 t3 t4 hm cq cn hq b3 bx c9 ca cb cd ce cg ch ci ck cl b5 a0 b7 bt
 go_wp2_with fail
 go_loopw [21] (fun i wr => Qu l e w H K G q i wr) (fun i _ => 4 - (intOf i).toNat)
 case atStart => exact HR.out
 case round =>
  clear HR;obtain ⟨k, xs, rest, ee, hk, rfl, cv, cu, cr, co, hT⟩ := hrel;have ba := zH hT;have a1 := zH cr;have aj := zH cv;have bc := zH cu;have ay := zH co;clear hT cr cv cu co;have d6 := IntWalk.i64_in ((k : Int) + 1) (by omega);by_cases hlt : k < 4
  ·go_wp2_with fail
   refine (Ae H rest ee wr ba.out.r.rd).mono ?_;intro x7 w7 hh;obtain ⟨x, r7, e7, q1, q2, q3, q4, q5, q6, q7⟩ := a1.out.num 2 (by omega) (by omega);obtain ⟨rfl, q8, q9⟩ := ii hh q1 q2 q3;have b9 := zH (ba.out.read q8 q9);have cz : Hid ({ q with ats := xs } : Pt).OK := zH ⟨HQ.out.kind, HQ.out.level, HQ.out.obj, HQ.out.off, HQ.out.birth, HQ.out.hash, aj.out, bc.out⟩;obtain ⟨y, hy⟩ := b9.out.an.has (37 + k) (by rw [aa cz.out]; omega);have fy := b9.out.an.free (37 + k)
   have ct : TkW w H K G { q with ats := xs.set k x } r7 e7 (w7.setCell ⟨G, 37 + k, none⟩ (.int .u16 (x : Int))) := by
    have h8 := b9.out.an.set (37 + k) (U16 x);rw [Wj (p := { q with ats := xs }) HQ.out.hash k x] at h8;exact b9.out.store h8 ((ButFor.refl _ _).set _ _)
   have b6 := zH (show Qu l e w H K G q (.int .i64 ((k : Int) + 1)) (w7.setCell ⟨G, 37 + k, none⟩ (.int .u16 (x : Int))) from ⟨k + 1, xs.set k x, r7, e7, by omega, by go_num, by rw [List.length_set]; exact aj.out, fun z hz => by
    rcases List.mem_or_eq_of_mem_set hz with h | h
    ·exact bc.out z h
    ·rw [h]; exact q5, q4, fun h0 => ⟨(ay.out (q7 h0)).1, Vk (ay.out (q7 h0)).2 (by rw [aj.out]; exact hlt) (by rw [q6 h0]; exact a08 l k hlt)⟩, ct⟩)
   clear hh q1 q2 q3 q4 q5 q6 q7 q8 q9 ct
   go_wp2_with fail
   go_roundw
   case rel => exact b6.out
   case measure => simp [intOf]; omega
  ·obtain rfl : k = 4 := by omega
   obtain ⟨p, hp⟩ : ∃ p : Pt, p = { q with ats := xs } := ⟨_, rfl⟩;have cp : p.OK := (by subst hp; exact ⟨HQ.out.kind, HQ.out.level, HQ.out.obj, HQ.out.off, HQ.out.birth, HQ.out.hash, aj.out, bc.out⟩);have bu := ba.out;rw [← hp] at bu;have af := zH bu;have b0 := zH cp;have ar := zH (a1e (p := p) a1.out (fun h0 => by rw [hp]; exact To (ay.out h0).1 (ay.out h0).2 aj.out));have c5 := zH (Nat.le_trans a1.out.len HL.out);have bn := zH a1.out.len;clear hp cp bu ba a1 aj bc ay HQ hlt hk;rw [show ((4 : Nat) : Int) = (4 : Int) from rfl]
   go_wp2_with fail
   refine (qq H rest ee 8 wr c5.out af.out.r.rd).mono ?_;rintro x8 w8 ⟨rfl, bz, am⟩;obtain ⟨r9, bg⟩ : ∃ m, (gi rest ee 8).1 = m := ⟨_, rfl⟩;obtain ⟨e9, bw⟩ : ∃ m, (gi rest ee 8).2 = m := ⟨_, rfl⟩;have ab := ar.out;rw [bw, bg, b4.out] at ab;rw [bg, bw] at bz;have ai : Hid (r9.length ≤ l.length) := zH (by rw [← bg]; exact Nat.le_trans (Tw _ _ _) bn.out);have bm := zH ab.1;have ah := zH ab.2;have ad := zH (af.out.read bz am);clear bz am bg bw ab ar c5 af;have d0 : Hid (RTab w8) := zH (HT.out.of_heap (ad.out.r.bf.block _ HT.out.lt cw.out));have al : Hid ((a8 zeroP).toArray.size = (a8 tp).toArray.size) := zH (by rw [List.size_toArray, List.size_toArray, aa c8.out, aa ak]);have d5 := zH (bh b0.out);have a2 := zH (bh c8.out);have az := zH (aa b0.out);have bk : Hid (Blk w8 G (a8 p) 28) := zH ad.out.an;cases hez : eqP p zeroP
   ·have av := zH hez
    clear hez
    go_wp2_with (first | (refine aq (by rfl) (c6 (ty := 28) (cs := a8 p) rfl rfl (d9 bk.out) Tryz.underlying28 rfl (by rw [dw, az.out])) ?_) | (refine a9 rfl (bj rfl) ?_) | (refine a9 rfl (Hm (p := p) (q := zeroP) rfl rfl rfl b0.out ak) ?_; rw [av.out]) | fail)
    refine (sf p b0.out w8 d0.out).mono ?_;rintro x9 w9 ⟨rfl, cm⟩;have ae := zH (ad.out.grown cm);have bl : Hid (Blk w9 G (a8 p) 28) := zH ae.out.an;clear cm;cases hmm : fz p
    ·have a7 : pe = mx e9 := by have := bm.out; rw [av.out, hmm] at this; exact this.symm
     have cy := zH a7;clear a7 hmm
     go_wp2_with fail
     refine (Cd H r9 e9 w9 ae.out.r.rd).mono ?_;rintro d7 d4 ⟨rfl, ag, b2⟩;rw [← cy.out] at ag;have a5 := zH (ae.out.read ag b2);have ao : Hid (Blk d4 G (a8 p) 28) := zH a5.out.an;clear ag b2
     go_wp2_with fail
     refine (u9 H r9 pe _ a5.out.r.rd).mono ?_;rintro x9 w9 ⟨rfl, rfl⟩;by_cases h0 : pe = 0
     ·have hp : p = tp := by rw [(ah.out h0).1]; exact a4.out
      have hr : r9 = l.drop 64 := (ah.out h0).2;have a6 := zH hp;have ax := zH hr;have b1 : (pe : Int) = 0 := (by omega);have HR := zH (a5.out.r.result (a8 tp).toArray);have a1 := zH a5.out.r.res;clear h0 hp hr
      go_wp2_with (first | (refine aq (by rfl) (c6 (ty := 28) (cs := a8 p) rfl rfl (d9 ao.out) Tryz.underlying28 rfl (by rw [dw, az.out])) ?_) | (refine wpList_store_row rfl 28 (.tmp 2) (.tmp 46) rfl w.heap.size (a8 tp).toArray rfl (by rw [← a6.out]; rfl) 28 _ a1.out a2.out al.out (bb tp) ?_) | fail)
      exact bodyPost_ret (results_cell_row Tryz.results28 _ _ w.heap.size 28 _ _ _ rfl (a1.out.row _) Tryz.underlying28 rfl a2.out) rfl ⟨rfl, ⟨r9, HR.out.1, fun _ => ax.out, ai.out⟩, HR.out.2⟩
     ·have hp : zeroP = tp := by have := a4.out; unfold dx at this; rw [b4.out, if_neg h0] at this; exact this
      have a6 := zH hp;have aw := zH h0;have b1 : ¬ (pe : Int) = 0 := (by omega);have HR := zH (a5.out.r.result (a8 tp).toArray);have a1 := zH a5.out.r.res;clear h0 hp
      go_wp2_with (first | (refine a9 rfl (bj rfl) ?_) | (refine wpList_store_row rfl 28 (.tmp 2) (.tmp 45) rfl w.heap.size (a8 tp).toArray rfl (by rw [← a6.out]; rfl) 28 _ a1.out a2.out al.out (bb tp) ?_) | fail)
      exact bodyPost_ret (results_cell_row Tryz.results28 _ _ w.heap.size 28 _ _ _ rfl (a1.out.row _) Tryz.underlying28 rfl a2.out) rfl ⟨rfl, ⟨r9, HR.out.1, fun h => absurd h aw.out, ai.out⟩, HR.out.2⟩
    ·have a7 : pe = e9 := by have := bm.out; rw [av.out, hmm] at this; exact this.symm
     subst a7;clear hmm
     go_wp2_with fail
     refine (u9 H r9 pe _ ae.out.r.rd).mono ?_;rintro x9 w9 ⟨rfl, rfl⟩;by_cases h0 : pe = 0
     ·have hp : p = tp := by rw [(ah.out h0).1]; exact a4.out
      have hr : r9 = l.drop 64 := (ah.out h0).2;have a6 := zH hp;have ax := zH hr;have b1 : (pe : Int) = 0 := (by omega);have HR := zH (ae.out.r.result (a8 tp).toArray);have a1 := zH ae.out.r.res;clear h0 hp hr
      go_wp2_with (first | (refine aq (by rfl) (c6 (ty := 28) (cs := a8 p) rfl rfl (d9 bl.out) Tryz.underlying28 rfl (by rw [dw, az.out])) ?_) | (refine wpList_store_row rfl 28 (.tmp 2) (.tmp 46) rfl w.heap.size (a8 tp).toArray rfl (by rw [← a6.out]; rfl) 28 _ a1.out a2.out al.out (bb tp) ?_) | fail)
      exact bodyPost_ret (results_cell_row Tryz.results28 _ _ w.heap.size 28 _ _ _ rfl (a1.out.row _) Tryz.underlying28 rfl a2.out) rfl ⟨rfl, ⟨r9, HR.out.1, fun _ => ax.out, ai.out⟩, HR.out.2⟩
     ·have hp : zeroP = tp := by have := a4.out; unfold dx at this; rw [b4.out, if_neg h0] at this; exact this
      have a6 := zH hp;have aw := zH h0;have b1 : ¬ (pe : Int) = 0 := (by omega);have HR := zH (ae.out.r.result (a8 tp).toArray);have a1 := zH ae.out.r.res;clear h0 hp
      go_wp2_with (first | (refine a9 rfl (bj rfl) ?_) | (refine wpList_store_row rfl 28 (.tmp 2) (.tmp 45) rfl w.heap.size (a8 tp).toArray rfl (by rw [← a6.out]; rfl) 28 _ a1.out a2.out al.out (bb tp) ?_) | fail)
      exact bodyPost_ret (results_cell_row Tryz.results28 _ _ w.heap.size 28 _ _ _ rfl (a1.out.row _) Tryz.underlying28 rfl a2.out) rfl ⟨rfl, ⟨r9, HR.out.1, fun h => absurd h aw.out, ai.out⟩, HR.out.2⟩
   ·have a7 : pe = e9 := by have := bm.out; rw [hez] at this; exact this.symm
    have av := zH hez;subst a7;clear hez
    go_wp2_with (first | (refine aq (by rfl) (c6 (ty := 28) (cs := a8 p) rfl rfl (d9 bk.out) Tryz.underlying28 rfl (by rw [dw, az.out])) ?_) | (refine a9 rfl (bj rfl) ?_) | (refine a9 rfl (Hm (p := p) (q := zeroP) rfl rfl rfl b0.out ak) ?_; rw [av.out]) | fail)
    refine (u9 H r9 pe _ ad.out.r.rd).mono ?_;rintro x9 w9 ⟨rfl, rfl⟩;by_cases h0 : pe = 0
    ·have hp : p = tp := by rw [(ah.out h0).1]; exact a4.out
     have hr : r9 = l.drop 64 := (ah.out h0).2;have a6 := zH hp;have ax := zH hr;have b1 : (pe : Int) = 0 := (by omega);have HR := zH (ad.out.r.result (a8 tp).toArray);have a1 := zH ad.out.r.res;clear h0 hp hr
     go_wp2_with (first | (refine aq (by rfl) (c6 (ty := 28) (cs := a8 p) rfl rfl (d9 bk.out) Tryz.underlying28 rfl (by rw [dw, az.out])) ?_) | (refine wpList_store_row rfl 28 (.tmp 2) (.tmp 46) rfl w.heap.size (a8 tp).toArray rfl (by rw [← a6.out]; rfl) 28 _ a1.out a2.out al.out (bb tp) ?_) | fail)
     exact bodyPost_ret (results_cell_row Tryz.results28 _ _ w.heap.size 28 _ _ _ rfl (a1.out.row _) Tryz.underlying28 rfl a2.out) rfl ⟨rfl, ⟨r9, HR.out.1, fun _ => ax.out, ai.out⟩, HR.out.2⟩
    ·have hp : zeroP = tp := by have := a4.out; unfold dx at this; rw [b4.out, if_neg h0] at this; exact this
     have a6 := zH hp;have aw := zH h0;have b1 : ¬ (pe : Int) = 0 := (by omega);have HR := zH (ad.out.r.result (a8 tp).toArray);have a1 := zH ad.out.r.res;clear h0 hp
     go_wp2_with (first | (refine a9 rfl (bj rfl) ?_) | (refine wpList_store_row rfl 28 (.tmp 2) (.tmp 45) rfl w.heap.size (a8 tp).toArray rfl (by rw [← a6.out]; rfl) 28 _ a1.out a2.out al.out (bb tp) ?_) | fail)
     exact bodyPost_ret (results_cell_row Tryz.results28 _ _ w.heap.size 28 _ _ _ rfl (a1.out.row _) Tryz.underlying28 rfl a2.out) rfl ⟨rfl, ⟨r9, HR.out.1, fun h => absurd h aw.out, ai.out⟩, HR.out.2⟩
section
variable {ρ : Operand → Value} {o : Oper} {x y : Operand} {w : World} {ns ms : List Pt}
theorem a0l (hu : Tryz.prog.underlying t = some (.array 8 28)) (hs : (Tryz.prog.info? t).map (·.size) = some 328) (h : NOK ns) (hB : Blk w g (ah ns) t') (ho : o.op = .load t x) (hx : ρ x = .pointer (some ⟨g, 0, none⟩)) : (execOp ρ o).run Tryz.prog w = .ok (.value (.agg (ah ns).toArray)) w :=
 c6 (ty := t) (cs := ah ns) ho hx (d9 hB) hu rfl (by rw [hs, h.cells])
theorem gx (h : NOK ns) (hB : Blk w g (ah ns) t') (ho : o.op = .load 170 x) (hx : ρ x = .pointer (some ⟨g, 0, none⟩)) : (execOp ρ o).run Tryz.prog w = .ok (.value (.agg (ah ns).toArray)) w := a0l Tryz.underlying170 Do h hB ho hx
theorem ax (hp : p.OK) (hB : Blk w g (a8 p) t') (ho : o.op = .load 28 x) (hx : ρ x = .pointer (some ⟨g, 0, none⟩)) : (execOp ρ o).run Tryz.prog w = .ok (.value (.agg (a8 p).toArray)) w :=
 c6 (ty := 28) (cs := a8 p) ho hx (d9 hB) Tryz.underlying28 rfl (by rw [dw, aa hp])
theorem Fq (h : NOK ns) (hB : Blk w g (ah ns) t') (hk : ns[k]? = some p) : w.rangeAt g (41 * k) (a8 p) := by
 obtain ⟨e, hl⟩ := ox h.ok hk;have := hB.rng _ _ _ e;rw [hl] at this;exact this
theorem a0h (h : NOK ns) (hB : Blk w g (ah ns) t') (hk : ns[k]? = some p) (hoff : off = 41 * k) (ho : o.op = .load 28 x) (hx : ρ x = .pointer (some ⟨g, off, none⟩)) : (execOp ρ o).run Tryz.prog w = .ok (.value (.agg (a8 p).toArray)) w := by
 subst hoff;exact c6 (ty := 28) (cs := a8 p) ho hx (Fq h hB hk) Tryz.underlying28 rfl (by rw [dw, aa (h.at hk)])
theorem rl (ho : o.op = .build 170 #[]) : (execOp ρ o).run Tryz.prog w = .ok (.value (.agg (ah holes).toArray)) w := by
 have hr : (Instr.build 170 #[]).run Tryz.prog w = .ok (.agg (ah holes).toArray) w := run_build w 170 _ _ (by kernel_rfl);unfold execOp;simp only [ho];simp only [List.map_toArray, List.map_nil, Sem.run_bind, hr, Result.andThen_ok, Sem.run_pure]
theorem Hl (h : NOK ns) (h' : NOK ms) (ho : o.op = .binOp .eql 170 x y 170) (hx : ρ x = .agg (ah ns).toArray) (hy : ρ y = .agg (ah ms).toArray) : (execOp ρ o).run Tryz.prog w = .ok (.value (.bool (decide (ns = ms)))) w := by
 have h := Z0 Tryz.underlying170 h h' w;unfold execOp;simp only [ho];go_simp
end
theorem Sy (p : Pt) (hp : p.OK) (w : World) : Calls Tryz.prog 131 #[.agg (a8 p).toArray] w fun e w' => e = .returned (.bool (eqP p zeroP)) ∧ Below w.heap.size w w' := by
 have HP := zH hp;have HB := zH (Blk.new w (a8 p) 28);have HW : Hid (Below w.heap.size w (w.alloc (.cells (a8 p).toArray 28))) := zH ((Below.refl _ _).alloc (Nat.le_refl _) _);clear hp;go_enter Tryz.func131, Tryz.ntmps131
 go_wp2_with (first | (refine a9 rfl (ax HP.out HB.out rfl rfl) ?_) | (refine a9 rfl (bj rfl) ?_) | (refine a9 rfl (tg (p := p) (q := zeroP) rfl rfl rfl HP.out ak) ?_) | fail)
 go_ret;exact ⟨rfl, HW.out⟩
theorem Mo (ns : List Pt) (h : NOK ns) (w : World) : Calls Tryz.prog 119 #[.agg (ah ns).toArray] w fun e w' => e = .returned (.bool (decide (ns = holes))) ∧ Below w.heap.size w w' := by
 have HP := zH h;have HB := zH (Blk.new w (ah ns) 170);have HW : Hid (Below w.heap.size w (w.alloc (.cells (ah ns).toArray 170))) := zH ((Below.refl _ _).alloc (Nat.le_refl _) _);clear h;go_enter Tryz.func119, Tryz.ntmps119
 go_wp2_with (first | (refine a9 rfl (gx HP.out HB.out rfl rfl) ?_) | (refine a9 rfl (rl rfl) ?_) | (refine a9 rfl (Hl HP.out holes_ok rfl rfl rfl) ?_) | fail)
 go_ret;exact ⟨rfl, HW.out⟩
theorem z8 {B g : Nat} {w0 : World} : ∀ (vs : List Value) (o : Nat) (w : World), Below B w0 w → B ≤ g → Below B w0 (w.setCells g o vs)
 | [], _, _, h, _ => h
 | v :: vs, o, w, h, hg => z8 vs (o + 1) _ (h.trans ⟨rfl, rfl, rfl, by simp, fun k hk => heap_setCell_other w ⟨g, o, none⟩ k v (by simp; omega)⟩) hg
theorem E4 {w : World} {ns : List Pt} (h : NOK ns) (hB : Blk w g (ah ns) t) (hk : k < 8) (ho : off = 41 * k) (hq : q.OK) : Blk (w.setCells g off (a8 q)) g (ah (ns.set k q)) t := by
 subst ho;have h1 := fg g t (a8 q) (41 * k) w _ hB (by rw [h.cells, aa hq]; omega);have h2 := Ib h.ok (k := k) (by rw [h.len]; exact hk) hq;unfold splice at h2;rw [List.append_assoc, h2] at h1;exact h1
end Go.Proofs.YtjgjohdeeeoeoaaGreatDoor
