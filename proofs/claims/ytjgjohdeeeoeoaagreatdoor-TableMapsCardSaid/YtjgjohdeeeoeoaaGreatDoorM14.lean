/- The shelf's New. -/
import Derived.Test.YtjgjohdeeeoeoaaGreatDoorM13
import Derived.Handy
set_option linter.all false
namespace Go.Proofs.YtjgjohdeeeoeoaaGreatDoor
open Go.RowKit
attribute [local go_sem] Oper.semAt_some
variable {b : Bs} {D G R cap : Nat} {L : Nat → Nat} {sp : Option Addr} {p p1 : Pt} {s s1 : Sh} {v : Sv} {u : Value} {X Y : World}
theorem a0q : (Tryz.prog.info? 29).map (fun i => (i.zero, i.size, i.bytes)) = some (some (.slice none 0 0), 1, 24) := by kernel_rfl
theorem D0 : ∃ i, Tryz.prog.info? 29 = some i ∧ i.zero = some (.slice none 0 0) ∧ i.size = 1 ∧ i.bytes = 24 := by
 obtain ⟨i, h1, h2⟩ := Option.map_eq_some_iff.1 a0q;simp only [Prod.mk.injEq] at h2;exact ⟨i, h1, h2.1, h2.2.1, h2.2.2⟩
theorem Yz {w : World} {x : Value} {vs : List Value} (h : M9 w x vs) (hl : vs.length ≤ 100000000) (hu : u.oneCell' = true) {g : Nat} {t : TypeId} (hg : Blk w g [u] t) (ty : TypeId) :
  ∃ x' w', (Builtin.append_ #[46, 46] ty #[x, .slice (some ⟨g, 0, none⟩) 1 1]).run Tryz.prog w = .ok x' w' ∧ M9 w' x' (vs ++ [u]) ∧ w.grownBy w' x.ownBlock ∧ (x'.ownBlock = x.ownBlock ∨ x'.ownBlock = some w.heap.size) := by
 obtain ⟨i0, hi, a0, a1, a2⟩ := D0
 obtain ⟨v', w', hr, h2, h3, _, h5⟩ := run_append_own_at (P := Tryz.prog) w 0 46 ty 29 i0 (.slice none 0 0) 1 24 Tryz.underlying46 hi a0 a1 a2 rfl (by decide) x vs.length vs h ⟨g, 0, none⟩ 1 1 [u] rfl (fun j y hj => by
  rw [Addr.add_mid, Nat.zero_add]
  exact hg.cell hj) (by intro y hy; simp at hy; subst hy; exact hu) (by unfold maxLen; omega) (by omega) (Nat.zero_le _)
 refine ⟨v', w', hr, ?_, h3, h5⟩;unfold M9;rw [List.length_append];exact h2
section
variable {ρ : Operand → Value} {o : Oper} {x y : Operand} {w : World}
theorem Ck {v v' : Value} {w w' : World} (ho : o.op = .call { callee := .builtin .append, args := #[x, y], argTypes := #[46, 46] }) (hx : ρ x = v) (hy : ρ y = u)
  (hr : (Builtin.append_ #[46, 46] o.type #[v, u]).run Tryz.prog w = .ok v' w') : (execOp ρ o).run Tryz.prog w = .ok (.value v') w' := by
 unfold execOp;simp only [ho, resolve, invoke, builtin, Sem.run_bind, Sem.run_pure, Result.andThen_ok, List.map_toArray, List.map_cons, List.map_nil, hx, hy, hr]
theorem Hn {ad : Addr} {v : Value} (ho : o.op = .store 46 x y) (hx : ρ x = .pointer (some ad)) (hy : ρ y = v) (hv : ∃ sp n cap, v = .slice sp n cap) (hc : w.cell? ad = some u) (hf : w.frozen? ad = false) :
  (execOp ρ o).run Tryz.prog w = .ok .skip (w.setCell ad v) := by
 obtain ⟨sp, n, cap, rfl⟩ := hv;unfold execOp;simp only [ho];go_simp
theorem Xp {n : Nat} (ho : o.op = .buildSlice 46 1 #[(0, x)]) (hx : ρ x = .slice sp n cap) :
  (execOp ρ o).run Tryz.prog w = .ok (.value (.slice (some ⟨w.heap.size, 0, none⟩) 1 1)) (w.alloc (.cells #[.slice sp n cap] 29)) := by
 unfold execOp;simp only [ho];go_simp
end
theorem ShAt.roomed {w : World} (h : ShAt w L D s v) (r : Int) : ShAt (w.setCell ⟨D, 4, none⟩ (.int .i64 r)) L D { s with room := r } v ∧ Mv 5 L w L (w.setCell ⟨D, 4, none⟩ (.int .i64 r)) := by
 have hc := Hf w D 4 (.int .i64 r);have hs : (w.setCell ⟨D, 4, none⟩ (.int .i64 r)).heap.size = w.heap.size := by simp [World.setCell]
 have n : ∀ {j : Nat}, j ≠ 1 → ∀ g, g = D → L g ≠ j := fun hj g hg => by subst hg; rw [h.ld]; exact fun e => hj e.symm
 exact ⟨h.step (s' := { s with room := r }) hc (fun g hg => n (by omega) g hg) (fun _ _ => rfl) (fun g hg => by rw [hs]; exact h.lt g hg) (h.blk.set 4 _) (uy h.row hc (fun g hg => ⟨n (by omega) g hg, n (by omega) g hg⟩) (fun _ _ => rfl) h.lt) ⟨rfl, rfl⟩ (fp h.md hc (fun g hg => n (by omega) g hg) (fun _ _ => rfl)) (fp h.gn hc (fun g hg => n (by omega) g hg) (fun _ _ => rfl)) (fp h.rd hc (fun g hg => n (by omega) g hg) (fun _ _ => rfl)) h.okm h.okg h.okr,
  ⟨hc.mono (fun g hg => by subst hg; unfold kx; rw [h.ld]; omega), fun _ _ => rfl, fun g hg => by left; have := h.lt g; omega⟩⟩
theorem Up {W : World} (h : ShAt W L D s v) (hS : SrcA W sp b) (hz : sp = none → cap = 0) (hb : b.length ≤ 4000) (hbl : s.blocks.length < 30000) :
  ∃ v2 w2 x4 w4, (Builtin.append_ #[29, 29] 29 #[.slice none 0 0, .slice sp b.length cap]).run Tryz.prog W.drew = .ok v2 w2 ∧ (∃ sp2 cap2, v2 = .slice sp2 b.length cap2) ∧ Below W.heap.size W w2 ∧
   (Builtin.append_ #[46, 46] 46 #[v.bl, .slice (some ⟨w2.heap.size, 0, none⟩) 1 1]).run Tryz.prog (w2.alloc (.cells #[v2] 29)) = .ok x4 w4 ∧ (∃ sp n cap, x4 = .slice sp n cap) ∧ (∃ c, w4.cell? ⟨D, 0, none⟩ = some c) ∧ w4.frozen? ⟨D, 0, none⟩ = false ∧
   ∃ L', ShAt (w4.setCell ⟨D, 0, none⟩ x4) L' D { s with blocks := s.blocks ++ [b] } { v with bl := x4 } ∧ Mv 5 L W L' (w4.setCell ⟨D, 0, none⟩ x4) := by
 obtain ⟨v2, w2, aj, ae, ag⟩ := lq (w := W.drew) (B := W.heap.size) (v := .slice none 0 0) (l := []) (m := b) (sp := sp) (cap := cap) (World.ownsRow_nil _ _ _ _) (Nat.le_refl _) (by simp; omega) hS.drew hz 29;rw [List.nil_append] at ae;have a0 : Below W.heap.size W w2 := (Below.refl _ _).drew.trans ag;obtain ⟨sp2, cap2, e2, f1, f2, f3, f4, f5⟩ := OwnB.form ae;have aa : Below W.heap.size W (w2.alloc (.cells #[v2] 29)) := a0.alloc a0.size _;obtain ⟨vs, r1, r2, r3, r4, r5⟩ := h.row;have an : M9 (w2.alloc (.cells #[v2] 29)) v.bl vs := bc r1 (Chg.of_below (F := fun _ => False) aa) (fun _ _ h => h);have a5 : Blk (w2.alloc (.cells #[v2] 29)) w2.heap.size [v2] 29 := Blk.new' _ _ _ _ _ rfl rfl;obtain ⟨x4, w4, ak, a8, a3, ai⟩ := Yz an (by omega) (u := v2) (by rw [e2]; rfl) a5 46;have ad : v.bl.ownBlock ≠ some D := fun e => by have := r2 D e; rw [h.ld] at this; omega
 have ab : Chg (fun g => v.bl.ownBlock = some g) W w4 := (Chg.of_below aa).grown a3 (fun g hg => .inl hg);have a2 : Blk w4 D (i6 v s.room) 50 := h.blk.chg ab ad;have a1 : Chg (fun g => g = D ∨ v.bl.ownBlock = some g) W (w4.setCell ⟨D, 0, none⟩ x4) := (ab.mono (fun g hg => .inr hg)).setCell (.inl (.inl rfl)) 0 x4;have al : (w4.setCell ⟨D, 0, none⟩ x4).heap.size = w4.heap.size := by simp [World.setCell]
 have ao : w2.heap.size < w4.heap.size := by have := a3.size; simp at this; omega
 have a6 : ∀ g, x4.ownBlock = some g → v.bl.ownBlock = some g ∨ w2.heap.size < g := fun g hg => by
  rcases ai with e | e
  ·left; rw [← e]; exact hg
  ·right; rw [e] at hg; injection hg; simp at *; omega
 have a7 : ∀ g, x4.ownBlock = some g → v.bl.ownBlock = some g ∨ W.heap.size ≤ g := fun g hg => by
  rcases a6 g hg with e | e
  ·exact .inl e
  ·right; have := a0.size; omega
 have af : ∀ g, v2.ownBlock = some g → W.heap.size ≤ g ∧ g < w2.heap.size := fun g hg => by
  rw [e2] at hg;cases sp2 with
  | none => cases hg
  | some a => simp [Value.ownBlock] at hg; have := f5 a rfl; omega
 have a9 : ∀ g, g < W.heap.size → gc L v2 10 g = L g := fun g hg => by
  unfold gc; rw [if_neg (fun e => by have := af g e; omega)]
 have hL : ∀ g, g < W.heap.size → gc (gc L v2 10) x4 2 g = L g := fun g hg => by
  refine (lu (L := gc L v2 10) (w := W) (u := v.bl) (fun g hg' => ?_) a7 hg).trans (a9 g hg);rw [a9 g (eu r1 hg')]; exact r2 g hg'
 have hF : ∀ g, (g = D ∨ v.bl.ownBlock = some g) → L g = 1 ∨ L g = 2 := fun g hg => by
  rcases hg with rfl | hg
  ·exact .inl h.ld
  ·exact .inr (r2 g hg)
 refine ⟨v2, w2, x4, w4, aj, ⟨sp2, cap2, e2⟩, a0, ak, ?_, a2.has 0 (by simp [i6]), a2.free 0, gc (gc L v2 10) x4 2, ?_, ⟨a1.mono (fun g hg => by rcases hF g hg with e | e <;> (unfold kx; omega)), hL, fun g hg => ?_⟩⟩
 ·obtain ⟨sp, cap, e, _⟩ := d6 a8
  exact ⟨_, _, _, e⟩
 ·have ah : ∀ g, gc (gc L v2 10) x4 2 g ≠ 0 → g < (w4.setCell ⟨D, 0, none⟩ x4).heap.size := fun g hg => by
   rw [al];unfold gc at hg;split at hg
   ·rename_i e; exact eu a8 e
   ·split at hg
    ·rename_i e; have := af g e; omega
    ·have := h.lt g hg; have := a0.size; omega
  refine h.step (s' := { s with blocks := s.blocks ++ [b] }) (v' := { v with bl := x4 }) a1 (fun g hg => by rcases hF g hg with e | e <;> omega) hL ah (a2.set 0 x4) ?_ ⟨rfl, rfl⟩ (fp h.md a1 (fun g hg => by rcases hF g hg with e | e <;> omega) hL) (fp h.gn a1 (fun g hg => by rcases hF g hg with e | e <;> omega) hL) (fp h.rd a1 (fun g hg => by rcases hF g hg with e | e <;> omega) hL) h.okm h.okg h.okr;refine ⟨vs ++ [v2], bc a8 (Hf w4 D 0 x4) (fun g hg e => ?_), fun g hg => sw hg, by simp [r3], fun i u b' hu hb' => ?_, fun u hu => ?_⟩
  ·subst e
   rcases a6 g hg with e | e
   ·exact ad e
   ·have := h.blk.lt; have := a0.size; omega
  ·by_cases hi : i < vs.length
   ·rw [List.getElem?_append_left hi] at hu
    rw [List.getElem?_append_left (by omega)] at hb';exact (r4 i u b' hu hb').chg a1 (fun g hg => by rcases hF g hg with e | e <;> omega) hL h.lt
   ·have a4 := (List.getElem?_eq_some_iff.1 hu).1
    simp at a4;obtain rfl : i = vs.length := by omega
    rw [List.getElem?_append_right (Nat.le_refl _)] at hu;rw [List.getElem?_append_right (by omega), r3] at hb';simp at hu hb';subst hu hb';refine ⟨sp2, cap2, e2, f1, f4, ?_, fun a ha => ?_⟩
    ·refine (f3.chgF (F := fun g => v.bl.ownBlock = some g) (((Chg.refl (fun g => v.bl.ownBlock = some g) w2).alloc (.cells #[v2] 29)).grown a3 (fun g hg => .inl hg)) (fun a ha e => by have := eu r1 e; have := (f5 a ha).1; omega)).chgF (Hf w4 D 0 x4) (fun a ha e => ?_)
     have h1 := f5 a ha;have := h.blk.lt;have e : a.block = D := e;omega
    ·have h1 := f5 a ha
     have am : ¬ x4.ownBlock = some a.block := fun e => by
      rcases a6 _ e with e' | e'
      ·have := eu r1 e'; have := h1.1; omega
      ·omega
     unfold gc;rw [if_neg am, if_pos (by rw [e2, ha]; rfl)]
  ·rcases List.mem_append.1 hu with hu | hu
   ·exact r5 u hu
   ·simp at hu; subst hu; rw [e2]; rfl
 ·unfold gc
  split
  ·left; omega
  ·split
   ·right; rfl
   ·left; have := h.lt g; omega
theorem U7 (p : Pt) (n : Nat) : (a8 p).set 4 (.int .u64 (n : Int)) = a8 { p with birth := n } := by
 simp [a8, i5]
theorem a17 (hp : p.OK) (l : List Nat) (hl : l.length = 4) : (a8 p).take 37 ++ l.map U16 ++ (a8 p).drop (37 + (l.map U16).length) = a8 { p with ats := l } := by
 have h1 : (i5 p ++ p.hash.map V8).length = 37 := by simp [i5, hp.hash]
 have e : a8 p = (i5 p ++ p.hash.map V8) ++ p.ats.map U16 := by simp [a8]
 rw [e, List.take_left' h1, List.drop_of_length_le (by simp [hl, i5, hp.hash, hp.len])];simp [a8, i5]
structure NeS (w : World) (L : Nat → Nat) (D G R : Nat) (s1 : Sh) (p1 : Pt) (b : Bs) (sp : Option Addr) (X : World) : Prop where
 sh : ∃ L1 v1, ShAt X L1 D s1 v1 ∧ Mv 5 L w L1 X ∧ L1 G = 0 ∧ L1 R = 0
 box : Blk X G (a8 p1) 28
 res : Blk X R (a8 zeroP) 28
 src : SrcA X sp b
 lo : w.heap.size ≤ G
theorem NeS.below {w : World} (h : NeS w L D G R s1 p1 b sp X) (hb : Below X.heap.size X Y) : NeS w L D G R s1 p1 b sp Y := by
 obtain ⟨⟨L1, v1, h1, h2, h3, h4⟩, hg, hr, hs, a0⟩ := h;exact ⟨⟨L1, v1, h1.below hb, h2.trans (Mv.of_below hb h1.lt), h3, h4⟩, hg.below hb hg.lt, hr.below hb hr.lt, hs.grown hb, a0⟩
theorem NeS.boxed {w : World} {p2 : Pt} (h : NeS w L D G R s1 p1 b sp X) (hc : Chg (fun g => g = G) X Y) (hs : Y.heap.size = X.heap.size) (hb : Blk Y G (a8 p2) 28) (hGR : R ≠ G) (hsp : ∀ a, sp = some a → a.block ≠ G) : NeS w L D G R s1 p2 b sp Y := by
 obtain ⟨⟨L1, v1, h1, h2, h3, h4⟩, hg, hr, a1, a0⟩ := h;have hf : ∀ g, g = G → L1 g = 0 := fun g e => by rw [e]; exact h3
 refine ⟨⟨L1, v1, h1.out hc (fun g hg _ => .inl (hf g hg)) (fun _ _ => .inl rfl) (fun g hg => by rw [hs]; exact h1.lt g hg), ?_, h3, h4⟩, hb, hr.chg hc hGR, a1.chgF hc hsp, a0⟩
 exact ⟨h2.chg.trans hc (fun g e => by
  by_cases hw : g < w.heap.size
  ·exfalso
   have : g = G := e;omega
  ·right; omega), h2.old, h2.new⟩
theorem NeS.roomed {w : World} (h : NeS w L D G R s1 p1 b sp X) (r : Int) (hD : D < G) (hGR : G < R) (hsp : ∀ a, sp = some a → a.block ≠ D) : NeS w L D G R { s1 with room := r } p1 b sp (X.setCell ⟨D, 4, none⟩ (.int .i64 r)) := by
 obtain ⟨⟨L1, v1, h1, h2, h3, h4⟩, hg, hr, hs, a0⟩ := h;obtain ⟨k1, k2⟩ := h1.roomed r;exact ⟨⟨L1, v1, k1, h2.trans k2, h3, h4⟩, hg.other (by show G ≠ D; omega) _, hr.other (by show R ≠ D; omega) _, hs.chgF (Hf X D 4 _) (fun a ha e => hsp a ha e), a0⟩
theorem NeS.moved {w : World} {s2 : Sh} {L1 L2 : Nat → Nat} {v2 : Sv} (h : NeS w L D G R s1 p1 b sp X) (h0 : Mv 5 L w L1 X) (hG : L1 G = 0) (hR : L1 R = 0) (h1 : ShAt Y L2 D s2 v2) (h2 : Mv 5 L1 X L2 Y) (hsp : ∀ a, sp = some a → L1 a.block = 0 ∨ L1 a.block = 10) : NeS w L D G R s2 p1 b sp Y :=
 ⟨⟨L2, v2, h1, h0.trans h2, (h2.old G h.box.lt).trans hG, (h2.old R h.res.lt).trans hR⟩, h2.blk h.box hG, h2.blk h.res hR, h.src.chgF h2.chg (fun a ha hf => by unfold kx at hf; have := hsp a ha; omega), h.lo⟩
theorem Chg.setsG (F : Nat → Prop) {G : Nat} (hG : F G) : ∀ (vs : List Value) (o : Nat) (w : World), Chg F w (w.setCells G o vs)
 | [], _, w => Chg.refl F w
 | v :: r, o, w => ((Chg.refl F w).setCell (.inl hG) o v).trans' (Chg.setsG F hG r (o + 1) _)
theorem jr (G : Nat) : ∀ (vs : List Value) (o : Nat) (w : World), (w.setCells G o vs).heap.size = w.heap.size
 | [], _, _ => rfl
 | v :: r, o, w => (jr G r (o + 1) _).trans (by simp [World.setCell])
theorem Yj (l : Bs) : ((l.map V8).toArray).all (·.oneCell') = true := A0 V8 (fun _ => rfl) l
theorem b9 {fn : Func} {p u : Tmp} (h : fn.results = #[.cell p 28, .tmp u]) (tmps : Array Value) (w : World) (g t : Nat) (cs : List Value)
  (hp : tmps.getD p undef = .pointer (some ⟨g, 0, none⟩)) (hg : Blk w g cs t) (hi : (Tryz.prog.info? 28).map (·.size) = some cs.length) :
  (results fn tmps).run Tryz.prog w = .ok (.tuple #[.agg cs.toArray, tmps.getD u undef]) w := by
 rw [results_cell_tmp h, hp];simp only [asAddr, Sem.run_pure, Result.andThen_ok, run_loadVar_row w g t 28 cs.toArray (0, 0) _ hg Tryz.underlying28 rfl (by simpa using hi)]
theorem tf (w : World) (g : Nat) (c : Array Value) : Chg (fun k => k = g) w (w.setRow g c) := (Chg.refl (fun k => k = g) w).setRow (.inl rfl) c
theorem bo (h : p.OK) : (Tryz.prog.info? 28).map (·.size) = some (a8 p).length := by rw [aa h]; exact dw
theorem NeS.ends {w : World} (h : NeS w L D G R s1 p1 b sp X) (hR : w.heap.size ≤ R) (q : Pt) : ShPost 5 L w D s1 (X.setRow R (a8 q).toArray) ∧ Blk (X.setRow R (a8 q).toArray) R (a8 q) 28 := by
 obtain ⟨⟨L1, v1, h1, h2, h3, h4⟩, hg, hr, hs, a0⟩ := h;have hc := tf X R (a8 q).toArray;have hz : (X.setRow R (a8 q).toArray).heap.size = X.heap.size := by simp
 refine ⟨⟨L1, v1, h1.out hc (fun g e _ => .inl (by rw [e]; exact h4)) (fun _ _ => .inl rfl) (fun g hg => by rw [hz]; exact h1.lt g hg), ?_⟩, hr.row _⟩;exact ⟨h2.chg.trans hc (fun g e => by right; have : g = R := e; omega), h2.old, h2.new⟩
def yx (L : Nat → Nat) (w : World) (D : Nat) (s : Sh) (p : Pt) (b : Bs) (e : Ending) (w' : World) : Prop := e = .returned (.tuple #[.agg (a8 (nwP s p b)).toArray, .int .i64 (nwE s : Int)]) ∧ ShPost 5 L w D (nwS s p b) w'
set_option maxRecDepth 100000 in
set_option maxHeartbeats 8000000 in
theorem Bt {w : World} (p : Pt) (hp : p.OK) (b : Bs) (sp : Option Addr) (cap : Nat) (h : ShAt w L D s v) (hl : s.made.length < 100000000) (hbl : s.blocks.length ≤ 30000) (hr : -1 ≤ s.room ∧ s.room ≤ 1000) (hb : b.length ≤ 4000) (hS : SrcA w sp b) (hz : sp = none → cap = 0) (hspL : ∀ a, sp = some a → a.block < w.heap.size ∧ (L a.block = 0 ∨ L a.block = 10)) :
  Calls Tryz.prog 150 #[.pointer (some ⟨D, 0, none⟩), .agg (a8 p).toArray, .slice sp b.length cap] w (yx L w D s p b) := by
 have a6 := zH hp
 have HX : Hid (∀ z, z = (a8 zeroP).toArray → NeS w L D w.heap.size (w.heap.size + 1) s p b sp ((w.alloc (.cells (a8 p).toArray 28)).alloc (.cells z 28))) := zH (fun z hz => by
  subst hz;have bz : Below w.heap.size w ((w.alloc (.cells (a8 p).toArray 28)).alloc (.cells (a8 zeroP).toArray 28)) := ((Below.refl _ _).alloc (Nat.le_refl _) _).alloc (by simp) _
  exact ⟨⟨L, v, h.below bz, Mv.of_below bz h.lt, h.not (Nat.le_refl _), h.not (by omega)⟩, (Blk.new _ _ _).alloc _, Blk.new' _ _ _ _ _ (by simp) rfl, hS.grown bz, Nat.le_refl _⟩)
 have bd : Hid (D < w.heap.size) := zH h.blk.lt;have HL := zH hl; have cx := zH hbl; have HR := zH hr; have HB := zH hb; have HZ := zH hz; have cl := zH hspL;have H0 := zH h;generalize hPost : yx L w D s p b = Post
 have b1 : Hid (∀ X, ja s → NeS w L D w.heap.size (w.heap.size + 1) s p b sp X → Post (.returned (.tuple #[.agg (a8 zeroP).toArray, .int .i64 30])) (X.setRow (w.heap.size + 1) (a8 zeroP).toArray)) := zH fun X hf hX => by
  rw [← hPost];unfold yx nwP nwE nwS;rw [if_pos hf, if_pos hf, if_pos hf];exact ⟨rfl, (hX.ends (by omega) zeroP).1⟩
 have bg : Hid (∀ X, ¬ ja s → NeS w L D w.heap.size (w.heap.size + 1) (nwS s p b) (iu p (s.blocks.length + 1) b) b sp X → Post (.returned (.tuple #[.agg (a8 (iu p (s.blocks.length + 1) b)).toArray, .int .i64 0])) (X.setRow (w.heap.size + 1) (a8 (iu p (s.blocks.length + 1) b)).toArray)) := zH fun X hf hX => by
  rw [← hPost];refine ⟨?_, (hX.ends (by omega) _).1⟩;unfold nwP nwE;rw [if_neg hf, if_neg hf];rfl
 clear hp h hl hbl hr hb hS hz hspL hPost;go_enter Tryz.func150, Tryz.ntmps150
 go_upto_region 1 with fail
 refine (fun (k : ∀ W, NeS w L D w.heap.size (w.heap.size + 1) s p b sp W → Code.wp _ _ _ _ W) => k _ (HX.out _ rfl)) ?_;intro W hW;clear HX;have HX := zH hW;obtain ⟨G, hG⟩ : ∃ G, w.heap.size = G := ⟨_, rfl⟩;rw [hG] at HX b1 bg bd ⊢;clear hW;obtain ⟨M, hM⟩ : ∃ M, s.blocks.length = M := ⟨_, rfl⟩;obtain ⟨rm, bx⟩ : ∃ r, s.room = r := ⟨_, rfl⟩;obtain ⟨⟨L1, v1, h1, -⟩, -⟩ := HX.out;have c4 := h1.blk.cell (j := 4) rfl;have c0 := h1.blk.cell (j := 0) rfl;have f4 := h1.blk.free 4;obtain ⟨vs, ho, -, cf, -⟩ := h1.row;obtain ⟨cz, cp, e2, ar, -⟩ := d6 ho;rw [cf, hM] at e2;rw [e2] at c0;rw [bx] at c4;have HM := zH hM; have b2 := zH bx;clear h1 ho cf e2 hM bx ar vs;have c7 := zH (bh ak);have ao := zH HX.out.res;by_cases hr0 : rm = 0
 ·have a4 := zH (b1.out W (.inl (by rw [b2.out]; exact hr0)) HX.out)
  have aj := zH ((HX.out.ends (by have := HX.out.lo; omega) zeroP).2);subst hr0
  go_wp2_with (first | (refine a9 rfl (bj rfl) ?_) | (refine wpList_store_row rfl 28 (.tmp 6) (.tmp 21) rfl (G + 1) (a8 zeroP).toArray rfl rfl 28 _ ao.out c7.out rfl (bb zeroP) ?_) | fail)
  refine bodyPost_ret (b9 Tryz.results150 _ _ (G + 1) 28 _ rfl aj.out (bo ak)) rfl ?_;exact a4.out
 ·by_cases hmx : (30000 : Int) ≤ (M : Int)
  ·have a4 := zH (b1.out W (.inr (by rw [HM.out]; omega)) HX.out)
   have aj := zH ((HX.out.ends (by have := HX.out.lo; omega) zeroP).2)
   go_wp2_with (first | (refine a9 rfl (bj rfl) ?_) | (refine wpList_store_row rfl 28 (.tmp 6) (.tmp 21) rfl (G + 1) (a8 zeroP).toArray rfl rfl 28 _ ao.out c7.out rfl (bb zeroP) ?_) | fail)
   refine bodyPost_ret (b9 Tryz.results150 _ _ (G + 1) 28 _ rfl aj.out (bo ak)) rfl ?_;exact a4.out
  ·have b0 : Hid (¬ ja s) := zH (by unfold ja; rw [b2.out, HM.out]; omega)
   have cw := IntWalk.i64_in (rm - 1) (by have := HR.out; rw [b2.out] at this; omega);have ct : decide ((30000 : Int) ≤ (M : Int)) = false := decide_eq_false hmx;have cu : ((rm : Int) == 0) = false := (by simp [hr0]);clear hmx hr0
   go_upto_region 4 with fail
   obtain ⟨r1, bv⟩ : ∃ r1 : Int, max (rm - 1) (-1) = r1 := ⟨_, rfl⟩;have cm : Hid (nwS s p b = { s with room := r1, blocks := s.blocks ++ [b], made := s.made ++ [iu p (M + 1) b] }) := zH (by unfold nwS; rw [if_neg b0.out, b2.out, HM.out, bv]);rw [bv];have b3 : Hid (∀ a, sp = some a → a.block < G ∧ (L a.block = 0 ∨ L a.block = 10)) := zH (by rw [← hG]; exact cl.out);have ck : Hid (∀ a, sp = some a → a.block ≠ D) := zH (fun a ha e => by have h1 := b3.out a ha; rw [e, H0.out.ld] at h1; omega);refine (fun (k : ∀ X, NeS w L D G (G + 1) { s with room := r1 } p b sp X → Code.wp _ _ _ _ X) => k _ (HX.out.roomed r1 bd.out (by omega) ck.out)) ?_;intro X hX;clear c4 c0 f4 bv cw ct cu ao HX b1;obtain ⟨L1, v1, h1, h2, h3, h4⟩ := hX.sh;obtain ⟨v2, w2, x4, w4, bw, ⟨d0, cq, e2⟩, br, ah, af, ⟨_, a0⟩, a1, L2, h5, h6⟩ := Up h1 hX.src HZ.out HB.out (by have := b0.out; unfold ja at this; rw [HM.out] at this; show s.blocks.length < 30000; rw [HM.out]; omega);have HY : Hid (NeS w L D G (G + 1) { s with room := r1, blocks := s.blocks ++ [b] } p b sp (w4.setCell ⟨D, 0, none⟩ x4)) := zH (hX.moved h2 h3 h4 h5 h6 (fun a ha => by have h7 := b3.out a ha; rw [h2.old a.block (by rw [hG]; exact h7.1)]; exact h7.2));obtain ⟨x0, ay⟩ : ∃ x0, v1.bl = x0 := ⟨_, rfl⟩;have k0 : X.drew.cell? ⟨D, 0, none⟩ = some x0 := (by rw [← ay]; exact h1.blk.cell rfl);have k2 : w2.cell? ⟨D, 0, none⟩ = some x0 := (by rw [← ay]; exact (h1.blk.below br h1.blk.lt).cell rfl);have k3 : (w2.alloc (.cells #[v2] 29)).cell? ⟨D, 0, none⟩ = some x0 := (by rw [← ay]; exact ((h1.blk.below br h1.blk.lt).alloc _).cell rfl);rw [ay] at ah;clear h1 h2 h3 h4 h5 h6 hX br ay;obtain ⟨w3, c1⟩ : ∃ w3, w2.alloc (.cells #[v2] 29) = w3 := ⟨_, rfl⟩;have a2 : ∀ {ρ : Operand → Value} {o : Oper} {x : Operand}, o.op = .buildSlice 46 1 #[(0, x)] → ρ x = v2 → (execOp ρ o).run Tryz.prog w2 = .ok (.value (.slice (some ⟨w2.heap.size, 0, none⟩) 1 1)) w3 := fun h1 h2 => by rw [← c1, e2]; exact Xp h1 (by rw [h2, e2])
   rw [c1] at ah k3;clear e2;refine vt ?_;apply Exists.intro;apply Exists.intro;constructor
   ·refine ci (.take 0 (.take 1 (.take 2 (.take 3 (.take 5 (.fork 4 (.step 6 (.step 7 (.step 8 (.take 9 (.take 10 (.step 11 (.nil))))))) 6 (.fork 4 (.step 7 (.step 8 (.take 9 (.take 10 (.step 11 (.nil)))))) 7 (.step 4 (.step 8 (.take 9 (.take 10 (.step 11 (.nil))))))))))))) (by kernel_rfl) (by kernel_rfl) (fun d _ _ _ _ h => by cases h.1) (fun _ => True) trivial ?_
    refine gT (.pointer (some ⟨D, 0, none⟩)) ?_;refine gT (.pointer (some ⟨D, 0, none⟩)) ?_;refine gU (.pointer (some ⟨D, 0, none⟩)) rfl (fun X hX => pj rfl rfl) ?_;refine gU (.pointer (some ⟨D, 0, none⟩)) rfl (fun X hX => mn (by omega) rfl rfl) ?_;refine gT (.slice sp b.length cap) ?_;refine i8 ?_ ?_
    ·refine bm _ rfl (by rfl) x0 X.drew (n9 rfl rfl k0) (fun _ => True) trivial (fun _ h => h) ?_; try simp only [pS]
     refine bm _ rfl (by rfl) v2 w2 (ia rfl rfl rfl bw) (fun _ => True) trivial (fun _ h => h) ?_; try simp only [pS]
     refine bm _ rfl (by rfl) (.slice (some ⟨w2.heap.size, 0, none⟩) 1 1) w3 (a2 rfl rfl) (fun _ => True) trivial (fun _ h => h) ?_; try simp only [pS]
     refine bm _ rfl (by rfl) x4 w4 (Ck rfl rfl rfl ah) (fun _ => True) trivial (fun _ h => h) ?_; try simp only [pS]
     refine gU (.pointer (some ⟨D, 0, none⟩)) rfl (fun X hX => pj rfl rfl) ?_;refine gU (.pointer (some ⟨D, 0, none⟩)) rfl (fun X hX => mn (by omega) rfl rfl) ?_;refine pf _ rfl (by rfl) (w4.setCell ⟨D, 0, none⟩ x4) (Hn rfl rfl rfl af a0 a1) (fun _ => True) trivial (fun _ h => h) ?_;refine au ?_;exact ⟨rfl, rfl, rfl⟩
    ·refine bm _ rfl (by rfl) v2 w2 (ia rfl rfl rfl bw) (fun _ => True) trivial (fun _ h => h) ?_; try simp only [pS]
     refine i8 ?_ ?_
     ·refine bm _ rfl (by rfl) x0 w2 (n9 rfl rfl k2) (fun _ => True) trivial (fun _ h => h) ?_; try simp only [pS]
      refine bm _ rfl (by rfl) (.slice (some ⟨w2.heap.size, 0, none⟩) 1 1) w3 (a2 rfl rfl) (fun _ => True) trivial (fun _ h => h) ?_; try simp only [pS]
      refine bm _ rfl (by rfl) x4 w4 (Ck rfl rfl rfl ah) (fun _ => True) trivial (fun _ h => h) ?_; try simp only [pS]
      refine gU (.pointer (some ⟨D, 0, none⟩)) rfl (fun X hX => pj rfl rfl) ?_;refine gU (.pointer (some ⟨D, 0, none⟩)) rfl (fun X hX => mn (by omega) rfl rfl) ?_;refine pf _ rfl (by rfl) (w4.setCell ⟨D, 0, none⟩ x4) (Hn rfl rfl rfl af a0 a1) (fun _ => True) trivial (fun _ h => h) ?_;refine au ?_;exact ⟨rfl, rfl, rfl⟩
     ·refine bm _ rfl (by rfl) (.slice (some ⟨w2.heap.size, 0, none⟩) 1 1) w3 (a2 rfl rfl) (fun _ => True) trivial (fun _ h => h) ?_; try simp only [pS]
      refine bm _ rfl (by rfl) x0 w3 (n9 rfl rfl k3) (fun _ => True) trivial (fun _ h => h) ?_; try simp only [pS]
      refine bm _ rfl (by rfl) x4 w4 (Ck rfl rfl rfl ah) (fun _ => True) trivial (fun _ h => h) ?_; try simp only [pS]
      refine gU (.pointer (some ⟨D, 0, none⟩)) rfl (fun X hX => pj rfl rfl) ?_;refine gU (.pointer (some ⟨D, 0, none⟩)) rfl (fun X hX => mn (by omega) rfl rfl) ?_;refine pf _ rfl (by rfl) (w4.setCell ⟨D, 0, none⟩ x4) (Hn rfl rfl rfl af a0 a1) (fun _ => True) trivial (fun _ h => h) ?_;refine au ?_;exact ⟨rfl, rfl, rfl⟩
   clear k0 k2 k3 a2 c1 ah bw af a0 a1;generalize w4.setCell ⟨D, 0, none⟩ x4 = X4 at HY ⊢;obtain ⟨⟨L3, v3, h3, -, -, -⟩, -⟩ := HY.out;have c0 := h3.blk.cell (j := 0) rfl;obtain ⟨cg, ce, -, a7, -⟩ := h3.row;obtain ⟨cv, bn, e3, -, -⟩ := d6 ce;replace a7 : cg.length = M + 1 := by rw [a7]; simp [HM.out]
   rw [a7] at e3;rw [e3] at c0;have cy := bd.out;have al : Hid (M < 30000) := zH (by have := b0.out; unfold ja at this; rw [HM.out] at this; omega);have ai := zH h3.blk;have c3 : Hid ((i6 v3 r1)[0]? = some (.slice cv (M + 1) bn)) := zH (by rw [← e3]; rfl);clear h3 ce a7 e3 cg;have c4 := HY.out.box.cell (j := 4) rfl;have f4 := HY.out.box.free 4;have aw : IntKind.u64.wrap ((M + 1 : Nat) : Int) = ((M + 1 : Nat) : Int) := (by rw [IntKind.wrap_u64]; have := al.out; omega);have av : IntKind.u16.wrap ((M + 1 : Nat) : Int) = ((M + 1 : Nat) : Int) := (by rw [IntKind.wrap_u16]; have := al.out; omega);have bi : Hid (∀ a, sp = some a → a.block ≠ G) := zH (fun a ha => by have := (b3.out a ha).1; omega);obtain ⟨m, hm⟩ : ∃ m, M + 1 = m := ⟨_, rfl⟩;rw [hm] at c0 aw av c3
   go_upto_region 6 with fail
   refine (fun (k : ∀ X, NeS w L D G (G + 1) { s with room := r1, blocks := s.blocks ++ [b] } { p with birth := m } b sp X → Blk X D (i6 v3 r1) 50 → Code.wp _ _ _ _ X) => k _ (HY.out.boxed (Hf X4 G 4 _) (by simp [World.setCell]) (by rw [← U7]; exact HY.out.box.set 4 _) (by omega) bi.out) (ai.out.other (a := ⟨G, 4, none⟩) (by show D ≠ G; omega) _)) ?_;intro X5 hX5 hD5;have a3 := zH hX5; have c2 := zH hD5;have co := hD5.cell c3.out;clear hX5 hD5 c0 c4 f4 HY ai;have ad : Hid ({ p with birth := m } : Pt).OK := zH ⟨a6.out.kind, a6.out.level, a6.out.obj, a6.out.off, by have := al.out; show m < _; omega, a6.out.hash, a6.out.len, a6.out.ats⟩;have b4 : Hid (X5.there G 37 (([m, 0, 0, 0].map U16).toArray).size) := zH (a3.out.box.there _ _ (by rw [aa ad.out]; simp));obtain ⟨_, q0⟩ := a3.out.box.has 37 (by rw [aa ad.out]; decide);obtain ⟨_, q1⟩ := a3.out.box.has 38 (by rw [aa ad.out]; decide);obtain ⟨_, q2⟩ := a3.out.box.has 39 (by rw [aa ad.out]; decide);obtain ⟨_, q3⟩ := a3.out.box.has 40 (by rw [aa ad.out]; decide);have z0 := a3.out.box.free 37;have z1 := a3.out.box.free 38;have z2 := a3.out.box.free 39;have z3 := a3.out.box.free 40
   go_upto_region 7 with fail
   have am : Hid (ph p m).OK := zH (za a6.out (by have := al.out; omega))
   refine (fun (k : ∀ X, NeS w L D G (G + 1) { s with room := r1, blocks := s.blocks ++ [b] } (ph p m) b sp X → Blk X D (i6 v3 r1) 50 → Code.wp _ _ _ _ X) => k _ (a3.out.boxed (Chg.setsG (fun k => k = G) rfl _ _ _) (jr _ _ _ _) (by
    have h1 := fg G 28 ([m, 0, 0, 0].map U16) 37 _ _ a3.out.box (by rw [aa ad.out]; simp);rw [a17 ad.out [m, 0, 0, 0] rfl] at h1
    exact h1) (by omega) bi.out) (fh (by show D ≠ G; omega) _ _ _ _ c2.out)) ?_
   intro X6 hX6 hD6;have b5 := zH hX6; have bc := zH hD6;clear hX6 hD6 co a3 c2 b4 aw av q0 q1 q2 q3 z0 z1 z2 z3;have hq := Fp (ph p m) am.out b sp cap X6 HB.out HZ.out b5.out.src;obtain ⟨dg, b7⟩ : ∃ dg, od (iy (ph p m) ++ b) = dg := ⟨_, rfl⟩;have bf := zH b7;have az : Hid (dg.length = 32) := zH (by rw [← b7]; exact jq _);rw [b7] at hq;have c5 := zH hq;clear hq b7;have c6 : Hid ({ ph p m with hash := dg } = iu p m b) := zH (by unfold iu; rw [bf.out]);have ap : Hid ((Tryz.prog.info? 25).map (·.size) = some ((dg.map V8).toArray).size) := zH (by rw [List.size_toArray, List.length_map, az.out]; exact p5)
   go_wp2_with (first | (refine a9 rfl (ax am.out b5.out.box rfl rfl) ?_) | fail)
   refine c5.out.mono ?_;rintro e X7 ⟨rfl, bs⟩;have b6 := zH (b5.out.below bs);have ch := zH (bc.out.below bs bc.out.lt);clear bs b5 bc c5;have b4 : Hid (X7.there G 5 ((dg.map V8).toArray).size) := zH (b6.out.box.there _ _ (by rw [aa am.out, List.size_toArray, List.length_map, az.out]; decide))
   go_upto_region 8 with (first | (refine wpList_store_mid rfl 25 (.tmp 60) (.tmp 59) rfl G 5 ((dg.map V8).toArray) rfl rfl b4.out ap.out (Yj dg) ?_) | fail)
   refine (fun (k : ∀ X, NeS w L D G (G + 1) { s with room := r1, blocks := s.blocks ++ [b] } (iu p m b) b sp X → Code.wp _ _ _ _ X) => k _ (b6.out.boxed (Chg.setsG (fun k => k = G) rfl _ _ _) (jr _ _ _ _) (by
    have h1 := fg G 28 (dg.map V8) 5 _ _ b6.out.box (by rw [aa am.out, List.length_map, az.out]; decide);rw [Yo am.out dg az.out, c6.out] at h1
    exact h1) (by omega) bi.out)) ?_
   intro X hX8;have ab := zH hX8;clear hX8 b6 ch b4 c6 ap;have a5 : Hid (iu p m b).OK := zH (sg a6.out (by have := al.out; omega) b);obtain ⟨np, bu⟩ : ∃ np, iu p m b = np := ⟨_, rfl⟩;have an := zH bu;rw [bu] at ab a5;clear bu;obtain ⟨L8, v8, h8, m8, l8, r8⟩ := ab.out.sh;have cd := h8.notD h8.md.2 (by omega);have bp : v8.md.ownBlock ≠ some G := fun e => by have h1 := h8.md.2 G e; omega
   have cs : G ≠ D := (by omega);obtain ⟨b8, ba, hr, af, ⟨_, a0⟩, a1, ae, k1, k2, k3, k4, k5⟩ := tz (W := X) (k := 2) h8.md.1 h8.blk cd a5.out HL.out (by simp [i6]);have c9 := (ae ab.out.box bp).1;have ca := (ae ab.out.box bp).2 cs;have bt := h8.madee a5.out k1 k2 k3 k4 k5;obtain ⟨L9, v9, h9, m9⟩ := bt
   have ag : Hid (NeS w L D G (G + 1) (nwS s p b) np b sp (ba.setCell ⟨D, 2, none⟩ b8)) := zH (by
    have cr := ab.out.moved m8 l8 r8 h9 m9 (fun a ha => by have h7 := b3.out a ha; rw [m8.old a.block (by rw [hG]; exact h7.1)]; exact h7.2);rw [cm.out, hm, an.out]
    exact cr)
   have cj : Hid (∀ X, NeS w L D G (G + 1) (nwS s p b) np b sp X → Post (.returned (.tuple #[.agg (a8 np).toArray, .int .i64 0])) (X.setRow (G + 1) (a8 np).toArray)) := zH (by
    have c8 := fun X => bg.out X b0.out
    rw [HM.out, hm, an.out] at c8
    exact c8)
   have cb : X.drew.cell? ⟨D, 2, none⟩ = some v8.md := h8.blk.cell rfl;have ar : (X.drew.alloc (.cells (a8 np).toArray 28)).cell? ⟨D, 2, none⟩ = some v8.md := (h8.blk.drew.alloc _).cell rfl;have aq : Blk (X.drew.alloc (.cells (a8 np).toArray 28)) G (a8 np) 28 := ab.out.box.drew.alloc _;obtain ⟨W2, bq⟩ : ∃ W2, X.drew.alloc (.cells (a8 np).toArray 28) = W2 := ⟨_, rfl⟩;have a2 : ∀ {ρ : Operand → Value} {o : Oper} {x : Operand}, o.op = .buildSlice 48 1 #[(0, x)] → ρ x = .agg (a8 np).toArray → (execOp ρ o).run Tryz.prog X.drew = .ok (.value (.slice (some ⟨X.drew.heap.size, 0, none⟩) 1 1)) W2 := fun h1 h2 => by rw [← bq]; exact Aa np h1 h2 a5.out
   rw [bq] at hr ar aq;clear h8 m8 l8 r8 cd bp ae k1 k2 k3 k4 k5 h9 m9 bg;refine vt ?_;apply Exists.intro;apply Exists.intro;constructor
   ·refine ci (.take 0 (.take 1 (.take 2 (.take 3 (.take 5 (.fork 4 (.step 6 (.step 7 (.take 8 (.take 9 (.step 10 (.nil)))))) 6 (.step 4 (.step 7 (.take 8 (.take 9 (.step 10 (.nil)))))))))))) (by kernel_rfl) (by kernel_rfl) (fun d _ _ _ _ h => by cases h.1) (fun X => Blk X G (a8 np) 28) (ab.out.box.drew) ?_
    refine gT (.pointer (some ⟨D, 0, none⟩)) ?_;refine gT (.pointer (some ⟨D, 0, none⟩)) ?_;refine gU (.pointer (some ⟨D, 0, none⟩)) rfl (fun X hX => pj rfl rfl) ?_;refine gU (.pointer (some ⟨D, 2, none⟩)) rfl (fun X hX => mn (by omega) rfl rfl) ?_;refine gU (.agg (a8 np).toArray) rfl (fun X hX => ax a5.out hX rfl rfl) ?_;refine i8 (bm _ rfl (by rfl) v8.md X.drew (ib rfl rfl cb) (fun X => Blk X G (a8 np) 28) (ab.out.box.drew) (fun _ h => h) ?_) ?_; try simp only [pS]
    refine bm _ rfl (by rfl) (.slice (some ⟨X.drew.heap.size, 0, none⟩) 1 1) W2 (a2 rfl rfl) (fun X => Blk X G (a8 np) 28) aq (fun _ h => h) ?_; try simp only [pS]
    rotate_left
    refine bm _ rfl (by rfl) (.slice (some ⟨X.drew.heap.size, 0, none⟩) 1 1) W2 (a2 rfl rfl) (fun X => Blk X G (a8 np) 28) aq (fun _ h => h) ?_; try simp only [pS]
    refine bm _ rfl (by rfl) v8.md W2 (ib rfl rfl ar) (fun X => Blk X G (a8 np) 28) aq (fun _ h => h) ?_; try simp only [pS]
    all_goals
     refine bm _ rfl (by rfl) b8 ba (rk rfl rfl rfl hr) (fun X => Blk X G (a8 np) 28) c9 (fun _ h => h) ?_; try simp only [pS]
     refine gU (.pointer (some ⟨D, 0, none⟩)) rfl (fun X hX => pj rfl rfl) ?_;refine gU (.pointer (some ⟨D, 2, none⟩)) rfl (fun X hX => mn (by omega) rfl rfl) ?_;refine pf _ rfl (by rfl) (ba.setCell ⟨D, 2, none⟩ b8) (yl rfl rfl rfl af a0 a1) (fun X => Blk X G (a8 np) 28) ca (fun _ h => h) ?_;refine au ?_;exact ⟨rfl, rfl, rfl⟩
   clear a0 a1 c9 ca hr cb ar aq a2 bq af;generalize ba.setCell ⟨D, 2, none⟩ b8 = X9 at ag ⊢;have bk := zH (bh a5.out);have ao := zH ag.out.res;have cn : Hid ((a8 zeroP).toArray.size = (a8 np).toArray.size) := zH (by rw [List.size_toArray, List.size_toArray, aa a5.out, aa ak]);have a4 := zH (cj.out X9 ag.out);have aj := zH ((ag.out.ends (by have := ag.out.lo; omega) np).2)
   go_wp2_with (first | (refine a9 rfl (ax a5.out ag.out.box rfl rfl) ?_) | (refine wpList_store_row rfl 28 (.tmp 6) (.tmp 71) rfl (G + 1) (a8 np).toArray rfl rfl 28 _ ao.out bk.out cn.out (bb np) ?_) | fail)
   refine bodyPost_ret (b9 Tryz.results150 _ _ (G + 1) 28 _ rfl aj.out (bo a5.out)) rfl ?_;exact a4.out
theorem fk (p : Pt) (hp : p.OK) (w : World) : Calls Tryz.prog 94 #[.agg (a8 p).toArray] w fun e w' => e = .returned (.bool (eqP p zeroP)) ∧ Below w.heap.size w w' := by
 have HP := zH hp;have HB := zH (Blk.new w (a8 p) 28);have HW : Hid (Below w.heap.size w (w.alloc (.cells (a8 p).toArray 28))) := zH ((Below.refl _ _).alloc (Nat.le_refl _) _);clear hp;go_enter Tryz.func94, Tryz.ntmps94
 go_wp2_with (first | (refine a9 rfl (ax HP.out HB.out rfl rfl) ?_) | (refine a9 rfl (bj rfl) ?_) | (refine a9 rfl (tg (p := p) (q := zeroP) rfl rfl rfl HP.out ak) ?_) | fail)
 go_ret;exact ⟨rfl, HW.out⟩
theorem vm (lv : Nat) (h : lv ≤ 2) (w : World) : Calls Tryz.prog 97 #[.int .u8 (lv : Int)] w fun e w' => e = .returned (.int .u32 ((8 ^ lv : Nat) : Int)) ∧ w' = w := by
 have HL := zH h;generalize hPost : (fun e w' => e = Ending.returned (.int .u32 ((8 ^ lv : Nat) : Int)) ∧ w' = w) = Post;have HP : Hid (Post (.returned (.int .u32 ((8 ^ lv : Nat) : Int))) w) := zH (by rw [← hPost]; exact ⟨rfl, rfl⟩);clear h hPost;go_enter Tryz.func97, Tryz.ntmps97
 go_wp2_with fail
 go_loopw [3, 5] (fun n i wr => ∃ k : Nat, k ≤ lv ∧ i = .int .u8 (k : Int) ∧ n = .int .u32 ((8 ^ k : Nat) : Int) ∧ wr = w) (fun _ i _ => lv - (intOf i).toNat)
 case atStart => exact ⟨0, by omega, rfl, rfl, rfl⟩
 case round =>
  obtain ⟨k, hk, rfl, rfl, rfl⟩ := hrel;by_cases hlt : k < lv
  ·have h2 := HL.out
   have e8 : ((8 ^ (k + 1) : Nat) : Int) = ((8 ^ k : Nat) : Int) * 8 := (by rw [Nat.pow_succ]; simp);have a0 : IntKind.u8.wrap ((k : Int) + 1) = (k : Int) + 1 := (by rw [IntKind.wrap_u8]; omega)
   have hb : (8 ^ k : Nat) ≤ 8 := by
    have : k = 0 ∨ k = 1 := (by omega);rcases this with rfl | rfl <;> decide
   obtain ⟨x, hx⟩ : ∃ x, 8 ^ k = x := ⟨_, rfl⟩;have HX := zH hx;rw [hx] at hb e8 ⊢;have a1 : IntKind.u32.wrap ((x : Int) * 8) = (x : Int) * 8 := (by rw [IntKind.wrap_u32]; omega);clear hb h2
   go_wp2_with fail
   go_roundw
   case rel => exact ⟨k + 1, by omega, by go_num, by rw [e8], trivial⟩
   case measure => simp [intOf]; omega
  ·obtain rfl : k = lv := by omega
   obtain ⟨x, hx⟩ : ∃ x, 8 ^ k = x := ⟨_, rfl⟩;rw [hx] at HP ⊢;clear hx hlt
   go_wp2_with fail
   first | exact HP.out | (go_ret; exact HP.out)
def mu (p : Pt) : Nat := if eqP p zeroP then 0 else if fz p = false ∨ p.kind ≠ 3 ∨ p.level ≠ 2 then 1 else 0
def shI (D : Nat) : Value := .iface 45 (.pointer (some ⟨D, 0, none⟩))
set_option maxRecDepth 100000 in
set_option maxHeartbeats 4000000 in
theorem p8 (p : Pt) (hp : p.OK) (D : Nat) (w : World) (hT : RTab w) : Calls Tryz.prog 71 #[shI D, .agg (a8 p).toArray] w fun e w' => e = .returned (.int .i64 (mu p : Int)) ∧ Below w.heap.size w w' := by
 have HP := zH hp;have HT := zH hT;have HB := zH (Blk.new w (a8 p) 28);have HW : Hid (Below w.heap.size w (w.alloc (.cells (a8 p).toArray 28))) := zH ((Below.refl _ _).alloc (Nat.le_refl _) _);obtain ⟨re, ae⟩ : ∃ re, mu p = re := ⟨_, rfl⟩;have a6 := zH ae;rw [ae];generalize hPost : (fun e w' => e = Ending.returned (.int .i64 (re : Int)) ∧ Below w.heap.size w w') = Post;have ag : Hid (∀ w', Below w.heap.size w w' → Post (.returned (.int .i64 (re : Int))) w') := zH fun w' h => by rw [← hPost]; exact ⟨rfl, h⟩
 clear hp hT ae hPost;unfold shI;go_enter Tryz.func71, Tryz.ntmps71
 go_upto_region 1 with fail
 obtain ⟨G, hG⟩ : ∃ G, w.heap.size = G := ⟨_, rfl⟩;have a4 : Hid (∀ W', Below (w.alloc (.cells (a8 p).toArray 28)).heap.size (w.alloc (.cells (a8 p).toArray 28)) W' → Below w.heap.size w W') := zH fun W' h => HW.out.trans (h.mono HW.out.size)
 have a7 : Hid (RTab (w.alloc (.cells (a8 p).toArray 28))) := zH (HT.out.alloc _);rw [hG] at HB ⊢;generalize (w.alloc (.cells (a8 p).toArray 28)) = W at HB a4 a7 ⊢;clear HW hG
 go_wp2_with (first | (refine a9 rfl (ax HP.out HB.out rfl rfl) ?_) | fail)
 refine (fk p HP.out W).mono ?_;rintro e W2 ⟨rfl, a5⟩;have a2 := zH (HB.out.below a5 HB.out.lt);have ah := zH (a7.out.grown a5);have a3 := zH a5;clear a5 HB a7;cases hz : eqP p zeroP
 ·go_wp2_with (first | (refine a9 rfl (ax HP.out a2.out rfl rfl) ?_) | fail)
  refine (sf p HP.out W2 ah.out).mono ?_;rintro e W3 ⟨rfl, aa⟩;have af := zH (a2.out.below aa a2.out.lt);have HE := zH (ag.out W3 (a4.out W3 (a3.out.trans (aa.mono a3.out.size))));have c0 := af.out.cell (j := 0) rfl;have c1 := af.out.cell (j := 1) rfl;obtain ⟨kk, ab⟩ : ∃ k, p.kind = k := ⟨_, rfl⟩;obtain ⟨ll, ad⟩ : ∃ k, p.level = k := ⟨_, rfl⟩;have a1 : re = if fz p = false ∨ kk ≠ 3 ∨ ll ≠ 2 then 1 else 0 := by rw [← a6.out, ← ab, ← ad]; unfold mu; rw [hz]; rfl
  have a0 := zH a1;rw [ab] at c0;rw [ad] at c1;clear aa a2 ah a3 a4 a6 a1 ab ad hz;cases hm : fz p
  ·obtain rfl : re = 1 := by rw [a0.out, if_pos (.inl hm)]
   go_wp2_with fail
   first | exact HE.out | (go_ret; exact HE.out)
  ·by_cases h3 : kk = 3
   ·subst h3
    by_cases h2 : ll = 2
    ·subst h2
     obtain rfl : re = 0 := by rw [a0.out, if_neg (by simp [hm])]
     go_wp2_with fail
     first | exact HE.out | (go_ret; exact HE.out)
    ·obtain rfl : re = 1 := by rw [a0.out, if_pos (.inr (.inr h2))]
     have ai : ¬ (ll : Int) = 2 := by omega
     go_wp2_with fail
     first | exact HE.out | (go_ret; exact HE.out)
   ·obtain rfl : re = 1 := by rw [a0.out, if_pos (.inr (.inl h3))]
    have aj : ¬ (kk : Int) = 3 := by omega
    go_wp2_with fail
    first | exact HE.out | (go_ret; exact HE.out)
 ·obtain rfl : re = 0 := by rw [← a6.out]; unfold mu; rw [hz]; rfl
  have HE := zH (ag.out W2 (a4.out W2 a3.out))
  go_wp2_with fail
  first | exact HE.out | (go_ret; exact HE.out)
end Go.Proofs.YtjgjohdeeeoeoaaGreatDoor
