/- The shelf's New. -/
import Derived.Test.YtjgjohdeeeoeoaaGreatDoorM13
import Derived.Handy
namespace Go.Proofs.YtjgjohdeeeoeoaaGreatDoor
open Go.RowKit
attribute [local go_sem] Oper.semAt_some
variable {b : Bs} {D G R cap : Nat} {L : Nat → Nat} {sp : Option Addr} {p p1 : Pt} {s s1 : Sh} {v : Sv} {u : Value} {X Y : World}
theorem a10 : (Tryz.prog.info? 29).map (fun i => (i.zero, i.size, i.bytes)) = some (some (.slice none 0 0), 1, 24) := by kernel_rfl
theorem Dc : ∃ i, Tryz.prog.info? 29 = some i ∧ i.zero = some (.slice none 0 0) ∧ i.size = 1 ∧ i.bytes = 24 := by
 obtain ⟨i, h1, h2⟩ := Option.map_eq_some_iff.1 a10;simp only [Prod.mk.injEq] at h2;exact ⟨i, h1, h2.1, h2.2.1, h2.2.2⟩
theorem Wu {w : World} {x : Value} {vs : List Value} (h : Px w x vs) (hl : vs.length ≤ 100000000) (hu : u.oneCell' = true) {g : Nat} {t : TypeId} (hg : Blk w g [u] t) (ty : TypeId) :
  ∃ x' w', (Builtin.append_ #[46, 46] ty #[x, .slice (some ⟨g, 0, none⟩) 1 1]).run Tryz.prog w = .ok x' w' ∧ Px w' x' (vs ++ [u]) ∧ w.grownBy w' x.ownBlock ∧ (x'.ownBlock = x.ownBlock ∨ x'.ownBlock = some w.heap.size) := by
 obtain ⟨i0, hi, a1, a0, a2⟩ := Dc
 obtain ⟨v', w', hr, h2, h3, _, h5⟩ := run_append_own_at (P := Tryz.prog) w 0 46 ty 29 i0 (.slice none 0 0) 1 24 Tryz.underlying46 hi a1 a0 a2 rfl (by decide) x vs.length vs h ⟨g, 0, none⟩ 1 1 [u] rfl (fun j y hj => by
  rw [Addr.add_mid, Nat.zero_add]
  exact hg.cell hj) (by intro y hy; simp at hy; subst hy; exact hu) (by unfold maxLen; omega) (by omega) (Nat.zero_le _)
 refine ⟨v', w', hr, ?_, h3, h5⟩;unfold Px;rw [List.length_append];exact h2
section
variable {ρ : Operand → Value} {o : Oper} {x y : Operand} {w : World}
theorem Cq {v v' : Value} {w w' : World} (ho : o.op = .call { callee := .builtin .append, args := #[x, y], argTypes := #[46, 46] }) (hx : ρ x = v) (hy : ρ y = u)
  (hr : (Builtin.append_ #[46, 46] o.type #[v, u]).run Tryz.prog w = .ok v' w') : (execOp ρ o).run Tryz.prog w = .ok (.value v') w' := by
 unfold execOp;simp only [ho, resolve, invoke, builtin, Sem.run_bind, Sem.run_pure, Result.andThen_ok, List.map_toArray, List.map_cons, List.map_nil, hx, hy, hr]
theorem J0 {ad : Addr} {v : Value} (ho : o.op = .store 46 x y) (hx : ρ x = .pointer (some ad)) (hy : ρ y = v) (hv : ∃ sp n cap, v = .slice sp n cap) (hc : w.cell? ad = some u) (hf : w.frozen? ad = false) :
  (execOp ρ o).run Tryz.prog w = .ok .skip (w.setCell ad v) := by
 obtain ⟨sp, n, cap, rfl⟩ := hv;unfold execOp;simp only [ho];go_simp
theorem Yo {n : Nat} (ho : o.op = .buildSlice 46 1 #[(0, x)]) (hx : ρ x = .slice sp n cap) :
  (execOp ρ o).run Tryz.prog w = .ok (.value (.slice (some ⟨w.heap.size, 0, none⟩) 1 1)) (w.alloc (.cells #[.slice sp n cap] 29)) := by
 unfold execOp;simp only [ho];go_simp
end
theorem ShAt.roomed {w : World} (h : ShAt w L D s v) (r : Int) : ShAt (w.setCell ⟨D, 4, none⟩ (.int .i64 r)) L D { s with room := r } v ∧ Mv 5 L w L (w.setCell ⟨D, 4, none⟩ (.int .i64 r)) := by
 have hc := Hb w D 4 (.int .i64 r);have hs : (w.setCell ⟨D, 4, none⟩ (.int .i64 r)).heap.size = w.heap.size := by simp [World.setCell]
 have n : ∀ {j : Nat}, j ≠ 1 → ∀ g, g = D → L g ≠ j := fun hj g hg => by subst hg; rw [h.ld]; exact fun e => hj e.symm
 exact ⟨h.step (s' := { s with room := r }) hc (fun g hg => n (by omega) g hg) (fun _ _ => rfl) (fun g hg => by rw [hs]; exact h.lt g hg) (h.blk.set 4 _) (vo h.row hc (fun g hg => ⟨n (by omega) g hg, n (by omega) g hg⟩) (fun _ _ => rfl) h.lt) ⟨rfl, rfl⟩ (fo h.md hc (fun g hg => n (by omega) g hg) (fun _ _ => rfl)) (fo h.gn hc (fun g hg => n (by omega) g hg) (fun _ _ => rfl)) (fo h.rd hc (fun g hg => n (by omega) g hg) (fun _ _ => rfl)) h.okm h.okg h.okr,
  ⟨hc.mono (fun g hg => by subst hg; unfold lj; rw [h.ld]; omega), fun _ _ => rfl, fun g hg => by left; have := h.lt g; omega⟩⟩
theorem Rf {W : World} (h : ShAt W L D s v) (hS : SrcA W sp b) (hz : sp = none → cap = 0) (hb : b.length ≤ 4000) (hbl : s.blocks.length < 30000) :
  ∃ v2 w2 x4 w4, (Builtin.append_ #[29, 29] 29 #[.slice none 0 0, .slice sp b.length cap]).run Tryz.prog W.drew = .ok v2 w2 ∧ (∃ sp2 cap2, v2 = .slice sp2 b.length cap2) ∧ Below W.heap.size W w2 ∧
   (Builtin.append_ #[46, 46] 46 #[v.bl, .slice (some ⟨w2.heap.size, 0, none⟩) 1 1]).run Tryz.prog (w2.alloc (.cells #[v2] 29)) = .ok x4 w4 ∧ (∃ sp n cap, x4 = .slice sp n cap) ∧ (∃ c, w4.cell? ⟨D, 0, none⟩ = some c) ∧ w4.frozen? ⟨D, 0, none⟩ = false ∧
   ∃ L', ShAt (w4.setCell ⟨D, 0, none⟩ x4) L' D { s with blocks := s.blocks ++ [b] } { v with bl := x4 } ∧ Mv 5 L W L' (w4.setCell ⟨D, 0, none⟩ x4) := by
 obtain ⟨v2, w2, al, ad, aj⟩ := lh (w := W.drew) (B := W.heap.size) (v := .slice none 0 0) (l := []) (m := b) (sp := sp) (cap := cap) (World.ownsRow_nil _ _ _ _) (Nat.le_refl _) (by simp; omega) hS.drew hz 29;rw [List.nil_append] at ad;have a0 : Below W.heap.size W w2 := (Below.refl _ _).drew.trans aj;obtain ⟨sp2, cap2, e2, f1, f2, f3, f4, f5⟩ := OwnB.form ad;have ae : Below W.heap.size W (w2.alloc (.cells #[v2] 29)) := a0.alloc a0.size _;obtain ⟨vs, r1, r2, r3, r4, r5⟩ := h.row;have ai : Px (w2.alloc (.cells #[v2] 29)) v.bl vs := bc r1 (Chg.of_below (F := fun _ => False) ae) (fun _ _ h => h);have a2 : Blk (w2.alloc (.cells #[v2] 29)) w2.heap.size [v2] 29 := Blk.new' _ _ _ _ _ rfl rfl;obtain ⟨x4, w4, am, a5, a3, ag⟩ := Wu ai (by omega) (u := v2) (by rw [e2]; rfl) a2 46;have a9 : v.bl.ownBlock ≠ some D := fun e => by have := r2 D e; rw [h.ld] at this; omega
 have aa : Chg (fun g => v.bl.ownBlock = some g) W w4 := (Chg.of_below ae).grown a3 (fun g hg => .inl hg);have a7 : Blk w4 D (i4 v s.room) 50 := h.blk.chg aa a9;have a1 : Chg (fun g => g = D ∨ v.bl.ownBlock = some g) W (w4.setCell ⟨D, 0, none⟩ x4) := (aa.mono (fun g hg => .inr hg)).setCell (.inl (.inl rfl)) 0 x4;have ak : (w4.setCell ⟨D, 0, none⟩ x4).heap.size = w4.heap.size := by simp [World.setCell]
 have ao : w2.heap.size < w4.heap.size := by have := a3.size; simp at this; omega
 have a8 : ∀ g, x4.ownBlock = some g → v.bl.ownBlock = some g ∨ w2.heap.size < g := fun g hg => by
  rcases ag with e | e
  ·left; rw [← e]; exact hg
  ·right; rw [e] at hg; injection hg; simp at *; omega
 have a6 : ∀ g, x4.ownBlock = some g → v.bl.ownBlock = some g ∨ W.heap.size ≤ g := fun g hg => by
  rcases a8 g hg with e | e
  ·exact .inl e
  ·right; have := a0.size; omega
 have af : ∀ g, v2.ownBlock = some g → W.heap.size ≤ g ∧ g < w2.heap.size := fun g hg => by
  rw [e2] at hg;cases sp2 with
  | none => cases hg
  | some a => simp [Value.ownBlock] at hg; have := f5 a rfl; omega
 have ab : ∀ g, g < W.heap.size → gc L v2 10 g = L g := fun g hg => by
  unfold gc; rw [if_neg (fun e => by have := af g e; omega)]
 have hL : ∀ g, g < W.heap.size → gc (gc L v2 10) x4 2 g = L g := fun g hg => by
  refine (kz (L := gc L v2 10) (w := W) (u := v.bl) (fun g hg' => ?_) a6 hg).trans (ab g hg);rw [ab g (et r1 hg')]; exact r2 g hg'
 have hF : ∀ g, (g = D ∨ v.bl.ownBlock = some g) → L g = 1 ∨ L g = 2 := fun g hg => by
  rcases hg with rfl | hg
  ·exact .inl h.ld
  ·exact .inr (r2 g hg)
 refine ⟨v2, w2, x4, w4, al, ⟨sp2, cap2, e2⟩, a0, am, ?_, a7.has 0 (by simp [i4]), a7.free 0, gc (gc L v2 10) x4 2, ?_, ⟨a1.mono (fun g hg => by rcases hF g hg with e | e <;> (unfold lj; omega)), hL, fun g hg => ?_⟩⟩
 ·obtain ⟨sp, cap, e, _⟩ := cz a5
  exact ⟨_, _, _, e⟩
 ·have ah : ∀ g, gc (gc L v2 10) x4 2 g ≠ 0 → g < (w4.setCell ⟨D, 0, none⟩ x4).heap.size := fun g hg => by
   rw [ak];unfold gc at hg;split at hg
   ·rename_i e; exact et a5 e
   ·split at hg
    ·rename_i e; have := af g e; omega
    ·have := h.lt g hg; have := a0.size; omega
  refine h.step (s' := { s with blocks := s.blocks ++ [b] }) (v' := { v with bl := x4 }) a1 (fun g hg => by rcases hF g hg with e | e <;> omega) hL ah (a7.set 0 x4) ?_ ⟨rfl, rfl⟩ (fo h.md a1 (fun g hg => by rcases hF g hg with e | e <;> omega) hL) (fo h.gn a1 (fun g hg => by rcases hF g hg with e | e <;> omega) hL) (fo h.rd a1 (fun g hg => by rcases hF g hg with e | e <;> omega) hL) h.okm h.okg h.okr;refine ⟨vs ++ [v2], bc a5 (Hb w4 D 0 x4) (fun g hg e => ?_), fun g hg => sr hg, by simp [r3], fun i u b' hu hb' => ?_, fun u hu => ?_⟩
  ·subst e
   rcases a8 g hg with e | e
   ·exact a9 e
   ·have := h.blk.lt; have := a0.size; omega
  ·by_cases hi : i < vs.length
   ·rw [List.getElem?_append_left hi] at hu
    rw [List.getElem?_append_left (by omega)] at hb';exact (r4 i u b' hu hb').chg a1 (fun g hg => by rcases hF g hg with e | e <;> omega) hL h.lt
   ·have a4 := (List.getElem?_eq_some_iff.1 hu).1
    simp at a4;obtain rfl : i = vs.length := by omega
    rw [List.getElem?_append_right (Nat.le_refl _)] at hu;rw [List.getElem?_append_right (by omega), r3] at hb';simp at hu hb';subst hu hb';refine ⟨sp2, cap2, e2, f1, f4, ?_, fun a ha => ?_⟩
    ·refine (f3.chgF (F := fun g => v.bl.ownBlock = some g) (((Chg.refl (fun g => v.bl.ownBlock = some g) w2).alloc (.cells #[v2] 29)).grown a3 (fun g hg => .inl hg)) (fun a ha e => by have := et r1 e; have := (f5 a ha).1; omega)).chgF (Hb w4 D 0 x4) (fun a ha e => ?_)
     have h1 := f5 a ha;have := h.blk.lt;have e : a.block = D := e;omega
    ·have h1 := f5 a ha
     have an : ¬ x4.ownBlock = some a.block := fun e => by
      rcases a8 _ e with e' | e'
      ·have := et r1 e'; have := h1.1; omega
      ·omega
     unfold gc;rw [if_neg an, if_pos (by rw [e2, ha]; rfl)]
  ·rcases List.mem_append.1 hu with hu | hu
   ·exact r5 u hu
   ·simp at hu; subst hu; rw [e2]; rfl
 ·unfold gc
  split
  ·left; omega
  ·split
   ·right; rfl
   ·left; have := h.lt g; omega
theorem Vn (p : Pt) (n : Nat) : (a8 p).set 4 (.int .u64 (n : Int)) = a8 { p with birth := n } := by
 simp [a8, gx]
theorem a1f (hp : p.OK) (l : List Nat) (hl : l.length = 4) : (a8 p).take 37 ++ l.map U16 ++ (a8 p).drop (37 + (l.map U16).length) = a8 { p with ats := l } := by
 have h1 : (gx p ++ p.hash.map V8).length = 37 := by simp [gx, hp.hash]
 have e : a8 p = (gx p ++ p.hash.map V8) ++ p.ats.map U16 := by simp [a8]
 rw [e, List.take_left' h1, List.drop_of_length_le (by simp [hl, gx, hp.hash, hp.len])];simp [a8, gx]
structure NeS (w : World) (L : Nat → Nat) (D G R : Nat) (s1 : Sh) (p1 : Pt) (b : Bs) (sp : Option Addr) (X : World) : Prop where
 sh : ∃ L1 v1, ShAt X L1 D s1 v1 ∧ Mv 5 L w L1 X ∧ L1 G = 0 ∧ L1 R = 0
 box : Blk X G (a8 p1) 28
 res : Blk X R (a8 zeroP) 28
 src : SrcA X sp b
 lo : w.heap.size ≤ G
theorem NeS.below {w : World} (h : NeS w L D G R s1 p1 b sp X) (hb : Below X.heap.size X Y) : NeS w L D G R s1 p1 b sp Y := by
 obtain ⟨⟨L1, v1, h1, h2, h3, h4⟩, hg, hr, hs, a0⟩ := h;exact ⟨⟨L1, v1, h1.below hb, h2.trans (Mv.of_below hb h1.lt), h3, h4⟩, hg.below hb hg.lt, hr.below hb hr.lt, hs.grown hb, a0⟩
theorem NeS.boxed {w : World} {p2 : Pt} (h : NeS w L D G R s1 p1 b sp X) (hc : Chg (fun g => g = G) X Y) (hs : Y.heap.size = X.heap.size) (hb : Blk Y G (a8 p2) 28) (hGR : R ≠ G) (hsp : ∀ a, sp = some a → a.block ≠ G) : NeS w L D G R s1 p2 b sp Y := by
 obtain ⟨⟨L1, v1, h1, h2, h3, h4⟩, hg, hr, a0, a1⟩ := h;have hf : ∀ g, g = G → L1 g = 0 := fun g e => by rw [e]; exact h3
 refine ⟨⟨L1, v1, h1.out hc (fun g hg _ => .inl (hf g hg)) (fun _ _ => .inl rfl) (fun g hg => by rw [hs]; exact h1.lt g hg), ?_, h3, h4⟩, hb, hr.chg hc hGR, a0.chgF hc hsp, a1⟩
 exact ⟨h2.chg.trans hc (fun g e => by
  by_cases hw : g < w.heap.size
  ·exfalso
   have : g = G := e;omega
  ·right; omega), h2.old, h2.new⟩
theorem NeS.roomed {w : World} (h : NeS w L D G R s1 p1 b sp X) (r : Int) (hD : D < G) (hGR : G < R) (hsp : ∀ a, sp = some a → a.block ≠ D) : NeS w L D G R { s1 with room := r } p1 b sp (X.setCell ⟨D, 4, none⟩ (.int .i64 r)) := by
 obtain ⟨⟨L1, v1, h1, h2, h3, h4⟩, hg, hr, hs, a0⟩ := h;obtain ⟨k1, k2⟩ := h1.roomed r;exact ⟨⟨L1, v1, k1, h2.trans k2, h3, h4⟩, hg.other (by show G ≠ D; omega) _, hr.other (by show R ≠ D; omega) _, hs.chgF (Hb X D 4 _) (fun a ha e => hsp a ha e), a0⟩
theorem NeS.moved {w : World} {s2 : Sh} {L1 L2 : Nat → Nat} {v2 : Sv} (h : NeS w L D G R s1 p1 b sp X) (h0 : Mv 5 L w L1 X) (hG : L1 G = 0) (hR : L1 R = 0) (h1 : ShAt Y L2 D s2 v2) (h2 : Mv 5 L1 X L2 Y) (hsp : ∀ a, sp = some a → L1 a.block = 0 ∨ L1 a.block = 10) : NeS w L D G R s2 p1 b sp Y :=
 ⟨⟨L2, v2, h1, h0.trans h2, (h2.old G h.box.lt).trans hG, (h2.old R h.res.lt).trans hR⟩, h2.blk h.box hG, h2.blk h.res hR, h.src.chgF h2.chg (fun a ha hf => by unfold lj at hf; have := hsp a ha; omega), h.lo⟩
theorem Chg.setsG (F : Nat → Prop) (hG : F G) : ∀ (vs : List Value) (o : Nat) (w : World), Chg F w (w.setCells G o vs)
 | [], _, w => Chg.refl F w
 | v :: r, o, w => ((Chg.refl F w).setCell (.inl hG) o v).trans' (Chg.setsG F hG r (o + 1) _)
theorem jt (G : Nat) : ∀ (vs : List Value) (o : Nat) (w : World), (w.setCells G o vs).heap.size = w.heap.size
 | [], _, _ => rfl
 | v :: r, o, w => (jt G r (o + 1) _).trans (by simp [World.setCell])
theorem Wn (l : Bs) : ((l.map V8).toArray).all (·.oneCell') = true := A9 V8 (fun _ => rfl) l
theorem b9 {fn : Func} {p u : Tmp} (h : fn.results = #[.cell p 28, .tmp u]) (tmps : Array Value) (w : World) (g t : Nat) (cs : List Value)
  (hp : tmps.getD p undef = .pointer (some ⟨g, 0, none⟩)) (hg : Blk w g cs t) (hi : (Tryz.prog.info? 28).map (·.size) = some cs.length) :
  (results fn tmps).run Tryz.prog w = .ok (.tuple #[.agg cs.toArray, tmps.getD u undef]) w := by
 rw [results_cell_tmp h, hp];simp only [asAddr, Sem.run_pure, Result.andThen_ok, run_loadVar_row w g t 28 cs.toArray (0, 0) _ hg Tryz.underlying28 rfl (by simpa using hi)]
theorem tc (w : World) (g : Nat) (c : Array Value) : Chg (fun k => k = g) w (w.setRow g c) := (Chg.refl (fun k => k = g) w).setRow (.inl rfl) c
theorem bo (h : p.OK) : (Tryz.prog.info? 28).map (·.size) = some (a8 p).length := by rw [aa h]; exact dw
theorem NeS.ends {w : World} (h : NeS w L D G R s1 p1 b sp X) (hR : w.heap.size ≤ R) (q : Pt) : ShPost 5 L w D s1 (X.setRow R (a8 q).toArray) ∧ Blk (X.setRow R (a8 q).toArray) R (a8 q) 28 := by
 obtain ⟨⟨L1, v1, h1, h2, h3, h4⟩, hg, hr, hs, a0⟩ := h;have hc := tc X R (a8 q).toArray;have hz : (X.setRow R (a8 q).toArray).heap.size = X.heap.size := by simp
 refine ⟨⟨L1, v1, h1.out hc (fun g e _ => .inl (by rw [e]; exact h4)) (fun _ _ => .inl rfl) (fun g hg => by rw [hz]; exact h1.lt g hg), ?_⟩, hr.row _⟩;exact ⟨h2.chg.trans hc (fun g e => by right; have : g = R := e; omega), h2.old, h2.new⟩
def Ak (L : Nat → Nat) (w : World) (D : Nat) (s : Sh) (p : Pt) (b : Bs) (e : Ending) (w' : World) : Prop := e = .returned (.tuple #[.agg (a8 (nwP s p b)).toArray, .int .i64 (nwE s : Int)]) ∧ ShPost 5 L w D (nwS s p b) w'
set_option maxRecDepth 100000 in
set_option maxHeartbeats 8000000 in
theorem B9 {w : World} (p : Pt) (hp : p.OK) (b : Bs) (sp : Option Addr) (cap : Nat) (h : ShAt w L D s v) (hl : s.made.length < 100000000) (hbl : s.blocks.length ≤ 30000) (hr : -1 ≤ s.room ∧ s.room ≤ 1000) (hb : b.length ≤ 4000) (hS : SrcA w sp b) (hz : sp = none → cap = 0) (hspL : ∀ a, sp = some a → a.block < w.heap.size ∧ (L a.block = 0 ∨ L a.block = 10)) :
  Calls Tryz.prog 150 #[.pointer (some ⟨D, 0, none⟩), .agg (a8 p).toArray, .slice sp b.length cap] w (Ak L w D s p b) := by
 have a5 := zH hp
 have HX : Hid (∀ z, z = (a8 zeroP).toArray → NeS w L D w.heap.size (w.heap.size + 1) s p b sp ((w.alloc (.cells (a8 p).toArray 28)).alloc (.cells z 28))) := zH (fun z hz => by
  subst hz;have bd : Below w.heap.size w ((w.alloc (.cells (a8 p).toArray 28)).alloc (.cells (a8 zeroP).toArray 28)) := ((Below.refl _ _).alloc (Nat.le_refl _) _).alloc (by simp) _
  exact ⟨⟨L, v, h.below bd, Mv.of_below bd h.lt, h.not (Nat.le_refl _), h.not (by omega)⟩, (Blk.new _ _ _).alloc _, Blk.new' _ _ _ _ _ (by simp) rfl, hS.grown bd, Nat.le_refl _⟩)
 have bg : Hid (D < w.heap.size) := zH h.blk.lt;have HL := zH hl; have cx := zH hbl; have HR := zH hr; have HB := zH hb; have HZ := zH hz; have ct := zH hspL;have H0 := zH h;generalize hPost : Ak L w D s p b = Post
 have b7 : Hid (∀ X, jb s → NeS w L D w.heap.size (w.heap.size + 1) s p b sp X → Post (.returned (.tuple #[.agg (a8 zeroP).toArray, .int .i64 30])) (X.setRow (w.heap.size + 1) (a8 zeroP).toArray)) := zH fun X hf hX => by
  rw [← hPost];unfold Ak nwP nwE nwS;rw [if_pos hf, if_pos hf, if_pos hf];exact ⟨rfl, (hX.ends (by omega) zeroP).1⟩
 have bs : Hid (∀ X, ¬ jb s → NeS w L D w.heap.size (w.heap.size + 1) (nwS s p b) (iu p (s.blocks.length + 1) b) b sp X → Post (.returned (.tuple #[.agg (a8 (iu p (s.blocks.length + 1) b)).toArray, .int .i64 0])) (X.setRow (w.heap.size + 1) (a8 (iu p (s.blocks.length + 1) b)).toArray)) := zH fun X hf hX => by
  rw [← hPost];refine ⟨?_, (hX.ends (by omega) _).1⟩;unfold nwP nwE;rw [if_neg hf, if_neg hf];rfl
 clear hp h hl hbl hr hb hS hz hspL hPost;go_enter Tryz.func150, Tryz.ntmps150
 go_upto_region 1 with fail
 refine (fun (k : ∀ W, NeS w L D w.heap.size (w.heap.size + 1) s p b sp W → Code.wp _ _ _ _ W) => k _ (HX.out _ rfl)) ?_;intro W hW;clear HX;have HX := zH hW;obtain ⟨G, hG⟩ : ∃ G, w.heap.size = G := ⟨_, rfl⟩;rw [hG] at HX b7 bs bg ⊢;clear hW;obtain ⟨M, hM⟩ : ∃ M, s.blocks.length = M := ⟨_, rfl⟩;obtain ⟨rm, bw⟩ : ∃ r, s.room = r := ⟨_, rfl⟩;obtain ⟨⟨L1, v1, h1, -⟩, -⟩ := HX.out;have c4 := h1.blk.cell (j := 4) rfl;have c0 := h1.blk.cell (j := 0) rfl;have f4 := h1.blk.free 4;obtain ⟨vs, ho, -, c5, -⟩ := h1.row;obtain ⟨cy, cm, e2, aq, -⟩ := cz ho;rw [c5, hM] at e2;rw [e2] at c0;rw [bw] at c4;have HM := zH hM; have b0 := zH bw;clear h1 ho c5 e2 hM bw aq vs;have c7 := zH (bh ak);have ar := zH HX.out.res;by_cases hr0 : rm = 0
 ·have a4 := zH (b7.out W (.inl (by rw [b0.out]; exact hr0)) HX.out)
  have an := zH ((HX.out.ends (by have := HX.out.lo; omega) zeroP).2);subst hr0
  go_wp2_with (first | (refine a9 rfl (bj rfl) ?_) | (refine wpList_store_row rfl 28 (.tmp 6) (.tmp 21) rfl (G + 1) (a8 zeroP).toArray rfl rfl 28 _ ar.out c7.out rfl (bb zeroP) ?_) | fail)
  refine bodyPost_ret (b9 Tryz.results150 _ _ (G + 1) 28 _ rfl an.out (bo ak)) rfl ?_;exact a4.out
 ·by_cases hmx : (30000 : Int) ≤ (M : Int)
  ·have a4 := zH (b7.out W (.inr (by rw [HM.out]; omega)) HX.out)
   have an := zH ((HX.out.ends (by have := HX.out.lo; omega) zeroP).2)
   go_wp2_with (first | (refine a9 rfl (bj rfl) ?_) | (refine wpList_store_row rfl 28 (.tmp 6) (.tmp 21) rfl (G + 1) (a8 zeroP).toArray rfl rfl 28 _ ar.out c7.out rfl (bb zeroP) ?_) | fail)
   refine bodyPost_ret (b9 Tryz.results150 _ _ (G + 1) 28 _ rfl an.out (bo ak)) rfl ?_;exact a4.out
  ·have ba : Hid (¬ jb s) := zH (by unfold jb; rw [b0.out, HM.out]; omega)
   have cj := IntWalk.i64_in (rm - 1) (by have := HR.out; rw [b0.out] at this; omega);have cw : decide ((30000 : Int) ≤ (M : Int)) = false := decide_eq_false hmx;have co : ((rm : Int) == 0) = false := (by simp [hr0]);clear hmx hr0
   go_upto_region 4 with fail
   obtain ⟨r1, bt⟩ : ∃ r1 : Int, max (rm - 1) (-1) = r1 := ⟨_, rfl⟩;have cn : Hid (nwS s p b = { s with room := r1, blocks := s.blocks ++ [b], made := s.made ++ [iu p (M + 1) b] }) := zH (by unfold nwS; rw [if_neg ba.out, b0.out, HM.out, bt]);rw [bt];have b8 : Hid (∀ a, sp = some a → a.block < G ∧ (L a.block = 0 ∨ L a.block = 10)) := zH (by rw [← hG]; exact ct.out);have cu : Hid (∀ a, sp = some a → a.block ≠ D) := zH (fun a ha e => by have h1 := b8.out a ha; rw [e, H0.out.ld] at h1; omega);refine (fun (k : ∀ X, NeS w L D G (G + 1) { s with room := r1 } p b sp X → Code.wp _ _ _ _ X) => k _ (HX.out.roomed r1 bg.out (by omega) cu.out)) ?_;intro X hX;clear c4 c0 f4 bt cj cw co ar HX b7;obtain ⟨L1, v1, h1, h2, h3, h4⟩ := hX.sh;obtain ⟨v2, w2, x4, w4, bk, ⟨d0, cv, e2⟩, br, ah, ae, ⟨_, a1⟩, a0, L2, h5, h6⟩ := Rf h1 hX.src HZ.out HB.out (by have := ba.out; unfold jb at this; rw [HM.out] at this; show s.blocks.length < 30000; rw [HM.out]; omega);have HY : Hid (NeS w L D G (G + 1) { s with room := r1, blocks := s.blocks ++ [b] } p b sp (w4.setCell ⟨D, 0, none⟩ x4)) := zH (hX.moved h2 h3 h4 h5 h6 (fun a ha => by have h7 := b8.out a ha; rw [h2.old a.block (by rw [hG]; exact h7.1)]; exact h7.2));obtain ⟨x0, ay⟩ : ∃ x0, v1.bl = x0 := ⟨_, rfl⟩;have k0 : X.drew.cell? ⟨D, 0, none⟩ = some x0 := (by rw [← ay]; exact h1.blk.cell rfl);have k2 : w2.cell? ⟨D, 0, none⟩ = some x0 := (by rw [← ay]; exact (h1.blk.below br h1.blk.lt).cell rfl);have k3 : (w2.alloc (.cells #[v2] 29)).cell? ⟨D, 0, none⟩ = some x0 := (by rw [← ay]; exact ((h1.blk.below br h1.blk.lt).alloc _).cell rfl);rw [ay] at ah;clear h1 h2 h3 h4 h5 h6 hX br ay;obtain ⟨w3, bc⟩ : ∃ w3, w2.alloc (.cells #[v2] 29) = w3 := ⟨_, rfl⟩;have a2 : ∀ {ρ : Operand → Value} {o : Oper} {x : Operand}, o.op = .buildSlice 46 1 #[(0, x)] → ρ x = v2 → (execOp ρ o).run Tryz.prog w2 = .ok (.value (.slice (some ⟨w2.heap.size, 0, none⟩) 1 1)) w3 := fun h1 h2 => by rw [← bc, e2]; exact Yo h1 (by rw [h2, e2])
   rw [bc] at ah k3;clear e2;refine ud ?_;apply Exists.intro;apply Exists.intro;constructor
   ·refine cg (.take 0 (.take 1 (.take 2 (.take 3 (.take 5 (.fork 4 (.step 6 (.step 7 (.step 8 (.take 9 (.take 10 (.step 11 (.nil))))))) 6 (.fork 4 (.step 7 (.step 8 (.take 9 (.take 10 (.step 11 (.nil)))))) 7 (.step 4 (.step 8 (.take 9 (.take 10 (.step 11 (.nil))))))))))))) (by kernel_rfl) (by kernel_rfl) (fun d _ _ _ _ h => by cases h.1) (fun _ => True) trivial ?_
    refine gT (.pointer (some ⟨D, 0, none⟩)) ?_;refine gT (.pointer (some ⟨D, 0, none⟩)) ?_;refine gU (.pointer (some ⟨D, 0, none⟩)) rfl (fun X hX => pm rfl rfl) ?_;refine gU (.pointer (some ⟨D, 0, none⟩)) rfl (fun X hX => mw (by omega) rfl rfl) ?_;refine gT (.slice sp b.length cap) ?_;refine i5 ?_ ?_
    ·refine bm _ rfl (by rfl) x0 X.drew (nh rfl rfl k0) (fun _ => True) trivial (fun _ h => h) ?_; try simp only [pS]
     refine bm _ rfl (by rfl) v2 w2 (ib rfl rfl rfl bk) (fun _ => True) trivial (fun _ h => h) ?_; try simp only [pS]
     refine bm _ rfl (by rfl) (.slice (some ⟨w2.heap.size, 0, none⟩) 1 1) w3 (a2 rfl rfl) (fun _ => True) trivial (fun _ h => h) ?_; try simp only [pS]
     refine bm _ rfl (by rfl) x4 w4 (Cq rfl rfl rfl ah) (fun _ => True) trivial (fun _ h => h) ?_; try simp only [pS]
     refine gU (.pointer (some ⟨D, 0, none⟩)) rfl (fun X hX => pm rfl rfl) ?_;refine gU (.pointer (some ⟨D, 0, none⟩)) rfl (fun X hX => mw (by omega) rfl rfl) ?_;refine pa _ rfl (by rfl) (w4.setCell ⟨D, 0, none⟩ x4) (J0 rfl rfl rfl ae a1 a0) (fun _ => True) trivial (fun _ h => h) ?_;refine au ?_;exact ⟨rfl, rfl, rfl⟩
    ·refine bm _ rfl (by rfl) v2 w2 (ib rfl rfl rfl bk) (fun _ => True) trivial (fun _ h => h) ?_; try simp only [pS]
     refine i5 ?_ ?_
     ·refine bm _ rfl (by rfl) x0 w2 (nh rfl rfl k2) (fun _ => True) trivial (fun _ h => h) ?_; try simp only [pS]
      refine bm _ rfl (by rfl) (.slice (some ⟨w2.heap.size, 0, none⟩) 1 1) w3 (a2 rfl rfl) (fun _ => True) trivial (fun _ h => h) ?_; try simp only [pS]
      refine bm _ rfl (by rfl) x4 w4 (Cq rfl rfl rfl ah) (fun _ => True) trivial (fun _ h => h) ?_; try simp only [pS]
      refine gU (.pointer (some ⟨D, 0, none⟩)) rfl (fun X hX => pm rfl rfl) ?_;refine gU (.pointer (some ⟨D, 0, none⟩)) rfl (fun X hX => mw (by omega) rfl rfl) ?_;refine pa _ rfl (by rfl) (w4.setCell ⟨D, 0, none⟩ x4) (J0 rfl rfl rfl ae a1 a0) (fun _ => True) trivial (fun _ h => h) ?_;refine au ?_;exact ⟨rfl, rfl, rfl⟩
     ·refine bm _ rfl (by rfl) (.slice (some ⟨w2.heap.size, 0, none⟩) 1 1) w3 (a2 rfl rfl) (fun _ => True) trivial (fun _ h => h) ?_; try simp only [pS]
      refine bm _ rfl (by rfl) x0 w3 (nh rfl rfl k3) (fun _ => True) trivial (fun _ h => h) ?_; try simp only [pS]
      refine bm _ rfl (by rfl) x4 w4 (Cq rfl rfl rfl ah) (fun _ => True) trivial (fun _ h => h) ?_; try simp only [pS]
      refine gU (.pointer (some ⟨D, 0, none⟩)) rfl (fun X hX => pm rfl rfl) ?_;refine gU (.pointer (some ⟨D, 0, none⟩)) rfl (fun X hX => mw (by omega) rfl rfl) ?_;refine pa _ rfl (by rfl) (w4.setCell ⟨D, 0, none⟩ x4) (J0 rfl rfl rfl ae a1 a0) (fun _ => True) trivial (fun _ h => h) ?_;refine au ?_;exact ⟨rfl, rfl, rfl⟩
   clear k0 k2 k3 a2 bc ah bk ae a1 a0;generalize w4.setCell ⟨D, 0, none⟩ x4 = X4 at HY ⊢;obtain ⟨⟨L3, v3, h3, -, -, -⟩, -⟩ := HY.out;have c0 := h3.blk.cell (j := 0) rfl;obtain ⟨c8, ch, -, a6, -⟩ := h3.row;obtain ⟨cl, bq, e3, -, -⟩ := cz ch;replace a6 : c8.length = M + 1 := by rw [a6]; simp [HM.out]
   rw [a6] at e3;rw [e3] at c0;have d1 := bg.out;have ai : Hid (M < 30000) := zH (by have := ba.out; unfold jb at this; rw [HM.out] at this; omega);have ao := zH h3.blk;have cd : Hid ((i4 v3 r1)[0]? = some (.slice cl (M + 1) bq)) := zH (by rw [← e3]; rfl);clear h3 ch a6 e3 c8;have c4 := HY.out.box.cell (j := 4) rfl;have f4 := HY.out.box.free 4;have aj : IntKind.u64.wrap ((M + 1 : Nat) : Int) = ((M + 1 : Nat) : Int) := (by rw [IntKind.wrap_u64]; have := ai.out; omega);have al : IntKind.u16.wrap ((M + 1 : Nat) : Int) = ((M + 1 : Nat) : Int) := (by rw [IntKind.wrap_u16]; have := ai.out; omega);have bf : Hid (∀ a, sp = some a → a.block ≠ G) := zH (fun a ha => by have := (b8.out a ha).1; omega);obtain ⟨m, hm⟩ : ∃ m, M + 1 = m := ⟨_, rfl⟩;rw [hm] at c0 aj al cd
   go_upto_region 6 with fail
   refine (fun (k : ∀ X, NeS w L D G (G + 1) { s with room := r1, blocks := s.blocks ++ [b] } { p with birth := m } b sp X → Blk X D (i4 v3 r1) 50 → Code.wp _ _ _ _ X) => k _ (HY.out.boxed (Hb X4 G 4 _) (by simp [World.setCell]) (by rw [← Vn]; exact HY.out.box.set 4 _) (by omega) bf.out) (ao.out.other (a := ⟨G, 4, none⟩) (by show D ≠ G; omega) _)) ?_;intro X5 hX5 hD5;have a3 := zH hX5; have c9 := zH hD5;have cr := hD5.cell cd.out;clear hX5 hD5 c0 c4 f4 HY ao;have af : Hid ({ p with birth := m } : Pt).OK := zH ⟨a5.out.kind, a5.out.level, a5.out.obj, a5.out.off, by have := ai.out; show m < _; omega, a5.out.hash, a5.out.len, a5.out.ats⟩;have az : Hid (X5.there G 37 (([m, 0, 0, 0].map U16).toArray).size) := zH (a3.out.box.there _ _ (by rw [aa af.out]; simp));obtain ⟨_, q0⟩ := a3.out.box.has 37 (by rw [aa af.out]; decide);obtain ⟨_, q1⟩ := a3.out.box.has 38 (by rw [aa af.out]; decide);obtain ⟨_, q2⟩ := a3.out.box.has 39 (by rw [aa af.out]; decide);obtain ⟨_, q3⟩ := a3.out.box.has 40 (by rw [aa af.out]; decide);have z0 := a3.out.box.free 37;have z1 := a3.out.box.free 38;have z2 := a3.out.box.free 39;have z3 := a3.out.box.free 40
   go_upto_region 7 with fail
   have av : Hid (pg p m).OK := zH (Ao a5.out (by have := ai.out; omega))
   refine (fun (k : ∀ X, NeS w L D G (G + 1) { s with room := r1, blocks := s.blocks ++ [b] } (pg p m) b sp X → Blk X D (i4 v3 r1) 50 → Code.wp _ _ _ _ X) => k _ (a3.out.boxed (Chg.setsG (fun k => k = G) rfl _ _ _) (jt _ _ _ _) (by
    have h1 := fg G 28 ([m, 0, 0, 0].map U16) 37 _ _ a3.out.box (by rw [aa af.out]; simp);rw [a1f af.out [m, 0, 0, 0] rfl] at h1
    exact h1) (by omega) bf.out) (fh (by show D ≠ G; omega) _ _ _ _ c9.out)) ?_
   intro X6 hX6 hD6;have b5 := zH hX6; have c1 := zH hD6;clear hX6 hD6 cr a3 c9 az aj al q0 q1 q2 q3 z0 z1 z2 z3;have hq := F1 (pg p m) av.out b sp cap X6 HB.out HZ.out b5.out.src;obtain ⟨dg, b1⟩ : ∃ dg, pc (iz (pg p m) ++ b) = dg := ⟨_, rfl⟩;have bu := zH b1;have b3 : Hid (dg.length = 32) := zH (by rw [← b1]; exact jq _);rw [b1] at hq;have c2 := zH hq;clear hq b1;have cf : Hid ({ pg p m with hash := dg } = iu p m b) := zH (by unfold iu; rw [bu.out]);have am : Hid ((Tryz.prog.info? 25).map (·.size) = some ((dg.map V8).toArray).size) := zH (by rw [List.size_toArray, List.length_map, b3.out]; exact oc)
   go_wp2_with (first | (refine a9 rfl (ax av.out b5.out.box rfl rfl) ?_) | fail)
   refine c2.out.mono ?_;rintro e X7 ⟨rfl, bz⟩;have b4 := zH (b5.out.below bz);have cq := zH (c1.out.below bz c1.out.lt);clear bz b5 c1 c2;have az : Hid (X7.there G 5 ((dg.map V8).toArray).size) := zH (b4.out.box.there _ _ (by rw [aa av.out, List.size_toArray, List.length_map, b3.out]; decide))
   go_upto_region 8 with (first | (refine wpList_store_mid rfl 25 (.tmp 60) (.tmp 59) rfl G 5 ((dg.map V8).toArray) rfl rfl az.out am.out (Wn dg) ?_) | fail)
   refine (fun (k : ∀ X, NeS w L D G (G + 1) { s with room := r1, blocks := s.blocks ++ [b] } (iu p m b) b sp X → Code.wp _ _ _ _ X) => k _ (b4.out.boxed (Chg.setsG (fun k => k = G) rfl _ _ _) (jt _ _ _ _) (by
    have h1 := fg G 28 (dg.map V8) 5 _ _ b4.out.box (by rw [aa av.out, List.length_map, b3.out]; decide);rw [Yd av.out dg b3.out, cf.out] at h1
    exact h1) (by omega) bf.out)) ?_
   intro X hX8;have ab := zH hX8;clear hX8 b4 cq az cf am;have a7 : Hid (iu p m b).OK := zH (sd a5.out (by have := ai.out; omega) b);obtain ⟨np, bn⟩ : ∃ np, iu p m b = np := ⟨_, rfl⟩;have ap := zH bn;rw [bn] at ab a7;clear bn;obtain ⟨L8, v8, h8, m8, l8, r8⟩ := ab.out.sh;have cb := h8.notD h8.md.2 (by omega);have bx : v8.md.ownBlock ≠ some G := fun e => by have h1 := h8.md.2 G e; omega
   have cs : G ≠ D := (by omega);obtain ⟨b6, b2, hr, ae, ⟨_, a1⟩, a0, ad, k1, k2, k3, k4, k5⟩ := uc (W := X) (k := 2) h8.md.1 h8.blk cb a7.out HL.out (by simp [i4]);have c6 := (ad ab.out.box bx).1;have c3 := (ad ab.out.box bx).2 cs;have bv := h8.madee a7.out k1 k2 k3 k4 k5;obtain ⟨L9, v9, h9, m9⟩ := bv
   have ag : Hid (NeS w L D G (G + 1) (nwS s p b) np b sp (b2.setCell ⟨D, 2, none⟩ b6)) := zH (by
    have cp := ab.out.moved m8 l8 r8 h9 m9 (fun a ha => by have h7 := b8.out a ha; rw [m8.old a.block (by rw [hG]; exact h7.1)]; exact h7.2);rw [cn.out, hm, ap.out]
    exact cp)
   have ci : Hid (∀ X, NeS w L D G (G + 1) (nwS s p b) np b sp X → Post (.returned (.tuple #[.agg (a8 np).toArray, .int .i64 0])) (X.setRow (G + 1) (a8 np).toArray)) := zH (by
    have ce := fun X => bs.out X ba.out
    rw [HM.out, hm, ap.out] at ce
    exact ce)
   have ca : X.drew.cell? ⟨D, 2, none⟩ = some v8.md := h8.blk.cell rfl;have aq : (X.drew.alloc (.cells (a8 np).toArray 28)).cell? ⟨D, 2, none⟩ = some v8.md := (h8.blk.drew.alloc _).cell rfl;have aw : Blk (X.drew.alloc (.cells (a8 np).toArray 28)) G (a8 np) 28 := ab.out.box.drew.alloc _;obtain ⟨W2, bi⟩ : ∃ W2, X.drew.alloc (.cells (a8 np).toArray 28) = W2 := ⟨_, rfl⟩;have a2 : ∀ {ρ : Operand → Value} {o : Oper} {x : Operand}, o.op = .buildSlice 48 1 #[(0, x)] → ρ x = .agg (a8 np).toArray → (execOp ρ o).run Tryz.prog X.drew = .ok (.value (.slice (some ⟨X.drew.heap.size, 0, none⟩) 1 1)) W2 := fun h1 h2 => by rw [← bi]; exact Ab np h1 h2 a7.out
   rw [bi] at hr aq aw;clear h8 m8 l8 r8 cb bx ad k1 k2 k3 k4 k5 h9 m9 bs;refine ud ?_;apply Exists.intro;apply Exists.intro;constructor
   ·refine cg (.take 0 (.take 1 (.take 2 (.take 3 (.take 5 (.fork 4 (.step 6 (.step 7 (.take 8 (.take 9 (.step 10 (.nil)))))) 6 (.step 4 (.step 7 (.take 8 (.take 9 (.step 10 (.nil)))))))))))) (by kernel_rfl) (by kernel_rfl) (fun d _ _ _ _ h => by cases h.1) (fun X => Blk X G (a8 np) 28) (ab.out.box.drew) ?_
    refine gT (.pointer (some ⟨D, 0, none⟩)) ?_;refine gT (.pointer (some ⟨D, 0, none⟩)) ?_;refine gU (.pointer (some ⟨D, 0, none⟩)) rfl (fun X hX => pm rfl rfl) ?_;refine gU (.pointer (some ⟨D, 2, none⟩)) rfl (fun X hX => mw (by omega) rfl rfl) ?_;refine gU (.agg (a8 np).toArray) rfl (fun X hX => ax a7.out hX rfl rfl) ?_;refine i5 (bm _ rfl (by rfl) v8.md X.drew (i9 rfl rfl ca) (fun X => Blk X G (a8 np) 28) (ab.out.box.drew) (fun _ h => h) ?_) ?_; try simp only [pS]
    refine bm _ rfl (by rfl) (.slice (some ⟨X.drew.heap.size, 0, none⟩) 1 1) W2 (a2 rfl rfl) (fun X => Blk X G (a8 np) 28) aw (fun _ h => h) ?_; try simp only [pS]
    rotate_left
    refine bm _ rfl (by rfl) (.slice (some ⟨X.drew.heap.size, 0, none⟩) 1 1) W2 (a2 rfl rfl) (fun X => Blk X G (a8 np) 28) aw (fun _ h => h) ?_; try simp only [pS]
    refine bm _ rfl (by rfl) v8.md W2 (i9 rfl rfl aq) (fun X => Blk X G (a8 np) 28) aw (fun _ h => h) ?_; try simp only [pS]
    all_goals
     refine bm _ rfl (by rfl) b6 b2 (sn rfl rfl rfl hr) (fun X => Blk X G (a8 np) 28) c6 (fun _ h => h) ?_; try simp only [pS]
     refine gU (.pointer (some ⟨D, 0, none⟩)) rfl (fun X hX => pm rfl rfl) ?_;refine gU (.pointer (some ⟨D, 2, none⟩)) rfl (fun X hX => mw (by omega) rfl rfl) ?_;refine pa _ rfl (by rfl) (b2.setCell ⟨D, 2, none⟩ b6) (yk rfl rfl rfl ae a1 a0) (fun X => Blk X G (a8 np) 28) c3 (fun _ h => h) ?_;refine au ?_;exact ⟨rfl, rfl, rfl⟩
   clear a1 a0 c6 c3 hr ca aq aw a2 bi ae;generalize b2.setCell ⟨D, 2, none⟩ b6 = X9 at ag ⊢;have bp := zH (bh a7.out);have ar := zH ag.out.res;have ck : Hid ((a8 zeroP).toArray.size = (a8 np).toArray.size) := zH (by rw [List.size_toArray, List.size_toArray, aa a7.out, aa ak]);have a4 := zH (ci.out X9 ag.out);have an := zH ((ag.out.ends (by have := ag.out.lo; omega) np).2)
   go_wp2_with (first | (refine a9 rfl (ax a7.out ag.out.box rfl rfl) ?_) | (refine wpList_store_row rfl 28 (.tmp 6) (.tmp 71) rfl (G + 1) (a8 np).toArray rfl rfl 28 _ ar.out bp.out ck.out (bb np) ?_) | fail)
   refine bodyPost_ret (b9 Tryz.results150 _ _ (G + 1) 28 _ rfl an.out (bo a7.out)) rfl ?_;exact a4.out
theorem fi (p : Pt) (hp : p.OK) (w : World) : Calls Tryz.prog 94 #[.agg (a8 p).toArray] w fun e w' => e = .returned (.bool (eqP p zeroP)) ∧ Below w.heap.size w w' := by
 have HP := zH hp;have HB := zH (Blk.new w (a8 p) 28);have HW : Hid (Below w.heap.size w (w.alloc (.cells (a8 p).toArray 28))) := zH ((Below.refl _ _).alloc (Nat.le_refl _) _);clear hp;go_enter Tryz.func94, Tryz.ntmps94
 go_wp2_with (first | (refine a9 rfl (ax HP.out HB.out rfl rfl) ?_) | (refine a9 rfl (bj rfl) ?_) | (refine a9 rfl (tf (p := p) (q := zeroP) rfl rfl rfl HP.out ak) ?_) | fail)
 go_ret;exact ⟨rfl, HW.out⟩
theorem vp (lv : Nat) (h : lv ≤ 2) (w : World) : Calls Tryz.prog 97 #[.int .u8 (lv : Int)] w fun e w' => e = .returned (.int .u32 ((8 ^ lv : Nat) : Int)) ∧ w' = w := by
 have HL := zH h;generalize hPost : (fun e w' => e = Ending.returned (.int .u32 ((8 ^ lv : Nat) : Int)) ∧ w' = w) = Post;have HP : Hid (Post (.returned (.int .u32 ((8 ^ lv : Nat) : Int))) w) := zH (by rw [← hPost]; exact ⟨rfl, rfl⟩);clear h hPost;go_enter Tryz.func97, Tryz.ntmps97
 go_wp2_with fail
 go_loopw [3, 5] (fun n i wr => ∃ k : Nat, k ≤ lv ∧ i = .int .u8 (k : Int) ∧ n = .int .u32 ((8 ^ k : Nat) : Int) ∧ wr = w) (fun _ i _ => lv - (intOf i).toNat)
 case atStart => exact ⟨0, by omega, rfl, rfl, rfl⟩
 case round =>
  obtain ⟨k, hk, rfl, rfl, rfl⟩ := hrel;by_cases hlt : k < lv
  ·have h2 := HL.out
   have e8 : ((8 ^ (k + 1) : Nat) : Int) = ((8 ^ k : Nat) : Int) * 8 := (by rw [Nat.pow_succ]; simp);have a0 : IntKind.u8.wrap ((k : Int) + 1) = (k : Int) + 1 := (by rw [IntKind.wrap_u8]; omega)
   have hb : (8 ^ k : Nat) ≤ 8 := by
    have : k = 0 ∨ k = 1 := (by omega);rcases this with rfl | rfl <;> decide
   obtain ⟨x, hx⟩ : ∃ x, 8 ^ k = x := ⟨_, rfl⟩;have HX := zH hx;rw [hx] at hb e8 ⊢;have a1 : IntKind.u32.wrap ((x : Int) * 8) = (x : Int) * 8 := (by rw [IntKind.wrap_u32]; omega);clear hb h2
   go_wp2_with fail
   go_roundw
   case rel => exact ⟨k + 1, by omega, by go_num, by rw [e8], trivial⟩
   case measure => simp [intOf]; omega
  ·obtain rfl : k = lv := by omega
   obtain ⟨x, hx⟩ : ∃ x, 8 ^ k = x := ⟨_, rfl⟩;rw [hx] at HP ⊢;clear hx hlt
   go_wp2_with fail
   first | exact HP.out | (go_ret; exact HP.out)
def mn (p : Pt) : Nat := if eqP p zeroP then 0 else if fz p = false ∨ p.kind ≠ 3 ∨ p.level ≠ 2 then 1 else 0
def shI (D : Nat) : Value := .iface 45 (.pointer (some ⟨D, 0, none⟩))
set_option maxRecDepth 100000 in
set_option maxHeartbeats 4000000 in
theorem oj (p : Pt) (hp : p.OK) (D : Nat) (w : World) (hT : RTab w) : Calls Tryz.prog 71 #[shI D, .agg (a8 p).toArray] w fun e w' => e = .returned (.int .i64 (mn p : Int)) ∧ Below w.heap.size w w' := by
 have HP := zH hp;have HT := zH hT;have HB := zH (Blk.new w (a8 p) 28);have HW : Hid (Below w.heap.size w (w.alloc (.cells (a8 p).toArray 28))) := zH ((Below.refl _ _).alloc (Nat.le_refl _) _);obtain ⟨re, a6⟩ : ∃ re, mn p = re := ⟨_, rfl⟩;have a7 := zH a6;rw [a6];generalize hPost : (fun e w' => e = Ending.returned (.int .i64 (re : Int)) ∧ Below w.heap.size w w') = Post;have ag : Hid (∀ w', Below w.heap.size w w' → Post (.returned (.int .i64 (re : Int))) w') := zH fun w' h => by rw [← hPost]; exact ⟨rfl, h⟩
 clear hp hT a6 hPost;unfold shI;go_enter Tryz.func71, Tryz.ntmps71
 go_upto_region 1 with fail
 obtain ⟨G, hG⟩ : ∃ G, w.heap.size = G := ⟨_, rfl⟩;have a4 : Hid (∀ W', Below (w.alloc (.cells (a8 p).toArray 28)).heap.size (w.alloc (.cells (a8 p).toArray 28)) W' → Below w.heap.size w W') := zH fun W' h => HW.out.trans (h.mono HW.out.size)
 have ad : Hid (RTab (w.alloc (.cells (a8 p).toArray 28))) := zH (HT.out.alloc _);rw [hG] at HB ⊢;generalize (w.alloc (.cells (a8 p).toArray 28)) = W at HB a4 ad ⊢;clear HW hG
 go_wp2_with (first | (refine a9 rfl (ax HP.out HB.out rfl rfl) ?_) | fail)
 refine (fi p HP.out W).mono ?_;rintro e W2 ⟨rfl, a3⟩;have a5 := zH (HB.out.below a3 HB.out.lt);have ah := zH (ad.out.grown a3);have a2 := zH a3;clear a3 HB ad;cases hz : eqP p zeroP
 ·go_wp2_with (first | (refine a9 rfl (ax HP.out a5.out rfl rfl) ?_) | fail)
  refine (sf p HP.out W2 ah.out).mono ?_;rintro e W3 ⟨rfl, ab⟩;have af := zH (a5.out.below ab a5.out.lt);have HE := zH (ag.out W3 (a4.out W3 (a2.out.trans (ab.mono a2.out.size))));have c0 := af.out.cell (j := 0) rfl;have c1 := af.out.cell (j := 1) rfl;obtain ⟨kk, ae⟩ : ∃ k, p.kind = k := ⟨_, rfl⟩;obtain ⟨ll, aa⟩ : ∃ k, p.level = k := ⟨_, rfl⟩;have a1 : re = if fz p = false ∨ kk ≠ 3 ∨ ll ≠ 2 then 1 else 0 := by rw [← a7.out, ← ae, ← aa]; unfold mn; rw [hz]; rfl
  have a0 := zH a1;rw [ae] at c0;rw [aa] at c1;clear ab a5 ah a2 a4 a7 a1 ae aa hz;cases hm : fz p
  ·obtain rfl : re = 1 := by rw [a0.out, if_pos (.inl hm)]
   go_wp2_with fail
   first | exact HE.out | (go_ret; exact HE.out)
  ·by_cases h3 : kk = 3
   ·subst h3
    by_cases h2 : ll = 2
    ·subst h2
     obtain rfl : re = 0 := by rw [a0.out, if_neg (by simp [hm])]
     go_wp2_with fail
     first | exact HE.out | (go_ret; exact HE.out)
    ·obtain rfl : re = 1 := by rw [a0.out, if_pos (.inr (.inr h2))]
     have ai : ¬ (ll : Int) = 2 := by omega
     go_wp2_with fail
     first | exact HE.out | (go_ret; exact HE.out)
   ·obtain rfl : re = 1 := by rw [a0.out, if_pos (.inr (.inl h3))]
    have aj : ¬ (kk : Int) = 3 := by omega
    go_wp2_with fail
    first | exact HE.out | (go_ret; exact HE.out)
 ·obtain rfl : re = 0 := by rw [← a7.out]; unfold mn; rw [hz]; rfl
  have HE := zH (ag.out W2 (a4.out W2 a2.out))
  go_wp2_with fail
  first | exact HE.out | (go_ret; exact HE.out)
end Go.Proofs.YtjgjohdeeeoeoaaGreatDoor
