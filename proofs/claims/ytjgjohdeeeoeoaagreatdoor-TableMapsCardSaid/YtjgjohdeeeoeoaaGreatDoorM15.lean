/- The tree's read: the node of a pointer. -/
import Derived.Test.YtjgjohdeeeoeoaaGreatDoorM14
set_option linter.all false
namespace Go.Proofs.YtjgjohdeeeoeoaaGreatDoor
open Go.RowKit
attribute [local go_sem] Oper.semAt_some
variable {a : Act} {ad : Addr} {ns' : List Pt} {G b g i m : Nat} {p : Pt} {s1 : Sh} {t : TypeId} {v : Value} {W X w1 w2 : World}
def rnE (s : Sh) (p : Pt) : Nat := if eqP p zeroP = true then 0 else if rdE s p ≠ 0 then rdE s p else if kb (rdB s p) ≠ 0 then 21 else 0
def rnN (s : Sh) (p : Pt) : List Pt := if eqP p zeroP = true then holes else if rdE s p ≠ 0 then holes else ke (rdB s p)
def rnS (s : Sh) (p : Pt) : Sh := if eqP p zeroP = true then s else rdS s p
theorem Ac (s : Sh) (p : Pt) : NOK (rnN s p) := by
 unfold rnN;split
 ·exact holes_ok
 ·split
  ·exact holes_ok
  ·exact F8 _
structure Lim (n : Nat) (s : Sh) : Prop where
 rd : s.read0.length ≤ n
 md : s.made.length ≤ n
 gn : s.gone.length ≤ n
 n : n < 100000000
 bl : s.blocks.length ≤ 30000
 bd : s.bad.length ≤ 1000
 rm : -1 ≤ s.room ∧ s.room ≤ 1000
theorem mc {fn : Func} {p u : Tmp} (h : fn.results = #[.cell p 170, .tmp u]) (tmps : Array Value) (w : World) (g t : Nat) (cs : List Value)
  (hp : tmps.getD p undef = .pointer (some ⟨g, 0, none⟩)) (hg : Blk w g cs t) (hi : (Tryz.prog.info? 170).map (·.size) = some cs.length) :
  (results fn tmps).run Tryz.prog w = .ok (.tuple #[.agg cs.toArray, tmps.getD u undef]) w := oy h tmps w g t cs hp hg Tryz.underlying170 hi
def Ca (L : Nat → Nat) (w : World) (D : Nat) (s : Sh) (p : Pt) (e : Ending) (w' : World) : Prop := e = .returned (.tuple #[.agg (ah (rnN s p)).toArray, .int .i64 (rnE s p : Int)]) ∧ ShPost 5 L w D (rnS s p) w'
structure RnS (L : Nat → Nat) (w : World) (D G : Nat) (s1 : Sh) (p : Pt) (X : World) : Prop where
 sh : ∃ L1 v1, ShAt X L1 D s1 v1 ∧ Mv 5 L w L1 X ∧ L1 G = 0 ∧ L1 (G + 1) = 0
 box : Blk X G (a8 p) 28
 res : Blk X (G + 1) (ah holes) 170
 lo : w.heap.size ≤ G
theorem RnS.below {L : Nat → Nat} {w : World} {D : Nat} {Y : World} (h : RnS L w D G s1 p X) (hb : Below X.heap.size X Y) : RnS L w D G s1 p Y := by
 obtain ⟨⟨L1, v1, h1, h2, h3, h4⟩, hg, hr, a0⟩ := h;exact ⟨⟨L1, v1, h1.below hb, h2.trans (Mv.of_below hb h1.lt), h3, h4⟩, hg.below hb hg.lt, hr.below hb hr.lt, a0⟩
theorem RnS.ends {L : Nat → Nat} {w : World} {D : Nat} (h : RnS L w D G s1 p X) (ns : List Pt) : ShPost 5 L w D s1 (X.setRow (G + 1) (ah ns).toArray) ∧ Blk (X.setRow (G + 1) (ah ns).toArray) (G + 1) (ah ns) 170 := by
 obtain ⟨⟨L1, v1, h1, h2, h3, h4⟩, hg, hr, a0⟩ := h;have hc := tf X (G + 1) (ah ns).toArray;have hz : (X.setRow (G + 1) (ah ns).toArray).heap.size = X.heap.size := by simp
 refine ⟨⟨L1, v1, h1.out hc (fun g e _ => .inl (by rw [e]; exact h4)) (fun _ _ => .inl rfl) (fun g hg => by rw [hz]; exact h1.lt g hg), ?_⟩, hr.row _⟩;exact ⟨h2.chg.trans hc (fun g e => by right; have : g = G + 1 := e; omega), h2.old, h2.new⟩
set_option maxRecDepth 100000 in
set_option maxHeartbeats 8000000 in
theorem tv {w : World} {L : Nat → Nat} {D : Nat} {s : Sh} {v : Sv} {n : Nat} (p : Pt) (hp : p.OK) (h : ShAt w L D s v) (hn : Lim n s) : Calls Tryz.prog 95 #[shI D, .agg (a8 p).toArray] w (Ca L w D s p) := by
 have aa := zH hp;have HN := zH hn
 have HX : Hid (∀ z, z = (ah holes).toArray → RnS L w D w.heap.size s p ((w.alloc (.cells (a8 p).toArray 28)).alloc (.cells z 170))) := zH (fun z hz => by
  subst hz;have b0 : Below w.heap.size w ((w.alloc (.cells (a8 p).toArray 28)).alloc (.cells (ah holes).toArray 170)) := ((Below.refl _ _).alloc (Nat.le_refl _) _).alloc (by simp) _
  exact ⟨⟨L, v, h.below b0, Mv.of_below b0 h.lt, h.not (Nat.le_refl _), h.not (by omega)⟩, (Blk.new _ _ _).alloc _, Blk.new' _ _ _ _ _ (by simp) rfl, Nat.le_refl _⟩)
 generalize hPost : Ca L w D s p = Post;have HP : Hid (∀ w', ShPost 5 L w D (rnS s p) w' → Post (.returned (.tuple #[.agg (ah (rnN s p)).toArray, .int .i64 (rnE s p : Int)])) w') := zH fun w' h => by rw [← hPost]; exact ⟨rfl, h⟩
 have ag := zH (mg holes_ok);have ad := zH (gz holes_ok.ok);clear hp h hn hPost;unfold shI;go_enter Tryz.func95, Tryz.ntmps95
 go_upto_region 1 with fail
 refine (fun (k : ∀ W, RnS L w D w.heap.size s p W → Code.wp _ _ _ _ W) => k _ (HX.out _ rfl)) ?_;intro W hW;obtain ⟨G, hG⟩ : ∃ G, w.heap.size = G := ⟨_, rfl⟩;rw [hG] at hW ⊢;clear HX;have HX := zH hW;clear hW
 go_wp2_with (first | (refine a9 rfl (ax aa.out HX.out.box rfl rfl) ?_) | fail)
 refine (fk p aa.out W).mono ?_;rintro e W2 ⟨rfl, av⟩;have a4 := zH (HX.out.below av);clear av HX;cases hz : eqP p zeroP
 ·have HE : Hid (rnS s p = rdS s p ∧ rnE s p = (if rdE s p ≠ 0 then rdE s p else if kb (rdB s p) ≠ 0 then 21 else 0) ∧ rnN s p = if rdE s p ≠ 0 then holes else ke (rdB s p)) := zH (by unfold rnS rnE rnN; rw [hz]; exact ⟨rfl, rfl, rfl⟩)
  obtain ⟨⟨L1, v1, h1, h2, h3, h4⟩, h5, h6, h7⟩ := a4.out;have an := zH (Ai p aa.out h1 (by have := HN.out.rd; have := HN.out.n; omega) HN.out.bl HN.out.bd)
  have HM : Hid (∀ e X, C8 5 L1 W2 D s p e X → ∃ a7 L3, e = .returned (.tuple #[a7, .int .i64 (rdE s p : Int)]) ∧ RnS L w D G (rdS s p) p X ∧ BkV X L3 a7 (rdB s p)) := zH (by
   rintro e X ⟨a7, L3, v3, rfl, k1, k2, k3⟩
   exact ⟨a7, L3, rfl, ⟨⟨L3, v3, k1, h2.trans k2, (k2.old G h5.lt).trans h3, (k2.old (G + 1) h6.lt).trans h4⟩, k2.blk h5 h3, k2.blk h6 h4, h7⟩, k3⟩)
  clear h1 h2 h3 h4 h5 h6 h7
  go_wp2_with (first | (refine a9 rfl (ax aa.out a4.out.box rfl rfl) ?_) | fail)
  refine an.out.mono ?_;intro e X hpost;obtain ⟨a7, L3, rfl, b1, ay⟩ := HM.out e X hpost;have a5 := zH b1;have am := zH ay;clear hpost b1 ay HM an a4;obtain ⟨re, aj⟩ : ∃ re, rdE s p = re := ⟨_, rfl⟩;rw [aj] at HE ⊢;by_cases h0 : re = 0
  ·subst h0
   obtain ⟨sp, b5, rfl, hc, b2, hS, -⟩ := am.out;obtain ⟨⟨L4, v4, h4, -⟩, -⟩ := a5.out;have ak := D8 (rdB s p) sp b5 X b2 hc hS h4.tab.1;obtain ⟨ln, az⟩ : ∃ ln, (rdB s p).length = ln := ⟨_, rfl⟩;rw [az] at ak ⊢;have ao := zH ak;have a3 := zH (F8 (rdB s p));have ai := zH (mg a3.out);have af : Hid ((ah (ke (rdB s p))).toArray.size = 328) := zH a3.out.size;have ae := zH (gz a3.out.ok);clear hc b2 hS ak h4 az am aj
   go_wp2_with fail
   refine ao.out.mono ?_;rintro e X4 ⟨rfl, aw⟩;have ap := zH (a5.out.below aw);clear aw a5 ao;obtain ⟨ns, a6⟩ : ∃ ns, ke (rdB s p) = ns := ⟨_, rfl⟩;obtain ⟨ne, ab⟩ : ∃ ne, kb (rdB s p) = ne := ⟨_, rfl⟩;rw [a6] at a3 ai af ae;rw [a6, ab] at HE;rw [a6, ab];have b3 : Hid (ne ≠ 0 → ns = holes) := zH (fun h => by rw [← a6]; unfold ke; rw [ab, if_neg h]);clear a6 ab
   go_upto_region 7 with (first | (refine wpList_store_row rfl 170 (.tmp 8) (.tmp 25) rfl X4.heap.size (ah ns).toArray rfl rfl 170 _ (heap_alloc_new X4 _) ai.out (by rw [af.out]; rfl) ae.out ?_) | fail)
   refine (fun (k : ∀ W, RnS L w D G (rdS s p) p W → Blk W X4.heap.size (ah ns) 170 → Code.wp _ _ _ _ W) => k _ (ap.out.below (ar X4 _ (ah ns) 170).2) (ar X4 _ (ah ns) 170).1) ?_;intro X5 hX5 hb5;have aq := zH hX5; have al := zH hb5;obtain ⟨G5, au⟩ : ∃ g, X4.heap.size = g := ⟨_, rfl⟩;rw [au] at al ⊢;have a2 := zH hX5.res;clear hX5 hb5 ap au;by_cases hn0 : ne = 0
   ·subst hn0
    obtain ⟨e1, e2, e3⟩ := HE.out;rw [if_neg (by simp), if_neg (by simp)] at e2;rw [if_neg (by simp)] at e3;have a1 := zH (aq.out.ends ns);have a0 := zH (HP.out _ (by rw [e1]; exact a1.out.1));rw [e2, e3] at a0;have b4 : Hid ((ah holes).toArray.size = (ah ns).toArray.size) := zH (by rw [af.out, holes_ok.size]);clear e1 e2 e3 HE
    go_wp2_with (first | (refine a9 rfl (gx a3.out al.out rfl rfl) ?_) | (refine wpList_store_row rfl 170 (.tmp 4) (.tmp 30) rfl (G + 1) (ah ns).toArray rfl rfl 170 _ a2.out ai.out b4.out ae.out ?_) | fail)
    refine bodyPost_ret (mc Tryz.results95 _ _ (G + 1) 170 _ rfl a1.out.2 (lw a3.out)) rfl ?_;exact a0.out
   ·obtain ⟨e1, e2, e3⟩ := HE.out
    rw [if_neg (by simp), if_pos hn0] at e2;rw [if_neg (by simp), b3.out hn0] at e3;have a1 := zH (aq.out.ends holes);have a0 := zH (HP.out _ (by rw [e1]; exact a1.out.1));rw [e2, e3] at a0;have b6 : ¬ (ne : Int) = 0 := (by omega);clear e1 e2 e3 HE hn0
    go_wp2_with (first | (refine a9 rfl (rl rfl) ?_) | (refine wpList_store_row rfl 170 (.tmp 4) (.tmp 29) rfl (G + 1) (ah holes).toArray rfl rfl 170 _ a2.out ag.out rfl ad.out ?_) | fail)
    refine bodyPost_ret (mc Tryz.results95 _ _ (G + 1) 170 _ rfl a1.out.2 (lw holes_ok)) rfl ?_;exact a0.out
  ·obtain ⟨e1, e2, e3⟩ := HE.out
   rw [if_pos h0] at e2;rw [if_pos h0] at e3;have a1 := zH (a5.out.ends holes);have a0 := zH (HP.out _ (by rw [e1]; exact a1.out.1));rw [e2, e3] at a0;have a2 := zH a5.out.res;have b7 : ¬ (re : Int) = 0 := (by omega);clear e1 e2 e3 HE h0 aj
   go_wp2_with (first | (refine a9 rfl (rl rfl) ?_) | (refine wpList_store_row rfl 170 (.tmp 4) (.tmp 20) rfl (G + 1) (ah holes).toArray rfl rfl 170 _ a2.out ag.out rfl ad.out ?_) | fail)
   refine bodyPost_ret (mc Tryz.results95 _ _ (G + 1) 170 _ rfl a1.out.2 (lw holes_ok)) rfl ?_;exact a0.out
 ·have a1 := zH (a4.out.ends holes)
  have a0 := zH (HP.out _ (by unfold rnS; rw [hz]; exact a1.out.1));have e2 : rnE s p = 0 := (by unfold rnE; rw [hz]; rfl);have e3 : rnN s p = holes := (by unfold rnN; rw [hz]; rfl);rw [e2, e3] at a0;have a2 := zH a4.out.res;clear e2 e3 hz
  go_wp2_with (first | (refine a9 rfl (rl rfl) ?_) | (refine wpList_store_row rfl 170 (.tmp 4) (.tmp 11) rfl (G + 1) (ah holes).toArray rfl rfl 170 _ a2.out ag.out rfl ad.out ?_) | fail)
  refine bodyPost_ret (mc Tryz.results95 _ _ (G + 1) 170 _ rfl a1.out.2 (lw holes_ok)) rfl ?_;exact a0.out
abbrev Lf := Nat × Pt
def av (x : Lf) : List Value := .int .u32 (x.1 : Int) :: a8 x.2
def Lf.OK (x : Lf) : Prop := x.1 < 4294967296 ∧ x.2.OK
theorem bq {x : Lf} (h : x.2.OK) : (av x).length = 42 := by simp [av, aa h]
def xx (l : List Lf) : List Value := l.flatMap av
theorem I7 (l : List Lf) (x : Lf) : xx (l ++ [x]) = xx l ++ av x := by simp [xx]
abbrev OwnL (w : World) (B : Nat) (v : Value) (l : List Lf) : Prop := w.ownsRow B 110 42 v l.length (xx l)
theorem a0r : (Tryz.prog.info? 110).map (fun i => (i.zero.map (·.cells.size), i.size, i.bytes)) = some (some 42, 42, 64) := by kernel_rfl
theorem ot : ∃ i z, Tryz.prog.info? 110 = some i ∧ i.zero = some z ∧ z.cells.size = 42 ∧ i.size = 42 ∧ i.bytes = 64 := by
 obtain ⟨i, h1, h2⟩ := Option.map_eq_some_iff.1 a0r;simp only [Prod.mk.injEq] at h2;obtain ⟨z, hz, a0⟩ := Option.map_eq_some_iff.1 h2.1;exact ⟨i, z, h1, hz, a0, h2.2.1, h2.2.2⟩
theorem Aj : (Tryz.prog.info? 110).map (·.size) = some 42 := by kernel_rfl
theorem A1 (x : Lf) : ∀ u ∈ av x, u.oneCell' = true := fun u hu => by
 simp only [av, List.mem_cons] at hu;rcases hu with rfl | hu
 ·rfl
 ·exact tu x.2 u hu
theorem Fh {w : World} {B : Nat} {l : List Lf} (h : OwnL w B v l) (hB : B ≤ w.heap.size) (hl : l.length < 100000000) {x : Lf} (hx : x.2.OK) (hg : Blk w g (av x) t) (ty : TypeId) :
  ∃ v' w', (Builtin.append_ #[95, 95] ty #[v, .slice (some ⟨g, 0, none⟩) 1 1]).run Tryz.prog w = .ok v' w' ∧ OwnL w' B v' (l ++ [x]) ∧ w.grownBy w' v.ownBlock ∧ (v'.ownBlock = v.ownBlock ∨ v'.ownBlock = some w.heap.size) := by
 obtain ⟨i0, z, hi, a0, a1, a2, a3⟩ := ot
 obtain ⟨v', w', hr, h2, h3, _, h5⟩ := run_append_own_at (P := Tryz.prog) w B 95 ty 110 i0 z 42 64 Tryz.underlying95 hi a0 a2 a3 a1 (by decide) v l.length (xx l) h ⟨g, 0, none⟩ 1 1 (av x) (by rw [bq hx]) (fun j y hj => by
  rw [Addr.add_mid, Nat.zero_add]
  exact hg.cell hj) (A1 x) (by unfold maxLen; omega) (by omega) hB
 refine ⟨v', w', hr, ?_, h3, h5⟩;unfold OwnL;rw [I7, List.length_append];exact h2
section
variable {ρ : Operand → Value} {o : Oper} {x y : Operand} {w : World}
theorem Xh (ho : o.op = .load 95 x) (hx : ρ x = .pointer (some ad)) (hc : w.cell? ad = some v) : (execOp ρ o).run Tryz.prog w = .ok (.value v) w := by
 unfold execOp; simp only [ho]; go_simp
theorem Xg {l : Lf} (hl : l.2.OK) {t' : TypeId} (hB : Blk w g (av l) t') (ho : o.op = .load 110 x) (hx : ρ x = .pointer (some ⟨g, 0, none⟩)) : (execOp ρ o).run Tryz.prog w = .ok (.value (.agg (av l).toArray)) w :=
 c6 (ty := 110) (cs := av l) ho hx (d9 hB) Tryz.underlying110 rfl (by rw [Aj, bq hl])
theorem Ko {l : Lf} (hl : l.2.OK) (ho : o.op = .buildSlice 95 1 #[(0, x)]) (hx : ρ x = .agg (av l).toArray) :
  (execOp ρ o).run Tryz.prog w = .ok (.value (.slice (some ⟨w.heap.size, 0, none⟩) 1 1)) (w.alloc (.cells (av l).toArray 110)) := by
 obtain ⟨i, z, hi, hz, a1, a0, _⟩ := ot
 have hr := run_buildSlice (P := Tryz.prog) w 95 110 1 #[(0, .agg (av l).toArray)] (av l).toArray i z Tryz.underlying95 hi hz (by rw [a0]; omega) (by rw [a0]; omega)
  (ol (size := 42) (by simp [a0]) (by simp [Value.cells, bq hl]) (by simp [a0]))
 unfold execOp;simp only [ho];rw [show (Array.map (fun x : Nat × Operand => (x.1, ρ x.2)) #[(0, x)]) = #[(0, .agg (av l).toArray)] by simp [hx]];simp only [Sem.run_bind, hr, Result.andThen_ok];rfl
theorem Kb {u v' : Value} {w w' : World} (ho : o.op = .call { callee := .builtin .append, args := #[x, y], argTypes := #[95, 95] }) (hx : ρ x = v) (hy : ρ y = u)
  (hr : (Builtin.append_ #[95, 95] o.type #[v, u]).run Tryz.prog w = .ok v' w') : (execOp ρ o).run Tryz.prog w = .ok (.value v') w' := by
 unfold execOp;simp only [ho, resolve, invoke, builtin, Sem.run_bind, Sem.run_pure, Result.andThen_ok, List.map_toArray, List.map_cons, List.map_nil, hx, hy, hr]
end
def io (l : List Lf) : Pt := (l.getLast?.map (·.2)).getD zeroP
theorem I1 (l : List Lf) (x : Lf) : io (l ++ [x]) = x.2 := by simp [io]
def GaAt (w : World) (L : Nat → Nat) (md : Bool) (Bx : Nat) (ls : List Lf) : Prop :=
 if md then ∃ sv, Blk w Bx [sv] 95 ∧ OwnL w 0 sv ls ∧ ∀ g, sv.ownBlock = some g → L g = 9 else Blk w Bx (a8 (io ls)) 28
def Li (md : Bool) (Bx : Nat) : Value := a1v (if md then 74 else 91) #[.pointer (some ⟨Bx, 0, none⟩)]
def ew (D fr tt : Nat) (nv : Value) (md : Bool) (Bx : Nat) : List Value := [shI D, .int .u32 (fr : Int), .int .u32 (tt : Int), nv, Li md Bx]
structure WkAt (w : World) (L : Nat → Nat) (D Wk Bx : Nat) (md : Bool) (fr tt : Nat) (s : Sh) (ns : List Pt) (ls : List Lf) : Prop where
 sh : ∃ v, ShAt w L D s v
 wk : ∃ nv, Blk w Wk (ew D fr tt nv md Bx) 149 ∧ OwnM w 0 nv ns ∧ ∀ g, nv.ownBlock = some g → L g = 8
 ga : GaAt w L md Bx ls
 l7 : L Wk = 7
 l6 : L Bx = 6
 okn : ∀ q ∈ ns, q.OK
 okl : ∀ x ∈ ls, Lf.OK x
section
variable {w w' : World} {L L' : Nat → Nat} {D Wk Bx fr tt : Nat} {md : Bool} {s s' : Sh} {ns : List Pt} {ls : List Lf}
theorem GaAt.chg {F : Nat → Prop} (h : GaAt w L md Bx ls) (hc : Chg F w w') (hB : ¬ F Bx) (hF : ∀ g, F g → L g ≠ 9) (hL : ∀ g, g < w.heap.size → L' g = L g) : GaAt w' L' md Bx ls := by
 unfold GaAt at *;cases md
 ·exact Blk.chg h hc hB
 ·obtain ⟨sv, h1, h2, h3⟩ := h
  exact ⟨sv, h1.chg hc hB, bc h2 hc (fun g hg hf => hF g hf (h3 g hg)), fun g hg => (hL g (eu h2 hg)).trans (h3 g hg)⟩
theorem GaAt.lt (h : GaAt w L md Bx ls) : Bx < w.heap.size := by
 unfold GaAt at h;cases md
 ·exact Blk.lt h
 ·obtain ⟨sv, h1, _⟩ := h; exact h1.lt
theorem WkAt.shelf {v' : Sv} (h : WkAt w L D Wk Bx md fr tt s ns ls) (hs : ShAt w' L' D s' v') (hm : Mv 5 L w L' w') : WkAt w' L' D Wk Bx md fr tt s' ns ls := by
 obtain ⟨nv, h1, h2, h3⟩ := h.wk;have hf : ∀ g, 6 ≤ L g → ¬ kx 5 L g := fun g hg hf => by unfold kx at hf; omega
 refine ⟨⟨v', hs⟩, ⟨nv, h1.chg hm.chg (hf _ (by rw [h.l7]; omega)), bc h2 hm.chg (fun g hg => hf g (by rw [h3 g hg]; omega)), fun g hg => (hm.old g (eu h2 hg)).trans (h3 g hg)⟩, h.ga.chg hm.chg (hf _ (by rw [h.l6]; omega)) (fun g hg e => hf g (by omega) hg) hm.old, (hm.old _ h1.lt).trans h.l7, (hm.old _ h.ga.lt).trans h.l6, h.okn, h.okl⟩
theorem WkAt.below (h : WkAt w L D Wk Bx md fr tt s ns ls) (hb : Below w.heap.size w w') : WkAt w' L D Wk Bx md fr tt s ns ls := by
 obtain ⟨v, hs⟩ := h.sh;exact h.shelf (hs.below hb) (Mv.of_below hb hs.lt)
theorem WkAt.drew (h : WkAt w L D Wk Bx md fr tt s ns ls) : WkAt w.drew L D Wk Bx md fr tt s ns ls := h.below (Below.refl _ _).drew
def WkPost (L : Nat → Nat) (w : World) (D Wk Bx : Nat) (md : Bool) (fr tt : Nat) (s' : Sh) (ns' : List Pt) (ls' : List Lf) (w' : World) : Prop := ∃ L', WkAt w' L' D Wk Bx md fr tt s' ns' ls' ∧ Mv 9 L w L' w'
theorem WkPost.of_below (h : WkAt w L D Wk Bx md fr tt s ns ls) (hb : Below w.heap.size w w') : WkPost L w D Wk Bx md fr tt s ns ls w' := by
 obtain ⟨v, hs⟩ := h.sh;exact ⟨L, h.below hb, Mv.of_below hb hs.lt⟩
theorem WkPost.mv {L1 : Nat → Nat} {s' : Sh} {ls' : List Lf} (h : Mv 9 L w L1 w1) (k : WkPost L1 w1 D Wk Bx md fr tt s' ns' ls' w2) : WkPost L w D Wk Bx md fr tt s' ns' ls' w2 := by
 obtain ⟨L2, h2, k2⟩ := k;exact ⟨L2, h2, h.trans k2⟩
theorem WkPost.pre {s' : Sh} {ls' : List Lf} (h : WkAt w L D Wk Bx md fr tt s ns ls) (hb : Below w.heap.size w w1) (k : WkPost L w1 D Wk Bx md fr tt s' ns' ls' w2) : WkPost L w D Wk Bx md fr tt s' ns' ls' w2 := by
 obtain ⟨v, hs⟩ := h.sh;exact WkPost.mv (Mv.of_below hb hs.lt) k
end
theorem Sj {w : World} {L : Nat → Nat} {D Wk Bx fr tt : Nat} {s : Sh} {ns : List Pt} {ls : List Lf} (x : Lf) (hx : Lf.OK x) (h : WkAt w L D Wk Bx false fr tt s ns ls) :
  Calls Tryz.prog 91 #[.agg (av x).toArray, .pointer (some ⟨Bx, 0, none⟩)] w fun e w' => e = .returned (.tuple #[]) ∧ WkPost L w D Wk Bx false fr tt s ns (ls ++ [x]) w' := by
 have HX := zH hx;have a0 : Below w.heap.size w (w.alloc (.cells (av x).toArray 110)) := (Below.refl _ _).alloc (Nat.le_refl _) _;have HB : Hid (Blk (w.alloc (.cells (av x).toArray 110)) w.heap.size (av x) 110) := zH (Blk.new _ _ _);have h1 := h.below a0;have HG : Hid (Blk (w.alloc (.cells (av x).toArray 110)) Bx (a8 (io ls)) 28) := zH h1.ga
 have a1 : Hid ((a8 (io ls)).toArray.size = (a8 x.2).toArray.size) := zH (by
  have e : (io ls).OK := by
   unfold io;cases hl : ls.getLast? with
   | none => exact ak
   | some y => exact (h.okl y (List.mem_of_getLast? hl)).2
  rw [List.size_toArray, List.size_toArray, aa e, aa hx.2])
 have a2 := zH (bh hx.2)
 have HR : Hid ((w.alloc (.cells (av x).toArray 110)).rangeAt w.heap.size 1 (a8 x.2)) := zH (by
  have := (Blk.new w (av x) 110).rng [.int .u32 (x.1 : Int)] (a8 x.2) [] (by simp [av])
  exact this)
 generalize hPost : (fun e w' => e = Ending.returned (.tuple #[]) ∧ WkPost L w D Wk Bx false fr tt s ns (ls ++ [x]) w') = Post
 have HP : Hid (Post (.returned (.tuple #[])) ((w.alloc (.cells (av x).toArray 110)).setRow Bx (a8 x.2).toArray)) := zH (by
  rw [← hPost];refine ⟨rfl, ?_⟩;generalize (w.alloc (.cells (av x).toArray 110)) = W at h1 a0 HG;obtain ⟨v, hs⟩ := h1.sh;obtain ⟨nv, k1, k2, k3⟩ := h1.wk;have hc := tf W Bx (a8 x.2).toArray;have hz : (W.setRow Bx (a8 x.2).toArray).heap.size = W.heap.size := (by simp);have a4 : ShAt (W.setRow Bx (a8 x.2).toArray) L D s v := hs.out hc (fun g e _ => .inr (by rw [e, h1.l6]; omega)) (fun _ _ => .inl rfl) (fun g hg => by rw [hz]; exact hs.lt g hg);refine ⟨L, ⟨⟨v, a4⟩, ⟨nv, k1.chg hc (fun e => by have h6 := h1.l6; rw [← e, h1.l7] at h6; omega), bc k2 hc (fun g hg e => by have h6 := h1.l6; rw [← e, k3 g hg] at h6; omega), k3⟩, ?_, h1.l7, h1.l6, h1.okn, fun y hy => ?_⟩, ?_⟩
  ·show Blk _ Bx (a8 (io (ls ++ [x]))) 28
   rw [I1];exact HG.out.row _
  ·rcases List.mem_append.1 hy with hy | hy
   ·exact h1.okl y hy
   ·simp at hy; subst hy; exact hx
  ·obtain ⟨v0, a3⟩ := h.sh
   refine (Mv.of_below a0 a3.lt).trans ⟨hc.mono (fun g e => ?_), fun _ _ => rfl, fun g hg => ?_⟩
   ·have e : g = Bx := e
    unfold kx; rw [e, h1.l6]; omega
   ·left; have := hs.lt g; omega)
 clear hx h h1 a0 hPost;go_enter Tryz.func91, Tryz.ntmps91
 go_upto_region 1 with fail
 obtain ⟨G, hG⟩ : ∃ G, w.heap.size = G := ⟨_, rfl⟩;rw [hG] at HB HR ⊢;generalize (w.alloc (.cells (av x).toArray 110)) = W at HB HG HR HP ⊢
 go_wp2_with (first | (refine a9 rfl (c6 (ty := 28) (cs := a8 x.2) rfl rfl HR.out Tryz.underlying28 rfl (by rw [dw, aa HX.out.2])) ?_) | (refine wpList_store_row rfl 28 (.tmp 1) (.tmp 4) rfl Bx (a8 x.2).toArray rfl rfl 28 _ HG.out a2.out a1.out (bb x.2) ?_) | fail)
 go_end0;exact HP.out
theorem Nb {L : Nat → Nat} {D Wk Bx fr tt : Nat} {s : Sh} {ns : List Pt} {ls : List Lf} (x : Lf) (hx : Lf.OK x) (h : WkAt W L D Wk Bx true fr tt s ns ls) (hw2 : w2 = W.alloc (.cells (av x).toArray 110)) (hl : ls.length < 100000000) :
  ∃ sp n cap sp3 n3 cap3 w3, W.cell? ⟨Bx, 0, none⟩ = some (.slice sp n cap) ∧ (Builtin.append_ #[95, 95] 95 #[.slice sp n cap, .slice (some ⟨W.heap.size, 0, none⟩) 1 1]).run Tryz.prog w2 = .ok (.slice sp3 n3 cap3) w3 ∧ (∃ c, w3.cell? ⟨Bx, 0, none⟩ = some c) ∧ w3.frozen? ⟨Bx, 0, none⟩ = false ∧
   WkPost L W D Wk Bx true fr tt s ns (ls ++ [x]) (w3.setCell ⟨Bx, 0, none⟩ (.slice sp3 n3 cap3)) := by
 subst hw2;have hw2 : Below W.heap.size W (W.alloc (.cells (av x).toArray 110)) := (Below.refl _ _).alloc (Nat.le_refl _) _;obtain ⟨v, hs⟩ := h.sh;obtain ⟨nv, k1, k2, k3⟩ := h.wk;obtain ⟨sv, g1, g2, g3⟩ := h.ga;have a8 : OwnL (W.alloc (.cells (av x).toArray 110)) 0 sv ls := bc g2 (Chg.of_below (F := fun _ => False) hw2) (fun _ _ h => h);have a3 : Blk (W.alloc (.cells (av x).toArray 110)) W.heap.size (av x) 110 := Blk.new _ _ _;obtain ⟨v3, w3, hr, a4, a9, ab⟩ := Fh a8 (Nat.zero_le _) hl hx.2 a3 95;obtain ⟨sp, cap, e, _⟩ := d6 g2;obtain ⟨sp3, cap3, e3, _⟩ := d6 a4;have a6 : sv.ownBlock ≠ some Bx := fun e => by have := g3 Bx e; rw [h.l6] at this; omega
 have a5 : Chg (fun g => sv.ownBlock = some g) W w3 := (Chg.of_below hw2).grown a9 (fun g hg => .inl hg);have a1 : Blk w3 Bx [sv] 95 := g1.chg a5 a6;have a0 : Chg (fun g => g = Bx ∨ sv.ownBlock = some g) W (w3.setCell ⟨Bx, 0, none⟩ v3) := (a5.mono (fun g hg => .inr hg)).setCell (.inl (.inl rfl)) 0 v3
 have a7 : ∀ g, v3.ownBlock = some g → sv.ownBlock = some g ∨ W.heap.size ≤ g := fun g hg => by
  rcases ab with e | e
  ·left; rw [← e]; exact hg
  ·right; rw [e] at hg; injection hg; simp at *; omega
 have hL : ∀ g, g < W.heap.size → gc L v3 9 g = L g := fun g hg => lu g3 a7 hg
 have hz : (w3.setCell ⟨Bx, 0, none⟩ v3).heap.size = w3.heap.size := by simp [World.setCell]
 have aa : ∀ g, gc L v3 9 g ≠ 0 → g < (w3.setCell ⟨Bx, 0, none⟩ v3).heap.size := ve (fun g hg => Nat.lt_of_lt_of_le (hs.lt g hg) a0.size) (fun g hg => by rw [hz]; exact eu a4 hg)
 have hF : ∀ g, (g = Bx ∨ sv.ownBlock = some g) → L g = 6 ∨ L g = 9 := fun g hg => by
  rcases hg with rfl | hg
  ·exact .inl h.l6
  ·exact .inr (g3 g hg)
 have a2 : v3.ownBlock ≠ some Bx := fun e => by
  rcases a7 Bx e with e1 | e1
  ·exact a6 e1
  ·have := g1.lt; omega
 refine ⟨sp, ls.length, cap, sp3, (ls ++ [x]).length, cap3, w3, by rw [← e]; exact g1.cell rfl, by rw [← e, ← e3]; exact hr, a1.has 0 (by simp), a1.free 0, ?_⟩;rw [← e3];refine ⟨gc L v3 9, ⟨⟨v, hs.out a0 (fun g hg _ => .inr (by rcases hF g hg with e | e <;> omega)) (fun g hg => .inl (hL g hg)) aa⟩, ⟨nv, k1.chg a0 (fun e => by rcases hF _ e with e | e <;> (rw [h.l7] at e; omega)), bc k2 a0 (fun g hg hf => by have := k3 g hg; rcases hF _ hf with e | e <;> omega), fun g hg => (hL g (eu k2 hg)).trans (k3 g hg)⟩, ⟨v3, a1.set 0 v3, bc a4 (Hf w3 Bx 0 v3) (fun g hg e => a2 (by rw [← e]; exact hg)), fun g hg => sw hg⟩, (hL _ k1.lt).trans h.l7, (hL _ g1.lt).trans h.l6, h.okn, fun y hy => ?_⟩, ⟨a0.mono (fun g hg => by rcases hF g hg with e | e <;> (unfold kx; omega)), hL, fun g hg => ?_⟩⟩
 ·rcases List.mem_append.1 hy with hy | hy
  ·exact h.okl y hy
  ·simp at hy; subst hy; exact hx
 ·unfold gc
  split
  ·left; omega
  ·left; have := hs.lt g; omega
theorem Qw {w : World} {L : Nat → Nat} {D Wk Bx fr tt : Nat} {s : Sh} {ns : List Pt} {ls : List Lf} (x : Lf) (hx : Lf.OK x) (h : WkAt w L D Wk Bx true fr tt s ns ls) (hl : ls.length < 100000000) :
  Calls Tryz.prog 74 #[.agg (av x).toArray, .pointer (some ⟨Bx, 0, none⟩)] w fun e w' => e = .returned (.tuple #[]) ∧ WkPost L w D Wk Bx true fr tt s ns (ls ++ [x]) w' := by
 have HX := zH hx;have a0 : Below w.heap.size w (w.alloc (.cells (av x).toArray 110)) := (Below.refl _ _).alloc (Nat.le_refl _) _;have HB : Hid (Blk (w.alloc (.cells (av x).toArray 110)) w.heap.size (av x) 110) := zH (Blk.new _ _ _);have H1 := zH (h.below a0);have a1 : Hid (∀ w', WkPost L (w.alloc (.cells (av x).toArray 110)) D Wk Bx true fr tt s ns (ls ++ [x]) w' → WkPost L w D Wk Bx true fr tt s ns (ls ++ [x]) w') := zH fun w' h2 => WkPost.pre h a0 h2
 have HL := zH hl;generalize hPost : (fun e w' => e = Ending.returned (.tuple #[]) ∧ WkPost L w D Wk Bx true fr tt s ns (ls ++ [x]) w') = Post;have HP : Hid (∀ w', WkPost L (w.alloc (.cells (av x).toArray 110)) D Wk Bx true fr tt s ns (ls ++ [x]) w' → Post (.returned (.tuple #[])) w') := zH fun w' h2 => by rw [← hPost]; exact ⟨rfl, a1.out w' h2⟩
 clear hx h hl a0 hPost a1;go_enter Tryz.func74, Tryz.ntmps74
 go_upto_region 1 with fail
 obtain ⟨G, hG⟩ : ∃ G, w.heap.size = G := ⟨_, rfl⟩;rw [hG] at HB ⊢;generalize (w.alloc (.cells (av x).toArray 110)) = W at HB H1 HP ⊢;obtain ⟨sp, n, a4, a5, n3, a3, w3, c0, hr, ⟨_, hc⟩, hf, hp⟩ := Nb (w2 := W.alloc (.cells (av x).toArray 110)) x HX.out H1.out rfl HL.out;have HE := zH (HP.out _ hp);have a2 := zH hr;clear hp hr HP
 go_wp2_with (first | (refine a9 rfl (Xg HX.out.2 HB.out rfl rfl) ?_) | (refine a9 rfl (Ko HX.out.2 rfl rfl) ?_) | (at_builtin; refine a9 rfl (Kb rfl rfl rfl a2.out) ?_) | fail)
 go_end0;exact HE.out
theorem Na {w : World} {L : Nat → Nat} {D Wk Bx fr tt : Nat} {md : Bool} {s : Sh} {ns : List Pt} {ls : List Lf} (x : Lf) (hx : Lf.OK x) (h : WkAt w L D Wk Bx md fr tt s ns ls) (hl : ls.length < 100000000) :
  Calls Tryz.prog (if md then 74 else 91) #[.agg (av x).toArray, .pointer (some ⟨Bx, 0, none⟩)] w fun e w' => e = .returned (.tuple #[]) ∧ WkPost L w D Wk Bx md fr tt s ns (ls ++ [x]) w' := by
 cases md
 ·exact Sj x hx h
 ·exact Qw x hx h hl
theorem Pb {L : Nat → Nat} {D Wk Bx fr tt : Nat} {md : Bool} {s : Sh} {ns : List Pt} {ls : List Lf} (hp : p.OK) (h : WkAt W L D Wk Bx md fr tt s ns ls) (hl : ns.length < 100000000) :
  ∃ u v3 w3, (∀ X, Below W.heap.size W X → X.cell? ⟨Wk, 3, none⟩ = some u) ∧ (Builtin.append_ #[48, 48] 48 #[u, .slice (some ⟨W.drew.heap.size, 0, none⟩) 1 1]).run Tryz.prog (W.drew.alloc (.cells (a8 p).toArray 28)) = .ok v3 w3 ∧ (∃ sp n cap, v3 = .slice sp n cap) ∧ (∃ c, w3.cell? ⟨Wk, 3, none⟩ = some c) ∧ w3.frozen? ⟨Wk, 3, none⟩ = false ∧
   (∀ {g : Nat} {cs' : List Value} {t' : TypeId}, Blk W g cs' t' → L g = 0 → Blk w3 g cs' t' ∧ Blk (w3.setCell ⟨Wk, 3, none⟩ v3) g cs' t') ∧ WkPost L W D Wk Bx md fr tt s (ns ++ [p]) ls (w3.setCell ⟨Wk, 3, none⟩ v3) := by
 obtain ⟨v, hs⟩ := h.sh;obtain ⟨nv, k1, k2, k3⟩ := h.wk;have a3 : nv.ownBlock ≠ some Wk := fun e => by have := k3 Wk e; rw [h.l7] at this; omega
 obtain ⟨v3, w3, hr, a5, a0, a1, a2, j1, j2, j3, j4, j5⟩ := tz (k := 3) k2 k1 a3 hp hl (by simp [ew]);have hL : ∀ g, g < W.heap.size → gc L v3 8 g = L g := fun g hg => lu k3 j4 hg
 have hF : ∀ g, (g = Wk ∨ nv.ownBlock = some g) → L g = 7 ∨ L g = 8 := fun g hg => by
  rcases hg with rfl | hg
  ·exact .inl h.l7
  ·exact .inr (k3 g hg)
 refine ⟨nv, v3, w3, fun X hX => (k1.below hX k1.lt).cell rfl, hr, a5, a0, a1, fun hb hg => ?_, gc L v3 8, ⟨⟨v, hs.out j2 (fun g hg _ => .inr (by rcases hF g hg with e | e <;> omega)) (fun g hg => .inl (hL g hg)) (ve (fun g hg => Nat.lt_of_lt_of_le (hs.lt g hg) j2.size) j5)⟩, ⟨v3, j1, j3, fun g hg => sw hg⟩, h.ga.chg j2 (fun e => by rcases hF _ e with e | e <;> (rw [h.l6] at e; omega)) (fun g hg => by rcases hF g hg with e | e <;> omega) hL, (hL _ k1.lt).trans h.l7, (hL _ h.ga.lt).trans h.l6, fun q hq => ?_, h.okl⟩, ⟨j2.mono (fun g hg => by rcases hF g hg with e | e <;> (unfold kx; omega)), hL, fun g hg => ?_⟩⟩
 ·have a4 : nv.ownBlock ≠ some _ := fun e => by have := k3 _ e; rw [hg] at this; omega
  have h2 := a2 hb a4;exact ⟨h2.1, h2.2 (fun e => by rw [e, h.l7] at hg; omega)⟩
 ·rcases List.mem_append.1 hq with hq | hq
  ·exact h.okn q hq
  ·simp at hq; subst hq; exact hp
 ·unfold gc
  split
  ·left; omega
  ·left; have := hs.lt g; omega
theorem Gt (R : Nat → World → Prop) {c : Code} {Q : Exit → Act → World → Prop} {w : World} (h : ∃ A : Nat → Act, c.wp Tryz.prog (fun e a w => e = .normal ∧ ∃ g, a = A g ∧ R g w) a w ∧ ∀ g W, R g W → Q .normal (A g) W) : c.wp Tryz.prog Q a w := by
 obtain ⟨A, h1, h2⟩ := h;exact Code.wp_mono (fun e a w ⟨e1, g, e2, e3⟩ => by subst e1 e2; exact h2 g _ e3) h1
section
variable {ops : Array Oper} {Q : Exit → Act → World → Prop} {S : World → Prop}
theorem kp {r : Tr} {w : World} (o : Oper) (hi : ops.toList[i]? = some o) (hw : Region.wanted o (yielded ops a.tmps) = true) (ty : TypeId) (x y : Operand) (ho : o.op = .store ty x y) (b : Nat) (cells : Array Value) (hx : a.eval x = .pointer (some ⟨b, 0, none⟩)) (hy : a.eval y = .agg cells) {old : List Value} (hg : Blk w b old t) (hs : (Tryz.prog.info? ty).map (·.size) = some cells.size) (hl : old.length = cells.size) (h1 : cells.all (·.oneCell') = true)
  (S' : World → Prop) (hSS : ∀ w, S' w → S w) (hS : S' (w.setRow b cells)) (h : wpG Tryz.prog ops Q r S' (a.put o.dst undef) (w.setRow b cells)) : wpG Tryz.prog ops Q (.step i r) S a w := by
 refine At o hi hw fun K hK => ?_
 exact wpList_store_row rfl ty x y ho b cells hx hy t old.toArray hg hs (by simpa using hl) h1 (ko (hK _ _ S' hSS hS h))
end
theorem sa {pl : Array (Nat × Nat)} {cells : Array Value} {off size : Nat} (hp : pl[i]? = some (off, size)) (hv : v.cells.size = size) (hle : off + size ≤ cells.size) (rest : List (Nat × Value)) :
  Instr.fill (pl[·]?) cells ((i, v) :: rest) = Instr.fill (pl[·]?) (splice cells.toList off v.cells.toList).toArray rest := by
 have hf := xu off v.cells.toList cells (by simp; omega)
 conv => lhs; unfold Instr.fill
 simp only [hp];rw [if_neg (by simp [hv]; omega)];congr 1;rw [← hf];rw [← Array.foldl_toList];simp
theorem a0c (parts : List (Nat × Value)) : Tryz.prog.built 110 parts = Instr.fill ((#[(0, 1), (1, 41)] : Array (Nat × Nat))[·]?) (av (0, zeroP)).toArray parts := by kernel_rfl
section
variable {ρ : Operand → Value} {o : Oper} {x y : Operand} {w : World}
theorem Rk (ho : o.op = .alloc 170) : (execOp ρ o).run Tryz.prog w = .ok (.value (.pointer (some ⟨w.heap.size, 0, none⟩))) (w.alloc (.cells (ah holes).toArray 170)) := by
 have e : (ah holes).toArray = ((ah holes).toArray) := rfl;unfold execOp;simp only [ho];go_simp;rfl
theorem a0j (ho : o.op = .load 114 x) (hx : ρ x = .pointer (some ad)) (hc : w.cell? ad = some v) : (execOp ρ o).run Tryz.prog w = .ok (.value v) w := by
 unfold execOp; simp only [ho]; go_simp
theorem a0i (ho : o.op = .load 147 x) (hx : ρ x = .pointer (some ad)) (hc : w.cell? ad = some v) : (execOp ρ o).run Tryz.prog w = .ok (.value v) w := by
 unfold execOp; simp only [ho]; go_simp
theorem ze {j : Nat} (hj : j < 5) (ho : o.op = .fieldAddr 149 x j) (hx : ρ x = .pointer (some ⟨b, 0, none⟩)) : (execOp ρ o).run Tryz.prog w = .ok (.value (.pointer (some ⟨b, j, none⟩))) w := by
 unfold execOp;simp only [ho]
 match j, hj with
 | 0, _ | 1, _ | 2, _ | 3, _ | 4, _ => go_simp
theorem Kc {f : Nat} (hp : p.OK) (ho : o.op = .build 110 #[(0, x), (1, y)]) (hx : ρ x = .int .u32 (f : Int)) (hy : ρ y = .agg (a8 p).toArray) : (execOp ρ o).run Tryz.prog w = .ok (.value (.agg (av (f, p)).toArray)) w := by
 have hl := aa hp;have hz : (av (0, zeroP)).toArray.size = 42 := by rw [List.size_toArray]; exact bq ak
 have hr : (Instr.build 110 #[(0, .int .u32 (f : Int)), (1, .agg (a8 p).toArray)]).run Tryz.prog w = .ok (.agg (av (f, p)).toArray) w := run_build w 110 _ _ (by
  rw [a0c];show Instr.fill _ _ [(0, .int .u32 (f : Int)), (1, .agg (a8 p).toArray)] = _;rw [sa (i := 0) (off := 0) (size := 1) rfl rfl (by rw [hz]; omega)];have e1 : splice (av (0, zeroP)).toArray.toList 0 (Value.int .u32 (f : Int)).cells.toList = av (f, zeroP) := rfl;rw [e1, sa (i := 1) (off := 1) (size := 41) rfl (by simp [Value.cells, hl]) (by rw [List.size_toArray, bq ak]; omega)]
  have e2 : splice (av (f, zeroP)).toArray.toList 1 (Value.agg (a8 p).toArray).cells.toList = av (f, p) := by
   unfold splice;show (Value.int .u32 (f : Int) :: a8 zeroP).take 1 ++ a8 p ++ (Value.int .u32 (f : Int) :: a8 zeroP).drop (1 + (a8 p).length) = Value.int .u32 (f : Int) :: a8 p;rw [List.drop_of_length_le (by simp [hl, aa ak])];simp
  rw [e2]
  rfl)
 unfold execOp;simp only [ho];rw [show (Array.map (fun x : Nat × Operand => (x.1, ρ x.2)) #[(0, x), (1, y)]) = #[(0, .int .u32 (f : Int)), (1, .agg (a8 p).toArray)] by simp [hx, hy]];simp only [Sem.run_bind, hr, Result.andThen_ok, Sem.run_pure]
end
structure Bw where
 e : Nat
 s : Sh
 ns : List Pt
 ls : List Lf
def goB (f : Sh → List Pt → List Lf → Pt → Nat → Bw) (wide first fr tt : Nat) : List Pt → Nat → Sh → List Pt → List Lf → Bw
 | [], _, s, ns, ls => ⟨0, s, ns, ls⟩
 | q :: qs, i, s, ns, ls =>
  if first + i * wide + wide ≤ fr ∨ tt ≤ first + i * wide then goB f wide first fr tt qs (i + 1) s ns ls
  else if (f s ns ls q (first + i * wide)).e ≠ 0 then f s ns ls q (first + i * wide)
  else goB f wide first fr tt qs (i + 1) (f s ns ls q (first + i * wide)).s (f s ns ls q (first + i * wide)).ns (f s ns ls q (first + i * wide)).ls
def bg (fr tt : Nat) : Nat → Sh → List Pt → List Lf → Pt → Nat → Bw
 | 0, s, ns, ls, p, first => if eqP p zeroP = true then ⟨0, s, ns, ls⟩ else ⟨0, s, ns, ls ++ [(first, p)]⟩
 | n + 1, s, ns, ls, p, first =>
  if eqP p zeroP = true then ⟨0, s, ns, ls⟩
  else if rnE s p ≠ 0 then ⟨rnE s p, rnS s p, ns, ls⟩
  else goB (bg fr tt n) (8 ^ n) first fr tt (rnN s p) 0 (rnS s p) (ns ++ [p]) ls
def cB : Nat → Nat
 | 0 => 1
 | n + 1 => 1 + 8 * cB n
structure Lk (m : Nat) (s : Sh) (ns : List Pt) (ls : List Lf) : Prop where
 lim : Lim m s
 ns : ns.length ≤ m
 ls : ls.length ≤ m
theorem Lim.mono {a : Nat} {s : Sh} (h : Lim a s) (hab : a ≤ b) (hb : b < 100000000) : Lim b s := ⟨Nat.le_trans h.rd hab, Nat.le_trans h.md hab, Nat.le_trans h.gn hab, hb, h.bl, h.bd, h.rm⟩
theorem Lk.mono {a : Nat} {s : Sh} {ns : List Pt} {ls : List Lf} (h : Lk a s ns ls) (hab : a ≤ b) (hb : b < 100000000) : Lk b s ns ls := ⟨h.lim.mono hab hb, Nat.le_trans h.ns hab, Nat.le_trans h.ls hab⟩
theorem Lim.rnS {s : Sh} (h : Lim m s) (hm : m + 1 < 100000000) : Lim (m + 1) (rnS s p) := by
 unfold Go.Proofs.YtjgjohdeeeoeoaaGreatDoor.rnS;split
 ·exact h.mono (by omega) hm
 ·exact ⟨by have := h.rd; simp [rdS]; omega, Nat.le_trans h.md (by omega), Nat.le_trans h.gn (by omega), hm, h.bl, h.bd, h.rm⟩
def C5 (L : Nat → Nat) (w : World) (D Wk Bx : Nat) (md : Bool) (fr tt : Nat) (r : Bw) (m : Nat) (e : Ending) (w' : World) : Prop :=
 e = .returned (.int .i64 (r.e : Int)) ∧ WkPost L w D Wk Bx md fr tt r.s r.ns r.ls w' ∧ Lk m r.s r.ns r.ls
theorem cfL (md : Bool) (args : Array Value) (w : World) : (callFunc (if md then 74 else 91) args).run Tryz.prog w = .ok (.enter (if md then 74 else 91) args) w := by
 cases md <;> go_simp
set_option maxRecDepth 100000 in
set_option maxHeartbeats 8000000 in
theorem H9 {w : World} {L : Nat → Nat} {D Wk Bx fr tt : Nat} {md : Bool} {s : Sh} {ns : List Pt} {ls : List Lf} (p : Pt) (hp : p.OK) (first : Nat) (h : WkAt w L D Wk Bx md fr tt s ns ls) (hk : Lk m s ns ls) (hm : m + 1 < 100000000) (hf : first < 1000) :
  Calls Tryz.prog 75 #[.pointer (some ⟨Wk, 0, none⟩), .agg (a8 p).toArray, .int .u8 0, .int .u32 (first : Int)] w (C5 L w D Wk Bx md fr tt (bg fr tt 0 s ns ls p first) (m + 1)) := by
 have a5 := zH hp;have ab : Below w.heap.size w (w.alloc (.cells (a8 p).toArray 28)) := (Below.refl _ _).alloc (Nat.le_refl _) _;have HB : Hid (Blk (w.alloc (.cells (a8 p).toArray 28)) w.heap.size (a8 p) 28) := zH (Blk.new _ _ _);have H1 := zH (h.below ab);have ae : Hid (L w.heap.size = 0) := zH (by obtain ⟨v, hs⟩ := h.sh; exact hs.not (Nat.le_refl _));have HX : Hid (Lf.OK (first, p)) := zH ⟨by show first < _; omega, hp⟩;have HK := zH hk;have HM := zH hm;obtain ⟨r, hr⟩ : ∃ r, bg fr tt 0 s ns ls p first = r := ⟨_, rfl⟩
 have HR : Hid (r = if eqP p zeroP = true then ⟨0, s, ns, ls⟩ else ⟨0, s, ns, ls ++ [(first, p)]⟩) := zH (by rw [← hr]; rfl);rw [hr];generalize hPost : C5 L w D Wk Bx md fr tt r (m + 1) = Post;have HP : Hid (∀ w', WkPost L (w.alloc (.cells (a8 p).toArray 28)) D Wk Bx md fr tt r.s r.ns r.ls w' → Lk (m + 1) r.s r.ns r.ls → Post (.returned (.int .i64 (r.e : Int))) w') := zH fun w' h2 h3 => by rw [← hPost]; exact ⟨rfl, WkPost.pre h ab h2, h3⟩
 clear hp h hk hm hf ab hPost hr;go_enter Tryz.func75, Tryz.ntmps75
 go_upto_region 1 with fail
 obtain ⟨G, hG⟩ : ∃ G, w.heap.size = G := ⟨_, rfl⟩;rw [hG] at HB ae ⊢;generalize (w.alloc (.cells (a8 p).toArray 28)) = W at HB H1 HP ⊢
 go_wp2_with (first | (refine a9 rfl (ax a5.out HB.out rfl rfl) ?_) | fail)
 refine (fk p a5.out W).mono ?_;rintro e W2 ⟨rfl, a6⟩;have ad := zH (HB.out.below a6 HB.out.lt);have H2 := zH (H1.out.below a6);have af := zH a6;clear a6 HB;cases hz : eqP p zeroP
 ·rw [hz] at HR
  obtain rfl : r = ⟨0, s, ns, ls ++ [(first, p)]⟩ := HR.out;clear HR
  go_upto_region 4 with fail
  have c4 : ∀ X, WkAt X L D Wk Bx md fr tt s ns ls → X.cell? ⟨Wk, 4, none⟩ = some (Li md Bx) := fun X hX => by
   obtain ⟨nv, k1, _⟩ := hX.wk;exact k1.cell rfl
  have a7 := Na (first, p) HX.out H2.out.drew (by have := HK.out.ls; have := HM.out; omega);have aa := cfL md;have a2 : Hid (∀ X, WkPost L W2.drew D Wk Bx md fr tt s ns (ls ++ [(first, p)]) X → Post (.returned (.int .i64 ((0 : Nat) : Int))) X) := zH (fun X hX => HP.out X (WkPost.pre H1.out (af.out.trans ((Below.refl _ _).drew)) hX) ⟨HK.out.lim.mono (by omega) HM.out, by have := HK.out.ns; omega, by have := HK.out.ls; simp; omega⟩);have a3 : ∀ X, WkPost L W2.drew D Wk Bx md fr tt s ns (ls ++ [(first, p)]) X → Blk X G (a8 p) 28 := fun X ⟨L', k1, k2⟩ => k2.blk ad.out.drew ae.out
  have ah : ∀ X, WkPost L W2.drew D Wk Bx md fr tt s ns (ls ++ [(first, p)]) X → X.cell? ⟨Wk, 4, none⟩ = some (Li md Bx) := fun X ⟨L', k1, k2⟩ => by
   obtain ⟨nv, j1, _⟩ := k1.wk;exact j1.cell rfl
  obtain ⟨a1, a0⟩ : ∃ f, (if md then 74 else 91) = f := ⟨_, rfl⟩;have ag : W2.drew.cell? ⟨Wk, 4, none⟩ = some (.func (.func a1) #[] #[.pointer (some ⟨Bx, 0, none⟩)]) := (by rw [c4 _ H2.out.drew, ← a0]; rfl);have a4 : ∀ X, WkPost L W2.drew D Wk Bx md fr tt s ns (ls ++ [(first, p)]) X → X.cell? ⟨Wk, 4, none⟩ = some (.func (.func a1) #[] #[.pointer (some ⟨Bx, 0, none⟩)]) := fun X hX => by rw [ah X hX, ← a0]; rfl
  rw [a0] at a7 aa;clear c4 ah HP;refine gS (.take 0 (.take 1 (.take 2 (.take 3 (.take 4 (.take 5 (.take 6 (.step 7 (.nil))))))))) (fun X => X.cell? ⟨Wk, 4, none⟩ = some (.func (.func a1) #[] #[.pointer (some ⟨Bx, 0, none⟩)]) ∧ Blk X G (a8 p) 28) (⟨ag, ad.out.drew⟩) ?_;refine gT (.pointer (some ⟨Wk, 0, none⟩)) ?_;refine gT (.pointer (some ⟨Wk, 0, none⟩)) ?_;refine gU (.pointer (some ⟨Wk, 4, none⟩)) rfl (fun X hX => ze (by omega) rfl rfl) ?_;refine gU (.func (.func a1) #[] #[.pointer (some ⟨Bx, 0, none⟩)]) rfl (fun X hX => a0i rfl rfl hX.1) ?_;refine gT (.int .u32 (first : Int)) ?_;refine gU (.agg (a8 p).toArray) rfl (fun X hX => ax a5.out hX.2 rfl rfl) ?_;refine gU (.agg (av (first, p)).toArray) rfl (fun X hX => Kc a5.out rfl rfl rfl) ?_;refine b8 _ rfl (by rfl) a1 #[.agg (av (first, p)).toArray, .pointer (some ⟨Bx, 0, none⟩)] (fun X => by have aj := aa #[.agg (av (first, p)).toArray, .pointer (some ⟨Bx, 0, none⟩)] X; go_simp) (fun u X => u = .tuple #[] ∧ WkPost L W2.drew D Wk Bx md fr tt s ns (ls ++ [(first, p)]) X) (a7.mono fun e X ⟨e1, e2⟩ => ⟨_, e1, ⟨a4 X e2, a3 X e2⟩, rfl, e2⟩) ?_;rintro u X3 ak ⟨rfl, ai⟩;refine ⟨fun X => X.cell? ⟨Wk, 4, none⟩ = some (.func (.func a1) #[] #[.pointer (some ⟨Bx, 0, none⟩)]) ∧ Blk X G (a8 p) 28, fun _ h => h, ak, ?_⟩; try simp only [pS]
  refine au ?_;have HE := zH (a2.out _ ai);clear a2 ai a3 a4 ag a7 aa
  go_wp2_with fail
  first | exact HE.out | (go_ret; exact HE.out)
 ·rw [hz] at HR
  obtain rfl : r = ⟨0, s, ns, ls⟩ := HR.out;have HE := zH (HP.out W2 (WkPost.of_below H1.out af.out) (HK.out.mono (by omega) HM.out));clear HR HP
  go_wp2_with fail
  first | exact HE.out | (go_ret; exact HE.out)
end Go.Proofs.YtjgjohdeeeoeoaaGreatDoor
