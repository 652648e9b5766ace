/- A leaf's offset; the pointer of a leaf's new block. -/
import Derived.Test.YtjgjohdeeeoeoaaGreatDoorM26
set_option linter.all false
namespace Go.Proofs.YtjgjohdeeeoeoaaGreatDoor
open Go.RowKit
attribute [local go_sem] Oper.semAt_some
variable {ns : List Ino} {B D G a b g k off : Nat} {L : Nat → Nat} {sp : Option Addr} {s : Sh} {t : TypeId} {ov v : Value} {X Y w' : World}
theorem kn (k : Nat) (hk : k < 65536) (w : World) : Calls Tryz.prog 44 #[.int .u16 (k : Int)] w fun e w' => e = .returned (.int .u32 ((k / 4 : Nat) : Int)) ∧ w' = w := by
 generalize hPost : (fun (e : Ending) (w' : World) => e = .returned (.int .u32 ((k / 4 : Nat) : Int)) ∧ w' = w) = Post;have a0 : Hid (Post (.returned (.int .u32 ((k / 4 : Nat) : Int))) w) := zH (by rw [← hPost]; exact ⟨rfl, rfl⟩);clear hPost;have h1 : IntKind.u16.wrap ((k : Int) / 4) = ((k / 4 : Nat) : Int) := by simp only [IntKind.wrap_u16]; omega
 have h2 : IntKind.u32.wrap ((k / 4 : Nat) : Int) = ((k / 4 : Nat) : Int) := by simp only [IntKind.wrap_u32]; omega
 go_enter Tryz.func44, Tryz.ntmps44
 go_wp2_with fail
 first | exact a0.out | (simpa [h1, h2] using a0.out) | (go_ret; exact a0.out)
def fd (off : Nat) : Pt := { zeroP with kind := 4, off := off }
theorem Ap (h3 : off < 4294967296) : (fd off).OK :=
 ⟨by simp [fd], by simp [fd, zeroP], by simp [fd, zeroP], h3, by simp [fd, zeroP], by simp [fd, zeroP], by simp [fd, zeroP], fun x hx => by simp [fd, zeroP] at hx; subst hx; omega⟩
def taP (s : Sh) (ns : List Ino) (off : Nat) : Pt := if ns = zeros4 then zeroP else if du ns = false then zeroP else nwP s (fd off) (i9 ns)
def taE (s : Sh) (ns : List Ino) : Nat := if ns = zeros4 then 0 else if du ns = false then 5 else nwE s
def taS (s : Sh) (ns : List Ino) (off : Nat) : Sh := if ns = zeros4 then s else if du ns = false then s else nwS s (fd off) (i9 ns)
structure TaS (L : Nat → Nat) (w : World) (D : Nat) (ns : List Ino) (G : Nat) (s : Sh) (X : World) : Prop where
 sh : ∃ L1 v1, ShAt X L1 D s v1 ∧ Mv 5 L w L1 X ∧ L1 G = 0 ∧ L1 (G + 1) = 0
 nd : Blk X G (ai ns) 104
 res : Blk X (G + 1) (a8 zeroP) 28
 lo : w.heap.size ≤ G
theorem TaS.below {w : World} (h : TaS L w D ns G s X) (hb : Below X.heap.size X Y) : TaS L w D ns G s Y := by
 obtain ⟨⟨L1, v1, h1, h2, h3⟩, k1, k2, k4⟩ := h;exact ⟨⟨L1, v1, h1.below hb, h2.trans (Mv.of_below hb h1.lt), h3⟩, k1.below hb k1.lt, k2.below hb k2.lt, k4⟩
theorem TaS.moved {L1 : Nat → Nat} {w : World} {s' : Sh} (h : TaS L w D ns G s X) (hm : Mv 5 L w L1 X) (hl : L1 G = 0 ∧ L1 (G + 1) = 0) (hp : ShPost 5 L1 X D s' Y) : TaS L w D ns G s' Y := by
 obtain ⟨L2, v2, k1, k2⟩ := hp;exact ⟨⟨L2, v2, k1, hm.trans k2, (k2.old _ h.nd.lt).trans hl.1, (k2.old _ h.res.lt).trans hl.2⟩, k2.blk h.nd hl.1, k2.blk h.res hl.2, h.lo⟩
theorem TaS.ends {w : World} (h : TaS L w D ns G s X) (q : Pt) : ShPost 5 L w D s (X.setRow (G + 1) (a8 q).toArray) ∧ Blk (X.setRow (G + 1) (a8 q).toArray) (G + 1) (a8 q) 28 := by
 obtain ⟨⟨L1, v1, h1, h2, h3⟩, k1, k2, k4⟩ := h;have hc := tf X (G + 1) (a8 q).toArray;have hz : (X.setRow (G + 1) (a8 q).toArray).heap.size = X.heap.size := by simp
 refine ⟨⟨L1, v1, h1.out hc (fun g e _ => .inl (by rw [e]; exact h3.2)) (fun _ _ => .inl rfl) (fun g hg => by rw [hz]; exact h1.lt g hg), ?_⟩, k2.row _⟩;exact ⟨h2.chg.trans hc (fun g e => by right; have : g = G + 1 := e; omega), h2.old, h2.new⟩
def Gv (L : Nat → Nat) (w : World) (D : Nat) (s : Sh) (ns : List Ino) (off m : Nat) (e : Ending) (w' : World) : Prop :=
 e = .returned (.tuple #[.agg (a8 (taP s ns off)).toArray, .int .i64 (taE s ns : Int)]) ∧ ShPost 5 L w D (taS s ns off) w' ∧ Lim m (taS s ns off)
theorem Mh (off : Nat) : Tryz.prog.built 28 [(0, .int .u8 4), (2, .int .u16 0), (3, .int .u32 (off : Int))] = some (a8 (fd off)).toArray := by kernel_rfl
theorem Rq {ρ : Operand → Value} {o : Oper} {x y z : Operand} {w : World} (ho : o.op = .build 28 #[(0, x), (2, y), (3, z)]) (hx : ρ x = .int .u8 4) (hy : ρ y = .int .u16 0) (hz : ρ z = .int .u32 (off : Int)) :
  (execOp ρ o).run Tryz.prog w = .ok (.value (.agg (a8 (fd off)).toArray)) w := by
 have hr : (Instr.build 28 #[(0, .int .u8 4), (2, .int .u16 0), (3, .int .u32 (off : Int))]).run Tryz.prog w = .ok (.agg (a8 (fd off)).toArray) w := run_build w 28 _ _ (Mh off);unfold execOp;simp only [ho];rw [show (Array.map (fun x : Nat × Operand => (x.1, ρ x.2)) #[(0, x), (2, y), (3, z)]) = #[(0, .int .u8 4), (2, .int .u16 0), (3, .int .u32 (off : Int))] by simp [hx, hy, hz]];simp only [Sem.run_bind, hr, Result.andThen_ok, Sem.run_pure]
theorem E3 (h : BOK ns) : (i9 ns).length = 512 := by
 have := zu h (Nat.le_refl 4)
 rwa [List.take_of_length_le (by rw [h.len]; omega)] at this
set_option maxRecDepth 100000 in
set_option maxHeartbeats 8000000 in
theorem J8 {w : World} {v : Sv} {m : Nat} (ns : List Ino) (hns : BOK ns) (off : Nat) (hoff : off < 4294967296) (h : ShAt w L D s v) (hk : Lim m s) (hm : m + 1 < 100000000) :
  Calls Tryz.prog 40 #[shI D, .int .u32 (off : Int), .agg (ai ns).toArray] w (Gv L w D s ns off (m + 1)) := by
 have HA := zH hns
 have HX : Hid (∀ z, z = (a8 zeroP).toArray → TaS L w D ns w.heap.size s ((w.alloc (.cells (ai ns).toArray 104)).alloc (.cells z 28))) := zH (fun z hz => by
  subst hz;have b1 : Below w.heap.size w ((w.alloc (.cells (ai ns).toArray 104)).alloc (.cells (a8 zeroP).toArray 28)) := ((Below.refl _ _).alloc (Nat.le_refl _) _).alloc (by simp) _
  exact ⟨⟨L, v, h.below b1, Mv.of_below b1 h.lt, h.not (Nat.le_refl _), h.not (by omega)⟩, (Blk.new _ _ _).alloc _, Blk.new' _ _ _ _ _ (by simp) rfl, Nat.le_refl _⟩)
 have HK := zH hk; have HM := zH hm;have ax : Hid (fd off).OK := zH (Ap hoff);have aw := zH (bh ak);obtain ⟨rp, am⟩ : ∃ r, taP s ns off = r := ⟨_, rfl⟩;obtain ⟨re, al⟩ : ∃ r, taE s ns = r := ⟨_, rfl⟩;obtain ⟨rs, an⟩ : ∃ r, taS s ns off = r := ⟨_, rfl⟩;have a4 := zH am; have a3 := zH al; have a5 := zH an;generalize hPost : Gv L w D s ns off (m + 1) = Post;have HP : Hid (∀ w', ShPost 5 L w D rs w' → Lim (m + 1) rs → Post (.returned (.tuple #[.agg (a8 rp).toArray, .int .i64 (re : Int)])) w') := zH fun w' h2 h3 => by rw [← hPost]; unfold Gv; rw [am, al, an]; exact ⟨rfl, h2, h3⟩
 clear hns h hk hm hPost am al an hoff;unfold shI;go_enter Tryz.func40, Tryz.ntmps40
 go_upto_region 1 with fail
 refine (fun (k : ∀ W, TaS L w D ns w.heap.size s W → Code.wp _ _ _ _ W) => k _ (HX.out _ rfl)) ?_;intro W hW;obtain ⟨G, hG⟩ : ∃ g, w.heap.size = g := ⟨_, rfl⟩;rw [hG] at hW ⊢;have a1 := zH hW;clear hW HX hG;have au := zH a1.out.res;by_cases hh : ns = zeros4
 ·have a0 := zH (a1.out.ends zeroP)
  have e1 : rp = zeroP := (by rw [← a4.out]; unfold taP; rw [if_pos hh]);have e2 : re = 0 := (by rw [← a3.out]; unfold taE; rw [if_pos hh]);have e3 : rs = s := (by rw [← a5.out]; unfold taS; rw [if_pos hh]);rw [e1, e2, e3] at HP;have HE := zH (HP.out _ a0.out.1 (HK.out.mono (by omega) HM.out));have HD : Hid (decide (ns = zeros4) = true) := zH (decide_eq_true hh);clear e1 e2 e3 HP hh a4 a3 a5
  go_wp2_with (first | (refine a9 rfl (dp HA.out a1.out.nd rfl rfl) ?_) | (refine a9 rfl (ju rfl) ?_) | (refine a9 rfl ((yi HA.out zeros4_ok rfl rfl rfl).trans (by rw [HD.out])) ?_) | (refine a9 rfl (bj rfl) ?_) | (refine wpList_store_row rfl 28 (.tmp 6) (.tmp 13) rfl (G + 1) (a8 zeroP).toArray rfl rfl 28 _ au.out aw.out rfl (bb zeroP) ?_) | fail)
  refine bodyPost_ret (b9 Tryz.results40 _ _ (G + 1) 28 _ rfl a0.out.2 (bo ak)) rfl ?_;exact HE.out
 ·have HD : Hid (decide (ns = zeros4) = false) := zH (decide_eq_false hh)
  have a2 : Hid (¬ ns = zeros4) := zH hh;clear hh;obtain ⟨⟨L1, v1, h1, h2, h3⟩, -⟩ := a1.out;have ar := zH (T3 ns HA.out W h1.tab.1);have ao := zH h1.lt;have ap := zH h2; have b2 := zH h3; have av := zH h1;clear h1 h2 h3
  go_wp2_with (first | (refine a9 rfl (dp HA.out a1.out.nd rfl rfl) ?_) | (refine a9 rfl (ju rfl) ?_) | (refine a9 rfl ((yi HA.out zeros4_ok rfl rfl rfl).trans (by rw [HD.out])) ?_) | fail)
  refine ar.out.mono ?_;rintro e X3 ⟨b8, af⟩;have ae := zH (a1.out.below af);have ab := zH (av.out.below af);have a6 := zH (ap.out.trans (Mv.of_below af ao.out));have a7 := zH ae.out.res;clear af ar av ap au;rcases b8 with ⟨hok, vv, rfl, hown⟩ | ⟨hno, rfl⟩
  ·obtain ⟨sp, b7, rfl, q1, q2, q3, q4, q5⟩ := OwnB.form hown
   have aj : (i9 ns).length = 512 := E3 HA.out
   have ad := Bt (fd off) ax.out (i9 ns) sp b7 ab.out (by have := HK.out.md; have := HM.out; omega) HK.out.bl HK.out.rm (by omega) q3 q4 (fun a ha => ⟨(q5 a ha).2, .inl (by
    have h1 := (q5 a ha).1;have h2 := ao.out a.block
    omega)⟩)
   obtain ⟨bl, az⟩ : ∃ n, (i9 ns).length = n := ⟨_, rfl⟩;rw [az] at ad ⊢;have e1 : nwP s (fd off) (i9 ns) = rp := (by rw [← a4.out]; unfold taP; rw [if_neg a2.out, if_neg (by rw [hok]; decide)]);have e2 : nwE s = re := (by rw [← a3.out]; unfold taE; rw [if_neg a2.out, if_neg (by rw [hok]; decide)]);have e3 : nwS s (fd off) (i9 ns) = rs := (by rw [← a5.out]; unfold taS; rw [if_neg a2.out, if_neg (by rw [hok]; decide)]);unfold yx at ad;rw [e1, e2, e3] at ad;have aq := zH ad;have ag : Hid rp.OK := zH (by rw [← e1]; exact zz ax.out _);have b3 : Hid (Lim (m + 1) rs) := zH (by rw [← e3]; exact HK.out.nwS HM.out);clear hok hown q1 q2 q3 q4 q5 aj ad az e1 e2 e3 a1 a4 a3 a5
   go_wp2_with (first | (refine a9 rfl (Rq (off := off) rfl rfl rfl rfl) ?_) | fail)
   refine aq.out.mono ?_;rintro e X4 ⟨rfl, b0⟩;have ay := zH (ae.out.moved a6.out b2.out b0);clear b0 aq ae ab a6 a7;have b5 := zH (bh ag.out);have b4 : Hid ((a8 rp).toArray.size = 41) := zH (by rw [List.size_toArray, aa ag.out]);have b6 : Hid ((a8 zeroP).toArray.size = (a8 rp).toArray.size) := zH (by rw [b4.out, List.size_toArray, aa ak]);have ah := zH ay.out.res;have a0 := zH (ay.out.ends rp);have HE := zH (HP.out _ a0.out.1 b3.out);clear HP
   go_wp2_with (first | (refine wpList_store_row rfl 28 (.tmp 6) (.tmp 28) rfl (G + 1) (a8 rp).toArray rfl rfl 28 _ ah.out b5.out b6.out (bb rp) ?_) | fail)
   refine bodyPost_ret (b9 Tryz.results40 _ _ (G + 1) 28 _ rfl a0.out.2 (bo ag.out)) rfl ?_;exact HE.out
  ·have a0 := zH (ae.out.ends zeroP)
   have e1 : rp = zeroP := (by rw [← a4.out]; unfold taP; rw [if_neg a2.out, if_pos hno]);have e2 : re = 5 := (by rw [← a3.out]; unfold taE; rw [if_neg a2.out, if_pos hno]);have e3 : rs = s := (by rw [← a5.out]; unfold taS; rw [if_neg a2.out, if_pos hno]);rw [e1, e2, e3] at HP;have HE := zH (HP.out _ a0.out.1 (HK.out.mono (by omega) HM.out));clear e1 e2 e3 HP hno a4 a3 a5
   go_wp2_with (first | (refine a9 rfl (bj rfl) ?_) | (refine wpList_store_row rfl 28 (.tmp 6) (.tmp 21) rfl (G + 1) (a8 zeroP).toArray rfl rfl 28 _ a7.out aw.out rfl (bb zeroP) ?_) | fail)
   refine bodyPost_ret (b9 Tryz.results40 _ _ (G + 1) 28 _ rfl a0.out.2 (bo ak)) rfl ?_;exact HE.out
theorem tq (p : Ino) : ∀ u ∈ af p, u.oneCell' = true := fun u hu => by
 have := fj p;rw [Array.all_eq_true'] at this;exact this u (by simpa using hu)
abbrev Itm := Nat × Ino
def tcI (x : Itm) : List Value := .int .u16 (x.1 : Int) :: af x.2
def Itm.OK (x : Itm) : Prop := x.1 < 65536 ∧ x.2.OK
theorem bw {x : Itm} (h : x.2.OK) : (tcI x).length = 45 := by simp [tcI, am h]
def trI (l : List Itm) : List Value := l.flatMap tcI
theorem Vr (l : List Itm) (x : Itm) : trI (l ++ [x]) = trI l ++ tcI x := by simp [trI]
abbrev OwnT (w : World) (B : Nat) (v : Value) (l : List Itm) : Prop := w.ownsRow B 76 45 v l.length (trI l)
theorem a0v : (Tryz.prog.info? 76).map (fun i => (i.zero.map (·.cells.size), i.size, i.bytes)) = some (some 45, 45, 72) := by kernel_rfl
theorem kg : ∃ i z, Tryz.prog.info? 76 = some i ∧ i.zero = some z ∧ z.cells.size = 45 ∧ i.size = 45 ∧ i.bytes = 72 := by
 obtain ⟨i, h1, h2⟩ := Option.map_eq_some_iff.1 a0v;simp only [Prod.mk.injEq] at h2;obtain ⟨z, hz, a0⟩ := Option.map_eq_some_iff.1 h2.1;exact ⟨i, z, h1, hz, a0, h2.2.1, h2.2.2⟩
theorem wv : (Tryz.prog.info? 76).map (·.size) = some 45 := by kernel_rfl
theorem Da (x : Itm) : ∀ u ∈ tcI x, u.oneCell' = true := fun u hu => by
 simp only [tcI, List.mem_cons] at hu;rcases hu with rfl | hu
 ·rfl
 ·exact tq x.2 u hu
theorem Fj {w : World} {l : List Itm} (h : OwnT w B v l) (hB : B ≤ w.heap.size) (hl : l.length < 100000000) {x : Itm} (hx : x.2.OK) (hg : Blk w g (tcI x) t) (ty : TypeId) :
  ∃ v' w', (Builtin.append_ #[55, 55] ty #[v, .slice (some ⟨g, 0, none⟩) 1 1]).run Tryz.prog w = .ok v' w' ∧ OwnT w' B v' (l ++ [x]) ∧ w.grownBy w' v.ownBlock ∧ (v'.ownBlock = v.ownBlock ∨ v'.ownBlock = some w.heap.size) := by
 obtain ⟨i0, z, hi, a0, a1, a2, a3⟩ := kg
 obtain ⟨v', w', hr, h2, h3, _, h5⟩ := run_append_own_at (P := Tryz.prog) w B 55 ty 76 i0 z 45 72 Tryz.underlying55 hi a0 a2 a3 a1 (by decide) v l.length (trI l) h ⟨g, 0, none⟩ 1 1 (tcI x) (by rw [bw hx]) (fun j y hj => by
  rw [Addr.add_mid, Nat.zero_add]
  exact hg.cell hj) (Da x) (by unfold maxLen; omega) (by omega) hB
 refine ⟨v', w', hr, ?_, h3, h5⟩;unfold OwnT;rw [Vr, List.length_append];exact h2
section
variable {ρ : Operand → Value} {o : Oper} {x y : Operand} {w : World}
theorem Ei {l : Itm} (hl : l.2.OK) (ho : o.op = .buildSlice 55 1 #[(0, x)]) (hx : ρ x = .agg (tcI l).toArray) :
  (execOp ρ o).run Tryz.prog w = .ok (.value (.slice (some ⟨w.heap.size, 0, none⟩) 1 1)) (w.alloc (.cells (tcI l).toArray 76)) := by
 obtain ⟨i, z, hi, hz, a1, a0, _⟩ := kg
 have hr := run_buildSlice (P := Tryz.prog) w 55 76 1 #[(0, .agg (tcI l).toArray)] (tcI l).toArray i z Tryz.underlying55 hi hz (by rw [a0]; omega) (by rw [a0]; omega)
  (ol (size := 45) (by simp [a0]) (by simp [Value.cells, bw hl]) (by simp [a0]))
 unfold execOp;simp only [ho];rw [show (Array.map (fun x : Nat × Operand => (x.1, ρ x.2)) #[(0, x)]) = #[(0, .agg (tcI l).toArray)] by simp [hx]];simp only [Sem.run_bind, hr, Result.andThen_ok];rfl
theorem zb {u v' : Value} {w : World} (ho : o.op = .call { callee := .builtin .append, args := #[x, y], argTypes := #[55, 55] }) (hx : ρ x = v) (hy : ρ y = u)
  (hr : (Builtin.append_ #[55, 55] o.type #[v, u]).run Tryz.prog w = .ok v' w') : (execOp ρ o).run Tryz.prog w = .ok (.value v') w' := by
 unfold execOp;simp only [ho, resolve, invoke, builtin, Sem.run_bind, Sem.run_pure, Result.andThen_ok, List.map_toArray, List.map_cons, List.map_nil, hx, hy, hr]
end
def SrcT (w : World) (sp : Option Addr) (l : List Itm) : Prop :=
 0 < l.length → ∃ g o, sp = some ⟨g, o, none⟩ ∧ g < w.heap.size ∧ ∀ i x, l[i]? = some x → w.rangeAt g (o + i * 45) (tcI x)
theorem SrcT.chg {F : Nat → Prop} {w : World} {l : List Itm} (h : SrcT w sp l) (hc : Chg F w w') (hn : ∀ a, sp = some a → ¬ F a.block) : SrcT w' sp l := fun h0 => by
 obtain ⟨g, o, e, hg, hr⟩ := h h0;refine ⟨g, o, e, Nat.lt_of_lt_of_le hg hc.size, fun i x hx j v hv => ?_⟩;rw [World.cell?_of_block (w := w) (a := ⟨g, o + i * 45 + j, none⟩) (hc.block g hg (hn _ e))];exact hr i x hx j v hv
theorem SrcT.grown {w : World} {l : List Itm} (h : SrcT w sp l) (hb : Below w.heap.size w w') : SrcT w' sp l := h.chg (F := fun _ => False) (Chg.of_below hb) (fun _ _ h => h)
theorem SrcT.drew {w : World} {l : List Itm} (h : SrcT w sp l) : SrcT w.drew sp l := h.grown (Below.refl _ _).drew
theorem Ch : Tryz.prog.underlying 55 = some (.slice (Tryz.prog.elem 55)) := by kernel_rfl
theorem K7 : Tryz.prog.elem 55 = 76 := by kernel_rfl
theorem G4 (W : World) : (sizeOf 76).run Tryz.prog W = .ok 45 W := by
 obtain ⟨i, z, h1, h2, h3, h4, h5⟩ := kg;simp [sizeOf, typeInfo, h1, h4]
section
variable {ρ : Operand → Value} {o : Oper} {x y : Operand} {w : World}
theorem uc {o' n cap : Nat} (ho : o.op = .indexAddr 55 x y) (hx : ρ x = .slice (some ⟨g, o', none⟩) n cap) (hy : ρ y = .int .i64 (k : Int)) (hk : k < n ∧ n ≤ cap) :
  (execOp ρ o).run Tryz.prog w = .ok (.value (.pointer (some ⟨g, o' + k * 45, none⟩))) w := by
 have h1 : ¬ n ≤ k := by omega
 unfold execOp;simp only [ho];go_simp
end
theorem Ft {w : World} {o : Nat} {x : Itm} (h : w.rangeAt g o (tcI x)) : w.cell? ⟨g, o, none⟩ = some (.int .u16 (x.1 : Int)) := by
 have := h 0 (.int .u16 (x.1 : Int)) rfl;rw [Nat.add_zero] at this;exact this
def wth (ns : List Ino) (l : List Itm) : List Ino := l.foldl (fun a x => a.set (x.1 % 4) x.2) ns
theorem Vz (ns : List Ino) (l : List Itm) (x : Itm) : wth ns (l ++ [x]) = (wth ns l).set (x.1 % 4) x.2 := by simp [wth]
theorem Jm : ∀ (l : List Itm) {ns : List Ino}, BOK ns → (∀ x ∈ l, Itm.OK x) → BOK (wth ns l)
 | [], _, h, _ => h
 | x :: l, ns, h, hl => Jm l (h.set _ (hl x (List.mem_cons_self ..)).2) (fun y hy => hl y (List.mem_cons_of_mem _ hy))
theorem su {w : World} {x : Itm} (h : Blk w g (tcI x) t) : w.rangeAt g 1 (af x.2) := h.range _ _ fun j v hv => by
 rw [Nat.add_comm];exact hv
theorem U1 (x : Itm) : (tcI x).toArray.all (·.oneCell') = true := by
 rw [Array.all_eq_true_iff_forall_mem];intro v hv;exact Da x v (by simpa using hv)
theorem SrcT.at {w : World} {o : Nat} {l : List Itm} (h : SrcT w (some ⟨g, o, none⟩) l) {i : Nat} {x : Itm} (hx : l[i]? = some x) : w.rangeAt g (o + i * 45) (tcI x) := by
 obtain ⟨g', o', e, _, hr⟩ := h (by have := (List.getElem?_eq_some_iff.1 hx).1; omega);injection e with e
 injection e with e1 e2 _
 rw [e1, e2];exact hr i x hx
theorem SrcT.form {w : World} {l : List Itm} (h : SrcT w sp l) (h0 : 0 < l.length) : ∃ g o, sp = some ⟨g, o, none⟩ ∧ g < w.heap.size := by
 obtain ⟨g, o, e, hg, _⟩ := h h0;exact ⟨g, o, e, hg⟩
section
variable {ρ : Operand → Value} {o : Oper} {x y : Operand} {w : World}
theorem Kq (ho : o.op = .binOp .rem 23 x y t) (hx : ρ x = .int .u16 (a : Int)) (hy : ρ y = .int .u16 4) : (execOp ρ o).run Tryz.prog w = .ok (.value (.int .u16 ((a % 4 : Nat) : Int))) w := by
 have e : (a : Int).tmod 4 = (a : Int) % 4 := Int.tmod_eq_emod_of_nonneg (by omega);unfold execOp;simp only [ho];go_simp
theorem Ki (hk : k < 4) (ho : o.op = .indexAddr 104 x y) (hx : ρ x = .pointer (some ⟨b, 0, none⟩)) (hy : ρ y = .int .u16 (k : Int)) : (execOp ρ o).run Tryz.prog w = .ok (.value (.pointer (some ⟨b, k * 44, none⟩))) w := by
 have h1 : ¬ (4 : Int) ≤ (k : Int) := by omega
 have h2 : (k : Int) < 4 := by omega
 unfold execOp;simp only [ho];go_simp
end
set_option maxRecDepth 100000 in
set_option maxHeartbeats 8000000 in
theorem Ja (ns : List Ino) (h : BOK ns) (l : List Itm) (hok : ∀ x ∈ l, Itm.OK x) (sp : Option Addr) (cap : Nat) (hc : l.length ≤ cap) (hl : l.length ≤ 100000) (w : World) (hS : SrcT w sp l) : Calls Tryz.prog 39 #[.agg (ai ns).toArray, .slice sp l.length cap] w fun e w' => e = .returned (.agg (ai (wth ns l)).toArray) ∧ Below w.heap.size w w' := by
 have HP := zH h; have aj := zH hok; have HS := zH hS
 have HX : Hid (∀ z, z = (ai zeros4).toArray → AlW ns w ((w.alloc (.cells (ai ns).toArray 104)).alloc (.cells z 104))) := zH (fun z hz => by
  subst hz
  exact ⟨(Blk.new _ _ _).alloc _, Blk.new' _ _ _ _ _ (by simp) rfl, ((Below.refl _ _).alloc (Nat.le_refl _) _).alloc (by simp) _⟩)
 obtain ⟨N, hN⟩ : ∃ N, l.length = N := ⟨_, rfl⟩;rw [hN] at hc hl ⊢;have HN := zH hN; have HC := zH hc; have HL := zH hl;have a4 : Hid (∀ k, BOK (wth ns (l.take k))) := zH fun k => Jm _ h (fun x hx => hok x (List.mem_of_mem_take hx))
 clear h hok hS hN hc hl;go_enter Tryz.func39, Tryz.ntmps39
 go_upto_region 1 with fail
 refine (fun (k : ∀ W, AlW ns w W → Code.wp _ _ _ _ W) => k _ (HX.out _ rfl)) ?_;intro W hW;have HW := zH hW;clear hW HX
 go_wp2_with fail
 go_loopw [9] (fun i wr => ∃ k : Nat, k ≤ N ∧ i = .int .i64 (k : Int) ∧ AlW (wth ns (l.take k)) w wr) (fun i _ => N - (intOf i).toNat)
 case atStart => exact ⟨0, by omega, rfl, by rw [List.take_zero]; exact HW.out⟩
 case round =>
  clear HW;obtain ⟨k, hk, rfl, hW⟩ := hrel;have HW := zH hW;have au := IntWalk.i64_in ((k : Int) + 1) (by have := HL.out; omega);clear hW;by_cases hlt : k < N
  ·obtain ⟨x, hx⟩ : ∃ x, l[k]? = some x := ⟨_, List.getElem?_eq_getElem (by have := HN.out; omega)⟩
   have aa := zH (HS.out.grown HW.out.b);obtain ⟨g, o', rfl, hg⟩ := HS.out.form (by have := HN.out; omega);have a2 : Hid (Itm.OK x) := zH (aj.out x (List.mem_of_getElem? hx));have a3 : Hid ((Tryz.prog.info? 76).map (·.size) = some (tcI x).toArray.size) := zH (by rw [List.size_toArray, bw a2.out.2]; exact wv);have ah : Hid ((tcI x).toArray.size = 45) := zH (by rw [List.size_toArray, bw a2.out.2]);have a8 := zH (aa.out.at hx);have HX := zH hx;have aq : ¬ N ≤ k := (by omega);have ap : N ≤ cap := HC.out;clear hx hg aa
   go_upto_region 4 with (first | (refine a9 rfl (c6 (ty := 76) (cs := tcI x) rfl rfl a8.out Tryz.underlying76 rfl (by rw [wv, bw a2.out.2])) ?_) | (refine wpList_store_row rfl 76 (.tmp 6) (.tmp 12) rfl wr.heap.size (tcI x).toArray rfl rfl 76 _ (heap_alloc_new wr _) a3.out (by rw [ah.out]; rfl) (U1 x) ?_) | fail)
   refine (fun (k : ∀ W, Blk W wr.heap.size (tcI x) 76 → Below wr.heap.size wr W → Code.wp _ _ _ _ W) => k _ (ar wr _ (tcI x) 76).1 (ar wr _ (tcI x) 76).2) ?_;intro W5 hx5 hb5;obtain ⟨B, hB⟩ : ∃ B, wr.heap.size = B := ⟨_, rfl⟩;have ae := zH (HW.out.grown hb5);rw [hB] at hx5 ⊢;have a7 := zH (su hx5);have c0 := hx5.cell (j := 0) rfl;obtain ⟨xo, a5⟩ : ∃ n, x.1 = n := ⟨_, rfl⟩;obtain ⟨q, hq⟩ : ∃ n, x.2 = n := ⟨_, rfl⟩;have a1 : Hid q.OK := zH (by rw [← hq]; exact a2.out.2);rw [hq] at a7;have a6 := zH (ae.out.put (a4.out k) (k := xo % 4) (by omega) a1.out);have ad : Hid ((wth ns (l.take k)).set (xo % 4) q = wth ns (l.take (k + 1))) := zH (by rw [List.take_add_one, HX.out, Option.toList_some, Vz, a5, hq]);rw [ad.out] at a6;rw [a5] at c0;have an : Hid (W5.there w.heap.size (xo % 4 * 44) (af q).toArray.size) := zH (ae.out.a.there _ _ (by rw [List.size_toArray, am a1.out, (a4.out k).cells]; omega));have al := zH (fb a1.out);have ao : Hid (xo % 4 < 4) := zH (by omega);clear hx5 hb5 hB HW a8 a5 hq ad
   go_wp2_with (first | (refine a9 rfl (Kq rfl rfl rfl) ?_) | (refine a9 rfl (c6 (ty := 68) (cs := af q) rfl rfl a7.out Tryz.underlying68 rfl (by rw [mw, am a1.out])) ?_) | (refine a9 rfl (Ki ao.out rfl rfl rfl) ?_) | (refine wpList_store_mid rfl 68 (.tmp 18) (.tmp 17) rfl w.heap.size (xo % 4 * 44) (af q).toArray rfl rfl an.out al.out (fj q) ?_) | fail)
   go_roundw
   case rel => exact ⟨k + 1, by omega, by go_num, a6.out⟩
   case measure => simp [intOf]; omega
  ·obtain rfl : k = N := by omega
   have a0 := zH (a4.out k);have ag : l.take k = l := List.take_of_length_le (by have := HN.out; omega);rw [ag] at HW a0;have ab := zH (fa a0.out);have a3 : Hid ((ai zeros4).toArray.size = (ai (wth ns l)).toArray.size) := zH (by rw [zeros4_ok.size, a0.out.size]);have ak := zH (cn (wth ns l));clear hlt hk ag
   go_wp2_with (first | (refine a9 rfl (dp a0.out HW.out.a rfl rfl) ?_) | (refine wpList_store_row rfl 104 (.tmp 4) (.tmp 20) rfl (w.heap.size + 1) (ai (wth ns l)).toArray rfl rfl 104 _ HW.out.r ab.out a3.out ak.out ?_) | fail)
   exact bodyPost_ret (results_cell_row Tryz.results39 _ _ (w.heap.size + 1) 104 _ _ _ rfl (HW.out.r.row _) Tryz.underlying104 rfl ab.out) rfl ⟨rfl, cz HW.out.b (by omega) _⟩
def D4 (off k : Nat) (n : Ino) : List Itm := if df (off * 4 + k) = true ∧ eqI n zeroI = false then [(off * 4 + k, n)] else []
def j9 (off : Nat) (ns : List Ino) (k : Nat) : List Itm := (List.range k).flatMap fun j => D4 off j (ns.getD j zeroI)
theorem Bi (off : Nat) (ns : List Ino) (k : Nat) : j9 off ns (k + 1) = j9 off ns k ++ D4 off k (ns.getD k zeroI) := by simp [j9, List.range_succ]
theorem T5 (off k : Nat) (n : Ino) : (D4 off k n).length ≤ 1 := by unfold D4; split <;> simp
theorem uj (off : Nat) (ns : List Ino) : ∀ k, (j9 off ns k).length ≤ k
 | 0 => by simp [j9]
 | k + 1 => by rw [Bi, List.length_append]; have := uj off ns k; have := T5 off k (ns.getD k zeroI); omega
structure TiS (w : World) (ns : List Ino) (ov : Value) (ls : List Itm) (X : World) : Prop where
 bel : Below w.heap.size w X
 box : Blk X w.heap.size (ai ns) 104
 out : OwnT X (w.heap.size + 1) ov ls
theorem TiS.below {w : World} {ls : List Itm} (h : TiS w ns ov ls X) (hb : Below X.heap.size X Y) : TiS w ns ov ls Y :=
 ⟨h.bel.trans (hb.mono h.bel.size), h.box.below hb h.box.lt, bc h.out (Chg.of_below (F := fun _ => False) hb) (fun _ _ h => h)⟩
theorem TiS.app {w : World} {ls : List Itm} (h : TiS w ns ov ls X) {x : Itm} (hx : x.2.OK) (hl : ls.length < 100000000) (hb : Below X.heap.size X Y) (hg : Blk Y g (tcI x) t) (ty : TypeId) :
  ∃ v' w', (Builtin.append_ #[55, 55] ty #[ov, .slice (some ⟨g, 0, none⟩) 1 1]).run Tryz.prog Y = .ok v' w' ∧ TiS w ns v' (ls ++ [x]) w' := by
 have h' := h.below hb;have a1 := h'.box.lt;obtain ⟨v', w', hr, ho, a0, _⟩ := Fj h'.out (by omega) hl hx hg ty;refine ⟨v', w', hr, ?_, ?_, ho⟩
 ·refine ⟨a0.os.trans h'.bel.os, a0.tape.trans h'.bel.tape, a0.output.trans h'.bel.output, Nat.le_trans h'.bel.size a0.size, fun k hk => ?_⟩
  rw [a0.block k (Nat.lt_of_lt_of_le hk h'.bel.size) (fun e => by have := (h'.out.lt k e.symm).1; omega)];exact h'.bel.block k hk
 ·unfold Blk
  rw [a0.block _ a1 (fun e => by have := (h'.out.lt _ e.symm).1; omega)];exact h'.box
theorem Pj {B' : Nat} {l : List Itm} (h : OwnT X B v l) (hB : B' ≤ B) : OwnT X B' v l := by
 obtain ⟨h1, h2⟩ := h;refine ⟨h1, ?_⟩;rcases h2 with h2 | ⟨g, cap, cur, e, hb, h3⟩
 ·exact .inl h2
 ·exact .inr ⟨g, cap, cur, e, by omega, h3⟩
theorem Wn (parts : List (Nat × Value)) : Tryz.prog.built 76 parts = Instr.fill ((#[(0, 1), (1, 44)] : Array (Nat × Nat))[·]?) (tcI (0, zeroI)).toArray parts := by kernel_rfl
section
variable {ρ : Operand → Value} {o : Oper} {x y : Operand} {w : World}
theorem n8 {f : Nat} {p : Ino} (hp : p.OK) (ho : o.op = .build 76 #[(0, x), (1, y)]) (hx : ρ x = .int .u16 (f : Int)) (hy : ρ y = .agg (af p).toArray) : (execOp ρ o).run Tryz.prog w = .ok (.value (.agg (tcI (f, p)).toArray)) w := by
 have hl := am hp;have hz : (tcI (0, zeroI)).toArray.size = 45 := by rw [List.size_toArray]; exact bw zeroI_ok
 have hr : (Instr.build 76 #[(0, .int .u16 (f : Int)), (1, .agg (af p).toArray)]).run Tryz.prog w = .ok (.agg (tcI (f, p)).toArray) w := run_build w 76 _ _ (by
  rw [Wn];show Instr.fill _ _ [(0, .int .u16 (f : Int)), (1, .agg (af p).toArray)] = _;rw [sa (i := 0) (off := 0) (size := 1) rfl rfl (by rw [hz]; omega)];have e1 : splice (tcI (0, zeroI)).toArray.toList 0 (Value.int .u16 (f : Int)).cells.toList = tcI (f, zeroI) := rfl;rw [e1, sa (i := 1) (off := 1) (size := 44) rfl (by simp [Value.cells, hl]) (by rw [List.size_toArray, bw zeroI_ok]; omega)]
  have e2 : splice (tcI (f, zeroI)).toArray.toList 1 (Value.agg (af p).toArray).cells.toList = tcI (f, p) := by
   unfold splice;show (Value.int .u16 (f : Int) :: af zeroI).take 1 ++ af p ++ (Value.int .u16 (f : Int) :: af zeroI).drop (1 + (af p).length) = Value.int .u16 (f : Int) :: af p;rw [List.drop_of_length_le (by simp [hl, am zeroI_ok])];simp
  rw [e2]
  rfl)
 unfold execOp;simp only [ho];rw [show (Array.map (fun x : Nat × Operand => (x.1, ρ x.2)) #[(0, x), (1, y)]) = #[(0, .int .u16 (f : Int)), (1, .agg (af p).toArray)] by simp [hx, hy]];simp only [Sem.run_bind, hr, Result.andThen_ok, Sem.run_pure]
theorem Rr (ha : a < 65536) (ho : o.op = .convert 24 23 x) (hx : ρ x = .int .u32 (a : Int)) : (execOp ρ o).run Tryz.prog w = .ok (.value (.int .u16 (a : Int))) w := by
 have h : IntKind.u16.wrap (a : Int) = (a : Int) := by simp only [IntKind.wrap_u16]; omega
 unfold execOp;simp only [ho];go_simp
theorem Ru (ha : a < 65536) (ho : o.op = .convert 3 23 x) (hx : ρ x = .int .i64 (a : Int)) : (execOp ρ o).run Tryz.prog w = .ok (.value (.int .u16 (a : Int))) w := by
 have h : IntKind.u16.wrap (a : Int) = (a : Int) := by simp only [IntKind.wrap_u16]; omega
 unfold execOp;simp only [ho];go_simp
theorem Xm (ha : a * 4 < 65536) (ho : o.op = .binOp .mul 23 x y t) (hx : ρ x = .int .u16 (a : Int)) (hy : ρ y = .int .u16 4) : (execOp ρ o).run Tryz.prog w = .ok (.value (.int .u16 ((a * 4 : Nat) : Int))) w := by
 have h : IntKind.u16.wrap ((a : Int) * 4) = ((a * 4 : Nat) : Int) := by simp only [IntKind.wrap_u16]; omega
 unfold execOp;simp only [ho];go_simp
theorem Wu (ha : a + b < 65536) (ho : o.op = .binOp .add 23 x y t) (hx : ρ x = .int .u16 (a : Int)) (hy : ρ y = .int .u16 (b : Int)) : (execOp ρ o).run Tryz.prog w = .ok (.value (.int .u16 ((a + b : Nat) : Int))) w := by
 have h : IntKind.u16.wrap ((a : Int) + (b : Int)) = ((a + b : Nat) : Int) := by simp only [IntKind.wrap_u16]; omega
 unfold execOp;simp only [ho];go_simp
end
def Qm (w : World) (off : Nat) (ns : List Ino) (e : Ending) (Y : World) : Prop := ∃ ov, e = .returned ov ∧ Below w.heap.size w Y ∧ OwnT Y w.heap.size ov (j9 off ns 4)
set_option maxRecDepth 100000 in
set_option maxHeartbeats 8000000 in
theorem Gd (off : Nat) (hoff : off < 16000) (ns : List Ino) (h : BOK ns) (w : World) : Calls Tryz.prog 47 #[.int .u32 (off : Int), .agg (ai ns).toArray] w (Qm w off ns) := by
 have HP := zH h; have a7 := zH hoff;have HX : Hid (TiS w ns (.slice none 0 0) [] (w.alloc (.cells (ai ns).toArray 104))) := zH ⟨(Below.refl _ _).alloc (Nat.le_refl _) _, Blk.new _ _ _, ⟨rfl, .inl ⟨rfl, rfl⟩⟩⟩;generalize hPost : Qm w off ns = Post;have al : Hid (∀ v Y, TiS w ns v (j9 off ns 4) Y → Post (.returned v) Y) := zH fun v Y hs => by rw [← hPost]; exact ⟨v, rfl, hs.bel, Pj hs.out (by omega)⟩
 clear h hoff hPost;go_enter Tryz.func47, Tryz.ntmps47
 go_upto_region 1 with fail
 refine (fun (k : ∀ W, TiS w ns (.slice none 0 0) [] W → Code.wp _ _ _ _ W) => k _ HX.out) ?_;intro W hW;have HW := zH hW;clear hW HX
 go_wp2_with (first | (refine a9 rfl (dp HP.out HW.out.box rfl rfl) ?_) | fail)
 go_loopw [5, 10] (fun v i wr => ∃ k : Nat, k ≤ 4 ∧ i = .int .i64 (k : Int) ∧ TiS w ns v (j9 off ns k) wr) (fun _ i _ => 4 - (intOf i).toNat)
 case atStart => exact ⟨0, by omega, rfl, HW.out⟩
 case round =>
  clear HW;obtain ⟨k, hk, rfl, hW⟩ := hrel;have HW := zH hW;have av := IntWalk.i64_in ((k : Int) + 1) (by omega);clear hW;by_cases hlt : k < 4
  ·obtain ⟨n, hn⟩ := HP.out.get hlt
   have au : ∀ W : World, (Instr.index 104 (.agg (ai ns).toArray) (.int .i64 (k : Int))).run Tryz.prog W = .ok (.agg (af n).toArray) W := fun W => Dh Tryz.underlying104 HP.out hn W
   have a1 := zH (HP.out.at hn);have ap := zH (fb a1.out);have ak : Hid ((af n).toArray.size = 44) := zH (by rw [List.size_toArray, am a1.out]);have ab : Hid (j9 off ns (k + 1) = j9 off ns k ++ D4 off k n) := zH (by rw [Bi, List.getD_eq_getElem?_getD, hn]; rfl);have aj : Hid ((j9 off ns k).length < 100000000) := zH (by have := uj off ns k; omega);clear hn
   go_upto_region 5 with (first | (refine wpList_store_row rfl 68 (.tmp 7) (.tmp 13) rfl wr.heap.size (af n).toArray rfl rfl 68 _ (heap_alloc_new wr _) ap.out (by rw [ak.out]; rfl) (fj n) ?_) | fail)
   refine (fun (k : ∀ W, Blk W wr.heap.size (af n) 68 → Below wr.heap.size wr W → Code.wp _ _ _ _ W) => k _ (ar wr _ (af n) 68).1 (ar wr _ (af n) 68).2) ?_;intro W5 hx5 hb5;obtain ⟨g4, ae⟩ : ∃ g, wr.heap.size = g := ⟨_, rfl⟩;have a5 := zH (HW.out.below hb5);rw [ae] at hx5 ⊢;have ad := zH hx5;clear hx5 hb5 ae HW;obtain ⟨a0, a3⟩ : ∃ m, off * 4 + k = m := ⟨_, rfl⟩;have aa : Hid (a0 < 65536) := zH (by have := a7.out; omega);have a8 := zH a3;have a2 := zH hlt;have a4 : Hid (j9 off ns (k + 1) = j9 off ns k ++ (if df a0 = true ∧ eqI n zeroI = false then [(a0, n)] else [])) := zH (by rw [ab.out]; unfold D4; rw [a3]);clear a3 hlt ab
   go_wp2_with (first | (refine a9 rfl (Rr (by have := a7.out; omega) rfl rfl) ?_) | (refine a9 rfl (Xm (a := off) (by have := a7.out; omega) rfl rfl rfl) ?_) | (refine a9 rfl (Ru (by have := a2.out; omega) rfl rfl) ?_) | (refine a9 rfl ((Wu (a := off * 4) (b := k) (by have := aa.out; have := a8.out; omega) rfl rfl rfl).trans (by rw [a8.out])) ?_) | fail)
   refine (xk a0 aa.out W5).mono ?_;rintro e w6 ⟨rfl, rfl⟩;cases hm : df a0
   ·have a6 : Hid (j9 off ns (k + 1) = j9 off ns k) := zH (by rw [a4.out, hm, if_neg (by simp), List.append_nil])
    clear hm
    go_wp2_with fail
    go_roundw
    case rel => exact ⟨k + 1, by have := a2.out; omega, by go_num, by rw [a6.out]; exact a5.out⟩
    case measure => simp [intOf]; have := a2.out; omega
   ·cases hz : eqI n zeroI
    ·obtain ⟨v5, w5, ag, ah⟩ := a5.out.app (x := (a0, n)) a1.out aj.out ((Below.refl _ _).alloc (Nat.le_refl _) (.cells (tcI (a0, n)).toArray 76)) (Blk.new w6 (tcI (a0, n)) 76) 55
     have HZ := zH hz;have an := zH ag;have ao : Hid (TiS w ns v5 (j9 off ns (k + 1)) w5) := zH (by rw [a4.out, hm, if_pos ⟨rfl, hz⟩]; exact ah);clear hm hz ag ah a4 a5
     go_wp2_with (first | (refine aq (by rfl) (et a1.out ad.out rfl rfl) ?_) | (refine aq (by rfl) (lc rfl) ?_) | (refine aq (by rfl) ((Cr a1.out zeroI_ok rfl rfl rfl).trans (by rw [HZ.out])) ?_) | (refine a9 rfl (n8 (f := a0) a1.out rfl rfl rfl) ?_) | (refine a9 rfl (Ei (l := (a0, n)) a1.out rfl rfl) ?_) | (at_builtin; refine a9 rfl (zb rfl rfl rfl an.out) ?_) | fail)
     go_roundw
     case rel => exact ⟨k + 1, by have := a2.out; omega, by go_num, ao.out⟩
     case measure => simp [intOf]; have := a2.out; omega
    ·have HZ := zH hz
     have a6 : Hid (j9 off ns (k + 1) = j9 off ns k) := zH (by rw [a4.out, hz, if_neg (by simp), List.append_nil]);clear hm hz a4
     go_wp2_with (first | (refine aq (by rfl) (et a1.out ad.out rfl rfl) ?_) | (refine aq (by rfl) (lc rfl) ?_) | (refine aq (by rfl) ((Cr a1.out zeroI_ok rfl rfl rfl).trans (by rw [HZ.out])) ?_) | fail)
     go_roundw
     case rel => exact ⟨k + 1, by have := a2.out; omega, by go_num, by rw [a6.out]; exact a5.out⟩
     case measure => simp [intOf]; have := a2.out; omega
  ·obtain rfl : k = 4 := by omega
   have HE := zH (al.out _ _ HW.out);rw [show ((4 : Nat) : Int) = (4 : Int) from rfl];clear hlt hk HW
   go_wp2_with fail
   first | exact HE.out | (go_ret; exact HE.out)
end Go.Proofs.YtjgjohdeeeoeoaaGreatDoor
