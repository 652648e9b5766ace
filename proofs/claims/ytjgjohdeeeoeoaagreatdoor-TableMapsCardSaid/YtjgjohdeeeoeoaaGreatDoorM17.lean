/- The tree's Get. -/
import Derived.Test.YtjgjohdeeeoeoaaGreatDoorM16
namespace Go.Proofs.YtjgjohdeeeoeoaaGreatDoor
open Go.RowKit
attribute [local go_sem] Oper.semAt_some
variable {md : Bool} {Bx D G Wk fr m tt : Nat} {L L' : Nat → Nat} {p : Pt} {s s1 : Sh} {v : Sv} {W X Y w' : World}
def Lo (L : Nat → Nat) : Prop := ∀ g, L g ≤ 5 ∨ L g = 10
theorem Lo.mv {w : World} (h : Lo L) (m : Mv 5 L w L' w') : Lo L' := fun g => by
 by_cases hg : g < w.heap.size
 ·rw [m.old g hg]; exact h g
 ·exact m.new g (by omega)
def upd (L : Nat → Nat) (b j : Nat) : Nat → Nat := fun g => if g = b then j else L g
theorem C6 (L : Nat → Nat) (b j : Nat) : upd L b j b = j := if_pos rfl
theorem o8 {b j g : Nat} (h : g ≠ b) : upd L b j g = L g := if_neg h
theorem ShAt.erase {w : World} (hlo : Lo L) (h : ShAt w' L' D s v) (m : Mv 9 L w L' w') : ShPost 5 L w D s w' := by
 have a0 : ∀ g, g < w.heap.size → (if 6 ≤ L' g ∧ L' g ≤ 9 then 0 else L' g) = L g := fun g hg => by
  have := hlo g;rw [m.old g hg, if_neg (by omega)]
 refine ⟨fun g => if 6 ≤ L' g ∧ L' g ≤ 9 then 0 else L' g, v, h.out (Chg.refl (fun _ => False) w') (fun _ hf => hf.elim) (fun g _ => ?_) (fun g hg => ?_), ⟨?_, a0, fun g hg => ?_⟩⟩
 ·by_cases h1 : 6 ≤ L' g ∧ L' g ≤ 9
  ·right; rw [if_pos h1]; omega
  ·left; rw [if_neg h1]
 ·refine h.lt g (fun e => hg ?_)
  rw [e]; rfl
 ·refine (Chg.refl (lj 5 L) w).trans m.chg (fun g hg => ?_)
  left;unfold lj at *;have := hlo g;omega
 ·have := m.new g hg
  by_cases h1 : 6 ≤ L' g ∧ L' g ≤ 9
  ·left; rw [if_pos h1]; omega
  ·rw [if_neg h1]; omega
theorem Fi {w : World} (hs : ShAt W L D s v) (hw : Mv 5 L w L W) (hb : Below W.heap.size W X) (h1 : W.heap.size ≤ Bx) (h2 : W.heap.size ≤ Wk) (hne : Bx ≠ Wk) (hwk : Blk X Wk (eu D fr tt (.slice none 0 0) md Bx) 149)
  (hga : if md then Blk X Bx [.slice none 0 0] 95 else Blk X Bx (a8 zeroP) 28) : WkAt X (upd (upd L Bx 6) Wk 7) D Wk Bx md fr tt s [] [] ∧ Mv 9 L w (upd (upd L Bx 6) Wk 7) X := by
 have a1 := hwk.lt
 have a3 : Bx < X.heap.size := by
  cases md
  ·exact Blk.lt hga
  ·exact Blk.lt hga
 have a0 : ∀ g, g < W.heap.size → upd (upd L Bx 6) Wk 7 g = L g := fun g hg => by rw [o8 (by omega), o8 (by omega)]
 have a2 := hw.size;refine ⟨⟨⟨v, hs.out (Chg.of_below (F := fun _ => False) hb) (fun _ hf => hf.elim) (fun g hg => .inl (a0 g hg)) (fun g hg => ?_)⟩, ⟨_, hwk, World.ownsRow_nil _ _ _ _, fun g hg => by cases hg⟩, ?_, C6 _ _ _, by rw [o8 hne, C6], fun q hq => by simp at hq, fun q hq => by simp at hq⟩, ⟨?_, fun g hg => (a0 g (by omega)).trans (hw.old g hg), fun g hg => ?_⟩⟩
 ·by_cases e1 : g = Wk
  ·omega
  ·rw [o8 e1] at hg
   by_cases e2 : g = Bx
   ·omega
   ·rw [o8 e2] at hg
    exact Nat.lt_of_lt_of_le (hs.lt g hg) hb.size
 ·cases md
  ·exact hga
  ·exact ⟨_, hga, World.ownsRow_nil _ _ _ _, fun g hg => by cases hg⟩
 ·exact (hw.mono (j := 9) (by omega)).chg.trans (Chg.of_below (F := lj 9 L) hb) (fun _ h => .inl h)
 ·by_cases e1 : g = Wk
  ·left; rw [e1, C6]; omega
  ·rw [o8 e1]
   by_cases e2 : g = Bx
   ·left; rw [e2, C6]; omega
   ·rw [o8 e2]
    rcases hw.new g hg with e | e
    ·left; omega
    ·exact .inr e
section
variable {ρ : Operand → Value} {o : Oper} {x y z u : Operand} {w : World}
theorem Kv {f : Nat} {c : Value} (ho : o.op = .build 149 #[(0, x), (1, y), (2, z), (4, u)]) (hx : ρ x = shI D) (hy : ρ y = .int .u32 (fr : Int)) (hz : ρ z = .int .u32 (tt : Int)) (hu : ρ u = .func (.func f) #[] #[c]) :
  (execOp ρ o).run Tryz.prog w = .ok (.value (.agg [shI D, .int .u32 (fr : Int), .int .u32 (tt : Int), .slice none 0 0, .func (.func f) #[] #[c]].toArray)) w := by
 unfold shI at *;unfold execOp;simp only [ho];go_simp
end
theorem T3 : (Tryz.prog.info? 149).map (·.size) = some 5 := by kernel_rfl
def tk (s : Sh) (p : Pt) (off : Nat) : Bw := bg off (off + 1) 2 s [] [] p 0
def lq (s : Sh) (p : Pt) (off : Nat) : Nat := if mn p ≠ 0 then mn p else if 64 ≤ off then 1 else (tk s p off).e
def jp (s : Sh) (p : Pt) (off : Nat) : Pt := if mn p ≠ 0 ∨ 64 ≤ off ∨ (tk s p off).e ≠ 0 then zeroP else io (tk s p off).ls
def ja (s : Sh) (p : Pt) (off : Nat) : Sh := if mn p ≠ 0 ∨ 64 ≤ off then s else (tk s p off).s
structure GeS (L : Nat → Nat) (w : World) (D G : Nat) (s : Sh) (p : Pt) (X : World) : Prop where
 sh : ∃ v, ShAt X L D s v ∧ Mv 5 L w L X
 box : Blk X G (a8 p) 28
 res : Blk X (G + 1) (a8 zeroP) 28
 lo : w.heap.size ≤ G ∧ L G = 0 ∧ L (G + 1) = 0
theorem GeS.below {w : World} (h : GeS L w D G s p X) (hb : Below X.heap.size X Y) : GeS L w D G s p Y := by
 obtain ⟨⟨v, h1, h2⟩, h3, h4, h5⟩ := h;exact ⟨⟨v, h1.below hb, h2.trans (Mv.of_below hb h1.lt)⟩, h3.below hb h3.lt, h4.below hb h4.lt, h5⟩
def Cy (L : Nat → Nat) (w : World) (D : Nat) (s : Sh) (p : Pt) (off m : Nat) (e : Ending) (w' : World) : Prop :=
 e = .returned (.tuple #[.agg (a8 (jp s p off)).toArray, .int .i64 (lq s p off : Int)]) ∧ ShPost 5 L w D (ja s p off) w' ∧ Lim m (ja s p off)
theorem uj {L1 : Nat → Nat} {w : World} {R : Nat} {v1 : Sv} (hlo : Lo L) (h : ShAt X L1 D s1 v1) (m : Mv 9 L w L1 X) (hR : w.heap.size ≤ R ∧ L1 R = 0) {old : List Value} (hr : Blk X R old 28) (q : Pt) : ShPost 5 L w D s1 (X.setRow R (a8 q).toArray) ∧ Blk (X.setRow R (a8 q).toArray) R (a8 q) 28 := by
 have hc := tc X R (a8 q).toArray;have hz : (X.setRow R (a8 q).toArray).heap.size = X.heap.size := by simp
 have h2 : ShAt (X.setRow R (a8 q).toArray) L1 D s1 v1 := h.out hc (fun g e _ => .inl (by rw [e]; exact hR.2)) (fun _ _ => .inl rfl) (fun g hg => by rw [hz]; exact h.lt g hg);exact ⟨h2.erase hlo ⟨m.chg.trans hc (fun g e => by right; have : g = R := e; omega), m.old, m.new⟩, hr.row _⟩
theorem Kx (W : World) (z : Array Value) (t : TypeId) (cs : List Value) (hz : z = cs.toArray) : Below W.heap.size W (W.alloc (.cells z t)) ∧ Blk (W.alloc (.cells z t)) W.heap.size cs t ∧ (W.alloc (.cells z t)).heap.size = W.heap.size + 1 := by
 subst hz;exact ⟨(Below.refl _ _).alloc (Nat.le_refl _) _, Blk.new _ _ _, by simp⟩
theorem GeS.begin {w : World} {y : Array Value} (h : GeS L w D G s p W) (hb : Below W.heap.size W X) (hBx : Bx = W.heap.size) (hWk : Wk = W.heap.size + 1) (hsz : X.heap.size = W.heap.size + 1)
  (hga : if md then Blk X Bx [.slice none 0 0] 95 else Blk X Bx (a8 zeroP) 28) (hY : Y = (X.alloc (.cells y 149)).setRow Wk (eu D fr tt (.slice none 0 0) md Bx).toArray) :
  (∃ L', WkAt Y L' D Wk Bx md fr tt s [] [] ∧ Mv 9 L w L' Y ∧ L' (G + 1) = 0) ∧ Blk Y G (a8 p) 28 ∧ Blk Y (G + 1) (a8 zeroP) 28 := by
 subst hBx hWk hY;obtain ⟨⟨v, h1, h2⟩, h3, h4, h5⟩ := h;have a1 : Below W.heap.size W (X.alloc (.cells y 149)) := hb.alloc hb.size _;have hn : Blk (X.alloc (.cells y 149)) (W.heap.size + 1) y.toList 149 := Blk.new' _ _ _ _ _ hsz.symm (by simp);have a0 := d6 a1 (g := W.heap.size + 1) (by omega) (eu D fr tt (.slice none 0 0) md W.heap.size).toArray
 obtain ⟨k1, k2⟩ := Fi (md := md) (fr := fr) (tt := tt) h1 h2 a0 (Nat.le_refl _) (by omega) (by omega) (hn.row _) (by
  cases md
  ·exact (Blk.alloc hga _).rowOther (by omega) _
  ·exact (Blk.alloc hga _).rowOther (by omega) _)
 have := h3.lt;have := h4.lt;exact ⟨⟨_, k1, k2, by rw [o8 (by omega), o8 (by omega)]; exact h5.2.2⟩, h3.below a0 h3.lt, h4.below a0 h4.lt⟩
section
variable {ρ : Operand → Value} {o : Oper} {x y : Operand} {w : World}
theorem Vc (ho : o.op = .alloc 149) : (execOp ρ o).run Tryz.prog w = .ok (.value (.pointer (some ⟨w.heap.size, 0, none⟩))) (w.alloc (.cells #[.nilIface, .int .u32 0, .int .u32 0, .slice none 0 0, .nilFunc] 149)) := by
 unfold execOp;simp only [ho];go_simp
end
theorem Up (D fr tt : Nat) (md : Bool) (Bx : Nat) : (eu D fr tt (.slice none 0 0) md Bx).toArray.all (·.oneCell') = true := by
 simp [eu, shI, K5, a21, Value.oneCell']
set_option maxRecDepth 100000 in
set_option maxHeartbeats 8000000 in
theorem Me {w : World} (p : Pt) (hp : p.OK) (off : Nat) (hoff : off < 4294967296) (h : ShAt w L D s v) (hlo : Lo L) (hk : Lim m s) (hm : m + cB 2 < 100000000) : Calls Tryz.prog 69 #[shI D, .agg (a8 p).toArray, .int .u32 (off : Int)] w (Cy L w D s p off (m + cB 2)) := by
 have ag := zH hp
 have HX : Hid (∀ z, z = (a8 zeroP).toArray → GeS L w D w.heap.size s p ((w.alloc (.cells (a8 p).toArray 28)).alloc (.cells z 28))) := zH (fun z hz => by
  subst hz;have az : Below w.heap.size w ((w.alloc (.cells (a8 p).toArray 28)).alloc (.cells (a8 zeroP).toArray 28)) := ((Below.refl _ _).alloc (Nat.le_refl _) _).alloc (by simp) _
  exact ⟨⟨v, h.below az, Mv.of_below az h.lt⟩, (Blk.new _ _ _).alloc _, Blk.new' _ _ _ _ _ (by simp) rfl, Nat.le_refl _, h.not (Nat.le_refl _), h.not (by omega)⟩)
 have aj := zH hlo;have HK := zH hk;have HM : Hid (m + 73 < 100000000) := zH hm;have ap := zH (bh ak);generalize hPost : Cy L w D s p off (m + cB 2) = Post;have HP : Hid (∀ w', ShPost 5 L w D (ja s p off) w' → Lim (m + 73) (ja s p off) → Post (.returned (.tuple #[.agg (a8 (jp s p off)).toArray, .int .i64 (lq s p off : Int)])) w') := zH fun w' h2 h3 => by rw [← hPost]; exact ⟨rfl, h2, h3⟩
 have br := zH hoff;clear hp h hlo hk hm hPost hoff;unfold shI;go_enter Tryz.func69, Tryz.ntmps69
 go_upto_region 1 with fail
 refine (fun (k : ∀ W, GeS L w D w.heap.size s p W → Code.wp _ _ _ _ W) => k _ (HX.out _ rfl)) ?_;intro W hW;obtain ⟨G, hG⟩ : ∃ G, w.heap.size = G := ⟨_, rfl⟩;rw [hG] at hW ⊢;have ah := zH hW;clear HX hW;obtain ⟨⟨v1, b2, -⟩, -⟩ := ah.out;have b1 := zH (oj p ag.out D W b2.tab.1);clear b2 v1
 go_wp2_with (first | (refine a9 rfl (ax ag.out ah.out.box rfl rfl) ?_) | fail)
 refine b1.out.mono ?_;rintro e W2 ⟨rfl, ba⟩;have a7 := zH (ah.out.below ba);have aq := zH a7.out.res;clear ba ah b1;obtain ⟨re, al⟩ : ∃ re, mn p = re := ⟨_, rfl⟩;have a2 := zH al;rw [al];clear al;by_cases h0 : re = 0
 ·subst h0
  rw [show ((0 : Nat) : Int) = (0 : Int) from rfl];by_cases h64 : 64 ≤ off
  ·have a4 : (64 : Int) ≤ (off : Int) := by omega
   obtain ⟨⟨v2, k1, k2⟩, k3, k4, k5⟩ := a7.out;have a1 := zH (uj aj.out k1 (k2.mono (by omega)) (R := G + 1) (by omega) k4 zeroP)
   have HE : Hid (Post (.returned (.tuple #[.agg (a8 zeroP).toArray, .int .i64 1])) (W2.setRow (G + 1) (a8 zeroP).toArray)) := zH (by
    have h1 := HP.out (W2.setRow (G + 1) (a8 zeroP).toArray);have e1 : jp s p off = zeroP := (by unfold jp; rw [if_pos (.inr (.inl h64))]);have e2 : lq s p off = 1 := (by unfold lq; rw [a2.out, if_neg (by simp), if_pos h64]);have e3 : ja s p off = s := (by unfold ja; rw [if_pos (.inr h64)]);rw [e1, e2, e3] at h1
    exact h1 a1.out.1 (HK.out.mono (by omega) HM.out))
   clear k1 k2 k3 k4 k5 h64 HP
   go_wp2_with (first | (refine a9 rfl (bj rfl) ?_) | (refine wpList_store_row rfl 28 (.tmp 6) (.tmp 21) rfl (G + 1) (a8 zeroP).toArray rfl rfl 28 _ aq.out ap.out rfl (bb zeroP) ?_) | fail)
   refine bodyPost_ret (b9 Tryz.results69 _ _ (G + 1) 28 _ rfl a1.out.2 (bo ak)) rfl ?_;exact HE.out
  ·have a4 : ¬ (64 : Int) ≤ (off : Int) := by omega
   have bm : decide ((64 : Int) ≤ (off : Int)) = false := decide_eq_false a4;have bn : IntKind.u32.wrap ((off : Int) + 1) = ((off + 1 : Nat) : Int) := (by rw [IntKind.wrap_u32]; omega);have a0 : Hid (off < 64) := zH (by omega);clear h64;obtain ⟨t1, b8⟩ : ∃ t1, off + 1 = t1 := ⟨_, rfl⟩;rw [b8] at bn;have b4 := zH (Kx W2)
   go_upto_region 7 with fail
   refine (fun (k : ∀ X, (Below W2.heap.size W2 X ∧ Blk X W2.heap.size (a8 zeroP) 28 ∧ X.heap.size = W2.heap.size + 1) → Code.wp _ _ _ _ X) => k _ (b4.out _ _ _ rfl)) ?_;rintro X ⟨b0, bd, ab⟩;obtain ⟨Bx, a5⟩ : ∃ b, W2.heap.size = b := ⟨_, rfl⟩;obtain ⟨Y, hY⟩ : ∃ Y, (X.alloc (.cells #[.nilIface, .int .u32 0, .int .u32 0, .slice none 0 0, .nilFunc] 149)).setRow (Bx + 1) (eu D off t1 (.slice none 0 0) false Bx).toArray = Y := ⟨_, rfl⟩;have bi := a7.out.begin (md := false) (Bx := Bx) (Wk := Bx + 1) (fr := off) (tt := t1) b0 a5.symm (by omega) ab (by rw [← a5]; exact bd) hY.symm;have bf := zH bi
   have b3 : (X.alloc (.cells #[.nilIface, .int .u32 0, .int .u32 0, .slice none 0 0, .nilFunc] 149)).heap[Bx + 1]? = some (.cells #[.nilIface, .int .u32 0, .int .u32 0, .slice none 0 0, .nilFunc] 149 (0, 0)) := by
    rw [← a5, ← ab]; exact heap_alloc_new X _
   have av : ∀ {ρ : Operand → Value} {o : Oper}, o.op = .alloc 149 → (execOp ρ o).run Tryz.prog X = .ok (.value (.pointer (some ⟨Bx + 1, 0, none⟩))) (X.alloc (.cells #[.nilIface, .int .u32 0, .int .u32 0, .slice none 0 0, .nilFunc] 149)) := fun h => by
    rw [← a5, ← ab]; exact Vc h
   rw [a5];clear bi b0 bd ab b4 a7 aq;refine wp_region_list ?_;refine a9 (v := shI D) (w' := X) rfl (by first | rfl | go_simp) ?_; try simp only [pS]
   refine a9 (v := .int .u32 (off : Int)) (w' := X) rfl (by first | rfl | go_simp) ?_; try simp only [pS]
   refine a9 (v := .int .u32 (off : Int)) (w' := X) rfl (by first | rfl | go_simp) ?_; try simp only [pS]
   refine a9 (v := .int .u32 (t1 : Int)) (w' := X) rfl (by first | rfl | go_simp) ?_; try simp only [pS]
   refine a9 (v := .func (.func 91) #[] #[.pointer (some ⟨Bx, 0, none⟩)]) (w' := X) rfl (by first | rfl | go_simp) ?_; try simp only [pS]
   refine a9 (v := .agg (eu D off t1 (.slice none 0 0) false Bx).toArray) (w' := X) rfl (Kv (D := D) (fr := off) (tt := t1) (f := 91) (c := .pointer (some ⟨Bx, 0, none⟩)) rfl rfl rfl rfl rfl) ?_; try simp only [pS]
   refine a9 (v := .pointer (some ⟨Bx + 1, 0, none⟩)) (w' := _) rfl (av rfl) ?_; try simp only [pS]
   refine wpList_store_row rfl 149 (.tmp 10) (.tmp 27) rfl (Bx + 1) (eu D off t1 (.slice none 0 0) false Bx).toArray rfl rfl 149 _ b3 T3 rfl (Up _ _ _ _ _) ?_; try simp only [pS]
   refine wpList_nil ?_;rw [hY];clear b3 av hY;obtain ⟨⟨L2, k1, k2, k3⟩, k4, k5⟩ := bf.out;have ao := zH (wt 2 (Nat.le_refl _) p ag.out 0 k1 ⟨HK.out, by simp, by simp⟩ (by have := HM.out; show m + 73 < _; omega) (by omega) ⟨by have := a0.out; omega, by have := a0.out; omega⟩);have b6 := zH k2; have ar := zH k3; have b7 := zH k4; have au := zH k5;clear k1 k2 k3 k4 k5 bf;obtain ⟨rb, am⟩ : ∃ rb, bg off t1 2 s [] [] p 0 = rb := ⟨_, rfl⟩;have a3 : Hid (tk s p off = rb) := zH (by unfold tk; rw [b8]; exact am);rw [am] at ao;clear am
   go_wp2_with (first | (refine a9 rfl (ax ag.out b7.out rfl rfl) ?_) | fail)
   refine ao.out.mono ?_;rintro e X3 ⟨rfl, ⟨L3, h3, m3⟩, aw⟩;have af := zH (m3.blk au.out ar.out);have a6 := zH h3;have ae := zH (b6.out.trans m3);have b5 : Hid (L3 (G + 1) = 0) := zH ((m3.old _ au.out.lt).trans ar.out);have bc := zH aw;have ay : Hid (w.heap.size ≤ G + 1) := zH (by omega);clear h3 m3 aw ao b6 ar b7 au;obtain ⟨v3, ai⟩ := a6.out.sh;by_cases he : rb.e = 0
   ·have ad : Hid (io rb.ls).OK := zH (by
     unfold io;cases hl : rb.ls.getLast? with
     | none => exact ak
     | some y => exact (a6.out.okl y (List.mem_of_getLast? hl)).2)
    have bk : Hid (Blk X3 Bx (a8 (io rb.ls)) 28) := zH a6.out.ga;have bp := zH (bh ad.out);have bq : Hid ((a8 zeroP).toArray.size = (a8 (io rb.ls)).toArray.size) := zH (by rw [List.size_toArray, List.size_toArray, aa ad.out, aa ak]);have a1 := zH (uj aj.out ai ae.out (R := G + 1) ⟨ay.out, b5.out⟩ af.out (io rb.ls))
    have HE : Hid (Post (.returned (.tuple #[.agg (a8 (io rb.ls)).toArray, .int .i64 0])) (X3.setRow (G + 1) (a8 (io rb.ls)).toArray)) := zH (by
     have h1 := HP.out (X3.setRow (G + 1) (a8 (io rb.ls)).toArray);have e1 : jp s p off = io rb.ls := (by unfold jp; rw [a3.out, if_neg (by rw [a2.out]; have := a0.out; omega)]);have e2 : lq s p off = 0 := (by unfold lq; rw [a2.out, if_neg (by simp), if_neg (by have := a0.out; omega), a3.out, he]);have e3 : ja s p off = rb.s := (by unfold ja; rw [a3.out, if_neg (by rw [a2.out]; have := a0.out; omega)]);rw [e1, e2, e3] at h1
     exact h1 a1.out.1 bc.out.lim)
    have an : (rb.e : Int) = 0 := (by omega);rw [an];clear he an HP a6 ai ae
    go_wp2_with (first | (refine a9 rfl (ax ad.out bk.out rfl rfl) ?_) | (refine wpList_store_row rfl 28 (.tmp 6) (.tmp 34) rfl (G + 1) (a8 (io rb.ls)).toArray rfl rfl 28 _ af.out bp.out bq.out (bb _) ?_) | fail)
    refine bodyPost_ret (b9 Tryz.results69 _ _ (G + 1) 28 _ rfl a1.out.2 (bo ad.out)) rfl ?_;exact HE.out
   ·have a1 := zH (uj aj.out ai ae.out (R := G + 1) ⟨ay.out, b5.out⟩ af.out zeroP)
    have HE : Hid (Post (.returned (.tuple #[.agg (a8 zeroP).toArray, .int .i64 (rb.e : Int)])) (X3.setRow (G + 1) (a8 zeroP).toArray)) := zH (by
     have h1 := HP.out (X3.setRow (G + 1) (a8 zeroP).toArray);have e1 : jp s p off = zeroP := (by unfold jp; rw [a3.out, if_pos (.inr (.inr he))]);have e2 : lq s p off = rb.e := (by unfold lq; rw [a2.out, if_neg (by simp), if_neg (by have := a0.out; omega), a3.out]);have e3 : ja s p off = rb.s := (by unfold ja; rw [a3.out, if_neg (by rw [a2.out]; have := a0.out; omega)]);rw [e1, e2, e3] at h1
     exact h1 a1.out.1 bc.out.lim)
    have an : ¬ (rb.e : Int) = 0 := (by omega);clear he HP a6 ai ae
    go_wp2_with (first | (refine a9 rfl (bj rfl) ?_) | (refine wpList_store_row rfl 28 (.tmp 6) (.tmp 32) rfl (G + 1) (a8 zeroP).toArray rfl rfl 28 _ af.out ap.out rfl (bb zeroP) ?_) | fail)
    refine bodyPost_ret (b9 Tryz.results69 _ _ (G + 1) 28 _ rfl a1.out.2 (bo ak)) rfl ?_;exact HE.out
 ·have bl : ¬ (re : Int) = 0 := by omega
  obtain ⟨⟨v2, k1, k2⟩, k3, k4, k5⟩ := a7.out;have a1 := zH (uj aj.out k1 (k2.mono (by omega)) (R := G + 1) (by omega) k4 zeroP)
  have HE : Hid (Post (.returned (.tuple #[.agg (a8 zeroP).toArray, .int .i64 (re : Int)])) (W2.setRow (G + 1) (a8 zeroP).toArray)) := zH (by
   have h1 := HP.out (W2.setRow (G + 1) (a8 zeroP).toArray);have e1 : jp s p off = zeroP := (by unfold jp; rw [a2.out, if_pos (.inl h0)]);have e2 : lq s p off = re := (by unfold lq; rw [a2.out, if_pos h0]);have e3 : ja s p off = s := (by unfold ja; rw [a2.out, if_pos (.inl h0)]);rw [e1, e2, e3] at h1
   exact h1 a1.out.1 (HK.out.mono (by omega) HM.out))
  clear k1 k2 k3 k4 k5 HP h0
  go_wp2_with (first | (refine a9 rfl (bj rfl) ?_) | (refine wpList_store_row rfl 28 (.tmp 6) (.tmp 17) rfl (G + 1) (a8 zeroP).toArray rfl rfl 28 _ aq.out ap.out rfl (bb zeroP) ?_) | fail)
  refine bodyPost_ret (b9 Tryz.results69 _ _ (G + 1) 28 _ rfl a1.out.2 (bo ak)) rfl ?_;exact HE.out
theorem ShAt.erase2 {w : World} (hlo : Lo L) (h : ShAt w' L' D s v) (m : Mv 9 L w L' w') : ∃ L2, ShAt w' L2 D s v ∧ Mv 5 L w L2 w' ∧ ∀ g, 6 ≤ L' g ∧ L' g ≤ 9 → L2 g = 0 ∧ w.heap.size ≤ g := by
 have a0 : ∀ g, g < w.heap.size → (if 6 ≤ L' g ∧ L' g ≤ 9 then 0 else L' g) = L g := fun g hg => by
  have := hlo g;rw [m.old g hg, if_neg (by omega)]
 refine ⟨fun g => if 6 ≤ L' g ∧ L' g ≤ 9 then 0 else L' g, h.out (Chg.refl (fun _ => False) w') (fun _ hf => hf.elim) (fun g _ => ?_) (fun g hg => ?_), ⟨?_, a0, fun g hg => ?_⟩, fun g hg => ⟨if_pos hg, ?_⟩⟩
 ·by_cases h1 : 6 ≤ L' g ∧ L' g ≤ 9
  ·right; rw [if_pos h1]; omega
  ·left; rw [if_neg h1]
 ·refine h.lt g (fun e => hg ?_)
  rw [e]; rfl
 ·refine (Chg.refl (lj 5 L) w).trans m.chg (fun g hg => ?_)
  left;unfold lj at *;have := hlo g;omega
 ·have := m.new g hg
  by_cases h1 : 6 ≤ L' g ∧ L' g ≤ 9
  ·left; rw [if_pos h1]; omega
  ·rw [if_neg h1]; omega
 ·by_cases hs : g < w.heap.size
  ·have := m.old g hs; have := hlo g; omega
  ·omega
def Jc (s : Sh) (p : Pt) : Bw := bg 0 64 2 s [] [] p 0
def pp (s : Sh) (p : Pt) : Nat := if mn p ≠ 0 then mn p else (Jc s p).e
def lx (s : Sh) (p : Pt) : Sh := if mn p ≠ 0 then s else (Jc s p).s
def t0 (s : Sh) (p : Pt) : List Lf := if pp s p ≠ 0 then [] else (Jc s p).ls
def tj (s : Sh) (p : Pt) : List Pt := if pp s p ≠ 0 then [] else (Jc s p).ns
structure AllW (L : Nat → Nat) (w : World) (D : Nat) (s1 : Sh) (ls : List Lf) (ns : List Pt) (lv nv : Value) (w' : World) : Prop where
 sh : ∃ L2 v2, ShAt w' L2 D s1 v2 ∧ Mv 5 L w L2 w' ∧ (∀ g, lv.ownBlock = some g → L2 g = 0) ∧ ∀ g, nv.ownBlock = some g → L2 g = 0
 lo : OwnL w' 0 lv ls ∧ ∀ g, lv.ownBlock = some g → w.heap.size ≤ g
 no : OwnM w' 0 nv ns ∧ ∀ g, nv.ownBlock = some g → w.heap.size ≤ g
 okl : ∀ x ∈ ls, Lf.OK x
 okn : ∀ q ∈ ns, q.OK
def Ki (L : Nat → Nat) (w : World) (D : Nat) (s : Sh) (p : Pt) (m : Nat) (e : Ending) (w' : World) : Prop :=
 ∃ lv nv, e = .returned (.tuple #[lv, nv, .int .i64 (pp s p : Int)]) ∧ AllW L w D (lx s p) (t0 s p) (tj s p) lv nv w' ∧ Lim m (lx s p)
structure AlS (L : Nat → Nat) (w : World) (D G : Nat) (s : Sh) (p : Pt) (X : World) : Prop where
 sh : ∃ v, ShAt X L D s v ∧ Mv 5 L w L X
 box : Blk X G (a8 p) 28
theorem AlS.below {w : World} (h : AlS L w D G s p X) (hb : Below X.heap.size X Y) : AlS L w D G s p Y := by
 obtain ⟨⟨v, h1, h2⟩, h3⟩ := h;exact ⟨⟨v, h1.below hb, h2.trans (Mv.of_below hb h1.lt)⟩, h3.below hb h3.lt⟩
theorem AlS.begin {w : World} {y : Array Value} (h : AlS L w D G s p W) (hb : Below W.heap.size W X) (hBx : Bx = W.heap.size) (hWk : Wk = W.heap.size + 1) (hsz : X.heap.size = W.heap.size + 1)
  (hga : if md then Blk X Bx [.slice none 0 0] 95 else Blk X Bx (a8 zeroP) 28) (hY : Y = (X.alloc (.cells y 149)).setRow Wk (eu D fr tt (.slice none 0 0) md Bx).toArray) :
  (∃ L', WkAt Y L' D Wk Bx md fr tt s [] [] ∧ Mv 9 L w L' Y) ∧ Blk Y G (a8 p) 28 := by
 subst hBx hWk hY;obtain ⟨⟨v, h1, h2⟩, h3⟩ := h;have a1 : Below W.heap.size W (X.alloc (.cells y 149)) := hb.alloc hb.size _;have hn : Blk (X.alloc (.cells y 149)) (W.heap.size + 1) y.toList 149 := Blk.new' _ _ _ _ _ hsz.symm (by simp);have a0 := d6 a1 (g := W.heap.size + 1) (by omega) (eu D fr tt (.slice none 0 0) md W.heap.size).toArray
 obtain ⟨k1, k2⟩ := Fi (md := md) (fr := fr) (tt := tt) h1 h2 a0 (Nat.le_refl _) (by omega) (by omega) (hn.row _) (by
  cases md
  ·exact (Blk.alloc hga _).rowOther (by omega) _
  ·exact (Blk.alloc hga _).rowOther (by omega) _)
 exact ⟨⟨_, k1, k2⟩, h3.below a0 h3.lt⟩
theorem AllW.drew {w : World} {ls : List Lf} {ns : List Pt} {lv nv : Value} (h : AllW L w D s1 ls ns lv nv X) : AllW L w D s1 ls ns lv nv X.drew := by
 obtain ⟨⟨L2, v2, h1, h2, h3, h4⟩, h5, h6, h7, h8⟩ := h;have hb : Below X.heap.size X X.drew := (Below.refl _ _).drew;exact ⟨⟨L2, v2, h1.below hb, h2.trans (Mv.of_below hb h1.lt), h3, h4⟩, h5, h6, h7, h8⟩
theorem Bz {w : World} (h : ShPost 5 L w D s1 X) : AllW L w D s1 [] [] (.slice none 0 0) (.slice none 0 0) X := by
 obtain ⟨L2, v2, h1, h2⟩ := h;exact ⟨⟨L2, v2, h1, h2, (fun g hg => by cases hg), (fun g hg => by cases hg)⟩, ⟨World.ownsRow_nil _ _ _ _, fun g hg => by cases hg⟩, ⟨World.ownsRow_nil _ _ _ _, fun g hg => by cases hg⟩, fun x hx => by simp at hx, fun x hx => by simp at hx⟩
set_option maxRecDepth 100000 in
set_option maxHeartbeats 8000000 in
theorem Pj {w : World} (p : Pt) (hp : p.OK) (h : ShAt w L D s v) (hlo : Lo L) (hk : Lim m s) (hm : m + cB 2 < 100000000) : Calls Tryz.prog 45 #[shI D, .agg (a8 p).toArray] w (Ki L w D s p (m + cB 2)) := by
 have aa := zH hp;have ai : Below w.heap.size w (w.alloc (.cells (a8 p).toArray 28)) := (Below.refl _ _).alloc (Nat.le_refl _) _;have HX : Hid (AlS L w D w.heap.size s p (w.alloc (.cells (a8 p).toArray 28))) := zH ⟨⟨v, h.below ai, Mv.of_below ai h.lt⟩, Blk.new _ _ _⟩;have b3 := zH hlo;have HK := zH hk;have HM : Hid (m + 73 < 100000000) := zH hm;generalize hPost : Ki L w D s p (m + cB 2) = Post;have HP : Hid (∀ lv nv w', AllW L w D (lx s p) (t0 s p) (tj s p) lv nv w' → Lim (m + 73) (lx s p) → Post (.returned (.tuple #[lv, nv, .int .i64 (pp s p : Int)])) w') := zH fun lv nv w' h2 h3 => by rw [← hPost]; exact ⟨lv, nv, rfl, h2, h3⟩
 clear hp h hlo hk hm hPost ai;unfold shI;go_enter Tryz.func45, Tryz.ntmps45
 go_upto_region 1 with fail
 obtain ⟨G, hG⟩ : ∃ G, w.heap.size = G := ⟨_, rfl⟩;rw [hG] at HX ⊢;generalize (w.alloc (.cells (a8 p).toArray 28)) = W at HX ⊢;obtain ⟨⟨v1, aw, -⟩, -⟩ := HX.out;have av := zH (oj p aa.out D W aw.tab.1);clear aw v1
 go_wp2_with (first | (refine a9 rfl (ax aa.out HX.out.box rfl rfl) ?_) | fail)
 refine av.out.mono ?_;rintro e W2 ⟨rfl, b2⟩;have an := zH (HX.out.below b2);clear b2 HX av;obtain ⟨re, ae⟩ : ∃ re, mn p = re := ⟨_, rfl⟩;have a4 := zH ae;rw [ae];clear ae;by_cases h0 : re = 0
 ·subst h0
  rw [show ((0 : Nat) : Int) = (0 : Int) from rfl];have az : Hid (Below W2.heap.size W2 (W2.alloc (.cells #[.slice none 0 0] 95)) ∧ Blk (W2.alloc (.cells #[.slice none 0 0] 95)) W2.heap.size [.slice none 0 0] 95 ∧ (W2.alloc (.cells #[.slice none 0 0] 95)).heap.size = W2.heap.size + 1) := zH (Kx W2 _ 95 [.slice none 0 0] rfl)
  go_upto_region 5 with fail
  refine (fun (k : ∀ X, (Below W2.heap.size W2 X ∧ Blk X W2.heap.size [.slice none 0 0] 95 ∧ X.heap.size = W2.heap.size + 1) → Code.wp _ _ _ _ X) => k _ az.out) ?_;rintro X ⟨ar, b7, a6⟩;obtain ⟨Bx, a5⟩ : ∃ b, W2.heap.size = b := ⟨_, rfl⟩;obtain ⟨Y, hY⟩ : ∃ Y, (X.alloc (.cells #[.nilIface, .int .u32 0, .int .u32 0, .slice none 0 0, .nilFunc] 149)).setRow (Bx + 1) (eu D 0 64 (.slice none 0 0) true Bx).toArray = Y := ⟨_, rfl⟩;have b9 := an.out.begin (md := true) (Bx := Bx) (Wk := Bx + 1) (fr := 0) (tt := 64) ar a5.symm (by omega) a6 (by rw [← a5]; exact b7) hY.symm;have b8 := zH b9
  have ay : (X.alloc (.cells #[.nilIface, .int .u32 0, .int .u32 0, .slice none 0 0, .nilFunc] 149)).heap[Bx + 1]? = some (.cells #[.nilIface, .int .u32 0, .int .u32 0, .slice none 0 0, .nilFunc] 149 (0, 0)) := by
   rw [← a5, ← a6]; exact heap_alloc_new X _
  have ao : ∀ {ρ : Operand → Value} {o : Oper}, o.op = .alloc 149 → (execOp ρ o).run Tryz.prog X = .ok (.value (.pointer (some ⟨Bx + 1, 0, none⟩))) (X.alloc (.cells #[.nilIface, .int .u32 0, .int .u32 0, .slice none 0 0, .nilFunc] 149)) := fun h => by
   rw [← a5, ← a6]; exact Vc h
  rw [a5];clear b9 ar b7 a6 az an;refine wp_region_list ?_;refine a9 (v := shI D) (w' := X) rfl (by first | rfl | go_simp) ?_; try simp only [pS]
  refine a9 (v := .func (.func 74) #[] #[.pointer (some ⟨Bx, 0, none⟩)]) (w' := X) rfl (by first | rfl | go_simp) ?_; try simp only [pS]
  refine a9 (v := .agg (eu D 0 64 (.slice none 0 0) true Bx).toArray) (w' := X) rfl (Kv (D := D) (fr := 0) (tt := 64) (f := 74) (c := .pointer (some ⟨Bx, 0, none⟩)) rfl rfl rfl rfl rfl) ?_; try simp only [pS]
  refine a9 (v := .pointer (some ⟨Bx + 1, 0, none⟩)) (w' := _) rfl (ao rfl) ?_; try simp only [pS]
  refine wpList_store_row rfl 149 (.tmp 9) (.tmp 19) rfl (Bx + 1) (eu D 0 64 (.slice none 0 0) true Bx).toArray rfl rfl 149 _ ay T3 rfl (Up _ _ _ _ _) ?_; try simp only [pS]
  refine wpList_nil ?_;rw [hY];clear ay ao hY;obtain ⟨⟨L2, k1, k2⟩, k4⟩ := b8.out;have ah := zH (wt 2 (Nat.le_refl _) p aa.out 0 k1 ⟨HK.out, by simp, by simp⟩ (by have := HM.out; show m + 73 < _; omega) (by omega) (by omega));have b0 := zH k2; have b1 := zH k4;clear k1 k2 k4 b8;obtain ⟨rb, af⟩ : ∃ rb, bg 0 64 2 s [] [] p 0 = rb := ⟨_, rfl⟩;have a1 : Hid (Jc s p = rb) := zH af;rw [af] at ah;clear af
  go_wp2_with (first | (refine a9 rfl (ax aa.out b1.out rfl rfl) ?_) | fail)
  refine ah.out.mono ?_;rintro e X3 ⟨rfl, ⟨L3, h3, m3⟩, aq⟩;have a0 := zH h3;have a7 := zH (b0.out.trans m3);have b4 := zH aq;clear h3 m3 aq ah b0 b1;by_cases he : rb.e = 0
  ·obtain ⟨v3, ab⟩ := a0.out.sh
   obtain ⟨nv, j1, j2, j3⟩ := a0.out.wk;obtain ⟨lv, g1, g2, g3⟩ := a0.out.ga;obtain ⟨L4, e1, e2, e3⟩ := ab.erase2 b3.out a7.out;have b5 : Hid (AllW L w D rb.s rb.ls rb.ns lv nv X3) := zH ⟨⟨L4, v3, e1, e2, fun g hg => (e3 g (by rw [g3 g hg]; omega)).1, fun g hg => (e3 g (by rw [j3 g hg]; omega)).1⟩, ⟨g2, fun g hg => (e3 g (by rw [g3 g hg]; omega)).2⟩, ⟨j2, fun g hg => (e3 g (by rw [j3 g hg]; omega)).2⟩, a0.out.okl, a0.out.okn⟩
   have HE : Hid (∀ X, AllW L w D rb.s rb.ls rb.ns lv nv X → Post (.returned (.tuple #[lv, nv, .int .i64 0])) X) := zH (fun X hX => by
    have h1 := HP.out lv nv X;have e0 : pp s p = 0 := (by unfold pp; rw [a4.out, if_neg (by simp), a1.out, he]);have e1 : lx s p = rb.s := (by unfold lx; rw [a4.out, if_neg (by simp), a1.out]);have e2 : t0 s p = rb.ls := (by unfold t0; rw [e0, if_neg (by simp), a1.out]);have e3 : tj s p = rb.ns := (by unfold tj; rw [e0, if_neg (by simp), a1.out]);rw [e0, e1, e2, e3] at h1
    exact h1 hX b4.out.lim)
   have c0 : ∀ Y, Blk Y Bx [lv] 95 → Y.cell? ⟨Bx, 0, none⟩ = some lv := fun Y hY => hY.cell rfl
   have ag : (rb.e : Int) = 0 := (by omega);have b6 := zH g1; have ap := zH j1;obtain ⟨am, a3, el, -⟩ := cz g2;obtain ⟨ad, a2, en, -⟩ := cz j2;rw [ag];clear he ag HP a0 ab a7 g1 j1 g2 j2 g3 j3 e1 e2 e3 a1 c0;subst el en;obtain ⟨nl, ak⟩ : ∃ n, rb.ls.length = n := ⟨_, rfl⟩;obtain ⟨nn, aj⟩ : ∃ n, rb.ns.length = n := ⟨_, rfl⟩;rw [ak, aj] at b5 HE;rw [ak] at b6;rw [aj] at ap;clear ak aj
   go_upto_region 9 with fail
   have al := b5.out.drew;refine gS (.take 0 (.take 1 (.take 2 (.take 3 (.take 4 (.take 5 (.nil))))))) (fun X => Blk X Bx [.slice am nl a3] 95 ∧ Blk X (Bx + 1) (eu D 0 64 (.slice ad nn a2) true Bx) 149 ∧ True) (⟨b6.out.drew, ap.out.drew, trivial⟩) ?_;refine gU (.slice am nl a3) rfl (fun X hX => Wb rfl rfl (hX.1.cell rfl)) ?_;refine gU (.pointer (some ⟨Bx + 1, 3, none⟩)) rfl (fun X hX => Ar (by omega) rfl rfl) ?_;refine gU (.slice ad nn a2) rfl (fun X hX => i9 rfl rfl (hX.2.1.cell rfl)) ?_;refine gT (.slice am nl a3) ?_;refine gT (.slice ad nn a2) ?_;refine gT (.int .i64 0) ?_;refine au ?_
   go_wp2_with fail
   exact HE.out _ al
  ·have HE : Hid (Post (.returned (.tuple #[.slice none 0 0, .slice none 0 0, .int .i64 (rb.e : Int)])) X3) := zH (by
    obtain ⟨v3, ab⟩ := a0.out.sh;have h1 := HP.out (.slice none 0 0) (.slice none 0 0) X3;have e0 : pp s p = rb.e := (by unfold pp; rw [a4.out, if_neg (by simp), a1.out]);have e1 : lx s p = rb.s := (by unfold lx; rw [a4.out, if_neg (by simp), a1.out]);have e2 : t0 s p = [] := (by unfold t0; rw [e0, if_pos he]);have e3 : tj s p = [] := (by unfold tj; rw [e0, if_pos he]);rw [e0, e1, e2, e3] at h1
    exact h1 (Bz (ab.erase b3.out a7.out)) b4.out.lim)
   have ag : ¬ (rb.e : Int) = 0 := (by omega);clear he HP a0 a7
   go_wp2_with fail
   exact HE.out
 ·have ba : ¬ (re : Int) = 0 := by omega
  have HE : Hid (Post (.returned (.tuple #[.slice none 0 0, .slice none 0 0, .int .i64 (re : Int)])) W2) := zH (by
   obtain ⟨⟨v2, k1, k2⟩, k3⟩ := an.out;have h1 := HP.out (.slice none 0 0) (.slice none 0 0) W2;have e0 : pp s p = re := (by unfold pp; rw [a4.out, if_pos h0]);have e1 : lx s p = s := (by unfold lx; rw [a4.out, if_pos h0]);have e2 : t0 s p = [] := (by unfold t0; rw [e0, if_pos h0]);have e3 : tj s p = [] := (by unfold tj; rw [e0, if_pos h0]);rw [e0, e1, e2, e3] at h1
   exact h1 (Bz ⟨L, v2, k1, k2⟩) (HK.out.mono (by omega) HM.out))
  clear HP h0
  go_wp2_with fail
  exact HE.out
end Go.Proofs.YtjgjohdeeeoeoaaGreatDoor
