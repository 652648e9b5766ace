/- The tree's Get. -/
import Derived.Test.YtjgjohdeeeoeoaaGreatDoorM16
set_option linter.all false
namespace Go.Proofs.YtjgjohdeeeoeoaaGreatDoor
open Go.RowKit
attribute [local go_sem] Oper.semAt_some
variable {md : Bool} {Bx D G Wk fr m tt : Nat} {L L' : Nat → Nat} {p : Pt} {s s1 : Sh} {v : Sv} {W X Y w' : World}
def Lo (L : Nat → Nat) : Prop := ∀ g, L g ≤ 5 ∨ L g = 10
theorem Lo.mv {w : World} (h : Lo L) (m : Mv 5 L w L' w') : Lo L' := fun g => by
 by_cases hg : g < w.heap.size
 ·rw [m.old g hg]; exact h g
 ·exact m.new g (by omega)
def upd (L : Nat → Nat) (b j : Nat) : Nat → Nat := fun g => if g = b then j else L g
theorem Dv (L : Nat → Nat) (b j : Nat) : upd L b j b = j := if_pos rfl
theorem pa {b j g : Nat} (h : g ≠ b) : upd L b j g = L g := if_neg h
theorem ShAt.erase {w : World} (hlo : Lo L) (h : ShAt w' L' D s v) (m : Mv 9 L w L' w') : ShPost 5 L w D s w' := by
 have a0 : ∀ g, g < w.heap.size → (if 6 ≤ L' g ∧ L' g ≤ 9 then 0 else L' g) = L g := fun g hg => by
  have := hlo g;rw [m.old g hg, if_neg (by omega)]
 refine ⟨fun g => if 6 ≤ L' g ∧ L' g ≤ 9 then 0 else L' g, v, h.out (Chg.refl (fun _ => False) w') (fun _ hf => hf.elim) (fun g _ => ?_) (fun g hg => ?_), ⟨?_, a0, fun g hg => ?_⟩⟩
 ·by_cases h1 : 6 ≤ L' g ∧ L' g ≤ 9
  ·right; rw [if_pos h1]; omega
  ·left; rw [if_neg h1]
 ·refine h.lt g (fun e => hg ?_)
  rw [e]; rfl
 ·refine (Chg.refl (kx 5 L) w).trans m.chg (fun g hg => ?_)
  left;unfold kx at *;have := hlo g;omega
 ·have := m.new g hg
  by_cases h1 : 6 ≤ L' g ∧ L' g ≤ 9
  ·left; rw [if_pos h1]; omega
  ·rw [if_neg h1]; omega
theorem Gr {w : World} (hs : ShAt W L D s v) (hw : Mv 5 L w L W) (hb : Below W.heap.size W X) (h1 : W.heap.size ≤ Bx) (h2 : W.heap.size ≤ Wk) (hne : Bx ≠ Wk) (hwk : Blk X Wk (ew D fr tt (.slice none 0 0) md Bx) 149)
  (hga : if md then Blk X Bx [.slice none 0 0] 95 else Blk X Bx (a8 zeroP) 28) : WkAt X (upd (upd L Bx 6) Wk 7) D Wk Bx md fr tt s [] [] ∧ Mv 9 L w (upd (upd L Bx 6) Wk 7) X := by
 have a2 := hwk.lt
 have a1 : Bx < X.heap.size := by
  cases md
  ·exact Blk.lt hga
  ·exact Blk.lt hga
 have a0 : ∀ g, g < W.heap.size → upd (upd L Bx 6) Wk 7 g = L g := fun g hg => by rw [pa (by omega), pa (by omega)]
 have a3 := hw.size;refine ⟨⟨⟨v, hs.out (Chg.of_below (F := fun _ => False) hb) (fun _ hf => hf.elim) (fun g hg => .inl (a0 g hg)) (fun g hg => ?_)⟩, ⟨_, hwk, World.ownsRow_nil _ _ _ _, fun g hg => by cases hg⟩, ?_, Dv _ _ _, by rw [pa hne, Dv], fun q hq => by simp at hq, fun q hq => by simp at hq⟩, ⟨?_, fun g hg => (a0 g (by omega)).trans (hw.old g hg), fun g hg => ?_⟩⟩
 ·by_cases e1 : g = Wk
  ·omega
  ·rw [pa e1] at hg
   by_cases e2 : g = Bx
   ·omega
   ·rw [pa e2] at hg
    exact Nat.lt_of_lt_of_le (hs.lt g hg) hb.size
 ·cases md
  ·exact hga
  ·exact ⟨_, hga, World.ownsRow_nil _ _ _ _, fun g hg => by cases hg⟩
 ·exact (hw.mono (j := 9) (by omega)).chg.trans (Chg.of_below (F := kx 9 L) hb) (fun _ h => .inl h)
 ·by_cases e1 : g = Wk
  ·left; rw [e1, Dv]; omega
  ·rw [pa e1]
   by_cases e2 : g = Bx
   ·left; rw [e2, Dv]; omega
   ·rw [pa e2]
    rcases hw.new g hg with e | e
    ·left; omega
    ·exact .inr e
section
variable {ρ : Operand → Value} {o : Oper} {x y z u : Operand} {w : World}
theorem Kd {f : Nat} {c : Value} (ho : o.op = .build 149 #[(0, x), (1, y), (2, z), (4, u)]) (hx : ρ x = shI D) (hy : ρ y = .int .u32 (fr : Int)) (hz : ρ z = .int .u32 (tt : Int)) (hu : ρ u = .func (.func f) #[] #[c]) :
  (execOp ρ o).run Tryz.prog w = .ok (.value (.agg [shI D, .int .u32 (fr : Int), .int .u32 (tt : Int), .slice none 0 0, .func (.func f) #[] #[c]].toArray)) w := by
 unfold shI at *;unfold execOp;simp only [ho];go_simp
end
theorem V7 : (Tryz.prog.info? 149).map (·.size) = some 5 := by kernel_rfl
def tj (s : Sh) (p : Pt) (off : Nat) : Bw := bg off (off + 1) 2 s [] [] p 0
def lg (s : Sh) (p : Pt) (off : Nat) : Nat := if mu p ≠ 0 then mu p else if 64 ≤ off then 1 else (tj s p off).e
def jm (s : Sh) (p : Pt) (off : Nat) : Pt := if mu p ≠ 0 ∨ 64 ≤ off ∨ (tj s p off).e ≠ 0 then zeroP else io (tj s p off).ls
def jb (s : Sh) (p : Pt) (off : Nat) : Sh := if mu p ≠ 0 ∨ 64 ≤ off then s else (tj s p off).s
structure GeS (L : Nat → Nat) (w : World) (D G : Nat) (s : Sh) (p : Pt) (X : World) : Prop where
 sh : ∃ v, ShAt X L D s v ∧ Mv 5 L w L X
 box : Blk X G (a8 p) 28
 res : Blk X (G + 1) (a8 zeroP) 28
 lo : w.heap.size ≤ G ∧ L G = 0 ∧ L (G + 1) = 0
theorem GeS.below {w : World} (h : GeS L w D G s p X) (hb : Below X.heap.size X Y) : GeS L w D G s p Y := by
 obtain ⟨⟨v, h1, h2⟩, h3, h4, h5⟩ := h;exact ⟨⟨v, h1.below hb, h2.trans (Mv.of_below hb h1.lt)⟩, h3.below hb h3.lt, h4.below hb h4.lt, h5⟩
def C6 (L : Nat → Nat) (w : World) (D : Nat) (s : Sh) (p : Pt) (off m : Nat) (e : Ending) (w' : World) : Prop :=
 e = .returned (.tuple #[.agg (a8 (jm s p off)).toArray, .int .i64 (lg s p off : Int)]) ∧ ShPost 5 L w D (jb s p off) w' ∧ Lim m (jb s p off)
theorem uv {L1 : Nat → Nat} {w : World} {R : Nat} {v1 : Sv} (hlo : Lo L) (h : ShAt X L1 D s1 v1) (m : Mv 9 L w L1 X) (hR : w.heap.size ≤ R ∧ L1 R = 0) {old : List Value} (hr : Blk X R old 28) (q : Pt) : ShPost 5 L w D s1 (X.setRow R (a8 q).toArray) ∧ Blk (X.setRow R (a8 q).toArray) R (a8 q) 28 := by
 have hc := tf X R (a8 q).toArray;have hz : (X.setRow R (a8 q).toArray).heap.size = X.heap.size := by simp
 have h2 : ShAt (X.setRow R (a8 q).toArray) L1 D s1 v1 := h.out hc (fun g e _ => .inl (by rw [e]; exact hR.2)) (fun _ _ => .inl rfl) (fun g hg => by rw [hz]; exact h.lt g hg);exact ⟨h2.erase hlo ⟨m.chg.trans hc (fun g e => by right; have : g = R := e; omega), m.old, m.new⟩, hr.row _⟩
theorem Jy (W : World) (z : Array Value) (t : TypeId) (cs : List Value) (hz : z = cs.toArray) : Below W.heap.size W (W.alloc (.cells z t)) ∧ Blk (W.alloc (.cells z t)) W.heap.size cs t ∧ (W.alloc (.cells z t)).heap.size = W.heap.size + 1 := by
 subst hz;exact ⟨(Below.refl _ _).alloc (Nat.le_refl _) _, Blk.new _ _ _, by simp⟩
theorem GeS.begin {w : World} {y : Array Value} (h : GeS L w D G s p W) (hb : Below W.heap.size W X) (hBx : Bx = W.heap.size) (hWk : Wk = W.heap.size + 1) (hsz : X.heap.size = W.heap.size + 1)
  (hga : if md then Blk X Bx [.slice none 0 0] 95 else Blk X Bx (a8 zeroP) 28) (hY : Y = (X.alloc (.cells y 149)).setRow Wk (ew D fr tt (.slice none 0 0) md Bx).toArray) :
  (∃ L', WkAt Y L' D Wk Bx md fr tt s [] [] ∧ Mv 9 L w L' Y ∧ L' (G + 1) = 0) ∧ Blk Y G (a8 p) 28 ∧ Blk Y (G + 1) (a8 zeroP) 28 := by
 subst hBx hWk hY;obtain ⟨⟨v, h1, h2⟩, h3, h4, h5⟩ := h;have a1 : Below W.heap.size W (X.alloc (.cells y 149)) := hb.alloc hb.size _;have hn : Blk (X.alloc (.cells y 149)) (W.heap.size + 1) y.toList 149 := Blk.new' _ _ _ _ _ hsz.symm (by simp);have a0 := cz a1 (g := W.heap.size + 1) (by omega) (ew D fr tt (.slice none 0 0) md W.heap.size).toArray
 obtain ⟨k1, k2⟩ := Gr (md := md) (fr := fr) (tt := tt) h1 h2 a0 (Nat.le_refl _) (by omega) (by omega) (hn.row _) (by
  cases md
  ·exact (Blk.alloc hga _).rowOther (by omega) _
  ·exact (Blk.alloc hga _).rowOther (by omega) _)
 have := h3.lt;have := h4.lt;exact ⟨⟨_, k1, k2, by rw [pa (by omega), pa (by omega)]; exact h5.2.2⟩, h3.below a0 h3.lt, h4.below a0 h4.lt⟩
section
variable {ρ : Operand → Value} {o : Oper} {x y : Operand} {w : World}
theorem Rl (ho : o.op = .alloc 149) : (execOp ρ o).run Tryz.prog w = .ok (.value (.pointer (some ⟨w.heap.size, 0, none⟩))) (w.alloc (.cells #[.nilIface, .int .u32 0, .int .u32 0, .slice none 0 0, .nilFunc] 149)) := by
 unfold execOp;simp only [ho];go_simp
end
theorem Vw (D fr tt : Nat) (md : Bool) (Bx : Nat) : (ew D fr tt (.slice none 0 0) md Bx).toArray.all (·.oneCell') = true := by
 simp [ew, shI, Li, a1v, Value.oneCell']
set_option maxRecDepth 100000 in
set_option maxHeartbeats 8000000 in
theorem Qc {w : World} (p : Pt) (hp : p.OK) (off : Nat) (hoff : off < 4294967296) (h : ShAt w L D s v) (hlo : Lo L) (hk : Lim m s) (hm : m + cB 2 < 100000000) : Calls Tryz.prog 69 #[shI D, .agg (a8 p).toArray, .int .u32 (off : Int)] w (C6 L w D s p off (m + cB 2)) := by
 have af := zH hp
 have HX : Hid (∀ z, z = (a8 zeroP).toArray → GeS L w D w.heap.size s p ((w.alloc (.cells (a8 p).toArray 28)).alloc (.cells z 28))) := zH (fun z hz => by
  subst hz;have bc : Below w.heap.size w ((w.alloc (.cells (a8 p).toArray 28)).alloc (.cells (a8 zeroP).toArray 28)) := ((Below.refl _ _).alloc (Nat.le_refl _) _).alloc (by simp) _
  exact ⟨⟨v, h.below bc, Mv.of_below bc h.lt⟩, (Blk.new _ _ _).alloc _, Blk.new' _ _ _ _ _ (by simp) rfl, Nat.le_refl _, h.not (Nat.le_refl _), h.not (by omega)⟩)
 have ab := zH hlo;have HK := zH hk;have HM : Hid (m + 73 < 100000000) := zH hm;have ap := zH (bh ak);generalize hPost : C6 L w D s p off (m + cB 2) = Post;have HP : Hid (∀ w', ShPost 5 L w D (jb s p off) w' → Lim (m + 73) (jb s p off) → Post (.returned (.tuple #[.agg (a8 (jm s p off)).toArray, .int .i64 (lg s p off : Int)])) w') := zH fun w' h2 h3 => by rw [← hPost]; exact ⟨rfl, h2, h3⟩
 have br := zH hoff;clear hp h hlo hk hm hPost hoff;unfold shI;go_enter Tryz.func69, Tryz.ntmps69
 go_upto_region 1 with fail
 refine (fun (k : ∀ W, GeS L w D w.heap.size s p W → Code.wp _ _ _ _ W) => k _ (HX.out _ rfl)) ?_;intro W hW;obtain ⟨G, hG⟩ : ∃ G, w.heap.size = G := ⟨_, rfl⟩;rw [hG] at hW ⊢;have ah := zH hW;clear HX hW;obtain ⟨⟨v1, b8, -⟩, -⟩ := ah.out;have b3 := zH (p8 p af.out D W b8.tab.1);clear b8 v1
 go_wp2_with (first | (refine a9 rfl (ax af.out ah.out.box rfl rfl) ?_) | fail)
 refine b3.out.mono ?_;rintro e W2 ⟨rfl, b5⟩;have a5 := zH (ah.out.below b5);have an := zH a5.out.res;clear b5 ah b3;obtain ⟨re, au⟩ : ∃ re, mu p = re := ⟨_, rfl⟩;have a2 := zH au;rw [au];clear au;by_cases h0 : re = 0
 ·subst h0
  rw [show ((0 : Nat) : Int) = (0 : Int) from rfl];by_cases h64 : 64 ≤ off
  ·have a6 : (64 : Int) ≤ (off : Int) := by omega
   obtain ⟨⟨v2, k1, k2⟩, k3, k4, k5⟩ := a5.out;have a1 := zH (uv ab.out k1 (k2.mono (by omega)) (R := G + 1) (by omega) k4 zeroP)
   have HE : Hid (Post (.returned (.tuple #[.agg (a8 zeroP).toArray, .int .i64 1])) (W2.setRow (G + 1) (a8 zeroP).toArray)) := zH (by
    have h1 := HP.out (W2.setRow (G + 1) (a8 zeroP).toArray);have e1 : jm s p off = zeroP := (by unfold jm; rw [if_pos (.inr (.inl h64))]);have e2 : lg s p off = 1 := (by unfold lg; rw [a2.out, if_neg (by simp), if_pos h64]);have e3 : jb s p off = s := (by unfold jb; rw [if_pos (.inr h64)]);rw [e1, e2, e3] at h1
    exact h1 a1.out.1 (HK.out.mono (by omega) HM.out))
   clear k1 k2 k3 k4 k5 h64 HP
   go_wp2_with (first | (refine a9 rfl (bj rfl) ?_) | (refine wpList_store_row rfl 28 (.tmp 6) (.tmp 21) rfl (G + 1) (a8 zeroP).toArray rfl rfl 28 _ an.out ap.out rfl (bb zeroP) ?_) | fail)
   refine bodyPost_ret (b9 Tryz.results69 _ _ (G + 1) 28 _ rfl a1.out.2 (bo ak)) rfl ?_;exact HE.out
  ·have a6 : ¬ (64 : Int) ≤ (off : Int) := by omega
   have bn : decide ((64 : Int) ≤ (off : Int)) = false := decide_eq_false a6;have bq : IntKind.u32.wrap ((off : Int) + 1) = ((off + 1 : Nat) : Int) := (by rw [IntKind.wrap_u32]; omega);have a0 : Hid (off < 64) := zH (by omega);clear h64;obtain ⟨t1, ba⟩ : ∃ t1, off + 1 = t1 := ⟨_, rfl⟩;rw [ba] at bq;have ay := zH (Jy W2)
   go_upto_region 7 with fail
   refine (fun (k : ∀ X, (Below W2.heap.size W2 X ∧ Blk X W2.heap.size (a8 zeroP) 28 ∧ X.heap.size = W2.heap.size + 1) → Code.wp _ _ _ _ X) => k _ (ay.out _ _ _ rfl)) ?_;rintro X ⟨bd, bf, aj⟩;obtain ⟨Bx, a7⟩ : ∃ b, W2.heap.size = b := ⟨_, rfl⟩;obtain ⟨Y, hY⟩ : ∃ Y, (X.alloc (.cells #[.nilIface, .int .u32 0, .int .u32 0, .slice none 0 0, .nilFunc] 149)).setRow (Bx + 1) (ew D off t1 (.slice none 0 0) false Bx).toArray = Y := ⟨_, rfl⟩;have b6 := a5.out.begin (md := false) (Bx := Bx) (Wk := Bx + 1) (fr := off) (tt := t1) bd a7.symm (by omega) aj (by rw [← a7]; exact bf) hY.symm;have av := zH b6
   have b7 : (X.alloc (.cells #[.nilIface, .int .u32 0, .int .u32 0, .slice none 0 0, .nilFunc] 149)).heap[Bx + 1]? = some (.cells #[.nilIface, .int .u32 0, .int .u32 0, .slice none 0 0, .nilFunc] 149 (0, 0)) := by
    rw [← a7, ← aj]; exact heap_alloc_new X _
   have b4 : ∀ {ρ : Operand → Value} {o : Oper}, o.op = .alloc 149 → (execOp ρ o).run Tryz.prog X = .ok (.value (.pointer (some ⟨Bx + 1, 0, none⟩))) (X.alloc (.cells #[.nilIface, .int .u32 0, .int .u32 0, .slice none 0 0, .nilFunc] 149)) := fun h => by
    rw [← a7, ← aj]; exact Rl h
   rw [a7];clear b6 bd bf aj ay a5 an;refine wp_region_list ?_;refine a9 (v := shI D) (w' := X) rfl (by first | rfl | go_simp) ?_; try simp only [pS]
   refine a9 (v := .int .u32 (off : Int)) (w' := X) rfl (by first | rfl | go_simp) ?_; try simp only [pS]
   refine a9 (v := .int .u32 (off : Int)) (w' := X) rfl (by first | rfl | go_simp) ?_; try simp only [pS]
   refine a9 (v := .int .u32 (t1 : Int)) (w' := X) rfl (by first | rfl | go_simp) ?_; try simp only [pS]
   refine a9 (v := .func (.func 91) #[] #[.pointer (some ⟨Bx, 0, none⟩)]) (w' := X) rfl (by first | rfl | go_simp) ?_; try simp only [pS]
   refine a9 (v := .agg (ew D off t1 (.slice none 0 0) false Bx).toArray) (w' := X) rfl (Kd (D := D) (fr := off) (tt := t1) (f := 91) (c := .pointer (some ⟨Bx, 0, none⟩)) rfl rfl rfl rfl rfl) ?_; try simp only [pS]
   refine a9 (v := .pointer (some ⟨Bx + 1, 0, none⟩)) (w' := _) rfl (b4 rfl) ?_; try simp only [pS]
   refine wpList_store_row rfl 149 (.tmp 10) (.tmp 27) rfl (Bx + 1) (ew D off t1 (.slice none 0 0) false Bx).toArray rfl rfl 149 _ b7 V7 rfl (Vw _ _ _ _ _) ?_; try simp only [pS]
   refine wpList_nil ?_;rw [hY];clear b7 b4 hY;obtain ⟨⟨L2, k1, k2, k3⟩, k4, k5⟩ := av.out;have al := zH (vx 2 (Nat.le_refl _) p af.out 0 k1 ⟨HK.out, by simp, by simp⟩ (by have := HM.out; show m + 73 < _; omega) (by omega) ⟨by have := a0.out; omega, by have := a0.out; omega⟩);have b2 := zH k2; have am := zH k3; have aw := zH k4; have ao := zH k5;clear k1 k2 k3 k4 k5 av;obtain ⟨rb, ar⟩ : ∃ rb, bg off t1 2 s [] [] p 0 = rb := ⟨_, rfl⟩;have a3 : Hid (tj s p off = rb) := zH (by unfold tj; rw [ba]; exact ar);rw [ar] at al;clear ar
   go_wp2_with (first | (refine a9 rfl (ax af.out aw.out rfl rfl) ?_) | fail)
   refine al.out.mono ?_;rintro e X3 ⟨rfl, ⟨L3, h3, m3⟩, bi⟩;have ag := zH (m3.blk ao.out am.out);have a4 := zH h3;have ae := zH (b2.out.trans m3);have b1 : Hid (L3 (G + 1) = 0) := zH ((m3.old _ ao.out.lt).trans am.out);have b0 := zH bi;have az : Hid (w.heap.size ≤ G + 1) := zH (by omega);clear h3 m3 bi al b2 am aw ao;obtain ⟨v3, ai⟩ := a4.out.sh;by_cases he : rb.e = 0
   ·have ad : Hid (io rb.ls).OK := zH (by
     unfold io;cases hl : rb.ls.getLast? with
     | none => exact ak
     | some y => exact (a4.out.okl y (List.mem_of_getLast? hl)).2)
    have bk : Hid (Blk X3 Bx (a8 (io rb.ls)) 28) := zH a4.out.ga;have bl := zH (bh ad.out);have bm : Hid ((a8 zeroP).toArray.size = (a8 (io rb.ls)).toArray.size) := zH (by rw [List.size_toArray, List.size_toArray, aa ad.out, aa ak]);have a1 := zH (uv ab.out ai ae.out (R := G + 1) ⟨az.out, b1.out⟩ ag.out (io rb.ls))
    have HE : Hid (Post (.returned (.tuple #[.agg (a8 (io rb.ls)).toArray, .int .i64 0])) (X3.setRow (G + 1) (a8 (io rb.ls)).toArray)) := zH (by
     have h1 := HP.out (X3.setRow (G + 1) (a8 (io rb.ls)).toArray);have e1 : jm s p off = io rb.ls := (by unfold jm; rw [a3.out, if_neg (by rw [a2.out]; have := a0.out; omega)]);have e2 : lg s p off = 0 := (by unfold lg; rw [a2.out, if_neg (by simp), if_neg (by have := a0.out; omega), a3.out, he]);have e3 : jb s p off = rb.s := (by unfold jb; rw [a3.out, if_neg (by rw [a2.out]; have := a0.out; omega)]);rw [e1, e2, e3] at h1
     exact h1 a1.out.1 b0.out.lim)
    have aq : (rb.e : Int) = 0 := (by omega);rw [aq];clear he aq HP a4 ai ae
    go_wp2_with (first | (refine a9 rfl (ax ad.out bk.out rfl rfl) ?_) | (refine wpList_store_row rfl 28 (.tmp 6) (.tmp 34) rfl (G + 1) (a8 (io rb.ls)).toArray rfl rfl 28 _ ag.out bl.out bm.out (bb _) ?_) | fail)
    refine bodyPost_ret (b9 Tryz.results69 _ _ (G + 1) 28 _ rfl a1.out.2 (bo ad.out)) rfl ?_;exact HE.out
   ·have a1 := zH (uv ab.out ai ae.out (R := G + 1) ⟨az.out, b1.out⟩ ag.out zeroP)
    have HE : Hid (Post (.returned (.tuple #[.agg (a8 zeroP).toArray, .int .i64 (rb.e : Int)])) (X3.setRow (G + 1) (a8 zeroP).toArray)) := zH (by
     have h1 := HP.out (X3.setRow (G + 1) (a8 zeroP).toArray);have e1 : jm s p off = zeroP := (by unfold jm; rw [a3.out, if_pos (.inr (.inr he))]);have e2 : lg s p off = rb.e := (by unfold lg; rw [a2.out, if_neg (by simp), if_neg (by have := a0.out; omega), a3.out]);have e3 : jb s p off = rb.s := (by unfold jb; rw [a3.out, if_neg (by rw [a2.out]; have := a0.out; omega)]);rw [e1, e2, e3] at h1
     exact h1 a1.out.1 b0.out.lim)
    have aq : ¬ (rb.e : Int) = 0 := (by omega);clear he HP a4 ai ae
    go_wp2_with (first | (refine a9 rfl (bj rfl) ?_) | (refine wpList_store_row rfl 28 (.tmp 6) (.tmp 32) rfl (G + 1) (a8 zeroP).toArray rfl rfl 28 _ ag.out ap.out rfl (bb zeroP) ?_) | fail)
    refine bodyPost_ret (b9 Tryz.results69 _ _ (G + 1) 28 _ rfl a1.out.2 (bo ak)) rfl ?_;exact HE.out
 ·have bp : ¬ (re : Int) = 0 := by omega
  obtain ⟨⟨v2, k1, k2⟩, k3, k4, k5⟩ := a5.out;have a1 := zH (uv ab.out k1 (k2.mono (by omega)) (R := G + 1) (by omega) k4 zeroP)
  have HE : Hid (Post (.returned (.tuple #[.agg (a8 zeroP).toArray, .int .i64 (re : Int)])) (W2.setRow (G + 1) (a8 zeroP).toArray)) := zH (by
   have h1 := HP.out (W2.setRow (G + 1) (a8 zeroP).toArray);have e1 : jm s p off = zeroP := (by unfold jm; rw [a2.out, if_pos (.inl h0)]);have e2 : lg s p off = re := (by unfold lg; rw [a2.out, if_pos h0]);have e3 : jb s p off = s := (by unfold jb; rw [a2.out, if_pos (.inl h0)]);rw [e1, e2, e3] at h1
   exact h1 a1.out.1 (HK.out.mono (by omega) HM.out))
  clear k1 k2 k3 k4 k5 HP h0
  go_wp2_with (first | (refine a9 rfl (bj rfl) ?_) | (refine wpList_store_row rfl 28 (.tmp 6) (.tmp 17) rfl (G + 1) (a8 zeroP).toArray rfl rfl 28 _ an.out ap.out rfl (bb zeroP) ?_) | fail)
  refine bodyPost_ret (b9 Tryz.results69 _ _ (G + 1) 28 _ rfl a1.out.2 (bo ak)) rfl ?_;exact HE.out
theorem ShAt.erase2 {w : World} (hlo : Lo L) (h : ShAt w' L' D s v) (m : Mv 9 L w L' w') : ∃ L2, ShAt w' L2 D s v ∧ Mv 5 L w L2 w' ∧ ∀ g, 6 ≤ L' g ∧ L' g ≤ 9 → L2 g = 0 ∧ w.heap.size ≤ g := by
 have a0 : ∀ g, g < w.heap.size → (if 6 ≤ L' g ∧ L' g ≤ 9 then 0 else L' g) = L g := fun g hg => by
  have := hlo g;rw [m.old g hg, if_neg (by omega)]
 refine ⟨fun g => if 6 ≤ L' g ∧ L' g ≤ 9 then 0 else L' g, h.out (Chg.refl (fun _ => False) w') (fun _ hf => hf.elim) (fun g _ => ?_) (fun g hg => ?_), ⟨?_, a0, fun g hg => ?_⟩, fun g hg => ⟨if_pos hg, ?_⟩⟩
 ·by_cases h1 : 6 ≤ L' g ∧ L' g ≤ 9
  ·right; rw [if_pos h1]; omega
  ·left; rw [if_neg h1]
 ·refine h.lt g (fun e => hg ?_)
  rw [e]; rfl
 ·refine (Chg.refl (kx 5 L) w).trans m.chg (fun g hg => ?_)
  left;unfold kx at *;have := hlo g;omega
 ·have := m.new g hg
  by_cases h1 : 6 ≤ L' g ∧ L' g ≤ 9
  ·left; rw [if_pos h1]; omega
  ·rw [if_neg h1]; omega
 ·by_cases hs : g < w.heap.size
  ·have := m.old g hs; have := hlo g; omega
  ·omega
def Gy (s : Sh) (p : Pt) : Bw := bg 0 64 2 s [] [] p 0
def pp (s : Sh) (p : Pt) : Nat := if mu p ≠ 0 then mu p else (Gy s p).e
def ky (s : Sh) (p : Pt) : Sh := if mu p ≠ 0 then s else (Gy s p).s
def sz (s : Sh) (p : Pt) : List Lf := if pp s p ≠ 0 then [] else (Gy s p).ls
def td (s : Sh) (p : Pt) : List Pt := if pp s p ≠ 0 then [] else (Gy s p).ns
structure AllW (L : Nat → Nat) (w : World) (D : Nat) (s1 : Sh) (ls : List Lf) (ns : List Pt) (lv nv : Value) (w' : World) : Prop where
 sh : ∃ L2 v2, ShAt w' L2 D s1 v2 ∧ Mv 5 L w L2 w' ∧ (∀ g, lv.ownBlock = some g → L2 g = 0) ∧ ∀ g, nv.ownBlock = some g → L2 g = 0
 lo : OwnL w' 0 lv ls ∧ ∀ g, lv.ownBlock = some g → w.heap.size ≤ g
 no : OwnM w' 0 nv ns ∧ ∀ g, nv.ownBlock = some g → w.heap.size ≤ g
 okl : ∀ x ∈ ls, Lf.OK x
 okn : ∀ q ∈ ns, q.OK
def Jp (L : Nat → Nat) (w : World) (D : Nat) (s : Sh) (p : Pt) (m : Nat) (e : Ending) (w' : World) : Prop :=
 ∃ lv nv, e = .returned (.tuple #[lv, nv, .int .i64 (pp s p : Int)]) ∧ AllW L w D (ky s p) (sz s p) (td s p) lv nv w' ∧ Lim m (ky s p)
structure AlS (L : Nat → Nat) (w : World) (D G : Nat) (s : Sh) (p : Pt) (X : World) : Prop where
 sh : ∃ v, ShAt X L D s v ∧ Mv 5 L w L X
 box : Blk X G (a8 p) 28
theorem AlS.below {w : World} (h : AlS L w D G s p X) (hb : Below X.heap.size X Y) : AlS L w D G s p Y := by
 obtain ⟨⟨v, h1, h2⟩, h3⟩ := h;exact ⟨⟨v, h1.below hb, h2.trans (Mv.of_below hb h1.lt)⟩, h3.below hb h3.lt⟩
theorem AlS.begin {w : World} {y : Array Value} (h : AlS L w D G s p W) (hb : Below W.heap.size W X) (hBx : Bx = W.heap.size) (hWk : Wk = W.heap.size + 1) (hsz : X.heap.size = W.heap.size + 1)
  (hga : if md then Blk X Bx [.slice none 0 0] 95 else Blk X Bx (a8 zeroP) 28) (hY : Y = (X.alloc (.cells y 149)).setRow Wk (ew D fr tt (.slice none 0 0) md Bx).toArray) :
  (∃ L', WkAt Y L' D Wk Bx md fr tt s [] [] ∧ Mv 9 L w L' Y) ∧ Blk Y G (a8 p) 28 := by
 subst hBx hWk hY;obtain ⟨⟨v, h1, h2⟩, h3⟩ := h;have a1 : Below W.heap.size W (X.alloc (.cells y 149)) := hb.alloc hb.size _;have hn : Blk (X.alloc (.cells y 149)) (W.heap.size + 1) y.toList 149 := Blk.new' _ _ _ _ _ hsz.symm (by simp);have a0 := cz a1 (g := W.heap.size + 1) (by omega) (ew D fr tt (.slice none 0 0) md W.heap.size).toArray
 obtain ⟨k1, k2⟩ := Gr (md := md) (fr := fr) (tt := tt) h1 h2 a0 (Nat.le_refl _) (by omega) (by omega) (hn.row _) (by
  cases md
  ·exact (Blk.alloc hga _).rowOther (by omega) _
  ·exact (Blk.alloc hga _).rowOther (by omega) _)
 exact ⟨⟨_, k1, k2⟩, h3.below a0 h3.lt⟩
theorem AllW.drew {w : World} {ls : List Lf} {ns : List Pt} {lv nv : Value} (h : AllW L w D s1 ls ns lv nv X) : AllW L w D s1 ls ns lv nv X.drew := by
 obtain ⟨⟨L2, v2, h1, h2, h3, h4⟩, h5, h6, h7, h8⟩ := h;have hb : Below X.heap.size X X.drew := (Below.refl _ _).drew;exact ⟨⟨L2, v2, h1.below hb, h2.trans (Mv.of_below hb h1.lt), h3, h4⟩, h5, h6, h7, h8⟩
theorem B9 {w : World} (h : ShPost 5 L w D s1 X) : AllW L w D s1 [] [] (.slice none 0 0) (.slice none 0 0) X := by
 obtain ⟨L2, v2, h1, h2⟩ := h;exact ⟨⟨L2, v2, h1, h2, (fun g hg => by cases hg), (fun g hg => by cases hg)⟩, ⟨World.ownsRow_nil _ _ _ _, fun g hg => by cases hg⟩, ⟨World.ownsRow_nil _ _ _ _, fun g hg => by cases hg⟩, fun x hx => by simp at hx, fun x hx => by simp at hx⟩
set_option maxRecDepth 100000 in
set_option maxHeartbeats 8000000 in
theorem Qb {w : World} (p : Pt) (hp : p.OK) (h : ShAt w L D s v) (hlo : Lo L) (hk : Lim m s) (hm : m + cB 2 < 100000000) : Calls Tryz.prog 45 #[shI D, .agg (a8 p).toArray] w (Jp L w D s p (m + cB 2)) := by
 have a7 := zH hp;have al : Below w.heap.size w (w.alloc (.cells (a8 p).toArray 28)) := (Below.refl _ _).alloc (Nat.le_refl _) _;have HX : Hid (AlS L w D w.heap.size s p (w.alloc (.cells (a8 p).toArray 28))) := zH ⟨⟨v, h.below al, Mv.of_below al h.lt⟩, Blk.new _ _ _⟩;have az := zH hlo;have HK := zH hk;have HM : Hid (m + 73 < 100000000) := zH hm;generalize hPost : Jp L w D s p (m + cB 2) = Post;have HP : Hid (∀ lv nv w', AllW L w D (ky s p) (sz s p) (td s p) lv nv w' → Lim (m + 73) (ky s p) → Post (.returned (.tuple #[lv, nv, .int .i64 (pp s p : Int)])) w') := zH fun lv nv w' h2 h3 => by rw [← hPost]; exact ⟨lv, nv, rfl, h2, h3⟩
 clear hp h hlo hk hm hPost al;unfold shI;go_enter Tryz.func45, Tryz.ntmps45
 go_upto_region 1 with fail
 obtain ⟨G, hG⟩ : ∃ G, w.heap.size = G := ⟨_, rfl⟩;rw [hG] at HX ⊢;generalize (w.alloc (.cells (a8 p).toArray 28)) = W at HX ⊢;obtain ⟨⟨v1, b6, -⟩, -⟩ := HX.out;have b1 := zH (p8 p a7.out D W b6.tab.1);clear b6 v1
 go_wp2_with (first | (refine a9 rfl (ax a7.out HX.out.box rfl rfl) ?_) | fail)
 refine b1.out.mono ?_;rintro e W2 ⟨rfl, b3⟩;have ae := zH (HX.out.below b3);clear b3 HX b1;obtain ⟨re, ak⟩ : ∃ re, mu p = re := ⟨_, rfl⟩;have a4 := zH ak;rw [ak];clear ak;by_cases h0 : re = 0
 ·subst h0
  rw [show ((0 : Nat) : Int) = (0 : Int) from rfl];have ar : Hid (Below W2.heap.size W2 (W2.alloc (.cells #[.slice none 0 0] 95)) ∧ Blk (W2.alloc (.cells #[.slice none 0 0] 95)) W2.heap.size [.slice none 0 0] 95 ∧ (W2.alloc (.cells #[.slice none 0 0] 95)).heap.size = W2.heap.size + 1) := zH (Jy W2 _ 95 [.slice none 0 0] rfl)
  go_upto_region 5 with fail
  refine (fun (k : ∀ X, (Below W2.heap.size W2 X ∧ Blk X W2.heap.size [.slice none 0 0] 95 ∧ X.heap.size = W2.heap.size + 1) → Code.wp _ _ _ _ X) => k _ ar.out) ?_;rintro X ⟨b7, b8, ab⟩;obtain ⟨Bx, a5⟩ : ∃ b, W2.heap.size = b := ⟨_, rfl⟩;obtain ⟨Y, hY⟩ : ∃ Y, (X.alloc (.cells #[.nilIface, .int .u32 0, .int .u32 0, .slice none 0 0, .nilFunc] 149)).setRow (Bx + 1) (ew D 0 64 (.slice none 0 0) true Bx).toArray = Y := ⟨_, rfl⟩;have b4 := ae.out.begin (md := true) (Bx := Bx) (Wk := Bx + 1) (fr := 0) (tt := 64) b7 a5.symm (by omega) ab (by rw [← a5]; exact b8) hY.symm;have ap := zH b4
  have b5 : (X.alloc (.cells #[.nilIface, .int .u32 0, .int .u32 0, .slice none 0 0, .nilFunc] 149)).heap[Bx + 1]? = some (.cells #[.nilIface, .int .u32 0, .int .u32 0, .slice none 0 0, .nilFunc] 149 (0, 0)) := by
   rw [← a5, ← ab]; exact heap_alloc_new X _
  have b2 : ∀ {ρ : Operand → Value} {o : Oper}, o.op = .alloc 149 → (execOp ρ o).run Tryz.prog X = .ok (.value (.pointer (some ⟨Bx + 1, 0, none⟩))) (X.alloc (.cells #[.nilIface, .int .u32 0, .int .u32 0, .slice none 0 0, .nilFunc] 149)) := fun h => by
   rw [← a5, ← ab]; exact Rl h
  rw [a5];clear b4 b7 b8 ab ar ae;refine wp_region_list ?_;refine a9 (v := shI D) (w' := X) rfl (by first | rfl | go_simp) ?_; try simp only [pS]
  refine a9 (v := .func (.func 74) #[] #[.pointer (some ⟨Bx, 0, none⟩)]) (w' := X) rfl (by first | rfl | go_simp) ?_; try simp only [pS]
  refine a9 (v := .agg (ew D 0 64 (.slice none 0 0) true Bx).toArray) (w' := X) rfl (Kd (D := D) (fr := 0) (tt := 64) (f := 74) (c := .pointer (some ⟨Bx, 0, none⟩)) rfl rfl rfl rfl rfl) ?_; try simp only [pS]
  refine a9 (v := .pointer (some ⟨Bx + 1, 0, none⟩)) (w' := _) rfl (b2 rfl) ?_; try simp only [pS]
  refine wpList_store_row rfl 149 (.tmp 9) (.tmp 19) rfl (Bx + 1) (ew D 0 64 (.slice none 0 0) true Bx).toArray rfl rfl 149 _ b5 V7 rfl (Vw _ _ _ _ _) ?_; try simp only [pS]
  refine wpList_nil ?_;rw [hY];clear b5 b2 hY;obtain ⟨⟨L2, k1, k2⟩, k4⟩ := ap.out;have ad := zH (vx 2 (Nat.le_refl _) p a7.out 0 k1 ⟨HK.out, by simp, by simp⟩ (by have := HM.out; show m + 73 < _; omega) (by omega) (by omega));have b0 := zH k2; have aq := zH k4;clear k1 k2 k4 ap;obtain ⟨rb, aj⟩ : ∃ rb, bg 0 64 2 s [] [] p 0 = rb := ⟨_, rfl⟩;have a1 : Hid (Gy s p = rb) := zH aj;rw [aj] at ad;clear aj
  go_wp2_with (first | (refine a9 rfl (ax a7.out aq.out rfl rfl) ?_) | fail)
  refine ad.out.mono ?_;rintro e X3 ⟨rfl, ⟨L3, h3, m3⟩, b9⟩;have a0 := zH h3;have a6 := zH (b0.out.trans m3);have ay := zH b9;clear h3 m3 b9 ad b0 aq;by_cases he : rb.e = 0
  ·obtain ⟨v3, aa⟩ := a0.out.sh
   obtain ⟨nv, j1, j2, j3⟩ := a0.out.wk;obtain ⟨lv, g1, g2, g3⟩ := a0.out.ga;obtain ⟨L4, e1, e2, e3⟩ := aa.erase2 az.out a6.out;have ao : Hid (AllW L w D rb.s rb.ls rb.ns lv nv X3) := zH ⟨⟨L4, v3, e1, e2, fun g hg => (e3 g (by rw [g3 g hg]; omega)).1, fun g hg => (e3 g (by rw [j3 g hg]; omega)).1⟩, ⟨g2, fun g hg => (e3 g (by rw [g3 g hg]; omega)).2⟩, ⟨j2, fun g hg => (e3 g (by rw [j3 g hg]; omega)).2⟩, a0.out.okl, a0.out.okn⟩
   have HE : Hid (∀ X, AllW L w D rb.s rb.ls rb.ns lv nv X → Post (.returned (.tuple #[lv, nv, .int .i64 0])) X) := zH (fun X hX => by
    have h1 := HP.out lv nv X;have e0 : pp s p = 0 := (by unfold pp; rw [a4.out, if_neg (by simp), a1.out, he]);have e1 : ky s p = rb.s := (by unfold ky; rw [a4.out, if_neg (by simp), a1.out]);have e2 : sz s p = rb.ls := (by unfold sz; rw [e0, if_neg (by simp), a1.out]);have e3 : td s p = rb.ns := (by unfold td; rw [e0, if_neg (by simp), a1.out]);rw [e0, e1, e2, e3] at h1
    exact h1 hX ay.out.lim)
   have c0 : ∀ Y, Blk Y Bx [lv] 95 → Y.cell? ⟨Bx, 0, none⟩ = some lv := fun Y hY => hY.cell rfl
   have ag : (rb.e : Int) = 0 := (by omega);have av := zH g1; have aw := zH j1;obtain ⟨am, a2, el, -⟩ := d6 g2;obtain ⟨an, a3, en, -⟩ := d6 j2;rw [ag];clear he ag HP a0 aa a6 g1 j1 g2 j2 g3 j3 e1 e2 e3 a1 c0;subst el en;obtain ⟨nl, ah⟩ : ∃ n, rb.ls.length = n := ⟨_, rfl⟩;obtain ⟨nn, ai⟩ : ∃ n, rb.ns.length = n := ⟨_, rfl⟩;rw [ah, ai] at ao HE;rw [ah] at av;rw [ai] at aw;clear ah ai
   go_upto_region 9 with fail
   have af := ao.out.drew;refine gS (.take 0 (.take 1 (.take 2 (.take 3 (.take 4 (.take 5 (.nil))))))) (fun X => Blk X Bx [.slice am nl a2] 95 ∧ Blk X (Bx + 1) (ew D 0 64 (.slice an nn a3) true Bx) 149 ∧ True) (⟨av.out.drew, aw.out.drew, trivial⟩) ?_;refine gU (.slice am nl a2) rfl (fun X hX => Xh rfl rfl (hX.1.cell rfl)) ?_;refine gU (.pointer (some ⟨Bx + 1, 3, none⟩)) rfl (fun X hX => ze (by omega) rfl rfl) ?_;refine gU (.slice an nn a3) rfl (fun X hX => ib rfl rfl (hX.2.1.cell rfl)) ?_;refine gT (.slice am nl a2) ?_;refine gT (.slice an nn a3) ?_;refine gT (.int .i64 0) ?_;refine au ?_
   go_wp2_with fail
   exact HE.out _ af
  ·have HE : Hid (Post (.returned (.tuple #[.slice none 0 0, .slice none 0 0, .int .i64 (rb.e : Int)])) X3) := zH (by
    obtain ⟨v3, aa⟩ := a0.out.sh;have h1 := HP.out (.slice none 0 0) (.slice none 0 0) X3;have e0 : pp s p = rb.e := (by unfold pp; rw [a4.out, if_neg (by simp), a1.out]);have e1 : ky s p = rb.s := (by unfold ky; rw [a4.out, if_neg (by simp), a1.out]);have e2 : sz s p = [] := (by unfold sz; rw [e0, if_pos he]);have e3 : td s p = [] := (by unfold td; rw [e0, if_pos he]);rw [e0, e1, e2, e3] at h1
    exact h1 (B9 (aa.erase az.out a6.out)) ay.out.lim)
   have ag : ¬ (rb.e : Int) = 0 := (by omega);clear he HP a0 a6
   go_wp2_with fail
   exact HE.out
 ·have ba : ¬ (re : Int) = 0 := by omega
  have HE : Hid (Post (.returned (.tuple #[.slice none 0 0, .slice none 0 0, .int .i64 (re : Int)])) W2) := zH (by
   obtain ⟨⟨v2, k1, k2⟩, k3⟩ := ae.out;have h1 := HP.out (.slice none 0 0) (.slice none 0 0) W2;have e0 : pp s p = re := (by unfold pp; rw [a4.out, if_pos h0]);have e1 : ky s p = s := (by unfold ky; rw [a4.out, if_pos h0]);have e2 : sz s p = [] := (by unfold sz; rw [e0, if_pos h0]);have e3 : td s p = [] := (by unfold td; rw [e0, if_pos h0]);rw [e0, e1, e2, e3] at h1
   exact h1 (B9 ⟨L, v2, k1, k2⟩) (HK.out.mono (by omega) HM.out))
  clear HP h0
  go_wp2_with fail
  exact HE.out
end Go.Proofs.YtjgjohdeeeoeoaaGreatDoor
