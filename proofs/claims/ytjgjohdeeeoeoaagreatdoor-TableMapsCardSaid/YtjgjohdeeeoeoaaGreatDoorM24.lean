/- Inodes: the document's May. -/
import Derived.Test.YtjgjohdeeeoeoaaGreatDoorM23
set_option linter.all false
namespace Go.Proofs.YtjgjohdeeeoeoaaGreatDoor
open Go.RowKit
variable {a : Act} {ops : Array Oper} {Q : Exit → Act → World → Prop} {rest : List Oper} {o : Oper} {w : World}
theorem ag {S : World → Prop} (v : Value) (hw : Region.wanted o (yielded ops a.tmps) = true) (hS : S w) (hrun : ∀ w, S w → (execOp a.eval o).run Tryz.prog w = .ok (.value v) w)
  (hK : wpList Tryz.prog ops Q rest (a.put o.dst v) w) : wpList Tryz.prog ops Q (o :: rest) a w := aq hw (hrun w hS) hK
theorem Vq (hw : Region.wanted o (yielded ops a.tmps) = false)
  (hK : wpList Tryz.prog ops Q rest (a.put o.dst undef) w) : wpList Tryz.prog ops Q (o :: rest) a w := by
 unfold wpList;rw [if_neg (by simp [hw])];exact hK
theorem Vp (hw : Region.wanted o (yielded ops a.tmps) = true) (f : FuncId) (args : Array Value) (hrun : (execOp a.eval o).run Tryz.prog w = .ok (.enter f args) w)
  (C : Value → World → Prop) (hc : Calls Tryz.prog f args w fun e w' => ∃ v, e = .returned v ∧ C v w') (hK : ∀ v w', C v w' → wpList Tryz.prog ops Q rest (a.put o.dst v) w') : wpList Tryz.prog ops Q (o :: rest) a w := by
 unfold wpList;rw [if_pos hw];refine .inl ?_;unfold Oper.wp;rw [hrun];exact hc.mono fun e w' ⟨v, e1, h1⟩ => by subst e1; exact hK v w' h1
theorem aj {u : Value} (hu : u = undef) (hw : Region.wanted o (yielded ops a.tmps) = false)
  (hK : wpList Tryz.prog ops Q rest (a.put o.dst u) w) : wpList Tryz.prog ops Q (o :: rest) a w := by subst hu; exact Vq hw hK
def okI (n : Ino) : Bool := decide (1 ≤ n.kind ∧ n.kind ≤ 3) && decide (n.size ≤ 32768) && decide (n.kind = 3 → 1 ≤ n.size ∧ n.size ≤ 128)
set_option maxRecDepth 100000 in
set_option maxHeartbeats 8000000 in
theorem Bn (n : Ino) (h : n.OK) (w : World) : Calls Tryz.prog 42 #[.agg (af n).toArray] w fun e w' => e = .returned (.bool (ij n)) ∧ Below w.heap.size w w' := by
 have HN := zH h; have ab := zH h.root;have aa := zH (Blk.new w (af n) 62);have HW : Hid (Below w.heap.size w (w.alloc (.cells (af n).toArray 62))) := zH ((Below.refl _ _).alloc (Nat.le_refl _) _);obtain ⟨b, hb⟩ : ∃ b, ij n = b := ⟨_, rfl⟩;have a9 : Hid (b = (eqI n zeroI || (okI n && me n.root))) := zH hb.symm;rw [hb];generalize hPost : (fun e w' => e = Ending.returned (.bool b) ∧ Below w.heap.size w w') = Post;have HP : Hid (∀ c, b = c → ∀ w', Below w.heap.size w w' → Post (.returned (.bool c)) w') := zH fun c hc w' h => by rw [← hPost, hc]; exact ⟨rfl, h⟩
 have ad : Hid (∀ W, Calls Tryz.prog 12 #[.agg (a8 n.root).toArray] W fun e w' => e = .returned (.bool (fz n.root)) ∧ Below W.heap.size W w') := zH (fun W => by rw [Yb h.root.len]; exact Um n.root h.root W);clear h hb hPost;go_enter Tryz.func42, Tryz.ntmps42
 go_upto_region 1 with fail
 obtain ⟨G, hG⟩ : ∃ G, w.heap.size = G := ⟨_, rfl⟩;rw [hG] at aa ⊢;generalize (w.alloc (.cells (af n).toArray 62)) = W at aa HW ⊢;have HB : Hid (∀ X, X = W → Blk X G (af n) 62) := zH (fun X hX => hX ▸ aa.out);have HC : Hid (∀ {w2}, Below W.heap.size W w2 → Below w.heap.size w w2) := zH (fun hb => HW.out.trans (hb.mono HW.out.size));obtain ⟨z0, ao⟩ : ∃ z, eqI n zeroI = z := ⟨_, rfl⟩;have au := zH ao;have a5 : Hid (okI n = (decide (1 ≤ n.kind ∧ n.kind ≤ 3) && decide (n.size ≤ 32768) && decide (n.kind = 3 → 1 ≤ n.size ∧ n.size ≤ 128))) := zH rfl;have a4 : Hid (me n.root = (eqP n.root zeroP || (decide (n.root.kind = 3) && decide (n.root.level = 2) && fz n.root))) := zH rfl;have ai : ∀ X, X = W → X.cell? ⟨G, 0, none⟩ = some (.int .u8 (n.kind : Int)) := fun X hX => (HB.out X hX).cell (j := 0) rfl
 have al : ∀ X, X = W → X.cell? ⟨G, 2, none⟩ = some (.int .u32 (n.size : Int)) := fun X hX => (HB.out X hX).cell (j := 2) rfl
 have am : ∀ X, X = W → X.cell? ⟨G, 3, none⟩ = some (.int .u8 (n.root.kind : Int)) := fun X hX => (HB.out X hX).cell (j := 3) rfl
 have an : ∀ X, X = W → X.cell? ⟨G, 4, none⟩ = some (.int .u8 (n.root.level : Int)) := fun X hX => (HB.out X hX).cell (j := 4) rfl
 obtain ⟨kk, av⟩ : ∃ k, n.kind = k := ⟨_, rfl⟩;obtain ⟨ss, b2⟩ : ∃ k, n.size = k := ⟨_, rfl⟩;obtain ⟨pk, ay⟩ : ∃ k, n.root.kind = k := ⟨_, rfl⟩;obtain ⟨pl, b0⟩ : ∃ k, n.root.level = k := ⟨_, rfl⟩;obtain ⟨oo, ax⟩ : ∃ k, okI n = k := ⟨_, rfl⟩;obtain ⟨rr, b1⟩ : ∃ k, me n.root = k := ⟨_, rfl⟩;obtain ⟨mm, aw⟩ : ∃ k, fz n.root = k := ⟨_, rfl⟩;obtain ⟨zp, ap⟩ : ∃ k, eqP n.root zeroP = k := ⟨_, rfl⟩;have HZ := zH ap;rw [av] at ai a5;rw [b2] at al a5;rw [ay] at am a4;rw [b0] at an a4;rw [ax] at a5 a9;rw [b1] at a4 a9;rw [aw] at a4 ad;rw [ap] at a4;rw [ao] at a9;have a3 := zH ai; have a7 := zH al; have ae := zH am; have ar := zH an;clear av b2 ay b0 ax b1 aw ap ao hG ai al am an aa;obtain ⟨U, hU⟩ : ∃ u, u = undef := ⟨_, rfl⟩;have HU := zH hU;clear hU;cases z0
 ·have a6 : Hid (b = (oo && rr)) := zH (by rw [a9.out]; rfl)
  clear a9
  go_upto_region 3 with (first | (refine aq (by rfl) (Kl HN.out (HB.out _ rfl) rfl rfl) ?_) | (refine aq (by rfl) (qg rfl) ?_) | (refine aq (by rfl) (ua au.out rfl rfl rfl HN.out zeroI_ok) ?_) | fail)
  simp only [Act.put, List.setIfInBounds_toArray, List.set_cons_zero, List.set_cons_succ]
  go_cut [33] (fun v wx => v = .bool (!oo) ∧ wx = W)
  case first =>
   have a0 : W = W := rfl;by_cases k1 : kk < 1
   ·obtain ⟨z, hz⟩ : ∃ z, decide ((kk : Int) < 1) = z := ⟨_, rfl⟩
    have a2 := zH hz;have a1 : Hid (z = true) := zH (by rw [← hz]; simp; omega);have HO : Hid (z = !oo) := zH (by rw [a1.out, a5.out, decide_eq_false (by omega : ¬ (1 ≤ kk ∧ kk ≤ 3))]; simp);clear hz;refine wp_region_list ?_;refine ag (S := fun X => X = W) (.pointer (some ⟨G, 0, none⟩)) (by rfl) a0 (fun X hX => by first | rfl | go_simp) ?_; try simp only [pS]
    refine ag (S := fun X => X = W) (.int .u8 (kk : Int)) (by rfl) a0 (fun X hX => az Tryz.underlying5 rfl rfl (a3.out X hX)) ?_; try simp only [pS]
    refine ag (S := fun X => X = W) (.bool z) (by rfl) a0 (fun X hX => (by rw [← a2.out]; first | rfl | go_simp)) ?_; try simp only [pS]
    refine ag (S := fun X => X = W) (.bool z) (by rfl) a0 (fun X hX => by first | rfl | go_simp) ?_; try simp only [pS]
    refine aj HU.out (by first | (rw [HU.out]; rfl) | (rw [a1.out]; rfl) | rfl) ?_; try simp only [pS]
    refine aj HU.out (by first | (rw [HU.out]; rfl) | (rw [a1.out]; rfl) | rfl) ?_; try simp only [pS]
    refine aj HU.out (by first | (rw [HU.out]; rfl) | (rw [a1.out]; rfl) | rfl) ?_; try simp only [pS]
    refine ag (S := fun X => X = W) (.bool z) (by rfl) a0 (fun X hX => (by rw [a1.out]; first | rfl | go_simp)) ?_; try simp only [pS]
    refine ag (S := fun X => X = W) (.bool z) (by rfl) a0 (fun X hX => by first | rfl | go_simp) ?_; try simp only [pS]
    refine aj HU.out (by first | (rw [HU.out]; rfl) | (rw [a1.out]; rfl) | rfl) ?_; try simp only [pS]
    refine aj HU.out (by first | (rw [HU.out]; rfl) | (rw [a1.out]; rfl) | rfl) ?_; try simp only [pS]
    refine aj HU.out (by first | (rw [HU.out]; rfl) | (rw [a1.out]; rfl) | rfl) ?_; try simp only [pS]
    refine ag (S := fun X => X = W) (.bool z) (by rfl) a0 (fun X hX => (by rw [a1.out]; first | rfl | go_simp)) ?_; try simp only [pS]
    refine ag (S := fun X => X = W) (.bool z) (by rfl) a0 (fun X hX => by first | rfl | go_simp) ?_; try simp only [pS]
    refine aj HU.out (by first | (rw [HU.out]; rfl) | (rw [a1.out]; rfl) | rfl) ?_; try simp only [pS]
    refine aj HU.out (by first | (rw [HU.out]; rfl) | (rw [a1.out]; rfl) | rfl) ?_; try simp only [pS]
    refine aj HU.out (by first | (rw [HU.out]; rfl) | (rw [a1.out]; rfl) | rfl) ?_; try simp only [pS]
    refine aj HU.out (by first | (rw [HU.out]; rfl) | (rw [a1.out]; rfl) | rfl) ?_; try simp only [pS]
    refine aj HU.out (by first | (rw [HU.out]; rfl) | (rw [a1.out]; rfl) | rfl) ?_; try simp only [pS]
    refine aj HU.out (by first | (rw [HU.out]; rfl) | (rw [a1.out]; rfl) | rfl) ?_; try simp only [pS]
    refine aj HU.out (by first | (rw [HU.out]; rfl) | (rw [a1.out]; rfl) | rfl) ?_; try simp only [pS]
    refine aj HU.out (by first | (rw [HU.out]; rfl) | (rw [a1.out]; rfl) | rfl) ?_; try simp only [pS]
    refine aj HU.out (by first | (rw [HU.out]; rfl) | (rw [a1.out]; rfl) | rfl) ?_; try simp only [pS]
    refine aj HU.out (by first | (rw [HU.out]; rfl) | (rw [a1.out]; rfl) | rfl) ?_; try simp only [pS]
    refine aj HU.out (by first | (rw [HU.out]; rfl) | (rw [a1.out]; rfl) | rfl) ?_; try simp only [pS]
    refine aj HU.out (by first | (rw [HU.out]; rfl) | (rw [a1.out]; rfl) | rfl) ?_; try simp only [pS]
    refine aj HU.out (by first | (rw [HU.out]; rfl) | (rw [a1.out]; rfl) | rfl) ?_; try simp only [pS]
    refine ag (S := fun X => X = W) (.bool z) (by rfl) a0 (fun X hX => (by rw [a1.out]; first | rfl | go_simp)) ?_; try simp only [pS]
    refine wpList_nil ?_
    go_wp2_with fail
    go_meet
    case rel => exact ⟨by rw [HO.out], rfl⟩
   by_cases k2 : 3 < kk
   ·obtain ⟨z, hz⟩ : ∃ z, decide ((3 : Int) < (kk : Int)) = z := ⟨_, rfl⟩
    have a2 := zH hz;have a1 : Hid (z = true) := zH (by rw [← hz]; simp; omega);have HO : Hid (z = !oo) := zH (by rw [a1.out, a5.out, decide_eq_false (by omega : ¬ (1 ≤ kk ∧ kk ≤ 3))]; simp);have H1 : Hid (decide ((kk : Int) < 1) = false) := zH (decide_eq_false (by omega));clear hz;refine wp_region_list ?_;refine ag (S := fun X => X = W) (.pointer (some ⟨G, 0, none⟩)) (by rfl) a0 (fun X hX => by first | rfl | go_simp) ?_; try simp only [pS]
    refine ag (S := fun X => X = W) (.int .u8 (kk : Int)) (by rfl) a0 (fun X hX => az Tryz.underlying5 rfl rfl (a3.out X hX)) ?_; try simp only [pS]
    refine ag (S := fun X => X = W) (.bool false) (by rfl) a0 (fun X hX => (by have h0 := H1.out; go_simp)) ?_; try simp only [pS]
    refine ag (S := fun X => X = W) (.bool false) (by rfl) a0 (fun X hX => by first | rfl | go_simp) ?_; try simp only [pS]
    refine ag (S := fun X => X = W) (.pointer (some ⟨G, 0, none⟩)) (by rfl) a0 (fun X hX => by first | rfl | go_simp) ?_; try simp only [pS]
    refine ag (S := fun X => X = W) (.int .u8 (kk : Int)) (by rfl) a0 (fun X hX => az Tryz.underlying5 rfl rfl (a3.out X hX)) ?_; try simp only [pS]
    refine ag (S := fun X => X = W) (.bool z) (by rfl) a0 (fun X hX => (by rw [← a2.out]; first | rfl | go_simp)) ?_; try simp only [pS]
    refine ag (S := fun X => X = W) (.bool z) (by rfl) a0 (fun X hX => by first | rfl | go_simp) ?_; try simp only [pS]
    refine ag (S := fun X => X = W) (.bool z) (by rfl) a0 (fun X hX => by first | rfl | go_simp) ?_; try simp only [pS]
    refine aj HU.out (by first | (rw [HU.out]; rfl) | (rw [a1.out]; rfl) | rfl) ?_; try simp only [pS]
    refine aj HU.out (by first | (rw [HU.out]; rfl) | (rw [a1.out]; rfl) | rfl) ?_; try simp only [pS]
    refine aj HU.out (by first | (rw [HU.out]; rfl) | (rw [a1.out]; rfl) | rfl) ?_; try simp only [pS]
    refine ag (S := fun X => X = W) (.bool z) (by rfl) a0 (fun X hX => (by rw [a1.out]; first | rfl | go_simp)) ?_; try simp only [pS]
    refine ag (S := fun X => X = W) (.bool z) (by rfl) a0 (fun X hX => by first | rfl | go_simp) ?_; try simp only [pS]
    refine aj HU.out (by first | (rw [HU.out]; rfl) | (rw [a1.out]; rfl) | rfl) ?_; try simp only [pS]
    refine aj HU.out (by first | (rw [HU.out]; rfl) | (rw [a1.out]; rfl) | rfl) ?_; try simp only [pS]
    refine aj HU.out (by first | (rw [HU.out]; rfl) | (rw [a1.out]; rfl) | rfl) ?_; try simp only [pS]
    refine aj HU.out (by first | (rw [HU.out]; rfl) | (rw [a1.out]; rfl) | rfl) ?_; try simp only [pS]
    refine aj HU.out (by first | (rw [HU.out]; rfl) | (rw [a1.out]; rfl) | rfl) ?_; try simp only [pS]
    refine aj HU.out (by first | (rw [HU.out]; rfl) | (rw [a1.out]; rfl) | rfl) ?_; try simp only [pS]
    refine aj HU.out (by first | (rw [HU.out]; rfl) | (rw [a1.out]; rfl) | rfl) ?_; try simp only [pS]
    refine aj HU.out (by first | (rw [HU.out]; rfl) | (rw [a1.out]; rfl) | rfl) ?_; try simp only [pS]
    refine aj HU.out (by first | (rw [HU.out]; rfl) | (rw [a1.out]; rfl) | rfl) ?_; try simp only [pS]
    refine aj HU.out (by first | (rw [HU.out]; rfl) | (rw [a1.out]; rfl) | rfl) ?_; try simp only [pS]
    refine aj HU.out (by first | (rw [HU.out]; rfl) | (rw [a1.out]; rfl) | rfl) ?_; try simp only [pS]
    refine aj HU.out (by first | (rw [HU.out]; rfl) | (rw [a1.out]; rfl) | rfl) ?_; try simp only [pS]
    refine aj HU.out (by first | (rw [HU.out]; rfl) | (rw [a1.out]; rfl) | rfl) ?_; try simp only [pS]
    refine ag (S := fun X => X = W) (.bool z) (by rfl) a0 (fun X hX => (by rw [a1.out]; first | rfl | go_simp)) ?_; try simp only [pS]
    refine wpList_nil ?_
    go_wp2_with fail
    go_meet
    case rel => exact ⟨by rw [HO.out], rfl⟩
   by_cases k3 : 32768 < ss
   ·obtain ⟨z, hz⟩ : ∃ z, decide ((32768 : Int) < (ss : Int)) = z := ⟨_, rfl⟩
    have a2 := zH hz;have a1 : Hid (z = true) := zH (by rw [← hz]; simp; omega);have HO : Hid (z = !oo) := zH (by rw [a1.out, a5.out, decide_eq_false (by omega : ¬ (ss ≤ 32768))]; simp);have H1 : Hid (decide ((kk : Int) < 1) = false) := zH (decide_eq_false (by omega));have H2 : Hid (decide ((3 : Int) < (kk : Int)) = false) := zH (decide_eq_false (by omega));clear hz;refine wp_region_list ?_;refine ag (S := fun X => X = W) (.pointer (some ⟨G, 0, none⟩)) (by rfl) a0 (fun X hX => by first | rfl | go_simp) ?_; try simp only [pS]
    refine ag (S := fun X => X = W) (.int .u8 (kk : Int)) (by rfl) a0 (fun X hX => az Tryz.underlying5 rfl rfl (a3.out X hX)) ?_; try simp only [pS]
    refine ag (S := fun X => X = W) (.bool false) (by rfl) a0 (fun X hX => (by have h0 := H1.out; go_simp)) ?_; try simp only [pS]
    refine ag (S := fun X => X = W) (.bool false) (by rfl) a0 (fun X hX => by first | rfl | go_simp) ?_; try simp only [pS]
    refine ag (S := fun X => X = W) (.pointer (some ⟨G, 0, none⟩)) (by rfl) a0 (fun X hX => by first | rfl | go_simp) ?_; try simp only [pS]
    refine ag (S := fun X => X = W) (.int .u8 (kk : Int)) (by rfl) a0 (fun X hX => az Tryz.underlying5 rfl rfl (a3.out X hX)) ?_; try simp only [pS]
    refine ag (S := fun X => X = W) (.bool false) (by rfl) a0 (fun X hX => (by have h0 := H2.out; go_simp)) ?_; try simp only [pS]
    refine ag (S := fun X => X = W) (.bool false) (by rfl) a0 (fun X hX => by first | rfl | go_simp) ?_; try simp only [pS]
    refine ag (S := fun X => X = W) (.bool false) (by rfl) a0 (fun X hX => by first | rfl | go_simp) ?_; try simp only [pS]
    refine ag (S := fun X => X = W) (.pointer (some ⟨G, 2, none⟩)) (by rfl) a0 (fun X hX => by first | rfl | go_simp) ?_; try simp only [pS]
    refine ag (S := fun X => X = W) (.int .u32 (ss : Int)) (by rfl) a0 (fun X hX => az Tryz.underlying24 rfl rfl (a7.out X hX)) ?_; try simp only [pS]
    refine ag (S := fun X => X = W) (.bool z) (by rfl) a0 (fun X hX => (by rw [← a2.out]; first | rfl | go_simp)) ?_; try simp only [pS]
    refine ag (S := fun X => X = W) (.bool z) (by rfl) a0 (fun X hX => by first | rfl | go_simp) ?_; try simp only [pS]
    refine ag (S := fun X => X = W) (.bool z) (by rfl) a0 (fun X hX => by first | rfl | go_simp) ?_; try simp only [pS]
    refine aj HU.out (by first | (rw [HU.out]; rfl) | (rw [a1.out]; rfl) | rfl) ?_; try simp only [pS]
    refine aj HU.out (by first | (rw [HU.out]; rfl) | (rw [a1.out]; rfl) | rfl) ?_; try simp only [pS]
    refine aj HU.out (by first | (rw [HU.out]; rfl) | (rw [a1.out]; rfl) | rfl) ?_; try simp only [pS]
    refine aj HU.out (by first | (rw [HU.out]; rfl) | (rw [a1.out]; rfl) | rfl) ?_; try simp only [pS]
    refine aj HU.out (by first | (rw [HU.out]; rfl) | (rw [a1.out]; rfl) | rfl) ?_; try simp only [pS]
    refine aj HU.out (by first | (rw [HU.out]; rfl) | (rw [a1.out]; rfl) | rfl) ?_; try simp only [pS]
    refine aj HU.out (by first | (rw [HU.out]; rfl) | (rw [a1.out]; rfl) | rfl) ?_; try simp only [pS]
    refine aj HU.out (by first | (rw [HU.out]; rfl) | (rw [a1.out]; rfl) | rfl) ?_; try simp only [pS]
    refine aj HU.out (by first | (rw [HU.out]; rfl) | (rw [a1.out]; rfl) | rfl) ?_; try simp only [pS]
    refine aj HU.out (by first | (rw [HU.out]; rfl) | (rw [a1.out]; rfl) | rfl) ?_; try simp only [pS]
    refine aj HU.out (by first | (rw [HU.out]; rfl) | (rw [a1.out]; rfl) | rfl) ?_; try simp only [pS]
    refine aj HU.out (by first | (rw [HU.out]; rfl) | (rw [a1.out]; rfl) | rfl) ?_; try simp only [pS]
    refine aj HU.out (by first | (rw [HU.out]; rfl) | (rw [a1.out]; rfl) | rfl) ?_; try simp only [pS]
    refine ag (S := fun X => X = W) (.bool z) (by rfl) a0 (fun X hX => (by rw [a1.out]; first | rfl | go_simp)) ?_; try simp only [pS]
    refine wpList_nil ?_
    go_wp2_with fail
    go_meet
    case rel => exact ⟨by rw [HO.out], rfl⟩
   have H1 : Hid (decide ((kk : Int) < 1) = false) := zH (decide_eq_false (by omega));have H2 : Hid (decide ((3 : Int) < (kk : Int)) = false) := zH (decide_eq_false (by omega));have H3 : Hid (decide ((32768 : Int) < (ss : Int)) = false) := zH (decide_eq_false (by omega));have ah : Hid (oo = decide (kk = 3 → 1 ≤ ss ∧ ss ≤ 128)) := zH (by rw [a5.out, decide_eq_true (by omega : 1 ≤ kk ∧ kk ≤ 3), decide_eq_true (by omega : ss ≤ 32768)]; rfl);by_cases k4 : kk = 3
   ·have H4 : Hid (decide ((kk : Int) = 3) = true) := zH (decide_eq_true (by omega))
    by_cases k5 : ss < 1
    ·obtain ⟨z, hz⟩ : ∃ z, decide ((ss : Int) < 1) = z := ⟨_, rfl⟩
     have a2 := zH hz;have a1 : Hid (z = true) := zH (by rw [← hz]; simp; omega);have HO : Hid (z = !oo) := zH (by rw [a1.out, ah.out, decide_eq_false (by omega : ¬ (kk = 3 → 1 ≤ ss ∧ ss ≤ 128))]; rfl);clear hz;refine wp_region_list ?_;refine ag (S := fun X => X = W) (.pointer (some ⟨G, 0, none⟩)) (by rfl) a0 (fun X hX => by first | rfl | go_simp) ?_; try simp only [pS]
     refine ag (S := fun X => X = W) (.int .u8 (kk : Int)) (by rfl) a0 (fun X hX => az Tryz.underlying5 rfl rfl (a3.out X hX)) ?_; try simp only [pS]
     refine ag (S := fun X => X = W) (.bool false) (by rfl) a0 (fun X hX => (by have h0 := H1.out; go_simp)) ?_; try simp only [pS]
     refine ag (S := fun X => X = W) (.bool false) (by rfl) a0 (fun X hX => by first | rfl | go_simp) ?_; try simp only [pS]
     refine ag (S := fun X => X = W) (.pointer (some ⟨G, 0, none⟩)) (by rfl) a0 (fun X hX => by first | rfl | go_simp) ?_; try simp only [pS]
     refine ag (S := fun X => X = W) (.int .u8 (kk : Int)) (by rfl) a0 (fun X hX => az Tryz.underlying5 rfl rfl (a3.out X hX)) ?_; try simp only [pS]
     refine ag (S := fun X => X = W) (.bool false) (by rfl) a0 (fun X hX => (by have h0 := H2.out; go_simp)) ?_; try simp only [pS]
     refine ag (S := fun X => X = W) (.bool false) (by rfl) a0 (fun X hX => by first | rfl | go_simp) ?_; try simp only [pS]
     refine ag (S := fun X => X = W) (.bool false) (by rfl) a0 (fun X hX => by first | rfl | go_simp) ?_; try simp only [pS]
     refine ag (S := fun X => X = W) (.pointer (some ⟨G, 2, none⟩)) (by rfl) a0 (fun X hX => by first | rfl | go_simp) ?_; try simp only [pS]
     refine ag (S := fun X => X = W) (.int .u32 (ss : Int)) (by rfl) a0 (fun X hX => az Tryz.underlying24 rfl rfl (a7.out X hX)) ?_; try simp only [pS]
     refine ag (S := fun X => X = W) (.bool false) (by rfl) a0 (fun X hX => (by have h0 := H3.out; go_simp)) ?_; try simp only [pS]
     refine ag (S := fun X => X = W) (.bool false) (by rfl) a0 (fun X hX => by first | rfl | go_simp) ?_; try simp only [pS]
     refine ag (S := fun X => X = W) (.bool false) (by rfl) a0 (fun X hX => by first | rfl | go_simp) ?_; try simp only [pS]
     refine ag (S := fun X => X = W) (.pointer (some ⟨G, 0, none⟩)) (by rfl) a0 (fun X hX => by first | rfl | go_simp) ?_; try simp only [pS]
     refine ag (S := fun X => X = W) (.int .u8 (kk : Int)) (by rfl) a0 (fun X hX => az Tryz.underlying5 rfl rfl (a3.out X hX)) ?_; try simp only [pS]
     refine ag (S := fun X => X = W) (.bool true) (by rfl) a0 (fun X hX => (by have h0 := H4.out; go_simp)) ?_; try simp only [pS]
     refine ag (S := fun X => X = W) (.bool true) (by rfl) a0 (fun X hX => by first | rfl | go_simp) ?_; try simp only [pS]
     refine ag (S := fun X => X = W) (.pointer (some ⟨G, 2, none⟩)) (by rfl) a0 (fun X hX => by first | rfl | go_simp) ?_; try simp only [pS]
     refine ag (S := fun X => X = W) (.int .u32 (ss : Int)) (by rfl) a0 (fun X hX => az Tryz.underlying24 rfl rfl (a7.out X hX)) ?_; try simp only [pS]
     refine ag (S := fun X => X = W) (.bool z) (by rfl) a0 (fun X hX => (by rw [← a2.out]; first | rfl | go_simp)) ?_; try simp only [pS]
     refine ag (S := fun X => X = W) (.bool z) (by rfl) a0 (fun X hX => by first | rfl | go_simp) ?_; try simp only [pS]
     refine aj HU.out (by first | (rw [HU.out]; rfl) | (rw [a1.out]; rfl) | rfl) ?_; try simp only [pS]
     refine aj HU.out (by first | (rw [HU.out]; rfl) | (rw [a1.out]; rfl) | rfl) ?_; try simp only [pS]
     refine aj HU.out (by first | (rw [HU.out]; rfl) | (rw [a1.out]; rfl) | rfl) ?_; try simp only [pS]
     refine ag (S := fun X => X = W) (.bool z) (by rfl) a0 (fun X hX => (by rw [a1.out]; first | rfl | go_simp)) ?_; try simp only [pS]
     refine ag (S := fun X => X = W) (.bool z) (by rfl) a0 (fun X hX => by first | rfl | go_simp) ?_; try simp only [pS]
     refine ag (S := fun X => X = W) (.bool z) (by rfl) a0 (fun X hX => by first | rfl | go_simp) ?_; try simp only [pS]
     refine wpList_nil ?_
     go_wp2_with fail
     go_meet
     case rel => exact ⟨by rw [HO.out], rfl⟩
    ·obtain ⟨z, hz⟩ : ∃ z, decide ((128 : Int) < (ss : Int)) = z := ⟨_, rfl⟩
     have a2 := zH hz;have H5 : Hid (decide ((ss : Int) < 1) = false) := zH (decide_eq_false (by omega));have HO : Hid (z = !oo) := zH (by rw [← hz, ah.out, Bool.eq_iff_iff]; simp; omega);clear hz;refine wp_region_list ?_;refine ag (S := fun X => X = W) (.pointer (some ⟨G, 0, none⟩)) (by rfl) a0 (fun X hX => by first | rfl | go_simp) ?_; try simp only [pS]
     refine ag (S := fun X => X = W) (.int .u8 (kk : Int)) (by rfl) a0 (fun X hX => az Tryz.underlying5 rfl rfl (a3.out X hX)) ?_; try simp only [pS]
     refine ag (S := fun X => X = W) (.bool false) (by rfl) a0 (fun X hX => (by have h0 := H1.out; go_simp)) ?_; try simp only [pS]
     refine ag (S := fun X => X = W) (.bool false) (by rfl) a0 (fun X hX => by first | rfl | go_simp) ?_; try simp only [pS]
     refine ag (S := fun X => X = W) (.pointer (some ⟨G, 0, none⟩)) (by rfl) a0 (fun X hX => by first | rfl | go_simp) ?_; try simp only [pS]
     refine ag (S := fun X => X = W) (.int .u8 (kk : Int)) (by rfl) a0 (fun X hX => az Tryz.underlying5 rfl rfl (a3.out X hX)) ?_; try simp only [pS]
     refine ag (S := fun X => X = W) (.bool false) (by rfl) a0 (fun X hX => (by have h0 := H2.out; go_simp)) ?_; try simp only [pS]
     refine ag (S := fun X => X = W) (.bool false) (by rfl) a0 (fun X hX => by first | rfl | go_simp) ?_; try simp only [pS]
     refine ag (S := fun X => X = W) (.bool false) (by rfl) a0 (fun X hX => by first | rfl | go_simp) ?_; try simp only [pS]
     refine ag (S := fun X => X = W) (.pointer (some ⟨G, 2, none⟩)) (by rfl) a0 (fun X hX => by first | rfl | go_simp) ?_; try simp only [pS]
     refine ag (S := fun X => X = W) (.int .u32 (ss : Int)) (by rfl) a0 (fun X hX => az Tryz.underlying24 rfl rfl (a7.out X hX)) ?_; try simp only [pS]
     refine ag (S := fun X => X = W) (.bool false) (by rfl) a0 (fun X hX => (by have h0 := H3.out; go_simp)) ?_; try simp only [pS]
     refine ag (S := fun X => X = W) (.bool false) (by rfl) a0 (fun X hX => by first | rfl | go_simp) ?_; try simp only [pS]
     refine ag (S := fun X => X = W) (.bool false) (by rfl) a0 (fun X hX => by first | rfl | go_simp) ?_; try simp only [pS]
     refine ag (S := fun X => X = W) (.pointer (some ⟨G, 0, none⟩)) (by rfl) a0 (fun X hX => by first | rfl | go_simp) ?_; try simp only [pS]
     refine ag (S := fun X => X = W) (.int .u8 (kk : Int)) (by rfl) a0 (fun X hX => az Tryz.underlying5 rfl rfl (a3.out X hX)) ?_; try simp only [pS]
     refine ag (S := fun X => X = W) (.bool true) (by rfl) a0 (fun X hX => (by have h0 := H4.out; go_simp)) ?_; try simp only [pS]
     refine ag (S := fun X => X = W) (.bool true) (by rfl) a0 (fun X hX => by first | rfl | go_simp) ?_; try simp only [pS]
     refine ag (S := fun X => X = W) (.pointer (some ⟨G, 2, none⟩)) (by rfl) a0 (fun X hX => by first | rfl | go_simp) ?_; try simp only [pS]
     refine ag (S := fun X => X = W) (.int .u32 (ss : Int)) (by rfl) a0 (fun X hX => az Tryz.underlying24 rfl rfl (a7.out X hX)) ?_; try simp only [pS]
     refine ag (S := fun X => X = W) (.bool false) (by rfl) a0 (fun X hX => (by have h0 := H5.out; go_simp)) ?_; try simp only [pS]
     refine ag (S := fun X => X = W) (.bool false) (by rfl) a0 (fun X hX => by first | rfl | go_simp) ?_; try simp only [pS]
     refine ag (S := fun X => X = W) (.pointer (some ⟨G, 2, none⟩)) (by rfl) a0 (fun X hX => by first | rfl | go_simp) ?_; try simp only [pS]
     refine ag (S := fun X => X = W) (.int .u32 (ss : Int)) (by rfl) a0 (fun X hX => az Tryz.underlying24 rfl rfl (a7.out X hX)) ?_; try simp only [pS]
     refine ag (S := fun X => X = W) (.bool z) (by rfl) a0 (fun X hX => (by rw [← a2.out]; first | rfl | go_simp)) ?_; try simp only [pS]
     refine ag (S := fun X => X = W) (.bool z) (by rfl) a0 (fun X hX => by first | rfl | go_simp) ?_; try simp only [pS]
     refine ag (S := fun X => X = W) (.bool z) (by rfl) a0 (fun X hX => by first | rfl | go_simp) ?_; try simp only [pS]
     refine ag (S := fun X => X = W) (.bool z) (by rfl) a0 (fun X hX => by first | rfl | go_simp) ?_; try simp only [pS]
     refine wpList_nil ?_
     go_wp2_with fail
     go_meet
     case rel => exact ⟨by rw [HO.out], rfl⟩
   ·obtain ⟨z, hz⟩ : ∃ z, decide ((kk : Int) = 3) = z := ⟨_, rfl⟩
    have a2 := zH hz;have a1 : Hid (z = false) := zH (by rw [← hz]; simp; omega);have HO : Hid (z = !oo) := zH (by rw [a1.out, ah.out, decide_eq_true (fun h => absurd h k4)]; rfl);clear hz;refine wp_region_list ?_;refine ag (S := fun X => X = W) (.pointer (some ⟨G, 0, none⟩)) (by rfl) a0 (fun X hX => by first | rfl | go_simp) ?_; try simp only [pS]
    refine ag (S := fun X => X = W) (.int .u8 (kk : Int)) (by rfl) a0 (fun X hX => az Tryz.underlying5 rfl rfl (a3.out X hX)) ?_; try simp only [pS]
    refine ag (S := fun X => X = W) (.bool false) (by rfl) a0 (fun X hX => (by have h0 := H1.out; go_simp)) ?_; try simp only [pS]
    refine ag (S := fun X => X = W) (.bool false) (by rfl) a0 (fun X hX => by first | rfl | go_simp) ?_; try simp only [pS]
    refine ag (S := fun X => X = W) (.pointer (some ⟨G, 0, none⟩)) (by rfl) a0 (fun X hX => by first | rfl | go_simp) ?_; try simp only [pS]
    refine ag (S := fun X => X = W) (.int .u8 (kk : Int)) (by rfl) a0 (fun X hX => az Tryz.underlying5 rfl rfl (a3.out X hX)) ?_; try simp only [pS]
    refine ag (S := fun X => X = W) (.bool false) (by rfl) a0 (fun X hX => (by have h0 := H2.out; go_simp)) ?_; try simp only [pS]
    refine ag (S := fun X => X = W) (.bool false) (by rfl) a0 (fun X hX => by first | rfl | go_simp) ?_; try simp only [pS]
    refine ag (S := fun X => X = W) (.bool false) (by rfl) a0 (fun X hX => by first | rfl | go_simp) ?_; try simp only [pS]
    refine ag (S := fun X => X = W) (.pointer (some ⟨G, 2, none⟩)) (by rfl) a0 (fun X hX => by first | rfl | go_simp) ?_; try simp only [pS]
    refine ag (S := fun X => X = W) (.int .u32 (ss : Int)) (by rfl) a0 (fun X hX => az Tryz.underlying24 rfl rfl (a7.out X hX)) ?_; try simp only [pS]
    refine ag (S := fun X => X = W) (.bool false) (by rfl) a0 (fun X hX => (by have h0 := H3.out; go_simp)) ?_; try simp only [pS]
    refine ag (S := fun X => X = W) (.bool false) (by rfl) a0 (fun X hX => by first | rfl | go_simp) ?_; try simp only [pS]
    refine ag (S := fun X => X = W) (.bool false) (by rfl) a0 (fun X hX => by first | rfl | go_simp) ?_; try simp only [pS]
    refine ag (S := fun X => X = W) (.pointer (some ⟨G, 0, none⟩)) (by rfl) a0 (fun X hX => by first | rfl | go_simp) ?_; try simp only [pS]
    refine ag (S := fun X => X = W) (.int .u8 (kk : Int)) (by rfl) a0 (fun X hX => az Tryz.underlying5 rfl rfl (a3.out X hX)) ?_; try simp only [pS]
    refine ag (S := fun X => X = W) (.bool z) (by rfl) a0 (fun X hX => (by rw [← a2.out]; first | rfl | go_simp)) ?_; try simp only [pS]
    refine ag (S := fun X => X = W) (.bool z) (by rfl) a0 (fun X hX => by first | rfl | go_simp) ?_; try simp only [pS]
    refine aj HU.out (by first | (rw [HU.out]; rfl) | (rw [a1.out]; rfl) | rfl) ?_; try simp only [pS]
    refine aj HU.out (by first | (rw [HU.out]; rfl) | (rw [a1.out]; rfl) | rfl) ?_; try simp only [pS]
    refine aj HU.out (by first | (rw [HU.out]; rfl) | (rw [a1.out]; rfl) | rfl) ?_; try simp only [pS]
    refine aj HU.out (by first | (rw [HU.out]; rfl) | (rw [a1.out]; rfl) | rfl) ?_; try simp only [pS]
    refine aj HU.out (by first | (rw [HU.out]; rfl) | (rw [a1.out]; rfl) | rfl) ?_; try simp only [pS]
    refine aj HU.out (by first | (rw [HU.out]; rfl) | (rw [a1.out]; rfl) | rfl) ?_; try simp only [pS]
    refine aj HU.out (by first | (rw [HU.out]; rfl) | (rw [a1.out]; rfl) | rfl) ?_; try simp only [pS]
    refine aj HU.out (by first | (rw [HU.out]; rfl) | (rw [a1.out]; rfl) | rfl) ?_; try simp only [pS]
    refine ag (S := fun X => X = W) (.bool z) (by rfl) a0 (fun X hX => (by rw [a1.out]; first | rfl | go_simp)) ?_; try simp only [pS]
    refine ag (S := fun X => X = W) (.bool z) (by rfl) a0 (fun X hX => by first | rfl | go_simp) ?_; try simp only [pS]
    refine wpList_nil ?_
    go_wp2_with fail
    go_meet
    case rel => exact ⟨by rw [HO.out], rfl⟩
  case rest =>
  obtain ⟨rfl, rfl⟩ := hcut;cases oo
  ·have hv : b = false := by rw [a6.out]; rfl
   have HE := zH (HP.out _ hv _ HW.out);clear hv a6 a4 ad
   go_wp2_with fail
   first | exact HE.out | (go_ret; exact HE.out)
  have HV : Hid (b = rr) := zH (by rw [a6.out]; rfl);clear a6 a5
  go_upto_region 5 with fail
  have a0 : wc = wc := rfl;cases zp
  ·by_cases h3 : pk = 3
   ·have H3 : Hid (decide ((pk : Int) = 3) = true) := zH (decide_eq_true (by omega))
    obtain ⟨z, hz⟩ : ∃ z, decide ((pl : Int) = 2) = z := ⟨_, rfl⟩;have a2 := zH hz
    have hr : rr = (z && mm) := by
     have e2 : decide (pl = 2) = decide ((pl : Int) = 2) := (by rw [Bool.eq_iff_iff]; simp; omega);rw [a4.out, decide_eq_true h3, e2, hz];simp
    have HR := zH hr;clear hz hr;cases z
    ·obtain ⟨z, hz⟩ : ∃ z, false = z := ⟨_, rfl⟩
     rw [hz] at a2;have a1 := zH hz.symm;clear hz;have HE := zH (HP.out z (by rw [HV.out, HR.out, a1.out]; rfl) _ HW.out);refine wp_region_list ?_;refine ag (S := fun X => X = wc) (.pointer (some ⟨G, 3, none⟩)) (by rfl) a0 (fun X hX => by first | rfl | go_simp) ?_; try simp only [pS]
     refine ag (S := fun X => X = wc) (.agg (a8 n.root).toArray) (by rfl) a0 (fun X hX => na HN.out (HB.out X hX) rfl rfl) ?_; try simp only [pS]
     refine ag (S := fun X => X = wc) (.agg (a8 zeroP).toArray) (by rfl) a0 (fun X hX => bj rfl) ?_; try simp only [pS]
     refine ag (S := fun X => X = wc) (.bool false) (by rfl) a0 (fun X hX => jv HZ.out rfl rfl rfl ab.out ak) ?_; try simp only [pS]
     refine ag (S := fun X => X = wc) (.bool false) (by rfl) a0 (fun X hX => by first | rfl | go_simp) ?_; try simp only [pS]
     refine ag (S := fun X => X = wc) (.pointer (some ⟨G, 3, none⟩)) (by rfl) a0 (fun X hX => by first | rfl | go_simp) ?_; try simp only [pS]
     refine ag (S := fun X => X = wc) (.pointer (some ⟨G, 3, none⟩)) (by rfl) a0 (fun X hX => by first | rfl | go_simp) ?_; try simp only [pS]
     refine ag (S := fun X => X = wc) (.int .u8 (pk : Int)) (by rfl) a0 (fun X hX => az Tryz.underlying5 rfl rfl (ae.out X hX)) ?_; try simp only [pS]
     refine ag (S := fun X => X = wc) (.bool true) (by rfl) a0 (fun X hX => (by have h0 := H3.out; go_simp)) ?_; try simp only [pS]
     refine ag (S := fun X => X = wc) (.bool true) (by rfl) a0 (fun X hX => by first | rfl | go_simp) ?_; try simp only [pS]
     refine ag (S := fun X => X = wc) (.pointer (some ⟨G, 3, none⟩)) (by rfl) a0 (fun X hX => by first | rfl | go_simp) ?_; try simp only [pS]
     refine ag (S := fun X => X = wc) (.pointer (some ⟨G, 4, none⟩)) (by rfl) a0 (fun X hX => by first | rfl | go_simp) ?_; try simp only [pS]
     refine ag (S := fun X => X = wc) (.int .u8 (pl : Int)) (by rfl) a0 (fun X hX => az Tryz.underlying5 rfl rfl (ar.out X hX)) ?_; try simp only [pS]
     refine ag (S := fun X => X = wc) (.bool z) (by rfl) a0 (fun X hX => (by rw [← a2.out]; first | rfl | go_simp)) ?_; try simp only [pS]
     refine ag (S := fun X => X = wc) (.bool z) (by rfl) a0 (fun X hX => by first | rfl | go_simp) ?_; try simp only [pS]
     refine ag (S := fun X => X = wc) (.bool z) (by rfl) a0 (fun X hX => by first | rfl | go_simp) ?_; try simp only [pS]
     refine aj HU.out (by first | (rw [HU.out]; rfl) | (rw [a1.out]; rfl) | rfl) ?_; try simp only [pS]
     refine aj HU.out (by first | (rw [HU.out]; rfl) | (rw [a1.out]; rfl) | rfl) ?_; try simp only [pS]
     refine aj HU.out (by first | (rw [HU.out]; rfl) | (rw [a1.out]; rfl) | rfl) ?_; try simp only [pS]
     refine ag (S := fun X => X = wc) (.bool z) (by rfl) a0 (fun X hX => (by rw [a1.out]; first | rfl | go_simp)) ?_; try simp only [pS]
     refine ag (S := fun X => X = wc) (.bool z) (by rfl) a0 (fun X hX => by first | rfl | go_simp) ?_; try simp only [pS]
     refine ag (S := fun X => X = wc) (.bool z) (by rfl) a0 (fun X hX => by first | rfl | go_simp) ?_; try simp only [pS]
     refine wpList_nil ?_
     go_wp2_with fail
     first | exact HE.out | (go_ret; exact HE.out)
    ·refine wp_region_list ?_
     refine ag (S := fun X => X = wc) (.pointer (some ⟨G, 3, none⟩)) (by rfl) a0 (fun X hX => by first | rfl | go_simp) ?_; try simp only [pS]
     refine ag (S := fun X => X = wc) (.agg (a8 n.root).toArray) (by rfl) a0 (fun X hX => na HN.out (HB.out X hX) rfl rfl) ?_; try simp only [pS]
     refine ag (S := fun X => X = wc) (.agg (a8 zeroP).toArray) (by rfl) a0 (fun X hX => bj rfl) ?_; try simp only [pS]
     refine ag (S := fun X => X = wc) (.bool false) (by rfl) a0 (fun X hX => jv HZ.out rfl rfl rfl ab.out ak) ?_; try simp only [pS]
     refine ag (S := fun X => X = wc) (.bool false) (by rfl) a0 (fun X hX => by first | rfl | go_simp) ?_; try simp only [pS]
     refine ag (S := fun X => X = wc) (.pointer (some ⟨G, 3, none⟩)) (by rfl) a0 (fun X hX => by first | rfl | go_simp) ?_; try simp only [pS]
     refine ag (S := fun X => X = wc) (.pointer (some ⟨G, 3, none⟩)) (by rfl) a0 (fun X hX => by first | rfl | go_simp) ?_; try simp only [pS]
     refine ag (S := fun X => X = wc) (.int .u8 (pk : Int)) (by rfl) a0 (fun X hX => az Tryz.underlying5 rfl rfl (ae.out X hX)) ?_; try simp only [pS]
     refine ag (S := fun X => X = wc) (.bool true) (by rfl) a0 (fun X hX => (by have h0 := H3.out; go_simp)) ?_; try simp only [pS]
     refine ag (S := fun X => X = wc) (.bool true) (by rfl) a0 (fun X hX => by first | rfl | go_simp) ?_; try simp only [pS]
     refine ag (S := fun X => X = wc) (.pointer (some ⟨G, 3, none⟩)) (by rfl) a0 (fun X hX => by first | rfl | go_simp) ?_; try simp only [pS]
     refine ag (S := fun X => X = wc) (.pointer (some ⟨G, 4, none⟩)) (by rfl) a0 (fun X hX => by first | rfl | go_simp) ?_; try simp only [pS]
     refine ag (S := fun X => X = wc) (.int .u8 (pl : Int)) (by rfl) a0 (fun X hX => az Tryz.underlying5 rfl rfl (ar.out X hX)) ?_; try simp only [pS]
     refine ag (S := fun X => X = wc) (.bool true) (by rfl) a0 (fun X hX => (by have h0 := of_decide_eq_true a2.out; go_simp)) ?_; try simp only [pS]
     refine ag (S := fun X => X = wc) (.bool true) (by rfl) a0 (fun X hX => by first | rfl | go_simp) ?_; try simp only [pS]
     refine ag (S := fun X => X = wc) (.bool true) (by rfl) a0 (fun X hX => by first | rfl | go_simp) ?_; try simp only [pS]
     refine ag (S := fun X => X = wc) (.pointer (some ⟨G, 3, none⟩)) (by rfl) a0 (fun X hX => by first | rfl | go_simp) ?_; try simp only [pS]
     refine ag (S := fun X => X = wc) (.agg (a8 n.root).toArray) (by rfl) a0 (fun X hX => na HN.out (HB.out X hX) rfl rfl) ?_; try simp only [pS]
     refine Vp (by rfl) 12 #[.agg (a8 n.root).toArray] (by go_simp) (fun u X => u = .bool mm ∧ Below wc.heap.size wc X) ((ad.out wc).mono fun e Y ⟨e1, hb⟩ => ⟨_, e1, rfl, hb⟩) ?_;rintro u Xb ⟨rfl, hb⟩; try simp only [pS]
     have HE := zH (HP.out mm (by rw [HV.out, HR.out]; rfl) _ (HC.out hb));refine ag (S := fun X => X = Xb) (.bool mm) (by rfl) (rfl : Xb = Xb) (fun X hX => by first | rfl | go_simp) ?_; try simp only [pS]
     refine ag (S := fun X => X = Xb) (.bool mm) (by rfl) (rfl : Xb = Xb) (fun X hX => by first | rfl | go_simp) ?_; try simp only [pS]
     refine ag (S := fun X => X = Xb) (.bool mm) (by rfl) (rfl : Xb = Xb) (fun X hX => by first | rfl | go_simp) ?_; try simp only [pS]
     refine wpList_nil ?_
     go_wp2_with fail
     first | exact HE.out | (go_ret; exact HE.out)
   ·obtain ⟨z, hz⟩ : ∃ z, decide ((pk : Int) = 3) = z := ⟨_, rfl⟩
    have a2 := zH hz;have a1 : Hid (z = false) := zH (by rw [← hz]; simp; omega);have HE := zH (HP.out z (by rw [HV.out, a4.out, decide_eq_false h3, a1.out]; simp) _ HW.out);clear hz;refine wp_region_list ?_;refine ag (S := fun X => X = wc) (.pointer (some ⟨G, 3, none⟩)) (by rfl) a0 (fun X hX => by first | rfl | go_simp) ?_; try simp only [pS]
    refine ag (S := fun X => X = wc) (.agg (a8 n.root).toArray) (by rfl) a0 (fun X hX => na HN.out (HB.out X hX) rfl rfl) ?_; try simp only [pS]
    refine ag (S := fun X => X = wc) (.agg (a8 zeroP).toArray) (by rfl) a0 (fun X hX => bj rfl) ?_; try simp only [pS]
    refine ag (S := fun X => X = wc) (.bool false) (by rfl) a0 (fun X hX => jv HZ.out rfl rfl rfl ab.out ak) ?_; try simp only [pS]
    refine ag (S := fun X => X = wc) (.bool false) (by rfl) a0 (fun X hX => by first | rfl | go_simp) ?_; try simp only [pS]
    refine ag (S := fun X => X = wc) (.pointer (some ⟨G, 3, none⟩)) (by rfl) a0 (fun X hX => by first | rfl | go_simp) ?_; try simp only [pS]
    refine ag (S := fun X => X = wc) (.pointer (some ⟨G, 3, none⟩)) (by rfl) a0 (fun X hX => by first | rfl | go_simp) ?_; try simp only [pS]
    refine ag (S := fun X => X = wc) (.int .u8 (pk : Int)) (by rfl) a0 (fun X hX => az Tryz.underlying5 rfl rfl (ae.out X hX)) ?_; try simp only [pS]
    refine ag (S := fun X => X = wc) (.bool z) (by rfl) a0 (fun X hX => (by rw [← a2.out]; first | rfl | go_simp)) ?_; try simp only [pS]
    refine ag (S := fun X => X = wc) (.bool z) (by rfl) a0 (fun X hX => by first | rfl | go_simp) ?_; try simp only [pS]
    refine aj HU.out (by first | (rw [HU.out]; rfl) | (rw [a1.out]; rfl) | rfl) ?_; try simp only [pS]
    refine aj HU.out (by first | (rw [HU.out]; rfl) | (rw [a1.out]; rfl) | rfl) ?_; try simp only [pS]
    refine aj HU.out (by first | (rw [HU.out]; rfl) | (rw [a1.out]; rfl) | rfl) ?_; try simp only [pS]
    refine aj HU.out (by first | (rw [HU.out]; rfl) | (rw [a1.out]; rfl) | rfl) ?_; try simp only [pS]
    refine ag (S := fun X => X = wc) (.bool z) (by rfl) a0 (fun X hX => (by rw [a1.out]; first | rfl | go_simp)) ?_; try simp only [pS]
    refine ag (S := fun X => X = wc) (.bool z) (by rfl) a0 (fun X hX => by first | rfl | go_simp) ?_; try simp only [pS]
    refine aj HU.out (by first | (rw [HU.out]; rfl) | (rw [a1.out]; rfl) | rfl) ?_; try simp only [pS]
    refine aj HU.out (by first | (rw [HU.out]; rfl) | (rw [a1.out]; rfl) | rfl) ?_; try simp only [pS]
    refine aj HU.out (by first | (rw [HU.out]; rfl) | (rw [a1.out]; rfl) | rfl) ?_; try simp only [pS]
    refine ag (S := fun X => X = wc) (.bool z) (by rfl) a0 (fun X hX => (by rw [a1.out]; first | rfl | go_simp)) ?_; try simp only [pS]
    refine ag (S := fun X => X = wc) (.bool z) (by rfl) a0 (fun X hX => by first | rfl | go_simp) ?_; try simp only [pS]
    refine ag (S := fun X => X = wc) (.bool z) (by rfl) a0 (fun X hX => by first | rfl | go_simp) ?_; try simp only [pS]
    refine wpList_nil ?_
    go_wp2_with fail
    first | exact HE.out | (go_ret; exact HE.out)
  ·obtain ⟨z, hz⟩ : ∃ z, true = z := ⟨_, rfl⟩
   rw [hz] at HZ;have a1 := zH hz.symm;clear hz;have HE := zH (HP.out z (by rw [HV.out, a4.out, a1.out]; rfl) _ HW.out);refine wp_region_list ?_;refine ag (S := fun X => X = wc) (.pointer (some ⟨G, 3, none⟩)) (by rfl) a0 (fun X hX => by first | rfl | go_simp) ?_; try simp only [pS]
   refine ag (S := fun X => X = wc) (.agg (a8 n.root).toArray) (by rfl) a0 (fun X hX => na HN.out (HB.out X hX) rfl rfl) ?_; try simp only [pS]
   refine ag (S := fun X => X = wc) (.agg (a8 zeroP).toArray) (by rfl) a0 (fun X hX => bj rfl) ?_; try simp only [pS]
   refine ag (S := fun X => X = wc) (.bool z) (by rfl) a0 (fun X hX => jv HZ.out rfl rfl rfl ab.out ak) ?_; try simp only [pS]
   refine ag (S := fun X => X = wc) (.bool z) (by rfl) a0 (fun X hX => by first | rfl | go_simp) ?_; try simp only [pS]
   refine aj HU.out (by first | (rw [HU.out]; rfl) | (rw [a1.out]; rfl) | rfl) ?_; try simp only [pS]
   refine aj HU.out (by first | (rw [HU.out]; rfl) | (rw [a1.out]; rfl) | rfl) ?_; try simp only [pS]
   refine aj HU.out (by first | (rw [HU.out]; rfl) | (rw [a1.out]; rfl) | rfl) ?_; try simp only [pS]
   refine aj HU.out (by first | (rw [HU.out]; rfl) | (rw [a1.out]; rfl) | rfl) ?_; try simp only [pS]
   refine aj HU.out (by first | (rw [HU.out]; rfl) | (rw [a1.out]; rfl) | rfl) ?_; try simp only [pS]
   refine aj HU.out (by first | (rw [HU.out]; rfl) | (rw [a1.out]; rfl) | rfl) ?_; try simp only [pS]
   refine aj HU.out (by first | (rw [HU.out]; rfl) | (rw [a1.out]; rfl) | rfl) ?_; try simp only [pS]
   refine aj HU.out (by first | (rw [HU.out]; rfl) | (rw [a1.out]; rfl) | rfl) ?_; try simp only [pS]
   refine aj HU.out (by first | (rw [HU.out]; rfl) | (rw [a1.out]; rfl) | rfl) ?_; try simp only [pS]
   refine aj HU.out (by first | (rw [HU.out]; rfl) | (rw [a1.out]; rfl) | rfl) ?_; try simp only [pS]
   refine aj HU.out (by first | (rw [HU.out]; rfl) | (rw [a1.out]; rfl) | rfl) ?_; try simp only [pS]
   refine aj HU.out (by first | (rw [HU.out]; rfl) | (rw [a1.out]; rfl) | rfl) ?_; try simp only [pS]
   refine aj HU.out (by first | (rw [HU.out]; rfl) | (rw [a1.out]; rfl) | rfl) ?_; try simp only [pS]
   refine aj HU.out (by first | (rw [HU.out]; rfl) | (rw [a1.out]; rfl) | rfl) ?_; try simp only [pS]
   refine aj HU.out (by first | (rw [HU.out]; rfl) | (rw [a1.out]; rfl) | rfl) ?_; try simp only [pS]
   refine ag (S := fun X => X = wc) (.bool z) (by rfl) a0 (fun X hX => (by rw [a1.out]; first | rfl | go_simp)) ?_; try simp only [pS]
   refine ag (S := fun X => X = wc) (.bool z) (by rfl) a0 (fun X hX => by first | rfl | go_simp) ?_; try simp only [pS]
   refine wpList_nil ?_
   go_wp2_with fail
   first | exact HE.out | (go_ret; exact HE.out)
 ·have hv : b = true := by rw [a9.out]; rfl
  have HE := zH (HP.out _ hv _ HW.out);clear hv a9 ad a4 a5
  go_wp2_with (first | (refine aq (by rfl) (Kl HN.out (HB.out _ rfl) rfl rfl) ?_) | (refine aq (by rfl) (qg rfl) ?_) | (refine aq (by rfl) (ua au.out rfl rfl rfl HN.out zeroI_ok) ?_) | fail)
  first | exact HE.out | (go_ret; exact HE.out)
end Go.Proofs.YtjgjohdeeeoeoaaGreatDoor
