/- The shelf's Read. -/
import Derived.Test.YtjgjohdeeeoeoaaGreatDoorM12
set_option linter.all false
namespace Go.Proofs.YtjgjohdeeeoeoaaGreatDoor
open Go.RowKit
attribute [local go_sem] Oper.semAt_some
variable {ad : Addr} {l : List Nat} {D G a cap g k n : Nat} {L1 : Nat → Nat} {p : Pt} {s1 : Sh} {v1 : Sv} {t : TypeId} {v : Value} {W1 X : World}
structure ReS (D G : Nat) (s1 : Sh) (p : Pt) (L1 : Nat → Nat) (v1 : Sv) (W1 X : World) : Prop where
 sh : ShAt X L1 D s1 v1
 box : Blk X G (a8 p) 28
 bel : Below W1.heap.size W1 X
theorem ReS.drew (h : ReS D G s1 p L1 v1 W1 X) : ReS D G s1 p L1 v1 W1 X.drew := ⟨h.sh.drew, h.box.drew, h.bel.drew⟩
theorem ReS.c1 (h : ReS D G s1 p L1 v1 W1 X) : X.cell? ⟨D, 1, none⟩ = some v1.bd := h.sh.blk.cell rfl
theorem ReS.c0 (h : ReS D G s1 p L1 v1 W1 X) : X.cell? ⟨D, 0, none⟩ = some v1.bl := h.sh.blk.cell rfl
theorem kz {W : World} (hp : p.OK) (h : Blk W G (a8 p) t) : W.cell? ⟨G, 37, none⟩ = some (.int .u16 (at0 p : Int)) := by
 have hl := hp.len;refine im (k := 0) h hp.hash ?_;unfold at0;rw [List.getD_eq_getElem?_getD, List.getElem?_eq_getElem (by omega)];rfl
theorem a07 (hp : p.OK) : at0 p < 65536 := by
 have hl := hp.len;unfold at0;rw [List.getD_eq_getElem?_getD, List.getElem?_eq_getElem (by omega)];exact hp.ats _ (List.getElem_mem _)
section
variable {ρ : Operand → Value} {o : Oper} {x y : Operand} {w : World}
theorem Mr (ho : o.op = .load 47 x) (hx : ρ x = .pointer (some ad)) (hc : w.cell? ad = some v) : (execOp ρ o).run Tryz.prog w = .ok (.value v) w := by
 unfold execOp; simp only [ho]; go_simp
theorem n9 (ho : o.op = .load 46 x) (hx : ρ x = .pointer (some ad)) (hc : w.cell? ad = some v) : (execOp ρ o).run Tryz.prog w = .ok (.value v) w := by
 unfold execOp; simp only [ho]; go_simp
theorem Xj (ho : o.op = .load 29 x) (hx : ρ x = .pointer (some ad)) (hc : w.cell? ad = some v) : (execOp ρ o).run Tryz.prog w = .ok (.value v) w := by
 unfold execOp; simp only [ho]; go_simp
theorem Wz {b : Nat} (ho : o.op = .binOp .eql 23 x y t) (hx : ρ x = .int .u16 (a : Int)) (hy : ρ y = .int .u16 (b : Int)) : (execOp ρ o).run Tryz.prog w = .ok (.value (.bool (decide (a = b)))) w := by
 have e : ((a : Int) == (b : Int)) = decide (a = b) := by
  rw [Bool.eq_iff_iff]; simp; omega
 unfold execOp;simp only [ho];go_simp
theorem a0f {kd : IntKind} (ho : o.op = .indexAddr 46 x y) (hx : ρ x = .slice (some ⟨g, 0, none⟩) n cap) (hy : ρ y = .int kd (k : Int)) (hk : k < n ∧ n ≤ cap) :
  (execOp ρ o).run Tryz.prog w = .ok (.value (.pointer (some ⟨g, k, none⟩))) w := by
 have h1 : ¬ n ≤ k := by omega
 unfold execOp;simp only [ho];go_simp
theorem a0g {o' : Nat} (ho : o.op = .indexAddr 47 x y) (hx : ρ x = .slice (some ⟨g, o', none⟩) n cap) (hy : ρ y = .int .i64 (k : Int)) (hk : k < n ∧ n ≤ cap) :
  (execOp ρ o).run Tryz.prog w = .ok (.value (.pointer (some ⟨g, o' + k, none⟩))) w := by
 have h1 : ¬ n ≤ k := by omega
 unfold execOp;simp only [ho];go_simp
end
theorem Gz {x : Nat} (h : l[k]? = some x) (h0 : (l.take k).any (fun x => x == a) = false) (h1 : decide (x = a) = false) : (l.take (k + 1)).any (fun x => x == a) = false := by
 rw [j7 h, List.any_append, h0];simp at h1;simp [h1]
theorem Qy {x : Nat} (h : l[k]? = some x) (h1 : decide (x = a) = true) : l.any (fun x => x == a) = true := List.any_eq_true.2 ⟨x, List.mem_of_getElem? h, by simpa using h1⟩
theorem d6 {w : World} {B e : Nat} {x : Value} {xs : List Value} (h : w.ownsRow B e k x n xs) : ∃ sp cap, x = .slice sp n cap ∧ n ≤ cap ∧ (0 < n → ∃ g, sp = some ⟨g, 0, none⟩ ∧ g < w.heap.size ∧ x.ownBlock = some g) := by
 rcases h.2 with ⟨rfl, hn⟩ | ⟨g, cap, cur, rfl, _, hgg, hc, _⟩
 ·exact ⟨none, 0, by rw [hn], by omega, fun h0 => by omega⟩
 ·exact ⟨_, cap, rfl, hc, fun _ => ⟨g, rfl, (Array.getElem?_eq_some_iff.1 hgg).1, rfl⟩⟩
def C8 (k : Nat) (L : Nat → Nat) (w : World) (D : Nat) (s : Sh) (p : Pt) (e : Ending) (w' : World) : Prop := ∃ val L' v', e = .returned (.tuple #[val, .int .i64 (rdE s p : Int)]) ∧ ShAt w' L' D (rdS s p) v' ∧ Mv k L w L' w' ∧ BkV w' L' val (rdB s p)
theorem Ce (w : World) (L : Nat → Nat) : BkV w L (.slice none 0 0) [] := ⟨none, 0, rfl, by simp, fun _ => rfl, SrcA.nil w none, fun _ h => by cases h⟩
set_option maxRecDepth 100000 in
set_option maxHeartbeats 8000000 in
theorem Ai {w : World} {L : Nat → Nat} {s : Sh} {v : Sv} (p : Pt) (hp : p.OK) (h : ShAt w L D s v) (hl : s.read0.length < 100000000) (hbl : s.blocks.length ≤ 30000) (hbd : s.bad.length ≤ 1000) : Calls Tryz.prog 152 #[.pointer (some ⟨D, 0, none⟩), .agg (a8 p).toArray] w (C8 5 L w D s p) := by
 have a2 := zH hp;have b7 : Below w.heap.size w (w.alloc (.cells (a8 p).toArray 28)) := (Below.refl _ _).alloc (Nat.le_refl _) _;have H1 := zH (h.below b7);have HB : Hid (Blk (w.alloc (.cells (a8 p).toArray 28)) w.heap.size (a8 p) 28) := zH (Blk.new _ _ _);have bd := zH h.lt;have HL := zH hl;have cd := zH hbl; have bu := zH hbd;generalize hPost : C8 5 L w D s p = Post
 have HP : Hid (∀ val L1 v1 w', ShAt w' L1 D (rdS s p) v1 → Mv 5 L (w.alloc (.cells (a8 p).toArray 28)) L1 w' → BkV w' L1 val (rdB s p) → Post (.returned (.tuple #[val, .int .i64 (rdE s p : Int)])) w') := zH fun val L1 v1 w' h2 h3 h4 => by
  rw [← hPost]; exact ⟨val, L1, v1, rfl, h2, (Mv.of_below b7 h.lt).trans h3, h4⟩
 clear h hp hl hbl hbd b7 hPost;go_enter Tryz.func152, Tryz.ntmps152
 go_upto_region 1 with fail
 obtain ⟨G, hG⟩ : ∃ G, w.heap.size = G := ⟨_, rfl⟩;rw [hG] at HB ⊢;generalize (w.alloc (.cells (a8 p).toArray 28)) = W at H1 HB HP ⊢;have bp := H1.out.notD H1.out.rd.2 (by omega);have ay : v.rd.ownBlock ≠ some G := fun e => by have h1 := H1.out.rd.2 G e; have := bd.out G (by omega); omega
 have bg : G ≠ D := fun e => by have h1 := H1.out.ld; rw [← e] at h1; have := bd.out G (by omega); omega
 obtain ⟨v3, w3, hr, br, ⟨_, a7⟩, a9, ae, k1, k2, k3, k4, k5⟩ := tz (k := 5) H1.out.rd.1 H1.out.blk bp a2.out HL.out (by simp [i6]);have bi := (ae HB.out ay).1;have b0 := (ae HB.out ay).2 bg;have ao := H1.out.readd a2.out k1 k2 k3 k4 k5;have af : Hid (∀ val w', ReS D G (rdS s p) p (gc L v3 5) { v with rd := v3 } (w3.setCell ⟨D, 5, none⟩ v3) w' → BkV w' (gc L v3 5) val (rdB s p) → Post (.returned (.tuple #[val, .int .i64 (rdE s p : Int)])) w') := zH fun val w' h2 h4 => HP.out val _ _ w' h2.sh (ao.2.trans (Mv.of_below h2.bel ao.1.lt)) h4
 have a6 : Hid (ReS D G (rdS s p) p (gc L v3 5) { v with rd := v3 } (w3.setCell ⟨D, 5, none⟩ v3) (w3.setCell ⟨D, 5, none⟩ v3)) := zH ⟨ao.1, b0, Below.refl _ _⟩;clear k1 k2 k3 k4 k5 ae HP ao;have ag : W.drew.cell? ⟨D, 5, none⟩ = some v.rd := H1.out.blk.cell rfl;have aa : (W.drew.alloc (.cells (a8 p).toArray 28)).cell? ⟨D, 5, none⟩ = some v.rd := (H1.out.blk.drew.alloc _).cell rfl;have al : Blk (W.drew.alloc (.cells (a8 p).toArray 28)) G (a8 p) 28 := HB.out.drew.alloc _;obtain ⟨W2, b1⟩ : ∃ W2, W.drew.alloc (.cells (a8 p).toArray 28) = W2 := ⟨_, rfl⟩;have ad : ∀ {ρ : Operand → Value} {o : Oper} {x : Operand}, o.op = .buildSlice 48 1 #[(0, x)] → ρ x = .agg (a8 p).toArray → (execOp ρ o).run Tryz.prog W.drew = .ok (.value (.slice (some ⟨W.drew.heap.size, 0, none⟩) 1 1)) W2 := fun h1 h2 => by rw [← b1]; exact Aa p h1 h2 a2.out
 rw [b1] at hr aa al;refine vt ?_;apply Exists.intro;apply Exists.intro;constructor
 ·refine ci (.take 0 (.take 1 (.take 2 (.take 3 (.take 5 (.fork 4 (.step 6 (.step 7 (.take 8 (.take 9 (.step 10 (.nil)))))) 6 (.step 4 (.step 7 (.take 8 (.take 9 (.step 10 (.nil)))))))))))) (by kernel_rfl) (by kernel_rfl) (fun d _ _ _ _ h => by cases h.1) (fun X => Blk X G (a8 p) 28) (HB.out.drew) ?_
  refine gT (.pointer (some ⟨D, 0, none⟩)) ?_;refine gT (.pointer (some ⟨D, 0, none⟩)) ?_;refine gU (.pointer (some ⟨D, 0, none⟩)) rfl (fun X hX => pj rfl rfl) ?_;refine gU (.pointer (some ⟨D, 5, none⟩)) rfl (fun X hX => mn (by omega) rfl rfl) ?_;refine gU (.agg (a8 p).toArray) rfl (fun X hX => ax a2.out hX rfl rfl) ?_;refine i8 (bm _ rfl (by rfl) v.rd W.drew (ib rfl rfl ag) (fun X => Blk X G (a8 p) 28) (HB.out.drew) (fun _ h => h) ?_) ?_; try simp only [pS]
  refine bm _ rfl (by rfl) (.slice (some ⟨W.drew.heap.size, 0, none⟩) 1 1) W2 (ad rfl rfl) (fun X => Blk X G (a8 p) 28) al (fun _ h => h) ?_; try simp only [pS]
  rotate_left
  refine bm _ rfl (by rfl) (.slice (some ⟨W.drew.heap.size, 0, none⟩) 1 1) W2 (ad rfl rfl) (fun X => Blk X G (a8 p) 28) al (fun _ h => h) ?_; try simp only [pS]
  refine bm _ rfl (by rfl) v.rd W2 (ib rfl rfl aa) (fun X => Blk X G (a8 p) 28) al (fun _ h => h) ?_; try simp only [pS]
  all_goals
   refine bm _ rfl (by rfl) v3 w3 (rk rfl rfl rfl hr) (fun X => Blk X G (a8 p) 28) bi (fun _ h => h) ?_; try simp only [pS]
   refine gU (.pointer (some ⟨D, 0, none⟩)) rfl (fun X hX => pj rfl rfl) ?_;refine gU (.pointer (some ⟨D, 5, none⟩)) rfl (fun X hX => mn (by omega) rfl rfl) ?_;refine pf _ rfl (by rfl) (w3.setCell ⟨D, 5, none⟩ v3) (yl rfl rfl rfl br a7 a9) (fun X => Blk X G (a8 p) 28) b0 (fun _ h => h) ?_;refine au ?_;exact ⟨rfl, rfl, rfl⟩
 clear a7 a9 bi b0 hr ag aa al ad b1 br bp ay bg;obtain ⟨bl, hbl⟩ : ∃ bl, v.bl = bl := ⟨_, rfl⟩;obtain ⟨v1, bs⟩ : ∃ v1 : Sv, { v with rd := v3 } = v1 := ⟨_, rfl⟩;obtain ⟨L1, bh⟩ : ∃ L1, gc L v3 5 = L1 := ⟨_, rfl⟩;obtain ⟨s1, b4⟩ : ∃ s1, rdS s p = s1 := ⟨_, rfl⟩;have aj : Hid (s1.blocks = s.blocks ∧ s1.bad = s.bad) := zH (by rw [← b4]; exact ⟨rfl, rfl⟩);rw [bs, bh, b4] at af a6;generalize (w3.setCell ⟨D, 5, none⟩ v3) = W1 at af a6 ⊢;clear bs bh b4 hbl H1 HB;obtain ⟨cg, ak, e1, ag, ca, bq⟩ := a6.out.sh.bad;obtain ⟨N, hN⟩ : ∃ N, s1.bad.length = N := ⟨_, rfl⟩;obtain ⟨a0, b2⟩ : ∃ a, at0 p = a := ⟨_, rfl⟩;have a3 := zH b2;have b9 : Hid (a0 < 65536) := zH (by rw [← b2]; exact a07 a2.out);rw [hN] at e1 ag;have HN := zH hN; have bv := zH ag; have c6 := zH bq; have aq := zH e1;clear hN ag ca bq e1 b2
 go_wp2_with fail
 go_loopw [6] (fun i wr => ∃ k : Nat, k ≤ N ∧ i = .int .i64 (k : Int) ∧ (s1.bad.take k).any (fun x => x == a0) = false ∧ ReS D G s1 p L1 v1 W1 wr) (fun i _ => N - (intOf i).toNat)
 case atStart => exact ⟨0, by omega, rfl, by simp, a6.out⟩
 case round =>
  clear a6;obtain ⟨k, hk, rfl, ah, hs⟩ := hrel;have ar := zH ah; have HS := zH hs;clear ah hs;have cb := HS.out.c1;rw [aq.out] at cb;by_cases hlt : k < N
  ·obtain ⟨x, hx⟩ : ∃ x, s1.bad[k]? = some x := ⟨_, List.getElem?_eq_getElem (by have := HN.out; omega)⟩
   obtain ⟨g, o', rfl, hg, -, -⟩ := c6.out (by have := HN.out; omega)
   have bx : Hid (∀ X, ReS D G s1 p L1 v1 W1 X → X.cell? ⟨g, o' + k, none⟩ = some (.int .u16 (x : Int))) := zH (fun X hX => by
    obtain ⟨cf, c8, e, _, _, h3⟩ := hX.sh.bad;obtain ⟨g', o2, e2, _, _, h4⟩ := h3 (by have := HN.out; omega);rw [aq.out] at e;injection e with e3 _ _
    rw [e2] at e3;injection e3 with e4
    injection e4 with e5 e6 _
    rw [e5, e6]
    exact h4 k x hx)
   have c3 : Hid (k < N ∧ N ≤ ak) := zH ⟨hlt, bv.out⟩;have HX := zH hx;have ch := IntWalk.i64_in ((k : Int) + 1) (by have h1 := HN.out; rw [aj.out.2] at h1; have := bu.out; omega);clear hg hx
   go_upto_region 5 with fail
   refine gS (.take 0 (.take 1 (.take 2 (.take 3 (.take 4 (.take 5 (.take 6 (.take 7 (.take 8 (.take 9 (.take 10 (.nil)))))))))))) (ReS D G s1 p L1 v1 W1) (HS.out.drew) ?_;refine gT (.pointer (some ⟨D, 0, none⟩)) ?_;refine gT (.pointer (some ⟨D, 0, none⟩)) ?_;refine gT (.pointer (some ⟨D, 1, none⟩)) ?_;refine gU (.slice (some ⟨g, o', none⟩) N ak) rfl (fun X hX => Mr rfl rfl (by rw [← aq.out]; exact hX.c1)) ?_;refine gT (.int .i64 (k : Int)) ?_;refine gU (.pointer (some ⟨g, o' + k, none⟩)) rfl (fun X hX => a0g rfl rfl rfl c3.out) ?_;refine gU (.int .u16 (x : Int)) rfl (fun X hX => az Tryz.underlying23 rfl rfl (bx.out X hX)) ?_;refine gT (.pointer (some ⟨G, 37, none⟩)) ?_;refine gT (.pointer (some ⟨G, 37, none⟩)) ?_;refine gU (.int .u16 (a0 : Int)) rfl (fun X hX => az Tryz.underlying23 rfl rfl (by rw [← a3.out]; exact kz a2.out hX.box)) ?_;refine gU (.bool (decide (x = a0))) rfl (fun X hX => Wz rfl rfl rfl) ?_;refine au ?_;cases hcase : decide (x = a0) with
   | false =>
    have c4 : Hid ((s1.bad.take (k + 1)).any (fun x => x == a0) = false) := zH (Gz HX.out ar.out hcase)
    go_wp2_with fail
    go_roundw
    case rel => exact ⟨k + 1, by omega, by go_num, c4.out, HS.out.drew⟩
    case measure => simp [intOf]; omega
   | true =>
    have ai : Hid (rdE s p = 21 ∧ rdB s p = []) := zH (by
     have h1 := Qy HX.out hcase;rw [aj.out.2, ← a3.out] at h1;unfold rdE rdB;rw [if_pos h1, if_pos h1]
     exact ⟨rfl, rfl⟩)
    have a1 := zH (af.out (.slice none 0 0) _ HS.out.drew (by rw [ai.out.2]; exact Ce _ _));rw [ai.out.1] at a1
    go_wp2_with fail
    exact a1.out
  ·obtain rfl : k = N := by omega
   have ah := ar.out;rw [List.take_of_length_le (by have := HN.out; omega)] at ah;have ab : s.bad.any (fun x => x == at0 p) = false := (by rw [a3.out, ← aj.out.2]; exact ah);have a6 : Hid (rdE s p = if a0 = 0 ∨ s.blocks.length < a0 then 6 else 0) := zH (by unfold rdE; rw [if_neg (by rw [ab]; decide), a3.out]);have av : Hid (rdB s p = if a0 = 0 ∨ s.blocks.length < a0 then [] else s.blocks.getD (a0 - 1) []) := zH (by unfold rdB; rw [if_neg (by rw [ab]; decide), a3.out]);obtain ⟨vs, ho, -, b6, bt, -⟩ := HS.out.sh.row;obtain ⟨b8, a4, e2, aa, am⟩ := d6 ho;rw [aj.out.1] at b6;obtain ⟨M, hM⟩ : ∃ M, vs.length = M := ⟨_, rfl⟩;have HM : Hid (s.blocks.length = M) := zH (by rw [← b6]; exact hM);rw [hM] at e2 aa am;have bc := zH e2; have bw := zH aa; have bz := zH am;have c7 := zH bt; have bf := zH hM; have c5 := zH ho;have bk : ∀ X, ReS D G s1 p L1 v1 W1 X → X.cell? ⟨D, 0, none⟩ = some (.slice b8 M a4) := fun X hX => by rw [← bc.out]; exact hX.c0
   have ap := zH bk;clear ah ab e2 aa am bt ho b6 hM bk hlt hk ar
   go_upto_region 7 with fail
   by_cases h0 : a0 = 0
   ·subst h0
    have a1 := zH (af.out (.slice none 0 0) _ HS.out.drew (by rw [av.out, if_pos (.inl rfl)]; exact Ce _ _));rw [a6.out, if_pos (.inl rfl)] at a1;refine gS (.take 0 (.take 1 (.take 2 (.take 3 (.take 4 (.take 5 (.take 6 (.take 7 (.take 8 (.take 9 (.take 10 (.take 11 (.take 12 (.take 13 (.take 14 (.take 15 (.nil))))))))))))))))) (ReS D G s1 p L1 v1 W1) (HS.out.drew) ?_;refine gT (.pointer (some ⟨G, 37, none⟩)) ?_;refine gT (.pointer (some ⟨G, 37, none⟩)) ?_;refine gU (.int .u16 ((0 : Nat) : Int)) rfl (fun X hX => az Tryz.underlying23 rfl rfl (by rw [← a3.out]; exact kz a2.out hX.box)) ?_;refine gT (.bool true) ?_;refine gT (.bool true) ?_;refine gP ?_;refine gP ?_;refine gP ?_;refine gP ?_;refine gP ?_;refine gP ?_;refine gP ?_;refine gP ?_;refine gP ?_;refine gP ?_;refine gT (.bool true) ?_;refine au ?_
    go_wp2_with fail
    exact a1.out
   ·have c9 : ((a0 : Int) == 0) = false := by simp [h0]
    have ce := IntWalk.i64_in (a0 : Int) (by have := b9.out; omega);by_cases hM : M < a0
    ·have a1 := zH (af.out (.slice none 0 0) _ HS.out.drew (by rw [av.out, if_pos (.inr (by rw [HM.out]; exact hM))]; exact Ce _ _))
     rw [a6.out, if_pos (.inr (by rw [HM.out]; exact hM))] at a1;have bo : (M : Int) < (a0 : Int) := (by omega);refine gS (.take 0 (.take 1 (.take 2 (.take 3 (.take 4 (.take 5 (.take 6 (.take 7 (.take 8 (.take 9 (.take 10 (.take 11 (.take 12 (.take 13 (.take 14 (.take 15 (.nil))))))))))))))))) (ReS D G s1 p L1 v1 W1) (HS.out.drew) ?_;refine gT (.pointer (some ⟨G, 37, none⟩)) ?_;refine gT (.pointer (some ⟨G, 37, none⟩)) ?_;refine gU (.int .u16 (a0 : Int)) rfl (fun X hX => az Tryz.underlying23 rfl rfl (by rw [← a3.out]; exact kz a2.out hX.box)) ?_;refine gT (.bool false) ?_;refine gT (.bool false) ?_;refine gT (.pointer (some ⟨G, 37, none⟩)) ?_;refine gT (.pointer (some ⟨G, 37, none⟩)) ?_;refine gU (.int .u16 (a0 : Int)) rfl (fun X hX => az Tryz.underlying23 rfl rfl (by rw [← a3.out]; exact kz a2.out hX.box)) ?_;refine gT (.int .i64 (a0 : Int)) ?_;refine gT (.pointer (some ⟨D, 0, none⟩)) ?_;refine gT (.pointer (some ⟨D, 0, none⟩)) ?_;refine gT (.pointer (some ⟨D, 0, none⟩)) ?_;refine gU (.slice b8 M a4) rfl (fun X hX => n9 rfl rfl (ap.out X hX)) ?_;refine gT (.int .i64 M) ?_;refine gT (.bool true) ?_;refine gT (.bool true) ?_;refine au ?_
     go_wp2_with fail
     exact a1.out
    ·have bo : ¬ (M : Int) < (a0 : Int) := by omega
     refine gS (.take 0 (.take 1 (.take 2 (.take 3 (.take 4 (.take 5 (.take 6 (.take 7 (.take 8 (.take 9 (.take 10 (.take 11 (.take 12 (.take 13 (.take 14 (.take 15 (.nil))))))))))))))))) (ReS D G s1 p L1 v1 W1) (HS.out.drew) ?_;refine gT (.pointer (some ⟨G, 37, none⟩)) ?_;refine gT (.pointer (some ⟨G, 37, none⟩)) ?_;refine gU (.int .u16 (a0 : Int)) rfl (fun X hX => az Tryz.underlying23 rfl rfl (by rw [← a3.out]; exact kz a2.out hX.box)) ?_;refine gT (.bool false) ?_;refine gT (.bool false) ?_;refine gT (.pointer (some ⟨G, 37, none⟩)) ?_;refine gT (.pointer (some ⟨G, 37, none⟩)) ?_;refine gU (.int .u16 (a0 : Int)) rfl (fun X hX => az Tryz.underlying23 rfl rfl (by rw [← a3.out]; exact kz a2.out hX.box)) ?_;refine gT (.int .i64 (a0 : Int)) ?_;refine gT (.pointer (some ⟨D, 0, none⟩)) ?_;refine gT (.pointer (some ⟨D, 0, none⟩)) ?_;refine gT (.pointer (some ⟨D, 0, none⟩)) ?_;refine gU (.slice b8 M a4) rfl (fun X hX => n9 rfl rfl (ap.out X hX)) ?_;refine gT (.int .i64 M) ?_;refine gT (.bool false) ?_;refine gT (.bool false) ?_;refine au ?_;obtain ⟨g2, rfl, am, b3⟩ := bz.out (by omega);obtain ⟨c, rfl⟩ : ∃ c, a0 = c + 1 := ⟨a0 - 1, by omega⟩;obtain ⟨u, hu⟩ : ∃ u, vs[c]? = some u := ⟨_, List.getElem?_eq_getElem (by have := bf.out; omega)⟩;obtain ⟨b, hb⟩ : ∃ b, s.blocks[c]? = some b := ⟨_, List.getElem?_eq_getElem (by have := HM.out; omega)⟩;have ba : Hid (∀ X, Below wr.heap.size wr X → BkV X L1 u b) := zH (fun X hX => (c7.out c u b hu (by rw [aj.out.1]; exact hb)).chg (F := fun _ => False) (Chg.of_below hX) (fun _ hf => hf.elim) (fun _ _ => rfl) HS.out.sh.lt);obtain ⟨an, a5, rfl, -⟩ := ba.out wr (Below.refl _ _)
     have bb : Hid (wr.cell? ⟨g2, c, none⟩ = some (.slice an b.length a5)) := zH (by
      have h1 : wr.ownsRow 0 29 1 v1.bl vs.length vs := c5.out;rw [bc.out, bf.out] at h1;rw [World.ownsRow.cellAt h1 c (by omega)]
      exact hu)
     have c2 : Hid (c < M ∧ M ≤ a4) := zH ⟨by omega, bw.out⟩
     have aw : Hid (rdB s p = b) := zH (by
      rw [av.out, if_neg (by have := HM.out; omega)]
      simp [List.getD_eq_getElem?_getD, hb])
     have b5 : IntKind.u16.wrap (c : Int) = (c : Int) := (by rw [IntKind.wrap_u16]; have := b9.out; omega);have a1 := zH (af.out (.slice an b.length a5) wr.drew.drew HS.out.drew.drew (by rw [aw.out]; exact ba.out _ (Below.refl _ _).drew.drew));rw [a6.out, if_neg (by have := HM.out; omega)] at a1;obtain ⟨bn, bj⟩ : ∃ n, b.length = n := ⟨_, rfl⟩;rw [bj] at bb a1;clear bj hu hb am b3 h0 hM bo c9
     go_upto_region 9 with fail
     refine gS (.take 0 (.take 1 (.take 2 (.take 3 (.take 4 (.take 5 (.take 6 (.take 7 (.take 8 (.take 9 (.take 10 (.take 11 (.nil))))))))))))) (fun X => ReS D G s1 p L1 v1 W1 X ∧ X.cell? ⟨g2, c, none⟩ = some (.slice an bn a5)) (⟨HS.out.drew.drew, bb.out⟩) ?_;refine gT (.pointer (some ⟨D, 0, none⟩)) ?_;refine gT (.pointer (some ⟨D, 0, none⟩)) ?_;refine gT (.pointer (some ⟨D, 0, none⟩)) ?_;refine gU (.slice (some ⟨g2, 0, none⟩) M a4) rfl (fun X hX => n9 rfl rfl (ap.out X hX.1)) ?_;refine gT (.pointer (some ⟨G, 37, none⟩)) ?_;refine gT (.pointer (some ⟨G, 37, none⟩)) ?_;refine gU (.int .u16 ((c + 1 : Nat) : Int)) rfl (fun X hX => az Tryz.underlying23 rfl rfl (by rw [← a3.out]; exact kz a2.out hX.1.box)) ?_;refine gU (.int .u16 (c : Int)) rfl (fun X hX => by have := b5; go_simp) ?_;refine gU (.pointer (some ⟨g2, c, none⟩)) rfl (fun X hX => a0f rfl rfl rfl c2.out) ?_;refine gU (.slice an bn a5) rfl (fun X hX => Xj rfl rfl hX.2) ?_;refine gT (.slice an bn a5) ?_;refine gT (.int .i64 0) ?_;refine au ?_
     go_wp2_with fail
     exact a1.out
end Go.Proofs.YtjgjohdeeeoeoaaGreatDoor
