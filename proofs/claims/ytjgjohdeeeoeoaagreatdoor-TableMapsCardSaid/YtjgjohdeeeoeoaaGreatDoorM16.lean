/- A walk goes below a pointer: any level. -/
import Derived.Test.YtjgjohdeeeoeoaaGreatDoorM15
set_option linter.all false
namespace Go.Proofs.YtjgjohdeeeoeoaaGreatDoor
open Go.RowKit
attribute [local go_sem] Oper.semAt_some
variable {md : Bool} {ls : List Lf} {ns qs : List Pt} {Bx D Wk first fr i tt wide : Nat} {L : Nat → Nat} {q : Pt} {s s1 : Sh} {X w : World}
theorem WkAt.c0 (h : WkAt X L D Wk Bx md fr tt s ns ls) : X.cell? ⟨Wk, 0, none⟩ = some (shI D) := by
 obtain ⟨nv, j1, _⟩ := h.wk;exact j1.cell rfl
theorem WkAt.c1 (h : WkAt X L D Wk Bx md fr tt s ns ls) : X.cell? ⟨Wk, 1, none⟩ = some (.int .u32 (fr : Int)) := by
 obtain ⟨nv, j1, _⟩ := h.wk;exact j1.cell rfl
theorem WkAt.c2 (h : WkAt X L D Wk Bx md fr tt s ns ls) : X.cell? ⟨Wk, 2, none⟩ = some (.int .u32 (tt : Int)) := by
 obtain ⟨nv, j1, _⟩ := h.wk;exact j1.cell rfl
structure NdR (L : Nat → Nat) (w : World) (D Wk Bx : Nat) (md : Bool) (fr tt : Nat) (s1 : Sh) (ns : List Pt) (ls : List Lf) (p : Pt) (nd : List Pt) (G : Nat) (g : Nat) (X : World) : Prop where
 wk : ∃ L', WkAt X L' D Wk Bx md fr tt s1 ns ls ∧ Mv 9 L w L' X ∧ L' G = 0 ∧ L' g = 0
 box : Blk X G (a8 p) 28
 nd : Blk X g (ah nd) 170
theorem NdR.cW0 {p : Pt} {nd : List Pt} {G g : Nat} (h : NdR L w D Wk Bx md fr tt s1 ns ls p nd G g X) : X.cell? ⟨Wk, 0, none⟩ = some (shI D) := by
 obtain ⟨⟨L', k1, _⟩, _⟩ := h;exact k1.c0
structure LoR (L : Nat → Nat) (w : World) (D Wk Bx : Nat) (md : Bool) (fr tt : Nat) (s1 : Sh) (ns : List Pt) (ls : List Lf) (X : World) : Prop where
 wk : ∃ L', WkAt X L' D Wk Bx md fr tt s1 ns ls ∧ Mv 9 L w L' X
theorem LoR.below {Y : World} (h : LoR L w D Wk Bx md fr tt s1 ns ls X) (hb : Below X.heap.size X Y) : LoR L w D Wk Bx md fr tt s1 ns ls Y := by
 obtain ⟨⟨L', k1, k2⟩⟩ := h;obtain ⟨v, hs⟩ := k1.sh;exact ⟨⟨L', k1.below hb, k2.trans (Mv.of_below hb hs.lt)⟩⟩
def Zo (L : Nat → Nat) (w : World) (D Wk Bx : Nat) (md : Bool) (fr tt : Nat) (f : Sh → List Pt → List Lf → Pt → Nat → Bw) (wd first : Nat) (nd : List Pt) (r : Bw) (m c : Nat) (v : Value) (wr : World) : Prop :=
 ∃ k s2 ns2 ls2, k ≤ 8 ∧ v = .int .i64 ((k : Nat) : Int) ∧ goB f wd first fr tt (nd.drop k) k s2 ns2 ls2 = r ∧ LoR L w D Wk Bx md fr tt s2 ns2 ls2 wr ∧ Lk (m + k * c) s2 ns2 ls2
theorem L0 {f : Sh → List Pt → List Lf → Pt → Nat → Bw} : goB f wide first fr tt [] i s ns ls = ⟨0, s, ns, ls⟩ := rfl
theorem K4 {α : Type} {l : List α} {k : Nat} {x : α} (h : l[k]? = some x) : l.drop k = x :: l.drop (k + 1) := by
 obtain ⟨hk, e⟩ := List.getElem?_eq_some_iff.1 h;rw [← e, ← List.drop_eq_getElem_cons hk]
def C4 (n : Nat) : Prop := ∀ {w : World} {L : Nat → Nat} {D Wk Bx fr tt : Nat} {md : Bool} {s : Sh} {ns : List Pt} {ls : List Lf} {m : Nat} (p : Pt) (_ : p.OK) (first : Nat) (_ : WkAt w L D Wk Bx md fr tt s ns ls) (_ : Lk m s ns ls) (_ : m + cB n < 100000000) (_ : first + 8 ^ n ≤ 64) (_ : fr ≤ 100 ∧ tt ≤ 100),
  Calls Tryz.prog 75 #[.pointer (some ⟨Wk, 0, none⟩), .agg (a8 p).toArray, .int .u8 (n : Int), .int .u32 (first : Int)] w (C5 L w D Wk Bx md fr tt (bg fr tt n s ns ls p first) (m + cB n))
theorem a0a : C4 0 := fun p hp first h hk hm hf _ => H9 p hp first h hk hm (by omega)
theorem jc {f : Sh → List Pt → List Lf → Pt → Nat → Bw} (h : first + i * wide + wide ≤ fr ∨ tt ≤ first + i * wide) : goB f wide first fr tt (q :: qs) i s ns ls = goB f wide first fr tt qs (i + 1) s ns ls := by
 conv => lhs; unfold goB
 rw [if_pos h]
theorem ug {f : Sh → List Pt → List Lf → Pt → Nat → Bw} (h : ¬ (first + i * wide + wide ≤ fr ∨ tt ≤ first + i * wide)) (he : (f s ns ls q (first + i * wide)).e ≠ 0) : goB f wide first fr tt (q :: qs) i s ns ls = f s ns ls q (first + i * wide) := by
 conv => lhs; unfold goB
 rw [if_neg h, if_pos he]
theorem mp {f : Sh → List Pt → List Lf → Pt → Nat → Bw} (h : ¬ (first + i * wide + wide ≤ fr ∨ tt ≤ first + i * wide)) (he : (f s ns ls q (first + i * wide)).e = 0) :
  goB f wide first fr tt (q :: qs) i s ns ls = goB f wide first fr tt qs (i + 1) (f s ns ls q (first + i * wide)).s (f s ns ls q (first + i * wide)).ns (f s ns ls q (first + i * wide)).ls := by
 conv => lhs; unfold goB
 rw [if_neg h, if_neg (by omega)]
theorem bu (fr tt n : Nat) (s : Sh) (ns : List Pt) (ls : List Lf) (p : Pt) (first : Nat) : bg fr tt (n + 1) s ns ls p first = if eqP p zeroP = true then ⟨0, s, ns, ls⟩ else if rnE s p ≠ 0 then ⟨rnE s p, rnS s p, ns, ls⟩ else goB (bg fr tt n) (8 ^ n) first fr tt (rnN s p) 0 (rnS s p) (ns ++ [p]) ls := rfl
set_option maxRecDepth 100000 in
set_option maxHeartbeats 16000000 in
theorem Ha (n : Nat) (hn2 : n ≤ 1) (IH : C4 n) : C4 (n + 1) := by
 intro w L D Wk Bx fr tt md s ns ls m p hp first h hk hm hf hft
 have ak := zH hp;have cr : Below w.heap.size w (w.alloc (.cells (a8 p).toArray 28)) := (Below.refl _ _).alloc (Nat.le_refl _) _;have HB : Hid (Blk (w.alloc (.cells (a8 p).toArray 28)) w.heap.size (a8 p) 28) := zH (Blk.new _ _ _);have H1 := zH (h.below cr);have b6 : Hid (L w.heap.size = 0) := zH (by obtain ⟨v, hs⟩ := h.sh; exact hs.not (Nat.le_refl _));have HK := zH hk;have HM : Hid (m + (1 + 8 * cB n) < 100000000) := zH hm;have HF : Hid (first + 8 * 8 ^ n ≤ 64) := zH (by rw [Nat.pow_succ] at hf; omega);have dh := zH hft;have dj := zH hn2;obtain ⟨r, hr⟩ : ∃ r, bg fr tt (n + 1) s ns ls p first = r := ⟨_, rfl⟩
 have HR : Hid (r = if eqP p zeroP = true then ⟨0, s, ns, ls⟩ else if rnE s p ≠ 0 then ⟨rnE s p, rnS s p, ns, ls⟩ else goB (bg fr tt n) (8 ^ n) first fr tt (rnN s p) 0 (rnS s p) (ns ++ [p]) ls) := zH (by rw [← hr, bu]);rw [hr];obtain ⟨mm, co⟩ : ∃ mm, m + cB (n + 1) = mm := ⟨_, rfl⟩;have a4 : Hid (mm = m + (1 + 8 * cB n)) := zH co.symm;rw [co];generalize hPost : C5 L w D Wk Bx md fr tt r mm = Post;have HP : Hid (∀ w', WkPost L (w.alloc (.cells (a8 p).toArray 28)) D Wk Bx md fr tt r.s r.ns r.ls w' → Lk mm r.s r.ns r.ls → Post (.returned (.int .i64 (r.e : Int))) w') := zH fun w' h2 h3 => by rw [← hPost]; exact ⟨rfl, WkPost.pre h cr h2, h3⟩
 obtain ⟨lv, bs⟩ : ∃ lv, n + 1 = lv := ⟨_, rfl⟩;have e3 : ((lv : Int) == 0) = false := by rw [← bs]; simp; omega
 have du : IntKind.u8.wrap ((lv : Int) - 1) = (n : Int) := by rw [IntKind.wrap_u8, ← bs]; omega
 rw [bs];clear hp h hk hm hf hft cr hPost hr hn2 co bs;go_enter Tryz.func75, Tryz.ntmps75
 go_upto_region 1 with fail
 obtain ⟨G, hG⟩ : ∃ G, w.heap.size = G := ⟨_, rfl⟩;rw [hG] at HB b6 ⊢;generalize (w.alloc (.cells (a8 p).toArray 28)) = W at HB H1 HP ⊢
 go_wp2_with (first | (refine a9 rfl (ax ak.out HB.out rfl rfl) ?_) | fail)
 refine (fk p ak.out W).mono ?_;rintro e W2 ⟨rfl, ba⟩;have ag := zH (HB.out.below ba HB.out.lt);have H2 := zH (H1.out.below ba);have c7 : Hid (∀ w', WkPost L W2 D Wk Bx md fr tt r.s r.ns r.ls w' → Lk mm r.s r.ns r.ls → Post (.returned (.int .i64 (r.e : Int))) w') := zH fun w' h2 h3 => HP.out w' (WkPost.pre H1.out ba h2) h3
 have dg : Hid (eqP p zeroP = true → Post (.returned (.int .i64 (r.e : Int))) W2) := zH fun hz => HP.out W2 (by
  have h3 := HR.out;rw [if_pos hz] at h3;subst h3
  exact WkPost.of_below H1.out ba) (by
  have h3 := HR.out;rw [if_pos hz] at h3;subst h3
  exact HK.out.mono (by have := a4.out; omega) (by have := HM.out; have := a4.out; omega))
 clear ba HB HP H1;cases hz : eqP p zeroP
 ·rw [hz] at HR
  go_upto_region 6 with fail
  obtain ⟨v2, b5⟩ := H2.out.sh;have br := tv (w := W2.drew) p ak.out b5.drew HK.out.lim;have a2 := tv (w := W2.drew.alloc (.cells (ah holes).toArray 170)) p ak.out (b5.below ((Below.refl _ _).drew.alloc (Nat.le_refl _) _)) HK.out.lim;obtain ⟨nd, bt⟩ : ∃ nd, rnN s p = nd := ⟨_, rfl⟩;obtain ⟨re, a1⟩ : ∃ re, rnE s p = re := ⟨_, rfl⟩;obtain ⟨s1, bx⟩ : ∃ s1, rnS s p = s1 := ⟨_, rfl⟩;have c4 : Hid (Lim (m + 1) s1) := zH (by rw [← bx]; exact HK.out.lim.rnS (by have := HM.out; omega));have aj : Hid (NOK nd) := zH (by rw [← bt]; exact Ac s p);have d4 := zH (mg aj.out);have d3 : Hid ((ah nd).toArray.size = 328) := zH aj.out.size;have cz := zH (gz aj.out.ok);unfold Ca at br a2;rw [bt, a1, bx] at br a2;rw [bt, a1, bx] at HR
  -- what the call leaves, in either order
  have HA : ∀ X, ShPost 5 L W2.drew D s1 X → (X.cell? ⟨Wk, 0, none⟩ = some (shI D) ∧ Blk X G (a8 p) 28) ∧ NdR L W2 D Wk Bx md fr tt s1 ns ls p nd G X.heap.size ((X.alloc (.cells (ah holes).toArray 170)).setRow X.heap.size (ah nd).toArray) := fun X ⟨L', v', k1, k2⟩ => by
   have hw : WkAt X L' D Wk Bx md fr tt s1 ns ls := H2.out.drew.shelf k1 k2;have b3 := k2.blk ag.out.drew b6.out;have cj := (ar X (ah holes).toArray (ah nd) 170).2;exact ⟨⟨hw.c0, b3⟩, ⟨⟨L', hw.below cj, ((Mv.of_below ((Below.refl W2.heap.size W2).drew) b5.lt).trans (k2.mono (by omega))).trans (Mv.of_below cj k1.lt), (k2.old G ag.out.lt).trans b6.out, k1.not (Nat.le_refl _)⟩, b3.below cj b3.lt, (ar X _ (ah nd) 170).1⟩⟩
  have aw : ∀ X, ShPost 5 L (W2.drew.alloc (.cells (ah holes).toArray 170)) D s1 X → (X.cell? ⟨Wk, 0, none⟩ = some (shI D) ∧ Blk X G (a8 p) 28 ∧ Blk X W2.heap.size (ah holes) 170) ∧ NdR L W2 D Wk Bx md fr tt s1 ns ls p nd G W2.heap.size (X.setRow W2.heap.size (ah nd).toArray) := fun X ⟨L', v', k1, k2⟩ => by
   have ch : Below W2.heap.size W2 (W2.drew.alloc (.cells (ah holes).toArray 170)) := (Below.refl _ _).drew.alloc (Nat.le_refl _) _;have hw : WkAt X L' D Wk Bx md fr tt s1 ns ls := (H2.out.below ch).shelf k1 k2;have b3 := k2.blk (ag.out.below ch ag.out.lt) b6.out;have bk : L W2.heap.size = 0 := b5.not (Nat.le_refl _);have dc : Blk X W2.heap.size (ah holes) 170 := k2.blk (Blk.new W2.drew _ _) bk;have a3 : L' W2.heap.size = 0 := (k2.old _ (by simp)).trans bk;have hc := tf X W2.heap.size (ah nd).toArray;have dv : (X.setRow W2.heap.size (ah nd).toArray).heap.size = X.heap.size := (by simp);have cn : Mv 9 L W2 L' X := (Mv.of_below ch b5.lt).trans (k2.mono (by omega));refine ⟨⟨hw.c0, b3, dc⟩, ⟨⟨L', ?_, ⟨cn.chg.trans hc (fun g e => by right; have : g = W2.heap.size := e; omega), cn.old, cn.new⟩, (k2.old G (by have := ag.out.lt; simp; omega)).trans b6.out, a3⟩, b3.rowOther (by have := ag.out.lt; omega) _, dc.row _⟩⟩;obtain ⟨v3, av⟩ := hw.sh;obtain ⟨nv, j1, j2, j3⟩ := hw.wk;have bv : ∀ g, L' g ≠ 0 → ¬ g = W2.heap.size := fun g hg e => hg (by rw [e]; exact a3)
   exact ⟨⟨v3, av.out hc (fun g e _ => .inl (by have e : g = W2.heap.size := e; rw [e]; exact a3)) (fun _ _ => .inl rfl) (fun g hg => by rw [dv]; exact av.lt g hg)⟩, ⟨nv, j1.chg hc (bv _ (by rw [hw.l7]; omega)), bc j2 hc (fun g hg => bv g (by rw [j3 g hg]; omega)), j3⟩, hw.ga.chg hc (bv _ (by rw [hw.l6]; omega)) (fun g e e9 => bv g (by omega) e) (fun _ _ => rfl), hw.l7, hw.l6, hw.okn, hw.okl⟩
  have d7 := H2.out.drew.c0;have bd := ag.out.drew;have az : Blk (W2.drew.alloc (.cells (ah holes).toArray 170)) G (a8 p) 28 := ag.out.drew.alloc _;have b4 := (H2.out.below (w' := W2.drew.alloc (.cells (ah holes).toArray 170)) ((Below.refl _ _).drew.alloc (Nat.le_refl _) _)).c0;obtain ⟨WA, cd⟩ : ∃ X, W2.drew.alloc (.cells (ah holes).toArray 170) = X := ⟨_, rfl⟩;rw [cd] at a2 aw az b4;clear b5 bt a1 bx;refine Gt (NdR L W2 D Wk Bx md fr tt s1 ns ls p nd G) ?_;apply Exists.intro;constructor
  ·refine ci (.take 0 (.take 1 (.take 2 (.take 3 (.take 4 (.fork 5 (.take 6 (.take 7 (.take 8 (.step 9 (.step 10 (.take 11 (.nil))))))) 9 (.step 5 (.take 6 (.take 7 (.take 8 (.step 10 (.take 11 (.nil))))))))))))) (by kernel_rfl) (by kernel_rfl) (fun d _ _ _ _ h => by cases h.1) (fun X => X.cell? ⟨Wk, 0, none⟩ = some (shI D) ∧ Blk X G (a8 p) 28) (⟨d7, bd⟩) ?_
   refine gT (.pointer (some ⟨Wk, 0, none⟩)) ?_;refine gT (.pointer (some ⟨Wk, 0, none⟩)) ?_;refine gU (.pointer (some ⟨Wk, 0, none⟩)) rfl (fun X hX => ze (by omega) rfl rfl) ?_;refine gU (shI D) rfl (fun X hX => a0j rfl rfl hX.1) ?_;refine gU (.agg (a8 p).toArray) rfl (fun X hX => ax ak.out hX.2 rfl rfl) ?_;refine i8 ?_ ?_
   ·refine b8 _ rfl (by rfl) 95 #[shI D, .agg (a8 p).toArray] (fun X => by go_simp) (fun u X => u = .tuple #[.agg (ah nd).toArray, .int .i64 (re : Int)] ∧ ShPost 5 L W2.drew D s1 X) (br.mono fun e X ⟨e1, e2⟩ => ⟨_, e1, (HA X e2).1, rfl, e2⟩) ?_
    rintro u X3 av ⟨rfl, b9⟩;refine ⟨fun X => X.cell? ⟨Wk, 0, none⟩ = some (shI D) ∧ Blk X G (a8 p) 28, fun _ h => h, av, ?_⟩; try simp only [pS]
    refine gT (.tuple #[.agg (ah nd).toArray, .int .i64 (re : Int)]) ?_;refine gT (.agg (ah nd).toArray) ?_;refine gT (.int .i64 (re : Int)) ?_;obtain ⟨ga, cl⟩ : ∃ g, X3.heap.size = g := ⟨_, rfl⟩;have al := (HA X3 b9).2;have dr : (X3.alloc (.cells (ah holes).toArray 170)).cell? ⟨Wk, 0, none⟩ = some (shI D) ∧ Blk (X3.alloc (.cells (ah holes).toArray 170)) G (a8 p) 28 := ⟨by rw [(Below.cell (w := X3) (B := X3.heap.size) ((Below.refl _ _).alloc (Nat.le_refl _) _) (p := ⟨Wk, 0, none⟩) (by obtain ⟨L9, v9, k9, m9⟩ := b9; obtain ⟨nv, j1, _⟩ := H2.out.wk; exact Nat.lt_of_lt_of_le j1.lt m9.size))]; exact av.1, av.2.alloc _⟩;have dt : Blk (X3.alloc (.cells (ah holes).toArray 170)) ga (ah holes) 170 := (by rw [← cl]; exact Blk.new _ _ _);have cf : ∀ {ρ : Operand → Value} {o : Oper}, o.op = .alloc 170 → (execOp ρ o).run Tryz.prog X3 = .ok (.value (.pointer (some ⟨ga, 0, none⟩))) (X3.alloc (.cells (ah holes).toArray 170)) := fun h => by rw [← cl]; exact Rk h
    rw [cl] at al;refine bm _ rfl (by rfl) (.pointer (some ⟨ga, 0, none⟩)) _ (cf rfl) (fun X => X.cell? ⟨Wk, 0, none⟩ = some (shI D) ∧ Blk X G (a8 p) 28) dr (fun _ h => h) ?_; try simp only [pS]
    refine kp _ rfl (by rfl) 170 (.tmp 9) (.tmp 35) rfl ga (ah nd).toArray rfl rfl dt d4.out (by rw [d3.out, holes_ok.cells]) cz.out (fun X => X.cell? ⟨Wk, 0, none⟩ = some (shI D) ∧ Blk X G (a8 p) 28) (fun _ h => h) ⟨al.cW0, al.box⟩ ?_; try simp only [pS]
    refine gT (.int .i64 (re : Int)) ?_;refine au ?_;exact ⟨rfl, ga, rfl, al⟩
   ·obtain ⟨gb, d8⟩ : ∃ g, W2.drew.heap.size = g := ⟨_, rfl⟩
    have cf : ∀ {ρ : Operand → Value} {o : Oper}, o.op = .alloc 170 → (execOp ρ o).run Tryz.prog W2.drew = .ok (.value (.pointer (some ⟨gb, 0, none⟩))) WA := fun h => by rw [← d8, ← cd]; exact Rk h
    have cm : W2.heap.size = gb := d8;rw [cm] at aw;refine bm _ rfl (by rfl) (.pointer (some ⟨gb, 0, none⟩)) WA (cf rfl) (fun X => X.cell? ⟨Wk, 0, none⟩ = some (shI D) ∧ Blk X G (a8 p) 28) ⟨b4, az⟩ (fun _ h => h) ?_; try simp only [pS]
    refine b8 _ rfl (by rfl) 95 #[shI D, .agg (a8 p).toArray] (fun X => by go_simp) (fun u X => u = .tuple #[.agg (ah nd).toArray, .int .i64 (re : Int)] ∧ ShPost 5 L WA D s1 X) (a2.mono fun e X ⟨e1, e2⟩ => ⟨_, e1, ⟨(aw X e2).1.1, (aw X e2).1.2.1⟩, rfl, e2⟩) ?_;rintro u X3 av ⟨rfl, b9⟩;refine ⟨fun X => X.cell? ⟨Wk, 0, none⟩ = some (shI D) ∧ Blk X G (a8 p) 28, fun _ h => h, av, ?_⟩; try simp only [pS]
    refine gT (.tuple #[.agg (ah nd).toArray, .int .i64 (re : Int)]) ?_;refine gT (.agg (ah nd).toArray) ?_;refine gT (.int .i64 (re : Int)) ?_;have al := (aw X3 b9).2;refine kp _ rfl (by rfl) 170 (.tmp 9) (.tmp 35) rfl gb (ah nd).toArray rfl rfl (aw X3 b9).1.2.2 d4.out (by rw [d3.out, holes_ok.cells]) cz.out (fun X => X.cell? ⟨Wk, 0, none⟩ = some (shI D) ∧ Blk X G (a8 p) 28) (fun _ h => h) ⟨al.cW0, al.box⟩ ?_; try simp only [pS]
    refine gT (.int .i64 (re : Int)) ?_;refine au ?_;exact ⟨rfl, gb, rfl, al⟩
  intro g X hX;have HX := zH hX;clear hX HA aw d7 bd az b4 br a2 cd;obtain ⟨⟨L3, k1, k2, k3, k4⟩, k5, k6⟩ := HX.out;have ca := zH k1; have c6 := zH k2; have c3 := zH k3; have Hg := zH k4; have b2 := zH k5; have cy := zH k6;clear k1 k2 k3 k4 k5 k6;by_cases a1 : re = 0
  ·subst a1
   obtain ⟨rs, cq⟩ : ∃ rs : Bw, goB (bg fr tt n) (8 ^ n) first fr tt nd 0 s1 (ns ++ [p]) ls = rs := ⟨_, rfl⟩
   have d2 : Hid (r = rs) := zH (by rw [HR.out, cq]; rfl);have c8 := zH cq;obtain rfl := d2.out;clear HR cq d2 HX;rw [show ((0 : Nat) : Int) = (0 : Int) from rfl]
   go_upto_region 9 with fail
   obtain ⟨u, v3, w3, hu, hr, de, ⟨_, an⟩, ao, ad, aq⟩ := Pb ak.out ca.out (by have := HK.out.ns; have := HM.out; omega);have d5 := (ad b2.out c3.out).1;have d6 := (ad b2.out c3.out).2;have ay := zH ((ad cy.out Hg.out).2)
   have c9 : Hid (LoR L W2 D Wk Bx md fr tt s1 (ns ++ [p]) ls (w3.setCell ⟨Wk, 3, none⟩ v3)) := zH (by
    obtain ⟨L4, j1, j2⟩ := aq
    exact ⟨L4, j1, c6.out.trans j2⟩)
   have b4 := hu X.drew ((Below.refl _ _).drew);have ck := hu (X.drew.alloc (.cells (a8 p).toArray 28)) ((Below.refl _ _).drew.alloc (Nat.le_refl _) _);have b7 : Blk (X.drew.alloc (.cells (a8 p).toArray 28)) G (a8 p) 28 := b2.out.drew.alloc _;obtain ⟨W5, cb⟩ : ∃ W5, X.drew.alloc (.cells (a8 p).toArray 28) = W5 := ⟨_, rfl⟩;have b1 : ∀ {ρ : Operand → Value} {o : Oper} {x : Operand}, o.op = .buildSlice 48 1 #[(0, x)] → ρ x = .agg (a8 p).toArray → (execOp ρ o).run Tryz.prog X.drew = .ok (.value (.slice (some ⟨X.drew.heap.size, 0, none⟩) 1 1)) W5 := fun h1 h2 => by rw [← cb]; exact Aa p h1 h2 ak.out
   rw [cb] at hr ck b7;clear aq ad hu;refine vt ?_;apply Exists.intro;apply Exists.intro;constructor
   ·refine ci (.take 0 (.take 1 (.take 2 (.take 3 (.take 5 (.fork 4 (.step 6 (.step 7 (.take 8 (.take 9 (.step 10 (.nil)))))) 6 (.step 4 (.step 7 (.take 8 (.take 9 (.step 10 (.nil)))))))))))) (by kernel_rfl) (by kernel_rfl) (fun d _ _ _ _ h => by cases h.1) (fun X => Blk X G (a8 p) 28) (b2.out.drew) ?_
    refine gT (.pointer (some ⟨Wk, 0, none⟩)) ?_;refine gT (.pointer (some ⟨Wk, 0, none⟩)) ?_;refine gU (.pointer (some ⟨Wk, 0, none⟩)) rfl (fun X hX => pj rfl rfl) ?_;refine gU (.pointer (some ⟨Wk, 3, none⟩)) rfl (fun X hX => ze (by omega) rfl rfl) ?_;refine gU (.agg (a8 p).toArray) rfl (fun X hX => ax ak.out hX rfl rfl) ?_;refine i8 (bm _ rfl (by rfl) u X.drew (ib rfl rfl b4) (fun X => Blk X G (a8 p) 28) (b2.out.drew) (fun _ h => h) ?_) ?_; try simp only [pS]
    refine bm _ rfl (by rfl) (.slice (some ⟨X.drew.heap.size, 0, none⟩) 1 1) W5 (b1 rfl rfl) (fun X => Blk X G (a8 p) 28) b7 (fun _ h => h) ?_; try simp only [pS]
    rotate_left
    refine bm _ rfl (by rfl) (.slice (some ⟨X.drew.heap.size, 0, none⟩) 1 1) W5 (b1 rfl rfl) (fun X => Blk X G (a8 p) 28) b7 (fun _ h => h) ?_; try simp only [pS]
    refine bm _ rfl (by rfl) u W5 (ib rfl rfl ck) (fun X => Blk X G (a8 p) 28) b7 (fun _ h => h) ?_; try simp only [pS]
    all_goals
     refine bm _ rfl (by rfl) v3 w3 (rk rfl rfl rfl hr) (fun X => Blk X G (a8 p) 28) d5 (fun _ h => h) ?_; try simp only [pS]
     refine gU (.pointer (some ⟨Wk, 0, none⟩)) rfl (fun X hX => pj rfl rfl) ?_;refine gU (.pointer (some ⟨Wk, 3, none⟩)) rfl (fun X hX => ze (by omega) rfl rfl) ?_;refine pf _ rfl (by rfl) (w3.setCell ⟨Wk, 3, none⟩ v3) (yl rfl rfl rfl de an ao) (fun X => Blk X G (a8 p) 28) d6 (fun _ h => h) ?_;refine au ?_;exact ⟨rfl, rfl, rfl⟩
   clear an ao d5 d6 hr b4 ck b7 b1 cb de ca c6 c3 Hg cy b2;generalize w3.setCell ⟨Wk, 3, none⟩ v3 = X5 at ay c9 ⊢
   go_wp2_with fail
   refine (vm n (by have := dj.out; omega) X5).mono ?_;rintro e X6 ⟨rfl, rfl⟩;obtain ⟨wd, cs⟩ : ∃ wd, 8 ^ n = wd := ⟨_, rfl⟩;rw [cs] at HF c8 ⊢;have dl := zH cs;clear cs
   go_wp2_with (first | (refine a9 rfl (gx aj.out ay.out rfl rfl) ?_) | fail)
   have d1 : Hid (Zo L W2 D Wk Bx md fr tt (bg fr tt n) wd first nd r (m + 1) (cB n) (.int .i64 0) X6) := zH ⟨0, s1, ns ++ [p], ls, by omega, rfl, by rw [List.drop_zero]; exact c8.out, c9.out, ⟨c4.out.mono (by omega) (by have := HM.out; omega), by have := HK.out.ns; simp; omega, by have := HK.out.ls; omega⟩⟩;clear ay c9 c8 c4;go_loopw [54] (fun v wr => Zo L W2 D Wk Bx md fr tt (bg fr tt n) wd first nd r (m + 1) (cB n) v wr) (fun v _ => 8 - (intOf v).toNat)
   case atStart => exact d1.out
   case round =>
    clear d1;obtain ⟨k, s2, a7, a6, ds, rfl, b0, db, da⟩ := hrel;have bl := zH b0; have c5 := zH db; have bo := zH da;clear b0 db da;have e8 := IntWalk.i64_in ((k : Int) + 1) (by omega);by_cases hlt : k < 8
    ·obtain ⟨q, hq⟩ := aj.out.get hlt
     have e0 : ∀ W : World, (Instr.index 170 (.agg (ah nd).toArray) (.int .i64 (k : Int))).run Tryz.prog W = .ok (.agg (a8 q).toArray) W := fun W => Di Tryz.underlying170 aj.out hq W
     have bp := zH (aj.out.at hq);have dk := zH (bh bp.out);have di : Hid ((a8 q).toArray.size = 41) := zH (by rw [List.size_toArray, aa bp.out]);have ab : Hid (goB (bg fr tt n) wd first fr tt (q :: nd.drop (k + 1)) k s2 a7 a6 = r) := zH (by rw [← K4 hq]; exact bl.out);clear hq bl
     go_upto_region 14 with (first | (refine wpList_store_row rfl 28 (.tmp 13) (.tmp 57) rfl wr.heap.size (a8 q).toArray rfl rfl 28 _ (heap_alloc_new wr _) dk.out (by rw [di.out]; rfl) (bb q) ?_) | fail)
     refine (fun (k : ∀ W, Blk W wr.heap.size (a8 q) 28 → Below wr.heap.size wr W → Code.wp _ _ _ _ W) => k _ (ar wr _ (a8 q) 28).1 (ar wr _ (a8 q) 28).2) ?_;intro X7 hb7 hw7;have bn := zH (c5.out.below hw7);obtain ⟨gq, d9⟩ : ∃ g, wr.heap.size = g := ⟨_, rfl⟩;rw [d9] at hb7 ⊢;have df := zH hb7;clear hb7 hw7 d9 c5;have dm := HF.out;have ct : wd ≤ 8 := (by omega);have ap : k * wd ≤ 64 := Nat.le_trans (Nat.mul_le_mul (show k ≤ 7 by omega) (Nat.le_refl wd)) (by omega);have bj : k * wd + wd ≤ 8 * wd := (by rw [← Nat.succ_mul]; exact Nat.mul_le_mul (show k + 1 ≤ 8 by omega) (Nat.le_refl wd));obtain ⟨kw, bi⟩ : ∃ kw, k * wd = kw := ⟨_, rfl⟩;have e4 : IntKind.u32.wrap (k : Int) = (k : Int) := (by rw [IntKind.wrap_u32]; omega);have e5 : IntKind.u32.wrap ((k : Int) * (wd : Int)) = (kw : Int) := (by rw [← bi, IntKind.wrap_u32, ← Int.natCast_mul]; omega);rw [bi] at ap bj;obtain ⟨a0, cg⟩ : ∃ x, first + kw = x := ⟨_, rfl⟩
     obtain ⟨ae, ce⟩ : ∃ x, a0 + wd = x := ⟨_, rfl⟩;have e6 : IntKind.u32.wrap ((first : Int) + (kw : Int)) = (a0 : Int) := (by rw [IntKind.wrap_u32]; omega);have e7 : IntKind.u32.wrap ((a0 : Int) + (wd : Int)) = (ae : Int) := (by rw [IntKind.wrap_u32]; omega);have cu : Hid (first + k * wd = a0 ∧ a0 + wd = ae ∧ ae ≤ 64) := zH ⟨by rw [bi]; exact cg, ce, by omega⟩;have bz : Hid ((first + k * wd + wd ≤ fr ∨ tt ≤ first + k * wd) ↔ (ae ≤ fr ∨ tt ≤ a0)) := zH (by rw [bi, cg, ce]);obtain ⟨⟨L7, q7, -⟩⟩ := bn.out;have c1 := q7.c1;have c2 := q7.c2;clear dm ct ap bj bi cg ce q7;by_cases ha : ae ≤ fr
     ·have dw : (ae : Int) ≤ (fr : Int) := by omega
      have a5 := zH (jc (f := bg fr tt n) (i := k) (q := q) (qs := nd.drop (k + 1)) (s := s2) (ns := a7) (ls := a6) (bz.out.2 (.inl ha)))
      go_wp2_with fail
      go_roundw
      case rel => exact ⟨k + 1, s2, a7, a6, by omega, by go_num, a5.out.symm.trans ab.out, bn.out, bo.out.mono (by rw [Nat.succ_mul]; omega) (by have := HM.out; have : (k + 1) * cB n ≤ 8 * cB n := Nat.mul_le_mul (by omega) (Nat.le_refl _); omega)⟩
      case measure => simp [intOf]; omega
     ·have dx : decide ((ae : Int) ≤ (fr : Int)) = false := decide_eq_false (by omega)
      have dn : ¬ (ae : Int) ≤ (fr : Int) := (by omega);by_cases hb : tt ≤ a0
      ·have dp : (tt : Int) ≤ (a0 : Int) := by omega
       have dz : decide ((tt : Int) ≤ (a0 : Int)) = true := decide_eq_true dp;have a5 := zH (jc (f := bg fr tt n) (i := k) (q := q) (qs := nd.drop (k + 1)) (s := s2) (ns := a7) (ls := a6) (bz.out.2 (.inr hb)));clear ha
       go_wp2_with fail
       go_roundw
       case rel => exact ⟨k + 1, s2, a7, a6, by omega, by go_num, a5.out.symm.trans ab.out, bn.out, bo.out.mono (by rw [Nat.succ_mul]; omega) (by have := HM.out; have : (k + 1) * cB n ≤ 8 * cB n := Nat.mul_le_mul (by omega) (Nat.le_refl _); omega)⟩
       case measure => simp [intOf]; omega
      ·have dy : decide ((tt : Int) ≤ (a0 : Int)) = false := decide_eq_false (by omega)
       have dq : ¬ (tt : Int) ≤ (a0 : Int) := (by omega);have cx : Hid (¬ (first + k * wd + wd ≤ fr ∨ tt ≤ first + k * wd)) := zH (by rw [bz.out]; omega);obtain ⟨⟨L7, q7, m7⟩⟩ := bn.out;have am := IH q bp.out a0 q7 bo.out (by have := HM.out; have : (k + 1) * cB n ≤ 8 * cB n := Nat.mul_le_mul (by omega) (Nat.le_refl _); rw [Nat.succ_mul] at this; omega) (by have := cu.out; rw [dl.out]; omega) dh.out;have cw := zH m7;have ai := zH am;clear q7 m7 am ha hb
       go_wp2_with (first | (refine a9 rfl (ax bp.out df.out rfl rfl) ?_) | fail)
       refine ai.out.mono ?_;obtain ⟨rb, cp⟩ : ∃ rb : Bw, bg fr tt n s2 a7 a6 q a0 = rb := ⟨_, rfl⟩;have bq : Hid (bg fr tt n s2 a7 a6 q (first + k * wd) = rb) := zH (by rw [cu.out.1]; exact cp);rw [cp];rintro e X8 ⟨rfl, dd, bf⟩;have d0 := zH (WkPost.mv cw.out dd);have cv := zH bf;clear cp dd bf ai cw;by_cases a1 : rb.e = 0
       ·have af : (rb.e : Int) = 0 := by omega
        have a5 := zH (mp (f := bg fr tt n) (i := k) (q := q) (qs := nd.drop (k + 1)) (s := s2) (ns := a7) (ls := a6) cx.out (by rw [bq.out]; exact a1));rw [af];clear a1 af
        go_wp2_with fail
        go_roundw
        case rel =>
         refine ⟨k + 1, rb.s, rb.ns, rb.ls, by omega, by go_num, ?_, ⟨d0.out⟩, cv.out.mono (by rw [Nat.succ_mul]; omega) (by have := HM.out; have : (k + 1) * cB n ≤ 8 * cB n := Nat.mul_le_mul (by omega) (Nat.le_refl _); omega)⟩;have h9 := a5.out.symm.trans ab.out;rw [bq.out] at h9;exact h9
        case measure => simp [intOf]; omega
       ·have af : ¬ (rb.e : Int) = 0 := by omega
        have a5 : Hid (rb = r) := zH (by
         have h9 := ug (f := bg fr tt n) (i := k) (q := q) (qs := nd.drop (k + 1)) (s := s2) (ns := a7) (ls := a6) cx.out (by rw [bq.out]; exact a1);rw [bq.out] at h9
         exact h9.symm.trans ab.out)
        have HE := zH (c7.out X8 (by rw [← a5.out]; exact d0.out) (by rw [← a5.out]; exact cv.out.mono (by have := a4.out; have : (k + 1) * cB n ≤ 8 * cB n := Nat.mul_le_mul (by omega) (Nat.le_refl _); rw [Nat.succ_mul] at this; omega) (by have := HM.out; have := a4.out; omega)));rw [← a5.out] at HE;clear a1 a5
        go_wp2_with fail
        first | exact HE.out | (go_ret; exact HE.out)
    ·obtain rfl : k = 8 := by omega
     have b0 := bl.out;rw [List.drop_of_length_le (by rw [aj.out.len]; omega)] at b0;have b0 : (⟨0, s2, a7, a6⟩ : Bw) = r := b0;obtain rfl := b0;have HE := zH (c7.out wr c5.out.wk (bo.out.mono (by have := a4.out; omega) (by have := HM.out; have := a4.out; omega)));clear bl hlt ds;rw [show ((8 : Nat) : Int) = (8 : Int) from rfl]
     go_wp2_with fail
     first | exact HE.out | (go_ret; exact HE.out)
  ·have af : ¬ (re : Int) = 0 := by omega
   have bw : r = ⟨re, s1, ns, ls⟩ := (by rw [HR.out, if_neg (by simp), if_pos a1]);have HE := zH (c7.out X (by rw [bw]; exact ⟨L3, ca.out, c6.out⟩) (by rw [bw]; exact ⟨c4.out.mono (by have := a4.out; omega) (by have := HM.out; have := a4.out; omega), by show ns.length ≤ mm; have := HK.out.ns; have := a4.out; omega, by show ls.length ≤ mm; have := HK.out.ls; have := a4.out; omega⟩));rw [bw] at HE;clear a1 bw
   go_wp2_with fail
   first | exact HE.out | (go_ret; exact HE.out)
 ·have HE := zH (dg.out hz)
  rw [hz] at HR;obtain rfl : r = ⟨0, s, ns, ls⟩ := HR.out
  go_wp2_with fail
  first | exact HE.out | (go_ret; exact HE.out)
theorem vx : ∀ n, n ≤ 2 → C4 n
 | 0, _ => a0a
 | n + 1, h => Ha n (by omega) (vx n (by omega))
end Go.Proofs.YtjgjohdeeeoeoaaGreatDoor
