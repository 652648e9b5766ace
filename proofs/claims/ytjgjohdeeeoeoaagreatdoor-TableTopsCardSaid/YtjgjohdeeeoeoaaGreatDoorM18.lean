/- A walk goes below a pointer: any level. -/
import Derived.Test.YtjgjohdeeeoeoaaGreatDoorM17
namespace Go.Proofs.YtjgjohdeeeoeoaaGreatDoor
open Go.RowKit
attribute [local go_sem] Oper.semAt_some
theorem WkAt.c0 {X : World} {L : Nat → Nat} {D Wk Bx fr tt : Nat} {md : Bool} {s : Sh} {ns : List Pt} {ls : List Lf} (h : WkAt X L D Wk Bx md fr tt s ns ls) : X.cell? ⟨Wk, 0, none⟩ = some (shI D) := by
  obtain ⟨nv, j1, _⟩ := h.wk
  exact j1.cell rfl
theorem WkAt.c1 {X : World} {L : Nat → Nat} {D Wk Bx fr tt : Nat} {md : Bool} {s : Sh} {ns : List Pt} {ls : List Lf} (h : WkAt X L D Wk Bx md fr tt s ns ls) : X.cell? ⟨Wk, 1, none⟩ = some (.int .u32 (fr : Int)) := by
  obtain ⟨nv, j1, _⟩ := h.wk
  exact j1.cell rfl
theorem WkAt.c2 {X : World} {L : Nat → Nat} {D Wk Bx fr tt : Nat} {md : Bool} {s : Sh} {ns : List Pt} {ls : List Lf} (h : WkAt X L D Wk Bx md fr tt s ns ls) : X.cell? ⟨Wk, 2, none⟩ = some (.int .u32 (tt : Int)) := by
  obtain ⟨nv, j1, _⟩ := h.wk
  exact j1.cell rfl
structure NdR (L : Nat → Nat) (w : World) (D Wk Bx : Nat) (md : Bool) (fr tt : Nat) (s1 : Sh) (ns : List Pt) (ls : List Lf) (p : Pt) (nd : List Pt) (G : Nat) (g : Nat) (X : World) : Prop where
  wk : ∃ L', WkAt X L' D Wk Bx md fr tt s1 ns ls ∧ Mv 9 L w L' X ∧ L' G = 0 ∧ L' g = 0
  box : Blk X G (pcells p) 28
  nd : Blk X g (ncells nd) 170
theorem NdR.cW0 {L : Nat → Nat} {w : World} {D Wk Bx : Nat} {md : Bool} {fr tt : Nat} {s1 : Sh} {ns : List Pt} {ls : List Lf} {p : Pt} {nd : List Pt} {G g : Nat} {X : World} (h : NdR L w D Wk Bx md fr tt s1 ns ls p nd G g X) : X.cell? ⟨Wk, 0, none⟩ = some (shI D) := by
  obtain ⟨⟨L', k1, _⟩, _⟩ := h
  exact k1.c0
structure LoR (L : Nat → Nat) (w : World) (D Wk Bx : Nat) (md : Bool) (fr tt : Nat) (s1 : Sh) (ns : List Pt) (ls : List Lf) (X : World) : Prop where
  wk : ∃ L', WkAt X L' D Wk Bx md fr tt s1 ns ls ∧ Mv 9 L w L' X
theorem LoR.below {L : Nat → Nat} {w : World} {D Wk Bx : Nat} {md : Bool} {fr tt : Nat} {s1 : Sh} {ns : List Pt} {ls : List Lf} {X Y : World} (h : LoR L w D Wk Bx md fr tt s1 ns ls X) (hb : Below X.heap.size X Y) : LoR L w D Wk Bx md fr tt s1 ns ls Y := by
  obtain ⟨⟨L', k1, k2⟩⟩ := h
  obtain ⟨v, hs⟩ := k1.sh
  exact ⟨⟨L', k1.below hb, k2.trans (Mv.of_below hb hs.lt)⟩⟩
def LpRel (L : Nat → Nat) (w : World) (D Wk Bx : Nat) (md : Bool) (fr tt : Nat) (f : Sh → List Pt → List Lf → Pt → Nat → Bw) (wd first : Nat) (nd : List Pt) (r : Bw) (m c : Nat) (v : Value) (wr : World) : Prop :=
  ∃ k s2 ns2 ls2, k ≤ 8 ∧ v = .int .i64 ((k : Nat) : Int) ∧ goB f wd first fr tt (nd.drop k) k s2 ns2 ls2 = r ∧ LoR L w D Wk Bx md fr tt s2 ns2 ls2 wr ∧ Lk (m + k * c) s2 ns2 ls2
theorem goB_nil {f : Sh → List Pt → List Lf → Pt → Nat → Bw} {wide first fr tt i : Nat} {s : Sh} {ns : List Pt} {ls : List Lf} : goB f wide first fr tt [] i s ns ls = ⟨0, s, ns, ls⟩ := rfl
theorem drop_at {α : Type} {l : List α} {k : Nat} {x : α} (h : l[k]? = some x) : l.drop k = x :: l.drop (k + 1) := by
  obtain ⟨hk, e⟩ := List.getElem?_eq_some_iff.1 h
  rw [← e, ← List.drop_eq_getElem_cons hk]
def BelowC (n : Nat) : Prop := ∀ {w : World} {L : Nat → Nat} {D Wk Bx fr tt : Nat} {md : Bool} {s : Sh} {ns : List Pt} {ls : List Lf} {m : Nat} (p : Pt) (_ : p.OK) (first : Nat) (_ : WkAt w L D Wk Bx md fr tt s ns ls) (_ : Lk m s ns ls) (_ : m + cB n < 100000000) (_ : first + 8 ^ n ≤ 64) (_ : fr ≤ 100 ∧ tt ≤ 100),
    Calls Tryz.prog 75 #[.pointer (some ⟨Wk, 0, none⟩), .agg (pcells p).toArray, .int .u8 (n : Int), .int .u32 (first : Int)] w (BwPost L w D Wk Bx md fr tt (belowP fr tt n s ns ls p first) (m + cB n))
theorem below0 : BelowC 0 := fun p hp first h hk hm hf _ => below0_any p hp first h hk hm (by omega)
theorem goB_skip {f : Sh → List Pt → List Lf → Pt → Nat → Bw} {wide first fr tt i : Nat} {q : Pt} {qs : List Pt} {s : Sh} {ns : List Pt} {ls : List Lf} (h : first + i * wide + wide ≤ fr ∨ tt ≤ first + i * wide) : goB f wide first fr tt (q :: qs) i s ns ls = goB f wide first fr tt qs (i + 1) s ns ls := by
  conv => lhs; unfold goB
  rw [if_pos h]
theorem goB_err {f : Sh → List Pt → List Lf → Pt → Nat → Bw} {wide first fr tt i : Nat} {q : Pt} {qs : List Pt} {s : Sh} {ns : List Pt} {ls : List Lf} (h : ¬ (first + i * wide + wide ≤ fr ∨ tt ≤ first + i * wide)) (he : (f s ns ls q (first + i * wide)).e ≠ 0) : goB f wide first fr tt (q :: qs) i s ns ls = f s ns ls q (first + i * wide) := by
  conv => lhs; unfold goB
  rw [if_neg h, if_pos he]
theorem goB_ok {f : Sh → List Pt → List Lf → Pt → Nat → Bw} {wide first fr tt i : Nat} {q : Pt} {qs : List Pt} {s : Sh} {ns : List Pt} {ls : List Lf} (h : ¬ (first + i * wide + wide ≤ fr ∨ tt ≤ first + i * wide)) (he : (f s ns ls q (first + i * wide)).e = 0) :
    goB f wide first fr tt (q :: qs) i s ns ls = goB f wide first fr tt qs (i + 1) (f s ns ls q (first + i * wide)).s (f s ns ls q (first + i * wide)).ns (f s ns ls q (first + i * wide)).ls := by
  conv => lhs; unfold goB
  rw [if_neg h, if_neg (by omega)]
theorem belowP_succ (fr tt n : Nat) (s : Sh) (ns : List Pt) (ls : List Lf) (p : Pt) (first : Nat) : belowP fr tt (n + 1) s ns ls p first = if eqP p zeroP = true then ⟨0, s, ns, ls⟩ else if rnE s p ≠ 0 then ⟨rnE s p, rnS s p, ns, ls⟩ else goB (belowP fr tt n) (8 ^ n) first fr tt (rnN s p) 0 (rnS s p) (ns ++ [p]) ls := rfl
set_option maxRecDepth 100000 in
set_option maxHeartbeats 16000000 in
theorem below_succ (n : Nat) (hn2 : n ≤ 1) (IH : BelowC n) : BelowC (n + 1) := by
  intro w L D Wk Bx fr tt md s ns ls m p hp first h hk hm hf hft
  have HPO := Lib.hid hp
  have hw1 : Below w.heap.size w (w.alloc (.cells (pcells p).toArray 28)) := (Below.refl _ _).alloc (Nat.le_refl _) _
  have HB : Hid (Blk (w.alloc (.cells (pcells p).toArray 28)) w.heap.size (pcells p) 28) := Lib.hid (Blk.new _ _ _)
  have H1 := Lib.hid (h.below hw1)
  have HG0 : Hid (L w.heap.size = 0) := Lib.hid (by obtain ⟨v, hs⟩ := h.sh; exact hs.not (Nat.le_refl _))
  have HK := Lib.hid hk
  have HM : Hid (m + (1 + 8 * cB n) < 100000000) := Lib.hid hm
  have HF : Hid (first + 8 * 8 ^ n ≤ 64) := Lib.hid (by rw [Nat.pow_succ] at hf; omega)
  have HFT := Lib.hid hft
  have HN2 := Lib.hid hn2
  obtain ⟨r, hr⟩ : ∃ r, belowP fr tt (n + 1) s ns ls p first = r := ⟨_, rfl⟩
  have HR : Hid (r = if eqP p zeroP = true then ⟨0, s, ns, ls⟩ else if rnE s p ≠ 0 then ⟨rnE s p, rnS s p, ns, ls⟩ else goB (belowP fr tt n) (8 ^ n) first fr tt (rnN s p) 0 (rnS s p) (ns ++ [p]) ls) := Lib.hid (by rw [← hr, belowP_succ])
  rw [hr]
  obtain ⟨mm, hmm⟩ : ∃ mm, m + cB (n + 1) = mm := ⟨_, rfl⟩
  have HMM : Hid (mm = m + (1 + 8 * cB n)) := Lib.hid hmm.symm
  rw [hmm]
  generalize hPost : BwPost L w D Wk Bx md fr tt r mm = Post
  have HP : Hid (∀ w', WkPost L (w.alloc (.cells (pcells p).toArray 28)) D Wk Bx md fr tt r.s r.ns r.ls w' → Lk mm r.s r.ns r.ls → Post (.returned (.int .i64 (r.e : Int))) w') := Lib.hid fun w' h2 h3 => by rw [← hPost]; exact ⟨rfl, WkPost.pre h hw1 h2, h3⟩
  obtain ⟨lv, hlv⟩ : ∃ lv, n + 1 = lv := ⟨_, rfl⟩
  have hl0 : ((lv : Int) == 0) = false := by rw [← hlv]; simp; omega
  have hsub : IntKind.u8.wrap ((lv : Int) - 1) = (n : Int) := by rw [IntKind.wrap_u8, ← hlv]; omega
  rw [hlv]
  clear hp h hk hm hf hft hw1 hPost hr hn2 hmm hlv
  go_enter Tryz.func75, Tryz.ntmps75
  go_upto_region 1 with fail
  obtain ⟨G, hG⟩ : ∃ G, w.heap.size = G := ⟨_, rfl⟩
  rw [hG] at HB HG0 ⊢
  generalize (w.alloc (.cells (pcells p).toArray 28)) = W at HB H1 HP ⊢
  go_wp2_with (first | (refine wpL_val rfl (ex_ldP HPO.out HB.out rfl rfl) ?_) | fail)
  refine (trHole_any p HPO.out W).mono ?_
  rintro e W2 ⟨rfl, hb2⟩
  have HB2 := Lib.hid (HB.out.below hb2 HB.out.lt)
  have H2 := Lib.hid (H1.out.below hb2)
  have HP2 : Hid (∀ w', WkPost L W2 D Wk Bx md fr tt r.s r.ns r.ls w' → Lk mm r.s r.ns r.ls → Post (.returned (.int .i64 (r.e : Int))) w') := Lib.hid fun w' h2 h3 => HP.out w' (WkPost.pre H1.out hb2 h2) h3
  have HE0 : Hid (eqP p zeroP = true → Post (.returned (.int .i64 (r.e : Int))) W2) := Lib.hid fun hz => HP.out W2 (by
    have h3 := HR.out
    rw [if_pos hz] at h3
    subst h3
    exact WkPost.of_below H1.out hb2) (by
    have h3 := HR.out
    rw [if_pos hz] at h3
    subst h3
    exact HK.out.mono (by have := HMM.out; omega) (by have := HM.out; have := HMM.out; omega))
  clear hb2 HB HP H1
  cases hz : eqP p zeroP
  · rw [hz] at HR
    go_upto_region 6 with fail
    obtain ⟨v2, hs2⟩ := H2.out.sh
    have HRD := trRead_any (w := W2.drew) p HPO.out hs2.drew HK.out.lim
    have HRD2 := trRead_any (w := W2.drew.alloc (.cells (ncells holes).toArray 170)) p HPO.out (hs2.below ((Below.refl _ _).drew.alloc (Nat.le_refl _) _)) HK.out.lim
    obtain ⟨nd, hnd⟩ : ∃ nd, rnN s p = nd := ⟨_, rfl⟩
    obtain ⟨re, hre⟩ : ∃ re, rnE s p = re := ⟨_, rfl⟩
    obtain ⟨s1, hs1⟩ : ∃ s1, rnS s p = s1 := ⟨_, rfl⟩
    have HLM : Hid (Lim (m + 1) s1) := Lib.hid (by rw [← hs1]; exact HK.out.lim.rnS (by have := HM.out; omega))
    have HNO : Hid (NOK nd) := Lib.hid (by rw [← hnd]; exact rnN_ok s p)
    have HST := Lib.hid (size_nc HNO.out)
    have HSA : Hid ((ncells nd).toArray.size = 328) := Lib.hid HNO.out.size
    have HON := Lib.hid (ncells_one HNO.out.ok)
    unfold RnPost at HRD HRD2
    rw [hnd, hre, hs1] at HRD HRD2
    rw [hnd, hre, hs1] at HR
    -- what the call leaves, in either order
    have HA : ∀ X, ShPost 5 L W2.drew D s1 X → (X.cell? ⟨Wk, 0, none⟩ = some (shI D) ∧ Blk X G (pcells p) 28) ∧ NdR L W2 D Wk Bx md fr tt s1 ns ls p nd G X.heap.size ((X.alloc (.cells (ncells holes).toArray 170)).setRow X.heap.size (ncells nd).toArray) := fun X ⟨L', v', k1, k2⟩ => by
      have hw : WkAt X L' D Wk Bx md fr tt s1 ns ls := H2.out.drew.shelf k1 k2
      have hbx := k2.blk HB2.out.drew HG0.out
      have hbb := (blk_row1 X (ncells holes).toArray (ncells nd) 170).2
      exact ⟨⟨hw.c0, hbx⟩, ⟨⟨L', hw.below hbb, ((Mv.of_below ((Below.refl W2.heap.size W2).drew) hs2.lt).trans (k2.mono (by omega))).trans (Mv.of_below hbb k1.lt), (k2.old G HB2.out.lt).trans HG0.out, k1.not (Nat.le_refl _)⟩, hbx.below hbb hbx.lt, (blk_row1 X _ (ncells nd) 170).1⟩⟩
    have HBo : ∀ X, ShPost 5 L (W2.drew.alloc (.cells (ncells holes).toArray 170)) D s1 X → (X.cell? ⟨Wk, 0, none⟩ = some (shI D) ∧ Blk X G (pcells p) 28 ∧ Blk X W2.heap.size (ncells holes) 170) ∧ NdR L W2 D Wk Bx md fr tt s1 ns ls p nd G W2.heap.size (X.setRow W2.heap.size (ncells nd).toArray) := fun X ⟨L', v', k1, k2⟩ => by
      have hb1 : Below W2.heap.size W2 (W2.drew.alloc (.cells (ncells holes).toArray 170)) := (Below.refl _ _).drew.alloc (Nat.le_refl _) _
      have hw : WkAt X L' D Wk Bx md fr tt s1 ns ls := (H2.out.below hb1).shelf k1 k2
      have hbx := k2.blk (HB2.out.below hb1 HB2.out.lt) HG0.out
      have hlab : L W2.heap.size = 0 := hs2.not (Nat.le_refl _)
      have hnb : Blk X W2.heap.size (ncells holes) 170 := k2.blk (Blk.new W2.drew _ _) hlab
      have hlab' : L' W2.heap.size = 0 := (k2.old _ (by simp)).trans hlab
      have hc := chgR X W2.heap.size (ncells nd).toArray
      have hzz : (X.setRow W2.heap.size (ncells nd).toArray).heap.size = X.heap.size := by simp
      have hm1 : Mv 9 L W2 L' X := (Mv.of_below hb1 hs2.lt).trans (k2.mono (by omega))
      refine ⟨⟨hw.c0, hbx, hnb⟩, ⟨⟨L', ?_, ⟨hm1.chg.trans hc (fun g e => by right; have : g = W2.heap.size := e; omega), hm1.old, hm1.new⟩, (k2.old G (by have := HB2.out.lt; simp; omega)).trans HG0.out, hlab'⟩, hbx.rowOther (by have := HB2.out.lt; omega) _, hnb.row _⟩⟩
      obtain ⟨v3, hs3⟩ := hw.sh
      obtain ⟨nv, j1, j2, j3⟩ := hw.wk
      have hne : ∀ g, L' g ≠ 0 → ¬ g = W2.heap.size := fun g hg e => hg (by rw [e]; exact hlab')
      exact ⟨⟨v3, hs3.out hc (fun g e _ => .inl (by have e : g = W2.heap.size := e; rw [e]; exact hlab')) (fun _ _ => .inl rfl) (fun g hg => by rw [hzz]; exact hs3.lt g hg)⟩, ⟨nv, j1.chg hc (hne _ (by rw [hw.l7]; omega)), owns_chg j2 hc (fun g hg => hne g (by rw [j3 g hg]; omega)), j3⟩, hw.ga.chg hc (hne _ (by rw [hw.l6]; omega)) (fun g e e9 => hne g (by omega) e) (fun _ _ => rfl), hw.l7, hw.l6, hw.okn, hw.okl⟩
    have hc0 := H2.out.drew.c0
    have hbx0 := HB2.out.drew
    have hbx1 : Blk (W2.drew.alloc (.cells (ncells holes).toArray 170)) G (pcells p) 28 := HB2.out.drew.alloc _
    have hc1 := (H2.out.below (w' := W2.drew.alloc (.cells (ncells holes).toArray 170)) ((Below.refl _ _).drew.alloc (Nat.le_refl _) _)).c0
    obtain ⟨WA, hWA⟩ : ∃ X, W2.drew.alloc (.cells (ncells holes).toArray 170) = X := ⟨_, rfl⟩
    rw [hWA] at HRD2 HBo hbx1 hc1
    clear hs2 hnd hre hs1
    refine wp_joinP (NdR L W2 D Wk Bx md fr tt s1 ns ls p nd G) ?_
    apply Exists.intro
    constructor
    · refine wp_region_sched (.take 0 (.take 1 (.take 2 (.take 3 (.take 4 (.fork 5 (.take 6 (.take 7 (.take 8 (.step 9 (.step 10 (.take 11 (.nil))))))) 9 (.step 5 (.take 6 (.take 7 (.take 8 (.step 10 (.take 11 (.nil))))))))))))) (by kernel_rfl) (by kernel_rfl) (fun d _ _ _ _ h => by cases h.1) (fun X => X.cell? ⟨Wk, 0, none⟩ = some (shI D) ∧ Blk X G (pcells p) 28) (⟨hc0, hbx0⟩) ?_
      refine gT (.pointer (some ⟨Wk, 0, none⟩)) ?_; try simp only [pS]
      refine gT (.pointer (some ⟨Wk, 0, none⟩)) ?_; try simp only [pS]
      refine wpG_take _ (.pointer (some ⟨Wk, 0, none⟩)) rfl (by rfl) (fun X hX => ex_faW (by omega) rfl rfl) ?_; try simp only [pS]
      refine wpG_take _ (shI D) rfl (by rfl) (fun X hX => ex_ldI rfl rfl hX.1) ?_; try simp only [pS]
      refine wpG_take _ (.agg (pcells p).toArray) rfl (by rfl) (fun X hX => ex_ldP HPO.out hX.2 rfl rfl) ?_; try simp only [pS]
      refine wpG_fork ?_ ?_
      · refine wpG_call _ rfl (by rfl) 95 #[shI D, .agg (pcells p).toArray] (fun X => by go_simp) (fun u X => u = .tuple #[.agg (ncells nd).toArray, .int .i64 (re : Int)] ∧ ShPost 5 L W2.drew D s1 X) (HRD.mono fun e X ⟨e1, e2⟩ => ⟨_, e1, (HA X e2).1, rfl, e2⟩) ?_
        rintro u X3 hs3 ⟨rfl, hX3⟩
        refine ⟨fun X => X.cell? ⟨Wk, 0, none⟩ = some (shI D) ∧ Blk X G (pcells p) 28, fun _ h => h, hs3, ?_⟩; try simp only [pS]
        refine gT (.tuple #[.agg (ncells nd).toArray, .int .i64 (re : Int)]) ?_; try simp only [pS]
        refine gT (.agg (ncells nd).toArray) ?_; try simp only [pS]
        refine gT (.int .i64 (re : Int)) ?_; try simp only [pS]
        obtain ⟨ga, hga⟩ : ∃ g, X3.heap.size = g := ⟨_, rfl⟩
        have hA2 := (HA X3 hX3).2
        have hc9 : (X3.alloc (.cells (ncells holes).toArray 170)).cell? ⟨Wk, 0, none⟩ = some (shI D) ∧ Blk (X3.alloc (.cells (ncells holes).toArray 170)) G (pcells p) 28 := ⟨by rw [(Below.cell (w := X3) (B := X3.heap.size) ((Below.refl _ _).alloc (Nat.le_refl _) _) (p := ⟨Wk, 0, none⟩) (by obtain ⟨L9, v9, k9, m9⟩ := hX3; obtain ⟨nv, j1, _⟩ := H2.out.wk; exact Nat.lt_of_lt_of_le j1.lt m9.size))]; exact hs3.1, hs3.2.alloc _⟩
        have hn9 : Blk (X3.alloc (.cells (ncells holes).toArray 170)) ga (ncells holes) 170 := by rw [← hga]; exact Blk.new _ _ _
        have hal : ∀ {ρ : Operand → Value} {o : Oper}, o.op = .alloc 170 → (execOp ρ o).run Tryz.prog X3 = .ok (.value (.pointer (some ⟨ga, 0, none⟩))) (X3.alloc (.cells (ncells holes).toArray 170)) := fun h => by rw [← hga]; exact ex_alN h
        rw [hga] at hA2
        refine wpG_mk _ rfl (by rfl) (.pointer (some ⟨ga, 0, none⟩)) _ (hal rfl) (fun X => X.cell? ⟨Wk, 0, none⟩ = some (shI D) ∧ Blk X G (pcells p) 28) hc9 (fun _ h => h) ?_; try simp only [pS]
        refine wpG_row _ rfl (by rfl) 170 (.tmp 9) (.tmp 35) rfl ga (ncells nd).toArray rfl rfl hn9 HST.out (by rw [HSA.out, holes_ok.cells]) HON.out (fun X => X.cell? ⟨Wk, 0, none⟩ = some (shI D) ∧ Blk X G (pcells p) 28) (fun _ h => h) ⟨hA2.cW0, hA2.box⟩ ?_; try simp only [pS]
        refine gT (.int .i64 (re : Int)) ?_; try simp only [pS]
        refine wpG_nil ?_
        exact ⟨rfl, ga, rfl, hA2⟩
      · obtain ⟨gb, hgb⟩ : ∃ g, W2.drew.heap.size = g := ⟨_, rfl⟩
        have hal : ∀ {ρ : Operand → Value} {o : Oper}, o.op = .alloc 170 → (execOp ρ o).run Tryz.prog W2.drew = .ok (.value (.pointer (some ⟨gb, 0, none⟩))) WA := fun h => by rw [← hgb, ← hWA]; exact ex_alN h
        have hgb2 : W2.heap.size = gb := hgb
        rw [hgb2] at HBo
        refine wpG_mk _ rfl (by rfl) (.pointer (some ⟨gb, 0, none⟩)) WA (hal rfl) (fun X => X.cell? ⟨Wk, 0, none⟩ = some (shI D) ∧ Blk X G (pcells p) 28) ⟨hc1, hbx1⟩ (fun _ h => h) ?_; try simp only [pS]
        refine wpG_call _ rfl (by rfl) 95 #[shI D, .agg (pcells p).toArray] (fun X => by go_simp) (fun u X => u = .tuple #[.agg (ncells nd).toArray, .int .i64 (re : Int)] ∧ ShPost 5 L WA D s1 X) (HRD2.mono fun e X ⟨e1, e2⟩ => ⟨_, e1, ⟨(HBo X e2).1.1, (HBo X e2).1.2.1⟩, rfl, e2⟩) ?_
        rintro u X3 hs3 ⟨rfl, hX3⟩
        refine ⟨fun X => X.cell? ⟨Wk, 0, none⟩ = some (shI D) ∧ Blk X G (pcells p) 28, fun _ h => h, hs3, ?_⟩; try simp only [pS]
        refine gT (.tuple #[.agg (ncells nd).toArray, .int .i64 (re : Int)]) ?_; try simp only [pS]
        refine gT (.agg (ncells nd).toArray) ?_; try simp only [pS]
        refine gT (.int .i64 (re : Int)) ?_; try simp only [pS]
        have hA2 := (HBo X3 hX3).2
        refine wpG_row _ rfl (by rfl) 170 (.tmp 9) (.tmp 35) rfl gb (ncells nd).toArray rfl rfl (HBo X3 hX3).1.2.2 HST.out (by rw [HSA.out, holes_ok.cells]) HON.out (fun X => X.cell? ⟨Wk, 0, none⟩ = some (shI D) ∧ Blk X G (pcells p) 28) (fun _ h => h) ⟨hA2.cW0, hA2.box⟩ ?_; try simp only [pS]
        refine gT (.int .i64 (re : Int)) ?_; try simp only [pS]
        refine wpG_nil ?_
        exact ⟨rfl, gb, rfl, hA2⟩
    intro g X hX
    have HX := Lib.hid hX
    clear hX HA HBo hc0 hbx0 hbx1 hc1 HRD HRD2 hWA
    obtain ⟨⟨L3, k1, k2, k3, k4⟩, k5, k6⟩ := HX.out
    have HWX := Lib.hid k1; have HMX := Lib.hid k2; have HGX := Lib.hid k3; have Hg := Lib.hid k4; have HBX := Lib.hid k5; have HND := Lib.hid k6
    clear k1 k2 k3 k4 k5 k6
    by_cases hre : re = 0
    · subst hre
      obtain ⟨rs, hrs⟩ : ∃ rs : Bw, goB (belowP fr tt n) (8 ^ n) first fr tt nd 0 s1 (ns ++ [p]) ls = rs := ⟨_, rfl⟩
      have HRG : Hid (r = rs) := Lib.hid (by rw [HR.out, hrs]; rfl)
      have HRS := Lib.hid hrs
      obtain rfl := HRG.out
      clear HR hrs HRG HX
      rw [show ((0 : Nat) : Int) = (0 : Int) from rfl]
      go_upto_region 9 with fail
      obtain ⟨u, v3, w3, hu, hr, hsl, ⟨_, hcell⟩, hfree, hoth, hpost⟩ := node_here HPO.out HWX.out (by have := HK.out.ns; have := HM.out; omega)
      have hS3 := (hoth HBX.out HGX.out).1
      have hS4 := (hoth HBX.out HGX.out).2
      have HND4 := Lib.hid ((hoth HND.out Hg.out).2)
      have HW4 : Hid (LoR L W2 D Wk Bx md fr tt s1 (ns ++ [p]) ls (w3.setCell ⟨Wk, 3, none⟩ v3)) := Lib.hid (by
        obtain ⟨L4, j1, j2⟩ := hpost
        exact ⟨L4, j1, HMX.out.trans j2⟩)
      have hc1 := hu X.drew ((Below.refl _ _).drew)
      have hc2 := hu (X.drew.alloc (.cells (pcells p).toArray 28)) ((Below.refl _ _).drew.alloc (Nat.le_refl _) _)
      have hS2 : Blk (X.drew.alloc (.cells (pcells p).toArray 28)) G (pcells p) 28 := HBX.out.drew.alloc _
      obtain ⟨W5, hW5⟩ : ∃ W5, X.drew.alloc (.cells (pcells p).toArray 28) = W5 := ⟨_, rfl⟩
      have hone : ∀ {ρ : Operand → Value} {o : Oper} {x : Operand}, o.op = .buildSlice 48 1 #[(0, x)] → ρ x = .agg (pcells p).toArray → (execOp ρ o).run Tryz.prog X.drew = .ok (.value (.slice (some ⟨X.drew.heap.size, 0, none⟩) 1 1)) W5 := fun h1 h2 => by rw [← hW5]; exact q_one p h1 h2 HPO.out
      rw [hW5] at hr hc2 hS2
      clear hpost hoth hu
      refine wp_join ?_
      apply Exists.intro
      apply Exists.intro
      constructor
      · refine wp_region_sched (.take 0 (.take 1 (.take 2 (.take 3 (.take 5 (.fork 4 (.step 6 (.step 7 (.take 8 (.take 9 (.step 10 (.nil)))))) 6 (.step 4 (.step 7 (.take 8 (.take 9 (.step 10 (.nil)))))))))))) (by kernel_rfl) (by kernel_rfl) (fun d _ _ _ _ h => by cases h.1) (fun X => Blk X G (pcells p) 28) (HBX.out.drew) ?_
        refine gT (.pointer (some ⟨Wk, 0, none⟩)) ?_; try simp only [pS]
        refine gT (.pointer (some ⟨Wk, 0, none⟩)) ?_; try simp only [pS]
        refine wpG_take _ (.pointer (some ⟨Wk, 0, none⟩)) rfl (by rfl) (fun X hX => ex_nc rfl rfl) ?_; try simp only [pS]
        refine wpG_take _ (.pointer (some ⟨Wk, 3, none⟩)) rfl (by rfl) (fun X hX => ex_faW (by omega) rfl rfl) ?_; try simp only [pS]
        refine wpG_take _ (.agg (pcells p).toArray) rfl (by rfl) (fun X hX => ex_ldP HPO.out hX rfl rfl) ?_; try simp only [pS]
        refine wpG_fork (wpG_mk _ rfl (by rfl) u X.drew (ex_ldPs rfl rfl hc1) (fun X => Blk X G (pcells p) 28) (HBX.out.drew) (fun _ h => h) ?_) ?_; try simp only [pS]
        refine wpG_mk _ rfl (by rfl) (.slice (some ⟨X.drew.heap.size, 0, none⟩) 1 1) W5 (hone rfl rfl) (fun X => Blk X G (pcells p) 28) hS2 (fun _ h => h) ?_; try simp only [pS]
        rotate_left
        refine wpG_mk _ rfl (by rfl) (.slice (some ⟨X.drew.heap.size, 0, none⟩) 1 1) W5 (hone rfl rfl) (fun X => Blk X G (pcells p) 28) hS2 (fun _ h => h) ?_; try simp only [pS]
        refine wpG_mk _ rfl (by rfl) u W5 (ex_ldPs rfl rfl hc2) (fun X => Blk X G (pcells p) 28) hS2 (fun _ h => h) ?_; try simp only [pS]
        all_goals
          refine wpG_mk _ rfl (by rfl) v3 w3 (ex_appP rfl rfl rfl hr) (fun X => Blk X G (pcells p) 28) hS3 (fun _ h => h) ?_; try simp only [pS]
          refine wpG_take _ (.pointer (some ⟨Wk, 0, none⟩)) rfl (by rfl) (fun X hX => ex_nc rfl rfl) ?_; try simp only [pS]
          refine wpG_take _ (.pointer (some ⟨Wk, 3, none⟩)) rfl (by rfl) (fun X hX => ex_faW (by omega) rfl rfl) ?_; try simp only [pS]
          refine wpG_st _ rfl (by rfl) (w3.setCell ⟨Wk, 3, none⟩ v3) (ex_stPs rfl rfl rfl hsl hcell hfree) (fun X => Blk X G (pcells p) 28) hS4 (fun _ h => h) ?_
          refine wpG_nil ?_
          exact ⟨rfl, rfl, rfl⟩
      clear hcell hfree hS3 hS4 hr hc1 hc2 hS2 hone hW5 hsl HWX HMX HGX Hg HND HBX
      generalize w3.setCell ⟨Wk, 3, none⟩ v3 = X5 at HND4 HW4 ⊢
      go_wp2_with fail
      refine (span_any n (by have := HN2.out; omega) X5).mono ?_
      rintro e X6 ⟨rfl, rfl⟩
      obtain ⟨wd, hwd⟩ : ∃ wd, 8 ^ n = wd := ⟨_, rfl⟩
      rw [hwd] at HF HRS ⊢
      have HWD := Lib.hid hwd
      clear hwd
      go_wp2_with (first | (refine wpL_val rfl (ex_ldN HNO.out HND4.out rfl rfl) ?_) | fail)
      have HR0 : Hid (LpRel L W2 D Wk Bx md fr tt (belowP fr tt n) wd first nd r (m + 1) (cB n) (.int .i64 0) X6) := Lib.hid ⟨0, s1, ns ++ [p], ls, by omega, rfl, by rw [List.drop_zero]; exact HRS.out, HW4.out, ⟨HLM.out.mono (by omega) (by have := HM.out; omega), by have := HK.out.ns; simp; omega, by have := HK.out.ls; omega⟩⟩
      clear HND4 HW4 HRS HLM
      go_loopw [54] (fun v wr => LpRel L W2 D Wk Bx md fr tt (belowP fr tt n) wd first nd r (m + 1) (cB n) v wr) (fun v _ => 8 - (intOf v).toNat)
      case atStart => exact HR0.out
      case round =>
        clear HR0
        obtain ⟨k, s2, ns2, ls2, hk8, rfl, hgo, hlo, hlk⟩ := hrel
        have HGO := Lib.hid hgo; have HLO := Lib.hid hlo; have HLK := Lib.hid hlk
        clear hgo hlo hlk
        have wk1 := IntWalk.i64_in ((k : Int) + 1) (by omega)
        by_cases hlt : k < 8
        · obtain ⟨q, hq⟩ := HNO.out.get hlt
          have hix : ∀ W : World, (Instr.index 170 (.agg (ncells nd).toArray) (.int .i64 (k : Int))).run Tryz.prog W = .ok (.agg (pcells q).toArray) W := fun W => run_ixT Tryz.underlying170 HNO.out hq W
          have HQO := Lib.hid (HNO.out.at hq)
          have HSQ := Lib.hid (size_pc HQO.out)
          have HLQ : Hid ((pcells q).toArray.size = 41) := Lib.hid (by rw [List.size_toArray, pcells_length HQO.out])
          have HGO2 : Hid (goB (belowP fr tt n) wd first fr tt (q :: nd.drop (k + 1)) k s2 ns2 ls2 = r) := Lib.hid (by rw [← drop_at hq]; exact HGO.out)
          clear hq HGO
          go_upto_region 14 with (first | (refine wpList_store_row rfl 28 (.tmp 13) (.tmp 57) rfl wr.heap.size (pcells q).toArray rfl rfl 28 _ (heap_alloc_new wr _) HSQ.out (by rw [HLQ.out]; rfl) (one_pc q) ?_) | fail)
          refine (fun (k : ∀ W, Blk W wr.heap.size (pcells q) 28 → Below wr.heap.size wr W → Code.wp _ _ _ _ W) => k _ (blk_row1 wr _ (pcells q) 28).1 (blk_row1 wr _ (pcells q) 28).2) ?_
          intro X7 hb7 hw7
          have HL7 := Lib.hid (HLO.out.below hw7)
          obtain ⟨gq, hgq⟩ : ∃ g, wr.heap.size = g := ⟨_, rfl⟩
          rw [hgq] at hb7 ⊢
          have HB7 := Lib.hid hb7
          clear hb7 hw7 hgq HLO
          have h64 := HF.out
          have hwd0 : wd ≤ 8 := by omega
          have hkw64 : k * wd ≤ 64 := Nat.le_trans (Nat.mul_le_mul (show k ≤ 7 by omega) (Nat.le_refl wd)) (by omega)
          have hkw8 : k * wd + wd ≤ 8 * wd := by rw [← Nat.succ_mul]; exact Nat.mul_le_mul (show k + 1 ≤ 8 by omega) (Nat.le_refl wd)
          obtain ⟨kw, hkw⟩ : ∃ kw, k * wd = kw := ⟨_, rfl⟩
          have hwa : IntKind.u32.wrap (k : Int) = (k : Int) := by rw [IntKind.wrap_u32]; omega
          have hwb : IntKind.u32.wrap ((k : Int) * (wd : Int)) = (kw : Int) := by rw [← hkw, IntKind.wrap_u32, ← Int.natCast_mul]; omega
          rw [hkw] at hkw64 hkw8
          obtain ⟨at_, hat⟩ : ∃ x, first + kw = x := ⟨_, rfl⟩
          obtain ⟨ae, hae⟩ : ∃ x, at_ + wd = x := ⟨_, rfl⟩
          have hwc : IntKind.u32.wrap ((first : Int) + (kw : Int)) = (at_ : Int) := by rw [IntKind.wrap_u32]; omega
          have hwe : IntKind.u32.wrap ((at_ : Int) + (wd : Int)) = (ae : Int) := by rw [IntKind.wrap_u32]; omega
          have HAT : Hid (first + k * wd = at_ ∧ at_ + wd = ae ∧ ae ≤ 64) := Lib.hid ⟨by rw [hkw]; exact hat, hae, by omega⟩
          have HCD : Hid ((first + k * wd + wd ≤ fr ∨ tt ≤ first + k * wd) ↔ (ae ≤ fr ∨ tt ≤ at_)) := Lib.hid (by rw [hkw, hat, hae])
          obtain ⟨⟨L7, q7, -⟩⟩ := HL7.out
          have c1 := q7.c1
          have c2 := q7.c2
          clear h64 hwd0 hkw64 hkw8 hkw hat hae q7
          by_cases ha : ae ≤ fr
          · have ha' : (ae : Int) ≤ (fr : Int) := by omega
            have HNX := Lib.hid (goB_skip (f := belowP fr tt n) (i := k) (q := q) (qs := nd.drop (k + 1)) (s := s2) (ns := ns2) (ls := ls2) (HCD.out.2 (.inl ha)))
            go_wp2_with fail
            go_roundw
            case rel => exact ⟨k + 1, s2, ns2, ls2, by omega, by go_num, HNX.out.symm.trans HGO2.out, HL7.out, HLK.out.mono (by rw [Nat.succ_mul]; omega) (by have := HM.out; have : (k + 1) * cB n ≤ 8 * cB n := Nat.mul_le_mul (by omega) (Nat.le_refl _); omega)⟩
            case measure => simp [intOf]; omega
          · have haf : decide ((ae : Int) ≤ (fr : Int)) = false := decide_eq_false (by omega)
            have haf' : ¬ (ae : Int) ≤ (fr : Int) := by omega
            by_cases hb : tt ≤ at_
            · have hb' : (tt : Int) ≤ (at_ : Int) := by omega
              have hbt : decide ((tt : Int) ≤ (at_ : Int)) = true := decide_eq_true hb'
              have HNX := Lib.hid (goB_skip (f := belowP fr tt n) (i := k) (q := q) (qs := nd.drop (k + 1)) (s := s2) (ns := ns2) (ls := ls2) (HCD.out.2 (.inr hb)))
              clear ha
              go_wp2_with fail
              go_roundw
              case rel => exact ⟨k + 1, s2, ns2, ls2, by omega, by go_num, HNX.out.symm.trans HGO2.out, HL7.out, HLK.out.mono (by rw [Nat.succ_mul]; omega) (by have := HM.out; have : (k + 1) * cB n ≤ 8 * cB n := Nat.mul_le_mul (by omega) (Nat.le_refl _); omega)⟩
              case measure => simp [intOf]; omega
            · have hbf : decide ((tt : Int) ≤ (at_ : Int)) = false := decide_eq_false (by omega)
              have hbf' : ¬ (tt : Int) ≤ (at_ : Int) := by omega
              have HNC : Hid (¬ (first + k * wd + wd ≤ fr ∨ tt ≤ first + k * wd)) := Lib.hid (by rw [HCD.out]; omega)
              obtain ⟨⟨L7, q7, m7⟩⟩ := HL7.out
              have hcall := IH q HQO.out at_ q7 HLK.out (by have := HM.out; have : (k + 1) * cB n ≤ 8 * cB n := Nat.mul_le_mul (by omega) (Nat.le_refl _); rw [Nat.succ_mul] at this; omega) (by have := HAT.out; rw [HWD.out]; omega) HFT.out
              have HMV := Lib.hid m7
              have HCALL := Lib.hid hcall
              clear q7 m7 hcall ha hb
              go_wp2_with (first | (refine wpL_val rfl (ex_ldP HQO.out HB7.out rfl rfl) ?_) | fail)
              refine HCALL.out.mono ?_
              obtain ⟨rb, hrb⟩ : ∃ rb : Bw, belowP fr tt n s2 ns2 ls2 q at_ = rb := ⟨_, rfl⟩
              have HRB : Hid (belowP fr tt n s2 ns2 ls2 q (first + k * wd) = rb) := Lib.hid (by rw [HAT.out.1]; exact hrb)
              rw [hrb]
              rintro e X8 ⟨rfl, hp8, hk8'⟩
              have HP8 := Lib.hid (WkPost.mv HMV.out hp8)
              have HK8 := Lib.hid hk8'
              clear hrb hp8 hk8' HCALL HMV
              by_cases hre : rb.e = 0
              · have hre' : (rb.e : Int) = 0 := by omega
                have HNX := Lib.hid (goB_ok (f := belowP fr tt n) (i := k) (q := q) (qs := nd.drop (k + 1)) (s := s2) (ns := ns2) (ls := ls2) HNC.out (by rw [HRB.out]; exact hre))
                rw [hre']
                clear hre hre'
                go_wp2_with fail
                go_roundw
                case rel =>
                  refine ⟨k + 1, rb.s, rb.ns, rb.ls, by omega, by go_num, ?_, ⟨HP8.out⟩, HK8.out.mono (by rw [Nat.succ_mul]; omega) (by have := HM.out; have : (k + 1) * cB n ≤ 8 * cB n := Nat.mul_le_mul (by omega) (Nat.le_refl _); omega)⟩
                  have h9 := HNX.out.symm.trans HGO2.out
                  rw [HRB.out] at h9
                  exact h9
                case measure => simp [intOf]; omega
              · have hre' : ¬ (rb.e : Int) = 0 := by omega
                have HNX : Hid (rb = r) := Lib.hid (by
                  have h9 := goB_err (f := belowP fr tt n) (i := k) (q := q) (qs := nd.drop (k + 1)) (s := s2) (ns := ns2) (ls := ls2) HNC.out (by rw [HRB.out]; exact hre)
                  rw [HRB.out] at h9
                  exact h9.symm.trans HGO2.out)
                have HE := Lib.hid (HP2.out X8 (by rw [← HNX.out]; exact HP8.out) (by rw [← HNX.out]; exact HK8.out.mono (by have := HMM.out; have : (k + 1) * cB n ≤ 8 * cB n := Nat.mul_le_mul (by omega) (Nat.le_refl _); rw [Nat.succ_mul] at this; omega) (by have := HM.out; have := HMM.out; omega)))
                rw [← HNX.out] at HE
                clear hre HNX
                go_wp2_with fail
                first | exact HE.out | (go_ret; exact HE.out)
        · obtain rfl : k = 8 := by omega
          have hgo := HGO.out
          rw [List.drop_of_length_le (by rw [HNO.out.len]; omega)] at hgo
          have hgo : (⟨0, s2, ns2, ls2⟩ : Bw) = r := hgo
          obtain rfl := hgo
          have HE := Lib.hid (HP2.out wr HLO.out.wk (HLK.out.mono (by have := HMM.out; omega) (by have := HM.out; have := HMM.out; omega)))
          clear HGO hlt hk8
          rw [show ((8 : Nat) : Int) = (8 : Int) from rfl]
          go_wp2_with fail
          first | exact HE.out | (go_ret; exact HE.out)
    · have hre' : ¬ (re : Int) = 0 := by omega
      have hr2 : r = ⟨re, s1, ns, ls⟩ := by rw [HR.out, if_neg (by simp), if_pos hre]
      have HE := Lib.hid (HP2.out X (by rw [hr2]; exact ⟨L3, HWX.out, HMX.out⟩) (by rw [hr2]; exact ⟨HLM.out.mono (by have := HMM.out; omega) (by have := HM.out; have := HMM.out; omega), by show ns.length ≤ mm; have := HK.out.ns; have := HMM.out; omega, by show ls.length ≤ mm; have := HK.out.ls; have := HMM.out; omega⟩))
      rw [hr2] at HE
      clear hre hr2
      go_wp2_with fail
      first | exact HE.out | (go_ret; exact HE.out)
  · have HE := Lib.hid (HE0.out hz)
    rw [hz] at HR
    obtain rfl : r = ⟨0, s, ns, ls⟩ := HR.out
    go_wp2_with fail
    first | exact HE.out | (go_ret; exact HE.out)
theorem below_any : ∀ n, n ≤ 2 → BelowC n
  | 0, _ => below0
  | n + 1, h => below_succ n (by omega) (below_any n (by omega))
end Go.Proofs.YtjgjohdeeeoeoaaGreatDoor
