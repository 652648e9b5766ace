/- Content: Read. -/
import Derived.Test.YthionhliokhcgaaCg
namespace Go.Proofs.Ythionhliokhcgaa
open Go.RowKit Go.Shelf

attribute [local go_sem] Oper.semAt_some

def wtA : Nat → Nat → Bool := fun _ _ => true
theorem each_ok : WantsOk 18 wtA := fun off f t v _ _ W => ceach_any off f t v W
def rdFr (sz X : Nat) : Nat := min X sz
def rdTe (sz X N : Nat) : Nat := rdFr sz X + min N (sz - rdFr sz X)
/-- While Read's range goes on. -/
structure RdK (lo g8 g9 g13 : Nat) (m : List B8) (fr te i : Nat) (A : World) : Prop where
  b8 : Blk A g8 [.slice none 0 0] 24
  b9 : Blk A g9 [.int .i64 0] 36
  b13 : ∃ bv, Blk A g13 [bv] 24 ∧ OwnB A lo bv (rng m fr (min (pcA fr i) te))
theorem RdK.keep {D lo g8 g9 g13 : Nat} {avS : Value} {m : List B8} {fr te i : Nat} {wS : Bas} {A A' : World} (h : RdK lo g8 g9 g13 m fr te i A) (k : Kp0 D avS wS A A') {cs : List Value} (hd : Blk A D cs 33) : RdK lo g8 g9 g13 m fr te i A' := by
  have hk : ∀ {g : Nat} {cs' : List Value} {t : TypeId}, Blk A g cs' t → t ≠ 33 → t ≠ 34 → Blk A' g cs' t := fun hb h1 h2 => k.new _ _ _ hb (fun e => by subst e; exact h1 (hb.same hd)) h2
  obtain ⟨bv, h1, h2⟩ := h.b13
  exact ⟨hk h.b8 (by decide) (by decide), hk h.b9 (by decide) (by decide), bv, hk h1 (by decide) (by decide), k.own hd h2 (by decide) (by decide)⟩
/-- The bytes of one piece more. -/
theorem rd_app {w : World} {nS B D G lo g8 g9 g13 : Nat} {vs : List Value} {m : List B8} {bad : Nat} {avS : Value} {fr te wf : Nat} {aq : List Nat} {x : Nat} {A A1 : World} (hlo : lo = w.heap.size) (h8 : g8 ≠ g13 ∧ g9 ≠ g13) (h13 : w.heap.size ≤ g13 ∧ g13 < nS)
    (hm : ∀ l ∈ m, l.length ≤ 512) (ht : te ≤ 32768) (hJ : HdJ1 ⟨w, nS⟩ B D G vs m bad avS wtA fr te wf aq (RdK lo g8 g9 g13 m fr te) x A) (he : (yc vs bad wtA fr te x).e = 0) {bv : Value} (hbv : Blk A g13 [bv] 24) (hbo : OwnB A lo bv (rng m fr (min (pcA fr x) te)))
    (hb : Below A.heap.size A A1) {gb : Nat} (hgb : Blk A1 gb ((padL (m.getD (pcO fr x) [])).map V8) 5) :
    ∃ sp n cap w2, (Builtin.append_ #[24, 24] 24 #[bv, .slice (some ⟨gb, pcF fr x, none⟩) (pcT fr te x - pcF fr x) (512 - pcF fr x)]).run Try.prog A1 = .ok (.slice sp n cap) w2 ∧ (∃ c, w2.cell? ⟨g13, 0, none⟩ = some c) ∧ w2.frozen? ⟨g13, 0, none⟩ = false ∧
      HdJ ⟨w, nS⟩ B D G vs m bad avS wtA fr te wf aq (RdK lo g8 g9 g13 m fr te) (x + 1) (w2.setCell ⟨g13, 0, none⟩ (.slice sp n cap)) ∧ KeepsFrom nS A (w2.setCell ⟨g13, 0, none⟩ (.slice sp n cap)) ∧
      ∀ g cs, Blk A1 g cs 56 → Blk w2 g cs 56 ∧ Blk (w2.setCell ⟨g13, 0, none⟩ (.slice sp n cap)) g cs 56 := by
  obtain ⟨f1, f2, f3, f4, f5⟩ := pc_facts hJ.l
  have hT := pcT_le fr te x
  have hl := getD_le hm (pcO fr x)
  have hbo1 : OwnB A1 lo bv (rng m fr (min (pcA fr x) te)) := OwnB.below hbo hb (Nat.le_refl _)
  have hpl : (pcB m fr te x).length = pcT fr te x - pcF fr x := by unfold pcB; rw [List.length_drop, List.length_take, padL_length hl]; omega
  have hsz := hJ.c.size
  obtain ⟨av, k1, k2⟩ := hJ.c.sh
  have hws := k2.ws
  have hsz : nS ≤ A.heap.size := hsz
  have hws : w.heap.size ≤ nS := hws
  obtain ⟨v', w2, hr, ho, hgr, hn⟩ := ownB_app hbo1 (by have := hb.size; omega) (l2 := pcB m fr te x) (f := pcF fr x) (c := 512 - pcF fr x) (by rw [rng_length, hpl]; omega) hgb (fun j y hj => by
    have hj2 : j < pcT fr te x - pcF fr x := by rw [← hpl]; exact (List.getElem?_eq_some_iff.1 hj).1
    unfold pcB at hj
    rw [List.getElem?_drop, List.getElem?_take, if_pos (by omega)] at hj
    rw [List.getElem?_map, hj]; rfl) 24
  rw [hpl] at hr
  obtain ⟨sp, cap, hv', -⟩ := c_owns_form ho
  -- all that is not the row, nor the box, stays
  have hc2 : Chg (fun g => bv.ownBlock = some g) A w2 := (Chg.of_below hb).grown hgr (fun k e => .inl e)
  have hno13 : bv.ownBlock ≠ some g13 := c_own_ne hbo hbv (by decide)
  have hb13 : Blk w2 g13 [bv] 24 := hbv.chg hc2 hno13
  have hlb : ∀ g, bv.ownBlock = some g → w.heap.size ≤ g := fun g e => by rw [← hlo]; exact c_owns_lo hbo e
  have hC2 : Cst ⟨w, nS⟩ B D G vs m bad avS fr te wf (aq ++ askU wtA fr te (x + 1)) w2 := by
    refine hJ.c.out hc2 hlb (fun av' k1' _ g hg e => ?_) (fun g cs t hbk ht e => ?_)
    · obtain ⟨cs, hbk⟩ := c_owns_ty hbo e
      exact c_own_ne k1'.q hbk (by decide) hg
    · obtain ⟨cs', hbk'⟩ := c_owns_ty hbo e
      have := hbk.same hbk'
      subst this
      rcases ht with e | e | e <;> exact absurd e (by decide)
  have hC3 : Cst ⟨w, nS⟩ B D G vs m bad avS fr te wf (aq ++ askU wtA fr te (x + 1)) (w2.setCell ⟨g13, 0, none⟩ v') := hC2.set hb13 (by decide) (.inl h13.2) h13.1 0 v'
  have hc3 := chg1 w2 g13 0 v'
  have hcells : ∀ (k : Nat) (o : Obj), A.heap[k]? = some o → o.isCells = false → ¬ (bv.ownBlock = some k) ∧ k ≠ g13 := fun k o hk ho => by
    constructor
    · intro e
      obtain ⟨cs', hbk'⟩ := c_owns_ty hbo e
      unfold Blk at hbk'
      rw [hk] at hbk'
      cases hbk'
      cases ho
    · intro e
      subst e
      unfold Blk at hbv
      rw [hk] at hbv
      cases hbv
      cases ho
  refine ⟨sp, _, cap, w2, by rw [← hv']; exact hr, hb13.has 0 (by simp), hb13.free 0, ?_, ?_, fun g cs hg => ?_⟩
  · rw [← hv']
    have hno2 : v'.ownBlock ≠ some g13 := c_own_ne ho hb13 (by decide)
    refine ⟨hC3, hJ.p.succ hJ.l he, ⟨(hJ.k.b8.chg hc2 (c_own_ne hbo hJ.k.b8 (by decide))).chg hc3 h8.1, (hJ.k.b9.chg hc2 (c_own_ne hbo hJ.k.b9 (by decide))).chg hc3 h8.2, v', hb13.set 0 v', ?_⟩⟩
    rw [rng_step hm hJ.l]
    exact c_owns_chg ho hc3 (fun g hg e => hno2 (by have e : g = g13 := e; rw [← e]; exact hg))
  · rw [← hv']
    refine ⟨Nat.le_trans hc2.size hc3.size, fun k o _ hk ho => ?_⟩
    obtain ⟨q1, q2⟩ := hcells k o hk ho
    rw [hc3.block k (Nat.lt_of_lt_of_le (Array.getElem?_eq_some_iff.1 hk).1 hc2.size) q2, hc2.block k (Array.getElem?_eq_some_iff.1 hk).1 q1]
    exact hk
  · have h2 : Blk w2 g cs 56 := hg.chg (chg_grown hgr) (fun e => c_own_ne hbo1 hg (by decide) e)
    exact ⟨h2, h2.chg (chg1 w2 g13 0 _) (fun e => by have e : g = g13 := e; subst e; exact absurd (h2.same hb13) (by decide))⟩
theorem rd_err {w : World} {nS B D G g8 g9 g13 lo : Nat} {vs : List Value} {m : List B8} {bad : Nat} {avS : Value} {fr te wf : Nat} {aq : List Nat} {x : Nat} {A : World} (h89 : g8 ≠ g9) (h8 : w.heap.size ≤ g8 ∧ g8 < nS) (h9 : w.heap.size ≤ g9 ∧ g9 < nS)
    (hJ : HdJ1 ⟨w, nS⟩ B D G vs m bad avS wtA fr te wf aq (RdK lo g8 g9 g13 m fr te) x A) (he : (yc vs bad wtA fr te x).e ≠ 0) :
    KeepsFrom nS A ((A.setCell ⟨g8, 0, none⟩ (.slice none 0 0)).setCell ⟨g9, 0, none⟩ (.int .i64 21)) ∧ ∃ i, Ran bad wtA fr te i true ∧ Cst ⟨w, nS⟩ B D G vs m bad avS fr te wf (aq ++ askU wtA fr te (i + 1)) ((A.setCell ⟨g8, 0, none⟩ (.slice none 0 0)).setCell ⟨g9, 0, none⟩ (.int .i64 21)) ∧
      Blk ((A.setCell ⟨g8, 0, none⟩ (.slice none 0 0)).setCell ⟨g9, 0, none⟩ (.int .i64 21)) g8 [.slice none 0 0] 24 ∧ Blk ((A.setCell ⟨g8, 0, none⟩ (.slice none 0 0)).setCell ⟨g9, 0, none⟩ (.int .i64 21)) g9 [.int .i64 21] 36 := by
  have b9 := hJ.k.b9.other (a := ⟨g8, 0, none⟩) (Ne.symm h89) (.slice none 0 0)
  exact ⟨(KeepsFrom.cell hJ.k.b8 0 _).trans (KeepsFrom.cell b9 0 _), x, hJ.p.fail hJ.l he, (hJ.c.set hJ.k.b8 (by decide) (.inl h8.2) h8.1 0 _).set b9 (by decide) (.inl h9.2) h9.1 0 _, (hJ.k.b8.set 0 (.slice none 0 0)).other (a := ⟨g9, 0, none⟩) h89 _, b9.set 0 (.int .i64 21)⟩
/-- Behind the range: the results' boxes, the mark. -/
theorem rd_end {w W : World} {nS B D G g8 g9 g13 lo Dd : Nat} {vs : List Value} {m : List B8} {bad : Nat} {avS : Value} {fr te wf : Nat} {aq : List Nat} {n : Nat} (hlo : lo = w.heap.size) (h89 : g8 ≠ g9) (h8 : w.heap.size ≤ g8 ∧ g8 < nS) (h9 : w.heap.size ≤ g9 ∧ g9 < nS)
    (hC : Cst ⟨w, nS⟩ B D G vs m bad avS fr te wf aq W) (hk : RdK lo g8 g9 g13 m fr te n W) (hD : nS ≤ Dd) (hK : W.heap[Dd]? = some (.deferred (some []))) :
    ∃ sp k cap, W.cell? ⟨g13, 0, none⟩ = some (.slice sp k cap) ∧ ((W.setCell ⟨g8, 0, none⟩ (.slice sp k cap)).setCell ⟨g9, 0, none⟩ (.int .i64 0)).heap[Dd]? = some (.deferred (some [])) ∧
      (∀ X, X = (((W.setCell ⟨g8, 0, none⟩ (.slice sp k cap)).setCell ⟨g9, 0, none⟩ (.int .i64 0)).putObj Dd (.deferred none)) → X.cell? ⟨g8, 0, none⟩ = some (.slice sp k cap) ∧ X.cell? ⟨g9, 0, none⟩ = some (.int .i64 0) ∧
        CEnd w B D vs m bad avS aq X ∧ OwnB X w.heap.size (.slice sp k cap) (rng m fr (min (pcA fr n) te))) := by
  obtain ⟨bv, h13, ho⟩ := hk.b13
  obtain ⟨sp, cap, rfl, -⟩ := c_owns_form ho
  have b9 := hk.b9.other (a := ⟨g8, 0, none⟩) (Ne.symm h89) (.slice sp (rng m fr (min (pcA fr n) te)).length cap)
  have b8' := (hk.b8.set 0 (.slice sp (rng m fr (min (pcA fr n) te)).length cap)).other (a := ⟨g9, 0, none⟩) h89 (.int .i64 0)
  have b9' := b9.set 0 (.int .i64 0)
  have hC2 := (hC.set hk.b8 (by decide) (.inl h8.2) h8.1 0 (.slice sp (rng m fr (min (pcA fr n) te)).length cap)).set b9 (by decide) (.inl h9.2) h9.1 0 (.int .i64 0)
  have hK2 : ((W.setCell ⟨g8, 0, none⟩ (.slice sp (rng m fr (min (pcA fr n) te)).length cap)).setCell ⟨g9, 0, none⟩ (.int .i64 0)).heap[Dd]? = some (.deferred (some [])) :=
    ((KeepsFrom.cell hk.b8 0 _).trans (KeepsFrom.cell b9 0 _)).same Dd _ hD hK rfl
  have hc : Chg (fun g => g = g8 ∨ g = g9) W ((W.setCell ⟨g8, 0, none⟩ (.slice sp (rng m fr (min (pcA fr n) te)).length cap)).setCell ⟨g9, 0, none⟩ (.int .i64 0)) := ((Chg.refl _ W).setCell (.inl (.inl rfl)) 0 _).setCell (.inl (.inr rfl)) 0 _
  have ho2 := c_owns_chg ho hc (fun g e hf => by
    rcases hf with rfl | rfl
    · exact c_own_ne ho hk.b8 (by decide) e
    · exact c_own_ne ho hk.b9 (by decide) e)
  refine ⟨sp, _, cap, h13.cell (j := 0) rfl, hK2, fun X hX => ?_⟩
  have hg := grownBy_putObj' ((W.setCell ⟨g8, 0, none⟩ (.slice sp (rng m fr (min (pcA fr n) te)).length cap)).setCell ⟨g9, 0, none⟩ (.int .i64 0)) Dd (.deferred none)
  rw [← hX] at hg
  have hr : ∀ r, some Dd = some r → nS ≤ r ∧ ∃ o : Obj, ((W.setCell ⟨g8, 0, none⟩ (.slice sp (rng m fr (min (pcA fr n) te)).length cap)).setCell ⟨g9, 0, none⟩ (.int .i64 0)).heap[r]? = some o ∧ o.isCells = false := fun r e => by cases e; exact ⟨hD, _, hK2, rfl⟩
  refine ⟨(blk_grown hg (fun r e => (hr r e).2) b8').cell (j := 0) rfl, (blk_grown hg (fun r e => (hr r e).2) b9').cell (j := 0) rfl, (hC2.grown hg hr).fin, ?_⟩
  rw [hlo] at ho2
  exact c_owns_chg ho2 (chg_grown hg) (fun g e hf => by
    obtain ⟨cs, hb⟩ := c_owns_ty ho2 e
    obtain ⟨_, o, h1, h2⟩ := hr g hf
    unfold Blk at hb
    rw [hb] at h1
    cases h1
    cases h2)
/-- What Read leaves. -/
def CRdPost (w : World) (B D : Nat) (vs : List Value) (m : List B8) (bad : Nat) (av : Value) (aq : List Nat) (sz X N : Nat) (e : Ending) (w' : World) : Prop :=
  ∃ n er v, Ran bad wtA (rdFr sz X) (rdTe sz X N) n er ∧ CEnd w B D vs m bad av (aq ++ ranQ wtA (rdFr sz X) (rdTe sz X N) n er) w' ∧ e = .returned (.tuple #[v, .int .i64 (if er = true then 21 else 0)]) ∧ if er = true then v = .slice none 0 0 else OwnB w' w.heap.size v (rng m (rdFr sz X) (rdTe sz X N))
set_option maxRecDepth 100000 in
set_option maxHeartbeats 16000000 in
theorem cread_any {w : World} {B D : Nat} {vs : List Value} {m : List B8} {bad : Nat} {av : Value} {aq : List Nat} (h : ShW w B D vs m bad av aq) (hm : ∀ l ∈ m, l.length ≤ 512) (hB : B ≤ w.heap.size) (hq : aq.length + 100 < 1000000) (sz X N : Nat) (hsz : sz ≤ 32768) (hX : X < 9223372036854775808) (hN : N ≤ 2048) :
    Calls Try.prog 11 #[shC D, .int .u32 (sz : Int), .int .i64 (X : Int), .int .i64 (N : Int)] w (CRdPost w B D vs m bad av aq sz X N) := by
  have HSH := Lib.hid h; have HM := Lib.hid hm; have HB := Lib.hid hB; have HQ := Lib.hid hq; have HSZ := Lib.hid hsz
  have hfr : rdFr sz X ≤ sz := by unfold rdFr; omega
  have hfx : rdFr sz X ≤ X := by unfold rdFr; omega
  have e1 : (if sz < X then (sz : Int) else (X : Int)) = (rdFr sz X : Int) := by unfold rdFr; split <;> omega
  have e2 : (if ((sz : Int) - (rdFr sz X : Int)) < (N : Int) then ((sz : Int) - (rdFr sz X : Int)) else (N : Int)) = ((min N (sz - rdFr sz X) : Nat) : Int) := by split <;> omega
  have e3 : ((rdFr sz X : Nat) : Int) + ((min N (sz - rdFr sz X) : Nat) : Int) = (rdTe sz X N : Int) := by unfold rdTe; omega
  have hte : rdTe sz X N ≤ sz := by unfold rdTe; omega
  generalize hPost : CRdPost w B D vs m bad av aq sz X N = Post
  have HP : Hid (∀ n er v W, Ran bad wtA (rdFr sz X) (rdTe sz X N) n er → CEnd w B D vs m bad av (aq ++ ranQ wtA (rdFr sz X) (rdTe sz X N) n er) W → (if er = true then v = .slice none 0 0 else OwnB W w.heap.size v (rng m (rdFr sz X) (rdTe sz X N))) → Post (.returned (.tuple #[v, .int .i64 (if er = true then 21 else 0)])) W) := Lib.hid fun n er v W h1 h2 h3 => by rw [← hPost]; exact ⟨n, er, v, h1, h2, rfl, h3⟩
  obtain ⟨fr, hfe⟩ : ∃ a, rdFr sz X = a := ⟨_, rfl⟩
  obtain ⟨te, hteE⟩ : ∃ a, rdTe sz X N = a := ⟨_, rfl⟩
  obtain ⟨mn, hmn⟩ : ∃ a, min N (sz - fr) = a := ⟨_, rfl⟩
  rw [hfe] at e1 e2 e3 hfr hfx HP
  rw [hteE] at e3 hte HP
  rw [hmn] at e2 e3
  have HE1 := Lib.hid e1; have HE2 := Lib.hid e2; have HE3 := Lib.hid e3; have HFR := Lib.hid hfr; have HTE := Lib.hid hte; have HXX := Lib.hid hX; have HNN := Lib.hid hN
  have hsf : (0 : Int) ≤ (sz : Int) - (fr : Int) := by omega
  have w1 : IntKind.u64.wrap (X : Int) = (X : Int) := by rw [IntKind.wrap_u64]; omega
  have w2 : IntKind.u64.wrap (N : Int) = (N : Int) := by rw [IntKind.wrap_u64]; omega
  have w3 : IntKind.u64.wrap (sz : Int) = (sz : Int) := by rw [IntKind.wrap_u64]; omega
  have w4 : IntKind.u64.wrap ((sz : Int) - (fr : Int)) = (sz : Int) - (fr : Int) := by rw [IntKind.wrap_u64]; omega
  have w5 : IntKind.u64.wrap ((fr : Int) + (mn : Int)) = (fr : Int) + (mn : Int) := by rw [IntKind.wrap_u64]; have := HE3.out; omega
  have hr0 : refN (X : Int) (N : Int) = 0 := by unfold refN; rw [if_neg (by omega)]
  have HR0 := Lib.hid hr0
  clear h hm hB hq hsz hX hN hfr hfx e1 e2 e3 hte hPost hfe hteE hmn hr0
  refine callsIn_wide.1 (callsIn_of_wp_marks (F := Fence.wide) (n := 5) Try.func11 rfl trivial ?_ rfl)
  refine wpIn_wide.2 ?_
  simp only [Try.ntmps11, List.size_toArray, List.length_cons, List.length_nil, Nat.reduceAdd, Nat.reduceSub, Array.replicate_succ, Array.replicate_zero, List.push_toArray, List.append_toArray, List.nil_append, List.cons_append]
  go_upto_region 1 with fail
  obtain ⟨W0, hW0⟩ : ∃ W0, (w.alloc (.cells #[.slice none 0 0] 24)).alloc (.cells #[.int .i64 0] 36) = W0 := ⟨_, rfl⟩
  rw [hW0]
  go_wp2_with fail
  refine (crefuse_any D (X : Int) (N : Int) W0).mono ?_
  rintro e w' ⟨rfl, rfl⟩
  rw [HR0.out]
  go_upto_region 5 with fail
  rw [HE1.out]
  go_upto_region 6 with fail
  rw [HE2.out, HE3.out]
  have w6 : IntKind.u64.wrap (te : Int) = (te : Int) := by rw [IntKind.wrap_u64]; have := HTE.out; have := HSZ.out; omega
  rw [w6]
  clear w1 w2 w3 w4 w5 w6 hsf
  go_upto_region 7 with fail
  have hb1 : Below w.heap.size w (W0.alloc (.cells #[.slice none 0 0] 24)) := by
    rw [← hW0]; exact (((Below.refl _ _).alloc (Nat.le_refl _) _).alloc (by simp) _).alloc (by simp; omega) _
  have hz0 : W0.heap.size = w.heap.size + 1 + 1 := by rw [← hW0]; simp
  have hk8 : Blk (W0.alloc (.cells #[.slice none 0 0] 24)) w.heap.size [.slice none 0 0] 24 := by rw [← hW0]; exact ((Blk.new' _ _ _ _ _ rfl rfl).alloc _).alloc _
  have hk9 : Blk (W0.alloc (.cells #[.slice none 0 0] 24)) (w.heap.size + 1) [.int .i64 0] 36 := by rw [← hW0]; exact (Blk.new' _ _ _ _ _ (by simp) rfl).alloc _
  have hk13 : Blk (W0.alloc (.cells #[.slice none 0 0] 24)) W0.heap.size [.slice none 0 0] 24 := Blk.new' _ _ _ _ _ rfl rfl
  obtain ⟨W1, hW1⟩ : ∃ W, W0.alloc (.cells #[.slice none 0 0] 24) = W := ⟨_, rfl⟩
  obtain ⟨g13, hg13⟩ : ∃ g, W0.heap.size = g := ⟨_, rfl⟩
  rw [hg13] at hk13 hz0 ⊢
  rw [hW1] at hb1 hk8 hk9 hk13 ⊢
  have HB1 := Lib.hid hb1; have HK8 := Lib.hid hk8; have HK9 := Lib.hid hk9; have HK13 := Lib.hid hk13; have HZ := Lib.hid hz0
  clear hW0 hW1 hg13 hb1 hk8 hk9 hk13 hz0
  go_wp2_with fail
  refine (cpieces_any D fr te 18 W1).mono ?_
  rintro e wS ⟨rfl, hwS⟩
  obtain ⟨hcs, hbS⟩ := cst_start HSH.out HB.out HB1.out fr te 18 hwS
  have HBS : Hid (Below w.heap.size w wS) := Lib.hid (HB1.out.trans (hbS.mono HB1.out.size))
  have hfte : fr ≤ te := by have := HE3.out; omega
  have HH0 : Hid (HdJ ⟨w, wS.heap.size⟩ B D W1.heap.size vs m bad av wtA fr te 18 aq (RdK w.heap.size w.heap.size (w.heap.size + 1) g13 m fr te) 0 wS) := Lib.hid ⟨by rw [show askU wtA fr te 0 = [] from rfl, List.append_nil]; exact hcs, ⟨fun j hj => by omega⟩, ⟨HK8.out.below hbS HK8.out.lt, HK9.out.below hbS HK9.out.lt, _, HK13.out.below hbS HK13.out.lt, by
    have e : rng m fr (min (pcA fr 0) te) = [] := by
      rw [show pcA fr 0 = fr from rfl, Nat.min_eq_left hfte]; unfold rng; simp
    rw [e]; exact ⟨rfl, .inl ⟨rfl, rfl⟩⟩⟩⟩
  have HSZS : Hid (W1.heap.size + 3 < wS.heap.size) := Lib.hid hcs.gl
  have HGW : Hid (g13 < W1.heap.size) := Lib.hid HK13.out.lt
  obtain ⟨G, hG⟩ : ∃ G, W1.heap.size = G := ⟨_, rfl⟩
  rw [hG] at HH0 HSZS HGW
  simp only [hG]
  clear hG hcs hbS hfte hwS
  have hK : Keeps D av ⟨w, wS.heap.size⟩ (RdK w.heap.size w.heap.size (w.heap.size + 1) g13 m fr te) := fun i A A' cs h k hd => h.keep k hd
  have HKK := Lib.hid hK
  clear hK HK8 HK9 HK13 HB1
  go_wp2_with fail
  refine (wpIn_wide (n := 5)).1 ?_
  apply (wpIn_rangeFunc_w (n := 5) (w := wS) (α := Nat) rfl (by omega) (gf := 19) (lb := #[.pointer (some ⟨G + 1, 0, none⟩), .pointer (some ⟨G + 1 + 1, 0, none⟩), .pointer (some ⟨G + 1 + 1 + 1, 0, none⟩), .pointer (some ⟨G, 0, none⟩)]) rfl trivial (enters_of Try.func19 (by kernel_rfl) rfl)
    (encs := fun i => ycE (yc vs bad wtA fr te i)) (fun _ => rfl)
    (fun pre A => pre = List.range pre.length ∧ HdJ ⟨w, wS.heap.size⟩ B D G vs m bad av wtA fr te 18 aq (RdK w.heap.size w.heap.size (w.heap.size + 1) g13 m fr te) pre.length A)
    (fun pre x A => pre = List.range pre.length ∧ x = pre.length ∧ HdJ1 ⟨w, wS.heap.size⟩ B D G vs m bad av wtA fr te 18 aq (RdK w.heap.size w.heap.size (w.heap.size + 1) g13 m fr te) x A)
    (HdJ2 ⟨w, wS.heap.size⟩ B D G vs m bad av wtA fr te 18 aq (RdK w.heap.size w.heap.size (w.heap.size + 1) g13 m fr te) _)
    (fun c pre A => c = .ret ∧ ∃ i, Ran bad wtA fr te i true ∧ Cst ⟨w, wS.heap.size⟩ B D G vs m bad av fr te 18 (aq ++ askU wtA fr te (i + 1)) A ∧ Blk A w.heap.size [.slice none 0 0] 24 ∧ Blk A (w.heap.size + 1) [.int .i64 21] 36)
    (hdJ_own HKK.out) (hdJ2_own HKK.out _) ?own ⟨rfl, HH0.out⟩
    (pieces_in 4 (by omega) (by have := HFR.out; have := HSZ.out; omega) (by have := HTE.out; have := HSZ.out; omega) each_ok (enters_of Try.func18 (by kernel_rfl) rfl) HQ.out _ _ (fun i A h => h.c) (hdJ_ask HKK.out)) ?assign ?body ?done ?stop)
  case assign =>
    intro l pre x W K ⟨hpre, hx, hJ⟩ hKf
    have HX : Hid (pre = List.range x) := Lib.hid (by rw [hx]; exact hpre)
    have HJ := Lib.hid hJ
    have HKF := Lib.hid hKf
    have HONE : Hid ((pcC (yc vs bad wtA fr te x).o (yc vs bad wtA fr te x).f (yc vs bad wtA fr te x).t (yc vs bad wtA fr te x).v).toArray.all (·.oneCell') = true) := Lib.hid (by
      obtain ⟨av', h1, -⟩ := hJ.c.sh
      exact pc_one (yc_v h1 wtA fr te x (pcO_lt hJ.l (by have := HTE.out; have := HSZ.out; omega))))
    clear hpre hx hJ hKf
    unfold ycE
    refine wpIn_seq ?_
    refine c_regionL 8 (by kernel_rfl) (fun ⟨_, _, h⟩ => h) ?_
    go_wp2_with (first | (refine wpList_store_row rfl 56 (.tmp 14) (.tmp 41) rfl W.heap.size (pcC (yc vs bad wtA fr te x).o (yc vs bad wtA fr te x).f (yc vs bad wtA fr te x).t (yc vs bad wtA fr te x).v).toArray rfl rfl 56 _ (heap_alloc_new W _) sizePc rfl HONE.out ?_) | fail)
    gi_wp2
    have h5 := c_row1 W #[.int .u32 0, .int .i64 0, .int .i64 0, .slice none 0 0] (pcC (yc vs bad wtA fr te x).o (yc vs bad wtA fr te x).f (yc vs bad wtA fr te x).t (yc vs bad wtA fr te x).v) 56
    obtain ⟨X5, hX5⟩ : ∃ X5, (W.alloc (.cells #[.int .u32 0, .int .i64 0, .int .i64 0, .slice none 0 0] 56)).setRow W.heap.size (pcC (yc vs bad wtA fr te x).o (yc vs bad wtA fr te x).f (yc vs bad wtA fr te x).t (yc vs bad wtA fr te x).v).toArray = X5 := ⟨_, rfl⟩
    rw [hX5] at h5 ⊢
    clear hX5
    have hws : wS.heap.size ≤ W.heap.size := HJ.out.c.size
    obtain ⟨g, hg⟩ : ∃ g, W.heap.size = g := ⟨_, rfl⟩
    rw [hg] at hws ⊢
    refine HKF.out _ _ (KeepsFrom.of_below h5.2) ⟨g, rfl, HX.out, hws, ?_, HJ.out.below HKK.out h5.2⟩
    rw [← hg]
    exact h5.1
  case body =>
    rintro l pre x a' W ⟨g, rfl, hpre, hgs, hbx, hJ⟩
    have HX := Lib.hid hpre; have HJ := Lib.hid hJ; have HBX := Lib.hid hbx; have HGS := Lib.hid hgs
    have c8 := hJ.k.b8.cell (j := 0) rfl
    have q8 := hJ.k.b8.free 0
    have c9 := hJ.k.b9.cell (j := 0) rfl
    have q9 := hJ.k.b9.free 0
    clear hpre hgs hbx hJ
    have HBND : Hid (w.heap.size ≤ g13 ∧ g13 < wS.heap.size ∧ w.heap.size ≠ g13 ∧ w.heap.size + 1 ≠ g13) := Lib.hid (by have := HSZS.out; have := HZ.out; have := HGW.out; omega)
    rcases yc_e vs bad wtA fr te x with ⟨he, hok⟩ | ⟨he, hw, hbad⟩
    · have he2 : (((yc vs bad wtA fr te x).e : Nat) : Int) = 0 := by rw [he]; rfl
      have hye := yc_ok he
      rw [if_pos (show wtA _ _ = true from rfl)] at hye
      have HYE := Lib.hid hye
      have HE := Lib.hid he
      dsimp only
      rw [he2]
      clear c8 q8 c9 q9 he2 he hok
      gi_wp2
      obtain ⟨f1, f2, f3, f4, f5⟩ := pc_facts HJ.out.l
      have hT := pcT_le fr te x
      have hK : pcO fr x < 64 := pcO_lt HJ.out.l (by have := HTE.out; have := HSZ.out; omega)
      obtain ⟨av', k1, -⟩ := HJ.out.c.sh
      have hblk := cblock_any (pcO fr x) (pcF fr x) (pcT fr te x) _ _ (getD_le HM.out (pcO fr x)) W.drew (yc_row (k1.below (Below.refl _ _).drew) hK)
      obtain ⟨bv, hbv, hbo⟩ := HJ.out.k.b13
      have hbx := HBX.out
      rw [HYE.out] at hbx
      have hbx' : Blk W.drew g (pcC (pcO fr x) (pcF fr x) (pcT fr te x) (vs.getD (pcO fr x) undef)) 56 := hbx
      have happ := fun (A1 : World) (hb : Below W.drew.heap.size W.drew A1) gb hgb => rd_app (w := w) (nS := wS.heap.size) rfl ⟨HBND.out.2.2.1, HBND.out.2.2.2⟩ ⟨HBND.out.1, HBND.out.2.1⟩ HM.out (by have := HTE.out; have := HSZ.out; omega) HJ.out HE.out hbv hbo (A1 := A1) (((Below.refl _ _).drew).trans hb) (gb := gb) hgb
      have cb := hbv.drew.cell (j := 0) rfl
      have HLT13 := Lib.hid hbv.lt
      have HBLK := Lib.hid hblk; have HBX2 := Lib.hid hbx'; have HAPP := Lib.hid happ; have HCB := Lib.hid cb
      have hfin : ∀ X, HdJ ⟨w, wS.heap.size⟩ B D G vs m bad av wtA fr te 18 aq (RdK w.heap.size w.heap.size (w.heap.size + 1) g13 m fr te) (x + 1) X → (pre ++ [x] = List.range (pre ++ [x]).length ∧ HdJ ⟨w, wS.heap.size⟩ B D G vs m bad av wtA fr te 18 aq (RdK w.heap.size w.heap.size (w.heap.size + 1) g13 m fr te) (pre ++ [x]).length X) := fun X h => by
        rw [HX.out]
        simp only [List.length_append, List.length_range, List.length_cons, List.length_nil, Nat.zero_add]
        exact ⟨List.range_succ.symm, h⟩
      have HFIN := Lib.hid hfin
      clear hfin hblk hbx hbx' happ cb hbv hbo k1
      generalize pcO fr x = K at HBLK HBX2 HAPP
      generalize pcF fr x = f at f3 f5 HBLK HBX2 HAPP
      generalize pcT fr te x = t at hT f5 HBLK HBX2 HAPP
      clear f1 f2 f4
      refine c_regionS (.take 1 (.take 3 (.take 4 (.take 5 (.take 6 (.fork 0 (.step 2 (.take 7 (.step 8 (.step 9 (.nil))))) 2 (.take 7 (.step 0 (.step 8 (.step 9 (.nil))))))))))) (by kernel_rfl) (by kernel_rfl) (by kernel_rfl) (fun d _ _ _ _ h => by cases d <;> exact h) (fun ⟨_, _, h⟩ => h) (fun X => Blk X g (pcC K f t (vs.getD K undef)) 56) HBX2.out ?_
      refine wpG_take _ (.agg (pcC K f t (vs.getD K undef)).toArray) rfl (by rfl) (fun X hX => c_ldPc hX rfl rfl) ?_
      (try simp only [Act.put, List.setIfInBounds_toArray, List.set_cons_zero, List.set_cons_succ])
      refine wpG_take _ (.pointer (some ⟨g, 1, none⟩)) rfl (by rfl) (fun X hX => c_faPc (j := 1) (k := 1) (by omega) rfl rfl) ?_
      (try simp only [Act.put, List.setIfInBounds_toArray, List.set_cons_zero, List.set_cons_succ])
      refine wpG_take _ (.int .i64 (f : Int)) rfl (by rfl) (fun X hX => c_ldI rfl rfl (hX.cell (j := 1) rfl)) ?_
      (try simp only [Act.put, List.setIfInBounds_toArray, List.set_cons_zero, List.set_cons_succ])
      refine wpG_take _ (.pointer (some ⟨g, 2, none⟩)) rfl (by rfl) (fun X hX => c_faPc (j := 2) (k := 2) (by omega) rfl rfl) ?_
      (try simp only [Act.put, List.setIfInBounds_toArray, List.set_cons_zero, List.set_cons_succ])
      refine wpG_take _ (.int .i64 (t : Int)) rfl (by rfl) (fun X hX => c_ldI rfl rfl (hX.cell (j := 2) rfl)) ?_
      (try simp only [Act.put, List.setIfInBounds_toArray, List.set_cons_zero, List.set_cons_succ])
      refine wpG_fork ?_ ?_
      · refine cG_mk _ rfl (by rfl) bv W.drew (c_ldB rfl rfl HCB.out) (fun X => Blk X g (pcC K f t (vs.getD K undef)) 56) HBX2.out (fun _ h => h) ?_
        (try simp only [Act.put, List.setIfInBounds_toArray, List.set_cons_zero, List.set_cons_succ])
        refine wpG_call _ rfl (by rfl) 16 #[.agg (pcC K f t (vs.getD K undef)).toArray] (fun X => by go_simp) (fun u X => ∃ gb, u = .slice (some ⟨gb, 0, none⟩) 512 512 ∧ Blk X gb ((padL (m.getD K [])).map V8) 5 ∧ Below W.drew.heap.size W.drew X) (HBLK.out.mono fun e X ⟨gb, e1, e2, e3, e4⟩ => ⟨_, e1, HBX2.out.below e4 HBX2.out.lt, gb, rfl, e2, e4⟩) ?_
        rintro u X3 hs3 ⟨gb, rfl, hgb, hb3⟩
        refine ⟨fun X => Blk X g (pcC K f t (vs.getD K undef)) 56, fun _ h => h, hs3, ?_⟩
        (try simp only [Act.put, List.setIfInBounds_toArray, List.set_cons_zero, List.set_cons_succ])
        refine wpG_take _ (.slice (some ⟨gb, f, none⟩) (t - f) (512 - f)) rfl (by rfl) (fun X hX => c_slB rfl rfl rfl rfl (by omega) hT f3) ?_
        (try simp only [Act.put, List.setIfInBounds_toArray, List.set_cons_zero, List.set_cons_succ])
        obtain ⟨sp, n', cap, w2, hr, ⟨_, hc⟩, hf, hJ3, hk3, hg3⟩ := HAPP.out X3 hb3 gb hgb
        obtain ⟨j1, j2⟩ := hg3 g _ hs3
        refine cG_mk _ rfl (by rfl) (.slice sp n' cap) w2 (c_appB rfl rfl rfl hr) (fun X => Blk X g (pcC K f t (vs.getD K undef)) 56) j1 (fun _ h => h) ?_
        (try simp only [Act.put, List.setIfInBounds_toArray, List.set_cons_zero, List.set_cons_succ])
        refine cG_st _ rfl (by rfl) _ (c_stB rfl rfl rfl hc hf) (fun X => Blk X g (pcC K f t (vs.getD K undef)) 56) j2 (fun _ h => h) ?_
        refine wpG_nil ?_
        exact ⟨hk3, HFIN.out _ hJ3⟩
      · refine wpG_call _ rfl (by rfl) 16 #[.agg (pcC K f t (vs.getD K undef)).toArray] (fun X => by go_simp) (fun u X => ∃ gb, u = .slice (some ⟨gb, 0, none⟩) 512 512 ∧ Blk X gb ((padL (m.getD K [])).map V8) 5 ∧ Below W.drew.heap.size W.drew X) (HBLK.out.mono fun e X ⟨gb, e1, e2, e3, e4⟩ => ⟨_, e1, HBX2.out.below e4 HBX2.out.lt, gb, rfl, e2, e4⟩) ?_
        rintro u X3 hs3 ⟨gb, rfl, hgb, hb3⟩
        refine ⟨fun X => Blk X g (pcC K f t (vs.getD K undef)) 56, fun _ h => h, hs3, ?_⟩
        (try simp only [Act.put, List.setIfInBounds_toArray, List.set_cons_zero, List.set_cons_succ])
        refine wpG_take _ (.slice (some ⟨gb, f, none⟩) (t - f) (512 - f)) rfl (by rfl) (fun X hX => c_slB rfl rfl rfl rfl (by omega) hT f3) ?_
        (try simp only [Act.put, List.setIfInBounds_toArray, List.set_cons_zero, List.set_cons_succ])
        refine cG_mk _ rfl (by rfl) bv X3 (c_ldB rfl rfl (by rw [hb3.cell (p := ⟨g13, 0, none⟩) HLT13.out]; exact HCB.out)) (fun X => Blk X g (pcC K f t (vs.getD K undef)) 56) hs3 (fun _ h => h) ?_
        (try simp only [Act.put, List.setIfInBounds_toArray, List.set_cons_zero, List.set_cons_succ])
        obtain ⟨sp, n', cap, w2, hr, ⟨_, hc⟩, hf, hJ3, hk3, hg3⟩ := HAPP.out X3 hb3 gb hgb
        obtain ⟨j1, j2⟩ := hg3 g _ hs3
        refine cG_mk _ rfl (by rfl) (.slice sp n' cap) w2 (c_appB rfl rfl rfl hr) (fun X => Blk X g (pcC K f t (vs.getD K undef)) 56) j1 (fun _ h => h) ?_
        (try simp only [Act.put, List.setIfInBounds_toArray, List.set_cons_zero, List.set_cons_succ])
        refine cG_st _ rfl (by rfl) _ (c_stB rfl rfl rfl hc hf) (fun X => Blk X g (pcC K f t (vs.getD K undef)) 56) j2 (fun _ h => h) ?_
        refine wpG_nil ?_
        exact ⟨hk3, HFIN.out _ hJ3⟩
    · have he2 : (((yc vs bad wtA fr te x).e : Nat) : Int) = 21 := by rw [he]; rfl
      have HBD := Lib.hid hbad
      have HE := Lib.hid he
      dsimp only
      rw [he2]
      clear he he2 hw hbad
      gi_wp2
      obtain ⟨k1, k2⟩ := rd_err (by omega) ⟨Nat.le_refl _, by have := HSZS.out; have := HZ.out; have := HGW.out; omega⟩ ⟨by omega, by have := HSZS.out; have := HZ.out; have := HGW.out; omega⟩ HJ.out (by rw [HE.out]; simp)
      exact ⟨k1, rfl, k2⟩
  case own =>
    exact fun c s A A' row ⟨h1, i, h2, h3, h4, h5⟩ hg hr => ⟨h1, i, h2, h3.grown hg hr, blk_grown hg (fun r e => (hr r e).2) h4, blk_grown hg (fun r e => (hr r e).2) h5⟩
  case done =>
    intro Dd ys W hD hS ⟨hys, hJ⟩ hK
    have hno : te ≤ pcA fr ys.length := by
      rcases hS with h | ⟨i, h1, h2⟩
      · exact h
      · exact absurd (hJ.p.all i h1).2 h2
    have hran := hJ.p.ran hno
    obtain ⟨sp, k, cap, c13, hK2, hX⟩ := rd_end rfl (by omega) ⟨Nat.le_refl _, by have := HSZS.out; have := HZ.out; have := HGW.out; omega⟩ ⟨by omega, by have := HSZS.out; have := HZ.out; have := HGW.out; omega⟩ hJ.c hJ.k hD hK
    rw [Nat.min_eq_right hno] at hX
    have c8 := hJ.k.b8.cell (j := 0) rfl
    have q8 := hJ.k.b8.free 0
    have c9 := hJ.k.b9.cell (j := 0) rfl
    have q9 := hJ.k.b9.free 0
    have HX := Lib.hid hX; have HRAN := Lib.hid hran; have HK2 := Lib.hid hK2
    clear hX hran hK2 hS hys hJ hK hno
    go_wp2_with fail
    obtain ⟨r1, r2, r3, r4⟩ := HX.out _ rfl
    refine ⟨by simp, .inl ⟨_, _, rfl, run_takeDeferred HK2.out, ?_⟩⟩
    refine ⟨.tuple #[.slice sp k cap, .int .i64 0], ?_, ?_⟩
    · simp [results, Try.f11, go_sem, r1, r2]
    · have h9 := HP.out ys.length false (.slice sp k cap) _ HRAN.out r3 (by rw [if_neg (by simp)]; exact r4)
      rw [if_neg (by simp)] at h9
      exact h9
  case stop =>
    rintro Dd c pre W hD - ⟨rfl, i, hran, hC, h8, h9⟩ hK
    have hg := grownBy_putObj' W Dd (.deferred none)
    have hr : ∀ r, some Dd = some r → wS.heap.size ≤ r ∧ ∃ o : Obj, W.heap[r]? = some o ∧ o.isCells = false := fun r e => by cases e; exact ⟨hD, _, hK, rfl⟩
    have c8 := (blk_grown hg (fun r e => (hr r e).2) h8).cell (j := 0) rfl
    have c9 := (blk_grown hg (fun r e => (hr r e).2) h9).cell (j := 0) rfl
    have HC8 := Lib.hid c8; have HC9 := Lib.hid c9; have HCE := Lib.hid (hC.grown hg hr).fin; have HRAN := Lib.hid hran; have HK := Lib.hid hK
    clear hD hran hC h8 h9 hK hg hr c8 c9
    refine wpIn_wide.2 ?_
    go_wp2_with fail
    refine ⟨by simp, .inl ⟨_, _, rfl, run_takeDeferred HK.out, ?_⟩⟩
    refine ⟨.tuple #[.slice none 0 0, .int .i64 21], ?_, ?_⟩
    · have c8 := HC8.out
      have c9 := HC9.out
      simp [results, Try.f11, go_sem, c8, c9]
    · have h9 := HP.out i true (.slice none 0 0) _ HRAN.out HCE.out (by rw [if_pos rfl])
      rw [if_pos rfl] at h9
      exact h9
end Go.Proofs.Ythionhliokhcgaa
