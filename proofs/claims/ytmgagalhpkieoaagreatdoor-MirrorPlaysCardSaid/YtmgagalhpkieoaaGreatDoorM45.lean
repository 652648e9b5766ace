/- The document's mirror: Write, Flush. -/
import Derived.Test.YtmgagalhpkieoaaGreatDoorM44
import Derived.Test.YtmgagalhpkieoaaGreatDoorM33
import Derived.Test.YtmgagalhpkieoaaGreatDoorM41
namespace Go.Proofs.YtmgagalhpkieoaaGreatDoor
open Go.RowKit

theorem cpcells_at : ∀ (l : List Cpy) (i : Nat) (c : Cpy), l[i]? = some c → (cpcells l)[i * 2]? = some (.int .i64 (c.1 : Int)) ∧ (cpcells l)[i * 2 + 1]? = some (.int .u16 (c.2 : Int))
  | [], i, c, h => by simp at h
  | d :: l, 0, c, h => by
    simp only [List.getElem?_cons_zero, Option.some.injEq] at h
    subst h
    exact ⟨rfl, rfl⟩
  | d :: l, i + 1, c, h => by
    obtain ⟨h1, h2⟩ := cpcells_at l i c (by simpa using h)
    have e : cpcells (d :: l) = [.int .i64 (d.1 : Int), .int .u16 (d.2 : Int)] ++ cpcells l := rfl
    rw [e]
    exact ⟨by rw [List.getElem?_append_right (by simp; omega), ← h1]; congr 1; simp; omega, by rw [List.getElem?_append_right (by simp; omega), ← h2]; congr 1; simp; omega⟩
theorem OwnC.cells2 {w : World} {B : Nat} {g n cap : Nat} {l : List Cpy} (h : OwnC w B (.slice (some ⟨g, 0, none⟩) n cap) l) {k : Nat} {c : Cpy} (hk : l[k]? = some c) : w.cell? ⟨g, k * 2, none⟩ = some (.int .i64 (c.1 : Int)) ∧ w.cell? ⟨g, k * 2 + 1, none⟩ = some (.int .u16 (c.2 : Int)) := by
  obtain ⟨h1, h2⟩ := cpcells_at l k c hk
  have e1 := World.ownsRow.cells h (g := g) rfl _ _ h1
  have e2 := World.ownsRow.cells h (g := g) rfl _ _ h2
  rw [Addr.add_mid, Nat.zero_add] at e1 e2
  exact ⟨e1, e2⟩
theorem OwnC.rng {w : World} {B : Nat} {g n cap : Nat} {l : List Cpy} (h : OwnC w B (.slice (some ⟨g, 0, none⟩) n cap) l) {k : Nat} {c : Cpy} (hk : l[k]? = some c) : w.rangeAt g (k * 2) (plc c) := fun j v hv => by
  obtain ⟨h1, h2⟩ := h.cells2 hk
  match j, hv with
  | 0, hv => simp [plc] at hv; subst hv; exact h1
  | 1, hv => simp [plc] at hv; subst hv; exact h2
theorem OwnC.form2 {w : World} {B : Nat} {v : Value} {l : List Cpy} (h : OwnC w B v l) : ∃ sp cap, v = .slice sp l.length cap ∧ l.length ≤ cap ∧ (0 < l.length → ∃ g, sp = some ⟨g, 0, none⟩) := by
  rcases h.2 with ⟨e, hn⟩ | ⟨g, cap, cur, e, _, _, hc, _⟩
  · exact ⟨none, 0, by rw [e, hn], by omega, fun h0 => by omega⟩
  · exact ⟨some ⟨g, 0, none⟩, cap, e, hc, fun _ => ⟨g, rfl⟩⟩
section
variable {ρ : Operand → Value} {o : Oper} {x y : Operand} {w : World}
theorem w_iaC {g n cap k : Nat} (ho : o.op = .indexAddr 116 x y) (hx : ρ x = .slice (some ⟨g, 0, none⟩) n cap) (hy : ρ y = .int .i64 (k : Int)) (hk : k < n ∧ n ≤ cap) : (execOp ρ o).run Tryz.prog w = .ok (.value (.pointer (some ⟨g, k * 2, none⟩))) w := by
  have h1 : ¬ n ≤ k := by omega
  unfold execOp
  simp only [ho]
  go_simp
theorem w_ldC {g k : Nat} {c : Cpy} (hc : w.rangeAt g k (plc c)) (ho : o.op = .load 121 x) (hx : ρ x = .pointer (some ⟨g, k, none⟩)) : (execOp ρ o).run Tryz.prog w = .ok (.value (.agg (plc c).toArray)) w :=
  ex_ld (ty := 121) (cs := plc c) ho hx hc Tryz.underlying121 rfl size_cp
end
structure WhW (w : World) (lab0 : Nat → Nat) (V : Rl) (p : Pt) (vl : Value) (l : List Cpy) (vb : Value) (bad : List Cpy) (lab : Nat → Nat) (y : Wi) (Z : World) : Prop where
  pt : Blk Z w.heap.size (pcells p) 58
  lp : lab w.heap.size = 0
  ol : OwnC Z w.heap.size vl l
  ll : ∀ g, vl.ownBlock = some g → lab g = 0
  ob : OwnC Z w.heap.size vb bad
  lb : ∀ g, vb.ownBlock = some g → lab g = 0
  ap : ∀ g, vb.ownBlock = some g → vl.ownBlock ≠ some g
  m : WmAt Z lab V y
  st : Stp w lab0 Z lab
structure WhF (w : World) (V : Rl) (p : Pt) (vl : Value) (l : List Cpy) (vb : Value) (bad : List Cpy) (Z : World) : Prop where
  pt : Blk Z w.heap.size (pcells p) 58
  ol : OwnC Z w.heap.size vl l
  ob : OwnC Z w.heap.size vb bad
  cd : ∀ k, k < 2 → Z.cell? ⟨V.M, k, none⟩ = some (.pointer (some ⟨V.D k, 0, none⟩))
def WhT (w : World) (lab0 : Nat → Nat) (V : Rl) (p : Pt) (vl : Value) (l : List Cpy) (vb : Value) (bad : List Cpy) (y : Wi) (Z : World) : Prop := ∃ lab, WhW w lab0 V p vl l vb bad lab y Z
theorem WmAt.new {Z : World} {lab : Nat → Nat} {V : Rl} {y : Wi} (h : WmAt Z lab V y) {g : Nat} (hg : Z.heap.size ≤ g) : lab g = 0 := by
  by_cases e : lab g = 0
  · exact e
  · have := h.lt g e; omega
section
variable {w Z Z' : World} {lab0 lab : Nat → Nat} {V : Rl} {p : Pt} {vl vb : Value} {l bad : List Cpy} {y y' : Wi}
theorem WhW.fact (h : WhW w lab0 V p vl l vb bad lab y Z) : WhF w V p vl l vb bad Z := ⟨h.pt, h.ol, h.ob, h.m.cell.1⟩
theorem WhW.post (h : WhW w lab0 V p vl l vb bad lab y Z) (hp : WmPost Z lab V y' Z') : WhT w lab0 V p vl l vb bad y' Z' := by
  obtain ⟨l', h1, h2⟩ := hp
  exact ⟨l', h2.blk h.pt h.lp, h2.lab0 h.pt.lt h.lp, owns_chg h.ol h2.chg (fun g hg hf => hf.1 (h.ll g hg)), fun g hg => h2.lab0 (World.ownsRow.lt h.ol g hg).2 (h.ll g hg), owns_chg h.ob h2.chg (fun g hg hf => hf.1 (h.lb g hg)), fun g hg => h2.lab0 (World.ownsRow.lt h.ob g hg).2 (h.lb g hg), h.ap, h1, h.st.trans h2⟩
theorem WhW.below (h : WhW w lab0 V p vl l vb bad lab y Z) (hb : Below Z.heap.size Z Z') : WhW w lab0 V p vl l vb bad lab y Z' := ⟨h.pt.below hb h.pt.lt, h.lp, owns_chg h.ol (Chg.of_below (F := fun _ => False) hb) (fun _ _ h => h), h.ll, owns_chg h.ob (Chg.of_below (F := fun _ => False) hb) (fun _ _ h => h), h.lb, h.ap, h.m.below hb, h.st.trans (Stp.below hb)⟩
theorem WhW.drew (h : WhW w lab0 V p vl l vb bad lab y Z) : WhW w lab0 V p vl l vb bad lab y Z.drew := h.below (Below.refl _ _).drew
theorem WhW.turn (h : WhW w lab0 V p vl l vb bad lab y Z) (hp : WmPost Z lab V y' Z') : WhF w V p vl l vb bad Z' ∧ WhT w lab0 V p vl l vb bad y' Z' := by
  obtain ⟨l', h1⟩ := h.post hp
  exact ⟨h1.fact, l', h1⟩
theorem WhW.fin (h : WhW w lab0 V p vl l vb bad lab y Z) : WmPost w lab0 V y Z := ⟨lab, h.m, h.st⟩
end
theorem whw_start {w Z Z2 : World} {lab : Nat → Nat} {V : Rl} {p : Pt} {y : Wi} {vl : Value} {l : List Cpy} (h : WmAt w lab V y) (hp : Blk Z w.heap.size (pcells p) 58) (hb : Below w.heap.size w Z) (ho : OwnC Z2 (Z.heap.size + 1) vl l) (hb2 : Below Z.heap.size Z Z2) : WhW w lab V p vl l (.slice none 0 0) [] lab y Z2 := by
  have hz := hb.size
  exact ⟨hp.below hb2 hp.lt, h.new (Nat.le_refl _), own_down ho (by omega), fun g hg => h.new (by have := (World.ownsRow.lt ho g hg).1; omega), World.ownsRow_nil _ _ _ _, fun g hg => (by cases hg), fun g hg => (by cases hg), h.below (hb.trans (hb2.mono hz)), Stp.below (hb.trans (hb2.mono hz))⟩
def wrW (y : Wi) (b : d_Bs) (l : List Cpy) : Int × Wi := l.foldl (fun r c => (if (wrote1 kinR r.2 b c).1 = 0 then 0 else r.1, (wrote1 kinR r.2 b c).2)) (21, y)
theorem wrW_snoc (y : Wi) (b : d_Bs) (l : List Cpy) (c : Cpy) : wrW y b (l ++ [c]) = (if (wrote1 kinR (wrW y b l).2 b c).1 = 0 then 0 else (wrW y b l).1, (wrote1 kinR (wrW y b l).2 b c).2) := by
  unfold wrW
  rw [List.foldl_append]
  rfl
theorem Bw.wrW {y : Wi} {n : Nat} (h : Bw y n) (b : d_Bs) {l : List Cpy} (hl : ∀ c ∈ l, c.1 < 2 ∧ 0 < c.2 ∧ c.2 < 65536) : Bw (wrW y b l).2 (n + l.length) := Bw.wrotes b l 21 y n h hl
set_option maxRecDepth 100000 in
set_option maxHeartbeats 8000000 in
theorem wwrite_any (p : Pt) (hp : p.OK) (b : d_Bs) (hbl : b.length < 1000000) (w : World) (lab : Nat → Nat) (V : Rl) (y : Wi) (n : Nat) (h : WmAt w lab V y) (hb : Bw y n) (hn : n < 880) :
    Calls Tryz.prog 13 #[.pointer (some ⟨V.M, 0, none⟩), .agg (pcells p).toArray, .string (bstr b)] w fun e w' => e = .returned (.int .i64 (writeR kinR y p b).1) ∧ WmPost w lab V (writeR kinR y p b).2 w' := by
  have HP := Lib.hid hp; have HB := Lib.hid hb; have HN := Lib.hid hn; have HBL := Lib.hid hbl; have HM := Lib.hid h
  have HPT : Hid (Blk (w.alloc (.cells (pcells p).toArray 58)) w.heap.size (pcells p) 58) := Lib.hid (Blk.new _ _ _)
  have HBW : Hid (Below w.heap.size w (w.alloc (.cells (pcells p).toArray 58))) := Lib.hid ((Below.refl _ _).alloc (Nat.le_refl _) _)
  have HOKc := Lib.hid (cps_ok hp)
  have HLN := Lib.hid (copies_len hp)
  have HWR : Hid (writeR kinR y p b = if mayR p then (if fitsP p b then wrW y b (copiesP p) else (1, y)) else (1, y)) := Lib.hid (by rw [← mayP_eq hp.len]; rfl)
  have HFT := Lib.hid (fun X => wfits_any p hp b hbl X)
  obtain ⟨s, hs⟩ : ∃ s, bstr b = s := ⟨_, rfl⟩
  have HS := Lib.hid hs
  rw [hs] at HFT ⊢
  obtain ⟨r, hr⟩ : ∃ r, writeR kinR y p b = r := ⟨_, rfl⟩
  rw [hr] at HWR ⊢
  obtain ⟨r1, r2⟩ := r
  simp only
  clear hp h hb hn hbl hs hr
  go_enter Tryz.func13, Tryz.ntmps13
  go_upto_region 1 with fail
  generalize (w.alloc (.cells (pcells p).toArray 58)) = W at HPT HBW ⊢
  go_wp2_with (first | (refine wpL_val rfl (ex_ldPq HP.out HPT.out rfl rfl) ?_) | fail)
  refine (qmay_any p HP.out W).mono ?_
  rintro e W1 ⟨rfl, hb1⟩
  have HPT1 := Lib.hid (HPT.out.below hb1 HPT.out.lt)
  have HBW1 := Lib.hid (HBW.out.trans (hb1.mono HBW.out.size))
  clear hb1 HPT HBW
  obtain ⟨m, hm⟩ : ∃ m, mayR p = m := ⟨_, rfl⟩
  rw [hm] at HWR ⊢
  clear hm
  cases m with
  | false =>
    have HPO : Hid (r1 = 1 ∧ ∀ X, Below w.heap.size w X → WmPost w lab V r2 X) := Lib.hid (by
      have e := HWR.out
      simp only [Bool.false_eq_true, if_false, Prod.mk.injEq] at e
      rw [e.1, e.2]
      exact ⟨rfl, fun X hX => WmPost.of_below HM.out hX⟩)
    obtain ⟨rfl, -⟩ := HPO.out
    clear HWR
    go_wp2_with fail
    go_ret
    exact ⟨rfl, HPO.out.2 _ HBW1.out⟩
  | true =>
    go_wp2_with (first | (refine q_valG (by rfl) (ex_ldPq HP.out HPT1.out rfl rfl) ?_) | fail)
    refine (HFT.out W1).mono ?_
    rintro e W2 ⟨rfl, hb2⟩
    have HPT2 := Lib.hid (HPT1.out.below hb2 HPT1.out.lt)
    have HBW2 := Lib.hid (HBW1.out.trans (hb2.mono HBW1.out.size))
    clear hb2 HPT1 HBW1 HFT
    obtain ⟨f, hf⟩ : ∃ f, fitsP p b = f := ⟨_, rfl⟩
    rw [hf] at HWR ⊢
    clear hf
    cases f with
    | false =>
      have HPO : Hid (r1 = 1 ∧ ∀ X, Below w.heap.size w X → WmPost w lab V r2 X) := Lib.hid (by
        have e := HWR.out
        simp only [Bool.false_eq_true, if_false, if_true, Prod.mk.injEq] at e
        rw [e.1, e.2]
        exact ⟨rfl, fun X hX => WmPost.of_below HM.out hX⟩)
      obtain ⟨rfl, -⟩ := HPO.out
      clear HWR
      go_wp2_with fail
      go_ret
      exact ⟨rfl, HPO.out.2 _ HBW2.out⟩
    | true =>
      have HPO : Hid (wrW y b (copiesP p) = (r1, r2)) := Lib.hid (by
        have e := HWR.out
        simp only [if_true] at e
        exact e.symm)
      clear HWR
      go_wp2_with (first | (refine wpL_val rfl (ex_ldPq HP.out HPT2.out rfl rfl) ?_) | fail)
      refine (qcopies_any p HP.out W2).mono ?_
      rintro e W3 ⟨vl, rfl, ho3, hb3⟩
      have HW3 := Lib.hid (whw_start HM.out HPT2.out HBW2.out ho3 hb3)
      obtain ⟨l, hl⟩ : ∃ l, copiesP p = l := ⟨_, rfl⟩
      rw [hl] at HW3 HPO HOKc HLN ho3
      obtain ⟨sp, cap, rfl, hcap, hsp⟩ := OwnC.form2 ho3
      obtain ⟨N, hN⟩ : ∃ N, l.length = N := ⟨_, rfl⟩
      rw [hN] at HW3 HLN hcap hsp ⊢
      have HNN := Lib.hid hN; have HCP := Lib.hid hcap; have HSP := Lib.hid hsp
      have HR0 : Hid (WhT w lab V p (.slice sp N cap) l (.slice none 0 0) [] (wrW y b (l.take 0)).2 W3) := Lib.hid ⟨_, HW3.out⟩
      clear ho3 hb3 hl hcap hsp hN HPT2 HBW2 HM HW3
      go_wp2_with fail
      go_loopw [7, 9] (fun u i wr => ∃ k : Nat, k ≤ N ∧ i = .int .i64 (k : Int) ∧ u = .int .i64 (wrW y b (l.take k)).1 ∧ WhT w lab V p (.slice sp N cap) l (.slice none 0 0) [] (wrW y b (l.take k)).2 wr) (fun _ i _ => N - (intOf i).toNat)
      case atStart => exact ⟨0, by omega, rfl, rfl, HR0.out⟩
      case round =>
        clear HR0
        obtain ⟨k, hk, rfl, rfl, labk, hw⟩ := hrel
        have HW := Lib.hid hw
        clear hw
        have wk1 := IntWalk.i64_in ((k : Int) + 1) (by have := HLN.out; omega)
        by_cases hlt : k < N
        · obtain ⟨c, hc⟩ : ∃ c, l[k]? = some c := ⟨_, List.getElem?_eq_getElem (by have := HNN.out; omega)⟩
          have HOK := Lib.hid (HOKc.out c (List.mem_of_getElem? hc))
          obtain ⟨g, rfl⟩ := HSP.out (by omega)
          have HCK := Lib.hid hc
          have HKN : Hid (k < N ∧ N ≤ cap) := Lib.hid ⟨hlt, HCP.out⟩
          have HSN : Hid (wrW y b (l.take (k + 1)) = _) := Lib.hid ((congrArg (wrW y b) (take_one hc)).trans (wrW_snoc y b (l.take k) c))
          have HBk : Hid (Bw (wrW y b (l.take k)).2 (n + 4)) := Lib.hid ((HB.out.wrW b (l := l.take k) (fun c hc => HOKc.out c (List.mem_of_mem_take hc))).up (by have := HLN.out; have := HNN.out; simp; omega))
          obtain ⟨yk, hyk⟩ : ∃ yk, (wrW y b (l.take k)).2 = yk := ⟨_, rfl⟩
          obtain ⟨zk, hzk⟩ : ∃ zk, (wrW y b (l.take k)).1 = zk := ⟨_, rfl⟩
          rw [hyk, hzk] at HSN
          rw [hyk] at HW HBk
          rw [hzk]
          clear hc hyk hzk
          obtain ⟨j, a⟩ := c
          have h0q : (0 : Int) ≤ (j : Int) := by omega
          have hq2 : (j : Int) < 2 := by have := HOK.out.1; omega
          go_upto_region 8 with fail
          refine gS (.take 0 (.take 1 (.take 2 (.take 3 (.take 4 (.take 5 (.take 6 (.take 7 (.take 8 (.take 9 (.take 10 (.take 11 (.take 12 (.take 13 (.take 14 (.take 15 (.step 16 (.take 17 (.nil))))))))))))))))))) (WhF w V p (.slice (some ⟨g, 0, none⟩) N cap) l (.slice none 0 0) []) HW.out.drew.fact ?_
          refine gT (.pointer (some ⟨V.M, 0, none⟩)) ?_; try simp only [pS]
          refine gT (.slice (some ⟨g, 0, none⟩) N cap) ?_; try simp only [pS]
          refine gT (.int .i64 (k : Int)) ?_; try simp only [pS]
          refine wpG_take _ (.pointer (some ⟨g, k * 2, none⟩)) rfl (by rfl) (fun X hX => w_iaC rfl rfl rfl HKN.out) ?_; try simp only [pS]
          refine gT (.pointer (some ⟨g, k * 2, none⟩)) ?_; try simp only [pS]
          refine wpG_take _ (.int .i64 (j : Int)) rfl (by rfl) (fun X hX => ex_ld1 Tryz.underlying3 rfl rfl (OwnC.cells2 hX.ol HCK.out).1) ?_; try simp only [pS]
          refine gT (.pointer (some ⟨V.M, 0, none⟩)) ?_; try simp only [pS]
          refine gT (.pointer (some ⟨V.M, 0, none⟩)) ?_; try simp only [pS]
          refine gT (.pointer (some ⟨V.M, j, none⟩)) ?_; try simp only [pS]
          refine wpG_take _ (.pointer (some ⟨V.D j, 0, none⟩)) rfl (by rfl) (fun X hX => w_ldP Tryz.underlying38 rfl rfl (hX.cd j HOK.out.1)) ?_; try simp only [pS]
          refine gT (.slice (some ⟨g, 0, none⟩) N cap) ?_; try simp only [pS]
          refine gT (.int .i64 (k : Int)) ?_; try simp only [pS]
          refine wpG_take _ (.pointer (some ⟨g, k * 2, none⟩)) rfl (by rfl) (fun X hX => w_iaC rfl rfl rfl HKN.out) ?_; try simp only [pS]
          refine gT (.pointer (some ⟨g, k * 2 + 1, none⟩)) ?_; try simp only [pS]
          refine wpG_take _ (.int .u16 (a : Int)) rfl (by rfl) (fun X hX => ex_ld1 Tryz.underlying52 rfl rfl (OwnC.cells2 hX.ol HCK.out).2) ?_; try simp only [pS]
          refine gT (.string s) ?_; try simp only [pS]
          have hwr := rwrite_any (V.D j) V.q (fun b => labk b = j + 1) (yk.d j) yk.p a b HOK.out.2.2 HBL.out (HBk.out.d j HOK.out.1).al wr.drew (HW.out.drew.m.dk j HOK.out.1) HW.out.drew.m.pw ((HBk.out.d j HOK.out.1).room (by have := HN.out; omega)).small
          rw [HS.out] at hwr
          refine wpG_call _ rfl (by rfl) 51 #[.pointer (some ⟨V.D j, 0, none⟩), .int .u16 (a : Int), .string s] (fun _ => by go_simp) (fun u w' => u = .int .i64 (wrote1 kinR yk b (j, a)).1 ∧ WhT w lab V p (.slice (some ⟨g, 0, none⟩) N cap) l (.slice none 0 0) [] (wrote1 kinR yk b (j, a)).2 w') (hwr.mono fun e w' ⟨e1, e2, e3, e4⟩ => by
            obtain ⟨f1, f2⟩ := HW.out.drew.turn (HW.out.drew.m.stepD HOK.out.1 e2 e3 e4)
            exact ⟨_, e1, f1, rfl, f2⟩) ?_
          rintro u W4 hs4 ⟨rfl, hw4⟩
          refine ⟨_, fun _ h => h, hs4, ?_⟩; try simp only [pS]
          refine gT (.int .i64 (wrote1 kinR yk b (j, a)).1) ?_; try simp only [pS]
          refine wpG_nil ?_
          have HW4 := Lib.hid hw4
          obtain ⟨z, hz⟩ : ∃ z, (wrote1 kinR yk b (j, a)).1 = z := ⟨_, rfl⟩
          obtain ⟨y4, hy4⟩ : ∃ y4, (wrote1 kinR yk b (j, a)).2 = y4 := ⟨_, rfl⟩
          rw [hz, hy4] at HSN
          rw [hy4] at HW4
          rw [hz]
          clear hs4 hw4 hwr hz hy4 HW HBk
          by_cases hz0 : z = 0
          · subst hz0
            rw [if_pos rfl] at HSN
            go_wp2_with fail
            go_roundw
            case rel => exact ⟨k + 1, by omega, by go_num, by rw [HSN.out], by rw [HSN.out]; exact HW4.out⟩
            case measure => simp [intOf]; omega
          · rw [if_neg hz0] at HSN
            have hq : ((z : Int) == 0) = false := by simpa using hz0
            clear hz0
            go_wp2_with fail
            go_roundw
            case rel => exact ⟨k + 1, by omega, by go_num, by rw [HSN.out], by rw [HSN.out]; exact HW4.out⟩
            case measure => simp [intOf]; omega
        · obtain rfl : k = N := by omega
          have HE : Hid (wrW y b (l.take k) = (r1, r2)) := Lib.hid (by rw [List.take_of_length_le (by have := HNN.out; omega)]; exact HPO.out)
          have HF : Hid (WmPost w lab V r2 wr) := Lib.hid (by have := HW.out.fin; rw [HE.out] at this; exact this)
          have e1 : (wrW y b (l.take k)).1 = r1 := by rw [HE.out]
          rw [e1]
          clear e1 HW HE hlt
          go_wp2_with fail
          go_ret
          exact ⟨rfl, HF.out⟩
set_option maxRecDepth 100000 in
set_option maxHeartbeats 8000000 in
theorem wflush_any (w : World) (lab : Nat → Nat) (V : Rl) (y : Wi) (n : Nat) (h : WmAt w lab V y) (hb : Bw y n) (hn : n < 880) :
    Calls Tryz.prog 15 #[.pointer (some ⟨V.M, 0, none⟩)] w fun e w' => e = .returned (.int .i64 (flushR kinR y).1) ∧ WmPost w lab V (flushR kinR y).2 w' := by
  have c0 : w.cell? ⟨V.M, 0, none⟩ = some (.pointer (some ⟨V.D 0, 0, none⟩)) := h.cell.1 0 (by omega)
  have hf0 := rflush_any (V.D 0) V.q (fun b => lab b = 0 + 1) (y.d 0) y.p w (h.dk 0 (by omega)) h.pw ((hb.d 0 (by omega)).room (by omega))
  have HF0 := Lib.hid hf0
  have HM := Lib.hid h; have HB := Lib.hid hb
  obtain ⟨r, hr⟩ : ∃ r, flushR kinR y = r := ⟨_, rfl⟩
  have HR : Hid (r = (if (fl1 kinR y 0).1 = 0 ∨ (fl1 kinR (fl1 kinR y 0).2 1).1 = 0 then 0 else 21, (fl1 kinR (fl1 kinR y 0).2 1).2)) := Lib.hid hr.symm
  obtain ⟨r1, r2⟩ := r
  rw [hr]
  clear hr
  simp only
  have HN := Lib.hid hn
  clear h hb hf0 hn
  go_enter Tryz.func15, Tryz.ntmps15
  go_wp2_with (first | (refine wpL_val rfl (w_ldP Tryz.underlying38 rfl rfl c0) ?_) | fail)
  refine HF0.out.mono ?_
  rintro e W1 ⟨rfl, e2, e3, e4⟩
  obtain ⟨lab1, hm1, hs1⟩ := HM.out.stepD (k := 0) (by omega) e2 e3 e4
  have hm1 : WmAt W1 lab1 V (fl1 kinR y 0).2 := hm1
  have HB1 := Lib.hid (HB.out.fl1 (k := 0) (by omega))
  have hz1 : (rflushed (y.d 0) y.p).1 = (fl1 kinR y 0).1 := rfl
  rw [hz1]
  obtain ⟨z1, hz1⟩ : ∃ z, (fl1 kinR y 0).1 = z := ⟨_, rfl⟩
  obtain ⟨y1, hy1⟩ : ∃ y1, (fl1 kinR y 0).2 = y1 := ⟨_, rfl⟩
  rw [hz1, hy1] at HR
  rw [hy1] at hm1 HB1
  rw [hz1]
  have c1 : W1.cell? ⟨V.M, 1, none⟩ = some (.pointer (some ⟨V.D 1, 0, none⟩)) := hm1.cell.1 1 (by omega)
  have HF1 := Lib.hid (rflush_any (V.D 1) V.q (fun b => lab1 b = 1 + 1) (y1.d 1) y1.p W1 (hm1.dk 1 (by omega)) hm1.pw ((HB1.out.d 1 (by omega)).room (by have := HN.out; omega)))
  have HM1 := Lib.hid hm1; have HS1 := Lib.hid hs1
  clear e2 e3 e4 hm1 hs1 hz1 hy1 c0 HF0
  go_wp2_with (first | (refine wpL_val rfl (w_ldP Tryz.underlying38 rfl rfl c1) ?_) | fail)
  refine HF1.out.mono ?_
  rintro e W2 ⟨rfl, e2, e3, e4⟩
  have hp2 : WmPost w lab V (fl1 kinR y1 1).2 W2 := HS1.out.wpost (HM1.out.stepD (k := 1) (by omega) e2 e3 e4)
  have hz2 : (rflushed (y1.d 1) y1.p).1 = (fl1 kinR y1 1).1 := rfl
  rw [hz2]
  have HP2 := Lib.hid hp2
  obtain ⟨z2, hz2⟩ : ∃ z, (fl1 kinR y1 1).1 = z := ⟨_, rfl⟩
  obtain ⟨y2, hy2⟩ : ∃ y2, (fl1 kinR y1 1).2 = y2 := ⟨_, rfl⟩
  rw [hz2, hy2] at HR
  rw [hy2] at HP2
  rw [hz2]
  have hr1 := (Prod.mk.inj HR.out).1
  obtain rfl := (Prod.mk.inj HR.out).2
  clear e2 e3 e4 hp2 hz2 hy2 c1 HF1 HM1 HS1 HB1 HM HB HR
  by_cases h1 : z1 = 0
  · subst h1
    rw [if_pos (.inl rfl)] at hr1
    subst hr1
    go_wp2_with fail
    go_ret
    exact ⟨rfl, HP2.out⟩
  · have q1 : ((z1 : Int) == 0) = false := by simpa using h1
    by_cases h2 : z2 = 0
    · subst h2
      rw [if_pos (.inr rfl)] at hr1
      subst hr1
      clear h1
      go_wp2_with fail
      go_ret
      exact ⟨rfl, HP2.out⟩
    · have q2 : ((z2 : Int) == 0) = false := by simpa using h2
      rw [if_neg (by rintro (h | h); exact h1 h; exact h2 h)] at hr1
      subst hr1
      clear h1 h2
      go_wp2_with fail
      go_ret
      exact ⟨rfl, HP2.out⟩
end Go.Proofs.YtmgagalhpkieoaaGreatDoor
/- Both mirrors side by side; what befalls the document's disks. -/
namespace Go.Proofs.YtmgagalhpkieoaaGreatDoor
open Go.RowKit

section
variable {w : World} {D q : Nat} {S : Nat → Prop} {t : Rsk}
theorem RkAt.setLose (h : RkAt w D q S t) : RkAt (w.setCell ⟨D, 7, none⟩ (.bool true)) D q S { t with lose := true } := by
  obtain ⟨vm, vc, vb, vs, va, h⟩ := h
  have hc : Chg (fun k => k = D) w (w.setCell ⟨D, 7, none⟩ (.bool true)) := chg1 w D 7 (.bool true)
  exact ⟨vm, vc, vb, vs, va, h.blk.set 7 (.bool true), owns_chg h.om hc (h.om.nd h.blk), owns_chg h.oc hc (h.oc.nd h.blk), owns_chg h.ob hc (h.ob.nd h.blk), owns_chg h.os hc (h.os.nd h.blk), owns_chg h.oa hc (h.oa.nd h.blk), h.sm, h.sc, h.sb, h.ss, h.sa, h.ap, h.sd, h.sq, fun k hk => Nat.lt_of_lt_of_le (h.lt k hk) hc.size, h.nlt⟩
theorem RkAt.setDead (h : RkAt w D q S t) : RkAt (w.setCell ⟨D, 6, none⟩ (.bool true)) D q S { t with dead := true } := by
  obtain ⟨vm, vc, vb, vs, va, h⟩ := h
  have hc : Chg (fun k => k = D) w (w.setCell ⟨D, 6, none⟩ (.bool true)) := chg1 w D 6 (.bool true)
  exact ⟨vm, vc, vb, vs, va, h.blk.set 6 (.bool true), owns_chg h.om hc (h.om.nd h.blk), owns_chg h.oc hc (h.oc.nd h.blk), owns_chg h.ob hc (h.ob.nd h.blk), owns_chg h.os hc (h.os.nd h.blk), owns_chg h.oa hc (h.oa.nd h.blk), h.sm, h.sc, h.sb, h.ss, h.sa, h.ap, h.sd, h.sq, fun k hk => Nat.lt_of_lt_of_le (h.lt k hk) hc.size, h.nlt⟩
theorem RkAt.setAstray (h : RkAt w D q S t) (a : Nat) (hq : q < w.heap.size) : RkAt ((w.alloc (.cells #[.int .u16 (a : Int)] 52)).setCell ⟨D, 8, none⟩ (.slice (some ⟨w.heap.size, 0, none⟩) 1 1)) D q (Ext S w ((w.alloc (.cells #[.int .u16 (a : Int)] 52)).setCell ⟨D, 8, none⟩ (.slice (some ⟨w.heap.size, 0, none⟩) 1 1))) { t with astray := some a } := by
  obtain ⟨vm, vc, vb, vs, va, h⟩ := h
  have hb : Below w.heap.size w (w.alloc (.cells #[.int .u16 (a : Int)] 52)) := (Below.refl _ _).alloc (Nat.le_refl _) _
  have h1 := h.chg (Chg.of_below (F := fun _ => False) hb) (fun _ _ h => h)
  have hc : Chg (fun k => k = D) (w.alloc (.cells #[.int .u16 (a : Int)] 52)) ((w.alloc (.cells #[.int .u16 (a : Int)] 52)).setCell ⟨D, 8, none⟩ (.slice (some ⟨w.heap.size, 0, none⟩) 1 1)) := chg1 _ D 8 _
  have hd : D < w.heap.size := h.blk.lt
  have hown : OwnN (w.alloc (.cells #[.int .u16 (a : Int)] 52)) 0 (.slice (some ⟨w.heap.size, 0, none⟩) 1 1) [a] := ⟨by simp [nrow], .inr ⟨w.heap.size, 1, #[.int .u16 (a : Int)], rfl, Nat.zero_le _, Blk.new w [.int .u16 (a : Int)] 52, Nat.le_refl _, by unfold maxLen; omega, rfl, rfl⟩⟩
  refine ⟨vm, vc, vb, vs, .slice (some ⟨w.heap.size, 0, none⟩) 1 1, h1.blk.set 8 _, owns_chg h1.om hc (h1.om.nd h1.blk), owns_chg h1.oc hc (h1.oc.nd h1.blk), owns_chg h1.ob hc (h1.ob.nd h1.blk), owns_chg h1.os hc (h1.os.nd h1.blk), owns_chg hown hc (fun g hg e => ?_), fun g hg => .inl (h.sm g hg), fun g hg => .inl (h.sc g hg), fun g hg => .inl (h.sb g hg), fun g hg => .inl (h.ss g hg), fun g hg => .inr ?_, h.ap, .inl h.sd, fun hh => ?_, fun k hk => ?_, h.nlt⟩
  · simp [Value.ownBlock] at hg
    omega
  · simp [Value.ownBlock] at hg
    subst hg
    simp
  · rcases hh with hh | hh
    · exact h.sq hh
    · omega
  · rcases hk with hk | hk
    · have := h.lt k hk
      simp
      omega
    · exact hk.2
end
def rfd (y : Wi) (k : Nat) (t : Rsk) : Wi := { y with d := upk y.d k t }
def faultR (y : Wi) (a : Ac) : Wi :=
  if a.act = 3 then rfd y (a.d % 2) (rcrashed (y.d (a.d % 2)) a.z)
  else if a.act = 4 then rfd y (a.d % 2) (rfault (y.d (a.d % 2)) 0 a.addr (d_full a.b)).2
  else if a.act = 5 then rfd y (a.d % 2) (rfault (y.d (a.d % 2)) 1 a.addr []).2
  else if a.act = 6 then rfd y (a.d % 2) (rfault (y.d (a.d % 2)) 2 a.addr []).2
  else if a.act = 7 then rfd y (a.d % 2) { y.d (a.d % 2) with lose := true }
  else if a.act = 8 then rfd y (a.d % 2) { y.d (a.d % 2) with astray := some a.addr }
  else if a.act = 9 then rfd y (a.d % 2) { y.d (a.d % 2) with dead := true }
  else if a.act = 10 then { y with p := y.p.set a.n }
  else if a.act = 11 then { y with p := ⟨true, -1⟩ }
  else y
theorem Bw.fault {y : Wi} {n : Nat} (h : Bw y n) {a : Ac} (ha : a.addr < 65536) : Bw (faultR y a) (n + 1) := by
  have hk : a.d % 2 < 2 := by omega
  have hd := h.d _ hk
  have hu := hd.up (show n ≤ n + 1 by omega)
  have hf : ∀ t, Bd t (n + 1) → Bw (rfd y (a.d % 2) t) (n + 1) := fun t ht => h.disk (p := y.p) (by omega) ht
  unfold faultR
  split
  · exact hf _ (hd.crash _)
  · split
    · exact hf _ (hd.fault 0 _ _ (by omega))
    · split
      · exact hf _ (hd.fault 1 _ _ (by omega))
      · split
        · exact hf _ (hd.fault 2 _ _ (by omega))
        · split
          · exact hf _ ⟨hu.m, hu.bad, hu.stuck, hu.b, hu.c, hu.al⟩
          · split
            · exact hf _ ⟨hu.m, hu.bad, hu.stuck, hu.b, hu.c, fun x hx => by cases hx; exact ha⟩
            · split
              · exact hf _ ⟨hu.m, hu.bad, hu.stuck, hu.b, hu.c, hu.al⟩
              · split
                · exact ⟨(h.up (by omega)).d, (h.up (by omega)).s, (h.up (by omega)).f, (h.up (by omega)).g, (h.up (by omega)).mv⟩
                · split
                  · exact ⟨(h.up (by omega)).d, (h.up (by omega)).s, (h.up (by omega)).f, (h.up (by omega)).g, (h.up (by omega)).mv⟩
                  · exact h.up (by omega)
theorem MSim.fault {x : Mi Dsk Sp} {y : Wi} (h : MSim Sim SpT x y) (a : Ac) : MSim Sim SpT (faultS x a) (faultR y a) := by
  have hk : a.d % 2 < 2 := by omega
  have hd := h.d _ hk
  have hf : ∀ s t, Sim s t → MSim Sim SpT (fD x (a.d % 2) s) (rfd y (a.d % 2) t) := fun s t hs => h.upd hs h.p
  have hl : (d_full a.b).length = 512 := full_length _
  unfold faultS faultR
  split
  · exact hf _ _ (hd.crash _)
  · split
    · have := (hd.rot a.addr (d_full a.b)).2
      rw [hl] at this
      exact hf _ _ this
    · split
      · exact hf _ _ (hd.bads a.addr []).2
      · split
        · exact hf _ _ (hd.sticks a.addr []).2
        · split
          · exact hf _ _ ⟨hd.n, hd.b, hd.bad, hd.stuck, hd.cache, hd.dead, rfl, hd.astray⟩
          · split
            · exact hf _ _ ⟨hd.n, hd.b, hd.bad, hd.stuck, hd.cache, hd.dead, hd.lose, rfl⟩
            · split
              · exact hf _ _ ⟨hd.n, hd.b, hd.bad, hd.stuck, hd.cache, rfl, hd.lose, hd.astray⟩
              · split
                · exact ⟨h.d, by show x.p.set a.n = y.p.set a.n; rw [h.p], h.s, h.f, h.g, h.mv⟩
                · split
                  · exact ⟨h.d, rfl, h.s, h.f, h.g, h.mv⟩
                  · exact h
section
variable {W W' : World} {lab : Nat → Nat} {V : Rl} {y : Wi} {n k : Nat}
theorem WmAt.qlt (h : WmAt W lab V y) : V.q < W.heap.size := h.lt _ (by rw [h.lq]; omega)
theorem WmAt.qn (h : WmAt W lab V y) (hk : k < 2) : ¬ V.q = V.D k := fun e => by
  have h1 : lab (V.D k) = k + 1 := (h.dk k hk).sd
  rw [← e, h.lq] at h1
  omega
theorem WmAt.turnD (h : WmAt W lab V y) (hk : k < 2) {t : Rsk} (hd : RkAt W' (V.D k) V.q (Ext (fun b => lab b = k + 1) W W') t) (hc : Chg (fun b => b = V.D k) W W') : WmPost W lab V (rfd y k t) W' :=
  h.stepD hk hd (h.pw.chg hc (h.qn hk)) (hc.mono (fun b hb => .inl (by rw [hb]; exact (h.dk k hk).sd)))
theorem wflt_crash (h : WmAt W lab V y) (hb : Bw y n) (hn : n < 900) (hk : k < 2) {zs : List Int} {sp : Option Addr} {cap : Nat} (hz : SrcI W sp zs) (hc : zs.length ≤ cap) (hm : cap ≤ maxLen) (hs : 0 < zs.length → ∀ a, sp = some a → lab a.block = 0) :
    Calls Tryz.prog 53 #[.pointer (some ⟨V.D k, 0, none⟩), .slice sp zs.length cap] W fun e w' => e = .returned (.tuple #[]) ∧ WmPost W lab V (rfd y k (rcrashed (y.d k) zs)) w' :=
  (rcrash_any (V.D k) V.q _ (y.d k) zs sp cap W (h.dk k hk) h.qlt ((hb.d k hk).room (by omega)) hz hc hm (fun h0 a ha e => by have := hs h0 a ha; omega)).mono fun e w' ⟨h1, h2, h3⟩ => ⟨h1, h.turnD hk h2 h3⟩
theorem wflt_fault (h : WmAt W lab V y) (hb : Bw y n) (hn : n < 900) (hk : k < 2) {j a : Nat} (hj : j ≤ 2) (ha : a < 65536) (b : d_Bs) :
    Calls Tryz.prog 54 #[.pointer (some ⟨V.D k, 0, none⟩), .int .i64 (j : Int), .int .u16 (a : Int), .string (bstr b)] W fun e w' => (∃ z : Int, e = .returned (.int .i64 z)) ∧ WmPost W lab V (rfd y k (rfault (y.d k) j a b).2) w' :=
  (rfault_any (V.D k) V.q _ (y.d k) j a b ha hj W (h.dk k hk) h.qlt ((hb.d k hk).room (by omega)).small).mono fun e w' ⟨h1, h2, h3⟩ => ⟨⟨_, h1⟩, h.turnD hk h2 h3⟩
theorem WmAt.lose (h : WmAt W lab V y) (hk : k < 2) : WmPost W lab V (rfd y k { y.d k with lose := true }) (W.setCell ⟨V.D k, 7, none⟩ (.bool true)) := h.turnD hk ((h.dk k hk).setLose.ext h.qlt) (chg1 _ _ _ _)
theorem WmAt.die (h : WmAt W lab V y) (hk : k < 2) : WmPost W lab V (rfd y k { y.d k with dead := true }) (W.setCell ⟨V.D k, 6, none⟩ (.bool true)) := h.turnD hk ((h.dk k hk).setDead.ext h.qlt) (chg1 _ _ _ _)
theorem WmAt.astray (h : WmAt W lab V y) (hk : k < 2) (a : Nat) : WmPost W lab V (rfd y k { y.d k with astray := some a }) ((W.alloc (.cells #[.int .u16 (a : Int)] 52)).setCell ⟨V.D k, 8, none⟩ (.slice (some ⟨W.heap.size, 0, none⟩) 1 1)) :=
  h.turnD hk ((h.dk k hk).setAstray a h.qlt) (((Chg.refl _ W).alloc _).trans' (chg1 _ _ _ _))
theorem WmAt.dcell (h : WmAt W lab V y) (hk : k < 2) {j : Nat} (hj : j = 6 ∨ j = 7 ∨ j = 8) : (∃ u, W.cell? ⟨V.D k, j, none⟩ = some u) ∧ W.frozen? ⟨V.D k, j, none⟩ = false := by
  obtain ⟨vm, vc, vb, vs, va, hi⟩ := h.dk k hk
  have := hi.c
  refine ⟨?_, hi.blk.free j⟩
  rcases hj with rfl | rfl | rfl
  · exact ⟨_, this.2.2.2.2.2.2.1⟩
  · exact ⟨_, this.2.2.2.2.2.2.2.1⟩
  · exact ⟨_, this.2.2.2.2.2.2.2.2⟩
theorem WmAt.fuse (h : WmAt W lab V y) (hon : y.p.on = true) {z : Int} (hz : z ≤ 9223372036854775807) : WmPost W lab V { y with p := y.p.set z } (W.setCell ⟨V.q, 1, none⟩ (.int .i64 (max z (-1)))) := by
  have hp := h.pw
  refine h.power (p' := y.p.set z) ⟨?_, ?_, ?_⟩ (chg1 _ _ _ _)
  · have := hp.blk.set 1 (.int .i64 (max z (-1)))
    unfold Pw.set
    rw [if_pos hon]
    rw [hon] at this
    exact this
  · unfold Pw.set
    rw [if_pos hon]
    simp only
    omega
  · unfold Pw.set
    rw [if_pos hon]
    simp only
    omega
theorem Pw.set_off {p : Pw} (h : p.on = false) (z : Int) : p.set z = p := by
  unfold Pw.set
  rw [if_neg (by rw [h]; decide)]
end
structure Bo (w0 W : World) (lp lw : Nat → Nat) (Xp : Nat) (P : Pl) (x : Mi Dsk Sp) (V : Rl) (y : Wi) : Prop where
  s : PrS w0 W lp Xp P x
  m : WmAt W lw V y
  ap : ∀ b, lw b ≠ 0 → lp b = 0
  ax : lw Xp = 0
  own : ∀ b, lw b ≠ 0 → w0.heap.size ≤ b
structure St2 (w : World) (lp lw : Nat → Nat) (w' : World) (lp' lw' : Nat → Nat) : Prop where
  chg : Chg (fun b => Foot8 lp b ∨ lw b ≠ 0) w w'
  ep : ∀ b, b < w.heap.size → lp' b = lp b ∨ lp' b = 0
  ew : ∀ b, b < w.heap.size → lw' b = lw b ∨ lw' b = 0
theorem St2.refl (w : World) (lp lw : Nat → Nat) : St2 w lp lw w lp lw := ⟨Chg.refl _ _, fun _ _ => .inl rfl, fun _ _ => .inl rfl⟩
theorem St2.below {w w' : World} {lp lw : Nat → Nat} (h : Below w.heap.size w w') : St2 w lp lw w' lp lw := ⟨Chg.of_below h, fun _ _ => .inl rfl, fun _ _ => .inl rfl⟩
theorem St2.trans {w w1 w2 : World} {a a1 a2 b b1 b2 : Nat → Nat} (h : St2 w a b w1 a1 b1) (k : St2 w1 a1 b1 w2 a2 b2) : St2 w a b w2 a2 b2 :=
  ⟨h.chg.trans k.chg (fun i hi => by
    by_cases hs : i < w.heap.size
    · left
      unfold Foot8 at *
      rcases hi with hi | hi
      · rcases h.ep i hs with e | e
        · left; rw [← e]; exact hi
        · exact absurd e hi.1
      · rcases h.ew i hs with e | e
        · right; rw [← e]; exact hi
        · exact absurd e hi
    · right; omega), fun i hi => by
    rcases k.ep i (Nat.lt_of_lt_of_le hi h.chg.size) with e | e
    · rw [e]; exact h.ep i hi
    · exact .inr e, fun i hi => by
    rcases k.ew i (Nat.lt_of_lt_of_le hi h.chg.size) with e | e
    · rw [e]; exact h.ew i hi
    · exact .inr e⟩
theorem St2.blk {w w' : World} {a b a' b' : Nat → Nat} (h : St2 w a b w' a' b') {g : Nat} {cs : List Value} {t : TypeId} (hb : Blk w g cs t) (h1 : a g = 0) (h2 : b g = 0) : Blk w' g cs t := hb.chg h.chg (fun hf => by
  rcases hf with hf | hf
  · exact hf.1 h1
  · exact hf h2)
theorem St2.lab0 {w w' : World} {a b a' b' : Nat → Nat} (h : St2 w a b w' a' b') {g : Nat} (hs : g < w.heap.size) (h1 : a g = 0) (h2 : b g = 0) : a' g = 0 ∧ b' g = 0 := by
  refine ⟨?_, ?_⟩
  · rcases h.ep g hs with e | e
    · rw [e]; exact h1
    · exact e
  · rcases h.ew g hs with e | e
    · rw [e]; exact h2
    · exact e
def BoPost (w0 w : World) (lp lw : Nat → Nat) (Xp : Nat) (P : Pl) (x : Mi Dsk Sp) (V : Rl) (y : Wi) (w' : World) : Prop := ∃ lp' lw', Bo w0 w' lp' lw' Xp P x V y ∧ St2 w lp lw w' lp' lw'
section
variable {w0 W W' : World} {lp lw : Nat → Nat} {Xp : Nat} {P : Pl} {x x' : Mi Dsk Sp} {V : Rl} {y y' : Wi}
theorem Bo.prog (h : Bo w0 W lp lw Xp P x V y) (hp : MiPost W lp P x' W') : BoPost w0 W lp lw Xp P x' V y W' := by
  obtain ⟨l', h1, h2⟩ := hp
  refine ⟨l', lw, ⟨h.s.stp h1 h2, h.m.out h2.chg (fun b hb => ?_), fun b hb => h2.lab0 (h.m.lt b hb) (h.ap b hb), h.ax, h.own⟩, h2.chg.mono (fun _ hb => .inl hb), h2.eq, fun _ _ => .inl rfl⟩
  by_cases e : lw b = 0
  · exact e
  · exact absurd (h.ap b e) hb.1
theorem Bo.doc (h : Bo w0 W lp lw Xp P x V y) (hp : WmPost W lw V y' W') : BoPost w0 W lp lw Xp P x V y' W' := by
  obtain ⟨l', h1, h2⟩ := hp
  have hc : Chg (fun b => lw b ≠ 0) W W' := h2.chg.mono (fun _ hb => hb.1)
  have hw := h.s.bel.size
  refine ⟨lp, l', ⟨⟨h.s.mi.out hc (fun b hb => h.ap b hb), h.s.pr.chg hc (fun e => e h.ax), h.s.lx, h.s.xw, h.s.own, h.s.bel.trans (hc.below (fun k hk => h.own k hk) hw)⟩, h1, fun b hb => ?_, h2.lab0 h.s.pr.lt h.ax, fun b hb => ?_⟩, hc.mono (fun _ hb => .inr hb), fun _ _ => .inl rfl, h2.eq⟩
  · by_cases hs : b < W.heap.size
    · rcases h2.eq b hs with e | e
      · rw [e] at hb; exact h.ap b hb
      · exact absurd e hb
    · exact h.s.new (by omega)
  · by_cases hs : b < W.heap.size
    · rcases h2.eq b hs with e | e
      · rw [e] at hb; exact h.own b hb
      · exact absurd e hb
    · omega
theorem Bo.below (h : Bo w0 W lp lw Xp P x V y) (hb : Below W.heap.size W W') : Bo w0 W' lp lw Xp P x V y := ⟨h.s.below hb, h.m.below hb, h.ap, h.ax, h.own⟩
theorem Bo.new (h : Bo w0 W lp lw Xp P x V y) {g : Nat} (hg : W.heap.size ≤ g) : lp g = 0 ∧ lw g = 0 := ⟨h.s.new hg, h.m.new hg⟩
end
end Go.Proofs.YtmgagalhpkieoaaGreatDoor
