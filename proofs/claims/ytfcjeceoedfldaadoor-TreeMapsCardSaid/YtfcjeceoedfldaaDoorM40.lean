/- TreeMaps: the law's walk. -/
import Derived.Test.YtfcjeceoedfldaaDoorM38
import Derived.Test.YtfcjeceoedfldaaDoorM39
namespace Go.Proofs.YtfcjeceoedfldaaDoor
open Go.RowKit

attribute [local go_sem] Oper.semAt_some

theorem fr_add {w X Y : World} {D : Nat} {s : Sh} {b bs : Bxs} (h : Fr w D s bs X) (hb : Below X.heap.size X Y) (hn : ∀ y ∈ b, Blk Y y.1 y.2.1 y.2.2 ∧ X.heap.size ≤ y.1) : Fr w D s (b ++ bs) Y :=
  h.turn (F := fun _ => False) (Chg.of_below hb) (fun g hf => hf.elim) (fun y hy => by
    rcases List.mem_append.1 hy with hy | hy
    · exact ⟨(hn y hy).1, .inl (hn y hy).2⟩
    · exact ⟨(h.bx y hy).below hb (h.bx y hy).lt, .inr ⟨y, hy, rfl⟩⟩)
theorem ex_iaPu {ρ : Operand → Value} {o : Oper} {x y : Operand} {g n cap k : Nat} {w : World} (ho : o.op = .indexAddr 28 x y) (hx : ρ x = .slice (some ⟨g, 0, none⟩) n cap) (hy : ρ y = .int .u32 (k : Int)) (hk : k < n ∧ n ≤ cap) :
    (execOp ρ o).run Tryd.prog w = .ok (.value (.pointer (some ⟨g, k * 41, none⟩))) w := by
  have h1 : ¬ n ≤ k := by omega
  unfold execOp
  simp only [ho]
  go_simp
theorem RowB.big {e : TypeId} {size : Nat} {b : Bxs} {v : Value} {n : Nat} {xs : List Value} (h : RowB e size b v n xs) (h0 : 0 < n) : ∃ g cap cs, v = .slice (some ⟨g, 0, none⟩) n cap ∧ b = [(g, cs, e)] ∧ n ≤ cap := by
  rcases h.2 with ⟨_, h3, _⟩ | ⟨g, cap, cs, e1, e2, hc, _⟩
  · omega
  · exact ⟨g, cap, cs, e1, e2, hc⟩
theorem ex_mk64h {h0 : List Pt} (hh : h0 = List.replicate 64 zeroP) {ρ : Operand → Value} {o : Oper} {w : World} (ho : o.op = .makeSlice 28 (.const (.int .i64 64)) (.const (.int .i64 64))) (hx : ρ (.const (.int .i64 64)) = .int .i64 64) : (execOp ρ o).run Tryd.prog w = .ok (.value (.slice (some ⟨w.heap.size, 0, none⟩) 64 64)) (w.alloc (.cells (prows h0).toArray 37)) := by
  subst hh
  exact ex_mk64 ho hx
theorem ap_new {w : World} {gR gX g13 : Nat} {c0 c1 cs c13 : List Value} {rb mb nb nb2 K lb BS : Bxs} (hBS : (gR, c0, 37) :: (rb ++ (mb ++ (nb ++ K))) = BS)
    (aR : Apart w rb ((gR, c0, 37) :: (mb ++ (nb ++ K)))) (aM : Apart w mb ((gR, c0, 37) :: (rb ++ (nb ++ K)))) (aG : Apart w [(gR, c0, 37)] (rb ++ (mb ++ (nb ++ K))))
    (hX : w.heap.size ≤ gX ∧ ∀ z ∈ lb ++ BS, z.1 ≠ gX) (hN : ∀ y ∈ nb2, ∀ z ∈ (g13, c13, 37) :: (gX, cs, 37) :: (lb ++ BS), y.1 ≠ z.1) :
    Apart w rb ((gR, c1, 37) :: (mb ++ (nb2 ++ ((gX, cs, 37) :: K)))) ∧ Apart w mb ((gR, c1, 37) :: (rb ++ (nb2 ++ ((gX, cs, 37) :: K)))) ∧ Apart w [(gR, c1, 37)] (rb ++ (mb ++ (nb2 ++ ((gX, cs, 37) :: K)))) := by
  have hm : ∀ z : Nat × List Value × TypeId, z ∈ (gR, c0, 37) :: (rb ++ (mb ++ (nb ++ K))) → z ∈ BS := fun z hz => by rw [← hBS]; exact hz
  have one : ∀ (y z : Nat × List Value × TypeId), y ∈ BS → z ∈ nb2 ++ ((gX, cs, 37) :: K) → (z ∈ K → z.1 ≠ y.1) → z.1 ≠ y.1 := fun y z hy hz hk => by
    rcases List.mem_append.1 hz with h | h
    · exact hN z h y (by simp [hy])
    · rcases List.mem_cons.1 h with h | h
      · subst h
        exact fun e => hX.2 y (by simp [hy]) e.symm
      · exact hk h
  refine ⟨fun y hy => ⟨(aR y hy).1, fun z hz => ?_⟩, fun y hy => ⟨(aM y hy).1, fun z hz => ?_⟩, fun y hy => ⟨by simp only [List.mem_singleton] at hy; rw [hy]; exact (aG (gR, c0, 37) (by simp)).1, fun z hz => ?_⟩⟩
  · have hyB := hm y (by simp [hy])
    rcases List.mem_cons.1 hz with h | h
    · subst h; exact (aR y hy).2 (gR, c0, 37) (by simp)
    · rcases List.mem_append.1 h with h | h
      · exact (aR y hy).2 z (by simp [h])
      · exact one y z hyB h (fun hk => (aR y hy).2 z (by simp [hk]))
  · have hyB := hm y (by simp [hy])
    rcases List.mem_cons.1 hz with h | h
    · subst h; exact (aM y hy).2 (gR, c0, 37) (by simp)
    · rcases List.mem_append.1 h with h | h
      · exact (aM y hy).2 z (by simp [h])
      · exact one y z hyB h (fun hk => (aM y hy).2 z (by simp [hk]))
  · have hyB := hm (gR, c0, 37) (by simp)
    simp only [List.mem_singleton] at hy
    subst hy
    have a := (aG (gR, c0, 37) (by simp)).2
    rcases List.mem_append.1 hz with h | h
    · exact a z (by simp [h])
    · rcases List.mem_append.1 h with h | h
      · exact a z (by simp [h])
      · exact one (gR, c0, 37) z hyB h (fun hk => a z (by simp [hk]))
theorem ex_appS {ρ : Operand → Value} {o : Oper} {x y : Operand} {v u v' : Value} {w w' : World} (ho : o.op = .call { callee := .builtin .append, args := #[x, y], argTypes := #[38, 38] }) (hx : ρ x = v) (hy : ρ y = u)
    (hr : (Builtin.append_ #[38, 38] o.type #[v, u]).run Tryd.prog w = .ok v' w') : (execOp ρ o).run Tryd.prog w = .ok (.value v') w' := by
  unfold execOp
  simp only [ho, resolve, invoke, builtin, Sem.run_bind, Sem.run_pure, Result.andThen_ok, List.map_toArray, List.map_cons, List.map_nil, hx, hy, hr]
theorem ex_ldSl {ρ : Operand → Value} {o : Oper} {x : Operand} {ad : Addr} {v : Value} {w : World} (ho : o.op = .load 28 x) (hx : ρ x = .pointer (some ad)) (hc : w.cell? ad = some v) : (execOp ρ o).run Tryd.prog w = .ok (.value v) w := by
  unfold execOp; simp only [ho]; go_simp
theorem ex_iaSS {ρ : Operand → Value} {o : Oper} {x y : Operand} {g n cap k : Nat} {w : World} (ho : o.op = .indexAddr 38 x y) (hx : ρ x = .slice (some ⟨g, 0, none⟩) n cap) (hy : ρ y = .int .i64 (k : Int)) (hk : k < n ∧ n ≤ cap) :
    (execOp ρ o).run Tryd.prog w = .ok (.value (.pointer (some ⟨g, k, none⟩))) w := by
  have h1 : ¬ n ≤ k := by omega
  unfold execOp
  simp only [ho]
  go_simp
/-- A row of slices, by its cells. -/
theorem RowB.cellS {w X : World} {D : Nat} {s : Sh} {bs b : Bxs} {g c n : Nat} {xs : List Value} (h : RowB 28 1 b (.slice (some ⟨g, 0, none⟩) n c) n xs) (hF : Fr w D s bs X) (hs : ∀ y ∈ b, y ∈ bs) {k : Nat} {v : Value} (hk : xs[k]? = some v) : n ≤ c ∧ X.cell? ⟨g, k, none⟩ = some v := by
  rcases h.2 with ⟨e, h3, _⟩ | ⟨g', cap', cs', e, e2, hc, _, _, ht⟩
  · cases e
  · injection e with e3 _ e4
    injection e3 with e5
    injection e5 with e6
    subst e6 e4
    have hB := hF.at (g := g) (cs := cs') (t := 28) (hs _ (by rw [e2]; simp))
    refine ⟨hc, hB.cell ?_⟩
    rw [← ht, List.getElem?_take] at hk
    split at hk
    · exact hk
    · cases hk
set_option maxRecDepth 100000 in
set_option maxHeartbeats 32000000 in
theorem treeMaps_go (l : List AcT) (sp : Option Addr) (cap : Nat) (hc : l.length ≤ cap) (w : World) (hA : ActsT w sp l) (hT : RTab w) : Calls Tryd.prog 3 #[.slice sp l.length cap] w fun e w' => e = .returned (.bool true) ∧ Below w.heap.size w w' := by
  have HA := Lib.hid hA; have HT := Lib.hid hT; have HC := Lib.hid hc
  have hgr := great_go l sp cap hc w hA
  obtain ⟨N, hN⟩ : ∃ N, l.length = N := ⟨_, rfl⟩
  rw [hN] at hgr ⊢
  have HN := Lib.hid hN; have HGR := Lib.hid hgr
  generalize hPost : (fun e w' => e = Ending.returned (.bool true) ∧ Below w.heap.size w w') = Post
  have HP : Hid (∀ w', Below w.heap.size w w' → Post (.returned (.bool true)) w') := Lib.hid fun w' h => by rw [← hPost]; exact ⟨rfl, h⟩
  have HSZ := Lib.hid (size_pc zeroP_ok)
  have HLZ : Hid ((pcells zeroP).toArray.size = 41) := Lib.hid (by rw [List.size_toArray, pcells_length zeroP_ok])
  clear hA hT hc hgr hN hPost
  go_enter Tryd.func3, Tryd.ntmps3
  go_wp2_with fail
  refine HGR.out.mono ?_
  rintro e W1 ⟨rfl, hb1⟩
  have HB1 := Lib.hid hb1
  have HT1 := Lib.hid (HT.out.grown hb1)
  obtain ⟨gb, hgb⟩ : ∃ b, greatB l = b := ⟨_, rfl⟩
  rw [hgb]
  cases gb
  case true =>
    go_wp2_with fail
    refine (twakes_any _ HT1.out).mono ?_
    rintro e W2 ⟨rfl, hb2⟩
    have HE := Lib.hid (HP.out _ (hb1.trans (hb2.mono hb1.size)))
    go_wp2_with fail
    first | exact HE.out | (go_ret; exact HE.out)
  case false =>
  have HS : Hid (N ≤ 60 ∧ ∀ a ∈ l, a.b.length ≤ 64) := Lib.hid (by
    unfold greatB at hgb
    rw [Bool.or_eq_false_iff] at hgb
    have h1 := hgb.1
    have h2 := hgb.2
    rw [HN.out] at h1
    refine ⟨by simpa using h1, fun a ha => ?_⟩
    have := List.any_eq_false.1 h2 a ha
    simpa using this)
  have HA1 := Lib.hid (HA.out.grown hb1)
  have HFN := Lib.hid (fr_new W1 HT1.out)
  clear hgb hb1
  go_upto_region 4 with fail
  refine (fun (k : ∀ W, Fr W1 W1.heap.size sh0 [] W → Code.wp _ _ _ _ W) => k _ HFN.out) ?_
  intro W2 hW2
  obtain ⟨D, hD⟩ : ∃ d, W1.heap.size = d := ⟨_, rfl⟩
  rw [hD] at hW2 ⊢
  have HF2 := Lib.hid hW2
  have HD := Lib.hid hD
  clear hW2 hD HFN
  go_upto_region 5 with (first | (refine wpL_val rfl (ex_bld0 rfl) ?_) | (refine wpList_store_row rfl 37 (.tmp 4) (.tmp 25) rfl W2.heap.size (pcells zeroP).toArray rfl rfl 37 _ (heap_alloc_new W2 _) HSZ.out (by rw [HLZ.out]; rfl) (one_pc zeroP) ?_) | fail)
  refine (fun (k : ∀ W, Fr W1 D sh0 [(W2.heap.size, pcells zeroP, 37)] W → Code.wp _ _ _ _ W) => k _ (HF2.out.add (blk_row1 W2 _ (pcells zeroP) 37).2 (Nat.le_refl _) (blk_row1 W2 _ (pcells zeroP) 37).1)) ?_
  intro W3 hW3
  obtain ⟨gR, hgR⟩ : ∃ g, W2.heap.size = g := ⟨_, rfl⟩
  rw [hgR] at hW3 ⊢
  have q1 : W1.heap.size ≤ gR := by rw [← hgR]; exact HF2.out.bel.size
  have q2 : gR < W3.heap.size := (hW3.at (g := gR) (cs := pcells zeroP) (t := 37) (by simp)).lt
  have HF3 := Lib.hid hW3
  obtain ⟨h0, hh0⟩ : ∃ h, h = List.replicate 64 zeroP := ⟨_, rfl⟩
  have HH0 := Lib.hid hh0
  have hadd := hW3.add (g := W3.heap.size) (cs := prows h0) (t := 37) ((Below.refl _ _).alloc (Nat.le_refl _) (.cells (prows h0).toArray 37)) (Nat.le_refl _) (Blk.new W3 (prows h0) 37)
  have HF4 := Lib.hid hadd
  clear hW3 hgR HF2 hadd hh0
  go_upto_region 6 with (first | (refine wpL_val rfl (ex_mk64h HH0.out rfl rfl) ?_) | fail)
  refine (fun (k : ∀ W, Fr W1 D sh0 [(W3.heap.size, prows h0, 37), (gR, pcells zeroP, 37)] W → Code.wp _ _ _ _ W) => k _ HF4.out) ?_
  intro W4 hW4
  obtain ⟨gH, hgH⟩ : ∃ g, W3.heap.size = g := ⟨_, rfl⟩
  rw [hgH] at hW4 q2 ⊢
  have q3 : gH < W4.heap.size := (hW4.at (g := gH) (cs := prows h0) (t := 37) (by simp)).lt
  have HB4 := Lib.hid (hW4.at (g := gR) (cs := pcells zeroP) (t := 37) (by simp))
  have HF5 := Lib.hid (hW4.add (g := W4.heap.size) (cs := pcells zeroP) (t := 37) ((Below.refl _ _).alloc (Nat.le_refl _) (.cells (pcells zeroP).toArray 37)) (Nat.le_refl _) (Blk.new W4 (pcells zeroP) 37))
  clear hW4 hgH HF3 HF4
  go_upto_region 7 with (first | (refine wpL_val rfl (ex_ldP zeroP_ok HB4.out rfl rfl) ?_) | (refine wpL_val rfl (q_one zeroP rfl rfl zeroP_ok) ?_) | fail)
  refine (fun (k : ∀ W, Fr W1 D sh0 [(W4.heap.size, pcells zeroP, 37), (gH, prows h0, 37), (gR, pcells zeroP, 37)] W → Code.wp _ _ _ _ W) => k _ HF5.out) ?_
  intro W5 hW5
  obtain ⟨gr, hgr⟩ : ∃ g, W4.heap.size = g := ⟨_, rfl⟩
  rw [hgr] at hW5 q3 ⊢
  have q4 : gr < W5.heap.size := (hW5.at (g := gr) (cs := pcells zeroP) (t := 37) (by simp)).lt
  have HF6 := Lib.hid (hW5.add (g := W5.heap.size) (cs := [.slice (some ⟨gH, 0, none⟩) 64 64]) (t := 28) ((Below.refl _ _).alloc (Nat.le_refl _) (.cells [Value.slice (some ⟨gH, 0, none⟩) 64 64].toArray 28)) (Nat.le_refl _) (Blk.new W5 [.slice (some ⟨gH, 0, none⟩) 64 64] 28))
  clear hW5 hgr HF5 HB4
  go_upto_region 8 with (first | (refine wpL_val rfl (ex_oneS rfl rfl) ?_) | fail)
  refine (fun (k : ∀ W, Fr W1 D sh0 [(W5.heap.size, [.slice (some ⟨gH, 0, none⟩) 64 64], 28), (gr, pcells zeroP, 37), (gH, prows h0, 37), (gR, pcells zeroP, 37)] W → Code.wp _ _ _ _ W) => k _ HF6.out) ?_
  intro W6 hW6
  obtain ⟨gm, hgm⟩ : ∃ g, W5.heap.size = g := ⟨_, rfl⟩
  rw [hgm] at hW6 q4 ⊢
  have HST := Lib.hid (tm_start HH0.out hW6 ⟨q1, by omega, by omega⟩ ⟨by omega, by omega, by omega, by omega, by omega, by omega⟩)
  clear hW6 hgm HF6 q2 q3 q4
  go_wp2_with fail
  go_loopw [5, 6, 7, 8, 9] (fun hv rv mv nv i wr => ∃ (k : Nat) (s : Sh) (hist : List Rc) (r : Rc) (rb mb nb K : Bxs), k ≤ N ∧ i = .int .i64 (k : Int) ∧ hv = r.v ∧ TmS W1 D gR s k hist r rv mv nv rb mb nb K wr) (fun _ _ _ _ i _ => N - (intOf i).toNat)
  case atStart => exact ⟨0, sh0, [], _, _, _, _, _, by omega, rfl, rfl, HST.out⟩
  case round =>
    clear HST
    obtain ⟨k, s, hist, r, rb, mb, nb, K, hk, rfl, rfl, hst⟩ := hrel
    have HST := Lib.hid hst
    obtain ⟨spr, capr, rfl⟩ := hst.roots.form
    obtain ⟨spm, capm, rfl⟩ := hst.maps.form
    obtain ⟨spn, capn, rfl⟩ := hst.nods.form
    clear hst
    have wk1 := IntWalk.i64_in ((k : Int) + 1) (by have := HS.out.1; omega)
    by_cases hlt : k < N
    · obtain ⟨root, h, mids, v⟩ := r
      have hrc := HST.out.rcs ⟨root, h, mids, v⟩ (by simp)
      obtain ⟨gH, cH, hv, hcH⟩ := hrc.2.2.form
      simp only at hv
      subst hv
      have HIT : Hid (IsT s.blocks root h mids) := Lib.hid hrc.1
      have HRO : Hid root.OK := Lib.hid hrc.2.1
      have HMB : Hid (MapB K (.slice (some ⟨gH, 0, none⟩) 64 cH) h) := Lib.hid hrc.2.2
      have HFI : Hid (∀ p ∈ h, p.OK ∧ fineP p = true) := Lib.hid HST.out.fine
      have HLI : Hid (LInv h) := Lib.hid HST.out.inv
      have HCH : Hid (64 ≤ cH) := Lib.hid hcH
      obtain ⟨a, ha⟩ : ∃ a, l[k]? = some a := ⟨_, List.getElem?_eq_getElem (by have := HN.out; omega)⟩
      obtain ⟨ga, oa, rfl, hga, hacts⟩ := HA1.out.2 (by have := HN.out; omega)
      have HAO : Hid (AcOKT W1 a) := Lib.hid (HA1.out.1 a (List.mem_of_getElem? ha))
      have HAL : Hid (a.b.length ≤ 64) := Lib.hid (HS.out.2 a (List.mem_of_getElem? ha))
      have HKC : Hid (k < N ∧ N ≤ cap) := Lib.hid ⟨hlt, by have := HC.out; rw [HN.out] at this; exact this⟩
      have HRA : Hid (∀ X, Below W1.heap.size W1 X → X.rangeAt ga (oa + k * 3) (tacells a)) := Lib.hid fun X hX => rng_below (hacts k a ha) hX hga
      have HF := Lib.hid HST.out.fr
      obtain ⟨BS, hBS⟩ : ∃ b, (gR, pcells root, 37) :: (rb ++ (mb ++ (nb ++ K))) = b := ⟨_, rfl⟩
      simp only at HF
      rw [hBS] at HF
      have HBS := Lib.hid hBS
      clear hrc hcH ha hga hacts hBS
      obtain ⟨vS, hbS, -⟩ := HF.out.cells
      have c2 := hbS.cell (j := 2) rfl
      have f2 := hbS.free 2
      have c3 := (hbS.set 2 (.slice none 0 0)).cell (j := 3) rfl
      have f3 := (hbS.set 2 (.slice none 0 0)).free 3
      have HCL := Lib.hid (fr_clear HF.out)
      clear hbS
      go_upto_region 13 with fail
      refine (fun (k' : ∀ W, Fr W1 D { s with made := [], gone := [] } BS W → Code.wp _ _ _ _ W) => k' _ HCL.out) ?_
      intro X2 hX2
      have HF2 := Lib.hid hX2
      have HM2 : Hid (SrcM X2 (.slice (some ⟨gH, 0, none⟩) 64 cH) h) := Lib.hid (HMB.out.src hX2 (fun y hy => by rw [← HBS.out]; simp [hy]) (fun p hp => (HFI.out p hp).1))
      clear c2 f2 c3 f3 HCL HF hX2
      go_wp2_with (first | (refine wpL_val rfl (ex_iaAc rfl rfl rfl HKC.out) ?_) | (refine wpL_val rfl (ex_ldAc (HRA.out _ HF2.out.bel) rfl rfl) ?_) | fail)
      refine (leaves_go a.b a.sp a.b.length a.cap ⟨rfl, HAO.out.2⟩ (by have := HAL.out; omega) a.H a.sm k (by have := HS.out.1; omega) h HMB.out.1 (fun p hp => (HFI.out p hp).1) gH cH HCH.out X2 (srcA_grown HAO.out.1 HF2.out.bel) HM2.out).mono ?_
      rintro e X3 ⟨ov, ls, rfl, hb3, ho3, hll⟩
      obtain ⟨lb, hlb1, hlb2⟩ := RowB.of ho3
      have HLL := Lib.hid hll
      have HLB := Lib.hid hlb1
      have HLF : Hid (∀ y ∈ lb, X2.heap.size ≤ y.1) := Lib.hid fun y hy => (ho3.lt _ (hlb2 y hy).2).1
      have HF3 := Lib.hid (fr_add HF2.out hb3 (fun y hy => ⟨(hlb2 y hy).1, (ho3.lt _ (hlb2 y hy).2).1⟩))
      obtain ⟨spl, capl, rfl⟩ := hlb1.form
      have hK3 : ∀ y ∈ K, y ∈ lb ++ BS := fun y hy => by rw [← HBS.out]; simp [hy]
      obtain ⟨-, hb0, hR0, hs0⟩ := HMB.out
      have hown := HF3.out.row hR0 (fun y hy => hK3 y (hs0 y hy))
      obtain ⟨xv, X4, xb, hr4, hx4, hf4, ha4⟩ := fr_app appOKP (rb := []) (bs := lb ++ BS) (v := .slice none 0 0) (n := 0) (xs := []) (ys := prows h) (g := gH) (c := cH) (m := 64) HF3.out ⟨rfl, .inl ⟨rfl, rfl, rfl⟩⟩ (fun y hy => by simp at hy) (by omega) (Below.refl _ _) hR0.1 (hown.cells rfl) (fun u hu => by
        obtain ⟨p, hp, hu⟩ := List.mem_flatMap.1 hu
        exact one_pcells p u hu)
      have HAP := Lib.hid hr4
      have HX4 := Lib.hid hx4
      have HF4 := Lib.hid hf4
      have HA4 := Lib.hid ha4
      clear hb3 ho3 hll hlb1 hlb2 hK3 hR0 hs0 hown hr4 hx4 hf4 ha4 HF3 HF2 HM2
      go_upto_region 15 with (first | (at_builtin; refine wpL_val rfl (ex_appP rfl rfl rfl HAP.out) ?_) | fail)
      obtain ⟨gX, cX, csX, rfl, rfl, hcX⟩ := HX4.out.big (by omega)
      have HCX : Hid (64 ≤ cX) := Lib.hid (by omega)
      have HXA : Hid (W1.heap.size ≤ gX ∧ ∀ z ∈ lb ++ BS, z.1 ≠ gX) := Lib.hid (HA4.out (gX, csX, 37) (by simp))
      have HASC : Hid (Asc ls) := Lib.hid (lv_asc HLL.out (by have := HS.out.1; omega) HFI.out)
      have HX0 : Hid (RowB 37 41 [(gX, csX, 37)] (.slice (some ⟨gX, 0, none⟩) 64 cX) 64 (prows (updH h (ls.take 0)))) := Lib.hid HX4.out
      clear hcX HA4 HX4 HAP
      rw [show (0 + 64 : Nat) = 64 from rfl]
      obtain ⟨M, hM⟩ : ∃ M, ls.length = M := ⟨_, rfl⟩
      have HM := Lib.hid hM
      have HM64 : Hid (M ≤ 64) := Lib.hid (by rw [← hM]; exact HLL.out.len)
      have HLO : Hid (∀ x ∈ ls, Lf.OK x) := Lib.hid fun x hx => ⟨by have := HASC.out.lt x hx; omega, (HASC.out.ok x hx).1⟩
      rw [hM] at HLB ⊢
      clear hM
      go_wp2_with fail
      go_loopw [12] (fun j wr => ∃ (k2 : Nat) (cs : List Value), k2 ≤ M ∧ j = .int .i64 (k2 : Int) ∧ RowB 37 41 [(gX, cs, 37)] (.slice (some ⟨gX, 0, none⟩) 64 cX) 64 (prows (updH h (ls.take k2))) ∧ Fr W1 D { s with made := [], gone := [] } ((gX, cs, 37) :: (lb ++ BS)) wr) (fun j _ => M - (intOf j).toNat)
      case atStart => exact ⟨0, csX, by omega, rfl, HX0.out, HF4.out⟩
      case round =>
        clear HX0 HF4
        obtain ⟨k2, cs, hk2, rfl, hrow, hfr⟩ := hrel
        have HRW := Lib.hid hrow; have HF5 := Lib.hid hfr
        clear hrow hfr
        have wk2 := IntWalk.i64_in ((k2 : Int) + 1) (by have := HM64.out; omega)
        by_cases hlm : k2 < M
        · obtain ⟨⟨xo, xp⟩, hx⟩ : ∃ x, ls[k2]? = some x := ⟨_, List.getElem?_eq_getElem (by have := HM.out; omega)⟩
          have hxm := List.mem_of_getElem? hx
          have HXP : Hid xp.OK := Lib.hid (HLO.out _ hxm).2
          have HXO : Hid (xo < 64 ∧ 64 ≤ cX) := Lib.hid ⟨HASC.out.lt _ hxm, HCX.out⟩
          have HLB2 := HLB.out
          rw [← HM.out] at HLB2
          have hown := HF5.out.row HLB2 (fun y hy => by simp [hy])
          obtain ⟨gL, cL, e1, hcl, hrng⟩ := OwnL.at hown HLO.out (by have := HM.out; omega)
          injection e1 with e2 _ e3
          subst e2 e3
          have HKM : Hid (k2 < M ∧ M ≤ capl) := Lib.hid ⟨hlm, by have := HM.out; omega⟩
          have hs0 : wr.drew.rangeAt gL (k2 * 42) (lcells (xo, xp)) := hrng k2 _ hx
          obtain ⟨hcs, hrow2⟩ := HRW.out.put (by rw [updH_len]; exact HMB.out.1) (updH_ok (fun p hp => (HFI.out p hp).1) (HASC.out.take k2)) HXO.out.1 HXP.out
          have HRW2 := Lib.hid hrow2
          rw [← updH_take hx] at HRW2
          have hfd := HF5.out.drew
          have HF6 := Lib.hid (fr_cells hfd HXA.out.1 HXA.out.2 hcs)
          have hbx := hfd.at (g := gX) (cs := cs) (t := 37) (by simp)
          have hthere : wr.drew.there gX (xo * 41) (pcells xp).toArray.size := hbx.there _ _ (by rw [List.size_toArray]; exact hcs)
          have hs1 : (wr.drew.setCells gX (xo * 41) (pcells xp).toArray.toList).rangeAt gL (k2 * 42) (lcells (xo, xp)) := by
            have h6 := HF6.out.row HLB2 (fun y hy => by simp [hy])
            obtain ⟨g', c', e', _, h'⟩ := OwnL.at h6 HLO.out (by have := HM.out; omega)
            injection e' with e4 _ _
            injection e4 with e5
            injection e5 with e6
            rw [e6]
            exact h' k2 _ hx
          clear hx hxm hown hrng hcl hcs hrow2 hfd hbx HLB2
          go_upto_region 18 with fail
          refine wp_region_sched (.take 0 (.take 1 (.take 2 (.take 3 (.take 4 (.take 5 (.take 6 (.take 7 (.take 8 (.take 9 (.take 10 (.take 11 (.step 12 (.nil)))))))))))))) (by kernel_rfl) (by kernel_rfl) (fun d _ _ _ _ h => by cases d <;> exact h) (fun X => X.rangeAt gL (k2 * 42) (lcells (xo, xp))) (hs0) ?_
          refine wpG_take _ (.slice (some ⟨gX, 0, none⟩) 64 cX) rfl (by rfl) (fun X hX => by first | rfl | go_simp) ?_
          (try simp only [Act.put, List.setIfInBounds_toArray, List.set_cons_zero, List.set_cons_succ])
          refine wpG_take _ (.slice (some ⟨gL, 0, none⟩) M capl) rfl (by rfl) (fun X hX => by first | rfl | go_simp) ?_
          (try simp only [Act.put, List.setIfInBounds_toArray, List.set_cons_zero, List.set_cons_succ])
          refine wpG_take _ (.int .i64 (k2 : Int)) rfl (by rfl) (fun X hX => by first | rfl | go_simp) ?_
          (try simp only [Act.put, List.setIfInBounds_toArray, List.set_cons_zero, List.set_cons_succ])
          refine wpG_take _ (.pointer (some ⟨gL, k2 * 42, none⟩)) rfl (by rfl) (fun X hX => ex_iaL2 rfl rfl rfl HKM.out) ?_
          (try simp only [Act.put, List.setIfInBounds_toArray, List.set_cons_zero, List.set_cons_succ])
          refine wpG_take _ (.pointer (some ⟨gL, k2 * 42, none⟩)) rfl (by rfl) (fun X hX => by first | rfl | go_simp) ?_
          (try simp only [Act.put, List.setIfInBounds_toArray, List.set_cons_zero, List.set_cons_succ])
          refine wpG_take _ (.int .u32 (xo : Int)) rfl (by rfl) (fun X hX => ex_ld1 Tryd.underlying32 rfl rfl (rng_cell hX)) ?_
          (try simp only [Act.put, List.setIfInBounds_toArray, List.set_cons_zero, List.set_cons_succ])
          refine wpG_take _ (.slice (some ⟨gL, 0, none⟩) M capl) rfl (by rfl) (fun X hX => by first | rfl | go_simp) ?_
          (try simp only [Act.put, List.setIfInBounds_toArray, List.set_cons_zero, List.set_cons_succ])
          refine wpG_take _ (.int .i64 (k2 : Int)) rfl (by rfl) (fun X hX => by first | rfl | go_simp) ?_
          (try simp only [Act.put, List.setIfInBounds_toArray, List.set_cons_zero, List.set_cons_succ])
          refine wpG_take _ (.pointer (some ⟨gL, k2 * 42, none⟩)) rfl (by rfl) (fun X hX => ex_iaL2 rfl rfl rfl HKM.out) ?_
          (try simp only [Act.put, List.setIfInBounds_toArray, List.set_cons_zero, List.set_cons_succ])
          refine wpG_take _ (.pointer (some ⟨gL, k2 * 42 + 1, none⟩)) rfl (by rfl) (fun X hX => by first | rfl | go_simp) ?_
          (try simp only [Act.put, List.setIfInBounds_toArray, List.set_cons_zero, List.set_cons_succ])
          refine wpG_take _ (.agg (pcells xp).toArray) rfl (by rfl) (fun X hX => ex_ldR HXP.out (rng_ptr hX) rfl rfl) ?_
          (try simp only [Act.put, List.setIfInBounds_toArray, List.set_cons_zero, List.set_cons_succ])
          refine wpG_take _ (.pointer (some ⟨gX, xo * 41, none⟩)) rfl (by rfl) (fun X hX => ex_iaPu rfl rfl rfl HXO.out) ?_
          (try simp only [Act.put, List.setIfInBounds_toArray, List.set_cons_zero, List.set_cons_succ])
          refine wpG_mid _ rfl (by rfl) 37 (.tmp 69) (.tmp 68) rfl gX (xo * 41) (pcells xp).toArray rfl rfl hthere (size_pc HXP.out) (one_pc xp) (fun X => X.rangeAt gL (k2 * 42) (lcells (xo, xp))) (fun _ h => h) hs1 ?_
          (try simp only [Act.put, List.setIfInBounds_toArray, List.set_cons_zero, List.set_cons_succ])
          refine wpG_nil ?_
          clear hs0 hs1 hthere HF5 HRW
          go_wp2_with fail
          go_roundw
          case rel => exact ⟨k2 + 1, _, by omega, by go_num, HRW2.out, HF6.out⟩
          case measure => simp [intOf]; omega
        · obtain rfl : M = k2 := by omega
          clear hlm hk2 wk2
          have HX5 : Hid (RowB 37 41 [(gX, cs, 37)] (.slice (some ⟨gX, 0, none⟩) 64 cX) 64 (prows (updH h ls))) := Lib.hid (by have := HRW.out; rw [List.take_of_length_le (by rw [HM.out]; exact Nat.le_refl _)] at this; exact this)
          clear HRW
          have HHN : Hid (∀ p ∈ updH h ls, p.OK ∧ fineP p = true) := Lib.hid (lv_fine HLL.out (by have := HS.out.1; omega) HFI.out)
          have HIN : Hid (LInv (updH h ls)) := Lib.hid (lv_inv HLL.out HLI.out)
          obtain ⟨mids2, e0, em, eb, hit2, htn, hpre, hlen2⟩ := round_plain (s := { s with made := [], gone := [] }) HIT.out HST.out.bad HST.out.room rfl rfl (by have := HST.out.bl; have := HS.out.1; show s.blocks.length + 9 < 30000; omega) HASC.out HLI.out HIN.out
          have hl1 : Lim (5460 * k) { s with made := [], gone := [] } := ⟨HST.out.lim.rd, by simp, by simp, HST.out.lim.n, HST.out.lim.bl, HST.out.lim.bd, HST.out.lim.rm⟩
          have HLB2 := HLB.out
          rw [← HM.out] at HLB2
          have hset := fr_setB HF5.out root HRO.out ls HLO.out (by rw [HM.out]; exact HM64.out) HLB2 (fun y hy => by simp [hy]) hl1 (by have := HS.out.1; omega)
          rw [e0, HM.out] at hset
          obtain ⟨s2, hs2⟩ : ∃ x, (setR { s with made := [], gone := [] } root 9 ls).s = x := ⟨_, rfl⟩
          obtain ⟨p2, hp2⟩ : ∃ x, (setR { s with made := [], gone := [] } root 9 ls).p = x := ⟨_, rfl⟩
          rw [hs2, hp2] at hset
          rw [hs2] at em eb hit2 htn hpre hlen2
          rw [hp2] at hit2 htn
          have HSET := Lib.hid hset
          have HRM2 := Lib.hid em; have HBD2 := Lib.hid eb; have HIT2 := Lib.hid hit2; have HTN := Lib.hid htn; have HPRE := Lib.hid hpre; have HLE2 := Lib.hid hlen2
          have HBR := Lib.hid (HF5.out.at (g := gR) (cs := pcells root) (t := 37) (by rw [← HBS.out]; simp))
          have HMX : Hid (MapB [(gX, cs, 37)] (.slice (some ⟨gX, 0, none⟩) 64 cX) (updH h ls)) := Lib.hid ⟨by rw [updH_len]; exact HMB.out.1, [(gX, cs, 37)], HX5.out, fun y hy => hy⟩
          obtain ⟨hN, hhN⟩ : ∃ x, updH h ls = x := ⟨_, rfl⟩
          rw [hhN] at HHN HIN HIT2 HTN HMX
          clear e0 em eb hit2 htn hpre hlen2 hl1 HLB2 hset hs2 hp2 HX5 HASC hhN
          go_wp2_with (first | (refine wpL_val rfl (ex_ldP HRO.out HBR.out rfl rfl) ?_) | fail)
          refine HSET.out.mono ?_
          rintro e X7 ⟨rfl, hf7, hl7, hp7⟩
          have HF7 := Lib.hid hf7; have HL7 := Lib.hid hl7; have HP2 := Lib.hid hp7
          have HSQ := Lib.hid (size_pc HP2.out)
          have HLQ : Hid ((pcells p2).toArray.size = 41) := Lib.hid (by rw [List.size_toArray, pcells_length HP2.out])
          clear hf7 hl7 hp7 HSET HF5 HBR
          go_upto_region 20 with (first | (refine wpList_store_row rfl 37 (.tmp 13) (.tmp 76) rfl X7.heap.size (pcells p2).toArray rfl rfl 37 _ (heap_alloc_new X7 _) HSQ.out (by rw [HLQ.out]; rfl) (one_pc p2) ?_) | fail)
          refine (fun (k' : ∀ W, Fr W1 D s2 ((X7.heap.size, pcells p2, 37) :: (gX, cs, 37) :: (lb ++ BS)) W → Code.wp _ _ _ _ W) => k' _ (HF7.out.add (blk_row1 X7 _ (pcells p2) 37).2 (Nat.le_refl _) (blk_row1 X7 _ (pcells p2) 37).1)) ?_
          intro X8 hX8
          obtain ⟨g13, hg13⟩ : ∃ g, X7.heap.size = g := ⟨_, rfl⟩
          have HNB : Hid (∀ y ∈ (gX, cs, 37) :: (lb ++ BS), y.1 < g13) := Lib.hid fun y hy => by rw [← hg13]; exact (HF7.out.bx y hy).lt
          rw [hg13] at hX8 ⊢
          have HF8 := Lib.hid hX8
          have HB13 := Lib.hid (hX8.at (g := g13) (cs := pcells p2) (t := 37) (by simp))
          clear hX8 hg13 HF7
          go_wp2_with (first | (refine wpL_val rfl (ex_ldP HP2.out HB13.out rfl rfl) ?_) | fail)
          refine (tells_go (h := hN) HF8.out HIT2.out HBD2.out HP2.out gX cX HCX.out (fun s' bs' Y hY hsub => HMX.out.src hY (fun y hy => hsub y (by simp at hy; subst hy; simp)) (fun p hp => (HHN.out p hp).1)) HL7.out (by have := HS.out.1; omega)).mono ?_
          rintro e X9 ⟨nv2, nb2, s3, rs, rfl, hmo, hf9, hl9, hnr, hnok, hnap⟩
          obtain ⟨spn2, capn2, rfl⟩ := hnr.form
          have HMO := Lib.hid hmo; have HF9 := Lib.hid hf9; have HL9 := Lib.hid hl9; have HNR := Lib.hid hnr; have HNK := Lib.hid hnok; have HNP := Lib.hid hnap
          clear hmo hf9 hl9 hnr hnok hnap HF8
          go_upto_region 23 with fail
          have hsubB : ∀ y ∈ BS, y ∈ nb2 ++ ((g13, pcells p2, 37) :: (gX, cs, 37) :: (lb ++ BS)) := fun y hy => by simp [hy]
          have hnods := HST.out.nods
          simp only at hnods
          have sw : SrcM X9 (.slice spn (nodesOf root mids).length capn) (nodesOf root mids) := OwnM.src (HF9.out.row hnods (fun y hy => hsubB y (by rw [← HBS.out]; simp [hy]))) HST.out.nok
          have sn : SrcM X9 (.slice spn2 (nodesOf p2 mids2).length capn2) (nodesOf p2 mids2) := OwnM.src (HF9.out.row HNR.out (fun y hy => by simp [hy])) HNK.out
          have sh : SrcM X9 (.slice (some ⟨gH, 0, none⟩) 64 cH) h := HMB.out.src HF9.out (fun y hy => hsubB y (by rw [← HBS.out]; simp [hy])) (fun p hp => (HFI.out p hp).1)
          have sx : SrcM X9 (.slice (some ⟨gX, 0, none⟩) 64 cX) hN := HMX.out.src HF9.out (fun y hy => by simp at hy; subst hy; simp) (fun p hp => (HHN.out p hp).1)
          obtain ⟨vS, hbS, omd, ogn, okm, okg⟩ := HF9.out.cells
          obtain ⟨spm9, capm9, emd, -⟩ := owns_form omd
          obtain ⟨spg9, capg9, egn, -⟩ := owns_form ogn
          have hc2 := hbS.cell (j := 2) rfl
          have hc3 := hbS.cell (j := 3) rfl
          have smd := OwnM.src omd okm
          have sgn := OwnM.src ogn okg
          rw [emd] at hc2 smd
          rw [egn] at hc3 sgn
          obtain ⟨spw', capw', ew, hw1, -, -, hw4⟩ := id sw
          injection ew with ew1 _ ew3
          subst ew1 ew3
          obtain ⟨spn', capn', en, hn1, -, -, hn4⟩ := id sn
          injection en with en1 _ en3
          subst en1 en3
          have hmade : s3.made = s2.made ∧ s3.gone = s2.gone := by have := HMO.out; unfold More at this; rw [this]; exact ⟨rfl, rfl⟩
          have htn := HTN.out
          rw [← hmade.1, ← hmade.2] at htn
          have hlm : ∀ (q : Pt) (ns : List Pt), ns.length = 8 → (nodesOf q ns).length < 1000000 := fun q ns hl => by
            unfold nodesOf
            split
            · simp
            · have := List.length_filter_le (fun q => !eqP q zeroP) ns
              simp only [List.length_cons]
              omega
          have htu := turned_go htn HMB.out.1 HMX.out.1 ⟨HST.out.nok, HNK.out, fun p hp => (HFI.out p hp).1, fun p hp => (HHN.out p hp).1⟩ ⟨hlm _ _ HIT.out.2.2.1.1.len, hlm _ _ HIT2.out.2.2.1.1.len, by have := HL9.out.md; have := HL9.out.n; omega, by have := HL9.out.gn; have := HL9.out.n; omega⟩ ⟨okm, okg⟩
            spn spn2 spm9 spg9 (nodesOf root mids).length (nodesOf p2 mids2).length s3.made.length s3.gone.length capn capn2 capm9 capg9 gH cH gX cX ⟨rfl, hw1, fun h0 => by obtain ⟨g, e, _⟩ := hw4 h0; exact ⟨g, e⟩⟩ ⟨rfl, hn1, fun h0 => by obtain ⟨g, e, _⟩ := hn4 h0; exact ⟨g, e⟩⟩ rfl rfl HCH.out HCX.out D X9 ⟨sw, sn, sh, sx, hc2, hc3, smd, sgn, hbS.lt, Below.refl _ _⟩
          have HTU := Lib.hid htu
          have hx0 : (fun _ : World => True) X9 := trivial
          clear hsubB hnods sw sn sh sx hbS omd ogn okm okg emd egn hc2 hc3 smd sgn hw1 hw4 hn1 hn4 hmade htn hlm htu
          refine wp_region_list ?_
          refine tl_val (S := fun _ => True) (.bool true) (by rfl) hx0 (fun X hX => by first | rfl | go_simp) ?_
          (try simp only [Act.put, List.setIfInBounds_toArray, List.set_cons_zero, List.set_cons_succ])
          refine tl_val (S := fun _ => True) (.bool false) (by rfl) hx0 (fun X hX => by first | rfl | go_simp) ?_
          (try simp only [Act.put, List.setIfInBounds_toArray, List.set_cons_zero, List.set_cons_succ])
          refine tl_val (S := fun _ => True) (.bool false) (by rfl) hx0 (fun X hX => by first | rfl | go_simp) ?_
          (try simp only [Act.put, List.setIfInBounds_toArray, List.set_cons_zero, List.set_cons_succ])
          refine tl_val (S := fun _ => True) (.pointer (some ⟨D, 0, none⟩)) (by rfl) hx0 (fun X hX => by first | rfl | go_simp) ?_
          (try simp only [Act.put, List.setIfInBounds_toArray, List.set_cons_zero, List.set_cons_succ])
          refine tl_val (S := fun _ => True) (.slice spn (nodesOf root mids).length capn) (by rfl) hx0 (fun X hX => by first | rfl | go_simp) ?_
          (try simp only [Act.put, List.setIfInBounds_toArray, List.set_cons_zero, List.set_cons_succ])
          refine tl_val (S := fun _ => True) (.slice spn2 (nodesOf p2 mids2).length capn2) (by rfl) hx0 (fun X hX => by first | rfl | go_simp) ?_
          (try simp only [Act.put, List.setIfInBounds_toArray, List.set_cons_zero, List.set_cons_succ])
          refine tl_val (S := fun _ => True) (.slice (some ⟨gH, 0, none⟩) 64 cH) (by rfl) hx0 (fun X hX => by first | rfl | go_simp) ?_
          (try simp only [Act.put, List.setIfInBounds_toArray, List.set_cons_zero, List.set_cons_succ])
          refine tl_val (S := fun _ => True) (.slice (some ⟨gX, 0, none⟩) 64 cX) (by rfl) hx0 (fun X hX => by first | rfl | go_simp) ?_
          (try simp only [Act.put, List.setIfInBounds_toArray, List.set_cons_zero, List.set_cons_succ])
          refine tl_call (by rfl) 10 #[.pointer (some ⟨D, 0, none⟩), .slice spn (nodesOf root mids).length capn, .slice spn2 (nodesOf p2 mids2).length capn2, .slice (some ⟨gH, 0, none⟩) 64 cH, .slice (some ⟨gX, 0, none⟩) 64 cX] (by go_simp) (fun u X => u = .bool true ∧ Below X9.heap.size X9 X) (HTU.out.mono fun e Y ⟨e1, hb⟩ => ⟨_, e1, rfl, hb⟩) ?_
          rintro u X10 ⟨rfl, hb10⟩
          (try simp only [Act.put, List.setIfInBounds_toArray, List.set_cons_zero, List.set_cons_succ])
          refine tl_val (S := fun _ => True) (.bool false) (by rfl) trivial (fun X hX => by first | rfl | go_simp) ?_
          (try simp only [Act.put, List.setIfInBounds_toArray, List.set_cons_zero, List.set_cons_succ])
          refine tl_val (S := fun _ => True) (.bool false) (by rfl) trivial (fun X hX => by first | rfl | go_simp) ?_
          (try simp only [Act.put, List.setIfInBounds_toArray, List.set_cons_zero, List.set_cons_succ])
          refine wpList_nil ?_
          have HF10 := Lib.hid (HF9.out.below hb10)
          have HB13' := Lib.hid (HF10.out.at (g := g13) (cs := pcells p2) (t := 37) (by simp))
          clear hb10 hx0 HTU
          have HLR : Hid ((pcells root).toArray.size = 41) := Lib.hid (by rw [List.size_toArray, pcells_length HRO.out])
          obtain ⟨aR, aM, aG⟩ := ap_new (c1 := pcells p2) HBS.out HST.out.apR HST.out.apM HST.out.apG HXA.out HNP.out
          have HAR := Lib.hid aR; have HAM := Lib.hid aM; have HAG := Lib.hid aG
          have HF11 : Hid (Fr W1 D s3 ((gR, pcells root, 37) :: (rb ++ (mb ++ (nb2 ++ ((gX, cs, 37) :: K))))) X10) := Lib.hid (HF10.out.sub (fun y hy => by
            have hB : ∀ z : Nat × List Value × TypeId, z ∈ (gR, pcells root, 37) :: (rb ++ (mb ++ (nb ++ K))) → z ∈ BS := fun z hz => by rw [← HBS.out]; exact hz
            simp only [List.mem_cons, List.mem_append] at hy ⊢
            rcases hy with h | h | h | h | h | h
            · exact .inr (.inr (.inr (.inr (hB y (by simp [h])))))
            · exact .inr (.inr (.inr (.inr (hB y (by simp [h])))))
            · exact .inr (.inr (.inr (.inr (hB y (by simp [h])))))
            · exact .inl h
            · exact .inr (.inr (.inl h))
            · exact .inr (.inr (.inr (.inr (hB y (by simp [h])))))))
          have HBR10 := Lib.hid (HF11.out.at (g := gR) (cs := pcells root) (t := 37) (by simp))
          have HF12 := Lib.hid (fr_row (cs' := pcells p2) HF11.out (HAG.out (gR, pcells p2, 37) (by simp)).1 (HAG.out (gR, pcells p2, 37) (by simp)).2)
          clear aR aM aG
          go_upto_region 26 with (first | (refine wpL_val rfl (ex_ldP HP2.out HB13'.out rfl rfl) ?_) | (refine wpList_store_row rfl 37 (.tmp 4) (.tmp 98) rfl gR (pcells p2).toArray rfl rfl 37 _ HBR10.out HSQ.out (by rw [HLQ.out, HLR.out]) (one_pc p2) ?_) | fail)
          refine (fun (k' : ∀ W, Fr W1 D s3 ((gR, pcells p2, 37) :: (rb ++ (mb ++ (nb2 ++ ((gX, cs, 37) :: K))))) W → Code.wp _ _ _ _ W) => k' _ HF12.out) ?_
          intro X11 hX11
          have HF13 := Lib.hid hX11
          have HBR11 := Lib.hid (hX11.at (g := gR) (cs := pcells p2) (t := 37) (by simp))
          have hro := HST.out.roots
          have hY11 : Below X11.heap.size X11 (X11.alloc (.cells (pcells p2).toArray 37)) := (Below.refl _ _).alloc (Nat.le_refl _) _
          obtain ⟨rv2, X12, rb2, hr12, hro12, hf12, ha12⟩ := fr_app appOKP (rb := rb) (bs := (gR, pcells p2, 37) :: (mb ++ (nb2 ++ ((gX, cs, 37) :: K)))) (ys := pcells p2) (g := X11.heap.size) (c := 1) (m := 1) (hX11.sub (fun y hy => by
            simp only [List.mem_cons, List.mem_append] at hy ⊢
            rcases hy with h | h | h
            · exact .inr (.inl h)
            · exact .inl h
            · exact .inr (.inr h))) hro HAR.out (by have := HS.out.1; omega) hY11 (by rw [pcells_length HP2.out]) (fun j u hu => by
              have hB := (Blk.new X11 (pcells p2) 37).cell hu
              rw [Addr.add_mid, Nat.zero_add]
              exact hB) (fun u hu => one_pcells p2 u hu)
          have HAP := Lib.hid hr12; have HRO12 := Lib.hid hro12; have HF14 := Lib.hid hf12; have HAR2 := Lib.hid ha12
          clear hX11 hro hY11 hr12 hro12 hf12 ha12 HF10 HF11 HF12 HB13' HB13 HBR10
          go_upto_region 27 with (first | (refine wpL_val rfl (ex_ldP HP2.out HBR11.out rfl rfl) ?_) | (refine wpL_val rfl (q_one p2 rfl rfl HP2.out) ?_) | (at_builtin; refine wpL_val rfl (ex_appP rfl rfl rfl HAP.out) ?_) | fail)
          obtain ⟨spr2, capr2, rfl⟩ := HRO12.out.form
          have hmo2 := HST.out.maps
          have hAM2 : Apart W1 mb ((gR, pcells p2, 37) :: (rb2 ++ (nb2 ++ ((gX, cs, 37) :: K)))) := fun y hy => ⟨(HAM.out y hy).1, fun z hz => by
            rcases List.mem_cons.1 hz with h | h
            · exact (HAM.out y hy).2 z (by simp [h])
            · rcases List.mem_append.1 h with h | h
              · exact fun e => (HAR2.out z h).2 y (by simp [hy]) e.symm
              · exact (HAM.out y hy).2 z (by simp only [List.mem_cons, List.mem_append]; exact .inr (.inr (by simpa using h)))⟩
          have hY12 : Below X12.heap.size X12 (X12.alloc (.cells #[.slice (some ⟨gX, 0, none⟩) 64 cX] 28)) := (Below.refl _ _).alloc (Nat.le_refl _) _
          obtain ⟨mv2, X13, mb2, hr13, hmo13, hf13, ha13⟩ := fr_app appOKS (rb := mb) (bs := (gR, pcells p2, 37) :: (rb2 ++ (nb2 ++ ((gX, cs, 37) :: K)))) (ys := [.slice (some ⟨gX, 0, none⟩) 64 cX]) (g := X12.heap.size) (c := 1) (m := 1) (HF14.out.sub (fun y hy => by
            simp only [List.mem_cons, List.mem_append] at hy ⊢
            rcases hy with h | h | h | h
            · exact .inr (.inr (.inl h))
            · exact .inr (.inl h)
            · exact .inl h
            · exact .inr (.inr (.inr h)))) hmo2 hAM2 (by have := HS.out.1; omega) hY12 rfl (fun j u hu => by
              have hB := (Blk.new X12 [.slice (some ⟨gX, 0, none⟩) 64 cX] 28).cell hu
              rw [Addr.add_mid, Nat.zero_add]
              exact hB) (fun u hu => by simp only [List.mem_singleton] at hu; subst hu; rfl)
          have HAP2 := Lib.hid hr13
          have hfin : TmS W1 D gR s3 (k + 1) (hist ++ [⟨root, h, mids, .slice (some ⟨gH, 0, none⟩) 64 cH⟩]) ⟨p2, hN, mids2, .slice (some ⟨gX, 0, none⟩) 64 cX⟩ (.slice spr2 (k + 1 + 1) capr2) mv2 (.slice spn2 (nodesOf p2 mids2).length capn2) rb2 mb2 nb2 ((gX, cs, 37) :: K) X13 := by
            have hbl3 := HMO.out.bl
            have hrm3 : s3.room = s2.room := by have := HMO.out; unfold More at this; rw [this]
            have hpre3 : ∀ (j : Nat) (b : Bs), s.blocks[j]? = some b → s3.blocks[j]? = some b := fun j b hb => by rw [hbl3.1]; exact HPRE.out j b hb
            refine ⟨hf13.sub (fun y hy => ?_), ?_, ?_, HNR.out, by simp [HST.out.len], fun q hq => ?_, hbl3.2.trans HBD2.out, hrm3.trans HRM2.out, ?_, ?_, HHN.out, HIN.out, HNK.out, fun y hy => ⟨(HAR2.out y hy).1, fun z hz => ?_⟩, fun y hy => ⟨(ha13 y hy).1, fun z hz => ?_⟩, fun y hy => ⟨(HAG.out y hy).1, fun z hz => ?_⟩⟩
            · simp only [List.mem_cons, List.mem_append] at hy ⊢
              rcases hy with h | h | h | h
              · exact .inr (.inl h)
              · exact .inr (.inr (.inl h))
              · exact .inl h
              · exact .inr (.inr (.inr h))
            · have := HRO12.out
              rw [List.map_append, List.map_cons, List.map_nil, prows_snoc]
              exact this
            · have := hmo13
              rw [List.map_append, List.map_cons, List.map_nil]
              exact this
            · rcases List.mem_append.1 hq with hq | hq
              · obtain ⟨a1, a2, a3⟩ := HST.out.rcs q hq
                exact ⟨a1.mono hpre3, a2, a3.mono (fun y hy => by simp [hy])⟩
              · simp only [List.mem_singleton] at hq
                subst hq
                refine ⟨?_, HP2.out, HMX.out.mono (fun y hy => by simp at hy; simp [hy])⟩
                show IsT s3.blocks p2 hN mids2
                rw [hbl3.1]; exact HIT2.out
            · rw [hbl3.1]
              have a1 := HLE2.out
              have a2 := HST.out.bl
              (try simp only at a1)
              omega
            · have := HL9.out
              rw [show 5460 * (k + 1) = 5460 * k + 715 + 4745 by omega]
              exact this
            · rcases List.mem_cons.1 hz with h | h
              · exact (HAR2.out y hy).2 z (by rw [h]; simp)
              · rcases List.mem_append.1 h with h | h
                · exact fun e => (ha13 z h).2 y (by simp [hy]) e.symm
                · exact (HAR2.out y hy).2 z (by simp only [List.mem_cons, List.mem_append]; exact .inr (.inr (by simpa using h)))
            · exact (ha13 y hy).2 z hz
            · have hyg : y = (gR, pcells p2, 37) := by simpa using hy
              rcases List.mem_append.1 hz with h | h
              · exact fun e => (HAR2.out z h).2 y (by rw [hyg]; simp) e.symm
              · rcases List.mem_append.1 h with h | h
                · exact fun e => (ha13 z h).2 y (by rw [hyg]; simp) e.symm
                · exact (HAG.out y hy).2 z (by simp only [List.mem_append]; exact .inr (.inr (by simpa using h)))
          have HFIN := Lib.hid hfin
          clear hmo2 hAM2 hY12 hr13 hmo13 hf13 ha13 hfin HF13 HF14 HAP
          go_wp2_with (first | (refine wpL_val rfl (ex_oneS rfl rfl) ?_) | (at_builtin; refine wpL_val rfl (ex_appS rfl rfl rfl HAP2.out) ?_) | fail)
          go_roundw
          case rel => exact ⟨k + 1, s3, _, _, _, _, _, _, by omega, by go_num, rfl, HFIN.out⟩
          case measure => simp [intOf]; omega
    · obtain rfl : N = k := by omega
      clear hlt hk wk1
      have hF0 := HST.out.fr
      have hrR := HST.out.roots
      have hrM := HST.out.maps
      obtain ⟨RC, hRC⟩ : ∃ l, hist ++ [r] = l := ⟨_, rfl⟩
      have hRL : RC.length = N + 1 := by rw [← hRC]; simp [HST.out.len]
      obtain ⟨gr, cr, _, hvr, -, hcr⟩ : ∃ g cap cs, Value.slice spr (N + 1) capr = .slice (some ⟨g, 0, none⟩) (N + 1) cap ∧ rb = [(g, cs, 37)] ∧ N + 1 ≤ cap := hrR.big (by omega)
      injection hvr with e1 _ e3
      subst e1 e3
      obtain ⟨gm, cm, _, hvm, -, hcm⟩ : ∃ g cap cs, Value.slice spm (N + 1) capm = .slice (some ⟨g, 0, none⟩) (N + 1) cap ∧ mb = [(g, cs, 28)] ∧ N + 1 ≤ cap := hrM.big (by omega)
      injection hvm with e1 _ e3
      subst e1 e3
      obtain ⟨BS, hBS⟩ : ∃ b, (gR, pcells r.root, 37) :: (rb ++ (mb ++ (nb ++ K))) = b := ⟨_, rfl⟩
      rw [hBS] at hF0
      have hrc := HST.out.rcs
      rw [hRC] at hrc hrR hrM
      have HRC : Hid (∀ q ∈ RC, IsT s.blocks q.root q.h q.mids ∧ q.root.OK ∧ MapB K q.v q.h) := Lib.hid hrc
      have HRL := Lib.hid hRL
      have HRR := Lib.hid hrR; have HRM := Lib.hid hrM
      have HBSs : Hid ((∀ y ∈ rb, y ∈ BS) ∧ (∀ y ∈ mb, y ∈ BS) ∧ ∀ y ∈ K, y ∈ BS) := Lib.hid (by
        rw [← hBS]
        exact ⟨fun y hy => by simp [hy], fun y hy => by simp [hy], fun y hy => by simp [hy]⟩)
      have HF0 := Lib.hid hF0
      have HCR : Hid (N + 1 ≤ capr) := Lib.hid hcr
      have HLM := Lib.hid HST.out.lim
      have HBD0 := Lib.hid HST.out.bad
      have HN60 : Hid (N ≤ 60) := Lib.hid HS.out.1
      have wk3 := IntWalk.i64_in ((N : Int) + 1) (by have := HS.out.1; omega)
      clear hF0 hrR hrM hRC hRL hBS hrc hcr hcm HST HS
      go_wp2_with fail
      go_loopw [17] (fun i wr => ∃ (k : Nat) (s' : Sh) (rs : List Pt), k ≤ N + 1 ∧ i = .int .i64 (k : Int) ∧ More s s' rs ∧ Lim (5460 * N + 4745 * k) s' ∧ Fr W1 D s' BS wr) (fun i _ => N + 1 - (intOf i).toNat)
      case atStart => exact ⟨0, s, [], by omega, rfl, More.refl s, HLM.out, HF0.out⟩
      case round =>
        clear HF0 HLM
        obtain ⟨k, s', rs, hk, rfl, hmo, hli, hf⟩ := hrel
        have HMO := Lib.hid hmo; have HLI := Lib.hid hli; have HF := Lib.hid hf
        clear hmo hli hf
        have wk4 := IntWalk.i64_in ((k : Int) + 1) (by have := HN60.out; omega)
        by_cases hlt : k < N + 1
        · obtain ⟨q, hq⟩ : ∃ q, RC[k]? = some q := ⟨_, List.getElem?_eq_getElem (by have := HRL.out; omega)⟩
          obtain ⟨hqT, hqK, hqM⟩ := HRC.out q (List.mem_of_getElem? hq)
          obtain ⟨gH, cH, hqv, hcH⟩ := hqM.form
          have j1 : ((k : Nat) : Int) < ((N + 1 : Nat) : Int) := by omega
          have hfd := HF.out.drew
          have HK2 : Hid (k < N + 1 ∧ N + 1 ≤ capr) := Lib.hid ⟨hlt, HCR.out⟩
          have hsm := HRM.out.cellS hfd HBSs.out.2.1 (k := k) (v := q.v) (by rw [List.getElem?_map, hq]; rfl)
          have HK3 : Hid (k < N + 1 ∧ N + 1 ≤ capm) := Lib.hid ⟨hlt, hsm.1⟩
          rw [hqv] at hsm
          have HQT := Lib.hid hqT; have HQK := Lib.hid hqK; have HQM : Hid (MapB K (.slice (some ⟨gH, 0, none⟩) 64 cH) q.h) := Lib.hid (by rw [← hqv]; exact hqM)
          have HCH : Hid (64 ≤ cH) := Lib.hid hcH
          have HLR : Hid (∀ s2 X, Fr W1 D s2 BS X → X.rangeAt gr (k * 41) (pcells q.root)) := Lib.hid fun s2 X hX => by
            have h1 := HRR.out
            have h2 : (RC.map Rc.root).length = N + 1 := by rw [List.length_map, HRL.out]
            rw [← h2] at h1
            exact (OwnM.src (hX.row h1 HBSs.out.1) (fun p hp => by
              obtain ⟨z, hz, e⟩ := List.mem_map.1 hp
              rw [← e]; exact (HRC.out z hz).2.1)).at (by rw [List.getElem?_map, hq]; rfl)
          have HLM2 : Hid (∀ s2 X, Fr W1 D s2 BS X → X.cell? ⟨gm, k, none⟩ = some (.slice (some ⟨gH, 0, none⟩) 64 cH)) := Lib.hid fun s2 X hX => by
            have := (HRM.out.cellS hX HBSs.out.2.1 (k := k) (v := q.v) (by rw [List.getElem?_map, hq]; rfl)).2
            rw [hqv] at this
            exact this
          have HTE := Lib.hid (tells_go (h := q.h) (mids := q.mids) hfd (by rw [HMO.out.bl.1]; exact HQT.out) (by rw [HMO.out.bl.2]; exact HBD0.out) HQK.out gH cH HCH.out (fun s2 bs' Y hY hsub => HQM.out.src hY (fun y hy => hsub y (HBSs.out.2.2 y hy)) HQT.out.2.1) HLI.out (by have := HN60.out; omega))
          have hs0 : ∃ s2, Fr W1 D s2 BS wr.drew := ⟨s', hfd⟩
          clear hq hqT hqK hqM hqv hcH hfd hsm
          go_upto_region 31 with fail
          refine wp_region_sched (.take 0 (.take 1 (.take 2 (.take 3 (.take 4 (.take 5 (.take 6 (.take 7 (.take 8 (.step 9 (.take 10 (.take 11 (.take 12 (.take 13 (.take 14 (.nil)))))))))))))))) (by kernel_rfl) (by kernel_rfl) (fun d _ _ _ _ h => by cases d <;> exact h) (fun X => ∃ s2, Fr W1 D s2 BS X) (hs0) ?_
          refine wpG_take _ (.pointer (some ⟨D, 0, none⟩)) rfl (by rfl) (fun X hX => by first | rfl | go_simp) ?_
          (try simp only [Act.put, List.setIfInBounds_toArray, List.set_cons_zero, List.set_cons_succ])
          refine wpG_take _ (.slice (some ⟨gr, 0, none⟩) (N + 1) capr) rfl (by rfl) (fun X hX => by first | rfl | go_simp) ?_
          (try simp only [Act.put, List.setIfInBounds_toArray, List.set_cons_zero, List.set_cons_succ])
          refine wpG_take _ (.int .i64 (k : Int)) rfl (by rfl) (fun X hX => by first | rfl | go_simp) ?_
          (try simp only [Act.put, List.setIfInBounds_toArray, List.set_cons_zero, List.set_cons_succ])
          refine wpG_take _ (.pointer (some ⟨gr, k * 41, none⟩)) rfl (by rfl) (fun X hX => q_iaP rfl rfl rfl HK2.out) ?_
          (try simp only [Act.put, List.setIfInBounds_toArray, List.set_cons_zero, List.set_cons_succ])
          refine wpG_take _ (.agg (pcells q.root).toArray) rfl (by rfl) (fun X hX => ex_ldR HQK.out (HLR.out _ _ hX.choose_spec) rfl rfl) ?_
          (try simp only [Act.put, List.setIfInBounds_toArray, List.set_cons_zero, List.set_cons_succ])
          refine wpG_take _ (.slice (some ⟨gm, 0, none⟩) (N + 1) capm) rfl (by rfl) (fun X hX => by first | rfl | go_simp) ?_
          (try simp only [Act.put, List.setIfInBounds_toArray, List.set_cons_zero, List.set_cons_succ])
          refine wpG_take _ (.int .i64 (k : Int)) rfl (by rfl) (fun X hX => by first | rfl | go_simp) ?_
          (try simp only [Act.put, List.setIfInBounds_toArray, List.set_cons_zero, List.set_cons_succ])
          refine wpG_take _ (.pointer (some ⟨gm, k, none⟩)) rfl (by rfl) (fun X hX => ex_iaSS rfl rfl rfl HK3.out) ?_
          (try simp only [Act.put, List.setIfInBounds_toArray, List.set_cons_zero, List.set_cons_succ])
          refine wpG_take _ (.slice (some ⟨gH, 0, none⟩) 64 cH) rfl (by rfl) (fun X hX => ex_ldSl rfl rfl (HLM2.out _ _ hX.choose_spec)) ?_
          (try simp only [Act.put, List.setIfInBounds_toArray, List.set_cons_zero, List.set_cons_succ])
          refine wpG_call _ rfl (by rfl) 9 #[.pointer (some ⟨D, 0, none⟩), .agg (pcells q.root).toArray, .slice (some ⟨gH, 0, none⟩) 64 cH] (fun X => by go_simp) (fun u X => TlPost W1 D s' BS q.root q.mids (5460 * N + 4745 * k + 4745) (.returned u) X) (HTE.out.mono fun e X he => by
            obtain ⟨nv3, nb3, s3, rs3, e1, h2, h3, h4⟩ := he
            exact ⟨_, e1, ⟨s3, h3.sub (fun y hy => by simp [hy])⟩, nv3, nb3, s3, rs3, rfl, h2, h3, h4⟩) ?_
          rintro u X3 hx3 ⟨nv3, nb3, s3, rs3, e3, hmo3, hf3, hl3, hnr3, -⟩
          injection e3 with e4
          subst e4
          refine ⟨_, fun _ h => h, hx3, ?_⟩
          (try simp only [Act.put, List.setIfInBounds_toArray, List.set_cons_zero, List.set_cons_succ])
          refine wpG_take _ (.tuple #[nv3, .bool true]) rfl (by rfl) (fun X hX => by first | rfl | go_simp) ?_
          (try simp only [Act.put, List.setIfInBounds_toArray, List.set_cons_zero, List.set_cons_succ])
          refine wpG_take _ (nv3) rfl (by rfl) (fun X hX => by first | rfl | go_simp) ?_
          (try simp only [Act.put, List.setIfInBounds_toArray, List.set_cons_zero, List.set_cons_succ])
          refine wpG_take _ (.bool true) rfl (by rfl) (fun X hX => by first | rfl | go_simp) ?_
          (try simp only [Act.put, List.setIfInBounds_toArray, List.set_cons_zero, List.set_cons_succ])
          refine wpG_take _ (nv3) rfl (by rfl) (fun X hX => by first | rfl | go_simp) ?_
          (try simp only [Act.put, List.setIfInBounds_toArray, List.set_cons_zero, List.set_cons_succ])
          refine wpG_take _ (.bool true) rfl (by rfl) (fun X hX => by first | rfl | go_simp) ?_
          (try simp only [Act.put, List.setIfInBounds_toArray, List.set_cons_zero, List.set_cons_succ])
          refine wpG_nil ?_
          clear hs0 HTE
          go_wp2_with fail
          go_roundw
          case rel => exact ⟨k + 1, s3, rs ++ rs3, by omega, by go_num, HMO.out.trans hmo3, (by rw [show 5460 * N + 4745 * (k + 1) = 5460 * N + 4745 * k + 4745 by omega]; exact hl3), hf3.sub (fun y hy => by simp [hy])⟩
          case measure => simp [intOf]; omega
        · obtain rfl : k = N + 1 := by omega
          clear hlt hk wk4
          have HT9 := Lib.hid HF.out.tab
          have HB9 := Lib.hid HF.out.bel
          go_wp2_with fail
          refine (twakes_any _ HT9.out).mono ?_
          rintro e W9 ⟨rfl, hb9⟩
          have HE := Lib.hid (HP.out _ (HB1.out.trans ((HB9.out.trans (hb9.mono HB9.out.size)).mono HB1.out.size)))
          go_wp2_with fail
          first | exact HE.out | (go_ret; exact HE.out)
end Go.Proofs.YtfcjeceoedfldaaDoor
