/- MirrorPlays, walked. -/
import Derived.Test.YtmgagalhpkieoaaGreatDoorM47
import Derived.Test.YtmgagalhpkieoaaGreatDoorM48
import Derived.Test.YtmgagalhpkieoaaGreatDoorM49
import Derived.Test.YtmgagalhpkieoaaGreatDoorM50
namespace Go.Proofs.YtmgagalhpkieoaaGreatDoor
open Go.RowKit

structure LaF (Xp : Nat) (P : Pl) (q : Pt) (g : Nat) (Z : World) : Prop where
  cm : Z.cell? ⟨Xp, 4, none⟩ = some (.pointer (some ⟨P.M, 0, none⟩))
  pt : Blk Z g (pcells q) 58
structure LaW (w0 W0 : World) (lp0 lw0 : Nat → Nat) (Xp : Nat) (P : Pl) (V : Rl) (q : Pt) (f : d_Bs) (g B : Nat) (vb : Value) (x : Mi Dsk Sp) (y : Wi) (lp lw : Nat → Nat) (Z : World) : Prop where
  b : Bo w0 Z lp lw Xp P x V y
  st : St2 W0 lp0 lw0 Z lp lw
  pt : Blk Z g (pcells q) 58
  l : lp g = 0 ∧ lw g = 0
  ob : OwnB Z B vb f
  lb : ∀ i, vb.ownBlock = some i → lp i = 0 ∧ lw i = 0
def LaT (w0 W0 : World) (lp0 lw0 : Nat → Nat) (Xp : Nat) (P : Pl) (V : Rl) (q : Pt) (f : d_Bs) (g B : Nat) (vb : Value) (x : Mi Dsk Sp) (y : Wi) (Z : World) : Prop := ∃ lp lw, LaW w0 W0 lp0 lw0 Xp P V q f g B vb x y lp lw Z
section
variable {w0 W0 Z Z' : World} {lp0 lw0 lp lw : Nat → Nat} {Xp : Nat} {P : Pl} {V : Rl} {q : Pt} {f : d_Bs} {g B : Nat} {vb : Value} {x x' : Mi Dsk Sp} {y y' : Wi}
theorem LaW.fact (h : LaW w0 W0 lp0 lw0 Xp P V q f g B vb x y lp lw Z) : LaF Xp P q g Z := ⟨h.b.s.cm, h.pt⟩
theorem Bo.progE (h : Bo w0 Z lp lw Xp P x V y) (hp : MiPost Z lp P x' Z') : ∃ lp', Bo w0 Z' lp' lw Xp P x' V y ∧ St2 Z lp lw Z' lp' lw := by
  obtain ⟨l', h1, h2⟩ := hp
  refine ⟨l', ⟨h.s.stp h1 h2, h.m.out h2.chg (fun b hb => ?_), fun b hb => h2.lab0 (h.m.lt b hb) (h.ap b hb), h.ax, h.own⟩, h2.chg.mono (fun _ hb => .inl hb), h2.eq, fun _ _ => .inl rfl⟩
  by_cases e : lw b = 0
  · exact e
  · exact absurd (h.ap b e) hb.1
theorem LaW.stepE {l1 l2 : Nat → Nat} (h : LaW w0 W0 lp0 lw0 Xp P V q f g B vb x y lp lw Z) (h1 : Bo w0 Z' l1 l2 Xp P x' V y') (h2 : St2 Z lp lw Z' l1 l2) : LaW w0 W0 lp0 lw0 Xp P V q f g B vb x' y' l1 l2 Z' :=
  ⟨h1, h.st.trans h2, h2.blk h.pt h.l.1 h.l.2, h2.lab0 h.pt.lt h.l.1 h.l.2, owns_chg h.ob h2.chg (fun i hi hf => by
    have := h.lb i hi
    rcases hf with hf | hf
    · exact hf.1 this.1
    · exact hf this.2), fun i hi => h2.lab0 (World.ownsRow.lt h.ob i hi).2 (h.lb i hi).1 (h.lb i hi).2⟩
theorem LaW.post (h : LaW w0 W0 lp0 lw0 Xp P V q f g B vb x y lp lw Z) (hp : BoPost w0 Z lp lw Xp P x' V y' Z') : LaT w0 W0 lp0 lw0 Xp P V q f g B vb x' y' Z' := by
  obtain ⟨l1, l2, h1, h2⟩ := hp
  exact ⟨l1, l2, h1, h.st.trans h2, h2.blk h.pt h.l.1 h.l.2, h2.lab0 h.pt.lt h.l.1 h.l.2, owns_chg h.ob h2.chg (fun i hi hf => by
    have := h.lb i hi
    rcases hf with hf | hf
    · exact hf.1 this.1
    · exact hf this.2), fun i hi => h2.lab0 (World.ownsRow.lt h.ob i hi).2 (h.lb i hi).1 (h.lb i hi).2⟩
theorem LaW.below (h : LaW w0 W0 lp0 lw0 Xp P V q f g B vb x y lp lw Z) (hb : Below Z.heap.size Z Z') : LaW w0 W0 lp0 lw0 Xp P V q f g B vb x y lp lw Z' := ⟨h.b.below hb, h.st.trans (St2.below hb), h.pt.below hb h.pt.lt, h.l, owns_chg h.ob (Chg.of_below (F := fun _ => False) hb) (fun _ _ h => h), h.lb⟩
theorem LaW.drew (h : LaW w0 W0 lp0 lw0 Xp P V q f g B vb x y lp lw Z) : LaW w0 W0 lp0 lw0 Xp P V q f g B vb x y lp lw Z.drew := h.below (Below.refl _ _).drew
theorem LaT.fact (h : LaT w0 W0 lp0 lw0 Xp P V q f g B vb x y Z) : LaF Xp P q g Z := by
  obtain ⟨_, _, h⟩ := h
  exact h.fact
theorem WmAt.clears {lab : Nat → Nat} (h : WmAt Z lab V y) : WmPost Z lab V { y with mv := [] } (Z.setCell ⟨V.M, 8, none⟩ (.slice none 0 0)) :=
  h.moves (F := fun _ => False) (Chg.refl _ _) (fun _ h => h.elim) (World.ownsRow_nil _ _ _ _) (fun q hq => by simp at hq) (fun g hg => by cases hg)
end
def LwRel (w1 : World) (Xp : Nat) (P : Pl) (V : Rl) (len : Nat) (i : Value) (wr : World) : Prop := ∃ (k : Nat) (lp lw : Nat → Nat) (x : Mi Dsk Sp) (y : Wi), k ≤ len ∧ i = .int .i64 (k : Int) ∧ Bo w1 wr lp lw Xp P x V y ∧ Lim x (8 * k) ∧ Bw y (8 * k) ∧ MSim Sim SpT x y
set_option maxRecDepth 100000 in
set_option maxHeartbeats 32000000 in
theorem mplays_go (N : Nat) (hN1 : 1 ≤ N) (hN2 : N ≤ 12) (l : List Ma) (sp : Option Addr) (cap : Nat) (w : World) (hl : mgreat l = false) (hc : l.length ≤ cap) (hm : cap ≤ maxLen) (hA : MActsAt w sp l) (ht : Tab w) (hr : RTab w) :
    Calls Tryz.prog 3 #[.int .u8 (N : Int), .slice sp l.length cap] w fun e w' => e = .returned (.bool true) ∧ Below w.heap.size w w' := by
  have HS := Lib.hid (mgreat_small hl)
  have HCAP := Lib.hid hc; have HM := Lib.hid hm
  obtain ⟨n, hn⟩ : ∃ n, l.length = n := ⟨_, rfl⟩
  have HN := Lib.hid hn
  have hg1 := mgreat_any l sp n cap hn (by omega) hm _ hA
  rw [hl] at hg1
  have HG1 := Lib.hid hg1
  have HA := Lib.hid hA; have HT := Lib.hid ht; have HR := Lib.hid hr
  have i1 : ¬ (N : Int) < 1 := by omega
  have i2 : ¬ (12 : Int) < (N : Int) := by omega
  have iw := IntWalk.i64_in (N : Int) (by omega)
  have HNN := Lib.hid hN1; have HNM := Lib.hid hN2
  have HWK : Hid (∀ W, Below w.heap.size w W → Calls Tryz.prog 6 #[] W fun e w' => e = .returned (.bool true) ∧ Below w.heap.size w w') := Lib.hid fun W hb => (mwakes_any W (HT.out.below hb (Nat.le_refl _)) (HR.out.below hb (Nat.le_refl _))).mono fun e w' ⟨h1, h2⟩ => ⟨h1, hb.trans (h2.mono hb.size)⟩
  rw [hn]
  clear hl hc hm hA ht hr hg1 hN1 hN2 hn
  go_enter Tryz.func3, Tryz.ntmps3
  go_wp2_with fail
  refine HG1.out.mono ?_
  rintro e W2 ⟨rfl, hbb⟩
  have HBB := Lib.hid hbb
  clear hbb HG1
  go_wp2_with fail
  refine (begun_any N HNN.out (by have := HNM.out; omega) W2 (HT.out.below HBB.out (Nat.le_refl _)) (HR.out.below HBB.out (Nat.le_refl _))).mono ?_
  rintro e W3 ⟨Xp, P, lab, rfl, hbg⟩
  have HPS := Lib.hid (beg_prs hbg)
  have HA2 := Lib.hid (HA.out.below HBB.out (Nat.le_refl _))
  have HWK2 : Hid (∀ W, Below W2.heap.size W2 W → Calls Tryz.prog 6 #[] W fun e w' => e = .returned (.bool true) ∧ Below w.heap.size w w') := Lib.hid fun W hb => HWK.out W (HBB.out.trans (hb.mono HBB.out.size))
  have HL0 : Hid (LbW W3 N W3.heap.size (W3.heap.size + 1) (fun _ => 0) (fun _ => 0) 0 ((W3.alloc (.cells #[.bool false, .int .i64 (-1)] 36)).alloc (.cells (mz 0 (fun _ => 0) (fun _ => 0)).toArray 45))) := Lib.hid
    ⟨(Blk.new' _ _ [.bool false, .int .i64 (-1)] _ _ rfl rfl).alloc _, by have := Blk.new (W3.alloc (.cells #[.bool false, .int .i64 (-1)] 36)) (mz 0 (fun _ => 0) (fun _ => 0)) 45; simpa using this, fun i hi => absurd hi (by omega), fun i hi => absurd hi (by omega), Nat.le_refl _, by omega, fun i hi => absurd hi (by omega), fun hi => absurd hi (by omega), ((Below.refl _ _).alloc (Nat.le_refl _) _).alloc (by simp) _⟩
  clear hbg
  go_upto_region 9 with (first | (refine wpL_val rfl (q_ldM rfl rfl HPS.out.cm) ?_) | fail)
  refine (fun (k : ∀ Z, LbW W3 N W3.heap.size (W3.heap.size + 1) (fun _ => 0) (fun _ => 0) 0 Z → Code.wp _ _ _ _ Z) => k _ HL0.out) ?_
  intro W4 hl4
  have HL4 := Lib.hid hl4
  obtain ⟨qq, hqq⟩ : ∃ g, W3.heap.size = g := ⟨_, rfl⟩
  have HQQ := Lib.hid hqq
  rw [hqq] at HL4 ⊢
  clear hl4 HL0 hqq HWK HA
  go_loopw [8] (fun i wr => ∃ (k : Nat) (D R : Nat → Nat), k ≤ 2 ∧ i = .int .i64 (k : Int) ∧ LbW W3 N qq (qq + 1) D R k wr) (fun i _ => 2 - (intOf i).toNat)
  case atStart => exact ⟨0, _, _, by omega, rfl, HL4.out⟩
  case round =>
    clear HL4
    obtain ⟨k, D, R, hk, rfl, hlb⟩ := hrel
    have HLB := Lib.hid hlb
    have wk1 := IntWalk.i64_in ((k : Int) + 1) (by omega)
    by_cases hlt : k < 2
    · have HLB2 := Lib.hid hlb
      have h0k : (0 : Int) ≤ (k : Int) := by omega
      have h2k : (k : Int) < 2 := by omega
      have hms := hlb.mb.lt
      have f1 := hlb.mb.free k
      have c1 : ∃ u, wr.cell? ⟨qq + 1, k, none⟩ = some u := by
        obtain rfl | rfl : k = 0 ∨ k = 1 := by omega
        · exact ⟨_, hlb.mb.cell rfl⟩
        · exact ⟨_, hlb.mb.cell rfl⟩
      obtain ⟨u1, c1⟩ := c1
      have HMD := Lib.hid ((hlb.mb.set k (.pointer (some ⟨wr.heap.size, 0, none⟩))).alloc (.cells (dz N qq).toArray 49))
      have HLT := Lib.hid hlt
      clear hlb HLB hlt
      go_upto_region 12 with fail
      refine (fun (kk : ∀ Z, Z = ((wr.setCell ⟨qq + 1, k, none⟩ (.pointer (some ⟨wr.heap.size, 0, none⟩))).alloc (.cells (dz N qq).toArray 49)) → Code.wp _ _ _ _ Z) => kk _ rfl) ?_
      intro Wm hWm
      rw [← hWm] at HMD
      have HST := Lib.hid (HLB2.out.step HLT.out hWm)
      have f2 := HMD.out.free (2 + k)
      have hmm := HMD.out.lt
      have c2 : ∃ u, Wm.cell? ⟨qq + 1, 2 + k, none⟩ = some u := by
        have hlt := HLT.out
        obtain rfl | rfl : k = 0 ∨ k = 1 := by omega
        · exact ⟨_, HMD.out.cell rfl⟩
        · exact ⟨_, HMD.out.cell rfl⟩
      obtain ⟨u2, c2⟩ := c2
      clear hWm f1 c1 hms HMD HLB2
      go_wp2_with fail
      go_roundw
      case rel => exact ⟨k + 1, _, _, by have := HLT.out; omega, by go_num, HST.out⟩
      case measure => have := HLT.out; simp [intOf]; omega
    · obtain rfl : k = 2 := by omega
      rw [show ((2 : Nat) : Int) = (2 : Int) from rfl]
      obtain ⟨hwm, hown⟩ := HLB.out.wm (by have := HNM.out; omega)
      obtain ⟨V, hV⟩ : ∃ V : Rl, (⟨qq + 1, qq, D, R⟩ : Rl) = V := ⟨_, rfl⟩
      rw [hV] at hwm
      have hVM : V.M = qq + 1 := by rw [← hV]
      have hbo : Bo W2 wr lab (labW qq (qq + 1) D R) Xp P (start N) V (startR N) := ⟨HPS.out.below HLB.out.bel, hwm, fun b hb => HPS.out.new (hown b hb), by
        by_cases e : labW qq (qq + 1) D R Xp = 0
        · exact e
        · have h1 := hown Xp e
          have h2 := HPS.out.pr.lt
          omega, fun b hb => Nat.le_trans HPS.out.bel.size (hown b hb)⟩
      have HR0 : Hid (LwRel W2 Xp P V n (.int .i64 0) wr) := Lib.hid ⟨0, _, _, start N, startR N, by omega, rfl, hbo, start_lim N, startR_bw N, start_sim HNN.out⟩
      rw [← hVM]
      clear hwm hown hV hVM hbo HLB hlb wk1 hlt HPS
      go_wp2_with fail
      go_loopw [9] (fun i wr => LwRel W2 Xp P V n i wr) (fun i _ => n - (intOf i).toNat)
      case atStart => exact HR0.out
      case round =>
        clear HR0
        obtain ⟨k, lp, lw, x, y, hk, rfl, hs, hlim, hbw, hsi⟩ := hrel
        have HBO := Lib.hid hs; have HLM := Lib.hid hlim; have HBW := Lib.hid hbw; have HSI := Lib.hid hsi
        clear hs hlim hbw hsi
        have wk1 := IntWalk.i64_in ((k : Int) + 1) (by have := HS.out.1; have := HN.out; omega)
        by_cases hlt : k < n
        · have hkL : k < l.length := by have := HN.out; omega
          obtain ⟨m, hmk⟩ : ∃ m, l[k]? = some m := ⟨_, List.getElem?_eq_getElem hkL⟩
          obtain ⟨g, o, rfl, hg, hcl⟩ := HA2.out.2 (by omega)
          have hok0 := HA2.out.1 m (List.mem_of_getElem? hmk)
          have HSM := Lib.hid (HS.out.2 m (List.mem_of_getElem? hmk))
          have hrg0 := hcl k m hmk
          have HRG : Hid (∀ W, Below W2.heap.size W2 W → W.rangeAt g (o + k * 51) m.cells) := Lib.hid fun W hb => range_below hrg0 hb hg
          have HOK := Lib.hid hok0
          have HQO := Lib.hid (Ma.q_ok hok0)
          have HLC := Lib.hid hok0.len
          have HSQ := Lib.hid (size_pc HQO.out)
          have HLQ : Hid ((pcells m.q).toArray.size = 41) := Lib.hid (by rw [List.size_toArray, pcells_length HQO.out])
          have h0k : (0 : Int) ≤ (k : Int) := by omega
          have hkn : (k : Int) < (n : Int) := by omega
          have HK8 : Hid (8 * k < 500) := Lib.hid (by have := HS.out.1; have := HN.out; omega)
          have HLM2 : Hid (Lim (doS x m) (8 * (k + 1))) := Lib.hid ((HLM.out.act HQO.out).mono (by omega))
          have HBW2 : Hid (Bw (doR y m) (8 * (k + 1))) := Lib.hid ((HBW.out.act HQO.out HOK.out.a.addr).up (by omega))
          have HSI2 := Lib.hid (HSI.out.act m HQO.out)
          have HCPS : Hid (∀ c ∈ copiesP m.q, c.1 < 2 ∧ 0 < c.2) := Lib.hid (fun c hc => ⟨(cps_ok HQO.out c hc).1, (cps_ok HQO.out c hc).2.1⟩)
          have HSE := Lib.hid (sealed_any (m.d : Int) m.p HOK.out.p m.b m.sp m.b.length m.cap rfl (by have := HSM.out.1; omega) m.wr (acs m.a) (acs_len _) wr (HOK.out.b.below HBO.out.s.bel (Nat.le_refl _)))
          rw [show (.agg (actC (m.d : Int) m.p (.slice m.sp m.b.length m.cap) m.wr (acs m.a)).toArray : Value) = .agg m.cells.toArray from rfl] at HSE
          clear hcl hmk hkL hg hrg0 hok0
          go_wp2_with (first | (refine wpL_val rfl (ex_ld (ty := 65) (cs := m.cells) (off := o + k * 51) rfl rfl (HRG.out _ HBO.out.s.bel) Tryz.underlying65 rfl (by rw [sizeMA, HLC.out])) ?_) | fail)
          refine HSE.out.mono ?_
          rintro e W5 ⟨v5, rfl, ho5, hb5⟩
          rw [show (if m.wr then m.p else sealP m.p (d_full m.b)) = m.q from rfl]
          obtain ⟨sp7, cap7, rfl, r1, r2, r3, r4, r5⟩ := OwnB.form ho5
          have HF : Hid ((d_full m.b).length = 512) := Lib.hid (full_length _)
          rw [HF.out] at r1 ho5 ⊢
          have HC7 := Lib.hid r1; have HM7 := Lib.hid r2
          have HO5 := Lib.hid ho5; have HB5 := Lib.hid (HBO.out.below hb5)
          clear r1 r2 r3 r4 r5 ho5 hb5 HSE
          go_upto_region 17 with (first | (refine wpList_store_row rfl 58 (.tmp 10) (.tmp 76) rfl W5.heap.size (pcells m.q).toArray rfl rfl 58 _ (heap_alloc_new W5 _) HSQ.out (by rw [HLQ.out]; rfl) (one_pc m.q) ?_) | fail)
          refine (fun (k : ∀ Z, Blk Z W5.heap.size (pcells m.q) 58 → Below W5.heap.size W5 Z → Code.wp _ _ _ _ Z) => k _ (blk_row1 W5 _ (pcells m.q) 58).1 (blk_row1 W5 _ (pcells m.q) 58).2) ?_
          intro W6 hq6 hb6
          have HX : Hid (LaW W2 W6 lp lw Xp P V m.q m.f W5.heap.size wr.heap.size (.slice sp7 512 cap7) x y lp lw W6) := Lib.hid ⟨HB5.out.below hb6, St2.refl _ _ _, hq6, HB5.out.new (Nat.le_refl _), owns_chg HO5.out (Chg.of_below (F := fun _ => False) hb6) (fun _ _ h => h), fun i hi => HBO.out.new (World.ownsRow.lt HO5.out i hi).1⟩
          obtain ⟨g9, hg9⟩ : ∃ g, W5.heap.size = g := ⟨_, rfl⟩
          obtain ⟨B9, hB9⟩ : ∃ g, wr.heap.size = g := ⟨_, rfl⟩
          rw [hg9, hB9] at HX
          rw [hg9]
          have cdo : W6.cell? ⟨g, o + k * 51, none⟩ = some (.int .u8 (m.d : Int)) := by
            have := (HRG.out W6 HX.out.b.s.bel) 0 _ (show m.cells[0]? = some (.int .u8 (m.d : Int)) from rfl)
            simpa using this
          have HSR : Hid (∀ {x' : Mi Dsk Sp} {y' : Wi} {Z : World} {l1 l2 : Nat → Nat}, LaW W2 W6 lp lw Xp P V m.q m.f g9 B9 (.slice sp7 512 cap7) x' y' l1 l2 Z → SrcA Z sp7 m.f ∧ ∀ a, sp7 = some a → l1 a.block = 0) := Lib.hid (fun hz => by
            obtain ⟨sp5, cap5, e5, -, -, q3, -, -⟩ := OwnB.form hz.ob
            have hf : m.f.length = 512 := HF.out
            rw [hf] at e5
            injection e5 with e6 _ _
            rw [e6]
            exact ⟨q3, fun a ha => (hz.lb a.block (by rw [e6, ha]; rfl)).1⟩)
          clear hq6 hb6 hg9 hB9 HB5 HO5 HBO HSQ HLQ
          by_cases h0 : m.d = 0
          · have i0 : (m.d : Int) = 0 := by omega
            have eS : doS x m = healS kinD x m.q false := by unfold doS; rw [if_pos h0]
            have eR : doR y m = healS kinR y m.q false := by unfold doR; rw [if_pos h0]
            obtain ⟨hE, hB, -⟩ := HSI.out.heal alike m.q HCPS.out false
            have HES := Lib.hid eS; have HER := Lib.hid eR; have HE := Lib.hid hE; have HBq := Lib.hid hB
            clear h0 eS eR hE hB
            go_upto_region 21 with fail
            refine gS (.take 0 (.take 1 (.take 2 (.take 3 (.take 4 (.step 5 (.take 6 (.take 7 (.take 8 (.take 9 (.take 10 (.nil)))))))))))) (LaF Xp P m.q g9) HX.out.drew.fact ?_
            refine gT (.pointer (some ⟨Xp, 0, none⟩)) ?_; try simp only [pS]
            refine gT (.pointer (some ⟨Xp, 0, none⟩)) ?_; try simp only [pS]
            refine gT (.pointer (some ⟨Xp, 4, none⟩)) ?_; try simp only [pS]
            refine wpG_take _ (.pointer (some ⟨P.M, 0, none⟩)) rfl (by rfl) (fun X hX => q_ldM rfl rfl hX.cm) ?_; try simp only [pS]
            refine wpG_take _ (.agg (pcells m.q).toArray) rfl (by rfl) (fun X hX => ex_ldPq HQO.out hX.pt rfl rfl) ?_; try simp only [pS]
            have hrd := read_any8 m.q HQO.out W6.drew lp P x (8 * k) HX.out.drew.b.s.mi HLM.out (by have := HK8.out; omega)
            refine wpG_call _ rfl (by rfl) 9 #[.pointer (some ⟨P.M, 0, none⟩), .agg (pcells m.q).toArray] (fun _ => by go_simp) (fun u w' => ∃ v, u = .tuple #[v, .int .i64 (healE kinD x m.q false)] ∧ ∃ l1 l2, LaW W2 W6 lp lw Xp P V m.q m.f g9 B9 (.slice sp7 512 cap7) (healS kinD x m.q false) y l1 l2 w' ∧ ∃ sp n c, v = .slice sp n c ∧ ((healB kinD x m.q false).getD []).length = n ∧ SrcA w' sp ((healB kinD x m.q false).getD []) ∧ ∀ a, sp = some a → l2 a.block = 0) (hrd.mono fun e w' hh => by
              obtain ⟨v, e1, lab', h1, h2, h3⟩ := hh
              obtain ⟨l1, f1, f2⟩ := HX.out.drew.b.progE ⟨lab', h1, h2⟩
              have f3 := HX.out.drew.stepE f1 f2
              refine ⟨_, e1, f3.fact, v, rfl, l1, lw, f3, ?_⟩
              cases hbv : healB kinD x m.q false with
              | none =>
                rw [hbv] at h3
                obtain rfl := h3
                exact ⟨none, 0, 0, rfl, rfl, fun h0 => absurd h0 (by simp), fun a ha => by cases ha⟩
              | some b =>
                rw [hbv] at h3
                obtain ⟨gb, e2, hlb, h4, h5⟩ := h3
                refine ⟨some ⟨gb, 0, none⟩, 512, 512, e2, hlb, fun _ => ⟨gb, 0, rfl, h4.lt, fun j hj => by rw [Nat.zero_add]; exact h4.cell (get_map V8 b j hj 0)⟩, fun a ha => ?_⟩
                obtain rfl := Option.some.inj ha
                exact HX.out.drew.b.m.new h5.2) ?_
            rintro u Wn hsn ⟨v3, rfl, l1, l2, hx1, spv, nv, cv, rfl, hnv, hsv, hlv⟩
            refine ⟨_, fun _ h => h, hsn, ?_⟩; try simp only [pS]
            refine gT (.tuple #[.slice spv nv cv, .int .i64 (healE kinD x m.q false)]) ?_; try simp only [pS]
            refine gT (.slice spv nv cv) ?_; try simp only [pS]
            refine gT (.int .i64 (healE kinD x m.q false)) ?_; try simp only [pS]
            refine gT (.slice spv nv cv) ?_; try simp only [pS]
            refine gT (.int .i64 (healE kinD x m.q false)) ?_; try simp only [pS]
            refine wpG_nil ?_
            have HX1 := Lib.hid hx1
            have HHL := Lib.hid (wheal_any m.q HQO.out false Wn l2 V y (8 * k) hx1.b.m HBW.out (by have := HK8.out; omega))
            have HNV := Lib.hid hnv; have HSV := Lib.hid hsv; have HLV := Lib.hid hlv
            clear hsn hx1 hrd hnv hsv hlv HX cdo
            go_wp2_with (first | (refine wpL_val rfl (ex_ldPq HQO.out HX1.out.pt rfl rfl) ?_) | fail)
            refine HHL.out.mono ?_
            rintro e W8 ⟨he8, hw8⟩
            unfold HlE at he8
            rw [← HE.out, ← HBq.out] at he8
            subst he8
            have hp9 : LaT W2 W6 lp lw Xp P V m.q m.f g9 B9 (.slice sp7 512 cap7) (doS x m) (doR y m) W8 := by rw [HES.out, HER.out]; exact HX1.out.post (HX1.out.b.doc hw8)
            have hsv8 : SrcA W8 spv ((healB kinD x m.q false).getD []) := by
              obtain ⟨l5, h5, h6⟩ := hw8
              exact (HSV.out.stp (lab := l2) HLV.out h6).1
            have HSV8 := Lib.hid hsv8
            have HP9 := Lib.hid hp9
            obtain ⟨bb, hbb⟩ : ∃ b, (healB kinD x m.q false).getD [] = b := ⟨_, rfl⟩
            obtain ⟨z, hz⟩ : ∃ z, healE kinD x m.q false = z := ⟨_, rfl⟩
            rw [hbb] at HSV8 HNV ⊢
            rw [hz]
            clear hw8 hp9 hsv8 HHL HX1 HES HER HE HBq HSV HLV hbb hz
            have qz : ((z : Int) != (z : Int)) = false := by simp
            go_upto_region 38 with (first | (refine wpL_val rfl (q_cvs rfl HNV.out rfl HSV8.out) ?_) | (refine wpL_val rfl (w_neStr rfl rfl rfl) ?_) | fail)
            have hp9 := HP9.out
            obtain ⟨l8, l9, hx9⟩ := hp9
            have HX9 := Lib.hid hx9
            have HSA := Lib.hid (msame_any W2 W8 l8 l9 Xp P (doS x m) V (doR y m) (8 * (k + 1)) (8 * (k + 1)) hx9.b HSI2.out HLM2.out (by have := HK8.out; omega) HBW2.out (by have := HK8.out; omega))
            clear hx9
            go_wp2_with fail
            refine HSA.out.mono ?_
            rintro e W9 ⟨rfl, hb9⟩
            have HB9 := Lib.hid (HX9.out.b.below hb9)
            clear hb9 HX9 HSA
            go_wp2_with fail
            go_roundw
            case rel => exact ⟨k + 1, l8, l9, doS x m, doR y m, by omega, by go_num, HB9.out, HLM2.out, HBW2.out, HSI2.out⟩
            case measure => simp [intOf]; omega
          have i0 : ¬ (m.d : Int) = 0 := by omega
          go_upto_region 26 with fail
          clear cdo
          by_cases h1 : m.d = 1
          · have i1 : (m.d : Int) = 1 := by omega
            have eS : doS x m = healS kinD x m.q true := by unfold doS; rw [if_neg h0, if_pos h1]
            have eR : doR y m = healS kinR y m.q true := by unfold doR; rw [if_neg h0, if_pos h1]
            have HES := Lib.hid eS; have HER := Lib.hid eR
            clear eS eR h0 h1
            obtain ⟨hE, -, -⟩ := HSI.out.heal alike m.q HCPS.out true
            have HE := Lib.hid hE
            clear hE
            go_upto_region 27 with fail
            refine gS (.take 0 (.take 1 (.take 2 (.take 3 (.take 4 (.step 5 (.take 6 (.nil)))))))) (LaF Xp P m.q g9) HX.out.drew.fact ?_
            refine gT (.pointer (some ⟨Xp, 0, none⟩)) ?_; try simp only [pS]
            refine gT (.pointer (some ⟨Xp, 0, none⟩)) ?_; try simp only [pS]
            refine gT (.pointer (some ⟨Xp, 4, none⟩)) ?_; try simp only [pS]
            refine wpG_take _ (.pointer (some ⟨P.M, 0, none⟩)) rfl (by rfl) (fun X hX => q_ldM rfl rfl hX.cm) ?_; try simp only [pS]
            refine wpG_take _ (.agg (pcells m.q).toArray) rfl (by rfl) (fun X hX => ex_ldPq HQO.out hX.pt rfl rfl) ?_; try simp only [pS]
            have hrd := check_any8 m.q HQO.out W6.drew lp P x (8 * k) HX.out.drew.b.s.mi HLM.out (by have := HK8.out; omega)
            refine wpG_call _ rfl (by rfl) 11 #[.pointer (some ⟨P.M, 0, none⟩), .agg (pcells m.q).toArray] (fun _ => by go_simp) (fun u w' => u = .int .i64 (healE kinD x m.q true) ∧ LaT W2 W6 lp lw Xp P V m.q m.f g9 B9 (.slice sp7 512 cap7) (healS kinD x m.q true) (y) w') (hrd.mono fun e w' hh => by
              obtain ⟨e1, v, lab', k1, k2, k3⟩ := hh
              have h1 : MiPost W6.drew lp P (healS kinD x m.q true) w' := ⟨lab', k1, k2⟩
              have f3 := HX.out.drew.post (HX.out.drew.b.prog h1)
              exact ⟨_, e1, f3.fact, rfl, f3⟩) ?_
            rintro u Wn hsn ⟨rfl, l1, l2, hx1⟩
            refine ⟨_, fun _ h => h, hsn, ?_⟩; try simp only [pS]
            refine gT (.int .i64 (healE kinD x m.q true)) ?_; try simp only [pS]
            refine wpG_nil ?_
            have HX1 := Lib.hid hx1
            have HHL := Lib.hid (wheal_any m.q HQO.out true Wn l2 V y (8 * k) hx1.b.m HBW.out (by have := HK8.out; omega))
            clear hsn hx1 hrd HX
            go_wp2_with (first | (refine wpL_val rfl (ex_ldPq HQO.out HX1.out.pt rfl rfl) ?_) | fail)
            refine HHL.out.mono ?_
            rintro e W8 ⟨he8, hw8⟩
            unfold HlE at he8
            rw [← HE.out] at he8
            subst he8
            have HP9 : Hid (LaT W2 W6 lp lw Xp P V m.q m.f g9 B9 (.slice sp7 512 cap7) (doS x m) (doR y m) W8) := Lib.hid (by rw [HES.out, HER.out]; exact HX1.out.post (HX1.out.b.doc hw8))
            obtain ⟨z, hz⟩ : ∃ z, healE kinD x m.q true = z := ⟨_, rfl⟩
            rw [hz]
            generalize bstr ((healB kinR y m.q true).getD []) = sx
            clear hz HE
            clear hw8 HHL HX1 HES HER
            have qz : ((z : Int) != (z : Int)) = false := by simp
            go_upto_region 38 with fail
            have hp9 := HP9.out
            obtain ⟨l8, l9, hx9⟩ := hp9
            have HX9 := Lib.hid hx9
            have HSA := Lib.hid (msame_any W2 W8 l8 l9 Xp P (doS x m) V (doR y m) (8 * (k + 1)) (8 * (k + 1)) hx9.b HSI2.out HLM2.out (by have := HK8.out; omega) HBW2.out (by have := HK8.out; omega))
            clear hx9
            go_wp2_with fail
            refine HSA.out.mono ?_
            rintro e W9 ⟨rfl, hb9⟩
            have HB9 := Lib.hid (HX9.out.b.below hb9)
            clear hb9 HX9 HSA
            go_wp2_with fail
            go_roundw
            case rel => exact ⟨k + 1, l8, l9, doS x m, doR y m, by omega, by go_num, HB9.out, HLM2.out, HBW2.out, HSI2.out⟩
            case measure => simp [intOf]; omega
          have i1 : ¬ (m.d : Int) = 1 := by omega
          go_upto_region 29 with fail
          by_cases h2 : m.d = 2
          · have i2 : (m.d : Int) = 2 := by omega
            have eS : doS x m = (writeR kinD x m.q m.f).2 := by unfold doS; rw [if_neg h0, if_neg h1, if_pos h2]
            have eR : doR y m = (writeR kinR y m.q m.f).2 := by unfold doR; rw [if_neg h0, if_neg h1, if_pos h2]
            have HES := Lib.hid eS; have HER := Lib.hid eR
            clear eS eR h0 h1 h2
            obtain ⟨hE, -⟩ := HSI.out.write alike m.q m.f (fun c h => (HCPS.out c h).1)
            have HE := Lib.hid hE
            clear hE
            go_upto_region 30 with fail
            refine gS (.take 0 (.take 1 (.take 2 (.take 3 (.take 4 (.take 5 (.step 6 (.take 7 (.nil))))))))) (LaF Xp P m.q g9) HX.out.drew.fact ?_
            refine gT (.pointer (some ⟨Xp, 0, none⟩)) ?_; try simp only [pS]
            refine gT (.pointer (some ⟨Xp, 0, none⟩)) ?_; try simp only [pS]
            refine gT (.pointer (some ⟨Xp, 4, none⟩)) ?_; try simp only [pS]
            refine wpG_take _ (.pointer (some ⟨P.M, 0, none⟩)) rfl (by rfl) (fun X hX => q_ldM rfl rfl hX.cm) ?_; try simp only [pS]
            refine wpG_take _ (.agg (pcells m.q).toArray) rfl (by rfl) (fun X hX => ex_ldPq HQO.out hX.pt rfl rfl) ?_; try simp only [pS]
            refine gT (.slice sp7 512 cap7) ?_; try simp only [pS]
            have hrd := write_any8 m.q HQO.out m.f sp7 512 cap7 W6.drew lp P x (8 * k) HX.out.drew.b.s.mi HLM.out (by have := HK8.out; omega) HF.out (by omega) HC7.out HM7.out (HSR.out HX.out.drew).1 (HSR.out HX.out.drew).2
            refine wpG_call _ rfl (by rfl) 12 #[.pointer (some ⟨P.M, 0, none⟩), .agg (pcells m.q).toArray, .slice sp7 512 cap7] (fun _ => by go_simp) (fun u w' => u = .int .i64 (writeR kinD x m.q m.f).1 ∧ LaT W2 W6 lp lw Xp P V m.q m.f g9 B9 (.slice sp7 512 cap7) ((writeR kinD x m.q m.f).2) (y) w') (hrd.mono fun e w' hh => by
              obtain ⟨e1, h1⟩ := hh
              have f3 := HX.out.drew.post (HX.out.drew.b.prog h1)
              exact ⟨_, e1, f3.fact, rfl, f3⟩) ?_
            rintro u Wn hsn ⟨rfl, l1, l2, hx1⟩
            refine ⟨_, fun _ h => h, hsn, ?_⟩; try simp only [pS]
            refine gT (.int .i64 (writeR kinD x m.q m.f).1) ?_; try simp only [pS]
            refine wpG_nil ?_
            have HSV := Lib.hid (HSR.out hx1).1
            have HF2 : Hid (m.f.length = 512) := Lib.hid HF.out
            have HX1 := Lib.hid hx1
            have HHL := Lib.hid (wwrite_any m.q HQO.out m.f (by have := HF2.out; omega) Wn l2 V y (8 * k) hx1.b.m HBW.out (by have := HK8.out; omega))
            clear hsn hx1 hrd HX
            go_wp2_with (first | (refine wpL_val rfl (ex_ldPq HQO.out HX1.out.pt rfl rfl) ?_) | (refine wpL_val rfl (q_cvs rfl HF2.out rfl HSV.out) ?_) | fail)
            refine HHL.out.mono ?_
            rintro e W8 ⟨he8, hw8⟩
            rw [← HE.out] at he8
            subst he8
            have HP9 : Hid (LaT W2 W6 lp lw Xp P V m.q m.f g9 B9 (.slice sp7 512 cap7) (doS x m) (doR y m) W8) := Lib.hid (by rw [HES.out, HER.out]; exact HX1.out.post (HX1.out.b.doc hw8))
            obtain ⟨z, hz⟩ : ∃ z, (writeR kinD x m.q m.f).1 = z := ⟨_, rfl⟩
            rw [hz]
            generalize bstr m.f = sx
            clear hz HE HSV HF2
            clear hw8 HHL HX1 HES HER
            have qz : ((z : Int) != (z : Int)) = false := by simp
            go_upto_region 38 with fail
            have hp9 := HP9.out
            obtain ⟨l8, l9, hx9⟩ := hp9
            have HX9 := Lib.hid hx9
            have HSA := Lib.hid (msame_any W2 W8 l8 l9 Xp P (doS x m) V (doR y m) (8 * (k + 1)) (8 * (k + 1)) hx9.b HSI2.out HLM2.out (by have := HK8.out; omega) HBW2.out (by have := HK8.out; omega))
            clear hx9
            go_wp2_with fail
            refine HSA.out.mono ?_
            rintro e W9 ⟨rfl, hb9⟩
            have HB9 := Lib.hid (HX9.out.b.below hb9)
            clear hb9 HX9 HSA
            go_wp2_with fail
            go_roundw
            case rel => exact ⟨k + 1, l8, l9, doS x m, doR y m, by omega, by go_num, HB9.out, HLM2.out, HBW2.out, HSI2.out⟩
            case measure => simp [intOf]; omega
          have i2 : ¬ (m.d : Int) = 2 := by omega
          go_upto_region 32 with fail
          by_cases h3 : m.d = 3
          · have i3 : (m.d : Int) = 3 := by omega
            have eS : doS x m = (flushR kinD x).2 := by unfold doS; rw [if_neg h0, if_neg h1, if_neg h2, if_pos h3]
            have eR : doR y m = (flushR kinR y).2 := by unfold doR; rw [if_neg h0, if_neg h1, if_neg h2, if_pos h3]
            have HES := Lib.hid eS; have HER := Lib.hid eR
            clear eS eR h0 h1 h2 h3
            obtain ⟨hE, -⟩ := HSI.out.flush alike
            have HE := Lib.hid hE
            clear hE
            have HFL := Lib.hid (flush_any8 W6 lp P x (8 * k) HX.out.b.s.mi HLM.out (by have := HK8.out; omega))
            go_wp2_with (first | (refine wpL_val rfl (q_ldM rfl rfl HX.out.b.s.cm) ?_) | fail)
            refine HFL.out.mono ?_
            rintro e Wn ⟨rfl, hp⟩
            obtain ⟨l1, l2, hx1⟩ := HX.out.post (HX.out.b.prog hp)
            have hsn := hp; have hrd := hp
            clear HFL hp
            have HX1 := Lib.hid hx1
            have HHL := Lib.hid (wflush_any Wn l2 V y (8 * k) hx1.b.m HBW.out (by have := HK8.out; omega))
            clear hsn hx1 hrd HX
            go_wp2_with fail
            refine HHL.out.mono ?_
            rintro e W8 ⟨he8, hw8⟩
            rw [← HE.out] at he8
            subst he8
            have HP9 : Hid (LaT W2 W6 lp lw Xp P V m.q m.f g9 B9 (.slice sp7 512 cap7) (doS x m) (doR y m) W8) := Lib.hid (by rw [HES.out, HER.out]; exact HX1.out.post (HX1.out.b.doc hw8))
            obtain ⟨z, hz⟩ : ∃ z, (flushR kinD x).1 = z := ⟨_, rfl⟩
            rw [hz]
            clear hz HE
            clear hw8 HHL HX1 HES HER
            have qz : ((z : Int) != (z : Int)) = false := by simp
            go_upto_region 38 with fail
            have hp9 := HP9.out
            obtain ⟨l8, l9, hx9⟩ := hp9
            have HX9 := Lib.hid hx9
            have HSA := Lib.hid (msame_any W2 W8 l8 l9 Xp P (doS x m) V (doR y m) (8 * (k + 1)) (8 * (k + 1)) hx9.b HSI2.out HLM2.out (by have := HK8.out; omega) HBW2.out (by have := HK8.out; omega))
            clear hx9
            go_wp2_with fail
            refine HSA.out.mono ?_
            rintro e W9 ⟨rfl, hb9⟩
            have HB9 := Lib.hid (HX9.out.b.below hb9)
            clear hb9 HX9 HSA
            go_wp2_with fail
            go_roundw
            case rel => exact ⟨k + 1, l8, l9, doS x m, doR y m, by omega, by go_num, HB9.out, HLM2.out, HBW2.out, HSI2.out⟩
            case measure => simp [intOf]; omega
          have i3 : ¬ (m.d : Int) = 3 := by omega
          go_upto_region 35 with fail
          by_cases h4 : m.d = 4
          · have i4 : (m.d : Int) = 4 := by omega
            have eS : doS x m = { x with mv := [] } := by unfold doS; rw [if_neg h0, if_neg h1, if_neg h2, if_neg h3, if_pos h4]
            have eR : doR y m = { y with mv := [] } := by unfold doR; rw [if_neg h0, if_neg h1, if_neg h2, if_neg h3, if_pos h4]
            have HES := Lib.hid eS; have HER := Lib.hid eR
            clear eS eR h0 h1 h2 h3 h4
            have HFL := Lib.hid (clear_any8 W6 lp P x HX.out.b.s.mi)
            go_wp2_with (first | (refine wpL_val rfl (q_ldM rfl rfl HX.out.b.s.cm) ?_) | fail)
            refine HFL.out.mono ?_
            rintro e Wn ⟨rfl, hp⟩
            obtain ⟨l1, l2, hx1⟩ := HX.out.post (HX.out.b.prog hp)
            have hsn := hp; have hrd := hp
            clear HFL hp
            obtain ⟨v8, hv8, -⟩ := hx1.b.m.mi
            have c8 : Wn.cell? ⟨V.M, 8, none⟩ = some v8 := hv8.cell rfl
            have f8 := hx1.b.m.mfree 8
            have HP9 : Hid (LaT W2 W6 lp lw Xp P V m.q m.f g9 B9 (.slice sp7 512 cap7) (doS x m) (doR y m) (Wn.setCell ⟨V.M, 8, none⟩ (.slice none 0 0))) := Lib.hid (by rw [HES.out, HER.out]; exact hx1.post (hx1.b.doc hx1.b.m.clears))
            clear hsn hrd hv8 hx1 HX HES HER
            go_upto_region 38 with fail
            obtain ⟨W8, hW8⟩ : ∃ W, Wn.setCell ⟨V.M, 8, none⟩ (.slice none 0 0) = W := ⟨_, rfl⟩
            rw [hW8] at HP9 ⊢
            clear hW8 c8 f8
            have hp9 := HP9.out
            obtain ⟨l8, l9, hx9⟩ := hp9
            have HX9 := Lib.hid hx9
            have HSA := Lib.hid (msame_any W2 W8 l8 l9 Xp P (doS x m) V (doR y m) (8 * (k + 1)) (8 * (k + 1)) hx9.b HSI2.out HLM2.out (by have := HK8.out; omega) HBW2.out (by have := HK8.out; omega))
            clear hx9
            go_wp2_with fail
            refine HSA.out.mono ?_
            rintro e W9 ⟨rfl, hb9⟩
            have HB9 := Lib.hid (HX9.out.b.below hb9)
            clear hb9 HX9 HSA
            go_wp2_with fail
            go_roundw
            case rel => exact ⟨k + 1, l8, l9, doS x m, doR y m, by omega, by go_num, HB9.out, HLM2.out, HBW2.out, HSI2.out⟩
            case measure => simp [intOf]; omega
          have i4 : ¬ (m.d : Int) = 4 := by omega
          have eS : doS x m = faultS x m.a := by unfold doS; rw [if_neg h0, if_neg h1, if_neg h2, if_neg h3, if_neg h4]
          have eR : doR y m = faultR y m.a := by unfold doR; rw [if_neg h0, if_neg h1, if_neg h2, if_neg h3, if_neg h4]
          have HRA : Hid (W6.rangeAt g (o + k * 51 + 44) (acs m.a)) := Lib.hid (fun j v hv => by
            have hj : j < 7 := by have := (List.getElem?_eq_some_iff.1 hv).1; rw [acs_len] at this; exact this
            rw [acs_at _ hj] at hv
            have := (HRG.out W6 HX.out.b.s.bel) (44 + j) v (by rw [Ma.cell44 HOK.out hj]; exact hv)
            rw [show o + k * 51 + (44 + j) = o + k * 51 + 44 + j by omega] at this
            exact this)
          have HFA := Lib.hid (mfaults_any m.a W2 W6 lp lw Xp P x V y (8 * k) (8 * k) HX.out.b HLM.out (by have := HK8.out; omega) HBW.out (by have := HK8.out; omega) HOK.out.a HSM.out.2.1)
          rw [← eS, ← eR] at HFA
          clear eS eR h0 h1 h2 h3 h4
          go_wp2_with (first | (refine wpL_val rfl (ex_ld (ty := 63) (cs := acs m.a) (off := o + k * 51 + 44) rfl rfl HRA.out Tryz.underlying63 rfl (by rw [sizeDA, acs_len])) ?_) | fail)
          refine HFA.out.mono ?_
          rintro e W8 ⟨rfl, hp8⟩
          have HP9 : Hid (LaT W2 W6 lp lw Xp P V m.q m.f g9 B9 (.slice sp7 512 cap7) (doS x m) (doR y m) W8) := Lib.hid (HX.out.post hp8)
          clear hp8 HFA HRA HX
          go_upto_region 38 with fail
          have hp9 := HP9.out
          obtain ⟨l8, l9, hx9⟩ := hp9
          have HX9 := Lib.hid hx9
          have HSA := Lib.hid (msame_any W2 W8 l8 l9 Xp P (doS x m) V (doR y m) (8 * (k + 1)) (8 * (k + 1)) hx9.b HSI2.out HLM2.out (by have := HK8.out; omega) HBW2.out (by have := HK8.out; omega))
          clear hx9
          go_wp2_with fail
          refine HSA.out.mono ?_
          rintro e W9 ⟨rfl, hb9⟩
          have HB9 := Lib.hid (HX9.out.b.below hb9)
          clear hb9 HX9 HSA
          go_wp2_with fail
          go_roundw
          case rel => exact ⟨k + 1, l8, l9, doS x m, doR y m, by omega, by go_num, HB9.out, HLM2.out, HBW2.out, HSI2.out⟩
          case measure => simp [intOf]; omega
        · obtain rfl : k = n := by omega
          have HW9 := Lib.hid (HWK2.out wr HBO.out.s.bel)
          clear hlt wk1 HBO
          go_wp2_with fail
          refine HW9.out.mono ?_
          rintro e W9 ⟨rfl, hb9⟩
          have HB9 := Lib.hid hb9
          clear hb9 HW9
          go_wp2_with fail
          go_ret
          exact ⟨rfl, HB9.out⟩
end Go.Proofs.YtmgagalhpkieoaaGreatDoor
