/- MirrorHeals, walked. -/
import Derived.Test.YtmgagalhpkieoaaGreatDoorM41
import Derived.Test.YtmgagalhpkieoaaGreatDoorM42
namespace Go.Proofs.YtmgagalhpkieoaaGreatDoor
open Go.RowKit

theorem sizeMA : (Tryz.prog.info? 65).map (·.size) = some 51 := by kernel_rfl
theorem infoMA : (Tryz.prog.info? 65).map (fun i => (i.zero.map (·.cells.size), i.size, decide (i.bytes ≤ 1000))) = some (some 51, 51, true) := by kernel_rfl
theorem info_partsMA : ∃ i z, Tryz.prog.info? 65 = some i ∧ i.zero = some z ∧ z.cells.size = 51 ∧ i.size = 51 ∧ i.bytes ≤ 1000 := by
  obtain ⟨i, h1, h2⟩ := Option.map_eq_some_iff.1 infoMA
  simp only [Prod.mk.injEq] at h2
  obtain ⟨z, hz, hz2⟩ := Option.map_eq_some_iff.1 h2.1
  exact ⟨i, z, h1, hz, hz2, h2.2.1, of_decide_eq_true h2.2.2⟩
theorem q_oneMA (m : Ma) (hm : m.cells.length = 51) {ρ : Operand → Value} {o : Oper} {x : Operand} {w : World} (ho : o.op = .buildSlice 22 1 #[(0, x)]) (hx : ρ x = .agg m.cells.toArray) :
    (execOp ρ o).run Tryz.prog w = .ok (.value (.slice (some ⟨w.heap.size, 0, none⟩) 1 1)) (w.alloc (.cells m.cells.toArray 65)) := by
  obtain ⟨i, z, hi, hz, hzs, his, hib⟩ := info_partsMA
  have hr := run_buildSlice (P := Tryz.prog) w 22 65 1 #[(0, .agg m.cells.toArray)] m.cells.toArray i z Tryz.underlying22 hi hz (by rw [his]; omega) (by rw [his]; omega)
    (fill_whole (size := 51) (by simp [his]) (by simp [Value.cells, hm]) (by simp [his]))
  unfold execOp
  simp only [ho]
  rw [show (Array.map (fun x : Nat × Operand => (x.1, ρ x.2)) #[(0, x)]) = #[(0, .agg m.cells.toArray)] by simp [hx]]
  simp only [Sem.run_bind, hr, Result.andThen_ok]
  rfl
theorem macts_one {W : World} {m : Ma} (h : MaOK W m) {g : Nat} (hb : Blk W g m.cells 65) : MActsAt W (some ⟨g, 0, none⟩) [m] :=
  ⟨fun x hx => by simp at hx; subst hx; exact h, fun _ => ⟨g, 0, rfl, hb.lt, fun i x hi => by
    match i, hi with
    | 0, hi =>
      simp only [List.getElem?_cons_zero, Option.some.injEq] at hi
      subst hi
      simpa using rng_all hb⟩⟩
theorem copies_mem : ∀ (l : List Nat) (i k a : Nat), l[k]? = some a → a ≠ 0 → ((i + k) / 2, a) ∈ copiesFrom i l
  | [], _, _, _, h, _ => by simp at h
  | b :: l, i, 0, a, h, ha => by
    simp only [List.getElem?_cons_zero, Option.some.injEq] at h
    subst h
    unfold copiesFrom
    rw [if_neg ha]
    simp
  | b :: l, i, k + 1, a, h, ha => by
    simp only [List.getElem?_cons_succ] at h
    have ih := copies_mem l (i + 1) k a h ha
    rw [show i + 1 + k = i + (k + 1) by omega] at ih
    unfold copiesFrom
    split
    · exact ih
    · exact List.mem_cons_of_mem _ ih
/-- While the acts are gone through. -/
def HeRel (w1 : World) (X : Nat) (P : Pl) (N : Nat) (len : Nat) (i : Value) (wr : World) : Prop := ∃ (k : Nat) (lab : Nat → Nat) (x : Mi Dsk Sp), k ≤ len ∧ i = .int .i64 (k : Int) ∧ PrS w1 wr lab X P x ∧ Lim x (8 * k) ∧ SpN x N
def HfRel (w1 : World) (X : Nat) (P : Pl) (N : Nat) (i : Value) (wr : World) : Prop := ∃ (k : Nat) (lab : Nat → Nat) (x : Mi Dsk Sp), k ≤ 2 ∧ i = .int .i64 (k : Int) ∧ PrS w1 wr lab X P x ∧ Lim x 1000 ∧ SpN x N ∧ x.p = ⟨true, -1⟩ ∧ ∀ j, j < k → CalmD (x.d j)
def HgRel (w1 : World) (lab : Nat → Nat) (X : Nat) (P : Pl) (y : Mi Dsk Sp) (q : Pt) (g : Nat) (i : Value) (wr : World) : Prop := ∃ k : Nat, k ≤ 4 ∧ i = .int .i64 (k : Int) ∧ PrS w1 wr lab X P y ∧ Blk wr g (pcells q) 58
theorem start_lim (n : Nat) : Lim (start n) (8 * 0) := ⟨fun k _ => Nat.le_refl _, fun _ => Nat.le_refl _, fun _ => Nat.le_refl _, Nat.le_refl _⟩
set_option maxRecDepth 100000 in
set_option maxHeartbeats 32000000 in
theorem mheals_go (N : Nat) (hN1 : 1 ≤ N) (hN2 : N ≤ 12) (l : List Ma) (sp : Option Addr) (cap : Nat) (la : Ma) (w : World) (hl : mgreat l = false) (hla : mgreat [la] = false) (hc : l.length ≤ cap) (hm : cap ≤ maxLen) (hA : MActsAt w sp l) (hLA : MaOK w la) (ht : Tab w) (hr : RTab w) :
    Calls Tryz.prog 4 #[.int .u8 (N : Int), .slice sp l.length cap, .agg la.cells.toArray] w fun e w' => e = .returned (.bool true) ∧ Below w.heap.size w w' := by
  have HS := Lib.hid (mgreat_small hl)
  have HSL : Hid (la.b.length ≤ 600) := Lib.hid ((mgreat_small hla).2 la (by simp)).1
  have HCAP := Lib.hid hc; have HM := Lib.hid hm
  have HLL := Lib.hid hLA.len
  have HBX : Hid (Blk (w.alloc (.cells la.cells.toArray 65)) w.heap.size la.cells 65) := Lib.hid (Blk.new _ _ _)
  have hb0 : Below w.heap.size w (w.alloc (.cells la.cells.toArray 65)) := (Below.refl _ _).alloc (Nat.le_refl _) _
  have HB0 := Lib.hid hb0
  obtain ⟨n, hn⟩ : ∃ n, l.length = n := ⟨_, rfl⟩
  have HN := Lib.hid hn
  have hg1 := mgreat_any l sp n cap hn (by omega) hm _ (hA.below hb0 (Nat.le_refl _))
  rw [hl] at hg1
  have HG1 := Lib.hid hg1
  have HA := Lib.hid hA; have HLA := Lib.hid hLA; have HT := Lib.hid ht; have HR := Lib.hid hr
  have HLG := Lib.hid hla
  have i1 : ¬ (N : Int) < 1 := by omega
  have i2 : ¬ (12 : Int) < (N : Int) := by omega
  have iw := IntWalk.i64_in (N : Int) (by omega)
  have HNN := Lib.hid hN1; have HNM := Lib.hid hN2
  have HWK : Hid (∀ W, Below w.heap.size w W → Calls Tryz.prog 6 #[] W fun e w' => e = .returned (.bool true) ∧ Below w.heap.size w w') := Lib.hid fun W hb => (mwakes_any W (HT.out.below hb (Nat.le_refl _)) (HR.out.below hb (Nat.le_refl _))).mono fun e w' ⟨h1, h2⟩ => ⟨h1, hb.trans (h2.mono hb.size)⟩
  rw [hn]
  clear hl hla hc hm hA hLA ht hr hb0 hg1 hN1 hN2 hn
  go_enter Tryz.func4, Tryz.ntmps4
  go_wp2_with fail
  refine HG1.out.mono ?_
  rintro e W1 ⟨rfl, hb1⟩
  have HBA := Lib.hid (HB0.out.trans (hb1.mono HB0.out.size))
  have HX1 := Lib.hid (HBX.out.below hb1 HBX.out.lt)
  clear hb1 HG1 HBX HB0
  have hg2 := mgreat_any [la] (some ⟨W1.heap.size, 0, none⟩) 1 1 rfl (by omega) (by unfold maxLen; omega) (W1.alloc (.cells la.cells.toArray 65)) (macts_one (HLA.out.below (HBA.out.alloc HBA.out.size _) (Nat.le_refl _)) (Blk.new _ _ _))
  rw [HLG.out] at hg2
  have HG2 := Lib.hid hg2
  clear hg2
  go_wp2_with (first | (refine q_valG (by rfl) (ex_ld (ty := 65) (cs := la.cells) rfl rfl (rng_all HX1.out) Tryz.underlying65 rfl (by rw [sizeMA, HLL.out])) ?_) | (refine q_valG (by rfl) (q_oneMA la HLL.out rfl rfl) ?_) | fail)
  refine HG2.out.mono ?_
  rintro e W2 ⟨rfl, hb2⟩
  have HBB := Lib.hid ((HBA.out.alloc HBA.out.size (.cells la.cells.toArray 65)).trans (hb2.mono (Nat.le_trans HBA.out.size (by simp))))
  have HX2 := Lib.hid ((HX1.out.alloc (.cells la.cells.toArray 65)).below hb2 (by have := HX1.out.lt; simp; omega))
  clear hb2 HG2 HX1 HBA
  go_wp2_with fail
  refine (begun_any N HNN.out (by have := HNM.out; omega) W2 (HT.out.below HBB.out (Nat.le_refl _)) (HR.out.below HBB.out (Nat.le_refl _))).mono ?_
  rintro e W3 ⟨X, P, lab, rfl, hbg⟩
  have HPS := Lib.hid (beg_prs hbg)
  have HA2 := Lib.hid (HA.out.below HBB.out (Nat.le_refl _))
  have HLA2 := Lib.hid (HLA.out.below HBB.out (Nat.le_refl _))
  have HWK2 : Hid (∀ W, Below W2.heap.size W2 W → Calls Tryz.prog 6 #[] W fun e w' => e = .returned (.bool true) ∧ Below w.heap.size w w') := Lib.hid fun W hb => HWK.out W (HBB.out.trans (hb.mono HBB.out.size))
  have HBW : Hid (∀ W, Below W2.heap.size W2 W → Below w.heap.size w W) := Lib.hid fun W hb => HBB.out.trans (hb.mono HBB.out.size)
  have HG5 : Hid (w.heap.size < W2.heap.size) := Lib.hid HX2.out.lt
  have HR0 : Hid (HeRel W2 X P N n (.int .i64 0) W3) := Lib.hid ⟨0, lab, start N, by omega, rfl, HPS.out, start_lim N, start_sp N⟩
  clear hbg
  go_wp2_with (first | (refine wpL_val rfl (q_ldM rfl rfl HPS.out.cm) ?_) | fail)
  clear HPS HLG HWK HA HLA HBB
  go_loopw [8] (fun i wr => HeRel W2 X P N n i wr) (fun i _ => n - (intOf i).toNat)
  case atStart => exact HR0.out
  case round =>
    clear HR0
    obtain ⟨k, lab, x, hk, rfl, hs, hlim, hsp⟩ := hrel
    have HPS := Lib.hid hs; have HLM := Lib.hid hlim; have HSP := Lib.hid hsp
    clear hs hlim hsp
    have wk1 := IntWalk.i64_in ((k : Int) + 1) (by have := HS.out.1; have := HN.out; omega)
    by_cases hlt : k < n
    · have hkL : k < l.length := by have := HN.out; omega
      obtain ⟨m, hmk⟩ : ∃ m, l[k]? = some m := ⟨_, List.getElem?_eq_getElem hkL⟩
      obtain ⟨g, o, rfl, hg, hcl⟩ := HA2.out.2 (by omega)
      have hok0 := HA2.out.1 m (List.mem_of_getElem? hmk)
      have HSM := Lib.hid (HS.out.2 m (List.mem_of_getElem? hmk))
      have hrg0 := hcl k m hmk
      have HRG : Hid (∀ W, Below W2.heap.size W2 W → W.rangeAt g (o + k * 51) m.cells) := Lib.hid fun W hb => range_below hrg0 hb hg
      have HOK := Lib.hid hok0
      have HQO := Lib.hid (Ma.q_ok hok0)
      have HLC := Lib.hid hok0.len
      have HSQ := Lib.hid (size_pc HQO.out)
      have HLQ : Hid ((pcells m.q).toArray.size = 41) := Lib.hid (by rw [List.size_toArray, pcells_length HQO.out])
      have HSE : Hid (∀ W, Below W2.heap.size W2 W → Calls Tryz.prog 8 #[.agg m.cells.toArray] W fun e w' => ∃ v, e = .returned (.tuple #[.agg (pcells m.q).toArray, v]) ∧ Below W.heap.size W w') := Lib.hid fun W hb =>
        (sealed_any (m.d : Int) m.p HOK.out.p m.b m.sp m.b.length m.cap rfl (by have := HSM.out.1; omega) m.wr (acs m.a) (acs_len _) W (HOK.out.b.below hb (Nat.le_refl _))).mono fun e w' ⟨v, e1, _, e3⟩ => ⟨v, e1, e3⟩
      have h0k : (0 : Int) ≤ (k : Int) := by omega
      have hkn : (k : Int) < (n : Int) := by omega
      have HK8 : Hid (8 * k < 500) := Lib.hid (by have := HS.out.1; omega)
      clear hcl hmk hkL hg hrg0 hok0
      go_wp2_with (first | (refine wpL_val rfl (ex_ld (ty := 65) (cs := m.cells) (off := o + k * 51) rfl rfl (HRG.out _ HPS.out.bel) Tryz.underlying65 rfl (by rw [sizeMA, HLC.out])) ?_) | fail)
      refine (HSE.out wr HPS.out.bel).mono ?_
      rintro e W4 ⟨v4, rfl, hb4⟩
      have HP4 := Lib.hid (HPS.out.below hb4)
      clear hb4 HSE HPS
      go_upto_region 10 with (first | (refine wpList_store_row rfl 58 (.tmp 9) (.tmp 62) rfl W4.heap.size (pcells m.q).toArray rfl rfl 58 _ (heap_alloc_new W4 _) HSQ.out (by rw [HLQ.out]; rfl) (one_pc m.q) ?_) | fail)
      refine (fun (k : ∀ Z, Blk Z W4.heap.size (pcells m.q) 58 → Below W4.heap.size W4 Z → Code.wp _ _ _ _ Z) => k _ (blk_row1 W4 _ (pcells m.q) 58).1 (blk_row1 W4 _ (pcells m.q) 58).2) ?_
      intro W5 hbq hb5
      have HL9 : Hid (lab W4.heap.size = 0) := Lib.hid (HP4.out.new (Nat.le_refl _))
      have HP5 := Lib.hid (HP4.out.below hb5)
      obtain ⟨g9, hg9⟩ : ∃ g, W4.heap.size = g := ⟨_, rfl⟩
      rw [hg9] at hbq HL9 ⊢
      have HQ5 := Lib.hid hbq
      obtain ⟨G, hG⟩ : ∃ G, goodN x m.q m.q.ats = G := ⟨_, rfl⟩
      have hgd := pgood_any m.q HQO.out W2 W5 lab X P x (8 * k) HP5.out HLM.out (by have := HK8.out; omega)
      rw [hG] at hgd
      have HGD := Lib.hid hgd
      have HGG := Lib.hid hG
      clear hbq hb5 hg9 HP4 hgd hG
      go_wp2_with (first | (refine wpL_val rfl (ex_ldPq HQO.out HQ5.out rfl rfl) ?_) | fail)
      refine HGD.out.mono ?_
      rintro e W6 ⟨z6, rfl, hb6⟩
      have HP6 := Lib.hid (HP5.out.below hb6)
      have HQ6 := Lib.hid (HQ5.out.below hb6 HQ5.out.lt)
      clear hb6 HP5 HQ5 HGD
      go_wp2_with (first | (refine wpL_val rfl (q_ldPw rfl rfl HP6.out.cp) ?_) | fail)
      refine (d_is_any P.Q x.p W6 HP6.out.mi.pw).mono ?_
      rintro e w6 ⟨rfl, rfl⟩
      obtain ⟨on, hon⟩ : ∃ on, x.p.on = on := ⟨_, rfl⟩
      have HON := Lib.hid hon
      rw [hon]
      clear hon
      go_wp2_with (first | (refine wpL_val rfl (ex_ld (ty := 65) (cs := m.cells) (off := o + k * 51) rfl rfl (HRG.out _ HP6.out.bel) Tryz.underlying65 rfl (by rw [sizeMA, HLC.out])) ?_) | fail)
      refine (does_any m W2 W6 lab X P x (8 * k) HOK.out HSM.out.1 HSM.out.2.1 HP6.out HLM.out (by have := HK8.out; omega)).mono ?_
      rintro e W7 ⟨v7, z7, rfl, ⟨lab7, hp7, hst7⟩, hd0, hd1⟩
      have HP7 := Lib.hid hp7
      have HQ7 := Lib.hid (hst7.blk HQ6.out HL9.out)
      have HL9' := Lib.hid (hst7.lab0 HQ6.out.lt HL9.out)
      have HD0 := Lib.hid hd0; have HD1 := Lib.hid hd1
      have HLM7 : Hid (Lim (doS x m) (8 * (k + 1))) := Lib.hid ((HLM.out.act HQO.out).mono (by omega))
      have HSP7 := Lib.hid (act_sp HSP.out m)
      have cdo : W7.cell? ⟨g, o + k * 51, none⟩ = some (.int .u8 (m.d : Int)) := by
        have := (HRG.out W7 hp7.bel) 0 _ (show m.cells[0]? = some (.int .u8 (m.d : Int)) from rfl)
        simpa using this
      clear hp7 hst7 hd0 hd1 HP6 HQ6 HLM HSP
      by_cases hd : (1 : Int) < (m.d : Int)
      · go_wp2_with fail
        go_roundw
        case rel => exact ⟨k + 1, lab7, doS x m, by omega, by go_num, HP7.out, HLM7.out, HSP7.out⟩
        case measure => simp [intOf]; omega
      · have hmy := may_any m.q HQO.out W7 HP7.out.mi.rt
        obtain ⟨my, hmyv⟩ : ∃ b, mayP m.q = b := ⟨_, rfl⟩
        rw [hmyv] at hmy
        have HMY := Lib.hid hmy; have HMV := Lib.hid hmyv
        have hdb : decide ((1 : Int) < (m.d : Int)) = false := decide_eq_false hd
        clear hmy hmyv
        go_wp2_with (first | (refine q_valG (by rfl) (ex_ldPq HQO.out HQ7.out rfl rfl) ?_) | fail)
        refine HMY.out.mono ?_
        rintro e W8 ⟨rfl, hb8⟩
        have HP8 := Lib.hid (HP7.out.below hb8)
        have HQ8 := Lib.hid (HQ7.out.below hb8 HQ7.out.lt)
        have HD8 : Hid (m.d = 0 → z7 = healE kinD x m.q false ∧ ∀ b, healB kinD x m.q false = some b → ∃ g, v7 = .slice (some ⟨g, 0, none⟩) 512 512 ∧ SrcA W8 (some ⟨g, 0, none⟩) b) := Lib.hid fun h0 => by
          obtain ⟨h1, h2⟩ := HD0.out h0
          refine ⟨h1, fun b hb => ?_⟩
          obtain ⟨g, e1, e2⟩ := h2 b hb
          have e3 := e2.below hb8 e2.lt
          exact ⟨g, e1, fun _ => ⟨g, 0, rfl, e3.lt, fun j hj => by rw [Nat.zero_add]; exact e3.cell (get_map V8 b j hj 0)⟩⟩
        have cdo8 : W8.cell? ⟨g, o + k * 51, none⟩ = some (.int .u8 (m.d : Int)) := by
          have := (HRG.out W8 HP8.out.bel) 0 _ (show m.cells[0]? = some (.int .u8 (m.d : Int)) from rfl)
          simpa using this
        clear hb8 HP7 HQ7 HMY HD0 cdo
        cases my
        · go_wp2_with fail
          go_roundw
          case rel => exact ⟨k + 1, lab7, doS x m, by omega, by go_num, HP8.out, HLM7.out, HSP7.out⟩
          case measure => simp [intOf]; omega
        · have HIF : Hid (z7 = 0 ↔ (0 < G ∧ on = true)) := Lib.hid (by
            rw [← HGG.out, ← HON.out]
            rcases (show m.d = 0 ∨ m.d = 1 by omega) with h0 | h1
            · rw [(HD8.out h0).1]; exact heal_iff HMV.out false
            · rw [HD1.out h1]; exact heal_iff HMV.out true)
          by_cases hz : z7 = 0
          · obtain ⟨hg0, hon1⟩ := HIF.out.1 hz
            have hgi : (0 : Int) < (G : Int) := by omega
            subst hz hon1
            rcases (show m.d = 0 ∨ m.d = 1 by omega) with h0 | h1
            · have i0 : (m.d : Int) = 0 := by omega
              obtain ⟨e1, e2⟩ := HD8.out h0
              obtain ⟨b, hb⟩ := heal_some e1.symm
              obtain ⟨gb, rfl, hsb⟩ := e2 b hb
              have hfb := heal_fits hb
              have hlb := fits_len hfb
              have hft := fits_any m.q HQO.out b (some ⟨gb, 0, none⟩) 512 W8 (by omega) (by omega) (by unfold maxLen; omega) hsb HP8.out.mi.tab
              rw [hlb, hfb] at hft
              have HFT := Lib.hid hft
              clear e1 e2 hb hsb hfb hlb hft h0 hg0 HD8 HD1
              go_wp2_with (first | (refine q_valG (by rfl) (ex_ldPq HQO.out HQ8.out rfl rfl) ?_) | fail)
              refine HFT.out.mono ?_
              rintro e W9 ⟨rfl, hb9⟩
              have HP9 := Lib.hid (HP8.out.below hb9)
              clear hb9 HP8 HQ8 HFT
              go_wp2_with fail
              go_roundw
              case rel => exact ⟨k + 1, lab7, doS x m, by omega, by go_num, HP9.out, HLM7.out, HSP7.out⟩
              case measure => simp [intOf]; omega
            · have i1' : ¬ (m.d : Int) = 0 := by omega
              have i1b : ((m.d : Int) == 0) = false := by rw [beq_eq_false_iff_ne]; omega
              clear h1 hg0 HD8 HD1
              go_wp2_with fail
              go_roundw
              case rel => exact ⟨k + 1, lab7, doS x m, by omega, by go_num, HP8.out, HLM7.out, HSP7.out⟩
              case measure => simp [intOf]; omega
          · have hzb : (z7 == 0) = false := by rw [beq_eq_false_iff_ne]; exact hz
            by_cases hg0 : 0 < G
            · obtain rfl : on = false := by
                cases on
                · rfl
                · exact absurd (HIF.out.2 ⟨hg0, rfl⟩) hz
              have hgi : (0 : Int) < (G : Int) := by omega
              rcases (show m.d = 0 ∨ m.d = 1 by omega) with h0 | h1
              · have i0 : (m.d : Int) = 0 := by omega
                clear h0 hg0 HD8 HD1
                go_wp2_with fail
                go_roundw
                case rel => exact ⟨k + 1, lab7, doS x m, by omega, by go_num, HP8.out, HLM7.out, HSP7.out⟩
                case measure => simp [intOf]; omega
              · have i1' : ¬ (m.d : Int) = 0 := by omega
                have i1b : ((m.d : Int) == 0) = false := by rw [beq_eq_false_iff_ne]; omega
                clear h1 hg0 HD8 HD1
                go_wp2_with fail
                go_roundw
                case rel => exact ⟨k + 1, lab7, doS x m, by omega, by go_num, HP8.out, HLM7.out, HSP7.out⟩
                case measure => simp [intOf]; omega
            · obtain rfl : G = 0 := by omega
              rw [show ((0 : Nat) : Int) = (0 : Int) from rfl]
              rcases (show m.d = 0 ∨ m.d = 1 by omega) with h0 | h1
              · have i0 : (m.d : Int) = 0 := by omega
                clear h0 hg0 HD8 HD1
                go_wp2_with fail
                go_roundw
                case rel => exact ⟨k + 1, lab7, doS x m, by omega, by go_num, HP8.out, HLM7.out, HSP7.out⟩
                case measure => simp [intOf]; omega
              · have i1' : ¬ (m.d : Int) = 0 := by omega
                have i1b : ((m.d : Int) == 0) = false := by rw [beq_eq_false_iff_ne]; omega
                clear h1 hg0 HD8 HD1
                go_wp2_with fail
                go_roundw
                case rel => exact ⟨k + 1, lab7, doS x m, by omega, by go_num, HP8.out, HLM7.out, HSP7.out⟩
                case measure => simp [intOf]; omega
    · obtain rfl : k = n := by omega
      have HLM1 : Hid (Lim x 1000) := Lib.hid (HLM.out.mono (by have := HS.out.1; have := HN.out; omega))
      have HXA := Lib.hid (HX2.out.below HPS.out.bel HX2.out.lt)
      have HQO := Lib.hid (Ma.q_ok HLA2.out)
      have HSQ := Lib.hid (size_pc HQO.out)
      have HLQ : Hid ((pcells la.q).toArray.size = 41) := Lib.hid (by rw [List.size_toArray, pcells_length HQO.out])
      have HSE : Hid (∀ W, Below W2.heap.size W2 W → Calls Tryz.prog 8 #[.agg la.cells.toArray] W fun e w' => ∃ v, e = .returned (.tuple #[.agg (pcells la.q).toArray, v]) ∧ Below W.heap.size W w') := Lib.hid fun W hb =>
        (sealed_any (la.d : Int) la.p HLA2.out.p la.b la.sp la.b.length la.cap rfl (by have := HSL.out; omega) la.wr (acs la.a) (acs_len _) W (HLA2.out.b.below hb (Nat.le_refl _))).mono fun e w' ⟨v, e1, _, e3⟩ => ⟨v, e1, e3⟩
      clear hlt hk HLM HA2 HS HSL HXA
      go_wp2_with (first | (refine wpL_val rfl (q_ldPw rfl rfl HPS.out.cp) ?_) | fail)
      refine (flt_back HPS.out).mono ?_
      rintro e W4 ⟨rfl, hp4⟩
      obtain ⟨lab4, hs4⟩ := HPS.out.post hp4
      have HF0 : Hid (HfRel W2 X P N (.int .i64 0) W4) := Lib.hid ⟨0, lab4, { x with p := ⟨true, -1⟩ }, by omega, rfl, hs4, ⟨HLM1.out.c, HLM1.out.f, HLM1.out.g, HLM1.out.mv⟩, HSP.out, rfl, fun j hj => by omega⟩
      clear hp4 hs4 HPS HSP HLM1
      go_wp2_with fail
      go_loopw [16] (fun i wr => HfRel W2 X P N i wr) (fun i _ => 2 - (intOf i).toNat)
      case atStart => exact HF0.out
      case round =>
        clear HF0
        obtain ⟨k, lab, x, hk, rfl, hs, hlim, hsp, hpw, hcd⟩ := hrel
        have HPS := Lib.hid hs; have HLM := Lib.hid hlim; have HSP := Lib.hid hsp; have HPW := Lib.hid hpw; have HCD := Lib.hid hcd
        clear hs hlim hsp hpw hcd
        have wk1 := IntWalk.i64_in ((k : Int) + 1) (by omega)
        by_cases hlt : k < 2
        · have h0k : (0 : Int) ≤ (k : Int) := by omega
          have hk2 : (k : Int) < 2 := by omega
          have HK2 := Lib.hid hlt
          have HC1 := Lib.hid (calm_one HPW.out k)
          go_wp2_with (first | (refine wpL_val rfl (q_ldD rfl rfl (HPS.out.cd HK2.out)) ?_) | fail)
          refine (fl_one HPS.out.mi HLM.out (by omega) HK2.out).mono ?_
          rintro e W5 ⟨rfl, hp5⟩
          obtain ⟨lab5, hs5⟩ := HPS.out.post hp5
          have HP5 := Lib.hid hs5
          have HL5 := Lib.hid (HLM.out.fl1 k)
          have HCR : Hid (Calls Tryz.prog 26 #[.pointer (some ⟨P.D k, 0, none⟩), .slice none 0 0] W5 fun e w' => e = .returned (.tuple #[]) ∧ MiPost W5 lab5 P (fD (fl1 kinD x k).2 k (crashed ((fl1 kinD x k).2.d k) [])) w') := Lib.hid (flt_crash HP5.out HL5.out (by omega) HK2.out (zs := []) (sp := none) (cap := 0) ⟨fun z hz => by simp at hz, fun h => by simp at h⟩ (Nat.le_refl _) (by unfold maxLen; omega))
          clear hp5 hs5 HPS
          go_wp2_with (first | (refine wpL_val rfl (q_ldD rfl rfl (HP5.out.cd HK2.out)) ?_) | fail)
          refine HCR.out.mono ?_
          rintro e W6 ⟨rfl, hp6⟩
          obtain ⟨lab6, hs6⟩ := HP5.out.post hp6
          have HP6 := Lib.hid hs6
          have HL6 := Lib.hid (HL5.out.fd k (crashed_lim ((fl1 kinD x k).2.d k) []))
          clear hp6 hs6 HP5 HCR
          go_wp2_with fail
          go_roundw
          case rel =>
            refine ⟨k + 1, lab6, _, by omega, by go_num, HP6.out, HL6.out, ?_, HC1.out.1, fun j hj => ?_⟩
            · intro i hi
              show ((fl1 kinD x k).2.s i).length = _
              rw [HC1.out.2.2.2]
              exact HSP.out i hi
            · show CalmD (upk (fl1 kinD x k).2.d k (crashed ((fl1 kinD x k).2.d k) []) j)
              by_cases e : j = k
              · subst e; rw [upk_same]; exact HC1.out.2.1
              · rw [upk_other _ _ e, HC1.out.2.2.1 j e]; exact HCD.out j (by omega)
          case measure => simp [intOf]; omega
        · obtain rfl : k = 2 := by omega
          have HCA : Hid (Calm8 x) := Lib.hid ⟨HPW.out, HCD.out⟩
          have HON : Hid (x.p.on = true) := Lib.hid (by rw [HPW.out])
          have HXA := Lib.hid (HX2.out.below HPS.out.bel HX2.out.lt)
          rw [show ((2 : Nat) : Int) = (2 : Int) from rfl]
          clear hlt hk HPW HCD
          go_wp2_with (first | (refine wpL_val rfl (ex_ld (ty := 65) (cs := la.cells) rfl rfl (rng_all HXA.out) Tryz.underlying65 rfl (by rw [sizeMA, HLL.out])) ?_) | fail)
          refine (HSE.out wr HPS.out.bel).mono ?_
          rintro e W5 ⟨v5, rfl, hb5⟩
          have HP5 := Lib.hid (HPS.out.below hb5)
          clear hb5 HSE HPS HXA
          go_upto_region 23 with (first | (refine wpList_store_row rfl 58 (.tmp 17) (.tmp 147) rfl W5.heap.size (pcells la.q).toArray rfl rfl 58 _ (heap_alloc_new W5 _) HSQ.out (by rw [HLQ.out]; rfl) (one_pc la.q) ?_) | fail)
          refine (fun (k : ∀ Z, Blk Z W5.heap.size (pcells la.q) 58 → Below W5.heap.size W5 Z → Code.wp _ _ _ _ Z) => k _ (blk_row1 W5 _ (pcells la.q) 58).1 (blk_row1 W5 _ (pcells la.q) 58).2) ?_
          intro W6 hbq hb6
          have HL9 : Hid (lab W5.heap.size = 0) := Lib.hid (HP5.out.new (Nat.le_refl _))
          have HP6 := Lib.hid (HP5.out.below hb6)
          obtain ⟨g9, hg9⟩ : ∃ g, W5.heap.size = g := ⟨_, rfl⟩
          rw [hg9] at hbq HL9 ⊢
          have HQ6 := Lib.hid hbq
          have hmy := may_any la.q HQO.out W6 HP6.out.mi.rt
          obtain ⟨my, hmyv⟩ : ∃ b, mayP la.q = b := ⟨_, rfl⟩
          rw [hmyv] at hmy
          have HMY := Lib.hid hmy; have HMV := Lib.hid hmyv
          clear hbq hb6 hg9 HP5 hmy hmyv
          go_wp2_with (first | (refine wpL_val rfl (ex_ldPq HQO.out HQ6.out rfl rfl) ?_) | fail)
          refine HMY.out.mono ?_
          rintro e W7 ⟨rfl, hb7⟩
          have HP7 := Lib.hid (HP6.out.below hb7)
          have HQ7 := Lib.hid (HQ6.out.below hb7 HQ6.out.lt)
          clear hb7 HP6 HQ6 HMY
          cases my
          · go_upto_region 24 with fail
            refine wp_region_sched (.take 0 (.take 1 (.take 2 (.take 3 (.take 4 (.step 5 (.take 6 (.take 7 (.step 8 (.take 9 (.take 10 (.nil)))))))))))) (by kernel_rfl) (by kernel_rfl) (fun d _ _ _ _ h => by cases d <;> exact h) (fun Z => Z.cell? ⟨X, 4, none⟩ = some (.pointer (some ⟨P.M, 0, none⟩)) ∧ Blk Z g9 (pcells la.q) 58) ⟨HP7.out.drew.cm, HQ7.out.drew⟩ ?_
            refine wpG_take _ (.pointer (some ⟨X, 0, none⟩)) rfl (by rfl) (fun X hX => by first | rfl | go_simp) ?_
            (try simp only [Act.put, List.setIfInBounds_toArray, List.set_cons_zero, List.set_cons_succ])
            refine wpG_take _ (.pointer (some ⟨X, 0, none⟩)) rfl (by rfl) (fun X hX => by first | rfl | go_simp) ?_
            (try simp only [Act.put, List.setIfInBounds_toArray, List.set_cons_zero, List.set_cons_succ])
            refine wpG_take _ (.pointer (some ⟨X, 4, none⟩)) rfl (by rfl) (fun X hX => by first | rfl | go_simp) ?_
            (try simp only [Act.put, List.setIfInBounds_toArray, List.set_cons_zero, List.set_cons_succ])
            refine wpG_take _ (.pointer (some ⟨P.M, 0, none⟩)) rfl (by rfl) (fun X hX => q_ldM rfl rfl hX.1) ?_
            (try simp only [Act.put, List.setIfInBounds_toArray, List.set_cons_zero, List.set_cons_succ])
            refine wpG_take _ (.agg (pcells la.q).toArray) rfl (by rfl) (fun X hX => ex_ldPq HQO.out hX.2 rfl rfl) ?_
            (try simp only [Act.put, List.setIfInBounds_toArray, List.set_cons_zero, List.set_cons_succ])
            have hrd := check_any8 la.q HQO.out W7.drew lab P x 1000 HP7.out.drew.mi HLM.out (by omega)
            refine wpG_call _ rfl (by rfl) 11 #[.pointer (some ⟨P.M, 0, none⟩), .agg (pcells la.q).toArray] (fun _ => by go_simp) (fun u w' => u = .int .i64 (healE kinD x la.q true) ∧ ∃ lab', PrS W2 w' lab' X P (healS kinD x la.q true)) (hrd.mono fun e w' hh => by
              obtain ⟨e1, v, lab', h1, h2, h3⟩ := hh
              have h4 := HP7.out.drew.stp h1 h2
              exact ⟨_, e1, ⟨h4.cm, h2.blk HQ7.out.drew HL9.out⟩, rfl, lab', h4⟩) ?_
            rw [heal_may HMV.out]
            rintro u W9 hs9 ⟨rfl, lab9, hp9⟩
            refine ⟨_, fun _ h => h, hs9, ?_⟩
            (try simp only [Act.put, List.setIfInBounds_toArray, List.set_cons_zero, List.set_cons_succ])
            refine wpG_take _ (.bool true) rfl (by rfl) (fun X hX => by first | rfl | go_simp) ?_
            (try simp only [Act.put, List.setIfInBounds_toArray, List.set_cons_zero, List.set_cons_succ])
            refine wpG_take _ (.bool true) rfl (by rfl) (fun X hX => by first | rfl | go_simp) ?_
            (try simp only [Act.put, List.setIfInBounds_toArray, List.set_cons_zero, List.set_cons_succ])
            refine wpG_call _ rfl (by rfl) 6 #[] (fun _ => by go_simp) (fun u w' => u = .bool true ∧ Below w.heap.size w w') ((mwakes_any W9 hp9.mi.tab hp9.mi.rt).mono fun e w' ⟨e1, e2⟩ => ⟨_, e1, ⟨(hp9.below e2).cm, hs9.2.below e2 hs9.2.lt⟩, rfl, HBW.out _ (hp9.bel.trans (e2.mono hp9.bel.size))⟩) ?_
            rintro u W10 hs10 ⟨rfl, hb10⟩
            refine ⟨_, fun _ h => h, hs10, ?_⟩
            (try simp only [Act.put, List.setIfInBounds_toArray, List.set_cons_zero, List.set_cons_succ])
            refine wpG_take _ (.bool true) rfl (by rfl) (fun X hX => by first | rfl | go_simp) ?_
            (try simp only [Act.put, List.setIfInBounds_toArray, List.set_cons_zero, List.set_cons_succ])
            refine wpG_take _ (.bool true) rfl (by rfl) (fun X hX => by first | rfl | go_simp) ?_
            (try simp only [Act.put, List.setIfInBounds_toArray, List.set_cons_zero, List.set_cons_succ])
            refine wpG_nil ?_
            have HB10 := Lib.hid hb10
            clear hb10 hs10 hs9 hp9 hrd HP7 HQ7
            go_wp2_with fail
            go_ret
            exact ⟨rfl, HB10.out⟩
          · obtain ⟨G, hG⟩ : ∃ G, goodN x la.q la.q.ats = G := ⟨_, rfl⟩
            have hgd := pgood_any la.q HQO.out W2 W7 lab X P x 1000 HP7.out HLM.out (by omega)
            rw [hG] at hgd
            have HGD := Lib.hid hgd
            have HGG := Lib.hid hG
            clear hgd hG
            go_wp2_with (first | (refine wpL_val rfl (ex_ldPq HQO.out HQ7.out rfl rfl) ?_) | fail)
            refine HGD.out.mono ?_
            rintro e W8 ⟨z8, rfl, hb8⟩
            have HP8 := Lib.hid (HP7.out.below hb8)
            have HQ8 := Lib.hid (HQ7.out.below hb8 HQ7.out.lt)
            clear hb8 HP7 HQ7 HGD
            go_upto_region 26 with fail
            refine wp_region_sched (.take 0 (.take 1 (.take 2 (.take 3 (.take 4 (.step 5 (.take 6 (.nil)))))))) (by kernel_rfl) (by kernel_rfl) (fun d _ _ _ _ h => by cases d <;> exact h) (fun Z => Z.cell? ⟨X, 4, none⟩ = some (.pointer (some ⟨P.M, 0, none⟩)) ∧ Blk Z g9 (pcells la.q) 58) ⟨HP8.out.drew.cm, HQ8.out.drew⟩ ?_
            refine wpG_take _ (.pointer (some ⟨X, 0, none⟩)) rfl (by rfl) (fun X hX => by first | rfl | go_simp) ?_
            (try simp only [Act.put, List.setIfInBounds_toArray, List.set_cons_zero, List.set_cons_succ])
            refine wpG_take _ (.pointer (some ⟨X, 0, none⟩)) rfl (by rfl) (fun X hX => by first | rfl | go_simp) ?_
            (try simp only [Act.put, List.setIfInBounds_toArray, List.set_cons_zero, List.set_cons_succ])
            refine wpG_take _ (.pointer (some ⟨X, 4, none⟩)) rfl (by rfl) (fun X hX => by first | rfl | go_simp) ?_
            (try simp only [Act.put, List.setIfInBounds_toArray, List.set_cons_zero, List.set_cons_succ])
            refine wpG_take _ (.pointer (some ⟨P.M, 0, none⟩)) rfl (by rfl) (fun X hX => q_ldM rfl rfl hX.1) ?_
            (try simp only [Act.put, List.setIfInBounds_toArray, List.set_cons_zero, List.set_cons_succ])
            refine wpG_take _ (.agg (pcells la.q).toArray) rfl (by rfl) (fun X hX => ex_ldPq HQO.out hX.2 rfl rfl) ?_
            (try simp only [Act.put, List.setIfInBounds_toArray, List.set_cons_zero, List.set_cons_succ])
            have hrd := check_any8 la.q HQO.out W8.drew lab P x 1000 HP8.out.drew.mi HLM.out (by omega)
            refine wpG_call _ rfl (by rfl) 11 #[.pointer (some ⟨P.M, 0, none⟩), .agg (pcells la.q).toArray] (fun _ => by go_simp) (fun u w' => u = .int .i64 (healE kinD x la.q true) ∧ ∃ lab', PrS W2 w' lab' X P (healS kinD x la.q true)) (hrd.mono fun e w' hh => by
              obtain ⟨e1, v, lab', h1, h2, h3⟩ := hh
              have h4 := HP8.out.drew.stp h1 h2
              exact ⟨_, e1, ⟨h4.cm, h2.blk HQ8.out.drew HL9.out⟩, rfl, lab', h4⟩) ?_
            rintro u W9 hs9 ⟨rfl, lab9, hp9⟩
            refine ⟨_, fun _ h => h, hs9, ?_⟩
            (try simp only [Act.put, List.setIfInBounds_toArray, List.set_cons_zero, List.set_cons_succ])
            refine wpG_take _ (.int .i64 (healE kinD x la.q true)) rfl (by rfl) (fun X hX => by first | rfl | go_simp) ?_
            (try simp only [Act.put, List.setIfInBounds_toArray, List.set_cons_zero, List.set_cons_succ])
            refine wpG_nil ?_
            have HP9 := Lib.hid hp9; have HQ9 := Lib.hid hs9.2
            have HIF : Hid (healE kinD x la.q true = 0 ↔ 0 < G) := Lib.hid (by
              rw [← HGG.out]
              have := heal_iff (x := x) HMV.out true
              rw [HON.out] at this
              simpa using this)
            clear hs9 hp9 hrd HP8 HQ8
            by_cases hz : healE kinD x la.q true = 0
            · have hg0 := HIF.out.1 hz
              have hgi : (0 : Int) < (G : Int) := by omega
              have hgb : decide (0 < G) = true := decide_eq_true hg0
              have HCC := Lib.hid (check_calm (N := N) HCA.out HSP.out HQO.out hz)
              rw [hz]
              obtain ⟨y, hy⟩ : ∃ y, healS kinD x la.q true = y := ⟨_, rfl⟩
              rw [hy] at HP9 HCC
              have HLY : Hid (Lim y 1008) := Lib.hid (by rw [← hy]; exact HLM.out.heal HQO.out true)
              have HG0 : Hid (HgRel W2 lab9 X P y la.q g9 (.int .i64 0) W9) := Lib.hid ⟨0, by omega, rfl, HP9.out, HQ9.out⟩
              clear hz HIF hy HP9 HQ9 HLM HSP HCA
              go_wp2_with fail
              go_loopw [22] (fun i wr => HgRel W2 lab9 X P y la.q g9 i wr) (fun i _ => 4 - (intOf i).toNat)
              case atStart => exact HG0.out
              case round =>
                clear HG0
                obtain ⟨k, hk, rfl, hs, hb⟩ := hrel
                have HPS := Lib.hid hs; have HB := Lib.hid hb
                clear hs hb
                have wk1 := IntWalk.i64_in ((k : Int) + 1) (by omega)
                by_cases hlt : k < 4
                · obtain ⟨a, ha⟩ : ∃ a, la.q.ats[k]? = some a := ⟨_, List.getElem?_eq_getElem (by rw [HQO.out.len]; exact hlt)⟩
                  have hal : a < 65536 := HQO.out.ats a (List.mem_of_getElem? ha)
                  have HAL := Lib.hid hal
                  have HAT := Lib.hid ha
                  have ca := cell_ats HB.out HQO.out.hash ha
                  have h0k : (0 : Int) ≤ (k : Int) := by omega
                  have hk4 : (k : Int) < 4 := by omega
                  have wa := IntWalk.i64_in (a : Int) (by omega)
                  clear ha
                  by_cases h0 : a = 0
                  · subst h0
                    rw [show ((0 : Nat) : Int) = (0 : Int) from rfl] at ca
                    clear HAT
                    go_wp2_with fail
                    go_roundw
                    case rel => exact ⟨k + 1, by omega, by go_num, HPS.out, HB.out⟩
                    case measure => simp [intOf]; omega
                  · have ha0 : ¬ (a : Int) = 0 := by omega
                    have ha0b : ((a : Int) == 0) = false := by rw [beq_eq_false_iff_ne]; omega
                    obtain ⟨j, hj⟩ : ∃ j, k / 2 = j := ⟨_, rfl⟩
                    have HJ := Lib.hid hj
                    have hk2 : j < 2 := by omega
                    have HK2 := Lib.hid hk2
                    have h0q : (0 : Int) ≤ (j : Int) := by omega
                    have hq2 : (j : Int) < 2 := by omega
                    have hmem : (j, a) ∈ copiesP la.q := by
                      have := copies_mem la.q.ats 0 k a HAT.out h0
                      rw [Nat.zero_add, hj] at this
                      exact this
                    obtain ⟨dd, hdd⟩ : ∃ d, (y.d j).dead = d := ⟨_, rfl⟩
                    have HOKC : Hid (dd = false → okC N y la.q (j, a)) := Lib.hid fun h => HCC.out _ hmem (hdd.trans h)
                    have hde := dead_any (P.D j) P.Q (fun b => lab9 b = j + 1) (y.d j) wr (HPS.out.mi.dk _ hk2)
                    rw [hdd] at hde
                    have HDE := Lib.hid hde
                    clear hj hmem hdd hde
                    go_wp2_with (first | (refine q_valG (by rfl) (ex_quo2 HJ.out (by omega) rfl rfl rfl) ?_) | (refine q_valG (by rfl) (q_ldD rfl rfl (HPS.out.cd HK2.out)) ?_) | fail)
                    refine HDE.out.mono ?_
                    rintro e w8 ⟨rfl, rfl⟩
                    cases dd
                    · go_upto_region 35 with fail
                      refine wp_region_sched (.take 0 (.take 1 (.take 2 (.take 3 (.take 4 (.take 5 (.take 6 (.take 7 (.take 8 (.take 9 (.take 10 (.step 11 (.take 12 (.take 13 (.take 14 (.take 15 (.take 16 (.nil)))))))))))))))))) (by kernel_rfl) (by kernel_rfl) (fun d _ _ _ _ h => by cases d <;> exact h) (GoW W2 lab9 X P y la.q g9) ⟨HB.out, HPS.out.drew⟩ ?_
                      refine wpG_take _ (.pointer (some ⟨X, 0, none⟩)) rfl (by rfl) (fun X hX => by first | rfl | go_simp) ?_
                      (try simp only [Act.put, List.setIfInBounds_toArray, List.set_cons_zero, List.set_cons_succ])
                      refine wpG_take _ (.int .i64 (k : Int)) rfl (by rfl) (fun X hX => by first | rfl | go_simp) ?_
                      (try simp only [Act.put, List.setIfInBounds_toArray, List.set_cons_zero, List.set_cons_succ])
                      refine wpG_take _ (.int .i64 (j : Int)) rfl (by rfl) (fun X hX => ex_quo2 HJ.out (by omega) rfl rfl rfl) ?_
                      (try simp only [Act.put, List.setIfInBounds_toArray, List.set_cons_zero, List.set_cons_succ])
                      refine wpG_take _ (.pointer (some ⟨X, 0, none⟩)) rfl (by rfl) (fun X hX => by first | rfl | go_simp) ?_
                      (try simp only [Act.put, List.setIfInBounds_toArray, List.set_cons_zero, List.set_cons_succ])
                      refine wpG_take _ (.pointer (some ⟨X, 1, none⟩)) rfl (by rfl) (fun X hX => by first | rfl | go_simp) ?_
                      (try simp only [Act.put, List.setIfInBounds_toArray, List.set_cons_zero, List.set_cons_succ])
                      refine wpG_take _ (.pointer (some ⟨X, 1 + j, none⟩)) rfl (by rfl) (fun X hX => by first | rfl | go_simp) ?_
                      (try simp only [Act.put, List.setIfInBounds_toArray, List.set_cons_zero, List.set_cons_succ])
                      refine wpG_take _ (.pointer (some ⟨P.D j, 0, none⟩)) rfl (by rfl) (fun X hX => q_ldD rfl rfl (hX.s.cd HK2.out)) ?_
                      (try simp only [Act.put, List.setIfInBounds_toArray, List.set_cons_zero, List.set_cons_succ])
                      refine wpG_take _ (.int .i64 (k : Int)) rfl (by rfl) (fun X hX => by first | rfl | go_simp) ?_
                      (try simp only [Act.put, List.setIfInBounds_toArray, List.set_cons_zero, List.set_cons_succ])
                      refine wpG_take _ (.pointer (some ⟨g9, 37, none⟩)) rfl (by rfl) (fun X hX => ex_faP 6 37 (by omega) rfl rfl) ?_
                      (try simp only [Act.put, List.setIfInBounds_toArray, List.set_cons_zero, List.set_cons_succ])
                      refine wpG_take _ (.pointer (some ⟨g9, 37 + k, none⟩)) rfl (by rfl) (fun X hX => by first | rfl | go_simp) ?_
                      (try simp only [Act.put, List.setIfInBounds_toArray, List.set_cons_zero, List.set_cons_succ])
                      refine wpG_take _ (.int .u16 (a : Int)) rfl (by rfl) (fun X hX => ex_ld1 Tryz.underlying52 rfl rfl (cell_ats hX.b HQO.out.hash HAT.out)) ?_
                      (try simp only [Act.put, List.setIfInBounds_toArray, List.set_cons_zero, List.set_cons_succ])
                      have hlk := look_any (P.D j) P.Q (fun b => lab9 b = j + 1) (y.d j) a HAL.out wr.drew (HPS.out.drew.mi.dk _ HK2.out) (by have := HLY.out.c _ HK2.out; omega)
                      refine wpG_call _ rfl (by rfl) 28 #[.pointer (some ⟨P.D j, 0, none⟩), .int .u16 (a : Int)] (fun _ => by go_simp) (fun u w' => ∃ v, u = .tuple #[v, .bool (look (y.d j) a).isSome] ∧ ToldB wr.drew w' v (look (y.d j) a) ∧ Below wr.drew.heap.size wr.drew w') (hlk.mono fun e w' ⟨v, e1, e2, e3⟩ => ⟨_, e1, ⟨HB.out.drew.below e3 HB.out.drew.lt, HPS.out.drew.below e3⟩, v, rfl, e2, e3⟩) ?_
                      rintro u W6 hs6 ⟨v, rfl, ht6, hb6⟩
                      refine ⟨_, fun _ h => h, hs6, ?_⟩
                      (try simp only [Act.put, List.setIfInBounds_toArray, List.set_cons_zero, List.set_cons_succ])
                      refine wpG_take _ (.tuple #[v, .bool (look (y.d j) a).isSome]) rfl (by rfl) (fun X hX => by first | rfl | go_simp) ?_
                      (try simp only [Act.put, List.setIfInBounds_toArray, List.set_cons_zero, List.set_cons_succ])
                      refine wpG_take _ (v) rfl (by rfl) (fun X hX => by first | rfl | go_simp) ?_
                      (try simp only [Act.put, List.setIfInBounds_toArray, List.set_cons_zero, List.set_cons_succ])
                      refine wpG_take _ (.bool (look (y.d j) a).isSome) rfl (by rfl) (fun X hX => by first | rfl | go_simp) ?_
                      (try simp only [Act.put, List.setIfInBounds_toArray, List.set_cons_zero, List.set_cons_succ])
                      refine wpG_take _ (v) rfl (by rfl) (fun X hX => by first | rfl | go_simp) ?_
                      (try simp only [Act.put, List.setIfInBounds_toArray, List.set_cons_zero, List.set_cons_succ])
                      refine wpG_take _ (.bool (look (y.d j) a).isSome) rfl (by rfl) (fun X hX => by first | rfl | go_simp) ?_
                      (try simp only [Act.put, List.setIfInBounds_toArray, List.set_cons_zero, List.set_cons_succ])
                      refine wpG_nil ?_
                      have HBx := Lib.hid hs6.b; have HSx := Lib.hid hs6.s
                      obtain ⟨t, ht⟩ : ∃ t, look (y.d j) a = t := ⟨_, rfl⟩
                      have HTT := Lib.hid ht
                      rw [ht] at ht6 ⊢
                      have HOK2 := Lib.hid (HOKC.out (by simp))
                      have ca6 := cell_ats HBx.out HQO.out.hash HAT.out
                      have HIS := Lib.hid (fun Z (hz : PrS W2 Z lab9 X P y) => is_any j P.K a P.B y.s Z hz.mi.sp HK2.out HAL.out)
                      clear hs6 hb6 ht hlk ca HB HPS HOKC HDE
                      cases t with
                      | none =>
                        obtain rfl := ht6
                        rw [show (Option.isSome (none : Option d_Bs)) = false from rfl]
                        have HNG : Hid (¬ gdL y la.q (j, a) = true) := Lib.hid (by unfold gdL; simp only; rw [HTT.out]; simp)
                        by_cases han : a < N
                        · have hani : (a : Int) < (N : Int) := by omega
                          have hsk : isS y.s j a = true := by
                            rcases HOK2.out with h | h | h
                            · exact absurd h HNG.out
                            · have : N ≤ a := h; omega
                            · exact h
                          rw [hsk] at HIS
                          clear hsk
                          go_upto_region 37 with fail
                          refine wp_region_sched (.take 0 (.take 1 (.take 2 (.take 3 (.step 4 (.take 5 (.take 6 (.take 7 (.take 8 (.take 9 (.take 10 (.take 11 (.take 12 (.take 13 (.take 14 (.take 15 (.take 16 (.take 17 (.take 18 (.take 19 (.take 20 (.step 21 (.take 22 (.take 23 (.nil))))))))))))))))))))))))) (by kernel_rfl) (by kernel_rfl) (fun d _ _ _ _ h => by cases d <;> exact h) (fun Z => GoW W2 lab9 X P y la.q g9 Z) ⟨HBx.out, HSx.out.drew⟩ ?_
                          have hz0 : (fun Z => GoW W2 lab9 X P y la.q g9 Z) W6.drew := ⟨HBx.out, HSx.out.drew⟩
                          refine wpG_take _ (.bool false) rfl (by rfl) (fun X hX => by first | rfl | go_simp) ?_
                          (try simp only [Act.put, List.setIfInBounds_toArray, List.set_cons_zero, List.set_cons_succ])
                          refine wpG_take _ (.bool false) rfl (by rfl) (fun X hX => by first | rfl | go_simp) ?_
                          (try simp only [Act.put, List.setIfInBounds_toArray, List.set_cons_zero, List.set_cons_succ])
                          refine wpG_pass _ rfl (by rfl) ?_
                          (try simp only [Act.put, List.setIfInBounds_toArray, List.set_cons_zero, List.set_cons_succ])
                          refine wpG_pass _ rfl (by rfl) ?_
                          (try simp only [Act.put, List.setIfInBounds_toArray, List.set_cons_zero, List.set_cons_succ])
                          refine wpG_skip _ rfl (by rfl) hz0 ?_
                          (try simp only [Act.put, List.setIfInBounds_toArray, List.set_cons_zero, List.set_cons_succ])
                          refine wpG_take _ (.bool false) rfl (by rfl) (fun X hX => by first | rfl | go_simp) ?_
                          (try simp only [Act.put, List.setIfInBounds_toArray, List.set_cons_zero, List.set_cons_succ])
                          refine wpG_take _ (.bool true) rfl (by rfl) (fun X hX => by first | rfl | go_simp) ?_
                          (try simp only [Act.put, List.setIfInBounds_toArray, List.set_cons_zero, List.set_cons_succ])
                          refine wpG_take _ (.bool true) rfl (by rfl) (fun X hX => by first | rfl | go_simp) ?_
                          (try simp only [Act.put, List.setIfInBounds_toArray, List.set_cons_zero, List.set_cons_succ])
                          refine wpG_take _ (.bool true) rfl (by rfl) (fun X hX => by first | rfl | go_simp) ?_
                          (try simp only [Act.put, List.setIfInBounds_toArray, List.set_cons_zero, List.set_cons_succ])
                          refine wpG_take _ (.bool true) rfl (by rfl) (fun X hX => by first | rfl | go_simp) ?_
                          (try simp only [Act.put, List.setIfInBounds_toArray, List.set_cons_zero, List.set_cons_succ])
                          refine wpG_take _ (.bool true) rfl (by rfl) (fun X hX => by first | rfl | go_simp) ?_
                          (try simp only [Act.put, List.setIfInBounds_toArray, List.set_cons_zero, List.set_cons_succ])
                          refine wpG_take _ (.pointer (some ⟨X, 0, none⟩)) rfl (by rfl) (fun X hX => by first | rfl | go_simp) ?_
                          (try simp only [Act.put, List.setIfInBounds_toArray, List.set_cons_zero, List.set_cons_succ])
                          refine wpG_take _ (.pointer (some ⟨X, 0, none⟩)) rfl (by rfl) (fun X hX => by first | rfl | go_simp) ?_
                          (try simp only [Act.put, List.setIfInBounds_toArray, List.set_cons_zero, List.set_cons_succ])
                          refine wpG_take _ (.pointer (some ⟨X, 3, none⟩)) rfl (by rfl) (fun X hX => by first | rfl | go_simp) ?_
                          (try simp only [Act.put, List.setIfInBounds_toArray, List.set_cons_zero, List.set_cons_succ])
                          refine wpG_take _ (.pointer (some ⟨P.K, 0, none⟩)) rfl (by rfl) (fun X hX => q_ldK rfl rfl hX.s.cs) ?_
                          (try simp only [Act.put, List.setIfInBounds_toArray, List.set_cons_zero, List.set_cons_succ])
                          refine wpG_take _ (.int .i64 (k : Int)) rfl (by rfl) (fun X hX => by first | rfl | go_simp) ?_
                          (try simp only [Act.put, List.setIfInBounds_toArray, List.set_cons_zero, List.set_cons_succ])
                          refine wpG_take _ (.int .i64 (j : Int)) rfl (by rfl) (fun X hX => ex_quo2 HJ.out (by omega) rfl rfl rfl) ?_
                          (try simp only [Act.put, List.setIfInBounds_toArray, List.set_cons_zero, List.set_cons_succ])
                          refine wpG_take _ (.int .i64 (k : Int)) rfl (by rfl) (fun X hX => by first | rfl | go_simp) ?_
                          (try simp only [Act.put, List.setIfInBounds_toArray, List.set_cons_zero, List.set_cons_succ])
                          refine wpG_take _ (.pointer (some ⟨g9, 37, none⟩)) rfl (by rfl) (fun X hX => ex_faP 6 37 (by omega) rfl rfl) ?_
                          (try simp only [Act.put, List.setIfInBounds_toArray, List.set_cons_zero, List.set_cons_succ])
                          refine wpG_take _ (.pointer (some ⟨g9, 37 + k, none⟩)) rfl (by rfl) (fun X hX => by first | rfl | go_simp) ?_
                          (try simp only [Act.put, List.setIfInBounds_toArray, List.set_cons_zero, List.set_cons_succ])
                          refine wpG_take _ (.int .u16 (a : Int)) rfl (by rfl) (fun X hX => ex_ld1 Tryz.underlying52 rfl rfl (cell_ats hX.b HQO.out.hash HAT.out)) ?_
                          (try simp only [Act.put, List.setIfInBounds_toArray, List.set_cons_zero, List.set_cons_succ])
                          refine wpG_call _ rfl (by rfl) 29 #[.pointer (some ⟨P.K, 0, none⟩), .int .i64 (j : Int), .int .u16 (a : Int)] (fun _ => by go_simp) (fun u w' => u = .bool true) ((HIS.out _ hz0.s).mono fun e w' ⟨e1, e2⟩ => ⟨_, e1, ⟨hz0.b.below e2 hz0.b.lt, hz0.s.below e2⟩, rfl⟩) ?_
                          rintro u W8 hz2 rfl
                          refine ⟨_, fun _ h => h, hz2, ?_⟩
                          (try simp only [Act.put, List.setIfInBounds_toArray, List.set_cons_zero, List.set_cons_succ])
                          refine wpG_take _ (.bool false) rfl (by rfl) (fun X hX => by first | rfl | go_simp) ?_
                          (try simp only [Act.put, List.setIfInBounds_toArray, List.set_cons_zero, List.set_cons_succ])
                          refine wpG_take _ (.bool false) rfl (by rfl) (fun X hX => by first | rfl | go_simp) ?_
                          (try simp only [Act.put, List.setIfInBounds_toArray, List.set_cons_zero, List.set_cons_succ])
                          refine wpG_nil ?_
                          have HBz := Lib.hid hz2.b; have HSz := Lib.hid hz2.s
                          clear hz0  hz2
                          go_wp2_with fail
                          go_roundw
                          case rel => exact ⟨k + 1, by omega, by go_num, HSz.out, HBz.out⟩
                          case measure => simp [intOf]; omega
                        · have hani : ¬ (a : Int) < (N : Int) := by omega
                          have hanb : decide ((a : Int) < (N : Int)) = false := decide_eq_false hani
                          go_upto_region 37 with fail
                          refine wp_region_sched (.take 0 (.take 1 (.take 2 (.take 3 (.step 4 (.take 5 (.take 6 (.take 7 (.take 8 (.take 9 (.take 10 (.take 11 (.take 12 (.take 13 (.take 14 (.take 15 (.take 16 (.take 17 (.take 18 (.take 19 (.take 20 (.step 21 (.take 22 (.take 23 (.nil))))))))))))))))))))))))) (by kernel_rfl) (by kernel_rfl) (fun d _ _ _ _ h => by cases d <;> exact h) (fun Z => GoW W2 lab9 X P y la.q g9 Z) ⟨HBx.out, HSx.out.drew⟩ ?_
                          have hz0 : (fun Z => GoW W2 lab9 X P y la.q g9 Z) W6.drew := ⟨HBx.out, HSx.out.drew⟩
                          refine wpG_take _ (.bool false) rfl (by rfl) (fun X hX => by first | rfl | go_simp) ?_
                          (try simp only [Act.put, List.setIfInBounds_toArray, List.set_cons_zero, List.set_cons_succ])
                          refine wpG_take _ (.bool false) rfl (by rfl) (fun X hX => by first | rfl | go_simp) ?_
                          (try simp only [Act.put, List.setIfInBounds_toArray, List.set_cons_zero, List.set_cons_succ])
                          refine wpG_pass _ rfl (by rfl) ?_
                          (try simp only [Act.put, List.setIfInBounds_toArray, List.set_cons_zero, List.set_cons_succ])
                          refine wpG_pass _ rfl (by rfl) ?_
                          (try simp only [Act.put, List.setIfInBounds_toArray, List.set_cons_zero, List.set_cons_succ])
                          refine wpG_skip _ rfl (by rfl) hz0 ?_
                          (try simp only [Act.put, List.setIfInBounds_toArray, List.set_cons_zero, List.set_cons_succ])
                          refine wpG_take _ (.bool false) rfl (by rfl) (fun X hX => by first | rfl | go_simp) ?_
                          (try simp only [Act.put, List.setIfInBounds_toArray, List.set_cons_zero, List.set_cons_succ])
                          refine wpG_take _ (.bool true) rfl (by rfl) (fun X hX => by first | rfl | go_simp) ?_
                          (try simp only [Act.put, List.setIfInBounds_toArray, List.set_cons_zero, List.set_cons_succ])
                          refine wpG_take _ (.bool true) rfl (by rfl) (fun X hX => by first | rfl | go_simp) ?_
                          (try simp only [Act.put, List.setIfInBounds_toArray, List.set_cons_zero, List.set_cons_succ])
                          refine wpG_take _ (.bool false) rfl (by rfl) (fun X hX => by first | rfl | go_simp) ?_
                          (try simp only [Act.put, List.setIfInBounds_toArray, List.set_cons_zero, List.set_cons_succ])
                          refine wpG_take _ (.bool false) rfl (by rfl) (fun X hX => by first | rfl | go_simp) ?_
                          (try simp only [Act.put, List.setIfInBounds_toArray, List.set_cons_zero, List.set_cons_succ])
                          refine wpG_take _ (.bool false) rfl (by rfl) (fun X hX => by first | rfl | go_simp) ?_
                          (try simp only [Act.put, List.setIfInBounds_toArray, List.set_cons_zero, List.set_cons_succ])
                          refine wpG_pass _ rfl (by rfl) ?_
                          (try simp only [Act.put, List.setIfInBounds_toArray, List.set_cons_zero, List.set_cons_succ])
                          refine wpG_pass _ rfl (by rfl) ?_
                          (try simp only [Act.put, List.setIfInBounds_toArray, List.set_cons_zero, List.set_cons_succ])
                          refine wpG_pass _ rfl (by rfl) ?_
                          (try simp only [Act.put, List.setIfInBounds_toArray, List.set_cons_zero, List.set_cons_succ])
                          refine wpG_pass _ rfl (by rfl) ?_
                          (try simp only [Act.put, List.setIfInBounds_toArray, List.set_cons_zero, List.set_cons_succ])
                          refine wpG_pass _ rfl (by rfl) ?_
                          (try simp only [Act.put, List.setIfInBounds_toArray, List.set_cons_zero, List.set_cons_succ])
                          refine wpG_pass _ rfl (by rfl) ?_
                          (try simp only [Act.put, List.setIfInBounds_toArray, List.set_cons_zero, List.set_cons_succ])
                          refine wpG_pass _ rfl (by rfl) ?_
                          (try simp only [Act.put, List.setIfInBounds_toArray, List.set_cons_zero, List.set_cons_succ])
                          refine wpG_pass _ rfl (by rfl) ?_
                          (try simp only [Act.put, List.setIfInBounds_toArray, List.set_cons_zero, List.set_cons_succ])
                          refine wpG_pass _ rfl (by rfl) ?_
                          (try simp only [Act.put, List.setIfInBounds_toArray, List.set_cons_zero, List.set_cons_succ])
                          refine wpG_pass _ rfl (by rfl) ?_
                          (try simp only [Act.put, List.setIfInBounds_toArray, List.set_cons_zero, List.set_cons_succ])
                          refine wpG_skip _ rfl (by rfl) hz0 ?_
                          (try simp only [Act.put, List.setIfInBounds_toArray, List.set_cons_zero, List.set_cons_succ])
                          refine wpG_pass _ rfl (by rfl) ?_
                          (try simp only [Act.put, List.setIfInBounds_toArray, List.set_cons_zero, List.set_cons_succ])
                          refine wpG_take _ (.bool false) rfl (by rfl) (fun X hX => by first | rfl | go_simp) ?_
                          (try simp only [Act.put, List.setIfInBounds_toArray, List.set_cons_zero, List.set_cons_succ])
                          refine wpG_nil ?_
                          have HBz := Lib.hid hz0.b; have HSz := Lib.hid hz0.s
                          clear hz0  
                          go_wp2_with fail
                          go_roundw
                          case rel => exact ⟨k + 1, by omega, by go_num, HSz.out, HBz.out⟩
                          case measure => simp [intOf]; omega
                      | some b =>
                        obtain ⟨gb, rfl, hbl, hsrc⟩ := q_told_src ht6
                        rw [show (Option.isSome (some b : Option d_Bs)) = true from rfl]
                        have HSR := Lib.hid hsrc
                        obtain ⟨f, hf⟩ : ∃ f, fitsP la.q b = f := ⟨_, rfl⟩
                        have HFT : Hid (∀ Z, PrS W2 Z lab9 X P y → SrcA Z (some ⟨gb, 0, none⟩) b → Calls Tryz.prog 23 #[.agg (pcells la.q).toArray, .slice (some ⟨gb, 0, none⟩) 512 512] Z fun e w' => e = .returned (.bool f) ∧ Below Z.heap.size Z w') := Lib.hid fun Z hz hsz => by
                          have h1 := fits_any la.q HQO.out b (some ⟨gb, 0, none⟩) 512 Z (by omega) (by omega) (by unfold maxLen; omega) hsz hz.mi.tab
                          rw [hbl, hf] at h1
                          exact h1
                        have HGF : Hid (gdL y la.q (j, a) = f) := Lib.hid (by unfold gdL; simp only; rw [HTT.out]; exact hf)
                        clear ht6 hsrc hf
                        cases f
                        · by_cases han : a < N
                          · have hani : (a : Int) < (N : Int) := by omega
                            have hsk : isS y.s j a = true := by
                              rcases HOK2.out with h | h | h
                              · exact absurd (HGF.out.symm.trans h) (by simp)
                              · have : N ≤ a := h; omega
                              · exact h
                            rw [hsk] at HIS
                            clear hsk
                            go_upto_region 37 with fail
                            refine wp_region_sched (.take 0 (.take 1 (.take 2 (.take 3 (.step 4 (.take 5 (.take 6 (.take 7 (.take 8 (.take 9 (.take 10 (.take 11 (.take 12 (.take 13 (.take 14 (.take 15 (.take 16 (.take 17 (.take 18 (.take 19 (.take 20 (.step 21 (.take 22 (.take 23 (.nil))))))))))))))))))))))))) (by kernel_rfl) (by kernel_rfl) (fun d _ _ _ _ h => by cases d <;> exact h) (fun Z => GoW W2 lab9 X P y la.q g9 Z ∧ SrcA Z (some ⟨gb, 0, none⟩) b) ⟨⟨HBx.out, HSx.out.drew⟩, HSR.out.drew⟩ ?_
                            have hz0 : (fun Z => GoW W2 lab9 X P y la.q g9 Z ∧ SrcA Z (some ⟨gb, 0, none⟩) b) W6.drew := ⟨⟨HBx.out, HSx.out.drew⟩, HSR.out.drew⟩
                            refine wpG_take _ (.bool true) rfl (by rfl) (fun X hX => by first | rfl | go_simp) ?_
                            (try simp only [Act.put, List.setIfInBounds_toArray, List.set_cons_zero, List.set_cons_succ])
                            refine wpG_take _ (.bool true) rfl (by rfl) (fun X hX => by first | rfl | go_simp) ?_
                            (try simp only [Act.put, List.setIfInBounds_toArray, List.set_cons_zero, List.set_cons_succ])
                            refine wpG_take _ (.agg (pcells la.q).toArray) rfl (by rfl) (fun X hX => ex_ldPq HQO.out hX.1.b rfl rfl) ?_
                            (try simp only [Act.put, List.setIfInBounds_toArray, List.set_cons_zero, List.set_cons_succ])
                            refine wpG_take _ (.slice (some ⟨gb, 0, none⟩) 512 512) rfl (by rfl) (fun X hX => by first | rfl | go_simp) ?_
                            (try simp only [Act.put, List.setIfInBounds_toArray, List.set_cons_zero, List.set_cons_succ])
                            refine wpG_call _ rfl (by rfl) 23 #[.agg (pcells la.q).toArray, .slice (some ⟨gb, 0, none⟩) 512 512] (fun _ => by go_simp) (fun u w' => u = .bool false) ((HFT.out _ hz0.1.s hz0.2).mono fun e w' ⟨e1, e2⟩ => ⟨_, e1, ⟨⟨hz0.1.b.below e2 hz0.1.b.lt, hz0.1.s.below e2⟩, hz0.2.grown e2⟩, rfl⟩) ?_
                            rintro u W7 hz1 rfl
                            refine ⟨_, fun _ h => h, hz1, ?_⟩
                            (try simp only [Act.put, List.setIfInBounds_toArray, List.set_cons_zero, List.set_cons_succ])
                            refine wpG_take _ (.bool false) rfl (by rfl) (fun X hX => by first | rfl | go_simp) ?_
                            (try simp only [Act.put, List.setIfInBounds_toArray, List.set_cons_zero, List.set_cons_succ])
                            refine wpG_take _ (.bool true) rfl (by rfl) (fun X hX => by first | rfl | go_simp) ?_
                            (try simp only [Act.put, List.setIfInBounds_toArray, List.set_cons_zero, List.set_cons_succ])
                            refine wpG_take _ (.bool true) rfl (by rfl) (fun X hX => by first | rfl | go_simp) ?_
                            (try simp only [Act.put, List.setIfInBounds_toArray, List.set_cons_zero, List.set_cons_succ])
                            refine wpG_take _ (.bool true) rfl (by rfl) (fun X hX => by first | rfl | go_simp) ?_
                            (try simp only [Act.put, List.setIfInBounds_toArray, List.set_cons_zero, List.set_cons_succ])
                            refine wpG_take _ (.bool true) rfl (by rfl) (fun X hX => by first | rfl | go_simp) ?_
                            (try simp only [Act.put, List.setIfInBounds_toArray, List.set_cons_zero, List.set_cons_succ])
                            refine wpG_take _ (.bool true) rfl (by rfl) (fun X hX => by first | rfl | go_simp) ?_
                            (try simp only [Act.put, List.setIfInBounds_toArray, List.set_cons_zero, List.set_cons_succ])
                            refine wpG_take _ (.pointer (some ⟨X, 0, none⟩)) rfl (by rfl) (fun X hX => by first | rfl | go_simp) ?_
                            (try simp only [Act.put, List.setIfInBounds_toArray, List.set_cons_zero, List.set_cons_succ])
                            refine wpG_take _ (.pointer (some ⟨X, 0, none⟩)) rfl (by rfl) (fun X hX => by first | rfl | go_simp) ?_
                            (try simp only [Act.put, List.setIfInBounds_toArray, List.set_cons_zero, List.set_cons_succ])
                            refine wpG_take _ (.pointer (some ⟨X, 3, none⟩)) rfl (by rfl) (fun X hX => by first | rfl | go_simp) ?_
                            (try simp only [Act.put, List.setIfInBounds_toArray, List.set_cons_zero, List.set_cons_succ])
                            refine wpG_take _ (.pointer (some ⟨P.K, 0, none⟩)) rfl (by rfl) (fun X hX => q_ldK rfl rfl hX.1.s.cs) ?_
                            (try simp only [Act.put, List.setIfInBounds_toArray, List.set_cons_zero, List.set_cons_succ])
                            refine wpG_take _ (.int .i64 (k : Int)) rfl (by rfl) (fun X hX => by first | rfl | go_simp) ?_
                            (try simp only [Act.put, List.setIfInBounds_toArray, List.set_cons_zero, List.set_cons_succ])
                            refine wpG_take _ (.int .i64 (j : Int)) rfl (by rfl) (fun X hX => ex_quo2 HJ.out (by omega) rfl rfl rfl) ?_
                            (try simp only [Act.put, List.setIfInBounds_toArray, List.set_cons_zero, List.set_cons_succ])
                            refine wpG_take _ (.int .i64 (k : Int)) rfl (by rfl) (fun X hX => by first | rfl | go_simp) ?_
                            (try simp only [Act.put, List.setIfInBounds_toArray, List.set_cons_zero, List.set_cons_succ])
                            refine wpG_take _ (.pointer (some ⟨g9, 37, none⟩)) rfl (by rfl) (fun X hX => ex_faP 6 37 (by omega) rfl rfl) ?_
                            (try simp only [Act.put, List.setIfInBounds_toArray, List.set_cons_zero, List.set_cons_succ])
                            refine wpG_take _ (.pointer (some ⟨g9, 37 + k, none⟩)) rfl (by rfl) (fun X hX => by first | rfl | go_simp) ?_
                            (try simp only [Act.put, List.setIfInBounds_toArray, List.set_cons_zero, List.set_cons_succ])
                            refine wpG_take _ (.int .u16 (a : Int)) rfl (by rfl) (fun X hX => ex_ld1 Tryz.underlying52 rfl rfl (cell_ats hX.1.b HQO.out.hash HAT.out)) ?_
                            (try simp only [Act.put, List.setIfInBounds_toArray, List.set_cons_zero, List.set_cons_succ])
                            refine wpG_call _ rfl (by rfl) 29 #[.pointer (some ⟨P.K, 0, none⟩), .int .i64 (j : Int), .int .u16 (a : Int)] (fun _ => by go_simp) (fun u w' => u = .bool true) ((HIS.out _ hz1.1.s).mono fun e w' ⟨e1, e2⟩ => ⟨_, e1, ⟨⟨hz1.1.b.below e2 hz1.1.b.lt, hz1.1.s.below e2⟩, hz1.2.grown e2⟩, rfl⟩) ?_
                            rintro u W8 hz2 rfl
                            refine ⟨_, fun _ h => h, hz2, ?_⟩
                            (try simp only [Act.put, List.setIfInBounds_toArray, List.set_cons_zero, List.set_cons_succ])
                            refine wpG_take _ (.bool false) rfl (by rfl) (fun X hX => by first | rfl | go_simp) ?_
                            (try simp only [Act.put, List.setIfInBounds_toArray, List.set_cons_zero, List.set_cons_succ])
                            refine wpG_take _ (.bool false) rfl (by rfl) (fun X hX => by first | rfl | go_simp) ?_
                            (try simp only [Act.put, List.setIfInBounds_toArray, List.set_cons_zero, List.set_cons_succ])
                            refine wpG_nil ?_
                            have HBz := Lib.hid hz2.1.b; have HSz := Lib.hid hz2.1.s
                            clear hz0 hz1 hz2
                            go_wp2_with fail
                            go_roundw
                            case rel => exact ⟨k + 1, by omega, by go_num, HSz.out, HBz.out⟩
                            case measure => simp [intOf]; omega
                          · have hani : ¬ (a : Int) < (N : Int) := by omega
                            have hanb : decide ((a : Int) < (N : Int)) = false := decide_eq_false hani
                            go_upto_region 37 with fail
                            refine wp_region_sched (.take 0 (.take 1 (.take 2 (.take 3 (.step 4 (.take 5 (.take 6 (.take 7 (.take 8 (.take 9 (.take 10 (.take 11 (.take 12 (.take 13 (.take 14 (.take 15 (.take 16 (.take 17 (.take 18 (.take 19 (.take 20 (.step 21 (.take 22 (.take 23 (.nil))))))))))))))))))))))))) (by kernel_rfl) (by kernel_rfl) (fun d _ _ _ _ h => by cases d <;> exact h) (fun Z => GoW W2 lab9 X P y la.q g9 Z ∧ SrcA Z (some ⟨gb, 0, none⟩) b) ⟨⟨HBx.out, HSx.out.drew⟩, HSR.out.drew⟩ ?_
                            have hz0 : (fun Z => GoW W2 lab9 X P y la.q g9 Z ∧ SrcA Z (some ⟨gb, 0, none⟩) b) W6.drew := ⟨⟨HBx.out, HSx.out.drew⟩, HSR.out.drew⟩
                            refine wpG_take _ (.bool true) rfl (by rfl) (fun X hX => by first | rfl | go_simp) ?_
                            (try simp only [Act.put, List.setIfInBounds_toArray, List.set_cons_zero, List.set_cons_succ])
                            refine wpG_take _ (.bool true) rfl (by rfl) (fun X hX => by first | rfl | go_simp) ?_
                            (try simp only [Act.put, List.setIfInBounds_toArray, List.set_cons_zero, List.set_cons_succ])
                            refine wpG_take _ (.agg (pcells la.q).toArray) rfl (by rfl) (fun X hX => ex_ldPq HQO.out hX.1.b rfl rfl) ?_
                            (try simp only [Act.put, List.setIfInBounds_toArray, List.set_cons_zero, List.set_cons_succ])
                            refine wpG_take _ (.slice (some ⟨gb, 0, none⟩) 512 512) rfl (by rfl) (fun X hX => by first | rfl | go_simp) ?_
                            (try simp only [Act.put, List.setIfInBounds_toArray, List.set_cons_zero, List.set_cons_succ])
                            refine wpG_call _ rfl (by rfl) 23 #[.agg (pcells la.q).toArray, .slice (some ⟨gb, 0, none⟩) 512 512] (fun _ => by go_simp) (fun u w' => u = .bool false) ((HFT.out _ hz0.1.s hz0.2).mono fun e w' ⟨e1, e2⟩ => ⟨_, e1, ⟨⟨hz0.1.b.below e2 hz0.1.b.lt, hz0.1.s.below e2⟩, hz0.2.grown e2⟩, rfl⟩) ?_
                            rintro u W7 hz1 rfl
                            refine ⟨_, fun _ h => h, hz1, ?_⟩
                            (try simp only [Act.put, List.setIfInBounds_toArray, List.set_cons_zero, List.set_cons_succ])
                            refine wpG_take _ (.bool false) rfl (by rfl) (fun X hX => by first | rfl | go_simp) ?_
                            (try simp only [Act.put, List.setIfInBounds_toArray, List.set_cons_zero, List.set_cons_succ])
                            refine wpG_take _ (.bool true) rfl (by rfl) (fun X hX => by first | rfl | go_simp) ?_
                            (try simp only [Act.put, List.setIfInBounds_toArray, List.set_cons_zero, List.set_cons_succ])
                            refine wpG_take _ (.bool true) rfl (by rfl) (fun X hX => by first | rfl | go_simp) ?_
                            (try simp only [Act.put, List.setIfInBounds_toArray, List.set_cons_zero, List.set_cons_succ])
                            refine wpG_take _ (.bool false) rfl (by rfl) (fun X hX => by first | rfl | go_simp) ?_
                            (try simp only [Act.put, List.setIfInBounds_toArray, List.set_cons_zero, List.set_cons_succ])
                            refine wpG_take _ (.bool false) rfl (by rfl) (fun X hX => by first | rfl | go_simp) ?_
                            (try simp only [Act.put, List.setIfInBounds_toArray, List.set_cons_zero, List.set_cons_succ])
                            refine wpG_take _ (.bool false) rfl (by rfl) (fun X hX => by first | rfl | go_simp) ?_
                            (try simp only [Act.put, List.setIfInBounds_toArray, List.set_cons_zero, List.set_cons_succ])
                            refine wpG_pass _ rfl (by rfl) ?_
                            (try simp only [Act.put, List.setIfInBounds_toArray, List.set_cons_zero, List.set_cons_succ])
                            refine wpG_pass _ rfl (by rfl) ?_
                            (try simp only [Act.put, List.setIfInBounds_toArray, List.set_cons_zero, List.set_cons_succ])
                            refine wpG_pass _ rfl (by rfl) ?_
                            (try simp only [Act.put, List.setIfInBounds_toArray, List.set_cons_zero, List.set_cons_succ])
                            refine wpG_pass _ rfl (by rfl) ?_
                            (try simp only [Act.put, List.setIfInBounds_toArray, List.set_cons_zero, List.set_cons_succ])
                            refine wpG_pass _ rfl (by rfl) ?_
                            (try simp only [Act.put, List.setIfInBounds_toArray, List.set_cons_zero, List.set_cons_succ])
                            refine wpG_pass _ rfl (by rfl) ?_
                            (try simp only [Act.put, List.setIfInBounds_toArray, List.set_cons_zero, List.set_cons_succ])
                            refine wpG_pass _ rfl (by rfl) ?_
                            (try simp only [Act.put, List.setIfInBounds_toArray, List.set_cons_zero, List.set_cons_succ])
                            refine wpG_pass _ rfl (by rfl) ?_
                            (try simp only [Act.put, List.setIfInBounds_toArray, List.set_cons_zero, List.set_cons_succ])
                            refine wpG_pass _ rfl (by rfl) ?_
                            (try simp only [Act.put, List.setIfInBounds_toArray, List.set_cons_zero, List.set_cons_succ])
                            refine wpG_pass _ rfl (by rfl) ?_
                            (try simp only [Act.put, List.setIfInBounds_toArray, List.set_cons_zero, List.set_cons_succ])
                            refine wpG_skip _ rfl (by rfl) hz1 ?_
                            (try simp only [Act.put, List.setIfInBounds_toArray, List.set_cons_zero, List.set_cons_succ])
                            refine wpG_pass _ rfl (by rfl) ?_
                            (try simp only [Act.put, List.setIfInBounds_toArray, List.set_cons_zero, List.set_cons_succ])
                            refine wpG_take _ (.bool false) rfl (by rfl) (fun X hX => by first | rfl | go_simp) ?_
                            (try simp only [Act.put, List.setIfInBounds_toArray, List.set_cons_zero, List.set_cons_succ])
                            refine wpG_nil ?_
                            have HBz := Lib.hid hz1.1.b; have HSz := Lib.hid hz1.1.s
                            clear hz0 hz1 
                            go_wp2_with fail
                            go_roundw
                            case rel => exact ⟨k + 1, by omega, by go_num, HSz.out, HBz.out⟩
                            case measure => simp [intOf]; omega
                        · obtain ⟨there, hth⟩ : ∃ b, decide ((a : Int) < (N : Int)) = b := ⟨_, rfl⟩
                          go_upto_region 37 with fail
                          refine wp_region_sched (.take 0 (.take 1 (.take 2 (.take 3 (.step 4 (.take 5 (.take 6 (.take 7 (.take 8 (.take 9 (.take 10 (.take 11 (.take 12 (.take 13 (.take 14 (.take 15 (.take 16 (.take 17 (.take 18 (.take 19 (.take 20 (.step 21 (.take 22 (.take 23 (.nil))))))))))))))))))))))))) (by kernel_rfl) (by kernel_rfl) (fun d _ _ _ _ h => by cases d <;> exact h) (fun Z => GoW W2 lab9 X P y la.q g9 Z ∧ SrcA Z (some ⟨gb, 0, none⟩) b) ⟨⟨HBx.out, HSx.out.drew⟩, HSR.out.drew⟩ ?_
                          have hz0 : (fun Z => GoW W2 lab9 X P y la.q g9 Z ∧ SrcA Z (some ⟨gb, 0, none⟩) b) W6.drew := ⟨⟨HBx.out, HSx.out.drew⟩, HSR.out.drew⟩
                          refine wpG_take _ (.bool true) rfl (by rfl) (fun X hX => by first | rfl | go_simp) ?_
                          (try simp only [Act.put, List.setIfInBounds_toArray, List.set_cons_zero, List.set_cons_succ])
                          refine wpG_take _ (.bool true) rfl (by rfl) (fun X hX => by first | rfl | go_simp) ?_
                          (try simp only [Act.put, List.setIfInBounds_toArray, List.set_cons_zero, List.set_cons_succ])
                          refine wpG_take _ (.agg (pcells la.q).toArray) rfl (by rfl) (fun X hX => ex_ldPq HQO.out hX.1.b rfl rfl) ?_
                          (try simp only [Act.put, List.setIfInBounds_toArray, List.set_cons_zero, List.set_cons_succ])
                          refine wpG_take _ (.slice (some ⟨gb, 0, none⟩) 512 512) rfl (by rfl) (fun X hX => by first | rfl | go_simp) ?_
                          (try simp only [Act.put, List.setIfInBounds_toArray, List.set_cons_zero, List.set_cons_succ])
                          refine wpG_call _ rfl (by rfl) 23 #[.agg (pcells la.q).toArray, .slice (some ⟨gb, 0, none⟩) 512 512] (fun _ => by go_simp) (fun u w' => u = .bool true) ((HFT.out _ hz0.1.s hz0.2).mono fun e w' ⟨e1, e2⟩ => ⟨_, e1, ⟨⟨hz0.1.b.below e2 hz0.1.b.lt, hz0.1.s.below e2⟩, hz0.2.grown e2⟩, rfl⟩) ?_
                          rintro u W7 hz1 rfl
                          refine ⟨_, fun _ h => h, hz1, ?_⟩
                          (try simp only [Act.put, List.setIfInBounds_toArray, List.set_cons_zero, List.set_cons_succ])
                          refine wpG_take _ (.bool true) rfl (by rfl) (fun X hX => by first | rfl | go_simp) ?_
                          (try simp only [Act.put, List.setIfInBounds_toArray, List.set_cons_zero, List.set_cons_succ])
                          refine wpG_take _ (.bool false) rfl (by rfl) (fun X hX => by first | rfl | go_simp) ?_
                          (try simp only [Act.put, List.setIfInBounds_toArray, List.set_cons_zero, List.set_cons_succ])
                          refine wpG_take _ (.bool false) rfl (by rfl) (fun X hX => by first | rfl | go_simp) ?_
                          (try simp only [Act.put, List.setIfInBounds_toArray, List.set_cons_zero, List.set_cons_succ])
                          refine wpG_pass _ rfl (by rfl) ?_
                          (try simp only [Act.put, List.setIfInBounds_toArray, List.set_cons_zero, List.set_cons_succ])
                          refine wpG_take _ (.bool false) rfl (by rfl) (fun X hX => by first | rfl | go_simp) ?_
                          (try simp only [Act.put, List.setIfInBounds_toArray, List.set_cons_zero, List.set_cons_succ])
                          refine wpG_take _ (.bool false) rfl (by rfl) (fun X hX => by first | rfl | go_simp) ?_
                          (try simp only [Act.put, List.setIfInBounds_toArray, List.set_cons_zero, List.set_cons_succ])
                          refine wpG_pass _ rfl (by rfl) ?_
                          (try simp only [Act.put, List.setIfInBounds_toArray, List.set_cons_zero, List.set_cons_succ])
                          refine wpG_pass _ rfl (by rfl) ?_
                          (try simp only [Act.put, List.setIfInBounds_toArray, List.set_cons_zero, List.set_cons_succ])
                          refine wpG_pass _ rfl (by rfl) ?_
                          (try simp only [Act.put, List.setIfInBounds_toArray, List.set_cons_zero, List.set_cons_succ])
                          refine wpG_pass _ rfl (by rfl) ?_
                          (try simp only [Act.put, List.setIfInBounds_toArray, List.set_cons_zero, List.set_cons_succ])
                          refine wpG_pass _ rfl (by rfl) ?_
                          (try simp only [Act.put, List.setIfInBounds_toArray, List.set_cons_zero, List.set_cons_succ])
                          refine wpG_pass _ rfl (by rfl) ?_
                          (try simp only [Act.put, List.setIfInBounds_toArray, List.set_cons_zero, List.set_cons_succ])
                          refine wpG_pass _ rfl (by rfl) ?_
                          (try simp only [Act.put, List.setIfInBounds_toArray, List.set_cons_zero, List.set_cons_succ])
                          refine wpG_pass _ rfl (by rfl) ?_
                          (try simp only [Act.put, List.setIfInBounds_toArray, List.set_cons_zero, List.set_cons_succ])
                          refine wpG_pass _ rfl (by rfl) ?_
                          (try simp only [Act.put, List.setIfInBounds_toArray, List.set_cons_zero, List.set_cons_succ])
                          refine wpG_pass _ rfl (by rfl) ?_
                          (try simp only [Act.put, List.setIfInBounds_toArray, List.set_cons_zero, List.set_cons_succ])
                          refine wpG_skip _ rfl (by rfl) hz1 ?_
                          (try simp only [Act.put, List.setIfInBounds_toArray, List.set_cons_zero, List.set_cons_succ])
                          refine wpG_pass _ rfl (by rfl) ?_
                          (try simp only [Act.put, List.setIfInBounds_toArray, List.set_cons_zero, List.set_cons_succ])
                          refine wpG_take _ (.bool false) rfl (by rfl) (fun X hX => by first | rfl | go_simp) ?_
                          (try simp only [Act.put, List.setIfInBounds_toArray, List.set_cons_zero, List.set_cons_succ])
                          refine wpG_nil ?_
                          have HBz := Lib.hid hz1.1.b; have HSz := Lib.hid hz1.1.s
                          clear hz0 hz1 
                          go_wp2_with fail
                          go_roundw
                          case rel => exact ⟨k + 1, by omega, by go_num, HSz.out, HBz.out⟩
                          case measure => simp [intOf]; omega
                    · go_wp2_with fail
                      go_roundw
                      case rel => exact ⟨k + 1, by omega, by go_num, HPS.out, HB.out⟩
                      case measure => simp [intOf]; omega
                · obtain rfl : k = 4 := by omega
                  rw [show ((4 : Nat) : Int) = (4 : Int) from rfl]
                  clear hk hlt
                  go_wp2_with fail
                  refine (HWK2.out _ HPS.out.bel).mono ?_
                  rintro e W10 ⟨rfl, hb10⟩
                  have HB10 := Lib.hid hb10
                  clear hb10
                  go_wp2_with fail
                  go_ret
                  exact ⟨rfl, HB10.out⟩
            · have hg0 : ¬ 0 < G := fun h => hz (HIF.out.2 h)
              obtain rfl : G = 0 := by omega
              rw [heal_eio HMV.out true hz, show ((0 : Nat) : Int) = (0 : Int) from rfl]
              clear hg0 hz HIF
              go_wp2_with fail
              refine (HWK2.out W9 HP9.out.bel).mono ?_
              rintro e W10 ⟨rfl, hb10⟩
              have HB10 := Lib.hid hb10
              clear hb10
              go_wp2_with fail
              go_ret
              exact ⟨rfl, HB10.out⟩
end Go.Proofs.YtmgagalhpkieoaaGreatDoor
