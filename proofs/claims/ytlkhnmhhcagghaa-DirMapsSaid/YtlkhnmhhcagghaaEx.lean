/- DirMaps: the walk. -/
import Derived.Test.YtlkhnmhhcagghaaEw
import Derived.Test.YtlkhnmhhcagghaaEo
import Derived.Deep.CutBlock
import Derived.Deep.CutRange
import Derived.BigFrame
namespace Go.Proofs.Ytlkhnmhhcagghaa
open Go.RowKit

attribute [local go_sem] Oper.semAt_some

set_option maxRecDepth 100000 in
set_option maxHeartbeats 16000000 in
theorem maps_go (l : List AcD) (sp : Option Addr) (cap : Nat) (hc : l.length ≤ cap) (hl : l.length ≤ 150) (hok : ∀ a ∈ l, a.OK) (b : List (BitVec 8)) (sq : Option Addr) (capq : Nat) (hcq : b.length ≤ capq) (hzq : sq = none → capq = 0) (hb4 : b.length ≤ 4000) (w : World) (hA : ActsD w sp l) (hS : SrcA w sq b) :
    Calls Try.prog 5 #[.slice sp l.length cap, .slice sq b.length capq] w fun e w' => e = .returned (.bool true) ∧ Below w.heap.size w w' := by
  obtain ⟨N, hN⟩ : ∃ N, l.length = N := ⟨_, rfl⟩
  obtain ⟨NB, hNB⟩ : ∃ N, b.length = N := ⟨_, rfl⟩
  rw [hN] at hc hl ⊢
  rw [hNB] at hcq hb4 ⊢
  have HN := Lib.hid hN; have HC := Lib.hid hc; have HL := Lib.hid hl; have HA := Lib.hid hA; have HOK := Lib.hid hok; have HNB := Lib.hid hNB; have HCQ := Lib.hid hcq; have HZQ := Lib.hid hzq; have HB4 := Lib.hid hb4; have HSB := Lib.hid hS
  generalize hPost : (fun (e : Ending) (w' : World) => e = .returned (.bool true) ∧ Below w.heap.size w w') = Post
  have HP : Hid (∀ w', Below w.heap.size w w' → Post (.returned (.bool true)) w') := Lib.hid fun w' h => by rw [← hPost]; exact ⟨rfl, h⟩
  have z0 : ¬ (150 : Int) < (N : Int) := by omega
  have z00 : ¬ (4000 : Int) < (NB : Int) := by omega
  clear hN hc hl hA hok hNB hcq hzq hb4 hS hPost
  go_enter Try.func5, Try.ntmps5
  go_upto_region 6 with (first | (refine e_val rfl (ex_mkM rfl) ?_) | fail)
  go_loopg [6, 7] N (fun r s6 i wr => ∃ (k : Nat) (L : List Ent), i = .int .i64 (k : Int) ∧ r + k = N ∧ GL L ∧ OwnE wr w.heap.size s6 L ∧ MapE wr w.heap.size L ∧ Below w.heap.size w wr)
  case atStart => exact ⟨0, [], rfl, by omega, GL.nil, OwnE.nil _ _, MapE.made w, (Below.refl _ _).alloc (Nat.le_refl _) _⟩
  case round =>
    as_aux_lemma =>
      obtain ⟨k, L, rfl, hgk, hgl, ho6, hmp, hbw⟩ := hrel
      obtain ⟨sp6, cap6, rfl, hc6, -, -, hz6, -⟩ := ho6.form
      obtain ⟨Q, hQ⟩ : ∃ Q, L.length = Q := ⟨_, rfl⟩
      rw [hQ] at ho6 hc6 ⊢
      have HG := Lib.hid hgl; have HO6 := Lib.hid ho6; have HMP := Lib.hid hmp; have HBW := Lib.hid hbw; have HC6 := Lib.hid hc6; have HZ6 := Lib.hid hz6; have HQ := Lib.hid hQ
      have HQ64 : Hid (Q ≤ 64) := Lib.hid (by rw [← hQ]; exact hgl.2.2)
      clear hgl ho6 hmp hbw hc6 hz6 hQ
      have wk1 := IntWalk.i64_in ((k : Int) + 1) (by have := HL.out; omega)
      by_cases hlt : k < N
      · have hlt' : (k : Int) < (N : Int) := by omega
        obtain ⟨a, ha⟩ : ∃ a, l[k]? = some a := ⟨_, List.getElem?_eq_getElem (by have := HN.out; omega)⟩
        have haok := HOK.out a (List.mem_of_getElem? ha)
        obtain ⟨g, o, rfl, hg, hr⟩ := HA.out (by have := HN.out; omega)
        have hcell : ∀ X, Below w.heap.size w X → X.cell? ⟨g, o + k * 4, none⟩ = some (.int .u8 (a.d : Int)) ∧ X.rangeAt g (o + k * 4 + 1) (ecells a.e) := fun X hX => by
          have h0 := hr k a ha
          refine ⟨by rw [hX.cell (p := ⟨g, o + k * 4, none⟩) hg]; exact h0 0 _ rfl, fun j v hv => ?_⟩
          rw [hX.cell (p := ⟨g, o + k * 4 + 1 + j, none⟩) hg, show o + k * 4 + 1 + j = o + k * 4 + (j + 1) by omega]
          exact h0 (j + 1) v (by simpa using hv)
        have HKC : Hid (k < N ∧ N ≤ cap) := Lib.hid ⟨hlt, HC.out⟩
        obtain ⟨d, e⟩ := a
        simp only at hcell
        have HCL := Lib.hid hcell
        have HEK : Hid e.OK := Lib.hid haok.2
        obtain ⟨hbx1, hbx2⟩ := box_in wr.drew #[.string ⟨#[]⟩, .int .u16 0, .int .u8 0] e rfl
        have hbd : Below w.heap.size w wr.drew := HBW.out.drew
        have hal := hbd.alloc hbd.size (.cells #[.string ⟨#[]⟩, .int .u16 0, .int .u8 0] 46)
        have hb2 : Below w.heap.size w ((wr.drew.alloc (.cells #[.string ⟨#[]⟩, .int .u16 0, .int .u8 0] 46)).setRow wr.drew.heap.size (ecells e).toArray) := hbd.trans (hbx1.mono hbd.size)
        have HS0 := Lib.hid (hcell _ hbd).2; have HS1 := Lib.hid (hcell _ hal).2; have HS2 := Lib.hid (hcell _ hb2).2
        have HBN : Hid (Blk (wr.drew.alloc (.cells #[.string ⟨#[]⟩, .int .u16 0, .int .u8 0] 46)) wr.drew.heap.size [.string ⟨#[]⟩, .int .u16 0, .int .u8 0] 46) := Lib.hid (Blk.new' _ _ _ _ _ rfl rfl)
        have HBX := Lib.hid hbx1; have HBK := Lib.hid hbx2; have HB2 := Lib.hid hb2
        clear ha haok hg hr hcell hbx1 hbx2 hbd hal hb2
        go_upto_region 8 with fail
        refine wp_region_sched ((.take 0 (.take 1 (.take 2 (.take 3 (.take 4 (.take 5 (.take 6 (.take 7 (.take 8 (.take 9 (.take 10 (.take 11 (.take 12 (.take 13 (.take 14 (.take 15 (.take 16 (.take 17 (.take 18 (.step 19 (.step 20 (.nil))))))))))))))))))))))) (by kernel_rfl) (by kernel_rfl) (fun d _ _ _ _ h => by cases d <;> exact h) (fun X => X.rangeAt g (o + k * 4 + 1) (ecells e)) (HS0.out) ?_
        refine wpG_take _ (.slice (some ⟨g, o, none⟩) N cap) rfl (by rfl) (fun X hX => by first | rfl | go_simp) ?_
        (try simp only [Act.put, List.setIfInBounds_toArray, List.set_cons_zero, List.set_cons_succ])
        refine wpG_take _ (.int .i64 (k : Int)) rfl (by rfl) (fun X hX => by first | rfl | go_simp) ?_
        (try simp only [Act.put, List.setIfInBounds_toArray, List.set_cons_zero, List.set_cons_succ])
        refine wpG_take _ (.pointer (some ⟨g, o + k * 4, none⟩)) rfl (by rfl) (fun X hX => ex_iaA rfl rfl rfl HKC.out) ?_
        (try simp only [Act.put, List.setIfInBounds_toArray, List.set_cons_zero, List.set_cons_succ])
        refine wpG_take _ (.pointer (some ⟨g, o + k * 4 + 1, none⟩)) rfl (by rfl) (fun X hX => ex_faAct rfl rfl) ?_
        (try simp only [Act.put, List.setIfInBounds_toArray, List.set_cons_zero, List.set_cons_succ])
        refine wpG_take _ (.pointer (some ⟨g, o + k * 4 + 1 + 0, none⟩)) rfl (by rfl) (fun X hX => ex_faR (by decide) rfl rfl) ?_
        (try simp only [Act.put, List.setIfInBounds_toArray, List.set_cons_zero, List.set_cons_succ])
        refine wpG_take _ (.string (str e.n)) rfl (by rfl) (fun X hX => ex_ldS rfl rfl (hX 0 _ rfl)) ?_
        (try simp only [Act.put, List.setIfInBounds_toArray, List.set_cons_zero, List.set_cons_succ])
        refine wpG_take _ (.slice (some ⟨g, o, none⟩) N cap) rfl (by rfl) (fun X hX => by first | rfl | go_simp) ?_
        (try simp only [Act.put, List.setIfInBounds_toArray, List.set_cons_zero, List.set_cons_succ])
        refine wpG_take _ (.int .i64 (k : Int)) rfl (by rfl) (fun X hX => by first | rfl | go_simp) ?_
        (try simp only [Act.put, List.setIfInBounds_toArray, List.set_cons_zero, List.set_cons_succ])
        refine wpG_take _ (.pointer (some ⟨g, o + k * 4, none⟩)) rfl (by rfl) (fun X hX => ex_iaA rfl rfl rfl HKC.out) ?_
        (try simp only [Act.put, List.setIfInBounds_toArray, List.set_cons_zero, List.set_cons_succ])
        refine wpG_take _ (.pointer (some ⟨g, o + k * 4 + 1, none⟩)) rfl (by rfl) (fun X hX => ex_faAct rfl rfl) ?_
        (try simp only [Act.put, List.setIfInBounds_toArray, List.set_cons_zero, List.set_cons_succ])
        refine wpG_take _ (.pointer (some ⟨g, o + k * 4 + 1 + 1, none⟩)) rfl (by rfl) (fun X hX => ex_faR (by decide) rfl rfl) ?_
        (try simp only [Act.put, List.setIfInBounds_toArray, List.set_cons_zero, List.set_cons_succ])
        refine wpG_take _ (.int .u16 (e.u : Int)) rfl (by rfl) (fun X hX => ex_ld16 rfl rfl (hX 1 _ rfl)) ?_
        (try simp only [Act.put, List.setIfInBounds_toArray, List.set_cons_zero, List.set_cons_succ])
        refine wpG_take _ (.slice (some ⟨g, o, none⟩) N cap) rfl (by rfl) (fun X hX => by first | rfl | go_simp) ?_
        (try simp only [Act.put, List.setIfInBounds_toArray, List.set_cons_zero, List.set_cons_succ])
        refine wpG_take _ (.int .i64 (k : Int)) rfl (by rfl) (fun X hX => by first | rfl | go_simp) ?_
        (try simp only [Act.put, List.setIfInBounds_toArray, List.set_cons_zero, List.set_cons_succ])
        refine wpG_take _ (.pointer (some ⟨g, o + k * 4, none⟩)) rfl (by rfl) (fun X hX => ex_iaA rfl rfl rfl HKC.out) ?_
        (try simp only [Act.put, List.setIfInBounds_toArray, List.set_cons_zero, List.set_cons_succ])
        refine wpG_take _ (.pointer (some ⟨g, o + k * 4 + 1, none⟩)) rfl (by rfl) (fun X hX => ex_faAct rfl rfl) ?_
        (try simp only [Act.put, List.setIfInBounds_toArray, List.set_cons_zero, List.set_cons_succ])
        refine wpG_take _ (.pointer (some ⟨g, o + k * 4 + 1 + 2, none⟩)) rfl (by rfl) (fun X hX => ex_faR (by decide) rfl rfl) ?_
        (try simp only [Act.put, List.setIfInBounds_toArray, List.set_cons_zero, List.set_cons_succ])
        refine wpG_take _ (.int .u8 (e.k : Int)) rfl (by rfl) (fun X hX => ex_ld8 rfl rfl (hX 2 _ rfl)) ?_
        (try simp only [Act.put, List.setIfInBounds_toArray, List.set_cons_zero, List.set_cons_succ])
        refine wpG_take _ (.agg (ecells e).toArray) rfl (by rfl) (fun X hX => ex_bldX rfl rfl rfl rfl) ?_
        (try simp only [Act.put, List.setIfInBounds_toArray, List.set_cons_zero, List.set_cons_succ])
        refine wpG_mkE _ rfl (by rfl) (.pointer (some ⟨wr.drew.heap.size, 0, none⟩)) (wr.drew.alloc (.cells #[.string ⟨#[]⟩, .int .u16 0, .int .u8 0] 46)) (ex_alE rfl) (fun X => X.rangeAt g (o + k * 4 + 1) (ecells e)) (HS1.out) (fun _ h => h) ?_
        (try simp only [Act.put, List.setIfInBounds_toArray, List.set_cons_zero, List.set_cons_succ])
        refine wpG_stE _ rfl (by rfl) 46 (.tmp 8) (.tmp 61) rfl wr.drew.heap.size (ecells e).toArray rfl rfl HBN.out (sizeEc e) rfl (all_ec e) (fun X => X.rangeAt g (o + k * 4 + 1) (ecells e)) (fun _ h => h) HS2.out ?_
        (try simp only [Act.put, List.setIfInBounds_toArray, List.set_cons_zero, List.set_cons_succ])
        refine wpG_nil ?_
        obtain ⟨W2, hW2⟩ : ∃ W, (wr.drew.alloc (.cells #[.string ⟨#[]⟩, .int .u16 0, .int .u8 0] 46)).setRow wr.drew.heap.size (ecells e).toArray = W := ⟨_, rfl⟩
        have HO2 := Lib.hid ((HO6.out.below (Below.refl _ _).drew (Nat.le_refl _)).below HBX.out (Nat.le_refl _))
        have HM2 := Lib.hid ((HMP.out.below (Below.refl wr.heap.size wr).drew HMP.out.lt).below HBX.out HMP.out.lt)
        obtain ⟨g8, hg8⟩ : ∃ g, wr.drew.heap.size = g := ⟨_, rfl⟩
        clear HS0 HS1 HS2 HBN HBX
        rw [hg8] at hW2 HB2 HO2 HM2 HBK ⊢
        rw [hW2] at HB2 HO2 HM2 HBK ⊢
        have c0 := HBK.out.cell (j := 0) rfl
        clear hW2 hg8
        by_cases h300 : 300 < e.n.length
        · have z1 : (300 : Int) < (e.n.length : Int) := by omega
          clear h300
          go_wp2_with (first | (refine e_val rfl (e_lenS rfl rfl) ?_) | fail)
          refine (enWakes_any W2).mono ?_
          rintro x W3 ⟨rfl, hb3⟩
          have HQ := Lib.hid (HP.out W3 (HB2.out.trans (hb3.mono HB2.out.size)))
          go_wp2_with fail
          first | exact HQ.out | (go_ret; exact HQ.out)
        · have z1 : ¬ (300 : Int) < (e.n.length : Int) := by omega
          have HNM : Hid (e.n.length < 1000000) := Lib.hid (by omega)
          clear h300
          obtain ⟨F, hF⟩ : ∃ F, (findP e.n L).getD zeroEnt = F := ⟨_, rfl⟩
          obtain ⟨is_, his⟩ : ∃ b, (findP e.n L).isSome = b := ⟨_, rfl⟩
          have HF := Lib.hid hF; have HIS := Lib.hid his
          have HBX := Lib.hid (box_in W2 #[.string ⟨#[]⟩, .int .u16 0, .int .u8 0] F rfl)
          clear hF his
          go_upto_region 12 with (first | (refine e_val rfl (e_lenS rfl rfl) ?_) | (refine e_val rfl (ex_lkO HM2.out HNM.out HF.out HIS.out rfl rfl rfl) ?_) | (refine wpList_store_row rfl 46 (.tmp 9) (.tmp 72) rfl W2.heap.size (ecells F).toArray rfl rfl 46 _ (heap_alloc_new W2 _) (sizeEc F) rfl (all_ec F) ?_) | fail)
          obtain ⟨W3, hW3⟩ : ∃ W, (W2.alloc (.cells #[.string ⟨#[]⟩, .int .u16 0, .int .u8 0] 46)).setRow W2.heap.size (ecells F).toArray = W := ⟨_, rfl⟩
          obtain ⟨g9, hg9⟩ : ∃ g, W2.heap.size = g := ⟨_, rfl⟩
          obtain ⟨hx1, hx2⟩ := HBX.out
          rw [hg9] at hW3
          rw [hg9] at hx1 hx2 ⊢
          rw [hW3] at hx1 hx2 ⊢
          rw [← hg9] at hx1
          have HB3 : Hid (Below w.heap.size w W3) := Lib.hid (HB2.out.trans (hx1.mono HB2.out.size))
          have HO3 := Lib.hid (HO2.out.below hx1 (Nat.le_refl _)); have HM3 := Lib.hid (HM2.out.below hx1 HM2.out.lt)
          have hk3 := HBK.out.below hx1 HBK.out.lt
          have HK3 := Lib.hid hk3
          have hr8 : W3.rangeAt g8 0 (ecells e) := fun j v hv => by rw [Nat.zero_add]; exact hk3.cell hv
          have HR8 := Lib.hid hr8
          have d0 := (HCL.out W3 HB3.out).1
          clear c0 HBX hx1 hx2 hW3 hg9 HO2 HM2 HBK HB2 hr8
          have c0 := hk3.cell (j := 0) rfl
          clear hk3
          have hgw : w.heap.size ≤ W3.heap.size := HB3.out.size
          have HGW := Lib.hid hgw
          clear hgw
          by_cases hd0 : d = 0
          · have y0 : ((d : Int) == 0) = true := by rw [hd0]; rfl
            clear hd0
            have h1 := enDrop_any L e.n sp6 cap6 (by rw [HQ.out]; exact HC6.out) HZ6.out (by rw [HQ.out]; have := HQ64.out; omega) W3 HO3.out.src'
            rw [HQ.out] at h1
            cases is_ with
            | true =>
              have hE : dropE e.n L = 0 := by
                have hh := HIS.out
                rw [find_isSome] at hh
                unfold dropE
                rw [if_neg (of_decide_eq_true hh)]
              rw [hE, dropL_keep hE HG.out.good] at h1
              have H1 := Lib.hid h1
              have y2 : (((0 : Nat) : Int) == 0) = true := rfl
              clear h1 hE
              go_wp2_with (first | (refine e_val rfl (ex_iaA rfl rfl rfl HKC.out) ?_) | fail)
              refine H1.out.mono ?_
              rintro x W4 ⟨v4, rfl, ho4, hb4⟩
              obtain ⟨sp4, cap4, rfl, -⟩ := ho4.form
              have hm4 := HM3.out.below hb4 HM3.out.lt
              obtain ⟨w5, hr5, hm5, hg5⟩ := hm4.del HNM.out HG.out.good.1 0
              have HR5 := Lib.hid hr5; have HM5 := Lib.hid hm5
              have HB5 : Hid (Below w.heap.size w w5) := Lib.hid (map_bel (HB3.out.trans (hb4.mono HB3.out.size)) hg5 (Nat.le_refl _) (HB3.out.trans (hb4.mono HB3.out.size)).size)
              have HO5 : Hid (OwnE w5 w.heap.size (.slice sp4 (keepL e.n L).length cap4) (keepL e.n L)) := Lib.hid (World.ownsRow.kept (ho4.lower HGW.out) hg5 (ownE_apart ho4 hm4))
              have q0 := (HK3.out.below hb4 HK3.out.lt).cell (j := 0) rfl
              clear hm4 hr5 hm5 hg5 ho4 hb4 c0 d0
              go_wp2_with (first | (refine e_val rfl (ex_delM HR5.out rfl rfl rfl) ?_) | fail)
              go_roundg (N - (k + 1))
              case measure => omega
              case rel => exact ⟨k + 1, keepL e.n L, by go_num, by omega, HG.out.keep _, HO5.out, HM5.out, HB5.out⟩
            | false =>
              have hE : dropE e.n L = 20 := by
                have hh := HIS.out
                rw [find_isSome] at hh
                unfold dropE
                rw [if_pos (by simpa using of_decide_eq_false hh)]
              rw [hE] at h1
              have H1 := Lib.hid h1
              have y2 : (((20 : Nat) : Int) == 0) = false := rfl
              clear h1 hE
              go_wp2_with (first | (refine e_val rfl (ex_iaA rfl rfl rfl HKC.out) ?_) | fail)
              refine H1.out.mono ?_
              rintro x W4 ⟨v4, rfl, ho4, hb4⟩
              obtain ⟨sp4, cap4, rfl, -⟩ := ho4.form
              have HO5 := Lib.hid (HO3.out.below hb4 (Nat.le_refl _)); have HM5 := Lib.hid (HM3.out.below hb4 HM3.out.lt)
              have HB5 : Hid (Below w.heap.size w W4) := Lib.hid (HB3.out.trans (hb4.mono HB3.out.size))
              clear ho4 hb4 c0 d0
              go_wp2_with fail
              go_roundg (N - (k + 1))
              case measure => omega
              case rel => exact ⟨k + 1, L, by go_num, by omega, HG.out, HO5.out, HM5.out, HB5.out⟩
          · have y0 : ((d : Int) == 0) = false := by simp; omega
            clear hd0
            have h1 := enAdd_any L e sp6 cap6 (by rw [HQ.out]; exact HC6.out) HZ6.out (by rw [HQ.out]; have := HQ64.out; omega) HNM.out W3 HO3.out.src'
            rw [HQ.out] at h1
            by_cases hE : addE L e = 0
            · obtain ⟨-, -, f3, f4⟩ := addE_facts hE
              have hfn := place_none f3
              obtain rfl : false = is_ := by rw [← HIS.out, hfn]; rfl
              have HE0 := Lib.hid hE; have HFN := Lib.hid hfn; have HF4 := Lib.hid f4
              rw [hE] at h1
              have H1 := Lib.hid h1
              have y2 : (((0 : Nat) : Int) == 0) = true := rfl
              clear h1 hE f3 f4 hfn
              go_wp2_with (first | (refine e_val rfl (ex_iaA rfl rfl rfl HKC.out) ?_) | (refine e_val rfl (ex_ldE HR8.out rfl rfl) ?_) | fail)
              refine H1.out.mono ?_
              rintro x W4 ⟨v4, rfl, ho4, hb4⟩
              obtain ⟨sp4, cap4, rfl, -⟩ := ho4.form
              have hm4 := HM3.out.below hb4 HM3.out.lt
              obtain ⟨w5, hr5, hm5, hg5⟩ := hm4.put HF4.out HNM.out (addL_perm HE0.out) (addL_good HE0.out HG.out.good).1 HFN.out
              have HR5 := Lib.hid hr5; have HM5 := Lib.hid hm5
              have HB5 : Hid (Below w.heap.size w w5) := Lib.hid (map_bel (HB3.out.trans (hb4.mono HB3.out.size)) hg5 (Nat.le_refl _) (HB3.out.trans (hb4.mono HB3.out.size)).size)
              have HO5 : Hid (OwnE w5 w.heap.size (.slice sp4 (addL L e).length cap4) (addL L e)) := Lib.hid (World.ownsRow.kept (ho4.lower HGW.out) hg5 (ownE_apart ho4 hm4))
              have hk4 := HK3.out.below hb4 HK3.out.lt
              have q0 := hk4.cell (j := 0) rfl
              have hr4 : W4.rangeAt g8 0 (ecells e) := fun j v hv => by rw [Nat.zero_add]; exact hk4.cell hv
              have HR4 := Lib.hid hr4
              clear hm4 hr5 hm5 hg5 ho4 hb4 c0 d0 hk4 hr4
              go_wp2_with (first | (refine e_val rfl (ex_ldE HR4.out rfl rfl) ?_) | (refine e_skip rfl (ex_putM HR5.out rfl rfl rfl rfl) ?_) | fail)
              go_roundg (N - (k + 1))
              case measure => omega
              case rel => exact ⟨k + 1, addL L e, by go_num, by omega, HG.out.add HEK.out HE0.out, HO5.out, HM5.out, HB5.out⟩
            · obtain ⟨er, her⟩ : ∃ er, addE L e = er := ⟨_, rfl⟩
              rw [her] at h1 hE
              have H1 := Lib.hid h1
              have y2 : ((er : Int) == 0) = false := by simp; omega
              clear h1 hE her
              go_wp2_with (first | (refine e_val rfl (ex_iaA rfl rfl rfl HKC.out) ?_) | (refine e_val rfl (ex_ldE HR8.out rfl rfl) ?_) | fail)
              refine H1.out.mono ?_
              rintro x W4 ⟨v4, rfl, ho4, hb4⟩
              obtain ⟨sp4, cap4, rfl, -⟩ := ho4.form
              have HO5 := Lib.hid (HO3.out.below hb4 (Nat.le_refl _)); have HM5 := Lib.hid (HM3.out.below hb4 HM3.out.lt)
              have HB5 : Hid (Below w.heap.size w W4) := Lib.hid (HB3.out.trans (hb4.mono HB3.out.size))
              clear ho4 hb4 c0 d0
              go_wp2_with fail
              go_roundg (N - (k + 1))
              case measure => omega
              case rel => exact ⟨k + 1, L, by go_num, by omega, HG.out, HO5.out, HM5.out, HB5.out⟩
      · obtain rfl : N = k := by omega
        have hlt' : ¬ (N : Int) < (N : Int) := by omega
        obtain ⟨wa, rfl⟩ : ∃ W, W = wr := ⟨_, rfl⟩
        have y64 : ¬ (64 : Int) < (Q : Int) := by have := HQ64.out; omega
        have y0 : ((Q : Int) != (Q : Int)) = false := by simp
        go_upto_region 28 with (first | (refine e_val rfl (ex_lenM HMP.out HQ.out rfl rfl) ?_) | fail)
        go_loopg [15] Q (fun r i wx => ∃ (k2 : Nat), i = .int .i64 (k2 : Int) ∧ r + k2 = Q ∧ Below wa.heap.size wa wx)
        case atStart => exact ⟨0, rfl, by omega, Below.refl _ _⟩
        case round =>
          as_aux_lemma =>
            obtain ⟨wx, rfl⟩ : ∃ W, W = wr := ⟨_, rfl⟩
            obtain ⟨k2, rfl, hg2, hb2⟩ := hrel
            have HBX := Lib.hid hb2
            have wk2 := IntWalk.i64_in ((k2 : Int) + 1) (by have := HQ64.out; omega)
            clear hb2
            by_cases hlt2 : k2 < Q
            · have hlt3 : (k2 : Int) < (Q : Int) := by omega
              obtain ⟨x2, hx2⟩ : ∃ x, L[k2]? = some x := ⟨_, List.getElem?_eq_getElem (by have := HQ.out; omega)⟩
              obtain ⟨gh, oh, rfl, hgh, hrh⟩ := HO6.out.src' (by have := HQ.out; omega)
              have hcl : ∀ X, Below wa.heap.size wa X → ∀ i y, L[i]? = some y → X.rangeAt gh (oh + i * 3) (ecells y) := fun X hX i y hi j v hv => by
                rw [hX.cell (p := ⟨gh, oh + i * 3 + j, none⟩) hgh]; exact hrh i y hi j v hv
              have hfind := find_at HG.out.good.1 hx2
              have h1 := enFind_any L x2.n (some ⟨gh, oh, none⟩) cap6 (by rw [HQ.out]; exact HC6.out) (by rw [HQ.out]; have := HQ64.out; omega) wx (HO6.out.src'.grown HBX.out)
              rw [HQ.out, hfind, Option.getD_some, Option.isSome_some] at h1
              have H1 := Lib.hid h1; have HCL := Lib.hid hcl; have HX2 := Lib.hid hx2; have HFI := Lib.hid hfind
              have HKQ : Hid (k2 < Q ∧ Q ≤ cap6) := Lib.hid ⟨hlt2, HC6.out⟩
              have HC0 : Hid (wx.cell? ⟨gh, oh + k2 * 3 + 0, none⟩ = some (.string (str x2.n))) := Lib.hid (hcl _ HBX.out k2 x2 hx2 0 _ rfl)
              have HX3 : Hid (x2.n.length < 1000000) := Lib.hid (by have := (HG.out.short x2 (List.mem_of_getElem? hx2)).2; omega)
              have HX4 : Hid (EV ((findP x2.n L).getD zeroEnt) = .agg (ecells x2).toArray) := Lib.hid (by rw [hfind]; rfl)
              clear h1 hcl hx2 hfind hgh hrh
              go_wp2_with (first | (refine e_val rfl (ex_iaE rfl rfl rfl HKQ.out) ?_) | (refine e_val rfl (ex_faE (by decide) rfl rfl) ?_) | (refine e_val rfl (ex_ldS rfl rfl HC0.out) ?_) | fail)
              refine H1.out.mono ?_
              rintro x W4 ⟨rfl, hb4⟩
              have HB4' : Hid (Below wa.heap.size wa W4) := Lib.hid (HBX.out.trans (hb4.mono HBX.out.size))
              have HBY := Lib.hid (box_in W4 #[.string ⟨#[]⟩, .int .u16 0, .int .u8 0] x2 rfl)
              clear hb4
              go_upto_region 31 with (first | (refine wpList_store_row rfl 46 (.tmp 16) (.tmp 135) rfl W4.heap.size (ecells x2).toArray rfl rfl 46 _ (heap_alloc_new W4 _) (sizeEc x2) rfl (all_ec x2) ?_) | fail)
              obtain ⟨W5, hW5⟩ : ∃ W, (W4.alloc (.cells #[.string ⟨#[]⟩, .int .u16 0, .int .u8 0] 46)).setRow W4.heap.size (ecells x2).toArray = W := ⟨_, rfl⟩
              obtain ⟨g16, hg16⟩ : ∃ g, W4.heap.size = g := ⟨_, rfl⟩
              obtain ⟨hy1, hy2⟩ := HBY.out
              rw [hg16] at hW5
              rw [hg16] at hy1 hy2 ⊢
              rw [hW5] at hy1 hy2 ⊢
              rw [← hg16] at hy1
              have HB5 : Hid (Below wa.heap.size wa W5.drew) := Lib.hid (HB4'.out.trans (hy1.mono HB4'.out.size)).drew
              have hr16 : W5.rangeAt g16 0 (ecells x2) := fun j v hv => by rw [Nat.zero_add]; exact hy2.cell hv
              have HS31 : Hid ((∀ i y, L[i]? = some y → W5.drew.rangeAt gh (oh + i * 3) (ecells y)) ∧ W5.drew.rangeAt g16 0 (ecells x2)) := Lib.hid ⟨HCL.out _ HB5.out, hr16⟩
              have HMD := Lib.hid (HMP.out.below HB5.out HMP.out.lt)
              clear HBY hW5 hg16 hy1 hy2 hr16
              by_cases hk0 : 0 < k2
              · obtain ⟨y2, hy2⟩ : ∃ y, L[k2 - 1]? = some y := ⟨_, List.getElem?_eq_getElem (by have := HQ.out; omega)⟩
                have HY2 := Lib.hid hy2
                have HKP : Hid (k2 - 1 < Q ∧ Q ≤ cap6) := Lib.hid ⟨by omega, HC6.out⟩
                have HSB : Hid (1 ≤ k2 ∧ k2 < 1000000) := Lib.hid ⟨hk0, by have := HQ64.out; omega⟩
                have HGT : Hid (decide ((k2 : Int) > 0) = true) := Lib.hid (decide_eq_true (by omega))
                have HGE : Hid ((!ltN y2.n x2.n) = false) := Lib.hid (by
                  have := HG.out.next (i := k2 - 1) hy2 (by rw [show k2 - 1 + 1 = k2 by omega]; exact HX2.out)
                  rw [this]; rfl)
                clear hy2 hk0
                refine wp_region_sched ((.take 0 (.take 1 (.take 2 (.take 3 (.take 4 (.take 5 (.take 7 (.take 8 (.take 9 (.take 10 (.step 6 (.take 11 (.take 12 (.take 13 (.take 14 (.take 15 (.take 16 (.take 17 (.take 18 (.take 19 (.take 20 (.take 21 (.take 22 (.take 23 (.take 24 (.take 25 (.take 26 (.take 27 (.take 28 (.take 29 (.take 30 (.take 31 (.take 32 (.take 33 (.take 34 (.take 35 (.take 36 (.take 37 (.take 38 (.take 39 (.take 40 (.take 41 (.nil)))))))))))))))))))))))))))))))))))))))))))) (by kernel_rfl) (by kernel_rfl) (fun d _ _ _ _ h => by cases d <;> exact h) (fun X => (∀ i y, L[i]? = some y → X.rangeAt gh (oh + i * 3) (ecells y)) ∧ X.rangeAt g16 0 (ecells x2)) (HS31.out) ?_
                refine wpG_take _ (.map (some w.heap.size)) rfl (by rfl) (fun X hX => by first | rfl | go_simp) ?_
                (try simp only [Act.put, List.setIfInBounds_toArray, List.set_cons_zero, List.set_cons_succ])
                refine wpG_take _ (.slice (some ⟨gh, oh, none⟩) Q cap6) rfl (by rfl) (fun X hX => by first | rfl | go_simp) ?_
                (try simp only [Act.put, List.setIfInBounds_toArray, List.set_cons_zero, List.set_cons_succ])
                refine wpG_take _ (.int .i64 (k2 : Int)) rfl (by rfl) (fun X hX => by first | rfl | go_simp) ?_
                (try simp only [Act.put, List.setIfInBounds_toArray, List.set_cons_zero, List.set_cons_succ])
                refine wpG_take _ (.pointer (some ⟨gh, oh + k2 * 3, none⟩)) rfl (by rfl) (fun X hX => ex_iaE rfl rfl rfl HKQ.out) ?_
                (try simp only [Act.put, List.setIfInBounds_toArray, List.set_cons_zero, List.set_cons_succ])
                refine wpG_take _ (.pointer (some ⟨gh, oh + k2 * 3 + 0, none⟩)) rfl (by rfl) (fun X hX => ex_faE (by decide) rfl rfl) ?_
                (try simp only [Act.put, List.setIfInBounds_toArray, List.set_cons_zero, List.set_cons_succ])
                refine wpG_take _ (.string (str x2.n)) rfl (by rfl) (fun X hX => ex_ldS rfl rfl (hX.1 k2 x2 HX2.out 0 _ rfl)) ?_
                (try simp only [Act.put, List.setIfInBounds_toArray, List.set_cons_zero, List.set_cons_succ])
                refine wpG_take _ (.slice (some ⟨gh, oh, none⟩) Q cap6) rfl (by rfl) (fun X hX => by first | rfl | go_simp) ?_
                (try simp only [Act.put, List.setIfInBounds_toArray, List.set_cons_zero, List.set_cons_succ])
                refine wpG_take _ (.int .i64 (k2 : Int)) rfl (by rfl) (fun X hX => by first | rfl | go_simp) ?_
                (try simp only [Act.put, List.setIfInBounds_toArray, List.set_cons_zero, List.set_cons_succ])
                refine wpG_take _ (.pointer (some ⟨gh, oh + k2 * 3, none⟩)) rfl (by rfl) (fun X hX => ex_iaE rfl rfl rfl HKQ.out) ?_
                (try simp only [Act.put, List.setIfInBounds_toArray, List.set_cons_zero, List.set_cons_succ])
                refine wpG_take _ (.agg (ecells x2).toArray) rfl (by rfl) (fun X hX => ex_ldE (hX.1 k2 x2 HX2.out) rfl rfl) ?_
                (try simp only [Act.put, List.setIfInBounds_toArray, List.set_cons_zero, List.set_cons_succ])
                refine wpG_mkE _ rfl (by rfl) (.agg (ecells x2).toArray) (W5.drew) (ex_lkE HMD.out HX3.out HX4.out rfl rfl rfl) (fun X => (∀ i y, L[i]? = some y → X.rangeAt gh (oh + i * 3) (ecells y)) ∧ X.rangeAt g16 0 (ecells x2)) (HS31.out) (fun _ h => h) ?_
                (try simp only [Act.put, List.setIfInBounds_toArray, List.set_cons_zero, List.set_cons_succ])
                refine wpG_take _ (.bool false) rfl (by rfl) (fun X hX => ex_neE rfl rfl rfl) ?_
                (try simp only [Act.put, List.setIfInBounds_toArray, List.set_cons_zero, List.set_cons_succ])
                refine wpG_take _ (.bool false) rfl (by rfl) (fun X hX => by first | rfl | go_simp) ?_
                (try simp only [Act.put, List.setIfInBounds_toArray, List.set_cons_zero, List.set_cons_succ])
                refine wpG_take _ (.bool true) rfl (by rfl) (fun X hX => by first | rfl | go_simp) ?_
                (try simp only [Act.put, List.setIfInBounds_toArray, List.set_cons_zero, List.set_cons_succ])
                refine wpG_take _ (.bool false) rfl (by rfl) (fun X hX => by first | rfl | go_simp) ?_
                (try simp only [Act.put, List.setIfInBounds_toArray, List.set_cons_zero, List.set_cons_succ])
                refine wpG_take _ (.bool false) rfl (by rfl) (fun X hX => by first | rfl | go_simp) ?_
                (try simp only [Act.put, List.setIfInBounds_toArray, List.set_cons_zero, List.set_cons_succ])
                refine wpG_take _ (.bool false) rfl (by rfl) (fun X hX => by first | rfl | go_simp) ?_
                (try simp only [Act.put, List.setIfInBounds_toArray, List.set_cons_zero, List.set_cons_succ])
                refine wpG_take _ (.agg (ecells x2).toArray) rfl (by rfl) (fun X hX => ex_ldE hX.2 rfl rfl) ?_
                (try simp only [Act.put, List.setIfInBounds_toArray, List.set_cons_zero, List.set_cons_succ])
                refine wpG_take _ (.slice (some ⟨gh, oh, none⟩) Q cap6) rfl (by rfl) (fun X hX => by first | rfl | go_simp) ?_
                (try simp only [Act.put, List.setIfInBounds_toArray, List.set_cons_zero, List.set_cons_succ])
                refine wpG_take _ (.int .i64 (k2 : Int)) rfl (by rfl) (fun X hX => by first | rfl | go_simp) ?_
                (try simp only [Act.put, List.setIfInBounds_toArray, List.set_cons_zero, List.set_cons_succ])
                refine wpG_take _ (.pointer (some ⟨gh, oh + k2 * 3, none⟩)) rfl (by rfl) (fun X hX => ex_iaE rfl rfl rfl HKQ.out) ?_
                (try simp only [Act.put, List.setIfInBounds_toArray, List.set_cons_zero, List.set_cons_succ])
                refine wpG_take _ (.agg (ecells x2).toArray) rfl (by rfl) (fun X hX => ex_ldE (hX.1 k2 x2 HX2.out) rfl rfl) ?_
                (try simp only [Act.put, List.setIfInBounds_toArray, List.set_cons_zero, List.set_cons_succ])
                refine wpG_take _ (.bool false) rfl (by rfl) (fun X hX => ex_neE rfl rfl rfl) ?_
                (try simp only [Act.put, List.setIfInBounds_toArray, List.set_cons_zero, List.set_cons_succ])
                refine wpG_take _ (.bool false) rfl (by rfl) (fun X hX => by first | rfl | go_simp) ?_
                (try simp only [Act.put, List.setIfInBounds_toArray, List.set_cons_zero, List.set_cons_succ])
                refine wpG_take _ (.bool false) rfl (by rfl) (fun X hX => by first | rfl | go_simp) ?_
                (try simp only [Act.put, List.setIfInBounds_toArray, List.set_cons_zero, List.set_cons_succ])
                refine wpG_take _ (.int .i64 (k2 : Int)) rfl (by rfl) (fun X hX => by first | rfl | go_simp) ?_
                (try simp only [Act.put, List.setIfInBounds_toArray, List.set_cons_zero, List.set_cons_succ])
                refine wpG_take _ (.bool true) rfl (by rfl) (fun X hX => ex_gtI rfl rfl rfl HGT.out) ?_
                (try simp only [Act.put, List.setIfInBounds_toArray, List.set_cons_zero, List.set_cons_succ])
                refine wpG_take _ (.bool true) rfl (by rfl) (fun X hX => by first | rfl | go_simp) ?_
                (try simp only [Act.put, List.setIfInBounds_toArray, List.set_cons_zero, List.set_cons_succ])
                refine wpG_take _ (.slice (some ⟨gh, oh, none⟩) Q cap6) rfl (by rfl) (fun X hX => by first | rfl | go_simp) ?_
                (try simp only [Act.put, List.setIfInBounds_toArray, List.set_cons_zero, List.set_cons_succ])
                refine wpG_take _ (.int .i64 (k2 : Int)) rfl (by rfl) (fun X hX => by first | rfl | go_simp) ?_
                (try simp only [Act.put, List.setIfInBounds_toArray, List.set_cons_zero, List.set_cons_succ])
                refine wpG_take _ (.int .i64 ((k2 - 1 : Nat) : Int)) rfl (by rfl) (fun X hX => ex_subI (b := 1) rfl rfl rfl HSB.out) ?_
                (try simp only [Act.put, List.setIfInBounds_toArray, List.set_cons_zero, List.set_cons_succ])
                refine wpG_take _ (.pointer (some ⟨gh, oh + (k2 - 1) * 3, none⟩)) rfl (by rfl) (fun X hX => ex_iaE rfl rfl rfl HKP.out) ?_
                (try simp only [Act.put, List.setIfInBounds_toArray, List.set_cons_zero, List.set_cons_succ])
                refine wpG_take _ (.pointer (some ⟨gh, oh + (k2 - 1) * 3 + 0, none⟩)) rfl (by rfl) (fun X hX => ex_faE (by decide) rfl rfl) ?_
                (try simp only [Act.put, List.setIfInBounds_toArray, List.set_cons_zero, List.set_cons_succ])
                refine wpG_take _ (.string (str y2.n)) rfl (by rfl) (fun X hX => ex_ldS rfl rfl (hX.1 (k2 - 1) y2 HY2.out 0 _ rfl)) ?_
                (try simp only [Act.put, List.setIfInBounds_toArray, List.set_cons_zero, List.set_cons_succ])
                refine wpG_take _ (.slice (some ⟨gh, oh, none⟩) Q cap6) rfl (by rfl) (fun X hX => by first | rfl | go_simp) ?_
                (try simp only [Act.put, List.setIfInBounds_toArray, List.set_cons_zero, List.set_cons_succ])
                refine wpG_take _ (.int .i64 (k2 : Int)) rfl (by rfl) (fun X hX => by first | rfl | go_simp) ?_
                (try simp only [Act.put, List.setIfInBounds_toArray, List.set_cons_zero, List.set_cons_succ])
                refine wpG_take _ (.pointer (some ⟨gh, oh + k2 * 3, none⟩)) rfl (by rfl) (fun X hX => ex_iaE rfl rfl rfl HKQ.out) ?_
                (try simp only [Act.put, List.setIfInBounds_toArray, List.set_cons_zero, List.set_cons_succ])
                refine wpG_take _ (.pointer (some ⟨gh, oh + k2 * 3 + 0, none⟩)) rfl (by rfl) (fun X hX => ex_faE (by decide) rfl rfl) ?_
                (try simp only [Act.put, List.setIfInBounds_toArray, List.set_cons_zero, List.set_cons_succ])
                refine wpG_take _ (.string (str x2.n)) rfl (by rfl) (fun X hX => ex_ldS rfl rfl (hX.1 k2 x2 HX2.out 0 _ rfl)) ?_
                (try simp only [Act.put, List.setIfInBounds_toArray, List.set_cons_zero, List.set_cons_succ])
                refine wpG_take _ (.bool false) rfl (by rfl) (fun X hX => ex_geS rfl rfl rfl HGE.out) ?_
                (try simp only [Act.put, List.setIfInBounds_toArray, List.set_cons_zero, List.set_cons_succ])
                refine wpG_take _ (.bool false) rfl (by rfl) (fun X hX => by first | rfl | go_simp) ?_
                (try simp only [Act.put, List.setIfInBounds_toArray, List.set_cons_zero, List.set_cons_succ])
                refine wpG_take _ (.bool false) rfl (by rfl) (fun X hX => by first | rfl | go_simp) ?_
                (try simp only [Act.put, List.setIfInBounds_toArray, List.set_cons_zero, List.set_cons_succ])
                refine wpG_nil ?_
                go_wp2_with fail
                go_roundg (Q - (k2 + 1))
                case measure => omega
                case rel => exact ⟨k2 + 1, by go_num, by omega, HB5.out⟩
              · have HGT : Hid (decide ((k2 : Int) > 0) = false) := Lib.hid (decide_eq_false (by omega))
                clear hk0
                refine wp_region_sched ((.take 0 (.take 1 (.take 2 (.take 3 (.take 4 (.take 5 (.take 7 (.take 8 (.take 9 (.take 10 (.step 6 (.take 11 (.take 12 (.take 13 (.take 14 (.take 15 (.take 16 (.take 17 (.take 18 (.take 19 (.take 20 (.take 21 (.take 22 (.take 23 (.take 24 (.take 25 (.take 26 (.take 27 (.take 28 (.take 29 (.take 30 (.take 31 (.take 32 (.take 33 (.take 34 (.take 35 (.take 36 (.take 37 (.take 38 (.take 39 (.take 40 (.take 41 (.nil)))))))))))))))))))))))))))))))))))))))))))) (by kernel_rfl) (by kernel_rfl) (fun d _ _ _ _ h => by cases d <;> exact h) (fun X => (∀ i y, L[i]? = some y → X.rangeAt gh (oh + i * 3) (ecells y)) ∧ X.rangeAt g16 0 (ecells x2)) (HS31.out) ?_
                refine wpG_take _ (.map (some w.heap.size)) rfl (by rfl) (fun X hX => by first | rfl | go_simp) ?_
                (try simp only [Act.put, List.setIfInBounds_toArray, List.set_cons_zero, List.set_cons_succ])
                refine wpG_take _ (.slice (some ⟨gh, oh, none⟩) Q cap6) rfl (by rfl) (fun X hX => by first | rfl | go_simp) ?_
                (try simp only [Act.put, List.setIfInBounds_toArray, List.set_cons_zero, List.set_cons_succ])
                refine wpG_take _ (.int .i64 (k2 : Int)) rfl (by rfl) (fun X hX => by first | rfl | go_simp) ?_
                (try simp only [Act.put, List.setIfInBounds_toArray, List.set_cons_zero, List.set_cons_succ])
                refine wpG_take _ (.pointer (some ⟨gh, oh + k2 * 3, none⟩)) rfl (by rfl) (fun X hX => ex_iaE rfl rfl rfl HKQ.out) ?_
                (try simp only [Act.put, List.setIfInBounds_toArray, List.set_cons_zero, List.set_cons_succ])
                refine wpG_take _ (.pointer (some ⟨gh, oh + k2 * 3 + 0, none⟩)) rfl (by rfl) (fun X hX => ex_faE (by decide) rfl rfl) ?_
                (try simp only [Act.put, List.setIfInBounds_toArray, List.set_cons_zero, List.set_cons_succ])
                refine wpG_take _ (.string (str x2.n)) rfl (by rfl) (fun X hX => ex_ldS rfl rfl (hX.1 k2 x2 HX2.out 0 _ rfl)) ?_
                (try simp only [Act.put, List.setIfInBounds_toArray, List.set_cons_zero, List.set_cons_succ])
                refine wpG_take _ (.slice (some ⟨gh, oh, none⟩) Q cap6) rfl (by rfl) (fun X hX => by first | rfl | go_simp) ?_
                (try simp only [Act.put, List.setIfInBounds_toArray, List.set_cons_zero, List.set_cons_succ])
                refine wpG_take _ (.int .i64 (k2 : Int)) rfl (by rfl) (fun X hX => by first | rfl | go_simp) ?_
                (try simp only [Act.put, List.setIfInBounds_toArray, List.set_cons_zero, List.set_cons_succ])
                refine wpG_take _ (.pointer (some ⟨gh, oh + k2 * 3, none⟩)) rfl (by rfl) (fun X hX => ex_iaE rfl rfl rfl HKQ.out) ?_
                (try simp only [Act.put, List.setIfInBounds_toArray, List.set_cons_zero, List.set_cons_succ])
                refine wpG_take _ (.agg (ecells x2).toArray) rfl (by rfl) (fun X hX => ex_ldE (hX.1 k2 x2 HX2.out) rfl rfl) ?_
                (try simp only [Act.put, List.setIfInBounds_toArray, List.set_cons_zero, List.set_cons_succ])
                refine wpG_mkE _ rfl (by rfl) (.agg (ecells x2).toArray) (W5.drew) (ex_lkE HMD.out HX3.out HX4.out rfl rfl rfl) (fun X => (∀ i y, L[i]? = some y → X.rangeAt gh (oh + i * 3) (ecells y)) ∧ X.rangeAt g16 0 (ecells x2)) (HS31.out) (fun _ h => h) ?_
                (try simp only [Act.put, List.setIfInBounds_toArray, List.set_cons_zero, List.set_cons_succ])
                refine wpG_take _ (.bool false) rfl (by rfl) (fun X hX => ex_neE rfl rfl rfl) ?_
                (try simp only [Act.put, List.setIfInBounds_toArray, List.set_cons_zero, List.set_cons_succ])
                refine wpG_take _ (.bool false) rfl (by rfl) (fun X hX => by first | rfl | go_simp) ?_
                (try simp only [Act.put, List.setIfInBounds_toArray, List.set_cons_zero, List.set_cons_succ])
                refine wpG_take _ (.bool true) rfl (by rfl) (fun X hX => by first | rfl | go_simp) ?_
                (try simp only [Act.put, List.setIfInBounds_toArray, List.set_cons_zero, List.set_cons_succ])
                refine wpG_take _ (.bool false) rfl (by rfl) (fun X hX => by first | rfl | go_simp) ?_
                (try simp only [Act.put, List.setIfInBounds_toArray, List.set_cons_zero, List.set_cons_succ])
                refine wpG_take _ (.bool false) rfl (by rfl) (fun X hX => by first | rfl | go_simp) ?_
                (try simp only [Act.put, List.setIfInBounds_toArray, List.set_cons_zero, List.set_cons_succ])
                refine wpG_take _ (.bool false) rfl (by rfl) (fun X hX => by first | rfl | go_simp) ?_
                (try simp only [Act.put, List.setIfInBounds_toArray, List.set_cons_zero, List.set_cons_succ])
                refine wpG_take _ (.agg (ecells x2).toArray) rfl (by rfl) (fun X hX => ex_ldE hX.2 rfl rfl) ?_
                (try simp only [Act.put, List.setIfInBounds_toArray, List.set_cons_zero, List.set_cons_succ])
                refine wpG_take _ (.slice (some ⟨gh, oh, none⟩) Q cap6) rfl (by rfl) (fun X hX => by first | rfl | go_simp) ?_
                (try simp only [Act.put, List.setIfInBounds_toArray, List.set_cons_zero, List.set_cons_succ])
                refine wpG_take _ (.int .i64 (k2 : Int)) rfl (by rfl) (fun X hX => by first | rfl | go_simp) ?_
                (try simp only [Act.put, List.setIfInBounds_toArray, List.set_cons_zero, List.set_cons_succ])
                refine wpG_take _ (.pointer (some ⟨gh, oh + k2 * 3, none⟩)) rfl (by rfl) (fun X hX => ex_iaE rfl rfl rfl HKQ.out) ?_
                (try simp only [Act.put, List.setIfInBounds_toArray, List.set_cons_zero, List.set_cons_succ])
                refine wpG_take _ (.agg (ecells x2).toArray) rfl (by rfl) (fun X hX => ex_ldE (hX.1 k2 x2 HX2.out) rfl rfl) ?_
                (try simp only [Act.put, List.setIfInBounds_toArray, List.set_cons_zero, List.set_cons_succ])
                refine wpG_take _ (.bool false) rfl (by rfl) (fun X hX => ex_neE rfl rfl rfl) ?_
                (try simp only [Act.put, List.setIfInBounds_toArray, List.set_cons_zero, List.set_cons_succ])
                refine wpG_take _ (.bool false) rfl (by rfl) (fun X hX => by first | rfl | go_simp) ?_
                (try simp only [Act.put, List.setIfInBounds_toArray, List.set_cons_zero, List.set_cons_succ])
                refine wpG_take _ (.bool false) rfl (by rfl) (fun X hX => by first | rfl | go_simp) ?_
                (try simp only [Act.put, List.setIfInBounds_toArray, List.set_cons_zero, List.set_cons_succ])
                refine wpG_take _ (.int .i64 (k2 : Int)) rfl (by rfl) (fun X hX => by first | rfl | go_simp) ?_
                (try simp only [Act.put, List.setIfInBounds_toArray, List.set_cons_zero, List.set_cons_succ])
                refine wpG_take _ (.bool false) rfl (by rfl) (fun X hX => ex_gtI rfl rfl rfl HGT.out) ?_
                (try simp only [Act.put, List.setIfInBounds_toArray, List.set_cons_zero, List.set_cons_succ])
                refine wpG_take _ (.bool false) rfl (by rfl) (fun X hX => by first | rfl | go_simp) ?_
                (try simp only [Act.put, List.setIfInBounds_toArray, List.set_cons_zero, List.set_cons_succ])
                refine wpG_pass _ rfl (by rfl) ?_
                (try simp only [Act.put, List.setIfInBounds_toArray, List.set_cons_zero, List.set_cons_succ])
                refine wpG_pass _ rfl (by rfl) ?_
                (try simp only [Act.put, List.setIfInBounds_toArray, List.set_cons_zero, List.set_cons_succ])
                refine wpG_pass _ rfl (by rfl) ?_
                (try simp only [Act.put, List.setIfInBounds_toArray, List.set_cons_zero, List.set_cons_succ])
                refine wpG_pass _ rfl (by rfl) ?_
                (try simp only [Act.put, List.setIfInBounds_toArray, List.set_cons_zero, List.set_cons_succ])
                refine wpG_pass _ rfl (by rfl) ?_
                (try simp only [Act.put, List.setIfInBounds_toArray, List.set_cons_zero, List.set_cons_succ])
                refine wpG_pass _ rfl (by rfl) ?_
                (try simp only [Act.put, List.setIfInBounds_toArray, List.set_cons_zero, List.set_cons_succ])
                refine wpG_pass _ rfl (by rfl) ?_
                (try simp only [Act.put, List.setIfInBounds_toArray, List.set_cons_zero, List.set_cons_succ])
                refine wpG_pass _ rfl (by rfl) ?_
                (try simp only [Act.put, List.setIfInBounds_toArray, List.set_cons_zero, List.set_cons_succ])
                refine wpG_pass _ rfl (by rfl) ?_
                (try simp only [Act.put, List.setIfInBounds_toArray, List.set_cons_zero, List.set_cons_succ])
                refine wpG_pass _ rfl (by rfl) ?_
                (try simp only [Act.put, List.setIfInBounds_toArray, List.set_cons_zero, List.set_cons_succ])
                refine wpG_pass _ rfl (by rfl) ?_
                (try simp only [Act.put, List.setIfInBounds_toArray, List.set_cons_zero, List.set_cons_succ])
                refine wpG_pass _ rfl (by rfl) ?_
                (try simp only [Act.put, List.setIfInBounds_toArray, List.set_cons_zero, List.set_cons_succ])
                refine wpG_take _ (.bool false) rfl (by rfl) (fun X hX => by first | rfl | go_simp) ?_
                (try simp only [Act.put, List.setIfInBounds_toArray, List.set_cons_zero, List.set_cons_succ])
                refine wpG_take _ (.bool false) rfl (by rfl) (fun X hX => by first | rfl | go_simp) ?_
                (try simp only [Act.put, List.setIfInBounds_toArray, List.set_cons_zero, List.set_cons_succ])
                refine wpG_nil ?_
                go_wp2_with fail
                go_roundg (Q - (k2 + 1))
                case measure => omega
                case rel => exact ⟨k2 + 1, by go_num, by omega, HB5.out⟩
            · obtain rfl : Q = k2 := by omega
              have hlt3 : ¬ (Q : Int) < (Q : Int) := by omega
              clear hlt2
              have hO : OwnE wx w.heap.size (.slice sp6 Q cap6) L := HO6.out.below HBX.out (Nat.le_refl _)
              have h1 := enPut_any L sp6 cap6 (by rw [HQ.out]; exact HC6.out) (by rw [HQ.out]; have := HQ64.out; omega) (fun e he => ⟨by have := (HG.out.short e he).2; omega, (HG.out.short e he).1⟩) wx hO.src'
              rw [HQ.out, if_pos HG.out.are, if_pos HG.out.are] at h1
              have H1 := Lib.hid h1; have HO := Lib.hid hO
              have HBW2 : Hid (Below w.heap.size w wx) := Lib.hid (HBW.out.trans (HBX.out.mono HBW.out.size))
              obtain ⟨R, hR⟩ : ∃ R, rowsB L = R := ⟨_, rfl⟩
              rw [hR] at H1
              have hRl : R.length ≤ 64 * 28 := by
                rw [← hR]
                refine Nat.le_trans (rowsB_len L fun e he => ?_) (Nat.mul_le_mul_right _ (by rw [HQ.out]; exact HQ64.out))
                have := (HG.out.1 e he).1
                unfold errC at this
                split at this
                · rename_i h2; exact absurd this h2
                · split at this
                  · cases this
                  · split at this
                    · cases this
                    · omega
              have HRL := Lib.hid hRl
              have HTK : Hid (takeL R = some L) := Lib.hid (by rw [← hR]; exact takeL_rows HG.out.are HG.out.short)
              obtain ⟨RN, hRN⟩ : ∃ n, R.length = n := ⟨_, rfl⟩
              have HRN := Lib.hid hRN
              clear h1 hO hR hRl hRN
              go_wp2_with fail
              refine H1.out.mono ?_
              rintro x W6 ⟨v6, rfl, ho6', hb6⟩
              obtain ⟨spp, capp, ep, hcp, -, hsp, hzp, -⟩ := ho6'.form
              rw [HRN.out] at ep
              subst ep
              have h2 := enTake_any R spp capp (by have := HRL.out; omega) hzp hcp W6 hsp
              rw [HRN.out, HTK.out, if_neg (by simp), Option.getD_some] at h2
              have H2 := Lib.hid h2
              have HB6 : Hid (Below wx.heap.size wx W6) := Lib.hid hb6
              clear ho6' hb6 hcp hsp hzp h2
              go_wp2_with fail
              refine H2.out.mono ?_
              rintro x W7 ⟨v7, rfl, ho7, hb7⟩
              obtain ⟨spb, capb, eb, hcb, -, hsb, -, -⟩ := ho7.form
              rw [HQ.out] at eb
              subst eb
              have HB7 : Hid (Below wx.heap.size wx W7) := Lib.hid (HB6.out.trans (hb7.mono HB6.out.size))
              have HCB : Hid (Q ≤ capb) := Lib.hid (by rw [← HQ.out]; exact hcb)
              have HSBK := Lib.hid hsb; have HSH := Lib.hid (HO.out.src'.grown HB7.out)
              have y2 : (((0 : Nat) : Int) != 0) = false := rfl
              clear ho7 hb7 hcb hsb HB6
              go_upto_region 38 with fail
              go_loopg [22] Q (fun r i wy => ∃ (k3 : Nat), i = .int .i64 (k3 : Int) ∧ r + k3 = Q ∧ Below W7.heap.size W7 wy)
              case atStart => exact ⟨0, rfl, by omega, Below.refl _ _⟩
              case round =>
                as_aux_lemma =>
                  obtain ⟨wy, rfl⟩ : ∃ W, W = wr := ⟨_, rfl⟩
                  obtain ⟨k3, rfl, hg3, hb3⟩ := hrel
                  have HBY := Lib.hid hb3
                  have wk3 := IntWalk.i64_in ((k3 : Int) + 1) (by have := HQ64.out; omega)
                  clear hb3
                  by_cases hlt4 : k3 < Q
                  · have hlt5 : (k3 : Int) < (Q : Int) := by omega
                    obtain ⟨x3, hx3⟩ : ∃ x, L[k3]? = some x := ⟨_, List.getElem?_eq_getElem (by have := HQ.out; omega)⟩
                    obtain ⟨gb, ob, rfl, hgb, hrb⟩ := HSBK.out (by have := HQ.out; omega)
                    obtain ⟨gh, oh, rfl, hgh, hrh⟩ := HSH.out (by have := HQ.out; omega)
                    have HKQ : Hid (k3 < Q ∧ Q ≤ cap6) := Lib.hid ⟨hlt4, HC6.out⟩
                    have HKB : Hid (k3 < Q ∧ Q ≤ capb) := Lib.hid ⟨hlt4, HCB.out⟩
                    have hbd : Below W7.heap.size W7 wy.drew := HBY.out.drew
                    have HBD := Lib.hid hbd
                    have HS40 : Hid (wy.drew.rangeAt gb (ob + k3 * 3) (ecells x3) ∧ wy.drew.rangeAt gh (oh + k3 * 3) (ecells x3)) := Lib.hid ⟨fun j v hv => by rw [hbd.cell (p := ⟨gb, ob + k3 * 3 + j, none⟩) hgb]; exact hrb k3 x3 hx3 j v hv, fun j v hv => by rw [hbd.cell (p := ⟨gh, oh + k3 * 3 + j, none⟩) hgh]; exact hrh k3 x3 hx3 j v hv⟩
                    clear hx3 hgb hrb hgh hrh hbd
                    go_upto_region 40 with fail
                    refine wp_region_sched ((.take 0 (.take 1 (.take 2 (.take 3 (.take 4 (.take 5 (.take 6 (.take 7 (.take 8 (.nil))))))))))) (by kernel_rfl) (by kernel_rfl) (fun d _ _ _ _ h => by cases d <;> exact h) (fun X => X.rangeAt gb (ob + k3 * 3) (ecells x3) ∧ X.rangeAt gh (oh + k3 * 3) (ecells x3)) (HS40.out) ?_
                    refine wpG_take _ (.slice (some ⟨gb, ob, none⟩) Q capb) rfl (by rfl) (fun X hX => by first | rfl | go_simp) ?_
                    (try simp only [Act.put, List.setIfInBounds_toArray, List.set_cons_zero, List.set_cons_succ])
                    refine wpG_take _ (.int .i64 (k3 : Int)) rfl (by rfl) (fun X hX => by first | rfl | go_simp) ?_
                    (try simp only [Act.put, List.setIfInBounds_toArray, List.set_cons_zero, List.set_cons_succ])
                    refine wpG_take _ (.pointer (some ⟨gb, ob + k3 * 3, none⟩)) rfl (by rfl) (fun X hX => ex_iaE rfl rfl rfl HKB.out) ?_
                    (try simp only [Act.put, List.setIfInBounds_toArray, List.set_cons_zero, List.set_cons_succ])
                    refine wpG_take _ (.agg (ecells x3).toArray) rfl (by rfl) (fun X hX => ex_ldE hX.1 rfl rfl) ?_
                    (try simp only [Act.put, List.setIfInBounds_toArray, List.set_cons_zero, List.set_cons_succ])
                    refine wpG_take _ (.slice (some ⟨gh, oh, none⟩) Q cap6) rfl (by rfl) (fun X hX => by first | rfl | go_simp) ?_
                    (try simp only [Act.put, List.setIfInBounds_toArray, List.set_cons_zero, List.set_cons_succ])
                    refine wpG_take _ (.int .i64 (k3 : Int)) rfl (by rfl) (fun X hX => by first | rfl | go_simp) ?_
                    (try simp only [Act.put, List.setIfInBounds_toArray, List.set_cons_zero, List.set_cons_succ])
                    refine wpG_take _ (.pointer (some ⟨gh, oh + k3 * 3, none⟩)) rfl (by rfl) (fun X hX => ex_iaE rfl rfl rfl HKQ.out) ?_
                    (try simp only [Act.put, List.setIfInBounds_toArray, List.set_cons_zero, List.set_cons_succ])
                    refine wpG_take _ (.agg (ecells x3).toArray) rfl (by rfl) (fun X hX => ex_ldE hX.2 rfl rfl) ?_
                    (try simp only [Act.put, List.setIfInBounds_toArray, List.set_cons_zero, List.set_cons_succ])
                    refine wpG_take _ (.bool false) rfl (by rfl) (fun X hX => ex_neE rfl rfl rfl) ?_
                    (try simp only [Act.put, List.setIfInBounds_toArray, List.set_cons_zero, List.set_cons_succ])
                    refine wpG_nil ?_
                    go_wp2_with fail
                    go_roundg (Q - (k3 + 1))
                    case measure => omega
                    case rel => exact ⟨k3 + 1, by go_num, by omega, HBD.out⟩
                  · obtain rfl : Q = k3 := by omega
                    have hlt5 : ¬ (Q : Int) < (Q : Int) := by omega
                    have hbw : Below w.heap.size w wy := (HBW2.out.trans (HB7.out.mono HBW2.out.size)).trans (HBY.out.mono (HBW2.out.trans (HB7.out.mono HBW2.out.size)).size)
                    have h3 := enTake_any b sq capq (by have := HNB.out; have := HB4.out; omega) HZQ.out (by rw [HNB.out]; exact HCQ.out) wy (HSB.out.grown hbw)
                    rw [HNB.out] at h3
                    have HBV := Lib.hid hbw
                    clear hbw hlt4
                    cases ht : takeL b with
                    | none =>
                      rw [ht, if_pos rfl, Option.getD_none] at h3
                      have H3 := Lib.hid h3
                      have y3 : (((5 : Nat) : Int) != 0) = true := rfl
                      clear h3 ht
                      go_wp2_with fail
                      refine H3.out.mono ?_
                      rintro x W8 ⟨v8, rfl, ho8, hb8⟩
                      obtain ⟨sp8, cap8, rfl, -⟩ := ho8.form
                      have HB8 : Hid (Below w.heap.size w W8) := Lib.hid (HBV.out.trans (hb8.mono HBV.out.size))
                      clear ho8 hb8
                      go_wp2_with fail
                      refine (enWakes_any W8).mono ?_
                      rintro x W9 ⟨rfl, hb9⟩
                      have HQ := Lib.hid (HP.out W9 (HB8.out.trans (hb9.mono HB8.out.size)))
                      clear hb9
                      go_wp2_with fail
                      first | exact HQ.out | (go_ret; exact HQ.out)
                    | some t =>
                      obtain ⟨t1, t2, t3⟩ := takeL_some ht
                      have htl := takeL_len b
                      rw [ht, Option.getD_some, HNB.out] at htl
                      rw [ht, if_neg (by simp), Option.getD_some] at h3
                      obtain ⟨NT, hNT⟩ : ∃ n, t.length = n := ⟨_, rfl⟩
                      have H3 := Lib.hid h3; have HT1 := Lib.hid t1; have HT2 := Lib.hid t2; have HT3 := Lib.hid t3; have HTL := Lib.hid htl; have HNT := Lib.hid hNT
                      have y3 : (((0 : Nat) : Int) != 0) = false := rfl
                      have y4 : (((0 : Nat) : Int) == 0) = true := rfl
                      clear h3 ht t1 t2 t3 htl hNT
                      go_wp2_with fail
                      refine H3.out.mono ?_
                      rintro x W8 ⟨v8, rfl, ho8, hb8⟩
                      obtain ⟨sp8, cap8, e8, hc8, -, hs8, -, -⟩ := ho8.form
                      have h4 := enPut_any t sp8 cap8 hc8 (by have := HTL.out; have := HB4.out; omega) (fun e he => ⟨by have := (HT3.out e he).2; omega, (HT3.out e he).1⟩) W8 hs8
                      rw [HNT.out, if_pos HT1.out, if_pos HT1.out, HT2.out] at h4
                      rw [HNT.out] at e8
                      subst e8
                      have H4 := Lib.hid h4
                      have HB8 : Hid (Below w.heap.size w W8) := Lib.hid (HBV.out.trans (hb8.mono HBV.out.size))
                      clear ho8 hb8 hc8 hs8 h4
                      go_wp2_with fail
                      refine H4.out.mono ?_
                      rintro x W9 ⟨v9, rfl, ho9, hb9⟩
                      obtain ⟨sp9, cap9, e9, hc9, -, hs9, -, -⟩ := ho9.form
                      rw [HNB.out] at e9
                      subst e9
                      have HB9 : Hid (Below w.heap.size w W9) := Lib.hid (HB8.out.trans (hb9.mono HB8.out.size))
                      have HS9 := Lib.hid hs9; have HSQ := Lib.hid (HSB.out.grown HB9.out)
                      clear ho9 hb9 hc9 hs9
                      go_wp2_with (first | (refine e_valG (by rfl) (ex_strB HS9.out HNB.out rfl rfl) ?_) | (refine e_valG (by rfl) (ex_strB HSQ.out HNB.out rfl rfl) ?_) | (refine e_valG (by rfl) (ex_eqSS rfl rfl rfl) ?_) | fail)
                      refine (enWakes_any W9).mono ?_
                      rintro x W10 ⟨rfl, hb10⟩
                      have HQ := Lib.hid (HP.out W10 (HB9.out.trans (hb10.mono HB9.out.size)))
                      clear hb10
                      go_wp2_with fail
                      first | exact HQ.out | (go_ret; exact HQ.out)
end Go.Proofs.Ytlkhnmhhcagghaa
