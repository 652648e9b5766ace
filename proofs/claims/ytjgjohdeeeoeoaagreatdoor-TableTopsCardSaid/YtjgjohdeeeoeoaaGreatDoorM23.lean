/- A node with other leaves: from a level to the next. -/
import Derived.Test.YtjgjohdeeeoeoaaGreatDoorM22
namespace Go.Proofs.YtjgjohdeeeoeoaaGreatDoor
open Go.RowKit
attribute [local go_sem] Oper.semAt_some
def lenV : Value → Nat
  | .slice _ n _ => n
  | _ => 0
theorem goW_nil {f : Sh → Pt → List Lf → Ww} {wide : Nat} {was : List Pt} {fuel : Nat} {s : Sh} {now : List Pt} : goW f wide was fuel s now [] = ⟨now, 0, s⟩ := by
  cases fuel <;> rfl
theorem goW_err {f : Sh → Pt → List Lf → Ww} {wide : Nat} {was : List Pt} {fuel : Nat} {s : Sh} {now : List Pt} {l : List Lf} (h0 : l ≠ []) (he : (f s (was.getD ((l.getD 0 dl).1 / wide % 8) zeroP) (l.take (headN wide l))).e ≠ 0) : (goW f wide was (fuel + 1) s now l).e = (f s (was.getD ((l.getD 0 dl).1 / wide % 8) zeroP) (l.take (headN wide l))).e ∧ (goW f wide was (fuel + 1) s now l).s = (f s (was.getD ((l.getD 0 dl).1 / wide % 8) zeroP) (l.take (headN wide l))).s := by
  unfold goW
  rw [if_neg h0, if_pos he]
  exact ⟨rfl, rfl⟩
theorem goW_ok {f : Sh → Pt → List Lf → Ww} {wide : Nat} {was : List Pt} {fuel : Nat} {s : Sh} {now : List Pt} {l : List Lf} (h0 : l ≠ []) (he : (f s (was.getD ((l.getD 0 dl).1 / wide % 8) zeroP) (l.take (headN wide l))).e = 0) : goW f wide was (fuel + 1) s now l = goW f wide was fuel (f s (was.getD ((l.getD 0 dl).1 / wide % 8) zeroP) (l.take (headN wide l))).s (now.set ((l.getD 0 dl).1 / wide % 8) (f s (was.getD ((l.getD 0 dl).1 / wide % 8) zeroP) (l.take (headN wide l))).p) (l.drop (headN wide l)) := by
  conv => lhs; unfold goW
  rw [if_neg h0, if_neg (by omega)]
def WlRel (L : Nat → Nat) (w : World) (D obj : Nat) (p : Pt) (l : List Lf) (sp : Option Addr) (G ga gb : Nat) (was : List Pt) (f : Sh → Pt → List Lf → Ww) (wd : Nat) (R : Gw) (m c N : Nat) (v : Value) (wr : World) : Prop :=
  ∃ l2 sp2 cap2 fuel now2 s2, v = .slice sp2 (List.length l2) cap2 ∧ l2.length ≤ cap2 ∧ l2.length ≤ fuel ∧ goW f wd was fuel s2 now2 l2 = R ∧ NOK now2 ∧ (∀ x ∈ l2, Lf.OK x) ∧ (∀ X, SrcF X sp l → SrcF X sp2 l2) ∧ (∀ a, sp2 = some a → ∃ a0, sp = some a0 ∧ a.block = a0.block) ∧ WiS L w D obj p l sp G ga gb was now2 s2 wr ∧ Lim (m + (N - l2.length) * c) s2 ∧ l2.length ≤ N
set_option maxRecDepth 100000 in
set_option maxHeartbeats 16000000 in
theorem with_succ (n : Nat) (hn2 : n ≤ 1) (IH : WithC n) : WithC (n + 1) := by
  intro w L D obj s v m p hp hobj l hok sp cap hc hl hS hsp h hk hm
  have HPO := Lib.hid hp
  have HX : Hid (∀ z, z = (pcells zeroP).toArray → WbS L w D obj p l sp w.heap.size s (((w.alloc (.cells (mcells D obj).toArray 145)).alloc (.cells (pcells p).toArray 28)).alloc (.cells z 28))) := Lib.hid (fun z hz => by
    subst hz
    have hw1 : Below w.heap.size w (((w.alloc (.cells (mcells D obj).toArray 145)).alloc (.cells (pcells p).toArray 28)).alloc (.cells (pcells zeroP).toArray 28)) := (((Below.refl _ _).alloc (Nat.le_refl _) _).alloc (by simp) _).alloc (by simp; omega) _
    exact ⟨⟨L, v, h.below hw1, Mv.of_below hw1 h.lt, ⟨h.not (Nat.le_refl _), h.not (by omega), h.not (by omega)⟩, fun a ha => ⟨Nat.lt_of_lt_of_le (hsp a ha).1 hw1.size, (hsp a ha).2⟩⟩, ((Blk.new _ _ _).alloc _).alloc _, (Blk.new' _ _ _ _ _ (by simp) rfl).alloc _, Blk.new' _ _ _ _ _ (by simp) rfl, hS.grown hw1, Nat.le_refl _⟩)
  have HOK := Lib.hid hok; have HOB := Lib.hid hobj
  have HSPW : Hid (∀ a, sp = some a → a.block < w.heap.size) := Lib.hid (fun a ha => (hsp a ha).1)
  obtain ⟨N, hN⟩ : ∃ N, l.length = N := ⟨_, rfl⟩
  have HN := Lib.hid hN; have HK := Lib.hid hk
  rw [hN] at hc hl ⊢
  have HC := Lib.hid hc; have HL := Lib.hid hl
  obtain ⟨c, hcc⟩ : ∃ c, cW n = c := ⟨_, rfl⟩
  have HM : Hid (m + (11 + 64 * c) < 100000000) := Lib.hid (by rw [← hcc]; exact hm)
  have HCC := Lib.hid hcc
  have HN2 := Lib.hid hn2
  obtain ⟨r, hr⟩ : ∃ r, withP obj (n + 1) s p l = r := ⟨_, rfl⟩
  have HR : Hid (r = if l = [] then ⟨p, 0, s⟩ else if rnE s p ≠ 0 then ⟨zeroP, rnE s p, rnS s p⟩ else endW obj (n + 1) p (rnN s p) ((l.getD 0 dl).1 / 8 ^ (n + 1)) (goW (withP obj n) (8 ^ n) (rnN s p) l.length (rnS s p) (rnN s p) l)) := Lib.hid (by rw [← hr, withP_succ])
  rw [hr]
  generalize hPost : (fun e w' => e = Ending.returned (.tuple #[.agg (pcells r.p).toArray, .int .i64 (r.e : Int)]) ∧ ShPost 5 L w D r.s w' ∧ Lim (m + cW (n + 1)) r.s ∧ r.p.OK) = Post
  have HP : Hid (∀ w', ShPost 5 L w D r.s w' → Lim (m + (11 + 64 * c)) r.s → r.p.OK → Post (.returned (.tuple #[.agg (pcells r.p).toArray, .int .i64 (r.e : Int)])) w') := Lib.hid fun w' h2 h3 h4 => by rw [← hPost]; rw [← hcc] at h3; exact ⟨rfl, h2, h3, h4⟩
  have HSZ := Lib.hid (size_pc hp)
  have HSZ0 := Lib.hid (size_pc zeroP_ok)
  have HZP : Hid ((pcells zeroP).toArray.size = (pcells p).toArray.size) := Lib.hid (by rw [List.size_toArray, List.size_toArray, pcells_length hp, pcells_length zeroP_ok])
  obtain ⟨lv, hlv⟩ : ∃ lv, n + 1 = lv := ⟨_, rfl⟩
  have HLV := Lib.hid hlv
  have hl0 : ((lv : Int) == 0) = false := by rw [← hlv]; simp; omega
  have hsub : IntKind.u8.wrap ((lv : Int) - 1) = (n : Int) := by rw [IntKind.wrap_u8, ← hlv]; omega
  rw [hlv] at HR ⊢
  clear hp hobj hok hc hl hS hsp h hk hm hN hr hPost hn2 hcc hlv
  go_enter Tryz.func73, Tryz.ntmps73
  go_upto_region 1 with fail
  refine (fun (k : ∀ W, WbS L w D obj p l sp w.heap.size s W → Code.wp _ _ _ _ W) => k _ (HX.out _ rfl)) ?_
  intro W hW
  obtain ⟨G, hG⟩ : ∃ g, w.heap.size = g := ⟨_, rfl⟩
  have HGW := Lib.hid hG
  rw [hG] at hW ⊢
  have HX1 := Lib.hid hW
  have HRB := Lib.hid hW.res
  clear hW HX hG
  by_cases h0 : N = 0
  · subst h0
    have hl0 : l = [] := List.eq_nil_of_length_eq_zero HN.out
    obtain rfl : r = ⟨p, 0, s⟩ := by rw [HR.out, if_pos hl0]
    have HBE := Lib.hid (HX1.out.ends p)
    have HE := Lib.hid (HP.out _ HBE.out.1 (HK.out.mono (by omega) HM.out) HPO.out)
    clear hl0 HR HP
    go_wp2_with (first | (refine wpL_val rfl (ex_ldP HPO.out HX1.out.p rfl rfl) ?_) | (refine wpList_store_row rfl 28 (.tmp 8) (.tmp 19) rfl (G + 1 + 1) (pcells p).toArray rfl rfl 28 _ HRB.out HSZ.out HZP.out (one_pc p) ?_) | fail)
    refine bodyPost_ret (results_cs Tryz.results73 _ _ (G + 1 + 1) 28 _ rfl HBE.out.2 (size_pcl HPO.out)) rfl ?_
    exact HE.out
  · have hlne : l ≠ [] := fun e => h0 (by have := HN.out; rw [e] at this; simpa using this.symm)
    have hN0 : ((N : Int) == 0) = false := by simp; omega
    obtain ⟨nd, hnd⟩ : ∃ nd, rnN s p = nd := ⟨_, rfl⟩
    obtain ⟨re, hre⟩ : ∃ re, rnE s p = re := ⟨_, rfl⟩
    obtain ⟨s1, hs1⟩ : ∃ s1, rnS s p = s1 := ⟨_, rfl⟩
    have HR2 : Hid (r = if re ≠ 0 then ⟨zeroP, re, s1⟩ else endW obj lv p nd ((l.getD 0 dl).1 / 8 ^ lv) (goW (withP obj n) (8 ^ n) nd l.length s1 nd l)) := Lib.hid (by rw [HR.out, if_neg hlne, hnd, hre, hs1])
    have HLNE := Lib.hid hlne
    have HNO : Hid (NOK nd) := Lib.hid (by rw [← hnd]; exact rnN_ok s p)
    have HLS : Hid (Lim (m + 1) s1) := Lib.hid (by rw [← hs1]; exact HK.out.rnS (by have := HM.out; omega))
    obtain ⟨⟨L1, v1, k1, k2, k3, k4⟩, -⟩ := HX1.out
    have hrd := trRead_any p HPO.out k1 HK.out
    unfold RnPost at hrd
    rw [hnd, hre, hs1] at hrd
    have HRD := Lib.hid hrd
    have HMV : Hid (∀ Y, ShPost 5 L1 W D s1 Y → WbS L w D obj p l sp G s1 Y) := Lib.hid (fun Y hY => HX1.out.moved k2 k3 k4 hY)
    have HST := Lib.hid (size_nc HNO.out)
    have HSA : Hid ((ncells nd).toArray.size = 328) := Lib.hid HNO.out.size
    have HON := Lib.hid (ncells_one HNO.out.ok)
    have c0 : W.cell? ⟨G, 0, none⟩ = some (.iface 45 (.pointer (some ⟨D, 0, none⟩))) := HX1.out.mb.cell rfl
    clear k1 k2 k3 k4 hrd hnd hre hs1 hlne HR
    go_wp2_with (first | (refine wpL_val rfl (ex_ldP HPO.out HX1.out.p rfl rfl) ?_) | fail)
    refine HRD.out.mono ?_
    rintro e X2 ⟨rfl, hp2⟩
    have HX2 := Lib.hid (HMV.out X2 hp2)
    clear hp2 c0 HRD HMV HX1 HRB
    go_upto_region 6 with (first | (refine wpList_store_row rfl 170 (.tmp 10) (.tmp 31) rfl X2.heap.size (ncells nd).toArray rfl rfl 170 _ (heap_alloc_new X2 _) HST.out (by rw [HSA.out]; rfl) HON.out ?_) | fail)
    refine (fun (k : ∀ X, (WbS L w D obj p l sp G s1 X ∧ Blk X X2.heap.size (ncells nd) 170 ∧ Below X2.heap.size X2 X) → Code.wp _ _ _ _ X) => k _ ⟨HX2.out.below (blk_row1 X2 _ (ncells nd) 170).2, (blk_row1 X2 _ (ncells nd) 170).1, (blk_row1 X2 _ (ncells nd) 170).2⟩) ?_
    rintro X3 ⟨hx3, hb3, hbel3⟩
    have HGA : Hid (G + 1 + 1 < X2.heap.size ∧ w.heap.size ≤ X2.heap.size) := Lib.hid ⟨HX2.out.res.lt, by have := HX2.out.res.lt; have := HX2.out.lo; omega⟩
    have HLAB : Hid (∃ L1 v1, ShAt X3 L1 D s1 v1 ∧ Mv 5 L w L1 X3 ∧ (L1 G = 0 ∧ L1 (G + 1) = 0 ∧ L1 (G + 1 + 1) = 0) ∧ (∀ a, sp = some a → a.block < X3.heap.size ∧ (L1 a.block = 0 ∨ L1 a.block = 10)) ∧ ∀ g, X2.heap.size ≤ g → L1 g = 0) := Lib.hid (by
      obtain ⟨⟨L2, v2, k1, k2, k3, k4⟩, -⟩ := HX2.out
      exact ⟨L2, v2, k1.below hbel3, k2.trans (Mv.of_below hbel3 k1.lt), k3, fun a ha => ⟨Nat.lt_of_lt_of_le (k4 a ha).1 hbel3.size, (k4 a ha).2⟩, fun g hg => k1.not hg⟩)
    obtain ⟨ga, hga⟩ : ∃ g, X2.heap.size = g := ⟨_, rfl⟩
    rw [hga] at hb3 HGA HLAB ⊢
    have HX3 := Lib.hid hx3; have HB3 := Lib.hid hb3
    have HRB3 := Lib.hid hx3.res
    clear hx3 hb3 hbel3 hga HX2
    by_cases hre : re = 0
    · subst hre
      obtain ⟨R, hRg⟩ : ∃ R, goW (withP obj n) (8 ^ n) nd l.length s1 nd l = R := ⟨_, rfl⟩
      have HR3 : Hid (r = endW obj lv p nd ((l.getD 0 dl).1 / 8 ^ lv) R) := Lib.hid (by rw [HR2.out, if_neg (by simp), hRg])
      have HRG := Lib.hid hRg
      clear hRg HR2
      rw [show ((0 : Nat) : Int) = (0 : Int) from rfl]
      go_upto_region 9 with (first | (refine wpL_val rfl (ex_ldN HNO.out HB3.out rfl rfl) ?_) | (refine wpList_store_row rfl 170 (.tmp 12) (.tmp 37) rfl X3.heap.size (ncells nd).toArray rfl rfl 170 _ (heap_alloc_new X3 _) HST.out (by rw [HSA.out]; rfl) HON.out ?_) | fail)
      refine (fun (k : ∀ X, WiS L w D obj p l sp G ga X3.heap.size nd nd s1 X → Code.wp _ _ _ _ X) => k _ ?_) ?_
      · have hbb := (blk_row1 X3 (ncells holes).toArray (ncells nd) 170).2
        obtain ⟨L1, v1, k1, k2, k3, k4, k5⟩ := HLAB.out
        exact ⟨HX3.out.below hbb, HB3.out.below hbb HB3.out.lt, (blk_row1 X3 _ (ncells nd) 170).1, ⟨HGA.out.2, by have := HB3.out.lt; have := HGA.out.2; omega, by have := HB3.out.lt; omega, by have := HGA.out.1; omega, by have := HGA.out.1; omega, HGA.out.1, by have := HGA.out.1; have := HB3.out.lt; omega⟩, ⟨L1, v1, k1.below hbb, k2.trans (Mv.of_below hbb k1.lt), k3, fun a ha => ⟨Nat.lt_of_lt_of_le (k4 a ha).1 hbb.size, (k4 a ha).2, by have := HSPW.out a ha; have := HX3.out.lo; have := HX3.out.mb.lt; omega⟩, k5 ga (Nat.le_refl _), k1.not (Nat.le_refl _)⟩⟩
      intro X4 hX4
      obtain ⟨gb, hgb⟩ : ∃ g, X3.heap.size = g := ⟨_, rfl⟩
      rw [hgb] at hX4 ⊢
      have HX4 := Lib.hid hX4
      clear hX4 hgb HX3 HB3 HLAB HRB3
      obtain ⟨wd, hwd⟩ : ∃ wd, 8 ^ n = wd := ⟨_, rfl⟩
      have HWD := Lib.hid hwd
      have HWB : Hid (0 < wd ∧ wd ≤ 64) := Lib.hid (by
        rw [← hwd]
        have h2 := HN2.out
        have : n = 0 ∨ n = 1 := by omega
        rcases this with rfl | rfl <;> decide)
      rw [hwd] at HRG
      have HR0 : Hid (WlRel L w D obj p l sp G ga gb nd (withP obj n) wd R (m + 1) c N (.slice sp N cap) X4) := Lib.hid ⟨l, sp, cap, l.length, nd, s1, by rw [HN.out], by rw [HN.out]; exact HC.out, Nat.le_refl _, HRG.out, HNO.out, HOK.out, fun _ h => h, fun a ha => ⟨a, ha, rfl⟩, HX4.out, by rw [HN.out, Nat.sub_self, Nat.zero_mul]; exact HLS.out, by rw [HN.out]; exact Nat.le_refl _⟩
      clear hwd HX4 HRG HLS
      go_wp2_with fail
      go_loopw [13] (fun v wr => WlRel L w D obj p l sp G ga gb nd (withP obj n) wd R (m + 1) c N v wr) (fun v _ => lenV v)
      case atStart => exact HR0.out
      case round =>
        clear HR0
        obtain ⟨l2, sp2, cap2, fuel, now2, s2, rfl, hc2, hf2, hgo, hno2, hok2, hsrc2, hbl2, hwi, hlm, hn2⟩ := hrel
        have HGO := Lib.hid hgo; have HNW := Lib.hid hno2; have HOK2 := Lib.hid hok2; have HSR := Lib.hid hsrc2; have HBL := Lib.hid hbl2; have HWI := Lib.hid hwi; have HLM := Lib.hid hlm; have HC2 := Lib.hid hc2; have HF2 := Lib.hid hf2; have HN3 := Lib.hid hn2
        obtain ⟨M, hM⟩ : ∃ M, l2.length = M := ⟨_, rfl⟩
        have HMl := Lib.hid hM
        rw [hM] at HLM HC2 HF2 HN3 ⊢
        clear hgo hno2 hok2 hsrc2 hbl2 hwi hlm hc2 hf2 hn2 hM
        by_cases hM0 : 0 < M
        · have hMi : (0 : Int) < (M : Int) := by omega
          obtain ⟨x, hx⟩ : ∃ x, l2[0]? = some x := ⟨_, List.getElem?_eq_getElem (by have := HMl.out; omega)⟩
          have HXX := Lib.hid hx
          have HXO : Hid (Lf.OK x) := Lib.hid (HOK2.out x (List.mem_of_getElem? hx))
          have hgd : l2.getD 0 dl = x := by rw [List.getD_eq_getElem?_getD, hx]; rfl
          have HGD := Lib.hid hgd
          have hl2 : l2 ≠ [] := fun e => by rw [e] at hx; cases hx
          have HL2 := Lib.hid hl2
          have HS0 := Lib.hid (HSR.out wr HWI.out.b.src)
          obtain ⟨g, o', rfl, hg⟩ := HS0.out.form (by have := HMl.out; omega)
          obtain ⟨hn, hhn⟩ : ∃ h, headN wd l2 = h := ⟨_, rfl⟩
          have HHN := Lib.hid hhn
          have HHL : Hid (1 ≤ hn ∧ hn ≤ M) := Lib.hid ⟨by rw [← hhn]; exact headN_pos (by have := HMl.out; omega), by rw [← hhn, ← HMl.out]; exact headN_le _ _⟩
          have hhd := head_any l2 HOK2.out (some ⟨g, o', none⟩) cap2 (by rw [HMl.out]; exact HC2.out) (by have := HN3.out; have := HL.out; rw [HMl.out]; omega) (by have := HMl.out; omega) wd HWB.out.1 HWB.out.2 wr HS0.out
          rw [HMl.out, hhn] at hhd
          have HHD := Lib.hid hhd
          clear hx hgd hl2 hg hhn hhd
          go_wp2_with fail
          refine (span_any n (by have := HN2.out; omega) wr).mono ?_
          rintro e W5 ⟨rfl, rfl⟩
          rw [HWD.out]
          go_wp2_with fail
          refine HHD.out.mono ?_
          rintro e X5 ⟨rfl, hb5⟩
          have HWI5 := Lib.hid (HWI.out.below hb5)
          have HS5 := Lib.hid (HS0.out.grown hb5)
          obtain ⟨sp3, hsl3, hsrc3, hbl3⟩ := sliceFromF (some ⟨g, o', none⟩) M cap2 hn HHL.out.2 HC2.out
          have HSR3 := Lib.hid hsrc3; have HBL3 := Lib.hid hbl3
          clear hb5 HWI HS0 HHD hsrc3 hbl3
          go_upto_region 13 with fail
          obtain ⟨xo, hxo⟩ : ∃ n, x.1 = n := ⟨_, rfl⟩
          have HXo := Lib.hid hxo
          have HXB : Hid (xo < 4294967296) := Lib.hid (by rw [← hxo]; exact HXO.out.1)
          have HH0 : Hid (0 < hn ∧ hn ≤ cap2) := Lib.hid ⟨by have := HHL.out; omega, by have := HHL.out; have := HC2.out; omega⟩
          clear hxo
          refine gS (.take 0 (.take 1 (.take 2 (.take 3 (.take 4 (.take 5 (.step 6 (.take 7 (.take 8 (.take 9 (.nil))))))))))) (fun X => SrcF X (some ⟨g, o', none⟩) l2 ∧ True) (⟨HS5.out.drew, trivial⟩) ?_
          refine gT (.slice (some ⟨g, o', none⟩) hn cap2) ?_; try simp only [pS]
          refine wpG_take _ (.pointer (some ⟨g, o' + 0 * 42, none⟩)) rfl (by rfl) (fun X hX => ex_iaF (k := 0) rfl rfl rfl HH0.out) ?_; try simp only [pS]
          refine gT (.pointer (some ⟨g, o' + 0 * 42, none⟩)) ?_; try simp only [pS]
          refine wpG_take _ (.int .u32 (xo : Int)) rfl (by rfl) (fun X hX => (ex_ld1 Tryz.underlying24 rfl rfl (rng_cell (hX.1.at HXX.out))).trans (by rw [HXo.out])) ?_; try simp only [pS]
          refine gT (.int .u8 (lv : Int)) ?_; try simp only [pS]
          refine gT (.int .u8 (n : Int)) ?_; try simp only [pS]
          refine wpG_call _ rfl (by rfl) 97 #[.int .u8 (n : Int)] (fun X => by go_simp) (fun u X => u = .int .u32 (wd : Int) ∧ X = X5.drew) ((span_any n (by have := HN2.out; omega) X5.drew).mono fun e X ⟨e1, e2⟩ => ⟨_, e1, by rw [e2]; exact ⟨HS5.out.drew, trivial⟩, by rw [HWD.out], e2⟩) ?_
          rintro u X6 hs6 ⟨rfl, rfl⟩
          refine ⟨fun X => SrcF X (some ⟨g, o', none⟩) l2 ∧ True, fun _ h => h, hs6, ?_⟩; try simp only [pS]
          refine wpG_take _ (.int .u32 ((xo / wd : Nat) : Int)) rfl (by rfl) (fun X hX => ex_quo32 HWB.out.1 HXB.out rfl rfl rfl) ?_; try simp only [pS]
          refine wpG_take _ (.int .u32 ((xo / wd % 8 : Nat) : Int)) rfl (by rfl) (fun X hX => ex_rem8 rfl rfl rfl) ?_; try simp only [pS]
          refine gT (.int .u32 ((xo / wd % 8 : Nat) : Int)) ?_; try simp only [pS]
          refine wpG_nil ?_
          have HWI6 := Lib.hid (HWI5.out.below (Below.refl _ _).drew)
          have HS6 := Lib.hid HS5.out.drew
          clear HWI5 HS5
          obtain ⟨i, hi⟩ : ∃ i, xo / wd % 8 = i := ⟨_, rfl⟩
          have HI : Hid (i < 8 ∧ (l2.getD 0 dl).1 / wd % 8 = i) := Lib.hid ⟨by omega, by rw [HGD.out, HXo.out]; exact hi⟩
          rw [hi]
          clear hi
          obtain ⟨q, hq⟩ := HNO.out.get HI.out.1
          have HQ := Lib.hid hq
          have HQO := Lib.hid (HNO.out.at hq)
          have HQD : Hid (nd.getD ((l2.getD 0 dl).1 / wd % 8) zeroP = q) := Lib.hid (by rw [HI.out.2, List.getD_eq_getElem?_getD, hq]; rfl)
          clear hq
          obtain ⟨-, -, -, -, ⟨L6, v6, e1, e2, e3, e4, e5, e6⟩⟩ := HWI6.out
          have hih := fun (X : World) (hX : Below X5.drew.heap.size X5.drew X) => IH (obj := obj) q HQO.out HOB.out (l2.take hn) (fun y hy => HOK2.out y (List.mem_of_mem_take hy)) (some ⟨g, o', none⟩) cap2 (by rw [List.length_take, HMl.out]; have := HH0.out; omega) (by rw [List.length_take, HMl.out]; have := HL.out; have := HN3.out; omega) ((HS6.out.take hn).grown hX) (fun a ha => by
            obtain ⟨a0, ea, eb⟩ := HBL.out a ha
            rw [eb]
            exact ⟨Nat.lt_of_lt_of_le (e4 a0 ea).1 hX.size, (e4 a0 ea).2.1⟩) (e1.below hX) HLM.out (by
            rw [HCC.out]
            have := HM.out
            have h2 := HN3.out
            have h3 := HL.out
            have : (N - M) * c + c ≤ 64 * c := by rw [← Nat.succ_mul]; exact Nat.mul_le_mul (by omega) (Nat.le_refl _)
            omega)
          rw [List.length_take, HMl.out, Nat.min_eq_left HHL.out.2] at hih
          obtain ⟨rw_, hrw⟩ : ∃ x : Ww, withP obj n s2 q (l2.take hn) = x := ⟨_, rfl⟩
          rw [hrw] at hih
          have HRW : Hid (withP obj n s2 (nd.getD ((l2.getD 0 dl).1 / wd % 8) zeroP) (l2.take (headN wd l2)) = rw_) := Lib.hid (by rw [HQD.out, HHN.out]; exact hrw)
          have hmv : ∀ X, Below X5.drew.heap.size X5.drew X → ∀ Y, ShPost 5 L6 X D rw_.s Y → WiS L w D obj p l sp G ga gb nd now2 rw_.s Y := fun X hX Y hY =>
            (HWI6.out.below hX).moved (e2.trans (Mv.of_below hX e1.lt)) e3 (fun a ha => ⟨Nat.lt_of_lt_of_le (e4 a ha).1 hX.size, (e4 a ha).2⟩) ⟨e5, e6⟩ hY
          have HLM2 : Hid (∀ Y, Lim (m + 1 + (N - M) * c + cW n) Y → Lim (m + 1 + (N - (M - hn)) * c) Y) := Lib.hid (fun Y hY => hY.mono (by
            rw [HCC.out]
            have h1 := HHL.out
            have h2 := HN3.out
            have : (N - M) * c + c ≤ (N - (M - hn)) * c := by rw [← Nat.succ_mul]; exact Nat.mul_le_mul (by omega) (Nat.le_refl _)
            omega) (by
            have := HM.out
            have h3 := HL.out
            have : (N - (M - hn)) * c ≤ 64 * c := Nat.mul_le_mul (by omega) (Nat.le_refl _)
            omega))
          clear e1 e2 e3 e4 e5 e6 hrw
          go_upto_region 14 with fail
          have hs0 : Blk X5.drew.drew G (mcells D obj) 145 ∧ Blk X5.drew.drew ga (ncells nd) 170 := ⟨HWI6.out.b.mb.drew, HWI6.out.wa.drew⟩
          refine gS (.take 0 (.take 1 (.take 2 (.take 3 (.take 4 (.take 5 (.take 6 (.take 7 (.step 8 (.take 9 (.take 10 (.take 11 (.take 12 (.step 13 (.take 14 (.nil)))))))))))))))) (fun X => Blk X G (mcells D obj) 145 ∧ Blk X ga (ncells nd) 170) (hs0) ?_
          refine gT (.int .u32 (i : Int)) ?_; try simp only [pS]
          refine wpG_take _ (.agg (mcells D obj).toArray) rfl (by rfl) (fun X hX => ex_ldMk hX.1 rfl rfl) ?_; try simp only [pS]
          refine gT (.int .u32 (i : Int)) ?_; try simp only [pS]
          refine wpG_take _ (.pointer (some ⟨ga, i * 41, none⟩)) rfl (by rfl) (fun X hX => ex_iaN8 HI.out.1 rfl rfl rfl) ?_; try simp only [pS]
          refine wpG_take _ (.agg (pcells q).toArray) rfl (by rfl) (fun X hX => ex_ldE HNO.out hX.2 HQ.out (Nat.mul_comm i 41) rfl rfl) ?_; try simp only [pS]
          refine gT (.int .u8 (lv : Int)) ?_; try simp only [pS]
          refine gT (.int .u8 (n : Int)) ?_; try simp only [pS]
          refine gT (.slice (some ⟨g, o', none⟩) hn cap2) ?_; try simp only [pS]
          refine wpG_call _ rfl (by rfl) 73 #[.agg (mcells D obj).toArray, .agg (pcells q).toArray, .int .u8 (n : Int), .slice (some ⟨g, o', none⟩) hn cap2] (fun X => by go_simp) (fun u X => u = .tuple #[.agg (pcells rw_.p).toArray, .int .i64 (rw_.e : Int)] ∧ WiS L w D obj p l sp G ga gb nd now2 rw_.s X ∧ Lim (m + 1 + (N - M) * c + cW n) rw_.s ∧ rw_.p.OK) ((hih X5.drew.drew (Below.refl _ _).drew).mono fun e X ⟨e1, e2, e3, e4⟩ => by
            have hwx := hmv X5.drew.drew (Below.refl _ _).drew X e2
            exact ⟨_, e1, ⟨hwx.b.mb, hwx.wa⟩, rfl, hwx, e3, e4⟩) ?_
          rintro u X7 hs7 ⟨rfl, hWI8, hlm8, hpo8⟩
          refine ⟨fun X => Blk X G (mcells D obj) 145 ∧ Blk X ga (ncells nd) 170, fun _ h => h, hs7, ?_⟩; try simp only [pS]
          have hW8 := hWI8.put HNW.out HI.out.1 hpo8
          have hthere : X7.there gb (i * 41) (pcells rw_.p).toArray.size := hWI8.nw.there _ _ (by rw [List.size_toArray, pcells_length hpo8, HNW.out.cells]; have := HI.out.1; omega)
          refine gT (.tuple #[.agg (pcells rw_.p).toArray, .int .i64 (rw_.e : Int)]) ?_; try simp only [pS]
          refine gT (.agg (pcells rw_.p).toArray) ?_; try simp only [pS]
          refine gT (.int .i64 (rw_.e : Int)) ?_; try simp only [pS]
          refine wpG_take _ (.pointer (some ⟨gb, i * 41, none⟩)) rfl (by rfl) (fun X hX => ex_iaN8 HI.out.1 rfl rfl rfl) ?_; try simp only [pS]
          refine wpG_mid _ rfl (by rfl) 28 (.tmp 72) (.tmp 70) rfl gb (i * 41) (pcells rw_.p).toArray rfl rfl hthere (size_pc hpo8) (one_pc rw_.p) (fun X => Blk X G (mcells D obj) 145 ∧ Blk X ga (ncells nd) 170) (fun _ h => h) ⟨hW8.b.mb, hW8.wa⟩ ?_; try simp only [pS]
          refine gT (.int .i64 (rw_.e : Int)) ?_; try simp only [pS]
          refine wpG_nil ?_
          generalize X7.setCells gb (i * 41) (pcells rw_.p) = X8 at hW8 ⊢
          have HW8 := Lib.hid hW8
          have HLM8 := Lib.hid (HLM2.out _ hlm8)
          have HN8 := Lib.hid (HNW.out.set i hpo8)
          have HPO8 := Lib.hid hpo8
          clear hW8 hlm8 hpo8 hWI8 hih hmv HWI6 HS6 HLM2 hthere hs0
          obtain ⟨f1, hf1⟩ : ∃ f1, fuel = f1 + 1 := ⟨fuel - 1, by have := HF2.out; omega⟩
          have HGO8 : Hid (goW (withP obj n) wd nd (f1 + 1) s2 now2 l2 = R) := Lib.hid (by rw [← hf1]; exact HGO.out)
          have HF8 : Hid (M ≤ f1 + 1) := Lib.hid (by rw [← hf1]; exact HF2.out)
          clear hf1 HGO HF2 HQ HQO HQD HXX HXO HXo HXB HH0
          by_cases hre : rw_.e = 0
          · have hre' : (rw_.e : Int) = 0 := by omega
            have hgo8 := goW_ok (f := withP obj n) (wide := wd) (was := nd) (fuel := f1) (s := s2) (now := now2) HL2.out (by rw [HRW.out]; exact hre)
            rw [HRW.out, HI.out.2, HHN.out] at hgo8
            have HGO9 : Hid (goW (withP obj n) wd nd f1 rw_.s (now2.set i rw_.p) (l2.drop hn) = R) := Lib.hid (hgo8.symm.trans HGO8.out)
            have HDL : Hid ((l2.drop hn).length = M - hn) := Lib.hid (by rw [List.length_drop, HMl.out])
            rw [hre']
            clear hre hre' hgo8 hM0
            go_wp2_with fail
            go_roundw
            case rel =>
              refine ⟨l2.drop hn, sp3, cap2 - hn, f1, now2.set i rw_.p, rw_.s, by rw [HDL.out], by rw [HDL.out]; have := HC2.out; omega, by rw [HDL.out]; have := HF8.out; have := HHL.out; omega, HGO9.out, HN8.out, fun y hy => HOK2.out y (List.mem_of_mem_drop hy), fun X hX => HSR3.out X l2 HMl.out (HSR.out X hX), fun a ha => ?_, HW8.out, by rw [HDL.out]; exact HLM8.out, by rw [HDL.out]; have := HN3.out; omega⟩
              obtain ⟨a0, e1, e2⟩ := HBL3.out a ha
              obtain ⟨a1, e3, e4⟩ := HBL.out a0 e1
              exact ⟨a1, e3, e2.trans e4⟩
            case measure => simp [lenV]; have := HHL.out; omega
          · have hre' : ¬ (rw_.e : Int) = 0 := by omega
            obtain ⟨ge, gs⟩ := goW_err (f := withP obj n) (wide := wd) (was := nd) (fuel := f1) (s := s2) (now := now2) HL2.out (by rw [HRW.out]; exact hre)
            rw [HRW.out, HGO8.out] at ge gs
            have hr8 : r = ⟨zeroP, rw_.e, rw_.s⟩ := by rw [HR3.out]; unfold endW; rw [ge, gs, if_pos hre]
            have HBE := Lib.hid (HW8.out.b.ends zeroP)
            have HE : Hid (Post (.returned (.tuple #[.agg (pcells zeroP).toArray, .int .i64 (rw_.e : Int)])) (X8.setRow (G + 1 + 1) (pcells zeroP).toArray)) := Lib.hid (by
              have h1 := HP.out (X8.setRow (G + 1 + 1) (pcells zeroP).toArray)
              rw [hr8] at h1
              exact h1 HBE.out.1 (HLM8.out.mono (by
                have := HM.out
                have h3 := HL.out
                have : (N - (M - hn)) * c ≤ 64 * c := Nat.mul_le_mul (by omega) (Nat.le_refl _)
                omega) HM.out) zeroP_ok)
            have HRB8 := Lib.hid HW8.out.b.res
            clear hre ge gs hr8 hM0 HP
            go_wp2_with (first | (refine wpL_val rfl (ex_bld0 rfl) ?_) | (refine wpList_store_row rfl 28 (.tmp 8) (.tmp 75) rfl (G + 1 + 1) (pcells zeroP).toArray rfl rfl 28 _ HRB8.out HSZ0.out rfl (one_pc zeroP) ?_) | fail)
            refine bodyPost_ret (results_cs Tryz.results73 _ _ (G + 1 + 1) 28 _ rfl HBE.out.2 (size_pcl zeroP_ok)) rfl ?_
            exact HE.out
        · obtain rfl : M = 0 := by omega
          obtain rfl : l2 = [] := List.eq_nil_of_length_eq_zero HMl.out
          have hgo := HGO.out
          rw [goW_nil] at hgo
          obtain rfl := hgo
          obtain ⟨x0, hx0⟩ : ∃ x, l[0]? = some x := ⟨_, List.getElem?_eq_getElem (by have := HN.out; omega)⟩
          have HX0 := Lib.hid hx0
          have hgd0 : l.getD 0 dl = x0 := by rw [List.getD_eq_getElem?_getD, hx0]; rfl
          have HXO : Hid (Lf.OK x0) := Lib.hid (HOK.out x0 (List.mem_of_getElem? hx0))
          obtain ⟨g0, o0, hsp0, -⟩ := HWI.out.b.src.form (by have := HN.out; omega)
          have HSP0 := Lib.hid hsp0
          obtain ⟨xo, hxo⟩ : ∃ n, x0.1 = n := ⟨_, rfl⟩
          have HXo := Lib.hid hxo
          have HXB : Hid (xo < 4294967296) := Lib.hid (by rw [← hxo]; exact HXO.out.1)
          obtain ⟨wl, hwl⟩ : ∃ wl, 8 ^ lv = wl := ⟨_, rfl⟩
          have HWL := Lib.hid hwl
          have HLV2 : Hid (lv ≤ 2) := Lib.hid (by have := HN2.out; have := HLV.out; omega)
          have HW0 : Hid (0 < wl) := Lib.hid (by rw [← hwl]; exact Nat.pow_pos (by omega))
          have HR4 : Hid (r = if now2 = nd then ⟨p, 0, s2⟩ else ⟨anP (oldN s2 p lv nd now2) now2 lv obj (xo / wl), anE (oldN s2 p lv nd now2) now2, anS (oldN s2 p lv nd now2) now2 lv obj (xo / wl)⟩) := Lib.hid (by rw [HR3.out, hgd0, hxo, hwl]; unfold endW; rw [if_neg (by simp)])
          have HM2 : Hid (m + 1 + (N - 0) * c + 10 ≤ m + (11 + 64 * c)) := Lib.hid (by
            have h3 := HL.out
            have : (N - 0) * c ≤ 64 * c := Nat.mul_le_mul (by omega) (Nat.le_refl _)
            omega)
          have hNi : ((N : Int) == 0) = false := hN0
          clear hx0 hgd0 hsp0 hxo hwl HR3 hM0 HGO
          by_cases heq : now2 = nd
          · subst heq
            obtain rfl : r = ⟨p, 0, s2⟩ := by rw [HR4.out, if_pos rfl]
            have HBE := Lib.hid (HWI.out.b.ends p)
            have HE := Lib.hid (HP.out _ HBE.out.1 (HLM.out.mono (by have := HM2.out; omega) HM.out) HPO.out)
            have HRB8 := Lib.hid HWI.out.b.res
            clear HR4 HP
            go_wp2_with (first | (refine wpL_val rfl (ex_ldN HNW.out HWI.out.nw rfl rfl) ?_) | (refine wpL_val rfl (ex_ldN HNW.out HWI.out.wa rfl rfl) ?_) | (refine wpL_val rfl ((ex_eqN HNW.out HNW.out rfl rfl rfl).trans (by rw [decide_eq_true rfl])) ?_) | (refine wpL_val rfl (ex_ldP HPO.out HWI.out.b.p rfl rfl) ?_) | (refine wpList_store_row rfl 28 (.tmp 8) (.tmp 80) rfl (G + 1 + 1) (pcells p).toArray rfl rfl 28 _ HRB8.out HSZ.out HZP.out (one_pc p) ?_) | fail)
            refine bodyPost_ret (results_cs Tryz.results73 _ _ (G + 1 + 1) 28 _ rfl HBE.out.2 (size_pcl HPO.out)) rfl ?_
            exact HE.out
          · have HNE : Hid (decide (now2 = nd) = false) := Lib.hid (decide_eq_false heq)
            obtain ⟨s3, hs3⟩ : ∃ s3, oldN s2 p lv nd now2 = s3 := ⟨_, rfl⟩
            have HR5 : Hid (r = ⟨anP s3 now2 lv obj (xo / wl), anE s3 now2, anS s3 now2 lv obj (xo / wl)⟩) := Lib.hid (by rw [HR4.out, if_neg heq, hs3])
            obtain ⟨-, -, -, -, ⟨L6, v6, e1, e2, e3, e4, e5, e6⟩⟩ := HWI.out
            have hol := trOld_any obj p HPO.out lv nd now2 HNO.out HNW.out e1 HLM.out (by have := HM2.out; have := HM.out; omega)
            rw [hs3] at hol
            have HOL := Lib.hid hol
            have HMV : Hid (∀ Y, ShPost 5 L6 wr D s3 Y → WiS L w D obj p l sp G ga gb nd now2 s3 Y) := Lib.hid (fun Y hY => HWI.out.moved e2 e3 e4 ⟨e5, e6⟩ hY)
            clear e1 e2 e3 e4 e5 e6 hol heq HR4 hs3
            go_wp2_with (first | (refine wpL_val rfl (ex_ldN HNW.out HWI.out.nw rfl rfl) ?_) | (refine wpL_val rfl (ex_ldN HNO.out HWI.out.wa rfl rfl) ?_) | (refine wpL_val rfl ((ex_eqN HNW.out HNO.out rfl rfl rfl).trans (by rw [HNE.out])) ?_) | (refine wpL_val rfl (ex_ldP HPO.out HWI.out.b.p rfl rfl) ?_) | (refine wpL_val rfl (ex_ldMk HWI.out.b.mb rfl rfl) ?_) | fail)
            refine HOL.out.mono ?_
            rintro e X9 ⟨rfl, hp9, hl9⟩
            have HW9 := Lib.hid (HMV.out X9 hp9)
            have HL9 := Lib.hid hl9
            clear hp9 hl9 HOL HMV HWI HLM
            obtain ⟨-, -, -, -, ⟨L9, v9, e1, e2, e3, e4, e5, e6⟩⟩ := HW9.out
            have han := trAnew_any (w := X9.drew) obj now2 HNW.out lv (xo / wl) (by have := HLV2.out; omega) HOB.out (by have := Nat.div_le_self xo wl; have := HXB.out; omega) e1.drew HL9.out (by have := HM2.out; have := HM.out; omega)
            have hmv : ∀ Y, ShPost 5 L9 X9.drew D (anS s3 now2 lv obj (xo / wl)) Y → WbS L w D obj p l sp G (anS s3 now2 lv obj (xo / wl)) Y ∧ Blk Y gb (ncells now2) 170 := fun Y hY => by
              have hh := (HW9.out.below (Below.refl _ _).drew).moved (e2.trans (Mv.of_below (Below.refl _ _).drew e1.lt)) e3 (fun a ha => ⟨Nat.lt_of_lt_of_le (e4 a ha).1 (Below.refl X9.heap.size X9).drew.size, (e4 a ha).2⟩) ⟨e5, e6⟩ hY
              exact ⟨hh.b, hh.nw⟩
            obtain ⟨rp, hrp⟩ : ∃ x, anP s3 now2 lv obj (xo / wl) = x := ⟨_, rfl⟩
            obtain ⟨re2, hre2⟩ : ∃ x, anE s3 now2 = x := ⟨_, rfl⟩
            obtain ⟨s4, hs4⟩ : ∃ x, anS s3 now2 lv obj (xo / wl) = x := ⟨_, rfl⟩
            unfold AnPost at han
            rw [hrp, hre2, hs4] at han HR5
            rw [hs4] at hmv
            obtain rfl := HR5.out
            have HPR : Hid rp.OK := Lib.hid (by
              rw [← hrp]
              unfold anP
              split
              · exact zeroP_ok
              · split
                · exact zeroP_ok
                · exact nwP_ok (tagP_ok (by have := HLV2.out; omega) HOB.out (by have := Nat.div_le_self xo wl; have := HXB.out; omega)) _)
            have HSR := Lib.hid (size_pc HPR.out)
            have HZR : Hid ((pcells zeroP).length = (pcells rp).toArray.size) := Lib.hid (by rw [List.size_toArray, pcells_length HPR.out, pcells_length zeroP_ok])
            have hs0 : Blk X9.drew G (mcells D obj) 145 ∧ Blk X9.drew gb (ncells now2) 170 ∧ SrcF X9.drew (some ⟨g0, o0, none⟩) l := ⟨HW9.out.b.mb.drew, HW9.out.nw.drew, by have := HW9.out.b.src.drew; rw [HSP0.out] at this; exact this⟩
            have HN0 : Hid (0 < N ∧ N ≤ cap) := Lib.hid ⟨by omega, HC.out⟩
            rw [HSP0.out]
            clear e1 e2 e3 e4 e5 e6 hrp hre2 hs4 HR5
            go_upto_region 20 with fail
            refine gS (.take 0 (.take 1 (.take 2 (.take 3 (.take 4 (.take 5 (.take 6 (.take 7 (.step 8 (.take 9 (.step 10 (.take 11 (.take 12 (.step 13 (.take 14 (.nil)))))))))))))))) (fun X => Blk X G (mcells D obj) 145 ∧ Blk X gb (ncells now2) 170 ∧ SrcF X (some ⟨g0, o0, none⟩) l) (hs0) ?_
            refine wpG_take _ (.agg (mcells D obj).toArray) rfl (by rfl) (fun X hX => ex_ldMk hX.1 rfl rfl) ?_; try simp only [pS]
            refine wpG_take _ (.agg (ncells now2).toArray) rfl (by rfl) (fun X hX => ex_ldN HNW.out hX.2.1 rfl rfl) ?_; try simp only [pS]
            refine gT (.int .u8 (lv : Int)) ?_; try simp only [pS]
            refine gT (.slice (some ⟨g0, o0, none⟩) N cap) ?_; try simp only [pS]
            refine wpG_take _ (.pointer (some ⟨g0, o0 + 0 * 42, none⟩)) rfl (by rfl) (fun X hX => ex_iaF (k := 0) rfl rfl rfl HN0.out) ?_; try simp only [pS]
            refine gT (.pointer (some ⟨g0, o0 + 0 * 42, none⟩)) ?_; try simp only [pS]
            refine wpG_take _ (.int .u32 (xo : Int)) rfl (by rfl) (fun X hX => (ex_ld1 Tryz.underlying24 rfl rfl (rng_cell (hX.2.2.at HX0.out))).trans (by rw [HXo.out])) ?_; try simp only [pS]
            refine gT (.int .u8 (lv : Int)) ?_; try simp only [pS]
            refine wpG_call _ rfl (by rfl) 97 #[.int .u8 (lv : Int)] (fun X => by go_simp) (fun u X => u = .int .u32 (wl : Int) ∧ X = X9.drew) ((span_any lv HLV2.out X9.drew).mono fun e X ⟨e1, e2⟩ => ⟨_, e1, by rw [e2]; exact hs0, by rw [HWL.out], e2⟩) ?_
            rintro u X10 hs10 ⟨rfl, rfl⟩
            refine ⟨fun X => Blk X G (mcells D obj) 145 ∧ Blk X gb (ncells now2) 170 ∧ SrcF X (some ⟨g0, o0, none⟩) l, fun _ h => h, hs10, ?_⟩; try simp only [pS]
            refine wpG_take _ (.int .u32 ((xo / wl : Nat) : Int)) rfl (by rfl) (fun X hX => ex_quo32 HW0.out HXB.out rfl rfl rfl) ?_; try simp only [pS]
            refine wpG_call _ rfl (by rfl) 99 #[.agg (mcells D obj).toArray, .agg (ncells now2).toArray, .int .u8 (lv : Int), .int .u32 ((xo / wl : Nat) : Int)] (fun X => by go_simp) (fun u X => u = .tuple #[.agg (pcells rp).toArray, .int .i64 (re2 : Int)] ∧ WbS L w D obj p l sp G s4 X ∧ Lim (m + 1 + (N - 0) * c + 9 + 1) s4) (han.mono fun e X ⟨e1, e2, e3⟩ => by
              obtain ⟨hwx, hnx⟩ := hmv X e2
              exact ⟨_, e1, ⟨hwx.mb, hnx, by have := hwx.src; rw [HSP0.out] at this; exact this⟩, rfl, hwx, e3⟩) ?_
            rintro u X11 hs11 ⟨rfl, hwb, hlm⟩
            refine ⟨fun X => Blk X G (mcells D obj) 145 ∧ Blk X gb (ncells now2) 170 ∧ SrcF X (some ⟨g0, o0, none⟩) l, fun _ h => h, hs11, ?_⟩; try simp only [pS]
            have hBE := hwb.ends rp
            have hlow := hwb.lo
            have hlt1 := hwb.mb.lt
            refine gT (.agg (pcells rp).toArray) ?_; try simp only [pS]
            refine gT (.int .i64 (re2 : Int)) ?_; try simp only [pS]
            refine wpG_row _ rfl (by rfl) 28 (.tmp 8) (.tmp 98) rfl (G + 1 + 1) (pcells rp).toArray rfl rfl hwb.res HSR.out HZR.out (one_pc rp) (fun X => Blk X G (mcells D obj) 145 ∧ Blk X gb (ncells now2) 170 ∧ SrcF X (some ⟨g0, o0, none⟩) l) (fun _ h => h) ⟨hs11.1.rowOther (by omega) _, hs11.2.1.rowOther (by have := HW9.out.ne; omega) _, hs11.2.2.chg (chgR _ _ _) (fun a ha e => by have h5 := HSPW.out a (by rw [HSP0.out]; exact ha); have h6 := HGW.out; have e : a.block = G + 1 + 1 := e; omega)⟩ ?_; try simp only [pS]
            refine gT (.int .i64 (re2 : Int)) ?_; try simp only [pS]
            refine wpG_nil ?_
            have HBE2 := Lib.hid hBE
            have HE := Lib.hid (HP.out _ hBE.1 (hlm.mono (by have := HM2.out; omega) HM.out) HPR.out)
            clear hBE hlm hwb han hmv hs0 HP HW9
            go_wp2_with fail
            refine bodyPost_ret (results_cs Tryz.results73 _ _ (G + 1 + 1) 28 _ rfl HBE2.out.2 (size_pcl HPR.out)) rfl ?_
            exact HE.out
    · have hre' : ¬ (re : Int) = 0 := by omega
      have hr2 : r = ⟨zeroP, re, s1⟩ := by rw [HR2.out, if_pos hre]
      have HBE := Lib.hid (HX3.out.ends zeroP)
      have HE : Hid (Post (.returned (.tuple #[.agg (pcells zeroP).toArray, .int .i64 (re : Int)])) (X3.setRow (G + 1 + 1) (pcells zeroP).toArray)) := Lib.hid (by
        have h1 := HP.out (X3.setRow (G + 1 + 1) (pcells zeroP).toArray)
        rw [hr2] at h1
        exact h1 HBE.out.1 (HLS.out.mono (by omega) HM.out) zeroP_ok)
      clear hre hr2 HP HR2
      go_wp2_with (first | (refine wpL_val rfl (ex_bld0 rfl) ?_) | (refine wpList_store_row rfl 28 (.tmp 8) (.tmp 35) rfl (G + 1 + 1) (pcells zeroP).toArray rfl rfl 28 _ HRB3.out HSZ0.out rfl (one_pc zeroP) ?_) | fail)
      refine bodyPost_ret (results_cs Tryz.results73 _ _ (G + 1 + 1) 28 _ rfl HBE.out.2 (size_pcl zeroP_ok)) rfl ?_
      exact HE.out
theorem with_any : ∀ n, n ≤ 2 → WithC n
  | 0, _ => with0
  | n + 1, h => with_succ n (by omega) (with_any n (by omega))
end Go.Proofs.YtjgjohdeeeoeoaaGreatDoor
