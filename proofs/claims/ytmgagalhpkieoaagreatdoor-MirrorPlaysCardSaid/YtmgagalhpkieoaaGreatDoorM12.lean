/- The document's disk: Crash. -/
import Derived.Test.YtmgagalhpkieoaaGreatDoorM11
namespace Go.Proofs.YtmgagalhpkieoaaGreatDoor
open Go.RowKit

theorem ex_ia43 {ρ : Operand → Value} {o : Oper} {x y : Operand} {g p n cap k : Nat} {w : World} (ho : o.op = .indexAddr 61 x y) (hx : ρ x = .slice (some ⟨g, p, none⟩) n cap) (hy : ρ y = .int .i64 (k : Int)) (hk : k < n) (_ : n ≤ cap) :
    (execOp ρ o).run Tryz.prog w = .ok (.value (.pointer (some ⟨g, p + k, none⟩))) w := by
  unfold execOp
  simp only [ho]
  go_simp
theorem ex_ia37 {ρ : Operand → Value} {o : Oper} {x y : Operand} {g n cap k : Nat} {w : World} (ho : o.op = .indexAddr 46 x y) (hx : ρ x = .slice (some ⟨g, 0, none⟩) n cap) (hy : ρ y = .int .i64 (k : Int)) (hk : k < n) (_ : n ≤ cap) :
    (execOp ρ o).run Tryz.prog w = .ok (.value (.pointer (some ⟨g, k * 2, none⟩))) w := by
  unfold execOp
  simp only [ho]
  go_simp
theorem ex_ld3 {ρ : Operand → Value} {o : Oper} {x : Operand} {ad : Addr} {v : Value} {w : World} (ho : o.op = .load 3 x) (hx : ρ x = .pointer (some ad)) (hc : w.cell? ad = some v) : (execOp ρ o).run Tryz.prog w = .ok (.value v) w := by
  unfold execOp
  simp only [ho]
  go_simp
theorem ex_ld92 {ρ : Operand → Value} {o : Oper} {x : Operand} {g k : Nat} {p : Nat × d_Bs} {w : World} (ho : o.op = .load 173 x) (hx : ρ x = .pointer (some ⟨g, k, none⟩)) (h0 : w.cell? ⟨g, k, none⟩ = some (.int .u16 (p.1 : Int))) (h1 : w.cell? ⟨g, k + 1, none⟩ = some (.string (bstr p.2))) :
    (execOp ρ o).run Tryz.prog w = .ok (.value (.agg (d_pcells p).toArray)) w := by
  unfold execOp d_pcells
  simp only [ho]
  go_simp
theorem ex_sub3 {ρ : Operand → Value} {o : Oper} {x : Operand} {z : Int} {w : World} (ho : o.op = .binOp .sub 3 x (.const (.int .i64 2)) 3) (hx : ρ x = .int .i64 z) (hc : ρ (.const (.int .i64 2)) = .int .i64 2) (h1 : 1 < z) (h2 : z ≤ 9223372036854775807) : (execOp ρ o).run Tryz.prog w = .ok (.value (.int .i64 (z - 2))) w := by
  have hw := IntWalk.i64_in (z - 2) (by omega)
  unfold execOp
  simp only [ho]
  go_simp
theorem ex_rem3 {ρ : Operand → Value} {o : Oper} {x : Operand} {z : Int} {w : World} (ho : o.op = .binOp .rem 3 x (.const (.int .i64 512)) 3) (hx : ρ x = .int .i64 (z - 2)) (hc : ρ (.const (.int .i64 512)) = .int .i64 512) (h1 : 1 < z) (h2 : z ≤ 9223372036854775807) : (execOp ρ o).run Tryz.prog w = .ok (.value (.int .i64 ((z - 2) % 512))) w := by
  have hm : Int.tmod (z - 2) 512 = (z - 2) % 512 := Int.tmod_eq_emod_of_nonneg (by omega)
  have hw := IntWalk.i64_in ((z - 2) % 512) (by omega)
  unfold execOp
  simp only [ho]
  go_simp
def rset (zs : List Int) (t : Rsk) : Nat → Rsk
  | 0 => t
  | k + 1 => match t.cache[k]? with | some x => (if pickOf zs k = -1 then rset zs t k else rcame (rset zs t k) x.1 x.2 (pickOf zs k).toNat) | none => rset zs t k
theorem rset_none {zs : List Int} {t : Rsk} {k : Nat} (hp : pickOf zs k = -1) : rset zs t (k + 1) = rset zs t k := by
  simp only [rset]
  cases t.cache[k]? with
  | none => rfl
  | some x => simp only; rw [if_pos hp]
theorem rset_some {zs : List Int} {t : Rsk} {k n : Nat} {x : Nat × d_Bs} (hx : t.cache[k]? = some x) (hp : pickOf zs k = (n : Int)) : rset zs t (k + 1) = rcame (rset zs t k) x.1 x.2 n := by
  simp only [rset, hx]
  rw [if_neg (by omega), hp]
  rfl
theorem pick_z {zs : List Int} {k : Nat} {z : Int} (h : k < zs.length) (hz : zs.getD k 0 = z) : pickOf zs k = left z := by unfold pickOf; rw [if_pos h, hz]
theorem rset_stop {zs : List Int} {t : Rsk} {L : Nat} (hL : zs.length ≤ L ∨ t.cache.length ≤ L) : ∀ j, rset zs t (L + j) = rset zs t L
  | 0 => rfl
  | j + 1 => by
    rw [← rset_stop hL j, show L + (j + 1) = (L + j) + 1 by omega]
    rcases hL with h | h
    · exact rset_none (by unfold pickOf; rw [if_neg (by omega)])
    · simp only [rset]
      rw [List.getElem?_eq_none (by omega)]
def rcrashed (t : Rsk) (zs : List Int) : Rsk := if t.dead then t else { rset zs t t.cache.length with cache := [], lose := false, astray := none }
theorem rcrash_end {w wr : World} {D q k L N : Nat} {S : Nat → Prop} {t : Rsk} {zs : List Int} {vm vc vb vs va : Value} (h : RkAt w D q S t) (hq : q < w.heap.size) (_ : Room t) (hch : Chg (fun k => k = D) w wr) (hin : RkIn wr D q vm vc vb vs va (Ext S w wr) (rset zs t k)) (hkL : k = L) (hL : zs.length ≤ L ∨ t.cache.length ≤ L) (hN : t.cache.length = N) (hLN : L ≤ N) :
    (Ending.returned (.tuple #[])) = .returned (.tuple #[]) ∧ RkAt (((wr.setCell ⟨D, 3, none⟩ (.slice none 0 0)).setCell ⟨D, 7, none⟩ (.bool false)).setCell ⟨D, 8, none⟩ (.slice none 0 0)) D q (Ext S w (((wr.setCell ⟨D, 3, none⟩ (.slice none 0 0)).setCell ⟨D, 7, none⟩ (.bool false)).setCell ⟨D, 8, none⟩ (.slice none 0 0))) { rset zs t t.cache.length with cache := [], lose := false, astray := none } ∧ Chg (fun k => k = D) w (((wr.setCell ⟨D, 3, none⟩ (.slice none 0 0)).setCell ⟨D, 7, none⟩ (.bool false)).setCell ⟨D, 8, none⟩ (.slice none 0 0)) := by
  have e : rset zs t t.cache.length = rset zs t k := by
    rw [hkL, ← rset_stop hL (t.cache.length - L)]
    congr 1
    omega
  rw [e]
  obtain ⟨k1, m1⟩ := hin.put0 (j := 3) (u := .slice none 0 0) (vm' := vm) (vc' := .slice none 0 0) (vb' := vb) (vs' := vs) (va' := va) (t' := { rset zs t k with cache := [] }) rfl rfl (.inl ⟨rfl, rfl⟩) (.inr ⟨rfl, rfl⟩) ⟨rfl, rfl⟩ ⟨rfl, rfl⟩ (.inl ⟨rfl, rfl⟩)
  obtain ⟨k2, m2⟩ := k1.put0 (j := 7) (u := .bool false) (vm' := vm) (vc' := .slice none 0 0) (vb' := vb) (vs' := vs) (va' := va) (t' := { rset zs t k with cache := [], lose := false }) rfl rfl (.inl ⟨rfl, rfl⟩) (.inl ⟨rfl, rfl⟩) ⟨rfl, rfl⟩ ⟨rfl, rfl⟩ (.inl ⟨rfl, rfl⟩)
  obtain ⟨k3, m3⟩ := k2.put0 (j := 8) (u := .slice none 0 0) (vm' := vm) (vc' := .slice none 0 0) (vb' := vb) (vs' := vs) (va' := .slice none 0 0) (t' := { rset zs t k with cache := [], lose := false, astray := none }) rfl rfl (.inl ⟨rfl, rfl⟩) (.inl ⟨rfl, rfl⟩) ⟨rfl, rfl⟩ ⟨rfl, rfl⟩ (.inr ⟨rfl, rfl⟩)
  have hk3 : RkAt _ D q _ _ := ⟨_, _, _, _, _, k3⟩
  exact ⟨rfl, hk3.ext4 hch.size (Nat.le_refl _) (Nat.le_trans m1.size (Nat.le_trans m2.size m3.size)) hq, ((hch.trans' m1).trans' m2).trans' m3⟩
set_option maxRecDepth 100000 in
set_option maxHeartbeats 4000000 in
theorem rcrash_any (D q : Nat) (S : Nat → Prop) (t : Rsk) (zs : List Int) (sp : Option Addr) (capz : Nat) (w : World) (h : RkAt w D q S t) (hq : q < w.heap.size) (hr : Room t) (hz : SrcI w sp zs) (hcz : zs.length ≤ capz) (_ : capz ≤ maxLen) (hsp : 0 < zs.length → ∀ a, sp = some a → ¬ S a.block) :
    Calls Tryz.prog 53 #[.pointer (some ⟨D, 0, none⟩), .slice sp zs.length capz] w fun e w' => e = .returned (.tuple #[]) ∧ RkAt w' D q (Ext S w w') (rcrashed t zs) ∧ Chg (fun k => k = D) w w' := by
  have HK := Lib.hid h
  have HR := Lib.hid hr
  have HZS := Lib.hid hz
  have HSP := Lib.hid hsp
  obtain ⟨vm, vc, vb, vs, va, h⟩ := h
  obtain ⟨-, -, -, -, -, -, c6, -, -⟩ := h.c
  have H := Lib.hid h
  clear h hr hz hsp
  unfold rcrashed
  by_cases hd : t.dead = true
  · rw [hd] at c6
    rw [if_pos hd]
    go_enter Tryz.func53, Tryz.ntmps53
    go_wp2_with fail
    refine bodyPost_ret (results_none rfl _ _ _) rfl ?_
    exact ⟨rfl, HK.out.ext hq, Chg.refl _ _⟩
  · have hd' : t.dead = false := by simpa using hd
    rw [if_neg hd]
    rw [hd'] at c6
    clear hd
    obtain ⟨N, hN⟩ : ∃ N, t.cache.length = N := ⟨_, rfl⟩
    have HN := Lib.hid hN
    have hlN : N < 1000000 := by have := HR.out.small.c; omega
    clear hN
    obtain ⟨M, hM⟩ : ∃ M, zs.length = M := ⟨_, rfl⟩
    have HM := Lib.hid hM
    rw [hM] at hcz ⊢
    clear hM
    obtain ⟨L, hLN, hLM, hL⟩ : ∃ L, L ≤ N ∧ L ≤ M ∧ (L = N ∨ L = M) := by
      by_cases h : N ≤ M
      · exact ⟨N, Nat.le_refl _, h, .inl rfl⟩
      · exact ⟨M, by omega, Nat.le_refl _, .inr rfl⟩
    have HL := Lib.hid hL
    clear hL
    go_enter Tryz.func53, Tryz.ntmps53
    go_wp2_with fail
    clear c6
    have HRel := Lib.hid (show Comes w D q S t (fun k => rset zs t k) L (.int .i64 0) w from ⟨0, Nat.zero_le _, rfl, by simpa [rset] using HK.out.ext hq, by simpa [rset] using Grows.refl HR.out.b, Chg.refl _ _⟩)
    go_loopw [4] (fun i wr => Comes w D q S t (fun k => rset zs t k) L i wr) (fun i _ => N - (intOf i).toNat)
    case atStart => exact HRel.out
    case round =>
      clear HRel
      obtain ⟨k, hk, rfl, hrk, hgr, hch⟩ := hrel
      simp only at hrk hgr
      have HRK := Lib.hid hrk
      have HGR := Lib.hid hgr
      have HCH := Lib.hid hch
      obtain ⟨vm', vc', vb', vs', va', hin⟩ := hrk
      have hwk := IntWalk.i64_in ((k : Int) + 1) (by omega)
      have hps := own_ps hin.oc
      rw [hgr.cache] at hps
      obtain ⟨spc, cap, rfl, hc1, hc2, hc3⟩ := hps
      rw [HN.out] at hc1 hc3
      have e3 : wr.cell? ⟨D, 3, none⟩ = some (.slice spc N cap) := by rw [← HN.out]; exact hin.c.2.2.2.1
      have hf3 := hin.blk.free 3
      have hf7 := hin.blk.free 7
      have hf8 := hin.blk.free 8
      have e7 := hin.c.2.2.2.2.2.2.2.1
      have e8 := hin.c.2.2.2.2.2.2.2.2
      have HIN := Lib.hid hin
      have hDb := hin.blk
      clear hin hgr hch
      by_cases hlt : k < N
      · by_cases hkz : k < M
        · obtain ⟨x, hx⟩ : ∃ x, t.cache[k]? = some x := ⟨_, List.getElem?_eq_getElem (by have := HN.out; omega)⟩
          obtain ⟨g, rfl, hg, hcl⟩ := hc3 (by omega)
          obtain ⟨d0, d1⟩ := hcl k x hx
          have HX := Lib.hid hx
          have HXM := Lib.hid (HR.out.c x (List.mem_of_getElem? hx))
          have hgD : ¬ g = D := HIN.out.oc.nd hDb g rfl
          obtain ⟨gz, oz, hspz, hgz0, hzc⟩ := HZS.out.2 (by have := HM.out; omega)
          subst hspz
          have hgzD : ¬ gz = D := fun e => HSP.out (by have := HM.out; omega) _ rfl (by subst e; exact H.out.sd)
          have hgz : gz < wr.heap.size := Nat.lt_of_lt_of_le hgz0 HCH.out.size
          obtain ⟨z, hz⟩ : ∃ z, zs.getD k 0 = z := ⟨_, rfl⟩
          have zc : wr.cell? ⟨gz, oz + k, none⟩ = some (.int .i64 z) := by rw [← hz]; exact (World.cell?_of_block (w := w) (HCH.out.block gz hgz0 hgzD)).trans (hzc k (by have := HM.out; omega))
          have HPZ := Lib.hid (pick_z (by have := HM.out; omega) hz)
          have hz2 : z ≤ 9223372036854775807 := HZS.out.1 z (by rw [← hz, List.getD_eq_getElem?_getD, List.getElem?_eq_getElem (by have := HM.out; omega)]; exact List.getElem_mem _)
          clear hcl hx hzc hgz0 hz hDb
          have hkL1 : k + 1 ≤ L := by have := HL.out; omega
          by_cases h1 : z = 1
          · subst h1
            have hp : pickOf zs k = ((512 : Nat) : Int) := HPZ.out
            have HPP := Lib.hid hp
            clear hp
            go_wp2_with fail
            refine (rcomes_any D q _ _ x.1 512 x.2 HXM.out.1 HXM.out.2 (Nat.le_refl _) HGR.out.b _ HRK.out (HR.out.grows HGR.out (by rw [HN.out]; omega)) (Nat.lt_of_lt_of_le hq HCH.out.size)).mono ?_
            rintro e w3 ⟨rfl, hr3, hch3⟩
            have HR3 := Lib.hid hr3
            have HC3 := Lib.hid hch3
            have zc3 : w3.cell? ⟨gz, oz + k, none⟩ = some (.int .i64 1) := (World.cell?_of_block (w := wr) (hch3.block gz hgz hgzD)).trans zc
            clear hr3 hch3 zc
            go_wp2_with fail
            go_roundw
            case rel => exact ⟨k + 1, hkL1, by go_num, by
                show RkAt _ D q _ (rset zs t (k + 1))
                rw [rset_some HX.out HPP.out]
                exact HR3.out.ext3 HCH.out.size hq, by
                show Grows t (rset zs t (k + 1)) (k + 1)
                rw [rset_some HX.out HPP.out]
                exact HGR.out.came _ HXM.out.2 (Nat.le_refl _), HCH.out.trans' HC3.out⟩
            case measure => simp [intOf]; omega
          · by_cases h2 : 1 < z
            · have hz1 : 1 < z := h2
              have hmod0 : 0 ≤ (z - 2) % 512 := by omega
              have hmod1 : (z - 2) % 512 < 512 := by omega
              have hn0 : (((z - 2) % 512).toNat : Int) = (z - 2) % 512 := by omega
              have hp : pickOf zs k = (((z - 2) % 512).toNat : Int) := by
                rw [HPZ.out, hn0]
                unfold left
                rw [if_neg (by omega), if_neg h1]
              have HPP := Lib.hid hp
              have HN0 := Lib.hid hn0
              have HM0 := Lib.hid hmod0
              have HM1 := Lib.hid hmod1
              clear hp hn0 hmod0 hmod1
              go_wp2_with fail
              refine gS (.take 0 (.take 1 (.take 2 (.take 3 (.take 5 (.take 8 (.take 9 (.take 10 (.take 11 (.take 12 (.take 13 (.step 4 (.take 6 (.take 7 (.step 14 (.nil)))))))))))))))) (fun X => X.cell? ⟨gz, oz + k, none⟩ = some (.int .i64 z) ∧ X.cell? ⟨g, k * 2, none⟩ = some (.int .u16 (x.1 : Int)) ∧ X.cell? ⟨g, k * 2 + 1, none⟩ = some (.string (bstr x.2))) ⟨zc, d0, d1⟩ ?_
              refine wpG_take _ (.pointer (some ⟨D, 0, none⟩)) rfl (by rfl) (fun X hX => by rfl) ?_; try simp only [pS]
              refine wpG_take _ (.pointer (some ⟨D, 0, none⟩)) rfl (by rfl) (fun X hX => by rfl) ?_; try simp only [pS]
              refine wpG_take _ (.pointer (some ⟨D, 0, none⟩)) rfl (by rfl) (fun X hX => ex_nc rfl rfl) ?_; try simp only [pS]
              refine wpG_take _ (.pointer (some ⟨D, 3, none⟩)) rfl (by rfl) (fun X hX => ex_fa40 (by omega) rfl rfl) ?_; try simp only [pS]
              refine wpG_take _ (.int .i64 (k : Int)) rfl (by rfl) (fun X hX => by rfl) ?_; try simp only [pS]
              refine wpG_take _ (.slice (some ⟨gz, oz, none⟩) M capz) rfl (by rfl) (fun X hX => by rfl) ?_; try simp only [pS]
              refine wpG_take _ (.int .i64 (k : Int)) rfl (by rfl) (fun X hX => by rfl) ?_; try simp only [pS]
              refine wpG_take _ (.pointer (some ⟨gz, oz + k, none⟩)) rfl (by rfl) (fun X hX => ex_ia43 rfl rfl rfl hkz hcz) ?_; try simp only [pS]
              refine wpG_take _ (.int .i64 z) rfl (by rfl) (fun X hX => ex_ld3 rfl rfl hX.1) ?_; try simp only [pS]
              refine wpG_take _ (.int .i64 (z - 2)) rfl (by rfl) (fun X hX => ex_sub3 rfl rfl rfl hz1 hz2) ?_; try simp only [pS]
              refine wpG_take _ (.int .i64 ((z - 2) % 512)) rfl (by rfl) (fun X hX => ex_rem3 rfl rfl rfl hz1 hz2) ?_; try simp only [pS]
              refine d_wpG_mk _ rfl (by rfl) (.slice (some ⟨g, 0, none⟩) N cap) wr.drew (ex_ld37 rfl rfl e3) (fun X => X.cell? ⟨gz, oz + k, none⟩ = some (.int .i64 z) ∧ X.cell? ⟨g, k * 2, none⟩ = some (.int .u16 (x.1 : Int)) ∧ X.cell? ⟨g, k * 2 + 1, none⟩ = some (.string (bstr x.2))) ⟨zc, d0, d1⟩ (fun _ h => h) ?_; try simp only [pS]
              refine wpG_take _ (.pointer (some ⟨g, k * 2, none⟩)) rfl (by rfl) (fun X hX => ex_ia37 rfl rfl rfl hlt hc1) ?_; try simp only [pS]
              refine wpG_take _ (.agg (d_pcells x).toArray) rfl (by rfl) (fun X hX => ex_ld92 rfl rfl hX.2.1 hX.2.2) ?_; try simp only [pS]
              refine wpG_call _ rfl (by rfl) 91 #[.pointer (some ⟨D, 0, none⟩), .agg (d_pcells x).toArray, .int .i64 ((z - 2) % 512)] (fun _ => by go_simp) (fun u w' => u = .tuple #[] ∧ RkAt w' D q (Ext (Ext S w wr) wr w') (rcame (rset zs t k) x.1 x.2 ((z - 2) % 512).toNat) ∧ Chg (fun k => k = D) wr w') (by
                have hn0 := HN0.out
                rw [← hn0]
                refine (rcomes_any D q _ _ x.1 ((z - 2) % 512).toNat x.2 HXM.out.1 HXM.out.2 (by have := HM1.out; omega) HGR.out.b wr.drew (HRK.out.chg (F := fun _ => False) ((Chg.refl _ wr).drew) (fun _ _ h => h)) (HR.out.grows HGR.out (by rw [HN.out]; omega)) (Nat.lt_of_lt_of_le hq HCH.out.size)).mono ?_
                rintro e w' ⟨h1, h2, h3⟩
                have h3' : Chg (fun k => k = D) wr w' := ((Chg.refl _ wr).drew).trans' h3
                exact ⟨_, h1, ⟨(World.cell?_of_block (w := wr) (h3'.block gz hgz hgzD)).trans zc, (World.cell?_of_block (w := wr) (h3'.block g hg hgD)).trans d0, (World.cell?_of_block (w := wr) (h3'.block g hg hgD)).trans d1⟩, rfl, h2, h3'⟩) ?_
              rintro u w3 - ⟨rfl, hr3, hch3⟩
              refine ⟨_, fun _ h => h, ?_, ?_⟩
              · exact ⟨(World.cell?_of_block (w := wr) (hch3.block gz hgz hgzD)).trans zc, (World.cell?_of_block (w := wr) (hch3.block g hg hgD)).trans d0, (World.cell?_of_block (w := wr) (hch3.block g hg hgD)).trans d1⟩; try simp only [pS]
              refine wpG_nil ?_
              have HR3 := Lib.hid hr3
              have HC3 := Lib.hid hch3
              clear hr3 hch3 zc
              go_wp2_with fail
              go_roundw
              case rel => exact ⟨k + 1, hkL1, by go_num, by
                  show RkAt _ D q _ (rset zs t (k + 1))
                  rw [rset_some HX.out HPP.out]
                  exact HR3.out.ext3 HCH.out.size hq, by
                  show Grows t (rset zs t (k + 1)) (k + 1)
                  rw [rset_some HX.out HPP.out]
                  exact HGR.out.came _ HXM.out.2 (by have := HM1.out; have := HN0.out; omega), HCH.out.trans' HC3.out⟩
              case measure => simp [intOf]; omega
            · have hp : pickOf zs k = -1 := by
                rw [HPZ.out]
                unfold left
                rw [if_pos (by omega)]
              have HPP := Lib.hid hp
              clear hp
              go_wp2_with fail
              go_roundw
              case rel => exact ⟨k + 1, hkL1, by go_num, by
                  show RkAt _ D q _ (rset zs t (k + 1))
                  rw [rset_none HPP.out]
                  exact HRK.out, by
                  show Grows t (rset zs t (k + 1)) (k + 1)
                  rw [rset_none HPP.out]
                  exact HGR.out.skip, HCH.out⟩
              case measure => simp [intOf]; omega
        · have hkL : k = L := by have := HL.out; omega
          have HKL := Lib.hid hkL
          clear hc3 hDb hkL
          go_wp2_with fail
          go_end0
          exact rcrash_end HK.out hq HR.out HCH.out HIN.out HKL.out (by have := HL.out; have := HN.out; have := HM.out; omega) HN.out hLN
      · have hkL : k = L := by have := HL.out; omega
        have HKL := Lib.hid hkL
        clear hc3 hDb hkL
        go_wp2_with fail
        go_end0
        exact rcrash_end HK.out hq HR.out HCH.out HIN.out HKL.out (by have := HL.out; have := HN.out; have := HM.out; omega) HN.out hLN
end Go.Proofs.YtmgagalhpkieoaaGreatDoor
/- The document's disk: Fault. -/
namespace Go.Proofs.YtmgagalhpkieoaaGreatDoor
open Go.RowKit

theorem came_c {W Z : World} {D q : Nat} {vm vc vb vs va v : Value} {S : Nat → Prop} {t : Rsk} {l : List (Nat × d_Bs)} (h : RkIn W D q vm vc vb vs va S t) (hq : q < W.heap.size) (hz : Below W.heap.size W Z) (ho : OwnP Z W.heap.size v l) :
    (∃ sp n c, v = .slice sp n c) ∧ (∃ u, Z.cell? ⟨D, 3, none⟩ = some u) ∧ Z.frozen? ⟨D, 3, none⟩ = false ∧
      RkIn (Z.setCell ⟨D, 3, none⟩ v) D q vm v vb vs va (Ext S W (Z.setCell ⟨D, 3, none⟩ v)) { t with cache := l } ∧ Chg (fun k => k = D) W (Z.setCell ⟨D, 3, none⟩ v) := by
  have hc : Chg (fun _ => False) W Z := Chg.of_below hz
  have hbD : Blk Z D (rcells q vm vc vb vs va t) 49 := h.blk.chg hc id
  obtain ⟨h1, h2⟩ := h.put (j := 3) (u := v) (vm' := vm) (vc' := v) (vb' := vb) (vs' := vs) (va' := va) (t' := { t with cache := l }) hq hc id rfl h.nlt (owns_chg h.om hc (fun _ _ h => h)) (own0 ho) (owns_chg h.ob hc (fun _ _ h => h)) (owns_chg h.os hc (fun _ _ h => h)) (owns_chg h.oa hc (fun _ _ h => h))
    (fun g hg => .inl (h.sm g hg)) (own_new ho (Nat.le_refl _)) (fun g hg => .inl (h.sb g hg)) (fun g hg => .inl (h.ss g hg)) (fun g hg => .inl (h.sa g hg)) (own_lt h.om ho (Nat.le_refl _))
  exact ⟨own_slice3 ho, ⟨_, hbD.cell rfl⟩, hbD.free 3, h1, h2.mono (fun k hk => by rcases hk with hk | hk; exact hk.elim; exact hk)⟩
theorem came_s {W Z : World} {D q : Nat} {vm vc vb vs va v : Value} {S : Nat → Prop} {t : Rsk} {l : List Nat} (h : RkIn W D q vm vc vb vs va S t) (hq : q < W.heap.size) (hz : Below W.heap.size W Z) (ho : OwnN Z W.heap.size v l) :
    (∃ sp n c, v = .slice sp n c) ∧ (∃ u, Z.cell? ⟨D, 5, none⟩ = some u) ∧ Z.frozen? ⟨D, 5, none⟩ = false ∧
      RkIn (Z.setCell ⟨D, 5, none⟩ v) D q vm vc vb v va (Ext S W (Z.setCell ⟨D, 5, none⟩ v)) { t with stuck := l } ∧ Chg (fun k => k = D) W (Z.setCell ⟨D, 5, none⟩ v) := by
  have hc : Chg (fun _ => False) W Z := Chg.of_below hz
  have hbD : Blk Z D (rcells q vm vc vb vs va t) 49 := h.blk.chg hc id
  obtain ⟨h1, h2⟩ := h.put (j := 5) (u := v) (vm' := vm) (vc' := vc) (vb' := vb) (vs' := v) (va' := va) (t' := { t with stuck := l }) hq hc id rfl h.nlt (owns_chg h.om hc (fun _ _ h => h)) (owns_chg h.oc hc (fun _ _ h => h)) (owns_chg h.ob hc (fun _ _ h => h)) (own0 ho) (owns_chg h.oa hc (fun _ _ h => h))
    (fun g hg => .inl (h.sm g hg)) (fun g hg => .inl (h.sc g hg)) (fun g hg => .inl (h.sb g hg)) (own_new ho (Nat.le_refl _)) (fun g hg => .inl (h.sa g hg)) h.ap
  exact ⟨own_slice3 ho, ⟨_, hbD.cell rfl⟩, hbD.free 5, h1, h2.mono (fun k hk => by rcases hk with hk | hk; exact hk.elim; exact hk)⟩
theorem app_wo {W Z : World} {v : Value} {l : List Nat} {a : Nat} (hz : Below W.heap.size W Z) (ho : OwnN Z W.heap.size v (woN l a)) (hl : l.length < 1000000) (ty : TypeId) :
    ∃ v' w, (Builtin.append_ #[47, 47] ty #[v, .slice (some ⟨Z.heap.size, 0, none⟩) 1 1]).run Tryz.prog (Z.alloc (.cells #[.int .u16 (a : Int)] 52)) = .ok v' w ∧ OwnN w W.heap.size v' (woN l a ++ [a]) ∧ Below W.heap.size W w := by
  obtain ⟨v', w, hr, ho', hgr, _⟩ := ownN_app (ho.alloc (.cells #[.int .u16 (a : Int)] 52)) (by have := hz.size; simp; omega) (Nat.lt_of_le_of_lt (List.length_filter_le _ _) hl) a (adr := ⟨Z.heap.size, 0, none⟩) (c := 1) (cell_one_new Z _ 52) ty
  exact ⟨v', w, hr, ho', (hz.alloc hz.size _).grown hgr (by have := hz.size; simp; omega) (fun j hj => (ho.lt j hj).1)⟩
def rfault (t : Rsk) (k : Nat) (a : Nat) (b : d_Bs) : Int × Rsk :=
  if a < t.n then (if k = 0 ∧ b.length ≠ 512 then (1, t) else (0, match k with
    | 0 => { t with cache := others t.cache a, m := others t.m a ++ [(a, b)] }
    | 1 => { t with cache := others t.cache a, bad := woN t.bad a ++ [a] }
    | _ => { t with cache := others t.cache a, stuck := woN t.stuck a ++ [a] })) else (1, t)
def Rfaulted (D q : Nat) (S : Nat → Prop) (r : Int × Rsk) (w : World) (e : Ending) (w' : World) : Prop :=
  e = .returned (.int .i64 r.1) ∧ RkAt w' D q (Ext S w w') r.2 ∧ Chg (fun k => k = D) w w'
theorem fault_end {W W6 w : World} {D q : Nat} {S : Nat → Prop} {t : Rsk} (h : RkAt w D q (Ext (Ext S W W6) W6 w) t) (hab : Chg (fun k => k = D) W W6) (hbc : Chg (fun k => k = D) W6 w) (hq : q < W.heap.size) : Rfaulted D q S (0, t) W (.returned (.int .i64 0)) w :=
  ⟨rfl, h.ext3 hab.size hq, hab.trans' hbc⟩
set_option maxRecDepth 100000 in
set_option maxHeartbeats 4000000 in
theorem rfault_any (D q : Nat) (S : Nat → Prop) (t : Rsk) (k a : Nat) (b : d_Bs) (ha : a < 65536) (hk : k ≤ 2) (w : World) (h : RkAt w D q S t) (hq : q < w.heap.size) (hs : Small t) :
    Calls Tryz.prog 54 #[.pointer (some ⟨D, 0, none⟩), .int .i64 (k : Int), .int .u16 (a : Int), .string (bstr b)] w (Rfaulted D q S (rfault t k a b) w) := by
  have HK := Lib.hid h
  have HS := Lib.hid hs
  obtain ⟨vm, vc, vb, vs, va, h⟩ := h
  obtain ⟨c0, -, -, c3, -, -, -, -, -⟩ := h.c
  have hn := h.nlt
  have wa := IntWalk.i64_in (a : Int) (by omega)
  have H := Lib.hid h
  have hbs := bstr_size b
  clear h hs
  unfold rfault
  by_cases hlt : a < t.n
  · rw [if_pos hlt]
    have hge : ¬ ((t.n : Int) ≤ (a : Int)) := by omega
    clear hlt
    by_cases hb : k = 0 ∧ b.length ≠ 512
    · rw [if_pos hb]
      obtain ⟨rfl, hb⟩ := hb
      have hne : ¬ ((bstr b).size : Int) = 512 := by omega
      clear hb
      go_enter Tryz.func54, Tryz.ntmps54
      go_wp2_with fail
      go_ret
      exact ⟨rfl, HK.out.ext hq, Chg.refl _ _⟩
    · rw [if_neg hb]
      match k, hk with
      | 0, _ =>
        have hbl : b.length = 512 := by
          by_cases h : b.length = 512
          · exact h
          · exact absurd ⟨rfl, h⟩ hb
        rw [hbl] at hbs
        have hne : ((bstr b).size : Int) = 512 := by omega
        clear hb hbl hk
        go_enter Tryz.func54, Tryz.ntmps54
        go_wp2_with fail
        refine (rdrop_any t.cache vc a ha HS.out.c w (own_ps H.out.oc)).mono ?_
        rintro e w1 ⟨v1, rfl, ho1, hw1⟩
        obtain ⟨⟨sp1, n1, d1, rfl⟩, ⟨u1, hu1⟩, hf1, k1, m1⟩ := came_c H.out hq hw1 ho1
        have K1 := Lib.hid k1
        have M1 := Lib.hid m1
        have hq6 : q < (w1.setCell ⟨D, 3, none⟩ (.slice sp1 n1 d1)).heap.size := Nat.lt_of_lt_of_le hq m1.size
        obtain ⟨-, -, g2, -, g4, g5, -, -, -⟩ := k1.c
        clear c0 c3 k1 m1 ho1 hw1
        go_wp2_with fail
        generalize w1.setCell ⟨D, 3, none⟩ (.slice sp1 n1 d1) = W6 at K1 M1 hq6 g2 g4 g5 ⊢
        clear hu1 hf1
        refine (rdrop_any t.m vm a ha HS.out.m W6 (own_ps K1.out.om)).mono ?_
        rintro e w3 ⟨v3, rfl, ho3, hw3⟩
        obtain ⟨v9, w5, hr, ⟨sp9, n9, c9, rfl⟩, ⟨u9, hu9⟩, hf9, hb9, hrk, hch⟩ := came_m K1.out hq6 (hw3.alloc hw3.size (.cells (d_pcells (a, b)).toArray 173)) (ho3.alloc (.cells (d_pcells (a, b)).toArray 173)) b (c := 1) (Blk.new w3 (d_pcells (a, b)) 173) HS.out.m 46
        have HRR := Lib.hid hr
        have HF := Lib.hid (fault_end ⟨_, _, _, _, _, hrk⟩ M1.out hch hq)
        clear hr hrk hch hb9 ho3 hw3
        go_wp2_with (first | (at_builtin; refine wpL_ok rfl (ex_app37 rfl rfl rfl HRR.out) ?_) | fail)
        go_ret
        exact HF.out
      | 1, _ =>
        clear hb hk
        go_enter Tryz.func54, Tryz.ntmps54
        go_wp2_with fail
        refine (rdrop_any t.cache vc a ha HS.out.c w (own_ps H.out.oc)).mono ?_
        rintro e w1 ⟨v1, rfl, ho1, hw1⟩
        obtain ⟨⟨sp1, n1, d1, rfl⟩, ⟨u1, hu1⟩, hf1, k1, m1⟩ := came_c H.out hq hw1 ho1
        have K1 := Lib.hid k1
        have M1 := Lib.hid m1
        have hq6 : q < (w1.setCell ⟨D, 3, none⟩ (.slice sp1 n1 d1)).heap.size := Nat.lt_of_lt_of_le hq m1.size
        obtain ⟨-, -, g2, -, g4, g5, -, -, -⟩ := k1.c
        clear c0 c3 k1 m1 ho1 hw1
        go_wp2_with fail
        generalize w1.setCell ⟨D, 3, none⟩ (.slice sp1 n1 d1) = W6 at K1 M1 hq6 g2 g4 g5 ⊢
        clear hu1 hf1
        refine (rwithout_any t.bad vb a ha HS.out.b W6 (own_ns K1.out.ob)).mono ?_
        rintro e w3 ⟨v3, rfl, ho3, hw3⟩
        obtain ⟨v9, w5, hr, ho9, hb9⟩ := app_wo hw3 ho3 HS.out.b 47
        obtain ⟨⟨sp9, n9, c9, rfl⟩, ⟨u9, hu9⟩, hf9, hrk, hch⟩ := came_b K1.out hq6 hb9 ho9
        have HRR := Lib.hid hr
        have HF := Lib.hid (fault_end ⟨_, _, _, _, _, hrk⟩ M1.out hch hq)
        clear hr hrk hch hb9 ho3 hw3 ho9
        go_wp2_with (first | (at_builtin; refine wpL_ok rfl (ex_app38 rfl rfl rfl HRR.out) ?_) | fail)
        go_ret
        exact HF.out
      | 2, _ =>
        clear hb hk
        go_enter Tryz.func54, Tryz.ntmps54
        go_wp2_with fail
        refine (rdrop_any t.cache vc a ha HS.out.c w (own_ps H.out.oc)).mono ?_
        rintro e w1 ⟨v1, rfl, ho1, hw1⟩
        obtain ⟨⟨sp1, n1, d1, rfl⟩, ⟨u1, hu1⟩, hf1, k1, m1⟩ := came_c H.out hq hw1 ho1
        have K1 := Lib.hid k1
        have M1 := Lib.hid m1
        have hq6 : q < (w1.setCell ⟨D, 3, none⟩ (.slice sp1 n1 d1)).heap.size := Nat.lt_of_lt_of_le hq m1.size
        obtain ⟨-, -, g2, -, g4, g5, -, -, -⟩ := k1.c
        clear c0 c3 k1 m1 ho1 hw1
        go_wp2_with fail
        generalize w1.setCell ⟨D, 3, none⟩ (.slice sp1 n1 d1) = W6 at K1 M1 hq6 g2 g4 g5 ⊢
        clear hu1 hf1
        refine (rwithout_any t.stuck vs a ha HS.out.s W6 (own_ns K1.out.os)).mono ?_
        rintro e w3 ⟨v3, rfl, ho3, hw3⟩
        obtain ⟨v9, w5, hr, ho9, hb9⟩ := app_wo hw3 ho3 HS.out.s 47
        obtain ⟨⟨sp9, n9, c9, rfl⟩, ⟨u9, hu9⟩, hf9, hrk, hch⟩ := came_s K1.out hq6 hb9 ho9
        have HRR := Lib.hid hr
        have HF := Lib.hid (fault_end ⟨_, _, _, _, _, hrk⟩ M1.out hch hq)
        clear hr hrk hch hb9 ho3 hw3 ho9
        go_wp2_with (first | (at_builtin; refine wpL_ok rfl (ex_app38 rfl rfl rfl HRR.out) ?_) | fail)
        go_ret
        exact HF.out
  · rw [if_neg hlt]
    have hge : (t.n : Int) ≤ (a : Int) := by omega
    clear hlt
    go_enter Tryz.func54, Tryz.ntmps54
    go_wp2_with fail
    go_ret
    exact ⟨rfl, HK.out.ext hq, Chg.refl _ _⟩
end Go.Proofs.YtmgagalhpkieoaaGreatDoor
