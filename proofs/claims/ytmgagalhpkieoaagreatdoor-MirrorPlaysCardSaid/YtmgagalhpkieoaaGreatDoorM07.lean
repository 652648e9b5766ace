/- ail, walked. -/
import Derived.Test.YtmgagalhpkieoaaGreatDoorM06
namespace Go.Proofs.YtmgagalhpkieoaaGreatDoor
open Go.RowKit

theorem drain_in (D Q : Nat) (S : Nat → Prop) (s : Dsk) (w : World) (h : DkAt w D Q S s) : Calls Tryz.prog 102 #[.pointer (some ⟨D, 0, none⟩)] w fun e w' => ∃ v L, e = .returned v ∧ L.map (fun x => (x.1, x.2.2)) = s.cache ∧ Taken w' v S L ∧ (∃ M sp to, DkIn w' D Q M (.slice sp 0 0) to S { s with cache := [] }) ∧ Chg S w w' := by
  obtain ⟨M, v, to, h⟩ := h
  obtain ⟨c0, c1, c2, c3, c4, c5, c6, c7⟩ := h.c
  have f3 := h.blk.free 3
  obtain ⟨sp, cap, rfl, hle, hm⟩ := h.cache.form
  have H := Lib.hid h
  obtain ⟨N, hN⟩ : ∃ N, s.cache.length = N := ⟨_, rfl⟩
  have HN := Lib.hid hN
  rw [hN] at c3 hle
  clear h c0 c1 c2 c4 c5 c6 c7 hN
  go_enter Tryz.func102, Tryz.ntmps102
  go_wp2
  go_ret
  have h := H.out
  rw [HN.out] at h
  obtain ⟨k1, k2, k3⟩ := h.keep (d_chg1 3 (.slice sp 0 0))
  obtain ⟨L, e1, e2, e3⟩ := k2
  exact ⟨_, L, rfl, e1, ⟨e2, e3⟩, ⟨M, sp, to, ⟨h.blk.set 3 _, k1, ⟨[], rfl, fun x hx => by simp at hx, .inl ⟨sp, rfl, rfl⟩⟩, h.sd, h.sm, h.sq, k3, h.tlt, h.teq, h.nlt⟩⟩, chgD h.sd 3 _⟩
set_option maxRecDepth 100000 in
set_option maxHeartbeats 4000000 in
theorem ail_any (D Q : Nat) (S : Nat → Prop) (s : Dsk) (ad n : Nat) (f : Nat) (caps : Array Value) (ft : Bk → Bk) (Kp : World → Prop) (W : World) (ha : ad < 65536) (h : DkAt W D Q S s) (hq : Q < W.heap.size) (hcn : s.cache.length < 1000000)
    (hft : ∀ k, k.b.length = 512 → (ft k).b.length = 512) (hcf : ∀ (args : Array Value) (w : World), (callFunc f args).run Tryz.prog w = .ok (.enter f args) w) (hKp : ∀ w', Below W.heap.size W w' → Kp w')
    (hcall : ∀ (B : Nat) (k : Bk) (w : World), n = 512 → Kp w → k.b.length = 512 → Blk w B (bcells k) 156 → Calls Tryz.prog f (#[.pointer (some ⟨B, 0, none⟩)] ++ caps) w fun e w' => e = .returned (.tuple #[]) ∧ Blk w' B (bcells (ft k)) 156 ∧ Chg (fun i => i = B) w w') :
    Calls Tryz.prog 75 #[.pointer (some ⟨D, 0, none⟩), .int .u16 (ad : Int), .int .i64 (n : Int), fval f caps] W fun e w' => e = .returned (.int .i64 (ailed s ad n ft).1) ∧ DkAt w' D Q (Ext S W w') (ailed s ad n ft).2 ∧ Chg S W w' := by
  have H := Lib.hid h
  have HCN := Lib.hid hcn
  have HFT := Lib.hid hft
  have HKP := Lib.hid hKp
  have HCALL := Lib.hid hcall
  obtain ⟨M, v, to, hin⟩ := h
  have c0 := hin.c.1
  have c2 := hin.c.2.2.1
  have hk : (s.mem ad).b.length = 512 := by obtain ⟨_, _, _, hh⟩ := hin.map; exact hh ad
  have HK := Lib.hid hk
  have HIN := Lib.hid hin
  clear hin hcn hft hKp hcall hk
  unfold ailed fval
  by_cases hn : ad < s.n
  · have hde : decide (ad < s.n) = true := by simpa using hn
    by_cases h5 : n = 512
    · rw [if_pos ⟨hn, h5⟩]
      subst h5
      clear hn
      go_enter Tryz.func75, Tryz.ntmps75
      go_wp2_with (first | (go_at_call 71; refine (d_has_any D Q S s ad ha _ H.out).mono ?_; rw [hde]; rintro e w' ⟨rfl, rfl⟩) | (at_lookup; refine wpL_look rfl _ _ rfl rfl rfl HIN.out.map ha ?_) | (refine wpL_alloc89 rfl rfl ?_; intro w1 hb1 hw1; have HB1 := Lib.hid hb1; have HW1 := Lib.hid hw1; clear hb1 hw1) | (refine wpL_store89 rfl _ _ rfl rfl rfl HK.out zeros_length HB1.out ?_; intro w2 hb2 hw2; have HB2 := Lib.hid hb2; have HW2 := Lib.hid (HW1.out.trans (hw2.below (B := W.heap.size) (fun k e => by omega) HW1.out.size)); clear hb2 hw2) | fail)
      refine (HCALL.out W.heap.size (s.mem ad) w2 trivial (HKP.out _ HW2.out) HK.out HB2.out).mono ?_
      rintro e w3 ⟨rfl, hb3, hw3⟩
      have hW3 : Below W.heap.size W w3 := HW2.out.trans (hw3.below (fun k e => by omega) HW2.out.size)
      have HB3 := Lib.hid hb3
      have HW3 := Lib.hid hW3
      clear hb3 hw3 hW3 HB2 HW2 HB1 HW1 HCALL HKP
      go_wp2_with fail
      have hd3 : Blk w3 D (dcells Q M v to s) 142 := HIN.out.blk.below HW3.out HIN.out.blk.lt
      have hm3 : MapAt w3 M s.mem := HIN.out.map.kept (HW3.out.block _ HIN.out.map.lt)
      obtain ⟨W4, hrun, hmap4, hgr⟩ := (MapAt.kept (w := w3) (w' := w3.drew) hm3 rfl).put ha (k := ft (s.mem ad)) (HFT.out _ HK.out)
      have hc4 : Chg (fun i => i = M) w3 W4 := (Chg.refl _ w3).drew.trans (grown_chg hgr) (fun i hi => .inl hi)
      have hnoM : ∀ (t : Nat) j cs, Blk w3 j cs t → ¬ j = M := fun t j cs hb e => by subst e; exact hm3.noBlk hb
      have hd4 := hd3.chg hc4 (hnoM _ _ _ hd3)
      have hb4 := HB3.out.chg hc4 (hnoM _ _ _ HB3.out)
      refine wp_region_sched (.take 0 (.take 1 (.take 2 (.take 3 (.take 4 (.take 5 (.step 6 (.nil)))))))) (by kernel_rfl) (by kernel_rfl) (fun d _ _ _ _ h => by cases d <;> exact h)
        (fun Y => Y.cell? ⟨D, 2, none⟩ = some (.map (some M)) ∧ Blk Y W.heap.size (bcells (ft (s.mem ad))) 156) ⟨hd3.cell rfl, HB3.out⟩ ?_
      refine wpG_take _ (.pointer (some ⟨D, 0, none⟩)) rfl (by rfl) (fun Y hY => by rfl) ?_; try simp only [pS]
      refine wpG_take _ (.pointer (some ⟨D, 0, none⟩)) rfl (by rfl) (fun Y hY => ex_nc rfl rfl) ?_; try simp only [pS]
      refine wpG_take _ (.pointer (some ⟨D, 2, none⟩)) rfl (by rfl) (fun Y hY => ex_fa (by omega) rfl rfl) ?_; try simp only [pS]
      refine wpG_take _ (.map (some M)) rfl (by rfl) (fun Y hY => ex_ld72 rfl rfl hY.1) ?_; try simp only [pS]
      refine wpG_take _ (.int .u16 (ad : Int)) rfl (by rfl) (fun Y hY => by rfl) ?_; try simp only [pS]
      refine wpG_take _ (BV (ft (s.mem ad))) rfl (by rfl) (fun Y hY => ex_load89 rfl rfl (HFT.out _ HK.out) hY.2) ?_; try simp only [pS]
      refine wpG_st _ rfl (by rfl) W4 (ex_put rfl rfl rfl rfl hrun) _ ⟨hd4.cell rfl, hb4⟩ ⟨hd4.cell rfl, hb4⟩ (fun _ h => h) ?_
      refine wpG_nil ?_
      have hin4 : DkIn W4 D Q M v to S { s with mem := Upd s.mem ad (ft (s.mem ad)) } := by
        have hca := (HIN.out.cache.chg (Chg.of_below (F := fun _ => False) HW3.out) (fun _ _ h => h)).turned hc4 (fun k cs e hb => hnoM _ _ _ hb e) (fun k cs e hb => hnoM 187 k cs.toList (by unfold Blk; simpa using hb) e)
        exact ⟨hd4, hmap4, hca, HIN.out.sd, HIN.out.sm, HIN.out.sq, fun k hk => Nat.lt_of_lt_of_le (HIN.out.lt k hk) (Nat.le_trans HW3.out.size hc4.size), HIN.out.tlt, HIN.out.teq, HIN.out.nlt⟩
      have hC4 : Chg S W W4 := (Chg.of_below HW3.out).trans hc4 (fun i e => .inl (by rw [e]; exact HIN.out.sm))
      have HIN4 := Lib.hid hin4
      have HC4 := Lib.hid hC4
      clear hin4 hC4 hd3 hm3 hc4 hd4 hb4 hnoM hrun hmap4 hgr
      go_wp2_with (first | (go_at_call 102; refine (drain_in D Q S _ _ ⟨M, v, to, HIN4.out⟩).mono ?_; rintro e w1 ⟨v, L, rfl, hL, hT, ⟨M, sp0, to, hd1⟩, hw1⟩; obtain ⟨sp, cap, hv, hcap⟩ := hT.form; subst hv; have HL := Lib.hid hL; have HT := Lib.hid hT; have HD1 := Lib.hid hd1; have HW1 := Lib.hid hw1; clear hL hT hd1 hw1) | fail)
      have hlen : L.length = s.cache.length := by have := HL.out; rw [← this, List.length_map]
      have hcnL : L.length < 1000000 := by rw [hlen]; exact HCN.out
      obtain ⟨N, hN⟩ : ∃ N, L.length = N := ⟨_, rfl⟩
      have HN := Lib.hid hN
      rw [hN] at hcnL hcap ⊢
      clear hlen hN
      obtain ⟨mem, hmem⟩ : ∃ mem, Upd s.mem ad (ft (s.mem ad)) = mem := ⟨_, rfl⟩
      have HMEM := Lib.hid hmem
      clear hmem
      have HR := Lib.hid (show AilRel w1 D Q M to S s ad mem (.slice sp N cap) L (.int .i64 0) w1 from ⟨0, Nat.zero_le _, rfl, .slice sp0 0 0, ⟨HD1.out.blk, by rw [← HMEM.out]; exact HD1.out.map, ⟨[], rfl, fun x hx => by simp at hx, .inl ⟨sp0, rfl, rfl⟩⟩, by rw [← HN.out]; exact HT.out, Chg.refl _ _⟩⟩)
      have hSlt : ∀ k, S k → k < w1.heap.size := HD1.out.lt
      have HSLT := Lib.hid hSlt
      clear hSlt HIN c0 c2 HB3 HW3 HFT HK H
      go_loopw [46] (fun i wr => AilRel w1 D Q M to S s ad mem (.slice sp N cap) L i wr) (fun i _ => N - (intOf i).toNat)
      case atStart => exact HR.out
      case round =>
        clear HR HT
        obtain ⟨k, hk, rfl, vc, hA⟩ := hrel
        by_cases hlt : k < N
        · have hkL : k < L.length := by have := HN.out; omega
          obtain ⟨x, hx⟩ : ∃ x, L[k]? = some x := ⟨_, List.getElem?_eq_getElem hkL⟩
          have hT2 : wr.ownsRow 0 187 2 (.slice sp N cap) L.length (crow L) ∧ ∃ g, (Value.slice sp N cap).ownBlock = some g ∧ S g := by
            rcases hA.taken.2 with ⟨_, _, h⟩ | h
            · subst h; simp at hkL
            · exact h
          obtain ⟨e4, g, e5, e6⟩ := hT2
          obtain ⟨rfl, d0, d1⟩ := row_at e4 e5 hx
          obtain ⟨hx1, hx2, hx3, hx4⟩ := hA.taken.1 x (List.mem_of_getElem? hx)
          have hcx : s.cache[k]? = some (x.1, x.2.2) := by have := HL.out; rw [← this, List.getElem?_map, hx]; rfl
          obtain ⟨a, gb, b⟩ := x
          simp only at d0 d1 hx1 hx2 hx3 hx4 hcx
          have htk : s.cache.take (k + 1) = s.cache.take k ++ [(a, b)] := by
            obtain ⟨h2, h3⟩ := List.getElem?_eq_some_iff.1 hcx
            rw [List.take_succ_eq_append_getElem h2, h3]
          have HTK := Lib.hid htk
          have HA := Lib.hid hA
          have HX2 := Lib.hid hx2
          have HX3 := Lib.hid hx3
          have HX4 := Lib.hid hx4
          have hlk : (others (s.cache.take k) ad).length < 1000000 := by
            have h1 := List.length_filter_le (fun x : Nat × d_Bs => x.1 != ad) (s.cache.take k)
            have h2 := HCN.out
            unfold others
            simp at h1
            omega
          have HLK := Lib.hid hlk
          clear hcx hA hx e4 e5 e6 hkL hx3 hx2 hx4 htk hlk
          have hwk := IntWalk.i64_in ((k : Int) + 1) (by omega)
          by_cases hxa : a = ad
          · have ht : ((a : Int) != (ad : Int)) = false := by simp [hxa]
            have HXA := Lib.hid hxa
            clear hxa
            go_wp2_with fail
            go_roundw
            case rel =>
              refine ⟨k + 1, by have := HN.out; omega, rfl, vc, ?_⟩
              rw [HTK.out, others_snoc, if_pos HXA.out]
              exact HA.out.step ((Below.refl _ _).alloc (Nat.le_refl _) _)
            case measure => simp [intOf]; omega
          · have ht : ((a : Int) != (ad : Int)) = true := by simp; omega
            have HXA := Lib.hid hxa
            clear hxa
            go_wp2_with fail
            have hrow : Blk (wr.alloc (.cells #[Value.int .u16 (a : Int), Value.slice (some ⟨gb, 0, none⟩) 512 512] 187)) wr.heap.size (wcells a gb) 187 := Blk.new wr (wcells a gb) 187
            have hAx := HA.out.step ((Below.refl wr.heap.size wr).alloc (Nat.le_refl _) (.cells #[Value.int .u16 (a : Int), Value.slice (some ⟨gb, 0, none⟩) 512 512] 187))
            have hbx : Blk (wr.alloc (.cells #[Value.int .u16 (a : Int), Value.slice (some ⟨gb, 0, none⟩) 512 512] 187)) gb (b.map V8) 5 := HX3.out.alloc _
            generalize (wr.alloc (.cells #[Value.int .u16 (a : Int), Value.slice (some ⟨gb, 0, none⟩) 512 512] 187)) = X at hrow hAx hbx ⊢
            obtain ⟨BX, hBX⟩ : ∃ BX, wr.heap.size = BX := ⟨_, rfl⟩
            rw [hBX] at hrow ⊢
            have HAX := Lib.hid hAx
            have HROW := Lib.hid hrow
            have HBX := Lib.hid hbx
            clear hrow hAx hbx hBX d0 d1
            have hF1 : ∀ o : Obj, AilAt w1 (X.drew.alloc o) D Q M to S s mem (.slice (some ⟨g, 0, none⟩) N cap) vc L (others (s.cache.take k) ad) := fun o => HAX.out.step ((Below.refl X.heap.size X).drew.alloc (Nat.le_refl _) o)
            have hld : ∀ Y : World, Y.heap = X.heap → Y.cell? ⟨D, 3, none⟩ = some vc := fun Y hY => Blk.cell (w := Y) (cs := dcells Q M vc to s) (t := 142) (by unfold Blk; rw [hY]; exact HAX.out.blk) rfl
            have hld2 : ∀ o : Obj, (X.drew.alloc o).cell? ⟨D, 3, none⟩ = some vc := fun o => Blk.cell (cs := dcells Q M vc to s) (t := 142) (Blk.alloc (w := X.drew) HAX.out.blk o) rfl
            refine gS (.take 0 (.take 1 (.take 2 (.take 3 (.fork 4 (.step 5 (.step 6 (.step 7 (.take 8 (.take 9 (.step 10 (.nil))))))) 5 (.fork 4 (.step 6 (.step 7 (.take 8 (.take 9 (.step 10 (.nil)))))) 6 (.step 4 (.step 7 (.take 8 (.take 9 (.step 10 (.nil)))))))))))) (fun _ => True) trivial ?_
            refine wpG_take _ (.pointer (some ⟨D, 0, none⟩)) rfl (by rfl) (fun Y hY => by rfl) ?_; try simp only [pS]
            refine wpG_take _ (.pointer (some ⟨D, 0, none⟩)) rfl (by rfl) (fun Y hY => by rfl) ?_; try simp only [pS]
            refine wpG_take _ (.pointer (some ⟨D, 0, none⟩)) rfl (by rfl) (fun Y hY => ex_nc rfl rfl) ?_; try simp only [pS]
            refine wpG_take _ (.pointer (some ⟨D, 3, none⟩)) rfl (by rfl) (fun Y hY => ex_fa (by omega) rfl rfl) ?_; try simp only [pS]
            refine wpG_fork (d_wpG_mk _ rfl (by rfl) vc X.drew (d_ex_ld rfl rfl (hld _ rfl)) (fun _ => True) trivial (fun _ h => h) ?_) (d_wpG_mk _ rfl (by rfl) (.agg (wcells a gb).toArray) X.drew (ex_ld100 rfl rfl HROW.out) (fun _ => True) trivial (fun _ h => h) ?_); try simp only [pS]
            refine d_wpG_mk _ rfl (by rfl) (.agg (wcells a gb).toArray) X.drew (ex_ld100 rfl rfl HROW.out) (fun _ => True) trivial (fun _ h => h) ?_; try simp only [pS]
            refine d_wpG_mk _ rfl (by rfl) (.slice (some ⟨X.heap.size, 0, none⟩) 1 1) (X.drew.alloc (.cells (wcells a gb).toArray 187)) (ex_one rfl rfl) (fun _ => True) trivial (fun _ h => h) ?_; try simp only [pS]
            rotate_left; try simp only [pS]
            refine wpG_fork (d_wpG_mk _ rfl (by rfl) vc X.drew (d_ex_ld rfl rfl (hld _ rfl)) (fun _ => True) trivial (fun _ h => h) ?_) (d_wpG_mk _ rfl (by rfl) (.slice (some ⟨X.heap.size, 0, none⟩) 1 1) (X.drew.alloc (.cells (wcells a gb).toArray 187)) (ex_one rfl rfl) (fun _ => True) trivial (fun _ h => h) ?_); try simp only [pS]
            refine d_wpG_mk _ rfl (by rfl) (.slice (some ⟨X.heap.size, 0, none⟩) 1 1) (X.drew.alloc (.cells (wcells a gb).toArray 187)) (ex_one rfl rfl) (fun _ => True) trivial (fun _ h => h) ?_; try simp only [pS]
            rotate_left; try simp only [pS]
            refine d_wpG_mk _ rfl (by rfl) vc (X.drew.alloc (.cells (wcells a gb).toArray 187)) (d_ex_ld rfl rfl (hld2 _)) (fun _ => True) trivial (fun _ h => h) ?_; try simp only [pS]
            all_goals
              have hA5 := hF1 (.cells (wcells a gb).toArray 187)
              have hb5 : Blk (X.drew.alloc (.cells (wcells a gb).toArray 187)) gb (b.map V8) 5 := Blk.alloc (w := X.drew) HBX.out _
              obtain ⟨v', w5, hr, hcc5, hc5⟩ := app_cacheR hA5.cache hx1 HX2.out hb5 HX4.out (cells_two X.drew a gb) HLK.out 140
              have hcin : CacheIn w5 S (Since w1.heap.size w5) v' (others (s.cache.take k) ad ++ [(a, b)]) := hcc5 _ (fun j hj => ⟨hj.1, Nat.lt_of_lt_of_le hj.2 hc5.size⟩) (fun hlt5 => ⟨hA5.chg.size, hlt5⟩)
              have hA6 := hA5.put HSLT.out hc5 hcin
              refine d_wpG_mk _ rfl (by rfl) v' w5 (ex_app rfl rfl rfl hr) (fun _ => True) trivial (fun _ h => h) ?_; try simp only [pS]
              refine wpG_take _ (.pointer (some ⟨D, 0, none⟩)) rfl (by rfl) (fun Y hY => ex_nc rfl rfl) ?_; try simp only [pS]
              refine wpG_take _ (.pointer (some ⟨D, 3, none⟩)) rfl (by rfl) (fun Y hY => ex_fa (by omega) rfl rfl) ?_; try simp only [pS]
              obtain ⟨sp', cap', hv', _, _⟩ := hcin.form
              have hbD : Blk w5 D (dcells Q M vc to s) 142 := hA5.blk.chg hc5 (fun ⟨_, cs, hbb⟩ => absurd (hbb.same hA5.blk) (by decide))
              refine wpG_st _ rfl (by rfl) (w5.setCell ⟨D, 3, none⟩ v') (by rw [hv']; exact ex_st rfl rfl rfl (hbD.cell rfl) (hbD.free 3)) (fun _ => True) trivial trivial (fun _ h => h) ?_
              refine wpG_nil ?_
              have HA6 := Lib.hid hA6
              clear hA6 hcin hcc5 hc5 hr hA5 hb5 hbD hv' hF1 hld hld2
              go_wp2_with fail
              go_roundw
              case rel =>
                refine ⟨k + 1, by have := HN.out; omega, rfl, v', ?_⟩
                rw [HTK.out, others_snoc, if_neg HXA.out]
                exact HA6.out
              case measure => simp [intOf]; omega
        · obtain rfl : k = N := by have := HN.out; omega
          have HA := Lib.hid hA
          clear hA hlt hk
          go_wp2_with fail
          go_ret
          have hlen : L.length = s.cache.length := by have := HL.out; rw [← this, List.length_map]
          have hA := HA.out
          rw [show k = s.cache.length from HN.out.symm.trans hlen, List.take_length] at hA
          have hs1 := HD1.out
          have hCall : Chg S W wr := ((HC4.out.trans' HW1.out).trans hA.chg (fun i e => .inl (by rw [e]; exact hs1.sd)))
          refine ⟨rfl, ⟨M, vc, to, ⟨hA.blk, ?_, hA.cache.at (fun _ h => .inl h) (fun j hj => .inr ⟨Nat.le_trans (Nat.le_trans HC4.out.size HW1.out.size) hj.1, hj.2⟩), .inl hs1.sd, .inl hs1.sm, ?_, ?_, hs1.tlt, hs1.teq, hs1.nlt⟩⟩, hCall⟩
          · rw [HMEM.out]
            exact hA.map
          · rintro (hh | hh)
            · exact hs1.sq hh
            · omega
          · rintro j (hj | hj)
            · exact Nat.lt_of_lt_of_le (hs1.lt j hj) hA.chg.size
            · exact hj.2
    · rw [if_neg (fun hh => h5 hh.2)]
      have hne : ((n : Int) == 512) = false := by simp; omega
      clear hn
      go_enter Tryz.func75, Tryz.ntmps75
      go_wp2_with (first | (go_at_call 71; refine (d_has_any D Q S s ad ha _ H.out).mono ?_; rw [hde]; rintro e w' ⟨rfl, rfl⟩) | fail)
      go_ret
      exact ⟨rfl, H.out.ext hq, Chg.refl _ _⟩
  · rw [if_neg (fun hh => hn hh.1)]
    have hde : decide (ad < s.n) = false := by simpa using hn
    clear hn
    go_enter Tryz.func75, Tryz.ntmps75
    go_wp2_with (first | (go_at_call 71; refine (d_has_any D Q S s ad ha _ H.out).mono ?_; rw [hde]; rintro e w' ⟨rfl, rfl⟩) | fail)
    go_ret
    exact ⟨rfl, H.out.ext hq, Chg.refl _ _⟩
end Go.Proofs.YtmgagalhpkieoaaGreatDoor
/- Rot, Bad, Stick; a disk made. -/
namespace Go.Proofs.YtmgagalhpkieoaaGreatDoor
open Go.RowKit

section
variable {ops : Array Oper} {Q : Exit → Act → World → Prop} {S : World → Prop}
theorem wpG_copyA {i : Nat} {r : Tr} {a : Act} {w : World} (o : Oper) (hi : ops.toList[i]? = some o) (hw : Region.wanted o (yielded ops a.tmps) = true) (d s : Operand)
    (ho : o.op = .call { callee := .builtin .copy, args := #[d, s], argTypes := #[59, 59] }) {g cap : Nat} {sp : Option Addr} {k : Bk} {b : d_Bs} (hd : a.eval d = .slice (some ⟨g, 0, none⟩) 512 512) (hs : a.eval s = .slice sp 512 cap)
    (hk : k.b.length = 512) (hb : b.length = 512) (hg : Blk w g (bcells k) 156) (hsrc : SrcA w sp b)
    (h : ∀ w', Blk w' g (bcells (over k b 512)) 156 → Chg (fun i => i = g) w w' → S w' ∧ wpG Tryz.prog ops Q r S (a.put o.dst (goInt (b.map V8).length)) w') : wpG Tryz.prog ops Q (.step i r) S a w := by
  refine wpG_bare o hi hw fun K hK => ?_
  obtain ⟨gb, ob, rfl, _, hcl⟩ := hsrc (by omega)
  refine wpList_copy_own rfl d s 59 59 ho 5 Tryz.underlying59 sizeB g 0 512 512 ⟨gb, ob, none⟩ 512 cap hd hs (bcells k).toArray 156 hg (b.map V8) (by simp [hb]) (src_cell hcl) (by simp [bcells_length hk, hb]) (one_v8 _) ?_
  have e : splice (bcells k) 0 (b.map V8) = bcells (over k b 512) := by
    have := splice_over hk hb (Nat.le_refl 512)
    rw [List.take_of_length_le (by omega)] at this
    exact this
  have hx := h (w.setRow g (splice (bcells k) 0 (b.map V8)).toArray) (by rw [← e]; exact hg.row _) ((Chg.refl (fun i => i = g) _).setRow (.inl rfl) _)
  exact wpG_list_nil (hK _ _ S (fun _ h => h) hx.1 hx.2)
end
def rotK (b : d_Bs) (k : Bk) : Bk := if b.length = 512 then ⟨b, k.bad, k.stuck⟩ else k
theorem rotK_over {b : d_Bs} {k : Bk} (hb : b.length = 512) (hk : k.b.length = 512) : over k b 512 = rotK b k := by
  unfold over rotK
  rw [if_pos hb, List.take_of_length_le (by omega), List.drop_of_length_le (by omega), List.append_nil]
theorem rotf_any (B X cap : Nat) (sp : Option Addr) (b : d_Bs) (k : Bk) (w : World) (hb : b.length = 512) (hk : k.b.length = 512) (hB : Blk w B (bcells k) 156) (hS : SrcA w sp b) (hX : w.cell? ⟨X, 0, none⟩ = some (.slice sp 512 cap)) :
    Calls Tryz.prog 76 #[.pointer (some ⟨B, 0, none⟩), .pointer (some ⟨X, 0, none⟩)] w fun e w' => e = .returned (.tuple #[]) ∧ Blk w' B (bcells (rotK b k)) 156 ∧ Chg (fun i => i = B) w w' := by
  have HB := Lib.hid hB
  have HS := Lib.hid hS
  have HX := Lib.hid hX
  clear hB hS hX
  go_enter Tryz.func76, Tryz.ntmps76
  refine gS (.take 0 (.take 1 (.take 2 (.take 3 (.step 4 (.step 5 (.nil))))))) (fun _ => True) trivial ?_
  refine wpG_take _ (.pointer (some ⟨B, 0, none⟩)) rfl (by rfl) (fun Y hY => by rfl) ?_; try simp only [pS]
  refine wpG_take _ (.pointer (some ⟨B, 0, none⟩)) rfl (by rfl) (fun Y hY => ex_nc rfl rfl) ?_; try simp only [pS]
  refine wpG_take _ (.pointer (some ⟨B, 0, none⟩)) rfl (by rfl) (fun Y hY => ex_fa89 rfl rfl) ?_; try simp only [pS]
  refine wpG_take _ (.slice (some ⟨B, 0, none⟩) 512 512) rfl (by rfl) (fun Y hY => ex_sl87 rfl rfl) ?_; try simp only [pS]
  refine d_wpG_mk _ rfl (by rfl) (.slice sp 512 cap) w.drew (ex_ld42 rfl rfl HX.out) (fun _ => True) trivial (fun _ h => h) ?_; try simp only [pS]
  refine wpG_copyA _ rfl (by rfl) (.tmp 6) (.tmp 7) rfl rfl rfl hk hb (Blk.drew HB.out) (SrcA.drew HS.out) ?_
  intro w' h1 h2
  refine ⟨trivial, ?_⟩; try simp only [pS]
  refine wpG_nil ?_
  have HB' := Lib.hid h1
  have HC' := Lib.hid h2
  clear h1 h2
  go_wp2_with fail
  go_end0
  refine ⟨rfl, ?_, (Chg.refl _ w).drew.trans' HC'.out⟩
  rw [← rotK_over hb hk]
  exact HB'.out
theorem bcells_bad (k : Bk) (h : k.b.length = 512) (x : Bool) : (bcells k).set 512 (.bool x) = bcells { k with bad := x } := by
  unfold bcells
  rw [List.set_append_right _ _ (by simp [h])]
  simp [h]
theorem bcells_stuck (k : Bk) (h : k.b.length = 512) (x : Bool) : (bcells k).set 513 (.bool x) = bcells { k with stuck := x } := by
  unfold bcells
  rw [List.set_append_right _ _ (by simp [h])]
  simp [h]
theorem badf_any (B : Nat) (k : Bk) (w : World) (hk : k.b.length = 512) (hB : Blk w B (bcells k) 156) :
    Calls Tryz.prog 94 #[.pointer (some ⟨B, 0, none⟩)] w fun e w' => e = .returned (.tuple #[]) ∧ Blk w' B (bcells { k with bad := true }) 156 ∧ Chg (fun i => i = B) w w' := by
  have HB := Lib.hid hB
  have c := hB.bad hk
  have f := hB.free 512
  clear hB
  go_enter Tryz.func94, Tryz.ntmps94
  go_wp2_with fail
  go_end0
  exact ⟨rfl, by rw [← bcells_bad _ hk]; exact HB.out.set 512 _, d_chg1 512 _⟩
theorem stickf_any (B : Nat) (k : Bk) (w : World) (hk : k.b.length = 512) (hB : Blk w B (bcells k) 156) :
    Calls Tryz.prog 77 #[.pointer (some ⟨B, 0, none⟩)] w fun e w' => e = .returned (.tuple #[]) ∧ Blk w' B (bcells { k with stuck := true }) 156 ∧ Chg (fun i => i = B) w w' := by
  have HB := Lib.hid hB
  have c := hB.stuck hk
  have f := hB.free 513
  clear hB
  go_enter Tryz.func77, Tryz.ntmps77
  go_wp2_with fail
  go_end0
  exact ⟨rfl, by rw [← bcells_stuck _ hk]; exact HB.out.set 513 _, d_chg1 513 _⟩
theorem cf52 (args : Array Value) (w : World) : (callFunc 76 args).run Tryz.prog w = .ok (.enter 76 args) w := by go_simp
theorem cf53 (args : Array Value) (w : World) : (callFunc 94 args).run Tryz.prog w = .ok (.enter 94 args) w := by go_simp
theorem cf54 (args : Array Value) (w : World) : (callFunc 77 args).run Tryz.prog w = .ok (.enter 77 args) w := by go_simp
def Hurt (D Q : Nat) (S : Nat → Prop) (r : Int × Dsk) (w : World) (e : Ending) (w' : World) : Prop :=
  e = .returned (.int .i64 r.1) ∧ DkAt w' D Q (Ext S w w') r.2 ∧ Chg S w w'
set_option maxRecDepth 100000 in
theorem d_bad_any (D Q : Nat) (S : Nat → Prop) (s : Dsk) (ad : Nat) (w : World) (ha : ad < 65536) (h : DkAt w D Q S s) (hq : Q < w.heap.size) (hcn : s.cache.length < 1000000) :
    Calls Tryz.prog 55 #[.pointer (some ⟨D, 0, none⟩), .int .u16 (ad : Int)] w (Hurt D Q S (ailed s ad 512 (fun k => { k with bad := true })) w) := by
  have H := Lib.hid h
  have HCN := Lib.hid hcn
  clear h hcn
  go_enter Tryz.func55, Tryz.ntmps55
  go_wp2_with (first | (go_at_call 75; refine (ail_any D Q S s ad 512 94 #[] (fun k => { k with bad := true }) (fun _ => True) _ ha H.out hq HCN.out (fun _ h => h) cf53 (fun _ _ => trivial) (fun B k w _ _ hk hB => badf_any B k w hk hB)).mono ?_; rintro e w1 ⟨rfl, hd, hc⟩; have HD := Lib.hid hd; have HC := Lib.hid hc; clear hd hc) | fail)
  go_ret
  exact ⟨rfl, HD.out, HC.out⟩
set_option maxRecDepth 100000 in
theorem stick_any (D Q : Nat) (S : Nat → Prop) (s : Dsk) (ad : Nat) (w : World) (ha : ad < 65536) (h : DkAt w D Q S s) (hq : Q < w.heap.size) (hcn : s.cache.length < 1000000) :
    Calls Tryz.prog 33 #[.pointer (some ⟨D, 0, none⟩), .int .u16 (ad : Int)] w (Hurt D Q S (ailed s ad 512 (fun k => { k with stuck := true })) w) := by
  have H := Lib.hid h
  have HCN := Lib.hid hcn
  clear h hcn
  go_enter Tryz.func33, Tryz.ntmps33
  go_wp2_with (first | (go_at_call 75; refine (ail_any D Q S s ad 512 77 #[] (fun k => { k with stuck := true }) (fun _ => True) _ ha H.out hq HCN.out (fun _ h => h) cf54 (fun _ _ => trivial) (fun B k w _ _ hk hB => stickf_any B k w hk hB)).mono ?_; rintro e w1 ⟨rfl, hd, hc⟩; have HD := Lib.hid hd; have HC := Lib.hid hc; clear hd hc) | fail)
  go_ret
  exact ⟨rfl, HD.out, HC.out⟩
set_option maxRecDepth 100000 in
set_option maxHeartbeats 1000000 in
theorem rot_any (D Q : Nat) (S : Nat → Prop) (s : Dsk) (ad : Nat) (b : d_Bs) (sp : Option Addr) (n cap : Nat) (w : World) (ha : ad < 65536) (hbn : b.length = n) (hS : SrcA w sp b) (h : DkAt w D Q S s) (hq : Q < w.heap.size) (hcn : s.cache.length < 1000000) :
    Calls Tryz.prog 31 #[.pointer (some ⟨D, 0, none⟩), .int .u16 (ad : Int), .slice sp n cap] w (Hurt D Q S (ailed s ad n (rotK b)) w) := by
  have hc1 : Chg (fun _ => False) w (w.alloc (.cells #[.slice sp n cap] 59)) := Chg.of_below ((Below.refl _ _).alloc (Nat.le_refl _) _)
  have H1 := Lib.hid (h.chg hc1 (fun _ _ h => h))
  have HX := Lib.hid (show (w.alloc (.cells #[.slice sp n cap] 59)).cell? ⟨w.heap.size, 0, none⟩ = some (.slice sp n cap) from (Blk.new w [.slice sp n cap] 59).cell rfl)
  have HS1 : Hid (SrcA (w.alloc (.cells #[.slice sp n cap] 59)) sp b) := Lib.hid (hS.grown ((Below.refl _ _).alloc (Nat.le_refl _) _))
  have HC1 := Lib.hid hc1
  have HBN := Lib.hid hbn
  have HCN := Lib.hid hcn
  have HNQ := Lib.hid h.nq
  have hq1 : Q < (w.alloc (.cells #[.slice sp n cap] 59)).heap.size := by simp; omega
  have HQ1 := Lib.hid hq1
  have HKP : Hid (∀ w', Below (w.alloc (.cells #[.slice sp n cap] 59)).heap.size (w.alloc (.cells #[.slice sp n cap] 59)) w' → SrcA w' sp b ∧ w'.cell? ⟨w.heap.size, 0, none⟩ = some (.slice sp n cap)) := Lib.hid (fun w' hb => ⟨HS1.out.grown hb, (hb.cell (p := ⟨w.heap.size, 0, none⟩) (by simp)).trans HX.out⟩)
  clear hc1 hS h hcn hq1
  go_enter Tryz.func31, Tryz.ntmps31
  go_wp2_with fail
  refine (ail_any D Q S s ad n 76 #[.pointer (some ⟨w.heap.size, 0, none⟩)] (rotK b) (fun W => SrcA W sp b ∧ W.cell? ⟨w.heap.size, 0, none⟩ = some (.slice sp n cap)) _ ha H1.out HQ1.out HCN.out (fun k hk => ?_) cf52 HKP.out (fun B k W hn hK hk hB => ?_)).mono ?_
  · unfold rotK
    split
    · assumption
    · exact hk
  · subst hn
    exact rotf_any B w.heap.size cap sp b k W HBN.out hk hB hK.1 hK.2
  · rintro e w1 ⟨rfl, hd, hc⟩
    have HD := Lib.hid hd
    have HC := Lib.hid hc
    clear hd hc
    go_wp2_with fail
    go_ret
    refine ⟨rfl, HD.out.mono (Ext.trans (by simp)) (fun hh => ?_) (fun k hk => ?_), (HC1.out.mono (fun _ h => h.elim)).trans' HC.out⟩
    · rcases hh with hh | hh
      · exact HNQ.out hh
      · omega
    · rcases hk with hk | hk
      · exact Nat.lt_of_lt_of_le (H1.out.lt k hk) HC.out.size
      · exact hk.2
theorem idle_cells (D Q : Nat) (p : Pw) (hon : p.on = true) (w : World) (c0 : w.cell? ⟨D, 0, none⟩ = some (.pointer (some ⟨Q, 0, none⟩))) (c4 : w.cell? ⟨D, 4, none⟩ = some (.bool false)) (hp : PwAt w Q p) : Calls Tryz.prog 65 #[.pointer (some ⟨D, 0, none⟩)] w fun e w' => e = .returned (.int .i64 0) ∧ w = w' := by
  have HP := Lib.hid hp
  clear hp
  go_enter Tryz.func65, Tryz.ntmps65
  go_wp2_with (go_at_call 20; refine (d_is_any _ _ _ HP.out).mono ?_; rw [hon]; rintro e w' ⟨rfl, rfl⟩)
  go_ret
  exact ⟨rfl, rfl⟩
theorem new_world (n : Int) (Q : Nat) (p : Pw) (w : World) (hp : PwAt w Q p) : PwAt ((w.alloc (.map #[] 0)).alloc (.cells #[.pointer (some ⟨Q, 0, none⟩), .int .i64 n, .map (some w.heap.size), .slice none 0 0, .bool false, .bool false, .bool false, .int .u16 0] 142)) Q p :=
  ⟨(hp.blk.alloc _).alloc _, hp.lo, hp.hi⟩
set_option maxRecDepth 100000 in
theorem new_ok (n : Nat) (Q : Nat) (p : Pw) (hon : p.on = true) (w : World) (hp : PwAt w Q p) (h1 : 1 ≤ n) (h2 : n ≤ 4096) : Calls Tryz.prog 38 #[.int .i64 (n : Int), .pointer (some ⟨Q, 0, none⟩)] w fun e w' => ∃ D S, e = .returned (.tuple #[.pointer (some ⟨D, 0, none⟩), .int .i64 0]) ∧ DkAt w' D Q S (fresh n) ∧ (∀ k, S k → w.heap.size ≤ k) ∧ Below w.heap.size w w' := by
  have hmm := @ run_makeMap Tryz.prog
  have HP := Lib.hid hp
  have hq := hp.blk.lt
  clear hp
  have h3 : ¬ ((n : Int) < 1) := by omega
  have h4 : ¬ (4096 < (n : Int)) := by omega
  go_enter Tryz.func38, Tryz.ntmps38
  go_wp2_with (first | (go_at_call 65; refine (idle_cells _ Q p hon _ (by simp) (by simp) (by simpa using new_world n Q p w HP.out)).mono ?_; rintro e w' ⟨rfl, rfl⟩) | fail)
  go_ret2
  refine ⟨_, _, rfl, DkAt.fresh (M := w.heap.size) (D := w.heap.size + 1) ?_ ((MapAt.made w).kept (Below.heap_alloc _ _ _ (by simp))) (by omega) (by omega) (by omega), fun k hk => by rcases hk with rfl | rfl <;> omega, ((Below.refl _ _).alloc (Nat.le_refl _) _).alloc (by simp) _⟩
  exact Blk.new' _ _ _ _ _ (by simp) rfl
end Go.Proofs.YtmgagalhpkieoaaGreatDoor
/- Bytes, again and again, to a block. -/
namespace Go.Proofs.YtmgagalhpkieoaaGreatDoor
open Go.RowKit

def fullAt (b : d_Bs) (i : Nat) : BitVec 8 := if b.length = 0 then 0 else b.getD (i % b.length) 0
def fullN (b : d_Bs) (k : Nat) : d_Bs := (List.range k).map (fullAt b)
def d_full (b : d_Bs) : d_Bs := fullN b 512
theorem fullN_length (b : d_Bs) (k : Nat) : (fullN b k).length = k := by simp [fullN]
theorem full_length (b : d_Bs) : (d_full b).length = 512 := fullN_length b 512
theorem fullN_succ (b : d_Bs) (k : Nat) : fullN b (k + 1) = fullN b k ++ [fullAt b k] := by simp [fullN, List.range_succ]
def d_FullRel (b : d_Bs) (k : Nat) (w : World) (s : Value) (wr : World) : Prop := OwnB wr w.heap.size s (fullN b k) ∧ Below w.heap.size w wr
theorem one_at8 (w : World) (v : Value) (t : TypeId) : ∀ j u, [v][j]? = some u → (w.alloc (.cells #[v] t)).cell? ((⟨w.heap.size, 0, none⟩ : Addr).add j) = some u := by
  intro j u hj
  match j, hj with
  | 0, hj => simp at hj; subst hj; simp [Addr.add]
theorem d_FullRel.next {b : d_Bs} {k : Nat} {w wr w2 : World} {v v' : Value} {x : BitVec 8} {t : TypeId} (h : d_FullRel b k w v wr) (hx : x = fullAt b k) (ho : w2.ownsRow w.heap.size 5 1 v' ((fullN b k).length + 1) ((fullN b k).map V8 ++ [V8 x])) (hg : (wr.alloc (.cells #[V8 x] t)).grownBy w2 v.ownBlock) : d_FullRel b (k + 1) w v' w2 := by
  subst hx
  refine ⟨?_, (h.2.alloc h.2.size _).grown hg (by have := h.2.size; simp; omega) (fun j hj => (h.1.lt j hj).1)⟩
  unfold OwnB
  rw [fullN_succ, List.map_append, List.length_append]
  exact ho
set_option maxRecDepth 100000 in
set_option maxHeartbeats 1000000 in
theorem full_any (b : d_Bs) (sp : Option Addr) (n cap : Nat) (hbn : b.length = n) (hn : n < 1000000) (w : World) (hS : SrcA w sp b) :
    Calls Tryz.prog 32 #[.slice sp n cap] w fun e w' => ∃ v, e = .returned v ∧ OwnB w' w.heap.size v (d_full b) ∧ Below w.heap.size w w' := by
  obtain ⟨i0, hi, hz0, hz1, hz2⟩ := info_parts infoB
  have HS := Lib.hid hS
  have HBN := Lib.hid hbn
  clear hS hbn
  have HR := Lib.hid (show d_FullRel b 0 w (.slice none 0 0) w from ⟨World.ownsRow_nil _ _ _ _, Below.refl _ _⟩)
  go_enter Tryz.func32, Tryz.ntmps32
  go_wp2_with fail
  go_loopw [3] (fun s wr => ∃ k : Nat, k ≤ 512 ∧ d_FullRel b k w s wr) (fun s _ => 512 - (match s with | .slice _ l _ => l | _ => 0))
  case atStart => exact ⟨0, by omega, HR.out⟩
  case round =>
    clear HR
    obtain ⟨k, hk, hR⟩ := hrel
    obtain ⟨sp1, cap1, rfl, hc1, hm1, _, _, _⟩ := hR.1.form
    rw [fullN_length] at hc1 hR ⊢
    have HR := Lib.hid hR
    have ho : wr.ownsRow w.heap.size 5 1 (.slice sp1 k cap1) (fullN b k).length ((fullN b k).map V8) := hR.1
    have HO := Lib.hid ho
    clear ho hR
    by_cases hlt : k < 512
    · by_cases h0 : n = 0
      · subst h0
        have hx : (0 : BitVec 8) = fullAt b k := by unfold fullAt; rw [if_pos HBN.out]
        have HX := Lib.hid hx
        clear hx
        have z1 := hz1
        clear hz1
        have HZ1 := Lib.hid z1
        clear z1
        go_wp2_with (first | (at_builtin; refine wpList_append_own _ rfl _ _ 59 rfl w.heap.size 5 i0 (.int .u8 0) 1 1 Tryz.underlying59 hi hz0 HZ1.out hz2 rfl (by decide) (.slice sp1 k cap1) (fullN b k).length ((fullN b k).map V8) rfl (HO.out.alloc _) ⟨wr.heap.size, 0, none⟩ 1 1 [V8 0] rfl rfl (one_at8 _ _ _) (one_v8 [0]) (by rw [fullN_length]; unfold maxLen; omega) (by rw [fullN_length]; omega) (by have := HR.out.2.size; simp; omega) ?_; intro v2 w2 ho2 hg2 hn2; have HR2 := Lib.hid (HR.out.next HX.out ho2 hg2); clear ho2 hg2 hn2) | fail)
        obtain ⟨sp2, cap2, e2, _, _, _, _, _⟩ := HR2.out.1.form
        go_roundw
        case rel => exact ⟨k + 1, by omega, HR2.out⟩
        case measure => rw [e2]; simp [fullN_length]; omega
      · have hpos : 0 < n := by omega
        have hm : ((k : Int).tmod (n : Int)) = ((k % n : Nat) : Int) := by
          rw [Int.tmod_eq_emod_of_nonneg (by omega)]; simp
        have hlt2 : k % n < n := Nat.mod_lt _ hpos
        obtain ⟨g, o, rfl, hg, hcl⟩ := HS.out (by rw [HBN.out]; omega)
        have hcell := (HR.out.2.cell (p := ⟨g, o + k % n, none⟩) hg).trans (hcl (k % n) (by rw [HBN.out]; exact hlt2))
        obtain ⟨x, hx⟩ : ∃ x, b.getD (k % n) 0 = x := ⟨_, rfl⟩
        rw [hx] at hcell
        have hxx : x = fullAt b k := by unfold fullAt; rw [if_neg (by rw [HBN.out]; omega), HBN.out, hx]
        have HX := Lib.hid hxx
        clear hx hxx hcl hg
        obtain ⟨q, hq⟩ : ∃ q, k % n = q := ⟨_, rfl⟩
        rw [hq] at hm hlt2 hcell
        have HQ := Lib.hid hq
        clear hq
        have hwq := IntWalk.i64_in (q : Int) (by omega)
        have z1 := hz1
        clear hz1
        have HZ1 := Lib.hid z1
        clear z1
        go_wp2_with (first | (at_builtin; refine wpList_append_own _ rfl _ _ 59 rfl w.heap.size 5 i0 (.int .u8 0) 1 1 Tryz.underlying59 hi hz0 HZ1.out hz2 rfl (by decide) (.slice sp1 k cap1) (fullN b k).length ((fullN b k).map V8) rfl (HO.out.alloc _) ⟨wr.heap.size, 0, none⟩ 1 1 [V8 x] rfl rfl (one_at8 _ _ _) (one_v8 [x]) (by rw [fullN_length]; unfold maxLen; omega) (by rw [fullN_length]; omega) (by have := HR.out.2.size; simp; omega) ?_; intro v2 w2 ho2 hg2 hn2; have HR2 := Lib.hid (HR.out.next HX.out ho2 hg2); clear ho2 hg2 hn2) | fail)
        obtain ⟨sp2, cap2, e2, _, _, _, _, _⟩ := HR2.out.1.form
        go_roundw
        case rel => exact ⟨k + 1, by omega, HR2.out⟩
        case measure => rw [e2]; simp [fullN_length]; omega
    · obtain rfl : k = 512 := by omega
      go_wp2_with fail
      go_ret
      exact ⟨_, rfl, HR.out.1, HR.out.2⟩
end Go.Proofs.YtmgagalhpkieoaaGreatDoor
