/- Charge: Leaf, width, With. -/
import Derived.Test.YtoceedfjfjobdaaGb
namespace Go.Proofs.Ytoceedfjfjobdaa
open Go.RowKit

attribute [local go_sem] Oper.semAt_some

theorem leafG_any (k : Nat) (w : World) : Calls Try.prog 13 #[.int .u8 (k : Int)] w fun e w' => e = .returned (.int .u8 (leafG k : Int)) ∧ w' = w := by
  generalize hPost : (fun e w' => e = Ending.returned (.int .u8 (leafG k : Int)) ∧ w' = w) = Post
  have HP : Hid (∀ x : Nat, leafG k = x → Post (.returned (.int .u8 (x : Int))) w) := Lib.hid (fun x hx => by rw [← hPost, ← hx]; exact ⟨rfl, rfl⟩)
  clear hPost
  by_cases h1 : k = 1
  · have HE := Lib.hid (HP.out 1 (by unfold leafG; rw [if_pos h1]))
    subst h1
    clear HP
    go_enter Try.func13, Try.ntmps13
    go_wp2_with fail
    first | exact HE.out | (go_ret; exact HE.out)
  · by_cases h2 : k = 2
    · have HE := Lib.hid (HP.out 2 (by unfold leafG; rw [if_neg h1, if_pos (.inl h2)]))
      subst h2
      clear HP
      go_enter Try.func13, Try.ntmps13
      go_wp2_with fail
      first | exact HE.out | (go_ret; exact HE.out)
    · by_cases h3 : k = 3
      · have HE := Lib.hid (HP.out 2 (by unfold leafG; rw [if_neg h1, if_pos (.inr h3)]))
        subst h3
        clear HP
        go_enter Try.func13, Try.ntmps13
        go_wp2_with fail
        first | exact HE.out | (go_ret; exact HE.out)
      · have HE := Lib.hid (HP.out 0 (by unfold leafG; rw [if_neg h1, if_neg (by omega)]))
        have i1 : ¬ (k : Int) = 1 := by omega
        have i2 : ¬ (k : Int) = 2 := by omega
        have i3 : ¬ (k : Int) = 3 := by omega
        clear HP h1 h2 h3
        go_enter Try.func13, Try.ntmps13
        go_wp2_with fail
        first | exact HE.out | (go_ret; exact HE.out)
theorem width_any (kd : Nat) (w : World) : Calls Try.prog 22 #[.int .u8 (kd : Int)] w fun e w' => e = .returned (.int .i64 (widthG kd : Int)) ∧ w' = w := by
  unfold widthG
  have HL := Lib.hid (leafG_any kd)
  rcases leafG_or kd with h | h | h
  all_goals
    rw [h] at HL
    rw [h]
    clear h
    go_enter Try.func22, Try.ntmps22
    go_wp2_with fail
    refine (HL.out _).mono ?_
    rintro e W1 ⟨rfl, rfl⟩
    go_wp2_with fail
    first | exact ⟨rfl, rfl⟩ | (go_ret; exact ⟨rfl, rfl⟩)
set_option maxRecDepth 100000 in
set_option maxHeartbeats 8000000 in
theorem with_any (f m o n k : Int) (kd : Nat) (h : In33 f m o) (hn : -8589934592 ≤ n ∧ n ≤ 8589934592) (hkk : -8589934592 ≤ k ∧ k ≤ 8589934592) (w : World) :
    Calls Try.prog 5 #[tlv f m o, .int .u8 (kd : Int), .int .i64 n, .int .i64 k] w (Ret w (tlv (if leafG kd = 1 then f + n else f) (if leafG kd = 2 then m + n else m) (o + k))) := by
  have HVF : Hid ((-1125899906842624 ≤ f ∧ f ≤ 1125899906842624) ∧ (-4611686018427387904 ≤ f + n ∧ f + n ≤ 4611686018427387903)) := Lib.hid (by obtain ⟨h1, h2, h3⟩ := h; omega)
  have HVM : Hid ((-1125899906842624 ≤ m ∧ m ≤ 1125899906842624) ∧ (-4611686018427387904 ≤ m + n ∧ m + n ≤ 4611686018427387903)) := Lib.hid (by obtain ⟨h1, h2, h3⟩ := h; omega)
  have HVO : Hid ((-1125899906842624 ≤ o ∧ o ≤ 1125899906842624) ∧ (-4611686018427387904 ≤ o + k ∧ o + k ≤ 4611686018427387903)) := Lib.hid (by obtain ⟨h1, h2, h3⟩ := h; omega)
  have HNN := Lib.hid hn; have HKK := Lib.hid hkk
  clear h hn hkk
  rcases leafG_or kd with hk | hk | hk
  · rw [if_neg (by omega), if_neg (by omega)]
    go_enter Try.func5, Try.ntmps5
    go_upto_region 1 with fail
    refine (fun (k' : ∀ W, Blk W w.heap.size (tls f m o) 23 → Blk W (w.heap.size + 1) [.int .i64 0, .int .i64 0, .int .i64 0] 23 → Below w.heap.size w W → Code.wp _ _ _ _ W) => k' _ ((Blk.new' _ _ _ _ _ rfl rfl).alloc _) (Blk.new' _ _ _ _ _ (by simp) rfl) (((Below.refl _ _).alloc (Nat.le_refl _) _).alloc (by simp) _)) ?_
    intro W1 hA hR hb1
    obtain ⟨g, hg⟩ : ∃ g, w.heap.size = g := ⟨_, rfl⟩
    have hlo : w.heap.size ≤ g := by omega
    rw [hg] at hA hR ⊢
    have HA := Lib.hid hA; have HR := Lib.hid hR; have HBL := Lib.hid hb1; have HLO := Lib.hid hlo
    clear hg hA hR hb1 hlo
    go_wp2_with fail
    refine (leafG_any kd _).mono ?_
    rintro e W9 ⟨rfl, rfl⟩
    rw [hk]
    have c := HA.out.cell (j := 2) rfl
    go_wp2_with fail
    refine (exact_any (o) _).mono ?_
    rintro e Wa ⟨rfl, hb⟩
    clear c
    replace HA := Lib.hid (HA.out.below hb HA.out.lt)
    replace HR := Lib.hid (HR.out.below hb HR.out.lt)
    replace HBL := Lib.hid (HBL.out.trans (hb.mono HBL.out.size))
    clear hb
    go_wp2_with fail
    refine (plus_any (o) (k) 1 (HVO.out.1) (HKK.out) (.inl rfl) _).mono ?_
    rintro e Wb ⟨rfl, hb⟩
    replace HA := Lib.hid (HA.out.below hb HA.out.lt)
    replace HR := Lib.hid (HR.out.below hb HR.out.lt)
    replace HBL := Lib.hid (HBL.out.trans (hb.mono HBL.out.size))
    clear hb
    go_wp2_with fail
    refine (near_any (o + k) HVO.out.2 _).mono ?_
    rintro e Wc ⟨rfl, hb⟩
    replace HA := Lib.hid (HA.out.below hb HA.out.lt)
    replace HR := Lib.hid (HR.out.below hb HR.out.lt)
    replace HBL := Lib.hid (HBL.out.trans (hb.mono HBL.out.size))
    clear hb
    have c := HA.out.cell (j := 2) rfl
    have z := HA.out.free 2
    go_upto_region 7 with fail
    refine (fun (k' : ∀ W, Blk W g [.int .i64 (f), .int .i64 (m), .int .i64 (o + k)] 23 → Blk W (g + 1) [.int .i64 0, .int .i64 0, .int .i64 0] 23 → Below w.heap.size w W → Code.wp _ _ _ _ W) => k' _ (HA.out.set _ _) (HR.out.other (a := ⟨g, _, none⟩) (by show g + 1 ≠ g; omega) _) (HBL.out.setCell (p := ⟨g, _, none⟩) HLO.out _)) ?_
    intro W2 ha hr hbl
    replace HA := Lib.hid ha; replace HR := Lib.hid hr; replace HBL := Lib.hid hbl
    clear ha hr hbl c z
    go_wp2_with (first | (refine c_val rfl (c_ldT HA.out rfl rfl) ?_) | (refine c_stR (cs := tls (f) (m) (o + k)) HR.out rfl rfl rfl rfl infoT rfl rfl ?_; intro W4 hR4 hc4) | fail)
    exact bodyPost_ret (results_cell_row Try.results5 _ _ (g + 1) 23 _ _ _ rfl hR4 Try.underlying23 rfl infoT) rfl ⟨rfl, HBL.out.trans (hc4.below (fun k e => by have := HLO.out; omega) HBL.out.size)⟩
  · rw [if_pos hk, if_neg (by omega)]
    go_enter Try.func5, Try.ntmps5
    go_upto_region 1 with fail
    refine (fun (k' : ∀ W, Blk W w.heap.size (tls f m o) 23 → Blk W (w.heap.size + 1) [.int .i64 0, .int .i64 0, .int .i64 0] 23 → Below w.heap.size w W → Code.wp _ _ _ _ W) => k' _ ((Blk.new' _ _ _ _ _ rfl rfl).alloc _) (Blk.new' _ _ _ _ _ (by simp) rfl) (((Below.refl _ _).alloc (Nat.le_refl _) _).alloc (by simp) _)) ?_
    intro W1 hA hR hb1
    obtain ⟨g, hg⟩ : ∃ g, w.heap.size = g := ⟨_, rfl⟩
    have hlo : w.heap.size ≤ g := by omega
    rw [hg] at hA hR ⊢
    have HA := Lib.hid hA; have HR := Lib.hid hR; have HBL := Lib.hid hb1; have HLO := Lib.hid hlo
    clear hg hA hR hb1 hlo
    go_wp2_with fail
    refine (leafG_any kd _).mono ?_
    rintro e W9 ⟨rfl, rfl⟩
    rw [hk]
    have c := HA.out.cell (j := 0) rfl
    go_wp2_with fail
    refine (exact_any (f) _).mono ?_
    rintro e Wa ⟨rfl, hb⟩
    clear c
    replace HA := Lib.hid (HA.out.below hb HA.out.lt)
    replace HR := Lib.hid (HR.out.below hb HR.out.lt)
    replace HBL := Lib.hid (HBL.out.trans (hb.mono HBL.out.size))
    clear hb
    go_wp2_with fail
    refine (plus_any (f) (n) 1 (HVF.out.1) (HNN.out) (.inl rfl) _).mono ?_
    rintro e Wb ⟨rfl, hb⟩
    replace HA := Lib.hid (HA.out.below hb HA.out.lt)
    replace HR := Lib.hid (HR.out.below hb HR.out.lt)
    replace HBL := Lib.hid (HBL.out.trans (hb.mono HBL.out.size))
    clear hb
    go_wp2_with fail
    refine (near_any (f + n) HVF.out.2 _).mono ?_
    rintro e Wc ⟨rfl, hb⟩
    replace HA := Lib.hid (HA.out.below hb HA.out.lt)
    replace HR := Lib.hid (HR.out.below hb HR.out.lt)
    replace HBL := Lib.hid (HBL.out.trans (hb.mono HBL.out.size))
    clear hb
    have c := HA.out.cell (j := 0) rfl
    have z := HA.out.free 0
    go_upto_region 6 with fail
    refine (fun (k' : ∀ W, Blk W g [.int .i64 (f + n), .int .i64 (m), .int .i64 (o)] 23 → Blk W (g + 1) [.int .i64 0, .int .i64 0, .int .i64 0] 23 → Below w.heap.size w W → Code.wp _ _ _ _ W) => k' _ (HA.out.set _ _) (HR.out.other (a := ⟨g, _, none⟩) (by show g + 1 ≠ g; omega) _) (HBL.out.setCell (p := ⟨g, _, none⟩) HLO.out _)) ?_
    intro W2 ha hr hbl
    replace HA := Lib.hid ha; replace HR := Lib.hid hr; replace HBL := Lib.hid hbl
    clear ha hr hbl c z
    have c := HA.out.cell (j := 2) rfl
    go_wp2_with fail
    refine (exact_any (o) _).mono ?_
    rintro e Wa ⟨rfl, hb⟩
    clear c
    replace HA := Lib.hid (HA.out.below hb HA.out.lt)
    replace HR := Lib.hid (HR.out.below hb HR.out.lt)
    replace HBL := Lib.hid (HBL.out.trans (hb.mono HBL.out.size))
    clear hb
    go_wp2_with fail
    refine (plus_any (o) (k) 1 (HVO.out.1) (HKK.out) (.inl rfl) _).mono ?_
    rintro e Wb ⟨rfl, hb⟩
    replace HA := Lib.hid (HA.out.below hb HA.out.lt)
    replace HR := Lib.hid (HR.out.below hb HR.out.lt)
    replace HBL := Lib.hid (HBL.out.trans (hb.mono HBL.out.size))
    clear hb
    go_wp2_with fail
    refine (near_any (o + k) HVO.out.2 _).mono ?_
    rintro e Wc ⟨rfl, hb⟩
    replace HA := Lib.hid (HA.out.below hb HA.out.lt)
    replace HR := Lib.hid (HR.out.below hb HR.out.lt)
    replace HBL := Lib.hid (HBL.out.trans (hb.mono HBL.out.size))
    clear hb
    have c := HA.out.cell (j := 2) rfl
    have z := HA.out.free 2
    go_upto_region 7 with fail
    refine (fun (k' : ∀ W, Blk W g [.int .i64 (f + n), .int .i64 (m), .int .i64 (o + k)] 23 → Blk W (g + 1) [.int .i64 0, .int .i64 0, .int .i64 0] 23 → Below w.heap.size w W → Code.wp _ _ _ _ W) => k' _ (HA.out.set _ _) (HR.out.other (a := ⟨g, _, none⟩) (by show g + 1 ≠ g; omega) _) (HBL.out.setCell (p := ⟨g, _, none⟩) HLO.out _)) ?_
    intro W2 ha hr hbl
    replace HA := Lib.hid ha; replace HR := Lib.hid hr; replace HBL := Lib.hid hbl
    clear ha hr hbl c z
    go_wp2_with (first | (refine c_val rfl (c_ldT HA.out rfl rfl) ?_) | (refine c_stR (cs := tls (f + n) (m) (o + k)) HR.out rfl rfl rfl rfl infoT rfl rfl ?_; intro W4 hR4 hc4) | fail)
    exact bodyPost_ret (results_cell_row Try.results5 _ _ (g + 1) 23 _ _ _ rfl hR4 Try.underlying23 rfl infoT) rfl ⟨rfl, HBL.out.trans (hc4.below (fun k e => by have := HLO.out; omega) HBL.out.size)⟩
  · rw [if_neg (by omega), if_pos hk]
    go_enter Try.func5, Try.ntmps5
    go_upto_region 1 with fail
    refine (fun (k' : ∀ W, Blk W w.heap.size (tls f m o) 23 → Blk W (w.heap.size + 1) [.int .i64 0, .int .i64 0, .int .i64 0] 23 → Below w.heap.size w W → Code.wp _ _ _ _ W) => k' _ ((Blk.new' _ _ _ _ _ rfl rfl).alloc _) (Blk.new' _ _ _ _ _ (by simp) rfl) (((Below.refl _ _).alloc (Nat.le_refl _) _).alloc (by simp) _)) ?_
    intro W1 hA hR hb1
    obtain ⟨g, hg⟩ : ∃ g, w.heap.size = g := ⟨_, rfl⟩
    have hlo : w.heap.size ≤ g := by omega
    rw [hg] at hA hR ⊢
    have HA := Lib.hid hA; have HR := Lib.hid hR; have HBL := Lib.hid hb1; have HLO := Lib.hid hlo
    clear hg hA hR hb1 hlo
    go_wp2_with fail
    refine (leafG_any kd _).mono ?_
    rintro e W9 ⟨rfl, rfl⟩
    rw [hk]
    have c := HA.out.cell (j := 1) rfl
    go_wp2_with fail
    refine (exact_any (m) _).mono ?_
    rintro e Wa ⟨rfl, hb⟩
    clear c
    replace HA := Lib.hid (HA.out.below hb HA.out.lt)
    replace HR := Lib.hid (HR.out.below hb HR.out.lt)
    replace HBL := Lib.hid (HBL.out.trans (hb.mono HBL.out.size))
    clear hb
    go_wp2_with fail
    refine (plus_any (m) (n) 1 (HVM.out.1) (HNN.out) (.inl rfl) _).mono ?_
    rintro e Wb ⟨rfl, hb⟩
    replace HA := Lib.hid (HA.out.below hb HA.out.lt)
    replace HR := Lib.hid (HR.out.below hb HR.out.lt)
    replace HBL := Lib.hid (HBL.out.trans (hb.mono HBL.out.size))
    clear hb
    go_wp2_with fail
    refine (near_any (m + n) HVM.out.2 _).mono ?_
    rintro e Wc ⟨rfl, hb⟩
    replace HA := Lib.hid (HA.out.below hb HA.out.lt)
    replace HR := Lib.hid (HR.out.below hb HR.out.lt)
    replace HBL := Lib.hid (HBL.out.trans (hb.mono HBL.out.size))
    clear hb
    have c := HA.out.cell (j := 1) rfl
    have z := HA.out.free 1
    go_upto_region 6 with fail
    refine (fun (k' : ∀ W, Blk W g [.int .i64 (f), .int .i64 (m + n), .int .i64 (o)] 23 → Blk W (g + 1) [.int .i64 0, .int .i64 0, .int .i64 0] 23 → Below w.heap.size w W → Code.wp _ _ _ _ W) => k' _ (HA.out.set _ _) (HR.out.other (a := ⟨g, _, none⟩) (by show g + 1 ≠ g; omega) _) (HBL.out.setCell (p := ⟨g, _, none⟩) HLO.out _)) ?_
    intro W2 ha hr hbl
    replace HA := Lib.hid ha; replace HR := Lib.hid hr; replace HBL := Lib.hid hbl
    clear ha hr hbl c z
    have c := HA.out.cell (j := 2) rfl
    go_wp2_with fail
    refine (exact_any (o) _).mono ?_
    rintro e Wa ⟨rfl, hb⟩
    clear c
    replace HA := Lib.hid (HA.out.below hb HA.out.lt)
    replace HR := Lib.hid (HR.out.below hb HR.out.lt)
    replace HBL := Lib.hid (HBL.out.trans (hb.mono HBL.out.size))
    clear hb
    go_wp2_with fail
    refine (plus_any (o) (k) 1 (HVO.out.1) (HKK.out) (.inl rfl) _).mono ?_
    rintro e Wb ⟨rfl, hb⟩
    replace HA := Lib.hid (HA.out.below hb HA.out.lt)
    replace HR := Lib.hid (HR.out.below hb HR.out.lt)
    replace HBL := Lib.hid (HBL.out.trans (hb.mono HBL.out.size))
    clear hb
    go_wp2_with fail
    refine (near_any (o + k) HVO.out.2 _).mono ?_
    rintro e Wc ⟨rfl, hb⟩
    replace HA := Lib.hid (HA.out.below hb HA.out.lt)
    replace HR := Lib.hid (HR.out.below hb HR.out.lt)
    replace HBL := Lib.hid (HBL.out.trans (hb.mono HBL.out.size))
    clear hb
    have c := HA.out.cell (j := 2) rfl
    have z := HA.out.free 2
    go_upto_region 7 with fail
    refine (fun (k' : ∀ W, Blk W g [.int .i64 (f), .int .i64 (m + n), .int .i64 (o + k)] 23 → Blk W (g + 1) [.int .i64 0, .int .i64 0, .int .i64 0] 23 → Below w.heap.size w W → Code.wp _ _ _ _ W) => k' _ (HA.out.set _ _) (HR.out.other (a := ⟨g, _, none⟩) (by show g + 1 ≠ g; omega) _) (HBL.out.setCell (p := ⟨g, _, none⟩) HLO.out _)) ?_
    intro W2 ha hr hbl
    replace HA := Lib.hid ha; replace HR := Lib.hid hr; replace HBL := Lib.hid hbl
    clear ha hr hbl c z
    go_wp2_with (first | (refine c_val rfl (c_ldT HA.out rfl rfl) ?_) | (refine c_stR (cs := tls (f) (m + n) (o + k)) HR.out rfl rfl rfl rfl infoT rfl rfl ?_; intro W4 hR4 hc4) | fail)
    exact bodyPost_ret (results_cell_row Try.results5 _ _ (g + 1) 23 _ _ _ rfl hR4 Try.underlying23 rfl infoT) rfl ⟨rfl, HBL.out.trans (hc4.below (fun k e => by have := HLO.out; omega) HBL.out.size)⟩
end Go.Proofs.Ytoceedfjfjobdaa
