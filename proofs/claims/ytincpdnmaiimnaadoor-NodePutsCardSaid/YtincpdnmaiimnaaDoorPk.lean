/- Whether a pointer may be, as the program says it. -/
import Derived.Test.YtincpdnmaiimnaaDoorPj
namespace Go.Proofs.YtincpdnmaiimnaaDoor
open Go.RowKit

structure MyW (p : Pt) (w : World) (g : Nat) (W : World) : Prop where
  a : Blk W w.heap.size (pcells p) 28
  r : Blk W g (rcell p.kind) 64
  b : Below w.heap.size w W
theorem myW_start {p : Pt} {w w1 : World} (h : Blk w1 w.heap.size (pcells p) 28) (hb : Below w.heap.size w w1) (z : Array Value) : MyW p w w1.heap.size ((w1.alloc (.cells z 64)).setRow w1.heap.size (rcell p.kind).toArray) := by
  obtain ⟨h1, h2⟩ := blk_row1 w1 z (rcell p.kind) 64
  exact ⟨h.below h2 h.lt, h1, hb.trans (h2.mono hb.size)⟩
set_option maxRecDepth 100000 in
set_option maxHeartbeats 4000000 in
theorem may_any (p : Pt) (hp : p.OK) (w : World) (hT : RTab w) : Calls Tryd.prog 20 #[.agg (pcells p).toArray] w fun e w' => e = .returned (.bool (mayP p)) ∧ Below w.heap.size w w' := by
  have HP := Lib.hid hp
  have hk := hp.kind
  obtain ⟨m, hm⟩ : ∃ m, mayP p = m := ⟨_, rfl⟩
  rw [hm]
  have HM := Lib.hid hm
  have HG0 : Hid (Blk (w.alloc (.cells (pcells p).toArray 28)) w.heap.size (pcells p) 28) := Lib.hid (Blk.new _ _ _)
  have HB0 : Hid (Below w.heap.size w (w.alloc (.cells (pcells p).toArray 28))) := Lib.hid ((Below.refl _ _).alloc (Nat.le_refl _) _)
  have HT : Hid (RTab (w.alloc (.cells (pcells p).toArray 28))) := Lib.hid (hT.alloc _)
  have cK := HG0.out.cell (j := 0) rfl
  have HK := Lib.hid hk
  obtain ⟨P, hPP⟩ : ∃ P, (pcells p).toArray = P := ⟨_, rfl⟩
  have HPP := Lib.hid hPP
  have HSP : Hid ((Tryd.prog.info? 28).map (·.size) = some P.size) := Lib.hid (by rw [← hPP, sizeP]; simp [pcells_length hp])
  rw [hPP] at HG0 HB0 HT cK ⊢
  clear hm hp hT hPP hk
  go_enter Tryd.func20, Tryd.ntmps20
  go_upto_region 1 with fail
  generalize (w.alloc (.cells P 28)) = W0 at HG0 HB0 HT cK ⊢
  go_upto_region 2 with (first | (go_at_call 29; refine (rule_any p.kind HK.out _ HT.out).mono ?_; rintro e w1 ⟨rfl, hb1⟩; have HG1 := Lib.hid (HG0.out.below hb1 HG0.out.lt); have HB1 := Lib.hid (HB0.out.trans (hb1.mono HB0.out.size)); clear hb1) | (refine wpList_store_row rfl 64 (.tmp 3) (.tmp 8) rfl w1.heap.size _ rfl rfl 64 _ (heap_alloc_new _ _) (by rw [sizeRule]; rfl) rfl (one_rule _) ?_) | fail)
  refine (fun (k : ∀ W1, MyW p w w1.heap.size W1 → Code.wp _ _ _ _ W1) => k _ (myW_start HG1.out HB1.out _)) ?_
  intro W hW
  have HW := Lib.hid hW
  obtain ⟨ha, hr, hb⟩ := hW
  have cL := ha.cell (j := 1) rfl
  have cw := hr.cell (j := 0) rfl
  have cl := hr.cell (j := 1) rfl
  have ch := hr.cell (j := 2) rfl
  have HB := Lib.hid hb
  have HA : Hid (W.heap[w.heap.size]? = some (.cells P 28 (0, 0))) := Lib.hid (by rw [← HPP.out]; exact ha)
  have HAT := Lib.hid (rng_ats ha HP.out.hash)
  obtain ⟨g, hg⟩ : ∃ g, w1.heap.size = g := ⟨_, rfl⟩
  rw [hg] at cw cl ch ⊢
  clear ha hr hb HW HG1 HB1 hg cK HG0 HB0 HT
  by_cases hl : p.level < lowN p.kind
  · have : (p.level : Int) < (lowN p.kind : Int) := by omega
    obtain rfl : m = false := by rw [← HM.out]; unfold mayP; rw [decide_eq_false (by omega)]; rfl
    go_wp2
    go_ret
    exact ⟨rfl, HB.out⟩
  have il : ¬ (p.level : Int) < (lowN p.kind : Int) := by omega
  by_cases hh : highN p.kind < p.level
  · have : (highN p.kind : Int) < (p.level : Int) := by omega
    obtain rfl : m = false := by rw [← HM.out]; unfold mayP; rw [decide_eq_false (by omega)]; rfl
    go_wp2
    go_ret
    exact ⟨rfl, HB.out⟩
  have ih : ¬ (highN p.kind : Int) < (p.level : Int) := by omega
  have HLV : Hid (decide (lowN p.kind ≤ p.level ∧ p.level ≤ highN p.kind) = true) := Lib.hid (decide_eq_true (by omega))
  clear hl hh
  go_wp2_with (first | (refine wpL_val rfl (ex_ld (ty := 26) (cs := p.ats.map U16) rfl rfl HAT.out Tryd.underlying26 rfl (by rw [sizeAts]; simp [HP.out.len])) ?_) | fail)
  clear il ih cl ch cL
  go_loop [23] (fun i => ∃ k : Nat, k ≤ 4 ∧ i = .int .i64 k ∧ ∀ j, j < k → p.ats.getD j 0 = 0 ∨ j % 2 < wideN p.kind) (fun i => 4 - (intOf i).toNat)
  case atStart => exact ⟨0, by omega, rfl, fun j hj => by omega⟩
  case round =>
    obtain ⟨k, hk, rfl, hall⟩ := hrel
    have HALL := Lib.hid hall
    clear hall
    by_cases hlt : k < 4
    · obtain ⟨x, hx⟩ : ∃ x, p.ats[k]? = some x := ⟨_, List.getElem?_eq_getElem (by rw [HP.out.len]; exact hlt)⟩
      have hix : ∀ W : World, (Instr.index 26 (.agg (p.ats.map U16).toArray) (.int .i64 (k : Int))).run Tryd.prog W = .ok (.int .u16 (x : Int)) W := fun W => index_ats p hx hlt W
      have hgx : p.ats.getD k 0 = x := by rw [List.getD_eq_getElem?_getD, hx]; rfl
      have HX := Lib.hid hgx
      have q : (k : Int) < 4 := by omega
      clear hx hgx
      by_cases h00 : x = 0
      · have ix : (x : Int) = 0 := by omega
        have HN : Hid (∀ j, j < k + 1 → p.ats.getD j 0 = 0 ∨ j % 2 < wideN p.kind) := Lib.hid (fun j hj => by
          rcases Nat.lt_or_eq_of_le (Nat.lt_succ_iff.1 hj) with h | rfl
          · exact HALL.out j h
          · exact .inl (by rw [HX.out]; exact h00))
        clear h00
        go_wp2
        go_round
        case rel => exact ⟨k + 1, by omega, by go_num, HN.out⟩
        case measure => simp [intOf]; omega
      · have ix : ¬ (x : Int) = 0 := by omega
        have hmod : (k : Int).tmod 2 = (k : Int) % 2 := Int.tmod_eq_emod_of_nonneg (by omega)
        by_cases hw : k % 2 < wideN p.kind
        · have iw : ¬ (wideN p.kind : Int) ≤ (k : Int) % 2 := by omega
          have HN : Hid (∀ j, j < k + 1 → p.ats.getD j 0 = 0 ∨ j % 2 < wideN p.kind) := Lib.hid (fun j hj => by
            rcases Nat.lt_or_eq_of_le (Nat.lt_succ_iff.1 hj) with h | rfl
            · exact HALL.out j h
            · exact .inr hw)
          clear h00 hw
          go_wp2
          go_round
          case rel => exact ⟨k + 1, by omega, by go_num, HN.out⟩
          case measure => simp [intOf]; omega
        · have iw : (wideN p.kind : Int) ≤ (k : Int) % 2 := by omega
          obtain rfl : m = false := by
            rw [← HM.out]
            have : placedP p = false := by
              unfold placedP
              rw [List.all_eq_false]
              exact ⟨k, List.mem_range.2 hlt, by rw [HX.out]; simp; omega⟩
            unfold mayP
            rw [this]
            simp
          clear h00 hw
          go_wp2
          go_ret
          exact ⟨rfl, HB.out⟩
    · obtain rfl : k = 4 := by omega
      have hmm : m = apartP p := by
        rw [← HM.out]
        have : placedP p = true := by
          unfold placedP
          rw [List.all_eq_true]
          exact fun j hj => decide_eq_true (HALL.out j (List.mem_range.1 hj))
        unfold mayP
        rw [HLV.out, this]
        rfl
      subst hmm
      have HC : Hid (Calls Tryd.prog 30 #[.agg P] W fun e w' => e = .returned (.bool (apartP p)) ∧ Below W.heap.size W w') := Lib.hid (by rw [← HPP.out]; exact apart_any p HP.out W)
      clear hlt hk
      go_wp2_with (first | (refine wpList_load_row rfl 28 (.tmp 1) rfl w.heap.size rfl 28 _ _ _ HA.out Tryd.underlying28 rfl HSP.out ?_) | (go_at_call 30; refine HC.out.mono ?_; rintro e w3 ⟨rfl, hb3⟩; have HB3 := Lib.hid (HB.out.trans (hb3.mono HB.out.size)); clear hb3) | fail)
      go_ret
      exact ⟨rfl, HB3.out⟩
end Go.Proofs.YtincpdnmaiimnaaDoor
