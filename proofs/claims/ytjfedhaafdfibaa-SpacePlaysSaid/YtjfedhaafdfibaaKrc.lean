/- The document's Alloc. -/
import Derived.Test.YtjfedhaafdfibaaKrb
namespace Go.Proofs.Ytjfedhaafdfibaa
open Go.RowKit

def rfree (rd : Rdk) (a : Nat) : Bool := !hasB (rd.l 0) a && !hasB (rd.l 1) a && !hasB (rd.l 2) a
/-- What is looked at, as slots hold it. -/
structure RdLook (w : World) (R : Nat) (rd : Rdk) (s0 s1 s2 : Option Addr) (c0 c1 c2 : Nat) : Prop where
  n : w.cell? ⟨R, 0, none⟩ = some (.int .i64 (rd.n : Int))
  u : w.cell? ⟨R, 1, none⟩ = some (.slice s0 (rd.l 0).length c0)
  h : w.cell? ⟨R, 2, none⟩ = some (.slice s1 (rd.l 1).length c1)
  s : w.cell? ⟨R, 3, none⟩ = some (.slice s2 (rd.l 2).length c2)
  su : SrcU w s0 (rd.l 0)
  sh : SrcU w s1 (rd.l 1)
  ss : SrcU w s2 (rd.l 2)
theorem RdIn.look {w : World} {lo : Nat} {lab : Nat → Nat} {b R : Nat} {v : Nat → Value} {rd : Rdk} (h : RdIn w lo lab b R v rd) : ∃ s0 s1 s2 c0 c1 c2, v 0 = .slice s0 (rd.l 0).length c0 ∧ v 1 = .slice s1 (rd.l 1).length c1 ∧ v 2 = .slice s2 (rd.l 2).length c2 ∧ RdLook w R rd s0 s1 s2 c0 c1 c2 := by
  obtain ⟨s0, c0, e0, _, _, h0, _⟩ := (h.row 0 (by omega)).1.form
  obtain ⟨s1, c1, e1, _, _, h1, _⟩ := (h.row 1 (by omega)).1.form
  obtain ⟨s2, c2, e2, _, _, h2, _⟩ := (h.row 2 (by omega)).1.form
  exact ⟨s0, s1, s2, c0, c1, c2, e0, e1, e2, h.blk.cell rfl, e0 ▸ h.blk.cell rfl, e1 ▸ h.blk.cell rfl, e2 ▸ h.blk.cell rfl, h0, h1, h2⟩
set_option maxRecDepth 100000 in
set_option maxHeartbeats 4000000 in
/-- None is free. -/
theorem ralloc_none (w : World) (R : Nat) (rd : Rdk) (s0 s1 s2 : Option Addr) (k0 k1 k2 : Nat) (h : RdLook w R rd s0 s1 s2 k0 k1 k2) (hn : rd.n ≤ 5000) (hl : ∀ i, i < 3 → (rd.l i).length ≤ 1000) (hf : ∀ a, 1 ≤ a → a < rd.n → rfree rd a = false) :
    Calls Try.prog 8 #[.pointer (some ⟨R, 0, none⟩)] w fun e w' => e = .returned (.int .u16 0) ∧ w = w' := by
  have H := Lib.hid h
  have c0 := h.n; have c1 := h.u; have c2 := h.h; have c3 := h.s
  have HF := Lib.hid hf
  have HL := Lib.hid hl
  obtain ⟨n, hn2⟩ : ∃ n, rd.n = n := ⟨_, rfl⟩
  have HN := Lib.hid hn2
  rw [hn2] at c0 hn
  clear h hf hl hn2
  go_enter Try.func8, Try.ntmps8
  go_wp2_with fail
  go_loop [3] (fun i => ∃ k : Nat, 1 ≤ k ∧ k ≤ n + 1 ∧ i = .int .i64 (k : Int)) (fun i => n - (intOf i).toNat)
  case atStart => exact ⟨1, by omega, by omega, rfl⟩
  case round =>
    obtain ⟨k, hk1, hk2, rfl⟩ := hrel
    have wk := IntWalk.i64_in ((k : Int) + 1) (by omega)
    by_cases hlt : k < n
    · have wu := IntWalk.u16_in (k : Int) (by omega)
      have hfr := HF.out k hk1 (by rw [HN.out]; exact hlt)
      unfold rfree at hfr
      cases hu : hasB (rd.l 0) k with
      | true =>
        have HU := Lib.hid hu
        clear hu hfr
        go_wp2_with (first | (go_at_call 20; refine (has_any s0 k0 _ k _ (HL.out 0 (by omega)) H.out.su).mono ?_; rw [HU.out]; rintro e w' ⟨rfl, rfl⟩) | fail)
        go_round
        case rel => exact ⟨k + 1, by omega, by omega, by go_num⟩
        case measure => simp [intOf]; omega
      | false =>
        have HU := Lib.hid hu
        cases hh : hasB (rd.l 1) k with
        | true =>
          have HH := Lib.hid hh
          clear hu hh hfr
          go_wp2_with fail
          refine (has_any s0 k0 _ k _ (HL.out 0 (by omega)) H.out.su).mono ?_
          rw [HU.out]
          rintro e w' ⟨rfl, rfl⟩
          go_wp2_with fail
          refine (has_any s1 k1 _ k _ (HL.out 1 (by omega)) H.out.sh).mono ?_
          rw [HH.out]
          rintro e w' ⟨rfl, rfl⟩
          go_wp2_with fail
          go_round
          case rel => exact ⟨k + 1, by omega, by omega, by go_num⟩
          case measure => simp [intOf]; omega
        | false =>
          have HH := Lib.hid hh
          have hs : hasB (rd.l 2) k = true := by simpa [hu, hh] using hfr
          have HS := Lib.hid hs
          clear hu hh hfr hs
          go_wp2_with fail
          refine (has_any s0 k0 _ k _ (HL.out 0 (by omega)) H.out.su).mono ?_
          rw [HU.out]
          rintro e w' ⟨rfl, rfl⟩
          go_wp2_with fail
          refine (has_any s1 k1 _ k _ (HL.out 1 (by omega)) H.out.sh).mono ?_
          rw [HH.out]
          rintro e w' ⟨rfl, rfl⟩
          go_wp2_with fail
          refine (has_any s2 k2 _ k _ (HL.out 2 (by omega)) H.out.ss).mono ?_
          rw [HS.out]
          rintro e w' ⟨rfl, rfl⟩
          go_wp2_with fail
          go_round
          case rel => exact ⟨k + 1, by omega, by omega, by go_num⟩
          case measure => simp [intOf]; omega
    · go_wp2_with fail
      go_ret
      exact ⟨rfl, rfl⟩
set_option maxRecDepth 100000 in
set_option maxHeartbeats 4000000 in
/-- The least that is free. -/
theorem ralloc_some (w : World) (lo : Nat) (lab : Nat → Nat) (b R : Nat) (v : Nat → Value) (rd : Rdk) (h : RdIn w lo lab b R v rd) (hn : rd.n ≤ 5000) (hl : ∀ i, i < 3 → (rd.l i).length ≤ 999) (z : Nat) (hz1 : 1 ≤ z) (hz2 : z < rd.n) (hz : rfree rd z = true) (hf : ∀ a, 1 ≤ a → a < z → rfree rd a = false) :
    Calls Try.prog 8 #[.pointer (some ⟨R, 0, none⟩)] w fun e w' => e = .returned (.int .u16 (z : Int)) ∧ RdPost w lo lab b R (rd.set 0 (rd.l 0 ++ [z])) w' := by
  obtain ⟨s0, s1, s2, k0, k1, k2, e0, e1, e2, hlk⟩ := h.look
  have HI := Lib.hid h
  have HE0 := Lib.hid e0
  clear e0 e1 e2
  have H := Lib.hid hlk
  have c0 := hlk.n; have c1 := hlk.u; have c2 := hlk.h; have c3 := hlk.s
  have f1 := h.blk.free 1
  have HF := Lib.hid hf
  have HL := Lib.hid hl
  obtain ⟨n, hn2⟩ : ∃ n, rd.n = n := ⟨_, rfl⟩
  have HN := Lib.hid hn2
  rw [hn2] at c0 hn hz2
  have hz0 := hz
  unfold rfree at hz0
  simp only [Bool.and_eq_true, Bool.not_eq_true'] at hz0
  have Z0 := Lib.hid hz0.1.1; have Z1 := Lib.hid hz0.1.2; have Z2 := Lib.hid hz0.2
  clear h hf hl hn2 hlk hz hz0
  go_enter Try.func8, Try.ntmps8
  go_wp2_with fail
  go_loop [3] (fun i => ∃ k : Nat, 1 ≤ k ∧ k ≤ z ∧ i = .int .i64 (k : Int)) (fun i => z - (intOf i).toNat)
  case atStart => exact ⟨1, by omega, by omega, rfl⟩
  case round =>
    obtain ⟨k, hk1, hk2, rfl⟩ := hrel
    have wk := IntWalk.i64_in ((k : Int) + 1) (by omega)
    have wu := IntWalk.u16_in (k : Int) (by omega)
    have hkn : k < n := by omega
    by_cases hlt : k < z
    · have hfr := HF.out k hk1 hlt
      unfold rfree at hfr
      cases hu : hasB (rd.l 0) k with
      | true =>
        have HU := Lib.hid hu
        clear hu hfr
        go_wp2_with (first | (go_at_call 20; refine (has_any s0 k0 _ k _ (Nat.le_succ_of_le (HL.out 0 (by omega))) H.out.su).mono ?_; rw [HU.out]; rintro e w' ⟨rfl, rfl⟩) | fail)
        go_round
        case rel => exact ⟨k + 1, by omega, by omega, by go_num⟩
        case measure => simp [intOf]; omega
      | false =>
        have HU := Lib.hid hu
        cases hh : hasB (rd.l 1) k with
        | true =>
          have HH := Lib.hid hh
          clear hu hh hfr
          go_wp2_with fail
          refine (has_any s0 k0 _ k _ (Nat.le_succ_of_le (HL.out 0 (by omega))) H.out.su).mono ?_
          rw [HU.out]
          rintro e w' ⟨rfl, rfl⟩
          go_wp2_with fail
          refine (has_any s1 k1 _ k _ (Nat.le_succ_of_le (HL.out 1 (by omega))) H.out.sh).mono ?_
          rw [HH.out]
          rintro e w' ⟨rfl, rfl⟩
          go_wp2_with fail
          go_round
          case rel => exact ⟨k + 1, by omega, by omega, by go_num⟩
          case measure => simp [intOf]; omega
        | false =>
          have HH := Lib.hid hh
          have hs : hasB (rd.l 2) k = true := by simpa [hu, hh] using hfr
          have HS := Lib.hid hs
          clear hu hh hfr hs
          go_wp2_with fail
          refine (has_any s0 k0 _ k _ (Nat.le_succ_of_le (HL.out 0 (by omega))) H.out.su).mono ?_
          rw [HU.out]
          rintro e w' ⟨rfl, rfl⟩
          go_wp2_with fail
          refine (has_any s1 k1 _ k _ (Nat.le_succ_of_le (HL.out 1 (by omega))) H.out.sh).mono ?_
          rw [HH.out]
          rintro e w' ⟨rfl, rfl⟩
          go_wp2_with fail
          refine (has_any s2 k2 _ k _ (Nat.le_succ_of_le (HL.out 2 (by omega))) H.out.ss).mono ?_
          rw [HS.out]
          rintro e w' ⟨rfl, rfl⟩
          go_wp2_with fail
          go_round
          case rel => exact ⟨k + 1, by omega, by omega, by go_num⟩
          case measure => simp [intOf]; omega
    · obtain rfl : k = z := by omega
      clear hlt
      have hb1 : Below w.heap.size w (w.alloc (.cells #[.int .u16 (k : Int)] 33)) := (Below.refl _ _).alloc (Nat.le_refl _) _
      obtain ⟨v', w3, hr3, ⟨s3, n3, c3', e3⟩, hc3, hf3, hp3⟩ := HI.out.app (i := 0) (by omega) (Nat.le_succ_of_le (HL.out 0 (by omega))) (m := [k]) (by simp) hb1 (c := 1) (src_one w k) (by simp) 29
      rw [HE0.out] at hr3 hc3
      subst e3
      have HR3 := Lib.hid hr3
      have HP3 := Lib.hid hp3
      clear hr3 hp3 hb1
      go_wp2_with fail
      refine (has_any s0 k0 _ k _ (Nat.le_succ_of_le (HL.out 0 (by omega))) H.out.su).mono ?_
      rw [Z0.out]
      rintro e w' ⟨rfl, rfl⟩
      go_wp2_with fail
      refine (has_any s1 k1 _ k _ (Nat.le_succ_of_le (HL.out 1 (by omega))) H.out.sh).mono ?_
      rw [Z1.out]
      rintro e w' ⟨rfl, rfl⟩
      go_wp2_with fail
      refine (has_any s2 k2 _ k _ (Nat.le_succ_of_le (HL.out 2 (by omega))) H.out.ss).mono ?_
      rw [Z2.out]
      rintro e w' ⟨rfl, rfl⟩
      go_wp2_with (first | (at_builtin; refine wpL_val rfl (ex_appU rfl rfl rfl HR3.out) ?_) | fail)
      go_ret
      exact ⟨rfl, HP3.out⟩
end Go.Proofs.Ytjfedhaafdfibaa
