/- Parts joined, held against the document: the law, walked. -/
import Derived.Test.YtchjioknobmegaaLch
namespace Go.Proofs.Ytchjioknobmegaa
open Go.RowKit

theorem wt_le (L : List (List UInt8)) (m : Nat) (h : ∀ j, j < L.length → (L.getD j []).length ≤ m) : wt L ≤ L.length * (m + 1) := by
  induction L with
  | nil => simp [wt]
  | cons p L ih =>
    have h0 := h 0 (by simp)
    have h1 := ih (fun j hj => by have := h (j + 1) (by simp; omega); simpa using this)
    simp at h0
    rw [wt_cons, List.length_cons, Nat.add_mul]
    omega

set_option maxRecDepth 100000 in
set_option maxHeartbeats 4000000 in
theorem joins_walk (a s : Bool) (v : Value) (ls : List (List UInt8)) (w : World) (hv : Src w v ls) : Calls Try.prog 5 #[.bool a, .bool s, v] w (TrueBelow w) := by
  have hv0 := hv
  obtain ⟨sp, c, rfl, hc, hm, h1⟩ := hv
  have HV := Lib.hid hv0
  clear hv0
  have hm' : c ≤ 9223372036854775807 := by unfold maxLen at hm; omega
  by_cases h30 : 30 < ls.length
  · clear h1
    go_enter Try.func5, Try.ntmps5
    go_wp2_with fail
    refine (wakes_any _).mono ?_
    rintro e w' ⟨rfl, hb⟩
    have HB := Lib.hid hb
    clear hb
    go_wp2_with fail
    go_ret
    exact ⟨rfl, HB.out⟩
  obtain ⟨g, o, hsp, hT⟩ : ∃ g o, (0 < ls.length → sp = some ⟨g, o, none⟩) ∧ (0 < ls.length → Txs g o ls w) := by
    by_cases hne : ls = []
    · exact ⟨0, 0, fun h => by subst hne; simp at h, fun h => by subst hne; simp at h⟩
    · obtain ⟨g, o, e1, hg, ht⟩ := h1 hne
      exact ⟨g, o, fun _ => e1, fun _ => ht⟩
  have HS := Lib.hid hsp
  have HT := Lib.hid hT
  clear hsp hT h1
  go_enter Try.func5, Try.ntmps5
  go_wp2_with fail
  go_loop [7] (fun i => ∃ k : Nat, i = .int .i64 k ∧ k ≤ ls.length ∧ Hid (∀ j, j < k → (ls.getD j []).length ≤ 60)) (fun i => ls.length - (intOf i).toNat)
  case atStart => exact ⟨0, rfl, by omega, Lib.hid (fun j h => absurd h (by omega))⟩
  case round =>
    obtain ⟨k, rfl, hk, HJ⟩ := hrel
    by_cases hlt : k < ls.length
    · obtain rfl := HS.out (by omega)
      have hcell := HT.out (by omega) k hlt
      have hcsz := str_size (ls.getD k [])
      generalize hq : ls.getD k [] = q at hcell hcsz
      have HQ := Lib.hid hq
      clear hq
      go_wp2_with fail
      · refine (wakes_any _).mono ?_
        rintro e w3 ⟨rfl, hb3⟩
        have HB3 := Lib.hid hb3
        clear hb3
        go_wp2_with fail
        go_ret
        exact ⟨rfl, HB3.out⟩
      · have hq60 : (q.length : Int) ≤ 60 := by assumption
        have HJ2 : Hid (∀ j, j < k + 1 → (ls.getD j []).length ≤ 60) := Lib.hid (fun j hj => by
          rcases (by omega : j < k ∨ j = k) with h | rfl
          · exact HJ.out j h
          · rw [HQ.out]; omega)
        go_round
        case rel => exact ⟨k + 1, by go_num, by omega, HJ2⟩
        case measure => simp [intOf]; omega
    · obtain rfl : k = ls.length := by omega
      have hwt := wt_le ls 60 HJ.out
      have hwt2 : wt ls < 100000 := by
        have : ls.length * 61 ≤ 30 * 61 := Nat.mul_le_mul_right _ (by omega)
        omega
      clear hwt
      go_wp2_with fail
      refine (join_any a s _ ls hwt2 _ HV.out).mono ?_
      rintro e w1 ⟨rfl, hb1⟩
      have HB1 := Lib.hid hb1
      have HV1 := Lib.hid (HV.out.grown hb1)
      clear hb1
      go_wp2_with fail
      refine (rjoin_any a s _ ls hwt2 _ HV1.out).mono ?_
      rintro e w2 ⟨rfl, hb2⟩
      have HB2 := Lib.hid (HB1.out.trans (hb2.mono HB1.out.size))
      clear hb2
      generalize joinL a ls s = jj
      go_wp2_with fail
      refine (wakes_any _).mono ?_
      rintro e w3 ⟨rfl, hb3⟩
      have HB3 := Lib.hid (HB2.out.trans (hb3.mono HB2.out.size))
      clear hb3
      go_wp2_with fail
      go_ret
      exact ⟨rfl, HB3.out⟩
end Go.Proofs.Ytchjioknobmegaa
