/- The document's faults, names, runes. -/
import Derived.Test.YtlkhnmhhcagghaaJwid
import Derived.Test.YtlkhnmhhcagghaaJtx2
namespace Go.Proofs.Ytlkhnmhhcagghaa
open Go.RowKit

theorem gb_drop0 (l : List UInt8) (n : Nat) : gb (l.drop n) 0 = gb l n := by rw [gb_drop, Nat.add_zero]
theorem drop_ne {l : List UInt8} {n : Nat} (h : n < l.length) : l.drop n ≠ [] := by
  intro e
  have := congrArg List.length e
  simp at this
  omega
/-- With 47 a name, with 0 a path. -/
theorem flt_bad (nm : Bool) (bad : Nat) (hb : bad = if nm = true then 47 else 0) {l : List UInt8} (hl : l ≠ []) :
    flt nm l = if decL l = (65533, 1) then 36 else if gb l 0 = 0 ∨ gb l 0 = bad then 26 else flt nm (l.drop (decL l).2) := by
  rw [flt_step nm hl]
  simp only [decL_rune hl (c := 0) (by decide), decL_rune hl (c := 47) (by decide)]
  cases nm
  · have : bad = 0 := by simpa using hb
    subst this
    simp
  · have : bad = 47 := by simpa using hb
    subst this
    simp

set_option maxRecDepth 100000 in
set_option maxHeartbeats 4000000 in
theorem rFault_any (nm : Bool) (l : List UInt8) (bad : Nat) (hb : bad = if nm = true then 47 else 0) (hl : l.length < 1000000) (w : World) :
    Calls Try.prog 51 #[.string (str l), .int .u8 (bad : Int)] w fun e w' => e = .returned (.int .i64 (flt nm l)) ∧ w' = w := by
  have hsz := str_size l
  have HB := Lib.hid hb
  clear hb
  go_enter Try.func51, Try.ntmps51
  go_wp2_with fail
  go_loop [5] (fun i => ∃ k : Nat, i = .int .i64 k ∧ k ≤ l.length ∧ Hid (flt nm (l.drop k) = flt nm l)) (fun i => l.length - (intOf i).toNat)
  case atStart => exact ⟨0, rfl, by omega, Lib.hid rfl⟩
  case round =>
    obtain ⟨k, rfl, hk, HF⟩ := hrel
    by_cases hlt : k < l.length
    · have hne := drop_ne hlt
      have hstep := flt_bad nm bad HB.out hne
      rw [gb_drop0, List.drop_drop] at hstep
      have hpos := decL_pos hne
      rw [List.length_drop] at hpos
      have hg := gb_lt l k
      obtain ⟨g, hgv⟩ : ∃ g : Int, (gb l k : Int) = g := ⟨_, rfl⟩
      have hx := idx' l k g hlt hgv
      by_cases hz : decL (l.drop k) = (65533, 1)
      · rw [if_pos hz, HF.out] at hstep
        have hw0 : wid (l.drop k) = 0 := by unfold wid; rw [if_pos hz]
        have HE := Lib.hid hstep
        have HW := Lib.hid hw0
        clear hstep hw0 hz hpos
        go_wp2_with (go_at_call 55; refine (wid_any l k hlt hl _).mono ?_; rintro e w' ⟨rfl, rfl⟩; rw [HW.out])
        go_ret
        rw [HE.out]
        exact ⟨rfl, rfl⟩
      · rw [if_neg hz, HF.out] at hstep
        have hw0 : wid (l.drop k) = (decL (l.drop k)).2 := by unfold wid; rw [if_neg hz]
        obtain ⟨m, hm⟩ : ∃ m : Nat, (decL (l.drop k)).2 = m := ⟨_, rfl⟩
        rw [hm] at hstep hw0 hpos
        have HE := Lib.hid hstep
        have HW := Lib.hid hw0
        have HGV := Lib.hid hgv
        clear hstep hw0 hz hm hgv
        go_wp2_with (go_at_call 55; refine (wid_any l k hlt hl _).mono ?_; rintro e w' ⟨rfl, rfl⟩; rw [HW.out])
        · rename_i hg0
          go_ret
          rw [HE.out, if_pos (Or.inl (by have := HGV.out; omega))]
          exact ⟨rfl, rfl⟩
        · rename_i hg0 hor
          go_ret
          have hgb : gb l k = bad := by
            have h1 := HGV.out
            rcases hor with h | h
            · simp at h; exact absurd h hg0
            · simp at h; omega
          rw [HE.out, if_pos (Or.inr hgb)]
          exact ⟨rfl, rfl⟩
        · rename_i hand
          have hnn : ¬ (gb l k = 0 ∨ gb l k = bad) := by
            have h1 := HGV.out
            rintro (h | h)
            · have h2 := hand.1
              simp at h2
              omega
            · have h2 := hand.2
              simp at h2
              omega
          have HN := Lib.hid hnn
          clear hnn hand
          go_round
          case rel => exact ⟨k + m, by go_num, by omega, Lib.hid (by rw [HE.out, if_neg HN.out])⟩
          case measure => simp [intOf]; omega
    · obtain rfl : k = l.length := by omega
      have h0 : flt nm l = 0 := by
        rw [← HF.out, List.drop_length]
        rfl
      go_wp2_with fail
      go_ret
      exact ⟨rfl, rfl⟩

set_option maxRecDepth 100000 in
set_option maxHeartbeats 4000000 in
theorem rCheck_any (l : List UInt8) (hl : l.length < 1000000) (w : World) :
    Calls Try.prog 45 #[.string (str l)] w fun e w' => e = .returned (.int .i64 (errC l)) ∧ w' = w := by
  have hsz := str_size l
  obtain ⟨v, hv⟩ : ∃ v : Nat, flt true l = v := ⟨_, rfl⟩
  have HV := Lib.hid hv
  have HC : Hid (errC l = if v ≠ 0 then v else if l = [] ∨ l = [46] ∨ l = [46, 46] then 26 else if 24 < l.length then 33 else 0) := Lib.hid (by unfold errC; rw [hv])
  clear hv
  go_enter Try.func45, Try.ntmps45
  go_wp2_with (go_at_call 51; refine (rFault_any true l 47 rfl hl _).mono ?_; rintro e w' ⟨rfl, rfl⟩; rw [HV.out])
  · have h1 : ((v : Int) != 0) = true := by assumption
    go_ret
    rw [HC.out, if_pos (by simpa using h1)]
    exact ⟨rfl, rfl⟩
  · have h1 : ((v : Int) != 0) = false := by assumption
    have h2 : l = [] := by assumption
    go_ret
    rw [HC.out, if_neg (by simpa using h1), if_pos (.inl h2)]
    exact ⟨rfl, rfl⟩
  · have h1 : ((v : Int) != 0) = false := by assumption
    have h2 : l = [46] := by assumption
    go_ret
    rw [HC.out, if_neg (by simpa using h1), if_pos (.inr (.inl h2))]
    exact ⟨rfl, rfl⟩
  · have h1 : ((v : Int) != 0) = false := by assumption
    have h4 : (l.isEmpty = true ∨ (l == [46]) = true) ∨ (l == [46, 46]) = true := by assumption
    go_ret
    rw [HC.out, if_neg (by simpa using h1), if_pos (by simpa [or_assoc] using h4)]
    exact ⟨rfl, rfl⟩
  · have h1 : ((v : Int) != 0) = false := by assumption
    have h4 : (l.isEmpty = false ∧ (l == [46]) = false) ∧ (l == [46, 46]) = false := by assumption
    have h5 : 24 < (l.length : Int) := by assumption
    go_ret
    rw [HC.out, if_neg (by simpa using h1), if_neg (by simp at h4; simp [h4]), if_pos (by omega)]
    exact ⟨rfl, rfl⟩
  · have h1 : ((v : Int) != 0) = false := by assumption
    have h4 : (l.isEmpty = false ∧ (l == [46]) = false) ∧ (l == [46, 46]) = false := by assumption
    have h5 : (l.length : Int) ≤ 24 := by assumption
    go_ret
    rw [HC.out, if_neg (by simpa using h1), if_neg (by simp at h4; simp [h4]), if_neg (by omega)]
    exact ⟨rfl, rfl⟩
end Go.Proofs.Ytlkhnmhhcagghaa
