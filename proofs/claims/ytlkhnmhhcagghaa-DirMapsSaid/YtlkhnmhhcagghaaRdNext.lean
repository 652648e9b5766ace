/- A reader goes over bytes: next; a number of each width. -/
import Derived.Test.YtlkhnmhhcagghaaRd
namespace Go.Proofs.Ytlkhnmhhcagghaa
open Go.RowKit

/-- What 'next' leaves. -/
def NextPost (H : Nat) (K : Nat → Prop) (l : List (BitVec 8)) (e : Nat) (n : Int) (w : World) (x : Ending) (w' : World) : Prop :=
  ∃ sp cap, x = .returned (.slice sp (nextRes l e n).1.length cap) ∧ (nextRes l e n).1.length ≤ cap ∧ (sp = none → cap = 0) ∧ SrcX w' K sp (nextRes l e n).1 ∧ RdAt w' H K (nextRes l e n).2.1 (nextRes l e n).2.2 ∧ ButFor H w w'

theorem elemB : Try.prog.underlying 23 = some (.slice (Try.prog.elem 23)) := by kernel_rfl
theorem elemB' : Try.prog.elem 23 = 5 := by kernel_rfl
theorem sizeOfB (W : World) : (sizeOf 5).run Try.prog W = .ok 1 W := by
  obtain ⟨i, h1, h2⟩ := Option.map_eq_some_iff.1 sizeB
  simp [sizeOf, typeInfo, h1, h2]
theorem sliceFrom (sp : Option Addr) (l c n : Nat) (hn : n ≤ l) (_hc : l ≤ c) : ∃ sp2, (∀ W : World, (Instr.sliceAt 23 (.slice sp l c) (some (.int .i64 (n : Int))) none none).run Try.prog W = .ok (.slice sp2 (l - n) (c - n)) W) ∧ (n < c → sp2 = sp.map (·.add n)) ∧ (sp2 = none → sp = none) := by
  refine ⟨if c = n then sp else sp.map (·.add n), fun W => ?_, fun h => if_neg (by omega), fun h => ?_⟩
  · rw [run_sliceAt_slice W 23 _ _ _ _ elemB, run_slice_l W 23 sp l c elemB .i64 n (by omega) (by omega), elemB', sizeOfB]
    simp only [Result.andThen, sliced, Int.toNat_natCast, Nat.mul_one]
  · split at h
    · exact h
    · cases sp <;> simp at h ⊢
theorem sliceTo (sp : Option Addr) (l c n : Nat) (hn : n ≤ c) : ∀ W : World, (Instr.sliceAt 23 (.slice sp l c) none (some (.int .i64 (n : Int))) none).run Try.prog W = .ok (.slice sp n c) W := fun W => by
  rw [run_sliceAt_slice W 23 _ _ _ _ elemB, run_slice_h W 23 sp l c elemB .i64 n (by omega) (by omega), elemB', sizeOfB]
  have e : Option.map (fun x : Addr => x.add 0) sp = sp := by cases sp with | none => rfl | some a => cases a; simp [Addr.add]
  simp [Result.andThen, sliced, e]

set_option maxHeartbeats 1000000 in
theorem next_none (H : Nat) (l : List (BitVec 8)) (e : Nat) (n : Int) (w : World) {K : Nat → Prop} (hR : RdAt w H K l e) (h : e ≠ 0 ∨ n ≤ 0) :
    Calls Try.prog 47 #[.pointer (some ⟨H, 0, none⟩), .int .i64 n] w (NextPost H K l e n w) := by
  have hr : nextRes l e n = ([], l, e) := if_pos h
  have HP : Hid (NextPost H K l e n w (.returned (.slice none 0 0)) w) := Lib.hid (by unfold NextPost; rw [hr]; exact ⟨none, 0, rfl, by simp, fun _ => rfl, fun h0 => by simp at h0, hR, ButFor.refl _ _⟩)
  obtain ⟨sp, cap, hB, _, _, _, _, _⟩ := hR
  have c0 := hB.cell (j := 0) rfl
  clear hB hr
  by_cases he : e = 0
  · subst he
    have hn : n ≤ 0 := by omega
    clear h
    go_enter Try.func47, Try.ntmps47
    go_wp2_with (go_at_call 38; refine (failed_no H _ c0).mono ?_; rintro e w' ⟨rfl, rfl⟩)
    go_ret
    exact HP.out
  · have HE := Lib.hid he
    clear he h
    go_enter Try.func47, Try.ntmps47
    go_wp2_with (go_at_call 38; refine (failed_yes H e _ HE.out c0).mono ?_; rintro e w' ⟨rfl, rfl⟩)
    go_ret
    exact HP.out

set_option maxHeartbeats 1000000 in
theorem next_short (H : Nat) (l : List (BitVec 8)) (n : Nat) (w : World) {K : Nat → Prop} (hR : RdAt w H K l 0) (hn : 0 < n) (h : l.length < n) :
    Calls Try.prog 47 #[.pointer (some ⟨H, 0, none⟩), .int .i64 (n : Int)] w (NextPost H K l 0 n w) := by
  have hr : nextRes l 0 n = ([], l, 4) := by unfold nextRes; rw [if_neg (by omega), if_pos (by omega)]
  obtain ⟨sp, cap, hB, h1, h2, h4, h3, hk⟩ := hR
  have HP : Hid (NextPost H K l 0 n w (.returned (.slice none 0 0)) (w.setCell ⟨H, 0, none⟩ (.int .i64 4))) := Lib.hid (by
    unfold NextPost; rw [hr]
    have hbf : ButFor H w (w.setCell ⟨H, 0, none⟩ (.int .i64 4)) := (ButFor.refl _ _).set _ _
    exact ⟨none, 0, rfl, by simp, fun _ => rfl, fun h0 => by simp at h0, ⟨sp, cap, hB.set 0 (.int .i64 4), h1, h2, h4, h3.butFor hk hbf, hk⟩, hbf⟩)
  have c0 := hB.cell (j := 0) rfl
  have c1 := hB.cell (j := 1) rfl
  have f0 := hB.free 0
  have g1 : (l.length : Int) < (n : Int) := by omega
  have g2 : (0 : Int) < (n : Int) := by omega
  obtain ⟨L, hL⟩ : ∃ L, l.length = L := ⟨_, rfl⟩
  rw [hL] at c1 g1
  clear hB h1 h2 h3 h4 hk hL h hn hr
  go_enter Try.func47, Try.ntmps47
  go_wp2_with (first
    | (go_at_call 38; refine (failed_no H _ c0).mono ?_; rintro e w' ⟨rfl, rfl⟩)
    | (go_at_call 42; refine (fail_no H _ _ c0 f0).mono ?_; rintro e w' ⟨rfl, rfl⟩))
  go_ret
  exact HP.out

set_option maxHeartbeats 1000000 in
theorem next_ok (H : Nat) (l : List (BitVec 8)) (n : Nat) (w : World) {K : Nat → Prop} (hR : RdAt w H K l 0) (hn : 0 < n) (h : n ≤ l.length) :
    Calls Try.prog 47 #[.pointer (some ⟨H, 0, none⟩), .int .i64 (n : Int)] w (NextPost H K l 0 n w) := by
  have hr : nextRes l 0 n = (l.take n, l.drop n, 0) := by unfold nextRes; rw [if_neg (by omega), if_neg (by omega), Int.toNat_natCast]
  obtain ⟨sp, cap, hB, h1, h2, h5, h3, hk⟩ := hR
  obtain ⟨sp2, e2, e3, e4⟩ := sliceFrom sp l.length cap n h h1
  have e1 := sliceTo sp l.length cap n (by omega)
  have HP : Hid (NextPost H K l 0 n w (.returned (.slice sp n cap)) (w.setCell ⟨H, 1, none⟩ (.slice sp2 (l.length - n) (cap - n)))) := Lib.hid (by
    unfold NextPost; rw [hr]
    have hbf : ButFor H w (w.setCell ⟨H, 1, none⟩ (.slice sp2 (l.length - n) (cap - n))) := (ButFor.refl _ _).set _ _
    have hl : (l.take n).length = n := by simp; omega
    refine ⟨sp, cap, by simp only; rw [hl], by simp; omega, h5, (h3.take n).butFor hk hbf, ⟨sp2, cap - n, ?_, by simp; omega, by omega, fun h0 => by have := h5 (e4 h0); omega, ?_, hk⟩, hbf⟩
    · have := hB.set 1 (.slice sp2 (l.length - n) (cap - n))
      simpa using this
    · exact (h3.drop n (fun hlt => e3 (by omega))).butFor hk hbf)
  have c0 := hB.cell (j := 0) rfl
  have c1 := hB.cell (j := 1) rfl
  have f1 := hB.free 1
  have g1 : (n : Int) ≤ (l.length : Int) := by omega
  have g2 : (0 : Int) < (n : Int) := by omega
  obtain ⟨L, hL⟩ : ∃ L, l.length = L := ⟨_, rfl⟩
  rw [hL] at c1 g1 e1 e2 HP
  clear hB h1 h2 h3 h5 hk hL h hn hr e3 e4
  go_enter Try.func47, Try.ntmps47
  go_wp2_with (go_at_call 38; refine (failed_no H _ c0).mono ?_; rintro e w' ⟨rfl, rfl⟩)
  go_ret
  exact HP.out

theorem next_any (H : Nat) (l : List (BitVec 8)) (e : Nat) (n : Int) (w : World) {K : Nat → Prop} (hR : RdAt w H K l e) :
    Calls Try.prog 47 #[.pointer (some ⟨H, 0, none⟩), .int .i64 n] w (NextPost H K l e n w) := by
  by_cases h : e ≠ 0 ∨ n ≤ 0
  · exact next_none H l e n w hR h
  · obtain rfl : e = 0 := by omega
    obtain ⟨m, rfl⟩ := Int.eq_ofNat_of_zero_le (show 0 ≤ n by omega)
    by_cases hs : l.length < m
    · exact next_short H l m w hR (by omega) hs
    · exact next_ok H l m w hR (by omega) (by omega)
end Go.Proofs.Ytlkhnmhhcagghaa
