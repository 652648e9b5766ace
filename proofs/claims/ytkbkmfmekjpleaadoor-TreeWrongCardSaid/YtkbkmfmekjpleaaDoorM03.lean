/- A reader: what it holds; how it goes over bytes. -/
import Derived.Test.YtkbkmfmekjpleaaDoorM02
namespace Go.Proofs.YtkbkmfmekjpleaaDoor
open Go.RowKit

/-- The bytes bs lie where the slice begins, in a block that meets K. -/
def SrcX (w : World) (K : Nat → Prop) (sp : Option Addr) (bs : List (BitVec 8)) : Prop :=
  0 < bs.length → ∃ g o, sp = some ⟨g, o, none⟩ ∧ K g ∧ g < w.heap.size ∧ ∀ j, j < bs.length → w.cell? ⟨g, o + j, none⟩ = some (V8 (bs.getD j 0))
theorem SrcX.srcA {w : World} {K : Nat → Prop} {sp : Option Addr} {bs : List (BitVec 8)} (h : SrcX w K sp bs) : SrcA w sp bs := fun h0 => by
  obtain ⟨g, o, e, _, hg, hc⟩ := h h0; exact ⟨g, o, e, hg, hc⟩
theorem SrcX.butFor {w W : World} {K : Nat → Prop} {H : Nat} {sp : Option Addr} {bs : List (BitVec 8)} (h : SrcX w K sp bs) (hK : ¬ K H) (hb : ButFor H w W) : SrcX W K sp bs := fun h0 => by
  obtain ⟨g, o, e, hn, hg, hc⟩ := h h0
  exact ⟨g, o, e, hn, Nat.lt_of_lt_of_le hg hb.size, fun j hj => (hb.cell (p := ⟨g, o + j, none⟩) hg (fun e => hK (by rw [← e]; exact hn))).trans (hc j hj)⟩
theorem SrcX.below {w W : World} {K : Nat → Prop} {B : Nat} {sp : Option Addr} {bs : List (BitVec 8)} (h : SrcX w K sp bs) (hb : Below B w W) (hB : w.heap.size ≤ B) : SrcX W K sp bs := fun h0 => by
  obtain ⟨g, o, e, hn, hg, hc⟩ := h h0
  exact ⟨g, o, e, hn, Nat.lt_of_lt_of_le hg hb.size, fun j hj => (hb.cell (p := ⟨g, o + j, none⟩) (Nat.lt_of_lt_of_le hg hB)).trans (hc j hj)⟩
theorem SrcX.take {w : World} {K : Nat → Prop} {sp : Option Addr} {bs : List (BitVec 8)} (h : SrcX w K sp bs) (n : Nat) : SrcX w K sp (bs.take n) := fun h0 => by
  obtain ⟨g, o, e, hn, hg, hc⟩ := h (by simp at h0; omega)
  refine ⟨g, o, e, hn, hg, fun j hj => ?_⟩
  have hj' : j < n ∧ j < bs.length := by simp at hj; omega
  rw [hc j hj'.2]
  simp [List.getD_eq_getElem?_getD, hj'.1]
theorem SrcX.drop {w : World} {K : Nat → Prop} {sp sp2 : Option Addr} {bs : List (BitVec 8)} (h : SrcX w K sp bs) (n : Nat) (hs : n < bs.length → sp2 = sp.map (·.add n)) : SrcX w K sp2 (bs.drop n) := fun h0 => by
  have hn : n < bs.length := by simp at h0; omega
  obtain ⟨g, o, rfl, hne, hg, hc⟩ := h (by omega)
  refine ⟨g, o + n, by rw [hs hn]; simp [Addr.add_mid], hne, hg, fun j hj => ?_⟩
  have hj' : n + j < bs.length := by simp at hj; omega
  rw [show o + n + j = o + (n + j) by omega, hc _ hj']
  simp [List.getD_eq_getElem?_getD]
/-- Block H is a reader: the bytes that are not gone over (in a block that meets K), the error. -/
def RdAt (w : World) (H : Nat) (K : Nat → Prop) (l : List (BitVec 8)) (e : Nat) : Prop :=
  ∃ sp cap, Blk w H [.int .i64 (e : Int), .slice sp l.length cap] 109 ∧ l.length ≤ cap ∧ cap ≤ maxLen ∧ (sp = none → cap = 0) ∧ SrcX w K sp l ∧ ¬ K H
theorem RdAt.lt {w : World} {H : Nat} {K : Nat → Prop} {l : List (BitVec 8)} {e : Nat} (h : RdAt w H K l e) : H < w.heap.size := by obtain ⟨_, _, h, _⟩ := h; exact h.lt
theorem RdAt.below {w W : World} {H B : Nat} {K : Nat → Prop} {l : List (BitVec 8)} {e : Nat} (h : RdAt w H K l e) (hb : Below B w W) (hB : w.heap.size ≤ B) : RdAt W H K l e := by
  obtain ⟨sp, cap, h1, h2, h3, h5, h4, h6⟩ := h
  exact ⟨sp, cap, h1.below hb (Nat.lt_of_lt_of_le h1.lt hB), h2, h3, h5, h4.below hb hB, h6⟩
/-- Another block's work leaves it. -/
theorem RdAt.other {w W : World} {H J : Nat} {K : Nat → Prop} {l : List (BitVec 8)} {e : Nat} (h : RdAt w H K l e) (hb : ButFor J w W) (hn : H ≠ J) (hs : ¬ K J) : RdAt W H K l e := by
  obtain ⟨sp, cap, h1, h2, h3, h5, h4, h6⟩ := h
  exact ⟨sp, cap, hb.blk h1 hn, h2, h3, h5, h4.butFor hs hb, h6⟩

/-- What is gone over, what is left, the error. -/
def nextRes (l : List (BitVec 8)) (e : Nat) (n : Int) : List (BitVec 8) × List (BitVec 8) × Nat :=
  if e ≠ 0 ∨ n ≤ 0 then ([], l, e) else if (l.length : Int) < n then ([], l, 4) else (l.take n.toNat, l.drop n.toNat, 0)

theorem failed_no (H : Nat) (w : World) (hc : w.cell? ⟨H, 0, none⟩ = some (.int .i64 0)) : Calls Tryd.prog 67 #[.pointer (some ⟨H, 0, none⟩)] w fun x w' => x = .returned (.bool false) ∧ w = w' := by
  go_enter Tryd.func67, Tryd.ntmps67
  go_wp2
  go_ret
  exact ⟨rfl, rfl⟩
theorem failed_yes (H e : Nat) (w : World) (he : e ≠ 0) (hc : w.cell? ⟨H, 0, none⟩ = some (.int .i64 (e : Int))) : Calls Tryd.prog 67 #[.pointer (some ⟨H, 0, none⟩)] w fun x w' => x = .returned (.bool true) ∧ w = w' := by
  have h1 : ((e : Int) != 0) = true := by rw [bne_iff_ne]; omega
  have h2 : ((e : Int) == 0) = false := by rw [beq_eq_false_iff_ne]; omega
  have h3 : ¬ (e : Int) = 0 := by omega
  clear he
  go_enter Tryd.func67, Tryd.ntmps67
  go_wp2
  go_ret
  first | exact ⟨rfl, rfl⟩ | exact ⟨by simp [h1, h2, h3], rfl⟩
theorem fail_no (H : Nat) (x : Int) (w : World) (hc : w.cell? ⟨H, 0, none⟩ = some (.int .i64 0)) (hf : w.frozen? ⟨H, 0, none⟩ = false) : Calls Tryd.prog 66 #[.pointer (some ⟨H, 0, none⟩), .int .i64 x] w fun e w' => e = .returned (.tuple #[]) ∧ w.setCell ⟨H, 0, none⟩ (.int .i64 x) = w' := by
  go_enter Tryd.func66, Tryd.ntmps66
  go_wp2_with (go_at_call 67; refine (failed_no H _ hc).mono ?_; rintro e w' ⟨rfl, rfl⟩)
  go_end0
  exact ⟨rfl, rfl⟩
theorem fail_yes (H e : Nat) (x : Int) (w : World) (he : e ≠ 0) (hc : w.cell? ⟨H, 0, none⟩ = some (.int .i64 (e : Int))) : Calls Tryd.prog 66 #[.pointer (some ⟨H, 0, none⟩), .int .i64 x] w fun e w' => e = .returned (.tuple #[]) ∧ w = w' := by
  have HE := Lib.hid he
  clear he
  go_enter Tryd.func66, Tryd.ntmps66
  go_wp2_with (go_at_call 67; refine (failed_yes H e _ HE.out hc).mono ?_; rintro e w' ⟨rfl, rfl⟩)
  go_end0
  exact ⟨rfl, rfl⟩
end Go.Proofs.YtkbkmfmekjpleaaDoor
/- A reader goes over bytes: next; a number of each width. -/
namespace Go.Proofs.YtkbkmfmekjpleaaDoor
open Go.RowKit

/-- What 'next' leaves. -/
def NextPost (H : Nat) (K : Nat → Prop) (l : List (BitVec 8)) (e : Nat) (n : Int) (w : World) (x : Ending) (w' : World) : Prop :=
  ∃ sp cap, x = .returned (.slice sp (nextRes l e n).1.length cap) ∧ (nextRes l e n).1.length ≤ cap ∧ (sp = none → cap = 0) ∧ SrcX w' K sp (nextRes l e n).1 ∧ RdAt w' H K (nextRes l e n).2.1 (nextRes l e n).2.2 ∧ ButFor H w w'

theorem elemB : Tryd.prog.underlying 41 = some (.slice (Tryd.prog.elem 41)) := by kernel_rfl
theorem elemB' : Tryd.prog.elem 41 = 5 := by kernel_rfl
theorem sizeOfB (W : World) : (sizeOf 5).run Tryd.prog W = .ok 1 W := by
  obtain ⟨i, h1, h2⟩ := Option.map_eq_some_iff.1 sizeB
  simp [sizeOf, typeInfo, h1, h2]
theorem sliceFrom (sp : Option Addr) (l c n : Nat) (hn : n ≤ l) (_hc : l ≤ c) : ∃ sp2, (∀ W : World, (Instr.sliceAt 41 (.slice sp l c) (some (.int .i64 (n : Int))) none none).run Tryd.prog W = .ok (.slice sp2 (l - n) (c - n)) W) ∧ (n < c → sp2 = sp.map (·.add n)) ∧ (sp2 = none → sp = none) := by
  refine ⟨if c = n then sp else sp.map (·.add n), fun W => ?_, fun h => if_neg (by omega), fun h => ?_⟩
  · rw [run_sliceAt_slice W 41 _ _ _ _ elemB, run_slice_l W 41 sp l c elemB .i64 n (by omega) (by omega), elemB', sizeOfB]
    simp only [Result.andThen, sliced, Int.toNat_natCast, Nat.mul_one]
  · split at h
    · exact h
    · cases sp <;> simp at h ⊢
theorem sliceTo (sp : Option Addr) (l c n : Nat) (hn : n ≤ c) : ∀ W : World, (Instr.sliceAt 41 (.slice sp l c) none (some (.int .i64 (n : Int))) none).run Tryd.prog W = .ok (.slice sp n c) W := fun W => by
  rw [run_sliceAt_slice W 41 _ _ _ _ elemB, run_slice_h W 41 sp l c elemB .i64 n (by omega) (by omega), elemB', sizeOfB]
  have e : Option.map (fun x : Addr => x.add 0) sp = sp := by cases sp with | none => rfl | some a => cases a; simp [Addr.add]
  simp [Result.andThen, sliced, e]

set_option maxHeartbeats 1000000 in
theorem next_none (H : Nat) (l : List (BitVec 8)) (e : Nat) (n : Int) (w : World) {K : Nat → Prop} (hR : RdAt w H K l e) (h : e ≠ 0 ∨ n ≤ 0) :
    Calls Tryd.prog 65 #[.pointer (some ⟨H, 0, none⟩), .int .i64 n] w (NextPost H K l e n w) := by
  have hr : nextRes l e n = ([], l, e) := if_pos h
  have HP : Hid (NextPost H K l e n w (.returned (.slice none 0 0)) w) := Lib.hid (by unfold NextPost; rw [hr]; exact ⟨none, 0, rfl, by simp, fun _ => rfl, fun h0 => by simp at h0, hR, ButFor.refl _ _⟩)
  obtain ⟨sp, cap, hB, _, _, _, _, _⟩ := hR
  have c0 := hB.cell (j := 0) rfl
  clear hB hr
  by_cases he : e = 0
  · subst he
    have hn : n ≤ 0 := by omega
    clear h
    go_enter Tryd.func65, Tryd.ntmps65
    go_wp2_with (go_at_call 67; refine (failed_no H _ c0).mono ?_; rintro e w' ⟨rfl, rfl⟩)
    go_ret
    exact HP.out
  · have HE := Lib.hid he
    clear he h
    go_enter Tryd.func65, Tryd.ntmps65
    go_wp2_with (go_at_call 67; refine (failed_yes H e _ HE.out c0).mono ?_; rintro e w' ⟨rfl, rfl⟩)
    go_ret
    exact HP.out

set_option maxHeartbeats 1000000 in
theorem next_short (H : Nat) (l : List (BitVec 8)) (n : Nat) (w : World) {K : Nat → Prop} (hR : RdAt w H K l 0) (hn : 0 < n) (h : l.length < n) :
    Calls Tryd.prog 65 #[.pointer (some ⟨H, 0, none⟩), .int .i64 (n : Int)] w (NextPost H K l 0 n w) := by
  have hr : nextRes l 0 n = ([], l, 4) := by unfold nextRes; rw [if_neg (by omega), if_pos (by omega)]
  obtain ⟨sp, cap, hB, h1, h2, h4, h3, hk⟩ := hR
  have HP : Hid (NextPost H K l 0 n w (.returned (.slice none 0 0)) (w.setCell ⟨H, 0, none⟩ (.int .i64 4))) := Lib.hid (by
    unfold NextPost; rw [hr]
    have hbf : ButFor H w (w.setCell ⟨H, 0, none⟩ (.int .i64 4)) := (ButFor.refl _ _).set _ _
    exact ⟨none, 0, rfl, by simp, fun _ => rfl, fun h0 => by simp at h0, ⟨sp, cap, hB.set 0 (.int .i64 4), h1, h2, h4, h3.butFor hk hbf, hk⟩, hbf⟩)
  have c0 := hB.cell (j := 0) rfl
  have c1 := hB.cell (j := 1) rfl
  have f0 := hB.free 0
  have g1 : (l.length : Int) < (n : Int) := by omega
  have g2 : (0 : Int) < (n : Int) := by omega
  obtain ⟨L, hL⟩ : ∃ L, l.length = L := ⟨_, rfl⟩
  rw [hL] at c1 g1
  clear hB h1 h2 h3 h4 hk hL h hn hr
  go_enter Tryd.func65, Tryd.ntmps65
  go_wp2_with (first
    | (go_at_call 67; refine (failed_no H _ c0).mono ?_; rintro e w' ⟨rfl, rfl⟩)
    | (go_at_call 66; refine (fail_no H _ _ c0 f0).mono ?_; rintro e w' ⟨rfl, rfl⟩))
  go_ret
  exact HP.out

set_option maxHeartbeats 1000000 in
theorem next_ok (H : Nat) (l : List (BitVec 8)) (n : Nat) (w : World) {K : Nat → Prop} (hR : RdAt w H K l 0) (hn : 0 < n) (h : n ≤ l.length) :
    Calls Tryd.prog 65 #[.pointer (some ⟨H, 0, none⟩), .int .i64 (n : Int)] w (NextPost H K l 0 n w) := by
  have hr : nextRes l 0 n = (l.take n, l.drop n, 0) := by unfold nextRes; rw [if_neg (by omega), if_neg (by omega), Int.toNat_natCast]
  obtain ⟨sp, cap, hB, h1, h2, h5, h3, hk⟩ := hR
  obtain ⟨sp2, e2, e3, e4⟩ := sliceFrom sp l.length cap n h h1
  have e1 := sliceTo sp l.length cap n (by omega)
  have HP : Hid (NextPost H K l 0 n w (.returned (.slice sp n cap)) (w.setCell ⟨H, 1, none⟩ (.slice sp2 (l.length - n) (cap - n)))) := Lib.hid (by
    unfold NextPost; rw [hr]
    have hbf : ButFor H w (w.setCell ⟨H, 1, none⟩ (.slice sp2 (l.length - n) (cap - n))) := (ButFor.refl _ _).set _ _
    have hl : (l.take n).length = n := by simp; omega
    refine ⟨sp, cap, by simp only; rw [hl], by simp; omega, h5, (h3.take n).butFor hk hbf, ⟨sp2, cap - n, ?_, by simp; omega, by omega, fun h0 => by have := h5 (e4 h0); omega, ?_, hk⟩, hbf⟩
    · have := hB.set 1 (.slice sp2 (l.length - n) (cap - n))
      simpa using this
    · exact (h3.drop n (fun hlt => e3 (by omega))).butFor hk hbf)
  have c0 := hB.cell (j := 0) rfl
  have c1 := hB.cell (j := 1) rfl
  have f1 := hB.free 1
  have g1 : (n : Int) ≤ (l.length : Int) := by omega
  have g2 : (0 : Int) < (n : Int) := by omega
  obtain ⟨L, hL⟩ : ∃ L, l.length = L := ⟨_, rfl⟩
  rw [hL] at c1 g1 e1 e2 HP
  clear hB h1 h2 h3 h5 hk hL h hn hr e3 e4
  go_enter Tryd.func65, Tryd.ntmps65
  go_wp2_with (go_at_call 67; refine (failed_no H _ c0).mono ?_; rintro e w' ⟨rfl, rfl⟩)
  go_ret
  exact HP.out

theorem next_any (H : Nat) (l : List (BitVec 8)) (e : Nat) (n : Int) (w : World) {K : Nat → Prop} (hR : RdAt w H K l e) :
    Calls Tryd.prog 65 #[.pointer (some ⟨H, 0, none⟩), .int .i64 n] w (NextPost H K l e n w) := by
  by_cases h : e ≠ 0 ∨ n ≤ 0
  · exact next_none H l e n w hR h
  · obtain rfl : e = 0 := by omega
    obtain ⟨m, rfl⟩ := Int.eq_ofNat_of_zero_le (show 0 ≤ n by omega)
    by_cases hs : l.length < m
    · exact next_short H l m w hR (by omega) hs
    · exact next_ok H l m w hR (by omega) (by omega)
end Go.Proofs.YtkbkmfmekjpleaaDoor
