/- A reader: what it holds; how it goes over bytes. -/
import Derived.Test.YtlkhnmhhcagghaaPut
namespace Go.Proofs.Ytlkhnmhhcagghaa
open Go.RowKit

/-- The bytes bs lie where the slice begins, in a block that meets K. -/
def SrcX (w : World) (K : Nat → Prop) (sp : Option Addr) (bs : List (BitVec 8)) : Prop :=
  0 < bs.length → ∃ g o, sp = some ⟨g, o, none⟩ ∧ K g ∧ g < w.heap.size ∧ ∀ j, j < bs.length → w.cell? ⟨g, o + j, none⟩ = some (V8 (bs.getD j 0))
theorem SrcX.srcA {w : World} {K : Nat → Prop} {sp : Option Addr} {bs : List (BitVec 8)} (h : SrcX w K sp bs) : SrcA w sp bs := fun h0 => by
  obtain ⟨g, o, e, _, hg, hc⟩ := h h0; exact ⟨g, o, e, hg, hc⟩
theorem SrcX.butFor {w W : World} {K : Nat → Prop} {H : Nat} {sp : Option Addr} {bs : List (BitVec 8)} (h : SrcX w K sp bs) (hK : ¬ K H) (hb : ButFor H w W) : SrcX W K sp bs := fun h0 => by
  obtain ⟨g, o, e, hn, hg, hc⟩ := h h0
  exact ⟨g, o, e, hn, Nat.lt_of_lt_of_le hg hb.size, fun j hj => (hb.cell (p := ⟨g, o + j, none⟩) hg (fun e => hK (by rw [← e]; exact hn))).trans (hc j hj)⟩
theorem SrcX.below {w W : World} {K : Nat → Prop} {B : Nat} {sp : Option Addr} {bs : List (BitVec 8)} (h : SrcX w K sp bs) (hb : Below B w W) (hB : w.heap.size ≤ B) : SrcX W K sp bs := fun h0 => by
  obtain ⟨g, o, e, hn, hg, hc⟩ := h h0
  exact ⟨g, o, e, hn, Nat.lt_of_lt_of_le hg hb.size, fun j hj => (hb.cell (p := ⟨g, o + j, none⟩) (Nat.lt_of_lt_of_le hg hB)).trans (hc j hj)⟩
theorem SrcX.take {w : World} {K : Nat → Prop} {sp : Option Addr} {bs : List (BitVec 8)} (h : SrcX w K sp bs) (n : Nat) : SrcX w K sp (bs.take n) := fun h0 => by
  obtain ⟨g, o, e, hn, hg, hc⟩ := h (by simp at h0; omega)
  refine ⟨g, o, e, hn, hg, fun j hj => ?_⟩
  have hj' : j < n ∧ j < bs.length := by simp at hj; omega
  rw [hc j hj'.2]
  simp [List.getD_eq_getElem?_getD, hj'.1]
theorem SrcX.drop {w : World} {K : Nat → Prop} {sp sp2 : Option Addr} {bs : List (BitVec 8)} (h : SrcX w K sp bs) (n : Nat) (hs : n < bs.length → sp2 = sp.map (·.add n)) : SrcX w K sp2 (bs.drop n) := fun h0 => by
  have hn : n < bs.length := by simp at h0; omega
  obtain ⟨g, o, rfl, hne, hg, hc⟩ := h (by omega)
  refine ⟨g, o + n, by rw [hs hn]; simp [Addr.add_mid], hne, hg, fun j hj => ?_⟩
  have hj' : n + j < bs.length := by simp at hj; omega
  rw [show o + n + j = o + (n + j) by omega, hc _ hj']
  simp [List.getD_eq_getElem?_getD]
/-- Block H is a reader: the bytes that are not gone over (in a block that meets K), the error. -/
def RdAt (w : World) (H : Nat) (K : Nat → Prop) (l : List (BitVec 8)) (e : Nat) : Prop :=
  ∃ sp cap, Blk w H [.int .i64 (e : Int), .slice sp l.length cap] 76 ∧ l.length ≤ cap ∧ cap ≤ maxLen ∧ (sp = none → cap = 0) ∧ SrcX w K sp l ∧ ¬ K H
theorem RdAt.lt {w : World} {H : Nat} {K : Nat → Prop} {l : List (BitVec 8)} {e : Nat} (h : RdAt w H K l e) : H < w.heap.size := by obtain ⟨_, _, h, _⟩ := h; exact h.lt
theorem RdAt.below {w W : World} {H B : Nat} {K : Nat → Prop} {l : List (BitVec 8)} {e : Nat} (h : RdAt w H K l e) (hb : Below B w W) (hB : w.heap.size ≤ B) : RdAt W H K l e := by
  obtain ⟨sp, cap, h1, h2, h3, h5, h4, h6⟩ := h
  exact ⟨sp, cap, h1.below hb (Nat.lt_of_lt_of_le h1.lt hB), h2, h3, h5, h4.below hb hB, h6⟩
/-- Another block's work leaves it. -/
theorem RdAt.other {w W : World} {H J : Nat} {K : Nat → Prop} {l : List (BitVec 8)} {e : Nat} (h : RdAt w H K l e) (hb : ButFor J w W) (hn : H ≠ J) (hs : ¬ K J) : RdAt W H K l e := by
  obtain ⟨sp, cap, h1, h2, h3, h5, h4, h6⟩ := h
  exact ⟨sp, cap, hb.blk h1 hn, h2, h3, h5, h4.butFor hs hb, h6⟩

/-- What is gone over, what is left, the error. -/
def nextRes (l : List (BitVec 8)) (e : Nat) (n : Int) : List (BitVec 8) × List (BitVec 8) × Nat :=
  if e ≠ 0 ∨ n ≤ 0 then ([], l, e) else if (l.length : Int) < n then ([], l, 4) else (l.take n.toNat, l.drop n.toNat, 0)

theorem failed_no (H : Nat) (w : World) (hc : w.cell? ⟨H, 0, none⟩ = some (.int .i64 0)) : Calls Try.prog 38 #[.pointer (some ⟨H, 0, none⟩)] w fun x w' => x = .returned (.bool false) ∧ w = w' := by
  go_enter Try.func38, Try.ntmps38
  go_wp2
  go_ret
  exact ⟨rfl, rfl⟩
theorem failed_yes (H e : Nat) (w : World) (he : e ≠ 0) (hc : w.cell? ⟨H, 0, none⟩ = some (.int .i64 (e : Int))) : Calls Try.prog 38 #[.pointer (some ⟨H, 0, none⟩)] w fun x w' => x = .returned (.bool true) ∧ w = w' := by
  have h1 : ((e : Int) != 0) = true := by rw [bne_iff_ne]; omega
  have h2 : ((e : Int) == 0) = false := by rw [beq_eq_false_iff_ne]; omega
  have h3 : ¬ (e : Int) = 0 := by omega
  clear he
  go_enter Try.func38, Try.ntmps38
  go_wp2
  go_ret
  first | exact ⟨rfl, rfl⟩ | exact ⟨by simp [h1, h2, h3], rfl⟩
theorem fail_no (H : Nat) (x : Int) (w : World) (hc : w.cell? ⟨H, 0, none⟩ = some (.int .i64 0)) (hf : w.frozen? ⟨H, 0, none⟩ = false) : Calls Try.prog 42 #[.pointer (some ⟨H, 0, none⟩), .int .i64 x] w fun e w' => e = .returned (.tuple #[]) ∧ w.setCell ⟨H, 0, none⟩ (.int .i64 x) = w' := by
  go_enter Try.func42, Try.ntmps42
  go_wp2_with (go_at_call 38; refine (failed_no H _ hc).mono ?_; rintro e w' ⟨rfl, rfl⟩)
  go_end0
  exact ⟨rfl, rfl⟩
theorem fail_yes (H e : Nat) (x : Int) (w : World) (he : e ≠ 0) (hc : w.cell? ⟨H, 0, none⟩ = some (.int .i64 (e : Int))) : Calls Try.prog 42 #[.pointer (some ⟨H, 0, none⟩), .int .i64 x] w fun e w' => e = .returned (.tuple #[]) ∧ w = w' := by
  have HE := Lib.hid he
  clear he
  go_enter Try.func42, Try.ntmps42
  go_wp2_with (go_at_call 38; refine (failed_yes H e _ HE.out hc).mono ?_; rintro e w' ⟨rfl, rfl⟩)
  go_end0
  exact ⟨rfl, rfl⟩
end Go.Proofs.Ytlkhnmhhcagghaa
