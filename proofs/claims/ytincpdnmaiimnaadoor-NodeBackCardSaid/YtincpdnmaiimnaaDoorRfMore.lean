/- The document's own reader: noughts, the end. -/
import Derived.Test.YtincpdnmaiimnaaDoorRfn
import Derived.RegionTactic
import Derived.Test.YtincpdnmaiimnaaDoorReg
import Derived.Test.YtincpdnmaiimnaaDoorRdRest
namespace Go.Proofs.YtincpdnmaiimnaaDoor
open Go.RowKit

/-- A reader that is told. -/
def RefOf (K : Nat → Prop) (l : List (BitVec 8)) (e : Nat) (w : World) (x : Ending) (w' : World) : Prop :=
  ∃ sp cap, x = .returned (RefV sp l cap e) ∧ RefIs w' K sp l cap ∧ Below w.heap.size w w'
def refEnd (l : List (BitVec 8)) (e : Nat) : List (BitVec 8) × Nat := if e = 0 ∧ 0 < l.length then ([], 5) else (l, e)
theorem refNil (w : World) (K : Nat → Prop) : RefIs w K none [] 0 := ⟨by simp, fun _ => rfl, fun h => by simp at h⟩
theorem refEnd_any (l : List (BitVec 8)) (sp : Option Addr) (cap e : Nat) (w : World) {K : Nat → Prop} (hR : RefIs w K sp l cap) :
    Calls Tryd.prog 14 #[.agg #[.slice sp l.length cap, .int .i64 (e : Int)]] w (RefOf K (refEnd l e).1 (refEnd l e).2 w) := by
  have HR := Lib.hid hR
  clear hR
  have HB : ∀ o1 o2, Below w.heap.size w ((w.alloc o1).alloc o2) := fun o1 o2 => ((Below.refl _ _).alloc (Nat.le_refl _) _).alloc (by simp) _
  have HBH := Lib.hid HB
  clear HB
  by_cases h : e = 0 ∧ 0 < l.length
  · obtain ⟨rfl, hl⟩ := h
    have HE : Hid (refEnd l 0 = ([], 5)) := Lib.hid (if_pos ⟨rfl, hl⟩)
    rw [HE.out]
    have h0 : (0 : Int) < (l.length : Int) := by omega
    clear hl
    go_enter Tryd.func14, Tryd.ntmps14
    go_wp2
    exact bodyPost_ret (v := .agg #[.slice none 0 0, .int .i64 5]) (by simp [results, Tryd.results14, go_sem]) rfl ⟨none, 0, rfl, refNil _ _, HBH.out _ _⟩
  · have HE : Hid (refEnd l e = (l, e)) := Lib.hid (if_neg h)
    rw [HE.out]
    by_cases he : e = 0
    · subst he
      have h0 : ¬ (0 : Int) < (l.length : Int) := by omega
      clear h
      go_enter Tryd.func14, Tryd.ntmps14
      go_wp2
      exact bodyPost_ret (v := .agg #[.slice sp l.length cap, .int .i64 0]) (by simp [results, Tryd.results14, go_sem]) rfl ⟨sp, cap, rfl, HR.out.below (HBH.out _ _), HBH.out _ _⟩
    · have h1 : ((e : Int) == 0) = false := by rw [beq_eq_false_iff_ne]; omega
      have h3 : ¬ (e : Int) = 0 := by omega
      clear h he
      go_enter Tryd.func14, Tryd.ntmps14
      go_wp2
      exact bodyPost_ret (v := .agg #[.slice sp l.length cap, .int .i64 (e : Int)]) (by simp [results, Tryd.results14, go_sem]) rfl ⟨sp, cap, rfl, HR.out.below (HBH.out _ _), HBH.out _ _⟩

/-- What noughts leave. -/
def refNou (l : List (BitVec 8)) (e : Nat) (n : Int) : List (BitVec 8) × Nat :=
  if (refRes l e n).1.all (· == 0#8) then ((refRes l e n).2.1, (refRes l e n).2.2) else ([], 5)
theorem refRes_le (l : List (BitVec 8)) (e : Nat) (n : Int) : (refRes l e n).1.length ≤ l.length := by
  unfold refRes
  split
  · simp
  · split
    · simp
    · simp; omega
end Go.Proofs.YtincpdnmaiimnaaDoor
