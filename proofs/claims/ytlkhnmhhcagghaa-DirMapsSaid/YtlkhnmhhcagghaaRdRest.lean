/- A reader: bytes; noughts. -/
import Derived.Test.YtlkhnmhhcagghaaRdMore
namespace Go.Proofs.Ytlkhnmhhcagghaa
open Go.RowKit

def RawPost (H : Nat) (K : Nat → Prop) (l : List (BitVec 8)) (e : Nat) (n : Int) (w : World) (x : Ending) (w' : World) : Prop :=
  ∃ v, x = .returned v ∧ OwnB w' w.heap.size v (nextRes l e n).1 ∧ RdAt w' H K (nextRes l e n).2.1 (nextRes l e n).2.2 ∧ ButFor H w w'
theorem nextRes_le (l : List (BitVec 8)) (e : Nat) (n : Int) : (nextRes l e n).1.length ≤ l.length := by
  unfold nextRes
  split
  · simp
  · split
    · simp
    · simp; omega
theorem OwnB.mono {w : World} {B B' : Nat} {v : Value} {l : List (BitVec 8)} (h : OwnB w B v l) (hb : B' ≤ B) : OwnB w B' v l := by
  refine ⟨h.1, ?_⟩
  rcases h.2 with hn | ⟨g, cap, cur, rfl, hbg, rest⟩
  · exact .inl hn
  · exact .inr ⟨g, cap, cur, rfl, by omega, rest⟩
theorem raw_any (H : Nat) (l : List (BitVec 8)) (e : Nat) (n : Int) (w : World) {K : Nat → Prop} (hl : l.length ≤ 100000) (hR : RdAt w H K l e) :
    Calls Try.prog 39 #[.pointer (some ⟨H, 0, none⟩), .int .i64 n] w (RawPost H K l e n w) := by
  have HC := Lib.hid (next_any H l e n w hR)
  have hle := nextRes_le l e n
  clear hR
  go_enter Try.func39, Try.ntmps39
  go_wp2_with fail
  refine HC.out.mono ?_
  rintro x w1 ⟨sp, cap, rfl, hcap, hz, hS, hR, hB⟩
  have HS := Lib.hid hS
  have HR := Lib.hid hR
  have HB := Lib.hid hB
  have HZ := Lib.hid hz
  clear hS hR hB hz HC
  go_wp2_with fail
  refine (clone_any (nextRes l e n).1 sp cap w1 (by omega) HZ.out hcap HS.out.srcA).mono ?_
  rintro x w2 ⟨v, rfl, ho, hb⟩
  have HO := Lib.hid ho
  have HB2 := Lib.hid hb
  clear ho hb
  go_wp2
  go_ret
  exact ⟨_, rfl, HO.out.mono HB.out.size, HR.out.below HB2.out (Nat.le_refl _), HB.out.trans (ButFor.of_below HB2.out)⟩

/-- What noughts leave: the bytes, the error. -/
def nouOf (l : List (BitVec 8)) (e : Nat) (n : Int) : List (BitVec 8) × Nat :=
  ((nextRes l e n).2.1, if (nextRes l e n).1.all (· == 0#8) then (nextRes l e n).2.2 else 5)
theorem nextRes_ok (l : List (BitVec 8)) (e : Nat) (n : Int) (h : 0 < (nextRes l e n).1.length) : (nextRes l e n).2.2 = 0 := by
  unfold nextRes at *
  split at h
  · simp at h
  · split at h
    · simp at h
    · rename_i h1 h2; rw [if_neg h1, if_neg h2]
theorem all_take (l : List (BitVec 8)) (k : Nat) (hk : k < l.length) (h : (l.take k).all (· == 0#8) = true) (hx : l.getD k 0 = 0#8) : (l.take (k + 1)).all (· == 0#8) = true := by
  rw [val_take_succ l k hk, List.all_append, h, hx]; rfl
theorem all_no (l : List (BitVec 8)) (k : Nat) (hk : k < l.length) (hx : l.getD k 0 ≠ 0#8) : l.all (· == 0#8) = false := by
  rw [List.all_eq_false]
  refine ⟨l[k], List.getElem_mem hk, ?_⟩
  have : l.getD k 0 = l[k] := by simp [List.getD_eq_getElem?_getD, hk]
  rw [← this]
  simpa using hx
end Go.Proofs.Ytlkhnmhhcagghaa
