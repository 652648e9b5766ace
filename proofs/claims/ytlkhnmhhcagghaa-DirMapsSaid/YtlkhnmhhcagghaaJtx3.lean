/- Texts, plainly: how wide a rune is. -/
import Derived.Test.YtlkhnmhhcagghaaJtxt
namespace Go.Proofs.Ytlkhnmhhcagghaa
open Go

/-- How many bytes the rune has that begins a text; 0: none begins. -/
def wid (l : List UInt8) : Nat := if decL l = (65533, 1) then 0 else (decL l).2
def widN (n b0 b1 b2 b3 : Nat) : Nat := if Lib.decodeN n b0 b1 b2 b3 = (65533, 1) then 0 else (Lib.decodeN n b0 b1 b2 b3).2
theorem widN_1 (n b0 b1 b2 b3 : Nat) (h : b0 < 128) : widN n b0 b1 b2 b3 = 1 := by
  have e : Lib.decodeN n b0 b1 b2 b3 = (b0, 1) := by unfold Lib.decodeN; rw [if_pos h]
  unfold widN
  rw [e, if_neg (by simp; omega)]
theorem widN_0 (n b0 b1 b2 b3 : Nat) (h : 128 ≤ b0) (h2 : b0 < 192 ∨ 248 ≤ b0) (h3 : b0 < 256) : widN n b0 b1 b2 b3 = 0 := by
  have e : Lib.decodeN n b0 b1 b2 b3 = (65533, 1) := by
    unfold Lib.decodeN
    rw [if_neg (by omega), if_neg (by omega), if_neg (by omega), if_neg (by omega)]
  unfold widN
  rw [e, if_pos rfl]
set_option maxHeartbeats 8000000 in
theorem widN_2 (n b0 b1 b2 b3 : Nat) (h : 192 ≤ b0) (h2 : b0 < 224) (g1 : b1 < 256) :
    widN n b0 b1 b2 b3 = if n < 2 ∨ b1 < 128 ∨ 191 < b1 ∨ 64 * (b0 - 192) + b1 - 128 < 128 then 0 else 2 := by
  have e : Lib.decodeN n b0 b1 b2 b3 = if n < 2 ∨ b1 < 128 ∨ 191 < b1 ∨ 64 * (b0 - 192) + b1 - 128 < 128 then (65533, 1) else (b0 % 32 * 64 + b1 % 64, 2) := by
    unfold Lib.decodeN
    rw [if_neg (by omega)]
    have e : b0 / 32 = 6 := by omega
    have e2 : ¬ b0 / 16 = 14 := by omega
    have e3 : ¬ b0 / 8 = 30 := by omega
    simp only [e, e2, e3, true_and, false_and, if_false]
    repeat' split
    all_goals first | rfl | (exfalso; omega)
  unfold widN
  rw [e]
  split
  · rw [if_pos rfl]
  · rw [if_neg (by simp)]
set_option maxHeartbeats 8000000 in
theorem widN_3 (n b0 b1 b2 b3 : Nat) (h : 224 ≤ b0) (h2 : b0 < 240) (g1 : b1 < 256) (g2 : b2 < 256) :
    widN n b0 b1 b2 b3 = if n < 3 ∨ b1 < 128 ∨ 191 < b1 ∨ b2 < 128 ∨ 191 < b2 ∨ 64 * (64 * (b0 - 224) + b1 - 128) + b2 - 128 < 2048 ∨ (55296 ≤ 64 * (64 * (b0 - 224) + b1 - 128) + b2 - 128 ∧ 64 * (64 * (b0 - 224) + b1 - 128) + b2 - 128 ≤ 57343) then 0 else 3 := by
  have e : Lib.decodeN n b0 b1 b2 b3 = if n < 3 ∨ b1 < 128 ∨ 191 < b1 ∨ b2 < 128 ∨ 191 < b2 ∨ 64 * (64 * (b0 - 224) + b1 - 128) + b2 - 128 < 2048 ∨ (55296 ≤ 64 * (64 * (b0 - 224) + b1 - 128) + b2 - 128 ∧ 64 * (64 * (b0 - 224) + b1 - 128) + b2 - 128 ≤ 57343) then (65533, 1) else (b0 % 16 * 4096 + b1 % 64 * 64 + b2 % 64, 3) := by
    unfold Lib.decodeN
    rw [if_neg (by omega)]
    have e : b0 / 16 = 14 := by omega
    have e2 : ¬ b0 / 32 = 6 := by omega
    have e3 : ¬ b0 / 8 = 30 := by omega
    simp only [e, e2, e3, true_and, false_and, if_false]
    repeat' split
    all_goals first | rfl | (exfalso; omega)
  unfold widN
  rw [e]
  split
  · rw [if_pos rfl]
  · rw [if_neg (by simp)]
set_option maxHeartbeats 8000000 in
theorem widN_4 (n b0 b1 b2 b3 : Nat) (h : 240 ≤ b0) (h2 : b0 < 248) (g1 : b1 < 256) (g2 : b2 < 256) (g3 : b3 < 256) :
    widN n b0 b1 b2 b3 = if n < 4 ∨ b1 < 128 ∨ 191 < b1 ∨ b2 < 128 ∨ 191 < b2 ∨ b3 < 128 ∨ 191 < b3 ∨ 64 * (64 * (64 * (b0 - 240) + b1 - 128) + b2 - 128) + b3 - 128 < 65536 ∨ 1114111 < 64 * (64 * (64 * (b0 - 240) + b1 - 128) + b2 - 128) + b3 - 128 then 0 else 4 := by
  have e : Lib.decodeN n b0 b1 b2 b3 = if n < 4 ∨ b1 < 128 ∨ 191 < b1 ∨ b2 < 128 ∨ 191 < b2 ∨ b3 < 128 ∨ 191 < b3 ∨ 64 * (64 * (64 * (b0 - 240) + b1 - 128) + b2 - 128) + b3 - 128 < 65536 ∨ 1114111 < 64 * (64 * (64 * (b0 - 240) + b1 - 128) + b2 - 128) + b3 - 128 then (65533, 1) else (b0 % 8 * 262144 + b1 % 64 * 4096 + b2 % 64 * 64 + b3 % 64, 4) := by
    unfold Lib.decodeN
    rw [if_neg (by omega)]
    have e : b0 / 8 = 30 := by omega
    have e2 : ¬ b0 / 32 = 6 := by omega
    have e3 : ¬ b0 / 16 = 14 := by omega
    simp only [e, e2, e3, true_and, false_and, if_false]
    repeat' split
    all_goals first | rfl | (exfalso; omega)
  unfold widN
  rw [e]
  split
  · rw [if_pos rfl]
  · rw [if_neg (by simp)]
theorem wid_N (l : List UInt8) : wid l = widN l.length (gb l 0) (gb l 1) (gb l 2) (gb l 3) := rfl
theorem wid_eq (l : List UInt8) : decL l ≠ (65533, 1) → wid l = (decL l).2 := fun h => by unfold wid; rw [if_neg h]
theorem wid_zero (l : List UInt8) : wid l = 0 ↔ decL l = (65533, 1) ∨ (decL l).2 = 0 := by
  unfold wid
  split
  · simp [*]
  · simp [*]
end Go.Proofs.Ytlkhnmhhcagghaa
