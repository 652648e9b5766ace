/- The digits of the digest of a million letters. -/
import Derived.Test.YtoaaaonpmcebfaaDoorKnown
import Derived.Test.YtoaaaonpmcebfaaDoorMill00
import Derived.Test.YtoaaaonpmcebfaaDoorMill01
import Derived.Test.YtoaaaonpmcebfaaDoorMill02
import Derived.Test.YtoaaaonpmcebfaaDoorMill03
import Derived.Test.YtoaaaonpmcebfaaDoorMill04
import Derived.Test.YtoaaaonpmcebfaaDoorMill05
import Derived.Test.YtoaaaonpmcebfaaDoorMill06
import Derived.Test.YtoaaaonpmcebfaaDoorMill07
import Derived.Test.YtoaaaonpmcebfaaDoorMill08
import Derived.Test.YtoaaaonpmcebfaaDoorMill09
namespace Go.Proofs.YtoaaaonpmcebfaaDoor
open Go.RowKit
namespace Fast

theorem start : H0 = (mk 1779033703 3144134277 1013904242 2773480762 1359893119 2600822924 528734635 1541459225) := by rfl
theorem chain : takes l64 15625 H0 = (mk 2061136107 1745259042 791610055 2140370626 1884297759 3529239238 671294972 693152569) := by
  rw [start]
  rw [show (15625 : Nat) = 400 + 15225 from rfl, takes_add, mill0]
  rw [show (15225 : Nat) = 400 + 14825 from rfl, takes_add, mill1]
  rw [show (14825 : Nat) = 400 + 14425 from rfl, takes_add, mill2]
  rw [show (14425 : Nat) = 400 + 14025 from rfl, takes_add, mill3]
  rw [show (14025 : Nat) = 400 + 13625 from rfl, takes_add, mill4]
  rw [show (13625 : Nat) = 400 + 13225 from rfl, takes_add, mill5]
  rw [show (13225 : Nat) = 400 + 12825 from rfl, takes_add, mill6]
  rw [show (12825 : Nat) = 400 + 12425 from rfl, takes_add, mill7]
  rw [show (12425 : Nat) = 400 + 12025 from rfl, takes_add, mill8]
  rw [show (12025 : Nat) = 400 + 11625 from rfl, takes_add, mill9]
  rw [show (11625 : Nat) = 400 + 11225 from rfl, takes_add, mill10]
  rw [show (11225 : Nat) = 400 + 10825 from rfl, takes_add, mill11]
  rw [show (10825 : Nat) = 400 + 10425 from rfl, takes_add, mill12]
  rw [show (10425 : Nat) = 400 + 10025 from rfl, takes_add, mill13]
  rw [show (10025 : Nat) = 400 + 9625 from rfl, takes_add, mill14]
  rw [show (9625 : Nat) = 400 + 9225 from rfl, takes_add, mill15]
  rw [show (9225 : Nat) = 400 + 8825 from rfl, takes_add, mill16]
  rw [show (8825 : Nat) = 400 + 8425 from rfl, takes_add, mill17]
  rw [show (8425 : Nat) = 400 + 8025 from rfl, takes_add, mill18]
  rw [show (8025 : Nat) = 400 + 7625 from rfl, takes_add, mill19]
  rw [show (7625 : Nat) = 400 + 7225 from rfl, takes_add, mill20]
  rw [show (7225 : Nat) = 400 + 6825 from rfl, takes_add, mill21]
  rw [show (6825 : Nat) = 400 + 6425 from rfl, takes_add, mill22]
  rw [show (6425 : Nat) = 400 + 6025 from rfl, takes_add, mill23]
  rw [show (6025 : Nat) = 400 + 5625 from rfl, takes_add, mill24]
  rw [show (5625 : Nat) = 400 + 5225 from rfl, takes_add, mill25]
  rw [show (5225 : Nat) = 400 + 4825 from rfl, takes_add, mill26]
  rw [show (4825 : Nat) = 400 + 4425 from rfl, takes_add, mill27]
  rw [show (4425 : Nat) = 400 + 4025 from rfl, takes_add, mill28]
  rw [show (4025 : Nat) = 400 + 3625 from rfl, takes_add, mill29]
  rw [show (3625 : Nat) = 400 + 3225 from rfl, takes_add, mill30]
  rw [show (3225 : Nat) = 400 + 2825 from rfl, takes_add, mill31]
  rw [show (2825 : Nat) = 400 + 2425 from rfl, takes_add, mill32]
  rw [show (2425 : Nat) = 400 + 2025 from rfl, takes_add, mill33]
  rw [show (2025 : Nat) = 400 + 1625 from rfl, takes_add, mill34]
  rw [show (1625 : Nat) = 400 + 1225 from rfl, takes_add, mill35]
  rw [show (1225 : Nat) = 400 + 825 from rfl, takes_add, mill36]
  rw [show (825 : Nat) = 400 + 425 from rfl, takes_add, mill37]
  rw [show (425 : Nat) = 400 + 25 from rfl, takes_add, mill38]
  exact mill39
theorem aaa_chunk (t : List (BitVec 8)) (i : Nat) (h : i < 15625) : chunk (aaa 1000000 ++ t) i = l64 := by
  rw [chunk_append _ _ _ (by rw [aaa_length]; omega)]
  unfold chunk aaa l64
  rw [List.drop_replicate, List.take_replicate]
  congr 1
  omega
theorem aaa_absorb (t : List (BitVec 8)) (n : Nat) (h : n ≤ 15625) : absorb n (aaa 1000000 ++ t) = takes l64 n H0 := by
  induction n with
  | zero => rfl
  | succ n ih => rw [absorb, ih (by omega), aaa_chunk t n (by omega), takes_succ]
theorem fill_len : (fill 1000000).length = 64 := by kernel_rfl
theorem last_chunk : chunk (aaa 1000000 ++ fill 1000000) 15625 = fill 1000000 := by
  unfold chunk
  rw [List.drop_append_of_le_length (by rw [aaa_length]; omega), List.drop_of_length_le (by rw [aaa_length]; omega), List.nil_append, List.take_of_length_le (by rw [fill_len]; omega)]
theorem million_state : absorb 15626 (aaa 1000000 ++ fill 1000000) = take (mk 2061136107 1745259042 791610055 2140370626 1884297759 3529239238 671294972 693152569) (fill 1000000) := by
  rw [show (15626 : Nat) = 15625 + 1 from rfl, absorb, last_chunk, aaa_absorb _ _ (Nat.le_refl _), chain]
theorem last_digits : bstr (hexOf (outBytes (take (mk 2061136107 1745259042 791610055 2140370626 1884297759 3529239238 671294972 693152569) (fill 1000000)).list)) = { data := #[99, 100, 99, 55, 54, 101, 53, 99, 57, 57, 49, 52, 102, 98, 57, 50, 56, 49, 97, 49, 99, 55, 101, 50, 56, 52, 100, 55, 51, 101, 54, 55, 102, 49, 56, 48, 57, 97, 52, 56, 97, 52, 57, 55, 50, 48, 48, 101, 48, 52, 54, 100, 51, 57, 99, 99, 99, 55, 49, 49, 50, 99, 100, 48] } := by kernel_rfl
theorem million_digits : bstr (hexOf (digest (aaa (1000 * 1000)))) = { data := #[99, 100, 99, 55, 54, 101, 53, 99, 57, 57, 49, 52, 102, 98, 57, 50, 56, 49, 97, 49, 99, 55, 101, 50, 56, 52, 100, 55, 51, 101, 54, 55, 102, 49, 56, 48, 57, 97, 52, 56, 97, 52, 57, 55, 50, 48, 48, 101, 48, 52, 54, 100, 51, 57, 99, 99, 99, 55, 49, 49, 50, 99, 100, 48] } := by
  have hl : (aaa 1000000).length = 1000000 := aaa_length _
  have hf : full (aaa 1000000) = aaa 1000000 ++ fill 1000000 := by unfold full; rw [hl]
  have hn : (full (aaa 1000000)).length / 64 = 15626 := by rw [hf, List.length_append, hl, fill_len]
  rw [show (1000 * 1000 : Nat) = 1000000 from rfl]
  unfold digest
  rw [hn, hf, million_state]
  exact last_digits
end Fast
end Go.Proofs.YtoaaaonpmcebfaaDoor
