/- The rotation of a 32-bit number, as the program and as the reference reckon it. -/
import Derived.Test.YtlibdcgpjglcpaaDoorPut
import Derived.WalkKit
import Derived.Lib.Hide
namespace Go.Proofs.YtlibdcgpjglcpaaDoor
open Go.RowKit

/-- A 32-bit number, as the model's integer. -/
def N32 (x : BitVec 32) : Int := (x.toNat : Int)
abbrev V32 (x : BitVec 32) : Value := .int .u32 (N32 x)
def rot (x : BitVec 32) (n : Nat) : BitVec 32 := x >>> n ||| x <<< (32 - n)

theorem and31 (n : Nat) (h0 : 0 < n) (h1 : n < 32) : bits .and .u64 (IntKind.u64.wrap (-(n:Int))) 31 = ((32 - n : Nat) : Int) := by
  have : ∀ m : Fin 32, 0 < m.val → bits .and .u64 (IntKind.u64.wrap (-(m.val:Int))) 31 = ((32 - m.val : Nat) : Int) := by decide +kernel
  exact this ⟨n, h1⟩ h0
theorem n32_nonneg (x : BitVec 32) : 0 ≤ N32 x := by unfold N32; omega
theorem n32_lt (x : BitVec 32) : N32 x < 4294967296 := by unfold N32; have := x.isLt; omega
theorem shl32 (x : BitVec 32) (n : Nat) : IntKind.u32.wrap (N32 x * 2 ^ n) = N32 (x <<< n) := by
  unfold N32
  rw [IntKind.wrap_u32', BitVec.toNat_shiftLeft, Nat.shiftLeft_eq]
  simp
theorem shr32 (x : BitVec 32) (n : Nat) : N32 x / 2 ^ n = N32 (x >>> n) := by
  unfold N32
  rw [BitVec.toNat_ushiftRight, Nat.shiftRight_eq_div_pow]
  simp
theorem or32 (x y : BitVec 32) : bits .or .u32 (N32 x) (N32 y) = N32 (x ||| y) := by
  unfold N32; rw [u32_or_nat _ _ x.isLt y.isLt, BitVec.toNat_or]
theorem xor32 (x y : BitVec 32) : bits .xor .u32 (N32 x) (N32 y) = N32 (x ^^^ y) := by
  unfold N32; rw [u32_xor_nat _ _ x.isLt y.isLt, BitVec.toNat_xor]
theorem and32 (x y : BitVec 32) : bits .and .u32 (N32 x) (N32 y) = N32 (x &&& y) := by
  unfold N32; rw [u32_and_nat _ _ x.isLt y.isLt, BitVec.toNat_and]
theorem not32 (x : BitVec 32) : bits .xor .u32 4294967295 (N32 x) = N32 (~~~ x) := by
  have h := xor32 (BitVec.allOnes 32) x
  rw [show N32 (BitVec.allOnes 32) = 4294967295 from rfl] at h
  rw [h, BitVec.allOnes_xor]
theorem add32 (x y : BitVec 32) : IntKind.u32.wrap (N32 x + N32 y) = N32 (x + y) := by
  unfold N32
  rw [IntKind.wrap_u32', BitVec.toNat_add]
  simp

theorem rotl_any (x : BitVec 32) (n : Nat) (h0 : 0 < n) (h1 : n < 32) (w : World) :
    Calls Tryd.prog 76 #[V32 x, .int .i64 (-(n : Int))] w fun e w' => e = .returned (V32 (rot x n)) ∧ w = w' := by
  have h31 := and31 n h0 h1
  have hm1 : min (32 - n) 32 = 32 - n := by omega
  have hm2 : min n 32 = n := by omega
  have hs : IntKind.u64.wrap (32 - ((32 - n : Nat) : Int)) = (n : Int) := by simp only [IntKind.wrap_u64]; omega
  have hl := shl32 x (32 - n)
  have hr := shr32 x n
  have ho := or32 (x <<< (32 - n)) (x >>> n)
  go_enter Tryd.func76, Tryd.ntmps76
  go_wp2
  go_ret
  exact ⟨by unfold rot; rw [BitVec.or_comm]; rfl, rfl⟩

theorem turned_any (x : BitVec 32) (n : Nat) (h0 : 0 < n) (h1 : n < 32) (w : World) :
    Calls Tryd.prog 70 #[V32 x, .int .i64 (n : Int)] w fun e w' => e = .returned (V32 (rot x n)) ∧ w = w' := by
  go_enter Tryd.func70, Tryd.ntmps70
  go_wp2_with (go_at_call 76; refine (rotl_any _ _ h0 h1 _).mono ?_; rintro e w' ⟨rfl, rfl⟩)
  go_ret
  exact ⟨rfl, rfl⟩

theorem half32 (y : BitVec 32) : N32 y / (2 : Int) = N32 (y >>> 1) := by have := shr32 y 1; simpa using this
theorem half32' (y : BitVec 32) : (N32 y).tdiv (2 : Int) % (4294967296 : Int) = N32 (y >>> 1) := by
  have h0 := n32_nonneg y
  have h1 := n32_lt y
  rw [← half32, Int.tdiv_eq_ediv_of_nonneg h0]
  omega
theorem rot_nat (x : BitVec 32) (n : Nat) (h : n < 32) : (rot x n).toNat = (x.toNat % 2 ^ n) * 2 ^ (32 - n) + x.toNat / 2 ^ n := by
  unfold rot
  have hx := x.isLt
  have hp : (2 : Nat) ^ 32 = 2 ^ n * 2 ^ (32 - n) := by rw [← Nat.pow_add]; congr 1; omega
  rw [BitVec.toNat_or, BitVec.toNat_shiftLeft, BitVec.toNat_ushiftRight, Nat.shiftLeft_eq, Nat.shiftRight_eq_div_pow, Nat.or_comm, hp, Nat.mul_mod_mul_right]
  refine nat_join (32 - n) _ _ (Nat.mul_mod_left _ _) ?_
  rw [Nat.div_lt_iff_lt_mul (Nat.two_pow_pos _), Nat.mul_comm, ← hp]; exact hx
theorem rot_zero (x : BitVec 32) : rot x 0 = x := by
  unfold rot
  apply BitVec.eq_of_getLsbD_eq
  intro i hi
  simp
theorem rot_succ_nat (x : BitVec 32) (k : Nat) (hk : k < 25) : (rot x (k + 1)).toNat = (rot x k).toNat % 2 * 2147483648 + (rot x k).toNat / 2 := by
  rw [rot_nat _ _ (by omega), rot_nat _ _ (by omega)]
  have hx := x.isLt
  generalize x.toNat = m at *
  have : k = 0 ∨ k = 1 ∨ k = 2 ∨ k = 3 ∨ k = 4 ∨ k = 5 ∨ k = 6 ∨ k = 7 ∨ k = 8 ∨ k = 9 ∨ k = 10 ∨ k = 11 ∨ k = 12 ∨ k = 13 ∨ k = 14 ∨ k = 15 ∨ k = 16 ∨ k = 17 ∨ k = 18 ∨ k = 19 ∨ k = 20 ∨ k = 21 ∨ k = 22 ∨ k = 23 ∨ k = 24 := by omega
  rcases this with rfl | rfl | rfl | rfl | rfl | rfl | rfl | rfl | rfl | rfl | rfl | rfl | rfl | rfl | rfl | rfl | rfl | rfl | rfl | rfl | rfl | rfl | rfl | rfl | rfl <;> omega
theorem rot_even (x : BitVec 32) (k : Nat) (hk : k < 25) (h : ¬ N32 (rot x k) % 2 = 1) : N32 (rot x k >>> 1) = N32 (rot x (k + 1)) := by
  rw [← half32]
  have := rot_succ_nat x k hk
  unfold N32 at *
  omega
theorem rot_odd (x : BitVec 32) (k : Nat) (hk : k < 25) (h : N32 (rot x k) % 2 = 1) : (N32 (rot x k >>> 1) + (2147483648 : Int)) % (4294967296 : Int) = N32 (rot x (k + 1)) := by
  rw [← half32]
  have := rot_succ_nat x k hk
  have h1 := (rot x k).isLt
  unfold N32 at *
  omega

set_option maxHeartbeats 400000 in
theorem refTurned_any (x : BitVec 32) (n : Nat) (h1 : n < 26) (w : World) :
    Calls Tryd.prog 74 #[V32 x, .int .i64 (n : Int)] w fun e w' => e = .returned (V32 (rot x n)) ∧ w = w' := by
  go_enter Tryd.func74, Tryd.ntmps74
  go_wp2
  go_loop [0, 5] (fun v i => ∃ k : Nat, k ≤ n ∧ i = .int .i64 k ∧ v = V32 (rot x k)) (fun _ i => n - (intOf i).toNat)
  case atStart => exact ⟨0, Nat.zero_le _, rfl, by rw [rot_zero]⟩
  case round =>
    obtain ⟨k, hk, rfl, rfl⟩ := hrel
    have hy0 := n32_nonneg (rot x k)
    have hh := half32' (rot x k)
    by_cases hlt : k < n
    · by_cases ho : N32 (rot x k) % 2 = 1
      · have hw := rot_odd x k (by omega) ho
        have HW := Lib.hid hw; clear hw
        go_wp2
        go_round
        case rel => exact ⟨k + 1, by omega, by go_num, by first | rw [HW.out] | rw [hh, HW.out]⟩
        case measure => simp [intOf]; omega
      · have hw := rot_even x k (by omega) ho
        have HW := Lib.hid hw; clear hw
        have ho' : (N32 (rot x k) % 2 == 1) = false := by simpa using ho
        clear ho
        go_wp2
        go_round
        case rel => exact ⟨k + 1, by omega, by go_num, by first | rw [HW.out] | rw [hh, HW.out]⟩
        case measure => simp [intOf]; omega
    · obtain rfl : k = n := by omega
      go_wp2
      go_ret
      exact ⟨rfl, rfl⟩

def sh (x : BitVec 32) (k : Nat) : BitVec 32 := x >>> k
theorem sh_succ (x : BitVec 32) (k : Nat) : (N32 (sh x k)).tdiv (2 : Int) % (4294967296 : Int) = N32 (sh x (k + 1)) := by
  rw [half32']; unfold sh; rw [BitVec.shiftRight_add]
theorem refMoved_any (x : BitVec 32) (n : Nat) (h1 : n < 32) (w : World) :
    Calls Tryd.prog 77 #[V32 x, .int .i64 (n : Int)] w fun e w' => e = .returned (V32 (sh x n)) ∧ w = w' := by
  go_enter Tryd.func77, Tryd.ntmps77
  go_wp2
  go_loop [0, 5] (fun v i => ∃ k : Nat, k ≤ n ∧ i = .int .i64 k ∧ v = V32 (sh x k)) (fun _ i => n - (intOf i).toNat)
  case atStart => exact ⟨0, Nat.zero_le _, rfl, rfl⟩
  case round =>
    obtain ⟨k, hk, rfl, rfl⟩ := hrel
    have hy0 := n32_nonneg (sh x k)
    have hh := sh_succ x k
    by_cases hlt : k < n
    · go_wp2
      go_round
      case rel => exact ⟨k + 1, by omega, by go_num, by first | rfl | rw [hh]⟩
      case measure => simp [intOf]; omega
    · obtain rfl : k = n := by omega
      go_wp2
      go_ret
      exact ⟨rfl, rfl⟩

end Go.Proofs.YtlibdcgpjglcpaaDoor
