/- The digits, as the reference reckons them. -/
import Derived.Test.YtoaaaonpmcebfaaDoorWakes
namespace Go.Proofs.YtoaaaonpmcebfaaDoor
open Go.RowKit

theorem q16a (x : BitVec 8) : (N8 x).tdiv (16 : Int) = ((x.toNat / 16 : Nat) : Int) := by unfold N8; rw [Int.tdiv_eq_ediv_of_nonneg (by omega)]; simp
theorem q16b (x : BitVec 8) : (N8 x).tmod (16 : Int) = ((x.toNat % 16 : Nat) : Int) := by unfold N8; rw [Int.tmod_eq_emod_of_nonneg (by omega)]; simp

theorem ext_val : ∀ n : Fin 16, dstr.extract n.val (n.val + 1) = bstr [digit n.val] := by decide +kernel
theorem ext_at (n : Nat) (hn : n < 16) : ({ data := #[48, 49, 50, 51, 52, 53, 54, 55, 56, 57, 97, 98, 99, 100, 101, 102] } : ByteArray).extract n (n + 1) = bstr [digit n] := ext_val ⟨n, hn⟩
theorem u8w (n : Nat) (hn : n < 256) : IntKind.u8.wrap (n : Int) = n := by rw [IntKind.wrap_u8']; omega
theorem bstr_add (a b : List (BitVec 8)) : bstr a ++ bstr b = bstr (a ++ b) := by
  unfold bstr
  rw [List.map_append]
  apply ByteArray.ext
  simp

theorem bstr_size (a : List (BitVec 8)) : (bstr a).size = a.length := by unfold bstr; simp [ByteArray.size]
theorem refhex_step (l : List (BitVec 8)) (k : Nat) (hk : k < l.length) (x : BitVec 8) (q1 q2 : Nat) (hx : l.getD k 0 = x) (h1 : x.toNat / 16 = q1) (h2 : x.toNat % 16 = q2) :
    bstr (hexOf (l.take k)) ++ bstr [digit q1] ++ bstr [digit q2] = bstr (hexOf (l.take (k + 1))) := by
  rw [bstr_add, bstr_add, hexOf_snoc l k hk, hx, List.append_assoc]
  congr 2
  simp [hex2, h1, h2]

set_option maxRecDepth 100000 in
set_option maxHeartbeats 1000000 in
theorem refHex_any (l : List (BitVec 8)) (hl : l.length = 32) (w : World) :
    Calls Tryd.prog 12 #[.agg (l.map V8).toArray] w fun e w' => e = .returned (.string (bstr (hexOf l))) ∧ Below w.heap.size w w' := by
  go_enter Tryd.func12, Tryd.ntmps12
  go_wp2
  have HB0 : Hid (Blk (w.alloc (.cells (l.map V8).toArray 24)) w.heap.size (l.map V8) 24 ∧ Below w.heap.size w (w.alloc (.cells (l.map V8).toArray 24))) := Lib.hid ⟨Blk.new _ _ _, (Below.refl _ _).alloc (Nat.le_refl _) _⟩
  go_loopw [3, 4] (fun s i wr => ∃ k : Nat, k ≤ 32 ∧ i = .int .i64 k ∧ s = .string (bstr (hexOf (l.take k))) ∧ Blk wr w.heap.size (l.map V8) 24 ∧ Below w.heap.size w wr) (fun _ i _ => 32 - (intOf i).toNat)
  case atStart => exact ⟨0, by omega, rfl, rfl, HB0.out⟩
  case round =>
    clear HB0
    obtain ⟨k, hk, rfl, rfl, hb, hbel⟩ := hrel
    have HB := Lib.hid hb
    have HBel := Lib.hid hbel
    by_cases hlt : k < 32
    · have cx := hb.cell (get_map V8 l k (by omega) 0)
      have hgs := hb.lt
      obtain ⟨x, hx⟩ : ∃ x, l.getD k 0 = x := ⟨_, rfl⟩
      rw [hx] at cx
      have HX := Lib.hid hx
      clear hb hbel hx
      obtain ⟨q1, hq1⟩ : ∃ q, x.toNat / 16 = q := ⟨_, rfl⟩
      obtain ⟨q2, hq2⟩ : ∃ q, x.toNat % 16 = q := ⟨_, rfl⟩
      have h1 := q16a x
      have h2 := q16b x
      rw [hq1] at h1
      rw [hq2] at h2
      have b1 : q1 < 16 := by have := x.isLt; omega
      have b2 : q2 < 16 := by omega
      have HQ1 := Lib.hid hq1
      have HQ2 := Lib.hid hq2
      clear hq1 hq2
      have q : (k : Int) < 32 := by omega
      have w1 := u8w q1 (by omega)
      have w2 := u8w q2 (by omega)
      have w3 : IntKind.u8.wrap ((q1 : Int) + 1) = (q1 : Int) + 1 := u8w (q1 + 1) (by omega)
      have w4 : IntKind.u8.wrap ((q2 : Int) + 1) = (q2 : Int) + 1 := u8w (q2 + 1) (by omega)
      have l1 : (q1 : Int) + 1 ≤ 16 := by omega
      have l2 : (q2 : Int) + 1 ≤ 16 := by omega
      have l3 : (q1 : Int) ≤ (q1 : Int) + 1 := by omega
      have l4 : (q2 : Int) ≤ (q2 : Int) + 1 := by omega
      have t1 : ((q1 : Int) + 1).toNat = q1 + 1 := by omega
      have t2 : ((q2 : Int) + 1).toNat = q2 + 1 := by omega
      have e1 := ext_at q1 b1
      have e2 := ext_at q2 b2
      have HS := Lib.hid (refhex_step l k (by omega) x q1 q2 HX.out HQ1.out HQ2.out)
      have z1 : (bstr [digit q1]).size = 1 := rfl
      have z2 : (bstr [digit q2]).size = 1 := rfl
      have z0 : (bstr (hexOf (l.take k))).size = 2 * k := by rw [bstr_size, hexOf_length, List.length_take]; omega
      obtain ⟨s1, hs1⟩ : ∃ s, bstr [digit q1] = s := ⟨_, rfl⟩
      obtain ⟨s2, hs2⟩ : ∃ s, bstr [digit q2] = s := ⟨_, rfl⟩
      obtain ⟨s0, hs0⟩ : ∃ s, bstr (hexOf (l.take k)) = s := ⟨_, rfl⟩
      rw [hs1] at e1 z1 HS
      rw [hs2] at e2 z2 HS
      rw [hs0] at z0 HS
      rw [hs0]
      have n1 : ¬ (9223372036854775807 < s0.size + s1.size) := by omega
      have n2 : ¬ (9223372036854775807 < (s0 ++ s1).size + s2.size) := by rw [ByteArray.size_append]; omega
      clear hs0 hs1 hs2 z0 z1 z2
      go_wp2
      go_quiet (fail)
      clear n1 n2 e1 e2 w1 w2 w3 w4 l1 l2 l3 l4 t1 t2 h1 h2
      go_wp2
      go_roundw
      case rel => exact ⟨k + 1, by omega, by go_num, by rw [HS.out], HB.out.drewN nq, below_drewN HBel.out nq⟩
      case measure => simp [intOf]; omega
    · obtain rfl : k = 32 := by omega
      have e : l.take 32 = l := List.take_of_length_le (by omega)
      rw [e]
      clear hlt hk hb hbel e
      go_wp2
      go_ret
      exact ⟨rfl, HBel.out⟩

end Go.Proofs.YtoaaaonpmcebfaaDoor
