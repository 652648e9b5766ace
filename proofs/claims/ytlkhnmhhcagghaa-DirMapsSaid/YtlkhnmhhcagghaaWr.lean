/- Bytes that are put: the document's number, the fillings. -/
import Derived.Test.YtlkhnmhhcagghaaRdMore
namespace Go.Proofs.Ytlkhnmhhcagghaa
open Go.RowKit

theorem lb_div (n j : Nat) : lb n j = BitVec.ofNat 8 (n / 2 ^ (8 * j) % 256) := by
  apply BitVec.eq_of_toNat_eq
  simp [lb]
theorem pow_step (n j : Nat) : n / 2 ^ (8 * j) / 256 = n / 2 ^ (8 * (j + 1)) := by
  rw [Nat.div_div_eq_div_mul, show 8 * (j + 1) = 8 * j + 8 by omega, Nat.pow_add]
theorem u8_of (m : Nat) : IntKind.u8.wrap ((m % 256 : Nat) : Int) = N8 (BitVec.ofNat 8 (m % 256)) := by
  unfold N8; rw [IntKind.wrap_u8', BitVec.toNat_ofNat]; simp

set_option maxRecDepth 100000 in
set_option maxHeartbeats 1000000 in
theorem wNum_any (n k : Nat) (w : World) (hk : k ≤ 8) (hn : n < 18446744073709551616) :
    Calls Try.prog 23 #[.int .u64 (n : Int), .int .i64 (k : Int)] w (RetOwn (leb n k) w) := by
  obtain ⟨i0, hi, hz0, hz1, hz2⟩ := info_parts infoB
  have HNN := Lib.hid hn
  clear hn
  go_enter Try.func23, Try.ntmps23
  go_wp2
  go_loopw [0, 5, 6] (fun m s i wr => ∃ j : Nat, j ≤ k ∧ i = .int .i64 j ∧ m = .int .u64 ((n / 2 ^ (8 * j) : Nat) : Int) ∧ OwnB wr w.heap.size s (leb n j) ∧ Below w.heap.size w wr) (fun _ _ i _ => k - (intOf i).toNat)
  case atStart => exact ⟨0, by omega, rfl, by simp, World.ownsRow_nil _ _ _ _, Below.refl _ _⟩
  case round =>
    obtain ⟨j, hj, rfl, rfl, hown, hbel⟩ := hrel
    by_cases hlt : j < k
    · obtain ⟨m, hm⟩ : ∃ m, n / 2 ^ (8 * j) = m := ⟨_, rfl⟩
      rw [hm]
      have r1 : (m : Int) % 256 = ((m % 256 : Nat) : Int) := by omega
      have r2 : (m : Int).tmod 256 = ((m % 256 : Nat) : Int) := by rw [Int.tmod_eq_emod_of_nonneg (by omega)]; omega
      have r3 : IntKind.u8.wrap ((m % 256 : Nat) : Int) = N8 (lb n j) := by rw [u8_of, ← hm, ← lb_div]
      have r4 : (m : Int) / 256 = ((m / 256 : Nat) : Int) := by omega
      have r5 : (m : Int).tdiv 256 = ((m / 256 : Nat) : Int) := by rw [Int.tdiv_eq_ediv_of_nonneg (by omega)]; omega
      have HN : Hid (m / 256 = n / 2 ^ (8 * (j + 1))) := Lib.hid (by rw [← hm, pow_step])
      generalize m % 256 = q at *
      generalize m / 256 = d at *
      have HO := Lib.hid hown
      have HB := Lib.hid hbel
      have hbs := hbel.size
      clear hm hown hbel
      go_wp2_with (first
        | (at_builtin; refine wpList_append_own _ rfl (.tmp 12) (.tmp 16) 23 rfl w.heap.size 5 i0 (.int .u8 0) 1 1 Try.underlying23 hi hz0 hz1 hz2 rfl (by omega) _ (leb n j).length ((leb n j).map V8) rfl (HO.out.alloc _) ⟨wr.heap.size, 0, none⟩ 1 1 [V8 (lb n j)] rfl rfl (one_at _ _ _) (one_cell8 _) (by rw [leb_length]; unfold maxLen; omega) (by rw [leb_length]; omega) (by simp; omega) ?_; intro v' w1 ho hg _; have HO1 := Lib.hid ho; have HG1 := Lib.hid hg; clear ho hg)
        | fail)
      go_roundw
      case rel =>
        refine ⟨j + 1, by omega, by go_num, by rw [HN.out, u64_in _ (Nat.lt_of_le_of_lt (Nat.div_le_self _ _) HNN.out)], ?_, (HB.out.alloc (by omega) _).grown HG1.out (by simp; omega) (fun k hk => (HO.out.lt k hk).1)⟩
        have := HO1.out
        unfold OwnB
        rw [leb_succ, List.map_append, List.length_append]
        exact this
      case measure => simp [intOf]; omega
    · obtain rfl : j = k := by omega
      have HO := Lib.hid hown
      have HB := Lib.hid hbel
      clear hown hbel hlt hj hk hi hz0 hz1 hz2
      go_wp2
      go_ret
      exact ⟨_, rfl, HO.out, HB.out⟩
/-- The bytes, filled with noughts. -/
def fillOf (l : List (BitVec 8)) (n : Int) : List (BitVec 8) := l ++ List.replicate (n.toNat - l.length) 0#8
theorem zeros_v8 (k : Nat) : List.replicate k (Value.int .u8 0) = (List.replicate k 0#8).map V8 := by simp [N8]
theorem splice_fill (l : List (BitVec 8)) (M : Nat) : splice (List.replicate M (Value.int .u8 0)) 0 (l.map V8) = (l ++ List.replicate (M - l.length) 0#8).map V8 := by
  simp only [splice, List.take_zero, List.nil_append, Nat.zero_add, List.length_map, List.map_append, List.map_replicate, List.drop_replicate]
  rfl
theorem owns_all {w1 : World} {g B : Nat} {l : List (BitVec 8)} (h : w1.heap[g]? = some (.cells (l.map V8).toArray 5 (0, 0))) (hx : l.length ≤ maxLen) (hB : B ≤ g) : OwnB w1 B (.slice (some ⟨g, 0, none⟩) l.length l.length) l :=
  ⟨by simp, .inr ⟨g, l.length, _, rfl, hB, h, Nat.le_refl _, hx, by simp, List.take_of_length_le (by simp)⟩⟩

end Go.Proofs.Ytlkhnmhhcagghaa
