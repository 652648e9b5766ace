/- No space, and how many blocks a disk may have: the law, walked. -/
import Derived.Test.YtjfedhaafdfibaaKi
namespace Go.Proofs.Ytjfedhaafdfibaa
open Go.RowKit

def nilOK (W : World) (e : Ending) (w' : World) : Prop := e = .returned (.bool true) ∧ Below W.heap.size W w'
theorem below_on {a b c : World} (h : Below a.heap.size a b) (k : Below b.heap.size b c) : Below a.heap.size a c := h.trans (k.mono h.size)
theorem count_nil0 (d : Int) (w : World) : Calls Try.prog 18 #[.pointer none, .int .i64 d] w fun e w' => e = .returned (.agg #[.int .i64 0, .int .i64 0, .int .i64 0, .int .i64 0]) ∧ Below w.heap.size w w' := count_nil d w
set_option maxRecDepth 100000 in
set_option maxHeartbeats 4000000 in
theorem nil_lo (a b d : Int) (ad : Nat) (W : World) (h : a < 1) : Calls Try.prog 4 #[.int .i64 a, .int .i64 b, .int .i64 d, .int .u16 (ad : Int)] W (nilOK W) := by
  have HO : Hid (¬ (okN a ∧ okN b)) := Lib.hid (by unfold okN; omega)
  have q1 : ¬ 1 ≤ a := by omega
  clear h
  go_enter Try.func4, Try.ntmps4
  go_wp2_with fail
  refine (release_nil _).mono ?_
  rintro e w1 ⟨rfl, hb⟩
  have HB1 := Lib.hid (hb)
  clear hb
  go_wp2_with fail
  refine (back_nil _).mono ?_
  rintro e w2 ⟨rfl, hb⟩
  have HB2 := Lib.hid (below_on HB1.out hb)
  clear hb HB1
  go_wp2_with fail
  refine (new_any a b _).mono ?_
  rintro e w3 ⟨hb, hy, _⟩
  obtain rfl := hy HO.out
  have HB3 := Lib.hid (below_on HB2.out hb)
  clear hb HB2 hy
  go_wp2_with fail
  refine (alloc_nil d _).mono ?_
  rintro e w4 ⟨rfl, hb⟩
  have HB4 := Lib.hid (below_on HB3.out hb)
  clear hb HB3
  go_wp2_with fail
  refine (mark_nil d ad _).mono ?_
  rintro e w5 ⟨rfl, hb⟩
  have HB5 := Lib.hid (below_on HB4.out hb)
  clear hb HB4
  go_wp2_with fail
  refine (give_nil d ad _).mono ?_
  rintro e w6 ⟨rfl, hb⟩
  have HB6 := Lib.hid (below_on HB5.out hb)
  clear hb HB5
  go_wp2_with fail
  refine (hold_nil d ad _).mono ?_
  rintro e w7 ⟨rfl, hb⟩
  have HB7 := Lib.hid (below_on HB6.out hb)
  clear hb HB6
  go_wp2_with fail
  refine (sick_nil d ad _).mono ?_
  rintro e w' ⟨rfl, rfl⟩
  go_wp2_with fail
  refine (is_nil d ad _).mono ?_
  rintro e w8 ⟨rfl, hb⟩
  have HB8 := Lib.hid (below_on HB7.out hb)
  clear hb HB7
  go_wp2_with fail
  refine (count_nil0 d _).mono ?_
  rintro e w9 ⟨rfl, hb⟩
  have HB9 := Lib.hid (below_on HB8.out hb)
  clear hb HB8
  go_wp2_with fail
  refine (wakes_any _).mono ?_
  rintro e w10 ⟨rfl, hb⟩
  have HB10 := Lib.hid (below_on HB9.out hb)
  clear hb HB9
  go_wp2_with fail
  go_ret
  exact ⟨rfl, HB10.out⟩
set_option maxRecDepth 100000 in
set_option maxHeartbeats 4000000 in
theorem nil_hi (a b d : Int) (ad : Nat) (W : World) (h : 4096 < a) : Calls Try.prog 4 #[.int .i64 a, .int .i64 b, .int .i64 d, .int .u16 (ad : Int)] W (nilOK W) := by
  have HO : Hid (¬ (okN a ∧ okN b)) := Lib.hid (by unfold okN; omega)
  have q1 : 1 ≤ a := by omega
  have q2 : ¬ a ≤ 4096 := by omega
  clear h
  go_enter Try.func4, Try.ntmps4
  go_wp2_with fail
  refine (release_nil _).mono ?_
  rintro e w1 ⟨rfl, hb⟩
  have HB1 := Lib.hid (hb)
  clear hb
  go_wp2_with fail
  refine (back_nil _).mono ?_
  rintro e w2 ⟨rfl, hb⟩
  have HB2 := Lib.hid (below_on HB1.out hb)
  clear hb HB1
  go_wp2_with fail
  refine (new_any a b _).mono ?_
  rintro e w3 ⟨hb, hy, _⟩
  obtain rfl := hy HO.out
  have HB3 := Lib.hid (below_on HB2.out hb)
  clear hb HB2 hy
  go_wp2_with fail
  refine (alloc_nil d _).mono ?_
  rintro e w4 ⟨rfl, hb⟩
  have HB4 := Lib.hid (below_on HB3.out hb)
  clear hb HB3
  go_wp2_with fail
  refine (mark_nil d ad _).mono ?_
  rintro e w5 ⟨rfl, hb⟩
  have HB5 := Lib.hid (below_on HB4.out hb)
  clear hb HB4
  go_wp2_with fail
  refine (give_nil d ad _).mono ?_
  rintro e w6 ⟨rfl, hb⟩
  have HB6 := Lib.hid (below_on HB5.out hb)
  clear hb HB5
  go_wp2_with fail
  refine (hold_nil d ad _).mono ?_
  rintro e w7 ⟨rfl, hb⟩
  have HB7 := Lib.hid (below_on HB6.out hb)
  clear hb HB6
  go_wp2_with fail
  refine (sick_nil d ad _).mono ?_
  rintro e w' ⟨rfl, rfl⟩
  go_wp2_with fail
  refine (is_nil d ad _).mono ?_
  rintro e w8 ⟨rfl, hb⟩
  have HB8 := Lib.hid (below_on HB7.out hb)
  clear hb HB7
  go_wp2_with fail
  refine (count_nil0 d _).mono ?_
  rintro e w9 ⟨rfl, hb⟩
  have HB9 := Lib.hid (below_on HB8.out hb)
  clear hb HB8
  go_wp2_with fail
  refine (wakes_any _).mono ?_
  rintro e w10 ⟨rfl, hb⟩
  have HB10 := Lib.hid (below_on HB9.out hb)
  clear hb HB9
  go_wp2_with fail
  go_ret
  exact ⟨rfl, HB10.out⟩
set_option maxRecDepth 100000 in
set_option maxHeartbeats 4000000 in
theorem nil_blo (a b d : Int) (ad : Nat) (W : World) (h : 1 ≤ a ∧ a ≤ 4096 ∧ b < 1) : Calls Try.prog 4 #[.int .i64 a, .int .i64 b, .int .i64 d, .int .u16 (ad : Int)] W (nilOK W) := by
  have HO : Hid (¬ (okN a ∧ okN b)) := Lib.hid (by unfold okN; omega)
  have q1 : 1 ≤ a := h.1
  have q2 : a ≤ 4096 := h.2.1
  have q3 : ¬ 1 ≤ b := by omega
  clear h
  go_enter Try.func4, Try.ntmps4
  go_wp2_with fail
  refine (release_nil _).mono ?_
  rintro e w1 ⟨rfl, hb⟩
  have HB1 := Lib.hid (hb)
  clear hb
  go_wp2_with fail
  refine (back_nil _).mono ?_
  rintro e w2 ⟨rfl, hb⟩
  have HB2 := Lib.hid (below_on HB1.out hb)
  clear hb HB1
  go_wp2_with fail
  refine (new_any a b _).mono ?_
  rintro e w3 ⟨hb, hy, _⟩
  obtain rfl := hy HO.out
  have HB3 := Lib.hid (below_on HB2.out hb)
  clear hb HB2 hy
  go_wp2_with fail
  refine (alloc_nil d _).mono ?_
  rintro e w4 ⟨rfl, hb⟩
  have HB4 := Lib.hid (below_on HB3.out hb)
  clear hb HB3
  go_wp2_with fail
  refine (mark_nil d ad _).mono ?_
  rintro e w5 ⟨rfl, hb⟩
  have HB5 := Lib.hid (below_on HB4.out hb)
  clear hb HB4
  go_wp2_with fail
  refine (give_nil d ad _).mono ?_
  rintro e w6 ⟨rfl, hb⟩
  have HB6 := Lib.hid (below_on HB5.out hb)
  clear hb HB5
  go_wp2_with fail
  refine (hold_nil d ad _).mono ?_
  rintro e w7 ⟨rfl, hb⟩
  have HB7 := Lib.hid (below_on HB6.out hb)
  clear hb HB6
  go_wp2_with fail
  refine (sick_nil d ad _).mono ?_
  rintro e w' ⟨rfl, rfl⟩
  go_wp2_with fail
  refine (is_nil d ad _).mono ?_
  rintro e w8 ⟨rfl, hb⟩
  have HB8 := Lib.hid (below_on HB7.out hb)
  clear hb HB7
  go_wp2_with fail
  refine (count_nil0 d _).mono ?_
  rintro e w9 ⟨rfl, hb⟩
  have HB9 := Lib.hid (below_on HB8.out hb)
  clear hb HB8
  go_wp2_with fail
  refine (wakes_any _).mono ?_
  rintro e w10 ⟨rfl, hb⟩
  have HB10 := Lib.hid (below_on HB9.out hb)
  clear hb HB9
  go_wp2_with fail
  go_ret
  exact ⟨rfl, HB10.out⟩
set_option maxRecDepth 100000 in
set_option maxHeartbeats 4000000 in
theorem nil_bhi (a b d : Int) (ad : Nat) (W : World) (h : 1 ≤ a ∧ a ≤ 4096 ∧ 4096 < b) : Calls Try.prog 4 #[.int .i64 a, .int .i64 b, .int .i64 d, .int .u16 (ad : Int)] W (nilOK W) := by
  have HO : Hid (¬ (okN a ∧ okN b)) := Lib.hid (by unfold okN; omega)
  have q1 : 1 ≤ a := h.1
  have q2 : a ≤ 4096 := h.2.1
  have q3 : 1 ≤ b := by omega
  have q4 : ¬ b ≤ 4096 := by omega
  have q5 : decide (b ≤ 4096) = false := by simp; omega
  clear h
  go_enter Try.func4, Try.ntmps4
  go_wp2_with fail
  refine (release_nil _).mono ?_
  rintro e w1 ⟨rfl, hb⟩
  have HB1 := Lib.hid (hb)
  clear hb
  go_wp2_with fail
  refine (back_nil _).mono ?_
  rintro e w2 ⟨rfl, hb⟩
  have HB2 := Lib.hid (below_on HB1.out hb)
  clear hb HB1
  go_wp2_with fail
  refine (new_any a b _).mono ?_
  rintro e w3 ⟨hb, hy, _⟩
  obtain rfl := hy HO.out
  have HB3 := Lib.hid (below_on HB2.out hb)
  clear hb HB2 hy
  go_wp2_with fail
  refine (alloc_nil d _).mono ?_
  rintro e w4 ⟨rfl, hb⟩
  have HB4 := Lib.hid (below_on HB3.out hb)
  clear hb HB3
  go_wp2_with fail
  refine (mark_nil d ad _).mono ?_
  rintro e w5 ⟨rfl, hb⟩
  have HB5 := Lib.hid (below_on HB4.out hb)
  clear hb HB4
  go_wp2_with fail
  refine (give_nil d ad _).mono ?_
  rintro e w6 ⟨rfl, hb⟩
  have HB6 := Lib.hid (below_on HB5.out hb)
  clear hb HB5
  go_wp2_with fail
  refine (hold_nil d ad _).mono ?_
  rintro e w7 ⟨rfl, hb⟩
  have HB7 := Lib.hid (below_on HB6.out hb)
  clear hb HB6
  go_wp2_with fail
  refine (sick_nil d ad _).mono ?_
  rintro e w' ⟨rfl, rfl⟩
  go_wp2_with fail
  refine (is_nil d ad _).mono ?_
  rintro e w8 ⟨rfl, hb⟩
  have HB8 := Lib.hid (below_on HB7.out hb)
  clear hb HB7
  go_wp2_with fail
  refine (count_nil0 d _).mono ?_
  rintro e w9 ⟨rfl, hb⟩
  have HB9 := Lib.hid (below_on HB8.out hb)
  clear hb HB8
  go_wp2_with fail
  refine (wakes_any _).mono ?_
  rintro e w10 ⟨rfl, hb⟩
  have HB10 := Lib.hid (below_on HB9.out hb)
  clear hb HB9
  go_wp2_with fail
  go_ret
  exact ⟨rfl, HB10.out⟩
set_option maxRecDepth 100000 in
set_option maxHeartbeats 4000000 in
theorem nil_ok (a b d : Int) (ad : Nat) (W : World) (h : 1 ≤ a ∧ a ≤ 4096 ∧ 1 ≤ b ∧ b ≤ 4096) : Calls Try.prog 4 #[.int .i64 a, .int .i64 b, .int .i64 d, .int .u16 (ad : Int)] W (nilOK W) := by
  have HO : Hid ((okN a ∧ okN b)) := Lib.hid (by unfold okN; omega)
  have q1 : 1 ≤ a := h.1
  have q2 : a ≤ 4096 := h.2.1
  have q3 : 1 ≤ b := h.2.2.1
  have q4 : b ≤ 4096 := h.2.2.2
  clear h
  go_enter Try.func4, Try.ntmps4
  go_wp2_with fail
  refine (release_nil _).mono ?_
  rintro e w1 ⟨rfl, hb⟩
  have HB1 := Lib.hid (hb)
  clear hb
  go_wp2_with fail
  refine (back_nil _).mono ?_
  rintro e w2 ⟨rfl, hb⟩
  have HB2 := Lib.hid (below_on HB1.out hb)
  clear hb HB1
  go_wp2_with fail
  refine (new_any a b _).mono ?_
  rintro e w3 ⟨hb, _, hy⟩
  obtain ⟨B, rfl, h1, hB⟩ := hy HO.out
  have HB3 := Lib.hid (below_on HB2.out hb)
  clear hb HB2 h1 hB hy
  go_wp2_with fail
  refine (alloc_nil d _).mono ?_
  rintro e w4 ⟨rfl, hb⟩
  have HB4 := Lib.hid (below_on HB3.out hb)
  clear hb HB3
  go_wp2_with fail
  refine (mark_nil d ad _).mono ?_
  rintro e w5 ⟨rfl, hb⟩
  have HB5 := Lib.hid (below_on HB4.out hb)
  clear hb HB4
  go_wp2_with fail
  refine (give_nil d ad _).mono ?_
  rintro e w6 ⟨rfl, hb⟩
  have HB6 := Lib.hid (below_on HB5.out hb)
  clear hb HB5
  go_wp2_with fail
  refine (hold_nil d ad _).mono ?_
  rintro e w7 ⟨rfl, hb⟩
  have HB7 := Lib.hid (below_on HB6.out hb)
  clear hb HB6
  go_wp2_with fail
  refine (sick_nil d ad _).mono ?_
  rintro e w' ⟨rfl, rfl⟩
  go_wp2_with fail
  refine (is_nil d ad _).mono ?_
  rintro e w8 ⟨rfl, hb⟩
  have HB8 := Lib.hid (below_on HB7.out hb)
  clear hb HB7
  go_wp2_with fail
  refine (count_nil0 d _).mono ?_
  rintro e w9 ⟨rfl, hb⟩
  have HB9 := Lib.hid (below_on HB8.out hb)
  clear hb HB8
  go_wp2_with fail
  refine (wakes_any _).mono ?_
  rintro e w10 ⟨rfl, hb⟩
  have HB10 := Lib.hid (below_on HB9.out hb)
  clear hb HB9
  go_wp2_with fail
  go_ret
  exact ⟨rfl, HB10.out⟩
theorem nil_walk (a b d : Int) (ad : Nat) (W : World) : Calls Try.prog 4 #[.int .i64 a, .int .i64 b, .int .i64 d, .int .u16 (ad : Int)] W (nilOK W) := by
  by_cases h1 : a < 1
  · exact nil_lo a b d ad W h1
  · by_cases h2 : 4096 < a
    · exact nil_hi a b d ad W h2
    · by_cases h3 : b < 1
      · exact nil_blo a b d ad W (by omega)
      · by_cases h4 : 4096 < b
        · exact nil_bhi a b d ad W (by omega)
        · exact nil_ok a b d ad W (by omega)
end Go.Proofs.Ytjfedhaafdfibaa
