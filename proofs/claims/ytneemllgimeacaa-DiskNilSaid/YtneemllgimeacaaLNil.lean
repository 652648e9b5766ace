/- No disk, no power: the law, walked. -/
import Derived.Test.YtneemllgimeacaaWk
namespace Go.Proofs.Ytneemllgimeacaa
open Go.RowKit

def nilOK (W : World) (e : Ending) (w' : World) : Prop := e = .returned (.bool true) ∧ Below W.heap.size W w'
theorem below_on {a b c : World} (h : Below a.heap.size a b) (k : Below b.heap.size b c) : Below a.heap.size a c := h.trans (k.mono h.size)
set_option maxRecDepth 100000 in
set_option maxHeartbeats 4000000 in
theorem nil_walk (n a : Int) (sp : Option Addr) (l cap : Nat) (W : World) : Calls Try.prog 4 #[.int .i64 n, .int .u16 a, .slice sp l cap] W (nilOK W) := by
  by_cases hl : 600 < (l : Int)
  · go_enter Try.func4, Try.ntmps4
    go_wp2_with (first | (go_at_call 9; refine (wakes_any _).mono ?_; rintro e w' ⟨rfl, hb⟩; have HB := Lib.hid hb; clear hb) | fail)
    go_ret
    exact ⟨rfl, HB.out⟩
  · by_cases hn : 1 ≤ n ∧ n ≤ 4096
    · obtain ⟨m, rfl⟩ : ∃ m : Nat, n = (m : Int) := ⟨n.toNat, by omega⟩
      have h1 : ¬ ((m : Int) < 1) := by omega
      have h2 : ¬ (4096 < (m : Int)) := by omega
      have hm1 : 1 ≤ m := by omega
      have hm2 : m ≤ 4096 := by omega
      clear hn
      go_enter Try.func4, Try.ntmps4
      go_wp2_with (first | (go_at_call 16; refine (fuse_nil _ _).mono ?_; rintro e w' ⟨rfl, rfl⟩) | (go_at_call 17; refine (back_nil _).mono ?_; rintro e w' ⟨rfl, rfl⟩) | (go_at_call 18; refine (lose_nil _).mono ?_; rintro e w' ⟨rfl, rfl⟩) | (go_at_call 19; refine (astray_nil _ _).mono ?_; rintro e w' ⟨rfl, rfl⟩) | (go_at_call 20; refine (die_nil _).mono ?_; rintro e w' ⟨rfl, rfl⟩) | (go_at_call 21; refine (crash_nil _ ⟨_, _, _, rfl⟩ _).mono ?_; rintro e w1 ⟨rfl, hb⟩; have HB1 : Hid (Below W.heap.size W w1) := Lib.hid (((Below.refl _ _).alloc (Nat.le_refl _) _).trans (hb.mono (by simp))); clear hb) | (go_at_call 11; have _t := HB1; refine (new_nil _ _).mono ?_; rintro e w2 ⟨rfl, hb⟩; have HB2 := Lib.hid (below_on HB1.out hb); clear hb HB1 _t) | (go_at_call 10; refine (on_any _).mono ?_; rintro e w3 ⟨Q, rfl, hQ1, hQ2, hp, hb⟩; have HP := Lib.hid hp; have HB3 := Lib.hid (below_on HB2.out hb); clear hp hb HB2 hQ1 hQ2) | (go_at_call 11; have _t := HB3; refine (new_ok m Q ⟨true, -1⟩ rfl _ HP.out hm1 hm2).mono ?_; rintro e w4 ⟨D, S, rfl, _, _, hb⟩; have HB4 := Lib.hid (below_on HB3.out hb); clear hb HB3 HP _t) | (go_at_call 22; refine (read_nil _ _).mono ?_; rintro e w' ⟨rfl, rfl⟩) | (go_at_call 23; refine (look_nil _ _).mono ?_; rintro e w' ⟨rfl, rfl⟩) | (go_at_call 24; refine (step_nil _).mono ?_; rintro e w' ⟨rfl, rfl⟩) | (go_at_call 14; refine (is_nil _).mono ?_; rintro e w' ⟨rfl, rfl⟩) | (go_at_call 25; refine (write_nil _ _ _).mono ?_; rintro e w' ⟨rfl, rfl⟩) | (go_at_call 26; refine (flush_nil _).mono ?_; rintro e w' ⟨rfl, rfl⟩) | (go_at_call 27; refine (rot_nil _ _ _ _ _).mono ?_; rintro e w5 ⟨rfl, hb⟩; have HB5 := Lib.hid (below_on HB4.out hb); clear hb HB4) | (go_at_call 28; refine (bad_nil _ _).mono ?_; rintro e w' ⟨rfl, rfl⟩) | (go_at_call 29; refine (stick_nil _ _).mono ?_; rintro e w' ⟨rfl, rfl⟩) | (go_at_call 30; refine (dead_nil _).mono ?_; rintro e w' ⟨rfl, rfl⟩) | (go_at_call 31; refine (blocks_nil _).mono ?_; rintro e w' ⟨rfl, rfl⟩) | (go_at_call 32; refine (cached_nil _).mono ?_; rintro e w' ⟨rfl, rfl⟩) | (go_at_call 9; refine (wakes_any _).mono ?_; rintro e w6 ⟨rfl, hb⟩; have HB6 := Lib.hid (below_on HB5.out hb); clear hb HB5) | fail)
      go_ret
      exact ⟨rfl, HB6.out⟩
    · have hn' : n < 1 ∨ 4096 < n := by omega
      have HN := Lib.hid hn'
      clear hn
      by_cases h1 : n < 1
      · clear hn'
        go_enter Try.func4, Try.ntmps4
        go_wp2_with (first | (go_at_call 16; refine (fuse_nil _ _).mono ?_; rintro e w' ⟨rfl, rfl⟩) | (go_at_call 17; refine (back_nil _).mono ?_; rintro e w' ⟨rfl, rfl⟩) | (go_at_call 18; refine (lose_nil _).mono ?_; rintro e w' ⟨rfl, rfl⟩) | (go_at_call 19; refine (astray_nil _ _).mono ?_; rintro e w' ⟨rfl, rfl⟩) | (go_at_call 20; refine (die_nil _).mono ?_; rintro e w' ⟨rfl, rfl⟩) | (go_at_call 21; refine (crash_nil _ ⟨_, _, _, rfl⟩ _).mono ?_; rintro e w1 ⟨rfl, hb⟩; have HB1 : Hid (Below W.heap.size W w1) := Lib.hid (((Below.refl _ _).alloc (Nat.le_refl _) _).trans (hb.mono (by simp))); clear hb) | (go_at_call 11; have _t := HB1; refine (new_nil _ _).mono ?_; rintro e w2 ⟨rfl, hb⟩; have HB2 := Lib.hid (below_on HB1.out hb); clear hb HB1 _t) | (go_at_call 10; refine (on_any _).mono ?_; rintro e w3 ⟨Q, rfl, hQ1, hQ2, hp, hb⟩; have HP := Lib.hid hp; have HB3 := Lib.hid (below_on HB2.out hb); clear hp hb HB2 hQ1 hQ2) | (go_at_call 11; have _t := HB3; refine (new_bad n Q ⟨true, -1⟩ rfl _ HP.out HN.out).mono ?_; rintro e w4 ⟨rfl, hb⟩; have HB4 := Lib.hid (below_on HB3.out hb); clear hb HB3 HP _t) | (go_at_call 22; refine (read_nil _ _).mono ?_; rintro e w' ⟨rfl, rfl⟩) | (go_at_call 23; refine (look_nil _ _).mono ?_; rintro e w' ⟨rfl, rfl⟩) | (go_at_call 24; refine (step_nil _).mono ?_; rintro e w' ⟨rfl, rfl⟩) | (go_at_call 14; refine (is_nil _).mono ?_; rintro e w' ⟨rfl, rfl⟩) | (go_at_call 25; refine (write_nil _ _ _).mono ?_; rintro e w' ⟨rfl, rfl⟩) | (go_at_call 26; refine (flush_nil _).mono ?_; rintro e w' ⟨rfl, rfl⟩) | (go_at_call 27; refine (rot_nil _ _ _ _ _).mono ?_; rintro e w5 ⟨rfl, hb⟩; have HB5 := Lib.hid (below_on HB4.out hb); clear hb HB4) | (go_at_call 28; refine (bad_nil _ _).mono ?_; rintro e w' ⟨rfl, rfl⟩) | (go_at_call 29; refine (stick_nil _ _).mono ?_; rintro e w' ⟨rfl, rfl⟩) | (go_at_call 30; refine (dead_nil _).mono ?_; rintro e w' ⟨rfl, rfl⟩) | (go_at_call 31; refine (blocks_nil _).mono ?_; rintro e w' ⟨rfl, rfl⟩) | (go_at_call 32; refine (cached_nil _).mono ?_; rintro e w' ⟨rfl, rfl⟩) | (go_at_call 9; refine (wakes_any _).mono ?_; rintro e w6 ⟨rfl, hb⟩; have HB6 := Lib.hid (below_on HB5.out hb); clear hb HB5) | fail)
        go_ret
        exact ⟨rfl, HB6.out⟩
      · have h2 : 4096 < n := by omega
        clear hn'
        go_enter Try.func4, Try.ntmps4
        go_wp2_with (first | (go_at_call 16; refine (fuse_nil _ _).mono ?_; rintro e w' ⟨rfl, rfl⟩) | (go_at_call 17; refine (back_nil _).mono ?_; rintro e w' ⟨rfl, rfl⟩) | (go_at_call 18; refine (lose_nil _).mono ?_; rintro e w' ⟨rfl, rfl⟩) | (go_at_call 19; refine (astray_nil _ _).mono ?_; rintro e w' ⟨rfl, rfl⟩) | (go_at_call 20; refine (die_nil _).mono ?_; rintro e w' ⟨rfl, rfl⟩) | (go_at_call 21; refine (crash_nil _ ⟨_, _, _, rfl⟩ _).mono ?_; rintro e w1 ⟨rfl, hb⟩; have HB1 : Hid (Below W.heap.size W w1) := Lib.hid (((Below.refl _ _).alloc (Nat.le_refl _) _).trans (hb.mono (by simp))); clear hb) | (go_at_call 11; have _t := HB1; refine (new_nil _ _).mono ?_; rintro e w2 ⟨rfl, hb⟩; have HB2 := Lib.hid (below_on HB1.out hb); clear hb HB1 _t) | (go_at_call 10; refine (on_any _).mono ?_; rintro e w3 ⟨Q, rfl, hQ1, hQ2, hp, hb⟩; have HP := Lib.hid hp; have HB3 := Lib.hid (below_on HB2.out hb); clear hp hb HB2 hQ1 hQ2) | (go_at_call 11; have _t := HB3; refine (new_bad n Q ⟨true, -1⟩ rfl _ HP.out HN.out).mono ?_; rintro e w4 ⟨rfl, hb⟩; have HB4 := Lib.hid (below_on HB3.out hb); clear hb HB3 HP _t) | (go_at_call 22; refine (read_nil _ _).mono ?_; rintro e w' ⟨rfl, rfl⟩) | (go_at_call 23; refine (look_nil _ _).mono ?_; rintro e w' ⟨rfl, rfl⟩) | (go_at_call 24; refine (step_nil _).mono ?_; rintro e w' ⟨rfl, rfl⟩) | (go_at_call 14; refine (is_nil _).mono ?_; rintro e w' ⟨rfl, rfl⟩) | (go_at_call 25; refine (write_nil _ _ _).mono ?_; rintro e w' ⟨rfl, rfl⟩) | (go_at_call 26; refine (flush_nil _).mono ?_; rintro e w' ⟨rfl, rfl⟩) | (go_at_call 27; refine (rot_nil _ _ _ _ _).mono ?_; rintro e w5 ⟨rfl, hb⟩; have HB5 := Lib.hid (below_on HB4.out hb); clear hb HB4) | (go_at_call 28; refine (bad_nil _ _).mono ?_; rintro e w' ⟨rfl, rfl⟩) | (go_at_call 29; refine (stick_nil _ _).mono ?_; rintro e w' ⟨rfl, rfl⟩) | (go_at_call 30; refine (dead_nil _).mono ?_; rintro e w' ⟨rfl, rfl⟩) | (go_at_call 31; refine (blocks_nil _).mono ?_; rintro e w' ⟨rfl, rfl⟩) | (go_at_call 32; refine (cached_nil _).mono ?_; rintro e w' ⟨rfl, rfl⟩) | (go_at_call 9; refine (wakes_any _).mono ?_; rintro e w6 ⟨rfl, hb⟩; have HB6 := Lib.hid (below_on HB5.out hb); clear hb HB5) | fail)
        go_ret
        exact ⟨rfl, HB6.out⟩
end Go.Proofs.Ytneemllgimeacaa
