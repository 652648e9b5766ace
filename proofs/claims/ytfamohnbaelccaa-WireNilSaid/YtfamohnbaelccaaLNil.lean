/- No reader reads nothing: the law, walked. -/
import Derived.Test.YtfamohnbaelccaaWk
namespace Go.Proofs.Ytfamohnbaelccaa
open Go.RowKit

set_option maxRecDepth 100000 in
set_option maxHeartbeats 1000000 in
theorem wireNil_walk (n : Int) (w : World) : Calls Try.prog 5 #[.int .i64 n] w fun e w' => e = .returned (.bool true) ∧ Below w.heap.size w w' := by
  go_enter Try.func5, Try.ntmps5
  go_wp2_with (first
    | (go_at_call 18; refine (noughts_nil _ _).mono ?_; rintro x w' ⟨rfl, rfl⟩)
    | (go_at_call 19; refine (bad_nil _).mono ?_; rintro x w' ⟨rfl, rfl⟩)
    | (go_at_call 20; refine (ru8_nil _).mono ?_; rintro x w' ⟨rfl, rfl⟩)
    | (go_at_call 21; refine (ru16_nil _).mono ?_; rintro x w' ⟨rfl, rfl⟩)
    | (go_at_call 22; refine (ru32_nil _).mono ?_; rintro x w' ⟨rfl, rfl⟩)
    | (go_at_call 23; refine (ru64_nil _).mono ?_; rintro x w' ⟨rfl, rfl⟩)
    | (go_at_call 24; refine (raw_nil _ _).mono ?_; rintro x w1 ⟨v, rfl, hown, hb⟩; obtain ⟨sp, cap, rfl, _, _, _, _, _⟩ := OwnB.form hown; have HB := Lib.hid hb; clear hown hb)
    | (go_at_call 17; refine (left_nil _).mono ?_; rintro x w' ⟨rfl, rfl⟩)
    | (go_at_call 16; refine (err_nil _).mono ?_; rintro x w' ⟨rfl, rfl⟩)
    | (go_at_call 25; refine (end_nil _).mono ?_; rintro x w' ⟨rfl, rfl⟩)
    | (go_at_call 7; refine (wakes_any _).mono ?_; rintro x w2 ⟨rfl, hb2⟩; have HB2 := Lib.hid (HB.out.trans (hb2.mono HB.out.size)); clear hb2)
    | fail)
  go_ret
  exact ⟨rfl, HB2.out⟩
end Go.Proofs.Ytfamohnbaelccaa
