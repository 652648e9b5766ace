/- No reader. -/
import Derived.Test.YtincpdnmaiimnaaDoorRdMore
namespace Go.Proofs.YtincpdnmaiimnaaDoor
open Go.RowKit

theorem next_nil (n : Int) (w : World) : Calls Tryd.prog 54 #[.pointer none, .int .i64 n] w fun x w' => x = .returned (.slice none 0 0) ∧ w = w' := by
  go_enter Tryd.func54, Tryd.ntmps54
  go_wp2
  go_ret
  exact ⟨rfl, rfl⟩
theorem bad_nil (w : World) : Calls Tryd.prog 42 #[.pointer none] w fun x w' => x = .returned (.tuple #[]) ∧ w = w' := by
  go_enter Tryd.func42, Tryd.ntmps42
  go_wp2
  go_end0
  exact ⟨rfl, rfl⟩
theorem left_nil (w : World) : Calls Tryd.prog 44 #[.pointer none] w fun x w' => x = .returned (.int .i64 0) ∧ w = w' := by
  go_enter Tryd.func44, Tryd.ntmps44
  go_wp2
  go_ret
  exact ⟨rfl, rfl⟩
theorem err_nil (w : World) : Calls Tryd.prog 43 #[.pointer none] w fun x w' => x = .returned (.int .i64 2) ∧ w = w' := by
  go_enter Tryd.func43, Tryd.ntmps43
  go_wp2
  go_ret
  exact ⟨rfl, rfl⟩
theorem end_nil (w : World) : Calls Tryd.prog 26 #[.pointer none] w fun x w' => x = .returned (.int .i64 2) ∧ w = w' := by
  go_enter Tryd.func26, Tryd.ntmps26
  go_wp2_with (first
    | (go_at_call 44; refine (left_nil _).mono ?_; rintro x w' ⟨rfl, rfl⟩)
    | (go_at_call 43; refine (err_nil _).mono ?_; rintro x w' ⟨rfl, rfl⟩))
  go_ret
  exact ⟨rfl, rfl⟩
theorem noughts_nil (n : Int) (w : World) : Calls Tryd.prog 41 #[.pointer none, .int .i64 n] w fun x w' => x = .returned (.tuple #[]) ∧ w = w' := by
  go_enter Tryd.func41, Tryd.ntmps41
  go_wp2_with (go_at_call 54; refine (next_nil n _).mono ?_; rintro x w' ⟨rfl, rfl⟩)
  go_loop [10] (fun i => i = .int .i64 0) (fun _ => 0)
  case atStart => rfl
  case round =>
    obtain rfl := hrel
    go_wp2
    go_end0
    exact ⟨rfl, rfl⟩
theorem raw_nil (n : Int) (w : World) : Calls Tryd.prog 40 #[.pointer none, .int .i64 n] w (RetOwn [] w) := by
  go_enter Tryd.func40, Tryd.ntmps40
  go_wp2_with (first
    | (go_at_call 54; refine (next_nil n _).mono ?_; rintro x w' ⟨rfl, rfl⟩)
    | (go_at_call 35; refine (clone_any [] none 0 w (by simp) (fun _ => rfl) (by simp) (SrcA.nil _ _)).mono ?_; rintro x w1 ⟨v, rfl, hown, hb⟩; have HO := Lib.hid hown; have HB := Lib.hid hb; clear hown hb)
    | fail)
  go_ret
  exact ⟨_, rfl, HO.out, HB.out⟩
theorem tk8_nil (w : World) : Calls Tryd.prog 50 #[.pointer none] w fun x w' => x = .returned (.int .u8 0) ∧ w = w' := by
  go_enter Tryd.func50, Tryd.ntmps50
  go_wp2_with (first
    | (go_at_call 61; refine (wd8_any _).mono ?_; rintro e w' ⟨rfl, rfl⟩)
    | (go_at_call 54; refine (next_nil _ _).mono ?_; rintro x w' ⟨rfl, rfl⟩))
  go_loop [3, 10] (fun v i => v = .int .u8 0 ∧ i = .int .i64 0) (fun _ _ => 0)
  case atStart => exact ⟨rfl, rfl⟩
  case round =>
    obtain ⟨rfl, rfl⟩ := hrel
    go_wp2
    go_ret
    exact ⟨rfl, rfl⟩
theorem ru8_nil (w : World) : Calls Tryd.prog 36 #[.pointer none] w fun x w' => x = .returned (.int .u8 0) ∧ w = w' := by
  go_enter Tryd.func36, Tryd.ntmps36
  go_wp2_with (go_at_call 50; refine (tk8_nil _).mono ?_; rintro x w' ⟨rfl, rfl⟩)
  go_ret
  exact ⟨rfl, rfl⟩
theorem tk16_nil (w : World) : Calls Tryd.prog 51 #[.pointer none] w fun x w' => x = .returned (.int .u16 0) ∧ w = w' := by
  go_enter Tryd.func51, Tryd.ntmps51
  go_wp2_with (first
    | (go_at_call 60; refine (wd16_any _).mono ?_; rintro e w' ⟨rfl, rfl⟩)
    | (go_at_call 54; refine (next_nil _ _).mono ?_; rintro x w' ⟨rfl, rfl⟩))
  go_loop [3, 10] (fun v i => v = .int .u16 0 ∧ i = .int .i64 0) (fun _ _ => 0)
  case atStart => exact ⟨rfl, rfl⟩
  case round =>
    obtain ⟨rfl, rfl⟩ := hrel
    go_wp2
    go_ret
    exact ⟨rfl, rfl⟩
theorem ru16_nil (w : World) : Calls Tryd.prog 37 #[.pointer none] w fun x w' => x = .returned (.int .u16 0) ∧ w = w' := by
  go_enter Tryd.func37, Tryd.ntmps37
  go_wp2_with (go_at_call 51; refine (tk16_nil _).mono ?_; rintro x w' ⟨rfl, rfl⟩)
  go_ret
  exact ⟨rfl, rfl⟩
theorem tk32_nil (w : World) : Calls Tryd.prog 52 #[.pointer none] w fun x w' => x = .returned (.int .u32 0) ∧ w = w' := by
  go_enter Tryd.func52, Tryd.ntmps52
  go_wp2_with (first
    | (go_at_call 62; refine (wd32_any _).mono ?_; rintro e w' ⟨rfl, rfl⟩)
    | (go_at_call 54; refine (next_nil _ _).mono ?_; rintro x w' ⟨rfl, rfl⟩))
  go_loop [3, 10] (fun v i => v = .int .u32 0 ∧ i = .int .i64 0) (fun _ _ => 0)
  case atStart => exact ⟨rfl, rfl⟩
  case round =>
    obtain ⟨rfl, rfl⟩ := hrel
    go_wp2
    go_ret
    exact ⟨rfl, rfl⟩
theorem ru32_nil (w : World) : Calls Tryd.prog 38 #[.pointer none] w fun x w' => x = .returned (.int .u32 0) ∧ w = w' := by
  go_enter Tryd.func38, Tryd.ntmps38
  go_wp2_with (go_at_call 52; refine (tk32_nil _).mono ?_; rintro x w' ⟨rfl, rfl⟩)
  go_ret
  exact ⟨rfl, rfl⟩
theorem tk64_nil (w : World) : Calls Tryd.prog 53 #[.pointer none] w fun x w' => x = .returned (.int .u64 0) ∧ w = w' := by
  go_enter Tryd.func53, Tryd.ntmps53
  go_wp2_with (first
    | (go_at_call 63; refine (wd64_any _).mono ?_; rintro e w' ⟨rfl, rfl⟩)
    | (go_at_call 54; refine (next_nil _ _).mono ?_; rintro x w' ⟨rfl, rfl⟩))
  go_loop [3, 10] (fun v i => v = .int .u64 0 ∧ i = .int .i64 0) (fun _ _ => 0)
  case atStart => exact ⟨rfl, rfl⟩
  case round =>
    obtain ⟨rfl, rfl⟩ := hrel
    go_wp2
    go_ret
    exact ⟨rfl, rfl⟩
theorem ru64_nil (w : World) : Calls Tryd.prog 39 #[.pointer none] w fun x w' => x = .returned (.int .u64 0) ∧ w = w' := by
  go_enter Tryd.func39, Tryd.ntmps39
  go_wp2_with (go_at_call 53; refine (tk64_nil _).mono ?_; rintro x w' ⟨rfl, rfl⟩)
  go_ret
  exact ⟨rfl, rfl⟩
end Go.Proofs.YtincpdnmaiimnaaDoor
