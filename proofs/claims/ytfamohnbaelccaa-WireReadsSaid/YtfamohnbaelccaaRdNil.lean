/- No reader. -/
import Derived.Test.YtfamohnbaelccaaRdMore
namespace Go.Proofs.Ytfamohnbaelccaa
open Go.RowKit

theorem next_nil (n : Int) (w : World) : Calls Try.prog 35 #[.pointer none, .int .i64 n] w fun x w' => x = .returned (.slice none 0 0) ∧ w = w' := by
  go_enter Try.func35, Try.ntmps35
  go_wp2
  go_ret
  exact ⟨rfl, rfl⟩
theorem bad_nil (w : World) : Calls Try.prog 19 #[.pointer none] w fun x w' => x = .returned (.tuple #[]) ∧ w = w' := by
  go_enter Try.func19, Try.ntmps19
  go_wp2
  go_end0
  exact ⟨rfl, rfl⟩
theorem left_nil (w : World) : Calls Try.prog 17 #[.pointer none] w fun x w' => x = .returned (.int .i64 0) ∧ w = w' := by
  go_enter Try.func17, Try.ntmps17
  go_wp2
  go_ret
  exact ⟨rfl, rfl⟩
theorem err_nil (w : World) : Calls Try.prog 16 #[.pointer none] w fun x w' => x = .returned (.int .i64 2) ∧ w = w' := by
  go_enter Try.func16, Try.ntmps16
  go_wp2
  go_ret
  exact ⟨rfl, rfl⟩
theorem end_nil (w : World) : Calls Try.prog 25 #[.pointer none] w fun x w' => x = .returned (.int .i64 2) ∧ w = w' := by
  go_enter Try.func25, Try.ntmps25
  go_wp2_with (first
    | (go_at_call 17; refine (left_nil _).mono ?_; rintro x w' ⟨rfl, rfl⟩)
    | (go_at_call 16; refine (err_nil _).mono ?_; rintro x w' ⟨rfl, rfl⟩))
  go_ret
  exact ⟨rfl, rfl⟩
theorem noughts_nil (n : Int) (w : World) : Calls Try.prog 18 #[.pointer none, .int .i64 n] w fun x w' => x = .returned (.tuple #[]) ∧ w = w' := by
  go_enter Try.func18, Try.ntmps18
  go_wp2_with (go_at_call 35; refine (next_nil n _).mono ?_; rintro x w' ⟨rfl, rfl⟩)
  go_loop [10] (fun i => i = .int .i64 0) (fun _ => 0)
  case atStart => rfl
  case round =>
    obtain rfl := hrel
    go_wp2
    go_end0
    exact ⟨rfl, rfl⟩
theorem raw_nil (n : Int) (w : World) : Calls Try.prog 24 #[.pointer none, .int .i64 n] w (RetOwn [] w) := by
  go_enter Try.func24, Try.ntmps24
  go_wp2_with (first
    | (go_at_call 35; refine (next_nil n _).mono ?_; rintro x w' ⟨rfl, rfl⟩)
    | (go_at_call 29; refine (clone_any [] none 0 w (by simp) (fun _ => rfl) (by simp) (SrcA.nil _ _)).mono ?_; rintro x w1 ⟨v, rfl, hown, hb⟩; have HO := Lib.hid hown; have HB := Lib.hid hb; clear hown hb)
    | fail)
  go_ret
  exact ⟨_, rfl, HO.out, HB.out⟩
theorem tk8_nil (w : World) : Calls Try.prog 37 #[.pointer none] w fun x w' => x = .returned (.int .u8 0) ∧ w = w' := by
  go_enter Try.func37, Try.ntmps37
  go_wp2_with (first
    | (go_at_call 44; refine (wd8_any _).mono ?_; rintro e w' ⟨rfl, rfl⟩)
    | (go_at_call 35; refine (next_nil _ _).mono ?_; rintro x w' ⟨rfl, rfl⟩))
  go_loop [3, 10] (fun v i => v = .int .u8 0 ∧ i = .int .i64 0) (fun _ _ => 0)
  case atStart => exact ⟨rfl, rfl⟩
  case round =>
    obtain ⟨rfl, rfl⟩ := hrel
    go_wp2
    go_ret
    exact ⟨rfl, rfl⟩
theorem ru8_nil (w : World) : Calls Try.prog 20 #[.pointer none] w fun x w' => x = .returned (.int .u8 0) ∧ w = w' := by
  go_enter Try.func20, Try.ntmps20
  go_wp2_with (go_at_call 37; refine (tk8_nil _).mono ?_; rintro x w' ⟨rfl, rfl⟩)
  go_ret
  exact ⟨rfl, rfl⟩
theorem tk16_nil (w : World) : Calls Try.prog 38 #[.pointer none] w fun x w' => x = .returned (.int .u16 0) ∧ w = w' := by
  go_enter Try.func38, Try.ntmps38
  go_wp2_with (first
    | (go_at_call 41; refine (wd16_any _).mono ?_; rintro e w' ⟨rfl, rfl⟩)
    | (go_at_call 35; refine (next_nil _ _).mono ?_; rintro x w' ⟨rfl, rfl⟩))
  go_loop [3, 10] (fun v i => v = .int .u16 0 ∧ i = .int .i64 0) (fun _ _ => 0)
  case atStart => exact ⟨rfl, rfl⟩
  case round =>
    obtain ⟨rfl, rfl⟩ := hrel
    go_wp2
    go_ret
    exact ⟨rfl, rfl⟩
theorem ru16_nil (w : World) : Calls Try.prog 21 #[.pointer none] w fun x w' => x = .returned (.int .u16 0) ∧ w = w' := by
  go_enter Try.func21, Try.ntmps21
  go_wp2_with (go_at_call 38; refine (tk16_nil _).mono ?_; rintro x w' ⟨rfl, rfl⟩)
  go_ret
  exact ⟨rfl, rfl⟩
theorem tk32_nil (w : World) : Calls Try.prog 39 #[.pointer none] w fun x w' => x = .returned (.int .u32 0) ∧ w = w' := by
  go_enter Try.func39, Try.ntmps39
  go_wp2_with (first
    | (go_at_call 42; refine (wd32_any _).mono ?_; rintro e w' ⟨rfl, rfl⟩)
    | (go_at_call 35; refine (next_nil _ _).mono ?_; rintro x w' ⟨rfl, rfl⟩))
  go_loop [3, 10] (fun v i => v = .int .u32 0 ∧ i = .int .i64 0) (fun _ _ => 0)
  case atStart => exact ⟨rfl, rfl⟩
  case round =>
    obtain ⟨rfl, rfl⟩ := hrel
    go_wp2
    go_ret
    exact ⟨rfl, rfl⟩
theorem ru32_nil (w : World) : Calls Try.prog 22 #[.pointer none] w fun x w' => x = .returned (.int .u32 0) ∧ w = w' := by
  go_enter Try.func22, Try.ntmps22
  go_wp2_with (go_at_call 39; refine (tk32_nil _).mono ?_; rintro x w' ⟨rfl, rfl⟩)
  go_ret
  exact ⟨rfl, rfl⟩
theorem tk64_nil (w : World) : Calls Try.prog 40 #[.pointer none] w fun x w' => x = .returned (.int .u64 0) ∧ w = w' := by
  go_enter Try.func40, Try.ntmps40
  go_wp2_with (first
    | (go_at_call 43; refine (wd64_any _).mono ?_; rintro e w' ⟨rfl, rfl⟩)
    | (go_at_call 35; refine (next_nil _ _).mono ?_; rintro x w' ⟨rfl, rfl⟩))
  go_loop [3, 10] (fun v i => v = .int .u64 0 ∧ i = .int .i64 0) (fun _ _ => 0)
  case atStart => exact ⟨rfl, rfl⟩
  case round =>
    obtain ⟨rfl, rfl⟩ := hrel
    go_wp2
    go_ret
    exact ⟨rfl, rfl⟩
theorem ru64_nil (w : World) : Calls Try.prog 23 #[.pointer none] w fun x w' => x = .returned (.int .u64 0) ∧ w = w' := by
  go_enter Try.func23, Try.ntmps23
  go_wp2_with (go_at_call 40; refine (tk64_nil _).mono ?_; rintro x w' ⟨rfl, rfl⟩)
  go_ret
  exact ⟨rfl, rfl⟩
end Go.Proofs.Ytfamohnbaelccaa
