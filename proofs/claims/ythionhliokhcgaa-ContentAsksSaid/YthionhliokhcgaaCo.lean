/- Content: where nothing is asked. -/
import Derived.Test.YthionhliokhcgaaCn
namespace Go.Proofs.Ythionhliokhcgaa
open Go.RowKit Go.Shelf

attribute [local go_sem] Oper.semAt_some

set_option maxRecDepth 100000 in
theorem cread_nil (sz : Nat) (X N : Int) (w : World) : Calls Try.prog 11 #[.nilIface, .int .u32 (sz : Int), .int .i64 X, .int .i64 N] w fun e w' => e = .returned (.tuple #[.slice none 0 0, .int .i64 2]) ∧ Below w.heap.size w w' := by
  go_enter Try.func11, Try.ntmps11
  go_wp2_with fail
  refine (crefuse_nil X N _).mono ?_
  rintro e w' ⟨rfl, rfl⟩
  go_wp2_with fail
  refine bodyPost_ret (v := .tuple #[.slice none 0 0, .int .i64 2]) (by simp [results, Try.f11, go_sem]) rfl ⟨rfl, ?_⟩
  exact ((Below.refl _ _).alloc (Nat.le_refl _) _).alloc (by simp) _
set_option maxRecDepth 100000 in
theorem cread_bad (D sz : Nat) (X N : Int) (h : refN X N = 26) (w : World) : Calls Try.prog 11 #[shC D, .int .u32 (sz : Int), .int .i64 X, .int .i64 N] w fun e w' => e = .returned (.tuple #[.slice none 0 0, .int .i64 26]) ∧ Below w.heap.size w w' := by
  have HR := Lib.hid h
  clear h
  go_enter Try.func11, Try.ntmps11
  go_wp2_with fail
  refine (crefuse_any D X N _).mono ?_
  rintro e w' ⟨rfl, rfl⟩
  rw [HR.out]
  go_wp2_with fail
  refine bodyPost_ret (v := .tuple #[.slice none 0 0, .int .i64 26]) (by simp [results, Try.f11, go_sem]) rfl ⟨rfl, ?_⟩
  exact ((Below.refl _ _).alloc (Nat.le_refl _) _).alloc (by simp) _
set_option maxRecDepth 100000 in
theorem cwrite_nil (sz : Nat) (X : Int) (sp : Option Addr) (n cap : Nat) (w : World) : Calls Try.prog 8 #[.nilIface, .int .u32 (sz : Int), .int .i64 X, .slice sp n cap] w fun e w' => e = .returned (.tuple #[.slice none 0 0, .int .u32 0, .int .i64 2]) ∧ Below w.heap.size w w' := by
  go_enter Try.func8, Try.ntmps8
  go_wp2_with fail
  refine (crefuse_nil X (n : Int) _).mono ?_
  rintro e w' ⟨rfl, rfl⟩
  go_wp2_with fail
  refine bodyPost_ret (v := .tuple #[.slice none 0 0, .int .u32 0, .int .i64 2]) (by simp [results, Try.f8, go_sem]) rfl ⟨rfl, ?_⟩
  exact ((((Below.refl _ _).alloc (Nat.le_refl _) _).alloc (by simp) _).alloc (by simp; omega) _).alloc (by simp; omega) _
set_option maxRecDepth 100000 in
theorem cwrite_bad (D sz : Nat) (X : Int) (sp : Option Addr) (n cap : Nat) (h : refN X (n : Int) = 26) (w : World) : Calls Try.prog 8 #[shC D, .int .u32 (sz : Int), .int .i64 X, .slice sp n cap] w fun e w' => e = .returned (.tuple #[.slice none 0 0, .int .u32 0, .int .i64 26]) ∧ Below w.heap.size w w' := by
  have HR := Lib.hid h
  clear h
  go_enter Try.func8, Try.ntmps8
  go_wp2_with fail
  refine (crefuse_any D X (n : Int) _).mono ?_
  rintro e w' ⟨rfl, rfl⟩
  rw [HR.out]
  go_wp2_with fail
  refine bodyPost_ret (v := .tuple #[.slice none 0 0, .int .u32 0, .int .i64 26]) (by simp [results, Try.f8, go_sem]) rfl ⟨rfl, ?_⟩
  exact ((((Below.refl _ _).alloc (Nat.le_refl _) _).alloc (by simp) _).alloc (by simp; omega) _).alloc (by simp; omega) _
set_option maxRecDepth 100000 in
theorem cwrite_big (D sz X : Nat) (sp : Option Addr) (n cap : Nat) (h : refN (X : Int) (n : Int) = 0) (hb : 32768 < X + n) (hx : X < 9223372036854775808) (w : World) : Calls Try.prog 8 #[shC D, .int .u32 (sz : Int), .int .i64 (X : Int), .slice sp n cap] w fun e w' => e = .returned (.tuple #[.slice none 0 0, .int .u32 0, .int .i64 29]) ∧ Below w.heap.size w w' := by
  have HR := Lib.hid h
  have hn : n ≤ 2048 := by unfold refN at h; split at h; simp at h; omega
  have e1 : (32768 : Int) - (n : Int) < (X : Int) := by omega
  have e2 : (n : Int) ≤ 2048 := by omega
  clear h hb hx hn
  go_enter Try.func8, Try.ntmps8
  go_wp2_with fail
  refine (crefuse_any D (X : Int) (n : Int) _).mono ?_
  rintro e w' ⟨rfl, rfl⟩
  rw [HR.out]
  go_wp2_with fail
  refine bodyPost_ret (v := .tuple #[.slice none 0 0, .int .u32 0, .int .i64 29]) (by simp [results, Try.f8, go_sem]) rfl ⟨rfl, ?_⟩
  exact ((((Below.refl _ _).alloc (Nat.le_refl _) _).alloc (by simp) _).alloc (by simp; omega) _).alloc (by simp; omega) _
set_option maxRecDepth 100000 in
theorem cwrite_none (D sz X : Nat) (sp : Option Addr) (cap : Nat) (hb : X ≤ 32768) (w : World) : Calls Try.prog 8 #[shC D, .int .u32 (sz : Int), .int .i64 (X : Int), .slice sp 0 cap] w fun e w' => e = .returned (.tuple #[.slice none 0 0, .int .u32 (sz : Int), .int .i64 0]) ∧ Below w.heap.size w w' := by
  have HR : Hid (refN (X : Int) ((0 : Nat) : Int) = 0) := Lib.hid (by unfold refN; rw [if_neg (by omega)])
  have e1 : ¬ ((32768 : Int) < (X : Int)) := by omega
  clear hb
  go_enter Try.func8, Try.ntmps8
  go_wp2_with fail
  refine (crefuse_any D (X : Int) ((0 : Nat) : Int) _).mono ?_
  rintro e w' ⟨rfl, rfl⟩
  rw [HR.out]
  go_wp2_with fail
  refine bodyPost_ret (v := .tuple #[.slice none 0 0, .int .u32 (sz : Int), .int .i64 0]) (by simp [results, Try.f8, go_sem]) rfl ⟨rfl, ?_⟩
  exact ((((Below.refl _ _).alloc (Nat.le_refl _) _).alloc (by simp) _).alloc (by simp; omega) _).alloc (by simp; omega) _
set_option maxRecDepth 100000 in
theorem ctrunc_nil (sz : Nat) (X : Int) (w : World) : Calls Try.prog 9 #[.nilIface, .int .u32 (sz : Int), .int .i64 X] w fun e w' => e = .returned (.tuple #[.slice none 0 0, .int .u32 0, .int .i64 2]) ∧ Below w.heap.size w w' := by
  go_enter Try.func9, Try.ntmps9
  go_wp2_with fail
  refine (crefuse_nil X 0 _).mono ?_
  rintro e w' ⟨rfl, rfl⟩
  go_wp2_with fail
  refine bodyPost_ret (v := .tuple #[.slice none 0 0, .int .u32 0, .int .i64 2]) (by simp [results, Try.f9, go_sem]) rfl ⟨rfl, ?_⟩
  exact (((Below.refl _ _).alloc (Nat.le_refl _) _).alloc (by simp) _).alloc (by simp; omega) _
set_option maxRecDepth 100000 in
theorem ctrunc_bad (D sz : Nat) (X : Int) (h : refN X 0 = 26) (w : World) : Calls Try.prog 9 #[shC D, .int .u32 (sz : Int), .int .i64 X] w fun e w' => e = .returned (.tuple #[.slice none 0 0, .int .u32 0, .int .i64 26]) ∧ Below w.heap.size w w' := by
  have HR := Lib.hid h
  clear h
  go_enter Try.func9, Try.ntmps9
  go_wp2_with fail
  refine (crefuse_any D X 0 _).mono ?_
  rintro e w' ⟨rfl, rfl⟩
  rw [HR.out]
  go_wp2_with fail
  refine bodyPost_ret (v := .tuple #[.slice none 0 0, .int .u32 0, .int .i64 26]) (by simp [results, Try.f9, go_sem]) rfl ⟨rfl, ?_⟩
  exact (((Below.refl _ _).alloc (Nat.le_refl _) _).alloc (by simp) _).alloc (by simp; omega) _
set_option maxRecDepth 100000 in
theorem ctrunc_big (D sz X : Nat) (hb : 32768 < X) (hx : X < 9223372036854775808) (w : World) : Calls Try.prog 9 #[shC D, .int .u32 (sz : Int), .int .i64 (X : Int)] w fun e w' => e = .returned (.tuple #[.slice none 0 0, .int .u32 0, .int .i64 29]) ∧ Below w.heap.size w w' := by
  have HR : Hid (refN (X : Int) 0 = 0) := Lib.hid (by unfold refN; rw [if_neg (by omega)])
  have e1 : (32768 : Int) < (X : Int) := by omega
  clear hb hx
  go_enter Try.func9, Try.ntmps9
  go_wp2_with fail
  refine (crefuse_any D (X : Int) 0 _).mono ?_
  rintro e w' ⟨rfl, rfl⟩
  rw [HR.out]
  go_wp2_with fail
  refine bodyPost_ret (v := .tuple #[.slice none 0 0, .int .u32 0, .int .i64 29]) (by simp [results, Try.f9, go_sem]) rfl ⟨rfl, ?_⟩
  exact (((Below.refl _ _).alloc (Nat.le_refl _) _).alloc (by simp) _).alloc (by simp; omega) _
set_option maxRecDepth 100000 in
theorem ctrunc_up (D sz X : Nat) (hb : X ≤ 32768) (hz : sz ≤ X) (w : World) : Calls Try.prog 9 #[shC D, .int .u32 (sz : Int), .int .i64 (X : Int)] w fun e w' => e = .returned (.tuple #[.slice none 0 0, .int .u32 (X : Int), .int .i64 0]) ∧ Below w.heap.size w w' := by
  have HR : Hid (refN (X : Int) 0 = 0) := Lib.hid (by unfold refN; rw [if_neg (by omega)])
  have e1 : ¬ ((32768 : Int) < (X : Int)) := by omega
  have b1 : (X : Int) ≤ 32768 := by omega
  have e2 : (sz : Int) ≤ (X : Int) := by omega
  have w1 : IntKind.u64.wrap (X : Int) = (X : Int) := by rw [IntKind.wrap_u64]; omega
  have w2 : IntKind.u64.wrap (sz : Int) = (sz : Int) := by rw [IntKind.wrap_u64]; omega
  have w5 : IntKind.u32.wrap (X : Int) = (X : Int) := by rw [IntKind.wrap_u32]; omega
  clear hb
  go_enter Try.func9, Try.ntmps9
  go_wp2_with fail
  refine (crefuse_any D (X : Int) 0 _).mono ?_
  rintro e w' ⟨rfl, rfl⟩
  rw [HR.out]
  go_wp2_with fail
  refine bodyPost_ret (v := .tuple #[.slice none 0 0, .int .u32 (X : Int), .int .i64 0]) (by simp [results, Try.f9, go_sem]) rfl ⟨rfl, ?_⟩
  exact (((Below.refl _ _).alloc (Nat.le_refl _) _).alloc (by simp) _).alloc (by simp; omega) _
end Go.Proofs.Ythionhliokhcgaa
