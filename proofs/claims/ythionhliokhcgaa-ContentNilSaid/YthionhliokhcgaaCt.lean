/- ContentNil: no leaves. -/
import Derived.Test.YthionhliokhcgaaCs
namespace Go.Proofs.Ythionhliokhcgaa
open Go.RowKit Go.Shelf

attribute [local go_sem] Oper.semAt_some

set_option maxRecDepth 100000 in
theorem cnil_walk (sz : Nat) (X N : Int) (sp : Option Addr) (n cap : Nat) (w : World) : Calls Try.prog 4 #[.int .u32 (sz : Int), .int .i64 X, .int .i64 N, .slice sp n cap] w fun e w' => e = .returned (.bool true) ∧ Below w.heap.size w w' := by
  by_cases h : (3000 : Int) < (n : Int)
  · go_enter Try.func4, Try.ntmps4
    go_wp2_with (go_at_call 7; refine (cwakes_any _).mono ?_; rintro x w2 ⟨rfl, hb2⟩; have HB2 := Lib.hid hb2; clear hb2)
    go_ret
    exact ⟨rfl, HB2.out⟩
  · go_enter Try.func4, Try.ntmps4
    go_upto_region 3 with fail
    go_wp2_with fail
    refine (cread_nil sz X N _).mono ?_
    rintro e W1 ⟨rfl, hb1⟩
    have HB1 := Lib.hid hb1
    clear hb1
    go_upto_region 4 with fail
    go_wp2_with fail
    refine (cwrite_nil sz X sp n cap _).mono ?_
    rintro e W2 ⟨rfl, hb2⟩
    have HB2 : Hid (Below w.heap.size w W2) := Lib.hid (HB1.out.trans (hb2.mono HB1.out.size))
    clear hb2 HB1
    go_upto_region 5 with fail
    go_wp2_with fail
    refine (ctrunc_nil sz X _).mono ?_
    rintro e W3 ⟨rfl, hb3⟩
    have HB3 : Hid (Below w.heap.size w W3) := Lib.hid (HB2.out.trans (hb3.mono HB2.out.size))
    clear hb3 HB2
    go_upto_region 6 with fail
    go_wp2_with (go_at_call 7; refine (cwakes_any _).mono ?_; rintro x w4 ⟨rfl, hb4⟩; have HB4 : Hid (Below w.heap.size w w4) := Lib.hid (HB3.out.trans (hb4.mono HB3.out.size)); clear hb4)
    go_ret
    exact ⟨rfl, HB4.out⟩
end Go.Proofs.Ythionhliokhcgaa
