/- SpacePlays: a space behind any acts answers, and counts, what the document says; whatever the disks and the acts. No condition. -/
import Derived.Test.YtjfedhaafdfibaaKlp
import Derived.Test.YtjfedhaafdfibaaKop
namespace Go.Proofs.Ytjfedhaafdfibaa
open Go.ChangeShapes Go.WideShapes Go.ChangeAt Go.RowKit

def plOK (W : World) (e : Ending) (w' : World) : Prop := e = .returned (.bool true) ∧ Below W.heap.size W w'
set_option maxRecDepth 100000 in
set_option maxHeartbeats 4000000 in
theorem plays_long (a b : Int) (m c1 : Nat) (sp : Option Addr) (W : World) (q1 : 200 < (m : Int)) : Calls Try.prog 3 #[.int .i64 a, .int .i64 b, .slice sp m c1] W (plOK W) := by
  go_enter Try.func3, Try.ntmps3
  go_wp2_with fail
  refine (wakes_any W).mono ?_
  rintro e w2 ⟨rfl, hb⟩
  have HB := Lib.hid hb
  clear hb
  go_wp2_with fail
  go_ret
  exact ⟨rfl, HB.out⟩
set_option maxRecDepth 100000 in
set_option maxHeartbeats 4000000 in
theorem plays_greata (a b : Int) (m c1 : Nat) (sp : Option Addr) (W : World) (q1 : ¬ 200 < (m : Int)) (q2 : 30 < a) : Calls Try.prog 3 #[.int .i64 a, .int .i64 b, .slice sp m c1] W (plOK W) := by
  go_enter Try.func3, Try.ntmps3
  go_wp2_with fail
  refine (wakes_any W).mono ?_
  rintro e w2 ⟨rfl, hb⟩
  have HB := Lib.hid hb
  clear hb
  go_wp2_with fail
  go_ret
  exact ⟨rfl, HB.out⟩
set_option maxRecDepth 100000 in
set_option maxHeartbeats 4000000 in
theorem plays_greatb (a b : Int) (m c1 : Nat) (sp : Option Addr) (W : World) (q1 : ¬ 200 < (m : Int)) (q2 : ¬ 30 < a) (q3 : 30 < b) : Calls Try.prog 3 #[.int .i64 a, .int .i64 b, .slice sp m c1] W (plOK W) := by
  go_enter Try.func3, Try.ntmps3
  go_wp2_with fail
  refine (wakes_any W).mono ?_
  rintro e w2 ⟨rfl, hb⟩
  have HB := Lib.hid hb
  clear hb
  go_wp2_with fail
  go_ret
  exact ⟨rfl, HB.out⟩
set_option maxRecDepth 100000 in
set_option maxHeartbeats 4000000 in
theorem plays_noa (a b : Int) (m c1 : Nat) (sp : Option Addr) (W : World) (q1 : ¬ 200 < (m : Int)) (q2 : ¬ 30 < a) (q3 : ¬ 30 < b) (q4 : a < 1) : Calls Try.prog 3 #[.int .i64 a, .int .i64 b, .slice sp m c1] W (plOK W) := by
  have HO : Hid (¬ (okN a ∧ okN b)) := Lib.hid (by unfold okN; omega)
  go_enter Try.func3, Try.ntmps3
  go_wp2_with fail
  refine (new_any a b W).mono ?_
  rintro e w1 ⟨hb, hy, _⟩
  obtain rfl := hy HO.out
  have HB1 := Lib.hid hb
  clear hb hy
  go_wp2_with fail
  refine (wakes_any _).mono ?_
  rintro e w2 ⟨rfl, hb⟩
  have HB := Lib.hid (HB1.out.trans (hb.mono HB1.out.size))
  clear hb
  go_wp2_with fail
  go_ret
  exact ⟨rfl, HB.out⟩
set_option maxRecDepth 100000 in
set_option maxHeartbeats 4000000 in
theorem plays_nob (a b : Int) (m c1 : Nat) (sp : Option Addr) (W : World) (q1 : ¬ 200 < (m : Int)) (q2 : ¬ 30 < a) (q3 : ¬ 30 < b) (q4 : ¬ a < 1) (q5 : b < 1) : Calls Try.prog 3 #[.int .i64 a, .int .i64 b, .slice sp m c1] W (plOK W) := by
  have HO : Hid (¬ (okN a ∧ okN b)) := Lib.hid (by unfold okN; omega)
  go_enter Try.func3, Try.ntmps3
  go_wp2_with fail
  refine (new_any a b W).mono ?_
  rintro e w1 ⟨hb, hy, _⟩
  obtain rfl := hy HO.out
  have HB1 := Lib.hid hb
  clear hb hy
  go_wp2_with fail
  refine (wakes_any _).mono ?_
  rintro e w2 ⟨rfl, hb⟩
  have HB := Lib.hid (HB1.out.trans (hb.mono HB1.out.size))
  clear hb
  go_wp2_with fail
  go_ret
  exact ⟨rfl, HB.out⟩
theorem plays_walk (a b : Int) (c1 : Nat) (l : List KA) (sp : Option Addr) (W : World) (hA : KActs W sp l) : Calls Try.prog 3 #[.int .i64 a, .int .i64 b, .slice sp l.length c1] W (plOK W) := by
  by_cases q1 : 200 < (l.length : Int)
  · exact plays_long a b l.length c1 sp W q1
  · by_cases q2 : 30 < a
    · exact plays_greata a b l.length c1 sp W q1 q2
    · by_cases q3 : 30 < b
      · exact plays_greatb a b l.length c1 sp W q1 q2 q3
      · by_cases q4 : a < 1
        · exact plays_noa a b l.length c1 sp W q1 q2 q3 q4
        · by_cases q5 : b < 1
          · exact plays_nob a b l.length c1 sp W q1 q2 q3 q4 q5
          · obtain ⟨na, rfl⟩ : ∃ k : Nat, a = (k : Int) := ⟨a.toNat, by omega⟩
            obtain ⟨nb, rfl⟩ : ∃ k : Nat, b = (k : Int) := ⟨b.toNat, by omega⟩
            exact plays_body na nb l.length c1 l sp W rfl (by omega) (by omega) (by omega) (by omega) (by omega) hA

set_option maxRecDepth 100000 in
theorem plays_lifted (os : Os) (started : os.Started) (H : Type) (enc : TypeId × Value → H) :
    ReturnsInHanded {} Try.checked os 3 .any (Rows.spacePlaysSpec.pre6 enc Try.prog Try.f3 Rows.spacePlaysRow.domain false) (Rows.spacePlaysSpec.post enc Try.prog Try.f3 false true false false) := by
  refine returnsInHanded_of_change (C := Try.checked) own started (by kernel_rfl) Try.func3
    (ChangeSpec.witness6 (enc := enc) (C := Try.checked) false ⟨#[], #[.int .i64 0, .int .i64 0, .slice none 0 0], []⟩ 8 (by kernel_rfl) (by kernel_rfl) (by kernel_rfl) (by kernel_rfl)) ?_
  intro W base args ds gs before hval0 hW hcnd _
  have hval : ∀ (j : Nat) t v, Try.f3.params[j]? = some t → args[j]? = some v → Value.okWide Try.prog W .any base t v := hval0
  have hW' := hW
  obtain ⟨p, q, hA0, hV, rfl, hfz, hnd⟩ := hW
  have hA : DataW.TrodAll enc Try.prog W 0 (fun _ => true) true Try.f3.params.toList args.toList ds p := hA0
  rw [Try.params3] at hA hval
  obtain ⟨v0, vs0, d0, ds0, p0', q0, hargs, rfl, rfl, h0, r0⟩ := trodAll_cons hA
  obtain ⟨v1, vs1, d1, ds1, p1, q1, hargs1, rfl, rfl, h1, r1⟩ := trodAll_cons r0
  obtain ⟨v2, vs2, d2, ds2, p2, q2, hargs2, rfl, rfl, h2, r2⟩ := trodAll_cons r1
  obtain ⟨rfl, rfl, rfl⟩ := trodAll_nil r2
  obtain rfl : args = #[v0, v1, v2] := by cases args; simp_all
  obtain ⟨rfl, rfl⟩ := trodVars_none hV
  obtain ⟨a0, rfl, rfl, rfl, w0⟩ := open_int Try.underlying3 (hval 0 3 v0 rfl rfl) h0
  obtain ⟨a1, rfl, rfl, rfl, w1⟩ := open_int Try.underlying3 (hval 1 3 v1 rfl rfl) h1
  obtain ⟨l2, sp2, c2, rfl, A2⟩ := open_kacts (hval 2 22 v2 rfl rfl) h2
  clear hA0 hval0
  simp only [List.append_nil, List.nil_append] at hW'
  have hlt2 : ∀ x ∈ p2, x.block < W.heap.size := fun x hx => hW'.lt x (by simp [hx])
  refine (plays_walk a0 a1 c2 l2 sp2 W A2).mono fun e W' ⟨he, hbel⟩ => ?_
  subst he
  have r2 := Below.trod laidOut (by kernel_rfl) (of_decide_eq_true (by kernel_rfl)) h2 hbel hlt2
  exact ⟨_, rfl, _, _, _, [], _, [], hW', trodAll_mk1 (shut_bool Try.underlying4 _), trodAll_cons_mk (shut_int Try.underlying3 w0) (trodAll_cons_mk (shut_int Try.underlying3 w1) (trodAll_cons_mk r2 trodAll_mk0)), rfl, hbel.frame _, fun h => by cases h⟩

theorem spacePlays_holds : Rows.SpacePlaysSaid :=
  OpenClaim.holds_of_wide 3 Try.f3 rfl rfl rfl rfl rfl rfl rfl ⟨rfl, rfl, rfl, rfl, rfl⟩ rfl rfl rfl rfl rfl (by kernel_rfl) Try.func3 (by kernel_rfl)
    (of_decide_eq_true (by kernel_rfl)) (by unfold Func.isWrapper; first | (rw [if_pos (by decide +kernel)]; kernel_rfl) | (rw [if_neg (by decide +kernel)]; exact ⟨rfl, rfl⟩))
    (fun os started H enc _ => plays_lifted os started H enc)
#print axioms spacePlays_holds
end Go.Proofs.Ytjfedhaafdfibaa
