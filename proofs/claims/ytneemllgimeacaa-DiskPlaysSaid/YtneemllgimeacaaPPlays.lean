/- DiskPlays: two disks that share power, behind any acts, answer and tell what the document says, act by act; what is handed in and out is nobody else's. No condition. -/
import Derived.Test.YtneemllgimeacaaLPl
namespace Go.Proofs.Ytneemllgimeacaa
open Go.ChangeShapes Go.WideShapes Go.ChangeAt Go.RowKit

set_option maxRecDepth 100000 in
set_option maxHeartbeats 4000000 in
theorem plays_walk (nb n1 c1 : Nat) (l : List Ac) (sp1 : Option Addr) (W : World) (hnb : nb < 256) (h1 : l.length = n1) (k1 : n1 ≤ c1) (hm1 : c1 ≤ maxLen) (A1 : ActsAt W sp1 l) :
    Calls Try.prog 3 #[.int .u8 (nb : Int), .slice sp1 n1 c1] W (plOK W) := by
  by_cases hall : great l = false ∧ 1 ≤ nb ∧ nb ≤ 20
  · obtain ⟨g1, hb1, hb2⟩ := hall
    exact plays_body nb n1 c1 l sp1 W h1 k1 hm1 A1 g1 hb1 hb2
  · have HA1 := Lib.hid A1
    have H1 := Lib.hid h1
    clear A1 h1
    rcases hg1 : great l with _ | _
    · rw [hg1] at hall
      by_cases ib : (nb : Int) < 1
      · clear hall
        go_enter Try.func3, Try.ntmps3
        go_wp2_with fail
        refine (great_any l sp1 n1 c1 H1.out k1 hm1 W HA1.out).mono ?_
        rw [hg1]
        rintro e w' ⟨rfl, rfl⟩
        go_wp2_with fail
        refine (wakes_any W).mono ?_
        rintro e w2 ⟨rfl, hb⟩
        have HB := Lib.hid hb
        clear hb
        go_wp2_with fail
        go_ret
        exact ⟨rfl, HB.out⟩
      · have ib2 : (20 : Int) < (nb : Int) := by
          have : ¬ (1 ≤ nb ∧ nb ≤ 20) := fun hh => hall ⟨rfl, hh⟩
          omega
        clear hall
        go_enter Try.func3, Try.ntmps3
        go_wp2_with fail
        refine (great_any l sp1 n1 c1 H1.out k1 hm1 W HA1.out).mono ?_
        rw [hg1]
        rintro e w' ⟨rfl, rfl⟩
        go_wp2_with fail
        refine (wakes_any W).mono ?_
        rintro e w2 ⟨rfl, hb⟩
        have HB := Lib.hid hb
        clear hb
        go_wp2_with fail
        go_ret
        exact ⟨rfl, HB.out⟩
    · clear hall
      go_enter Try.func3, Try.ntmps3
      go_wp2_with fail
      refine (great_any l sp1 n1 c1 H1.out k1 hm1 W HA1.out).mono ?_
      rw [hg1]
      rintro e w' ⟨rfl, rfl⟩
      go_wp2_with fail
      refine (wakes_any W).mono ?_
      rintro e w2 ⟨rfl, hb⟩
      have HB := Lib.hid hb
      clear hb
      go_wp2_with fail
      go_ret
      exact ⟨rfl, HB.out⟩

set_option maxRecDepth 100000 in
theorem plays_lifted (os : Os) (started : os.Started) (H : Type) (enc : TypeId × Value → H) :
    ReturnsInHanded {} Try.checked os 3 .any (Rows.diskPlaysSpec.pre6 enc Try.prog Try.f3 Rows.diskPlaysRow.domain false) (Rows.diskPlaysSpec.post enc Try.prog Try.f3 false true false false) := by
  refine returnsInHanded_of_change (C := Try.checked) own started (by kernel_rfl) Try.func3
    (ChangeSpec.witness6 (enc := enc) (C := Try.checked) false ⟨#[], #[.int .u8 0, .slice none 0 0], []⟩ 8 (by kernel_rfl) (by kernel_rfl) (by kernel_rfl) (by kernel_rfl)) ?_
  intro W base args ds gs before hval0 hW hcnd _
  have hval : ∀ (j : Nat) t v, Try.f3.params[j]? = some t → args[j]? = some v → Value.okWide Try.prog W .any base t v := hval0
  have hW' := hW
  obtain ⟨p, q, hA0, hV, rfl, hfz, hnd⟩ := hW
  have hA : DataW.TrodAll enc Try.prog W 0 (fun _ => true) true Try.f3.params.toList args.toList ds p := hA0
  rw [Try.params3] at hA hval
  obtain ⟨v0, vs0, d0, ds0, p0', q0, hargs, rfl, rfl, h0, r0⟩ := trodAll_cons hA
  obtain ⟨v1, vs1, d1, ds1, p1, q1, hargs1, rfl, rfl, h1, r1⟩ := trodAll_cons r0
  obtain ⟨rfl, rfl, rfl⟩ := trodAll_nil r1
  obtain rfl : args = #[v0, v1] := by cases args; simp_all
  obtain ⟨rfl, rfl⟩ := trodVars_none hV
  obtain ⟨a0, rfl, rfl, rfl, w0⟩ := open_int Try.underlying5 (hval 0 5 v0 rfl rfl) h0
  obtain ⟨l1, sp1, c1, rfl, k1, m1, A1⟩ := open_acts (hval 1 22 v1 rfl rfl) h1
  clear hA0 hval0
  simp only [List.append_nil, List.nil_append] at hW'
  have hlt1 : ∀ x ∈ p1, x.block < W.heap.size := fun x hx => hW'.lt x (by simp [hx])
  have hb0 := bounds_u8 w0
  obtain ⟨nb, rfl⟩ := Int.eq_ofNat_of_zero_le hb0.1
  refine (plays_walk nb l1.length c1 l1 sp1 W (by omega) rfl k1 m1 A1).mono fun e W' ⟨he, hbel⟩ => ?_
  subst he
  have r1 := Below.trod laidOut (by kernel_rfl) (of_decide_eq_true (by kernel_rfl)) h1 hbel hlt1
  exact ⟨_, rfl, _, _, _, [], _, [], hW', trodAll_mk1 (shut_bool Try.underlying4 _), trodAll_cons_mk (shut_int Try.underlying5 w0) (trodAll_cons_mk r1 trodAll_mk0), rfl, hbel.frame _, fun h => by cases h⟩

theorem diskPlays_holds : Rows.DiskPlaysSaid :=
  OpenClaim.holds_of_wide 3 Try.f3 rfl rfl rfl rfl rfl rfl rfl ⟨rfl, rfl, rfl, rfl, rfl⟩ rfl rfl rfl rfl rfl (by kernel_rfl) Try.func3 (by kernel_rfl)
    (of_decide_eq_true (by kernel_rfl)) (by unfold Func.isWrapper; first | (rw [if_pos (by decide +kernel)]; kernel_rfl) | (rw [if_neg (by decide +kernel)]; exact ⟨rfl, rfl⟩))
    (fun os started H enc _ => plays_lifted os started H enc)
#print axioms diskPlays_holds
end Go.Proofs.Ytneemllgimeacaa
