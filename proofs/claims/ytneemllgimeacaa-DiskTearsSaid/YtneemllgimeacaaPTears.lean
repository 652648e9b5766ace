/- DiskTears: behind a crash each byte is one that stood there, or was written; addresses that were not written tell what they told; and behind one more Flush, without writes, all stays; whatever the acts, the picks, the number of blocks. No condition. -/
import Derived.Test.YtneemllgimeacaaLTr
namespace Go.Proofs.Ytneemllgimeacaa
open Go.ChangeShapes Go.WideShapes Go.ChangeAt Go.RowKit

/-- Picks that came in. -/
theorem open_picks {H : Type} {enc : TypeId × Value → H} {W : World} {spare : Nat → Bool} {held : Bool} {b' b : Nat} {v : Value} {d : DataW H} {p : List MemPlace} (ho : Value.okWide Try.prog W .any b 43 v) (h : DataW.Trod enc Try.prog W b' spare held 43 v d p) :
    ∃ (l : List Int) (sp : Option Addr) (cap : Nat), v = .slice sp l.length cap ∧ l.length ≤ cap ∧ cap ≤ maxLen ∧ SrcI W sp l := by
  obtain ⟨a0, len, cap, rfl⟩ := okWide_slice Try.underlying43 ho
  obtain ⟨fuel, hf⟩ := h
  exact field_ints hf
set_option maxRecDepth 100000 in
set_option maxHeartbeats 4000000 in
theorem tears_walk (nb n1 c1 n2 c2 nz cz : Nat) (l1 l2 : List Ac) (zs : List Int) (sp1 sp2 spz : Option Addr) (W : World) (hnb : nb < 256) (h1 : l1.length = n1) (h2 : l2.length = n2) (hz : zs.length = nz) (k1 : n1 ≤ c1) (k2 : n2 ≤ c2) (kz : nz ≤ cz) (hmz : cz ≤ maxLen) (hm1 : c1 ≤ maxLen) (hm2 : c2 ≤ maxLen)
    (A1 : ActsAt W sp1 l1) (A2 : ActsAt W sp2 l2) (AZ : SrcI W spz zs) :
    Calls Try.prog 5 #[.int .u8 (nb : Int), .slice sp1 n1 c1, .slice sp2 n2 c2, .slice spz nz cz] W (trOK W) := by
  by_cases hall : great l1 = false ∧ great l2 = false ∧ n2 ≤ 60 ∧ n1 ≤ 60 ∧ nz ≤ 200 ∧ 1 ≤ nb ∧ nb ≤ 20
  · obtain ⟨g1, g2, b2, b1, bz, hb1, hb2⟩ := hall
    exact tears_body nb n1 c1 n2 c2 nz cz l1 l2 zs sp1 sp2 spz W h1 h2 hz k1 k2 kz hmz hm1 hm2 A1 A2 AZ g1 g2 b1 b2 bz hb1 hb2
  · have HA1 := Lib.hid A1
    have HA2 := Lib.hid A2
    have H1 := Lib.hid h1
    have H2 := Lib.hid h2
    clear A1 A2 AZ h1 h2 hz
    rcases hg1 : great l1 with _ | _
    · rcases hg2 : great l2 with _ | _
      · rw [hg1, hg2] at hall
        by_cases i2 : (60 : Int) < (n2 : Int)
        · (try clear hall)
          go_enter Try.func5, Try.ntmps5
          go_wp2_with fail
          refine (great_any l1 sp1 n1 c1 H1.out k1 hm1 W HA1.out).mono ?_
          rw [hg1]
          rintro e w' ⟨rfl, rfl⟩
          go_wp2_with fail
          refine (great_any l2 sp2 n2 c2 H2.out k2 hm2 W HA2.out).mono ?_
          rw [hg2]
          rintro e w' ⟨rfl, rfl⟩
          go_wp2_with fail
          refine (wakes_any W).mono ?_
          rintro e w2 ⟨rfl, hb⟩
          have HB := Lib.hid hb
          clear hb
          go_wp2_with fail
          go_ret
          exact ⟨rfl, HB.out⟩
        · by_cases i1 : (60 : Int) < (n1 : Int)
          · (try clear hall)
            go_enter Try.func5, Try.ntmps5
            go_wp2_with fail
            refine (great_any l1 sp1 n1 c1 H1.out k1 hm1 W HA1.out).mono ?_
            rw [hg1]
            rintro e w' ⟨rfl, rfl⟩
            go_wp2_with fail
            refine (great_any l2 sp2 n2 c2 H2.out k2 hm2 W HA2.out).mono ?_
            rw [hg2]
            rintro e w' ⟨rfl, rfl⟩
            go_wp2_with fail
            refine (wakes_any W).mono ?_
            rintro e w2 ⟨rfl, hb⟩
            have HB := Lib.hid hb
            clear hb
            go_wp2_with fail
            go_ret
            exact ⟨rfl, HB.out⟩
          · by_cases iz : (200 : Int) < (nz : Int)
            · (try clear hall)
              go_enter Try.func5, Try.ntmps5
              go_wp2_with fail
              refine (great_any l1 sp1 n1 c1 H1.out k1 hm1 W HA1.out).mono ?_
              rw [hg1]
              rintro e w' ⟨rfl, rfl⟩
              go_wp2_with fail
              refine (great_any l2 sp2 n2 c2 H2.out k2 hm2 W HA2.out).mono ?_
              rw [hg2]
              rintro e w' ⟨rfl, rfl⟩
              go_wp2_with fail
              refine (wakes_any W).mono ?_
              rintro e w2 ⟨rfl, hb⟩
              have HB := Lib.hid hb
              clear hb
              go_wp2_with fail
              go_ret
              exact ⟨rfl, HB.out⟩
            · by_cases ib : (nb : Int) < 1
              · (try clear hall)
                go_enter Try.func5, Try.ntmps5
                go_wp2_with fail
                refine (great_any l1 sp1 n1 c1 H1.out k1 hm1 W HA1.out).mono ?_
                rw [hg1]
                rintro e w' ⟨rfl, rfl⟩
                go_wp2_with fail
                refine (great_any l2 sp2 n2 c2 H2.out k2 hm2 W HA2.out).mono ?_
                rw [hg2]
                rintro e w' ⟨rfl, rfl⟩
                go_wp2_with fail
                refine (wakes_any W).mono ?_
                rintro e w2 ⟨rfl, hb⟩
                have HB := Lib.hid hb
                clear hb
                go_wp2_with fail
                go_ret
                exact ⟨rfl, HB.out⟩
              · have ib2 : (20 : Int) < (nb : Int) := by
                  have : ¬ (n2 ≤ 60 ∧ n1 ≤ 60 ∧ nz ≤ 200 ∧ 1 ≤ nb ∧ nb ≤ 20) := fun hh => hall ⟨rfl, rfl, hh⟩
                  omega
                (try clear hall)
                go_enter Try.func5, Try.ntmps5
                go_wp2_with fail
                refine (great_any l1 sp1 n1 c1 H1.out k1 hm1 W HA1.out).mono ?_
                rw [hg1]
                rintro e w' ⟨rfl, rfl⟩
                go_wp2_with fail
                refine (great_any l2 sp2 n2 c2 H2.out k2 hm2 W HA2.out).mono ?_
                rw [hg2]
                rintro e w' ⟨rfl, rfl⟩
                go_wp2_with fail
                refine (wakes_any W).mono ?_
                rintro e w2 ⟨rfl, hb⟩
                have HB := Lib.hid hb
                clear hb
                go_wp2_with fail
                go_ret
                exact ⟨rfl, HB.out⟩
      · clear hall
        (try clear hall)
        go_enter Try.func5, Try.ntmps5
        go_wp2_with fail
        refine (great_any l1 sp1 n1 c1 H1.out k1 hm1 W HA1.out).mono ?_
        rw [hg1]
        rintro e w' ⟨rfl, rfl⟩
        go_wp2_with fail
        refine (great_any l2 sp2 n2 c2 H2.out k2 hm2 W HA2.out).mono ?_
        rw [hg2]
        rintro e w' ⟨rfl, rfl⟩
        go_wp2_with fail
        refine (wakes_any W).mono ?_
        rintro e w2 ⟨rfl, hb⟩
        have HB := Lib.hid hb
        clear hb
        go_wp2_with fail
        go_ret
        exact ⟨rfl, HB.out⟩
    · clear hall
      (try clear hall)
      go_enter Try.func5, Try.ntmps5
      go_wp2_with fail
      refine (great_any l1 sp1 n1 c1 H1.out k1 hm1 W HA1.out).mono ?_
      rw [hg1]
      rintro e w' ⟨rfl, rfl⟩
      go_wp2_with fail
      refine (wakes_any W).mono ?_
      rintro e w2 ⟨rfl, hb⟩
      have HB := Lib.hid hb
      clear hb
      go_wp2_with fail
      go_ret
      exact ⟨rfl, HB.out⟩

set_option maxRecDepth 100000 in
theorem tears_lifted (os : Os) (started : os.Started) (H : Type) (enc : TypeId × Value → H) :
    ReturnsInHanded {} Try.checked os 5 .any (Rows.diskTearsSpec.pre6 enc Try.prog Try.f5 Rows.diskTearsRow.domain false) (Rows.diskTearsSpec.post enc Try.prog Try.f5 false true false false) := by
  refine returnsInHanded_of_change (C := Try.checked) own started (by kernel_rfl) Try.func5
    (ChangeSpec.witness6 (enc := enc) (C := Try.checked) false ⟨#[], #[.int .u8 0, .slice none 0 0, .slice none 0 0, .slice none 0 0], []⟩ 8 (by kernel_rfl) (by kernel_rfl) (by kernel_rfl) (by kernel_rfl)) ?_
  intro W base args ds gs before hval0 hW hcnd _
  have hval : ∀ (j : Nat) t v, Try.f5.params[j]? = some t → args[j]? = some v → Value.okWide Try.prog W .any base t v := hval0
  have hW' := hW
  obtain ⟨p, q, hA0, hV, rfl, hfz, hnd⟩ := hW
  have hA : DataW.TrodAll enc Try.prog W 0 (fun _ => true) true Try.f5.params.toList args.toList ds p := hA0
  rw [Try.params5] at hA hval
  obtain ⟨v0, vs0, d0, ds0, p0', q0, hargs, rfl, rfl, h0, r0⟩ := trodAll_cons hA
  obtain ⟨v1, vs1, d1, ds1, p1, q1, hargs1, rfl, rfl, h1, r1⟩ := trodAll_cons r0
  obtain ⟨v2, vs2, d2, ds2, p2, q2, hargs2, rfl, rfl, h2, r2⟩ := trodAll_cons r1
  obtain ⟨v3, vs3, d3, ds3, p3, q3, hargs3, rfl, rfl, h3, r3⟩ := trodAll_cons r2
  obtain ⟨rfl, rfl, rfl⟩ := trodAll_nil r3
  obtain rfl : args = #[v0, v1, v2, v3] := by cases args; simp_all
  obtain ⟨rfl, rfl⟩ := trodVars_none hV
  obtain ⟨a0, rfl, rfl, rfl, w0⟩ := open_int Try.underlying5 (hval 0 5 v0 rfl rfl) h0
  obtain ⟨l1, sp1, c1, rfl, k1, m1, A1⟩ := open_acts (hval 1 22 v1 rfl rfl) h1
  obtain ⟨l2, sp2, c2, rfl, k2, m2, A2⟩ := open_acts (hval 2 22 v2 rfl rfl) h2
  obtain ⟨zs, spz, cz, rfl, kz, mz, AZ⟩ := open_picks (hval 3 43 v3 rfl rfl) h3
  clear hA0 hval0
  simp only [List.append_nil, List.nil_append] at hW'
  have hlt1 : ∀ x ∈ p1, x.block < W.heap.size := fun x hx => hW'.lt x (by simp [hx])
  have hlt2 : ∀ x ∈ p2, x.block < W.heap.size := fun x hx => hW'.lt x (by simp [hx])
  have hlt3 : ∀ x ∈ p3, x.block < W.heap.size := fun x hx => hW'.lt x (by simp [hx])
  have hb0 := bounds_u8 w0
  obtain ⟨nb, rfl⟩ := Int.eq_ofNat_of_zero_le hb0.1
  refine (tears_walk nb l1.length c1 l2.length c2 zs.length cz l1 l2 zs sp1 sp2 spz W (by omega) rfl rfl rfl k1 k2 kz mz m1 m2 A1 A2 AZ).mono fun e W' ⟨he, hbel⟩ => ?_
  subst he
  have r1 := Below.trod laidOut (by kernel_rfl) (of_decide_eq_true (by kernel_rfl)) h1 hbel hlt1
  have r2 := Below.trod laidOut (by kernel_rfl) (of_decide_eq_true (by kernel_rfl)) h2 hbel hlt2
  have r3 := Below.trod laidOut (by kernel_rfl) (of_decide_eq_true (by kernel_rfl)) h3 hbel hlt3
  exact ⟨_, rfl, _, _, _, [], _, [], hW', trodAll_mk1 (shut_bool Try.underlying4 _), trodAll_cons_mk (shut_int Try.underlying5 w0) (trodAll_cons_mk r1 (trodAll_cons_mk r2 (trodAll_cons_mk r3 trodAll_mk0))), rfl, hbel.frame _, fun h => by cases h⟩

theorem diskTears_holds : Rows.DiskTearsSaid :=
  OpenClaim.holds_of_wide 5 Try.f5 rfl rfl rfl rfl rfl rfl rfl ⟨rfl, rfl, rfl, rfl, rfl⟩ rfl rfl rfl rfl rfl (by kernel_rfl) Try.func5 (by kernel_rfl)
    (of_decide_eq_true (by kernel_rfl)) (by unfold Func.isWrapper; first | (rw [if_pos (by decide +kernel)]; kernel_rfl) | (rw [if_neg (by decide +kernel)]; exact ⟨rfl, rfl⟩))
    (fun os started H enc _ => tears_lifted os started H enc)
#print axioms diskTears_holds
end Go.Proofs.Ytneemllgimeacaa
