/- PtrOne: a block fits one tag, and a tag one block: what is sealed is put, and read as itself; a block that fits two pointers of one digest shows that their tags are alike, and two blocks that fit one pointer are alike; else two unlike texts with one digest are shown. Conditions: the program's tables of constants and of kinds lie as their own initialisers lay them. -/
import Derived.Test.YtlibdcgpjglcpaaDoorLone
import Derived.Test.YtlibdcgpjglcpaaDoorPop
import Derived.Test.YtlibdcgpjglcpaaDoorCards
import Derived.Test.YtlibdcgpjglcpaaDoorTie
import Derived.SevenTiedAt
namespace Go.Proofs.YtlibdcgpjglcpaaDoor
open Go.ChangeShapes Go.WideShapes Go.ChangeAt Go.WideMaps Go.WideElems Go.RowKit

set_option maxRecDepth 100000 in
set_option maxHeartbeats 4000000 in
theorem ptrOne_walk (p q : Pt) (hp : p.OK) (hq : q.OK) (bs os : Bs) (sp1 sp2 : Option Addr) (cap1 cap2 : Nat) (w : World) (hc1 : bs.length ≤ cap1) (hc2 : os.length ≤ cap2) (hm1 : cap1 ≤ maxLen) (hm2 : cap2 ≤ maxLen) (hz1 : sp1 = none → cap1 = 0) (hz2 : sp2 = none → cap2 = 0) (hS1 : SrcA w sp1 bs) (hS2 : SrcA w sp2 os) (hT : Tab w) (hR : RTab w) :
    Calls Tryd.prog 5 #[.agg (pcells p).toArray, .agg (pcells q).toArray, .slice sp1 bs.length cap1, .slice sp2 os.length cap2] w fun e w' => e = .returned (.bool true) ∧ Below w.heap.size w w' := by
  by_cases h : bs.length = 512 ∧ os.length = 512
  · have h1 := ptrOne_go p q hp hq bs os sp1 sp2 cap1 cap2 w h.1 h.2 (by omega) (by omega) hm1 hm2 hz1 hz2 hS1 hS2 hT hR
    rw [h.1, h.2]
    exact h1
  · obtain ⟨L1, hL1⟩ : ∃ L, bs.length = L := ⟨_, rfl⟩
    obtain ⟨L2, hL2⟩ : ∃ L, os.length = L := ⟨_, rfl⟩
    rw [hL1, hL2] at h ⊢
    have hb0 : Below w.heap.size w ((w.alloc (.cells (pcells p).toArray 28)).alloc (.cells (pcells q).toArray 28)) := ((Below.refl _ _).alloc (Nat.le_refl _) _).alloc (by simp) _
    have HWK := Lib.hid ((wakes_any _ (hT.below hb0 (Nat.le_refl _)) (hR.below hb0 (Nat.le_refl _)) (by decide)).mono fun e w' (h : e = .returned (.bool true) ∧ Below _ _ w') => (⟨h.1, hb0.trans (h.2.mono hb0.size)⟩ : e = .returned (.bool true) ∧ Below w.heap.size w w'))
    clear hp hq hc1 hc2 hm1 hm2 hz1 hz2 hS1 hS2 hT hR hL1 hL2 hb0
    go_enter Tryd.func5, Tryd.ntmps5
    by_cases h1 : L1 = 512
    · have i1 : (L1 : Int) = 512 := by omega
      have i2 : ¬ (L2 : Int) = 512 := by omega
      clear h h1
      go_wp2_with fail
      refine HWK.out.mono ?_
      rintro e w1 ⟨rfl, hb1⟩
      have HB := Lib.hid hb1
      clear hb1 HWK
      go_wp2_with fail
      go_ret
      exact ⟨rfl, HB.out⟩
    · have i1 : ¬ (L1 : Int) = 512 := by omega
      clear h h1
      go_wp2_with fail
      refine HWK.out.mono ?_
      rintro e w1 ⟨rfl, hb1⟩
      have HB := Lib.hid hb1
      clear hb1 HWK
      go_wp2_with fail
      go_ret
      exact ⟨rfl, HB.out⟩
set_option maxRecDepth 100000 in
theorem ptrOne_lifted (os : Os) (started : os.Started) (H : Type) (enc : TypeId × Value → H) :
    ReturnsInHanded {} Tryd.checked os 5 .any (fun w args => (Rows.ptrOneSpec.pre enc Tryd.prog Tryd.f5 [] false w args ∧ laidMetH Tryd.prog laidK w) ∧ sizedMet enc Tryd.prog Tryd.f5 (OpenSpec.ofChange Rows.ptrOneSpec) false w args)
      (Rows.ptrOneSpec.post enc Tryd.prog Tryd.f5 false true false false) := by
  refine returnsInHanded_of_change_and (C := Tryd.checked) (X := fun w _ => laidMetH Tryd.prog laidK w) (fun _ _ _ hh h => h.of_heap hh) own started (by kernel_rfl) Tryd.func5
    (ChangeSpec.witness_shaped (enc := enc) (C := Tryd.checked) (os := os) (X := fun w _ => laidMetH Tryd.prog laidK w) false (World.doorLaid Tryd.prog 400 os) #[.agg (pcells zeroP).toArray, .agg (pcells zeroP).toArray, .slice none 0 0, .slice none 0 0] 8 rfl (World.shaped_of_RefB (by kernel_rfl) (by kernel_rfl)) (by kernel_rfl) (by kernel_rfl) (by kernel_rfl) (door_met os _)) ?_
  intro W base args ds gs before hval0 hW _ _ hL _
  have hval : ∀ (j : Nat) t v, Tryd.f5.params[j]? = some t → args[j]? = some v → Value.okWide Tryd.prog W .any base t v := hval0
  have hW' := hW
  obtain ⟨p, q, hA0, hV, rfl, hfz, hnd⟩ := hW
  have hA : DataW.TrodAll enc Tryd.prog W 0 (fun _ => true) true Tryd.f5.params.toList args.toList ds p := hA0
  rw [Tryd.params5] at hA hval
  obtain ⟨v0, vs0, d0, ds0, p0', q0, hargs, rfl, rfl, h0, r0⟩ := trodAll_cons hA
  obtain ⟨v1, vs1, d1, ds1, p1, q1, hargs1, rfl, rfl, h1, r1⟩ := trodAll_cons r0
  obtain ⟨v2, vs2, d2, ds2, p2, q2, hargs2, rfl, rfl, h2, r2⟩ := trodAll_cons r1
  obtain ⟨v3, vs3, d3, ds3, p3, q3, hargs3, rfl, rfl, h3, r3⟩ := trodAll_cons r2
  obtain ⟨rfl, rfl, rfl⟩ := trodAll_nil r3
  obtain rfl : args = #[v0, v1, v2, v3] := by cases args; simp_all
  obtain ⟨rfl, rfl⟩ := trodVars_none hV
  obtain ⟨a, ha, rfl⟩ := open_ptr (hval 0 28 v0 rfl rfl) h0
  obtain ⟨b, hb, rfl⟩ := open_ptr (hval 1 28 v1 rfl rfl) h1
  obtain ⟨l1, sp1, cap1, rfl, hc1, hm1, hz1, hS1⟩ := open_bytes (hval 2 29 v2 rfl rfl) h2
  obtain ⟨l2, sp2, cap2, rfl, hc2, hm2, hz2, hS2⟩ := open_bytes (hval 3 29 v3 rfl rfl) h3
  clear hA0 hval0
  simp only [List.append_nil] at hW'
  have hlt0 : ∀ x ∈ p0', x.block < W.heap.size := fun x hx => hW'.lt x (by simp [hx])
  have hlt1 : ∀ x ∈ p1, x.block < W.heap.size := fun x hx => hW'.lt x (by simp [hx])
  have hlt2 : ∀ x ∈ p2, x.block < W.heap.size := fun x hx => hW'.lt x (by simp [hx])
  have hlt3 : ∀ x ∈ p3, x.block < W.heap.size := fun x hx => hW'.lt x (by simp [hx])
  refine (ptrOne_walk a b ha hb l1 l2 sp1 sp2 cap1 cap2 W hc1 hc2 hm1 hm2 hz1 hz2 hS1 hS2 (of_laid hL).1 (of_laid hL).2).mono fun e W' ⟨he, hbel⟩ => ?_
  subst he
  have r0 := Below.trod laidOut (by kernel_rfl) (of_decide_eq_true (by kernel_rfl)) h0 hbel hlt0
  have r1 := Below.trod laidOut (by kernel_rfl) (of_decide_eq_true (by kernel_rfl)) h1 hbel hlt1
  have r2 := Below.trod laidOut (by kernel_rfl) (of_decide_eq_true (by kernel_rfl)) h2 hbel hlt2
  have r3 := Below.trod laidOut (by kernel_rfl) (of_decide_eq_true (by kernel_rfl)) h3 hbel hlt3
  exact ⟨_, rfl, _, _, _, [], _, [], hW', trodAll_mk1 (shut_bool Tryd.underlying4 _), trodAll_cons_mk r0 (trodAll_cons_mk r1 (trodAll_cons_mk r2 (trodAll_cons_mk r3 trodAll_mk0))), rfl, hbel.frame _, fun h => by cases h⟩

theorem ptrOne_holds : Rows.PtrOneSaid :=
  OpenClaim.holds_of_wide 5 Tryd.f5 rfl rfl rfl rfl rfl rfl rfl ⟨rfl, rfl, rfl, rfl, rfl⟩ rfl rfl rfl rfl rfl (by kernel_rfl) Tryd.func5 (by kernel_rfl)
    (of_decide_eq_true (by kernel_rfl)) (by unfold Func.isWrapper; first | (rw [if_pos (by decide +kernel)]; kernel_rfl) | (rw [if_neg (by decide +kernel)]; exact ⟨rfl, rfl⟩))
    (fun os started H enc _ => ptrOne_lifted os started H enc)

theorem ptrOne_card : Rows.PtrOneCardSaid :=
  Claim7.holds_tied_plain_at .later [] [.data, .data] true (true, "03fe87e7a4f24602a8ebe08b92b825c9543fc55fd924062a7493850936d27b5d") false
    ptrOne_holds (fun _ h => by cases h) (by kernel_rfl) (fun _ h => by cases h) ptrOne_row_tie rfl ⟨rfl, rfl⟩ (by kernel_rfl) rfl
    (fun f fn hf hfn => by
      obtain rfl : f = 5 := Option.some.inj ((show Tryd.prog.funcNamed Tryd.f5.name = some 5 by kernel_rfl).symm.trans hf) |>.symm
      obtain rfl : fn = Tryd.f5 := (Option.some.inj (Tryd.func5.symm.trans hfn)).symm
      exact ⟨by kernel_rfl, fun j t ht => by
        rw [Tryd.params5] at ht
        have hm : t ∈ [28, 28, 29, 29] := by simpa using Array.mem_of_getElem? ht
        have hall : ([28, 28, 29, 29].all fun u => !Tryd.prog.wantsStandIn u) = true := by kernel_rfl
        exact (show Tryd.prog.wantsStandIn t = false by simpa using List.all_eq_true.1 hall t hm)⟩)
    (by kernel_rfl)
#print axioms ptrOne_card
end Go.Proofs.YtlibdcgpjglcpaaDoor
