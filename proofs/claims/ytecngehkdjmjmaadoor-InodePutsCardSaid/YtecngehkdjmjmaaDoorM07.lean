/- Put: a pointer's bytes behind some. -/
import Derived.Test.YtecngehkdjmjmaaDoorM06
import Derived.Deep.RegionLaw
import Derived.WalkSpells
import Derived.Deep.Quiet
import Derived.Stop.BytesEq
import Derived.Deep.RegionWith
import Derived.Deep.RegionHeld3
import Derived.Deep.MidRow
import Derived.Deep.QuietTactic
import Derived.BigQuiet
import Derived.StillTailTactics
import Derived.WalkKit
import Derived.Lib.Hide
import Derived.Test.YtecngehkdjmjmaaDoorM02
namespace Go.Proofs.YtecngehkdjmjmaaDoor
open Go.RowKit

def PuRel (p : Pt) (w : World) (v i : Value) (wr : World) : Prop :=
  ∃ k : Nat, k ≤ 4 ∧ i = .int .i64 (k : Int) ∧ OwnB wr w.heap.size v (tagB p ++ p.hash ++ tailB (p.ats.take k)) ∧ Below w.heap.size w wr
theorem body_len {p : Pt} (hp : p.OK) {k : Nat} (hk : k ≤ 4) : (tagB p ++ p.hash ++ tailB (p.ats.take k)).length = 48 + 2 * k := by
  have := hp.len
  simp [tagB_length, hp.hash, tailB_length]
  omega
set_option maxRecDepth 100000 in
set_option maxHeartbeats 4000000 in
theorem ptrPut_any (p : Pt) (hp : p.OK) (l : Bs) (sp : Option Addr) (cap : Nat) (w : World) (hl : l.length ≤ 1000) (hS : SrcA w sp l) (hz : sp = none → cap = 0) :
    Calls Tryd.prog 28 #[.slice sp l.length cap, .agg (pcells p).toArray] w fun e w' => ∃ v, e = .returned v ∧ OwnB w' w.heap.size v (l ++ padB p) ∧ Below w.heap.size w w' := by
  have HP := Lib.hid hp
  have HG0 : Hid (Blk (w.alloc (.cells (pcells p).toArray 28)) w.heap.size (pcells p) 28) := Lib.hid (Blk.new _ _ _)
  have HB0 : Hid (Below w.heap.size w (w.alloc (.cells (pcells p).toArray 28))) := Lib.hid ((Below.refl _ _).alloc (Nat.le_refl _) _)
  obtain ⟨L, hL⟩ : ∃ L, l.length = L := ⟨_, rfl⟩
  rw [hL] at hl ⊢
  have HL := Lib.hid hL; have HS := Lib.hid hS; have HZ := Lib.hid hz
  clear hp hL hS hz
  go_enter Tryd.func28, Tryd.ntmps28
  go_upto_region 1 with fail
  generalize (w.alloc (.cells (pcells p).toArray 28)) = W0 at HG0 HB0 ⊢
  refine wp_region_sched (.take 0 (.take 2 (.take 3 (.step 1 (.step 4 (.take 5 (.nil))))))) (by kernel_rfl) (by kernel_rfl) (fun d _ _ _ _ h => by cases d <;> exact h) (fun X => Blk X w.heap.size (pcells p) 28) HG0.out.drew ?_
  refine wpG_take _ (.agg (pcells p).toArray) rfl (by rfl) (fun X hX => ex_ld rfl rfl (rng_all hX) Tryd.underlying28 rfl (by rw [sizeP, pcells_length HP.out])) ?_
  (try simp only [Act.put, List.setIfInBounds_toArray, List.set_cons_zero, List.set_cons_succ])
  refine wpG_take _ (.pointer (some ⟨w.heap.size, 5, none⟩)) rfl (by rfl) (fun X hX => ex_faP 5 5 (by omega) rfl rfl) ?_
  (try simp only [Act.put, List.setIfInBounds_toArray, List.set_cons_zero, List.set_cons_succ])
  refine wpG_take _ (.slice (some ⟨w.heap.size, 5, none⟩) 32 32) rfl (by rfl) (fun X hX => ex_slH rfl rfl) ?_
  (try simp only [Act.put, List.setIfInBounds_toArray, List.set_cons_zero, List.set_cons_succ])
  refine wpG_call _ rfl (by rfl) 48 #[.agg (pcells p).toArray] (fun _ => by go_simp) (fun u w' => OwnB w' W0.heap.size u (tagB p) ∧ Below W0.heap.size W0 w') ((tag_any p HP.out W0.drew).mono fun e w' ⟨v, e1, e2, e3⟩ => ⟨v, e1, HG0.out.drew.below e3 HG0.out.lt, e2, (Below.refl _ _).drew.trans e3⟩) ?_
  rintro u w2 hs2 ⟨ho2, hb2⟩
  refine ⟨_, fun _ h => h, hs2, ?_⟩
  (try simp only [Act.put, List.setIfInBounds_toArray, List.set_cons_zero, List.set_cons_succ])
  obtain ⟨v3, w3, hr3, ho3, hb3⟩ := ownB_app (m := p.hash) ho2 hb2.size (by rw [tagB_length, HP.out.hash]; omega) (g := w.heap.size) (off := 5) (c := 32) (rng_hash hs2) 38
  rw [HP.out.hash] at hr3
  refine wpG_mk _ rfl (by rfl) v3 w3 (ex_appB rfl rfl rfl hr3) _ (hs2.below hb3 HG0.out.lt) (fun _ h => h) ?_
  (try simp only [Act.put, List.setIfInBounds_toArray, List.set_cons_zero, List.set_cons_succ])
  refine wpG_take _ (v3) rfl (by rfl) (fun X hX => by rfl) ?_
  (try simp only [Act.put, List.setIfInBounds_toArray, List.set_cons_zero, List.set_cons_succ])
  refine wpG_nil ?_
  have HS3 := Lib.hid (hs2.below hb3 HG0.out.lt)
  have HO3 := Lib.hid (ho3.mono (B' := w.heap.size) HB0.out.size)
  have HB3 := Lib.hid (HB0.out.trans ((hb2.trans hb3).mono HB0.out.size))
  clear hs2 ho2 hb2 hr3 ho3 hb3
  have HATS : Hid ((p.ats.map U16).length = 4) := Lib.hid (by simp [HP.out.len])
  obtain ⟨sp3, n3, c3, rfl⟩ : ∃ sp n c, v3 = .slice sp n c := by
    obtain ⟨sp, c, e, _⟩ := OwnB.form HO3.out
    exact ⟨sp, _, c, e⟩
  go_wp2_with (first | (refine wpL_val rfl (ex_ld (ty := 26) (cs := p.ats.map U16) rfl rfl (rng_ats HS3.out HP.out.hash) Tryd.underlying26 rfl (by rw [sizeAts, HATS.out])) ?_) | fail)
  have HR := Lib.hid (show PuRel p w (.slice sp3 n3 c3) (.int .i64 0) w3 from ⟨0, by omega, rfl, by simpa [tailB] using HO3.out, HB3.out⟩)
  clear HS3 HB3 HO3 HB0 HG0
  go_loopw [5, 15] (fun v i wr => PuRel p w v i wr) (fun _ i _ => 4 - (intOf i).toNat)
  case atStart => exact HR.out
  case round =>
    clear HR
    obtain ⟨k, hk, rfl, hO, hB⟩ := hrel
    have HO := Lib.hid hO
    have HB := Lib.hid hB
    obtain ⟨sp4, cap4, e, q1, q2, q3, q4, q5⟩ := OwnB.form hO
    have HS4 := Lib.hid q3
    have HZ4 := Lib.hid q4
    have hlen := body_len HP.out hk
    rw [hlen] at e
    subst e
    clear hO hB q1 q2 q3 q4 q5
    have wk1 := IntWalk.i64_in ((k : Int) + 1) (by omega)
    by_cases hlt : k < 4
    · obtain ⟨x, hx⟩ : ∃ x, p.ats[k]? = some x := ⟨_, List.getElem?_eq_getElem (by rw [HP.out.len]; exact hlt)⟩
      have hxl : x < 65536 := HP.out.ats x (List.mem_of_getElem? hx)
      have hix : ∀ W : World, (Instr.index 26 (.agg (p.ats.map U16).toArray) (.int .i64 (k : Int))).run Tryd.prog W = .ok (.int .u16 (x : Int)) W := fun W => index_ats p hx hlt W
      have HX := Lib.hid hx
      have hc := pu16_any (tagB p ++ p.hash ++ tailB (p.ats.take k)) sp4 cap4 x wr (by omega) hxl HS4.out
      rw [hlen] at hc
      have HC := Lib.hid hc
      clear hx hc hlen
      go_wp2_with fail
      refine HC.out.mono ?_
      rintro e w4 ⟨rfl, ho4, hb4⟩
      have HO4 := Lib.hid ho4
      have HB4 := Lib.hid hb4
      clear ho4 hb4
      go_wp2_with fail
      go_roundw
      case rel =>
        refine ⟨k + 1, by omega, by go_num, ?_, HB.out.trans (HB4.out.mono HB.out.size)⟩
        have h1 := HO4.out
        rw [List.append_assoc, ← tailB_snoc, ← val_take_one HX.out] at h1
        have h2 : (tagB p ++ p.hash ++ tailB (p.ats.take (k + 1))).length = 48 + 2 * k + 2 := by rw [body_len HP.out (by omega)]; omega
        rw [h2] at h1
        exact h1.mono HB.out.size
      case measure => simp [intOf]; omega
    · obtain rfl : k = 4 := by omega
      have e4 : p.ats.take 4 = p.ats := List.take_of_length_le (by rw [HP.out.len]; omega)
      have hbody : tagB p ++ p.hash ++ tailB (p.ats.take 4) = bodyB p := by rw [e4]; rfl
      rw [hbody] at HS4
      have HBL : Hid ((bodyB p).length = 56) := Lib.hid (bodyB_length HP.out)
      rw [show 48 + 2 * 4 = 56 from rfl]
      have hc := fill_any (bodyB p) sp4 cap4 64 wr (by rw [HBL.out]; omega) (by omega) HS4.out
      rw [HBL.out] at hc
      have HC := Lib.hid hc
      clear hlt hk e4 hbody hlen hc
      rw [show ((4 : Nat) : Int) = (4 : Int) from rfl]
      go_wp2_with (first | (go_at_call 30; refine HC.out.mono ?_; fail) | fail)
      refine HC.out.mono ?_
      rintro e w5 ⟨v5, rfl, ho5, hb5⟩
      have hpad : fillOf (bodyB p) 64 = padB p := by
        unfold fillOf padB
        rw [HBL.out]
        rfl
      rw [hpad] at ho5
      obtain ⟨sp5, cap5, e5, q1, q2, q3, q4, q5⟩ := OwnB.form ho5
      have hpl := padB_length HP.out
      rw [hpl] at e5
      subst e5
      have hbb := HB.out.trans (hb5.mono HB.out.size)
      have hw := hbb.size
      have hbk : Blk (w5.alloc (.cells #[.slice sp L cap, .slice sp5 64 cap5] 38)) w5.heap.size [.slice sp L cap, .slice sp5 64 cap5] 38 := Blk.new' _ _ _ _ _ rfl rfl
      have hz6 : Below w5.heap.size w5 (w5.alloc (.cells #[.slice sp L cap, .slice sp5 64 cap5] 38)) := (Below.refl _ _).alloc (Nat.le_refl _) _
      have hc6 := conc_any l (padB p) sp sp5 cap cap5 w5.heap.size _ (by rw [hpl]; omega) (by rw [HL.out, hpl]; omega) (by simp) (by rw [HL.out]; exact hbk.cell rfl) (by rw [hpl]; exact hbk.cell rfl) ((HS.out.below hbb (Nat.le_refl _)).grown hz6) (q3.grown hz6) HZ.out q4
      have HC6 : Hid (Calls Tryd.prog 49 #[.slice (some ⟨w5.heap.size, 0, none⟩) 2 2] (w5.alloc (.cells #[.slice sp L cap, .slice sp5 64 cap5] 38)) fun e w' => ∃ v, e = .returned v ∧ OwnB w' w.heap.size v (l ++ padB p) ∧ Below w.heap.size w w') := Lib.hid (hc6.mono fun e w' ⟨v, e1, e2, e3⟩ => ⟨v, e1, e2.mono (by simp; omega), hbb.trans ((hz6.trans (e3.mono (by simp))).mono hw)⟩)
      clear hc6 hbk hz6 hbb q1 q2 q3 q4 q5 hpad ho5 hb5 hpl hw HC HO HS4 HZ4
      go_wp2_with (first | (go_at_call 49; refine HC6.out.mono ?_; rintro e w7 ⟨v7, rfl, ho7, hb7⟩; have HO7 := Lib.hid ho7; have HB7 := Lib.hid hb7; clear ho7 hb7) | fail)
      go_ret
      exact ⟨_, rfl, HO7.out, HB7.out⟩
end Go.Proofs.YtecngehkdjmjmaaDoor
/- The pointer that a block fits: Seal. -/
namespace Go.Proofs.YtecngehkdjmjmaaDoor
open Go.RowKit

theorem one_pc (p : Pt) : (pcells p).toArray.all (·.oneCell') = true := by
  rw [Array.all_eq_true_iff_forall_mem]
  intro v hv
  simp only [pcells, pnums, List.mem_toArray, List.mem_cons, List.mem_append, List.mem_map, List.not_mem_nil, or_false] at hv
  rcases hv with (rfl | rfl | rfl | rfl | rfl) | ⟨x, _, rfl⟩ | ⟨x, _, rfl⟩ <;> rfl
theorem size_pc {p : Pt} (hp : p.OK) : (Tryd.prog.info? 28).map (·.size) = some (pcells p).toArray.size := by rw [sizeP]; simp [pcells_length hp]
end Go.Proofs.YtecngehkdjmjmaaDoor
/- Whether a block fits a pointer: Fits. -/
namespace Go.Proofs.YtecngehkdjmjmaaDoor
open Go.RowKit

end Go.Proofs.YtecngehkdjmjmaaDoor
