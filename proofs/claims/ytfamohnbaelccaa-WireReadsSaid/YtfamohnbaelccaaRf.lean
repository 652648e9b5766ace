/- The document's own reader: bytes. -/
import Derived.Test.YtfamohnbaelccaaReg
import Derived.Test.YtfamohnbaelccaaRdRest
import Derived.RegionTactic
namespace Go.Proofs.Ytfamohnbaelccaa
open Go.RowKit

/-- The document's reader, as a value: the bytes that are left, the error. -/
abbrev RefV (sp : Option Addr) (l : List (BitVec 8)) (cap e : Nat) : Value := .agg #[.slice sp l.length cap, .int .i64 (e : Int)]
def refRes (l : List (BitVec 8)) (e : Nat) (n : Int) : List (BitVec 8) × List (BitVec 8) × Nat :=
  if e ≠ 0 then ([], l, e) else if (l.length : Int) < n then ([], [], 4) else (l.take n.toNat, l.drop n.toNat, 0)
/-- What stays of it. -/
def RefIs (w : World) (K : Nat → Prop) (sp : Option Addr) (l : List (BitVec 8)) (cap : Nat) : Prop := l.length ≤ cap ∧ (sp = none → cap = 0) ∧ SrcX w K sp l
theorem RefIs.low {w w' : World} {K : Nat → Prop} {B : Nat} {sp : Option Addr} {l : List (BitVec 8)} {cap : Nat} (h : RefIs w (fun g => K g ∧ g < B) sp l cap) (hb : Below B w w') : RefIs w' K sp l cap :=
  ⟨h.1, h.2.1, fun h0 => by
    obtain ⟨g, o, e, hk, hg, hc⟩ := h.2.2 h0
    exact ⟨g, o, e, hk.1, Nat.lt_of_lt_of_le hg hb.size, fun j hj => (hb.cell (p := ⟨g, o + j, none⟩) hk.2).trans (hc j hj)⟩⟩
theorem RefIs.up {w : World} {K : Nat → Prop} {sp : Option Addr} {l : List (BitVec 8)} {cap : Nat} (h : RefIs w K sp l cap) : RefIs w (fun g => K g ∧ g < w.heap.size) sp l cap :=
  ⟨h.1, h.2.1, fun h0 => by
    obtain ⟨g, o, e, hk, hg, hc⟩ := h.2.2 h0
    exact ⟨g, o, e, ⟨hk, hg⟩, hg, hc⟩⟩
theorem RefIs.below {w w' : World} {K : Nat → Prop} {sp : Option Addr} {l : List (BitVec 8)} {cap : Nat} (h : RefIs w K sp l cap) (hb : Below w.heap.size w w') : RefIs w' K sp l cap :=
  ⟨h.1, h.2.1, h.2.2.below hb (Nat.le_refl _)⟩
def RawOf (K : Nat → Prop) (l : List (BitVec 8)) (e : Nat) (n : Int) (w : World) (x : Ending) (w' : World) : Prop :=
  ∃ so co sp cap, x = .returned (.tuple #[.slice so (refRes l e n).1.length co, RefV sp (refRes l e n).2.1 cap (refRes l e n).2.2]) ∧ RefIs w' K so (refRes l e n).1 co ∧ RefIs w' K sp (refRes l e n).2.1 cap ∧ Below w.heap.size w w'

set_option maxHeartbeats 1000000 in
theorem refRaw_err (l : List (BitVec 8)) (sp : Option Addr) (cap e : Nat) (n : Int) (w : World) {K : Nat → Prop} (hR : RefIs w K sp l cap) (he : e ≠ 0) :
    Calls Try.prog 31 #[.agg #[.slice sp l.length cap, .int .i64 (e : Int)], .int .i64 n] w (RawOf K l e n w) := by
  have hr : refRes l e n = ([], l, e) := if_pos he
  have HP : Hid (∀ w', Below w.heap.size w w' → RawOf K l e n w (.returned (.tuple #[.slice none 0 0, .agg #[.slice sp l.length cap, .int .i64 (e : Int)]])) w') := Lib.hid (fun w' hb => by
    unfold RawOf; rw [hr]
    exact ⟨none, 0, sp, cap, rfl, ⟨by simp, fun _ => rfl, fun h => by simp at h⟩, ⟨hR.1, hR.2.1, hR.2.2.below hb (Nat.le_refl _)⟩, hb⟩)
  have h1 : ((e : Int) != 0) = true := by rw [bne_iff_ne]; omega
  have h3 : ¬ (e : Int) = 0 := by omega
  clear hr hR he
  go_enter Try.func31, Try.ntmps31
  go_wp2
  go_region
  go_wp2
  exact bodyPost_ret (v := .tuple #[.slice none 0 0, .agg #[.slice sp l.length cap, .int .i64 (e : Int)]]) (by simp [results, Try.results31, go_sem]) rfl (HP.out _ (((Below.refl _ _).alloc (Nat.le_refl _) _).alloc (by simp) _).drew)

set_option maxHeartbeats 1000000 in
theorem refRaw_short (l : List (BitVec 8)) (sp : Option Addr) (cap : Nat) (n : Int) (w : World) {K : Nat → Prop} (hs : (l.length : Int) < n) :
    Calls Try.prog 31 #[.agg #[.slice sp l.length cap, .int .i64 0], .int .i64 n] w (RawOf K l 0 n w) := by
  have hr : refRes l 0 n = ([], [], 4) := by unfold refRes; rw [if_neg (by omega), if_pos hs]
  have HP : Hid (∀ w', Below w.heap.size w w' → RawOf K l 0 n w (.returned (.tuple #[.slice none 0 0, .agg #[.slice none 0 0, .int .i64 4]])) w') := Lib.hid (fun w' hb => by
    unfold RawOf; rw [hr]
    exact ⟨none, 0, none, 0, rfl, ⟨by simp, fun _ => rfl, fun h => by simp at h⟩, ⟨by simp, fun _ => rfl, fun h => by simp at h⟩, hb⟩)
  have h0 : ¬ n < 0 := by omega
  clear hr
  go_enter Try.func31, Try.ntmps31
  go_wp2
  exact bodyPost_ret (v := .tuple #[.slice none 0 0, .agg #[.slice none 0 0, .int .i64 4]]) (by simp [results, Try.results31, go_sem]) rfl (HP.out _ (((Below.refl _ _).alloc (Nat.le_refl _) _).alloc (by simp) _))

set_option maxHeartbeats 1000000 in
theorem refRaw_ok (l : List (BitVec 8)) (sp : Option Addr) (cap m : Nat) (n : Int) (w : World) {K : Nat → Prop} (hR : RefIs w K sp l cap) (hm : m ≤ l.length) (hn : n = (m : Int)) :
    Calls Try.prog 31 #[.agg #[.slice sp l.length cap, .int .i64 0], .int .i64 n] w (RawOf K l 0 n w) := by
  have hr : refRes l 0 n = (l.take m, l.drop m, 0) := by
    unfold refRes; rw [if_neg (by omega), if_neg (by omega), show n.toNat = m by omega]
  obtain ⟨h1, h2, h3⟩ := hR
  obtain ⟨sp2, e2, e3, e4⟩ := sliceFrom sp l.length cap m hm h1
  have e1 := sliceTo sp l.length cap m (by omega)
  have HP : Hid (∀ w', Below w.heap.size w w' → RawOf K l 0 n w (.returned (.tuple #[.slice sp m cap, .agg #[.slice sp2 (l.length - m) (cap - m), .int .i64 0]])) w') := Lib.hid (fun w' hb => by
    have hl : (l.take m).length = m := by simp; omega
    unfold RawOf; rw [hr]
    refine ⟨sp, cap, sp2, cap - m, by simp only [RefV]; rw [hl, List.length_drop]; rfl, ⟨by simp; omega, h2, (h3.take m).below hb (Nat.le_refl _)⟩, ⟨by simp; omega, fun h0 => by have := h2 (e4 h0); omega, (h3.drop m (fun hlt => e3 (by omega))).below hb (Nat.le_refl _)⟩, hb⟩)
  have g1 : (m : Int) ≤ (l.length : Int) := by omega
  have g0 : (0 : Int) ≤ (m : Int) := by omega
  have g2 : ¬ ((l.length : Int) < (m : Int)) := by omega
  have g3 : (m : Int) ≤ (cap : Int) := by omega
  subst hn
  clear h1 h2 h3 e3 e4 hr
  go_enter Try.func31, Try.ntmps31
  go_wp2
  go_region
  all_goals go_wp2
  all_goals exact bodyPost_ret (v := .tuple #[.slice sp m cap, .agg #[.slice sp2 (l.length - m) (cap - m), .int .i64 0]]) (by simp [results, Try.results31, go_sem]) rfl (HP.out _ (((Below.refl _ _).alloc (Nat.le_refl _) _).alloc (by simp) _).drew)
set_option maxHeartbeats 1000000 in
theorem refRaw_neg (l : List (BitVec 8)) (sp : Option Addr) (cap : Nat) (n : Int) (w : World) {K : Nat → Prop} (hR : RefIs w K sp l cap) (hneg : n < 0) :
    Calls Try.prog 31 #[.agg #[.slice sp l.length cap, .int .i64 0], .int .i64 n] w (RawOf K l 0 n w) := by
  have hr : refRes l 0 n = ([], l, 0) := by
    unfold refRes; rw [if_neg (by omega), if_neg (by omega), show n.toNat = 0 by omega]; rfl
  obtain ⟨h1, h2, h3⟩ := hR
  have HP : Hid (∀ w', Below w.heap.size w w' → RawOf K l 0 n w (.returned (.tuple #[.slice sp 0 cap, .agg #[.slice sp l.length cap, .int .i64 0]])) w') := Lib.hid (fun w' hb => by
    unfold RawOf; rw [hr]
    exact ⟨sp, cap, sp, cap, rfl, ⟨by simp, h2, fun h => by simp at h⟩, ⟨h1, h2, h3.below hb (Nat.le_refl _)⟩, hb⟩)
  clear h1 h2 h3 hr
  go_enter Try.func31, Try.ntmps31
  go_wp2
  go_region
  all_goals go_wp2
  all_goals exact bodyPost_ret (v := .tuple #[.slice sp 0 cap, .agg #[.slice sp l.length cap, .int .i64 0]]) (by simp [results, Try.results31, go_sem]) rfl (HP.out _ (((Below.refl _ _).alloc (Nat.le_refl _) _).alloc (by simp) _).drew)
theorem refRaw_any (l : List (BitVec 8)) (sp : Option Addr) (cap e : Nat) (n : Int) (w : World) {K : Nat → Prop} (hR : RefIs w K sp l cap) :
    Calls Try.prog 31 #[.agg #[.slice sp l.length cap, .int .i64 (e : Int)], .int .i64 n] w (RawOf K l e n w) := by
  by_cases he : e = 0
  · subst he
    by_cases hs : (l.length : Int) < n
    · exact refRaw_short l sp cap n w hs
    · by_cases hneg : n < 0
      · exact refRaw_neg l sp cap n w hR hneg
      · exact refRaw_ok l sp cap n.toNat n w hR (by omega) (by omega)
  · exact refRaw_err l sp cap e n w hR he
end Go.Proofs.Ytfamohnbaelccaa
