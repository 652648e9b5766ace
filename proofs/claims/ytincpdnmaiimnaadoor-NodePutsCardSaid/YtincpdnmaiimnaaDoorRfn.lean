/- The document's own reader: bytes. -/
import Derived.Test.YtincpdnmaiimnaaDoorReg
import Derived.Test.YtincpdnmaiimnaaDoorRdRest
import Derived.RegionTactic
namespace Go.Proofs.YtincpdnmaiimnaaDoor
open Go.RowKit

/-- The document's reader, as a value: the bytes that are left, the error. -/
abbrev RefV (sp : Option Addr) (l : List (BitVec 8)) (cap e : Nat) : Value := .agg #[.slice sp l.length cap, .int .i64 (e : Int)]
def refRes (l : List (BitVec 8)) (e : Nat) (n : Int) : List (BitVec 8) × List (BitVec 8) × Nat :=
  if e ≠ 0 then ([], l, e) else if (l.length : Int) < n then ([], [], 4) else (l.take n.toNat, l.drop n.toNat, 0)
/-- What stays of it. -/
def RefIs (w : World) (K : Nat → Prop) (sp : Option Addr) (l : List (BitVec 8)) (cap : Nat) : Prop := l.length ≤ cap ∧ (sp = none → cap = 0) ∧ SrcX w K sp l
theorem RefIs.low {w w' : World} {K : Nat → Prop} {B : Nat} {sp : Option Addr} {l : List (BitVec 8)} {cap : Nat} (h : RefIs w (fun g => K g ∧ g < B) sp l cap) (hb : Below B w w') : RefIs w' K sp l cap :=
  ⟨h.1, h.2.1, fun h0 => by
    obtain ⟨g, o, e, hk, hg, hc⟩ := h.2.2 h0
    exact ⟨g, o, e, hk.1, Nat.lt_of_lt_of_le hg hb.size, fun j hj => (hb.cell (p := ⟨g, o + j, none⟩) hk.2).trans (hc j hj)⟩⟩
theorem RefIs.up {w : World} {K : Nat → Prop} {sp : Option Addr} {l : List (BitVec 8)} {cap : Nat} (h : RefIs w K sp l cap) : RefIs w (fun g => K g ∧ g < w.heap.size) sp l cap :=
  ⟨h.1, h.2.1, fun h0 => by
    obtain ⟨g, o, e, hk, hg, hc⟩ := h.2.2 h0
    exact ⟨g, o, e, ⟨hk, hg⟩, hg, hc⟩⟩
theorem RefIs.below {w w' : World} {K : Nat → Prop} {sp : Option Addr} {l : List (BitVec 8)} {cap : Nat} (h : RefIs w K sp l cap) (hb : Below w.heap.size w w') : RefIs w' K sp l cap :=
  ⟨h.1, h.2.1, h.2.2.below hb (Nat.le_refl _)⟩
def RawOf (K : Nat → Prop) (l : List (BitVec 8)) (e : Nat) (n : Int) (w : World) (x : Ending) (w' : World) : Prop :=
  ∃ so co sp cap, x = .returned (.tuple #[.slice so (refRes l e n).1.length co, RefV sp (refRes l e n).2.1 cap (refRes l e n).2.2]) ∧ RefIs w' K so (refRes l e n).1 co ∧ RefIs w' K sp (refRes l e n).2.1 cap ∧ Below w.heap.size w w'

set_option maxHeartbeats 1000000 in
theorem refRaw_err (l : List (BitVec 8)) (sp : Option Addr) (cap e : Nat) (n : Int) (w : World) {K : Nat → Prop} (hR : RefIs w K sp l cap) (he : e ≠ 0) :
    Calls Tryd.prog 27 #[.agg #[.slice sp l.length cap, .int .i64 (e : Int)], .int .i64 n] w (RawOf K l e n w) := by
  have hr : refRes l e n = ([], l, e) := if_pos he
  have HP : Hid (∀ w', Below w.heap.size w w' → RawOf K l e n w (.returned (.tuple #[.slice none 0 0, .agg #[.slice sp l.length cap, .int .i64 (e : Int)]])) w') := Lib.hid (fun w' hb => by
    unfold RawOf; rw [hr]
    exact ⟨none, 0, sp, cap, rfl, ⟨by simp, fun _ => rfl, fun h => by simp at h⟩, ⟨hR.1, hR.2.1, hR.2.2.below hb (Nat.le_refl _)⟩, hb⟩)
  have h1 : ((e : Int) != 0) = true := by rw [bne_iff_ne]; omega
  have h3 : ¬ (e : Int) = 0 := by omega
  clear hr hR he
  go_enter Tryd.func27, Tryd.ntmps27
  go_wp2
  go_region
  go_wp2
  exact bodyPost_ret (v := .tuple #[.slice none 0 0, .agg #[.slice sp l.length cap, .int .i64 (e : Int)]]) (by simp [results, Tryd.results27, go_sem]) rfl (HP.out _ (((Below.refl _ _).alloc (Nat.le_refl _) _).alloc (by simp) _).drew)

set_option maxHeartbeats 1000000 in
theorem refRaw_short (l : List (BitVec 8)) (sp : Option Addr) (cap : Nat) (n : Int) (w : World) {K : Nat → Prop} (hs : (l.length : Int) < n) :
    Calls Tryd.prog 27 #[.agg #[.slice sp l.length cap, .int .i64 0], .int .i64 n] w (RawOf K l 0 n w) := by
  have hr : refRes l 0 n = ([], [], 4) := by unfold refRes; rw [if_neg (by omega), if_pos hs]
  have HP : Hid (∀ w', Below w.heap.size w w' → RawOf K l 0 n w (.returned (.tuple #[.slice none 0 0, .agg #[.slice none 0 0, .int .i64 4]])) w') := Lib.hid (fun w' hb => by
    unfold RawOf; rw [hr]
    exact ⟨none, 0, none, 0, rfl, ⟨by simp, fun _ => rfl, fun h => by simp at h⟩, ⟨by simp, fun _ => rfl, fun h => by simp at h⟩, hb⟩)
  have h0 : ¬ n < 0 := by omega
  clear hr
  go_enter Tryd.func27, Tryd.ntmps27
  go_wp2
  exact bodyPost_ret (v := .tuple #[.slice none 0 0, .agg #[.slice none 0 0, .int .i64 4]]) (by simp [results, Tryd.results27, go_sem]) rfl (HP.out _ (((Below.refl _ _).alloc (Nat.le_refl _) _).alloc (by simp) _))

set_option maxHeartbeats 1000000 in
theorem refRaw_ok (l : List (BitVec 8)) (sp : Option Addr) (cap m : Nat) (n : Int) (w : World) {K : Nat → Prop} (hR : RefIs w K sp l cap) (hm : m ≤ l.length) (hn : n = (m : Int)) :
    Calls Tryd.prog 27 #[.agg #[.slice sp l.length cap, .int .i64 0], .int .i64 n] w (RawOf K l 0 n w) := by
  have hr : refRes l 0 n = (l.take m, l.drop m, 0) := by
    unfold refRes; rw [if_neg (by omega), if_neg (by omega), show n.toNat = m by omega]
  obtain ⟨h1, h2, h3⟩ := hR
  obtain ⟨sp2, e2, e3, e4⟩ := sliceFrom sp l.length cap m hm h1
  have e1 := sliceTo sp l.length cap m (by omega)
  have HP : Hid (∀ w', Below w.heap.size w w' → RawOf K l 0 n w (.returned (.tuple #[.slice sp m cap, .agg #[.slice sp2 (l.length - m) (cap - m), .int .i64 0]])) w') := Lib.hid (fun w' hb => by
    have hl : (l.take m).length = m := by simp; omega
    unfold RawOf; rw [hr]
    refine ⟨sp, cap, sp2, cap - m, by simp only [RefV]; rw [hl, List.length_drop]; rfl, ⟨by simp; omega, h2, (h3.take m).below hb (Nat.le_refl _)⟩, ⟨by simp; omega, fun h0 => by have := h2 (e4 h0); omega, (h3.drop m (fun hlt => e3 (by omega))).below hb (Nat.le_refl _)⟩, hb⟩)
  have g1 : (m : Int) ≤ (l.length : Int) := by omega
  have g0 : (0 : Int) ≤ (m : Int) := by omega
  have g2 : ¬ ((l.length : Int) < (m : Int)) := by omega
  have g3 : (m : Int) ≤ (cap : Int) := by omega
  subst hn
  clear h1 h2 h3 e3 e4 hr
  go_enter Tryd.func27, Tryd.ntmps27
  go_wp2
  go_region
  all_goals go_wp2
  all_goals exact bodyPost_ret (v := .tuple #[.slice sp m cap, .agg #[.slice sp2 (l.length - m) (cap - m), .int .i64 0]]) (by simp [results, Tryd.results27, go_sem]) rfl (HP.out _ (((Below.refl _ _).alloc (Nat.le_refl _) _).alloc (by simp) _).drew)
set_option maxHeartbeats 1000000 in
theorem refRaw_neg (l : List (BitVec 8)) (sp : Option Addr) (cap : Nat) (n : Int) (w : World) {K : Nat → Prop} (hR : RefIs w K sp l cap) (hneg : n < 0) :
    Calls Tryd.prog 27 #[.agg #[.slice sp l.length cap, .int .i64 0], .int .i64 n] w (RawOf K l 0 n w) := by
  have hr : refRes l 0 n = ([], l, 0) := by
    unfold refRes; rw [if_neg (by omega), if_neg (by omega), show n.toNat = 0 by omega]; rfl
  obtain ⟨h1, h2, h3⟩ := hR
  have HP : Hid (∀ w', Below w.heap.size w w' → RawOf K l 0 n w (.returned (.tuple #[.slice sp 0 cap, .agg #[.slice sp l.length cap, .int .i64 0]])) w') := Lib.hid (fun w' hb => by
    unfold RawOf; rw [hr]
    exact ⟨sp, cap, sp, cap, rfl, ⟨by simp, h2, fun h => by simp at h⟩, ⟨h1, h2, h3.below hb (Nat.le_refl _)⟩, hb⟩)
  clear h1 h2 h3 hr
  go_enter Tryd.func27, Tryd.ntmps27
  go_wp2
  go_region
  all_goals go_wp2
  all_goals exact bodyPost_ret (v := .tuple #[.slice sp 0 cap, .agg #[.slice sp l.length cap, .int .i64 0]]) (by simp [results, Tryd.results27, go_sem]) rfl (HP.out _ (((Below.refl _ _).alloc (Nat.le_refl _) _).alloc (by simp) _).drew)
theorem refRaw_any (l : List (BitVec 8)) (sp : Option Addr) (cap e : Nat) (n : Int) (w : World) {K : Nat → Prop} (hR : RefIs w K sp l cap) :
    Calls Tryd.prog 27 #[.agg #[.slice sp l.length cap, .int .i64 (e : Int)], .int .i64 n] w (RawOf K l e n w) := by
  by_cases he : e = 0
  · subst he
    by_cases hs : (l.length : Int) < n
    · exact refRaw_short l sp cap n w hs
    · by_cases hneg : n < 0
      · exact refRaw_neg l sp cap n w hR hneg
      · exact refRaw_ok l sp cap n.toNat n w hR (by omega) (by omega)
  · exact refRaw_err l sp cap e n w hR he
def NumOf (K : Nat → Prop) (l : List (BitVec 8)) (e : Nat) (n : Int) (w : World) (x : Ending) (w' : World) : Prop :=
  ∃ sp cap, x = .returned (.tuple #[.int .u64 (val (refRes l e n).1 : Int), RefV sp (refRes l e n).2.1 cap (refRes l e n).2.2]) ∧ RefIs w' K sp (refRes l e n).2.1 cap ∧ Below w.heap.size w w'
theorem refRes_len (l : List (BitVec 8)) (e n : Nat) : (refRes l e n).1.length ≤ n := by
  unfold refRes
  split
  · simp
  · split
    · simp
    · simp; omega
set_option maxRecDepth 100000 in
set_option maxHeartbeats 1000000 in
theorem refNum_any (l : List (BitVec 8)) (sp : Option Addr) (cap e n : Nat) (w : World) {K : Nat → Prop} (hn : n ≤ 8) (hR : RefIs w K sp l cap) :
    Calls Tryd.prog 28 #[.agg #[.slice sp l.length cap, .int .i64 (e : Int)], .int .i64 (n : Int)] w (NumOf K l e n w) := by
  have HR := Lib.hid hR
  have hln := refRes_len l e n
  clear hR
  go_enter Tryd.func28, Tryd.ntmps28
  go_wp2_with fail
  refine (refRaw_any l sp cap e n _ (K := fun g => K g ∧ g < w.heap.size) (HR.out.up.below (((Below.refl _ _).alloc (Nat.le_refl _) _).alloc (by simp) _))).mono ?_
  rintro x w1 ⟨so, co, sp1, cap1, rfl, ho, hr1, hb⟩
  have HO := Lib.hid ho
  have HR1 := Lib.hid hr1
  have HB := Lib.hid hb
  have b5 : Blk w1 (w.heap.size + 1) [.slice none 0 0, .int .i64 0] 43 := (Blk.new' _ _ _ 43 (w.heap.size + 1) (by simp) rfl).below hb (by simp)
  have hsz : w.heap.size + 1 < w1.heap.size := b5.lt
  have HB0 : Hid (Below w.heap.size w w1) := Lib.hid ((((Below.refl _ _).alloc (Nat.le_refl _) _).alloc (by simp) _).trans (hb.mono (by simp; omega)))
  have B5 := Lib.hid b5
  have c0 := b5.cell (j := 0) rfl
  have c1 := b5.cell (j := 1) rfl
  have f0 := b5.free 0
  have f1 := b5.free 1
  have HP : Hid (∀ (v : Int) (w' : World), v = (val (refRes l e n).1 : Int) → Below w.heap.size w1 w' → NumOf K l e n w (.returned (.tuple #[.int .u64 v, RefV sp1 (refRes l e n).2.1 cap1 (refRes l e n).2.2])) w') := Lib.hid (fun v w' hv hb2 => by
    subst hv
    exact ⟨sp1, cap1, rfl, HR1.out.low hb2, HB0.out.trans hb2⟩)
  obtain ⟨out, hout⟩ : ∃ o, (refRes l e (n : Int)).1 = o := ⟨_, rfl⟩
  obtain ⟨l1, hl1⟩ : ∃ o, (refRes l e (n : Int)).2.1 = o := ⟨_, rfl⟩
  obtain ⟨e1, he1⟩ : ∃ o, (refRes l e (n : Int)).2.2 = o := ⟨_, rfl⟩
  have hln8 : out.length ≤ 8 := by rw [← hout]; omega
  rw [hout] at HO
  rw [hl1] at HR1
  rw [hout, hl1, he1] at HP
  rw [hout, hl1, he1]
  obtain ⟨N, hN⟩ : ∃ N, out.length = N := ⟨_, rfl⟩
  have HN := Lib.hid hN
  rw [hN] at hln8 ⊢
  have i1 := IntWalk.i64_in ((N : Int) - 1) (by omega)
  clear ho hr1 hb b5 hln hout hl1 he1 hN HB HR
  go_wp2
  go_loop [8, 9] (fun v i => ∃ j : Nat, j ≤ N ∧ i = .int .i64 ((j : Int) - 1) ∧ v = .int .u64 (val (out.drop j) : Int)) (fun _ i => (intOf i + 1).toNat)
  case atStart => exact ⟨N, Nat.le_refl _, rfl, by rw [List.drop_of_length_le (by rw [HN.out]; omega)]; rfl⟩
  case round =>
    obtain ⟨j, hj, rfl, rfl⟩ := hrel
    by_cases h0 : j = 0
    · subst h0
      have HV : Hid (val (out.drop 0) = val out) := Lib.hid (by rw [List.drop_zero])
      have g1 : ((0 : Nat) : Int) - 1 = -1 := by omega
      rw [g1]
      generalize val (out.drop 0) = v0 at *
      clear i1 g1 hj hln8
      go_wp2
      go_region
      all_goals go_wp2
      have C0 := ((((B5.out.set 0 (.slice sp1 l1.length cap1)).set 1 (.int .i64 (e1 : Int))).alloc (.cells #[.slice sp1 l1.length cap1, .int .i64 (e1 : Int)] 43)).cell (j := 0) rfl)
      have C1 := ((((B5.out.set 0 (.slice sp1 l1.length cap1)).set 1 (.int .i64 (e1 : Int))).alloc (.cells #[.slice sp1 l1.length cap1, .int .i64 (e1 : Int)] 43)).cell (j := 1) rfl)
      exact bodyPost_ret (v := .tuple #[.int .u64 (v0 : Int), .agg #[.slice sp1 l1.length cap1, .int .i64 (e1 : Int)]]) (by simp [results, Tryd.results28, go_sem, C0, C1]) rfl (HP.out _ _ (by rw [HV.out]) (((((Below.refl _ _).setCell (by simp) _).setCell (by simp) _).alloc (by simp; omega) _).drew))
    · obtain ⟨k, rfl⟩ : ∃ k, j = k + 1 := ⟨j - 1, by omega⟩
      obtain ⟨g, o, rfl, _, hg, hcell⟩ := HO.out.2.2 (by rw [HN.out]; omega)
      have cx := hcell k (by rw [HN.out]; omega)
      obtain ⟨x, hx⟩ : ∃ x, out.getD k 0 = x := ⟨_, rfl⟩
      have hvd := val_drop out k (by rw [HN.out]; omega)
      have hv8 := val_lt (out.drop k)
      rw [hx] at cx hvd
      have hl8 : (out.drop k).length ≤ 8 := by rw [List.length_drop, HN.out]; omega
      have hp8 : (2 : Nat) ^ (8 * (out.drop k).length) ≤ 18446744073709551616 := Nat.pow_le_pow_right (by omega) (show 8 * (out.drop k).length ≤ 64 by omega)
      have r1 : IntKind.u64.wrap ((val (out.drop (k + 1)) : Int) * 256) = ((val (out.drop (k + 1)) * 256 : Nat) : Int) := by
        have := u64_in (val (out.drop (k + 1)) * 256) (by omega)
        rw [← this]; simp
      have r2 := cvw64 x
      have r3 : IntKind.u64.wrap (((val (out.drop (k + 1)) * 256 : Nat) : Int) + N8 x) = (val (out.drop k) : Int) := by
        have := u64_in (val (out.drop k)) (by omega)
        rw [← this, hvd]; unfold N8; simp
      have r4 := IntWalk.i64_in ((k : Int) - 1) (by omega)
      have g1 : ((k + 1 : Nat) : Int) - 1 = (k : Int) := by omega
      rw [g1]
      generalize val (out.drop (k + 1)) = v1 at *
      generalize v1 * 256 = v2 at *
      have hk : (k : Int) < (N : Int) := by omega
      have hk0 : (0 : Int) ≤ (k : Int) := by omega
      clear hvd hv8 hl8 hp8 hx g1 hj h0 i1 hcell
      go_wp2
      go_round
      case rel => exact ⟨k, by omega, rfl, rfl⟩
      case measure => simp [intOf]
end Go.Proofs.YtincpdnmaiimnaaDoor
