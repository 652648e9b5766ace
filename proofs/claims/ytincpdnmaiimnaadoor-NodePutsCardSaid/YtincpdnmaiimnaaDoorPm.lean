/- slices.Grow of nil; slices.Concat of two slices of bytes. -/
import Derived.Test.YtincpdnmaiimnaaDoorPl
import Derived.Lib.AppendZerosOnto
import Derived.Lib.Walk
import Derived.Laws.OwnMore
namespace Go.Proofs.YtincpdnmaiimnaaDoor
open Go.RowKit

/-- Bytes more, out of whatever slice. -/
theorem ownB_src {w : World} {B : Nat} {v : Value} {l m : Bs} {sp : Option Addr} {cap : Nat} (h : OwnB w B v l) (hB : B ≤ w.heap.size) (hl : l.length + m.length ≤ 1000000) (hS : SrcA w sp m) (hz : sp = none → cap = 0) (ty : TypeId) :
    ∃ v' w', (Builtin.append_ #[30, 30] ty #[v, .slice sp m.length cap]).run Tryd.prog w = .ok v' w' ∧ OwnB w' B v' (l ++ m) ∧ Below B w w' := by
  obtain ⟨i0, hi, hz0, hz1, hz2⟩ := info_parts infoB
  cases sp with
  | none =>
    have hm : m = [] := by
      rcases Nat.eq_zero_or_pos m.length with h0 | h0
      · exact List.eq_nil_of_length_eq_zero h0
      · obtain ⟨_, _, he, _⟩ := hS h0; cases he
    subst hm
    obtain rfl := hz rfl
    exact ⟨v, w, run_append_owned_none (P := Tryd.prog) (w := w) B 30 ty 5 i0 1 Tryd.underlying30 hi v l.length (l.map V8) h, by rw [List.append_nil]; exact h, Below.refl _ _⟩
  | some ad =>
    obtain ⟨v', w', hr, h2, h3, _, h5⟩ := run_append_own_at (P := Tryd.prog) w B 30 ty 5 i0 (.int .u8 0) 1 1 Tryd.underlying30 hi hz0 hz1 hz2 rfl (by decide) v l.length (l.map V8) h ad m.length cap (m.map V8) (by simp) (fun j u hj => by
      have hj2 : 0 < m.length := by
        have := (List.getElem?_eq_some_iff.1 hj).1
        simp at this; omega
      obtain ⟨g, o, e, _, hc⟩ := hS hj2
      cases e
      exact src_cell hc j u hj) (one_v8 m) (by unfold maxLen; omega) (by omega) hB
    refine ⟨v', w', hr, ?_, (Below.refl _ _).grown h3 hB (fun k hk => (h.lt k hk).1)⟩
    unfold OwnB
    rw [List.map_append, List.length_append]
    exact h2
theorem zeroCells_one (n : Nat) : (Builtin.zeroCells #[Value.int .u8 0] n).size = n := by simp [Builtin.zeroCells]
set_option maxRecDepth 100000 in
set_option maxHeartbeats 2000000 in
theorem grow_any (n : Nat) (h0 : 0 < n) (hn : n ≤ 200000) (w : World) : Calls Tryd.prog 49 #[.slice none 0 0, .int .i64 (n : Int)] w fun e w' => ∃ v, e = .returned v ∧ OwnB w' w.heap.size v [] ∧ Below w.heap.size w w' := by
  obtain ⟨i0, hi, hz0, hz1, hz2⟩ := info_parts infoB
  have hold : (Builtin.firstCells i0.size 0 (.slice none 0 0)).run Tryd.prog w.drew = .ok ([] : List Value).toArray w.drew := by rw [hz1]; exact run_firstCells_none w.drew 1 0 0 0
  have hrz : ∀ ty, (Builtin.append_ #[30, 3] ty #[.slice none 0 0, .int .i64 (n : Int)]).run Tryd.prog w = .ok (.slice (some ⟨w.heap.size, 0, none⟩) (0 + n) (grownCap w (0 + n) 0 5)) (w.drew.alloc (.cells (([] : List Value).toArray ++ Builtin.zeroCells (Value.int .u8 0).cells n ++ Builtin.zeroCells (Value.int .u8 0).cells (grownCap w (0 + n) 0 5 - (0 + n))) 5)) := fun ty =>
    Lib.run_append_grow_zeros w 30 3 ty 5 i0 (.int .u8 0) .i64 .i64 Tryd.underlying30 Tryd.underlying3 hi hz0 none 0 0 [] hold n h0 (by omega) (by omega) (by omega) (by rw [hz2]; omega) (growslice_fits (by omega) (by rw [hz2]; omega))
  have hge : 0 + n ≤ grownCap w (0 + n) 0 5 := grownCap_ge w _ _ _
  have hle := grownCap_le_maxLen w (0 + n) 0 5 (by unfold maxLen; omega)
  obtain ⟨G, hG⟩ : ∃ G, grownCap w (0 + n) 0 5 = G := ⟨_, rfl⟩
  rw [hG] at hrz hge hle
  rw [Nat.zero_add] at hrz hge
  obtain ⟨cs, hcs⟩ : ∃ cs : Array Value, (([] : List Value).toArray ++ Builtin.zeroCells (Value.int .u8 0).cells n ++ Builtin.zeroCells (Value.int .u8 0).cells (G - n)) = cs := ⟨_, rfl⟩
  have hsz : cs.size = G * 1 := by
    rw [← hcs, Array.size_append, Array.size_append]
    have e : (Value.int .u8 0).cells = #[Value.int .u8 0] := rfl
    rw [e, zeroCells_one, zeroCells_one]
    simp
    omega
  rw [hcs] at hrz
  have hO : OwnB (w.drew.alloc (.cells cs 5)) w.heap.size (.slice (some ⟨w.heap.size, 0, none⟩) 0 G) [] := World.ownsRow_made w.drew cs G (Nat.le_refl _) hle hsz
  have HO := Lib.hid hO
  have HRZ := Lib.hid hrz
  have hG63 : G ≤ 9223372036854775807 := by unfold maxLen at hle; omega
  clear hcs hsz hO hrz hold hG hle hi hz0 hz1 hz2
  have q : (0 : Int) < (n : Int) := by omega
  have qn : ¬ (n : Int) < 0 := by omega
  have e0 := IntWalk.i64_in ((n : Int) - 0) (by omega)
  go_enter Tryd.func49, Tryd.ntmps49
  go_wp2_with (first | (at_builtin; refine Lib.wpList_append_run _ rfl _ _ _ _ rfl _ _ rfl rfl _ _ (HRZ.out _) ?_) | fail)
  go_ret
  exact ⟨_, rfl, HO.out, (Below.refl _ _).drew.alloc (Nat.le_refl _) _⟩
def CcI (a b : Bs) (k : Nat) : Bs := if k = 0 then [] else if k = 1 then a else a ++ b
set_option maxRecDepth 100000 in
set_option maxHeartbeats 2000000 in
theorem conc_any (a b : Bs) (sp0 sp1 : Option Addr) (c0 c1 g : Nat) (w : World) (h0 : 0 < a.length + b.length) (hl : a.length + b.length ≤ 100000) (hg : g < w.heap.size)
    (x0 : w.cell? ⟨g, 0, none⟩ = some (.slice sp0 a.length c0)) (x1 : w.cell? ⟨g, 1, none⟩ = some (.slice sp1 b.length c1)) (hS0 : SrcA w sp0 a) (hS1 : SrcA w sp1 b) (hz0 : sp0 = none → c0 = 0) (hz1 : sp1 = none → c1 = 0) :
    Calls Tryd.prog 33 #[.slice (some ⟨g, 0, none⟩) 2 2] w fun e w' => ∃ v, e = .returned v ∧ OwnB w' w.heap.size v (a ++ b) ∧ Below w.heap.size w w' := by
  obtain ⟨A, hA⟩ : ∃ A, a.length = A := ⟨_, rfl⟩
  obtain ⟨B, hB⟩ : ∃ B, b.length = B := ⟨_, rfl⟩
  have HA := Lib.hid hA; have HB := Lib.hid hB; have HS0 := Lib.hid hS0; have HS1 := Lib.hid hS1; have HZ0 := Lib.hid hz0; have HZ1 := Lib.hid hz1
  have HX0 := Lib.hid x0; have HX1 := Lib.hid x1
  rw [hA] at x0 h0 hl; rw [hB] at x1 h0 hl
  have e1 := IntWalk.i64_in ((A : Int) + (B : Int)) (by omega)
  have e2 := IntWalk.i64_in (0 + (A : Int)) (by omega)
  have qa : ¬ (A : Int) < 0 := by omega
  have qb : ¬ (A : Int) + (B : Int) < 0 := by omega
  clear hA hB hS0 hS1 hz0 hz1
  go_enter Tryd.func33, Tryd.ntmps33
  go_wp2
  go_loop [3, 11] (fun s i => (s = .int .i64 0 ∧ i = .int .i64 0) ∨ (s = .int .i64 (A : Int) ∧ i = .int .i64 1) ∨ (s = .int .i64 ((A : Int) + (B : Int)) ∧ i = .int .i64 2)) (fun _ i => 2 - (intOf i).toNat)
  case atStart => exact .inl ⟨rfl, rfl⟩
  case round =>
    rcases hrel with ⟨rfl, rfl⟩ | ⟨rfl, rfl⟩ | ⟨rfl, rfl⟩
    · go_wp2
      go_round
      case rel => exact .inr (.inl ⟨rfl, rfl⟩)
      case measure => simp [intOf]
    · go_wp2
      go_round
      case rel => exact .inr (.inr ⟨rfl, rfl⟩)
      case measure => simp [intOf]
    · clear e1 e2 qa qb x0 x1
      have hc := grow_any (A + B) h0 (by omega) w
      rw [show ((A + B : Nat) : Int) = (A : Int) + (B : Int) by omega] at hc
      have HC := Lib.hid hc
      clear hc
      go_wp2_with (first | (go_at_call 49; refine HC.out.mono ?_; rintro e w1 ⟨v1, rfl, ho1, hb1⟩; have HO1 := Lib.hid ho1; have HB1 := Lib.hid hb1; clear ho1 hb1) | fail)
      go_loopw [6, 27] (fun v i wr => ∃ k : Nat, k ≤ 2 ∧ i = .int .i64 (k : Int) ∧ OwnB wr w.heap.size v (CcI a b k) ∧ Below w.heap.size w wr) (fun _ i _ => 2 - (intOf i).toNat)
      case atStart => exact ⟨0, by omega, rfl, HO1.out, HB1.out⟩
      case round =>
        clear HO1 HB1 HC
        obtain ⟨k, hk, rfl, ho, hb⟩ := hrel
        have hk3 : k = 0 ∨ k = 1 ∨ k = 2 := by omega
        have y0 : wr.cell? ⟨g, 0, none⟩ = some (.slice sp0 A c0) := (hb.cell (p := ⟨g, 0, none⟩) hg).trans (by rw [HX0.out, HA.out])
        have y1 : wr.cell? ⟨g, 1, none⟩ = some (.slice sp1 B c1) := (hb.cell (p := ⟨g, 1, none⟩) hg).trans (by rw [HX1.out, HB.out])
        rcases hk3 with rfl | rfl | rfl
        · obtain ⟨v', w', hr, ho', hb'⟩ := ownB_src (m := a) ho hb.size (by rw [HA.out]; simp [CcI]; omega) (HS0.out.below hb (Nat.le_refl _)) HZ0.out 30
          rw [HA.out] at hr
          have HR := Lib.hid hr
          have HN : Hid (OwnB w' w.heap.size v' (CcI a b 1) ∧ Below w.heap.size w w') := Lib.hid ⟨by simpa [CcI] using ho', hb.trans hb'⟩
          obtain ⟨sp', n', c', rfl⟩ : ∃ sp n c, v' = .slice sp n c := by
            obtain ⟨sp, c, e, _⟩ := OwnB.form ho'
            exact ⟨sp, _, c, e⟩
          clear hr ho' hb' ho hb
          go_wp2_with (first | (at_builtin; refine wpL_val rfl (ex_appB rfl rfl rfl HR.out) ?_) | fail)
          go_roundw
          case rel => exact ⟨1, by omega, rfl, HN.out⟩
          case measure => simp [intOf]
        · obtain ⟨v', w', hr, ho', hb'⟩ := ownB_src (m := b) ho hb.size (by rw [HB.out]; simp [CcI, HA.out]; omega) (HS1.out.below hb (Nat.le_refl _)) HZ1.out 30
          rw [HB.out] at hr
          have HR := Lib.hid hr
          have HN : Hid (OwnB w' w.heap.size v' (CcI a b 2) ∧ Below w.heap.size w w') := Lib.hid ⟨by simpa [CcI] using ho', hb.trans hb'⟩
          obtain ⟨sp', n', c', rfl⟩ : ∃ sp n c, v' = .slice sp n c := by
            obtain ⟨sp, c, e, _⟩ := OwnB.form ho'
            exact ⟨sp, _, c, e⟩
          clear hr ho' hb' ho hb
          go_wp2_with (first | (at_builtin; refine wpL_val rfl (ex_appB rfl rfl rfl HR.out) ?_) | fail)
          go_roundw
          case rel => exact ⟨2, by omega, rfl, HN.out⟩
          case measure => simp [intOf]
        · have HN := Lib.hid (And.intro ho hb)
          clear ho hb
          go_wp2
          go_ret
          exact ⟨_, rfl, by simpa [CcI] using HN.out.1, HN.out.2⟩
end Go.Proofs.YtincpdnmaiimnaaDoor
