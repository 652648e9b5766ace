/- Names and a path that are known, asked of the program. -/
import Derived.Test.YtchjioknobmegaaJnr
namespace Go.Proofs.Ytchjioknobmegaa
open Go.RowKit

def l1 : List UInt8 := [47, 47, 97, 47, 46, 47, 98, 47]
theorem l1_err : errS l1 = 0 := by decide
theorem l1_abs : absL l1 = true := by decide
theorem l1_parts : parts l1 = [[97], [98]] := by decide
theorem l1_sl : slL l1 = true := by decide
theorem l2_err : errS [97, 255] = 36 := by decide
theorem x_err : errC [120] = 0 := by decide
theorem up_err : errC [46, 46] = 26 := by decide
theorem l1_join : joinL true [[97], [98]] true = [47, 97, 47, 98, 47] := by decide

theorem told_ok {l : List UInt8} {w w' : World} {e : Ending} (h : Told l w e w') (h0 : errS l = 0) : Below w.heap.size w w' ∧ ∃ sp n c, e = .returned (.tuple #[.agg #[.bool (absL l), .slice sp n c, .bool (slL l)], .int .i64 0]) ∧ Own w' w.heap.size (.slice sp n c) (parts l) := by
  obtain ⟨hb, v, _, h2⟩ := h
  obtain ⟨rfl, hown⟩ := h2 h0
  obtain ⟨sp, n, c, rfl⟩ : ∃ sp n cap, v = .slice sp n cap := by
    rcases hown.2 with ⟨h, _⟩ | ⟨g, cap, cur, h, _⟩ <;> exact ⟨_, _, _, h⟩
  exact ⟨hb, sp, n, c, rfl, hown⟩
theorem told_no {l : List UInt8} {w w' : World} {e : Ending} (h : Told l w e w') (h0 : errS l ≠ 0) : Below w.heap.size w w' ∧ e = .returned (.tuple #[.agg #[.bool false, .slice none 0 0, .bool false], .int .i64 (errS l)]) := by
  obtain ⟨hb, v, h1, _⟩ := h
  exact ⟨hb, h1 h0⟩

theorem two_txs (w : World) : Txs w.heap.size 0 [[97], [98]] (w.alloc (.cells #[VS [97], VS [98]] 9)) := fun j hj => by
  match j, hj with
  | 0, _ => simp
  | 1, _ => simp
set_option maxRecDepth 100000 in
set_option maxHeartbeats 4000000 in
theorem wakes_any (w : World) : Calls Try.prog 7 #[] w fun e w' => e = .returned (.bool true) ∧ Below w.heap.size w w' := by
  go_enter Try.func7, Try.ntmps7
  go_wp2_with fail
  refine (split_any l1 (by decide) w).mono ?_
  intro e w1 ht
  obtain ⟨hb1, sp, n, c, rfl, hown⟩ := told_ok ht l1_err
  rw [l1_abs, l1_sl]
  rw [l1_parts] at hown
  have HB1 := Lib.hid hb1
  have HO1 := Lib.hid hown
  clear ht hb1 hown
  go_wp2_with fail
  have hxA : Bx (w1.alloc (.cells #[.bool true, .slice sp n c, .bool true] 29)) w1.heap.size 29 true (.slice sp n c) true := heap_alloc_new _ _
  have hbA : Below w.heap.size w (w1.alloc (.cells #[.bool true, .slice sp n c, .bool true] 29)) := HB1.out.alloc HB1.out.size _
  have hsA : Src (w1.alloc (.cells #[.bool true, .slice sp n c, .bool true] 29)) (.slice sp n c) [[97], [98]] := HO1.out.src.grown ((Below.refl _ _).alloc (Nat.le_refl _) _)
  generalize (w1.alloc (.cells #[.bool true, .slice sp n c, .bool true] 29)) = WA at hxA hbA hsA ⊢
  generalize w1.heap.size = bb at hxA ⊢
  have hbs := hxA.lt
  refine (split_any [97, 255] (by decide) WA).mono ?_
  intro e w2 ht
  obtain ⟨hb2, rfl⟩ := told_no ht (by rw [l2_err]; decide)
  rw [l2_err]
  have hxB := hxA.of (hb2.block bb hbs)
  have hbB := hbA.trans (hb2.mono hbA.size)
  have hsB := hsA.grown hb2
  have HXB := Lib.hid hxB
  have HBB := Lib.hid hbB
  have HSB := Lib.hid hsB
  clear ht hb2 hxA hbA hsA hxB hbB hsB HB1 HO1
  have c0 : ∀ o, (w2.alloc o).cell? ⟨bb, 0, none⟩ = some (.bool true) := fun o => (HXB.out.of (Below.heap_alloc w2 o _ HXB.out.lt)).c0
  have c1 : ∀ o, (w2.alloc o).cell? ⟨bb, 1, none⟩ = some (.slice sp n c) := fun o => (HXB.out.of (Below.heap_alloc w2 o _ HXB.out.lt)).c1
  have c2 : ∀ o, (w2.alloc o).cell? ⟨bb, 2, none⟩ = some (.bool true) := fun o => (HXB.out.of (Below.heap_alloc w2 o _ HXB.out.lt)).c2
  go_wp2_with fail
  refine (of_any true true sp n c _).mono ?_
  rintro e w3 ⟨rfl, hb3⟩
  have hx3 : Bx w3 bb 29 true (.slice sp n c) true := (HXB.out.of (Below.heap_alloc w2 _ _ HXB.out.lt)).of (hb3.block bb (by have := HXB.out.lt; simp; omega))
  have hq3 : Below w2.heap.size w2 w3 := ((Below.refl _ w2).alloc (Nat.le_refl _) _).trans (hb3.mono (by simp))
  have hs3 := HSB.out.grown hq3
  have hb3' := HBB.out.trans (hq3.mono HBB.out.size)
  have HX3 := Lib.hid hx3
  have HS3 := Lib.hid hs3
  have HB3 := Lib.hid hb3'
  clear hb3 hx3 hq3 hs3 hb3' c0 c1 c2 HXB HBB HSB
  go_wp2_with fail
  refine (same_any true true (.slice sp n c) (.slice (some ⟨w3.heap.size, 0, none⟩) 2 2) [[97], [98]] (by decide) _ (HS3.out.grown ((Below.refl _ w3).alloc (Nat.le_refl _) _)) ⟨some ⟨w3.heap.size, 0, none⟩, 2, rfl, by decide, by decide, fun _ => ⟨w3.heap.size, 0, rfl, by simp, two_txs w3⟩⟩).mono ?_
  rintro e w4 ⟨rfl, hb4⟩
  have hq4 : Below w3.heap.size w3 w4 := ((Below.refl _ w3).alloc (Nat.le_refl _) _).trans (hb4.mono (by simp))
  have hx4 := HX3.out.of (hq4.block bb HX3.out.lt)
  have hs4 := HS3.out.grown hq4
  have hb4' := HB3.out.trans (hq4.mono HB3.out.size)
  have HX4 := Lib.hid hx4
  have HS4 := Lib.hid hs4
  have HB4 := Lib.hid hb4'
  clear hb4 hx4 hq4 hs4 hb4' HX3 HS3 HB3
  go_wp2_with fail
  refine (pCheck_any [120] (by decide) _).mono ?_
  rintro e w5 ⟨rfl, p5, rfl⟩
  rw [x_err]
  go_wp2_with fail
  refine (pCheck_any [46, 46] (by decide) _).mono ?_
  rintro e w6 ⟨rfl, p6, rfl⟩
  rw [up_err]
  have hq6 : Below w4.heap.size w4 ((w4.iter (str [120]) p5).iter (str [46, 46]) p6) := ((Below.refl _ w4).alloc (Nat.le_refl _) _).alloc (by simp) _
  have hx6 := HX4.out.of (hq6.block bb HX4.out.lt)
  have hs6 := HS4.out.grown hq6
  have hb6 := HB4.out.trans (hq6.mono HB4.out.size)
  generalize ((w4.iter (str [120]) p5).iter (str [46, 46]) p6) = W6 at hx6 hs6 hb6 ⊢
  have c0 := hx6.c0
  have c1 := hx6.c1
  have c2 := hx6.c2
  have HS6 := Lib.hid hs6
  have HB6 := Lib.hid hb6
  clear hx6 hs6 hb6 hq6 HX4 HS4 HB4
  go_wp2_with fail
  refine (join_any true true (.slice sp n c) [[97], [98]] (by decide) _ HS6.out).mono ?_
  rintro e w7 ⟨rfl, hb7⟩
  rw [l1_join]
  have HB7 := Lib.hid (HB6.out.trans (hb7.mono HB6.out.size))
  clear hb7 c0 c1 c2
  go_wp2_with fail
  go_ret
  exact ⟨rfl, HB7.out⟩
end Go.Proofs.Ytchjioknobmegaa
