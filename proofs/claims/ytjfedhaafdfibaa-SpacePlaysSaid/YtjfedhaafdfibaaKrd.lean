/- The document's Act. -/
import Derived.Test.YtjfedhaafdfibaaKrc
import Derived.Deep.DeepCutAuto
import Derived.Deep.CutBlock
namespace Go.Proofs.Ytjfedhaafdfibaa
open Go.RowKit

set_option maxRecDepth 100000 in
set_option maxHeartbeats 4000000 in
theorem ract_zero (w : World) (R : Nat) (o : Int) : Calls Try.prog 10 #[.pointer (some ⟨R, 0, none⟩), .int .i64 o, .int .u16 0] w fun e w' => e = .returned (.int .i64 1) ∧ w = w' := by
  go_enter Try.func10, Try.ntmps10
  go_wp2_with fail
  go_ret
  exact ⟨rfl, rfl⟩
set_option maxRecDepth 100000 in
set_option maxHeartbeats 4000000 in
theorem ract_far (w : World) (R : Nat) (rd : Rdk) (s0 s1 s2 : Option Addr) (k0 k1 k2 : Nat) (o : Int) (a : Nat) (h : RdLook w R rd s0 s1 s2 k0 k1 k2) (h0 : 1 ≤ a) (ha : a < 65536) (hn : rd.n ≤ a) : Calls Try.prog 10 #[.pointer (some ⟨R, 0, none⟩), .int .i64 o, .int .u16 (a : Int)] w fun e w' => e = .returned (.int .i64 1) ∧ w = w' := by
  have c0 := h.n
  obtain ⟨n, hn2⟩ : ∃ n, rd.n = n := ⟨_, rfl⟩
  rw [hn2] at c0 hn
  have wk := IntWalk.i64_in (a : Int) (by omega)
  have q0 : ((a : Int) == 0) = false := by simp; omega
  have q1 : decide (n ≤ a) = true := by simpa using hn
  clear h hn2
  go_enter Try.func10, Try.ntmps10
  go_wp2_with fail
  go_ret
  exact ⟨rfl, rfl⟩
set_option maxRecDepth 100000 in
set_option maxHeartbeats 4000000 in
theorem ract_mark_used (w : World) (lo : Nat) (lab : Nat → Nat) (b R : Nat) (v : Nat → Value) (rd : Rdk) (a : Nat) (h : RdIn w lo lab b R v rd) (hl : ∀ i, i < 3 → (rd.l i).length ≤ 999) (h0 : 1 ≤ a) (ha : a < 65536) (hn : a < rd.n) (hu : hasB (rd.l 0) a = true) : Calls Try.prog 10 #[.pointer (some ⟨R, 0, none⟩), .int .i64 0, .int .u16 (a : Int)] w fun e w' => e = .returned (.int .i64 5) ∧ w = w' := by
  obtain ⟨s0, s1, s2, k0, k1, k2, e0, e1, e2, hlk⟩ := h.look
  have HI := Lib.hid h
  have HE0 := Lib.hid e0; have HE1 := Lib.hid e1; have HE2 := Lib.hid e2
  clear e0 e1 e2
  have H := Lib.hid hlk
  have c0 := hlk.n; have c1 := hlk.u; have c2 := hlk.h; have c3 := hlk.s
  have f1 := h.blk.free 1; have f2 := h.blk.free 2; have f3 := h.blk.free 3
  have HL := Lib.hid hl
  obtain ⟨n, hn2⟩ : ∃ n, rd.n = n := ⟨_, rfl⟩
  have HN := Lib.hid hn2
  rw [hn2] at c0 hn
  have wk := IntWalk.i64_in (a : Int) (by omega)
  have q0 : ((a : Int) == 0) = false := by simp; omega
  have q1 : decide (n ≤ a) = false := by simpa using hn
  clear h hl hn2 hlk
  have HH0 := Lib.hid hu
  clear hu
  go_enter Try.func10, Try.ntmps10
  go_wp2_with fail
  refine (has_any s0 k0 _ a _ (Nat.le_succ_of_le (HL.out 0 (by omega))) H.out.su).mono ?_
  rw [HH0.out]
  rintro e w' ⟨rfl, rfl⟩
  go_wp2_with fail
  go_ret
  exact ⟨rfl, rfl⟩
set_option maxRecDepth 100000 in
set_option maxHeartbeats 4000000 in
theorem ract_mark_held (w : World) (lo : Nat) (lab : Nat → Nat) (b R : Nat) (v : Nat → Value) (rd : Rdk) (a : Nat) (h : RdIn w lo lab b R v rd) (hl : ∀ i, i < 3 → (rd.l i).length ≤ 999) (h0 : 1 ≤ a) (ha : a < 65536) (hn : a < rd.n) (hu : hasB (rd.l 0) a = false) (hh : hasB (rd.l 1) a = true) : Calls Try.prog 10 #[.pointer (some ⟨R, 0, none⟩), .int .i64 0, .int .u16 (a : Int)] w fun e w' => e = .returned (.int .i64 5) ∧ w = w' := by
  obtain ⟨s0, s1, s2, k0, k1, k2, e0, e1, e2, hlk⟩ := h.look
  have HI := Lib.hid h
  have HE0 := Lib.hid e0; have HE1 := Lib.hid e1; have HE2 := Lib.hid e2
  clear e0 e1 e2
  have H := Lib.hid hlk
  have c0 := hlk.n; have c1 := hlk.u; have c2 := hlk.h; have c3 := hlk.s
  have f1 := h.blk.free 1; have f2 := h.blk.free 2; have f3 := h.blk.free 3
  have HL := Lib.hid hl
  obtain ⟨n, hn2⟩ : ∃ n, rd.n = n := ⟨_, rfl⟩
  have HN := Lib.hid hn2
  rw [hn2] at c0 hn
  have wk := IntWalk.i64_in (a : Int) (by omega)
  have q0 : ((a : Int) == 0) = false := by simp; omega
  have q1 : decide (n ≤ a) = false := by simpa using hn
  clear h hl hn2 hlk
  have HH0 := Lib.hid hu; have HH1 := Lib.hid hh
  clear hu hh
  go_enter Try.func10, Try.ntmps10
  go_wp2_with fail
  refine (has_any s0 k0 _ a _ (Nat.le_succ_of_le (HL.out 0 (by omega))) H.out.su).mono ?_
  rw [HH0.out]
  rintro e w' ⟨rfl, rfl⟩
  go_wp2_with fail
  refine (has_any s1 k1 _ a _ (Nat.le_succ_of_le (HL.out 1 (by omega))) H.out.sh).mono ?_
  rw [HH1.out]
  rintro e w' ⟨rfl, rfl⟩
  go_wp2_with fail
  go_ret
  exact ⟨rfl, rfl⟩
set_option maxRecDepth 100000 in
set_option maxHeartbeats 4000000 in
theorem ract_mark (w : World) (lo : Nat) (lab : Nat → Nat) (b R : Nat) (v : Nat → Value) (rd : Rdk) (a : Nat) (h : RdIn w lo lab b R v rd) (hl : ∀ i, i < 3 → (rd.l i).length ≤ 999) (h0 : 1 ≤ a) (ha : a < 65536) (hn : a < rd.n) (hu : hasB (rd.l 0) a = false) (hh : hasB (rd.l 1) a = false) : Calls Try.prog 10 #[.pointer (some ⟨R, 0, none⟩), .int .i64 0, .int .u16 (a : Int)] w fun e w' => e = .returned (.int .i64 0) ∧ RdPost w lo lab b R (rd.set 0 (rd.l 0 ++ [a])) w' := by
  obtain ⟨s0, s1, s2, k0, k1, k2, e0, e1, e2, hlk⟩ := h.look
  have HI := Lib.hid h
  have HE0 := Lib.hid e0; have HE1 := Lib.hid e1; have HE2 := Lib.hid e2
  clear e0 e1 e2
  have H := Lib.hid hlk
  have c0 := hlk.n; have c1 := hlk.u; have c2 := hlk.h; have c3 := hlk.s
  have f1 := h.blk.free 1; have f2 := h.blk.free 2; have f3 := h.blk.free 3
  have HL := Lib.hid hl
  obtain ⟨n, hn2⟩ : ∃ n, rd.n = n := ⟨_, rfl⟩
  have HN := Lib.hid hn2
  rw [hn2] at c0 hn
  have wk := IntWalk.i64_in (a : Int) (by omega)
  have q0 : ((a : Int) == 0) = false := by simp; omega
  have q1 : decide (n ≤ a) = false := by simpa using hn
  clear h hl hn2 hlk
  have HH0 := Lib.hid hu; have HH1 := Lib.hid hh
  clear hu hh
  have hb1 : Below w.heap.size w (w.alloc (.cells #[.int .u16 (a : Int)] 33)) := (Below.refl _ _).alloc (Nat.le_refl _) _
  obtain ⟨v', w3, hr3, ⟨s3, n3, c3', e3⟩, hc3, hf3, hp3⟩ := HI.out.app (i := 0) (by omega) (Nat.le_succ_of_le (HL.out 0 (by omega))) (m := [a]) (by simp) hb1 (c := 1) (src_one w a) (by simp) 29
  rw [HE0.out] at hr3 hc3
  subst e3
  have HR3 := Lib.hid hr3
  have HP3 := Lib.hid hp3
  clear hr3 hp3 hb1
  go_enter Try.func10, Try.ntmps10
  go_wp2_with fail
  refine (has_any s0 k0 _ a _ (Nat.le_succ_of_le (HL.out 0 (by omega))) H.out.su).mono ?_
  rw [HH0.out]
  rintro e w' ⟨rfl, rfl⟩
  go_wp2_with fail
  refine (has_any s1 k1 _ a _ (Nat.le_succ_of_le (HL.out 1 (by omega))) H.out.sh).mono ?_
  rw [HH1.out]
  rintro e w' ⟨rfl, rfl⟩
  go_wp2_with (first | (at_builtin; refine wpL_val rfl (ex_appU rfl rfl rfl HR3.out) ?_) | fail)
  go_ret
  exact ⟨rfl, HP3.out⟩
set_option maxRecDepth 100000 in
set_option maxHeartbeats 4000000 in
theorem ract_no1 (w : World) (lo : Nat) (lab : Nat → Nat) (b R : Nat) (v : Nat → Value) (rd : Rdk) (a : Nat) (h : RdIn w lo lab b R v rd) (hl : ∀ i, i < 3 → (rd.l i).length ≤ 999) (h0 : 1 ≤ a) (ha : a < 65536) (hn : a < rd.n) (hu : hasB (rd.l 0) a = false) : Calls Try.prog 10 #[.pointer (some ⟨R, 0, none⟩), .int .i64 1, .int .u16 (a : Int)] w fun e w' => e = .returned (.int .i64 5) ∧ w = w' := by
  obtain ⟨s0, s1, s2, k0, k1, k2, e0, e1, e2, hlk⟩ := h.look
  have HI := Lib.hid h
  have HE0 := Lib.hid e0; have HE1 := Lib.hid e1; have HE2 := Lib.hid e2
  clear e0 e1 e2
  have H := Lib.hid hlk
  have c0 := hlk.n; have c1 := hlk.u; have c2 := hlk.h; have c3 := hlk.s
  have f1 := h.blk.free 1; have f2 := h.blk.free 2; have f3 := h.blk.free 3
  have HL := Lib.hid hl
  obtain ⟨n, hn2⟩ : ∃ n, rd.n = n := ⟨_, rfl⟩
  have HN := Lib.hid hn2
  rw [hn2] at c0 hn
  have wk := IntWalk.i64_in (a : Int) (by omega)
  have q0 : ((a : Int) == 0) = false := by simp; omega
  have q1 : decide (n ≤ a) = false := by simpa using hn
  clear h hl hn2 hlk
  have HH0 := Lib.hid hu
  clear hu
  go_enter Try.func10, Try.ntmps10
  go_wp2_with fail
  refine (has_any s0 k0 _ a _ (Nat.le_succ_of_le (HL.out 0 (by omega))) H.out.su).mono ?_
  rw [HH0.out]
  rintro e w' ⟨rfl, rfl⟩
  go_wp2_with fail
  go_ret
  exact ⟨rfl, rfl⟩
set_option maxRecDepth 100000 in
set_option maxHeartbeats 4000000 in
theorem ract_no2 (w : World) (lo : Nat) (lab : Nat → Nat) (b R : Nat) (v : Nat → Value) (rd : Rdk) (a : Nat) (h : RdIn w lo lab b R v rd) (hl : ∀ i, i < 3 → (rd.l i).length ≤ 999) (h0 : 1 ≤ a) (ha : a < 65536) (hn : a < rd.n) (hu : hasB (rd.l 0) a = false) : Calls Try.prog 10 #[.pointer (some ⟨R, 0, none⟩), .int .i64 2, .int .u16 (a : Int)] w fun e w' => e = .returned (.int .i64 5) ∧ w = w' := by
  obtain ⟨s0, s1, s2, k0, k1, k2, e0, e1, e2, hlk⟩ := h.look
  have HI := Lib.hid h
  have HE0 := Lib.hid e0; have HE1 := Lib.hid e1; have HE2 := Lib.hid e2
  clear e0 e1 e2
  have H := Lib.hid hlk
  have c0 := hlk.n; have c1 := hlk.u; have c2 := hlk.h; have c3 := hlk.s
  have f1 := h.blk.free 1; have f2 := h.blk.free 2; have f3 := h.blk.free 3
  have HL := Lib.hid hl
  obtain ⟨n, hn2⟩ : ∃ n, rd.n = n := ⟨_, rfl⟩
  have HN := Lib.hid hn2
  rw [hn2] at c0 hn
  have wk := IntWalk.i64_in (a : Int) (by omega)
  have q0 : ((a : Int) == 0) = false := by simp; omega
  have q1 : decide (n ≤ a) = false := by simpa using hn
  clear h hl hn2 hlk
  have HH0 := Lib.hid hu
  clear hu
  go_enter Try.func10, Try.ntmps10
  go_wp2_with fail
  refine (has_any s0 k0 _ a _ (Nat.le_succ_of_le (HL.out 0 (by omega))) H.out.su).mono ?_
  rw [HH0.out]
  rintro e w' ⟨rfl, rfl⟩
  go_wp2_with fail
  go_ret
  exact ⟨rfl, rfl⟩
set_option maxRecDepth 100000 in
set_option maxHeartbeats 4000000 in
theorem ract_give (w : World) (lo : Nat) (lab : Nat → Nat) (b R : Nat) (v : Nat → Value) (rd : Rdk) (a : Nat) (h : RdIn w lo lab b R v rd) (hl : ∀ i, i < 3 → (rd.l i).length ≤ 999) (h0 : 1 ≤ a) (ha : a < 65536) (hn : a < rd.n) (hu : hasB (rd.l 0) a = true) : Calls Try.prog 10 #[.pointer (some ⟨R, 0, none⟩), .int .i64 1, .int .u16 (a : Int)] w fun e w' => e = .returned (.int .i64 0) ∧ RdPost w lo lab b R (rd.set 0 (wo (rd.l 0) a)) w' := by
  obtain ⟨s0, s1, s2, k0, k1, k2, e0, e1, e2, hlk⟩ := h.look
  have HI := Lib.hid h
  have HE0 := Lib.hid e0; have HE1 := Lib.hid e1; have HE2 := Lib.hid e2
  clear e0 e1 e2
  have H := Lib.hid hlk
  have c0 := hlk.n; have c1 := hlk.u; have c2 := hlk.h; have c3 := hlk.s
  have f1 := h.blk.free 1; have f2 := h.blk.free 2; have f3 := h.blk.free 3
  have HL := Lib.hid hl
  obtain ⟨n, hn2⟩ : ∃ n, rd.n = n := ⟨_, rfl⟩
  have HN := Lib.hid hn2
  rw [hn2] at c0 hn
  have wk := IntWalk.i64_in (a : Int) (by omega)
  have q0 : ((a : Int) == 0) = false := by simp; omega
  have q1 : decide (n ≤ a) = false := by simpa using hn
  clear h hl hn2 hlk
  have HH0 := Lib.hid hu
  clear hu
  go_enter Try.func10, Try.ntmps10
  go_wp2_with fail
  refine (has_any s0 k0 _ a _ (Nat.le_succ_of_le (HL.out 0 (by omega))) H.out.su).mono ?_
  rw [HH0.out]
  rintro e w' ⟨rfl, rfl⟩
  go_wp2_with fail
  refine (without_any s0 k0 _ a _ (Nat.le_succ_of_le (HL.out 0 (by omega))) H.out.su (fun g o s he => by
    subst he
    have h1 := (HI.out.row 0 (by omega)).1
    rw [HE0.out] at h1
    exact (h1.blk rfl).2.1)).mono ?_
  rintro e w3 ⟨v', rfl, ho, hb⟩
  obtain ⟨d1, d2, d3⟩ := HI.out.new (i := 0) (by omega) hb ho
  rw [HE0.out] at d1
  obtain ⟨s3, c3', e3, _⟩ := ho.form
  subst e3
  have HP3 := Lib.hid d3
  clear d3 ho hb
  go_wp2_with fail
  go_ret
  exact ⟨rfl, HP3.out⟩
set_option maxRecDepth 100000 in
set_option maxHeartbeats 4000000 in
theorem ract_hold (w : World) (lo : Nat) (lab : Nat → Nat) (b R : Nat) (v : Nat → Value) (rd : Rdk) (a : Nat) (h : RdIn w lo lab b R v rd) (hl : ∀ i, i < 3 → (rd.l i).length ≤ 999) (h0 : 1 ≤ a) (ha : a < 65536) (hn : a < rd.n) (hu : hasB (rd.l 0) a = true) : Calls Try.prog 10 #[.pointer (some ⟨R, 0, none⟩), .int .i64 2, .int .u16 (a : Int)] w fun e w' => e = .returned (.int .i64 0) ∧ RdPost w lo lab b R ((rd.set 0 (wo (rd.l 0) a)).set 1 (rd.l 1 ++ [a])) w' := by
  obtain ⟨s0, s1, s2, k0, k1, k2, e0, e1, e2, hlk⟩ := h.look
  have HI := Lib.hid h
  have HE0 := Lib.hid e0; have HE1 := Lib.hid e1; have HE2 := Lib.hid e2
  clear e0 e1 e2
  have H := Lib.hid hlk
  have c0 := hlk.n; have c1 := hlk.u; have c2 := hlk.h; have c3 := hlk.s
  have f1 := h.blk.free 1; have f2 := h.blk.free 2; have f3 := h.blk.free 3
  have HL := Lib.hid hl
  obtain ⟨n, hn2⟩ : ∃ n, rd.n = n := ⟨_, rfl⟩
  have HN := Lib.hid hn2
  rw [hn2] at c0 hn
  have wk := IntWalk.i64_in (a : Int) (by omega)
  have q0 : ((a : Int) == 0) = false := by simp; omega
  have q1 : decide (n ≤ a) = false := by simpa using hn
  clear h hl hn2 hlk
  have HH0 := Lib.hid hu
  clear hu
  go_enter Try.func10, Try.ntmps10
  go_wp2_with fail
  refine (has_any s0 k0 _ a _ (Nat.le_succ_of_le (HL.out 0 (by omega))) H.out.su).mono ?_
  rw [HH0.out]
  rintro e w' ⟨rfl, rfl⟩
  go_wp2_with fail
  refine (without_any s0 k0 _ a _ (Nat.le_succ_of_le (HL.out 0 (by omega))) H.out.su (fun g o s he => by
    subst he
    have h1 := (HI.out.row 0 (by omega)).1
    rw [HE0.out] at h1
    exact (h1.blk rfl).2.1)).mono ?_
  rintro e w3 ⟨v', rfl, ho, hb⟩
  obtain ⟨d1, d2, d3⟩ := HI.out.new (i := 0) (by omega) hb ho
  rw [HE0.out] at d1
  obtain ⟨s3, c3', e3, _⟩ := ho.form
  have HD3 := Lib.hid d3
  have hRw := HI.out.blk.lt
  subst e3
  clear d3 ho hb
  go_upto_region 15 with fail
  generalize (w3.setCell ⟨R, 1, none⟩ (.slice s3 (wo (rd.l 0) a).length c3')) = W2 at HD3 ⊢
  obtain ⟨lab2, v2, g1, g2, g3⟩ := HD3.out
  clear c0 c1 c2 c3 f1 f2 f3 d1 d2 HD3
  obtain ⟨t0, t1, t2, m0, m1, m2, x0, x1, x2, hlk2⟩ := g2.look
  have c2 := hlk2.h
  have f2 := g2.blk.free 2
  have hb1 : Below W2.heap.size W2 (W2.alloc (.cells #[.int .u16 (a : Int)] 33)) := (Below.refl _ _).alloc (Nat.le_refl _) _
  obtain ⟨v', w4, hr4, ⟨s4, n4, c4', e4⟩, hc4, hf4, hp4⟩ := g2.app (i := 1) (by omega) (Nat.le_succ_of_le (HL.out 1 (by omega))) (m := [a]) (by simp) hb1 (c := 1) (src_one W2 a) (by simp) 29
  rw [x1] at hr4 hc4
  subst e4
  have hl1 : (rd.set 0 (wo (rd.l 0) a)).l 1 = rd.l 1 := rfl
  rw [hl1] at hr4 hc4 hp4 c2
  have HR4 := Lib.hid hr4
  have HP4 := Lib.hid (RdPost.trans hRw g1 g3 hp4)
  clear hr4 hp4 hb1 g1 g2 g3 hlk2 x0 x1 x2 hl1
  go_wp2_with (first | (at_builtin; refine wpL_val rfl (ex_appU rfl rfl rfl HR4.out) ?_) | fail)
  go_ret
  exact ⟨rfl, HP4.out⟩
set_option maxRecDepth 100000 in
set_option maxHeartbeats 4000000 in
theorem ract_sick (w : World) (lo : Nat) (lab : Nat → Nat) (b R : Nat) (v : Nat → Value) (rd : Rdk) (a : Nat) (h : RdIn w lo lab b R v rd) (hl : ∀ i, i < 3 → (rd.l i).length ≤ 999) (h0 : 1 ≤ a) (ha : a < 65536) (hn : a < rd.n) : Calls Try.prog 10 #[.pointer (some ⟨R, 0, none⟩), .int .i64 3, .int .u16 (a : Int)] w fun e w' => e = .returned (.int .i64 0) ∧ RdPost w lo lab b R (rd.set 2 (wo (rd.l 2) a ++ [a])) w' := by
  obtain ⟨s0, s1, s2, k0, k1, k2, e0, e1, e2, hlk⟩ := h.look
  have HI := Lib.hid h
  have HE0 := Lib.hid e0; have HE1 := Lib.hid e1; have HE2 := Lib.hid e2
  clear e0 e1 e2
  have H := Lib.hid hlk
  have c0 := hlk.n; have c1 := hlk.u; have c2 := hlk.h; have c3 := hlk.s
  have f1 := h.blk.free 1; have f2 := h.blk.free 2; have f3 := h.blk.free 3
  have HL := Lib.hid hl
  obtain ⟨n, hn2⟩ : ∃ n, rd.n = n := ⟨_, rfl⟩
  have HN := Lib.hid hn2
  rw [hn2] at c0 hn
  have wk := IntWalk.i64_in (a : Int) (by omega)
  have q0 : ((a : Int) == 0) = false := by simp; omega
  have q1 : decide (n ≤ a) = false := by simpa using hn
  clear h hl hn2 hlk
  obtain ⟨bu, hu⟩ : ∃ bu, hasB (rd.l 0) a = bu := ⟨_, rfl⟩
  have HH0 := Lib.hid hu
  clear hu
  go_enter Try.func10, Try.ntmps10
  go_wp2_with fail
  refine (has_any s0 k0 _ a _ (Nat.le_succ_of_le (HL.out 0 (by omega))) H.out.su).mono ?_
  rw [HH0.out]
  rintro e w' ⟨rfl, rfl⟩
  go_wp2_with fail
  refine (without_any s2 k2 _ a _ (Nat.le_succ_of_le (HL.out 2 (by omega))) H.out.ss (fun g o s he => by
    subst he
    have h1 := (HI.out.row 2 (by omega)).1
    rw [HE2.out] at h1
    exact (h1.blk rfl).2.1)).mono ?_
  rintro e w3 ⟨v', rfl, ho, hb⟩
  have hb1 : Below w3.heap.size w3 (w3.alloc (.cells #[.int .u16 (a : Int)] 33)) := (Below.refl _ _).alloc (Nat.le_refl _) _
  have hwl : (wo (rd.l 2) a).length ≤ 1000 := Nat.le_trans (List.length_filter_le _ _) (Nat.le_succ_of_le (HL.out 2 (by omega)))
  obtain ⟨v4, w4, hr4, ho4, hg4, _⟩ := ownU_app (ho.below hb1) (Nat.le_trans hb.size hb1.size) hwl (m := [a]) (by simp) (c := 1) (src_one w3 a) (by simp) 29
  have hb4 : Below w.heap.size w w4 := (hb.trans (hb1.mono hb.size)).grown hg4 (Nat.le_trans hb.size hb1.size) (fun q hq => (ho.blk hq).1)
  obtain ⟨d1, d2, d3⟩ := HI.out.new (i := 2) (by omega) hb4 ho4
  rw [HE2.out] at d1
  obtain ⟨s3, c3', e3, _⟩ := ho.form
  obtain ⟨s5, c5, e5, _⟩ := ho4.form
  rw [List.length_append, List.length_singleton] at e5
  obtain ⟨nw, hnw⟩ : ∃ nw, (wo (rd.l 2) a).length = nw := ⟨_, rfl⟩
  rw [hnw] at e3 e5
  subst e3 e5
  have HR4 := Lib.hid hr4
  have HP3 := Lib.hid d3
  clear d3 ho hb ho4 hr4 hg4 hb1 hb4 hwl hnw
  go_wp2_with (first | (at_builtin; refine wpL_val rfl (ex_appU rfl rfl rfl HR4.out) ?_) | fail)
  go_ret
  exact ⟨rfl, HP3.out⟩
end Go.Proofs.Ytjfedhaafdfibaa
