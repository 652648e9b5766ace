/- ContentAsks: the law's walk, with its guard. -/
import Derived.Test.YthionhliokhcgaaCzb
namespace Go.Proofs.Ythionhliokhcgaa
open Go.RowKit Go.Shelf

attribute [local go_sem] Oper.semAt_some

set_option maxRecDepth 100000 in
set_option maxHeartbeats 4000000 in
theorem asks_great (l : List AcT) (sp : Option Addr) (cap : Nat) (hc : l.length ≤ cap) (bad : Nat) (last : AcT) (w : World) (hA : ActsT w sp l) (hL : AcOKT w last) (hg : greatB l = true ∨ greatB l = false ∧ greatB [last] = true) : Calls Try.prog 3 #[.slice sp l.length cap, .int .u64 (bad : Int), .agg (tacells last).toArray] w fun e w' => e = .returned (.bool true) ∧ Below w.heap.size w w' := by
  have hb5 : Below w.heap.size w (w.alloc (.cells (tacells last).toArray 26)) := (Below.refl _ _).alloc (Nat.le_refl _) _
  have hgr := great_go l sp cap hc (w.alloc (.cells (tacells last).toArray 26)) (hA.grown hb5)
  have h5 : Blk (w.alloc (.cells (tacells last).toArray 26)) w.heap.size (tacells last) 26 := Blk.new' _ _ _ _ _ rfl rfl
  obtain ⟨W0, hW0⟩ : ∃ W, w.alloc (.cells (tacells last).toArray 26) = W := ⟨_, rfl⟩
  obtain ⟨g5, hg5⟩ : ∃ g, w.heap.size = g := ⟨_, rfl⟩
  rw [hW0] at hb5 hgr h5
  obtain ⟨N, hN⟩ : ∃ N, l.length = N := ⟨_, rfl⟩
  rw [hN] at hc hgr ⊢
  have HGR := Lib.hid hgr; have HL := Lib.hid hL; have HB5 := Lib.hid hb5
  rw [hg5] at h5
  have HG5 := Lib.hid hg5; have H5 := Lib.hid h5; have HW0 := Lib.hid hW0; have HG := Lib.hid hg
  clear hN hc hA hg hgr hL hb5 hg5 h5 hW0
  go_enter Try.func3, Try.ntmps3
  go_upto_region 1 with fail
  rw [show w.alloc (.cells #[.int .u8 (last.d : Int), .int .i64 last.x, .int .i64 last.n, .slice last.sp last.b.length last.cap] 26) = W0 from HW0.out, HG5.out]
  go_wp2_with fail
  refine HGR.out.mono ?_
  rintro e W1 ⟨rfl, hb1⟩
  have hk5 := H5.out.below hb1 H5.out.lt
  have hr5 : W1.rangeAt g5 0 (tacells last) := fun j v hv => by rw [Nat.zero_add]; exact hk5.cell hv
  have HR5 := Lib.hid hr5
  have HB1 : Hid (Below w.heap.size w W1) := Lib.hid (HB5.out.trans (hb1.mono HB5.out.size))
  clear hr5 hk5 hb1 HGR HB5 H5
  rcases HG.out with h1 | ⟨h1, h2⟩
  · rw [h1]
    clear h1
    go_wp2_with fail
    refine (cwakes_any _).mono ?_
    rintro e W2 ⟨rfl, hb2⟩
    have HE : Hid (Below w.heap.size w W2) := Lib.hid (HB1.out.trans (hb2.mono HB1.out.size))
    clear hb2
    go_wp2_with fail
    go_ret
    exact ⟨rfl, HE.out⟩
  · have hb : Below W1.heap.size W1 (W1.alloc (.cells (tacells last).toArray 26)) := (Below.refl _ _).alloc (Nat.le_refl _) _
    have hgr2 := great_go [last] (some ⟨W1.heap.size, 0, none⟩) 1 (by simp) (W1.alloc (.cells (tacells last).toArray 26)) (by
      refine ⟨fun a ha => ?_, fun _ => ⟨W1.heap.size, 0, rfl, by simp, fun i a hi j v hv => ?_⟩⟩
      · rw [List.mem_singleton] at ha
        subst ha
        exact (HL.out.grown HB1.out).grown hb
      · have h7 : Blk (W1.alloc (.cells (tacells last).toArray 26)) W1.heap.size (tacells last) 26 := Blk.new' _ _ _ _ _ rfl rfl
        have hi1 : i < 1 := (List.getElem?_eq_some_iff.1 hi).1
        obtain rfl : i = 0 := by omega
        obtain rfl : last = a := by simpa using hi
        rw [Nat.zero_mul, Nat.zero_add]
        exact h7.cell hv)
    rw [h2] at hgr2
    have HGR2 := Lib.hid hgr2
    have HBB := Lib.hid hb
    rw [h1]
    clear hgr2 h1 h2 hb
    go_wp2_with (first | (refine c_valG (by rfl) (c_ldAc HR5.out rfl rfl) ?_) | fail)
    refine HGR2.out.mono ?_
    rintro e W2 ⟨rfl, hb2⟩
    have HB2 : Hid (Below w.heap.size w W2) := Lib.hid (HB1.out.trans ((HBB.out.trans (hb2.mono HBB.out.size)).mono HB1.out.size))
    clear hb2
    go_wp2_with fail
    refine (cwakes_any _).mono ?_
    rintro e W3 ⟨rfl, hb3⟩
    have HE : Hid (Below w.heap.size w W3) := Lib.hid (HB2.out.trans (hb3.mono HB2.out.size))
    clear hb3
    go_wp2_with fail
    go_ret
    exact ⟨rfl, HE.out⟩
theorem asks_walk (l : List AcT) (sp : Option Addr) (cap : Nat) (hc : l.length ≤ cap) (bad : Nat) (hbad : bad < 18446744073709551616) (last : AcT) (w : World) (hA : ActsT w sp l) (hL : AcOKT w last) : Calls Try.prog 3 #[.slice sp l.length cap, .int .u64 (bad : Int), .agg (tacells last).toArray] w fun e w' => e = .returned (.bool true) ∧ Below w.heap.size w w' := by
  cases hg : greatB l with
  | true => exact asks_great l sp cap hc bad last w hA hL (.inl hg)
  | false =>
    cases hg2 : greatB [last] with
    | true => exact asks_great l sp cap hc bad last w hA hL (.inr ⟨hg, hg2⟩)
    | false => exact asks_go l sp cap hc bad hbad last w hA hL hg hg2
end Go.Proofs.Ythionhliokhcgaa
