/- The document's digest of a pointer's tag and a block. -/
import Derived.Test.YtlibdcgpjglcpaaDoorPs
import Derived.Test.YtlibdcgpjglcpaaDoorPo
namespace Go.Proofs.YtlibdcgpjglcpaaDoor
open Go.RowKit

theorem padB_tag (p : Pt) : (padB p).take 16 = tagB p := by
  unfold padB bodyB
  rw [List.append_assoc, List.append_assoc, List.take_left' (tagB_length p)]
theorem SrcA.take {w : World} {sp : Option Addr} {bs : Bs} (h : SrcA w sp bs) (n : Nat) : SrcA w sp (bs.take n) := fun h0 => by
  obtain ⟨g, o, e, hg, hc⟩ := h (by simp at h0; omega)
  refine ⟨g, o, e, hg, fun j hj => ?_⟩
  have hj2 : j < n ∧ j < bs.length := by simp at hj; omega
  rw [hc j hj2.2]
  simp [List.getD_eq_getElem?_getD, hj2.1]
structure QdW (p : Pt) (w : World) (W : World) : Prop where
  box : Blk W w.heap.size (pcells p) 28
  res : Blk W (w.heap.size + 1) (List.replicate 32 (Value.int .u8 0)) 25
  bel : Below w.heap.size w W
theorem QdW.grown {p : Pt} {w W W' : World} (h : QdW p w W) {B : Nat} (hb : Below B W W') (h1 : w.heap.size + 2 ≤ B) : QdW p w W' :=
  ⟨h.box.below hb (by omega), h.res.below hb (by omega), h.bel.trans (hb.mono (by omega))⟩
theorem qdw_start (p : Pt) (w : World) (z : Array Value) (hz : z = (List.replicate 32 (Value.int .u8 0)).toArray) : QdW p w ((w.alloc (.cells (pcells p).toArray 28)).alloc (.cells z 25)) := by
  subst hz
  exact ⟨(Blk.new _ _ _).alloc _, Blk.new' _ _ _ _ _ (by simp) rfl, ((Below.refl _ _).alloc (Nat.le_refl _) _).alloc (by simp) _⟩
set_option maxRecDepth 100000 in
set_option maxHeartbeats 4000000 in
theorem qdigest_any (p : Pt) (hp : p.OK) (bs : Bs) (sp : Option Addr) (cap : Nat) (w : World) (hl : bs.length ≤ 4000) (hz : sp = none → cap = 0) (hS : SrcA w sp bs) :
    Calls Tryd.prog 22 #[.agg (pcells p).toArray, .slice sp bs.length cap] w fun e w' => e = .returned (.agg ((digest (tagB p ++ bs)).map V8).toArray) ∧ Below w.heap.size w w' := by
  have HP := Lib.hid hp
  have HS := Lib.hid hS
  have HLP := Lib.hid (pcells_length hp)
  have HSD := Lib.hid (size24d (tagB p ++ bs))
  have HDL : Hid (((List.replicate 32 (Value.int .u8 0)).toArray).size = ((digest (tagB p ++ bs)).map V8).toArray.size) := Lib.hid (by simp [digest_length])
  obtain ⟨L, hL⟩ : ∃ L, bs.length = L := ⟨_, rfl⟩
  have HL := Lib.hid hL
  have HLL : Hid (L ≤ 4000) := Lib.hid (by omega)
  have HZ := Lib.hid hz
  rw [hL]
  clear hp hS hl hz hL
  go_enter Tryd.func22, Tryd.ntmps22
  go_upto_region 1 with fail
  refine (fun (k : ∀ W, QdW p w W → W.heap.size = w.heap.size + 2 → Code.wp _ _ _ _ W) => k _ (qdw_start p w _ rfl) (by simp)) ?_
  intro W1 hW1 hs1
  have HW1 := Lib.hid hW1
  have HS1 := Lib.hid hs1
  clear hW1 hs1
  go_wp2_with (first | (refine wpL_val rfl (ex_ld (ty := 28) (cs := pcells p) rfl rfl (rng_all HW1.out.box) Tryd.underlying28 rfl (by rw [sizeP, HLP.out])) ?_) | fail)
  refine (qbytes_any p HP.out W1).mono ?_
  rintro e2 W2 ⟨v2, rfl, ho2, hb2⟩
  obtain ⟨sp2, cap2, e, q1, q2, q3, q4, q5⟩ := OwnB.form ho2
  rw [padB_length HP.out] at e q1
  subst e
  have HW2 := Lib.hid (HW1.out.grown hb2 (by rw [HS1.out]; exact Nat.le_refl _))
  have h2s := hb2.size
  have h1s := HS1.out
  have hS2 := q3.take 16
  rw [padB_tag] at hS2
  obtain ⟨v3, w3, hr3, ho3, hb3⟩ := ownB_src (m := tagB p) (l := []) (w := W2) (B := W2.heap.size) (World.ownsRow_nil _ _ _ _) (Nat.le_refl _) (by simp [tagB_length]) hS2 q4 29
  rw [tagB_length] at hr3
  rw [List.nil_append] at ho3
  have hS3 := (HS.out.below HW2.out.bel (Nat.le_refl _)).below hb3 (Nat.le_refl _)
  obtain ⟨v4, w4, hr4, ho4, hb4⟩ := ownB_src (m := bs) (l := tagB p) (w := w3) (B := W2.heap.size) ho3 hb3.size (by have := HLL.out; have := HL.out; simp [tagB_length]; omega) hS3 HZ.out 29
  rw [HL.out] at hr4
  obtain ⟨sp4, cap4, e4, s1, s2, s3, s4, s5⟩ := OwnB.form ho4
  have HR3 := Lib.hid hr3
  have HR4 := Lib.hid hr4
  have HW4 := Lib.hid (HW2.out.grown (hb3.trans hb4) (by omega))
  have hsum := refSum_any (tagB p ++ bs) sp4 cap4 w4 (by have := HLL.out; have := HL.out; simp [tagB_length]; omega) s1 s4 s3
  have hlen : (tagB p ++ bs).length = 16 + L := by rw [List.length_append, tagB_length, HL.out]
  rw [hlen] at hsum e4
  have HSUM := Lib.hid hsum
  have hsl : ∀ W : World, (Instr.sliceAt 29 (.slice sp2 64 cap2) none (some (.int .i64 16)) none).run Tryd.prog W = .ok (.slice sp2 16 cap2) W := sliceTo sp2 64 cap2 16 (by omega)
  obtain ⟨sp3, cap3, e3, _⟩ := OwnB.form ho3
  rw [tagB_length] at e3
  subst e3 e4
  clear ho2 hb2 q1 q2 q3 q4 q5 h2s h1s hS2 hr3 ho3 hb3 hS3 hr4 ho4 hb4 s1 s2 s3 s4 s5 hsum HW1 HW2 hlen
  go_wp2_with (first | (at_builtin; refine wpL_val rfl (ex_appB rfl rfl rfl HR3.out) ?_) | (at_builtin; refine wpL_val rfl (ex_appB rfl rfl rfl HR4.out) ?_) | (go_at_call 46; refine HSUM.out.mono ?_; rintro e5 w5 ⟨rfl, hb5⟩; have HW5 := Lib.hid (HW4.out.grown hb5 (by have := HW4.out.res.lt; omega)); clear hb5; have HRS := Lib.hid HW5.out.res) | (refine wpList_store_row rfl 25 (.tmp 4) (.tmp 11) rfl (w.heap.size + 1) _ rfl rfl 25 _ HRS.out HSD.out HDL.out (one_ints V8 (fun _ => rfl) _) ?_) | fail)
  exact bodyPost_ret (results_cell_row Tryd.results22 _ _ (w.heap.size + 1) 25 _ _ _ rfl (HRS.out.row _) Tryd.underlying25 rfl HSD.out) rfl ⟨rfl, below_row HW5.out.bel (by omega) _⟩
end Go.Proofs.YtlibdcgpjglcpaaDoor
