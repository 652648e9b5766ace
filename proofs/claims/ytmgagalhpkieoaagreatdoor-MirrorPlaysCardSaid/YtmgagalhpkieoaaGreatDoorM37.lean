/- The document's digest of a pointer's tag and a block. -/
import Derived.Test.YtmgagalhpkieoaaGreatDoorM23
import Derived.Test.YtmgagalhpkieoaaGreatDoorM36
import Derived.Test.YtmgagalhpkieoaaGreatDoorM01
import Derived.ProofKit
import Derived.OpenShut
import Derived.Test.YtmgagalhpkieoaaGreatDoorM08
import Derived.Deep.Slices
namespace Go.Proofs.YtmgagalhpkieoaaGreatDoor
open Go.RowKit

theorem padB_tag (p : Pt) : (padB p).take 16 = tagB p := by
  unfold padB bodyB
  rw [List.append_assoc, List.append_assoc, List.take_left' (tagB_length p)]
theorem SrcA.take {w : World} {sp : Option Addr} {bs : Bs} (h : SrcA w sp bs) (n : Nat) : SrcA w sp (bs.take n) := fun h0 => by
  obtain ⟨g, o, e, hg, hc⟩ := h (by simp at h0; omega)
  refine ⟨g, o, e, hg, fun j hj => ?_⟩
  have hj2 : j < n ∧ j < bs.length := by simp at hj; omega
  rw [hc j hj2.2]
  simp [List.getD_eq_getElem?_getD, hj2.1]
structure QdW (p : Pt) (w : World) (W : World) : Prop where
  box : Blk W w.heap.size (pcells p) 58
  res : Blk W (w.heap.size + 1) (List.replicate 32 (Value.int .u8 0)) 55
  bel : Below w.heap.size w W
theorem QdW.grown {p : Pt} {w W W' : World} (h : QdW p w W) {B : Nat} (hb : Below B W W') (h1 : w.heap.size + 2 ≤ B) : QdW p w W' :=
  ⟨h.box.below hb (by omega), h.res.below hb (by omega), h.bel.trans (hb.mono (by omega))⟩
theorem qdw_start (p : Pt) (w : World) (z : Array Value) (hz : z = (List.replicate 32 (Value.int .u8 0)).toArray) : QdW p w ((w.alloc (.cells (pcells p).toArray 58)).alloc (.cells z 55)) := by
  subst hz
  exact ⟨(Blk.new _ _ _).alloc _, Blk.new' _ _ _ _ _ (by simp) rfl, ((Below.refl _ _).alloc (Nat.le_refl _) _).alloc (by simp) _⟩
set_option maxRecDepth 100000 in
set_option maxHeartbeats 4000000 in
theorem qdigest_any (p : Pt) (hp : p.OK) (bs : Bs) (sp : Option Addr) (cap : Nat) (w : World) (hl : bs.length ≤ 4000) (hz : sp = none → cap = 0) (hS : SrcA w sp bs) :
    Calls Tryz.prog 41 #[.agg (pcells p).toArray, .slice sp bs.length cap] w fun e w' => e = .returned (.agg ((digest (tagB p ++ bs)).map V8).toArray) ∧ Below w.heap.size w w' := by
  have HP := Lib.hid hp
  have HS := Lib.hid hS
  have HLP := Lib.hid (pcells_length hp)
  have HSD := Lib.hid (size24d (tagB p ++ bs))
  have HDL : Hid (((List.replicate 32 (Value.int .u8 0)).toArray).size = ((digest (tagB p ++ bs)).map V8).toArray.size) := Lib.hid (by simp [digest_length])
  obtain ⟨L, hL⟩ : ∃ L, bs.length = L := ⟨_, rfl⟩
  have HL := Lib.hid hL
  have HLL : Hid (L ≤ 4000) := Lib.hid (by omega)
  have HZ := Lib.hid hz
  rw [hL]
  clear hp hS hl hz hL
  go_enter Tryz.func41, Tryz.ntmps41
  go_upto_region 1 with fail
  refine (fun (k : ∀ W, QdW p w W → W.heap.size = w.heap.size + 2 → Code.wp _ _ _ _ W) => k _ (qdw_start p w _ rfl) (by simp)) ?_
  intro W1 hW1 hs1
  have HW1 := Lib.hid hW1
  have HS1 := Lib.hid hs1
  clear hW1 hs1
  go_wp2_with (first | (refine wpL_val rfl (ex_ld (ty := 58) (cs := pcells p) rfl rfl (rng_all HW1.out.box) Tryz.underlying58 rfl (by rw [sizeP, HLP.out])) ?_) | fail)
  refine (qbytes_any p HP.out W1).mono ?_
  rintro e2 W2 ⟨v2, rfl, ho2, hb2⟩
  obtain ⟨sp2, cap2, e, q1, q2, q3, q4, q5⟩ := OwnB.form ho2
  rw [padB_length HP.out] at e q1
  subst e
  have HW2 := Lib.hid (HW1.out.grown hb2 (by rw [HS1.out]; exact Nat.le_refl _))
  have h2s := hb2.size
  have h1s := HS1.out
  have hS2 := q3.take 16
  rw [padB_tag] at hS2
  obtain ⟨v3, w3, hr3, ho3, hb3⟩ := ownB_src (m := tagB p) (l := []) (w := W2) (B := W2.heap.size) (World.ownsRow_nil _ _ _ _) (Nat.le_refl _) (by simp [tagB_length]) hS2 q4 59
  rw [tagB_length] at hr3
  rw [List.nil_append] at ho3
  have hS3 := (HS.out.below HW2.out.bel (Nat.le_refl _)).below hb3 (Nat.le_refl _)
  obtain ⟨v4, w4, hr4, ho4, hb4⟩ := ownB_src (m := bs) (l := tagB p) (w := w3) (B := W2.heap.size) ho3 hb3.size (by have := HLL.out; have := HL.out; simp [tagB_length]; omega) hS3 HZ.out 59
  rw [HL.out] at hr4
  obtain ⟨sp4, cap4, e4, s1, s2, s3, s4, s5⟩ := OwnB.form ho4
  have HR3 := Lib.hid hr3
  have HR4 := Lib.hid hr4
  have HW4 := Lib.hid (HW2.out.grown (hb3.trans hb4) (by omega))
  have hsum := refSum_any (tagB p ++ bs) sp4 cap4 w4 (by have := HLL.out; have := HL.out; simp [tagB_length]; omega) s1 s4 s3
  have hlen : (tagB p ++ bs).length = 16 + L := by rw [List.length_append, tagB_length, HL.out]
  rw [hlen] at hsum e4
  have HSUM := Lib.hid hsum
  have hsl : ∀ W : World, (Instr.sliceAt 59 (.slice sp2 64 cap2) none (some (.int .i64 16)) none).run Tryz.prog W = .ok (.slice sp2 16 cap2) W := sliceTo sp2 64 cap2 16 (by omega)
  obtain ⟨sp3, cap3, e3, _⟩ := OwnB.form ho3
  rw [tagB_length] at e3
  subst e3 e4
  clear ho2 hb2 q1 q2 q3 q4 q5 h2s h1s hS2 hr3 ho3 hb3 hS3 hr4 ho4 hb4 s1 s2 s3 s4 s5 hsum HW1 HW2 hlen
  go_wp2_with (first | (at_builtin; refine wpL_val rfl (ex_appB rfl rfl rfl HR3.out) ?_) | (at_builtin; refine wpL_val rfl (ex_appB rfl rfl rfl HR4.out) ?_) | (go_at_call 80; refine HSUM.out.mono ?_; rintro e5 w5 ⟨rfl, hb5⟩; have HW5 := Lib.hid (HW4.out.grown hb5 (by have := HW4.out.res.lt; omega)); clear hb5; have HRS := Lib.hid HW5.out.res) | (refine wpList_store_row rfl 55 (.tmp 4) (.tmp 11) rfl (w.heap.size + 1) _ rfl rfl 55 _ HRS.out HSD.out HDL.out (one_ints V8 (fun _ => rfl) _) ?_) | fail)
  exact bodyPost_ret (results_cell_row Tryz.results41 _ _ (w.heap.size + 1) 55 _ _ _ rfl (HRS.out.row _) Tryz.underlying55 rfl HSD.out) rfl ⟨rfl, below_row HW5.out.bel (by omega) _⟩
end Go.Proofs.YtmgagalhpkieoaaGreatDoor
/- An act's pointer and block: sealed. -/
namespace Go.Proofs.YtmgagalhpkieoaaGreatDoor
open Go.RowKit

attribute [local go_sem] Oper.semAt_some

theorem results_two8 {fn : Func} {p u : Tmp} {ty : TypeId} (h : fn.results = #[.cell p ty, .tmp u]) (tmps : Array Value) (w : World) (g t : Nat) (cs : List Value) {fs : Array Field}
    (hp : tmps.getD p undef = .pointer (some ⟨g, 0, none⟩)) (hg : Blk w g cs t) (hu : Tryz.prog.underlying ty = some (.struct fs)) (hi : (Tryz.prog.info? ty).map (·.size) = some cs.length) :
    (results fn tmps).run Tryz.prog w = .ok (.tuple #[.agg cs.toArray, tmps.getD u undef]) w := by
  rw [results_cell_tmp h, hp]
  simp only [asAddr, Sem.run_pure, Result.andThen_ok, run_loadVar_row w g t ty cs.toArray (0, 0) _ hg hu rfl (by simpa using hi)]
def actC (d : Int) (p : Pt) (v : Value) (wr : Bool) (D : List Value) : List Value := .int .u8 d :: (pcells p ++ (v :: .bool wr :: D))
theorem actC_len {d : Int} {p : Pt} (hp : p.OK) {v : Value} {wr : Bool} {D : List Value} (hD : D.length = 7) : (actC d p v wr D).length = 51 := by simp [actC, pcells_length hp, hD]
theorem actC_42 {d : Int} {p : Pt} (hp : p.OK) {v : Value} {wr : Bool} {D : List Value} : (actC d p v wr D)[42]? = some v := by
  have h := pcells_length hp
  unfold actC
  rw [show 42 = 41 + 1 from rfl, List.getElem?_cons_succ, List.getElem?_append_right (by omega), h]
  rfl
theorem actC_43 {d : Int} {p : Pt} (hp : p.OK) {v : Value} {wr : Bool} {D : List Value} : (actC d p v wr D)[43]? = some (.bool wr) := by
  have h := pcells_length hp
  unfold actC
  rw [show 43 = 42 + 1 from rfl, List.getElem?_cons_succ, List.getElem?_append_right (by omega), h]
  rfl
structure SdW (d : Int) (p : Pt) (v : Value) (wr : Bool) (D : List Value) (w W : World) : Prop where
  box : Blk W w.heap.size (actC d p v wr D) 65
  res : ∃ z, z.length = 41 ∧ Blk W (w.heap.size + 1) z 58
  bel : Below w.heap.size w W
section
variable {d : Int} {p : Pt} {v : Value} {wr : Bool} {D : List Value} {w W W' : World}
theorem sdw_start (z : Array Value) (hz : z.size = 41) : SdW d p v wr D w ((w.alloc (.cells (actC d p v wr D).toArray 65)).alloc (.cells z 58)) :=
  ⟨(Blk.new _ _ _).alloc _, ⟨z.toList, by simpa using hz, Blk.new' _ _ _ _ _ (by simp) (by simp)⟩, ((Below.refl _ _).alloc (Nat.le_refl _) _).alloc (by simp) _⟩
theorem SdW.below (h : SdW d p v wr D w W) (hb : Below W.heap.size W W') : SdW d p v wr D w W' := by
  obtain ⟨z, hz, hr⟩ := h.res
  exact ⟨h.box.below hb h.box.lt, ⟨z, hz, hr.below hb hr.lt⟩, h.bel.trans (hb.mono h.bel.size)⟩
theorem SdW.lt (h : SdW d p v wr D w W) : w.heap.size + 2 ≤ W.heap.size := by
  obtain ⟨z, _, hr⟩ := h.res
  exact hr.lt
theorem SdW.over (h : SdW d p v wr D w W) {G : Nat} (hG : w.heap.size + 2 ≤ G) (hb : ButFor G W W') : SdW d p v wr D w W' := by
  obtain ⟨z, hz, hr⟩ := h.res
  exact ⟨hb.blk h.box (by omega), ⟨z, hz, hb.blk hr (by omega)⟩, h.bel.trans (hb.below (by omega) h.bel.size)⟩
end
set_option maxRecDepth 100000 in
set_option maxHeartbeats 4000000 in
theorem sealed_any (d : Int) (p : Pt) (hp : p.OK) (b : Bs) (sp : Option Addr) (n cap : Nat) (hbn : b.length = n) (hn : n < 1000000) (wr : Bool) (D : List Value) (hD : D.length = 7) (w : World) (hS : SrcA w sp b) :
    Calls Tryz.prog 8 #[.agg (actC d p (.slice sp n cap) wr D).toArray] w fun e w' => ∃ v, e = .returned (.tuple #[.agg (pcells (if wr then p else sealP p (d_full b))).toArray, v]) ∧ OwnB w' w.heap.size v (d_full b) ∧ Below w.heap.size w w' := by
  have HP := Lib.hid hp; have HS := Lib.hid hS; have HBN := Lib.hid hbn; have HNN := Lib.hid hn
  have HLA : Hid ((actC d p (.slice sp n cap) wr D).length = 51) := Lib.hid (actC_len hp hD)
  have H42 : Hid ((actC d p (.slice sp n cap) wr D)[42]? = some (.slice sp n cap)) := Lib.hid (actC_42 hp)
  have H43 : Hid ((actC d p (.slice sp n cap) wr D)[43]? = some (.bool wr)) := Lib.hid (actC_43 hp)
  have HLP : Hid ((pcells p).length = 41) := Lib.hid (pcells_length hp)
  have HSP := Lib.hid (size_pc hp)
  have HZP : Hid ((Tryz.prog.info? 58).map (·.size) = some (pcells p).length) := Lib.hid (by rw [sizeP, pcells_length hp])
  have HONE := Lib.hid (one_pc p)
  have HRG : Hid (∀ W g, Blk W g (actC d p (.slice sp n cap) wr D) 65 → W.rangeAt g 1 (pcells p)) := Lib.hid (fun W g hb => hb.rng [.int .u8 d] (pcells p) _ rfl)
  have HST : Hid (∀ z : Array Value, z.size = 41 → SdW d p (.slice sp n cap) wr D w ((w.alloc (.cells (actC d p (.slice sp n cap) wr D).toArray 65)).alloc (.cells z 58))) := Lib.hid (fun z hz => sdw_start z hz)
  clear hp hS hbn hn hD
  generalize hA : actC d p (.slice sp n cap) wr D = A at HLA H42 H43 HRG HST ⊢
  have HA := Lib.hid hA
  clear hA
  go_enter Tryz.func8, Tryz.ntmps8
  go_upto_region 1 with fail
  refine (fun (k : ∀ W, SdW d p (.slice sp n cap) wr D w W → Code.wp _ _ _ _ W) => k _ (HST.out _ rfl)) ?_
  intro W1 hW1
  have HBX : Hid (Blk W1 w.heap.size A 65) := Lib.hid (by have := hW1.box; rw [HA.out] at this; exact this)
  have HW1 := Lib.hid hW1
  clear hW1 HST
  go_wp2_with (first | (refine wpL_val rfl (q_ldB rfl rfl (HBX.out.cell H42.out)) ?_) | fail)
  refine (full_any b sp n cap HBN.out HNN.out W1 (HS.out.below HW1.out.bel (Nat.le_refl _))).mono ?_
  rintro e W2 ⟨v, rfl, ho, hb⟩
  obtain ⟨sp2, cap2, e2, q1, q2, q3, q4, q5⟩ := OwnB.form ho
  rw [full_length] at e2 q1
  have HW2 := Lib.hid (HW1.out.below hb)
  have HB2 : Hid (Blk W2 w.heap.size A 65) := Lib.hid (by have := HW2.out.box; rw [HA.out] at this; exact this)
  have HO2 : Hid (OwnB W2 w.heap.size v (d_full b)) := Lib.hid (ho.mono HW1.out.bel.size)
  have HQ3 := Lib.hid q3
  have HQ4 := Lib.hid q4
  have HQ5 : Hid (∀ g, (Value.slice sp2 512 cap2).ownBlock = some g → w.heap.size + 2 ≤ g ∧ g < W2.heap.size) := Lib.hid (fun g hg => by
    cases sp2 with
    | none => cases hg
    | some a =>
      have h5 := q5 a rfl
      have e : a.block = g := by simpa [Value.ownBlock] using hg
      have := HW1.out.lt
      omega)
  subst e2
  clear ho hb q1 q2 q3 q4 q5 HBX HW1
  have HL2 : Hid (w.heap.size + 2 ≤ W2.heap.size) := Lib.hid HW2.out.lt
  have HROW : Hid (∀ Z : Array Value, Blk ((W2.alloc (.cells Z 58)).setRow W2.heap.size (pcells p).toArray) W2.heap.size (pcells p) 58) := Lib.hid (fun Z => (Blk.new' W2 Z Z.toList _ _ rfl (by simp)).row _)
  go_upto_region 3 with (first | (refine wpL_val rfl (ex_ld (ty := 58) (cs := pcells p) rfl rfl (HRG.out _ _ HB2.out) Tryz.underlying58 rfl HZP.out) ?_) | (refine wpList_store_row rfl 58 (.tmp 5) (.tmp 10) rfl W2.heap.size _ rfl rfl 58 _ (heap_alloc_new _ _) HSP.out (by show 41 = (pcells p).toArray.size; rw [List.size_toArray, HLP.out]) HONE.out ?_) | fail)
  refine (fun (k : ∀ W, Blk W W2.heap.size (pcells p) 58 → Below W2.heap.size W2 W → Code.wp _ _ _ _ W) => k _ (HROW.out _) (below_row ((Below.refl _ _).alloc (Nat.le_refl _) _) (Nat.le_refl _) _)) ?_
  intro W3 hp3 hb3
  have HW3 := Lib.hid (HW2.out.below hb3)
  have HB3 : Hid (Blk W3 w.heap.size A 65) := Lib.hid (by have := HW3.out.box; rw [HA.out] at this; exact this)
  have HO3 : Hid (OwnB W3 w.heap.size (.slice sp2 512 cap2) (d_full b)) := Lib.hid (owns_chg HO2.out (Chg.of_below (F := fun _ => False) hb3) (fun _ _ h => h))
  have HS3 := Lib.hid (HQ3.out.below hb3 (Nat.le_refl _))
  have HP3 := Lib.hid hp3
  have c43 := HB3.out.cell H43.out
  clear hp3 hb3 HW2 HB2 HO2 HQ3 HROW
  generalize W2.heap.size = G at HL2 HP3 HQ5 ⊢
  obtain ⟨z, hz, hr⟩ := HW3.out.res
  have HR3 := Lib.hid hr
  have HZ3 : Hid (z.toArray.size = (pcells p).toArray.size) := Lib.hid (by rw [List.size_toArray, List.size_toArray, HLP.out, hz])
  have HZ := Lib.hid hz
  clear hz hr
  cases wr with
  | true =>
    go_wp2_with (first | (refine wpL_val rfl (ex_ld (ty := 58) (cs := pcells p) rfl rfl (rng_all HP3.out) Tryz.underlying58 rfl HZP.out) ?_) | (refine wpList_store_row rfl 58 (.tmp 2) (.tmp 18) rfl (w.heap.size + 1) _ rfl rfl 58 _ HR3.out HSP.out HZ3.out HONE.out ?_) | fail)
    refine bodyPost_ret (results_two8 Tryz.results8 _ _ (w.heap.size + 1) 58 (pcells p) rfl (HR3.out.row _) Tryz.underlying58 HZP.out) rfl ⟨_, rfl, ?_, below_row HW3.out.bel (by omega) _⟩
    exact owns_chg HO3.out (F := fun k => k = w.heap.size + 1) (Chg.setRow (F := fun k => k = w.heap.size + 1) (Chg.refl _ _) (.inl rfl) _) (fun g hg e => by have := HQ5.out g hg; omega)
  | false =>
    have hdg := qdigest_any p HP.out (d_full b) sp2 cap2 W3 (by rw [full_length]; omega) HQ4.out HS3.out
    rw [full_length] at hdg
    have HDG := Lib.hid hdg
    clear hdg
    go_wp2_with (first | (refine wpL_val rfl (ex_ld (ty := 58) (cs := pcells p) rfl rfl (rng_all HP3.out) Tryz.underlying58 rfl HZP.out) ?_) | fail)
    refine HDG.out.mono ?_
    rintro e W4 ⟨rfl, hb4⟩
    have hG : G < W3.heap.size := HP3.out.lt
    have HP4 := Lib.hid (HP3.out.below hb4 hG)
    have HTH : Hid (W4.there G 5 ((digest (tagB p ++ d_full b)).map V8).toArray.size) := Lib.hid (HP4.out.there 5 _ (by simp [digest_length, HLP.out]))
    have HSD := Lib.hid (size24d (tagB p ++ d_full b))
    have hp5 := blk_setCells G 58 ((digest (tagB p ++ d_full b)).map V8) 5 W4 _ HP4.out (by simp [digest_length, HLP.out])
    rw [pc_hash HP.out _ (digest_length _)] at hp5
    have hb5 : ButFor G W4 (W4.setCells G 5 ((digest (tagB p ++ d_full b)).map V8)) := (ButFor.refl _ _).sets _ _ _
    have HW5 := Lib.hid ((HW3.out.below hb4).over HL2.out hb5)
    have HO5 : Hid (OwnB (W4.setCells G 5 ((digest (tagB p ++ d_full b)).map V8)) w.heap.size (.slice sp2 512 cap2) (d_full b)) := Lib.hid (owns_chg (owns_chg HO3.out (Chg.of_below (F := fun _ => False) hb4) (fun _ _ h => h)) (F := fun k => k = G) ⟨hb5.os, hb5.tape, hb5.output, hb5.size, hb5.block⟩ (fun g hg e => by have := HQ5.out g hg; omega))
    have HP5 : Hid (Blk (W4.setCells G 5 ((digest (tagB p ++ d_full b)).map V8)) G (pcells (sealP p (d_full b))) 58) := Lib.hid hp5
    obtain ⟨W5, hW5⟩ : ∃ W5, W4.setCells G 5 ((digest (tagB p ++ d_full b)).map V8) = W5 := ⟨_, rfl⟩
    rw [hW5] at HW5 HO5 HP5
    have HWW : Hid (W4.setCells G 5 ((digest (tagB p ++ d_full b)).map V8).toArray.toList = W5) := Lib.hid hW5
    obtain ⟨z5, hz5, hr5⟩ := HW5.out.res
    have HLS : Hid ((pcells (sealP p (d_full b))).length = 41) := Lib.hid (pcells_length (sealP_ok HP.out _))
    have HSPs := Lib.hid (size_pc (sealP_ok HP.out (d_full b)))
    have HONEs := Lib.hid (one_pc (sealP p (d_full b)))
    have HZPs : Hid ((Tryz.prog.info? 58).map (·.size) = some (pcells (sealP p (d_full b))).length) := Lib.hid (by rw [sizeP, HLS.out])
    have HR5 := Lib.hid hr5
    have HZ5 : Hid (z5.toArray.size = (pcells (sealP p (d_full b))).toArray.size) := Lib.hid (by rw [List.size_toArray, List.size_toArray, HLS.out, hz5])
    clear hG hp5 hb5 hW5 hr5 hz5 hb4 HO3 HW3 HP3 HB3 HR3
    go_wp2_with (first | (refine wpList_store_mid rfl 55 (.tmp 17) (.tmp 16) rfl G 5 _ rfl rfl HTH.out HSD.out (one_ints V8 (fun _ => rfl) _) ?_; rw [HWW.out]) | (refine wpL_val rfl (ex_ld (ty := 58) (cs := pcells (sealP p (d_full b))) rfl rfl (rng_all HP5.out) Tryz.underlying58 rfl HZPs.out) ?_) | (refine wpList_store_row rfl 58 (.tmp 2) (.tmp 18) rfl (w.heap.size + 1) _ rfl rfl 58 _ HR5.out HSPs.out HZ5.out HONEs.out ?_) | fail)
    refine bodyPost_ret (results_two8 Tryz.results8 _ _ (w.heap.size + 1) 58 (pcells (sealP p (d_full b))) rfl (HR5.out.row _) Tryz.underlying58 HZPs.out) rfl ⟨_, rfl, ?_, below_row HW5.out.bel (by omega) _⟩
    exact owns_chg HO5.out (F := fun k => k = w.heap.size + 1) (Chg.setRow (F := fun k => k = w.heap.size + 1) (Chg.refl _ _) (.inl rfl) _) (fun g hg e => by have := HQ5.out g hg; omega)
end Go.Proofs.YtmgagalhpkieoaaGreatDoor
/- What the rows need: bytes that came in, opened. -/
namespace Go.Proofs.YtmgagalhpkieoaaGreatDoor
open Go.ChangeShapes Go.WideShapes Go.ChangeAt Go.RowKit

theorem own : ownKnob Tryz.prog.godebug = none := by kernel_rfl
theorem laidOut : laidOutB Tryz.prog = true := by kernel_rfl
theorem cellsB : Tryz.prog.cellsOf 5 = 1 := by kernel_rfl
theorem lt_of_cell {w : World} {g o : Nat} {v : Value} (h : w.cell? ⟨g, o, none⟩ = some v) : g < w.heap.size := by
  rcases Nat.lt_or_ge g w.heap.size with h1 | h1
  · exact h1
  · simp [World.cell?, Array.getElem?_eq_none h1] at h
end Go.Proofs.YtmgagalhpkieoaaGreatDoor
/- Acts that came in. -/
namespace Go.Proofs.YtmgagalhpkieoaaGreatDoor
open Go.ChangeShapes Go.WideShapes Go.ChangeAt Go.RowKit Go.Deep

structure Ac where
  act : Nat
  d : Nat
  addr : Nat
  b : d_Bs
  spb : Option Addr
  capb : Nat
  short : Bool
  n : Int
  z : List Int
  spz : Option Addr
  capz : Nat
instance : Inhabited Ac := ⟨⟨0, 0, 0, [], none, 0, false, 0, [], none, 0⟩⟩
def Ac.cell (a : Ac) : Nat → Value
  | 0 => .int .u8 (a.act : Int)
  | 1 => .int .u8 (a.d : Int)
  | 2 => .int .u16 (a.addr : Int)
  | 3 => .slice a.spb a.b.length a.capb
  | 4 => .bool a.short
  | 5 => .int .i64 a.n
  | _ => .slice a.spz a.z.length a.capz
structure AcOK (w : World) (a : Ac) : Prop where
  act : a.act < 256
  d : a.d < 256
  addr : a.addr < 65536
  b : SrcA w a.spb a.b
  cb : a.b.length ≤ a.capb
  mb : a.capb ≤ maxLen
  n1 : -9223372036854775808 ≤ a.n
  n2 : a.n ≤ 9223372036854775807
  z : SrcI w a.spz a.z
  cz : a.z.length ≤ a.capz
  mz : a.capz ≤ maxLen
  zb : a.spb = none → a.capb = 0
theorem SrcI.below {w W : World} {sp : Option Addr} {zs : List Int} (h : SrcI w sp zs) {B : Nat} (hb : Below B w W) (hB : w.heap.size ≤ B) : SrcI W sp zs :=
  ⟨h.1, fun h0 => by
    obtain ⟨g, o, rfl, hg, hc⟩ := h.2 h0
    exact ⟨g, o, rfl, Nat.lt_of_lt_of_le hg hb.size, fun j hj => (hb.cell (p := ⟨g, o + j, none⟩) (Nat.lt_of_lt_of_le hg hB)).trans (hc j hj)⟩⟩
theorem AcOK.below {w W : World} {a : Ac} (h : AcOK w a) {B : Nat} (hb : Below B w W) (hB : w.heap.size ≤ B) : AcOK W a :=
  ⟨h.act, h.d, h.addr, h.b.below hb hB, h.cb, h.mb, h.n1, h.n2, h.z.below hb hB, h.cz, h.mz, h.zb⟩
def ActsAt (w : World) (sp : Option Addr) (l : List Ac) : Prop :=
  (∀ a ∈ l, AcOK w a) ∧ (0 < l.length → ∃ g o, sp = some ⟨g, o, none⟩ ∧ g < w.heap.size ∧ ∀ i a, l[i]? = some a → ∀ j, j < 7 → w.cell? ⟨g, o + i * 7 + j, none⟩ = some (a.cell j))
theorem cells43 : Tryz.prog.cellsOf 61 = 1 := by kernel_rfl
theorem cells42 : Tryz.prog.cellsOf 59 = 1 := by kernel_rfl
theorem cells41 : Tryz.prog.cellsOf 52 = 1 := by kernel_rfl
theorem cells4 : Tryz.prog.cellsOf 4 = 1 := by kernel_rfl
theorem cells3 : Tryz.prog.cellsOf 3 = 1 := by kernel_rfl

section
variable {H : Type} {enc : TypeId × Value → H} {W : World} {spare : Nat → Bool} {held : Bool} {b' : Nat}
theorem field_bytes {v : Value} {n : Nat} {x : DataW H × List MemPlace} (hf : DataW.trod enc Tryz.prog W b' spare held n 59 [v] = some x) :
    ∃ (l : d_Bs) (sp : Option Addr) (cap : Nat), v = .slice sp l.length cap ∧ l.length ≤ cap ∧ cap ≤ maxLen ∧ SrcA W sp l ∧ (sp = none → cap = 0) := by
  rcases open_ints Tryz.underlying59 Tryz.underlying5 cellsB hf with ⟨hcs, hx⟩ | ⟨a, len, cap, zs, hcs, _, hl, hm, hz, hx, hcell, hwz⟩
  · simp at hcs
    exact ⟨[], none, 0, hcs, by simp, by unfold maxLen; omega, SrcA.nil _ _, fun _ => rfl⟩
  · simp at hcs
    have hlz : len ≤ zs.length := by rw [hz]; split <;> omega
    have hlen : ((zs.take len).map (fun m => BitVec.ofNat 8 m.toNat)).length = len := by simp; omega
    refine ⟨(zs.take len).map (fun m => BitVec.ofNat 8 m.toNat), some a, cap, by rw [hlen]; exact hcs, by omega, hm, fun h0 => ?_, fun h0 => by cases h0⟩
    rw [hlen] at h0
    obtain ⟨g, o, rfl, hc⟩ := ints_at hcell (by omega)
    have hcl : ∀ j, j < len → W.cell? ⟨g, o + j, none⟩ = some (V8 (((zs.take len).map (fun m => BitVec.ofNat 8 m.toNat)).getD j 0)) := fun j hj => by
      have hj' : j < zs.length := by omega
      have hb := bounds_u8 (hwz _ (List.getElem_mem hj'))
      rw [hc j hj']
      simp only [List.getD_eq_getElem?_getD, List.getElem?_map, List.getElem?_take, if_pos hj, List.getElem?_eq_getElem hj', Option.map_some, Option.getD_some, V8, N8, BitVec.toNat_ofNat]
      congr 2
      omega
    exact ⟨g, o, rfl, lt_of_cell (hc 0 (by omega)), fun j hj => hcl j (by rw [hlen] at hj; exact hj)⟩
theorem field_ints {v : Value} {n : Nat} {x : DataW H × List MemPlace} (hf : DataW.trod enc Tryz.prog W b' spare held n 61 [v] = some x) :
    ∃ (l : List Int) (sp : Option Addr) (cap : Nat), v = .slice sp l.length cap ∧ l.length ≤ cap ∧ cap ≤ maxLen ∧ SrcI W sp l := by
  rcases open_ints Tryz.underlying61 Tryz.underlying3 cells3 hf with ⟨hcs, hx⟩ | ⟨a, len, cap, zs, hcs, _, hl, hm, hz, hx, hcell, hwz⟩
  · simp at hcs
    exact ⟨[], none, 0, hcs, by simp, by unfold maxLen; omega, fun z hz => by simp at hz, fun h => by simp at h⟩
  · simp at hcs
    have hlz : len ≤ zs.length := by rw [hz]; split <;> omega
    have hlen : (zs.take len).length = len := by simp; omega
    refine ⟨zs.take len, some a, cap, by rw [hlen]; exact hcs, by omega, hm, fun z hz' => (bounds_i64 (hwz _ (List.mem_of_mem_take hz'))).2, fun h0 => ?_⟩
    rw [hlen] at h0
    obtain ⟨g, o, rfl, hc⟩ := ints_at hcell (by omega)
    refine ⟨g, o, rfl, lt_of_cell (hc 0 (by omega)), fun j hj => ?_⟩
    rw [hlen] at hj
    have hj' : j < zs.length := by omega
    rw [hc j hj']
    simp [List.getD_eq_getElem?_getD, List.getElem?_take, hj, hj']
end
end Go.Proofs.YtmgagalhpkieoaaGreatDoor
/- Acts: whether they are great, an act's bytes; a crash whose picks came in. -/
namespace Go.Proofs.YtmgagalhpkieoaaGreatDoor
open Go.RowKit

def big (a : Ac) : Bool := decide (600 < a.b.length) || decide (200 < a.z.length)
def great (l : List Ac) : Bool := decide (100 < l.length) || l.any big
theorem any_drop {l : List Ac} {k : Nat} {a : Ac} (h : l[k]? = some a) : (l.drop k).any big = (big a || (l.drop (k + 1)).any big) := by
  obtain ⟨h1, h2⟩ := List.getElem?_eq_some_iff.1 h
  rw [List.drop_eq_getElem_cons h1, List.any_cons, h2]
def GrRel (l : List Ac) (w : World) (i : Value) (wr : World) : Prop := ∃ k : Nat, k ≤ l.length ∧ i = .int .i64 (k : Int) ∧ (l.drop k).any big = l.any big ∧ wr = w
set_option maxRecDepth 100000 in
set_option maxHeartbeats 1000000 in
theorem great_any (l : List Ac) (sp : Option Addr) (n cap : Nat) (hn : l.length = n) (hc : n ≤ cap) (hm : cap ≤ maxLen) (w : World) (h : ActsAt w sp l) : Calls Tryz.prog 30 #[.slice sp n cap] w fun e w' => e = .returned (.bool (great l)) ∧ w = w' := by
  have HN := Lib.hid hn
  by_cases h1 : (100 : Int) < (n : Int)
  · go_enter Tryz.func30, Tryz.ntmps30
    go_wp2_with fail
    go_ret
    refine ⟨?_, rfl⟩
    unfold great
    rw [decide_eq_true (by omega : 100 < l.length)]
    rfl
  · have hn100 : n ≤ 100 := by omega
    have HA := Lib.hid h
    clear h hn
    go_enter Tryz.func30, Tryz.ntmps30
    go_wp2_with fail
    have HR := Lib.hid (show GrRel l w (.int .i64 0) w from ⟨0, Nat.zero_le _, rfl, by simp, rfl⟩)
    go_loopw [3] (fun i wr => GrRel l w i wr) (fun i _ => n - (intOf i).toNat)
    case atStart => exact HR.out
    case round =>
      clear HR
      obtain ⟨k, hk, rfl, hany, rfl⟩ := hrel
      have HANY := Lib.hid hany
      rw [HN.out] at hk
      clear hany
      have hwk := IntWalk.i64_in ((k : Int) + 1) (by omega)
      by_cases hlt : k < n
      · have hkL : k < l.length := by have := HN.out; omega
        obtain ⟨a, ha⟩ : ∃ a, l[k]? = some a := ⟨_, List.getElem?_eq_getElem hkL⟩
        obtain ⟨g, o, rfl, hg, hcl⟩ := HA.out.2 (by omega)
        have c3 := hcl k a ha 3 (by omega)
        have c6 := hcl k a ha 6 (by omega)
        simp only [Ac.cell] at c3 c6
        have HX := Lib.hid ha
        clear hcl ha hkL hg
        by_cases hb : (600 : Int) < (a.b.length : Int)
        · go_wp2_with fail
          go_ret
          refine ⟨?_, rfl⟩
          have e : big a = true := by unfold big; rw [decide_eq_true (by omega : 600 < a.b.length)]; rfl
          unfold great
          rw [← HANY.out, any_drop HX.out, e]
          simp
        · by_cases hz : (200 : Int) < (a.z.length : Int)
          · go_wp2_with fail
            go_ret
            refine ⟨?_, rfl⟩
            have e : big a = true := by unfold big; rw [decide_eq_true (by omega : 200 < a.z.length)]; simp
            unfold great
            rw [← HANY.out, any_drop HX.out, e]
            simp
          · have e : big a = false := by unfold big; rw [decide_eq_false (by omega : ¬ 600 < a.b.length), decide_eq_false (by omega : ¬ 200 < a.z.length)]; rfl
            have HE := Lib.hid e
            clear e
            go_wp2_with fail
            go_roundw
            case rel => exact ⟨k + 1, by have := HN.out; omega, by go_num, by rw [← HANY.out, any_drop HX.out, HE.out]; rfl, rfl⟩
            case measure => simp [intOf]; omega
      · obtain rfl : k = n := by omega
        clear hk
        go_wp2_with fail
        go_ret
        refine ⟨?_, rfl⟩
        unfold great
        rw [← HANY.out, List.drop_of_length_le (by rw [HN.out]; exact Nat.le_refl _), decide_eq_false (by rw [HN.out]; omega)]
        rfl
theorem SrcI.chg2 {F : Nat → Prop} {w w' : World} {sp : Option Addr} {zs : List Int} (h : SrcI w sp zs) (hc : Chg F w w') (hn : 0 < zs.length → ∀ a, sp = some a → ¬ F a.block) : SrcI w' sp zs :=
  ⟨h.1, fun h0 => by
    obtain ⟨g, o, rfl, hg, hcl⟩ := h.2 h0
    exact ⟨g, o, rfl, Nat.lt_of_lt_of_le hg hc.size, fun j hj => (World.cell?_of_block (w := w) (hc.block g hg (hn h0 _ rfl))).trans (hcl j hj)⟩⟩
set_option maxRecDepth 100000 in
set_option maxHeartbeats 1000000 in
theorem crash_any2 (D Q : Nat) (S : Nat → Prop) (s : Dsk) (zs : List Int) (sp : Option Addr) (n cap : Nat) (w : World) (h : DkAt w D Q S s) (hcn : s.cache.length < 1000000) (hz : SrcI w sp zs) (hzn : zs.length = n) (hc : n ≤ cap) (hm : cap ≤ maxLen) (hsp : 0 < zs.length → ∀ a, sp = some a → ¬ S a.block) :
    Calls Tryz.prog 26 #[.pointer (some ⟨D, 0, none⟩), .slice sp n cap] w fun e w' => e = .returned (.tuple #[]) ∧ DkAt w' D Q S (crashed s zs) ∧ Chg S w w' := by
  have H := Lib.hid h
  have HCN := Lib.hid hcn
  have HZ := Lib.hid hz
  have HSP := Lib.hid hsp
  have HZN := Lib.hid hzn
  have HM := Lib.hid hm
  clear h hcn hz hsp hzn hm
  unfold crashed
  by_cases hd : s.dead = true
  · rw [hd]
    simp only [if_true]
    go_enter Tryz.func26, Tryz.ntmps26
    go_wp2_with (first | (go_at_call 27; refine (dead_any D Q S s _ (H.out.chg (Chg.of_below ((Below.refl _ _).alloc (Nat.le_refl _) _)) (fun _ _ => id))).mono ?_; rw [hd]; rintro e w' ⟨rfl, rfl⟩) | fail)
    refine bodyPost_ret (results_none rfl _ _ _) rfl ?_
    have hc1 : Chg (fun _ => False) w (w.alloc (.cells #[.slice sp n cap] 61)) := Chg.of_below ((Below.refl _ _).alloc (Nat.le_refl _) _)
    exact ⟨rfl, H.out.chg hc1 (fun _ _ h => h), hc1.mono (fun _ h => h.elim)⟩
  · have hd' : s.dead = false := by simpa using hd
    rw [hd']
    simp only [Bool.false_eq_true, if_false]
    clear hd
    have hc1 : Chg (fun _ => False) w (w.alloc (.cells #[.slice sp n cap] 61)) := Chg.of_below ((Below.refl _ _).alloc (Nat.le_refl _) _)
    have H1 := Lib.hid (H.out.chg hc1 (fun _ _ h => h))
    have HX := Lib.hid (show (w.alloc (.cells #[.slice sp n cap] 61)).cell? ⟨w.heap.size, 0, none⟩ = some (.slice sp n cap) from (Blk.new w [.slice sp n cap] 61).cell rfl)
    have HZ1 := Lib.hid (HZ.out.chg hc1 (fun _ _ h => h))
    have HC1 := Lib.hid hc1
    clear hc1
    go_enter Tryz.func26, Tryz.ntmps26
    go_wp2_with (first | (go_at_call 27; refine (dead_any D Q S s _ H1.out).mono ?_; rw [hd']; rintro e w' ⟨rfl, rfl⟩) | fail)
    have hK0 : SrcI (w.alloc (.cells #[.slice sp n cap] 61)) sp zs ∧ (w.alloc (.cells #[.slice sp n cap] 61)).cell? ⟨w.heap.size, 0, none⟩ = some (.slice sp zs.length cap) ∧ w.heap.size < (w.alloc (.cells #[.slice sp n cap] 61)).heap.size := by
      rw [HZN.out]
      exact ⟨HZ1.out, HX.out, by simp⟩
    refine (settle_any D Q S s _ 69 #[.pointer (some ⟨w.heap.size, 0, none⟩)] (fun W => SrcI W sp zs ∧ W.cell? ⟨w.heap.size, 0, none⟩ = some (.slice sp zs.length cap) ∧ w.heap.size < W.heap.size) (pickOf zs) H1.out HCN.out hK0 (fun W W' hk hc => ⟨hk.1.chg2 hc HSP.out, (World.cell?_of_block (w := W) (hc.block _ hk.2.2 (fun hs => Nat.lt_irrefl _ (H.out.lt _ hs)))).trans hk.2.1, Nat.lt_of_lt_of_le hk.2.2 hc.size⟩) (pickOf_bounds zs) cf45 (fun i W hi hk => pick_any zs sp cap w.heap.size i (by rw [HZN.out]; exact hc) HM.out hi W hk.1 hk.2.1)).mono ?_
    rintro e w2 ⟨rfl, ⟨M, v, tov, hd2⟩, hc2⟩
    have c5 := hd2.c.2.2.2.2.2.1
    have c6 := hd2.c.2.2.2.2.2.2.1
    have f5 := hd2.blk.free 5
    have f6 := hd2.blk.free 6
    have HD2 := Lib.hid hd2
    have HC2 := Lib.hid hc2
    clear hd2 hc2
    go_wp2_with fail
    go_end0
    have h1 := crash_off HD2.out
    rw [hd'] at h1
    exact ⟨rfl, h1, ((HC1.out.mono (fun _ h => h.elim)).trans' HC2.out).trans' ((chgD HD2.out.sd 5 _).trans' (chgD HD2.out.sd 6 _))⟩
end Go.Proofs.YtmgagalhpkieoaaGreatDoor
