/- The document's bytes of a pointer. -/
import Derived.Test.YtecngehkdjmjmaaDoorM05
import Derived.Test.YtecngehkdjmjmaaDoorM04
import Derived.Deep.DeepCutAuto
import Derived.Test.YtecngehkdjmjmaaDoorM06
namespace Go.Proofs.YtecngehkdjmjmaaDoor
open Go.RowKit

theorem take_oneB {l : Bs} {k : Nat} {x : BitVec 8} (h : l[k]? = some x) : l.take (k + 1) = l.take k ++ [x] := by
  obtain ⟨h2, h3⟩ := List.getElem?_eq_some_iff.1 h
  rw [List.take_succ_eq_append_getElem h2, h3]
/-- While the document's Bytes goes. -/
def QbRel (p : Pt) (w : World) (v : Value) (l : Bs) (wr : World) : Prop := OwnB wr (w.heap.size + 1) v l ∧ Below w.heap.size w wr ∧ Blk wr w.heap.size (pcells p) 28
theorem QbRel.next {p : Pt} {w wr w' : World} {v v' : Value} {l l' : Bs} (h : QbRel p w v l wr) (ho : OwnB w' (w.heap.size + 1) v' l') (hb : Below (w.heap.size + 1) wr w') : QbRel p w v' l' w' :=
  have h1 := h.2.2.lt
  ⟨ho, h.2.1.trans (hb.mono (by omega)), h.2.2.below hb (by omega)⟩
/-- A number more. -/
theorem QbRel.num {p : Pt} {w wr w4 : World} {v u : Value} {l : Bs} {n k : Nat} (h : QbRel p w v l wr) (hl : l.length ≤ 100) (hk : k ≤ 8) (ho4 : OwnB w4 wr.heap.size u (leb n k)) (hb4 : Below wr.heap.size wr w4) :
    ∃ sp n' c v5 w5, (∃ sp4 cap4, u = .slice sp4 k cap4) ∧ v5 = .slice sp n' c ∧ (∀ ty, (Builtin.append_ #[38, 38] ty #[v, u]).run Tryd.prog w4 = .ok v5 w5) ∧ QbRel p w v5 (l ++ leb n k) w5 := by
  obtain ⟨sp4, cap4, e4, q1, q2, q3, q4, q5⟩ := OwnB.form ho4
  rw [leb_length] at e4
  subst e4
  have h1 := h.2.2.lt
  obtain ⟨v5, w5, hr5, ho5, hb5⟩ := ownB_src (m := leb n k) (h.1.below hb4 (Nat.le_refl _)) (by have := hb4.size; omega) (by rw [leb_length]; omega) q3 q4 38
  rw [leb_length] at hr5
  obtain ⟨sp, c, e, _⟩ := OwnB.form ho5
  exact ⟨sp, _, c, v5, w5, ⟨_, _, rfl⟩, e, fun _ => hr5, h.next ho5 ((hb4.mono (by omega)).trans hb5)⟩
theorem qb_start {p : Pt} (hp : p.OK) (w : World) : QbRel p w (.slice (some ⟨w.heap.size + 1, 0, none⟩) 2 2) (leb p.kind 1 ++ leb p.level 1) ((w.alloc (.cells (pcells p).toArray 28)).alloc (.cells #[.int .u8 (p.kind : Int), .int .u8 (p.level : Int)] 5)) := by
  have h : Blk ((w.alloc (.cells (pcells p).toArray 28)).alloc (.cells #[.int .u8 (p.kind : Int), .int .u8 (p.level : Int)] 5)) (w.heap.size + 1) [V8 (lb p.kind 0), V8 (lb p.level 0)] 5 := Blk.new' _ _ _ _ _ (by simp) (by rw [u8_cell hp.kind, u8_cell hp.level])
  have ho := h.owns (base := w.heap.size + 1) (n := 2) (Nat.le_refl _) (Nat.le_refl _) (by unfold maxLen; simp)
  exact ⟨ho, ((Below.refl _ _).alloc (Nat.le_refl _) _).alloc (by simp) _, (Blk.new _ _ _).alloc _⟩
set_option maxRecDepth 100000 in
set_option maxHeartbeats 8000000 in
theorem qbytes_any (p : Pt) (hp : p.OK) (w : World) : Calls Tryd.prog 32 #[.agg (pcells p).toArray] w fun e w' => ∃ v, e = .returned v ∧ OwnB w' w.heap.size v (padB p) ∧ Below w.heap.size w w' := by
  have HP := Lib.hid hp
  have HG0 : Hid (Blk (w.alloc (.cells (pcells p).toArray 28)) w.heap.size (pcells p) 28) := Lib.hid (Blk.new _ _ _)
  have cK := HG0.out.cell (j := 0) rfl
  have cL := HG0.out.cell (j := 1) rfl
  have b1 := hp.obj; have b2 := hp.off; have b3 := hp.birth
  have HB1 := Lib.hid b1; have HB2 := Lib.hid b2; have HB3 := Lib.hid b3
  clear hp b1 b2 b3
  go_enter Tryd.func32, Tryd.ntmps32
  go_upto_region 2 with fail
  refine (fun (k : ∀ W1, QbRel p w (.slice (some ⟨w.heap.size + 1, 0, none⟩) 2 2) (leb p.kind 1 ++ leb p.level 1) W1 → Code.wp _ _ _ _ W1) => k _ (qb_start HP.out w)) ?_
  intro W1 hR1
  have HR1 := Lib.hid hR1
  clear cK cL HG0 hR1
  have c1 : W1.cell? ⟨w.heap.size, 2, none⟩ = some (.int .u16 (p.obj : Int)) := HR1.out.2.2.cell rfl
  have e1 := u64_in p.obj (by have := HB1.out; omega)
  go_wp2_with fail
  refine (wNum_any p.obj 2 W1 (by omega) (by have := HB1.out; omega)).mono ?_
  rintro e w2 ⟨u2, rfl, ho2, hb2⟩
  obtain ⟨sp2, n2, k2, v3, w3, ⟨_, _, rfl⟩, rfl, hr3, hq3⟩ := HR1.out.num (by simp [leb_length]) (by omega) ho2 hb2
  have HA2 := Lib.hid hr3; have HR2 := Lib.hid hq3
  clear ho2 hb2 hr3 hq3 HR1 c1 e1
  have c2 : w3.cell? ⟨w.heap.size, 3, none⟩ = some (.int .u32 (p.off : Int)) := HR2.out.2.2.cell rfl
  have e2 := u64_in p.off (by have := HB2.out; omega)
  go_wp2_with (first | (at_builtin; refine wpL_val rfl (ex_appB rfl rfl rfl (HA2.out _)) ?_) | fail)
  refine (wNum_any p.off 4 w3 (by omega) (by have := HB2.out; omega)).mono ?_
  rintro e w4 ⟨u4, rfl, ho4, hb4⟩
  obtain ⟨sp4, n4, k4, v5, w5, ⟨_, _, rfl⟩, rfl, hr5, hq5⟩ := HR2.out.num (by simp [leb_length]) (by omega) ho4 hb4
  have HA3 := Lib.hid hr5; have HR3 := Lib.hid hq5
  clear ho4 hb4 hr5 hq5 HR2 HA2 c2 e2
  have c3 : w5.cell? ⟨w.heap.size, 4, none⟩ = some (.int .u64 (p.birth : Int)) := HR3.out.2.2.cell rfl
  go_wp2_with (first | (at_builtin; refine wpL_val rfl (ex_appB rfl rfl rfl (HA3.out _)) ?_) | fail)
  refine (wNum_any p.birth 8 w5 (by omega) HB3.out).mono ?_
  rintro e w6 ⟨u6, rfl, ho6, hb6⟩
  obtain ⟨sp6, n6, k6, v7, w7, ⟨_, _, rfl⟩, rfl, hr7, hq7⟩ := HR3.out.num (by simp [leb_length]) (by omega) ho6 hb6
  have HA4 := Lib.hid hr7
  have HR4 : Hid (QbRel p w (.slice sp6 n6 k6) (tagB p ++ p.hash.take 0) w7) := Lib.hid (by simpa [tagB] using hq7)
  clear ho6 hb6 hr7 hq7 HR3 HA3 c3
  go_wp2_with (first | (at_builtin; refine wpL_val rfl (ex_appB rfl rfl rfl (HA4.out _)) ?_) | fail)
  go_loopw [3, 4] (fun v i wr => ∃ k : Nat, k ≤ 32 ∧ i = .int .i64 (k : Int) ∧ QbRel p w v (tagB p ++ p.hash.take k) wr) (fun _ i _ => 32 - (intOf i).toNat)
  case atStart => exact ⟨0, by omega, rfl, HR4.out⟩
  case round =>
    clear HR4 HA4
    obtain ⟨k, hk, rfl, hR⟩ := hrel
    have HR := Lib.hid hR
    obtain ⟨sp, cap, rfl, -⟩ := OwnB.form hR.1
    have hgl := hR.2.2
    have hgs := hgl.lt
    have wk1 := IntWalk.i64_in ((k : Int) + 1) (by omega)
    clear hR
    by_cases hlt : k < 32
    · obtain ⟨x, hx⟩ : ∃ x, p.hash[k]? = some x := ⟨_, List.getElem?_eq_getElem (by have := HP.out.hash; omega)⟩
      have cx := cell_hash hgl hx
      have hz : Below wr.heap.size wr (wr.alloc (.cells #[V8 x] 5)) := (Below.refl _ _).alloc (Nat.le_refl _) _
      obtain ⟨v3, w3, hr3, ho3, hb3⟩ := ownB_app (m := [x]) (HR.out.1.below hz (Nat.le_refl _)) (by have := hz.size; omega) (by simp [tagB_length]; omega) (g := wr.heap.size) (off := 0) (c := 1) (rng_all (Blk.new wr [V8 x] 5)) 38
      obtain ⟨sp3, n3, cap3, rfl⟩ : ∃ sp n c, v3 = .slice sp n c := by
        obtain ⟨sp, c, e, _⟩ := OwnB.form ho3
        exact ⟨sp, _, c, e⟩
      have HR3 := Lib.hid hr3
      have HN := Lib.hid (show QbRel p w (.slice sp3 n3 cap3) (tagB p ++ p.hash.take (k + 1)) w3 from HR.out.next (by rw [take_oneB hx, ← List.append_assoc]; exact ho3) ((hz.mono (by omega)).trans hb3))
      clear hx hgl hr3 ho3 hb3 hz HR
      go_wp2_with (first | (at_builtin; refine wpL_val rfl (ex_appB rfl rfl rfl HR3.out) ?_) | fail)
      go_roundw
      case rel => exact ⟨k + 1, by omega, by go_num, HN.out⟩
      case measure => simp [intOf]; omega
    · have em : (k : Int) = 32 := by omega
      rw [em]
      obtain rfl : k = 32 := by omega
      clear em
      have e32 : p.hash.take 32 = p.hash := List.take_of_length_le (by have := HP.out.hash; omega)
      have HR2 : Hid (QbRel p w (.slice sp (tagB p ++ p.hash.take 32).length cap) (tagB p ++ p.hash ++ tailB (p.ats.take 0)) wr) := Lib.hid (by have := HR.out; rw [e32] at this ⊢; simpa [tailB] using this)
      clear hlt hk hgl HR e32
      go_wp2_with fail
      go_loopw [3, 5] (fun v i wr => ∃ k : Nat, k ≤ 4 ∧ i = .int .i64 (k : Int) ∧ QbRel p w v (tagB p ++ p.hash ++ tailB (p.ats.take k)) wr) (fun _ i _ => 4 - (intOf i).toNat)
      case atStart => exact ⟨0, by omega, rfl, HR2.out⟩
      case round =>
        clear HR2
        obtain ⟨k, hk, rfl, hR⟩ := hrel
        have HR := Lib.hid hR
        obtain ⟨sp, cap, e, -⟩ := OwnB.form hR.1
        have hlen := body_len HP.out hk
        have HLN := Lib.hid hlen
        rw [hlen] at e
        subst e
        have hgl := hR.2.2
        have hgs := hgl.lt
        have wk1 := IntWalk.i64_in ((k : Int) + 1) (by omega)
        clear hR hlen
        by_cases hlt : k < 4
        · obtain ⟨x, hx⟩ : ∃ x, p.ats[k]? = some x := ⟨_, List.getElem?_eq_getElem (by have := HP.out.len; omega)⟩
          have cx := cell_ats hgl HP.out.hash hx
          have hxl : x < 65536 := HP.out.ats x (List.mem_of_getElem? hx)
          have hw64 : IntKind.u64.wrap (x : Int) = (x : Int) := u64_in x (by omega)
          have HX := Lib.hid hx
          have HXL := Lib.hid hxl
          clear hx hgl hxl
          go_wp2_with fail
          refine (wNum_any x 2 wr (by omega) (by have := HXL.out; omega)).mono ?_
          rintro e w4 ⟨u, rfl, ho4, hb4⟩
          obtain ⟨sp5, n5, cap5, v5, w5, ⟨_, _, rfl⟩, rfl, hr5, hq5⟩ := HR.out.num (by rw [HLN.out]; omega) (by omega) ho4 hb4
          have HR5 := Lib.hid hr5
          have HN := Lib.hid (show QbRel p w (.slice sp5 n5 cap5) (tagB p ++ p.hash ++ tailB (p.ats.take (k + 1))) w5 by rw [val_take_one HX.out, tailB_snoc, ← List.append_assoc]; exact hq5)
          clear hr5 hq5 ho4 hb4 HR
          go_wp2_with (first | (at_builtin; refine wpL_val rfl (ex_appB rfl rfl rfl (HR5.out _)) ?_) | fail)
          go_roundw
          case rel => exact ⟨k + 1, by omega, by go_num, HN.out⟩
          case measure => simp [intOf]; omega
        · have em : (k : Int) = 4 := by omega
          rw [em]
          obtain rfl : k = 4 := by omega
          clear em
          have e4 : p.ats.take 4 = p.ats := List.take_of_length_le (by have := HP.out.len; omega)
          have hb : tagB p ++ p.hash ++ tailB (p.ats.take 4) = bodyB p := by rw [e4]; rfl
          have hR3 := HR.out
          rw [hb] at hR3
          have hbl : (bodyB p).length = 56 := bodyB_length HP.out
          obtain ⟨sp9, cap9, e9, q1, q2, q3, q4, q5⟩ := OwnB.form hR3.1
          rw [hbl] at e9
          injection e9 with e91 e92 e93
          subst e91 e93
          have hc := wFillR_any (bodyB p) sp cap 64 wr (by rw [hbl]; omega) (by omega) q1 q4 q3
          rw [hbl] at hc
          have hpad : fillOf (bodyB p) 64 = padB p := by
            unfold fillOf padB
            rw [hbl]
            rfl
          rw [hpad] at hc
          have HC := Lib.hid hc
          have HBW := Lib.hid hR3.2.1
          clear hlt hk hgl HR HLN e4 hb hbl hc hR3 q1 q2 q3 q4 q5 e92
          rw [show 48 + 2 * 4 = 56 from rfl]
          go_wp2_with (first | (go_at_call 33; refine HC.out.mono ?_; rintro e w9 ⟨v9, rfl, ho9, hb9⟩; have HO9 := Lib.hid (ho9.mono (B' := w.heap.size) HBW.out.size); have HB9 := Lib.hid (HBW.out.trans (hb9.mono HBW.out.size)); clear ho9 hb9) | fail)
          go_ret
          exact ⟨_, rfl, HO9.out, HB9.out⟩
end Go.Proofs.YtecngehkdjmjmaaDoor
/- Whether a pointer may be, as the document says it. -/
namespace Go.Proofs.YtecngehkdjmjmaaDoor
open Go.RowKit

set_option maxRecDepth 100000 in
set_option maxHeartbeats 8000000 in
theorem qmay_any (p : Pt) (hp : p.OK) (w : World) : Calls Tryd.prog 17 #[.agg (pcells p).toArray] w fun e w' => e = .returned (.bool (mayR p)) ∧ Below w.heap.size w w' := by
  have HB0 : Hid (Below w.heap.size w (w.alloc (.cells (pcells p).toArray 28))) := Lib.hid ((Below.refl _ _).alloc (Nat.le_refl _) _)
  have hG : Blk (w.alloc (.cells (pcells p).toArray 28)) w.heap.size (pcells p) 28 := Blk.new _ _ _
  have hA := rng_ats hG hp.hash
  obtain ⟨k, lv, ob, off, bi, hs, ats⟩ := p
  have hl := hp.len
  match ats, hl with
  | [a, b, c, d], _ =>
  have hh := hp.hash
  clear hp hl
  have cK := hG.cell (j := 0) rfl
  have cL := hG.cell (j := 1) rfl
  have cA : (w.alloc (.cells (pcells ⟨k, lv, ob, off, bi, hs, [a, b, c, d]⟩).toArray 28)).cell? ⟨w.heap.size, 37, none⟩ = some (.int .u16 (a : Int)) := cell_ats hG hh (k := 0) rfl
  have cB : (w.alloc (.cells (pcells ⟨k, lv, ob, off, bi, hs, [a, b, c, d]⟩).toArray 28)).cell? ⟨w.heap.size, 38, none⟩ = some (.int .u16 (b : Int)) := cell_ats hG hh (k := 1) rfl
  have cC : (w.alloc (.cells (pcells ⟨k, lv, ob, off, bi, hs, [a, b, c, d]⟩).toArray 28)).cell? ⟨w.heap.size, 39, none⟩ = some (.int .u16 (c : Int)) := cell_ats hG hh (k := 2) rfl
  have cD : (w.alloc (.cells (pcells ⟨k, lv, ob, off, bi, hs, [a, b, c, d]⟩).toArray 28)).cell? ⟨w.heap.size, 40, none⟩ = some (.int .u16 (d : Int)) := cell_ats hG hh (k := 3) rfl
  have HG := Lib.hid hA
  have HB := HB0
  obtain ⟨P, hP⟩ : ∃ P, (pcells ⟨k, lv, ob, off, bi, hs, [a, b, c, d]⟩).toArray = P := ⟨_, rfl⟩
  rw [hP] at cK cL cA cB cC cD HG HB ⊢
  obtain ⟨m, hm⟩ : ∃ m, mayR ⟨k, lv, ob, off, bi, hs, [a, b, c, d]⟩ = m := ⟨_, rfl⟩
  rw [hm]
  have HM := Lib.hid hm
  clear hG hA HB0 hh hP hm
  go_enter Tryd.func17, Tryd.ntmps17
  go_upto_region 1 with fail
  generalize (w.alloc (.cells P 28)) = W at cK cL cA cB cC cD HG HB ⊢
  by_cases h1 : k < 1
  · have ih1 : (k : Int) < 1 := by omega
    obtain rfl : m = false := by rw [← HM.out]; unfold mayR; simp only [List.getD_cons_zero, List.getD_cons_succ]; rw [if_pos (by omega)]
    go_wp2
    go_ret
    exact ⟨rfl, HB.out⟩
  have ih1 : ¬ (k : Int) < 1 := by omega
  by_cases h5 : 5 < k
  · have ih5 : (5 : Int) < k := by omega
    obtain rfl : m = false := by rw [← HM.out]; unfold mayR; simp only [List.getD_cons_zero, List.getD_cons_succ]; rw [if_pos (by omega)]
    go_wp2
    go_ret
    exact ⟨rfl, HB.out⟩
  have ih5 : ¬ (5 : Int) < k := by omega
  have n1 : ¬ (k < 1 ∨ 5 < k) := by omega
  go_upto_region 3 with fail
  go_cut [33] (fun v wx => v = .bool (decide ((k = 3 ∧ (lv < 1 ∨ 2 < lv)) ∨ (k ≠ 3 ∧ lv ≠ 0))) ∧ wx = W)
  case first =>
    by_cases h3 : k = 3
    · have ih3 : (k : Int) = 3 := by omega
      by_cases l1 : lv < 1
      · have il1 : (lv : Int) < 1 := by omega
        go_wp2
        go_meet
        exact ⟨congrArg Value.bool (by first | exact (decide_eq_true (by omega)).symm | (rw [Bool.eq_iff_iff]; simp; omega)), rfl⟩
      · have il1 : ¬ (lv : Int) < 1 := by omega
        by_cases l2 : 2 < lv
        · have il2 : (2 : Int) < lv := by omega
          go_wp2
          go_meet
          exact ⟨congrArg Value.bool (by first | exact (decide_eq_true (by omega)).symm | (rw [Bool.eq_iff_iff]; simp; omega)), rfl⟩
        · have il2 : ¬ (2 : Int) < lv := by omega
          go_wp2
          go_meet
          exact ⟨congrArg Value.bool (by first | exact (decide_eq_false (by omega)).symm | (rw [Bool.eq_iff_iff]; simp; omega)), rfl⟩
    · have ih3 : ¬ (k : Int) = 3 := by omega
      by_cases l0 : lv = 0
      · have il0 : (lv : Int) = 0 := by omega
        go_wp2
        go_meet
        exact ⟨congrArg Value.bool (by first | exact (decide_eq_false (by omega)).symm | (rw [Bool.eq_iff_iff]; simp; omega)), rfl⟩
      · have il0 : ¬ (lv : Int) = 0 := by omega
        go_wp2
        go_meet
        exact ⟨congrArg Value.bool (by first | exact (decide_eq_true (by omega)).symm | (rw [Bool.eq_iff_iff]; simp; omega)), rfl⟩
  case rest =>
  obtain ⟨rfl, rfl⟩ := hcut
  by_cases h3 : ((k = 3 ∧ (lv < 1 ∨ 2 < lv)) ∨ (k ≠ 3 ∧ lv ≠ 0))
  · rw [decide_eq_true h3]
    obtain rfl : m = false := by rw [← HM.out]; unfold mayR; simp only [List.getD_cons_zero, List.getD_cons_succ]; rw [if_neg n1, if_pos h3]
    go_wp2
    go_ret
    exact ⟨rfl, HB.out⟩
  rw [decide_eq_false h3]
  have HN1 := Lib.hid n1; have HN3 := Lib.hid h3; clear n1 h3
  by_cases z : [a, b, c, d] = [0, 0, 0, 0]
  · have HZ := Lib.hid z; clear z
    obtain rfl : m = false := by rw [← HM.out]; unfold mayR; simp only [List.getD_cons_zero, List.getD_cons_succ]; rw [if_neg HN1.out, if_neg HN3.out, if_pos HZ.out]
    go_wp2_with (first | (refine wpL_val rfl (ex_ld (ty := 26) (cs := [a, b, c, d].map U16) rfl rfl HG.out Tryd.underlying26 rfl sizeAts) ?_) | (refine wpL_val rfl (ex_eqAts (a := [a, b, c, d]) (b := [0, 0, 0, 0]) rfl rfl rfl rfl rfl) ?_; rw [decide_eq_true HZ.out]) | fail)
    go_ret
    exact ⟨rfl, HB.out⟩
  have HZ := Lib.hid z; clear z
  go_upto_region 7 with (first | (refine wpL_val rfl (ex_ld (ty := 26) (cs := [a, b, c, d].map U16) rfl rfl HG.out Tryd.underlying26 rfl sizeAts) ?_) | (refine wpL_val rfl (ex_eqAts (a := [a, b, c, d]) (b := [0, 0, 0, 0]) rfl rfl rfl rfl rfl) ?_; rw [decide_eq_false HZ.out]) | fail)
  (try simp only [Act.put, List.setIfInBounds_toArray, List.set_cons_zero, List.set_cons_succ])
  go_cut [65] (fun v wx => v = .bool (decide ((a ≠ 0 ∧ a = b) ∨ (c ≠ 0 ∧ c = d))) ∧ wx = wc)
  case first =>
    by_cases a0 : a = 0
    · have ia0 : (a : Int) = 0 := by omega
      by_cases c0 : c = 0
      · have ic0 : (c : Int) = 0 := by omega
        go_wp2
        go_meet
        exact ⟨congrArg Value.bool (by first | exact (decide_eq_false (by omega)).symm | (rw [Bool.eq_iff_iff]; simp; omega)), rfl⟩
      · have ic0 : ¬ (c : Int) = 0 := by omega
        by_cases cd : c = d
        · have icd : (c : Int) = d := by omega
          go_wp2
          go_meet
          exact ⟨congrArg Value.bool (by first | exact (decide_eq_true (by omega)).symm | (rw [Bool.eq_iff_iff]; simp; omega)), rfl⟩
        · have icd : ¬ (c : Int) = d := by omega
          go_wp2
          go_meet
          exact ⟨congrArg Value.bool (by first | exact (decide_eq_false (by omega)).symm | (rw [Bool.eq_iff_iff]; simp; omega)), rfl⟩
    · have ia0 : ¬ (a : Int) = 0 := by omega
      by_cases ab : a = b
      · have iab : (a : Int) = b := by omega
        go_wp2
        go_meet
        exact ⟨congrArg Value.bool (by first | exact (decide_eq_true (by omega)).symm | (rw [Bool.eq_iff_iff]; simp; omega)), rfl⟩
      · have iab : ¬ (a : Int) = b := by omega
        by_cases c0 : c = 0
        · have ic0 : (c : Int) = 0 := by omega
          go_wp2
          go_meet
          exact ⟨congrArg Value.bool (by first | exact (decide_eq_false (by omega)).symm | (rw [Bool.eq_iff_iff]; simp; omega)), rfl⟩
        · have ic0 : ¬ (c : Int) = 0 := by omega
          by_cases cd : c = d
          · have icd : (c : Int) = d := by omega
            go_wp2
            go_meet
            exact ⟨congrArg Value.bool (by first | exact (decide_eq_true (by omega)).symm | (rw [Bool.eq_iff_iff]; simp; omega)), rfl⟩
          · have icd : ¬ (c : Int) = d := by omega
            go_wp2
            go_meet
            exact ⟨congrArg Value.bool (by first | exact (decide_eq_false (by omega)).symm | (rw [Bool.eq_iff_iff]; simp; omega)), rfl⟩
  case rest =>
  obtain ⟨rfl, rfl⟩ := hcut
  by_cases h7 : ((a ≠ 0 ∧ a = b) ∨ (c ≠ 0 ∧ c = d))
  · rw [decide_eq_true h7]
    obtain rfl : m = false := by rw [← HM.out]; unfold mayR; simp only [List.getD_cons_zero, List.getD_cons_succ]; rw [if_neg HN1.out, if_neg HN3.out, if_neg HZ.out, if_pos h7]
    go_wp2
    go_ret
    exact ⟨rfl, HB.out⟩
  rw [decide_eq_false h7]
  have HN7 := Lib.hid h7; clear h7
  by_cases k1 : k = 1
  · have ik1 : (k : Int) = 1 := by omega
    by_cases b0 : b = 0
    · have ib0 : (b : Int) = 0 := by omega
      by_cases d0 : d = 0
      · have id0 : (d : Int) = 0 := by omega
        obtain rfl : m = true := by rw [← HM.out]; unfold mayR; simp only [List.getD_cons_zero, List.getD_cons_succ]; rw [if_neg HN1.out, if_neg HN3.out, if_neg HZ.out, if_neg HN7.out]; exact decide_eq_true (by omega)
        go_wp2
        go_ret
        exact ⟨rfl, HB.out⟩
      · have id0 : ¬ (d : Int) = 0 := by omega
        have jd0 : ((d : Int) == 0) = false := by simp; omega
        obtain rfl : m = false := by rw [← HM.out]; unfold mayR; simp only [List.getD_cons_zero, List.getD_cons_succ]; rw [if_neg HN1.out, if_neg HN3.out, if_neg HZ.out, if_neg HN7.out]; exact decide_eq_false (by omega)
        go_wp2
        go_ret
        exact ⟨rfl, HB.out⟩
    · have ib0 : ¬ (b : Int) = 0 := by omega
      obtain rfl : m = false := by rw [← HM.out]; unfold mayR; simp only [List.getD_cons_zero, List.getD_cons_succ]; rw [if_neg HN1.out, if_neg HN3.out, if_neg HZ.out, if_neg HN7.out]; exact decide_eq_false (by omega)
      go_wp2
      go_ret
      exact ⟨rfl, HB.out⟩
  · have ik1 : ¬ (k : Int) = 1 := by omega
    obtain rfl : m = true := by rw [← HM.out]; unfold mayR; simp only [List.getD_cons_zero, List.getD_cons_succ]; rw [if_neg HN1.out, if_neg HN3.out, if_neg HZ.out, if_neg HN7.out]; exact decide_eq_true (by omega)
    go_wp2
    go_ret
    exact ⟨rfl, HB.out⟩
end Go.Proofs.YtecngehkdjmjmaaDoor
/- The document's reading of a pointer: what it holds while it reads. -/
namespace Go.Proofs.YtecngehkdjmjmaaDoor
open Go.RowKit

theorem ex_cvs {ρ : Operand → Value} {o : Oper} {x : Operand} {sp : Option Addr} {cap n : Nat} {l : Bs} {w : World} (ho : o.op = .convert 38 9 x) (hn : l.length = n) (hx : ρ x = .slice sp n cap) (hS : SrcA w sp l) : (execOp ρ o).run Tryd.prog w = .ok (.value (.string (bstr l))) w := by
  subst hn
  have h := conv_str (cap := cap) hS
  unfold execOp
  simp only [ho, hx]
  simp only [Sem.run_bind, h, Result.andThen_ok, Sem.run_pure]
theorem RefIs.keep {w w' : World} {K : Nat → Prop} {B : Nat} {sp : Option Addr} {l : Bs} {cap : Nat} (h : RefIs w (fun g => K g ∧ g < B) sp l cap) (hb : Below B w w') : RefIs w' (fun g => K g ∧ g < B) sp l cap :=
  ⟨h.1, h.2.1, fun h0 => by
    obtain ⟨g, o, e, hk, hg, hc⟩ := h.2.2 h0
    exact ⟨g, o, e, hk, Nat.lt_of_lt_of_le hg hb.size, fun j hj => (hb.cell (p := ⟨g, o + j, none⟩) hk.2).trans (hc j hj)⟩⟩
theorem RefIs.src {w : World} {K : Nat → Prop} {sp : Option Addr} {l : Bs} {cap : Nat} (h : RefIs w K sp l cap) : SrcA w sp l := h.2.2.srcA
section
variable {ops : Array Oper} {Q : Exit → Act → World → Prop} {S : World → Prop}
/-- A row is stored. -/
theorem wpG_srow {i : Nat} {r : Tr} {a : Act} {w : World} (o : Oper) (hi : ops.toList[i]? = some o) (hw : Region.wanted o (yielded ops a.tmps) = true) (ty : TypeId) (x y : Operand) (ho : o.op = .store ty x y) (b : Nat) (cells : Array Value) (hx : a.eval x = .pointer (some ⟨b, 0, none⟩)) (hy : a.eval y = .agg cells) {t : TypeId} {old : List Value} (hg : Blk w b old t) (hs : (Tryd.prog.info? ty).map (·.size) = some cells.size) (hl : old.length = cells.size) (h1 : cells.all (·.oneCell') = true)
    (S' : World → Prop) (hSS : ∀ w, S' w → S w) (hS : S' (w.setRow b cells)) (h : wpG Tryd.prog ops Q r S' (a.put o.dst undef) (w.setRow b cells)) : wpG Tryd.prog ops Q (.step i r) S a w := by
  refine wpG_bare o hi hw fun K hK => ?_
  exact wpList_store_row rfl ty x y ho b cells hx hy t old.toArray hg hs (by simpa using hl) h1 (wpG_list_nil (hK _ _ S' hSS hS h))
end
theorem results_rows {fn : Func} {p q : Tmp} {t1 t2 : TypeId} (h : fn.results = #[.cell p t1, .cell q t2]) (tmps : Array Value) (w : World) (g1 g2 u1 u2 : Nat) (c1 c2 : List Value) {f1 f2 : Array Field}
    (hp : tmps.getD p undef = .pointer (some ⟨g1, 0, none⟩)) (hq : tmps.getD q undef = .pointer (some ⟨g2, 0, none⟩)) (h1 : Blk w g1 c1 u1) (h2 : Blk w g2 c2 u2) (hu1 : Tryd.prog.underlying t1 = some (.struct f1)) (hu2 : Tryd.prog.underlying t2 = some (.struct f2)) (hi1 : (Tryd.prog.info? t1).map (·.size) = some c1.length) (hi2 : (Tryd.prog.info? t2).map (·.size) = some c2.length) :
    (results fn tmps).run Tryd.prog w = .ok (.tuple #[.agg c1.toArray, .agg c2.toArray]) w := by
  have hp' : tmps[p]?.getD undef = .pointer (some ⟨g1, 0, none⟩) := by simpa using hp
  have hq' : tmps[q]?.getD undef = .pointer (some ⟨g2, 0, none⟩) := by simpa using hq
  have r1 := run_loadVar_row (P := Tryd.prog) w g1 u1 t1 c1.toArray (0, 0) _ h1 hu1 rfl (by simpa using hi1)
  have r2 := run_loadVar_row (P := Tryd.prog) w g2 u2 t2 c2.toArray (0, 0) _ h2 hu2 rfl (by simpa using hi2)
  simp [results, h, hp', hq', asAddr, r1, r2]
theorem sizeRef : (Tryd.prog.info? 64).map (·.size) = some 2 := by kernel_rfl
theorem hash_set {p : Pt} (k : Nat) (hk : k < p.hash.length) (x : BitVec 8) : (pcells p).set (5 + k) (V8 x) = pcells { p with hash := p.hash.set k x } := by
  have e : ∀ q : Pt, pcells q = pnums q ++ (q.hash.map V8 ++ q.ats.map U16) := fun q => rfl
  rw [e, e, List.set_append_right _ _ (by simp [pnums]), show 5 + k - (pnums p).length = k by simp [pnums], List.set_append_left _ _ (by simpa using hk), ← List.map_set]
  rfl
/-- What the document's Take holds, 64 bytes being there. -/
structure QtW (l : Bs) (w : World) (K : Nat → Prop) (spb : Option Addr) (capb : Nat) (spn : Option Addr) (capn : Nat) (g5 g6 g7 : Nat) (p : Pt) (rest : Bs) (W : World) : Prop where
  r2 : Blk W (w.heap.size + 1) (pcells zeroP) 28
  r3 : Blk W (w.heap.size + 1 + 1) [.slice none 0 0, .int .i64 0] 64
  b : RefIs W (fun g => K g ∧ g < w.heap.size) spb (l.take 64) capb
  n : RefIs W (fun g => K g ∧ g < w.heap.size) spn (l.drop 64) capn
  nx : Blk W g5 [.slice spn (l.drop 64).length capn, .int .i64 0] 64
  x : ∃ spx capx, Blk W g6 [.slice spx rest.length capx, .int .i64 0] 64 ∧ RefIs W (fun g => K g ∧ g < w.heap.size) spx rest capx
  p : Blk W g7 (pcells p) 28
  bel : Below w.heap.size w W
  o5 : w.heap.size + 1 + 1 < g5
  o6 : g5 < g6
  o7 : g6 < g7
section
variable {l : Bs} {w W W' : World} {K : Nat → Prop} {spb spn : Option Addr} {capb capn g5 g6 g7 : Nat} {p : Pt} {rest : Bs}
theorem QtW.grown (h : QtW l w K spb capb spn capn g5 g6 g7 p rest W) (hb : Below W.heap.size W W') : QtW l w K spb capb spn capn g5 g6 g7 p rest W' := by
  have hw := hb.mono h.bel.size
  obtain ⟨spx, capx, h1, h2⟩ := h.x
  exact ⟨h.r2.below hb h.r2.lt, h.r3.below hb h.r3.lt, h.b.keep hw, h.n.keep hw, h.nx.below hb h.nx.lt, ⟨spx, capx, h1.below hb h1.lt, h2.keep hw⟩, h.p.below hb h.p.lt, h.bel.trans hw, h.o5, h.o6, h.o7⟩
theorem QtW.drew (h : QtW l w K spb capb spn capn g5 g6 g7 p rest W) : QtW l w K spb capb spn capn g5 g6 g7 p rest W.drew := h.grown (Below.refl _ _).drew
/-- The reader behind a number is stored. -/
theorem QtW.readTo (h : QtW l w K spb capb spn capn g5 g6 g7 p rest W) {rest' : Bs} {spx : Option Addr} {capx : Nat} (hr : RefIs W (fun g => K g ∧ g < w.heap.size) spx rest' capx) {n : Nat} (hn : rest'.length = n) : QtW l w K spb capb spn capn g5 g6 g7 p rest' (W.setRow g6 #[.slice spx n capx, .int .i64 0]) := by
  subst hn
  have o5 := h.o5; have o6 := h.o6; have o7 := h.o7
  have hbf : ButFor g6 W (W.setRow g6 #[.slice spx rest'.length capx, .int .i64 0]) := butFor_row _
  have hw : Below w.heap.size W (W.setRow g6 #[.slice spx rest'.length capx, .int .i64 0]) := hbf.below (by omega) h.bel.size
  obtain ⟨_, _, h1, _⟩ := h.x
  exact ⟨hbf.blk h.r2 (by omega), hbf.blk h.r3 (by omega), h.b.keep hw, h.n.keep hw, hbf.blk h.nx (by omega), ⟨spx, capx, h1.row [.slice spx rest'.length capx, .int .i64 0], hr.keep hw⟩, hbf.blk h.p (by omega), h.bel.trans hw, o5, o6, o7⟩
/-- The pointer is written. -/
theorem QtW.put (h : QtW l w K spb capb spn capn g5 g6 g7 p rest W) {p' : Pt} (hp : Blk W' g7 (pcells p') 28) (hbf : ButFor g7 W W') : QtW l w K spb capb spn capn g5 g6 g7 p' rest W' := by
  have o5 := h.o5; have o6 := h.o6; have o7 := h.o7
  have hw : Below w.heap.size W W' := hbf.below (by omega) h.bel.size
  obtain ⟨spx, capx, h1, h2⟩ := h.x
  exact ⟨hbf.blk h.r2 (by omega), hbf.blk h.r3 (by omega), h.b.keep hw, h.n.keep hw, hbf.blk h.nx (by omega), ⟨spx, capx, hbf.blk h1 (by omega), h2.keep hw⟩, hp, h.bel.trans hw, o5, o6, o7⟩
/-- The start: both results, the reader behind the bytes, the bytes as a reader, the pointer. -/
theorem QtW.start {Z1 Z4 Z5 Z6 : World} (hr2 : Blk Z1 (w.heap.size + 1) (pcells zeroP) 28) (hr3 : Blk Z1 (w.heap.size + 1 + 1) [.slice none 0 0, .int .i64 0] 64) (hb : RefIs Z1 (fun g => K g ∧ g < w.heap.size) spb (l.take 64) capb) (hn : RefIs Z1 (fun g => K g ∧ g < w.heap.size) spn (l.drop 64) capn) (hbel : Below w.heap.size w Z1) {n : Nat} (hnl : (l.drop 64).length = n) (h64 : (l.take 64).length = 64) (z5 z6 z7 : Array Value)
    (e4 : Z4 = (Z1.alloc (.cells z5 64)).setRow Z1.heap.size #[.slice spn n capn, .int .i64 0]) (e5 : Z5 = (Z4.alloc (.cells z6 64)).setRow Z4.heap.size #[.slice spb 64 capb, .int .i64 0]) (e6 : Z6 = Z5.alloc (.cells z7 28)) (hz : z7 = (pcells zeroP).toArray) :
    QtW l w K spb capb spn capn Z1.heap.size Z4.heap.size Z5.heap.size zeroP (l.take 64) Z6 := by
  subst hnl
  obtain ⟨b1, c1⟩ := blk_row1 Z1 z5 [.slice spn (l.drop 64).length capn, .int .i64 0] 64
  have s4 : Z4.heap.size = Z1.heap.size + 1 := by rw [e4]; simp
  rw [show (Z1.alloc (.cells z5 64)).setRow Z1.heap.size [.slice spn (l.drop 64).length capn, .int .i64 0].toArray = Z4 from e4.symm] at b1 c1
  obtain ⟨b2, c2⟩ := blk_row1 Z4 z6 [.slice spb 64 capb, .int .i64 0] 64
  have s5 : Z5.heap.size = Z4.heap.size + 1 := by rw [e5]; simp
  rw [show (Z4.alloc (.cells z6 64)).setRow Z4.heap.size [.slice spb 64 capb, .int .i64 0].toArray = Z5 from e5.symm] at b2 c2
  have b3 : Blk Z6 Z5.heap.size (pcells zeroP) 28 := by rw [e6, hz]; exact Blk.new _ _ _
  have c3 : Below Z5.heap.size Z5 Z6 := by rw [e6]; exact (Below.refl _ _).alloc (Nat.le_refl _) _
  have l2 := hr2.lt; have l3 := hr3.lt
  have cw : Below w.heap.size Z1 Z6 := (c1.mono hbel.size).trans ((c2.mono (by have := hbel.size; omega)).trans (c3.mono (by have := hbel.size; omega)))
  have c16 : Below Z1.heap.size Z1 Z6 := c1.trans ((c2.mono (by omega)).trans (c3.mono (by omega)))
  exact ⟨hr2.below c16 l2, hr3.below c16 l3, hb.keep cw, hn.keep cw, b1.below (c2.trans (c3.mono (by omega))) (by omega), ⟨spb, capb, by rw [h64]; exact b2.below c3 (by omega), hb.keep cw⟩, b3, hbel.trans cw, by omega, by omega, by omega⟩
end
/-- Both results are stored. -/
theorem qtw_end {l : Bs} {w W : World} {K : Nat → Prop} {spb spn : Option Addr} {capb capn g5 g6 g7 : Nat} {p : Pt} {rest : Bs} (h : QtW l w K spb capb spn capn g5 g6 g7 p rest W) (c1 c2 : List Value) (_h1 : (pcells zeroP).length = c1.length) (_h2 : 2 = c2.length) :
    Blk (W.setRow (w.heap.size + 1) c1.toArray) (w.heap.size + 1 + 1) [.slice none 0 0, .int .i64 0] 64 ∧ Blk ((W.setRow (w.heap.size + 1) c1.toArray).setRow (w.heap.size + 1 + 1) c2.toArray) (w.heap.size + 1) c1 28 ∧ Blk ((W.setRow (w.heap.size + 1) c1.toArray).setRow (w.heap.size + 1 + 1) c2.toArray) (w.heap.size + 1 + 1) c2 64 ∧ Below w.heap.size w ((W.setRow (w.heap.size + 1) c1.toArray).setRow (w.heap.size + 1 + 1) c2.toArray) ∧ RefIs ((W.setRow (w.heap.size + 1) c1.toArray).setRow (w.heap.size + 1 + 1) c2.toArray) (fun g => K g ∧ g < w.heap.size) spn (l.drop 64) capn := by
  have b1 : Blk (W.setRow (w.heap.size + 1) c1.toArray) (w.heap.size + 1 + 1) [.slice none 0 0, .int .i64 0] 64 := h.r3.rowOther (by omega) _
  have b2 : Below w.heap.size w ((W.setRow (w.heap.size + 1) c1.toArray).setRow (w.heap.size + 1 + 1) c2.toArray) := below_row (below_row h.bel (by omega) _) (by omega) _
  have b3 : Below w.heap.size W ((W.setRow (w.heap.size + 1) c1.toArray).setRow (w.heap.size + 1 + 1) c2.toArray) := below_row (below_row (Below.refl _ _) (by omega) _) (by omega) _
  exact ⟨b1, (h.r2.row c1).rowOther (by omega) _, b1.row c2, b2, h.n.keep b3⟩
theorem refRes_ok {l : Bs} {n : Nat} (h : n ≤ l.length) : refRes l 0 n = (l.take n, l.drop n, 0) := by
  unfold refRes
  rw [if_neg (by omega), if_neg (by omega), Int.toNat_natCast]
theorem num_ok {K : Nat → Prop} {l : Bs} {n : Nat} {w : World} {x : Ending} {w' : World} (h : NumOf K l 0 n w x w') (hn : n ≤ l.length) : ∃ sp cap, x = .returned (.tuple #[.int .u64 (val (l.take n) : Int), .agg #[.slice sp (l.length - n) cap, .int .i64 0]]) ∧ RefIs w' K sp (l.drop n) cap ∧ Below w.heap.size w w' := by
  unfold NumOf at h
  rw [refRes_ok hn] at h
  obtain ⟨sp, cap, e, h1, h2⟩ := h
  exact ⟨sp, cap, by rw [← List.length_drop]; exact e, h1, h2⟩
end Go.Proofs.YtecngehkdjmjmaaDoor
