/- The document's bytes of a pointer. -/
import Derived.Test.YtecngehkdjmjmaaDoorM07
import Derived.Test.YtecngehkdjmjmaaDoorM05
import Derived.Deep.DeepCutAuto
import Derived.Test.YtecngehkdjmjmaaDoorM08
import Derived.Test.YtecngehkdjmjmaaDoorM06
namespace Go.Proofs.YtecngehkdjmjmaaDoor
open Go.RowKit

theorem take_oneB {l : Bs} {k : Nat} {x : BitVec 8} (h : l[k]? = some x) : l.take (k + 1) = l.take k ++ [x] := by
  obtain ⟨h2, h3⟩ := List.getElem?_eq_some_iff.1 h
  rw [List.take_succ_eq_append_getElem h2, h3]
/-- While the document's Bytes goes. -/
def QbRel (p : Pt) (w : World) (v : Value) (l : Bs) (wr : World) : Prop := OwnB wr (w.heap.size + 1) v l ∧ Below w.heap.size w wr ∧ Blk wr w.heap.size (pcells p) 28
theorem QbRel.next {p : Pt} {w wr w' : World} {v v' : Value} {l l' : Bs} (h : QbRel p w v l wr) (ho : OwnB w' (w.heap.size + 1) v' l') (hb : Below (w.heap.size + 1) wr w') : QbRel p w v' l' w' :=
  have h1 := h.2.2.lt
  ⟨ho, h.2.1.trans (hb.mono (by omega)), h.2.2.below hb (by omega)⟩
/-- A number more. -/
theorem QbRel.num {p : Pt} {w wr w4 : World} {v u : Value} {l : Bs} {n k : Nat} (h : QbRel p w v l wr) (hl : l.length ≤ 100) (hk : k ≤ 8) (ho4 : OwnB w4 wr.heap.size u (leb n k)) (hb4 : Below wr.heap.size wr w4) :
    ∃ sp n' c v5 w5, (∃ sp4 cap4, u = .slice sp4 k cap4) ∧ v5 = .slice sp n' c ∧ (∀ ty, (Builtin.append_ #[38, 38] ty #[v, u]).run Tryd.prog w4 = .ok v5 w5) ∧ QbRel p w v5 (l ++ leb n k) w5 := by
  obtain ⟨sp4, cap4, e4, q1, q2, q3, q4, q5⟩ := OwnB.form ho4
  rw [leb_length] at e4
  subst e4
  have h1 := h.2.2.lt
  obtain ⟨v5, w5, hr5, ho5, hb5⟩ := ownB_src (m := leb n k) (h.1.below hb4 (Nat.le_refl _)) (by have := hb4.size; omega) (by rw [leb_length]; omega) q3 q4 38
  rw [leb_length] at hr5
  obtain ⟨sp, c, e, _⟩ := OwnB.form ho5
  exact ⟨sp, _, c, v5, w5, ⟨_, _, rfl⟩, e, fun _ => hr5, h.next ho5 ((hb4.mono (by omega)).trans hb5)⟩
theorem qb_start {p : Pt} (hp : p.OK) (w : World) : QbRel p w (.slice (some ⟨w.heap.size + 1, 0, none⟩) 2 2) (leb p.kind 1 ++ leb p.level 1) ((w.alloc (.cells (pcells p).toArray 28)).alloc (.cells #[.int .u8 (p.kind : Int), .int .u8 (p.level : Int)] 5)) := by
  have h : Blk ((w.alloc (.cells (pcells p).toArray 28)).alloc (.cells #[.int .u8 (p.kind : Int), .int .u8 (p.level : Int)] 5)) (w.heap.size + 1) [V8 (lb p.kind 0), V8 (lb p.level 0)] 5 := Blk.new' _ _ _ _ _ (by simp) (by rw [u8_cell hp.kind, u8_cell hp.level])
  have ho := h.owns (base := w.heap.size + 1) (n := 2) (Nat.le_refl _) (Nat.le_refl _) (by unfold maxLen; simp)
  exact ⟨ho, ((Below.refl _ _).alloc (Nat.le_refl _) _).alloc (by simp) _, (Blk.new _ _ _).alloc _⟩
set_option maxRecDepth 100000 in
set_option maxHeartbeats 8000000 in
theorem qbytes_any (p : Pt) (hp : p.OK) (w : World) : Calls Tryd.prog 32 #[.agg (pcells p).toArray] w fun e w' => ∃ v, e = .returned v ∧ OwnB w' w.heap.size v (padB p) ∧ Below w.heap.size w w' := by
  have HP := Lib.hid hp
  have HG0 : Hid (Blk (w.alloc (.cells (pcells p).toArray 28)) w.heap.size (pcells p) 28) := Lib.hid (Blk.new _ _ _)
  have cK := HG0.out.cell (j := 0) rfl
  have cL := HG0.out.cell (j := 1) rfl
  have b1 := hp.obj; have b2 := hp.off; have b3 := hp.birth
  have HB1 := Lib.hid b1; have HB2 := Lib.hid b2; have HB3 := Lib.hid b3
  clear hp b1 b2 b3
  go_enter Tryd.func32, Tryd.ntmps32
  go_upto_region 2 with fail
  refine (fun (k : ∀ W1, QbRel p w (.slice (some ⟨w.heap.size + 1, 0, none⟩) 2 2) (leb p.kind 1 ++ leb p.level 1) W1 → Code.wp _ _ _ _ W1) => k _ (qb_start HP.out w)) ?_
  intro W1 hR1
  have HR1 := Lib.hid hR1
  clear cK cL HG0 hR1
  have c1 : W1.cell? ⟨w.heap.size, 2, none⟩ = some (.int .u16 (p.obj : Int)) := HR1.out.2.2.cell rfl
  have e1 := u64_in p.obj (by have := HB1.out; omega)
  go_wp2_with fail
  refine (wNum_any p.obj 2 W1 (by omega) (by have := HB1.out; omega)).mono ?_
  rintro e w2 ⟨u2, rfl, ho2, hb2⟩
  obtain ⟨sp2, n2, k2, v3, w3, ⟨_, _, rfl⟩, rfl, hr3, hq3⟩ := HR1.out.num (by simp [leb_length]) (by omega) ho2 hb2
  have HA2 := Lib.hid hr3; have HR2 := Lib.hid hq3
  clear ho2 hb2 hr3 hq3 HR1 c1 e1
  have c2 : w3.cell? ⟨w.heap.size, 3, none⟩ = some (.int .u32 (p.off : Int)) := HR2.out.2.2.cell rfl
  have e2 := u64_in p.off (by have := HB2.out; omega)
  go_wp2_with (first | (at_builtin; refine wpL_val rfl (ex_appB rfl rfl rfl (HA2.out _)) ?_) | fail)
  refine (wNum_any p.off 4 w3 (by omega) (by have := HB2.out; omega)).mono ?_
  rintro e w4 ⟨u4, rfl, ho4, hb4⟩
  obtain ⟨sp4, n4, k4, v5, w5, ⟨_, _, rfl⟩, rfl, hr5, hq5⟩ := HR2.out.num (by simp [leb_length]) (by omega) ho4 hb4
  have HA3 := Lib.hid hr5; have HR3 := Lib.hid hq5
  clear ho4 hb4 hr5 hq5 HR2 HA2 c2 e2
  have c3 : w5.cell? ⟨w.heap.size, 4, none⟩ = some (.int .u64 (p.birth : Int)) := HR3.out.2.2.cell rfl
  go_wp2_with (first | (at_builtin; refine wpL_val rfl (ex_appB rfl rfl rfl (HA3.out _)) ?_) | fail)
  refine (wNum_any p.birth 8 w5 (by omega) HB3.out).mono ?_
  rintro e w6 ⟨u6, rfl, ho6, hb6⟩
  obtain ⟨sp6, n6, k6, v7, w7, ⟨_, _, rfl⟩, rfl, hr7, hq7⟩ := HR3.out.num (by simp [leb_length]) (by omega) ho6 hb6
  have HA4 := Lib.hid hr7
  have HR4 : Hid (QbRel p w (.slice sp6 n6 k6) (tagB p ++ p.hash.take 0) w7) := Lib.hid (by simpa [tagB] using hq7)
  clear ho6 hb6 hr7 hq7 HR3 HA3 c3
  go_wp2_with (first | (at_builtin; refine wpL_val rfl (ex_appB rfl rfl rfl (HA4.out _)) ?_) | fail)
  go_loopw [3, 4] (fun v i wr => ∃ k : Nat, k ≤ 32 ∧ i = .int .i64 (k : Int) ∧ QbRel p w v (tagB p ++ p.hash.take k) wr) (fun _ i _ => 32 - (intOf i).toNat)
  case atStart => exact ⟨0, by omega, rfl, HR4.out⟩
  case round =>
    clear HR4 HA4
    obtain ⟨k, hk, rfl, hR⟩ := hrel
    have HR := Lib.hid hR
    obtain ⟨sp, cap, rfl, -⟩ := OwnB.form hR.1
    have hgl := hR.2.2
    have hgs := hgl.lt
    have wk1 := IntWalk.i64_in ((k : Int) + 1) (by omega)
    clear hR
    by_cases hlt : k < 32
    · obtain ⟨x, hx⟩ : ∃ x, p.hash[k]? = some x := ⟨_, List.getElem?_eq_getElem (by have := HP.out.hash; omega)⟩
      have cx := cell_hash hgl hx
      have hz : Below wr.heap.size wr (wr.alloc (.cells #[V8 x] 5)) := (Below.refl _ _).alloc (Nat.le_refl _) _
      obtain ⟨v3, w3, hr3, ho3, hb3⟩ := ownB_app (m := [x]) (HR.out.1.below hz (Nat.le_refl _)) (by have := hz.size; omega) (by simp [tagB_length]; omega) (g := wr.heap.size) (off := 0) (c := 1) (rng_all (Blk.new wr [V8 x] 5)) 38
      obtain ⟨sp3, n3, cap3, rfl⟩ : ∃ sp n c, v3 = .slice sp n c := by
        obtain ⟨sp, c, e, _⟩ := OwnB.form ho3
        exact ⟨sp, _, c, e⟩
      have HR3 := Lib.hid hr3
      have HN := Lib.hid (show QbRel p w (.slice sp3 n3 cap3) (tagB p ++ p.hash.take (k + 1)) w3 from HR.out.next (by rw [take_oneB hx, ← List.append_assoc]; exact ho3) ((hz.mono (by omega)).trans hb3))
      clear hx hgl hr3 ho3 hb3 hz HR
      go_wp2_with (first | (at_builtin; refine wpL_val rfl (ex_appB rfl rfl rfl HR3.out) ?_) | fail)
      go_roundw
      case rel => exact ⟨k + 1, by omega, by go_num, HN.out⟩
      case measure => simp [intOf]; omega
    · have em : (k : Int) = 32 := by omega
      rw [em]
      obtain rfl : k = 32 := by omega
      clear em
      have e32 : p.hash.take 32 = p.hash := List.take_of_length_le (by have := HP.out.hash; omega)
      have HR2 : Hid (QbRel p w (.slice sp (tagB p ++ p.hash.take 32).length cap) (tagB p ++ p.hash ++ tailB (p.ats.take 0)) wr) := Lib.hid (by have := HR.out; rw [e32] at this ⊢; simpa [tailB] using this)
      clear hlt hk hgl HR e32
      go_wp2_with fail
      go_loopw [3, 5] (fun v i wr => ∃ k : Nat, k ≤ 4 ∧ i = .int .i64 (k : Int) ∧ QbRel p w v (tagB p ++ p.hash ++ tailB (p.ats.take k)) wr) (fun _ i _ => 4 - (intOf i).toNat)
      case atStart => exact ⟨0, by omega, rfl, HR2.out⟩
      case round =>
        clear HR2
        obtain ⟨k, hk, rfl, hR⟩ := hrel
        have HR := Lib.hid hR
        obtain ⟨sp, cap, e, -⟩ := OwnB.form hR.1
        have hlen := body_len HP.out hk
        have HLN := Lib.hid hlen
        rw [hlen] at e
        subst e
        have hgl := hR.2.2
        have hgs := hgl.lt
        have wk1 := IntWalk.i64_in ((k : Int) + 1) (by omega)
        clear hR hlen
        by_cases hlt : k < 4
        · obtain ⟨x, hx⟩ : ∃ x, p.ats[k]? = some x := ⟨_, List.getElem?_eq_getElem (by have := HP.out.len; omega)⟩
          have cx := cell_ats hgl HP.out.hash hx
          have hxl : x < 65536 := HP.out.ats x (List.mem_of_getElem? hx)
          have hw64 : IntKind.u64.wrap (x : Int) = (x : Int) := u64_in x (by omega)
          have HX := Lib.hid hx
          have HXL := Lib.hid hxl
          clear hx hgl hxl
          go_wp2_with fail
          refine (wNum_any x 2 wr (by omega) (by have := HXL.out; omega)).mono ?_
          rintro e w4 ⟨u, rfl, ho4, hb4⟩
          obtain ⟨sp5, n5, cap5, v5, w5, ⟨_, _, rfl⟩, rfl, hr5, hq5⟩ := HR.out.num (by rw [HLN.out]; omega) (by omega) ho4 hb4
          have HR5 := Lib.hid hr5
          have HN := Lib.hid (show QbRel p w (.slice sp5 n5 cap5) (tagB p ++ p.hash ++ tailB (p.ats.take (k + 1))) w5 by rw [val_take_one HX.out, tailB_snoc, ← List.append_assoc]; exact hq5)
          clear hr5 hq5 ho4 hb4 HR
          go_wp2_with (first | (at_builtin; refine wpL_val rfl (ex_appB rfl rfl rfl (HR5.out _)) ?_) | fail)
          go_roundw
          case rel => exact ⟨k + 1, by omega, by go_num, HN.out⟩
          case measure => simp [intOf]; omega
        · have em : (k : Int) = 4 := by omega
          rw [em]
          obtain rfl : k = 4 := by omega
          clear em
          have e4 : p.ats.take 4 = p.ats := List.take_of_length_le (by have := HP.out.len; omega)
          have hb : tagB p ++ p.hash ++ tailB (p.ats.take 4) = bodyB p := by rw [e4]; rfl
          have hR3 := HR.out
          rw [hb] at hR3
          have hbl : (bodyB p).length = 56 := bodyB_length HP.out
          obtain ⟨sp9, cap9, e9, q1, q2, q3, q4, q5⟩ := OwnB.form hR3.1
          rw [hbl] at e9
          injection e9 with e91 e92 e93
          subst e91 e93
          have hc := wFillR_any (bodyB p) sp cap 64 wr (by rw [hbl]; omega) (by omega) q1 q4 q3
          rw [hbl] at hc
          have hpad : fillOf (bodyB p) 64 = padB p := by
            unfold fillOf padB
            rw [hbl]
            rfl
          rw [hpad] at hc
          have HC := Lib.hid hc
          have HBW := Lib.hid hR3.2.1
          clear hlt hk hgl HR HLN e4 hb hbl hc hR3 q1 q2 q3 q4 q5 e92
          rw [show 48 + 2 * 4 = 56 from rfl]
          go_wp2_with (first | (go_at_call 33; refine HC.out.mono ?_; rintro e w9 ⟨v9, rfl, ho9, hb9⟩; have HO9 := Lib.hid (ho9.mono (B' := w.heap.size) HBW.out.size); have HB9 := Lib.hid (HBW.out.trans (hb9.mono HBW.out.size)); clear ho9 hb9) | fail)
          go_ret
          exact ⟨_, rfl, HO9.out, HB9.out⟩
end Go.Proofs.YtecngehkdjmjmaaDoor
/- Whether a pointer may be, as the document says it. -/
namespace Go.Proofs.YtecngehkdjmjmaaDoor
open Go.RowKit

set_option maxRecDepth 100000 in
set_option maxHeartbeats 8000000 in
theorem qmay_any (p : Pt) (hp : p.OK) (w : World) : Calls Tryd.prog 17 #[.agg (pcells p).toArray] w fun e w' => e = .returned (.bool (mayR p)) ∧ Below w.heap.size w w' := by
  have HB0 : Hid (Below w.heap.size w (w.alloc (.cells (pcells p).toArray 28))) := Lib.hid ((Below.refl _ _).alloc (Nat.le_refl _) _)
  have hG : Blk (w.alloc (.cells (pcells p).toArray 28)) w.heap.size (pcells p) 28 := Blk.new _ _ _
  have hA := rng_ats hG hp.hash
  obtain ⟨k, lv, ob, off, bi, hs, ats⟩ := p
  have hl := hp.len
  match ats, hl with
  | [a, b, c, d], _ =>
  have hh := hp.hash
  clear hp hl
  have cK := hG.cell (j := 0) rfl
  have cL := hG.cell (j := 1) rfl
  have cA : (w.alloc (.cells (pcells ⟨k, lv, ob, off, bi, hs, [a, b, c, d]⟩).toArray 28)).cell? ⟨w.heap.size, 37, none⟩ = some (.int .u16 (a : Int)) := cell_ats hG hh (k := 0) rfl
  have cB : (w.alloc (.cells (pcells ⟨k, lv, ob, off, bi, hs, [a, b, c, d]⟩).toArray 28)).cell? ⟨w.heap.size, 38, none⟩ = some (.int .u16 (b : Int)) := cell_ats hG hh (k := 1) rfl
  have cC : (w.alloc (.cells (pcells ⟨k, lv, ob, off, bi, hs, [a, b, c, d]⟩).toArray 28)).cell? ⟨w.heap.size, 39, none⟩ = some (.int .u16 (c : Int)) := cell_ats hG hh (k := 2) rfl
  have cD : (w.alloc (.cells (pcells ⟨k, lv, ob, off, bi, hs, [a, b, c, d]⟩).toArray 28)).cell? ⟨w.heap.size, 40, none⟩ = some (.int .u16 (d : Int)) := cell_ats hG hh (k := 3) rfl
  have HG := Lib.hid hA
  have HB := HB0
  obtain ⟨P, hP⟩ : ∃ P, (pcells ⟨k, lv, ob, off, bi, hs, [a, b, c, d]⟩).toArray = P := ⟨_, rfl⟩
  rw [hP] at cK cL cA cB cC cD HG HB ⊢
  obtain ⟨m, hm⟩ : ∃ m, mayR ⟨k, lv, ob, off, bi, hs, [a, b, c, d]⟩ = m := ⟨_, rfl⟩
  rw [hm]
  have HM := Lib.hid hm
  clear hG hA HB0 hh hP hm
  go_enter Tryd.func17, Tryd.ntmps17
  go_upto_region 1 with fail
  generalize (w.alloc (.cells P 28)) = W at cK cL cA cB cC cD HG HB ⊢
  by_cases h1 : k < 1
  · have ih1 : (k : Int) < 1 := by omega
    obtain rfl : m = false := by rw [← HM.out]; unfold mayR; simp only [List.getD_cons_zero, List.getD_cons_succ]; rw [if_pos (by omega)]
    go_wp2
    go_ret
    exact ⟨rfl, HB.out⟩
  have ih1 : ¬ (k : Int) < 1 := by omega
  by_cases h5 : 5 < k
  · have ih5 : (5 : Int) < k := by omega
    obtain rfl : m = false := by rw [← HM.out]; unfold mayR; simp only [List.getD_cons_zero, List.getD_cons_succ]; rw [if_pos (by omega)]
    go_wp2
    go_ret
    exact ⟨rfl, HB.out⟩
  have ih5 : ¬ (5 : Int) < k := by omega
  have n1 : ¬ (k < 1 ∨ 5 < k) := by omega
  go_upto_region 3 with fail
  go_cut [33] (fun v wx => v = .bool (decide ((k = 3 ∧ (lv < 1 ∨ 2 < lv)) ∨ (k ≠ 3 ∧ lv ≠ 0))) ∧ wx = W)
  case first =>
    by_cases h3 : k = 3
    · have ih3 : (k : Int) = 3 := by omega
      by_cases l1 : lv < 1
      · have il1 : (lv : Int) < 1 := by omega
        go_wp2
        go_meet
        exact ⟨congrArg Value.bool (by first | exact (decide_eq_true (by omega)).symm | (rw [Bool.eq_iff_iff]; simp; omega)), rfl⟩
      · have il1 : ¬ (lv : Int) < 1 := by omega
        by_cases l2 : 2 < lv
        · have il2 : (2 : Int) < lv := by omega
          go_wp2
          go_meet
          exact ⟨congrArg Value.bool (by first | exact (decide_eq_true (by omega)).symm | (rw [Bool.eq_iff_iff]; simp; omega)), rfl⟩
        · have il2 : ¬ (2 : Int) < lv := by omega
          go_wp2
          go_meet
          exact ⟨congrArg Value.bool (by first | exact (decide_eq_false (by omega)).symm | (rw [Bool.eq_iff_iff]; simp; omega)), rfl⟩
    · have ih3 : ¬ (k : Int) = 3 := by omega
      by_cases l0 : lv = 0
      · have il0 : (lv : Int) = 0 := by omega
        go_wp2
        go_meet
        exact ⟨congrArg Value.bool (by first | exact (decide_eq_false (by omega)).symm | (rw [Bool.eq_iff_iff]; simp; omega)), rfl⟩
      · have il0 : ¬ (lv : Int) = 0 := by omega
        go_wp2
        go_meet
        exact ⟨congrArg Value.bool (by first | exact (decide_eq_true (by omega)).symm | (rw [Bool.eq_iff_iff]; simp; omega)), rfl⟩
  case rest =>
  obtain ⟨rfl, rfl⟩ := hcut
  by_cases h3 : ((k = 3 ∧ (lv < 1 ∨ 2 < lv)) ∨ (k ≠ 3 ∧ lv ≠ 0))
  · rw [decide_eq_true h3]
    obtain rfl : m = false := by rw [← HM.out]; unfold mayR; simp only [List.getD_cons_zero, List.getD_cons_succ]; rw [if_neg n1, if_pos h3]
    go_wp2
    go_ret
    exact ⟨rfl, HB.out⟩
  rw [decide_eq_false h3]
  have HN1 := Lib.hid n1; have HN3 := Lib.hid h3; clear n1 h3
  by_cases z : [a, b, c, d] = [0, 0, 0, 0]
  · have HZ := Lib.hid z; clear z
    obtain rfl : m = false := by rw [← HM.out]; unfold mayR; simp only [List.getD_cons_zero, List.getD_cons_succ]; rw [if_neg HN1.out, if_neg HN3.out, if_pos HZ.out]
    go_wp2_with (first | (refine wpL_val rfl (ex_ld (ty := 26) (cs := [a, b, c, d].map U16) rfl rfl HG.out Tryd.underlying26 rfl sizeAts) ?_) | (refine wpL_val rfl (ex_eqAts (a := [a, b, c, d]) (b := [0, 0, 0, 0]) rfl rfl rfl rfl rfl) ?_; rw [decide_eq_true HZ.out]) | fail)
    go_ret
    exact ⟨rfl, HB.out⟩
  have HZ := Lib.hid z; clear z
  go_upto_region 7 with (first | (refine wpL_val rfl (ex_ld (ty := 26) (cs := [a, b, c, d].map U16) rfl rfl HG.out Tryd.underlying26 rfl sizeAts) ?_) | (refine wpL_val rfl (ex_eqAts (a := [a, b, c, d]) (b := [0, 0, 0, 0]) rfl rfl rfl rfl rfl) ?_; rw [decide_eq_false HZ.out]) | fail)
  (try simp only [Act.put, List.setIfInBounds_toArray, List.set_cons_zero, List.set_cons_succ])
  go_cut [65] (fun v wx => v = .bool (decide ((a ≠ 0 ∧ a = b) ∨ (c ≠ 0 ∧ c = d))) ∧ wx = wc)
  case first =>
    by_cases a0 : a = 0
    · have ia0 : (a : Int) = 0 := by omega
      by_cases c0 : c = 0
      · have ic0 : (c : Int) = 0 := by omega
        go_wp2
        go_meet
        exact ⟨congrArg Value.bool (by first | exact (decide_eq_false (by omega)).symm | (rw [Bool.eq_iff_iff]; simp; omega)), rfl⟩
      · have ic0 : ¬ (c : Int) = 0 := by omega
        by_cases cd : c = d
        · have icd : (c : Int) = d := by omega
          go_wp2
          go_meet
          exact ⟨congrArg Value.bool (by first | exact (decide_eq_true (by omega)).symm | (rw [Bool.eq_iff_iff]; simp; omega)), rfl⟩
        · have icd : ¬ (c : Int) = d := by omega
          go_wp2
          go_meet
          exact ⟨congrArg Value.bool (by first | exact (decide_eq_false (by omega)).symm | (rw [Bool.eq_iff_iff]; simp; omega)), rfl⟩
    · have ia0 : ¬ (a : Int) = 0 := by omega
      by_cases ab : a = b
      · have iab : (a : Int) = b := by omega
        go_wp2
        go_meet
        exact ⟨congrArg Value.bool (by first | exact (decide_eq_true (by omega)).symm | (rw [Bool.eq_iff_iff]; simp; omega)), rfl⟩
      · have iab : ¬ (a : Int) = b := by omega
        by_cases c0 : c = 0
        · have ic0 : (c : Int) = 0 := by omega
          go_wp2
          go_meet
          exact ⟨congrArg Value.bool (by first | exact (decide_eq_false (by omega)).symm | (rw [Bool.eq_iff_iff]; simp; omega)), rfl⟩
        · have ic0 : ¬ (c : Int) = 0 := by omega
          by_cases cd : c = d
          · have icd : (c : Int) = d := by omega
            go_wp2
            go_meet
            exact ⟨congrArg Value.bool (by first | exact (decide_eq_true (by omega)).symm | (rw [Bool.eq_iff_iff]; simp; omega)), rfl⟩
          · have icd : ¬ (c : Int) = d := by omega
            go_wp2
            go_meet
            exact ⟨congrArg Value.bool (by first | exact (decide_eq_false (by omega)).symm | (rw [Bool.eq_iff_iff]; simp; omega)), rfl⟩
  case rest =>
  obtain ⟨rfl, rfl⟩ := hcut
  by_cases h7 : ((a ≠ 0 ∧ a = b) ∨ (c ≠ 0 ∧ c = d))
  · rw [decide_eq_true h7]
    obtain rfl : m = false := by rw [← HM.out]; unfold mayR; simp only [List.getD_cons_zero, List.getD_cons_succ]; rw [if_neg HN1.out, if_neg HN3.out, if_neg HZ.out, if_pos h7]
    go_wp2
    go_ret
    exact ⟨rfl, HB.out⟩
  rw [decide_eq_false h7]
  have HN7 := Lib.hid h7; clear h7
  by_cases k1 : k = 1
  · have ik1 : (k : Int) = 1 := by omega
    by_cases b0 : b = 0
    · have ib0 : (b : Int) = 0 := by omega
      by_cases d0 : d = 0
      · have id0 : (d : Int) = 0 := by omega
        obtain rfl : m = true := by rw [← HM.out]; unfold mayR; simp only [List.getD_cons_zero, List.getD_cons_succ]; rw [if_neg HN1.out, if_neg HN3.out, if_neg HZ.out, if_neg HN7.out]; exact decide_eq_true (by omega)
        go_wp2
        go_ret
        exact ⟨rfl, HB.out⟩
      · have id0 : ¬ (d : Int) = 0 := by omega
        have jd0 : ((d : Int) == 0) = false := by simp; omega
        obtain rfl : m = false := by rw [← HM.out]; unfold mayR; simp only [List.getD_cons_zero, List.getD_cons_succ]; rw [if_neg HN1.out, if_neg HN3.out, if_neg HZ.out, if_neg HN7.out]; exact decide_eq_false (by omega)
        go_wp2
        go_ret
        exact ⟨rfl, HB.out⟩
    · have ib0 : ¬ (b : Int) = 0 := by omega
      obtain rfl : m = false := by rw [← HM.out]; unfold mayR; simp only [List.getD_cons_zero, List.getD_cons_succ]; rw [if_neg HN1.out, if_neg HN3.out, if_neg HZ.out, if_neg HN7.out]; exact decide_eq_false (by omega)
      go_wp2
      go_ret
      exact ⟨rfl, HB.out⟩
  · have ik1 : ¬ (k : Int) = 1 := by omega
    obtain rfl : m = true := by rw [← HM.out]; unfold mayR; simp only [List.getD_cons_zero, List.getD_cons_succ]; rw [if_neg HN1.out, if_neg HN3.out, if_neg HZ.out, if_neg HN7.out]; exact decide_eq_true (by omega)
    go_wp2
    go_ret
    exact ⟨rfl, HB.out⟩
end Go.Proofs.YtecngehkdjmjmaaDoor
/- The document's reading of a pointer: what it holds while it reads. -/
namespace Go.Proofs.YtecngehkdjmjmaaDoor
open Go.RowKit

theorem ex_cvs {ρ : Operand → Value} {o : Oper} {x : Operand} {sp : Option Addr} {cap n : Nat} {l : Bs} {w : World} (ho : o.op = .convert 38 9 x) (hn : l.length = n) (hx : ρ x = .slice sp n cap) (hS : SrcA w sp l) : (execOp ρ o).run Tryd.prog w = .ok (.value (.string (bstr l))) w := by
  subst hn
  have h := conv_str (cap := cap) hS
  unfold execOp
  simp only [ho, hx]
  simp only [Sem.run_bind, h, Result.andThen_ok, Sem.run_pure]
theorem RefIs.keep {w w' : World} {K : Nat → Prop} {B : Nat} {sp : Option Addr} {l : Bs} {cap : Nat} (h : RefIs w (fun g => K g ∧ g < B) sp l cap) (hb : Below B w w') : RefIs w' (fun g => K g ∧ g < B) sp l cap :=
  ⟨h.1, h.2.1, fun h0 => by
    obtain ⟨g, o, e, hk, hg, hc⟩ := h.2.2 h0
    exact ⟨g, o, e, hk, Nat.lt_of_lt_of_le hg hb.size, fun j hj => (hb.cell (p := ⟨g, o + j, none⟩) hk.2).trans (hc j hj)⟩⟩
theorem RefIs.src {w : World} {K : Nat → Prop} {sp : Option Addr} {l : Bs} {cap : Nat} (h : RefIs w K sp l cap) : SrcA w sp l := h.2.2.srcA
section
variable {ops : Array Oper} {Q : Exit → Act → World → Prop} {S : World → Prop}
end
/-- What the document's Take holds, 64 bytes being there. -/
structure QtW (l : Bs) (w : World) (K : Nat → Prop) (spb : Option Addr) (capb : Nat) (spn : Option Addr) (capn : Nat) (g5 g6 g7 : Nat) (p : Pt) (rest : Bs) (W : World) : Prop where
  r2 : Blk W (w.heap.size + 1) (pcells zeroP) 28
  r3 : Blk W (w.heap.size + 1 + 1) [.slice none 0 0, .int .i64 0] 64
  b : RefIs W (fun g => K g ∧ g < w.heap.size) spb (l.take 64) capb
  n : RefIs W (fun g => K g ∧ g < w.heap.size) spn (l.drop 64) capn
  nx : Blk W g5 [.slice spn (l.drop 64).length capn, .int .i64 0] 64
  x : ∃ spx capx, Blk W g6 [.slice spx rest.length capx, .int .i64 0] 64 ∧ RefIs W (fun g => K g ∧ g < w.heap.size) spx rest capx
  p : Blk W g7 (pcells p) 28
  bel : Below w.heap.size w W
  o5 : w.heap.size + 1 + 1 < g5
  o6 : g5 < g6
  o7 : g6 < g7
section
variable {l : Bs} {w W W' : World} {K : Nat → Prop} {spb spn : Option Addr} {capb capn g5 g6 g7 : Nat} {p : Pt} {rest : Bs}
theorem QtW.grown (h : QtW l w K spb capb spn capn g5 g6 g7 p rest W) (hb : Below W.heap.size W W') : QtW l w K spb capb spn capn g5 g6 g7 p rest W' := by
  have hw := hb.mono h.bel.size
  obtain ⟨spx, capx, h1, h2⟩ := h.x
  exact ⟨h.r2.below hb h.r2.lt, h.r3.below hb h.r3.lt, h.b.keep hw, h.n.keep hw, h.nx.below hb h.nx.lt, ⟨spx, capx, h1.below hb h1.lt, h2.keep hw⟩, h.p.below hb h.p.lt, h.bel.trans hw, h.o5, h.o6, h.o7⟩
theorem QtW.drew (h : QtW l w K spb capb spn capn g5 g6 g7 p rest W) : QtW l w K spb capb spn capn g5 g6 g7 p rest W.drew := h.grown (Below.refl _ _).drew
/-- The pointer is written. -/
theorem QtW.put (h : QtW l w K spb capb spn capn g5 g6 g7 p rest W) {p' : Pt} (hp : Blk W' g7 (pcells p') 28) (hbf : ButFor g7 W W') : QtW l w K spb capb spn capn g5 g6 g7 p' rest W' := by
  have o5 := h.o5; have o6 := h.o6; have o7 := h.o7
  have hw : Below w.heap.size W W' := hbf.below (by omega) h.bel.size
  obtain ⟨spx, capx, h1, h2⟩ := h.x
  exact ⟨hbf.blk h.r2 (by omega), hbf.blk h.r3 (by omega), h.b.keep hw, h.n.keep hw, hbf.blk h.nx (by omega), ⟨spx, capx, hbf.blk h1 (by omega), h2.keep hw⟩, hp, h.bel.trans hw, o5, o6, o7⟩
/-- The start: both results, the reader behind the bytes, the bytes as a reader, the pointer. -/
theorem QtW.start {Z1 Z4 Z5 Z6 : World} (hr2 : Blk Z1 (w.heap.size + 1) (pcells zeroP) 28) (hr3 : Blk Z1 (w.heap.size + 1 + 1) [.slice none 0 0, .int .i64 0] 64) (hb : RefIs Z1 (fun g => K g ∧ g < w.heap.size) spb (l.take 64) capb) (hn : RefIs Z1 (fun g => K g ∧ g < w.heap.size) spn (l.drop 64) capn) (hbel : Below w.heap.size w Z1) {n : Nat} (hnl : (l.drop 64).length = n) (h64 : (l.take 64).length = 64) (z5 z6 z7 : Array Value)
    (e4 : Z4 = (Z1.alloc (.cells z5 64)).setRow Z1.heap.size #[.slice spn n capn, .int .i64 0]) (e5 : Z5 = (Z4.alloc (.cells z6 64)).setRow Z4.heap.size #[.slice spb 64 capb, .int .i64 0]) (e6 : Z6 = Z5.alloc (.cells z7 28)) (hz : z7 = (pcells zeroP).toArray) :
    QtW l w K spb capb spn capn Z1.heap.size Z4.heap.size Z5.heap.size zeroP (l.take 64) Z6 := by
  subst hnl
  obtain ⟨b1, c1⟩ := blk_row1 Z1 z5 [.slice spn (l.drop 64).length capn, .int .i64 0] 64
  have s4 : Z4.heap.size = Z1.heap.size + 1 := by rw [e4]; simp
  rw [show (Z1.alloc (.cells z5 64)).setRow Z1.heap.size [.slice spn (l.drop 64).length capn, .int .i64 0].toArray = Z4 from e4.symm] at b1 c1
  obtain ⟨b2, c2⟩ := blk_row1 Z4 z6 [.slice spb 64 capb, .int .i64 0] 64
  have s5 : Z5.heap.size = Z4.heap.size + 1 := by rw [e5]; simp
  rw [show (Z4.alloc (.cells z6 64)).setRow Z4.heap.size [.slice spb 64 capb, .int .i64 0].toArray = Z5 from e5.symm] at b2 c2
  have b3 : Blk Z6 Z5.heap.size (pcells zeroP) 28 := by rw [e6, hz]; exact Blk.new _ _ _
  have c3 : Below Z5.heap.size Z5 Z6 := by rw [e6]; exact (Below.refl _ _).alloc (Nat.le_refl _) _
  have l2 := hr2.lt; have l3 := hr3.lt
  have cw : Below w.heap.size Z1 Z6 := (c1.mono hbel.size).trans ((c2.mono (by have := hbel.size; omega)).trans (c3.mono (by have := hbel.size; omega)))
  have c16 : Below Z1.heap.size Z1 Z6 := c1.trans ((c2.mono (by omega)).trans (c3.mono (by omega)))
  exact ⟨hr2.below c16 l2, hr3.below c16 l3, hb.keep cw, hn.keep cw, b1.below (c2.trans (c3.mono (by omega))) (by omega), ⟨spb, capb, by rw [h64]; exact b2.below c3 (by omega), hb.keep cw⟩, b3, hbel.trans cw, by omega, by omega, by omega⟩
end
end Go.Proofs.YtecngehkdjmjmaaDoor
/- The document's reading of a pointer, walked. -/
namespace Go.Proofs.YtecngehkdjmjmaaDoor
open Go.RowKit

theorem pt_take (l : Bs) : pt (l.take 64) = pt l := by
  have h : ∀ n m, n + m ≤ 64 → ((l.take 64).drop n).take m = (l.drop n).take m := fun n m hnm => by
    rw [List.drop_take, List.take_take, Nat.min_eq_left (by omega)]
  unfold pt
  rw [h 1 1 (by omega), h 2 2 (by omega), h 4 4 (by omega), h 8 8 (by omega), h 16 32 (by omega), h 48 2 (by omega), h 50 2 (by omega), h 52 2 (by omega), h 54 2 (by omega), List.take_take, Nat.min_eq_left (by omega)]
theorem w8 {n : Nat} (h : n < 256) : IntKind.u8.wrap (n : Int) = n := by simp only [IntKind.wrap_u8']; omega
end Go.Proofs.YtecngehkdjmjmaaDoor
/- Inodes, plain: their cells, their bytes; the inode of bytes; whether one may be; four of them. -/
namespace Go.Proofs.YtecngehkdjmjmaaDoor
open Go.RowKit

structure Ino where
  kind : Nat
  links : Nat
  size : Nat
  root : Pt
structure Ino.OK (n : Ino) : Prop where
  kind : n.kind < 256
  links : n.links < 65536
  size : n.size < 4294967296
  root : n.root.OK
def inums (n : Ino) : List Value := [.int .u8 (n.kind : Int), .int .u16 (n.links : Int), .int .u32 (n.size : Int)]
def icells (n : Ino) : List Value := inums n ++ pcells n.root
theorem icells_length {n : Ino} (h : n.OK) : (icells n).length = 44 := by simp [icells, inums, pcells_length h.root]
def zeroI : Ino := ⟨0, 0, 0, zeroP⟩
theorem zeroI_ok : zeroI.OK := ⟨by simp [zeroI], by simp [zeroI], by simp [zeroI], zeroP_ok⟩
def eqI (a b : Ino) : Bool := decide (a.kind = b.kind) && decide (a.links = b.links) && decide (a.size = b.size) && eqP a.root b.root
theorem eqI_iff {a b : Ino} : eqI a b = true ↔ a = b := by
  obtain ⟨k, l, s, r⟩ := a
  obtain ⟨k', l', s', r'⟩ := b
  simp only [eqI, Bool.and_eq_true, decide_eq_true_eq, eqP_iff, Ino.mk.injEq, and_assoc]
theorem eqI_same (a : Ino) : eqI a a = true := eqI_iff.2 rfl
instance decIno : DecidableEq Ino := fun _ _ => decidable_of_iff _ eqI_iff
/-- A root that may be. -/
def rootI (p : Pt) : Bool := eqP p zeroP || (decide (p.kind = 3) && decide (p.level = 2) && mayP p)
/-- Whether an inode may be. -/
def mayI (n : Ino) : Bool := eqI n zeroI || (decide (1 ≤ n.kind ∧ n.kind ≤ 3) && decide (n.size ≤ 32768) && decide (n.kind = 3 → 1 ≤ n.size ∧ n.size ≤ 128) && rootI n.root)
theorem mayI_zero : mayI zeroI = true := by unfold mayI; rw [eqI_same]; rfl
/-- An inode's bytes. -/
def inoB (n : Ino) : Bs := leb n.kind 1 ++ ([0#8] ++ (leb n.links 2 ++ (leb n.size 4 ++ (padB n.root ++ List.replicate 56 0#8))))
theorem inoB_length {n : Ino} (h : n.OK) : (inoB n).length = 128 := by simp [inoB, leb_length, padB_length h.root]
/-- The inode of bytes. -/
def ino (l : Bs) : Ino := ⟨val (l.take 1), val ((l.drop 2).take 2), val ((l.drop 4).take 4), pt (l.drop 8)⟩
/-- What must be noughts. -/
def quietI (l : Bs) : Bool := ((l.drop 1).take 1).all (· == 0#8) && quietP ((l.drop 8).take 64) && ((l.drop 72).take 56).all (· == 0#8)
/-- What is put is taken. -/
theorem ino_back {n : Ino} (h : n.OK) (r : Bs) : ino (inoB n ++ r) = n ∧ quietI (inoB n ++ r) = true := by
  have e : inoB n ++ r = leb n.kind 1 ++ ([0#8] ++ (leb n.links 2 ++ (leb n.size 4 ++ (padB n.root ++ (List.replicate 56 0#8 ++ r))))) := by simp [inoB]
  have v : ∀ n m, n < 2 ^ (8 * m) → val (leb n m) = n := fun n m hn => by rw [val_leb]; exact Nat.mod_eq_of_lt hn
  have L : ∀ n m, (leb n m).length = m := leb_length
  have LP := padB_length h.root
  have d1 : (inoB n ++ r).drop 1 = [0#8] ++ (leb n.links 2 ++ (leb n.size 4 ++ (padB n.root ++ (List.replicate 56 0#8 ++ r)))) := by rw [e, List.drop_left' (L _ _)]
  have d2 : (inoB n ++ r).drop 2 = leb n.links 2 ++ (leb n.size 4 ++ (padB n.root ++ (List.replicate 56 0#8 ++ r))) := drop_step (n := 1) (m := 1) d1 rfl
  have d4 : (inoB n ++ r).drop 4 = leb n.size 4 ++ (padB n.root ++ (List.replicate 56 0#8 ++ r)) := drop_step (n := 2) (m := 2) d2 (L _ _)
  have d8 : (inoB n ++ r).drop 8 = padB n.root ++ (List.replicate 56 0#8 ++ r) := drop_step (n := 4) (m := 4) d4 (L _ _)
  have d72 : (inoB n ++ r).drop 72 = List.replicate 56 0#8 ++ r := drop_step (n := 8) (m := 64) d8 LP
  constructor
  · unfold ino
    rw [d2, d4, ← pt_take ((inoB n ++ r).drop 8), d8, e]
    simp only [List.take_left' (L _ _), List.take_left' LP]
    rw [v _ 1 h.kind, v _ 2 h.links, v _ 4 h.size, (pt_padB h.root).1]
  · unfold quietI
    rw [d1, d8, d72, List.take_left' LP, (pt_padB h.root).2, List.take_left' (by simp), List.take_left' (by simp)]
    rfl

/-- Four inodes. -/
def bcells (ns : List Ino) : List Value := ns.flatMap icells
structure BOK (ns : List Ino) : Prop where
  len : ns.length = 4
  ok : ∀ n ∈ ns, n.OK
theorem bcells_length : ∀ {ns : List Ino}, (∀ n ∈ ns, n.OK) → (bcells ns).length = 44 * ns.length
  | [], _ => rfl
  | p :: ns, h => by
    have ih := bcells_length (ns := ns) (fun q hq => h q (by simp [hq]))
    have h1 := icells_length (h p (by simp))
    simp only [bcells, List.flatMap_cons, List.length_append, List.length_cons] at *
    omega
theorem BOK.cells {ns : List Ino} (h : BOK ns) : (bcells ns).length = 176 := by rw [bcells_length h.ok, h.len]
theorem BOK.size {ns : List Ino} (h : BOK ns) : (bcells ns).toArray.size = 176 := by rw [List.size_toArray, h.cells]
theorem BOK.at {ns : List Ino} (h : BOK ns) {k : Nat} {n : Ino} (hk : ns[k]? = some n) : n.OK := h.ok n (List.mem_of_getElem? hk)
theorem BOK.get {ns : List Ino} (h : BOK ns) {k : Nat} (hk : k < 4) : ∃ n, ns[k]? = some n := ⟨_, List.getElem?_eq_getElem (by rw [h.len]; exact hk)⟩
theorem bcells_append (a b : List Ino) : bcells (a ++ b) = bcells a ++ bcells b := by simp [bcells]
theorem bcells_cons (n : Ino) (b : List Ino) : bcells (n :: b) = icells n ++ bcells b := by simp [bcells]
theorem isplit_at {α : Type} {l : List α} {k : Nat} {x : α} (h : l[k]? = some x) : l = l.take k ++ (x :: l.drop (k + 1)) := by
  obtain ⟨hk, e⟩ := List.getElem?_eq_some_iff.1 h
  rw [← e, ← List.drop_eq_getElem_cons hk, List.take_append_drop]
theorem bcells_split {ns : List Ino} (h : ∀ n ∈ ns, n.OK) {k : Nat} {n : Ino} (hk : ns[k]? = some n) : bcells ns = bcells (ns.take k) ++ (icells n ++ bcells (ns.drop (k + 1))) ∧ (bcells (ns.take k)).length = 44 * k := by
  obtain ⟨hl, _⟩ := List.getElem?_eq_some_iff.1 hk
  constructor
  · conv => lhs; rw [isplit_at hk]
    rw [bcells_append, bcells_cons]
  · rw [bcells_length (fun q hq => h q (List.mem_of_mem_take hq)), List.length_take, Nat.min_eq_left (Nat.le_of_lt hl)]
theorem iset_at {α : Type} {l : List α} {k : Nat} (h : k < l.length) (x : α) : l.set k x = l.take k ++ (x :: l.drop (k + 1)) := by
  rw [List.set_eq_take_append_cons_drop, if_pos h]
theorem bcells_set {ns : List Ino} (h : ∀ n ∈ ns, n.OK) {k : Nat} (hk : k < ns.length) {q : Ino} (hq : q.OK) : splice (bcells ns) (44 * k) (icells q) = bcells (ns.set k q) := by
  obtain ⟨p, hp⟩ : ∃ p, ns[k]? = some p := ⟨_, List.getElem?_eq_getElem hk⟩
  obtain ⟨e, hl⟩ := bcells_split h hp
  have hpo := h p (List.mem_of_getElem? hp)
  unfold splice
  rw [e, List.take_left' hl, ← List.drop_drop, List.drop_left' hl, List.drop_left' (by rw [icells_length hq, icells_length hpo]), iset_at hk, bcells_append, bcells_cons]
theorem BOK.set {ns : List Ino} (h : BOK ns) (k : Nat) {q : Ino} (hq : q.OK) : BOK (ns.set k q) :=
  ⟨by rw [List.length_set, h.len], fun p hp => by
    rcases List.mem_or_eq_of_mem_set hp with h1 | h1
    · exact h.ok p h1
    · rw [h1]; exact hq⟩
def zeros4 : List Ino := List.replicate 4 zeroI
theorem zeros4_ok : BOK zeros4 := ⟨rfl, fun p hp => by rw [List.eq_of_mem_replicate hp]; exact zeroI_ok⟩
theorem one_ic (n : Ino) : (icells n).toArray.all (·.oneCell') = true := by
  rw [Array.all_eq_true_iff_forall_mem]
  intro v hv
  simp only [List.mem_toArray, icells, inums, List.mem_append, List.mem_cons, List.not_mem_nil, or_false] at hv
  rcases hv with (rfl | rfl | rfl) | hp
  · rfl
  · rfl
  · rfl
  · exact Array.all_eq_true_iff_forall_mem.1 (one_pc n.root) v (by simpa using hp)
theorem bcells_one (ns : List Ino) : (bcells ns).toArray.all (·.oneCell') = true := by
  rw [Array.all_eq_true_iff_forall_mem]
  intro v hv
  simp only [List.mem_toArray, bcells, List.mem_flatMap] at hv
  obtain ⟨p, _, hp⟩ := hv
  exact Array.all_eq_true_iff_forall_mem.1 (one_ic p) v (by simpa using hp)

/-- A table block's bytes. -/
def blkB (ns : List Ino) : Bs := ns.flatMap inoB
theorem blkB_length : ∀ {ns : List Ino}, (∀ n ∈ ns, n.OK) → (blkB ns).length = 128 * ns.length
  | [], _ => rfl
  | p :: ns, h => by
    have ih := blkB_length (ns := ns) (fun q hq => h q (by simp [hq]))
    have h1 := inoB_length (h p (by simp))
    simp only [blkB, List.flatMap_cons, List.length_append, List.length_cons] at *
    omega
theorem itake_snoc {α : Type} {l : List α} {k : Nat} {x : α} (h : l[k]? = some x) : l.take (k + 1) = l.take k ++ [x] := by
  obtain ⟨hk, e⟩ := List.getElem?_eq_some_iff.1 h
  rw [List.take_succ_eq_append_getElem hk, e]
theorem blkB_take {ns : List Ino} {k : Nat} {n : Ino} (h : ns[k]? = some n) : blkB (ns.take (k + 1)) = blkB (ns.take k) ++ inoB n := by
  rw [itake_snoc h]; simp [blkB]
theorem len_blkB {ns : List Ino} (h : BOK ns) {k : Nat} (hk : k ≤ 4) : (blkB (ns.take k)).length = 128 * k := by
  rw [blkB_length (fun p hp => h.ok p (List.mem_of_mem_take hp)), List.length_take, h.len, Nat.min_eq_left hk]
/-- The block without the inodes that may not be. -/
def allowI (n : Ino) : Ino := if mayI n then n else zeroI
def allow (ns : List Ino) : List Ino := ns.map allowI
theorem allowI_ok {n : Ino} (h : n.OK) : (allowI n).OK := by
  unfold allowI
  split
  · exact h
  · exact zeroI_ok
theorem allow_ok {ns : List Ino} (h : BOK ns) : BOK (allow ns) := ⟨by simp [allow, h.len], fun p hp => by
  simp only [allow, List.mem_map] at hp
  obtain ⟨q, hq, rfl⟩ := hp
  exact allowI_ok (h.ok q hq)⟩
def allMay (ns : List Ino) : Bool := ns.all mayI
theorem allow_eq : ∀ ns : List Ino, ns = allow ns ↔ allMay ns = true
  | [] => by simp [allow, allMay]
  | n :: ns => by
    have ih := allow_eq ns
    simp only [allow, allMay, List.map_cons, List.all_cons, Bool.and_eq_true, List.cons.injEq] at ih ⊢
    rw [ih]
    have e : n = allowI n ↔ mayI n = true := by
      unfold allowI
      cases h : mayI n
      · simp only [Bool.false_eq_true, if_false, iff_false]
        intro e
        rw [e, mayI_zero] at h
        cases h
      · simp
    rw [e]
/-- The inodes of a block. -/
def fineI (l : Bs) : Bool := quietI l && mayI (ino l)
def inoOk (l : Bs) : Bool := decide (l.length = 512) && (List.range 4).all fun j => fineI (l.drop (128 * j))
def inoL (l : Bs) : List Ino := (List.range 4).map fun j => ino (l.drop (128 * j))
def inoT (l : Bs) : List Ino := if inoOk l then inoL l else zeros4
def inoE (l : Bs) : Nat := if inoOk l then 0 else 5
theorem ipiece_at : ∀ {ns : List Ino}, (∀ n ∈ ns, n.OK) → ∀ {j : Nat} {n : Ino}, ns[j]? = some n → ∃ r, (blkB ns).drop (128 * j) = inoB n ++ r
  | [], _, j, p, h => by simp at h
  | q :: ns, hok, j, p, h => by
    have hq := inoB_length (hok q (by simp))
    have e : blkB (q :: ns) = inoB q ++ blkB ns := by simp [blkB]
    match j, h with
    | 0, h =>
      simp only [List.getElem?_cons_zero, Option.some.injEq] at h
      subst h
      exact ⟨blkB ns, by rw [e, Nat.mul_zero, List.drop_zero]⟩
    | j + 1, h =>
      simp only [List.getElem?_cons_succ] at h
      rw [e, show 128 * (j + 1) = 128 + 128 * j by omega, ← List.drop_drop, List.drop_left' hq]
      exact ipiece_at (ns := ns) (fun p hp => hok p (by simp [hp])) h
/-- What is put is taken. -/
theorem iput_back {ns : List Ino} (h : BOK ns) (hp : allMay ns = true) : inoOk (blkB ns) = true ∧ inoT (blkB ns) = ns := by
  have hl : (blkB ns).length = 512 := by rw [blkB_length h.ok, h.len]
  have hat : ∀ {j n}, ns[j]? = some n → ino ((blkB ns).drop (128 * j)) = n ∧ quietI ((blkB ns).drop (128 * j)) = true := fun {j n} hj => by
    obtain ⟨r, hr⟩ := ipiece_at h.ok hj
    rw [hr]
    exact ino_back (h.at hj) r
  have h0 : inoOk (blkB ns) = true := by
    unfold inoOk
    simp only [Bool.and_eq_true, decide_eq_true_eq, List.all_eq_true, List.mem_range]
    refine ⟨hl, fun j hj => ?_⟩
    obtain ⟨n, hn⟩ := h.get hj
    obtain ⟨h1, h2⟩ := hat hn
    unfold fineI
    rw [h1, h2, List.all_eq_true.1 hp n (List.mem_of_getElem? hn)]
    rfl
  refine ⟨h0, ?_⟩
  unfold inoT
  rw [if_pos h0]
  apply List.ext_getElem?
  intro j
  by_cases hj : j < 4
  · obtain ⟨n, hn⟩ := h.get hj
    rw [hn]
    simp [inoL, hj, (hat hn).1]
  · rw [List.getElem?_eq_none (by simp [inoL]; omega), List.getElem?_eq_none (by rw [h.len]; omega)]
end Go.Proofs.YtecngehkdjmjmaaDoor
