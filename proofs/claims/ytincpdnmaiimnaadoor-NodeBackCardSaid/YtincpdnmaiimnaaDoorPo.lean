/- The document's bytes of a pointer. -/
import Derived.Test.YtincpdnmaiimnaaDoorPn
namespace Go.Proofs.YtincpdnmaiimnaaDoor
open Go.RowKit

theorem take_oneB {l : Bs} {k : Nat} {x : BitVec 8} (h : l[k]? = some x) : l.take (k + 1) = l.take k ++ [x] := by
  obtain ⟨h2, h3⟩ := List.getElem?_eq_some_iff.1 h
  rw [List.take_succ_eq_append_getElem h2, h3]
/-- While the document's Bytes goes. -/
def QbRel (p : Pt) (w : World) (v : Value) (l : Bs) (wr : World) : Prop := OwnB wr (w.heap.size + 1) v l ∧ Below w.heap.size w wr ∧ Blk wr w.heap.size (pcells p) 28
theorem QbRel.next {p : Pt} {w wr w' : World} {v v' : Value} {l l' : Bs} (h : QbRel p w v l wr) (ho : OwnB w' (w.heap.size + 1) v' l') (hb : Below (w.heap.size + 1) wr w') : QbRel p w v' l' w' :=
  have h1 := h.2.2.lt
  ⟨ho, h.2.1.trans (hb.mono (by omega)), h.2.2.below hb (by omega)⟩
/-- A number more. -/
theorem QbRel.num {p : Pt} {w wr w4 : World} {v u : Value} {l : Bs} {n k : Nat} (h : QbRel p w v l wr) (hl : l.length ≤ 100) (hk : k ≤ 8) (ho4 : OwnB w4 wr.heap.size u (leb n k)) (hb4 : Below wr.heap.size wr w4) :
    ∃ sp n' c v5 w5, (∃ sp4 cap4, u = .slice sp4 k cap4) ∧ v5 = .slice sp n' c ∧ (∀ ty, (Builtin.append_ #[30, 30] ty #[v, u]).run Tryd.prog w4 = .ok v5 w5) ∧ QbRel p w v5 (l ++ leb n k) w5 := by
  obtain ⟨sp4, cap4, e4, q1, q2, q3, q4, q5⟩ := OwnB.form ho4
  rw [leb_length] at e4
  subst e4
  have h1 := h.2.2.lt
  obtain ⟨v5, w5, hr5, ho5, hb5⟩ := ownB_src (m := leb n k) (h.1.below hb4 (Nat.le_refl _)) (by have := hb4.size; omega) (by rw [leb_length]; omega) q3 q4 30
  rw [leb_length] at hr5
  obtain ⟨sp, c, e, _⟩ := OwnB.form ho5
  exact ⟨sp, _, c, v5, w5, ⟨_, _, rfl⟩, e, fun _ => hr5, h.next ho5 ((hb4.mono (by omega)).trans hb5)⟩
theorem qb_start {p : Pt} (hp : p.OK) (w : World) : QbRel p w (.slice (some ⟨w.heap.size + 1, 0, none⟩) 2 2) (leb p.kind 1 ++ leb p.level 1) ((w.alloc (.cells (pcells p).toArray 28)).alloc (.cells #[.int .u8 (p.kind : Int), .int .u8 (p.level : Int)] 5)) := by
  have h : Blk ((w.alloc (.cells (pcells p).toArray 28)).alloc (.cells #[.int .u8 (p.kind : Int), .int .u8 (p.level : Int)] 5)) (w.heap.size + 1) [V8 (lb p.kind 0), V8 (lb p.level 0)] 5 := Blk.new' _ _ _ _ _ (by simp) (by rw [u8_cell hp.kind, u8_cell hp.level])
  have ho := h.owns (base := w.heap.size + 1) (n := 2) (Nat.le_refl _) (Nat.le_refl _) (by unfold maxLen; simp)
  exact ⟨ho, ((Below.refl _ _).alloc (Nat.le_refl _) _).alloc (by simp) _, (Blk.new _ _ _).alloc _⟩
set_option maxRecDepth 100000 in
set_option maxHeartbeats 8000000 in
theorem qbytes_any (p : Pt) (hp : p.OK) (w : World) : Calls Tryd.prog 7 #[.agg (pcells p).toArray] w fun e w' => ∃ v, e = .returned v ∧ OwnB w' w.heap.size v (padB p) ∧ Below w.heap.size w w' := by
  have HP := Lib.hid hp
  have HG0 : Hid (Blk (w.alloc (.cells (pcells p).toArray 28)) w.heap.size (pcells p) 28) := Lib.hid (Blk.new _ _ _)
  have cK := HG0.out.cell (j := 0) rfl
  have cL := HG0.out.cell (j := 1) rfl
  have b1 := hp.obj; have b2 := hp.off; have b3 := hp.birth
  have HB1 := Lib.hid b1; have HB2 := Lib.hid b2; have HB3 := Lib.hid b3
  clear hp b1 b2 b3
  go_enter Tryd.func7, Tryd.ntmps7
  go_upto_region 2 with fail
  refine (fun (k : ∀ W1, QbRel p w (.slice (some ⟨w.heap.size + 1, 0, none⟩) 2 2) (leb p.kind 1 ++ leb p.level 1) W1 → Code.wp _ _ _ _ W1) => k _ (qb_start HP.out w)) ?_
  intro W1 hR1
  have HR1 := Lib.hid hR1
  clear cK cL HG0 hR1
  have c1 : W1.cell? ⟨w.heap.size, 2, none⟩ = some (.int .u16 (p.obj : Int)) := HR1.out.2.2.cell rfl
  have e1 := u64_in p.obj (by have := HB1.out; omega)
  go_wp2_with fail
  refine (wNum_any p.obj 2 W1 (by omega) (by have := HB1.out; omega)).mono ?_
  rintro e w2 ⟨u2, rfl, ho2, hb2⟩
  obtain ⟨sp2, n2, k2, v3, w3, ⟨_, _, rfl⟩, rfl, hr3, hq3⟩ := HR1.out.num (by simp [leb_length]) (by omega) ho2 hb2
  have HA2 := Lib.hid hr3; have HR2 := Lib.hid hq3
  clear ho2 hb2 hr3 hq3 HR1 c1 e1
  have c2 : w3.cell? ⟨w.heap.size, 3, none⟩ = some (.int .u32 (p.off : Int)) := HR2.out.2.2.cell rfl
  have e2 := u64_in p.off (by have := HB2.out; omega)
  go_wp2_with (first | (at_builtin; refine wpL_val rfl (ex_appB rfl rfl rfl (HA2.out _)) ?_) | fail)
  refine (wNum_any p.off 4 w3 (by omega) (by have := HB2.out; omega)).mono ?_
  rintro e w4 ⟨u4, rfl, ho4, hb4⟩
  obtain ⟨sp4, n4, k4, v5, w5, ⟨_, _, rfl⟩, rfl, hr5, hq5⟩ := HR2.out.num (by simp [leb_length]) (by omega) ho4 hb4
  have HA3 := Lib.hid hr5; have HR3 := Lib.hid hq5
  clear ho4 hb4 hr5 hq5 HR2 HA2 c2 e2
  have c3 : w5.cell? ⟨w.heap.size, 4, none⟩ = some (.int .u64 (p.birth : Int)) := HR3.out.2.2.cell rfl
  go_wp2_with (first | (at_builtin; refine wpL_val rfl (ex_appB rfl rfl rfl (HA3.out _)) ?_) | fail)
  refine (wNum_any p.birth 8 w5 (by omega) HB3.out).mono ?_
  rintro e w6 ⟨u6, rfl, ho6, hb6⟩
  obtain ⟨sp6, n6, k6, v7, w7, ⟨_, _, rfl⟩, rfl, hr7, hq7⟩ := HR3.out.num (by simp [leb_length]) (by omega) ho6 hb6
  have HA4 := Lib.hid hr7
  have HR4 : Hid (QbRel p w (.slice sp6 n6 k6) (tagB p ++ p.hash.take 0) w7) := Lib.hid (by simpa [tagB] using hq7)
  clear ho6 hb6 hr7 hq7 HR3 HA3 c3
  go_wp2_with (first | (at_builtin; refine wpL_val rfl (ex_appB rfl rfl rfl (HA4.out _)) ?_) | fail)
  go_loopw [3, 4] (fun v i wr => ∃ k : Nat, k ≤ 32 ∧ i = .int .i64 (k : Int) ∧ QbRel p w v (tagB p ++ p.hash.take k) wr) (fun _ i _ => 32 - (intOf i).toNat)
  case atStart => exact ⟨0, by omega, rfl, HR4.out⟩
  case round =>
    clear HR4 HA4
    obtain ⟨k, hk, rfl, hR⟩ := hrel
    have HR := Lib.hid hR
    obtain ⟨sp, cap, rfl, -⟩ := OwnB.form hR.1
    have hgl := hR.2.2
    have hgs := hgl.lt
    have wk1 := IntWalk.i64_in ((k : Int) + 1) (by omega)
    clear hR
    by_cases hlt : k < 32
    · obtain ⟨x, hx⟩ : ∃ x, p.hash[k]? = some x := ⟨_, List.getElem?_eq_getElem (by have := HP.out.hash; omega)⟩
      have cx := cell_hash hgl hx
      have hz : Below wr.heap.size wr (wr.alloc (.cells #[V8 x] 5)) := (Below.refl _ _).alloc (Nat.le_refl _) _
      obtain ⟨v3, w3, hr3, ho3, hb3⟩ := ownB_app (m := [x]) (HR.out.1.below hz (Nat.le_refl _)) (by have := hz.size; omega) (by simp [tagB_length]; omega) (g := wr.heap.size) (off := 0) (c := 1) (rng_all (Blk.new wr [V8 x] 5)) 30
      obtain ⟨sp3, n3, cap3, rfl⟩ : ∃ sp n c, v3 = .slice sp n c := by
        obtain ⟨sp, c, e, _⟩ := OwnB.form ho3
        exact ⟨sp, _, c, e⟩
      have HR3 := Lib.hid hr3
      have HN := Lib.hid (show QbRel p w (.slice sp3 n3 cap3) (tagB p ++ p.hash.take (k + 1)) w3 from HR.out.next (by rw [take_oneB hx, ← List.append_assoc]; exact ho3) ((hz.mono (by omega)).trans hb3))
      clear hx hgl hr3 ho3 hb3 hz HR
      go_wp2_with (first | (at_builtin; refine wpL_val rfl (ex_appB rfl rfl rfl HR3.out) ?_) | fail)
      go_roundw
      case rel => exact ⟨k + 1, by omega, by go_num, HN.out⟩
      case measure => simp [intOf]; omega
    · have em : (k : Int) = 32 := by omega
      rw [em]
      obtain rfl : k = 32 := by omega
      clear em
      have e32 : p.hash.take 32 = p.hash := List.take_of_length_le (by have := HP.out.hash; omega)
      have HR2 : Hid (QbRel p w (.slice sp (tagB p ++ p.hash.take 32).length cap) (tagB p ++ p.hash ++ tailB (p.ats.take 0)) wr) := Lib.hid (by have := HR.out; rw [e32] at this ⊢; simpa [tailB] using this)
      clear hlt hk hgl HR e32
      go_wp2_with fail
      go_loopw [3, 5] (fun v i wr => ∃ k : Nat, k ≤ 4 ∧ i = .int .i64 (k : Int) ∧ QbRel p w v (tagB p ++ p.hash ++ tailB (p.ats.take k)) wr) (fun _ i _ => 4 - (intOf i).toNat)
      case atStart => exact ⟨0, by omega, rfl, HR2.out⟩
      case round =>
        clear HR2
        obtain ⟨k, hk, rfl, hR⟩ := hrel
        have HR := Lib.hid hR
        obtain ⟨sp, cap, e, -⟩ := OwnB.form hR.1
        have hlen := body_len HP.out hk
        have HLN := Lib.hid hlen
        rw [hlen] at e
        subst e
        have hgl := hR.2.2
        have hgs := hgl.lt
        have wk1 := IntWalk.i64_in ((k : Int) + 1) (by omega)
        clear hR hlen
        by_cases hlt : k < 4
        · obtain ⟨x, hx⟩ : ∃ x, p.ats[k]? = some x := ⟨_, List.getElem?_eq_getElem (by have := HP.out.len; omega)⟩
          have cx := cell_ats hgl HP.out.hash hx
          have hxl : x < 65536 := HP.out.ats x (List.mem_of_getElem? hx)
          have hw64 : IntKind.u64.wrap (x : Int) = (x : Int) := u64_in x (by omega)
          have HX := Lib.hid hx
          have HXL := Lib.hid hxl
          clear hx hgl hxl
          go_wp2_with fail
          refine (wNum_any x 2 wr (by omega) (by have := HXL.out; omega)).mono ?_
          rintro e w4 ⟨u, rfl, ho4, hb4⟩
          obtain ⟨sp5, n5, cap5, v5, w5, ⟨_, _, rfl⟩, rfl, hr5, hq5⟩ := HR.out.num (by rw [HLN.out]; omega) (by omega) ho4 hb4
          have HR5 := Lib.hid hr5
          have HN := Lib.hid (show QbRel p w (.slice sp5 n5 cap5) (tagB p ++ p.hash ++ tailB (p.ats.take (k + 1))) w5 by rw [val_take_one HX.out, tailB_snoc, ← List.append_assoc]; exact hq5)
          clear hr5 hq5 ho4 hb4 HR
          go_wp2_with (first | (at_builtin; refine wpL_val rfl (ex_appB rfl rfl rfl (HR5.out _)) ?_) | fail)
          go_roundw
          case rel => exact ⟨k + 1, by omega, by go_num, HN.out⟩
          case measure => simp [intOf]; omega
        · have em : (k : Int) = 4 := by omega
          rw [em]
          obtain rfl : k = 4 := by omega
          clear em
          have e4 : p.ats.take 4 = p.ats := List.take_of_length_le (by have := HP.out.len; omega)
          have hb : tagB p ++ p.hash ++ tailB (p.ats.take 4) = bodyB p := by rw [e4]; rfl
          have hR3 := HR.out
          rw [hb] at hR3
          have hbl : (bodyB p).length = 56 := bodyB_length HP.out
          obtain ⟨sp9, cap9, e9, q1, q2, q3, q4, q5⟩ := OwnB.form hR3.1
          rw [hbl] at e9
          injection e9 with e91 e92 e93
          subst e91 e93
          have hc := wFillR_any (bodyB p) sp cap 64 wr (by rw [hbl]; omega) (by omega) q1 q4 q3
          rw [hbl] at hc
          have hpad : fillOf (bodyB p) 64 = padB p := by
            unfold fillOf padB
            rw [hbl]
            rfl
          rw [hpad] at hc
          have HC := Lib.hid hc
          have HBW := Lib.hid hR3.2.1
          clear hlt hk hgl HR HLN e4 hb hbl hc hR3 q1 q2 q3 q4 q5 e92
          rw [show 48 + 2 * 4 = 56 from rfl]
          go_wp2_with (first | (go_at_call 18; refine HC.out.mono ?_; rintro e w9 ⟨v9, rfl, ho9, hb9⟩; have HO9 := Lib.hid (ho9.mono (B' := w.heap.size) HBW.out.size); have HB9 := Lib.hid (HBW.out.trans (hb9.mono HBW.out.size)); clear ho9 hb9) | fail)
          go_ret
          exact ⟨_, rfl, HO9.out, HB9.out⟩
end Go.Proofs.YtincpdnmaiimnaaDoor
