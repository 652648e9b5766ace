/- The document's Put. -/
import Derived.Test.YtchbeaogbjmddaaWk
namespace Go.Proofs.Ytchbeaogbjmddaa
open Go.RowKit

theorem take_oneB {l : Bs} {k : Nat} {x : BitVec 8} (h : l[k]? = some x) : l.take (k + 1) = l.take k ++ [x] := by
  obtain ⟨h2, h3⟩ := List.getElem?_eq_some_iff.1 h
  rw [List.take_succ_eq_append_getElem h2, h3]
/-- While the document's Put goes. -/
def RpRel (a : An) (w : World) (v : Value) (l : Bs) (wr : World) : Prop :=
  OwnB wr (w.heap.size + 2) v l ∧ Below w.heap.size w wr ∧ Blk wr w.heap.size (acells a) 27 ∧ Blk wr (w.heap.size + 1) (List.replicate 64 (Value.int .u8 0)) 28
theorem RpRel.next {a : An} {w wr w' : World} {v v' : Value} {l l' : Bs} (h : RpRel a w v l wr) (ho : OwnB w' (w.heap.size + 2) v' l') (hb : Below (w.heap.size + 2) wr w') : RpRel a w v' l' w' :=
  have h1 := h.2.2.1.lt
  have h2 := h.2.2.2.lt
  ⟨ho, h.2.1.trans (hb.mono (by omega)), h.2.2.1.below hb (by omega), h.2.2.2.below hb (by omega)⟩
/-- While the bytes are laid. -/
structure Rp3 (a : An) (w : World) (sp : Option Addr) (g6 k : Nat) (wr : World) : Prop where
  bel : Below w.heap.size w wr
  res : Blk wr (w.heap.size + 1) (List.replicate 64 (Value.int .u8 0)) 28
  src : SrcX wr (fun g => g < g6) sp (body a)
  out : Blk wr g6 (((body a).take k ++ List.replicate (64 - k) 0#8).map V8) 28
  h6 : w.heap.size + 2 ≤ g6
theorem rp3_start {a : An} {w wr : World} {sp : Option Addr} {cap : Nat} (ha : a.OK) (h : RpRel a w (.slice sp 48 cap) (body a) wr) : ∀ z : Array Value, z = (List.replicate 64 (Value.int .u8 0)).toArray → Rp3 a w sp wr.heap.size 0 (wr.alloc (.cells z 28)) := by
  rintro z rfl
  have hz : Below wr.heap.size wr (wr.alloc (.cells (List.replicate 64 (Value.int .u8 0)).toArray 28)) := (Below.refl _ _).alloc (Nat.le_refl _) _
  obtain ⟨h1, h2, h3, h4⟩ := h
  obtain ⟨sp', cap', e, q1, q2, q3, q4, q5⟩ := OwnB.form h1
  injection e with e1 e2 e3
  subst e1
  have hsrc : SrcX wr (fun g => g < wr.heap.size) sp (body a) := fun h0 => by
    obtain ⟨g, o, e, hg, hc⟩ := q3 h0
    exact ⟨g, o, e, hg, hg, hc⟩
  have hw := h4.lt
  exact ⟨h2.trans (hz.mono h2.size), h4.below hz hw, hsrc.below hz (Nat.le_refl _), by rw [List.take_zero, List.nil_append, Nat.sub_zero, ← zeros_v8]; exact Blk.new wr _ 28, by omega⟩
theorem Rp3.step {a : An} {w wr : World} {sp : Option Addr} {g6 k : Nat} (h : Rp3 a w sp g6 k wr) (hk : k < (body a).length) (hk2 : k < 64) (x : BitVec 8) (hx : (body a).getD k 0 = x) : Rp3 a w sp g6 (k + 1) (wr.setCell ⟨g6, k, none⟩ (V8 x)) := by
  have hb : ButFor g6 wr (wr.setCell ⟨g6, k, none⟩ (V8 x)) := (ButFor.refl _ _).set _ _
  have h6 := h.h6
  have hs := h.bel.size
  refine ⟨h.bel.trans (hb.below (by omega) hs), hb.blk h.res (by omega), h.src.butFor (Nat.lt_irrefl _) hb, ?_, h6⟩
  have h1 := h.out.set k (V8 x)
  have e : ((((body a).take k ++ List.replicate (64 - k) 0#8).map V8).set k (V8 x)) = ((body a).take (k + 1) ++ List.replicate (64 - (k + 1)) 0#8).map V8 := by
    rw [← List.map_set, set_next' ((body a).take k) (64 - k) (64 - (k + 1)) 0#8 x k (by simp; omega) (by omega), val_take_succ _ _ hk, hx]
  rw [e] at h1
  exact h1
theorem hash_cell {w : World} {g : Nat} {a : An} {t : TypeId} (h : Blk w g (acells a) t) {k : Nat} {x : BitVec 8} (hx : a.hash[k]? = some x) : w.cell? ⟨g, 1 + k, none⟩ = some (V8 x) := rng_hash h k (V8 x) (by simp [hx])
theorem ats_cell {w : World} {g : Nat} {a : An} {t : TypeId} (h : Blk w g (acells a) t) (ha : a.hash.length = 32) {k x : Nat} (hx : a.ats[k]? = some x) : w.cell? ⟨g, 33 + k, none⟩ = some (.int .u16 (x : Int)) := rng_ats h ha k (.int .u16 (x : Int)) (by simp [hx, U16])
set_option maxRecDepth 100000 in
set_option maxHeartbeats 8000000 in
theorem rput_any (a : An) (ha : a.OK) (w : World) : Calls Try.prog 9 #[.agg (acells a).toArray] w fun e w' => e = .returned (.agg ((pad a).map V8).toArray) ∧ Below w.heap.size w w' := by
  have HA := Lib.hid ha
  have hgen := ha.gen
  have hG : Hid (Blk (w.alloc (.cells (acells a).toArray 27)) w.heap.size (acells a) 27) := Lib.hid (Blk.new _ _ _)
  clear ha
  go_enter Try.func9, Try.ntmps9
  have c0 : ∀ z : Array Value, ((w.alloc (.cells (acells a).toArray 27)).alloc (.cells z 28)).cell? ⟨w.heap.size, 0, none⟩ = some (.int .u64 (a.gen : Int)) := fun z => (hG.out.alloc _).cell rfl
  go_wp2_with fail
  refine (fun (k : ∀ W1, PutW a 27 w W1 → Calls Try.prog 25 #[.int .u64 (a.gen : Int), .int .i64 8] W1 _) => k _ (putw_start a 27 w _ rfl)) ?_
  intro W1 hF
  have HF := Lib.hid hF
  obtain ⟨hb1, hB, hZ, hs1⟩ := hF
  clear hb1 hB hZ c0 hG
  refine (wNum_any a.gen 8 W1 (by omega) hgen).mono ?_
  rintro e w2 ⟨v, rfl, ho2, hb2⟩
  have HR := Lib.hid (show RpRel a w v (leb a.gen 8 ++ a.hash.take 0) w2 from ⟨by rw [hs1] at ho2; simpa using ho2, HF.out.1.trans (hb2.mono HF.out.1.size), HF.out.2.1.below hb2 HF.out.2.1.lt, HF.out.2.2.1.below hb2 HF.out.2.2.1.lt⟩)
  clear ho2 hb2 HF
  go_wp2_with fail
  go_loopw [3, 4] (fun v i wr => ∃ k : Nat, k ≤ 32 ∧ i = .int .i64 (k : Int) ∧ RpRel a w v (leb a.gen 8 ++ a.hash.take k) wr) (fun _ i _ => 32 - (intOf i).toNat)
  case atStart => exact ⟨0, by omega, rfl, HR.out⟩
  case round =>
    clear HR
    obtain ⟨k, hk, rfl, hR⟩ := hrel
    have HR := Lib.hid hR
    obtain ⟨sp, cap, rfl, -⟩ := OwnB.form hR.1
    have hgl := hR.2.2.1
    have hzl := hR.2.2.2.lt
    have wk1 := IntWalk.i64_in ((k : Int) + 1) (by omega)
    clear hR
    by_cases hlt : k < 32
    · obtain ⟨x, hx⟩ : ∃ x, a.hash[k]? = some x := ⟨_, List.getElem?_eq_getElem (by have := HA.out.hash; omega)⟩
      have cx := hash_cell hgl hx
      have hz : Below wr.heap.size wr (wr.alloc (.cells #[V8 x] 5)) := (Below.refl _ _).alloc (Nat.le_refl _) _
      obtain ⟨v3, w3, hr3, ho3, hb3⟩ := ownB_app (m := [x]) (HR.out.1.below hz (Nat.le_refl _)) (by have := hz.size; omega) (by simp [leb_length]; omega) (g := wr.heap.size) (off := 0) (c := 1) (rng_all (Blk.new wr [V8 x] 5)) 55
      obtain ⟨sp3, n3, cap3, rfl⟩ : ∃ sp n c, v3 = .slice sp n c := by
        obtain ⟨sp, c, e, _⟩ := OwnB.form ho3
        exact ⟨sp, _, c, e⟩
      have HR3 := Lib.hid hr3
      have HN := Lib.hid (show RpRel a w (.slice sp3 n3 cap3) (leb a.gen 8 ++ a.hash.take (k + 1)) w3 from HR.out.next (by rw [take_oneB hx, ← List.append_assoc]; exact ho3) ((hz.mono (by omega)).trans hb3))
      clear hx hgl hr3 ho3 hb3 hz HR
      go_wp2_with (first | (at_builtin; refine wpL_val rfl (ex_app55 rfl rfl rfl HR3.out) ?_) | fail)
      go_roundw
      case rel => exact ⟨k + 1, by omega, by go_num, HN.out⟩
      case measure => simp [intOf]; omega
    · have em : (k : Int) = 32 := by omega
      rw [em]
      obtain rfl : k = 32 := by omega
      clear em
      have e32 : a.hash.take 32 = a.hash := List.take_of_length_le (by have := HA.out.hash; omega)
      have HR2 : Hid (RpRel a w (.slice sp (leb a.gen 8 ++ a.hash.take 32).length cap) (leb a.gen 8 ++ a.hash ++ tail (a.ats.take 0)) wr) := Lib.hid (by have := HR.out; rw [e32] at this ⊢; simpa [tail] using this)
      clear hlt hk hgl HR e32
      go_wp2_with fail
      go_loopw [3, 5] (fun v i wr => ∃ k : Nat, k ≤ 4 ∧ i = .int .i64 (k : Int) ∧ RpRel a w v (leb a.gen 8 ++ a.hash ++ tail (a.ats.take k)) wr) (fun _ i _ => 4 - (intOf i).toNat)
      case atStart => exact ⟨0, by omega, rfl, HR2.out⟩
      case round =>
        clear HR2
        obtain ⟨k, hk, rfl, hR⟩ := hrel
        have HR := Lib.hid hR
        obtain ⟨sp, cap, e, -⟩ := OwnB.form hR.1
        have hlen : (leb a.gen 8 ++ a.hash ++ tail (a.ats.take k)).length = 40 + 2 * k := by
          have := HA.out.len
          simp [leb_length, HA.out.hash, tail_length]
          omega
        have HLN := Lib.hid hlen
        rw [hlen] at e
        subst e
        have hgl := hR.2.2.1
        have hzl := hR.2.2.2.lt
        have wk1 := IntWalk.i64_in ((k : Int) + 1) (by omega)
        clear hR hlen
        by_cases hlt : k < 4
        · obtain ⟨x, hx⟩ : ∃ x, a.ats[k]? = some x := ⟨_, List.getElem?_eq_getElem (by have := HA.out.len; omega)⟩
          have cx := ats_cell hgl HA.out.hash hx
          have hxl : x < 65536 := HA.out.ats x (List.mem_of_getElem? hx)
          have hw64 : IntKind.u64.wrap (x : Int) = (x : Int) := u64_in x (by omega)
          have HX := Lib.hid hx
          clear hx hgl
          go_wp2_with fail
          refine (wNum_any x 2 wr (by omega) (by omega)).mono ?_
          rintro e w4 ⟨u, rfl, ho4, hb4⟩
          obtain ⟨sp4, cap4, e4, q1, q2, q3, q4, q5⟩ := OwnB.form ho4
          rw [leb_length] at e4
          subst e4
          have hne : ∃ g, sp4 = some ⟨g, 0, none⟩ := by
            rcases ho4.2 with ⟨_, h0⟩ | ⟨g, c, cur, e, _⟩
            · rw [leb_length] at h0; omega
            · cases e; exact ⟨g, rfl⟩
          obtain ⟨g4, rfl⟩ := hne
          have hown := HR.out.1.below hb4 (Nat.le_refl _)
          obtain ⟨v5, w5, hr5, ho5, hb5⟩ := ownB_app (m := leb x 2) hown (by have := hb4.size; omega) (by rw [HLN.out, leb_length]; omega) (g := g4) (off := 0) (c := cap4) (fun j y hj => by
            obtain ⟨g, o, e, hg, hc⟩ := q3 (by rw [leb_length]; omega)
            cases e
            have := src_cell hc j y hj
            rwa [Addr.add_mid] at this) 55
          rw [leb_length] at hr5
          obtain ⟨sp5, n5, cap5, rfl⟩ : ∃ sp n c, v5 = .slice sp n c := by
            obtain ⟨sp, c, e, _⟩ := OwnB.form ho5
            exact ⟨sp, _, c, e⟩
          have HR5 := Lib.hid hr5
          have HN := Lib.hid (show RpRel a w (.slice sp5 n5 cap5) (leb a.gen 8 ++ a.hash ++ tail (a.ats.take (k + 1))) w5 from HR.out.next (by rw [val_take_one HX.out, tail_snoc, ← List.append_assoc]; exact ho5) ((hb4.mono (by omega)).trans hb5))
          clear hr5 ho5 hb5 hown q1 q2 q3 q4 q5 ho4 hb4 HR
          go_wp2_with (first | (at_builtin; refine wpL_val rfl (ex_app55 rfl rfl rfl HR5.out) ?_) | fail)
          go_roundw
          case rel => exact ⟨k + 1, by omega, by go_num, HN.out⟩
          case measure => simp [intOf]; omega
        · have em : (k : Int) = 4 := by omega
          rw [em]
          obtain rfl : k = 4 := by omega
          clear em
          have e4 : a.ats.take 4 = a.ats := List.take_of_length_le (by have := HA.out.len; omega)
          have hb : leb a.gen 8 ++ a.hash ++ tail a.ats = body a := rfl
          have HR3 : Hid (RpRel a w (.slice sp 48 cap) (body a) wr) := Lib.hid (by have := HR.out; rw [e4, hb] at this; exact this)
          have hbl : (body a).length = 48 := body_length HA.out
          have HBL := Lib.hid hbl
          rw [show 40 + 2 * 4 = 48 from rfl]
          clear hlt hk hgl HR HLN e4 hb hbl
          go_wp2_with fail
          have HR4 := Lib.hid (rp3_start HA.out HR3.out)
          go_wp2_with fail
          refine (fun (q : ∀ W, Rp3 a w sp wr.heap.size 0 W → Code.wp _ _ _ _ W) => q _ (HR4.out _ rfl)) ?_
          intro w6 hR6
          obtain ⟨g6, hg6⟩ : ∃ g, wr.heap.size = g := ⟨_, rfl⟩
          rw [hg6] at hR6 ⊢
          have HR6 := Lib.hid hR6
          clear hR6 HR3 HR4 hg6
          go_loopw [7] (fun i wr => ∃ k : Nat, k ≤ 48 ∧ i = .int .i64 (k : Int) ∧ Rp3 a w sp g6 k wr) (fun i _ => 48 - (intOf i).toNat)
          case atStart => exact ⟨0, by omega, rfl, HR6.out⟩
          case round =>
            clear HR6
            obtain ⟨k, hk, rfl, hR⟩ := hrel
            have HR := Lib.hid hR
            have wk1 := IntWalk.i64_in ((k : Int) + 1) (by omega)
            by_cases hlt : k < 48
            · obtain ⟨g, o, rfl, hgk, hgl, hgc⟩ := hR.src (by have := HBL.out; omega)
              have hx := hgc k (by have := HBL.out; omega)
              obtain ⟨x, hxx⟩ : ∃ x, (body a).getD k 0 = x := ⟨_, rfl⟩
              rw [hxx] at hx
              obtain ⟨y, hy⟩ := hR.out.has k (by have := HBL.out; simp; omega)
              have fy := hR.out.free k
              have HN := Lib.hid (hR.step (by have := HBL.out; omega) (by have := HBL.out; omega) x hxx)
              clear hR hgc hgk hxx
              go_wp2_with fail
              go_roundw
              case rel => exact ⟨k + 1, by omega, by go_num, HN.out⟩
              case measure => simp [intOf]; omega
            · obtain rfl : k = 48 := by omega
              obtain ⟨P, hP⟩ : ∃ P, (pad a).map V8 = P := ⟨_, rfl⟩
              have hPl : P.length = 64 := by rw [← hP]; simp [pad_length HA.out]
              have HPA := Lib.hid hP
              have HPL := Lib.hid hPl
              have HONE : Hid (P.toArray.all (·.oneCell') = true) := Lib.hid (by rw [← hP]; exact one_ints V8 (fun _ => rfl) _)
              have HSZ : Hid ((Try.prog.info? 28).map (·.size) = some P.toArray.size) := Lib.hid (by rw [size28]; simp [hPl])
              have HG6 : Hid (Blk wr g6 P 28) := Lib.hid (by
                have := hR.out
                rw [List.take_of_length_le (by have := HBL.out; omega)] at this
                rw [← hP]
                exact this)
              have HZ6 := Lib.hid hR.res
              have HB6 := Lib.hid hR.bel
              clear hlt hk hP hPl hR HR
              go_wp2_with (first | (refine wpL_val rfl (ex_ld (ty := 28) (cs := P) rfl rfl (rng_all HG6.out) Try.underlying28 rfl (by rw [size28, HPL.out])) ?_) | (refine wpList_store_row rfl 28 (.tmp 2) (.tmp 46) rfl (w.heap.size + 1) _ rfl rfl 28 _ HZ6.out HSZ.out (by simp [HPL.out]) HONE.out ?_) | fail)
              refine bodyPost_ret (results_cell_row Try.results9 _ _ (w.heap.size + 1) 28 _ _ _ rfl (HZ6.out.row _) Try.underlying28 rfl HSZ.out) rfl ⟨?_, below_row HB6.out (by omega) _⟩
              rw [HPA.out]
end Go.Proofs.Ytchbeaogbjmddaa
