/- The law's turned. -/
import Derived.Test.YtfcjeceoedfldaaDoorM34
namespace Go.Proofs.YtfcjeceoedfldaaDoor
open Go.RowKit

attribute [local go_sem] Oper.semAt_some

theorem tl_skipU {ops : Array Oper} {rest : List Oper} {o : Oper} {a : Act} {Q : Exit → Act → World → Prop} {w : World} {u : Value} (hu : u = undef) (hw : Region.wanted o (yielded ops a.tmps) = false)
    (hK : wpList Tryd.prog ops Q rest (a.put o.dst u) w) : wpList Tryd.prog ops Q (o :: rest) a w := by subst hu; exact tl_skip hw hK
def isF (hN : List Pt) (g k : Nat) : Bool := (List.range k).any (fun j => !eqP (hN.getD (8 * g + j) zeroP) zeroP)
theorem isF_succ (hN : List Pt) (g k : Nat) : isF hN g (k + 1) = (isF hN g k || !eqP (hN.getD (8 * g + k) zeroP) zeroP) := by
  unfold isF
  rw [List.range_succ, List.any_append]
  simp
theorem isF_eight {hN : List Pt} (hl : hN.length = 64) {g : Nat} (hg : g < 8) : isF hN g 8 = decide (grp hN g ≠ holes) := by
  rw [Bool.eq_iff_iff, decide_eq_true_iff]
  unfold isF
  rw [List.any_eq_true]
  have hlen : (grp hN g).length = 8 := by unfold grp; rw [List.length_take, List.length_drop]; omega
  constructor
  · rintro ⟨j, hj, hq⟩ e
    have hj8 := List.mem_range.1 hj
    have h1 := grp_get (h := hN) (i := g) (k := j) hj8
    rw [e] at h1
    simp only [holes, List.getElem?_replicate] at h1
    rw [if_pos hj8] at h1
    rw [List.getD_eq_getElem?_getD, ← h1, Option.getD_some, eqP_same] at hq
    cases hq
  · intro hne
    apply Classical.byContradiction
    intro hno
    apply hne
    refine List.eq_replicate_iff.2 ⟨hlen, fun q hq => ?_⟩
    obtain ⟨j, hj⟩ := List.getElem?_of_mem hq
    have hj8 : j < 8 := by have := (List.getElem?_eq_some_iff.1 hj).1; omega
    apply Classical.byContradiction
    intro hz
    apply hno
    refine ⟨j, List.mem_range.2 hj8, ?_⟩
    rw [grp_get hj8] at hj
    rw [List.getD_eq_getElem?_getD, hj, Option.getD_some, eqP_no hz]
    rfl
theorem cntG_le (hN : List Pt) (k : Nat) : cntG hN k ≤ k := by unfold cntG; exact Nat.le_trans (List.length_filter_le _ _) (by simp)
theorem filt_succ {l : List Pt} {P : Pt → Bool} {k : Nat} {q : Pt} (h : l[k]? = some q) : ((l.take (k + 1)).filter P).length = ((l.take k).filter P).length + (if P q = true then 1 else 0) := by
  rw [take_snoc h, List.filter_append, List.length_append]
  cases hP : P q <;> simp [hP]
theorem goneN_le (h hN : List Pt) (k : Nat) : goneN h hN k ≤ k := by unfold goneN; exact Nat.le_trans (List.length_filter_le _ _) (by simp)
/-- What turned looks at. -/
structure TdS (vw vn vh vx mdv gnv : Value) (was now h hN made gone : List Pt) (D : Nat) (w X : World) : Prop where
  fw : SrcM X vw was
  fn : SrcM X vn now
  fh : SrcM X vh h
  fx : SrcM X vx hN
  md : X.cell? ⟨D, 2, none⟩ = some mdv
  gn : X.cell? ⟨D, 3, none⟩ = some gnv
  fm : SrcM X mdv made
  fg : SrcM X gnv gone
  D : D < X.heap.size
  bel : Below w.heap.size w X
theorem TdS.grown {vw vn vh vx mdv gnv : Value} {was now h hN made gone : List Pt} {D : Nat} {w X Y : World} (s : TdS vw vn vh vx mdv gnv was now h hN made gone D w X) (hb : Below X.heap.size X Y) : TdS vw vn vh vx mdv gnv was now h hN made gone D w Y :=
  ⟨s.fw.grown hb, s.fn.grown hb, s.fh.grown hb, s.fx.grown hb, (hb.cell (p := ⟨D, 2, none⟩) s.D).trans s.md, (hb.cell (p := ⟨D, 3, none⟩) s.D).trans s.gn, s.fm.grown hb, s.fg.grown hb, Nat.lt_of_lt_of_le s.D hb.size, s.bel.trans (hb.mono s.bel.size)⟩
set_option maxRecDepth 100000 in
set_option maxHeartbeats 32000000 in
theorem turned_go {was now h hN made gone : List Pt} (ht : Tn was now made gone h hN) (hl : h.length = 64) (hl' : hN.length = 64) (ok : (∀ p ∈ was, p.OK) ∧ (∀ p ∈ now, p.OK) ∧ (∀ p ∈ h, p.OK) ∧ (∀ p ∈ hN, p.OK)) (len : was.length < 1000000 ∧ now.length < 1000000 ∧ made.length < 1000000 ∧ gone.length < 1000000) (okm : (∀ p ∈ made, p.OK) ∧ (∀ p ∈ gone, p.OK))
    (spw spn spm spg : Option Addr) (nw nn nm ng cw cn cm cg gh ch gx cx : Nat) (hnw : was.length = nw ∧ nw ≤ cw ∧ (0 < nw → ∃ g, spw = some ⟨g, 0, none⟩)) (hnn : now.length = nn ∧ nn ≤ cn ∧ (0 < nn → ∃ g, spn = some ⟨g, 0, none⟩)) (hnm : made.length = nm) (hng : gone.length = ng) (hch : 64 ≤ ch) (hcx : 64 ≤ cx) (D : Nat) (w : World)
    (hs : TdS (.slice spw nw cw) (.slice spn nn cn) (.slice (some ⟨gh, 0, none⟩) 64 ch) (.slice (some ⟨gx, 0, none⟩) 64 cx) (.slice spm nm cm) (.slice spg ng cg) was now h hN made gone D w w) :
    Calls Tryd.prog 10 #[.pointer (some ⟨D, 0, none⟩), .slice spw nw cw, .slice spn nn cn, .slice (some ⟨gh, 0, none⟩) 64 ch, .slice (some ⟨gx, 0, none⟩) 64 cx] w fun e w' => e = .returned (.bool true) ∧ Below w.heap.size w w' := by
  have HT := Lib.hid ht; have HL := Lib.hid hl; have HL2 := Lib.hid hl'; have HOK := Lib.hid ok; have HLE := Lib.hid len; have HOM := Lib.hid okm
  have HW := Lib.hid hnw; have HN := Lib.hid hnn; have HM := Lib.hid hnm; have HG := Lib.hid hng; have HCH := Lib.hid hch; have HCX := Lib.hid hcx
  obtain ⟨S, hS⟩ : ∃ S : World → Prop, S = TdS (.slice spw nw cw) (.slice spn nn cn) (.slice (some ⟨gh, 0, none⟩) 64 ch) (.slice (some ⟨gx, 0, none⟩) 64 cx) (.slice spm nm cm) (.slice spg ng cg) was now h hN made gone D w := ⟨_, rfl⟩
  have HSD : Hid (∀ X, S X → TdS (.slice spw nw cw) (.slice spn nn cn) (.slice (some ⟨gh, 0, none⟩) 64 ch) (.slice (some ⟨gx, 0, none⟩) 64 cx) (.slice spm nm cm) (.slice spg ng cg) was now h hN made gone D w X) := Lib.hid fun X hx => by rw [hS] at hx; exact hx
  have HGR : Hid (∀ X Y, S X → Below X.heap.size X Y → S Y) := Lib.hid fun X Y hx hb => by rw [hS] at hx ⊢; exact hx.grown hb
  have HDR : Hid (∀ X, S X → S X.drew) := Lib.hid fun X hx => HGR.out X _ hx (Below.refl _ _).drew
  have HS0 : Hid (S w) := Lib.hid (by rw [hS]; exact hs)
  have HHW : Hid (∀ X q, S X → q.OK → Calls Tryd.prog 13 #[.slice spw nw cw, .agg (pcells q).toArray] X fun e Y => e = .returned (.bool (isIn was q)) ∧ S Y) := Lib.hid fun X q hx hq => (has_any was _ q hq ok.1 len.1 X (HSD.out X hx).fw).mono fun e Y ⟨e1, e2⟩ => ⟨e1, HGR.out X Y hx e2⟩
  have HHN : Hid (∀ X q, S X → q.OK → Calls Tryd.prog 13 #[.slice spn nn cn, .agg (pcells q).toArray] X fun e Y => e = .returned (.bool (isIn now q)) ∧ S Y) := Lib.hid fun X q hx hq => (has_any now _ q hq ok.2.1 len.2.1 X (HSD.out X hx).fn).mono fun e Y ⟨e1, e2⟩ => ⟨e1, HGR.out X Y hx e2⟩
  have HHM : Hid (∀ X q, S X → q.OK → Calls Tryd.prog 13 #[.slice spm nm cm, .agg (pcells q).toArray] X fun e Y => e = .returned (.bool (isIn made q)) ∧ S Y) := Lib.hid fun X q hx hq => (has_any made _ q hq okm.1 len.2.2.1 X (HSD.out X hx).fm).mono fun e Y ⟨e1, e2⟩ => ⟨e1, HGR.out X Y hx e2⟩
  have HHG : Hid (∀ X q, S X → q.OK → Calls Tryd.prog 13 #[.slice spg ng cg, .agg (pcells q).toArray] X fun e Y => e = .returned (.bool (isIn gone q)) ∧ S Y) := Lib.hid fun X q hx hq => (has_any gone _ q hq okm.2 len.2.2.2 X (HSD.out X hx).fg).mono fun e Y ⟨e1, e2⟩ => ⟨e1, HGR.out X Y hx e2⟩
  obtain ⟨U, hU⟩ : ∃ u, u = undef := ⟨_, rfl⟩
  have HU := Lib.hid hU
  generalize hPost : (fun e w' => e = Ending.returned (.bool true) ∧ Below w.heap.size w w') = Post
  have HPO : Hid (∀ X, S X → Post (.returned (.bool true)) X) := Lib.hid fun X hx => by rw [← hPost]; exact ⟨rfl, (HSD.out X hx).bel⟩
  clear ht hl hl' ok len okm hnw hnn hnm hng hch hcx hs hS hPost hU
  go_enter Tryd.func10, Tryd.ntmps10
  go_wp2_with fail
  go_loopw [11, 13] (fun c i wr => ∃ g : Nat, g ≤ 8 ∧ i = .int .i64 (g : Int) ∧ c = .int .i64 (cntG hN g : Int) ∧ S wr) (fun _ i _ => 8 - (intOf i).toNat)
  case atStart => exact ⟨0, by omega, rfl, rfl, HS0.out⟩
  case round =>
    clear HS0
    obtain ⟨g, hg, rfl, rfl, hs⟩ := hrel
    have HS := Lib.hid hs
    clear hs
    have wk1 := IntWalk.i64_in ((g : Int) + 1) (by omega)
    by_cases hlt : g < 8
    · go_wp2_with fail
      go_loopw [14, 15] (fun b j wr => ∃ k : Nat, k ≤ 8 ∧ j = .int .i64 (k : Int) ∧ b = .bool (isF hN g k) ∧ S wr) (fun _ j _ => 8 - (intOf j).toNat)
      case atStart => exact ⟨0, by omega, rfl, rfl, HS.out⟩
      case round =>
        clear HS
        obtain ⟨k, hk, rfl, rfl, hs⟩ := hrel
        have HS := Lib.hid hs
        clear hs
        have wk2 := IntWalk.i64_in ((k : Int) + 1) (by omega)
        by_cases hlk : k < 8
        · obtain ⟨q, hq⟩ : ∃ q, hN[8 * g + k]? = some q := ⟨_, List.getElem?_eq_getElem (by have := HL2.out; omega)⟩
          have HQ : Hid q.OK := Lib.hid (HOK.out.2.2.2 q (List.mem_of_getElem? hq))
          obtain ⟨a, ha⟩ : ∃ a, 8 * g = a := ⟨_, rfl⟩
          obtain ⟨b, hb⟩ : ∃ b, a + k = b := ⟨_, rfl⟩
          have e1 : IntKind.i64.wrap ((8 : Int) * (g : Int)) = (a : Int) := by rw [IntWalk.i64_in _ (by omega)]; omega
          have e2 : IntKind.i64.wrap ((a : Int) + (k : Int)) = (b : Int) := by rw [IntWalk.i64_in _ (by omega)]; omega
          have hqb : hN[b]? = some q := by rw [← hb, ← ha]; exact hq
          have HQK := Lib.hid hqb
          have HKB : Hid (b < 64 ∧ 64 ≤ cx) := Lib.hid ⟨by omega, HCX.out⟩
          have HSU : Hid (isF hN g (k + 1) = (isF hN g k || !eqP q zeroP)) := Lib.hid (by rw [isF_succ, List.getD_eq_getElem?_getD, hq]; rfl)
          clear hq ha hb hqb
          obtain ⟨fb, hfb⟩ : ∃ b, isF hN g k = b := ⟨_, rfl⟩
          rw [hfb] at HSU ⊢
          clear hfb
          go_upto_region 9 with fail
          have hx0 := HS.out
          cases fb
          · refine wp_region_list ?_
            refine tl_val (S := S) (.bool false) (by rfl) hx0 (fun X hX => by first | rfl | go_simp) ?_
            (try simp only [Act.put, List.setIfInBounds_toArray, List.set_cons_zero, List.set_cons_succ])
            refine tl_val (S := S) (.bool false) (by rfl) hx0 (fun X hX => by first | rfl | go_simp) ?_
            (try simp only [Act.put, List.setIfInBounds_toArray, List.set_cons_zero, List.set_cons_succ])
            refine tl_val (S := S) (.slice (some ⟨gx, 0, none⟩) 64 cx) (by rfl) hx0 (fun X hX => by first | rfl | go_simp) ?_
            (try simp only [Act.put, List.setIfInBounds_toArray, List.set_cons_zero, List.set_cons_succ])
            refine tl_val (S := S) (.int .i64 (g : Int)) (by rfl) hx0 (fun X hX => by first | rfl | go_simp) ?_
            (try simp only [Act.put, List.setIfInBounds_toArray, List.set_cons_zero, List.set_cons_succ])
            refine tl_val (S := S) (.int .i64 (a : Int)) (by rfl) hx0 (fun X hX => by first | rfl | go_simp) ?_
            (try simp only [Act.put, List.setIfInBounds_toArray, List.set_cons_zero, List.set_cons_succ])
            refine tl_val (S := S) (.int .i64 (k : Int)) (by rfl) hx0 (fun X hX => by first | rfl | go_simp) ?_
            (try simp only [Act.put, List.setIfInBounds_toArray, List.set_cons_zero, List.set_cons_succ])
            refine tl_val (S := S) (.int .i64 (b : Int)) (by rfl) hx0 (fun X hX => by first | rfl | go_simp) ?_
            (try simp only [Act.put, List.setIfInBounds_toArray, List.set_cons_zero, List.set_cons_succ])
            refine tl_val (S := S) (.pointer (some ⟨gx, b * 41, none⟩)) (by rfl) hx0 (fun X hX => q_iaP rfl rfl rfl HKB.out) ?_
            (try simp only [Act.put, List.setIfInBounds_toArray, List.set_cons_zero, List.set_cons_succ])
            refine tl_val (S := S) (.agg (pcells q).toArray) (by rfl) hx0 (fun X hX => ex_ldR HQ.out ((HSD.out X hX).fx.at HQK.out) rfl rfl) ?_
            (try simp only [Act.put, List.setIfInBounds_toArray, List.set_cons_zero, List.set_cons_succ])
            refine tl_val (S := S) (.agg (pcells zeroP).toArray) (by rfl) hx0 (fun X hX => ex_bld0 rfl) ?_
            (try simp only [Act.put, List.setIfInBounds_toArray, List.set_cons_zero, List.set_cons_succ])
            refine tl_val (S := S) (.bool (!eqP q zeroP)) (by rfl) hx0 (fun X hX => ex_neP rfl rfl rfl HQ.out zeroP_ok) ?_
            (try simp only [Act.put, List.setIfInBounds_toArray, List.set_cons_zero, List.set_cons_succ])
            refine tl_val (S := S) (.bool (!eqP q zeroP)) (by rfl) hx0 (fun X hX => by first | rfl | go_simp) ?_
            (try simp only [Act.put, List.setIfInBounds_toArray, List.set_cons_zero, List.set_cons_succ])
            refine tl_val (S := S) (.bool (!eqP q zeroP)) (by rfl) hx0 (fun X hX => by first | rfl | go_simp) ?_
            (try simp only [Act.put, List.setIfInBounds_toArray, List.set_cons_zero, List.set_cons_succ])
            refine wpList_nil ?_
            have HSX := Lib.hid hx0
            clear hx0 HS
            go_wp2_with fail
            go_roundw
            case rel => exact ⟨k + 1, by omega, by go_num, by rw [HSU.out]; rfl, HSX.out⟩
            case measure => simp [intOf]; omega
          · obtain ⟨z, hz⟩ : ∃ z, true = z := ⟨_, rfl⟩
            have HZT := Lib.hid hz.symm
            rw [hz] at HSU ⊢
            clear hz
            refine wp_region_list ?_
            refine tl_val (S := S) (.bool z) (by rfl) hx0 (fun X hX => by first | rfl | go_simp) ?_
            (try simp only [Act.put, List.setIfInBounds_toArray, List.set_cons_zero, List.set_cons_succ])
            refine tl_val (S := S) (.bool z) (by rfl) hx0 (fun X hX => by first | rfl | go_simp) ?_
            (try simp only [Act.put, List.setIfInBounds_toArray, List.set_cons_zero, List.set_cons_succ])
            refine tl_skipU HU.out (by first | (rw [HZT.out]; rfl) | rfl) ?_
            (try simp only [Act.put, List.setIfInBounds_toArray, List.set_cons_zero, List.set_cons_succ])
            refine tl_skipU HU.out (by first | (rw [HZT.out]; rfl) | rfl) ?_
            (try simp only [Act.put, List.setIfInBounds_toArray, List.set_cons_zero, List.set_cons_succ])
            refine tl_skipU HU.out (by first | (rw [HZT.out]; rfl) | rfl) ?_
            (try simp only [Act.put, List.setIfInBounds_toArray, List.set_cons_zero, List.set_cons_succ])
            refine tl_skipU HU.out (by first | (rw [HZT.out]; rfl) | rfl) ?_
            (try simp only [Act.put, List.setIfInBounds_toArray, List.set_cons_zero, List.set_cons_succ])
            refine tl_skipU HU.out (by first | (rw [HZT.out]; rfl) | rfl) ?_
            (try simp only [Act.put, List.setIfInBounds_toArray, List.set_cons_zero, List.set_cons_succ])
            refine tl_skipU HU.out (by first | (rw [HZT.out]; rfl) | rfl) ?_
            (try simp only [Act.put, List.setIfInBounds_toArray, List.set_cons_zero, List.set_cons_succ])
            refine tl_skipU HU.out (by first | (rw [HZT.out]; rfl) | rfl) ?_
            (try simp only [Act.put, List.setIfInBounds_toArray, List.set_cons_zero, List.set_cons_succ])
            refine tl_skipU HU.out (by first | (rw [HZT.out]; rfl) | rfl) ?_
            (try simp only [Act.put, List.setIfInBounds_toArray, List.set_cons_zero, List.set_cons_succ])
            refine tl_skipU HU.out (by first | (rw [HZT.out]; rfl) | rfl) ?_
            (try simp only [Act.put, List.setIfInBounds_toArray, List.set_cons_zero, List.set_cons_succ])
            refine tl_val (S := S) (.bool z) (by rfl) hx0 (fun X hX => (by rw [HZT.out]; first | rfl | go_simp)) ?_
            (try simp only [Act.put, List.setIfInBounds_toArray, List.set_cons_zero, List.set_cons_succ])
            refine tl_val (S := S) (.bool z) (by rfl) hx0 (fun X hX => by first | rfl | go_simp) ?_
            (try simp only [Act.put, List.setIfInBounds_toArray, List.set_cons_zero, List.set_cons_succ])
            refine wpList_nil ?_
            have HSX := Lib.hid hx0
            clear hx0 HS
            go_wp2_with fail
            go_roundw
            case rel => exact ⟨k + 1, by omega, by go_num, by rw [HSU.out, HZT.out]; rfl, HSX.out⟩
            case measure => simp [intOf]; omega
        · obtain rfl : k = 8 := by omega
          rw [isF_eight HL2.out hlt, show ((8 : Nat) : Int) = (8 : Int) from rfl]
          have hc0 := cntG_le hN g
          have wk3 := IntWalk.i64_in ((cntG hN g : Int) + 1) (by omega)
          have hcs := cntG_succ hN g
          obtain ⟨c0, hcc⟩ : ∃ c, cntG hN g = c := ⟨_, rfl⟩
          rw [hcc] at wk3 hcs ⊢
          have HCS := Lib.hid hcs
          clear hlk hk hc0 hcs hcc
          by_cases hz : grp hN g = holes
          · rw [decide_eq_false (p := grp hN g ≠ holes) (by simp [hz])]
            have HC1 : Hid (cntG hN (g + 1) = c0) := Lib.hid (by rw [HCS.out, if_neg (by simp [hz]), Nat.add_zero])
            clear hz HCS
            go_wp2_with fail
            go_roundw
            case rel => exact ⟨g + 1, by omega, by go_num, by rw [HC1.out], HS.out⟩
            case measure => simp [intOf]; omega
          · rw [decide_eq_true (p := grp hN g ≠ holes) hz]
            have HC1 : Hid (cntG hN (g + 1) = c0 + 1) := Lib.hid (by rw [HCS.out, if_pos hz])
            clear hz HCS
            go_wp2_with fail
            go_roundw
            case rel => exact ⟨g + 1, by omega, by go_num, by rw [HC1.out]; go_num, HS.out⟩
            case measure => simp [intOf]; omega
    · obtain rfl : g = 8 := by omega
      rw [show ((8 : Nat) : Int) = (8 : Int) from rfl]
      have hgrp := HT.out.grp
      have hc8 := cntG_le hN 8
      rw [HN.out.1] at hgrp
      clear hlt hg wk1
      obtain ⟨c8, hcc⟩ : ∃ c, cntG hN 8 = c := ⟨_, rfl⟩
      rw [hcc] at hgrp hc8 ⊢
      clear hcc
      go_upto_region 12 with fail
      (try simp only [Act.put, List.setIfInBounds_toArray, List.set_cons_zero, List.set_cons_succ])
      go_cut [60] (fun v wx => v = .bool false ∧ S wx)
      case first =>
        by_cases hz : 0 < c8
        · have hn1 := hgrp.1 hz
          have j1 : (0 : Int) < (c8 : Int) := by omega
          have j2 : ¬ (c8 : Int) = 0 := by omega
          have j3 : ((c8 : Int) == 0) = false := by simpa using j2
          have wk4 : IntKind.i64.wrap ((c8 : Int) + 1) = (nn : Int) := by rw [IntWalk.i64_in _ (by omega)]; omega
          clear hgrp hc8 hz hn1
          go_wp2_with fail
          go_meet
          case rel => exact ⟨by simp, HS.out⟩
        · have hc0 : c8 = 0 := by omega
          have hn0 := hgrp.2 hc0
          have k1 : ¬ (0 : Int) < (c8 : Int) := by omega
          have k2 : decide ((0 : Int) < (c8 : Int)) = false := by simpa using k1
          have k3 : ((c8 : Int) == 0) = true := by rw [hc0]; rfl
          have k4 : ((nn : Int) == 0) = true := by rw [hn0]; rfl
          have k5 : ((nn : Int) != 0) = false := by rw [hn0]; rfl
          clear hgrp hc8 hz hc0 hn0
          go_wp2_with fail
          go_meet
          case rel => exact ⟨by simp, HS.out⟩
      case rest =>
      obtain ⟨rfl, hsc⟩ := hcut
      have HSc := Lib.hid hsc
      clear hsc HS hgrp hc8
      go_wp2_with fail
      go_loopw [12, 16] (fun c i wr => ∃ k : Nat, k ≤ nn ∧ i = .int .i64 (k : Int) ∧ c = .int .i64 ((((now.take k).filter (fun q => !isIn was q)).length : Nat) : Int) ∧ S wr) (fun _ i _ => nn - (intOf i).toNat)
      case atStart => exact ⟨0, by omega, rfl, rfl, HSc.out⟩
      case round =>
        clear HSc
        obtain ⟨k, hk, rfl, rfl, hs⟩ := hrel
        have HS := Lib.hid hs
        clear hs
        have wk1 := IntWalk.i64_in ((k : Int) + 1) (by have := HN.out.1; have := HLE.out.2.1; omega)
        by_cases hlt : k < nn
        · obtain ⟨q, hq⟩ : ∃ q, now[k]? = some q := ⟨_, List.getElem?_eq_getElem (by have := HN.out.1; omega)⟩
          have HQ : Hid q.OK := Lib.hid (HOK.out.2.1 q (List.mem_of_getElem? hq))
          have HQK := Lib.hid hq
          obtain ⟨gn, rfl⟩ := HN.out.2.2 (by omega)
          have HKB : Hid (k < nn ∧ nn ≤ cn) := Lib.hid ⟨hlt, HN.out.2.1⟩
          obtain ⟨c0, hcc⟩ : ∃ c, ((now.take k).filter (fun q => !isIn was q)).length = c := ⟨_, rfl⟩
          have hcl : c0 ≤ k := by rw [← hcc]; exact Nat.le_trans (List.length_filter_le _ _) (by rw [List.length_take]; omega)
          have wk2 := IntWalk.i64_in ((c0 : Int) + 1) (by have := HN.out.1; have := HLE.out.2.1; omega)
          obtain ⟨ib, hib⟩ : ∃ b, isIn was q = b := ⟨_, rfl⟩
          obtain ⟨im, him⟩ : ∃ b, isIn made q = b := ⟨_, rfl⟩
          have HIB : Hid (ib = !im) := Lib.hid (by rw [← hib, ← him]; exact HT.out.nw q (List.mem_of_getElem? hq))
          have HCS : Hid (((now.take (k + 1)).filter (fun q => !isIn was q)).length = c0 + (if ib = true then 0 else 1)) := Lib.hid (by rw [filt_succ hq, hcc, hib]; cases ib <;> rfl)
          have HI1 := Lib.hid hib; have HI2 := Lib.hid him
          rw [hcc]
          clear hq hcc hcl hib him
          go_upto_region 17 with fail
          have hs0 := HDR.out _ HS.out
          refine wp_region_sched (.take 0 (.take 1 (.take 2 (.take 3 (.take 4 (.take 6 (.take 7 (.take 8 (.take 9 (.take 10 (.take 11 (.take 12 (.take 13 (.step 5 (.step 14 (.take 15 (.nil))))))))))))))))) (by kernel_rfl) (by kernel_rfl) (fun d _ _ _ _ h => by cases d <;> exact h) (S) (hs0) ?_
          refine wpG_take _ (.slice spw nw cw) rfl (by rfl) (fun X hX => by first | rfl | go_simp) ?_
          (try simp only [Act.put, List.setIfInBounds_toArray, List.set_cons_zero, List.set_cons_succ])
          refine wpG_take _ (.slice (some ⟨gn, 0, none⟩) nn cn) rfl (by rfl) (fun X hX => by first | rfl | go_simp) ?_
          (try simp only [Act.put, List.setIfInBounds_toArray, List.set_cons_zero, List.set_cons_succ])
          refine wpG_take _ (.int .i64 (k : Int)) rfl (by rfl) (fun X hX => by first | rfl | go_simp) ?_
          (try simp only [Act.put, List.setIfInBounds_toArray, List.set_cons_zero, List.set_cons_succ])
          refine wpG_take _ (.pointer (some ⟨gn, k * 41, none⟩)) rfl (by rfl) (fun X hX => q_iaP rfl rfl rfl HKB.out) ?_
          (try simp only [Act.put, List.setIfInBounds_toArray, List.set_cons_zero, List.set_cons_succ])
          refine wpG_take _ (.agg (pcells q).toArray) rfl (by rfl) (fun X hX => ex_ldR HQ.out ((HSD.out X hX).fn.at HQK.out) rfl rfl) ?_
          (try simp only [Act.put, List.setIfInBounds_toArray, List.set_cons_zero, List.set_cons_succ])
          refine wpG_take _ (.pointer (some ⟨D, 0, none⟩)) rfl (by rfl) (fun X hX => by first | rfl | go_simp) ?_
          (try simp only [Act.put, List.setIfInBounds_toArray, List.set_cons_zero, List.set_cons_succ])
          refine wpG_take _ (.pointer (some ⟨D, 0, none⟩)) rfl (by rfl) (fun X hX => by first | rfl | go_simp) ?_
          (try simp only [Act.put, List.setIfInBounds_toArray, List.set_cons_zero, List.set_cons_succ])
          refine wpG_take _ (.pointer (some ⟨D, 2, none⟩)) rfl (by rfl) (fun X hX => by first | rfl | go_simp) ?_
          (try simp only [Act.put, List.setIfInBounds_toArray, List.set_cons_zero, List.set_cons_succ])
          refine wpG_take _ (.slice spm nm cm) rfl (by rfl) (fun X hX => ex_ldPs rfl rfl (HSD.out X hX).md) ?_
          (try simp only [Act.put, List.setIfInBounds_toArray, List.set_cons_zero, List.set_cons_succ])
          refine wpG_take _ (.slice (some ⟨gn, 0, none⟩) nn cn) rfl (by rfl) (fun X hX => by first | rfl | go_simp) ?_
          (try simp only [Act.put, List.setIfInBounds_toArray, List.set_cons_zero, List.set_cons_succ])
          refine wpG_take _ (.int .i64 (k : Int)) rfl (by rfl) (fun X hX => by first | rfl | go_simp) ?_
          (try simp only [Act.put, List.setIfInBounds_toArray, List.set_cons_zero, List.set_cons_succ])
          refine wpG_take _ (.pointer (some ⟨gn, k * 41, none⟩)) rfl (by rfl) (fun X hX => q_iaP rfl rfl rfl HKB.out) ?_
          (try simp only [Act.put, List.setIfInBounds_toArray, List.set_cons_zero, List.set_cons_succ])
          refine wpG_take _ (.agg (pcells q).toArray) rfl (by rfl) (fun X hX => ex_ldR HQ.out ((HSD.out X hX).fn.at HQK.out) rfl rfl) ?_
          (try simp only [Act.put, List.setIfInBounds_toArray, List.set_cons_zero, List.set_cons_succ])
          refine wpG_call _ rfl (by rfl) 13 #[.slice spw nw cw, .agg (pcells q).toArray] (fun X => by go_simp) (fun u X => u = .bool ib) ((HHW.out _ q hs0 HQ.out).mono fun e X ⟨e1, e2⟩ => ⟨_, e1, e2, by rw [HI1.out]⟩) ?_
          rintro u Y1 hs1 rfl
          refine ⟨S, fun _ h => h, hs1, ?_⟩
          (try simp only [Act.put, List.setIfInBounds_toArray, List.set_cons_zero, List.set_cons_succ])
          refine wpG_call _ rfl (by rfl) 13 #[.slice spm nm cm, .agg (pcells q).toArray] (fun X => by go_simp) (fun u X => u = .bool im) ((HHM.out _ q hs1 HQ.out).mono fun e X ⟨e1, e2⟩ => ⟨_, e1, e2, by rw [HI2.out]⟩) ?_
          rintro u Y2 hs2 rfl
          refine ⟨S, fun _ h => h, hs2, ?_⟩
          (try simp only [Act.put, List.setIfInBounds_toArray, List.set_cons_zero, List.set_cons_succ])
          refine wpG_take _ (.bool false) rfl (by rfl) (fun X hX => (by rw [HIB.out]; cases im <;> go_simp)) ?_
          (try simp only [Act.put, List.setIfInBounds_toArray, List.set_cons_zero, List.set_cons_succ])
          refine wpG_nil ?_
          have HS2 := Lib.hid hs2
          clear hs0 hs1 hs2 HS
          go_wp2_with (first | (refine wpL_valG (by rfl) (q_iaP rfl rfl rfl HKB.out) ?_) | (refine wpL_valG (by rfl) (ex_ldR HQ.out ((HSD.out _ HS2.out).fn.at HQK.out) rfl rfl) ?_) | fail)
          refine (HHW.out _ q HS2.out HQ.out).mono ?_
          rintro e W7 ⟨rfl, hs7⟩
          have HS7 := Lib.hid hs7
          rw [HI1.out]
          clear hs7 HS2
          cases ib
          · go_wp2_with fail
            go_roundw
            case rel => exact ⟨k + 1, by omega, by go_num, by rw [HCS.out]; go_num, HS7.out⟩
            case measure => simp [intOf]; omega
          · go_wp2_with fail
            go_roundw
            case rel => exact ⟨k + 1, by omega, by go_num, by rw [HCS.out]; go_num, HS7.out⟩
            case measure => simp [intOf]; omega
        · obtain rfl : nn = k := by omega
          rw [List.take_of_length_le (by rw [HN.out.1]; omega)]
          have HSc := Lib.hid HS.out
          clear hlt hk wk1 HS
          have hnw2 := HT.out.nwN
          rw [hnw2, HM.out]
          go_wp2_with fail
          go_loopw [17, 18] (fun c i wr => ∃ k : Nat, k ≤ nw ∧ i = .int .i64 (k : Int) ∧ c = .int .i64 ((((was.take k).filter (fun q => !isIn now q)).length : Nat) : Int) ∧ S wr) (fun _ i _ => nw - (intOf i).toNat)
          case atStart => exact ⟨0, by omega, rfl, rfl, HSc.out⟩
          case round =>
            clear HSc
            obtain ⟨k, hk, rfl, rfl, hs⟩ := hrel
            have HS := Lib.hid hs
            clear hs
            have wk1 := IntWalk.i64_in ((k : Int) + 1) (by have := HW.out.1; have := HLE.out.1; omega)
            by_cases hlt : k < nw
            · obtain ⟨q, hq⟩ : ∃ q, was[k]? = some q := ⟨_, List.getElem?_eq_getElem (by have := HW.out.1; omega)⟩
              have HQ : Hid q.OK := Lib.hid (HOK.out.1 q (List.mem_of_getElem? hq))
              have HQK := Lib.hid hq
              obtain ⟨gn, rfl⟩ := HW.out.2.2 (by omega)
              have HKB : Hid (k < nw ∧ nw ≤ cw) := Lib.hid ⟨hlt, HW.out.2.1⟩
              obtain ⟨c0, hcc⟩ : ∃ c, ((was.take k).filter (fun q => !isIn now q)).length = c := ⟨_, rfl⟩
              have hcl : c0 ≤ k := by rw [← hcc]; exact Nat.le_trans (List.length_filter_le _ _) (by rw [List.length_take]; omega)
              have wk2 := IntWalk.i64_in ((c0 : Int) + 1) (by have := HW.out.1; have := HLE.out.1; omega)
              obtain ⟨ib, hib⟩ : ∃ b, isIn now q = b := ⟨_, rfl⟩
              obtain ⟨im, him⟩ : ∃ b, isIn gone q = b := ⟨_, rfl⟩
              have HIB : Hid (ib = !im) := Lib.hid (by rw [← hib, ← him]; exact HT.out.old q (List.mem_of_getElem? hq))
              have HCS : Hid (((was.take (k + 1)).filter (fun q => !isIn now q)).length = c0 + (if ib = true then 0 else 1)) := Lib.hid (by rw [filt_succ hq, hcc, hib]; cases ib <;> rfl)
              have HI1 := Lib.hid hib; have HI2 := Lib.hid him
              rw [hcc]
              clear hq hcc hcl hib him
              go_upto_region 25 with fail
              have hs0 := HDR.out _ HS.out
              refine wp_region_sched (.take 0 (.take 1 (.take 2 (.take 3 (.take 4 (.take 6 (.take 7 (.take 8 (.take 9 (.take 10 (.take 11 (.take 12 (.take 13 (.step 5 (.step 14 (.take 15 (.nil))))))))))))))))) (by kernel_rfl) (by kernel_rfl) (fun d _ _ _ _ h => by cases d <;> exact h) (S) (hs0) ?_
              refine wpG_take _ (.slice spn nn cn) rfl (by rfl) (fun X hX => by first | rfl | go_simp) ?_
              (try simp only [Act.put, List.setIfInBounds_toArray, List.set_cons_zero, List.set_cons_succ])
              refine wpG_take _ (.slice (some ⟨gn, 0, none⟩) nw cw) rfl (by rfl) (fun X hX => by first | rfl | go_simp) ?_
              (try simp only [Act.put, List.setIfInBounds_toArray, List.set_cons_zero, List.set_cons_succ])
              refine wpG_take _ (.int .i64 (k : Int)) rfl (by rfl) (fun X hX => by first | rfl | go_simp) ?_
              (try simp only [Act.put, List.setIfInBounds_toArray, List.set_cons_zero, List.set_cons_succ])
              refine wpG_take _ (.pointer (some ⟨gn, k * 41, none⟩)) rfl (by rfl) (fun X hX => q_iaP rfl rfl rfl HKB.out) ?_
              (try simp only [Act.put, List.setIfInBounds_toArray, List.set_cons_zero, List.set_cons_succ])
              refine wpG_take _ (.agg (pcells q).toArray) rfl (by rfl) (fun X hX => ex_ldR HQ.out ((HSD.out X hX).fw.at HQK.out) rfl rfl) ?_
              (try simp only [Act.put, List.setIfInBounds_toArray, List.set_cons_zero, List.set_cons_succ])
              refine wpG_take _ (.pointer (some ⟨D, 0, none⟩)) rfl (by rfl) (fun X hX => by first | rfl | go_simp) ?_
              (try simp only [Act.put, List.setIfInBounds_toArray, List.set_cons_zero, List.set_cons_succ])
              refine wpG_take _ (.pointer (some ⟨D, 0, none⟩)) rfl (by rfl) (fun X hX => by first | rfl | go_simp) ?_
              (try simp only [Act.put, List.setIfInBounds_toArray, List.set_cons_zero, List.set_cons_succ])
              refine wpG_take _ (.pointer (some ⟨D, 3, none⟩)) rfl (by rfl) (fun X hX => by first | rfl | go_simp) ?_
              (try simp only [Act.put, List.setIfInBounds_toArray, List.set_cons_zero, List.set_cons_succ])
              refine wpG_take _ (.slice spg ng cg) rfl (by rfl) (fun X hX => ex_ldPs rfl rfl (HSD.out X hX).gn) ?_
              (try simp only [Act.put, List.setIfInBounds_toArray, List.set_cons_zero, List.set_cons_succ])
              refine wpG_take _ (.slice (some ⟨gn, 0, none⟩) nw cw) rfl (by rfl) (fun X hX => by first | rfl | go_simp) ?_
              (try simp only [Act.put, List.setIfInBounds_toArray, List.set_cons_zero, List.set_cons_succ])
              refine wpG_take _ (.int .i64 (k : Int)) rfl (by rfl) (fun X hX => by first | rfl | go_simp) ?_
              (try simp only [Act.put, List.setIfInBounds_toArray, List.set_cons_zero, List.set_cons_succ])
              refine wpG_take _ (.pointer (some ⟨gn, k * 41, none⟩)) rfl (by rfl) (fun X hX => q_iaP rfl rfl rfl HKB.out) ?_
              (try simp only [Act.put, List.setIfInBounds_toArray, List.set_cons_zero, List.set_cons_succ])
              refine wpG_take _ (.agg (pcells q).toArray) rfl (by rfl) (fun X hX => ex_ldR HQ.out ((HSD.out X hX).fw.at HQK.out) rfl rfl) ?_
              (try simp only [Act.put, List.setIfInBounds_toArray, List.set_cons_zero, List.set_cons_succ])
              refine wpG_call _ rfl (by rfl) 13 #[.slice spn nn cn, .agg (pcells q).toArray] (fun X => by go_simp) (fun u X => u = .bool ib) ((HHN.out _ q hs0 HQ.out).mono fun e X ⟨e1, e2⟩ => ⟨_, e1, e2, by rw [HI1.out]⟩) ?_
              rintro u Y1 hs1 rfl
              refine ⟨S, fun _ h => h, hs1, ?_⟩
              (try simp only [Act.put, List.setIfInBounds_toArray, List.set_cons_zero, List.set_cons_succ])
              refine wpG_call _ rfl (by rfl) 13 #[.slice spg ng cg, .agg (pcells q).toArray] (fun X => by go_simp) (fun u X => u = .bool im) ((HHG.out _ q hs1 HQ.out).mono fun e X ⟨e1, e2⟩ => ⟨_, e1, e2, by rw [HI2.out]⟩) ?_
              rintro u Y2 hs2 rfl
              refine ⟨S, fun _ h => h, hs2, ?_⟩
              (try simp only [Act.put, List.setIfInBounds_toArray, List.set_cons_zero, List.set_cons_succ])
              refine wpG_take _ (.bool false) rfl (by rfl) (fun X hX => (by rw [HIB.out]; cases im <;> go_simp)) ?_
              (try simp only [Act.put, List.setIfInBounds_toArray, List.set_cons_zero, List.set_cons_succ])
              refine wpG_nil ?_
              have HS2 := Lib.hid hs2
              clear hs0 hs1 hs2 HS
              go_wp2_with (first | (refine wpL_valG (by rfl) (q_iaP rfl rfl rfl HKB.out) ?_) | (refine wpL_valG (by rfl) (ex_ldR HQ.out ((HSD.out _ HS2.out).fw.at HQK.out) rfl rfl) ?_) | fail)
              refine (HHN.out _ q HS2.out HQ.out).mono ?_
              rintro e W7 ⟨rfl, hs7⟩
              have HS7 := Lib.hid hs7
              rw [HI1.out]
              clear hs7 HS2
              cases ib
              · go_wp2_with fail
                go_roundw
                case rel => exact ⟨k + 1, by omega, by go_num, by rw [HCS.out]; go_num, HS7.out⟩
                case measure => simp [intOf]; omega
              · go_wp2_with fail
                go_roundw
                case rel => exact ⟨k + 1, by omega, by go_num, by rw [HCS.out]; go_num, HS7.out⟩
                case measure => simp [intOf]; omega
            · obtain rfl : nw = k := by omega
              rw [List.take_of_length_le (by rw [HW.out.1]; omega)]
              have HSc := Lib.hid HS.out
              clear hlt hk wk1 HS
              obtain ⟨nf, hnf⟩ : ∃ n, (was.filter (fun q => !isIn now q)).length = n := ⟨_, rfl⟩
              have hnl : nf ≤ was.length := by rw [← hnf]; exact List.length_filter_le _ _
              have hgo := HT.out.oldN
              rw [hnf] at hgo ⊢
              have HGO := Lib.hid hgo; have HNL := Lib.hid hnl
              clear hnf hnl hgo
              go_wp2_with fail
              go_loopw [17, 19] (fun c i wr => ∃ k : Nat, k ≤ 64 ∧ i = .int .i64 (k : Int) ∧ c = .int .i64 ((nf + goneN h hN k : Nat) : Int) ∧ S wr) (fun _ i _ => 64 - (intOf i).toNat)
              case atStart => exact ⟨0, by omega, rfl, rfl, HSc.out⟩
              case round =>
                clear HSc
                obtain ⟨k, hk, rfl, rfl, hs⟩ := hrel
                have HS := Lib.hid hs
                clear hs
                have wk1 := IntWalk.i64_in ((k : Int) + 1) (by omega)
                by_cases hlt : k < 64
                · obtain ⟨q, hq⟩ : ∃ q, h[k]? = some q := ⟨_, List.getElem?_eq_getElem (by have := HL.out; omega)⟩
                  obtain ⟨x, hx⟩ : ∃ x, hN[k]? = some x := ⟨_, List.getElem?_eq_getElem (by have := HL2.out; omega)⟩
                  have HQ : Hid q.OK := Lib.hid (HOK.out.2.2.1 q (List.mem_of_getElem? hq))
                  have HX : Hid x.OK := Lib.hid (HOK.out.2.2.2 x (List.mem_of_getElem? hx))
                  have HQK := Lib.hid hq; have HXK := Lib.hid hx
                  have HKB : Hid (k < 64 ∧ 64 ≤ ch) := Lib.hid ⟨hlt, HCH.out⟩
                  have HKX : Hid (k < 64 ∧ 64 ≤ cx) := Lib.hid ⟨hlt, HCX.out⟩
                  have hgd : h.getD k zeroP = q := by rw [List.getD_eq_getElem?_getD, hq]; rfl
                  have hxd : hN.getD k zeroP = x := by rw [List.getD_eq_getElem?_getD, hx]; rfl
                  obtain ⟨z1, hz1⟩ : ∃ b, eqP q zeroP = b := ⟨_, rfl⟩
                  obtain ⟨z2, hz2⟩ : ∃ b, eqP q x = b := ⟨_, rfl⟩
                  have hgc : goneC h hN k = (!z1 && !z2) := by unfold goneC; rw [hgd, hxd, hz1, hz2]
                  have hle := goneN_le h hN k
                  have HGS : Hid (goneN h hN (k + 1) = goneN h hN k + (if (!z1 && !z2) = true then 1 else 0)) := Lib.hid (by rw [goneN_succ, hgc])
                  have HLF : Hid ((!z1 && !z2) = true → isIn gone q = true) := Lib.hid (fun e => by have := HT.out.leaf k hlt (by rw [hgc]; exact e); rw [hgd] at this; exact this)
                  obtain ⟨gk, hgk⟩ : ∃ n, nf + goneN h hN k = n := ⟨_, rfl⟩
                  have wk2 := IntWalk.i64_in ((gk : Int) + 1) (by have := HNL.out; have := HLE.out.1; omega)
                  have HG1 : Hid (nf + goneN h hN (k + 1) = gk + (if (!z1 && !z2) = true then 1 else 0)) := Lib.hid (by rw [HGS.out, ← hgk]; omega)
                  have HZ1 := Lib.hid hz1; have HZ2 := Lib.hid hz2
                  rw [hgk]
                  clear hq hx hgd hxd hz1 hz2 hgc hle hgk HGS
                  go_upto_region 32 with fail
                  have hs0 := HDR.out _ HS.out
                  cases z1
                  · cases z2
                    · refine wp_region_sched (.take 0 (.take 1 (.take 2 (.take 3 (.take 4 (.take 5 (.take 6 (.take 7 (.take 8 (.take 9 (.take 10 (.take 11 (.take 12 (.take 13 (.take 14 (.take 15 (.take 16 (.nil)))))))))))))))))) (by kernel_rfl) (by kernel_rfl) (fun d _ _ _ _ h => by cases d <;> exact h) (S) (hs0) ?_
                      refine wpG_take _ (.slice (some ⟨gh, 0, none⟩) 64 ch) rfl (by rfl) (fun X hX => by first | rfl | go_simp) ?_
                      (try simp only [Act.put, List.setIfInBounds_toArray, List.set_cons_zero, List.set_cons_succ])
                      refine wpG_take _ (.int .i64 (k : Int)) rfl (by rfl) (fun X hX => by first | rfl | go_simp) ?_
                      (try simp only [Act.put, List.setIfInBounds_toArray, List.set_cons_zero, List.set_cons_succ])
                      refine wpG_take _ (.pointer (some ⟨gh, k * 41, none⟩)) rfl (by rfl) (fun X hX => q_iaP rfl rfl rfl HKB.out) ?_
                      (try simp only [Act.put, List.setIfInBounds_toArray, List.set_cons_zero, List.set_cons_succ])
                      refine wpG_take _ (.agg (pcells q).toArray) rfl (by rfl) (fun X hX => ex_ldR HQ.out ((HSD.out X hX).fh.at HQK.out) rfl rfl) ?_
                      (try simp only [Act.put, List.setIfInBounds_toArray, List.set_cons_zero, List.set_cons_succ])
                      refine wpG_take _ (.agg (pcells zeroP).toArray) rfl (by rfl) (fun X hX => ex_bld0 rfl) ?_
                      (try simp only [Act.put, List.setIfInBounds_toArray, List.set_cons_zero, List.set_cons_succ])
                      refine wpG_take _ (.bool true) rfl (by rfl) (fun X hX => (ex_neP rfl rfl rfl HQ.out zeroP_ok).trans (by rw [HZ1.out]; rfl)) ?_
                      (try simp only [Act.put, List.setIfInBounds_toArray, List.set_cons_zero, List.set_cons_succ])
                      refine wpG_take _ (.bool true) rfl (by rfl) (fun X hX => by first | rfl | go_simp) ?_
                      (try simp only [Act.put, List.setIfInBounds_toArray, List.set_cons_zero, List.set_cons_succ])
                      refine wpG_take _ (.slice (some ⟨gh, 0, none⟩) 64 ch) rfl (by rfl) (fun X hX => by first | rfl | go_simp) ?_
                      (try simp only [Act.put, List.setIfInBounds_toArray, List.set_cons_zero, List.set_cons_succ])
                      refine wpG_take _ (.int .i64 (k : Int)) rfl (by rfl) (fun X hX => by first | rfl | go_simp) ?_
                      (try simp only [Act.put, List.setIfInBounds_toArray, List.set_cons_zero, List.set_cons_succ])
                      refine wpG_take _ (.pointer (some ⟨gh, k * 41, none⟩)) rfl (by rfl) (fun X hX => q_iaP rfl rfl rfl HKB.out) ?_
                      (try simp only [Act.put, List.setIfInBounds_toArray, List.set_cons_zero, List.set_cons_succ])
                      refine wpG_take _ (.agg (pcells q).toArray) rfl (by rfl) (fun X hX => ex_ldR HQ.out ((HSD.out X hX).fh.at HQK.out) rfl rfl) ?_
                      (try simp only [Act.put, List.setIfInBounds_toArray, List.set_cons_zero, List.set_cons_succ])
                      refine wpG_take _ (.slice (some ⟨gx, 0, none⟩) 64 cx) rfl (by rfl) (fun X hX => by first | rfl | go_simp) ?_
                      (try simp only [Act.put, List.setIfInBounds_toArray, List.set_cons_zero, List.set_cons_succ])
                      refine wpG_take _ (.int .i64 (k : Int)) rfl (by rfl) (fun X hX => by first | rfl | go_simp) ?_
                      (try simp only [Act.put, List.setIfInBounds_toArray, List.set_cons_zero, List.set_cons_succ])
                      refine wpG_take _ (.pointer (some ⟨gx, k * 41, none⟩)) rfl (by rfl) (fun X hX => q_iaP rfl rfl rfl HKX.out) ?_
                      (try simp only [Act.put, List.setIfInBounds_toArray, List.set_cons_zero, List.set_cons_succ])
                      refine wpG_take _ (.agg (pcells x).toArray) rfl (by rfl) (fun X hX => ex_ldR HX.out ((HSD.out X hX).fx.at HXK.out) rfl rfl) ?_
                      (try simp only [Act.put, List.setIfInBounds_toArray, List.set_cons_zero, List.set_cons_succ])
                      refine wpG_take _ (.bool true) rfl (by rfl) (fun X hX => (ex_neP rfl rfl rfl HQ.out HX.out).trans (by rw [HZ2.out]; rfl)) ?_
                      (try simp only [Act.put, List.setIfInBounds_toArray, List.set_cons_zero, List.set_cons_succ])
                      refine wpG_take _ (.bool true) rfl (by rfl) (fun X hX => by first | rfl | go_simp) ?_
                      (try simp only [Act.put, List.setIfInBounds_toArray, List.set_cons_zero, List.set_cons_succ])
                      refine wpG_nil ?_
                      have HSd := Lib.hid hs0
                      clear hs0 HS
                      go_upto_region 34 with fail
                      have hs0 := HDR.out _ HSd.out
                      refine wp_region_sched (.take 0 (.take 1 (.take 2 (.take 3 (.take 4 (.take 5 (.take 6 (.take 7 (.step 8 (.take 9 (.nil))))))))))) (by kernel_rfl) (by kernel_rfl) (fun d _ _ _ _ h => by cases d <;> exact h) (S) (hs0) ?_
                      refine wpG_take _ (.pointer (some ⟨D, 0, none⟩)) rfl (by rfl) (fun X hX => by first | rfl | go_simp) ?_
                      (try simp only [Act.put, List.setIfInBounds_toArray, List.set_cons_zero, List.set_cons_succ])
                      refine wpG_take _ (.pointer (some ⟨D, 0, none⟩)) rfl (by rfl) (fun X hX => by first | rfl | go_simp) ?_
                      (try simp only [Act.put, List.setIfInBounds_toArray, List.set_cons_zero, List.set_cons_succ])
                      refine wpG_take _ (.pointer (some ⟨D, 3, none⟩)) rfl (by rfl) (fun X hX => by first | rfl | go_simp) ?_
                      (try simp only [Act.put, List.setIfInBounds_toArray, List.set_cons_zero, List.set_cons_succ])
                      refine wpG_take _ (.slice spg ng cg) rfl (by rfl) (fun X hX => ex_ldPs rfl rfl (HSD.out X hX).gn) ?_
                      (try simp only [Act.put, List.setIfInBounds_toArray, List.set_cons_zero, List.set_cons_succ])
                      refine wpG_take _ (.slice (some ⟨gh, 0, none⟩) 64 ch) rfl (by rfl) (fun X hX => by first | rfl | go_simp) ?_
                      (try simp only [Act.put, List.setIfInBounds_toArray, List.set_cons_zero, List.set_cons_succ])
                      refine wpG_take _ (.int .i64 (k : Int)) rfl (by rfl) (fun X hX => by first | rfl | go_simp) ?_
                      (try simp only [Act.put, List.setIfInBounds_toArray, List.set_cons_zero, List.set_cons_succ])
                      refine wpG_take _ (.pointer (some ⟨gh, k * 41, none⟩)) rfl (by rfl) (fun X hX => q_iaP rfl rfl rfl HKB.out) ?_
                      (try simp only [Act.put, List.setIfInBounds_toArray, List.set_cons_zero, List.set_cons_succ])
                      refine wpG_take _ (.agg (pcells q).toArray) rfl (by rfl) (fun X hX => ex_ldR HQ.out ((HSD.out X hX).fh.at HQK.out) rfl rfl) ?_
                      (try simp only [Act.put, List.setIfInBounds_toArray, List.set_cons_zero, List.set_cons_succ])
                      refine wpG_call _ rfl (by rfl) 13 #[.slice spg ng cg, .agg (pcells q).toArray] (fun X => by go_simp) (fun u X => u = .bool true) ((HHG.out _ q hs0 HQ.out).mono fun e X ⟨e1, e2⟩ => ⟨_, e1, e2, by rw [HLF.out rfl]⟩) ?_
                      rintro u Y1 hs1 rfl
                      refine ⟨S, fun _ h => h, hs1, ?_⟩
                      (try simp only [Act.put, List.setIfInBounds_toArray, List.set_cons_zero, List.set_cons_succ])
                      refine wpG_take _ (.bool false) rfl (by rfl) (fun X hX => by first | rfl | go_simp) ?_
                      (try simp only [Act.put, List.setIfInBounds_toArray, List.set_cons_zero, List.set_cons_succ])
                      refine wpG_nil ?_
                      have HS1 := Lib.hid hs1
                      clear hs0 hs1 HSd
                      go_wp2_with fail
                      go_roundw
                      case rel => exact ⟨k + 1, by omega, by go_num, by rw [HG1.out]; go_num, HS1.out⟩
                      case measure => simp [intOf]; omega
                    · refine wp_region_sched (.take 0 (.take 1 (.take 2 (.take 3 (.take 4 (.take 5 (.take 6 (.take 7 (.take 8 (.take 9 (.take 10 (.take 11 (.take 12 (.take 13 (.take 14 (.take 15 (.take 16 (.nil)))))))))))))))))) (by kernel_rfl) (by kernel_rfl) (fun d _ _ _ _ h => by cases d <;> exact h) (S) (hs0) ?_
                      refine wpG_take _ (.slice (some ⟨gh, 0, none⟩) 64 ch) rfl (by rfl) (fun X hX => by first | rfl | go_simp) ?_
                      (try simp only [Act.put, List.setIfInBounds_toArray, List.set_cons_zero, List.set_cons_succ])
                      refine wpG_take _ (.int .i64 (k : Int)) rfl (by rfl) (fun X hX => by first | rfl | go_simp) ?_
                      (try simp only [Act.put, List.setIfInBounds_toArray, List.set_cons_zero, List.set_cons_succ])
                      refine wpG_take _ (.pointer (some ⟨gh, k * 41, none⟩)) rfl (by rfl) (fun X hX => q_iaP rfl rfl rfl HKB.out) ?_
                      (try simp only [Act.put, List.setIfInBounds_toArray, List.set_cons_zero, List.set_cons_succ])
                      refine wpG_take _ (.agg (pcells q).toArray) rfl (by rfl) (fun X hX => ex_ldR HQ.out ((HSD.out X hX).fh.at HQK.out) rfl rfl) ?_
                      (try simp only [Act.put, List.setIfInBounds_toArray, List.set_cons_zero, List.set_cons_succ])
                      refine wpG_take _ (.agg (pcells zeroP).toArray) rfl (by rfl) (fun X hX => ex_bld0 rfl) ?_
                      (try simp only [Act.put, List.setIfInBounds_toArray, List.set_cons_zero, List.set_cons_succ])
                      refine wpG_take _ (.bool true) rfl (by rfl) (fun X hX => (ex_neP rfl rfl rfl HQ.out zeroP_ok).trans (by rw [HZ1.out]; rfl)) ?_
                      (try simp only [Act.put, List.setIfInBounds_toArray, List.set_cons_zero, List.set_cons_succ])
                      refine wpG_take _ (.bool true) rfl (by rfl) (fun X hX => by first | rfl | go_simp) ?_
                      (try simp only [Act.put, List.setIfInBounds_toArray, List.set_cons_zero, List.set_cons_succ])
                      refine wpG_take _ (.slice (some ⟨gh, 0, none⟩) 64 ch) rfl (by rfl) (fun X hX => by first | rfl | go_simp) ?_
                      (try simp only [Act.put, List.setIfInBounds_toArray, List.set_cons_zero, List.set_cons_succ])
                      refine wpG_take _ (.int .i64 (k : Int)) rfl (by rfl) (fun X hX => by first | rfl | go_simp) ?_
                      (try simp only [Act.put, List.setIfInBounds_toArray, List.set_cons_zero, List.set_cons_succ])
                      refine wpG_take _ (.pointer (some ⟨gh, k * 41, none⟩)) rfl (by rfl) (fun X hX => q_iaP rfl rfl rfl HKB.out) ?_
                      (try simp only [Act.put, List.setIfInBounds_toArray, List.set_cons_zero, List.set_cons_succ])
                      refine wpG_take _ (.agg (pcells q).toArray) rfl (by rfl) (fun X hX => ex_ldR HQ.out ((HSD.out X hX).fh.at HQK.out) rfl rfl) ?_
                      (try simp only [Act.put, List.setIfInBounds_toArray, List.set_cons_zero, List.set_cons_succ])
                      refine wpG_take _ (.slice (some ⟨gx, 0, none⟩) 64 cx) rfl (by rfl) (fun X hX => by first | rfl | go_simp) ?_
                      (try simp only [Act.put, List.setIfInBounds_toArray, List.set_cons_zero, List.set_cons_succ])
                      refine wpG_take _ (.int .i64 (k : Int)) rfl (by rfl) (fun X hX => by first | rfl | go_simp) ?_
                      (try simp only [Act.put, List.setIfInBounds_toArray, List.set_cons_zero, List.set_cons_succ])
                      refine wpG_take _ (.pointer (some ⟨gx, k * 41, none⟩)) rfl (by rfl) (fun X hX => q_iaP rfl rfl rfl HKX.out) ?_
                      (try simp only [Act.put, List.setIfInBounds_toArray, List.set_cons_zero, List.set_cons_succ])
                      refine wpG_take _ (.agg (pcells x).toArray) rfl (by rfl) (fun X hX => ex_ldR HX.out ((HSD.out X hX).fx.at HXK.out) rfl rfl) ?_
                      (try simp only [Act.put, List.setIfInBounds_toArray, List.set_cons_zero, List.set_cons_succ])
                      refine wpG_take _ (.bool false) rfl (by rfl) (fun X hX => (ex_neP rfl rfl rfl HQ.out HX.out).trans (by rw [HZ2.out]; rfl)) ?_
                      (try simp only [Act.put, List.setIfInBounds_toArray, List.set_cons_zero, List.set_cons_succ])
                      refine wpG_take _ (.bool false) rfl (by rfl) (fun X hX => by first | rfl | go_simp) ?_
                      (try simp only [Act.put, List.setIfInBounds_toArray, List.set_cons_zero, List.set_cons_succ])
                      refine wpG_nil ?_
                      have HSd := Lib.hid hs0
                      clear hs0 HS
                      go_wp2_with fail
                      go_roundw
                      case rel => exact ⟨k + 1, by omega, by go_num, by rw [HG1.out]; go_num, HSd.out⟩
                      case measure => simp [intOf]; omega
                  · refine wp_region_sched (.take 0 (.take 1 (.take 2 (.take 3 (.take 4 (.take 5 (.take 6 (.take 7 (.take 8 (.take 9 (.take 10 (.take 11 (.take 12 (.take 13 (.take 14 (.take 15 (.take 16 (.nil)))))))))))))))))) (by kernel_rfl) (by kernel_rfl) (fun d _ _ _ _ h => by cases d <;> exact h) (S) (hs0) ?_
                    refine wpG_take _ (.slice (some ⟨gh, 0, none⟩) 64 ch) rfl (by rfl) (fun X hX => by first | rfl | go_simp) ?_
                    (try simp only [Act.put, List.setIfInBounds_toArray, List.set_cons_zero, List.set_cons_succ])
                    refine wpG_take _ (.int .i64 (k : Int)) rfl (by rfl) (fun X hX => by first | rfl | go_simp) ?_
                    (try simp only [Act.put, List.setIfInBounds_toArray, List.set_cons_zero, List.set_cons_succ])
                    refine wpG_take _ (.pointer (some ⟨gh, k * 41, none⟩)) rfl (by rfl) (fun X hX => q_iaP rfl rfl rfl HKB.out) ?_
                    (try simp only [Act.put, List.setIfInBounds_toArray, List.set_cons_zero, List.set_cons_succ])
                    refine wpG_take _ (.agg (pcells q).toArray) rfl (by rfl) (fun X hX => ex_ldR HQ.out ((HSD.out X hX).fh.at HQK.out) rfl rfl) ?_
                    (try simp only [Act.put, List.setIfInBounds_toArray, List.set_cons_zero, List.set_cons_succ])
                    refine wpG_take _ (.agg (pcells zeroP).toArray) rfl (by rfl) (fun X hX => ex_bld0 rfl) ?_
                    (try simp only [Act.put, List.setIfInBounds_toArray, List.set_cons_zero, List.set_cons_succ])
                    refine wpG_take _ (.bool false) rfl (by rfl) (fun X hX => (ex_neP rfl rfl rfl HQ.out zeroP_ok).trans (by rw [HZ1.out]; rfl)) ?_
                    (try simp only [Act.put, List.setIfInBounds_toArray, List.set_cons_zero, List.set_cons_succ])
                    refine wpG_take _ (.bool false) rfl (by rfl) (fun X hX => by first | rfl | go_simp) ?_
                    (try simp only [Act.put, List.setIfInBounds_toArray, List.set_cons_zero, List.set_cons_succ])
                    refine wpG_pass _ rfl (by rfl) ?_
                    (try simp only [Act.put, List.setIfInBounds_toArray, List.set_cons_zero, List.set_cons_succ])
                    refine wpG_pass _ rfl (by rfl) ?_
                    (try simp only [Act.put, List.setIfInBounds_toArray, List.set_cons_zero, List.set_cons_succ])
                    refine wpG_pass _ rfl (by rfl) ?_
                    (try simp only [Act.put, List.setIfInBounds_toArray, List.set_cons_zero, List.set_cons_succ])
                    refine wpG_pass _ rfl (by rfl) ?_
                    (try simp only [Act.put, List.setIfInBounds_toArray, List.set_cons_zero, List.set_cons_succ])
                    refine wpG_pass _ rfl (by rfl) ?_
                    (try simp only [Act.put, List.setIfInBounds_toArray, List.set_cons_zero, List.set_cons_succ])
                    refine wpG_pass _ rfl (by rfl) ?_
                    (try simp only [Act.put, List.setIfInBounds_toArray, List.set_cons_zero, List.set_cons_succ])
                    refine wpG_pass _ rfl (by rfl) ?_
                    (try simp only [Act.put, List.setIfInBounds_toArray, List.set_cons_zero, List.set_cons_succ])
                    refine wpG_pass _ rfl (by rfl) ?_
                    (try simp only [Act.put, List.setIfInBounds_toArray, List.set_cons_zero, List.set_cons_succ])
                    refine wpG_pass _ rfl (by rfl) ?_
                    (try simp only [Act.put, List.setIfInBounds_toArray, List.set_cons_zero, List.set_cons_succ])
                    refine wpG_take _ (.bool false) rfl (by rfl) (fun X hX => by first | rfl | go_simp) ?_
                    (try simp only [Act.put, List.setIfInBounds_toArray, List.set_cons_zero, List.set_cons_succ])
                    refine wpG_nil ?_
                    have HSd := Lib.hid hs0
                    clear hs0 HS
                    go_wp2_with fail
                    go_roundw
                    case rel => exact ⟨k + 1, by omega, by go_num, by rw [HG1.out]; go_num, HSd.out⟩
                    case measure => simp [intOf]; omega
                · obtain rfl : k = 64 := by omega
                  rw [HGO.out, HG.out, show ((64 : Nat) : Int) = (64 : Int) from rfl]
                  have HE := Lib.hid (HPO.out _ HS.out)
                  have HSd := Lib.hid HS.out
                  clear hlt hk wk1 HS
                  go_wp2_with (first | (refine wpL_valG (by rfl) (ex_ldPs rfl rfl (HSD.out _ HSd.out).md) ?_) | (refine wpL_valG (by rfl) (ex_ldPs rfl rfl (HSD.out _ HSd.out).gn) ?_) | fail)
                  first | exact HE.out | (go_ret; exact HE.out)
end Go.Proofs.YtfcjeceoedfldaaDoor
