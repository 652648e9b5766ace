/- Nodes: Len, With. -/
import Derived.Test.YtincpdnmaiimnaaDoorNb
namespace Go.Proofs.YtincpdnmaiimnaaDoor
open Go.RowKit

def lenN (ns : List Pt) : Nat := (ns.filter fun p => !eqP p zeroP).length
theorem lenN_take {ns : List Pt} {k : Nat} {p : Pt} (h : ns[k]? = some p) : lenN (ns.take (k + 1)) = lenN (ns.take k) + (if eqP p zeroP then 0 else 1) := by
  unfold lenN
  have e : ns.take (k + 1) = ns.take k ++ [p] := by
    obtain ⟨hk, e⟩ := List.getElem?_eq_some_iff.1 h
    rw [List.take_succ_eq_append_getElem hk, e]
  rw [e, List.filter_append, List.length_append]
  cases hz : eqP p zeroP <;> simp [hz]
theorem lenN_le (ns : List Pt) : lenN ns ≤ ns.length := List.length_filter_le _ _
def LenRel (ns : List Pt) (w : World) (v i : Value) (wr : World) : Prop := ∃ k c : Nat, k ≤ 8 ∧ c ≤ k ∧ c = lenN (ns.take k) ∧ v = .int .i64 (c : Int) ∧ i = .int .i64 (k : Int) ∧ Below w.heap.size w wr
/-- A pointer is laid in a new box. -/
theorem box_ptr (w : World) (z : Array Value) (p : Pt) : ∃ W, W = (w.alloc (.cells z 28)).setRow w.heap.size (pcells p).toArray ∧ Blk W w.heap.size (pcells p) 28 ∧ Below w.heap.size w W :=
  ⟨_, rfl, (blk_row1 w z (pcells p) 28).1, (blk_row1 w z (pcells p) 28).2⟩
set_option maxRecDepth 100000 in
set_option maxHeartbeats 4000000 in
theorem len_any (ns : List Pt) (h : NOK ns) (w : World) : Calls Tryd.prog 11 #[.agg (ncells ns).toArray] w fun e w' => e = .returned (.int .i64 (lenN ns : Int)) ∧ Below w.heap.size w w' := by
  have HP := Lib.hid h
  have HB := Lib.hid (Blk.new w (ncells ns) 35)
  have HW : Hid (Below w.heap.size w (w.alloc (.cells (ncells ns).toArray 35))) := Lib.hid ((Below.refl _ _).alloc (Nat.le_refl _) _)
  obtain ⟨N, hN⟩ : ∃ N, lenN ns = N := ⟨_, rfl⟩
  have HN := Lib.hid hN
  rw [hN]
  clear h hN
  go_enter Tryd.func11, Tryd.ntmps11
  go_wp2_with (first | (refine wpL_val rfl (ex_ldN HP.out HB.out rfl rfl) ?_) | fail)
  have HR : Hid (LenRel ns w (.int .i64 0) (.int .i64 0) (w.alloc (.cells (ncells ns).toArray 35))) := Lib.hid ⟨0, 0, by omega, by omega, rfl, rfl, rfl, HW.out⟩
  clear HB HW
  go_loopw [3, 7] (fun v i wr => LenRel ns w v i wr) (fun _ i _ => 8 - (intOf i).toNat)
  case atStart => exact HR.out
  case round =>
    clear HR
    obtain ⟨k, c, hk, hck, hc, rfl, rfl, hB⟩ := hrel
    have HB := Lib.hid hB
    have HC := Lib.hid hc
    clear hB hc
    have wk1 := IntWalk.i64_in ((k : Int) + 1) (by omega)
    have wk2 := IntWalk.i64_in ((c : Int) + 1) (by omega)
    by_cases hlt : k < 8
    · obtain ⟨p, hp⟩ := HP.out.get hlt
      have hix : ∀ W : World, (Instr.index 35 (.agg (ncells ns).toArray) (.int .i64 (k : Int))).run Tryd.prog W = .ok (.agg (pcells p).toArray) W := fun W => run_ixT Tryd.underlying35 HP.out hp W
      have HPO := Lib.hid (HP.out.at hp)
      have HST := Lib.hid (size_pc HPO.out)
      have HLP : Hid ((pcells p).toArray.size = 41) := Lib.hid (by rw [List.size_toArray, pcells_length HPO.out])
      have HX := Lib.hid (lenN_take hp)
      clear hp
      go_wp2_with (first | (refine wpList_store_row rfl 28 (.tmp 5) (.tmp 9) rfl wr.heap.size (pcells p).toArray rfl rfl 28 _ (heap_alloc_new wr _) HST.out (by rw [HLP.out]; rfl) (one_pc p) ?_) | (refine wpL_val rfl (ex_ldP HPO.out (blk_row1 wr _ (pcells p) 28).1 rfl rfl) ?_) | fail)
      refine (hole_any p HPO.out _).mono ?_
      rintro e w6 ⟨rfl, hb6⟩
      have HB6 := Lib.hid (HB.out.trans (((blk_row1 wr _ (pcells p) 28).2.trans (hb6.mono (blk_row1 wr _ (pcells p) 28).2.size)).mono HB.out.size))
      clear hb6 HB
      cases hz : eqP p zeroP
      · rw [hz] at HX
        go_wp2_with fail
        go_roundw
        case rel => exact ⟨k + 1, c + 1, by omega, by omega, by rw [HX.out, ← HC.out]; rfl, by go_num, by go_num, HB6.out⟩
        case measure => simp [intOf]; omega
      · rw [hz] at HX
        go_wp2_with fail
        go_roundw
        case rel => exact ⟨k + 1, c, by omega, by omega, by rw [HX.out, ← HC.out]; rfl, rfl, by go_num, HB6.out⟩
        case measure => simp [intOf]; omega
    · obtain rfl : k = 8 := by omega
      rw [List.take_of_length_le (by rw [HP.out.len]; omega)] at HC
      rw [HN.out] at HC
      obtain rfl := HC.out
      rw [show ((8 : Nat) : Int) = (8 : Int) from rfl]
      go_wp2_with fail
      go_ret
      exact ⟨rfl, HB.out⟩
/-- The node with another pointer at a place. -/
def withN (ns : List Pt) (i : Int) (p : Pt) : List Pt := if 0 ≤ i ∧ i < 8 then ns.set i.toNat p else ns
theorem withN_ok {ns : List Pt} (h : NOK ns) (i : Int) {p : Pt} (hp : p.OK) : NOK (withN ns i p) := by
  unfold withN
  split
  · exact h.set _ hp
  · exact h
structure WiW (ns : List Pt) (p : Pt) (zs : List Pt) (w : World) (W : World) : Prop where
  a : Blk W w.heap.size (ncells ns) 35
  b : Blk W (w.heap.size + 1) (pcells p) 28
  c : Blk W (w.heap.size + 1 + 1) (ncells zs) 35
  bel : Below w.heap.size w W
theorem wiW_start (ns : List Pt) (p : Pt) (w : World) (z : Array Value) (hz : z = (ncells holes).toArray) : WiW ns p holes w (((w.alloc (.cells (ncells ns).toArray 35)).alloc (.cells (pcells p).toArray 28)).alloc (.cells z 35)) := by
  refine ⟨((Blk.new w _ _).alloc _).alloc _, (Blk.new' (w.alloc (.cells (ncells ns).toArray 35)) _ _ _ _ (by simp) rfl).alloc _, Blk.new' _ _ _ _ _ (by simp) hz, (((Below.refl _ _).alloc (Nat.le_refl _) _).alloc (by simp) _).alloc (by simp; omega) _⟩
theorem below_sets {B g : Nat} {w0 : World} : ∀ (vs : List Value) (o : Nat) (w : World), Below B w0 w → B ≤ g → Below B w0 (w.setCells g o vs)
  | [], _, _, h, _ => h
  | v :: vs, o, w, h, hg => below_sets vs (o + 1) _ (h.trans ⟨rfl, rfl, rfl, by simp, fun k hk => heap_setCell_other w ⟨g, o, none⟩ k v (by simp; omega)⟩) hg
theorem blk_setE {w : World} {g : Nat} {t : TypeId} {ns : List Pt} (h : NOK ns) (hB : Blk w g (ncells ns) t) {k off : Nat} (hk : k < 8) (ho : off = 41 * k) {q : Pt} (hq : q.OK) : Blk (w.setCells g off (pcells q)) g (ncells (ns.set k q)) t := by
  subst ho
  have h1 := blk_setCells g t (pcells q) (41 * k) w _ hB (by rw [h.cells, pcells_length hq]; omega)
  have h2 := ncells_set h.ok (k := k) (by rw [h.len]; exact hk) hq
  unfold splice at h2
  rw [List.append_assoc, h2] at h1
  exact h1
set_option maxRecDepth 100000 in
set_option maxHeartbeats 4000000 in
theorem with_any (ns : List Pt) (h : NOK ns) (i : Int) (p : Pt) (hp : p.OK) (w : World) : Calls Tryd.prog 15 #[.agg (ncells ns).toArray, .int .i64 i, .agg (pcells p).toArray] w fun e w' => e = .returned (.agg (ncells (withN ns i p)).toArray) ∧ Below w.heap.size w w' := by
  have HP := Lib.hid h
  have HPO := Lib.hid hp
  have HW := Lib.hid (wiW_start ns p w)
  have HN := Lib.hid (withN_ok h i hp)
  have HLP := Lib.hid (pcells_length hp)
  have HSP := Lib.hid (size_pc hp)
  obtain ⟨ms, hms⟩ : ∃ ms, withN ns i p = ms := ⟨_, rfl⟩
  have HMS := Lib.hid hms
  rw [hms] at HN ⊢
  have HST := Lib.hid (size_nc HN.out)
  have HSZ : Hid ((ncells holes).toArray.size = (ncells ms).toArray.size) := Lib.hid (by rw [holes_ok.size, HN.out.size])
  have HON := Lib.hid (ncells_one HN.out.ok)
  clear h hp hms
  go_enter Tryd.func15, Tryd.ntmps15
  go_upto_region 1 with fail
  refine (fun (k : ∀ W, WiW ns p holes w W → Code.wp _ _ _ _ W) => k _ (HW.out _ rfl)) ?_
  intro W hW
  have HX := Lib.hid hW
  clear hW HW
  by_cases hi : 0 ≤ i ∧ i < 8
  · obtain ⟨k, rfl⟩ : ∃ k : Nat, i = (k : Int) := ⟨i.toNat, by omega⟩
    have hk : k < 8 := by omega
    have e1 : withN ns (k : Int) p = ns.set k p := by unfold withN; rw [if_pos hi, Int.toNat_natCast]
    rw [e1] at HMS
    have i1 : (0 : Int) ≤ (k : Int) := by omega
    have i2 : (k : Int) < 8 := by omega
    have HTH : Hid (W.there w.heap.size (k * 41) (pcells p).toArray.size) := Lib.hid (HX.out.a.there _ _ (by rw [List.size_toArray, HLP.out, HP.out.cells]; omega))
    have HA2 := Lib.hid (blk_setE HP.out HX.out.a hk (Nat.mul_comm k 41) HPO.out)
    rw [HMS.out] at HA2
    have HC2 := Lib.hid (blk_setCells_other (g := w.heap.size + 1 + 1) (k := w.heap.size) (by omega) (pcells p) (k * 41) W _ HX.out.c)
    have HB2 := Lib.hid (below_sets (g := w.heap.size) (pcells p) (k * 41) W HX.out.bel (Nat.le_refl _))
    clear hi e1
    go_wp2_with (first | (refine wpL_val rfl (ex_ldP HPO.out HX.out.b rfl rfl) ?_) | (refine wpList_store_mid rfl 28 (.tmp 15) (.tmp 14) rfl w.heap.size (k * 41) (pcells p).toArray rfl rfl HTH.out HSP.out (one_pc p) ?_) | (refine wpL_val rfl (ex_ldN HN.out HA2.out rfl rfl) ?_) | (refine wpList_store_row rfl 35 (.tmp 6) (.tmp 16) rfl (w.heap.size + 1 + 1) (ncells ms).toArray rfl rfl 35 _ HC2.out HST.out HSZ.out HON.out ?_) | fail)
    exact bodyPost_ret (results_cell_row Tryd.results15 _ _ (w.heap.size + 1 + 1) 35 _ _ _ rfl (HC2.out.row _) Tryd.underlying35 rfl HST.out) rfl ⟨rfl, below_row HB2.out (by omega) _⟩
  · have hi' : withN ns i p = ns := by unfold withN; rw [if_neg hi]
    rw [hi'] at HMS
    obtain rfl := HMS.out
    by_cases h0 : 0 ≤ i
    · have i2 : ¬ i < 8 := by omega
      clear hi hi'
      go_wp2_with (first | (refine wpL_val rfl (ex_ldN HP.out HX.out.a rfl rfl) ?_) | (refine wpList_store_row rfl 35 (.tmp 6) (.tmp 16) rfl (w.heap.size + 1 + 1) (ncells ns).toArray rfl rfl 35 _ HX.out.c HST.out HSZ.out HON.out ?_) | fail)
      exact bodyPost_ret (results_cell_row Tryd.results15 _ _ (w.heap.size + 1 + 1) 35 _ _ _ rfl (HX.out.c.row _) Tryd.underlying35 rfl HST.out) rfl ⟨rfl, below_row HX.out.bel (by omega) _⟩
    · clear hi hi'
      go_wp2_with (first | (refine wpL_val rfl (ex_ldN HP.out HX.out.a rfl rfl) ?_) | (refine wpList_store_row rfl 35 (.tmp 6) (.tmp 16) rfl (w.heap.size + 1 + 1) (ncells ns).toArray rfl rfl 35 _ HX.out.c HST.out HSZ.out HON.out ?_) | fail)
      exact bodyPost_ret (results_cell_row Tryd.results15 _ _ (w.heap.size + 1 + 1) 35 _ _ _ rfl (HX.out.c.row _) Tryd.underlying35 rfl HST.out) rfl ⟨rfl, below_row HX.out.bel (by omega) _⟩
end Go.Proofs.YtincpdnmaiimnaaDoor
