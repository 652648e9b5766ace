/- The law on the digits, walked. -/
import Derived.Test.YtoaaaonpmcebfaaDoorQuiet
namespace Go.Proofs.YtoaaaonpmcebfaaDoor
open Go.RowKit

theorem hex_c (l : List (BitVec 8)) (hl : l.length = 32) {c : List Value} (hc : l.map V8 = c) {s : ByteArray} (hs : bstr (hexOf l) = s) (w : World) :
    Calls Tryd.prog 11 #[.agg c.toArray] w fun e w' => e = .returned (.string s) ∧ Below w.heap.size w w' := by
  subst hc hs; exact hex_any l hl w
theorem refHex_c (l : List (BitVec 8)) (hl : l.length = 32) {c : List Value} (hc : l.map V8 = c) {s : ByteArray} (hs : bstr (hexOf l) = s) (w : World) :
    Calls Tryd.prog 12 #[.agg c.toArray] w fun e w' => e = .returned (.string s) ∧ Below w.heap.size w w' := by
  subst hc hs; exact refHex_any l hl w
/-- What the region reads: the two boxes; and the table stands. -/
def S2 (B : Nat) (ca cb : List Value) (w0 : World) (w' : World) : Prop :=
  w'.rangeAt B 0 ca ∧ w'.rangeAt (B + 1) 0 cb ∧ Tab w' ∧ B + 1 < w'.heap.size ∧ Below B w0 w'
theorem s2_drew {B : Nat} {ca cb : List Value} {w0 w : World} (h : S2 B ca cb w0 w) : S2 B ca cb w0 w.drew := ⟨h.1, h.2.1, h.2.2.1, h.2.2.2.1, h.2.2.2.2.drew⟩
theorem s2_below {B : Nat} {ca cb : List Value} {w0 w w' : World} (h : S2 B ca cb w0 w) (hb : Below w.heap.size w w') : S2 B ca cb w0 w' := by
  obtain ⟨h1, h2, h3, h4, h5⟩ := h
  exact ⟨fun j v hv => (hb.cell (p := ⟨B, 0 + j, none⟩) (Nat.lt_of_succ_lt h4)).trans (h1 j v hv), fun j v hv => (hb.cell (p := ⟨B + 1, 0 + j, none⟩) h4).trans (h2 j v hv), h3.below hb (Nat.le_refl _), Nat.lt_of_lt_of_le h4 hb.size, h5.trans (hb.mono (by omega))⟩

theorem bstr_inj' (a b : List (BitVec 8)) (h : (bstr a).toList = (bstr b).toList) : a = b := by
  refine bstr_inj a b ?_
  have h2 : ((bstr a) == (bstr b)) = true := by rw [beq_toListBytes, h]; simp
  have h3 : ((bstr a).data == (bstr b).data) = true := h2
  have h4 : (bstr a).data = (bstr b).data := by simpa using h3
  exact ByteArray.ext h4

set_option maxRecDepth 100000 in
set_option maxHeartbeats 1000000 in
theorem shaHex_walk (a b : List (BitVec 8)) (ha : a.length = 32) (hb : b.length = 32) (w : World) (hT : Tab w) :
    Calls Tryd.prog 4 #[.agg (a.map V8).toArray, .agg (b.map V8).toArray] w fun e w' => e = .returned (.bool true) ∧ Below w.heap.size w w' := by
  obtain ⟨ca, hca⟩ : ∃ c, a.map V8 = c := ⟨_, rfl⟩
  obtain ⟨cb, hcb⟩ : ∃ c, b.map V8 = c := ⟨_, rfl⟩
  obtain ⟨sa, hsa⟩ : ∃ c, bstr (hexOf a) = c := ⟨_, rfl⟩
  obtain ⟨sb, hsb⟩ : ∃ c, bstr (hexOf b) = c := ⟨_, rfl⟩
  obtain ⟨e, he⟩ : ∃ e, decide (a = b) = e := ⟨_, rfl⟩
  have hq : ∀ W : World, (Op.equalIn 10000 24 (.agg ca.toArray) (.agg cb.toArray)).run Tryd.prog W = .ok e W := fun W => by
    rw [← hca, ← hcb, ← he]; exact run_eq24 a b ha hb W
  have hs : (sa.toList == sb.toList) = e := by
    rw [← hsa, ← hsb, ← he]
    by_cases hab : a = b
    · subst hab; simp
    · rw [decide_eq_false hab, beq_eq_false_iff_ne]
      exact fun h => hab (hexOf_inj a b (by omega) (bstr_inj' _ _ h))
  have hi : (Tryd.prog.info? 24).map (·.size) = some ca.length := by rw [← hca, List.length_map, ha]; exact info24
  have hi2 : (Tryd.prog.info? 24).map (·.size) = some cb.length := by rw [← hcb, List.length_map, hb]; exact info24
  have hS : S2 w.heap.size ca cb w ((w.alloc (.cells ca.toArray 24)).alloc (.cells cb.toArray 24)) := by
    refine ⟨?_, ?_, Tab.alloc (Tab.alloc hT _) _, by simp, ((Below.refl _ _).alloc (Nat.le_refl _) _).alloc (by simp) _⟩
    · exact ((Blk.new w ca 24).alloc _).range 0 ca (fun j v hv => by rw [Nat.zero_add]; exact hv)
    · exact (Blk.new' _ _ cb 24 (w.heap.size + 1) (by simp) rfl).range 0 cb (fun j v hv => by rw [Nat.zero_add]; exact hv)
  have HCA := Lib.hid hca; have HCB := Lib.hid hcb; have HSA := Lib.hid hsa; have HSB := Lib.hid hsb; have HE := Lib.hid he
  have HS0 := Lib.hid hS
  rw [hca, hcb]
  clear hca hcb hsa hsb he hS hT
  go_enter Tryd.func4, Tryd.ntmps4
  go_wp2
  refine wp_region_class (S2 w.heap.size ca cb w) (by kernel_rfl) (by kernel_rfl) (s2_drew HS0.out) ?_
  refine wpQuiet_load (.inl rfl) 24 (.tmp 2) rfl w.heap.size 0 rfl ca _ (fun _ h => h.1) Tryd.underlying24 rfl hi ?_
  (try simp only [Act.put, List.setIfInBounds_toArray, List.set_cons_zero, List.set_cons_succ])
  refine wpQuiet_call (by rfl) 11 #[.agg ca.toArray] (.string sa) (fun _ => by go_simp) (fun w1 h => (hex_c a ha HCA.out HSA.out w1).mono fun _ _ ⟨e1, e2⟩ => ⟨e1, s2_below h e2⟩) ?_
  (try simp only [Act.put, List.setIfInBounds_toArray, List.set_cons_zero, List.set_cons_succ])
  refine wpQuiet_load (.inl rfl) 24 (.tmp 2) rfl w.heap.size 0 rfl ca _ (fun _ h => h.1) Tryd.underlying24 rfl hi ?_
  (try simp only [Act.put, List.setIfInBounds_toArray, List.set_cons_zero, List.set_cons_succ])
  refine wpQuiet_call (by rfl) 12 #[.agg ca.toArray] (.string sa) (fun _ => by go_simp) (fun w1 h => (refHex_c a ha HCA.out HSA.out w1).mono fun _ _ ⟨e1, e2⟩ => ⟨e1, s2_below h e2⟩) ?_
  (try simp only [Act.put, List.setIfInBounds_toArray, List.set_cons_zero, List.set_cons_succ])
  refine wpQuiet_value (by rfl) (.bool true) (fun _ _ => by go_simp) ?_
  (try simp only [Act.put, List.setIfInBounds_toArray, List.set_cons_zero, List.set_cons_succ])
  refine wpQuiet_value (by rfl) (.bool true) (fun _ _ => by rfl) ?_
  (try simp only [Act.put, List.setIfInBounds_toArray, List.set_cons_zero, List.set_cons_succ])
  refine wpQuiet_load (.inr (by rfl)) 24 (.tmp 2) rfl w.heap.size 0 rfl ca _ (fun _ h => h.1) Tryd.underlying24 rfl hi ?_
  (try simp only [Act.put, List.setIfInBounds_toArray, List.set_cons_zero, List.set_cons_succ])
  refine wpQuiet_call (by rfl) 11 #[.agg ca.toArray] (.string sa) (fun _ => by go_simp) (fun w1 h => (hex_c a ha HCA.out HSA.out w1).mono fun _ _ ⟨e1, e2⟩ => ⟨e1, s2_below h e2⟩) ?_
  (try simp only [Act.put, List.setIfInBounds_toArray, List.set_cons_zero, List.set_cons_succ])
  refine wpQuiet_load (.inr (by rfl)) 24 (.tmp 3) rfl (w.heap.size + 1) 0 rfl cb _ (fun _ h => h.2.1) Tryd.underlying24 rfl hi2 ?_
  (try simp only [Act.put, List.setIfInBounds_toArray, List.set_cons_zero, List.set_cons_succ])
  refine wpQuiet_call (by rfl) 11 #[.agg cb.toArray] (.string sb) (fun _ => by go_simp) (fun w1 h => (hex_c b hb HCB.out HSB.out w1).mono fun _ _ ⟨e1, e2⟩ => ⟨e1, s2_below h e2⟩) ?_
  (try simp only [Act.put, List.setIfInBounds_toArray, List.set_cons_zero, List.set_cons_succ])
  refine wpQuiet_value (by rfl) (.bool e) (fun _ _ => by go_simp) ?_
  (try simp only [Act.put, List.setIfInBounds_toArray, List.set_cons_zero, List.set_cons_succ])
  refine wpQuiet_load (.inr (by rfl)) 24 (.tmp 2) rfl w.heap.size 0 rfl ca _ (fun _ h => h.1) Tryd.underlying24 rfl hi ?_
  (try simp only [Act.put, List.setIfInBounds_toArray, List.set_cons_zero, List.set_cons_succ])
  refine wpQuiet_load (.inr (by rfl)) 24 (.tmp 3) rfl (w.heap.size + 1) 0 rfl cb _ (fun _ h => h.2.1) Tryd.underlying24 rfl hi2 ?_
  (try simp only [Act.put, List.setIfInBounds_toArray, List.set_cons_zero, List.set_cons_succ])
  refine wpQuiet_value (by rfl) (.bool e) (fun _ _ => by go_simp) ?_
  (try simp only [Act.put, List.setIfInBounds_toArray, List.set_cons_zero, List.set_cons_succ])
  refine wpQuiet_value (by rfl) (.bool true) (fun _ _ => by go_simp) ?_
  (try simp only [Act.put, List.setIfInBounds_toArray, List.set_cons_zero, List.set_cons_succ])
  refine wpQuiet_value (by rfl) (.bool true) (fun _ _ => by rfl) ?_
  (try simp only [Act.put, List.setIfInBounds_toArray, List.set_cons_zero, List.set_cons_succ])
  refine wpQuiet_value (by rfl) (.bool true) (fun _ _ => by rfl) ?_
  (try simp only [Act.put, List.setIfInBounds_toArray, List.set_cons_zero, List.set_cons_succ])
  refine wpQuiet_call (by rfl) 8 #[] (.bool true) (fun _ => by go_simp) (fun w1 h => (wakes_any w1 h.2.2.1).mono fun _ _ ⟨e1, e2⟩ => ⟨e1, s2_below h e2⟩) ?_
  (try simp only [Act.put, List.setIfInBounds_toArray, List.set_cons_zero, List.set_cons_succ])
  refine wpQuiet_value (by rfl) (.bool true) (fun _ _ => by rfl) ?_
  (try simp only [Act.put, List.setIfInBounds_toArray, List.set_cons_zero, List.set_cons_succ])
  refine wpQuiet_value (by rfl) (.bool true) (fun _ _ => by rfl) ?_
  (try simp only [Act.put, List.setIfInBounds_toArray, List.set_cons_zero, List.set_cons_succ])
  refine wpQuiet_nil ?_
  intro w2 h2
  have H2 := Lib.hid h2.2.2.2.2
  clear h2 hq hs hi hi2
  go_wp2
  go_ret
  exact ⟨rfl, H2.out⟩

end Go.Proofs.YtoaaaonpmcebfaaDoor
