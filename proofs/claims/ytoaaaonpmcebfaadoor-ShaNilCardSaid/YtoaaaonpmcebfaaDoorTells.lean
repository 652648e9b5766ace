/- The laws on a hash that is none, and on the digest of bytes: walked. -/
import Derived.Test.YtoaaaonpmcebfaaDoorRsm
import Derived.Test.YtoaaaonpmcebfaaDoorNil
import Derived.Test.YtoaaaonpmcebfaaDoorLHex
import Derived.Test.YtoaaaonpmcebfaaDoorWakes
namespace Go.Proofs.YtoaaaonpmcebfaaDoor
open Go.RowKit

def TB (w W : World) : Prop := Tab W ∧ Below w.heap.size w W
theorem tb_below {w W W' : World} (h : TB w W) (hb : Below W.heap.size W W') : TB w W' := ⟨h.1.below hb (Nat.le_refl _), h.2.trans (hb.mono h.2.size)⟩
theorem sumNil_c {c : List Value} (hc : (digest []).map V8 = c) (w : World) (hT : Tab w) : Calls Tryd.prog 14 #[.pointer none] w fun e w' => e = .returned (.agg c.toArray) ∧ Below w.heap.size w w' := by
  subst hc; exact sumNil_any w hT
theorem refNil_c {c : List Value} (hc : (digest []).map V8 = c) (w : World) : Calls Tryd.prog 10 #[.slice none 0 0] w fun e w' => e = .returned (.agg c.toArray) ∧ Below w.heap.size w w' := by
  subst hc; exact refSum_any [] none 0 w (by decide) (by decide) (fun _ => rfl) (fun h => absurd h (by decide))
theorem newNil_c {c : List Value} (hc : (digest []).map V8 = c) (H : Nat) (w : World) (hH : HashAt w H []) (hT : Tab w) : Calls Tryd.prog 14 #[.pointer (some ⟨H, 0, none⟩)] w fun e w' => e = .returned (.agg c.toArray) ∧ Below w.heap.size w w' := by
  subst hc; exact hashSum_any H [] w (by decide) hH hT
theorem new_c (w W : World) (h : TB w W) : Calls Tryd.prog 15 #[] W fun e w' => e = .returned (.pointer (some ⟨W.heap.size, 0, none⟩)) ∧ TB w w' ∧ HashAt w' W.heap.size [] :=
  (new_any W).mono fun e w' ⟨h1, h2⟩ => ⟨h1, by subst h2; exact tb_below h ((Below.refl _ _).alloc (Nat.le_refl _) _), by
    subst h2
    exact ⟨List.replicate 64 0#8, ⟨rfl, rfl⟩, Blk.new W (hcells H0 (List.replicate 64 0#8) 0) 45⟩⟩

set_option maxRecDepth 100000 in
set_option maxHeartbeats 2000000 in
theorem shaNil_walk (L : Nat) (sp : Option Addr) (cap : Nat) (w : World) (hT : Tab w) :
    Calls Tryd.prog 5 #[.slice sp L cap] w fun e w' => e = .returned (.bool true) ∧ Below w.heap.size w w' := by
  have HT := Lib.hid hT
  clear hT
  by_cases hl : (4000 : Int) < (L : Int)
  · go_enter Tryd.func5, Tryd.ntmps5
    go_wp2_with (go_at_call 8; refine (wakes_any _ HT.out).mono ?_; rintro x w2 ⟨rfl, hb2⟩; have HB2 := Lib.hid hb2; clear hb2)
    go_ret
    exact ⟨rfl, HB2.out⟩
  · obtain ⟨c0, hc0⟩ : ∃ c, (digest []).map V8 = c := ⟨_, rfl⟩
    have HC0 := Lib.hid hc0
    have hq : ∀ W : World, (Op.equalIn 10000 24 (.agg c0.toArray) (.agg c0.toArray)).run Tryd.prog W = .ok true W := fun W => by
      rw [← hc0, run_eq24 _ _ (digest_length _) (digest_length _) W]; simp
    clear hc0
    have H0' : Hid (TB w w) := Lib.hid ⟨HT.out, Below.refl _ _⟩
    go_enter Tryd.func5, Tryd.ntmps5
    go_wp2_with (first
      | (go_at_call 13; refine (writeNil_any _ _).mono ?_; rintro e1 w1 ⟨rfl, rfl⟩)
      | (have hx := H0'; clear hx; go_at_call 14; refine (sumNil_c HC0.out _ HT.out).mono ?_; rintro e1 w1 ⟨rfl, hb⟩; have H1 := Lib.hid (tb_below H0'.out hb); clear hb H0')
      | (have hx := H1; clear hx; go_at_call 10; refine (refNil_c HC0.out _).mono ?_; rintro e1 w2 ⟨rfl, hb⟩; have H2 := Lib.hid (tb_below H1.out hb); clear hb H1)
      | (have hx := H2; clear hx; go_at_call 15; refine (new_c w _ H2.out).mono ?_; rintro e1 w3 ⟨rfl, hb, hh⟩; have H3 := Lib.hid hb; have HH := Lib.hid hh; clear hb hh H2)
      | (have hx := H3; clear hx; go_at_call 14; refine (newNil_c HC0.out _ _ HH.out H3.out.1).mono ?_; rintro e1 w4 ⟨rfl, hb⟩; have H4 := Lib.hid (tb_below H3.out hb); clear hb H3)
      | (have hx := H4; clear hx; go_at_call 10; refine (refNil_c HC0.out _).mono ?_; rintro e1 w5 ⟨rfl, hb⟩; have H5 := Lib.hid (tb_below H4.out hb); clear hb H4)
      | (have hx := H5; clear hx; go_at_call 8; refine (wakes_any _ H5.out.1).mono ?_; rintro e1 w6 ⟨rfl, hb⟩; have H6 := Lib.hid (tb_below H5.out hb); clear hb H5)
      | fail)
    go_ret
    exact ⟨rfl, H6.out.2⟩

/-- What the region of ShaTells reads: the digest's box; the table stands. -/
def S3 (G : Nat) (c : List Value) (w0 w' : World) : Prop := w'.rangeAt G 0 c ∧ Tab w' ∧ G < w'.heap.size ∧ Below w0.heap.size w0 w'
theorem s3_drew {G : Nat} {c : List Value} {w0 w : World} (h : S3 G c w0 w) : S3 G c w0 w.drew := ⟨h.1, h.2.1, h.2.2.1, h.2.2.2.drew⟩
theorem s3_below {G : Nat} {c : List Value} {w0 w w' : World} (h : S3 G c w0 w) (hb : Below w.heap.size w w') : S3 G c w0 w' := by
  obtain ⟨h1, h2, h3, h4⟩ := h
  exact ⟨fun j v hv => (hb.cell (p := ⟨G, 0 + j, none⟩) h3).trans (h1 j v hv), h2.below hb (Nat.le_refl _), Nat.lt_of_lt_of_le h3 hb.size, h4.trans (hb.mono h4.size)⟩
theorem s3_start {w w1 : World} (h : TB w w1) (c : List Value) (z : Array Value) : S3 w1.heap.size c w ((w1.alloc (.cells z 24)).setRow w1.heap.size c.toArray) := by
  have hb : Below w1.heap.size w1 ((w1.alloc (.cells z 24)).setRow w1.heap.size c.toArray) := below_row ((Below.refl _ _).alloc (Nat.le_refl _) _) (Nat.le_refl _) _
  have h1 := tb_below h hb
  have h2 : Blk ((w1.alloc (.cells z 24)).setRow w1.heap.size c.toArray) w1.heap.size c 24 := setRow_heap _ _ _ _ _ _ (heap_alloc_new _ _)
  exact ⟨h2.range 0 c (fun j v hv => by rw [Nat.zero_add]; exact hv), h1.1, h2.lt, h1.2⟩

set_option maxRecDepth 100000 in
set_option maxHeartbeats 2000000 in
theorem shaTells_walk (bs : List (BitVec 8)) (sp : Option Addr) (cap : Nat) (w : World) (hc : bs.length ≤ cap) (hcm : cap ≤ 9223372036854775807) (hz : sp = none → cap = 0) (hS : SrcA w sp bs) (hT : Tab w) :
    Calls Tryd.prog 3 #[.slice sp bs.length cap] w fun e w' => e = .returned (.bool true) ∧ Below w.heap.size w w' := by
  have HT := Lib.hid hT
  obtain ⟨L, hL⟩ : ∃ L, bs.length = L := ⟨_, rfl⟩
  have HL := Lib.hid hL
  have HS := Lib.hid hS
  have HZ := Lib.hid hz
  have HC := Lib.hid hc
  rw [hL] at ⊢
  clear hL hS hz hT
  by_cases hl : (4000 : Int) < (L : Int)
  · go_enter Tryd.func3, Tryd.ntmps3
    go_wp2_with (go_at_call 8; refine (wakes_any _ HT.out).mono ?_; rintro x w2 ⟨rfl, hb2⟩; have HB2 := Lib.hid hb2; clear hb2)
    go_ret
    exact ⟨rfl, HB2.out⟩
  · have hsum := shaSum_any bs sp cap w (by rw [HL.out]; omega) HC.out hcm HS.out HT.out
    obtain ⟨c, hcc⟩ : ∃ c, (digest bs).map V8 = c := ⟨_, rfl⟩
    obtain ⟨s, hs⟩ : ∃ s, bstr (hexOf (digest bs)) = s := ⟨_, rfl⟩
    rw [HL.out, hcc] at hsum
    have href : ∀ W, Below w.heap.size w W → Calls Tryd.prog 10 #[.slice sp L cap] W fun e w' => e = .returned (.agg c.toArray) ∧ Below W.heap.size W w' := fun W hW => by
      have h := refSum_any bs sp cap W (by rw [HL.out]; omega) HC.out HZ.out (HS.out.below hW (Nat.le_refl _))
      rw [HL.out, hcc] at h; exact h
    have hq : ∀ W : World, (Op.equalIn 10000 24 (.agg c.toArray) (.agg c.toArray)).run Tryd.prog W = .ok true W := fun W => by
      rw [← hcc, run_eq24 _ _ (digest_length _) (digest_length _) W]; simp
    have hi : (Tryd.prog.info? 24).map (·.size) = some c.length := by rw [← hcc, info24]; simp [digest_length]
    have HI24b : Hid ((Tryd.prog.info? 24).map (·.size) = some c.toArray.size) := Lib.hid (by rw [hi]; simp)
    have HD32 : Hid (c.toArray.size = 32) := Lib.hid (by rw [← hcc]; simp [digest_length])
    have HON : Hid (c.toArray.all (·.oneCell') = true) := Lib.hid (by rw [← hcc]; exact one_ints V8 (fun _ => rfl) _)
    have HSUM := Lib.hid hsum
    have HREF := Lib.hid href
    have HQ := Lib.hid hq
    have HI := Lib.hid hi
    have HCC : Hid (∃ _ : Unit, (digest bs).map V8 = c ∧ bstr (hexOf (digest bs)) = s) := Lib.hid ⟨(), hcc, hs⟩
    clear hsum href hq hi hcc hs hc
    go_enter Tryd.func3, Tryd.ntmps3
    go_wp2_with fail
    refine HSUM.out.mono ?_
    rintro e1 w1 ⟨rfl, hb1⟩
    have HB1 : Hid (TB w w1) := Lib.hid ⟨HT.out.below hb1 (Nat.le_refl _), hb1⟩
    clear hb1 HSUM
    go_wp2_with (first
      | (refine wpList_store_row rfl 24 (.tmp 3) (.tmp 9) rfl w1.heap.size _ rfl rfl 24 _ (heap_alloc_new _ _) HI24b.out (by first | (rw [HD32.out]; done) | (rw [HD32.out]; rfl)) HON.out ?_; refine (fun (q : ∀ W, S3 w1.heap.size c w W → wpList _ _ _ _ _ W) => q _ (s3_start HB1.out c _)) ?_; intro w2 hf2; have HF2 := Lib.hid hf2; clear hf2)
      | fail)
    generalize w1.heap.size = G at *
    refine wp_region_class (S3 G c w) (by kernel_rfl) (by kernel_rfl) (s3_drew HF2.out) ?_
    have hi := HI.out
    have hq := HQ.out
    refine wpQuiet_load (.inl rfl) 24 (.tmp 3) rfl G 0 rfl c _ (fun _ h => h.1) Tryd.underlying24 rfl hi ?_
    (try simp only [Act.put, List.setIfInBounds_toArray, List.set_cons_zero, List.set_cons_succ])
    refine wpQuiet_value (by rfl) (.slice sp L cap) (fun _ _ => by rfl) ?_
    (try simp only [Act.put, List.setIfInBounds_toArray, List.set_cons_zero, List.set_cons_succ])
    refine wpQuiet_call (by rfl) 10 #[.slice sp L cap] (.agg c.toArray) (fun _ => by go_simp) (fun w1 h => (HREF.out w1 h.2.2.2).mono fun _ _ ⟨e1, e2⟩ => ⟨e1, s3_below h e2⟩) ?_
    (try simp only [Act.put, List.setIfInBounds_toArray, List.set_cons_zero, List.set_cons_succ])
    refine wpQuiet_value (by rfl) (.bool true) (fun _ _ => by go_simp) ?_
    (try simp only [Act.put, List.setIfInBounds_toArray, List.set_cons_zero, List.set_cons_succ])
    refine wpQuiet_value (by rfl) (.bool true) (fun _ _ => by rfl) ?_
    (try simp only [Act.put, List.setIfInBounds_toArray, List.set_cons_zero, List.set_cons_succ])
    refine wpQuiet_load (.inr (by rfl)) 24 (.tmp 3) rfl G 0 rfl c _ (fun _ h => h.1) Tryd.underlying24 rfl hi ?_
    (try simp only [Act.put, List.setIfInBounds_toArray, List.set_cons_zero, List.set_cons_succ])
    refine wpQuiet_call (by rfl) 11 #[.agg c.toArray] (.string s) (fun _ => by go_simp) (fun w1 h => by
      obtain ⟨_, h1, h2⟩ := HCC.out
      exact (hex_c (digest bs) (digest_length _) h1 h2 w1).mono fun _ _ ⟨e1, e2⟩ => ⟨e1, s3_below h e2⟩) ?_
    (try simp only [Act.put, List.setIfInBounds_toArray, List.set_cons_zero, List.set_cons_succ])
    refine wpQuiet_load (.inr (by rfl)) 24 (.tmp 3) rfl G 0 rfl c _ (fun _ h => h.1) Tryd.underlying24 rfl hi ?_
    (try simp only [Act.put, List.setIfInBounds_toArray, List.set_cons_zero, List.set_cons_succ])
    refine wpQuiet_call (by rfl) 12 #[.agg c.toArray] (.string s) (fun _ => by go_simp) (fun w1 h => by
      obtain ⟨_, h1, h2⟩ := HCC.out
      exact (refHex_c (digest bs) (digest_length _) h1 h2 w1).mono fun _ _ ⟨e1, e2⟩ => ⟨e1, s3_below h e2⟩) ?_
    (try simp only [Act.put, List.setIfInBounds_toArray, List.set_cons_zero, List.set_cons_succ])
    refine wpQuiet_value (by rfl) (.bool true) (fun _ _ => by go_simp) ?_
    (try simp only [Act.put, List.setIfInBounds_toArray, List.set_cons_zero, List.set_cons_succ])
    refine wpQuiet_value (by rfl) (.bool true) (fun _ _ => by rfl) ?_
    (try simp only [Act.put, List.setIfInBounds_toArray, List.set_cons_zero, List.set_cons_succ])
    refine wpQuiet_value (by rfl) (.bool true) (fun _ _ => by rfl) ?_
    (try simp only [Act.put, List.setIfInBounds_toArray, List.set_cons_zero, List.set_cons_succ])
    refine wpQuiet_call (by rfl) 8 #[] (.bool true) (fun _ => by go_simp) (fun w1 h => (wakes_any w1 h.2.1).mono fun _ _ ⟨e1, e2⟩ => ⟨e1, s3_below h e2⟩) ?_
    (try simp only [Act.put, List.setIfInBounds_toArray, List.set_cons_zero, List.set_cons_succ])
    refine wpQuiet_value (by rfl) (.bool true) (fun _ _ => by rfl) ?_
    (try simp only [Act.put, List.setIfInBounds_toArray, List.set_cons_zero, List.set_cons_succ])
    refine wpQuiet_value (by rfl) (.bool true) (fun _ _ => by rfl) ?_
    (try simp only [Act.put, List.setIfInBounds_toArray, List.set_cons_zero, List.set_cons_succ])
    refine wpQuiet_nil ?_
    intro w3 h3
    have H3 := Lib.hid h3.2.2.2
    clear h3 hq hi
    go_wp2
    go_ret
    exact ⟨rfl, H3.out⟩
end Go.Proofs.YtoaaaonpmcebfaaDoor
