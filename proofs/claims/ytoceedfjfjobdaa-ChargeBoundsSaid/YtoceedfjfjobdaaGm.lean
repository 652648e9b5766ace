/- Charge: wakes. -/
import Derived.Test.YtoceedfjfjobdaaGl
namespace Go.Proofs.Ytoceedfjfjobdaa
open Go.RowKit

attribute [local go_sem] Oper.semAt_some

def kn1 (g : Nat) : Oi := ⟨1, 2, [0], some ⟨g, 0, none⟩, 1⟩
def kn2 (g : Nat) : Oi := ⟨2, 1, [0, 9], some ⟨g + 1, 0, none⟩, 2⟩
def knL (g : Nat) : List Oi := [kn1 g, kn2 g]
theorem kn_src {W : World} {g : Nat} (h1 : Blk W g [.int .u32 0] 47) (h2 : Blk W (g + 1) [.int .u32 0, .int .u32 9] 47) (h3 : Blk W (g + 1 + 1) (ocells (kn1 g) ++ ocells (kn2 g)) 48) :
    SrcO W (some ⟨g + 1 + 1, 0, none⟩) (knL g) ∧ ∀ o ∈ knL g, o.OK W := by
  refine ⟨fun _ => ⟨g + 1 + 1, 0, rfl, h3.lt, fun i e hi j v hj => ?_⟩, fun o ho => ?_⟩
  · have hj3 : j < 3 := (List.getElem?_eq_some_iff.1 hj).1
    refine h3.cell ?_
    rcases i with _ | _ | i
    · obtain rfl : kn1 g = e := by simpa [knL] using hi
      rw [Nat.zero_mul, Nat.zero_add, List.getElem?_append_left (by simpa using hj3)]
      exact hj
    · obtain rfl : kn2 g = e := by simpa [knL] using hi
      rw [show 0 + (0 + 1) * 3 + j = 3 + j by omega, List.getElem?_append_right (by simp), show 3 + j - (ocells (kn1 g)).length = j by simp]
      exact hj
    · simp [knL] at hi
  · simp only [knL, List.mem_cons, List.not_mem_nil, or_false] at ho
    rcases ho with rfl | rfl
    · refine ⟨fun _ => ⟨g, 0, rfl, h1.lt, fun j x hx => h1.cell ?_⟩, by simp [kn1], by simp [kn1, maxLen], by simp [kn1], by simp [kn1], by simp [kn1]⟩
      rcases j with _ | j
      · obtain rfl : 0 = x := by simpa [kn1] using hx
        rfl
      · simp [kn1] at hx
    · refine ⟨fun _ => ⟨g + 1, 0, rfl, h2.lt, fun j x hx => h2.cell ?_⟩, by simp [kn2], by simp [kn2, maxLen], by simp [kn2], by simp [kn2], by simp [kn2]⟩
      rcases j with _ | _ | j
      · obtain rfl : 0 = x := by simpa [kn2] using hx
        rfl
      · obtain rfl : 9 = x := by simpa [kn2] using hx
        rfl
      · simp [kn2] at hx
theorem kn_each (g : Nat) : eachL seen0 ((knL g).map Oi.ob) = [(⟨1, 2, [0]⟩, ownT [0]), (⟨2, 1, [0, 9]⟩, ownT [0, 9])] := by
  show eachL seen0 [⟨1, 2, [0]⟩, ⟨2, 1, [0, 9]⟩] = _
  rfl
theorem kn_takes : takesL [(⟨1, 2, [0]⟩, ownT [0]), (⟨2, 1, [0, 9]⟩, ownT [0, 9])] = 22 := by decide
theorem kn_files : filesL [(⟨1, 2, [0]⟩, ownT [0]), (⟨2, 1, [0, 9]⟩, ownT [0, 9])] = 2 := by decide
theorem kn_metas : metasL [(⟨1, 2, [0]⟩, ownT [0]), (⟨2, 1, [0, 9]⟩, ownT [0, 9])] = 1 := by decide
theorem kn_none : takesL (eachL seen0 []) = 2 := by decide
set_option maxRecDepth 100000 in
set_option maxHeartbeats 8000000 in
theorem gwakes_any (w : World) : Calls Try.prog 8 #[] w (Ret w (.bool true)) := by
  go_enter Try.func8, Try.ntmps8
  go_upto_region 2 with fail
  refine (fun (k' : ∀ W, Blk W w.heap.size [.int .u32 0] 47 → Blk W (w.heap.size + 1) [.int .u32 0, .int .u32 9] 47 → Blk W (w.heap.size + 1 + 1) (ocells (kn1 w.heap.size) ++ ocells (kn2 w.heap.size)) 48 → Below w.heap.size w W → Code.wp _ _ _ _ W) => k' _ (((Blk.new' _ _ _ _ _ rfl rfl).alloc _).alloc _) ((Blk.new' _ _ _ _ _ (by simp) rfl).alloc _) (Blk.new' _ _ _ _ _ (by simp) rfl) ((((Below.refl _ _).alloc (Nat.le_refl _) _).alloc (by simp) _).alloc (by simp; omega) _)) ?_
  intro W1 h1 h2 h3 hb1
  obtain ⟨g, hg⟩ : ∃ g, w.heap.size = g := ⟨_, rfl⟩
  rw [hg] at h1 h2 h3 ⊢
  obtain ⟨hs, hk⟩ := kn_src h1 h2 h3
  have HT : Hid (∀ X, Below W1.heap.size W1 X → Calls Try.prog 11 #[.slice (some ⟨g + 1 + 1, 0, none⟩) 2 2] X (Ret X (.int .i64 22))) := Lib.hid fun X hX => by
    have := takes_go (knL g) (some ⟨g + 1 + 1, 0, none⟩) 2 (by simp [knL]) (by simp [knL]) (fun o ho => by simp [knL] at ho; rcases ho with rfl | rfl <;> simp [kn1, kn2]) X (hs.grown hX) (fun o ho => (hk o ho).grown hX)
    rw [kn_each, kn_takes] at this
    exact this
  have HO : Hid (∀ X, Below W1.heap.size W1 X → Calls Try.prog 12 #[.slice (some ⟨g + 1 + 1, 0, none⟩) 2 2] X (Ret X (tlv 2 1 2))) := Lib.hid fun X hX => by
    have := of_tally (knL g) (some ⟨g + 1 + 1, 0, none⟩) 2 (by simp [knL]) (by simp [knL]) (fun o ho => by simp [knL] at ho; rcases ho with rfl | rfl <;> simp [kn1, kn2]) X (hs.grown hX) (fun o ho => (hk o ho).grown hX)
    rw [kn_each] at this
    unfold tly at this
    rw [kn_files, kn_metas] at this
    exact this
  have HN : Hid (∀ X : World, Calls Try.prog 11 #[.slice none 0 0] X (Ret X (.int .i64 2))) := Lib.hid fun X => by
    have := takes_go [] none 0 (Nat.le_refl _) (by simp) (fun o ho => by simp at ho) X (SrcO.nil _ _) (fun o ho => by simp at ho)
    rw [List.map_nil, kn_none] at this
    exact this
  have HC : Hid (∀ X : World, Calls Try.prog 6 #[tlv 2 1 2] X (Ret X (.int .i64 38))) := Lib.hid fun X => charge_any 2 1 2 (by unfold In33; omega) X
  have HF1 : Hid (∀ X : World, Calls Try.prog 7 #[tlv 2 1 2, .int .i64 359] X (Ret X (.bool true))) := Lib.hid fun X => fits_any 2 1 2 359 (by unfold In33; omega) (by omega) X
  have HF2 : Hid (∀ X : World, Calls Try.prog 7 #[tlv 2 1 2, .int .i64 358] X (Ret X (.bool false))) := Lib.hid fun X => fits_any 2 1 2 358 (by unfold In33; omega) (by omega) X
  have HB1 := Lib.hid hb1
  clear h1 h2 h3 hb1 hs hk hg
  go_wp2_with fail
  refine (HN.out W1).mono ?_
  rintro e W2 ⟨rfl, hb⟩
  have HB2 := Lib.hid hb
  clear hb
  go_wp2_with fail
  refine (HT.out W2 HB2.out).mono ?_
  rintro e W3 ⟨rfl, hb⟩
  have HB3 := Lib.hid (HB2.out.trans (hb.mono HB2.out.size))
  clear hb
  go_wp2_with fail
  refine (HO.out W3 HB3.out).mono ?_
  rintro e W4 ⟨rfl, hb⟩
  have HB4 := Lib.hid (HB3.out.trans (hb.mono HB3.out.size))
  clear hb
  go_wp2_with (first | (refine c_val rfl (ex_eqT (z := true) (by decide) rfl rfl rfl) ?_) | fail)
  refine (HO.out W4 HB4.out).mono ?_
  rintro e W5 ⟨rfl, hb⟩
  have HB5 := Lib.hid (HB4.out.trans (hb.mono HB4.out.size))
  clear hb
  go_wp2_with fail
  refine (HC.out W5).mono ?_
  rintro e W6 ⟨rfl, hb⟩
  have HB6 := Lib.hid (HB5.out.trans (hb.mono HB5.out.size))
  clear hb
  go_wp2_with fail
  refine (HO.out W6 HB6.out).mono ?_
  rintro e W7 ⟨rfl, hb⟩
  have HB7 := Lib.hid (HB6.out.trans (hb.mono HB6.out.size))
  clear hb
  go_wp2_with fail
  refine (HF1.out W7).mono ?_
  rintro e W8 ⟨rfl, hb⟩
  have HB8 := Lib.hid (HB7.out.trans (hb.mono HB7.out.size))
  clear hb
  go_wp2_with fail
  refine (HO.out W8 HB8.out).mono ?_
  rintro e W9 ⟨rfl, hb⟩
  have HB9 := Lib.hid (HB8.out.trans (hb.mono HB8.out.size))
  clear hb
  go_wp2_with fail
  refine (HF2.out W9).mono ?_
  rintro e W10 ⟨rfl, hb⟩
  have HB10 := Lib.hid (HB1.out.trans ((HB9.out.trans (hb.mono HB9.out.size)).mono HB1.out.size))
  clear hb
  go_wp2_with fail
  first | exact ⟨rfl, HB10.out⟩ | (go_ret; exact ⟨rfl, HB10.out⟩)
end Go.Proofs.Ytoceedfjfjobdaa
