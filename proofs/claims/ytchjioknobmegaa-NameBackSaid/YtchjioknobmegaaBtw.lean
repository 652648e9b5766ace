/- The document's pieces between slashes. -/
import Derived.Test.YtchjioknobmegaaSl
namespace Go.Proofs.Ytchjioknobmegaa
open Go.RowKit

theorem gb_47 {l : List UInt8} {i : Nat} (h : i < l.length) : gb l i = 47 ↔ l[i] = 47 := by
  have e : gb l i = (l[i]).toNat := by
    unfold gb
    rw [List.getD_eq_getElem?_getD, List.getElem?_eq_getElem h]
    rfl
  rw [e]
  constructor
  · intro h2
    exact UInt8.toNat_inj.1 h2
  · intro h2; rw [h2]; rfl
/-- What stands from f up to i. -/
abbrev seg (l : List UInt8) (f i : Nat) : List UInt8 := (l.drop f).take (i - f)
theorem seg_drop {l : List UInt8} {f i : Nat} (hf : f ≤ i) (hi : i < l.length) : l.drop f = seg l f i ++ l[i] :: l.drop (i + 1) := by
  have h1 := (List.take_append_drop (i - f) (l.drop f)).symm
  rw [List.drop_drop, show f + (i - f) = i from by omega, List.drop_eq_getElem_cons hi] at h1
  exact h1
theorem cut_next {l : List UInt8} {f i : Nat} (hf : f ≤ i) (hi : i < l.length) (h47 : gb l i = 47) (hn : (47 : UInt8) ∉ seg l f i) : cut (l.drop f) = seg l f i :: cut (l.drop (i + 1)) := by
  have h1 := seg_drop hf hi
  rw [(gb_47 hi).1 h47] at h1
  rw [h1, cut_slash _ _ hn]
theorem seg_succ {l : List UInt8} {f i : Nat} (hf : f ≤ i) (hi : i < l.length) : seg l f (i + 1) = seg l f i ++ [l[i]] := by
  have h1 := seg_drop hf hi
  unfold seg
  rw [show i + 1 - f = (i - f) + 1 from by omega]
  have h2 : (l.drop f).length = l.length - f := by simp
  rw [List.take_add_one]
  congr 1
  rw [List.getElem?_drop, show f + (i - f) = i from by omega, List.getElem?_eq_getElem hi]
  rfl
theorem seg_free {l : List UInt8} {f i : Nat} (hf : f ≤ i) (hi : i < l.length) (h47 : ¬ gb l i = 47) (hn : (47 : UInt8) ∉ seg l f i) : (47 : UInt8) ∉ seg l f (i + 1) := by
  rw [seg_succ hf hi]
  intro h
  rcases List.mem_append.1 h with h | h
  · exact hn h
  · simp at h
    exact h47 ((gb_47 hi).2 h.symm)
theorem seg_end {l : List UInt8} {f : Nat} (hn : (47 : UInt8) ∉ seg l f l.length) : cut (l.drop f) = [l.drop f] := by
  apply cut_self
  have : seg l f l.length = l.drop f := by
    unfold seg
    rw [List.take_of_length_le (by simp)]
  rw [← this]
  exact hn

/-- The pieces that have been found. -/
structure Cuts (l : List UInt8) (f i : Nat) (ps : List (List UInt8)) : Prop where
  hf : f ≤ i
  hi : i ≤ l.length
  cuts : cut l = ps ++ cut (l.drop f)
  free : (47 : UInt8) ∉ seg l f i
  len : ps.length ≤ f
theorem Cuts.start (l : List UInt8) : Cuts l 0 0 [] := ⟨Nat.le_refl _, Nat.zero_le _, rfl, by simp [seg], Nat.le_refl _⟩
theorem Cuts.slash {l : List UInt8} {f i : Nat} {ps : List (List UInt8)} (h : Cuts l f i ps) (hi : i < l.length) (h47 : gb l i = 47) : Cuts l (i + 1) (i + 1) (ps ++ [seg l f i]) :=
  ⟨Nat.le_refl _, hi, by rw [h.cuts, cut_next h.hf hi h47 h.free]; simp, by simp [seg], by have := h.len; have := h.hf; simp; omega⟩
theorem Cuts.go {l : List UInt8} {f i : Nat} {ps : List (List UInt8)} (h : Cuts l f i ps) (hi : i < l.length) (h47 : ¬ gb l i = 47) : Cuts l f (i + 1) ps :=
  ⟨Nat.le_succ_of_le h.hf, hi, h.cuts, seg_free h.hf hi h47 h.free, h.len⟩
theorem Cuts.done {l : List UInt8} {f : Nat} {ps : List (List UInt8)} (h : Cuts l f l.length ps) : ps ++ [l.drop f] = cut l := by
  rw [h.cuts, seg_end h.free]

set_option maxRecDepth 100000 in
set_option maxHeartbeats 4000000 in
theorem between_any (l : List UInt8) (hl : l.length < 1000000) (w : World) :
    Calls Try.prog 22 #[.string (str l)] w fun e w' => ∃ v, e = .returned v ∧ Own w' w.heap.size v (cut l) ∧ Below w.heap.size w w' := by
  have hsz := str_size l
  go_enter Try.func22, Try.ntmps22
  go_wp2_with fail
  go_loopw [3, 4, 5] (fun v f i wr => ∃ (fn k : Nat) (ps : List (List UInt8)), f = .int .i64 fn ∧ i = .int .i64 k ∧ Own wr w.heap.size v ps ∧ Hid (Below w.heap.size w wr) ∧ Hid (Cuts l fn k ps)) (fun _ _ i _ => l.length - (intOf i).toNat)
  case atStart => exact ⟨0, 0, [], rfl, rfl, Own.nil _ _, Lib.hid (Below.refl _ _), Lib.hid (Cuts.start l)⟩
  case round =>
    obtain ⟨fn, k, ps, rfl, rfl, hown, HB, HC⟩ := hrel
    have hfk := HC.out.hf
    have hkl := HC.out.hi
    have hpl := HC.out.len
    have hwr := HB.out.size
    by_cases hlt : k < l.length
    · obtain ⟨g, hgv⟩ : ∃ g : Int, (gb l k : Int) = g := ⟨_, rfl⟩
      have hx := idx' l k g hlt hgv
      have hsl := sliceMid l fn k hfk hkl
      have HG := Lib.hid hgv
      have HO := Lib.hid hown
      clear hgv hown
      go_wp2_with (at_builtin; refine wpList_app rfl _ _ rfl w.heap.size _ ps rfl (HO.out.alloc _) _ 1 (seg l fn k) rfl ?_ (by omega) (by simp; omega) ?_)
      · simp [Addr.add]
      · have h1 : (g == 47) = true := by assumption
        have hc2 := HC.out.slash hlt (by have := HG.out; simp at h1; omega)
        have HC2 := Lib.hid hc2
        clear hc2 h1
        intro v' w2 hown' hgrow
        have HB2 : Hid (Below w.heap.size w w2) := Lib.hid ((HB.out.alloc hwr _).grown hgrow (by simp; omega) (fun j hj => (HO.out.lt j hj).1))
        have HO2 := Lib.hid hown'
        clear hown' hgrow
        go_wp2_with fail
        go_roundw
        case rel => exact ⟨k + 1, k + 1, _, by go_num, by go_num, HO2.out, HB2, HC2⟩
        case measure => simp [intOf]; omega
      · have h1 : (g == 47) = false := by assumption
        have hc2 := HC.out.go hlt (by have := HG.out; simp at h1; omega)
        have HC2 := Lib.hid hc2
        clear hc2 h1
        go_roundw
        case rel => exact ⟨fn, k + 1, _, by go_num, by go_num, HO.out, HB, HC2⟩
        case measure => simp [intOf]; omega
    · obtain rfl : k = l.length := by omega
      have hsl := sliceFrom l fn (by omega)
      have HO := Lib.hid hown
      clear hown
      go_wp2_with (at_builtin; refine wpList_app rfl _ _ rfl w.heap.size _ ps rfl (HO.out.alloc _) _ 1 (l.drop fn) rfl ?_ (by omega) (by simp; omega) ?_)
      · simp [Addr.add]
      · intro v' w2 hown' hgrow
        have hb2 : Below w.heap.size w w2 := (HB.out.alloc hwr _).grown hgrow (by simp; omega) (fun j hj => (HO.out.lt j hj).1)
        rw [HC.out.done] at hown'
        have HB2 := Lib.hid hb2
        have HO2 := Lib.hid hown'
        clear hown' hgrow hb2
        go_wp2_with fail
        go_ret
        exact ⟨_, rfl, HO2.out, HB2.out⟩
end Go.Proofs.Ytchjioknobmegaa
