/- Alloc. -/
import Derived.Test.YtjfedhaafdfibaaKe
namespace Go.Proofs.Ytjfedhaafdfibaa
open Go.RowKit

def free? (a : Ax) : Bool := !a.sick && a.is == 0
def firstF : List Ax → Option Nat
  | [] => none
  | a :: l => if free? a then some 0 else (firstF l).map (· + 1)
theorem firstF_some : ∀ (l : List Ax) (i : Nat) (a : Ax), (∀ j x, j < i → l[j]? = some x → free? x = false) → l[i]? = some a → free? a = true → firstF l = some i
  | [], _, _, _, h, _ => by simp at h
  | b :: l, 0, a, _, h, hf => by simp at h; subst h; simp [firstF, hf]
  | b :: l, i + 1, a, hn, h, hf => by
    have hb := hn 0 b (by omega) rfl
    have := firstF_some l i a (fun j x hj hx => hn (j + 1) x (by omega) (by simpa using hx)) (by simpa using h) hf
    simp [firstF, hb, this]
theorem firstF_none : ∀ (l : List Ax), (∀ (j : Nat) (x : Ax), l[j]? = some x → free? x = false) → firstF l = none
  | [], _ => rfl
  | b :: l, hn => by
    have hb := hn 0 b rfl
    have := firstF_none l (fun j x hx => hn (j + 1) x (by simpa using hx))
    simp [firstF, hb, this]
theorem firstF_is : ∀ (l : List Ax) (i : Nat), firstF l = some i → ∃ a, l[i]? = some a ∧ free? a = true ∧ ∀ j x, j < i → l[j]? = some x → free? x = false
  | [], _, h => by simp [firstF] at h
  | b :: l, i, h => by
    unfold firstF at h
    split at h
    · rename_i hb
      cases h
      exact ⟨b, rfl, hb, fun j x hj => by omega⟩
    · rename_i hb
      obtain ⟨k, hk, rfl⟩ := Option.map_eq_some_iff.1 h
      obtain ⟨a, h1, h2, h3⟩ := firstF_is l k hk
      refine ⟨a, by simpa using h1, h2, fun j x hj hx => ?_⟩
      cases j with
      | zero => simp at hx; subst hx; simpa using hb
      | succ j => exact h3 j x (by omega) (by simpa using hx)
theorem firstF_no : ∀ (l : List Ax), firstF l = none → ∀ (j : Nat) (x : Ax), l[j]? = some x → free? x = false
  | [], _, j, x, h => by simp at h
  | b :: l, h, j, x, hx => by
    unfold firstF at h
    split at h
    · cases h
    · rename_i hb
      rw [Option.map_eq_none_iff] at h
      cases j with
      | zero => simp at hx; subst hx; simpa using hb
      | succ j => exact firstF_no l h j x (by simpa using hx)
def allocN (sp : Sp) (d : Nat) : Nat := match firstF (sp d) with | some i => i + 1 | none => 0
def allocS (sp : Sp) (d : Nat) : Sp := oneS sp d (allocN sp d) (turnA 0 1)
theorem allocS_zero {sp : Sp} {d : Nat} (h : allocN sp d = 0) : allocS sp d = sp := by
  unfold allocS oneS
  rw [h]
  cases (sp d)[0 - 1]? <;> rfl
theorem allocN_some {sp : Sp} {d i : Nat} (h : firstF (sp d) = some i) : allocN sp d = i + 1 := by unfold allocN; rw [h]
theorem allocS_some {sp : Sp} {d i : Nat} {a : Ax} (h : firstF (sp d) = some i) (ha : (sp d)[i]? = some a) : allocS sp d = put sp d ((sp d).set i (turnA 0 1 a)) := by
  unfold allocS oneS
  rw [allocN_some h, Nat.add_sub_cancel, ha]
  simp
theorem allocN_none {sp : Sp} {d : Nat} (h : firstF (sp d) = none) : allocN sp d = 0 := by unfold allocN; rw [h]
set_option maxRecDepth 100000 in
set_option maxHeartbeats 4000000 in
/-- No such disk, or no space. -/
theorem alloc_size0 (p : Value) (d : Int) (w : World) (h : ∀ w : World, Calls Try.prog 22 #[p, .int .i64 d] w fun e w' => e = .returned (.int .i64 0) ∧ w = w') : Calls Try.prog 9 #[p, .int .i64 d] w fun e w' => e = .returned (.int .u16 0) ∧ Below w.heap.size w w' := by
  have H := Lib.hid h
  clear h
  go_enter Try.func9, Try.ntmps9
  go_wp2_with (first | (go_at_call 21; refine (turn_any 0 1 _).mono ?_; rintro e w1 ⟨rfl, h1, h2, h3⟩) | fail)
  have H3 := Lib.hid h3
  clear h1 h2 h3
  refine (H.out _).mono ?_
  rintro e w2 ⟨rfl, rfl⟩
  go_wp2_with fail
  go_loop [12] (fun i => i = .int .i64 0) (fun _ => 0)
  case atStart => rfl
  case round =>
    subst hrel
    go_wp2_with fail
    go_ret
    exact ⟨rfl, H3.out⟩
theorem alloc_nil (d : Int) (w : World) : Calls Try.prog 9 #[.pointer none, .int .i64 d] w fun e w' => e = .returned (.int .u16 0) ∧ Below w.heap.size w w' := alloc_size0 _ _ _ fun w => size_nil d w
theorem alloc_none (d : Int) (D : Nat) (w : World) (hd : d < 0 ∨ 2 ≤ d) : Calls Try.prog 9 #[.pointer (some ⟨D, 0, none⟩), .int .i64 d] w fun e w' => e = .returned (.int .u16 0) ∧ Below w.heap.size w w' := alloc_size0 _ _ _ fun w => size_no d w D hd
def AllocAt (w0 w : World) (g h D d : Nat) (B : Nat → Nat) (sp : Sp) (i : Nat) : Prop :=
  SpAt w D B sp ∧ (Blk w g [.int .u8 0] 57 ∧ Blk w h [.int .u8 1] 57) ∧ Chg (Of B) w0 w ∧ ∀ j x, j < i → (sp d)[j]? = some x → free? x = false
theorem AllocAt.pass {w0 w : World} {g h D d : Nat} {B : Nat → Nat} {sp : Sp} {i : Nat} {a : Ax} (H : AllocAt w0 w g h D d B sp i) (ha : (sp d)[i]? = some a) (hf : free? a = false) : AllocAt w0 w g h D d B sp (i + 1) :=
  ⟨H.1, H.2.1, H.2.2.1, fun j x hj hx => by
    by_cases e : j = i
    · subst e; rw [ha] at hx; cases hx; exact hf
    · exact H.2.2.2 j x (by omega) hx⟩
theorem AllocAt.other {w0 w w' : World} {g h D d : Nat} {B : Nat → Nat} {sp : Sp} {i : Nat} {a : Ax} (H : AllocAt w0 w g h D d B sp i) (hd : d < 2) (ha : (sp d)[i]? = some a) (hn : ¬ a.is = 0) (hb : Blk w' (B d) (acells ((sp d).set i (turnA 0 1 a))) 61) (hc : Chg (fun k => k = B d) w w') : AllocAt w0 w' g h D d B sp i := by
  obtain ⟨h1, h2, h3, h4⟩ := H
  have e : (sp d).set i (turnA 0 1 a) = sp d := by unfold turnA; rw [if_neg hn, set_same _ _ _ ha]
  rw [e] at hb
  refine ⟨?_, (acts_turn 0 1 g h).keep w w' _ h2 (fun k hk => by subst hk; exact ⟨_, h1.ax d hd⟩) hc, h3.trans' (chg_of hd hc), h4⟩
  have := h1.turned hd rfl hb hc
  rw [put_self] at this
  exact this
theorem AllocAt.took {w0 w w' : World} {g h D d : Nat} {B : Nat → Nat} {sp : Sp} {i : Nat} {a : Ax} (H : AllocAt w0 w g h D d B sp i) (hd : d < 2) (ha : (sp d)[i]? = some a) (hf : free? a = true) (hb : Blk w' (B d) (acells ((sp d).set i (turnA 0 1 a))) 61) (hc : Chg (fun k => k = B d) w w') :
    allocN sp d = i + 1 ∧ SpAt w' D B (allocS sp d) ∧ Chg (Of B) w0 w' := by
  obtain ⟨h1, h2, h3, h4⟩ := H
  have hi := firstF_some _ i a h4 ha hf
  refine ⟨allocN_some hi, ?_, h3.trans' (chg_of hd hc)⟩
  rw [allocS_some hi ha]
  exact h1.turned hd (by simp) hb hc
set_option maxRecDepth 100000 in
set_option maxHeartbeats 4000000 in
theorem alloc_any (d D : Nat) (B : Nat → Nat) (sp : Sp) (w : World) (h : SpAt w D B sp) (hd : d < 2) : Calls Try.prog 9 #[.pointer (some ⟨D, 0, none⟩), .int .i64 (d : Int)] w fun e w' =>
    e = .returned (.int .u16 (allocN sp d : Nat)) ∧ SpAt w' D B (allocS sp d) ∧ Chg (Of B) w w' := by
  have hn2 := h.len d hd
  obtain ⟨n, hn⟩ : ∃ n, (sp d).length = n := ⟨_, rfl⟩
  have HN := Lib.hid hn
  rw [hn] at hn2
  have H := Lib.hid h
  have hcf := cfT
  clear h hn
  go_enter Try.func9, Try.ntmps9
  go_wp2_with (first | (go_at_call 21; refine (turn_any 0 1 _).mono ?_; rintro e w1 ⟨rfl, h1, h2, h3⟩) | fail)
  have HS := Lib.hid (show AllocAt w w1 w.heap.size (w.heap.size + 1) D d B sp 0 from ⟨H.out.below h3, ⟨h1, h2⟩, Chg.of_below h3, fun j x hj => by omega⟩)
  clear h1 h2 h3
  refine (size_any d _ D B sp HS.out.1 hd).mono ?_
  rw [HN.out]
  rintro e w2 ⟨rfl, rfl⟩
  unfold fval
  generalize w.heap.size = g at HS ⊢
  go_wp2_with fail
  go_loopw [12] (fun i wr => ∃ j : Nat, j ≤ n ∧ i = .int .i64 (j : Int) ∧ AllocAt w wr g (g + 1) D d B sp j) (fun i _ => n - (intOf i).toNat)
  case atStart => exact ⟨0, by omega, rfl, HS.out⟩
  case round =>
    clear HS
    obtain ⟨j, hj, rfl, hW⟩ := hrel
    have wj := IntWalk.i64_in ((j : Int) + 1) (by omega)
    by_cases hjl : j < n
    · obtain ⟨a, ha⟩ : ∃ a, (sp d)[j]? = some a := ⟨_, List.getElem?_eq_getElem (by rw [HN.out]; exact hjl)⟩
      have wu := IntWalk.u16_in ((j : Int) + 1) (by omega)
      have c0 := hW.1.cell hd
      rw [HN.out] at c0
      have c1 := (hW.1.ax d hd).cell (acells_get _ j a ha).2
      have HW := Lib.hid hW; have HAA := Lib.hid ha
      clear hW ha
      by_cases hs : a.sick = true
      · have HF : Hid (free? a = false) := Lib.hid (by simp [free?, hs])
        rw [hs] at c1
        clear hs
        go_wp2_with fail
        go_roundw
        case rel => exact ⟨j + 1, by omega, by go_num, HW.out.pass HAA.out HF.out⟩
        case measure => simp [intOf]; omega
      · have hs : a.sick = false := by simpa using hs
        rw [hs] at c1
        have HSK := Lib.hid hs
        clear hs
        go_wp2_with fail
        refine (turn_in 0 1 g (g + 1) (B d) j _ a _ HAA.out (HW.out.1.ax d hd) HW.out.2.1.1 HW.out.2.1.2).mono ?_
        by_cases hz : a.is = 0
        · have HF : Hid (free? a = true) := Lib.hid (by simp [free?, HSK.out, hz])
          have e0 : turnE 0 a = 0 := by simp [turnE, hz]
          rw [e0]
          clear hz e0
          rintro e w3 ⟨rfl, hb, hc⟩
          have HT := Lib.hid (HW.out.took hd HAA.out HF.out hb hc)
          clear hb hc
          go_wp2_with fail
          go_ret
          refine ⟨?_, HT.out.2⟩
          rw [HT.out.1]
          rfl
        · have HF : Hid (free? a = false) := Lib.hid (by simp [free?, hz])
          have e0 : turnE 0 a = 5 := by simp [turnE, hz]
          rw [e0]
          have HZ := Lib.hid hz
          clear hz e0
          rintro e w3 ⟨rfl, hb, hc⟩
          have HT := Lib.hid ((HW.out.other hd HAA.out HZ.out hb hc).pass HAA.out HF.out)
          clear hb hc
          go_wp2_with fail
          go_roundw
          case rel => exact ⟨j + 1, by omega, by go_num, HT.out⟩
          case measure => simp [intOf]; omega
    · obtain rfl : j = n := by omega
      have HW := Lib.hid hW
      clear hW
      go_wp2_with fail
      go_ret
      have e1 : firstF (sp d) = none := firstF_none _ fun i x hx => HW.out.2.2.2 i x (by have := (List.getElem?_eq_some_iff.1 hx).1; rw [HN.out] at this; exact this) hx
      have e2 := allocN_none e1
      rw [e2, allocS_zero e2]
      exact ⟨rfl, HW.out.1, HW.out.2.2.1⟩
end Go.Proofs.Ytjfedhaafdfibaa
