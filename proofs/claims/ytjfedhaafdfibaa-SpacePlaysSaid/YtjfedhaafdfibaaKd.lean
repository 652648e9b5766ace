/- all: an act on each address of both disks. -/
import Derived.Test.YtjfedhaafdfibaaKc
namespace Go.Proofs.Ytjfedhaafdfibaa
open Go.RowKit

def part (A : Ax → Ax) (i : Nat) (l : List Ax) : List Ax := (l.take i).map A ++ l.drop i
theorem part_length (A : Ax → Ax) (i : Nat) (l : List Ax) : (part A i l).length = l.length := by simp [part]; omega
theorem part_zero (A : Ax → Ax) (l : List Ax) : part A 0 l = l := by simp [part]
theorem part_all (A : Ax → Ax) (l : List Ax) : part A l.length l = l.map A := by simp [part]
theorem part_get (A : Ax → Ax) : ∀ (l : List Ax) (i : Nat) (a : Ax), l[i]? = some a → (part A i l)[i]? = some a ∧ (part A i l).set i (A a) = part A (i + 1) l
  | [], _, _, h => by simp at h
  | b :: l, 0, a, h => by simp at h; subst h; simp [part]
  | b :: l, i + 1, a, h => by
    have := part_get A l i a (by simpa using h)
    simpa [part] using this
theorem SpAt.congr {w : World} {D : Nat} {B : Nat → Nat} {sp sp' : Sp} (h : SpAt w D B sp) (he : ∀ d, d < 2 → sp' d = sp d) : SpAt w D B sp' := by
  refine ⟨?_, fun d hd => by rw [he d hd]; exact h.ax d hd, h.apart, fun d hd => by rw [he d hd]; exact h.len d hd⟩
  rw [he 0 (by omega), he 1 (by omega)]
  exact h.blk
def allS (sp : Sp) (A : Ax → Ax) : Sp := fun d => (sp d).map A
def doneS (sp : Sp) (A : Ax → Ax) (k : Nat) : Sp := fun d => if d < k then (sp d).map A else sp d
/-- What the loops keep. -/
def AllAt (w0 w : World) (D : Nat) (B : Nat → Nat) (K : World → Prop) (sp : Sp) : Prop := SpAt w D B sp ∧ K w ∧ Chg (Of B) w0 w
theorem AllAt.step {w0 w w' : World} {D : Nat} {B : Nat → Nat} {K : World → Prop} {f : Nat} {caps : Array Value} {E : Ax → Nat} {A : Ax → Ax} {sp : Sp} {d i : Nat} {a : Ax} (h : AllAt w0 w D B K (put sp d (part A i (sp d)))) (hA : Acts f caps E A K) (hd : d < 2) (hi : (sp d)[i]? = some a)
    (hb : Blk w' (B d) (acells ((part A i (sp d)).set i (A a))) 61) (hc : Chg (fun k => k = B d) w w') : AllAt w0 w' D B K (put sp d (part A (i + 1) (sp d))) := by
  obtain ⟨h1, h2, h3⟩ := h
  have hbd := h1.ax d hd
  rw [(part_get A _ i a hi).2] at hb
  refine ⟨?_, hA.keep w w' _ h2 (fun k hk => by subst hk; exact ⟨_, hbd⟩) hc, h3.trans' (chg_of hd hc)⟩
  have := h1.turned hd (l := part A (i + 1) (sp d)) (by rw [put_same, part_length, part_length]) hb hc
  refine this.congr fun x hx => ?_
  by_cases e : x = d
  · subst e; rw [put_same, put_same]
  · rw [put_other _ _ e, put_other _ _ e, put_other _ _ e]
theorem doneS_succ (sp : Sp) (A : Ax → Ax) (k : Nat) : ∀ d, d < 2 → doneS sp A (k + 1) d = put (doneS sp A k) k (part A (sp k).length (doneS sp A k k)) d := by
  intro d _
  have e : doneS sp A k k = sp k := by simp [doneS]
  rw [e, part_all]
  by_cases h : d = k
  · subst h; rw [put_same]; simp [doneS]
  · rw [put_other _ _ h]
    unfold doneS
    by_cases h1 : d < k
    · rw [if_pos h1, if_pos (by omega)]
    · rw [if_neg h1, if_neg (by omega)]
set_option maxRecDepth 100000 in
set_option maxHeartbeats 4000000 in
theorem all_nil (f : Nat) (caps : Array Value) (w : World) : Calls Try.prog 26 #[.pointer none, fval f caps] w fun e w' => e = .returned (.tuple #[]) ∧ w = w' := by
  go_enter Try.func26, Try.ntmps26
  go_wp2_with fail
  go_loopw [6] (fun i wr => ∃ k : Nat, k ≤ 2 ∧ i = .int .i64 (k : Int) ∧ wr = w) (fun i _ => 2 - (intOf i).toNat)
  case atStart => exact ⟨0, by omega, rfl, rfl⟩
  case round =>
    obtain ⟨k, hk, rfl, rfl⟩ := hrel
    have wk := IntWalk.i64_in ((k : Int) + 1) (by omega)
    by_cases hlt : k < 2
    · go_wp2_with (first | (go_at_call 22; refine (size_nil _ _).mono ?_; rintro e w' ⟨rfl, rfl⟩) | fail)
      go_loop [12] (fun i => i = .int .i64 0) (fun _ => 0)
      case atStart => rfl
      case round =>
        subst hrel
        go_wp2_with fail
        go_roundw
        case rel => exact ⟨k + 1, by omega, by go_num, trivial⟩
        case measure => simp [intOf]; omega
    · go_wp2_with fail
      go_end0
      exact ⟨rfl, rfl⟩
set_option maxRecDepth 100000 in
set_option maxHeartbeats 4000000 in
theorem all_any (D f : Nat) (B : Nat → Nat) (sp : Sp) (caps : Array Value) (E : Ax → Nat) (A : Ax → Ax) (K : World → Prop) (w : World) (h : SpAt w D B sp) (hA : Acts f caps E A K) (hK : K w) :
    Calls Try.prog 26 #[.pointer (some ⟨D, 0, none⟩), fval f caps] w fun e w' => e = .returned (.tuple #[]) ∧ SpAt w' D B (allS sp A) ∧ Chg (Of B) w w' := by
  have hcf := hA.enter
  have H := Lib.hid (show AllAt w w D B K (doneS sp A 0) from ⟨h.congr (fun d _ => by simp [doneS]), hK, Chg.refl _ _⟩)
  have HL : Hid (∀ d, d < 2 → (sp d).length ≤ 4095) := Lib.hid h.len
  have HA := Lib.hid hA
  clear h hA hK
  unfold fval
  go_enter Try.func26, Try.ntmps26
  go_wp2_with fail
  go_loopw [6] (fun i wr => ∃ k : Nat, k ≤ 2 ∧ i = .int .i64 (k : Int) ∧ AllAt w wr D B K (doneS sp A k)) (fun i _ => 2 - (intOf i).toNat)
  case atStart => exact ⟨0, by omega, rfl, H.out⟩
  case round =>
    clear H
    obtain ⟨k, hk, rfl, hW⟩ := hrel
    have HW := Lib.hid hW
    have wk := IntWalk.i64_in ((k : Int) + 1) (by omega)
    clear hW
    by_cases hlt : k < 2
    · have hn2 := HL.out k hlt
      have e1 : doneS sp A k k = sp k := by simp [doneS]
      have E1 := Lib.hid e1
      obtain ⟨n, hn⟩ : ∃ n, (sp k).length = n := ⟨_, rfl⟩
      rw [hn] at hn2
      have HN := Lib.hid hn
      clear hn e1
      obtain ⟨wo, hwo⟩ : ∃ wo : World, wo = wr := ⟨_, rfl⟩
      subst hwo
      go_wp2_with (first | (go_at_call 22; refine (size_any k _ D B (doneS sp A k) HW.out.1 hlt).mono ?_; rw [E1.out, HN.out]; rintro e w' ⟨rfl, rfl⟩) | fail)
      go_loopw [12] (fun i wr => ∃ j : Nat, j ≤ n ∧ i = .int .i64 (j : Int) ∧ AllAt w wr D B K (put (doneS sp A k) k (part A j (doneS sp A k k)))) (fun i _ => n - (intOf i).toNat)
      case atStart => exact ⟨0, by omega, rfl, by rw [part_zero, put_self]; exact HW.out⟩
      case round =>
        clear HW
        obtain ⟨j, hj, rfl, hW⟩ := hrel
        have wj := IntWalk.i64_in ((j : Int) + 1) (by omega)
        by_cases hjl : j < n
        · obtain ⟨a, ha⟩ : ∃ a, (doneS sp A k k)[j]? = some a := ⟨_, List.getElem?_eq_getElem (by rw [E1.out, HN.out]; exact hjl)⟩
          have c0 := hW.1.cell hlt
          rw [put_same, part_length, E1.out, HN.out] at c0
          have hb := hW.1.ax k hlt
          rw [put_same] at hb
          have HW := Lib.hid hW; have HB := Lib.hid hb; have HAA := Lib.hid ha
          clear hW hb ha
          go_wp2_with fail
          refine (HA.out.call (B k) j _ a _ (part_get A _ j a HAA.out).1 HB.out HW.out.2.1).mono ?_
          rintro e w1 ⟨rfl, hb1, hc1⟩
          have HW1 := Lib.hid (HW.out.step HA.out hlt HAA.out hb1 hc1)
          clear hb1 hc1
          go_wp2_with fail
          go_roundw
          case rel => exact ⟨j + 1, by omega, by go_num, HW1.out⟩
          case measure => simp [intOf]; omega
        · obtain rfl : j = n := by omega
          have HW := Lib.hid hW
          clear hW
          go_wp2_with fail
          go_roundw
          case rel =>
            refine ⟨k + 1, by omega, by go_num, ?_⟩
            have := HW.out
            rw [← HN.out] at this
            exact ⟨this.1.congr (doneS_succ sp A k), this.2⟩
          case measure => simp [intOf]; omega
    · obtain rfl : k = 2 := by omega
      rw [show ((2 : Nat) : Int) = (2 : Int) from rfl]
      go_wp2_with fail
      go_end0
      exact ⟨rfl, HW.out.1.congr (fun d hd => by simp [allS, doneS, hd]), HW.out.2.2⟩
end Go.Proofs.Ytjfedhaafdfibaa
