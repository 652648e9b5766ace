/- A reader: bytes; noughts. -/
import Derived.Test.YtincpdnmaiimnaaDoorRdMore
namespace Go.Proofs.YtincpdnmaiimnaaDoor
open Go.RowKit

def RawPost (H : Nat) (K : Nat → Prop) (l : List (BitVec 8)) (e : Nat) (n : Int) (w : World) (x : Ending) (w' : World) : Prop :=
  ∃ v, x = .returned v ∧ OwnB w' w.heap.size v (nextRes l e n).1 ∧ RdAt w' H K (nextRes l e n).2.1 (nextRes l e n).2.2 ∧ ButFor H w w'
theorem nextRes_le (l : List (BitVec 8)) (e : Nat) (n : Int) : (nextRes l e n).1.length ≤ l.length := by
  unfold nextRes
  split
  · simp
  · split
    · simp
    · simp; omega
theorem OwnB.mono {w : World} {B B' : Nat} {v : Value} {l : List (BitVec 8)} (h : OwnB w B v l) (hb : B' ≤ B) : OwnB w B' v l := by
  refine ⟨h.1, ?_⟩
  rcases h.2 with hn | ⟨g, cap, cur, rfl, hbg, rest⟩
  · exact .inl hn
  · exact .inr ⟨g, cap, cur, rfl, by omega, rest⟩
theorem raw_any (H : Nat) (l : List (BitVec 8)) (e : Nat) (n : Int) (w : World) {K : Nat → Prop} (hl : l.length ≤ 100000) (hR : RdAt w H K l e) :
    Calls Tryd.prog 40 #[.pointer (some ⟨H, 0, none⟩), .int .i64 n] w (RawPost H K l e n w) := by
  have HC := Lib.hid (next_any H l e n w hR)
  have hle := nextRes_le l e n
  clear hR
  go_enter Tryd.func40, Tryd.ntmps40
  go_wp2_with fail
  refine HC.out.mono ?_
  rintro x w1 ⟨sp, cap, rfl, hcap, hz, hS, hR, hB⟩
  have HS := Lib.hid hS
  have HR := Lib.hid hR
  have HB := Lib.hid hB
  have HZ := Lib.hid hz
  clear hS hR hB hz HC
  go_wp2_with fail
  refine (clone_any (nextRes l e n).1 sp cap w1 (by omega) HZ.out hcap HS.out.srcA).mono ?_
  rintro x w2 ⟨v, rfl, ho, hb⟩
  have HO := Lib.hid ho
  have HB2 := Lib.hid hb
  clear ho hb
  go_wp2
  go_ret
  exact ⟨_, rfl, HO.out.mono HB.out.size, HR.out.below HB2.out (Nat.le_refl _), HB.out.trans (ButFor.of_below HB2.out)⟩

/-- What noughts leave: the bytes, the error. -/
def nouOf (l : List (BitVec 8)) (e : Nat) (n : Int) : List (BitVec 8) × Nat :=
  ((nextRes l e n).2.1, if (nextRes l e n).1.all (· == 0#8) then (nextRes l e n).2.2 else 5)
theorem nextRes_ok (l : List (BitVec 8)) (e : Nat) (n : Int) (h : 0 < (nextRes l e n).1.length) : (nextRes l e n).2.2 = 0 := by
  unfold nextRes at *
  split at h
  · simp at h
  · split at h
    · simp at h
    · rename_i h1 h2; rw [if_neg h1, if_neg h2]
theorem all_take (l : List (BitVec 8)) (k : Nat) (hk : k < l.length) (h : (l.take k).all (· == 0#8) = true) (hx : l.getD k 0 = 0#8) : (l.take (k + 1)).all (· == 0#8) = true := by
  rw [val_take_succ l k hk, List.all_append, h, hx]; rfl
theorem all_no (l : List (BitVec 8)) (k : Nat) (hk : k < l.length) (hx : l.getD k 0 ≠ 0#8) : l.all (· == 0#8) = false := by
  rw [List.all_eq_false]
  refine ⟨l[k], List.getElem_mem hk, ?_⟩
  have : l.getD k 0 = l[k] := by simp [List.getD_eq_getElem?_getD, hk]
  rw [← this]
  simpa using hx
set_option maxRecDepth 100000 in
set_option maxHeartbeats 1000000 in
theorem noughts_any (H : Nat) (l : List (BitVec 8)) (e : Nat) (n : Int) (w : World) {K : Nat → Prop} (hl : l.length ≤ 100000) (hR : RdAt w H K l e) :
    Calls Tryd.prog 41 #[.pointer (some ⟨H, 0, none⟩), .int .i64 n] w (BadPost H K (nouOf l e n).1 (nouOf l e n).2 w) := by
  have HC := Lib.hid (next_any H l e n w hR)
  have hle := nextRes_le l e n
  have hok := nextRes_ok l e n
  obtain ⟨out, hout⟩ : ∃ o, (nextRes l e n).1 = o := ⟨_, rfl⟩
  obtain ⟨l1, hl1⟩ : ∃ o, (nextRes l e n).2.1 = o := ⟨_, rfl⟩
  obtain ⟨e1, he1⟩ : ∃ o, (nextRes l e n).2.2 = o := ⟨_, rfl⟩
  have hN1 : (nouOf l e n).1 = l1 := hl1
  have hN2 : (nouOf l e n).2 = if out.all (· == 0#8) then e1 else 5 := by unfold nouOf; rw [hout, he1]
  have HN1 := Lib.hid hN1
  have HN2 := Lib.hid hN2
  rw [hout] at hle hok
  rw [he1] at hok
  have HOK := Lib.hid hok
  have HO := Lib.hid (And.intro hout (And.intro hl1 he1))
  obtain ⟨N, hN⟩ : ∃ N, out.length = N := ⟨_, rfl⟩
  rw [hN] at hle
  have HN := Lib.hid hN
  clear hR hout hl1 he1 hN1 hN2 hok hN
  go_enter Tryd.func41, Tryd.ntmps41
  go_wp2_with fail
  refine HC.out.mono ?_
  rintro x w1 hN
  unfold NextPost at hN
  rw [HO.out.1, HO.out.2.1, HO.out.2.2, HN.out] at hN
  obtain ⟨sp, cap, rfl, hcap, hz, hS, hR, hB⟩ := hN
  have HS := Lib.hid hS
  have HR := Lib.hid hR
  have HB := Lib.hid hB
  clear hS hR hB hz HC hcap
  go_wp2_with fail
  go_loop [10] (fun i => ∃ k : Nat, k ≤ N ∧ i = .int .i64 k ∧ (out.take k).all (· == 0#8) = true) (fun i => N - (intOf i).toNat)
  case atStart => exact ⟨0, by omega, rfl, by simp⟩
  case round =>
    obtain ⟨k, hk, rfl, hall⟩ := hrel
    by_cases hlt : k < N
    · obtain ⟨g, o, rfl, hgH, hg, hcell⟩ := HS.out (by rw [HN.out]; omega)
      have cx := hcell k (by rw [HN.out]; exact hlt)
      have HT := Lib.hid (all_take out k (by rw [HN.out]; exact hlt) hall)
      have HF := Lib.hid (all_no out k (by rw [HN.out]; exact hlt))
      obtain ⟨x, hx⟩ : ∃ x, out.getD k 0 = x := ⟨_, rfl⟩
      rw [hx] at cx HT HF
      have HALL := Lib.hid hall
      clear hx hcell hg hgH hall
      by_cases h0 : x = 0#8
      · subst h0
        have cx0 : w1.cell? ⟨g, o + k, none⟩ = some (.int .u8 0) := cx
        clear cx
        go_wp2
        go_round
        case rel => exact ⟨k + 1, by omega, by go_num, HT.out rfl⟩
        case measure => simp [intOf]; omega
      · have b1 : (N8 x != 0) = true := by rw [bne_iff_ne]; intro h; exact h0 (n8_inj (show N8 x = N8 0#8 from h))
        have b2 : (N8 x == 0) = false := by rw [beq_eq_false_iff_ne]; intro h; exact h0 (n8_inj (show N8 x = N8 0#8 from h))
        have b3 : ¬ N8 x = 0 := fun h => h0 (n8_inj (show N8 x = N8 0#8 from h))
        have HP : Hid ((nouOf l e n).2 = badOf e1) := Lib.hid (by rw [HN2.out, if_neg (by rw [HF.out h0]; simp), HOK.out (by rw [HN.out]; omega)]; rfl)
        clear h0
        go_wp2_with (go_at_call 42; refine (bad_any H l1 e1 _ HR.out).mono ?_; rintro x w2 ⟨rfl, h1, h2⟩; have H1 := Lib.hid h1; have H2 := Lib.hid h2; clear h1 h2)
        go_end0
        exact ⟨rfl, by rw [HN1.out, HP.out]; exact H1.out, HB.out.trans H2.out⟩
    · obtain rfl : k = N := by omega
      have HP : Hid ((nouOf l e n).2 = e1) := Lib.hid (by rw [HN2.out, if_pos]; rw [List.take_of_length_le (by have := HN.out; omega)] at hall; exact hall)
      clear hlt hk hall
      go_wp2
      go_end0
      exact ⟨rfl, by rw [HN1.out, HP.out]; exact HR.out, HB.out⟩
end Go.Proofs.YtincpdnmaiimnaaDoor
