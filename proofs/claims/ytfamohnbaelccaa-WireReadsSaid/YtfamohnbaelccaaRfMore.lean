/- The document's own reader: noughts, the end. -/
import Derived.Test.YtfamohnbaelccaaRfNum
namespace Go.Proofs.Ytfamohnbaelccaa
open Go.RowKit

/-- A reader that is told. -/
def RefOf (K : Nat → Prop) (l : List (BitVec 8)) (e : Nat) (w : World) (x : Ending) (w' : World) : Prop :=
  ∃ sp cap, x = .returned (RefV sp l cap e) ∧ RefIs w' K sp l cap ∧ Below w.heap.size w w'
def refEnd (l : List (BitVec 8)) (e : Nat) : List (BitVec 8) × Nat := if e = 0 ∧ 0 < l.length then ([], 5) else (l, e)
theorem refNil (w : World) (K : Nat → Prop) : RefIs w K none [] 0 := ⟨by simp, fun _ => rfl, fun h => by simp at h⟩
theorem refEnd_any (l : List (BitVec 8)) (sp : Option Addr) (cap e : Nat) (w : World) {K : Nat → Prop} (hR : RefIs w K sp l cap) :
    Calls Try.prog 33 #[.agg #[.slice sp l.length cap, .int .i64 (e : Int)]] w (RefOf K (refEnd l e).1 (refEnd l e).2 w) := by
  have HR := Lib.hid hR
  clear hR
  have HB : ∀ o1 o2, Below w.heap.size w ((w.alloc o1).alloc o2) := fun o1 o2 => ((Below.refl _ _).alloc (Nat.le_refl _) _).alloc (by simp) _
  have HBH := Lib.hid HB
  clear HB
  by_cases h : e = 0 ∧ 0 < l.length
  · obtain ⟨rfl, hl⟩ := h
    have HE : Hid (refEnd l 0 = ([], 5)) := Lib.hid (if_pos ⟨rfl, hl⟩)
    rw [HE.out]
    have h0 : (0 : Int) < (l.length : Int) := by omega
    clear hl
    go_enter Try.func33, Try.ntmps33
    go_wp2
    exact bodyPost_ret (v := .agg #[.slice none 0 0, .int .i64 5]) (by simp [results, Try.results33, go_sem]) rfl ⟨none, 0, rfl, refNil _ _, HBH.out _ _⟩
  · have HE : Hid (refEnd l e = (l, e)) := Lib.hid (if_neg h)
    rw [HE.out]
    by_cases he : e = 0
    · subst he
      have h0 : ¬ (0 : Int) < (l.length : Int) := by omega
      clear h
      go_enter Try.func33, Try.ntmps33
      go_wp2
      exact bodyPost_ret (v := .agg #[.slice sp l.length cap, .int .i64 0]) (by simp [results, Try.results33, go_sem]) rfl ⟨sp, cap, rfl, HR.out.below (HBH.out _ _), HBH.out _ _⟩
    · have h1 : ((e : Int) == 0) = false := by rw [beq_eq_false_iff_ne]; omega
      have h3 : ¬ (e : Int) = 0 := by omega
      clear h he
      go_enter Try.func33, Try.ntmps33
      go_wp2
      exact bodyPost_ret (v := .agg #[.slice sp l.length cap, .int .i64 (e : Int)]) (by simp [results, Try.results33, go_sem]) rfl ⟨sp, cap, rfl, HR.out.below (HBH.out _ _), HBH.out _ _⟩

/-- What noughts leave. -/
def refNou (l : List (BitVec 8)) (e : Nat) (n : Int) : List (BitVec 8) × Nat :=
  if (refRes l e n).1.all (· == 0#8) then ((refRes l e n).2.1, (refRes l e n).2.2) else ([], 5)
theorem refRes_le (l : List (BitVec 8)) (e : Nat) (n : Int) : (refRes l e n).1.length ≤ l.length := by
  unfold refRes
  split
  · simp
  · split
    · simp
    · simp; omega
set_option maxRecDepth 100000 in
set_option maxHeartbeats 1000000 in
theorem refNou_any (l : List (BitVec 8)) (sp : Option Addr) (cap e : Nat) (n : Int) (w : World) {K : Nat → Prop} (hl : l.length ≤ 100000) (hR : RefIs w K sp l cap) :
    Calls Try.prog 32 #[.agg #[.slice sp l.length cap, .int .i64 (e : Int)], .int .i64 n] w (RefOf K (refNou l e n).1 (refNou l e n).2 w) := by
  have HR := Lib.hid hR
  have hln := refRes_le l e n
  clear hR
  go_enter Try.func32, Try.ntmps32
  go_wp2_with fail
  refine (refRaw_any l sp cap e n _ (K := fun g => K g ∧ g < w.heap.size) (HR.out.up.below (((Below.refl _ _).alloc (Nat.le_refl _) _).alloc (by simp) _))).mono ?_
  rintro x w1 ⟨so, co, sp1, cap1, rfl, ho, hr1, hb⟩
  have HO := Lib.hid ho
  have HR1 := Lib.hid hr1
  have b4 : Blk w1 (w.heap.size + 1) [.slice none 0 0, .int .i64 0] 38 := (Blk.new' _ _ _ 38 (w.heap.size + 1) (by simp) rfl).below hb (by simp)
  have hsz : w.heap.size + 1 < w1.heap.size := b4.lt
  have HB0 : Hid (Below w.heap.size w w1) := Lib.hid ((((Below.refl _ _).alloc (Nat.le_refl _) _).alloc (by simp) _).trans (hb.mono (by simp; omega)))
  have B4 := Lib.hid b4
  have c0 := b4.cell (j := 0) rfl
  have c1 := b4.cell (j := 1) rfl
  have f0 := b4.free 0
  have f1 := b4.free 1
  obtain ⟨out, hout⟩ : ∃ o, (refRes l e n).1 = o := ⟨_, rfl⟩
  obtain ⟨l1, hl1⟩ : ∃ o, (refRes l e n).2.1 = o := ⟨_, rfl⟩
  obtain ⟨e1, he1⟩ : ∃ o, (refRes l e n).2.2 = o := ⟨_, rfl⟩
  have hnou : refNou l e n = if out.all (· == 0#8) then (l1, e1) else ([], 5) := by unfold refNou; rw [hout, hl1, he1]
  have HNOU := Lib.hid hnou
  rw [hout] at HO
  rw [hl1] at HR1
  rw [hout, hl1, he1]
  have hln2 : out.length ≤ 100000 := by rw [← hout]; omega
  obtain ⟨N, hN⟩ : ∃ N, out.length = N := ⟨_, rfl⟩
  have HN := Lib.hid hN
  rw [hN] at hln2 ⊢
  clear ho hr1 hb b4 hln hl hout hl1 he1 hN HR hnou
  go_wp2
  go_loop [7] (fun i => ∃ k : Nat, k ≤ N ∧ i = .int .i64 k ∧ (out.take k).all (· == 0#8) = true) (fun i => N - (intOf i).toNat)
  case atStart => exact ⟨0, by omega, rfl, by simp⟩
  case round =>
    obtain ⟨k, hk, rfl, hall⟩ := hrel
    by_cases hlt : k < N
    · obtain ⟨g, o, rfl, _, hg, hcell⟩ := HO.out.2.2 (by rw [HN.out]; omega)
      have cx := hcell k (by rw [HN.out]; exact hlt)
      have HT := Lib.hid (all_take out k (by rw [HN.out]; exact hlt) hall)
      have HF := Lib.hid (all_no out k (by rw [HN.out]; exact hlt))
      obtain ⟨x, hx⟩ : ∃ x, out.getD k 0 = x := ⟨_, rfl⟩
      rw [hx] at cx HT HF
      clear hx hcell hall
      by_cases h0 : x = 0#8
      · subst h0
        have cx0 : w1.cell? ⟨g, o + k, none⟩ = some (.int .u8 0) := cx
        clear cx
        go_wp2
        go_round
        case rel => exact ⟨k + 1, by omega, by go_num, HT.out rfl⟩
        case measure => simp [intOf]; omega
      · have b1 : (N8 x != 0) = true := by rw [bne_iff_ne]; intro h; exact h0 (n8_inj (show N8 x = N8 0#8 from h))
        have b3 : ¬ N8 x = 0 := fun h => h0 (n8_inj (show N8 x = N8 0#8 from h))
        have HP : Hid (refNou l e n = ([], 5)) := Lib.hid (by rw [HNOU.out, if_neg (by rw [HF.out h0]; simp)])
        have C0 := (((B4.out.set 0 (.slice none 0 0)).set 1 (.int .i64 5)).alloc (.cells #[.slice sp1 l1.length cap1, .int .i64 (e1 : Int)] 38)).cell (j := 0) rfl
        have C1 := (((B4.out.set 0 (.slice none 0 0)).set 1 (.int .i64 5)).alloc (.cells #[.slice sp1 l1.length cap1, .int .i64 (e1 : Int)] 38)).cell (j := 1) rfl
        clear h0 HT HF
        go_wp2
        refine bodyPost_ret (v := .agg #[.slice none 0 0, .int .i64 5]) (by simp [results, Try.results32, go_sem, C0, C1]) rfl ?_
        rw [HP.out]
        exact ⟨none, 0, rfl, refNil _ _, HB0.out.trans ((((Below.refl _ _).setCell (by simp) _).setCell (by simp) _).alloc (by simp; omega) _)⟩
    · obtain rfl : k = N := by omega
      have HP : Hid (refNou l e n = (l1, e1)) := Lib.hid (by rw [HNOU.out, if_pos]; rw [List.take_of_length_le (by have := HN.out; omega)] at hall; exact hall)
      have C0 := (((B4.out.set 0 (.slice sp1 l1.length cap1)).set 1 (.int .i64 (e1 : Int))).alloc (.cells #[.slice sp1 l1.length cap1, .int .i64 (e1 : Int)] 38)).cell (j := 0) rfl
      have C1 := (((B4.out.set 0 (.slice sp1 l1.length cap1)).set 1 (.int .i64 (e1 : Int))).alloc (.cells #[.slice sp1 l1.length cap1, .int .i64 (e1 : Int)] 38)).cell (j := 1) rfl
      clear hall hlt hk
      go_wp2
      refine bodyPost_ret (v := .agg #[.slice sp1 l1.length cap1, .int .i64 (e1 : Int)]) (by simp [results, Try.results32, go_sem, C0, C1]) rfl ?_
      rw [HP.out]
      have hb2 : Below w.heap.size w1 (((w1.setCell ⟨w.heap.size + 1, 0, none⟩ (.slice sp1 l1.length cap1)).setCell ⟨w.heap.size + 1, 1, none⟩ (.int .i64 (e1 : Int))).alloc (.cells #[.slice sp1 l1.length cap1, .int .i64 (e1 : Int)] 38)) := (((Below.refl _ _).setCell (by simp) _).setCell (by simp) _).alloc (by simp; omega) _
      exact ⟨sp1, cap1, rfl, HR1.out.low hb2, HB0.out.trans hb2⟩
end Go.Proofs.Ytfamohnbaelccaa
