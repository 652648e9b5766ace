/- How many bytes a number has; a number put behind bytes. -/
import Derived.Test.YtlkhnmhhcagghaaSl
namespace Go.Proofs.Ytlkhnmhhcagghaa
open Go.RowKit

set_option maxRecDepth 100000 in
theorem len64_at8 (w : World) : Calls Try.prog 56 #[.int .u64 255] w fun e w' => e = .returned (.int .i64 8) ∧ w = w' := by
  go_enter Try.func56, Try.ntmps56
  go_wp2
  go_ret
  exact ⟨by kernel_rfl, rfl⟩
theorem wd8_any (w : World) : Calls Try.prog 53 #[] w fun e w' => e = .returned (.int .i64 1) ∧ w = w' := by
  go_enter Try.func53, Try.ntmps53
  go_wp2_with (go_at_call 56; refine (len64_at8 _).mono ?_; rintro e w' ⟨rfl, rfl⟩)
  go_ret
  exact ⟨rfl, rfl⟩
set_option maxRecDepth 100000 in
theorem len64_at16 (w : World) : Calls Try.prog 56 #[.int .u64 65535] w fun e w' => e = .returned (.int .i64 16) ∧ w = w' := by
  go_enter Try.func56, Try.ntmps56
  go_wp2
  go_ret
  exact ⟨by kernel_rfl, rfl⟩
theorem wd16_any (w : World) : Calls Try.prog 52 #[] w fun e w' => e = .returned (.int .i64 2) ∧ w = w' := by
  go_enter Try.func52, Try.ntmps52
  go_wp2_with (go_at_call 56; refine (len64_at16 _).mono ?_; rintro e w' ⟨rfl, rfl⟩)
  go_ret
  exact ⟨rfl, rfl⟩
set_option maxRecDepth 100000 in
theorem len64_at32 (w : World) : Calls Try.prog 56 #[.int .u64 4294967295] w fun e w' => e = .returned (.int .i64 32) ∧ w = w' := by
  go_enter Try.func56, Try.ntmps56
  go_wp2
  go_ret
  exact ⟨by kernel_rfl, rfl⟩
set_option maxRecDepth 100000 in
theorem len64_at64 (w : World) : Calls Try.prog 56 #[.int .u64 18446744073709551615] w fun e w' => e = .returned (.int .i64 64) ∧ w = w' := by
  go_enter Try.func56, Try.ntmps56
  go_wp2
  go_ret
  exact ⟨by kernel_rfl, rfl⟩
/-- What the loop of put holds: the slice's first n bytes. -/
def PutRel (l : List (BitVec 8)) (m : Nat) (w : World) (s : Value) (wr : World) : Prop :=
  s = .slice (some ⟨w.heap.size, 0, none⟩) l.length m ∧ OwnB wr w.heap.size (.slice (some ⟨w.heap.size, 0, none⟩) l.length m) l ∧ Below w.heap.size w wr
theorem owns_of_row {w1 : World} {g : Nat} {l : List (BitVec 8)} {n m : Nat} {B : Nat} (h : w1.heap[g]? = some (.cells (splice (List.replicate m (.int .u8 0)) 0 (l.map V8)).toArray 5 (0, 0))) (hn : l.length = n) (hm : n ≤ m) (hx : m ≤ maxLen) (hB : B ≤ g) :
    OwnB w1 B (.slice (some ⟨g, 0, none⟩) n m) l := by
  subst hn
  refine ⟨by simp, .inr ⟨g, m, _, rfl, hB, h, hm, hx, ?_, ?_⟩⟩
  · simp only [List.size_toArray, Nat.mul_one]
    rw [length_splice _ _ _ (by simp; omega)]; simp
  · simp [splice]
theorem one_at (w : World) (v : Value) (t : TypeId) : ∀ j u, [v][j]? = some u → (w.alloc (.cells #[v] t)).cell? ((⟨w.heap.size, 0, none⟩ : Addr).add j) = some u := by
  intro j u hj
  match j, hj with
  | 0, hj => simp at hj; subst hj; simp [Addr.add]
theorem one_cell8 (x : BitVec 8) : ∀ u ∈ [V8 x], u.oneCell' = true := by
  intro u hu; simp at hu; subst hu; rfl

theorem src_pos {w : World} {sp : Option Addr} {bs : List (BitVec 8)} (h : SrcA w sp bs) {g : Nat} : 0 < (bs.map V8).length → (some (⟨g, 0, none⟩ : Addr)) = some ⟨g, 0, none⟩ ∧ ∃ ad, sp = some ad ∧ ∀ j v, (bs.map V8)[j]? = some v → w.cell? (ad.add j) = some v := fun h0 => by
  obtain ⟨g', o, rfl, _, hc⟩ := h (by simpa using h0)
  exact ⟨rfl, _, rfl, src_cell hc⟩

set_option maxRecDepth 100000 in
set_option maxHeartbeats 1000000 in
theorem put16_any (l : List (BitVec 8)) (sp : Option Addr) (cap n : Nat) (w : World) (hl : l.length ≤ 100000) (hn : n < 2 ^ 16) (hS : SrcA w sp l) :
    Calls Try.prog 46 #[.slice sp l.length cap, .int .u16 (n : Int)] w fun e w' => e = .returned (.slice (some ⟨w.heap.size, 0, none⟩) (l.length + 2) (l.length + 2)) ∧
      OwnB w' w.heap.size (.slice (some ⟨w.heap.size, 0, none⟩) (l ++ leb n 2).length (l.length + 2)) (l ++ leb n 2) ∧ Below w.heap.size w w' := by
  obtain ⟨i0, hi, hz0, hz1, hz2⟩ := info_parts infoB
  have HS := Lib.hid hS
  obtain ⟨L, hL⟩ : ∃ L, l.length = L := ⟨_, rfl⟩
  rw [hL] at hl ⊢
  have HL := Lib.hid hL
  clear hS hL
  have hw := u64_in n (by omega)
  clear hn
  go_enter Try.func46, Try.ntmps46
  go_wp2_with (first
    | (go_at_call 52; refine (wd16_any _).mono ?_; rintro e w' ⟨rfl, rfl⟩)
    | (at_make; refine wpList_makeLC rfl _ _ 23 rfl 5 i0 (.int .u8 0) Try.underlying23 hi hz0 rfl hz1 .i64 .i64 _ _ L (L + 2) rfl rfl rfl (by omega) (by omega) (by rw [hz2]; omega) (by unfold maxLen; omega) ?_; intro w1 hb1 hb2; have HB1 := Lib.hid hb1; have HB2 := Lib.hid hb2; clear hb1 hb2)
    | (refine wpList_copy_splice rfl (.tmp 14) (.tmp 15) 23 23 rfl 5 Try.underlying23 sizeB (some ⟨w.heap.size, 0, none⟩) sp L (L + 2) L cap rfl rfl w.heap.size 0 _ 5 HB1.out (l.map V8) (by rw [List.length_map, HL.out]; simp) (src_pos (HS.out.grown HB2.out)) (by simp [HL.out]) (one_v8 l) w.heap.size w HB2.out (Nat.le_refl _) ?_; intro w2 hs2 hb3; have HP := Lib.hid hs2.out; have HB3 := Lib.hid hb3; clear hs2 hb3)
    | fail)
  have hR0 : PutRel (l ++ leb n 0) (L + 2) w (.slice (some ⟨w.heap.size, 0, none⟩) L (L + 2)) w2 := by
    have e : (l ++ leb n 0).length = L := by rw [List.length_append, HL.out, leb_length]; omega
    refine ⟨by rw [e], ?_, HB3.out⟩
    rw [e]
    exact owns_of_row (by simpa [leb] using HP.out) e (by omega) (by unfold maxLen; omega) (Nat.le_refl _)
  have HR0 := Lib.hid hR0
  clear hR0
  go_loopw [5, 18] (fun s i wr => ∃ k : Nat, k ≤ 2 ∧ i = .int .i64 k ∧ PutRel (l ++ leb n k) (L + 2) w s wr) (fun _ i _ => 2 - (intOf i).toNat)
  case atStart => exact ⟨0, by omega, rfl, HR0.out⟩
  case round =>
    clear HR0 HB1 HB2 HB3 HP
    obtain ⟨k, hk, rfl, hR⟩ := hrel
    obtain ⟨rfl, hown, hbel⟩ := hR
    have e : (l ++ leb n k).length = L + k := by rw [List.length_append, HL.out, leb_length]
    have HO := Lib.hid hown
    have HW := Lib.hid hbel
    have hsz : w.heap.size < wr.heap.size := (hown.lt _ rfl).2
    have HE := Lib.hid e
    have hown2 := hown
    unfold OwnB at hown2
    rw [e] at hown2
    have HO2 := Lib.hid hown2
    rw [e]
    clear hown2
    clear hown hbel e
    by_cases hlt : k < 2
    · have e2 := IntWalk.i64_in (8 * (k : Int)) (by omega)
      have p3 : 0 ≤ 8 * (k : Int) := by omega
      have r3 : (8 * (k : Int)).toNat = 8 * k := by omega
      have m3 : min (8 * k) 64 = 8 * k := by omega
      have l3 := lb_int n k
      have l4 := lb_mod n k
      have z1 := hz1
      clear hz1
      have HZ1 := Lib.hid z1
      clear z1
      go_wp2_with (first
        | (at_builtin; refine wpList_append_fits _ rfl (.tmp 21) (.tmp 28) 23 rfl w.heap.size 5 i0 1 Try.underlying23 hi HZ1.out w.heap.size (L + k) (L + 2) ((l ++ leb n k).map V8) rfl (HO2.out.alloc _) ⟨wr.heap.size, 0, none⟩ 1 1 [V8 (lb n k)] rfl rfl (one_at _ _ _) (one_cell8 _) (by omega) ?_; intro w2 ho hg)
        | fail)
      have HR2 : Hid (PutRel (l ++ leb n (k + 1)) (L + 2) w (.slice (some ⟨w.heap.size, 0, none⟩) (L + k + 1) (L + 2)) w2) := Lib.hid (by
        have e : (l ++ leb n (k + 1)).length = L + k + 1 := by rw [List.length_append, HL.out, leb_length]; omega
        refine ⟨by rw [e], ?_, (HW.out.alloc (by omega) _).grown hg (by simp; omega) (fun j hj => by cases hj; exact Nat.le_refl _)⟩
        unfold OwnB
        rw [e, leb_succ, ← List.append_assoc, List.map_append]
        exact ho)
      clear ho hg
      go_roundw
      case rel => exact ⟨k + 1, by omega, by go_num, HR2.out⟩
      case measure => simp [intOf]; omega
    · obtain rfl : k = 2 := by omega
      clear hlt hk
      go_wp2
      go_ret
      refine ⟨rfl, ?_, HW.out⟩
      exact HO.out
theorem pu16_any (l : List (BitVec 8)) (sp : Option Addr) (cap n : Nat) (w : World) (hl : l.length ≤ 100000) (hn : n < 2 ^ 16) (hS : SrcA w sp l) :
    Calls Try.prog 36 #[.slice sp l.length cap, .int .u16 (n : Int)] w fun e w' => e = .returned (.slice (some ⟨w.heap.size, 0, none⟩) (l.length + 2) (l.length + 2)) ∧
      OwnB w' w.heap.size (.slice (some ⟨w.heap.size, 0, none⟩) (l ++ leb n 2).length (l.length + 2)) (l ++ leb n 2) ∧ Below w.heap.size w w' := by
  obtain ⟨L, hL⟩ : ∃ L, l.length = L := ⟨_, rfl⟩
  have hc := put16_any l sp cap n w hl hn hS
  rw [hL] at hc ⊢
  have HC := Lib.hid hc
  clear hc hS hn hl hL
  go_enter Try.func36, Try.ntmps36
  go_wp2_with fail
  refine HC.out.mono ?_
  rintro e w' ⟨rfl, h1, h2⟩
  have H1 := Lib.hid h1
  have H2 := Lib.hid h2
  clear h1 h2
  go_wp2
  go_ret
  exact ⟨rfl, H1.out, H2.out⟩

end Go.Proofs.Ytlkhnmhhcagghaa
