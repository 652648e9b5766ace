/- Bytes that are put: the document's number, the fillings. -/
import Derived.Test.YtincpdnmaiimnaaDoorRdNil
namespace Go.Proofs.YtincpdnmaiimnaaDoor
open Go.RowKit

theorem lb_div (n j : Nat) : lb n j = BitVec.ofNat 8 (n / 2 ^ (8 * j) % 256) := by
  apply BitVec.eq_of_toNat_eq
  simp [lb]
theorem pow_step (n j : Nat) : n / 2 ^ (8 * j) / 256 = n / 2 ^ (8 * (j + 1)) := by
  rw [Nat.div_div_eq_div_mul, show 8 * (j + 1) = 8 * j + 8 by omega, Nat.pow_add]
theorem u8_of (m : Nat) : IntKind.u8.wrap ((m % 256 : Nat) : Int) = N8 (BitVec.ofNat 8 (m % 256)) := by
  unfold N8; rw [IntKind.wrap_u8', BitVec.toNat_ofNat]; simp

set_option maxRecDepth 100000 in
set_option maxHeartbeats 1000000 in
theorem wNum_any (n k : Nat) (w : World) (hk : k ≤ 8) (hn : n < 18446744073709551616) :
    Calls Tryd.prog 17 #[.int .u64 (n : Int), .int .i64 (k : Int)] w (RetOwn (leb n k) w) := by
  obtain ⟨i0, hi, hz0, hz1, hz2⟩ := info_parts infoB
  have HNN := Lib.hid hn
  clear hn
  go_enter Tryd.func17, Tryd.ntmps17
  go_wp2
  go_loopw [0, 5, 6] (fun m s i wr => ∃ j : Nat, j ≤ k ∧ i = .int .i64 j ∧ m = .int .u64 ((n / 2 ^ (8 * j) : Nat) : Int) ∧ OwnB wr w.heap.size s (leb n j) ∧ Below w.heap.size w wr) (fun _ _ i _ => k - (intOf i).toNat)
  case atStart => exact ⟨0, by omega, rfl, by simp, World.ownsRow_nil _ _ _ _, Below.refl _ _⟩
  case round =>
    obtain ⟨j, hj, rfl, rfl, hown, hbel⟩ := hrel
    by_cases hlt : j < k
    · obtain ⟨m, hm⟩ : ∃ m, n / 2 ^ (8 * j) = m := ⟨_, rfl⟩
      rw [hm]
      have r1 : (m : Int) % 256 = ((m % 256 : Nat) : Int) := by omega
      have r2 : (m : Int).tmod 256 = ((m % 256 : Nat) : Int) := by rw [Int.tmod_eq_emod_of_nonneg (by omega)]; omega
      have r3 : IntKind.u8.wrap ((m % 256 : Nat) : Int) = N8 (lb n j) := by rw [u8_of, ← hm, ← lb_div]
      have r4 : (m : Int) / 256 = ((m / 256 : Nat) : Int) := by omega
      have r5 : (m : Int).tdiv 256 = ((m / 256 : Nat) : Int) := by rw [Int.tdiv_eq_ediv_of_nonneg (by omega)]; omega
      have HN : Hid (m / 256 = n / 2 ^ (8 * (j + 1))) := Lib.hid (by rw [← hm, pow_step])
      generalize m % 256 = q at *
      generalize m / 256 = d at *
      have HO := Lib.hid hown
      have HB := Lib.hid hbel
      have hbs := hbel.size
      clear hm hown hbel
      go_wp2_with (first
        | (at_builtin; refine wpList_append_own _ rfl (.tmp 12) (.tmp 16) 30 rfl w.heap.size 5 i0 (.int .u8 0) 1 1 Tryd.underlying30 hi hz0 hz1 hz2 rfl (by omega) _ (leb n j).length ((leb n j).map V8) rfl (HO.out.alloc _) ⟨wr.heap.size, 0, none⟩ 1 1 [V8 (lb n j)] rfl rfl (one_at _ _ _) (one_cell8 _) (by rw [leb_length]; unfold maxLen; omega) (by rw [leb_length]; omega) (by simp; omega) ?_; intro v' w1 ho hg _; have HO1 := Lib.hid ho; have HG1 := Lib.hid hg; clear ho hg)
        | fail)
      go_roundw
      case rel =>
        refine ⟨j + 1, by omega, by go_num, by rw [HN.out, u64_in _ (Nat.lt_of_le_of_lt (Nat.div_le_self _ _) HNN.out)], ?_, (HB.out.alloc (by omega) _).grown HG1.out (by simp; omega) (fun k hk => (HO.out.lt k hk).1)⟩
        have := HO1.out
        unfold OwnB
        rw [leb_succ, List.map_append, List.length_append]
        exact this
      case measure => simp [intOf]; omega
    · obtain rfl : j = k := by omega
      have HO := Lib.hid hown
      have HB := Lib.hid hbel
      clear hown hbel hlt hj hk hi hz0 hz1 hz2
      go_wp2
      go_ret
      exact ⟨_, rfl, HO.out, HB.out⟩
/-- The bytes, filled with noughts. -/
def fillOf (l : List (BitVec 8)) (n : Int) : List (BitVec 8) := l ++ List.replicate (n.toNat - l.length) 0#8
theorem zeros_v8 (k : Nat) : List.replicate k (Value.int .u8 0) = (List.replicate k 0#8).map V8 := by simp [N8]
theorem splice_fill (l : List (BitVec 8)) (M : Nat) : splice (List.replicate M (Value.int .u8 0)) 0 (l.map V8) = (l ++ List.replicate (M - l.length) 0#8).map V8 := by
  simp only [splice, List.take_zero, List.nil_append, Nat.zero_add, List.length_map, List.map_append, List.map_replicate, List.drop_replicate]
  rfl
theorem owns_all {w1 : World} {g B : Nat} {l : List (BitVec 8)} (h : w1.heap[g]? = some (.cells (l.map V8).toArray 5 (0, 0))) (hx : l.length ≤ maxLen) (hB : B ≤ g) : OwnB w1 B (.slice (some ⟨g, 0, none⟩) l.length l.length) l :=
  ⟨by simp, .inr ⟨g, l.length, _, rfl, hB, h, Nat.le_refl _, hx, by simp, List.take_of_length_le (by simp)⟩⟩

set_option maxRecDepth 100000 in
set_option maxHeartbeats 1000000 in
theorem fill_any (l : List (BitVec 8)) (sp : Option Addr) (cap : Nat) (n : Int) (w : World) (hl : l.length ≤ 100000) (hn : n ≤ 100000) (hS : SrcA w sp l) :
    Calls Tryd.prog 34 #[.slice sp l.length cap, .int .i64 n] w (RetOwn (fillOf l n) w) := by
  obtain ⟨i0, hi, hz0, hz1, hz2⟩ := info_parts infoB
  obtain ⟨L, hL⟩ : ∃ L, l.length = L := ⟨_, rfl⟩
  obtain ⟨M, hM, hM1, hM2⟩ : ∃ M : Nat, max n (L : Int) = (M : Int) ∧ L ≤ M ∧ M ≤ 100000 := ⟨(max n (L : Int)).toNat, by omega, by omega, by omega⟩
  have HF : Hid (fillOf l n = l ++ List.replicate (M - l.length) 0#8) := Lib.hid (by unfold fillOf; rw [hL]; congr 2; omega)
  have HN : Hid ((l ++ List.replicate (M - l.length) 0#8).length = M) := Lib.hid (by simp; omega)
  have hL' := hL
  have hl' := hl
  have HS := Lib.hid hS
  rw [hL] at hl ⊢
  have HL := Lib.hid hL
  have HM := Lib.hid hM
  clear hS hL hL' hM
  by_cases hlt : n < (L : Int)
  · obtain rfl : M = L := by have := HM.out; omega
    have HMIN : Hid ((l.map V8).length = Nat.min M M) := Lib.hid (by rw [List.length_map, HL.out]; simp)
    go_enter Tryd.func34, Tryd.ntmps34
    go_wp2_with (first
      | (at_make; refine wpList_makeLC rfl (.tmp 9) (.tmp 9) 30 rfl 5 i0 (.int .u8 0) Tryd.underlying30 hi hz0 rfl hz1 .i64 .i64 _ _ M M rfl rfl rfl rfl (Nat.le_refl _) (by rw [hz2]; omega) (by unfold maxLen; omega) ?_; intro w1 hb1 hb2; have HB1 := Lib.hid hb1; have HB2 := Lib.hid hb2; clear hb1 hb2)
      | (refine wpList_copy_splice rfl (.tmp 11) (.tmp 12) 30 30 rfl 5 Tryd.underlying30 sizeB (some ⟨w.heap.size, 0, none⟩) sp M M M cap rfl rfl w.heap.size 0 _ 5 HB1.out (l.map V8) (HMIN.out) (src_pos (HS.out.grown HB2.out)) (by rw [List.length_map, List.length_replicate]; have := HL.out; omega) (one_v8 l) w.heap.size w HB2.out (Nat.le_refl _) ?_; intro w2 hs2 hb3; have HP := Lib.hid hs2.out; have HB3 := Lib.hid hb3; clear hs2 hb3)
      | fail)
    go_ret
    refine ⟨_, rfl, ?_, HB3.out⟩
    rw [HF.out]
    have h1 := HP.out
    rw [splice_fill] at h1
    have h2 := owns_all h1 (by rw [HN.out]; unfold maxLen; omega) (Nat.le_refl _)
    unfold OwnB at h2
    rw [HN.out] at h2
    unfold OwnB
    rw [HN.out]
    exact h2
  · obtain rfl : n = (M : Int) := by have := HM.out; omega
    have HMIN : Hid ((l.map V8).length = Nat.min L M) := Lib.hid (by rw [List.length_map, HL.out]; show L = min L M; omega)
    go_enter Tryd.func34, Tryd.ntmps34
    go_wp2_with (first
      | (at_make; refine wpList_makeLC rfl (.tmp 9) (.tmp 9) 30 rfl 5 i0 (.int .u8 0) Tryd.underlying30 hi hz0 rfl hz1 .i64 .i64 _ _ M M rfl rfl rfl rfl (Nat.le_refl _) (by rw [hz2]; omega) (by unfold maxLen; omega) ?_; intro w1 hb1 hb2; have HB1 := Lib.hid hb1; have HB2 := Lib.hid hb2; clear hb1 hb2)
      | (refine wpList_copy_splice rfl (.tmp 11) (.tmp 12) 30 30 rfl 5 Tryd.underlying30 sizeB (some ⟨w.heap.size, 0, none⟩) sp M M L cap rfl rfl w.heap.size 0 _ 5 HB1.out (l.map V8) (HMIN.out) (src_pos (HS.out.grown HB2.out)) (by rw [List.length_map, List.length_replicate]; have := HL.out; omega) (one_v8 l) w.heap.size w HB2.out (Nat.le_refl _) ?_; intro w2 hs2 hb3; have HP := Lib.hid hs2.out; have HB3 := Lib.hid hb3; clear hs2 hb3)
      | fail)
    go_ret
    refine ⟨_, rfl, ?_, HB3.out⟩
    rw [HF.out]
    have h1 := HP.out
    rw [splice_fill] at h1
    have h2 := owns_all h1 (by rw [HN.out]; unfold maxLen; omega) (Nat.le_refl _)
    unfold OwnB at h2
    rw [HN.out] at h2
    unfold OwnB
    rw [HN.out]
    exact h2

set_option maxRecDepth 100000 in
set_option maxHeartbeats 1000000 in
theorem wFillR_any (l : List (BitVec 8)) (sp : Option Addr) (cap : Nat) (n : Int) (w : World) (hl : l.length ≤ 100000) (hn : n ≤ 100000) (hc : l.length ≤ cap) (hz : sp = none → cap = 0) (hS : SrcA w sp l) :
    Calls Tryd.prog 18 #[.slice sp l.length cap, .int .i64 n] w (RetOwn (fillOf l n) w) := by
  obtain ⟨i0, hi, hz0, hz1, hz2⟩ := info_parts infoB
  obtain ⟨L, hL⟩ : ∃ L, l.length = L := ⟨_, rfl⟩
  have HC := Lib.hid hc
  have HZ := Lib.hid hz
  have HS := Lib.hid hS
  rw [hL] at hl ⊢
  have HL := Lib.hid hL
  clear hS hL hc hz
  have HI : Hid (Tryd.prog.info? 5 = some i0) := Lib.hid hi
  have HZ0 := Lib.hid hz0
  have HZ1 := Lib.hid hz1
  have HZ2 := Lib.hid hz2
  clear hi hz0 hz1 hz2
  go_enter Tryd.func18, Tryd.ntmps18
  go_wp2_with (first
    | (at_builtin; refine wpList_append_nil rfl _ (.tmp 6) rfl rfl sp cap l (by rw [HL.out]; rfl) HC.out HZ.out HS.out (by have := HL.out; omega) ?_; intro v w1 hown hb _; have HO := Lib.hid hown; have HB := Lib.hid hb; clear hown hb)
    | fail)
  have HR : Hid (OwnB w1 w.heap.size v (l ++ List.replicate 0 0#8) ∧ Below w.heap.size w w1) := Lib.hid ⟨by simpa using HO.out, HB.out⟩
  clear HO HB
  go_loopw [5] (fun s wr => ∃ j : Nat, j ≤ n.toNat - L ∧ OwnB wr w.heap.size s (l ++ List.replicate j 0#8) ∧ Below w.heap.size w wr) (fun s _ => n.toNat - (match s with | .slice _ l _ => l | _ => 0))
  case atStart => exact ⟨0, by omega, HR.out⟩
  case round =>
    clear HR
    obtain ⟨j, hj, hown, hbel⟩ := hrel
    obtain ⟨sp1, cap1, rfl, hc1, hm1, _, _, _⟩ := OwnB.form hown
    have hlen : (l ++ List.replicate j 0#8).length = L + j := by simp [HL.out]
    have hown2 := hown
    unfold OwnB at hown2
    rw [hlen] at hown2 hc1 ⊢
    have HO := Lib.hid hown2
    have HB := Lib.hid hbel
    have HE := Lib.hid hlen
    have hbs := hbel.size
    clear hown hown2 hbel hlen
    by_cases hlt : ((L + j : Nat) : Int) < n
    · go_wp2_with (first
        | (at_builtin; refine wpList_append_own _ rfl (.tmp 12) (.tmp 13) 30 rfl w.heap.size 5 i0 (.int .u8 0) 1 1 Tryd.underlying30 HI.out HZ0.out HZ1.out HZ2.out rfl (by omega) _ (L + j) ((l ++ List.replicate j 0#8).map V8) rfl (HO.out.alloc _) ⟨wr.heap.size, 0, none⟩ 1 1 [V8 0#8] rfl rfl (one_at _ _ _) (one_cell8 _) (by unfold maxLen; omega) (by omega) (by simp; omega) ?_; intro v' w1 ho hg _; have HO1 := Lib.hid ho; have HG1 := Lib.hid hg; clear ho hg)
        | fail)
      have hO2 : OwnB w1 w.heap.size v' (l ++ List.replicate (j + 1) 0#8) := by
        have := HO1.out
        have e : (l ++ List.replicate (j + 1) 0#8).length = L + j + 1 := by simp [HL.out]; omega
        unfold OwnB
        rw [e, List.replicate_succ', ← List.append_assoc, List.map_append]
        exact this
      obtain ⟨sp2, cap2, rfl, _, _, _, _, _⟩ := OwnB.form hO2
      have e2 : (l ++ List.replicate (j + 1) 0#8).length = L + j + 1 := by simp [HL.out]; omega
      rw [e2] at hO2 HO1 ⊢
      have HO2 := Lib.hid hO2
      clear hO2 e2
      go_roundw
      case rel => exact ⟨j + 1, by omega, HO2.out, (HB.out.alloc (by omega) _).grown HG1.out (by simp; omega) (fun k hk => (HO.out.lt k hk).1)⟩
      case measure => simp; omega
    · have HF : Hid (fillOf l n = l ++ List.replicate j 0#8) := Lib.hid (by unfold fillOf; rw [HL.out]; congr 2; omega)
      go_wp2
      go_ret
      refine ⟨_, rfl, ?_, HB.out⟩
      rw [HF.out]
      unfold OwnB
      rw [HE.out]
      exact HO.out
end Go.Proofs.YtincpdnmaiimnaaDoor
