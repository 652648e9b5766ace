/- A reader: bytes; noughts. -/
import Derived.Test.YtkbkmfmekjpleaaDoorM04
namespace Go.Proofs.YtkbkmfmekjpleaaDoor
open Go.RowKit

def RawPost (H : Nat) (K : Nat → Prop) (l : List (BitVec 8)) (e : Nat) (n : Int) (w : World) (x : Ending) (w' : World) : Prop :=
  ∃ v, x = .returned v ∧ OwnB w' w.heap.size v (nextRes l e n).1 ∧ RdAt w' H K (nextRes l e n).2.1 (nextRes l e n).2.2 ∧ ButFor H w w'
theorem nextRes_le (l : List (BitVec 8)) (e : Nat) (n : Int) : (nextRes l e n).1.length ≤ l.length := by
  unfold nextRes
  split
  · simp
  · split
    · simp
    · simp; omega
theorem OwnB.mono {w : World} {B B' : Nat} {v : Value} {l : List (BitVec 8)} (h : OwnB w B v l) (hb : B' ≤ B) : OwnB w B' v l := by
  refine ⟨h.1, ?_⟩
  rcases h.2 with hn | ⟨g, cap, cur, rfl, hbg, rest⟩
  · exact .inl hn
  · exact .inr ⟨g, cap, cur, rfl, by omega, rest⟩
theorem raw_any (H : Nat) (l : List (BitVec 8)) (e : Nat) (n : Int) (w : World) {K : Nat → Prop} (hl : l.length ≤ 100000) (hR : RdAt w H K l e) :
    Calls Tryd.prog 51 #[.pointer (some ⟨H, 0, none⟩), .int .i64 n] w (RawPost H K l e n w) := by
  have HC := Lib.hid (next_any H l e n w hR)
  have hle := nextRes_le l e n
  clear hR
  go_enter Tryd.func51, Tryd.ntmps51
  go_wp2_with fail
  refine HC.out.mono ?_
  rintro x w1 ⟨sp, cap, rfl, hcap, hz, hS, hR, hB⟩
  have HS := Lib.hid hS
  have HR := Lib.hid hR
  have HB := Lib.hid hB
  have HZ := Lib.hid hz
  clear hS hR hB hz HC
  go_wp2_with fail
  refine (clone_any (nextRes l e n).1 sp cap w1 (by omega) HZ.out hcap HS.out.srcA).mono ?_
  rintro x w2 ⟨v, rfl, ho, hb⟩
  have HO := Lib.hid ho
  have HB2 := Lib.hid hb
  clear ho hb
  go_wp2
  go_ret
  exact ⟨_, rfl, HO.out.mono HB.out.size, HR.out.below HB2.out (Nat.le_refl _), HB.out.trans (ButFor.of_below HB2.out)⟩

/-- What noughts leave: the bytes, the error. -/
def nouOf (l : List (BitVec 8)) (e : Nat) (n : Int) : List (BitVec 8) × Nat :=
  ((nextRes l e n).2.1, if (nextRes l e n).1.all (· == 0#8) then (nextRes l e n).2.2 else 5)
theorem nextRes_ok (l : List (BitVec 8)) (e : Nat) (n : Int) (h : 0 < (nextRes l e n).1.length) : (nextRes l e n).2.2 = 0 := by
  unfold nextRes at *
  split at h
  · simp at h
  · split at h
    · simp at h
    · rename_i h1 h2; rw [if_neg h1, if_neg h2]
theorem all_take (l : List (BitVec 8)) (k : Nat) (hk : k < l.length) (h : (l.take k).all (· == 0#8) = true) (hx : l.getD k 0 = 0#8) : (l.take (k + 1)).all (· == 0#8) = true := by
  rw [val_take_succ l k hk, List.all_append, h, hx]; rfl
theorem all_no (l : List (BitVec 8)) (k : Nat) (hk : k < l.length) (hx : l.getD k 0 ≠ 0#8) : l.all (· == 0#8) = false := by
  rw [List.all_eq_false]
  refine ⟨l[k], List.getElem_mem hk, ?_⟩
  have : l.getD k 0 = l[k] := by simp [List.getD_eq_getElem?_getD, hk]
  rw [← this]
  simpa using hx
set_option maxRecDepth 100000 in
set_option maxHeartbeats 1000000 in
theorem noughts_any (H : Nat) (l : List (BitVec 8)) (e : Nat) (n : Int) (w : World) {K : Nat → Prop} (hl : l.length ≤ 100000) (hR : RdAt w H K l e) :
    Calls Tryd.prog 52 #[.pointer (some ⟨H, 0, none⟩), .int .i64 n] w (BadPost H K (nouOf l e n).1 (nouOf l e n).2 w) := by
  have HC := Lib.hid (next_any H l e n w hR)
  have hle := nextRes_le l e n
  have hok := nextRes_ok l e n
  obtain ⟨out, hout⟩ : ∃ o, (nextRes l e n).1 = o := ⟨_, rfl⟩
  obtain ⟨l1, hl1⟩ : ∃ o, (nextRes l e n).2.1 = o := ⟨_, rfl⟩
  obtain ⟨e1, he1⟩ : ∃ o, (nextRes l e n).2.2 = o := ⟨_, rfl⟩
  have hN1 : (nouOf l e n).1 = l1 := hl1
  have hN2 : (nouOf l e n).2 = if out.all (· == 0#8) then e1 else 5 := by unfold nouOf; rw [hout, he1]
  have HN1 := Lib.hid hN1
  have HN2 := Lib.hid hN2
  rw [hout] at hle hok
  rw [he1] at hok
  have HOK := Lib.hid hok
  have HO := Lib.hid (And.intro hout (And.intro hl1 he1))
  obtain ⟨N, hN⟩ : ∃ N, out.length = N := ⟨_, rfl⟩
  rw [hN] at hle
  have HN := Lib.hid hN
  clear hR hout hl1 he1 hN1 hN2 hok hN
  go_enter Tryd.func52, Tryd.ntmps52
  go_wp2_with fail
  refine HC.out.mono ?_
  rintro x w1 hN
  unfold NextPost at hN
  rw [HO.out.1, HO.out.2.1, HO.out.2.2, HN.out] at hN
  obtain ⟨sp, cap, rfl, hcap, hz, hS, hR, hB⟩ := hN
  have HS := Lib.hid hS
  have HR := Lib.hid hR
  have HB := Lib.hid hB
  clear hS hR hB hz HC hcap
  go_wp2_with fail
  go_loop [10] (fun i => ∃ k : Nat, k ≤ N ∧ i = .int .i64 k ∧ (out.take k).all (· == 0#8) = true) (fun i => N - (intOf i).toNat)
  case atStart => exact ⟨0, by omega, rfl, by simp⟩
  case round =>
    obtain ⟨k, hk, rfl, hall⟩ := hrel
    by_cases hlt : k < N
    · obtain ⟨g, o, rfl, hgH, hg, hcell⟩ := HS.out (by rw [HN.out]; omega)
      have cx := hcell k (by rw [HN.out]; exact hlt)
      have HT := Lib.hid (all_take out k (by rw [HN.out]; exact hlt) hall)
      have HF := Lib.hid (all_no out k (by rw [HN.out]; exact hlt))
      obtain ⟨x, hx⟩ : ∃ x, out.getD k 0 = x := ⟨_, rfl⟩
      rw [hx] at cx HT HF
      have HALL := Lib.hid hall
      clear hx hcell hg hgH hall
      by_cases h0 : x = 0#8
      · subst h0
        have cx0 : w1.cell? ⟨g, o + k, none⟩ = some (.int .u8 0) := cx
        clear cx
        go_wp2
        go_round
        case rel => exact ⟨k + 1, by omega, by go_num, HT.out rfl⟩
        case measure => simp [intOf]; omega
      · have b1 : (N8 x != 0) = true := by rw [bne_iff_ne]; intro h; exact h0 (n8_inj (show N8 x = N8 0#8 from h))
        have b2 : (N8 x == 0) = false := by rw [beq_eq_false_iff_ne]; intro h; exact h0 (n8_inj (show N8 x = N8 0#8 from h))
        have b3 : ¬ N8 x = 0 := fun h => h0 (n8_inj (show N8 x = N8 0#8 from h))
        have HP : Hid ((nouOf l e n).2 = badOf e1) := Lib.hid (by rw [HN2.out, if_neg (by rw [HF.out h0]; simp), HOK.out (by rw [HN.out]; omega)]; rfl)
        clear h0
        go_wp2_with (go_at_call 53; refine (bad_any H l1 e1 _ HR.out).mono ?_; rintro x w2 ⟨rfl, h1, h2⟩; have H1 := Lib.hid h1; have H2 := Lib.hid h2; clear h1 h2)
        go_end0
        exact ⟨rfl, by rw [HN1.out, HP.out]; exact H1.out, HB.out.trans H2.out⟩
    · obtain rfl : k = N := by omega
      have HP : Hid ((nouOf l e n).2 = e1) := Lib.hid (by rw [HN2.out, if_pos]; rw [List.take_of_length_le (by have := HN.out; omega)] at hall; exact hall)
      clear hlt hk hall
      go_wp2
      go_end0
      exact ⟨rfl, by rw [HN1.out, HP.out]; exact HR.out, HB.out⟩
end Go.Proofs.YtkbkmfmekjpleaaDoor
/- No reader. -/
namespace Go.Proofs.YtkbkmfmekjpleaaDoor
open Go.RowKit

end Go.Proofs.YtkbkmfmekjpleaaDoor
/- Bytes that are put: the document's number, the fillings. -/
namespace Go.Proofs.YtkbkmfmekjpleaaDoor
open Go.RowKit

theorem lb_div (n j : Nat) : lb n j = BitVec.ofNat 8 (n / 2 ^ (8 * j) % 256) := by
  apply BitVec.eq_of_toNat_eq
  simp [lb]
theorem pow_step (n j : Nat) : n / 2 ^ (8 * j) / 256 = n / 2 ^ (8 * (j + 1)) := by
  rw [Nat.div_div_eq_div_mul, show 8 * (j + 1) = 8 * j + 8 by omega, Nat.pow_add]
theorem u8_of (m : Nat) : IntKind.u8.wrap ((m % 256 : Nat) : Int) = N8 (BitVec.ofNat 8 (m % 256)) := by
  unfold N8; rw [IntKind.wrap_u8', BitVec.toNat_ofNat]; simp

set_option maxRecDepth 100000 in
set_option maxHeartbeats 1000000 in
theorem wNum_any (n k : Nat) (w : World) (hk : k ≤ 8) (hn : n < 18446744073709551616) :
    Calls Tryd.prog 102 #[.int .u64 (n : Int), .int .i64 (k : Int)] w (RetOwn (leb n k) w) := by
  obtain ⟨i0, hi, hz0, hz1, hz2⟩ := info_parts infoB
  have HNN := Lib.hid hn
  clear hn
  go_enter Tryd.func102, Tryd.ntmps102
  go_wp2
  go_loopw [0, 5, 6] (fun m s i wr => ∃ j : Nat, j ≤ k ∧ i = .int .i64 j ∧ m = .int .u64 ((n / 2 ^ (8 * j) : Nat) : Int) ∧ OwnB wr w.heap.size s (leb n j) ∧ Below w.heap.size w wr) (fun _ _ i _ => k - (intOf i).toNat)
  case atStart => exact ⟨0, by omega, rfl, by simp, World.ownsRow_nil _ _ _ _, Below.refl _ _⟩
  case round =>
    obtain ⟨j, hj, rfl, rfl, hown, hbel⟩ := hrel
    by_cases hlt : j < k
    · obtain ⟨m, hm⟩ : ∃ m, n / 2 ^ (8 * j) = m := ⟨_, rfl⟩
      rw [hm]
      have r1 : (m : Int) % 256 = ((m % 256 : Nat) : Int) := by omega
      have r2 : (m : Int).tmod 256 = ((m % 256 : Nat) : Int) := by rw [Int.tmod_eq_emod_of_nonneg (by omega)]; omega
      have r3 : IntKind.u8.wrap ((m % 256 : Nat) : Int) = N8 (lb n j) := by rw [u8_of, ← hm, ← lb_div]
      have r4 : (m : Int) / 256 = ((m / 256 : Nat) : Int) := by omega
      have r5 : (m : Int).tdiv 256 = ((m / 256 : Nat) : Int) := by rw [Int.tdiv_eq_ediv_of_nonneg (by omega)]; omega
      have HN : Hid (m / 256 = n / 2 ^ (8 * (j + 1))) := Lib.hid (by rw [← hm, pow_step])
      generalize m % 256 = q at *
      generalize m / 256 = d at *
      have HO := Lib.hid hown
      have HB := Lib.hid hbel
      have hbs := hbel.size
      clear hm hown hbel
      go_wp2_with (first
        | (at_builtin; refine wpList_append_own _ rfl (.tmp 12) (.tmp 16) 41 rfl w.heap.size 5 i0 (.int .u8 0) 1 1 Tryd.underlying41 hi hz0 hz1 hz2 rfl (by omega) _ (leb n j).length ((leb n j).map V8) rfl (HO.out.alloc _) ⟨wr.heap.size, 0, none⟩ 1 1 [V8 (lb n j)] rfl rfl (one_at _ _ _) (one_cell8 _) (by rw [leb_length]; unfold maxLen; omega) (by rw [leb_length]; omega) (by simp; omega) ?_; intro v' w1 ho hg _; have HO1 := Lib.hid ho; have HG1 := Lib.hid hg; clear ho hg)
        | fail)
      go_roundw
      case rel =>
        refine ⟨j + 1, by omega, by go_num, by rw [HN.out, u64_in _ (Nat.lt_of_le_of_lt (Nat.div_le_self _ _) HNN.out)], ?_, (HB.out.alloc (by omega) _).grown HG1.out (by simp; omega) (fun k hk => (HO.out.lt k hk).1)⟩
        have := HO1.out
        unfold OwnB
        rw [leb_succ, List.map_append, List.length_append]
        exact this
      case measure => simp [intOf]; omega
    · obtain rfl : j = k := by omega
      have HO := Lib.hid hown
      have HB := Lib.hid hbel
      clear hown hbel hlt hj hk hi hz0 hz1 hz2
      go_wp2
      go_ret
      exact ⟨_, rfl, HO.out, HB.out⟩
/-- The bytes, filled with noughts. -/
def fillOf (l : List (BitVec 8)) (n : Int) : List (BitVec 8) := l ++ List.replicate (n.toNat - l.length) 0#8
theorem splice_fill (l : List (BitVec 8)) (M : Nat) : splice (List.replicate M (Value.int .u8 0)) 0 (l.map V8) = (l ++ List.replicate (M - l.length) 0#8).map V8 := by
  simp only [splice, List.take_zero, List.nil_append, Nat.zero_add, List.length_map, List.map_append, List.map_replicate, List.drop_replicate]
  rfl
theorem owns_all {w1 : World} {g B : Nat} {l : List (BitVec 8)} (h : w1.heap[g]? = some (.cells (l.map V8).toArray 5 (0, 0))) (hx : l.length ≤ maxLen) (hB : B ≤ g) : OwnB w1 B (.slice (some ⟨g, 0, none⟩) l.length l.length) l :=
  ⟨by simp, .inr ⟨g, l.length, _, rfl, hB, h, Nat.le_refl _, hx, by simp, List.take_of_length_le (by simp)⟩⟩

set_option maxRecDepth 100000 in
set_option maxHeartbeats 1000000 in
theorem fill_any (l : List (BitVec 8)) (sp : Option Addr) (cap : Nat) (n : Int) (w : World) (hl : l.length ≤ 100000) (hn : n ≤ 100000) (hS : SrcA w sp l) :
    Calls Tryd.prog 60 #[.slice sp l.length cap, .int .i64 n] w (RetOwn (fillOf l n) w) := by
  obtain ⟨i0, hi, hz0, hz1, hz2⟩ := info_parts infoB
  obtain ⟨L, hL⟩ : ∃ L, l.length = L := ⟨_, rfl⟩
  obtain ⟨M, hM, hM1, hM2⟩ : ∃ M : Nat, max n (L : Int) = (M : Int) ∧ L ≤ M ∧ M ≤ 100000 := ⟨(max n (L : Int)).toNat, by omega, by omega, by omega⟩
  have HF : Hid (fillOf l n = l ++ List.replicate (M - l.length) 0#8) := Lib.hid (by unfold fillOf; rw [hL]; congr 2; omega)
  have HN : Hid ((l ++ List.replicate (M - l.length) 0#8).length = M) := Lib.hid (by simp; omega)
  have hL' := hL
  have hl' := hl
  have HS := Lib.hid hS
  rw [hL] at hl ⊢
  have HL := Lib.hid hL
  have HM := Lib.hid hM
  clear hS hL hL' hM
  by_cases hlt : n < (L : Int)
  · obtain rfl : M = L := by have := HM.out; omega
    have HMIN : Hid ((l.map V8).length = Nat.min M M) := Lib.hid (by rw [List.length_map, HL.out]; simp)
    go_enter Tryd.func60, Tryd.ntmps60
    go_wp2_with (first
      | (at_make; refine wpList_makeLC rfl (.tmp 9) (.tmp 9) 41 rfl 5 i0 (.int .u8 0) Tryd.underlying41 hi hz0 rfl hz1 .i64 .i64 _ _ M M rfl rfl rfl rfl (Nat.le_refl _) (by rw [hz2]; omega) (by unfold maxLen; omega) ?_; intro w1 hb1 hb2; have HB1 := Lib.hid hb1; have HB2 := Lib.hid hb2; clear hb1 hb2)
      | (refine wpList_copy_splice rfl (.tmp 11) (.tmp 12) 41 41 rfl 5 Tryd.underlying41 sizeB (some ⟨w.heap.size, 0, none⟩) sp M M M cap rfl rfl w.heap.size 0 _ 5 HB1.out (l.map V8) (HMIN.out) (src_pos (HS.out.grown HB2.out)) (by rw [List.length_map, List.length_replicate]; have := HL.out; omega) (one_v8 l) w.heap.size w HB2.out (Nat.le_refl _) ?_; intro w2 hs2 hb3; have HP := Lib.hid hs2.out; have HB3 := Lib.hid hb3; clear hs2 hb3)
      | fail)
    go_ret
    refine ⟨_, rfl, ?_, HB3.out⟩
    rw [HF.out]
    have h1 := HP.out
    rw [splice_fill] at h1
    have h2 := owns_all h1 (by rw [HN.out]; unfold maxLen; omega) (Nat.le_refl _)
    unfold OwnB at h2
    rw [HN.out] at h2
    unfold OwnB
    rw [HN.out]
    exact h2
  · obtain rfl : n = (M : Int) := by have := HM.out; omega
    have HMIN : Hid ((l.map V8).length = Nat.min L M) := Lib.hid (by rw [List.length_map, HL.out]; show L = min L M; omega)
    go_enter Tryd.func60, Tryd.ntmps60
    go_wp2_with (first
      | (at_make; refine wpList_makeLC rfl (.tmp 9) (.tmp 9) 41 rfl 5 i0 (.int .u8 0) Tryd.underlying41 hi hz0 rfl hz1 .i64 .i64 _ _ M M rfl rfl rfl rfl (Nat.le_refl _) (by rw [hz2]; omega) (by unfold maxLen; omega) ?_; intro w1 hb1 hb2; have HB1 := Lib.hid hb1; have HB2 := Lib.hid hb2; clear hb1 hb2)
      | (refine wpList_copy_splice rfl (.tmp 11) (.tmp 12) 41 41 rfl 5 Tryd.underlying41 sizeB (some ⟨w.heap.size, 0, none⟩) sp M M L cap rfl rfl w.heap.size 0 _ 5 HB1.out (l.map V8) (HMIN.out) (src_pos (HS.out.grown HB2.out)) (by rw [List.length_map, List.length_replicate]; have := HL.out; omega) (one_v8 l) w.heap.size w HB2.out (Nat.le_refl _) ?_; intro w2 hs2 hb3; have HP := Lib.hid hs2.out; have HB3 := Lib.hid hb3; clear hs2 hb3)
      | fail)
    go_ret
    refine ⟨_, rfl, ?_, HB3.out⟩
    rw [HF.out]
    have h1 := HP.out
    rw [splice_fill] at h1
    have h2 := owns_all h1 (by rw [HN.out]; unfold maxLen; omega) (Nat.le_refl _)
    unfold OwnB at h2
    rw [HN.out] at h2
    unfold OwnB
    rw [HN.out]
    exact h2

set_option maxRecDepth 100000 in
set_option maxHeartbeats 1000000 in
theorem wFillR_any (l : List (BitVec 8)) (sp : Option Addr) (cap : Nat) (n : Int) (w : World) (hl : l.length ≤ 100000) (hn : n ≤ 100000) (hc : l.length ≤ cap) (hz : sp = none → cap = 0) (hS : SrcA w sp l) :
    Calls Tryd.prog 103 #[.slice sp l.length cap, .int .i64 n] w (RetOwn (fillOf l n) w) := by
  obtain ⟨i0, hi, hz0, hz1, hz2⟩ := info_parts infoB
  obtain ⟨L, hL⟩ : ∃ L, l.length = L := ⟨_, rfl⟩
  have HC := Lib.hid hc
  have HZ := Lib.hid hz
  have HS := Lib.hid hS
  rw [hL] at hl ⊢
  have HL := Lib.hid hL
  clear hS hL hc hz
  have HI : Hid (Tryd.prog.info? 5 = some i0) := Lib.hid hi
  have HZ0 := Lib.hid hz0
  have HZ1 := Lib.hid hz1
  have HZ2 := Lib.hid hz2
  clear hi hz0 hz1 hz2
  go_enter Tryd.func103, Tryd.ntmps103
  go_wp2_with (first
    | (at_builtin; refine wpList_append_nil rfl _ (.tmp 6) rfl rfl sp cap l (by rw [HL.out]; rfl) HC.out HZ.out HS.out (by have := HL.out; omega) ?_; intro v w1 hown hb _; have HO := Lib.hid hown; have HB := Lib.hid hb; clear hown hb)
    | fail)
  have HR : Hid (OwnB w1 w.heap.size v (l ++ List.replicate 0 0#8) ∧ Below w.heap.size w w1) := Lib.hid ⟨by simpa using HO.out, HB.out⟩
  clear HO HB
  go_loopw [5] (fun s wr => ∃ j : Nat, j ≤ n.toNat - L ∧ OwnB wr w.heap.size s (l ++ List.replicate j 0#8) ∧ Below w.heap.size w wr) (fun s _ => n.toNat - (match s with | .slice _ l _ => l | _ => 0))
  case atStart => exact ⟨0, by omega, HR.out⟩
  case round =>
    clear HR
    obtain ⟨j, hj, hown, hbel⟩ := hrel
    obtain ⟨sp1, cap1, rfl, hc1, hm1, _, _, _⟩ := OwnB.form hown
    have hlen : (l ++ List.replicate j 0#8).length = L + j := by simp [HL.out]
    have hown2 := hown
    unfold OwnB at hown2
    rw [hlen] at hown2 hc1 ⊢
    have HO := Lib.hid hown2
    have HB := Lib.hid hbel
    have HE := Lib.hid hlen
    have hbs := hbel.size
    clear hown hown2 hbel hlen
    by_cases hlt : ((L + j : Nat) : Int) < n
    · go_wp2_with (first
        | (at_builtin; refine wpList_append_own _ rfl (.tmp 12) (.tmp 13) 41 rfl w.heap.size 5 i0 (.int .u8 0) 1 1 Tryd.underlying41 HI.out HZ0.out HZ1.out HZ2.out rfl (by omega) _ (L + j) ((l ++ List.replicate j 0#8).map V8) rfl (HO.out.alloc _) ⟨wr.heap.size, 0, none⟩ 1 1 [V8 0#8] rfl rfl (one_at _ _ _) (one_cell8 _) (by unfold maxLen; omega) (by omega) (by simp; omega) ?_; intro v' w1 ho hg _; have HO1 := Lib.hid ho; have HG1 := Lib.hid hg; clear ho hg)
        | fail)
      have hO2 : OwnB w1 w.heap.size v' (l ++ List.replicate (j + 1) 0#8) := by
        have := HO1.out
        have e : (l ++ List.replicate (j + 1) 0#8).length = L + j + 1 := by simp [HL.out]; omega
        unfold OwnB
        rw [e, List.replicate_succ', ← List.append_assoc, List.map_append]
        exact this
      obtain ⟨sp2, cap2, rfl, _, _, _, _, _⟩ := OwnB.form hO2
      have e2 : (l ++ List.replicate (j + 1) 0#8).length = L + j + 1 := by simp [HL.out]; omega
      rw [e2] at hO2 HO1 ⊢
      have HO2 := Lib.hid hO2
      clear hO2 e2
      go_roundw
      case rel => exact ⟨j + 1, by omega, HO2.out, (HB.out.alloc (by omega) _).grown HG1.out (by simp; omega) (fun k hk => (HO.out.lt k hk).1)⟩
      case measure => simp; omega
    · have HF : Hid (fillOf l n = l ++ List.replicate j 0#8) := Lib.hid (by unfold fillOf; rw [HL.out]; congr 2; omega)
      go_wp2
      go_ret
      refine ⟨_, rfl, ?_, HB.out⟩
      rw [HF.out]
      unfold OwnB
      rw [HE.out]
      exact HO.out
end Go.Proofs.YtkbkmfmekjpleaaDoor
