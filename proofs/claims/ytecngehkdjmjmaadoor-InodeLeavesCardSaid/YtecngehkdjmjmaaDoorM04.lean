/- A reader: bytes; noughts. -/
import Derived.Test.YtecngehkdjmjmaaDoorM03
namespace Go.Proofs.YtecngehkdjmjmaaDoor
open Go.RowKit

def RawPost (H : Nat) (K : Nat → Prop) (l : List (BitVec 8)) (e : Nat) (n : Int) (w : World) (x : Ending) (w' : World) : Prop :=
  ∃ v, x = .returned v ∧ OwnB w' w.heap.size v (nextRes l e n).1 ∧ RdAt w' H K (nextRes l e n).2.1 (nextRes l e n).2.2 ∧ ButFor H w w'
theorem nextRes_le (l : List (BitVec 8)) (e : Nat) (n : Int) : (nextRes l e n).1.length ≤ l.length := by
  unfold nextRes
  split
  · simp
  · split
    · simp
    · simp; omega
theorem OwnB.mono {w : World} {B B' : Nat} {v : Value} {l : List (BitVec 8)} (h : OwnB w B v l) (hb : B' ≤ B) : OwnB w B' v l := by
  refine ⟨h.1, ?_⟩
  rcases h.2 with hn | ⟨g, cap, cur, rfl, hbg, rest⟩
  · exact .inl hn
  · exact .inr ⟨g, cap, cur, rfl, by omega, rest⟩
theorem raw_any (H : Nat) (l : List (BitVec 8)) (e : Nat) (n : Int) (w : World) {K : Nat → Prop} (hl : l.length ≤ 100000) (hR : RdAt w H K l e) :
    Calls Tryd.prog 56 #[.pointer (some ⟨H, 0, none⟩), .int .i64 n] w (RawPost H K l e n w) := by
  have HC := Lib.hid (next_any H l e n w hR)
  have hle := nextRes_le l e n
  clear hR
  go_enter Tryd.func56, Tryd.ntmps56
  go_wp2_with fail
  refine HC.out.mono ?_
  rintro x w1 ⟨sp, cap, rfl, hcap, hz, hS, hR, hB⟩
  have HS := Lib.hid hS
  have HR := Lib.hid hR
  have HB := Lib.hid hB
  have HZ := Lib.hid hz
  clear hS hR hB hz HC
  go_wp2_with fail
  refine (clone_any (nextRes l e n).1 sp cap w1 (by omega) HZ.out hcap HS.out.srcA).mono ?_
  rintro x w2 ⟨v, rfl, ho, hb⟩
  have HO := Lib.hid ho
  have HB2 := Lib.hid hb
  clear ho hb
  go_wp2
  go_ret
  exact ⟨_, rfl, HO.out.mono HB.out.size, HR.out.below HB2.out (Nat.le_refl _), HB.out.trans (ButFor.of_below HB2.out)⟩

/-- What noughts leave: the bytes, the error. -/
def nouOf (l : List (BitVec 8)) (e : Nat) (n : Int) : List (BitVec 8) × Nat :=
  ((nextRes l e n).2.1, if (nextRes l e n).1.all (· == 0#8) then (nextRes l e n).2.2 else 5)
theorem nextRes_ok (l : List (BitVec 8)) (e : Nat) (n : Int) (h : 0 < (nextRes l e n).1.length) : (nextRes l e n).2.2 = 0 := by
  unfold nextRes at *
  split at h
  · simp at h
  · split at h
    · simp at h
    · rename_i h1 h2; rw [if_neg h1, if_neg h2]
theorem all_take (l : List (BitVec 8)) (k : Nat) (hk : k < l.length) (h : (l.take k).all (· == 0#8) = true) (hx : l.getD k 0 = 0#8) : (l.take (k + 1)).all (· == 0#8) = true := by
  rw [val_take_succ l k hk, List.all_append, h, hx]; rfl
theorem all_no (l : List (BitVec 8)) (k : Nat) (hk : k < l.length) (hx : l.getD k 0 ≠ 0#8) : l.all (· == 0#8) = false := by
  rw [List.all_eq_false]
  refine ⟨l[k], List.getElem_mem hk, ?_⟩
  have : l.getD k 0 = l[k] := by simp [List.getD_eq_getElem?_getD, hk]
  rw [← this]
  simpa using hx
set_option maxRecDepth 100000 in
set_option maxHeartbeats 1000000 in
theorem noughts_any (H : Nat) (l : List (BitVec 8)) (e : Nat) (n : Int) (w : World) {K : Nat → Prop} (hl : l.length ≤ 100000) (hR : RdAt w H K l e) :
    Calls Tryd.prog 36 #[.pointer (some ⟨H, 0, none⟩), .int .i64 n] w (BadPost H K (nouOf l e n).1 (nouOf l e n).2 w) := by
  have HC := Lib.hid (next_any H l e n w hR)
  have hle := nextRes_le l e n
  have hok := nextRes_ok l e n
  obtain ⟨out, hout⟩ : ∃ o, (nextRes l e n).1 = o := ⟨_, rfl⟩
  obtain ⟨l1, hl1⟩ : ∃ o, (nextRes l e n).2.1 = o := ⟨_, rfl⟩
  obtain ⟨e1, he1⟩ : ∃ o, (nextRes l e n).2.2 = o := ⟨_, rfl⟩
  have hN1 : (nouOf l e n).1 = l1 := hl1
  have hN2 : (nouOf l e n).2 = if out.all (· == 0#8) then e1 else 5 := by unfold nouOf; rw [hout, he1]
  have HN1 := Lib.hid hN1
  have HN2 := Lib.hid hN2
  rw [hout] at hle hok
  rw [he1] at hok
  have HOK := Lib.hid hok
  have HO := Lib.hid (And.intro hout (And.intro hl1 he1))
  obtain ⟨N, hN⟩ : ∃ N, out.length = N := ⟨_, rfl⟩
  rw [hN] at hle
  have HN := Lib.hid hN
  clear hR hout hl1 he1 hN1 hN2 hok hN
  go_enter Tryd.func36, Tryd.ntmps36
  go_wp2_with fail
  refine HC.out.mono ?_
  rintro x w1 hN
  unfold NextPost at hN
  rw [HO.out.1, HO.out.2.1, HO.out.2.2, HN.out] at hN
  obtain ⟨sp, cap, rfl, hcap, hz, hS, hR, hB⟩ := hN
  have HS := Lib.hid hS
  have HR := Lib.hid hR
  have HB := Lib.hid hB
  clear hS hR hB hz HC hcap
  go_wp2_with fail
  go_loop [10] (fun i => ∃ k : Nat, k ≤ N ∧ i = .int .i64 k ∧ (out.take k).all (· == 0#8) = true) (fun i => N - (intOf i).toNat)
  case atStart => exact ⟨0, by omega, rfl, by simp⟩
  case round =>
    obtain ⟨k, hk, rfl, hall⟩ := hrel
    by_cases hlt : k < N
    · obtain ⟨g, o, rfl, hgH, hg, hcell⟩ := HS.out (by rw [HN.out]; omega)
      have cx := hcell k (by rw [HN.out]; exact hlt)
      have HT := Lib.hid (all_take out k (by rw [HN.out]; exact hlt) hall)
      have HF := Lib.hid (all_no out k (by rw [HN.out]; exact hlt))
      obtain ⟨x, hx⟩ : ∃ x, out.getD k 0 = x := ⟨_, rfl⟩
      rw [hx] at cx HT HF
      have HALL := Lib.hid hall
      clear hx hcell hg hgH hall
      by_cases h0 : x = 0#8
      · subst h0
        have cx0 : w1.cell? ⟨g, o + k, none⟩ = some (.int .u8 0) := cx
        clear cx
        go_wp2
        go_round
        case rel => exact ⟨k + 1, by omega, by go_num, HT.out rfl⟩
        case measure => simp [intOf]; omega
      · have b1 : (N8 x != 0) = true := by rw [bne_iff_ne]; intro h; exact h0 (n8_inj (show N8 x = N8 0#8 from h))
        have b2 : (N8 x == 0) = false := by rw [beq_eq_false_iff_ne]; intro h; exact h0 (n8_inj (show N8 x = N8 0#8 from h))
        have b3 : ¬ N8 x = 0 := fun h => h0 (n8_inj (show N8 x = N8 0#8 from h))
        have HP : Hid ((nouOf l e n).2 = badOf e1) := Lib.hid (by rw [HN2.out, if_neg (by rw [HF.out h0]; simp), HOK.out (by rw [HN.out]; omega)]; rfl)
        clear h0
        go_wp2_with (go_at_call 41; refine (bad_any H l1 e1 _ HR.out).mono ?_; rintro x w2 ⟨rfl, h1, h2⟩; have H1 := Lib.hid h1; have H2 := Lib.hid h2; clear h1 h2)
        go_end0
        exact ⟨rfl, by rw [HN1.out, HP.out]; exact H1.out, HB.out.trans H2.out⟩
    · obtain rfl : k = N := by omega
      have HP : Hid ((nouOf l e n).2 = e1) := Lib.hid (by rw [HN2.out, if_pos]; rw [List.take_of_length_le (by have := HN.out; omega)] at hall; exact hall)
      clear hlt hk hall
      go_wp2
      go_end0
      exact ⟨rfl, by rw [HN1.out, HP.out]; exact HR.out, HB.out⟩
end Go.Proofs.YtecngehkdjmjmaaDoor
/- No reader. -/
namespace Go.Proofs.YtecngehkdjmjmaaDoor
open Go.RowKit

end Go.Proofs.YtecngehkdjmjmaaDoor
/- Bytes that are put: the document's number, the fillings. -/
namespace Go.Proofs.YtecngehkdjmjmaaDoor
open Go.RowKit

/-- The bytes, filled with noughts. -/
def fillOf (l : List (BitVec 8)) (n : Int) : List (BitVec 8) := l ++ List.replicate (n.toNat - l.length) 0#8
theorem splice_fill (l : List (BitVec 8)) (M : Nat) : splice (List.replicate M (Value.int .u8 0)) 0 (l.map V8) = (l ++ List.replicate (M - l.length) 0#8).map V8 := by
  simp only [splice, List.take_zero, List.nil_append, Nat.zero_add, List.length_map, List.map_append, List.map_replicate, List.drop_replicate]
  rfl
theorem owns_all {w1 : World} {g B : Nat} {l : List (BitVec 8)} (h : w1.heap[g]? = some (.cells (l.map V8).toArray 5 (0, 0))) (hx : l.length ≤ maxLen) (hB : B ≤ g) : OwnB w1 B (.slice (some ⟨g, 0, none⟩) l.length l.length) l :=
  ⟨by simp, .inr ⟨g, l.length, _, rfl, hB, h, Nat.le_refl _, hx, by simp, List.take_of_length_le (by simp)⟩⟩

set_option maxRecDepth 100000 in
set_option maxHeartbeats 1000000 in
theorem fill_any (l : List (BitVec 8)) (sp : Option Addr) (cap : Nat) (n : Int) (w : World) (hl : l.length ≤ 100000) (hn : n ≤ 100000) (hS : SrcA w sp l) :
    Calls Tryd.prog 30 #[.slice sp l.length cap, .int .i64 n] w (RetOwn (fillOf l n) w) := by
  obtain ⟨i0, hi, hz0, hz1, hz2⟩ := info_parts infoB
  obtain ⟨L, hL⟩ : ∃ L, l.length = L := ⟨_, rfl⟩
  obtain ⟨M, hM, hM1, hM2⟩ : ∃ M : Nat, max n (L : Int) = (M : Int) ∧ L ≤ M ∧ M ≤ 100000 := ⟨(max n (L : Int)).toNat, by omega, by omega, by omega⟩
  have HF : Hid (fillOf l n = l ++ List.replicate (M - l.length) 0#8) := Lib.hid (by unfold fillOf; rw [hL]; congr 2; omega)
  have HN : Hid ((l ++ List.replicate (M - l.length) 0#8).length = M) := Lib.hid (by simp; omega)
  have hL' := hL
  have hl' := hl
  have HS := Lib.hid hS
  rw [hL] at hl ⊢
  have HL := Lib.hid hL
  have HM := Lib.hid hM
  clear hS hL hL' hM
  by_cases hlt : n < (L : Int)
  · obtain rfl : M = L := by have := HM.out; omega
    have HMIN : Hid ((l.map V8).length = Nat.min M M) := Lib.hid (by rw [List.length_map, HL.out]; simp)
    go_enter Tryd.func30, Tryd.ntmps30
    go_wp2_with (first
      | (at_make; refine wpList_makeLC rfl (.tmp 9) (.tmp 9) 38 rfl 5 i0 (.int .u8 0) Tryd.underlying38 hi hz0 rfl hz1 .i64 .i64 _ _ M M rfl rfl rfl rfl (Nat.le_refl _) (by rw [hz2]; omega) (by unfold maxLen; omega) ?_; intro w1 hb1 hb2; have HB1 := Lib.hid hb1; have HB2 := Lib.hid hb2; clear hb1 hb2)
      | (refine wpList_copy_splice rfl (.tmp 11) (.tmp 12) 38 38 rfl 5 Tryd.underlying38 sizeB (some ⟨w.heap.size, 0, none⟩) sp M M M cap rfl rfl w.heap.size 0 _ 5 HB1.out (l.map V8) (HMIN.out) (src_pos (HS.out.grown HB2.out)) (by rw [List.length_map, List.length_replicate]; have := HL.out; omega) (one_v8 l) w.heap.size w HB2.out (Nat.le_refl _) ?_; intro w2 hs2 hb3; have HP := Lib.hid hs2.out; have HB3 := Lib.hid hb3; clear hs2 hb3)
      | fail)
    go_ret
    refine ⟨_, rfl, ?_, HB3.out⟩
    rw [HF.out]
    have h1 := HP.out
    rw [splice_fill] at h1
    have h2 := owns_all h1 (by rw [HN.out]; unfold maxLen; omega) (Nat.le_refl _)
    unfold OwnB at h2
    rw [HN.out] at h2
    unfold OwnB
    rw [HN.out]
    exact h2
  · obtain rfl : n = (M : Int) := by have := HM.out; omega
    have HMIN : Hid ((l.map V8).length = Nat.min L M) := Lib.hid (by rw [List.length_map, HL.out]; show L = min L M; omega)
    go_enter Tryd.func30, Tryd.ntmps30
    go_wp2_with (first
      | (at_make; refine wpList_makeLC rfl (.tmp 9) (.tmp 9) 38 rfl 5 i0 (.int .u8 0) Tryd.underlying38 hi hz0 rfl hz1 .i64 .i64 _ _ M M rfl rfl rfl rfl (Nat.le_refl _) (by rw [hz2]; omega) (by unfold maxLen; omega) ?_; intro w1 hb1 hb2; have HB1 := Lib.hid hb1; have HB2 := Lib.hid hb2; clear hb1 hb2)
      | (refine wpList_copy_splice rfl (.tmp 11) (.tmp 12) 38 38 rfl 5 Tryd.underlying38 sizeB (some ⟨w.heap.size, 0, none⟩) sp M M L cap rfl rfl w.heap.size 0 _ 5 HB1.out (l.map V8) (HMIN.out) (src_pos (HS.out.grown HB2.out)) (by rw [List.length_map, List.length_replicate]; have := HL.out; omega) (one_v8 l) w.heap.size w HB2.out (Nat.le_refl _) ?_; intro w2 hs2 hb3; have HP := Lib.hid hs2.out; have HB3 := Lib.hid hb3; clear hs2 hb3)
      | fail)
    go_ret
    refine ⟨_, rfl, ?_, HB3.out⟩
    rw [HF.out]
    have h1 := HP.out
    rw [splice_fill] at h1
    have h2 := owns_all h1 (by rw [HN.out]; unfold maxLen; omega) (Nat.le_refl _)
    unfold OwnB at h2
    rw [HN.out] at h2
    unfold OwnB
    rw [HN.out]
    exact h2

end Go.Proofs.YtecngehkdjmjmaaDoor
/- Pointers, plain: their cells, their bytes; the pointer of bytes; whether one may be; its copies. -/
namespace Go.Proofs.YtecngehkdjmjmaaDoor
open Go.RowKit

abbrev Bs := List (BitVec 8)
structure Pt where
  kind : Nat
  level : Nat
  obj : Nat
  off : Nat
  birth : Nat
  hash : Bs
  ats : List Nat
structure Pt.OK (p : Pt) : Prop where
  kind : p.kind < 256
  level : p.level < 256
  obj : p.obj < 65536
  off : p.off < 4294967296
  birth : p.birth < 18446744073709551616
  hash : p.hash.length = 32
  len : p.ats.length = 4
  ats : ∀ x ∈ p.ats, x < 65536
def U16 (x : Nat) : Value := .int .u16 (x : Int)
/-- The five numbers' cells. -/
def pnums (p : Pt) : List Value := [.int .u8 (p.kind : Int), .int .u8 (p.level : Int), .int .u16 (p.obj : Int), .int .u32 (p.off : Int), .int .u64 (p.birth : Int)]
def pcells (p : Pt) : List Value := pnums p ++ (p.hash.map V8 ++ p.ats.map U16)
theorem pcells_length {p : Pt} (h : p.OK) : (pcells p).length = 41 := by simp [pcells, pnums, h.hash, h.len]
def tailB (l : List Nat) : Bs := l.flatMap fun x => leb x 2
theorem tailB_length : ∀ l : List Nat, (tailB l).length = 2 * l.length
  | [] => rfl
  | x :: l => by
    have := tailB_length l
    simp only [tailB, List.flatMap_cons, List.length_append, leb_length, List.length_cons] at *
    omega
theorem tailB_snoc (l : List Nat) (x : Nat) : tailB (l ++ [x]) = tailB l ++ leb x 2 := by simp [tailB]
def tagB (p : Pt) : Bs := leb p.kind 1 ++ leb p.level 1 ++ leb p.obj 2 ++ leb p.off 4 ++ leb p.birth 8
theorem tagB_length (p : Pt) : (tagB p).length = 16 := by simp [tagB, leb_length]
def bodyB (p : Pt) : Bs := tagB p ++ p.hash ++ tailB p.ats
theorem bodyB_length {p : Pt} (h : p.OK) : (bodyB p).length = 56 := by simp [bodyB, tagB_length, h.hash, tailB_length, h.len]
/-- A pointer's 64 bytes. -/
def padB (p : Pt) : Bs := bodyB p ++ List.replicate 8 0#8
theorem padB_length {p : Pt} (h : p.OK) : (padB p).length = 64 := by simp [padB, bodyB_length h]
/-- The pointer of 64 bytes. -/
def pt (l : Bs) : Pt := ⟨val (l.take 1), val ((l.drop 1).take 1), val ((l.drop 2).take 2), val ((l.drop 4).take 4), val ((l.drop 8).take 8), (l.drop 16).take 32, [val ((l.drop 48).take 2), val ((l.drop 50).take 2), val ((l.drop 52).take 2), val ((l.drop 54).take 2)]⟩
def zeroP : Pt := ⟨0, 0, 0, 0, 0, List.replicate 32 0#8, [0, 0, 0, 0]⟩
def quietP (l : Bs) : Bool := (l.drop 56).all (· == 0#8)
theorem zeroP_ok : zeroP.OK := ⟨by simp [zeroP], by simp [zeroP], by simp [zeroP], by simp [zeroP], by simp [zeroP], by simp [zeroP], by simp [zeroP], by simp [zeroP]⟩
theorem val_take_lt (l : Bs) (n : Nat) : val (l.take n) < 2 ^ (8 * n) := by
  have h := val_lt (l.take n)
  have h2 : (l.take n).length ≤ n := by simp; omega
  exact Nat.lt_of_lt_of_le h (Nat.pow_le_pow_right (by omega) (by omega))
theorem pt_ok {l : Bs} (h : 64 ≤ l.length) : (pt l).OK := by
  refine ⟨val_take_lt _ 1, val_take_lt _ 1, val_take_lt _ 2, val_take_lt _ 4, val_take_lt _ 8, by simp [pt]; omega, by simp [pt], fun x hx => ?_⟩
  simp [pt] at hx
  rcases hx with rfl | rfl | rfl | rfl <;> exact val_take_lt _ 2
theorem drop_step {l a b : Bs} {n m : Nat} (h : l.drop n = a ++ b) (ha : a.length = m) : l.drop (n + m) = b := by rw [← List.drop_drop, h, List.drop_left' ha]
theorem pt_padB {p : Pt} (h : p.OK) : pt (padB p) = p ∧ quietP (padB p) = true := by
  obtain ⟨kind, level, obj, off, birth, hash, ats⟩ := p
  obtain ⟨k1, k2, k3, k4, k5, h2, h3, h4⟩ := h
  simp only at k1 k2 k3 k4 k5 h2 h3 h4
  match ats, h3, h4 with
  | [a0, a1, a2, a3], _, h4 =>
    have b0 := h4 a0 (by simp)
    have b1 := h4 a1 (by simp)
    have b2 := h4 a2 (by simp)
    have b3 := h4 a3 (by simp)
    have v : ∀ n m, n < 2 ^ (8 * m) → val (leb n m) = n := fun n m hn => by rw [val_leb]; exact Nat.mod_eq_of_lt hn
    have L : ∀ n m, (leb n m).length = m := leb_length
    have e : padB ⟨kind, level, obj, off, birth, hash, [a0, a1, a2, a3]⟩ = leb kind 1 ++ (leb level 1 ++ (leb obj 2 ++ (leb off 4 ++ (leb birth 8 ++ (hash ++ (leb a0 2 ++ (leb a1 2 ++ (leb a2 2 ++ (leb a3 2 ++ List.replicate 8 0#8))))))))) := by
      simp [padB, bodyB, tagB, tailB]
    have d1 : (padB ⟨kind, level, obj, off, birth, hash, [a0, a1, a2, a3]⟩).drop 1 = leb level 1 ++ (leb obj 2 ++ (leb off 4 ++ (leb birth 8 ++ (hash ++ (leb a0 2 ++ (leb a1 2 ++ (leb a2 2 ++ (leb a3 2 ++ List.replicate 8 0#8)))))))) := by
      rw [e, List.drop_left' (L _ _)]
    have d2 : (padB ⟨kind, level, obj, off, birth, hash, [a0, a1, a2, a3]⟩).drop 2 = leb obj 2 ++ (leb off 4 ++ (leb birth 8 ++ (hash ++ (leb a0 2 ++ (leb a1 2 ++ (leb a2 2 ++ (leb a3 2 ++ List.replicate 8 0#8))))))) := drop_step (n := 1) (m := 1) d1 (L _ _)
    have d4 : (padB ⟨kind, level, obj, off, birth, hash, [a0, a1, a2, a3]⟩).drop 4 = leb off 4 ++ (leb birth 8 ++ (hash ++ (leb a0 2 ++ (leb a1 2 ++ (leb a2 2 ++ (leb a3 2 ++ List.replicate 8 0#8)))))) := drop_step (n := 2) (m := 2) d2 (L _ _)
    have d8 : (padB ⟨kind, level, obj, off, birth, hash, [a0, a1, a2, a3]⟩).drop 8 = leb birth 8 ++ (hash ++ (leb a0 2 ++ (leb a1 2 ++ (leb a2 2 ++ (leb a3 2 ++ List.replicate 8 0#8))))) := drop_step (n := 4) (m := 4) d4 (L _ _)
    have d16 : (padB ⟨kind, level, obj, off, birth, hash, [a0, a1, a2, a3]⟩).drop 16 = hash ++ (leb a0 2 ++ (leb a1 2 ++ (leb a2 2 ++ (leb a3 2 ++ List.replicate 8 0#8)))) := drop_step (n := 8) (m := 8) d8 (L _ _)
    have d48 : (padB ⟨kind, level, obj, off, birth, hash, [a0, a1, a2, a3]⟩).drop 48 = leb a0 2 ++ (leb a1 2 ++ (leb a2 2 ++ (leb a3 2 ++ List.replicate 8 0#8))) := drop_step (n := 16) (m := 32) d16 h2
    have d50 : (padB ⟨kind, level, obj, off, birth, hash, [a0, a1, a2, a3]⟩).drop 50 = leb a1 2 ++ (leb a2 2 ++ (leb a3 2 ++ List.replicate 8 0#8)) := drop_step (n := 48) (m := 2) d48 (L _ _)
    have d52 : (padB ⟨kind, level, obj, off, birth, hash, [a0, a1, a2, a3]⟩).drop 52 = leb a2 2 ++ (leb a3 2 ++ List.replicate 8 0#8) := drop_step (n := 50) (m := 2) d50 (L _ _)
    have d54 : (padB ⟨kind, level, obj, off, birth, hash, [a0, a1, a2, a3]⟩).drop 54 = leb a3 2 ++ List.replicate 8 0#8 := drop_step (n := 52) (m := 2) d52 (L _ _)
    have d56 : (padB ⟨kind, level, obj, off, birth, hash, [a0, a1, a2, a3]⟩).drop 56 = List.replicate 8 0#8 := drop_step (n := 54) (m := 2) d54 (L _ _)
    constructor
    · unfold pt
      rw [d1, d2, d4, d8, d16, d48, d50, d52, d54, e]
      simp only [List.take_left' (L _ _), List.take_left' h2]
      rw [v kind 1 k1, v level 1 k2, v obj 2 k3, v off 4 k4, v birth 8 k5, v a0 2 b0, v a1 2 b1, v a2 2 b2, v a3 2 b3]
    · unfold quietP
      rw [d56]
      rfl
/-- How many copies a kind has on each disk. -/
def wideN (k : Nat) : Nat := if k < 1 ∨ 5 < k then 0 else if k = 1 then 1 else 2
def lowN (k : Nat) : Nat := if k = 3 then 1 else 0
def highN (k : Nat) : Nat := if k = 3 then 2 else 0
/-- The copies from place i on. -/
def copiesFrom : Nat → List Nat → List (Nat × Nat)
  | _, [] => []
  | i, a :: l => if a = 0 then copiesFrom (i + 1) l else (i / 2, a) :: copiesFrom (i + 1) l
def copiesP (p : Pt) : List (Nat × Nat) := copiesFrom 0 p.ats
/-- While copies are gone through: none: two are at one place; else whether there are any, and the last on each disk. -/
def sweep : List (Nat × Nat) → Bool × Nat × Nat → Option (Bool × Nat × Nat)
  | [], s => some s
  | (d, a) :: r, (_, x, y) => if a = (if d = 0 then x else y) then none else sweep r (if d = 0 then (true, a, y) else (true, x, a))
def apartP (p : Pt) : Bool := match sweep (copiesP p) (false, 0, 0) with
  | none => false
  | some s => s.1
theorem sweep_append : ∀ (l m : List (Nat × Nat)) (s : Bool × Nat × Nat), sweep (l ++ m) s = (sweep l s).bind (sweep m)
  | [], _, _ => rfl
  | (d, a) :: l, m, (f, x, y) => by
    by_cases hd : a = (if d = 0 then x else y)
    · show (if _ then _ else _) = Option.bind (if _ then _ else _) _
      rw [if_pos hd, if_pos hd]; rfl
    · show (if _ then _ else _) = Option.bind (if _ then _ else _) _
      rw [if_neg hd, if_neg hd]; exact sweep_append l m _
/-- Each address stands where the kind has copies. -/
def placedP (p : Pt) : Bool := (List.range 4).all fun i => decide (p.ats.getD i 0 = 0 ∨ i % 2 < wideN p.kind)
def mayP (p : Pt) : Bool := decide (lowN p.kind ≤ p.level ∧ p.level ≤ highN p.kind) && placedP p && apartP p
end Go.Proofs.YtecngehkdjmjmaaDoor
