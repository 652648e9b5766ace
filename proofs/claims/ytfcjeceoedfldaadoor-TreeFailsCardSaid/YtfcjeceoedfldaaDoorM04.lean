/- Bytes that are put: the document's number, the fillings. -/
import Derived.Test.YtfcjeceoedfldaaDoorM03
namespace Go.Proofs.YtfcjeceoedfldaaDoor
open Go.RowKit

theorem lb_div (n j : Nat) : lb n j = BitVec.ofNat 8 (n / 2 ^ (8 * j) % 256) := by
  apply BitVec.eq_of_toNat_eq
  simp [lb]
theorem pow_step (n j : Nat) : n / 2 ^ (8 * j) / 256 = n / 2 ^ (8 * (j + 1)) := by
  rw [Nat.div_div_eq_div_mul, show 8 * (j + 1) = 8 * j + 8 by omega, Nat.pow_add]
theorem u8_of (m : Nat) : IntKind.u8.wrap ((m % 256 : Nat) : Int) = N8 (BitVec.ofNat 8 (m % 256)) := by
  unfold N8; rw [IntKind.wrap_u8', BitVec.toNat_ofNat]; simp

set_option maxRecDepth 100000 in
set_option maxHeartbeats 1000000 in
theorem wNum_any (n k : Nat) (w : World) (hk : k ≤ 8) (hn : n < 18446744073709551616) :
    Calls Tryd.prog 100 #[.int .u64 (n : Int), .int .i64 (k : Int)] w (RetOwn (leb n k) w) := by
  obtain ⟨i0, hi, hz0, hz1, hz2⟩ := info_parts infoB
  have HNN := Lib.hid hn
  clear hn
  go_enter Tryd.func100, Tryd.ntmps100
  go_wp2
  go_loopw [0, 5, 6] (fun m s i wr => ∃ j : Nat, j ≤ k ∧ i = .int .i64 j ∧ m = .int .u64 ((n / 2 ^ (8 * j) : Nat) : Int) ∧ OwnB wr w.heap.size s (leb n j) ∧ Below w.heap.size w wr) (fun _ _ i _ => k - (intOf i).toNat)
  case atStart => exact ⟨0, by omega, rfl, by simp, World.ownsRow_nil _ _ _ _, Below.refl _ _⟩
  case round =>
    obtain ⟨j, hj, rfl, rfl, hown, hbel⟩ := hrel
    by_cases hlt : j < k
    · obtain ⟨m, hm⟩ : ∃ m, n / 2 ^ (8 * j) = m := ⟨_, rfl⟩
      rw [hm]
      have r1 : (m : Int) % 256 = ((m % 256 : Nat) : Int) := by omega
      have r2 : (m : Int).tmod 256 = ((m % 256 : Nat) : Int) := by rw [Int.tmod_eq_emod_of_nonneg (by omega)]; omega
      have r3 : IntKind.u8.wrap ((m % 256 : Nat) : Int) = N8 (lb n j) := by rw [u8_of, ← hm, ← lb_div]
      have r4 : (m : Int) / 256 = ((m / 256 : Nat) : Int) := by omega
      have r5 : (m : Int).tdiv 256 = ((m / 256 : Nat) : Int) := by rw [Int.tdiv_eq_ediv_of_nonneg (by omega)]; omega
      have HN : Hid (m / 256 = n / 2 ^ (8 * (j + 1))) := Lib.hid (by rw [← hm, pow_step])
      generalize m % 256 = q at *
      generalize m / 256 = d at *
      have HO := Lib.hid hown
      have HB := Lib.hid hbel
      have hbs := hbel.size
      clear hm hown hbel
      go_wp2_with (first
        | (at_builtin; refine wpList_append_own _ rfl (.tmp 12) (.tmp 16) 41 rfl w.heap.size 5 i0 (.int .u8 0) 1 1 Tryd.underlying41 hi hz0 hz1 hz2 rfl (by omega) _ (leb n j).length ((leb n j).map V8) rfl (HO.out.alloc _) ⟨wr.heap.size, 0, none⟩ 1 1 [V8 (lb n j)] rfl rfl (one_at _ _ _) (one_cell8 _) (by rw [leb_length]; unfold maxLen; omega) (by rw [leb_length]; omega) (by simp; omega) ?_; intro v' w1 ho hg _; have HO1 := Lib.hid ho; have HG1 := Lib.hid hg; clear ho hg)
        | fail)
      go_roundw
      case rel =>
        refine ⟨j + 1, by omega, by go_num, by rw [HN.out, u64_in _ (Nat.lt_of_le_of_lt (Nat.div_le_self _ _) HNN.out)], ?_, (HB.out.alloc (by omega) _).grown HG1.out (by simp; omega) (fun k hk => (HO.out.lt k hk).1)⟩
        have := HO1.out
        unfold OwnB
        rw [leb_succ, List.map_append, List.length_append]
        exact this
      case measure => simp [intOf]; omega
    · obtain rfl : j = k := by omega
      have HO := Lib.hid hown
      have HB := Lib.hid hbel
      clear hown hbel hlt hj hk hi hz0 hz1 hz2
      go_wp2
      go_ret
      exact ⟨_, rfl, HO.out, HB.out⟩
/-- The bytes, filled with noughts. -/
def fillOf (l : List (BitVec 8)) (n : Int) : List (BitVec 8) := l ++ List.replicate (n.toNat - l.length) 0#8
theorem splice_fill (l : List (BitVec 8)) (M : Nat) : splice (List.replicate M (Value.int .u8 0)) 0 (l.map V8) = (l ++ List.replicate (M - l.length) 0#8).map V8 := by
  simp only [splice, List.take_zero, List.nil_append, Nat.zero_add, List.length_map, List.map_append, List.map_replicate, List.drop_replicate]
  rfl
theorem owns_all {w1 : World} {g B : Nat} {l : List (BitVec 8)} (h : w1.heap[g]? = some (.cells (l.map V8).toArray 5 (0, 0))) (hx : l.length ≤ maxLen) (hB : B ≤ g) : OwnB w1 B (.slice (some ⟨g, 0, none⟩) l.length l.length) l :=
  ⟨by simp, .inr ⟨g, l.length, _, rfl, hB, h, Nat.le_refl _, hx, by simp, List.take_of_length_le (by simp)⟩⟩

set_option maxRecDepth 100000 in
set_option maxHeartbeats 1000000 in
theorem fill_any (l : List (BitVec 8)) (sp : Option Addr) (cap : Nat) (n : Int) (w : World) (hl : l.length ≤ 100000) (hn : n ≤ 100000) (hS : SrcA w sp l) :
    Calls Tryd.prog 58 #[.slice sp l.length cap, .int .i64 n] w (RetOwn (fillOf l n) w) := by
  obtain ⟨i0, hi, hz0, hz1, hz2⟩ := info_parts infoB
  obtain ⟨L, hL⟩ : ∃ L, l.length = L := ⟨_, rfl⟩
  obtain ⟨M, hM, hM1, hM2⟩ : ∃ M : Nat, max n (L : Int) = (M : Int) ∧ L ≤ M ∧ M ≤ 100000 := ⟨(max n (L : Int)).toNat, by omega, by omega, by omega⟩
  have HF : Hid (fillOf l n = l ++ List.replicate (M - l.length) 0#8) := Lib.hid (by unfold fillOf; rw [hL]; congr 2; omega)
  have HN : Hid ((l ++ List.replicate (M - l.length) 0#8).length = M) := Lib.hid (by simp; omega)
  have hL' := hL
  have hl' := hl
  have HS := Lib.hid hS
  rw [hL] at hl ⊢
  have HL := Lib.hid hL
  have HM := Lib.hid hM
  clear hS hL hL' hM
  by_cases hlt : n < (L : Int)
  · obtain rfl : M = L := by have := HM.out; omega
    have HMIN : Hid ((l.map V8).length = Nat.min M M) := Lib.hid (by rw [List.length_map, HL.out]; simp)
    go_enter Tryd.func58, Tryd.ntmps58
    go_wp2_with (first
      | (at_make; refine wpList_makeLC rfl (.tmp 9) (.tmp 9) 41 rfl 5 i0 (.int .u8 0) Tryd.underlying41 hi hz0 rfl hz1 .i64 .i64 _ _ M M rfl rfl rfl rfl (Nat.le_refl _) (by rw [hz2]; omega) (by unfold maxLen; omega) ?_; intro w1 hb1 hb2; have HB1 := Lib.hid hb1; have HB2 := Lib.hid hb2; clear hb1 hb2)
      | (refine wpList_copy_splice rfl (.tmp 11) (.tmp 12) 41 41 rfl 5 Tryd.underlying41 sizeB (some ⟨w.heap.size, 0, none⟩) sp M M M cap rfl rfl w.heap.size 0 _ 5 HB1.out (l.map V8) (HMIN.out) (src_pos (HS.out.grown HB2.out)) (by rw [List.length_map, List.length_replicate]; have := HL.out; omega) (one_v8 l) w.heap.size w HB2.out (Nat.le_refl _) ?_; intro w2 hs2 hb3; have HP := Lib.hid hs2.out; have HB3 := Lib.hid hb3; clear hs2 hb3)
      | fail)
    go_ret
    refine ⟨_, rfl, ?_, HB3.out⟩
    rw [HF.out]
    have h1 := HP.out
    rw [splice_fill] at h1
    have h2 := owns_all h1 (by rw [HN.out]; unfold maxLen; omega) (Nat.le_refl _)
    unfold OwnB at h2
    rw [HN.out] at h2
    unfold OwnB
    rw [HN.out]
    exact h2
  · obtain rfl : n = (M : Int) := by have := HM.out; omega
    have HMIN : Hid ((l.map V8).length = Nat.min L M) := Lib.hid (by rw [List.length_map, HL.out]; show L = min L M; omega)
    go_enter Tryd.func58, Tryd.ntmps58
    go_wp2_with (first
      | (at_make; refine wpList_makeLC rfl (.tmp 9) (.tmp 9) 41 rfl 5 i0 (.int .u8 0) Tryd.underlying41 hi hz0 rfl hz1 .i64 .i64 _ _ M M rfl rfl rfl rfl (Nat.le_refl _) (by rw [hz2]; omega) (by unfold maxLen; omega) ?_; intro w1 hb1 hb2; have HB1 := Lib.hid hb1; have HB2 := Lib.hid hb2; clear hb1 hb2)
      | (refine wpList_copy_splice rfl (.tmp 11) (.tmp 12) 41 41 rfl 5 Tryd.underlying41 sizeB (some ⟨w.heap.size, 0, none⟩) sp M M L cap rfl rfl w.heap.size 0 _ 5 HB1.out (l.map V8) (HMIN.out) (src_pos (HS.out.grown HB2.out)) (by rw [List.length_map, List.length_replicate]; have := HL.out; omega) (one_v8 l) w.heap.size w HB2.out (Nat.le_refl _) ?_; intro w2 hs2 hb3; have HP := Lib.hid hs2.out; have HB3 := Lib.hid hb3; clear hs2 hb3)
      | fail)
    go_ret
    refine ⟨_, rfl, ?_, HB3.out⟩
    rw [HF.out]
    have h1 := HP.out
    rw [splice_fill] at h1
    have h2 := owns_all h1 (by rw [HN.out]; unfold maxLen; omega) (Nat.le_refl _)
    unfold OwnB at h2
    rw [HN.out] at h2
    unfold OwnB
    rw [HN.out]
    exact h2

set_option maxRecDepth 100000 in
set_option maxHeartbeats 1000000 in
theorem wFillR_any (l : List (BitVec 8)) (sp : Option Addr) (cap : Nat) (n : Int) (w : World) (hl : l.length ≤ 100000) (hn : n ≤ 100000) (hc : l.length ≤ cap) (hz : sp = none → cap = 0) (hS : SrcA w sp l) :
    Calls Tryd.prog 101 #[.slice sp l.length cap, .int .i64 n] w (RetOwn (fillOf l n) w) := by
  obtain ⟨i0, hi, hz0, hz1, hz2⟩ := info_parts infoB
  obtain ⟨L, hL⟩ : ∃ L, l.length = L := ⟨_, rfl⟩
  have HC := Lib.hid hc
  have HZ := Lib.hid hz
  have HS := Lib.hid hS
  rw [hL] at hl ⊢
  have HL := Lib.hid hL
  clear hS hL hc hz
  have HI : Hid (Tryd.prog.info? 5 = some i0) := Lib.hid hi
  have HZ0 := Lib.hid hz0
  have HZ1 := Lib.hid hz1
  have HZ2 := Lib.hid hz2
  clear hi hz0 hz1 hz2
  go_enter Tryd.func101, Tryd.ntmps101
  go_wp2_with (first
    | (at_builtin; refine wpList_append_nil rfl _ (.tmp 6) rfl rfl sp cap l (by rw [HL.out]; rfl) HC.out HZ.out HS.out (by have := HL.out; omega) ?_; intro v w1 hown hb _; have HO := Lib.hid hown; have HB := Lib.hid hb; clear hown hb)
    | fail)
  have HR : Hid (OwnB w1 w.heap.size v (l ++ List.replicate 0 0#8) ∧ Below w.heap.size w w1) := Lib.hid ⟨by simpa using HO.out, HB.out⟩
  clear HO HB
  go_loopw [5] (fun s wr => ∃ j : Nat, j ≤ n.toNat - L ∧ OwnB wr w.heap.size s (l ++ List.replicate j 0#8) ∧ Below w.heap.size w wr) (fun s _ => n.toNat - (match s with | .slice _ l _ => l | _ => 0))
  case atStart => exact ⟨0, by omega, HR.out⟩
  case round =>
    clear HR
    obtain ⟨j, hj, hown, hbel⟩ := hrel
    obtain ⟨sp1, cap1, rfl, hc1, hm1, _, _, _⟩ := OwnB.form hown
    have hlen : (l ++ List.replicate j 0#8).length = L + j := by simp [HL.out]
    have hown2 := hown
    unfold OwnB at hown2
    rw [hlen] at hown2 hc1 ⊢
    have HO := Lib.hid hown2
    have HB := Lib.hid hbel
    have HE := Lib.hid hlen
    have hbs := hbel.size
    clear hown hown2 hbel hlen
    by_cases hlt : ((L + j : Nat) : Int) < n
    · go_wp2_with (first
        | (at_builtin; refine wpList_append_own _ rfl (.tmp 12) (.tmp 13) 41 rfl w.heap.size 5 i0 (.int .u8 0) 1 1 Tryd.underlying41 HI.out HZ0.out HZ1.out HZ2.out rfl (by omega) _ (L + j) ((l ++ List.replicate j 0#8).map V8) rfl (HO.out.alloc _) ⟨wr.heap.size, 0, none⟩ 1 1 [V8 0#8] rfl rfl (one_at _ _ _) (one_cell8 _) (by unfold maxLen; omega) (by omega) (by simp; omega) ?_; intro v' w1 ho hg _; have HO1 := Lib.hid ho; have HG1 := Lib.hid hg; clear ho hg)
        | fail)
      have hO2 : OwnB w1 w.heap.size v' (l ++ List.replicate (j + 1) 0#8) := by
        have := HO1.out
        have e : (l ++ List.replicate (j + 1) 0#8).length = L + j + 1 := by simp [HL.out]; omega
        unfold OwnB
        rw [e, List.replicate_succ', ← List.append_assoc, List.map_append]
        exact this
      obtain ⟨sp2, cap2, rfl, _, _, _, _, _⟩ := OwnB.form hO2
      have e2 : (l ++ List.replicate (j + 1) 0#8).length = L + j + 1 := by simp [HL.out]; omega
      rw [e2] at hO2 HO1 ⊢
      have HO2 := Lib.hid hO2
      clear hO2 e2
      go_roundw
      case rel => exact ⟨j + 1, by omega, HO2.out, (HB.out.alloc (by omega) _).grown HG1.out (by simp; omega) (fun k hk => (HO.out.lt k hk).1)⟩
      case measure => simp; omega
    · have HF : Hid (fillOf l n = l ++ List.replicate j 0#8) := Lib.hid (by unfold fillOf; rw [HL.out]; congr 2; omega)
      go_wp2
      go_ret
      refine ⟨_, rfl, ?_, HB.out⟩
      rw [HF.out]
      unfold OwnB
      rw [HE.out]
      exact HO.out
end Go.Proofs.YtfcjeceoedfldaaDoor
/- Pointers, plain: their cells, their bytes; the pointer of bytes; whether one may be; its copies. -/
namespace Go.Proofs.YtfcjeceoedfldaaDoor
open Go.RowKit

abbrev Bs := List (BitVec 8)
structure Pt where
  kind : Nat
  level : Nat
  obj : Nat
  off : Nat
  birth : Nat
  hash : Bs
  ats : List Nat
structure Pt.OK (p : Pt) : Prop where
  kind : p.kind < 256
  level : p.level < 256
  obj : p.obj < 65536
  off : p.off < 4294967296
  birth : p.birth < 18446744073709551616
  hash : p.hash.length = 32
  len : p.ats.length = 4
  ats : ∀ x ∈ p.ats, x < 65536
def U16 (x : Nat) : Value := .int .u16 (x : Int)
/-- The five numbers' cells. -/
def pnums (p : Pt) : List Value := [.int .u8 (p.kind : Int), .int .u8 (p.level : Int), .int .u16 (p.obj : Int), .int .u32 (p.off : Int), .int .u64 (p.birth : Int)]
def pcells (p : Pt) : List Value := pnums p ++ (p.hash.map V8 ++ p.ats.map U16)
theorem pcells_length {p : Pt} (h : p.OK) : (pcells p).length = 41 := by simp [pcells, pnums, h.hash, h.len]
def tailB (l : List Nat) : Bs := l.flatMap fun x => leb x 2
theorem tailB_length : ∀ l : List Nat, (tailB l).length = 2 * l.length
  | [] => rfl
  | x :: l => by
    have := tailB_length l
    simp only [tailB, List.flatMap_cons, List.length_append, leb_length, List.length_cons] at *
    omega
theorem tailB_snoc (l : List Nat) (x : Nat) : tailB (l ++ [x]) = tailB l ++ leb x 2 := by simp [tailB]
def tagB (p : Pt) : Bs := leb p.kind 1 ++ leb p.level 1 ++ leb p.obj 2 ++ leb p.off 4 ++ leb p.birth 8
theorem tagB_length (p : Pt) : (tagB p).length = 16 := by simp [tagB, leb_length]
def bodyB (p : Pt) : Bs := tagB p ++ p.hash ++ tailB p.ats
theorem bodyB_length {p : Pt} (h : p.OK) : (bodyB p).length = 56 := by simp [bodyB, tagB_length, h.hash, tailB_length, h.len]
/-- A pointer's 64 bytes. -/
def padB (p : Pt) : Bs := bodyB p ++ List.replicate 8 0#8
theorem padB_length {p : Pt} (h : p.OK) : (padB p).length = 64 := by simp [padB, bodyB_length h]
/-- The pointer of 64 bytes. -/
def pt (l : Bs) : Pt := ⟨val (l.take 1), val ((l.drop 1).take 1), val ((l.drop 2).take 2), val ((l.drop 4).take 4), val ((l.drop 8).take 8), (l.drop 16).take 32, [val ((l.drop 48).take 2), val ((l.drop 50).take 2), val ((l.drop 52).take 2), val ((l.drop 54).take 2)]⟩
def zeroP : Pt := ⟨0, 0, 0, 0, 0, List.replicate 32 0#8, [0, 0, 0, 0]⟩
def quietP (l : Bs) : Bool := (l.drop 56).all (· == 0#8)
theorem zeroP_ok : zeroP.OK := ⟨by simp [zeroP], by simp [zeroP], by simp [zeroP], by simp [zeroP], by simp [zeroP], by simp [zeroP], by simp [zeroP], by simp [zeroP]⟩
theorem val_take_lt (l : Bs) (n : Nat) : val (l.take n) < 2 ^ (8 * n) := by
  have h := val_lt (l.take n)
  have h2 : (l.take n).length ≤ n := by simp; omega
  exact Nat.lt_of_lt_of_le h (Nat.pow_le_pow_right (by omega) (by omega))
theorem pt_ok {l : Bs} (h : 64 ≤ l.length) : (pt l).OK := by
  refine ⟨val_take_lt _ 1, val_take_lt _ 1, val_take_lt _ 2, val_take_lt _ 4, val_take_lt _ 8, by simp [pt]; omega, by simp [pt], fun x hx => ?_⟩
  simp [pt] at hx
  rcases hx with rfl | rfl | rfl | rfl <;> exact val_take_lt _ 2
theorem drop_step {l a b : Bs} {n m : Nat} (h : l.drop n = a ++ b) (ha : a.length = m) : l.drop (n + m) = b := by rw [← List.drop_drop, h, List.drop_left' ha]
theorem pt_padB {p : Pt} (h : p.OK) : pt (padB p) = p ∧ quietP (padB p) = true := by
  obtain ⟨kind, level, obj, off, birth, hash, ats⟩ := p
  obtain ⟨k1, k2, k3, k4, k5, h2, h3, h4⟩ := h
  simp only at k1 k2 k3 k4 k5 h2 h3 h4
  match ats, h3, h4 with
  | [a0, a1, a2, a3], _, h4 =>
    have b0 := h4 a0 (by simp)
    have b1 := h4 a1 (by simp)
    have b2 := h4 a2 (by simp)
    have b3 := h4 a3 (by simp)
    have v : ∀ n m, n < 2 ^ (8 * m) → val (leb n m) = n := fun n m hn => by rw [val_leb]; exact Nat.mod_eq_of_lt hn
    have L : ∀ n m, (leb n m).length = m := leb_length
    have e : padB ⟨kind, level, obj, off, birth, hash, [a0, a1, a2, a3]⟩ = leb kind 1 ++ (leb level 1 ++ (leb obj 2 ++ (leb off 4 ++ (leb birth 8 ++ (hash ++ (leb a0 2 ++ (leb a1 2 ++ (leb a2 2 ++ (leb a3 2 ++ List.replicate 8 0#8))))))))) := by
      simp [padB, bodyB, tagB, tailB]
    have d1 : (padB ⟨kind, level, obj, off, birth, hash, [a0, a1, a2, a3]⟩).drop 1 = leb level 1 ++ (leb obj 2 ++ (leb off 4 ++ (leb birth 8 ++ (hash ++ (leb a0 2 ++ (leb a1 2 ++ (leb a2 2 ++ (leb a3 2 ++ List.replicate 8 0#8)))))))) := by
      rw [e, List.drop_left' (L _ _)]
    have d2 : (padB ⟨kind, level, obj, off, birth, hash, [a0, a1, a2, a3]⟩).drop 2 = leb obj 2 ++ (leb off 4 ++ (leb birth 8 ++ (hash ++ (leb a0 2 ++ (leb a1 2 ++ (leb a2 2 ++ (leb a3 2 ++ List.replicate 8 0#8))))))) := drop_step (n := 1) (m := 1) d1 (L _ _)
    have d4 : (padB ⟨kind, level, obj, off, birth, hash, [a0, a1, a2, a3]⟩).drop 4 = leb off 4 ++ (leb birth 8 ++ (hash ++ (leb a0 2 ++ (leb a1 2 ++ (leb a2 2 ++ (leb a3 2 ++ List.replicate 8 0#8)))))) := drop_step (n := 2) (m := 2) d2 (L _ _)
    have d8 : (padB ⟨kind, level, obj, off, birth, hash, [a0, a1, a2, a3]⟩).drop 8 = leb birth 8 ++ (hash ++ (leb a0 2 ++ (leb a1 2 ++ (leb a2 2 ++ (leb a3 2 ++ List.replicate 8 0#8))))) := drop_step (n := 4) (m := 4) d4 (L _ _)
    have d16 : (padB ⟨kind, level, obj, off, birth, hash, [a0, a1, a2, a3]⟩).drop 16 = hash ++ (leb a0 2 ++ (leb a1 2 ++ (leb a2 2 ++ (leb a3 2 ++ List.replicate 8 0#8)))) := drop_step (n := 8) (m := 8) d8 (L _ _)
    have d48 : (padB ⟨kind, level, obj, off, birth, hash, [a0, a1, a2, a3]⟩).drop 48 = leb a0 2 ++ (leb a1 2 ++ (leb a2 2 ++ (leb a3 2 ++ List.replicate 8 0#8))) := drop_step (n := 16) (m := 32) d16 h2
    have d50 : (padB ⟨kind, level, obj, off, birth, hash, [a0, a1, a2, a3]⟩).drop 50 = leb a1 2 ++ (leb a2 2 ++ (leb a3 2 ++ List.replicate 8 0#8)) := drop_step (n := 48) (m := 2) d48 (L _ _)
    have d52 : (padB ⟨kind, level, obj, off, birth, hash, [a0, a1, a2, a3]⟩).drop 52 = leb a2 2 ++ (leb a3 2 ++ List.replicate 8 0#8) := drop_step (n := 50) (m := 2) d50 (L _ _)
    have d54 : (padB ⟨kind, level, obj, off, birth, hash, [a0, a1, a2, a3]⟩).drop 54 = leb a3 2 ++ List.replicate 8 0#8 := drop_step (n := 52) (m := 2) d52 (L _ _)
    have d56 : (padB ⟨kind, level, obj, off, birth, hash, [a0, a1, a2, a3]⟩).drop 56 = List.replicate 8 0#8 := drop_step (n := 54) (m := 2) d54 (L _ _)
    constructor
    · unfold pt
      rw [d1, d2, d4, d8, d16, d48, d50, d52, d54, e]
      simp only [List.take_left' (L _ _), List.take_left' h2]
      rw [v kind 1 k1, v level 1 k2, v obj 2 k3, v off 4 k4, v birth 8 k5, v a0 2 b0, v a1 2 b1, v a2 2 b2, v a3 2 b3]
    · unfold quietP
      rw [d56]
      rfl
/-- How many copies a kind has on each disk. -/
def wideN (k : Nat) : Nat := if k < 1 ∨ 5 < k then 0 else if k = 1 then 1 else 2
def lowN (k : Nat) : Nat := if k = 3 then 1 else 0
def highN (k : Nat) : Nat := if k = 3 then 2 else 0
/-- The copies from place i on. -/
def copiesFrom : Nat → List Nat → List (Nat × Nat)
  | _, [] => []
  | i, a :: l => if a = 0 then copiesFrom (i + 1) l else (i / 2, a) :: copiesFrom (i + 1) l
def copiesP (p : Pt) : List (Nat × Nat) := copiesFrom 0 p.ats
/-- While copies are gone through: none: two are at one place; else whether there are any, and the last on each disk. -/
def sweep : List (Nat × Nat) → Bool × Nat × Nat → Option (Bool × Nat × Nat)
  | [], s => some s
  | (d, a) :: r, (_, x, y) => if a = (if d = 0 then x else y) then none else sweep r (if d = 0 then (true, a, y) else (true, x, a))
def apartP (p : Pt) : Bool := match sweep (copiesP p) (false, 0, 0) with
  | none => false
  | some s => s.1
theorem sweep_append : ∀ (l m : List (Nat × Nat)) (s : Bool × Nat × Nat), sweep (l ++ m) s = (sweep l s).bind (sweep m)
  | [], _, _ => rfl
  | (d, a) :: l, m, (f, x, y) => by
    by_cases hd : a = (if d = 0 then x else y)
    · show (if _ then _ else _) = Option.bind (if _ then _ else _) _
      rw [if_pos hd, if_pos hd]; rfl
    · show (if _ then _ else _) = Option.bind (if _ then _ else _) _
      rw [if_neg hd, if_neg hd]; exact sweep_append l m _
/-- Each address stands where the kind has copies. -/
def placedP (p : Pt) : Bool := (List.range 4).all fun i => decide (p.ats.getD i 0 = 0 ∨ i % 2 < wideN p.kind)
def mayP (p : Pt) : Bool := decide (lowN p.kind ≤ p.level ∧ p.level ≤ highN p.kind) && placedP p && apartP p
/-- .. as the document says it. -/
def mayR (p : Pt) : Bool :=
  if p.kind < 1 ∨ 5 < p.kind then false
  else if (p.kind = 3 ∧ (p.level < 1 ∨ 2 < p.level)) ∨ (p.kind ≠ 3 ∧ p.level ≠ 0) then false
  else if p.ats = [0, 0, 0, 0] then false
  else if (p.ats.getD 0 0 ≠ 0 ∧ p.ats.getD 0 0 = p.ats.getD 1 0) ∨ (p.ats.getD 2 0 ≠ 0 ∧ p.ats.getD 2 0 = p.ats.getD 3 0) then false
  else decide (p.kind ≠ 1 ∨ (p.ats.getD 1 0 = 0 ∧ p.ats.getD 3 0 = 0))
theorem mayP_eq {p : Pt} (h : p.ats.length = 4) : mayP p = mayR p := by
  obtain ⟨kind, level, obj, off, birth, hash, ats⟩ := p
  match ats, h with
  | [a, b, c, d], _ =>
    by_cases k0 : kind < 1 ∨ 5 < kind
    · simp only [mayR, if_pos k0]
      have hw : wideN kind = 0 := by unfold wideN; rw [if_pos k0]
      by_cases hz : a = 0 ∧ b = 0 ∧ c = 0 ∧ d = 0
      · obtain ⟨rfl, rfl, rfl, rfl⟩ := hz
        simp [mayP, apartP, copiesP, copiesFrom, sweep]
      · have : placedP ⟨kind, level, obj, off, birth, hash, [a, b, c, d]⟩ = false := by
          simp only [placedP, hw, List.range_succ, List.range_zero, List.nil_append, List.cons_append, List.all_cons, List.all_nil]
          simp
          omega
        simp [mayP, this]
    · simp only [mayR, if_neg k0]
      by_cases k1 : (kind = 3 ∧ (level < 1 ∨ 2 < level)) ∨ (kind ≠ 3 ∧ level ≠ 0)
      · rw [if_pos k1]
        have : decide (lowN kind ≤ level ∧ level ≤ highN kind) = false := by
          apply decide_eq_false
          unfold lowN highN
          split <;> omega
        simp [mayP, this]
      · rw [if_neg k1]
        have h1 : decide (lowN kind ≤ level ∧ level ≤ highN kind) = true := by
          apply decide_eq_true
          unfold lowN highN
          split <;> omega
        have hw : wideN kind = if kind = 1 then 1 else 2 := by unfold wideN; rw [if_neg k0]
        have hp : placedP ⟨kind, level, obj, off, birth, hash, [a, b, c, d]⟩ = decide (kind ≠ 1 ∨ (b = 0 ∧ d = 0)) := by
          simp only [placedP, hw, List.range_succ, List.range_zero, List.nil_append, List.cons_append, List.all_cons, List.all_nil]
          by_cases hk : kind = 1
          · simp [hk]
          · simp [hk]
        have ha : apartP ⟨kind, level, obj, off, birth, hash, [a, b, c, d]⟩ = (!decide ([a, b, c, d] = [0, 0, 0, 0]) && !decide ((a ≠ 0 ∧ a = b) ∨ (c ≠ 0 ∧ c = d))) := by
          clear hp hw h1 k0 k1 h
          simp only [apartP, copiesP, copiesFrom, eq_comm (a := a) (b := b), eq_comm (a := c) (b := d)]
          by_cases a0 : a = 0 <;> by_cases b0 : b = 0 <;> by_cases c0 : c = 0 <;> by_cases d0 : d = 0 <;> by_cases ab : b = a <;> by_cases cd : d = c <;> simp_all [sweep]
        simp only [mayP, h1, hp, ha, Bool.true_and]
        by_cases z : [a, b, c, d] = [0, 0, 0, 0]
        · simp [z]
        · rw [if_neg z]
          simp only [List.getD_cons_zero, List.getD_cons_succ]
          by_cases y : (a ≠ 0 ∧ a = b) ∨ (c ≠ 0 ∧ c = d)
          · rw [if_pos y]; simp [y]
          · rw [if_neg y]; simp [y, z]
end Go.Proofs.YtfcjeceoedfldaaDoor
