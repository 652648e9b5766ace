/- Bytes that are put: the document's number, the fillings. -/
import Derived.Test.YtjgjohdeeeoeoaaGreatDoorM03
import Derived.Deep.MidRow
import Derived.Maps.AppendAt
import Derived.Stop.BytesEq
import Derived.ChangeKeysEq
namespace Go.Proofs.YtjgjohdeeeoeoaaGreatDoor
open Go.RowKit
theorem lb_div (n j : Nat) : lb n j = BitVec.ofNat 8 (n / 2 ^ (8 * j) % 256) := by
  apply BitVec.eq_of_toNat_eq
  simp [lb]
theorem pow_step (n j : Nat) : n / 2 ^ (8 * j) / 256 = n / 2 ^ (8 * (j + 1)) := by
  rw [Nat.div_div_eq_div_mul, show 8 * (j + 1) = 8 * j + 8 by omega, Nat.pow_add]
theorem u8_of (m : Nat) : IntKind.u8.wrap ((m % 256 : Nat) : Int) = N8 (BitVec.ofNat 8 (m % 256)) := by
  unfold N8; rw [IntKind.wrap_u8', BitVec.toNat_ofNat]; simp
set_option maxRecDepth 100000 in
set_option maxHeartbeats 1000000 in
theorem wNum_any (n k : Nat) (w : World) (hk : k ≤ 8) (hn : n < 18446744073709551616) :
    Calls Tryz.prog 8 #[.int .u64 (n : Int), .int .i64 (k : Int)] w (RetOwn (leb n k) w) := by
  obtain ⟨i0, hi, hz0, hz1, hz2⟩ := info_parts infoB
  have HNN := Lib.hid hn
  clear hn
  go_enter Tryz.func8, Tryz.ntmps8
  go_wp2
  go_loopw [0, 5, 6] (fun m s i wr => ∃ j : Nat, j ≤ k ∧ i = .int .i64 j ∧ m = .int .u64 ((n / 2 ^ (8 * j) : Nat) : Int) ∧ OwnB wr w.heap.size s (leb n j) ∧ Below w.heap.size w wr) (fun _ _ i _ => k - (intOf i).toNat)
  case atStart => exact ⟨0, by omega, rfl, by simp, World.ownsRow_nil _ _ _ _, Below.refl _ _⟩
  case round =>
    obtain ⟨j, hj, rfl, rfl, hown, hbel⟩ := hrel
    by_cases hlt : j < k
    · obtain ⟨m, hm⟩ : ∃ m, n / 2 ^ (8 * j) = m := ⟨_, rfl⟩
      rw [hm]
      have r1 : (m : Int) % 256 = ((m % 256 : Nat) : Int) := by omega
      have r2 : (m : Int).tmod 256 = ((m % 256 : Nat) : Int) := by rw [Int.tmod_eq_emod_of_nonneg (by omega)]; omega
      have r3 : IntKind.u8.wrap ((m % 256 : Nat) : Int) = N8 (lb n j) := by rw [u8_of, ← hm, ← lb_div]
      have r4 : (m : Int) / 256 = ((m / 256 : Nat) : Int) := by omega
      have r5 : (m : Int).tdiv 256 = ((m / 256 : Nat) : Int) := by rw [Int.tdiv_eq_ediv_of_nonneg (by omega)]; omega
      have HN : Hid (m / 256 = n / 2 ^ (8 * (j + 1))) := Lib.hid (by rw [← hm, pow_step])
      generalize m % 256 = q at *
      generalize m / 256 = d at *
      have HO := Lib.hid hown
      have HB := Lib.hid hbel
      have hbs := hbel.size
      clear hm hown hbel
      go_wp2_with (first
        | (at_builtin; refine wpList_append_own _ rfl (.tmp 12) (.tmp 16) 29 rfl w.heap.size 5 i0 (.int .u8 0) 1 1 Tryz.underlying29 hi hz0 hz1 hz2 rfl (by omega) _ (leb n j).length ((leb n j).map V8) rfl (HO.out.alloc _) ⟨wr.heap.size, 0, none⟩ 1 1 [V8 (lb n j)] rfl rfl (one_at _ _ _) (one_cell8 _) (by rw [leb_length]; unfold maxLen; omega) (by rw [leb_length]; omega) (by simp; omega) ?_; intro v' w1 ho hg _; have HO1 := Lib.hid ho; have HG1 := Lib.hid hg; clear ho hg)
        | fail)
      go_roundw
      case rel =>
        refine ⟨j + 1, by omega, by go_num, by rw [HN.out, u64_in _ (Nat.lt_of_le_of_lt (Nat.div_le_self _ _) HNN.out)], ?_, (HB.out.alloc (by omega) _).grown HG1.out (by simp; omega) (fun k hk => (HO.out.lt k hk).1)⟩
        have := HO1.out
        unfold OwnB
        rw [leb_succ, List.map_append, List.length_append]
        exact this
      case measure => simp [intOf]; omega
    · obtain rfl : j = k := by omega
      have HO := Lib.hid hown
      have HB := Lib.hid hbel
      clear hown hbel hlt hj hk hi hz0 hz1 hz2
      go_wp2
      go_ret
      exact ⟨_, rfl, HO.out, HB.out⟩
def fillOf (l : List (BitVec 8)) (n : Int) : List (BitVec 8) := l ++ List.replicate (n.toNat - l.length) 0#8
theorem splice_fill (l : List (BitVec 8)) (M : Nat) : splice (List.replicate M (Value.int .u8 0)) 0 (l.map V8) = (l ++ List.replicate (M - l.length) 0#8).map V8 := by
  simp only [splice, List.take_zero, List.nil_append, Nat.zero_add, List.length_map, List.map_append, List.map_replicate, List.drop_replicate]
  rfl
theorem owns_all {w1 : World} {g B : Nat} {l : List (BitVec 8)} (h : w1.heap[g]? = some (.cells (l.map V8).toArray 5 (0, 0))) (hx : l.length ≤ maxLen) (hB : B ≤ g) : OwnB w1 B (.slice (some ⟨g, 0, none⟩) l.length l.length) l :=
  ⟨by simp, .inr ⟨g, l.length, _, rfl, hB, h, Nat.le_refl _, hx, by simp, List.take_of_length_le (by simp)⟩⟩
set_option maxRecDepth 100000 in
set_option maxHeartbeats 1000000 in
theorem fill_any (l : List (BitVec 8)) (sp : Option Addr) (cap : Nat) (n : Int) (w : World) (hl : l.length ≤ 100000) (hn : n ≤ 100000) (hS : SrcA w sp l) :
    Calls Tryz.prog 23 #[.slice sp l.length cap, .int .i64 n] w (RetOwn (fillOf l n) w) := by
  obtain ⟨i0, hi, hz0, hz1, hz2⟩ := info_parts infoB
  obtain ⟨L, hL⟩ : ∃ L, l.length = L := ⟨_, rfl⟩
  obtain ⟨M, hM, hM1, hM2⟩ : ∃ M : Nat, max n (L : Int) = (M : Int) ∧ L ≤ M ∧ M ≤ 100000 := ⟨(max n (L : Int)).toNat, by omega, by omega, by omega⟩
  have HF : Hid (fillOf l n = l ++ List.replicate (M - l.length) 0#8) := Lib.hid (by unfold fillOf; rw [hL]; congr 2; omega)
  have HN : Hid ((l ++ List.replicate (M - l.length) 0#8).length = M) := Lib.hid (by simp; omega)
  have hL' := hL
  have hl' := hl
  have HS := Lib.hid hS
  rw [hL] at hl ⊢
  have HL := Lib.hid hL
  have HM := Lib.hid hM
  clear hS hL hL' hM
  by_cases hlt : n < (L : Int)
  · obtain rfl : M = L := by have := HM.out; omega
    have HMIN : Hid ((l.map V8).length = Nat.min M M) := Lib.hid (by rw [List.length_map, HL.out]; simp)
    go_enter Tryz.func23, Tryz.ntmps23
    go_wp2_with (first
      | (at_make; refine wpList_makeLC rfl (.tmp 9) (.tmp 9) 29 rfl 5 i0 (.int .u8 0) Tryz.underlying29 hi hz0 rfl hz1 .i64 .i64 _ _ M M rfl rfl rfl rfl (Nat.le_refl _) (by rw [hz2]; omega) (by unfold maxLen; omega) ?_; intro w1 hb1 hb2; have HB1 := Lib.hid hb1; have HB2 := Lib.hid hb2; clear hb1 hb2)
      | (refine wpList_copy_splice rfl (.tmp 11) (.tmp 12) 29 29 rfl 5 Tryz.underlying29 sizeB (some ⟨w.heap.size, 0, none⟩) sp M M M cap rfl rfl w.heap.size 0 _ 5 HB1.out (l.map V8) (HMIN.out) (src_pos (HS.out.grown HB2.out)) (by rw [List.length_map, List.length_replicate]; have := HL.out; omega) (one_v8 l) w.heap.size w HB2.out (Nat.le_refl _) ?_; intro w2 hs2 hb3; have HP := Lib.hid hs2.out; have HB3 := Lib.hid hb3; clear hs2 hb3)
      | fail)
    go_ret
    refine ⟨_, rfl, ?_, HB3.out⟩
    rw [HF.out]
    have h1 := HP.out
    rw [splice_fill] at h1
    have h2 := owns_all h1 (by rw [HN.out]; unfold maxLen; omega) (Nat.le_refl _)
    unfold OwnB at h2
    rw [HN.out] at h2
    unfold OwnB
    rw [HN.out]
    exact h2
  · obtain rfl : n = (M : Int) := by have := HM.out; omega
    have HMIN : Hid ((l.map V8).length = Nat.min L M) := Lib.hid (by rw [List.length_map, HL.out]; show L = min L M; omega)
    go_enter Tryz.func23, Tryz.ntmps23
    go_wp2_with (first
      | (at_make; refine wpList_makeLC rfl (.tmp 9) (.tmp 9) 29 rfl 5 i0 (.int .u8 0) Tryz.underlying29 hi hz0 rfl hz1 .i64 .i64 _ _ M M rfl rfl rfl rfl (Nat.le_refl _) (by rw [hz2]; omega) (by unfold maxLen; omega) ?_; intro w1 hb1 hb2; have HB1 := Lib.hid hb1; have HB2 := Lib.hid hb2; clear hb1 hb2)
      | (refine wpList_copy_splice rfl (.tmp 11) (.tmp 12) 29 29 rfl 5 Tryz.underlying29 sizeB (some ⟨w.heap.size, 0, none⟩) sp M M L cap rfl rfl w.heap.size 0 _ 5 HB1.out (l.map V8) (HMIN.out) (src_pos (HS.out.grown HB2.out)) (by rw [List.length_map, List.length_replicate]; have := HL.out; omega) (one_v8 l) w.heap.size w HB2.out (Nat.le_refl _) ?_; intro w2 hs2 hb3; have HP := Lib.hid hs2.out; have HB3 := Lib.hid hb3; clear hs2 hb3)
      | fail)
    go_ret
    refine ⟨_, rfl, ?_, HB3.out⟩
    rw [HF.out]
    have h1 := HP.out
    rw [splice_fill] at h1
    have h2 := owns_all h1 (by rw [HN.out]; unfold maxLen; omega) (Nat.le_refl _)
    unfold OwnB at h2
    rw [HN.out] at h2
    unfold OwnB
    rw [HN.out]
    exact h2
set_option maxRecDepth 100000 in
set_option maxHeartbeats 1000000 in
theorem wFillR_any (l : List (BitVec 8)) (sp : Option Addr) (cap : Nat) (n : Int) (w : World) (hl : l.length ≤ 100000) (hn : n ≤ 100000) (hc : l.length ≤ cap) (hz : sp = none → cap = 0) (hS : SrcA w sp l) :
    Calls Tryz.prog 7 #[.slice sp l.length cap, .int .i64 n] w (RetOwn (fillOf l n) w) := by
  obtain ⟨i0, hi, hz0, hz1, hz2⟩ := info_parts infoB
  obtain ⟨L, hL⟩ : ∃ L, l.length = L := ⟨_, rfl⟩
  have HC := Lib.hid hc
  have HZ := Lib.hid hz
  have HS := Lib.hid hS
  rw [hL] at hl ⊢
  have HL := Lib.hid hL
  clear hS hL hc hz
  have HI : Hid (Tryz.prog.info? 5 = some i0) := Lib.hid hi
  have HZ0 := Lib.hid hz0
  have HZ1 := Lib.hid hz1
  have HZ2 := Lib.hid hz2
  clear hi hz0 hz1 hz2
  go_enter Tryz.func7, Tryz.ntmps7
  go_wp2_with (first
    | (at_builtin; refine wpList_append_nil rfl _ (.tmp 6) rfl rfl sp cap l (by rw [HL.out]; rfl) HC.out HZ.out HS.out (by have := HL.out; omega) ?_; intro v w1 hown hb _; have HO := Lib.hid hown; have HB := Lib.hid hb; clear hown hb)
    | fail)
  have HR : Hid (OwnB w1 w.heap.size v (l ++ List.replicate 0 0#8) ∧ Below w.heap.size w w1) := Lib.hid ⟨by simpa using HO.out, HB.out⟩
  clear HO HB
  go_loopw [5] (fun s wr => ∃ j : Nat, j ≤ n.toNat - L ∧ OwnB wr w.heap.size s (l ++ List.replicate j 0#8) ∧ Below w.heap.size w wr) (fun s _ => n.toNat - (match s with | .slice _ l _ => l | _ => 0))
  case atStart => exact ⟨0, by omega, HR.out⟩
  case round =>
    clear HR
    obtain ⟨j, hj, hown, hbel⟩ := hrel
    obtain ⟨sp1, cap1, rfl, hc1, hm1, _, _, _⟩ := OwnB.form hown
    have hlen : (l ++ List.replicate j 0#8).length = L + j := by simp [HL.out]
    have hown2 := hown
    unfold OwnB at hown2
    rw [hlen] at hown2 hc1 ⊢
    have HO := Lib.hid hown2
    have HB := Lib.hid hbel
    have HE := Lib.hid hlen
    have hbs := hbel.size
    clear hown hown2 hbel hlen
    by_cases hlt : ((L + j : Nat) : Int) < n
    · go_wp2_with (first
        | (at_builtin; refine wpList_append_own _ rfl (.tmp 12) (.tmp 13) 29 rfl w.heap.size 5 i0 (.int .u8 0) 1 1 Tryz.underlying29 HI.out HZ0.out HZ1.out HZ2.out rfl (by omega) _ (L + j) ((l ++ List.replicate j 0#8).map V8) rfl (HO.out.alloc _) ⟨wr.heap.size, 0, none⟩ 1 1 [V8 0#8] rfl rfl (one_at _ _ _) (one_cell8 _) (by unfold maxLen; omega) (by omega) (by simp; omega) ?_; intro v' w1 ho hg _; have HO1 := Lib.hid ho; have HG1 := Lib.hid hg; clear ho hg)
        | fail)
      have hO2 : OwnB w1 w.heap.size v' (l ++ List.replicate (j + 1) 0#8) := by
        have := HO1.out
        have e : (l ++ List.replicate (j + 1) 0#8).length = L + j + 1 := by simp [HL.out]; omega
        unfold OwnB
        rw [e, List.replicate_succ', ← List.append_assoc, List.map_append]
        exact this
      obtain ⟨sp2, cap2, rfl, _, _, _, _, _⟩ := OwnB.form hO2
      have e2 : (l ++ List.replicate (j + 1) 0#8).length = L + j + 1 := by simp [HL.out]; omega
      rw [e2] at hO2 HO1 ⊢
      have HO2 := Lib.hid hO2
      clear hO2 e2
      go_roundw
      case rel => exact ⟨j + 1, by omega, HO2.out, (HB.out.alloc (by omega) _).grown HG1.out (by simp; omega) (fun k hk => (HO.out.lt k hk).1)⟩
      case measure => simp; omega
    · have HF : Hid (fillOf l n = l ++ List.replicate j 0#8) := Lib.hid (by unfold fillOf; rw [HL.out]; congr 2; omega)
      go_wp2
      go_ret
      refine ⟨_, rfl, ?_, HB.out⟩
      rw [HF.out]
      unfold OwnB
      rw [HE.out]
      exact HO.out
abbrev Bs := List (BitVec 8)
structure Pt where
  kind : Nat
  level : Nat
  obj : Nat
  off : Nat
  birth : Nat
  hash : Bs
  ats : List Nat
structure Pt.OK (p : Pt) : Prop where
  kind : p.kind < 256
  level : p.level < 256
  obj : p.obj < 65536
  off : p.off < 4294967296
  birth : p.birth < 18446744073709551616
  hash : p.hash.length = 32
  len : p.ats.length = 4
  ats : ∀ x ∈ p.ats, x < 65536
def U16 (x : Nat) : Value := .int .u16 (x : Int)
def pnums (p : Pt) : List Value := [.int .u8 (p.kind : Int), .int .u8 (p.level : Int), .int .u16 (p.obj : Int), .int .u32 (p.off : Int), .int .u64 (p.birth : Int)]
def pcells (p : Pt) : List Value := pnums p ++ (p.hash.map V8 ++ p.ats.map U16)
theorem pcells_length {p : Pt} (h : p.OK) : (pcells p).length = 41 := by simp [pcells, pnums, h.hash, h.len]
def tailB (l : List Nat) : Bs := l.flatMap fun x => leb x 2
theorem tailB_length : ∀ l : List Nat, (tailB l).length = 2 * l.length
  | [] => rfl
  | x :: l => by
    have := tailB_length l
    simp only [tailB, List.flatMap_cons, List.length_append, leb_length, List.length_cons] at *
    omega
theorem tailB_snoc (l : List Nat) (x : Nat) : tailB (l ++ [x]) = tailB l ++ leb x 2 := by simp [tailB]
def tagB (p : Pt) : Bs := leb p.kind 1 ++ leb p.level 1 ++ leb p.obj 2 ++ leb p.off 4 ++ leb p.birth 8
theorem tagB_length (p : Pt) : (tagB p).length = 16 := by simp [tagB, leb_length]
def bodyB (p : Pt) : Bs := tagB p ++ p.hash ++ tailB p.ats
theorem bodyB_length {p : Pt} (h : p.OK) : (bodyB p).length = 56 := by simp [bodyB, tagB_length, h.hash, tailB_length, h.len]
def padB (p : Pt) : Bs := bodyB p ++ List.replicate 8 0#8
theorem padB_length {p : Pt} (h : p.OK) : (padB p).length = 64 := by simp [padB, bodyB_length h]
def pt (l : Bs) : Pt := ⟨val (l.take 1), val ((l.drop 1).take 1), val ((l.drop 2).take 2), val ((l.drop 4).take 4), val ((l.drop 8).take 8), (l.drop 16).take 32, [val ((l.drop 48).take 2), val ((l.drop 50).take 2), val ((l.drop 52).take 2), val ((l.drop 54).take 2)]⟩
def zeroP : Pt := ⟨0, 0, 0, 0, 0, List.replicate 32 0#8, [0, 0, 0, 0]⟩
def quietP (l : Bs) : Bool := (l.drop 56).all (· == 0#8)
theorem zeroP_ok : zeroP.OK := ⟨by simp [zeroP], by simp [zeroP], by simp [zeroP], by simp [zeroP], by simp [zeroP], by simp [zeroP], by simp [zeroP], by simp [zeroP]⟩
theorem val_take_lt (l : Bs) (n : Nat) : val (l.take n) < 2 ^ (8 * n) := by
  have h := val_lt (l.take n)
  have h2 : (l.take n).length ≤ n := by simp; omega
  exact Nat.lt_of_lt_of_le h (Nat.pow_le_pow_right (by omega) (by omega))
theorem pt_ok {l : Bs} (h : 64 ≤ l.length) : (pt l).OK := by
  refine ⟨val_take_lt _ 1, val_take_lt _ 1, val_take_lt _ 2, val_take_lt _ 4, val_take_lt _ 8, by simp [pt]; omega, by simp [pt], fun x hx => ?_⟩
  simp [pt] at hx
  rcases hx with rfl | rfl | rfl | rfl <;> exact val_take_lt _ 2
theorem lb_val (x : BitVec 8) (l : Bs) (k : Nat) : lb (val (x :: l)) (k + 1) = lb (val l) k := by
  apply BitVec.eq_of_toNat_eq
  rw [lb_nat, lb_nat]
  have h := x.isLt
  have e : val (x :: l) = x.toNat + val l * 256 := by simp [val]; omega
  rw [show 8 * (k + 1) = 8 + 8 * k by omega, Nat.pow_add, ← Nat.div_div_eq_div_mul]
  congr 2
  rw [e]
  omega
theorem leb_val : ∀ l : Bs, leb (val l) l.length = l
  | [] => rfl
  | x :: l => by
    have ih := leb_val l
    unfold leb at *
    rw [List.length_cons, List.range_succ_eq_map, List.map_cons, List.map_map]
    congr 1
    · apply BitVec.eq_of_toNat_eq
      rw [lb_nat]
      have h := x.isLt
      have e : val (x :: l) = x.toNat + val l * 256 := by simp [val]; omega
      rw [e]
      simp
      omega
    · have e : (List.range l.length).map (lb (val (x :: l)) ∘ Nat.succ) = (List.range l.length).map (lb (val l)) := List.map_congr_left fun k _ => lb_val x l k
      rw [e]
      exact ih
theorem leb_val_of {l : Bs} {k : Nat} (h : l.length = k) : leb (val l) k = l := by subst h; exact leb_val l
theorem all_zero : ∀ l : Bs, l.all (· == 0#8) = true → l = List.replicate l.length 0#8
  | [], _ => rfl
  | x :: l, h => by
    simp only [List.all_cons, Bool.and_eq_true, beq_iff_eq] at h
    rw [List.length_cons, List.replicate_succ, ← all_zero l h.2, h.1]
theorem bodyB_pt {l : Bs} (h : l.length = 64) : bodyB (pt l) = l.take 56 := by
  have e2 : ∀ n m, n + m ≤ 64 → leb (val ((l.drop n).take m)) m = (l.drop n).take m := fun n m hn => leb_val_of (by simp [h]; omega)
  unfold bodyB tagB pt tailB
  simp only [List.flatMap_cons, List.flatMap_nil, List.append_nil]
  rw [leb_val_of (l := l.take 1) (by simp [h]), e2 1 1 (by omega), e2 2 2 (by omega), e2 4 4 (by omega), e2 8 8 (by omega), e2 48 2 (by omega), e2 50 2 (by omega), e2 52 2 (by omega), e2 54 2 (by omega)]
  have g : ∀ n m, l.take n ++ (l.drop n).take m = l.take (n + m) := fun n m => by rw [List.take_add]
  simp only [← List.append_assoc]
  rw [g 1 1, g 2 2, g 4 4, g 8 8, g 16 32, g 48 2, g 50 2, g 52 2, g 54 2]
theorem padB_pt {l : Bs} (h : l.length = 64) : padB (pt l) = l ↔ quietP l = true := by
  unfold padB quietP
  rw [bodyB_pt h]
  constructor
  · intro e
    rw [← e]
    rw [List.drop_append_of_le_length (by simp [h])]
    simp [h]
  · intro hq
    have h1 := all_zero _ hq
    have h2 : (l.drop 56).length = 8 := by simp [h]
    rw [h2] at h1
    rw [← h1, List.take_append_drop]
theorem drop_step {l a b : Bs} {n m : Nat} (h : l.drop n = a ++ b) (ha : a.length = m) : l.drop (n + m) = b := by rw [← List.drop_drop, h, List.drop_left' ha]
theorem pt_padB {p : Pt} (h : p.OK) : pt (padB p) = p ∧ quietP (padB p) = true := by
  obtain ⟨kind, level, obj, off, birth, hash, ats⟩ := p
  obtain ⟨k1, k2, k3, k4, k5, h2, h3, h4⟩ := h
  simp only at k1 k2 k3 k4 k5 h2 h3 h4
  match ats, h3, h4 with
  | [a0, a1, a2, a3], _, h4 =>
    have b0 := h4 a0 (by simp)
    have b1 := h4 a1 (by simp)
    have b2 := h4 a2 (by simp)
    have b3 := h4 a3 (by simp)
    have v : ∀ n m, n < 2 ^ (8 * m) → val (leb n m) = n := fun n m hn => by rw [val_leb]; exact Nat.mod_eq_of_lt hn
    have L : ∀ n m, (leb n m).length = m := leb_length
    have e : padB ⟨kind, level, obj, off, birth, hash, [a0, a1, a2, a3]⟩ = leb kind 1 ++ (leb level 1 ++ (leb obj 2 ++ (leb off 4 ++ (leb birth 8 ++ (hash ++ (leb a0 2 ++ (leb a1 2 ++ (leb a2 2 ++ (leb a3 2 ++ List.replicate 8 0#8))))))))) := by
      simp [padB, bodyB, tagB, tailB]
    have d1 : (padB ⟨kind, level, obj, off, birth, hash, [a0, a1, a2, a3]⟩).drop 1 = leb level 1 ++ (leb obj 2 ++ (leb off 4 ++ (leb birth 8 ++ (hash ++ (leb a0 2 ++ (leb a1 2 ++ (leb a2 2 ++ (leb a3 2 ++ List.replicate 8 0#8)))))))) := by
      rw [e, List.drop_left' (L _ _)]
    have d2 : (padB ⟨kind, level, obj, off, birth, hash, [a0, a1, a2, a3]⟩).drop 2 = leb obj 2 ++ (leb off 4 ++ (leb birth 8 ++ (hash ++ (leb a0 2 ++ (leb a1 2 ++ (leb a2 2 ++ (leb a3 2 ++ List.replicate 8 0#8))))))) := drop_step (n := 1) (m := 1) d1 (L _ _)
    have d4 : (padB ⟨kind, level, obj, off, birth, hash, [a0, a1, a2, a3]⟩).drop 4 = leb off 4 ++ (leb birth 8 ++ (hash ++ (leb a0 2 ++ (leb a1 2 ++ (leb a2 2 ++ (leb a3 2 ++ List.replicate 8 0#8)))))) := drop_step (n := 2) (m := 2) d2 (L _ _)
    have d8 : (padB ⟨kind, level, obj, off, birth, hash, [a0, a1, a2, a3]⟩).drop 8 = leb birth 8 ++ (hash ++ (leb a0 2 ++ (leb a1 2 ++ (leb a2 2 ++ (leb a3 2 ++ List.replicate 8 0#8))))) := drop_step (n := 4) (m := 4) d4 (L _ _)
    have d16 : (padB ⟨kind, level, obj, off, birth, hash, [a0, a1, a2, a3]⟩).drop 16 = hash ++ (leb a0 2 ++ (leb a1 2 ++ (leb a2 2 ++ (leb a3 2 ++ List.replicate 8 0#8)))) := drop_step (n := 8) (m := 8) d8 (L _ _)
    have d48 : (padB ⟨kind, level, obj, off, birth, hash, [a0, a1, a2, a3]⟩).drop 48 = leb a0 2 ++ (leb a1 2 ++ (leb a2 2 ++ (leb a3 2 ++ List.replicate 8 0#8))) := drop_step (n := 16) (m := 32) d16 h2
    have d50 : (padB ⟨kind, level, obj, off, birth, hash, [a0, a1, a2, a3]⟩).drop 50 = leb a1 2 ++ (leb a2 2 ++ (leb a3 2 ++ List.replicate 8 0#8)) := drop_step (n := 48) (m := 2) d48 (L _ _)
    have d52 : (padB ⟨kind, level, obj, off, birth, hash, [a0, a1, a2, a3]⟩).drop 52 = leb a2 2 ++ (leb a3 2 ++ List.replicate 8 0#8) := drop_step (n := 50) (m := 2) d50 (L _ _)
    have d54 : (padB ⟨kind, level, obj, off, birth, hash, [a0, a1, a2, a3]⟩).drop 54 = leb a3 2 ++ List.replicate 8 0#8 := drop_step (n := 52) (m := 2) d52 (L _ _)
    have d56 : (padB ⟨kind, level, obj, off, birth, hash, [a0, a1, a2, a3]⟩).drop 56 = List.replicate 8 0#8 := drop_step (n := 54) (m := 2) d54 (L _ _)
    constructor
    · unfold pt
      rw [d1, d2, d4, d8, d16, d48, d50, d52, d54, e]
      simp only [List.take_left' (L _ _), List.take_left' h2]
      rw [v kind 1 k1, v level 1 k2, v obj 2 k3, v off 4 k4, v birth 8 k5, v a0 2 b0, v a1 2 b1, v a2 2 b2, v a3 2 b3]
    · unfold quietP
      rw [d56]
      rfl
def wideN (k : Nat) : Nat := if k < 1 ∨ 5 < k then 0 else if k = 1 then 1 else 2
def lowN (k : Nat) : Nat := if k = 3 then 1 else 0
def highN (k : Nat) : Nat := if k = 3 then 2 else 0
def copiesFrom : Nat → List Nat → List (Nat × Nat)
  | _, [] => []
  | i, a :: l => if a = 0 then copiesFrom (i + 1) l else (i / 2, a) :: copiesFrom (i + 1) l
def copiesP (p : Pt) : List (Nat × Nat) := copiesFrom 0 p.ats
def sweep : List (Nat × Nat) → Bool × Nat × Nat → Option (Bool × Nat × Nat)
  | [], s => some s
  | (d, a) :: r, (_, x, y) => if a = (if d = 0 then x else y) then none else sweep r (if d = 0 then (true, a, y) else (true, x, a))
def apartP (p : Pt) : Bool := match sweep (copiesP p) (false, 0, 0) with
  | none => false
  | some s => s.1
theorem sweep_append : ∀ (l m : List (Nat × Nat)) (s : Bool × Nat × Nat), sweep (l ++ m) s = (sweep l s).bind (sweep m)
  | [], _, _ => rfl
  | (d, a) :: l, m, (f, x, y) => by
    by_cases hd : a = (if d = 0 then x else y)
    · show (if _ then _ else _) = Option.bind (if _ then _ else _) _
      rw [if_pos hd, if_pos hd]; rfl
    · show (if _ then _ else _) = Option.bind (if _ then _ else _) _
      rw [if_neg hd, if_neg hd]; exact sweep_append l m _
def placedP (p : Pt) : Bool := (List.range 4).all fun i => decide (p.ats.getD i 0 = 0 ∨ i % 2 < wideN p.kind)
def mayP (p : Pt) : Bool := decide (lowN p.kind ≤ p.level ∧ p.level ≤ highN p.kind) && placedP p && apartP p
def mayR (p : Pt) : Bool :=
  if p.kind < 1 ∨ 5 < p.kind then false
  else if (p.kind = 3 ∧ (p.level < 1 ∨ 2 < p.level)) ∨ (p.kind ≠ 3 ∧ p.level ≠ 0) then false
  else if p.ats = [0, 0, 0, 0] then false
  else if (p.ats.getD 0 0 ≠ 0 ∧ p.ats.getD 0 0 = p.ats.getD 1 0) ∨ (p.ats.getD 2 0 ≠ 0 ∧ p.ats.getD 2 0 = p.ats.getD 3 0) then false
  else decide (p.kind ≠ 1 ∨ (p.ats.getD 1 0 = 0 ∧ p.ats.getD 3 0 = 0))
theorem mayP_eq {p : Pt} (h : p.ats.length = 4) : mayP p = mayR p := by
  obtain ⟨kind, level, obj, off, birth, hash, ats⟩ := p
  match ats, h with
  | [a, b, c, d], _ =>
    by_cases k0 : kind < 1 ∨ 5 < kind
    · simp only [mayR, if_pos k0]
      have hw : wideN kind = 0 := by unfold wideN; rw [if_pos k0]
      by_cases hz : a = 0 ∧ b = 0 ∧ c = 0 ∧ d = 0
      · obtain ⟨rfl, rfl, rfl, rfl⟩ := hz
        simp [mayP, apartP, copiesP, copiesFrom, sweep]
      · have : placedP ⟨kind, level, obj, off, birth, hash, [a, b, c, d]⟩ = false := by
          simp only [placedP, hw, List.range_succ, List.range_zero, List.nil_append, List.cons_append, List.all_cons, List.all_nil]
          simp
          omega
        simp [mayP, this]
    · simp only [mayR, if_neg k0]
      by_cases k1 : (kind = 3 ∧ (level < 1 ∨ 2 < level)) ∨ (kind ≠ 3 ∧ level ≠ 0)
      · rw [if_pos k1]
        have : decide (lowN kind ≤ level ∧ level ≤ highN kind) = false := by
          apply decide_eq_false
          unfold lowN highN
          split <;> omega
        simp [mayP, this]
      · rw [if_neg k1]
        have h1 : decide (lowN kind ≤ level ∧ level ≤ highN kind) = true := by
          apply decide_eq_true
          unfold lowN highN
          split <;> omega
        have hw : wideN kind = if kind = 1 then 1 else 2 := by unfold wideN; rw [if_neg k0]
        have hp : placedP ⟨kind, level, obj, off, birth, hash, [a, b, c, d]⟩ = decide (kind ≠ 1 ∨ (b = 0 ∧ d = 0)) := by
          simp only [placedP, hw, List.range_succ, List.range_zero, List.nil_append, List.cons_append, List.all_cons, List.all_nil]
          by_cases hk : kind = 1
          · simp [hk]
          · simp [hk]
        have ha : apartP ⟨kind, level, obj, off, birth, hash, [a, b, c, d]⟩ = (!decide ([a, b, c, d] = [0, 0, 0, 0]) && !decide ((a ≠ 0 ∧ a = b) ∨ (c ≠ 0 ∧ c = d))) := by
          clear hp hw h1 k0 k1 h
          simp only [apartP, copiesP, copiesFrom, eq_comm (a := a) (b := b), eq_comm (a := c) (b := d)]
          by_cases a0 : a = 0 <;> by_cases b0 : b = 0 <;> by_cases c0 : c = 0 <;> by_cases d0 : d = 0 <;> by_cases ab : b = a <;> by_cases cd : d = c <;> simp_all [sweep]
        simp only [mayP, h1, hp, ha, Bool.true_and]
        by_cases z : [a, b, c, d] = [0, 0, 0, 0]
        · simp [z]
        · rw [if_neg z]
          simp only [List.getD_cons_zero, List.getD_cons_succ]
          by_cases y : (a ≠ 0 ∧ a = b) ∨ (c ≠ 0 ∧ c = d)
          · rw [if_pos y]; simp [y]
          · rw [if_neg y]; simp [y, z]
section
variable {ops : Array Oper} {Q : Exit → Act → World → Prop} {S : World → Prop}
theorem wpG_mk {i : Nat} {r : Tr} {a : Act} {w : World} (o : Oper) (hi : ops.toList[i]? = some o) (hw : Region.wanted o (yielded ops a.tmps) = true) (v : Value) (w1 : World) (hrun : (execOp a.eval o).run Tryz.prog w = .ok (.value v) w1)
    (S' : World → Prop) (hS : S' w1) (hSS : ∀ w, S' w → S w) (h : wpG Tryz.prog ops Q r S' (a.put o.dst v) w1) : wpG Tryz.prog ops Q (.step i r) S a w := by
  show wpOp Tryz.prog ops Q i _ a w
  unfold wpOp
  simp only [of_list hi]
  rw [if_pos hw]
  refine .inl ?_
  unfold Oper.wp
  rw [hrun]
  exact ⟨hSS _ hS, S', hSS, hS, h⟩
end
theorem wpL_val {ops : Array Oper} {rest : List Oper} {o : Oper} {a : Act} {Q : Exit → Act → World → Prop} {w w' : World} {v : Value} (hg : o.guard = none) (hrun : (execOp a.eval o).run Tryz.prog w = .ok (.value v) w')
    (hK : wpList Tryz.prog ops Q rest (a.put o.dst v) w') : wpList Tryz.prog ops Q (o :: rest) a w := by
  refine wpList_plain hg fun K' hK' => ?_
  unfold Oper.wp
  rw [hrun]
  exact hK' _ _ hK
theorem ex_ld {ρ : Operand → Value} {o : Oper} {x : Operand} {ty : TypeId} {b off : Nat} {cs : List Value} {d : TypeDesc} {w : World} (ho : o.op = .load ty x) (hx : ρ x = .pointer (some ⟨b, off, none⟩)) (hc : w.rangeAt b off cs) (hu : Tryz.prog.underlying ty = some d) (hd : d.isRow = true) (hi : (Tryz.prog.info? ty).map (·.size) = some cs.length) : (execOp ρ o).run Tryz.prog w = .ok (.value (.agg cs.toArray)) w := by
  have hr := run_loadAt_mid (P := Tryz.prog) w b off ty cs d hc hu hd hi
  unfold execOp
  simp only [ho, hx]
  simp only [Sem.run_bind, hr, Result.andThen_ok, Sem.run_pure]
theorem sizeP : (Tryz.prog.info? 28).map (·.size) = some 41 := by kernel_rfl
theorem sizeAts : (Tryz.prog.info? 26).map (·.size) = some 4 := by kernel_rfl
theorem sizeA32 : (Tryz.prog.info? 25).map (·.size) = some 32 := by kernel_rfl
theorem sizeU16 : (Tryz.prog.info? 23).map (·.size) = some 1 := by kernel_rfl
theorem sizeRule : (Tryz.prog.info? 158).map (·.size) = some 3 := by kernel_rfl
theorem ex_faP {ρ : Operand → Value} {o : Oper} {x : Operand} {g : Nat} {w : World} (j k : Nat) (hj : (j = 0 ∧ k = 0) ∨ (j = 1 ∧ k = 1) ∨ (j = 2 ∧ k = 2) ∨ (j = 3 ∧ k = 3) ∨ (j = 4 ∧ k = 4) ∨ (j = 5 ∧ k = 5) ∨ (j = 6 ∧ k = 37)) (ho : o.op = .fieldAddr 28 x j) (hx : ρ x = .pointer (some ⟨g, 0, none⟩)) : (execOp ρ o).run Tryz.prog w = .ok (.value (.pointer (some ⟨g, k, none⟩))) w := by
  unfold execOp
  simp only [ho]
  rcases hj with ⟨rfl, rfl⟩ | ⟨rfl, rfl⟩ | ⟨rfl, rfl⟩ | ⟨rfl, rfl⟩ | ⟨rfl, rfl⟩ | ⟨rfl, rfl⟩ | ⟨rfl, rfl⟩ <;> go_simp
theorem isAgg_int {t : TypeId} {k : IntKind} (h : Tryz.prog.underlying t = some (.int k)) (W : World) : (isAgg t).run Tryz.prog W = .ok false W := by
  unfold isAgg
  rw [Sem.run_bind, run_underlying h W]; rfl
theorem isAgg_arr {t e : TypeId} {n : Nat} (h : Tryz.prog.underlying t = some (.array n e)) (W : World) : (isAgg t).run Tryz.prog W = .ok true W := by
  unfold isAgg
  rw [Sem.run_bind, run_underlying h W]; rfl
theorem ex_ld1 {ρ : Operand → Value} {o : Oper} {x : Operand} {ad : Addr} {v : Value} {w : World} {ty : TypeId} {k : IntKind} (hu : Tryz.prog.underlying ty = some (.int k)) (ho : o.op = .load ty x) (hx : ρ x = .pointer (some ad)) (hc : w.cell? ad = some v) : (execOp ρ o).run Tryz.prog w = .ok (.value v) w := by
  have h := isAgg_int hu w
  unfold execOp
  simp only [ho]
  go_simp
theorem ex_slH {ρ : Operand → Value} {o : Oper} {x : Operand} {b : Nat} {w : World} (ho : o.op = .slice 25 x none none none) (hx : ρ x = .pointer (some ⟨b, 5, none⟩)) : (execOp ρ o).run Tryz.prog w = .ok (.value (.slice (some ⟨b, 5, none⟩) 32 32)) w := by
  unfold execOp
  simp only [ho]
  go_simp
theorem ex_appB {ρ : Operand → Value} {o : Oper} {x y : Operand} {v u v' : Value} {w w' : World} (ho : o.op = .call { callee := .builtin .append, args := #[x, y], argTypes := #[29, 29] }) (hx : ρ x = v) (hy : ρ y = u)
    (hr : (Builtin.append_ #[29, 29] o.type #[v, u]).run Tryz.prog w = .ok v' w') : (execOp ρ o).run Tryz.prog w = .ok (.value v') w' := by
  unfold execOp
  simp only [ho, resolve, invoke, builtin, Sem.run_bind, Sem.run_pure, Result.andThen_ok, List.map_toArray, List.map_cons, List.map_nil, hx, hy, hr]
theorem ownB_app {w : World} {B : Nat} {v : Value} {l m : Bs} (h : OwnB w B v l) (hB : B ≤ w.heap.size) (hl : l.length + m.length ≤ 1000000) {g off c : Nat} (hsrc : w.rangeAt g off (m.map V8)) (ty : TypeId) :
    ∃ v' w', (Builtin.append_ #[29, 29] ty #[v, .slice (some ⟨g, off, none⟩) m.length c]).run Tryz.prog w = .ok v' w' ∧ OwnB w' B v' (l ++ m) ∧ Below B w w' := by
  obtain ⟨i0, hi, hz0, hz1, hz2⟩ := info_parts infoB
  obtain ⟨v', w', hr, h2, h3, _, h5⟩ := run_append_own_at (P := Tryz.prog) w B 29 ty 5 i0 (.int .u8 0) 1 1 Tryz.underlying29 hi hz0 hz1 hz2 rfl (by decide) v l.length (l.map V8) h ⟨g, off, none⟩ m.length c (m.map V8) (by simp) (fun j u hj => by rw [Addr.add_mid]; exact hsrc j u hj) (one_v8 m) (by unfold maxLen; omega) (by omega) hB
  refine ⟨v', w', hr, ?_, (Below.refl _ _).grown h3 hB (fun k hk => (h.lt k hk).1)⟩
  unfold OwnB
  rw [List.map_append, List.length_append]
  exact h2
theorem Blk.rng {w : World} {g : Nat} {cs : List Value} {t : TypeId} (h : Blk w g cs t) (A M Z : List Value) (e : cs = A ++ (M ++ Z)) : w.rangeAt g A.length M := h.range _ _ fun j v hv => by
  subst e
  have hj := (List.getElem?_eq_some_iff.1 hv).1
  rw [List.getElem?_append_right (by omega), List.getElem?_append_left (by omega)]
  rw [show A.length + j - A.length = j by omega]
  exact hv
theorem rng_hash {w : World} {g : Nat} {p : Pt} {t : TypeId} (h : Blk w g (pcells p) t) : w.rangeAt g 5 (p.hash.map V8) := h.rng (pnums p) (p.hash.map V8) (p.ats.map U16) rfl
theorem rng_ats {w : World} {g : Nat} {p : Pt} {t : TypeId} (h : Blk w g (pcells p) t) (hp : p.hash.length = 32) : w.rangeAt g 37 (p.ats.map U16) := by
  have := h.rng (pnums p ++ p.hash.map V8) (p.ats.map U16) [] (by simp [pcells])
  simpa [hp, pnums] using this
theorem rng_all {w : World} {g : Nat} {cs : List Value} {t : TypeId} (h : Blk w g cs t) : w.rangeAt g 0 cs := h.range _ _ fun j v hv => by simpa using hv
theorem cell_hash {w : World} {g : Nat} {p : Pt} {t : TypeId} (h : Blk w g (pcells p) t) {k : Nat} {x : BitVec 8} (hx : p.hash[k]? = some x) : w.cell? ⟨g, 5 + k, none⟩ = some (V8 x) := rng_hash h k (V8 x) (by simp [hx])
theorem cell_ats {w : World} {g : Nat} {p : Pt} {t : TypeId} (h : Blk w g (pcells p) t) (hp : p.hash.length = 32) {k x : Nat} (hx : p.ats[k]? = some x) : w.cell? ⟨g, 37 + k, none⟩ = some (.int .u16 (x : Int)) := rng_ats h hp k (.int .u16 (x : Int)) (by simp [hx, U16])
/-! Equality. -/
theorem eqFields_dec (d : Nat) (xs ys : Array Value) (W : World) (B : TypeId × Nat → Bool) : ∀ fs : List Field, (∀ f ∈ fs, f.name ≠ "_" ∧ ∃ x y, (Go.part f.type xs f.offset).run Tryz.prog W = .ok x W ∧ (Go.part f.type ys f.offset).run Tryz.prog W = .ok y W ∧ (Op.equalIn d f.type x y).run Tryz.prog W = .ok (B (f.type, f.offset)) W) →
    (Op.eqFields d xs ys fs).run Tryz.prog W = .ok ((fs.map fun f => (f.type, f.offset)).all B) W
  | [], _ => by simp [Op.eqFields]
  | f :: fs, h => by
    obtain ⟨hn, x, y, h1, h2, h3⟩ := h f (by simp)
    have ih := eqFields_dec d xs ys W B fs (fun g hg => h g (by simp [hg]))
    unfold Op.eqFields
    rw [if_pos hn]
    simp only [Sem.run_bind, h1, h2, h3, Result.andThen_ok]
    cases hB : B (f.type, f.offset)
    · simp [hB]
    · simpa [hB] using ih
theorem eqItems_dec (d : Nat) (e : TypeId) (k : Nat) (xs ys : Array Value) (W : World) (B : Nat → Bool) : ∀ is : List Nat, (∀ i ∈ is, ∃ x y, (Go.part e xs (i * k)).run Tryz.prog W = .ok x W ∧ (Go.part e ys (i * k)).run Tryz.prog W = .ok y W ∧ (Op.equalIn d e x y).run Tryz.prog W = .ok (B i) W) →
    (Op.eqItems d e k xs ys is).run Tryz.prog W = .ok (is.all B) W
  | [], _ => by simp [Op.eqItems]
  | i :: is, h => by
    obtain ⟨x, y, h1, h2, h3⟩ := h i (by simp)
    have ih := eqItems_dec d e k xs ys W B is (fun g hg => h g (by simp [hg]))
    unfold Op.eqItems
    simp only [Sem.run_bind, h1, h2, h3, Result.andThen_ok]
    cases hB : B i
    · simp [hB]
    · simpa [hB] using ih
theorem part_one {t : TypeId} {k : IntKind} (h : Tryz.prog.underlying t = some (.int k)) {xs : Array Value} {off : Nat} {v : Value} (hv : xs[off]? = some v) (W : World) : (Go.part t xs off).run Tryz.prog W = .ok v W := by
  unfold Go.part
  simp only [Sem.run_bind, isAgg_int h W, Result.andThen_ok, hv]
  rfl
theorem part_arr {t e : TypeId} {n m : Nat} (h : Tryz.prog.underlying t = some (.array n e)) (hs : (Tryz.prog.info? t).map (·.size) = some m) (xs : Array Value) (off : Nat) (W : World) : (Go.part t xs off).run Tryz.prog W = .ok (.agg (xs.extract off (off + m))) W := by
  obtain ⟨i, h1, h2⟩ := Option.map_eq_some_iff.1 hs
  have hsz : (sizeOf t).run Tryz.prog W = .ok m W := by simp [sizeOf, typeInfo, h1, h2]
  unfold Go.part
  simp only [Sem.run_bind, isAgg_arr h W, Result.andThen_ok, hsz, if_true]
  rfl
theorem ext_hash {p : Pt} (hp : p.OK) : (pcells p).toArray.extract 5 (5 + 32) = (p.hash.map V8).toArray := by
  apply Array.toList_inj.1
  have hh := hp.hash
  simp [pcells, pnums, List.extract]
  rw [List.take_append_of_le_length (by simp [hh])]
  exact List.take_of_length_le (by simp [hh])
theorem ext_ats {p : Pt} (hp : p.OK) : (pcells p).toArray.extract 37 (37 + 4) = (p.ats.map U16).toArray := by
  apply Array.toList_inj.1
  have hh := hp.hash
  have hl := hp.len
  have e : pcells p = (pnums p ++ p.hash.map V8) ++ p.ats.map U16 := by simp [pcells]
  rw [e]
  simp only [List.extract_toArray, List.extract]
  rw [List.drop_left' (by simp [hh, pnums])]
  exact List.take_of_length_le (by simp [hl])
theorem map_ofBitVec_inj : ∀ x y : Bs, x.map UInt8.ofBitVec = y.map UInt8.ofBitVec → x = y
  | [], [], _ => rfl
  | [], _ :: _, h => by simp at h
  | _ :: _, [], h => by simp at h
  | u :: x, v :: y, h => by
    simp only [List.map_cons, List.cons.injEq] at h
    have h1 : u = v := by have := congrArg UInt8.toBitVec h.1; simpa using this
    rw [h1, map_ofBitVec_inj x y h.2]
theorem eq_hash {a b : Bs} (ha : a.length = 32) (hb : b.length = 32) (d : Nat) (W : World) : (Op.equalIn (d + 2) 25 (.agg (a.map V8).toArray) (.agg (b.map V8).toArray)).run Tryz.prog W = .ok (decide (a = b)) W := by
  have h := run_equalIn_bytes (P := Tryz.prog) W d 25 5 32 Tryz.underlying25 Tryz.underlying5 sizeOfB (a.map UInt8.ofBitVec) (b.map UInt8.ofBitVec) (by simpa using ha) (by simpa using hb)
  have e : ∀ l : Bs, (l.map UInt8.ofBitVec).map Extern.Stop.cell = l.map V8 := fun l => by
    rw [List.map_map]; rfl
  rw [e, e] at h
  rw [h]
  refine congrArg (fun b => Result.ok b W) ?_
  by_cases hab : a = b
  · subst hab; simp
  · rw [decide_eq_false hab]
    rw [beq_eq_false_iff_ne]
    exact fun e => hab (map_ofBitVec_inj a b e)
theorem ats_all {a b : List Nat} (ha : a.length = 4) (hb : b.length = 4) : ((List.range 4).all fun i => decide (a.getD i 0 = b.getD i 0)) = decide (a = b) := by
  match a, ha, b, hb with
  | [a0, a1, a2, a3], _, [b0, b1, b2, b3], _ =>
    simp [List.range_succ]
theorem eq_ats {a b : List Nat} (ha : a.length = 4) (hb : b.length = 4) (d : Nat) (W : World) : (Op.equalIn (d + 2) 26 (.agg (a.map U16).toArray) (.agg (b.map U16).toArray)).run Tryz.prog W = .ok (decide (a = b)) W := by
  obtain ⟨i, h1, h2⟩ := Option.map_eq_some_iff.1 sizeU16
  rw [run_equalIn_array W (d + 1) _ _ Tryz.underlying26 h1, ← ats_all ha hb]
  refine eqItems_dec _ _ _ _ _ W _ _ (fun j hj => ?_)
  have hj4 : j < 4 := List.mem_range.1 hj
  have hc : Tryz.prog.cellsOf 23 = 1 := by kernel_rfl
  refine ⟨U16 (a.getD j 0), U16 (b.getD j 0), part_one Tryz.underlying23 (by rw [hc, Nat.mul_one]; simp [ha, hj4, List.getD_eq_getElem?_getD]) W, part_one Tryz.underlying23 (by rw [hc, Nat.mul_one]; simp [hb, hj4, List.getD_eq_getElem?_getD]) W, ?_⟩
  unfold U16
  rw [run_equalIn_int W d 23 .u16 .u16 _ _ Tryz.underlying23]
  refine congrArg (fun b => Result.ok b W) ?_
  rw [Bool.eq_iff_iff]
  simp
  omega
theorem fieldsP : (Tryz.prog.fieldsOf 28).toList.map (fun f => (f.type, f.offset)) = [(5, 0), (5, 1), (23, 2), (24, 3), (22, 4), (25, 5), (26, 37)] := by kernel_rfl
theorem namesP : ((Tryz.prog.fieldsOf 28).toList.all fun f => f.name != "_") = true := by kernel_rfl
def eqAt (p q : Pt) (f : TypeId × Nat) : Bool :=
  if f.2 = 0 then decide (p.kind = q.kind) else if f.2 = 1 then decide (p.level = q.level) else if f.2 = 2 then decide (p.obj = q.obj) else if f.2 = 3 then decide (p.off = q.off) else if f.2 = 4 then decide (p.birth = q.birth) else if f.2 = 5 then decide (p.hash = q.hash) else decide (p.ats = q.ats)
def eqP (p q : Pt) : Bool := decide (p.kind = q.kind) && decide (p.level = q.level) && decide (p.obj = q.obj) && decide (p.off = q.off) && decide (p.birth = q.birth) && decide (p.hash = q.hash) && decide (p.ats = q.ats)
theorem eqP_iff {p q : Pt} : eqP p q = true ↔ p = q := by
  obtain ⟨a1, a2, a3, a4, a5, a6, a7⟩ := p
  obtain ⟨b1, b2, b3, b4, b5, b6, b7⟩ := q
  simp [eqP, and_assoc]
theorem eqP_same (p : Pt) : eqP p p = true := eqP_iff.2 rfl
theorem run_eqP {p q : Pt} (hp : p.OK) (hq : q.OK) (W : World) : (Op.equalIn 10000 28 (.agg (pcells p).toArray) (.agg (pcells q).toArray)).run Tryz.prog W = .ok (eqP p q) W := by
  rw [run_equalIn_struct W 9999 28 _ _ (by kernel_rfl) (by kernel_rfl)]
  have e : eqP p q = (((Tryz.prog.fieldsOf 28).toList.map fun f => (f.type, f.offset)).all (eqAt p q)) := by
    rw [fieldsP]
    simp [eqAt, eqP, Bool.and_assoc]
  rw [e]
  refine eqFields_dec _ _ _ W _ _ (fun f hm => ⟨?_, ?_⟩)
  · have := List.all_eq_true.1 namesP f hm
    simpa using this
  have h1 : (f.type, f.offset) ∈ (Tryz.prog.fieldsOf 28).toList.map (fun f => (f.type, f.offset)) := List.mem_map.2 ⟨f, hm, rfl⟩
  rw [fieldsP] at h1
  simp only [List.mem_cons, Prod.mk.injEq, List.not_mem_nil, or_false] at h1
  have hi : ∀ (t : TypeId) (k : IntKind) (a b : Nat), Tryz.prog.underlying t = some (.int k) → (Op.equalIn 9999 t (.int k (a : Int)) (.int k (b : Int))).run Tryz.prog W = .ok (decide (a = b)) W := fun t k a b ht => by
    rw [run_equalIn_int W 9998 t k k _ _ ht]
    refine congrArg (fun b => Result.ok b W) ?_
    rw [Bool.eq_iff_iff]
    simp
    omega
  rcases h1 with ⟨e1, e2⟩ | ⟨e1, e2⟩ | ⟨e1, e2⟩ | ⟨e1, e2⟩ | ⟨e1, e2⟩ | ⟨e1, e2⟩ | ⟨e1, e2⟩ <;> rw [e1, e2]
  · exact ⟨_, _, part_one Tryz.underlying5 (v := .int .u8 (p.kind : Int)) rfl W, part_one Tryz.underlying5 (v := .int .u8 (q.kind : Int)) rfl W, hi _ _ _ _ Tryz.underlying5⟩
  · exact ⟨_, _, part_one Tryz.underlying5 (v := .int .u8 (p.level : Int)) rfl W, part_one Tryz.underlying5 (v := .int .u8 (q.level : Int)) rfl W, hi _ _ _ _ Tryz.underlying5⟩
  · exact ⟨_, _, part_one Tryz.underlying23 (v := .int .u16 (p.obj : Int)) rfl W, part_one Tryz.underlying23 (v := .int .u16 (q.obj : Int)) rfl W, hi _ _ _ _ Tryz.underlying23⟩
  · exact ⟨_, _, part_one Tryz.underlying24 (v := .int .u32 (p.off : Int)) rfl W, part_one Tryz.underlying24 (v := .int .u32 (q.off : Int)) rfl W, hi _ _ _ _ Tryz.underlying24⟩
  · exact ⟨_, _, part_one Tryz.underlying22 (v := .int .u64 (p.birth : Int)) rfl W, part_one Tryz.underlying22 (v := .int .u64 (q.birth : Int)) rfl W, hi _ _ _ _ Tryz.underlying22⟩
  · refine ⟨_, _, part_arr Tryz.underlying25 sizeA32 _ _ W, part_arr Tryz.underlying25 sizeA32 _ _ W, ?_⟩
    rw [ext_hash hp, ext_hash hq]
    exact eq_hash hp.hash hq.hash 9997 W
  · refine ⟨_, _, part_arr Tryz.underlying26 sizeAts _ _ W, part_arr Tryz.underlying26 sizeAts _ _ W, ?_⟩
    rw [ext_ats hp, ext_ats hq]
    exact eq_ats hp.len hq.len 9997 W
section
variable {ρ : Operand → Value} {o : Oper} {x y : Operand} {p q : Pt} {w : World}
theorem ex_neP (ho : o.op = .binOp .neq 28 x y 28) (hx : ρ x = .agg (pcells p).toArray) (hy : ρ y = .agg (pcells q).toArray) (hp : p.OK) (hq : q.OK) : (execOp ρ o).run Tryz.prog w = .ok (.value (.bool (!eqP p q))) w := by
  have h := run_eqP hp hq w
  unfold execOp
  have hg := run_eqGuard_agg (P := Tryz.prog) w .neq 28 x y (pcells p).toArray (pcells q).toArray (by kernel_rfl)
  simp only [ho, hx, hy, Sem.run_bind, hg, run_neq_struct, h, Result.andThen_ok, Sem.run_pure]
theorem ex_eqP (ho : o.op = .binOp .eql 28 x y 28) (hx : ρ x = .agg (pcells p).toArray) (hy : ρ y = .agg (pcells q).toArray) (hp : p.OK) (hq : q.OK) : (execOp ρ o).run Tryz.prog w = .ok (.value (.bool (eqP p q))) w := by
  have h := run_eqP hp hq w
  unfold execOp
  have hg := run_eqGuard_agg (P := Tryz.prog) w .eql 28 x y (pcells p).toArray (pcells q).toArray (by kernel_rfl)
  simp only [ho, hx, hy, Sem.run_bind, hg, run_eql_struct, h, Result.andThen_ok, Sem.run_pure]
theorem ex_eqAts {a b : List Nat} (ho : o.op = .binOp .eql 26 x y 26) (hx : ρ x = .agg (a.map U16).toArray) (hy : ρ y = .agg (b.map U16).toArray) (ha : a.length = 4) (hb : b.length = 4) : (execOp ρ o).run Tryz.prog w = .ok (.value (.bool (decide (a = b)))) w := by
  have h := eq_ats ha hb 9998 w
  unfold execOp
  simp only [ho]
  go_simp
theorem ex_bld0 (ho : o.op = .build 28 #[]) : (execOp ρ o).run Tryz.prog w = .ok (.value (.agg (pcells zeroP).toArray)) w := by
  have hr : (Instr.build 28 #[]).run Tryz.prog w = .ok (.agg (pcells zeroP).toArray) w := run_build w 28 _ _ (by kernel_rfl)
  unfold execOp
  simp only [ho]
  simp only [List.map_toArray, List.map_nil, Sem.run_bind, hr, Result.andThen_ok, Sem.run_pure]
end
end Go.Proofs.YtjgjohdeeeoeoaaGreatDoor
