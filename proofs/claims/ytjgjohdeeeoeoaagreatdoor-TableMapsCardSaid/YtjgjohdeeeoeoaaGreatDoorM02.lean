/- How many bytes a number has; a number put behind bytes. -/
import Derived.Test.YtjgjohdeeeoeoaaGreatDoorM01
set_option linter.all false
namespace Go.Proofs.YtjgjohdeeeoeoaaGreatDoor
open Go.RowKit
variable {bs l : List (BitVec 8)} {B H e g : Nat} {K : Nat → Prop} {sp : Option Addr} {W w : World}
set_option maxRecDepth 100000 in
theorem Nc (w : World) : Calls Tryz.prog 103 #[.int .u64 255] w fun e w' => e = .returned (.int .i64 8) ∧ w = w' := by
 go_enter Tryz.func103, Tryz.ntmps103
 go_wp2
 go_ret;exact ⟨by kernel_rfl, rfl⟩
theorem Zi (w : World) : Calls Tryz.prog 104 #[] w fun e w' => e = .returned (.int .i64 1) ∧ w = w' := by
 go_enter Tryz.func104, Tryz.ntmps104
 go_wp2_with (go_at_call 103; refine (Nc _).mono ?_; rintro e w' ⟨rfl, rfl⟩)
 go_ret;exact ⟨rfl, rfl⟩
set_option maxRecDepth 100000 in
theorem I4 (w : World) : Calls Tryz.prog 103 #[.int .u64 65535] w fun e w' => e = .returned (.int .i64 16) ∧ w = w' := by
 go_enter Tryz.func103, Tryz.ntmps103
 go_wp2
 go_ret;exact ⟨by kernel_rfl, rfl⟩
theorem Gm (w : World) : Calls Tryz.prog 102 #[] w fun e w' => e = .returned (.int .i64 2) ∧ w = w' := by
 go_enter Tryz.func102, Tryz.ntmps102
 go_wp2_with (go_at_call 103; refine (I4 _).mono ?_; rintro e w' ⟨rfl, rfl⟩)
 go_ret;exact ⟨rfl, rfl⟩
set_option maxRecDepth 100000 in
theorem I5 (w : World) : Calls Tryz.prog 103 #[.int .u64 4294967295] w fun e w' => e = .returned (.int .i64 32) ∧ w = w' := by
 go_enter Tryz.func103, Tryz.ntmps103
 go_wp2
 go_ret;exact ⟨by kernel_rfl, rfl⟩
theorem Gn (w : World) : Calls Tryz.prog 105 #[] w fun e w' => e = .returned (.int .i64 4) ∧ w = w' := by
 go_enter Tryz.func105, Tryz.ntmps105
 go_wp2_with (go_at_call 103; refine (I5 _).mono ?_; rintro e w' ⟨rfl, rfl⟩)
 go_ret;exact ⟨rfl, rfl⟩
set_option maxRecDepth 100000 in
theorem I6 (w : World) : Calls Tryz.prog 103 #[.int .u64 18446744073709551615] w fun e w' => e = .returned (.int .i64 64) ∧ w = w' := by
 go_enter Tryz.func103, Tryz.ntmps103
 go_wp2
 go_ret;exact ⟨by kernel_rfl, rfl⟩
theorem Gp (w : World) : Calls Tryz.prog 80 #[] w fun e w' => e = .returned (.int .i64 8) ∧ w = w' := by
 go_enter Tryz.func80, Tryz.ntmps80
 go_wp2_with (go_at_call 103; refine (I6 _).mono ?_; rintro e w' ⟨rfl, rfl⟩)
 go_ret;exact ⟨rfl, rfl⟩
def o7 (l : List (BitVec 8)) (m : Nat) (w : World) (s : Value) (wr : World) : Prop :=
 s = .slice (some ⟨w.heap.size, 0, none⟩) l.length m ∧ OwnB wr w.heap.size (.slice (some ⟨w.heap.size, 0, none⟩) l.length m) l ∧ Below w.heap.size w wr
theorem qv {w1 : World} {n m : Nat} (h : w1.heap[g]? = some (.cells (splice (List.replicate m (.int .u8 0)) 0 (l.map V8)).toArray 5 (0, 0))) (hn : l.length = n) (hm : n ≤ m) (hx : m ≤ maxLen) (hB : B ≤ g) :
  OwnB w1 B (.slice (some ⟨g, 0, none⟩) n m) l := by
 subst hn;refine ⟨by simp, .inr ⟨g, m, _, rfl, hB, h, hm, hx, ?_, ?_⟩⟩
 ·simp only [List.size_toArray, Nat.mul_one]
  rw [length_splice _ _ _ (by simp; omega)]; simp
 ·simp [splice]
theorem qt (w : World) (v : Value) (t : TypeId) : ∀ j u, [v][j]? = some u → (w.alloc (.cells #[v] t)).cell? ((⟨w.heap.size, 0, none⟩ : Addr).add j) = some u := by
 intro j u hj
 match j, hj with
 | 0, hj => simp at hj; subst hj; simp [Addr.add]
theorem nt (x : BitVec 8) : ∀ u ∈ [V8 x], u.oneCell' = true := by
 intro u hu; simp at hu; subst hu; rfl
theorem vo (h : SrcA w sp bs) : 0 < (bs.map V8).length → (some (⟨g, 0, none⟩ : Addr)) = some ⟨g, 0, none⟩ ∧ ∃ ad, sp = some ad ∧ ∀ j v, (bs.map V8)[j]? = some v → w.cell? (ad.add j) = some v := fun h0 => by
 obtain ⟨g', o, rfl, _, hc⟩ := h (by simpa using h0);exact ⟨rfl, _, rfl, nu hc⟩
set_option maxRecDepth 100000 in
set_option maxHeartbeats 1000000 in
theorem Pp (l : List (BitVec 8)) (sp : Option Addr) (cap n : Nat) (w : World) (hl : l.length ≤ 100000) (hn : n < 2 ^ 16) (hS : SrcA w sp l) :
  Calls Tryz.prog 78 #[.slice sp l.length cap, .int .u16 (n : Int)] w fun e w' => e = .returned (.slice (some ⟨w.heap.size, 0, none⟩) (l.length + 2) (l.length + 2)) ∧
   OwnB w' w.heap.size (.slice (some ⟨w.heap.size, 0, none⟩) (l ++ leb n 2).length (l.length + 2)) (l ++ leb n 2) ∧ Below w.heap.size w w' := by
 obtain ⟨i0, hi, ad, a4, ae⟩ := info_parts po;have HS := zH hS;obtain ⟨L, hL⟩ : ∃ L, l.length = L := ⟨_, rfl⟩;rw [hL] at hl ⊢;have HL := zH hL;clear hS hL;have hw := u64_in n (by omega);clear hn;go_enter Tryz.func78, Tryz.ntmps78
 go_wp2_with (first
  | (go_at_call 102; refine (Gm _).mono ?_; rintro e w' ⟨rfl, rfl⟩)
  | (at_make; refine iq rfl _ _ 29 rfl 5 i0 (.int .u8 0) Tryz.underlying29 hi ad rfl a4 .i64 .i64 _ _ L (L + 2) rfl rfl rfl (by omega) (by omega) (by rw [ae]; omega) (by unfold maxLen; omega) ?_; intro w1 hb1 hb2; have a5 := zH hb1; have a3 := zH hb2; clear hb1 hb2)
  | (refine wpList_copy_splice rfl (.tmp 14) (.tmp 15) 29 29 rfl 5 Tryz.underlying29 y8 (some ⟨w.heap.size, 0, none⟩) sp L (L + 2) L cap rfl rfl w.heap.size 0 _ 5 a5.out (l.map V8) (by rw [List.length_map, HL.out]; simp) (vo (HS.out.grown a3.out)) (by simp [HL.out]) (lp l) w.heap.size w a3.out (Nat.le_refl _) ?_; intro w2 hs2 hb3; have HP := zH hs2.out; have a6 := zH hb3; clear hs2 hb3)
  | fail)
 have a8 : o7 (l ++ leb n 0) (L + 2) w (.slice (some ⟨w.heap.size, 0, none⟩) L (L + 2)) w2 := by
  have e : (l ++ leb n 0).length = L := (by rw [List.length_append, HL.out, aw]; omega);refine ⟨by rw [e], ?_, a6.out⟩;rw [e];exact qv (by simpa [leb] using HP.out) e (by omega) (by unfold maxLen; omega) (Nat.le_refl _)
 have a7 := zH a8;clear a8;go_loopw [5, 18] (fun s i wr => ∃ k : Nat, k ≤ 2 ∧ i = .int .i64 k ∧ o7 (l ++ leb n k) (L + 2) w s wr) (fun _ i _ => 2 - (intOf i).toNat)
 case atStart => exact ⟨0, by omega, rfl, a7.out⟩
 case round =>
  clear a7 a5 a3 a6 HP;obtain ⟨k, hk, rfl, hR⟩ := hrel;obtain ⟨rfl, a1, a2⟩ := hR;have e : (l ++ leb n k).length = L + k := (by rw [List.length_append, HL.out, aw]);have HO := zH a1;have HW := zH a2;have af : w.heap.size < wr.heap.size := (a1.lt _ rfl).2;have HE := zH e;have a0 := a1;unfold OwnB at a0;rw [e] at a0;have a9 := zH a0;rw [e];clear a0;clear a1 a2 e;by_cases hlt : k < 2
  ·have e2 := IntWalk.i64_in (8 * (k : Int)) (by omega)
   have p3 : 0 ≤ 8 * (k : Int) := (by omega);have r3 : (8 * (k : Int)).toNat = 8 * k := (by omega);have m3 : min (8 * k) 64 = 8 * k := (by omega);have l3 := D5 n k;have l4 := I2 n k;have z1 := a4;clear a4;have ab := zH z1;clear z1
   go_wp2_with (first
    | (at_builtin; refine wpList_append_fits _ rfl (.tmp 21) (.tmp 28) 29 rfl w.heap.size 5 i0 1 Tryz.underlying29 hi ab.out w.heap.size (L + k) (L + 2) ((l ++ leb n k).map V8) rfl (a9.out.alloc _) ⟨wr.heap.size, 0, none⟩ 1 1 [V8 (lb n k)] rfl rfl (qt _ _ _) (nt _) (by omega) ?_; intro w2 ho hg)
    | fail)
   have aa : Hid (o7 (l ++ leb n (k + 1)) (L + 2) w (.slice (some ⟨w.heap.size, 0, none⟩) (L + k + 1) (L + 2)) w2) := zH (by
    have e : (l ++ leb n (k + 1)).length = L + k + 1 := (by rw [List.length_append, HL.out, aw]; omega);refine ⟨by rw [e], ?_, (HW.out.alloc (by omega) _).grown hg (by simp; omega) (fun j hj => by cases hj; exact Nat.le_refl _)⟩;unfold OwnB;rw [e, qo, ← List.append_assoc, List.map_append]
    exact ho)
   clear ho hg
   go_roundw
   case rel => exact ⟨k + 1, by omega, by go_num, aa.out⟩
   case measure => simp [intOf]; omega
  ·obtain rfl : k = 2 := by omega
   clear hlt hk
   go_wp2
   go_ret;refine ⟨rfl, ?_, HW.out⟩;exact HO.out
theorem A8 (l : List (BitVec 8)) (sp : Option Addr) (cap n : Nat) (w : World) (hl : l.length ≤ 100000) (hn : n < 2 ^ 16) (hS : SrcA w sp l) :
  Calls Tryz.prog 49 #[.slice sp l.length cap, .int .u16 (n : Int)] w fun e w' => e = .returned (.slice (some ⟨w.heap.size, 0, none⟩) (l.length + 2) (l.length + 2)) ∧
   OwnB w' w.heap.size (.slice (some ⟨w.heap.size, 0, none⟩) (l ++ leb n 2).length (l.length + 2)) (l ++ leb n 2) ∧ Below w.heap.size w w' := by
 obtain ⟨L, hL⟩ : ∃ L, l.length = L := ⟨_, rfl⟩;have hc := Pp l sp cap n w hl hn hS;rw [hL] at hc ⊢;have HC := zH hc;clear hc hS hn hl hL;go_enter Tryz.func49, Tryz.ntmps49
 go_wp2_with fail
 refine HC.out.mono ?_;rintro e w' ⟨rfl, h1, h2⟩;have H1 := zH h1;have H2 := zH h2;clear h1 h2
 go_wp2
 go_ret;exact ⟨rfl, H1.out, H2.out⟩
set_option maxRecDepth 100000 in
set_option maxHeartbeats 1000000 in
theorem Pq (l : List (BitVec 8)) (sp : Option Addr) (cap n : Nat) (w : World) (hl : l.length ≤ 100000) (hn : n < 2 ^ 32) (hS : SrcA w sp l) :
  Calls Tryz.prog 101 #[.slice sp l.length cap, .int .u32 (n : Int)] w fun e w' => e = .returned (.slice (some ⟨w.heap.size, 0, none⟩) (l.length + 4) (l.length + 4)) ∧
   OwnB w' w.heap.size (.slice (some ⟨w.heap.size, 0, none⟩) (l ++ leb n 4).length (l.length + 4)) (l ++ leb n 4) ∧ Below w.heap.size w w' := by
 obtain ⟨i0, hi, ad, a4, ae⟩ := info_parts po;have HS := zH hS;obtain ⟨L, hL⟩ : ∃ L, l.length = L := ⟨_, rfl⟩;rw [hL] at hl ⊢;have HL := zH hL;clear hS hL;have hw := u64_in n (by omega);clear hn;go_enter Tryz.func101, Tryz.ntmps101
 go_wp2_with (first
  | (go_at_call 105; refine (Gn _).mono ?_; rintro e w' ⟨rfl, rfl⟩)
  | (at_make; refine iq rfl _ _ 29 rfl 5 i0 (.int .u8 0) Tryz.underlying29 hi ad rfl a4 .i64 .i64 _ _ L (L + 4) rfl rfl rfl (by omega) (by omega) (by rw [ae]; omega) (by unfold maxLen; omega) ?_; intro w1 hb1 hb2; have a5 := zH hb1; have a3 := zH hb2; clear hb1 hb2)
  | (refine wpList_copy_splice rfl (.tmp 14) (.tmp 15) 29 29 rfl 5 Tryz.underlying29 y8 (some ⟨w.heap.size, 0, none⟩) sp L (L + 4) L cap rfl rfl w.heap.size 0 _ 5 a5.out (l.map V8) (by rw [List.length_map, HL.out]; simp) (vo (HS.out.grown a3.out)) (by simp [HL.out]) (lp l) w.heap.size w a3.out (Nat.le_refl _) ?_; intro w2 hs2 hb3; have HP := zH hs2.out; have a6 := zH hb3; clear hs2 hb3)
  | fail)
 have a8 : o7 (l ++ leb n 0) (L + 4) w (.slice (some ⟨w.heap.size, 0, none⟩) L (L + 4)) w2 := by
  have e : (l ++ leb n 0).length = L := (by rw [List.length_append, HL.out, aw]; omega);refine ⟨by rw [e], ?_, a6.out⟩;rw [e];exact qv (by simpa [leb] using HP.out) e (by omega) (by unfold maxLen; omega) (Nat.le_refl _)
 have a7 := zH a8;clear a8;go_loopw [5, 18] (fun s i wr => ∃ k : Nat, k ≤ 4 ∧ i = .int .i64 k ∧ o7 (l ++ leb n k) (L + 4) w s wr) (fun _ i _ => 4 - (intOf i).toNat)
 case atStart => exact ⟨0, by omega, rfl, a7.out⟩
 case round =>
  clear a7 a5 a3 a6 HP;obtain ⟨k, hk, rfl, hR⟩ := hrel;obtain ⟨rfl, a1, a2⟩ := hR;have e : (l ++ leb n k).length = L + k := (by rw [List.length_append, HL.out, aw]);have HO := zH a1;have HW := zH a2;have af : w.heap.size < wr.heap.size := (a1.lt _ rfl).2;have HE := zH e;have a0 := a1;unfold OwnB at a0;rw [e] at a0;have a9 := zH a0;rw [e];clear a0;clear a1 a2 e;by_cases hlt : k < 4
  ·have e2 := IntWalk.i64_in (8 * (k : Int)) (by omega)
   have p3 : 0 ≤ 8 * (k : Int) := (by omega);have r3 : (8 * (k : Int)).toNat = 8 * k := (by omega);have m3 : min (8 * k) 64 = 8 * k := (by omega);have l3 := D5 n k;have l4 := I2 n k;have z1 := a4;clear a4;have ab := zH z1;clear z1
   go_wp2_with (first
    | (at_builtin; refine wpList_append_fits _ rfl (.tmp 21) (.tmp 28) 29 rfl w.heap.size 5 i0 1 Tryz.underlying29 hi ab.out w.heap.size (L + k) (L + 4) ((l ++ leb n k).map V8) rfl (a9.out.alloc _) ⟨wr.heap.size, 0, none⟩ 1 1 [V8 (lb n k)] rfl rfl (qt _ _ _) (nt _) (by omega) ?_; intro w2 ho hg)
    | fail)
   have aa : Hid (o7 (l ++ leb n (k + 1)) (L + 4) w (.slice (some ⟨w.heap.size, 0, none⟩) (L + k + 1) (L + 4)) w2) := zH (by
    have e : (l ++ leb n (k + 1)).length = L + k + 1 := (by rw [List.length_append, HL.out, aw]; omega);refine ⟨by rw [e], ?_, (HW.out.alloc (by omega) _).grown hg (by simp; omega) (fun j hj => by cases hj; exact Nat.le_refl _)⟩;unfold OwnB;rw [e, qo, ← List.append_assoc, List.map_append]
    exact ho)
   clear ho hg
   go_roundw
   case rel => exact ⟨k + 1, by omega, by go_num, aa.out⟩
   case measure => simp [intOf]; omega
  ·obtain rfl : k = 4 := by omega
   clear hlt hk
   go_wp2
   go_ret;refine ⟨rfl, ?_, HW.out⟩;exact HO.out
theorem Fm (l : List (BitVec 8)) (sp : Option Addr) (cap n : Nat) (w : World) (hl : l.length ≤ 100000) (hn : n < 2 ^ 32) (hS : SrcA w sp l) :
  Calls Tryz.prog 77 #[.slice sp l.length cap, .int .u32 (n : Int)] w fun e w' => e = .returned (.slice (some ⟨w.heap.size, 0, none⟩) (l.length + 4) (l.length + 4)) ∧
   OwnB w' w.heap.size (.slice (some ⟨w.heap.size, 0, none⟩) (l ++ leb n 4).length (l.length + 4)) (l ++ leb n 4) ∧ Below w.heap.size w w' := by
 obtain ⟨L, hL⟩ : ∃ L, l.length = L := ⟨_, rfl⟩;have hc := Pq l sp cap n w hl hn hS;rw [hL] at hc ⊢;have HC := zH hc;clear hc hS hn hl hL;go_enter Tryz.func77, Tryz.ntmps77
 go_wp2_with fail
 refine HC.out.mono ?_;rintro e w' ⟨rfl, h1, h2⟩;have H1 := zH h1;have H2 := zH h2;clear h1 h2
 go_wp2
 go_ret;exact ⟨rfl, H1.out, H2.out⟩
set_option maxRecDepth 100000 in
set_option maxHeartbeats 1000000 in
theorem Pr (l : List (BitVec 8)) (sp : Option Addr) (cap n : Nat) (w : World) (hl : l.length ≤ 100000) (hn : n < 2 ^ 64) (hS : SrcA w sp l) :
  Calls Tryz.prog 51 #[.slice sp l.length cap, .int .u64 (n : Int)] w fun e w' => e = .returned (.slice (some ⟨w.heap.size, 0, none⟩) (l.length + 8) (l.length + 8)) ∧
   OwnB w' w.heap.size (.slice (some ⟨w.heap.size, 0, none⟩) (l ++ leb n 8).length (l.length + 8)) (l ++ leb n 8) ∧ Below w.heap.size w w' := by
 obtain ⟨i0, hi, ad, a4, ae⟩ := info_parts po;have HS := zH hS;obtain ⟨L, hL⟩ : ∃ L, l.length = L := ⟨_, rfl⟩;rw [hL] at hl ⊢;have HL := zH hL;clear hS hL;have hw := u64_in n (by omega);clear hn;go_enter Tryz.func51, Tryz.ntmps51
 go_wp2_with (first
  | (go_at_call 80; refine (Gp _).mono ?_; rintro e w' ⟨rfl, rfl⟩)
  | (at_make; refine iq rfl _ _ 29 rfl 5 i0 (.int .u8 0) Tryz.underlying29 hi ad rfl a4 .i64 .i64 _ _ L (L + 8) rfl rfl rfl (by omega) (by omega) (by rw [ae]; omega) (by unfold maxLen; omega) ?_; intro w1 hb1 hb2; have a5 := zH hb1; have a3 := zH hb2; clear hb1 hb2)
  | (refine wpList_copy_splice rfl (.tmp 14) (.tmp 15) 29 29 rfl 5 Tryz.underlying29 y8 (some ⟨w.heap.size, 0, none⟩) sp L (L + 8) L cap rfl rfl w.heap.size 0 _ 5 a5.out (l.map V8) (by rw [List.length_map, HL.out]; simp) (vo (HS.out.grown a3.out)) (by simp [HL.out]) (lp l) w.heap.size w a3.out (Nat.le_refl _) ?_; intro w2 hs2 hb3; have HP := zH hs2.out; have a6 := zH hb3; clear hs2 hb3)
  | fail)
 have a8 : o7 (l ++ leb n 0) (L + 8) w (.slice (some ⟨w.heap.size, 0, none⟩) L (L + 8)) w2 := by
  have e : (l ++ leb n 0).length = L := (by rw [List.length_append, HL.out, aw]; omega);refine ⟨by rw [e], ?_, a6.out⟩;rw [e];exact qv (by simpa [leb] using HP.out) e (by omega) (by unfold maxLen; omega) (Nat.le_refl _)
 have a7 := zH a8;clear a8;go_loopw [5, 18] (fun s i wr => ∃ k : Nat, k ≤ 8 ∧ i = .int .i64 k ∧ o7 (l ++ leb n k) (L + 8) w s wr) (fun _ i _ => 8 - (intOf i).toNat)
 case atStart => exact ⟨0, by omega, rfl, a7.out⟩
 case round =>
  clear a7 a5 a3 a6 HP;obtain ⟨k, hk, rfl, hR⟩ := hrel;obtain ⟨rfl, a1, a2⟩ := hR;have e : (l ++ leb n k).length = L + k := (by rw [List.length_append, HL.out, aw]);have HO := zH a1;have HW := zH a2;have af : w.heap.size < wr.heap.size := (a1.lt _ rfl).2;have HE := zH e;have a0 := a1;unfold OwnB at a0;rw [e] at a0;have a9 := zH a0;rw [e];clear a0;clear a1 a2 e;by_cases hlt : k < 8
  ·have e2 := IntWalk.i64_in (8 * (k : Int)) (by omega)
   have p3 : 0 ≤ 8 * (k : Int) := (by omega);have r3 : (8 * (k : Int)).toNat = 8 * k := (by omega);have m3 : min (8 * k) 64 = 8 * k := (by omega);have l3 := D5 n k;have l4 := I2 n k;have z1 := a4;clear a4;have ab := zH z1;clear z1
   go_wp2_with (first
    | (at_builtin; refine wpList_append_fits _ rfl (.tmp 21) (.tmp 27) 29 rfl w.heap.size 5 i0 1 Tryz.underlying29 hi ab.out w.heap.size (L + k) (L + 8) ((l ++ leb n k).map V8) rfl (a9.out.alloc _) ⟨wr.heap.size, 0, none⟩ 1 1 [V8 (lb n k)] rfl rfl (qt _ _ _) (nt _) (by omega) ?_; intro w2 ho hg)
    | fail)
   have aa : Hid (o7 (l ++ leb n (k + 1)) (L + 8) w (.slice (some ⟨w.heap.size, 0, none⟩) (L + k + 1) (L + 8)) w2) := zH (by
    have e : (l ++ leb n (k + 1)).length = L + k + 1 := (by rw [List.length_append, HL.out, aw]; omega);refine ⟨by rw [e], ?_, (HW.out.alloc (by omega) _).grown hg (by simp; omega) (fun j hj => by cases hj; exact Nat.le_refl _)⟩;unfold OwnB;rw [e, qo, ← List.append_assoc, List.map_append]
    exact ho)
   clear ho hg
   go_roundw
   case rel => exact ⟨k + 1, by omega, by go_num, aa.out⟩
   case measure => simp [intOf]; omega
  ·obtain rfl : k = 8 := by omega
   clear hlt hk
   go_wp2
   go_ret;refine ⟨rfl, ?_, HW.out⟩;exact HO.out
theorem Uh (l : List (BitVec 8)) (sp : Option Addr) (cap n : Nat) (w : World) (hl : l.length ≤ 100000) (hn : n < 2 ^ 64) (hS : SrcA w sp l) :
  Calls Tryz.prog 25 #[.slice sp l.length cap, .int .u64 (n : Int)] w fun e w' => e = .returned (.slice (some ⟨w.heap.size, 0, none⟩) (l.length + 8) (l.length + 8)) ∧
   OwnB w' w.heap.size (.slice (some ⟨w.heap.size, 0, none⟩) (l ++ leb n 8).length (l.length + 8)) (l ++ leb n 8) ∧ Below w.heap.size w w' := by
 obtain ⟨L, hL⟩ : ∃ L, l.length = L := ⟨_, rfl⟩;have hc := Pr l sp cap n w hl hn hS;rw [hL] at hc ⊢;have HC := zH hc;clear hc hS hn hl hL;go_enter Tryz.func25, Tryz.ntmps25
 go_wp2_with fail
 refine HC.out.mono ?_;rintro e w' ⟨rfl, h1, h2⟩;have H1 := zH h1;have H2 := zH h2;clear h1 h2
 go_wp2
 go_ret;exact ⟨rfl, H1.out, H2.out⟩
def SrcX (w : World) (K : Nat → Prop) (sp : Option Addr) (bs : List (BitVec 8)) : Prop :=
 0 < bs.length → ∃ g o, sp = some ⟨g, o, none⟩ ∧ K g ∧ g < w.heap.size ∧ ∀ j, j < bs.length → w.cell? ⟨g, o + j, none⟩ = some (V8 (bs.getD j 0))
theorem SrcX.srcA (h : SrcX w K sp bs) : SrcA w sp bs := fun h0 => by
 obtain ⟨g, o, e, _, hg, hc⟩ := h h0; exact ⟨g, o, e, hg, hc⟩
theorem SrcX.butFor (h : SrcX w K sp bs) (hK : ¬ K H) (hb : ButFor H w W) : SrcX W K sp bs := fun h0 => by
 obtain ⟨g, o, e, hn, hg, hc⟩ := h h0;exact ⟨g, o, e, hn, Nat.lt_of_lt_of_le hg hb.size, fun j hj => (hb.cell (p := ⟨g, o + j, none⟩) hg (fun e => hK (by rw [← e]; exact hn))).trans (hc j hj)⟩
theorem SrcX.below (h : SrcX w K sp bs) (hb : Below B w W) (hB : w.heap.size ≤ B) : SrcX W K sp bs := fun h0 => by
 obtain ⟨g, o, e, hn, hg, hc⟩ := h h0;exact ⟨g, o, e, hn, Nat.lt_of_lt_of_le hg hb.size, fun j hj => (hb.cell (p := ⟨g, o + j, none⟩) (Nat.lt_of_lt_of_le hg hB)).trans (hc j hj)⟩
theorem SrcX.take (h : SrcX w K sp bs) (n : Nat) : SrcX w K sp (bs.take n) := fun h0 => by
 obtain ⟨g, o, e, hn, hg, hc⟩ := h (by simp at h0; omega);refine ⟨g, o, e, hn, hg, fun j hj => ?_⟩;have a0 : j < n ∧ j < bs.length := by simp at hj; omega
 rw [hc j a0.2];simp [List.getD_eq_getElem?_getD, a0.1]
theorem SrcX.drop {sp2 : Option Addr} (h : SrcX w K sp bs) (n : Nat) (hs : n < bs.length → sp2 = sp.map (·.add n)) : SrcX w K sp2 (bs.drop n) := fun h0 => by
 have hn : n < bs.length := by simp at h0; omega
 obtain ⟨g, o, rfl, a1, hg, hc⟩ := h (by omega);refine ⟨g, o + n, by rw [hs hn]; simp [Addr.add_mid], a1, hg, fun j hj => ?_⟩;have a0 : n + j < bs.length := by simp at hj; omega
 rw [show o + n + j = o + (n + j) by omega, hc _ a0];simp [List.getD_eq_getElem?_getD]
def RdAt (w : World) (H : Nat) (K : Nat → Prop) (l : List (BitVec 8)) (e : Nat) : Prop :=
 ∃ sp cap, Blk w H [.int .i64 (e : Int), .slice sp l.length cap] 127 ∧ l.length ≤ cap ∧ cap ≤ maxLen ∧ (sp = none → cap = 0) ∧ SrcX w K sp l ∧ ¬ K H
theorem RdAt.lt (h : RdAt w H K l e) : H < w.heap.size := by obtain ⟨_, _, h, _⟩ := h; exact h.lt
theorem RdAt.below (h : RdAt w H K l e) (hb : Below B w W) (hB : w.heap.size ≤ B) : RdAt W H K l e := by
 obtain ⟨sp, a0, h1, h2, h3, h5, h4, h6⟩ := h;exact ⟨sp, a0, h1.below hb (Nat.lt_of_lt_of_le h1.lt hB), h2, h3, h5, h4.below hb hB, h6⟩
theorem RdAt.other {J : Nat} (h : RdAt w H K l e) (hb : ButFor J w W) (hn : H ≠ J) (hs : ¬ K J) : RdAt W H K l e := by
 obtain ⟨sp, a0, h1, h2, h3, h5, h4, h6⟩ := h;exact ⟨sp, a0, hb.blk h1 hn, h2, h3, h5, h4.butFor hs hb, h6⟩
def ap (l : List (BitVec 8)) (e : Nat) (n : Int) : List (BitVec 8) × List (BitVec 8) × Nat :=
 if e ≠ 0 ∨ n ≤ 0 then ([], l, e) else if (l.length : Int) < n then ([], l, 4) else (l.take n.toNat, l.drop n.toNat, 0)
theorem nf (H : Nat) (w : World) (hc : w.cell? ⟨H, 0, none⟩ = some (.int .i64 0)) : Calls Tryz.prog 62 #[.pointer (some ⟨H, 0, none⟩)] w fun x w' => x = .returned (.bool false) ∧ w = w' := by
 go_enter Tryz.func62, Tryz.ntmps62
 go_wp2
 go_ret;exact ⟨rfl, rfl⟩
theorem ti (H e : Nat) (w : World) (he : e ≠ 0) (hc : w.cell? ⟨H, 0, none⟩ = some (.int .i64 (e : Int))) : Calls Tryz.prog 62 #[.pointer (some ⟨H, 0, none⟩)] w fun x w' => x = .returned (.bool true) ∧ w = w' := by
 have h1 : ((e : Int) != 0) = true := by rw [bne_iff_ne]; omega
 have h2 : ((e : Int) == 0) = false := by rw [beq_eq_false_iff_ne]; omega
 have h3 : ¬ (e : Int) = 0 := by omega
 clear he;go_enter Tryz.func62, Tryz.ntmps62
 go_wp2
 go_ret
 first | exact ⟨rfl, rfl⟩ | exact ⟨by simp [h1, h2, h3], rfl⟩
theorem Ku (H : Nat) (x : Int) (w : World) (hc : w.cell? ⟨H, 0, none⟩ = some (.int .i64 0)) (hf : w.frozen? ⟨H, 0, none⟩ = false) : Calls Tryz.prog 86 #[.pointer (some ⟨H, 0, none⟩), .int .i64 x] w fun e w' => e = .returned (.tuple #[]) ∧ w.setCell ⟨H, 0, none⟩ (.int .i64 x) = w' := by
 go_enter Tryz.func86, Tryz.ntmps86
 go_wp2_with (go_at_call 62; refine (nf H _ hc).mono ?_; rintro e w' ⟨rfl, rfl⟩)
 go_end0;exact ⟨rfl, rfl⟩
theorem Sc (H e : Nat) (x : Int) (w : World) (he : e ≠ 0) (hc : w.cell? ⟨H, 0, none⟩ = some (.int .i64 (e : Int))) : Calls Tryz.prog 86 #[.pointer (some ⟨H, 0, none⟩), .int .i64 x] w fun e w' => e = .returned (.tuple #[]) ∧ w = w' := by
 have HE := zH he;clear he;go_enter Tryz.func86, Tryz.ntmps86
 go_wp2_with (go_at_call 62; refine (ti H e _ HE.out hc).mono ?_; rintro e w' ⟨rfl, rfl⟩)
 go_end0;exact ⟨rfl, rfl⟩
def gt (H : Nat) (K : Nat → Prop) (l : List (BitVec 8)) (e : Nat) (n : Int) (w : World) (x : Ending) (w' : World) : Prop :=
 ∃ sp cap, x = .returned (.slice sp (ap l e n).1.length cap) ∧ (ap l e n).1.length ≤ cap ∧ (sp = none → cap = 0) ∧ SrcX w' K sp (ap l e n).1 ∧ RdAt w' H K (ap l e n).2.1 (ap l e n).2.2 ∧ ButFor H w w'
theorem K5 : Tryz.prog.underlying 29 = some (.slice (Tryz.prog.elem 29)) := by kernel_rfl
theorem Rg : Tryz.prog.elem 29 = 5 := by kernel_rfl
theorem Dn (W : World) : (sizeOf 5).run Tryz.prog W = .ok 1 W := by
 obtain ⟨i, h1, h2⟩ := Option.map_eq_some_iff.1 y8;simp [sizeOf, typeInfo, h1, h2]
theorem Q1 (sp : Option Addr) (l c n : Nat) (hn : n ≤ l) (_hc : l ≤ c) : ∃ sp2, (∀ W : World, (Instr.sliceAt 29 (.slice sp l c) (some (.int .i64 (n : Int))) none none).run Tryz.prog W = .ok (.slice sp2 (l - n) (c - n)) W) ∧ (n < c → sp2 = sp.map (·.add n)) ∧ (sp2 = none → sp = none) := by
 refine ⟨if c = n then sp else sp.map (·.add n), fun W => ?_, fun h => if_neg (by omega), fun h => ?_⟩
 ·rw [run_sliceAt_slice W 29 _ _ _ _ K5, run_slice_l W 29 sp l c K5 .i64 n (by omega) (by omega), Rg, Dn]
  simp only [Result.andThen, sliced, Int.toNat_natCast, Nat.mul_one]
 ·split at h
  ·exact h
  ·cases sp <;> simp at h ⊢
theorem M3 (sp : Option Addr) (l c n : Nat) (hn : n ≤ c) : ∀ W : World, (Instr.sliceAt 29 (.slice sp l c) none (some (.int .i64 (n : Int))) none).run Tryz.prog W = .ok (.slice sp n c) W := fun W => by
 rw [run_sliceAt_slice W 29 _ _ _ _ K5, run_slice_h W 29 sp l c K5 .i64 n (by omega) (by omega), Rg, Dn];have e : Option.map (fun x : Addr => x.add 0) sp = sp := by cases sp with | none => rfl | some a => cases a; simp [Addr.add]
 simp [Result.andThen, sliced, e]
set_option maxHeartbeats 1000000 in
theorem Pa (H : Nat) (l : List (BitVec 8)) (e : Nat) (n : Int) (w : World) (hR : RdAt w H K l e) (h : e ≠ 0 ∨ n ≤ 0) :
  Calls Tryz.prog 61 #[.pointer (some ⟨H, 0, none⟩), .int .i64 n] w (gt H K l e n w) := by
 have hr : ap l e n = ([], l, e) := if_pos h;have HP : Hid (gt H K l e n w (.returned (.slice none 0 0)) w) := zH (by unfold gt; rw [hr]; exact ⟨none, 0, rfl, by simp, fun _ => rfl, fun h0 => by simp at h0, hR, ButFor.refl _ _⟩);obtain ⟨sp, a0, hB, _, _, _, _, _⟩ := hR;have c0 := hB.cell (j := 0) rfl;clear hB hr;by_cases he : e = 0
 ·subst he
  have hn : n ≤ 0 := (by omega);clear h;go_enter Tryz.func61, Tryz.ntmps61
  go_wp2_with (go_at_call 62; refine (nf H _ c0).mono ?_; rintro e w' ⟨rfl, rfl⟩)
  go_ret;exact HP.out
 ·have HE := zH he
  clear he h;go_enter Tryz.func61, Tryz.ntmps61
  go_wp2_with (go_at_call 62; refine (ti H e _ HE.out c0).mono ?_; rintro e w' ⟨rfl, rfl⟩)
  go_ret;exact HP.out
set_option maxHeartbeats 1000000 in
theorem If (H : Nat) (l : List (BitVec 8)) (n : Nat) (w : World) (hR : RdAt w H K l 0) (hn : 0 < n) (h : l.length < n) :
  Calls Tryz.prog 61 #[.pointer (some ⟨H, 0, none⟩), .int .i64 (n : Int)] w (gt H K l 0 n w) := by
 have hr : ap l 0 n = ([], l, 4) := by unfold ap; rw [if_neg (by omega), if_pos (by omega)]
 obtain ⟨sp, a1, hB, h1, h2, h4, h3, hk⟩ := hR
 have HP : Hid (gt H K l 0 n w (.returned (.slice none 0 0)) (w.setCell ⟨H, 0, none⟩ (.int .i64 4))) := zH (by
  unfold gt; rw [hr];have a0 : ButFor H w (w.setCell ⟨H, 0, none⟩ (.int .i64 4)) := (ButFor.refl _ _).set _ _
  exact ⟨none, 0, rfl, by simp, fun _ => rfl, fun h0 => by simp at h0, ⟨sp, a1, hB.set 0 (.int .i64 4), h1, h2, h4, h3.butFor hk a0, hk⟩, a0⟩)
 have c0 := hB.cell (j := 0) rfl;have c1 := hB.cell (j := 1) rfl;have f0 := hB.free 0;have g1 : (l.length : Int) < (n : Int) := by omega
 have g2 : (0 : Int) < (n : Int) := by omega
 obtain ⟨L, hL⟩ : ∃ L, l.length = L := ⟨_, rfl⟩;rw [hL] at c1 g1;clear hB h1 h2 h3 h4 hk hL h hn hr;go_enter Tryz.func61, Tryz.ntmps61
 go_wp2_with (first
  | (go_at_call 62; refine (nf H _ c0).mono ?_; rintro e w' ⟨rfl, rfl⟩)
  | (go_at_call 86; refine (Ku H _ _ c0 f0).mono ?_; rintro e w' ⟨rfl, rfl⟩))
 go_ret;exact HP.out
set_option maxHeartbeats 1000000 in
theorem Yg (H : Nat) (l : List (BitVec 8)) (n : Nat) (w : World) (hR : RdAt w H K l 0) (hn : 0 < n) (h : n ≤ l.length) :
  Calls Tryz.prog 61 #[.pointer (some ⟨H, 0, none⟩), .int .i64 (n : Int)] w (gt H K l 0 n w) := by
 have hr : ap l 0 n = (l.take n, l.drop n, 0) := by unfold ap; rw [if_neg (by omega), if_neg (by omega), Int.toNat_natCast]
 obtain ⟨sp, a0, hB, h1, h2, h5, h3, hk⟩ := hR;obtain ⟨a1, e2, e3, e4⟩ := Q1 sp l.length a0 n h h1;have e1 := M3 sp l.length a0 n (by omega)
 have HP : Hid (gt H K l 0 n w (.returned (.slice sp n a0)) (w.setCell ⟨H, 1, none⟩ (.slice a1 (l.length - n) (a0 - n)))) := zH (by
  unfold gt; rw [hr];have a2 : ButFor H w (w.setCell ⟨H, 1, none⟩ (.slice a1 (l.length - n) (a0 - n))) := (ButFor.refl _ _).set _ _;have hl : (l.take n).length = n := (by simp; omega);refine ⟨sp, a0, by simp only; rw [hl], by simp; omega, h5, (h3.take n).butFor hk a2, ⟨a1, a0 - n, ?_, by simp; omega, by omega, fun h0 => by have := h5 (e4 h0); omega, ?_, hk⟩, a2⟩
  ·have := hB.set 1 (.slice a1 (l.length - n) (a0 - n))
   simpa using this
  ·exact (h3.drop n (fun hlt => e3 (by omega))).butFor hk a2)
 have c0 := hB.cell (j := 0) rfl;have c1 := hB.cell (j := 1) rfl;have f1 := hB.free 1;have g1 : (n : Int) ≤ (l.length : Int) := by omega
 have g2 : (0 : Int) < (n : Int) := by omega
 obtain ⟨L, hL⟩ : ∃ L, l.length = L := ⟨_, rfl⟩;rw [hL] at c1 g1 e1 e2 HP;clear hB h1 h2 h3 h5 hk hL h hn hr e3 e4;go_enter Tryz.func61, Tryz.ntmps61
 go_wp2_with (go_at_call 62; refine (nf H _ c0).mono ?_; rintro e w' ⟨rfl, rfl⟩)
 go_ret;exact HP.out
theorem nr (H : Nat) (l : List (BitVec 8)) (e : Nat) (n : Int) (w : World) (hR : RdAt w H K l e) :
  Calls Tryz.prog 61 #[.pointer (some ⟨H, 0, none⟩), .int .i64 n] w (gt H K l e n w) := by
 by_cases h : e ≠ 0 ∨ n ≤ 0
 ·exact Pa H l e n w hR h
 ·obtain rfl : e = 0 := by omega
  obtain ⟨m, rfl⟩ := Int.eq_ofNat_of_zero_le (show 0 ≤ n by omega);by_cases hs : l.length < m
  ·exact If H l m w hR (by omega) hs
  ·exact Yg H l m w hR (by omega) (by omega)
end Go.Proofs.YtjgjohdeeeoeoaaGreatDoor
