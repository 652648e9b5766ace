/- Numbers as bytes, and noughts: the law, walked. -/
import Derived.Test.YtfamohnbaelccaaReg
namespace Go.Proofs.Ytfamohnbaelccaa
open Go.RowKit

theorem pu16_own (l : List (BitVec 8)) (sp : Option Addr) (cap n : Nat) (w : World) (hl : l.length ≤ 100000) (hn : n < 65536) (hS : SrcA w sp l) : Calls Try.prog 8 #[.slice sp l.length cap, .int .u16 (n : Int)] w (RetOwn (l ++ leb n 2) w) :=
  (pu16_any l sp cap n w hl hn hS).mono fun _ _ ⟨e, ho, hb⟩ => ⟨_, e, by have h2 := ho; rw [show l.length + 2 = (l ++ leb n 2).length by simp [leb_length]] at h2 ⊢; exact h2, hb⟩
theorem pu32_own (l : List (BitVec 8)) (sp : Option Addr) (cap n : Nat) (w : World) (hl : l.length ≤ 100000) (hn : n < 4294967296) (hS : SrcA w sp l) : Calls Try.prog 10 #[.slice sp l.length cap, .int .u32 (n : Int)] w (RetOwn (l ++ leb n 4) w) :=
  (pu32_any l sp cap n w hl hn hS).mono fun _ _ ⟨e, ho, hb⟩ => ⟨_, e, by have h2 := ho; rw [show l.length + 4 = (l ++ leb n 4).length by simp [leb_length]] at h2 ⊢; exact h2, hb⟩
theorem pu64_own (l : List (BitVec 8)) (sp : Option Addr) (cap n : Nat) (w : World) (hl : l.length ≤ 100000) (hn : n < 18446744073709551616) (hS : SrcA w sp l) : Calls Try.prog 11 #[.slice sp l.length cap, .int .u64 (n : Int)] w (RetOwn (l ++ leb n 8) w) :=
  (pu64_any l sp cap n w hl hn hS).mono fun _ _ ⟨e, ho, hb⟩ => ⟨_, e, by have h2 := ho; rw [show l.length + 8 = (l ++ leb n 8).length by simp [leb_length]] at h2 ⊢; exact h2, hb⟩

set_option maxRecDepth 100000 in
set_option maxHeartbeats 2000000 in
theorem wireWrites_body (l : List (BitVec 8)) (sp : Option Addr) (cap n : Nat) (fill : Int) (w : World) (hl : l.length ≤ 1000) (hf : fill ≤ 2000) (hc : l.length ≤ cap) (hz : sp = none → cap = 0) (hn : n < 18446744073709551616) (hS : SrcA w sp l) :
    Calls Try.prog 3 #[.slice sp l.length cap, .int .u64 (n : Int), .int .i64 fill] w fun e w' => e = .returned (.bool true) ∧ Below w.heap.size w w' := by
  have HS00 : Hid (SL w sp l w.drew) := Lib.hid ⟨hS, (Below.refl _ _).drew⟩
  have HZ := Lib.hid hz
  have HNN := Lib.hid hn
  have hcv := conv_str (cap := cap) hS
  clear hz hS hn
  go_enter Try.func3, Try.ntmps3
  go_wp2
  clear hcv
  refine wp_region_sched (.take 0 (.take 2 (.take 3 (.take 6 (.take 7 (.take 8 (.step 1 (.step 4 (.take 5 (.step 9 (.take 10 (.take 11 (.take 12 (.take 13 (.take 14 (.take 16 (.take 17 (.take 20 (.take 21 (.take 22 (.step 15 (.step 18 (.take 19 (.step 23 (.take 24 (.take 25 (.take 26 (.take 27 (.nil))))))))))))))))))))))))))))) (by kernel_rfl) (by kernel_rfl) (fun d _ _ _ _ h => by cases d <;> exact h) (SL w sp l) (HS00.out) ?_
  have HS0 := HS00
  refine wpG_take _ (Value.slice sp l.length cap) rfl (by rfl) (fun _ _ => by first | rfl | go_simp) ?_
  (try simp only [Act.put, List.setIfInBounds_toArray, List.set_cons_zero, List.set_cons_succ])
  refine wpG_take _ (.int .u64 (n : Int)) rfl (by rfl) (fun _ _ => by first | rfl | go_simp) ?_
  (try simp only [Act.put, List.setIfInBounds_toArray, List.set_cons_zero, List.set_cons_succ])
  refine wpG_take _ (.int .u16 ((n % 65536 : Nat) : Int)) rfl (by rfl) (fun w _ => ex_cvt16 rfl rfl) ?_
  (try simp only [Act.put, List.setIfInBounds_toArray, List.set_cons_zero, List.set_cons_succ])
  refine wpG_take _ (.string (bstr l)) rfl (by rfl) (fun _ _ => by first | rfl | go_simp) ?_
  (try simp only [Act.put, List.setIfInBounds_toArray, List.set_cons_zero, List.set_cons_succ])
  refine wpG_take _ (.int .u64 (n : Int)) rfl (by rfl) (fun _ _ => by first | rfl | go_simp) ?_
  (try simp only [Act.put, List.setIfInBounds_toArray, List.set_cons_zero, List.set_cons_succ])
  refine wpG_take _ (.int .u64 ((n % 65536 : Nat) : Int)) rfl (by rfl) (fun w _ => ex_rem16 rfl rfl rfl) ?_
  (try simp only [Act.put, List.setIfInBounds_toArray, List.set_cons_zero, List.set_cons_succ])
  refine wpG_app _ rfl (by rfl) _ (.tmp 18) rfl rfl sp cap l rfl hc HZ.out (by omega) (by repeat (first | exact SL.stable _ _ _ | apply Stable.plus)) HS0.out HS0.out.1 ?_; intro sp1 cap1 w1 hc1 hz1 hS1; have HS1 := Lib.hid hS1; have HZ1 := Lib.hid hz1; clear hS1 hz1
  (try simp only [Act.put, List.setIfInBounds_toArray, List.set_cons_zero, List.set_cons_succ])
  refine wpG_own _ rfl (by rfl) 8 #[.slice sp1 l.length cap1, .int .u16 ((n % 65536 : Nat) : Int)] (fun _ => by go_simp) (by repeat (first | exact SL.stable _ _ _ | apply Stable.plus)) HS1.out (l ++ leb (n % 65536) 2) (pu16_own l _ _ _ _ (by omega) (by omega) HS1.out.2) ?_; intro sp2 cap2 w2 hc2 hz2 hS2; have HS2 := Lib.hid hS2; have HZ2 := Lib.hid hz2; clear hS2 hz2
  (try simp only [Act.put, List.setIfInBounds_toArray, List.set_cons_zero, List.set_cons_succ])
  refine wpG_str _ rfl (by rfl) (.tmp 22) rfl sp2 cap2 (l ++ leb (n % 65536) 2) rfl (fun _ h => h.2) ?_
  (try simp only [Act.put, List.setIfInBounds_toArray, List.set_cons_zero, List.set_cons_succ])
  refine wpG_own _ rfl (by rfl) 9 #[.int .u64 ((n % 65536 : Nat) : Int), .int .i64 2] (fun _ => by go_simp) (by repeat (first | exact SL.stable _ _ _ | apply Stable.plus)) HS2.out (leb (n % 65536) 2) (wNum_any (n % 65536) 2 _ (by omega) (by omega)) ?_; intro sp3 cap3 w3 hc3 hz3 hS3; have HS3 := Lib.hid hS3; have HZ3 := Lib.hid hz3; clear hS3 hz3
  (try simp only [Act.put, List.setIfInBounds_toArray, List.set_cons_zero, List.set_cons_succ])
  refine wpG_str _ rfl (by rfl) (.tmp 27) rfl sp3 cap3 (leb (n % 65536) 2) rfl (fun _ h => h.2) ?_
  (try simp only [Act.put, List.setIfInBounds_toArray, List.set_cons_zero, List.set_cons_succ])
  refine wpG_take _ (.string (bstr (l ++ leb (n % 65536) 2))) rfl (by rfl) (fun w _ => ex_add rfl rfl rfl (by rw [leb_length]; omega)) ?_
  (try simp only [Act.put, List.setIfInBounds_toArray, List.set_cons_zero, List.set_cons_succ])
  refine wpG_take _ (.bool false) rfl (by rfl) (fun w _ => by rw [ex_neq rfl rfl rfl]; simp) ?_
  (try simp only [Act.put, List.setIfInBounds_toArray, List.set_cons_zero, List.set_cons_succ])
  refine wpG_take _ (.bool false) rfl (by rfl) (fun _ _ => by first | rfl | go_simp) ?_
  (try simp only [Act.put, List.setIfInBounds_toArray, List.set_cons_zero, List.set_cons_succ])
  refine wpG_take _ (Value.slice sp l.length cap) rfl (by rfl) (fun _ _ => by first | rfl | go_simp) ?_
  (try simp only [Act.put, List.setIfInBounds_toArray, List.set_cons_zero, List.set_cons_succ])
  refine wpG_take _ (.int .u64 (n : Int)) rfl (by rfl) (fun _ _ => by first | rfl | go_simp) ?_
  (try simp only [Act.put, List.setIfInBounds_toArray, List.set_cons_zero, List.set_cons_succ])
  refine wpG_take _ (.int .u32 ((n % 4294967296 : Nat) : Int)) rfl (by rfl) (fun w _ => ex_cvt32 rfl rfl) ?_
  (try simp only [Act.put, List.setIfInBounds_toArray, List.set_cons_zero, List.set_cons_succ])
  refine wpG_take _ (.string (bstr l)) rfl (by rfl) (fun _ _ => by first | rfl | go_simp) ?_
  (try simp only [Act.put, List.setIfInBounds_toArray, List.set_cons_zero, List.set_cons_succ])
  refine wpG_take _ (.int .u64 (n : Int)) rfl (by rfl) (fun _ _ => by first | rfl | go_simp) ?_
  (try simp only [Act.put, List.setIfInBounds_toArray, List.set_cons_zero, List.set_cons_succ])
  refine wpG_take _ (.int .u64 ((n % 4294967296 : Nat) : Int)) rfl (by rfl) (fun w _ => ex_rem32 rfl rfl rfl) ?_
  (try simp only [Act.put, List.setIfInBounds_toArray, List.set_cons_zero, List.set_cons_succ])
  refine wpG_app _ rfl (by rfl) _ (.tmp 32) rfl rfl sp cap l rfl hc HZ.out (by omega) (by repeat (first | exact SL.stable _ _ _ | apply Stable.plus)) HS3.out HS3.out.1.1.1.1 ?_; intro sp4 cap4 w4 hc4 hz4 hS4; have HS4 := Lib.hid hS4; have HZ4 := Lib.hid hz4; clear hS4 hz4
  (try simp only [Act.put, List.setIfInBounds_toArray, List.set_cons_zero, List.set_cons_succ])
  refine wpG_own _ rfl (by rfl) 10 #[.slice sp4 l.length cap4, .int .u32 ((n % 4294967296 : Nat) : Int)] (fun _ => by go_simp) (by repeat (first | exact SL.stable _ _ _ | apply Stable.plus)) HS4.out (l ++ leb (n % 4294967296) 4) (pu32_own l _ _ _ _ (by omega) (by omega) HS4.out.2) ?_; intro sp5 cap5 w5 hc5 hz5 hS5; have HS5 := Lib.hid hS5; have HZ5 := Lib.hid hz5; clear hS5 hz5
  (try simp only [Act.put, List.setIfInBounds_toArray, List.set_cons_zero, List.set_cons_succ])
  refine wpG_str _ rfl (by rfl) (.tmp 36) rfl sp5 cap5 (l ++ leb (n % 4294967296) 4) rfl (fun _ h => h.2) ?_
  (try simp only [Act.put, List.setIfInBounds_toArray, List.set_cons_zero, List.set_cons_succ])
  refine wpG_own _ rfl (by rfl) 9 #[.int .u64 ((n % 4294967296 : Nat) : Int), .int .i64 4] (fun _ => by go_simp) (by repeat (first | exact SL.stable _ _ _ | apply Stable.plus)) HS5.out (leb (n % 4294967296) 4) (wNum_any (n % 4294967296) 4 _ (by omega) (by omega)) ?_; intro sp6 cap6 w6 hc6 hz6 hS6; have HS6 := Lib.hid hS6; have HZ6 := Lib.hid hz6; clear hS6 hz6
  (try simp only [Act.put, List.setIfInBounds_toArray, List.set_cons_zero, List.set_cons_succ])
  refine wpG_str _ rfl (by rfl) (.tmp 41) rfl sp6 cap6 (leb (n % 4294967296) 4) rfl (fun _ h => h.2) ?_
  (try simp only [Act.put, List.setIfInBounds_toArray, List.set_cons_zero, List.set_cons_succ])
  refine wpG_take _ (.string (bstr (l ++ leb (n % 4294967296) 4))) rfl (by rfl) (fun w _ => ex_add rfl rfl rfl (by rw [leb_length]; omega)) ?_
  (try simp only [Act.put, List.setIfInBounds_toArray, List.set_cons_zero, List.set_cons_succ])
  refine wpG_take _ (.bool false) rfl (by rfl) (fun w _ => by rw [ex_neq rfl rfl rfl]; simp) ?_
  (try simp only [Act.put, List.setIfInBounds_toArray, List.set_cons_zero, List.set_cons_succ])
  refine wpG_take _ (.bool false) rfl (by rfl) (fun _ _ => by first | rfl | go_simp) ?_
  (try simp only [Act.put, List.setIfInBounds_toArray, List.set_cons_zero, List.set_cons_succ])
  refine wpG_nil ?_
  have HT00 : Hid (SL w sp l w6.drew) := Lib.hid (by have := HS6.out.1.1.1.1.1.1; exact ⟨this.1, this.2.drew⟩)
  clear HS0 HS1 HS2 HS3 HS4 HS5 HS6 HZ1 HZ2 HZ3 HZ4 HZ5 HZ6
  go_wp2
  refine wp_region_sched (.take 0 (.take 2 (.take 5 (.take 6 (.step 1 (.step 3 (.take 4 (.step 7 (.take 8 (.take 9 (.take 10 (.take 11 (.take 12 (.take 14 (.take 17 (.take 18 (.step 13 (.step 15 (.take 16 (.step 19 (.take 20 (.take 21 (.take 22 (.take 23 (.step 24 (.take 25 (.take 26 (.nil)))))))))))))))))))))))))))) (by kernel_rfl) (by kernel_rfl) (fun d _ _ _ _ h => by cases d <;> exact h) (SL w sp l) (HT00.out) ?_
  have HS0 := HT00
  refine wpG_take _ (Value.slice sp l.length cap) rfl (by rfl) (fun _ _ => by first | rfl | go_simp) ?_
  (try simp only [Act.put, List.setIfInBounds_toArray, List.set_cons_zero, List.set_cons_succ])
  refine wpG_take _ (.int .u64 (n : Int)) rfl (by rfl) (fun _ _ => by first | rfl | go_simp) ?_
  (try simp only [Act.put, List.setIfInBounds_toArray, List.set_cons_zero, List.set_cons_succ])
  refine wpG_take _ (.string (bstr l)) rfl (by rfl) (fun _ _ => by first | rfl | go_simp) ?_
  (try simp only [Act.put, List.setIfInBounds_toArray, List.set_cons_zero, List.set_cons_succ])
  refine wpG_take _ (.int .u64 (n : Int)) rfl (by rfl) (fun _ _ => by first | rfl | go_simp) ?_
  (try simp only [Act.put, List.setIfInBounds_toArray, List.set_cons_zero, List.set_cons_succ])
  refine wpG_app _ rfl (by rfl) _ (.tmp 46) rfl rfl sp cap l rfl hc HZ.out (by omega) (by repeat (first | exact SL.stable _ _ _ | apply Stable.plus)) HS0.out HS0.out.1 ?_; intro sp1 cap1 w1 hc1 hz1 hS1; have HS1 := Lib.hid hS1; have HZ1 := Lib.hid hz1; clear hS1 hz1
  (try simp only [Act.put, List.setIfInBounds_toArray, List.set_cons_zero, List.set_cons_succ])
  refine wpG_own _ rfl (by rfl) 11 #[.slice sp1 l.length cap1, .int .u64 (n : Int)] (fun _ => by go_simp) (by repeat (first | exact SL.stable _ _ _ | apply Stable.plus)) HS1.out (l ++ leb n 8) (pu64_own l _ _ _ _ (by omega) HNN.out HS1.out.2) ?_; intro sp2 cap2 w2 hc2 hz2 hS2; have HS2 := Lib.hid hS2; have HZ2 := Lib.hid hz2; clear hS2 hz2
  (try simp only [Act.put, List.setIfInBounds_toArray, List.set_cons_zero, List.set_cons_succ])
  refine wpG_str _ rfl (by rfl) (.tmp 49) rfl sp2 cap2 (l ++ leb n 8) rfl (fun _ h => h.2) ?_
  (try simp only [Act.put, List.setIfInBounds_toArray, List.set_cons_zero, List.set_cons_succ])
  refine wpG_own _ rfl (by rfl) 9 #[.int .u64 (n : Int), .int .i64 8] (fun _ => by go_simp) (by repeat (first | exact SL.stable _ _ _ | apply Stable.plus)) HS2.out (leb n 8) (wNum_any n 8 _ (by omega) HNN.out) ?_; intro sp3 cap3 w3 hc3 hz3 hS3; have HS3 := Lib.hid hS3; have HZ3 := Lib.hid hz3; clear hS3 hz3
  (try simp only [Act.put, List.setIfInBounds_toArray, List.set_cons_zero, List.set_cons_succ])
  refine wpG_str _ rfl (by rfl) (.tmp 53) rfl sp3 cap3 (leb n 8) rfl (fun _ h => h.2) ?_
  (try simp only [Act.put, List.setIfInBounds_toArray, List.set_cons_zero, List.set_cons_succ])
  refine wpG_take _ (.string (bstr (l ++ leb n 8))) rfl (by rfl) (fun w _ => ex_add rfl rfl rfl (by rw [leb_length]; omega)) ?_
  (try simp only [Act.put, List.setIfInBounds_toArray, List.set_cons_zero, List.set_cons_succ])
  refine wpG_take _ (.bool true) rfl (by rfl) (fun w _ => by rw [ex_eql rfl rfl rfl]; simp) ?_
  (try simp only [Act.put, List.setIfInBounds_toArray, List.set_cons_zero, List.set_cons_succ])
  refine wpG_take _ (.bool true) rfl (by rfl) (fun _ _ => by first | rfl | go_simp) ?_
  (try simp only [Act.put, List.setIfInBounds_toArray, List.set_cons_zero, List.set_cons_succ])
  refine wpG_take _ (Value.slice sp l.length cap) rfl (by rfl) (fun _ _ => by first | rfl | go_simp) ?_
  (try simp only [Act.put, List.setIfInBounds_toArray, List.set_cons_zero, List.set_cons_succ])
  refine wpG_take _ (.int .i64 fill) rfl (by rfl) (fun _ _ => by first | rfl | go_simp) ?_
  (try simp only [Act.put, List.setIfInBounds_toArray, List.set_cons_zero, List.set_cons_succ])
  refine wpG_take _ (Value.slice sp l.length cap) rfl (by rfl) (fun _ _ => by first | rfl | go_simp) ?_
  (try simp only [Act.put, List.setIfInBounds_toArray, List.set_cons_zero, List.set_cons_succ])
  refine wpG_take _ (.int .i64 fill) rfl (by rfl) (fun _ _ => by first | rfl | go_simp) ?_
  (try simp only [Act.put, List.setIfInBounds_toArray, List.set_cons_zero, List.set_cons_succ])
  refine wpG_app _ rfl (by rfl) _ (.tmp 58) rfl rfl sp cap l rfl hc HZ.out (by omega) (by repeat (first | exact SL.stable _ _ _ | apply Stable.plus)) HS3.out HS3.out.1.1.1.1 ?_; intro sp4 cap4 w4 hc4 hz4 hS4; have HS4 := Lib.hid hS4; have HZ4 := Lib.hid hz4; clear hS4 hz4
  (try simp only [Act.put, List.setIfInBounds_toArray, List.set_cons_zero, List.set_cons_succ])
  refine wpG_own _ rfl (by rfl) 12 #[.slice sp4 l.length cap4, .int .i64 fill] (fun _ => by go_simp) (by repeat (first | exact SL.stable _ _ _ | apply Stable.plus)) HS4.out (fillOf l fill) (fill_any l _ _ fill _ (by omega) (by omega) HS4.out.2) ?_; intro sp5 cap5 w5 hc5 hz5 hS5; have HS5 := Lib.hid hS5; have HZ5 := Lib.hid hz5; clear hS5 hz5
  (try simp only [Act.put, List.setIfInBounds_toArray, List.set_cons_zero, List.set_cons_succ])
  refine wpG_str _ rfl (by rfl) (.tmp 61) rfl sp5 cap5 (fillOf l fill) rfl (fun _ h => h.2) ?_
  (try simp only [Act.put, List.setIfInBounds_toArray, List.set_cons_zero, List.set_cons_succ])
  refine wpG_own _ rfl (by rfl) 13 #[.slice sp l.length cap, .int .i64 fill] (fun _ => by go_simp) (by repeat (first | exact SL.stable _ _ _ | apply Stable.plus)) HS5.out (fillOf l fill) (wFillR_any l _ _ fill _ (by omega) (by omega) hc HZ.out HS5.out.1.1.1.1.1.1) ?_; intro sp6 cap6 w6 hc6 hz6 hS6; have HS6 := Lib.hid hS6; have HZ6 := Lib.hid hz6; clear hS6 hz6
  (try simp only [Act.put, List.setIfInBounds_toArray, List.set_cons_zero, List.set_cons_succ])
  refine wpG_str _ rfl (by rfl) (.tmp 65) rfl sp6 cap6 (fillOf l fill) rfl (fun _ h => h.2) ?_
  (try simp only [Act.put, List.setIfInBounds_toArray, List.set_cons_zero, List.set_cons_succ])
  refine wpG_take _ (.bool true) rfl (by rfl) (fun w _ => by rw [ex_eql rfl rfl rfl]; simp) ?_
  (try simp only [Act.put, List.setIfInBounds_toArray, List.set_cons_zero, List.set_cons_succ])
  refine wpG_take _ (.bool true) rfl (by rfl) (fun _ _ => by first | rfl | go_simp) ?_
  (try simp only [Act.put, List.setIfInBounds_toArray, List.set_cons_zero, List.set_cons_succ])
  refine wpG_take _ (.bool true) rfl (by rfl) (fun _ _ => by first | rfl | go_simp) ?_
  (try simp only [Act.put, List.setIfInBounds_toArray, List.set_cons_zero, List.set_cons_succ])
  refine wpG_says _ rfl (by rfl) 7 #[] (fun _ => by go_simp) (by repeat (first | exact SL.stable _ _ _ | apply Stable.plus)) HS6.out (.bool true) (wakes_any _) ?_; intro w7 hS7; have HS7 := Lib.hid hS7; clear hS7
  (try simp only [Act.put, List.setIfInBounds_toArray, List.set_cons_zero, List.set_cons_succ])
  refine wpG_take _ (.bool true) rfl (by rfl) (fun _ _ => by first | rfl | go_simp) ?_
  (try simp only [Act.put, List.setIfInBounds_toArray, List.set_cons_zero, List.set_cons_succ])
  refine wpG_take _ (.bool true) rfl (by rfl) (fun _ _ => by first | rfl | go_simp) ?_
  (try simp only [Act.put, List.setIfInBounds_toArray, List.set_cons_zero, List.set_cons_succ])
  refine wpG_nil ?_
  have HE : Hid (Below w.heap.size w w7) := Lib.hid HS7.out.1.1.1.1.1.1.2
  go_wp2
  go_ret
  exact ⟨rfl, HE.out⟩
theorem wireWrites_walk (l : List (BitVec 8)) (sp : Option Addr) (cap n : Nat) (fill : Int) (w : World) (hc : l.length ≤ cap) (hz : sp = none → cap = 0) (hn : n < 18446744073709551616) (hS : SrcA w sp l) :
    Calls Try.prog 3 #[.slice sp l.length cap, .int .u64 (n : Int), .int .i64 fill] w fun e w' => e = .returned (.bool true) ∧ Below w.heap.size w w' := by
  by_cases h : l.length ≤ 1000 ∧ fill ≤ 2000
  · exact wireWrites_body l sp cap n fill w h.1 h.2 hc hz hn hS
  · clear hc hz hS hn
    obtain ⟨L, hL⟩ : ∃ L, l.length = L := ⟨_, rfl⟩
    rw [hL] at h ⊢
    clear hL
    by_cases h1 : (1000 : Int) < (L : Int)
    · clear h
      go_enter Try.func3, Try.ntmps3
      go_wp2_with (go_at_call 7; refine (wakes_any _).mono ?_; rintro x w2 ⟨rfl, hb2⟩; have HB2 := Lib.hid hb2; clear hb2)
      go_ret
      exact ⟨rfl, HB2.out⟩
    · have h2 : (2000 : Int) < fill := by omega
      clear h
      go_enter Try.func3, Try.ntmps3
      go_wp2_with (go_at_call 7; refine (wakes_any _).mono ?_; rintro x w2 ⟨rfl, hb2⟩; have HB2 := Lib.hid hb2; clear hb2)
      go_ret
      exact ⟨rfl, HB2.out⟩
end Go.Proofs.Ytfamohnbaelccaa
