/- A disk that is known, asked of the program. -/
import Derived.Test.YtneemllgimeacaaLw
namespace Go.Proofs.Ytneemllgimeacaa
open Go.RowKit

def A1 : Bs := full [1#8]
def A2 : Bs := full [2#8]
theorem A1_length : A1.length = 512 := full_length _
theorem A2_length : A2.length = 512 := full_length _
theorem src_one (w : World) (x : BitVec 8) (i : Int) (h : i = N8 x) : SrcA (w.alloc (.cells #[.int .u8 i] 5)) (some ⟨w.heap.size, 0, none⟩) [x] := by
  subst h
  exact Blk.srcB (Blk.new w [V8 x] 5)
theorem src_pick (w : World) (z : Int) (hz : z ≤ 9223372036854775807) : SrcI (w.alloc (.cells #[.int .i64 z] 3)) (some ⟨w.heap.size, 0, none⟩) [z] := by
  refine ⟨fun x hx => by simp at hx; omega, fun _ => ⟨_, _, rfl, by simp, fun j hj => ?_⟩⟩
  obtain rfl : j = 0 := by simp at hj; exact hj
  simp
theorem ex_sl4 {ρ : Operand → Value} {o : Oper} {x y : Operand} {b cap : Nat} {w : World} (ho : o.op = .slice 42 x none (some y) none) (hx : ρ x = .slice (some ⟨b, 0, none⟩) 512 cap) (hy : ρ y = .int .i64 4) (hc : 512 ≤ cap) :
    (execOp ρ o).run Try.prog w = .ok (.value (.slice (some ⟨b, 0, none⟩) 4 cap)) w := by
  have h4 : (4 : Int) ≤ (cap : Int) := by omega
  unfold execOp
  simp only [ho]
  go_simp
theorem ex_sl4b {ρ : Operand → Value} {o : Oper} {x y : Operand} {b cap : Nat} {w : World} (ho : o.op = .slice 42 x (some y) none none) (hx : ρ x = .slice (some ⟨b, 0, none⟩) 512 cap) (hy : ρ y = .int .i64 4) (hc : 512 ≤ cap) :
    (execOp ρ o).run Try.prog w = .ok (.value (.slice (some ⟨b, 4, none⟩) 508 (cap - 4))) w := by
  have h4 : ¬ (cap = 4) := by omega
  have h5 : (512 : Int) ≤ (cap : Int) := by omega
  unfold execOp
  simp only [ho]
  go_simp
theorem ex_addS {ρ : Operand → Value} {o : Oper} {x y : Operand} {l m : Bs} {w : World} (hlm : l.length + m.length ≤ 1000000) (ho : o.op = .binOp .add 9 x y 9) (hx : ρ x = .string (bstr l)) (hy : ρ y = .string (bstr m)) : (execOp ρ o).run Try.prog w = .ok (.value (.string (bstr (l ++ m)))) w := by
  rw [← bstr_add]
  unfold execOp
  simp only [ho]
  go_simp
  rw [bstr_size, bstr_size]
  omega
theorem ex_eqS {ρ : Operand → Value} {o : Oper} {x y : Operand} {l m : Bs} {w : World} (ho : o.op = .binOp .eql 9 x y 9) (hx : ρ x = .string (bstr l)) (hy : ρ y = .string (bstr m)) : (execOp ρ o).run Try.prog w = .ok (.value (.bool (decide (l = m)))) w := by
  unfold execOp
  simp only [ho]
  go_simp
  exact bstr_eq l m
theorem ex_eqT {ρ : Operand → Value} {o : Oper} {x y : Operand} {l : Bs} {w : World} (ho : o.op = .binOp .eql 9 x y 9) (hx : ρ x = .string (bstr l)) (hy : ρ y = .string (bstr l)) : (execOp ρ o).run Try.prog w = .ok (.value (.bool true)) w := by
  rw [ex_eqS ho hx hy]
  simp
set_option maxRecDepth 100000 in
set_option maxHeartbeats 4000000 in
theorem wakes_any (w : World) : Calls Try.prog 9 #[] w fun e w' => e = .returned (.bool true) ∧ Below w.heap.size w w' := by
  go_enter Try.func9, Try.ntmps9
  go_wp2_with fail
  refine (on_any w).mono ?_
  rintro e w1 ⟨Q, rfl, hQ1, hQ2, hp1, hb1⟩
  have HP1 := Lib.hid hp1
  have HB1 := Lib.hid hb1
  clear hp1 hb1
  go_wp2_with fail
  refine (new_ok 9 Q p0 rfl w1 HP1.out (by omega) (by omega)).mono ?_
  rintro e w2 ⟨D, S, rfl, hd2, hs2, hb2⟩
  have HL2 : Hid (Lw w.heap.size w w2 D Q S (fresh 9) p0) := Lib.hid ⟨hd2, HP1.out.chg (Chg.of_below (F := fun _ => False) hb2) (fun h => h), fun k hk => Nat.le_trans HB1.out.size (hs2 k hk), hQ1, Nat.le_refl _, HB1.out.trans (hb2.mono HB1.out.size)⟩
  clear hd2 hs2 hb2 HP1 HB1
  go_wp2_with fail
  refine (full_any [1#8] (some ⟨w2.heap.size, 0, none⟩) 1 1 rfl (by omega) _ (src_one w2 1#8 1 (by decide))).mono ?_
  rintro e w3 ⟨v4, rfl, ho, hb⟩
  have HM4 : Hid (Mine w3 (Fo S Q) v4 A1) := Lib.hid (Mine.of_own ho (by first | (rw [A1_length]; omega) | (rw [A2_length]; omega)) (fun k hk => by have := HL2.out.fo k hk; simp; omega))
  have HL3 : Hid (Lw w.heap.size w w3 D Q S (fresh 9) p0) := Lib.hid ((HL2.out.grown ((Below.refl _ _).alloc (Nat.le_refl _) _)).grown hb)
  clear ho hb HL2
  go_wp2_with fail
  refine (full_any [2#8] (some ⟨w3.heap.size, 0, none⟩) 1 1 rfl (by omega) _ (src_one w3 2#8 2 (by decide))).mono ?_
  rintro e w5 ⟨v5, rfl, ho, hb⟩
  have HM5 : Hid (Mine w5 (Fo S Q) v5 A2) := Lib.hid (Mine.of_own ho (by first | (rw [A1_length]; omega) | (rw [A2_length]; omega)) (fun k hk => by have := HL3.out.fo k hk; simp; omega))
  have HL5 : Hid (Lw w.heap.size w w5 D Q S (fresh 9) p0) := Lib.hid ((HL3.out.grown ((Below.refl _ _).alloc (Nat.le_refl _) _)).grown hb)
  have HM4' := Lib.hid ((HM4.out.grown ((Below.refl _ _).alloc (Nat.le_refl _) (.cells #[.int .u8 2] 5))).grown hb)
  clear ho hb HL3 HM4
  obtain ⟨X4, k4, e4, hk4, hm4, -⟩ := HM4'.out
  obtain ⟨X5, k5, e5, hk5, hm5, -⟩ := HM5.out
  rw [A1_length] at e4 hk4
  rw [A2_length] at e5 hk5
  subst e4 e5
  go_wp2_with fail
  refine (write_any D Q S (fresh 9) p0 3 A1 (some ⟨X4, 0, none⟩) 512 k4 (by omega) A1_length w5 (by obtain ⟨X, c, e, _, _, h, _⟩ := HM4'.out; cases e; exact h) HL5.out.dk HL5.out.pw (by simp [fresh])).mono ?_
  rintro e w6 ⟨he, hd, hp, hc⟩
  rw [wk1_is A1_length] at he hp
  subst he
  have HL6 : Hid (Lw w.heap.size w w6 D Q (Ext S w5 w6) (wk1 A1) p0) := Lib.hid (HL5.out.step hd hp hc)
  have HM46 := Lib.hid (HM4'.out.next hc (F' := Fo (Ext S w5 w6) Q) fo_ext)
  have HM56 := Lib.hid (HM5.out.next hc (F' := Fo (Ext S w5 w6) Q) fo_ext)
  generalize (Ext S w5 w6) = S6 at HL6 HM46 HM56
  clear hd hp hc HL5 HM4' HM5
  go_wp2_with fail
  refine (flush_any D Q S6 (wk1 A1) p0 w6 HL6.out.dk HL6.out.pw (by unfold wk1; rw [wk1_is A1_length]; simp)).mono ?_
  rintro e w7 ⟨he, hd, hp, hc⟩
  rw [wk2_is A1_length] at he hp
  subst he
  have HL7 : Hid (Lw w.heap.size w w7 D Q S6 (wk2 A1) p0) := Lib.hid (HL6.out.stay hd hp hc)
  have HM47 := Lib.hid (HM46.out.next hc (fun _ h => .inl h))
  have HM57 := Lib.hid (HM56.out.next hc (fun _ h => .inl h))
  clear hd hp hc HL6 HM46 HM56
  go_wp2_with fail
  refine (write_any D Q S6 (wk2 A1) p0 3 A2 (some ⟨X5, 0, none⟩) 512 k5 (by omega) A2_length w7 (by obtain ⟨X, c, e, _, _, h, _⟩ := HM57.out; cases e; exact h) HL7.out.dk HL7.out.pw (by unfold wk2; rw [wk2_is A1_length]; simp)).mono ?_
  rintro e w8 ⟨he, hd, hp, hc⟩
  rw [wk3_is A1_length A2_length] at he hp
  subst he
  have HL8 : Hid (Lw w.heap.size w w8 D Q (Ext S6 w7 w8) (wk3 A1 A2) p0) := Lib.hid (HL7.out.step hd hp hc)
  have HM48 := Lib.hid (HM47.out.next hc (F' := Fo (Ext S6 w7 w8) Q) fo_ext)
  have HM58 := Lib.hid (HM57.out.next hc (F' := Fo (Ext S6 w7 w8) Q) fo_ext)
  generalize (Ext S6 w7 w8) = S8 at HL8 HM48 HM58
  clear hd hp hc HL7 HM47 HM57
  go_wp2_with fail
  have HL9 : Hid (Lw w.heap.size w (w8.alloc (.cells #[.int .i64 6] 3)) D Q S8 (wk3 A1 A2) p0) := Lib.hid (HL8.out.grown ((Below.refl _ _).alloc (Nat.le_refl _) _))
  have HM49 := Lib.hid (HM48.out.grown ((Below.refl _ _).alloc (Nat.le_refl _) (.cells #[.int .i64 6] 3)))
  have HM59 := Lib.hid (HM58.out.grown ((Below.refl _ _).alloc (Nat.le_refl _) (.cells #[.int .i64 6] 3)))
  have HSP : Hid (∀ a, some (⟨w8.heap.size, 0, none⟩ : Addr) = some a → ¬ S8 a.block) := Lib.hid (fun a e hs => by cases e; have := HL8.out.dk.lt _ hs; simp at this)
  have HSI := Lib.hid (src_pick w8 6 (by omega))
  generalize (w8.alloc (.cells #[.int .i64 6] 3)) = wa at HL9 HM49 HM59 HSI ⊢
  clear HL8 HM48 HM58
  refine (crash_any D Q S8 (wk3 A1 A2) [6] (some ⟨w8.heap.size, 0, none⟩) 1 1 wa HL9.out.dk (by unfold wk3; rw [wk3_is A1_length A2_length]; simp) HSI.out rfl (Nat.le_refl _) (by unfold maxLen; omega) HSP.out).mono ?_
  rintro e wb ⟨rfl, hd, hc⟩
  have HLb : Hid (Lw w.heap.size w wb D Q S8 (wk4 A1 A2) p0) := Lib.hid (HL9.out.stay hd (HL9.out.pw.chg hc HL9.out.dk.nq) (hc.mono (fun _ h => .inl h)))
  have HM4b := Lib.hid (HM49.out.next (hc.mono (fun _ h => .inl h)) (fun _ h => .inl h))
  have HM5b := Lib.hid (HM59.out.next (hc.mono (fun _ h => .inl h)) (fun _ h => .inl h))
  clear hd hc HL9 HM49 HM59 HSP HSI
  have hcl : (wk4 A1 A2).cache.length = 0 := by rw [wk4_is A1_length A2_length]; rfl
  have HCL := Lib.hid hcl
  clear hcl
  obtain ⟨r1, r2, r3, r4⟩ := wk4_reads A1_length A2_length
  have HR1 := Lib.hid r1
  have HR2 := Lib.hid r2
  have HR3 := Lib.hid r3
  have HR4 := Lib.hid r4
  clear r1 r2 r3 r4
  go_wp2_with fail
  refine (read_any D Q S8 (wk4 A1 A2) p0 3 (by omega) wb HLb.out.dk HLb.out.pw (by rw [HCL.out]; omega)).mono ?_
  rintro e wc ⟨v9, rfl, hv, hb⟩
  rw [HR2.out] at hv
  rw [HR1.out]
  obtain ⟨X9, rfl, hx9, hb9, -⟩ := hv
  have HLc := Lib.hid (HLb.out.grown hb)
  have HM4c := Lib.hid (HM4b.out.grown hb)
  have HM5c := Lib.hid (HM5b.out.grown hb)
  have HB9 := Lib.hid hb9
  clear hb hb9 HLb HM4b HM5b HR1 HR2
  go_wp2_with fail
  refine (read_any D Q S8 (wk4 A1 A2) p0 9 (by omega) wc HLc.out.dk HLc.out.pw (by rw [HCL.out]; omega)).mono ?_
  rintro e wd ⟨v11, rfl, hv, hb⟩
  rw [HR4.out] at hv
  rw [HR3.out]
  obtain rfl := hv
  have HLd := Lib.hid (HLc.out.grown hb)
  have HM4d := Lib.hid (HM4c.out.grown hb)
  have HM5d := Lib.hid (HM5c.out.grown hb)
  have HB9d := Lib.hid (HB9.out.below hb HB9.out.lt)
  clear hb HB9 HLc HM4c HM5c HR3 HR4
  go_wp2_with fail
  obtain ⟨Y4, q4, e4, _, _, hs4, _⟩ := HM4d.out
  cases e4
  obtain ⟨Y5, q5, e5, _, _, hs5, _⟩ := HM5d.out
  cases e5
  have hs9 : SrcA wd (some ⟨X9, 0, none⟩) (A2.take 4 ++ A1.drop 4) := HB9d.out.srcB
  have hp : ∀ X, (SrcA X (some ⟨X4, 0, none⟩) A1 ∧ SrcA X (some ⟨X5, 0, none⟩) A2 ∧ SrcA X (some ⟨X9, 0, none⟩) (A2.take 4 ++ A1.drop 4)) → True := fun _ _ => trivial
  clear hp
  refine wp_region_sched (.take 0 (.take 1 (.take 2 (.take 3 (.take 4 (.take 5 (.take 6 (.take 7 (.take 8 (.take 9 (.take 10 (.take 11 (.take 12 (.take 13 (.take 14 (.take 15 (.take 16 (.take 17 (.take 18 (.take 19 (.take 20 (.take 21 (.take 22 (.take 23 (.take 24 (.take 25 (.take 26 (.take 27 (.take 28 (.take 29 (.take 30 (.take 31 (.step 32 (.take 33 (.take 34 (.take 35 (.nil))))))))))))))))))))))))))))))))))))) (by kernel_rfl) (by kernel_rfl) (fun d _ _ _ _ h => by cases d <;> exact h)
    (fun X => SrcA X (some ⟨X4, 0, none⟩) A1 ∧ SrcA X (some ⟨X5, 0, none⟩) A2 ∧ SrcA X (some ⟨X9, 0, none⟩) (A2.take 4 ++ A1.drop 4)) ⟨hs4, hs5, hs9⟩ ?_
  refine wpG_take _ (.int .i64 0) rfl (by rfl) (fun X hX => by first | rfl | go_simp) ?_
  (try simp only [Act.put, List.setIfInBounds_toArray, List.set_cons_zero, List.set_cons_succ])
  refine wpG_take _ (.bool true) rfl (by rfl) (fun X hX => by first | rfl | go_simp) ?_
  (try simp only [Act.put, List.setIfInBounds_toArray, List.set_cons_zero, List.set_cons_succ])
  refine wpG_take _ (.bool true) rfl (by rfl) (fun X hX => by first | rfl | go_simp) ?_
  (try simp only [Act.put, List.setIfInBounds_toArray, List.set_cons_zero, List.set_cons_succ])
  refine wpG_take _ (.int .i64 0) rfl (by rfl) (fun X hX => by first | rfl | go_simp) ?_
  (try simp only [Act.put, List.setIfInBounds_toArray, List.set_cons_zero, List.set_cons_succ])
  refine wpG_take _ (.bool true) rfl (by rfl) (fun X hX => by first | rfl | go_simp) ?_
  (try simp only [Act.put, List.setIfInBounds_toArray, List.set_cons_zero, List.set_cons_succ])
  refine wpG_take _ (.bool true) rfl (by rfl) (fun X hX => by first | rfl | go_simp) ?_
  (try simp only [Act.put, List.setIfInBounds_toArray, List.set_cons_zero, List.set_cons_succ])
  refine wpG_take _ (.bool true) rfl (by rfl) (fun X hX => by first | rfl | go_simp) ?_
  (try simp only [Act.put, List.setIfInBounds_toArray, List.set_cons_zero, List.set_cons_succ])
  refine wpG_take _ (.int .i64 0) rfl (by rfl) (fun X hX => by first | rfl | go_simp) ?_
  (try simp only [Act.put, List.setIfInBounds_toArray, List.set_cons_zero, List.set_cons_succ])
  refine wpG_take _ (.bool true) rfl (by rfl) (fun X hX => by first | rfl | go_simp) ?_
  (try simp only [Act.put, List.setIfInBounds_toArray, List.set_cons_zero, List.set_cons_succ])
  refine wpG_take _ (.bool true) rfl (by rfl) (fun X hX => by first | rfl | go_simp) ?_
  (try simp only [Act.put, List.setIfInBounds_toArray, List.set_cons_zero, List.set_cons_succ])
  refine wpG_take _ (.bool true) rfl (by rfl) (fun X hX => by first | rfl | go_simp) ?_
  (try simp only [Act.put, List.setIfInBounds_toArray, List.set_cons_zero, List.set_cons_succ])
  refine wpG_take _ (.int .i64 0) rfl (by rfl) (fun X hX => by first | rfl | go_simp) ?_
  (try simp only [Act.put, List.setIfInBounds_toArray, List.set_cons_zero, List.set_cons_succ])
  refine wpG_take _ (.bool true) rfl (by rfl) (fun X hX => by first | rfl | go_simp) ?_
  (try simp only [Act.put, List.setIfInBounds_toArray, List.set_cons_zero, List.set_cons_succ])
  refine wpG_take _ (.bool true) rfl (by rfl) (fun X hX => by first | rfl | go_simp) ?_
  (try simp only [Act.put, List.setIfInBounds_toArray, List.set_cons_zero, List.set_cons_succ])
  refine wpG_take _ (.bool true) rfl (by rfl) (fun X hX => by first | rfl | go_simp) ?_
  (try simp only [Act.put, List.setIfInBounds_toArray, List.set_cons_zero, List.set_cons_succ])
  refine wpG_take _ (.slice (some ⟨X9, 0, none⟩) 512 512) rfl (by rfl) (fun X hX => by first | rfl | go_simp) ?_
  (try simp only [Act.put, List.setIfInBounds_toArray, List.set_cons_zero, List.set_cons_succ])
  refine wpG_take _ (.string (bstr (A2.take 4 ++ A1.drop 4))) rfl (by rfl) (fun X hX => ex_cv rfl rfl (by simp [A1_length, A2_length]) hX.2.2) ?_
  (try simp only [Act.put, List.setIfInBounds_toArray, List.set_cons_zero, List.set_cons_succ])
  refine wpG_take _ (.slice (some ⟨X5, 0, none⟩) 512 k5) rfl (by rfl) (fun X hX => by first | rfl | go_simp) ?_
  (try simp only [Act.put, List.setIfInBounds_toArray, List.set_cons_zero, List.set_cons_succ])
  refine wpG_take _ (.slice (some ⟨X5, 0, none⟩) 4 k5) rfl (by rfl) (fun X hX => ex_sl4 rfl rfl rfl hk5) ?_
  (try simp only [Act.put, List.setIfInBounds_toArray, List.set_cons_zero, List.set_cons_succ])
  refine wpG_take _ (.string (bstr (A2.take 4))) rfl (by rfl) (fun X hX => ex_cv rfl rfl (by simp [A2_length]) (hX.2.1.take 4)) ?_
  (try simp only [Act.put, List.setIfInBounds_toArray, List.set_cons_zero, List.set_cons_succ])
  refine wpG_take _ (.slice (some ⟨X4, 0, none⟩) 512 k4) rfl (by rfl) (fun X hX => by first | rfl | go_simp) ?_
  (try simp only [Act.put, List.setIfInBounds_toArray, List.set_cons_zero, List.set_cons_succ])
  refine wpG_take _ (.slice (some ⟨X4, 4, none⟩) 508 (k4 - 4)) rfl (by rfl) (fun X hX => ex_sl4b rfl rfl rfl hk4) ?_
  (try simp only [Act.put, List.setIfInBounds_toArray, List.set_cons_zero, List.set_cons_succ])
  refine wpG_take _ (.string (bstr (A1.drop 4))) rfl (by rfl) (fun X hX => ex_cv rfl rfl (by simp [A1_length]) (hX.1.drop 4)) ?_
  (try simp only [Act.put, List.setIfInBounds_toArray, List.set_cons_zero, List.set_cons_succ])
  refine wpG_take _ (.string (bstr (A2.take 4 ++ A1.drop 4))) rfl (by rfl) (fun X hX => ex_addS (by simp [A1_length]; omega) rfl rfl rfl) ?_
  (try simp only [Act.put, List.setIfInBounds_toArray, List.set_cons_zero, List.set_cons_succ])
  refine wpG_take _ (.bool true) rfl (by rfl) (fun X hX => ex_eqT rfl rfl rfl) ?_
  (try simp only [Act.put, List.setIfInBounds_toArray, List.set_cons_zero, List.set_cons_succ])
  refine wpG_take _ (.bool true) rfl (by rfl) (fun X hX => by first | rfl | go_simp) ?_
  (try simp only [Act.put, List.setIfInBounds_toArray, List.set_cons_zero, List.set_cons_succ])
  refine wpG_take _ (.bool true) rfl (by rfl) (fun X hX => by first | rfl | go_simp) ?_
  (try simp only [Act.put, List.setIfInBounds_toArray, List.set_cons_zero, List.set_cons_succ])
  refine wpG_take _ (.int .i64 1) rfl (by rfl) (fun X hX => by first | rfl | go_simp) ?_
  (try simp only [Act.put, List.setIfInBounds_toArray, List.set_cons_zero, List.set_cons_succ])
  refine wpG_take _ (.bool true) rfl (by rfl) (fun X hX => by first | rfl | go_simp) ?_
  (try simp only [Act.put, List.setIfInBounds_toArray, List.set_cons_zero, List.set_cons_succ])
  refine wpG_take _ (.bool true) rfl (by rfl) (fun X hX => by first | rfl | go_simp) ?_
  (try simp only [Act.put, List.setIfInBounds_toArray, List.set_cons_zero, List.set_cons_succ])
  refine wpG_take _ (.bool true) rfl (by rfl) (fun X hX => by first | rfl | go_simp) ?_
  (try simp only [Act.put, List.setIfInBounds_toArray, List.set_cons_zero, List.set_cons_succ])
  refine wpG_take _ (.pointer (some ⟨D, 0, none⟩)) rfl (by rfl) (fun X hX => by first | rfl | go_simp) ?_
  (try simp only [Act.put, List.setIfInBounds_toArray, List.set_cons_zero, List.set_cons_succ])
  refine wpG_call _ rfl (by rfl) 32 #[.pointer (some ⟨D, 0, none⟩)] (fun _ => by go_simp) (fun u w3 => u = .int .i64 0 ∧ w3 = wd.drew) ((cached_any D Q S8 (wk4 A1 A2) wd.drew (HLd.out.grown (Below.refl _ wd).drew).dk).mono fun e w' ⟨e1, e2⟩ => ⟨_, e1, by subst e2; exact ⟨hs4, hs5, hs9⟩, by rw [HCL.out]; rfl, e2.symm⟩) ?_
  rintro u we - ⟨rfl, rfl⟩
  refine ⟨_, fun _ h => h, ⟨hs4, hs5, hs9⟩, ?_⟩
  (try simp only [Act.put, List.setIfInBounds_toArray, List.set_cons_zero, List.set_cons_succ])
  refine wpG_take _ (.bool true) rfl (by rfl) (fun X hX => by first | rfl | go_simp) ?_
  (try simp only [Act.put, List.setIfInBounds_toArray, List.set_cons_zero, List.set_cons_succ])
  refine wpG_take _ (.bool true) rfl (by rfl) (fun X hX => by first | rfl | go_simp) ?_
  (try simp only [Act.put, List.setIfInBounds_toArray, List.set_cons_zero, List.set_cons_succ])
  refine wpG_take _ (.bool true) rfl (by rfl) (fun X hX => by first | rfl | go_simp) ?_
  (try simp only [Act.put, List.setIfInBounds_toArray, List.set_cons_zero, List.set_cons_succ])
  refine wpG_nil ?_
  go_wp2_with fail
  go_ret
  exact ⟨rfl, HLd.out.bel.drew⟩
end Go.Proofs.Ytneemllgimeacaa
