/- What Split told is joined to a path that Split tells the same of: the law, walked. -/
import Derived.Test.YtchjioknobmegaaLsp
namespace Go.Proofs.Ytchjioknobmegaa
open Go.RowKit

/-- Two paths of the program's as they lie. -/
structure Twin (n b b2 : Nat) (w : World) (a s : Bool) (v u : Value) (ls : List (List UInt8)) (wr : World) : Prop where
  bx : Bx wr b 29 a v s
  by' : Bx wr b2 29 a u s
  s1 : Src wr v ls
  s2 : Src wr u ls
  bel : Below n w wr
  hn : n ≤ wr.heap.size
theorem Twin.grown {n b b2 : Nat} {w wr w2 : World} {a s : Bool} {v u : Value} {ls : List (List UInt8)} (h : Twin n b b2 w a s v u ls wr) (hb : Below wr.heap.size wr w2) : Twin n b b2 w a s v u ls w2 :=
  ⟨h.bx.of (hb.block _ h.bx.lt), h.by'.of (hb.block _ h.by'.lt), h.s1.grown hb, h.s2.grown hb, h.bel.trans (hb.mono h.hn), Nat.le_trans h.hn hb.size⟩
theorem Twin.drew {n b b2 : Nat} {w wr : World} {a s : Bool} {v u : Value} {ls : List (List UInt8)} (h : Twin n b b2 w a s v u ls wr) : Twin n b b2 w a s v u ls wr.drew :=
  h.grown (Below.refl _ wr).drew
theorem ex_ne0 {ρ : Operand → Value} {o : Oper} {x y : Operand} {k : TypeId} {w : World} (ho : o.op = .binOp .neq 23 x y k) (hx : ρ x = .int .i64 0) (hy : ρ y = .int .i64 0) : (execOp ρ o).run Try.prog w = .ok (.value (.bool false)) w := by
  unfold execOp
  simp [go_sem, ho, hx, hy]
theorem ex_not {ρ : Operand → Value} {o : Oper} {x : Operand} {w : World} (ho : o.op = .unOp .not 4 x) (hx : ρ x = .bool true) : (execOp ρ o).run Try.prog w = .ok (.value (.bool false)) w := by
  unfold execOp
  simp [go_sem, ho, hx]
theorem ex_len {ρ : Operand → Value} {o : Oper} {x : Operand} {l : List UInt8} {w : World} (ho : o.op = .call { callee := .builtin .len, args := #[x], argTypes := #[9] }) (hx : ρ x = VS l) : (execOp ρ o).run Try.prog w = .ok (.value (.int .i64 (l.length : Int))) w := by
  have hsz := str_size l
  unfold execOp
  simp only [ho]
  go_simp
theorem ex_gt {ρ : Operand → Value} {o : Oper} {x y : Operand} {k : TypeId} {i j : Nat} {w : World} (ho : o.op = .binOp .gtr 3 x y k) (hx : ρ x = .int .i64 (i : Int)) (hy : ρ y = .int .i64 (j : Int)) (h : i ≤ j) : (execOp ρ o).run Try.prog w = .ok (.value (.bool false)) w := by
  have h1 : ¬ (j : Int) < (i : Int) := by omega
  unfold execOp
  simp [go_sem, ho, hx, hy, h1]

set_option maxRecDepth 100000 in
set_option maxHeartbeats 4000000 in
theorem back_walk (l : List UInt8) (w : World) : Calls Try.prog 6 #[.string (str l)] w (TrueBelow w) := by
  have hsz := str_size l
  by_cases h : 400 < l.length
  · go_enter Try.func6, Try.ntmps6
    go_wp2_with fail
    refine (wakes_any _).mono ?_
    rintro e w' ⟨rfl, hb⟩
    have HB := Lib.hid hb
    clear hb
    go_wp2_with fail
    go_ret
    exact ⟨rfl, HB.out⟩
  by_cases h0 : errS l = 0
  · have hbk := back h0
    go_enter Try.func6, Try.ntmps6
    go_wp2_with fail
    refine (split_any l (by omega) _).mono ?_
    intro e w1 ht
    obtain ⟨hb1, sp, n, c, rfl, ho1⟩ := told_ok ht h0
    have hpl := parts_len l
    have hwp : wt (parts l) < 100000 := by
      have h1 := wt_filter (cut l)
      have h2 := wt_cut _ l (Nat.le_refl _)
      unfold parts
      omega
    obtain ⟨A, hA⟩ : ∃ A, absL l = A := ⟨_, rfl⟩
    obtain ⟨S, hS⟩ : ∃ S, slL l = S := ⟨_, rfl⟩
    obtain ⟨P, hP⟩ : ∃ P, parts l = P := ⟨_, rfl⟩
    rw [hA, hS, hP] at hbk
    rw [hA, hS]
    rw [hP] at ho1 hpl hwp
    obtain ⟨J, hJ⟩ : ∃ J, joinL A P S = J := ⟨_, rfl⟩
    rw [hJ] at hbk
    obtain ⟨k1, k2, k3, k4, k5, k6⟩ := hbk
    have hx1 : Bx (w1.alloc (.cells #[.bool A, .slice sp n c, .bool S] 29)) w1.heap.size 29 A (.slice sp n c) S := heap_alloc_new _ _
    have hs1 : Src (w1.alloc (.cells #[.bool A, .slice sp n c, .bool S] 29)) (.slice sp n c) P := ho1.src.grown ((Below.refl _ _).alloc (Nat.le_refl _) _)
    have hb1' : Below w.heap.size w (w1.alloc (.cells #[.bool A, .slice sp n c, .bool S] 29)) := hb1.alloc hb1.size _
    have c0 : ∀ o, (w1.alloc o).heap[w1.heap.size]? = some o := fun o => heap_alloc_new _ _
    have HJ := Lib.hid hJ
    have HK1 := Lib.hid k1
    have HK2 := Lib.hid k2
    have HK3 := Lib.hid k3
    have HK4 := Lib.hid k4
    have HK6 := Lib.hid k6
    clear hA hS hP ht hb1 ho1 hJ k1 k2 k3 k4 k6 h0 c0
    go_wp2_with fail
    generalize (w1.alloc (.cells #[.bool A, .slice sp n c, .bool S] 29)) = W1 at hx1 hs1 hb1' ⊢
    generalize w1.heap.size = b1 at hx1 ⊢
    refine (join_any A S _ P hwp _ hs1).mono ?_
    rintro e w2 ⟨rfl, hb2⟩
    rw [HJ.out]
    have hx2 := hx1.of (hb2.block _ hx1.lt)
    have hs2 := hs1.grown hb2
    have hb2' := hb1'.trans (hb2.mono hb1'.size)
    have HX2 := Lib.hid hx2
    have HS2 := Lib.hid hs2
    have HB2 := Lib.hid hb2'
    clear hb2 hx1 hs1 hb1' hx2 hs2 hb2'
    go_wp2_with fail
    refine (split_any J (by omega) _).mono ?_
    intro e w3 ht
    obtain ⟨hb3, sp2, n2, c2, rfl, ho3⟩ := told_ok ht HK1.out
    rw [HK3.out, HK4.out]
    rw [HK2.out] at ho3
    have hTw : Twin w.heap.size b1 w3.heap.size w A S (.slice sp n c) (.slice sp2 n2 c2) P (w3.alloc (.cells #[.bool A, .slice sp2 n2 c2, .bool S] 29)) := by
      have hg : Below w3.heap.size w3 (w3.alloc (.cells #[.bool A, .slice sp2 n2 c2, .bool S] 29)) := (Below.refl _ _).alloc (Nat.le_refl _) _
      have hx3 := HX2.out.of (hb3.block _ HX2.out.lt)
      have hbw := HB2.out.trans (hb3.mono HB2.out.size)
      exact ⟨hx3.of (hg.block _ hx3.lt), heap_alloc_new _ _, (HS2.out.grown hb3).grown hg, ho3.src.grown hg, hbw.trans (hg.mono hbw.size), by have := hbw.size; simp; omega⟩
    have HTw := Lib.hid hTw
    clear hTw ht hb3 ho3 HX2 HS2 HB2
    go_wp2_with fail
    generalize (w3.alloc (.cells #[.bool A, .slice sp2 n2 c2, .bool S] 29)) = W3 at HTw ⊢
    generalize w3.heap.size = b3 at HTw ⊢
    refine wp_region_sched (.take 0 (.take 1 (.take 2 (.take 3 (.take 5 (.step 4 (.step 6 (.step 7 (.take 8 (.take 9 (.take 10 (.take 11 (.take 14 (.take 15 (.step 12 (.take 13 (.take 16 (.take 17 .nil)))))))))))))))))) (by kernel_rfl) (by kernel_rfl) (fun d _ _ _ _ h => by cases d <;> exact h) (Twin w.heap.size b1 b3 w A S (.slice sp n c) (.slice sp2 n2 c2) P) HTw.out.drew ?_
    refine wpG_take _ (.int .i64 0) rfl (by rfl) (fun X hX => by rfl) ?_
    (try simp only [Act.put, List.setIfInBounds_toArray, List.set_cons_zero, List.set_cons_succ])
    refine wpG_take _ (.bool false) rfl (by rfl) (fun X hX => ex_ne0 rfl rfl rfl) ?_
    (try simp only [Act.put, List.setIfInBounds_toArray, List.set_cons_zero, List.set_cons_succ])
    refine wpG_take _ (.bool false) rfl (by rfl) (fun X hX => by rfl) ?_
    (try simp only [Act.put, List.setIfInBounds_toArray, List.set_cons_zero, List.set_cons_succ])
    refine wpG_take _ (.agg #[.bool A, .slice sp n c, .bool S]) rfl (by rfl) (fun X hX => ex_row rfl rfl hX.bx Try.underlying29 info29) ?_
    (try simp only [Act.put, List.setIfInBounds_toArray, List.set_cons_zero, List.set_cons_succ])
    refine wpG_take _ (.agg #[.bool A, .slice sp2 n2 c2, .bool S]) rfl (by rfl) (fun X hX => ex_row rfl rfl hX.by' Try.underlying29 info29) ?_
    (try simp only [Act.put, List.setIfInBounds_toArray, List.set_cons_zero, List.set_cons_succ])
    refine wpG_call _ rfl (by rfl) 15 #[.agg #[.bool A, .slice sp n c, .bool S]] (fun _ => by go_simp) (fun u w4 => u = .agg #[.bool A, .slice sp n c, .bool S]) ((of_any A S sp n c _).mono fun e w4 ⟨e1, hb⟩ => ⟨_, e1, HTw.out.drew.grown hb, rfl⟩) ?_
    rintro u w4 hP4 rfl
    refine ⟨_, fun _ h => h, hP4, ?_⟩
    (try simp only [Act.put, List.setIfInBounds_toArray, List.set_cons_zero, List.set_cons_succ])
    refine wpG_call _ rfl (by rfl) 15 #[.agg #[.bool A, .slice sp2 n2 c2, .bool S]] (fun _ => by go_simp) (fun u w4 => u = .agg #[.bool A, .slice sp2 n2 c2, .bool S]) ((of_any A S sp2 n2 c2 _).mono fun e w5 ⟨e1, hb⟩ => ⟨_, e1, hP4.grown hb, rfl⟩) ?_
    rintro u w5 hP5 rfl
    refine ⟨_, fun _ h => h, hP5, ?_⟩
    (try simp only [Act.put, List.setIfInBounds_toArray, List.set_cons_zero, List.set_cons_succ])
    refine wpG_call _ rfl (by rfl) 14 #[.agg #[.bool A, .slice sp n c, .bool S], .agg #[.bool A, .slice sp2 n2 c2, .bool S]] (fun _ => by go_simp) (fun u w3 => u = .bool true) ((same_any A S (.slice sp n c) (.slice sp2 n2 c2) P (by omega) _ hP5.s1 hP5.s2).mono fun e w6 ⟨e1, hb⟩ => ⟨_, e1, hP5.grown hb, rfl⟩) ?_
    rintro u w6 hP6 rfl
    refine ⟨_, fun _ h => h, hP6, ?_⟩
    (try simp only [Act.put, List.setIfInBounds_toArray, List.set_cons_zero, List.set_cons_succ])
    refine wpG_take _ (.bool false) rfl (by rfl) (fun X hX => ex_not rfl rfl) ?_
    (try simp only [Act.put, List.setIfInBounds_toArray, List.set_cons_zero, List.set_cons_succ])
    refine wpG_take _ (.bool false) rfl (by rfl) (fun X hX => by rfl) ?_
    (try simp only [Act.put, List.setIfInBounds_toArray, List.set_cons_zero, List.set_cons_succ])
    refine wpG_take _ (.bool false) rfl (by rfl) (fun X hX => by rfl) ?_
    (try simp only [Act.put, List.setIfInBounds_toArray, List.set_cons_zero, List.set_cons_succ])
    refine wpG_take _ (.agg #[.bool A, .slice sp n c, .bool S]) rfl (by rfl) (fun X hX => ex_row rfl rfl hX.bx Try.underlying29 info29) ?_
    (try simp only [Act.put, List.setIfInBounds_toArray, List.set_cons_zero, List.set_cons_succ])
    refine wpG_take _ (VS l) rfl (by rfl) (fun X hX => by rfl) ?_
    (try simp only [Act.put, List.setIfInBounds_toArray, List.set_cons_zero, List.set_cons_succ])
    refine wpG_take _ (.int .i64 (l.length : Int)) rfl (by rfl) (fun X hX => ex_len rfl rfl) ?_
    (try simp only [Act.put, List.setIfInBounds_toArray, List.set_cons_zero, List.set_cons_succ])
    refine wpG_call _ rfl (by rfl) 16 #[.agg #[.bool A, .slice sp n c, .bool S]] (fun _ => by go_simp) (fun u w3 => u = VS J) ((join_any A S (.slice sp n c) P hwp _ hP6.s1).mono fun e w7 ⟨e1, hb⟩ => ⟨_, e1, hP6.grown hb, by rw [HJ.out]⟩) ?_
    rintro u w7 hP7 rfl
    refine ⟨_, fun _ h => h, hP7, ?_⟩
    (try simp only [Act.put, List.setIfInBounds_toArray, List.set_cons_zero, List.set_cons_succ])
    refine wpG_take _ (.int .i64 (J.length : Int)) rfl (by rfl) (fun X hX => ex_len rfl rfl) ?_
    (try simp only [Act.put, List.setIfInBounds_toArray, List.set_cons_zero, List.set_cons_succ])
    refine wpG_take _ (.bool false) rfl (by rfl) (fun X hX => ex_gt rfl rfl rfl k5) ?_
    (try simp only [Act.put, List.setIfInBounds_toArray, List.set_cons_zero, List.set_cons_succ])
    refine wpG_take _ (.bool false) rfl (by rfl) (fun X hX => by rfl) ?_
    (try simp only [Act.put, List.setIfInBounds_toArray, List.set_cons_zero, List.set_cons_succ])
    refine wpG_nil ?_
    have HT7 := Lib.hid hP7
    clear hP4 hP5 hP6 hP7 HTw
    go_wp2_with fail
    have hnP : n = P.length := by
      obtain ⟨sp', c', e1, _⟩ := HT7.out.s1
      simp at e1
      exact e1.2.1
    subst hnP
    go_loopw [7] (fun i wr => ∃ k : Nat, i = .int .i64 k ∧ k ≤ P.length ∧ Hid (Twin w.heap.size b1 b3 w A S (.slice sp P.length c) (.slice sp2 n2 c2) P wr)) (fun i _ => P.length - (intOf i).toNat)
    case atStart => exact ⟨0, rfl, by omega, HT7⟩
    case round =>
      obtain ⟨k, rfl, hk, HR⟩ := hrel
      have c1 := HR.out.bx.c1
      by_cases hlt : k < P.length
      · obtain ⟨g, o, hsp, hT⟩ : ∃ g o, sp = some ⟨g, o, none⟩ ∧ Txs g o P wr := by
          obtain ⟨sp', c', e1, _, _, h3⟩ := HR.out.s1
          simp at e1
          obtain ⟨rfl, rfl⟩ := e1
          obtain ⟨g, o, e2, _, h4⟩ := h3 (by intro e; subst e; simp at hlt)
          exact ⟨g, o, e2, h4⟩
        subst hsp
        have hcell := hT k hlt
        have hmem : P.getD k [] ∈ P := by
          rw [List.getD_eq_getElem?_getD, List.getElem?_eq_getElem hlt]
          exact List.getElem_mem hlt
        have hq6 := HK6.out _ hmem
        have hql : (P.getD k []).length < 1000000 := by have := get_le P k hlt; omega
        generalize P.getD k [] = q at hcell hq6 hql
        clear hT hmem
        by_cases hup : q = [46, 46]
        · subst hup
          clear hq6
          go_wp2_with fail
          go_roundw
          case rel => exact ⟨k + 1, by go_num, by omega, HR⟩
          case measure => simp [intOf]; omega
        · have hq0 : errC q = 0 := hq6.resolve_left hup
          have hne : (q == [46, 46]) = false := by simpa using hup
          have HQ0 := Lib.hid hq0
          clear hq6 hq0 hup
          go_wp2_with fail
          refine (pCheck_any q hql _).mono ?_
          rintro e w8 ⟨rfl, p8, rfl⟩
          rw [HQ0.out]
          have HR8 : Hid (Twin w.heap.size b1 b3 w A S (.slice (some ⟨g, o, none⟩) P.length c) (.slice sp2 n2 c2) P (wr.iter (str q) p8)) := Lib.hid (HR.out.grown ((Below.refl _ wr).alloc (Nat.le_refl _) _))
          clear hcell c1
          go_wp2_with fail
          go_roundw
          case rel => exact ⟨k + 1, by go_num, by omega, HR8⟩
          case measure => simp [intOf]; omega
      · obtain rfl : k = P.length := by omega
        go_wp2_with fail
        refine (wakes_any _).mono ?_
        rintro e w9 ⟨rfl, hb9⟩
        have HB9 := Lib.hid (HR.out.bel.trans (hb9.mono HR.out.hn))
        clear hb9
        go_wp2_with fail
        go_ret
        exact ⟨rfl, HB9.out⟩
  · go_enter Try.func6, Try.ntmps6
    go_wp2_with fail
    refine (split_any l (by omega) _).mono ?_
    intro e w1 ht
    obtain ⟨hb1, rfl⟩ := told_no ht h0
    obtain ⟨E, hE⟩ : ∃ E : Nat, errS l = E := ⟨_, rfl⟩
    rw [hE]
    rw [hE] at h0
    have hne : ((E : Int) != 0) = true := by simpa using h0
    have HB1 := Lib.hid hb1
    clear ht hb1 h0 hE
    go_wp2_with fail
    refine (wakes_any _).mono ?_
    rintro e w9 ⟨rfl, hb9⟩
    have HB9 := Lib.hid ((HB1.out.alloc HB1.out.size (.cells #[.bool false, .slice none 0 0, .bool false] 29)).trans (hb9.mono (by have := HB1.out.size; simp; omega)))
    clear hb9
    go_wp2_with fail
    go_ret
    exact ⟨rfl, HB9.out⟩
end Go.Proofs.Ytchjioknobmegaa
