/- Paths held against the document: the law, walked. -/
import Derived.Test.YtchjioknobmegaaLch
namespace Go.Proofs.Ytchjioknobmegaa
open Go.RowKit

/-- What is told, errors and all. -/
abbrev tA (l : List UInt8) : Bool := if errS l = 0 then absL l else false
abbrev tS (l : List UInt8) : Bool := if errS l = 0 then slL l else false
abbrev tP (l : List UInt8) : List (List UInt8) := if errS l = 0 then parts l else []
theorem told_any {l : List UInt8} {w w' : World} {e : Ending} (h : Told l w e w') : Below w.heap.size w w' ∧ ∃ sp n c, e = .returned (.tuple #[.agg #[.bool (tA l), .slice sp n c, .bool (tS l)], .int .i64 (errS l)]) ∧ Src w' (.slice sp n c) (tP l) := by
  by_cases h0 : errS l = 0
  · obtain ⟨hb, sp, n, c, rfl, ho⟩ := told_ok h h0
    refine ⟨hb, sp, n, c, ?_, ?_⟩
    · simp [tA, tS, h0]
    · simp only [tP, h0, if_true]
      exact ho.src
  · obtain ⟨hb, rfl⟩ := told_no h h0
    refine ⟨hb, none, 0, 0, ?_, ?_⟩
    · simp [tA, tS, h0]
    · simp only [tP, h0, if_false]
      exact (Own.nil w' 0).src
/-- The two paths as they lie. -/
structure Pair (n b b2 : Nat) (w : World) (a s : Bool) (v u : Value) (ls : List (List UInt8)) (wr : World) : Prop where
  bx : Bx wr b 29 a v s
  by' : Bx wr b2 32 a u s
  s1 : Src wr v ls
  s2 : Src wr u ls
  bel : Below n w wr
  hn : n ≤ wr.heap.size
theorem Pair.grown {n b b2 : Nat} {w wr w2 : World} {a s : Bool} {v u : Value} {ls : List (List UInt8)} (h : Pair n b b2 w a s v u ls wr) (hb : Below wr.heap.size wr w2) : Pair n b b2 w a s v u ls w2 :=
  ⟨h.bx.of (hb.block _ h.bx.lt), h.by'.of (hb.block _ h.by'.lt), h.s1.grown hb, h.s2.grown hb, h.bel.trans (hb.mono h.hn), Nat.le_trans h.hn hb.size⟩
theorem Pair.drew {n b b2 : Nat} {w wr : World} {a s : Bool} {v u : Value} {ls : List (List UInt8)} (h : Pair n b b2 w a s v u ls wr) : Pair n b b2 w a s v u ls wr.drew :=
  h.grown (Below.refl _ wr).drew
theorem ex_row {ρ : Operand → Value} {o : Oper} {x : Operand} {b ty t : Nat} {a s : Bool} {v : Value} {w : World} {fs : Array Field} (ho : o.op = .load ty x) (hx : ρ x = .pointer (some ⟨b, 0, none⟩)) (h : Bx w b t a v s) (hu : Try.prog.underlying ty = some (.struct fs)) (hi : (Try.prog.info? ty).map (·.size) = some 3) :
    (execOp ρ o).run Try.prog w = .ok (.value (.agg #[.bool a, v, .bool s])) w := by
  unfold execOp
  simp only [ho, hx, Instr.loadAt, Instr.sureAddr, Sem.run_bind, Sem.run_pure, Result.andThen_ok, run_loadVar_row w b t ty _ _ _ h hu rfl hi]
theorem ex_eqI {ρ : Operand → Value} {o : Oper} {x y : Operand} {k : TypeId} {i : Int} {w : World} (ho : o.op = .binOp .eql 23 x y k) (hx : ρ x = .int .i64 i) (hy : ρ y = .int .i64 i) : (execOp ρ o).run Try.prog w = .ok (.value (.bool true)) w := by
  unfold execOp
  simp [go_sem, ho, hx, hy]

set_option maxRecDepth 100000 in
set_option maxHeartbeats 4000000 in
theorem splits_walk (l : List UInt8) (w : World) : Calls Try.prog 4 #[.string (str l)] w (TrueBelow w) := by
  have hsz := str_size l
  by_cases h : 400 < l.length
  · go_enter Try.func4, Try.ntmps4
    go_wp2_with fail
    refine (wakes_any _).mono ?_
    rintro e w' ⟨rfl, hb⟩
    have HB := Lib.hid hb
    clear hb
    go_wp2_with fail
    go_ret
    exact ⟨rfl, HB.out⟩
  · go_enter Try.func4, Try.ntmps4
    go_wp2_with fail
    refine (split_any l (by omega) _).mono ?_
    intro e w1 ht
    obtain ⟨hb1, sp, n, c, rfl, hs1⟩ := told_any ht
    obtain ⟨A, hA⟩ : ∃ A, tA l = A := ⟨_, rfl⟩
    obtain ⟨S, hS⟩ : ∃ S, tS l = S := ⟨_, rfl⟩
    obtain ⟨P, hP⟩ : ∃ P, tP l = P := ⟨_, rfl⟩
    obtain ⟨E, hE⟩ : ∃ E : Nat, errS l = E := ⟨_, rfl⟩
    rw [hA, hS, hE]
    rw [hP] at hs1
    have hx1 : Bx (w1.alloc (.cells #[.bool A, .slice sp n c, .bool S] 29)) w1.heap.size 29 A (.slice sp n c) S := heap_alloc_new _ _
    have hs1' : Src (w1.alloc (.cells #[.bool A, .slice sp n c, .bool S] 29)) (.slice sp n c) P := hs1.grown ((Below.refl _ _).alloc (Nat.le_refl _) _)
    have hb1' : Below w.heap.size w (w1.alloc (.cells #[.bool A, .slice sp n c, .bool S] 29)) := hb1.alloc hb1.size _
    have HA := Lib.hid hA
    have HS := Lib.hid hS
    have HP := Lib.hid hP
    have HE := Lib.hid hE
    clear hA hS hP hE ht hs1 hb1
    go_wp2_with fail
    generalize (w1.alloc (.cells #[.bool A, .slice sp n c, .bool S] 29)) = W1 at hx1 hs1' hb1' ⊢
    generalize w1.heap.size = b1 at hx1 ⊢
    refine (rsplit_any l (by omega) _).mono ?_
    intro e w2 ht2
    obtain ⟨hb2, sp2, n2, c2, rfl, hs2⟩ := told_any ht2
    rw [HA.out, HS.out, HE.out]
    rw [HP.out] at hs2
    have hPr : Pair w.heap.size b1 w2.heap.size w A S (.slice sp n c) (.slice sp2 n2 c2) P (w2.alloc (.cells #[.bool A, .slice sp2 n2 c2, .bool S] 32)) := by
      have hg : Below w2.heap.size w2 (w2.alloc (.cells #[.bool A, .slice sp2 n2 c2, .bool S] 32)) := (Below.refl _ _).alloc (Nat.le_refl _) _
      have hx2 := hx1.of (hb2.block _ hx1.lt)
      have hbw := hb1'.trans (hb2.mono hb1'.size)
      exact ⟨hx2.of (hg.block _ hx2.lt), heap_alloc_new _ _, (hs1'.grown hb2).grown hg, hs2.grown hg, hbw.trans (hg.mono hbw.size), by have := hbw.size; simp; omega⟩
    have HPr := Lib.hid hPr
    have hPlen : P.length < 1000000 := by
      have h1 := parts_len l
      rw [← HP.out]
      unfold tP
      split
      · omega
      · simp
    clear hPr ht2 hb2 hs2 hx1 hs1' hb1'
    go_wp2_with fail
    generalize (w2.alloc (.cells #[.bool A, .slice sp2 n2 c2, .bool S] 32)) = W2 at HPr ⊢
    generalize w2.heap.size = b2 at HPr ⊢
    refine wp_region_sched (.take 0 (.take 1 (.take 2 (.take 3 (.take 4 (.take 6 (.step 5 (.step 7 (.take 8 (.take 9 (.step 10 (.take 11 (.take 12 .nil))))))))))))) (by kernel_rfl) (by kernel_rfl) (fun d _ _ _ _ h => by cases d <;> exact h) (Pair w.heap.size b1 b2 w A S (.slice sp n c) (.slice sp2 n2 c2) P) HPr.out.drew ?_
    refine wpG_take _ (.int .i64 E) rfl (by rfl) (fun X hX => by rfl) ?_
    (try simp only [Act.put, List.setIfInBounds_toArray, List.set_cons_zero, List.set_cons_succ])
    refine wpG_take _ (.int .i64 E) rfl (by rfl) (fun X hX => by rfl) ?_
    (try simp only [Act.put, List.setIfInBounds_toArray, List.set_cons_zero, List.set_cons_succ])
    refine wpG_take _ (.bool true) rfl (by rfl) (fun X hX => ex_eqI rfl rfl rfl) ?_
    (try simp only [Act.put, List.setIfInBounds_toArray, List.set_cons_zero, List.set_cons_succ])
    refine wpG_take _ (.bool true) rfl (by rfl) (fun X hX => by rfl) ?_
    (try simp only [Act.put, List.setIfInBounds_toArray, List.set_cons_zero, List.set_cons_succ])
    refine wpG_take _ (.agg #[.bool A, .slice sp n c, .bool S]) rfl (by rfl) (fun X hX => ex_row rfl rfl hX.bx Try.underlying29 info29) ?_
    (try simp only [Act.put, List.setIfInBounds_toArray, List.set_cons_zero, List.set_cons_succ])
    refine wpG_take _ (.agg #[.bool A, .slice sp2 n2 c2, .bool S]) rfl (by rfl) (fun X hX => ex_row rfl rfl hX.by' Try.underlying32 info32) ?_
    (try simp only [Act.put, List.setIfInBounds_toArray, List.set_cons_zero, List.set_cons_succ])
    refine wpG_call _ rfl (by rfl) 15 #[.agg #[.bool A, .slice sp n c, .bool S]] (fun _ => by go_simp) (fun u w3 => u = .agg #[.bool A, .slice sp n c, .bool S]) ((of_any A S sp n c _).mono fun e w3 ⟨e1, hb⟩ => ⟨_, e1, HPr.out.drew.grown hb, rfl⟩) ?_
    rintro u w3 hP3 rfl
    refine ⟨_, fun _ h => h, hP3, ?_⟩
    (try simp only [Act.put, List.setIfInBounds_toArray, List.set_cons_zero, List.set_cons_succ])
    refine wpG_call _ rfl (by rfl) 14 #[.agg #[.bool A, .slice sp n c, .bool S], .agg #[.bool A, .slice sp2 n2 c2, .bool S]] (fun _ => by go_simp) (fun u w3 => u = .bool true) ((same_any A S (.slice sp n c) (.slice sp2 n2 c2) P hPlen _ hP3.s1 hP3.s2).mono fun e w4 ⟨e1, hb⟩ => ⟨_, e1, hP3.grown hb, rfl⟩) ?_
    rintro u w4 hP4 rfl
    refine ⟨_, fun _ h => h, hP4, ?_⟩
    (try simp only [Act.put, List.setIfInBounds_toArray, List.set_cons_zero, List.set_cons_succ])
    refine wpG_take _ (.bool true) rfl (by rfl) (fun X hX => by rfl) ?_
    (try simp only [Act.put, List.setIfInBounds_toArray, List.set_cons_zero, List.set_cons_succ])
    refine wpG_take _ (.bool true) rfl (by rfl) (fun X hX => by rfl) ?_
    (try simp only [Act.put, List.setIfInBounds_toArray, List.set_cons_zero, List.set_cons_succ])
    refine wpG_call _ rfl (by rfl) 7 #[] (fun _ => by go_simp) (fun u w3 => u = .bool true) ((wakes_any _).mono fun e w5 ⟨e1, hb⟩ => ⟨_, e1, hP4.grown hb, rfl⟩) ?_
    rintro u w5 hP5 rfl
    refine ⟨_, fun _ h => h, hP5, ?_⟩
    (try simp only [Act.put, List.setIfInBounds_toArray, List.set_cons_zero, List.set_cons_succ])
    refine wpG_take _ (.bool true) rfl (by rfl) (fun X hX => by rfl) ?_
    (try simp only [Act.put, List.setIfInBounds_toArray, List.set_cons_zero, List.set_cons_succ])
    refine wpG_take _ (.bool true) rfl (by rfl) (fun X hX => by rfl) ?_
    (try simp only [Act.put, List.setIfInBounds_toArray, List.set_cons_zero, List.set_cons_succ])
    refine wpG_nil ?_
    have HB := Lib.hid hP5.bel
    clear hP3 hP4 hP5 HPr
    go_wp2_with fail
    go_ret
    exact ⟨rfl, HB.out⟩
end Go.Proofs.Ytchjioknobmegaa
