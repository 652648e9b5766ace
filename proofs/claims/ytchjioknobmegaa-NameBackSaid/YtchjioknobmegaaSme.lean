/- The document's Same, where the two are; a path as the document has it. -/
import Derived.Test.YtchjioknobmegaaSpr
namespace Go.Proofs.Ytchjioknobmegaa
open Go.RowKit

set_option maxRecDepth 100000 in
set_option maxHeartbeats 4000000 in
theorem of_any (a s : Bool) (sp : Option Addr) (n c : Nat) (w : World) : Calls Try.prog 15 #[.agg #[.bool a, .slice sp n c, .bool s]] w fun e w' => e = .returned (.agg #[.bool a, .slice sp n c, .bool s]) ∧ Below w.heap.size w w' := by
  go_enter Try.func15, Try.ntmps15
  go_wp2_with fail
  exact bodyPost_ret (results_cell_row Try.results15 _ _ (w.heap.size + 1) 32 _ _ _ rfl (two_new w _ _) Try.underlying32 rfl info32) rfl ⟨rfl, ((Below.refl _ w).alloc (Nat.le_refl _) _).alloc (by simp) _⟩

theorem ex_ixo {ρ : Operand → Value} {o : Oper} {x y : Operand} {g off n c k : Nat} {w : World} (ho : o.op = .indexAddr 27 x y) (hx : ρ x = .slice (some ⟨g, off, none⟩) n c) (hy : ρ y = .int .i64 (k : Int)) (hk : k < n) (_hn : n < 1000000) : (execOp ρ o).run Try.prog w = .ok (.value (.pointer (some ⟨g, off + k, none⟩))) w := by
  have h1 : (k : Int) < (n : Int) := by omega
  unfold execOp
  simp only [ho]
  go_simp
theorem ex_neS {ρ : Operand → Value} {o : Oper} {x y : Operand} {k : TypeId} {l : List UInt8} {w : World} (ho : o.op = .binOp .neq 9 x y k) (hx : ρ x = VS l) (hy : ρ y = VS l) : (execOp ρ o).run Try.prog w = .ok (.value (.bool false)) w := by
  unfold execOp
  simp [go_sem, ho, hx, hy]
/-- What Same has of the two. -/
structure Two (n : Nat) (w : World) (a s : Bool) (v u : Value) (g g2 o o2 : Nat) (ls : List (List UInt8)) (wr : World) : Prop where
  bx : Bx wr n 32 a v s
  by' : Bx wr (n + 1) 32 a u s
  t1 : ls ≠ [] → Txs g o ls wr
  t2 : ls ≠ [] → Txs g2 o2 ls wr
  bel : Below n w wr

set_option maxRecDepth 100000 in
set_option maxHeartbeats 4000000 in
theorem same_any (a s : Bool) (v u : Value) (ls : List (List UInt8)) (hls : ls.length < 1000000) (w : World) (hv : Src w v ls) (hu : Src w u ls) : Calls Try.prog 14 #[.agg #[.bool a, v, .bool s], .agg #[.bool a, u, .bool s]] w fun e w' => e = .returned (.bool true) ∧ Below w.heap.size w w' := by
  obtain ⟨sp, c, rfl, hc, hm, h1⟩ := hv
  obtain ⟨sp2, c2, rfl, hc2, hm2, h2⟩ := hu
  go_enter Try.func14, Try.ntmps14
  go_wp2_with fail
  have hT0 : Two w.heap.size w a s (.slice sp ls.length c) (.slice sp2 ls.length c2) 0 0 0 0 [] ((w.alloc (Obj.cells #[Value.bool a, Value.slice sp ls.length c, Value.bool s] 32)).alloc (Obj.cells #[Value.bool a, Value.slice sp2 ls.length c2, Value.bool s] 32)) :=
    ⟨Bx.of (heap_alloc_new w _) (Below.heap_alloc _ _ _ (by simp)), two_new w _ _, fun h => absurd rfl h, fun h => absurd rfl h, ((Below.refl _ w).alloc (Nat.le_refl _) _).alloc (by simp) _⟩
  obtain ⟨g, o, g2, o2, hT, hsp, hsp2⟩ : ∃ g o g2 o2, Two w.heap.size w a s (.slice sp ls.length c) (.slice sp2 ls.length c2) g g2 o o2 ls ((w.alloc (Obj.cells #[Value.bool a, Value.slice sp ls.length c, Value.bool s] 32)).alloc (Obj.cells #[Value.bool a, Value.slice sp2 ls.length c2, Value.bool s] 32)) ∧ (0 < ls.length → sp = some ⟨g, o, none⟩) ∧ (0 < ls.length → sp2 = some ⟨g2, o2, none⟩) := by
    by_cases hne : ls = []
    · refine ⟨0, 0, 0, 0, ⟨hT0.bx, hT0.by', fun h => absurd hne h, fun h => absurd hne h, hT0.bel⟩, ?_, ?_⟩ <;> intro h <;> subst hne <;> simp at h
    · obtain ⟨g, o, e1, hg, ht1⟩ := h1 hne
      obtain ⟨g2, o2, e2, hg2, ht2⟩ := h2 hne
      exact ⟨g, o, g2, o2, ⟨hT0.bx, hT0.by', fun _ => ht1.below hT0.bel hg, fun _ => ht2.below hT0.bel hg2, hT0.bel⟩, fun _ => e1, fun _ => e2⟩
  have HT := Lib.hid hT
  have HS := Lib.hid hsp
  have HS2 := Lib.hid hsp2
  clear hT hT0 hsp hsp2 h1 h2
  go_loopw [5] (fun i wr => ∃ k : Nat, i = .int .i64 k ∧ k ≤ ls.length ∧ Hid (Two w.heap.size w a s (.slice sp ls.length c) (.slice sp2 ls.length c2) g g2 o o2 ls wr)) (fun i _ => ls.length - (intOf i).toNat)
  case atStart => exact ⟨0, rfl, by omega, HT⟩
  case round =>
    obtain ⟨k, rfl, hk, HR⟩ := hrel
    have c1 := HR.out.bx.c1
    by_cases hlt : k < ls.length
    · obtain rfl := HS.out (by omega)
      obtain rfl := HS2.out (by omega)
      have hne : ls ≠ [] := by intro e; subst e; simp at hlt
      go_wp2_with fail
      refine wp_region_sched (.take 0 (.take 1 (.take 2 (.take 3 (.take 4 (.take 5 (.take 6 (.take 7 (.take 8 (.take 9 (.take 10 .nil))))))))))) (by kernel_rfl) (by kernel_rfl) (fun d _ _ _ _ h => by cases d <;> exact h) (Two w.heap.size w a s (.slice (some ⟨g, o, none⟩) ls.length c) (.slice (some ⟨g2, o2, none⟩) ls.length c2) g g2 o o2 ls) ⟨HR.out.bx, HR.out.by', HR.out.t1, HR.out.t2, HR.out.bel.drew⟩ ?_
      refine wpG_take _ (.pointer (some ⟨w.heap.size, 1, none⟩)) rfl (by rfl) (fun X hX => ex_fa32 rfl rfl) ?_
      (try simp only [Act.put, List.setIfInBounds_toArray, List.set_cons_zero, List.set_cons_succ])
      refine wpG_take _ (.slice (some ⟨g, o, none⟩) ls.length c) rfl (by rfl) (fun X hX => ex_ld rfl rfl hX.bx.c1) ?_
      (try simp only [Act.put, List.setIfInBounds_toArray, List.set_cons_zero, List.set_cons_succ])
      refine wpG_take _ (.int .i64 (k : Int)) rfl (by rfl) (fun X hX => by rfl) ?_
      (try simp only [Act.put, List.setIfInBounds_toArray, List.set_cons_zero, List.set_cons_succ])
      refine wpG_take _ (.pointer (some ⟨g, o + k, none⟩)) rfl (by rfl) (fun X hX => ex_ixo rfl rfl rfl hlt hls) ?_
      (try simp only [Act.put, List.setIfInBounds_toArray, List.set_cons_zero, List.set_cons_succ])
      refine wpG_take _ (VS (ls.getD k [])) rfl (by rfl) (fun X hX => ex_ls rfl rfl (hX.t1 hne k hlt)) ?_
      (try simp only [Act.put, List.setIfInBounds_toArray, List.set_cons_zero, List.set_cons_succ])
      refine wpG_take _ (.pointer (some ⟨w.heap.size + 1, 1, none⟩)) rfl (by rfl) (fun X hX => ex_fa32 rfl rfl) ?_
      (try simp only [Act.put, List.setIfInBounds_toArray, List.set_cons_zero, List.set_cons_succ])
      refine wpG_take _ (.slice (some ⟨g2, o2, none⟩) ls.length c2) rfl (by rfl) (fun X hX => ex_ld rfl rfl hX.by'.c1) ?_
      (try simp only [Act.put, List.setIfInBounds_toArray, List.set_cons_zero, List.set_cons_succ])
      refine wpG_take _ (.int .i64 (k : Int)) rfl (by rfl) (fun X hX => by rfl) ?_
      (try simp only [Act.put, List.setIfInBounds_toArray, List.set_cons_zero, List.set_cons_succ])
      refine wpG_take _ (.pointer (some ⟨g2, o2 + k, none⟩)) rfl (by rfl) (fun X hX => ex_ixo rfl rfl rfl hlt hls) ?_
      (try simp only [Act.put, List.setIfInBounds_toArray, List.set_cons_zero, List.set_cons_succ])
      refine wpG_take _ (VS (ls.getD k [])) rfl (by rfl) (fun X hX => ex_ls rfl rfl (hX.t2 hne k hlt)) ?_
      (try simp only [Act.put, List.setIfInBounds_toArray, List.set_cons_zero, List.set_cons_succ])
      refine wpG_take _ (.bool false) rfl (by rfl) (fun X hX => ex_neS rfl rfl rfl) ?_
      (try simp only [Act.put, List.setIfInBounds_toArray, List.set_cons_zero, List.set_cons_succ])
      refine wpG_nil ?_
      have HR2 : Hid (Two w.heap.size w a s (.slice (some ⟨g, o, none⟩) ls.length c) (.slice (some ⟨g2, o2, none⟩) ls.length c2) g g2 o o2 ls wr.drew) := Lib.hid ⟨HR.out.bx, HR.out.by', HR.out.t1, HR.out.t2, HR.out.bel.drew⟩
      clear c1
      go_wp2_with fail
      go_roundw
      case rel => exact ⟨k + 1, by go_num, by omega, HR2⟩
      case measure => simp [intOf]; omega
    · obtain rfl : k = ls.length := by omega
      go_wp2_with fail
      go_ret
      exact ⟨rfl, HR.out.bel⟩
end Go.Proofs.Ytchjioknobmegaa
