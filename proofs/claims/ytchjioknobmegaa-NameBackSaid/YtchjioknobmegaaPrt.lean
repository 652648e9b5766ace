/- A path in parts, as the program does it. -/
import Derived.Test.YtchjioknobmegaaBtw
import Derived.Test.YtchjioknobmegaaSched
import Derived.Lib.OthersKept
namespace Go.Proofs.Ytchjioknobmegaa
open Go.RowKit

/-- A path's three cells. -/
def Bx (w : World) (b t : Nat) (a : Bool) (v : Value) (s : Bool) : Prop := w.heap[b]? = some (.cells #[.bool a, v, .bool s] t (0, 0))
theorem Bx.c0 {w : World} {b t : Nat} {a s : Bool} {v : Value} (h : Bx w b t a v s) : w.cell? ⟨b, 0, none⟩ = some (.bool a) := by rw [Lib.cell_of_heap h]; rfl
theorem Bx.c1 {w : World} {b t : Nat} {a s : Bool} {v : Value} (h : Bx w b t a v s) : w.cell? ⟨b, 1, none⟩ = some v := by rw [Lib.cell_of_heap h]; rfl
theorem Bx.c2 {w : World} {b t : Nat} {a s : Bool} {v : Value} (h : Bx w b t a v s) : w.cell? ⟨b, 2, none⟩ = some (.bool s) := by rw [Lib.cell_of_heap h]; rfl
theorem Bx.frozen {w : World} {b t : Nat} {a s : Bool} {v : Value} (h : Bx w b t a v s) (j : Nat) : w.frozen? ⟨b, j, none⟩ = false := Lib.frozen_of_heap h j
theorem Bx.lt {w : World} {b t : Nat} {a s : Bool} {v : Value} (h : Bx w b t a v s) : b < w.heap.size := (Array.getElem?_eq_some_iff.1 h).1
theorem Bx.of {w W : World} {b t : Nat} {a s : Bool} {v : Value} (h : Bx w b t a v s) (hb : W.heap[b]? = w.heap[b]?) : Bx W b t a v s := hb.trans h
theorem Bx.put0 {w : World} {b t : Nat} {a s : Bool} {v : Value} (h : Bx w b t a v s) (a' : Bool) : Bx (w.setCell ⟨b, 0, none⟩ (.bool a')) b t a' v s := by
  unfold Bx at *
  simp [World.setCell, Array.getElem?_modify, h]
theorem Bx.put1 {w : World} {b t : Nat} {a s : Bool} {v : Value} (h : Bx w b t a v s) (v' : Value) : Bx (w.setCell ⟨b, 1, none⟩ v') b t a v' s := by
  unfold Bx at *
  simp [World.setCell, Array.getElem?_modify, h]
theorem Bx.put2 {w : World} {b t : Nat} {a s : Bool} {v : Value} (h : Bx w b t a v s) (s' : Bool) : Bx (w.setCell ⟨b, 2, none⟩ (.bool s')) b t a v s' := by
  unfold Bx at *
  simp [World.setCell, Array.getElem?_modify, h]
/-- Iterators stay where they stood. -/
def Its (w w' : World) : Prop := ∀ (k : Nat) (s : ByteArray) (p : Nat), w.heap[k]? = some (Obj.stringIter s p) → w'.heap[k]? = some (Obj.stringIter s p)
theorem Its.refl (w : World) : Its w w := fun _ _ _ h => h
theorem Its.trans {a b c : World} (h : Its a b) (k : Its b c) : Its a c := fun i s p hi => k i s p (h i s p hi)
theorem Its.below {w w' : World} (h : Below w.heap.size w w') : Its w w' := fun k _ _ hk => (h.block k (Array.getElem?_eq_some_iff.1 hk).1).trans hk
theorem Its.set {w : World} {b t : Nat} {a s : Bool} {v u : Value} (h : Bx w b t a v s) (j : Nat) : Its w (w.setCell ⟨b, j, none⟩ u) := fun k s' p hk => by
  rw [Below.heap_setCell _ _ _ _ (fun e => by rw [e] at hk; unfold Bx at h; rw [h] at hk; cases hk)]
  exact hk
theorem Its.grown {w w' : World} {B : Nat} {v : Value} {ls : List (List UInt8)} (ho : Own w B v ls) (hg : w.grownBy w' v.ownBlock) : Its w w' := fun k s p hk => by
  have hlt := (Array.getElem?_eq_some_iff.1 hk).1
  rw [hg.block k hlt ?_]
  · exact hk
  · intro e
    rcases ho.2 with ⟨rfl, _⟩ | ⟨g, cap, cur, rfl, _, hgg, _⟩
    · simp [Value.ownBlock] at e
    · simp [Value.ownBlock] at e
      rw [e, hgg] at hk
      cases hk

theorem clone_any (l : List UInt8) (hl : l.length < 1000000) (w : World) :
    Calls Try.prog 28 #[.string (str l)] w fun e w' => e = .returned (.string (str l)) ∧ Below w.heap.size w w' := by
  go_enter Try.func28, Try.ntmps28
  go_wp2_with (go_at_call 32; refine (Try.stringslite_Clone _ _ (by rw [str_size]; omega)).mono ?_; rintro e w' ⟨rfl, hb⟩; have HB := Lib.hid hb; clear hb)
  go_ret
  exact ⟨rfl, HB.out⟩

/-- What a piece that was taken leaves. -/
def Took (w : World) (b B : Nat) (a : Bool) (ps : List (List UInt8)) (l : List UInt8) (w' : World) : Prop :=
  (∃ v', Bx w' b 29 a v' (dirLast l) ∧ Own w' B v' (if keep l = true then ps ++ [l] else ps)) ∧ Below b w w' ∧ Its w w'
theorem Own.setCell {w : World} {B b t : Nat} {v : Value} {ls : List (List UInt8)} (h : Own w B v ls) {a s : Bool} {u : Value} (hb : Bx w b t a u s) (ht : t ≠ 9) (j : Nat) (x : Value) : Own (w.setCell ⟨b, j, none⟩ x) B v ls := by
  refine h.kept (row := some b) ⟨rfl, rfl, rfl, by simp [World.setCell], fun k _ hk => Below.heap_setCell _ _ _ _ (fun e => hk (by simp [e]))⟩ (.inr ?_)
  rcases h.2 with ⟨rfl, _⟩ | ⟨g, cap, cur, rfl, _, hg, _⟩
  · simp [Value.ownBlock]
  · simp only [Value.ownBlock, ne_eq, Option.some.injEq]
    intro e
    unfold Bx at hb
    rw [e, hb] at hg
    simp at hg
    exact ht hg.2
theorem took_not {w : World} {b B : Nat} {a s : Bool} {v : Value} {ps : List (List UInt8)} {l : List UInt8} (hbx : Bx w b 29 a v s) (hown : Own w B v ps) (hk : keep l = false) (x : Bool) (hx : x = dirLast l) : Took w b B a ps l (w.setCell ⟨b, 2, none⟩ (.bool x)) := by
  refine ⟨⟨v, ?_, ?_⟩, ?_, Its.set hbx 2⟩
  · rw [← hx]; exact hbx.put2 _
  · rw [hk]; exact hown.setCell hbx (by decide) 2 _
  · exact (Below.refl b w).setCell (p := ⟨b, 2, none⟩) (Nat.le_refl _) _

theorem ex_fa {ρ : Operand → Value} {o : Oper} {x : Operand} {b : Nat} {w : World} (ho : o.op = .fieldAddr 29 x 1) (hx : ρ x = .pointer (some ⟨b, 0, none⟩)) : (execOp ρ o).run Try.prog w = .ok (.value (.pointer (some ⟨b, 1, none⟩))) w := by
  unfold execOp
  simp only [ho]
  go_simp
theorem ex_ld {ρ : Operand → Value} {o : Oper} {x : Operand} {ad : Addr} {v : Value} {w : World} (ho : o.op = .load 27 x) (hx : ρ x = .pointer (some ad)) (hc : w.cell? ad = some v) : (execOp ρ o).run Try.prog w = .ok (.value v) w := by
  unfold execOp
  simp only [ho]
  go_simp
theorem ex_one {ρ : Operand → Value} {o : Oper} {x : Operand} {l : List UInt8} {w : World} (ho : o.op = .buildSlice 27 1 #[(0, x)]) (hx : ρ x = VS l) : (execOp ρ o).run Try.prog w = .ok (.value (.slice (some ⟨w.heap.size, 0, none⟩) 1 1)) (w.alloc (.cells #[VS l] 9)) := by
  unfold execOp
  simp only [ho]
  go_simp
theorem ex_st {ρ : Operand → Value} {o : Oper} {x y : Operand} {b n cap : Nat} {sp : Option Addr} {w : World} (ho : o.op = .store 27 x y) (hx : ρ x = .pointer (some ⟨b, 1, none⟩)) (hy : ρ y = .slice sp n cap) {u : Value} (hc : w.cell? ⟨b, 1, none⟩ = some u) (hf : w.frozen? ⟨b, 1, none⟩ = false) :
    (execOp ρ o).run Try.prog w = .ok .skip (w.setCell ⟨b, 1, none⟩ (.slice sp n cap)) := by
  unfold execOp
  simp only [ho]
  go_simp
section
variable {ops : Array Oper} {Q : Exit → Act → World → Prop} {S : World → Prop}
/-- An operation that turns memory; what is known of its world, told anew. -/
theorem wpG_mk {i : Nat} {r : Tr} {a : Act} {w : World} (o : Oper) (hi : ops.toList[i]? = some o) (hw : Region.wanted o (yielded ops a.tmps) = true) (v : Value) (w1 : World) (hrun : (execOp a.eval o).run Try.prog w = .ok (.value v) w1)
    (S' : World → Prop) (hS : S' w1) (hSS : ∀ w, S' w → S w) (h : wpG Try.prog ops Q r S' (a.put o.dst v) w1) : wpG Try.prog ops Q (.step i r) S a w := by
  show wpOp Try.prog ops Q i _ a w
  unfold wpOp
  simp only [of_list hi]
  rw [if_pos hw]
  refine .inl ?_
  unfold Oper.wp
  rw [hrun]
  exact ⟨hSS _ hS, S', hSS, hS, h⟩
/-- A store. -/
theorem wpG_st {i : Nat} {r : Tr} {a : Act} {w : World} (o : Oper) (hi : ops.toList[i]? = some o) (hw : Region.wanted o (yielded ops a.tmps) = true) (w1 : World) (hrun : (execOp a.eval o).run Try.prog w = .ok .skip w1)
    (S' : World → Prop) (hS : S' w1) (hSS : S w1) (hS2 : ∀ w, S' w → S w) (h : wpG Try.prog ops Q r S' (a.put o.dst undef) w1) : wpG Try.prog ops Q (.step i r) S a w := by
  show wpOp Try.prog ops Q i _ a w
  unfold wpOp
  simp only [of_list hi]
  rw [if_pos hw]
  refine .inl ?_
  unfold Oper.wp
  rw [hrun]
  exact ⟨hSS, S', hS2, hS, h⟩
/-- One text more, in a region. -/
theorem wpG_app {i : Nat} {r : Tr} {a : Act} {w : World} (o : Oper) (hi : ops.toList[i]? = some o) (hw : Region.wanted o (yielded ops a.tmps) = true) (s x : Operand)
    (ho : o.op = .call { callee := .builtin .append, args := #[s, x], argTypes := #[27, 27] }) (v : Value) (hs : a.eval s = v) (B : Nat) (ls : List (List UInt8)) (hown : Own w B v ls) (ad : Addr) (c : Nat) (l : List UInt8) (hx : a.eval x = .slice (some ad) 1 c) (hcell : w.cell? (ad.add 0) = some (VS l))
    (hl : ls.length < 1000000) (hB : B ≤ w.heap.size)
    (h : ∀ v' w', Own w' B v' (ls ++ [l]) → w.grownBy w' v.ownBlock → S w' ∧ wpG Try.prog ops Q r S (a.put o.dst v') w') : wpG Try.prog ops Q (.step i r) S a w :=
  wpG_bare o hi hw fun K hK => wpList_app rfl s x ho B v ls hs hown ad c l hx hcell hl hB fun v' w' h2 h3 => wpG_list_nil (hK _ _ S (fun _ h => h) (h v' w' h2 h3).1 (h v' w' h2 h3).2)
end

set_option maxRecDepth 100000 in
set_option maxHeartbeats 4000000 in
theorem take_any (b B : Nat) (a s : Bool) (v : Value) (ps : List (List UInt8)) (l : List UInt8) (hl : l.length < 1000000) (hps : ps.length < 1000000) (w : World) (hbx : Bx w b 29 a v s) (hown : Own w B v ps) (hbB : b < B) (hBw : B ≤ w.heap.size) :
    Calls Try.prog 27 #[.string (str l), .pointer (some ⟨b, 0, none⟩)] w fun e w' => e = .returned (.tuple #[]) ∧ Took w b B a ps l w' := by
  have hsz := str_size l
  have c2 := hbx.c2
  have f2 := hbx.frozen 2
  have HBX := Lib.hid hbx
  have HO := Lib.hid hown
  clear hbx hown
  by_cases h1 : l = []
  · subst h1
    go_enter Try.func27, Try.ntmps27
    go_wp2_with fail
    go_end0
    exact ⟨rfl, took_not HBX.out HO.out rfl _ rfl⟩
  by_cases h2 : l = [46]
  · subst h2
    go_enter Try.func27, Try.ntmps27
    go_wp2_with fail
    go_end0
    exact ⟨rfl, took_not HBX.out HO.out rfl _ rfl⟩
  have hk : keep l = true := (keep_iff l).2 ⟨h1, h2⟩
  have HK := Lib.hid hk
  have hb1 : l.isEmpty = false := by simpa using h1
  have hb2 : (l == [46]) = false := by simpa using h2
  clear hk h1 h2
  go_enter Try.func27, Try.ntmps27
  go_wp2_with fail
  have hx : (l == [46, 46]) = dirLast l := by unfold dirLast; simp at hb1 hb2; simp [hb1, hb2]
  have hW : Bx (w.setCell ⟨b, 2, none⟩ (.bool (l == [46, 46]))) b 29 a v (dirLast l) ∧ Own (w.setCell ⟨b, 2, none⟩ (.bool (l == [46, 46]))) B v ps ∧ Below b w (w.setCell ⟨b, 2, none⟩ (.bool (l == [46, 46]))) ∧ Its w (w.setCell ⟨b, 2, none⟩ (.bool (l == [46, 46]))) := by
    refine ⟨?_, HO.out.setCell HBX.out (by decide) 2 _, (Below.refl b w).setCell (p := ⟨b, 2, none⟩) (Nat.le_refl _) _, Its.set HBX.out 2⟩
    rw [hx]
    exact HBX.out.put2 _
  clear hx
  generalize (w.setCell ⟨b, 2, none⟩ (.bool (l == [46, 46]))) = W at hW ⊢
  obtain ⟨hbx, hown, hbel, hits⟩ := hW
  have hBW : B ≤ W.heap.size := Nat.le_trans hBw hbel.size
  clear HBX HO c2 f2
  have hc1 : ∀ X, Below W.heap.size W X → X.cell? ⟨b, 1, none⟩ = some v := fun X h => (Bx.of hbx (h.block b hbx.lt)).c1
  refine wp_region_sched (.take 0 (.take 2 (.fork 1 (.step 3 (.step 4 (.step 5 (.take 6 (.step 7 .nil))))) 3 (.fork 1 (.step 4 (.step 5 (.take 6 (.step 7 .nil)))) 4 (.step 1 (.step 5 (.take 6 (.step 7 .nil)))))))) (by kernel_rfl) (by kernel_rfl) (fun d _ _ _ _ h => by cases d <;> exact h) (fun _ => True) trivial ?_
  refine wpG_take _ (.pointer (some ⟨b, 1, none⟩)) rfl (by rfl) (fun X hX => ex_fa rfl rfl) ?_
  (try simp only [Act.put, List.setIfInBounds_toArray, List.set_cons_zero, List.set_cons_succ])
  refine wpG_take _ (VS l) rfl (by rfl) (fun X hX => by rfl) ?_
  (try simp only [Act.put, List.setIfInBounds_toArray, List.set_cons_zero, List.set_cons_succ])
  refine wpG_fork (wpG_mk _ rfl (by rfl) v W.drew (ex_ld rfl rfl (hc1 _ (by first | exact (Below.refl _ W).drew | exact hb3 | exact hb3.alloc hb3.size _))) (fun _ => True) trivial (fun _ h => h) ?_) ?_
  (try simp only [Act.put, List.setIfInBounds_toArray, List.set_cons_zero, List.set_cons_succ])
  refine wpG_call _ rfl (by rfl) 28 #[VS l] (fun _ => by go_simp) (fun u w3 => u = VS l ∧ Below W.heap.size W w3) ((clone_any l hl W.drew).mono fun e w' ⟨e1, hb⟩ => ⟨_, e1, trivial, rfl, (Below.refl _ W).drew.trans hb⟩) ?_
  rintro u w3 - ⟨rfl, hb3⟩
  refine ⟨_, fun _ h => h, trivial, ?_⟩
  (try simp only [Act.put, List.setIfInBounds_toArray, List.set_cons_zero, List.set_cons_succ])
  refine wpG_mk _ rfl (by rfl) (.slice (some ⟨w3.heap.size, 0, none⟩) 1 1) (w3.alloc (.cells #[VS l] 9)) (ex_one rfl rfl) (fun _ => True) trivial (fun _ h => h) ?_
  (try simp only [Act.put, List.setIfInBounds_toArray, List.set_cons_zero, List.set_cons_succ])
  rotate_left
  refine wpG_call _ rfl (by rfl) 28 #[VS l] (fun _ => by go_simp) (fun u w3 => u = VS l ∧ Below W.heap.size W w3) ((clone_any l hl W.drew).mono fun e w' ⟨e1, hb⟩ => ⟨_, e1, trivial, rfl, (Below.refl _ W).drew.trans hb⟩) ?_
  rintro u w3 - ⟨rfl, hb3⟩
  refine ⟨_, fun _ h => h, trivial, ?_⟩
  (try simp only [Act.put, List.setIfInBounds_toArray, List.set_cons_zero, List.set_cons_succ])
  refine wpG_fork (wpG_mk _ rfl (by rfl) v w3 (ex_ld rfl rfl (hc1 _ (by first | exact (Below.refl _ W).drew | exact hb3 | exact hb3.alloc hb3.size _))) (fun _ => True) trivial (fun _ h => h) ?_) ?_
  (try simp only [Act.put, List.setIfInBounds_toArray, List.set_cons_zero, List.set_cons_succ])
  refine wpG_mk _ rfl (by rfl) (.slice (some ⟨w3.heap.size, 0, none⟩) 1 1) (w3.alloc (.cells #[VS l] 9)) (ex_one rfl rfl) (fun _ => True) trivial (fun _ h => h) ?_
  (try simp only [Act.put, List.setIfInBounds_toArray, List.set_cons_zero, List.set_cons_succ])
  rotate_left
  refine wpG_mk _ rfl (by rfl) (.slice (some ⟨w3.heap.size, 0, none⟩) 1 1) (w3.alloc (.cells #[VS l] 9)) (ex_one rfl rfl) (fun _ => True) trivial (fun _ h => h) ?_
  (try simp only [Act.put, List.setIfInBounds_toArray, List.set_cons_zero, List.set_cons_succ])
  refine wpG_mk _ rfl (by rfl) v (w3.alloc (.cells #[VS l] 9)) (ex_ld rfl rfl (hc1 _ (by first | exact (Below.refl _ W).drew | exact hb3 | exact hb3.alloc hb3.size _))) (fun _ => True) trivial (fun _ h => h) ?_
  (try simp only [Act.put, List.setIfInBounds_toArray, List.set_cons_zero, List.set_cons_succ])
  all_goals
    have hbx3 : Bx w3 b 29 a v (dirLast l) := Bx.of hbx (hb3.block b hbx.lt)
    have hown3 : Own w3 B v ps := hown.kept (row := none) ⟨hb3.os, hb3.tape, hb3.output, hb3.size, fun k hk _ => hb3.block k hk⟩ (by
      rcases h : v.ownBlock with _ | k
      · exact .inl rfl
      · exact .inr (by simp))
    refine wpG_app _ rfl (by rfl) (.tmp 21) (.tmp 24) rfl v rfl B ps (hown3.alloc _) ⟨w3.heap.size, 0, none⟩ 1 l rfl (by simp [Addr.add]) hps (by have := hb3.size; simp; omega) ?_
    intro v' w5 hown5 hg5
    have hne : some b ≠ v.ownBlock := by
      intro e
      have := (hown3.lt b e.symm).1
      omega
    have hbx5 : Bx w5 b 29 a v (dirLast l) := Bx.of hbx3 ((hg5.block b (by have := hbx3.lt; simp; omega) hne).trans (Below.heap_alloc _ _ _ hbx3.lt))
    refine ⟨trivial, ?_⟩
    (try simp only [Act.put, List.setIfInBounds_toArray, List.set_cons_zero, List.set_cons_succ])
    refine wpG_take _ (.pointer (some ⟨b, 1, none⟩)) rfl (by rfl) (fun X hX => ex_fa rfl rfl) ?_
    (try simp only [Act.put, List.setIfInBounds_toArray, List.set_cons_zero, List.set_cons_succ])
    obtain ⟨sp', n', cap', rfl⟩ : ∃ sp n cap, v' = .slice sp n cap := by
      rcases hown5.2 with ⟨h, _⟩ | ⟨g, cap, cur, h, _⟩ <;> exact ⟨_, _, _, h⟩
    refine wpG_st _ rfl (by rfl) (w5.setCell ⟨b, 1, none⟩ (.slice sp' n' cap')) (ex_st rfl rfl rfl hbx5.c1 (hbx5.frozen 1)) (fun _ => True) trivial trivial (fun _ h => h) ?_
    refine wpG_nil ?_
    go_end0
    refine ⟨rfl, ⟨_, hbx5.put1 _, ?_⟩, ?_, ?_⟩
    · rw [HK.out]
      exact hown5.setCell hbx5 (by decide) 1 _
    · have h3 : Below b w w3 := hbel.trans (hb3.mono (Nat.le_of_lt hbx.lt))
      have h4 : Below b w (w3.alloc (.cells #[VS l] 9)) := h3.alloc (Nat.le_of_lt hbx3.lt) _
      exact (h4.grown hg5 (by have := hbx3.lt; simp; omega) (fun k hk => Nat.le_trans (Nat.le_of_lt hbB) (hown3.lt k hk).1)).setCell (p := ⟨b, 1, none⟩) (Nat.le_refl _) _
    · have h3 : Its w3 (w3.alloc (.cells #[VS l] 9)) := Its.below ((Below.refl _ w3).alloc (Nat.le_refl _) _)
      exact (((hits.trans (Its.below hb3)).trans h3).trans (Its.grown (hown3.alloc _) hg5)).trans (Its.set hbx5 1)
end Go.Proofs.Ytchjioknobmegaa
