/- Entries: follows, row. -/
import Derived.Test.YtlkhnmhhcagghaaEe
import Derived.Test.YtlkhnmhhcagghaaPut
import Derived.Lib.AppendStr
namespace Go.Proofs.Ytlkhnmhhcagghaa
open Go.RowKit

attribute [local go_sem] Oper.semAt_some

section
variable {ρ : Operand → Value} {o : Oper} {x y : Operand} {w : World}
theorem ex_geI {a b : Int} {k : TypeId} {r : Bool} (ho : o.op = .binOp .geq 3 x y k) (hx : ρ x = .int .i64 a) (hy : ρ y = .int .i64 b) (hr : decide (b ≤ a) = r) : (execOp ρ o).run Try.prog w = .ok (.value (.bool r)) w := by
  subst hr
  unfold execOp
  simp only [ho]
  go_simp
theorem ex_gtI {a b : Int} {k : TypeId} {r : Bool} (ho : o.op = .binOp .gtr 3 x y k) (hx : ρ x = .int .i64 a) (hy : ρ y = .int .i64 b) (hr : decide (b < a) = r) : (execOp ρ o).run Try.prog w = .ok (.value (.bool r)) w := by
  subst hr
  unfold execOp
  simp only [ho]
  go_simp
theorem ex_geS {a b : List UInt8} {k : TypeId} {r : Bool} (ho : o.op = .binOp .geq 9 x y k) (hx : ρ x = .string (str a)) (hy : ρ y = .string (str b)) (hr : (!ltN a b) = r) : (execOp ρ o).run Try.prog w = .ok (.value (.bool r)) w := by
  subst hr
  have h1 := str_toList a
  have h2 := str_toList b
  unfold execOp
  simp only [ho]
  go_simp
theorem ex_ldU16 {ad : Addr} {z : Int} (ho : o.op = .load 39 x) (hx : ρ x = .pointer (some ad)) (hc : w.cell? ad = some (.int .u16 z)) : (execOp ρ o).run Try.prog w = .ok (.value (.int .u16 z)) w := by
  unfold execOp
  simp only [ho]
  go_simp
theorem ex_ldB8 {ad : Addr} {z : Int} (ho : o.op = .load 5 x) (hx : ρ x = .pointer (some ad)) (hc : w.cell? ad = some (.int .u8 z)) : (execOp ρ o).run Try.prog w = .ok (.value (.int .u8 z)) w := by
  unfold execOp
  simp only [ho]
  go_simp
theorem ex_oneB {z : Int} (ho : o.op = .buildSlice 23 1 #[(0, x)]) (hx : ρ x = .int .u8 z) :
    (execOp ρ o).run Try.prog w = .ok (.value (.slice (some ⟨w.heap.size, 0, none⟩) 1 1)) (w.alloc (.cells #[.int .u8 z] 5)) := by
  obtain ⟨i0, hi, hz0, hz1, hz2⟩ := info_parts infoB
  have hr := run_buildSlice (P := Try.prog) w 23 5 1 #[(0, .int .u8 z)] #[.int .u8 z] i0 _ Try.underlying23 hi hz0 (by rw [hz1]; omega) (by rw [hz1]; omega)
    (fill_whole (size := 1) (by simp [hz1]) (by simp [Value.cells]) (by simp [hz1]))
  unfold execOp
  simp only [ho]
  rw [show (Array.map (fun x : Nat × Operand => (x.1, ρ x.2)) #[(0, x)]) = #[(0, .int .u8 z)] by simp [hx]]
  simp only [Sem.run_bind, hr, Result.andThen_ok]
  rfl
theorem ex_appB {v u v' : Value} {w w' : World} (ho : o.op = .call { callee := .builtin .append, args := #[x, y], argTypes := #[23, 23] }) (hx : ρ x = v) (hy : ρ y = u)
    (hr : (Builtin.append_ #[23, 23] o.type #[v, u]).run Try.prog w = .ok v' w') : (execOp ρ o).run Try.prog w = .ok (.value v') w' := by
  unfold execOp
  simp only [ho, resolve, invoke, builtin, Sem.run_bind, Sem.run_pure, Result.andThen_ok, List.map_toArray, List.map_cons, List.map_nil, hx, hy, hr]
theorem ex_appStr {v u v' : Value} {w w' : World} (ho : o.op = .call { callee := .builtin .append, args := #[x, y], argTypes := #[23, 9] }) (hx : ρ x = v) (hy : ρ y = u)
    (hr : (Builtin.append_ #[23, 9] o.type #[v, u]).run Try.prog w = .ok v' w') : (execOp ρ o).run Try.prog w = .ok (.value v') w' := by
  unfold execOp
  simp only [ho, resolve, invoke, builtin, Sem.run_bind, Sem.run_pure, Result.andThen_ok, List.map_toArray, List.map_cons, List.map_nil, hx, hy, hr]
end
/-- A name's bytes. -/
def nb (n : List UInt8) : List (BitVec 8) := n.map UInt8.toBitVec
theorem nb_length (n : List UInt8) : (nb n).length = n.length := by simp [nb]
theorem strCells_nb (n : List UInt8) : Lib.strCells (str n) = (nb n).map V8 := by
  unfold Lib.strCells nb
  simp [N8]
theorem ownB_str {w : World} {B : Nat} {v : Value} {l : List (BitVec 8)} (h : OwnB w B v l) (hB : B ≤ w.heap.size) (n : List UInt8) (hl : l.length + n.length < 1000000) (ty : TypeId) :
    ∃ v' w', (Builtin.append_ #[23, 9] ty #[v, .string (str n)]).run Try.prog w = .ok v' w' ∧ OwnB w' B v' (l ++ nb n) ∧ w.grownBy w' v.ownBlock := by
  obtain ⟨i0, hi, hz0, hz1, hz2⟩ := info_parts infoB
  have hs := str_size n
  obtain ⟨v', w', hr, h2, h3, _⟩   := Lib.run_append_own_string (P := Try.prog) (w := w) B 23 9 ty 5 i0 Try.underlying23 Try.underlying9 hi hz0 hz1 hz2 v l.length (l.map V8) h (str n) (by rw [hs]; unfold maxLen; omega) (by rw [hs]; omega) hB
  refine ⟨v', w', hr, ?_, h3⟩
  unfold OwnB
  rw [List.map_append, List.length_append, nb_length, ← strCells_nb, ← hs]
  exact h2
theorem ownB_one {w : World} {B : Nat} {v : Value} {l : List (BitVec 8)} (h : OwnB w B v l) (hB : B ≤ w.heap.size) (hl : l.length < 1000000) (x : BitVec 8) {g : Nat} {t : TypeId} (hg : Blk w g [V8 x] t) (ty : TypeId) :
    ∃ v' w', (Builtin.append_ #[23, 23] ty #[v, .slice (some ⟨g, 0, none⟩) 1 1]).run Try.prog w = .ok v' w' ∧ OwnB w' B v' (l ++ [x]) ∧ w.grownBy w' v.ownBlock := by
  obtain ⟨i0, hi, hz0, hz1, hz2⟩ := info_parts infoB
  obtain ⟨v', w', hr, h2, h3, _, h5⟩ := run_append_own_at (P := Try.prog) w B 23 ty 5 i0 (.int .u8 0) 1 1 Try.underlying23 hi hz0 hz1 hz2 rfl (by decide) v l.length (l.map V8) h ⟨g, 0, none⟩ 1 1 [V8 x] rfl (fun j y hj => by
    rw [Addr.add_mid, Nat.zero_add]
    exact hg.cell hj) (fun u hu => by simp at hu; subst hu; rfl) (by unfold maxLen; omega) (by omega) hB
  refine ⟨v', w', hr, ?_, h3⟩
  unfold OwnB
  rw [List.map_append, List.length_append]
  exact h2
/-- Bytes of the call's own, put behind bytes of the call's own. -/
theorem ownB_more {w : World} {B : Nat} {v : Value} {l l2 : List (BitVec 8)} (h : OwnB w B v l) (hB : B ≤ w.heap.size) (hl : l.length + l2.length < 1000000) {sp : Option Addr} {cap : Nat} (hs : SrcA w sp l2) (hz : sp = none → cap = 0) (ty : TypeId) :
    ∃ v' w', (Builtin.append_ #[23, 23] ty #[v, .slice sp l2.length cap]).run Try.prog w = .ok v' w' ∧ OwnB w' B v' (l ++ l2) ∧ w.grownBy w' v.ownBlock := by
  obtain ⟨i0, hi, hz0, hz1, hz2⟩ := info_parts infoB
  cases sp with
  | none =>
    have h0 : l2 = [] := by
      rcases Nat.eq_zero_or_pos l2.length with h0 | h0
      · exact List.eq_nil_of_length_eq_zero h0
      · obtain ⟨_, _, he, _⟩ := hs h0; cases he
    subst h0
    obtain rfl := hz rfl
    exact ⟨v, w, run_append_owned_none (P := Try.prog) (w := w) B 23 ty 5 i0 1 Try.underlying23 hi v l.length (l.map V8) h, by rw [List.append_nil]; exact h, ⟨rfl, rfl, rfl, Nat.le_refl _, fun _ _ _ => rfl⟩⟩
  | some ad =>
    obtain ⟨v', w', hr, h2, h3, _, h5⟩ := run_append_own_at (P := Try.prog) w B 23 ty 5 i0 (.int .u8 0) 1 1 Try.underlying23 hi hz0 hz1 hz2 rfl (by decide) v l.length (l.map V8) h ad l2.length cap (l2.map V8) (by simp) (fun j y hj => by
      have hj2 : j < l2.length := by
        have := (List.getElem?_eq_some_iff.1 hj).1
        simpa using this
      obtain ⟨g, o, he, hg, hc⟩ := hs (by omega)
      cases he
      rw [List.getElem?_map, List.getElem?_eq_getElem hj2] at hj
      cases hj
      rw [Addr.add_mid, hc j hj2, List.getD_eq_getElem?_getD, List.getElem?_eq_getElem hj2]
      rfl) (one_v8 l2) (by unfold maxLen; omega) (by omega) hB
    refine ⟨v', w', hr, ?_, h3⟩
    unfold OwnB
    rw [List.map_append, List.length_append]
    exact h2
theorem ownB_bel {w wr w' : World} {B : Nat} {v : Value} {l : List (BitVec 8)} (ho : OwnB wr B v l) (hb : Below B w wr) (hg : wr.grownBy w' v.ownBlock) (hB : B ≤ wr.heap.size := by first | exact Below.size ‹_› | omega) : Below B w w' :=
  hb.trans (((Chg.refl (fun g => v.ownBlock = some g) wr).grown hg (fun k e => .inl e)).below (fun k hk => (ho.lt k hk).1) hB)
theorem OwnB.lower {w : World} {B B' : Nat} {v : Value} {l : List (BitVec 8)} (h : OwnB w B v l) (hB : B' ≤ B) : OwnB w B' v l := by
  refine ⟨h.1, ?_⟩
  rcases h.2 with hn | ⟨g, cap, cur, rfl, hbg, rest⟩
  · exact .inl hn
  · exact .inr ⟨g, cap, cur, rfl, Nat.le_trans hB hbg, rest⟩
theorem ownB_new {w : World} {g : Nat} {l : List (BitVec 8)} {B : Nat} (h : Blk w g (l.map V8) 5) (hB : B ≤ g) (hl : l.length ≤ maxLen) : OwnB w B (.slice (some ⟨g, 0, none⟩) l.length l.length) l :=
  ⟨by simp, .inr ⟨g, l.length, (l.map V8).toArray, rfl, hB, h, Nat.le_refl _, hl, by simp, by rw [List.take_of_length_le (by simp)]⟩⟩
def follB (l : List Ent) (e : Ent) : Bool := decide (l.length < 64) && (match l.getLast? with | none => true | some z => ltN z.n e.n) && decide (errC e.n = 0) && whoB e
set_option maxRecDepth 100000 in
set_option maxHeartbeats 8000000 in
theorem enFollows_any (l : List Ent) (e : Ent) (sp : Option Addr) (cap : Nat) (hc : l.length ≤ cap) (hl : l.length < 100000) (hn : e.n.length < 1000000) (w : World) (hs : SrcE w sp l) :
    Calls Try.prog 20 #[.slice sp l.length cap, .agg (ecells e).toArray] w fun x w' => x = .returned (.bool (follB l e)) ∧ Below w.heap.size w w' := by
  have hb1 : Below w.heap.size w (w.alloc (.cells (ecells e).toArray 46)) := (Below.refl _ _).alloc (Nat.le_refl _) _
  have hk1 : Blk (w.alloc (.cells (ecells e).toArray 46)) w.heap.size (ecells e) 46 := Blk.new' _ _ _ _ _ rfl rfl
  obtain ⟨W1, hW1⟩ : ∃ W, w.alloc (.cells (ecells e).toArray 46) = W := ⟨_, rfl⟩
  obtain ⟨g3, hg3⟩ : ∃ g, w.heap.size = g := ⟨_, rfl⟩
  rw [hW1] at hb1 hk1
  rw [hg3] at hk1
  have HS := Lib.hid hs; have HNM := Lib.hid hn; have HB1 := Lib.hid hb1; have HK1 := Lib.hid hk1; have HW1 := Lib.hid hW1; have HG := Lib.hid hg3; have HL := Lib.hid hl
  obtain ⟨N, hN⟩ : ∃ N, l.length = N := ⟨_, rfl⟩
  rw [hN] at hc HL ⊢
  have HN := Lib.hid hN; have HC := Lib.hid hc
  generalize hPost : (fun (x : Ending) (w' : World) => x = .returned (.bool (follB l e)) ∧ Below w.heap.size w w') = Post
  have HP : Hid (∀ b w', b = follB l e → Below w.heap.size w w' → Post (.returned (.bool b)) w') := Lib.hid fun b w' h0 h1 => by rw [← hPost, h0]; exact ⟨rfl, h1⟩
  clear hs hc hl hn hN hPost hb1 hk1 hW1 hg3
  go_enter Try.func20, Try.ntmps20
  go_upto_region 2 with fail
  rw [show w.alloc (.cells #[.string (str e.n), .int .u16 (e.u : Int), .int .u8 (e.k : Int)] 46) = W1 from HW1.out, HG.out]
  go_cut [24] (fun s wx => s = .bool (!(decide (N < 64) && (match l.getLast? with | none => true | some z => ltN z.n e.n))) ∧ W1.drew = wx)
  case first =>
    by_cases h64 : 64 ≤ N
    · have HGE : Hid (decide ((64 : Int) ≤ (N : Int)) = true) := Lib.hid (decide_eq_true (by omega))
      have HSX : Hid (W1.drew.cell? ⟨g3, 0, none⟩ = some (.string (str e.n))) := Lib.hid (HK1.out.cell (j := 0) rfl)
      have HR : Hid (true = (!(decide (N < 64) && (match l.getLast? with | none => true | some z => ltN z.n e.n)))) := Lib.hid (by rw [decide_eq_false (by omega)]; rfl)
      clear h64
      refine wp_region_sched ((.take 0 (.take 1 (.take 2 (.take 3 (.take 4 (.take 5 (.take 6 (.take 7 (.take 8 (.take 9 (.take 10 (.take 11 (.take 12 (.take 13 (.take 14 (.take 15 (.take 16 (.nil))))))))))))))))))) (by kernel_rfl) (by kernel_rfl) (fun d _ _ _ _ h => by cases d <;> exact h) (fun X => X.cell? ⟨g3, 0, none⟩ = some (.string (str e.n))) (HSX.out) ?_
      refine wpG_take _ (.int .i64 (N : Int)) rfl (by rfl) (fun X hX => by first | rfl | go_simp) ?_
      (try simp only [Act.put, List.setIfInBounds_toArray, List.set_cons_zero, List.set_cons_succ])
      refine wpG_take _ (.bool true) rfl (by rfl) (fun X hX => ex_geI rfl rfl rfl HGE.out) ?_
      (try simp only [Act.put, List.setIfInBounds_toArray, List.set_cons_zero, List.set_cons_succ])
      refine wpG_take _ (.bool true) rfl (by rfl) (fun X hX => by first | rfl | go_simp) ?_
      (try simp only [Act.put, List.setIfInBounds_toArray, List.set_cons_zero, List.set_cons_succ])
      refine wpG_pass _ rfl (by rfl) ?_
      (try simp only [Act.put, List.setIfInBounds_toArray, List.set_cons_zero, List.set_cons_succ])
      refine wpG_pass _ rfl (by rfl) ?_
      (try simp only [Act.put, List.setIfInBounds_toArray, List.set_cons_zero, List.set_cons_succ])
      refine wpG_pass _ rfl (by rfl) ?_
      (try simp only [Act.put, List.setIfInBounds_toArray, List.set_cons_zero, List.set_cons_succ])
      refine wpG_pass _ rfl (by rfl) ?_
      (try simp only [Act.put, List.setIfInBounds_toArray, List.set_cons_zero, List.set_cons_succ])
      refine wpG_pass _ rfl (by rfl) ?_
      (try simp only [Act.put, List.setIfInBounds_toArray, List.set_cons_zero, List.set_cons_succ])
      refine wpG_pass _ rfl (by rfl) ?_
      (try simp only [Act.put, List.setIfInBounds_toArray, List.set_cons_zero, List.set_cons_succ])
      refine wpG_pass _ rfl (by rfl) ?_
      (try simp only [Act.put, List.setIfInBounds_toArray, List.set_cons_zero, List.set_cons_succ])
      refine wpG_pass _ rfl (by rfl) ?_
      (try simp only [Act.put, List.setIfInBounds_toArray, List.set_cons_zero, List.set_cons_succ])
      refine wpG_pass _ rfl (by rfl) ?_
      (try simp only [Act.put, List.setIfInBounds_toArray, List.set_cons_zero, List.set_cons_succ])
      refine wpG_pass _ rfl (by rfl) ?_
      (try simp only [Act.put, List.setIfInBounds_toArray, List.set_cons_zero, List.set_cons_succ])
      refine wpG_pass _ rfl (by rfl) ?_
      (try simp only [Act.put, List.setIfInBounds_toArray, List.set_cons_zero, List.set_cons_succ])
      refine wpG_pass _ rfl (by rfl) ?_
      (try simp only [Act.put, List.setIfInBounds_toArray, List.set_cons_zero, List.set_cons_succ])
      refine wpG_pass _ rfl (by rfl) ?_
      (try simp only [Act.put, List.setIfInBounds_toArray, List.set_cons_zero, List.set_cons_succ])
      refine wpG_take _ (.bool true) rfl (by rfl) (fun X hX => by first | rfl | go_simp) ?_
      (try simp only [Act.put, List.setIfInBounds_toArray, List.set_cons_zero, List.set_cons_succ])
      refine wpG_nil ?_
      go_wp2_with fail
      go_meet
      exact ⟨congrArg Value.bool HR.out, rfl⟩
    · have HGE : Hid (decide ((64 : Int) ≤ (N : Int)) = false) := Lib.hid (decide_eq_false (by omega))
      by_cases h0 : N = 0
      · have HGT : Hid (decide ((0 : Int) < (N : Int)) = false) := Lib.hid (decide_eq_false (by omega))
        have HSX : Hid (W1.drew.cell? ⟨g3, 0, none⟩ = some (.string (str e.n))) := Lib.hid (HK1.out.cell (j := 0) rfl)
        have HR : Hid (false = (!(decide (N < 64) && (match l.getLast? with | none => true | some z => ltN z.n e.n)))) := Lib.hid (by
          rw [decide_eq_true (by omega), show l = [] from List.eq_nil_of_length_eq_zero (by rw [HN.out]; exact h0)]; rfl)
        clear h64 h0
        refine wp_region_sched ((.take 0 (.take 1 (.take 2 (.take 3 (.take 4 (.take 5 (.take 6 (.take 7 (.take 8 (.take 9 (.take 10 (.take 11 (.take 12 (.take 13 (.take 14 (.take 15 (.take 16 (.nil))))))))))))))))))) (by kernel_rfl) (by kernel_rfl) (fun d _ _ _ _ h => by cases d <;> exact h) (fun X => X.cell? ⟨g3, 0, none⟩ = some (.string (str e.n))) (HSX.out) ?_
        refine wpG_take _ (.int .i64 (N : Int)) rfl (by rfl) (fun X hX => by first | rfl | go_simp) ?_
        (try simp only [Act.put, List.setIfInBounds_toArray, List.set_cons_zero, List.set_cons_succ])
        refine wpG_take _ (.bool false) rfl (by rfl) (fun X hX => ex_geI rfl rfl rfl HGE.out) ?_
        (try simp only [Act.put, List.setIfInBounds_toArray, List.set_cons_zero, List.set_cons_succ])
        refine wpG_take _ (.bool false) rfl (by rfl) (fun X hX => by first | rfl | go_simp) ?_
        (try simp only [Act.put, List.setIfInBounds_toArray, List.set_cons_zero, List.set_cons_succ])
        refine wpG_take _ (.int .i64 (N : Int)) rfl (by rfl) (fun X hX => by first | rfl | go_simp) ?_
        (try simp only [Act.put, List.setIfInBounds_toArray, List.set_cons_zero, List.set_cons_succ])
        refine wpG_take _ (.bool false) rfl (by rfl) (fun X hX => ex_gtI rfl rfl rfl HGT.out) ?_
        (try simp only [Act.put, List.setIfInBounds_toArray, List.set_cons_zero, List.set_cons_succ])
        refine wpG_take _ (.bool false) rfl (by rfl) (fun X hX => by first | rfl | go_simp) ?_
        (try simp only [Act.put, List.setIfInBounds_toArray, List.set_cons_zero, List.set_cons_succ])
        refine wpG_pass _ rfl (by rfl) ?_
        (try simp only [Act.put, List.setIfInBounds_toArray, List.set_cons_zero, List.set_cons_succ])
        refine wpG_pass _ rfl (by rfl) ?_
        (try simp only [Act.put, List.setIfInBounds_toArray, List.set_cons_zero, List.set_cons_succ])
        refine wpG_pass _ rfl (by rfl) ?_
        (try simp only [Act.put, List.setIfInBounds_toArray, List.set_cons_zero, List.set_cons_succ])
        refine wpG_pass _ rfl (by rfl) ?_
        (try simp only [Act.put, List.setIfInBounds_toArray, List.set_cons_zero, List.set_cons_succ])
        refine wpG_pass _ rfl (by rfl) ?_
        (try simp only [Act.put, List.setIfInBounds_toArray, List.set_cons_zero, List.set_cons_succ])
        refine wpG_pass _ rfl (by rfl) ?_
        (try simp only [Act.put, List.setIfInBounds_toArray, List.set_cons_zero, List.set_cons_succ])
        refine wpG_pass _ rfl (by rfl) ?_
        (try simp only [Act.put, List.setIfInBounds_toArray, List.set_cons_zero, List.set_cons_succ])
        refine wpG_pass _ rfl (by rfl) ?_
        (try simp only [Act.put, List.setIfInBounds_toArray, List.set_cons_zero, List.set_cons_succ])
        refine wpG_pass _ rfl (by rfl) ?_
        (try simp only [Act.put, List.setIfInBounds_toArray, List.set_cons_zero, List.set_cons_succ])
        refine wpG_take _ (.bool false) rfl (by rfl) (fun X hX => by first | rfl | go_simp) ?_
        (try simp only [Act.put, List.setIfInBounds_toArray, List.set_cons_zero, List.set_cons_succ])
        refine wpG_take _ (.bool false) rfl (by rfl) (fun X hX => by first | rfl | go_simp) ?_
        (try simp only [Act.put, List.setIfInBounds_toArray, List.set_cons_zero, List.set_cons_succ])
        refine wpG_nil ?_
        go_wp2_with fail
        go_meet
        exact ⟨congrArg Value.bool HR.out, rfl⟩
      · have HGT : Hid (decide ((0 : Int) < (N : Int)) = true) := Lib.hid (decide_eq_true (by omega))
        obtain ⟨z, hz⟩ : ∃ z, l[N - 1]? = some z := ⟨_, List.getElem?_eq_getElem (by have := HN.out; omega)⟩
        have hs1 : SrcE W1.drew sp l := (HS.out.grown HB1.out).drew
        obtain ⟨g, o, rfl, hg, hr⟩ := hs1 (by have := HN.out; omega)
        have HSX : Hid (W1.drew.cell? ⟨g3, 0, none⟩ = some (.string (str e.n)) ∧ W1.drew.rangeAt g (o + (N - 1) * 3) (ecells z)) := Lib.hid ⟨HK1.out.cell (j := 0) rfl, hr _ _ hz⟩
        obtain ⟨lt, hlt⟩ : ∃ b, (!ltN z.n e.n) = b := ⟨_, rfl⟩
        have HLT := Lib.hid hlt
        have HKC : Hid (N - 1 < N ∧ N ≤ cap) := Lib.hid ⟨by omega, HC.out⟩
        have HSB : Hid (1 ≤ N ∧ N < 1000000) := Lib.hid ⟨by omega, by omega⟩
        have HR : Hid (lt = (!(decide (N < 64) && (match l.getLast? with | none => true | some z => ltN z.n e.n)))) := Lib.hid (by
          have e1 : l.getLast? = some z := by rw [List.getLast?_eq_getElem?, HN.out]; exact hz
          rw [decide_eq_true (by omega), e1, ← hlt]; rfl)
        clear h64 h0 hz hs1 hg hr hlt
        refine wp_region_sched ((.take 0 (.take 1 (.take 2 (.take 3 (.take 4 (.take 5 (.take 6 (.take 7 (.take 8 (.take 9 (.take 10 (.take 11 (.take 12 (.take 13 (.take 14 (.take 15 (.take 16 (.nil))))))))))))))))))) (by kernel_rfl) (by kernel_rfl) (fun d _ _ _ _ h => by cases d <;> exact h) (fun X => X.cell? ⟨g3, 0, none⟩ = some (.string (str e.n)) ∧ X.rangeAt g (o + (N - 1) * 3) (ecells z)) (HSX.out) ?_
        refine wpG_take _ (.int .i64 (N : Int)) rfl (by rfl) (fun X hX => by first | rfl | go_simp) ?_
        (try simp only [Act.put, List.setIfInBounds_toArray, List.set_cons_zero, List.set_cons_succ])
        refine wpG_take _ (.bool false) rfl (by rfl) (fun X hX => ex_geI rfl rfl rfl HGE.out) ?_
        (try simp only [Act.put, List.setIfInBounds_toArray, List.set_cons_zero, List.set_cons_succ])
        refine wpG_take _ (.bool false) rfl (by rfl) (fun X hX => by first | rfl | go_simp) ?_
        (try simp only [Act.put, List.setIfInBounds_toArray, List.set_cons_zero, List.set_cons_succ])
        refine wpG_take _ (.int .i64 (N : Int)) rfl (by rfl) (fun X hX => by first | rfl | go_simp) ?_
        (try simp only [Act.put, List.setIfInBounds_toArray, List.set_cons_zero, List.set_cons_succ])
        refine wpG_take _ (.bool true) rfl (by rfl) (fun X hX => ex_gtI rfl rfl rfl HGT.out) ?_
        (try simp only [Act.put, List.setIfInBounds_toArray, List.set_cons_zero, List.set_cons_succ])
        refine wpG_take _ (.bool true) rfl (by rfl) (fun X hX => by first | rfl | go_simp) ?_
        (try simp only [Act.put, List.setIfInBounds_toArray, List.set_cons_zero, List.set_cons_succ])
        refine wpG_take _ (.slice (some ⟨g, o, none⟩) N cap) rfl (by rfl) (fun X hX => by first | rfl | go_simp) ?_
        (try simp only [Act.put, List.setIfInBounds_toArray, List.set_cons_zero, List.set_cons_succ])
        refine wpG_take _ (.int .i64 (N : Int)) rfl (by rfl) (fun X hX => by first | rfl | go_simp) ?_
        (try simp only [Act.put, List.setIfInBounds_toArray, List.set_cons_zero, List.set_cons_succ])
        refine wpG_take _ (.int .i64 ((N - 1 : Nat) : Int)) rfl (by rfl) (fun X hX => ex_subI (b := 1) rfl rfl rfl HSB.out) ?_
        (try simp only [Act.put, List.setIfInBounds_toArray, List.set_cons_zero, List.set_cons_succ])
        refine wpG_take _ (.pointer (some ⟨g, o + (N - 1) * 3, none⟩)) rfl (by rfl) (fun X hX => ex_iaE rfl rfl rfl HKC.out) ?_
        (try simp only [Act.put, List.setIfInBounds_toArray, List.set_cons_zero, List.set_cons_succ])
        refine wpG_take _ (.pointer (some ⟨g, o + (N - 1) * 3 + 0, none⟩)) rfl (by rfl) (fun X hX => ex_faE (by decide) rfl rfl) ?_
        (try simp only [Act.put, List.setIfInBounds_toArray, List.set_cons_zero, List.set_cons_succ])
        refine wpG_take _ (.string (str z.n)) rfl (by rfl) (fun X hX => ex_ldS rfl rfl (hX.2 0 _ rfl)) ?_
        (try simp only [Act.put, List.setIfInBounds_toArray, List.set_cons_zero, List.set_cons_succ])
        refine wpG_take _ (.pointer (some ⟨g3, 0 + 0, none⟩)) rfl (by rfl) (fun X hX => ex_faE (by decide) rfl rfl) ?_
        (try simp only [Act.put, List.setIfInBounds_toArray, List.set_cons_zero, List.set_cons_succ])
        refine wpG_take _ (.string (str e.n)) rfl (by rfl) (fun X hX => ex_ldS rfl rfl hX.1) ?_
        (try simp only [Act.put, List.setIfInBounds_toArray, List.set_cons_zero, List.set_cons_succ])
        refine wpG_take _ (.bool lt) rfl (by rfl) (fun X hX => ex_geS rfl rfl rfl HLT.out) ?_
        (try simp only [Act.put, List.setIfInBounds_toArray, List.set_cons_zero, List.set_cons_succ])
        refine wpG_take _ (.bool lt) rfl (by rfl) (fun X hX => by first | rfl | go_simp) ?_
        (try simp only [Act.put, List.setIfInBounds_toArray, List.set_cons_zero, List.set_cons_succ])
        refine wpG_take _ (.bool lt) rfl (by rfl) (fun X hX => by first | rfl | go_simp) ?_
        (try simp only [Act.put, List.setIfInBounds_toArray, List.set_cons_zero, List.set_cons_succ])
        refine wpG_nil ?_
        go_wp2_with fail
        go_meet
        exact ⟨congrArg Value.bool HR.out, rfl⟩
  case rest =>
    obtain ⟨rfl, rfl⟩ := hcut
    cases hf : (decide (N < 64) && (match l.getLast? with | none => true | some z => ltN z.n e.n)) with
    | false =>
      have HQ := Lib.hid (HP.out false W1.drew (by unfold follB; rw [HN.out, hf]; rfl) HB1.out.drew)
      clear hf
      go_wp2_with fail
      first | exact HQ.out | (go_ret; exact HQ.out)
    | true =>
      have HF := Lib.hid hf
      clear hf
      have c0 : W1.drew.cell? ⟨g3, 0, none⟩ = some (.string (str e.n)) := HK1.out.cell (j := 0) rfl
      go_wp2_with fail
      refine (enCheck_any e.n HNM.out W1.drew).mono ?_
      rintro x W2 ⟨rfl, hb2⟩
      have hk1 : Blk W1.drew g3 (ecells e) 46 := HK1.out
      have HB2 : Hid (Below w.heap.size w W2) := Lib.hid (HB1.out.drew.trans (hb2.mono HB1.out.size))
      have HK2 := Lib.hid (hk1.below hb2 hk1.lt)
      clear hb2 hk1 c0
      by_cases h1 : errC e.n = 0
      · have z1 : ((errC e.n : Int) == 0) = true := by rw [h1]; rfl
        have c0 := HK2.out.cell (j := 0) rfl
        have c1 := HK2.out.cell (j := 1) rfl
        have c2 := HK2.out.cell (j := 2) rfl
        have HE1 := Lib.hid h1
        clear h1
        go_wp2_with fail
        refine (enWhose_any e W2).mono ?_
        rintro x W3 ⟨rfl, hb3⟩
        have HQ := Lib.hid (HP.out (whoB e) W3 (by unfold follB; rw [HN.out, HF.out, decide_eq_true HE1.out]; rfl) (HB2.out.trans (hb3.mono HB2.out.size)))
        clear hb3
        go_wp2_with fail
        first | exact HQ.out | (go_ret; exact HQ.out)
      · have z1 : ((errC e.n : Int) == 0) = false := by simp; omega
        have HQ := Lib.hid (HP.out false W2 (by unfold follB; rw [decide_eq_false h1]; simp) HB2.out)
        clear h1
        go_wp2_with fail
        first | exact HQ.out | (go_ret; exact HQ.out)
def lenB (e : Ent) : BitVec 8 := BitVec.ofNat 8 e.n.length
def kB (e : Ent) : BitVec 8 := BitVec.ofNat 8 e.k
def rowB (e : Ent) : List (BitVec 8) := lenB e :: nb e.n ++ leb e.u 2 ++ [kB e]
theorem kB_v (e : Ent) (h : e.OK) : V8 (kB e) = .int .u8 (e.k : Int) := by
  have := h.2
  show Value.int .u8 ((BitVec.ofNat 8 e.k).toNat : Int) = _
  rw [BitVec.toNat_ofNat, Nat.mod_eq_of_lt (by omega)]
theorem lenB_w (e : Ent) : IntKind.u8.wrap (e.n.length : Int) = N8 (lenB e) := by
  unfold lenB N8
  rw [IntKind.wrap_u8', BitVec.toNat_ofNat]
  simp
set_option maxRecDepth 100000 in
set_option maxHeartbeats 8000000 in
theorem enRow_any (e : Ent) (hok : e.OK) (hn : e.n.length < 1000) (w : World) :
    Calls Try.prog 21 #[.agg (ecells e).toArray] w fun x w' => ∃ v, x = .returned v ∧ OwnB w' w.heap.size v (rowB e) ∧ Below w.heap.size w w' := by
  have hb1 : Below w.heap.size w (w.alloc (.cells (ecells e).toArray 46)) := (Below.refl _ _).alloc (Nat.le_refl _) _
  have hk1 : Blk (w.alloc (.cells (ecells e).toArray 46)) w.heap.size (ecells e) 46 := Blk.new' _ _ _ _ _ rfl rfl
  obtain ⟨W1, hW1⟩ : ∃ W, w.alloc (.cells (ecells e).toArray 46) = W := ⟨_, rfl⟩
  obtain ⟨g1, hg1⟩ : ∃ g, w.heap.size = g := ⟨_, rfl⟩
  rw [hW1] at hb1 hk1
  rw [hg1] at hk1
  -- behind the name's length and the name
  have hb1b : Below w.heap.size w (W1.alloc (.cells #[.int .u8 (N8 (lenB e))] 5)) := hb1.alloc hb1.size _
  have ho1 : OwnB (W1.alloc (.cells #[.int .u8 (N8 (lenB e))] 5)) w.heap.size (.slice (some ⟨W1.heap.size, 0, none⟩) 1 1) [lenB e] := ownB_new (l := [lenB e]) (Blk.new' _ _ _ _ _ rfl rfl) hb1.size (by unfold maxLen; simp)
  obtain ⟨v2, w2, hr2, ho2, hg2⟩ := ownB_str ho1 hb1b.size e.n (by simp; omega) 23
  have hb2 := ownB_bel ho1 hb1b hg2 hb1b.size
  obtain ⟨sp1, cap1, rfl, hc1, hm1, hs1, hz1, -⟩ := ho2.form
  have hc2 : Chg (fun g => (Value.slice (some ⟨W1.heap.size, 0, none⟩) 1 1).ownBlock = some g) (W1.alloc (.cells #[.int .u8 (N8 (lenB e))] 5)) w2 := (Chg.refl _ _).grown hg2 (fun k e => .inl e)
  have hk2 : Blk w2 g1 (ecells e) 46 := (hk1.alloc _).chg hc2 (fun h => by
    have h1 : W1.heap.size = g1 := by simpa [Value.ownBlock] using h
    have := hk1.lt; omega)
  obtain ⟨L, hL⟩ : ∃ L, ([lenB e] ++ nb e.n).length = L := ⟨_, rfl⟩
  have HLN : Hid (e.n.length < 1000) := Lib.hid hn
  have HPU : Hid (∀ W, SrcA W sp1 ([lenB e] ++ nb e.n) → Calls Try.prog 36 #[.slice sp1 L cap1, .int .u16 (e.u : Int)] W fun x w' => ∃ v, x = .returned v ∧ OwnB w' W.heap.size v (lenB e :: nb e.n ++ leb e.u 2) ∧ Below W.heap.size W w' ∧ ∃ n3 c3 g3, v = .slice (some ⟨g3, 0, none⟩) n3 c3) := Lib.hid fun W hs => by
    have h := pu16_any ([lenB e] ++ nb e.n) sp1 cap1 e.u W (by simp [nb_length]; omega) (by have := hok.1; omega) hs
    rw [hL] at h
    refine h.mono fun x w' ⟨h1, h2, h3⟩ => ⟨_, h1, ?_, h3, _, _, _, rfl⟩
    rw [List.length_append, hL, leb_length] at h2
    exact h2
  rw [hL] at hr2
  have HSA : Hid (SrcA w2.drew sp1 ([lenB e] ++ nb e.n)) := Lib.hid hs1
  have HSX : Hid (∀ X, w2.drew.heap.size ≤ X.heap.size → Below w2.drew.heap.size w2.drew X → X.cell? ⟨g1, 1, none⟩ = some (.int .u16 (e.u : Int)) ∧ X.cell? ⟨g1, 2, none⟩ = some (.int .u8 (e.k : Int))) := Lib.hid fun X _ hX => by
    have hk2' : Blk w2.drew g1 (ecells e) 46 := hk2
    have h := hk2'.below hX hk2'.lt
    exact ⟨h.cell (j := 1) rfl, h.cell (j := 2) rfl⟩
  have HB2 := Lib.hid hb2; have HR2 := Lib.hid hr2; have HW1 := Lib.hid hW1; have HG := Lib.hid hg1; have HOK := Lib.hid hok; have HK1 := Lib.hid hk1
  generalize hPost : (fun (x : Ending) (w' : World) => ∃ v, x = .returned v ∧ OwnB w' w.heap.size v (rowB e) ∧ Below w.heap.size w w') = Post
  have HP : Hid (∀ v w', OwnB w' w.heap.size v (lenB e :: nb e.n ++ leb e.u 2 ++ [kB e]) → Below w.heap.size w w' → Post (.returned v) w') := Lib.hid fun v w' h0 h1 => by rw [← hPost]; exact ⟨v, rfl, h0, h1⟩
  have hlw := lenB_w e
  clear hb1 hk1 hW1 hg1 hb1b ho1 hr2 ho2 hg2 hb2 hc1 hm1 hs1 hz1 hc2 hk2 hn hok hPost hL
  go_enter Try.func21, Try.ntmps21
  go_upto_region 1 with fail
  rw [show w.alloc (.cells #[.string (str e.n), .int .u16 (e.u : Int), .int .u8 (e.k : Int)] 46) = W1 from HW1.out, HG.out]
  have c0 := HK1.out.cell (j := 0) rfl
  have c0b := (HK1.out.alloc (.cells #[.int .u8 (N8 (lenB e))] 5)).cell (j := 0) rfl
  have hsz := str_size e.n
  go_upto_region 2 with (first | (refine e_val rfl (ex_oneB rfl rfl) ?_) | (at_builtin; refine e_val rfl (ex_appStr rfl rfl rfl HR2.out) ?_) | fail)
  clear c0 c0b hsz hlw
  refine wp_region_sched ((.take 0 (.take 1 (.take 2 (.take 4 (.take 5 (.fork 3 (.step 6 (.step 7 (.take 8 (.nil)))) 6 (.step 3 (.step 7 (.take 8 (.nil))))))))))) (by kernel_rfl) (by kernel_rfl) (fun d _ _ _ _ h => by cases d <;> exact h) (fun X => X.cell? ⟨g1, 1, none⟩ = some (.int .u16 (e.u : Int)) ∧ X.cell? ⟨g1, 2, none⟩ = some (.int .u8 (e.k : Int))) (HSX.out w2.drew (Nat.le_refl _) (Below.refl _ _)) ?_
  refine wpG_take _ (.slice sp1 L cap1) rfl (by rfl) (fun X hX => by first | rfl | go_simp) ?_
  (try simp only [Act.put, List.setIfInBounds_toArray, List.set_cons_zero, List.set_cons_succ])
  refine wpG_take _ (.pointer (some ⟨g1, 0 + 1, none⟩)) rfl (by rfl) (fun X hX => ex_faE (by decide) rfl rfl) ?_
  (try simp only [Act.put, List.setIfInBounds_toArray, List.set_cons_zero, List.set_cons_succ])
  refine wpG_take _ (.int .u16 (e.u : Int)) rfl (by rfl) (fun X hX => ex_ldU16 rfl rfl hX.1) ?_
  (try simp only [Act.put, List.setIfInBounds_toArray, List.set_cons_zero, List.set_cons_succ])
  refine wpG_take _ (.pointer (some ⟨g1, 0 + 2, none⟩)) rfl (by rfl) (fun X hX => ex_faE (by decide) rfl rfl) ?_
  (try simp only [Act.put, List.setIfInBounds_toArray, List.set_cons_zero, List.set_cons_succ])
  refine wpG_take _ (.int .u8 (e.k : Int)) rfl (by rfl) (fun X hX => ex_ldB8 rfl rfl hX.2) ?_
  (try simp only [Act.put, List.setIfInBounds_toArray, List.set_cons_zero, List.set_cons_succ])
  refine wpG_fork ?_ ?_
  · refine wpG_call _ rfl (by rfl) 36 (#[.slice sp1 L cap1, .int .u16 (e.u : Int)]) (fun X => by first | rfl | go_simp) (fun v W3 => ∃ n3 c3 g3, v = .slice (some ⟨g3, 0, none⟩) n3 c3 ∧ OwnB W3 w2.drew.heap.size v (lenB e :: nb e.n ++ leb e.u 2) ∧ Below w2.drew.heap.size w2.drew W3) (HPU.out w2.drew HSA.out |>.mono fun x w' ⟨v, h1, h2, h3, n3, c3, g3, h4⟩ => ⟨v, h1, HSX.out w' h3.size h3, n3, c3, g3, h4, h2, h3⟩) ?_
    rintro v W3 hS3 ⟨n3, c3, g3, rfl, ho3, hb3⟩
    refine ⟨fun X => X.cell? ⟨g1, 1, none⟩ = some (.int .u16 (e.u : Int)) ∧ X.cell? ⟨g1, 2, none⟩ = some (.int .u8 (e.k : Int)), fun _ h => h, hS3, ?_⟩
    (try simp only [Act.put, List.setIfInBounds_toArray, List.set_cons_zero, List.set_cons_succ])
    have hb4 : Below w2.drew.heap.size w2.drew (W3.alloc (.cells #[.int .u8 (e.k : Int)] 5)) := hb3.alloc hb3.size _
    refine wpG_mkE _ rfl (by rfl) (.slice (some ⟨W3.heap.size, 0, none⟩) 1 1) (W3.alloc (.cells #[.int .u8 (e.k : Int)] 5)) (ex_oneB rfl rfl) (fun X => X.cell? ⟨g1, 1, none⟩ = some (.int .u16 (e.u : Int)) ∧ X.cell? ⟨g1, 2, none⟩ = some (.int .u8 (e.k : Int))) (HSX.out _ hb4.size hb4) (fun _ h => h) ?_
    (try simp only [Act.put, List.setIfInBounds_toArray, List.set_cons_zero, List.set_cons_succ])
    obtain ⟨v5, w5, hr5, ho5, hg5⟩ := ownB_one (ho3.below ((Below.refl _ _).alloc (Nat.le_refl _) _) (Nat.le_refl _)) (Nat.le_trans hb3.size (by simp)) (by have := HLN.out; simp [nb_length, leb_length]; omega) (kB e) (show Blk (W3.alloc (.cells #[.int .u8 (e.k : Int)] 5)) W3.heap.size [V8 (kB e)] 5 from Blk.new' _ _ _ _ _ rfl (by rw [kB_v e HOK.out])) 23
    have hb5 := ownB_bel (ho3.below ((Below.refl _ _).alloc (Nat.le_refl _) _) (Nat.le_refl _)) hb4 hg5
    obtain ⟨sp5, cap5, rfl, -⟩ := ho5.form
    refine wpG_mkE _ rfl (by rfl) (.slice sp5 _ cap5) w5 (ex_appB rfl rfl rfl hr5) (fun X => X.cell? ⟨g1, 1, none⟩ = some (.int .u16 (e.u : Int)) ∧ X.cell? ⟨g1, 2, none⟩ = some (.int .u8 (e.k : Int))) (HSX.out _ hb5.size hb5) (fun _ h => h) ?_
    (try simp only [Act.put, List.setIfInBounds_toArray, List.set_cons_zero, List.set_cons_succ])
    refine wpG_take _ (.slice sp5 (lenB e :: nb e.n ++ leb e.u 2 ++ [kB e]).length cap5) rfl (by rfl) (fun X hX => by first | rfl | go_simp) ?_
    (try simp only [Act.put, List.setIfInBounds_toArray, List.set_cons_zero, List.set_cons_succ])
    refine wpG_nil ?_
    have HQ := Lib.hid (HP.out _ w5 (ho5.lower HB2.out.size) (HB2.out.drew.trans (hb5.mono HB2.out.size)))
    clear ho5 hr5 hg5 hb5 ho3 hb3 hb4 hS3
    go_wp2_with fail
    first | exact HQ.out | (go_ret; exact HQ.out)
  · have hb3 : Below w2.drew.heap.size w2.drew (w2.drew.alloc (.cells #[.int .u8 (e.k : Int)] 5)) := (Below.refl _ _).alloc (Nat.le_refl _) _
    have hk3 : Blk (w2.drew.alloc (.cells #[.int .u8 (e.k : Int)] 5)) w2.drew.heap.size [V8 (kB e)] 5 := Blk.new' _ _ _ _ _ rfl (by rw [kB_v e HOK.out])
    refine wpG_mkE _ rfl (by rfl) (.slice (some ⟨w2.drew.heap.size, 0, none⟩) 1 1) (w2.drew.alloc (.cells #[.int .u8 (e.k : Int)] 5)) (ex_oneB rfl rfl) (fun X => X.cell? ⟨g1, 1, none⟩ = some (.int .u16 (e.u : Int)) ∧ X.cell? ⟨g1, 2, none⟩ = some (.int .u8 (e.k : Int))) (HSX.out _ hb3.size hb3) (fun _ h => h) ?_
    (try simp only [Act.put, List.setIfInBounds_toArray, List.set_cons_zero, List.set_cons_succ])
    obtain ⟨W, hW⟩ : ∃ W, w2.drew.alloc (.cells #[.int .u8 (e.k : Int)] 5) = W := ⟨_, rfl⟩
    rw [hW] at hb3 hk3 ⊢
    refine wpG_call _ rfl (by rfl) 36 (#[.slice sp1 L cap1, .int .u16 (e.u : Int)]) (fun X => by first | rfl | go_simp) (fun v W3 => ∃ n3 c3 g3, v = .slice (some ⟨g3, 0, none⟩) n3 c3 ∧ OwnB W3 W.heap.size v (lenB e :: nb e.n ++ leb e.u 2) ∧ Below W.heap.size W W3) (HPU.out W (HSA.out.grown hb3) |>.mono fun x w' ⟨v, h1, h2, h3, n3, c3, g3, h4⟩ => ⟨v, h1, HSX.out w' (Nat.le_trans hb3.size h3.size) (hb3.trans (h3.mono hb3.size)), n3, c3, g3, h4, h2, h3⟩) ?_
    rintro v W3 hS3 ⟨n3, c3, g3, rfl, ho3, hb4⟩
    refine ⟨fun X => X.cell? ⟨g1, 1, none⟩ = some (.int .u16 (e.u : Int)) ∧ X.cell? ⟨g1, 2, none⟩ = some (.int .u8 (e.k : Int)), fun _ h => h, hS3, ?_⟩
    (try simp only [Act.put, List.setIfInBounds_toArray, List.set_cons_zero, List.set_cons_succ])
    have hb5 : Below w2.drew.heap.size w2.drew W3 := hb3.trans (hb4.mono hb3.size)
    obtain ⟨v5, w5, hr5, ho5, hg5⟩ := ownB_one ho3 hb4.size (by have := HLN.out; simp [nb_length, leb_length]; omega) (kB e) (hk3.below hb4 hk3.lt) 23
    have hb6 := ownB_bel (ho3.lower hb3.size) hb5 hg5
    obtain ⟨sp5, cap5, rfl, -⟩ := ho5.form
    refine wpG_mkE _ rfl (by rfl) (.slice sp5 _ cap5) w5 (ex_appB rfl rfl rfl hr5) (fun X => X.cell? ⟨g1, 1, none⟩ = some (.int .u16 (e.u : Int)) ∧ X.cell? ⟨g1, 2, none⟩ = some (.int .u8 (e.k : Int))) (HSX.out _ hb6.size hb6) (fun _ h => h) ?_
    (try simp only [Act.put, List.setIfInBounds_toArray, List.set_cons_zero, List.set_cons_succ])
    refine wpG_take _ (.slice sp5 (lenB e :: nb e.n ++ leb e.u 2 ++ [kB e]).length cap5) rfl (by rfl) (fun X hX => by first | rfl | go_simp) ?_
    (try simp only [Act.put, List.setIfInBounds_toArray, List.set_cons_zero, List.set_cons_succ])
    refine wpG_nil ?_
    have HQ := Lib.hid (HP.out _ w5 (ho5.lower (Nat.le_trans HB2.out.size hb3.size)) (HB2.out.drew.trans (hb6.mono HB2.out.size)))
    clear ho5 hr5 hg5 hb5 hb6 ho3 hb3 hb4 hS3
    go_wp2_with fail
    first | exact HQ.out | (go_ret; exact HQ.out)
end Go.Proofs.Ytlkhnmhhcagghaa
