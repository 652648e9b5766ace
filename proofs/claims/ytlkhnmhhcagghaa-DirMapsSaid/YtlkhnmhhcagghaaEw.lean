/- DirMaps: its operations. -/
import Derived.Test.YtlkhnmhhcagghaaEv
import Derived.WideMake
namespace Go.Proofs.Ytlkhnmhhcagghaa
open Go.RowKit

attribute [local go_sem] Oper.semAt_some

theorem e_skip {ops : Array Oper} {rest : List Oper} {o : Oper} {a : Act} {Q : Exit → Act → World → Prop} {w w' : World} (hg : o.guard = none) (hrun : (execOp a.eval o).run Try.prog w = .ok .skip w')
    (hK : wpList Try.prog ops Q rest (a.put o.dst undef) w') : wpList Try.prog ops Q (o :: rest) a w := by
  refine wpList_plain hg fun K' hK' => ?_
  unfold Oper.wp
  rw [hrun]
  exact hK' _ _ hK
section
variable {ops : Array Oper} {Q : Exit → Act → World → Prop} {S : World → Prop}
theorem wpG_stE {i : Nat} {r : Tr} {a : Act} {w : World} (o : Oper) (hi : ops.toList[i]? = some o) (hw : Region.wanted o (yielded ops a.tmps) = true) (ty : TypeId) (x y : Operand) (ho : o.op = .store ty x y) (b : Nat) (cells : Array Value) (hx : a.eval x = .pointer (some ⟨b, 0, none⟩)) (hy : a.eval y = .agg cells) {t : TypeId} {old : List Value} (hg : Blk w b old t) (hs : (Try.prog.info? ty).map (·.size) = some cells.size) (hl : old.length = cells.size) (h1 : cells.all (·.oneCell') = true)
    (S' : World → Prop) (hSS : ∀ w, S' w → S w) (hS : S' (w.setRow b cells)) (h : wpG Try.prog ops Q r S' (a.put o.dst undef) (w.setRow b cells)) : wpG Try.prog ops Q (.step i r) S a w := by
  refine wpG_bare o hi hw fun K hK => ?_
  exact wpList_store_row rfl ty x y ho b cells hx hy t old.toArray hg hs (by simpa using hl) h1 (wpG_list_nil (hK _ _ S' hSS hS h))
end
section
variable {ρ : Operand → Value} {o : Oper} {x y z : Operand} {w : World}
theorem ex_mkM (ho : o.op = .makeMap 54 none) : (execOp ρ o).run Try.prog w = .ok (.value (.map (some w.heap.size))) (w.alloc (.map #[] 0)) := by
  have hr := run_makeMap_plain (P := Try.prog) w 54
  unfold execOp
  simp only [ho]
  simp [hr, Result.andThen]
theorem ex_lkE {M : Nat} {L : List Ent} {n : List UInt8} {v : Value} (h : MapE w M L) (hn : n.length < 1000000) (hv : EV ((findP n L).getD zeroEnt) = v) (ho : o.op = .lookup 54 x y false) (hx : ρ x = .map (some M)) (hy : ρ y = .string (str n)) : (execOp ρ o).run Try.prog w = .ok (.value v) w := by
  subst hv
  have hr := h.look hn
  unfold execOp
  simp only [ho]
  simp [hx, hy, hr, Result.andThen]
theorem ex_lkO {M : Nat} {L : List Ent} {n : List UInt8} {F : Ent} {b : Bool} (h : MapE w M L) (hn : n.length < 1000000) (hF : (findP n L).getD zeroEnt = F) (hb : (findP n L).isSome = b) (ho : o.op = .lookup 54 x y true) (hx : ρ x = .map (some M)) (hy : ρ y = .string (str n)) : (execOp ρ o).run Try.prog w = .ok (.value (.tuple #[.agg (ecells F).toArray, .bool b])) w := by
  subst hF hb
  have hr := h.look_ok hn
  unfold execOp
  simp only [ho]
  simp [hx, hy, hr, Result.andThen]
theorem ex_lenM {M : Nat} {L : List Ent} {Q : Nat} (h : MapE w M L) (hQ : L.length = Q) (ho : o.op = .call { callee := .builtin .len, args := #[x], argTypes := #[54] }) (hx : ρ x = .map (some M)) : (execOp ρ o).run Try.prog w = .ok (.value (.int .i64 (Q : Int))) w := by
  subst hQ
  have hr := h.len o.type
  unfold execOp
  simp only [ho, resolve, invoke, builtin, Sem.run_bind, Sem.run_pure, Result.andThen_ok, List.map_toArray, List.map_cons, List.map_nil, hx, hr]
theorem ex_putM {M : Nat} {n : List UInt8} {e : Ent} {w' : World} (hr : (Instr.mapUpdate 54 (.map (some M)) (.string (str n)) (EV e)).run Try.prog w = .ok () w') (ho : o.op = .mapUpdate 54 x y z) (hx : ρ x = .map (some M)) (hy : ρ y = .string (str n)) (hz : ρ z = .agg (ecells e).toArray) : (execOp ρ o).run Try.prog w = .ok .skip w' := by
  unfold execOp
  simp only [ho]
  simp only [hx, hy, hz]
  simp only [Sem.run_bind, hr, Result.andThen_ok, Sem.run_pure]
theorem ex_delM {M : Nat} {n : List UInt8} {w' : World} (hr : (Builtin.delete_ #[54, 9] 0 #[.map (some M), .string (str n)]).run Try.prog w = .ok (.tuple #[]) w') (ho : o.op = .call { callee := .builtin .delete, args := #[x, y], argTypes := #[54, 9] }) (hx : ρ x = .map (some M)) (hy : ρ y = .string (str n)) : (execOp ρ o).run Try.prog w = .ok (.value (.tuple #[])) w' := by
  have hr' : (Builtin.delete_ #[54, 9] o.type #[.map (some M), .string (str n)]).run Try.prog w = .ok (.tuple #[]) w' := hr
  unfold execOp
  simp only [ho, resolve, invoke, builtin, Sem.run_bind, Sem.run_pure, Result.andThen_ok, List.map_toArray, List.map_cons, List.map_nil, hx, hy, hr']
theorem ex_ld16 {ad : Addr} {v : Value} (ho : o.op = .load 39 x) (hx : ρ x = .pointer (some ad)) (hc : w.cell? ad = some v) : (execOp ρ o).run Try.prog w = .ok (.value v) w := by
  unfold execOp
  simp only [ho]
  go_simp
theorem ex_ld8 {ad : Addr} {v : Value} (ho : o.op = .load 5 x) (hx : ρ x = .pointer (some ad)) (hc : w.cell? ad = some v) : (execOp ρ o).run Try.prog w = .ok (.value v) w := by
  unfold execOp
  simp only [ho]
  go_simp
theorem ex_faAct {g a : Nat} (ho : o.op = .fieldAddr 43 x 1) (hx : ρ x = .pointer (some ⟨g, a, none⟩)) : (execOp ρ o).run Try.prog w = .ok (.value (.pointer (some ⟨g, a + 1, none⟩))) w := by
  unfold execOp
  simp only [ho]
  go_simp
theorem ex_bldX {e : Ent} (ho : o.op = .build 46 #[(0, x), (1, y), (2, z)]) (hx : ρ x = .string (str e.n)) (hy : ρ y = .int .u16 (e.u : Int)) (hz : ρ z = .int .u8 (e.k : Int)) : (execOp ρ o).run Try.prog w = .ok (.value (.agg (ecells e).toArray)) w := by
  have hr : (Instr.build 46 #[(0, .string (str e.n)), (1, .int .u16 (e.u : Int)), (2, .int .u8 (e.k : Int))]).run Try.prog w = .ok (.agg (ecells e).toArray) w := run_build w 46 _ _ (by kernel_rfl)
  unfold execOp
  simp only [ho]
  rw [show (Array.map (fun x : Nat × Operand => (x.1, ρ x.2)) #[(0, x), (1, y), (2, z)]) = #[(0, .string (str e.n)), (1, .int .u16 (e.u : Int)), (2, .int .u8 (e.k : Int))] by simp [hx, hy, hz]]
  simp only [Sem.run_bind, hr, Result.andThen_ok, Sem.run_pure]
theorem ex_alE (ho : o.op = .alloc 46) : (execOp ρ o).run Try.prog w = .ok (.value (.pointer (some ⟨w.heap.size, 0, none⟩))) (w.alloc (.cells #[.string ⟨#[]⟩, .int .u16 0, .int .u8 0] 46)) := by
  unfold execOp
  simp only [ho]
  go_simp
end
theorem ownE_apart {w : World} {B M : Nat} {v : Value} {L K : List Ent} (h : OwnE w B v L) (hm : MapE w M K) : v.ownBlock = none ∨ v.ownBlock ≠ some M := by
  rcases h.2 with ⟨rfl, hn⟩ | ⟨g, cap, cur, rfl, hb, hg, rest⟩
  · exact .inl rfl
  · right
    intro e
    have e' : g = M := by simpa [Value.ownBlock] using e
    subst e'
    obtain ⟨D, ⟨es, c, h1, _⟩, _⟩ := hm
    rw [hg] at h1
    cases h1
theorem map_bel {w wr w' : World} {B M : Nat} (hb : Below B w wr) (hg : wr.grownBy w' (some M)) (hM : B ≤ M) (hB : B ≤ wr.heap.size) : Below B w w' :=
  hb.trans (((Chg.refl (fun g => g = M) wr).grown hg (fun k e => .inl (by injection e with e; exact e.symm))).below (fun k hk => by subst hk; exact hM) hB)
end Go.Proofs.Ytlkhnmhhcagghaa
