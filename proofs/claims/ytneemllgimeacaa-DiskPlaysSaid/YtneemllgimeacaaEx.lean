/- Operations of the regions that draw, each by its value. -/
import Derived.Test.YtneemllgimeacaaKp
namespace Go.Proofs.Ytneemllgimeacaa
open Go.RowKit

theorem ex_ld72 {ρ : Operand → Value} {o : Oper} {x : Operand} {ad : Addr} {v : Value} {w : World} (ho : o.op = .load 72 x) (hx : ρ x = .pointer (some ad)) (hc : w.cell? ad = some v) : (execOp ρ o).run Try.prog w = .ok (.value v) w := by
  unfold execOp
  simp only [ho]
  go_simp
theorem ex_ld41 {ρ : Operand → Value} {o : Oper} {x : Operand} {ad : Addr} {v : Value} {w : World} (ho : o.op = .load 41 x) (hx : ρ x = .pointer (some ad)) (hc : w.cell? ad = some v) : (execOp ρ o).run Try.prog w = .ok (.value v) w := by
  unfold execOp
  simp only [ho]
  go_simp
theorem ex_ld42 {ρ : Operand → Value} {o : Oper} {x : Operand} {ad : Addr} {v : Value} {w : World} (ho : o.op = .load 42 x) (hx : ρ x = .pointer (some ad)) (hc : w.cell? ad = some v) : (execOp ρ o).run Try.prog w = .ok (.value v) w := by
  unfold execOp
  simp only [ho]
  go_simp
theorem ex_fa100 {ρ : Operand → Value} {o : Oper} {x : Operand} {b j : Nat} {w : World} (hj : j < 2) (ho : o.op = .fieldAddr 100 x j) (hx : ρ x = .pointer (some ⟨b, 0, none⟩)) : (execOp ρ o).run Try.prog w = .ok (.value (.pointer (some ⟨b, j, none⟩))) w := by
  unfold execOp
  simp only [ho]
  match j, hj with
  | 0, _ | 1, _ => go_simp
theorem ex_fa89 {ρ : Operand → Value} {o : Oper} {x : Operand} {b : Nat} {w : World} (ho : o.op = .fieldAddr 89 x 0) (hx : ρ x = .pointer (some ⟨b, 0, none⟩)) : (execOp ρ o).run Try.prog w = .ok (.value (.pointer (some ⟨b, 0, none⟩))) w := by
  unfold execOp
  simp only [ho]
  go_simp
theorem ex_sl87 {ρ : Operand → Value} {o : Oper} {x : Operand} {b : Nat} {w : World} (ho : o.op = .slice 87 x none none none) (hx : ρ x = .pointer (some ⟨b, 0, none⟩)) : (execOp ρ o).run Try.prog w = .ok (.value (.slice (some ⟨b, 0, none⟩) 512 512)) w := by
  unfold execOp
  simp only [ho]
  go_simp
theorem ex_sl42 {ρ : Operand → Value} {o : Oper} {x y z : Operand} {b n : Nat} {w : World} (ho : o.op = .slice 42 x none (some y) (some z)) (hx : ρ x = .slice (some ⟨b, 0, none⟩) 512 512) (hy : ρ y = .int .i64 (n : Int)) (hz : ρ z = .int .i64 (n : Int)) (hn : n ≤ 512) :
    (execOp ρ o).run Try.prog w = .ok (.value (.slice (some ⟨b, 0, none⟩) n n)) w := by
  unfold execOp
  simp only [ho]
  go_simp
  intro h
  omega
theorem ex_look {ρ : Operand → Value} {o : Oper} {m x : Operand} {M ad : Nat} {mem : Nat → Bk} {w : World} (ho : o.op = .lookup 72 m x false) (hm : ρ m = .map (some M)) (hx : ρ x = .int .u16 (ad : Int)) (h : MapAt w M mem) (ha : ad < 65536) : (execOp ρ o).run Try.prog w = .ok (.value (BV (mem ad))) w := by
  have hr := h.look ha
  unfold execOp
  simp only [ho]
  simp [hm, hx, hr, Result.andThen]
theorem ex_alloc89 {ρ : Operand → Value} {o : Oper} {w : World} (ho : o.op = .alloc 89) : (execOp ρ o).run Try.prog w = .ok (.value (.pointer (some ⟨w.heap.size, 0, none⟩))) (w.alloc (.cells (bcells blank).toArray 89)) := by
  have hr := run_alloc89 w
  unfold execOp
  simp only [ho]
  simp [hr, Result.andThen]
theorem ex_store89 {ρ : Operand → Value} {o : Oper} {x y : Operand} {g : Nat} {k k0 : Bk} {w : World} (ho : o.op = .store 89 x y) (hx : ρ x = .pointer (some ⟨g, 0, none⟩)) (hy : ρ y = BV k) (hk : k.b.length = 512) (hk0 : k0.b.length = 512) (hb : Blk w g (bcells k0) 89) :
    (execOp ρ o).run Try.prog w = .ok .skip (w.setRow g (bcells k).toArray) := by
  have hr := run_storeVar_row (P := Try.prog) w g 89 89 (bcells k0).toArray (bcells k).toArray hb (by rw [size89]; simp [bcells_length hk]) (by simp [bcells_length hk, bcells_length hk0]) (one_bcells k)
  unfold execOp
  simp only [ho, hx, hy, BV, Instr.storeAt, Instr.sureAddr, Sem.run_bind, Sem.run_pure, Result.andThen_ok, hr]
theorem ex_load89 {ρ : Operand → Value} {o : Oper} {x : Operand} {g : Nat} {k : Bk} {w : World} (ho : o.op = .load 89 x) (hx : ρ x = .pointer (some ⟨g, 0, none⟩)) (hk : k.b.length = 512) (hb : Blk w g (bcells k) 89) :
    (execOp ρ o).run Try.prog w = .ok (.value (BV k)) w := by
  have hr := run_loadVar_row (P := Try.prog) w g 89 89 (bcells k).toArray (0, 0) _ hb Try.underlying89 rfl (by rw [size89]; simp [bcells_length hk])
  unfold execOp
  simp only [ho, hx, BV, Instr.loadAt, Instr.sureAddr, Sem.run_bind, Sem.run_pure, Result.andThen_ok, hr]
theorem ex_put {ρ : Operand → Value} {o : Oper} {m x y : Operand} {M ad : Nat} {k : Bk} {w w' : World} (ho : o.op = .mapUpdate 72 m x y) (hm : ρ m = .map (some M)) (hx : ρ x = .int .u16 (ad : Int)) (hy : ρ y = BV k)
    (hr : (Instr.mapUpdate 72 (.map (some M)) (.int .u16 (ad : Int)) (BV k)).run Try.prog w = .ok () w') : (execOp ρ o).run Try.prog w = .ok .skip w' := by
  unfold execOp
  simp only [ho]
  simp [hm, hx, hy, hr, Result.andThen]
theorem grown_chg {w w' : World} {M : Nat} (h : w.grownBy w' (some M)) : Chg (fun k => k = M) w w' := (Chg.refl _ w).grown h (fun k hk => by cases hk; exact .inl rfl)
/-- The first n bytes of b over the block. -/
def over (k : Bk) (b : Bs) (n : Nat) : Bk := ⟨b.take n ++ k.b.drop n, k.bad, k.stuck⟩
theorem over_length {k : Bk} {b : Bs} {n : Nat} (hk : k.b.length = 512) (hb : b.length = 512) (hn : n ≤ 512) : (over k b n).b.length = 512 := by simp [over, hk, hb]; omega
theorem splice_over {k : Bk} {b : Bs} {n : Nat} (hk : k.b.length = 512) (hb : b.length = 512) (hn : n ≤ 512) : splice (bcells k) 0 ((b.take n).map V8) = bcells (over k b n) := by
  unfold splice bcells over
  have hl : ((b.take n).map V8).length = n := by simp [hb]; omega
  rw [hl]
  simp only [List.take_zero, List.nil_append, Nat.zero_add, List.map_append]
  rw [List.drop_append_of_le_length (by simp [hk]; omega), List.map_drop, List.append_assoc]
section
variable {ops : Array Oper} {Q : Exit → Act → World → Prop} {S : World → Prop}
/-- The first n bytes of a row are copied over the block's. -/
theorem wpG_copy {i : Nat} {r : Tr} {a : Act} {w : World} (o : Oper) (hi : ops.toList[i]? = some o) (hw : Region.wanted o (yielded ops a.tmps) = true) (d s : Operand)
    (ho : o.op = .call { callee := .builtin .copy, args := #[d, s], argTypes := #[42, 42] }) {g gb n cap : Nat} {sp : Option Addr} {k : Bk} {b : Bs} (hd : a.eval d = .slice (some ⟨g, 0, none⟩) 512 512) (hs : a.eval s = .slice sp n cap) (hsp : 0 < n → sp = some ⟨gb, 0, none⟩) (hn : n ≤ 512)
    (hk : k.b.length = 512) (hb : b.length = 512) (hg : Blk w g (bcells k) 89) (hgb : Blk w gb (b.map V8) 5)
    (h : ∀ w', Blk w' g (bcells (over k b n)) 89 → Chg (fun i => i = g) w w' → w'.heap.size = w.heap.size → S w' ∧ wpG Try.prog ops Q r S (a.put o.dst (goInt n)) w') : wpG Try.prog ops Q (.step i r) S a w := by
  have hl : ((b.take n).map V8).length = n := by simp [hb]; omega
  have hfin : ∀ w1, Blk w1 g (splice (bcells k) 0 ((b.take n).map V8)) 89 → Chg (fun i => i = g) w w1 → w1.heap.size = w.heap.size → S w1 ∧ wpG Try.prog ops Q r S (a.put o.dst (goInt ((b.take n).map V8).length)) w1 := fun w1 h1 h2 h3 => by
    rw [splice_over hk hb hn] at h1
    rw [hl]
    exact h w1 h1 h2 h3
  refine wpG_bare o hi hw fun K hK => ?_
  by_cases h0 : n = 0
  · subst h0
    refine wpList_copy_nothing rfl d s 42 42 ho 5 Try.underlying42 sizeB (some ⟨g, 0, none⟩) sp 512 512 0 cap hd hs (by simp) ?_
    have := h w (by simpa [over] using hg) (Chg.refl _ _) rfl
    exact wpG_list_nil (hK _ _ S (fun _ h => h) this.1 this.2)
  · have hspx := hsp (by omega)
    subst hspx
    refine wpList_copy_own rfl d s 42 42 ho 5 Try.underlying42 sizeB g 0 512 512 ⟨gb, 0, none⟩ n cap hd hs (bcells k).toArray 89 hg ((b.take n).map V8) (by rw [hl]; show n = min n 512; omega) (fun j v hv => ?_) (by simp [bcells_length hk]; omega) (one_v8 _) ?_
    · rw [Addr.add_mid, Nat.zero_add]
      refine hgb.cell ?_
      rw [List.getElem?_map] at hv ⊢
      rw [List.getElem?_take] at hv
      split at hv
      · exact hv
      · simp at hv
    · have hx := hfin (w.setRow g (splice (bcells k) 0 ((b.take n).map V8)).toArray) (hg.row _) ((Chg.refl (fun i => i = g) _).setRow (.inl rfl) _) (by simp)
      exact wpG_list_nil (hK _ _ S (fun _ h => h) hx.1 hx.2)
end
end Go.Proofs.Ytneemllgimeacaa
