/- Operations of the tears' law, each by its value; what its loops hold. -/
import Derived.Test.YtneemllgimeacaaTr
import Derived.Deep.MidRow
namespace Go.Proofs.Ytneemllgimeacaa
open Go.RowKit

theorem ex_ix22 {ρ : Operand → Value} {o : Oper} {x y : Operand} {g off n cap k : Nat} {w : World} (ho : o.op = .indexAddr 22 x y) (hx : ρ x = .slice (some ⟨g, off, none⟩) n cap) (hy : ρ y = .int .i64 (k : Int)) (hk : k < n) : (execOp ρ o).run Try.prog w = .ok (.value (.pointer (some ⟨g, off + k * 7, none⟩))) w := by
  have hk' : (k : Int) < (n : Int) := by omega
  unfold execOp
  simp only [ho]
  go_simp
theorem ex_fa45 {ρ : Operand → Value} {o : Oper} {x : Operand} {g off : Nat} {w : World} (ho : o.op = .fieldAddr 45 x 2) (hx : ρ x = .pointer (some ⟨g, off, none⟩)) : (execOp ρ o).run Try.prog w = .ok (.value (.pointer (some ⟨g, off + 2, none⟩))) w := by
  unfold execOp
  simp only [ho]
  go_simp
theorem size45 : (Try.prog.info? 45).map (·.size) = some 7 := by kernel_rfl
def alist (a : Ac) : List Value := [a.cell 0, a.cell 1, a.cell 2, a.cell 3, a.cell 4, a.cell 5, a.cell 6]
theorem ex_ld45 {ρ : Operand → Value} {o : Oper} {x : Operand} {g off : Nat} {a : Ac} {w : World} (ho : o.op = .load 45 x) (hx : ρ x = .pointer (some ⟨g, off, none⟩)) (hc : ∀ j, j < 7 → w.cell? ⟨g, off + j, none⟩ = some (a.cell j)) : (execOp ρ o).run Try.prog w = .ok (.value (aval a)) w := by
  have hr := run_loadAt_mid (P := Try.prog) w g off 45 (alist a) _ (fun j v hv => by
    match j, hv with
    | 0, hv | 1, hv | 2, hv | 3, hv | 4, hv | 5, hv | 6, hv => cases hv; exact hc _ (by omega)) Try.underlying45 rfl (by rw [size45]; rfl)
  unfold execOp
  simp only [ho, hx]
  simp only [Sem.run_bind, hr, Result.andThen_ok, Sem.run_pure]
  rfl
theorem ex_ix64 {ρ : Operand → Value} {o : Oper} {x y : Operand} {g n cap k : Nat} {q : IntKind} {w : World} (ho : o.op = .indexAddr 64 x y) (hx : ρ x = .slice (some ⟨g, 0, none⟩) n cap) (hy : ρ y = .int q (k : Int)) (hk : k < n) : (execOp ρ o).run Try.prog w = .ok (.value (.pointer (some ⟨g, k, none⟩))) w := by
  have hk' : (k : Int) < (n : Int) := by omega
  unfold execOp
  simp only [ho]
  go_simp
theorem ex_ix65 {ρ : Operand → Value} {o : Oper} {x y : Operand} {g n cap k : Nat} {w : World} (ho : o.op = .indexAddr 65 x y) (hx : ρ x = .slice (some ⟨g, 0, none⟩) n cap) (hy : ρ y = .int .i64 (k : Int)) (hk : k < n) : (execOp ρ o).run Try.prog w = .ok (.value (.pointer (some ⟨g, k, none⟩))) w := by
  have hk' : (k : Int) < (n : Int) := by omega
  unfold execOp
  simp only [ho]
  go_simp
theorem ex_ix42 {ρ : Operand → Value} {o : Oper} {x y : Operand} {g n cap k : Nat} {w : World} (ho : o.op = .indexAddr 42 x y) (hx : ρ x = .slice (some ⟨g, 0, none⟩) n cap) (hy : ρ y = .int .i64 (k : Int)) (hk : k < n) : (execOp ρ o).run Try.prog w = .ok (.value (.pointer (some ⟨g, k, none⟩))) w := by
  have hk' : (k : Int) < (n : Int) := by omega
  unfold execOp
  simp only [ho]
  go_simp
theorem ex_ld65 {ρ : Operand → Value} {o : Oper} {x : Operand} {ad : Addr} {v : Value} {w : World} (ho : o.op = .load 65 x) (hx : ρ x = .pointer (some ad)) (hc : w.cell? ad = some v) : (execOp ρ o).run Try.prog w = .ok (.value v) w := by
  unfold execOp
  simp only [ho]
  go_simp
theorem ex_ld9 {ρ : Operand → Value} {o : Oper} {x : Operand} {ad : Addr} {v : Value} {w : World} (ho : o.op = .load 9 x) (hx : ρ x = .pointer (some ad)) (hc : w.cell? ad = some v) : (execOp ρ o).run Try.prog w = .ok (.value v) w := by
  unfold execOp
  simp only [ho]
  go_simp
theorem ex_ld5 {ρ : Operand → Value} {o : Oper} {x : Operand} {ad : Addr} {v : Value} {w : World} (ho : o.op = .load 5 x) (hx : ρ x = .pointer (some ad)) (hc : w.cell? ad = some v) : (execOp ρ o).run Try.prog w = .ok (.value v) w := by
  unfold execOp
  simp only [ho]
  go_simp
theorem ex_one65 {ρ : Operand → Value} {o : Oper} {x : Operand} {b : Bs} {w : World} (ho : o.op = .buildSlice 65 1 #[(0, x)]) (hx : ρ x = VT b) : (execOp ρ o).run Try.prog w = .ok (.value (.slice (some ⟨w.heap.size, 0, none⟩) 1 1)) (w.alloc (.cells #[VT b] 9)) := by
  unfold execOp
  simp only [ho]
  go_simp
theorem ex_app65 {ρ : Operand → Value} {o : Oper} {x y : Operand} {v u v' : Value} {w w' : World} (ho : o.op = .call { callee := .builtin .append, args := #[x, y], argTypes := #[65, 65] }) (hx : ρ x = v) (hy : ρ y = u)
    (hr : (Builtin.append_ #[65, 65] o.type #[v, u]).run Try.prog w = .ok v' w') : (execOp ρ o).run Try.prog w = .ok (.value v') w' := by
  unfold execOp
  simp only [ho, resolve, invoke, builtin, Sem.run_bind, Sem.run_pure, Result.andThen_ok, List.map_toArray, List.map_cons, List.map_nil, hx, hy, hr]
theorem ex_app64 {ρ : Operand → Value} {o : Oper} {x y : Operand} {v u v' : Value} {w w' : World} (ho : o.op = .call { callee := .builtin .append, args := #[x, y], argTypes := #[64, 64] }) (hx : ρ x = v) (hy : ρ y = u)
    (hr : (Builtin.append_ #[64, 64] o.type #[v, u]).run Try.prog w = .ok v' w') : (execOp ρ o).run Try.prog w = .ok (.value v') w' := by
  unfold execOp
  simp only [ho, resolve, invoke, builtin, Sem.run_bind, Sem.run_pure, Result.andThen_ok, List.map_toArray, List.map_cons, List.map_nil, hx, hy, hr]
theorem ex_st65 {ρ : Operand → Value} {o : Oper} {x y : Operand} {b i n cap : Nat} {sp : Option Addr} {w : World} (ho : o.op = .store 65 x y) (hx : ρ x = .pointer (some ⟨b, i, none⟩)) (hy : ρ y = .slice sp n cap) {u : Value} (hc : w.cell? ⟨b, i, none⟩ = some u) (hf : w.frozen? ⟨b, i, none⟩ = false) :
    (execOp ρ o).run Try.prog w = .ok .skip (w.setCell ⟨b, i, none⟩ (.slice sp n cap)) := by
  unfold execOp
  simp only [ho]
  go_simp
theorem bstr_data (l : Bs) (k : Nat) (h : k < l.length) : (bstr l).data[k]? = some (UInt8.ofNat (l.getD k 0).toNat) := by
  unfold bstr
  simp [List.getD_eq_getElem?_getD, h]
theorem ex_index9 {ρ : Operand → Value} {o : Oper} {x y : Operand} {l : Bs} {k : Nat} {w : World} (ho : o.op = .index 9 x y) (hx : ρ x = VT l) (hy : ρ y = .int .i64 (k : Int)) (hk : k < l.length) : (execOp ρ o).run Try.prog w = .ok (.value (V8 (l.getD k 0))) w := by
  have hk' : (k : Int) < (l.length : Int) := by omega
  have hs := bstr_size l
  have hd := bstr_data l k hk
  rw [← u8v]
  unfold execOp
  simp only [ho]
  go_simp
  have hz : k < (bstr l).size := by omega
  have e : (bstr l)[k] = UInt8.ofNat (l[k]).toNat := by
    show (bstr l).data[k] = _
    simp [bstr]
  rw [e, UInt8.toNat_ofNat', Nat.mod_eq_of_lt (l[k]).isLt]
theorem wpL_val {ops : Array Oper} {rest : List Oper} {o : Oper} {a : Act} {Q : Exit → Act → World → Prop} {w w' : World} {v : Value} (hg : o.guard = none) (hrun : (execOp a.eval o).run Try.prog w = .ok (.value v) w')
    (hK : wpList Try.prog ops Q rest (a.put o.dst v) w') : wpList Try.prog ops Q (o :: rest) a w := by
  refine wpList_plain hg fun K' hK' => ?_
  unfold Oper.wp
  rw [hrun]
  exact hK' _ _ hK
/-- What the law's own rows keep out of. -/
def Fw (W : World) (S : Nat → Prop) (Q : Nat) (k : Nat) : Prop := Fo S Q k ∨ k < W.heap.size
theorem Lw.fw {W w : World} {D Q : Nat} {S : Nat → Prop} {s : Dsk} {p : Pw} (h : Lw W.heap.size W w D Q S s p) : ∀ k, Fw W S Q k → k < w.heap.size := fun k hk => by
  rcases hk with hk | hk
  · exact h.fo k hk
  · exact Nat.lt_of_lt_of_le hk h.bel.size
/-- The law's own rows have turned. -/
theorem Lw.law {W w w' : World} {D Q : Nat} {S G : Nat → Prop} {s : Dsk} {p : Pw} (h : Lw W.heap.size W w D Q S s p) (hc : Chg G w w') (hG : ∀ k, G k → ¬ Fw W S Q k) : Lw W.heap.size W w' D Q S s p :=
  ⟨h.dk.chg hc (fun k hk hg => hG k hg (.inl (.inl hk))), h.pw.chg hc (fun hg => hG Q hg (.inl (.inr rfl))), h.bs, h.bq, h.bb, h.bel.trans (hc.below (fun k hk => Nat.le_of_not_lt (fun hl => hG k hk (.inr hl))) h.bel.size)⟩
theorem fw_mono {W : World} {S S' : Nat → Prop} {Q : Nat} {w : World} (h : ∀ k, Fo S' Q k → Fo S Q k ∨ w.heap.size ≤ k) : ∀ k, Fw W S' Q k → Fw W S Q k ∨ w.heap.size ≤ k := fun k hk => by
  rcases hk with hk | hk
  · rcases h k hk with h1 | h1
    · exact .inl (.inl h1)
    · exact .inr h1
  · exact .inl (.inr hk)
/-- A write, and what of the law stays. -/
def TW (W : World) (D Q : Nat) (S : Nat → Prop) (n : Nat) (m : Nat → Bk) (c : List (Nat × Bs)) (a : Nat) (b : Bs) (w : World) (e : Ending) (w' : World) : Prop :=
  ∃ S' c', Lw W.heap.size W w' D Q S' (pdn n m c') p0 ∧ c' = (if a < n ∧ b.length = 512 then c ++ [(a, b)] else c) ∧ e = .returned (.int .i64 (if a < n ∧ b.length = 512 then 0 else 1)) ∧ (∀ k, Fo S' Q k → Fo S Q k ∨ w.heap.size ≤ k) ∧ Chg (Fo S Q) w w'
theorem tw_write {W w : World} {D Q : Nat} {S : Nat → Prop} {n : Nat} {m : Nat → Bk} {c : List (Nat × Bs)} (h : Lw W.heap.size W w D Q S (pdn n m c) p0) (a : Nat) (ha : a < 65536) (b : Bs) (sp : Option Addr) (cap : Nat) (hS : SrcA w sp b) (hl : c.length < 1000000) :
    Calls Try.prog 25 #[.pointer (some ⟨D, 0, none⟩), .int .u16 (a : Int), .slice sp b.length cap] w (TW W D Q S n m c a b w) := by
  refine (write_any D Q S (pdn n m c) p0 a b sp b.length cap ha rfl w hS h.dk h.pw hl).mono ?_
  rintro e w' hh
  unfold Wrote at hh
  by_cases hab : a < n ∧ b.length = 512
  · rw [pdn_wrote n m c a b hab] at hh
    obtain ⟨rfl, hd, hp, hc⟩ := hh
    exact ⟨_, _, h.step hd hp hc, by rw [if_pos hab], by rw [if_pos hab], fo_ext, hc⟩
  · rw [pdn_wrong n m c a b hab] at hh
    obtain ⟨rfl, hd, hp, hc⟩ := hh
    exact ⟨_, _, h.step hd hp hc, by rw [if_neg hab], by rw [if_neg hab], fo_ext, hc⟩
end Go.Proofs.Ytneemllgimeacaa
