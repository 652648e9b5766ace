/- Regions that draw and make memory: what a condition on worlds keeps; calls and appends that hand new bytes back. -/
import Derived.Test.YtincpdnmaiimnaaDoorWr
namespace Go.Proofs.YtincpdnmaiimnaaDoor
open Go.RowKit

/-- What stays where only new memory is written. -/
def Stable (S : World → Prop) : Prop := ∀ w w', S w → Below w.heap.size w w' → S w'
def Plus (S : World → Prop) (sp : Option Addr) (l : List (BitVec 8)) (w : World) : Prop := S w ∧ SrcA w sp l
theorem Stable.plus {S : World → Prop} (h : Stable S) (sp : Option Addr) (l : List (BitVec 8)) : Stable (Plus S sp l) := fun w w' hS hb => ⟨h w w' hS.1 hb, hS.2.grown hb⟩
/-- The world as it was at the start, and bytes that lie there. -/
def SL (w0 : World) (sp : Option Addr) (l : List (BitVec 8)) (w : World) : Prop := SrcA w sp l ∧ Below w0.heap.size w0 w
theorem SL.stable (w0 : World) (sp : Option Addr) (l : List (BitVec 8)) : Stable (SL w0 sp l) := fun _ _ hS hb => ⟨hS.1.grown hb, hS.2.trans (hb.mono hS.2.size)⟩
section
variable {ops : Array Oper} {Q : Exit → Act → World → Prop} {S : World → Prop}
/-- A call that hands new bytes back. -/
theorem wpG_own {i : Nat} {r : Tr} {a : Act} {w : World} (o : Oper) (hi : ops.toList[i]? = some o) (hw : Region.wanted o (yielded ops a.tmps) = true) (f : FuncId) (args : Array Value) (hrun : ∀ w, (execOp a.eval o).run Tryd.prog w = .ok (.enter f args) w)
    (hst : Stable S) (hS : S w) (l : List (BitVec 8)) (hc : Calls Tryd.prog f args w (RetOwn l w))
    (h : ∀ sp cap w', l.length ≤ cap → (sp = none → cap = 0) → Plus S sp l w' → wpG Tryd.prog ops Q r (Plus S sp l) (a.put o.dst (.slice sp l.length cap)) w') : wpG Tryd.prog ops Q (.step i r) S a w :=
  wpG_call o hi hw f args hrun (fun v w' => OwnB w' w.heap.size v l) (hc.mono fun _ w' ⟨v, e1, ho, hb⟩ => ⟨v, e1, hst _ _ hS hb, ho⟩) fun v w' hS' ho => by
    obtain ⟨sp, cap, rfl, hc1, _, hsrc, hz, _⟩ := OwnB.form ho
    exact ⟨Plus S sp l, fun _ h => h.1, ⟨hS', hsrc⟩, h sp cap w' hc1 hz ⟨hS', hsrc⟩⟩
/-- A call that only says something, or leaves new memory. -/
theorem wpG_says {i : Nat} {r : Tr} {a : Act} {w : World} (o : Oper) (hi : ops.toList[i]? = some o) (hw : Region.wanted o (yielded ops a.tmps) = true) (f : FuncId) (args : Array Value) (hrun : ∀ w, (execOp a.eval o).run Tryd.prog w = .ok (.enter f args) w)
    (hst : Stable S) (hS : S w) (v : Value) (hc : Calls Tryd.prog f args w fun e w' => e = .returned v ∧ Below w.heap.size w w')
    (h : ∀ w', S w' → wpG Tryd.prog ops Q r S (a.put o.dst v) w') : wpG Tryd.prog ops Q (.step i r) S a w :=
  wpG_call o hi hw f args hrun (fun u _ => u = v) (hc.mono fun _ w' ⟨e1, hb⟩ => ⟨v, e1, hst _ _ hS hb, rfl⟩) fun u w' hS' hu => by
    subst hu
    exact ⟨S, fun _ h => h, hS', h w' hS'⟩
/-- 'append(nil, b...)'. -/
theorem wpG_app {i : Nat} {r : Tr} {a : Act} {w : World} (o : Oper) (hi : ops.toList[i]? = some o) (hw : Region.wanted o (yielded ops a.tmps) = true) (s x : Operand)
    (ho : o.op = .call { callee := .builtin .append, args := #[s, x], argTypes := #[30, 30] }) (hs : a.eval s = .slice none 0 0) (sp : Option Addr) (cap : Nat) (l : List (BitVec 8)) (hx : a.eval x = .slice sp l.length cap) (hc : l.length ≤ cap) (hz : sp = none → cap = 0)
    (hl : l.length ≤ 140737488355328) (hst : Stable S) (hS : S w) (hsrc : SrcA w sp l)
    (h : ∀ sp cap w', l.length ≤ cap → (sp = none → cap = 0) → Plus S sp l w' → wpG Tryd.prog ops Q r (Plus S sp l) (a.put o.dst (.slice sp l.length cap)) w') : wpG Tryd.prog ops Q (.step i r) S a w :=
  wpG_bare o hi hw fun K hK => wpList_append_nil rfl s x ho hs sp cap l hx hc hz hsrc hl fun v w' hown hb _ => by
    obtain ⟨sp1, cap1, rfl, hc1, _, hsrc1, hz1, _⟩ := OwnB.form hown
    have hS' := hst _ _ hS hb
    exact wpG_list_nil (hK _ _ (Plus S sp1 l) (fun _ h => h.1) ⟨hS', hsrc1⟩ (h sp1 cap1 w' hc1 hz1 ⟨hS', hsrc1⟩))
/-- 'string(b)', taken first. -/
theorem wpG_str {i : Nat} {r : Tr} {a : Act} {w : World} (o : Oper) (hi : ops.toList[i]? = some o) (hw : Region.wanted o (yielded ops a.tmps) = true) (x : Operand) (ho : o.op = .convert 30 9 x) (sp : Option Addr) (cap : Nat) (l : List (BitVec 8))
    (hx : a.eval x = .slice sp l.length cap) (hsrc : ∀ w, S w → SrcA w sp l) (h : wpG Tryd.prog ops Q r S (a.put o.dst (.string (bstr l))) w) : wpG Tryd.prog ops Q (.take i r) S a w :=
  wpG_take o (.string (bstr l)) hi hw (fun w hS => by
    unfold execOp
    simp only [ho, hx, Sem.run_bind, conv_str (hsrc w hS), Result.andThen_ok, Sem.run_pure]) h
end
/-- Steps where no take asks of the world: what is known is said of the very world. -/
abbrev Any : World → Prop := fun _ => True
section
variable {ops : Array Oper} {Q : Exit → Act → World → Prop}
theorem wpG_callT {i : Nat} {r : Tr} {a : Act} {w : World} (o : Oper) (hi : ops.toList[i]? = some o) (hw : Region.wanted o (yielded ops a.tmps) = true) (f : FuncId) (args : Array Value) (hrun : ∀ w, (execOp a.eval o).run Tryd.prog w = .ok (.enter f args) w)
    (C : Value → World → Prop) (hc : Calls Tryd.prog f args w fun e w' => ∃ v, e = .returned v ∧ C v w') (h : ∀ v w', C v w' → wpG Tryd.prog ops Q r Any (a.put o.dst v) w') : wpG Tryd.prog ops Q (.step i r) Any a w :=
  wpG_call o hi hw f args hrun C (hc.mono fun _ _ ⟨v, e, hC⟩ => ⟨v, e, trivial, hC⟩) fun v w' _ hC => ⟨Any, fun _ h => h, trivial, h v w' hC⟩
theorem wpG_bareT {i : Nat} {r : Tr} {a : Act} {w : World} (o : Oper) (hi : ops.toList[i]? = some o) (hw : Region.wanted o (yielded ops a.tmps) = true)
    (h : ∀ K : Act → World → Prop, (∀ a' w', wpG Tryd.prog ops Q r Any a' w' → K a' w') → wpList Tryd.prog ops (Behind Q K) [{ o with guard := none }] a w) : wpG Tryd.prog ops Q (.step i r) Any a w :=
  wpG_bare o hi hw fun K hK => h K fun a' w' hh => hK a' w' Any (fun _ h => h) trivial hh
theorem wpG_valT {i : Nat} {r : Tr} {a : Act} {w : World} (o : Oper) (hi : ops.toList[i]? = some o) (hw : Region.wanted o (yielded ops a.tmps) = true) (v : Value) (w1 : World) (hrun : (execOp a.eval o).run Tryd.prog w = .ok (.value v) w1)
    (h : wpG Tryd.prog ops Q r Any (a.put o.dst v) w1) : wpG Tryd.prog ops Q (.step i r) Any a w := by
  show wpOp Tryd.prog ops Q i _ a w
  unfold wpOp
  simp only [of_list hi]
  rw [if_pos hw]
  refine .inl ?_
  unfold Oper.wp
  rw [hrun]
  exact ⟨trivial, Any, fun _ h => h, trivial, h⟩
theorem wpG_unitT {i : Nat} {r : Tr} {a : Act} {w : World} (o : Oper) (hi : ops.toList[i]? = some o) (hw : Region.wanted o (yielded ops a.tmps) = true) (w1 : World) (hrun : (execOp a.eval o).run Tryd.prog w = .ok .skip w1)
    (h : wpG Tryd.prog ops Q r Any (a.put o.dst undef) w1) : wpG Tryd.prog ops Q (.step i r) Any a w := by
  show wpOp Tryd.prog ops Q i _ a w
  unfold wpOp
  simp only [of_list hi]
  rw [if_pos hw]
  refine .inl ?_
  unfold Oper.wp
  rw [hrun]
  exact ⟨trivial, Any, fun _ h => h, trivial, h⟩
theorem wpG_appT {i : Nat} {r : Tr} {a : Act} {w : World} (o : Oper) (hi : ops.toList[i]? = some o) (hw : Region.wanted o (yielded ops a.tmps) = true) (s x : Operand)
    (ho : o.op = .call { callee := .builtin .append, args := #[s, x], argTypes := #[30, 30] }) (hs : a.eval s = .slice none 0 0) (sp : Option Addr) (cap : Nat) (l : List (BitVec 8)) (hx : a.eval x = .slice sp l.length cap) (hc : l.length ≤ cap) (hz : sp = none → cap = 0)
    (hl : l.length ≤ 140737488355328) (hsrc : SrcA w sp l)
    (h : ∀ v w', OwnB w' w.heap.size v l → Below w.heap.size w w' → wpG Tryd.prog ops Q r Any (a.put o.dst v) w') : wpG Tryd.prog ops Q (.step i r) Any a w :=
  wpG_bareT o hi hw fun _ hK => wpList_append_nil rfl s x ho hs sp cap l hx hc hz hsrc hl fun v w' hown hb _ => wpG_list_nil (hK _ _ (h v w' hown hb))
/-- 'append(v, x)' of one byte, v the call's own. -/
theorem wpG_app1 {i : Nat} {r : Tr} {a : Act} {w : World} (o : Oper) (hi : ops.toList[i]? = some o) (hw : Region.wanted o (yielded ops a.tmps) = true) (s x : Operand)
    (ho : o.op = .call { callee := .builtin .append, args := #[s, x], argTypes := #[30, 30] }) (v : Value) (hs : a.eval s = v) (B : Nat) (l : List (BitVec 8)) (hown : OwnB w B v l) (b : BitVec 8) (ad : Addr) (c : Nat) (hx : a.eval x = .slice (some ad) 1 c) (hcell : w.cell? (ad.add 0) = some (V8 b))
    (hl : l.length ≤ 100000000) (hB : B ≤ w.heap.size)
    (h : ∀ v' w', OwnB w' B v' (l ++ [b]) → w.grownBy w' v.ownBlock → wpG Tryd.prog ops Q r Any (a.put o.dst v') w') : wpG Tryd.prog ops Q (.step i r) Any a w := by
  obtain ⟨i0, hi0, hz0, hz1, hz2⟩ := info_parts infoB
  refine wpG_bareT o hi hw fun K hK => wpList_append_own w rfl s x 30 ho B 5 i0 (.int .u8 0) 1 1 Tryd.underlying30 hi0 hz0 hz1 hz2 rfl (by omega) v l.length (l.map V8) hs hown ad 1 c [V8 b] hx rfl ?_ ?_ (by unfold maxLen; omega) (by omega) hB fun v' w' ho' hg _ => wpG_list_nil (hK _ _ (h v' w' ?_ hg))
  · intro j u hj
    match j, hj with
    | 0, hj => simp at hj; subst hj; exact hcell
  · intro u hu; simp at hu; subst hu; rfl
  · unfold OwnB
    rw [List.map_append, List.length_append]
    exact ho'
end
theorem grown_butFor {w w' : World} {v : Value} (h : w.grownBy w' v.ownBlock) (g : Nat) (hg : ∀ k, v.ownBlock = some k → k = g) : ButFor g w w' :=
  ⟨h.os, h.tape, h.output, h.size, fun k hk hn => h.block k hk (fun e => hn (hg k e.symm))⟩

/-- Operations, each by its value. -/
theorem ex_add {ρ : Operand → Value} {o : Oper} {x y : Operand} {k : TypeId} {a b : List (BitVec 8)} {w : World} (ho : o.op = .binOp .add 9 x y k) (hx : ρ x = .string (bstr a)) (hy : ρ y = .string (bstr b)) (h : a.length + b.length ≤ 1000000) :
    (execOp ρ o).run Tryd.prog w = .ok (.value (.string (bstr (a ++ b)))) w := by
  have h1 := run_string_add_sum (P := Tryd.prog) (w := w) (bstr a) (bstr b) (by rw [bstr_size, bstr_size]; omega)
  unfold execOp
  simp [go_sem, ho, hx, hy, h1, bstr_add]
theorem ex_eql {ρ : Operand → Value} {o : Oper} {x y : Operand} {k : TypeId} {a b : List (BitVec 8)} {w : World} (ho : o.op = .binOp .eql 9 x y k) (hx : ρ x = .string (bstr a)) (hy : ρ y = .string (bstr b)) :
    (execOp ρ o).run Tryd.prog w = .ok (.value (.bool (decide (a = b)))) w := by
  unfold execOp
  simp [go_sem, ho, hx, hy, bstr_eq]
theorem ex_neq {ρ : Operand → Value} {o : Oper} {x y : Operand} {k : TypeId} {a b : List (BitVec 8)} {w : World} (ho : o.op = .binOp .neq 9 x y k) (hx : ρ x = .string (bstr a)) (hy : ρ y = .string (bstr b)) :
    (execOp ρ o).run Tryd.prog w = .ok (.value (.bool (!decide (a = b)))) w := by
  unfold execOp
  simp [go_sem, ho, hx, hy, bstr_eq]
theorem ex_cvt16 {ρ : Operand → Value} {o : Oper} {x : Operand} {n : Nat} {w : World} (ho : o.op = .convert 24 22 x) (hx : ρ x = .int .u64 (n : Int)) :
    (execOp ρ o).run Tryd.prog w = .ok (.value (.int .u16 ((n % 65536 : Nat) : Int))) w := by
  have e : IntKind.u16.wrap (n : Int) = (n : Int) % 65536 := by simp only [IntKind.wrap_u16]
  unfold execOp
  simp [go_sem, ho, hx, e]
theorem ex_cvt32 {ρ : Operand → Value} {o : Oper} {x : Operand} {n : Nat} {w : World} (ho : o.op = .convert 24 23 x) (hx : ρ x = .int .u64 (n : Int)) :
    (execOp ρ o).run Tryd.prog w = .ok (.value (.int .u32 ((n % 4294967296 : Nat) : Int))) w := by
  have e : IntKind.u32.wrap (n : Int) = (n : Int) % 4294967296 := by simp only [IntKind.wrap_u32]
  unfold execOp
  simp [go_sem, ho, hx, e]
theorem ex_rem16 {ρ : Operand → Value} {o : Oper} {x : Operand} {n : Nat} {k : TypeId} {w : World} (ho : o.op = .binOp .rem 24 x (.const (.int .u64 65536)) k) (hx : ρ x = .int .u64 (n : Int)) (hy : ρ (.const (.int .u64 65536)) = .int .u64 65536) :
    (execOp ρ o).run Tryd.prog w = .ok (.value (.int .u64 ((n % 65536 : Nat) : Int))) w := by
  have e : (n : Int).tmod 65536 = (n : Int) % 65536 := Int.tmod_eq_emod_of_nonneg (by omega)
  unfold execOp
  simp [go_sem, ho, hx, hy, e]
theorem ex_rem32 {ρ : Operand → Value} {o : Oper} {x : Operand} {n : Nat} {k : TypeId} {w : World} (ho : o.op = .binOp .rem 24 x (.const (.int .u64 4294967296)) k) (hx : ρ x = .int .u64 (n : Int)) (hy : ρ (.const (.int .u64 4294967296)) = .int .u64 4294967296) :
    (execOp ρ o).run Tryd.prog w = .ok (.value (.int .u64 ((n % 4294967296 : Nat) : Int))) w := by
  have e : (n : Int).tmod 4294967296 = (n : Int) % 4294967296 := Int.tmod_eq_emod_of_nonneg (by omega)
  unfold execOp
  simp [go_sem, ho, hx, hy, e]

end Go.Proofs.YtincpdnmaiimnaaDoor
