/- Inodes: what reads, builds and compares them in memory. -/
import Derived.Test.YtjgjohdeeeoeoaaGreatDoorM22
import Derived.ChangeKeysEq
import Derived.Great.BuildSlice
set_option linter.all false
namespace Go.Proofs.YtjgjohdeeeoeoaaGreatDoor
open Go.RowKit
variable {a b : Array Value} {r z : Bool} {m n p q : Ino} {ms ns : List Ino} {g k off : Nat} {t t' : TypeId}
theorem sn (xs : Array Value) (off : Nat) (W : World) : (Go.part 28 xs off).run Tryz.prog W = .ok (.agg (xs.extract off (off + 41))) W := by
 obtain ⟨i, h1, h2⟩ := Option.map_eq_some_iff.1 dw;have a1 : (sizeOf 28).run Tryz.prog W = .ok 41 W := by simp [sizeOf, typeInfo, h1, h2]
 have a0 : (isAgg 28).run Tryz.prog W = .ok true W := by
  unfold isAgg;rw [Sem.run_bind, run_underlying Tryz.underlying28 W]; rfl
 unfold Go.part;simp only [Sem.run_bind, a0, Result.andThen_ok, a1, if_true];rfl
theorem Fw (d : Nat) {p q : Pt} (hp : p.OK) (hq : q.OK) (W : World) : (Op.equalIn (d + 3) 28 (.agg (a8 p).toArray) (.agg (a8 q).toArray)).run Tryz.prog W = .ok (eqP p q) W := by
 rw [run_equalIn_struct W (d + 2) 28 _ _ (by kernel_rfl) (by kernel_rfl)]
 have e : eqP p q = (((Tryz.prog.fieldsOf 28).toList.map fun f => (f.type, f.offset)).all (Mq p q)) := by
  rw [rz];simp [Mq, eqP, Bool.and_assoc]
 rw [e];refine fi _ _ _ W _ _ (fun f hm => ⟨?_, ?_⟩)
 ·have := List.all_eq_true.1 Ia f hm
  simpa using this
 have h1 : (f.type, f.offset) ∈ (Tryz.prog.fieldsOf 28).toList.map (fun f => (f.type, f.offset)) := List.mem_map.2 ⟨f, hm, rfl⟩;rw [rz] at h1;simp only [List.mem_cons, Prod.mk.injEq, List.not_mem_nil, or_false] at h1
 have hi : ∀ (t : TypeId) (k : IntKind) (a b : Nat), Tryz.prog.underlying t = some (.int k) → (Op.equalIn (d + 2) t (.int k (a : Int)) (.int k (b : Int))).run Tryz.prog W = .ok (decide (a = b)) W := fun t k a b ht => by
  rw [run_equalIn_int W (d + 1) t k k _ _ ht];refine congrArg (fun b => Result.ok b W) ?_;rw [Bool.eq_iff_iff];simp;omega
 rcases h1 with ⟨e1, e2⟩ | ⟨e1, e2⟩ | ⟨e1, e2⟩ | ⟨e1, e2⟩ | ⟨e1, e2⟩ | ⟨e1, e2⟩ | ⟨e1, e2⟩ <;> rw [e1, e2]
 ·exact ⟨_, _, ay Tryz.underlying5 (v := .int .u8 (p.kind : Int)) rfl W, ay Tryz.underlying5 (v := .int .u8 (q.kind : Int)) rfl W, hi _ _ _ _ Tryz.underlying5⟩
 ·exact ⟨_, _, ay Tryz.underlying5 (v := .int .u8 (p.level : Int)) rfl W, ay Tryz.underlying5 (v := .int .u8 (q.level : Int)) rfl W, hi _ _ _ _ Tryz.underlying5⟩
 ·exact ⟨_, _, ay Tryz.underlying23 (v := .int .u16 (p.obj : Int)) rfl W, ay Tryz.underlying23 (v := .int .u16 (q.obj : Int)) rfl W, hi _ _ _ _ Tryz.underlying23⟩
 ·exact ⟨_, _, ay Tryz.underlying24 (v := .int .u32 (p.off : Int)) rfl W, ay Tryz.underlying24 (v := .int .u32 (q.off : Int)) rfl W, hi _ _ _ _ Tryz.underlying24⟩
 ·exact ⟨_, _, ay Tryz.underlying22 (v := .int .u64 (p.birth : Int)) rfl W, ay Tryz.underlying22 (v := .int .u64 (q.birth : Int)) rfl W, hi _ _ _ _ Tryz.underlying22⟩
 ·refine ⟨_, _, fq Tryz.underlying25 p5 _ _ W, fq Tryz.underlying25 p5 _ _ W, ?_⟩
  rw [nc hp, nc hq];exact Cj hp.hash hq.hash d W
 ·refine ⟨_, _, fq Tryz.underlying26 js _ _ W, fq Tryz.underlying26 js _ _ W, ?_⟩
  rw [ry hp, ry hq];exact Ci hp.len hq.len d W
theorem ue (h : n.OK) : (af n).toArray.extract 3 (3 + 41) = (a8 n.root).toArray := by
 apply Array.toList_inj.1;rw [Array.toList_extract, List.extract_eq_take_drop];show ((m2 n ++ a8 n.root).drop 3).take (3 + 41 - 3) = a8 n.root;rw [List.drop_left' (by rfl), List.take_of_length_le (by rw [aa h.root]; omega)]
def K9 (a b : Ino) (f : TypeId × Nat) : Bool :=
 if f.2 = 0 then decide (a.kind = b.kind) else if f.2 = 1 then decide (a.links = b.links) else if f.2 = 2 then decide (a.size = b.size) else eqP a.root b.root
theorem Ct (h : ∀ p ∈ ns, p.OK) (hk : ns[k]? = some p) : (ai ns).toArray.extract (k * 44) (k * 44 + 44) = (af p).toArray := by
 obtain ⟨e, hl⟩ := o9 h hk;apply Array.toList_inj.1;rw [Array.toList_extract, List.extract_eq_take_drop];simp only;rw [e, show k * 44 = 44 * k by omega, List.drop_left' hl, show 44 * k + 44 - 44 * k = 44 by omega, List.take_left' (am (h p (List.mem_of_getElem? hk)))]
theorem a0x (h : ns.length = 4) (h' : ms.length = 4) : ((List.range 4).all fun j => eqI (ns.getD j zeroI) (ms.getD j zeroI)) = decide (ns = ms) := by
 rw [Bool.eq_iff_iff, List.all_eq_true, decide_eq_true_iff];constructor
 ·intro H
  apply List.ext_getElem (by rw [h, h']);intro j h1 h2;have := ir.1 (H j (List.mem_range.2 (by omega)));simpa [List.getD_eq_getElem?_getD, h1, h2] using this
 ·rintro rfl j _
  exact mz _
theorem mw : (Tryz.prog.info? 68).map (·.size) = some 44 := by kernel_rfl
theorem fb (h : n.OK) : (Tryz.prog.info? 68).map (·.size) = some (af n).toArray.size := by rw [List.size_toArray, am h]; exact mw
theorem wy (h : n.OK) : (Tryz.prog.info? 68).map (·.size) = some (af n).length := by rw [am h]; exact mw
theorem En : (Tryz.prog.fieldsOf 68).toList.map (fun f => (f.type, f.offset)) = [(5, 0), (23, 1), (24, 2), (28, 3)] := by kernel_rfl
theorem Yd : ((Tryz.prog.fieldsOf 68).toList.all fun f => f.name != "_") = true := by kernel_rfl
theorem uz (d : Nat) (hp : p.OK) (hq : q.OK) (W : World) : (Op.equalIn (d + 4) 68 (.agg (af p).toArray) (.agg (af q).toArray)).run Tryz.prog W = .ok (eqI p q) W := by
 rw [run_equalIn_struct W (d + 3) 68 _ _ (by kernel_rfl) (by kernel_rfl)]
 have e : eqI p q = (((Tryz.prog.fieldsOf 68).toList.map fun f => (f.type, f.offset)).all (K9 p q)) := by
  rw [En];simp [K9, eqI, Bool.and_assoc]
 rw [e];refine fi _ _ _ W _ _ (fun f hm => ⟨?_, ?_⟩)
 ·have := List.all_eq_true.1 Yd f hm
  simpa using this
 have h1 : (f.type, f.offset) ∈ (Tryz.prog.fieldsOf 68).toList.map (fun f => (f.type, f.offset)) := List.mem_map.2 ⟨f, hm, rfl⟩;rw [En] at h1;simp only [List.mem_cons, Prod.mk.injEq, List.not_mem_nil, or_false] at h1
 have hi : ∀ (t : TypeId) (k : IntKind) (a b : Nat), Tryz.prog.underlying t = some (.int k) → (Op.equalIn (d + 3) t (.int k (a : Int)) (.int k (b : Int))).run Tryz.prog W = .ok (decide (a = b)) W := fun t k a b ht => by
  rw [run_equalIn_int W (d + 2) t k k _ _ ht];refine congrArg (fun b => Result.ok b W) ?_;rw [Bool.eq_iff_iff];simp;omega
 rcases h1 with ⟨e1, e2⟩ | ⟨e1, e2⟩ | ⟨e1, e2⟩ | ⟨e1, e2⟩ <;> rw [e1, e2]
 ·exact ⟨_, _, ay Tryz.underlying5 (v := .int .u8 (p.kind : Int)) rfl W, ay Tryz.underlying5 (v := .int .u8 (q.kind : Int)) rfl W, hi _ _ _ _ Tryz.underlying5⟩
 ·exact ⟨_, _, ay Tryz.underlying23 (v := .int .u16 (p.links : Int)) rfl W, ay Tryz.underlying23 (v := .int .u16 (q.links : Int)) rfl W, hi _ _ _ _ Tryz.underlying23⟩
 ·exact ⟨_, _, ay Tryz.underlying24 (v := .int .u32 (p.size : Int)) rfl W, ay Tryz.underlying24 (v := .int .u32 (q.size : Int)) rfl W, hi _ _ _ _ Tryz.underlying24⟩
 ·refine ⟨_, _, sn _ _ W, sn _ _ W, ?_⟩
  rw [ue hp, ue hq];exact Fw d hp.root hq.root W
theorem ur (xs : Array Value) (off : Nat) (W : World) : (Go.part 68 xs off).run Tryz.prog W = .ok (.agg (xs.extract off (off + 44))) W := by
 obtain ⟨i, h1, h2⟩ := Option.map_eq_some_iff.1 mw;have a1 : (sizeOf 68).run Tryz.prog W = .ok 44 W := by simp [sizeOf, typeInfo, h1, h2]
 have a0 : (isAgg 68).run Tryz.prog W = .ok true W := by
  unfold isAgg;rw [Sem.run_bind, run_underlying Tryz.underlying68 W]; rfl
 unfold Go.part;simp only [Sem.run_bind, a0, Result.andThen_ok, a1, if_true];rfl
theorem K0 : Tryz.prog.cellsOf 68 = 44 := by kernel_rfl
theorem Dh (hu : Tryz.prog.underlying t = some (.array 4 68)) (h : BOK ns) (hk : ns[k]? = some p) (W : World) : (Instr.index t (.agg (ai ns).toArray) (.int .i64 (k : Int))).run Tryz.prog W = .ok (.agg (af p).toArray) W := by
 obtain ⟨i, h1, h2⟩ := Option.map_eq_some_iff.1 mw;have a1 : (sizeOf 68).run Tryz.prog W = .ok 44 W := by simp [sizeOf, typeInfo, h1, h2]
 obtain ⟨hl, _⟩ := List.getElem?_eq_some_iff.1 hk;rw [h.len] at hl;have h0 : (0 : Int) ≤ k := by omega
 have a0 : (k : Int) < (4 : Nat) := by omega
 have hx := Ct h.ok hk;unfold Instr.index;simp only [asIntOf, Sem.run_bind, Sem.run_pure, Result.andThen_ok, run_underlying hu W];rw [if_pos ⟨h0, a0⟩];simp only [Sem.run_bind, a1, Result.andThen_ok, ur, Int.toNat_natCast, hx]
theorem Fv (hu : Tryz.prog.underlying t = some (.array 4 68)) (h : BOK ns) (h' : BOK ms) (W : World) : (Op.equalIn 10000 t (.agg (ai ns).toArray) (.agg (ai ms).toArray)).run Tryz.prog W = .ok (decide (ns = ms)) W := by
 obtain ⟨i, h1, h2⟩ := Option.map_eq_some_iff.1 mw;rw [run_equalIn_array W 9999 _ _ hu h1, ← a0x h.len h'.len];refine m0 _ _ _ _ _ W _ _ (fun j hj => ?_);have a0 : j < 4 := List.mem_range.1 hj;obtain ⟨p, hp⟩ := h.get a0;obtain ⟨q, hq⟩ := h'.get a0;refine ⟨.agg (af p).toArray, .agg (af q).toArray, ?_, ?_, ?_⟩
 ·rw [ur, K0, Ct h.ok hp]
 ·rw [ur, K0, Ct h'.ok hq]
 ·rw [List.getD_eq_getElem?_getD, List.getD_eq_getElem?_getD, hp, hq]
  exact uz 9995 (h.at hp) (h'.at hq) W
section
variable {ρ : Operand → Value} {o : Oper} {x y : Operand} {w : World}
theorem et (hn : n.OK) (hB : Blk w g (af n) t') (ho : o.op = .load 68 x) (hx : ρ x = .pointer (some ⟨g, 0, none⟩)) : (execOp ρ o).run Tryz.prog w = .ok (.value (.agg (af n).toArray)) w :=
 c6 (ty := 68) (cs := af n) ho hx (d9 hB) Tryz.underlying68 rfl (by rw [mw, am hn])
theorem Xf (h : BOK ns) (hB : Blk w g (ai ns) t') (hk : ns[k]? = some p) (hoff : off = 44 * k) (ho : o.op = .load 68 x) (hx : ρ x = .pointer (some ⟨g, off, none⟩)) : (execOp ρ o).run Tryz.prog w = .ok (.value (.agg (af p).toArray)) w := by
 subst hoff;obtain ⟨e, hl⟩ := o9 h.ok hk;have hr := hB.rng _ _ _ e;rw [hl] at hr;exact c6 (ty := 68) (cs := af p) ho hx hr Tryz.underlying68 rfl (by rw [mw, am (h.at hk)])
theorem Rv (h : (Op.equalIn 10000 68 (.agg a) (.agg b)).run Tryz.prog w = .ok r w) (ho : o.op = .binOp .eql 68 x y 68) (hx : ρ x = .agg a) (hy : ρ y = .agg b) : (execOp ρ o).run Tryz.prog w = .ok (.value (.bool (r))) w := by
 have h' : (Op.equal 68 (.agg a) (.agg b)).run Tryz.prog w = .ok r w := h
 have hb : (binOp .eql 68 (.agg a) (.agg b)).run Tryz.prog w = .ok (.bool (r)) w := by
  show ((do pure (.bool ((← Op.equal 68 (.agg a) (.agg b)))) : Sem Value)).run Tryz.prog w = _;simp only [Sem.run_bind, h', Result.andThen_ok, Sem.run_pure]
 have hg : (eqGuard .eql 68 x y (.agg a) (.agg b)).run Tryz.prog w = .ok () w := by
  unfold eqGuard;go_simp
 unfold execOp;simp only [ho, hx, hy, Sem.run_bind, hg, hb, Result.andThen_ok, Sem.run_pure]
theorem Cm (h : n.OK) (h' : m.OK) (ho : o.op = .binOp .eql 68 x y 68) (hx : ρ x = .agg (af n).toArray) (hy : ρ y = .agg (af m).toArray) : (execOp ρ o).run Tryz.prog w = .ok (.value (.bool (eqI n m))) w := Rv (uz 9996 h h' w) ho hx hy
theorem S6 (h : (Op.equalIn 10000 68 (.agg a) (.agg b)).run Tryz.prog w = .ok r w) (ho : o.op = .binOp .neq 68 x y 68) (hx : ρ x = .agg a) (hy : ρ y = .agg b) : (execOp ρ o).run Tryz.prog w = .ok (.value (.bool (!r))) w := by
 have h' : (Op.equal 68 (.agg a) (.agg b)).run Tryz.prog w = .ok r w := h
 have hb : (binOp .neq 68 (.agg a) (.agg b)).run Tryz.prog w = .ok (.bool (!r)) w := by
  show ((do pure (.bool (!(← Op.equal 68 (.agg a) (.agg b)))) : Sem Value)).run Tryz.prog w = _;simp only [Sem.run_bind, h', Result.andThen_ok, Sem.run_pure]
 have hg : (eqGuard .neq 68 x y (.agg a) (.agg b)).run Tryz.prog w = .ok () w := by
  unfold eqGuard;go_simp
 unfold execOp;simp only [ho, hx, hy, Sem.run_bind, hg, hb, Result.andThen_ok, Sem.run_pure]
theorem Cr (h : n.OK) (h' : m.OK) (ho : o.op = .binOp .neq 68 x y 68) (hx : ρ x = .agg (af n).toArray) (hy : ρ y = .agg (af m).toArray) : (execOp ρ o).run Tryz.prog w = .ok (.value (.bool (!eqI n m))) w := S6 (uz 9996 h h' w) ho hx hy
theorem lc (ho : o.op = .build 68 #[]) : (execOp ρ o).run Tryz.prog w = .ok (.value (.agg (af zeroI).toArray)) w := by
 have hr : (Instr.build 68 #[]).run Tryz.prog w = .ok (.agg (af zeroI).toArray) w := run_build w 68 _ _ (by kernel_rfl);unfold execOp;simp only [ho];simp only [List.map_toArray, List.map_nil, Sem.run_bind, hr, Result.andThen_ok, Sem.run_pure]
theorem qh (hn : n.OK) (hB : Blk w g (af n) t') (ho : o.op = .load 28 x) (hx : ρ x = .pointer (some ⟨g, 3, none⟩)) : (execOp ρ o).run Tryz.prog w = .ok (.value (.agg (a8 n.root).toArray)) w := by
 have hr := hB.rng (m2 n) (a8 n.root) [] (by simp [af]);exact c6 (ty := 28) (cs := a8 n.root) ho hx hr Tryz.underlying28 rfl (by rw [dw, aa hn.root])
end
theorem V3 : (Tryz.prog.info? 62).map (·.size) = some 44 := by kernel_rfl
theorem G6 (h : n.OK) : (Tryz.prog.info? 62).map (·.size) = some (af n).toArray.size := by rw [List.size_toArray, am h]; exact V3
theorem Eo : (Tryz.prog.fieldsOf 62).toList.map (fun f => (f.type, f.offset)) = [(5, 0), (23, 1), (24, 2), (28, 3)] := by kernel_rfl
theorem Ye : ((Tryz.prog.fieldsOf 62).toList.all fun f => f.name != "_") = true := by kernel_rfl
theorem Fx (d : Nat) (hp : p.OK) (hq : q.OK) (W : World) : (Op.equalIn (d + 4) 62 (.agg (af p).toArray) (.agg (af q).toArray)).run Tryz.prog W = .ok (eqI p q) W := by
 rw [run_equalIn_struct W (d + 3) 62 _ _ (by kernel_rfl) (by kernel_rfl)]
 have e : eqI p q = (((Tryz.prog.fieldsOf 62).toList.map fun f => (f.type, f.offset)).all (K9 p q)) := by
  rw [Eo];simp [K9, eqI, Bool.and_assoc]
 rw [e];refine fi _ _ _ W _ _ (fun f hm => ⟨?_, ?_⟩)
 ·have := List.all_eq_true.1 Ye f hm
  simpa using this
 have h1 : (f.type, f.offset) ∈ (Tryz.prog.fieldsOf 62).toList.map (fun f => (f.type, f.offset)) := List.mem_map.2 ⟨f, hm, rfl⟩;rw [Eo] at h1;simp only [List.mem_cons, Prod.mk.injEq, List.not_mem_nil, or_false] at h1
 have hi : ∀ (t : TypeId) (k : IntKind) (a b : Nat), Tryz.prog.underlying t = some (.int k) → (Op.equalIn (d + 3) t (.int k (a : Int)) (.int k (b : Int))).run Tryz.prog W = .ok (decide (a = b)) W := fun t k a b ht => by
  rw [run_equalIn_int W (d + 2) t k k _ _ ht];refine congrArg (fun b => Result.ok b W) ?_;rw [Bool.eq_iff_iff];simp;omega
 rcases h1 with ⟨e1, e2⟩ | ⟨e1, e2⟩ | ⟨e1, e2⟩ | ⟨e1, e2⟩ <;> rw [e1, e2]
 ·exact ⟨_, _, ay Tryz.underlying5 (v := .int .u8 (p.kind : Int)) rfl W, ay Tryz.underlying5 (v := .int .u8 (q.kind : Int)) rfl W, hi _ _ _ _ Tryz.underlying5⟩
 ·exact ⟨_, _, ay Tryz.underlying23 (v := .int .u16 (p.links : Int)) rfl W, ay Tryz.underlying23 (v := .int .u16 (q.links : Int)) rfl W, hi _ _ _ _ Tryz.underlying23⟩
 ·exact ⟨_, _, ay Tryz.underlying24 (v := .int .u32 (p.size : Int)) rfl W, ay Tryz.underlying24 (v := .int .u32 (q.size : Int)) rfl W, hi _ _ _ _ Tryz.underlying24⟩
 ·refine ⟨_, _, sn _ _ W, sn _ _ W, ?_⟩
  rw [ue hp, ue hq];exact Fw d hp.root hq.root W
theorem Ws : Tryz.prog.cellsOf 62 = 44 := by kernel_rfl
section
variable {ρ : Operand → Value} {o : Oper} {x y : Operand} {w : World}
theorem Kl (hn : n.OK) (hB : Blk w g (af n) t') (ho : o.op = .load 62 x) (hx : ρ x = .pointer (some ⟨g, 0, none⟩)) : (execOp ρ o).run Tryz.prog w = .ok (.value (.agg (af n).toArray)) w :=
 c6 (ty := 62) (cs := af n) ho hx (d9 hB) Tryz.underlying62 rfl (by rw [V3, am hn])
theorem Rw (h : (Op.equalIn 10000 62 (.agg a) (.agg b)).run Tryz.prog w = .ok r w) (ho : o.op = .binOp .eql 62 x y 62) (hx : ρ x = .agg a) (hy : ρ y = .agg b) : (execOp ρ o).run Tryz.prog w = .ok (.value (.bool (r))) w := by
 have h' : (Op.equal 62 (.agg a) (.agg b)).run Tryz.prog w = .ok r w := h
 have hb : (binOp .eql 62 (.agg a) (.agg b)).run Tryz.prog w = .ok (.bool (r)) w := by
  show ((do pure (.bool ((← Op.equal 62 (.agg a) (.agg b)))) : Sem Value)).run Tryz.prog w = _;simp only [Sem.run_bind, h', Result.andThen_ok, Sem.run_pure]
 have hg : (eqGuard .eql 62 x y (.agg a) (.agg b)).run Tryz.prog w = .ok () w := by
  unfold eqGuard;go_simp
 unfold execOp;simp only [ho, hx, hy, Sem.run_bind, hg, hb, Result.andThen_ok, Sem.run_pure]
theorem Xc (h : n.OK) (h' : m.OK) (ho : o.op = .binOp .eql 62 x y 62) (hx : ρ x = .agg (af n).toArray) (hy : ρ y = .agg (af m).toArray) : (execOp ρ o).run Tryz.prog w = .ok (.value (.bool (eqI n m))) w := Rw (Fx 9996 h h' w) ho hx hy
theorem S7 (h : (Op.equalIn 10000 62 (.agg a) (.agg b)).run Tryz.prog w = .ok r w) (ho : o.op = .binOp .neq 62 x y 62) (hx : ρ x = .agg a) (hy : ρ y = .agg b) : (execOp ρ o).run Tryz.prog w = .ok (.value (.bool (!r))) w := by
 have h' : (Op.equal 62 (.agg a) (.agg b)).run Tryz.prog w = .ok r w := h
 have hb : (binOp .neq 62 (.agg a) (.agg b)).run Tryz.prog w = .ok (.bool (!r)) w := by
  show ((do pure (.bool (!(← Op.equal 62 (.agg a) (.agg b)))) : Sem Value)).run Tryz.prog w = _;simp only [Sem.run_bind, h', Result.andThen_ok, Sem.run_pure]
 have hg : (eqGuard .neq 62 x y (.agg a) (.agg b)).run Tryz.prog w = .ok () w := by
  unfold eqGuard;go_simp
 unfold execOp;simp only [ho, hx, hy, Sem.run_bind, hg, hb, Result.andThen_ok, Sem.run_pure]
theorem Xo (h : n.OK) (h' : m.OK) (ho : o.op = .binOp .neq 62 x y 62) (hx : ρ x = .agg (af n).toArray) (hy : ρ y = .agg (af m).toArray) : (execOp ρ o).run Tryz.prog w = .ok (.value (.bool (!eqI n m))) w := S7 (Fx 9996 h h' w) ho hx hy
theorem qg (ho : o.op = .build 62 #[]) : (execOp ρ o).run Tryz.prog w = .ok (.value (.agg (af zeroI).toArray)) w := by
 have hr : (Instr.build 62 #[]).run Tryz.prog w = .ok (.agg (af zeroI).toArray) w := run_build w 62 _ _ (by kernel_rfl);unfold execOp;simp only [ho];simp only [List.map_toArray, List.map_nil, Sem.run_bind, hr, Result.andThen_ok, Sem.run_pure]
theorem na (hn : n.OK) (hB : Blk w g (af n) t') (ho : o.op = .load 28 x) (hx : ρ x = .pointer (some ⟨g, 3, none⟩)) : (execOp ρ o).run Tryz.prog w = .ok (.value (.agg (a8 n.root).toArray)) w := by
 have hr := hB.rng (m2 n) (a8 n.root) [] (by simp [af]);exact c6 (ty := 28) (cs := a8 n.root) ho hx hr Tryz.underlying28 rfl (by rw [dw, aa hn.root])
end
theorem Iz : (Tryz.prog.info? 104).map (·.size) = some 176 := by kernel_rfl
theorem fa (h : BOK ns) : (Tryz.prog.info? 104).map (·.size) = some (ai ns).toArray.size := by rw [h.size]; exact Iz
theorem ig (h : BOK ns) : (Tryz.prog.info? 104).map (·.size) = some (ai ns).length := by rw [h.cells]; exact Iz
section
variable {ρ : Operand → Value} {o : Oper} {x y : Operand} {w : World}
theorem dp (h : BOK ns) (hB : Blk w g (ai ns) t') (ho : o.op = .load 104 x) (hx : ρ x = .pointer (some ⟨g, 0, none⟩)) : (execOp ρ o).run Tryz.prog w = .ok (.value (.agg (ai ns).toArray)) w :=
 c6 (ty := 104) (cs := ai ns) ho hx (d9 hB) Tryz.underlying104 rfl (by rw [Iz, h.cells])
theorem Kh {b : Nat} (hk : k < 4) (ho : o.op = .indexAddr 104 x y) (hx : ρ x = .pointer (some ⟨b, 0, none⟩)) (hy : ρ y = .int .i64 (k : Int)) : (execOp ρ o).run Tryz.prog w = .ok (.value (.pointer (some ⟨b, k * 44, none⟩))) w := by
 have h1 : ¬ (4 : Int) ≤ (k : Int) := by omega
 have h2 : (k : Int) < 4 := by omega
 unfold execOp;simp only [ho];go_simp
theorem Kn (h : BOK ns) (h' : BOK ms) (ho : o.op = .binOp .neq 104 x y 104) (hx : ρ x = .agg (ai ns).toArray) (hy : ρ y = .agg (ai ms).toArray) : (execOp ρ o).run Tryz.prog w = .ok (.value (.bool (!decide (ns = ms)))) w := by
 have h := Fv Tryz.underlying104 h h' w;unfold execOp;simp only [ho];go_simp
theorem yi (h : BOK ns) (h' : BOK ms) (ho : o.op = .binOp .eql 104 x y 104) (hx : ρ x = .agg (ai ns).toArray) (hy : ρ y = .agg (ai ms).toArray) : (execOp ρ o).run Tryz.prog w = .ok (.value (.bool (decide (ns = ms)))) w := by
 have h := Fv Tryz.underlying104 h h' w;unfold execOp;simp only [ho];go_simp
theorem ju (ho : o.op = .build 104 #[]) : (execOp ρ o).run Tryz.prog w = .ok (.value (.agg (ai zeros4).toArray)) w := by
 have hr : (Instr.build 104 #[]).run Tryz.prog w = .ok (.agg (ai zeros4).toArray) w := run_build w 104 _ _ (by kernel_rfl);unfold execOp;simp only [ho];simp only [List.map_toArray, List.map_nil, Sem.run_bind, hr, Result.andThen_ok, Sem.run_pure]
end
section
variable {ρ : Operand → Value} {o : Oper} {x y : Operand} {w : World}
end
theorem py {B g : Nat} {w0 : World} : ∀ (vs : List Value) (o : Nat) (w : World), Below B w0 w → B ≤ g → Below B w0 (w.setCells g o vs)
 | [], _, _, h, _ => h
 | v :: vs, o, w, h, hg => py vs (o + 1) _ (h.trans ⟨rfl, rfl, rfl, by simp, fun k hk => heap_setCell_other w ⟨g, o, none⟩ k v (by simp; omega)⟩) hg
theorem E5 {w : World} (h : BOK ns) (hB : Blk w g (ai ns) t) (hk : k < 4) (ho : off = 44 * k) (hq : q.OK) : Blk (w.setCells g off (af q)) g (ai (ns.set k q)) t := by
 subst ho;have h1 := fg g t (af q) (44 * k) w _ hB (by rw [h.cells, am hq]; omega);have h2 := H8 h.ok (k := k) (by rw [h.len]; exact hk) hq;unfold splice at h2;rw [List.append_assoc, h2] at h1;exact h1
theorem ef {fn : Func} {p u : Tmp} {ty e n : Nat} (h : fn.results = #[.cell p ty, .tmp u]) (tmps : Array Value) (w : World) (g t : Nat) (cs : List Value)
  (hp : tmps.getD p undef = .pointer (some ⟨g, 0, none⟩)) (hg : Blk w g cs t) (hu : Tryz.prog.underlying ty = some (.array n e)) (hi : (Tryz.prog.info? ty).map (·.size) = some cs.length) :
  (results fn tmps).run Tryz.prog w = .ok (.tuple #[.agg cs.toArray, tmps.getD u undef]) w := by
 rw [results_cell_tmp h, hp];simp only [asAddr, Sem.run_pure, Result.andThen_ok, run_loadVar_row w g t ty cs.toArray (0, 0) _ hg hu rfl (by simpa using hi)]
theorem jv {ρ : Operand → Value} {o : Oper} {x y : Operand} {p q : Pt} {w : World} (hz : eqP p q = z) (ho : o.op = .binOp .eql 28 x y 28) (hx : ρ x = .agg (a8 p).toArray) (hy : ρ y = .agg (a8 q).toArray) (hp : p.OK) (hq : q.OK) : (execOp ρ o).run Tryz.prog w = .ok (.value (.bool z)) w := hz ▸ tg ho hx hy hp hq
theorem Xa {ρ : Operand → Value} {o : Oper} {x y : Operand} {w : World} (hz : eqI p q = z) (ho : o.op = .binOp .eql 68 x y 68) (hx : ρ x = .agg (af p).toArray) (hy : ρ y = .agg (af q).toArray) (hp : p.OK) (hq : q.OK) : (execOp ρ o).run Tryz.prog w = .ok (.value (.bool z)) w := hz ▸ Cm hp hq ho hx hy
theorem ua {ρ : Operand → Value} {o : Oper} {x y : Operand} {w : World} (hz : eqI p q = z) (ho : o.op = .binOp .eql 62 x y 62) (hx : ρ x = .agg (af p).toArray) (hy : ρ y = .agg (af q).toArray) (hp : p.OK) (hq : q.OK) : (execOp ρ o).run Tryz.prog w = .ok (.value (.bool z)) w := hz ▸ Xc hp hq ho hx hy
set_option maxRecDepth 100000 in
set_option maxHeartbeats 4000000 in
theorem It (n : Ino) (h : n.OK) (w : World) (hT : RTab w) : Calls Tryz.prog 87 #[.agg (af n).toArray] w fun e w' => e = .returned (.bool (me n.root)) ∧ Below w.heap.size w w' := by
 have HN := zH h; have a0 := zH h.root;have HB := zH (Blk.new w (af n) 68);have HW : Hid (Below w.heap.size w (w.alloc (.cells (af n).toArray 68))) := zH ((Below.refl _ _).alloc (Nat.le_refl _) _);have HT := zH (hT.alloc (.cells (af n).toArray 68));obtain ⟨b, hb⟩ : ∃ b, me n.root = b := ⟨_, rfl⟩;have a3 := zH hb;rw [hb];generalize hPost : (fun e w' => e = Ending.returned (.bool b) ∧ Below w.heap.size w w') = Post;have HP : Hid (∀ w', Below w.heap.size w w' → Post (.returned (.bool b)) w') := zH fun w' h => by rw [← hPost]; exact ⟨rfl, h⟩
 clear h hT hb hPost;go_enter Tryz.func87, Tryz.ntmps87
 go_upto_region 1 with fail
 obtain ⟨G, hG⟩ : ∃ G, w.heap.size = G := ⟨_, rfl⟩;rw [hG] at HB ⊢;generalize (w.alloc (.cells (af n).toArray 68)) = W at HB HW HT ⊢;have c3 := HB.out.cell (j := 3) rfl;have c4 := HB.out.cell (j := 4) rfl;obtain ⟨kk, a1⟩ : ∃ k, n.root.kind = k := ⟨_, rfl⟩;obtain ⟨ll, a2⟩ : ∃ k, n.root.level = k := ⟨_, rfl⟩;rw [a1] at c3;rw [a2] at c4;have HK := zH a1; have a5 := zH a2;clear a1 a2 hG;cases hz : eqP n.root zeroP
 ·have HZ := zH hz
  clear hz;have HV : Hid (b = (decide (kk = 3) && decide (ll = 2) && fz n.root)) := zH (by rw [← a3.out]; unfold me; rw [HZ.out, HK.out, a5.out]; rfl);by_cases h3 : kk = 3
  ·subst h3
   by_cases h2 : ll = 2
   ·subst h2
    have hv := HV.out;simp only [decide_true, Bool.true_and] at hv;subst hv
    go_wp2_with (first | (refine aq (by rfl) (qh HN.out HB.out rfl rfl) ?_) | (refine aq (by rfl) (bj rfl) ?_) | (refine aq (by rfl) (jv HZ.out rfl rfl rfl a0.out ak) ?_) | fail)
    refine (sf n.root a0.out W HT.out).mono ?_;rintro e w2 ⟨rfl, a4⟩;have HE := zH (HP.out _ (HW.out.trans (a4.mono HW.out.size)));clear a4
    go_wp2_with fail
    first | exact HE.out | (go_ret; exact HE.out)
   ·have hv := HV.out
    rw [decide_eq_false h2] at hv;simp only [Bool.and_false, Bool.false_and] at hv;subst hv;have i2 : ¬ (ll : Int) = 2 := (by omega);have HE := zH (HP.out _ HW.out)
    go_wp2_with (first | (refine aq (by rfl) (qh HN.out HB.out rfl rfl) ?_) | (refine aq (by rfl) (bj rfl) ?_) | (refine aq (by rfl) (jv HZ.out rfl rfl rfl a0.out ak) ?_) | fail)
    first | exact HE.out | (go_ret; exact HE.out)
  ·have hv := HV.out
   rw [decide_eq_false h3] at hv;simp only [Bool.false_and] at hv;subst hv;have i3 : ¬ (kk : Int) = 3 := (by omega);have HE := zH (HP.out _ HW.out)
   go_wp2_with (first | (refine aq (by rfl) (qh HN.out HB.out rfl rfl) ?_) | (refine aq (by rfl) (bj rfl) ?_) | (refine aq (by rfl) (jv HZ.out rfl rfl rfl a0.out ak) ?_) | fail)
   first | exact HE.out | (go_ret; exact HE.out)
 ·have HZ := zH hz
  have hv : b = true := (by rw [← a3.out]; unfold me; rw [hz]; rfl);clear hz;subst hv;have HE := zH (HP.out _ HW.out)
  go_wp2_with (first | (refine aq (by rfl) (qh HN.out HB.out rfl rfl) ?_) | (refine aq (by rfl) (bj rfl) ?_) | (refine aq (by rfl) (jv HZ.out rfl rfl rfl a0.out ak) ?_) | fail)
  first | exact HE.out | (go_ret; exact HE.out)
theorem P2 (h : n.kind = 3) : ij n = (decide (1 ≤ n.size) && decide (n.size ≤ 128) && me n.root) := by
 have hz : eqI n zeroI = false := by
  rw [Bool.eq_false_iff];intro e;rw [ir.1 e] at h;cases h
 unfold ij;rw [hz, h];by_cases h1 : 1 ≤ n.size
 ·by_cases h2 : n.size ≤ 128
  ·have h3 : n.size ≤ 32768 := by omega
   simp [h1, h2, h3]
  ·simp [h2]
 ·simp [h1]
theorem Ya (h : n.kind = 1 ∨ n.kind = 2) : ij n = (decide (n.size ≤ 32768) && me n.root) := by
 have hz : eqI n zeroI = false := by
  rw [Bool.eq_false_iff];intro e;rw [ir.1 e] at h;rcases h with h | h <;> cases h
 unfold ij;have h3 : 1 ≤ n.kind ∧ n.kind ≤ 3 := by omega
 have h4 : ¬ n.kind = 3 := by omega
 rw [hz];simp [h3, h4]
theorem I8 (h : n.kind < 1 ∨ 3 < n.kind) : ij n = eqI n zeroI := by
 unfold ij;have h3 : ¬ (1 ≤ n.kind ∧ n.kind ≤ 3) := by omega
 rw [decide_eq_false h3];simp
set_option maxRecDepth 100000 in
set_option maxHeartbeats 4000000 in
theorem zm (n : Ino) (h : n.OK) (w : World) (hT : RTab w) : Calls Tryz.prog 64 #[.agg (af n).toArray] w fun e w' => e = .returned (.bool (ij n)) ∧ Below w.heap.size w w' := by
 have HN := zH h;have HB := zH (Blk.new w (af n) 68);have HW : Hid (Below w.heap.size w (w.alloc (.cells (af n).toArray 68))) := zH ((Below.refl _ _).alloc (Nat.le_refl _) _);have HT := zH (hT.alloc (.cells (af n).toArray 68));obtain ⟨b, hb⟩ : ∃ b, ij n = b := ⟨_, rfl⟩;have a5 := zH hb;rw [hb];generalize hPost : (fun e w' => e = Ending.returned (.bool b) ∧ Below w.heap.size w w') = Post;have HP : Hid (∀ c, b = c → ∀ w', Below w.heap.size w w' → Post (.returned (.bool c)) w') := zH fun c hc w' h => by rw [← hPost, hc]; exact ⟨rfl, h⟩
 clear h hT hb hPost;go_enter Tryz.func64, Tryz.ntmps64
 go_upto_region 1 with fail
 obtain ⟨G, hG⟩ : ∃ G, w.heap.size = G := ⟨_, rfl⟩;rw [hG] at HB ⊢;generalize (w.alloc (.cells (af n).toArray 68)) = W at HB HW HT ⊢;have c0 := HB.out.cell (j := 0) rfl;have c2 := HB.out.cell (j := 2) rfl;have HC : Hid (∀ {w2}, Below W.heap.size W w2 → Below w.heap.size w w2) := zH (fun hb => HW.out.trans (hb.mono HW.out.size));have a0 := zH (It n HN.out W HT.out);have a3 : Hid (n.kind = 3 → b = (decide (1 ≤ n.size) && decide (n.size ≤ 128) && me n.root)) := zH (fun h => a5.out.symm.trans (P2 h));have a4 : Hid (n.kind = 1 ∨ n.kind = 2 → b = (decide (n.size ≤ 32768) && me n.root)) := zH (fun h => a5.out.symm.trans (Ya h));have a6 : Hid (n.kind < 1 ∨ 3 < n.kind → b = eqI n zeroI) := zH (fun h => a5.out.symm.trans (I8 h));obtain ⟨kk, a7⟩ : ∃ k, n.kind = k := ⟨_, rfl⟩;obtain ⟨ss, a9⟩ : ∃ k, n.size = k := ⟨_, rfl⟩;rw [a7] at c0 a3 a4 a6;rw [a9] at c2 a3 a4;obtain ⟨rr, a8⟩ : ∃ r, me n.root = r := ⟨_, rfl⟩;rw [a8] at a3 a4 a0;clear a7 a9 hG a8;by_cases h3 : kk = 3
 ·have HV := zH (a3.out h3)
  clear a3 a4 a6;subst h3;by_cases s1 : ss < 1
  ·have hv : b = false := by rw [HV.out, decide_eq_false (by omega)]; rfl
   have HE := zH (HP.out _ hv _ HW.out);have i1 : (ss : Int) < 1 := (by omega);clear HV hv s1 a0
   go_wp2_with fail
   first | exact HE.out | (go_ret; exact HE.out)
  ·have i1 : ¬ (ss : Int) < 1 := by omega
   have aa : decide ((ss : Int) < 1) = false := decide_eq_false i1;by_cases s2 : 128 < ss
   ·have hv : b = false := by rw [HV.out, decide_eq_false (by omega : ¬ ss ≤ 128)]; simp
    have HE := zH (HP.out _ hv _ HW.out);have i2 : (128 : Int) < (ss : Int) := (by omega);clear HV hv s1 s2 a0
    go_wp2_with fail
    first | exact HE.out | (go_ret; exact HE.out)
   ·have hv : b = rr := by rw [HV.out, decide_eq_true (by omega), decide_eq_true (by omega)]; rfl
    have i2 : ¬ (128 : Int) < (ss : Int) := (by omega);have ab : decide ((128 : Int) < (ss : Int)) = false := decide_eq_false i2;have i3 : (ss : Int) ≤ 32768 := (by omega);have a2 := zH hv;clear HV hv s1 s2
    go_wp2_with (first | (refine aq (by rfl) (et HN.out HB.out rfl rfl) ?_) | fail)
    refine a0.out.mono ?_;rintro e w2 ⟨rfl, a1⟩;have HE := zH (HP.out _ a2.out _ (HC.out a1));clear a1 a0 a2 a5
    go_wp2_with fail
    first | exact HE.out | (go_ret; exact HE.out)
 ·have j3 : ¬ (kk : Int) = 3 := by omega
  by_cases h12 : kk = 1 ∨ kk = 2
  ·have HV := zH (a4.out h12)
   clear a3 a4 a6 h3;by_cases s1 : 32768 < ss
   ·have hv : b = false := by rw [HV.out, decide_eq_false (by omega)]; rfl
    have HE := zH (HP.out _ hv _ HW.out);have i1 : ¬ (ss : Int) ≤ 32768 := (by omega);have aa : decide ((ss : Int) ≤ 32768) = false := decide_eq_false i1;clear HV hv s1 a0;rcases h12 with h | h
    ·subst h
     go_wp2_with fail
     first | exact HE.out | (go_ret; exact HE.out)
    ·subst h
     go_wp2_with fail
     first | exact HE.out | (go_ret; exact HE.out)
   ·have hv : b = rr := by rw [HV.out, decide_eq_true (by omega)]; rfl
    have i3 : (ss : Int) ≤ 32768 := (by omega);have a2 := zH hv;clear HV hv s1;rcases h12 with h | h
    ·subst h
     go_wp2_with (first | (refine aq (by rfl) (et HN.out HB.out rfl rfl) ?_) | fail)
     refine a0.out.mono ?_;rintro e w2 ⟨rfl, a1⟩;have HE := zH (HP.out _ a2.out _ (HC.out a1));clear a1 a0 a2 a5
     go_wp2_with fail
     first | exact HE.out | (go_ret; exact HE.out)
    ·subst h
     go_wp2_with (first | (refine aq (by rfl) (et HN.out HB.out rfl rfl) ?_) | fail)
     refine a0.out.mono ?_;rintro e w2 ⟨rfl, a1⟩;have HE := zH (HP.out _ a2.out _ (HC.out a1));clear a1 a0 a2 a5
     go_wp2_with fail
     first | exact HE.out | (go_ret; exact HE.out)
  ·have j1 : ¬ (kk : Int) = 1 := by omega
   have j2 : ¬ (kk : Int) = 2 := (by omega);have HV := zH (a6.out (by omega));have HZ : Hid (eqI n zeroI = b) := zH HV.out.symm;have HE := zH (HP.out _ rfl _ HW.out);clear a3 a4 a6 h3 h12 HV a0 a5
   go_wp2_with (first | (refine aq (by rfl) (et HN.out HB.out rfl rfl) ?_) | (refine aq (by rfl) (lc rfl) ?_) | (refine aq (by rfl) (Xa HZ.out rfl rfl rfl HN.out zeroI_ok) ?_) | fail)
   first | exact HE.out | (go_ret; exact HE.out)
theorem Cv (off : Nat) (vs : List Value) (cs : Array Value) (h : off + vs.length ≤ cs.size) : (vs.zipIdx 0).foldl (fun cs (x : Value × Nat) => cs.setIfInBounds (off + x.2) x.1) cs = (splice cs.toList off vs).toArray := by
 obtain ⟨h1, h2⟩ := Go.Great.foldl_set off vs 0 cs;apply Array.ext_getElem?;intro k;rw [h2 k];simp only [List.getElem?_toArray, splice, Nat.add_zero];by_cases hk : k < off
 ·rw [if_neg (by omega), List.getElem?_append_left (by simp; omega), List.getElem?_take, if_pos hk]
  simp
 ·rw [List.getElem?_append_right (by simp; omega)]
  have e : (cs.toList.take off).length = off := (by simp; omega);rw [e];by_cases hk2 : k < off + vs.length
  ·rw [if_pos (by omega), List.getElem?_append_left (by omega)]
  ·rw [if_neg (by omega), List.getElem?_append_right (by omega), List.getElem?_drop]
   rw [show off + vs.length + (k - off - vs.length) = k by omega];simp
theorem oj {pl : Array (Nat × Nat)} {cells : Array Value} {i size : Nat} {v : Value} (hp : pl[i]? = some (off, size)) (hv : v.cells.size = size) (hle : off + size ≤ cells.size) (rest : List (Nat × Value)) :
  Instr.fill (pl[·]?) cells ((i, v) :: rest) = Instr.fill (pl[·]?) (splice cells.toList off v.cells.toList).toArray rest := by
 have hf := Cv off v.cells.toList cells (by simp; omega)
 conv => lhs; unfold Instr.fill
 simp only [hp];rw [if_neg (by simp [hv]; omega)];congr 1;rw [← hf];rw [← Array.foldl_toList];simp
theorem a0b (parts : List (Nat × Value)) : Tryz.prog.built 68 parts = Instr.fill ((#[(0, 1), (1, 1), (2, 1), (3, 41)] : Array (Nat × Nat))[·]?) (af zeroI).toArray parts := by kernel_rfl
theorem Wv {ρ : Operand → Value} {o : Oper} {x y z u : Operand} {w : World} (hn : n.OK) (ho : o.op = .build 68 #[(0, x), (1, y), (2, z), (3, u)]) (hx : ρ x = .int .u8 (n.kind : Int)) (hy : ρ y = .int .u16 (n.links : Int)) (hz : ρ z = .int .u32 (n.size : Int)) (hu : ρ u = .agg (a8 n.root).toArray) : (execOp ρ o).run Tryz.prog w = .ok (.value (.agg (af n).toArray)) w := by
 have hl := aa hn.root;have a1 : (af zeroI).toArray.size = 44 := by rw [List.size_toArray]; exact am zeroI_ok
 have a0 : ∀ (a b c : Value), ([a, b, c] ++ a8 zeroP).toArray.size = 44 := fun a b c => by rw [List.size_toArray, List.length_append, aa ak]; rfl
 have hr : (Instr.build 68 #[(0, .int .u8 (n.kind : Int)), (1, .int .u16 (n.links : Int)), (2, .int .u32 (n.size : Int)), (3, .agg (a8 n.root).toArray)]).run Tryz.prog w = .ok (.agg (af n).toArray) w := run_build w 68 _ _ (by
  rw [a0b];show Instr.fill _ _ [(0, .int .u8 (n.kind : Int)), (1, .int .u16 (n.links : Int)), (2, .int .u32 (n.size : Int)), (3, .agg (a8 n.root).toArray)] = _;rw [oj (i := 0) (off := 0) (size := 1) rfl rfl (by rw [a1]; omega)];have e1 : splice (af zeroI).toArray.toList 0 (Value.int .u8 (n.kind : Int)).cells.toList = ([.int .u8 (n.kind : Int), .int .u16 0, .int .u32 0] : List Value) ++ a8 zeroP := rfl;rw [e1, oj (i := 1) (off := 1) (size := 1) rfl rfl (by rw [a0]; omega)];have e2 : splice (([.int .u8 (n.kind : Int), .int .u16 0, .int .u32 0] : List Value) ++ a8 zeroP).toArray.toList 1 (Value.int .u16 (n.links : Int)).cells.toList = ([.int .u8 (n.kind : Int), .int .u16 (n.links : Int), .int .u32 0] : List Value) ++ a8 zeroP := rfl;rw [e2, oj (i := 2) (off := 2) (size := 1) rfl rfl (by rw [a0]; omega)];have e3 : splice (([.int .u8 (n.kind : Int), .int .u16 (n.links : Int), .int .u32 0] : List Value) ++ a8 zeroP).toArray.toList 2 (Value.int .u32 (n.size : Int)).cells.toList = m2 n ++ a8 zeroP := rfl;rw [e3, oj (i := 3) (off := 3) (size := 41) rfl (by simp [Value.cells, hl]) (by unfold m2; rw [a0]; omega)]
  have e4 : splice (m2 n ++ a8 zeroP).toArray.toList 3 (Value.agg (a8 n.root).toArray).cells.toList = af n := by
   unfold splice;show (m2 n ++ a8 zeroP).take 3 ++ a8 n.root ++ (m2 n ++ a8 zeroP).drop (3 + (a8 n.root).length) = m2 n ++ a8 n.root;rw [List.take_left' (by rfl), List.drop_of_length_le (by simp [hl, aa ak, m2]), List.append_nil]
  rw [e4]
  rfl)
 unfold execOp;simp only [ho];rw [show (Array.map (fun x : Nat × Operand => (x.1, ρ x.2)) #[(0, x), (1, y), (2, z), (3, u)]) = #[(0, .int .u8 (n.kind : Int)), (1, .int .u16 (n.links : Int)), (2, .int .u32 (n.size : Int)), (3, .agg (a8 n.root).toArray)] by simp [hx, hy, hz, hu]];simp only [Sem.run_bind, hr, Result.andThen_ok, Sem.run_pure]
structure OfW (n : Ino) (w W : World) : Prop where
 a : Blk W w.heap.size (af n) 62
 r : Blk W (w.heap.size + 1) (af zeroI) 68
 b : Below w.heap.size w W
end Go.Proofs.YtjgjohdeeeoeoaaGreatDoor
