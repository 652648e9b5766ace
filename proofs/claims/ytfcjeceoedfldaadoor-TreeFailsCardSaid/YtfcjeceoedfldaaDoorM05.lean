/- Pointers in memory; operations on them, each by its value; what a kind asks. -/
import Derived.Test.YtfcjeceoedfldaaDoorM04
import Derived.Deep.MidRow
import Derived.Maps.AppendAt
import Derived.Stop.BytesEq
import Derived.ChangeKeysEq
import Derived.RangeFuncNested
import Derived.RangeFuncBound
import Derived.RangeFuncCalls
import Derived.RangeFuncLeaves
import Derived.Shelf.Abstract
import Derived.Shelf.RegionOpen
import Derived.OwnWalkIn
import Derived.TacticsInMore
import Derived.LoopNIn
import Derived.LoopIn
namespace Go.Proofs.YtfcjeceoedfldaaDoor
open Go.RowKit

section
variable {ops : Array Oper} {Q : Exit → Act → World → Prop} {S : World → Prop}
/-- It makes memory. -/
theorem wpG_mk {i : Nat} {r : Tr} {a : Act} {w : World} (o : Oper) (hi : ops.toList[i]? = some o) (hw : Region.wanted o (yielded ops a.tmps) = true) (v : Value) (w1 : World) (hrun : (execOp a.eval o).run Tryd.prog w = .ok (.value v) w1)
    (S' : World → Prop) (hS : S' w1) (hSS : ∀ w, S' w → S w) (h : wpG Tryd.prog ops Q r S' (a.put o.dst v) w1) : wpG Tryd.prog ops Q (.step i r) S a w := by
  show wpOp Tryd.prog ops Q i _ a w
  unfold wpOp
  simp only [of_list hi]
  rw [if_pos hw]
  refine .inl ?_
  unfold Oper.wp
  rw [hrun]
  exact ⟨hSS _ hS, S', hSS, hS, h⟩
end
theorem wpL_val {ops : Array Oper} {rest : List Oper} {o : Oper} {a : Act} {Q : Exit → Act → World → Prop} {w w' : World} {v : Value} (hg : o.guard = none) (hrun : (execOp a.eval o).run Tryd.prog w = .ok (.value v) w')
    (hK : wpList Tryd.prog ops Q rest (a.put o.dst v) w') : wpList Tryd.prog ops Q (o :: rest) a w := by
  refine wpList_plain hg fun K' hK' => ?_
  unfold Oper.wp
  rw [hrun]
  exact hK' _ _ hK
theorem ex_ld {ρ : Operand → Value} {o : Oper} {x : Operand} {ty : TypeId} {b off : Nat} {cs : List Value} {d : TypeDesc} {w : World} (ho : o.op = .load ty x) (hx : ρ x = .pointer (some ⟨b, off, none⟩)) (hc : w.rangeAt b off cs) (hu : Tryd.prog.underlying ty = some d) (hd : d.isRow = true) (hi : (Tryd.prog.info? ty).map (·.size) = some cs.length) : (execOp ρ o).run Tryd.prog w = .ok (.value (.agg cs.toArray)) w := by
  have hr := run_loadAt_mid (P := Tryd.prog) w b off ty cs d hc hu hd hi
  unfold execOp
  simp only [ho, hx]
  simp only [Sem.run_bind, hr, Result.andThen_ok, Sem.run_pure]
theorem sizeP : (Tryd.prog.info? 37).map (·.size) = some 41 := by kernel_rfl
theorem sizeAts : (Tryd.prog.info? 35).map (·.size) = some 4 := by kernel_rfl
theorem sizeA32 : (Tryd.prog.info? 34).map (·.size) = some 32 := by kernel_rfl
theorem sizeU16 : (Tryd.prog.info? 31).map (·.size) = some 1 := by kernel_rfl
theorem sizeRule : (Tryd.prog.info? 82).map (·.size) = some 3 := by kernel_rfl
theorem ex_faP {ρ : Operand → Value} {o : Oper} {x : Operand} {g : Nat} {w : World} (j k : Nat) (hj : (j = 0 ∧ k = 0) ∨ (j = 1 ∧ k = 1) ∨ (j = 2 ∧ k = 2) ∨ (j = 3 ∧ k = 3) ∨ (j = 4 ∧ k = 4) ∨ (j = 5 ∧ k = 5) ∨ (j = 6 ∧ k = 37)) (ho : o.op = .fieldAddr 37 x j) (hx : ρ x = .pointer (some ⟨g, 0, none⟩)) : (execOp ρ o).run Tryd.prog w = .ok (.value (.pointer (some ⟨g, k, none⟩))) w := by
  unfold execOp
  simp only [ho]
  rcases hj with ⟨rfl, rfl⟩ | ⟨rfl, rfl⟩ | ⟨rfl, rfl⟩ | ⟨rfl, rfl⟩ | ⟨rfl, rfl⟩ | ⟨rfl, rfl⟩ | ⟨rfl, rfl⟩ <;> go_simp
theorem isAgg_int {t : TypeId} {k : IntKind} (h : Tryd.prog.underlying t = some (.int k)) (W : World) : (isAgg t).run Tryd.prog W = .ok false W := by
  unfold isAgg
  rw [Sem.run_bind, run_underlying h W]; rfl
theorem isAgg_arr {t e : TypeId} {n : Nat} (h : Tryd.prog.underlying t = some (.array n e)) (W : World) : (isAgg t).run Tryd.prog W = .ok true W := by
  unfold isAgg
  rw [Sem.run_bind, run_underlying h W]; rfl
theorem ex_ld1 {ρ : Operand → Value} {o : Oper} {x : Operand} {ad : Addr} {v : Value} {w : World} {ty : TypeId} {k : IntKind} (hu : Tryd.prog.underlying ty = some (.int k)) (ho : o.op = .load ty x) (hx : ρ x = .pointer (some ad)) (hc : w.cell? ad = some v) : (execOp ρ o).run Tryd.prog w = .ok (.value v) w := by
  have h := isAgg_int hu w
  unfold execOp
  simp only [ho]
  go_simp
theorem ex_slH {ρ : Operand → Value} {o : Oper} {x : Operand} {b : Nat} {w : World} (ho : o.op = .slice 34 x none none none) (hx : ρ x = .pointer (some ⟨b, 5, none⟩)) : (execOp ρ o).run Tryd.prog w = .ok (.value (.slice (some ⟨b, 5, none⟩) 32 32)) w := by
  unfold execOp
  simp only [ho]
  go_simp
theorem ex_appB {ρ : Operand → Value} {o : Oper} {x y : Operand} {v u v' : Value} {w w' : World} (ho : o.op = .call { callee := .builtin .append, args := #[x, y], argTypes := #[41, 41] }) (hx : ρ x = v) (hy : ρ y = u)
    (hr : (Builtin.append_ #[41, 41] o.type #[v, u]).run Tryd.prog w = .ok v' w') : (execOp ρ o).run Tryd.prog w = .ok (.value v') w' := by
  unfold execOp
  simp only [ho, resolve, invoke, builtin, Sem.run_bind, Sem.run_pure, Result.andThen_ok, List.map_toArray, List.map_cons, List.map_nil, hx, hy, hr]
/-- Bytes more. -/
theorem ownB_app {w : World} {B : Nat} {v : Value} {l m : Bs} (h : OwnB w B v l) (hB : B ≤ w.heap.size) (hl : l.length + m.length ≤ 1000000) {g off c : Nat} (hsrc : w.rangeAt g off (m.map V8)) (ty : TypeId) :
    ∃ v' w', (Builtin.append_ #[41, 41] ty #[v, .slice (some ⟨g, off, none⟩) m.length c]).run Tryd.prog w = .ok v' w' ∧ OwnB w' B v' (l ++ m) ∧ Below B w w' := by
  obtain ⟨i0, hi, hz0, hz1, hz2⟩ := info_parts infoB
  obtain ⟨v', w', hr, h2, h3, _, h5⟩ := run_append_own_at (P := Tryd.prog) w B 41 ty 5 i0 (.int .u8 0) 1 1 Tryd.underlying41 hi hz0 hz1 hz2 rfl (by decide) v l.length (l.map V8) h ⟨g, off, none⟩ m.length c (m.map V8) (by simp) (fun j u hj => by rw [Addr.add_mid]; exact hsrc j u hj) (one_v8 m) (by unfold maxLen; omega) (by omega) hB
  refine ⟨v', w', hr, ?_, (Below.refl _ _).grown h3 hB (fun k hk => (h.lt k hk).1)⟩
  unfold OwnB
  rw [List.map_append, List.length_append]
  exact h2
theorem Blk.rng {w : World} {g : Nat} {cs : List Value} {t : TypeId} (h : Blk w g cs t) (A M Z : List Value) (e : cs = A ++ (M ++ Z)) : w.rangeAt g A.length M := h.range _ _ fun j v hv => by
  subst e
  have hj := (List.getElem?_eq_some_iff.1 hv).1
  rw [List.getElem?_append_right (by omega), List.getElem?_append_left (by omega)]
  rw [show A.length + j - A.length = j by omega]
  exact hv
theorem rng_hash {w : World} {g : Nat} {p : Pt} {t : TypeId} (h : Blk w g (pcells p) t) : w.rangeAt g 5 (p.hash.map V8) := h.rng (pnums p) (p.hash.map V8) (p.ats.map U16) rfl
theorem rng_ats {w : World} {g : Nat} {p : Pt} {t : TypeId} (h : Blk w g (pcells p) t) (hp : p.hash.length = 32) : w.rangeAt g 37 (p.ats.map U16) := by
  have := h.rng (pnums p ++ p.hash.map V8) (p.ats.map U16) [] (by simp [pcells])
  simpa [hp, pnums] using this
theorem rng_all {w : World} {g : Nat} {cs : List Value} {t : TypeId} (h : Blk w g cs t) : w.rangeAt g 0 cs := h.range _ _ fun j v hv => by simpa using hv
theorem cell_hash {w : World} {g : Nat} {p : Pt} {t : TypeId} (h : Blk w g (pcells p) t) {k : Nat} {x : BitVec 8} (hx : p.hash[k]? = some x) : w.cell? ⟨g, 5 + k, none⟩ = some (V8 x) := rng_hash h k (V8 x) (by simp [hx])
theorem cell_ats {w : World} {g : Nat} {p : Pt} {t : TypeId} (h : Blk w g (pcells p) t) (hp : p.hash.length = 32) {k x : Nat} (hx : p.ats[k]? = some x) : w.cell? ⟨g, 37 + k, none⟩ = some (.int .u16 (x : Int)) := rng_ats h hp k (.int .u16 (x : Int)) (by simp [hx, U16])

/-! Equality. -/
theorem eqFields_dec (d : Nat) (xs ys : Array Value) (W : World) (B : TypeId × Nat → Bool) : ∀ fs : List Field, (∀ f ∈ fs, f.name ≠ "_" ∧ ∃ x y, (Go.part f.type xs f.offset).run Tryd.prog W = .ok x W ∧ (Go.part f.type ys f.offset).run Tryd.prog W = .ok y W ∧ (Op.equalIn d f.type x y).run Tryd.prog W = .ok (B (f.type, f.offset)) W) →
    (Op.eqFields d xs ys fs).run Tryd.prog W = .ok ((fs.map fun f => (f.type, f.offset)).all B) W
  | [], _ => by simp [Op.eqFields]
  | f :: fs, h => by
    obtain ⟨hn, x, y, h1, h2, h3⟩ := h f (by simp)
    have ih := eqFields_dec d xs ys W B fs (fun g hg => h g (by simp [hg]))
    unfold Op.eqFields
    rw [if_pos hn]
    simp only [Sem.run_bind, h1, h2, h3, Result.andThen_ok]
    cases hB : B (f.type, f.offset)
    · simp [hB]
    · simpa [hB] using ih
theorem eqItems_dec (d : Nat) (e : TypeId) (k : Nat) (xs ys : Array Value) (W : World) (B : Nat → Bool) : ∀ is : List Nat, (∀ i ∈ is, ∃ x y, (Go.part e xs (i * k)).run Tryd.prog W = .ok x W ∧ (Go.part e ys (i * k)).run Tryd.prog W = .ok y W ∧ (Op.equalIn d e x y).run Tryd.prog W = .ok (B i) W) →
    (Op.eqItems d e k xs ys is).run Tryd.prog W = .ok (is.all B) W
  | [], _ => by simp [Op.eqItems]
  | i :: is, h => by
    obtain ⟨x, y, h1, h2, h3⟩ := h i (by simp)
    have ih := eqItems_dec d e k xs ys W B is (fun g hg => h g (by simp [hg]))
    unfold Op.eqItems
    simp only [Sem.run_bind, h1, h2, h3, Result.andThen_ok]
    cases hB : B i
    · simp [hB]
    · simpa [hB] using ih
theorem part_one {t : TypeId} {k : IntKind} (h : Tryd.prog.underlying t = some (.int k)) {xs : Array Value} {off : Nat} {v : Value} (hv : xs[off]? = some v) (W : World) : (Go.part t xs off).run Tryd.prog W = .ok v W := by
  unfold Go.part
  simp only [Sem.run_bind, isAgg_int h W, Result.andThen_ok, hv]
  rfl
theorem part_arr {t e : TypeId} {n m : Nat} (h : Tryd.prog.underlying t = some (.array n e)) (hs : (Tryd.prog.info? t).map (·.size) = some m) (xs : Array Value) (off : Nat) (W : World) : (Go.part t xs off).run Tryd.prog W = .ok (.agg (xs.extract off (off + m))) W := by
  obtain ⟨i, h1, h2⟩ := Option.map_eq_some_iff.1 hs
  have hsz : (sizeOf t).run Tryd.prog W = .ok m W := by simp [sizeOf, typeInfo, h1, h2]
  unfold Go.part
  simp only [Sem.run_bind, isAgg_arr h W, Result.andThen_ok, hsz, if_true]
  rfl
theorem ext_hash {p : Pt} (hp : p.OK) : (pcells p).toArray.extract 5 (5 + 32) = (p.hash.map V8).toArray := by
  apply Array.toList_inj.1
  have hh := hp.hash
  simp [pcells, pnums, List.extract]
  rw [List.take_append_of_le_length (by simp [hh])]
  exact List.take_of_length_le (by simp [hh])
theorem ext_ats {p : Pt} (hp : p.OK) : (pcells p).toArray.extract 37 (37 + 4) = (p.ats.map U16).toArray := by
  apply Array.toList_inj.1
  have hh := hp.hash
  have hl := hp.len
  have e : pcells p = (pnums p ++ p.hash.map V8) ++ p.ats.map U16 := by simp [pcells]
  rw [e]
  simp only [List.extract_toArray, List.extract]
  rw [List.drop_left' (by simp [hh, pnums])]
  exact List.take_of_length_le (by simp [hl])
theorem map_ofBitVec_inj : ∀ x y : Bs, x.map UInt8.ofBitVec = y.map UInt8.ofBitVec → x = y
  | [], [], _ => rfl
  | [], _ :: _, h => by simp at h
  | _ :: _, [], h => by simp at h
  | u :: x, v :: y, h => by
    simp only [List.map_cons, List.cons.injEq] at h
    have h1 : u = v := by have := congrArg UInt8.toBitVec h.1; simpa using this
    rw [h1, map_ofBitVec_inj x y h.2]
theorem eq_hash {a b : Bs} (ha : a.length = 32) (hb : b.length = 32) (d : Nat) (W : World) : (Op.equalIn (d + 2) 34 (.agg (a.map V8).toArray) (.agg (b.map V8).toArray)).run Tryd.prog W = .ok (decide (a = b)) W := by
  have h := run_equalIn_bytes (P := Tryd.prog) W d 34 5 32 Tryd.underlying34 Tryd.underlying5 sizeOfB (a.map UInt8.ofBitVec) (b.map UInt8.ofBitVec) (by simpa using ha) (by simpa using hb)
  have e : ∀ l : Bs, (l.map UInt8.ofBitVec).map Extern.Stop.cell = l.map V8 := fun l => by
    rw [List.map_map]; rfl
  rw [e, e] at h
  rw [h]
  refine congrArg (fun b => Result.ok b W) ?_
  by_cases hab : a = b
  · subst hab; simp
  · rw [decide_eq_false hab]
    rw [beq_eq_false_iff_ne]
    exact fun e => hab (map_ofBitVec_inj a b e)
theorem ats_all {a b : List Nat} (ha : a.length = 4) (hb : b.length = 4) : ((List.range 4).all fun i => decide (a.getD i 0 = b.getD i 0)) = decide (a = b) := by
  match a, ha, b, hb with
  | [a0, a1, a2, a3], _, [b0, b1, b2, b3], _ =>
    simp [List.range_succ]
theorem eq_ats {a b : List Nat} (ha : a.length = 4) (hb : b.length = 4) (d : Nat) (W : World) : (Op.equalIn (d + 2) 35 (.agg (a.map U16).toArray) (.agg (b.map U16).toArray)).run Tryd.prog W = .ok (decide (a = b)) W := by
  obtain ⟨i, h1, h2⟩ := Option.map_eq_some_iff.1 sizeU16
  rw [run_equalIn_array W (d + 1) _ _ Tryd.underlying35 h1, ← ats_all ha hb]
  refine eqItems_dec _ _ _ _ _ W _ _ (fun j hj => ?_)
  have hj4 : j < 4 := List.mem_range.1 hj
  have hc : Tryd.prog.cellsOf 31 = 1 := by kernel_rfl
  refine ⟨U16 (a.getD j 0), U16 (b.getD j 0), part_one Tryd.underlying31 (by rw [hc, Nat.mul_one]; simp [ha, hj4, List.getD_eq_getElem?_getD]) W, part_one Tryd.underlying31 (by rw [hc, Nat.mul_one]; simp [hb, hj4, List.getD_eq_getElem?_getD]) W, ?_⟩
  unfold U16
  rw [run_equalIn_int W d 31 .u16 .u16 _ _ Tryd.underlying31]
  refine congrArg (fun b => Result.ok b W) ?_
  rw [Bool.eq_iff_iff]
  simp
  omega
theorem fieldsP : (Tryd.prog.fieldsOf 37).toList.map (fun f => (f.type, f.offset)) = [(5, 0), (5, 1), (31, 2), (32, 3), (33, 4), (34, 5), (35, 37)] := by kernel_rfl
theorem namesP : ((Tryd.prog.fieldsOf 37).toList.all fun f => f.name != "_") = true := by kernel_rfl
/-- Are they one, place by place? -/
def eqAt (p q : Pt) (f : TypeId × Nat) : Bool :=
  if f.2 = 0 then decide (p.kind = q.kind) else if f.2 = 1 then decide (p.level = q.level) else if f.2 = 2 then decide (p.obj = q.obj) else if f.2 = 3 then decide (p.off = q.off) else if f.2 = 4 then decide (p.birth = q.birth) else if f.2 = 5 then decide (p.hash = q.hash) else decide (p.ats = q.ats)
def eqP (p q : Pt) : Bool := decide (p.kind = q.kind) && decide (p.level = q.level) && decide (p.obj = q.obj) && decide (p.off = q.off) && decide (p.birth = q.birth) && decide (p.hash = q.hash) && decide (p.ats = q.ats)
theorem eqP_iff {p q : Pt} : eqP p q = true ↔ p = q := by
  obtain ⟨a1, a2, a3, a4, a5, a6, a7⟩ := p
  obtain ⟨b1, b2, b3, b4, b5, b6, b7⟩ := q
  simp [eqP, and_assoc]
theorem eqP_same (p : Pt) : eqP p p = true := eqP_iff.2 rfl
theorem run_eqP {p q : Pt} (hp : p.OK) (hq : q.OK) (W : World) : (Op.equalIn 10000 37 (.agg (pcells p).toArray) (.agg (pcells q).toArray)).run Tryd.prog W = .ok (eqP p q) W := by
  rw [run_equalIn_struct W 9999 37 _ _ (by kernel_rfl) (by kernel_rfl)]
  have e : eqP p q = (((Tryd.prog.fieldsOf 37).toList.map fun f => (f.type, f.offset)).all (eqAt p q)) := by
    rw [fieldsP]
    simp [eqAt, eqP, Bool.and_assoc]
  rw [e]
  refine eqFields_dec _ _ _ W _ _ (fun f hm => ⟨?_, ?_⟩)
  · have := List.all_eq_true.1 namesP f hm
    simpa using this
  have h1 : (f.type, f.offset) ∈ (Tryd.prog.fieldsOf 37).toList.map (fun f => (f.type, f.offset)) := List.mem_map.2 ⟨f, hm, rfl⟩
  rw [fieldsP] at h1
  simp only [List.mem_cons, Prod.mk.injEq, List.not_mem_nil, or_false] at h1
  have hi : ∀ (t : TypeId) (k : IntKind) (a b : Nat), Tryd.prog.underlying t = some (.int k) → (Op.equalIn 9999 t (.int k (a : Int)) (.int k (b : Int))).run Tryd.prog W = .ok (decide (a = b)) W := fun t k a b ht => by
    rw [run_equalIn_int W 9998 t k k _ _ ht]
    refine congrArg (fun b => Result.ok b W) ?_
    rw [Bool.eq_iff_iff]
    simp
    omega
  rcases h1 with ⟨e1, e2⟩ | ⟨e1, e2⟩ | ⟨e1, e2⟩ | ⟨e1, e2⟩ | ⟨e1, e2⟩ | ⟨e1, e2⟩ | ⟨e1, e2⟩ <;> rw [e1, e2]
  · exact ⟨_, _, part_one Tryd.underlying5 (v := .int .u8 (p.kind : Int)) rfl W, part_one Tryd.underlying5 (v := .int .u8 (q.kind : Int)) rfl W, hi _ _ _ _ Tryd.underlying5⟩
  · exact ⟨_, _, part_one Tryd.underlying5 (v := .int .u8 (p.level : Int)) rfl W, part_one Tryd.underlying5 (v := .int .u8 (q.level : Int)) rfl W, hi _ _ _ _ Tryd.underlying5⟩
  · exact ⟨_, _, part_one Tryd.underlying31 (v := .int .u16 (p.obj : Int)) rfl W, part_one Tryd.underlying31 (v := .int .u16 (q.obj : Int)) rfl W, hi _ _ _ _ Tryd.underlying31⟩
  · exact ⟨_, _, part_one Tryd.underlying32 (v := .int .u32 (p.off : Int)) rfl W, part_one Tryd.underlying32 (v := .int .u32 (q.off : Int)) rfl W, hi _ _ _ _ Tryd.underlying32⟩
  · exact ⟨_, _, part_one Tryd.underlying33 (v := .int .u64 (p.birth : Int)) rfl W, part_one Tryd.underlying33 (v := .int .u64 (q.birth : Int)) rfl W, hi _ _ _ _ Tryd.underlying33⟩
  · refine ⟨_, _, part_arr Tryd.underlying34 sizeA32 _ _ W, part_arr Tryd.underlying34 sizeA32 _ _ W, ?_⟩
    rw [ext_hash hp, ext_hash hq]
    exact eq_hash hp.hash hq.hash 9997 W
  · refine ⟨_, _, part_arr Tryd.underlying35 sizeAts _ _ W, part_arr Tryd.underlying35 sizeAts _ _ W, ?_⟩
    rw [ext_ats hp, ext_ats hq]
    exact eq_ats hp.len hq.len 9997 W
section
variable {ρ : Operand → Value} {o : Oper} {x y : Operand} {p q : Pt} {w : World}
theorem ex_neP (ho : o.op = .binOp .neq 37 x y 37) (hx : ρ x = .agg (pcells p).toArray) (hy : ρ y = .agg (pcells q).toArray) (hp : p.OK) (hq : q.OK) : (execOp ρ o).run Tryd.prog w = .ok (.value (.bool (!eqP p q))) w := by
  have h := run_eqP hp hq w
  unfold execOp
  have hg := run_eqGuard_agg (P := Tryd.prog) w .neq 37 x y (pcells p).toArray (pcells q).toArray (by kernel_rfl)
  simp only [ho, hx, hy, Sem.run_bind, hg, run_neq_struct, h, Result.andThen_ok, Sem.run_pure]
theorem ex_eqP (ho : o.op = .binOp .eql 37 x y 37) (hx : ρ x = .agg (pcells p).toArray) (hy : ρ y = .agg (pcells q).toArray) (hp : p.OK) (hq : q.OK) : (execOp ρ o).run Tryd.prog w = .ok (.value (.bool (eqP p q))) w := by
  have h := run_eqP hp hq w
  unfold execOp
  have hg := run_eqGuard_agg (P := Tryd.prog) w .eql 37 x y (pcells p).toArray (pcells q).toArray (by kernel_rfl)
  simp only [ho, hx, hy, Sem.run_bind, hg, run_eql_struct, h, Result.andThen_ok, Sem.run_pure]
theorem ex_bld0 (ho : o.op = .build 37 #[]) : (execOp ρ o).run Tryd.prog w = .ok (.value (.agg (pcells zeroP).toArray)) w := by
  have hr : (Instr.build 37 #[]).run Tryd.prog w = .ok (.agg (pcells zeroP).toArray) w := run_build w 37 _ _ (by kernel_rfl)
  unfold execOp
  simp only [ho]
  simp only [List.map_toArray, List.map_nil, Sem.run_bind, hr, Result.andThen_ok, Sem.run_pure]
end
end Go.Proofs.YtfcjeceoedfldaaDoor
/- What a kind asks; how many copies it has; whether a pointer may be, as the document says it. -/
namespace Go.Proofs.YtfcjeceoedfldaaDoor
open Go.RowKit

def rcell (k : Nat) : List Value := [.int .i64 (wideN k : Int), .int .u8 (lowN k : Int), .int .u8 (highN k : Int)]
/-- The table of the kinds' rules, as it lies in memory. -/
def RTab (w : World) : Prop := ∃ t fr, w.heap[0]? = some (.cells ((List.range 6).flatMap rcell).toArray t fr)
theorem RTab.lt {w : World} (h : RTab w) : 0 < w.heap.size := by
  obtain ⟨t, fr, h⟩ := h
  exact (Array.getElem?_eq_some_iff.1 h).1
theorem RTab.of_heap {w w' : World} (h : RTab w) (he : w'.heap[0]? = w.heap[0]?) : RTab w' := by
  obtain ⟨t, fr, h⟩ := h
  exact ⟨t, fr, by rw [he]; exact h⟩
theorem RTab.below {B : Nat} {w w' : World} (h : RTab w) (hb : Below B w w') (hB : w.heap.size ≤ B) : RTab w' := h.of_heap (hb.block 0 (Nat.lt_of_lt_of_le h.lt hB))
theorem RTab.grown {w w' : World} (h : RTab w) (hb : Below w.heap.size w w') : RTab w' := h.below hb (Nat.le_refl _)
theorem RTab.alloc {w : World} (h : RTab w) (o : Obj) : RTab (w.alloc o) := h.of_heap (Below.heap_alloc w o 0 h.lt)
theorem RTab.range {w : World} (h : RTab w) {k : Nat} (hk : k < 6) : w.rangeAt 0 (k * 3) (rcell k) := by
  obtain ⟨t, fr, h⟩ := h
  intro j v hv
  rw [cell_of_row w 0 (k * 3 + j) _ t fr h]
  have hj : j < 3 := by
    have := (List.getElem?_eq_some_iff.1 hv).1
    simpa [rcell] using this
  match k, hk with
  | 0, _ | 1, _ | 2, _ | 3, _ | 4, _ | 5, _ =>
    match j, hj with
    | 0, _ | 1, _ | 2, _ => exact hv
theorem one_rule (k : Nat) : (rcell k).toArray.all (·.oneCell') = true := by simp [rcell, Value.oneCell']
theorem blk_row1 (w : World) (z : Array Value) (cs : List Value) (t : TypeId) : Blk ((w.alloc (.cells z t)).setRow w.heap.size cs.toArray) w.heap.size cs t ∧ Below w.heap.size w ((w.alloc (.cells z t)).setRow w.heap.size cs.toArray) :=
  ⟨Blk.row (Blk.new' w z z.toList t _ rfl (by simp)) _, below_row ((Below.refl _ _).alloc (Nat.le_refl _) _) (Nat.le_refl _) _⟩
theorem rcell_none {k : Nat} (h : ¬ k < 6) : rcell k = [.int .i64 0, .int .u8 0, .int .u8 0] := by
  unfold rcell wideN lowN highN
  rw [if_pos (by omega), if_neg (by omega), if_neg (by omega)]
  rfl
set_option maxRecDepth 100000 in
theorem rule_any (k : Nat) (hk : k < 256) (w : World) (hT : RTab w) : Calls Tryd.prog 28 #[.int .u8 (k : Int)] w fun e w' => e = .returned (.agg (rcell k).toArray) ∧ Below w.heap.size w w' := by
  have HT := Lib.hid hT
  clear hT
  have e1 := IntWalk.i64_in (k : Int) (by omega)
  obtain ⟨r, hr⟩ : ∃ r, rcell k = r := ⟨_, rfl⟩
  have hr3 : r.length = 3 := by rw [← hr]; rfl
  have HR3 := Lib.hid hr3
  have HSZ : Hid ((Tryd.prog.info? 82).map (·.size) = some r.toArray.size) := Lib.hid (by rw [sizeRule]; simp [hr3])
  have HONE : Hid (r.toArray.all (·.oneCell') = true) := Lib.hid (by rw [← hr]; exact one_rule k)
  have HB := Lib.hid (blk_row1 w #[.int .i64 0, .int .u8 0, .int .u8 0] r 82)
  go_enter Tryd.func28, Tryd.ntmps28
  by_cases h6 : k < 6
  · have HG : Hid ((w.alloc (.cells #[.int .i64 0, .int .u8 0, .int .u8 0] 82)).rangeAt 0 (k * 3) r) := Lib.hid (by rw [← hr]; exact (HT.out.alloc _).range h6)
    have hk6 : (k : Int) < 6 := by omega
    rw [hr]
    clear hr hr3
    go_wp2_with (first | (refine wpL_val rfl (ex_ld (ty := 82) (cs := r) (off := k * 3) rfl rfl HG.out Tryd.underlying82 rfl (by rw [sizeRule, HR3.out])) ?_) | (refine wpList_store_row rfl 82 (.tmp 2) (.tmp 8) rfl w.heap.size _ rfl rfl 82 _ (heap_alloc_new _ _) HSZ.out (by simp [HR3.out]) HONE.out ?_) | fail)
    exact bodyPost_ret (results_cell_row Tryd.results28 _ _ w.heap.size 82 _ _ _ rfl HB.out.1 Tryd.underlying82 rfl HSZ.out) rfl ⟨rfl, HB.out.2⟩
  · have hk6 : ¬ (k : Int) < 6 := by omega
    have h0 := rcell_none h6
    rw [hr] at h0
    rw [hr, h0]
    rw [h0] at HB
    clear hr hr3 h0 HR3 HSZ HONE h6
    go_wp2
    exact bodyPost_ret (results_cell_row Tryd.results28 _ _ w.heap.size 82 _ _ _ rfl (heap_alloc_new _ _) Tryd.underlying82 rfl sizeRule) rfl ⟨rfl, (Below.refl _ _).alloc (Nat.le_refl _) _⟩
end Go.Proofs.YtfcjeceoedfldaaDoor
/- A pointer's copies, gone through by a function: the iterator; that no two are at one place. -/
namespace Go.Proofs.YtfcjeceoedfldaaDoor
open Go.RowKit Go.Shelf

attribute [local go_sem] Oper.semAt_some

/-- A copy: its disk, its address. -/
abbrev Cp := { x : Nat × Nat // x.1 < 2 ∧ 0 < x.2 ∧ x.2 < 65536 }
def encC (x : Cp) : Array Value := #[.int .i64 (x.1.1 : Int), .int .u16 (x.1.2 : Int)]
def cpsFrom : Nat → List Nat → List Cp
  | _, [] => []
  | i, a :: l => if h : i < 4 ∧ 0 < a ∧ a < 65536 then ⟨(i / 2, a), by simp only; omega, h.2⟩ :: cpsFrom (i + 1) l else cpsFrom (i + 1) l
theorem cpsFrom_val : ∀ (l : List Nat) (i : Nat), i + l.length ≤ 4 → (∀ x ∈ l, x < 65536) → (cpsFrom i l).map (·.1) = copiesFrom i l
  | [], _, _, _ => rfl
  | a :: l, i, hi, hx => by
    have ha := hx a (by simp)
    have ih := cpsFrom_val l (i + 1) (by simp at hi; omega) (fun x h => hx x (by simp [h]))
    simp only [List.length_cons] at hi
    by_cases h : a = 0
    · simp [cpsFrom, copiesFrom, h, ih]
    · have h2 : i < 4 ∧ 0 < a ∧ a < 65536 := ⟨by omega, by omega, ha⟩
      simp [cpsFrom, copiesFrom, h, h2, ih]
theorem cpsFrom_append : ∀ (l m : List Nat) (i : Nat), cpsFrom i (l ++ m) = cpsFrom i l ++ cpsFrom (i + l.length) m
  | [], m, i => by simp [cpsFrom]
  | a :: l, m, i => by
    have ih := cpsFrom_append l m (i + 1)
    simp only [List.cons_append, cpsFrom, List.length_cons]
    rw [ih, show i + 1 + l.length = i + (l.length + 1) by omega]
    split <;> simp
def cps (p : Pt) : List Cp := cpsFrom 0 p.ats
theorem cps_val {p : Pt} (hp : p.OK) : (cps p).map (·.1) = copiesP p := cpsFrom_val _ _ (by rw [hp.len]; omega) hp.ats
/-- What has come when k places have been looked at. -/
def upto (p : Pt) (k : Nat) : List Cp := cpsFrom 0 (p.ats.take k)
theorem upto_all {p : Pt} (hp : p.OK) : upto p 4 = cps p := by unfold upto cps; rw [List.take_of_length_le (by rw [hp.len]; omega)]
theorem upto_step {p : Pt} (hp : p.OK) {k a : Nat} (ha : p.ats[k]? = some a) : upto p (k + 1) = upto p k ++ cpsFrom k [a] := by
  have hk := (List.getElem?_eq_some_iff.1 ha).1
  have h2 : p.ats[k] = a := (List.getElem?_eq_some_iff.1 ha).2
  unfold upto
  rw [List.take_succ_eq_append_getElem hk, h2, cpsFrom_append]
  congr 2
  simp
  omega
theorem upto_skip {p : Pt} (hp : p.OK) {k : Nat} (ha : p.ats[k]? = some 0) : upto p (k + 1) = upto p k := by
  rw [upto_step hp ha]; simp [cpsFrom]
theorem upto_prefix {p : Pt} (hp : p.OK) (k : Nat) : upto p k <+: cps p := by
  refine ⟨cpsFrom (0 + (p.ats.take k).length) (p.ats.drop k), ?_⟩
  unfold upto cps
  rw [← cpsFrom_append, List.take_append_drop]
theorem cpsFrom_length : ∀ (l : List Nat) (i : Nat), (cpsFrom i l).length ≤ l.length
  | [], _ => by simp [cpsFrom]
  | a :: l, i => by
    have ih := cpsFrom_length l (i + 1)
    unfold cpsFrom
    split <;> simp <;> omega
theorem upto_length (p : Pt) (k : Nat) : (upto p k).length ≤ k := Nat.le_trans (cpsFrom_length _ _) (by simp; omega)
theorem index_ats (p : Pt) {k a : Nat} (ha : p.ats[k]? = some a) (hk : k < 4) (W : World) : (Instr.index 35 (.agg (p.ats.map U16).toArray) (.int .i64 (k : Int))).run Tryd.prog W = .ok (.int .u16 (a : Int)) W :=
  run_index_cells 35 31 4 _ k _ W Tryd.underlying35 Tryd.underlying31 hk sizeU16 (by simp [ha, U16])
theorem copies_any (p : Pt) (w : World) : Calls Tryd.prog 34 #[.agg (pcells p).toArray] w fun e w' => e = .returned (.func (.func 43) #[] #[.pointer (some ⟨w.heap.size, 0, none⟩)]) ∧ w' = w.alloc (.cells (pcells p).toArray 37) := by
  go_enter Tryd.func34, Tryd.ntmps34
  go_wp2
  go_ret
  exact ⟨rfl, rfl⟩
theorem run_equalIn_nilF {t : TypeId} (ht : ∃ a b c, Tryd.prog.underlying t = some (.func a b c)) (f : Fn) (ts xs : Array Value) (d : Nat) (W : World) : (Op.equalIn (d + 1) t (.func f ts xs) .nilFunc).run Tryd.prog W = .ok false W := by
  obtain ⟨a, b, c, ht⟩ := ht
  simp [Op.equalIn, run_underlying ht]
theorem run_nilF {t : TypeId} (ht : ∃ a b c, Tryd.prog.underlying t = some (.func a b c)) (f : Fn) (ts xs : Array Value) (W : World) : (binOp .eql t (.func f ts xs) .nilFunc).run Tryd.prog W = .ok (.bool false) W := by
  simp only [binOp]
  simp [Op.equal, Op.maxDepth, run_equalIn_nilF ht f ts xs 9999]
/-- No more than any world. -/
def NoKp (_ _ : World) : Prop := True
set_option maxRecDepth 100000 in
set_option maxHeartbeats 4000000 in
theorem copies1_in (F : Fence) (n : Nat) (h7 : F.fn 43) (hro : F.round = none) (hn : 1 ≤ n) (l B : Nat) (p : Pt) (hp : p.OK) (J Jx : List Cp → World → Prop)
    (hY : ∀ pre x W, J pre W → pre.length < 4 → YieldAt F (n - 1) Tryd.prog l (encC x) W fun e W' =>
      (e = .returned (.bool true) ∧ J (pre ++ [x]) W' ∧ NoKp W W') ∨ (e = .returned (.bool false) ∧ Jx (pre ++ [x]) W'))
    (W : World) (hB : Blk W B (pcells p) 37) (h0 : J [] W) :
    CallsIn F n Tryd.prog 43 #[.func (.yield l) #[] #[], .pointer (some ⟨B, 0, none⟩)] W fun e W' => (∃ v, e = .returned v) ∧ ((∃ ys, ys = cps p ∧ J ys W') ∨ (∃ pre, pre <+: cps p ∧ Jx pre W')) := by
  have hh := hp.hash
  have HP := Lib.hid hp
  obtain ⟨a0, a1, a2, a3, hats⟩ : ∃ a0 a1 a2 a3, p.ats = [a0, a1, a2, a3] := by
    have := hp.len
    match h : p.ats, this with
    | [a, b, c, d], _ => exact ⟨a, b, c, d, rfl⟩
  have c37 : W.cell? ⟨B, 37, none⟩ = some (.int .u16 (a0 : Int)) := cell_ats hB hh (k := 0) (by rw [hats]; rfl)
  have c38 : W.cell? ⟨B, 38, none⟩ = some (.int .u16 (a1 : Int)) := cell_ats hB hh (k := 1) (by rw [hats]; rfl)
  have c39 : W.cell? ⟨B, 39, none⟩ = some (.int .u16 (a2 : Int)) := cell_ats hB hh (k := 2) (by rw [hats]; rfl)
  have c40 : W.cell? ⟨B, 40, none⟩ = some (.int .u16 (a3 : Int)) := cell_ats hB hh (k := 3) (by rw [hats]; rfl)
  have HAT := Lib.hid hats
  clear hp hB hats hh
  refine callsIn_of_wp Tryd.func43 rfl h7 ?_ hro
  simp only [Tryd.ntmps43, List.size_toArray, List.length_cons, List.length_nil, Nat.reduceAdd, Nat.reduceSub, Array.replicate_succ, Array.replicate_zero, List.push_toArray, List.append_toArray, List.nil_append, List.cons_append]
  gi_wp2
  gi_loopw [7] (fun i wr => ∃ k : Nat, k ≤ 4 ∧ i = .int .i64 k ∧ J (upto p k) wr) (fun i _ => 4 - (intOf i).toNat)
  case atStart => exact ⟨0, Nat.zero_le _, rfl, h0⟩
  case round =>
    clear c37 c38 c39 c40
    obtain ⟨k, hk, rfl, hJs⟩ := hrel
    by_cases hlt : k < 4
    · obtain ⟨x, hx⟩ : ∃ x, p.ats[k]? = some x := ⟨_, List.getElem?_eq_getElem (by rw [HP.out.len]; exact hlt)⟩
      have hix : ∀ W : World, (Instr.index 35 (.agg #[.int .u16 (a0 : Int), .int .u16 (a1 : Int), .int .u16 (a2 : Int), .int .u16 (a3 : Int)]) (.int .i64 (k : Int))).run Tryd.prog W = .ok (.int .u16 (x : Int)) W := fun W => by
        have := index_ats p hx hlt W
        rw [HAT.out] at this
        exact this
      have hxl : x < 65536 := HP.out.ats x (List.mem_of_getElem? hx)
      have q : (k : Int) < 4 := by omega
      by_cases h00 : x = 0
      · subst h00
        have hJ2 : J (upto p (k + 1)) wr := by rw [upto_skip HP.out hx]; exact hJs
        have HX := Lib.hid hx
        clear hx
        gi_wp2
        go_roundw
        case rel => exact ⟨k + 1, by omega, by go_num, hJ2⟩
        case measure => simp [intOf]; omega
      · have hxz : ¬ (x : Int) = 0 := by omega
        obtain ⟨cp, hc1, hst⟩ : ∃ cp : Cp, cp.1 = (k / 2, x) ∧ upto p (k + 1) = upto p k ++ [cp] := by
          have hcp : k / 2 < 2 ∧ 0 < x ∧ x < 65536 := ⟨by omega, by omega, hxl⟩
          refine ⟨⟨(k / 2, x), hcp⟩, rfl, ?_⟩
          rw [upto_step HP.out hx]
          simp [cpsFrom, hlt, hcp.2]
        obtain ⟨fn, tmps, assign, body, hy, hR⟩ := hY _ cp wr hJs (by have := upto_length p k; omega)
        have he : encC cp = #[.int .i64 ((k : Int) / 2), .int .u16 (x : Int)] := by unfold encC; rw [hc1]; rfl
        rw [he] at hy
        have HX := Lib.hid hx
        have HST := Lib.hid hst
        clear hx hst he
        have hnf := fun W => run_nilF (t := 103) ⟨_, _, _, Tryd.underlying103⟩ (Fn.yield l) #[] #[] W
        gi_wp2
        refine hR.mono ?_
        rintro e W3 (⟨rfl, hJ3, _⟩ | ⟨rfl, hJx3⟩)
        · gi_wp2
          go_roundw
          case rel => exact ⟨k + 1, by omega, by go_num, by rw [HST.out]; exact hJ3⟩
          case measure => simp [intOf]; omega
        · gi_wp2
          refine bodyPost_ret (results_none rfl _ _ _) rfl ?_
          exact ⟨⟨_, rfl⟩, .inr ⟨_, by rw [← HST.out]; exact upto_prefix HP.out (k + 1), hJx3⟩⟩
    · obtain rfl : k = 4 := by omega
      gi_wp2
      go_end0
      exact ⟨⟨_, rfl⟩, .inl ⟨_, (upto_all HP.out), hJs⟩⟩
theorem copies_stops (F : Fence) (n : Nat) (h7 : F.fn 43) (hro : F.round = none) (hn : 1 ≤ n) (B : Nat) (p : Pt) (hp : p.OK) (w : World) (hB : Blk w B (pcells p) 37) :
    SeqStopsK F n Tryd.prog 43 #[.pointer (some ⟨B, 0, none⟩)] encC NoKp (fun ys => ys = cps p) (fun pre => pre <+: cps p) 4 w := fun l J Jx W hW _ _ hY h0 =>
  copies1_in F n h7 hro hn l B p hp J Jx hY W (hB.below hW hB.lt) h0
end Go.Proofs.YtfcjeceoedfldaaDoor
