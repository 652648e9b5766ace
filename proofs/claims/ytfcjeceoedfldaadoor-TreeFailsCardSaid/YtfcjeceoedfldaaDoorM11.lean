/- Nodes, plain, and their cells: eight pointers in a row; equality; an element; a place set. -/
import Derived.Test.YtfcjeceoedfldaaDoorM07
import Derived.Test.YtfcjeceoedfldaaDoorM06
import Derived.Test.YtfcjeceoedfldaaDoorM10
import Derived.ChangeKeysEq
namespace Go.Proofs.YtfcjeceoedfldaaDoor
open Go.RowKit

def ncells (ns : List Pt) : List Value := ns.flatMap pcells
structure NOK (ns : List Pt) : Prop where
  len : ns.length = 8
  ok : ∀ p ∈ ns, p.OK
theorem ncells_length : ∀ {ns : List Pt}, (∀ p ∈ ns, p.OK) → (ncells ns).length = 41 * ns.length
  | [], _ => rfl
  | p :: ns, h => by
    have ih := ncells_length (ns := ns) (fun q hq => h q (by simp [hq]))
    have h1 := pcells_length (h p (by simp))
    simp only [ncells, List.flatMap_cons, List.length_append, List.length_cons] at *
    omega
theorem NOK.cells {ns : List Pt} (h : NOK ns) : (ncells ns).length = 328 := by rw [ncells_length h.ok, h.len]
theorem NOK.size {ns : List Pt} (h : NOK ns) : (ncells ns).toArray.size = 328 := by rw [List.size_toArray, h.cells]
theorem NOK.at {ns : List Pt} (h : NOK ns) {k : Nat} {p : Pt} (hk : ns[k]? = some p) : p.OK := h.ok p (List.mem_of_getElem? hk)
theorem NOK.get {ns : List Pt} (h : NOK ns) {k : Nat} (hk : k < 8) : ∃ p, ns[k]? = some p := ⟨_, List.getElem?_eq_getElem (by rw [h.len]; exact hk)⟩
theorem ncells_append (a b : List Pt) : ncells (a ++ b) = ncells a ++ ncells b := by simp [ncells]
theorem ncells_cons (p : Pt) (b : List Pt) : ncells (p :: b) = pcells p ++ ncells b := by simp [ncells]
theorem split_at {α : Type} {l : List α} {k : Nat} {x : α} (h : l[k]? = some x) : l = l.take k ++ (x :: l.drop (k + 1)) := by
  obtain ⟨hk, e⟩ := List.getElem?_eq_some_iff.1 h
  rw [← e, ← List.drop_eq_getElem_cons hk, List.take_append_drop]
theorem ncells_split {ns : List Pt} (h : ∀ p ∈ ns, p.OK) {k : Nat} {p : Pt} (hk : ns[k]? = some p) : ncells ns = ncells (ns.take k) ++ (pcells p ++ ncells (ns.drop (k + 1))) ∧ (ncells (ns.take k)).length = 41 * k := by
  obtain ⟨hl, _⟩ := List.getElem?_eq_some_iff.1 hk
  constructor
  · conv => lhs; rw [split_at hk]
    rw [ncells_append, ncells_cons]
  · rw [ncells_length (fun q hq => h q (List.mem_of_mem_take hq)), List.length_take, Nat.min_eq_left (Nat.le_of_lt hl)]
theorem set_at {α : Type} {l : List α} {k : Nat} (h : k < l.length) (x : α) : l.set k x = l.take k ++ (x :: l.drop (k + 1)) := by
  rw [List.set_eq_take_append_cons_drop, if_pos h]
theorem ncells_set {ns : List Pt} (h : ∀ p ∈ ns, p.OK) {k : Nat} (hk : k < ns.length) {q : Pt} (hq : q.OK) : splice (ncells ns) (41 * k) (pcells q) = ncells (ns.set k q) := by
  obtain ⟨p, hp⟩ : ∃ p, ns[k]? = some p := ⟨_, List.getElem?_eq_getElem hk⟩
  obtain ⟨e, hl⟩ := ncells_split h hp
  have hpo := h p (List.mem_of_getElem? hp)
  unfold splice
  rw [e, List.take_left' hl, ← List.drop_drop, List.drop_left' hl, List.drop_left' (by rw [pcells_length hq, pcells_length hpo]), set_at hk, ncells_append, ncells_cons]
theorem NOK.set {ns : List Pt} (h : NOK ns) (k : Nat) {q : Pt} (hq : q.OK) : NOK (ns.set k q) :=
  ⟨by rw [List.length_set, h.len], fun p hp => by
    rcases List.mem_or_eq_of_mem_set hp with h1 | h1
    · exact h.ok p h1
    · rw [h1]; exact hq⟩
/-- A node of holes. -/
def holes : List Pt := List.replicate 8 zeroP
theorem holes_ok : NOK holes := ⟨rfl, fun p hp => by rw [List.eq_of_mem_replicate hp]; exact zeroP_ok⟩
theorem ncells_one {ns : List Pt} (h : ∀ p ∈ ns, p.OK) : (ncells ns).toArray.all (·.oneCell') = true := by
  rw [Array.all_eq_true_iff_forall_mem]
  intro v hv
  simp only [List.mem_toArray, ncells, List.mem_flatMap] at hv
  obtain ⟨p, _, hp⟩ := hv
  exact Array.all_eq_true_iff_forall_mem.1 (one_pc p) v (by simpa using hp)
theorem size_nd : (Tryd.prog.info? 73).map (·.size) = some 328 := by kernel_rfl
theorem size_nc {ns : List Pt} (h : NOK ns) : (Tryd.prog.info? 73).map (·.size) = some (ncells ns).toArray.size := by rw [h.size]; exact size_nd

instance decPt : DecidableEq Pt := fun _ _ => decidable_of_iff _ eqP_iff

/-- An element of a row of structs. -/
theorem part_ptr (xs : Array Value) (off : Nat) (W : World) : (Go.part 37 xs off).run Tryd.prog W = .ok (.agg (xs.extract off (off + 41))) W := by
  obtain ⟨i, h1, h2⟩ := Option.map_eq_some_iff.1 sizeP
  have hsz : (sizeOf 37).run Tryd.prog W = .ok 41 W := by simp [sizeOf, typeInfo, h1, h2]
  have hag : (isAgg 37).run Tryd.prog W = .ok true W := by
    unfold isAgg
    rw [Sem.run_bind, run_underlying Tryd.underlying37 W]; rfl
  unfold Go.part
  simp only [Sem.run_bind, hag, Result.andThen_ok, hsz, if_true]
  rfl
theorem ext_ptr {ns : List Pt} (h : ∀ p ∈ ns, p.OK) {k : Nat} {p : Pt} (hk : ns[k]? = some p) : (ncells ns).toArray.extract (k * 41) (k * 41 + 41) = (pcells p).toArray := by
  obtain ⟨e, hl⟩ := ncells_split h hk
  apply Array.toList_inj.1
  rw [Array.toList_extract, List.extract_eq_take_drop]
  simp only
  rw [e, show k * 41 = 41 * k by omega, List.drop_left' hl, show 41 * k + 41 - 41 * k = 41 by omega, List.take_left' (pcells_length (h p (List.mem_of_getElem? hk)))]
theorem cellsPtr : Tryd.prog.cellsOf 37 = 41 := by kernel_rfl
theorem run_ixT {t : TypeId} (hu : Tryd.prog.underlying t = some (.array 8 37)) {ns : List Pt} (h : NOK ns) {k : Nat} {p : Pt} (hk : ns[k]? = some p) (W : World) : (Instr.index t (.agg (ncells ns).toArray) (.int .i64 (k : Int))).run Tryd.prog W = .ok (.agg (pcells p).toArray) W := by
  obtain ⟨i, h1, h2⟩ := Option.map_eq_some_iff.1 sizeP
  have hsz : (sizeOf 37).run Tryd.prog W = .ok 41 W := by simp [sizeOf, typeInfo, h1, h2]
  obtain ⟨hl, _⟩ := List.getElem?_eq_some_iff.1 hk
  rw [h.len] at hl
  have h0 : (0 : Int) ≤ k := by omega
  have hi' : (k : Int) < (8 : Nat) := by omega
  have hx := ext_ptr h.ok hk
  unfold Instr.index
  simp only [asIntOf, Sem.run_bind, Sem.run_pure, Result.andThen_ok, run_underlying hu W]
  rw [if_pos ⟨h0, hi'⟩]
  simp only [Sem.run_bind, hsz, Result.andThen_ok, part_ptr, Int.toNat_natCast, hx]
theorem items_all {ns ms : List Pt} (h : ns.length = 8) (h' : ms.length = 8) : ((List.range 8).all fun j => eqP (ns.getD j zeroP) (ms.getD j zeroP)) = decide (ns = ms) := by
  rw [Bool.eq_iff_iff, List.all_eq_true, decide_eq_true_iff]
  constructor
  · intro H
    apply List.ext_getElem (by rw [h, h'])
    intro j h1 h2
    have := eqP_iff.1 (H j (List.mem_range.2 (by omega)))
    simpa [List.getD_eq_getElem?_getD, h1, h2] using this
  · rintro rfl j _
    exact eqP_same _
theorem run_eqPd (d : Nat) {p q : Pt} (hp : p.OK) (hq : q.OK) (W : World) : (Op.equalIn (d + 3) 37 (.agg (pcells p).toArray) (.agg (pcells q).toArray)).run Tryd.prog W = .ok (eqP p q) W := by
  rw [run_equalIn_struct W (d + 2) 37 _ _ (by kernel_rfl) (by kernel_rfl)]
  have e : eqP p q = (((Tryd.prog.fieldsOf 37).toList.map fun f => (f.type, f.offset)).all (eqAt p q)) := by
    rw [fieldsP]
    simp [eqAt, eqP, Bool.and_assoc]
  rw [e]
  refine eqFields_dec _ _ _ W _ _ (fun f hm => ⟨?_, ?_⟩)
  · have := List.all_eq_true.1 namesP f hm
    simpa using this
  have h1 : (f.type, f.offset) ∈ (Tryd.prog.fieldsOf 37).toList.map (fun f => (f.type, f.offset)) := List.mem_map.2 ⟨f, hm, rfl⟩
  rw [fieldsP] at h1
  simp only [List.mem_cons, Prod.mk.injEq, List.not_mem_nil, or_false] at h1
  have hi : ∀ (t : TypeId) (k : IntKind) (a b : Nat), Tryd.prog.underlying t = some (.int k) → (Op.equalIn (d + 2) t (.int k (a : Int)) (.int k (b : Int))).run Tryd.prog W = .ok (decide (a = b)) W := fun t k a b ht => by
    rw [run_equalIn_int W (d + 1) t k k _ _ ht]
    refine congrArg (fun b => Result.ok b W) ?_
    rw [Bool.eq_iff_iff]
    simp
    omega
  rcases h1 with ⟨e1, e2⟩ | ⟨e1, e2⟩ | ⟨e1, e2⟩ | ⟨e1, e2⟩ | ⟨e1, e2⟩ | ⟨e1, e2⟩ | ⟨e1, e2⟩ <;> rw [e1, e2]
  · exact ⟨_, _, part_one Tryd.underlying5 (v := .int .u8 (p.kind : Int)) rfl W, part_one Tryd.underlying5 (v := .int .u8 (q.kind : Int)) rfl W, hi _ _ _ _ Tryd.underlying5⟩
  · exact ⟨_, _, part_one Tryd.underlying5 (v := .int .u8 (p.level : Int)) rfl W, part_one Tryd.underlying5 (v := .int .u8 (q.level : Int)) rfl W, hi _ _ _ _ Tryd.underlying5⟩
  · exact ⟨_, _, part_one Tryd.underlying31 (v := .int .u16 (p.obj : Int)) rfl W, part_one Tryd.underlying31 (v := .int .u16 (q.obj : Int)) rfl W, hi _ _ _ _ Tryd.underlying31⟩
  · exact ⟨_, _, part_one Tryd.underlying32 (v := .int .u32 (p.off : Int)) rfl W, part_one Tryd.underlying32 (v := .int .u32 (q.off : Int)) rfl W, hi _ _ _ _ Tryd.underlying32⟩
  · exact ⟨_, _, part_one Tryd.underlying33 (v := .int .u64 (p.birth : Int)) rfl W, part_one Tryd.underlying33 (v := .int .u64 (q.birth : Int)) rfl W, hi _ _ _ _ Tryd.underlying33⟩
  · refine ⟨_, _, part_arr Tryd.underlying34 sizeA32 _ _ W, part_arr Tryd.underlying34 sizeA32 _ _ W, ?_⟩
    rw [ext_hash hp, ext_hash hq]
    exact eq_hash hp.hash hq.hash d W
  · refine ⟨_, _, part_arr Tryd.underlying35 sizeAts _ _ W, part_arr Tryd.underlying35 sizeAts _ _ W, ?_⟩
    rw [ext_ats hp, ext_ats hq]
    exact eq_ats hp.len hq.len d W
theorem run_eqN {t : TypeId} (hu : Tryd.prog.underlying t = some (.array 8 37)) {ns ms : List Pt} (h : NOK ns) (h' : NOK ms) (W : World) : (Op.equalIn 10000 t (.agg (ncells ns).toArray) (.agg (ncells ms).toArray)).run Tryd.prog W = .ok (decide (ns = ms)) W := by
  obtain ⟨i, h1, h2⟩ := Option.map_eq_some_iff.1 sizeP
  rw [run_equalIn_array W 9999 _ _ hu h1, ← items_all h.len h'.len]
  refine eqItems_dec _ _ _ _ _ W _ _ (fun j hj => ?_)
  have hj8 : j < 8 := List.mem_range.1 hj
  obtain ⟨p, hp⟩ := h.get hj8
  obtain ⟨q, hq⟩ := h'.get hj8
  refine ⟨.agg (pcells p).toArray, .agg (pcells q).toArray, ?_, ?_, ?_⟩
  · rw [part_ptr, cellsPtr, ext_ptr h.ok hp]
  · rw [part_ptr, cellsPtr, ext_ptr h'.ok hq]
  · rw [List.getD_eq_getElem?_getD, List.getD_eq_getElem?_getD, hp, hq]
    exact run_eqPd 9996 (h.at hp) (h'.at hq) W
end Go.Proofs.YtfcjeceoedfldaaDoor
/- Whether a block fits a pointer: Fits. -/
namespace Go.Proofs.YtfcjeceoedfldaaDoor
open Go.RowKit

theorem ex_eqi {ρ : Operand → Value} {o : Oper} {x y : Operand} {k : IntKind} {a b : Int} {w : World} {ty : TypeId} (hu : Tryd.prog.underlying ty = some (.int k)) (ho : o.op = .binOp .eql ty x y ty) (hx : ρ x = .int k a) (hy : ρ y = .int k b) : (execOp ρ o).run Tryd.prog w = .ok (.value (.bool (decide (a = b)))) w := by
  have h := run_equalIn_int (P := Tryd.prog) w 9999 ty k k a b hu
  unfold execOp
  simp only [ho]
  go_simp
  by_cases h : a = b <;> simp [h]
end Go.Proofs.YtfcjeceoedfldaaDoor
