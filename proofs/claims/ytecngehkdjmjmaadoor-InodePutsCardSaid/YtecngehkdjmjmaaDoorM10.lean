/- Inodes: what reads, builds and compares them in memory. -/
import Derived.Test.YtecngehkdjmjmaaDoorM09
import Derived.ChangeKeysEq
namespace Go.Proofs.YtecngehkdjmjmaaDoor
open Go.RowKit

theorem part_ptrI (xs : Array Value) (off : Nat) (W : World) : (Go.part 28 xs off).run Tryd.prog W = .ok (.agg (xs.extract off (off + 41))) W := by
  obtain ⟨i, h1, h2⟩ := Option.map_eq_some_iff.1 sizeP
  have hsz : (sizeOf 28).run Tryd.prog W = .ok 41 W := by simp [sizeOf, typeInfo, h1, h2]
  have hag : (isAgg 28).run Tryd.prog W = .ok true W := by
    unfold isAgg
    rw [Sem.run_bind, run_underlying Tryd.underlying28 W]; rfl
  unfold Go.part
  simp only [Sem.run_bind, hag, Result.andThen_ok, hsz, if_true]
  rfl
theorem run_eqPi (d : Nat) {p q : Pt} (hp : p.OK) (hq : q.OK) (W : World) : (Op.equalIn (d + 3) 28 (.agg (pcells p).toArray) (.agg (pcells q).toArray)).run Tryd.prog W = .ok (eqP p q) W := by
  rw [run_equalIn_struct W (d + 2) 28 _ _ (by kernel_rfl) (by kernel_rfl)]
  have e : eqP p q = (((Tryd.prog.fieldsOf 28).toList.map fun f => (f.type, f.offset)).all (eqAt p q)) := by
    rw [fieldsP]
    simp [eqAt, eqP, Bool.and_assoc]
  rw [e]
  refine eqFields_dec _ _ _ W _ _ (fun f hm => ⟨?_, ?_⟩)
  · have := List.all_eq_true.1 namesP f hm
    simpa using this
  have h1 : (f.type, f.offset) ∈ (Tryd.prog.fieldsOf 28).toList.map (fun f => (f.type, f.offset)) := List.mem_map.2 ⟨f, hm, rfl⟩
  rw [fieldsP] at h1
  simp only [List.mem_cons, Prod.mk.injEq, List.not_mem_nil, or_false] at h1
  have hi : ∀ (t : TypeId) (k : IntKind) (a b : Nat), Tryd.prog.underlying t = some (.int k) → (Op.equalIn (d + 2) t (.int k (a : Int)) (.int k (b : Int))).run Tryd.prog W = .ok (decide (a = b)) W := fun t k a b ht => by
    rw [run_equalIn_int W (d + 1) t k k _ _ ht]
    refine congrArg (fun b => Result.ok b W) ?_
    rw [Bool.eq_iff_iff]
    simp
    omega
  rcases h1 with ⟨e1, e2⟩ | ⟨e1, e2⟩ | ⟨e1, e2⟩ | ⟨e1, e2⟩ | ⟨e1, e2⟩ | ⟨e1, e2⟩ | ⟨e1, e2⟩ <;> rw [e1, e2]
  · exact ⟨_, _, part_one Tryd.underlying5 (v := .int .u8 (p.kind : Int)) rfl W, part_one Tryd.underlying5 (v := .int .u8 (q.kind : Int)) rfl W, hi _ _ _ _ Tryd.underlying5⟩
  · exact ⟨_, _, part_one Tryd.underlying5 (v := .int .u8 (p.level : Int)) rfl W, part_one Tryd.underlying5 (v := .int .u8 (q.level : Int)) rfl W, hi _ _ _ _ Tryd.underlying5⟩
  · exact ⟨_, _, part_one Tryd.underlying22 (v := .int .u16 (p.obj : Int)) rfl W, part_one Tryd.underlying22 (v := .int .u16 (q.obj : Int)) rfl W, hi _ _ _ _ Tryd.underlying22⟩
  · exact ⟨_, _, part_one Tryd.underlying23 (v := .int .u32 (p.off : Int)) rfl W, part_one Tryd.underlying23 (v := .int .u32 (q.off : Int)) rfl W, hi _ _ _ _ Tryd.underlying23⟩
  · exact ⟨_, _, part_one Tryd.underlying24 (v := .int .u64 (p.birth : Int)) rfl W, part_one Tryd.underlying24 (v := .int .u64 (q.birth : Int)) rfl W, hi _ _ _ _ Tryd.underlying24⟩
  · refine ⟨_, _, part_arr Tryd.underlying25 sizeA32 _ _ W, part_arr Tryd.underlying25 sizeA32 _ _ W, ?_⟩
    rw [ext_hash hp, ext_hash hq]
    exact eq_hash hp.hash hq.hash d W
  · refine ⟨_, _, part_arr Tryd.underlying26 sizeAts _ _ W, part_arr Tryd.underlying26 sizeAts _ _ W, ?_⟩
    rw [ext_ats hp, ext_ats hq]
    exact eq_ats hp.len hq.len d W
theorem ext_root {n : Ino} (h : n.OK) : (icells n).toArray.extract 3 (3 + 41) = (pcells n.root).toArray := by
  apply Array.toList_inj.1
  rw [Array.toList_extract, List.extract_eq_take_drop]
  show ((inums n ++ pcells n.root).drop 3).take (3 + 41 - 3) = pcells n.root
  rw [List.drop_left' (by rfl), List.take_of_length_le (by rw [pcells_length h.root]; omega)]
def eqAtI (a b : Ino) (f : TypeId × Nat) : Bool :=
  if f.2 = 0 then decide (a.kind = b.kind) else if f.2 = 1 then decide (a.links = b.links) else if f.2 = 2 then decide (a.size = b.size) else eqP a.root b.root
theorem ext_elI {ns : List Ino} (h : ∀ p ∈ ns, p.OK) {k : Nat} {p : Ino} (hk : ns[k]? = some p) : (bcells ns).toArray.extract (k * 44) (k * 44 + 44) = (icells p).toArray := by
  obtain ⟨e, hl⟩ := bcells_split h hk
  apply Array.toList_inj.1
  rw [Array.toList_extract, List.extract_eq_take_drop]
  simp only
  rw [e, show k * 44 = 44 * k by omega, List.drop_left' hl, show 44 * k + 44 - 44 * k = 44 by omega, List.take_left' (icells_length (h p (List.mem_of_getElem? hk)))]
theorem itemsI {ns ms : List Ino} (h : ns.length = 4) (h' : ms.length = 4) : ((List.range 4).all fun j => eqI (ns.getD j zeroI) (ms.getD j zeroI)) = decide (ns = ms) := by
  rw [Bool.eq_iff_iff, List.all_eq_true, decide_eq_true_iff]
  constructor
  · intro H
    apply List.ext_getElem (by rw [h, h'])
    intro j h1 h2
    have := eqI_iff.1 (H j (List.mem_range.2 (by omega)))
    simpa [List.getD_eq_getElem?_getD, h1, h2] using this
  · rintro rfl j _
    exact eqI_same _
theorem sizeIn : (Tryd.prog.info? 32).map (·.size) = some 44 := by kernel_rfl
theorem size_icI {n : Ino} (h : n.OK) : (Tryd.prog.info? 32).map (·.size) = some (icells n).toArray.size := by rw [List.size_toArray, icells_length h]; exact sizeIn
theorem fieldsIn : (Tryd.prog.fieldsOf 32).toList.map (fun f => (f.type, f.offset)) = [(5, 0), (22, 1), (23, 2), (28, 3)] := by kernel_rfl
theorem namesIn : ((Tryd.prog.fieldsOf 32).toList.all fun f => f.name != "_") = true := by kernel_rfl
theorem run_eqId (d : Nat) {p q : Ino} (hp : p.OK) (hq : q.OK) (W : World) : (Op.equalIn (d + 4) 32 (.agg (icells p).toArray) (.agg (icells q).toArray)).run Tryd.prog W = .ok (eqI p q) W := by
  rw [run_equalIn_struct W (d + 3) 32 _ _ (by kernel_rfl) (by kernel_rfl)]
  have e : eqI p q = (((Tryd.prog.fieldsOf 32).toList.map fun f => (f.type, f.offset)).all (eqAtI p q)) := by
    rw [fieldsIn]
    simp [eqAtI, eqI, Bool.and_assoc]
  rw [e]
  refine eqFields_dec _ _ _ W _ _ (fun f hm => ⟨?_, ?_⟩)
  · have := List.all_eq_true.1 namesIn f hm
    simpa using this
  have h1 : (f.type, f.offset) ∈ (Tryd.prog.fieldsOf 32).toList.map (fun f => (f.type, f.offset)) := List.mem_map.2 ⟨f, hm, rfl⟩
  rw [fieldsIn] at h1
  simp only [List.mem_cons, Prod.mk.injEq, List.not_mem_nil, or_false] at h1
  have hi : ∀ (t : TypeId) (k : IntKind) (a b : Nat), Tryd.prog.underlying t = some (.int k) → (Op.equalIn (d + 3) t (.int k (a : Int)) (.int k (b : Int))).run Tryd.prog W = .ok (decide (a = b)) W := fun t k a b ht => by
    rw [run_equalIn_int W (d + 2) t k k _ _ ht]
    refine congrArg (fun b => Result.ok b W) ?_
    rw [Bool.eq_iff_iff]
    simp
    omega
  rcases h1 with ⟨e1, e2⟩ | ⟨e1, e2⟩ | ⟨e1, e2⟩ | ⟨e1, e2⟩ <;> rw [e1, e2]
  · exact ⟨_, _, part_one Tryd.underlying5 (v := .int .u8 (p.kind : Int)) rfl W, part_one Tryd.underlying5 (v := .int .u8 (q.kind : Int)) rfl W, hi _ _ _ _ Tryd.underlying5⟩
  · exact ⟨_, _, part_one Tryd.underlying22 (v := .int .u16 (p.links : Int)) rfl W, part_one Tryd.underlying22 (v := .int .u16 (q.links : Int)) rfl W, hi _ _ _ _ Tryd.underlying22⟩
  · exact ⟨_, _, part_one Tryd.underlying23 (v := .int .u32 (p.size : Int)) rfl W, part_one Tryd.underlying23 (v := .int .u32 (q.size : Int)) rfl W, hi _ _ _ _ Tryd.underlying23⟩
  · refine ⟨_, _, part_ptrI _ _ W, part_ptrI _ _ W, ?_⟩
    rw [ext_root hp, ext_root hq]
    exact run_eqPi d hp.root hq.root W
theorem part_In (xs : Array Value) (off : Nat) (W : World) : (Go.part 32 xs off).run Tryd.prog W = .ok (.agg (xs.extract off (off + 44))) W := by
  obtain ⟨i, h1, h2⟩ := Option.map_eq_some_iff.1 sizeIn
  have hsz : (sizeOf 32).run Tryd.prog W = .ok 44 W := by simp [sizeOf, typeInfo, h1, h2]
  have hag : (isAgg 32).run Tryd.prog W = .ok true W := by
    unfold isAgg
    rw [Sem.run_bind, run_underlying Tryd.underlying32 W]; rfl
  unfold Go.part
  simp only [Sem.run_bind, hag, Result.andThen_ok, hsz, if_true]
  rfl
theorem cellsIn : Tryd.prog.cellsOf 32 = 44 := by kernel_rfl
theorem run_ixI {t : TypeId} (hu : Tryd.prog.underlying t = some (.array 4 32)) {ns : List Ino} (h : BOK ns) {k : Nat} {p : Ino} (hk : ns[k]? = some p) (W : World) : (Instr.index t (.agg (bcells ns).toArray) (.int .i64 (k : Int))).run Tryd.prog W = .ok (.agg (icells p).toArray) W := by
  obtain ⟨i, h1, h2⟩ := Option.map_eq_some_iff.1 sizeIn
  have hsz : (sizeOf 32).run Tryd.prog W = .ok 44 W := by simp [sizeOf, typeInfo, h1, h2]
  obtain ⟨hl, _⟩ := List.getElem?_eq_some_iff.1 hk
  rw [h.len] at hl
  have h0 : (0 : Int) ≤ k := by omega
  have hi' : (k : Int) < (4 : Nat) := by omega
  have hx := ext_elI h.ok hk
  unfold Instr.index
  simp only [asIntOf, Sem.run_bind, Sem.run_pure, Result.andThen_ok, run_underlying hu W]
  rw [if_pos ⟨h0, hi'⟩]
  simp only [Sem.run_bind, hsz, Result.andThen_ok, part_In, Int.toNat_natCast, hx]
theorem run_eqBI {t : TypeId} (hu : Tryd.prog.underlying t = some (.array 4 32)) {ns ms : List Ino} (h : BOK ns) (h' : BOK ms) (W : World) : (Op.equalIn 10000 t (.agg (bcells ns).toArray) (.agg (bcells ms).toArray)).run Tryd.prog W = .ok (decide (ns = ms)) W := by
  obtain ⟨i, h1, h2⟩ := Option.map_eq_some_iff.1 sizeIn
  rw [run_equalIn_array W 9999 _ _ hu h1, ← itemsI h.len h'.len]
  refine eqItems_dec _ _ _ _ _ W _ _ (fun j hj => ?_)
  have hj8 : j < 4 := List.mem_range.1 hj
  obtain ⟨p, hp⟩ := h.get hj8
  obtain ⟨q, hq⟩ := h'.get hj8
  refine ⟨.agg (icells p).toArray, .agg (icells q).toArray, ?_, ?_, ?_⟩
  · rw [part_In, cellsIn, ext_elI h.ok hp]
  · rw [part_In, cellsIn, ext_elI h'.ok hq]
  · rw [List.getD_eq_getElem?_getD, List.getD_eq_getElem?_getD, hp, hq]
    exact run_eqId 9995 (h.at hp) (h'.at hq) W
section
variable {ρ : Operand → Value} {o : Oper} {x y : Operand} {w : World}
theorem ex_ldIn {n : Ino} (hn : n.OK) {g : Nat} {t' : TypeId} (hB : Blk w g (icells n) t') (ho : o.op = .load 32 x) (hx : ρ x = .pointer (some ⟨g, 0, none⟩)) : (execOp ρ o).run Tryd.prog w = .ok (.value (.agg (icells n).toArray)) w :=
  ex_ld (ty := 32) (cs := icells n) ho hx (rng_all hB) Tryd.underlying32 rfl (by rw [sizeIn, icells_length hn])
theorem ex_ldEI {ns : List Ino} {g off : Nat} {t' : TypeId} (h : BOK ns) (hB : Blk w g (bcells ns) t') {k : Nat} {p : Ino} (hk : ns[k]? = some p) (hoff : off = 44 * k) (ho : o.op = .load 32 x) (hx : ρ x = .pointer (some ⟨g, off, none⟩)) : (execOp ρ o).run Tryd.prog w = .ok (.value (.agg (icells p).toArray)) w := by
  subst hoff
  obtain ⟨e, hl⟩ := bcells_split h.ok hk
  have hr := hB.rng _ _ _ e
  rw [hl] at hr
  exact ex_ld (ty := 32) (cs := icells p) ho hx hr Tryd.underlying32 rfl (by rw [sizeIn, icells_length (h.at hk)])
theorem ex_eqInV {a b : Array Value} {r : Bool} (h : (Op.equalIn 10000 32 (.agg a) (.agg b)).run Tryd.prog w = .ok r w) (ho : o.op = .binOp .eql 32 x y 32) (hx : ρ x = .agg a) (hy : ρ y = .agg b) : (execOp ρ o).run Tryd.prog w = .ok (.value (.bool (r))) w := by
  have h' : (Op.equal 32 (.agg a) (.agg b)).run Tryd.prog w = .ok r w := h
  have hb : (binOp .eql 32 (.agg a) (.agg b)).run Tryd.prog w = .ok (.bool (r)) w := by
    show ((do pure (.bool ((← Op.equal 32 (.agg a) (.agg b)))) : Sem Value)).run Tryd.prog w = _
    simp only [Sem.run_bind, h', Result.andThen_ok, Sem.run_pure]
  have hg : (eqGuard .eql 32 x y (.agg a) (.agg b)).run Tryd.prog w = .ok () w := by
    unfold eqGuard
    go_simp
  unfold execOp
  simp only [ho, hx, hy, Sem.run_bind, hg, hb, Result.andThen_ok, Sem.run_pure]
theorem ex_eqIn {n m : Ino} (h : n.OK) (h' : m.OK) (ho : o.op = .binOp .eql 32 x y 32) (hx : ρ x = .agg (icells n).toArray) (hy : ρ y = .agg (icells m).toArray) : (execOp ρ o).run Tryd.prog w = .ok (.value (.bool (eqI n m))) w := ex_eqInV (run_eqId 9996 h h' w) ho hx hy
theorem ex_bldI0 (ho : o.op = .build 32 #[]) : (execOp ρ o).run Tryd.prog w = .ok (.value (.agg (icells zeroI).toArray)) w := by
  have hr : (Instr.build 32 #[]).run Tryd.prog w = .ok (.agg (icells zeroI).toArray) w := run_build w 32 _ _ (by kernel_rfl)
  unfold execOp
  simp only [ho]
  simp only [List.map_toArray, List.map_nil, Sem.run_bind, hr, Result.andThen_ok, Sem.run_pure]
theorem ex_ldRtI {n : Ino} (hn : n.OK) {g : Nat} {t' : TypeId} (hB : Blk w g (icells n) t') (ho : o.op = .load 28 x) (hx : ρ x = .pointer (some ⟨g, 3, none⟩)) : (execOp ρ o).run Tryd.prog w = .ok (.value (.agg (pcells n.root).toArray)) w := by
  have hr := hB.rng (inums n) (pcells n.root) [] (by simp [icells])
  exact ex_ld (ty := 28) (cs := pcells n.root) ho hx hr Tryd.underlying28 rfl (by rw [sizeP, pcells_length hn.root])
end
theorem sizeRn : (Tryd.prog.info? 30).map (·.size) = some 44 := by kernel_rfl
theorem fieldsRn : (Tryd.prog.fieldsOf 30).toList.map (fun f => (f.type, f.offset)) = [(5, 0), (22, 1), (23, 2), (28, 3)] := by kernel_rfl
theorem namesRn : ((Tryd.prog.fieldsOf 30).toList.all fun f => f.name != "_") = true := by kernel_rfl
theorem run_eqRd (d : Nat) {p q : Ino} (hp : p.OK) (hq : q.OK) (W : World) : (Op.equalIn (d + 4) 30 (.agg (icells p).toArray) (.agg (icells q).toArray)).run Tryd.prog W = .ok (eqI p q) W := by
  rw [run_equalIn_struct W (d + 3) 30 _ _ (by kernel_rfl) (by kernel_rfl)]
  have e : eqI p q = (((Tryd.prog.fieldsOf 30).toList.map fun f => (f.type, f.offset)).all (eqAtI p q)) := by
    rw [fieldsRn]
    simp [eqAtI, eqI, Bool.and_assoc]
  rw [e]
  refine eqFields_dec _ _ _ W _ _ (fun f hm => ⟨?_, ?_⟩)
  · have := List.all_eq_true.1 namesRn f hm
    simpa using this
  have h1 : (f.type, f.offset) ∈ (Tryd.prog.fieldsOf 30).toList.map (fun f => (f.type, f.offset)) := List.mem_map.2 ⟨f, hm, rfl⟩
  rw [fieldsRn] at h1
  simp only [List.mem_cons, Prod.mk.injEq, List.not_mem_nil, or_false] at h1
  have hi : ∀ (t : TypeId) (k : IntKind) (a b : Nat), Tryd.prog.underlying t = some (.int k) → (Op.equalIn (d + 3) t (.int k (a : Int)) (.int k (b : Int))).run Tryd.prog W = .ok (decide (a = b)) W := fun t k a b ht => by
    rw [run_equalIn_int W (d + 2) t k k _ _ ht]
    refine congrArg (fun b => Result.ok b W) ?_
    rw [Bool.eq_iff_iff]
    simp
    omega
  rcases h1 with ⟨e1, e2⟩ | ⟨e1, e2⟩ | ⟨e1, e2⟩ | ⟨e1, e2⟩ <;> rw [e1, e2]
  · exact ⟨_, _, part_one Tryd.underlying5 (v := .int .u8 (p.kind : Int)) rfl W, part_one Tryd.underlying5 (v := .int .u8 (q.kind : Int)) rfl W, hi _ _ _ _ Tryd.underlying5⟩
  · exact ⟨_, _, part_one Tryd.underlying22 (v := .int .u16 (p.links : Int)) rfl W, part_one Tryd.underlying22 (v := .int .u16 (q.links : Int)) rfl W, hi _ _ _ _ Tryd.underlying22⟩
  · exact ⟨_, _, part_one Tryd.underlying23 (v := .int .u32 (p.size : Int)) rfl W, part_one Tryd.underlying23 (v := .int .u32 (q.size : Int)) rfl W, hi _ _ _ _ Tryd.underlying23⟩
  · refine ⟨_, _, part_ptrI _ _ W, part_ptrI _ _ W, ?_⟩
    rw [ext_root hp, ext_root hq]
    exact run_eqPi d hp.root hq.root W
theorem cellsRn : Tryd.prog.cellsOf 30 = 44 := by kernel_rfl
section
variable {ρ : Operand → Value} {o : Oper} {x y : Operand} {w : World}
theorem ex_ldRn {n : Ino} (hn : n.OK) {g : Nat} {t' : TypeId} (hB : Blk w g (icells n) t') (ho : o.op = .load 30 x) (hx : ρ x = .pointer (some ⟨g, 0, none⟩)) : (execOp ρ o).run Tryd.prog w = .ok (.value (.agg (icells n).toArray)) w :=
  ex_ld (ty := 30) (cs := icells n) ho hx (rng_all hB) Tryd.underlying30 rfl (by rw [sizeRn, icells_length hn])
theorem ex_ldER {ns : List Ino} {g off : Nat} {t' : TypeId} (h : BOK ns) (hB : Blk w g (bcells ns) t') {k : Nat} {p : Ino} (hk : ns[k]? = some p) (hoff : off = 44 * k) (ho : o.op = .load 30 x) (hx : ρ x = .pointer (some ⟨g, off, none⟩)) : (execOp ρ o).run Tryd.prog w = .ok (.value (.agg (icells p).toArray)) w := by
  subst hoff
  obtain ⟨e, hl⟩ := bcells_split h.ok hk
  have hr := hB.rng _ _ _ e
  rw [hl] at hr
  exact ex_ld (ty := 30) (cs := icells p) ho hx hr Tryd.underlying30 rfl (by rw [sizeRn, icells_length (h.at hk)])
theorem ex_eqRnV {a b : Array Value} {r : Bool} (h : (Op.equalIn 10000 30 (.agg a) (.agg b)).run Tryd.prog w = .ok r w) (ho : o.op = .binOp .eql 30 x y 30) (hx : ρ x = .agg a) (hy : ρ y = .agg b) : (execOp ρ o).run Tryd.prog w = .ok (.value (.bool (r))) w := by
  have h' : (Op.equal 30 (.agg a) (.agg b)).run Tryd.prog w = .ok r w := h
  have hb : (binOp .eql 30 (.agg a) (.agg b)).run Tryd.prog w = .ok (.bool (r)) w := by
    show ((do pure (.bool ((← Op.equal 30 (.agg a) (.agg b)))) : Sem Value)).run Tryd.prog w = _
    simp only [Sem.run_bind, h', Result.andThen_ok, Sem.run_pure]
  have hg : (eqGuard .eql 30 x y (.agg a) (.agg b)).run Tryd.prog w = .ok () w := by
    unfold eqGuard
    go_simp
  unfold execOp
  simp only [ho, hx, hy, Sem.run_bind, hg, hb, Result.andThen_ok, Sem.run_pure]
theorem ex_eqRn {n m : Ino} (h : n.OK) (h' : m.OK) (ho : o.op = .binOp .eql 30 x y 30) (hx : ρ x = .agg (icells n).toArray) (hy : ρ y = .agg (icells m).toArray) : (execOp ρ o).run Tryd.prog w = .ok (.value (.bool (eqI n m))) w := ex_eqRnV (run_eqRd 9996 h h' w) ho hx hy
theorem ex_bldR0 (ho : o.op = .build 30 #[]) : (execOp ρ o).run Tryd.prog w = .ok (.value (.agg (icells zeroI).toArray)) w := by
  have hr : (Instr.build 30 #[]).run Tryd.prog w = .ok (.agg (icells zeroI).toArray) w := run_build w 30 _ _ (by kernel_rfl)
  unfold execOp
  simp only [ho]
  simp only [List.map_toArray, List.map_nil, Sem.run_bind, hr, Result.andThen_ok, Sem.run_pure]
theorem ex_ldRtR {n : Ino} (hn : n.OK) {g : Nat} {t' : TypeId} (hB : Blk w g (icells n) t') (ho : o.op = .load 28 x) (hx : ρ x = .pointer (some ⟨g, 3, none⟩)) : (execOp ρ o).run Tryd.prog w = .ok (.value (.agg (pcells n.root).toArray)) w := by
  have hr := hB.rng (inums n) (pcells n.root) [] (by simp [icells])
  exact ex_ld (ty := 28) (cs := pcells n.root) ho hx hr Tryd.underlying28 rfl (by rw [sizeP, pcells_length hn.root])
end
theorem sizeBn : (Tryd.prog.info? 34).map (·.size) = some 176 := by kernel_rfl
theorem size_bcB {ns : List Ino} (h : BOK ns) : (Tryd.prog.info? 34).map (·.size) = some (bcells ns).toArray.size := by rw [h.size]; exact sizeBn
theorem size_bcBl {ns : List Ino} (h : BOK ns) : (Tryd.prog.info? 34).map (·.size) = some (bcells ns).length := by rw [h.cells]; exact sizeBn
section
variable {ρ : Operand → Value} {o : Oper} {x y : Operand} {w : World}
theorem ex_ldBn {ns : List Ino} (h : BOK ns) {g : Nat} {t' : TypeId} (hB : Blk w g (bcells ns) t') (ho : o.op = .load 34 x) (hx : ρ x = .pointer (some ⟨g, 0, none⟩)) : (execOp ρ o).run Tryd.prog w = .ok (.value (.agg (bcells ns).toArray)) w :=
  ex_ld (ty := 34) (cs := bcells ns) ho hx (rng_all hB) Tryd.underlying34 rfl (by rw [sizeBn, h.cells])
theorem ex_iaB {b k : Nat} (hk : k < 4) (ho : o.op = .indexAddr 34 x y) (hx : ρ x = .pointer (some ⟨b, 0, none⟩)) (hy : ρ y = .int .i64 (k : Int)) : (execOp ρ o).run Tryd.prog w = .ok (.value (.pointer (some ⟨b, k * 44, none⟩))) w := by
  have h1 : ¬ (4 : Int) ≤ (k : Int) := by omega
  have h2 : (k : Int) < 4 := by omega
  unfold execOp
  simp only [ho]
  go_simp
theorem ex_neBn {ns ms : List Ino} (h : BOK ns) (h' : BOK ms) (ho : o.op = .binOp .neq 34 x y 34) (hx : ρ x = .agg (bcells ns).toArray) (hy : ρ y = .agg (bcells ms).toArray) : (execOp ρ o).run Tryd.prog w = .ok (.value (.bool (!decide (ns = ms)))) w := by
  have h := run_eqBI Tryd.underlying34 h h' w
  unfold execOp
  simp only [ho]
  go_simp
theorem ex_bldB0 (ho : o.op = .build 34 #[]) : (execOp ρ o).run Tryd.prog w = .ok (.value (.agg (bcells zeros4).toArray)) w := by
  have hr : (Instr.build 34 #[]).run Tryd.prog w = .ok (.agg (bcells zeros4).toArray) w := run_build w 34 _ _ (by kernel_rfl)
  unfold execOp
  simp only [ho]
  simp only [List.map_toArray, List.map_nil, Sem.run_bind, hr, Result.andThen_ok, Sem.run_pure]
end
section
variable {ρ : Operand → Value} {o : Oper} {x y : Operand} {w : World}
theorem ex_iaA {b k : Nat} (hk : k < 4) (ho : o.op = .indexAddr 31 x y) (hx : ρ x = .pointer (some ⟨b, 0, none⟩)) (hy : ρ y = .int .i64 (k : Int)) : (execOp ρ o).run Tryd.prog w = .ok (.value (.pointer (some ⟨b, k * 44, none⟩))) w := by
  have h1 : ¬ (4 : Int) ≤ (k : Int) := by omega
  have h2 : (k : Int) < 4 := by omega
  unfold execOp
  simp only [ho]
  go_simp
end
/-- An element is stored. -/
theorem below_setsI {B g : Nat} {w0 : World} : ∀ (vs : List Value) (o : Nat) (w : World), Below B w0 w → B ≤ g → Below B w0 (w.setCells g o vs)
  | [], _, _, h, _ => h
  | v :: vs, o, w, h, hg => below_setsI vs (o + 1) _ (h.trans ⟨rfl, rfl, rfl, by simp, fun k hk => heap_setCell_other w ⟨g, o, none⟩ k v (by simp; omega)⟩) hg
theorem blk_setI {w : World} {g : Nat} {t : TypeId} {ns : List Ino} (h : BOK ns) (hB : Blk w g (bcells ns) t) {k off : Nat} (hk : k < 4) (ho : off = 44 * k) {q : Ino} (hq : q.OK) : Blk (w.setCells g off (icells q)) g (bcells (ns.set k q)) t := by
  subst ho
  have h1 := blk_setCells g t (icells q) (44 * k) w _ hB (by rw [h.cells, icells_length hq]; omega)
  have h2 := bcells_set h.ok (k := k) (by rw [h.len]; exact hk) hq
  unfold splice at h2
  rw [List.append_assoc, h2] at h1
  exact h1
/-- Results: an array in a cell, and a number. -/
theorem results_ctI {fn : Func} {p u : Tmp} {ty e n : Nat} (h : fn.results = #[.cell p ty, .tmp u]) (tmps : Array Value) (w : World) (g t : Nat) (cs : List Value)
    (hp : tmps.getD p undef = .pointer (some ⟨g, 0, none⟩)) (hg : Blk w g cs t) (hu : Tryd.prog.underlying ty = some (.array n e)) (hi : (Tryd.prog.info? ty).map (·.size) = some cs.length) :
    (results fn tmps).run Tryd.prog w = .ok (.tuple #[.agg cs.toArray, tmps.getD u undef]) w := by
  rw [results_cell_tmp h, hp]
  simp only [asAddr, Sem.run_pure, Result.andThen_ok, run_loadVar_row w g t ty cs.toArray (0, 0) _ hg hu rfl (by simpa using hi)]
end Go.Proofs.YtecngehkdjmjmaaDoor
/- Inodes: Leaf, Count, of; whether one may be, as the program and as the document say it. -/
namespace Go.Proofs.YtecngehkdjmjmaaDoor
open Go.RowKit

theorem ex_eqPb {ρ : Operand → Value} {o : Oper} {x y : Operand} {p q : Pt} {z : Bool} {w : World} (hz : eqP p q = z) (ho : o.op = .binOp .eql 28 x y 28) (hx : ρ x = .agg (pcells p).toArray) (hy : ρ y = .agg (pcells q).toArray) (hp : p.OK) (hq : q.OK) : (execOp ρ o).run Tryd.prog w = .ok (.value (.bool z)) w := hz ▸ ex_eqP ho hx hy hp hq
theorem ex_eqIb {ρ : Operand → Value} {o : Oper} {x y : Operand} {p q : Ino} {z : Bool} {w : World} (hz : eqI p q = z) (ho : o.op = .binOp .eql 32 x y 32) (hx : ρ x = .agg (icells p).toArray) (hy : ρ y = .agg (icells q).toArray) (hp : p.OK) (hq : q.OK) : (execOp ρ o).run Tryd.prog w = .ok (.value (.bool z)) w := hz ▸ ex_eqIn hp hq ho hx hy
theorem ex_eqRb {ρ : Operand → Value} {o : Oper} {x y : Operand} {p q : Ino} {z : Bool} {w : World} (hz : eqI p q = z) (ho : o.op = .binOp .eql 30 x y 30) (hx : ρ x = .agg (icells p).toArray) (hy : ρ y = .agg (icells q).toArray) (hp : p.OK) (hq : q.OK) : (execOp ρ o).run Tryd.prog w = .ok (.value (.bool z)) w := hz ▸ ex_eqRn hp hq ho hx hy
def leafK (k : Nat) : Nat := if k = 1 then 1 else if k = 2 ∨ k = 3 then 2 else 0
theorem leaf11_any (k : Nat) (w : World) : Calls Tryd.prog 16 #[.int .u8 (k : Int)] w fun e w' => e = .returned (.int .u8 (leafK k : Int)) ∧ w' = w := by
  generalize hPost : (fun e w' => e = Ending.returned (.int .u8 (leafK k : Int)) ∧ w' = w) = Post
  have HP : Hid (∀ x : Nat, leafK k = x → Post (.returned (.int .u8 (x : Int))) w) := Lib.hid (fun x hx => by rw [← hPost, ← hx]; exact ⟨rfl, rfl⟩)
  clear hPost
  by_cases h1 : k = 1
  · have HE := Lib.hid (HP.out 1 (by unfold leafK; rw [if_pos h1]))
    subst h1
    clear HP
    go_enter Tryd.func16, Tryd.ntmps16
    go_wp2_with fail
    first | exact HE.out | (go_ret; exact HE.out)
  · by_cases h2 : k = 2
    · have HE := Lib.hid (HP.out 2 (by unfold leafK; rw [if_neg h1, if_pos (.inl h2)]))
      subst h2
      clear HP
      go_enter Tryd.func16, Tryd.ntmps16
      go_wp2_with fail
      first | exact HE.out | (go_ret; exact HE.out)
    · by_cases h3 : k = 3
      · have HE := Lib.hid (HP.out 2 (by unfold leafK; rw [if_neg h1, if_pos (.inr h3)]))
        subst h3
        clear HP
        go_enter Tryd.func16, Tryd.ntmps16
        go_wp2_with fail
        first | exact HE.out | (go_ret; exact HE.out)
      · have HE := Lib.hid (HP.out 0 (by unfold leafK; rw [if_neg h1, if_neg (by omega)]))
        have i1 : ¬ (k : Int) = 1 := by omega
        have i2 : ¬ (k : Int) = 2 := by omega
        have i3 : ¬ (k : Int) = 3 := by omega
        clear HP h1 h2 h3
        go_enter Tryd.func16, Tryd.ntmps16
        go_wp2_with fail
        first | exact HE.out | (go_ret; exact HE.out)
def countK (s : Nat) : Nat := (s + 511) / 512
theorem count_any (s : Nat) (hs : s < 4294967296) (w : World) : Calls Tryd.prog 15 #[.int .u32 (s : Int)] w fun e w' => e = .returned (.int .i64 (countK s : Int)) ∧ w' = w := by
  generalize hPost : (fun e w' => e = Ending.returned (.int .i64 (countK s : Int)) ∧ w' = w) = Post
  have HP : Hid (Post (.returned (.int .i64 (countK s : Int))) w) := Lib.hid (by rw [← hPost]; exact ⟨rfl, rfl⟩)
  have e1 : IntKind.u64.wrap (s : Int) = s := by rw [IntKind.wrap_u64]; omega
  have e2 : IntKind.u64.wrap ((s : Int) + 512) = (s : Int) + 512 := by rw [IntKind.wrap_u64]; omega
  have e3 : IntKind.u64.wrap ((s : Int) + 512 - 1) = (s : Int) + 512 - 1 := by rw [IntKind.wrap_u64]; omega
  have e4 : ((s : Int) + 512 - 1).tdiv 512 = (countK s : Int) := by
    rw [Int.tdiv_eq_ediv_of_nonneg (by omega)]
    unfold countK
    omega
  have hc : countK s < 8388609 := by unfold countK; omega
  obtain ⟨c, hcc⟩ : ∃ c, countK s = c := ⟨_, rfl⟩
  rw [hcc] at HP e4 hc
  have e5 : IntKind.u64.wrap (c : Int) = c := by rw [IntKind.wrap_u64]; omega
  have e6 : IntKind.i64.wrap (c : Int) = c := IntWalk.i64_in _ (by omega)
  clear hPost hcc
  go_enter Tryd.func15, Tryd.ntmps15
  go_wp2_with fail
  first | exact HP.out | (go_ret; exact HP.out)
set_option maxRecDepth 100000 in
set_option maxHeartbeats 4000000 in
theorem rooted_any (n : Ino) (h : n.OK) (w : World) (hT : RTab w) : Calls Tryd.prog 18 #[.agg (icells n).toArray] w fun e w' => e = .returned (.bool (rootI n.root)) ∧ Below w.heap.size w w' := by
  have HN := Lib.hid h; have HPO := Lib.hid h.root
  have HB := Lib.hid (Blk.new w (icells n) 32)
  have HW : Hid (Below w.heap.size w (w.alloc (.cells (icells n).toArray 32))) := Lib.hid ((Below.refl _ _).alloc (Nat.le_refl _) _)
  have HT := Lib.hid (hT.alloc (.cells (icells n).toArray 32))
  obtain ⟨b, hb⟩ : ∃ b, rootI n.root = b := ⟨_, rfl⟩
  have HRB := Lib.hid hb
  rw [hb]
  generalize hPost : (fun e w' => e = Ending.returned (.bool b) ∧ Below w.heap.size w w') = Post
  have HP : Hid (∀ w', Below w.heap.size w w' → Post (.returned (.bool b)) w') := Lib.hid fun w' h => by rw [← hPost]; exact ⟨rfl, h⟩
  clear h hT hb hPost
  go_enter Tryd.func18, Tryd.ntmps18
  go_upto_region 1 with fail
  obtain ⟨G, hG⟩ : ∃ G, w.heap.size = G := ⟨_, rfl⟩
  rw [hG] at HB ⊢
  generalize (w.alloc (.cells (icells n).toArray 32)) = W at HB HW HT ⊢
  have c3 := HB.out.cell (j := 3) rfl
  have c4 := HB.out.cell (j := 4) rfl
  obtain ⟨kk, hkk⟩ : ∃ k, n.root.kind = k := ⟨_, rfl⟩
  obtain ⟨ll, hll⟩ : ∃ k, n.root.level = k := ⟨_, rfl⟩
  rw [hkk] at c3
  rw [hll] at c4
  have HK := Lib.hid hkk; have HLL := Lib.hid hll
  clear hkk hll hG
  cases hz : eqP n.root zeroP
  · have HZ := Lib.hid hz
    clear hz
    have HV : Hid (b = (decide (kk = 3) && decide (ll = 2) && mayP n.root)) := Lib.hid (by rw [← HRB.out]; unfold rootI; rw [HZ.out, HK.out, HLL.out]; rfl)
    by_cases h3 : kk = 3
    · subst h3
      by_cases h2 : ll = 2
      · subst h2
        have hv := HV.out
        simp only [decide_true, Bool.true_and] at hv
        subst hv
        go_wp2_with (first | (refine wpL_valG (by rfl) (ex_ldRtI HN.out HB.out rfl rfl) ?_) | (refine wpL_valG (by rfl) (ex_bld0 rfl) ?_) | (refine wpL_valG (by rfl) (ex_eqPb HZ.out rfl rfl rfl HPO.out zeroP_ok) ?_) | fail)
        refine (may_any n.root HPO.out W HT.out).mono ?_
        rintro e w2 ⟨rfl, hb2⟩
        have HE := Lib.hid (HP.out _ (HW.out.trans (hb2.mono HW.out.size)))
        clear hb2
        go_wp2_with fail
        first | exact HE.out | (go_ret; exact HE.out)
      · have hv := HV.out
        rw [decide_eq_false h2] at hv
        simp only [Bool.and_false, Bool.false_and] at hv
        subst hv
        have i2 : ¬ (ll : Int) = 2 := by omega
        have HE := Lib.hid (HP.out _ HW.out)
        go_wp2_with (first | (refine wpL_valG (by rfl) (ex_ldRtI HN.out HB.out rfl rfl) ?_) | (refine wpL_valG (by rfl) (ex_bld0 rfl) ?_) | (refine wpL_valG (by rfl) (ex_eqPb HZ.out rfl rfl rfl HPO.out zeroP_ok) ?_) | fail)
        first | exact HE.out | (go_ret; exact HE.out)
    · have hv := HV.out
      rw [decide_eq_false h3] at hv
      simp only [Bool.false_and] at hv
      subst hv
      have i3 : ¬ (kk : Int) = 3 := by omega
      have HE := Lib.hid (HP.out _ HW.out)
      go_wp2_with (first | (refine wpL_valG (by rfl) (ex_ldRtI HN.out HB.out rfl rfl) ?_) | (refine wpL_valG (by rfl) (ex_bld0 rfl) ?_) | (refine wpL_valG (by rfl) (ex_eqPb HZ.out rfl rfl rfl HPO.out zeroP_ok) ?_) | fail)
      first | exact HE.out | (go_ret; exact HE.out)
  · have HZ := Lib.hid hz
    have hv : b = true := by rw [← HRB.out]; unfold rootI; rw [hz]; rfl
    clear hz
    subst hv
    have HE := Lib.hid (HP.out _ HW.out)
    go_wp2_with (first | (refine wpL_valG (by rfl) (ex_ldRtI HN.out HB.out rfl rfl) ?_) | (refine wpL_valG (by rfl) (ex_bld0 rfl) ?_) | (refine wpL_valG (by rfl) (ex_eqPb HZ.out rfl rfl rfl HPO.out zeroP_ok) ?_) | fail)
    first | exact HE.out | (go_ret; exact HE.out)
end Go.Proofs.YtecngehkdjmjmaaDoor
/- Inodes: whether one may be (program and document); of; the block less what may not be. -/
namespace Go.Proofs.YtecngehkdjmjmaaDoor
open Go.RowKit

theorem mayI_link {n : Ino} (h : n.kind = 3) : mayI n = (decide (1 ≤ n.size) && decide (n.size ≤ 128) && rootI n.root) := by
  have hz : eqI n zeroI = false := by
    rw [Bool.eq_false_iff]
    intro e
    rw [eqI_iff.1 e] at h
    cases h
  unfold mayI
  rw [hz, h]
  by_cases h1 : 1 ≤ n.size
  · by_cases h2 : n.size ≤ 128
    · have h3 : n.size ≤ 32768 := by omega
      simp [h1, h2, h3]
    · simp [h2]
  · simp [h1]
theorem mayI_fd {n : Ino} (h : n.kind = 1 ∨ n.kind = 2) : mayI n = (decide (n.size ≤ 32768) && rootI n.root) := by
  have hz : eqI n zeroI = false := by
    rw [Bool.eq_false_iff]
    intro e
    rw [eqI_iff.1 e] at h
    rcases h with h | h <;> cases h
  unfold mayI
  have h3 : 1 ≤ n.kind ∧ n.kind ≤ 3 := by omega
  have h4 : ¬ n.kind = 3 := by omega
  rw [hz]
  simp [h3, h4]
theorem mayI_other {n : Ino} (h : n.kind < 1 ∨ 3 < n.kind) : mayI n = eqI n zeroI := by
  unfold mayI
  have h3 : ¬ (1 ≤ n.kind ∧ n.kind ≤ 3) := by omega
  rw [decide_eq_false h3]
  simp
set_option maxRecDepth 100000 in
set_option maxHeartbeats 4000000 in
theorem imay_any (n : Ino) (h : n.OK) (w : World) (hT : RTab w) : Calls Tryd.prog 9 #[.agg (icells n).toArray] w fun e w' => e = .returned (.bool (mayI n)) ∧ Below w.heap.size w w' := by
  have HN := Lib.hid h
  have HB := Lib.hid (Blk.new w (icells n) 32)
  have HW : Hid (Below w.heap.size w (w.alloc (.cells (icells n).toArray 32))) := Lib.hid ((Below.refl _ _).alloc (Nat.le_refl _) _)
  have HT := Lib.hid (hT.alloc (.cells (icells n).toArray 32))
  obtain ⟨b, hb⟩ : ∃ b, mayI n = b := ⟨_, rfl⟩
  have HRB := Lib.hid hb
  rw [hb]
  generalize hPost : (fun e w' => e = Ending.returned (.bool b) ∧ Below w.heap.size w w') = Post
  have HP : Hid (∀ c, b = c → ∀ w', Below w.heap.size w w' → Post (.returned (.bool c)) w') := Lib.hid fun c hc w' h => by rw [← hPost, hc]; exact ⟨rfl, h⟩
  clear h hT hb hPost
  go_enter Tryd.func9, Tryd.ntmps9
  go_upto_region 1 with fail
  obtain ⟨G, hG⟩ : ∃ G, w.heap.size = G := ⟨_, rfl⟩
  rw [hG] at HB ⊢
  generalize (w.alloc (.cells (icells n).toArray 32)) = W at HB HW HT ⊢
  have c0 := HB.out.cell (j := 0) rfl
  have c2 := HB.out.cell (j := 2) rfl
  have HC : Hid (∀ {w2}, Below W.heap.size W w2 → Below w.heap.size w w2) := Lib.hid (fun hb => HW.out.trans (hb.mono HW.out.size))
  have HRC := Lib.hid (rooted_any n HN.out W HT.out)
  have HK1 : Hid (n.kind = 3 → b = (decide (1 ≤ n.size) && decide (n.size ≤ 128) && rootI n.root)) := Lib.hid (fun h => HRB.out.symm.trans (mayI_link h))
  have HK2 : Hid (n.kind = 1 ∨ n.kind = 2 → b = (decide (n.size ≤ 32768) && rootI n.root)) := Lib.hid (fun h => HRB.out.symm.trans (mayI_fd h))
  have HK3 : Hid (n.kind < 1 ∨ 3 < n.kind → b = eqI n zeroI) := Lib.hid (fun h => HRB.out.symm.trans (mayI_other h))
  obtain ⟨kk, hkk⟩ : ∃ k, n.kind = k := ⟨_, rfl⟩
  obtain ⟨ss, hss⟩ : ∃ k, n.size = k := ⟨_, rfl⟩
  rw [hkk] at c0 HK1 HK2 HK3
  rw [hss] at c2 HK1 HK2
  obtain ⟨rr, hrr⟩ : ∃ r, rootI n.root = r := ⟨_, rfl⟩
  rw [hrr] at HK1 HK2 HRC
  clear hkk hss hG hrr
  by_cases h3 : kk = 3
  · have HV := Lib.hid (HK1.out h3)
    clear HK1 HK2 HK3
    subst h3
    by_cases s1 : ss < 1
    · have hv : b = false := by rw [HV.out, decide_eq_false (by omega)]; rfl
      have HE := Lib.hid (HP.out _ hv _ HW.out)
      have i1 : (ss : Int) < 1 := by omega
      clear HV hv s1 HRC
      go_wp2_with fail
      first | exact HE.out | (go_ret; exact HE.out)
    · have i1 : ¬ (ss : Int) < 1 := by omega
      have i1' : decide ((ss : Int) < 1) = false := decide_eq_false i1
      by_cases s2 : 128 < ss
      · have hv : b = false := by rw [HV.out, decide_eq_false (by omega : ¬ ss ≤ 128)]; simp
        have HE := Lib.hid (HP.out _ hv _ HW.out)
        have i2 : (128 : Int) < (ss : Int) := by omega
        clear HV hv s1 s2 HRC
        go_wp2_with fail
        first | exact HE.out | (go_ret; exact HE.out)
      · have hv : b = rr := by rw [HV.out, decide_eq_true (by omega), decide_eq_true (by omega)]; rfl
        have i2 : ¬ (128 : Int) < (ss : Int) := by omega
        have i2' : decide ((128 : Int) < (ss : Int)) = false := decide_eq_false i2
        have i3 : (ss : Int) ≤ 32768 := by omega
        have HBV := Lib.hid hv
        clear HV hv s1 s2
        go_wp2_with (first | (refine wpL_valG (by rfl) (ex_ldIn HN.out HB.out rfl rfl) ?_) | fail)
        refine HRC.out.mono ?_
        rintro e w2 ⟨rfl, hb2⟩
        have HE := Lib.hid (HP.out _ HBV.out _ (HC.out hb2))
        clear hb2 HRC HBV HRB
        go_wp2_with fail
        first | exact HE.out | (go_ret; exact HE.out)
  · have j3 : ¬ (kk : Int) = 3 := by omega
    by_cases h12 : kk = 1 ∨ kk = 2
    · have HV := Lib.hid (HK2.out h12)
      clear HK1 HK2 HK3 h3
      by_cases s1 : 32768 < ss
      · have hv : b = false := by rw [HV.out, decide_eq_false (by omega)]; rfl
        have HE := Lib.hid (HP.out _ hv _ HW.out)
        have i1 : ¬ (ss : Int) ≤ 32768 := by omega
        have i1' : decide ((ss : Int) ≤ 32768) = false := decide_eq_false i1
        clear HV hv s1 HRC
        rcases h12 with h | h
        · subst h
          go_wp2_with fail
          first | exact HE.out | (go_ret; exact HE.out)
        · subst h
          go_wp2_with fail
          first | exact HE.out | (go_ret; exact HE.out)
      · have hv : b = rr := by rw [HV.out, decide_eq_true (by omega)]; rfl
        have i3 : (ss : Int) ≤ 32768 := by omega
        have HBV := Lib.hid hv
        clear HV hv s1
        rcases h12 with h | h
        · subst h
          go_wp2_with (first | (refine wpL_valG (by rfl) (ex_ldIn HN.out HB.out rfl rfl) ?_) | fail)
          refine HRC.out.mono ?_
          rintro e w2 ⟨rfl, hb2⟩
          have HE := Lib.hid (HP.out _ HBV.out _ (HC.out hb2))
          clear hb2 HRC HBV HRB
          go_wp2_with fail
          first | exact HE.out | (go_ret; exact HE.out)
        · subst h
          go_wp2_with (first | (refine wpL_valG (by rfl) (ex_ldIn HN.out HB.out rfl rfl) ?_) | fail)
          refine HRC.out.mono ?_
          rintro e w2 ⟨rfl, hb2⟩
          have HE := Lib.hid (HP.out _ HBV.out _ (HC.out hb2))
          clear hb2 HRC HBV HRB
          go_wp2_with fail
          first | exact HE.out | (go_ret; exact HE.out)
    · have j1 : ¬ (kk : Int) = 1 := by omega
      have j2 : ¬ (kk : Int) = 2 := by omega
      have HV := Lib.hid (HK3.out (by omega))
      have HZ : Hid (eqI n zeroI = b) := Lib.hid HV.out.symm
      have HE := Lib.hid (HP.out _ rfl _ HW.out)
      clear HK1 HK2 HK3 h3 h12 HV HRC HRB
      go_wp2_with (first | (refine wpL_valG (by rfl) (ex_ldIn HN.out HB.out rfl rfl) ?_) | (refine wpL_valG (by rfl) (ex_bldI0 rfl) ?_) | (refine wpL_valG (by rfl) (ex_eqIb HZ.out rfl rfl rfl HN.out zeroI_ok) ?_) | fail)
      first | exact HE.out | (go_ret; exact HE.out)
end Go.Proofs.YtecngehkdjmjmaaDoor
