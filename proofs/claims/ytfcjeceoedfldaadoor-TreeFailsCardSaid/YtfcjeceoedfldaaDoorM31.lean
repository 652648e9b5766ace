/- Rows in boxes; All in the frame; leaves that are one. -/
import Derived.Test.YtfcjeceoedfldaaDoorM30
namespace Go.Proofs.YtfcjeceoedfldaaDoor
open Go.RowKit

attribute [local go_sem] Oper.semAt_some

/-- A row that lies in boxes. -/
def RowB (e : TypeId) (size : Nat) (b : Bxs) (v : Value) (n : Nat) (xs : List Value) : Prop :=
  xs.length = n * size ∧ ((v = .slice none 0 0 ∧ n = 0 ∧ b = []) ∨ ∃ g cap cs, v = .slice (some ⟨g, 0, none⟩) n cap ∧ b = [(g, cs, e)] ∧ n ≤ cap ∧ cap ≤ maxLen ∧ cs.length = cap * size ∧ cs.take (n * size) = xs)
theorem RowB.of {X : World} {B : Nat} {e : TypeId} {size : Nat} {v : Value} {n : Nat} {xs : List Value} (h : X.ownsRow B e size v n xs) : ∃ b, RowB e size b v n xs ∧ ∀ y ∈ b, Blk X y.1 y.2.1 y.2.2 ∧ v.ownBlock = some y.1 := by
  obtain ⟨h1, h2⟩ := h
  rcases h2 with ⟨rfl, rfl⟩ | ⟨g, cap, cur, rfl, hb, hg, hc, hm, hs, ht⟩
  · exact ⟨[], ⟨h1, .inl ⟨rfl, rfl, rfl⟩⟩, fun y hy => by simp at hy⟩
  · refine ⟨[(g, cur.toList, e)], ⟨h1, .inr ⟨g, cap, cur.toList, rfl, rfl, hc, hm, by simpa using hs, ht⟩⟩, fun y hy => ?_⟩
    rw [List.mem_singleton] at hy
    subst hy
    exact ⟨by unfold Blk; simpa using hg, rfl⟩
theorem RowB.own {X : World} {e : TypeId} {size : Nat} {b : Bxs} {v : Value} {n : Nat} {xs : List Value} (h : RowB e size b v n xs) (hb : ∀ y ∈ b, Blk X y.1 y.2.1 y.2.2) : X.ownsRow 0 e size v n xs := by
  obtain ⟨h1, h2⟩ := h
  refine ⟨h1, ?_⟩
  rcases h2 with ⟨rfl, rfl, rfl⟩ | ⟨g, cap, cs, rfl, rfl, hc, hm, hs, ht⟩
  · exact .inl ⟨rfl, rfl⟩
  · exact .inr ⟨g, cap, cs.toArray, rfl, by omega, hb (g, cs, e) (by simp), hc, hm, by simpa using hs, by simpa using ht⟩
theorem Fr.sub {w X : World} {D : Nat} {s : Sh} {bs bs' : Bxs} (h : Fr w D s bs X) (hs : ∀ y ∈ bs', y ∈ bs) : Fr w D s bs' X := by
  obtain ⟨⟨L1, v1, h1, h2, h3, h4⟩, k, hl⟩ := h
  exact ⟨⟨L1, v1, h1, h2, fun b hb => h3 b (hs b hb), h4⟩, fun b hb => k b (hs b hb), hl⟩
theorem Fr.row {w X : World} {D : Nat} {s : Sh} {bs : Bxs} (h : Fr w D s bs X) {e : TypeId} {size : Nat} {b : Bxs} {v : Value} {n : Nat} {xs : List Value} (hr : RowB e size b v n xs) (hs : ∀ y ∈ b, y ∈ bs) : X.ownsRow 0 e size v n xs := hr.own fun y hy => h.bx y (hs y hy)
/-- All, with its answers as boxes. -/
theorem fr_all {w X : World} {D : Nat} {s : Sh} {bs : Bxs} (h : Fr w D s bs X) (p : Pt) (hp : p.OK) {m : Nat} (hk : Lim m s) (hm : m + 73 < 1000000) :
    Calls Tryd.prog 11 #[shI D, .agg (pcells p).toArray] X fun e Y => ∃ lv nv lb nb, e = .returned (.tuple #[lv, nv, .int .i64 (allE s p : Int)]) ∧ Fr w D (allS s p) (lb ++ (nb ++ bs)) Y ∧ Lim (m + 73) (allS s p) ∧
      RowB 45 42 lb lv (allL s p).length (lrows (allL s p)) ∧ RowB 37 41 nb nv (allN s p).length (prows (allN s p)) ∧ (∀ x ∈ allL s p, Lf.OK x) ∧ (∀ q ∈ allN s p, q.OK) ∧ ∀ y ∈ lb ++ nb, X.heap.size ≤ y.1 := by
  obtain ⟨L1, v1, h1, h2, h3, h4, h5⟩ := h.call
  refine (trAll_any p hp h1 h2 hk hm).mono ?_
  rintro e Y ⟨lv, nv, e1, ⟨⟨L2, v2, k1, k2, k3, k4⟩, ⟨lo, lo2⟩, ⟨no, no2⟩, okl, okn⟩, e3⟩
  obtain ⟨lb, r1, r2⟩ := RowB.of lo
  obtain ⟨nb, r3, r4⟩ := RowB.of no
  have hF := h5 _ Y ⟨L2, v2, k1, k2⟩
  obtain ⟨-, hbx, hbel⟩ := hF
  refine ⟨lv, nv, lb, nb, e1, ⟨⟨L2, v2, k1, h2.mv k2, fun b hb => ?_, fun g hg => ?_⟩, fun b hb => ?_, hbel⟩, e3, r1, r3, okl, okn, fun y hy => ?_⟩
  · rcases List.mem_append.1 hb with hb | hb
    · exact k3 _ (r2 b hb).2
    · rcases List.mem_append.1 hb with hb | hb
      · exact k4 _ (r4 b hb).2
      · exact (k2.old _ (h.bx b hb).lt).trans (h4 b hb)
  · rw [k2.old g (Nat.lt_of_lt_of_le hg h.bel.size)]
    exact h3 g hg
  · rcases List.mem_append.1 hb with hb | hb
    · exact (r2 b hb).1
    · rcases List.mem_append.1 hb with hb | hb
      · exact (r4 b hb).1
      · exact hbx b hb
  · rcases List.mem_append.1 hy with hy | hy
    · exact lo2 _ (r2 y hy).2
    · exact no2 _ (r4 y hy).2
theorem lrows_at : ∀ (l : List Lf) (i : Nat) (x : Lf), (∀ y ∈ l, Lf.OK y) → l[i]? = some x → ∀ j, j < 42 → (lrows l)[i * 42 + j]? = (lcells x)[j]?
  | [], i, x, _, h, _, _ => by simp at h
  | y :: l, 0, x, hq, h, j, hj => by
    simp only [List.getElem?_cons_zero, Option.some.injEq] at h
    subst h
    have := lcells_length (hq y (by simp)).2
    show (lcells y ++ lrows l)[0 * 42 + j]? = _
    rw [List.getElem?_append_left (by omega)]
    congr 1
    omega
  | y :: l, i + 1, x, hq, h, j, hj => by
    have h0 : l[i]? = some x := by simpa using h
    have hl := lcells_length (hq y (by simp)).2
    have ih := lrows_at l i x (fun z hz => hq z (by simp [hz])) h0 j hj
    show (lcells y ++ lrows l)[(i + 1) * 42 + j]? = _
    rw [List.getElem?_append_right (by omega), ← ih]
    congr 1
    omega
/-- A leaf of a row. -/
theorem OwnL.at {X : World} {B : Nat} {v : Value} {l : List Lf} (h : OwnL X B v l) (hok : ∀ x ∈ l, Lf.OK x) (h0 : 0 < l.length) : ∃ g cap, v = .slice (some ⟨g, 0, none⟩) l.length cap ∧ l.length ≤ cap ∧ ∀ i x, l[i]? = some x → X.rangeAt g (i * 42) (lcells x) := by
  obtain ⟨h1, h2⟩ := h
  rcases h2 with ⟨rfl, hn⟩ | ⟨g, cap, cur, rfl, hb, hg, hc, hm, hs, ht⟩
  · omega
  · refine ⟨g, cap, rfl, hc, fun i x hx j u hu => ?_⟩
    have hB : Blk X g cur.toList 45 := by unfold Blk; simpa using hg
    have hi := (List.getElem?_eq_some_iff.1 hx).1
    have hj : j < 42 := by
      have := (List.getElem?_eq_some_iff.1 hu).1
      rw [lcells_length (hok x (List.mem_of_getElem? hx)).2] at this
      exact this
    have h3 := lrows_at l i x hok hx j hj
    rw [hu, ← ht, List.getElem?_take] at h3
    split at h3
    · exact hB.cell h3
    · cases h3
theorem fieldsL : (Tryd.prog.fieldsOf 45).toList.map (fun f => (f.type, f.offset)) = [(32, 0), (37, 1)] := by kernel_rfl
theorem namesL : ((Tryd.prog.fieldsOf 45).toList.all fun f => f.name != "_") = true := by kernel_rfl
theorem run_eqP1 {p : Pt} (hp : p.OK) (W : World) : (Op.equalIn 9999 37 (.agg (pcells p).toArray) (.agg (pcells p).toArray)).run Tryd.prog W = .ok true W := by
  rw [run_equalIn_struct W 9998 37 _ _ (by kernel_rfl) (by kernel_rfl)]
  have e : true = (((Tryd.prog.fieldsOf 37).toList.map fun f => (f.type, f.offset)).all (eqAt p p)) := by
    rw [fieldsP]
    simp [eqAt]
  rw [e]
  refine eqFields_dec _ _ _ W _ _ (fun f hm => ⟨?_, ?_⟩)
  · have := List.all_eq_true.1 namesP f hm
    simpa using this
  have h1 : (f.type, f.offset) ∈ (Tryd.prog.fieldsOf 37).toList.map (fun f => (f.type, f.offset)) := List.mem_map.2 ⟨f, hm, rfl⟩
  rw [fieldsP] at h1
  simp only [List.mem_cons, Prod.mk.injEq, List.not_mem_nil, or_false] at h1
  have hi : ∀ (t : TypeId) (k : IntKind) (a b : Nat), Tryd.prog.underlying t = some (.int k) → (Op.equalIn 9998 t (.int k (a : Int)) (.int k (b : Int))).run Tryd.prog W = .ok (decide (a = b)) W := fun t k a b ht => by
    rw [run_equalIn_int W 9997 t k k _ _ ht]
    refine congrArg (fun b => Result.ok b W) ?_
    rw [Bool.eq_iff_iff]
    simp
    omega
  rcases h1 with ⟨e1, e2⟩ | ⟨e1, e2⟩ | ⟨e1, e2⟩ | ⟨e1, e2⟩ | ⟨e1, e2⟩ | ⟨e1, e2⟩ | ⟨e1, e2⟩ <;> rw [e1, e2]
  · exact ⟨_, _, part_one Tryd.underlying5 (v := .int .u8 (p.kind : Int)) rfl W, part_one Tryd.underlying5 (v := .int .u8 (p.kind : Int)) rfl W, hi _ _ _ _ Tryd.underlying5⟩
  · exact ⟨_, _, part_one Tryd.underlying5 (v := .int .u8 (p.level : Int)) rfl W, part_one Tryd.underlying5 (v := .int .u8 (p.level : Int)) rfl W, hi _ _ _ _ Tryd.underlying5⟩
  · exact ⟨_, _, part_one Tryd.underlying31 (v := .int .u16 (p.obj : Int)) rfl W, part_one Tryd.underlying31 (v := .int .u16 (p.obj : Int)) rfl W, hi _ _ _ _ Tryd.underlying31⟩
  · exact ⟨_, _, part_one Tryd.underlying32 (v := .int .u32 (p.off : Int)) rfl W, part_one Tryd.underlying32 (v := .int .u32 (p.off : Int)) rfl W, hi _ _ _ _ Tryd.underlying32⟩
  · exact ⟨_, _, part_one Tryd.underlying33 (v := .int .u64 (p.birth : Int)) rfl W, part_one Tryd.underlying33 (v := .int .u64 (p.birth : Int)) rfl W, hi _ _ _ _ Tryd.underlying33⟩
  · refine ⟨_, _, part_arr Tryd.underlying34 sizeA32 _ _ W, part_arr Tryd.underlying34 sizeA32 _ _ W, ?_⟩
    rw [ext_hash hp]
    exact eq_hash hp.hash hp.hash 9996 W
  · refine ⟨_, _, part_arr Tryd.underlying35 sizeAts _ _ W, part_arr Tryd.underlying35 sizeAts _ _ W, ?_⟩
    rw [ext_ats hp]
    exact eq_ats hp.len hp.len 9996 W
theorem part_lp {x : Lf} (hx : x.2.OK) (W : World) : (Go.part 37 (lcells x).toArray 1).run Tryd.prog W = .ok (.agg (pcells x.2).toArray) W := by
  obtain ⟨i, h1, h2⟩ := Option.map_eq_some_iff.1 sizeP
  have hsz : (sizeOf 37).run Tryd.prog W = .ok 41 W := by simp [sizeOf, typeInfo, h1, h2]
  have hag : (isAgg 37).run Tryd.prog W = .ok true W := by
    unfold isAgg
    rw [Sem.run_bind, run_underlying Tryd.underlying37 W]; rfl
  have hex : (lcells x).toArray.extract 1 (1 + 41) = (pcells x.2).toArray := by
    apply Array.toList_inj.1
    have := pcells_length hx
    simp [lcells, List.extract]
    exact List.take_of_length_le (by omega)
  unfold Go.part
  simp only [Sem.run_bind, hag, Result.andThen_ok, hsz, if_true, hex]
  rfl
theorem run_eqL {x : Lf} (hx : x.2.OK) (W : World) : (Op.equalIn 10000 45 (.agg (lcells x).toArray) (.agg (lcells x).toArray)).run Tryd.prog W = .ok true W := by
  rw [run_equalIn_struct W 9999 45 _ _ (by kernel_rfl) (by kernel_rfl)]
  have e : true = (((Tryd.prog.fieldsOf 45).toList.map fun f => (f.type, f.offset)).all (fun _ => true)) := by
    rw [fieldsL]
    rfl
  rw [e]
  refine eqFields_dec _ _ _ W _ _ (fun f hm => ⟨?_, ?_⟩)
  · have := List.all_eq_true.1 namesL f hm
    simpa using this
  have h1 : (f.type, f.offset) ∈ (Tryd.prog.fieldsOf 45).toList.map (fun f => (f.type, f.offset)) := List.mem_map.2 ⟨f, hm, rfl⟩
  rw [fieldsL] at h1
  simp only [List.mem_cons, Prod.mk.injEq, List.not_mem_nil, or_false] at h1
  rcases h1 with ⟨e1, e2⟩ | ⟨e1, e2⟩ <;> rw [e1, e2]
  · refine ⟨_, _, part_one Tryd.underlying32 (v := .int .u32 (x.1 : Int)) rfl W, part_one Tryd.underlying32 (v := .int .u32 (x.1 : Int)) rfl W, ?_⟩
    rw [run_equalIn_int W 9998 32 .u32 .u32 _ _ Tryd.underlying32]
    simp
  · exact ⟨_, _, part_lp hx W, part_lp hx W, run_eqP1 hx W⟩
theorem ex_neL1 {ρ : Operand → Value} {o : Oper} {a b : Operand} {x : Lf} {w : World} (ho : o.op = .binOp .neq 45 a b 45) (ha : ρ a = .agg (lcells x).toArray) (hb : ρ b = .agg (lcells x).toArray) (hx : x.2.OK) : (execOp ρ o).run Tryd.prog w = .ok (.value (.bool false)) w := by
  have h := run_eqL hx w
  unfold execOp
  have hg := run_eqGuard_agg (P := Tryd.prog) w .neq 45 a b (lcells x).toArray (lcells x).toArray (by kernel_rfl)
  simp only [ho, ha, hb, Sem.run_bind, hg, run_neq_struct, h, Result.andThen_ok, Sem.run_pure]
  rfl
theorem ex_ldRL {ρ : Operand → Value} {o : Oper} {x : Operand} {w : World} {g off : Nat} {l : Lf} (hp : l.2.OK) (hr : w.rangeAt g off (lcells l)) (ho : o.op = .load 45 x) (hx : ρ x = .pointer (some ⟨g, off, none⟩)) : (execOp ρ o).run Tryd.prog w = .ok (.value (.agg (lcells l).toArray)) w :=
  ex_ld (ty := 45) (cs := lcells l) ho hx hr Tryd.underlying45 rfl (by rw [sizeLf, lcells_length hp])
end Go.Proofs.YtfcjeceoedfldaaDoor
/- The law's tells. -/
namespace Go.Proofs.YtfcjeceoedfldaaDoor
open Go.RowKit

attribute [local go_sem] Oper.semAt_some

theorem nz_succ {h : List Pt} {k : Nat} {q : Pt} (hq : h[k]? = some q) : nz 0 (h.take (k + 1)) = nz 0 (h.take k) ++ (if eqP q zeroP = true then [] else [(k, q)]) := by
  have hk := (List.getElem?_eq_some_iff.1 hq).1
  rw [take_snoc hq, nz_append, List.length_take, Nat.zero_add, show min k h.length = k by omega]
  simp only [nz]
theorem nz_at {h : List Pt} {k : Nat} {q : Pt} (hq : h[k]? = some q) (hz : eqP q zeroP = false) : (nz 0 h)[(nz 0 (h.take k)).length]? = some (k, q) := by
  have e : h = h.take (k + 1) ++ h.drop (k + 1) := (List.take_append_drop _ _).symm
  have e2 : nz 0 h = (nz 0 (h.take k) ++ [(k, q)]) ++ nz (0 + (h.take (k + 1)).length) (h.drop (k + 1)) := by
    conv => lhs; rw [e]
    rw [nz_append, nz_succ hq, hz]
    rfl
  rw [e2, List.append_assoc, List.getElem?_append_right (Nat.le_refl _), Nat.sub_self]
  rfl
theorem get_mapT {s : Sh} {root : Pt} {h mids : List Pt} (ht : IsT s.blocks root h mids) (hb : s.bad = []) {off : Nat} {q : Pt} (hq : h[off]? = some q) : (∃ rs, More s (getS s root off) rs) ∧ getE s root off = 0 ∧ getP s root off = q := by
  have ho : off < 64 := by have := (List.getElem?_eq_some_iff.1 hq).1; rw [ht.1] at this; exact this
  obtain ⟨rs, h1, _, h2⟩ := get_tree ht ho
  have hno : rs.any (hitP s) = false := by
    rw [List.any_eq_false]
    intro x _
    unfold hitP
    rw [hb]
    simp
  rcases h2 with ⟨_, h3, h4⟩ | ⟨h3, _⟩
  · rw [hq] at h4
    injection h4 with h5
    exact ⟨⟨rs, h1⟩, h3, h5⟩
  · rw [hno] at h3
    cases h3
theorem More.bl {s s' : Sh} {rs : List Pt} (h : More s s' rs) : s'.blocks = s.blocks ∧ s'.bad = s.bad := by
  unfold More at h
  rw [h]
  exact ⟨rfl, rfl⟩
theorem ex_geqN {ρ : Operand → Value} {o : Oper} {x y : Operand} {a b : Nat} {t : TypeId} {w : World} (hab : a < b) (ho : o.op = .binOp .geq 3 x y t) (hx : ρ x = .int .i64 (a : Int)) (hy : ρ y = .int .i64 (b : Int)) : (execOp ρ o).run Tryd.prog w = .ok (.value (.bool false)) w := by
  have e : decide ((b : Int) ≤ (a : Int)) = false := by simp; omega
  unfold execOp
  simp only [ho]
  go_simp
theorem ex_iaL2 {ρ : Operand → Value} {o : Oper} {x y : Operand} {w : World} {g n cap k : Nat} (ho : o.op = .indexAddr 39 x y) (hx : ρ x = .slice (some ⟨g, 0, none⟩) n cap) (hy : ρ y = .int .i64 (k : Int)) (hk : k < n ∧ n ≤ cap) : (execOp ρ o).run Tryd.prog w = .ok (.value (.pointer (some ⟨g, k * 42, none⟩))) w := by
  have h := ex_iaF (w := w) ho hx hy hk
  rw [Nat.zero_add] at h
  exact h
theorem RowB.form {e : TypeId} {size : Nat} {b : Bxs} {v : Value} {n : Nat} {xs : List Value} (h : RowB e size b v n xs) : ∃ sp cap, v = .slice sp n cap := by
  rcases h.2 with ⟨rfl, rfl, _⟩ | ⟨g, cap, cs, rfl, _⟩
  · exact ⟨none, 0, rfl⟩
  · exact ⟨_, _, rfl⟩
def TlPost (w : World) (D : Nat) (s : Sh) (bs : Bxs) (root : Pt) (mids : List Pt) (m : Nat) (e : Ending) (Y : World) : Prop :=
  ∃ nv nb s' rs, e = .returned (.tuple #[nv, .bool true]) ∧ More s s' rs ∧ Fr w D s' (nb ++ bs) Y ∧ Lim m s' ∧ RowB 37 41 nb nv (nodesOf root mids).length (prows (nodesOf root mids)) ∧ (∀ q ∈ nodesOf root mids, q.OK) ∧ ∀ y ∈ nb, ∀ z ∈ bs, y.1 ≠ z.1
set_option maxRecDepth 100000 in
set_option maxHeartbeats 16000000 in
theorem tells_go {w X : World} {D : Nat} {s : Sh} {bs : Bxs} {root : Pt} {h mids : List Pt} (hF : Fr w D s bs X) (ht : IsT s.blocks root h mids) (hbad : s.bad = []) (hr : root.OK) (gh ch : Nat) (hch : 64 ≤ ch) (hv : ∀ s' bs' Y, Fr w D s' bs' Y → (∀ y ∈ bs, y ∈ bs') → SrcM Y (.slice (some ⟨gh, 0, none⟩) 64 ch) h) {m : Nat} (hk : Lim m s) (hm : m + 4745 < 1000000) :
    Calls Tryd.prog 9 #[.pointer (some ⟨D, 0, none⟩), .agg (pcells root).toArray, .slice (some ⟨gh, 0, none⟩) 64 ch] X (TlPost w D s bs root mids (m + 4745)) := by
  have HL := Lib.hid ht.1; have HOK := Lib.hid ht.2.1; have HR := Lib.hid hr; have HT := Lib.hid ht; have HBD := Lib.hid hbad; have HV := Lib.hid hv; have HCH := Lib.hid hch; have HM := Lib.hid hm
  have HBL : Hid (∀ z ∈ bs, z.1 < X.heap.size) := Lib.hid fun z hz => (hF.bx z hz).lt
  have HX0 := Lib.hid (hF.add ((Below.refl _ _).alloc (Nat.le_refl _) (.cells (pcells root).toArray 37)) (Nat.le_refl _) (Blk.new X (pcells root) 37))
  have HSX : Hid ((X.alloc (.cells (pcells root).toArray 37)).heap.size = X.heap.size + 1) := Lib.hid (Array.size_push _)
  obtain ⟨s1, hs1⟩ : ∃ s1, allS s root = s1 := ⟨_, rfl⟩
  obtain ⟨⟨rs0, hrs0⟩, e0, e1, e2⟩ := all_tree ht hbad
  have hl0 : (nz 0 (h.take 64)).length = (nz 0 h).length := by rw [List.take_of_length_le (by rw [ht.1]; exact Nat.le_refl _)]
  have hnl : (nz 0 h).length ≤ 64 := by
    have : ∀ (l : List Pt) i, (nz i l).length ≤ l.length := by
      intro l
      induction l with
      | nil => intro i; simp [nz]
      | cons a l ih => intro i; have := ih (i + 1); simp only [nz]; split <;> simp <;> omega
    have := this h 0
    rw [ht.1] at this
    exact this
  have HLN := Lib.hid hl0
  have hall := fr_all (w := w) (D := D) (bs := (X.heap.size, pcells root, 37) :: bs) HX0.out root hr hk (by omega)
  rw [e0, e1, e2, hs1] at hall
  rw [hs1] at hrs0
  have HALL := Lib.hid hall; have HRS := Lib.hid hrs0
  generalize hPost : TlPost w D s bs root mids (m + 4745) = Post
  have HPO : Hid (∀ e Y, TlPost w D s bs root mids (m + 4745) e Y → Post e Y) := Lib.hid fun e Y hh => by rw [← hPost]; exact hh
  obtain ⟨G, hG⟩ : ∃ G, X.heap.size = G := ⟨_, rfl⟩
  rw [hG] at HX0 HALL HBL HSX
  clear hF ht hbad hr hch hv hk hm hs1 e0 e1 e2 hl0 hall hrs0 hPost
  go_enter Tryd.func9, Tryd.ntmps9
  go_upto_region 1 with fail
  (try rw [hG])
  generalize (X.alloc (.cells (pcells root).toArray 37)) = W0 at HX0 HALL HSX ⊢
  have HB0 := Lib.hid (HX0.out.at (g := G) (cs := pcells root) (t := 37) (by simp))
  clear hG
  go_wp2_with (first | (refine wpL_val rfl (ex_ldP HR.out HB0.out rfl rfl) ?_) | fail)
  refine HALL.out.mono ?_
  rintro e W1 ⟨lv, nv, lb, nb, rfl, hf1, hl1, r1, r2, ok1, ok2, hfr⟩
  have HF1 := Lib.hid hf1; have HK1 := Lib.hid hl1; have HR1 := Lib.hid r1; have HR2 := Lib.hid r2; have HO1 := Lib.hid ok1; have HO2 := Lib.hid ok2
  have HFR : Hid (∀ y ∈ nb, ∀ z ∈ bs, y.1 ≠ z.1) := Lib.hid fun y hy z hz => by
    have a1 := hfr y (List.mem_append.2 (.inr hy))
    have a2 := HBL.out z hz
    rw [HSX.out] at a1
    omega
  obtain ⟨spl, capl, rfl⟩ := r1.form
  obtain ⟨N, hN⟩ : ∃ N, (nz 0 h).length = N := ⟨_, rfl⟩
  rw [hN] at hnl ⊢
  have HNN := Lib.hid hN; have HNL := Lib.hid hnl
  clear hf1 hl1 r1 r2 ok1 ok2 hfr HALL HX0 HB0 hN hnl
  go_wp2_with fail
  go_loopw [11, 12] (fun n i wr => ∃ (k : Nat) (s' : Sh) (rs : List Pt), k ≤ 64 ∧ i = .int .i64 (k : Int) ∧ n = .int .i64 (((nz 0 (h.take k)).length : Nat) : Int) ∧ More s s' rs ∧ Lim (m + 73 + 73 * k) s' ∧ Fr w D s' (lb ++ (nb ++ (G, pcells root, 37) :: bs)) wr) (fun _ i _ => 64 - (intOf i).toNat)
  case atStart => exact ⟨0, s1, rs0, by omega, rfl, rfl, HRS.out, HK1.out, HF1.out⟩
  case round =>
    clear HF1 HK1 HRS
    obtain ⟨k, s2, rs2, hk, rfl, rfl, hmo, hli, hf⟩ := hrel
    have HMO := Lib.hid hmo; have HLI := Lib.hid hli; have HF := Lib.hid hf
    have HB0 := Lib.hid (hf.at (g := G) (cs := pcells root) (t := 37) (by simp))
    clear hmo hli hf
    have wk1 := IntWalk.i64_in ((k : Int) + 1) (by omega)
    by_cases hlt : k < 64
    · obtain ⟨q, hq⟩ : ∃ q, h[k]? = some q := ⟨_, List.getElem?_eq_getElem (by have := HL.out; omega)⟩
      have HQ : Hid q.OK := Lib.hid (HOK.out q (List.mem_of_getElem? hq))
      have HQK := Lib.hid hq
      have HKB : Hid (k < 64 ∧ 64 ≤ ch) := Lib.hid ⟨hlt, HCH.out⟩
      have hwk : IntKind.u32.wrap (k : Int) = (k : Int) := by rw [IntKind.wrap_u32]; omega
      obtain ⟨⟨rs3, hm3⟩, ge, gp⟩ := get_mapT (s := s2) (by rw [HMO.out.bl.1]; exact HT.out) (by rw [HMO.out.bl.2]; exact HBD.out) hq
      have hget := HF.out.get root HR.out k (by omega) HLI.out (by have := HM.out; omega)
      rw [ge, gp] at hget
      obtain ⟨s3, hs3⟩ : ∃ s3, getS s2 root k = s3 := ⟨_, rfl⟩
      rw [hs3] at hget hm3
      have HGET := Lib.hid hget
      have HMO3 := Lib.hid (HMO.out.trans hm3)
      have HSQ := Lib.hid (size_pc HQ.out)
      have HLQ : Hid ((pcells q).toArray.size = 41) := Lib.hid (by rw [List.size_toArray, pcells_length HQ.out])
      obtain ⟨nn, hnn⟩ : ∃ n, (nz 0 (h.take k)).length = n := ⟨_, rfl⟩
      have hns := congrArg List.length (nz_succ hq)
      rw [List.length_append, hnn] at hns
      have hna : eqP q zeroP = false → (nz 0 h)[nn]? = some (k, q) := fun hz => by have := nz_at hq hz; rw [hnn] at this; exact this
      have hnb : nn ≤ k := by
        rw [← hnn]
        have : ∀ (l : List Pt) i, (nz i l).length ≤ l.length := by
          intro l
          induction l with
          | nil => intro i; simp [nz]
          | cons a l ih => intro i; have := ih (i + 1); simp only [nz]; split <;> simp <;> omega
        have := this (h.take k) 0
        rw [List.length_take] at this
        omega
      have wk2 := IntWalk.i64_in ((nn : Int) + 1) (by omega)
      rw [hnn]
      have HNS := Lib.hid hns; have HNA := Lib.hid hna
      clear hq ge gp hget hs3 hm3 hnn hns hna hnb
      go_wp2_with (first | (refine wpL_val rfl (ex_ldP HR.out HB0.out rfl rfl) ?_) | fail)
      refine HGET.out.mono ?_
      rintro e W2 ⟨rfl, hf2, hl2⟩
      have HF2 := Lib.hid hf2; have HK2 := Lib.hid hl2
      clear hf2 hl2 HGET HF HB0 HLI HMO
      go_upto_region 7 with (first | (refine wpList_store_row rfl 37 (.tmp 13) (.tmp 34) rfl W2.heap.size (pcells q).toArray rfl rfl 37 _ (heap_alloc_new W2 _) HSQ.out (by rw [HLQ.out]; rfl) (one_pc q) ?_) | fail)
      refine (fun (k : ∀ W, Fr w D s3 ((W2.heap.size, pcells q, 37) :: (lb ++ (nb ++ (G, pcells root, 37) :: bs))) W → Code.wp _ _ _ _ W) => k _ (HF2.out.add (blk_row1 W2 _ (pcells q) 37).2 (Nat.le_refl _) (blk_row1 W2 _ (pcells q) 37).1)) ?_
      intro W3 hW3
      obtain ⟨g3, hg3⟩ : ∃ g, W2.heap.size = g := ⟨_, rfl⟩
      rw [hg3] at hW3 ⊢
      have hs0 := hW3.drew
      have HSUB : Hid (∀ y ∈ bs, y ∈ (g3, pcells q, 37) :: (lb ++ (nb ++ (G, pcells root, 37) :: bs))) := Lib.hid fun y hy => by simp [hy]
      have HF3 := Lib.hid hs0
      have HB3 := Lib.hid (hs0.at (g := g3) (cs := pcells q) (t := 37) (by simp))
      clear hg3 HF2 hW3
      (try simp only [Act.put, List.setIfInBounds_toArray, List.set_cons_zero, List.set_cons_succ])
      refine wp_region_sched (.take 0 (.take 1 (.take 2 (.take 3 (.take 4 (.take 5 (.take 6 (.take 7 (.take 8 (.take 9 (.nil))))))))))) (by kernel_rfl) (by kernel_rfl) (fun d _ _ _ _ h => by cases d <;> exact h) (Fr w D s3 ((g3, pcells q, 37) :: (lb ++ (nb ++ (G, pcells root, 37) :: bs)))) (hs0) ?_
      refine wpG_take _ (.int .i64 0) rfl (by rfl) (fun X hX => by first | rfl | go_simp) ?_
      (try simp only [Act.put, List.setIfInBounds_toArray, List.set_cons_zero, List.set_cons_succ])
      refine wpG_take _ (.bool false) rfl (by rfl) (fun X hX => by first | rfl | go_simp) ?_
      (try simp only [Act.put, List.setIfInBounds_toArray, List.set_cons_zero, List.set_cons_succ])
      refine wpG_take _ (.bool false) rfl (by rfl) (fun X hX => by first | rfl | go_simp) ?_
      (try simp only [Act.put, List.setIfInBounds_toArray, List.set_cons_zero, List.set_cons_succ])
      refine wpG_take _ (.agg (pcells q).toArray) rfl (by rfl) (fun X hX => ex_ldP HQ.out (hX.at (g := g3) (cs := pcells q) (t := 37) (by simp)) rfl rfl) ?_
      (try simp only [Act.put, List.setIfInBounds_toArray, List.set_cons_zero, List.set_cons_succ])
      refine wpG_take _ (.slice (some ⟨gh, 0, none⟩) 64 ch) rfl (by rfl) (fun X hX => by first | rfl | go_simp) ?_
      (try simp only [Act.put, List.setIfInBounds_toArray, List.set_cons_zero, List.set_cons_succ])
      refine wpG_take _ (.int .i64 (k : Int)) rfl (by rfl) (fun X hX => by first | rfl | go_simp) ?_
      (try simp only [Act.put, List.setIfInBounds_toArray, List.set_cons_zero, List.set_cons_succ])
      refine wpG_take _ (.pointer (some ⟨gh, k * 41, none⟩)) rfl (by rfl) (fun X hX => q_iaP rfl rfl rfl HKB.out) ?_
      (try simp only [Act.put, List.setIfInBounds_toArray, List.set_cons_zero, List.set_cons_succ])
      refine wpG_take _ (.agg (pcells q).toArray) rfl (by rfl) (fun X hX => ex_ldR HQ.out ((HV.out _ _ _ hX HSUB.out).at HQK.out) rfl rfl) ?_
      (try simp only [Act.put, List.setIfInBounds_toArray, List.set_cons_zero, List.set_cons_succ])
      refine wpG_take _ (.bool false) rfl (by rfl) (fun X hX => (ex_neP rfl rfl rfl HQ.out HQ.out).trans (by rw [eqP_same]; rfl)) ?_
      (try simp only [Act.put, List.setIfInBounds_toArray, List.set_cons_zero, List.set_cons_succ])
      refine wpG_take _ (.bool false) rfl (by rfl) (fun X hX => by first | rfl | go_simp) ?_
      (try simp only [Act.put, List.setIfInBounds_toArray, List.set_cons_zero, List.set_cons_succ])
      refine wpG_nil ?_
      clear hs0
      by_cases hz : eqP q zeroP = true
      · have hns := HNS.out
        rw [if_pos hz] at hns
        have HN2 : Hid ((nz 0 (h.take (k + 1))).length = nn) := Lib.hid (by rw [hns]; rfl)
        clear hns HNS HNA
        go_wp2_with (first | (refine wpL_val rfl (ex_ldP HQ.out HB3.out rfl rfl) ?_) | (refine wpL_val rfl (ex_bld0 rfl) ?_) | (refine wpL_val rfl ((ex_eqP rfl rfl rfl HQ.out zeroP_ok).trans (by rw [hz])) ?_) | fail)
        go_roundw
        case rel => exact ⟨k + 1, s3, _, by omega, by go_num, by rw [HN2.out], HMO3.out, (by have := HK2.out; rw [show m + 73 + 73 * (k + 1) = m + 73 + 73 * k + 73 by omega]; exact this), HF3.out.sub (fun y hy => List.mem_cons_of_mem _ hy)⟩
        case measure => simp [intOf]; omega
      · rw [Bool.not_eq_true] at hz
        have hns := HNS.out
        rw [if_neg (by rw [hz]; simp)] at hns
        have HN2 : Hid ((nz 0 (h.take (k + 1))).length = nn + 1) := Lib.hid (by rw [hns]; rfl)
        have hat := HNA.out hz
        have hlt2 : nn < N := by have := (List.getElem?_eq_some_iff.1 hat).1; rw [HNN.out] at this; exact this
        have HAT := Lib.hid hat
        have HLB : Hid (∀ y ∈ lb, y ∈ (g3, pcells q, 37) :: (lb ++ (nb ++ (G, pcells root, 37) :: bs))) := Lib.hid fun y hy => by simp [hy]
        obtain ⟨gl, capl2, hgl, -, -⟩ := OwnL.at (HF3.out.row HR1.out HLB.out) HO1.out (by rw [HNN.out]; omega)
        injection hgl with hgl1 hgl2 hgl3
        subst hgl1 hgl3
        have HLL : Hid (∀ Y, Fr w D s3 ((g3, pcells q, 37) :: (lb ++ (nb ++ (G, pcells root, 37) :: bs))) Y → Y.rangeAt gl (nn * 42) (lcells (k, q))) := Lib.hid fun Y hY => by
          obtain ⟨g', c', e', -, h'⟩ := OwnL.at (hY.row HR1.out HLB.out) HO1.out (by rw [HNN.out]; omega)
          injection e' with e1 e2 e3
          injection e1 with e4
          injection e4 with e5
          rw [e5]
          exact h' nn (k, q) HAT.out
        have HCL : Hid (nn < N ∧ N ≤ capl) := Lib.hid ⟨hlt2, by
          obtain ⟨g', c', e', hc', -⟩ := OwnL.at (HF3.out.row HR1.out HLB.out) HO1.out (by rw [HNN.out]; omega)
          injection e' with e1 e2 e3
          rw [HNN.out] at hc'
          omega⟩
        have HLQ2 : Hid (Lf.OK (k, q)) := Lib.hid ⟨by show k < _; omega, HQ.out⟩
        clear hns HNS HNA hat hgl2
        go_upto_region 10 with (first | (refine wpL_val rfl (ex_ldP HQ.out HB3.out rfl rfl) ?_) | (refine wpL_val rfl (ex_bld0 rfl) ?_) | (refine wpL_val rfl ((ex_eqP rfl rfl rfl HQ.out zeroP_ok).trans (by rw [hz])) ?_) | fail)
        have hs0 := HF3.out.drew
        refine wp_region_sched (.take 0 (.take 1 (.take 2 (.take 3 (.take 4 (.take 5 (.take 6 (.take 7 (.take 8 (.take 9 (.take 10 (.take 11 (.take 12 (.take 13 (.take 14 (.nil)))))))))))))))) (by kernel_rfl) (by kernel_rfl) (fun d _ _ _ _ h => by cases d <;> exact h) (Fr w D s3 ((g3, pcells q, 37) :: (lb ++ (nb ++ (G, pcells root, 37) :: bs)))) (hs0) ?_
        refine wpG_take _ (.int .i64 (nn : Int)) rfl (by rfl) (fun X hX => by first | rfl | go_simp) ?_
        (try simp only [Act.put, List.setIfInBounds_toArray, List.set_cons_zero, List.set_cons_succ])
        refine wpG_take _ (.slice (some ⟨gl, 0, none⟩) N capl) rfl (by rfl) (fun X hX => by first | rfl | go_simp) ?_
        (try simp only [Act.put, List.setIfInBounds_toArray, List.set_cons_zero, List.set_cons_succ])
        refine wpG_take _ (.int .i64 (N : Int)) rfl (by rfl) (fun X hX => by first | rfl | go_simp) ?_
        (try simp only [Act.put, List.setIfInBounds_toArray, List.set_cons_zero, List.set_cons_succ])
        refine wpG_take _ (.bool false) rfl (by rfl) (fun X hX => ex_geqN HCL.out.1 rfl rfl rfl) ?_
        (try simp only [Act.put, List.setIfInBounds_toArray, List.set_cons_zero, List.set_cons_succ])
        refine wpG_take _ (.bool false) rfl (by rfl) (fun X hX => by first | rfl | go_simp) ?_
        (try simp only [Act.put, List.setIfInBounds_toArray, List.set_cons_zero, List.set_cons_succ])
        refine wpG_take _ (.slice (some ⟨gl, 0, none⟩) N capl) rfl (by rfl) (fun X hX => by first | rfl | go_simp) ?_
        (try simp only [Act.put, List.setIfInBounds_toArray, List.set_cons_zero, List.set_cons_succ])
        refine wpG_take _ (.int .i64 (nn : Int)) rfl (by rfl) (fun X hX => by first | rfl | go_simp) ?_
        (try simp only [Act.put, List.setIfInBounds_toArray, List.set_cons_zero, List.set_cons_succ])
        refine wpG_take _ (.pointer (some ⟨gl, nn * 42, none⟩)) rfl (by rfl) (fun X hX => ex_iaL2 rfl rfl rfl HCL.out) ?_
        (try simp only [Act.put, List.setIfInBounds_toArray, List.set_cons_zero, List.set_cons_succ])
        refine wpG_take _ (.agg (lcells (k, q)).toArray) rfl (by rfl) (fun X hX => ex_ldRL HQ.out (HLL.out _ hX) rfl rfl) ?_
        (try simp only [Act.put, List.setIfInBounds_toArray, List.set_cons_zero, List.set_cons_succ])
        refine wpG_take _ (.int .i64 (k : Int)) rfl (by rfl) (fun X hX => by first | rfl | go_simp) ?_
        (try simp only [Act.put, List.setIfInBounds_toArray, List.set_cons_zero, List.set_cons_succ])
        refine wpG_take _ (.int .u32 (k : Int)) rfl (by rfl) (fun X hX => by first | rfl | go_simp) ?_
        (try simp only [Act.put, List.setIfInBounds_toArray, List.set_cons_zero, List.set_cons_succ])
        refine wpG_take _ (.agg (pcells q).toArray) rfl (by rfl) (fun X hX => ex_ldP HQ.out (hX.at (g := g3) (cs := pcells q) (t := 37) (by simp)) rfl rfl) ?_
        (try simp only [Act.put, List.setIfInBounds_toArray, List.set_cons_zero, List.set_cons_succ])
        refine wpG_take _ (.agg (lcells (k, q)).toArray) rfl (by rfl) (fun X hX => ex_bldL HQ.out rfl rfl rfl) ?_
        (try simp only [Act.put, List.setIfInBounds_toArray, List.set_cons_zero, List.set_cons_succ])
        refine wpG_take _ (.bool false) rfl (by rfl) (fun X hX => ex_neL1 (x := (k, q)) rfl rfl rfl HQ.out) ?_
        (try simp only [Act.put, List.setIfInBounds_toArray, List.set_cons_zero, List.set_cons_succ])
        refine wpG_take _ (.bool false) rfl (by rfl) (fun X hX => by first | rfl | go_simp) ?_
        (try simp only [Act.put, List.setIfInBounds_toArray, List.set_cons_zero, List.set_cons_succ])
        refine wpG_nil ?_
        have HF4 := Lib.hid hs0
        clear hs0
        go_wp2_with fail
        go_roundw
        case rel => exact ⟨k + 1, s3, _, by omega, by go_num, by rw [HN2.out]; go_num, HMO3.out, (by have := HK2.out; rw [show m + 73 + 73 * (k + 1) = m + 73 + 73 * k + 73 by omega]; exact this), HF4.out.sub (fun y hy => List.mem_cons_of_mem _ hy)⟩
        case measure => simp [intOf]; omega
    · obtain rfl : k = 64 := by omega
      rw [HLN.out, HNN.out, show ((64 : Nat) : Int) = (64 : Int) from rfl]
      have HE := Lib.hid (HPO.out (.returned (.tuple #[nv, .bool true])) _ ⟨nv, nb, s2, rs2, rfl, HMO.out, HF.out.sub (fun y hy => by rcases List.mem_append.1 hy with hy | hy <;> simp [hy]), HLI.out, HR2.out, HO2.out, HFR.out⟩)
      clear hlt hk wk1
      go_wp2_with fail
      first | exact HE.out | (go_ret; exact HE.out)
end Go.Proofs.YtfcjeceoedfldaaDoor
