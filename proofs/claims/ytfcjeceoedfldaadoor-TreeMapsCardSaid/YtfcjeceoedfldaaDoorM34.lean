/- TreeWrong, walked. -/
import Derived.Test.YtfcjeceoedfldaaDoorM33
import Derived.Test.YtfcjeceoedfldaaDoorM29
namespace Go.Proofs.YtfcjeceoedfldaaDoor
open Go.RowKit

attribute [local go_sem] Oper.semAt_some

theorem tl_val {ops : Array Oper} {rest : List Oper} {o : Oper} {a : Act} {Q : Exit → Act → World → Prop} {S : World → Prop} {w : World} (v : Value) (hw : Region.wanted o (yielded ops a.tmps) = true) (hS : S w) (hrun : ∀ w, S w → (execOp a.eval o).run Tryd.prog w = .ok (.value v) w)
    (hK : wpList Tryd.prog ops Q rest (a.put o.dst v) w) : wpList Tryd.prog ops Q (o :: rest) a w := wpL_valG hw (hrun w hS) hK
theorem tl_skip {ops : Array Oper} {rest : List Oper} {o : Oper} {a : Act} {Q : Exit → Act → World → Prop} {w : World} (hw : Region.wanted o (yielded ops a.tmps) = false)
    (hK : wpList Tryd.prog ops Q rest (a.put o.dst undef) w) : wpList Tryd.prog ops Q (o :: rest) a w := by
  unfold wpList
  rw [if_neg (by simp [hw])]
  exact hK
theorem tl_call {ops : Array Oper} {rest : List Oper} {o : Oper} {a : Act} {Q : Exit → Act → World → Prop} {w : World} (hw : Region.wanted o (yielded ops a.tmps) = true) (f : FuncId) (args : Array Value) (hrun : (execOp a.eval o).run Tryd.prog w = .ok (.enter f args) w)
    (C : Value → World → Prop) (hc : Calls Tryd.prog f args w fun e w' => ∃ v, e = .returned v ∧ C v w') (hK : ∀ v w', C v w' → wpList Tryd.prog ops Q rest (a.put o.dst v) w') : wpList Tryd.prog ops Q (o :: rest) a w := by
  unfold wpList
  rw [if_pos hw]
  refine .inl ?_
  unfold Oper.wp
  rw [hrun]
  exact hc.mono fun e w' ⟨v, e1, h1⟩ => by subst e1; exact hK v w' h1
end Go.Proofs.YtfcjeceoedfldaaDoor
/- The law's has. -/
namespace Go.Proofs.YtfcjeceoedfldaaDoor
open Go.RowKit

attribute [local go_sem] Oper.semAt_some

theorem SrcM.at {X : World} {g n cap : Nat} {l : List Pt} (h : SrcM X (.slice (some ⟨g, 0, none⟩) n cap) l) {k : Nat} {q : Pt} (hk : l[k]? = some q) : X.rangeAt g (k * 41) (pcells q) := by
  obtain ⟨sp', cap', e, _, _, _, h3⟩ := h
  obtain ⟨g', e2, _, h4⟩ := h3 (by have := (List.getElem?_eq_some_iff.1 hk).1; omega)
  injection e with e3 _ _
  rw [e2] at e3
  injection e3 with e4
  injection e4 with e5 _ _
  rw [e5]
  exact h4 k q hk
theorem SrcM.form {X : World} {v : Value} {l : List Pt} (h : SrcM X v l) : ∃ g cap, (0 < l.length → v = .slice (some ⟨g, 0, none⟩) l.length cap) ∧ l.length ≤ cap ∧ ∃ sp, v = .slice sp l.length cap := by
  obtain ⟨sp, cap, e, h1, h2, h3, h4⟩ := h
  by_cases h0 : 0 < l.length
  · obtain ⟨g, e2, _, _⟩ := h4 h0
    exact ⟨g, cap, fun _ => by rw [e, e2], h1, sp, e⟩
  · exact ⟨0, cap, fun h => absurd h h0, h1, sp, e⟩
theorem eqP_comm (p q : Pt) : eqP p q = eqP q p := by
  rw [Bool.eq_iff_iff, eqP_iff, eqP_iff]
  exact eq_comm
theorem ex_ldR {ρ : Operand → Value} {o : Oper} {x : Operand} {w : World} {g off : Nat} {p : Pt} (hp : p.OK) (hr : w.rangeAt g off (pcells p)) (ho : o.op = .load 37 x) (hx : ρ x = .pointer (some ⟨g, off, none⟩)) : (execOp ρ o).run Tryd.prog w = .ok (.value (.agg (pcells p).toArray)) w :=
  ex_ld (ty := 37) (cs := pcells p) ho hx hr Tryd.underlying37 rfl (by rw [sizeP, pcells_length hp])
set_option maxRecDepth 100000 in
set_option maxHeartbeats 4000000 in
theorem has_any (l : List Pt) (v : Value) (p : Pt) (hp : p.OK) (hok : ∀ q ∈ l, q.OK) (hl : l.length < 1000000) (w : World) (h : SrcM w v l) : Calls Tryd.prog 13 #[v, .agg (pcells p).toArray] w fun e w' => e = .returned (.bool (isIn l p)) ∧ Below w.heap.size w w' := by
  have HP := Lib.hid hp; have HOK := Lib.hid hok; have HL := Lib.hid hl
  have hb0 : Below w.heap.size w (w.alloc (.cells (pcells p).toArray 37)) := (Below.refl _ _).alloc (Nat.le_refl _) _
  have HS : Hid (IdxS w p v l (w.alloc (.cells (pcells p).toArray 37))) := Lib.hid ⟨Blk.new _ _ _, h.grown hb0, hb0⟩
  obtain ⟨g, cap, hv, hc, sp, e⟩ := h.form
  subst e
  obtain ⟨N, hN⟩ : ∃ N, l.length = N := ⟨_, rfl⟩
  rw [hN] at HS hc hv ⊢
  have HN := Lib.hid hN; have HC := Lib.hid hc; have HV := Lib.hid hv; have HN2 : Hid (N < 1000000) := Lib.hid (by omega)
  generalize hPost : (fun e w' => e = Ending.returned (.bool (isIn l p)) ∧ Below w.heap.size w w') = Post
  have HPO : Hid (∀ b w', isIn l p = b → Below w.heap.size w w' → Post (.returned (.bool b)) w') := Lib.hid fun b w' e h => by rw [← hPost, ← e]; exact ⟨rfl, h⟩
  clear hp hok hl hb0 hc hN hv h hPost
  go_enter Tryd.func13, Tryd.ntmps13
  go_wp2_with fail
  obtain ⟨gp, hgp⟩ : ∃ g, w.heap.size = g := ⟨_, rfl⟩
  generalize (w.alloc (.cells (pcells p).toArray 37)) = W0 at HS ⊢
  have HGP := Lib.hid hgp
  rw [hgp]
  clear hgp
  go_loopw [5] (fun i wr => ∃ k : Nat, k ≤ N ∧ i = .int .i64 (k : Int) ∧ (l.take k).any (fun q => eqP p q) = false ∧ IdxS w p (.slice sp N cap) l wr) (fun i _ => N - (intOf i).toNat)
  case atStart => exact ⟨0, by omega, rfl, by simp, HS.out⟩
  case round =>
    clear HS
    obtain ⟨k, hk, rfl, hno, hs⟩ := hrel
    have HNO := Lib.hid hno; have HS := Lib.hid hs
    clear hno hs
    have wk1 := IntWalk.i64_in ((k : Int) + 1) (by have := HN2.out; omega)
    by_cases hlt : k < N
    · obtain ⟨q, hq⟩ : ∃ q, l[k]? = some q := ⟨_, List.getElem?_eq_getElem (by have := HN.out; omega)⟩
      have hv2 := HV.out (by omega)
      injection hv2 with hv3
      subst hv3
      have HQ : Hid q.OK := Lib.hid (HOK.out q (List.mem_of_getElem? hq))
      have HKN : Hid (k < N ∧ N ≤ cap) := Lib.hid ⟨hlt, HC.out⟩
      have HQK := Lib.hid hq
      clear hq
      go_upto_region 4 with fail
      have hs0 := HS.out.grown (Below.refl _ _).drew
      refine wp_region_sched (.take 0 (.take 1 (.take 2 (.take 3 (.take 4 (.take 5 (.nil))))))) (by kernel_rfl) (by kernel_rfl) (fun d _ _ _ _ h => by cases d <;> exact h) (IdxS w p (.slice (some ⟨g, 0, none⟩) N cap) l) (hs0) ?_
      refine wpG_take _ (.slice (some ⟨g, 0, none⟩) N cap) rfl (by rfl) (fun X hX => by first | rfl | go_simp) ?_
      (try simp only [Act.put, List.setIfInBounds_toArray, List.set_cons_zero, List.set_cons_succ])
      refine wpG_take _ (.int .i64 (k : Int)) rfl (by rfl) (fun X hX => by first | rfl | go_simp) ?_
      (try simp only [Act.put, List.setIfInBounds_toArray, List.set_cons_zero, List.set_cons_succ])
      refine wpG_take _ (.pointer (some ⟨g, k * 41, none⟩)) rfl (by rfl) (fun X hX => q_iaP rfl rfl rfl HKN.out) ?_
      (try simp only [Act.put, List.setIfInBounds_toArray, List.set_cons_zero, List.set_cons_succ])
      refine wpG_take _ (.agg (pcells q).toArray) rfl (by rfl) (fun X hX => ex_ldR HQ.out (hX.2.1.at HQK.out) rfl rfl) ?_
      (try simp only [Act.put, List.setIfInBounds_toArray, List.set_cons_zero, List.set_cons_succ])
      refine wpG_take _ (.agg (pcells p).toArray) rfl (by rfl) (fun X hX => ex_ldP HP.out (by have := hX.1; rw [HGP.out] at this; exact this) rfl rfl) ?_
      (try simp only [Act.put, List.setIfInBounds_toArray, List.set_cons_zero, List.set_cons_succ])
      refine wpG_take _ (.bool (eqP q p)) rfl (by rfl) (fun X hX => ex_eqP rfl rfl rfl HQ.out HP.out) ?_
      (try simp only [Act.put, List.setIfInBounds_toArray, List.set_cons_zero, List.set_cons_succ])
      refine wpG_nil ?_
      cases hcase : eqP p q with
      | false =>
        have HN3 : Hid ((l.take (k + 1)).any (fun q => eqP p q) = false) := Lib.hid (any_take HQK.out HNO.out hcase)
        rw [show eqP q p = false from (eqP_comm q p).trans hcase]
        go_wp2_with fail
        go_roundw
        case rel => exact ⟨k + 1, by omega, by go_num, HN3.out, HS.out.grown (Below.refl _ _).drew⟩
        case measure => simp [intOf]; omega
      | true =>
        have HN3 : Hid (isIn l p = true) := Lib.hid (any_at HQK.out hcase)
        have HE := Lib.hid (HPO.out true _ HN3.out (HS.out.grown (Below.refl _ _).drew).2.2)
        rw [show eqP q p = true from (eqP_comm q p).trans hcase]
        go_wp2_with fail
        first | exact HE.out | (go_ret; exact HE.out)
    · obtain rfl : k = N := by omega
      have HN3 : Hid (isIn l p = false) := Lib.hid (by have := HNO.out; rw [List.take_of_length_le (by have := HN.out; omega)] at this; exact this)
      have HE := Lib.hid (HPO.out false _ HN3.out HS.out.2.2)
      clear hlt hk
      go_wp2_with fail
      first | exact HE.out | (go_ret; exact HE.out)
end Go.Proofs.YtfcjeceoedfldaaDoor
/- Rows in boxes; All in the frame; leaves that are one. -/
namespace Go.Proofs.YtfcjeceoedfldaaDoor
open Go.RowKit

attribute [local go_sem] Oper.semAt_some

/-- A row that lies in boxes. -/
def RowB (e : TypeId) (size : Nat) (b : Bxs) (v : Value) (n : Nat) (xs : List Value) : Prop :=
  xs.length = n * size ∧ ((v = .slice none 0 0 ∧ n = 0 ∧ b = []) ∨ ∃ g cap cs, v = .slice (some ⟨g, 0, none⟩) n cap ∧ b = [(g, cs, e)] ∧ n ≤ cap ∧ cap ≤ maxLen ∧ cs.length = cap * size ∧ cs.take (n * size) = xs)
theorem RowB.of {X : World} {B : Nat} {e : TypeId} {size : Nat} {v : Value} {n : Nat} {xs : List Value} (h : X.ownsRow B e size v n xs) : ∃ b, RowB e size b v n xs ∧ ∀ y ∈ b, Blk X y.1 y.2.1 y.2.2 ∧ v.ownBlock = some y.1 := by
  obtain ⟨h1, h2⟩ := h
  rcases h2 with ⟨rfl, rfl⟩ | ⟨g, cap, cur, rfl, hb, hg, hc, hm, hs, ht⟩
  · exact ⟨[], ⟨h1, .inl ⟨rfl, rfl, rfl⟩⟩, fun y hy => by simp at hy⟩
  · refine ⟨[(g, cur.toList, e)], ⟨h1, .inr ⟨g, cap, cur.toList, rfl, rfl, hc, hm, by simpa using hs, ht⟩⟩, fun y hy => ?_⟩
    rw [List.mem_singleton] at hy
    subst hy
    exact ⟨by unfold Blk; simpa using hg, rfl⟩
theorem RowB.own {X : World} {e : TypeId} {size : Nat} {b : Bxs} {v : Value} {n : Nat} {xs : List Value} (h : RowB e size b v n xs) (hb : ∀ y ∈ b, Blk X y.1 y.2.1 y.2.2) : X.ownsRow 0 e size v n xs := by
  obtain ⟨h1, h2⟩ := h
  refine ⟨h1, ?_⟩
  rcases h2 with ⟨rfl, rfl, rfl⟩ | ⟨g, cap, cs, rfl, rfl, hc, hm, hs, ht⟩
  · exact .inl ⟨rfl, rfl⟩
  · exact .inr ⟨g, cap, cs.toArray, rfl, by omega, hb (g, cs, e) (by simp), hc, hm, by simpa using hs, by simpa using ht⟩
theorem Fr.sub {w X : World} {D : Nat} {s : Sh} {bs bs' : Bxs} (h : Fr w D s bs X) (hs : ∀ y ∈ bs', y ∈ bs) : Fr w D s bs' X := by
  obtain ⟨⟨L1, v1, h1, h2, h3, h4⟩, k, hl⟩ := h
  exact ⟨⟨L1, v1, h1, h2, fun b hb => h3 b (hs b hb), h4⟩, fun b hb => k b (hs b hb), hl⟩
theorem Fr.row {w X : World} {D : Nat} {s : Sh} {bs : Bxs} (h : Fr w D s bs X) {e : TypeId} {size : Nat} {b : Bxs} {v : Value} {n : Nat} {xs : List Value} (hr : RowB e size b v n xs) (hs : ∀ y ∈ b, y ∈ bs) : X.ownsRow 0 e size v n xs := hr.own fun y hy => h.bx y (hs y hy)
/-- All, with its answers as boxes. -/
theorem fr_all {w X : World} {D : Nat} {s : Sh} {bs : Bxs} (h : Fr w D s bs X) (p : Pt) (hp : p.OK) {m : Nat} (hk : Lim m s) (hm : m + 73 < 1000000) :
    Calls Tryd.prog 11 #[shI D, .agg (pcells p).toArray] X fun e Y => ∃ lv nv lb nb, e = .returned (.tuple #[lv, nv, .int .i64 (allE s p : Int)]) ∧ Fr w D (allS s p) (lb ++ (nb ++ bs)) Y ∧ Lim (m + 73) (allS s p) ∧
      RowB 45 42 lb lv (allL s p).length (lrows (allL s p)) ∧ RowB 37 41 nb nv (allN s p).length (prows (allN s p)) ∧ (∀ x ∈ allL s p, Lf.OK x) ∧ (∀ q ∈ allN s p, q.OK) ∧ ∀ y ∈ lb ++ nb, X.heap.size ≤ y.1 := by
  obtain ⟨L1, v1, h1, h2, h3, h4, h5⟩ := h.call
  refine (trAll_any p hp h1 h2 hk hm).mono ?_
  rintro e Y ⟨lv, nv, e1, ⟨⟨L2, v2, k1, k2, k3, k4⟩, ⟨lo, lo2⟩, ⟨no, no2⟩, okl, okn⟩, e3⟩
  obtain ⟨lb, r1, r2⟩ := RowB.of lo
  obtain ⟨nb, r3, r4⟩ := RowB.of no
  have hF := h5 _ Y ⟨L2, v2, k1, k2⟩
  obtain ⟨-, hbx, hbel⟩ := hF
  refine ⟨lv, nv, lb, nb, e1, ⟨⟨L2, v2, k1, h2.mv k2, fun b hb => ?_, fun g hg => ?_⟩, fun b hb => ?_, hbel⟩, e3, r1, r3, okl, okn, fun y hy => ?_⟩
  · rcases List.mem_append.1 hb with hb | hb
    · exact k3 _ (r2 b hb).2
    · rcases List.mem_append.1 hb with hb | hb
      · exact k4 _ (r4 b hb).2
      · exact (k2.old _ (h.bx b hb).lt).trans (h4 b hb)
  · rw [k2.old g (Nat.lt_of_lt_of_le hg h.bel.size)]
    exact h3 g hg
  · rcases List.mem_append.1 hb with hb | hb
    · exact (r2 b hb).1
    · rcases List.mem_append.1 hb with hb | hb
      · exact (r4 b hb).1
      · exact hbx b hb
  · rcases List.mem_append.1 hy with hy | hy
    · exact lo2 _ (r2 y hy).2
    · exact no2 _ (r4 y hy).2
theorem lrows_at : ∀ (l : List Lf) (i : Nat) (x : Lf), (∀ y ∈ l, Lf.OK y) → l[i]? = some x → ∀ j, j < 42 → (lrows l)[i * 42 + j]? = (lcells x)[j]?
  | [], i, x, _, h, _, _ => by simp at h
  | y :: l, 0, x, hq, h, j, hj => by
    simp only [List.getElem?_cons_zero, Option.some.injEq] at h
    subst h
    have := lcells_length (hq y (by simp)).2
    show (lcells y ++ lrows l)[0 * 42 + j]? = _
    rw [List.getElem?_append_left (by omega)]
    congr 1
    omega
  | y :: l, i + 1, x, hq, h, j, hj => by
    have h0 : l[i]? = some x := by simpa using h
    have hl := lcells_length (hq y (by simp)).2
    have ih := lrows_at l i x (fun z hz => hq z (by simp [hz])) h0 j hj
    show (lcells y ++ lrows l)[(i + 1) * 42 + j]? = _
    rw [List.getElem?_append_right (by omega), ← ih]
    congr 1
    omega
/-- A leaf of a row. -/
theorem OwnL.at {X : World} {B : Nat} {v : Value} {l : List Lf} (h : OwnL X B v l) (hok : ∀ x ∈ l, Lf.OK x) (h0 : 0 < l.length) : ∃ g cap, v = .slice (some ⟨g, 0, none⟩) l.length cap ∧ l.length ≤ cap ∧ ∀ i x, l[i]? = some x → X.rangeAt g (i * 42) (lcells x) := by
  obtain ⟨h1, h2⟩ := h
  rcases h2 with ⟨rfl, hn⟩ | ⟨g, cap, cur, rfl, hb, hg, hc, hm, hs, ht⟩
  · omega
  · refine ⟨g, cap, rfl, hc, fun i x hx j u hu => ?_⟩
    have hB : Blk X g cur.toList 45 := by unfold Blk; simpa using hg
    have hi := (List.getElem?_eq_some_iff.1 hx).1
    have hj : j < 42 := by
      have := (List.getElem?_eq_some_iff.1 hu).1
      rw [lcells_length (hok x (List.mem_of_getElem? hx)).2] at this
      exact this
    have h3 := lrows_at l i x hok hx j hj
    rw [hu, ← ht, List.getElem?_take] at h3
    split at h3
    · exact hB.cell h3
    · cases h3
theorem fieldsL : (Tryd.prog.fieldsOf 45).toList.map (fun f => (f.type, f.offset)) = [(32, 0), (37, 1)] := by kernel_rfl
theorem namesL : ((Tryd.prog.fieldsOf 45).toList.all fun f => f.name != "_") = true := by kernel_rfl
theorem run_eqP1 {p : Pt} (hp : p.OK) (W : World) : (Op.equalIn 9999 37 (.agg (pcells p).toArray) (.agg (pcells p).toArray)).run Tryd.prog W = .ok true W := by
  rw [run_equalIn_struct W 9998 37 _ _ (by kernel_rfl) (by kernel_rfl)]
  have e : true = (((Tryd.prog.fieldsOf 37).toList.map fun f => (f.type, f.offset)).all (eqAt p p)) := by
    rw [fieldsP]
    simp [eqAt]
  rw [e]
  refine eqFields_dec _ _ _ W _ _ (fun f hm => ⟨?_, ?_⟩)
  · have := List.all_eq_true.1 namesP f hm
    simpa using this
  have h1 : (f.type, f.offset) ∈ (Tryd.prog.fieldsOf 37).toList.map (fun f => (f.type, f.offset)) := List.mem_map.2 ⟨f, hm, rfl⟩
  rw [fieldsP] at h1
  simp only [List.mem_cons, Prod.mk.injEq, List.not_mem_nil, or_false] at h1
  have hi : ∀ (t : TypeId) (k : IntKind) (a b : Nat), Tryd.prog.underlying t = some (.int k) → (Op.equalIn 9998 t (.int k (a : Int)) (.int k (b : Int))).run Tryd.prog W = .ok (decide (a = b)) W := fun t k a b ht => by
    rw [run_equalIn_int W 9997 t k k _ _ ht]
    refine congrArg (fun b => Result.ok b W) ?_
    rw [Bool.eq_iff_iff]
    simp
    omega
  rcases h1 with ⟨e1, e2⟩ | ⟨e1, e2⟩ | ⟨e1, e2⟩ | ⟨e1, e2⟩ | ⟨e1, e2⟩ | ⟨e1, e2⟩ | ⟨e1, e2⟩ <;> rw [e1, e2]
  · exact ⟨_, _, part_one Tryd.underlying5 (v := .int .u8 (p.kind : Int)) rfl W, part_one Tryd.underlying5 (v := .int .u8 (p.kind : Int)) rfl W, hi _ _ _ _ Tryd.underlying5⟩
  · exact ⟨_, _, part_one Tryd.underlying5 (v := .int .u8 (p.level : Int)) rfl W, part_one Tryd.underlying5 (v := .int .u8 (p.level : Int)) rfl W, hi _ _ _ _ Tryd.underlying5⟩
  · exact ⟨_, _, part_one Tryd.underlying31 (v := .int .u16 (p.obj : Int)) rfl W, part_one Tryd.underlying31 (v := .int .u16 (p.obj : Int)) rfl W, hi _ _ _ _ Tryd.underlying31⟩
  · exact ⟨_, _, part_one Tryd.underlying32 (v := .int .u32 (p.off : Int)) rfl W, part_one Tryd.underlying32 (v := .int .u32 (p.off : Int)) rfl W, hi _ _ _ _ Tryd.underlying32⟩
  · exact ⟨_, _, part_one Tryd.underlying33 (v := .int .u64 (p.birth : Int)) rfl W, part_one Tryd.underlying33 (v := .int .u64 (p.birth : Int)) rfl W, hi _ _ _ _ Tryd.underlying33⟩
  · refine ⟨_, _, part_arr Tryd.underlying34 sizeA32 _ _ W, part_arr Tryd.underlying34 sizeA32 _ _ W, ?_⟩
    rw [ext_hash hp]
    exact eq_hash hp.hash hp.hash 9996 W
  · refine ⟨_, _, part_arr Tryd.underlying35 sizeAts _ _ W, part_arr Tryd.underlying35 sizeAts _ _ W, ?_⟩
    rw [ext_ats hp]
    exact eq_ats hp.len hp.len 9996 W
theorem part_lp {x : Lf} (hx : x.2.OK) (W : World) : (Go.part 37 (lcells x).toArray 1).run Tryd.prog W = .ok (.agg (pcells x.2).toArray) W := by
  obtain ⟨i, h1, h2⟩ := Option.map_eq_some_iff.1 sizeP
  have hsz : (sizeOf 37).run Tryd.prog W = .ok 41 W := by simp [sizeOf, typeInfo, h1, h2]
  have hag : (isAgg 37).run Tryd.prog W = .ok true W := by
    unfold isAgg
    rw [Sem.run_bind, run_underlying Tryd.underlying37 W]; rfl
  have hex : (lcells x).toArray.extract 1 (1 + 41) = (pcells x.2).toArray := by
    apply Array.toList_inj.1
    have := pcells_length hx
    simp [lcells, List.extract]
    exact List.take_of_length_le (by omega)
  unfold Go.part
  simp only [Sem.run_bind, hag, Result.andThen_ok, hsz, if_true, hex]
  rfl
theorem run_eqL {x : Lf} (hx : x.2.OK) (W : World) : (Op.equalIn 10000 45 (.agg (lcells x).toArray) (.agg (lcells x).toArray)).run Tryd.prog W = .ok true W := by
  rw [run_equalIn_struct W 9999 45 _ _ (by kernel_rfl) (by kernel_rfl)]
  have e : true = (((Tryd.prog.fieldsOf 45).toList.map fun f => (f.type, f.offset)).all (fun _ => true)) := by
    rw [fieldsL]
    rfl
  rw [e]
  refine eqFields_dec _ _ _ W _ _ (fun f hm => ⟨?_, ?_⟩)
  · have := List.all_eq_true.1 namesL f hm
    simpa using this
  have h1 : (f.type, f.offset) ∈ (Tryd.prog.fieldsOf 45).toList.map (fun f => (f.type, f.offset)) := List.mem_map.2 ⟨f, hm, rfl⟩
  rw [fieldsL] at h1
  simp only [List.mem_cons, Prod.mk.injEq, List.not_mem_nil, or_false] at h1
  rcases h1 with ⟨e1, e2⟩ | ⟨e1, e2⟩ <;> rw [e1, e2]
  · refine ⟨_, _, part_one Tryd.underlying32 (v := .int .u32 (x.1 : Int)) rfl W, part_one Tryd.underlying32 (v := .int .u32 (x.1 : Int)) rfl W, ?_⟩
    rw [run_equalIn_int W 9998 32 .u32 .u32 _ _ Tryd.underlying32]
    simp
  · exact ⟨_, _, part_lp hx W, part_lp hx W, run_eqP1 hx W⟩
theorem ex_neL1 {ρ : Operand → Value} {o : Oper} {a b : Operand} {x : Lf} {w : World} (ho : o.op = .binOp .neq 45 a b 45) (ha : ρ a = .agg (lcells x).toArray) (hb : ρ b = .agg (lcells x).toArray) (hx : x.2.OK) : (execOp ρ o).run Tryd.prog w = .ok (.value (.bool false)) w := by
  have h := run_eqL hx w
  unfold execOp
  have hg := run_eqGuard_agg (P := Tryd.prog) w .neq 45 a b (lcells x).toArray (lcells x).toArray (by kernel_rfl)
  simp only [ho, ha, hb, Sem.run_bind, hg, run_neq_struct, h, Result.andThen_ok, Sem.run_pure]
  rfl
theorem ex_ldRL {ρ : Operand → Value} {o : Oper} {x : Operand} {w : World} {g off : Nat} {l : Lf} (hp : l.2.OK) (hr : w.rangeAt g off (lcells l)) (ho : o.op = .load 45 x) (hx : ρ x = .pointer (some ⟨g, off, none⟩)) : (execOp ρ o).run Tryd.prog w = .ok (.value (.agg (lcells l).toArray)) w :=
  ex_ld (ty := 45) (cs := lcells l) ho hx hr Tryd.underlying45 rfl (by rw [sizeLf, lcells_length hp])
end Go.Proofs.YtfcjeceoedfldaaDoor
