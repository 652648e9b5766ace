/- The reference's regions that draw their order: operations on numbers of 32 bits, each by its value; loads; calls that leave the world; a slice that is made; appends of one number. -/
import Derived.Test.YtlibdcgpjglcpaaDoorHRnum
import Derived.Deep.RegionLaw
import Derived.WalkSpells
namespace Go.Proofs.YtlibdcgpjglcpaaDoor
open Go.RowKit

theorem HashAt.lt {w : World} {H : Nat} {m : List (BitVec 8)} (h : HashAt w H m) : H < w.heap.size := by obtain ⟨_, _, h⟩ := h; exact h.lt
theorem HashAt.below {w W : World} {H B : Nat} {m : List (BitVec 8)} (h : HashAt w H m) (hb : Below B w W) (hB : H < B) : HashAt W H m := by
  obtain ⟨r, h1, h2⟩ := h; exact ⟨r, h1, h2.below hb hB⟩
theorem slice_mid (sp : Option Addr) (L cap a n : Nat) (h : a + n ≤ L) (hc : L ≤ cap) : ∃ sp2, (∀ W : World, (Instr.sliceAt 29 (.slice sp L cap) (some (.int .i64 (a : Int))) (some (.int .i64 ((a : Int) + (n : Int)))) none).run Tryd.prog W = .ok (.slice sp2 n (cap - a)) W) ∧ (a < cap → sp2 = sp.map (·.add a)) ∧ (sp2 = none → sp = none) := by
  refine ⟨if cap = a then sp else sp.map (·.add a), fun W => ?_, fun h => if_neg (by omega), fun h => ?_⟩
  · rw [run_sliceAt_slice W 29 _ _ _ _ elem22, run_slice_lh W 29 sp L cap elem22 .i64 .i64 (a : Int) ((a : Int) + (n : Int)) (by omega) (by omega) (by omega), elem22', sizeOf5]
    have e1 : ((a : Int)).toNat = a := by omega
    have e2 : ((a : Int) + (n : Int)).toNat = a + n := by omega
    simp only [Result.andThen, sliced, e1, e2, Nat.mul_one]
    rw [show a + n - a = n by omega]
  · split at h
    · exact h
    · cases sp <;> simp at h ⊢
theorem src_mid {w : World} {sp sp2 : Option Addr} {bs : List (BitVec 8)} (h : SrcA w sp bs) (a n : Nat) (hn : a + n ≤ bs.length) (hs : 0 < n → sp2 = sp.map (·.add a)) : SrcA w sp2 ((bs.drop a).take n) := fun h0 => by
  have h1 : 0 < n := by simp at h0; omega
  obtain ⟨g, o, rfl, hg, hc⟩ := h (by omega)
  refine ⟨g, o + a, by rw [hs h1]; simp [Addr.add_mid], hg, fun j hj => ?_⟩
  have hj' : j < n ∧ a + j < bs.length := by simp at hj; omega
  rw [show o + a + j = o + (a + j) by omega, hc _ hj'.2]
  simp [List.getD_eq_getElem?_getD, hj'.1]
theorem mid_length (bs : List (BitVec 8)) (a n : Nat) (hn : a + n ≤ bs.length) : ((bs.drop a).take n).length = n := by simp; omega
theorem take_mid (bs : List (BitVec 8)) (a n : Nat) : bs.take a ++ (bs.drop a).take n = bs.take (a + n) := by rw [← List.take_add]


section
variable {ρ : Operand → Value} {o : Oper} {x y : Operand} {w : World}
theorem ex_xor32 {k : TypeId} {a b : BitVec 32} (ho : o.op = .binOp .xor 23 x y k) (hx : ρ x = V32 a) (hy : ρ y = V32 b) : (execOp ρ o).run Tryd.prog w = .ok (.value (V32 (a ^^^ b))) w := by
  have e := xor32 a b
  unfold execOp
  simp [go_sem, ho, hx, hy, e]
theorem ex_and32 {k : TypeId} {a b : BitVec 32} (ho : o.op = .binOp .and 23 x y k) (hx : ρ x = V32 a) (hy : ρ y = V32 b) : (execOp ρ o).run Tryd.prog w = .ok (.value (V32 (a &&& b))) w := by
  have e := and32 a b
  unfold execOp
  simp [go_sem, ho, hx, hy, e]
theorem ex_add32 {k : TypeId} {a b : BitVec 32} (ho : o.op = .binOp .add 23 x y k) (hx : ρ x = V32 a) (hy : ρ y = V32 b) : (execOp ρ o).run Tryd.prog w = .ok (.value (V32 (a + b))) w := by
  have e := add32 a b
  unfold execOp
  simp [go_sem, ho, hx, hy, e]
theorem ex_not32 {a : BitVec 32} (ho : o.op = .unOp .xor 23 x) (hx : ρ x = V32 a) : (execOp ρ o).run Tryd.prog w = .ok (.value (V32 (~~~ a))) w := by
  have e := not32 a
  unfold execOp
  have e0 : (if IntKind.u32.signed = true then (-1 : Int) else IntKind.u32.max) = 4294967295 := by decide
  simp [go_sem, ho, hx, e0, e]
theorem ex_subN {t : TypeId} {j c m : Nat} (ho : o.op = .binOp .sub 3 x y t) (hx : ρ x = .int .i64 (j : Int)) (hy : ρ y = .int .i64 (c : Int)) (hj : j ≤ 1000000) (hm : j = m + c) : (execOp ρ o).run Tryd.prog w = .ok (.value (.int .i64 (m : Int))) w := by
  have e := IntWalk.i64_in ((j : Int) - (c : Int)) (by omega)
  have e2 : (j : Int) - (c : Int) = (m : Int) := by omega
  rw [e2] at e
  unfold execOp
  simp [go_sem, ho, hx, hy, e2, e]
theorem ex_idx {sp : Addr} {n c j g o1 : Nat} (ho : o.op = .indexAddr 104 x y) (hx : ρ x = .slice (some sp) n c) (hs : sp = ⟨g, o1, none⟩) (hy : ρ y = .int .i64 (j : Int)) (hj : j < n) (_hn : n ≤ 1000000) : (execOp ρ o).run Tryd.prog w = .ok (.value (.pointer (some ⟨g, o1 + j, none⟩))) w := by
  subst hs
  have h1 : (j : Int) < (n : Int) := by omega
  unfold execOp
  simp only [ho]
  go_simp
theorem ex_load32 {ad : Addr} {z : BitVec 32} (ho : o.op = .load 23 x) (hx : ρ x = .pointer (some ad)) (hc : w.cell? ad = some (V32 z)) : (execOp ρ o).run Tryd.prog w = .ok (.value (V32 z)) w := by
  unfold execOp
  simp only [ho]
  go_simp
theorem ex_slice8 {a b c d e f g h : Operand} {x1 x2 x3 x4 x5 x6 x7 x8 : BitVec 32} (ho : o.op = .buildSlice 104 8 #[(0, a), (1, b), (2, c), (3, d), (4, e), (5, f), (6, g), (7, h)]) (h1 : ρ a = V32 x1) (h2 : ρ b = V32 x2) (h3 : ρ c = V32 x3) (h4 : ρ d = V32 x4) (h5 : ρ e = V32 x5) (h6 : ρ f = V32 x6) (h7 : ρ g = V32 x7) (h8 : ρ h = V32 x8) :
    (execOp ρ o).run Tryd.prog w = .ok (.value (.slice (some ⟨w.heap.size, 0, none⟩) 8 8)) (w.alloc (.cells #[V32 x1, V32 x2, V32 x3, V32 x4, V32 x5, V32 x6, V32 x7, V32 x8] 23)) := by
  unfold execOp
  simp only [ho]
  go_simp
theorem ex_slice1 {a : Operand} {x1 : BitVec 32} (ho : o.op = .buildSlice 104 1 #[(0, a)]) (h1 : ρ a = V32 x1) :
    (execOp ρ o).run Tryd.prog w = .ok (.value (.slice (some ⟨w.heap.size, 0, none⟩) 1 1)) (w.alloc (.cells #[V32 x1] 23)) := by
  unfold execOp
  simp only [ho]
  go_simp
end
section
variable {ops : Array Oper} {Q : Exit → Act → World → Prop} {S : World → Prop}
/-- A call that leaves the world as it is. -/
theorem wpG_same {i : Nat} {r : Tr} {a : Act} {w : World} (o : Oper) (hi : ops.toList[i]? = some o) (hw : Region.wanted o (yielded ops a.tmps) = true) (f : FuncId) (args : Array Value) (hrun : ∀ w, (execOp a.eval o).run Tryd.prog w = .ok (.enter f args) w)
    (hS : S w) (v : Value) (hc : Calls Tryd.prog f args w fun e w' => e = .returned v ∧ w = w')
    (h : wpG Tryd.prog ops Q r S (a.put o.dst v) w) : wpG Tryd.prog ops Q (.step i r) S a w :=
  wpG_call o hi hw f args hrun (fun u w' => u = v ∧ w = w') (hc.mono fun _ w' ⟨e1, e2⟩ => ⟨v, e1, e2 ▸ hS, rfl, e2⟩) fun u w' hS' ⟨hu, hw⟩ => by
    subst hu; subst hw
    exact ⟨S, fun _ h => h, hS', h⟩
/-- An operation that makes memory; what is known of its world, told anew. -/
theorem wpG_mk {i : Nat} {r : Tr} {a : Act} {w : World} (o : Oper) (hi : ops.toList[i]? = some o) (hw : Region.wanted o (yielded ops a.tmps) = true) (v : Value) (w1 : World) (hrun : (execOp a.eval o).run Tryd.prog w = .ok (.value v) w1)
    (S' : World → Prop) (hS : S' w1) (hSS : ∀ w, S' w → S w) (h : wpG Tryd.prog ops Q r S' (a.put o.dst v) w1) : wpG Tryd.prog ops Q (.step i r) S a w := by
  show wpOp Tryd.prog ops Q i _ a w
  unfold wpOp
  simp only [of_list hi]
  rw [if_pos hw]
  refine .inl ?_
  unfold Oper.wp
  rw [hrun]
  exact ⟨hSS _ hS, S', hSS, hS, h⟩
end
/-- The words of a slice, in whatever world meets it. -/
def Words (g o : Nat) (l : List (BitVec 32)) (W : World) : Prop := ∀ j, j < l.length → W.cell? ⟨g, o + j, none⟩ = some (V32 (l.getD j 0))
theorem Words.block {g o : Nat} {l : List (BitVec 32)} {w W : World} (h : Words g o l w) (hb : W.heap[g]? = w.heap[g]?) : Words g o l W := fun j hj => (World.cell?_of_block (a := ⟨g, o + j, none⟩) hb).trans (h j hj)
theorem Words.below {g o : Nat} {l : List (BitVec 32)} {w W : World} {B : Nat} (h : Words g o l w) (hb : Below B w W) (hg : g < B) : Words g o l W := h.block (hb.block g hg)
theorem Words.alloc {g o : Nat} {l : List (BitVec 32)} {w : World} (h : Words g o l w) (hg : g < w.heap.size) (b : Obj) : Words g o l (w.alloc b) := h.block (Below.heap_alloc w b g hg)
theorem own_words {w : World} {B g n cap : Nat} {l : List (BitVec 32)} (h : w.ownsRow B 23 1 (.slice (some ⟨g, 0, none⟩) n cap) l.length (l.map V32)) : Words g 0 l w := fun j hj => by
  have hn : n = l.length := by rcases h.2 with ⟨e, _⟩ | ⟨_, _, _, e, _⟩ <;> simp at e; omega
  subst hn
  rw [Nat.zero_add, h.cellAt j (by omega)]
  exact get_map V32 _ j hj 0
theorem own_form {w : World} {B : Nat} {v : Value} {l : List (BitVec 32)} (h : w.ownsRow B 23 1 v l.length (l.map V32)) (h0 : 0 < l.length) : ∃ g cap, v = .slice (some ⟨g, 0, none⟩) l.length cap ∧ l.length ≤ cap ∧ B ≤ g ∧ g < w.heap.size := by
  rcases h.2 with ⟨rfl, hn⟩ | ⟨g, cap, cur, rfl, hb, hg, hc, hm, _, _⟩
  · omega
  · exact ⟨g, cap, rfl, hc, hb, (Array.getElem?_eq_some_iff.1 hg).1⟩

theorem run_append_kept {w : World} (B : Nat) (ty : TypeId) (v : Value) (l : List (BitVec 32)) (hown : w.ownsRow B 23 1 v l.length (l.map V32)) (ad : Addr) (c : Nat) (b : BitVec 32) (hcell : w.cell? (ad.add 0) = some (V32 b)) (hl : l.length ≤ 1000000) (hB : B ≤ w.heap.size) :
    ∃ v' w', (Builtin.append_ #[104, 104] ty #[v, .slice (some ad) 1 c]).run Tryd.prog w = .ok v' w' ∧ w'.ownsRow B 23 1 v' (l ++ [b]).length ((l ++ [b]).map V32) ∧ w.grownBy w' v.ownBlock ∧ (∀ g n cap, v = .slice (some ⟨g, 0, none⟩) n cap → Words g 0 l w') := by
  obtain ⟨i0, hi, hz0, hz1, hz2⟩ := info_parts info36
  have hn : ∀ j u, [V32 b][j]? = some u → w.cell? (ad.add j) = some u := fun j u hj => by
    match j, hj with
    | 0, hj => simp at hj; subst hj; exact hcell
  obtain ⟨v', w', hr, h2, h3, h4⟩ := run_append_own (P := Tryd.prog) w B 104 ty 23 i0 (.int .u32 0) 1 4 Tryd.underlying104 hi hz0 hz1 hz2 rfl (by decide) v l.length (l.map V32) hown ad 1 c [V32 b] rfl hn (one_cell32 _) (by unfold maxLen; omega) (by omega) hB
  refine ⟨v', w', hr, by rw [List.map_append, List.length_append]; exact h2, h3, ?_⟩
  rintro g n cap rfl
  have hnn : n = l.length := by rcases hown.2 with ⟨e, _⟩ | ⟨_, _, _, e, _⟩ <;> simp at e; omega
  subst hnn
  have hw := own_words hown
  rcases hown.2 with ⟨e, _⟩ | ⟨g', cap', cur, e, hbg, hg, hnc, hcm, hcs, htake⟩
  · simp at e
  · simp at e
    obtain ⟨rfl, rfl⟩ := e
    by_cases hroom : l.length + 1 ≤ cap
    · have hr2 := run_append_room (P := Tryd.prog) w 104 ty 23 i0 Tryd.underlying104 hi g l.length cap cur hg ad 1 c [V32 b] (by rw [hz1]; rfl) hn (one_cell32 _) hroom (by rw [hz1, hcs]; simp; omega)
      rw [hr] at hr2
      injection hr2 with e1 e2
      subst e1
      have h2' : w'.ownsRow B 23 1 (.slice (some ⟨g, 0, none⟩) (l.length + 1) cap) (l ++ [b]).length ((l ++ [b]).map V32) := by rw [List.map_append, List.length_append]; exact h2
      intro j hj
      have := own_words h2' j (by simp; omega)
      rw [this]
      simp [List.getD_eq_getElem?_getD, List.getElem?_append_left hj]
    · have holds := hown.cells (g := g) rfl
      have hr2 := run_append_grow (P := Tryd.prog) w 104 ty 23 i0 (.int .u32 0) Tryd.underlying104 hi hz0 ⟨g, 0, none⟩ l.length cap (l.map V32) (by rw [hz1]; simp) holds ad 1 c [V32 b] (by rw [hz1]; rfl) hn (by omega) (by omega) (growslice_fits (by omega) (by rw [hz2]; omega))
      rw [hr] at hr2
      injection hr2 with e1 e2
      subst e2
      exact Words.alloc (w := w.drew) hw (Array.getElem?_eq_some_iff.1 hg).1 _
section
variable {ops : Array Oper} {Q : Exit → Act → World → Prop} {S : World → Prop}
/-- 'append(v, x)' of one number, v the call's own: what v held stays to be read at its place, whether it grew or not. -/
theorem wpG_app32 {i : Nat} {r : Tr} {a : Act} {w : World} (o : Oper) (hi : ops.toList[i]? = some o) (hw : Region.wanted o (yielded ops a.tmps) = true) (s x : Operand)
    (ho : o.op = .call { callee := .builtin .append, args := #[s, x], argTypes := #[104, 104] }) (v : Value) (hs : a.eval s = v) (B : Nat) (l : List (BitVec 32)) (hown : w.ownsRow B 23 1 v l.length (l.map V32)) (b : BitVec 32) (ad : Addr) (c : Nat) (hx : a.eval x = .slice (some ad) 1 c) (hcell : w.cell? (ad.add 0) = some (V32 b))
    (hl : l.length ≤ 1000000) (hB : B ≤ w.heap.size)
    (h : ∀ v' w', w'.ownsRow B 23 1 v' (l ++ [b]).length ((l ++ [b]).map V32) → w.grownBy w' v.ownBlock → (∀ g n cap, v = .slice (some ⟨g, 0, none⟩) n cap → Words g 0 l w') → S w' ∧ wpG Tryd.prog ops Q r S (a.put o.dst v') w') : wpG Tryd.prog ops Q (.step i r) S a w := by
  obtain ⟨v', w', hr, h2, h3, h4⟩ := run_append_kept (w := w) B o.type v l hown ad c b hcell hl hB
  obtain ⟨h5, h6⟩ := h v' w' h2 h3 h4
  refine wpG_mk o hi hw v' w' ?_ S h5 (fun _ h => h) h6
  unfold execOp
  simp only [ho, resolve, invoke, builtin, Sem.run_bind, Sem.run_pure, Result.andThen_ok, List.map_toArray, List.map_cons, List.map_nil, hs, hx, hr]
end
end Go.Proofs.YtlibdcgpjglcpaaDoor
