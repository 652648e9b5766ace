/- Charge: objects in memory; great, of. -/
import Derived.Test.YtoceedfjfjobdaaGe
import Derived.Maps.AppendAt
import Derived.Deep.MidRow
import Derived.Laws.OwnMore
import Derived.Great.BuildSlice
namespace Go.Proofs.Ytoceedfjfjobdaa
open Go.RowKit

attribute [local go_sem] Oper.semAt_some

/-- An object in memory, and where its offsets lie. -/
structure Oi where
  num : Nat
  kind : Nat
  offs : List Nat
  sp : Option Addr
  cap : Nat
instance : Inhabited Oi := ⟨⟨0, 0, [], none, 0⟩⟩
def Oi.ob (o : Oi) : Ob := ⟨o.num, o.kind, o.offs⟩
abbrev ocells (o : Oi) : List Value := [.int .u16 (o.num : Int), .int .u8 (o.kind : Int), .slice o.sp o.offs.length o.cap]
def SrcN (w : World) (sp : Option Addr) (l : List Nat) : Prop := 0 < l.length → ∃ g o, sp = some ⟨g, o, none⟩ ∧ g < w.heap.size ∧ ∀ (j x : Nat), l[j]? = some x → w.cell? ⟨g, o + j, none⟩ = some (.int .u32 (x : Int))
theorem SrcN.grown {w w' : World} {sp : Option Addr} {l : List Nat} (h : SrcN w sp l) (hb : Below w.heap.size w w') : SrcN w' sp l := fun h0 => by
  obtain ⟨g, o, rfl, hg, hr⟩ := h h0
  refine ⟨g, o, rfl, Nat.lt_of_lt_of_le hg hb.size, fun j x hx => ?_⟩
  rw [hb.cell (p := ⟨g, o + j, none⟩) hg]
  exact hr j x hx
structure Oi.OK (w : World) (o : Oi) : Prop where
  s : SrcN w o.sp o.offs
  c : o.offs.length ≤ o.cap
  m : o.cap ≤ maxLen
  n : o.num < 65536
  k : o.kind < 256
  x : ∀ x ∈ o.offs, x < 4294967296
theorem Oi.OK.grown {w w' : World} {o : Oi} (h : o.OK w) (hb : Below w.heap.size w w') : o.OK w' := ⟨h.s.grown hb, h.c, h.m, h.n, h.k, h.x⟩
def ocs (l : List Oi) : List Value := l.flatMap ocells
theorem ocs_len (l : List Oi) : (ocs l).length = l.length * 3 := by
  induction l with
  | nil => rfl
  | cons a l ih => unfold ocs at *; rw [List.flatMap_cons, List.length_append, ih, List.length_cons]; simp; omega
theorem ocs_app (a b : List Oi) : ocs (a ++ b) = ocs a ++ ocs b := by simp [ocs]
theorem ocs_one (e : Oi) : ocs [e] = ocells e := by simp [ocs]
theorem ocs_at : ∀ (l : List Oi) (i j : Nat) (e : Oi) (v : Value), l[i]? = some e → (ocells e)[j]? = some v → (ocs l)[i * 3 + j]? = some v
  | [], i, j, e, v, h, _ => by simp at h
  | a :: l, 0, j, e, v, h, hj => by
    obtain rfl : a = e := by simpa using h
    have hl : j < 3 := (List.getElem?_eq_some_iff.1 hj).1
    unfold ocs
    rw [List.flatMap_cons, Nat.zero_mul, Nat.zero_add, List.getElem?_append_left (by simpa using hl)]
    exact hj
  | a :: l, i + 1, j, e, v, h, hj => by
    have h' : l[i]? = some e := by simpa using h
    have ih := ocs_at l i j e v h' hj
    unfold ocs at *
    rw [List.flatMap_cons, List.getElem?_append_right (by simp; omega)]
    rw [show (i + 1) * 3 + j - (ocells a).length = i * 3 + j by simp; omega]
    exact ih
theorem one_ocs (l : List Oi) : ∀ v ∈ ocs l, v.oneCell' = true := fun v hv => by
  unfold ocs at hv
  rw [List.mem_flatMap] at hv
  obtain ⟨e, _, h⟩ := hv
  simp only [ocells, List.mem_cons, List.not_mem_nil, or_false] at h
  rcases h with rfl | rfl | rfl <;> rfl
theorem fold_splice (off : Nat) (vs : List Value) (cs : Array Value) (h : off + vs.length ≤ cs.size) : (vs.zipIdx 0).foldl (fun cs (x : Value × Nat) => cs.setIfInBounds (off + x.2) x.1) cs = (splice cs.toList off vs).toArray := by
  obtain ⟨h1, h2⟩ := Go.Great.foldl_set off vs 0 cs
  apply Array.ext_getElem?
  intro k
  rw [h2 k]
  simp only [List.getElem?_toArray, splice, Nat.add_zero]
  by_cases hk : k < off
  · rw [if_neg (by omega), List.getElem?_append_left (by simp; omega), List.getElem?_take, if_pos hk]
    simp
  · rw [List.getElem?_append_right (by simp; omega)]
    have e : (cs.toList.take off).length = off := by simp; omega
    rw [e]
    by_cases hk2 : k < off + vs.length
    · rw [if_pos (by omega), List.getElem?_append_left (by omega)]
    · rw [if_neg (by omega), List.getElem?_append_right (by omega), List.getElem?_drop]
      rw [show off + vs.length + (k - off - vs.length) = k by omega]
      simp
theorem fill_whole {pl : Nat → Option (Nat × Nat)} {cells : Array Value} {size : Nat} {v : Value} (hp : pl 0 = some (0, size)) (hv : v.cells.size = size) (hle : cells.size = size) :
    Instr.fill pl cells [(0, v)] = some v.cells := by
  have hf := fold_splice 0 v.cells.toList cells (by simp; omega)
  unfold Instr.fill
  simp only [hp]
  rw [if_neg (by simp [hv]; omega)]
  unfold Instr.fill
  congr 1
  have e : splice cells.toList 0 v.cells.toList = v.cells.toList := by
    unfold splice
    rw [List.drop_of_length_le (by simp; omega)]
    simp
  rw [e] at hf
  rw [← Array.foldl_toList]
  simpa using hf
/-- Entries that lie in memory. -/
def SrcO (w : World) (sp : Option Addr) (l : List Oi) : Prop :=
  0 < l.length → ∃ g o, sp = some ⟨g, o, none⟩ ∧ g < w.heap.size ∧ ∀ i e, l[i]? = some e → w.rangeAt g (o + i * 3) (ocells e)
theorem SrcO.chg {F : Nat → Prop} {w w' : World} {sp : Option Addr} {l : List Oi} (h : SrcO w sp l) (hc : Chg F w w') (hn : ∀ a, sp = some a → ¬ F a.block) : SrcO w' sp l := fun h0 => by
  obtain ⟨g, o, e, hg, hr⟩ := h h0
  refine ⟨g, o, e, Nat.lt_of_lt_of_le hg hc.size, fun i x hx j v hv => ?_⟩
  rw [World.cell?_of_block (w := w) (a := ⟨g, o + i * 3 + j, none⟩) (hc.block g hg (hn _ e))]
  exact hr i x hx j v hv
theorem SrcO.below {w w' : World} {sp : Option Addr} {l : List Oi} {B : Nat} (h : SrcO w sp l) (hb : Below B w w') (hB : ∀ a, sp = some a → a.block < B) : SrcO w' sp l := fun h0 => by
  obtain ⟨g, o, rfl, hg, hr⟩ := h h0
  refine ⟨g, o, rfl, Nat.lt_of_lt_of_le hg hb.size, fun i x hx j v hv => ?_⟩
  rw [hb.cell (p := ⟨g, o + i * 3 + j, none⟩) (show g < B from hB ⟨g, o, none⟩ rfl)]
  exact hr i x hx j v hv
theorem SrcO.grown {w w' : World} {sp : Option Addr} {l : List Oi} (h : SrcO w sp l) (hb : Below w.heap.size w w') : SrcO w' sp l := fun h0 => by
  obtain ⟨g, o, rfl, hg, hr⟩ := h h0
  refine ⟨g, o, rfl, Nat.lt_of_lt_of_le hg hb.size, fun i x hx j v hv => ?_⟩
  rw [hb.cell (p := ⟨g, o + i * 3 + j, none⟩) hg]
  exact hr i x hx j v hv
theorem SrcO.drew {w : World} {sp : Option Addr} {l : List Oi} (h : SrcO w sp l) : SrcO w.drew sp l := h.grown (Below.refl _ _).drew
theorem SrcO.nil (w : World) (sp : Option Addr) : SrcO w sp [] := fun h => absurd h (by simp)
theorem srcO_one {w : World} {g : Nat} {x : Oi} {t : TypeId} (hg : Blk w g (ocells x) t) : SrcO w (some ⟨g, 0, none⟩) [x] := fun _ => ⟨g, 0, rfl, hg.lt, fun i e hi j v hj => by
  have hi1 : i < 1 := (List.getElem?_eq_some_iff.1 hi).1
  obtain rfl : i = 0 := by omega
  obtain rfl : x = e := by simpa using hi
  rw [Nat.zero_mul, Nat.zero_add]
  have := hg.cell hj
  simpa using this⟩
theorem infoO : (Try.prog.info? 48).map (fun i => (i.zero.map (·.cells.size), i.size, i.bytes)) = some (some 3, 3, 32) := by kernel_rfl
theorem info_partsO : ∃ i z, Try.prog.info? 48 = some i ∧ i.zero = some z ∧ z.cells.size = 3 ∧ i.size = 3 ∧ i.bytes = 32 := by
  obtain ⟨i, h1, h2⟩ := Option.map_eq_some_iff.1 infoO
  simp only [Prod.mk.injEq] at h2
  obtain ⟨z, hz, hz2⟩ := Option.map_eq_some_iff.1 h2.1
  exact ⟨i, z, h1, hz, hz2, h2.2.1, h2.2.2⟩
theorem sizeO : (Try.prog.info? 48).map (·.size) = some 3 := by kernel_rfl
abbrev OwnO (w : World) (B : Nat) (v : Value) (l : List Oi) : Prop := w.ownsRow B 48 3 v l.length (ocs l)
theorem OwnO.nil (w : World) (B : Nat) : OwnO w B (.slice none 0 0) [] := World.ownsRow_nil _ _ _ _
theorem OwnO.form {w : World} {B : Nat} {v : Value} {l : List Oi} (h : OwnO w B v l) : ∃ sp cap, v = .slice sp l.length cap ∧ l.length ≤ cap ∧ cap ≤ maxLen ∧ SrcO w sp l ∧ (sp = none → cap = 0) ∧ (∀ a, sp = some a → B ≤ a.block ∧ a.block < w.heap.size) := by
  rcases h.2 with ⟨rfl, hn⟩ | ⟨g, cap, cur, rfl, hb, hg, hc, hm, h5, h6⟩
  · refine ⟨none, 0, by rw [hn], by omega, by unfold maxLen; omega, fun h0 => by omega, fun _ => rfl, fun _ hh => by cases hh⟩
  · have hlt : g < w.heap.size := (Array.getElem?_eq_some_iff.1 hg).1
    have hB : Blk w g cur.toList 48 := by unfold Blk; simpa using hg
    refine ⟨some ⟨g, 0, none⟩, cap, rfl, hc, hm, fun h0 => ⟨g, 0, rfl, hlt, fun i e hi j v hj => ?_⟩, (fun hh => by cases hh), (fun _ hh => by cases hh; exact ⟨hb, hlt⟩)⟩
    have h1 := ocs_at l i j e v hi hj
    rw [← h6, List.getElem?_take] at h1
    split at h1
    · rw [Nat.zero_add]; exact hB.cell h1
    · cases h1
theorem OwnO.src' {w : World} {B n cap : Nat} {sp : Option Addr} {l : List Oi} (h : OwnO w B (.slice sp n cap) l) : SrcO w sp l := by
  obtain ⟨sp', cap', e, -, -, hs, -⟩ := h.form
  injection e with e1 e2 e3
  subst e1
  exact hs
theorem OwnO.below {w W : World} {B B' : Nat} {v : Value} {l : List Oi} (h : OwnO w B v l) (hb : Below B' w W) (hB : w.heap.size ≤ B') : OwnO W B v l := by
  refine ⟨h.1, ?_⟩
  rcases h.2 with hn | ⟨g, cap, cur, rfl, hbg, hg, rest⟩
  · exact .inl hn
  · exact .inr ⟨g, cap, cur, rfl, hbg, by rw [hb.block g (Nat.lt_of_lt_of_le (Array.getElem?_eq_some_iff.1 hg).1 hB)]; exact hg, rest⟩
theorem OwnO.lower {w : World} {B B' : Nat} {v : Value} {l : List Oi} (h : OwnO w B v l) (hB : B' ≤ B) : OwnO w B' v l := by
  refine ⟨h.1, ?_⟩
  rcases h.2 with hn | ⟨g, cap, cur, rfl, hbg, rest⟩
  · exact .inl hn
  · exact .inr ⟨g, cap, cur, rfl, Nat.le_trans hB hbg, rest⟩
theorem ownO_apps {w : World} {B : Nat} {v : Value} {l l2 : List Oi} (h : OwnO w B v l) (hB : B ≤ w.heap.size) (hl : l.length + l2.length < 1000000) {sp : Option Addr} {cap : Nat} (hs : SrcO w sp l2) (hz : sp = none → cap = 0) (ty : TypeId) :
    ∃ v' w', (Builtin.append_ #[35, 35] ty #[v, .slice sp l2.length cap]).run Try.prog w = .ok v' w' ∧ OwnO w' B v' (l ++ l2) ∧ w.grownBy w' v.ownBlock ∧ (v'.ownBlock = v.ownBlock ∨ v'.ownBlock = some w.heap.size) := by
  obtain ⟨i0, z, hi, hz0, hz1, hz2, hz3⟩ := info_partsO
  cases sp with
  | none =>
    have h0 : l2 = [] := by
      rcases Nat.eq_zero_or_pos l2.length with h0 | h0
      · exact List.eq_nil_of_length_eq_zero h0
      · obtain ⟨_, _, he, _⟩ := hs h0; cases he
    subst h0
    obtain rfl := hz rfl
    refine ⟨v, w, run_append_owned_none (P := Try.prog) (w := w) B 35 ty 48 i0 3 Try.underlying35 hi v l.length (ocs l) h, by rw [List.append_nil]; exact h, ⟨rfl, rfl, rfl, Nat.le_refl _, fun _ _ _ => rfl⟩, .inl rfl⟩
  | some ad =>
    obtain ⟨v', w', hr, h2, h3, _, h5⟩ := run_append_own_at (P := Try.prog) w B 35 ty 48 i0 z 3 32 Try.underlying35 hi hz0 hz2 hz3 hz1 (by decide) v l.length (ocs l) h ad l2.length cap (ocs l2) (ocs_len l2) (fun j y hj => by
      have hj2 : j < l2.length * 3 := by rw [← ocs_len]; exact (List.getElem?_eq_some_iff.1 hj).1
      obtain ⟨g, o, he, hg, hc⟩ := hs (by omega)
      cases he
      have hd : j / 3 < l2.length := by omega
      have hm : j % 3 < 3 := by omega
      have he : l2[j / 3]? = some l2[j / 3] := List.getElem?_eq_getElem hd
      have hv : (ocells l2[j / 3])[j % 3]? = some (ocells l2[j / 3])[j % 3] := List.getElem?_eq_getElem (by simpa using hm)
      have h1 := ocs_at l2 (j / 3) (j % 3) _ _ he hv
      rw [show j / 3 * 3 + j % 3 = j by omega] at h1
      rw [h1] at hj
      cases hj
      have h2 := hc _ _ he _ _ hv
      rw [show o + j / 3 * 3 + j % 3 = o + j by omega] at h2
      rw [Addr.add_mid]
      exact h2) (one_ocs l2) (by unfold maxLen; omega) (by omega) hB
    refine ⟨v', w', hr, ?_, h3, h5⟩
    unfold OwnO
    rw [ocs_app, List.length_append]
    exact h2
theorem ownO_app {w : World} {B : Nat} {v : Value} {l : List Oi} (h : OwnO w B v l) (hB : B ≤ w.heap.size) (hl : l.length + 1 < 1000000) {x : Oi} {g : Nat} {t : TypeId} (hg : Blk w g (ocells x) t) (ty : TypeId) :
    ∃ v' w', (Builtin.append_ #[35, 35] ty #[v, .slice (some ⟨g, 0, none⟩) 1 1]).run Try.prog w = .ok v' w' ∧ OwnO w' B v' (l ++ [x]) ∧ w.grownBy w' v.ownBlock ∧ (v'.ownBlock = v.ownBlock ∨ v'.ownBlock = some w.heap.size) :=
  ownO_apps (l2 := [x]) (cap := 1) h hB (by simp; omega) (srcO_one hg) (fun h => by cases h) ty
section
variable {ρ : Operand → Value} {o : Oper} {x y : Operand} {w : World}
theorem ex_iaO {g o' n cap k : Nat} (ho : o.op = .indexAddr 35 x y) (hx : ρ x = .slice (some ⟨g, o', none⟩) n cap) (hy : ρ y = .int .i64 (k : Int)) (hk : k < n ∧ n ≤ cap) :
    (execOp ρ o).run Try.prog w = .ok (.value (.pointer (some ⟨g, o' + k * 3, none⟩))) w := by
  have h1 : ¬ n ≤ k := by omega
  unfold execOp
  simp only [ho]
  go_simp
theorem ex_ldO {e : Oi} {g off : Nat} (hr : w.rangeAt g off (ocells e)) (ho : o.op = .load 48 x) (hx : ρ x = .pointer (some ⟨g, off, none⟩)) : (execOp ρ o).run Try.prog w = .ok (.value (.agg (ocells e).toArray)) w :=
  c_ld (ty := 48) (cs := ocells e) ho hx hr Try.underlying48 rfl (by rw [sizeO]; rfl)
theorem ex_faO {g a j : Nat} (hj : j = 0 ∨ j = 1 ∨ j = 2) (ho : o.op = .fieldAddr 48 x j) (hx : ρ x = .pointer (some ⟨g, a, none⟩)) : (execOp ρ o).run Try.prog w = .ok (.value (.pointer (some ⟨g, a + j, none⟩))) w := by
  unfold execOp
  simp only [ho]
  rcases hj with rfl | rfl | rfl <;> go_simp
theorem ex_oneO {e : Oi} (ho : o.op = .buildSlice 35 1 #[(0, x)]) (hx : ρ x = .agg (ocells e).toArray) :
    (execOp ρ o).run Try.prog w = .ok (.value (.slice (some ⟨w.heap.size, 0, none⟩) 1 1)) (w.alloc (.cells (ocells e).toArray 48)) := by
  obtain ⟨i, z, hi, hz, hzs, his, _⟩ := info_partsO
  have hr := run_buildSlice (P := Try.prog) w 35 48 1 #[(0, .agg (ocells e).toArray)] (ocells e).toArray i z Try.underlying35 hi hz (by rw [his]; omega) (by rw [his]; omega)
    (fill_whole (size := 3) (by simp [his]) (by simp [Value.cells]) (by simp [his]))
  unfold execOp
  simp only [ho]
  rw [show (Array.map (fun x : Nat × Operand => (x.1, ρ x.2)) #[(0, x)]) = #[(0, .agg (ocells e).toArray)] by simp [hx]]
  simp only [Sem.run_bind, hr, Result.andThen_ok]
  rfl
theorem ex_appO {v u v' : Value} {w w' : World} (ho : o.op = .call { callee := .builtin .append, args := #[x, y], argTypes := #[35, 35] }) (hx : ρ x = v) (hy : ρ y = u)
    (hr : (Builtin.append_ #[35, 35] o.type #[v, u]).run Try.prog w = .ok v' w') : (execOp ρ o).run Try.prog w = .ok (.value v') w' := by
  unfold execOp
  simp only [ho, resolve, invoke, builtin, Sem.run_bind, Sem.run_pure, Result.andThen_ok, List.map_toArray, List.map_cons, List.map_nil, hx, hy, hr]
theorem ex_iaL {g o' n cap k : Nat} (ho : o.op = .indexAddr 29 x y) (hx : ρ x = .slice (some ⟨g, o', none⟩) n cap) (hy : ρ y = .int .i64 (k : Int)) (hk : k < n ∧ n ≤ cap) :
    (execOp ρ o).run Try.prog w = .ok (.value (.pointer (some ⟨g, o' + k * 3, none⟩))) w := by
  have h1 : ¬ n ≤ k := by omega
  unfold execOp
  simp only [ho]
  go_simp
theorem ex_faL {g a j : Nat} (hj : j = 0 ∨ j = 1 ∨ j = 2) (ho : o.op = .fieldAddr 33 x j) (hx : ρ x = .pointer (some ⟨g, a, none⟩)) : (execOp ρ o).run Try.prog w = .ok (.value (.pointer (some ⟨g, a + j, none⟩))) w := by
  unfold execOp
  simp only [ho]
  rcases hj with rfl | rfl | rfl <;> go_simp
theorem ex_ld16 {ad : Addr} {v : Value} (ho : o.op = .load 30 x) (hx : ρ x = .pointer (some ad)) (hc : w.cell? ad = some v) : (execOp ρ o).run Try.prog w = .ok (.value v) w := by
  unfold execOp; simp only [ho]; go_simp
theorem ex_ldB8 {ad : Addr} {v : Value} (ho : o.op = .load 5 x) (hx : ρ x = .pointer (some ad)) (hc : w.cell? ad = some v) : (execOp ρ o).run Try.prog w = .ok (.value v) w := by
  unfold execOp; simp only [ho]; go_simp
theorem ex_ldOf {ad : Addr} {v : Value} (ho : o.op = .load 31 x) (hx : ρ x = .pointer (some ad)) (hc : w.cell? ad = some v) : (execOp ρ o).run Try.prog w = .ok (.value v) w := by
  unfold execOp; simp only [ho]; go_simp
theorem ex_bldO {z : Operand} {e : Oi} (ho : o.op = .build 48 #[(0, x), (1, y), (2, z)]) (hx : ρ x = .int .u16 (e.num : Int)) (hy : ρ y = .int .u8 (e.kind : Int)) (hz : ρ z = .slice e.sp e.offs.length e.cap) : (execOp ρ o).run Try.prog w = .ok (.value (.agg (ocells e).toArray)) w := by
  unfold execOp
  simp only [ho]
  go_simp
end
theorem wpG_mkE {ops : Array Oper} {Q : Exit → Act → World → Prop} {S : World → Prop} {i : Nat} {r : Tr} {a : Act} {w : World} (o : Oper) (hi : ops.toList[i]? = some o) (hw : Region.wanted o (yielded ops a.tmps) = true) (v : Value) (w1 : World) (hrun : (execOp a.eval o).run Try.prog w = .ok (.value v) w1)
    (S' : World → Prop) (hS : S' w1) (hSS : ∀ w, S' w → S w) (h : wpG Try.prog ops Q r S' (a.put o.dst v) w1) : wpG Try.prog ops Q (.step i r) S a w := by
  show wpOp Try.prog ops Q i _ a w
  unfold wpOp
  simp only [of_list hi]
  rw [if_pos hw]
  refine .inl ?_
  unfold Oper.wp
  rw [hrun]
  exact ⟨hSS _ hS, S', hSS, hS, h⟩
theorem ownO_bel {w wr w' : World} {v : Value} {l : List Oi} (ho : OwnO wr w.heap.size v l) (hb : Below w.heap.size w wr) (hg : wr.grownBy w' v.ownBlock) : Below w.heap.size w w' :=
  hb.trans (((Chg.refl (fun g => v.ownBlock = some g) wr).grown hg (fun k e => .inl e)).below (fun k hk => (ho.lt k hk).1) hb.size)
theorem ownO_push {W0 W : World} {v : Value} {A : List Oi} (ho : OwnO W W0.heap.size v A) (hb : Below W0.heap.size W0 W) (hl : A.length + 1 < 1000000) (x : Oi) :
    ∃ sp n cap w', (Builtin.append_ #[35, 35] 35 #[v, .slice (some ⟨W.heap.size, 0, none⟩) 1 1]).run Try.prog (W.alloc (.cells (ocells x).toArray 48)) = .ok (.slice sp n cap) w' ∧ OwnO w' W0.heap.size (.slice sp n cap) (A ++ [x]) ∧ Below W0.heap.size W0 w' := by
  have hb7 : Below W.heap.size W (W.alloc (.cells (ocells x).toArray 48)) := (Below.refl _ _).alloc (Nat.le_refl _) _
  have hk7 : Blk (W.alloc (.cells (ocells x).toArray 48)) W.heap.size (ocells x) 48 := Blk.new' _ _ _ _ _ rfl rfl
  have hbw7 : Below W0.heap.size W0 (W.alloc (.cells (ocells x).toArray 48)) := hb.alloc hb.size _
  obtain ⟨v8, w8, hr8, ho8, hg8, hn8⟩ := ownO_app (ho.below hb7 (Nat.le_refl _)) hbw7.size hl hk7 35
  have hb8 := ownO_bel (ho.below hb7 (Nat.le_refl _)) hbw7 hg8
  obtain ⟨sp8, cap8, rfl, -⟩ := ho8.form
  exact ⟨sp8, _, cap8, w8, hr8, ho8, hb8⟩
theorem take_snocO {l : List Oi} {k : Nat} {x : Oi} (h : l[k]? = some x) : l.take (k + 1) = l.take k ++ [x] := by
  obtain ⟨hk, rfl⟩ := List.getElem?_eq_some_iff.1 h
  rw [List.take_succ_eq_append_getElem hk]
def greatO (l : List Oi) : Bool := decide (300 < l.length) || l.any (fun e => decide (100 < e.offs.length))
set_option maxRecDepth 100000 in
set_option maxHeartbeats 4000000 in
theorem great_any (l : List Oi) (sp : Option Addr) (cap : Nat) (hc : l.length ≤ cap) (w : World) (hs : SrcO w sp l) : Calls Try.prog 9 #[.slice sp l.length cap] w fun e w' => e = .returned (.bool (greatO l)) ∧ Below w.heap.size w w' := by
  obtain ⟨N, hN⟩ : ∃ N, l.length = N := ⟨_, rfl⟩
  rw [hN] at hc ⊢
  have HN := Lib.hid hN; have HC := Lib.hid hc; have HS := Lib.hid hs
  generalize hPost : (fun (e : Ending) (w' : World) => e = Ending.returned (.bool (greatO l)) ∧ Below w.heap.size w w') = Post
  have HPO : Hid (∀ b w', greatO l = b → Below w.heap.size w w' → Post (.returned (.bool b)) w') := Lib.hid fun b w' e h => by rw [← hPost, ← e]; exact ⟨rfl, h⟩
  clear hN hc hs hPost
  go_enter Try.func9, Try.ntmps9
  by_cases hb : 300 < N
  · have j1 : (300 : Int) < (N : Int) := by omega
    have HE := Lib.hid (HPO.out true w (by unfold greatO; rw [HN.out, decide_eq_true hb]; rfl) (Below.refl _ _))
    clear hb
    go_wp2_with fail
    first | exact HE.out | (go_ret; exact HE.out)
  · have j1 : ¬ (300 : Int) < (N : Int) := by omega
    have HB : Hid (N ≤ 300) := Lib.hid (by omega)
    clear hb
    go_upto_region 5 with fail
    go_loopg [3] N (fun r i wr => ∃ k : Nat, i = .int .i64 (k : Int) ∧ r + k = N ∧ (l.take k).any (fun a => decide (100 < a.offs.length)) = false ∧ wr = w)
    case atStart => exact ⟨0, rfl, by omega, by simp, rfl⟩
    case round =>
      clear j1
      obtain ⟨k, rfl, hgk, hno, rfl⟩ := hrel
      have HNO := Lib.hid hno
      clear hno
      have wk1 := IntWalk.i64_in ((k : Int) + 1) (by have := HB.out; omega)
      by_cases hlt : k < N
      · have hlt' : (k : Int) < (N : Int) := by omega
        obtain ⟨e, he⟩ : ∃ e, l[k]? = some e := ⟨_, List.getElem?_eq_getElem (by have := HN.out; omega)⟩
        obtain ⟨g, o, rfl, hg, hr⟩ := HS.out (by have := HN.out; omega)
        have f0 := hr k e he 2 _ rfl
        have HKC : Hid (k < N ∧ N ≤ cap) := Lib.hid ⟨hlt, HC.out⟩
        have HTK := Lib.hid (take_snocO he)
        have HMEM := Lib.hid (List.mem_of_getElem? he)
        clear he hg hr
        by_cases h3 : 100 < e.offs.length
        · have z1 : (100 : Int) < (e.offs.length : Int) := by omega
          have HE := Lib.hid (HPO.out true wr (by unfold greatO; rw [Bool.or_eq_true]; right; rw [List.any_eq_true]; exact ⟨e, HMEM.out, decide_eq_true h3⟩) (Below.refl _ _))
          clear h3
          go_wp2_with (first | (refine c_val rfl (ex_iaL rfl rfl rfl HKC.out) ?_) | (refine c_val rfl (ex_faL (by decide) rfl rfl) ?_) | (refine c_val rfl (ex_ldOf rfl rfl f0) ?_) | fail)
          first | exact HE.out | (go_ret; exact HE.out)
        · have z1 : ¬ (100 : Int) < (e.offs.length : Int) := by omega
          have HNO2 : Hid ((l.take (k + 1)).any (fun a => decide (100 < a.offs.length)) = false) := Lib.hid (by rw [HTK.out, List.any_append, HNO.out]; simp; omega)
          clear h3
          go_wp2_with (first | (refine c_val rfl (ex_iaL rfl rfl rfl HKC.out) ?_) | (refine c_val rfl (ex_faL (by decide) rfl rfl) ?_) | (refine c_val rfl (ex_ldOf rfl rfl f0) ?_) | fail)
          go_roundg (N - (k + 1))
          case measure => omega
          case rel => exact ⟨k + 1, by go_num, by omega, HNO2.out, rfl⟩
      · obtain rfl : N = k := by omega
        have hlt' : ¬ (N : Int) < (N : Int) := by omega
        have HE := Lib.hid (HPO.out false wr (by unfold greatO; rw [HN.out, decide_eq_false (by have := HB.out; omega)]; have := HNO.out; rw [← HN.out, List.take_length] at this; exact this) (Below.refl _ _))
        go_wp2_with fail
        first | exact HE.out | (go_ret; exact HE.out)
set_option maxRecDepth 100000 in
set_option maxHeartbeats 8000000 in
theorem of_any (l : List Oi) (sp : Option Addr) (cap : Nat) (hc : l.length ≤ cap) (hl : l.length < 100000) (w : World) (hs : SrcO w sp l) : Calls Try.prog 10 #[.slice sp l.length cap] w fun e w' => ∃ v, e = .returned v ∧ OwnO w' w.heap.size v l ∧ Below w.heap.size w w' := by
  obtain ⟨N, hN⟩ : ∃ N, l.length = N := ⟨_, rfl⟩
  rw [hN] at hc hl ⊢
  have HN := Lib.hid hN; have HC := Lib.hid hc; have HS := Lib.hid hs; have HL := Lib.hid hl
  generalize hPost : (fun (e : Ending) (w' : World) => ∃ v, e = .returned v ∧ OwnO w' w.heap.size v l ∧ Below w.heap.size w w') = Post
  have HP : Hid (∀ v w', OwnO w' w.heap.size v l → Below w.heap.size w w' → Post (.returned v) w') := Lib.hid fun v w' h1 h2 => by rw [← hPost]; exact ⟨v, rfl, h1, h2⟩
  clear hN hc hs hl hPost
  go_enter Try.func10, Try.ntmps10
  go_upto_region 4 with fail
  go_loopg [3, 4] N (fun r s i wr => ∃ k : Nat, i = .int .i64 (k : Int) ∧ r + k = N ∧ OwnO wr w.heap.size s (l.take k) ∧ Below w.heap.size w wr)
  case atStart => exact ⟨0, rfl, by omega, OwnO.nil _ _, Below.refl _ _⟩
  case round =>
    obtain ⟨k, rfl, hgk, hown, hbw⟩ := hrel
    obtain ⟨spo, capo, e4, -⟩ := hown.form
    obtain ⟨no, hno⟩ : ∃ n, (l.take k).length = n := ⟨_, rfl⟩
    rw [hno] at e4
    subst e4
    have HOWN := Lib.hid hown; have HBW := Lib.hid hbw
    clear hbw hown hno
    have wk1 := IntWalk.i64_in ((k : Int) + 1) (by have := HL.out; omega)
    by_cases hlt : k < N
    · have hlt' : (k : Int) < (N : Int) := by omega
      obtain ⟨x, he⟩ : ∃ e, l[k]? = some e := ⟨_, List.getElem?_eq_getElem (by have := HN.out; omega)⟩
      obtain ⟨g, o, rfl, hg, hr⟩ := HS.out (by have := HN.out; omega)
      have hrx : ∀ X, Below w.heap.size w X → X.rangeAt g (o + k * 3) (ocells x) := fun X hX j v hv => by rw [hX.cell (p := ⟨g, o + k * 3 + j, none⟩) hg]; exact hr k x he j v hv
      have hbd : Below w.heap.size w wr.drew := HBW.out.drew
      have hob : OwnO wr.drew w.heap.size (.slice spo no capo) (l.take k) := HOWN.out.below (Below.refl _ _).drew (Nat.le_refl _)
      obtain ⟨sp6, n6, cap6, w6, hr6, ho6, hb6⟩ := ownO_push hob hbd (by rw [List.length_take]; have := HL.out; have := HN.out; omega) x
      rw [← take_snocO he] at ho6
      have HSX := Lib.hid (hrx _ hbd)
      have HS1 := Lib.hid (hrx _ (hbd.alloc hbd.size (.cells (ocells x).toArray 48)))
      have HS2 := Lib.hid (hrx _ hb6)
      have HR6 := Lib.hid hr6; have HO6 := Lib.hid ho6; have HB6 := Lib.hid hb6
      have HKC : Hid (k < N ∧ N ≤ cap) := Lib.hid ⟨hlt, HC.out⟩
      clear he hg hr hrx hbd hob hr6 ho6 hb6
      go_upto_region 5 with fail
      refine wp_region_sched ((.take 0 (.take 1 (.take 2 (.take 3 (.take 4 (.take 5 (.take 6 (.take 7 (.take 8 (.take 9 (.take 10 (.take 11 (.take 12 (.take 13 (.take 14 (.take 15 (.take 16 (.step 17 (.step 18 (.take 19 (.nil)))))))))))))))))))))) (by kernel_rfl) (by kernel_rfl) (fun d _ _ _ _ h => by cases d <;> exact h) (fun X => X.rangeAt g (o + k * 3) (ocells x)) (HSX.out) ?_
      refine wpG_take _ (.slice spo no capo) rfl (by rfl) (fun X hX => by first | rfl | go_simp) ?_
      (try simp only [Act.put, List.setIfInBounds_toArray, List.set_cons_zero, List.set_cons_succ])
      refine wpG_take _ (.slice (some ⟨g, o, none⟩) N cap) rfl (by rfl) (fun X hX => by first | rfl | go_simp) ?_
      (try simp only [Act.put, List.setIfInBounds_toArray, List.set_cons_zero, List.set_cons_succ])
      refine wpG_take _ (.int .i64 (k : Int)) rfl (by rfl) (fun X hX => by first | rfl | go_simp) ?_
      (try simp only [Act.put, List.setIfInBounds_toArray, List.set_cons_zero, List.set_cons_succ])
      refine wpG_take _ (.pointer (some ⟨g, o + k * 3, none⟩)) rfl (by rfl) (fun X hX => ex_iaL rfl rfl rfl HKC.out) ?_
      (try simp only [Act.put, List.setIfInBounds_toArray, List.set_cons_zero, List.set_cons_succ])
      refine wpG_take _ (.pointer (some ⟨g, o + k * 3 + 0, none⟩)) rfl (by rfl) (fun X hX => ex_faL (by decide) rfl rfl) ?_
      (try simp only [Act.put, List.setIfInBounds_toArray, List.set_cons_zero, List.set_cons_succ])
      refine wpG_take _ (.int .u16 (x.num : Int)) rfl (by rfl) (fun X hX => ex_ld16 rfl rfl (hX 0 _ rfl)) ?_
      (try simp only [Act.put, List.setIfInBounds_toArray, List.set_cons_zero, List.set_cons_succ])
      refine wpG_take _ (.slice (some ⟨g, o, none⟩) N cap) rfl (by rfl) (fun X hX => by first | rfl | go_simp) ?_
      (try simp only [Act.put, List.setIfInBounds_toArray, List.set_cons_zero, List.set_cons_succ])
      refine wpG_take _ (.int .i64 (k : Int)) rfl (by rfl) (fun X hX => by first | rfl | go_simp) ?_
      (try simp only [Act.put, List.setIfInBounds_toArray, List.set_cons_zero, List.set_cons_succ])
      refine wpG_take _ (.pointer (some ⟨g, o + k * 3, none⟩)) rfl (by rfl) (fun X hX => ex_iaL rfl rfl rfl HKC.out) ?_
      (try simp only [Act.put, List.setIfInBounds_toArray, List.set_cons_zero, List.set_cons_succ])
      refine wpG_take _ (.pointer (some ⟨g, o + k * 3 + 1, none⟩)) rfl (by rfl) (fun X hX => ex_faL (by decide) rfl rfl) ?_
      (try simp only [Act.put, List.setIfInBounds_toArray, List.set_cons_zero, List.set_cons_succ])
      refine wpG_take _ (.int .u8 (x.kind : Int)) rfl (by rfl) (fun X hX => ex_ldB8 rfl rfl (hX 1 _ rfl)) ?_
      (try simp only [Act.put, List.setIfInBounds_toArray, List.set_cons_zero, List.set_cons_succ])
      refine wpG_take _ (.slice (some ⟨g, o, none⟩) N cap) rfl (by rfl) (fun X hX => by first | rfl | go_simp) ?_
      (try simp only [Act.put, List.setIfInBounds_toArray, List.set_cons_zero, List.set_cons_succ])
      refine wpG_take _ (.int .i64 (k : Int)) rfl (by rfl) (fun X hX => by first | rfl | go_simp) ?_
      (try simp only [Act.put, List.setIfInBounds_toArray, List.set_cons_zero, List.set_cons_succ])
      refine wpG_take _ (.pointer (some ⟨g, o + k * 3, none⟩)) rfl (by rfl) (fun X hX => ex_iaL rfl rfl rfl HKC.out) ?_
      (try simp only [Act.put, List.setIfInBounds_toArray, List.set_cons_zero, List.set_cons_succ])
      refine wpG_take _ (.pointer (some ⟨g, o + k * 3 + 2, none⟩)) rfl (by rfl) (fun X hX => ex_faL (by decide) rfl rfl) ?_
      (try simp only [Act.put, List.setIfInBounds_toArray, List.set_cons_zero, List.set_cons_succ])
      refine wpG_take _ (.slice x.sp x.offs.length x.cap) rfl (by rfl) (fun X hX => ex_ldOf rfl rfl (hX 2 _ rfl)) ?_
      (try simp only [Act.put, List.setIfInBounds_toArray, List.set_cons_zero, List.set_cons_succ])
      refine wpG_take _ (.agg (ocells x).toArray) rfl (by rfl) (fun X hX => ex_bldO rfl rfl rfl rfl) ?_
      (try simp only [Act.put, List.setIfInBounds_toArray, List.set_cons_zero, List.set_cons_succ])
      refine wpG_mkE _ rfl (by rfl) (.slice (some ⟨wr.drew.heap.size, 0, none⟩) 1 1) (wr.drew.alloc (.cells (ocells x).toArray 48)) (ex_oneO rfl rfl) (fun X => X.rangeAt g (o + k * 3) (ocells x)) (HS1.out) (fun _ h => h) ?_
      (try simp only [Act.put, List.setIfInBounds_toArray, List.set_cons_zero, List.set_cons_succ])
      refine wpG_mkE _ rfl (by rfl) (.slice sp6 n6 cap6) (w6) (ex_appO rfl rfl rfl HR6.out) (fun X => X.rangeAt g (o + k * 3) (ocells x)) (HS2.out) (fun _ h => h) ?_
      (try simp only [Act.put, List.setIfInBounds_toArray, List.set_cons_zero, List.set_cons_succ])
      refine wpG_take _ (.slice sp6 n6 cap6) rfl (by rfl) (fun X hX => by first | rfl | go_simp) ?_
      (try simp only [Act.put, List.setIfInBounds_toArray, List.set_cons_zero, List.set_cons_succ])
      refine wpG_nil ?_
      go_wp2_with fail
      go_roundg (N - (k + 1))
      case measure => omega
      case rel => exact ⟨k + 1, by go_num, by omega, HO6.out, HB6.out⟩
    · obtain rfl : N = k := by omega
      have hlt' : ¬ (N : Int) < (N : Int) := by omega
      have htk : l.take N = l := by rw [← HN.out, List.take_length]
      have HQ := Lib.hid (HP.out (.slice spo no capo) wr (by have := HOWN.out; rw [htk] at this; exact this) HBW.out)
      clear htk
      go_wp2_with fail
      first | exact HQ.out | (go_ret; exact HQ.out)
end Go.Proofs.Ytoceedfjfjobdaa
