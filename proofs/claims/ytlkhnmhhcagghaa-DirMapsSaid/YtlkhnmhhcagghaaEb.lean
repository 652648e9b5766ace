/- Rows of entries in memory, of the program's type and of the document's. -/
import Derived.Test.YtlkhnmhhcagghaaEa
import Derived.Great.BuildSlice
namespace Go.Proofs.Ytlkhnmhhcagghaa
open Go.RowKit

attribute [local go_sem] Oper.semAt_some

theorem fold_splice (off : Nat) (vs : List Value) (cs : Array Value) (h : off + vs.length ≤ cs.size) : (vs.zipIdx 0).foldl (fun cs (x : Value × Nat) => cs.setIfInBounds (off + x.2) x.1) cs = (splice cs.toList off vs).toArray := by
  obtain ⟨h1, h2⟩ := Go.Great.foldl_set off vs 0 cs
  apply Array.ext_getElem?
  intro k
  rw [h2 k]
  simp only [List.getElem?_toArray, splice, Nat.add_zero]
  by_cases hk : k < off
  · rw [if_neg (by omega), List.getElem?_append_left (by simp; omega), List.getElem?_take, if_pos hk]
    simp
  · rw [List.getElem?_append_right (by simp; omega)]
    have e : (cs.toList.take off).length = off := by simp; omega
    rw [e]
    by_cases hk2 : k < off + vs.length
    · rw [if_pos (by omega), List.getElem?_append_left (by omega)]
    · rw [if_neg (by omega), List.getElem?_append_right (by omega), List.getElem?_drop]
      rw [show off + vs.length + (k - off - vs.length) = k by omega]
      simp
theorem fill_whole {pl : Nat → Option (Nat × Nat)} {cells : Array Value} {size : Nat} {v : Value} (hp : pl 0 = some (0, size)) (hv : v.cells.size = size) (hle : cells.size = size) :
    Instr.fill pl cells [(0, v)] = some v.cells := by
  have hf := fold_splice 0 v.cells.toList cells (by simp; omega)
  unfold Instr.fill
  simp only [hp]
  rw [if_neg (by simp [hv]; omega)]
  unfold Instr.fill
  congr 1
  have e : splice cells.toList 0 v.cells.toList = v.cells.toList := by
    unfold splice
    rw [List.drop_of_length_le (by simp; omega)]
    simp
  rw [e] at hf
  rw [← Array.foldl_toList]
  simpa using hf
/-- Entries that lie in memory. -/
def SrcE (w : World) (sp : Option Addr) (l : List Ent) : Prop :=
  0 < l.length → ∃ g o, sp = some ⟨g, o, none⟩ ∧ g < w.heap.size ∧ ∀ i e, l[i]? = some e → w.rangeAt g (o + i * 3) (ecells e)
theorem SrcE.chg {F : Nat → Prop} {w w' : World} {sp : Option Addr} {l : List Ent} (h : SrcE w sp l) (hc : Chg F w w') (hn : ∀ a, sp = some a → ¬ F a.block) : SrcE w' sp l := fun h0 => by
  obtain ⟨g, o, e, hg, hr⟩ := h h0
  refine ⟨g, o, e, Nat.lt_of_lt_of_le hg hc.size, fun i x hx j v hv => ?_⟩
  rw [World.cell?_of_block (w := w) (a := ⟨g, o + i * 3 + j, none⟩) (hc.block g hg (hn _ e))]
  exact hr i x hx j v hv
theorem SrcE.below {w w' : World} {sp : Option Addr} {l : List Ent} {B : Nat} (h : SrcE w sp l) (hb : Below B w w') (hB : ∀ a, sp = some a → a.block < B) : SrcE w' sp l := fun h0 => by
  obtain ⟨g, o, rfl, hg, hr⟩ := h h0
  refine ⟨g, o, rfl, Nat.lt_of_lt_of_le hg hb.size, fun i x hx j v hv => ?_⟩
  rw [hb.cell (p := ⟨g, o + i * 3 + j, none⟩) (show g < B from hB ⟨g, o, none⟩ rfl)]
  exact hr i x hx j v hv
theorem SrcE.grown {w w' : World} {sp : Option Addr} {l : List Ent} (h : SrcE w sp l) (hb : Below w.heap.size w w') : SrcE w' sp l := fun h0 => by
  obtain ⟨g, o, rfl, hg, hr⟩ := h h0
  refine ⟨g, o, rfl, Nat.lt_of_lt_of_le hg hb.size, fun i x hx j v hv => ?_⟩
  rw [hb.cell (p := ⟨g, o + i * 3 + j, none⟩) hg]
  exact hr i x hx j v hv
theorem SrcE.drew {w : World} {sp : Option Addr} {l : List Ent} (h : SrcE w sp l) : SrcE w.drew sp l := h.grown (Below.refl _ _).drew
theorem SrcE.nil (w : World) (sp : Option Addr) : SrcE w sp [] := fun h => absurd h (by simp)
theorem SrcE.take {w : World} {sp : Option Addr} {l : List Ent} (h : SrcE w sp l) (n : Nat) : SrcE w sp (l.take n) := fun h0 => by
  obtain ⟨g, o, e, hg, hr⟩ := h (by rw [List.length_take] at h0; omega)
  exact ⟨g, o, e, hg, fun i x hx => hr i x (by
    rw [List.getElem?_take] at hx
    split at hx
    · exact hx
    · cases hx)⟩
def spFrom (sp : Option Addr) (n cap : Nat) : Option Addr := if cap = n then sp else sp.map (·.add (n * 3))
theorem SrcE.drop {w : World} {sp : Option Addr} {l : List Ent} {cap : Nat} (h : SrcE w sp l) (hc : l.length ≤ cap) (n : Nat) : SrcE w (spFrom sp n cap) (l.drop n) := fun h0 => by
  rw [List.length_drop] at h0
  obtain ⟨g, o, rfl, hg, hr⟩ := h (by omega)
  refine ⟨g, o + n * 3, by unfold spFrom; rw [if_neg (by omega)]; simp [Addr.add], hg, fun i x hx => ?_⟩
  rw [List.getElem?_drop] at hx
  have := hr (n + i) x hx
  rw [show o + n * 3 + i * 3 = o + (n + i) * 3 by omega]
  exact this
theorem spFrom_none {sp : Option Addr} {n cap : Nat} (h : sp = none → cap = 0) (e : spFrom sp n cap = none) : cap - n = 0 := by
  unfold spFrom at e
  split at e
  · omega
  · cases sp with
    | none => have := h rfl; omega
    | some a => cases e
theorem spFrom_block {sp : Option Addr} {n cap : Nat} {a : Addr} (e : spFrom sp n cap = some a) : ∃ b, sp = some b ∧ a.block = b.block := by
  unfold spFrom at e
  split at e
  · exact ⟨a, e, rfl⟩
  · cases sp with
    | none => cases e
    | some b => cases e; exact ⟨b, rfl, by simp only [Addr.add]; split <;> rfl⟩
theorem srcE_one {w : World} {g : Nat} {x : Ent} {t : TypeId} (hg : Blk w g (ecells x) t) : SrcE w (some ⟨g, 0, none⟩) [x] := fun _ => ⟨g, 0, rfl, hg.lt, fun i e hi j v hj => by
  have hi1 : i < 1 := (List.getElem?_eq_some_iff.1 hi).1
  obtain rfl : i = 0 := by omega
  obtain rfl : x = e := by simpa using hi
  rw [Nat.zero_mul, Nat.zero_add]
  have := hg.cell hj
  simpa using this⟩
section
variable {ρ : Operand → Value} {o : Oper} {x y : Operand} {w : World}
theorem ex_ldD {ty : TypeId} {b off : Nat} {cs : List Value} {d : TypeDesc} (ho : o.op = .load ty x) (hx : ρ x = .pointer (some ⟨b, off, none⟩)) (hc : w.rangeAt b off cs) (hu : Try.prog.underlying ty = some d) (hd : d.isRow = true) (hi : (Try.prog.info? ty).map (·.size) = some cs.length) : (execOp ρ o).run Try.prog w = .ok (.value (.agg cs.toArray)) w := by
  have hr := run_loadAt_mid (P := Try.prog) w b off ty cs d hc hu hd hi
  unfold execOp
  simp only [ho, hx]
  simp only [Sem.run_bind, hr, Result.andThen_ok, Sem.run_pure]
end
theorem infoE : (Try.prog.info? 46).map (fun i => (i.zero.map (·.cells.size), i.size, i.bytes)) = some (some 3, 3, 24) := by kernel_rfl
theorem info_partsE : ∃ i z, Try.prog.info? 46 = some i ∧ i.zero = some z ∧ z.cells.size = 3 ∧ i.size = 3 ∧ i.bytes = 24 := by
  obtain ⟨i, h1, h2⟩ := Option.map_eq_some_iff.1 infoE
  simp only [Prod.mk.injEq] at h2
  obtain ⟨z, hz, hz2⟩ := Option.map_eq_some_iff.1 h2.1
  exact ⟨i, z, h1, hz, hz2, h2.2.1, h2.2.2⟩
theorem sizeE : (Try.prog.info? 46).map (·.size) = some 3 := by kernel_rfl
abbrev OwnE (w : World) (B : Nat) (v : Value) (l : List Ent) : Prop := w.ownsRow B 46 3 v l.length (ecs l)
theorem OwnE.nil (w : World) (B : Nat) : OwnE w B (.slice none 0 0) [] := World.ownsRow_nil _ _ _ _
theorem OwnE.form {w : World} {B : Nat} {v : Value} {l : List Ent} (h : OwnE w B v l) : ∃ sp cap, v = .slice sp l.length cap ∧ l.length ≤ cap ∧ cap ≤ maxLen ∧ SrcE w sp l ∧ (sp = none → cap = 0) ∧ (∀ a, sp = some a → B ≤ a.block ∧ a.block < w.heap.size) := by
  rcases h.2 with ⟨rfl, hn⟩ | ⟨g, cap, cur, rfl, hb, hg, hc, hm, h5, h6⟩
  · refine ⟨none, 0, by rw [hn], by omega, by unfold maxLen; omega, fun h0 => by omega, fun _ => rfl, fun _ hh => by cases hh⟩
  · have hlt : g < w.heap.size := (Array.getElem?_eq_some_iff.1 hg).1
    have hB : Blk w g cur.toList 46 := by unfold Blk; simpa using hg
    refine ⟨some ⟨g, 0, none⟩, cap, rfl, hc, hm, fun h0 => ⟨g, 0, rfl, hlt, fun i e hi j v hj => ?_⟩, (fun hh => by cases hh), (fun _ hh => by cases hh; exact ⟨hb, hlt⟩)⟩
    have h1 := ecs_at l i j e v hi hj
    rw [← h6, List.getElem?_take] at h1
    split at h1
    · rw [Nat.zero_add]; exact hB.cell h1
    · cases h1
theorem OwnE.src' {w : World} {B n cap : Nat} {sp : Option Addr} {l : List Ent} (h : OwnE w B (.slice sp n cap) l) : SrcE w sp l := by
  obtain ⟨sp', cap', e, -, -, hs, -⟩ := h.form
  injection e with e1 e2 e3
  subst e1
  exact hs
theorem OwnE.below {w W : World} {B B' : Nat} {v : Value} {l : List Ent} (h : OwnE w B v l) (hb : Below B' w W) (hB : w.heap.size ≤ B') : OwnE W B v l := by
  refine ⟨h.1, ?_⟩
  rcases h.2 with hn | ⟨g, cap, cur, rfl, hbg, hg, rest⟩
  · exact .inl hn
  · exact .inr ⟨g, cap, cur, rfl, hbg, by rw [hb.block g (Nat.lt_of_lt_of_le (Array.getElem?_eq_some_iff.1 hg).1 hB)]; exact hg, rest⟩
theorem OwnE.lower {w : World} {B B' : Nat} {v : Value} {l : List Ent} (h : OwnE w B v l) (hB : B' ≤ B) : OwnE w B' v l := by
  refine ⟨h.1, ?_⟩
  rcases h.2 with hn | ⟨g, cap, cur, rfl, hbg, rest⟩
  · exact .inl hn
  · exact .inr ⟨g, cap, cur, rfl, Nat.le_trans hB hbg, rest⟩
theorem ownE_apps {w : World} {B : Nat} {v : Value} {l l2 : List Ent} (h : OwnE w B v l) (hB : B ≤ w.heap.size) (hl : l.length + l2.length < 1000000) {sp : Option Addr} {cap : Nat} (hs : SrcE w sp l2) (hz : sp = none → cap = 0) (ty : TypeId) :
    ∃ v' w', (Builtin.append_ #[29, 29] ty #[v, .slice sp l2.length cap]).run Try.prog w = .ok v' w' ∧ OwnE w' B v' (l ++ l2) ∧ w.grownBy w' v.ownBlock ∧ (v'.ownBlock = v.ownBlock ∨ v'.ownBlock = some w.heap.size) := by
  obtain ⟨i0, z, hi, hz0, hz1, hz2, hz3⟩ := info_partsE
  cases sp with
  | none =>
    have h0 : l2 = [] := by
      rcases Nat.eq_zero_or_pos l2.length with h0 | h0
      · exact List.eq_nil_of_length_eq_zero h0
      · obtain ⟨_, _, he, _⟩ := hs h0; cases he
    subst h0
    obtain rfl := hz rfl
    refine ⟨v, w, run_append_owned_none (P := Try.prog) (w := w) B 29 ty 46 i0 3 Try.underlying29 hi v l.length (ecs l) h, by rw [List.append_nil]; exact h, ⟨rfl, rfl, rfl, Nat.le_refl _, fun _ _ _ => rfl⟩, .inl rfl⟩
  | some ad =>
    obtain ⟨v', w', hr, h2, h3, _, h5⟩ := run_append_own_at (P := Try.prog) w B 29 ty 46 i0 z 3 24 Try.underlying29 hi hz0 hz2 hz3 hz1 (by decide) v l.length (ecs l) h ad l2.length cap (ecs l2) (ecs_len l2) (fun j y hj => by
      have hj2 : j < l2.length * 3 := by rw [← ecs_len]; exact (List.getElem?_eq_some_iff.1 hj).1
      obtain ⟨g, o, he, hg, hc⟩ := hs (by omega)
      cases he
      have hd : j / 3 < l2.length := by omega
      have hm : j % 3 < 3 := by omega
      have he : l2[j / 3]? = some l2[j / 3] := List.getElem?_eq_getElem hd
      have hv : (ecells l2[j / 3])[j % 3]? = some (ecells l2[j / 3])[j % 3] := List.getElem?_eq_getElem (by simpa using hm)
      have h1 := ecs_at l2 (j / 3) (j % 3) _ _ he hv
      rw [show j / 3 * 3 + j % 3 = j by omega] at h1
      rw [h1] at hj
      cases hj
      have h2 := hc _ _ he _ _ hv
      rw [show o + j / 3 * 3 + j % 3 = o + j by omega] at h2
      rw [Addr.add_mid]
      exact h2) (one_ecs l2) (by unfold maxLen; omega) (by omega) hB
    refine ⟨v', w', hr, ?_, h3, h5⟩
    unfold OwnE
    rw [ecs_app, List.length_append]
    exact h2
theorem ownE_app {w : World} {B : Nat} {v : Value} {l : List Ent} (h : OwnE w B v l) (hB : B ≤ w.heap.size) (hl : l.length + 1 < 1000000) {x : Ent} {g : Nat} {t : TypeId} (hg : Blk w g (ecells x) t) (ty : TypeId) :
    ∃ v' w', (Builtin.append_ #[29, 29] ty #[v, .slice (some ⟨g, 0, none⟩) 1 1]).run Try.prog w = .ok v' w' ∧ OwnE w' B v' (l ++ [x]) ∧ w.grownBy w' v.ownBlock ∧ (v'.ownBlock = v.ownBlock ∨ v'.ownBlock = some w.heap.size) :=
  ownE_apps (l2 := [x]) (cap := 1) h hB (by simp; omega) (srcE_one hg) (fun h => by cases h) ty
theorem elemE : Try.prog.underlying 29 = some (.slice (Try.prog.elem 29)) := by kernel_rfl
theorem elemE' : Try.prog.elem 29 = 46 := by kernel_rfl
theorem sizeOfE (W : World) : (sizeOf 46).run Try.prog W = .ok 3 W := by
  obtain ⟨i, z, h1, h2, h3, h4, h5⟩ := info_partsE
  simp [sizeOf, typeInfo, h1, h4]
/-- Where a slice begins that is cut off in front. -/
theorem sliceToE (sp : Option Addr) (L cap n : Nat) (h : n ≤ cap) (W : World) : (Instr.sliceAt 29 (.slice sp L cap) none (some (.int .i64 (n : Int))) none).run Try.prog W = .ok (.slice sp n cap) W := by
  rw [run_sliceAt_slice W 29 _ _ _ _ elemE, run_slice_h W 29 sp L cap elemE .i64 n (by omega) (by omega), elemE', sizeOfE]
  have e : Option.map (fun x : Addr => x.add 0) sp = sp := by cases sp with | none => rfl | some a => cases a; simp [Addr.add]
  simp [Result.andThen, sliced, e]
theorem sliceFromE (sp : Option Addr) (L cap n : Nat) (h : n ≤ L) (hc : L ≤ cap) (W : World) : (Instr.sliceAt 29 (.slice sp L cap) (some (.int .i64 (n : Int))) none none).run Try.prog W = .ok (.slice (spFrom sp n cap) (L - n) (cap - n)) W := by
  rw [run_sliceAt_slice W 29 _ _ _ _ elemE, run_slice_l W 29 sp L cap elemE .i64 n (by omega) (by omega), elemE', sizeOfE]
  simp [Result.andThen, sliced, spFrom]
section
variable {ρ : Operand → Value} {o : Oper} {x y : Operand} {w : World}
theorem ex_iaE {g o' n cap k : Nat} (ho : o.op = .indexAddr 29 x y) (hx : ρ x = .slice (some ⟨g, o', none⟩) n cap) (hy : ρ y = .int .i64 (k : Int)) (hk : k < n ∧ n ≤ cap) :
    (execOp ρ o).run Try.prog w = .ok (.value (.pointer (some ⟨g, o' + k * 3, none⟩))) w := by
  have h1 : ¬ n ≤ k := by omega
  unfold execOp
  simp only [ho]
  go_simp
theorem ex_ldE {e : Ent} {g off : Nat} (hr : w.rangeAt g off (ecells e)) (ho : o.op = .load 46 x) (hx : ρ x = .pointer (some ⟨g, off, none⟩)) : (execOp ρ o).run Try.prog w = .ok (.value (.agg (ecells e).toArray)) w :=
  ex_ldD (ty := 46) (cs := ecells e) ho hx hr Try.underlying46 rfl (by rw [sizeE]; rfl)
theorem ex_faE {g a j : Nat} (hj : j = 0 ∨ j = 1 ∨ j = 2) (ho : o.op = .fieldAddr 46 x j) (hx : ρ x = .pointer (some ⟨g, a, none⟩)) : (execOp ρ o).run Try.prog w = .ok (.value (.pointer (some ⟨g, a + j, none⟩))) w := by
  unfold execOp
  simp only [ho]
  rcases hj with rfl | rfl | rfl <;> go_simp
theorem ex_oneE {e : Ent} (ho : o.op = .buildSlice 29 1 #[(0, x)]) (hx : ρ x = .agg (ecells e).toArray) :
    (execOp ρ o).run Try.prog w = .ok (.value (.slice (some ⟨w.heap.size, 0, none⟩) 1 1)) (w.alloc (.cells (ecells e).toArray 46)) := by
  obtain ⟨i, z, hi, hz, hzs, his, _⟩ := info_partsE
  have hr := run_buildSlice (P := Try.prog) w 29 46 1 #[(0, .agg (ecells e).toArray)] (ecells e).toArray i z Try.underlying29 hi hz (by rw [his]; omega) (by rw [his]; omega)
    (fill_whole (size := 3) (by simp [his]) (by simp [Value.cells]) (by simp [his]))
  unfold execOp
  simp only [ho]
  rw [show (Array.map (fun x : Nat × Operand => (x.1, ρ x.2)) #[(0, x)]) = #[(0, .agg (ecells e).toArray)] by simp [hx]]
  simp only [Sem.run_bind, hr, Result.andThen_ok]
  rfl
theorem ex_appE {v u v' : Value} {w w' : World} (ho : o.op = .call { callee := .builtin .append, args := #[x, y], argTypes := #[29, 29] }) (hx : ρ x = v) (hy : ρ y = u)
    (hr : (Builtin.append_ #[29, 29] o.type #[v, u]).run Try.prog w = .ok v' w') : (execOp ρ o).run Try.prog w = .ok (.value v') w' := by
  unfold execOp
  simp only [ho, resolve, invoke, builtin, Sem.run_bind, Sem.run_pure, Result.andThen_ok, List.map_toArray, List.map_cons, List.map_nil, hx, hy, hr]
theorem ex_toE {sp : Option Addr} {L cap n : Nat} (h : n ≤ cap) (ho : o.op = .slice 29 x none (some y) none) (hx : ρ x = .slice sp L cap) (hy : ρ y = .int .i64 (n : Int)) : (execOp ρ o).run Try.prog w = .ok (.value (.slice sp n cap)) w := by
  unfold execOp
  simp only [ho]
  have := sliceToE sp L cap n h w
  simp [hx, hy, this, Result.andThen]
theorem ex_fromE {sp : Option Addr} {L cap n : Nat} (h : n ≤ L ∧ L ≤ cap) (ho : o.op = .slice 29 x (some y) none none) (hx : ρ x = .slice sp L cap) (hy : ρ y = .int .i64 (n : Int)) : (execOp ρ o).run Try.prog w = .ok (.value (.slice (spFrom sp n cap) (L - n) (cap - n))) w := by
  unfold execOp
  simp only [ho]
  have := sliceFromE sp L cap n h.1 h.2 w
  simp [hx, hy, this, Result.andThen]
end
theorem infoR : (Try.prog.info? 41).map (fun i => (i.zero.map (·.cells.size), i.size, i.bytes)) = some (some 3, 3, 24) := by kernel_rfl
theorem info_partsR : ∃ i z, Try.prog.info? 41 = some i ∧ i.zero = some z ∧ z.cells.size = 3 ∧ i.size = 3 ∧ i.bytes = 24 := by
  obtain ⟨i, h1, h2⟩ := Option.map_eq_some_iff.1 infoR
  simp only [Prod.mk.injEq] at h2
  obtain ⟨z, hz, hz2⟩ := Option.map_eq_some_iff.1 h2.1
  exact ⟨i, z, h1, hz, hz2, h2.2.1, h2.2.2⟩
theorem sizeR : (Try.prog.info? 41).map (·.size) = some 3 := by kernel_rfl
abbrev OwnR (w : World) (B : Nat) (v : Value) (l : List Ent) : Prop := w.ownsRow B 41 3 v l.length (ecs l)
theorem OwnR.nil (w : World) (B : Nat) : OwnR w B (.slice none 0 0) [] := World.ownsRow_nil _ _ _ _
theorem OwnR.form {w : World} {B : Nat} {v : Value} {l : List Ent} (h : OwnR w B v l) : ∃ sp cap, v = .slice sp l.length cap ∧ l.length ≤ cap ∧ cap ≤ maxLen ∧ SrcE w sp l ∧ (sp = none → cap = 0) ∧ (∀ a, sp = some a → B ≤ a.block ∧ a.block < w.heap.size) := by
  rcases h.2 with ⟨rfl, hn⟩ | ⟨g, cap, cur, rfl, hb, hg, hc, hm, h5, h6⟩
  · refine ⟨none, 0, by rw [hn], by omega, by unfold maxLen; omega, fun h0 => by omega, fun _ => rfl, fun _ hh => by cases hh⟩
  · have hlt : g < w.heap.size := (Array.getElem?_eq_some_iff.1 hg).1
    have hB : Blk w g cur.toList 41 := by unfold Blk; simpa using hg
    refine ⟨some ⟨g, 0, none⟩, cap, rfl, hc, hm, fun h0 => ⟨g, 0, rfl, hlt, fun i e hi j v hj => ?_⟩, (fun hh => by cases hh), (fun _ hh => by cases hh; exact ⟨hb, hlt⟩)⟩
    have h1 := ecs_at l i j e v hi hj
    rw [← h6, List.getElem?_take] at h1
    split at h1
    · rw [Nat.zero_add]; exact hB.cell h1
    · cases h1
theorem OwnR.src' {w : World} {B n cap : Nat} {sp : Option Addr} {l : List Ent} (h : OwnR w B (.slice sp n cap) l) : SrcE w sp l := by
  obtain ⟨sp', cap', e, -, -, hs, -⟩ := h.form
  injection e with e1 e2 e3
  subst e1
  exact hs
theorem OwnR.below {w W : World} {B B' : Nat} {v : Value} {l : List Ent} (h : OwnR w B v l) (hb : Below B' w W) (hB : w.heap.size ≤ B') : OwnR W B v l := by
  refine ⟨h.1, ?_⟩
  rcases h.2 with hn | ⟨g, cap, cur, rfl, hbg, hg, rest⟩
  · exact .inl hn
  · exact .inr ⟨g, cap, cur, rfl, hbg, by rw [hb.block g (Nat.lt_of_lt_of_le (Array.getElem?_eq_some_iff.1 hg).1 hB)]; exact hg, rest⟩
theorem OwnR.lower {w : World} {B B' : Nat} {v : Value} {l : List Ent} (h : OwnR w B v l) (hB : B' ≤ B) : OwnR w B' v l := by
  refine ⟨h.1, ?_⟩
  rcases h.2 with hn | ⟨g, cap, cur, rfl, hbg, rest⟩
  · exact .inl hn
  · exact .inr ⟨g, cap, cur, rfl, Nat.le_trans hB hbg, rest⟩
theorem ownR_apps {w : World} {B : Nat} {v : Value} {l l2 : List Ent} (h : OwnR w B v l) (hB : B ≤ w.heap.size) (hl : l.length + l2.length < 1000000) {sp : Option Addr} {cap : Nat} (hs : SrcE w sp l2) (hz : sp = none → cap = 0) (ty : TypeId) :
    ∃ v' w', (Builtin.append_ #[22, 22] ty #[v, .slice sp l2.length cap]).run Try.prog w = .ok v' w' ∧ OwnR w' B v' (l ++ l2) ∧ w.grownBy w' v.ownBlock ∧ (v'.ownBlock = v.ownBlock ∨ v'.ownBlock = some w.heap.size) := by
  obtain ⟨i0, z, hi, hz0, hz1, hz2, hz3⟩ := info_partsR
  cases sp with
  | none =>
    have h0 : l2 = [] := by
      rcases Nat.eq_zero_or_pos l2.length with h0 | h0
      · exact List.eq_nil_of_length_eq_zero h0
      · obtain ⟨_, _, he, _⟩ := hs h0; cases he
    subst h0
    obtain rfl := hz rfl
    refine ⟨v, w, run_append_owned_none (P := Try.prog) (w := w) B 22 ty 41 i0 3 Try.underlying22 hi v l.length (ecs l) h, by rw [List.append_nil]; exact h, ⟨rfl, rfl, rfl, Nat.le_refl _, fun _ _ _ => rfl⟩, .inl rfl⟩
  | some ad =>
    obtain ⟨v', w', hr, h2, h3, _, h5⟩ := run_append_own_at (P := Try.prog) w B 22 ty 41 i0 z 3 24 Try.underlying22 hi hz0 hz2 hz3 hz1 (by decide) v l.length (ecs l) h ad l2.length cap (ecs l2) (ecs_len l2) (fun j y hj => by
      have hj2 : j < l2.length * 3 := by rw [← ecs_len]; exact (List.getElem?_eq_some_iff.1 hj).1
      obtain ⟨g, o, he, hg, hc⟩ := hs (by omega)
      cases he
      have hd : j / 3 < l2.length := by omega
      have hm : j % 3 < 3 := by omega
      have he : l2[j / 3]? = some l2[j / 3] := List.getElem?_eq_getElem hd
      have hv : (ecells l2[j / 3])[j % 3]? = some (ecells l2[j / 3])[j % 3] := List.getElem?_eq_getElem (by simpa using hm)
      have h1 := ecs_at l2 (j / 3) (j % 3) _ _ he hv
      rw [show j / 3 * 3 + j % 3 = j by omega] at h1
      rw [h1] at hj
      cases hj
      have h2 := hc _ _ he _ _ hv
      rw [show o + j / 3 * 3 + j % 3 = o + j by omega] at h2
      rw [Addr.add_mid]
      exact h2) (one_ecs l2) (by unfold maxLen; omega) (by omega) hB
    refine ⟨v', w', hr, ?_, h3, h5⟩
    unfold OwnR
    rw [ecs_app, List.length_append]
    exact h2
theorem ownR_app {w : World} {B : Nat} {v : Value} {l : List Ent} (h : OwnR w B v l) (hB : B ≤ w.heap.size) (hl : l.length + 1 < 1000000) {x : Ent} {g : Nat} {t : TypeId} (hg : Blk w g (ecells x) t) (ty : TypeId) :
    ∃ v' w', (Builtin.append_ #[22, 22] ty #[v, .slice (some ⟨g, 0, none⟩) 1 1]).run Try.prog w = .ok v' w' ∧ OwnR w' B v' (l ++ [x]) ∧ w.grownBy w' v.ownBlock ∧ (v'.ownBlock = v.ownBlock ∨ v'.ownBlock = some w.heap.size) :=
  ownR_apps (l2 := [x]) (cap := 1) h hB (by simp; omega) (srcE_one hg) (fun h => by cases h) ty
theorem elemR : Try.prog.underlying 22 = some (.slice (Try.prog.elem 22)) := by kernel_rfl
theorem elemR' : Try.prog.elem 22 = 41 := by kernel_rfl
theorem sizeOfR (W : World) : (sizeOf 41).run Try.prog W = .ok 3 W := by
  obtain ⟨i, z, h1, h2, h3, h4, h5⟩ := info_partsR
  simp [sizeOf, typeInfo, h1, h4]
/-- Where a slice begins that is cut off in front. -/
theorem sliceToR (sp : Option Addr) (L cap n : Nat) (h : n ≤ cap) (W : World) : (Instr.sliceAt 22 (.slice sp L cap) none (some (.int .i64 (n : Int))) none).run Try.prog W = .ok (.slice sp n cap) W := by
  rw [run_sliceAt_slice W 22 _ _ _ _ elemR, run_slice_h W 22 sp L cap elemR .i64 n (by omega) (by omega), elemR', sizeOfR]
  have e : Option.map (fun x : Addr => x.add 0) sp = sp := by cases sp with | none => rfl | some a => cases a; simp [Addr.add]
  simp [Result.andThen, sliced, e]
theorem sliceFromR (sp : Option Addr) (L cap n : Nat) (h : n ≤ L) (hc : L ≤ cap) (W : World) : (Instr.sliceAt 22 (.slice sp L cap) (some (.int .i64 (n : Int))) none none).run Try.prog W = .ok (.slice (spFrom sp n cap) (L - n) (cap - n)) W := by
  rw [run_sliceAt_slice W 22 _ _ _ _ elemR, run_slice_l W 22 sp L cap elemR .i64 n (by omega) (by omega), elemR', sizeOfR]
  simp [Result.andThen, sliced, spFrom]
section
variable {ρ : Operand → Value} {o : Oper} {x y : Operand} {w : World}
theorem ex_iaR {g o' n cap k : Nat} (ho : o.op = .indexAddr 22 x y) (hx : ρ x = .slice (some ⟨g, o', none⟩) n cap) (hy : ρ y = .int .i64 (k : Int)) (hk : k < n ∧ n ≤ cap) :
    (execOp ρ o).run Try.prog w = .ok (.value (.pointer (some ⟨g, o' + k * 3, none⟩))) w := by
  have h1 : ¬ n ≤ k := by omega
  unfold execOp
  simp only [ho]
  go_simp
theorem ex_ldR {e : Ent} {g off : Nat} (hr : w.rangeAt g off (ecells e)) (ho : o.op = .load 41 x) (hx : ρ x = .pointer (some ⟨g, off, none⟩)) : (execOp ρ o).run Try.prog w = .ok (.value (.agg (ecells e).toArray)) w :=
  ex_ldD (ty := 41) (cs := ecells e) ho hx hr Try.underlying41 rfl (by rw [sizeR]; rfl)
theorem ex_faR {g a j : Nat} (hj : j = 0 ∨ j = 1 ∨ j = 2) (ho : o.op = .fieldAddr 41 x j) (hx : ρ x = .pointer (some ⟨g, a, none⟩)) : (execOp ρ o).run Try.prog w = .ok (.value (.pointer (some ⟨g, a + j, none⟩))) w := by
  unfold execOp
  simp only [ho]
  rcases hj with rfl | rfl | rfl <;> go_simp
theorem ex_oneR {e : Ent} (ho : o.op = .buildSlice 22 1 #[(0, x)]) (hx : ρ x = .agg (ecells e).toArray) :
    (execOp ρ o).run Try.prog w = .ok (.value (.slice (some ⟨w.heap.size, 0, none⟩) 1 1)) (w.alloc (.cells (ecells e).toArray 41)) := by
  obtain ⟨i, z, hi, hz, hzs, his, _⟩ := info_partsR
  have hr := run_buildSlice (P := Try.prog) w 22 41 1 #[(0, .agg (ecells e).toArray)] (ecells e).toArray i z Try.underlying22 hi hz (by rw [his]; omega) (by rw [his]; omega)
    (fill_whole (size := 3) (by simp [his]) (by simp [Value.cells]) (by simp [his]))
  unfold execOp
  simp only [ho]
  rw [show (Array.map (fun x : Nat × Operand => (x.1, ρ x.2)) #[(0, x)]) = #[(0, .agg (ecells e).toArray)] by simp [hx]]
  simp only [Sem.run_bind, hr, Result.andThen_ok]
  rfl
theorem ex_appR {v u v' : Value} {w w' : World} (ho : o.op = .call { callee := .builtin .append, args := #[x, y], argTypes := #[22, 22] }) (hx : ρ x = v) (hy : ρ y = u)
    (hr : (Builtin.append_ #[22, 22] o.type #[v, u]).run Try.prog w = .ok v' w') : (execOp ρ o).run Try.prog w = .ok (.value v') w' := by
  unfold execOp
  simp only [ho, resolve, invoke, builtin, Sem.run_bind, Sem.run_pure, Result.andThen_ok, List.map_toArray, List.map_cons, List.map_nil, hx, hy, hr]
theorem ex_toR {sp : Option Addr} {L cap n : Nat} (h : n ≤ cap) (ho : o.op = .slice 22 x none (some y) none) (hx : ρ x = .slice sp L cap) (hy : ρ y = .int .i64 (n : Int)) : (execOp ρ o).run Try.prog w = .ok (.value (.slice sp n cap)) w := by
  unfold execOp
  simp only [ho]
  have := sliceToR sp L cap n h w
  simp [hx, hy, this, Result.andThen]
theorem ex_fromR {sp : Option Addr} {L cap n : Nat} (h : n ≤ L ∧ L ≤ cap) (ho : o.op = .slice 22 x (some y) none none) (hx : ρ x = .slice sp L cap) (hy : ρ y = .int .i64 (n : Int)) : (execOp ρ o).run Try.prog w = .ok (.value (.slice (spFrom sp n cap) (L - n) (cap - n))) w := by
  unfold execOp
  simp only [ho]
  have := sliceFromR sp L cap n h.1 h.2 w
  simp [hx, hy, this, Result.andThen]
end
end Go.Proofs.Ytlkhnmhhcagghaa
