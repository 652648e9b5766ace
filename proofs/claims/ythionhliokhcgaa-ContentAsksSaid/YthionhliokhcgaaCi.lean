/- Content: changes in memory; what stands while Write's and Truncate's ranges go on. -/
import Derived.Test.YthionhliokhcgaaCh
import Derived.Great.BuildSlice
namespace Go.Proofs.Ythionhliokhcgaa
open Go.RowKit Go.Shelf

attribute [local go_sem] Oper.semAt_some

abbrev chC (c : Nat × Value) : List Value := [.int .u32 (c.1 : Int), c.2]
abbrev OwnH (w : World) (B : Nat) (v : Value) (l : List (Nat × Value)) : Prop := w.ownsRow B 47 2 v l.length (l.flatMap chC)
theorem infoH : (Try.prog.info? 47).map (fun i => (i.zero.map (·.cells.size), i.size, i.bytes)) = some (some 2, 2, 32) := by kernel_rfl
theorem sizeH : (Try.prog.info? 47).map (·.size) = some 2 := by kernel_rfl
theorem info_partsH : ∃ i z, Try.prog.info? 47 = some i ∧ i.zero = some z ∧ z.cells.size = 2 ∧ i.size = 2 ∧ i.bytes = 32 := by
  obtain ⟨i, h1, h2⟩ := Option.map_eq_some_iff.1 infoH
  simp only [Prod.mk.injEq] at h2
  obtain ⟨z, hz, hz2⟩ := Option.map_eq_some_iff.1 h2.1
  exact ⟨i, z, h1, hz, hz2, h2.2.1, h2.2.2⟩
theorem ownH_app {w : World} {B : Nat} {v : Value} {l : List (Nat × Value)} (h : OwnH w B v l) (hB : B ≤ w.heap.size) (hl : l.length < 1000000) (x : Nat × Value) (hx : x.2.oneCell' = true) {g : Nat} {t : TypeId} (hg : Blk w g (chC x) t) (ty : TypeId) :
    ∃ v' w', (Builtin.append_ #[35, 35] ty #[v, .slice (some ⟨g, 0, none⟩) 1 1]).run Try.prog w = .ok v' w' ∧ OwnH w' B v' (l ++ [x]) ∧ w.grownBy w' v.ownBlock ∧ (v'.ownBlock = v.ownBlock ∨ v'.ownBlock = some w.heap.size) := by
  obtain ⟨i0, z, hi, hz0, hz1, hz2, hz3⟩ := info_partsH
  obtain ⟨v', w', hr, h2, h3, _, h5⟩ := run_append_own_at (P := Try.prog) w B 35 ty 47 i0 z 2 32 Try.underlying35 hi hz0 hz2 hz3 hz1 (by decide) v l.length (l.flatMap chC) h ⟨g, 0, none⟩ 1 1 (chC x) rfl (fun j y hj => by
    rw [Addr.add_mid, Nat.zero_add]
    exact hg.cell hj) (fun u hu => by
      simp only [List.mem_cons, List.not_mem_nil, or_false] at hu
      rcases hu with rfl | rfl
      · rfl
      · exact hx) (by unfold maxLen; omega) (by omega) hB
  refine ⟨v', w', hr, ?_, h3, h5⟩
  unfold OwnH
  rw [List.flatMap_append, List.length_append]
  simpa using h2
theorem c_fold_splice (off : Nat) (vs : List Value) (cs : Array Value) (h : off + vs.length ≤ cs.size) : (vs.zipIdx 0).foldl (fun cs (x : Value × Nat) => cs.setIfInBounds (off + x.2) x.1) cs = (splice cs.toList off vs).toArray := by
  obtain ⟨h1, h2⟩ := Go.Great.foldl_set off vs 0 cs
  apply Array.ext_getElem?
  intro k
  rw [h2 k]
  simp only [List.getElem?_toArray, splice, Nat.add_zero]
  by_cases hk : k < off
  · rw [if_neg (by omega), List.getElem?_append_left (by simp; omega), List.getElem?_take, if_pos hk]
    simp
  · rw [List.getElem?_append_right (by simp; omega)]
    have e : (cs.toList.take off).length = off := by simp; omega
    rw [e]
    by_cases hk2 : k < off + vs.length
    · rw [if_pos (by omega), List.getElem?_append_left (by omega)]
    · rw [if_neg (by omega), List.getElem?_append_right (by omega), List.getElem?_drop]
      rw [show off + vs.length + (k - off - vs.length) = k by omega]
      simp
theorem c_fill_whole {pl : Nat → Option (Nat × Nat)} {cells : Array Value} {size : Nat} {v : Value} (hp : pl 0 = some (0, size)) (hv : v.cells.size = size) (hle : cells.size = size) :
    Instr.fill pl cells [(0, v)] = some v.cells := by
  have hf := c_fold_splice 0 v.cells.toList cells (by simp; omega)
  unfold Instr.fill
  simp only [hp]
  rw [if_neg (by simp [hv]; omega)]
  unfold Instr.fill
  congr 1
  have e : splice cells.toList 0 v.cells.toList = v.cells.toList := by
    unfold splice
    rw [List.drop_of_length_le (by simp; omega)]
    simp
  rw [e] at hf
  rw [← Array.foldl_toList]
  simpa using hf
section
variable {ρ : Operand → Value} {o : Oper} {x y : Operand} {w : World}
theorem c_oneH {c : Nat × Value} (ho : o.op = .buildSlice 35 1 #[(0, x)]) (hx : ρ x = .agg (chC c).toArray) :
    (execOp ρ o).run Try.prog w = .ok (.value (.slice (some ⟨w.heap.size, 0, none⟩) 1 1)) (w.alloc (.cells (chC c).toArray 47)) := by
  obtain ⟨i, z, hi, hz, hzs, his, _⟩ := info_partsH
  have hr := run_buildSlice (P := Try.prog) w 35 47 1 #[(0, .agg (chC c).toArray)] (chC c).toArray i z Try.underlying35 hi hz (by rw [his]; omega) (by rw [his]; omega)
    (c_fill_whole (size := 2) (by simp [his]) (by simp [Value.cells]) (by simp [his]))
  unfold execOp
  simp only [ho]
  rw [show (Array.map (fun x : Nat × Operand => (x.1, ρ x.2)) #[(0, x)]) = #[(0, .agg (chC c).toArray)] by simp [hx]]
  simp only [Sem.run_bind, hr, Result.andThen_ok]
  rfl
theorem c_appH {v u v' : Value} {w' : World} (ho : o.op = .call { callee := .builtin .append, args := #[x, y], argTypes := #[35, 35] }) (hx : ρ x = v) (hy : ρ y = u)
    (hr : (Builtin.append_ #[35, 35] o.type #[v, u]).run Try.prog w = .ok v' w') : (execOp ρ o).run Try.prog w = .ok (.value v') w' := by
  unfold execOp
  simp only [ho, resolve, invoke, builtin, Sem.run_bind, Sem.run_pure, Result.andThen_ok, List.map_toArray, List.map_cons, List.map_nil, hx, hy, hr]
end
/-- Changes: offsets, and rows that hold the leaves' bytes. -/
def ChAt (w : World) (B : Nat) (v : Value) (cs : List (Nat × B8)) : Prop :=
  ∃ rs : List (Nat × Value), rs.length = cs.length ∧ OwnH w B v rs ∧ ∀ (i : Nat) (r : Nat × Value) (c : Nat × B8), rs[i]? = some r → cs[i]? = some c → r.1 = c.1 ∧ OwnB w B r.2 c.2
theorem ChAt.nil (w : World) (B : Nat) : ChAt w B (.slice none 0 0) [] := ⟨[], rfl, ⟨rfl, .inl ⟨rfl, rfl⟩⟩, fun i r c h => by simp at h⟩
theorem ChAt.chg {w w' : World} {B : Nat} {v : Value} {cs : List (Nat × B8)} (h : ChAt w B v cs) {F : Nat → Prop} (hc : Chg F w w') (hF : ∀ g cs t, F g → Blk w g cs t → t ≠ 47 ∧ t ≠ 5) : ChAt w' B v cs := by
  obtain ⟨rs, h1, h2, h3⟩ := h
  refine ⟨rs, h1, c_owns_chg h2 hc (fun g hg hf => ?_), fun i r c hr hcc => ⟨(h3 i r c hr hcc).1, c_owns_chg (h3 i r c hr hcc).2 hc (fun g hg hf => ?_)⟩⟩
  · obtain ⟨cs', hb⟩ := c_owns_ty h2 hg
    exact (hF g _ _ hf hb).1 rfl
  · obtain ⟨cs', hb⟩ := c_owns_ty (h3 i r c hr hcc).2 hg
    exact (hF g _ _ hf hb).2 rfl
theorem ChAt.chg1 {w w' : World} {B g : Nat} {v : Value} {cs : List (Nat × B8)} (h : ChAt w B v cs) {l : List Value} {t : TypeId} (hb : Blk w g l t) (h1 : t ≠ 47) (h2 : t ≠ 5) (hc : Chg (fun k => k = g) w w') : ChAt w' B v cs :=
  h.chg hc (fun k cs' t' e hb' => by
    have e : k = g := e
    subst e
    have := hb.same hb'
    subst this
    exact ⟨h1, h2⟩)
theorem ChAt.below {w w' : World} {B : Nat} {v : Value} {cs : List (Nat × B8)} (h : ChAt w B v cs) (hb : Below w.heap.size w w') : ChAt w' B v cs := h.chg (Chg.of_below (F := fun _ => False) hb) (fun _ _ _ hf _ => hf.elim)
theorem ChAt.form {w : World} {B : Nat} {v : Value} {cs : List (Nat × B8)} (h : ChAt w B v cs) : ∃ sp cap, v = .slice sp cs.length cap ∧ cs.length ≤ cap := by
  obtain ⟨rs, h1, h2, h3⟩ := h
  obtain ⟨sp, cap, e, hc, _⟩ := c_owns_form h2
  exact ⟨sp, cap, by rw [e, h1], by omega⟩
theorem ChAt.no {w : World} {B g : Nat} {v : Value} {cs : List (Nat × B8)} (h : ChAt w B v cs) {l : List Value} {t : TypeId} (hb : Blk w g l t) (h1 : t ≠ 47) : v.ownBlock ≠ some g := by
  obtain ⟨rs, _, h2, _⟩ := h
  exact c_own_ne h2 hb h1
/-- One change more. -/
theorem ChAt.app {w w1 : World} {B : Nat} {v : Value} {cs : List (Nat × B8)} (h : ChAt w B v cs) (hB : B ≤ w.heap.size) (hl : cs.length < 1000000) (hb : Below w.heap.size w w1) {c : Nat × B8} {u : Value} (hu : OwnB w1 B u c.2) {g : Nat} {t : TypeId} (hg : Blk w1 g (chC (c.1, u)) t) (ty : TypeId) :
    ∃ v' w', (Builtin.append_ #[35, 35] ty #[v, .slice (some ⟨g, 0, none⟩) 1 1]).run Try.prog w1 = .ok v' w' ∧ ChAt w' B v' (cs ++ [c]) ∧ w1.grownBy w' v.ownBlock ∧ (v'.ownBlock = v.ownBlock ∨ v'.ownBlock = some w1.heap.size) := by
  obtain ⟨rs, h1, h2, h3⟩ := h.below hb
  obtain ⟨sp, cap, e, _⟩ := c_owns_form hu
  obtain ⟨v', w', hr, ho, hgr, hn⟩ := ownH_app h2 (Nat.le_trans hB hb.size) (by omega) (c.1, u) (by rw [e]; rfl) hg ty
  have hc := chg_grown hgr
  have hno : ∀ {x : Value} {l : B8}, OwnB w1 B x l → OwnB w' B x l := fun hx => c_owns_chg hx hc (fun k hk e => c_own_ty h2 hx (by decide) e hk)
  refine ⟨v', w', hr, ⟨rs ++ [(c.1, u)], by simp [h1], ho, fun i r c' hr hc' => ?_⟩, hgr, hn⟩
  rcases Nat.lt_or_ge i rs.length with hi | hi
  · rw [List.getElem?_append_left hi] at hr
    rw [List.getElem?_append_left (by omega)] at hc'
    have := h3 i r c' hr hc'
    exact ⟨this.1, hno this.2⟩
  · rw [List.getElem?_append_right hi] at hr
    rw [List.getElem?_append_right (by omega)] at hc'
    have hi0 : i - rs.length = 0 := by
      have := (List.getElem?_eq_some_iff.1 hr).1
      simp at this; omega
    rw [hi0] at hr
    rw [← h1, hi0] at hc'
    simp at hr hc'
    subst hr hc'
    exact ⟨rfl, hno hu⟩
/-- While the range of Write or Truncate goes on: the results' boxes, the changes so far. -/
structure WtK (lo g8 g9 g10 g13 : Nat) (cs : Nat → List (Nat × B8)) (E : Nat → World → Prop) (i : Nat) (A : World) : Prop where
  b8 : Blk A g8 [.slice none 0 0] 35
  b9 : Blk A g9 [.int .u32 0] 34
  b10 : Blk A g10 [.int .i64 0] 36
  b13 : ∃ cv, Blk A g13 [cv] 35 ∧ ChAt A lo cv (cs i)
  ex : E i A
theorem Kp0.chAt {D : Nat} {avS : Value} {b : Bas} {A A' : World} (k : Kp0 D avS b A A') {l : List Value} (hd : Blk A D l 33) {B : Nat} {v : Value} {cs : List (Nat × B8)} (h : ChAt A B v cs) : ChAt A' B v cs := by
  obtain ⟨rs, h1, h2, h3⟩ := h
  exact ⟨rs, h1, k.own hd h2 (by decide) (by decide), fun i r c hr hc => ⟨(h3 i r c hr hc).1, k.own hd (h3 i r c hr hc).2 (by decide) (by decide)⟩⟩
theorem wtK_keeps {w : World} {nS D lo g8 g9 g10 g13 : Nat} {avS : Value} {cs : Nat → List (Nat × B8)} {E : Nat → World → Prop} (h9 : w.heap.size ≤ g9 ∧ g9 < nS) (hD : D < w.heap.size) (ha : ∀ g, avS.ownBlock = some g → g < w.heap.size) (hE : Keeps D avS ⟨w, nS⟩ E) : Keeps D avS ⟨w, nS⟩ (WtK lo g8 g9 g10 g13 cs E) :=
  fun i A A' l h k hd => by
    have hk : ∀ {g : Nat} {cs' : List Value} {t : TypeId}, Blk A g cs' t → t ≠ 33 → t ≠ 34 → Blk A' g cs' t := fun hb h1 h2 => k.new _ _ _ hb (fun e => by subst e; exact h1 (hb.same hd)) h2
    obtain ⟨cv, h1, h2⟩ := h.b13
    refine ⟨hk h.b8 (by decide) (by decide), ?_, hk h.b10 (by decide) (by decide), ⟨cv, hk h1 (by decide) (by decide), k.chAt hd h2⟩, hE _ _ _ _ h.ex k hd⟩
    have := k.old g9 h9.2 (by omega) (fun e => by have := ha _ e; omega)
    unfold Blk
    rw [this]
    exact h.b9
section
variable {w : World} {nS B D G lo g8 g9 g10 g13 : Nat} {vs : List Value} {m : List B8} {bad : Nat} {avS : Value} {wt : Nat → Nat → Bool} {fr te wf : Nat} {aq : List Nat} {cs : Nat → List (Nat × B8)} {E : Nat → World → Prop} {x : Nat} {A : World}
/-- Where the boxes are. -/
structure WtB (w : World) (nS g8 g9 g10 g13 : Nat) : Prop where
  h8 : w.heap.size ≤ g8 ∧ g8 < nS
  h9 : w.heap.size ≤ g9 ∧ g9 < nS
  h10 : w.heap.size ≤ g10 ∧ g10 < nS
  h13 : w.heap.size ≤ g13 ∧ g13 < nS
  n8 : g8 ≠ g9 ∧ g8 ≠ g10 ∧ g8 ≠ g13
  n9 : g9 ≠ g10 ∧ g9 ≠ g13
  n10 : g10 ≠ g13
def errW (A : World) (g8 g9 g10 : Nat) : World := ((A.setCell ⟨g8, 0, none⟩ (.slice none 0 0)).setCell ⟨g9, 0, none⟩ (.int .u32 0)).setCell ⟨g10, 0, none⟩ (.int .i64 21)
theorem wt_err (hb : WtB w nS g8 g9 g10 g13) (hJ : HdJ1 ⟨w, nS⟩ B D G vs m bad avS wt fr te wf aq (WtK lo g8 g9 g10 g13 cs E) x A) (he : (yc vs bad wt fr te x).e ≠ 0) :
    KeepsFrom nS A (errW A g8 g9 g10) ∧ ∃ i, Ran bad wt fr te i true ∧ Cst ⟨w, nS⟩ B D G vs m bad avS fr te wf (aq ++ askU wt fr te (i + 1)) (errW A g8 g9 g10) ∧
      Blk (errW A g8 g9 g10) g8 [.slice none 0 0] 35 ∧ Blk (errW A g8 g9 g10) g9 [.int .u32 0] 34 ∧ Blk (errW A g8 g9 g10) g10 [.int .i64 21] 36 := by
  unfold errW
  have b9 := hJ.k.b9.other (a := ⟨g8, 0, none⟩) (Ne.symm hb.n8.1) (.slice none 0 0)
  have b10 := (hJ.k.b10.other (a := ⟨g8, 0, none⟩) (Ne.symm hb.n8.2.1) (.slice none 0 0)).other (a := ⟨g9, 0, none⟩) (Ne.symm hb.n9.1) (.int .u32 0)
  exact ⟨((KeepsFrom.cell hJ.k.b8 0 _).trans (KeepsFrom.cell b9 0 _)).trans (KeepsFrom.cell b10 0 _), x, hJ.p.fail hJ.l he, ((hJ.c.set hJ.k.b8 (by decide) (.inl hb.h8.2) hb.h8.1 0 _).set b9 (by decide) (.inl hb.h9.2) hb.h9.1 0 _).set b10 (by decide) (.inl hb.h10.2) hb.h10.1 0 _,
    ((hJ.k.b8.set 0 (.slice none 0 0)).other (a := ⟨g9, 0, none⟩) hb.n8.1 _).other (a := ⟨g10, 0, none⟩) hb.n8.2.1 _, (b9.set 0 (.int .u32 0)).other (a := ⟨g10, 0, none⟩) hb.n9.1 _, b10.set 0 (.int .i64 21)⟩
def endW (A : World) (g8 g9 g10 : Nat) (cv : Value) (z : Int) : World := ((A.setCell ⟨g8, 0, none⟩ cv).setCell ⟨g9, 0, none⟩ (.int .u32 z)).setCell ⟨g10, 0, none⟩ (.int .i64 0)
theorem wt_end {Dd n : Nat} (hb : WtB w nS g8 g9 g10 g13) (hlo : lo = w.heap.size) (hC : Cst ⟨w, nS⟩ B D G vs m bad avS fr te wf aq A) (hk : WtK lo g8 g9 g10 g13 cs E n A) (hD : nS ≤ Dd) (hK : A.heap[Dd]? = some (.deferred (some []))) (z : Int) :
    ∃ sp cap, A.cell? ⟨g13, 0, none⟩ = some (.slice sp (cs n).length cap) ∧ (endW A g8 g9 g10 (.slice sp (cs n).length cap) z).heap[Dd]? = some (.deferred (some [])) ∧
      (∀ X, X = (endW A g8 g9 g10 (.slice sp (cs n).length cap) z).putObj Dd (.deferred none) → X.cell? ⟨g8, 0, none⟩ = some (.slice sp (cs n).length cap) ∧ X.cell? ⟨g9, 0, none⟩ = some (.int .u32 z) ∧ X.cell? ⟨g10, 0, none⟩ = some (.int .i64 0) ∧
        CEnd w B D vs m bad avS aq X ∧ ChAt X w.heap.size (.slice sp (cs n).length cap) (cs n)) := by
  obtain ⟨cv, h13, hch⟩ := hk.b13
  obtain ⟨sp, cap, rfl, -⟩ := hch.form
  have b9 := hk.b9.other (a := ⟨g8, 0, none⟩) (Ne.symm hb.n8.1) (.slice sp (cs n).length cap)
  have b10 := (hk.b10.other (a := ⟨g8, 0, none⟩) (Ne.symm hb.n8.2.1) (.slice sp (cs n).length cap)).other (a := ⟨g9, 0, none⟩) (Ne.symm hb.n9.1) (.int .u32 z)
  have b8' := ((hk.b8.set 0 (.slice sp (cs n).length cap)).other (a := ⟨g9, 0, none⟩) hb.n8.1 (.int .u32 z)).other (a := ⟨g10, 0, none⟩) hb.n8.2.1 (.int .i64 0)
  have b9' := (b9.set 0 (.int .u32 z)).other (a := ⟨g10, 0, none⟩) hb.n9.1 (.int .i64 0)
  have b10' := b10.set 0 (.int .i64 0)
  have hC2 := ((hC.set hk.b8 (by decide) (.inl hb.h8.2) hb.h8.1 0 (.slice sp (cs n).length cap)).set b9 (by decide) (.inl hb.h9.2) hb.h9.1 0 (.int .u32 z)).set b10 (by decide) (.inl hb.h10.2) hb.h10.1 0 (.int .i64 0)
  have hK2 : (endW A g8 g9 g10 (.slice sp (cs n).length cap) z).heap[Dd]? = some (.deferred (some [])) :=
    (((KeepsFrom.cell hk.b8 0 _).trans (KeepsFrom.cell b9 0 _)).trans (KeepsFrom.cell b10 0 _)).same Dd _ hD hK rfl
  have hc : Chg (fun g => (g = g8 ∨ g = g9) ∨ g = g10) A (endW A g8 g9 g10 (.slice sp (cs n).length cap) z) := (((Chg.refl _ A).setCell (.inl (.inl (.inl rfl))) 0 _).setCell (.inl (.inl (.inr rfl))) 0 _).setCell (.inl (.inr rfl)) 0 _
  have hch2 := hch.chg hc (fun g l t hf hbk => by
    rcases hf with (rfl | rfl) | rfl
    · have := hk.b8.same hbk; subst this; exact ⟨by decide, by decide⟩
    · have := hk.b9.same hbk; subst this; exact ⟨by decide, by decide⟩
    · have := hk.b10.same hbk; subst this; exact ⟨by decide, by decide⟩)
  refine ⟨sp, cap, h13.cell (j := 0) rfl, hK2, fun X hX => ?_⟩
  have hg := grownBy_putObj' (endW A g8 g9 g10 (.slice sp (cs n).length cap) z) Dd (.deferred none)
  rw [← hX] at hg
  have hr : ∀ r, some Dd = some r → nS ≤ r ∧ ∃ o : Obj, (endW A g8 g9 g10 (.slice sp (cs n).length cap) z).heap[r]? = some o ∧ o.isCells = false := fun r e => by cases e; exact ⟨hD, _, hK2, rfl⟩
  refine ⟨(blk_grown hg (fun r e => (hr r e).2) b8').cell (j := 0) rfl, (blk_grown hg (fun r e => (hr r e).2) b9').cell (j := 0) rfl, (blk_grown hg (fun r e => (hr r e).2) b10').cell (j := 0) rfl, (Cst.grown hC2 hg hr).fin, ?_⟩
  rw [← hlo]
  exact hch2.chg (chg_grown hg) (fun g l t hf hbk => by
    obtain ⟨_, o, h1, h2⟩ := hr g hf
    unfold Blk at hbk
    rw [hbk] at h1
    cases h1
    cases h2)
/-- A change more: the world behind it. -/
theorem wt_app {A1 : World} {u : Value} (hb : WtB w nS g8 g9 g10 g13) (hlo : lo = w.heap.size) (hE : ∀ A', E (x + 1) A1 → Chg (fun g => g = g13 ∨ (w.heap.size ≤ g ∧ ∃ l, Blk A1 g l 47)) A1 A' → E (x + 1) A') (hws : w.heap.size ≤ A1.heap.size)
    (hC : Cst ⟨w, nS⟩ B D G vs m bad avS fr te wf aq A1) (h8 : Blk A1 g8 [.slice none 0 0] 35) (h9 : Blk A1 g9 [.int .u32 0] 34) (h10 : Blk A1 g10 [.int .i64 0] 36) {cv : Value} (h13 : Blk A1 g13 [cv] 35) (hch : ChAt A1 lo cv (cs x)) (hx : E (x + 1) A1)
    (o : Nat) (b : B8) (hcs : cs (x + 1) = cs x ++ [(o, b)]) (hl : (cs x).length < 1000) (hu : OwnB A1 lo u b) :
    ∃ sp n cap w2, (Builtin.append_ #[35, 35] 35 #[cv, .slice (some ⟨A1.heap.size, 0, none⟩) 1 1]).run Try.prog (A1.alloc (.cells (chC (o, u)).toArray 47)) = .ok (.slice sp n cap) w2 ∧ (∃ c, w2.cell? ⟨g13, 0, none⟩ = some c) ∧ w2.frozen? ⟨g13, 0, none⟩ = false ∧
      WtK lo g8 g9 g10 g13 cs E (x + 1) (w2.setCell ⟨g13, 0, none⟩ (.slice sp n cap)) ∧ Cst ⟨w, nS⟩ B D G vs m bad avS fr te wf aq (w2.setCell ⟨g13, 0, none⟩ (.slice sp n cap)) ∧ KeepsFrom nS A1 (w2.setCell ⟨g13, 0, none⟩ (.slice sp n cap)) := by
  have hbw : Below A1.heap.size A1 (A1.alloc (.cells (chC (o, u)).toArray 47)) := (Below.refl _ _).alloc (Nat.le_refl _) _
  have hnew : Blk (A1.alloc (.cells (chC (o, u)).toArray 47)) A1.heap.size (chC (o, u)) 47 := Blk.new _ _ _
  obtain ⟨v', w2, hr, hch2, hgr, hn⟩ := hch.app (by omega) (by omega) hbw (c := (o, b)) (u := u) (OwnB.below hu hbw (Nat.le_refl _)) hnew 35
  obtain ⟨sp, cap, hv', -⟩ := hch2.form
  obtain ⟨rs, hrs1, hrs2, hrs3⟩ := id hch
  have hF : ∀ g, cv.ownBlock = some g → ∃ l, Blk A1 g l 47 := fun g e => c_owns_ty hrs2 e
  have hc2 : Chg (fun g => cv.ownBlock = some g) A1 w2 := (Chg.of_below hbw).grown hgr (fun k e => .inl e)
  have hno13 : cv.ownBlock ≠ some g13 := hch.no h13 (by decide)
  have hb13 : Blk w2 g13 [cv] 35 := h13.chg hc2 hno13
  have hC2 : Cst ⟨w, nS⟩ B D G vs m bad avS fr te wf aq w2 := by
    refine hC.out hc2 (fun g e => by rw [← hlo]; exact c_owns_lo hrs2 e) (fun av' k1' _ g hg e => ?_) (fun g l t hbk ht e => ?_)
    · obtain ⟨l, hbk⟩ := hF g e
      exact c_own_ne k1'.q hbk (by decide) hg
    · obtain ⟨l', hbk'⟩ := hF g e
      have := hbk.same hbk'
      subst this
      rcases ht with e | e | e <;> exact absurd e (by decide)
  have hC3 := hC2.set hb13 (by decide) (.inl hb.h13.2) hb.h13.1 0 v'
  have hc3 := chg1 w2 g13 0 v'
  have hall : Chg (fun g => g = g13 ∨ (w.heap.size ≤ g ∧ ∃ l, Blk A1 g l 47)) A1 (w2.setCell ⟨g13, 0, none⟩ v') := ((hc2.mono (fun g e => .inr ⟨by rw [← hlo]; exact c_owns_lo hrs2 e, hF g e⟩) : Chg (fun g => g = g13 ∨ (w.heap.size ≤ g ∧ ∃ l, Blk A1 g l 47)) A1 w2)).setCell (.inl (.inl rfl)) 0 v'
  refine ⟨sp, _, cap, w2, by rw [← hv']; exact hr, hb13.has 0 (by simp), hb13.free 0, ?_, ?_, ?_⟩
  · rw [← hv']
    refine ⟨(h8.chg hc2 (hch.no h8 (by decide))).chg hc3 hb.n8.2.2, (h9.chg hc2 (hch.no h9 (by decide))).chg hc3 hb.n9.2, (h10.chg hc2 (hch.no h10 (by decide))).chg hc3 hb.n10, ⟨v', hb13.set 0 v', ?_⟩, hE _ hx hall⟩
    rw [hcs]
    exact hch2.chg1 hb13 (by decide) (by decide) hc3
  · rw [← hv']; exact hC3
  · rw [← hv']
    exact KeepsFrom.chg hall (fun g hf => by
      rcases hf with rfl | ⟨_, l, h⟩
      · exact ⟨_, _, h13⟩
      · exact ⟨_, _, h⟩)
end
end Go.Proofs.Ythionhliokhcgaa
