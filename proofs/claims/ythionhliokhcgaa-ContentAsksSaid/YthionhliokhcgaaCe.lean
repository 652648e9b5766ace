/- Content: the pieces of a range of bytes; the iterator. -/
import Derived.Test.YthionhliokhcgaaCd
import Derived.RangeFuncNested
import Derived.RangeFuncBound
import Derived.RangeFuncCalls
import Derived.RangeFuncLeaves
import Derived.Shelf.Abstract
import Derived.Shelf.RegionOpen
import Derived.OwnWalkIn
import Derived.TacticsInMore
import Derived.LoopNIn
import Derived.LoopIn
namespace Go.Proofs.Ythionhliokhcgaa
open Go.RowKit Go.Shelf

attribute [local go_sem] Oper.semAt_some

/-- Where piece i begins; its leaf; its places in the leaf. -/
def pcA (fr i : Nat) : Nat := if i = 0 then fr else 512 * (fr / 512 + i)
def pcO (fr i : Nat) : Nat := fr / 512 + i
def pcF (fr i : Nat) : Nat := if i = 0 then fr % 512 else 0
def pcT (fr te i : Nat) : Nat := min (te - 512 * (fr / 512 + i)) 512
theorem pcA_eq (fr i : Nat) : pcA fr i = 512 * pcO fr i + pcF fr i := by unfold pcA pcO pcF; split <;> subst_vars <;> omega
theorem pcF_lt (fr i : Nat) : pcF fr i < 512 := by unfold pcF; split <;> omega
theorem pcA_succ (fr i : Nat) : pcA fr (i + 1) = 512 * pcO fr i + 512 := by unfold pcA pcO; rw [if_neg (by omega)]; omega
/-- What a range asks of leaves; what is handed on. -/
structure Yc where
  o : Nat
  f : Nat
  t : Nat
  v : Value
  e : Nat
def ycE (y : Yc) : Array Value := #[.agg (pcC y.o y.f y.t y.v).toArray, .int .i64 (y.e : Int)]
def yc (vs : List Value) (bad : Nat) (wt : Nat → Nat → Bool) (fr te i : Nat) : Yc :=
  if wt (pcF fr i) (pcT fr te i) = true then (if badAt bad (pcO fr i) = true then ⟨0, 0, 0, .slice none 0 0, 21⟩ else ⟨pcO fr i, pcF fr i, pcT fr te i, vs.getD (pcO fr i) undef, 0⟩)
  else ⟨pcO fr i, pcF fr i, pcT fr te i, .slice none 0 0, 0⟩
def ask1 (wt : Nat → Nat → Bool) (fr te i : Nat) : List Nat := if wt (pcF fr i) (pcT fr te i) = true then [pcO fr i] else []
def askU (wt : Nat → Nat → Bool) (fr te n : Nat) : List Nat := (List.range n).flatMap (ask1 wt fr te)
theorem askU_succ (wt : Nat → Nat → Bool) (fr te n : Nat) : askU wt fr te (n + 1) = askU wt fr te n ++ ask1 wt fr te n := by unfold askU; rw [List.range_succ, List.flatMap_append]; simp
theorem askU_len (wt : Nat → Nat → Bool) (fr te : Nat) : ∀ n, (askU wt fr te n).length ≤ n
  | 0 => by simp [askU]
  | n + 1 => by
    rw [askU_succ, List.length_append]
    have := askU_len wt fr te n
    have : (ask1 wt fr te n).length ≤ 1 := by unfold ask1; split <;> simp
    omega
/-- Where a call began; how much memory there was when its range began. -/
structure Bas where
  w : World
  n : Nat
/-- What has turned since. -/
structure CMq (D : Nat) (avS : Value) (b : Bas) (av : Value) (A : World) : Prop where
  chg : Chg (fun g => g = D ∨ avS.ownBlock = some g) b.w A
  own : ∀ g, av.ownBlock = some g → avS.ownBlock = some g ∨ b.n ≤ g
  sz : b.n ≤ A.heap.size
  ws : b.w.heap.size ≤ b.n
theorem CMq.trans {D : Nat} {avS av av' : Value} {b : Bas} {A A' : World} (h : CMq D avS b av A) (k : CMv D av A av' A') : CMq D avS b av' A' :=
  ⟨h.chg.trans k.chg (fun i hi => by
    rcases hi with rfl | hi
    · exact .inl (.inl rfl)
    · rcases h.own i hi with e | e
      · exact .inl (.inr e)
      · exact .inr (Nat.le_trans h.ws e)), fun g hg => by
    rcases k.own g hg with e | e
    · exact h.own g e
    · exact .inr (Nat.le_trans h.sz e), Nat.le_trans h.sz k.chg.size, h.ws⟩
/-- What stands while a range goes on: the leaves, the iterator's boxes. -/
structure Cst (wS : Bas) (B D G : Nat) (vs : List Value) (m : List B8) (bad : Nat) (avS : Value) (fr te wf : Nat) (aq : List Nat) (A : World) : Prop where
  sh : ∃ av, ShW A B D vs m bad av aq ∧ CMq D avS wS av A
  b0 : Blk A G [shC D] 49
  b1 : Blk A (G + 1) [.int .u64 (fr : Int)] 23
  b2 : Blk A (G + 1 + 1) [.int .u64 (te : Int)] 23
  b3 : Blk A (G + 1 + 1 + 1) [.func (.func wf) #[] #[]] 54
  gl : G + 3 < wS.n
  bl : B ≤ wS.n
  rl : ∀ v ∈ vs, ∀ g, v.ownBlock = some g → g < wS.w.heap.size
  dl : D < wS.w.heap.size
  al : ∀ g, avS.ownBlock = some g → g < wS.w.heap.size
structure Kp0 (D : Nat) (avS : Value) (wS : Bas) (A A' : World) : Prop where
  size : A.heap.size ≤ A'.heap.size
  old : ∀ g, g < wS.n → g ≠ D → avS.ownBlock ≠ some g → A'.heap[g]? = A.heap[g]?
  new : ∀ g cs t, Blk A g cs t → g ≠ D → t ≠ 34 → Blk A' g cs t
/-- What a call of Leaf leaves: all old blocks but those of the leaves, all blocks of other kinds. -/
structure Kps (D : Nat) (avS : Value) (wS : Bas) (A A' : World) : Prop where
  size : A.heap.size ≤ A'.heap.size
  old : ∀ g, g < wS.n → g ≠ D → avS.ownBlock ≠ some g → A'.heap[g]? = A.heap[g]?
  new : ∀ g cs t, Blk A g cs t → g ≠ D → t ≠ 34 → Blk A' g cs t
  from_ : KeepsFrom wS.n A A'
section
variable {wS : Bas} {A A' A2 : World} {B D G : Nat} {vs : List Value} {m : List B8} {bad : Nat} {avS av av' : Value} {fr te wf : Nat} {aq : List Nat}
theorem KeepsFrom.of_below {B : Nat} (h : Below A.heap.size A A') : KeepsFrom B A A' := ⟨h.size, fun k o _ hk _ => by
  rw [h.block k (Array.getElem?_eq_some_iff.1 hk).1]; exact hk⟩
theorem Kps.zero (h : Kps D avS wS A A') : Kp0 D avS wS A A' := ⟨h.size, h.old, h.new⟩
theorem Kps.of_below (h : Below A.heap.size A A') (hs : wS.n ≤ A.heap.size) : Kps D avS wS A A' :=
  ⟨h.size, fun g hg _ _ => h.block g (by omega), fun g cs t hb _ _ => hb.below h hb.lt, KeepsFrom.of_below h⟩
theorem Kps.trans (h : Kps D avS wS A A') (k : Kps D avS wS A' A2) : Kps D avS wS A A2 :=
  ⟨Nat.le_trans h.size k.size, fun g hg h1 h2 => (k.old g hg h1 h2).trans (h.old g hg h1 h2), fun g cs t hb h1 h2 => k.new g cs t (h.new g cs t hb h1 h2) h1 h2, h.from_.trans k.from_⟩
/-- A call that asks. -/
theorem kps_ask (hsh : ShW A B D vs m bad av aq) (hS : CMq D avS wS av A) (hm : CMv D av A av' A') : Kps D avS wS A A' := by
  refine ⟨hm.chg.size, fun g hg h1 h2 => ?_, fun g cs t hb h1 h2 => hm.blk hb h1 (c_own_ne hsh.q hb h2), ⟨hm.chg.size, fun k o _ hk ho => ?_⟩⟩
  · refine hm.chg.block g (Nat.lt_of_lt_of_le hg hS.sz) (fun hf => ?_)
    rcases hf with e | e
    · exact h1 e
    · rcases hS.own g e with q | q
      · exact h2 q
      · omega
  · rw [hm.chg.block k (Array.getElem?_eq_some_iff.1 hk).1 (fun hf => ?_)]
    · exact hk
    · have hcs : ∃ cs t, Blk A k cs t := by
        rcases hf with rfl | e
        · exact ⟨_, _, hsh.d⟩
        · obtain ⟨cs, hb⟩ := c_owns_ty hsh.q e; exact ⟨cs, _, hb⟩
      obtain ⟨cs, t, hb⟩ := hcs
      unfold Blk at hb
      rw [hk] at hb
      cases hb
      cases ho
theorem Cst.step {av av' : Value} {aq' : List Nat} (h : Cst wS B D G vs m bad avS fr te wf aq A) (hsh : ShW A B D vs m bad av aq) (hS : CMq D avS wS av A) (hm : CMv D av A av' A') (hsh' : ShW A' B D vs m bad av' aq') : Cst wS B D G vs m bad avS fr te wf aq' A' :=
  ⟨⟨av', hsh', hS.trans hm⟩, hsh.keep hm h.b0 (by decide) (by decide), hsh.keep hm h.b1 (by decide) (by decide), hsh.keep hm h.b2 (by decide) (by decide), hsh.keep hm h.b3 (by decide) (by decide), h.gl, h.bl, h.rl, h.dl, h.al⟩
theorem ShW.out (h : ShW A B D vs m bad av aq) {F : Nat → Prop} (hc : Chg F A A') (hD : ¬ F D) (ha : ∀ g, av.ownBlock = some g → ¬ F g) (hv : ∀ v ∈ vs, ∀ g, v.ownBlock = some g → ¬ F g) : ShW A' B D vs m bad av aq :=
  ⟨h.d.chg hc hD, h.vl, h.ml, fun k v l hk hl => c_owns_chg (h.row k v l hk hl) hc (hv v (List.mem_of_getElem? hk)), c_owns_chg h.q hc ha, h.lo, h.bad⟩
theorem ShW.row_ne (h : ShW A B D vs m bad av aq) {g : Nat} {cs : List Value} {t : TypeId} (hb : Blk A g cs t) (ht : t ≠ 5) : ∀ v ∈ vs, ∀ k, v.ownBlock = some k → ¬ k = g := fun v hv k hk e => by
  subst e
  obtain ⟨i, hi, he⟩ := List.getElem_of_mem hv
  have him : i < m.length := by rw [h.ml]; rw [h.vl] at hi; exact hi
  exact c_own_ne (h.row i v m[i] (by rw [List.getElem?_eq_getElem hi, he]) (List.getElem?_eq_getElem him)) hb ht hk
/-- A store into a block of another kind that was made since. -/
theorem Cst.out (h : Cst wS B D G vs m bad avS fr te wf aq A) {F : Nat → Prop} (hc : Chg F A A') (hF : ∀ g, F g → wS.w.heap.size ≤ g) (ha : ∀ av, ShW A B D vs m bad av aq → (∀ g, av.ownBlock = some g → avS.ownBlock = some g ∨ wS.n ≤ g) → ∀ g, av.ownBlock = some g → ¬ F g)
    (hn : ∀ g cs t, Blk A g cs t → t = 49 ∨ t = 23 ∨ t = 54 → ¬ F g) : Cst wS B D G vs m bad avS fr te wf aq A' := by
  obtain ⟨av, h1, h2⟩ := h.sh
  exact ⟨⟨av, h1.out hc (fun hf => by have := hF _ hf; have := h.dl; omega) (ha av h1 h2.own) (fun v hv g hg hf => by have := hF _ hf; have := h.rl v hv g hg; omega), ⟨h2.chg.trans hc (fun i hi => .inr (hF i hi)), h2.own, Nat.le_trans h2.sz hc.size, h2.ws⟩⟩, h.b0.chg hc (hn _ _ _ h.b0 (.inl rfl)), h.b1.chg hc (hn _ _ _ h.b1 (.inr (.inl rfl))), h.b2.chg hc (hn _ _ _ h.b2 (.inr (.inl rfl))), h.b3.chg hc (hn _ _ _ h.b3 (.inr (.inr rfl))), h.gl, h.bl, h.rl, h.dl, h.al⟩
/-- Is a type one that the iterator's boxes have not? -/
def okT (t : TypeId) : Bool := t != 49 && t != 23 && t != 54
theorem okT_ne {t : TypeId} (h : okT t = true) : ¬ (t = 49 ∨ t = 23 ∨ t = 54) := by
  simp [okT] at h
  rintro (e | e | e)
  · exact h.1.1 e
  · exact h.1.2 e
  · exact h.2 e
theorem Cst.setG (h : Cst wS B D G vs m bad avS fr te wf aq A) {g : Nat} {cs : List Value} {t : TypeId} (hb : Blk A g cs t) (h1 : okT t = true) (h2 : g < wS.n ∨ t ≠ 34) (hg : wS.w.heap.size ≤ g) {A' : World} (hc : Chg (fun k => k = g) A A') : Cst wS B D G vs m bad avS fr te wf aq A' :=
  h.out hc (fun k e => by have e : k = g := e; omega) (fun av' k1' ho k hk e => by
    have e : k = g := e
    subst e
    rcases h2 with h2 | h2
    · rcases ho k hk with q | q
      · have := h.al k q; omega
      · omega
    · exact c_own_ne k1'.q hb h2 hk)
    (fun k cs' t' hb' ht e => by
      have e : k = g := e
      subst e
      have := hb.same hb'
      subst this
      exact okT_ne h1 ht)
theorem Cst.set (h : Cst wS B D G vs m bad avS fr te wf aq A) {g : Nat} {cs : List Value} {t : TypeId} (hb : Blk A g cs t) (h1 : okT t = true) (h2 : g < wS.n ∨ t ≠ 34) (hg : wS.w.heap.size ≤ g) (j : Nat) (v : Value) : Cst wS B D G vs m bad avS fr te wf aq (A.setCell ⟨g, j, none⟩ v) :=
  h.setG hb h1 h2 hg (chg1 A g j v)
theorem Kps.set (h : Kps D avS wS A A') {g : Nat} {cs : List Value} {t : TypeId} (hb : Blk A' g cs t) (hg : A.heap.size ≤ g) (hs : wS.n ≤ A.heap.size) (j : Nat) (v : Value) : Kps D avS wS A (A'.setCell ⟨g, j, none⟩ v) := by
  have hc := chg1 A' g j v
  refine ⟨Nat.le_trans h.size hc.size, fun k hk h1 h2 => ?_, fun k cs' t' hb' h1 h2 => ?_, ?_⟩
  · rw [hc.block k (by have := h.size; omega) (fun e => by have e : k = g := e; omega)]
    exact h.old k hk h1 h2
  · exact (h.new k cs' t' hb' h1 h2).chg hc (fun e => by have e : k = g := e; have := hb'.lt; omega)
  · refine h.from_.trans ⟨hc.size, fun k o _ hk ho => ?_⟩
    rw [hc.block k (Array.getElem?_eq_some_iff.1 hk).1 (fun e => ?_)]
    · exact hk
    · have e : k = g := e
      subst e
      unfold Blk at hb
      rw [hk] at hb
      cases hb
      cases ho
/-- A block that is no cells has turned. -/
theorem blk_grown {row : Option Nat} (hg : A.grownBy A' row) (hr : ∀ r, row = some r → ∃ o : Obj, A.heap[r]? = some o ∧ o.isCells = false) {g : Nat} {cs : List Value} {t : TypeId} (h : Blk A g cs t) : Blk A' g cs t := by
  unfold Blk
  rw [hg.block g h.lt (fun e => ?_)]
  · exact h
  · obtain ⟨o, h1, h2⟩ := hr g e.symm
    have h' : A.heap[g]? = some (.cells cs.toArray t (0, 0)) := h
    rw [h'] at h1
    cases h1
    cases h2
theorem chg_grown {row : Option Nat} (hg : A.grownBy A' row) : Chg (fun g => row = some g) A A' := (Chg.refl _ A).grown hg (fun k e => .inl e)
theorem Kp0.grown {row : Option Nat} (hg : A.grownBy A' row) (hr : ∀ r, row = some r → wS.n ≤ r ∧ ∃ o : Obj, A.heap[r]? = some o ∧ o.isCells = false) (hs : wS.n ≤ A.heap.size) : Kp0 D avS wS A A' :=
  ⟨hg.size, fun g hk _ _ => hg.block g (by omega) (fun e => by have := (hr g e.symm).1; omega), fun g cs t hb _ _ => blk_grown hg (fun r e => (hr r e).2) hb⟩
theorem Cst.grown (h : Cst wS B D G vs m bad avS fr te wf aq A) {row : Option Nat} (hg : A.grownBy A' row) (hr : ∀ r, row = some r → wS.n ≤ r ∧ ∃ o : Obj, A.heap[r]? = some o ∧ o.isCells = false) : Cst wS B D G vs m bad avS fr te wf aq A' := by
  have hno : ∀ {g : Nat} {cs : List Value} {t : TypeId}, Blk A g cs t → ¬ (row = some g) := fun {g cs t} hb e => by
    obtain ⟨_, o, h1, h2⟩ := hr g e
    unfold Blk at hb
    rw [hb] at h1
    cases h1
    cases h2
  obtain ⟨av, k1, k2⟩ := h.sh
  refine h.out (chg_grown hg) (fun g e => Nat.le_trans k2.ws (hr g e).1) (fun av' k1' _ g hk => ?_) (fun g cs t hb _ => hno hb)
  obtain ⟨cs, hb⟩ := c_owns_ty k1'.q hk
  exact hno hb
theorem Cst.below (h : Cst wS B D G vs m bad avS fr te wf aq A) (hb : Below A.heap.size A A') : Cst wS B D G vs m bad avS fr te wf aq A' := by
  obtain ⟨av, h1, h2⟩ := h.sh
  exact h.step h1 h2 (CMv.of_below _ _ hb) (h1.below hb)
end
end Go.Proofs.Ythionhliokhcgaa
