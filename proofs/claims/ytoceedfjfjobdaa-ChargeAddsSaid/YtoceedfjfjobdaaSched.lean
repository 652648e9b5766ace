/- A region that draws its order, walked once by a schedule that is laid ahead: what only looks is taken first, in whatever world that meets S; what makes memory or calls comes up alone, one behind the other; behind each such operation S may be told anew, stronger. -/
import Derived.WalkKit
import Derived.OrdersHeld
import Derived.Lib.Hide
namespace Go.Proofs.Ytoceedfjfjobdaa
open Go.RowKit
section
variable {P : Program} {ops : Array Oper} {Q : Exit → Act → World → Prop} {md : Region.Mode} {S S' : World → Prop}

theorem wpAnyH_weaken (h : ∀ w, S' w → S w) : ∀ (fuel : Nat) (listed : Array Bool) (a : Act) (w : World), wpAnyH P md ops Q S' fuel listed a w → wpAnyH P md ops Q S fuel listed a w
  | 0, _, _, _, hh => hh
  | fuel + 1, _, _, _, hh => ⟨hh.1, fun i hi => wpOp_mono (fun a' w' h' => ⟨h _ h'.1, wpAnyH_weaken h fuel _ a' w' h'.2⟩) (hh.2 i hi)⟩

/-- A schedule: what is taken first; what comes up alone; where two may come up. -/
inductive Tr where
  | nil
  | take (i : Nat) (r : Tr)
  | step (i : Nat) (r : Tr)
  | fork (i : Nat) (r : Tr) (j : Nat) (s : Tr)
def Tr.len : Tr → Nat
  | .nil => 0
  | .take _ r | .step _ r | .fork _ r _ _ => r.len + 1
/-- The walk by a schedule. -/
def wpG (P : Program) (ops : Array Oper) (Q : Exit → Act → World → Prop) : Tr → (World → Prop) → Act → World → Prop
  | .nil, _, a, w => Q .normal a w
  | .take i r, S, a, w => ∃ o v, ops[i]? = some o ∧ YieldsIf P ops S o v a ∧ wpG P ops Q r S (a.put o.dst v) w
  | .step i r, S, a, w => wpOp P ops Q i (fun a' w' => S w' ∧ ∃ S' : World → Prop, (∀ w, S' w → S w) ∧ S' w' ∧ wpG P ops Q r S' a' w') a w
  | .fork i r j s, S, a, w => wpOp P ops Q i (fun a' w' => S w' ∧ ∃ S' : World → Prop, (∀ w, S' w → S w) ∧ S' w' ∧ wpG P ops Q r S' a' w') a w ∧
      wpOp P ops Q j (fun a' w' => S w' ∧ ∃ S' : World → Prop, (∀ w, S' w → S w) ∧ S' w' ∧ wpG P ops Q s S' a' w') a w

/-- Is the schedule one of this region? -/
def schedFrom (ops : Array Oper) : Tr → Array Bool → Bool
  | .nil, listed => Region.ready .any ops listed == []
  | .take i r, listed => Region.free .any ops listed i && ((Region.ready .any ops listed).contains i && schedFrom ops r (listed.setIfInBounds i true))
  | .step i r, listed => Region.ready .any ops listed == [i] && schedFrom ops r (listed.setIfInBounds i true)
  | .fork i r j s, listed => Region.ready .any ops listed == [i, j] && (r.len == s.len && (schedFrom ops r (listed.setIfInBounds i true) && schedFrom ops s (listed.setIfInBounds j true)))
def schedB (ops : Array Oper) (l : Tr) : Bool := Region.noSelect ops && (l.len == ops.size && schedFrom ops l (Array.replicate ops.size false))

theorem wpAnyH_of_sched (hs : Region.noSelect ops = true) (hQ : ∀ d v c a w, Q (.panic c) (a.put d v) w → Q (.panic c) a w) :
    ∀ (l : Tr) (listed : Array Bool) (S : World → Prop) (a : Act) (w : World), schedFrom ops l listed = true → S w → wpG P ops Q l S a w → wpAnyH P .any ops Q S l.len listed a w
  | .nil, listed, S, a, w, hb, _, h => wpAnyH_done (by simpa [schedFrom] using hb) h 0
  | .take i r, listed, S, a, w, hb, hS, h => by
    obtain ⟨o, v, hi, hy, h'⟩ := h
    simp only [schedFrom, Bool.and_eq_true] at hb
    exact wpAnyH_take hi hs hb.1 hb.2.1 (fun c a w => hQ _ _ c a w) hy hS (wpAnyH_of_sched hs hQ r _ S _ w hb.2.2 hS h')
  | .step i r, listed, S, a, w, hb, hS, h => by
    simp only [schedFrom, Bool.and_eq_true, beq_iff_eq] at hb
    refine wpAnyH_all hb.1 (by simp) (fun j hj => ?_)
    obtain rfl : j = i := by simpa using hj
    exact wpOp_mono (fun a' w' ⟨h1, S', h2, h3, h4⟩ => ⟨h1, wpAnyH_weaken h2 _ _ _ _ (wpAnyH_of_sched hs hQ r _ S' a' w' hb.2 h3 h4)⟩) h
  | .fork i r k s, listed, S, a, w, hb, hS, h => by
    simp only [schedFrom, Bool.and_eq_true, beq_iff_eq] at hb
    obtain ⟨hb1, hb2, hb3, hb4⟩ := hb
    refine wpAnyH_all hb1 (by simp) (fun j hj => ?_)
    have hj' : j = i ∨ j = k := by simpa using hj
    rcases hj' with rfl | rfl
    · exact wpOp_mono (fun a' w' ⟨h1, S', h2, h3, h4⟩ => ⟨h1, wpAnyH_weaken h2 _ _ _ _ (wpAnyH_of_sched hs hQ r _ S' a' w' hb3 h3 h4)⟩) h.1
    · show wpOp P ops Q _ (fun a' w' => S w' ∧ wpAnyH P .any ops Q S r.len _ a' w') a w
      rw [hb2]
      exact wpOp_mono (fun a' w' ⟨h1, S', h2, h3, h4⟩ => ⟨h1, wpAnyH_weaken h2 _ _ _ _ (wpAnyH_of_sched hs hQ s _ S' a' w' hb4 h3 h4)⟩) h.2

theorem wp_region_sched {id : Nat} {a : Act} {w : World} (l : Tr) (hm : P.follows .mixedOrders = true) (hB : schedB ops l = true) (hQ : ∀ d v c a w, Q (.panic c) (a.put d v) w → Q (.panic c) a w)
    (S : World → Prop) (hS : S w.drew) (h : wpG P ops Q l S a w.drew) : (Code.region id ops true).wp P Q a w := by
  simp only [schedB, Bool.and_eq_true, beq_iff_eq] at hB
  refine wp_region_held (S := S) hm ?_
  have := wpAnyH_of_sched (P := P) hB.1 hQ l (Array.replicate ops.size false) S a w.drew hB.2.2 hS h
  rw [hB.2.1] at this
  exact this

/-- What is asked behind an operation that comes up. -/
def Behind (Q : Exit → Act → World → Prop) (K : Act → World → Prop) (e : Exit) (a : Act) (w : World) : Prop := match e with | .normal => K a w | e => Q e a w
theorem letsOut_behind {K : Act → World → Prop} (h : LetsOut (Behind Q K)) : LetsOut Q := h
theorem wp_of_behind {o : Oper} {a : Act} {w : World} {K : Act → World → Prop} (h : o.wp P a w K (Behind Q K)) : o.wp P a w K Q := by
  unfold Oper.wp at *
  generalize (execOp a.eval o).run P w = r at *
  cases r with
  | ok n w' =>
    cases n <;> simp only [Oper.upon] at h ⊢ <;> first | exact h | exact Calls.mono h (fun e w'' he => by cases e <;> exact he)
  | halt x w' => cases x <;> simp only [Oper.upon] at h ⊢ <;> exact h
theorem wpOp_of_list {i : Nat} {o : Oper} {a : Act} {w : World} {K : Act → World → Prop} (hi : ops[i]? = some o) (h : wpList P ops (Behind Q K) [o] a w) : wpOp P ops Q i K a w := by
  unfold wpOp
  simp only [hi]
  have e : wpList P ops (Behind Q K) [] = K := by funext a w; rfl
  unfold wpList at h
  rw [e] at h
  split
  · rename_i hw
    rw [if_pos hw] at h
    exact h.imp wp_of_behind (fun ⟨h1, h2⟩ => ⟨h1, letsOut_behind h2⟩)
  · rename_i hw
    rw [if_neg hw] at h
    exact h

theorem of_list {i : Nat} {o : Oper} (h : ops.toList[i]? = some o) : ops[i]? = some o := by simpa using h
/-- Taken first: its value in every world that meets S. -/
theorem wpG_take {i : Nat} {r : Tr} {a : Act} {w : World} (o : Oper) (v : Value) (hi : ops.toList[i]? = some o) (hw : Region.wanted o (yielded ops a.tmps) = true) (hv : ∀ w, S w → (execOp a.eval o).run P w = .ok (.value v) w)
    (h : wpG P ops Q r S (a.put o.dst v) w) : wpG P ops Q (.take i r) S a w := ⟨o, v, of_list hi, .inl ⟨hw, hv⟩, h⟩
/-- Taken first: its guard is not met. -/
theorem wpG_pass {i : Nat} {r : Tr} {a : Act} {w : World} (o : Oper) (hi : ops.toList[i]? = some o) (hw : Region.wanted o (yielded ops a.tmps) = false)
    (h : wpG P ops Q r S (a.put o.dst undef) w) : wpG P ops Q (.take i r) S a w := ⟨o, undef, of_list hi, .inr ⟨hw, rfl⟩, h⟩
/-- It comes up alone: walked as a text of its own. -/
theorem wpG_step {i : Nat} {r : Tr} {a : Act} {w : World} (o : Oper) (hi : ops.toList[i]? = some o)
    (h : ∀ K : Act → World → Prop, (∀ a' w' (S' : World → Prop), (∀ w, S' w → S w) → S' w' → wpG P ops Q r S' a' w' → K a' w') → wpList P ops (Behind Q K) [o] a w) : wpG P ops Q (.step i r) S a w :=
  wpOp_of_list (of_list hi) (h _ fun _ _ S' h1 h2 h3 => ⟨h1 _ h2, S', h1, h2, h3⟩)
/-- .. whatever its guard, where that is met. -/
theorem wpG_bare {i : Nat} {r : Tr} {a : Act} {w : World} (o : Oper) (hi : ops.toList[i]? = some o) (hw : Region.wanted o (yielded ops a.tmps) = true)
    (h : ∀ K : Act → World → Prop, (∀ a' w' (S' : World → Prop), (∀ w, S' w → S w) → S' w' → wpG P ops Q r S' a' w' → K a' w') → wpList P ops (Behind Q K) [{ o with guard := none }] a w) : wpG P ops Q (.step i r) S a w :=
  wpG_step o hi fun K hK => by
    have h1 := h K hK
    unfold wpList at h1 ⊢
    rw [if_pos hw]
    rw [if_pos (by simp [Region.wanted])] at h1
    exact h1
/-- A call comes up: met by a contract. -/
theorem wpG_call {i : Nat} {r : Tr} {a : Act} {w : World} (o : Oper) (hi : ops.toList[i]? = some o) (hw : Region.wanted o (yielded ops a.tmps) = true) (f : FuncId) (args : Array Value) (hrun : ∀ w, (execOp a.eval o).run P w = .ok (.enter f args) w)
    (C : Value → World → Prop) (hc : Calls P f args w fun e w' => ∃ v, e = .returned v ∧ S w' ∧ C v w') (h : ∀ v w', S w' → C v w' → ∃ S' : World → Prop, (∀ w, S' w → S w) ∧ S' w' ∧ wpG P ops Q r S' (a.put o.dst v) w') : wpG P ops Q (.step i r) S a w := by
  show wpOp P ops Q i _ a w
  unfold wpOp
  simp only [of_list hi]
  rw [if_pos hw]
  refine .inl ?_
  unfold Oper.wp
  rw [hrun w]
  exact hc.mono fun e w' ⟨v, e1, h1, h2⟩ => by subst e1; exact ⟨h1, h v w' h1 h2⟩
/-- A step whose guard is not met. -/
theorem wpG_skip {i : Nat} {r : Tr} {a : Act} {w : World} (o : Oper) (hi : ops.toList[i]? = some o) (hw : Region.wanted o (yielded ops a.tmps) = false) (hS : S w) (h : wpG P ops Q r S (a.put o.dst undef) w) : wpG P ops Q (.step i r) S a w := by
  show wpOp P ops Q i _ a w
  unfold wpOp
  simp only [of_list hi]
  rw [if_neg (by simp [hw])]
  exact ⟨hS, S, fun _ h => h, hS, h⟩
theorem wpG_nil {a : Act} {w : World} (h : Q .normal a w) : wpG P ops Q .nil S a w := h
theorem wpG_fork {i j : Nat} {r s : Tr} {a : Act} {w : World} (h1 : wpG P ops Q (.step i r) S a w) (h2 : wpG P ops Q (.step j s) S a w) : wpG P ops Q (.fork i r j s) S a w := ⟨h1, h2⟩
/-- What S says may be told anew, stronger. -/
theorem wpG_list_nil {a : Act} {w : World} {K : Act → World → Prop} (h : K a w) : wpList P ops (Behind Q K) [] a w := h
end
end Go.Proofs.Ytoceedfjfjobdaa
