/- A range over a function that keeps memory of its own from round to round: the body turns nothing of what was made since the range began. -/
import Derived.RangeFuncWrites
import Derived.RangeFuncNested
import Derived.Test.YtoceedfjfjobdaaMem
import Derived.Test.YtoceedfjfjobdaaChg
namespace Go.Proofs.Ytoceedfjfjobdaa
open Go.RowKit

variable {F : Fence} {n : Nat} {P : Program}

/-- All that lies from B on is as it was. -/
structure KA (B : Nat) (A A' : World) : Prop where
  size : A.heap.size ≤ A'.heap.size
  same : ∀ (k : Nat) (o : Obj), B ≤ k → A.heap[k]? = some o → A'.heap[k]? = some o
/-- All cells from B on are as they were. -/
structure KC (B : Nat) (A A' : World) : Prop where
  size : A.heap.size ≤ A'.heap.size
  same : ∀ (k : Nat) (o : Obj), B ≤ k → A.heap[k]? = some o → o.isCells = true → A'.heap[k]? = some o
theorem KA.kf {B : Nat} {A A' : World} (h : KA B A A') : KeepsFrom B A A' := ⟨h.size, fun k o hk ho _ => h.same k o hk ho⟩
theorem KA.kc {B : Nat} {A A' : World} (h : KA B A A') : KC B A A' := ⟨h.size, fun k o hk ho _ => h.same k o hk ho⟩
theorem KA.refl (B : Nat) (A : World) : KA B A A := ⟨Nat.le_refl _, fun _ _ _ h => h⟩
theorem KA.trans {B : Nat} {A A' A2 : World} (h : KA B A A') (k : KA B A' A2) : KA B A A2 := ⟨Nat.le_trans h.size k.size, fun i o hi ho => k.same i o hi (h.same i o hi ho)⟩
theorem KC.trans {B : Nat} {A A' A2 : World} (h : KC B A A') (k : KC B A' A2) : KC B A A2 := ⟨Nat.le_trans h.size k.size, fun i o hi ho hc => k.same i o hi (h.same i o hi ho hc) hc⟩
theorem KA.of_chg {B : Nat} {F : Nat → Prop} {A A' : World} (h : Chg F A A') (hF : ∀ k, F k → k < B) : KA B A A' := ⟨h.size, fun k o hk ho => by
  rw [h.block k (Array.getElem?_eq_some_iff.1 ho).1 (fun hf => by have := hF k hf; omega)]; exact ho⟩
theorem KC.put {B r : Nat} {A : World} {o o' : Obj} (h : A.heap[r]? = some o) (hc : o.isCells = false) : KC B A (A.putObj r o') := ⟨by simp [World.putObj], fun k u _ hu hk => by
  by_cases e : k = r
  · subst e; rw [h] at hu; cases hu; rw [hc] at hk; cases hk
  · rw [World.putObj_heap_other e]; exact hu⟩
/-- How a round may be left. -/
def rndPostA {α : Type} (B : Nat) (I : List α → World → Prop) (Ix : Code → List α → World → Prop) (xs : List α) (W : World) : Exit → Act → World → Prop
  | .normal, _, W' => KA B W W' ∧ I xs W'
  | .ret, _, W' => KA B W W' ∧ Ix .ret xs W'
  | .exit id, _, W' => KA B W W' ∧ Ix (.exit id) xs W'
  | .goto t, _, W' => KA B W W' ∧ Ix (.goto t) xs W'
  | .panic _, _, _ => False
  | .outgrown, _, _ => False
/-- What is asked of the iterator: it hands values on one behind the other, I1 of each; what lies in others' keeping (R) stays, as cells alone are turned. -/
def SeqK {α : Type} (F : Fence) (n : Nat) (P : Program) (gf : Nat) (lb : Array Value) (encs : α → Array Value) (B : Nat) (S Sp : List α → Prop) (I : List α → World → Prop) (I1 : List α → α → World → Prop) : Prop :=
  ∀ (l : Nat) (R : World → Prop) (Jx : List α → World → Prop) (W : World), (∀ A A', R A → KeepsFrom B A A' → R A') →
    (∀ pre x A, I1 pre x A → R A → YieldAt F (n - 1) P l (encs x) A fun e A' => (e = .returned (.bool true) ∧ I (pre ++ [x]) A' ∧ R A' ∧ KC B A A') ∨ (e = .returned (.bool false) ∧ Jx (pre ++ [x]) A')) →
    I [] W → R W → CallsIn F n P gf (#[.func (.yield l) #[] #[]] ++ lb) W fun e W' => (∃ v, e = .returned v) ∧ ((∃ ys, S ys ∧ I ys W' ∧ R W') ∨ (∃ pre, Sp pre ∧ Jx pre W'))
theorem wpIn_rangeFunc_k {α : Type} {g : Operand} {ps : Array Tmp} {assign body : Code} {Q : Exit → Act → World → Prop} {a : Act} {w : World}
    (hro : F.round = none) (h1 : 1 ≤ n) {gf : Nat} {lb : Array Value} (hg : a.eval g = .func (.func gf) #[] lb) (hFg : F.fn gf) (eg : ∀ args w, (callFunc gf args).run P w = .ok (.enter gf args) w)
    {encs : α → Array Value} {S Sp : List α → Prop} (hps : ∀ x, (encs x).size = ps.size)
    (I : List α → World → Prop) (I1 : List α → α → World → Prop) (I2 : List α → α → Act → World → Prop) (Ix : Code → List α → World → Prop)
    (hI : OwnFrom w.heap.size I) (hI2 : OwnFrom w.heap.size (fun (p : List α × α × Act) W => I2 p.1 p.2.1 p.2.2 W)) (hIx : ∀ c, OwnFrom w.heap.size (Ix c)) (h0 : I [] w)
    (hseq : SeqK F (n - 1) P gf lb encs w.heap.size S Sp I I1)
    (hassign : ∀ (l : Nat) (pre : List α) (x : α) (W : World) (K : Act → World → Prop), I1 pre x W → (∀ a' W', KA w.heap.size W W' → I2 pre x a' W' → K a' W') →
      assign.wpIn (F.inRound l) (n - 1 - 1) P (Exit.then K (fun _ _ _ => False)) { tmps := (ps.zip (encs x)).foldl (fun t (p, v) => t.setIfInBounds p v) a.tmps, defers := [] } W)
    (hbody : ∀ (l : Nat) (pre : List α) (x : α) (a' : Act) (W : World), I2 pre x a' W → body.wpIn (F.inRound l) (n - 1 - 1) P (rndPostA w.heap.size I Ix (pre ++ [x]) W) a' W)
    (hdone : ∀ (D : Nat) (xs : List α) (W : World), w.heap.size ≤ D → S xs → I xs W → W.heap[D]? = some (.deferred (some [])) → Q .normal { a with defers := { target := .collected D, args := #[] } :: a.defers } W)
    (hstop : ∀ (D : Nat) (c : Code) (pre : List α) (W : World), w.heap.size ≤ D → Sp pre → Ix c pre W → W.heap[D]? = some (.deferred (some [])) → c.wpIn F n P Q { a with defers := { target := .collected D, args := #[] } :: a.defers } W) :
    (Code.rangeFunc g ps assign body).wpIn F n P Q a w := by
  refine wpIn_rangeFunc fun fn hfn => ?_
  rw [hro]
  -- the loop's record in its states; what the law itself holds while rounds are made
  let rec0 : LoopState → Option Code → Obj := fun st pe => .loop { state := st, pending := pe, fn, tmps := a.tmps, params := ps, assign, body, defers := w.heap.size }
  let R0 : Obj → World → Prop := fun o X => X.heap[w.heap.size + 1]? = some o ∧ X.heap[w.heap.size]? = some (.deferred (some []))
  have hRk : ∀ (o : Obj), o.isCells = false → ∀ A A', R0 o A → KeepsFrom w.heap.size A A' → R0 o A' := fun o ho A A' h k => ⟨k.same _ _ (by omega) h.1 ho, k.same _ _ (Nat.le_refl _) h.2 rfl⟩
  have hput : ∀ (o o' : Obj) (A : World), R0 o A → R0 o' (A.putObj (w.heap.size + 1) o') := fun o o' A h =>
    ⟨World.putObj_heap_same (Array.getElem?_eq_some_iff.1 h.1).1, (World.putObj_heap_other (by omega)).trans h.2⟩
  have hstart : R0 (rec0 .ready none) ((w.alloc (.deferred (some []))).alloc (rec0 .ready none)) := by
    constructor
    · have := World.alloc_heap_new (w.alloc (.deferred (some []))) (rec0 .ready none); rwa [World.size_alloc] at this
    · exact (Below.heap_alloc _ _ _ (by simp)).trans (World.alloc_heap_new w _)
  have hI1 : I [] ((w.alloc (.deferred (some []))).alloc (rec0 .ready none)) := hI.alloc _ (hI.alloc _ h0)
  refine ⟨w.heap.size + 1, [{ target := .collected w.heap.size, args := #[] }], (w.alloc (.deferred (some []))).alloc (rec0 .ready none), { target := .fn (.func gf) lb, args := #[.func (.yield (w.heap.size + 1)) #[] #[]] }, (w.alloc (.deferred (some []))).alloc (rec0 .ready none), gf,
    #[.func (.yield (w.heap.size + 1)) #[] #[]] ++ lb, (w.alloc (.deferred (some []))).alloc (rec0 .ready none), run_enterLoop_outer _ _ _ _ _, ?_, ?_, ?_, fun _ => h1, ?_⟩
  · simp only [resolve, hg]
    simp [go_sem]
  · intro f' hf'; simp [Target.leads] at hf'; subst hf'; exact hFg
  · simp [invoke, go_sem, eg]
  · refine (hseq (w.heap.size + 1) (R0 (rec0 .ready none)) (fun pre X => ∃ c, Ix c pre X ∧ R0 (rec0 .done (some c)) X) _ (hRk _ rfl) ?_ hI1 hstart).mono ?_
    · -- a round
      intro pre x A hA hR
      refine ⟨fn, _, assign, body, run_yield hR.1 (hps x), roundIn_of_wpIn hfn (hassign _ pre x A _ hA fun a' A1 hk1 hA1 => ?_)⟩
      have hR1 := hRk _ rfl _ _ hR hk1.kf
      refine ⟨_, run_beginRound hR1.1 rfl, ?_⟩
      have hR2 := hput _ (rec0 .busy none) _ hR1
      refine wpIn_mono (hbody _ pre x a' _ (hI2.putObj (s := (pre, x, a')) _ hA1 (by omega) hR1.1 rfl)) ?_
      intro e a3 A3 hp
      have fin : ∀ (j : Option Code), KA w.heap.size (A1.putObj (w.heap.size + 1) (rec0 .busy none)) A3 → R0 (rec0 .busy none) A3 ∧
          (Instr.endRound (w.heap.size + 1) j).run P A3 = .ok (.bool j.isNone) (A3.putObj (w.heap.size + 1) (rec0 (if j.isNone then .ready else .done) j)) := fun j hk =>
        have h3 := hRk _ rfl _ _ hR2 hk.kf
        ⟨h3, run_endRound j h3.1⟩
      have out : ∀ (c : Code), KA w.heap.size (A1.putObj (w.heap.size + 1) (rec0 .busy none)) A3 → Ix c (pre ++ [x]) A3 → ∃ v A4, (Instr.endRound (w.heap.size + 1) (some c)).run P A3 = .ok v A4 ∧
          ((Ending.returned v = .returned (.bool true) ∧ I (pre ++ [x]) A4 ∧ R0 (rec0 .ready none) A4 ∧ KC w.heap.size A A4) ∨ (Ending.returned v = .returned (.bool false) ∧ ∃ c, Ix c (pre ++ [x]) A4 ∧ R0 (rec0 .done (some c)) A4)) := fun c hk hx => by
        obtain ⟨h3, hr⟩ := fin (some c) hk
        exact ⟨_, _, hr, .inr ⟨rfl, c, (hIx c).putObj _ hx (by omega) h3.1 rfl, hput _ _ _ h3⟩⟩
      match e, hp with
      | .normal, hp =>
        obtain ⟨h3, hr⟩ := fin none hp.1
        exact ⟨_, _, hr, .inl ⟨rfl, hI.putObj _ hp.2 (by omega) h3.1 rfl, hput _ _ _ h3, ((hk1.kc.trans (KC.put hR1.1 rfl)).trans hp.1.kc).trans (KC.put h3.1 rfl)⟩⟩
      | .ret, hp => exact out .ret hp.1 hp.2
      | .exit id, hp => exact out (.exit id) hp.1 hp.2
      | .goto t, hp => exact out (.goto t) hp.1 hp.2
      | .panic _, hp => exact hp.elim
      | .outgrown, hp => exact hp.elim
    · -- behind the iterator
      rintro e W2 ⟨⟨v, rfl⟩, (⟨ys, hS, hi, hR⟩ | ⟨pre, hSp, c, hi, hR⟩)⟩
      · exact ⟨none, _, run_endLoop hR.1 (by simp), hdone _ ys _ (Nat.le_refl _) hS (hI.putObj _ hi (by omega) hR.1 rfl) (hput _ (rec0 .exhausted none) _ hR).2⟩
      · exact ⟨some c, _, run_endLoop hR.1 (by simp), hstop _ c pre _ (Nat.le_refl _) hSp ((hIx c).putObj _ hi (by omega) hR.1 rfl) (hput _ (rec0 .exhausted (some c)) _ hR).2⟩
end Go.Proofs.Ytoceedfjfjobdaa
