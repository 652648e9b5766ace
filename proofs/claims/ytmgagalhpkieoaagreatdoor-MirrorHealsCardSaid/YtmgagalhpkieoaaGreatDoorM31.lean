/- A drawn region within a round of a range over a function: walked by a schedule, as everywhere. -/
import Derived.Test.YtmgagalhpkieoaaGreatDoorM30
namespace Go.Proofs.YtmgagalhpkieoaaGreatDoor
open Go.RowKit

theorem upon_inRound {P : Program} {o : Oper} {a : Act} {K : Act → World → Prop} {Q : Exit → Act → World → Prop} (l n : Nat) : ∀ r : Result Next, o.upon P a K Q r → o.uponIn (Fence.wide.inRound l) n P a K Q r
  | .ok (.value _) _, h => h
  | .ok .skip _, h => h
  | .ok (.defer _) _, h => h
  | .ok (.enter _ _) _, h => ⟨fun hd => (by cases hd), CallsIn.inRound l (callsIn_wide.2 h)⟩
  | .ok (.row _ _) _, h => ⟨fun hd => (by cases hd), fun c cs _ => let ⟨v, w', r, s⟩ := h c cs; ⟨v, w', r, stepsIn_wide.2 s⟩⟩
  | .halt (.panic _) _, h => h
theorem wpOp_inRound {P : Program} {ops : Array Oper} {i : Nat} {a : Act} {w : World} {K : Act → World → Prop} {Q : Exit → Act → World → Prop} (l n : Nat) (hd : ∀ o : Oper, ops[i]? = some o → ∀ c, o.op ≠ .defer c) (hQ : ¬ LetsOut Q) (h : wpOp P ops Q i K a w) : wpOpIn (Fence.wide.inRound l) n P ops Q i K a w := by
  unfold wpOp at h
  unfold wpOpIn
  cases ho : ops[i]? with
  | none => rw [ho] at h; exact h
  | some o =>
    rw [ho] at h
    simp only at h ⊢
    by_cases hw : Region.wanted o (yielded ops a.tmps) = true
    · rw [if_pos hw] at h ⊢
      rcases h with h | h
      · refine ⟨fun _ _ => trivial, ?_⟩
        rw [show (Fence.wide.inRound l).round = some l from rfl, Oper.semAt_some l a.eval o (hd o ho)]
        exact upon_inRound l n _ h
      · exact absurd h.2 hQ
    · rw [if_neg hw] at h ⊢
      exact ⟨fun _ _ => trivial, h⟩
theorem wpAny_inRound {P : Program} {md : Region.Mode} {ops : Array Oper} {Q : Exit → Act → World → Prop} (l n : Nat) (hd : ∀ (i : Nat) (o : Oper), ops[i]? = some o → ∀ c, o.op ≠ .defer c) (hQ : ¬ LetsOut Q) : ∀ (fuel : Nat) (listed : Array Bool) (a : Act) (w : World), wpAny P md ops Q fuel listed a w → wpAnyIn (Fence.wide.inRound l) n P md ops Q fuel listed a w
  | 0, _, _, _, h => h
  | fuel + 1, listed, _, _, h => ⟨h.1, fun i hi => wpOpIn_mono (fun a' w' h' => wpAny_inRound l n hd hQ fuel _ a' w' h') (wpOp_inRound l n (hd i) hQ (h.2 i hi))⟩
/-- Has a region no defer statement? -/
def noDefer (ops : Array Oper) : Bool := ops.all fun (o : Oper) => match o.op with | .defer _ => false | _ => true
theorem noDefer_at {ops : Array Oper} (h : noDefer ops = true) : ∀ (i : Nat) (o : Oper), ops[i]? = some o → ∀ c, o.op ≠ .defer c := fun i o ho c e => by
  unfold noDefer at h
  rw [Array.all_eq_true'] at h
  have := h o (Array.mem_of_getElem? ho)
  rw [e] at this
  cases this
theorem wpIn_region_sched {P : Program} {ops : Array Oper} {Q : Exit → Act → World → Prop} {n r : Nat} {id : Nat} {a : Act} {w : World} (l : Tr) (hm : P.follows .mixedOrders = true) (hB : schedB ops l = true) (hd : noDefer ops = true) (hQ : ∀ d v c a w, Q (.panic c) (a.put d v) w → Q (.panic c) a w) (hL : ¬ LetsOut Q)
    (S : World → Prop) (hS : S w.drew) (h : wpG P ops Q l S a w.drew) : (Code.region id ops true).wpIn (Fence.wide.inRound r) n P Q a w := by
  simp only [schedB, Bool.and_eq_true, beq_iff_eq] at hB
  refine wpIn_region_any hm ?_
  have := wpAnyH_of_sched (P := P) hB.1 hQ l (Array.replicate ops.size false) S a w.drew hB.2.2 hS h
  rw [hB.2.1] at this
  exact wpAny_inRound r n (noDefer_at hd) hL _ _ _ _ (wpAny_of_held _ _ _ _ this)
end Go.Proofs.YtmgagalhpkieoaaGreatDoor
