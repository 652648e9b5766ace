/- Charge: each; what stands while its objects are gone through. -/
import Derived.Test.YtoceedfjfjobdaaGi
namespace Go.Proofs.Ytoceedfjfjobdaa
open Go.RowKit Go.Shelf

attribute [local go_sem] Oper.semAt_some

section
theorem c_upon {P : Program} {o : Oper} {a : Act} {K : Act → World → Prop} {Q : Exit → Act → World → Prop} (l n : Nat) : ∀ r : Result Next, o.upon P a K Q r → o.uponIn (Fence.wide.inRound l) n P a K Q r
  | .ok (.value _) _, h => h
  | .ok .skip _, h => h
  | .ok (.defer _) _, h => h
  | .ok (.enter _ _) _, h => ⟨fun hd => (by cases hd), CallsIn.inRound l (callsIn_wide.2 h)⟩
  | .ok (.row _ _) _, h => ⟨fun hd => (by cases hd), fun c cs _ => let ⟨v, w', r, s⟩ := h c cs; ⟨v, w', r, stepsIn_wide.2 s⟩⟩
  | .halt (.panic _) _, h => h
theorem c_opIn {P : Program} {o : Oper} {a : Act} {w : World} {K : Act → World → Prop} {Q : Exit → Act → World → Prop} (l n : Nat) (hd : ∀ c, o.op ≠ .defer c) (h : o.wp P a w K Q) : o.wpIn (Fence.wide.inRound l) n P a w K Q := by
  refine ⟨fun _ _ => trivial, ?_⟩
  rw [show (Fence.wide.inRound l).round = some l from rfl, Oper.semAt_some l a.eval o hd]
  exact c_upon l n _ h
theorem c_wpOp {P : Program} {ops : Array Oper} {i : Nat} {a : Act} {w : World} {K : Act → World → Prop} {Q : Exit → Act → World → Prop} (l n : Nat) (hd : ∀ o : Oper, ops[i]? = some o → ∀ c, o.op ≠ .defer c) (hQ : ¬ LetsOut Q) (h : wpOp P ops Q i K a w) : wpOpIn (Fence.wide.inRound l) n P ops Q i K a w := by
  unfold wpOp at h
  unfold wpOpIn
  cases ho : ops[i]? with
  | none => rw [ho] at h; exact h
  | some o =>
    rw [ho] at h
    simp only at h ⊢
    by_cases hw : Region.wanted o (yielded ops a.tmps) = true
    · rw [if_pos hw] at h ⊢
      rcases h with h | h
      · exact c_opIn l n (hd o ho) h
      · exact absurd h.2 hQ
    · rw [if_neg hw] at h ⊢
      exact ⟨fun _ _ => trivial, h⟩
theorem c_wpAny {P : Program} {md : Region.Mode} {ops : Array Oper} {Q : Exit → Act → World → Prop} (l n : Nat) (hd : ∀ (i : Nat) (o : Oper), ops[i]? = some o → ∀ c, o.op ≠ .defer c) (hQ : ¬ LetsOut Q) : ∀ (fuel : Nat) (listed : Array Bool) (a : Act) (w : World), wpAny P md ops Q fuel listed a w → wpAnyIn (Fence.wide.inRound l) n P md ops Q fuel listed a w
  | 0, _, _, _, h => h
  | fuel + 1, listed, _, _, h => ⟨h.1, fun i hi => wpOpIn_mono (fun a' w' h' => c_wpAny l n hd hQ fuel _ a' w' h') (c_wpOp l n (hd i) hQ (h.2 i hi))⟩
/-- Has a region no defer statement? -/
def noDef (ops : Array Oper) : Bool := ops.all fun (o : Oper) => match o.op with | .defer _ => false | _ => true
theorem noDef_at {ops : Array Oper} (h : noDef ops = true) : ∀ (i : Nat) (o : Oper), ops[i]? = some o → ∀ c, o.op ≠ .defer c := fun i o ho c e => by
  unfold noDef at h
  rw [Array.all_eq_true'] at h
  have := h o (Array.mem_of_getElem? ho)
  rw [e] at this
  cases this
/-- A region that draws, within a round. -/
theorem c_regionS {P : Program} {ops : Array Oper} {Q : Exit → Act → World → Prop} {n r : Nat} {id : Nat} {a : Act} {w : World} (l : Tr) (hm : P.follows .mixedOrders = true) (hB : schedB ops l = true) (hd : noDef ops = true) (hQ : ∀ d v c a w, Q (.panic c) (a.put d v) w → Q (.panic c) a w) (hL : ¬ LetsOut Q)
    (S : World → Prop) (hS : S w.drew) (h : wpG P ops Q l S a w.drew) : (Code.region id ops true).wpIn (Fence.wide.inRound r) n P Q a w := by
  simp only [schedB, Bool.and_eq_true, beq_iff_eq] at hB
  refine wpIn_region_any hm ?_
  have := wpAnyH_of_sched (P := P) hB.1 hQ l (Array.replicate ops.size false) S a w.drew hB.2.2 hS h
  rw [hB.2.1] at this
  exact c_wpAny r n (noDef_at hd) hL _ _ _ _ (wpAny_of_held _ _ _ _ this)
theorem c_listIn {P : Program} {ops : Array Oper} {Q : Exit → Act → World → Prop} (l n : Nat) (hL : ¬ LetsOut Q) : ∀ (rest : List Oper) (a : Act) (w : World), (∀ o ∈ rest, ∀ c, o.op ≠ .defer c) → wpList P ops Q rest a w → wpListIn (Fence.wide.inRound l) n P ops Q rest a w
  | [], _, _, _, h => h
  | o :: rest, a, w, hd, h => by
    unfold wpList at h
    unfold wpListIn
    by_cases hw : Region.wanted o (yielded ops a.tmps) = true
    · rw [if_pos hw] at h ⊢
      rcases h with h | h
      · exact c_opIn l n (hd o (by simp)) (Oper.wp_mono (fun a' w' h' => c_listIn l n hL rest a' w' (fun o ho => hd o (by simp [ho])) h') h)
      · exact absurd h.2 hL
    · rw [if_neg hw] at h ⊢
      exact ⟨fun _ _ => trivial, c_listIn l n hL rest _ _ (fun o ho => hd o (by simp [ho])) h⟩
/-- A region that draws nothing, within a round. -/
theorem c_regionL {P : Program} {ops : Array Oper} {Q : Exit → Act → World → Prop} {n r : Nat} (id : Nat) {a : Act} {w : World} (hd : noDef ops = true) (hL : ¬ LetsOut Q) (h : wpList P ops Q ops.toList a w) : (Code.region id ops false).wpIn (Fence.wide.inRound r) n P Q a w :=
  wpIn_region_list (c_listIn r n hL _ _ _ (fun o ho => by
    obtain ⟨i, hi⟩ := List.getElem?_of_mem ho
    exact noDef_at hd i o (by simpa using hi)) h)
end
theorem blk_grown {A A' : World} {row : Option Nat} (hg : A.grownBy A' row) (hr : ∀ r, row = some r → ∃ o : Obj, A.heap[r]? = some o ∧ o.isCells = false) {g : Nat} {cs : List Value} {t : TypeId} (h : Blk A g cs t) : Blk A' g cs t := by
  unfold Blk
  rw [hg.block g h.lt (fun e => ?_)]
  · exact h
  · obtain ⟨o, h1, h2⟩ := hr g e.symm
    have h' : A.heap[g]? = some (.cells cs.toArray t (0, 0)) := h
    rw [h'] at h1
    cases h1
    cases h2
theorem below_grown {B : Nat} {A A' : World} {row : Option Nat} (hg : A.grownBy A' row) (hr : ∀ r, row = some r → B ≤ r) (hB : B ≤ A.heap.size) : Below B A A' :=
  ⟨hg.os, hg.tape, hg.output, hg.size, fun k hk => hg.block k (by omega) (fun e => by have := hr k e.symm; omega)⟩
def eachV (G : Nat) : Value := .func (.func 24) #[] #[.pointer (some ⟨G, 0, none⟩)]
theorem each_any (sp : Option Addr) (n cap : Nat) (w : World) : Calls Try.prog 19 #[.slice sp n cap] w fun e w' => e = .returned (eachV w.heap.size) ∧ Blk w' w.heap.size [.slice sp n cap] 35 ∧ Below w.heap.size w w' := by
  have HE : Hid (Blk (w.alloc (.cells #[.slice sp n cap] 35)) w.heap.size [.slice sp n cap] 35 ∧ Below w.heap.size w (w.alloc (.cells #[.slice sp n cap] 35))) := Lib.hid ⟨Blk.new' _ _ _ _ _ rfl rfl, (Below.refl _ _).alloc (Nat.le_refl _) _⟩
  go_enter Try.func19, Try.ntmps19
  go_wp2_with fail
  first | exact ⟨rfl, HE.out⟩ | (go_ret; exact ⟨rfl, HE.out⟩)
/-- What stands ahead of a round. -/
structure LpI (w : World) (nS G : Nat) (sp : Option Addr) (cap : Nat) (l : List Oi) (K : List Yi → World → Prop) (pre : List Yi) (A : World) : Prop where
  bel : Below w.heap.size w A
  box : Blk A G [.slice sp l.length cap] 35
  sz : nS ≤ A.heap.size
  k : K pre A
/-- A part that stays where nothing is turned below nS. -/
def KpB (nS : Nat) (K : List Yi → World → Prop) : Prop := ∀ pre A A', K pre A → Below nS A A' → nS ≤ A.heap.size → K pre A'
section
variable {w A A' : World} {nS G cap : Nat} {sp : Option Addr} {l : List Oi} {K : List Yi → World → Prop} {pre : List Yi}
theorem LpI.below (h : LpI w nS G sp cap l K pre A) (hw : w.heap.size ≤ nS) (hG : G < nS) (hK : KpB nS K) (hb : Below nS A A') : LpI w nS G sp cap l K pre A' :=
  ⟨h.bel.trans (hb.mono hw), h.box.below hb hG, Nat.le_trans h.sz hb.size, hK _ _ _ h.k hb h.sz⟩
theorem LpI.grown (h : LpI w nS G sp cap l K pre A) (hw : w.heap.size ≤ nS) (hG : G < nS) (hK : KpB nS K) {row : Option Nat} (hg : A.grownBy A' row) (hr : ∀ r, row = some r → nS ≤ r ∧ ∃ o : Obj, A.heap[r]? = some o ∧ o.isCells = false) : LpI w nS G sp cap l K pre A' :=
  h.below hw hG hK (below_grown hg (fun r e => (hr r e).1) h.sz)
theorem LpI.hd (h : LpI w nS G sp cap l K pre A) (hs : SrcO w sp l) (hk : ∀ o ∈ l, o.OK w) : HdO G sp cap l A := ⟨h.box, hs.grown h.bel, fun o ho => (hk o ho).grown h.bel⟩
theorem lp_own (hw : w.heap.size ≤ nS) (hG : G < nS) (hK : KpB nS K) : OwnFrom nS (fun pre A => LpI w nS G sp cap l K pre A) := fun _ _ _ _ h hg hr => h.grown hw hG hK hg hr
/-- What stands in a round: the boxes of what is handed on. -/
def Lp2 (w : World) (nS G : Nat) (sp : Option Addr) (cap : Nat) (l : List Oi) (K : List Yi → World → Prop) (Fr : Yi → Nat → Nat → Act) (pre : List Yi) (x : Yi) (a' : Act) (A : World) : Prop :=
  ∃ g1 g2, a' = Fr x g1 g2 ∧ nS ≤ g1 ∧ nS ≤ g2 ∧ Blk A g1 (ocells x.1) 48 ∧ Blk A g2 (bcs x.2) 51 ∧ LpI w nS G sp cap l K pre A ∧ ∃ r, eachI seen0 l = pre ++ x :: r
theorem lp2_own (hw : w.heap.size ≤ nS) (hG : G < nS) (hK : KpB nS K) (Fr : Yi → Nat → Nat → Act) : OwnFrom nS (fun (p : List Yi × Yi × Act) A => Lp2 w nS G sp cap l K Fr p.1 p.2.1 p.2.2 A) :=
  fun _ _ _ _ ⟨g1, g2, h1, h2, h3, h4, h5, h6, h7⟩ hg hr => ⟨g1, g2, h1, h2, h3, blk_grown hg (fun r e => (hr r e).2) h4, blk_grown hg (fun r e => (hr r e).2) h5, h6.grown hw hG hK hg hr, h7⟩
theorem eachI_ok : ∀ (l : List Oi) (s : List Bool), ∀ y ∈ eachI s l, y.1 ∈ l ∧ y.2 = ownT y.1.offs ∧ leafG y.1.kind ≠ 0 ∧ 1 ≤ y.1.num ∧ y.1.num ≤ 255
  | [], _, y, h => by simp [eachI] at h
  | o :: l, s, y, h => by
    unfold eachI at h
    split at h
    · rename_i hk
      rcases List.mem_cons.1 h with h | h
      · subst h
        simp only [okO, Oi.ob, Bool.and_eq_true] at hk
        exact ⟨by simp, rfl, of_decide_eq_true hk.1.2, of_decide_eq_true hk.1.1.1, of_decide_eq_true hk.1.1.2⟩
      · obtain ⟨a, b⟩ := eachI_ok l _ y h
        exact ⟨by simp [a], b⟩
    · obtain ⟨a, b⟩ := eachI_ok l _ y h
      exact ⟨by simp [a], b⟩
theorem eachI_le : ∀ (l : List Oi) (s : List Bool), (eachI s l).length ≤ l.length
  | [], _ => by simp [eachI]
  | o :: l, s => by
    unfold eachI
    split
    · have := eachI_le l (s.set o.num true); simp; omega
    · have := eachI_le l s; simp; omega
end
theorem c_val2 {ops : Array Oper} {rest : List Oper} {o : Oper} {a : Act} {Q : Exit → Act → World → Prop} {w w' : World} {v : Value} (hg : o.guard = none) (hrun : (execOp a.eval o).run Try.prog w = .ok (.value v) w')
    (hK : wpList Try.prog ops Q rest (a.put o.dst v) w') : wpList Try.prog ops Q (o :: rest) a w := c_val hg hrun hK
theorem c_row1 (w : World) (z : Array Value) (cs : List Value) (t : TypeId) : Blk ((w.alloc (.cells z t)).setRow w.heap.size cs.toArray) w.heap.size cs t ∧ Below w.heap.size w ((w.alloc (.cells z t)).setRow w.heap.size cs.toArray) :=
  ⟨Blk.row (Blk.new' w z z.toList t _ rfl (by simp)) _, below_row ((Below.refl _ _).alloc (Nat.le_refl _) _) (Nat.le_refl _) _⟩
end Go.Proofs.Ytoceedfjfjobdaa
