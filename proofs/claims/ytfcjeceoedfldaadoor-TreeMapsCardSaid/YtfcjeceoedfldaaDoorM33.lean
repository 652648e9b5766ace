/- Trees, plain: what is new, what is old. -/
import Derived.Test.YtfcjeceoedfldaaDoorM32
import Derived.Test.YtfcjeceoedfldaaDoorM30
namespace Go.Proofs.YtfcjeceoedfldaaDoor
open Go.RowKit

/-- Leaves that know their places. -/
def LInv (h : List Pt) : Prop := ∀ (off : Nat) (p : Pt), h[off]? = some p → p = zeroP ∨ (p.kind = 1 ∧ p.off = off)
theorem isIn_mem {l : List Pt} {p : Pt} : isIn l p = true ↔ p ∈ l := by
  unfold isIn
  rw [List.any_eq_true]
  constructor
  · rintro ⟨q, hq, e⟩; rw [eqP_iff.1 e]; exact hq
  · intro h; exact ⟨p, h, eqP_same p⟩
theorem isIn_not {l : List Pt} {p : Pt} : isIn l p = false ↔ p ∉ l := by
  rw [← Bool.not_eq_true, isIn_mem]
theorem grp_get {h : List Pt} {i k : Nat} (hk : k < 8) : (grp h i)[k]? = h[8 * i + k]? := by
  unfold grp
  rw [List.getElem?_take, if_pos hk, List.getElem?_drop]
/-- A leaf that is no more. -/
def goneC (h hN : List Pt) (off : Nat) : Bool := !eqP (h.getD off zeroP) zeroP && !eqP (h.getD off zeroP) (hN.getD off zeroP)
def goneN (h hN : List Pt) (k : Nat) : Nat := ((List.range k).filter (goneC h hN)).length
theorem goneN_succ (h hN : List Pt) (k : Nat) : goneN h hN (k + 1) = goneN h hN k + (if goneC h hN k = true then 1 else 0) := by
  unfold goneN
  rw [List.range_succ, List.filter_append, List.length_append]
  cases hc : goneC h hN k <;> simp [hc]
theorem lostC_is {h hN : List Pt} (hl : h.length = 64) (hl' : hN.length = 64) (hi : LInv h) (hi' : LInv hN) {i k : Nat} (hi8 : i < 8) (hk : k < 8) {p : Pt} (hp : h[8 * i + k]? = some p) : lostC (grp h i) (grp hN i) k p = goneC h hN (8 * i + k) := by
  have hgd : h.getD (8 * i + k) zeroP = p := by rw [List.getD_eq_getElem?_getD, hp]; rfl
  obtain ⟨q, hq⟩ : ∃ q, hN[8 * i + k]? = some q := ⟨_, List.getElem?_eq_getElem (by omega)⟩
  have hgd' : hN.getD (8 * i + k) zeroP = q := by rw [List.getD_eq_getElem?_getD, hq]; rfl
  unfold lostC goneC
  rw [hgd, hgd']
  by_cases h0 : p = zeroP
  · rw [h0, eqP_same]; rfl
  · have hpo : p.off = 8 * i + k := by
      rcases hi _ _ hp with e | ⟨_, e⟩
      · exact absurd e h0
      · exact e
    have h1 : isIn ((grp h i).take k) p = false := by
      rw [isIn_not]
      intro hm
      obtain ⟨j, hj⟩ := List.getElem?_of_mem hm
      rw [List.getElem?_take] at hj
      split at hj
      · rename_i hjk
        rw [grp_get (by omega)] at hj
        rcases hi _ _ hj with e | ⟨_, e⟩
        · exact h0 e
        · omega
      · cases hj
    have h2 : isIn (grp hN i) p = eqP p q := by
      rw [Bool.eq_iff_iff, isIn_mem, eqP_iff]
      constructor
      · intro hm
        obtain ⟨j, hj⟩ := List.getElem?_of_mem hm
        have hj8 : j < 8 := by
          have := (List.getElem?_eq_some_iff.1 hj).1
          unfold grp at this
          rw [List.length_take] at this
          omega
        rw [grp_get hj8] at hj
        rcases hi' _ _ hj with e | ⟨_, e⟩
        · exact absurd e h0
        · have : j = k := by omega
          subst this
          rw [hq] at hj
          exact (Option.some.inj hj).symm
      · intro e
        rw [e]
        exact List.mem_of_getElem? (by rw [grp_get hk]; exact hq)
    rw [h1, h2, eqP_no h0]
    simp
theorem grp_list {h : List Pt} (hl : h.length = 64) {i k : Nat} (hi : i < 8) (hk : k < 8) : (grp h i).drop k = h.getD (8 * i + k) zeroP :: (grp h i).drop (k + 1) := by
  have hlen : (grp h i).length = 8 := by unfold grp; rw [List.length_take, List.length_drop]; omega
  rw [List.drop_eq_getElem_cons (by omega)]
  congr 1
  have h1 : (grp h i)[k]? = h[8 * i + k]? := grp_get hk
  rw [List.getElem?_eq_getElem (by omega)] at h1
  rw [List.getD_eq_getElem?_getD, ← h1]; rfl
theorem lostF_len {h hN : List Pt} (hl : h.length = 64) (hl' : hN.length = 64) (hi : LInv h) (hi' : LInv hN) {i : Nat} (hi8 : i < 8) : ∀ (d k : Nat), k + d = 8 → (lostF (grp h i) (grp hN i) k ((grp h i).drop k)).length + goneN h hN (8 * i + k) = goneN h hN (8 * i + 8)
  | 0, k, hk => by
    have hlen : (grp h i).length = 8 := by unfold grp; rw [List.length_take, List.length_drop]; omega
    rw [List.drop_of_length_le (by omega), show k = 8 by omega]
    simp [lostF]
  | d + 1, k, hk => by
    have ih := lostF_len hl hl' hi hi' hi8 d (k + 1) (by omega)
    have hp : h[8 * i + k]? = some (h.getD (8 * i + k) zeroP) := by rw [List.getD_eq_getElem?_getD, List.getElem?_eq_getElem (by omega)]; rfl
    rw [grp_list hl hi8 (by omega)]
    simp only [lostF, List.length_append]
    rw [lostC_is hl hl' hi hi' hi8 (by omega) hp]
    rw [show 8 * i + (k + 1) = 8 * i + k + 1 by omega, goneN_succ] at ih
    cases hc : goneC h hN (8 * i + k)
    · rw [hc] at ih
      simp only [Bool.false_eq_true, if_false, List.length_nil] at ih ⊢
      omega
    · rw [hc] at ih
      simp only [if_true, List.length_singleton] at ih ⊢
      omega
theorem mem_lostF {was now : List Pt} : ∀ (ps : List Pt) (i : Nat) (p : Pt), p ∈ lostF was now i ps ↔ ∃ j, ps[j]? = some p ∧ lostC was now (i + j) p = true
  | [], i, p => by simp [lostF]
  | q :: ps, i, p => by
    simp only [lostF, List.mem_append]
    rw [mem_lostF ps (i + 1) p]
    constructor
    · rintro (h | ⟨j, h1, h2⟩)
      · split at h
        · rename_i hc
          rw [List.mem_singleton.1 h]
          exact ⟨0, rfl, hc⟩
        · cases h
      · exact ⟨j + 1, by simpa using h1, by rw [show i + (j + 1) = i + 1 + j by omega]; exact h2⟩
    · rintro ⟨j, h1, h2⟩
      cases j with
      | zero =>
        left
        simp only [List.getElem?_cons_zero, Option.some.injEq] at h1
        subst h1
        rw [Nat.add_zero] at h2
        rw [if_pos h2]
        simp
      | succ j => exact .inr ⟨j, by simpa using h1, by rw [show i + 1 + j = i + (j + 1) by omega]; exact h2⟩
theorem same_grp {h hN : List Pt} (hl : h.length = 64) (hl' : hN.length = 64) {i : Nat} (hi : i < 8) (he : grp hN i = grp h i) : goneN h hN (8 * i + 8) = goneN h hN (8 * i) := by
  have hc : ∀ k, k < 8 → goneC h hN (8 * i + k) = false := fun k hk => by
    have h1 : hN[8 * i + k]? = h[8 * i + k]? := by rw [← grp_get hk, ← grp_get hk, he]
    unfold goneC
    rw [List.getD_eq_getElem?_getD, List.getD_eq_getElem?_getD, h1, eqP_same]
    simp
  have : ∀ k, k ≤ 8 → goneN h hN (8 * i + k) = goneN h hN (8 * i) := by
    intro k
    induction k with
    | zero => intro _; rfl
    | succ k ih =>
      intro hk
      rw [show 8 * i + (k + 1) = 8 * i + k + 1 by omega, goneN_succ, hc k (by omega), ih (by omega)]
      rfl
  exact this 8 (Nat.le_refl _)
theorem mem_upFrom {f : Nat → List Pt} {a k : Nat} {p : Pt} : p ∈ upFrom f a k ↔ ∃ i, a ≤ i ∧ i < a + k ∧ p ∈ f i := by
  unfold upFrom
  rw [List.mem_flatMap]
  constructor
  · rintro ⟨i, hi, hp⟩
    rw [List.mem_range'_1] at hi
    exact ⟨i, hi.1, hi.2, hp⟩
  · rintro ⟨i, h1, h2, hp⟩
    exact ⟨i, by rw [List.mem_range'_1]; exact ⟨h1, h2⟩, hp⟩
theorem mem_one {p q : Pt} : p ∈ one q ↔ p = q ∧ q ≠ zeroP := by
  by_cases h : q = zeroP
  · rw [h, one_zero]; simp
  · rw [one_nz h]; simp [h]
theorem len_up {m : List Pt} {f : Nat → List Pt} {P : Pt → Bool} (hm : m.length = 8) (hf : ∀ i q, m[i]? = some q → (f i).length = if P q = true then 1 else 0) : ∀ (k a : Nat), a + k = 8 → ((m.drop a).filter P).length = (upFrom f a k).length
  | 0, a, h => by rw [List.drop_of_length_le (by omega), upFrom_zero]; rfl
  | k + 1, a, h => by
    obtain ⟨q, hq⟩ : ∃ q, m[a]? = some q := ⟨_, List.getElem?_eq_getElem (by omega)⟩
    have hd : m.drop a = q :: m.drop (a + 1) := by
      rw [List.getElem?_eq_getElem (by omega)] at hq
      rw [List.drop_eq_getElem_cons (by omega), Option.some.inj hq]
    rw [hd, upFrom_succ, List.length_append, ← len_up hm hf k (a + 1) (by omega), hf a q hq]
    cases hP : P q
    · rw [List.filter_cons_of_neg (by simp [hP])]; simp
    · rw [List.filter_cons_of_pos hP]; simp; omega
def cntG (hN : List Pt) (k : Nat) : Nat := ((List.range k).filter (fun g => decide (grp hN g ≠ holes))).length
theorem cntG_succ (hN : List Pt) (k : Nat) : cntG hN (k + 1) = cntG hN k + (if grp hN k ≠ holes then 1 else 0) := by
  unfold cntG
  rw [List.range_succ, List.filter_append, List.length_append]
  by_cases hc : grp hN k = holes <;> simp [hc]
/-- What is asked of a Set's shelf. -/
structure Tn (was now made gone h hN : List Pt) : Prop where
  grp : (0 < cntG hN 8 → now.length = cntG hN 8 + 1) ∧ (cntG hN 8 = 0 → now.length = 0)
  nw : ∀ q ∈ now, isIn was q = !isIn made q
  nwN : (now.filter (fun q => !isIn was q)).length = made.length
  old : ∀ q ∈ was, isIn now q = !isIn gone q
  oldN : (was.filter (fun q => !isIn now q)).length + goneN h hN 64 = gone.length
  leaf : ∀ off, off < 64 → goneC h hN off = true → isIn gone (h.getD off zeroP) = true
theorem tn_of {bl bl' : List Bs} {root root' : Pt} {h mids hN mids' : List Pt} (ht : IsT bl root h mids) (ht' : IsT bl' root' hN mids') (hi : LInv h) (hi' : LInv hN)
    (a1 : mids' = mids → root' = root) (a2 : mids' ≠ mids → root' = zeroP ∨ bl.length < root'.birth) (a3 : ∀ i, grp hN i = grp h i → mids'[i]? = mids[i]?) (a4 : ∀ i p, grp hN i ≠ grp h i → mids'[i]? = some p → p = zeroP ∨ bl.length < p.birth) :
    Tn (nodesOf root mids) (nodesOf root' mids') (upFrom (mkF hN h mids') 0 8 ++ (if mids' = mids then [] else one root')) (upFrom (gnF hN h mids) 0 8 ++ (if mids' = mids then [] else one root)) h hN := by
  have hm8 := ht.2.2.1.1.len
  have hm8' := ht'.2.2.1.1.len
  have gD : ∀ {i q}, mids[i]? = some q → mids.getD i zeroP = q := fun {i q} e => by rw [List.getD_eq_getElem?_getD, e]; rfl
  have gD' : ∀ {i q}, mids'[i]? = some q → mids'.getD i zeroP = q := fun {i q} e => by rw [List.getD_eq_getElem?_getD, e]; rfl
  have lt8 : ∀ {i q}, mids[i]? = some q → i < 8 := fun e => by have := (List.getElem?_eq_some_iff.1 e).1; omega
  have lt8' : ∀ {i q}, mids'[i]? = some q → i < 8 := fun e => by have := (List.getElem?_eq_some_iff.1 e).1; omega
  -- the roots
  have r0 : root = zeroP ↔ ∀ q ∈ mids, q = zeroP := by
    rw [ht.2.2.1.hole]
    constructor
    · intro e q hq; rw [e] at hq; exact List.eq_of_mem_replicate hq
    · intro hq; exact List.eq_replicate_iff.2 ⟨hm8, hq⟩
  have r0' : root' = zeroP ↔ ∀ q ∈ mids', q = zeroP := by
    rw [ht'.2.2.1.hole]
    constructor
    · intro e q hq; rw [e] at hq; exact List.eq_of_mem_replicate hq
    · intro hq; exact List.eq_replicate_iff.2 ⟨hm8', hq⟩
  have memW : ∀ q, q ∈ nodesOf root mids ↔ (q = root ∧ root ≠ zeroP) ∨ (q ∈ mids ∧ q ≠ zeroP) := fun q => by
    unfold nodesOf
    by_cases h0 : root = zeroP
    · rw [if_pos (by rw [h0]; exact eqP_same _)]
      constructor
      · intro h; cases h
      · rintro (⟨_, h⟩ | ⟨h1, h2⟩)
        · exact absurd h0 h
        · exact absurd (r0.1 h0 q h1) h2
    · rw [if_neg (by rw [eqP_no h0]; simp), List.mem_cons, List.mem_filter]
      constructor
      · rintro (h | ⟨h1, h2⟩)
        · exact .inl ⟨h, h0⟩
        · exact .inr ⟨h1, fun e => by rw [e, eqP_same] at h2; cases h2⟩
      · rintro (⟨h, _⟩ | ⟨h1, h2⟩)
        · exact .inl h
        · exact .inr ⟨h1, by rw [eqP_no h2]; rfl⟩
  have memN : ∀ q, q ∈ nodesOf root' mids' ↔ (q = root' ∧ root' ≠ zeroP) ∨ (q ∈ mids' ∧ q ≠ zeroP) := fun q => by
    unfold nodesOf
    by_cases h0 : root' = zeroP
    · rw [if_pos (by rw [h0]; exact eqP_same _)]
      constructor
      · intro h; cases h
      · rintro (⟨_, h⟩ | ⟨h1, h2⟩)
        · exact absurd h0 h
        · exact absurd (r0'.1 h0 q h1) h2
    · rw [if_neg (by rw [eqP_no h0]; simp), List.mem_cons, List.mem_filter]
      constructor
      · rintro (h | ⟨h1, h2⟩)
        · exact .inl ⟨h, h0⟩
        · exact .inr ⟨h1, fun e => by rw [e, eqP_same] at h2; cases h2⟩
      · rintro (⟨h, _⟩ | ⟨h1, h2⟩)
        · exact .inl h
        · exact .inr ⟨h1, by rw [eqP_no h2]; rfl⟩
  -- births
  have oldW : ∀ q ∈ nodesOf root mids, q.birth ≤ bl.length := fun q hq => by
    rcases (memW q).1 hq with ⟨e, h0⟩ | ⟨h1, h2⟩
    · rw [e]; exact (ht.2.2.1.tag h0).2.2.2.2
    · obtain ⟨i, hi⟩ := List.getElem?_of_mem h1
      exact ((ht.2.2.2 i q hi).tag h2).2.2.2.2
  have memMD : ∀ q, q ∈ (upFrom (mkF hN h mids') 0 8 ++ (if mids' = mids then [] else one root')) ↔ (∃ i, mids'[i]? = some q ∧ grp hN i ≠ grp h i ∧ q ≠ zeroP) ∨ (mids' ≠ mids ∧ q = root' ∧ root' ≠ zeroP) := fun q => by
    rw [List.mem_append, mem_upFrom]
    constructor
    · rintro (⟨i, -, h8, hp⟩ | hp)
      · unfold mkF at hp
        split at hp
        · cases hp
        · rename_i hc
          obtain ⟨p, hp'⟩ := ht'.2.2.1.1.get (show i < 8 by omega)
          rw [gD' hp', mem_one] at hp
          left
          exact ⟨i, by rw [hp.1]; exact hp', hc, by rw [hp.1]; exact hp.2⟩
      · split at hp
        · cases hp
        · rename_i hc
          rw [mem_one] at hp
          exact .inr ⟨hc, hp⟩
    · rintro (⟨i, h1, h2, h3⟩ | ⟨h1, h2, h3⟩)
      · left
        refine ⟨i, by omega, by have := lt8' h1; omega, ?_⟩
        unfold mkF
        rw [if_neg h2, gD' h1, mem_one]
        exact ⟨rfl, h3⟩
      · right
        rw [if_neg h1, mem_one]
        exact ⟨h2, h3⟩
  have newMD : ∀ q ∈ (upFrom (mkF hN h mids') 0 8 ++ (if mids' = mids then [] else one root')), bl.length < q.birth := fun q hq => by
    rcases (memMD q).1 hq with ⟨i, h1, h2, h3⟩ | ⟨h1, h2, h3⟩
    · exact (a4 i q h2 h1).resolve_left h3
    · rw [h2]; exact (a2 h1).resolve_left h3
  have splitN : ∀ q ∈ nodesOf root' mids', (q ∈ nodesOf root mids ∧ q.birth ≤ bl.length) ∨ (q ∈ (upFrom (mkF hN h mids') 0 8 ++ (if mids' = mids then [] else one root')) ∧ bl.length < q.birth) := fun q hq => by
    have h2 : q ∈ nodesOf root mids ∨ q ∈ (upFrom (mkF hN h mids') 0 8 ++ (if mids' = mids then [] else one root')) := by
      rw [memMD, memW]
      rcases (memN q).1 hq with ⟨e, h0⟩ | ⟨h1, h2⟩
      · by_cases hm : mids' = mids
        · left; left; exact ⟨by rw [e, a1 hm], by rw [← a1 hm]; exact h0⟩
        · right; right; exact ⟨hm, e, h0⟩
      · obtain ⟨i, hi⟩ := List.getElem?_of_mem h1
        by_cases hc : grp hN i = grp h i
        · left; right; exact ⟨List.mem_of_getElem? (by rw [← a3 i hc]; exact hi), h2⟩
        · right; left; exact ⟨i, hi, hc, h2⟩
    rcases h2 with h2 | h2
    · exact .inl ⟨h2, oldW q h2⟩
    · exact .inr ⟨h2, newMD q h2⟩
  -- a changed eight has another node
  have chgM : ∀ i q, grp hN i ≠ grp h i → mids[i]? = some q → mids'[i]? ≠ some q := fun i q hc hq hq' => by
    have h1 := ht.2.2.2 i q hq
    have h2 := ht'.2.2.2 i q hq'
    rcases a4 i q hc hq' with h0 | hb
    · exact hc ((h2.hole.1 h0).trans (h1.hole.1 h0).symm)
    · have h0 : q ≠ zeroP := fun e => by rw [e] at hb; simp [zeroP] at hb
      have := (h1.tag h0).2.2.2.2
      omega
  have noC : mids' = mids → ∀ i, i < 8 → grp hN i = grp h i := fun e i hi => by
    apply Classical.byContradiction
    intro hc
    obtain ⟨q, hq⟩ := ht.2.2.1.1.get hi
    exact chgM i q hc hq (by rw [e]; exact hq)
  have memGD : ∀ q, q ∈ (upFrom (gnF hN h mids) 0 8 ++ (if mids' = mids then [] else one root)) ↔ (∃ i, i < 8 ∧ grp hN i ≠ grp h i ∧ (q ∈ lostF (grp h i) (grp hN i) 0 (grp h i) ∨ (mids[i]? = some q ∧ q ≠ zeroP))) ∨ (mids' ≠ mids ∧ q = root ∧ root ≠ zeroP) := fun q => by
    rw [List.mem_append, mem_upFrom]
    constructor
    · rintro (⟨i, -, h8, hp⟩ | hp)
      · unfold gnF at hp
        split at hp
        · cases hp
        · rename_i hc
          obtain ⟨p, hp'⟩ := ht.2.2.1.1.get (show i < 8 by omega)
          rw [gD hp', List.mem_append, mem_one] at hp
          left
          refine ⟨i, by omega, hc, ?_⟩
          rcases hp with hp | hp
          · exact .inl hp
          · exact .inr ⟨by rw [hp.1]; exact hp', by rw [hp.1]; exact hp.2⟩
      · split at hp
        · cases hp
        · rename_i hc
          rw [mem_one] at hp
          exact .inr ⟨hc, hp⟩
    · rintro (⟨i, h8, h1, h2⟩ | ⟨h1, h2, h3⟩)
      · left
        refine ⟨i, by omega, by omega, ?_⟩
        unfold gnF
        rw [if_neg h1, List.mem_append]
        rcases h2 with h2 | ⟨h2, h3⟩
        · exact .inl h2
        · right; rw [gD h2, mem_one]; exact ⟨rfl, h3⟩
      · right
        rw [if_neg h1, mem_one]
        exact ⟨h2, h3⟩
  have lostK : ∀ i q, q ∈ lostF (grp h i) (grp hN i) 0 (grp h i) → q.kind = 1 := fun i q hq => by
    obtain ⟨j, h1, h2⟩ := (mem_lostF _ _ _).1 hq
    have hj8 : j < 8 := by
      have := (List.getElem?_eq_some_iff.1 h1).1
      unfold grp at this
      rw [List.length_take] at this
      omega
    rw [grp_get hj8] at h1
    rcases hi _ _ h1 with e | ⟨e, _⟩
    · rw [e] at h2
      unfold lostC at h2
      rw [eqP_same] at h2
      simp at h2
    · exact e
  have splitW : ∀ q ∈ nodesOf root mids, (q ∈ nodesOf root' mids' ∧ q ∉ (upFrom (gnF hN h mids) 0 8 ++ (if mids' = mids then [] else one root))) ∨ (q ∉ nodesOf root' mids' ∧ q ∈ (upFrom (gnF hN h mids) 0 8 ++ (if mids' = mids then [] else one root))) := fun q hq => by
    rw [memN, memGD]
    have hob := oldW q hq
    rcases (memW q).1 hq with ⟨e, h0⟩ | ⟨h1, h2⟩
    · obtain ⟨k1, k2, -⟩ := ht.2.2.1.tag h0
      by_cases hm : mids' = mids
      · left
        refine ⟨.inl ⟨by rw [e, a1 hm], by rw [a1 hm]; exact h0⟩, ?_⟩
        rintro (⟨i, h8, hc, -⟩ | ⟨hc, -⟩)
        · exact hc (noC hm i h8)
        · exact hc hm
      · right
        refine ⟨?_, .inr ⟨hm, e, h0⟩⟩
        rintro (⟨e', h0'⟩ | ⟨h1', h2'⟩)
        · have := (a2 hm).resolve_left h0'
          rw [← e'] at this
          omega
        · obtain ⟨i, hi⟩ := List.getElem?_of_mem h1'
          have := ((ht'.2.2.2 i q hi).tag h2').2.1
          rw [e, k2] at this
          omega
    · obtain ⟨i, hi1⟩ := List.getElem?_of_mem h1
      obtain ⟨k1, k2, k3, -⟩ := (ht.2.2.2 i q hi1).tag h2
      by_cases hc : grp hN i = grp h i
      · left
        refine ⟨.inr ⟨List.mem_of_getElem? (by rw [a3 i hc]; exact hi1), h2⟩, ?_⟩
        rintro (⟨j, h8, hcj, hl | ⟨hj, -⟩⟩ | ⟨_, e, h0⟩)
        · have := lostK j q hl; omega
        · have := ((ht.2.2.2 j q hj).tag h2).2.2.1
          have : j = i := by omega
          subst this
          exact hcj hc
        · have := (ht.2.2.1.tag h0).2.1
          rw [← e, k2] at this
          omega
      · right
        refine ⟨?_, .inl ⟨i, lt8 hi1, hc, .inr ⟨hi1, h2⟩⟩⟩
        rintro (⟨e', h0'⟩ | ⟨h1', _⟩)
        · have := (ht'.2.2.1.tag h0').2.1
          rw [← e', k2] at this
          omega
        · obtain ⟨j, hj⟩ := List.getElem?_of_mem h1'
          have := ((ht'.2.2.2 j q hj).tag h2).2.2.1
          have : j = i := by omega
          subst this
          exact chgM j q hc hi1 hj
  have nzlen : ∀ (r : Pt) (m : List Pt) (P : Pt → Bool), ((nodesOf r m).filter P).length = if eqP r zeroP = true then 0 else (if P r = true then 1 else 0) + (m.filter (fun q => !eqP q zeroP && P q)).length := fun r m P => by
    unfold nodesOf
    split
    · rfl
    · have e : (m.filter (fun q => !eqP q zeroP)).filter P = m.filter (fun q => !eqP q zeroP && P q) := by
        rw [List.filter_filter]
        congr 1
        funext q
        rw [Bool.and_comm]
      cases hP : P r
      · rw [List.filter_cons_of_neg (by simp [hP]), e]; simp
      · rw [List.filter_cons_of_pos hP, List.length_cons, e]; simp; omega
  refine ⟨?_, fun q hq => ?_, ?_, fun q hq => ?_, ?_, fun off ho hc => ?_⟩
  · -- groups
    have hcnt : cntG hN 8 = (mids'.filter (fun q => !eqP q zeroP)).length := by
      have h1 : ∀ k, k ≤ 8 → cntG hN k = ((mids'.take k).filter (fun q => !eqP q zeroP)).length := by
        intro k
        induction k with
        | zero => intro _; rfl
        | succ k ih =>
          intro hk
          obtain ⟨q, hq⟩ := ht'.2.2.1.1.get (show k < 8 by omega)
          have hh := (ht'.2.2.2 k q hq).hole
          rw [cntG_succ, ih (by omega), take_snoc hq, List.filter_append, List.length_append]
          congr 1
          by_cases h0 : q = zeroP
          · rw [if_neg (by rw [hh.1 h0]; simp), h0, List.filter_cons_of_neg (by rw [eqP_same]; simp)]; rfl
          · rw [if_pos (fun e => h0 (hh.2 e)), List.filter_cons_of_pos (by rw [eqP_no h0]; rfl)]; rfl
      have := h1 8 (Nat.le_refl _)
      rwa [List.take_of_length_le (by omega)] at this
    have hlen : (nodesOf root' mids').length = if eqP root' zeroP = true then 0 else 1 + cntG hN 8 := by
      unfold nodesOf
      split
      · rfl
      · rw [List.length_cons, hcnt]; omega
    have hz : root' = zeroP ↔ cntG hN 8 = 0 := by
      rw [hcnt, r0', List.length_eq_zero_iff, List.filter_eq_nil_iff]
      constructor
      · intro H q hq; rw [H q hq, eqP_same]; simp
      · intro H q hq
        have := H q hq
        simp only [Bool.not_eq_true, Bool.not_eq_false'] at this
        exact eqP_iff.1 this
    constructor
    · intro h0
      rw [hlen, if_neg (by rw [eqP_iff, hz]; omega)]; omega
    · intro h0
      rw [hlen, if_pos (by rw [eqP_iff, hz]; exact h0)]
  · rcases splitN q hq with ⟨h1, h2⟩ | ⟨h1, h2⟩
    · rw [isIn_mem.2 h1, isIn_not.2 (fun hm => by have := newMD q hm; omega)]; rfl
    · rw [isIn_mem.2 h1, isIn_not.2 (fun hm => by have := oldW q hm; omega)]; rfl
  · have hP : (nodesOf root' mids').filter (fun q => !isIn (nodesOf root mids) q) = (nodesOf root' mids').filter (fun q => decide (bl.length < q.birth)) := List.filter_congr fun q hq => by
      rcases splitN q hq with ⟨h1, h2⟩ | ⟨h1, h2⟩
      · rw [isIn_mem.2 h1, decide_eq_false (by omega)]; rfl
      · rw [isIn_not.2 (fun hm => by have := oldW q hm; omega), decide_eq_true h2]; rfl
    rw [hP, nzlen, List.length_append]
    have hup : (mids'.filter (fun q => !eqP q zeroP && decide (bl.length < q.birth))).length = (upFrom (mkF hN h mids') 0 8).length := by
      have := len_up (m := mids') (f := mkF hN h mids') (P := fun q => !eqP q zeroP && decide (bl.length < q.birth)) hm8' (fun i q hq => by
        unfold mkF
        by_cases h0 : q = zeroP
        · rw [h0, eqP_same]
          split
          · rfl
          · rw [gD' hq, h0, one_zero]; rfl
        · rw [eqP_no h0]
          by_cases hc : grp hN i = grp h i
          · rw [if_pos hc]
            have hb := ((ht.2.2.2 i q (by rw [← a3 i hc]; exact hq)).tag h0).2.2.2.2
            rw [decide_eq_false (by omega)]; rfl
          · rw [if_neg hc, gD' hq, one_nz h0, decide_eq_true ((a4 i q hc hq).resolve_left h0)]; rfl) 8 0 (by omega)
      rwa [List.drop_zero] at this
    rw [hup]
    by_cases h0 : root' = zeroP
    · rw [h0, eqP_same, one_zero]
      have hz := r0'.1 h0
      have : (mids'.filter (fun q => !eqP q zeroP && decide (bl.length < q.birth))) = [] := List.filter_eq_nil_iff.2 fun q hq => by rw [hz q hq, eqP_same]; simp
      rw [this] at hup
      rw [← hup]
      simp
    · rw [if_neg (by rw [eqP_no h0]; simp), one_nz h0]
      by_cases hm : mids' = mids
      · have hr0 : root ≠ zeroP := by rw [← a1 hm]; exact h0
        have hb := (ht.2.2.1.tag hr0).2.2.2.2
        rw [if_pos hm, a1 hm, decide_eq_false (by omega)]
        simp
      · rw [if_neg hm, decide_eq_true ((a2 hm).resolve_left h0)]
        simp; omega
  · rcases splitW q hq with ⟨h1, h2⟩ | ⟨h1, h2⟩
    · rw [isIn_mem.2 h1, isIn_not.2 h2]; rfl
    · rw [isIn_not.2 h1, isIn_mem.2 h2]; rfl
  · -- what is gone
    have hW : ∀ q ∈ nodesOf root mids, (!isIn (nodesOf root' mids') q) = isIn (upFrom (gnF hN h mids) 0 8 ++ (if mids' = mids then [] else one root)) q := fun q hq => by
      rcases splitW q hq with ⟨h1, h2⟩ | ⟨h1, h2⟩
      · rw [isIn_mem.2 h1, isIn_not.2 h2]; rfl
      · rw [isIn_not.2 h1, isIn_mem.2 h2]; rfl
    rw [nzlen, List.length_append]
    have hmid : ∀ i q, mids[i]? = some q → q ≠ zeroP → (!isIn (nodesOf root' mids') q) = decide (grp hN i ≠ grp h i) := fun i q hq h0 => by
      have hr : root ≠ zeroP := fun e => h0 (r0.1 e q (List.mem_of_getElem? hq))
      rw [hW q (nodes_mid hr (List.mem_of_getElem? hq) h0), Bool.eq_iff_iff, isIn_mem, memGD, decide_eq_true_iff]
      obtain ⟨k1, k2, k3, -⟩ := (ht.2.2.2 i q hq).tag h0
      constructor
      · rintro (⟨j, h8, hcj, hl | ⟨hj, -⟩⟩ | ⟨_, e, h0'⟩)
        · have := lostK j q hl; omega
        · have := ((ht.2.2.2 j q hj).tag h0).2.2.1
          have : j = i := by omega
          subst this
          exact hcj
        · have := (ht.2.2.1.tag h0').2.1
          rw [← e, k2] at this
          omega
      · intro hc
        exact .inl ⟨i, lt8 hq, hc, .inr ⟨hq, h0⟩⟩
    have hup : ∀ (k a : Nat), a + k = 8 → ((mids.drop a).filter (fun q => !eqP q zeroP && !isIn (nodesOf root' mids') q)).length + goneN h hN 64 = (upFrom (gnF hN h mids) a k).length + goneN h hN (8 * a) := by
      intro k
      induction k with
      | zero => intro a ha; rw [List.drop_of_length_le (by omega), upFrom_zero, show 8 * a = 64 by omega]; rfl
      | succ k ih =>
        intro a ha
        obtain ⟨q, hq⟩ := ht.2.2.1.1.get (show a < 8 by omega)
        have hd : mids.drop a = q :: mids.drop (a + 1) := by
          have hq2 := hq
          rw [List.getElem?_eq_getElem (by omega)] at hq2
          rw [List.drop_eq_getElem_cons (by omega), Option.some.inj hq2]
        have ih1 := ih (a + 1) (by omega)
        rw [hd, upFrom_succ, List.length_append]
        have hlen : ((q :: mids.drop (a + 1)).filter (fun q => !eqP q zeroP && !isIn (nodesOf root' mids') q)).length = (if q ≠ zeroP ∧ grp hN a ≠ grp h a then 1 else 0) + ((mids.drop (a + 1)).filter (fun q => !eqP q zeroP && !isIn (nodesOf root' mids') q)).length := by
          by_cases h0 : q = zeroP
          · rw [List.filter_cons_of_neg (by rw [h0, eqP_same]; simp), if_neg (by intro h; exact h.1 h0)]; omega
          · have hm := hmid a q hq h0
            by_cases hc : grp hN a = grp h a
            · rw [List.filter_cons_of_neg (by rw [hm]; simp [hc]), if_neg (by intro h; exact h.2 hc)]; omega
            · rw [List.filter_cons_of_pos (by rw [hm, eqP_no h0]; simp [hc]), if_pos ⟨h0, hc⟩]; simp; omega
        rw [hlen]
        have hg : (gnF hN h mids a).length + goneN h hN (8 * a) = (if q ≠ zeroP ∧ grp hN a ≠ grp h a then 1 else 0) + goneN h hN (8 * (a + 1)) := by
          unfold gnF
          by_cases hc : grp hN a = grp h a
          · rw [if_pos hc, if_neg (by intro h; exact h.2 hc), show 8 * (a + 1) = 8 * a + 8 by omega, same_grp ht.1 ht'.1 (by omega) hc]; simp
          · rw [if_neg hc, List.length_append, gD hq]
            have := lostF_len ht.1 ht'.1 hi hi' (show a < 8 by omega) 8 0 (by omega)
            rw [List.drop_zero, Nat.add_zero] at this
            rw [show 8 * (a + 1) = 8 * a + 8 by omega]
            by_cases h0 : q = zeroP
            · rw [h0, one_zero, if_neg (by intro h; exact h.1 rfl)]; simp; omega
            · rw [one_nz h0, if_pos ⟨h0, hc⟩]; simp; omega
        omega
    have h8 := hup 8 0 (by omega)
    rw [List.drop_zero] at h8
    have hz0 : goneN h hN (8 * 0) = 0 := rfl
    rw [hz0] at h8
    by_cases h0 : root = zeroP
    · rw [h0, eqP_same, one_zero]
      have hz := r0.1 h0
      have : (mids.filter (fun q => !eqP q zeroP && !isIn (nodesOf root' mids') q)) = [] := List.filter_eq_nil_iff.2 fun q hq => by rw [hz q hq, eqP_same]; simp
      rw [this] at h8
      simp at h8 ⊢
      omega
    · rw [if_neg (by rw [eqP_no h0]; simp), hW root (nodes_root h0)]
      by_cases hm : mids' = mids
      · have hno : isIn (upFrom (gnF hN h mids) 0 8 ++ (if mids' = mids then [] else one root)) root = false := by
          rw [isIn_not, memGD]
          rintro (⟨i, h8, hc, -⟩ | ⟨hc, -⟩)
          · exact hc (noC hm i h8)
          · exact hc hm
        rw [hno, if_pos hm]
        simp; omega
      · have hyes : isIn (upFrom (gnF hN h mids) 0 8 ++ (if mids' = mids then [] else one root)) root = true := by
          rw [isIn_mem, memGD]; exact .inr ⟨hm, rfl, h0⟩
        rw [hyes, if_neg hm, one_nz h0]
        simp; omega
  · -- a leaf that is gone
    rw [isIn_mem, memGD]
    have hp : h[off]? = some (h.getD off zeroP) := by rw [List.getD_eq_getElem?_getD, List.getElem?_eq_getElem (by rw [ht.1]; exact ho)]; rfl
    have hoe : 8 * (off / 8) + off % 8 = off := by omega
    have hcg : grp hN (off / 8) ≠ grp h (off / 8) := fun e => by
      have h1 : hN[off]? = h[off]? := by
        have := grp_get (h := hN) (i := off / 8) (k := off % 8) (by omega)
        rw [e, grp_get (by omega), hoe] at this
        exact this.symm
      unfold goneC at hc
      rw [List.getD_eq_getElem?_getD, List.getD_eq_getElem?_getD, h1, eqP_same] at hc
      simp at hc
    left
    refine ⟨off / 8, by omega, hcg, .inl ((mem_lostF _ _ _).2 ⟨off % 8, by rw [grp_get (by omega), hoe]; exact hp, ?_⟩)⟩
    rw [Nat.zero_add, lostC_is ht.1 ht'.1 hi hi' (by omega) (by omega) (by rw [hoe]; exact hp), hoe]
    exact hc
end Go.Proofs.YtfcjeceoedfldaaDoor
/- TreeWrong, walked. -/
namespace Go.Proofs.YtfcjeceoedfldaaDoor
open Go.RowKit

attribute [local go_sem] Oper.semAt_some

theorem Fr.allE {w X : World} {D : Nat} {s : Sh} {bs : Bxs} (h : Fr w D s bs X) (p : Pt) (hp : p.OK) {m : Nat} (hk : Lim m s) (hm : m + 73 < 1000000) :
    Calls Tryd.prog 11 #[shI D, .agg (pcells p).toArray] X fun e Y => ∃ lv nv, e = .returned (.tuple #[lv, nv, .int .i64 (allE s p : Int)]) ∧ Fr w D (allS s p) bs Y ∧ Lim (m + 73) (allS s p) := by
  obtain ⟨L1, v1, h1, h2, h3, h4, h5⟩ := h.call
  refine (trAll_any p hp h1 h2 hk hm).mono ?_
  rintro e Y ⟨lv, nv, e1, ⟨⟨L2, v2, k1, k2, _⟩, _⟩, e3⟩
  exact ⟨lv, nv, e1, h5 _ Y ⟨L2, v2, k1, k2⟩, e3⟩
/-- The blocks are one that lies in old memory. -/
theorem Fr.blocks {w X Y : World} {D : Nat} {s : Sh} {bs : Bxs} (h : Fr w D s bs X) (b : Bs) (sp : Option Addr) (cap : Nat) (hc : b.length ≤ cap) (hz : sp = none → cap = 0) (hS : SrcA w sp b) (hlt : ∀ a, sp = some a → a.block < w.heap.size) (hbox : ∀ y ∈ bs, ¬ ∃ a, sp = some a ∧ y.1 = a.block) {g : Nat} (hb : Below X.heap.size X Y) (hg : X.heap.size ≤ g) (hn : Blk Y g [.slice sp b.length cap] 41) :
    Fr w D { s with blocks := [b] } bs (Y.setCell ⟨D, 0, none⟩ (.slice (some ⟨g, 0, none⟩) 1 1)) := by
  obtain ⟨⟨L1, v1, h1, h2, h3, h4⟩, k, hl⟩ := h
  have hD : D ≠ g := by have := h1.blk.lt; omega
  have hgY := hn.lt
  have hlD : w.heap.size ≤ D := by
    by_cases e : w.heap.size ≤ D
    · exact e
    · have := h4 D (by omega); rw [h1.ld] at this; omega
  -- the labels behind it
  classical
  let L2 : Nat → Nat := fun x => if x = g then 2 else if (∃ a, sp = some a ∧ x = a.block) then 10 else L1 x
  have hsp1 : ∀ x, (∃ a, sp = some a ∧ x = a.block) → x < w.heap.size := fun x ⟨a, ha, e⟩ => by rw [e]; exact hlt a ha
  have hold : ∀ x, x < X.heap.size → (L1 x = 1 ∨ L1 x = 3 ∨ L1 x = 4 ∨ L1 x = 5 ∨ L1 x = 10 ∨ L1 x = 2) → L2 x = L1 x := fun x hx hx' => by
    show (if x = g then 2 else if (∃ a, sp = some a ∧ x = a.block) then 10 else L1 x) = L1 x
    rw [if_neg (by omega)]
    by_cases e : ∃ a, sp = some a ∧ x = a.block
    · rw [if_pos e]
      have := h4 x (hsp1 x e)
      omega
    · rw [if_neg e]
  have hc1 : Chg (fun x => x = D) X (Y.setCell ⟨D, 0, none⟩ (.slice (some ⟨g, 0, none⟩) 1 1)) := (Chg.of_below (F := fun x => x = D) hb).setCell (g := D) (.inl rfl) 0 _
  have hsz : (Y.setCell ⟨D, 0, none⟩ (.slice (some ⟨g, 0, none⟩) 1 1)).heap.size = Y.heap.size := by simp [World.setCell]
  have hDn : ∀ {j x : Nat}, j ≠ 1 → L1 x = j → ¬ x = D := fun hj hx e => by rw [e, h1.ld] at hx; exact hj hx.symm
  have ow : ∀ {x : Value} {l : List Pt} {j : Nat}, (j = 3 ∨ j = 4 ∨ j = 5) → (OwnM X 0 x l ∧ ∀ g, x.ownBlock = some g → L1 g = j) → (OwnM (Y.setCell ⟨D, 0, none⟩ (.slice (some ⟨g, 0, none⟩) 1 1)) 0 x l ∧ ∀ g, x.ownBlock = some g → L2 g = j) := fun hj ⟨ha, hb'⟩ =>
    ⟨owns_chg ha hc1 (fun y hy => hDn (by omega) (hb' y hy)), fun y hy => by rw [hold y (owns_lt ha hy) (by rw [hb' y hy]; omega)]; exact hb' y hy⟩
  have hbS : Blk (Y.setCell ⟨D, 0, none⟩ (.slice (some ⟨g, 0, none⟩) 1 1)) g [.slice sp b.length cap] 41 := hn.other (a := ⟨D, 0, none⟩) (fun e => hD e.symm) _
  refine ⟨⟨L2, { v1 with bl := .slice (some ⟨g, 0, none⟩) 1 1 }, ⟨(h1.blk.below hb h1.blk.lt).set 0 _, by rw [hold D h1.blk.lt (.inl h1.ld)]; exact h1.ld, ⟨[.slice sp b.length cap], ?_, fun x hx => ?_, rfl, fun i u b' hu hb' => ?_, fun u hu => by simp at hu; subst hu; rfl⟩, ?_, ow (by omega) h1.md, ow (by omega) h1.gn, ow (by omega) h1.rd, fun x hx => ?_, h1.okm, h1.okg, h1.okr, ?_⟩, fun x => ?_, fun y hy => ?_, fun x hx => ?_⟩, fun y hy => ?_, ?_⟩
  · exact hbS.owns (base := 0) (n := 1) (Nat.zero_le _) (by simp) (by unfold maxLen; simp)
  · injection hx with hx
    show (if x = g then 2 else _) = 2
    rw [if_pos hx.symm]
  · cases i with
    | zero =>
      simp at hu hb'
      subst hu hb'
      refine ⟨sp, cap, rfl, hc, hz, (hS.grown hl).chgF hc1 (fun a ha e => by have := hlt a ha; have e : a.block = D := e; omega), fun a ha => ?_⟩
      show (if a.block = g then 2 else if (∃ a', sp = some a' ∧ a.block = a'.block) then 10 else L1 a.block) = 10
      rw [if_neg (by have := hlt a ha; have := hl.size; omega), if_pos ⟨a, ha, rfl⟩]
    | succ i => simp at hu
  · obtain ⟨sp', cap', e, j1, j2, j3⟩ := h1.bad
    refine ⟨sp', cap', e, j1, j2, fun h0 => ?_⟩
    obtain ⟨g', o, e1, hg', hl', hcell⟩ := j3 h0
    refine ⟨g', o, e1, Nat.lt_of_lt_of_le hg' hc1.size, (hold g' hg' (by omega)).trans hl', fun i x hx => ?_⟩
    rw [World.cell?_of_block (w := X) (a := ⟨g', o + i, none⟩) (hc1.block g' hg' (hDn (by omega) hl'))]
    exact hcell i x hx
  · rw [hsz]
    have hx : (if x = g then 2 else if (∃ a, sp = some a ∧ x = a.block) then 10 else L1 x) ≠ 0 := hx
    by_cases e1 : x = g
    · omega
    · rw [if_neg e1] at hx
      by_cases e2 : ∃ a, sp = some a ∧ x = a.block
      · have := hsp1 x e2; have := hl.size; have := hb.size; omega
      · rw [if_neg e2] at hx
        have := h1.lt x hx; have := hb.size; omega
  · exact ⟨h1.tab.1.of_heap (hc1.block _ h1.tab.1.lt (hDn (by omega) h1.tab.2)), (hold _ h1.tab.1.lt (by rw [h1.tab.2]; omega)).trans h1.tab.2⟩
  · show (if x = g then 2 else if (∃ a, sp = some a ∧ x = a.block) then 10 else L1 x) ≤ 5 ∨ (if x = g then 2 else if (∃ a, sp = some a ∧ x = a.block) then 10 else L1 x) = 10
    by_cases e1 : x = g
    · rw [if_pos e1]; omega
    · rw [if_neg e1]
      by_cases e2 : ∃ a, sp = some a ∧ x = a.block
      · rw [if_pos e2]; omega
      · rw [if_neg e2]; exact h2 x
  · show (if y.1 = g then 2 else if (∃ a, sp = some a ∧ y.1 = a.block) then 10 else L1 y.1) = 0
    have hy1 := (k y hy).lt
    rw [if_neg (by omega), if_neg (fun e => hbox y hy e)]
    exact h3 y hy
  · show (if x = g then 2 else if (∃ a, sp = some a ∧ x = a.block) then 10 else L1 x) = 0 ∨ (if x = g then 2 else if (∃ a, sp = some a ∧ x = a.block) then 10 else L1 x) = 10
    have := hl.size
    rw [if_neg (by omega)]
    by_cases e2 : ∃ a, sp = some a ∧ x = a.block
    · right; rw [if_pos e2]
    · rw [if_neg e2]; exact h4 x hx
  · exact (k y hy).chg hc1 (fun e => by have := h3 y hy; have e : y.1 = D := e; rw [e, h1.ld] at this; omega)
  · exact (hl.trans (hb.mono hl.size)).trans ⟨rfl, rfl, rfl, by simp [World.setCell], fun x hx => Below.heap_setCell _ _ _ _ (by show x ≠ D; omega)⟩
end Go.Proofs.YtfcjeceoedfldaaDoor
