/- Charge, plain: trees of marks; what objects take; their tally; that it is enough. -/
namespace Go.Proofs.Ytoceedfjfjobdaa

structure Ob where
  num : Nat
  kind : Nat
  offs : List Nat
def leafG (k : Nat) : Nat := if k = 1 then 1 else if k = 2 ∨ k = 3 then 2 else 0
/-- A tree of marks: 8 times 8 of them. -/
def mark (t : List Bool) (off : Nat) : List Bool := if off < 64 then t.set off true else t
def zeroT : List Bool := List.replicate 64 false
def ownT (offs : List Nat) : List Bool := offs.foldl mark zeroT
def inT (t : List Bool) (g : Nat) : Nat := (List.range 8).countP fun j => t.getD (8 * g + j) false
def leavesT (t : List Bool) : Nat := ((List.range 8).map (inT t)).sum
def nodesT (t : List Bool) : Nat := (List.range 8).countP fun g => decide (0 < inT t g)
def takesT (t : List Bool) (w : Nat) : Nat := leavesT t * w + nodesT t * 2
def widthG (k : Nat) : Nat := if leafG k = 1 then 1 else 2
def okO (o : Ob) (s : List Bool) : Bool := decide (1 ≤ o.num) && decide (o.num ≤ 255) && decide (leafG o.kind ≠ 0) && !(s.getD o.num false)
abbrev Yo := Ob × List Bool
/-- What is gone through: objects that are some, each once, and where they have leaves. -/
def eachL : List Bool → List Ob → List Yo
  | _, [] => []
  | s, o :: l => if okO o s = true then (o, ownT o.offs) :: eachL (s.set o.num true) l else eachL s l
def seen0 : List Bool := List.replicate 256 false
def filesL (ys : List Yo) : Nat := (ys.map fun y => if leafG y.1.kind = 1 then leavesT y.2 else 0).sum
def metasL (ys : List Yo) : Nat := (ys.map fun y => if leafG y.1.kind = 2 then leavesT y.2 else 0).sum
def tableL (ys : List Yo) : List Bool := ys.foldl (fun t y => mark t (y.1.num / 4)) zeroT
def rootT (t : List Bool) : Nat := if t = zeroT then 0 else 2
def bodyL (ys : List Yo) : Nat := (ys.map fun y => takesT y.2 (widthG y.1.kind) + rootT y.2).sum
def takesL (ys : List Yo) : Nat := 2 + bodyL ys + takesT (tableL ys) 2 + (if ys = [] then 0 else 2)
def chargeL (ys : List Yo) : Nat := 20 + 3 * filesL ys + 4 * metasL ys + 4 * ys.length
-- counting
theorem countP_blocks (p : Nat → Bool) : ∀ n, (List.range (n * 8)).countP p = ((List.range n).map fun g => (List.range 8).countP fun j => p (8 * g + j)).sum
  | 0 => rfl
  | n + 1 => by
    rw [show (n + 1) * 8 = n * 8 + 8 by omega, List.range_add, List.countP_append, countP_blocks p n, List.countP_map, List.range_succ (n := n), List.map_append, List.sum_append]
    simp only [List.map_cons, List.map_nil, List.sum_cons, List.sum_nil, Nat.add_zero]
    rw [Nat.mul_comm n 8]
    rfl
theorem leavesT_eq (t : List Bool) : leavesT t = (List.range 64).countP fun i => t.getD i false := (countP_blocks (fun i => t.getD i false) 8).symm
theorem pos_sum (c : Nat → Nat) : ∀ l : List Nat, l.countP (fun g => decide (0 < c g)) ≤ (l.map c).sum
  | [] => Nat.le_refl _
  | a :: l => by
    have := pos_sum c l
    rw [List.countP_cons, List.map_cons, List.sum_cons]
    split
    · rename_i h
      have : 0 < c a := by simpa using h
      omega
    · omega
theorem nodes_leaves (t : List Bool) : nodesT t ≤ leavesT t := pos_sum _ _
theorem nodes_eight (t : List Bool) : nodesT t ≤ 8 := by
  have := List.countP_le_length (p := fun g => decide (0 < inT t g)) (l := List.range 8)
  simpa [nodesT] using this
theorem count_one (p : Nat → Bool) (k : Nat) : ∀ n, (List.range n).countP (fun i => p i || i == k) ≤ (List.range n).countP p + (if k < n then 1 else 0)
  | 0 => by simp
  | n + 1 => by
    have ih := count_one p k n
    rw [List.range_succ, List.countP_append, List.countP_append]
    simp only [List.countP_cons, List.countP_nil, Nat.zero_add]
    by_cases h : n = k
    · subst h
      rw [if_neg (Nat.lt_irrefl _)] at ih
      rw [if_pos (Nat.lt_succ_self _)]
      split <;> omega
    · have e : (n == k) = false := by simpa using h
      rw [e, Bool.or_false]
      by_cases h2 : k < n
      · rw [if_pos h2] at ih
        rw [if_pos (show k < n + 1 by omega)]
        omega
      · rw [if_neg h2] at ih
        rw [if_neg (show ¬ k < n + 1 by omega)]
        omega
theorem getD_mark (t : List Bool) (off i : Nat) : (mark t off).getD i false = true → t.getD i false = true ∨ i = off := by
  unfold mark
  split
  · rw [List.getD_eq_getElem?_getD, List.getD_eq_getElem?_getD, List.getElem?_set]
    by_cases h : off = i
    · intro _; exact .inr h.symm
    · rw [if_neg h]; exact .inl
  · exact .inl
theorem mark_keeps (t : List Bool) (off i : Nat) (h : t.getD i false = true) : (mark t off).getD i false = true := by
  unfold mark
  split
  · rw [List.getD_eq_getElem?_getD, List.getElem?_set]
    rw [List.getD_eq_getElem?_getD] at h
    by_cases e : off = i
    · subst e
      rw [if_pos rfl]
      split
      · rfl
      · rename_i hl
        rw [List.getElem?_eq_none (by omega)] at h
        cases h
    · rw [if_neg e]; exact h
  · exact h
theorem mark_length (t : List Bool) (off : Nat) : (mark t off).length = t.length := by unfold mark; split <;> simp
theorem inT_mono {t t' : List Bool} (h : ∀ i, t.getD i false = true → t'.getD i false = true) (g : Nat) : inT t g ≤ inT t' g :=
  List.countP_mono_left fun _ _ => h _
theorem leaves_mono {t t' : List Bool} (h : ∀ i, t.getD i false = true → t'.getD i false = true) : leavesT t ≤ leavesT t' := by
  rw [leavesT_eq, leavesT_eq]
  exact List.countP_mono_left fun i _ => h i
theorem nodes_mono {t t' : List Bool} (h : ∀ i, t.getD i false = true → t'.getD i false = true) : nodesT t ≤ nodesT t' :=
  List.countP_mono_left fun g _ hg => by
    have := inT_mono h g
    have : 0 < inT t g := by simpa using hg
    simp; omega
theorem leaves_mark (t : List Bool) (off : Nat) : leavesT (mark t off) ≤ leavesT t + 1 := by
  rw [leavesT_eq, leavesT_eq]
  have h1 := count_one (fun i => t.getD i false) off 64
  have h2 : (List.range 64).countP (fun i => (mark t off).getD i false) ≤ (List.range 64).countP (fun i => t.getD i false || i == off) :=
    List.countP_mono_left fun i _ hi => by
      rcases getD_mark t off i hi with h | h
      · rw [h]; rfl
      · subst h; simp
  have : (if off < 64 then 1 else 0) ≤ 1 := by split <;> omega
  omega
theorem leaves_le (t : List Bool) : leavesT t ≤ 64 := by
  rw [leavesT_eq]
  have := List.countP_le_length (p := fun i => t.getD i false) (l := List.range 64)
  simpa using this
theorem leaves_zero : leavesT zeroT = 0 := by decide
theorem nodes_zeroT : nodesT zeroT = 0 := by decide
theorem ownT_length (l : List Nat) : (ownT l).length = 64 := by
  unfold ownT
  have : ∀ (l : List Nat) (t : List Bool), (l.foldl mark t).length = t.length := by
    intro l
    induction l with
    | nil => intro t; rfl
    | cons a l ih => intro t; rw [List.foldl_cons, ih, mark_length]
  rw [this]; rfl
theorem table_snoc (ys : List Yo) (y : Yo) : tableL (ys ++ [y]) = mark (tableL ys) (y.1.num / 4) := by simp [tableL]
theorem table_length (ys : List Yo) : (tableL ys).length = 64 := by
  have : ∀ (l : List Yo) (t : List Bool), (l.foldl (fun t y => mark t (y.1.num / 4)) t).length = t.length := by
    intro l
    induction l with
    | nil => intro t; rfl
    | cons a l ih => intro t; rw [List.foldl_cons, ih, mark_length]
  unfold tableL
  rw [this]; rfl
theorem table_leaves (ys : List Yo) : leavesT (tableL ys) ≤ ys.length := by
  have : ∀ (l : List Yo) (t : List Bool), leavesT (l.foldl (fun t y => mark t (y.1.num / 4)) t) ≤ leavesT t + l.length := by
    intro l
    induction l with
    | nil => intro t; simp
    | cons a l ih =>
      intro t
      rw [List.foldl_cons, List.length_cons]
      have h1 := ih (mark t (a.1.num / 4))
      have h2 := leaves_mark t (a.1.num / 4)
      omega
  have := this ys zeroT
  rw [leaves_zero] at this
  unfold tableL
  omega
theorem bodyL_snoc (ys : List Yo) (y : Yo) : bodyL (ys ++ [y]) = bodyL ys + (takesT y.2 (widthG y.1.kind) + rootT y.2) := by simp [bodyL]
theorem filesL_snoc (ys : List Yo) (y : Yo) : filesL (ys ++ [y]) = filesL ys + (if leafG y.1.kind = 1 then leavesT y.2 else 0) := by simp [filesL]
theorem metasL_snoc (ys : List Yo) (y : Yo) : metasL (ys ++ [y]) = metasL ys + (if leafG y.1.kind = 2 then leavesT y.2 else 0) := by simp [metasL]
theorem bodyL_cons (y : Yo) (ys : List Yo) : bodyL (y :: ys) = (takesT y.2 (widthG y.1.kind) + rootT y.2) + bodyL ys := by simp [bodyL]
theorem filesL_cons (y : Yo) (ys : List Yo) : filesL (y :: ys) = (if leafG y.1.kind = 1 then leavesT y.2 else 0) + filesL ys := by simp [filesL]
theorem metasL_cons (y : Yo) (ys : List Yo) : metasL (y :: ys) = (if leafG y.1.kind = 2 then leavesT y.2 else 0) + metasL ys := by simp [metasL]
theorem leafG_or (k : Nat) : leafG k = 0 ∨ leafG k = 1 ∨ leafG k = 2 := by unfold leafG; split <;> (try split) <;> simp
/-- What is gone through is some kind's, is a number. -/
theorem each_ok : ∀ (l : List Ob) (s : List Bool), ∀ y ∈ eachL s l, leafG y.1.kind ≠ 0 ∧ 1 ≤ y.1.num ∧ y.1.num ≤ 255 ∧ y.2 = ownT y.1.offs ∧ y.1 ∈ l
  | [], _, y, h => by simp [eachL] at h
  | o :: l, s, y, h => by
    unfold eachL at h
    split at h
    · rename_i hk
      rcases List.mem_cons.1 h with h | h
      · subst h
        simp only [okO, Bool.and_eq_true, decide_eq_true_eq] at hk
        exact ⟨hk.1.2, hk.1.1.1, hk.1.1.2, rfl, by simp⟩
      · obtain ⟨a, b, c, d, e⟩ := each_ok l _ y h
        exact ⟨a, b, c, d, by simp [e]⟩
    · obtain ⟨a, b, c, d, e⟩ := each_ok l _ y h
      exact ⟨a, b, c, d, by simp [e]⟩
theorem each_le : ∀ (l : List Ob) (s : List Bool), (eachL s l).length ≤ l.length
  | [], _ => by simp [eachL]
  | o :: l, s => by
    unfold eachL
    split
    · have := each_le l (s.set o.num true); simp; omega
    · have := each_le l s; simp; omega
theorem each_snoc : ∀ (l : List Ob) (s : List Bool) (o : Ob), ∃ r, eachL s (l ++ [o]) = eachL s l ++ r
  | [], s, o => ⟨eachL s [o], rfl⟩
  | a :: l, s, o => by
    rw [List.cons_append]
    unfold eachL
    split
    · obtain ⟨r, hr⟩ := each_snoc l (s.set a.num true) o
      exact ⟨r, by rw [hr, List.cons_append]⟩
    · exact each_snoc l s o
/-- What a body takes is within what its leaves and objects are charged. -/
theorem body_le : ∀ ys : List Yo, (∀ y ∈ ys, leafG y.1.kind ≠ 0) → bodyL ys ≤ 3 * filesL ys + 4 * metasL ys + 2 * ys.length
  | [], _ => by simp [bodyL]
  | y :: ys, h => by
    have ih := body_le ys fun z hz => h z (by simp [hz])
    have hk := h y (by simp)
    rw [bodyL_cons, filesL_cons, metasL_cons, List.length_cons]
    have hn := nodes_leaves y.2
    have hr : rootT y.2 ≤ 2 := by unfold rootT; split <;> omega
    unfold takesT widthG
    rcases leafG_or y.1.kind with e | e | e
    · exact absurd e hk
    · rw [if_pos e, if_pos e, if_neg (by omega), Nat.mul_one]
      omega
    · rw [if_neg (by omega), if_neg (by omega), if_pos e]
      omega
/-- P16.4. -/
theorem takes_charge (ys : List Yo) (h : ∀ y ∈ ys, leafG y.1.kind ≠ 0) : takesL ys ≤ chargeL ys := by
  have h1 := body_le ys h
  have h2 := table_leaves ys
  have h3 := nodes_eight (tableL ys)
  unfold takesL chargeL takesT
  have : (if ys = [] then 0 else 2) ≤ 2 := by split <;> omega
  omega
theorem app_mono (ys : List Yo) : ∀ r : List Yo, takesL ys ≤ takesL (ys ++ r) ∧ chargeL ys ≤ chargeL (ys ++ r) := by
  intro r
  have h1 : bodyL ys ≤ bodyL (ys ++ r) := by unfold bodyL; rw [List.map_append, List.sum_append]; omega
  have h2 : filesL ys ≤ filesL (ys ++ r) := by unfold filesL; rw [List.map_append, List.sum_append]; omega
  have h3 : metasL ys ≤ metasL (ys ++ r) := by unfold metasL; rw [List.map_append, List.sum_append]; omega
  have h4 : ∀ i, (tableL ys).getD i false = true → (tableL (ys ++ r)).getD i false = true := by
    clear h1 h2 h3
    intro i hi
    unfold tableL at *
    rw [List.foldl_append]
    generalize ys.foldl (fun t y => mark t (y.1.num / 4)) zeroT = t at hi
    induction r generalizing t with
    | nil => exact hi
    | cons a r ih => rw [List.foldl_cons]; exact ih _ (mark_keeps _ _ _ hi)
  have h5 := leaves_mono h4
  have h6 := nodes_mono h4
  refine ⟨?_, by unfold chargeL; rw [List.length_append]; omega⟩
  unfold takesL takesT
  have : (if ys = [] then 0 else 2) ≤ (if ys ++ r = [] then 0 else 2) := by
    cases ys
    · simp
    · simp
  omega
end Go.Proofs.Ytoceedfjfjobdaa
