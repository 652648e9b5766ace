/- The space's addresses and the document's lists say the same: plain. -/
import Derived.Test.YtjfedhaafdfibaaKrd
namespace Go.Proofs.Ytjfedhaafdfibaa
open Go.RowKit

def atB (p : Ax → Bool) (l : List Ax) (a : Nat) : Bool := match l[a - 1]? with | some x => if a = 0 then false else p x | none => false
theorem atB_succ (p : Ax → Bool) {l : List Ax} {i : Nat} {x : Ax} (h : l[i]? = some x) : atB p l (i + 1) = p x := by
  unfold atB
  rw [Nat.add_sub_cancel, h]
  simp
theorem atB_zero (p : Ax → Bool) (l : List Ax) : atB p l 0 = false := by
  unfold atB
  cases l[0 - 1]? <;> simp
theorem atB_far (p : Ax → Bool) {l : List Ax} {a : Nat} (h : l.length < a) : atB p l a = false := by
  unfold atB
  rw [List.getElem?_eq_none (by omega)]
theorem atB_set (p : Ax → Bool) {l : List Ax} {i : Nat} {x : Ax} (y : Ax) (h : l[i]? = some x) (a : Nat) : atB p (l.set i y) a = if a = i + 1 then p y else atB p l a := by
  have hi := (List.getElem?_eq_some_iff.1 h).1
  cases a with
  | zero => rw [atB_zero, atB_zero]; simp
  | succ j =>
    by_cases e : j = i
    · subst e
      rw [if_pos rfl]
      exact atB_succ p (by rw [List.getElem?_set]; simp [hi])
    · rw [if_neg (by omega)]
      unfold atB
      rw [Nat.add_sub_cancel, List.getElem?_set, if_neg (fun h => e h.symm)]
theorem atB_map (p : Ax → Bool) (A : Ax → Ax) (l : List Ax) (a : Nat) : atB p (l.map A) a = atB (fun x => p (A x)) l a := by
  unfold atB
  rw [List.getElem?_map]
  cases l[a - 1]? <;> rfl
theorem isS_at (sp : Sp) (d a : Nat) : isS sp d a = atB sickB (sp d) a := rfl
/-- A list holds just the addresses that are so, each once. -/
structure Good (p : Ax → Bool) (l : List Ax) (m : List Nat) : Prop where
  nodup : m.Nodup
  len : m.length = cnt p l
  has : ∀ a, hasB m a = atB p l a
theorem hasB_snoc (m : List Nat) (c a : Nat) : hasB (m ++ [c]) a = (hasB m a || a == c) := by rw [Bool.eq_iff_iff]; simp [hasB]
theorem hasB_wo (m : List Nat) (c a : Nat) : hasB (wo m c) a = (hasB m a && a != c) := by
  rw [Bool.eq_iff_iff, hasB_iff, Bool.and_eq_true, hasB_iff]
  unfold wo
  rw [List.mem_filter]
theorem wo_length : ∀ (m : List Nat) (c : Nat), m.Nodup → c ∈ m → (wo m c).length + 1 = m.length
  | [], _, _, h => by simp at h
  | b :: m, c, hn, h => by
    rw [List.nodup_cons] at hn
    by_cases e : b = c
    · subst e
      have : wo m b = m := by
        unfold wo
        rw [List.filter_eq_self]
        intro x hx
        simp only [bne_iff_ne, ne_eq]
        intro e2
        subst e2
        exact hn.1 hx
      unfold wo at this ⊢
      rw [List.filter_cons_of_neg (by simp), this]
      simp
    · have hm : c ∈ m := by
        rcases List.mem_cons.1 h with h | h
        · exact absurd h.symm e
        · exact h
      have := wo_length m c hn.2 hm
      unfold wo at this ⊢
      rw [List.filter_cons_of_pos (by simpa using e)]
      simp only [List.length_cons]
      omega
theorem wo_none {m : List Nat} {c : Nat} (h : hasB m c = false) : wo m c = m := by
  unfold wo
  rw [List.filter_eq_self]
  intro x hx
  simp only [bne_iff_ne, ne_eq]
  intro e
  subst e
  rw [(hasB_iff m x).2 hx] at h
  cases h
section
variable {p : Ax → Bool} {l : List Ax} {m : List Nat} {i : Nat} {x y : Ax}
theorem Good.same (h : Good p l m) (hx : l[i]? = some x) (hp : p y = p x) : Good p (l.set i y) m := by
  refine ⟨h.nodup, ?_, fun a => ?_⟩
  · have := cnt_set p l i x y hx
    rw [hp] at this
    rw [h.len]
    omega
  · rw [h.has, atB_set p y hx]
    by_cases e : a = i + 1
    · subst e; rw [if_pos rfl, atB_succ p hx, hp]
    · rw [if_neg e]
theorem Good.on (h : Good p l m) (hx : l[i]? = some x) (h0 : p x = false) (h1 : p y = true) : Good p (l.set i y) (m ++ [i + 1]) := by
  have hno : hasB m (i + 1) = false := by rw [h.has, atB_succ p hx, h0]
  refine ⟨?_, ?_, fun a => ?_⟩
  · rw [List.nodup_append]
    refine ⟨h.nodup, by simp, fun a ha b hb e => ?_⟩
    obtain rfl : b = i + 1 := by simpa using hb
    subst e
    rw [(hasB_iff m _).2 ha] at hno
    cases hno
  · have := cnt_set p l i x y hx
    rw [h0, h1] at this
    rw [List.length_append, h.len]
    simp at this ⊢
    omega
  · rw [hasB_snoc, h.has, atB_set p y hx]
    by_cases e : a = i + 1
    · subst e; simp [h1]
    · rw [if_neg e, beq_false_of_ne e, Bool.or_false]
theorem Good.off (h : Good p l m) (hx : l[i]? = some x) (h0 : p x = true) (h1 : p y = false) : Good p (l.set i y) (wo m (i + 1)) := by
  have hyes : hasB m (i + 1) = true := by rw [h.has, atB_succ p hx, h0]
  refine ⟨?_, ?_, fun a => ?_⟩
  · exact h.nodup.filter _
  · have := cnt_set p l i x y hx
    have h3 := wo_length m (i + 1) h.nodup ((hasB_iff _ _).1 hyes)
    rw [h0, h1] at this
    rw [h.len] at h3
    simp at this
    omega
  · rw [hasB_wo, h.has, atB_set p y hx]
    by_cases e : a = i + 1
    · subst e; simp [h1]
    · rw [if_neg e, bne_iff_ne.2 e, Bool.and_true]
end
theorem cnt_congr {p q : Ax → Bool} : ∀ {l : List Ax}, (∀ x ∈ l, p x = q x) → cnt p l = cnt q l
  | [], _ => rfl
  | a :: l, h => by
    have := cnt_congr (l := l) fun x hx => h x (by simp [hx])
    simp only [cnt, this, h a (by simp)]
theorem cnt_map (p : Ax → Bool) (A : Ax → Ax) : ∀ l : List Ax, cnt p (l.map A) = cnt (fun x => p (A x)) l
  | [] => rfl
  | a :: l => by simp only [List.map_cons, cnt, cnt_map p A l]
theorem cnt_false : ∀ (l : List Ax), cnt (fun _ => false) l = 0
  | [] => rfl
  | a :: l => by simp [cnt, cnt_false l]
theorem atB_congr {p q : Ax → Bool} {l : List Ax} (h : ∀ x ∈ l, p x = q x) (a : Nat) : atB p l a = atB q l a := by
  unfold atB
  cases hx : l[a - 1]? with
  | none => rfl
  | some x => simp only [h x (List.mem_of_getElem? hx)]
theorem Good.map {p : Ax → Bool} {l : List Ax} {m : List Nat} {A : Ax → Ax} (h : Good p l m) (hA : ∀ x ∈ l, p (A x) = p x) : Good p (l.map A) m :=
  ⟨h.nodup, by rw [h.len, cnt_map]; exact (cnt_congr hA).symm, fun a => by rw [h.has, atB_map]; exact (atB_congr hA a).symm⟩
theorem Good.none {p : Ax → Bool} {l : List Ax} {A : Ax → Ax} (hA : ∀ x ∈ l, p (A x) = false) : Good p (l.map A) [] := by
  refine ⟨List.nodup_nil, ?_, fun a => ?_⟩
  · rw [cnt_map, cnt_congr (q := fun _ => false) hA, cnt_false]; rfl
  · rw [atB_map, atB_congr (q := fun _ => false) hA]
    unfold atB
    cases l[a - 1]? with
    | none => rfl
    | some x => simp [hasB]
theorem cnt_or {p q : Ax → Bool} : ∀ {l : List Ax}, (∀ x ∈ l, (p x && q x) = false) → cnt (fun x => p x || q x) l = cnt p l + cnt q l
  | [], _ => rfl
  | a :: l, h => by
    have := cnt_or (l := l) fun x hx => h x (by simp [hx])
    have h0 := h a (by simp)
    simp only [cnt, this]
    by_cases hp : p a = true <;> by_cases hq : q a = true <;> simp_all <;> omega
theorem atB_or {p q : Ax → Bool} (l : List Ax) (a : Nat) : atB (fun x => p x || q x) l a = (atB p l a || atB q l a) := by
  unfold atB
  cases l[a - 1]? with
  | none => rfl
  | some x => simp only []; split <;> rfl
theorem Good.both {p q : Ax → Bool} {l : List Ax} {m k : List Nat} {A : Ax → Ax} (h : Good p l m) (g : Good q l k) (hA : ∀ x ∈ l, p (A x) = (p x || q x)) (hd : ∀ x ∈ l, (p x && q x) = false) : Good p (l.map A) (m ++ k) := by
  refine ⟨?_, ?_, fun a => ?_⟩
  · rw [List.nodup_append]
    refine ⟨h.nodup, g.nodup, fun a ha b hb e => ?_⟩
    subst e
    have h1 := (hasB_iff m a).2 ha
    have h2 := (hasB_iff k a).2 hb
    rw [h.has] at h1
    rw [g.has] at h2
    unfold atB at h1 h2
    cases hx : l[a - 1]? with
    | none => rw [hx] at h1; cases h1
    | some x =>
      rw [hx] at h1 h2
      have := hd x (List.mem_of_getElem? hx)
      by_cases e : a = 0
      · simp [e] at h1
      · simp only [if_neg e] at h1 h2
        rw [h1, h2] at this
        cases this
  · rw [List.length_append, h.len, g.len, cnt_map, cnt_congr hA, cnt_or hd]
  · have e : hasB (m ++ k) a = (hasB m a || hasB k a) := by simp [hasB]
    rw [e, h.has, g.has, atB_map, atB_congr hA, atB_or]
/-- Both say the same. -/
structure SimD (l : List Ax) (rd : Rdk) : Prop where
  n : rd.n = l.length + 1
  is : ∀ (i : Nat) (x : Ax), l[i]? = some x → x.is < 3
  u : Good (isB 1) l (rd.l 0)
  h : Good (isB 2) l (rd.l 1)
  s : Good sickB l (rd.l 2)
theorem isB_eq {k : Nat} {x : Ax} : isB k x = true ↔ x.is = k := by simp [isB]
theorem isB_ne {k : Nat} {x : Ax} : isB k x = false ↔ x.is ≠ k := by simp [isB]
section
variable {l : List Ax} {rd : Rdk} {i : Nat} {x : Ax}
theorem SimD.is_set (h : SimD l rd) {y : Ax} (hy : y.is < 3) : ∀ (j : Nat) (z : Ax), (l.set i y)[j]? = some z → z.is < 3 := fun j z hz => by
  rw [List.getElem?_set] at hz
  split at hz
  · split at hz
    · cases hz; exact hy
    · cases hz
  · exact h.is j z hz
theorem SimD.mark (h : SimD l rd) (hx : l[i]? = some x) (h0 : x.is = 0) : SimD (l.set i { x with is := 1 }) (rd.set 0 (rd.l 0 ++ [i + 1])) :=
  ⟨by rw [List.length_set]; exact h.n, h.is_set (by simp), h.u.on hx (isB_ne.2 (by omega)) (isB_eq.2 rfl), h.h.same hx (by simp [isB, h0]), h.s.same hx rfl⟩
theorem SimD.give (h : SimD l rd) (hx : l[i]? = some x) (h0 : x.is = 1) : SimD (l.set i { x with is := 0 }) (rd.set 0 (wo (rd.l 0) (i + 1))) :=
  ⟨by rw [List.length_set]; exact h.n, h.is_set (by simp), h.u.off hx (isB_eq.2 h0) (isB_ne.2 (by simp)), h.h.same hx (by simp [isB, h0]), h.s.same hx rfl⟩
theorem SimD.hold (h : SimD l rd) (hx : l[i]? = some x) (h0 : x.is = 1) : SimD (l.set i { x with is := 2 }) ((rd.set 0 (wo (rd.l 0) (i + 1))).set 1 (rd.l 1 ++ [i + 1])) :=
  ⟨by rw [List.length_set]; exact h.n, h.is_set (by simp), h.u.off hx (isB_eq.2 h0) (isB_ne.2 (by simp)), h.h.on hx (isB_ne.2 (by omega)) (isB_eq.2 rfl), h.s.same hx rfl⟩
theorem SimD.fall (h : SimD l rd) (hx : l[i]? = some x) : SimD (l.set i { x with sick := true }) (rd.set 2 (wo (rd.l 2) (i + 1) ++ [i + 1])) := by
  have hi := (List.getElem?_eq_some_iff.1 hx).1
  refine ⟨by rw [List.length_set]; exact h.n, h.is_set (h.is i x hx), h.u.same hx rfl, h.h.same hx rfl, ?_⟩
  show Good sickB _ (wo (rd.l 2) (i + 1) ++ [i + 1])
  have g0 : Good sickB (l.set i { x with sick := false }) (wo (rd.l 2) (i + 1)) := by
    cases hs : x.sick with
    | true => exact h.s.off hx hs rfl
    | false =>
      have e : ({ x with sick := false } : Ax) = x := by cases x; simp at hs; subst hs; rfl
      rw [e, set_same _ _ _ hx, wo_none (by rw [h.s.has, atB_succ sickB hx]; exact hs)]
      exact h.s
  have g1 := g0.on (i := i) (x := { x with sick := false }) (y := { x with sick := true }) (by rw [List.getElem?_set]; simp [hi]) rfl rfl
  rw [List.set_set] at g1
  exact g1
theorem mem_is (h : SimD l rd) : ∀ y ∈ l, y.is < 3 := fun y hy => by
  obtain ⟨j, hj⟩ := List.getElem?_of_mem hy
  exact h.is j y hj
theorem is_map (h : SimD l rd) {t : Nat} (ht : t < 3) : ∀ (j : Nat) (z : Ax), (l.map (turnA 2 t))[j]? = some z → z.is < 3 := fun j z hz => by
  rw [List.getElem?_map] at hz
  obtain ⟨y, hy, rfl⟩ := Option.map_eq_some_iff.1 hz
  unfold turnA
  split
  · exact ht
  · exact h.is j y hy
theorem SimD.release (h : SimD l rd) : SimD (l.map (turnA 2 0)) (rd.set 1 []) := by
  refine ⟨by rw [List.length_map]; exact h.n, is_map h (by omega), h.u.map fun y hy => ?_, Good.none fun y hy => ?_, h.s.map fun y hy => ?_⟩
  · unfold turnA isB; split
    · rename_i e; simp [e]
    · rfl
  · unfold turnA isB; split
    · rfl
    · rename_i e; simpa using e
  · unfold turnA sickB; split <;> rfl
theorem SimD.back (h : SimD l rd) : SimD (l.map (turnA 2 1)) ((rd.set 0 (rd.l 0 ++ rd.l 1)).set 1 []) := by
  refine ⟨by rw [List.length_map]; exact h.n, is_map h (by omega), h.u.both h.h (fun y hy => ?_) (fun y hy => ?_), Good.none fun y hy => ?_, h.s.map fun y hy => ?_⟩
  · unfold turnA isB; split
    · rename_i e; simp [e]
    · rename_i e; simp [e]
  · unfold isB
    by_cases e : y.is = 1 <;> simp [e]
  · unfold turnA isB; split
    · rfl
    · rename_i e; simpa using e
  · unfold turnA sickB; split <;> rfl
theorem SimD.free (h : SimD l rd) (hx : l[i]? = some x) : rfree rd (i + 1) = free? x := by
  unfold rfree free?
  have e0 : (rd.l 0) = rd.l 0 := rfl
  rw [h.u.has, h.h.has, h.s.has, atB_succ _ hx, atB_succ _ hx, atB_succ _ hx]
  have h3 := h.is i x hx
  have h4 : x.is = 0 ∨ x.is = 1 ∨ x.is = 2 := by omega
  unfold isB sickB
  rcases h4 with e | e | e <;> cases x.sick <;> simp [e]
theorem SimD.len (h : SimD l rd) : ∀ j, j < 3 → (rd.l j).length ≤ l.length := fun j hj => by
  obtain rfl | rfl | rfl : j = 0 ∨ j = 1 ∨ j = 2 := by omega
  · rw [h.u.len]; exact cnt_le _ _
  · rw [h.h.len]; exact cnt_le _ _
  · rw [h.s.len]; exact cnt_le _ _
theorem cnt_rep (p : Ax → Bool) (x : Ax) (hp : p x = false) : ∀ n, cnt p (List.replicate n x) = 0
  | 0 => rfl
  | n + 1 => by simp [List.replicate_succ, cnt, hp, cnt_rep p x hp n]
theorem good_fresh (p : Ax → Bool) (x : Ax) (hp : p x = false) (n : Nat) : Good p (List.replicate n x) [] := by
  refine ⟨List.nodup_nil, (cnt_rep p x hp n).symm, fun a => ?_⟩
  unfold atB
  rw [List.getElem?_replicate]
  by_cases h : a - 1 < n
  · rw [if_pos h]
    simp [hasB, hp]
  · rw [if_neg h]
    rfl
theorem SimD.fresh (n : Nat) : SimD (List.replicate n ⟨0, false⟩) ⟨n + 1, fun _ => []⟩ :=
  ⟨by simp, fun i x hx => by obtain rfl := List.eq_of_mem_replicate (List.mem_of_getElem? hx); simp, good_fresh _ _ rfl n, good_fresh _ _ rfl n, good_fresh _ _ rfl n⟩
end
end Go.Proofs.Ytjfedhaafdfibaa
