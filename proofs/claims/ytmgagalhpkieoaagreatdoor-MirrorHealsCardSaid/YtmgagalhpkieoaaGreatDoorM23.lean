/- The space's addresses and the document's lists say the same: plain. -/
import Derived.Test.YtmgagalhpkieoaaGreatDoorM22
import Derived.Test.YtmgagalhpkieoaaGreatDoorM21
namespace Go.Proofs.YtmgagalhpkieoaaGreatDoor
open Go.RowKit

def atB (p : Ax → Bool) (l : List Ax) (a : Nat) : Bool := match l[a - 1]? with | some x => if a = 0 then false else p x | none => false
theorem atB_succ (p : Ax → Bool) {l : List Ax} {i : Nat} {x : Ax} (h : l[i]? = some x) : atB p l (i + 1) = p x := by
  unfold atB
  rw [Nat.add_sub_cancel, h]
  simp
theorem atB_zero (p : Ax → Bool) (l : List Ax) : atB p l 0 = false := by
  unfold atB
  cases l[0 - 1]? <;> simp
theorem atB_set (p : Ax → Bool) {l : List Ax} {i : Nat} {x : Ax} (y : Ax) (h : l[i]? = some x) (a : Nat) : atB p (l.set i y) a = if a = i + 1 then p y else atB p l a := by
  have hi := (List.getElem?_eq_some_iff.1 h).1
  cases a with
  | zero => rw [atB_zero, atB_zero]; simp
  | succ j =>
    by_cases e : j = i
    · subst e
      rw [if_pos rfl]
      exact atB_succ p (by rw [List.getElem?_set]; simp [hi])
    · rw [if_neg (by omega)]
      unfold atB
      rw [Nat.add_sub_cancel, List.getElem?_set, if_neg (fun h => e h.symm)]
theorem atB_map (p : Ax → Bool) (A : Ax → Ax) (l : List Ax) (a : Nat) : atB p (l.map A) a = atB (fun x => p (A x)) l a := by
  unfold atB
  rw [List.getElem?_map]
  cases l[a - 1]? <;> rfl
/-- A list holds just the addresses that are so, each once. -/
structure Good (p : Ax → Bool) (l : List Ax) (m : List Nat) : Prop where
  nodup : m.Nodup
  len : m.length = cnt p l
  has : ∀ a, hasB m a = atB p l a
theorem hasB_snoc (m : List Nat) (c a : Nat) : hasB (m ++ [c]) a = (hasB m a || a == c) := by rw [Bool.eq_iff_iff]; simp [hasB]
theorem hasB_wo (m : List Nat) (c a : Nat) : hasB (wo m c) a = (hasB m a && a != c) := by
  rw [Bool.eq_iff_iff, hasB_iff, Bool.and_eq_true, hasB_iff]
  unfold wo
  rw [List.mem_filter]
theorem wo_length : ∀ (m : List Nat) (c : Nat), m.Nodup → c ∈ m → (wo m c).length + 1 = m.length
  | [], _, _, h => by simp at h
  | b :: m, c, hn, h => by
    rw [List.nodup_cons] at hn
    by_cases e : b = c
    · subst e
      have : wo m b = m := by
        unfold wo
        rw [List.filter_eq_self]
        intro x hx
        simp only [bne_iff_ne, ne_eq]
        intro e2
        subst e2
        exact hn.1 hx
      unfold wo at this ⊢
      rw [List.filter_cons_of_neg (by simp), this]
      simp
    · have hm : c ∈ m := by
        rcases List.mem_cons.1 h with h | h
        · exact absurd h.symm e
        · exact h
      have := wo_length m c hn.2 hm
      unfold wo at this ⊢
      rw [List.filter_cons_of_pos (by simpa using e)]
      simp only [List.length_cons]
      omega
section
variable {p : Ax → Bool} {l : List Ax} {m : List Nat} {i : Nat} {x y : Ax}
theorem Good.same (h : Good p l m) (hx : l[i]? = some x) (hp : p y = p x) : Good p (l.set i y) m := by
  refine ⟨h.nodup, ?_, fun a => ?_⟩
  · have := cnt_set p l i x y hx
    rw [hp] at this
    rw [h.len]
    omega
  · rw [h.has, atB_set p y hx]
    by_cases e : a = i + 1
    · subst e; rw [if_pos rfl, atB_succ p hx, hp]
    · rw [if_neg e]
theorem Good.on (h : Good p l m) (hx : l[i]? = some x) (h0 : p x = false) (h1 : p y = true) : Good p (l.set i y) (m ++ [i + 1]) := by
  have hno : hasB m (i + 1) = false := by rw [h.has, atB_succ p hx, h0]
  refine ⟨?_, ?_, fun a => ?_⟩
  · rw [List.nodup_append]
    refine ⟨h.nodup, by simp, fun a ha b hb e => ?_⟩
    obtain rfl : b = i + 1 := by simpa using hb
    subst e
    rw [(hasB_iff m _).2 ha] at hno
    cases hno
  · have := cnt_set p l i x y hx
    rw [h0, h1] at this
    rw [List.length_append, h.len]
    simp at this ⊢
    omega
  · rw [hasB_snoc, h.has, atB_set p y hx]
    by_cases e : a = i + 1
    · subst e; simp [h1]
    · rw [if_neg e, beq_false_of_ne e, Bool.or_false]
theorem Good.off (h : Good p l m) (hx : l[i]? = some x) (h0 : p x = true) (h1 : p y = false) : Good p (l.set i y) (wo m (i + 1)) := by
  have hyes : hasB m (i + 1) = true := by rw [h.has, atB_succ p hx, h0]
  refine ⟨?_, ?_, fun a => ?_⟩
  · exact h.nodup.filter _
  · have := cnt_set p l i x y hx
    have h3 := wo_length m (i + 1) h.nodup ((hasB_iff _ _).1 hyes)
    rw [h0, h1] at this
    rw [h.len] at h3
    simp at this
    omega
  · rw [hasB_wo, h.has, atB_set p y hx]
    by_cases e : a = i + 1
    · subst e; simp [h1]
    · rw [if_neg e, bne_iff_ne.2 e, Bool.and_true]
end
theorem cnt_congr {p q : Ax → Bool} : ∀ {l : List Ax}, (∀ x ∈ l, p x = q x) → cnt p l = cnt q l
  | [], _ => rfl
  | a :: l, h => by
    have := cnt_congr (l := l) fun x hx => h x (by simp [hx])
    simp only [cnt, this, h a (by simp)]
theorem cnt_map (p : Ax → Bool) (A : Ax → Ax) : ∀ l : List Ax, cnt p (l.map A) = cnt (fun x => p (A x)) l
  | [] => rfl
  | a :: l => by simp only [List.map_cons, cnt, cnt_map p A l]
theorem cnt_false : ∀ (l : List Ax), cnt (fun _ => false) l = 0
  | [] => rfl
  | a :: l => by simp [cnt, cnt_false l]
theorem atB_congr {p q : Ax → Bool} {l : List Ax} (h : ∀ x ∈ l, p x = q x) (a : Nat) : atB p l a = atB q l a := by
  unfold atB
  cases hx : l[a - 1]? with
  | none => rfl
  | some x => simp only [h x (List.mem_of_getElem? hx)]
theorem Good.map {p : Ax → Bool} {l : List Ax} {m : List Nat} {A : Ax → Ax} (h : Good p l m) (hA : ∀ x ∈ l, p (A x) = p x) : Good p (l.map A) m :=
  ⟨h.nodup, by rw [h.len, cnt_map]; exact (cnt_congr hA).symm, fun a => by rw [h.has, atB_map]; exact (atB_congr hA a).symm⟩
theorem Good.none {p : Ax → Bool} {l : List Ax} {A : Ax → Ax} (hA : ∀ x ∈ l, p (A x) = false) : Good p (l.map A) [] := by
  refine ⟨List.nodup_nil, ?_, fun a => ?_⟩
  · rw [cnt_map, cnt_congr (q := fun _ => false) hA, cnt_false]; rfl
  · rw [atB_map, atB_congr (q := fun _ => false) hA]
    unfold atB
    cases l[a - 1]? with
    | none => rfl
    | some x => simp [hasB]
theorem cnt_or {p q : Ax → Bool} : ∀ {l : List Ax}, (∀ x ∈ l, (p x && q x) = false) → cnt (fun x => p x || q x) l = cnt p l + cnt q l
  | [], _ => rfl
  | a :: l, h => by
    have := cnt_or (l := l) fun x hx => h x (by simp [hx])
    have h0 := h a (by simp)
    simp only [cnt, this]
    by_cases hp : p a = true <;> by_cases hq : q a = true <;> simp_all <;> omega
theorem atB_or {p q : Ax → Bool} (l : List Ax) (a : Nat) : atB (fun x => p x || q x) l a = (atB p l a || atB q l a) := by
  unfold atB
  cases l[a - 1]? with
  | none => rfl
  | some x => simp only []; split <;> rfl
theorem Good.both {p q : Ax → Bool} {l : List Ax} {m k : List Nat} {A : Ax → Ax} (h : Good p l m) (g : Good q l k) (hA : ∀ x ∈ l, p (A x) = (p x || q x)) (hd : ∀ x ∈ l, (p x && q x) = false) : Good p (l.map A) (m ++ k) := by
  refine ⟨?_, ?_, fun a => ?_⟩
  · rw [List.nodup_append]
    refine ⟨h.nodup, g.nodup, fun a ha b hb e => ?_⟩
    subst e
    have h1 := (hasB_iff m a).2 ha
    have h2 := (hasB_iff k a).2 hb
    rw [h.has] at h1
    rw [g.has] at h2
    unfold atB at h1 h2
    cases hx : l[a - 1]? with
    | none => rw [hx] at h1; cases h1
    | some x =>
      rw [hx] at h1 h2
      have := hd x (List.mem_of_getElem? hx)
      by_cases e : a = 0
      · simp [e] at h1
      · simp only [if_neg e] at h1 h2
        rw [h1, h2] at this
        cases this
  · rw [List.length_append, h.len, g.len, cnt_map, cnt_congr hA, cnt_or hd]
  · have e : hasB (m ++ k) a = (hasB m a || hasB k a) := by simp [hasB]
    rw [e, h.has, g.has, atB_map, atB_congr hA, atB_or]
/-- Both say the same. -/
structure SimD (l : List Ax) (rd : Rdk) : Prop where
  n : rd.n = l.length + 1
  is : ∀ (i : Nat) (x : Ax), l[i]? = some x → x.is < 3
  u : Good (isB 1) l (rd.l 0)
  h : Good (isB 2) l (rd.l 1)
  s : Good sickB l (rd.l 2)
theorem isB_eq {k : Nat} {x : Ax} : isB k x = true ↔ x.is = k := by simp [isB]
theorem isB_ne {k : Nat} {x : Ax} : isB k x = false ↔ x.is ≠ k := by simp [isB]
section
variable {l : List Ax} {rd : Rdk} {i : Nat} {x : Ax}
theorem SimD.is_set (h : SimD l rd) {y : Ax} (hy : y.is < 3) : ∀ (j : Nat) (z : Ax), (l.set i y)[j]? = some z → z.is < 3 := fun j z hz => by
  rw [List.getElem?_set] at hz
  split at hz
  · split at hz
    · cases hz; exact hy
    · cases hz
  · exact h.is j z hz
theorem SimD.hold (h : SimD l rd) (hx : l[i]? = some x) (h0 : x.is = 1) : SimD (l.set i { x with is := 2 }) ((rd.set 0 (wo (rd.l 0) (i + 1))).set 1 (rd.l 1 ++ [i + 1])) :=
  ⟨by rw [List.length_set]; exact h.n, h.is_set (by simp), h.u.off hx (isB_eq.2 h0) (isB_ne.2 (by simp)), h.h.on hx (isB_ne.2 (by omega)) (isB_eq.2 rfl), h.s.same hx rfl⟩
theorem is_map (h : SimD l rd) {t : Nat} (ht : t < 3) : ∀ (j : Nat) (z : Ax), (l.map (turnA 2 t))[j]? = some z → z.is < 3 := fun j z hz => by
  rw [List.getElem?_map] at hz
  obtain ⟨y, hy, rfl⟩ := Option.map_eq_some_iff.1 hz
  unfold turnA
  split
  · exact ht
  · exact h.is j y hy
theorem SimD.back (h : SimD l rd) : SimD (l.map (turnA 2 1)) ((rd.set 0 (rd.l 0 ++ rd.l 1)).set 1 []) := by
  refine ⟨by rw [List.length_map]; exact h.n, is_map h (by omega), h.u.both h.h (fun y hy => ?_) (fun y hy => ?_), Good.none fun y hy => ?_, h.s.map fun y hy => ?_⟩
  · unfold turnA isB; split
    · rename_i e; simp [e]
    · rename_i e; simp [e]
  · unfold isB
    by_cases e : y.is = 1 <;> simp [e]
  · unfold turnA isB; split
    · rfl
    · rename_i e; simpa using e
  · unfold turnA sickB; split <;> rfl
theorem SimD.free (h : SimD l rd) (hx : l[i]? = some x) : rfree rd (i + 1) = free? x := by
  unfold rfree free?
  have e0 : (rd.l 0) = rd.l 0 := rfl
  rw [h.u.has, h.h.has, h.s.has, atB_succ _ hx, atB_succ _ hx, atB_succ _ hx]
  have h3 := h.is i x hx
  have h4 : x.is = 0 ∨ x.is = 1 ∨ x.is = 2 := by omega
  unfold isB sickB
  rcases h4 with e | e | e <;> cases x.sick <;> simp [e]
theorem SimD.len (h : SimD l rd) : ∀ j, j < 3 → (rd.l j).length ≤ l.length := fun j hj => by
  obtain rfl | rfl | rfl : j = 0 ∨ j = 1 ∨ j = 2 := by omega
  · rw [h.u.len]; exact cnt_le _ _
  · rw [h.h.len]; exact cnt_le _ _
  · rw [h.s.len]; exact cnt_le _ _
theorem cnt_rep (p : Ax → Bool) (x : Ax) (hp : p x = false) : ∀ n, cnt p (List.replicate n x) = 0
  | 0 => rfl
  | n + 1 => by simp [List.replicate_succ, cnt, hp, cnt_rep p x hp n]
theorem good_fresh (p : Ax → Bool) (x : Ax) (hp : p x = false) (n : Nat) : Good p (List.replicate n x) [] := by
  refine ⟨List.nodup_nil, (cnt_rep p x hp n).symm, fun a => ?_⟩
  unfold atB
  rw [List.getElem?_replicate]
  by_cases h : a - 1 < n
  · rw [if_pos h]
    simp [hasB, hp]
  · rw [if_neg h]
    rfl
theorem SimD.fresh (n : Nat) : SimD (List.replicate n ⟨0, false⟩) ⟨n + 1, fun _ => []⟩ :=
  ⟨by simp, fun i x hx => by obtain rfl := List.eq_of_mem_replicate (List.mem_of_getElem? hx); simp, good_fresh _ _ rfl n, good_fresh _ _ rfl n, good_fresh _ _ rfl n⟩
end
end Go.Proofs.YtmgagalhpkieoaaGreatDoor
/- The program's kind of disk and space, and the document's: they tell the same. -/
namespace Go.Proofs.YtmgagalhpkieoaaGreatDoor
open Go.RowKit

def kinD : Kin Dsk Sp := ⟨readB, wrote, flushed, Dsk.dead, fun s k a => oneS s k a (fun x => { x with sick := true })⟩
theorem readE_some (s : Dsk) (p : Pw) (a : Nat) : readE s p a = 0 ↔ (readB s p a).isSome = true := by
  unfold readE readB
  split
  · rename_i h
    simp [h]
  · split
    · split <;> simp_all
    · simp
end Go.Proofs.YtmgagalhpkieoaaGreatDoor
/- How many there can be of what a plain mirror counts and keeps. -/
namespace Go.Proofs.YtmgagalhpkieoaaGreatDoor
open Go.RowKit

theorem kept_lim (s : Dsk) (a : Nat) (b : d_Bs) : (kept s a b).cache.length ≤ s.cache.length + 1 ∧ (kept s a b).n = s.n ∧ (kept s a b).dead = s.dead := by
  unfold kept
  split <;> simp
theorem wrote_lim (s : Dsk) (p : Pw) (a : Nat) (b : d_Bs) : (wrote s p a b).2.1.cache.length ≤ s.cache.length + 1 ∧ (wrote s p a b).2.1.n = s.n ∧ (wrote s p a b).2.1.dead = s.dead := by
  unfold wrote
  split
  · simp
  · split
    · split
      · simp
      · split
        · simp
        · split
          · have := kept_lim { s with astray := none } ‹Nat› b
            simpa using this
          · exact kept_lim s a b
    · simp
theorem flushed_lim (s : Dsk) (p : Pw) : (flushed s p).2.1.cache.length ≤ s.cache.length ∧ (flushed s p).2.1.n = s.n ∧ (flushed s p).2.1.dead = s.dead := by
  unfold flushed
  split
  · simp
  · split <;> simp
structure Lim (x : Mi Dsk Sp) (n : Nat) : Prop where
  c : ∀ k, k < 2 → (x.d k).cache.length ≤ n
  f : ∀ k, x.f k ≤ n
  g : ∀ k, x.g k ≤ n
  mv : x.mv.length ≤ n
theorem Lim.mono {x : Mi Dsk Sp} {n m : Nat} (h : Lim x n) (hm : n ≤ m) : Lim x m :=
  ⟨fun k hk => Nat.le_trans (h.c k hk) hm, fun k => Nat.le_trans (h.f k) hm, fun k => Nat.le_trans (h.g k) hm, Nat.le_trans h.mv hm⟩
theorem addMv_len (l : List Pt) (p : Pt) : (addMv l p).length ≤ l.length + 1 := by
  unfold addMv
  split <;> simp
theorem Lim.wrote1 {x : Mi Dsk Sp} {n : Nat} (h : Lim x n) (b : Bs) {c : Cpy} : Lim (wrote1 kinD x b c).2 (n + 1) := by
  have hw := wrote_lim (x.d c.1) x.p c.2 b
  refine ⟨fun k hk => ?_, fun k => Nat.le_succ_of_le (h.f k), fun k => Nat.le_succ_of_le (h.g k), Nat.le_succ_of_le h.mv⟩
  show (upk x.d c.1 (wrote (x.d c.1) x.p c.2 b).2.1 k).cache.length ≤ n + 1
  by_cases e : k = c.1
  · subst e
    rw [upk_same]
    have := h.c _ hk
    omega
  · rw [upk_other _ _ e]
    have := h.c k hk
    omega
theorem Lim.mend1 {x : Mi Dsk Sp} {n : Nat} (h : Lim x n) (p : Pt) (b : Bs) (c : Cpy) : Lim (mend1 kinD p b x c) (n + 1) := by
  have h1 := h.wrote1 b (c := c)
  unfold Go.Proofs.YtmgagalhpkieoaaGreatDoor.mend1
  split
  · refine ⟨h1.c, h1.f, fun k => ?_, h1.mv⟩
    show upk x.g c.1 (x.g c.1 + 1) k ≤ n + 1
    by_cases e : k = c.1
    · subst e; rw [upk_same]; have := h.g c.1; omega
    · rw [upk_other _ _ e]; have := h.g k; omega
  · refine ⟨h1.c, h1.f, h1.g, ?_⟩
    show (addMv x.mv p).length ≤ n + 1
    have := addMv_len x.mv p
    have := h.mv
    omega
theorem Lim.mends (p : Pt) (b : Bs) : ∀ (l : List Cpy) (x : Mi Dsk Sp) (n : Nat), Lim x n → Lim (mends kinD p b x l) (n + l.length)
  | [], _, _, h => h
  | c :: l, _, n, h => by
    have := Lim.mends p b l _ _ (h.mend1 p b c)
    simp only [List.length_cons]
    rw [show n + (l.length + 1) = n + 1 + l.length by omega]
    exact this
theorem cntC_le (l : List Cpy) (k : Nat) : cntC l k ≤ l.length := List.countP_le_length
theorem Lim.founds {x : Mi Dsk Sp} {n : Nat} (h : Lim x n) (l : List Cpy) : Lim (founds x l) (n + l.length) :=
  ⟨fun k hk => Nat.le_trans (h.c k hk) (by omega), fun k => by show x.f k + cntC l k ≤ _; have := h.f k; have := cntC_le l k; omega, fun k => Nat.le_trans (h.g k) (by omega), Nat.le_trans h.mv (by omega)⟩
theorem q_copies_len : ∀ (l : List Nat) (i : Nat), (copiesFrom i l).length ≤ l.length
  | [], _ => by simp [copiesFrom]
  | a :: l, i => by
    have := q_copies_len l (i + 1)
    unfold copiesFrom
    split <;> simp <;> omega
theorem copies_len {p : Pt} (hp : p.OK) : (copiesP p).length ≤ 4 := by
  have := q_copies_len p.ats 0
  rw [hp.len] at this
  exact this
theorem till_len (g : Cpy → Bool) : ∀ l : List Cpy, (till g l).length ≤ l.length
  | [] => by simp [till]
  | a :: l => by
    have := till_len g l
    unfold till
    split <;> simp
    omega
theorem ill_len {δ σ : Type} (o : Kin δ σ) (x : Mi δ σ) {p : Pt} (hp : p.OK) (all : Bool) : (ill o x p (seen o x p all)).length ≤ 4 := by
  have h1 : (ill o x p (seen o x p all)).length ≤ (seen o x p all).length := List.length_filter_le _ _
  have h2 : (seen o x p all).length ≤ (copiesP p).length := by
    unfold seen
    split
    · exact Nat.le_refl _
    · exact till_len _ _
  have := copies_len hp
  omega
theorem Lim.heal {x : Mi Dsk Sp} {n : Nat} (h : Lim x n) {p : Pt} (hp : p.OK) (all : Bool) : Lim (healS kinD x p all) (n + 8) := by
  have hl := ill_len kinD x hp all
  have h1 := h.founds (ill kinD x p (seen kinD x p all))
  unfold healS endS
  split
  · split
    · exact (Lim.mends p _ _ _ _ h1).mono (by omega)
    · exact h1.mono (by omega)
  · exact h.mono (by omega)
theorem Lim.wrotes (b : Bs) : ∀ (l : List Cpy) (e : Int) (x : Mi Dsk Sp) (n : Nat), Lim x n → Lim (l.foldl (fun r c => (if (Go.Proofs.YtmgagalhpkieoaaGreatDoor.wrote1 kinD r.2 b c).1 = 0 then 0 else r.1, (Go.Proofs.YtmgagalhpkieoaaGreatDoor.wrote1 kinD r.2 b c).2)) (e, x)).2 (n + l.length)
  | [], _, _, _, h => h
  | c :: l, e, _, n, h => by
    simp only [List.foldl_cons, List.length_cons]
    rw [show n + (l.length + 1) = n + 1 + l.length by omega]
    exact Lim.wrotes b l _ _ _ (h.wrote1 b)
theorem Lim.write {x : Mi Dsk Sp} {n : Nat} (h : Lim x n) {p : Pt} (hp : p.OK) (b : Bs) : Lim (writeR kinD x p b).2 (n + 8) := by
  have := copies_len hp
  unfold writeR
  split
  · split
    · exact (Lim.wrotes b _ _ _ _ h).mono (by omega)
    · exact h.mono (by omega)
  · exact h.mono (by omega)
theorem Lim.fl1 {x : Mi Dsk Sp} {n : Nat} (h : Lim x n) (k : Nat) : Lim (fl1 kinD x k).2 n := by
  refine ⟨fun i hi => ?_, h.f, h.g, h.mv⟩
  show (upk x.d k (flushed (x.d k) x.p).2.1 i).cache.length ≤ n
  by_cases e : i = k
  · subst e
    rw [upk_same]
    exact Nat.le_trans (flushed_lim _ _).1 (h.c i hi)
  · rw [upk_other _ _ e]
    exact h.c i hi
theorem Lim.flush {x : Mi Dsk Sp} {n : Nat} (h : Lim x n) : Lim (flushR kinD x).2 (n + 8) := ((h.fl1 0).fl1 1).mono (by omega)
theorem cps_ok {p : Pt} (hp : p.OK) : ∀ c ∈ copiesP p, c.1 < 2 ∧ 0 < c.2 ∧ c.2 < 65536 := fun c hc => by
  rw [← cps_val hp] at hc
  obtain ⟨y, _, rfl⟩ := List.mem_map.1 hc
  exact ⟨y.2.1, y.2.2.1, y.2.2.2⟩
end Go.Proofs.YtmgagalhpkieoaaGreatDoor
