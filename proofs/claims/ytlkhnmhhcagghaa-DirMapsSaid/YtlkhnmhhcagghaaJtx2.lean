/- Texts, plainly: parts of paths, joined and parted again. -/
import Derived.Test.YtlkhnmhhcagghaaJtxt
namespace Go.Proofs.Ytlkhnmhhcagghaa
open Go

def keep (p : List UInt8) : Bool := !(p == [] || p == [46])
def parts (l : List UInt8) : List (List UInt8) := (cut l).filter keep
def absL (l : List UInt8) : Bool := l.head? == some 47
def dirLast (p : List UInt8) : Bool := p == [] || p == [46] || p == [46, 46]
def slL (l : List UInt8) : Bool := dirLast ((cut l).getLastD [])
def long (P : List (List UInt8)) : Bool := P.any (fun p => decide (24 < p.length))
def errS (l : List UInt8) : Nat := if l = [] then 20 else if 256 < l.length then 33 else if flt false l ≠ 0 then flt false l else if long (parts l) = true then 33 else 0
def errC (l : List UInt8) : Nat := if flt true l ≠ 0 then flt true l else if l = [] ∨ l = [46] ∨ l = [46, 46] then 26 else if 24 < l.length then 33 else 0
def inter : List (List UInt8) → List UInt8
  | [] => []
  | [p] => p
  | p :: q :: r => p ++ 47 :: inter (q :: r)
def joinL (a : Bool) (P : List (List UInt8)) (t : Bool) : List UInt8 :=
  if P = [] then (if a = true then [47] else [46]) else (if a = true then [47] else []) ++ inter P ++ (if (t && !(P.getLastD [] == [46, 46])) = true then [47] else [])

theorem inter_snoc : ∀ (P : List (List UInt8)) (p : List UInt8), P ≠ [] → inter (P ++ [p]) = inter P ++ 47 :: p
  | [], _, h => absurd rfl h
  | [q], p, _ => rfl
  | q :: r :: R, p, _ => by
    have := inter_snoc (r :: R) p (by simp)
    show q ++ 47 :: inter ((r :: R) ++ [p]) = _
    rw [this]
    simp [inter]
theorem inter_cons (P : List (List UInt8)) (h : P ≠ []) : inter ([] :: P) = 47 :: inter P := by
  cases P with
  | nil => exact absurd rfl h
  | cons p P => rfl
theorem cut_inter : ∀ (P : List (List UInt8)), P ≠ [] → (∀ p ∈ P, (47 : UInt8) ∉ p) → cut (inter P) = P
  | [], h, _ => absurd rfl h
  | [q], _, hf => cut_self q (hf q (by simp))
  | q :: r :: R, _, hf => by
    show cut (q ++ 47 :: inter (r :: R)) = _
    rw [cut_slash q _ (hf q (by simp)), cut_inter (r :: R) (by simp) (fun p hp => hf p (List.mem_cons_of_mem _ hp))]

theorem keep_iff (p : List UInt8) : keep p = true ↔ p ≠ [] ∧ p ≠ [46] := by
  simp [keep]
theorem parts_kept {l p : List UInt8} (h : p ∈ parts l) : p ∈ cut l ∧ p ≠ [] ∧ p ≠ [46] := by
  have := List.mem_filter.1 h
  exact ⟨this.1, (keep_iff p).1 this.2⟩
theorem filter_all (P : List (List UInt8)) (h : ∀ p ∈ P, p ≠ [] ∧ p ≠ [46]) : P.filter keep = P :=
  List.filter_eq_self.2 (fun p hp => (keep_iff p).2 (h p hp))
theorem wt_filter (C : List (List UInt8)) : wt (C.filter keep) ≤ wt C := by
  induction C with
  | nil => simp
  | cons c C ih =>
    rw [List.filter_cons]
    split
    · simp [wt] at ih ⊢
      exact ih
    · simp [wt] at ih ⊢
      omega
theorem wt_append (A B : List (List UInt8)) : wt (A ++ B) = wt A + wt B := by simp [wt]
theorem wt_one (p : List UInt8) : wt [p] = p.length + 1 := by simp [wt]
theorem wt_cons (p : List UInt8) (P : List (List UInt8)) : wt (p :: P) = p.length + 1 + wt P := by simp [wt]
theorem absL_cut {l : List UInt8} (h : absL l = true) : ∃ y, l = 47 :: y := by
  cases l with
  | nil => simp [absL] at h
  | cons b y =>
    simp [absL] at h
    exact ⟨y, by rw [h]⟩
theorem last_split {α : Type} (C : List α) (h : C ≠ []) (d : α) : ∃ C', C = C' ++ [C.getLastD d] := by
  refine ⟨C.dropLast, ?_⟩
  rw [List.getLastD_eq_getLast?, List.getLast?_eq_some_getLast h]
  exact (List.dropLast_concat_getLast h).symm
theorem getLastD_append {α : Type} (A : List α) (z d : α) : (A ++ [z]).getLastD d = z := by
  rw [List.getLastD_eq_getLast?]
  simp

/-- The pieces of what is joined. -/
def joinJ (a : Bool) (P : List (List UInt8)) (t : Bool) : List (List UInt8) :=
  (if a = true then [[]] else []) ++ P ++ (if (t && !(P.getLastD [] == [46, 46])) = true then [[]] else [])
theorem joinL_inter (a : Bool) (P : List (List UInt8)) (t : Bool) (h : P ≠ []) : joinL a P t = inter (joinJ a P t) := by
  unfold joinL joinJ
  rw [if_neg h]
  have hR : ∀ (u : Bool), inter P ++ (if u = true then [47] else []) = inter (P ++ (if u = true then [[]] else [])) := by
    intro u
    cases u
    · simp
    · simp [inter_snoc P [] h]
  rw [List.append_assoc, hR]
  cases a
  · simp
  · rw [if_pos rfl, if_pos rfl, List.append_assoc]
    rw [show ([[]] : List (List UInt8)) ++ (P ++ (if (t && !(P.getLastD [] == [46, 46])) = true then [[]] else [])) = [] :: (P ++ (if (t && !(P.getLastD [] == [46, 46])) = true then [[]] else [])) from rfl,
      inter_cons _ (by simp [h])]
    rfl
theorem joinJ_cut (a : Bool) (P : List (List UInt8)) (t : Bool) (h : P ≠ []) (hf : ∀ p ∈ P, (47 : UInt8) ∉ p) : cut (joinL a P t) = joinJ a P t := by
  rw [joinL_inter a P t h]
  refine cut_inter _ (by simp [joinJ, h]) ?_
  intro p hp
  unfold joinJ at hp
  rcases List.mem_append.1 hp with hp | hp
  · rcases List.mem_append.1 hp with hp | hp
    · split at hp
      · simp at hp; simp [hp]
      · simp at hp
    · exact hf p hp
  · split at hp
    · simp at hp; simp [hp]
    · simp at hp

/-- P3.5: what is told of what was joined. -/
theorem back {s : List UInt8} (h : errS s = 0) :
    errS (joinL (absL s) (parts s) (slL s)) = 0 ∧ parts (joinL (absL s) (parts s) (slL s)) = parts s ∧ absL (joinL (absL s) (parts s) (slL s)) = absL s ∧
    slL (joinL (absL s) (parts s) (slL s)) = slL s ∧ (joinL (absL s) (parts s) (slL s)).length ≤ s.length ∧ ∀ p ∈ parts s, p = [46, 46] ∨ errC p = 0 := by
  have hs : s ≠ [] := by intro e; simp [errS, e] at h
  have hlen : s.length ≤ 256 := by
    unfold errS at h
    rw [if_neg hs] at h
    split at h
    · cases h
    · omega
  have hflt : flt false s = 0 := by
    unfold errS at h
    rw [if_neg hs, if_neg (by omega)] at h
    split at h
    · rename_i h1; exact absurd h h1
    · rename_i h1; simpa using h1
  have hlong : long (parts s) = false := by
    unfold errS at h
    rw [if_neg hs, if_neg (by omega), if_neg (by simp [hflt])] at h
    split at h
    · cases h
    · rename_i h1; simpa using h1
  have hfree : ∀ p ∈ parts s, (47 : UInt8) ∉ p := fun p hp => cut_free s p (parts_kept hp).1
  have hf0 : ∀ p ∈ cut s, flt false p = 0 := (flt_cut _ s (Nat.le_refl _)).1 hflt
  have hpc : ∀ p ∈ parts s, p = [46, 46] ∨ errC p = 0 := by
    intro p hp
    obtain ⟨h1, h2, h3⟩ := parts_kept hp
    by_cases h4 : p = [46, 46]
    · exact .inl h4
    · right
      have h5 : ¬ 24 < p.length := by
        intro h6
        have : long (parts s) = true := List.any_eq_true.2 ⟨p, hp, by simpa using h6⟩
        rw [this] at hlong
        cases hlong
      unfold errC
      rw [flt_name _ p (Nat.le_refl _) (hfree p hp), hf0 p h1]
      simp [h2, h3, h4, h5]
  by_cases hP : parts s = []
  · have hsl : slL s = true := by
      obtain ⟨C', hC⟩ := last_split (cut s) (cut_ne s) []
      unfold slL dirLast
      have hm : (cut s).getLastD [] ∈ cut s := by
        have : (cut s).getLastD [] ∈ C' ++ [(cut s).getLastD []] := by simp
        rw [← hC] at this
        exact this
      have : ¬ (cut s).getLastD [] ∈ parts s := by rw [hP]; simp
      have : ¬ keep ((cut s).getLastD []) = true := fun hk => this (List.mem_filter.2 ⟨hm, hk⟩)
      rw [keep_iff] at this
      by_cases e1 : (cut s).getLastD [] = []
      · rw [e1]
        rfl
      · by_cases e2 : (cut s).getLastD [] = [46]
        · rw [e2]
          rfl
        · exact absurd ⟨e1, e2⟩ this
    have h1 : 1 ≤ s.length := by cases s <;> simp_all
    rw [hP, hsl]
    cases ha : absL s
    · exact ⟨by decide, by decide, by decide, by decide, by simpa [joinL] using h1, fun p hp => by cases hp⟩
    · exact ⟨by decide, by decide, by decide, by decide, by simpa [joinL] using h1, fun p hp => by cases hp⟩
  · have hJ := joinJ_cut (absL s) (parts s) (slL s) hP hfree
    have hwj := wt_cut _ (joinL (absL s) (parts s) (slL s)) (Nat.le_refl _)
    have hws := wt_cut _ s (Nat.le_refl _)
    rw [hJ] at hwj
    have hkept : ∀ p ∈ parts s, p ≠ [] ∧ p ≠ [46] := fun p hp => (parts_kept hp).2
    -- the pieces behind the first slash
    obtain ⟨C1, hC1, hC1p, hC1w, hC1l⟩ : ∃ C1 : List (List UInt8), C1 ≠ [] ∧ C1.filter keep = parts s ∧ wt (cut s) = (if absL s = true then 1 else 0) + wt C1 ∧ C1.getLastD [] = (cut s).getLastD [] := by
      cases ha : absL s
      · exact ⟨cut s, cut_ne s, rfl, by simp, rfl⟩
      · obtain ⟨y, rfl⟩ := absL_cut ha
        have e : cut (47 :: y) = [] :: cut y := cut_slash [] y (by simp)
        refine ⟨cut y, cut_ne y, ?_, ?_, ?_⟩
        · unfold parts
          rw [e]
          rfl
        · rw [e, wt_cons]
          simp
        · rw [e]
          obtain ⟨C', hC⟩ := last_split (cut y) (cut_ne y) []
          generalize (cut y).getLastD [] = z at hC
          rw [hC]
          rw [show ([] : List UInt8) :: (C' ++ [z]) = ([] :: C') ++ [z] from rfl, getLastD_append]
    obtain ⟨C2, hC2⟩ := last_split C1 hC1 []
    have hsl : slL s = dirLast (C1.getLastD []) := by rw [hC1l]; rfl
    generalize hz : C1.getLastD [] = z at hC2 hsl
    obtain ⟨P2, hP2⟩ := last_split (parts s) hP []
    generalize hq : (parts s).getLastD [] = q at hP2
    have hqk : q ≠ [] ∧ q ≠ [46] := hkept q (by rw [hP2]; simp)
    have hlastk : keep z = true → q = z := by
      intro hk
      have : parts s = C2.filter keep ++ [z] := by
        rw [← hC1p, hC2, List.filter_append]
        simp [hk]
      rw [← hq, this, getLastD_append]
    have hwP : wt (parts s) + (if (slL s && !(q == [46, 46])) = true then 1 else 0) ≤ wt C1 := by
      by_cases ht : (slL s && !(q == [46, 46])) = true
      · rw [if_pos ht]
        have hnk : ¬ keep z = true := by
          intro hk
          have hqz := hlastk hk
          simp only [Bool.and_eq_true, Bool.not_eq_true', beq_eq_false_iff_ne] at ht
          rw [hsl] at ht
          rw [keep_iff] at hk
          have h3 := ht.1
          unfold dirLast at h3
          simp [hk.1, hk.2] at h3
          exact ht.2 (by rw [hqz, h3])
        have : parts s = C2.filter keep := by
          rw [← hC1p, hC2, List.filter_append]
          simp [hnk]
        rw [this, hC2, wt_append, wt_one]
        have := wt_filter C2
        omega
      · rw [if_neg ht, ← hC1p]
        have := wt_filter C1
        omega
    have hwJ : wt (joinJ (absL s) (parts s) (slL s)) = (if absL s = true then 1 else 0) + wt (parts s) + (if (slL s && !(q == [46, 46])) = true then 1 else 0) := by
      unfold joinJ
      rw [wt_append, wt_append, hq]
      congr 1
      · congr 1
        split <;> simp [wt]
      · split <;> simp [wt]
    have hle : (joinL (absL s) (parts s) (slL s)).length ≤ s.length := by omega
    have hpj : parts (joinL (absL s) (parts s) (slL s)) = parts s := by
      show (cut (joinL (absL s) (parts s) (slL s))).filter keep = _
      rw [hJ]
      unfold joinJ
      rw [List.filter_append, List.filter_append, filter_all (parts s) hkept]
      have e1 : ∀ u : Bool, (if u = true then [([] : List UInt8)] else []).filter keep = [] := fun u => by cases u <;> rfl
      rw [e1, e1]
      simp
    have hjne : joinL (absL s) (parts s) (slL s) ≠ [] := by
      intro e
      rw [e] at hJ
      have : parts s = [] := by rw [← hpj, e]; rfl
      exact hP this
    refine ⟨?_, hpj, ?_, ?_, hle, hpc⟩
    · unfold errS
      rw [if_neg hjne, if_neg (by omega), hpj, hlong]
      have : flt false (joinL (absL s) (parts s) (slL s)) = 0 := by
        rw [flt_cut _ _ (Nat.le_refl _), hJ]
        intro p hp
        unfold joinJ at hp
        rcases List.mem_append.1 hp with hp | hp
        · rcases List.mem_append.1 hp with hp | hp
          · split at hp
            · simp at hp; subst hp; rfl
            · simp at hp
          · exact hf0 p (parts_kept hp).1
        · split at hp
          · simp at hp; subst hp; rfl
          · simp at hp
      rw [this]
      simp
    · cases ha : absL s
      · obtain ⟨p0, P', hp0⟩ := List.exists_cons_of_ne_nil hP
        have hp0m : p0 ∈ parts s := by rw [hp0]; simp
        obtain ⟨b, r, hb⟩ := List.exists_cons_of_ne_nil (hkept p0 hp0m).1
        have hb47 : b ≠ 47 := by
          intro e
          exact hfree p0 hp0m (by rw [hb, e]; simp)
        unfold joinL
        rw [if_neg hP, hp0]
        have : ∃ r', inter (p0 :: P') = b :: r' := by
          cases P' with
          | nil => exact ⟨r, by simp [inter, hb]⟩
          | cons q' Q => exact ⟨r ++ 47 :: inter (q' :: Q), by simp [inter, hb]⟩
        obtain ⟨r', hr'⟩ := this
        rw [hr']
        simp [absL, hb47]
      · unfold joinL
        rw [if_neg hP]
        simp [absL]
    · show dirLast ((cut (joinL (absL s) (parts s) (slL s))).getLastD []) = slL s
      rw [hJ]
      unfold joinJ
      rw [hq]
      by_cases ht : (slL s && !(q == [46, 46])) = true
      · rw [if_pos ht, getLastD_append]
        simp only [Bool.and_eq_true] at ht
        rw [ht.1]
        rfl
      · rw [if_neg ht, List.append_nil, hP2, ← List.append_assoc, getLastD_append]
        cases hb : slL s
        · have hzk : keep z = true := by
            rw [hsl] at hb
            unfold dirLast at hb
            simp at hb
            exact (keep_iff z).2 ⟨hb.1.1, hb.1.2⟩
          rw [hlastk hzk, ← hsl, hb]
        · simp [hb] at ht
          rw [ht]
          rfl
end Go.Proofs.Ytlkhnmhhcagghaa
