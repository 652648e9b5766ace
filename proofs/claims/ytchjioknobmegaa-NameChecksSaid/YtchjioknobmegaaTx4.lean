/- Texts, plainly: the last piece. -/
import Derived.Test.YtchjioknobmegaaTx2
namespace Go.Proofs.Ytchjioknobmegaa
open Go

def lastNE (L : List (List UInt8)) : List UInt8 := L.foldl (fun a x => if x = [] then a else x) []
theorem lastNE_snoc (L : List (List UInt8)) (x : List UInt8) : lastNE (L ++ [x]) = if x = [] then lastNE L else x := by
  unfold lastNE
  rw [List.foldl_append]
  rfl
theorem gb_cons (b : UInt8) (l : List UInt8) (k : Nat) : gb (b :: l) (k + 1) = gb l k := by
  unfold gb
  simp [List.getD_eq_getElem?_getD]
theorem last_47 : ∀ (l : List UInt8), l ≠ [] → (gb l (l.length - 1) = 47 ↔ (cut l).getLastD [] = [])
  | [], h => absurd rfl h
  | [b], _ => by
    have e : gb [b] 0 = b.toNat := rfl
    show gb [b] 0 = 47 ↔ _
    rw [e]
    by_cases hb : b = 47
    · subst hb; decide
    · have h2 : ¬ b.toNat = 47 := fun e => hb (UInt8.toNat_inj.1 e)
      have h3 : cut [b] = [[b]] := cut_self [b] (by simp only [List.mem_singleton]; exact fun e => hb e.symm)
      rw [h3]
      simp [h2]
  | b :: c :: l, _ => by
    have ih := last_47 (c :: l) (by simp)
    have e : gb (b :: c :: l) ((b :: c :: l).length - 1) = gb (c :: l) ((c :: l).length - 1) := by
      show gb (b :: c :: l) (l.length + 1) = gb (c :: l) l.length
      exact gb_cons b (c :: l) l.length
    rw [e, ih]
    obtain ⟨C', hC⟩ := last_split (cut (c :: l)) (cut_ne _) []
    by_cases hb : b = 47
    · have h1 : cut (b :: c :: l) = [] :: cut (c :: l) := by rw [hb]; exact cut_slash [] (c :: l) (by simp)
      rw [h1]
      generalize (cut (c :: l)).getLastD [] = z at hC
      rw [hC, show ([] : List UInt8) :: (C' ++ [z]) = ([] :: C') ++ [z] from rfl, getLastD_append]
    · cases hc : cut (c :: l) with
      | nil => exact absurd hc (cut_ne _)
      | cons p ps =>
        have h1 : cut (b :: c :: l) = (b :: p) :: ps := by
          rw [cut, if_neg hb, hc]
        rw [h1]
        cases ps with
        | nil =>
          have hw := wt_cut _ (c :: l) (Nat.le_refl _)
          rw [hc] at hw
          have hp : p ≠ [] := by
            intro h
            subst h
            simp [wt] at hw
          simp [hp]
        | cons q qs =>
          obtain ⟨D, hD⟩ := last_split (q :: qs) (by simp) []
          generalize (q :: qs).getLastD [] = z at hD
          rw [hD]
          show (p :: (D ++ [z])).getLastD [] = [] ↔ ((b :: p) :: (D ++ [z])).getLastD [] = []
          rw [show p :: (D ++ [z]) = (p :: D) ++ [z] from rfl, show (b :: p) :: (D ++ [z]) = ((b :: p) :: D) ++ [z] from rfl, getLastD_append, getLastD_append]
/-- Whether it asks for a directory, as the document tells it. -/
theorem slL_doc {l : List UInt8} (h : l ≠ []) : slL l = (decide (gb l (l.length - 1) = 47) || lastNE (cut l) == [46] || lastNE (cut l) == [46, 46]) := by
  obtain ⟨C', hC⟩ := last_split (cut l) (cut_ne _) []
  have h47 := last_47 l h
  unfold slL
  generalize (cut l).getLastD [] = z at hC h47
  by_cases hz : z = []
  · have : gb l (l.length - 1) = 47 := h47.2 hz
    subst hz
    simp [this, dirLast]
  · have : ¬ gb l (l.length - 1) = 47 := fun e => hz (h47.1 e)
    rw [hC, lastNE_snoc, if_neg hz]
    unfold dirLast
    have hz2 : (z == []) = false := by simpa using hz
    rw [hz2]
    simp [this]
end Go.Proofs.Ytchjioknobmegaa
