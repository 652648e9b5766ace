/- Content: a shelf that is made; the known writing, reading, cutting off: plain. -/
import Derived.Test.YthionhliokhcgaaCq
import Derived.Lib.SlBytesConst
namespace Go.Proofs.Ythionhliokhcgaa
open Go.RowKit Go.Shelf

attribute [local go_sem] Oper.semAt_some

def zsh : List Value := List.replicate 64 (.slice none 0 0) ++ [.int .u64 0, .slice none 0 0]
theorem built_sh : Try.prog.built 33 [] = some zsh.toArray := by kernel_rfl
theorem shW_new (w : World) (B : Nat) (hB : B ≤ w.heap.size) : ShW (w.alloc (.cells zsh.toArray 33)) B w.heap.size (List.replicate 64 (.slice none 0 0)) (List.replicate 64 []) 0 (.slice none 0 0) [] := by
  refine ⟨Blk.new _ _ _, by simp, by simp, fun k v l hv hl => ?_, ⟨rfl, .inl ⟨rfl, rfl⟩⟩, hB, by omega⟩
  rw [List.getElem?_replicate] at hv hl
  by_cases hk : k < 64
  · rw [if_pos hk] at hv hl
    cases hv
    cases hl
    exact ⟨rfl, .inl ⟨rfl, rfl⟩⟩
  · rw [if_neg hk] at hv; cases hv
theorem bad0 (k : Nat) : badAt 0 k = false := by unfold badAt; rw [Nat.zero_div]; rfl
theorem pcA_mono (X : Nat) {i j : Nat} (h : i < j) : pcA X i < pcA X j := by
  unfold pcA
  rw [if_neg (by omega : ¬ j = 0)]
  split <;> omega
/-- With no leaf that can't be read, a range goes to its end. -/
theorem Ran.no_bad {bad : Nat} {wt : Nat → Nat → Bool} {fr te n : Nat} {er : Bool} (h : Ran bad wt fr te n er) (hb : ∀ j, pcA fr j < te → badAt bad (pcO fr j) = false) : er = false := by
  cases er with
  | false => rfl
  | true =>
    obtain ⟨h1, h2, h3⟩ := h.last rfl
    rw [hb n h1] at h3
    cases h3
theorem Ran.count {bad : Nat} {wt : Nat → Nat → Bool} {fr te n k : Nat} (h : Ran bad wt fr te n false) (h1 : te ≤ pcA fr k) (h2 : ∀ j, j < k → pcA fr j < te) : n = k := by
  rcases Nat.lt_trichotomy n k with h3 | h3 | h3
  · have := h.done rfl
    have := h2 n h3
    omega
  · exact h3
  · have := (h.all k h3).1
    omega
def abcd : B8 := [97, 98, 99, 100]
def kb0 : B8 := List.replicate 510 0 ++ [97, 98]
def kb1 : B8 := [99, 100] ++ List.replicate 510 0
def kcs : List (Nat × B8) := [(0, kb0), (1, kb1)]
def km0 : List B8 := List.replicate 64 []
def km2 : List B8 := (km0.set 0 kb0).set 1 kb1
set_option maxRecDepth 100000 in
theorem k_wr : wrU km0 abcd 510 514 2 = kcs := by kernel_rfl
set_option maxRecDepth 100000 in
theorem k_rd : rng km2 509 514 = [0, 97, 98, 99, 100] := by kernel_rfl
def kt0 : B8 := List.replicate 510 0 ++ [97, 0]
set_option maxRecDepth 100000 in
theorem k_tr : trU km2 511 1024 2 = [(0, kt0), (1, [])] := by kernel_rfl
theorem kb0_len : kb0.length = 512 := by unfold kb0; rw [List.length_append, List.length_replicate]; rfl
theorem kb1_len : kb1.length = 512 := by unfold kb1; rw [List.length_append, List.length_replicate]; rfl
theorem kt0_len : kt0.length = 512 := by unfold kt0; rw [List.length_append, List.length_replicate]; rfl
theorem km2_le : ∀ l ∈ km2, l.length ≤ 512 := by
  intro l hl
  unfold km2 km0 at hl
  rcases List.mem_or_eq_of_mem_set hl with hl | rfl
  · rcases List.mem_or_eq_of_mem_set hl with hl | rfl
    · have := List.eq_of_mem_replicate hl
      subst this
      simp
    · rw [kb0_len]; exact Nat.le_refl _
  · rw [kb1_len]; exact Nat.le_refl _
theorem km0_le : ∀ l ∈ km0, l.length ≤ 512 := by
  intro l hl
  have := List.eq_of_mem_replicate hl
  subst this
  simp
end Go.Proofs.Ythionhliokhcgaa
