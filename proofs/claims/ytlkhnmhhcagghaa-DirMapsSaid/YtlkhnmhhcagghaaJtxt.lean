/- Texts, plainly: runes, faults, pieces between slashes. No model here. -/
import Derived.Lib.DecodeN
namespace Go.Proofs.Ytlkhnmhhcagghaa
open Go

def gb (l : List UInt8) (k : Nat) : Nat := (l.getD k 0).toNat
def decL (l : List UInt8) : Nat × Nat := Lib.decodeN l.length (gb l 0) (gb l 1) (gb l 2) (gb l 3)
theorem gb_lt (l : List UInt8) (k : Nat) : gb l k < 256 := by unfold gb; exact UInt8.toNat_lt _
theorem gb_past {l : List UInt8} {k : Nat} (h : l.length ≤ k) : gb l k = 0 := by
  unfold gb
  rw [List.getD_eq_getElem?_getD, List.getElem?_eq_none h]
  rfl
theorem gb_append_left {x : List UInt8} {k : Nat} (y : List UInt8) (h : k < x.length) : gb (x ++ y) k = gb x k := by
  unfold gb
  rw [List.getD_eq_getElem?_getD, List.getD_eq_getElem?_getD, List.getElem?_append_left h]
theorem gb_drop (l : List UInt8) (n k : Nat) : gb (l.drop n) k = gb l (n + k) := by
  unfold gb
  simp [List.getD_eq_getElem?_getD]
theorem gb_mid (x y : List UInt8) (b : UInt8) : gb (x ++ b :: y) x.length = b.toNat := by
  unfold gb
  simp [List.getD_eq_getElem?_getD]

set_option maxHeartbeats 4000000 in
theorem decN_facts (n b0 b1 b2 b3 : Nat) (hn : 1 ≤ n) :
    1 ≤ (Lib.decodeN n b0 b1 b2 b3).2 ∧ (Lib.decodeN n b0 b1 b2 b3).2 ≤ n ∧ (Lib.decodeN n b0 b1 b2 b3).2 ≤ 4 ∧
    (2 ≤ (Lib.decodeN n b0 b1 b2 b3).2 → 128 ≤ b0 ∧ 128 ≤ b1) ∧ (3 ≤ (Lib.decodeN n b0 b1 b2 b3).2 → 128 ≤ b2) ∧ (4 ≤ (Lib.decodeN n b0 b1 b2 b3).2 → 128 ≤ b3) ∧
    (b0 < 128 → Lib.decodeN n b0 b1 b2 b3 = (b0, 1)) ∧ (128 ≤ b0 → 128 ≤ (Lib.decodeN n b0 b1 b2 b3).1) := by
  unfold Lib.decodeN
  repeat' split
  all_goals dsimp only
  all_goals refine ⟨by omega, by omega, by omega, fun _ => by omega, fun _ => by omega, fun _ => by omega, fun _ => ?_, fun _ => by omega⟩
  all_goals first | rfl | (exfalso; omega)

theorem decL_pos {l : List UInt8} (h : l ≠ []) : 1 ≤ (decL l).2 ∧ (decL l).2 ≤ l.length := by
  have h1 : 1 ≤ l.length := by cases l <;> simp_all
  have := decN_facts l.length (gb l 0) (gb l 1) (gb l 2) (gb l 3) h1
  exact ⟨this.1, this.2.1⟩
theorem decL_tail {l : List UInt8} (h : l ≠ []) {j : Nat} (hj : j < (decL l).2) (h2 : 2 ≤ (decL l).2) : 128 ≤ gb l j := by
  have h1 : 1 ≤ l.length := by cases l <;> simp_all
  have f := decN_facts l.length (gb l 0) (gb l 1) (gb l 2) (gb l 3) h1
  unfold decL at hj h2
  obtain ⟨_, _, h4, hb, hc, hd, _⟩ := f
  have := hb h2
  match j with
  | 0 => exact this.1
  | 1 => exact this.2
  | 2 => exact hc hj
  | 3 => exact hd hj
  | k + 4 => omega
theorem decL_low {l : List UInt8} (h : l ≠ []) (hb : gb l 0 < 128) : decL l = (gb l 0, 1) := by
  have h1 : 1 ≤ l.length := by cases l <;> simp_all
  exact (decN_facts l.length (gb l 0) (gb l 1) (gb l 2) (gb l 3) h1).2.2.2.2.2.2.1 hb
theorem decL_high {l : List UInt8} (h : l ≠ []) (hb : 128 ≤ gb l 0) : 128 ≤ (decL l).1 := by
  have h1 : 1 ≤ l.length := by cases l <;> simp_all
  exact (decN_facts l.length (gb l 0) (gb l 1) (gb l 2) (gb l 3) h1).2.2.2.2.2.2.2 hb
/-- A rune below 128 is its byte. -/
theorem decL_rune {l : List UInt8} (h : l ≠ []) {c : Nat} (hc : c < 128) : (decL l).1 = c ↔ gb l 0 = c := by
  rcases Nat.lt_or_ge (gb l 0) 128 with h1 | h1
  · rw [decL_low h h1]
  · have := decL_high h h1
    omega

set_option maxHeartbeats 4000000 in
theorem decN_cut (n m b0 b1 b2 b3 c1 c2 c3 : Nat) (hm : 1 ≤ m) (hmn : m < n) (h1 : 1 < m → b1 = c1) (h2 : 2 < m → b2 = c2) (h3 : 3 < m → b3 = c3)
    (g1 : m = 1 → b1 < 128) (g2 : m = 2 → b2 < 128) (g3 : m = 3 → b3 < 128) :
    Lib.decodeN n b0 b1 b2 b3 = Lib.decodeN m b0 c1 c2 c3 := by
  rcases (by omega : m = 1 ∨ m = 2 ∨ m = 3 ∨ 4 ≤ m) with rfl | rfl | rfl | h4
  · have := g1 rfl
    unfold Lib.decodeN
    have e : b1 / 64 ≠ 2 := by omega
    simp [e]
  · have := g2 rfl
    obtain rfl := h1 (by omega)
    unfold Lib.decodeN
    have e : b2 / 64 ≠ 2 := by omega
    have e2 : 1 < n := by omega
    simp [e, e2]
  · have := g3 rfl
    obtain rfl := h1 (by omega)
    obtain rfl := h2 (by omega)
    unfold Lib.decodeN
    have e : b3 / 64 ≠ 2 := by omega
    have e2 : 1 < n := by omega
    have e3 : 2 < n := by omega
    simp [e, e2, e3]
  · obtain rfl := h1 (by omega)
    obtain rfl := h2 (by omega)
    obtain rfl := h3 (by omega)
    unfold Lib.decodeN
    have e2 : 1 < n := by omega
    have e3 : 2 < n := by omega
    have e4 : 3 < n := by omega
    have f2 : 1 < m := by omega
    have f3 : 2 < m := by omega
    have f4 : 3 < m := by omega
    simp [e2, e3, e4, f2, f3, f4]
/-- A low byte ends what is decoded. -/
theorem decL_cut {x : List UInt8} (hx : x ≠ []) (b : UInt8) (hb : b.toNat < 128) (y : List UInt8) : decL (x ++ b :: y) = decL x := by
  have h1 : 1 ≤ x.length := by cases x <;> simp_all
  unfold decL
  have e0 : gb (x ++ b :: y) 0 = gb x 0 := gb_append_left _ h1
  rw [e0]
  refine decN_cut _ _ _ _ _ _ _ _ _ h1 (by simp) (fun h => gb_append_left _ h) (fun h => gb_append_left _ h) (fun h => gb_append_left _ h) ?_ ?_ ?_
  all_goals
    intro h
    have := gb_mid x y b
    rw [h] at this
    rw [this]
    exact hb

/-! ### Faults -/
def fltF (nm : Bool) : Nat → List UInt8 → Nat
  | 0, _ => 0
  | f + 1, l => if l = [] then 0 else if decL l = (65533, 1) then 36 else if (decL l).1 = 0 ∨ (nm = true ∧ (decL l).1 = 47) then 26 else fltF nm f (l.drop (decL l).2)
def flt (nm : Bool) (l : List UInt8) : Nat := fltF nm l.length l
theorem fltF_enough (nm : Bool) : ∀ (f g : Nat) (l : List UInt8), l.length ≤ f → l.length ≤ g → fltF nm f l = fltF nm g l
  | 0, g, l, hf, _ => by
    have : l = [] := by cases l <;> simp_all
    subst this
    cases g <;> simp [fltF]
  | f + 1, 0, l, _, hg => by
    have : l = [] := by cases l <;> simp_all
    subst this
    simp [fltF]
  | f + 1, g + 1, l, hf, hg => by
    simp only [fltF]
    by_cases hl : l = []
    · simp [hl]
    · have := decL_pos hl
      rw [fltF_enough nm f g _ (by simp; omega) (by simp; omega)]
theorem flt_nil (nm : Bool) : flt nm [] = 0 := rfl
theorem flt_step (nm : Bool) {l : List UInt8} (hl : l ≠ []) :
    flt nm l = if decL l = (65533, 1) then 36 else if (decL l).1 = 0 ∨ (nm = true ∧ (decL l).1 = 47) then 26 else flt nm (l.drop (decL l).2) := by
  have h1 := decL_pos hl
  have e : flt nm l = fltF nm (l.length - 1 + 1) l := by unfold flt; congr 1; omega
  rw [e]
  simp only [fltF, hl, if_false]
  have e2 : fltF nm (l.length - 1) (l.drop (decL l).2) = flt nm (l.drop (decL l).2) := fltF_enough nm _ _ _ (by simp; omega) (by simp)
  rw [e2]

theorem flt_slash (y : List UInt8) : flt false (47 :: y) = flt false y := by
  rw [flt_step false (by simp)]
  have e : decL (47 :: y) = (47, 1) := decL_low (by simp) (by simp [gb])
  rw [e]
  simp
theorem flt_append : ∀ (n : Nat) (x y : List UInt8), x.length ≤ n → flt false (x ++ 47 :: y) = if flt false x = 0 then flt false y else flt false x
  | 0, x, y, h => by
    have : x = [] := by cases x <;> simp_all
    subst this
    simp [flt_nil, flt_slash]
  | n + 1, x, y, h => by
    by_cases hx : x = []
    · subst hx
      simp [flt_nil, flt_slash]
    · have hp := decL_pos hx
      rw [flt_step false (l := x ++ 47 :: y) (by simp), flt_step false hx, decL_cut hx 47 (by decide) y]
      by_cases h1 : decL x = (65533, 1)
      · simp [h1]
      · rw [if_neg h1, if_neg h1]
        by_cases h2 : (decL x).1 = 0 ∨ (false = true ∧ (decL x).1 = 47)
        · rw [if_pos h2, if_pos h2]
          rfl
        · rw [if_neg h2, if_neg h2, List.drop_append_of_le_length hp.2]
          exact flt_append n _ y (by simp; omega)
theorem flt_name : ∀ (n : Nat) (x : List UInt8), x.length ≤ n → (47 : UInt8) ∉ x → flt true x = flt false x
  | 0, x, h, _ => by
    have : x = [] := by cases x <;> simp_all
    subst this
    rfl
  | n + 1, x, h, h47 => by
    by_cases hx : x = []
    · subst hx
      rfl
    · have hp := decL_pos hx
      have h0 : ¬ (decL x).1 = 47 := by
        rw [decL_rune hx (by decide)]
        intro e
        obtain ⟨a, t, rfl⟩ := List.exists_cons_of_ne_nil hx
        simp [gb] at e
        have : a = 47 := UInt8.toNat_inj.1 (by simpa using e)
        simp [this] at h47
      rw [flt_step true hx, flt_step false hx, flt_name n _ (by simp; omega) (fun hm => h47 (List.mem_of_mem_drop hm))]
      simp [h0]

/-! ### Pieces -/
def cut : List UInt8 → List (List UInt8)
  | [] => [[]]
  | b :: l => if b = 47 then [] :: cut l else match cut l with | [] => [[b]] | p :: ps => (b :: p) :: ps
theorem cut_ne (l : List UInt8) : cut l ≠ [] := by
  cases l with
  | nil => simp [cut]
  | cons b l =>
    unfold cut
    split
    · simp
    · split <;> simp
theorem cut_self : ∀ (x : List UInt8), (47 : UInt8) ∉ x → cut x = [x]
  | [], _ => rfl
  | b :: x, h => by
    simp only [List.mem_cons, not_or] at h
    unfold cut
    rw [if_neg (fun e => h.1 e.symm), cut_self x h.2]
theorem cut_slash : ∀ (x y : List UInt8), (47 : UInt8) ∉ x → cut (x ++ 47 :: y) = x :: cut y
  | [], y, _ => by simp [cut]
  | b :: x, y, h => by
    simp only [List.mem_cons, not_or] at h
    show cut (b :: (x ++ 47 :: y)) = _
    rw [cut, if_neg (fun e => h.1 e.symm), cut_slash x y h.2]
theorem cut_free : ∀ (l p : List UInt8), p ∈ cut l → (47 : UInt8) ∉ p
  | [], p, h => by simp [cut] at h; simp [h]
  | b :: l, p, h => by
    unfold cut at h
    split at h
    · rcases List.mem_cons.1 h with rfl | h
      · simp
      · exact cut_free l p h
    · rename_i hb
      split at h
      · rename_i he
        exact absurd he (cut_ne l)
      · rename_i q qs he
        rcases List.mem_cons.1 h with rfl | h
        · have := cut_free l q (by rw [he]; simp)
          simp only [List.mem_cons, not_or]
          exact ⟨fun e => hb e.symm, this⟩
        · exact cut_free l p (by rw [he]; simp [h])
/-- Each text is without slashes, or has a first one. -/
theorem first_slash (l : List UInt8) : (47 : UInt8) ∉ l ∨ ∃ x y, l = x ++ 47 :: y ∧ (47 : UInt8) ∉ x := by
  induction l with
  | nil => simp
  | cons b l ih =>
    by_cases hb : b = 47
    · exact .inr ⟨[], l, by simp [hb], by simp⟩
    · rcases ih with h | ⟨x, y, rfl, hx⟩
      · exact .inl (by simp only [List.mem_cons, not_or]; exact ⟨fun e => hb e.symm, h⟩)
      · exact .inr ⟨b :: x, y, rfl, by simp only [List.mem_cons, not_or]; exact ⟨fun e => hb e.symm, hx⟩⟩
theorem flt_cut : ∀ (n : Nat) (l : List UInt8), l.length ≤ n → (flt false l = 0 ↔ ∀ p ∈ cut l, flt false p = 0)
  | 0, l, h => by
    have : l = [] := by cases l <;> simp_all
    subst this
    simp [cut, flt_nil]
  | n + 1, l, h => by
    rcases first_slash l with h1 | ⟨x, y, rfl, hx⟩
    · rw [cut_self l h1]
      simp
    · rw [cut_slash x y hx, flt_append _ x y (Nat.le_refl _)]
      have ih := flt_cut n y (by simp at h; omega)
      by_cases h0 : flt false x = 0
      · rw [if_pos h0, ih]
        simp [h0]
      · rw [if_neg h0]
        simp [h0]
def wt (L : List (List UInt8)) : Nat := (L.map (fun p => p.length + 1)).sum
theorem wt_cut : ∀ (n : Nat) (l : List UInt8), l.length ≤ n → wt (cut l) = l.length + 1
  | 0, l, h => by
    have : l = [] := by cases l <;> simp_all
    subst this
    simp [cut, wt]
  | n + 1, l, h => by
    rcases first_slash l with h1 | ⟨x, y, rfl, hx⟩
    · rw [cut_self l h1]
      simp [wt]
    · rw [cut_slash x y hx]
      have ih := wt_cut n y (by simp at h; omega)
      simp [wt] at ih ⊢
      omega
end Go.Proofs.Ytlkhnmhhcagghaa
