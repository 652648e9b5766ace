/- ContentKeeps: what a writing, a cutting off make of leaves: plain. -/
import Derived.Test.YthionhliokhcgaaCs
namespace Go.Proofs.Ythionhliokhcgaa
open Go.RowKit

/-- An object's leaves. -/
structure Fil (m : List B8) (sz : Nat) : Prop where
  len : m.length = 64
  row : ∀ l ∈ m, l.length = 0 ∨ l.length = 512
  top : sz ≤ 32768
  nil : ∀ p, sz ≤ p → byt m p = 0
theorem Fil.le {m : List B8} {sz : Nat} (h : Fil m sz) : ∀ l ∈ m, l.length ≤ 512 := fun l hl => by rcases h.row l hl with e | e <;> omega
theorem km0_getD (k : Nat) : km0.getD k [] = [] := by
  rw [List.getD_eq_getElem?_getD]
  unfold km0
  rw [List.getElem?_replicate]
  split <;> rfl
theorem Fil.new : Fil km0 0 := ⟨by simp [km0], fun l hl => .inl (by have := List.eq_of_mem_replicate hl; subst this; rfl), by omega, fun p _ => by unfold byt; rw [km0_getD]; rfl⟩
theorem getD_set' (m : List B8) (i k : Nat) (x : B8) (h : i < m.length) : (m.set i x).getD k [] = if k = i then x else m.getD k [] := by
  rw [List.getD_eq_getElem?_getD, List.getD_eq_getElem?_getD, List.getElem?_set]
  by_cases hk : k = i
  · subst hk
    rw [if_pos rfl, if_pos h, if_pos rfl]; rfl
  · rw [if_neg (fun e => hk e.symm), if_neg hk]
theorem splice_getD {L cs : B8} {f : Nat} (hf : f + cs.length ≤ L.length) (j : Nat) : (splice L f cs).getD j 0 = if f ≤ j ∧ j < f + cs.length then cs.getD (j - f) 0 else L.getD j 0 := by
  unfold splice
  rw [List.getD_eq_getElem?_getD, List.getD_eq_getElem?_getD, List.getD_eq_getElem?_getD]
  rcases Nat.lt_or_ge j f with h1 | h1
  · rw [if_neg (by omega), List.getElem?_append_left (by rw [List.length_take]; omega), List.getElem?_take, if_pos h1]
  · rw [List.getElem?_append_right (by rw [List.length_take]; omega), List.length_take, Nat.min_eq_left (by omega)]
    rcases Nat.lt_or_ge j (f + cs.length) with h2 | h2
    · rw [if_pos ⟨h1, h2⟩, List.getElem?_append_left (by omega)]
    · rw [if_neg (by omega), List.getElem?_append_right (by omega), List.getElem?_drop]
      congr 2; omega
theorem splice_len {L cs : B8} {f : Nat} (hf : f + cs.length ≤ L.length) : (splice L f cs).length = L.length := by unfold splice; simp; omega
theorem padL_getD (l : B8) (j : Nat) : (padL l).getD j 0 = l.getD j 0 := by
  unfold padL
  rw [List.getD_eq_getElem?_getD, List.getD_eq_getElem?_getD]
  rcases Nat.lt_or_ge j l.length with h | h
  · rw [List.getElem?_append_left h]
  · rw [List.getElem?_append_right h, List.getElem?_replicate, List.getElem?_eq_none h]
    split <;> rfl
theorem appC_row {P : B8 → Prop} : ∀ (cs : List (Nat × B8)) (m : List B8), (∀ l ∈ m, P l) → (∀ c ∈ cs, P c.2) → ∀ l ∈ appC m cs, P l
  | [], _, hm, _, l, hl => hm l hl
  | c :: cs, m, hm, hc, l, hl => appC_row cs (m.set c.1 c.2) (fun x hx => by
      rcases List.mem_or_eq_of_mem_set hx with h | rfl
      · exact hm x h
      · exact hc c (by simp)) (fun x hx => hc x (by simp [hx])) l hl
theorem appC_app (m : List B8) (a b : List (Nat × B8)) : appC m (a ++ b) = appC (appC m a) b := by unfold appC; rw [List.foldl_append]
theorem okCs_of {cs : List (Nat × B8)} (h1 : ∀ c ∈ cs, c.1 < 64 ∧ (c.2.length = 0 ∨ c.2.length = 512)) (h2 : cs.Pairwise (fun c c' => c.1 < c'.1)) : OkCs cs := ⟨h1, fun i c c' hc hc' => by
  obtain ⟨a1, rfl⟩ := List.getElem?_eq_some_iff.1 hc
  obtain ⟨a2, rfl⟩ := List.getElem?_eq_some_iff.1 hc'
  exact List.pairwise_iff_getElem.1 h2 i (i + 1) a1 a2 (by omega)⟩
theorem pcA_ge (X i : Nat) : X ≤ pcA X i := by unfold pcA; split <;> omega
theorem rowD_le {m : List B8} (hm : ∀ l ∈ m, l.length ≤ 512) (k : Nat) : (m.getD k []).length ≤ 512 := by
  rw [List.getD_eq_getElem?_getD]
  cases h : m[k]? with
  | none => simp
  | some l => exact hm l (List.mem_of_getElem? h)
/-- A range's pieces lie within 64 leaves. -/
theorem pcO_64 {X te i : Nat} (h : pcA X i < te) (ht : te ≤ 32768) : pcO X i < 64 := by
  have := pcA_eq X i
  omega
section
variable {m : List B8} {b : B8} {X n : Nat}
theorem wr_row (m : List B8) (b : B8) (X te : Nat) : ∀ n, (∀ j, j < n → pcO X j < m.length) → ∀ k, (appC m (wrU m b X te n)).getD k [] = if X / 512 ≤ k ∧ k < X / 512 + n then blkW m b X te (k - X / 512) else m.getD k []
  | 0, _, k => by rw [if_neg (by omega)]; rfl
  | n + 1, h, k => by
    rw [wrU_succ, appC_snoc, getD_set' _ _ _ _ (by rw [appC_len]; exact h n (by omega)), wr_row m b X te n (fun j hj => h j (by omega)) k]
    show (if k = X / 512 + n then blkW m b X te n else _) = _
    by_cases hk : k = X / 512 + n
    · rw [if_pos hk, if_pos (by omega), show k - X / 512 = n by omega]
    · rw [if_neg hk]
      by_cases h2 : X / 512 ≤ k ∧ k < X / 512 + n
      · rw [if_pos h2, if_pos (by omega)]
      · rw [if_neg h2, if_neg (by omega)]
theorem wr_ins {te i : Nat} (hte : te = X + b.length) (h : pcA X i < te) : ((b.drop (pcA X i - X)).take (pcT X te i - pcF X i)).length = pcT X te i - pcF X i := by
  have h1 := pcA_eq X i
  have h2 := pcA_ge X i
  have h3 : pcO X i = X / 512 + i := rfl
  have h4 : pcT X te i ≤ te - 512 * (X / 512 + i) := by unfold pcT; omega
  rw [List.length_take, List.length_drop]
  omega
theorem wr_fit (hm : ∀ l ∈ m, l.length ≤ 512) {te i : Nat} (hte : te = X + b.length) (h : pcA X i < te) : pcF X i + ((b.drop (pcA X i - X)).take (pcT X te i - pcF X i)).length ≤ (padL (if wtP (pcF X i) (pcT X te i) = true then m.getD (pcO X i) [] else [])).length := by
  have hl : (if wtP (pcF X i) (pcT X te i) = true then m.getD (pcO X i) [] else []).length ≤ 512 := by
    split
    · exact rowD_le hm _
    · simp
  have h5 : pcT X te i ≤ 512 := by unfold pcT; omega
  have h6 := pcF_lt X i
  rw [padL_length hl, wr_ins hte h]
  omega
theorem blkW_len (hm : ∀ l ∈ m, l.length ≤ 512) {te i : Nat} (hte : te = X + b.length) (h : pcA X i < te) : (blkW m b X te i).length = 512 := by
  unfold blkW
  rw [splice_len (wr_fit hm hte h)]
  refine padL_length ?_
  split
  · exact rowD_le hm _
  · simp
theorem wr_byt (hm : ∀ l ∈ m, l.length ≤ 512) (hml : m.length = 64) (hX : X + b.length ≤ 32768) (hall : ∀ j, j < n → pcA X j < X + b.length) (hdone : X + b.length ≤ pcA X n) (p : Nat) :
    byt (appC m (wrU m b X (X + b.length) n)) p = if X ≤ p ∧ p < X + b.length then b.getD (p - X) 0 else byt m p := by
  obtain ⟨te, hte⟩ : ∃ te, te = X + b.length := ⟨_, rfl⟩
  rw [← hte] at hX hall hdone ⊢
  unfold byt
  rw [wr_row m b X te n (fun j hj => by rw [hml]; exact pcO_64 (hall j hj) hX)]
  by_cases hk : X / 512 ≤ p / 512 ∧ p / 512 < X / 512 + n
  · obtain ⟨i, hi⟩ : ∃ i, p / 512 = X / 512 + i := ⟨p / 512 - X / 512, by omega⟩
    rw [if_pos hk, show p / 512 - X / 512 = i by omega]
    have hlt := hall i (by omega)
    have h1 := pcA_eq X i
    have h2 := pcA_ge X i
    have h3 : pcO X i = X / 512 + i := rfl
    have h4 : pcT X te i = min (te - 512 * (X / 512 + i)) 512 := rfl
    have h5 : pcF X i = if i = 0 then X % 512 else 0 := rfl
    have h6 := pcF_lt X i
    have hins := wr_ins hte hlt
    unfold blkW
    rw [splice_getD (wr_fit hm hte hlt), hins]
    by_cases hin : pcF X i ≤ p % 512 ∧ p % 512 < pcF X i + (pcT X te i - pcF X i)
    · rw [if_pos hin, if_pos (by omega), List.getD_eq_getElem?_getD, List.getD_eq_getElem?_getD, List.getElem?_take, if_pos (by omega), List.getElem?_drop]
      congr 2
      omega
    · have hout : ¬ (X ≤ p ∧ p < te) := fun ha => by
        obtain ⟨a1, a2⟩ := ha
        split at h5 <;> omega
      rw [if_neg hin, if_neg hout, padL_getD]
      rw [if_pos (by unfold wtP; simp; omega), h3, hi]
  · rw [if_neg hk]
    have h1 : pcA X n = if n = 0 then X else 512 * (X / 512 + n) := rfl
    rw [if_neg (fun ha => by
      obtain ⟨a1, a2⟩ := ha
      split at h1 <;> omega)]
theorem wr_up (m : List B8) (b : B8) (X te : Nat) : ∀ n, (wrU m b X te n).Pairwise (fun c c' => c.1 < c'.1) ∧ ∀ c ∈ wrU m b X te n, c.1 < X / 512 + n
  | 0 => by simp [wrU]
  | n + 1 => by
    obtain ⟨h1, h2⟩ := wr_up m b X te n
    rw [wrU_succ]
    refine ⟨List.pairwise_append.2 ⟨h1, List.pairwise_singleton _ _, fun a ha c hc => ?_⟩, fun c hc => ?_⟩
    · rw [List.mem_singleton] at hc
      subst hc
      have := h2 a ha
      show a.1 < X / 512 + n
      omega
    · rcases List.mem_append.1 hc with h | h
      · have := h2 c h; omega
      · rw [List.mem_singleton] at h
        subst h
        show X / 512 + n < _
        omega
theorem wr_ok (hm : ∀ l ∈ m, l.length ≤ 512) (hX : X + b.length ≤ 32768) (hall : ∀ j, j < n → pcA X j < X + b.length) : OkCs (wrU m b X (X + b.length) n) :=
  okCs_of (fun c hc => by
    unfold wrU at hc
    obtain ⟨i, hi, rfl⟩ := List.mem_map.1 hc
    have hi' := hall i (List.mem_range.1 hi)
    exact ⟨pcO_64 hi' hX, .inr (blkW_len hm rfl hi')⟩) (wr_up m b X _ n).1
theorem Fil.write {sz : Nat} (h : Fil m sz) (hX : X + b.length ≤ 32768) (hall : ∀ j, j < n → pcA X j < X + b.length) (hdone : X + b.length ≤ pcA X n) : Fil (appC m (wrU m b X (X + b.length) n)) (max sz (X + b.length)) := by
  refine ⟨by rw [appC_len]; exact h.len, appC_row _ _ h.row (fun c hc => ((wr_ok h.le hX hall).lt c hc).2), by have := h.top; omega, fun p hp => ?_⟩
  rw [wr_byt h.le h.len hX hall hdone, if_neg (by omega)]
  exact h.nil p (by omega)
/-- A row behind a cutting off. -/
def tr1 (m : List B8) (X te i : Nat) : B8 :=
  if wtP (pcF X i) (pcT X te i) = true then (if m.getD (pcO X i) [] = [] then [] else splice (padL (m.getD (pcO X i) [])) (pcF X i) (List.replicate (pcT X te i - pcF X i) 0)) else []
theorem trI_how (m M : List B8) (X te i : Nat) : (appC M (trI m X te i) = M ∧ tr1 m X te i = [] ∧ m.getD (pcO X i) [] = [] ∧ trI m X te i = []) ∨ (trI m X te i = [(pcO X i, tr1 m X te i)] ∧ appC M (trI m X te i) = M.set (pcO X i) (tr1 m X te i)) := by
  unfold trI tr1
  by_cases h1 : wtP (pcF X i) (pcT X te i) = true
  · rw [if_pos h1, if_pos h1]
    by_cases h2 : m.getD (pcO X i) [] = []
    · rw [if_pos h2, if_pos h2]
      exact .inl ⟨rfl, rfl, h2, rfl⟩
    · rw [if_neg h2, if_neg h2]
      exact .inr ⟨rfl, rfl⟩
  · rw [if_neg h1, if_neg h1]
    exact .inr ⟨rfl, rfl⟩
theorem tr_row (m : List B8) (X te : Nat) : ∀ n, (∀ j, j < n → pcO X j < m.length) → ∀ k, (appC m (trU m X te n)).getD k [] = if X / 512 ≤ k ∧ k < X / 512 + n then tr1 m X te (k - X / 512) else m.getD k []
  | 0, _, k => by rw [if_neg (by omega)]; rfl
  | n + 1, h, k => by
    have ih := tr_row m X te n (fun j hj => h j (by omega)) k
    rw [trU_succ, appC_app]
    have h3 : pcO X n = X / 512 + n := rfl
    rcases trI_how m (appC m (trU m X te n)) X te n with ⟨h1, h2, h4, _⟩ | ⟨_, h1⟩
    · rw [h1, ih]
      by_cases hk : k = X / 512 + n
      · rw [if_neg (by omega), if_pos (by omega), show k - X / 512 = n by omega, h2, hk, ← h3, h4]
      · by_cases h2 : X / 512 ≤ k ∧ k < X / 512 + n
        · rw [if_pos h2, if_pos (by omega)]
        · rw [if_neg h2, if_neg (by omega)]
    · rw [h1, getD_set' _ _ _ _ (by rw [appC_len]; exact h n (by omega)), ih, h3]
      by_cases hk : k = X / 512 + n
      · rw [if_pos hk, if_pos (by omega), show k - X / 512 = n by omega]
      · rw [if_neg hk]
        by_cases h2 : X / 512 ≤ k ∧ k < X / 512 + n
        · rw [if_pos h2, if_pos (by omega)]
        · rw [if_neg h2, if_neg (by omega)]
theorem tr_T {sz i : Nat} (h : pcA X i < trTe sz) : pcT X (trTe sz) i = 512 := by
  have h1 := pcA_eq X i
  have h3 : pcO X i = X / 512 + i := rfl
  unfold trTe at h ⊢
  unfold pcT
  omega
theorem tr_fit {sz i : Nat} (hm : ∀ l ∈ m, l.length ≤ 512) (h : pcA X i < trTe sz) : pcF X i + (List.replicate (pcT X (trTe sz) i - pcF X i) (0 : BitVec 8)).length ≤ (padL (m.getD (pcO X i) [])).length := by
  have h6 := pcF_lt X i
  rw [padL_length (rowD_le hm _), List.length_replicate, tr_T h]
  omega
theorem tr1_len {sz i : Nat} (hm : ∀ l ∈ m, l.length ≤ 512) (h : pcA X i < trTe sz) : (tr1 m X (trTe sz) i).length = 0 ∨ (tr1 m X (trTe sz) i).length = 512 := by
  unfold tr1
  split
  · split
    · exact .inl rfl
    · exact .inr (by rw [splice_len (tr_fit hm h)]; exact padL_length (rowD_le hm _))
  · exact .inl rfl
theorem tr_byt {sz : Nat} (hm : ∀ l ∈ m, l.length ≤ 512) (hml : m.length = 64) (hsz : sz ≤ 32768) (hall : ∀ j, j < n → pcA X j < trTe sz) (hdone : trTe sz ≤ pcA X n) (p : Nat) :
    byt (appC m (trU m X (trTe sz) n)) p = if X ≤ p ∧ p < trTe sz then 0 else byt m p := by
  have hte : trTe sz ≤ 32768 := by unfold trTe; omega
  unfold byt
  rw [tr_row m X (trTe sz) n (fun j hj => by rw [hml]; exact pcO_64 (hall j hj) hte)]
  by_cases hk : X / 512 ≤ p / 512 ∧ p / 512 < X / 512 + n
  · obtain ⟨i, hi⟩ : ∃ i, p / 512 = X / 512 + i := ⟨p / 512 - X / 512, by omega⟩
    rw [if_pos hk, show p / 512 - X / 512 = i by omega]
    have hlt := hall i (by omega)
    have h1 := pcA_eq X i
    have h2 := pcA_ge X i
    have h3 : pcO X i = X / 512 + i := rfl
    have h4 := tr_T hlt
    have h5 : pcF X i = if i = 0 then X % 512 else 0 := rfl
    have h6 := pcF_lt X i
    have h7 : p < trTe sz := by
      unfold trTe at hlt ⊢
      omega
    have hrow : m.getD (p / 512) [] = m.getD (pcO X i) [] := by rw [hi, h3]
    rw [hrow]
    unfold tr1
    by_cases hw : wtP (pcF X i) (pcT X (trTe sz) i) = true
    · rw [if_pos hw]
      by_cases hr : m.getD (pcO X i) [] = []
      · rw [if_pos hr, hr]
        split <;> rfl
      · rw [if_neg hr, splice_getD (tr_fit hm hlt), List.length_replicate, h4]
        by_cases hin : pcF X i ≤ p % 512
        · rw [if_pos (by omega), if_pos (by omega), List.getD_eq_getElem?_getD, List.getElem?_replicate]
          split <;> rfl
        · have hout : ¬ (X ≤ p ∧ p < trTe sz) := fun ha => by
            obtain ⟨a1, a2⟩ := ha
            split at h5 <;> omega
          rw [if_neg (by omega), if_neg hout, padL_getD]
    · rw [if_neg hw, if_pos (by
        have h8 : pcF X i = 0 := by
          unfold wtP at hw
          simp at hw
          omega
        omega)]
      rfl
  · rw [if_neg hk]
    have h1 : pcA X n = if n = 0 then X else 512 * (X / 512 + n) := rfl
    rw [if_neg (fun ha => by
      obtain ⟨a1, a2⟩ := ha
      split at h1 <;> omega)]
theorem tr_up (m : List B8) (X te : Nat) : ∀ n, (trU m X te n).Pairwise (fun c c' => c.1 < c'.1) ∧ ∀ c ∈ trU m X te n, c.1 < X / 512 + n
  | 0 => by simp [trU]
  | n + 1 => by
    obtain ⟨h1, h2⟩ := tr_up m X te n
    rw [trU_succ]
    rcases trI_how m [] X te n with ⟨_, _, _, h3⟩ | ⟨h3, _⟩
    · rw [h3, List.append_nil]
      exact ⟨h1, fun c hc => by have := h2 c hc; omega⟩
    · rw [h3]
      refine ⟨List.pairwise_append.2 ⟨h1, List.pairwise_singleton _ _, fun a ha c hc => ?_⟩, fun c hc => ?_⟩
      · rw [List.mem_singleton] at hc
        subst hc
        have := h2 a ha
        show a.1 < X / 512 + n
        omega
      · rcases List.mem_append.1 hc with h | h
        · have := h2 c h; omega
        · rw [List.mem_singleton] at h
          subst h
          show X / 512 + n < _
          omega
theorem tr_ok {sz : Nat} (hm : ∀ l ∈ m, l.length ≤ 512) (hsz : sz ≤ 32768) (hall : ∀ j, j < n → pcA X j < trTe sz) : OkCs (trU m X (trTe sz) n) :=
  okCs_of (fun c hc => by
    have hte : trTe sz ≤ 32768 := by unfold trTe; omega
    unfold trU at hc
    obtain ⟨i, hi, hc⟩ := List.mem_flatMap.1 hc
    have hi' := hall i (List.mem_range.1 hi)
    rcases trI_how m [] X (trTe sz) i with ⟨_, _, _, h3⟩ | ⟨h3, _⟩
    · rw [h3] at hc; simp at hc
    · rw [h3, List.mem_singleton] at hc
      subst hc
      exact ⟨pcO_64 hi' hte, tr1_len hm hi'⟩) (tr_up m X _ n).1
theorem Fil.cut {sz : Nat} (h : Fil m sz) (hX : X < sz) (hall : ∀ j, j < n → pcA X j < trTe sz) (hdone : trTe sz ≤ pcA X n) : Fil (appC m (trU m X (trTe sz) n)) X := by
  refine ⟨by rw [appC_len]; exact h.len, appC_row _ _ h.row (fun c hc => ((tr_ok h.le h.top hall).lt c hc).2), by have := h.top; omega, fun p hp => ?_⟩
  rw [tr_byt h.le h.len h.top hall hdone]
  split
  · rfl
  · exact h.nil p (by unfold trTe at *; omega)
theorem Fil.up {sz : Nat} (h : Fil m sz) (hX : sz ≤ X) (hx : X ≤ 32768) : Fil m X := ⟨h.len, h.row, hx, fun p hp => h.nil p (by omega)⟩
end
end Go.Proofs.Ythionhliokhcgaa
