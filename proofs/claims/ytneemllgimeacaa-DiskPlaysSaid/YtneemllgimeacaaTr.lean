/- Torn writes, plain. -/
import Derived.Test.YtneemllgimeacaaMy
namespace Go.Proofs.Ytneemllgimeacaa
open Go.RowKit

def pdn (n : Nat) (m : Nat → Bk) (c : List (Nat × Bs)) : Dsk := ⟨n, m, c, false, false, none⟩
def Good (m : Nat → Bk) : Prop := ∀ a, (m a).b.length = 512 ∧ (m a).bad = false ∧ (m a).stuck = false
def AllB (c : List (Nat × Bs)) : Prop := ∀ x ∈ c, x.2.length = 512
theorem good0 : Good (fun _ => blank) := fun _ => ⟨zeros_length, rfl, rfl⟩
theorem AllB.snoc {c : List (Nat × Bs)} (h : AllB c) {a : Nat} {b : Bs} (hb : b.length = 512) : AllB (c ++ [(a, b)]) := fun x hx => by
  rcases List.mem_append.1 hx with h1 | h1
  · exact h x h1
  · obtain rfl : x = (a, b) := by simpa using h1
    exact hb
theorem pdn_wrote (n : Nat) (m : Nat → Bk) (c : List (Nat × Bs)) (a : Nat) (b : Bs) (h : a < n ∧ b.length = 512) : wrote (pdn n m c) p0 a b = (0, pdn n m (c ++ [(a, b)]), p0) := by
  simp [wrote, idle, pdn, p0, Pw.step, kept, h.1, h.2]
theorem pdn_wrong (n : Nat) (m : Nat → Bk) (c : List (Nat × Bs)) (a : Nat) (b : Bs) (h : ¬ (a < n ∧ b.length = 512)) : wrote (pdn n m c) p0 a b = (1, pdn n m c, p0) := by
  unfold wrote
  rw [if_neg (by simp [idle, pdn, p0]), if_neg (by simpa [pdn] using h)]
theorem pdn_flushed (n : Nat) (m : Nat → Bk) (c : List (Nat × Bs)) : flushed (pdn n m c) p0 = (0, pdn n (settled (fun _ => 512) c m c.length) [], p0) := by
  simp [flushed, idle, pdn, p0, Pw.step]
theorem pdn_crashed (n : Nat) (m : Nat → Bk) (c : List (Nat × Bs)) (zs : List Int) : crashed (pdn n m c) zs = pdn n (settled (pickOf zs) c m c.length) [] := by
  simp [crashed, pdn]
def cur (m : Nat → Bk) (c : List (Nat × Bs)) (a : Nat) : Bs := (lastOf c a).getD (m a).b
theorem pdn_look {m : Nat → Bk} (h : Good m) (n : Nat) (c : List (Nat × Bs)) (a : Nat) (ha : a < n) : look (pdn n m c) a = some (cur m c a) := by
  unfold look tells cur
  simp only [pdn, Bool.false_eq_true, if_false, ha, if_true, (h a).2.2, (h a).2.1]
  cases lastOf c a <;> rfl
theorem come1_at (m : Nat → Bk) (a : Nat) (b : Bs) (n : Int) (i : Nat) : (come1 m a b n i) = if n = -1 then m i else if i = a then ⟨b.take n.toNat ++ (m a).b.drop n.toNat, false, (m a).stuck⟩ else m i := by
  unfold come1 Upd
  split <;> rfl
theorem good_come {m : Nat → Bk} (h : Good m) {a : Nat} {b : Bs} (hb : b.length = 512) {n : Int} (hn : n = -1 ∨ (0 ≤ n ∧ n ≤ 512)) : Good (come1 m a b n) := fun i => by
  rw [come1_at]
  by_cases h1 : n = -1
  · rw [if_pos h1]; exact h i
  · rw [if_neg h1]
    by_cases h2 : i = a
    · rw [if_pos h2]
      refine ⟨?_, rfl, (h a).2.2⟩
      simp [(h a).1, hb]
      omega
    · rw [if_neg h2]; exact h i
theorem good_settled {m : Nat → Bk} (h : Good m) {c : List (Nat × Bs)} (hc : AllB c) {f : Nat → Int} (hf : ∀ i, f i = -1 ∨ (0 ≤ f i ∧ f i ≤ 512)) : ∀ k, Good (settled f c m k)
  | 0 => h
  | k + 1 => by
    have ih := good_settled h hc hf k
    unfold settled
    cases hx : c[k]? with
    | none => exact ih
    | some x => exact good_come ih (hc x (List.mem_of_getElem? hx)) (hf k)
def writesOf (c : List (Nat × Bs)) (i : Nat) : List Bs := (c.filter (fun x => x.1 == i)).map (·.2)
theorem writesOf_snoc (c : List (Nat × Bs)) (a : Nat) (b : Bs) (i : Nat) : writesOf (c ++ [(a, b)]) i = if a = i then writesOf c i ++ [b] else writesOf c i := by
  unfold writesOf
  rw [List.filter_append]
  by_cases h : a = i
  · rw [if_pos h]; simp [h]
  · rw [if_neg h]; simp [h]
def hit (b y : Bs) (k : Nat) : Bool := N8 (y.getD k 0) == N8 (b.getD k 0)
theorem hit_self (b : Bs) (k : Nat) : hit b b k = true := by simp [hit]
/-- What may stand at i is told of m. -/
def MayOK (m : Nat → Bk) (i : Nat) (x : List Bs) : Prop :=
  (∀ y ∈ x, y.length = 512) ∧ (x.length = 1 → x = [(m i).b]) ∧ ∀ k, k < 512 → x.any (fun y => hit (m i).b y k) = true
theorem mayOK_one {m : Nat → Bk} (h : Good m) (i : Nat) : MayOK m i [(m i).b] :=
  ⟨fun y hy => (List.mem_singleton.1 hy) ▸ (h i).1, fun _ => rfl, fun k _ => by simp [hit_self]⟩
theorem take_snoc {c : List (Nat × Bs)} {k : Nat} {x : Nat × Bs} (h : c[k]? = some x) : c.take (k + 1) = c.take k ++ [x] := by
  obtain ⟨h2, h3⟩ := List.getElem?_eq_some_iff.1 h
  rw [List.take_succ_eq_append_getElem h2, h3]
theorem getD_torn (b o : Bs) (n j : Nat) (hb : n ≤ b.length) : (b.take n ++ o.drop n).getD j 0 = if j < n then b.getD j 0 else o.getD j 0 := by
  simp only [List.getD_eq_getElem?_getD]
  by_cases h : j < n
  · rw [if_pos h, List.getElem?_append_left (by simp; omega), List.getElem?_take, if_pos h]
  · rw [if_neg h, List.getElem?_append_right (by simp; omega)]
    have e : (b.take n).length = n := by simp; omega
    rw [e, List.getElem?_drop, show n + (j - n) = j by omega]
theorem torn {m : Nat → Bk} (h : Good m) {c : List (Nat × Bs)} (hc : AllB c) {f : Nat → Int} (hf : ∀ i, f i = -1 ∨ (0 ≤ f i ∧ f i ≤ 512)) (i : Nat) :
    ∀ k, k ≤ c.length → (writesOf (c.take k) i = [] → (settled f c m k i).b = (m i).b) ∧ ∀ j, (settled f c m k i).b.getD j 0 = (m i).b.getD j 0 ∨ ∃ y ∈ writesOf (c.take k) i, (settled f c m k i).b.getD j 0 = y.getD j 0
  | 0, _ => ⟨fun _ => rfl, fun _ => .inl rfl⟩
  | k + 1, hk => by
    obtain ⟨ih1, ih2⟩ := torn h hc hf i k (by omega)
    obtain ⟨x, hx⟩ : ∃ x, c[k]? = some x := ⟨_, List.getElem?_eq_getElem (by omega)⟩
    obtain ⟨a, b⟩ := x
    have hb := hc _ (List.mem_of_getElem? hx)
    rw [settled_succ hx, take_snoc hx, writesOf_snoc, come1_at]
    simp only at hb ⊢
    by_cases h1 : f k = -1
    · rw [if_pos h1]
      by_cases h2 : a = i
      · rw [if_pos h2]
        exact ⟨fun e => by simp at e, fun j => by
          rcases ih2 j with h3 | ⟨y, hy, h3⟩
          · exact .inl h3
          · exact .inr ⟨y, by simp [hy], h3⟩⟩
      · rw [if_neg h2]; exact ⟨ih1, ih2⟩
    · rw [if_neg h1]
      by_cases h2 : i = a
      · rw [if_pos h2, if_pos h2.symm]
        refine ⟨fun e => by simp at e, fun j => ?_⟩
        have hn := hf k
        rw [← h2]
        simp only
        rw [getD_torn _ _ _ _ (by omega)]
        by_cases h4 : j < (f k).toNat
        · rw [if_pos h4]
          exact .inr ⟨b, by simp, rfl⟩
        · rw [if_neg h4]
          rcases ih2 j with h3 | ⟨y, hy, h3⟩
          · exact .inl h3
          · exact .inr ⟨y, by simp [hy], h3⟩
      · rw [if_neg h2, if_neg (fun e => h2 e.symm)]
        exact ⟨ih1, ih2⟩
theorem tears {m : Nat → Bk} (h : Good m) {c : List (Nat × Bs)} (hc : AllB c) {f : Nat → Int} (hf : ∀ i, f i = -1 ∨ (0 ≤ f i ∧ f i ≤ 512)) (i : Nat) : MayOK (settled f c m c.length) i ((m i).b :: writesOf c i) := by
  obtain ⟨h1, h2⟩ := torn h hc hf i c.length (Nat.le_refl _)
  rw [List.take_length] at h1 h2
  refine ⟨fun y hy => ?_, fun hl => ?_, fun k _ => ?_⟩
  · rcases List.mem_cons.1 hy with rfl | hy
    · exact (h i).1
    · obtain ⟨x, hx, rfl⟩ := List.mem_map.1 hy
      exact hc x (List.mem_filter.1 hx).1
  · have e : writesOf c i = [] := List.eq_nil_of_length_eq_zero (by simpa using hl)
    rw [e, h1 e]
  · rw [List.any_eq_true]
    rcases h2 k with h3 | ⟨y, hy, h3⟩
    · exact ⟨_, List.mem_cons_self, by unfold hit; rw [h3]; simp⟩
    · exact ⟨y, List.mem_cons_of_mem _ hy, by unfold hit; rw [h3]; simp⟩
/-- What may stand in each of n blocks. -/
def mays (n : Nat) (m : Nat → Bk) (c : List (Nat × Bs)) : List (List Bs) := (List.range n).map fun i => (m i).b :: writesOf c i
theorem mays_length (n : Nat) (m : Nat → Bk) (c : List (Nat × Bs)) : (mays n m c).length = n := by simp [mays]
theorem mays_at {n i : Nat} (m : Nat → Bk) (c : List (Nat × Bs)) (h : i < n) : (mays n m c)[i]? = some ((m i).b :: writesOf c i) := by simp [mays, h]
theorem mays_succ (n : Nat) (m : Nat → Bk) : mays (n + 1) m [] = mays n m [] ++ [[(m n).b]] := by
  simp [mays, List.range_succ, writesOf]
theorem mays_write {n a : Nat} (m : Nat → Bk) (c : List (Nat × Bs)) (b : Bs) : mays n m (c ++ [(a, b)]) = (mays n m c).set a (((m a).b :: writesOf c a) ++ [b]) := by
  apply List.ext_getElem?
  intro i
  by_cases hi : i < n
  · rw [mays_at _ _ hi, writesOf_snoc]
    by_cases h : a = i
    · subst h
      rw [if_pos rfl, List.getElem?_set_self (by rw [mays_length]; exact hi)]
      rfl
    · rw [if_neg h, List.getElem?_set_ne h, mays_at _ _ hi]
  · rw [List.getElem?_eq_none (by rw [mays_length]; omega), List.getElem?_eq_none (by rw [List.length_set, mays_length]; omega)]
def MaysOK (m : Nat → Bk) (ms : List (List Bs)) : Prop := ∀ i x, ms[i]? = some x → MayOK m i x
theorem MaysOK.set {m : Nat → Bk} {ms : List (List Bs)} (h : MaysOK m ms) (hg : Good m) (i : Nat) : MaysOK m (ms.set i [(m i).b]) := fun j x hx => by
  by_cases e : i = j
  · subst e
    by_cases hi : i < ms.length
    · rw [List.getElem?_set_self hi] at hx
      cases hx
      exact mayOK_one hg i
    · rw [List.getElem?_eq_none (by rw [List.length_set]; omega)] at hx
      cases hx
  · rw [List.getElem?_set_ne e] at hx
    exact h j x hx
theorem cur_snoc (m : Nat → Bk) (c : List (Nat × Bs)) (a : Nat) (b : Bs) : cur m (c ++ [(a, b)]) a = b := by
  unfold cur
  rw [lastOf_snoc, if_pos rfl]
  rfl
theorem cur_nil (m : Nat → Bk) (a : Nat) : cur m [] a = (m a).b := rfl
end Go.Proofs.Ytneemllgimeacaa
