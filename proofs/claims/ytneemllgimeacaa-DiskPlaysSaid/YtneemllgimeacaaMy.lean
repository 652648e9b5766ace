/- What may stand in each block: a slice of slices of texts, the law's own. -/
import Derived.Test.YtneemllgimeacaaGr
namespace Go.Proofs.Ytneemllgimeacaa
open Go.RowKit

abbrev VT (b : Bs) : Value := .string (bstr b)
theorem info9 : (Try.prog.info? 9).map (fun i => (i.zero, i.size, i.bytes)) = some (some (.string ⟨#[]⟩), 1, 16) := by kernel_rfl
theorem info65 : (Try.prog.info? 65).map (fun i => (i.zero, i.size, i.bytes)) = some (some (.slice none 0 0), 1, 24) := by kernel_rfl
theorem info_get {t : TypeId} {z : Value} {n m : Nat} (h : (Try.prog.info? t).map (fun i => (i.zero, i.size, i.bytes)) = some (some z, n, m)) : ∃ i, Try.prog.info? t = some i ∧ i.zero = some z ∧ i.size = n ∧ i.bytes = m := by
  cases hq : Try.prog.info? t with
  | none => rw [hq] at h; simp at h
  | some i =>
    rw [hq] at h
    simp at h
    exact ⟨i, rfl, h.1, h.2.1, h.2.2⟩
theorem owns_set {w : World} {B e g n cap : Nat} {xs : List Value} (h : w.ownsRow B e 1 (.slice (some ⟨g, 0, none⟩) n cap) n xs) {i : Nat} (hi : i < n) (u : Value) : (w.setCell ⟨g, i, none⟩ u).ownsRow B e 1 (.slice (some ⟨g, 0, none⟩) n cap) n (xs.set i u) := by
  refine ⟨by rw [List.length_set]; exact h.1, ?_⟩
  rcases h.2 with ⟨e1, _⟩ | ⟨g', cap', cur, e1, hb, hg, hc, hm, hs, ht⟩
  · cases e1
  · cases e1
    have h1 : Blk w g cur.toList e := by unfold Blk; simpa using hg
    have h2 := h1.set i u
    refine .inr ⟨g, cap, (cur.toList.set i u).toArray, rfl, hb, h2, hc, hm, by simpa using hs, ?_⟩
    rw [List.toList_toArray, List.take_set, ht]
theorem own_shape {w : World} {B e k n : Nat} {v : Value} {xs : List Value} (h : w.ownsRow B e k v n xs) (hn : 0 < n) : ∃ g cap, v = .slice (some ⟨g, 0, none⟩) n cap ∧ g < w.heap.size ∧ n ≤ cap ∧ cap ≤ maxLen := by
  rcases h.2 with ⟨_, h0⟩ | ⟨g, cap, cur, rfl, _, hg, hc, hm, _⟩
  · omega
  · exact ⟨g, cap, rfl, (Array.getElem?_eq_some_iff.1 hg).1, hc, hm⟩
/-- One slice of texts. -/
structure Inner (w : World) (F : Nat → Prop) (u : Value) (x : List Bs) : Prop where
  own : w.ownsRow 0 9 1 u x.length (x.map VT)
  pos : 0 < x.length
  out : ∀ g, u.ownBlock = some g → ¬ F g
theorem Inner.next {w w' : World} {F F' G : Nat → Prop} {u : Value} {x : List Bs} (h : Inner w F u x) (hc : Chg G w w') (hG : ∀ g, u.ownBlock = some g → ¬ G g) (hF : ∀ k, F' k → F k ∨ w.heap.size ≤ k) : Inner w' F' u x :=
  ⟨owns_chg h.own hc hG, h.pos, fun g hg hf => by rcases hF g hf with h1 | h1; exact h.out g hg h1; have := (h.own.lt g hg).2; omega⟩
structure MayAt (w : World) (F : Nat → Prop) (v : Value) (ms : List (List Bs)) (us : List Value) : Prop where
  len : us.length = ms.length
  own : w.ownsRow 0 65 1 v ms.length us
  out : ∀ g, v.ownBlock = some g → ¬ F g
  inner : ∀ (i : Nat) (x : List Bs) (u : Value), ms[i]? = some x → us[i]? = some u → Inner w F u x
  apart : ∀ (i j : Nat) (u u' : Value), i ≠ j → us[i]? = some u → us[j]? = some u' → u.ownBlock ≠ u'.ownBlock
theorem MayAt.nil (w : World) (F : Nat → Prop) : MayAt w F (.slice none 0 0) [] [] :=
  ⟨rfl, World.ownsRow_nil _ _ _ _, fun g h => by simp [Value.ownBlock] at h, fun i x u h => by simp at h, fun i j u u' _ h => by simp at h⟩
/-- .. in a later world, in which only what is in F has turned. -/
theorem MayAt.next {w w' : World} {F F' : Nat → Prop} {v : Value} {ms : List (List Bs)} {us : List Value} (h : MayAt w F v ms us) (hc : Chg F w w') (hF : ∀ k, F' k → F k ∨ w.heap.size ≤ k) : MayAt w' F' v ms us :=
  ⟨h.len, owns_chg h.own hc h.out, fun g hg hf => by rcases hF g hf with h1 | h1; exact h.out g hg h1; have := (h.own.lt g hg).2; omega,
    fun i x u h1 h2 => (h.inner i x u h1 h2).next hc (h.inner i x u h1 h2).out hF, h.apart⟩
theorem MayAt.grown {w w' : World} {F : Nat → Prop} {v : Value} {ms : List (List Bs)} {us : List Value} (h : MayAt w F v ms us) (hb : Below w.heap.size w w') : MayAt w' F v ms us := h.next (Chg.of_below hb) (fun _ h => .inl h)
/-- A slice of one text, new. -/
theorem inner_new (w : World) (F : Nat → Prop) (b : Bs) (hF : ∀ k, F k → k < w.heap.size) : Inner (w.alloc (.cells #[VT b] 9)) F (.slice (some ⟨w.heap.size, 0, none⟩) 1 1) [b] :=
  ⟨⟨rfl, .inr ⟨w.heap.size, 1, #[VT b], rfl, Nat.zero_le _, heap_alloc_new w _, Nat.le_refl _, by unfold maxLen; omega, rfl, rfl⟩⟩, by simp, fun g hg hf => by simp [Value.ownBlock] at hg; subst hg; exact Nat.lt_irrefl _ (hF _ hf)⟩
theorem cell_one (w : World) (x : Value) (t : TypeId) : ∀ j u, [x][j]? = some u → (w.alloc (.cells #[x] t)).cell? ((⟨w.heap.size, 0, none⟩ : Addr).add j) = some u := cell_one_new w x t
/-- The outer slice takes one more. -/
theorem MayAt.push {w : World} {F : Nat → Prop} {v u : Value} {ms : List (List Bs)} {us : List Value} {x : List Bs} (h : MayAt w F v ms us) (hu : Inner w F u x) (hap : ∀ (i : Nat) (u' : Value), us[i]? = some u' → u'.ownBlock ≠ u.ownBlock) (hv : v.ownBlock ≠ u.ownBlock) (hF : ∀ k, F k → k < w.heap.size)
    (h65 : ∀ (i : Nat) (u' : Value), us[i]? = some u' → v.ownBlock ≠ u'.ownBlock) (hone : u.oneCell' = true) {adr : Addr} {c : Nat} (hnews : ∀ j y, [u][j]? = some y → w.cell? (adr.add j) = some y) (hl : ms.length < 1000000) (ty : TypeId) :
    ∃ v' w', (Builtin.append_ #[64, 64] ty #[v, .slice (some adr) 1 c]).run Try.prog w = .ok v' w' ∧ MayAt w' F v' (ms ++ [x]) (us ++ [u]) ∧ Chg (fun k => v.ownBlock = some k) w w' ∧ (v'.ownBlock = v.ownBlock ∨ v'.ownBlock = some w.heap.size) := by
  obtain ⟨i, hi, hz0, hz1, hz2⟩ := info_get info65
  obtain ⟨v', w', hr, h2, h3, h4, h5⟩ := run_append_own_at (P := Try.prog) w 0 64 ty 65 i _ 1 24 Try.underlying64 hi hz0 hz1 hz2 rfl (by decide) v ms.length us h.own adr 1 c [u] rfl hnews (fun y hy => by simp at hy; subst hy; exact hone) (by unfold maxLen; omega) (by omega) (Nat.zero_le _)
  have hc : Chg (fun k => v.ownBlock = some k) w w' := (Chg.refl _ w).grown h3 (fun k hk => .inl hk)
  have hgrow : ∀ (u' : Value) (x' : List Bs), Inner w F u' x' → v.ownBlock ≠ u'.ownBlock → Inner w' F u' x' := fun u' x' hh hne => hh.next hc (fun g hg hv => hne (hv.trans hg.symm)) (fun _ h => .inl h)
  refine ⟨v', w', hr, ⟨by simp [h.len], by rw [List.length_append]; exact h2, fun g hg hf => ?_, fun i y u' h6 h7 => ?_, fun i j u1 u2 hne h6 h7 => ?_⟩, hc, h5⟩
  · rcases h5 with h5 | h5
    · rw [h5] at hg; exact h.out g hg hf
    · rw [h5] at hg; cases hg; exact Nat.lt_irrefl _ (hF _ hf)
  · by_cases hi : i < ms.length
    · rw [List.getElem?_append_left hi] at h6
      rw [List.getElem?_append_left (by rw [h.len]; exact hi)] at h7
      exact hgrow _ _ (h.inner i y u' h6 h7) (h65 i u' h7)
    · have hi2 : i = ms.length := by
        have := (List.getElem?_eq_some_iff.1 h6).1
        simp at this; omega
      subst hi2
      rw [List.getElem?_append_right (Nat.le_refl _)] at h6
      rw [List.getElem?_append_right (by rw [h.len]; exact Nat.le_refl _)] at h7
      rw [h.len] at h7
      simp at h6 h7
      subst h6 h7
      exact hgrow _ _ hu hv
  · have key : ∀ (i j : Nat) (u1 u2 : Value), i < j → (us ++ [u])[i]? = some u1 → (us ++ [u])[j]? = some u2 → u1.ownBlock ≠ u2.ownBlock := fun i j u1 u2 hlt h6 h7 => by
      have hj := (List.getElem?_eq_some_iff.1 h7).1
      simp at hj
      have hi1 : i < us.length := by omega
      rw [List.getElem?_append_left hi1] at h6
      by_cases hj2 : j < us.length
      · rw [List.getElem?_append_left hj2] at h7
        exact h.apart i j u1 u2 (by omega) h6 h7
      · have : j = us.length := by omega
        subst this
        rw [List.getElem?_append_right (Nat.le_refl _)] at h7
        simp at h7
        subst h7
        exact hap i u1 h6
    rcases Nat.lt_or_gt_of_ne hne with hlt | hlt
    · exact key i j u1 u2 hlt h6 h7
    · exact (key j i u2 u1 hlt h7 h6).symm
/-- One inner slice put in place of another. -/
theorem MayAt.put {w w1 : World} {F G : Nat → Prop} {g n cap i : Nat} {u : Value} {ms : List (List Bs)} {us : List Value} {x : List Bs} (h : MayAt w F (.slice (some ⟨g, 0, none⟩) n cap) ms us) (hn : n = ms.length) (hi : i < n) (hc : Chg G w w1) (hG : ∀ k, G k → us[i]?.bind Value.ownBlock = some k)
    (hu : Inner w1 F u x) (hgu : ∀ k, u.ownBlock = some k → us[i]?.bind Value.ownBlock = some k ∨ w.heap.size ≤ k) (h65 : ∀ (j : Nat) (u' : Value), us[j]? = some u' → u'.ownBlock ≠ some g) :
    MayAt (w1.setCell ⟨g, i, none⟩ u) F (.slice (some ⟨g, 0, none⟩) n cap) (ms.set i x) (us.set i u) := by
  subst hn
  have hgl : g < w.heap.size := (h.own.lt g rfl).2
  obtain ⟨ui, hui⟩ : ∃ ui, us[i]? = some ui := ⟨_, List.getElem?_eq_getElem (by rw [h.len]; exact hi)⟩
  rw [hui] at hG hgu
  simp only [Option.bind_some] at hG hgu
  have hgG : ¬ G g := fun hh => h65 i ui hui (hG g hh)
  have h1 := owns_chg h.own hc (fun k hk => by simp [Value.ownBlock] at hk; subst hk; exact hgG)
  have hgu2 : u.ownBlock ≠ some g := fun e => by
    rcases hgu g e with h2 | h2
    · exact h65 i ui hui h2
    · omega
  have hset : Chg (fun k => k = g) w1 (w1.setCell ⟨g, i, none⟩ u) := chg1 i u
  refine ⟨by simp [h.len], by rw [List.length_set]; exact owns_set h1 hi u, h.out, fun j y u' h6 h7 => ?_, fun j k u1 u2 hne h6 h7 => ?_⟩
  · by_cases hj : j = i
    · subst hj
      rw [List.getElem?_set_self (by rw [h.len]; exact hi)] at h7
      rw [List.getElem?_set_self hi] at h6
      cases h6; cases h7
      exact hu.next hset (fun k hk e => hgu2 (by rw [hk, e])) (fun _ h => .inl h)
    · rw [List.getElem?_set_ne (fun e => hj e.symm)] at h6 h7
      have hin := h.inner j y u' h6 h7
      have h8 := hin.next hc (fun k hk hg => h.apart j i u' ui hj h7 hui (by rw [hk, hG k hg])) (fun _ h => .inl h) (F' := F)
      exact h8.next hset (fun k hk e => h65 j u' h7 (by rw [hk, e])) (fun _ h => .inl h)
  · have key : ∀ (j : Nat) (u1 : Value), j ≠ i → us[j]? = some u1 → u1.ownBlock ≠ u.ownBlock := fun j u1 hj h9 e => by
      obtain ⟨y, hy⟩ : ∃ y, ms[j]? = some y := ⟨_, List.getElem?_eq_getElem (by have := (List.getElem?_eq_some_iff.1 h9).1; rw [h.len] at this; exact this)⟩
      have hin := h.inner j y u1 hy h9
      obtain ⟨k, hk, hkl⟩ := owns_form hin.own hin.pos
      rw [hk] at e
      rcases hgu k e.symm with h2 | h2
      · exact h.apart j i u1 ui hj h9 hui (by rw [hk, h2])
      · omega
    by_cases hj : j = i
    · subst hj
      rw [List.getElem?_set_self (by rw [h.len]; exact hi)] at h6
      cases h6
      rw [List.getElem?_set_ne hne] at h7
      exact (key k u2 hne.symm h7).symm
    · rw [List.getElem?_set_ne (fun e => hj e.symm)] at h6
      by_cases hk : k = i
      · subst hk
        rw [List.getElem?_set_self (by rw [h.len]; exact hi)] at h7
        cases h7
        exact key j u1 hj h6
      · rw [List.getElem?_set_ne (fun e => hk e.symm)] at h7
        exact h.apart j k u1 u2 hne h6 h7
/-- The outer row is no inner one. -/
theorem MayAt.outer {w : World} {F : Nat → Prop} {v : Value} {ms : List (List Bs)} {us : List Value} (h : MayAt w F v ms us) : ∀ (i : Nat) (u' : Value), us[i]? = some u' → v.ownBlock ≠ u'.ownBlock := fun i u' h1 e => by
  obtain ⟨y, hy⟩ : ∃ y, ms[i]? = some y := ⟨_, List.getElem?_eq_getElem (by have := (List.getElem?_eq_some_iff.1 h1).1; rw [h.len] at this; exact this)⟩
  have hin := h.inner i y u' hy h1
  obtain ⟨k, hk, _⟩ := owns_form hin.own hin.pos
  obtain ⟨cs, hb⟩ := owns_blk hin.own hk
  obtain ⟨cs', hb'⟩ := owns_blk h.own (e.trans hk)
  exact absurd (hb.same hb') (by decide)
/-- The cells of the outer and of an inner row. -/
theorem MayAt.cells {w : World} {F : Nat → Prop} {g n cap i : Nat} {ms : List (List Bs)} {us : List Value} {x : List Bs} (h : MayAt w F (.slice (some ⟨g, 0, none⟩) n cap) ms us) (hx : ms[i]? = some x) :
    ∃ gi ci, w.cell? ⟨g, i, none⟩ = some (.slice (some ⟨gi, 0, none⟩) x.length ci) ∧ us[i]? = some (.slice (some ⟨gi, 0, none⟩) x.length ci) ∧ x.length ≤ ci ∧ ci ≤ maxLen ∧ gi < w.heap.size ∧ (∀ j y, x[j]? = some y → w.cell? ⟨gi, j, none⟩ = some (VT y)) := by
  obtain ⟨u, hu⟩ : ∃ u, us[i]? = some u := ⟨_, List.getElem?_eq_getElem (by rw [h.len]; exact (List.getElem?_eq_some_iff.1 hx).1)⟩
  have hin := h.inner i x u hx hu
  obtain ⟨gi, ci, rfl, hgl, hc, hm⟩ := own_shape hin.own hin.pos
  have h1 := h.own.cells (g := g) rfl i _ hu
  rw [Addr.add_mid, Nat.zero_add] at h1
  refine ⟨gi, ci, h1, hu, hc, hm, hgl, fun j y hy => ?_⟩
  have h2 := hin.own.cells (g := gi) rfl j (VT y) (by rw [List.getElem?_map, hy]; rfl)
  rw [Addr.add_mid, Nat.zero_add] at h2
  exact h2
/-- An inner slice takes one more text. -/
theorem Inner.push {w : World} {F : Nat → Prop} {u : Value} {x : List Bs} (h : Inner w F u x) (b : Bs) (hF : ∀ k, F k → k < w.heap.size) {adr : Addr} {c : Nat} (hnews : ∀ j y, [VT b][j]? = some y → w.cell? (adr.add j) = some y) (hl : x.length < 1000000) (ty : TypeId) :
    ∃ u' w', (Builtin.append_ #[65, 65] ty #[u, .slice (some adr) 1 c]).run Try.prog w = .ok u' w' ∧ Inner w' F u' (x ++ [b]) ∧ Chg (fun k => u.ownBlock = some k) w w' ∧ (u'.ownBlock = u.ownBlock ∨ u'.ownBlock = some w.heap.size) := by
  obtain ⟨i, hi, hz0, hz1, hz2⟩ := info_get info9
  obtain ⟨v', w', hr, h2, h3, h4, h5⟩ := run_append_own_at (P := Try.prog) w 0 65 ty 9 i _ 1 16 Try.underlying65 hi hz0 hz1 hz2 rfl (by decide) u x.length (x.map VT) h.own adr 1 c [VT b] rfl hnews (fun y hy => by simp at hy; subst hy; rfl) (by unfold maxLen; omega) (by omega) (Nat.zero_le _)
  have hc : Chg (fun k => u.ownBlock = some k) w w' := (Chg.refl _ w).grown h3 (fun k hk => .inl hk)
  refine ⟨v', w', hr, ⟨by rw [List.length_append, List.map_append]; exact h2, by simp, fun g hg hf => ?_⟩, hc, h5⟩
  rcases h5 with h5 | h5
  · rw [h5] at hg; exact h.out g hg hf
  · rw [h5] at hg; cases hg; exact Nat.lt_irrefl _ (hF _ hf)
end Go.Proofs.Ytneemllgimeacaa
