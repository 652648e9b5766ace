/- Nodes, plain: what is put is taken, what is taken is put; the errors; good. -/
import Derived.Test.YtincpdnmaiimnaaDoorNf
import Derived.Test.YtincpdnmaiimnaaDoorPqd
import Derived.Test.YtincpdnmaiimnaaDoorRfMore
namespace Go.Proofs.YtincpdnmaiimnaaDoor
open Go.RowKit

theorem stE_zero {l : Bs} {k : Nat} (h : stE l (k + 1) = 0) : stE l k = 0 ∧ takeE (l.drop (64 * k)) 0 = 0 := by
  have h1 : takeE (l.drop (64 * k)) (stE l k) = 0 := h
  have h2 := takeE_zero h1
  rw [h2] at h1
  exact ⟨h2, h1⟩
theorem stE_all {l : Bs} : ∀ k, stE l k = 0 → ∀ j, j < k → takeE (l.drop (64 * j)) 0 = 0
  | 0, _, j, hj => by omega
  | k + 1, h, j, hj => by
    obtain ⟨h1, h2⟩ := stE_zero h
    by_cases e : j = k
    · subst e; exact h2
    · exact stE_all k h1 j (by omega)
theorem takeE_fine {l : Bs} (h : 64 ≤ l.length) : takeE l 0 = if quietP (l.take 64) && fineP (pt l) then 0 else 5 := by
  unfold takeE fineP
  rw [if_neg (by omega), if_neg (by omega)]
theorem nodeE_five (l : Bs) : nodeE l = 0 ∨ nodeE l = 5 := by
  unfold nodeE
  split
  · rename_i hl
    have : ∀ k, k ≤ 8 → stE l k = 0 ∨ stE l k = 5 := by
      intro k
      induction k with
      | zero => intro _; exact .inl rfl
      | succ k ih =>
        intro hk
        show takeE _ _ = 0 ∨ takeE _ _ = 5
        rcases ih (by omega) with h | h
        · rw [h, takeE_fine (by rw [List.length_drop, hl]; omega)]
          split
          · exact .inl rfl
          · exact .inr rfl
        · rw [h]; exact .inr (takeE_bad' (by omega))
    exact this 8 (Nat.le_refl _)
  · exact .inr rfl
theorem refEnd_node {l rest : Bs} {e : Nat} (he : e = stE l 8) (hr : e = 0 → rest = l.drop 512) : (refEnd rest e).2 = 0 ↔ nodeE l = 0 := by
  by_cases h0 : e = 0
  · have h1 : stE l 8 = 0 := by rw [← he]; exact h0
    have h2 := (takeE_long (stE_all 8 h1 7 (by omega))).2
    rw [List.length_drop] at h2
    unfold refEnd nodeE
    rw [hr h0, List.length_drop]
    by_cases h3 : l.length = 512
    · rw [if_pos h3, if_neg (by omega), h1]; simp [h0]
    · rw [if_neg h3, if_pos ⟨h0, by omega⟩]
  · have h1 : ¬ stE l 8 = 0 := by rw [← he]; exact h0
    unfold refEnd nodeE
    rw [if_neg (by intro h; exact h0 h.1)]
    constructor
    · intro h; exact absurd h h0
    · intro h
      split at h
      · exact absurd h h1
      · cases h
theorem piece_at : ∀ {ns : List Pt}, (∀ p ∈ ns, p.OK) → ∀ {j : Nat} {p : Pt}, ns[j]? = some p → ((nodeB ns).drop (64 * j)).take 64 = padB p
  | [], _, j, p, h => by simp at h
  | q :: ns, hok, j, p, h => by
    have hq := padB_length (hok q (by simp))
    have e : nodeB (q :: ns) = padB q ++ nodeB ns := by simp [nodeB]
    match j, h with
    | 0, h =>
      simp only [List.getElem?_cons_zero, Option.some.injEq] at h
      subst h
      rw [e, Nat.mul_zero, List.drop_zero, List.take_left' hq]
    | j + 1, h =>
      simp only [List.getElem?_cons_succ] at h
      rw [e, show 64 * (j + 1) = 64 + 64 * j by omega, ← List.drop_drop, List.drop_left' hq]
      exact piece_at (ns := ns) (fun p hp => hok p (by simp [hp])) h
/-- What is put is taken. -/
theorem put_back {ns : List Pt} (h : NOK ns) (hp : putOk ns = true) : nodeE (nodeB ns) = 0 ∧ nodeT (nodeB ns) = ns := by
  have hl : (nodeB ns).length = 512 := by rw [nodeB_length h.ok, h.len]
  have hpt : ∀ {j p}, ns[j]? = some p → pt ((nodeB ns).drop (64 * j)) = p := fun {j p} hj => by
    rw [← pt_take, piece_at h.ok hj]
    exact (pt_padB (h.at hj)).1
  have hs : ∀ k, k ≤ 8 → stE (nodeB ns) k = 0 := by
    intro k
    induction k with
    | zero => intro _; rfl
    | succ k ih =>
      intro hk
      obtain ⟨p, hp'⟩ := h.get (show k < 8 by omega)
      show takeE _ _ = 0
      rw [ih (by omega), takeE_fine (by rw [List.length_drop, hl]; omega), hpt hp', piece_at h.ok hp', (pt_padB (h.at hp')).2, List.all_eq_true.1 hp p (List.mem_of_getElem? hp')]
      rfl
  have h0 : nodeE (nodeB ns) = 0 := by unfold nodeE; rw [if_pos hl]; exact hs 8 (Nat.le_refl _)
  refine ⟨h0, ?_⟩
  unfold nodeT
  rw [if_pos h0]
  apply List.ext_getElem?
  intro j
  by_cases hj : j < 8
  · obtain ⟨p, hp'⟩ := h.get hj
    rw [hp']
    simp [nodeP, hj, hpt hp']
  · rw [List.getElem?_eq_none (by simp [nodeP]; omega), List.getElem?_eq_none (by rw [h.len]; omega)]
theorem chunks (l : Bs) : ∀ k, (List.range k).flatMap (fun j => (l.drop (64 * j)).take 64) = l.take (64 * k)
  | 0 => by simp
  | k + 1 => by
    rw [List.range_succ, List.flatMap_append, chunks l k]
    simp only [List.flatMap_cons, List.flatMap_nil, List.append_nil]
    rw [show 64 * (k + 1) = 64 * k + 64 by omega, List.take_add]
/-- What is taken is put. -/
theorem take_back {l : Bs} (h : nodeE l = 0) : putOk (nodeT l) = true ∧ nodeB (nodeT l) = l := by
  have hl := nodeE_long h
  have ht : nodeT l = nodeP l := by unfold nodeT; rw [if_pos h]
  have hs : stE l 8 = 0 := by unfold nodeE at h; rw [if_pos hl] at h; exact h
  have hj : ∀ j, j < 8 → quietP ((l.drop (64 * j)).take 64) = true ∧ fineP (pt (l.drop (64 * j))) = true := fun j hj => by
    have h1 := stE_all 8 hs j hj
    rw [takeE_fine (by rw [List.length_drop, hl]; omega)] at h1
    split at h1
    · rename_i h2; simpa using h2
    · cases h1
  rw [ht]
  constructor
  · unfold putOk
    rw [List.all_eq_true]
    intro p hp
    simp only [nodeP, List.mem_map, List.mem_range] at hp
    obtain ⟨j, h1, rfl⟩ := hp
    exact (hj j h1).2
  · have e : nodeB (nodeP l) = (List.range 8).flatMap (fun j => (l.drop (64 * j)).take 64) := by
      unfold nodeB nodeP
      rw [List.flatMap_map]
      rw [List.flatMap_def, List.flatMap_def]
      refine congrArg List.flatten (List.map_congr_left fun j hm => ?_)
      have h8 := List.mem_range.1 hm
      rw [← pt_take]
      exact (padB_pt (by rw [List.length_take, List.length_drop, hl]; omega)).2 (hj j h8).1
    rw [e, chunks]
    exact List.take_of_length_le (by omega)
theorem good_any (p : Pt) (hp : p.OK) (w : World) : Calls Tryd.prog 6 #[.agg (pcells p).toArray] w fun e w' => e = .returned (.bool (fineP p)) ∧ Below w.heap.size w w' := by
  have HP := Lib.hid hp
  have HB := Lib.hid (Blk.new w (pcells p) 28)
  have HW : Hid (Below w.heap.size w (w.alloc (.cells (pcells p).toArray 28))) := Lib.hid ((Below.refl _ _).alloc (Nat.le_refl _) _)
  obtain ⟨b, hb⟩ : ∃ b, fineP p = b := ⟨_, rfl⟩
  rw [hb]
  have HF := Lib.hid hb
  have HE : Hid (∀ W : World, ∀ {ρ : Operand → Value} {o : Oper} {x y : Operand}, o.op = .binOp .eql 28 x y 28 → ρ x = .agg (pcells p).toArray → ρ y = .agg (pcells zeroP).toArray → (execOp ρ o).run Tryd.prog W = .ok (.value (.bool (eqP p zeroP))) W) := Lib.hid fun W _ _ _ _ h1 h2 h3 => ex_eqP h1 h2 h3 HP.out zeroP_ok
  clear hp hb
  go_enter Tryd.func6, Tryd.ntmps6
  cases hz : eqP p zeroP
  · have HM : Hid (mayR p = b) := Lib.hid (by rw [← HF.out, ← mayP_eq HP.out.len]; unfold fineP; rw [hz]; rfl)
    rw [hz] at HE
    clear hz
    go_wp2_with (first | (refine wpL_valG (by rfl) (ex_ldP HP.out HB.out rfl rfl) ?_) | (refine wpL_val rfl (ex_bld0 rfl) ?_) | (refine wpL_val rfl (HE.out _ rfl rfl rfl) ?_) | fail)
    refine (qmay_any p HP.out _).mono ?_
    rw [HM.out]
    rintro e w' ⟨rfl, hb⟩
    have HB2 := Lib.hid (HW.out.trans (hb.mono HW.out.size))
    clear hb HE
    go_wp2_with fail
    go_ret
    exact ⟨rfl, HB2.out⟩
  · obtain rfl : b = true := by rw [← HF.out]; unfold fineP; rw [hz]; rfl
    rw [hz] at HE
    clear hz
    go_wp2_with (first | (refine wpL_valG (by rfl) (ex_ldP HP.out HB.out rfl rfl) ?_) | (refine wpL_val rfl (ex_bld0 rfl) ?_) | (refine wpL_val rfl (HE.out _ rfl rfl rfl) ?_) | fail)
    go_ret
    exact ⟨rfl, HW.out⟩
end Go.Proofs.YtincpdnmaiimnaaDoor
