/- DirMaps, plain: rising entries; what is put is taken, what was taken is put. -/
import Derived.Test.YtlkhnmhhcagghaaEt
import Derived.Test.YtlkhnmhhcagghaaEu
namespace Go.Proofs.Ytlkhnmhhcagghaa
open Go.RowKit

theorem lb_val (x : BitVec 8) (r : List (BitVec 8)) (k : Nat) : lb (val (x :: r)) (k + 1) = lb (val r) k := by
  refine BitVec.eq_of_toNat_eq ?_
  rw [lb_nat, lb_nat]
  show (x.toNat + 256 * val r) / 2 ^ (8 * (k + 1)) % 256 = _
  have hx := x.isLt
  rw [show 8 * (k + 1) = 8 + 8 * k by omega, Nat.pow_add, ← Nat.div_div_eq_div_mul, show (x.toNat + 256 * val r) / 2 ^ 8 = val r by omega]
theorem lb_val0 (x : BitVec 8) (r : List (BitVec 8)) : lb (val (x :: r)) 0 = x := by
  refine BitVec.eq_of_toNat_eq ?_
  rw [lb_nat]
  show (x.toNat + 256 * val r) / 2 ^ (8 * 0) % 256 = _
  have hx := x.isLt
  simp only [Nat.mul_zero, Nat.pow_zero, Nat.div_one]
  omega
theorem lebE_val : ∀ l : List (BitVec 8), leb (val l) l.length = l
  | [] => rfl
  | x :: r => by
    have ih := lebE_val r
    unfold leb at ih ⊢
    rw [List.length_cons, List.range_succ_eq_map, List.map_cons, List.map_map, lb_val0]
    congr 1
    conv => rhs; rw [← ih]
    refine List.map_congr_left fun k _ => ?_
    exact lb_val x r k
theorem nb_un (l : List (BitVec 8)) : nb (un l) = l := by
  unfold nb un
  rw [List.map_map]
  conv => rhs; rw [← List.map_id l]
  refine List.map_congr_left fun x _ => ?_
  refine BitVec.eq_of_toNat_eq ?_
  show (UInt8.ofNat x.toNat).toBitVec.toNat = x.toNat
  have hx := x.isLt
  simp
theorem un_nb (n : List UInt8) : un (nb n) = n := by
  unfold nb un
  rw [List.map_map]
  conv => rhs; rw [← List.map_id n]
  refine List.map_congr_left fun x _ => ?_
  show UInt8.ofNat x.toBitVec.toNat = x
  simp
theorem row_of (x : BitVec 8) (r : List (BitVec 8)) (h : x.toNat + 3 ≤ r.length) : rowB (entOf x r) ++ r.drop (x.toNat + 3) = x :: r := by
  have h1 : (r.take x.toNat).length = x.toNat := by rw [List.length_take]; omega
  have h2 : ((r.drop x.toNat).take 2).length = 2 := by rw [List.length_take, List.length_drop]; omega
  obtain ⟨y, hy⟩ : ∃ y, (r.drop (x.toNat + 2)).take 1 = [y] := by
    cases hd : r.drop (x.toNat + 2) with
    | nil => have := congrArg List.length hd; rw [List.length_drop] at this; simp at this; omega
    | cons y t => exact ⟨y, rfl⟩
  have e1 : lenB (entOf x r) = x := by
    unfold lenB entOf
    rw [un_length, h1]
    simp
  have e2 : leb (entOf x r).u 2 = (r.drop x.toNat).take 2 := by
    unfold entOf
    have := lebE_val ((r.drop x.toNat).take 2)
    rw [h2] at this
    exact this
  have e3 : kB (entOf x r) = y := by
    unfold kB entOf
    rw [hy]
    refine BitVec.eq_of_toNat_eq ?_
    have := y.isLt
    simp [val]
  have e4 : nb (entOf x r).n = r.take x.toNat := nb_un _
  unfold rowB
  rw [e1, e2, e3, e4, ← hy]
  have d1 : r.take x.toNat ++ r.drop x.toNat = r := List.take_append_drop _ _
  have d2 : (r.drop x.toNat).take 2 ++ r.drop (x.toNat + 2) = r.drop x.toNat := by
    have := List.take_append_drop 2 (r.drop x.toNat)
    rw [List.drop_drop] at this
    exact this
  have d3 : (r.drop (x.toNat + 2)).take 1 ++ r.drop (x.toNat + 3) = r.drop (x.toNat + 2) := by
    have := List.take_append_drop 1 (r.drop (x.toNat + 2))
    rw [List.drop_drop] at this
    exact this
  rw [List.append_assoc, List.append_assoc, d3, d2, List.cons_append, d1]
theorem of_row (e : Ent) (t : List (BitVec 8)) (hk : e.OK) (hn : e.n.length < 256) : (lenB e).toNat = e.n.length ∧ entOf (lenB e) (nb e.n ++ leb e.u 2 ++ [kB e] ++ t) = e := by
  have h0 : (lenB e).toNat = e.n.length := by unfold lenB; rw [BitVec.toNat_ofNat]; omega
  refine ⟨h0, ?_⟩
  unfold entOf
  rw [h0]
  have l1 : (nb e.n).length = e.n.length := nb_length _
  have l2 : (leb e.u 2).length = 2 := leb_length _ _
  have e1 : (nb e.n ++ leb e.u 2 ++ [kB e] ++ t).take e.n.length = nb e.n := by
    rw [List.append_assoc, List.append_assoc, List.take_left' l1]
  have e2 : (nb e.n ++ leb e.u 2 ++ [kB e] ++ t).drop e.n.length = leb e.u 2 ++ ([kB e] ++ t) := by
    rw [List.append_assoc, List.append_assoc, List.drop_left' l1]
  have e3 : (nb e.n ++ leb e.u 2 ++ [kB e] ++ t).drop (e.n.length + 2) = [kB e] ++ t := by
    rw [← List.drop_drop, e2, List.drop_left' l2]
  have b1 := hk.1
  have b2 := hk.2
  rw [e1, e2, e3, List.take_left' l2]
  refine Ent.ext' (un_nb _) ?_ ?_
  · show val (leb e.u 2) = e.u
    rw [val_leb]; exact Nat.mod_eq_of_lt (by omega)
  · show val (([kB e] ++ t).take 1) = e.k
    rw [show ([kB e] ++ t).take 1 = [kB e] from rfl]
    show (kB e).toNat + 256 * 0 = e.k
    unfold kB
    rw [BitVec.toNat_ofNat]
    omega
/-- What was read is written as it came. -/
theorem rtL_rows : ∀ (f : Nat) (l : List (BitVec 8)) (acc L : List Ent), rtL f l acc = some L → rowsB L = rowsB acc ++ l
  | 0, _, _, _, h => by simp [rtL] at h
  | f + 1, [], acc, L, h => by simp [rtL] at h; rw [h, List.append_nil]
  | f + 1, x :: r, acc, L, h => by
    unfold rtL at h
    split at h
    · cases h
    · rename_i hlt
      have ih := rtL_rows f _ _ _ h
      rw [ih, rowsB_snoc, List.append_assoc, row_of x r (by omega)]
theorem rtL_ok : ∀ (f : Nat) (l : List (BitVec 8)) (acc L : List Ent), rtL f l acc = some L → (∀ e ∈ acc, e.OK ∧ e.n.length < 256) → ∀ e ∈ L, e.OK ∧ e.n.length < 256
  | 0, _, _, _, h, _ => by simp [rtL] at h
  | f + 1, [], acc, L, h, ha => by simp [rtL] at h; rw [← h]; exact ha
  | f + 1, x :: r, acc, L, h, ha => by
    unfold rtL at h
    split at h
    · cases h
    · rename_i hlt
      refine rtL_ok f _ _ _ h fun e he => ?_
      rw [List.mem_append] at he
      rcases he with he | he
      · exact ha e he
      · rw [List.mem_singleton] at he
        subst he
        have a1 := val_lt ((r.drop x.toNat).take 2)
        have a2 := val_lt ((r.drop (x.toNat + 2)).take 1)
        have b1 : 2 ^ (8 * ((r.drop x.toNat).take 2).length) ≤ 2 ^ (8 * 2) := Nat.pow_le_pow_right (by omega) (by rw [List.length_take]; omega)
        have b2 : 2 ^ (8 * ((r.drop (x.toNat + 2)).take 1).length) ≤ 2 ^ (8 * 1) := Nat.pow_le_pow_right (by omega) (by rw [List.length_take]; omega)
        refine ⟨⟨by show val _ < 65536; omega, by show val _ < 256; omega⟩, ?_⟩
        show (un _).length < 256
        have := x.isLt
        rw [un_length, List.length_take]; omega
theorem takeL_some {b : List (BitVec 8)} {t : List Ent} (h : takeL b = some t) : areB t = true ∧ rowsB t = b ∧ ∀ e ∈ t, e.OK ∧ e.n.length < 256 := by
  rw [takeL_rt] at h
  cases hr : rtL (b.length + 1) b [] with
  | none => rw [hr] at h; cases h
  | some L =>
    rw [hr, Option.bind_some] at h
    split at h
    · rename_i ha
      cases h
      exact ⟨ha, by have := rtL_rows _ _ _ _ hr; simpa [rowsB] using this, rtL_ok _ _ _ _ hr (fun e he => by cases he)⟩
    · cases h
theorem rtL_back : ∀ (t : List Ent) (f : Nat) (acc : List Ent), (rowsB t).length < f → (∀ e ∈ t, e.OK ∧ e.n.length < 256) → rtL f (rowsB t) acc = some (acc ++ t)
  | [], f, acc, hf, _ => by
    obtain ⟨f', rfl⟩ : ∃ f', f = f' + 1 := ⟨f - 1, by omega⟩
    rw [List.append_nil]
    rfl
  | e :: t, f, acc, hf, hk => by
    obtain ⟨f', rfl⟩ : ∃ f', f = f' + 1 := ⟨f - 1, by omega⟩
    have he := hk e (by simp)
    obtain ⟨h1, h2⟩ := of_row e (rowsB t) he.1 he.2
    have hr : rowsB (e :: t) = lenB e :: (nb e.n ++ leb e.u 2 ++ [kB e] ++ rowsB t) := rfl
    have hl : (rowsB (e :: t)).length = e.n.length + 4 + (rowsB t).length := by
      show (rowB e ++ rowsB t).length = _
      rw [List.length_append, rowB_len]
    rw [hr]
    unfold rtL
    have hll : (nb e.n ++ leb e.u 2 ++ [kB e]).length = e.n.length + 3 := by simp [nb_length, leb_length]
    rw [if_neg (by rw [List.length_append, hll, h1]; omega), h2, h1, List.drop_left' hll, rtL_back t f' (acc ++ [e]) (by omega) (fun x hx => hk x (by simp [hx]))]
    simp
theorem takeL_rows {t : List Ent} (ha : areB t = true) (hk : ∀ e ∈ t, e.OK ∧ e.n.length < 256) : takeL (rowsB t) = some t := by
  rw [takeL_rt, rtL_back t _ [] (by omega) hk, List.nil_append, Option.bind_some, if_pos ha]
/-- Entries that rise, each of which may be. -/
def GL (L : List Ent) : Prop := (∀ e ∈ L, errC e.n = 0 ∧ whoB e = true ∧ e.OK) ∧ L.Pairwise (fun a b => ltN a.n b.n = true) ∧ L.length ≤ 64
theorem GL.good {L : List Ent} (h : GL L) : goodL L := by
  refine ⟨?_, h.2.2⟩
  unfold List.Nodup
  rw [List.pairwise_map]
  exact h.2.1.imp fun {a b} hlt e => by rw [e, ltN_irr] at hlt; cases hlt
theorem GL.are {L : List Ent} (h : GL L) : areB L = true := by
  unfold areB
  rw [List.all_eq_true]
  intro i hi
  have hi' := List.mem_range.1 hi
  have hsplit : L.take i ++ L[i] :: L.drop (i + 1) = L := by rw [← List.drop_eq_getElem_cons hi', List.take_append_drop]
  have hp := h.2.1
  rw [← hsplit, List.pairwise_append] at hp
  have hm := h.1 L[i] (List.getElem_mem hi')
  rw [List.getD_eq_getElem?_getD, List.getElem?_eq_getElem hi', Option.getD_some]
  unfold follB
  have hlen : (L.take i).length < 64 := by rw [List.length_take]; have := h.2.2; omega
  rw [decide_eq_true hlen, decide_eq_true hm.1, hm.2.1, Bool.and_true, Bool.and_true, Bool.true_and]
  cases hg : (L.take i).getLast? with
  | none => rfl
  | some z => exact hp.2.2 z (List.mem_of_getLast? hg) L[i] List.mem_cons_self
theorem GL.short {L : List Ent} (h : GL L) : ∀ e ∈ L, e.OK ∧ e.n.length < 256 := fun e he => by
  obtain ⟨h1, -, h3⟩ := h.1 e he
  refine ⟨h3, ?_⟩
  unfold errC at h1
  split at h1
  · rename_i h2; exact absurd h1 h2
  · split at h1
    · cases h1
    · split at h1
      · cases h1
      · omega
theorem GL.nil : GL [] := ⟨(fun e he => by cases he), List.Pairwise.nil, by simp⟩
theorem GL.keep {L : List Ent} (h : GL L) (n : List UInt8) : GL (keepL n L) := by
  unfold keepL
  exact ⟨fun e he => h.1 e (List.mem_filter.1 he).1, h.2.1.sublist List.filter_sublist, Nat.le_trans (List.length_filter_le _ _) h.2.2⟩
theorem GL.add {L : List Ent} {e : Ent} (h : GL L) (hk : e.OK) (ha : addE L e = 0) : GL (addL L e) := by
  obtain ⟨f1, f2, f3, f4⟩ := addE_facts ha
  have hp := addL_perm ha
  refine ⟨fun x hx => ?_, ?_, by rw [hp.length_eq, List.length_cons]; omega⟩
  · rcases List.mem_cons.1 (hp.mem_iff.1 hx) with rfl | hx'
    · exact ⟨f1, f2, hk⟩
    · exact h.1 x hx'
  · unfold addL
    rw [if_pos ha]
    have hne : ∀ x ∈ L, x.n ≠ e.n := fun x hx hq => by
      have := List.findIdx?_eq_none_iff.1 f3 x hx
      simp [eqB, hq] at this
    have hb : (∀ x ∈ L.take (addI L e), ltN x.n e.n = true) ∧ (∀ x ∈ L.drop (addI L e), ltN e.n x.n = true) := by
      unfold addI
      cases hf : L.findIdx? (gtB e.n) with
      | none =>
        rw [Option.getD_none, List.take_length, List.drop_length]
        refine ⟨fun x hx => ?_, fun x hx => by cases hx⟩
        have h1 := List.findIdx?_eq_none_iff.1 hf x hx
        rw [gtB_lt] at h1
        exact ltN_tri h1 (fun q => hne x hx q.symm)
      | some i =>
        rw [Option.getD_some]
        obtain ⟨hi, h1, h2⟩ := List.findIdx?_eq_some_iff_getElem.1 hf
        rw [gtB_lt] at h1
        refine ⟨fun x hx => ?_, fun x hx => ?_⟩
        · obtain ⟨j, hj, rfl⟩ := List.getElem_of_mem hx
          rw [List.length_take] at hj
          rw [List.getElem_take]
          have h3 := h2 j (by omega)
          rw [gtB_lt] at h3
          exact ltN_tri (by simpa using h3) (fun q => hne _ (List.getElem_mem _) q.symm)
        · rw [List.drop_eq_getElem_cons hi] at hx
          rcases List.mem_cons.1 hx with rfl | hx'
          · exact h1
          · have hp2 : (L.drop i).Pairwise (fun a b => ltN a.n b.n = true) := h.2.1.sublist (List.drop_sublist _ _)
            rw [List.drop_eq_getElem_cons hi, List.pairwise_cons] at hp2
            exact ltN_trans h1 (hp2.1 x hx')
    rw [List.pairwise_append, List.pairwise_cons]
    refine ⟨h.2.1.sublist (List.take_sublist _ _), ⟨hb.2, h.2.1.sublist (List.drop_sublist _ _)⟩, fun x hx y hy => ?_⟩
    rcases List.mem_cons.1 hy with rfl | hy'
    · exact hb.1 x hx
    · exact ltN_trans (hb.1 x hx) (hb.2 y hy')
theorem find_at {L : List Ent} {i : Nat} {e : Ent} (hg : (L.map (·.n)).Nodup) (h : L[i]? = some e) : findP e.n L = some e := by
  obtain ⟨hi, rfl⟩ := List.getElem?_eq_some_iff.1 h
  have hsplit : L.take i ++ L[i] :: L.drop (i + 1) = L := by rw [← List.drop_eq_getElem_cons hi, List.take_append_drop]
  have hp : L.Perm (L[i] :: (L.take i ++ L.drop (i + 1))) := by
    have := List.perm_middle (a := L[i]) (l₁ := L.take i) (l₂ := L.drop (i + 1))
    rw [hsplit] at this
    exact this
  have := find_perm (n := L[i].n) hp ((hp.map (·.n)).nodup_iff.1 hg)
  rw [this]
  unfold findP
  rw [List.find?_cons, show eqB L[i].n L[i] = true by simp [eqB]]
theorem GL.next {L : List Ent} (h : GL L) {i : Nat} {a b : Ent} (ha : L[i]? = some a) (hb : L[i + 1]? = some b) : ltN a.n b.n = true := by
  obtain ⟨h1, rfl⟩ := List.getElem?_eq_some_iff.1 ha
  obtain ⟨h2, rfl⟩ := List.getElem?_eq_some_iff.1 hb
  exact List.pairwise_iff_getElem.1 h.2.1 i (i + 1) h1 h2 (by omega)
end Go.Proofs.Ytlkhnmhhcagghaa
