/- DirMaps: a map of names and entries, in memory. -/
import Derived.Test.YtlkhnmhhcagghaaEm
import Derived.Maps.OwnSet
import Derived.Maps.Views
import Derived.StringKeys
namespace Go.Proofs.Ytlkhnmhhcagghaa
open Go.RowKit

abbrev EV (e : Ent) : Value := .agg (ecells e).toArray
abbrev NL (n : List UInt8) : Lit := .string (str n).data.toList
def DE (e : Ent) : DataW Unit := .agg [.lit (NL e.n), .lit (.int .u16 (e.u : Int)), .lit (.int .u8 (e.k : Int))]
theorem NL_inj {a b : List UInt8} (h : NL a = NL b) : a = b := by
  have := Lit.string.inj h
  simpa using this
theorem DE_inj {a b : Ent} (h : DE a = DE b) : a = b := by
  unfold DE at h
  simp only [DataW.agg.injEq, List.cons.injEq, DataW.lit.injEq, and_true] at h
  obtain ⟨h1, h2, h3⟩ := h
  refine Ent.ext' (NL_inj h1) ?_ ?_
  · have := Lit.int.inj h2; omega
  · have := Lit.int.inj h3; omega
theorem EV_inj {a b : Ent} (h : EV a = EV b) : a = b := by
  have h1 := Value.agg.inj h
  have h2 : ecells a = ecells b := by simpa using congrArg Array.toList h1
  simp only [ecells, List.cons.injEq, and_true, Value.string.injEq, Value.int.injEq, true_and] at h2
  obtain ⟨h3, h4, h5⟩ := h2
  refine Ent.ext' ?_ (by omega) (by omega)
  have := congrArg (fun s : ByteArray => s.data.toList) h3
  simpa using this
open Classical in
noncomputable def RE (v : Value) : Option (DataW Unit × List MemPlace) :=
  if h : ∃ e : Ent, v = EV e then some (DE h.choose, []) else none
theorem RE_mk (e : Ent) : RE (EV e) = some (DE e, []) := by
  have hx : ∃ e' : Ent, EV e = EV e' := ⟨e, rfl⟩
  unfold RE
  rw [dif_pos hx, ← EV_inj hx.choose_spec]
theorem RE_inv {v : Value} {z : DataW Unit × List MemPlace} (h : RE v = some z) : ∃ e : Ent, v = EV e ∧ z = (DE e, []) := by
  unfold RE at h
  split at h
  · rename_i hx
    cases h
    exact ⟨_, hx.choose_spec, rfl⟩
  · cases h
theorem zeroE_v (w : World) : (zeroValue 46).run Try.prog w = .ok (EV zeroEnt) w := by kernel_rfl
theorem keyedS : Maps.Keyed Try.prog 9 := Maps.string_keyed Try.underlying9
theorem keyS {n : List UInt8} (h : n.length < 1000000) : keyOf Try.prog 9 (.string (str n)) = some (NL n) :=
  WideMaps.keyOf_string_mk Try.underlying9 (s := str n) (by rw [str_size]; unfold maxLen; omega)
theorem own_tight {w : World} {M n : Nat} {D : DataW Unit} (h : w.ownsMap Try.prog 9 RE M n D) : w.ownsMap Try.prog 9 RE M (Maps.size D) D := by
  obtain ⟨es, c, h1, h2, h3, rfl⟩ := h
  exact ⟨es, c, h1, h2, by rw [Maps.size_eq, length_read]; exact Nat.le_refl _, rfl⟩
/-- Block M is a map of L's names and entries. -/
def MapE (w : World) (M : Nat) (L : List Ent) : Prop :=
  ∃ D : DataW Unit, w.ownsMap Try.prog 9 RE M 64 D ∧ Maps.size D = L.length ∧ ∀ n : List UInt8, n.length < 1000000 → Maps.has D (NL n) = (findP n L).isSome ∧ D.atKey (NL n) (DE zeroEnt) = DE ((findP n L).getD zeroEnt)
theorem MapE.lt {w : World} {M : Nat} {L : List Ent} (h : MapE w M L) : M < w.heap.size := by obtain ⟨_, h, _⟩ := h; exact h.lt
theorem MapE.kept {w w' : World} {M : Nat} {L : List Ent} (h : MapE w M L) (hb : w'.heap[M]? = w.heap[M]?) : MapE w' M L := by
  obtain ⟨D, ⟨es, c, h1, h2⟩, h3⟩ := h
  exact ⟨D, ⟨es, c, hb.trans h1, h2⟩, h3⟩
theorem MapE.below {w w' : World} {M B : Nat} {L : List Ent} (h : MapE w M L) (hb : Below B w w') (hB : M < B) : MapE w' M L := h.kept (hb.block M hB)
theorem MapE.made (w : World) : MapE (w.alloc (.map #[] 0)) w.heap.size [] :=
  ⟨.map [], (World.ownsMap_made w _ _ _).mono (Nat.zero_le _), rfl, fun _ _ => ⟨rfl, rfl⟩⟩
theorem MapE.look {w : World} {M : Nat} {L : List Ent} (h : MapE w M L) {n : List UInt8} (hn : n.length < 1000000) : (Instr.lookup 54 (.map (some M)) (.string (str n)) false).run Try.prog w = .ok (EV ((findP n L).getD zeroEnt)) w := by
  obtain ⟨D, h1, -, h3⟩ := h
  obtain ⟨v, ps, hrun, hv⟩ := h1.lookup keyedS Try.underlying54 (zeroE_v w) (RE_mk zeroEnt) (keyS hn)
  obtain ⟨e, rfl, hz⟩ := RE_inv hv
  rw [(h3 n hn).2] at hz
  simp only [Prod.mk.injEq] at hz
  rw [hrun, ← DE_inj hz.1]
theorem MapE.look_ok {w : World} {M : Nat} {L : List Ent} (h : MapE w M L) {n : List UInt8} (hn : n.length < 1000000) : (Instr.lookup 54 (.map (some M)) (.string (str n)) true).run Try.prog w = .ok (.tuple #[EV ((findP n L).getD zeroEnt), .bool (findP n L).isSome]) w := by
  obtain ⟨D, h1, -, h3⟩ := h
  obtain ⟨v, ps, hrun, hv⟩ := h1.look_ok keyedS Try.underlying54 (zeroE_v w) (RE_mk zeroEnt) (keyS hn)
  obtain ⟨e, rfl, hz⟩ := RE_inv hv
  rw [(h3 n hn).2] at hz
  simp only [Prod.mk.injEq] at hz
  rw [hrun, ← DE_inj hz.1, (h3 n hn).1]
theorem MapE.len {w : World} {M : Nat} {L : List Ent} (h : MapE w M L) (ty : TypeId) : (Builtin.len_ #[54] ty #[.map (some M)]).run Try.prog w = .ok (.int .i64 (L.length : Int)) w := by
  obtain ⟨D, h1, h2, -⟩ := h
  rw [h1.len Try.underlying54, h2]
theorem find_perm {n : List UInt8} {L L' : List Ent} (hp : L.Perm L') (hg : (L'.map (·.n)).Nodup) : findP n L = findP n L' := by
  have hg' : (L.map (·.n)).Nodup := (hp.map (·.n)).nodup_iff.2 hg
  have one : ∀ {K : List Ent}, (K.map (·.n)).Nodup → ∀ e ∈ K, e.n = n → findP n K = some e := fun {K} => by
    induction K with
    | nil => intro _ e he; cases he
    | cons a K ih =>
      intro hk e he hn
      rw [List.map_cons, List.nodup_cons] at hk
      unfold findP
      rw [List.find?_cons]
      rcases List.mem_cons.1 he with rfl | he'
      · rw [show eqB n e = true by simp [eqB, hn]]
      · have hne : eqB n a = false := by
          cases hq : eqB n a with
          | false => rfl
          | true =>
            have hq' : a.n = n := by simpa [eqB] using hq
            exact absurd (List.mem_map.2 ⟨e, he', by rw [hn, hq']⟩) hk.1
        rw [hne]
        exact ih hk.2 e he' hn
  cases h : findP n L' with
  | some e =>
    have hm := List.mem_of_find?_eq_some h
    have hn := List.find?_some h
    exact one hg' e (hp.mem_iff.2 hm) (by simpa [eqB] using hn)
  | none =>
    unfold findP at h ⊢
    rw [List.find?_eq_none] at h ⊢
    exact fun x hx => h x (hp.mem_iff.1 hx)
theorem MapE.put {w : World} {M : Nat} {L L' : List Ent} {e : Ent} (h : MapE w M L) (hl : L.length < 64) (hn : e.n.length < 1000000) (hp : L'.Perm (e :: L)) (hg : (L'.map (·.n)).Nodup) (hf : findP e.n L = none) :
    ∃ w', (Instr.mapUpdate 54 (.map (some M)) (.string (str e.n)) (EV e)).run Try.prog w = .ok () w' ∧ MapE w' M L' ∧ w.grownBy w' (some M) := by
  obtain ⟨D, h1, h2, h3⟩ := h
  obtain ⟨w', hrun, ho, hgr⟩ := h1.update keyedS Try.underlying54 (by unfold maxLen; omega) (keyS hn) (RE_mk e)
  have hm : Maps.IsMap D := h1.isMap
  have hsz : Maps.size (D.put (NL e.n) (DE e)) = L'.length := by
    rw [Maps.size_put (h1.tidy keyedS), (h3 e.n hn).1, hf, h2, hp.length_eq]
    simp
  have hkl := keyedS.key (keyS hn)
  refine ⟨w', hrun, ⟨_, (own_tight ho).mono (by rw [hsz, hp.length_eq, List.length_cons]; omega), hsz, fun x hx => ?_⟩, hgr⟩
  have hfx : findP x L' = if e.n = x then some e else findP x L := by
    rw [find_perm hp ((hp.map (·.n)).nodup_iff.1 hg)]
    unfold findP
    rw [List.find?_cons]
    by_cases hq : e.n = x
    · rw [if_pos hq, show eqB x e = true by simp [eqB, hq]]
    · rw [if_neg hq, show eqB x e = false by simp [eqB, hq]]
  rw [hfx]
  by_cases hq : e.n = x
  · subst hq
    rw [if_pos rfl]
    exact ⟨Maps.has_put_same hm hkl _, Maps.atKey_put_same hm hkl _ _⟩
  · rw [if_neg hq]
    have hne : NL x ≠ NL e.n := fun h => hq (NL_inj h).symm
    exact ⟨by rw [Maps.has_put_other hne]; exact (h3 x hx).1, by rw [Maps.atKey_put_other hne]; exact (h3 x hx).2⟩
theorem find_keep (n x : List UInt8) (L : List Ent) : findP x (keepL n L) = if x = n then none else findP x L := by
  unfold findP keepL
  by_cases hq : x = n
  · subst hq
    rw [if_pos rfl, List.find?_eq_none]
    intro e he
    have := (List.mem_filter.1 he).2
    simpa using this
  · rw [if_neg hq]
    induction L with
    | nil => rfl
    | cons a L ih =>
      rw [List.filter_cons, List.find?_cons]
      cases ha : eqB n a with
      | true =>
        rw [if_neg (by simp), ih]
        have : a.n = n := by simpa [eqB] using ha
        rw [show eqB x a = false by simp [eqB, this]; exact fun h => hq h.symm]
      | false => rw [if_pos (by simp), List.find?_cons, ih]
theorem keep_length {n : List UInt8} : ∀ {L : List Ent}, (L.map (·.n)).Nodup → (keepL n L).length + (if (findP n L).isSome then 1 else 0) = L.length
  | [], _ => rfl
  | a :: L, hg => by
    rw [List.map_cons, List.nodup_cons] at hg
    unfold keepL findP
    rw [List.filter_cons, List.find?_cons]
    cases ha : eqB n a with
    | true =>
      have hn : a.n = n := by simpa [eqB] using ha
      have hf : L.filter (fun e => !eqB n e) = L := by
        rw [List.filter_eq_self]
        intro x hx
        have : x.n ≠ n := fun e => hg.1 (by rw [hn, ← e]; exact List.mem_map.2 ⟨x, hx, rfl⟩)
        simpa [eqB] using this
      rw [if_neg (by simp), hf]
      simp
    | false =>
      have ih := keep_length (n := n) hg.2
      unfold keepL findP at ih
      rw [if_pos (by simp), List.length_cons, List.length_cons]
      simp only
      omega
theorem MapE.del {w : World} {M : Nat} {L : List Ent} {n : List UInt8} (h : MapE w M L) (hn : n.length < 1000000) (hg : (L.map (·.n)).Nodup) (ty : TypeId) :
    ∃ w', (Builtin.delete_ #[54, 9] ty #[.map (some M), .string (str n)]).run Try.prog w = .ok (.tuple #[]) w' ∧ MapE w' M (keepL n L) ∧ w.grownBy w' (some M) := by
  obtain ⟨D, h1, h2, h3⟩ := h
  obtain ⟨w', hrun, ho, ht⟩ := h1.drop keyedS Try.underlying54 (keyS hn) ty
  refine ⟨w', hrun, ⟨_, ho, ?_, fun x hx => ?_⟩, ht.grown⟩
  · have e1 := Maps.size_del (k := NL n) (h1.tidy keyedS)
    rw [(h3 n hn).1, h2] at e1
    have e2 := keep_length (n := n) hg
    split at e1 <;> split at e2 <;> first | omega | (simp_all; done) | (exfalso; simp_all; done)
  · rw [find_keep]
    by_cases hq : x = n
    · subst hq
      rw [if_pos rfl]
      exact ⟨Maps.has_del_same, Maps.atKey_del_same _⟩
    · rw [if_neg hq]
      have hne : NL x ≠ NL n := fun h => hq (NL_inj h)
      exact ⟨by rw [Maps.has_del_other hne]; exact (h3 x hx).1, by rw [Maps.atKey_del_other hne]; exact (h3 x hx).2⟩
end Go.Proofs.Ytlkhnmhhcagghaa
