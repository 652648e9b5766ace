/- Content: Truncate. -/
import Derived.Test.YthionhliokhcgaaCk
import Derived.Lib.SliceRun
import Derived.OwnWalk
namespace Go.Proofs.Ythionhliokhcgaa
open Go.RowKit Go.Shelf

attribute [local go_sem] Oper.semAt_some

/-- The change of a piece that is cut off. -/
def trI (m : List B8) (X te i : Nat) : List (Nat × B8) :=
  if wtP (pcF X i) (pcT X te i) = true then (if m.getD (pcO X i) [] = [] then [] else [(pcO X i, splice (padL (m.getD (pcO X i) [])) (pcF X i) (List.replicate (pcT X te i - pcF X i) 0))]) else [(pcO X i, [])]
def trU (m : List B8) (X te n : Nat) : List (Nat × B8) := (List.range n).flatMap (trI m X te)
theorem trU_succ (m : List B8) (X te n : Nat) : trU m X te (n + 1) = trU m X te n ++ trI m X te n := by unfold trU; rw [List.range_succ, List.flatMap_append]; simp
theorem trU_len (m : List B8) (X te : Nat) : ∀ n, (trU m X te n).length ≤ n
  | 0 => by simp [trU]
  | n + 1 => by
    rw [trU_succ, List.length_append]
    have := trU_len m X te n
    have : (trI m X te n).length ≤ 1 := by
      unfold trI
      split
      · split <;> simp
      · simp
    omega
def trTe (sz : Nat) : Nat := (sz + 511) / 512 * 512
theorem Chg.setCells {F : Nat → Prop} {a : World} {g : Nat} (hg : F g ∨ a.heap.size ≤ g) : ∀ (vs : List Value) (o : Nat) (b : World), Chg F a b → Chg F a (b.setCells g o vs)
  | [], _, _, h => h
  | v :: r, o, _, h => Chg.setCells hg r (o + 1) _ (h.setCell hg o v)
theorem zeroB8 (w : World) : (zeroValue 5).run Try.prog w = .ok (.int .u8 0) w := by kernel_rfl
theorem c_exClear {ρ : Operand → Value} {o : Oper} {x : Operand} {v : Value} {w w' : World} (ho : o.op = .call { callee := .builtin .clear, args := #[x], argTypes := #[24] }) (hx : ρ x = v)
    (hr : (Builtin.clear_ #[24] o.type #[v]).run Try.prog w = .ok (.tuple #[]) w') : (execOp ρ o).run Try.prog w = .ok (.value (.tuple #[])) w' := by
  unfold execOp
  simp only [ho, resolve, invoke, builtin, Sem.run_bind, Sem.run_pure, Result.andThen_ok, List.map_toArray, List.map_cons, List.map_nil, hx, hr]
/-- What Truncate leaves. -/
def CTrPost (w : World) (B D : Nat) (vs : List Value) (m : List B8) (bad : Nat) (av : Value) (aq : List Nat) (sz X : Nat) (e : Ending) (w' : World) : Prop :=
  ∃ (n : Nat) (er : Bool) (v : Value) (z : Nat), Ran bad wtP X (trTe sz) n er ∧ CEnd w B D vs m bad av (aq ++ ranQ wtP X (trTe sz) n er) w' ∧ e = .returned (.tuple #[v, .int .u32 (z : Int), .int .i64 (if er = true then 21 else 0)]) ∧ if er = true then v = .slice none 0 0 ∧ z = 0 else z = X ∧ ChAt w' w.heap.size v (trU m X (trTe sz) n)
/-- Bytes of a block are cleared. -/
theorem tr_clear {W A1 : World} {gb f t : Nat} {l : B8} (hb : Below W.heap.size W A1) (hgb : Blk A1 gb ((padL l).map V8) 5) (hge : W.heap.size ≤ gb) (hl : l.length ≤ 512) (h1 : f < t) (h2 : t ≤ 512) (ty : TypeId) :
    ∃ A2, (Builtin.clear_ #[24] ty #[.slice (some ⟨gb, f, none⟩) (t - f) (512 - f)]).run Try.prog A1 = .ok (.tuple #[]) A2 ∧ Below W.heap.size W A2 ∧ ∀ lo, lo ≤ gb → OwnB A2 lo (.slice (some ⟨gb, 0, none⟩) 512 512) (splice (padL l) f (List.replicate (t - f) 0)) := by
  have hpl := padL_length hl
  have hr := Lib.run_clear_slice A1 24 5 ty (.int .u8 0) Try.underlying24 zeroB8 rfl rfl gb f (t - f) (512 - f) (by omega) (fun j hj => by
    obtain ⟨v, hv⟩ := hgb.has (f + j) (by rw [List.length_map, hpl]; omega)
    rw [hv]; rfl) (fun j hj => hgb.free (f + j))
  refine ⟨_, hr, ?_, fun lo hlo => ?_⟩
  · have hc : Chg (fun k => W.heap.size ≤ k) W (A1.setCells gb f (List.replicate (t - f) (.int .u8 0))) := Chg.setCells (.inl hge) _ _ _ ((Chg.of_below hb).mono (fun _ h => h) : Chg (fun k => W.heap.size ≤ k) W A1)
    exact hc.below (fun _ h => h) (Nat.le_refl _)
  · have h3 := blk_setCells gb 5 (List.replicate (t - f) (.int .u8 0)) f A1 _ hgb (by rw [List.length_replicate, List.length_map, hpl]; omega)
    have e : ((padL l).map V8).take f ++ List.replicate (t - f) (.int .u8 0) ++ ((padL l).map V8).drop (f + (List.replicate (t - f) (Value.int .u8 0)).length) = (splice (padL l) f (List.replicate (t - f) 0)).map V8 := by
      rw [map_splice, List.map_replicate]
      unfold splice
      rw [List.length_replicate, List.length_replicate, List.append_assoc]
      rfl
    rw [e] at h3
    have hlen : (splice (padL l) f (List.replicate (t - f) 0)).length = 512 := by
      unfold splice
      rw [List.length_append, List.length_append, List.length_take, List.length_drop, List.length_replicate, hpl]
      omega
    have h9 := h3.owns (base := lo) (n := 512) hlo (by rw [List.length_map, hlen]; exact Nat.le_refl _) (by rw [List.length_map, hlen]; unfold maxLen; omega)
    rw [List.length_map, hlen, List.take_of_length_le (by rw [List.length_map, hlen]; exact Nat.le_refl _)] at h9
    unfold OwnB
    rw [hlen]
    exact h9
end Go.Proofs.Ythionhliokhcgaa
