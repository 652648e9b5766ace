/- The document's lists: has, without, last, drop. -/
import Derived.Test.YtneemllgimeacaaWk
namespace Go.Proofs.Ytneemllgimeacaa
open Go.RowKit

/-- Numbers that lie in memory. -/
def NsAt (w : World) (v : Value) (l : List Nat) : Prop :=
  ∃ sp cap, v = .slice sp l.length cap ∧ l.length ≤ cap ∧ cap ≤ maxLen ∧ (0 < l.length → ∃ g, sp = some ⟨g, 0, none⟩ ∧ g < w.heap.size ∧ ∀ (j x : Nat), l[j]? = some x → w.cell? ⟨g, j, none⟩ = some (.int .u16 (x : Int)))
/-- Blocks that lie in memory. -/
def PsAt (w : World) (v : Value) (l : List (Nat × Bs)) : Prop :=
  ∃ sp cap, v = .slice sp l.length cap ∧ l.length ≤ cap ∧ cap ≤ maxLen ∧ (0 < l.length → ∃ g, sp = some ⟨g, 0, none⟩ ∧ g < w.heap.size ∧ ∀ (j : Nat) (x : Nat × Bs), l[j]? = some x → w.cell? ⟨g, j * 2, none⟩ = some (.int .u16 (x.1 : Int)) ∧ w.cell? ⟨g, j * 2 + 1, none⟩ = some (.string (bstr x.2)))
theorem NsAt.at {w w' : World} {v : Value} {l : List Nat} (h : NsAt w v l) (hs : w.heap.size ≤ w'.heap.size) (hb : ∀ g, v.ownBlock = some g → w'.heap[g]? = w.heap[g]?) : NsAt w' v l := by
  obtain ⟨sp, cap, rfl, h1, h2, h3⟩ := h
  refine ⟨sp, cap, rfl, h1, h2, fun h0 => ?_⟩
  obtain ⟨g, rfl, hg, hc⟩ := h3 h0
  exact ⟨g, rfl, Nat.lt_of_lt_of_le hg hs, fun j x hx => (World.cell?_of_block (a := ⟨g, j, none⟩) (hb g rfl)).trans (hc j x hx)⟩
theorem PsAt.at {w w' : World} {v : Value} {l : List (Nat × Bs)} (h : PsAt w v l) (hs : w.heap.size ≤ w'.heap.size) (hb : ∀ g, v.ownBlock = some g → w'.heap[g]? = w.heap[g]?) : PsAt w' v l := by
  obtain ⟨sp, cap, rfl, h1, h2, h3⟩ := h
  refine ⟨sp, cap, rfl, h1, h2, fun h0 => ?_⟩
  obtain ⟨g, rfl, hg, hc⟩ := h3 h0
  exact ⟨g, rfl, Nat.lt_of_lt_of_le hg hs, fun j x hx => ⟨(World.cell?_of_block (a := ⟨g, j * 2, none⟩) (hb g rfl)).trans (hc j x hx).1, (World.cell?_of_block (a := ⟨g, j * 2 + 1, none⟩) (hb g rfl)).trans (hc j x hx).2⟩⟩
theorem NsAt.grown {w w' : World} {v : Value} {l : List Nat} (h : NsAt w v l) (hb : Below w.heap.size w w') : NsAt w' v l := by
  obtain ⟨sp, cap, rfl, h1, h2, h3⟩ := h
  refine ⟨sp, cap, rfl, h1, h2, fun h0 => ?_⟩
  obtain ⟨g, rfl, hg, hc⟩ := h3 h0
  exact ⟨g, rfl, Nat.lt_of_lt_of_le hg hb.size, fun j x hx => (hb.cell (p := ⟨g, j, none⟩) hg).trans (hc j x hx)⟩
theorem PsAt.grown {w w' : World} {v : Value} {l : List (Nat × Bs)} (h : PsAt w v l) (hb : Below w.heap.size w w') : PsAt w' v l := by
  obtain ⟨sp, cap, rfl, h1, h2, h3⟩ := h
  refine ⟨sp, cap, rfl, h1, h2, fun h0 => ?_⟩
  obtain ⟨g, rfl, hg, hc⟩ := h3 h0
  exact ⟨g, rfl, Nat.lt_of_lt_of_le hg hb.size, fun j x hx => ⟨(hb.cell (p := ⟨g, j * 2, none⟩) hg).trans (hc j x hx).1, (hb.cell (p := ⟨g, j * 2 + 1, none⟩) hg).trans (hc j x hx).2⟩⟩
def nrow (l : List Nat) : List Value := l.map fun x : Nat => Value.int .u16 (x : Int)
def pcells (x : Nat × Bs) : List Value := [Value.int .u16 (x.1 : Int), Value.string (bstr x.2)]
def prow (l : List (Nat × Bs)) : List Value := l.flatMap pcells
theorem prow_snoc (l : List (Nat × Bs)) (x : Nat × Bs) : prow (l ++ [x]) = prow l ++ pcells x := by simp [prow]
theorem nrow_snoc (l : List Nat) (x : Nat) : nrow (l ++ [x]) = nrow l ++ [Value.int .u16 (x : Int)] := by simp [nrow]
theorem prow_at : ∀ (l : List (Nat × Bs)) (i : Nat) (x : Nat × Bs), l[i]? = some x → (prow l)[i * 2]? = some (Value.int .u16 (x.1 : Int)) ∧ (prow l)[i * 2 + 1]? = some (Value.string (bstr x.2))
  | [], i, x, h => by simp at h
  | y :: l, 0, x, h => by
    simp at h
    subst h
    simp [prow, pcells]
  | y :: l, i + 1, x, h => by
    have := prow_at l i x (by simpa using h)
    have e : prow (y :: l) = pcells y ++ prow l := by simp [prow]
    rw [e, show (i + 1) * 2 = i * 2 + 2 by omega]
    constructor
    · rw [List.getElem?_append_right (by simp [pcells])]
      simpa [pcells] using this.1
    · rw [List.getElem?_append_right (by simp [pcells])]
      simpa [pcells] using this.2
theorem own_ns {w : World} {B : Nat} {v : Value} {l : List Nat} (h : w.ownsRow B 41 1 v l.length (nrow l)) : NsAt w v l := by
  rcases h.2 with ⟨rfl, h0⟩ | ⟨g, cap, cur, rfl, _, hg, hc, hm, _⟩
  · exact ⟨none, 0, by rw [h0], by omega, by unfold maxLen; omega, fun hp => by omega⟩
  · refine ⟨_, cap, rfl, hc, hm, fun _ => ⟨g, rfl, (Array.getElem?_eq_some_iff.1 hg).1, fun j x hx => ?_⟩⟩
    have := h.cells (g := g) rfl j (.int .u16 (x : Int)) (by unfold nrow; rw [List.getElem?_map, hx]; rfl)
    rwa [Addr.add_mid, Nat.zero_add] at this
theorem own_ps {w : World} {B : Nat} {v : Value} {l : List (Nat × Bs)} (h : w.ownsRow B 92 2 v l.length (prow l)) : PsAt w v l := by
  rcases h.2 with ⟨rfl, h0⟩ | ⟨g, cap, cur, rfl, _, hg, hc, hm, _⟩
  · exact ⟨none, 0, by rw [h0], by omega, by unfold maxLen; omega, fun hp => by omega⟩
  · refine ⟨_, cap, rfl, hc, hm, fun _ => ⟨g, rfl, (Array.getElem?_eq_some_iff.1 hg).1, fun j x hx => ?_⟩⟩
    obtain ⟨h1, h2⟩ := prow_at l j x hx
    have e1 := h.cells (g := g) rfl _ _ h1
    have e2 := h.cells (g := g) rfl _ _ h2
    rw [Addr.add_mid, Nat.zero_add] at e1 e2
    exact ⟨e1, e2⟩

theorem mem_drop {l : List Nat} {k x : Nat} (h : l[k]? = some x) (a : Nat) : (l.drop k).contains a = ((x == a) || (l.drop (k + 1)).contains a) := by
  obtain ⟨h1, h2⟩ := List.getElem?_eq_some_iff.1 h
  rw [List.drop_eq_getElem_cons h1, h2, List.contains_cons]
  by_cases hxa : x = a
  · subst hxa; simp
  · have h3 : ¬ a = x := fun e => hxa e.symm
    rw [beq_false_of_ne hxa, beq_false_of_ne h3]
set_option maxRecDepth 100000 in
theorem rhas_any (l : List Nat) (v : Value) (a : Nat) (_ : a < 65536) (hl : l.length < 1000000) (w : World) (h : NsAt w v l) : Calls Try.prog 58 #[v, .int .u16 (a : Int)] w fun e w' => e = .returned (.bool (l.contains a)) ∧ w = w' := by
  obtain ⟨sp, cap, rfl, h1, h2, h3⟩ := h
  have H3 := Lib.hid h3
  obtain ⟨N, hN⟩ : ∃ N, l.length = N := ⟨_, rfl⟩
  have HN := Lib.hid hN
  rw [hN] at h1 hl ⊢
  clear h3 hN
  go_enter Try.func58, Try.ntmps58
  go_wp2_with fail
  have HR := Lib.hid (show ∃ k : Nat, k ≤ N ∧ (Value.int .i64 0) = .int .i64 (k : Int) ∧ (l.drop k).contains a = l.contains a ∧ w = w from ⟨0, Nat.zero_le _, rfl, by simp, rfl⟩)
  go_loopw [5] (fun i wr => ∃ k : Nat, k ≤ N ∧ i = .int .i64 (k : Int) ∧ (l.drop k).contains a = l.contains a ∧ wr = w) (fun i _ => N - (intOf i).toNat)
  case atStart => exact HR.out
  case round =>
    clear HR
    obtain ⟨k, hk, rfl, hd, rfl⟩ := hrel
    have HD := Lib.hid hd
    clear hd
    have hwk := IntWalk.i64_in ((k : Int) + 1) (by omega)
    by_cases hlt : k < N
    · obtain ⟨x, hx⟩ : ∃ x, l[k]? = some x := ⟨_, List.getElem?_eq_getElem (by have := HN.out; omega)⟩
      obtain ⟨g, rfl, hg, hcl⟩ := H3.out (by have := HN.out; omega)
      have hc := hcl k x hx
      have HX := Lib.hid hx
      clear hcl hx hg
      by_cases hxa : x = a
      · have ht : ((x : Int) == (a : Int)) = true := by rw [hxa]; simp
        have HXA := Lib.hid hxa
        clear hxa
        go_wp2_with fail
        go_ret
        refine ⟨?_, rfl⟩
        rw [← HD.out, mem_drop HX.out, HXA.out]
        simp
      · have ht : ((x : Int) == (a : Int)) = false := by simp; omega
        have HXA := Lib.hid hxa
        clear hxa
        go_wp2_with fail
        go_roundw
        case rel => exact ⟨k + 1, by omega, by go_num, by rw [← HD.out, mem_drop HX.out, beq_false_of_ne HXA.out]; rfl, trivial⟩
        case measure => simp [intOf]; omega
    · obtain rfl : k = N := by omega
      clear hlt hk
      go_wp2_with fail
      go_ret
      refine ⟨?_, rfl⟩
      rw [← HD.out, List.drop_of_length_le (by rw [HN.out]; exact Nat.le_refl _)]
      rfl
theorem take_one {α : Type} {l : List α} {k : Nat} {x : α} (h : l[k]? = some x) : l.take (k + 1) = l.take k ++ [x] := by
  obtain ⟨h2, h3⟩ := List.getElem?_eq_some_iff.1 h
  rw [List.take_succ_eq_append_getElem h2, h3]
set_option maxRecDepth 100000 in
theorem rlast_any (l : List (Nat × Bs)) (v : Value) (a : Nat) (_ : a < 65536) (hl : l.length < 1000000) (w : World) (h : PsAt w v l) : Calls Try.prog 59 #[v, .int .u16 (a : Int)] w fun e w' => e = .returned (.tuple #[.string (bstr ((lastOf l a).getD [])), .bool (lastOf l a).isSome]) ∧ w = w' := by
  obtain ⟨sp, cap, rfl, h1, h2, h3⟩ := h
  have H3 := Lib.hid h3
  obtain ⟨N, hN⟩ : ∃ N, l.length = N := ⟨_, rfl⟩
  have HN := Lib.hid hN
  rw [hN] at h1 hl ⊢
  clear h3 hN
  have hw0 := IntWalk.i64_in ((N : Int) - 1) (by omega)
  go_enter Try.func59, Try.ntmps59
  go_wp2_with fail
  have HR := Lib.hid (show ∃ k : Nat, k ≤ N ∧ (Value.int .i64 ((N : Int) - 1)) = .int .i64 ((k : Int) - 1) ∧ lastOf (l.take k) a = lastOf l a ∧ w = w from ⟨N, Nat.le_refl _, rfl, by rw [← HN.out, List.take_length], rfl⟩)
  go_loopw [6] (fun i wr => ∃ k : Nat, k ≤ N ∧ i = .int .i64 ((k : Int) - 1) ∧ lastOf (l.take k) a = lastOf l a ∧ wr = w) (fun i _ => (intOf i + 1).toNat)
  case atStart => exact HR.out
  case round =>
    clear HR hw0
    obtain ⟨k, hk, rfl, hd, rfl⟩ := hrel
    have HD := Lib.hid hd
    clear hd
    by_cases h0 : k = 0
    · subst h0
      go_wp2_with fail
      go_ret2
      rw [← HD.out]
      exact ⟨rfl, rfl⟩
    · obtain ⟨i, rfl⟩ : ∃ i, k = i + 1 := ⟨k - 1, by omega⟩
      have hw1 := IntWalk.i64_in ((i : Int) - 1) (by omega)
      have hlt : i < N := by omega
      obtain ⟨x, hx⟩ : ∃ x, l[i]? = some x := ⟨_, List.getElem?_eq_getElem (by have := HN.out; omega)⟩
      obtain ⟨g, rfl, hg, hcl⟩ := H3.out (by have := HN.out; omega)
      obtain ⟨c0, c1⟩ := hcl i x hx
      have HX := Lib.hid hx
      clear hcl hx hg h0
      by_cases hxa : x.1 = a
      · have ht : ((x.1 : Int) == (a : Int)) = true := by rw [hxa]; simp
        have HXA := Lib.hid hxa
        clear hxa
        go_wp2_with fail
        go_ret2
        have e : lastOf l a = some x.2 := by rw [← HD.out, take_one HX.out, lastOf_snoc, if_pos HXA.out]
        rw [e]
        exact ⟨rfl, rfl⟩
      · have ht : ((x.1 : Int) == (a : Int)) = false := by simp; omega
        have HXA := Lib.hid hxa
        clear hxa
        go_wp2_with fail
        go_roundw
        case rel => exact ⟨i, by omega, rfl, by rw [← HD.out, take_one HX.out, lastOf_snoc, if_neg HXA.out], trivial⟩
        case measure => simp [intOf]
theorem info41 : (Try.prog.info? 41).map (fun i => (i.zero, i.size, i.bytes)) = some (some (.int .u16 0), 1, 2) := by kernel_rfl
theorem info92 : (Try.prog.info? 92).map (fun i => (i.zero, i.size, i.bytes)) = some (some (.agg #[.int .u16 0, .string ⟨#[]⟩]), 2, 24) := by kernel_rfl
theorem rinfo {t : TypeId} {z : Value} {n m : Nat} (h : (Try.prog.info? t).map (fun i => (i.zero, i.size, i.bytes)) = some (some z, n, m)) : ∃ i, Try.prog.info? t = some i ∧ i.zero = some z ∧ i.size = n ∧ i.bytes = m := by
  cases hq : Try.prog.info? t with
  | none => rw [hq] at h; simp at h
  | some i =>
    rw [hq] at h
    simp at h
    exact ⟨i, rfl, h.1, h.2.1, h.2.2⟩
/-- A row of numbers, the call's own. -/
abbrev OwnN (w : World) (B : Nat) (v : Value) (l : List Nat) : Prop := w.ownsRow B 41 1 v l.length (nrow l)
abbrev OwnP (w : World) (B : Nat) (v : Value) (l : List (Nat × Bs)) : Prop := w.ownsRow B 92 2 v l.length (prow l)
theorem ownN_app {w : World} {B : Nat} {v : Value} {l : List Nat} (h : OwnN w B v l) (hB : B ≤ w.heap.size) (hl : l.length < 1000000) (x : Nat) {adr : Addr} {c : Nat} (hnews : ∀ j u, [Value.int .u16 (x : Int)][j]? = some u → w.cell? (adr.add j) = some u) (ty : TypeId) :
    ∃ v' w', (Builtin.append_ #[38, 38] ty #[v, .slice (some adr) 1 c]).run Try.prog w = .ok v' w' ∧ OwnN w' B v' (l ++ [x]) ∧ w.grownBy w' v.ownBlock ∧ (v'.ownBlock = v.ownBlock ∨ v'.ownBlock = some w.heap.size) := by
  obtain ⟨i, hi, hz0, hz1, hz2⟩ := rinfo info41
  obtain ⟨v', w', hr, h2, h3, _, h5⟩ := run_append_own_at (P := Try.prog) w B 38 ty 41 i _ 1 2 Try.underlying38 hi hz0 hz1 hz2 rfl (by decide) v l.length (nrow l) h adr 1 c [Value.int .u16 (x : Int)] rfl hnews (fun y hy => by simp at hy; subst hy; rfl) (by unfold maxLen; omega) (by omega) hB
  exact ⟨v', w', hr, by unfold OwnN; rw [List.length_append, nrow_snoc]; exact h2, h3, h5⟩
theorem ownP_app {w : World} {B : Nat} {v : Value} {l : List (Nat × Bs)} (h : OwnP w B v l) (hB : B ≤ w.heap.size) (hl : l.length < 1000000) (x : Nat × Bs) {adr : Addr} {c : Nat} (hnews : ∀ j u, (pcells x)[j]? = some u → w.cell? (adr.add j) = some u) (ty : TypeId) :
    ∃ v' w', (Builtin.append_ #[37, 37] ty #[v, .slice (some adr) 1 c]).run Try.prog w = .ok v' w' ∧ OwnP w' B v' (l ++ [x]) ∧ w.grownBy w' v.ownBlock ∧ (v'.ownBlock = v.ownBlock ∨ v'.ownBlock = some w.heap.size) := by
  obtain ⟨i, hi, hz0, hz1, hz2⟩ := rinfo info92
  obtain ⟨v', w', hr, h2, h3, _, h5⟩ := run_append_own_at (P := Try.prog) w B 37 ty 92 i _ 2 24 Try.underlying37 hi hz0 hz1 hz2 rfl (by decide) v l.length (prow l) h adr 1 c (pcells x) rfl hnews (fun y hy => by simp [pcells] at hy; rcases hy with rfl | rfl <;> rfl) (by unfold maxLen; omega) (by omega) hB
  exact ⟨v', w', hr, by unfold OwnP; rw [List.length_append, prow_snoc]; exact h2, h3, h5⟩
end Go.Proofs.Ytneemllgimeacaa
