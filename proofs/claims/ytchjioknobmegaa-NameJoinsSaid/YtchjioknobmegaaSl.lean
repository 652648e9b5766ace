/- Slices of texts: the call's own, and such as lie in memory. -/
import Derived.Test.YtchjioknobmegaaPfa
namespace Go.Proofs.Ytchjioknobmegaa
open Go.RowKit

abbrev VS (l : List UInt8) : Value := .string (str l)
theorem info9 : (Try.prog.info? 9).map (fun i => (i.zero, i.size, i.bytes)) = some (some (.string ⟨#[]⟩), 1, 16) := by kernel_rfl
/-- A slice of texts, the call's own. -/
abbrev Own (w : World) (B : Nat) (v : Value) (ls : List (List UInt8)) : Prop := w.ownsRow B 9 1 v ls.length (ls.map VS)
/-- The cells of a row of texts. -/
def Txs (g o : Nat) (ls : List (List UInt8)) (w : World) : Prop := ∀ j, j < ls.length → w.cell? ⟨g, o + j, none⟩ = some (VS (ls.getD j []))
/-- A slice of texts that lies in memory. -/
def Src (w : World) (v : Value) (ls : List (List UInt8)) : Prop :=
  ∃ sp cap, v = .slice sp ls.length cap ∧ ls.length ≤ cap ∧ cap ≤ maxLen ∧ (ls ≠ [] → ∃ g o, sp = some ⟨g, o, none⟩ ∧ g < w.heap.size ∧ Txs g o ls w)
theorem Txs.block {g o : Nat} {ls : List (List UInt8)} {w W : World} (h : Txs g o ls w) (hb : W.heap[g]? = w.heap[g]?) : Txs g o ls W := fun j hj => (World.cell?_of_block (a := ⟨g, o + j, none⟩) hb).trans (h j hj)
theorem Txs.below {g o : Nat} {ls : List (List UInt8)} {w W : World} {B : Nat} (h : Txs g o ls w) (hb : Below B w W) (hg : g < B) : Txs g o ls W := h.block (hb.block g hg)
theorem Src.grown {w W : World} {v : Value} {ls : List (List UInt8)} (h : Src w v ls) (hb : Below w.heap.size w W) : Src W v ls := by
  obtain ⟨sp, cap, rfl, hc, hm, h1⟩ := h
  refine ⟨sp, cap, rfl, hc, hm, fun hne => ?_⟩
  obtain ⟨g, o, rfl, hg, ht⟩ := h1 hne
  exact ⟨g, o, rfl, Nat.lt_of_lt_of_le hg hb.size, ht.below hb hg⟩
theorem get_map {α β : Type} (f : α → β) (l : List α) (k : Nat) (hk : k < l.length) (d : α) : (l.map f)[k]? = some (f (l.getD k d)) := by
  simp [List.getD_eq_getElem?_getD, hk]
theorem own_txs {w : World} {B g n cap : Nat} {ls : List (List UInt8)} (h : Own w B (.slice (some ⟨g, 0, none⟩) n cap) ls) : Txs g 0 ls w := fun j hj => by
  have hn : n = ls.length := by rcases h.2 with ⟨e, _⟩ | ⟨_, _, _, e, _⟩ <;> simp at e; omega
  subst hn
  rw [Nat.zero_add, h.cellAt j (by omega)]
  exact get_map VS _ j hj []
theorem Own.src {w : World} {B : Nat} {v : Value} {ls : List (List UInt8)} (h : Own w B v ls) : Src w v ls := by
  have h0 := h
  rcases h.2 with ⟨rfl, hn⟩ | ⟨g, cap, cur, rfl, hb, hg, hc, hm, _, _⟩
  · have : ls = [] := List.eq_nil_of_length_eq_zero hn
    subst this
    exact ⟨none, 0, rfl, by simp, by simp [maxLen], fun h => absurd rfl h⟩
  · exact ⟨some ⟨g, 0, none⟩, cap, rfl, hc, hm, fun _ => ⟨g, 0, rfl, (Array.getElem?_eq_some_iff.1 hg).1, own_txs h0⟩⟩
theorem Own.nil (w : World) (B : Nat) : Own w B (.slice none 0 0) [] := World.ownsRow_nil _ _ _ _
theorem oneVS (l : List UInt8) : ∀ u ∈ [VS l], u.oneCell' = true := by
  intro u hu
  simp at hu
  subst hu
  rfl
/-- One text more. -/
theorem wpList_app {ops : Array Oper} {rest : List Oper} {o : Oper} {a : Act} {w : World} {Q : Exit → Act → World → Prop} (hgd : o.guard = none) (s x : Operand)
    (ho : o.op = .call { callee := .builtin .append, args := #[s, x], argTypes := #[27, 27] }) (B : Nat) (v : Value) (ls : List (List UInt8)) (hs : a.eval s = v) (hown : Own w B v ls)
    (ad : Addr) (c : Nat) (l : List UInt8) (hx : a.eval x = .slice (some ad) 1 c) (hcell : w.cell? (ad.add 0) = some (VS l)) (hl : ls.length < 1000000) (hB : B ≤ w.heap.size)
    (h : ∀ v' w', Own w' B v' (ls ++ [l]) → w.grownBy w' v.ownBlock → wpList Try.prog ops Q rest (a.put o.dst v') w') : wpList Try.prog ops Q (o :: rest) a w := by
  obtain ⟨i0, hi, hz0, hz1, hz2⟩ := info_parts info9
  refine wpList_append_own w hgd s x 27 ho B 9 i0 (.string ⟨#[]⟩) 1 16 Try.underlying27 hi hz0 hz1 hz2 rfl (by decide) v ls.length (ls.map VS) hs hown ad 1 c [VS l] hx rfl ?_ (oneVS l) (by unfold maxLen; omega) (by omega) hB fun v' w' h2 h3 _ => h v' w' (by rw [Own, List.map_append, List.length_append]; exact h2) h3
  intro j u hj
  match j, hj with
  | 0, hj => simp at hj; subst hj; exact hcell
  | (j + 1), hj => simp at hj

theorem sliceMid (l : List UInt8) (i j : Nat) (hij : i ≤ j) (hj : j ≤ l.length) (w : World) : (Instr.slice 9 (.string (str l)) (some (.int .i64 (i : Int))) (some (.int .i64 (j : Int))) none).run Try.prog w = .ok (.string (str ((l.drop i).take (j - i)))) w := by
  rw [run_slice_string (P := Try.prog) w 9 (str l) .i64 .i64 (i : Int) (j : Int) Try.underlying9 (by omega) (by omega) (by rw [str_size]; omega)]
  congr 2
  rw [Int.toNat_natCast, Int.toNat_natCast, ByteArray.extract_mk]
end Go.Proofs.Ytchjioknobmegaa
