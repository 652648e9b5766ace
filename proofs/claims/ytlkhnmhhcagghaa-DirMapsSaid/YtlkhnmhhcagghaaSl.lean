/- Slices of bytes: what they hold; as a string; put behind nil. -/
import Derived.Test.YtlkhnmhhcagghaaByt
import Derived.Test.YtlkhnmhhcagghaaSched
import Derived.Test.YtlkhnmhhcagghaaRows
import Derived.Laws.AppendOwnNone
import Derived.Deep.RegionLaw
namespace Go.Proofs.Ytlkhnmhhcagghaa
open Go.RowKit

theorem infoB : (Try.prog.info? 5).map (fun i => (i.zero, i.size, i.bytes)) = some (some (.int .u8 0), 1, 1) := by kernel_rfl
theorem sizeB : (Try.prog.info? 5).map (·.size) = some 1 := by kernel_rfl

/-- The bytes bs lie where the slice begins. -/
def SrcA (w : World) (sp : Option Addr) (bs : List (BitVec 8)) : Prop :=
  0 < bs.length → ∃ g o, sp = some ⟨g, o, none⟩ ∧ g < w.heap.size ∧ ∀ j, j < bs.length → w.cell? ⟨g, o + j, none⟩ = some (V8 (bs.getD j 0))
theorem SrcA.below {w W : World} {sp : Option Addr} {bs : List (BitVec 8)} (h : SrcA w sp bs) {B : Nat} (hb : Below B w W) (hB : w.heap.size ≤ B) : SrcA W sp bs := fun h0 => by
  obtain ⟨g, o, rfl, hg, hc⟩ := h h0
  exact ⟨g, o, rfl, Nat.lt_of_lt_of_le hg hb.size, fun j hj => (hb.cell (p := ⟨g, o + j, none⟩) (Nat.lt_of_lt_of_le hg hB)).trans (hc j hj)⟩
theorem SrcA.grown {w W : World} {sp : Option Addr} {bs : List (BitVec 8)} (h : SrcA w sp bs) (hb : Below w.heap.size w W) : SrcA W sp bs := h.below hb (Nat.le_refl _)
theorem SrcA.drew {w : World} {sp : Option Addr} {bs : List (BitVec 8)} (h : SrcA w sp bs) : SrcA w.drew sp bs := h
theorem SrcA.nil (w : World) (sp : Option Addr) : SrcA w sp [] := fun h => absurd h (by simp)
/-- A slice of the call's own holds bytes. -/
abbrev OwnB (w : World) (B : Nat) (v : Value) (l : List (BitVec 8)) : Prop := w.ownsRow B 5 1 v l.length (l.map V8)
theorem OwnB.form {w : World} {B : Nat} {v : Value} {l : List (BitVec 8)} (h : OwnB w B v l) : ∃ sp cap, v = .slice sp l.length cap ∧ l.length ≤ cap ∧ cap ≤ maxLen ∧ SrcA w sp l ∧ (sp = none → cap = 0) ∧ (∀ a, sp = some a → B ≤ a.block ∧ a.block < w.heap.size) := by
  rcases h.2 with ⟨rfl, hn⟩ | ⟨g, cap, cur, rfl, hb, hg, hc, hm, _, _⟩
  · refine ⟨none, 0, by rw [hn], by omega, by unfold maxLen; omega, fun h0 => by omega, fun _ => rfl, fun _ hh => by cases hh⟩
  · have hlt : g < w.heap.size := (Array.getElem?_eq_some_iff.1 hg).1
    refine ⟨some ⟨g, 0, none⟩, cap, rfl, hc, hm, fun h0 => ⟨g, 0, rfl, hlt, fun j hj => ?_⟩, (fun hh => by cases hh), (fun _ hh => by cases hh; exact ⟨hb, hlt⟩)⟩
    rw [Nat.zero_add, h.cellAt j (by omega)]
    exact get_map V8 _ j hj 0
theorem OwnB.below {w W : World} {B B' : Nat} {v : Value} {l : List (BitVec 8)} (h : OwnB w B v l) (hb : Below B' w W) (hB : w.heap.size ≤ B') : OwnB W B v l := by
  refine ⟨h.1, ?_⟩
  rcases h.2 with hn | ⟨g, cap, cur, rfl, hbg, hg, rest⟩
  · exact .inl hn
  · exact .inr ⟨g, cap, cur, rfl, hbg, by rw [hb.block g (Nat.lt_of_lt_of_le (Array.getElem?_eq_some_iff.1 hg).1 hB)]; exact hg, rest⟩

theorem src_cell {w : World} {g o : Nat} {l : List (BitVec 8)} (h : ∀ j, j < l.length → w.cell? ⟨g, o + j, none⟩ = some (V8 (l.getD j 0))) : ∀ j v, (l.map V8)[j]? = some v → w.cell? ((⟨g, o, none⟩ : Addr).add j) = some v := by
  intro j v hv
  rw [Addr.add_mid]
  have hj : j < l.length := by
    have := (List.getElem?_eq_some_iff.1 hv).1
    simpa using this
  rw [h j hj, ← hv, get_map V8 l j hj 0]
theorem one_v8 (l : List (BitVec 8)) : ∀ v ∈ l.map V8, v.oneCell' = true := by
  intro v hv
  obtain ⟨x, _, rfl⟩ := List.mem_map.1 hv
  rfl
/-- 'string(b)'. -/
theorem conv_str {w : World} {sp : Option Addr} {cap : Nat} {l : List (BitVec 8)} (h : SrcA w sp l) : (convert 23 9 (.slice sp l.length cap)).run Try.prog w = .ok (.string (bstr l)) w := by
  by_cases h0 : l.length = 0
  · obtain rfl := List.eq_nil_of_length_eq_zero h0
    rw [run_convert_bytes_string w 23 9 5 _ _ cap Try.underlying23 Try.underlying5 Try.underlying9]
    cases sp <;> simp [Conv.bytesToString, loadCells]
    all_goals rfl
  · obtain ⟨g, o, rfl, hg, hc⟩ := h (by omega)
    have := run_convert_bytes_back (P := Try.prog) w 23 9 5 ⟨g, o, none⟩ cap (l.map (fun x => UInt8.ofNat x.toNat)) Try.underlying23 Try.underlying5 Try.underlying9 (fun j hj => by
      have hj' : j < l.length := by simpa using hj
      rw [Addr.add_mid, hc j hj', List.getElem_map, u8v]
      simp [List.getD_eq_getElem?_getD, hj'])
    rw [List.length_map] at this
    exact this
/-- 'append(nil, b...)': new memory that holds the bytes. -/
theorem wpList_append_nil {w : World} {ops : Array Oper} {rest : List Oper} {o : Oper} {a : Act} {Q : Exit → Act → World → Prop} (hgd : o.guard = none) (s x : Operand)
    (ho : o.op = .call { callee := .builtin .append, args := #[s, x], argTypes := #[23, 23] }) (hs : a.eval s = .slice none 0 0) (sp : Option Addr) (cap : Nat) (l : List (BitVec 8)) (hx : a.eval x = .slice sp l.length cap) (hc : l.length ≤ cap) (hz : sp = none → cap = 0) (hsrc : SrcA w sp l)
    (hl : l.length ≤ 140737488355328) (h : ∀ v w', OwnB w' w.heap.size v l → Below w.heap.size w w' → (v = .slice none 0 0 ↔ l = []) → wpList Try.prog ops Q rest (a.put o.dst v) w') : wpList Try.prog ops Q (o :: rest) a w := by
  obtain ⟨i0, hi, hz0, hz1, hz2⟩ := info_parts infoB
  by_cases hn : sp = none
  · subst hn
    have h0 : l = [] := by
      rcases Nat.eq_zero_or_pos l.length with h0 | h0
      · exact List.eq_nil_of_length_eq_zero h0
      · obtain ⟨_, _, he, _⟩ := hsrc h0; cases he
    subst h0
    obtain rfl := hz rfl
    exact wpList_append_own_none hgd s x 23 ho w.heap.size 5 i0 1 Try.underlying23 hi (.slice none 0 0) 0 [] hs (World.ownsRow_nil _ _ _ _) hx (h _ _ (World.ownsRow_nil _ _ _ _) (Below.refl _ _) (by simp))
  · obtain ⟨ad, rfl⟩ := Option.ne_none_iff_exists'.1 hn
    refine wpList_append_own w hgd s x 23 ho w.heap.size 5 i0 (.int .u8 0) 1 1 Try.underlying23 hi hz0 hz1 hz2 rfl (by omega) (.slice none 0 0) 0 [] hs (World.ownsRow_nil _ _ _ _) ad l.length cap (l.map V8) hx (by simp) ?_ (one_v8 l) (by unfold maxLen; omega) (by omega) (Nat.le_refl _) ?_
    · intro j v hv
      have hj : 0 < l.length := by
        have := (List.getElem?_eq_some_iff.1 hv).1
        simp at this; omega
      obtain ⟨g, o, he, hg, hcl⟩ := hsrc hj
      cases he
      exact src_cell hcl j v hv
    · intro v' w' hown hg hnil
      refine h v' w' ?_ ?_ ?_
      · simpa using hown
      · exact (Below.refl _ _).grown hg (Nat.le_refl _) (fun k hk => by cases hk)
      · rw [hnil]; simp
end Go.Proofs.Ytlkhnmhhcagghaa
