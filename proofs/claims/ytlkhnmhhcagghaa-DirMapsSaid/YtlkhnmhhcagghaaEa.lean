/- Entries: plain; their cells; names by bytes. -/
import Derived.Test.YtlkhnmhhcagghaaSl
import Derived.Test.YtlkhnmhhcagghaaChg
import Derived.Test.YtlkhnmhhcagghaaJpfa
import Derived.Deep.MidRow
import Derived.Maps.AppendAt
import Derived.Handy
import Derived.Laws.OwnMore
namespace Go.Proofs.Ytlkhnmhhcagghaa
open Go.RowKit

structure Ent where
  n : List UInt8
  u : Nat
  k : Nat
instance : Inhabited Ent := ⟨⟨[], 0, 0⟩⟩
theorem Ent.ext' {a b : Ent} (h1 : a.n = b.n) (h2 : a.u = b.u) (h3 : a.k = b.k) : a = b := by cases a; cases b; simp_all
abbrev ecells (e : Ent) : List Value := [.string (str e.n), .int .u16 (e.u : Int), .int .u8 (e.k : Int)]
def ecs (l : List Ent) : List Value := l.flatMap ecells
theorem ecs_len (l : List Ent) : (ecs l).length = l.length * 3 := by
  induction l with
  | nil => rfl
  | cons a l ih => unfold ecs at *; rw [List.flatMap_cons, List.length_append, ih, List.length_cons]; simp; omega
theorem ecs_app (a b : List Ent) : ecs (a ++ b) = ecs a ++ ecs b := by simp [ecs]
theorem ecs_one (e : Ent) : ecs [e] = ecells e := by simp [ecs]
theorem ecs_at : ∀ (l : List Ent) (i j : Nat) (e : Ent) (v : Value), l[i]? = some e → (ecells e)[j]? = some v → (ecs l)[i * 3 + j]? = some v
  | [], i, j, e, v, h, _ => by simp at h
  | a :: l, 0, j, e, v, h, hj => by
    obtain rfl : a = e := by simpa using h
    have hl : j < 3 := (List.getElem?_eq_some_iff.1 hj).1
    unfold ecs
    rw [List.flatMap_cons, Nat.zero_mul, Nat.zero_add, List.getElem?_append_left (by simpa using hl)]
    exact hj
  | a :: l, i + 1, j, e, v, h, hj => by
    have h' : l[i]? = some e := by simpa using h
    have ih := ecs_at l i j e v h' hj
    unfold ecs at *
    rw [List.flatMap_cons, List.getElem?_append_right (by simp; omega)]
    rw [show (i + 1) * 3 + j - (ecells a).length = i * 3 + j by simp; omega]
    exact ih
theorem one_ecs (l : List Ent) : ∀ v ∈ ecs l, v.oneCell' = true := fun v hv => by
  unfold ecs at hv
  rw [List.mem_flatMap] at hv
  obtain ⟨e, _, h⟩ := hv
  simp only [ecells, List.mem_cons, List.not_mem_nil, or_false] at h
  rcases h with rfl | rfl | rfl <;> rfl
/-- An entry's numbers are those of their types. -/
def Ent.OK (e : Ent) : Prop := e.u < 65536 ∧ e.k < 256
theorem str_toList (l : List UInt8) : (str l).toList = l := by first | simp | go_simp
theorem str_ext (s : ByteArray) : ∃ l, s = str l := ⟨s.data.toList, by cases s; simp⟩
/-- Names by bytes. -/
abbrev ltN (a b : List UInt8) : Bool := Op.bytesLess a b
theorem ltN_irr : ∀ a, ltN a a = false
  | [] => rfl
  | a :: x => by
    show (decide (a < a) || (a == a && Op.bytesLess x x)) = false
    have := ltN_irr x
    unfold ltN at this
    rw [this]
    simp
theorem ltN_cons (a b : UInt8) (x y : List UInt8) : ltN (a :: x) (b :: y) = (decide (a < b) || (a == b && ltN x y)) := rfl
theorem ltN_trans : ∀ {a b c : List UInt8}, ltN a b = true → ltN b c = true → ltN a c = true
  | _, _, [], h, h2 => by cases ‹List UInt8› <;> simp [ltN, Op.bytesLess] at h2
  | [], _, _ :: _, _, _ => rfl
  | _ :: _, [], _ :: _, h, _ => by simp [ltN, Op.bytesLess] at h
  | a :: x, b :: y, c :: z, h, h2 => by
    rw [ltN_cons, Bool.or_eq_true, Bool.and_eq_true, beq_iff_eq, decide_eq_true_iff] at h h2 ⊢
    rcases h with h | ⟨rfl, h⟩
    · rcases h2 with h2 | ⟨rfl, h2⟩
      · exact .inl (UInt8.lt_trans h h2)
      · exact .inl h
    · rcases h2 with h2 | ⟨rfl, h2⟩
      · exact .inl h2
      · exact .inr ⟨rfl, ltN_trans h h2⟩
theorem ltN_tri : ∀ {a b : List UInt8}, ltN a b = false → a ≠ b → ltN b a = true
  | [], [], _, h => absurd rfl h
  | [], _ :: _, h, _ => by simp [ltN, Op.bytesLess] at h
  | _ :: _, [], _, _ => rfl
  | a :: x, b :: y, h, hne => by
    rw [ltN_cons, Bool.or_eq_false_iff, decide_eq_false_iff_not] at h
    rw [ltN_cons, Bool.or_eq_true, Bool.and_eq_true, beq_iff_eq, decide_eq_true_iff]
    by_cases e : a = b
    · subst e
      refine .inr ⟨rfl, ltN_tri (by simpa using h.2) (fun e2 => hne (by rw [e2]))⟩
    · left
      have h1 := h.1
      rcases Nat.lt_trichotomy a.toNat b.toNat with h3 | h3 | h3
      · exact absurd (UInt8.lt_iff_toNat_lt.2 h3) h1
      · exact absurd (UInt8.toNat_inj.1 h3) e
      · exact UInt8.lt_iff_toNat_lt.2 h3
theorem ltN_asym {a b : List UInt8} (h : ltN a b = true) : ltN b a = false := by
  cases h2 : ltN b a with
  | false => rfl
  | true => have := ltN_trans h h2; rw [ltN_irr] at this; cases this
end Go.Proofs.Ytlkhnmhhcagghaa
