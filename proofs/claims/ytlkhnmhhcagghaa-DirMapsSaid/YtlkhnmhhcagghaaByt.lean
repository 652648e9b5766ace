/- Bytes: as the model's integers, as text; a number's bytes, the lowest first, and back. Plain lemmas. -/
import Derived.Test.YtlkhnmhhcagghaaMem
import Derived.Laws.BitsAllLaws
import Derived.WalkSpells
namespace Go.Proofs.Ytlkhnmhhcagghaa
open Go.RowKit

/-- A byte, as the model's integer. -/
def N8 (x : BitVec 8) : Int := (x.toNat : Int)
abbrev V8 (x : BitVec 8) : Value := .int .u8 (N8 x)
def bstr (l : List (BitVec 8)) : ByteArray := ⟨(l.map (fun x => UInt8.ofNat x.toNat)).toArray⟩
theorem n8_lt (x : BitVec 8) : N8 x < 256 := by unfold N8; have := x.isLt; omega
theorem n8_nonneg (x : BitVec 8) : 0 ≤ N8 x := by unfold N8; omega
theorem n8_inj {x y : BitVec 8} (h : N8 x = N8 y) : x = y := BitVec.eq_of_toNat_eq (by unfold N8 at h; omega)
theorem u8v (x : BitVec 8) : Value.int .u8 ((UInt8.ofNat x.toNat).toNat : Int) = V8 x := by
  have : (UInt8.ofNat x.toNat).toNat = x.toNat := by
    rw [UInt8.toNat_ofNat']; exact Nat.mod_eq_of_lt x.isLt
  rw [this]; rfl
theorem bstr_size (a : List (BitVec 8)) : (bstr a).size = a.length := by unfold bstr; simp [ByteArray.size]
theorem bstr_add (a b : List (BitVec 8)) : bstr a ++ bstr b = bstr (a ++ b) := by
  unfold bstr
  rw [List.map_append]
  apply ByteArray.ext
  simp
theorem bstr_inj (a b : List (BitVec 8)) (h : bstr a = bstr b) : a = b := by
  unfold bstr at h
  have h1 := congrArg (fun x : ByteArray => x.data.toList) h
  simp only at h1
  have h2 : ∀ (a b : List (BitVec 8)), a.map (fun x => UInt8.ofNat x.toNat) = b.map (fun x => UInt8.ofNat x.toNat) → a = b := by
    intro a
    induction a with
    | nil => intro b h; cases b with | nil => rfl | cons y b => simp at h
    | cons x a ih =>
      intro b h
      cases b with
      | nil => simp at h
      | cons y b =>
        simp only [List.map_cons, List.cons.injEq] at h
        rw [ih b h.2]
        congr 1
        have h3 := congrArg UInt8.toNat h.1
        rw [UInt8.toNat_ofNat', UInt8.toNat_ofNat', Nat.mod_eq_of_lt x.isLt, Nat.mod_eq_of_lt y.isLt] at h3
        exact BitVec.eq_of_toNat_eq h3
  exact h2 a b h1
theorem bstr_inj' (a b : List (BitVec 8)) (h : (bstr a).toList = (bstr b).toList) : a = b := by
  refine bstr_inj a b ?_
  have h2 : ((bstr a) == (bstr b)) = true := by rw [beq_toListBytes, h]; simp
  have h3 : ((bstr a).data == (bstr b).data) = true := h2
  have h4 : (bstr a).data = (bstr b).data := by simpa using h3
  exact ByteArray.ext h4
/-- Two texts, as the model holds them against one another. -/
theorem bstr_eq (a b : List (BitVec 8)) : ((bstr a).toList == (bstr b).toList) = decide (a = b) := by
  by_cases h : a = b
  · subst h; simp
  · rw [decide_eq_false h, beq_eq_false_iff_ne]
    exact fun e => h (bstr_inj' a b e)

/-- Byte k of a number; its lowest k bytes. -/
def lb (n k : Nat) : BitVec 8 := BitVec.ofNat 8 (n / 2 ^ (8 * k))
def leb (n k : Nat) : List (BitVec 8) := (List.range k).map (lb n)
theorem leb_length (n k : Nat) : (leb n k).length = k := by simp [leb]
theorem leb_succ (n k : Nat) : leb n (k + 1) = leb n k ++ [lb n k] := by simp [leb, List.range_succ]
theorem lb_nat (n k : Nat) : (lb n k).toNat = n / 2 ^ (8 * k) % 256 := by simp [lb]
theorem lb_int (n k : Nat) : IntKind.u8.wrap ((n : Int) / 2 ^ (8 * k)) = N8 (lb n k) := by
  unfold N8; rw [IntKind.wrap_u8', lb_nat]; simp
theorem lb_mod (n k : Nat) : (n : Int) / 2 ^ (8 * k) % 256 = N8 (lb n k) := by rw [← lb_int, IntKind.wrap_u8']
theorem u64_in (n : Nat) (h : n < 18446744073709551616) : IntKind.u64.wrap (n : Int) = n := by simp only [IntKind.wrap_u64]; omega
/-- What bytes say, the lowest first. -/
def val : List (BitVec 8) → Nat
  | [] => 0
  | x :: r => x.toNat + 256 * val r
theorem val_lt : ∀ l : List (BitVec 8), val l < 2 ^ (8 * l.length)
  | [] => by simp [val]
  | x :: r => by
    have := val_lt r
    have h := x.isLt
    simp only [val, List.length_cons]
    rw [show 8 * (r.length + 1) = 8 + 8 * r.length by omega, Nat.pow_add]
    omega
theorem val_snoc : ∀ (l : List (BitVec 8)) (x : BitVec 8), val (l ++ [x]) = val l + x.toNat * 2 ^ (8 * l.length)
  | [], x => by simp [val]
  | y :: l, x => by
    simp only [List.cons_append, val, val_snoc l x, List.length_cons]
    rw [show 8 * (l.length + 1) = 8 + 8 * l.length by omega, Nat.pow_add, Nat.mul_add, Nat.add_assoc]
    congr 2
    rw [Nat.mul_left_comm]
theorem val_leb (n k : Nat) : val (leb n k) = n % 2 ^ (8 * k) := by
  induction k with
  | zero => simp [leb, val, Nat.mod_one]
  | succ k ih =>
    rw [leb_succ, val_snoc, ih, leb_length, lb_nat, show 8 * (k + 1) = 8 * k + 8 by omega, Nat.pow_add]
    rw [show (2 : Nat) ^ 8 = 256 from rfl, Nat.mod_mul]
    rw [Nat.mul_comm (n / 2 ^ (8 * k) % 256)]
theorem leb_mod (n k : Nat) : leb (n % 2 ^ (8 * k)) k = leb n k := by
  unfold leb
  apply List.map_congr_left
  intro j hj
  have hj' : j < k := by simpa using hj
  unfold lb
  apply BitVec.eq_of_toNat_eq
  simp only [BitVec.toNat_ofNat]
  obtain ⟨d, rfl⟩ : ∃ d, k = j + 1 + d := ⟨k - (j + 1), by omega⟩
  rw [show 8 * (j + 1 + d) = 8 * j + (8 + 8 * d) by omega, Nat.pow_add, Nat.mod_mul_right_div_self]
  rw [Nat.pow_add]
  exact Nat.mod_mul_right_mod _ _ _
/-- One byte more, put in from above. -/
theorem val_or (l : List (BitVec 8)) (x : BitVec 8) (j : Nat) (hj : l.length = j) : val l ||| x.toNat * 2 ^ (8 * j) = val (l ++ [x]) := by
  subst hj
  rw [val_snoc, ← Nat.shiftLeft_eq, Nat.or_comm, ← Nat.shiftLeft_add_eq_or_of_lt (val_lt l), Nat.add_comm]
theorem val_take_succ (l : List (BitVec 8)) (k : Nat) (h : k < l.length) : l.take (k + 1) = l.take k ++ [l.getD k 0] := by
  rw [List.take_succ_eq_append_getElem h]; simp [List.getD_eq_getElem?_getD, h]
/-- From the end. -/
theorem val_drop (l : List (BitVec 8)) (k : Nat) (h : k < l.length) : val (l.drop k) = val (l.drop (k + 1)) * 256 + (l.getD k 0).toNat := by
  rw [List.drop_eq_getElem_cons h, val]
  simp [List.getD_eq_getElem?_getD, h]
  omega
end Go.Proofs.Ytlkhnmhhcagghaa
