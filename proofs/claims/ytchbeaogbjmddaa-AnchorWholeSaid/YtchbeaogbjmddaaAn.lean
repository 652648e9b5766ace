/- Anchors, plain: their cells, their bytes; the anchor of bytes. -/
import Derived.Test.YtchbeaogbjmddaaWr
import Derived.Maps.AppendAt
import Derived.Deep.MidRow
namespace Go.Proofs.Ytchbeaogbjmddaa
open Go.RowKit

abbrev Bs := List (BitVec 8)
structure An where
  gen : Nat
  hash : Bs
  ats : List Nat
structure An.OK (a : An) : Prop where
  gen : a.gen < 18446744073709551616
  hash : a.hash.length = 32
  len : a.ats.length = 4
  ats : ∀ x ∈ a.ats, x < 65536
def U16 (x : Nat) : Value := .int .u16 (x : Int)
def acells (a : An) : List Value := Value.int .u64 (a.gen : Int) :: (a.hash.map V8 ++ a.ats.map U16)
theorem acells_length {a : An} (h : a.OK) : (acells a).length = 37 := by simp [acells, h.hash, h.len]
def tail (l : List Nat) : Bs := l.flatMap fun x => leb x 2
theorem tail_length : ∀ l : List Nat, (tail l).length = 2 * l.length
  | [] => rfl
  | x :: l => by
    have := tail_length l
    simp only [tail, List.flatMap_cons, List.length_append, leb_length, List.length_cons] at *
    omega
theorem tail_snoc (l : List Nat) (x : Nat) : tail (l ++ [x]) = tail l ++ leb x 2 := by simp [tail]
def body (a : An) : Bs := leb a.gen 8 ++ a.hash ++ tail a.ats
theorem body_length {a : An} (h : a.OK) : (body a).length = 48 := by simp [body, leb_length, h.hash, tail_length, h.len]
/-- An anchor's 64 bytes. -/
def pad (a : An) : Bs := body a ++ List.replicate 16 0#8
theorem pad_length {a : An} (h : a.OK) : (pad a).length = 64 := by simp [pad, body_length h]
/-- The anchor of 64 bytes. -/
def tk (l : Bs) : An := ⟨val (l.take 8), (l.drop 8).take 32, [val ((l.drop 40).take 2), val ((l.drop 42).take 2), val ((l.drop 44).take 2), val ((l.drop 46).take 2)]⟩
def zeroA : An := ⟨0, List.replicate 32 0#8, [0, 0, 0, 0]⟩
def quiet (l : Bs) : Bool := (l.drop 48).all (· == 0#8)
def tkE (l : Bs) : Int := if quiet l then 0 else 5
def tkA (l : Bs) : An := if quiet l then tk l else zeroA
theorem zeroA_ok : zeroA.OK := ⟨by simp [zeroA], by simp [zeroA], by simp [zeroA], by simp [zeroA]⟩
theorem val2_lt (l : Bs) : val (l.take 2) < 65536 := by
  have h := val_lt (l.take 2)
  have h2 : (l.take 2).length ≤ 2 := by simp; omega
  have : (2 : Nat) ^ (8 * (l.take 2).length) ≤ 2 ^ 16 := Nat.pow_le_pow_right (by omega) (by omega)
  omega
theorem tk_ok {l : Bs} (h : l.length = 64) : (tk l).OK := by
  refine ⟨?_, by simp [tk, h], by simp [tk], fun x hx => ?_⟩
  · have h1 := val_lt (l.take 8)
    have h2 : (l.take 8).length = 8 := by simp [h]
    rw [h2] at h1
    exact h1
  · simp [tk] at hx
    rcases hx with rfl | rfl | rfl | rfl <;> exact val2_lt _
theorem tkA_ok {l : Bs} (h : l.length = 64) : (tkA l).OK := by
  unfold tkA
  split
  · exact tk_ok h
  · exact zeroA_ok
theorem lb_val (x : BitVec 8) (l : Bs) (k : Nat) : lb (val (x :: l)) (k + 1) = lb (val l) k := by
  apply BitVec.eq_of_toNat_eq
  rw [lb_nat, lb_nat]
  have h := x.isLt
  have e : val (x :: l) = x.toNat + val l * 256 := by simp [val]; omega
  rw [show 8 * (k + 1) = 8 + 8 * k by omega, Nat.pow_add, ← Nat.div_div_eq_div_mul]
  congr 2
  rw [e]
  omega
theorem leb_val : ∀ l : Bs, leb (val l) l.length = l
  | [] => rfl
  | x :: l => by
    have ih := leb_val l
    unfold leb at *
    rw [List.length_cons, List.range_succ_eq_map, List.map_cons, List.map_map]
    congr 1
    · apply BitVec.eq_of_toNat_eq
      rw [lb_nat]
      have h := x.isLt
      have e : val (x :: l) = x.toNat + val l * 256 := by simp [val]; omega
      rw [e]
      simp
      omega
    · have e : (List.range l.length).map (lb (val (x :: l)) ∘ Nat.succ) = (List.range l.length).map (lb (val l)) := List.map_congr_left fun k _ => lb_val x l k
      rw [e]
      exact ih
theorem leb_val_of {l : Bs} {k : Nat} (h : l.length = k) : leb (val l) k = l := by subst h; exact leb_val l
theorem all_zero : ∀ l : Bs, l.all (· == 0#8) = true → l = List.replicate l.length 0#8
  | [], _ => rfl
  | x :: l, h => by
    simp only [List.all_cons, Bool.and_eq_true, beq_iff_eq] at h
    rw [List.length_cons, List.replicate_succ, ← all_zero l h.2, h.1]
theorem body_tk {l : Bs} (h : l.length = 64) : body (tk l) = l.take 48 := by
  have e2 : ∀ n, n + 2 ≤ 64 → leb (val ((l.drop n).take 2)) 2 = (l.drop n).take 2 := fun n hn => leb_val_of (by simp [h]; omega)
  unfold body tk tail
  simp only [List.flatMap_cons, List.flatMap_nil, List.append_nil]
  rw [leb_val_of (l := l.take 8) (by simp [h]), e2 40 (by omega), e2 42 (by omega), e2 44 (by omega), e2 46 (by omega)]
  have g : ∀ n m, l.take n ++ (l.drop n).take m = l.take (n + m) := fun n m => by rw [List.take_add]
  simp only [← List.append_assoc]
  rw [g 8 32, g 40 2, g 42 2, g 44 2, g 46 2]
theorem pad_tk {l : Bs} (h : l.length = 64) : pad (tk l) = l ↔ quiet l = true := by
  unfold pad quiet
  rw [body_tk h]
  constructor
  · intro e
    rw [← e]
    rw [List.drop_append_of_le_length (by simp [h])]
    simp [h]
  · intro hq
    have h1 := all_zero _ hq
    have h2 : (l.drop 48).length = 16 := by simp [h]
    rw [h2] at h1
    rw [← h1, List.take_append_drop]
theorem tk_pad {a : An} (h : a.OK) : tk (pad a) = a ∧ quiet (pad a) = true := by
  obtain ⟨gen, hash, ats⟩ := a
  obtain ⟨h1, h2, h3, h4⟩ := h
  simp only at h1 h2 h3 h4
  match ats, h3, h4 with
  | [a0, a1, a2, a3], _, h4 =>
    have b0 := h4 a0 (by simp)
    have b1 := h4 a1 (by simp)
    have b2 := h4 a2 (by simp)
    have b3 := h4 a3 (by simp)
    have v8 : ∀ n, n < 18446744073709551616 → val (leb n 8) = n := fun n hn => by rw [val_leb]; exact Nat.mod_eq_of_lt hn
    have v2 : ∀ n, n < 65536 → val (leb n 2) = n := fun n hn => by rw [val_leb]; exact Nat.mod_eq_of_lt hn
    have e : pad ⟨gen, hash, [a0, a1, a2, a3]⟩ = leb gen 8 ++ (hash ++ (leb a0 2 ++ (leb a1 2 ++ (leb a2 2 ++ (leb a3 2 ++ List.replicate 16 0#8))))) := by
      simp [pad, body, tail]
    have d8 : (pad ⟨gen, hash, [a0, a1, a2, a3]⟩).drop 8 = hash ++ (leb a0 2 ++ (leb a1 2 ++ (leb a2 2 ++ (leb a3 2 ++ List.replicate 16 0#8)))) := by
      rw [e, List.drop_left' (leb_length _ _)]
    have d40 : (pad ⟨gen, hash, [a0, a1, a2, a3]⟩).drop 40 = leb a0 2 ++ (leb a1 2 ++ (leb a2 2 ++ (leb a3 2 ++ List.replicate 16 0#8))) := by
      rw [show 40 = 8 + 32 by rfl, ← List.drop_drop, d8, List.drop_left' h2]
    have d42 : (pad ⟨gen, hash, [a0, a1, a2, a3]⟩).drop 42 = leb a1 2 ++ (leb a2 2 ++ (leb a3 2 ++ List.replicate 16 0#8)) := by
      rw [show 42 = 40 + 2 by rfl, ← List.drop_drop, d40, List.drop_left' (leb_length _ _)]
    have d44 : (pad ⟨gen, hash, [a0, a1, a2, a3]⟩).drop 44 = leb a2 2 ++ (leb a3 2 ++ List.replicate 16 0#8) := by
      rw [show 44 = 42 + 2 by rfl, ← List.drop_drop, d42, List.drop_left' (leb_length _ _)]
    have d46 : (pad ⟨gen, hash, [a0, a1, a2, a3]⟩).drop 46 = leb a3 2 ++ List.replicate 16 0#8 := by
      rw [show 46 = 44 + 2 by rfl, ← List.drop_drop, d44, List.drop_left' (leb_length _ _)]
    have d48 : (pad ⟨gen, hash, [a0, a1, a2, a3]⟩).drop 48 = List.replicate 16 0#8 := by
      rw [show 48 = 46 + 2 by rfl, ← List.drop_drop, d46, List.drop_left' (leb_length _ _)]
    constructor
    · unfold tk
      rw [d8, d40, d42, d44, d46, List.take_left' h2, List.take_left' (leb_length _ _), List.take_left' (leb_length _ _), List.take_left' (leb_length _ _), List.take_left' (leb_length _ _), e, List.take_left' (leb_length _ _), v8 gen h1, v2 a0 b0, v2 a1 b1, v2 a2 b2, v2 a3 b3]
    · unfold quiet
      rw [d48]
      rfl
theorem tkA_pad {a : An} (h : a.OK) : tkA (pad a) = a ∧ tkE (pad a) = 0 := by
  obtain ⟨h1, h2⟩ := tk_pad h
  unfold tkA tkE
  rw [h2, h1]
  exact ⟨rfl, rfl⟩
theorem pad_zero : pad zeroA = List.replicate 64 0#8 := by decide
theorem tkA_zero : tkA (List.replicate 64 0#8) = zeroA := by rw [← pad_zero]; exact (tkA_pad zeroA_ok).1
end Go.Proofs.Ytchbeaogbjmddaa
