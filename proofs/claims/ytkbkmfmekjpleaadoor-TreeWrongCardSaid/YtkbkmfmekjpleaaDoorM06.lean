/- Pointers, plain: their cells, their bytes; the pointer of bytes; whether one may be; its copies. -/
import Derived.Test.YtkbkmfmekjpleaaDoorM05
namespace Go.Proofs.YtkbkmfmekjpleaaDoor
open Go.RowKit

abbrev Bs := List (BitVec 8)
structure Pt where
  kind : Nat
  level : Nat
  obj : Nat
  off : Nat
  birth : Nat
  hash : Bs
  ats : List Nat
structure Pt.OK (p : Pt) : Prop where
  kind : p.kind < 256
  level : p.level < 256
  obj : p.obj < 65536
  off : p.off < 4294967296
  birth : p.birth < 18446744073709551616
  hash : p.hash.length = 32
  len : p.ats.length = 4
  ats : ∀ x ∈ p.ats, x < 65536
def U16 (x : Nat) : Value := .int .u16 (x : Int)
/-- The five numbers' cells. -/
def pnums (p : Pt) : List Value := [.int .u8 (p.kind : Int), .int .u8 (p.level : Int), .int .u16 (p.obj : Int), .int .u32 (p.off : Int), .int .u64 (p.birth : Int)]
def pcells (p : Pt) : List Value := pnums p ++ (p.hash.map V8 ++ p.ats.map U16)
theorem pcells_length {p : Pt} (h : p.OK) : (pcells p).length = 41 := by simp [pcells, pnums, h.hash, h.len]
def tailB (l : List Nat) : Bs := l.flatMap fun x => leb x 2
theorem tailB_length : ∀ l : List Nat, (tailB l).length = 2 * l.length
  | [] => rfl
  | x :: l => by
    have := tailB_length l
    simp only [tailB, List.flatMap_cons, List.length_append, leb_length, List.length_cons] at *
    omega
theorem tailB_snoc (l : List Nat) (x : Nat) : tailB (l ++ [x]) = tailB l ++ leb x 2 := by simp [tailB]
def tagB (p : Pt) : Bs := leb p.kind 1 ++ leb p.level 1 ++ leb p.obj 2 ++ leb p.off 4 ++ leb p.birth 8
theorem tagB_length (p : Pt) : (tagB p).length = 16 := by simp [tagB, leb_length]
def bodyB (p : Pt) : Bs := tagB p ++ p.hash ++ tailB p.ats
theorem bodyB_length {p : Pt} (h : p.OK) : (bodyB p).length = 56 := by simp [bodyB, tagB_length, h.hash, tailB_length, h.len]
/-- A pointer's 64 bytes. -/
def padB (p : Pt) : Bs := bodyB p ++ List.replicate 8 0#8
theorem padB_length {p : Pt} (h : p.OK) : (padB p).length = 64 := by simp [padB, bodyB_length h]
/-- The pointer of 64 bytes. -/
def pt (l : Bs) : Pt := ⟨val (l.take 1), val ((l.drop 1).take 1), val ((l.drop 2).take 2), val ((l.drop 4).take 4), val ((l.drop 8).take 8), (l.drop 16).take 32, [val ((l.drop 48).take 2), val ((l.drop 50).take 2), val ((l.drop 52).take 2), val ((l.drop 54).take 2)]⟩
def zeroP : Pt := ⟨0, 0, 0, 0, 0, List.replicate 32 0#8, [0, 0, 0, 0]⟩
def quietP (l : Bs) : Bool := (l.drop 56).all (· == 0#8)
theorem zeroP_ok : zeroP.OK := ⟨by simp [zeroP], by simp [zeroP], by simp [zeroP], by simp [zeroP], by simp [zeroP], by simp [zeroP], by simp [zeroP], by simp [zeroP]⟩
theorem val_take_lt (l : Bs) (n : Nat) : val (l.take n) < 2 ^ (8 * n) := by
  have h := val_lt (l.take n)
  have h2 : (l.take n).length ≤ n := by simp; omega
  exact Nat.lt_of_lt_of_le h (Nat.pow_le_pow_right (by omega) (by omega))
theorem pt_ok {l : Bs} (h : 64 ≤ l.length) : (pt l).OK := by
  refine ⟨val_take_lt _ 1, val_take_lt _ 1, val_take_lt _ 2, val_take_lt _ 4, val_take_lt _ 8, by simp [pt]; omega, by simp [pt], fun x hx => ?_⟩
  simp [pt] at hx
  rcases hx with rfl | rfl | rfl | rfl <;> exact val_take_lt _ 2
theorem drop_step {l a b : Bs} {n m : Nat} (h : l.drop n = a ++ b) (ha : a.length = m) : l.drop (n + m) = b := by rw [← List.drop_drop, h, List.drop_left' ha]
theorem pt_padB {p : Pt} (h : p.OK) : pt (padB p) = p ∧ quietP (padB p) = true := by
  obtain ⟨kind, level, obj, off, birth, hash, ats⟩ := p
  obtain ⟨k1, k2, k3, k4, k5, h2, h3, h4⟩ := h
  simp only at k1 k2 k3 k4 k5 h2 h3 h4
  match ats, h3, h4 with
  | [a0, a1, a2, a3], _, h4 =>
    have b0 := h4 a0 (by simp)
    have b1 := h4 a1 (by simp)
    have b2 := h4 a2 (by simp)
    have b3 := h4 a3 (by simp)
    have v : ∀ n m, n < 2 ^ (8 * m) → val (leb n m) = n := fun n m hn => by rw [val_leb]; exact Nat.mod_eq_of_lt hn
    have L : ∀ n m, (leb n m).length = m := leb_length
    have e : padB ⟨kind, level, obj, off, birth, hash, [a0, a1, a2, a3]⟩ = leb kind 1 ++ (leb level 1 ++ (leb obj 2 ++ (leb off 4 ++ (leb birth 8 ++ (hash ++ (leb a0 2 ++ (leb a1 2 ++ (leb a2 2 ++ (leb a3 2 ++ List.replicate 8 0#8))))))))) := by
      simp [padB, bodyB, tagB, tailB]
    have d1 : (padB ⟨kind, level, obj, off, birth, hash, [a0, a1, a2, a3]⟩).drop 1 = leb level 1 ++ (leb obj 2 ++ (leb off 4 ++ (leb birth 8 ++ (hash ++ (leb a0 2 ++ (leb a1 2 ++ (leb a2 2 ++ (leb a3 2 ++ List.replicate 8 0#8)))))))) := by
      rw [e, List.drop_left' (L _ _)]
    have d2 : (padB ⟨kind, level, obj, off, birth, hash, [a0, a1, a2, a3]⟩).drop 2 = leb obj 2 ++ (leb off 4 ++ (leb birth 8 ++ (hash ++ (leb a0 2 ++ (leb a1 2 ++ (leb a2 2 ++ (leb a3 2 ++ List.replicate 8 0#8))))))) := drop_step (n := 1) (m := 1) d1 (L _ _)
    have d4 : (padB ⟨kind, level, obj, off, birth, hash, [a0, a1, a2, a3]⟩).drop 4 = leb off 4 ++ (leb birth 8 ++ (hash ++ (leb a0 2 ++ (leb a1 2 ++ (leb a2 2 ++ (leb a3 2 ++ List.replicate 8 0#8)))))) := drop_step (n := 2) (m := 2) d2 (L _ _)
    have d8 : (padB ⟨kind, level, obj, off, birth, hash, [a0, a1, a2, a3]⟩).drop 8 = leb birth 8 ++ (hash ++ (leb a0 2 ++ (leb a1 2 ++ (leb a2 2 ++ (leb a3 2 ++ List.replicate 8 0#8))))) := drop_step (n := 4) (m := 4) d4 (L _ _)
    have d16 : (padB ⟨kind, level, obj, off, birth, hash, [a0, a1, a2, a3]⟩).drop 16 = hash ++ (leb a0 2 ++ (leb a1 2 ++ (leb a2 2 ++ (leb a3 2 ++ List.replicate 8 0#8)))) := drop_step (n := 8) (m := 8) d8 (L _ _)
    have d48 : (padB ⟨kind, level, obj, off, birth, hash, [a0, a1, a2, a3]⟩).drop 48 = leb a0 2 ++ (leb a1 2 ++ (leb a2 2 ++ (leb a3 2 ++ List.replicate 8 0#8))) := drop_step (n := 16) (m := 32) d16 h2
    have d50 : (padB ⟨kind, level, obj, off, birth, hash, [a0, a1, a2, a3]⟩).drop 50 = leb a1 2 ++ (leb a2 2 ++ (leb a3 2 ++ List.replicate 8 0#8)) := drop_step (n := 48) (m := 2) d48 (L _ _)
    have d52 : (padB ⟨kind, level, obj, off, birth, hash, [a0, a1, a2, a3]⟩).drop 52 = leb a2 2 ++ (leb a3 2 ++ List.replicate 8 0#8) := drop_step (n := 50) (m := 2) d50 (L _ _)
    have d54 : (padB ⟨kind, level, obj, off, birth, hash, [a0, a1, a2, a3]⟩).drop 54 = leb a3 2 ++ List.replicate 8 0#8 := drop_step (n := 52) (m := 2) d52 (L _ _)
    have d56 : (padB ⟨kind, level, obj, off, birth, hash, [a0, a1, a2, a3]⟩).drop 56 = List.replicate 8 0#8 := drop_step (n := 54) (m := 2) d54 (L _ _)
    constructor
    · unfold pt
      rw [d1, d2, d4, d8, d16, d48, d50, d52, d54, e]
      simp only [List.take_left' (L _ _), List.take_left' h2]
      rw [v kind 1 k1, v level 1 k2, v obj 2 k3, v off 4 k4, v birth 8 k5, v a0 2 b0, v a1 2 b1, v a2 2 b2, v a3 2 b3]
    · unfold quietP
      rw [d56]
      rfl
/-- How many copies a kind has on each disk. -/
def wideN (k : Nat) : Nat := if k < 1 ∨ 5 < k then 0 else if k = 1 then 1 else 2
def lowN (k : Nat) : Nat := if k = 3 then 1 else 0
def highN (k : Nat) : Nat := if k = 3 then 2 else 0
/-- The copies from place i on. -/
def copiesFrom : Nat → List Nat → List (Nat × Nat)
  | _, [] => []
  | i, a :: l => if a = 0 then copiesFrom (i + 1) l else (i / 2, a) :: copiesFrom (i + 1) l
def copiesP (p : Pt) : List (Nat × Nat) := copiesFrom 0 p.ats
/-- While copies are gone through: none: two are at one place; else whether there are any, and the last on each disk. -/
def sweep : List (Nat × Nat) → Bool × Nat × Nat → Option (Bool × Nat × Nat)
  | [], s => some s
  | (d, a) :: r, (_, x, y) => if a = (if d = 0 then x else y) then none else sweep r (if d = 0 then (true, a, y) else (true, x, a))
def apartP (p : Pt) : Bool := match sweep (copiesP p) (false, 0, 0) with
  | none => false
  | some s => s.1
theorem sweep_append : ∀ (l m : List (Nat × Nat)) (s : Bool × Nat × Nat), sweep (l ++ m) s = (sweep l s).bind (sweep m)
  | [], _, _ => rfl
  | (d, a) :: l, m, (f, x, y) => by
    by_cases hd : a = (if d = 0 then x else y)
    · show (if _ then _ else _) = Option.bind (if _ then _ else _) _
      rw [if_pos hd, if_pos hd]; rfl
    · show (if _ then _ else _) = Option.bind (if _ then _ else _) _
      rw [if_neg hd, if_neg hd]; exact sweep_append l m _
/-- Each address stands where the kind has copies. -/
def placedP (p : Pt) : Bool := (List.range 4).all fun i => decide (p.ats.getD i 0 = 0 ∨ i % 2 < wideN p.kind)
def mayP (p : Pt) : Bool := decide (lowN p.kind ≤ p.level ∧ p.level ≤ highN p.kind) && placedP p && apartP p
/-- .. as the document says it. -/
def mayR (p : Pt) : Bool :=
  if p.kind < 1 ∨ 5 < p.kind then false
  else if (p.kind = 3 ∧ (p.level < 1 ∨ 2 < p.level)) ∨ (p.kind ≠ 3 ∧ p.level ≠ 0) then false
  else if p.ats = [0, 0, 0, 0] then false
  else if (p.ats.getD 0 0 ≠ 0 ∧ p.ats.getD 0 0 = p.ats.getD 1 0) ∨ (p.ats.getD 2 0 ≠ 0 ∧ p.ats.getD 2 0 = p.ats.getD 3 0) then false
  else decide (p.kind ≠ 1 ∨ (p.ats.getD 1 0 = 0 ∧ p.ats.getD 3 0 = 0))
theorem mayP_eq {p : Pt} (h : p.ats.length = 4) : mayP p = mayR p := by
  obtain ⟨kind, level, obj, off, birth, hash, ats⟩ := p
  match ats, h with
  | [a, b, c, d], _ =>
    by_cases k0 : kind < 1 ∨ 5 < kind
    · simp only [mayR, if_pos k0]
      have hw : wideN kind = 0 := by unfold wideN; rw [if_pos k0]
      by_cases hz : a = 0 ∧ b = 0 ∧ c = 0 ∧ d = 0
      · obtain ⟨rfl, rfl, rfl, rfl⟩ := hz
        simp [mayP, apartP, copiesP, copiesFrom, sweep]
      · have : placedP ⟨kind, level, obj, off, birth, hash, [a, b, c, d]⟩ = false := by
          simp only [placedP, hw, List.range_succ, List.range_zero, List.nil_append, List.cons_append, List.all_cons, List.all_nil]
          simp
          omega
        simp [mayP, this]
    · simp only [mayR, if_neg k0]
      by_cases k1 : (kind = 3 ∧ (level < 1 ∨ 2 < level)) ∨ (kind ≠ 3 ∧ level ≠ 0)
      · rw [if_pos k1]
        have : decide (lowN kind ≤ level ∧ level ≤ highN kind) = false := by
          apply decide_eq_false
          unfold lowN highN
          split <;> omega
        simp [mayP, this]
      · rw [if_neg k1]
        have h1 : decide (lowN kind ≤ level ∧ level ≤ highN kind) = true := by
          apply decide_eq_true
          unfold lowN highN
          split <;> omega
        have hw : wideN kind = if kind = 1 then 1 else 2 := by unfold wideN; rw [if_neg k0]
        have hp : placedP ⟨kind, level, obj, off, birth, hash, [a, b, c, d]⟩ = decide (kind ≠ 1 ∨ (b = 0 ∧ d = 0)) := by
          simp only [placedP, hw, List.range_succ, List.range_zero, List.nil_append, List.cons_append, List.all_cons, List.all_nil]
          by_cases hk : kind = 1
          · simp [hk]
          · simp [hk]
        have ha : apartP ⟨kind, level, obj, off, birth, hash, [a, b, c, d]⟩ = (!decide ([a, b, c, d] = [0, 0, 0, 0]) && !decide ((a ≠ 0 ∧ a = b) ∨ (c ≠ 0 ∧ c = d))) := by
          clear hp hw h1 k0 k1 h
          simp only [apartP, copiesP, copiesFrom, eq_comm (a := a) (b := b), eq_comm (a := c) (b := d)]
          by_cases a0 : a = 0 <;> by_cases b0 : b = 0 <;> by_cases c0 : c = 0 <;> by_cases d0 : d = 0 <;> by_cases ab : b = a <;> by_cases cd : d = c <;> simp_all [sweep]
        simp only [mayP, h1, hp, ha, Bool.true_and]
        by_cases z : [a, b, c, d] = [0, 0, 0, 0]
        · simp [z]
        · rw [if_neg z]
          simp only [List.getD_cons_zero, List.getD_cons_succ]
          by_cases y : (a ≠ 0 ∧ a = b) ∨ (c ≠ 0 ∧ c = d)
          · rw [if_pos y]; simp [y]
          · rw [if_neg y]; simp [y, z]
end Go.Proofs.YtkbkmfmekjpleaaDoor
