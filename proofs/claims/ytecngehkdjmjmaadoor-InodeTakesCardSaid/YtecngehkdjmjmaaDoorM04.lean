/- Pointers, plain: their cells, their bytes; the pointer of bytes; whether one may be; its copies. -/
import Derived.Test.YtecngehkdjmjmaaDoorM03
import Derived.Deep.MidRow
import Derived.Maps.AppendAt
import Derived.Stop.BytesEq
import Derived.ChangeKeysEq
import Derived.RangeFuncNested
import Derived.RangeFuncBound
import Derived.RangeFuncCalls
import Derived.RangeFuncLeaves
import Derived.Shelf.Abstract
import Derived.Shelf.RegionOpen
import Derived.OwnWalkIn
import Derived.TacticsInMore
import Derived.LoopNIn
import Derived.LoopIn
namespace Go.Proofs.YtecngehkdjmjmaaDoor
open Go.RowKit

abbrev Bs := List (BitVec 8)
structure Pt where
  kind : Nat
  level : Nat
  obj : Nat
  off : Nat
  birth : Nat
  hash : Bs
  ats : List Nat
structure Pt.OK (p : Pt) : Prop where
  kind : p.kind < 256
  level : p.level < 256
  obj : p.obj < 65536
  off : p.off < 4294967296
  birth : p.birth < 18446744073709551616
  hash : p.hash.length = 32
  len : p.ats.length = 4
  ats : ∀ x ∈ p.ats, x < 65536
def U16 (x : Nat) : Value := .int .u16 (x : Int)
/-- The five numbers' cells. -/
def pnums (p : Pt) : List Value := [.int .u8 (p.kind : Int), .int .u8 (p.level : Int), .int .u16 (p.obj : Int), .int .u32 (p.off : Int), .int .u64 (p.birth : Int)]
def pcells (p : Pt) : List Value := pnums p ++ (p.hash.map V8 ++ p.ats.map U16)
theorem pcells_length {p : Pt} (h : p.OK) : (pcells p).length = 41 := by simp [pcells, pnums, h.hash, h.len]
def tailB (l : List Nat) : Bs := l.flatMap fun x => leb x 2
theorem tailB_length : ∀ l : List Nat, (tailB l).length = 2 * l.length
  | [] => rfl
  | x :: l => by
    have := tailB_length l
    simp only [tailB, List.flatMap_cons, List.length_append, leb_length, List.length_cons] at *
    omega
theorem tailB_snoc (l : List Nat) (x : Nat) : tailB (l ++ [x]) = tailB l ++ leb x 2 := by simp [tailB]
def tagB (p : Pt) : Bs := leb p.kind 1 ++ leb p.level 1 ++ leb p.obj 2 ++ leb p.off 4 ++ leb p.birth 8
theorem tagB_length (p : Pt) : (tagB p).length = 16 := by simp [tagB, leb_length]
def bodyB (p : Pt) : Bs := tagB p ++ p.hash ++ tailB p.ats
theorem bodyB_length {p : Pt} (h : p.OK) : (bodyB p).length = 56 := by simp [bodyB, tagB_length, h.hash, tailB_length, h.len]
/-- A pointer's 64 bytes. -/
def padB (p : Pt) : Bs := bodyB p ++ List.replicate 8 0#8
theorem padB_length {p : Pt} (h : p.OK) : (padB p).length = 64 := by simp [padB, bodyB_length h]
/-- The pointer of 64 bytes. -/
def pt (l : Bs) : Pt := ⟨val (l.take 1), val ((l.drop 1).take 1), val ((l.drop 2).take 2), val ((l.drop 4).take 4), val ((l.drop 8).take 8), (l.drop 16).take 32, [val ((l.drop 48).take 2), val ((l.drop 50).take 2), val ((l.drop 52).take 2), val ((l.drop 54).take 2)]⟩
def zeroP : Pt := ⟨0, 0, 0, 0, 0, List.replicate 32 0#8, [0, 0, 0, 0]⟩
def quietP (l : Bs) : Bool := (l.drop 56).all (· == 0#8)
theorem zeroP_ok : zeroP.OK := ⟨by simp [zeroP], by simp [zeroP], by simp [zeroP], by simp [zeroP], by simp [zeroP], by simp [zeroP], by simp [zeroP], by simp [zeroP]⟩
theorem val_take_lt (l : Bs) (n : Nat) : val (l.take n) < 2 ^ (8 * n) := by
  have h := val_lt (l.take n)
  have h2 : (l.take n).length ≤ n := by simp; omega
  exact Nat.lt_of_lt_of_le h (Nat.pow_le_pow_right (by omega) (by omega))
theorem pt_ok {l : Bs} (h : 64 ≤ l.length) : (pt l).OK := by
  refine ⟨val_take_lt _ 1, val_take_lt _ 1, val_take_lt _ 2, val_take_lt _ 4, val_take_lt _ 8, by simp [pt]; omega, by simp [pt], fun x hx => ?_⟩
  simp [pt] at hx
  rcases hx with rfl | rfl | rfl | rfl <;> exact val_take_lt _ 2
theorem lb_val (x : BitVec 8) (l : Bs) (k : Nat) : lb (val (x :: l)) (k + 1) = lb (val l) k := by
  apply BitVec.eq_of_toNat_eq
  rw [lb_nat, lb_nat]
  have h := x.isLt
  have e : val (x :: l) = x.toNat + val l * 256 := by simp [val]; omega
  rw [show 8 * (k + 1) = 8 + 8 * k by omega, Nat.pow_add, ← Nat.div_div_eq_div_mul]
  congr 2
  rw [e]
  omega
theorem leb_val : ∀ l : Bs, leb (val l) l.length = l
  | [] => rfl
  | x :: l => by
    have ih := leb_val l
    unfold leb at *
    rw [List.length_cons, List.range_succ_eq_map, List.map_cons, List.map_map]
    congr 1
    · apply BitVec.eq_of_toNat_eq
      rw [lb_nat]
      have h := x.isLt
      have e : val (x :: l) = x.toNat + val l * 256 := by simp [val]; omega
      rw [e]
      simp
      omega
    · have e : (List.range l.length).map (lb (val (x :: l)) ∘ Nat.succ) = (List.range l.length).map (lb (val l)) := List.map_congr_left fun k _ => lb_val x l k
      rw [e]
      exact ih
theorem leb_val_of {l : Bs} {k : Nat} (h : l.length = k) : leb (val l) k = l := by subst h; exact leb_val l
theorem all_zero : ∀ l : Bs, l.all (· == 0#8) = true → l = List.replicate l.length 0#8
  | [], _ => rfl
  | x :: l, h => by
    simp only [List.all_cons, Bool.and_eq_true, beq_iff_eq] at h
    rw [List.length_cons, List.replicate_succ, ← all_zero l h.2, h.1]
theorem bodyB_pt {l : Bs} (h : l.length = 64) : bodyB (pt l) = l.take 56 := by
  have e2 : ∀ n m, n + m ≤ 64 → leb (val ((l.drop n).take m)) m = (l.drop n).take m := fun n m hn => leb_val_of (by simp [h]; omega)
  unfold bodyB tagB pt tailB
  simp only [List.flatMap_cons, List.flatMap_nil, List.append_nil]
  rw [leb_val_of (l := l.take 1) (by simp [h]), e2 1 1 (by omega), e2 2 2 (by omega), e2 4 4 (by omega), e2 8 8 (by omega), e2 48 2 (by omega), e2 50 2 (by omega), e2 52 2 (by omega), e2 54 2 (by omega)]
  have g : ∀ n m, l.take n ++ (l.drop n).take m = l.take (n + m) := fun n m => by rw [List.take_add]
  simp only [← List.append_assoc]
  rw [g 1 1, g 2 2, g 4 4, g 8 8, g 16 32, g 48 2, g 50 2, g 52 2, g 54 2]
theorem padB_pt {l : Bs} (h : l.length = 64) : padB (pt l) = l ↔ quietP l = true := by
  unfold padB quietP
  rw [bodyB_pt h]
  constructor
  · intro e
    rw [← e]
    rw [List.drop_append_of_le_length (by simp [h])]
    simp [h]
  · intro hq
    have h1 := all_zero _ hq
    have h2 : (l.drop 56).length = 8 := by simp [h]
    rw [h2] at h1
    rw [← h1, List.take_append_drop]
theorem drop_step {l a b : Bs} {n m : Nat} (h : l.drop n = a ++ b) (ha : a.length = m) : l.drop (n + m) = b := by rw [← List.drop_drop, h, List.drop_left' ha]
theorem pt_padB {p : Pt} (h : p.OK) : pt (padB p) = p ∧ quietP (padB p) = true := by
  obtain ⟨kind, level, obj, off, birth, hash, ats⟩ := p
  obtain ⟨k1, k2, k3, k4, k5, h2, h3, h4⟩ := h
  simp only at k1 k2 k3 k4 k5 h2 h3 h4
  match ats, h3, h4 with
  | [a0, a1, a2, a3], _, h4 =>
    have b0 := h4 a0 (by simp)
    have b1 := h4 a1 (by simp)
    have b2 := h4 a2 (by simp)
    have b3 := h4 a3 (by simp)
    have v : ∀ n m, n < 2 ^ (8 * m) → val (leb n m) = n := fun n m hn => by rw [val_leb]; exact Nat.mod_eq_of_lt hn
    have L : ∀ n m, (leb n m).length = m := leb_length
    have e : padB ⟨kind, level, obj, off, birth, hash, [a0, a1, a2, a3]⟩ = leb kind 1 ++ (leb level 1 ++ (leb obj 2 ++ (leb off 4 ++ (leb birth 8 ++ (hash ++ (leb a0 2 ++ (leb a1 2 ++ (leb a2 2 ++ (leb a3 2 ++ List.replicate 8 0#8))))))))) := by
      simp [padB, bodyB, tagB, tailB]
    have d1 : (padB ⟨kind, level, obj, off, birth, hash, [a0, a1, a2, a3]⟩).drop 1 = leb level 1 ++ (leb obj 2 ++ (leb off 4 ++ (leb birth 8 ++ (hash ++ (leb a0 2 ++ (leb a1 2 ++ (leb a2 2 ++ (leb a3 2 ++ List.replicate 8 0#8)))))))) := by
      rw [e, List.drop_left' (L _ _)]
    have d2 : (padB ⟨kind, level, obj, off, birth, hash, [a0, a1, a2, a3]⟩).drop 2 = leb obj 2 ++ (leb off 4 ++ (leb birth 8 ++ (hash ++ (leb a0 2 ++ (leb a1 2 ++ (leb a2 2 ++ (leb a3 2 ++ List.replicate 8 0#8))))))) := drop_step (n := 1) (m := 1) d1 (L _ _)
    have d4 : (padB ⟨kind, level, obj, off, birth, hash, [a0, a1, a2, a3]⟩).drop 4 = leb off 4 ++ (leb birth 8 ++ (hash ++ (leb a0 2 ++ (leb a1 2 ++ (leb a2 2 ++ (leb a3 2 ++ List.replicate 8 0#8)))))) := drop_step (n := 2) (m := 2) d2 (L _ _)
    have d8 : (padB ⟨kind, level, obj, off, birth, hash, [a0, a1, a2, a3]⟩).drop 8 = leb birth 8 ++ (hash ++ (leb a0 2 ++ (leb a1 2 ++ (leb a2 2 ++ (leb a3 2 ++ List.replicate 8 0#8))))) := drop_step (n := 4) (m := 4) d4 (L _ _)
    have d16 : (padB ⟨kind, level, obj, off, birth, hash, [a0, a1, a2, a3]⟩).drop 16 = hash ++ (leb a0 2 ++ (leb a1 2 ++ (leb a2 2 ++ (leb a3 2 ++ List.replicate 8 0#8)))) := drop_step (n := 8) (m := 8) d8 (L _ _)
    have d48 : (padB ⟨kind, level, obj, off, birth, hash, [a0, a1, a2, a3]⟩).drop 48 = leb a0 2 ++ (leb a1 2 ++ (leb a2 2 ++ (leb a3 2 ++ List.replicate 8 0#8))) := drop_step (n := 16) (m := 32) d16 h2
    have d50 : (padB ⟨kind, level, obj, off, birth, hash, [a0, a1, a2, a3]⟩).drop 50 = leb a1 2 ++ (leb a2 2 ++ (leb a3 2 ++ List.replicate 8 0#8)) := drop_step (n := 48) (m := 2) d48 (L _ _)
    have d52 : (padB ⟨kind, level, obj, off, birth, hash, [a0, a1, a2, a3]⟩).drop 52 = leb a2 2 ++ (leb a3 2 ++ List.replicate 8 0#8) := drop_step (n := 50) (m := 2) d50 (L _ _)
    have d54 : (padB ⟨kind, level, obj, off, birth, hash, [a0, a1, a2, a3]⟩).drop 54 = leb a3 2 ++ List.replicate 8 0#8 := drop_step (n := 52) (m := 2) d52 (L _ _)
    have d56 : (padB ⟨kind, level, obj, off, birth, hash, [a0, a1, a2, a3]⟩).drop 56 = List.replicate 8 0#8 := drop_step (n := 54) (m := 2) d54 (L _ _)
    constructor
    · unfold pt
      rw [d1, d2, d4, d8, d16, d48, d50, d52, d54, e]
      simp only [List.take_left' (L _ _), List.take_left' h2]
      rw [v kind 1 k1, v level 1 k2, v obj 2 k3, v off 4 k4, v birth 8 k5, v a0 2 b0, v a1 2 b1, v a2 2 b2, v a3 2 b3]
    · unfold quietP
      rw [d56]
      rfl
/-- How many copies a kind has on each disk. -/
def wideN (k : Nat) : Nat := if k < 1 ∨ 5 < k then 0 else if k = 1 then 1 else 2
def lowN (k : Nat) : Nat := if k = 3 then 1 else 0
def highN (k : Nat) : Nat := if k = 3 then 2 else 0
/-- The copies from place i on. -/
def copiesFrom : Nat → List Nat → List (Nat × Nat)
  | _, [] => []
  | i, a :: l => if a = 0 then copiesFrom (i + 1) l else (i / 2, a) :: copiesFrom (i + 1) l
def copiesP (p : Pt) : List (Nat × Nat) := copiesFrom 0 p.ats
/-- While copies are gone through: none: two are at one place; else whether there are any, and the last on each disk. -/
def sweep : List (Nat × Nat) → Bool × Nat × Nat → Option (Bool × Nat × Nat)
  | [], s => some s
  | (d, a) :: r, (_, x, y) => if a = (if d = 0 then x else y) then none else sweep r (if d = 0 then (true, a, y) else (true, x, a))
def apartP (p : Pt) : Bool := match sweep (copiesP p) (false, 0, 0) with
  | none => false
  | some s => s.1
theorem sweep_append : ∀ (l m : List (Nat × Nat)) (s : Bool × Nat × Nat), sweep (l ++ m) s = (sweep l s).bind (sweep m)
  | [], _, _ => rfl
  | (d, a) :: l, m, (f, x, y) => by
    by_cases hd : a = (if d = 0 then x else y)
    · show (if _ then _ else _) = Option.bind (if _ then _ else _) _
      rw [if_pos hd, if_pos hd]; rfl
    · show (if _ then _ else _) = Option.bind (if _ then _ else _) _
      rw [if_neg hd, if_neg hd]; exact sweep_append l m _
/-- Each address stands where the kind has copies. -/
def placedP (p : Pt) : Bool := (List.range 4).all fun i => decide (p.ats.getD i 0 = 0 ∨ i % 2 < wideN p.kind)
def mayP (p : Pt) : Bool := decide (lowN p.kind ≤ p.level ∧ p.level ≤ highN p.kind) && placedP p && apartP p
/-- .. as the document says it. -/
def mayR (p : Pt) : Bool :=
  if p.kind < 1 ∨ 5 < p.kind then false
  else if (p.kind = 3 ∧ (p.level < 1 ∨ 2 < p.level)) ∨ (p.kind ≠ 3 ∧ p.level ≠ 0) then false
  else if p.ats = [0, 0, 0, 0] then false
  else if (p.ats.getD 0 0 ≠ 0 ∧ p.ats.getD 0 0 = p.ats.getD 1 0) ∨ (p.ats.getD 2 0 ≠ 0 ∧ p.ats.getD 2 0 = p.ats.getD 3 0) then false
  else decide (p.kind ≠ 1 ∨ (p.ats.getD 1 0 = 0 ∧ p.ats.getD 3 0 = 0))
theorem mayP_eq {p : Pt} (h : p.ats.length = 4) : mayP p = mayR p := by
  obtain ⟨kind, level, obj, off, birth, hash, ats⟩ := p
  match ats, h with
  | [a, b, c, d], _ =>
    by_cases k0 : kind < 1 ∨ 5 < kind
    · simp only [mayR, if_pos k0]
      have hw : wideN kind = 0 := by unfold wideN; rw [if_pos k0]
      by_cases hz : a = 0 ∧ b = 0 ∧ c = 0 ∧ d = 0
      · obtain ⟨rfl, rfl, rfl, rfl⟩ := hz
        simp [mayP, apartP, copiesP, copiesFrom, sweep]
      · have : placedP ⟨kind, level, obj, off, birth, hash, [a, b, c, d]⟩ = false := by
          simp only [placedP, hw, List.range_succ, List.range_zero, List.nil_append, List.cons_append, List.all_cons, List.all_nil]
          simp
          omega
        simp [mayP, this]
    · simp only [mayR, if_neg k0]
      by_cases k1 : (kind = 3 ∧ (level < 1 ∨ 2 < level)) ∨ (kind ≠ 3 ∧ level ≠ 0)
      · rw [if_pos k1]
        have : decide (lowN kind ≤ level ∧ level ≤ highN kind) = false := by
          apply decide_eq_false
          unfold lowN highN
          split <;> omega
        simp [mayP, this]
      · rw [if_neg k1]
        have h1 : decide (lowN kind ≤ level ∧ level ≤ highN kind) = true := by
          apply decide_eq_true
          unfold lowN highN
          split <;> omega
        have hw : wideN kind = if kind = 1 then 1 else 2 := by unfold wideN; rw [if_neg k0]
        have hp : placedP ⟨kind, level, obj, off, birth, hash, [a, b, c, d]⟩ = decide (kind ≠ 1 ∨ (b = 0 ∧ d = 0)) := by
          simp only [placedP, hw, List.range_succ, List.range_zero, List.nil_append, List.cons_append, List.all_cons, List.all_nil]
          by_cases hk : kind = 1
          · simp [hk]
          · simp [hk]
        have ha : apartP ⟨kind, level, obj, off, birth, hash, [a, b, c, d]⟩ = (!decide ([a, b, c, d] = [0, 0, 0, 0]) && !decide ((a ≠ 0 ∧ a = b) ∨ (c ≠ 0 ∧ c = d))) := by
          clear hp hw h1 k0 k1 h
          simp only [apartP, copiesP, copiesFrom, eq_comm (a := a) (b := b), eq_comm (a := c) (b := d)]
          by_cases a0 : a = 0 <;> by_cases b0 : b = 0 <;> by_cases c0 : c = 0 <;> by_cases d0 : d = 0 <;> by_cases ab : b = a <;> by_cases cd : d = c <;> simp_all [sweep]
        simp only [mayP, h1, hp, ha, Bool.true_and]
        by_cases z : [a, b, c, d] = [0, 0, 0, 0]
        · simp [z]
        · rw [if_neg z]
          simp only [List.getD_cons_zero, List.getD_cons_succ]
          by_cases y : (a ≠ 0 ∧ a = b) ∨ (c ≠ 0 ∧ c = d)
          · rw [if_pos y]; simp [y]
          · rw [if_neg y]; simp [y, z]
end Go.Proofs.YtecngehkdjmjmaaDoor
/- Pointers in memory; operations on them, each by its value; what a kind asks. -/
namespace Go.Proofs.YtecngehkdjmjmaaDoor
open Go.RowKit

section
variable {ops : Array Oper} {Q : Exit → Act → World → Prop} {S : World → Prop}
/-- It makes memory. -/
theorem wpG_mk {i : Nat} {r : Tr} {a : Act} {w : World} (o : Oper) (hi : ops.toList[i]? = some o) (hw : Region.wanted o (yielded ops a.tmps) = true) (v : Value) (w1 : World) (hrun : (execOp a.eval o).run Tryd.prog w = .ok (.value v) w1)
    (S' : World → Prop) (hS : S' w1) (hSS : ∀ w, S' w → S w) (h : wpG Tryd.prog ops Q r S' (a.put o.dst v) w1) : wpG Tryd.prog ops Q (.step i r) S a w := by
  show wpOp Tryd.prog ops Q i _ a w
  unfold wpOp
  simp only [of_list hi]
  rw [if_pos hw]
  refine .inl ?_
  unfold Oper.wp
  rw [hrun]
  exact ⟨hSS _ hS, S', hSS, hS, h⟩
end
theorem wpL_val {ops : Array Oper} {rest : List Oper} {o : Oper} {a : Act} {Q : Exit → Act → World → Prop} {w w' : World} {v : Value} (hg : o.guard = none) (hrun : (execOp a.eval o).run Tryd.prog w = .ok (.value v) w')
    (hK : wpList Tryd.prog ops Q rest (a.put o.dst v) w') : wpList Tryd.prog ops Q (o :: rest) a w := by
  refine wpList_plain hg fun K' hK' => ?_
  unfold Oper.wp
  rw [hrun]
  exact hK' _ _ hK
theorem ex_ld {ρ : Operand → Value} {o : Oper} {x : Operand} {ty : TypeId} {b off : Nat} {cs : List Value} {d : TypeDesc} {w : World} (ho : o.op = .load ty x) (hx : ρ x = .pointer (some ⟨b, off, none⟩)) (hc : w.rangeAt b off cs) (hu : Tryd.prog.underlying ty = some d) (hd : d.isRow = true) (hi : (Tryd.prog.info? ty).map (·.size) = some cs.length) : (execOp ρ o).run Tryd.prog w = .ok (.value (.agg cs.toArray)) w := by
  have hr := run_loadAt_mid (P := Tryd.prog) w b off ty cs d hc hu hd hi
  unfold execOp
  simp only [ho, hx]
  simp only [Sem.run_bind, hr, Result.andThen_ok, Sem.run_pure]
theorem sizeP : (Tryd.prog.info? 28).map (·.size) = some 41 := by kernel_rfl
theorem sizeAts : (Tryd.prog.info? 26).map (·.size) = some 4 := by kernel_rfl
theorem sizeA32 : (Tryd.prog.info? 25).map (·.size) = some 32 := by kernel_rfl
theorem sizeU16 : (Tryd.prog.info? 22).map (·.size) = some 1 := by kernel_rfl
theorem sizeRule : (Tryd.prog.info? 89).map (·.size) = some 3 := by kernel_rfl
theorem ex_faP {ρ : Operand → Value} {o : Oper} {x : Operand} {g : Nat} {w : World} (j k : Nat) (hj : (j = 0 ∧ k = 0) ∨ (j = 1 ∧ k = 1) ∨ (j = 2 ∧ k = 2) ∨ (j = 3 ∧ k = 3) ∨ (j = 4 ∧ k = 4) ∨ (j = 5 ∧ k = 5) ∨ (j = 6 ∧ k = 37)) (ho : o.op = .fieldAddr 28 x j) (hx : ρ x = .pointer (some ⟨g, 0, none⟩)) : (execOp ρ o).run Tryd.prog w = .ok (.value (.pointer (some ⟨g, k, none⟩))) w := by
  unfold execOp
  simp only [ho]
  rcases hj with ⟨rfl, rfl⟩ | ⟨rfl, rfl⟩ | ⟨rfl, rfl⟩ | ⟨rfl, rfl⟩ | ⟨rfl, rfl⟩ | ⟨rfl, rfl⟩ | ⟨rfl, rfl⟩ <;> go_simp
theorem isAgg_int {t : TypeId} {k : IntKind} (h : Tryd.prog.underlying t = some (.int k)) (W : World) : (isAgg t).run Tryd.prog W = .ok false W := by
  unfold isAgg
  rw [Sem.run_bind, run_underlying h W]; rfl
theorem isAgg_arr {t e : TypeId} {n : Nat} (h : Tryd.prog.underlying t = some (.array n e)) (W : World) : (isAgg t).run Tryd.prog W = .ok true W := by
  unfold isAgg
  rw [Sem.run_bind, run_underlying h W]; rfl
theorem ex_ld1 {ρ : Operand → Value} {o : Oper} {x : Operand} {ad : Addr} {v : Value} {w : World} {ty : TypeId} {k : IntKind} (hu : Tryd.prog.underlying ty = some (.int k)) (ho : o.op = .load ty x) (hx : ρ x = .pointer (some ad)) (hc : w.cell? ad = some v) : (execOp ρ o).run Tryd.prog w = .ok (.value v) w := by
  have h := isAgg_int hu w
  unfold execOp
  simp only [ho]
  go_simp
theorem ex_slH {ρ : Operand → Value} {o : Oper} {x : Operand} {b : Nat} {w : World} (ho : o.op = .slice 25 x none none none) (hx : ρ x = .pointer (some ⟨b, 5, none⟩)) : (execOp ρ o).run Tryd.prog w = .ok (.value (.slice (some ⟨b, 5, none⟩) 32 32)) w := by
  unfold execOp
  simp only [ho]
  go_simp
theorem ex_appB {ρ : Operand → Value} {o : Oper} {x y : Operand} {v u v' : Value} {w w' : World} (ho : o.op = .call { callee := .builtin .append, args := #[x, y], argTypes := #[38, 38] }) (hx : ρ x = v) (hy : ρ y = u)
    (hr : (Builtin.append_ #[38, 38] o.type #[v, u]).run Tryd.prog w = .ok v' w') : (execOp ρ o).run Tryd.prog w = .ok (.value v') w' := by
  unfold execOp
  simp only [ho, resolve, invoke, builtin, Sem.run_bind, Sem.run_pure, Result.andThen_ok, List.map_toArray, List.map_cons, List.map_nil, hx, hy, hr]
/-- Bytes more. -/
theorem ownB_app {w : World} {B : Nat} {v : Value} {l m : Bs} (h : OwnB w B v l) (hB : B ≤ w.heap.size) (hl : l.length + m.length ≤ 1000000) {g off c : Nat} (hsrc : w.rangeAt g off (m.map V8)) (ty : TypeId) :
    ∃ v' w', (Builtin.append_ #[38, 38] ty #[v, .slice (some ⟨g, off, none⟩) m.length c]).run Tryd.prog w = .ok v' w' ∧ OwnB w' B v' (l ++ m) ∧ Below B w w' := by
  obtain ⟨i0, hi, hz0, hz1, hz2⟩ := info_parts infoB
  obtain ⟨v', w', hr, h2, h3, _, h5⟩ := run_append_own_at (P := Tryd.prog) w B 38 ty 5 i0 (.int .u8 0) 1 1 Tryd.underlying38 hi hz0 hz1 hz2 rfl (by decide) v l.length (l.map V8) h ⟨g, off, none⟩ m.length c (m.map V8) (by simp) (fun j u hj => by rw [Addr.add_mid]; exact hsrc j u hj) (one_v8 m) (by unfold maxLen; omega) (by omega) hB
  refine ⟨v', w', hr, ?_, (Below.refl _ _).grown h3 hB (fun k hk => (h.lt k hk).1)⟩
  unfold OwnB
  rw [List.map_append, List.length_append]
  exact h2
theorem Blk.rng {w : World} {g : Nat} {cs : List Value} {t : TypeId} (h : Blk w g cs t) (A M Z : List Value) (e : cs = A ++ (M ++ Z)) : w.rangeAt g A.length M := h.range _ _ fun j v hv => by
  subst e
  have hj := (List.getElem?_eq_some_iff.1 hv).1
  rw [List.getElem?_append_right (by omega), List.getElem?_append_left (by omega)]
  rw [show A.length + j - A.length = j by omega]
  exact hv
theorem rng_hash {w : World} {g : Nat} {p : Pt} {t : TypeId} (h : Blk w g (pcells p) t) : w.rangeAt g 5 (p.hash.map V8) := h.rng (pnums p) (p.hash.map V8) (p.ats.map U16) rfl
theorem rng_ats {w : World} {g : Nat} {p : Pt} {t : TypeId} (h : Blk w g (pcells p) t) (hp : p.hash.length = 32) : w.rangeAt g 37 (p.ats.map U16) := by
  have := h.rng (pnums p ++ p.hash.map V8) (p.ats.map U16) [] (by simp [pcells])
  simpa [hp, pnums] using this
theorem rng_all {w : World} {g : Nat} {cs : List Value} {t : TypeId} (h : Blk w g cs t) : w.rangeAt g 0 cs := h.range _ _ fun j v hv => by simpa using hv
theorem cell_hash {w : World} {g : Nat} {p : Pt} {t : TypeId} (h : Blk w g (pcells p) t) {k : Nat} {x : BitVec 8} (hx : p.hash[k]? = some x) : w.cell? ⟨g, 5 + k, none⟩ = some (V8 x) := rng_hash h k (V8 x) (by simp [hx])
theorem cell_ats {w : World} {g : Nat} {p : Pt} {t : TypeId} (h : Blk w g (pcells p) t) (hp : p.hash.length = 32) {k x : Nat} (hx : p.ats[k]? = some x) : w.cell? ⟨g, 37 + k, none⟩ = some (.int .u16 (x : Int)) := rng_ats h hp k (.int .u16 (x : Int)) (by simp [hx, U16])

/-! Equality. -/
theorem eqFields_dec (d : Nat) (xs ys : Array Value) (W : World) (B : TypeId × Nat → Bool) : ∀ fs : List Field, (∀ f ∈ fs, f.name ≠ "_" ∧ ∃ x y, (Go.part f.type xs f.offset).run Tryd.prog W = .ok x W ∧ (Go.part f.type ys f.offset).run Tryd.prog W = .ok y W ∧ (Op.equalIn d f.type x y).run Tryd.prog W = .ok (B (f.type, f.offset)) W) →
    (Op.eqFields d xs ys fs).run Tryd.prog W = .ok ((fs.map fun f => (f.type, f.offset)).all B) W
  | [], _ => by simp [Op.eqFields]
  | f :: fs, h => by
    obtain ⟨hn, x, y, h1, h2, h3⟩ := h f (by simp)
    have ih := eqFields_dec d xs ys W B fs (fun g hg => h g (by simp [hg]))
    unfold Op.eqFields
    rw [if_pos hn]
    simp only [Sem.run_bind, h1, h2, h3, Result.andThen_ok]
    cases hB : B (f.type, f.offset)
    · simp [hB]
    · simpa [hB] using ih
theorem eqItems_dec (d : Nat) (e : TypeId) (k : Nat) (xs ys : Array Value) (W : World) (B : Nat → Bool) : ∀ is : List Nat, (∀ i ∈ is, ∃ x y, (Go.part e xs (i * k)).run Tryd.prog W = .ok x W ∧ (Go.part e ys (i * k)).run Tryd.prog W = .ok y W ∧ (Op.equalIn d e x y).run Tryd.prog W = .ok (B i) W) →
    (Op.eqItems d e k xs ys is).run Tryd.prog W = .ok (is.all B) W
  | [], _ => by simp [Op.eqItems]
  | i :: is, h => by
    obtain ⟨x, y, h1, h2, h3⟩ := h i (by simp)
    have ih := eqItems_dec d e k xs ys W B is (fun g hg => h g (by simp [hg]))
    unfold Op.eqItems
    simp only [Sem.run_bind, h1, h2, h3, Result.andThen_ok]
    cases hB : B i
    · simp [hB]
    · simpa [hB] using ih
theorem part_one {t : TypeId} {k : IntKind} (h : Tryd.prog.underlying t = some (.int k)) {xs : Array Value} {off : Nat} {v : Value} (hv : xs[off]? = some v) (W : World) : (Go.part t xs off).run Tryd.prog W = .ok v W := by
  unfold Go.part
  simp only [Sem.run_bind, isAgg_int h W, Result.andThen_ok, hv]
  rfl
theorem part_arr {t e : TypeId} {n m : Nat} (h : Tryd.prog.underlying t = some (.array n e)) (hs : (Tryd.prog.info? t).map (·.size) = some m) (xs : Array Value) (off : Nat) (W : World) : (Go.part t xs off).run Tryd.prog W = .ok (.agg (xs.extract off (off + m))) W := by
  obtain ⟨i, h1, h2⟩ := Option.map_eq_some_iff.1 hs
  have hsz : (sizeOf t).run Tryd.prog W = .ok m W := by simp [sizeOf, typeInfo, h1, h2]
  unfold Go.part
  simp only [Sem.run_bind, isAgg_arr h W, Result.andThen_ok, hsz, if_true]
  rfl
theorem ext_hash {p : Pt} (hp : p.OK) : (pcells p).toArray.extract 5 (5 + 32) = (p.hash.map V8).toArray := by
  apply Array.toList_inj.1
  have hh := hp.hash
  simp [pcells, pnums, List.extract]
  rw [List.take_append_of_le_length (by simp [hh])]
  exact List.take_of_length_le (by simp [hh])
theorem ext_ats {p : Pt} (hp : p.OK) : (pcells p).toArray.extract 37 (37 + 4) = (p.ats.map U16).toArray := by
  apply Array.toList_inj.1
  have hh := hp.hash
  have hl := hp.len
  have e : pcells p = (pnums p ++ p.hash.map V8) ++ p.ats.map U16 := by simp [pcells]
  rw [e]
  simp only [List.extract_toArray, List.extract]
  rw [List.drop_left' (by simp [hh, pnums])]
  exact List.take_of_length_le (by simp [hl])
theorem map_ofBitVec_inj : ∀ x y : Bs, x.map UInt8.ofBitVec = y.map UInt8.ofBitVec → x = y
  | [], [], _ => rfl
  | [], _ :: _, h => by simp at h
  | _ :: _, [], h => by simp at h
  | u :: x, v :: y, h => by
    simp only [List.map_cons, List.cons.injEq] at h
    have h1 : u = v := by have := congrArg UInt8.toBitVec h.1; simpa using this
    rw [h1, map_ofBitVec_inj x y h.2]
theorem eq_hash {a b : Bs} (ha : a.length = 32) (hb : b.length = 32) (d : Nat) (W : World) : (Op.equalIn (d + 2) 25 (.agg (a.map V8).toArray) (.agg (b.map V8).toArray)).run Tryd.prog W = .ok (decide (a = b)) W := by
  have h := run_equalIn_bytes (P := Tryd.prog) W d 25 5 32 Tryd.underlying25 Tryd.underlying5 sizeOfB (a.map UInt8.ofBitVec) (b.map UInt8.ofBitVec) (by simpa using ha) (by simpa using hb)
  have e : ∀ l : Bs, (l.map UInt8.ofBitVec).map Extern.Stop.cell = l.map V8 := fun l => by
    rw [List.map_map]; rfl
  rw [e, e] at h
  rw [h]
  refine congrArg (fun b => Result.ok b W) ?_
  by_cases hab : a = b
  · subst hab; simp
  · rw [decide_eq_false hab]
    rw [beq_eq_false_iff_ne]
    exact fun e => hab (map_ofBitVec_inj a b e)
theorem ats_all {a b : List Nat} (ha : a.length = 4) (hb : b.length = 4) : ((List.range 4).all fun i => decide (a.getD i 0 = b.getD i 0)) = decide (a = b) := by
  match a, ha, b, hb with
  | [a0, a1, a2, a3], _, [b0, b1, b2, b3], _ =>
    simp [List.range_succ]
theorem eq_ats {a b : List Nat} (ha : a.length = 4) (hb : b.length = 4) (d : Nat) (W : World) : (Op.equalIn (d + 2) 26 (.agg (a.map U16).toArray) (.agg (b.map U16).toArray)).run Tryd.prog W = .ok (decide (a = b)) W := by
  obtain ⟨i, h1, h2⟩ := Option.map_eq_some_iff.1 sizeU16
  rw [run_equalIn_array W (d + 1) _ _ Tryd.underlying26 h1, ← ats_all ha hb]
  refine eqItems_dec _ _ _ _ _ W _ _ (fun j hj => ?_)
  have hj4 : j < 4 := List.mem_range.1 hj
  have hc : Tryd.prog.cellsOf 22 = 1 := by kernel_rfl
  refine ⟨U16 (a.getD j 0), U16 (b.getD j 0), part_one Tryd.underlying22 (by rw [hc, Nat.mul_one]; simp [ha, hj4, List.getD_eq_getElem?_getD]) W, part_one Tryd.underlying22 (by rw [hc, Nat.mul_one]; simp [hb, hj4, List.getD_eq_getElem?_getD]) W, ?_⟩
  unfold U16
  rw [run_equalIn_int W d 22 .u16 .u16 _ _ Tryd.underlying22]
  refine congrArg (fun b => Result.ok b W) ?_
  rw [Bool.eq_iff_iff]
  simp
  omega
theorem fieldsP : (Tryd.prog.fieldsOf 28).toList.map (fun f => (f.type, f.offset)) = [(5, 0), (5, 1), (22, 2), (23, 3), (24, 4), (25, 5), (26, 37)] := by kernel_rfl
theorem namesP : ((Tryd.prog.fieldsOf 28).toList.all fun f => f.name != "_") = true := by kernel_rfl
/-- Are they one, place by place? -/
def eqAt (p q : Pt) (f : TypeId × Nat) : Bool :=
  if f.2 = 0 then decide (p.kind = q.kind) else if f.2 = 1 then decide (p.level = q.level) else if f.2 = 2 then decide (p.obj = q.obj) else if f.2 = 3 then decide (p.off = q.off) else if f.2 = 4 then decide (p.birth = q.birth) else if f.2 = 5 then decide (p.hash = q.hash) else decide (p.ats = q.ats)
def eqP (p q : Pt) : Bool := decide (p.kind = q.kind) && decide (p.level = q.level) && decide (p.obj = q.obj) && decide (p.off = q.off) && decide (p.birth = q.birth) && decide (p.hash = q.hash) && decide (p.ats = q.ats)
theorem eqP_iff {p q : Pt} : eqP p q = true ↔ p = q := by
  obtain ⟨a1, a2, a3, a4, a5, a6, a7⟩ := p
  obtain ⟨b1, b2, b3, b4, b5, b6, b7⟩ := q
  simp [eqP, and_assoc]
theorem run_eqP {p q : Pt} (hp : p.OK) (hq : q.OK) (W : World) : (Op.equalIn 10000 28 (.agg (pcells p).toArray) (.agg (pcells q).toArray)).run Tryd.prog W = .ok (eqP p q) W := by
  rw [run_equalIn_struct W 9999 28 _ _ (by kernel_rfl) (by kernel_rfl)]
  have e : eqP p q = (((Tryd.prog.fieldsOf 28).toList.map fun f => (f.type, f.offset)).all (eqAt p q)) := by
    rw [fieldsP]
    simp [eqAt, eqP, Bool.and_assoc]
  rw [e]
  refine eqFields_dec _ _ _ W _ _ (fun f hm => ⟨?_, ?_⟩)
  · have := List.all_eq_true.1 namesP f hm
    simpa using this
  have h1 : (f.type, f.offset) ∈ (Tryd.prog.fieldsOf 28).toList.map (fun f => (f.type, f.offset)) := List.mem_map.2 ⟨f, hm, rfl⟩
  rw [fieldsP] at h1
  simp only [List.mem_cons, Prod.mk.injEq, List.not_mem_nil, or_false] at h1
  have hi : ∀ (t : TypeId) (k : IntKind) (a b : Nat), Tryd.prog.underlying t = some (.int k) → (Op.equalIn 9999 t (.int k (a : Int)) (.int k (b : Int))).run Tryd.prog W = .ok (decide (a = b)) W := fun t k a b ht => by
    rw [run_equalIn_int W 9998 t k k _ _ ht]
    refine congrArg (fun b => Result.ok b W) ?_
    rw [Bool.eq_iff_iff]
    simp
    omega
  rcases h1 with ⟨e1, e2⟩ | ⟨e1, e2⟩ | ⟨e1, e2⟩ | ⟨e1, e2⟩ | ⟨e1, e2⟩ | ⟨e1, e2⟩ | ⟨e1, e2⟩ <;> rw [e1, e2]
  · exact ⟨_, _, part_one Tryd.underlying5 (v := .int .u8 (p.kind : Int)) rfl W, part_one Tryd.underlying5 (v := .int .u8 (q.kind : Int)) rfl W, hi _ _ _ _ Tryd.underlying5⟩
  · exact ⟨_, _, part_one Tryd.underlying5 (v := .int .u8 (p.level : Int)) rfl W, part_one Tryd.underlying5 (v := .int .u8 (q.level : Int)) rfl W, hi _ _ _ _ Tryd.underlying5⟩
  · exact ⟨_, _, part_one Tryd.underlying22 (v := .int .u16 (p.obj : Int)) rfl W, part_one Tryd.underlying22 (v := .int .u16 (q.obj : Int)) rfl W, hi _ _ _ _ Tryd.underlying22⟩
  · exact ⟨_, _, part_one Tryd.underlying23 (v := .int .u32 (p.off : Int)) rfl W, part_one Tryd.underlying23 (v := .int .u32 (q.off : Int)) rfl W, hi _ _ _ _ Tryd.underlying23⟩
  · exact ⟨_, _, part_one Tryd.underlying24 (v := .int .u64 (p.birth : Int)) rfl W, part_one Tryd.underlying24 (v := .int .u64 (q.birth : Int)) rfl W, hi _ _ _ _ Tryd.underlying24⟩
  · refine ⟨_, _, part_arr Tryd.underlying25 sizeA32 _ _ W, part_arr Tryd.underlying25 sizeA32 _ _ W, ?_⟩
    rw [ext_hash hp, ext_hash hq]
    exact eq_hash hp.hash hq.hash 9997 W
  · refine ⟨_, _, part_arr Tryd.underlying26 sizeAts _ _ W, part_arr Tryd.underlying26 sizeAts _ _ W, ?_⟩
    rw [ext_ats hp, ext_ats hq]
    exact eq_ats hp.len hq.len 9997 W
section
variable {ρ : Operand → Value} {o : Oper} {x y : Operand} {p q : Pt} {w : World}
theorem ex_neP (ho : o.op = .binOp .neq 28 x y 28) (hx : ρ x = .agg (pcells p).toArray) (hy : ρ y = .agg (pcells q).toArray) (hp : p.OK) (hq : q.OK) : (execOp ρ o).run Tryd.prog w = .ok (.value (.bool (!eqP p q))) w := by
  have h := run_eqP hp hq w
  unfold execOp
  have hg := run_eqGuard_agg (P := Tryd.prog) w .neq 28 x y (pcells p).toArray (pcells q).toArray (by kernel_rfl)
  simp only [ho, hx, hy, Sem.run_bind, hg, run_neq_struct, h, Result.andThen_ok, Sem.run_pure]
theorem ex_eqP (ho : o.op = .binOp .eql 28 x y 28) (hx : ρ x = .agg (pcells p).toArray) (hy : ρ y = .agg (pcells q).toArray) (hp : p.OK) (hq : q.OK) : (execOp ρ o).run Tryd.prog w = .ok (.value (.bool (eqP p q))) w := by
  have h := run_eqP hp hq w
  unfold execOp
  have hg := run_eqGuard_agg (P := Tryd.prog) w .eql 28 x y (pcells p).toArray (pcells q).toArray (by kernel_rfl)
  simp only [ho, hx, hy, Sem.run_bind, hg, run_eql_struct, h, Result.andThen_ok, Sem.run_pure]
theorem ex_eqAts {a b : List Nat} (ho : o.op = .binOp .eql 26 x y 26) (hx : ρ x = .agg (a.map U16).toArray) (hy : ρ y = .agg (b.map U16).toArray) (ha : a.length = 4) (hb : b.length = 4) : (execOp ρ o).run Tryd.prog w = .ok (.value (.bool (decide (a = b)))) w := by
  have h := eq_ats ha hb 9998 w
  unfold execOp
  simp only [ho]
  go_simp
theorem ex_bld0 (ho : o.op = .build 28 #[]) : (execOp ρ o).run Tryd.prog w = .ok (.value (.agg (pcells zeroP).toArray)) w := by
  have hr : (Instr.build 28 #[]).run Tryd.prog w = .ok (.agg (pcells zeroP).toArray) w := run_build w 28 _ _ (by kernel_rfl)
  unfold execOp
  simp only [ho]
  simp only [List.map_toArray, List.map_nil, Sem.run_bind, hr, Result.andThen_ok, Sem.run_pure]
end
end Go.Proofs.YtecngehkdjmjmaaDoor
/- What a kind asks; how many copies it has; whether a pointer may be, as the document says it. -/
namespace Go.Proofs.YtecngehkdjmjmaaDoor
open Go.RowKit

def rcell (k : Nat) : List Value := [.int .i64 (wideN k : Int), .int .u8 (lowN k : Int), .int .u8 (highN k : Int)]
/-- The table of the kinds' rules, as it lies in memory. -/
def RTab (w : World) : Prop := ∃ t fr, w.heap[0]? = some (.cells ((List.range 6).flatMap rcell).toArray t fr)
theorem RTab.lt {w : World} (h : RTab w) : 0 < w.heap.size := by
  obtain ⟨t, fr, h⟩ := h
  exact (Array.getElem?_eq_some_iff.1 h).1
theorem RTab.of_heap {w w' : World} (h : RTab w) (he : w'.heap[0]? = w.heap[0]?) : RTab w' := by
  obtain ⟨t, fr, h⟩ := h
  exact ⟨t, fr, by rw [he]; exact h⟩
theorem RTab.below {B : Nat} {w w' : World} (h : RTab w) (hb : Below B w w') (hB : w.heap.size ≤ B) : RTab w' := h.of_heap (hb.block 0 (Nat.lt_of_lt_of_le h.lt hB))
theorem RTab.grown {w w' : World} (h : RTab w) (hb : Below w.heap.size w w') : RTab w' := h.below hb (Nat.le_refl _)
theorem RTab.alloc {w : World} (h : RTab w) (o : Obj) : RTab (w.alloc o) := h.of_heap (Below.heap_alloc w o 0 h.lt)
theorem RTab.range {w : World} (h : RTab w) {k : Nat} (hk : k < 6) : w.rangeAt 0 (k * 3) (rcell k) := by
  obtain ⟨t, fr, h⟩ := h
  intro j v hv
  rw [cell_of_row w 0 (k * 3 + j) _ t fr h]
  have hj : j < 3 := by
    have := (List.getElem?_eq_some_iff.1 hv).1
    simpa [rcell] using this
  match k, hk with
  | 0, _ | 1, _ | 2, _ | 3, _ | 4, _ | 5, _ =>
    match j, hj with
    | 0, _ | 1, _ | 2, _ => exact hv
theorem one_rule (k : Nat) : (rcell k).toArray.all (·.oneCell') = true := by simp [rcell, Value.oneCell']
theorem blk_row1 (w : World) (z : Array Value) (cs : List Value) (t : TypeId) : Blk ((w.alloc (.cells z t)).setRow w.heap.size cs.toArray) w.heap.size cs t ∧ Below w.heap.size w ((w.alloc (.cells z t)).setRow w.heap.size cs.toArray) :=
  ⟨Blk.row (Blk.new' w z z.toList t _ rfl (by simp)) _, below_row ((Below.refl _ _).alloc (Nat.le_refl _) _) (Nat.le_refl _) _⟩
theorem rcell_none {k : Nat} (h : ¬ k < 6) : rcell k = [.int .i64 0, .int .u8 0, .int .u8 0] := by
  unfold rcell wideN lowN highN
  rw [if_pos (by omega), if_neg (by omega), if_neg (by omega)]
  rfl
set_option maxRecDepth 100000 in
theorem rule_any (k : Nat) (hk : k < 256) (w : World) (hT : RTab w) : Calls Tryd.prog 45 #[.int .u8 (k : Int)] w fun e w' => e = .returned (.agg (rcell k).toArray) ∧ Below w.heap.size w w' := by
  have HT := Lib.hid hT
  clear hT
  have e1 := IntWalk.i64_in (k : Int) (by omega)
  obtain ⟨r, hr⟩ : ∃ r, rcell k = r := ⟨_, rfl⟩
  have hr3 : r.length = 3 := by rw [← hr]; rfl
  have HR3 := Lib.hid hr3
  have HSZ : Hid ((Tryd.prog.info? 89).map (·.size) = some r.toArray.size) := Lib.hid (by rw [sizeRule]; simp [hr3])
  have HONE : Hid (r.toArray.all (·.oneCell') = true) := Lib.hid (by rw [← hr]; exact one_rule k)
  have HB := Lib.hid (blk_row1 w #[.int .i64 0, .int .u8 0, .int .u8 0] r 89)
  go_enter Tryd.func45, Tryd.ntmps45
  by_cases h6 : k < 6
  · have HG : Hid ((w.alloc (.cells #[.int .i64 0, .int .u8 0, .int .u8 0] 89)).rangeAt 0 (k * 3) r) := Lib.hid (by rw [← hr]; exact (HT.out.alloc _).range h6)
    have hk6 : (k : Int) < 6 := by omega
    rw [hr]
    clear hr hr3
    go_wp2_with (first | (refine wpL_val rfl (ex_ld (ty := 89) (cs := r) (off := k * 3) rfl rfl HG.out Tryd.underlying89 rfl (by rw [sizeRule, HR3.out])) ?_) | (refine wpList_store_row rfl 89 (.tmp 2) (.tmp 8) rfl w.heap.size _ rfl rfl 89 _ (heap_alloc_new _ _) HSZ.out (by simp [HR3.out]) HONE.out ?_) | fail)
    exact bodyPost_ret (results_cell_row Tryd.results45 _ _ w.heap.size 89 _ _ _ rfl HB.out.1 Tryd.underlying89 rfl HSZ.out) rfl ⟨rfl, HB.out.2⟩
  · have hk6 : ¬ (k : Int) < 6 := by omega
    have h0 := rcell_none h6
    rw [hr] at h0
    rw [hr, h0]
    rw [h0] at HB
    clear hr hr3 h0 HR3 HSZ HONE h6
    go_wp2
    exact bodyPost_ret (results_cell_row Tryd.results45 _ _ w.heap.size 89 _ _ _ rfl (heap_alloc_new _ _) Tryd.underlying89 rfl sizeRule) rfl ⟨rfl, (Below.refl _ _).alloc (Nat.le_refl _) _⟩
end Go.Proofs.YtecngehkdjmjmaaDoor
/- A pointer's copies, gone through by a function: the iterator; that no two are at one place. -/
namespace Go.Proofs.YtecngehkdjmjmaaDoor
open Go.RowKit Go.Shelf

attribute [local go_sem] Oper.semAt_some

/-- A copy: its disk, its address. -/
abbrev Cp := { x : Nat × Nat // x.1 < 2 ∧ 0 < x.2 ∧ x.2 < 65536 }
def encC (x : Cp) : Array Value := #[.int .i64 (x.1.1 : Int), .int .u16 (x.1.2 : Int)]
def cpsFrom : Nat → List Nat → List Cp
  | _, [] => []
  | i, a :: l => if h : i < 4 ∧ 0 < a ∧ a < 65536 then ⟨(i / 2, a), by simp only; omega, h.2⟩ :: cpsFrom (i + 1) l else cpsFrom (i + 1) l
theorem cpsFrom_val : ∀ (l : List Nat) (i : Nat), i + l.length ≤ 4 → (∀ x ∈ l, x < 65536) → (cpsFrom i l).map (·.1) = copiesFrom i l
  | [], _, _, _ => rfl
  | a :: l, i, hi, hx => by
    have ha := hx a (by simp)
    have ih := cpsFrom_val l (i + 1) (by simp at hi; omega) (fun x h => hx x (by simp [h]))
    simp only [List.length_cons] at hi
    by_cases h : a = 0
    · simp [cpsFrom, copiesFrom, h, ih]
    · have h2 : i < 4 ∧ 0 < a ∧ a < 65536 := ⟨by omega, by omega, ha⟩
      simp [cpsFrom, copiesFrom, h, h2, ih]
theorem cpsFrom_append : ∀ (l m : List Nat) (i : Nat), cpsFrom i (l ++ m) = cpsFrom i l ++ cpsFrom (i + l.length) m
  | [], m, i => by simp [cpsFrom]
  | a :: l, m, i => by
    have ih := cpsFrom_append l m (i + 1)
    simp only [List.cons_append, cpsFrom, List.length_cons]
    rw [ih, show i + 1 + l.length = i + (l.length + 1) by omega]
    split <;> simp
def cps (p : Pt) : List Cp := cpsFrom 0 p.ats
theorem cps_val {p : Pt} (hp : p.OK) : (cps p).map (·.1) = copiesP p := cpsFrom_val _ _ (by rw [hp.len]; omega) hp.ats
/-- What has come when k places have been looked at. -/
def upto (p : Pt) (k : Nat) : List Cp := cpsFrom 0 (p.ats.take k)
theorem upto_all {p : Pt} (hp : p.OK) : upto p 4 = cps p := by unfold upto cps; rw [List.take_of_length_le (by rw [hp.len]; omega)]
theorem upto_step {p : Pt} (hp : p.OK) {k a : Nat} (ha : p.ats[k]? = some a) : upto p (k + 1) = upto p k ++ cpsFrom k [a] := by
  have hk := (List.getElem?_eq_some_iff.1 ha).1
  have h2 : p.ats[k] = a := (List.getElem?_eq_some_iff.1 ha).2
  unfold upto
  rw [List.take_succ_eq_append_getElem hk, h2, cpsFrom_append]
  congr 2
  simp
  omega
theorem upto_skip {p : Pt} (hp : p.OK) {k : Nat} (ha : p.ats[k]? = some 0) : upto p (k + 1) = upto p k := by
  rw [upto_step hp ha]; simp [cpsFrom]
theorem upto_prefix {p : Pt} (hp : p.OK) (k : Nat) : upto p k <+: cps p := by
  refine ⟨cpsFrom (0 + (p.ats.take k).length) (p.ats.drop k), ?_⟩
  unfold upto cps
  rw [← cpsFrom_append, List.take_append_drop]
theorem cpsFrom_length : ∀ (l : List Nat) (i : Nat), (cpsFrom i l).length ≤ l.length
  | [], _ => by simp [cpsFrom]
  | a :: l, i => by
    have ih := cpsFrom_length l (i + 1)
    unfold cpsFrom
    split <;> simp <;> omega
theorem upto_length (p : Pt) (k : Nat) : (upto p k).length ≤ k := Nat.le_trans (cpsFrom_length _ _) (by simp; omega)
theorem index_ats (p : Pt) {k a : Nat} (ha : p.ats[k]? = some a) (hk : k < 4) (W : World) : (Instr.index 26 (.agg (p.ats.map U16).toArray) (.int .i64 (k : Int))).run Tryd.prog W = .ok (.int .u16 (a : Int)) W :=
  run_index_cells 26 22 4 _ k _ W Tryd.underlying26 Tryd.underlying22 hk sizeU16 (by simp [ha, U16])
theorem copies_any (p : Pt) (w : World) : Calls Tryd.prog 59 #[.agg (pcells p).toArray] w fun e w' => e = .returned (.func (.func 66) #[] #[.pointer (some ⟨w.heap.size, 0, none⟩)]) ∧ w' = w.alloc (.cells (pcells p).toArray 28) := by
  go_enter Tryd.func59, Tryd.ntmps59
  go_wp2
  go_ret
  exact ⟨rfl, rfl⟩
theorem run_equalIn_nilF {t : TypeId} (ht : ∃ a b c, Tryd.prog.underlying t = some (.func a b c)) (f : Fn) (ts xs : Array Value) (d : Nat) (W : World) : (Op.equalIn (d + 1) t (.func f ts xs) .nilFunc).run Tryd.prog W = .ok false W := by
  obtain ⟨a, b, c, ht⟩ := ht
  simp [Op.equalIn, run_underlying ht]
theorem run_nilF {t : TypeId} (ht : ∃ a b c, Tryd.prog.underlying t = some (.func a b c)) (f : Fn) (ts xs : Array Value) (W : World) : (binOp .eql t (.func f ts xs) .nilFunc).run Tryd.prog W = .ok (.bool false) W := by
  simp only [binOp]
  simp [Op.equal, Op.maxDepth, run_equalIn_nilF ht f ts xs 9999]
/-- No more than any world. -/
def NoKp (_ _ : World) : Prop := True
set_option maxRecDepth 100000 in
set_option maxHeartbeats 4000000 in
theorem copies1_in (F : Fence) (n : Nat) (h7 : F.fn 66) (hro : F.round = none) (hn : 1 ≤ n) (l B : Nat) (p : Pt) (hp : p.OK) (J Jx : List Cp → World → Prop)
    (hY : ∀ pre x W, J pre W → pre.length < 4 → YieldAt F (n - 1) Tryd.prog l (encC x) W fun e W' =>
      (e = .returned (.bool true) ∧ J (pre ++ [x]) W' ∧ NoKp W W') ∨ (e = .returned (.bool false) ∧ Jx (pre ++ [x]) W'))
    (W : World) (hB : Blk W B (pcells p) 28) (h0 : J [] W) :
    CallsIn F n Tryd.prog 66 #[.func (.yield l) #[] #[], .pointer (some ⟨B, 0, none⟩)] W fun e W' => (∃ v, e = .returned v) ∧ ((∃ ys, ys = cps p ∧ J ys W') ∨ (∃ pre, pre <+: cps p ∧ Jx pre W')) := by
  have hh := hp.hash
  have HP := Lib.hid hp
  obtain ⟨a0, a1, a2, a3, hats⟩ : ∃ a0 a1 a2 a3, p.ats = [a0, a1, a2, a3] := by
    have := hp.len
    match h : p.ats, this with
    | [a, b, c, d], _ => exact ⟨a, b, c, d, rfl⟩
  have c37 : W.cell? ⟨B, 37, none⟩ = some (.int .u16 (a0 : Int)) := cell_ats hB hh (k := 0) (by rw [hats]; rfl)
  have c38 : W.cell? ⟨B, 38, none⟩ = some (.int .u16 (a1 : Int)) := cell_ats hB hh (k := 1) (by rw [hats]; rfl)
  have c39 : W.cell? ⟨B, 39, none⟩ = some (.int .u16 (a2 : Int)) := cell_ats hB hh (k := 2) (by rw [hats]; rfl)
  have c40 : W.cell? ⟨B, 40, none⟩ = some (.int .u16 (a3 : Int)) := cell_ats hB hh (k := 3) (by rw [hats]; rfl)
  have HAT := Lib.hid hats
  clear hp hB hats hh
  refine callsIn_of_wp Tryd.func66 rfl h7 ?_ hro
  simp only [Tryd.ntmps66, List.size_toArray, List.length_cons, List.length_nil, Nat.reduceAdd, Nat.reduceSub, Array.replicate_succ, Array.replicate_zero, List.push_toArray, List.append_toArray, List.nil_append, List.cons_append]
  gi_wp2
  gi_loopw [7] (fun i wr => ∃ k : Nat, k ≤ 4 ∧ i = .int .i64 k ∧ J (upto p k) wr) (fun i _ => 4 - (intOf i).toNat)
  case atStart => exact ⟨0, Nat.zero_le _, rfl, h0⟩
  case round =>
    clear c37 c38 c39 c40
    obtain ⟨k, hk, rfl, hJs⟩ := hrel
    by_cases hlt : k < 4
    · obtain ⟨x, hx⟩ : ∃ x, p.ats[k]? = some x := ⟨_, List.getElem?_eq_getElem (by rw [HP.out.len]; exact hlt)⟩
      have hix : ∀ W : World, (Instr.index 26 (.agg #[.int .u16 (a0 : Int), .int .u16 (a1 : Int), .int .u16 (a2 : Int), .int .u16 (a3 : Int)]) (.int .i64 (k : Int))).run Tryd.prog W = .ok (.int .u16 (x : Int)) W := fun W => by
        have := index_ats p hx hlt W
        rw [HAT.out] at this
        exact this
      have hxl : x < 65536 := HP.out.ats x (List.mem_of_getElem? hx)
      have q : (k : Int) < 4 := by omega
      by_cases h00 : x = 0
      · subst h00
        have hJ2 : J (upto p (k + 1)) wr := by rw [upto_skip HP.out hx]; exact hJs
        have HX := Lib.hid hx
        clear hx
        gi_wp2
        go_roundw
        case rel => exact ⟨k + 1, by omega, by go_num, hJ2⟩
        case measure => simp [intOf]; omega
      · have hxz : ¬ (x : Int) = 0 := by omega
        obtain ⟨cp, hc1, hst⟩ : ∃ cp : Cp, cp.1 = (k / 2, x) ∧ upto p (k + 1) = upto p k ++ [cp] := by
          have hcp : k / 2 < 2 ∧ 0 < x ∧ x < 65536 := ⟨by omega, by omega, hxl⟩
          refine ⟨⟨(k / 2, x), hcp⟩, rfl, ?_⟩
          rw [upto_step HP.out hx]
          simp [cpsFrom, hlt, hcp.2]
        obtain ⟨fn, tmps, assign, body, hy, hR⟩ := hY _ cp wr hJs (by have := upto_length p k; omega)
        have he : encC cp = #[.int .i64 ((k : Int) / 2), .int .u16 (x : Int)] := by unfold encC; rw [hc1]; rfl
        rw [he] at hy
        have HX := Lib.hid hx
        have HST := Lib.hid hst
        clear hx hst he
        have hnf := fun W => run_nilF (t := 107) ⟨_, _, _, Tryd.underlying107⟩ (Fn.yield l) #[] #[] W
        gi_wp2
        refine hR.mono ?_
        rintro e W3 (⟨rfl, hJ3, _⟩ | ⟨rfl, hJx3⟩)
        · gi_wp2
          go_roundw
          case rel => exact ⟨k + 1, by omega, by go_num, by rw [HST.out]; exact hJ3⟩
          case measure => simp [intOf]; omega
        · gi_wp2
          refine bodyPost_ret (results_none rfl _ _ _) rfl ?_
          exact ⟨⟨_, rfl⟩, .inr ⟨_, by rw [← HST.out]; exact upto_prefix HP.out (k + 1), hJx3⟩⟩
    · obtain rfl : k = 4 := by omega
      gi_wp2
      go_end0
      exact ⟨⟨_, rfl⟩, .inl ⟨_, (upto_all HP.out), hJs⟩⟩
theorem copies_stops (F : Fence) (n : Nat) (h7 : F.fn 66) (hro : F.round = none) (hn : 1 ≤ n) (B : Nat) (p : Pt) (hp : p.OK) (w : World) (hB : Blk w B (pcells p) 28) :
    SeqStopsK F n Tryd.prog 66 #[.pointer (some ⟨B, 0, none⟩)] encC NoKp (fun ys => ys = cps p) (fun pre => pre <+: cps p) 4 w := fun l J Jx W hW _ _ hY h0 =>
  copies1_in F n h7 hro hn l B p hp J Jx hY W (hB.below hW hB.lt) h0
end Go.Proofs.YtecngehkdjmjmaaDoor
