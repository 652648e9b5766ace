/- Pointers, plain: their cells, their bytes; the pointer of bytes; whether one may be; its copies. -/
import Derived.Test.YtjgjohdeeeoeoaaGreatDoorM03
import Derived.Deep.MidRow
import Derived.Maps.AppendAt
import Derived.Stop.BytesEq
import Derived.ChangeKeysEq
import Derived.RangeFuncNested
import Derived.RangeFuncBound
import Derived.RangeFuncCalls
import Derived.RangeFuncLeaves
import Derived.Shelf.Abstract
import Derived.Shelf.RegionOpen
import Derived.OwnWalkIn
import Derived.TacticsInMore
import Derived.LoopNIn
import Derived.LoopIn
set_option linter.all false
namespace Go.Proofs.YtjgjohdeeeoeoaaGreatDoor
open Go.RowKit
variable {a b : List Nat} {cs : List Value} {B g k m n off : Nat} {e t ty : TypeId} {v : Value} {w' : World}
abbrev Bs := List (BitVec 8)
structure Pt where
 kind : Nat
 level : Nat
 obj : Nat
 off : Nat
 birth : Nat
 hash : Bs
 ats : List Nat
structure Pt.OK (p : Pt) : Prop where
 kind : p.kind < 256
 level : p.level < 256
 obj : p.obj < 65536
 off : p.off < 4294967296
 birth : p.birth < 18446744073709551616
 hash : p.hash.length = 32
 len : p.ats.length = 4
 ats : ∀ x ∈ p.ats, x < 65536
def U16 (x : Nat) : Value := .int .u16 (x : Int)
def i5 (p : Pt) : List Value := [.int .u8 (p.kind : Int), .int .u8 (p.level : Int), .int .u16 (p.obj : Int), .int .u32 (p.off : Int), .int .u64 (p.birth : Int)]
def a8 (p : Pt) : List Value := i5 p ++ (p.hash.map V8 ++ p.ats.map U16)
theorem aa {p : Pt} (h : p.OK) : (a8 p).length = 41 := by simp [a8, i5, h.hash, h.len]
def jl (l : List Nat) : Bs := l.flatMap fun x => leb x 2
theorem p6 : ∀ l : List Nat, (jl l).length = 2 * l.length
 | [] => rfl
 | x :: l => by
  have := p6 l;simp only [jl, List.flatMap_cons, List.length_append, aw, List.length_cons] at *;omega
theorem Ak (l : List Nat) (x : Nat) : jl (l ++ [x]) = jl l ++ leb x 2 := by simp [jl]
def iy (p : Pt) : Bs := leb p.kind 1 ++ leb p.level 1 ++ leb p.obj 2 ++ leb p.off 4 ++ leb p.birth 8
theorem dd (p : Pt) : (iy p).length = 16 := by simp [iy, aw]
def my (p : Pt) : Bs := iy p ++ p.hash ++ jl p.ats
theorem oc {p : Pt} (h : p.OK) : (my p).length = 56 := by simp [my, dd, h.hash, p6, h.len]
def g8 (p : Pt) : Bs := my p ++ List.replicate 8 0#8
theorem i4 {p : Pt} (h : p.OK) : (g8 p).length = 64 := by simp [g8, oc h]
def pt (l : Bs) : Pt := ⟨val (l.take 1), val ((l.drop 1).take 1), val ((l.drop 2).take 2), val ((l.drop 4).take 4), val ((l.drop 8).take 8), (l.drop 16).take 32, [val ((l.drop 48).take 2), val ((l.drop 50).take 2), val ((l.drop 52).take 2), val ((l.drop 54).take 2)]⟩
def zeroP : Pt := ⟨0, 0, 0, 0, 0, List.replicate 32 0#8, [0, 0, 0, 0]⟩
def jo (l : Bs) : Bool := (l.drop 56).all (· == 0#8)
theorem ak : zeroP.OK := ⟨by simp [zeroP], by simp [zeroP], by simp [zeroP], by simp [zeroP], by simp [zeroP], by simp [zeroP], by simp [zeroP], by simp [zeroP]⟩
theorem ej (l : Bs) (n : Nat) : val (l.take n) < 2 ^ (8 * n) := by
 have h := pc (l.take n);have h2 : (l.take n).length ≤ n := by simp; omega
 exact Nat.lt_of_lt_of_le h (Nat.pow_le_pow_right (by omega) (by omega))
theorem Uf {l : Bs} (h : 64 ≤ l.length) : (pt l).OK := by
 refine ⟨ej _ 1, ej _ 1, ej _ 2, ej _ 4, ej _ 8, by simp [pt]; omega, by simp [pt], fun x hx => ?_⟩;simp [pt] at hx;rcases hx with rfl | rfl | rfl | rfl <;> exact ej _ 2
theorem dt {l a b : Bs} (h : l.drop n = a ++ b) (ha : a.length = m) : l.drop (n + m) = b := by rw [← List.drop_drop, h, List.drop_left' ha]
theorem yr {p : Pt} (h : p.OK) : pt (g8 p) = p ∧ jo (g8 p) = true := by
 obtain ⟨a7, a5, a9, a8, a4, a6, ag⟩ := p;obtain ⟨k1, k2, k3, k4, k5, h2, h3, h4⟩ := h;simp only at k1 k2 k3 k4 k5 h2 h3 h4
 match ag, h3, h4 with
 | [a0, a1, a2, a3], _, h4 =>
  have b0 := h4 a0 (by simp);have b1 := h4 a1 (by simp);have b2 := h4 a2 (by simp);have b3 := h4 a3 (by simp);have v : ∀ n m, n < 2 ^ (8 * m) → val (leb n m) = n := fun n m hn => by rw [M7]; exact Nat.mod_eq_of_lt hn
  have L : ∀ n m, (leb n m).length = m := aw
  have e : g8 ⟨a7, a5, a9, a8, a4, a6, [a0, a1, a2, a3]⟩ = leb a7 1 ++ (leb a5 1 ++ (leb a9 2 ++ (leb a8 4 ++ (leb a4 8 ++ (a6 ++ (leb a0 2 ++ (leb a1 2 ++ (leb a2 2 ++ (leb a3 2 ++ List.replicate 8 0#8))))))))) := by
   simp [g8, my, iy, jl]
  have d1 : (g8 ⟨a7, a5, a9, a8, a4, a6, [a0, a1, a2, a3]⟩).drop 1 = leb a5 1 ++ (leb a9 2 ++ (leb a8 4 ++ (leb a4 8 ++ (a6 ++ (leb a0 2 ++ (leb a1 2 ++ (leb a2 2 ++ (leb a3 2 ++ List.replicate 8 0#8)))))))) := by
   rw [e, List.drop_left' (L _ _)]
  have d2 : (g8 ⟨a7, a5, a9, a8, a4, a6, [a0, a1, a2, a3]⟩).drop 2 = leb a9 2 ++ (leb a8 4 ++ (leb a4 8 ++ (a6 ++ (leb a0 2 ++ (leb a1 2 ++ (leb a2 2 ++ (leb a3 2 ++ List.replicate 8 0#8))))))) := dt (n := 1) (m := 1) d1 (L _ _);have d4 : (g8 ⟨a7, a5, a9, a8, a4, a6, [a0, a1, a2, a3]⟩).drop 4 = leb a8 4 ++ (leb a4 8 ++ (a6 ++ (leb a0 2 ++ (leb a1 2 ++ (leb a2 2 ++ (leb a3 2 ++ List.replicate 8 0#8)))))) := dt (n := 2) (m := 2) d2 (L _ _);have d8 : (g8 ⟨a7, a5, a9, a8, a4, a6, [a0, a1, a2, a3]⟩).drop 8 = leb a4 8 ++ (a6 ++ (leb a0 2 ++ (leb a1 2 ++ (leb a2 2 ++ (leb a3 2 ++ List.replicate 8 0#8))))) := dt (n := 4) (m := 4) d4 (L _ _);have aa : (g8 ⟨a7, a5, a9, a8, a4, a6, [a0, a1, a2, a3]⟩).drop 16 = a6 ++ (leb a0 2 ++ (leb a1 2 ++ (leb a2 2 ++ (leb a3 2 ++ List.replicate 8 0#8)))) := dt (n := 8) (m := 8) d8 (L _ _);have ab : (g8 ⟨a7, a5, a9, a8, a4, a6, [a0, a1, a2, a3]⟩).drop 48 = leb a0 2 ++ (leb a1 2 ++ (leb a2 2 ++ (leb a3 2 ++ List.replicate 8 0#8))) := dt (n := 16) (m := 32) aa h2;have ad : (g8 ⟨a7, a5, a9, a8, a4, a6, [a0, a1, a2, a3]⟩).drop 50 = leb a1 2 ++ (leb a2 2 ++ (leb a3 2 ++ List.replicate 8 0#8)) := dt (n := 48) (m := 2) ab (L _ _);have ae : (g8 ⟨a7, a5, a9, a8, a4, a6, [a0, a1, a2, a3]⟩).drop 52 = leb a2 2 ++ (leb a3 2 ++ List.replicate 8 0#8) := dt (n := 50) (m := 2) ad (L _ _);have af : (g8 ⟨a7, a5, a9, a8, a4, a6, [a0, a1, a2, a3]⟩).drop 54 = leb a3 2 ++ List.replicate 8 0#8 := dt (n := 52) (m := 2) ae (L _ _);have ah : (g8 ⟨a7, a5, a9, a8, a4, a6, [a0, a1, a2, a3]⟩).drop 56 = List.replicate 8 0#8 := dt (n := 54) (m := 2) af (L _ _);constructor
  ·unfold pt
   rw [d1, d2, d4, d8, aa, ab, ad, ae, af, e];simp only [List.take_left' (L _ _), List.take_left' h2];rw [v a7 1 k1, v a5 1 k2, v a9 2 k3, v a8 4 k4, v a4 8 k5, v a0 2 b0, v a1 2 b1, v a2 2 b2, v a3 2 b3]
  ·unfold jo
   rw [ah];rfl
def ly (k : Nat) : Nat := if k < 1 ∨ 5 < k then 0 else if k = 1 then 1 else 2
def wi (k : Nat) : Nat := if k = 3 then 1 else 0
def nh (k : Nat) : Nat := if k = 3 then 2 else 0
def eo : Nat → List Nat → List (Nat × Nat)
 | _, [] => []
 | i, a :: l => if a = 0 then eo (i + 1) l else (i / 2, a) :: eo (i + 1) l
def ri (p : Pt) : List (Nat × Nat) := eo 0 p.ats
def mh : List (Nat × Nat) → Bool × Nat × Nat → Option (Bool × Nat × Nat)
 | [], s => some s
 | (d, a) :: r, (_, x, y) => if a = (if d = 0 then x else y) then none else mh r (if d = 0 then (true, a, y) else (true, x, a))
def k7 (p : Pt) : Bool := match mh (ri p) (false, 0, 0) with
 | none => false
 | some s => s.1
theorem kh : ∀ (l m : List (Nat × Nat)) (s : Bool × Nat × Nat), mh (l ++ m) s = (mh l s).bind (mh m)
 | [], _, _ => rfl
 | (d, a) :: l, m, (f, x, y) => by
  by_cases hd : a = (if d = 0 then x else y)
  ·show (if _ then _ else _) = Option.bind (if _ then _ else _) _
   rw [if_pos hd, if_pos hd]; rfl
  ·show (if _ then _ else _) = Option.bind (if _ then _ else _) _
   rw [if_neg hd, if_neg hd]; exact kh l m _
def jg (p : Pt) : Bool := (List.range 4).all fun i => decide (p.ats.getD i 0 = 0 ∨ i % 2 < ly p.kind)
def fz (p : Pt) : Bool := decide (wi p.kind ≤ p.level ∧ p.level ≤ nh p.kind) && jg p && k7 p
def un (p : Pt) : Bool :=
 if p.kind < 1 ∨ 5 < p.kind then false
 else if (p.kind = 3 ∧ (p.level < 1 ∨ 2 < p.level)) ∨ (p.kind ≠ 3 ∧ p.level ≠ 0) then false
 else if p.ats = [0, 0, 0, 0] then false
 else if (p.ats.getD 0 0 ≠ 0 ∧ p.ats.getD 0 0 = p.ats.getD 1 0) ∨ (p.ats.getD 2 0 ≠ 0 ∧ p.ats.getD 2 0 = p.ats.getD 3 0) then false
 else decide (p.kind ≠ 1 ∨ (p.ats.getD 1 0 = 0 ∧ p.ats.getD 3 0 = 0))
theorem Yb {p : Pt} (h : p.ats.length = 4) : fz p = un p := by
 obtain ⟨a1, a2, a5, a6, a3, a4, ats⟩ := p
 match ats, h with
 | [a, b, c, d], _ =>
  by_cases k0 : a1 < 1 ∨ 5 < a1
  ·simp only [un, if_pos k0]
   have hw : ly a1 = 0 := (by unfold ly; rw [if_pos k0]);by_cases hz : a = 0 ∧ b = 0 ∧ c = 0 ∧ d = 0
   ·obtain ⟨rfl, rfl, rfl, rfl⟩ := hz
    simp [fz, k7, ri, eo, mh]
   ·have : jg ⟨a1, a2, a5, a6, a3, a4, [a, b, c, d]⟩ = false := by
     simp only [jg, hw, List.range_succ, List.range_zero, List.nil_append, List.cons_append, List.all_cons, List.all_nil];simp;omega
    simp [fz, this]
  ·simp only [un, if_neg k0]
   by_cases k1 : (a1 = 3 ∧ (a2 < 1 ∨ 2 < a2)) ∨ (a1 ≠ 3 ∧ a2 ≠ 0)
   ·rw [if_pos k1]
    have : decide (wi a1 ≤ a2 ∧ a2 ≤ nh a1) = false := by
     apply decide_eq_false;unfold wi nh;split <;> omega
    simp [fz, this]
   ·rw [if_neg k1]
    have h1 : decide (wi a1 ≤ a2 ∧ a2 ≤ nh a1) = true := by
     apply decide_eq_true;unfold wi nh;split <;> omega
    have hw : ly a1 = if a1 = 1 then 1 else 2 := by unfold ly; rw [if_neg k0]
    have hp : jg ⟨a1, a2, a5, a6, a3, a4, [a, b, c, d]⟩ = decide (a1 ≠ 1 ∨ (b = 0 ∧ d = 0)) := by
     simp only [jg, hw, List.range_succ, List.range_zero, List.nil_append, List.cons_append, List.all_cons, List.all_nil];by_cases hk : a1 = 1
     ·simp [hk]
     ·simp [hk]
    have ha : k7 ⟨a1, a2, a5, a6, a3, a4, [a, b, c, d]⟩ = (!decide ([a, b, c, d] = [0, 0, 0, 0]) && !decide ((a ≠ 0 ∧ a = b) ∨ (c ≠ 0 ∧ c = d))) := by
     clear hp hw h1 k0 k1 h;simp only [k7, ri, eo, eq_comm (a := a) (b := b), eq_comm (a := c) (b := d)];by_cases a0 : a = 0 <;> by_cases b0 : b = 0 <;> by_cases c0 : c = 0 <;> by_cases d0 : d = 0 <;> by_cases ab : b = a <;> by_cases cd : d = c <;> simp_all [mh]
    simp only [fz, h1, hp, ha, Bool.true_and];by_cases z : [a, b, c, d] = [0, 0, 0, 0]
    ·simp [z]
    ·rw [if_neg z]
     simp only [List.getD_cons_zero, List.getD_cons_succ];by_cases y : (a ≠ 0 ∧ a = b) ∨ (c ≠ 0 ∧ c = d)
     ·rw [if_pos y]; simp [y]
     ·rw [if_neg y]; simp [y, z]
section
variable {ops : Array Oper} {Q : Exit → Act → World → Prop} {S : World → Prop}
theorem bm {i : Nat} {r : Tr} {a : Act} {w : World} (o : Oper) (hi : ops.toList[i]? = some o) (hw : Region.wanted o (yielded ops a.tmps) = true) (v : Value) (w1 : World) (hrun : (execOp a.eval o).run Tryz.prog w = .ok (.value v) w1)
  (S' : World → Prop) (hS : S' w1) (hSS : ∀ w, S' w → S w) (h : wpG Tryz.prog ops Q r S' (a.put o.dst v) w1) : wpG Tryz.prog ops Q (.step i r) S a w := by
 show wpOp Tryz.prog ops Q i _ a w;unfold wpOp;simp only [m6 hi];rw [if_pos hw];refine .inl ?_;unfold Oper.wp;rw [hrun];exact ⟨hSS _ hS, S', hSS, hS, h⟩
end
theorem a9 {ops : Array Oper} {rest : List Oper} {o : Oper} {a : Act} {Q : Exit → Act → World → Prop} {w : World} (hg : o.guard = none) (hrun : (execOp a.eval o).run Tryz.prog w = .ok (.value v) w')
  (hK : wpList Tryz.prog ops Q rest (a.put o.dst v) w') : wpList Tryz.prog ops Q (o :: rest) a w := by
 refine wpList_plain hg fun K' hK' => ?_
 unfold Oper.wp;rw [hrun];exact hK' _ _ hK
theorem c6 {ρ : Operand → Value} {o : Oper} {x : Operand} {b : Nat} {d : TypeDesc} {w : World} (ho : o.op = .load ty x) (hx : ρ x = .pointer (some ⟨b, off, none⟩)) (hc : w.rangeAt b off cs) (hu : Tryz.prog.underlying ty = some d) (hd : d.isRow = true) (hi : (Tryz.prog.info? ty).map (·.size) = some cs.length) : (execOp ρ o).run Tryz.prog w = .ok (.value (.agg cs.toArray)) w := by
 have hr := run_loadAt_mid (P := Tryz.prog) w b off ty cs d hc hu hd hi;unfold execOp;simp only [ho, hx];simp only [Sem.run_bind, hr, Result.andThen_ok, Sem.run_pure]
theorem dw : (Tryz.prog.info? 28).map (·.size) = some 41 := by kernel_rfl
theorem js : (Tryz.prog.info? 26).map (·.size) = some 4 := by kernel_rfl
theorem p5 : (Tryz.prog.info? 25).map (·.size) = some 32 := by kernel_rfl
theorem M2 : (Tryz.prog.info? 23).map (·.size) = some 1 := by kernel_rfl
theorem vk : (Tryz.prog.info? 158).map (·.size) = some 3 := by kernel_rfl
theorem Cn {ρ : Operand → Value} {o : Oper} {x : Operand} {w : World} (j k : Nat) (hj : (j = 0 ∧ k = 0) ∨ (j = 1 ∧ k = 1) ∨ (j = 2 ∧ k = 2) ∨ (j = 3 ∧ k = 3) ∨ (j = 4 ∧ k = 4) ∨ (j = 5 ∧ k = 5) ∨ (j = 6 ∧ k = 37)) (ho : o.op = .fieldAddr 28 x j) (hx : ρ x = .pointer (some ⟨g, 0, none⟩)) : (execOp ρ o).run Tryz.prog w = .ok (.value (.pointer (some ⟨g, k, none⟩))) w := by
 unfold execOp;simp only [ho];rcases hj with ⟨rfl, rfl⟩ | ⟨rfl, rfl⟩ | ⟨rfl, rfl⟩ | ⟨rfl, rfl⟩ | ⟨rfl, rfl⟩ | ⟨rfl, rfl⟩ | ⟨rfl, rfl⟩ <;> go_simp
theorem Bg {k : IntKind} (h : Tryz.prog.underlying t = some (.int k)) (W : World) : (isAgg t).run Tryz.prog W = .ok false W := by
 unfold isAgg;rw [Sem.run_bind, run_underlying h W]; rfl
theorem N0 (h : Tryz.prog.underlying t = some (.array n e)) (W : World) : (isAgg t).run Tryz.prog W = .ok true W := by
 unfold isAgg;rw [Sem.run_bind, run_underlying h W]; rfl
theorem az {ρ : Operand → Value} {o : Oper} {x : Operand} {ad : Addr} {w : World} {k : IntKind} (hu : Tryz.prog.underlying ty = some (.int k)) (ho : o.op = .load ty x) (hx : ρ x = .pointer (some ad)) (hc : w.cell? ad = some v) : (execOp ρ o).run Tryz.prog w = .ok (.value v) w := by
 have h := Bg hu w;unfold execOp;simp only [ho];go_simp
theorem Sa {ρ : Operand → Value} {o : Oper} {x : Operand} {b : Nat} {w : World} (ho : o.op = .slice 25 x none none none) (hx : ρ x = .pointer (some ⟨b, 5, none⟩)) : (execOp ρ o).run Tryz.prog w = .ok (.value (.slice (some ⟨b, 5, none⟩) 32 32)) w := by
 unfold execOp;simp only [ho];go_simp
theorem ia {ρ : Operand → Value} {o : Oper} {x y : Operand} {u v' : Value} {w : World} (ho : o.op = .call { callee := .builtin .append, args := #[x, y], argTypes := #[29, 29] }) (hx : ρ x = v) (hy : ρ y = u)
  (hr : (Builtin.append_ #[29, 29] o.type #[v, u]).run Tryz.prog w = .ok v' w') : (execOp ρ o).run Tryz.prog w = .ok (.value v') w' := by
 unfold execOp;simp only [ho, resolve, invoke, builtin, Sem.run_bind, Sem.run_pure, Result.andThen_ok, List.map_toArray, List.map_cons, List.map_nil, hx, hy, hr]
theorem Fg {w : World} {l m : Bs} (h : OwnB w B v l) (hB : B ≤ w.heap.size) (hl : l.length + m.length ≤ 1000000) {c : Nat} (hsrc : w.rangeAt g off (m.map V8)) (ty : TypeId) :
  ∃ v' w', (Builtin.append_ #[29, 29] ty #[v, .slice (some ⟨g, off, none⟩) m.length c]).run Tryz.prog w = .ok v' w' ∧ OwnB w' B v' (l ++ m) ∧ Below B w w' := by
 obtain ⟨i0, hi, a0, a1, a2⟩ := info_parts po;obtain ⟨v', w', hr, h2, h3, _, h5⟩ := run_append_own_at (P := Tryz.prog) w B 29 ty 5 i0 (.int .u8 0) 1 1 Tryz.underlying29 hi a0 a1 a2 rfl (by decide) v l.length (l.map V8) h ⟨g, off, none⟩ m.length c (m.map V8) (by simp) (fun j u hj => by rw [Addr.add_mid]; exact hsrc j u hj) (lp m) (by unfold maxLen; omega) (by omega) hB;refine ⟨v', w', hr, ?_, (Below.refl _ _).grown h3 hB (fun k hk => (h.lt k hk).1)⟩;unfold OwnB;rw [List.map_append, List.length_append];exact h2
theorem Blk.rng {w : World} (h : Blk w g cs t) (A M Z : List Value) (e : cs = A ++ (M ++ Z)) : w.rangeAt g A.length M := h.range _ _ fun j v hv => by
 subst e;have hj := (List.getElem?_eq_some_iff.1 hv).1;rw [List.getElem?_append_right (by omega), List.getElem?_append_left (by omega)];rw [show A.length + j - A.length = j by omega];exact hv
theorem Fs {w : World} {p : Pt} (h : Blk w g (a8 p) t) : w.rangeAt g 5 (p.hash.map V8) := h.rng (i5 p) (p.hash.map V8) (p.ats.map U16) rfl
theorem yt {w : World} {p : Pt} (h : Blk w g (a8 p) t) (hp : p.hash.length = 32) : w.rangeAt g 37 (p.ats.map U16) := by
 have := h.rng (i5 p ++ p.hash.map V8) (p.ats.map U16) [] (by simp [a8]);simpa [hp, i5] using this
theorem d9 {w : World} (h : Blk w g cs t) : w.rangeAt g 0 cs := h.range _ _ fun j v hv => by simpa using hv
theorem Mi {w : World} {p : Pt} (h : Blk w g (a8 p) t) {x : BitVec 8} (hx : p.hash[k]? = some x) : w.cell? ⟨g, 5 + k, none⟩ = some (V8 x) := Fs h k (V8 x) (by simp [hx])
theorem im {w : World} {p : Pt} (h : Blk w g (a8 p) t) (hp : p.hash.length = 32) {x : Nat} (hx : p.ats[k]? = some x) : w.cell? ⟨g, 37 + k, none⟩ = some (.int .u16 (x : Int)) := yt h hp k (.int .u16 (x : Int)) (by simp [hx, U16])
/-! Equality. -/
theorem fi (d : Nat) (xs ys : Array Value) (W : World) (B : TypeId × Nat → Bool) : ∀ fs : List Field, (∀ f ∈ fs, f.name ≠ "_" ∧ ∃ x y, (Go.part f.type xs f.offset).run Tryz.prog W = .ok x W ∧ (Go.part f.type ys f.offset).run Tryz.prog W = .ok y W ∧ (Op.equalIn d f.type x y).run Tryz.prog W = .ok (B (f.type, f.offset)) W) →
  (Op.eqFields d xs ys fs).run Tryz.prog W = .ok ((fs.map fun f => (f.type, f.offset)).all B) W
 | [], _ => by simp [Op.eqFields]
 | f :: fs, h => by
  obtain ⟨hn, x, y, h1, h2, h3⟩ := h f (by simp);have ih := fi d xs ys W B fs (fun g hg => h g (by simp [hg]));unfold Op.eqFields;rw [if_pos hn];simp only [Sem.run_bind, h1, h2, h3, Result.andThen_ok];cases hB : B (f.type, f.offset)
  ·simp [hB]
  ·simpa [hB] using ih
theorem m0 (d : Nat) (e : TypeId) (k : Nat) (xs ys : Array Value) (W : World) (B : Nat → Bool) : ∀ is : List Nat, (∀ i ∈ is, ∃ x y, (Go.part e xs (i * k)).run Tryz.prog W = .ok x W ∧ (Go.part e ys (i * k)).run Tryz.prog W = .ok y W ∧ (Op.equalIn d e x y).run Tryz.prog W = .ok (B i) W) →
  (Op.eqItems d e k xs ys is).run Tryz.prog W = .ok (is.all B) W
 | [], _ => by simp [Op.eqItems]
 | i :: is, h => by
  obtain ⟨x, y, h1, h2, h3⟩ := h i (by simp);have ih := m0 d e k xs ys W B is (fun g hg => h g (by simp [hg]));unfold Op.eqItems;simp only [Sem.run_bind, h1, h2, h3, Result.andThen_ok];cases hB : B i
  ·simp [hB]
  ·simpa [hB] using ih
theorem ay {k : IntKind} (h : Tryz.prog.underlying t = some (.int k)) {xs : Array Value} (hv : xs[off]? = some v) (W : World) : (Go.part t xs off).run Tryz.prog W = .ok v W := by
 unfold Go.part;simp only [Sem.run_bind, Bg h W, Result.andThen_ok, hv];rfl
theorem fq (h : Tryz.prog.underlying t = some (.array n e)) (hs : (Tryz.prog.info? t).map (·.size) = some m) (xs : Array Value) (off : Nat) (W : World) : (Go.part t xs off).run Tryz.prog W = .ok (.agg (xs.extract off (off + m))) W := by
 obtain ⟨i, h1, h2⟩ := Option.map_eq_some_iff.1 hs;have a0 : (sizeOf t).run Tryz.prog W = .ok m W := by simp [sizeOf, typeInfo, h1, h2]
 unfold Go.part;simp only [Sem.run_bind, N0 h W, Result.andThen_ok, a0, if_true];rfl
theorem nc {p : Pt} (hp : p.OK) : (a8 p).toArray.extract 5 (5 + 32) = (p.hash.map V8).toArray := by
 apply Array.toList_inj.1;have hh := hp.hash;simp [a8, i5, List.extract];rw [List.take_append_of_le_length (by simp [hh])];exact List.take_of_length_le (by simp [hh])
theorem ry {p : Pt} (hp : p.OK) : (a8 p).toArray.extract 37 (37 + 4) = (p.ats.map U16).toArray := by
 apply Array.toList_inj.1;have hh := hp.hash;have hl := hp.len;have e : a8 p = (i5 p ++ p.hash.map V8) ++ p.ats.map U16 := by simp [a8]
 rw [e];simp only [List.extract_toArray, List.extract];rw [List.drop_left' (by simp [hh, i5])];exact List.take_of_length_le (by simp [hl])
theorem nj : ∀ x y : Bs, x.map UInt8.ofBitVec = y.map UInt8.ofBitVec → x = y
 | [], [], _ => rfl
 | [], _ :: _, h => by simp at h
 | _ :: _, [], h => by simp at h
 | u :: x, v :: y, h => by
  simp only [List.map_cons, List.cons.injEq] at h;have h1 : u = v := (by have := congrArg UInt8.toBitVec h.1; simpa using this);rw [h1, nj x y h.2]
theorem Cj {a b : Bs} (ha : a.length = 32) (hb : b.length = 32) (d : Nat) (W : World) : (Op.equalIn (d + 2) 25 (.agg (a.map V8).toArray) (.agg (b.map V8).toArray)).run Tryz.prog W = .ok (decide (a = b)) W := by
 have h := run_equalIn_bytes (P := Tryz.prog) W d 25 5 32 Tryz.underlying25 Tryz.underlying5 Dn (a.map UInt8.ofBitVec) (b.map UInt8.ofBitVec) (by simpa using ha) (by simpa using hb)
 have e : ∀ l : Bs, (l.map UInt8.ofBitVec).map Extern.Stop.cell = l.map V8 := fun l => by
  rw [List.map_map]; rfl
 rw [e, e] at h;rw [h];refine congrArg (fun b => Result.ok b W) ?_;by_cases hab : a = b
 ·subst hab; simp
 ·rw [decide_eq_false hab]
  rw [beq_eq_false_iff_ne];exact fun e => hab (nj a b e)
theorem Wi (ha : a.length = 4) (hb : b.length = 4) : ((List.range 4).all fun i => decide (a.getD i 0 = b.getD i 0)) = decide (a = b) := by
 match a, ha, b, hb with
 | [a0, a1, a2, a3], _, [b0, b1, b2, b3], _ =>
  simp [List.range_succ]
theorem Ci (ha : a.length = 4) (hb : b.length = 4) (d : Nat) (W : World) : (Op.equalIn (d + 2) 26 (.agg (a.map U16).toArray) (.agg (b.map U16).toArray)).run Tryz.prog W = .ok (decide (a = b)) W := by
 obtain ⟨i, h1, h2⟩ := Option.map_eq_some_iff.1 M2;rw [run_equalIn_array W (d + 1) _ _ Tryz.underlying26 h1, ← Wi ha hb];refine m0 _ _ _ _ _ W _ _ (fun j hj => ?_);have a0 : j < 4 := List.mem_range.1 hj;have hc : Tryz.prog.cellsOf 23 = 1 := by kernel_rfl
 refine ⟨U16 (a.getD j 0), U16 (b.getD j 0), ay Tryz.underlying23 (by rw [hc, Nat.mul_one]; simp [ha, a0, List.getD_eq_getElem?_getD]) W, ay Tryz.underlying23 (by rw [hc, Nat.mul_one]; simp [hb, a0, List.getD_eq_getElem?_getD]) W, ?_⟩;unfold U16;rw [run_equalIn_int W d 23 .u16 .u16 _ _ Tryz.underlying23];refine congrArg (fun b => Result.ok b W) ?_;rw [Bool.eq_iff_iff];simp;omega
theorem rz : (Tryz.prog.fieldsOf 28).toList.map (fun f => (f.type, f.offset)) = [(5, 0), (5, 1), (23, 2), (24, 3), (22, 4), (25, 5), (26, 37)] := by kernel_rfl
theorem Ia : ((Tryz.prog.fieldsOf 28).toList.all fun f => f.name != "_") = true := by kernel_rfl
def Mq (p q : Pt) (f : TypeId × Nat) : Bool :=
 if f.2 = 0 then decide (p.kind = q.kind) else if f.2 = 1 then decide (p.level = q.level) else if f.2 = 2 then decide (p.obj = q.obj) else if f.2 = 3 then decide (p.off = q.off) else if f.2 = 4 then decide (p.birth = q.birth) else if f.2 = 5 then decide (p.hash = q.hash) else decide (p.ats = q.ats)
def eqP (p q : Pt) : Bool := decide (p.kind = q.kind) && decide (p.level = q.level) && decide (p.obj = q.obj) && decide (p.off = q.off) && decide (p.birth = q.birth) && decide (p.hash = q.hash) && decide (p.ats = q.ats)
theorem rj {p q : Pt} : eqP p q = true ↔ p = q := by
 obtain ⟨a1, a2, a3, a4, a5, a6, a7⟩ := p;obtain ⟨b1, b2, b3, b4, b5, b6, b7⟩ := q;simp [eqP, and_assoc]
theorem br (p : Pt) : eqP p p = true := rj.2 rfl
theorem Lv {p q : Pt} (hp : p.OK) (hq : q.OK) (W : World) : (Op.equalIn 10000 28 (.agg (a8 p).toArray) (.agg (a8 q).toArray)).run Tryz.prog W = .ok (eqP p q) W := by
 rw [run_equalIn_struct W 9999 28 _ _ (by kernel_rfl) (by kernel_rfl)]
 have e : eqP p q = (((Tryz.prog.fieldsOf 28).toList.map fun f => (f.type, f.offset)).all (Mq p q)) := by
  rw [rz];simp [Mq, eqP, Bool.and_assoc]
 rw [e];refine fi _ _ _ W _ _ (fun f hm => ⟨?_, ?_⟩)
 ·have := List.all_eq_true.1 Ia f hm
  simpa using this
 have h1 : (f.type, f.offset) ∈ (Tryz.prog.fieldsOf 28).toList.map (fun f => (f.type, f.offset)) := List.mem_map.2 ⟨f, hm, rfl⟩;rw [rz] at h1;simp only [List.mem_cons, Prod.mk.injEq, List.not_mem_nil, or_false] at h1
 have hi : ∀ (t : TypeId) (k : IntKind) (a b : Nat), Tryz.prog.underlying t = some (.int k) → (Op.equalIn 9999 t (.int k (a : Int)) (.int k (b : Int))).run Tryz.prog W = .ok (decide (a = b)) W := fun t k a b ht => by
  rw [run_equalIn_int W 9998 t k k _ _ ht];refine congrArg (fun b => Result.ok b W) ?_;rw [Bool.eq_iff_iff];simp;omega
 rcases h1 with ⟨e1, e2⟩ | ⟨e1, e2⟩ | ⟨e1, e2⟩ | ⟨e1, e2⟩ | ⟨e1, e2⟩ | ⟨e1, e2⟩ | ⟨e1, e2⟩ <;> rw [e1, e2]
 ·exact ⟨_, _, ay Tryz.underlying5 (v := .int .u8 (p.kind : Int)) rfl W, ay Tryz.underlying5 (v := .int .u8 (q.kind : Int)) rfl W, hi _ _ _ _ Tryz.underlying5⟩
 ·exact ⟨_, _, ay Tryz.underlying5 (v := .int .u8 (p.level : Int)) rfl W, ay Tryz.underlying5 (v := .int .u8 (q.level : Int)) rfl W, hi _ _ _ _ Tryz.underlying5⟩
 ·exact ⟨_, _, ay Tryz.underlying23 (v := .int .u16 (p.obj : Int)) rfl W, ay Tryz.underlying23 (v := .int .u16 (q.obj : Int)) rfl W, hi _ _ _ _ Tryz.underlying23⟩
 ·exact ⟨_, _, ay Tryz.underlying24 (v := .int .u32 (p.off : Int)) rfl W, ay Tryz.underlying24 (v := .int .u32 (q.off : Int)) rfl W, hi _ _ _ _ Tryz.underlying24⟩
 ·exact ⟨_, _, ay Tryz.underlying22 (v := .int .u64 (p.birth : Int)) rfl W, ay Tryz.underlying22 (v := .int .u64 (q.birth : Int)) rfl W, hi _ _ _ _ Tryz.underlying22⟩
 ·refine ⟨_, _, fq Tryz.underlying25 p5 _ _ W, fq Tryz.underlying25 p5 _ _ W, ?_⟩
  rw [nc hp, nc hq];exact Cj hp.hash hq.hash 9997 W
 ·refine ⟨_, _, fq Tryz.underlying26 js _ _ W, fq Tryz.underlying26 js _ _ W, ?_⟩
  rw [ry hp, ry hq];exact Ci hp.len hq.len 9997 W
section
variable {ρ : Operand → Value} {o : Oper} {x y : Operand} {p q : Pt} {w : World}
theorem Hm (ho : o.op = .binOp .neq 28 x y 28) (hx : ρ x = .agg (a8 p).toArray) (hy : ρ y = .agg (a8 q).toArray) (hp : p.OK) (hq : q.OK) : (execOp ρ o).run Tryz.prog w = .ok (.value (.bool (!eqP p q))) w := by
 have h := Lv hp hq w;unfold execOp;have hg := run_eqGuard_agg (P := Tryz.prog) w .neq 28 x y (a8 p).toArray (a8 q).toArray (by kernel_rfl);simp only [ho, hx, hy, Sem.run_bind, hg, run_neq_struct, h, Result.andThen_ok, Sem.run_pure]
theorem tg (ho : o.op = .binOp .eql 28 x y 28) (hx : ρ x = .agg (a8 p).toArray) (hy : ρ y = .agg (a8 q).toArray) (hp : p.OK) (hq : q.OK) : (execOp ρ o).run Tryz.prog w = .ok (.value (.bool (eqP p q))) w := by
 have h := Lv hp hq w;unfold execOp;have hg := run_eqGuard_agg (P := Tryz.prog) w .eql 28 x y (a8 p).toArray (a8 q).toArray (by kernel_rfl);simp only [ho, hx, hy, Sem.run_bind, hg, run_eql_struct, h, Result.andThen_ok, Sem.run_pure]
theorem Ef (ho : o.op = .binOp .eql 26 x y 26) (hx : ρ x = .agg (a.map U16).toArray) (hy : ρ y = .agg (b.map U16).toArray) (ha : a.length = 4) (hb : b.length = 4) : (execOp ρ o).run Tryz.prog w = .ok (.value (.bool (decide (a = b)))) w := by
 have h := Ci ha hb 9998 w;unfold execOp;simp only [ho];go_simp
theorem bj (ho : o.op = .build 28 #[]) : (execOp ρ o).run Tryz.prog w = .ok (.value (.agg (a8 zeroP).toArray)) w := by
 have hr : (Instr.build 28 #[]).run Tryz.prog w = .ok (.agg (a8 zeroP).toArray) w := run_build w 28 _ _ (by kernel_rfl);unfold execOp;simp only [ho];simp only [List.map_toArray, List.map_nil, Sem.run_bind, hr, Result.andThen_ok, Sem.run_pure]
end
def rcell (k : Nat) : List Value := [.int .i64 (ly k : Int), .int .u8 (wi k : Int), .int .u8 (nh k : Int)]
def RTab (w : World) : Prop := ∃ t fr, w.heap[0]? = some (.cells ((List.range 6).flatMap rcell).toArray t fr)
theorem RTab.lt {w : World} (h : RTab w) : 0 < w.heap.size := by
 obtain ⟨t, fr, h⟩ := h;exact (Array.getElem?_eq_some_iff.1 h).1
theorem RTab.of_heap {w : World} (h : RTab w) (he : w'.heap[0]? = w.heap[0]?) : RTab w' := by
 obtain ⟨t, fr, h⟩ := h;exact ⟨t, fr, by rw [he]; exact h⟩
theorem RTab.below {w : World} (h : RTab w) (hb : Below B w w') (hB : w.heap.size ≤ B) : RTab w' := h.of_heap (hb.block 0 (Nat.lt_of_lt_of_le h.lt hB))
theorem RTab.grown {w : World} (h : RTab w) (hb : Below w.heap.size w w') : RTab w' := h.below hb (Nat.le_refl _)
theorem RTab.alloc {w : World} (h : RTab w) (o : Obj) : RTab (w.alloc o) := h.of_heap (Below.heap_alloc w o 0 h.lt)
theorem RTab.range {w : World} (h : RTab w) (hk : k < 6) : w.rangeAt 0 (k * 3) (rcell k) := by
 obtain ⟨t, fr, h⟩ := h;intro j v hv;rw [cell_of_row w 0 (k * 3 + j) _ t fr h]
 have hj : j < 3 := by
  have := (List.getElem?_eq_some_iff.1 hv).1;simpa [rcell] using this
 match k, hk with
 | 0, _ | 1, _ | 2, _ | 3, _ | 4, _ | 5, _ =>
  match j, hj with
  | 0, _ | 1, _ | 2, _ => exact hv
theorem Ff (k : Nat) : (rcell k).toArray.all (·.oneCell') = true := by simp [rcell, Value.oneCell']
theorem ar (w : World) (z : Array Value) (cs : List Value) (t : TypeId) : Blk ((w.alloc (.cells z t)).setRow w.heap.size cs.toArray) w.heap.size cs t ∧ Below w.heap.size w ((w.alloc (.cells z t)).setRow w.heap.size cs.toArray) :=
 ⟨Blk.row (Blk.new' w z z.toList t _ rfl (by simp)) _, cz ((Below.refl _ _).alloc (Nat.le_refl _) _) (Nat.le_refl _) _⟩
theorem Ir (h : ¬ k < 6) : rcell k = [.int .i64 0, .int .u8 0, .int .u8 0] := by
 unfold rcell ly wi nh;rw [if_pos (by omega), if_neg (by omega), if_neg (by omega)];rfl
set_option maxRecDepth 100000 in
theorem Ur (k : Nat) (hk : k < 256) (w : World) (hT : RTab w) : Calls Tryz.prog 84 #[.int .u8 (k : Int)] w fun e w' => e = .returned (.agg (rcell k).toArray) ∧ Below w.heap.size w w' := by
 have HT := zH hT;clear hT;have e1 := IntWalk.i64_in (k : Int) (by omega);obtain ⟨r, hr⟩ : ∃ r, rcell k = r := ⟨_, rfl⟩;have a1 : r.length = 3 := by rw [← hr]; rfl
 have a2 := zH a1;have a3 : Hid ((Tryz.prog.info? 158).map (·.size) = some r.toArray.size) := zH (by rw [vk]; simp [a1]);have a0 : Hid (r.toArray.all (·.oneCell') = true) := zH (by rw [← hr]; exact Ff k);have HB := zH (ar w #[.int .i64 0, .int .u8 0, .int .u8 0] r 158);go_enter Tryz.func84, Tryz.ntmps84;by_cases h6 : k < 6
 ·have HG : Hid ((w.alloc (.cells #[.int .i64 0, .int .u8 0, .int .u8 0] 158)).rangeAt 0 (k * 3) r) := zH (by rw [← hr]; exact (HT.out.alloc _).range h6)
  have a4 : (k : Int) < 6 := (by omega);rw [hr];clear hr a1
  go_wp2_with (first | (refine a9 rfl (c6 (ty := 158) (cs := r) (off := k * 3) rfl rfl HG.out Tryz.underlying158 rfl (by rw [vk, a2.out])) ?_) | (refine wpList_store_row rfl 158 (.tmp 2) (.tmp 8) rfl w.heap.size _ rfl rfl 158 _ (heap_alloc_new _ _) a3.out (by simp [a2.out]) a0.out ?_) | fail)
  exact bodyPost_ret (results_cell_row Tryz.results84 _ _ w.heap.size 158 _ _ _ rfl HB.out.1 Tryz.underlying158 rfl a3.out) rfl ⟨rfl, HB.out.2⟩
 ·have a4 : ¬ (k : Int) < 6 := by omega
  have h0 := Ir h6;rw [hr] at h0;rw [hr, h0];rw [h0] at HB;clear hr a1 h0 a2 a3 a0 h6
  go_wp2
  exact bodyPost_ret (results_cell_row Tryz.results84 _ _ w.heap.size 158 _ _ _ rfl (heap_alloc_new _ _) Tryz.underlying158 rfl vk) rfl ⟨rfl, (Below.refl _ _).alloc (Nat.le_refl _) _⟩
end Go.Proofs.YtjgjohdeeeoeoaaGreatDoor
namespace Go.Proofs.YtjgjohdeeeoeoaaGreatDoor
open Go.RowKit Go.Shelf
attribute [local go_sem] Oper.semAt_some
variable {a k : Nat} {p : Pt} {t : TypeId}
abbrev Cp := { x : Nat × Nat // x.1 < 2 ∧ 0 < x.2 ∧ x.2 < 65536 }
def Rj (x : Cp) : Array Value := #[.int .i64 (x.1.1 : Int), .int .u16 (x.1.2 : Int)]
def dm : Nat → List Nat → List Cp
 | _, [] => []
 | i, a :: l => if h : i < 4 ∧ 0 < a ∧ a < 65536 then ⟨(i / 2, a), by simp only; omega, h.2⟩ :: dm (i + 1) l else dm (i + 1) l
theorem xr : ∀ (l : List Nat) (i : Nat), i + l.length ≤ 4 → (∀ x ∈ l, x < 65536) → (dm i l).map (·.1) = eo i l
 | [], _, _, _ => rfl
 | a :: l, i, hi, hx => by
  have ha := hx a (by simp);have ih := xr l (i + 1) (by simp at hi; omega) (fun x h => hx x (by simp [h]));simp only [List.length_cons] at hi;by_cases h : a = 0
  ·simp [dm, eo, h, ih]
  ·have h2 : i < 4 ∧ 0 < a ∧ a < 65536 := ⟨by omega, by omega, ha⟩
   simp [dm, eo, h, h2, ih]
theorem l9 : ∀ (l m : List Nat) (i : Nat), dm i (l ++ m) = dm i l ++ dm (i + l.length) m
 | [], m, i => by simp [dm]
 | a :: l, m, i => by
  have ih := l9 l m (i + 1);simp only [List.cons_append, dm, List.length_cons];rw [ih, show i + 1 + l.length = i + (l.length + 1) by omega];split <;> simp
def cps (p : Pt) : List Cp := dm 0 p.ats
theorem K2 (hp : p.OK) : (cps p).map (·.1) = ri p := xr _ _ (by rw [hp.len]; omega) hp.ats
def vq (p : Pt) (k : Nat) : List Cp := dm 0 (p.ats.take k)
theorem Vv (hp : p.OK) : vq p 4 = cps p := by unfold vq cps; rw [List.take_of_length_le (by rw [hp.len]; omega)]
theorem Bz (hp : p.OK) (ha : p.ats[k]? = some a) : vq p (k + 1) = vq p k ++ dm k [a] := by
 have hk := (List.getElem?_eq_some_iff.1 ha).1;have h2 : p.ats[k] = a := (List.getElem?_eq_some_iff.1 ha).2;unfold vq;rw [List.take_succ_eq_append_getElem hk, h2, l9];congr 2;simp;omega
theorem Qf (hp : p.OK) (ha : p.ats[k]? = some 0) : vq p (k + 1) = vq p k := by
 rw [Bz hp ha]; simp [dm]
theorem Gl (hp : p.OK) (k : Nat) : vq p k <+: cps p := by
 refine ⟨dm (0 + (p.ats.take k).length) (p.ats.drop k), ?_⟩;unfold vq cps;rw [← l9, List.take_append_drop]
theorem qc : ∀ (l : List Nat) (i : Nat), (dm i l).length ≤ l.length
 | [], _ => by simp [dm]
 | a :: l, i => by
  have ih := qc l (i + 1);unfold dm;split <;> simp <;> omega
theorem Gk (p : Pt) (k : Nat) : (vq p k).length ≤ k := Nat.le_trans (qc _ _) (by simp; omega)
theorem we (p : Pt) (ha : p.ats[k]? = some a) (hk : k < 4) (W : World) : (Instr.index 26 (.agg (p.ats.map U16).toArray) (.int .i64 (k : Int))).run Tryz.prog W = .ok (.int .u16 (a : Int)) W :=
 yd 26 23 4 _ k _ W Tryz.underlying26 Tryz.underlying23 hk M2 (by simp [ha, U16])
theorem Hi (p : Pt) (w : World) : Calls Tryz.prog 106 #[.agg (a8 p).toArray] w fun e w' => e = .returned (.func (.func 121) #[] #[.pointer (some ⟨w.heap.size, 0, none⟩)]) ∧ w' = w.alloc (.cells (a8 p).toArray 28) := by
 go_enter Tryz.func106, Tryz.ntmps106
 go_wp2
 go_ret;exact ⟨rfl, rfl⟩
theorem wm (ht : ∃ a b c, Tryz.prog.underlying t = some (.func a b c)) (f : Fn) (ts xs : Array Value) (d : Nat) (W : World) : (Op.equalIn (d + 1) t (.func f ts xs) .nilFunc).run Tryz.prog W = .ok false W := by
 obtain ⟨a, b, c, ht⟩ := ht;simp [Op.equalIn, run_underlying ht]
theorem Ut (ht : ∃ a b c, Tryz.prog.underlying t = some (.func a b c)) (f : Fn) (ts xs : Array Value) (W : World) : (binOp .eql t (.func f ts xs) .nilFunc).run Tryz.prog W = .ok (.bool false) W := by
 simp only [binOp];simp [Op.equal, Op.maxDepth, wm ht f ts xs 9999]
def a1o (_ _ : World) : Prop := True
set_option maxRecDepth 100000 in
set_option maxHeartbeats 4000000 in
theorem Hh (F : Fence) (n : Nat) (h7 : F.fn 121) (hro : F.round = none) (hn : 1 ≤ n) (l B : Nat) (p : Pt) (hp : p.OK) (J Jx : List Cp → World → Prop)
  (hY : ∀ pre x W, J pre W → pre.length < 4 → YieldAt F (n - 1) Tryz.prog l (Rj x) W fun e W' =>
   (e = .returned (.bool true) ∧ J (pre ++ [x]) W' ∧ a1o W W') ∨ (e = .returned (.bool false) ∧ Jx (pre ++ [x]) W'))
  (W : World) (hB : Blk W B (a8 p) 28) (h0 : J [] W) :
  CallsIn F n Tryz.prog 121 #[.func (.yield l) #[] #[], .pointer (some ⟨B, 0, none⟩)] W fun e W' => (∃ v, e = .returned v) ∧ ((∃ ys, ys = cps p ∧ J ys W') ∨ (∃ pre, pre <+: cps p ∧ Jx pre W')) := by
 have hh := hp.hash;have HP := zH hp
 obtain ⟨a0, a1, a2, a3, a4⟩ : ∃ a0 a1 a2 a3, p.ats = [a0, a1, a2, a3] := by
  have := hp.len
  match h : p.ats, this with
  | [a, b, c, d], _ => exact ⟨a, b, c, d, rfl⟩
 have ae : W.cell? ⟨B, 37, none⟩ = some (.int .u16 (a0 : Int)) := im hB hh (k := 0) (by rw [a4]; rfl);have af : W.cell? ⟨B, 38, none⟩ = some (.int .u16 (a1 : Int)) := im hB hh (k := 1) (by rw [a4]; rfl);have ag : W.cell? ⟨B, 39, none⟩ = some (.int .u16 (a2 : Int)) := im hB hh (k := 2) (by rw [a4]; rfl);have ah : W.cell? ⟨B, 40, none⟩ = some (.int .u16 (a3 : Int)) := im hB hh (k := 3) (by rw [a4]; rfl);have ab := zH a4;clear hp hB a4 hh;refine callsIn_of_wp Tryz.func121 rfl h7 ?_ hro;simp only [Tryz.ntmps121, List.size_toArray, List.length_cons, List.length_nil, Nat.reduceAdd, Nat.reduceSub, Array.replicate_succ, Array.replicate_zero, List.push_toArray, List.append_toArray, List.nil_append, List.cons_append]
 gi_wp2
 gi_loopw [7] (fun i wr => ∃ k : Nat, k ≤ 4 ∧ i = .int .i64 k ∧ J (vq p k) wr) (fun i _ => 4 - (intOf i).toNat)
 case atStart => exact ⟨0, Nat.zero_le _, rfl, h0⟩
 case round =>
  clear ae af ag ah;obtain ⟨k, hk, rfl, a6⟩ := hrel;by_cases hlt : k < 4
  ·obtain ⟨x, hx⟩ : ∃ x, p.ats[k]? = some x := ⟨_, List.getElem?_eq_getElem (by rw [HP.out.len]; exact hlt)⟩
   have am : ∀ W : World, (Instr.index 26 (.agg #[.int .u16 (a0 : Int), .int .u16 (a1 : Int), .int .u16 (a2 : Int), .int .u16 (a3 : Int)]) (.int .i64 (k : Int))).run Tryz.prog W = .ok (.int .u16 (x : Int)) W := fun W => by
    have := we p hx hlt W;rw [ab.out] at this;exact this
   have ak : x < 65536 := HP.out.ats x (List.mem_of_getElem? hx);have q : (k : Int) < 4 := (by omega);by_cases h00 : x = 0
   ·subst h00
    have ai : J (vq p (k + 1)) wr := (by rw [Qf HP.out hx]; exact a6);have HX := zH hx;clear hx
    gi_wp2
    go_roundw
    case rel => exact ⟨k + 1, by omega, by go_num, ai⟩
    case measure => simp [intOf]; omega
   ·have ao : ¬ (x : Int) = 0 := by omega
    obtain ⟨cp, aj, aa⟩ : ∃ cp : Cp, cp.1 = (k / 2, x) ∧ vq p (k + 1) = vq p k ++ [cp] := by
     have a9 : k / 2 < 2 ∧ 0 < x ∧ x < 65536 := ⟨by omega, by omega, ak⟩;refine ⟨⟨(k / 2, x), a9⟩, rfl, ?_⟩;rw [Bz HP.out hx];simp [dm, hlt, a9.2]
    obtain ⟨fn, al, a5, ad, hy, hR⟩ := hY _ cp wr a6 (by have := Gk p k; omega);have he : Rj cp = #[.int .i64 ((k : Int) / 2), .int .u16 (x : Int)] := (by unfold Rj; rw [aj]; rfl);rw [he] at hy;have HX := zH hx;have a7 := zH aa;clear hx aa he;have an := fun W => Ut (t := 197) ⟨_, _, _, Tryz.underlying197⟩ (Fn.yield l) #[] #[] W
    gi_wp2
    refine hR.mono ?_;rintro e W3 (⟨rfl, hJ3, _⟩ | ⟨rfl, hJx3⟩)
    ·gi_wp2
     go_roundw
     case rel => exact ⟨k + 1, by omega, by go_num, by rw [a7.out]; exact hJ3⟩
     case measure => simp [intOf]; omega
    ·gi_wp2
     refine bodyPost_ret (results_none rfl _ _ _) rfl ?_;exact ⟨⟨_, rfl⟩, .inr ⟨_, by rw [← a7.out]; exact Gl HP.out (k + 1), hJx3⟩⟩
  ·obtain rfl : k = 4 := by omega
   gi_wp2
   go_end0;exact ⟨⟨_, rfl⟩, .inl ⟨_, (Vv HP.out), a6⟩⟩
theorem Cg (F : Fence) (n : Nat) (h7 : F.fn 121) (hro : F.round = none) (hn : 1 ≤ n) (B : Nat) (p : Pt) (hp : p.OK) (w : World) (hB : Blk w B (a8 p) 28) :
  SeqStopsK F n Tryz.prog 121 #[.pointer (some ⟨B, 0, none⟩)] Rj a1o (fun ys => ys = cps p) (fun pre => pre <+: cps p) 4 w := fun l J Jx W hW _ _ hY h0 =>
 Hh F n h7 hro hn l B p hp J Jx hY W (hB.below hW hB.lt) h0
end Go.Proofs.YtjgjohdeeeoeoaaGreatDoor
