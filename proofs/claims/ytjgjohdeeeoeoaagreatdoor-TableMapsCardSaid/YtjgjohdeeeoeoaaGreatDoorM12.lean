/- What turns of a shelf; its operations by their values; Old. -/
import Derived.Test.YtjgjohdeeeoeoaaGreatDoorM11
import Derived.Great.BuildSlice
set_option linter.all false
namespace Go.Proofs.YtjgjohdeeeoeoaaGreatDoor
open Go.RowKit
attribute [local go_sem] Oper.semAt_some
variable {a : Act} {ad : Addr} {l : List Pt} {cs : List Value} {b g i j k : Nat} {p : Pt} {t : TypeId} {u u' v3 : Value}
section
variable {w w' : World} {L L' : Nat → Nat} {D : Nat} {s s' : Sh} {v v' : Sv} {F : Nat → Prop}
def Qs (w : World) (L : Nat → Nat) (x : Value) (bs : List Bs) : Prop :=
 ∃ vs, M9 w x vs ∧ (∀ g, x.ownBlock = some g → L g = 2) ∧ vs.length = bs.length ∧ (∀ (i : Nat) (u : Value) (b : Bs), vs[i]? = some u → bs[i]? = some b → BkV w L u b) ∧ ∀ u ∈ vs, u.oneCell' = true
theorem eu {w : World} {B e n : Nat} {x : Value} {xs : List Value} (h : w.ownsRow B e k x n xs) (hg : x.ownBlock = some g) : g < w.heap.size := (h.lt g hg).2
theorem fp {x : Value} (h : OwnM w 0 x l ∧ ∀ g, x.ownBlock = some g → L g = i) (hc : Chg F w w') (hF : ∀ g, F g → L g ≠ i) (hL : ∀ g, g < w.heap.size → L' g = L g) : OwnM w' 0 x l ∧ ∀ g, x.ownBlock = some g → L' g = i :=
 ⟨bc h.1 hc (fun g hg hf => hF g hf (h.2 g hg)), fun g hg => (hL g (eu h.1 hg)).trans (h.2 g hg)⟩
theorem uy {x : Value} {bs : List Bs} (h : Qs w L x bs) (hc : Chg F w w') (hF : ∀ g, F g → L g ≠ 2 ∧ L g ≠ 10) (hL : ∀ g, g < w.heap.size → L' g = L g) (hlt : ∀ g, L g ≠ 0 → g < w.heap.size) : Qs w' L' x bs := by
 obtain ⟨vs, h1, h2, h3, h4, h5⟩ := h;exact ⟨vs, bc h1 hc (fun g hg hf => (hF g hf).1 (h2 g hg)), fun g hg => (hL g (eu h1 hg)).trans (h2 g hg), h3, fun i u b hu hb => (h4 i u b hu hb).chg hc (fun g hg => (hF g hg).2) hL hlt, h5⟩
theorem ShAt.step (h : ShAt w L D s v) (hc : Chg F w w') (hF : ∀ g, F g → L g ≠ 10) (hL : ∀ g, g < w.heap.size → L' g = L g) (hlt : ∀ g, L' g ≠ 0 → g < w'.heap.size) (hblk : Blk w' D (i6 v' s'.room) 50) (hrow : Qs w' L' v'.bl s'.blocks) (hbad : s'.bad = s.bad ∧ v'.bd = v.bd)
  (hmd : OwnM w' 0 v'.md s'.made ∧ ∀ g, v'.md.ownBlock = some g → L' g = 3) (hgn : OwnM w' 0 v'.gn s'.gone ∧ ∀ g, v'.gn.ownBlock = some g → L' g = 4) (hrd : OwnM w' 0 v'.rd s'.read0 ∧ ∀ g, v'.rd.ownBlock = some g → L' g = 5)
  (okm : ∀ q ∈ s'.made, q.OK) (okg : ∀ q ∈ s'.gone, q.OK) (okr : ∀ q ∈ s'.read0, q.OK) : ShAt w' L' D s' v' :=
 ⟨hblk, by rw [hL D h.blk.lt]; exact h.ld, hrow, by rw [hbad.1, hbad.2]; exact h.bad.chg hc hF hL, hmd, hgn, hrd, hlt, okm, okg, okr,
  ⟨h.tab.1.of_heap (hc.block _ h.tab.1.lt (fun hf => hF _ hf h.tab.2)), by rw [hL _ h.tab.1.lt]; exact h.tab.2⟩⟩
def gc (L : Nat → Nat) (u : Value) (j : Nat) : Nat → Nat := fun g => if u.ownBlock = some g then j else L g
theorem sw {L : Nat → Nat} (h : u.ownBlock = some g) : gc L u j g = j := if_pos h
theorem lu (hu : ∀ g, u.ownBlock = some g → L g = j) (hn : ∀ g, u'.ownBlock = some g → u.ownBlock = some g ∨ w.heap.size ≤ g) (hg : g < w.heap.size) : gc L u' j g = L g := by
 unfold gc;split
 ·rename_i e
  rcases hn g e with h1 | h1
  ·exact (hu g h1).symm
  ·omega
 ·rfl
theorem ve (h : ∀ g, L g ≠ 0 → g < w'.heap.size) (hu : ∀ g, u.ownBlock = some g → g < w'.heap.size) : ∀ g, gc L u j g ≠ 0 → g < w'.heap.size := fun g hg => by
 unfold gc at hg;split at hg
 ·rename_i e; exact hu g e
 ·exact h g hg
theorem Mv.app (h1 : 1 ≤ j) (hj : j ≤ k) (hk : 1 ≤ k) (hD : 1 ≤ L D ∧ L D ≤ k) (hu : ∀ g, u.ownBlock = some g → L g = j) (hn : ∀ g, u'.ownBlock = some g → u.ownBlock = some g ∨ w.heap.size ≤ g) (hlt : ∀ g, L g ≠ 0 → g < w.heap.size) (hc : Chg (fun g => g = D ∨ u.ownBlock = some g) w w') : Mv k L w (gc L u' j) w' :=
 ⟨hc.mono (fun g hg => by
  rcases hg with rfl | hg
  ·exact hD
  ·unfold kx; rw [hu g hg]; exact ⟨h1, hj⟩), fun g hg => lu hu hn hg, fun g hg => by
  unfold gc;split
  ·exact .inl hj
  ·left; have := hlt g; omega⟩
theorem Me {w w2 w3 : World} {D : Nat} (hw2 : Below w.heap.size w w2) (ho : OwnM w 0 u l) (hb : Blk w D cs t) (hg : w2.grownBy w3 u.ownBlock) (hnD : u.ownBlock ≠ some D) (hn : u'.ownBlock = u.ownBlock ∨ u'.ownBlock = some w2.heap.size) (ho3 : OwnM w3 0 u' (l ++ [p])) :
  Blk (w3.setCell ⟨D, k, none⟩ u') D (cs.set k u') t ∧ Chg (fun g => g = D ∨ u.ownBlock = some g) w (w3.setCell ⟨D, k, none⟩ u') ∧ OwnM (w3.setCell ⟨D, k, none⟩ u') 0 u' (l ++ [p]) ∧ (∀ g, u'.ownBlock = some g → u.ownBlock = some g ∨ w.heap.size ≤ g) ∧ ∀ g, u'.ownBlock = some g → g < (w3.setCell ⟨D, k, none⟩ u').heap.size := by
 have a3 : Chg (fun g => g = D ∨ u.ownBlock = some g) w w3 := (Chg.of_below hw2).grown hg (fun g hg => .inl (.inr hg));have a1 := hb.lt
 have a2 : Blk w3 D cs t := by
  refine hb.chg (((Chg.refl (fun g => u.ownBlock = some g) w).trans' (Chg.of_below hw2)).grown hg (fun g hg => .inl hg)) hnD
 have a0 : u'.ownBlock ≠ some D := by
  rcases hn with e | e
  ·rw [e]; exact hnD
  ·rw [e]; intro h; have := hw2.size; injection h; omega
 refine ⟨a2.set k u', a3.setCell (.inl (.inl rfl)) k u', ?_, fun g hg' => ?_, fun g hg' => ?_⟩
 ·exact bc ho3 (Hf w3 D k u') (fun g hg' e => a0 (by rw [← e]; exact hg'))
 ·rcases hn with e | e
  ·left; rw [← e]; exact hg'
  ·right; rw [e] at hg'; have := hw2.size; injection hg'; omega
 ·have := eu ho3 hg'
  simpa [World.setCell] using this
end
theorem vt {c : Code} {Q : Exit → Act → World → Prop} {w : World} (h : ∃ A W, c.wp Tryz.prog (fun e a w => e = .normal ∧ a = A ∧ w = W) a w ∧ Q .normal A W) : c.wp Tryz.prog Q a w := by
 obtain ⟨A, W, h1, h2⟩ := h;exact Code.wp_mono (fun e a w ⟨e1, e2, e3⟩ => by subst e1 e2 e3; exact h2) h1
section
variable {ops : Array Oper} {Q : Exit → Act → World → Prop} {S : World → Prop}
theorem pf {r : Tr} {w : World} (o : Oper) (hi : ops.toList[i]? = some o) (hw : Region.wanted o (yielded ops a.tmps) = true) (w1 : World) (hrun : (execOp a.eval o).run Tryz.prog w = .ok .skip w1)
  (S' : World → Prop) (hS : S' w1) (hS2 : ∀ w, S' w → S w) (h : wpG Tryz.prog ops Q r S' (a.put o.dst undef) w1) : wpG Tryz.prog ops Q (.step i r) S a w := by
 show wpOp Tryz.prog ops Q i _ a w;unfold wpOp;simp only [m6 hi];rw [if_pos hw];refine .inl ?_;unfold Oper.wp;rw [hrun];exact ⟨hS2 _ hS, S', hS2, hS, h⟩
end
section
variable {ρ : Operand → Value} {o : Oper} {x y : Operand} {w : World}
theorem mn (hj : j < 6) (ho : o.op = .fieldAddr 50 x j) (hx : ρ x = .pointer (some ⟨b, 0, none⟩)) : (execOp ρ o).run Tryz.prog w = .ok (.value (.pointer (some ⟨b, j, none⟩))) w := by
 unfold execOp;simp only [ho]
 match j, hj with
 | 0, _ | 1, _ | 2, _ | 3, _ | 4, _ | 5, _ => go_simp
theorem pj (ho : o.op = .nilCheck x) (hx : ρ x = .pointer (some ⟨b, j, none⟩)) : (execOp ρ o).run Tryz.prog w = .ok (.value (.pointer (some ⟨b, j, none⟩))) w := by
 unfold execOp;simp only [ho];go_simp
theorem ib {v : Value} (ho : o.op = .load 48 x) (hx : ρ x = .pointer (some ad)) (hc : w.cell? ad = some v) : (execOp ρ o).run Tryz.prog w = .ok (.value v) w := by
 unfold execOp; simp only [ho]; go_simp
theorem rk {v v' : Value} {w w' : World} (ho : o.op = .call { callee := .builtin .append, args := #[x, y], argTypes := #[48, 48] }) (hx : ρ x = v) (hy : ρ y = u)
  (hr : (Builtin.append_ #[48, 48] o.type #[v, u]).run Tryz.prog w = .ok v' w') : (execOp ρ o).run Tryz.prog w = .ok (.value v') w' := by
 unfold execOp;simp only [ho, resolve, invoke, builtin, Sem.run_bind, Sem.run_pure, Result.andThen_ok, List.map_toArray, List.map_cons, List.map_nil, hx, hy, hr]
theorem yl {v : Value} (ho : o.op = .store 48 x y) (hx : ρ x = .pointer (some ad)) (hy : ρ y = v) (hv : ∃ sp n cap, v = .slice sp n cap) (hc : w.cell? ad = some u) (hf : w.frozen? ad = false) :
  (execOp ρ o).run Tryz.prog w = .ok .skip (w.setCell ad v) := by
 obtain ⟨sp, n, cap, rfl⟩ := hv;unfold execOp;simp only [ho];go_simp
end
theorem xu (off : Nat) (vs : List Value) (cs : Array Value) (h : off + vs.length ≤ cs.size) : (vs.zipIdx 0).foldl (fun cs (x : Value × Nat) => cs.setIfInBounds (off + x.2) x.1) cs = (splice cs.toList off vs).toArray := by
 obtain ⟨h1, h2⟩ := Go.Great.foldl_set off vs 0 cs;apply Array.ext_getElem?;intro k;rw [h2 k];simp only [List.getElem?_toArray, splice, Nat.add_zero];by_cases hk : k < off
 ·rw [if_neg (by omega), List.getElem?_append_left (by simp; omega), List.getElem?_take, if_pos hk]
  simp
 ·rw [List.getElem?_append_right (by simp; omega)]
  have e : (cs.toList.take off).length = off := (by simp; omega);rw [e];by_cases hk2 : k < off + vs.length
  ·rw [if_pos (by omega), List.getElem?_append_left (by omega)]
  ·rw [if_neg (by omega), List.getElem?_append_right (by omega), List.getElem?_drop]
   rw [show off + vs.length + (k - off - vs.length) = k by omega];simp
theorem ol {pl : Nat → Option (Nat × Nat)} {cells : Array Value} {size : Nat} {v : Value} (hp : pl 0 = some (0, size)) (hv : v.cells.size = size) (hle : cells.size = size) :
  Instr.fill pl cells [(0, v)] = some v.cells := by
 have hf := xu 0 v.cells.toList cells (by simp; omega);unfold Instr.fill;simp only [hp];rw [if_neg (by simp [hv]; omega)];unfold Instr.fill;congr 1
 have e : splice cells.toList 0 v.cells.toList = v.cells.toList := by
  unfold splice;rw [List.drop_of_length_le (by simp; omega)];simp
 rw [e] at hf;rw [← Array.foldl_toList];simpa using hf
theorem Aa (p : Pt) {ρ : Operand → Value} {o : Oper} {x : Operand} {w : World} (ho : o.op = .buildSlice 48 1 #[(0, x)]) (hx : ρ x = .agg (a8 p).toArray) (hp : p.OK) :
  (execOp ρ o).run Tryz.prog w = .ok (.value (.slice (some ⟨w.heap.size, 0, none⟩) 1 1)) (w.alloc (.cells (a8 p).toArray 28)) := by
 obtain ⟨i, z, hi, hz, a1, a0, _⟩ := ou
 have hr := run_buildSlice (P := Tryz.prog) w 48 28 1 #[(0, .agg (a8 p).toArray)] (a8 p).toArray i z Tryz.underlying48 hi hz (by rw [a0]; omega) (by rw [a0]; omega)
  (ol (size := 41) (by simp [a0]) (by simp [Value.cells, aa hp]) (by simp [a0]))
 unfold execOp;simp only [ho];rw [show (Array.map (fun x : Nat × Operand => (x.1, ρ x.2)) #[(0, x)]) = #[(0, .agg (a8 p).toArray)] by simp [hx]];simp only [Sem.run_bind, hr, Result.andThen_ok];rfl
theorem tz {W : World} {D : Nat} (ho : OwnM W 0 u l) (hb : Blk W D cs t) (hnD : u.ownBlock ≠ some D) (hp : p.OK) (hl : l.length < 100000000) (hk : k < cs.length) :
  ∃ v3 w3, (Builtin.append_ #[48, 48] 48 #[u, .slice (some ⟨W.drew.heap.size, 0, none⟩) 1 1]).run Tryz.prog (W.drew.alloc (.cells (a8 p).toArray 28)) = .ok v3 w3 ∧ (∃ sp n cap, v3 = .slice sp n cap) ∧ (∃ c, w3.cell? ⟨D, k, none⟩ = some c) ∧ w3.frozen? ⟨D, k, none⟩ = false ∧
   (∀ {g : Nat} {cs' : List Value} {t' : TypeId}, Blk W g cs' t' → u.ownBlock ≠ some g → Blk w3 g cs' t' ∧ (g ≠ D → Blk (w3.setCell ⟨D, k, none⟩ v3) g cs' t')) ∧
   Blk (w3.setCell ⟨D, k, none⟩ v3) D (cs.set k v3) t ∧ Chg (fun g => g = D ∨ u.ownBlock = some g) W (w3.setCell ⟨D, k, none⟩ v3) ∧ OwnM (w3.setCell ⟨D, k, none⟩ v3) 0 v3 (l ++ [p]) ∧ (∀ g, v3.ownBlock = some g → u.ownBlock = some g ∨ W.heap.size ≤ g) ∧ ∀ g, v3.ownBlock = some g → g < (w3.setCell ⟨D, k, none⟩ v3).heap.size := by
 have a2 : Below W.heap.size W (W.drew.alloc (.cells (a8 p).toArray 28)) := (Below.refl _ _).drew.alloc (Nat.le_refl _) _;have a7 : OwnM (W.drew.alloc (.cells (a8 p).toArray 28)) 0 u l := bc ho (Chg.of_below (F := fun _ => False) a2) (fun _ _ h => h);have a1 : Blk (W.drew.alloc (.cells (a8 p).toArray 28)) W.drew.heap.size (a8 p) 28 := Blk.new _ _ _;obtain ⟨v3, w3, hr, a5, a4, a6⟩ := Fi (w := W.drew.alloc (.cells (a8 p).toArray 28)) (p := p) (adr := ⟨W.drew.heap.size, 0, none⟩) (c := 1) a7 (Nat.zero_le _) hl hp (fun j x hj => by rw [Addr.add_mid, Nat.zero_add]; exact a1.cell hj) 48;obtain ⟨h1, h2, h3, h4, h5⟩ := Me (k := k) a2 ho hb a4 hnD a6 a5;have a0 : ∀ {g : Nat} {cs' : List Value} {t' : TypeId}, Blk W g cs' t' → u.ownBlock ≠ some g → Blk w3 g cs' t' := fun hb' hng => hb'.chg (((Chg.refl (fun g => u.ownBlock = some g) W).trans' (Chg.of_below a2)).grown a4 (fun g hg => .inl hg)) hng
 have a3 := a0 hb hnD;refine ⟨v3, w3, hr, ?_, a3.has k hk, a3.free k, fun hb' hng => ⟨a0 hb' hng, fun hne => (a0 hb' hng).other (a := ⟨D, k, none⟩) hne v3⟩, h1, h2, h3, h4, h5⟩;rcases a5.2 with ⟨e, _⟩ | ⟨g, cap, cur, e, _⟩
 ·exact ⟨_, _, _, e⟩
 ·exact ⟨_, _, _, e⟩
theorem ShAt.notD {w : World} {L : Nat → Nat} {D : Nat} {s : Sh} {v : Sv} (h : ShAt w L D s v) {x : Value} (hx : ∀ g, x.ownBlock = some g → L g = j) (hj : j ≠ 1) : x.ownBlock ≠ some D := fun e => by
 have := hx D e; rw [h.ld] at this; omega
theorem ShAt.gone {w w' : World} {L : Nat → Nat} {D : Nat} {s : Sh} {v : Sv} (h : ShAt w L D s v) (hp : p.OK) (h1 : Blk w' D ((i6 v s.room).set 3 v3) 50) (h2 : Chg (fun g => g = D ∨ v.gn.ownBlock = some g) w w') (h3 : OwnM w' 0 v3 (s.gone ++ [p]))
  (h4 : ∀ g, v3.ownBlock = some g → v.gn.ownBlock = some g ∨ w.heap.size ≤ g) (h5 : ∀ g, v3.ownBlock = some g → g < w'.heap.size) : ShPost 5 L w D (oldS s p) w' := by
 have hF : ∀ g, (g = D ∨ v.gn.ownBlock = some g) → L g = 1 ∨ L g = 4 := fun g hg => by
  rcases hg with rfl | hg
  ·exact .inl h.ld
  ·exact .inr (h.gn.2 g hg)
 have hL : ∀ g, g < w.heap.size → gc L v3 4 g = L g := fun g hg => lu h.gn.2 h4 hg
 refine ⟨gc L v3 4, { v with gn := v3 }, h.step h2 (fun g hg => by rcases hF g hg with e | e <;> omega) hL (ve (fun g hg => Nat.lt_of_lt_of_le (h.lt g hg) h2.size) h5) h1 (uy h.row h2 (fun g hg => by rcases hF g hg with e | e <;> omega) hL h.lt) ⟨rfl, rfl⟩
  (fp h.md h2 (fun g hg => by rcases hF g hg with e | e <;> omega) hL) ⟨h3, fun g hg => sw hg⟩ (fp h.rd h2 (fun g hg => by rcases hF g hg with e | e <;> omega) hL) h.okm (fun q hq => ?_) h.okr, Mv.app (by omega) (by omega) (by omega) (by rw [h.ld]; omega) h.gn.2 h4 h.lt h2⟩
 simp only [oldS, List.mem_append, List.mem_singleton] at hq;rcases hq with hq | rfl
 ·exact h.okg q hq
 ·exact hp
theorem ShAt.readd {w w' : World} {L : Nat → Nat} {D : Nat} {s : Sh} {v : Sv} (h : ShAt w L D s v) (hp : p.OK) (h1 : Blk w' D ((i6 v s.room).set 5 v3) 50) (h2 : Chg (fun g => g = D ∨ v.rd.ownBlock = some g) w w') (h3 : OwnM w' 0 v3 (s.read0 ++ [p]))
  (h4 : ∀ g, v3.ownBlock = some g → v.rd.ownBlock = some g ∨ w.heap.size ≤ g) (h5 : ∀ g, v3.ownBlock = some g → g < w'.heap.size) : ShAt w' (gc L v3 5) D (rdS s p) { v with rd := v3 } ∧ Mv 5 L w (gc L v3 5) w' := by
 have hF : ∀ g, (g = D ∨ v.rd.ownBlock = some g) → L g = 1 ∨ L g = 5 := fun g hg => by
  rcases hg with rfl | hg
  ·exact .inl h.ld
  ·exact .inr (h.rd.2 g hg)
 have hL : ∀ g, g < w.heap.size → gc L v3 5 g = L g := fun g hg => lu h.rd.2 h4 hg
 refine ⟨h.step h2 (fun g hg => by rcases hF g hg with e | e <;> omega) hL (ve (fun g hg => Nat.lt_of_lt_of_le (h.lt g hg) h2.size) h5) h1 (uy h.row h2 (fun g hg => by rcases hF g hg with e | e <;> omega) hL h.lt) ⟨rfl, rfl⟩
  (fp h.md h2 (fun g hg => by rcases hF g hg with e | e <;> omega) hL) (fp h.gn h2 (fun g hg => by rcases hF g hg with e | e <;> omega) hL) ⟨h3, fun g hg => sw hg⟩ h.okm h.okg (fun q hq => ?_), Mv.app (by omega) (by omega) (by omega) (by rw [h.ld]; omega) h.rd.2 h4 h.lt h2⟩
 simp only [rdS, List.mem_append, List.mem_singleton] at hq;rcases hq with hq | rfl
 ·exact h.okr q hq
 ·exact hp
theorem ShAt.madee {w w' : World} {L : Nat → Nat} {D : Nat} {s : Sh} {v : Sv} (h : ShAt w L D s v) (hp : p.OK) (h1 : Blk w' D ((i6 v s.room).set 2 v3) 50) (h2 : Chg (fun g => g = D ∨ v.md.ownBlock = some g) w w') (h3 : OwnM w' 0 v3 (s.made ++ [p]))
  (h4 : ∀ g, v3.ownBlock = some g → v.md.ownBlock = some g ∨ w.heap.size ≤ g) (h5 : ∀ g, v3.ownBlock = some g → g < w'.heap.size) : ShPost 5 L w D { s with made := s.made ++ [p] } w' := by
 have hF : ∀ g, (g = D ∨ v.md.ownBlock = some g) → L g = 1 ∨ L g = 3 := fun g hg => by
  rcases hg with rfl | hg
  ·exact .inl h.ld
  ·exact .inr (h.md.2 g hg)
 have hL : ∀ g, g < w.heap.size → gc L v3 3 g = L g := fun g hg => lu h.md.2 h4 hg
 refine ⟨gc L v3 3, { v with md := v3 }, h.step (s' := { s with made := s.made ++ [p] }) h2 (fun g hg => by rcases hF g hg with e | e <;> omega) hL (ve (fun g hg => Nat.lt_of_lt_of_le (h.lt g hg) h2.size) h5) h1 (uy h.row h2 (fun g hg => by rcases hF g hg with e | e <;> omega) hL h.lt) ⟨rfl, rfl⟩
  ⟨h3, fun g hg => sw hg⟩ (fp h.gn h2 (fun g hg => by rcases hF g hg with e | e <;> omega) hL) (fp h.rd h2 (fun g hg => by rcases hF g hg with e | e <;> omega) hL) (fun q hq => ?_) h.okg h.okr, Mv.app (by omega) (by omega) (by omega) (by rw [h.ld]; omega) h.md.2 h4 h.lt h2⟩
 simp only [List.mem_append, List.mem_singleton] at hq;rcases hq with hq | rfl
 ·exact h.okm q hq
 ·exact hp
theorem Bu {w : World} {L : Nat → Nat} {D : Nat} {s : Sh} {v : Sv} (p : Pt) (hp : p.OK) (h : ShAt w L D s v) (hl : s.gone.length < 100000000) : Calls Tryz.prog 151 #[.pointer (some ⟨D, 0, none⟩), .agg (a8 p).toArray] w fun e w' => e = .returned (.tuple #[]) ∧ ShPost 5 L w D (oldS s p) w' := by
 have a5 := zH hp;have aa : Below w.heap.size w (w.alloc (.cells (a8 p).toArray 28)) := (Below.refl _ _).alloc (Nat.le_refl _) _;have H1 := zH (h.below aa);have HB : Hid (Blk (w.alloc (.cells (a8 p).toArray 28)) w.heap.size (a8 p) 28) := zH (Blk.new _ _ _);have ab := zH h.lt;have HL := zH hl;have HQ : Hid (∀ w', ShPost 5 L (w.alloc (.cells (a8 p).toArray 28)) D (oldS s p) w' → ShPost 5 L w D (oldS s p) w') := zH fun w' h2 => ShPost.pre aa h.lt h2
 generalize hPost : (fun e w' => e = Ending.returned (.tuple #[]) ∧ ShPost 5 L w D (oldS s p) w') = Post;have HP : Hid (∀ w', ShPost 5 L (w.alloc (.cells (a8 p).toArray 28)) D (oldS s p) w' → Post (.returned (.tuple #[])) w') := zH fun w' h2 => by rw [← hPost]; exact ⟨rfl, HQ.out w' h2⟩
 clear h hp hl aa HQ hPost;go_enter Tryz.func151, Tryz.ntmps151
 go_upto_region 1 with fail
 obtain ⟨G, hG⟩ : ∃ G, w.heap.size = G := ⟨_, rfl⟩;rw [hG] at HB ⊢;generalize (w.alloc (.cells (a8 p).toArray 28)) = W at H1 HB HP ⊢;have aj := H1.out.notD H1.out.gn.2 (by omega);have ad : v.gn.ownBlock ≠ some G := fun e => by have h1 := H1.out.gn.2 G e; have := ab.out G (by omega); omega
 have ai : G ≠ D := fun e => by have h1 := H1.out.ld; rw [← e] at h1; have := ab.out G (by omega); omega
 obtain ⟨v3, w3, hr, ah, ⟨_, a0⟩, a1, a3, k1, k2, k3, k4, k5⟩ := tz (k := 3) H1.out.gn.1 H1.out.blk aj a5.out HL.out (by simp [i6]);have ae := (a3 HB.out ad).1;have af := (a3 HB.out ad).2 ai;have a6 := zH (HP.out _ (H1.out.gone a5.out k1 k2 k3 k4 k5));clear k1 k2 k3 k4 k5 a3 HP;have ag : W.drew.cell? ⟨D, 3, none⟩ = some v.gn := H1.out.blk.cell rfl;have a9 : (W.drew.alloc (.cells (a8 p).toArray 28)).cell? ⟨D, 3, none⟩ = some v.gn := (H1.out.blk.drew.alloc _).cell rfl;have a4 : Blk (W.drew.alloc (.cells (a8 p).toArray 28)) G (a8 p) 28 := HB.out.drew.alloc _;obtain ⟨W2, a7⟩ : ∃ W2, W.drew.alloc (.cells (a8 p).toArray 28) = W2 := ⟨_, rfl⟩;have a2 : ∀ {ρ : Operand → Value} {o : Oper} {x : Operand}, o.op = .buildSlice 48 1 #[(0, x)] → ρ x = .agg (a8 p).toArray → (execOp ρ o).run Tryz.prog W.drew = .ok (.value (.slice (some ⟨W.drew.heap.size, 0, none⟩) 1 1)) W2 := fun h1 h2 => by rw [← a7]; exact Aa p h1 h2 a5.out
 rw [a7] at hr a9 a4;refine vt ?_;apply Exists.intro;apply Exists.intro;constructor
 ·refine ci (.take 0 (.take 1 (.take 2 (.take 3 (.take 5 (.fork 4 (.step 6 (.step 7 (.take 8 (.take 9 (.step 10 (.nil)))))) 6 (.step 4 (.step 7 (.take 8 (.take 9 (.step 10 (.nil)))))))))))) (by kernel_rfl) (by kernel_rfl) (fun d _ _ _ _ h => by cases h.1) (fun X => Blk X G (a8 p) 28) (HB.out.drew) ?_
  refine gT (.pointer (some ⟨D, 0, none⟩)) ?_;refine gT (.pointer (some ⟨D, 0, none⟩)) ?_;refine gU (.pointer (some ⟨D, 0, none⟩)) rfl (fun X hX => pj rfl rfl) ?_;refine gU (.pointer (some ⟨D, 3, none⟩)) rfl (fun X hX => mn (by omega) rfl rfl) ?_;refine gU (.agg (a8 p).toArray) rfl (fun X hX => ax a5.out hX rfl rfl) ?_;refine i8 (bm _ rfl (by rfl) v.gn W.drew (ib rfl rfl ag) (fun X => Blk X G (a8 p) 28) (HB.out.drew) (fun _ h => h) ?_) ?_; try simp only [pS]
  refine bm _ rfl (by rfl) (.slice (some ⟨W.drew.heap.size, 0, none⟩) 1 1) W2 (a2 rfl rfl) (fun X => Blk X G (a8 p) 28) a4 (fun _ h => h) ?_; try simp only [pS]
  rotate_left
  refine bm _ rfl (by rfl) (.slice (some ⟨W.drew.heap.size, 0, none⟩) 1 1) W2 (a2 rfl rfl) (fun X => Blk X G (a8 p) 28) a4 (fun _ h => h) ?_; try simp only [pS]
  refine bm _ rfl (by rfl) v.gn W2 (ib rfl rfl a9) (fun X => Blk X G (a8 p) 28) a4 (fun _ h => h) ?_; try simp only [pS]
  all_goals
   refine bm _ rfl (by rfl) v3 w3 (rk rfl rfl rfl hr) (fun X => Blk X G (a8 p) 28) ae (fun _ h => h) ?_; try simp only [pS]
   refine gU (.pointer (some ⟨D, 0, none⟩)) rfl (fun X hX => pj rfl rfl) ?_;refine gU (.pointer (some ⟨D, 3, none⟩)) rfl (fun X hX => mn (by omega) rfl rfl) ?_;refine pf _ rfl (by rfl) (w3.setCell ⟨D, 3, none⟩ v3) (yl rfl rfl rfl ah a0 a1) (fun X => Blk X G (a8 p) 28) af (fun _ h => h) ?_;refine au ?_;exact ⟨rfl, rfl, rfl⟩
 clear a0 a1 ae af hr ag a9 a4 a2 a7 ah
 go_wp2_with fail
 go_end0;exact a6.out
end Go.Proofs.YtjgjohdeeeoeoaaGreatDoor
