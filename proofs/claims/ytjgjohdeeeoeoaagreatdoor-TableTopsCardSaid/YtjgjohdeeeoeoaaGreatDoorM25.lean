/- The document's reading of a pointer: what it holds while it reads. -/
import Derived.Test.YtjgjohdeeeoeoaaGreatDoorM10
import Derived.Test.YtjgjohdeeeoeoaaGreatDoorM24
import Derived.Test.YtjgjohdeeeoeoaaGreatDoorM06
namespace Go.Proofs.YtjgjohdeeeoeoaaGreatDoor
open Go.RowKit
theorem ex_cvs {ρ : Operand → Value} {o : Oper} {x : Operand} {sp : Option Addr} {cap n : Nat} {l : Bs} {w : World} (ho : o.op = .convert 29 9 x) (hn : l.length = n) (hx : ρ x = .slice sp n cap) (hS : SrcA w sp l) : (execOp ρ o).run Tryz.prog w = .ok (.value (.string (bstr l))) w := by
  subst hn
  have h := conv_str (cap := cap) hS
  unfold execOp
  simp only [ho, hx]
  simp only [Sem.run_bind, h, Result.andThen_ok, Sem.run_pure]
theorem RefIs.keep {w w' : World} {K : Nat → Prop} {B : Nat} {sp : Option Addr} {l : Bs} {cap : Nat} (h : RefIs w (fun g => K g ∧ g < B) sp l cap) (hb : Below B w w') : RefIs w' (fun g => K g ∧ g < B) sp l cap :=
  ⟨h.1, h.2.1, fun h0 => by
    obtain ⟨g, o, e, hk, hg, hc⟩ := h.2.2 h0
    exact ⟨g, o, e, hk, Nat.lt_of_lt_of_le hg hb.size, fun j hj => (hb.cell (p := ⟨g, o + j, none⟩) hk.2).trans (hc j hj)⟩⟩
theorem RefIs.src {w : World} {K : Nat → Prop} {sp : Option Addr} {l : Bs} {cap : Nat} (h : RefIs w K sp l cap) : SrcA w sp l := h.2.2.srcA
section
variable {ops : Array Oper} {Q : Exit → Act → World → Prop} {S : World → Prop}
theorem wpG_srow {i : Nat} {r : Tr} {a : Act} {w : World} (o : Oper) (hi : ops.toList[i]? = some o) (hw : Region.wanted o (yielded ops a.tmps) = true) (ty : TypeId) (x y : Operand) (ho : o.op = .store ty x y) (b : Nat) (cells : Array Value) (hx : a.eval x = .pointer (some ⟨b, 0, none⟩)) (hy : a.eval y = .agg cells) {t : TypeId} {old : List Value} (hg : Blk w b old t) (hs : (Tryz.prog.info? ty).map (·.size) = some cells.size) (hl : old.length = cells.size) (h1 : cells.all (·.oneCell') = true)
    (S' : World → Prop) (hSS : ∀ w, S' w → S w) (hS : S' (w.setRow b cells)) (h : wpG Tryz.prog ops Q r S' (a.put o.dst undef) (w.setRow b cells)) : wpG Tryz.prog ops Q (.step i r) S a w := by
  refine wpG_bare o hi hw fun K hK => ?_
  exact wpList_store_row rfl ty x y ho b cells hx hy t old.toArray hg hs (by simpa using hl) h1 (wpG_list_nil (hK _ _ S' hSS hS h))
end
theorem results_rows {fn : Func} {p q : Tmp} {t1 t2 : TypeId} (h : fn.results = #[.cell p t1, .cell q t2]) (tmps : Array Value) (w : World) (g1 g2 u1 u2 : Nat) (c1 c2 : List Value) {f1 f2 : Array Field}
    (hp : tmps.getD p undef = .pointer (some ⟨g1, 0, none⟩)) (hq : tmps.getD q undef = .pointer (some ⟨g2, 0, none⟩)) (h1 : Blk w g1 c1 u1) (h2 : Blk w g2 c2 u2) (hu1 : Tryz.prog.underlying t1 = some (.struct f1)) (hu2 : Tryz.prog.underlying t2 = some (.struct f2)) (hi1 : (Tryz.prog.info? t1).map (·.size) = some c1.length) (hi2 : (Tryz.prog.info? t2).map (·.size) = some c2.length) :
    (results fn tmps).run Tryz.prog w = .ok (.tuple #[.agg c1.toArray, .agg c2.toArray]) w := by
  have hp' : tmps[p]?.getD undef = .pointer (some ⟨g1, 0, none⟩) := by simpa using hp
  have hq' : tmps[q]?.getD undef = .pointer (some ⟨g2, 0, none⟩) := by simpa using hq
  have r1 := run_loadVar_row (P := Tryz.prog) w g1 u1 t1 c1.toArray (0, 0) _ h1 hu1 rfl (by simpa using hi1)
  have r2 := run_loadVar_row (P := Tryz.prog) w g2 u2 t2 c2.toArray (0, 0) _ h2 hu2 rfl (by simpa using hi2)
  simp [results, h, hp', hq', asAddr, r1, r2]
theorem sizeRef : (Tryz.prog.info? 87).map (·.size) = some 2 := by kernel_rfl
theorem hash_set {p : Pt} (k : Nat) (hk : k < p.hash.length) (x : BitVec 8) : (pcells p).set (5 + k) (V8 x) = pcells { p with hash := p.hash.set k x } := by
  have e : ∀ q : Pt, pcells q = pnums q ++ (q.hash.map V8 ++ q.ats.map U16) := fun q => rfl
  rw [e, e, List.set_append_right _ _ (by simp [pnums]), show 5 + k - (pnums p).length = k by simp [pnums], List.set_append_left _ _ (by simpa using hk), ← List.map_set]
  rfl
structure QtW (l : Bs) (w : World) (K : Nat → Prop) (spb : Option Addr) (capb : Nat) (spn : Option Addr) (capn : Nat) (g5 g6 g7 : Nat) (p : Pt) (rest : Bs) (W : World) : Prop where
  r2 : Blk W (w.heap.size + 1) (pcells zeroP) 28
  r3 : Blk W (w.heap.size + 1 + 1) [.slice none 0 0, .int .i64 0] 87
  b : RefIs W (fun g => K g ∧ g < w.heap.size) spb (l.take 64) capb
  n : RefIs W (fun g => K g ∧ g < w.heap.size) spn (l.drop 64) capn
  nx : Blk W g5 [.slice spn (l.drop 64).length capn, .int .i64 0] 87
  x : ∃ spx capx, Blk W g6 [.slice spx rest.length capx, .int .i64 0] 87 ∧ RefIs W (fun g => K g ∧ g < w.heap.size) spx rest capx
  p : Blk W g7 (pcells p) 28
  bel : Below w.heap.size w W
  o5 : w.heap.size + 1 + 1 < g5
  o6 : g5 < g6
  o7 : g6 < g7
section
variable {l : Bs} {w W W' : World} {K : Nat → Prop} {spb spn : Option Addr} {capb capn g5 g6 g7 : Nat} {p : Pt} {rest : Bs}
theorem QtW.grown (h : QtW l w K spb capb spn capn g5 g6 g7 p rest W) (hb : Below W.heap.size W W') : QtW l w K spb capb spn capn g5 g6 g7 p rest W' := by
  have hw := hb.mono h.bel.size
  obtain ⟨spx, capx, h1, h2⟩ := h.x
  exact ⟨h.r2.below hb h.r2.lt, h.r3.below hb h.r3.lt, h.b.keep hw, h.n.keep hw, h.nx.below hb h.nx.lt, ⟨spx, capx, h1.below hb h1.lt, h2.keep hw⟩, h.p.below hb h.p.lt, h.bel.trans hw, h.o5, h.o6, h.o7⟩
theorem QtW.drew (h : QtW l w K spb capb spn capn g5 g6 g7 p rest W) : QtW l w K spb capb spn capn g5 g6 g7 p rest W.drew := h.grown (Below.refl _ _).drew
theorem QtW.readTo (h : QtW l w K spb capb spn capn g5 g6 g7 p rest W) {rest' : Bs} {spx : Option Addr} {capx : Nat} (hr : RefIs W (fun g => K g ∧ g < w.heap.size) spx rest' capx) {n : Nat} (hn : rest'.length = n) : QtW l w K spb capb spn capn g5 g6 g7 p rest' (W.setRow g6 #[.slice spx n capx, .int .i64 0]) := by
  subst hn
  have o5 := h.o5; have o6 := h.o6; have o7 := h.o7
  have hbf : ButFor g6 W (W.setRow g6 #[.slice spx rest'.length capx, .int .i64 0]) := butFor_row _
  have hw : Below w.heap.size W (W.setRow g6 #[.slice spx rest'.length capx, .int .i64 0]) := hbf.below (by omega) h.bel.size
  obtain ⟨_, _, h1, _⟩ := h.x
  exact ⟨hbf.blk h.r2 (by omega), hbf.blk h.r3 (by omega), h.b.keep hw, h.n.keep hw, hbf.blk h.nx (by omega), ⟨spx, capx, h1.row [.slice spx rest'.length capx, .int .i64 0], hr.keep hw⟩, hbf.blk h.p (by omega), h.bel.trans hw, o5, o6, o7⟩
theorem QtW.put (h : QtW l w K spb capb spn capn g5 g6 g7 p rest W) {p' : Pt} (hp : Blk W' g7 (pcells p') 28) (hbf : ButFor g7 W W') : QtW l w K spb capb spn capn g5 g6 g7 p' rest W' := by
  have o5 := h.o5; have o6 := h.o6; have o7 := h.o7
  have hw : Below w.heap.size W W' := hbf.below (by omega) h.bel.size
  obtain ⟨spx, capx, h1, h2⟩ := h.x
  exact ⟨hbf.blk h.r2 (by omega), hbf.blk h.r3 (by omega), h.b.keep hw, h.n.keep hw, hbf.blk h.nx (by omega), ⟨spx, capx, hbf.blk h1 (by omega), h2.keep hw⟩, hp, h.bel.trans hw, o5, o6, o7⟩
end
theorem qtw_end {l : Bs} {w W : World} {K : Nat → Prop} {spb spn : Option Addr} {capb capn g5 g6 g7 : Nat} {p : Pt} {rest : Bs} (h : QtW l w K spb capb spn capn g5 g6 g7 p rest W) (c1 c2 : List Value) (_h1 : (pcells zeroP).length = c1.length) (_h2 : 2 = c2.length) :
    Blk (W.setRow (w.heap.size + 1) c1.toArray) (w.heap.size + 1 + 1) [.slice none 0 0, .int .i64 0] 87 ∧ Blk ((W.setRow (w.heap.size + 1) c1.toArray).setRow (w.heap.size + 1 + 1) c2.toArray) (w.heap.size + 1) c1 28 ∧ Blk ((W.setRow (w.heap.size + 1) c1.toArray).setRow (w.heap.size + 1 + 1) c2.toArray) (w.heap.size + 1 + 1) c2 87 ∧ Below w.heap.size w ((W.setRow (w.heap.size + 1) c1.toArray).setRow (w.heap.size + 1 + 1) c2.toArray) ∧ RefIs ((W.setRow (w.heap.size + 1) c1.toArray).setRow (w.heap.size + 1 + 1) c2.toArray) (fun g => K g ∧ g < w.heap.size) spn (l.drop 64) capn := by
  have b1 : Blk (W.setRow (w.heap.size + 1) c1.toArray) (w.heap.size + 1 + 1) [.slice none 0 0, .int .i64 0] 87 := h.r3.rowOther (by omega) _
  have b2 : Below w.heap.size w ((W.setRow (w.heap.size + 1) c1.toArray).setRow (w.heap.size + 1 + 1) c2.toArray) := below_row (below_row h.bel (by omega) _) (by omega) _
  have b3 : Below w.heap.size W ((W.setRow (w.heap.size + 1) c1.toArray).setRow (w.heap.size + 1 + 1) c2.toArray) := below_row (below_row (Below.refl _ _) (by omega) _) (by omega) _
  exact ⟨b1, (h.r2.row c1).rowOther (by omega) _, b1.row c2, b2, h.n.keep b3⟩
theorem refRes_ok {l : Bs} {n : Nat} (h : n ≤ l.length) : refRes l 0 n = (l.take n, l.drop n, 0) := by
  unfold refRes
  rw [if_neg (by omega), if_neg (by omega), Int.toNat_natCast]
theorem num_ok {K : Nat → Prop} {l : Bs} {n : Nat} {w : World} {x : Ending} {w' : World} (h : NumOf K l 0 n w x w') (hn : n ≤ l.length) : ∃ sp cap, x = .returned (.tuple #[.int .u64 (val (l.take n) : Int), .agg #[.slice sp (l.length - n) cap, .int .i64 0]]) ∧ RefIs w' K sp (l.drop n) cap ∧ Below w.heap.size w w' := by
  unfold NumOf at h
  rw [refRes_ok hn] at h
  obtain ⟨sp, cap, e, h1, h2⟩ := h
  exact ⟨sp, cap, by rw [← List.length_drop]; exact e, h1, h2⟩
end Go.Proofs.YtjgjohdeeeoeoaaGreatDoor
