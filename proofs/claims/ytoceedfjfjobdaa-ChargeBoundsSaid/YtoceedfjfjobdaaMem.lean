/- Blocks of cells that a call made itself: what they hold, and what stays. Plain lemmas on worlds and lists. -/
import Derived.WalkKit
import Derived.WalkSmall
import Derived.Lib.Hide
import Derived.Deep.MidRow
import Derived.Laws.CopyOwn
namespace Go.Proofs.Ytoceedfjfjobdaa
open Go.RowKit

/-- Block g holds just these cells, none of them frozen. -/
def Blk (w : World) (g : Nat) (cs : List Value) (t : TypeId) : Prop := w.heap[g]? = some (.cells cs.toArray t (0, 0))

theorem Blk.lt {w : World} {g : Nat} {cs : List Value} {t : TypeId} (h : Blk w g cs t) : g < w.heap.size := (Array.getElem?_eq_some_iff.1 h).1
theorem Blk.cell {w : World} {g : Nat} {cs : List Value} {t : TypeId} (h : Blk w g cs t) {j : Nat} {v : Value} (hv : cs[j]? = some v) : w.cell? ⟨g, j, none⟩ = some v := by
  rw [cell_of_row w g j _ t _ h]; simpa using hv
theorem Blk.free {w : World} {g : Nat} {cs : List Value} {t : TypeId} (h : Blk w g cs t) (j : Nat) : w.frozen? ⟨g, j, none⟩ = false := frozen_of_row w g j _ t h
theorem Blk.set {w : World} {g : Nat} {cs : List Value} {t : TypeId} (h : Blk w g cs t) (j : Nat) (v : Value) : Blk (w.setCell ⟨g, j, none⟩ v) g (cs.set j v) t := by
  have := heap_setCell_same w g j _ t v h
  unfold Blk; rw [this]; simp
theorem Blk.other {w : World} {g : Nat} {cs : List Value} {t : TypeId} (h : Blk w g cs t) {a : Addr} (ha : g ≠ a.block) (v : Value) : Blk (w.setCell a v) g cs t := by
  unfold Blk; rw [heap_setCell_other w a g v ha]; exact h
theorem Blk.drew {w : World} {g : Nat} {cs : List Value} {t : TypeId} (h : Blk w g cs t) : Blk w.drew g cs t := h
theorem Blk.drewN {w : World} {g : Nat} {cs : List Value} {t : TypeId} (h : Blk w g cs t) (n : Nat) : Blk (w.drewN n) g cs t := h
theorem Blk.alloc {w : World} {g : Nat} {cs : List Value} {t : TypeId} (h : Blk w g cs t) (o : Obj) : Blk (w.alloc o) g cs t := by
  unfold Blk; rw [Below.heap_alloc w o g h.lt]; exact h
theorem Blk.new (w : World) (cs : List Value) (t : TypeId) : Blk (w.alloc (.cells cs.toArray t)) w.heap.size cs t := heap_alloc_new w _
theorem Blk.new' (w : World) (cs : Array Value) (l : List Value) (t : TypeId) (g : Nat) (hg : g = w.heap.size) (hl : cs = l.toArray) : Blk (w.alloc (.cells cs t)) g l t := by
  subst hg hl; exact heap_alloc_new w _
theorem Blk.below {B : Nat} {w w' : World} {g : Nat} {cs : List Value} {t : TypeId} (h : Blk w g cs t) (hb : Below B w w') (hg : g < B) : Blk w' g cs t := by
  unfold Blk; rw [hb.block g hg]; exact h
theorem set_next {α : Type} (A : List α) (m : Nat) (z v : α) (k : Nat) (hk : k = A.length) : (A ++ List.replicate (m + 1) z).set k v = (A ++ [v]) ++ List.replicate m z := by
  subst hk
  rw [List.replicate_succ, List.append_assoc]
  simp
theorem set_next' {α : Type} (A : List α) (n m : Nat) (z v : α) (k : Nat) (hk : k = A.length) (hn : n = m + 1) : (A ++ List.replicate n z).set k v = (A ++ [v]) ++ List.replicate m z := by
  subst hn; exact set_next A m z v k hk
theorem get_left {α : Type} (A B : List α) (j : Nat) (hj : j < A.length) (d : α) : (A ++ B)[j]? = some (A.getD j d) := by
  rw [List.getElem?_append_left hj, List.getD_eq_getElem?_getD]
  simp [hj]
theorem get_map {α β : Type} (f : α → β) (A : List α) (j : Nat) (hj : j < A.length) (d : α) : (A.map f)[j]? = some (f (A.getD j d)) := by
  rw [List.getElem?_map, List.getD_eq_getElem?_getD]
  simp [hj]
theorem get_map_left {α β : Type} (f : α → β) (A : List α) (B : List β) (j : Nat) (hj : j < A.length) (d : α) : (A.map f ++ B)[j]? = some (f (A.getD j d)) := by
  rw [List.getElem?_append_left (by simpa using hj)]; exact get_map f A j hj d
theorem get_rep {α : Type} (A : List α) (m : Nat) (z : α) (j : Nat) (h1 : A.length ≤ j) (h2 : j < A.length + m) : (A ++ List.replicate m z)[j]? = some z := by
  rw [List.getElem?_append_right h1, List.getElem?_replicate, if_pos (by omega)]
/-- Whatever a block holds at a place within it. -/
theorem Blk.has {w : World} {g : Nat} {cs : List Value} {t : TypeId} (h : Blk w g cs t) (j : Nat) (hj : j < cs.length) : ∃ v, w.cell? ⟨g, j, none⟩ = some v :=
  ⟨cs[j], h.cell (List.getElem?_eq_getElem hj)⟩
theorem Blk.row {w : World} {g : Nat} {cs : List Value} {t : TypeId} (h : Blk w g cs t) (l : List Value) : Blk (w.setRow g l.toArray) g l t := setRow_heap w g _ _ t _ h
theorem Blk.rowOther {w : World} {g : Nat} {cs : List Value} {t : TypeId} (h : Blk w g cs t) {k : Nat} (hk : g ≠ k) (c : Array Value) : Blk (w.setRow k c) g cs t := by
  unfold Blk; rw [setRow_other w k g c hk]; exact h
theorem below_row {B g : Nat} {w0 w : World} (hb : Below B w0 w) (hBg : B ≤ g) (cs : Array Value) : Below B w0 (w.setRow g cs) :=
  hb.trans ⟨rfl, rfl, rfl, by simp, fun k hk => setRow_other w g k cs (by omega)⟩
theorem one_ints {α : Type} (f : α → Value) (h : ∀ x, (f x).oneCell' = true) (l : List α) : (l.map f).toArray.all (·.oneCell') = true := by
  rw [Array.all_eq_true_iff_forall_mem]
  intro v hv
  simp only [List.mem_toArray, List.mem_map] at hv
  obtain ⟨x, _, rfl⟩ := hv
  exact h x
theorem run_index_cells {P : Program} (t e : TypeId) (len : Nat) (cs : Array Value) (i : Nat) (v : Value) (w : World) (hu : P.underlying t = some (.array len e)) {ik : IntKind} (he : P.underlying e = some (.int ik))
  (hi : i < len) (hs : (P.info? e).map (·.size) = some 1) (hv : cs[i]? = some v) : (Instr.index t (.agg cs) (.int .i64 i)).run P w = .ok v w := by
  obtain ⟨ie, h1, h2⟩ := Option.map_eq_some_iff.1 hs
  have hag : (isAgg e).run P w = .ok false w := by
    unfold isAgg
    rw [Sem.run_bind, run_underlying he w]; rfl
  have hsz : (sizeOf e).run P w = .ok 1 w := by simp [sizeOf, typeInfo, h1, h2]
  have h0 : (0 : Int) ≤ i := by omega
  have hi' : (i : Int) < len := by omega
  unfold Instr.index
  simp only [asIntOf, Sem.run_bind, Sem.run_pure, Result.andThen_ok, run_underlying hu w]
  rw [if_pos ⟨h0, hi'⟩]
  simp only [Sem.run_bind, hsz, Result.andThen_ok, part, hag]
  simp [hv]
theorem wpList_makeLC {P : Program} {w : World} {ops : Array Oper} {rest : List Oper} {o : Oper} {a : Act} {Q : Exit → Act → World → Prop}
    (hg : o.guard = none) (l c : Operand) (t : TypeId) (hop : o.op = Op.makeSlice t l c) (e : TypeId) (i : TypeInfo) (z : Value) (h1 : P.underlying t = some (.slice e)) (h2 : P.info? e = some i) (h3 : i.zero = some z) (hz : z.cells = #[z]) (h4 : i.size = 1)
    (kl kc : IntKind) (L C : Int) (n m : Nat) (hl : a.eval l = .int kl L) (hc : a.eval c = .int kc C) (hL : L = (n : Int)) (hC : C = (m : Int)) (hnm : n ≤ m) (b2 : i.bytes * m ≤ 281474976710656) (b3 : m ≤ maxLen)
    (hK : ∀ w', Blk w' w.heap.size (List.replicate m z) e → Below w.heap.size w w' → wpList P ops Q rest (a.put o.dst (.slice (some ⟨w.heap.size, 0, none⟩) n m)) w') :
    wpList P ops Q (o :: rest) a w := by
  refine wpList_plain hg fun K hK' => ?_
  subst hL hC
  have hb : (i.bytes : Int) * (m : Int) ≤ 281474976710656 := by
    have h : ((i.bytes * m : Nat) : Int) ≤ 281474976710656 := by omega
    rwa [Int.natCast_mul] at h
  have hm : (m : Int) ≤ 9223372036854775807 := by unfold maxLen at b3; omega
  have hrun := run_make (P := P) w t e i z h1 h2 h3 kl kc n m (by omega) (by omega) hb hm
  simp only [Int.toNat_natCast, h4, Nat.mul_one, hz] at hrun
  unfold Oper.wp
  simp [execOp, hop, hl, hc, hrun, Result.andThen]
  refine hK' _ _ (hK _ ?_ ((Below.refl _ _).alloc (Nat.le_refl _) _))
  have e2 : madeCells #[z] m = (List.replicate m z).toArray := by
    apply Array.toList_inj.1
    rw [toList_madeCells_one]
  exact Blk.new' _ _ _ _ _ rfl e2
/-- What lies in a block of the call's own is an owned row. -/
theorem Blk.owns {w : World} {g : Nat} {cs : List Value} {e : TypeId} (h : Blk w g cs e) {base n : Nat} (hb : base ≤ g) (hn : n ≤ cs.length) (hm : cs.length ≤ maxLen) :
    w.ownsRow base e 1 (.slice (some ⟨g, 0, none⟩) n cs.length) n (cs.take n) :=
  ⟨by simp; omega, .inr ⟨g, cs.length, cs.toArray, rfl, hb, h, hn, hm, by simp, by simp⟩⟩
theorem wpList_build' {P : Program} {ops : Array Oper} {rest : List Oper} {o : Oper} {a : Act} {w : World} {Q : Exit → Act → World → Prop} (hg : o.guard = none) (t : TypeId) (parts : Array (Nat × Operand)) (ho : o.op = .build t parts)
    (cells : Array Value) (hb : P.built t (parts.map fun (i, x) => (i, a.eval x)).toList = some cells) (h : wpList P ops Q rest (a.put o.dst (.agg cells)) w) : wpList P ops Q (o :: rest) a w :=
  wpList_build hg t parts ho (by rw [hb]; rfl) (by rw [hb]; exact h)
theorem blk_setCells (g : Nat) (t : TypeId) : ∀ (vs : List Value) (o : Nat) (w : World) (cs : List Value), Blk w g cs t → o + vs.length ≤ cs.length → Blk (w.setCells g o vs) g (cs.take o ++ vs ++ cs.drop (o + vs.length)) t
  | [], o, w, cs, h, _ => by simpa [World.setCells] using h
  | v :: r, o, w, cs, h, hl => by
    simp only [List.length_cons] at hl
    have h1 := blk_setCells g t r (o + 1) _ _ (h.set o v) (by simp; omega)
    have e : (cs.set o v).take (o + 1) ++ r ++ (cs.set o v).drop (o + 1 + r.length) = cs.take o ++ (v :: r) ++ cs.drop (o + (v :: r).length) := by
      rw [List.drop_set_of_lt (by omega), List.take_succ_eq_append_getElem (by simp; omega), List.getElem_set_self, List.take_set_of_le (Nat.le_refl _)]
      simp [Nat.add_comm, Nat.add_left_comm]
    rw [e] at h1
    exact h1
theorem blk_setCells_other {g k : Nat} {t : TypeId} (hne : g ≠ k) : ∀ (vs : List Value) (o : Nat) (w : World) (cs : List Value), Blk w g cs t → Blk (w.setCells k o vs) g cs t
  | [], _, _, _, h => h
  | v :: r, o, _, _, h => blk_setCells_other hne r (o + 1) _ _ (h.other (a := ⟨k, o, none⟩) hne v)
theorem Blk.range {w : World} {g : Nat} {cs : List Value} {t : TypeId} (h : Blk w g cs t) (o : Nat) (l : List Value) (he : ∀ j v, l[j]? = .some v → cs[o + j]? = .some v) : w.rangeAt g o l := fun j v hv => h.cell (he j v hv)
theorem Blk.there {w : World} {g : Nat} {cs : List Value} {t : TypeId} (h : Blk w g cs t) (o n : Nat) (hn : o + n ≤ cs.length) : w.there g o n := fun j hj => by
  refine ⟨?_, h.free _⟩
  obtain ⟨v, hv⟩ := h.has (o + j) (by omega)
  rw [hv]; rfl
/-- All but block H is as it was. -/
structure ButFor (H : Nat) (w w' : World) : Prop where
  os : w'.os = w.os
  tape : w'.tape = w.tape
  output : w'.output = w.output
  size : w.heap.size ≤ w'.heap.size
  block : ∀ k, k < w.heap.size → k ≠ H → w'.heap[k]? = w.heap[k]?
theorem ButFor.refl (H : Nat) (w : World) : ButFor H w w := ⟨rfl, rfl, rfl, Nat.le_refl _, fun _ _ _ => rfl⟩
theorem ButFor.trans {H : Nat} {a b c : World} (h : ButFor H a b) (k : ButFor H b c) : ButFor H a c :=
  ⟨k.os.trans h.os, k.tape.trans h.tape, k.output.trans h.output, Nat.le_trans h.size k.size, fun i hi hn => (k.block i (Nat.lt_of_lt_of_le hi h.size) hn).trans (h.block i hi hn)⟩
theorem ButFor.of_below {H : Nat} {a b : World} (h : Below a.heap.size a b) : ButFor H a b := ⟨h.os, h.tape, h.output, h.size, fun k hk _ => h.block k hk⟩
theorem ButFor.drew {H : Nat} {a b : World} (h : ButFor H a b) : ButFor H a b.drew := ⟨h.os, h.tape, h.output, h.size, h.block⟩
theorem ButFor.drewN {H : Nat} {a b : World} (h : ButFor H a b) (n : Nat) : ButFor H a (b.drewN n) := ⟨h.os, h.tape, h.output, h.size, h.block⟩
theorem ButFor.set {H : Nat} {a b : World} (h : ButFor H a b) (o : Nat) (v : Value) : ButFor H a (b.setCell ⟨H, o, none⟩ v) :=
  h.trans ⟨rfl, rfl, rfl, by simp [World.setCell], fun k _ hn => Below.heap_setCell _ _ _ _ hn⟩
theorem ButFor.sets {H : Nat} {a : World} : ∀ (vs : List Value) (o : Nat) (b : World), ButFor H a b → ButFor H a (b.setCells H o vs)
  | [], _, _, h => h
  | v :: r, o, _, h => ButFor.sets r (o + 1) _ (h.set o v)
theorem ButFor.alloc {H : Nat} {a b : World} (h : ButFor H a b) (o : Obj) : ButFor H a (b.alloc o) :=
  h.trans (ButFor.of_below ((Below.refl _ _).alloc (Nat.le_refl _) o))
theorem ButFor.below {H B : Nat} {a b : World} (h : ButFor H a b) (hB : B ≤ H) (hs : B ≤ a.heap.size) : Below B a b := ⟨h.os, h.tape, h.output, h.size, fun k hk => h.block k (by omega) (by omega)⟩
theorem ButFor.blk {H : Nat} {a b : World} (h : ButFor H a b) {g : Nat} {cs : List Value} {t : TypeId} (hb : Blk a g cs t) (hn : g ≠ H) : Blk b g cs t := by
  unfold Blk; rw [h.block g hb.lt hn]; exact hb
theorem ButFor.cell {H : Nat} {a b : World} (h : ButFor H a b) {p : Addr} (hp : p.block < a.heap.size) (hn : p.block ≠ H) : b.cell? p = a.cell? p := World.cell?_of_block (w := a) (h.block p.block hp hn)
end Go.Proofs.Ytoceedfjfjobdaa
