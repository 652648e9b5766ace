/- Blocks of cells that a call made itself: what they hold, and what stays. Plain lemmas on worlds and lists. -/
import Derived.WalkKit
import Derived.WalkSmall
import Derived.Lib.Hide
import Derived.Deep.MidRow
import Derived.Laws.CopyOwn
import Derived.Laws.BitsAllLaws
import Derived.WalkSpells
import Derived.OrdersHeld
import Derived.Test.YtjgjohdeeeoeoaaGreatDoorRows
import Derived.Laws.AppendOwnNone
import Derived.Deep.RegionLaw
set_option linter.all false
namespace Go.Proofs.YtjgjohdeeeoeoaaGreatDoor
theorem zH {p : Prop} (h : p) : Go.RowKit.Hid p := h
open Go.RowKit
variable {a : Act} {bs l : List (BitVec 8)} {rest : List Oper} {cs : List Value} {B H g i id j : Nat} {o : Oper} {sp : Option Addr} {t : TypeId} {v : Value} {W b w : World}
def Blk (w : World) (g : Nat) (cs : List Value) (t : TypeId) : Prop := w.heap[g]? = some (.cells cs.toArray t (0, 0))
theorem Blk.lt (h : Blk w g cs t) : g < w.heap.size := (Array.getElem?_eq_some_iff.1 h).1
theorem Blk.cell (h : Blk w g cs t) (hv : cs[j]? = some v) : w.cell? ⟨g, j, none⟩ = some v := by
 rw [cell_of_row w g j _ t _ h]; simpa using hv
theorem Blk.free (h : Blk w g cs t) (j : Nat) : w.frozen? ⟨g, j, none⟩ = false := frozen_of_row w g j _ t h
theorem Blk.set (h : Blk w g cs t) (j : Nat) (v : Value) : Blk (w.setCell ⟨g, j, none⟩ v) g (cs.set j v) t := by
 have := heap_setCell_same w g j _ t v h;unfold Blk; rw [this]; simp
theorem Blk.other (h : Blk w g cs t) {a : Addr} (ha : g ≠ a.block) (v : Value) : Blk (w.setCell a v) g cs t := by
 unfold Blk; rw [heap_setCell_other w a g v ha]; exact h
theorem Blk.drew (h : Blk w g cs t) : Blk w.drew g cs t := h
theorem Blk.drewN (h : Blk w g cs t) (n : Nat) : Blk (w.drewN n) g cs t := h
theorem Blk.alloc (h : Blk w g cs t) (o : Obj) : Blk (w.alloc o) g cs t := by
 unfold Blk; rw [Below.heap_alloc w o g h.lt]; exact h
theorem Blk.new (w : World) (cs : List Value) (t : TypeId) : Blk (w.alloc (.cells cs.toArray t)) w.heap.size cs t := heap_alloc_new w _
theorem Blk.new' (w : World) (cs : Array Value) (l : List Value) (t : TypeId) (g : Nat) (hg : g = w.heap.size) (hl : cs = l.toArray) : Blk (w.alloc (.cells cs t)) g l t := by
 subst hg hl; exact heap_alloc_new w _
theorem Blk.below {w' : World} (h : Blk w g cs t) (hb : Below B w w') (hg : g < B) : Blk w' g cs t := by
 unfold Blk; rw [hb.block g hg]; exact h
theorem Uu {α : Type} (A : List α) (m : Nat) (z v : α) (k : Nat) (hk : k = A.length) : (A ++ List.replicate (m + 1) z).set k v = (A ++ [v]) ++ List.replicate m z := by
 subst hk;rw [List.replicate_succ, List.append_assoc];simp
theorem Pz {α : Type} (A : List α) (n m : Nat) (z v : α) (k : Nat) (hk : k = A.length) (hn : n = m + 1) : (A ++ List.replicate n z).set k v = (A ++ [v]) ++ List.replicate m z := by
 subst hn; exact Uu A m z v k hk
theorem sd {α β : Type} (f : α → β) (A : List α) (j : Nat) (hj : j < A.length) (d : α) : (A.map f)[j]? = some (f (A.getD j d)) := by
 rw [List.getElem?_map, List.getD_eq_getElem?_getD];simp [hj]
theorem Blk.has (h : Blk w g cs t) (j : Nat) (hj : j < cs.length) : ∃ v, w.cell? ⟨g, j, none⟩ = some v :=
 ⟨cs[j], h.cell (List.getElem?_eq_getElem hj)⟩
theorem Blk.row (h : Blk w g cs t) (l : List Value) : Blk (w.setRow g l.toArray) g l t := setRow_heap w g _ _ t _ h
theorem Blk.rowOther (h : Blk w g cs t) {k : Nat} (hk : g ≠ k) (c : Array Value) : Blk (w.setRow k c) g cs t := by
 unfold Blk; rw [setRow_other w k g c hk]; exact h
theorem cz {w0 : World} (hb : Below B w0 w) (hBg : B ≤ g) (cs : Array Value) : Below B w0 (w.setRow g cs) :=
 hb.trans ⟨rfl, rfl, rfl, by simp, fun k hk => setRow_other w g k cs (by omega)⟩
theorem A0 {α : Type} (f : α → Value) (h : ∀ x, (f x).oneCell' = true) (l : List α) : (l.map f).toArray.all (·.oneCell') = true := by
 rw [Array.all_eq_true_iff_forall_mem];intro v hv;simp only [List.mem_toArray, List.mem_map] at hv;obtain ⟨x, _, rfl⟩ := hv;exact h x
theorem yd {P : Program} (t e : TypeId) (len : Nat) (cs : Array Value) (i : Nat) (v : Value) (w : World) (hu : P.underlying t = some (.array len e)) {ik : IntKind} (he : P.underlying e = some (.int ik))
 (hi : i < len) (hs : (P.info? e).map (·.size) = some 1) (hv : cs[i]? = some v) : (Instr.index t (.agg cs) (.int .i64 i)).run P w = .ok v w := by
 obtain ⟨ie, h1, h2⟩ := Option.map_eq_some_iff.1 hs
 have a0 : (isAgg e).run P w = .ok false w := by
  unfold isAgg;rw [Sem.run_bind, run_underlying he w]; rfl
 have a2 : (sizeOf e).run P w = .ok 1 w := by simp [sizeOf, typeInfo, h1, h2]
 have h0 : (0 : Int) ≤ i := by omega
 have a1 : (i : Int) < len := by omega
 unfold Instr.index;simp only [asIntOf, Sem.run_bind, Sem.run_pure, Result.andThen_ok, run_underlying hu w];rw [if_pos ⟨h0, a1⟩];simp only [Sem.run_bind, a2, Result.andThen_ok, part, a0];simp [hv]
theorem iq {P : Program} {ops : Array Oper} {Q : Exit → Act → World → Prop}
  (hg : o.guard = none) (l c : Operand) (t : TypeId) (hop : o.op = Op.makeSlice t l c) (e : TypeId) (i : TypeInfo) (z : Value) (h1 : P.underlying t = some (.slice e)) (h2 : P.info? e = some i) (h3 : i.zero = some z) (hz : z.cells = #[z]) (h4 : i.size = 1)
  (kl kc : IntKind) (L C : Int) (n m : Nat) (hl : a.eval l = .int kl L) (hc : a.eval c = .int kc C) (hL : L = (n : Int)) (hC : C = (m : Int)) (hnm : n ≤ m) (b2 : i.bytes * m ≤ 281474976710656) (b3 : m ≤ maxLen)
  (hK : ∀ w', Blk w' w.heap.size (List.replicate m z) e → Below w.heap.size w w' → wpList P ops Q rest (a.put o.dst (.slice (some ⟨w.heap.size, 0, none⟩) n m)) w') :
  wpList P ops Q (o :: rest) a w := by
 refine wpList_plain hg fun K hK' => ?_
 subst hL hC
 have hb : (i.bytes : Int) * (m : Int) ≤ 281474976710656 := by
  have h : ((i.bytes * m : Nat) : Int) ≤ 281474976710656 := by omega
  rwa [Int.natCast_mul] at h
 have hm : (m : Int) ≤ 9223372036854775807 := by unfold maxLen at b3; omega
 have a0 := run_make (P := P) w t e i z h1 h2 h3 kl kc n m (by omega) (by omega) hb hm;simp only [Int.toNat_natCast, h4, Nat.mul_one, hz] at a0;unfold Oper.wp;simp [execOp, hop, hl, hc, a0, Result.andThen];refine hK' _ _ (hK _ ?_ ((Below.refl _ _).alloc (Nat.le_refl _) _))
 have e2 : madeCells #[z] m = (List.replicate m z).toArray := by
  apply Array.toList_inj.1;rw [toList_madeCells_one]
 exact Blk.new' _ _ _ _ _ rfl e2
theorem Blk.owns {e : TypeId} (h : Blk w g cs e) {base n : Nat} (hb : base ≤ g) (hn : n ≤ cs.length) (hm : cs.length ≤ maxLen) :
  w.ownsRow base e 1 (.slice (some ⟨g, 0, none⟩) n cs.length) n (cs.take n) :=
 ⟨by simp; omega, .inr ⟨g, cs.length, cs.toArray, rfl, hb, h, hn, hm, by simp, by simp⟩⟩
theorem B4 {P : Program} {ops : Array Oper} {Q : Exit → Act → World → Prop} (hg : o.guard = none) (t : TypeId) (parts : Array (Nat × Operand)) (ho : o.op = .build t parts)
  (cells : Array Value) (hb : P.built t (parts.map fun (i, x) => (i, a.eval x)).toList = some cells) (h : wpList P ops Q rest (a.put o.dst (.agg cells)) w) : wpList P ops Q (o :: rest) a w :=
 wpList_build hg t parts ho (by rw [hb]; rfl) (by rw [hb]; exact h)
theorem fg (g : Nat) (t : TypeId) : ∀ (vs : List Value) (o : Nat) (w : World) (cs : List Value), Blk w g cs t → o + vs.length ≤ cs.length → Blk (w.setCells g o vs) g (cs.take o ++ vs ++ cs.drop (o + vs.length)) t
 | [], o, w, cs, h, _ => by simpa [World.setCells] using h
 | v :: r, o, w, cs, h, hl => by
  simp only [List.length_cons] at hl;have h1 := fg g t r (o + 1) _ _ (h.set o v) (by simp; omega)
  have e : (cs.set o v).take (o + 1) ++ r ++ (cs.set o v).drop (o + 1 + r.length) = cs.take o ++ (v :: r) ++ cs.drop (o + (v :: r).length) := by
   rw [List.drop_set_of_lt (by omega), List.take_succ_eq_append_getElem (by simp; omega), List.getElem_set_self, List.take_set_of_le (Nat.le_refl _)];simp [Nat.add_comm, Nat.add_left_comm]
  rw [e] at h1;exact h1
theorem fh {g k : Nat} {t : TypeId} (hne : g ≠ k) : ∀ (vs : List Value) (o : Nat) (w : World) (cs : List Value), Blk w g cs t → Blk (w.setCells k o vs) g cs t
 | [], _, _, _, h => h
 | v :: r, o, _, _, h => fh hne r (o + 1) _ _ (h.other (a := ⟨k, o, none⟩) hne v)
theorem Blk.range (h : Blk w g cs t) (o : Nat) (l : List Value) (he : ∀ j v, l[j]? = .some v → cs[o + j]? = .some v) : w.rangeAt g o l := fun j v hv => h.cell (he j v hv)
theorem Blk.there (h : Blk w g cs t) (o n : Nat) (hn : o + n ≤ cs.length) : w.there g o n := fun j hj => by
 refine ⟨?_, h.free _⟩;obtain ⟨v, hv⟩ := h.has (o + j) (by omega);rw [hv]; rfl
structure ButFor (H : Nat) (w w' : World) : Prop where
 os : w'.os = w.os
 tape : w'.tape = w.tape
 output : w'.output = w.output
 size : w.heap.size ≤ w'.heap.size
 block : ∀ k, k < w.heap.size → k ≠ H → w'.heap[k]? = w.heap[k]?
theorem ButFor.refl (H : Nat) (w : World) : ButFor H w w := ⟨rfl, rfl, rfl, Nat.le_refl _, fun _ _ _ => rfl⟩
theorem ButFor.trans {a c : World} (h : ButFor H a b) (k : ButFor H b c) : ButFor H a c :=
 ⟨k.os.trans h.os, k.tape.trans h.tape, k.output.trans h.output, Nat.le_trans h.size k.size, fun i hi hn => (k.block i (Nat.lt_of_lt_of_le hi h.size) hn).trans (h.block i hi hn)⟩
theorem ButFor.of_below {a : World} (h : Below a.heap.size a b) : ButFor H a b := ⟨h.os, h.tape, h.output, h.size, fun k hk _ => h.block k hk⟩
theorem ButFor.drew {a : World} (h : ButFor H a b) : ButFor H a b.drew := ⟨h.os, h.tape, h.output, h.size, h.block⟩
theorem ButFor.set {a : World} (h : ButFor H a b) (o : Nat) (v : Value) : ButFor H a (b.setCell ⟨H, o, none⟩ v) :=
 h.trans ⟨rfl, rfl, rfl, by simp [World.setCell], fun k _ hn => Below.heap_setCell _ _ _ _ hn⟩
theorem ButFor.sets {H : Nat} {a : World} : ∀ (vs : List Value) (o : Nat) (b : World), ButFor H a b → ButFor H a (b.setCells H o vs)
 | [], _, _, h => h
 | v :: r, o, _, h => ButFor.sets r (o + 1) _ (h.set o v)
theorem ButFor.alloc {a : World} (h : ButFor H a b) (o : Obj) : ButFor H a (b.alloc o) :=
 h.trans (ButFor.of_below ((Below.refl _ _).alloc (Nat.le_refl _) o))
theorem ButFor.below {a : World} (h : ButFor H a b) (hB : B ≤ H) (hs : B ≤ a.heap.size) : Below B a b := ⟨h.os, h.tape, h.output, h.size, fun k hk => h.block k (by omega) (by omega)⟩
theorem ButFor.blk {a : World} (h : ButFor H a b) (hb : Blk a g cs t) (hn : g ≠ H) : Blk b g cs t := by
 unfold Blk; rw [h.block g hb.lt hn]; exact hb
theorem ButFor.cell {a : World} (h : ButFor H a b) {p : Addr} (hp : p.block < a.heap.size) (hn : p.block ≠ H) : b.cell? p = a.cell? p := World.cell?_of_block (w := a) (h.block p.block hp hn)
def N8 (x : BitVec 8) : Int := (x.toNat : Int)
abbrev V8 (x : BitVec 8) : Value := .int .u8 (N8 x)
theorem I9 {x y : BitVec 8} (h : N8 x = N8 y) : x = y := BitVec.eq_of_toNat_eq (by unfold N8 at h; omega)
def lb (n k : Nat) : BitVec 8 := BitVec.ofNat 8 (n / 2 ^ (8 * k))
def leb (n k : Nat) : List (BitVec 8) := (List.range k).map (lb n)
theorem aw (n k : Nat) : (leb n k).length = k := by simp [leb]
theorem qo (n k : Nat) : leb n (k + 1) = leb n k ++ [lb n k] := by simp [leb, List.range_succ]
theorem I3 (n k : Nat) : (lb n k).toNat = n / 2 ^ (8 * k) % 256 := by simp [lb]
theorem D5 (n k : Nat) : IntKind.u8.wrap ((n : Int) / 2 ^ (8 * k)) = N8 (lb n k) := by
 unfold N8; rw [IntKind.wrap_u8', I3]; simp
theorem I2 (n k : Nat) : (n : Int) / 2 ^ (8 * k) % 256 = N8 (lb n k) := by rw [← D5, IntKind.wrap_u8']
theorem u64_in (n : Nat) (h : n < 18446744073709551616) : IntKind.u64.wrap (n : Int) = n := by simp only [IntKind.wrap_u64]; omega
def val : List (BitVec 8) → Nat
 | [] => 0
 | x :: r => x.toNat + 256 * val r
theorem pc : ∀ l : List (BitVec 8), val l < 2 ^ (8 * l.length)
 | [] => by simp [val]
 | x :: r => by
  have := pc r;have h := x.isLt;simp only [val, List.length_cons];rw [show 8 * (r.length + 1) = 8 + 8 * r.length by omega, Nat.pow_add];omega
theorem As : ∀ (l : List (BitVec 8)) (x : BitVec 8), val (l ++ [x]) = val l + x.toNat * 2 ^ (8 * l.length)
 | [], x => by simp [val]
 | y :: l, x => by
  simp only [List.cons_append, val, As l x, List.length_cons];rw [show 8 * (l.length + 1) = 8 + 8 * l.length by omega, Nat.pow_add, Nat.mul_add, Nat.add_assoc];congr 2;rw [Nat.mul_left_comm]
theorem M7 (n k : Nat) : val (leb n k) = n % 2 ^ (8 * k) := by
 induction k with
 | zero => simp [leb, val, Nat.mod_one]
 | succ k ih =>
  rw [qo, As, ih, aw, I3, show 8 * (k + 1) = 8 * k + 8 by omega, Nat.pow_add];rw [show (2 : Nat) ^ 8 = 256 from rfl, Nat.mod_mul];rw [Nat.mul_comm (n / 2 ^ (8 * k) % 256)]
theorem Dw (l : List (BitVec 8)) (x : BitVec 8) (j : Nat) (hj : l.length = j) : val l ||| x.toNat * 2 ^ (8 * j) = val (l ++ [x]) := by
 subst hj;rw [As, ← Nat.shiftLeft_eq, Nat.or_comm, ← Nat.shiftLeft_add_eq_or_of_lt (pc l), Nat.add_comm]
theorem ip (l : List (BitVec 8)) (k : Nat) (h : k < l.length) : l.take (k + 1) = l.take k ++ [l.getD k 0] := by
 rw [List.take_succ_eq_append_getElem h]; simp [List.getD_eq_getElem?_getD, h]
section
variable {P : Program} {ops : Array Oper} {Q : Exit → Act → World → Prop} {md : Region.Mode} {S S' : World → Prop}
theorem jt (h : ∀ w, S' w → S w) : ∀ (fuel : Nat) (listed : Array Bool) (a : Act) (w : World), wpAnyH P md ops Q S' fuel listed a w → wpAnyH P md ops Q S fuel listed a w
 | 0, _, _, _, hh => hh
 | fuel + 1, _, _, _, hh => ⟨hh.1, fun i hi => wpOp_mono (fun a' w' h' => ⟨h _ h'.1, jt h fuel _ a' w' h'.2⟩) (hh.2 i hi)⟩
inductive Tr where
 | nil
 | take (i : Nat) (r : Tr)
 | step (i : Nat) (r : Tr)
 | fork (i : Nat) (r : Tr) (j : Nat) (s : Tr)
def Tr.len : Tr → Nat
 | .nil => 0
 | .take _ r | .step _ r | .fork _ r _ _ => r.len + 1
def wpG (P : Program) (ops : Array Oper) (Q : Exit → Act → World → Prop) : Tr → (World → Prop) → Act → World → Prop
 | .nil, _, a, w => Q .normal a w
 | .take i r, S, a, w => ∃ o v, ops[i]? = some o ∧ YieldsIf P ops S o v a ∧ wpG P ops Q r S (a.put o.dst v) w
 | .step i r, S, a, w => wpOp P ops Q i (fun a' w' => S w' ∧ ∃ S' : World → Prop, (∀ w, S' w → S w) ∧ S' w' ∧ wpG P ops Q r S' a' w') a w
 | .fork i r j s, S, a, w => wpOp P ops Q i (fun a' w' => S w' ∧ ∃ S' : World → Prop, (∀ w, S' w → S w) ∧ S' w' ∧ wpG P ops Q r S' a' w') a w ∧
   wpOp P ops Q j (fun a' w' => S w' ∧ ∃ S' : World → Prop, (∀ w, S' w → S w) ∧ S' w' ∧ wpG P ops Q s S' a' w') a w
def fv (ops : Array Oper) : Tr → Array Bool → Bool
 | .nil, listed => Region.ready .any ops listed == []
 | .take i r, listed => Region.free .any ops listed i && ((Region.ready .any ops listed).contains i && fv ops r (listed.setIfInBounds i true))
 | .step i r, listed => Region.ready .any ops listed == [i] && fv ops r (listed.setIfInBounds i true)
 | .fork i r j s, listed => Region.ready .any ops listed == [i, j] && (r.len == s.len && (fv ops r (listed.setIfInBounds i true) && fv ops s (listed.setIfInBounds j true)))
def Iv (ops : Array Oper) (l : Tr) : Bool := Region.noSelect ops && (l.len == ops.size && fv ops l (Array.replicate ops.size false))
theorem ft (hs : Region.noSelect ops = true) (hQ : ∀ d v c a w, Q (.panic c) (a.put d v) w → Q (.panic c) a w) :
  ∀ (l : Tr) (listed : Array Bool) (S : World → Prop) (a : Act) (w : World), fv ops l listed = true → S w → wpG P ops Q l S a w → wpAnyH P .any ops Q S l.len listed a w
 | .nil, listed, S, a, w, hb, _, h => wpAnyH_done (by simpa [fv] using hb) h 0
 | .take i r, listed, S, a, w, hb, hS, h => by
  obtain ⟨o, v, hi, hy, h'⟩ := h;simp only [fv, Bool.and_eq_true] at hb;exact wpAnyH_take hi hs hb.1 hb.2.1 (fun c a w => hQ _ _ c a w) hy hS (ft hs hQ r _ S _ w hb.2.2 hS h')
 | .step i r, listed, S, a, w, hb, hS, h => by
  simp only [fv, Bool.and_eq_true, beq_iff_eq] at hb;refine wpAnyH_all hb.1 (by simp) (fun j hj => ?_);obtain rfl : j = i := by simpa using hj
  exact wpOp_mono (fun a' w' ⟨h1, S', h2, h3, h4⟩ => ⟨h1, jt h2 _ _ _ _ (ft hs hQ r _ S' a' w' hb.2 h3 h4)⟩) h
 | .fork i r k s, listed, S, a, w, hb, hS, h => by
  simp only [fv, Bool.and_eq_true, beq_iff_eq] at hb;obtain ⟨a0, a1, a2, a3⟩ := hb;refine wpAnyH_all a0 (by simp) (fun j hj => ?_);have a4 : j = i ∨ j = k := (by simpa using hj);rcases a4 with rfl | rfl
  ·exact wpOp_mono (fun a' w' ⟨h1, S', h2, h3, h4⟩ => ⟨h1, jt h2 _ _ _ _ (ft hs hQ r _ S' a' w' a2 h3 h4)⟩) h.1
  ·show wpOp P ops Q _ (fun a' w' => S w' ∧ wpAnyH P .any ops Q S r.len _ a' w') a w
   rw [a1];exact wpOp_mono (fun a' w' ⟨h1, S', h2, h3, h4⟩ => ⟨h1, jt h2 _ _ _ _ (ft hs hQ s _ S' a' w' a3 h3 h4)⟩) h.2
theorem ci (l : Tr) (hm : P.follows .mixedOrders = true) (hB : Iv ops l = true) (hQ : ∀ d v c a w, Q (.panic c) (a.put d v) w → Q (.panic c) a w)
  (S : World → Prop) (hS : S w.drew) (h : wpG P ops Q l S a w.drew) : (Code.region id ops true).wp P Q a w := by
 simp only [Iv, Bool.and_eq_true, beq_iff_eq] at hB;refine wp_region_held (S := S) hm ?_;have := ft (P := P) hB.1 hQ l (Array.replicate ops.size false) S a w.drew hB.2.2 hS h;rw [hB.2.1] at this;exact this
def tc (Q : Exit → Act → World → Prop) (K : Act → World → Prop) (e : Exit) (a : Act) (w : World) : Prop := match e with | .normal => K a w | e => Q e a w
theorem zv {K : Act → World → Prop} (h : LetsOut (tc Q K)) : LetsOut Q := h
theorem Dy {K : Act → World → Prop} (h : o.wp P a w K (tc Q K)) : o.wp P a w K Q := by
 unfold Oper.wp at *;generalize (execOp a.eval o).run P w = r at *;cases r with
 | ok n w' =>
  cases n <;> simp only [Oper.upon] at h ⊢ <;> first | exact h | exact Calls.mono h (fun e w'' he => by cases e <;> exact he)
 | halt x w' => cases x <;> simp only [Oper.upon] at h ⊢ <;> exact h
theorem Dx {K : Act → World → Prop} (hi : ops[i]? = some o) (h : wpList P ops (tc Q K) [o] a w) : wpOp P ops Q i K a w := by
 unfold wpOp;simp only [hi];have e : wpList P ops (tc Q K) [] = K := by funext a w; rfl
 unfold wpList at h;rw [e] at h;split
 ·rename_i hw
  rw [if_pos hw] at h;exact h.imp Dy (fun ⟨h1, h2⟩ => ⟨h1, zv h2⟩)
 ·rename_i hw
  rw [if_neg hw] at h;exact h
theorem m6 (h : ops.toList[i]? = some o) : ops[i]? = some o := by simpa using h
theorem Gs {r : Tr} (o : Oper) (v : Value) (hi : ops.toList[i]? = some o) (hw : Region.wanted o (yielded ops a.tmps) = true) (hv : ∀ w, S w → (execOp a.eval o).run P w = .ok (.value v) w)
  (h : wpG P ops Q r S (a.put o.dst v) w) : wpG P ops Q (.take i r) S a w := ⟨o, v, m6 hi, .inl ⟨hw, hv⟩, h⟩
theorem Vx {r : Tr} (o : Oper) (hi : ops.toList[i]? = some o) (hw : Region.wanted o (yielded ops a.tmps) = false)
  (h : wpG P ops Q r S (a.put o.dst undef) w) : wpG P ops Q (.take i r) S a w := ⟨o, undef, m6 hi, .inr ⟨hw, rfl⟩, h⟩
theorem Vy {r : Tr} (o : Oper) (hi : ops.toList[i]? = some o)
  (h : ∀ K : Act → World → Prop, (∀ a' w' (S' : World → Prop), (∀ w, S' w → S w) → S' w' → wpG P ops Q r S' a' w' → K a' w') → wpList P ops (tc Q K) [o] a w) : wpG P ops Q (.step i r) S a w :=
 Dx (m6 hi) (h _ fun _ _ S' h1 h2 h3 => ⟨h1 _ h2, S', h1, h2, h3⟩)
theorem At {r : Tr} (o : Oper) (hi : ops.toList[i]? = some o) (hw : Region.wanted o (yielded ops a.tmps) = true)
  (h : ∀ K : Act → World → Prop, (∀ a' w' (S' : World → Prop), (∀ w, S' w → S w) → S' w' → wpG P ops Q r S' a' w' → K a' w') → wpList P ops (tc Q K) [{ o with guard := none }] a w) : wpG P ops Q (.step i r) S a w :=
 Vy o hi fun K hK => by
  have h1 := h K hK;unfold wpList at h1 ⊢;rw [if_pos hw];rw [if_pos (by simp [Region.wanted])] at h1;exact h1
theorem b8 {r : Tr} (o : Oper) (hi : ops.toList[i]? = some o) (hw : Region.wanted o (yielded ops a.tmps) = true) (f : FuncId) (args : Array Value) (hrun : ∀ w, (execOp a.eval o).run P w = .ok (.enter f args) w)
  (C : Value → World → Prop) (hc : Calls P f args w fun e w' => ∃ v, e = .returned v ∧ S w' ∧ C v w') (h : ∀ v w', S w' → C v w' → ∃ S' : World → Prop, (∀ w, S' w → S w) ∧ S' w' ∧ wpG P ops Q r S' (a.put o.dst v) w') : wpG P ops Q (.step i r) S a w := by
 show wpOp P ops Q i _ a w;unfold wpOp;simp only [m6 hi];rw [if_pos hw];refine .inl ?_;unfold Oper.wp;rw [hrun w];exact hc.mono fun e w' ⟨v, e1, h1, h2⟩ => by subst e1; exact ⟨h1, h v w' h1 h2⟩
theorem jz {r : Tr} (o : Oper) (hi : ops.toList[i]? = some o) (hw : Region.wanted o (yielded ops a.tmps) = false) (hS : S w) (h : wpG P ops Q r S (a.put o.dst undef) w) : wpG P ops Q (.step i r) S a w := by
 show wpOp P ops Q i _ a w;unfold wpOp;simp only [m6 hi];rw [if_neg (by simp [hw])];exact ⟨hS, S, fun _ h => h, hS, h⟩
theorem au (h : Q .normal a w) : wpG P ops Q .nil S a w := h
theorem i8 {r s : Tr} (h1 : wpG P ops Q (.step i r) S a w) (h2 : wpG P ops Q (.step j s) S a w) : wpG P ops Q (.fork i r j s) S a w := ⟨h1, h2⟩
theorem ko {K : Act → World → Prop} (h : K a w) : wpList P ops (tc Q K) [] a w := h
end
theorem pS : (∀ (a : Act) (d : Option Nat) (v : Value), a.put d v = match d with | some t => { a with tmps := a.tmps.setIfInBounds t v } | none => a) ∧ (∀ (l : List Value) (i : Nat) (v : Value), l.toArray.setIfInBounds i v = (l.set i v).toArray) ∧ (∀ (x : Value) (l : List Value) (v : Value), (x :: l).set 0 v = v :: l) ∧ (∀ (x : Value) (l : List Value) (n : Nat) (v : Value), (x :: l).set (n + 1) v = x :: l.set n v) :=
 ⟨fun _ _ _ => rfl, fun l i v => by simp, fun _ _ _ => rfl, fun _ _ _ _ => rfl⟩
theorem gT {P : Program} {ops : Array Oper} {Q : Exit → Act → World → Prop} {S : World → Prop} {i : Nat} {r : Tr} {a a1 : Act} {w : World} {o : Oper} (v : Value) (h : wpG P ops Q r S a1 w) (hi : ops.toList[i]? = some o := by rfl) (hw : Region.wanted o (yielded ops a.tmps) = true := by rfl) (hv : ∀ w, S w → (execOp a.eval o).run P w = .ok (.value v) w := by intro X hX; first | rfl | go_simp) (ha : a.put o.dst v = a1 := by (try simp only [pS]); try rfl) : wpG P ops Q (.take i r) S a w := Gs o v hi hw hv (by subst ha; exact h)
theorem gU {P : Program} {ops : Array Oper} {Q : Exit → Act → World → Prop} {S : World → Prop} {i : Nat} {r : Tr} {a a1 : Act} {w : World} {o : Oper} (v : Value) (hi : ops.toList[i]? = some o) (hv : ∀ w, S w → (execOp a.eval o).run P w = .ok (.value v) w) (h : wpG P ops Q r S a1 w) (hw : Region.wanted o (yielded ops a.tmps) = true := by rfl) (ha : a.put o.dst v = a1 := by (try simp only [pS]); try rfl) : wpG P ops Q (.take i r) S a w := Gs o v hi hw hv (by subst ha; exact h)
theorem gP {P : Program} {ops : Array Oper} {Q : Exit → Act → World → Prop} {S : World → Prop} {i : Nat} {r : Tr} {a a1 : Act} {w : World} {o : Oper} (h : wpG P ops Q r S a1 w) (hi : ops.toList[i]? = some o := by rfl) (hw : Region.wanted o (yielded ops a.tmps) = false := by rfl) (ha : a.put o.dst undef = a1 := by (try simp only [pS]); try rfl) : wpG P ops Q (.take i r) S a w := Vx o hi hw (by subst ha; exact h)
theorem gS {P : Program} {ops : Array Oper} {Q : Exit → Act → World → Prop} (l : Tr) (S : World → Prop) (hS : S w.drew) (h : wpG P ops Q l S a w.drew) (hm : P.follows .mixedOrders = true := by kernel_rfl) (hB : Iv ops l = true := by kernel_rfl) (hQ : ∀ d v c a w, Q (.panic c) (a.put d v) w → Q (.panic c) a w := by intro d _ _ _ _ h; cases d <;> exact h) : (Code.region id ops true).wp P Q a w := ci l hm hB hQ S hS h
theorem po : (Tryz.prog.info? 5).map (fun i => (i.zero, i.size, i.bytes)) = some (some (.int .u8 0), 1, 1) := by kernel_rfl
theorem y8 : (Tryz.prog.info? 5).map (·.size) = some 1 := by kernel_rfl
def SrcA (w : World) (sp : Option Addr) (bs : List (BitVec 8)) : Prop :=
 0 < bs.length → ∃ g o, sp = some ⟨g, o, none⟩ ∧ g < w.heap.size ∧ ∀ j, j < bs.length → w.cell? ⟨g, o + j, none⟩ = some (V8 (bs.getD j 0))
theorem SrcA.below (h : SrcA w sp bs) (hb : Below B w W) (hB : w.heap.size ≤ B) : SrcA W sp bs := fun h0 => by
 obtain ⟨g, o, rfl, hg, hc⟩ := h h0;exact ⟨g, o, rfl, Nat.lt_of_lt_of_le hg hb.size, fun j hj => (hb.cell (p := ⟨g, o + j, none⟩) (Nat.lt_of_lt_of_le hg hB)).trans (hc j hj)⟩
theorem SrcA.grown (h : SrcA w sp bs) (hb : Below w.heap.size w W) : SrcA W sp bs := h.below hb (Nat.le_refl _)
theorem SrcA.drew (h : SrcA w sp bs) : SrcA w.drew sp bs := h
theorem SrcA.nil (w : World) (sp : Option Addr) : SrcA w sp [] := fun h => absurd h (by simp)
abbrev OwnB (w : World) (B : Nat) (v : Value) (l : List (BitVec 8)) : Prop := w.ownsRow B 5 1 v l.length (l.map V8)
theorem OwnB.form (h : OwnB w B v l) : ∃ sp cap, v = .slice sp l.length cap ∧ l.length ≤ cap ∧ cap ≤ maxLen ∧ SrcA w sp l ∧ (sp = none → cap = 0) ∧ (∀ a, sp = some a → B ≤ a.block ∧ a.block < w.heap.size) := by
 rcases h.2 with ⟨rfl, hn⟩ | ⟨g, cap, cur, rfl, hb, hg, hc, hm, _, _⟩
 ·refine ⟨none, 0, by rw [hn], by omega, by unfold maxLen; omega, fun h0 => by omega, fun _ => rfl, fun _ hh => by cases hh⟩
 ·have a0 : g < w.heap.size := (Array.getElem?_eq_some_iff.1 hg).1
  refine ⟨some ⟨g, 0, none⟩, cap, rfl, hc, hm, fun h0 => ⟨g, 0, rfl, a0, fun j hj => ?_⟩, (fun hh => by cases hh), (fun _ hh => by cases hh; exact ⟨hb, a0⟩)⟩;rw [Nat.zero_add, h.cellAt j (by omega)];exact sd V8 _ j hj 0
theorem OwnB.below {B' : Nat} (h : OwnB w B v l) (hb : Below B' w W) (hB : w.heap.size ≤ B') : OwnB W B v l := by
 refine ⟨h.1, ?_⟩;rcases h.2 with hn | ⟨g, cap, cur, rfl, hbg, hg, rest⟩
 ·exact .inl hn
 ·exact .inr ⟨g, cap, cur, rfl, hbg, by rw [hb.block g (Nat.lt_of_lt_of_le (Array.getElem?_eq_some_iff.1 hg).1 hB)]; exact hg, rest⟩
theorem nu {o : Nat} (h : ∀ j, j < l.length → w.cell? ⟨g, o + j, none⟩ = some (V8 (l.getD j 0))) : ∀ j v, (l.map V8)[j]? = some v → w.cell? ((⟨g, o, none⟩ : Addr).add j) = some v := by
 intro j v hv;rw [Addr.add_mid]
 have hj : j < l.length := by
  have := (List.getElem?_eq_some_iff.1 hv).1;simpa using this
 rw [h j hj, ← hv, sd V8 l j hj 0]
theorem lp (l : List (BitVec 8)) : ∀ v ∈ l.map V8, v.oneCell' = true := by
 intro v hv;obtain ⟨x, _, rfl⟩ := List.mem_map.1 hv;rfl
theorem mi {ops : Array Oper} {Q : Exit → Act → World → Prop} (hgd : o.guard = none) (s x : Operand)
  (ho : o.op = .call { callee := .builtin .append, args := #[s, x], argTypes := #[29, 29] }) (hs : a.eval s = .slice none 0 0) (sp : Option Addr) (cap : Nat) (l : List (BitVec 8)) (hx : a.eval x = .slice sp l.length cap) (hc : l.length ≤ cap) (hz : sp = none → cap = 0) (hsrc : SrcA w sp l)
  (hl : l.length ≤ 140737488355328) (h : ∀ v w', OwnB w' w.heap.size v l → Below w.heap.size w w' → (v = .slice none 0 0 ↔ l = []) → wpList Tryz.prog ops Q rest (a.put o.dst v) w') : wpList Tryz.prog ops Q (o :: rest) a w := by
 obtain ⟨i0, hi, a1, a2, a3⟩ := info_parts po;by_cases hn : sp = none
 ·subst hn
  have h0 : l = [] := by
   rcases Nat.eq_zero_or_pos l.length with h0 | h0
   ·exact List.eq_nil_of_length_eq_zero h0
   ·obtain ⟨_, _, he, _⟩ := hsrc h0; cases he
  subst h0;obtain rfl := hz rfl;exact wpList_append_own_none hgd s x 29 ho w.heap.size 5 i0 1 Tryz.underlying29 hi (.slice none 0 0) 0 [] hs (World.ownsRow_nil _ _ _ _) hx (h _ _ (World.ownsRow_nil _ _ _ _) (Below.refl _ _) (by simp))
 ·obtain ⟨ad, rfl⟩ := Option.ne_none_iff_exists'.1 hn
  refine wpList_append_own w hgd s x 29 ho w.heap.size 5 i0 (.int .u8 0) 1 1 Tryz.underlying29 hi a1 a2 a3 rfl (by omega) (.slice none 0 0) 0 [] hs (World.ownsRow_nil _ _ _ _) ad l.length cap (l.map V8) hx (by simp) ?_ (lp l) (by unfold maxLen; omega) (by omega) (Nat.le_refl _) ?_
  ·intro j v hv
   have hj : 0 < l.length := by
    have := (List.getElem?_eq_some_iff.1 hv).1;simp at this; omega
   obtain ⟨g, o, he, hg, a0⟩ := hsrc hj;cases he;exact nu a0 j v hv
  ·intro v' w' hown hg hnil
   refine h v' w' ?_ ?_ ?_
   ·simpa using hown
   ·exact (Below.refl _ _).grown hg (Nat.le_refl _) (fun k hk => by cases hk)
   ·rw [hnil]; simp
end Go.Proofs.YtjgjohdeeeoeoaaGreatDoor
