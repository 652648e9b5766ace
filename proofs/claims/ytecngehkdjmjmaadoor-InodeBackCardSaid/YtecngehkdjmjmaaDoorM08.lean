/- The document's own reader: bytes. -/
import Derived.Test.YtecngehkdjmjmaaDoorM07
import Derived.Test.YtecngehkdjmjmaaDoorM03
import Derived.RegionTactic
import Derived.Test.YtecngehkdjmjmaaDoorM06
import Derived.Test.YtecngehkdjmjmaaDoorM05
import Derived.Deep.DeepCutAuto
namespace Go.Proofs.YtecngehkdjmjmaaDoor
open Go.RowKit

/-- What stays of it. -/
def RefIs (w : World) (K : Nat → Prop) (sp : Option Addr) (l : List (BitVec 8)) (cap : Nat) : Prop := l.length ≤ cap ∧ (sp = none → cap = 0) ∧ SrcX w K sp l
theorem RefIs.up {w : World} {K : Nat → Prop} {sp : Option Addr} {l : List (BitVec 8)} {cap : Nat} (h : RefIs w K sp l cap) : RefIs w (fun g => K g ∧ g < w.heap.size) sp l cap :=
  ⟨h.1, h.2.1, fun h0 => by
    obtain ⟨g, o, e, hk, hg, hc⟩ := h.2.2 h0
    exact ⟨g, o, e, ⟨hk, hg⟩, hg, hc⟩⟩
theorem RefIs.below {w w' : World} {K : Nat → Prop} {sp : Option Addr} {l : List (BitVec 8)} {cap : Nat} (h : RefIs w K sp l cap) (hb : Below w.heap.size w w') : RefIs w' K sp l cap :=
  ⟨h.1, h.2.1, h.2.2.below hb (Nat.le_refl _)⟩
end Go.Proofs.YtecngehkdjmjmaaDoor
/- The document's bytes of a pointer. -/
namespace Go.Proofs.YtecngehkdjmjmaaDoor
open Go.RowKit

/-- While the document's Bytes goes. -/
def QbRel (p : Pt) (w : World) (v : Value) (l : Bs) (wr : World) : Prop := OwnB wr (w.heap.size + 1) v l ∧ Below w.heap.size w wr ∧ Blk wr w.heap.size (pcells p) 28
theorem QbRel.next {p : Pt} {w wr w' : World} {v v' : Value} {l l' : Bs} (h : QbRel p w v l wr) (ho : OwnB w' (w.heap.size + 1) v' l') (hb : Below (w.heap.size + 1) wr w') : QbRel p w v' l' w' :=
  have h1 := h.2.2.lt
  ⟨ho, h.2.1.trans (hb.mono (by omega)), h.2.2.below hb (by omega)⟩
/-- A number more. -/
theorem QbRel.num {p : Pt} {w wr w4 : World} {v u : Value} {l : Bs} {n k : Nat} (h : QbRel p w v l wr) (hl : l.length ≤ 100) (hk : k ≤ 8) (ho4 : OwnB w4 wr.heap.size u (leb n k)) (hb4 : Below wr.heap.size wr w4) :
    ∃ sp n' c v5 w5, (∃ sp4 cap4, u = .slice sp4 k cap4) ∧ v5 = .slice sp n' c ∧ (∀ ty, (Builtin.append_ #[38, 38] ty #[v, u]).run Tryd.prog w4 = .ok v5 w5) ∧ QbRel p w v5 (l ++ leb n k) w5 := by
  obtain ⟨sp4, cap4, e4, q1, q2, q3, q4, q5⟩ := OwnB.form ho4
  rw [leb_length] at e4
  subst e4
  have h1 := h.2.2.lt
  obtain ⟨v5, w5, hr5, ho5, hb5⟩ := ownB_src (m := leb n k) (h.1.below hb4 (Nat.le_refl _)) (by have := hb4.size; omega) (by rw [leb_length]; omega) q3 q4 38
  rw [leb_length] at hr5
  obtain ⟨sp, c, e, _⟩ := OwnB.form ho5
  exact ⟨sp, _, c, v5, w5, ⟨_, _, rfl⟩, e, fun _ => hr5, h.next ho5 ((hb4.mono (by omega)).trans hb5)⟩
end Go.Proofs.YtecngehkdjmjmaaDoor
/- Whether a pointer may be, as the document says it. -/
namespace Go.Proofs.YtecngehkdjmjmaaDoor
open Go.RowKit

end Go.Proofs.YtecngehkdjmjmaaDoor
/- The document's reading of a pointer: what it holds while it reads. -/
namespace Go.Proofs.YtecngehkdjmjmaaDoor
open Go.RowKit

theorem ex_cvs {ρ : Operand → Value} {o : Oper} {x : Operand} {sp : Option Addr} {cap n : Nat} {l : Bs} {w : World} (ho : o.op = .convert 38 9 x) (hn : l.length = n) (hx : ρ x = .slice sp n cap) (hS : SrcA w sp l) : (execOp ρ o).run Tryd.prog w = .ok (.value (.string (bstr l))) w := by
  subst hn
  have h := conv_str (cap := cap) hS
  unfold execOp
  simp only [ho, hx]
  simp only [Sem.run_bind, h, Result.andThen_ok, Sem.run_pure]
theorem RefIs.keep {w w' : World} {K : Nat → Prop} {B : Nat} {sp : Option Addr} {l : Bs} {cap : Nat} (h : RefIs w (fun g => K g ∧ g < B) sp l cap) (hb : Below B w w') : RefIs w' (fun g => K g ∧ g < B) sp l cap :=
  ⟨h.1, h.2.1, fun h0 => by
    obtain ⟨g, o, e, hk, hg, hc⟩ := h.2.2 h0
    exact ⟨g, o, e, hk, Nat.lt_of_lt_of_le hg hb.size, fun j hj => (hb.cell (p := ⟨g, o + j, none⟩) hk.2).trans (hc j hj)⟩⟩
theorem RefIs.src {w : World} {K : Nat → Prop} {sp : Option Addr} {l : Bs} {cap : Nat} (h : RefIs w K sp l cap) : SrcA w sp l := h.2.2.srcA
section
variable {ops : Array Oper} {Q : Exit → Act → World → Prop} {S : World → Prop}
end
/-- What the document's Take holds, 64 bytes being there. -/
structure QtW (l : Bs) (w : World) (K : Nat → Prop) (spb : Option Addr) (capb : Nat) (spn : Option Addr) (capn : Nat) (g5 g6 g7 : Nat) (p : Pt) (rest : Bs) (W : World) : Prop where
  r2 : Blk W (w.heap.size + 1) (pcells zeroP) 28
  r3 : Blk W (w.heap.size + 1 + 1) [.slice none 0 0, .int .i64 0] 64
  b : RefIs W (fun g => K g ∧ g < w.heap.size) spb (l.take 64) capb
  n : RefIs W (fun g => K g ∧ g < w.heap.size) spn (l.drop 64) capn
  nx : Blk W g5 [.slice spn (l.drop 64).length capn, .int .i64 0] 64
  x : ∃ spx capx, Blk W g6 [.slice spx rest.length capx, .int .i64 0] 64 ∧ RefIs W (fun g => K g ∧ g < w.heap.size) spx rest capx
  p : Blk W g7 (pcells p) 28
  bel : Below w.heap.size w W
  o5 : w.heap.size + 1 + 1 < g5
  o6 : g5 < g6
  o7 : g6 < g7
section
variable {l : Bs} {w W W' : World} {K : Nat → Prop} {spb spn : Option Addr} {capb capn g5 g6 g7 : Nat} {p : Pt} {rest : Bs}
theorem QtW.grown (h : QtW l w K spb capb spn capn g5 g6 g7 p rest W) (hb : Below W.heap.size W W') : QtW l w K spb capb spn capn g5 g6 g7 p rest W' := by
  have hw := hb.mono h.bel.size
  obtain ⟨spx, capx, h1, h2⟩ := h.x
  exact ⟨h.r2.below hb h.r2.lt, h.r3.below hb h.r3.lt, h.b.keep hw, h.n.keep hw, h.nx.below hb h.nx.lt, ⟨spx, capx, h1.below hb h1.lt, h2.keep hw⟩, h.p.below hb h.p.lt, h.bel.trans hw, h.o5, h.o6, h.o7⟩
theorem QtW.drew (h : QtW l w K spb capb spn capn g5 g6 g7 p rest W) : QtW l w K spb capb spn capn g5 g6 g7 p rest W.drew := h.grown (Below.refl _ _).drew
/-- The pointer is written. -/
theorem QtW.put (h : QtW l w K spb capb spn capn g5 g6 g7 p rest W) {p' : Pt} (hp : Blk W' g7 (pcells p') 28) (hbf : ButFor g7 W W') : QtW l w K spb capb spn capn g5 g6 g7 p' rest W' := by
  have o5 := h.o5; have o6 := h.o6; have o7 := h.o7
  have hw : Below w.heap.size W W' := hbf.below (by omega) h.bel.size
  obtain ⟨spx, capx, h1, h2⟩ := h.x
  exact ⟨hbf.blk h.r2 (by omega), hbf.blk h.r3 (by omega), h.b.keep hw, h.n.keep hw, hbf.blk h.nx (by omega), ⟨spx, capx, hbf.blk h1 (by omega), h2.keep hw⟩, hp, h.bel.trans hw, o5, o6, o7⟩
/-- The start: both results, the reader behind the bytes, the bytes as a reader, the pointer. -/
theorem QtW.start {Z1 Z4 Z5 Z6 : World} (hr2 : Blk Z1 (w.heap.size + 1) (pcells zeroP) 28) (hr3 : Blk Z1 (w.heap.size + 1 + 1) [.slice none 0 0, .int .i64 0] 64) (hb : RefIs Z1 (fun g => K g ∧ g < w.heap.size) spb (l.take 64) capb) (hn : RefIs Z1 (fun g => K g ∧ g < w.heap.size) spn (l.drop 64) capn) (hbel : Below w.heap.size w Z1) {n : Nat} (hnl : (l.drop 64).length = n) (h64 : (l.take 64).length = 64) (z5 z6 z7 : Array Value)
    (e4 : Z4 = (Z1.alloc (.cells z5 64)).setRow Z1.heap.size #[.slice spn n capn, .int .i64 0]) (e5 : Z5 = (Z4.alloc (.cells z6 64)).setRow Z4.heap.size #[.slice spb 64 capb, .int .i64 0]) (e6 : Z6 = Z5.alloc (.cells z7 28)) (hz : z7 = (pcells zeroP).toArray) :
    QtW l w K spb capb spn capn Z1.heap.size Z4.heap.size Z5.heap.size zeroP (l.take 64) Z6 := by
  subst hnl
  obtain ⟨b1, c1⟩ := blk_row1 Z1 z5 [.slice spn (l.drop 64).length capn, .int .i64 0] 64
  have s4 : Z4.heap.size = Z1.heap.size + 1 := by rw [e4]; simp
  rw [show (Z1.alloc (.cells z5 64)).setRow Z1.heap.size [.slice spn (l.drop 64).length capn, .int .i64 0].toArray = Z4 from e4.symm] at b1 c1
  obtain ⟨b2, c2⟩ := blk_row1 Z4 z6 [.slice spb 64 capb, .int .i64 0] 64
  have s5 : Z5.heap.size = Z4.heap.size + 1 := by rw [e5]; simp
  rw [show (Z4.alloc (.cells z6 64)).setRow Z4.heap.size [.slice spb 64 capb, .int .i64 0].toArray = Z5 from e5.symm] at b2 c2
  have b3 : Blk Z6 Z5.heap.size (pcells zeroP) 28 := by rw [e6, hz]; exact Blk.new _ _ _
  have c3 : Below Z5.heap.size Z5 Z6 := by rw [e6]; exact (Below.refl _ _).alloc (Nat.le_refl _) _
  have l2 := hr2.lt; have l3 := hr3.lt
  have cw : Below w.heap.size Z1 Z6 := (c1.mono hbel.size).trans ((c2.mono (by have := hbel.size; omega)).trans (c3.mono (by have := hbel.size; omega)))
  have c16 : Below Z1.heap.size Z1 Z6 := c1.trans ((c2.mono (by omega)).trans (c3.mono (by omega)))
  exact ⟨hr2.below c16 l2, hr3.below c16 l3, hb.keep cw, hn.keep cw, b1.below (c2.trans (c3.mono (by omega))) (by omega), ⟨spb, capb, by rw [h64]; exact b2.below c3 (by omega), hb.keep cw⟩, b3, hbel.trans cw, by omega, by omega, by omega⟩
end
end Go.Proofs.YtecngehkdjmjmaaDoor
/- The document's reading of a pointer, walked. -/
namespace Go.Proofs.YtecngehkdjmjmaaDoor
open Go.RowKit

theorem pt_take (l : Bs) : pt (l.take 64) = pt l := by
  have h : ∀ n m, n + m ≤ 64 → ((l.take 64).drop n).take m = (l.drop n).take m := fun n m hnm => by
    rw [List.drop_take, List.take_take, Nat.min_eq_left (by omega)]
  unfold pt
  rw [h 1 1 (by omega), h 2 2 (by omega), h 4 4 (by omega), h 8 8 (by omega), h 16 32 (by omega), h 48 2 (by omega), h 50 2 (by omega), h 52 2 (by omega), h 54 2 (by omega), List.take_take, Nat.min_eq_left (by omega)]
theorem w8 {n : Nat} (h : n < 256) : IntKind.u8.wrap (n : Int) = n := by simp only [IntKind.wrap_u8']; omega
end Go.Proofs.YtecngehkdjmjmaaDoor
/- Inodes, plain: their cells, their bytes; the inode of bytes; whether one may be; four of them. -/
namespace Go.Proofs.YtecngehkdjmjmaaDoor
open Go.RowKit

structure Ino where
  kind : Nat
  links : Nat
  size : Nat
  root : Pt
structure Ino.OK (n : Ino) : Prop where
  kind : n.kind < 256
  links : n.links < 65536
  size : n.size < 4294967296
  root : n.root.OK
def inums (n : Ino) : List Value := [.int .u8 (n.kind : Int), .int .u16 (n.links : Int), .int .u32 (n.size : Int)]
def icells (n : Ino) : List Value := inums n ++ pcells n.root
theorem icells_length {n : Ino} (h : n.OK) : (icells n).length = 44 := by simp [icells, inums, pcells_length h.root]
def zeroI : Ino := ⟨0, 0, 0, zeroP⟩
theorem zeroI_ok : zeroI.OK := ⟨by simp [zeroI], by simp [zeroI], by simp [zeroI], zeroP_ok⟩
def eqI (a b : Ino) : Bool := decide (a.kind = b.kind) && decide (a.links = b.links) && decide (a.size = b.size) && eqP a.root b.root
theorem eqI_iff {a b : Ino} : eqI a b = true ↔ a = b := by
  obtain ⟨k, l, s, r⟩ := a
  obtain ⟨k', l', s', r'⟩ := b
  simp only [eqI, Bool.and_eq_true, decide_eq_true_eq, eqP_iff, Ino.mk.injEq, and_assoc]
theorem eqI_same (a : Ino) : eqI a a = true := eqI_iff.2 rfl
instance decIno : DecidableEq Ino := fun _ _ => decidable_of_iff _ eqI_iff
/-- A root that may be. -/
def rootI (p : Pt) : Bool := eqP p zeroP || (decide (p.kind = 3) && decide (p.level = 2) && mayP p)
/-- Whether an inode may be. -/
def mayI (n : Ino) : Bool := eqI n zeroI || (decide (1 ≤ n.kind ∧ n.kind ≤ 3) && decide (n.size ≤ 32768) && decide (n.kind = 3 → 1 ≤ n.size ∧ n.size ≤ 128) && rootI n.root)
theorem mayI_zero : mayI zeroI = true := by unfold mayI; rw [eqI_same]; rfl
/-- An inode's bytes. -/
def inoB (n : Ino) : Bs := leb n.kind 1 ++ ([0#8] ++ (leb n.links 2 ++ (leb n.size 4 ++ (padB n.root ++ List.replicate 56 0#8))))
theorem inoB_length {n : Ino} (h : n.OK) : (inoB n).length = 128 := by simp [inoB, leb_length, padB_length h.root]
/-- The inode of bytes. -/
def ino (l : Bs) : Ino := ⟨val (l.take 1), val ((l.drop 2).take 2), val ((l.drop 4).take 4), pt (l.drop 8)⟩
theorem ino_ok {l : Bs} (h : 72 ≤ l.length) : (ino l).OK := ⟨val_take_lt _ 1, val_take_lt _ 2, val_take_lt _ 4, pt_ok (by rw [List.length_drop]; omega)⟩
/-- What must be noughts. -/
def quietI (l : Bs) : Bool := ((l.drop 1).take 1).all (· == 0#8) && quietP ((l.drop 8).take 64) && ((l.drop 72).take 56).all (· == 0#8)
theorem drop_take' (l : Bs) (a b c : Nat) (h : a + b ≤ c) : ((l.take c).drop a).take b = (l.drop a).take b := by
  rw [List.drop_take, List.take_take, Nat.min_eq_left (by omega)]
theorem ino_take (l : Bs) : ino (l.take 128) = ino l := by
  unfold ino
  rw [List.take_take, drop_take' l 2 2 128 (by omega), drop_take' l 4 4 128 (by omega), ← pt_take ((l.take 128).drop 8), drop_take' l 8 64 128 (by omega), pt_take]
  rfl
theorem quietI_take (l : Bs) : quietI (l.take 128) = quietI l := by
  unfold quietI
  rw [drop_take' l 1 1 128 (by omega), drop_take' l 8 64 128 (by omega), drop_take' l 72 56 128 (by omega)]
theorem all_rep {l : Bs} {k : Nat} (h : l.length = k) : l.all (· == 0#8) = true ↔ l = List.replicate k 0#8 := by
  subst h
  constructor
  · exact all_zero l
  · intro e; rw [e]; simp
theorem cut6 {l : Bs} (h : l.length = 128) : l = l.take 1 ++ ((l.drop 1).take 1 ++ ((l.drop 2).take 2 ++ ((l.drop 4).take 4 ++ ((l.drop 8).take 64 ++ (l.drop 72).take 56)))) := by
  have g : ∀ n m, l.take n ++ (l.drop n).take m = l.take (n + m) := fun n m => by rw [List.take_add]
  simp only [← List.append_assoc]
  rw [g 1 1, g 2 2, g 4 4, g 8 64, g 72 56, List.take_of_length_le (by omega)]
/-- Bytes are their inode's own just where they are quiet. -/
theorem inoB_ino {l : Bs} (h : l.length = 128) : inoB (ino l) = l ↔ quietI l = true := by
  have e2 : ∀ n m, n + m ≤ 128 → leb (val ((l.drop n).take m)) m = (l.drop n).take m := fun n m hn => leb_val_of (by simp [h]; omega)
  have e : inoB (ino l) = l.take 1 ++ ([0#8] ++ ((l.drop 2).take 2 ++ ((l.drop 4).take 4 ++ (padB (pt ((l.drop 8).take 64)) ++ List.replicate 56 0#8)))) := by
    unfold inoB ino
    simp only
    rw [leb_val_of (l := l.take 1) (by simp [h]), e2 2 2 (by omega), e2 4 4 (by omega), pt_take]
  have hp := padB_pt (l := (l.drop 8).take 64) (by simp [h])
  have hpl : (padB (pt ((l.drop 8).take 64))).length = 64 := padB_length (pt_ok (by simp [h]))
  rw [e]
  unfold quietI
  simp only [Bool.and_eq_true]
  rw [← hp, all_rep (l := (l.drop 1).take 1) (k := 1) (by simp [h]), all_rep (l := (l.drop 72).take 56) (k := 56) (by simp [h])]
  constructor
  · intro h0
    rw [cut6 h] at h0
    have hc := cut6 h
    rw [← hc] at h0
    have h1 : _ ++ _ = _ ++ _ := h0.trans hc
    obtain ⟨-, h2⟩ := List.append_inj h1 rfl
    obtain ⟨a1, h3⟩ := List.append_inj h2 (by simp [h])
    obtain ⟨-, h4⟩ := List.append_inj h3 rfl
    obtain ⟨-, h5⟩ := List.append_inj h4 rfl
    obtain ⟨a2, a3⟩ := List.append_inj h5 (by rw [hpl]; simp [h])
    exact ⟨⟨a1.symm, a2⟩, a3.symm⟩
  · rintro ⟨⟨a1, a2⟩, a3⟩
    have hc := cut6 h
    rw [a1, a3] at hc
    rw [a2]
    exact hc.symm
/-- What is put is taken. -/
theorem ino_back {n : Ino} (h : n.OK) (r : Bs) : ino (inoB n ++ r) = n ∧ quietI (inoB n ++ r) = true := by
  have e : inoB n ++ r = leb n.kind 1 ++ ([0#8] ++ (leb n.links 2 ++ (leb n.size 4 ++ (padB n.root ++ (List.replicate 56 0#8 ++ r))))) := by simp [inoB]
  have v : ∀ n m, n < 2 ^ (8 * m) → val (leb n m) = n := fun n m hn => by rw [val_leb]; exact Nat.mod_eq_of_lt hn
  have L : ∀ n m, (leb n m).length = m := leb_length
  have LP := padB_length h.root
  have d1 : (inoB n ++ r).drop 1 = [0#8] ++ (leb n.links 2 ++ (leb n.size 4 ++ (padB n.root ++ (List.replicate 56 0#8 ++ r)))) := by rw [e, List.drop_left' (L _ _)]
  have d2 : (inoB n ++ r).drop 2 = leb n.links 2 ++ (leb n.size 4 ++ (padB n.root ++ (List.replicate 56 0#8 ++ r))) := drop_step (n := 1) (m := 1) d1 rfl
  have d4 : (inoB n ++ r).drop 4 = leb n.size 4 ++ (padB n.root ++ (List.replicate 56 0#8 ++ r)) := drop_step (n := 2) (m := 2) d2 (L _ _)
  have d8 : (inoB n ++ r).drop 8 = padB n.root ++ (List.replicate 56 0#8 ++ r) := drop_step (n := 4) (m := 4) d4 (L _ _)
  have d72 : (inoB n ++ r).drop 72 = List.replicate 56 0#8 ++ r := drop_step (n := 8) (m := 64) d8 LP
  constructor
  · unfold ino
    rw [d2, d4, ← pt_take ((inoB n ++ r).drop 8), d8, e]
    simp only [List.take_left' (L _ _), List.take_left' LP]
    rw [v _ 1 h.kind, v _ 2 h.links, v _ 4 h.size, (pt_padB h.root).1]
  · unfold quietI
    rw [d1, d8, d72, List.take_left' LP, (pt_padB h.root).2, List.take_left' (by simp), List.take_left' (by simp)]
    rfl

/-- Four inodes. -/
def bcells (ns : List Ino) : List Value := ns.flatMap icells
structure BOK (ns : List Ino) : Prop where
  len : ns.length = 4
  ok : ∀ n ∈ ns, n.OK
theorem bcells_length : ∀ {ns : List Ino}, (∀ n ∈ ns, n.OK) → (bcells ns).length = 44 * ns.length
  | [], _ => rfl
  | p :: ns, h => by
    have ih := bcells_length (ns := ns) (fun q hq => h q (by simp [hq]))
    have h1 := icells_length (h p (by simp))
    simp only [bcells, List.flatMap_cons, List.length_append, List.length_cons] at *
    omega
theorem BOK.cells {ns : List Ino} (h : BOK ns) : (bcells ns).length = 176 := by rw [bcells_length h.ok, h.len]
theorem BOK.size {ns : List Ino} (h : BOK ns) : (bcells ns).toArray.size = 176 := by rw [List.size_toArray, h.cells]
theorem BOK.at {ns : List Ino} (h : BOK ns) {k : Nat} {n : Ino} (hk : ns[k]? = some n) : n.OK := h.ok n (List.mem_of_getElem? hk)
theorem BOK.get {ns : List Ino} (h : BOK ns) {k : Nat} (hk : k < 4) : ∃ n, ns[k]? = some n := ⟨_, List.getElem?_eq_getElem (by rw [h.len]; exact hk)⟩
theorem bcells_append (a b : List Ino) : bcells (a ++ b) = bcells a ++ bcells b := by simp [bcells]
theorem bcells_cons (n : Ino) (b : List Ino) : bcells (n :: b) = icells n ++ bcells b := by simp [bcells]
theorem isplit_at {α : Type} {l : List α} {k : Nat} {x : α} (h : l[k]? = some x) : l = l.take k ++ (x :: l.drop (k + 1)) := by
  obtain ⟨hk, e⟩ := List.getElem?_eq_some_iff.1 h
  rw [← e, ← List.drop_eq_getElem_cons hk, List.take_append_drop]
theorem bcells_split {ns : List Ino} (h : ∀ n ∈ ns, n.OK) {k : Nat} {n : Ino} (hk : ns[k]? = some n) : bcells ns = bcells (ns.take k) ++ (icells n ++ bcells (ns.drop (k + 1))) ∧ (bcells (ns.take k)).length = 44 * k := by
  obtain ⟨hl, _⟩ := List.getElem?_eq_some_iff.1 hk
  constructor
  · conv => lhs; rw [isplit_at hk]
    rw [bcells_append, bcells_cons]
  · rw [bcells_length (fun q hq => h q (List.mem_of_mem_take hq)), List.length_take, Nat.min_eq_left (Nat.le_of_lt hl)]
theorem iset_at {α : Type} {l : List α} {k : Nat} (h : k < l.length) (x : α) : l.set k x = l.take k ++ (x :: l.drop (k + 1)) := by
  rw [List.set_eq_take_append_cons_drop, if_pos h]
theorem bcells_set {ns : List Ino} (h : ∀ n ∈ ns, n.OK) {k : Nat} (hk : k < ns.length) {q : Ino} (hq : q.OK) : splice (bcells ns) (44 * k) (icells q) = bcells (ns.set k q) := by
  obtain ⟨p, hp⟩ : ∃ p, ns[k]? = some p := ⟨_, List.getElem?_eq_getElem hk⟩
  obtain ⟨e, hl⟩ := bcells_split h hp
  have hpo := h p (List.mem_of_getElem? hp)
  unfold splice
  rw [e, List.take_left' hl, ← List.drop_drop, List.drop_left' hl, List.drop_left' (by rw [icells_length hq, icells_length hpo]), iset_at hk, bcells_append, bcells_cons]
theorem BOK.set {ns : List Ino} (h : BOK ns) (k : Nat) {q : Ino} (hq : q.OK) : BOK (ns.set k q) :=
  ⟨by rw [List.length_set, h.len], fun p hp => by
    rcases List.mem_or_eq_of_mem_set hp with h1 | h1
    · exact h.ok p h1
    · rw [h1]; exact hq⟩
def zeros4 : List Ino := List.replicate 4 zeroI
theorem zeros4_ok : BOK zeros4 := ⟨rfl, fun p hp => by rw [List.eq_of_mem_replicate hp]; exact zeroI_ok⟩
theorem one_ic (n : Ino) : (icells n).toArray.all (·.oneCell') = true := by
  rw [Array.all_eq_true_iff_forall_mem]
  intro v hv
  simp only [List.mem_toArray, icells, inums, List.mem_append, List.mem_cons, List.not_mem_nil, or_false] at hv
  rcases hv with (rfl | rfl | rfl) | hp
  · rfl
  · rfl
  · rfl
  · exact Array.all_eq_true_iff_forall_mem.1 (one_pc n.root) v (by simpa using hp)
theorem bcells_one (ns : List Ino) : (bcells ns).toArray.all (·.oneCell') = true := by
  rw [Array.all_eq_true_iff_forall_mem]
  intro v hv
  simp only [List.mem_toArray, bcells, List.mem_flatMap] at hv
  obtain ⟨p, _, hp⟩ := hv
  exact Array.all_eq_true_iff_forall_mem.1 (one_ic p) v (by simpa using hp)

/-- A table block's bytes. -/
def blkB (ns : List Ino) : Bs := ns.flatMap inoB
theorem blkB_length : ∀ {ns : List Ino}, (∀ n ∈ ns, n.OK) → (blkB ns).length = 128 * ns.length
  | [], _ => rfl
  | p :: ns, h => by
    have ih := blkB_length (ns := ns) (fun q hq => h q (by simp [hq]))
    have h1 := inoB_length (h p (by simp))
    simp only [blkB, List.flatMap_cons, List.length_append, List.length_cons] at *
    omega
theorem itake_snoc {α : Type} {l : List α} {k : Nat} {x : α} (h : l[k]? = some x) : l.take (k + 1) = l.take k ++ [x] := by
  obtain ⟨hk, e⟩ := List.getElem?_eq_some_iff.1 h
  rw [List.take_succ_eq_append_getElem hk, e]
theorem blkB_take {ns : List Ino} {k : Nat} {n : Ino} (h : ns[k]? = some n) : blkB (ns.take (k + 1)) = blkB (ns.take k) ++ inoB n := by
  rw [itake_snoc h]; simp [blkB]
theorem len_blkB {ns : List Ino} (h : BOK ns) {k : Nat} (hk : k ≤ 4) : (blkB (ns.take k)).length = 128 * k := by
  rw [blkB_length (fun p hp => h.ok p (List.mem_of_mem_take hp)), List.length_take, h.len, Nat.min_eq_left hk]
/-- The block without the inodes that may not be. -/
def allowI (n : Ino) : Ino := if mayI n then n else zeroI
def allow (ns : List Ino) : List Ino := ns.map allowI
theorem allowI_ok {n : Ino} (h : n.OK) : (allowI n).OK := by
  unfold allowI
  split
  · exact h
  · exact zeroI_ok
theorem allow_ok {ns : List Ino} (h : BOK ns) : BOK (allow ns) := ⟨by simp [allow, h.len], fun p hp => by
  simp only [allow, List.mem_map] at hp
  obtain ⟨q, hq, rfl⟩ := hp
  exact allowI_ok (h.ok q hq)⟩
def allMay (ns : List Ino) : Bool := ns.all mayI
theorem allow_eq : ∀ ns : List Ino, ns = allow ns ↔ allMay ns = true
  | [] => by simp [allow, allMay]
  | n :: ns => by
    have ih := allow_eq ns
    simp only [allow, allMay, List.map_cons, List.all_cons, Bool.and_eq_true, List.cons.injEq] at ih ⊢
    rw [ih]
    have e : n = allowI n ↔ mayI n = true := by
      unfold allowI
      cases h : mayI n
      · simp only [Bool.false_eq_true, if_false, iff_false]
        intro e
        rw [e, mayI_zero] at h
        cases h
      · simp
    rw [e]
/-- The inodes of a block. -/
def fineI (l : Bs) : Bool := quietI l && mayI (ino l)
def inoOk (l : Bs) : Bool := decide (l.length = 512) && (List.range 4).all fun j => fineI (l.drop (128 * j))
def inoL (l : Bs) : List Ino := (List.range 4).map fun j => ino (l.drop (128 * j))
def inoT (l : Bs) : List Ino := if inoOk l then inoL l else zeros4
def inoE (l : Bs) : Nat := if inoOk l then 0 else 5
theorem inoOk_long {l : Bs} (h : inoOk l = true) : l.length = 512 := by
  unfold inoOk at h
  simp only [Bool.and_eq_true, decide_eq_true_eq] at h
  exact h.1
theorem inoOk_at {l : Bs} (h : inoOk l = true) {j : Nat} (hj : j < 4) : quietI (l.drop (128 * j)) = true ∧ mayI (ino (l.drop (128 * j))) = true := by
  unfold inoOk at h
  simp only [Bool.and_eq_true, List.all_eq_true] at h
  have := h.2 j (List.mem_range.2 hj)
  unfold fineI at this
  simpa using this
theorem inoL_ok {l : Bs} (h : l.length = 512) : BOK (inoL l) := ⟨by simp [inoL], fun p hp => by
  simp only [inoL, List.mem_map, List.mem_range] at hp
  obtain ⟨j, hj, rfl⟩ := hp
  exact ino_ok (by rw [List.length_drop, h]; omega)⟩
theorem inoT_ok (l : Bs) : BOK (inoT l) := by
  unfold inoT
  split
  · rename_i h; exact inoL_ok (inoOk_long h)
  · exact zeros4_ok
theorem ipiece_at : ∀ {ns : List Ino}, (∀ n ∈ ns, n.OK) → ∀ {j : Nat} {n : Ino}, ns[j]? = some n → ∃ r, (blkB ns).drop (128 * j) = inoB n ++ r
  | [], _, j, p, h => by simp at h
  | q :: ns, hok, j, p, h => by
    have hq := inoB_length (hok q (by simp))
    have e : blkB (q :: ns) = inoB q ++ blkB ns := by simp [blkB]
    match j, h with
    | 0, h =>
      simp only [List.getElem?_cons_zero, Option.some.injEq] at h
      subst h
      exact ⟨blkB ns, by rw [e, Nat.mul_zero, List.drop_zero]⟩
    | j + 1, h =>
      simp only [List.getElem?_cons_succ] at h
      rw [e, show 128 * (j + 1) = 128 + 128 * j by omega, ← List.drop_drop, List.drop_left' hq]
      exact ipiece_at (ns := ns) (fun p hp => hok p (by simp [hp])) h
/-- What is put is taken. -/
theorem iput_back {ns : List Ino} (h : BOK ns) (hp : allMay ns = true) : inoOk (blkB ns) = true ∧ inoT (blkB ns) = ns := by
  have hl : (blkB ns).length = 512 := by rw [blkB_length h.ok, h.len]
  have hat : ∀ {j n}, ns[j]? = some n → ino ((blkB ns).drop (128 * j)) = n ∧ quietI ((blkB ns).drop (128 * j)) = true := fun {j n} hj => by
    obtain ⟨r, hr⟩ := ipiece_at h.ok hj
    rw [hr]
    exact ino_back (h.at hj) r
  have h0 : inoOk (blkB ns) = true := by
    unfold inoOk
    simp only [Bool.and_eq_true, decide_eq_true_eq, List.all_eq_true, List.mem_range]
    refine ⟨hl, fun j hj => ?_⟩
    obtain ⟨n, hn⟩ := h.get hj
    obtain ⟨h1, h2⟩ := hat hn
    unfold fineI
    rw [h1, h2, List.all_eq_true.1 hp n (List.mem_of_getElem? hn)]
    rfl
  refine ⟨h0, ?_⟩
  unfold inoT
  rw [if_pos h0]
  apply List.ext_getElem?
  intro j
  by_cases hj : j < 4
  · obtain ⟨n, hn⟩ := h.get hj
    rw [hn]
    simp [inoL, hj, (hat hn).1]
  · rw [List.getElem?_eq_none (by simp [inoL]; omega), List.getElem?_eq_none (by rw [h.len]; omega)]
theorem ichunks (l : Bs) : ∀ k, (List.range k).flatMap (fun j => (l.drop (128 * j)).take 128) = l.take (128 * k)
  | 0 => by simp
  | k + 1 => by
    rw [List.range_succ, List.flatMap_append, ichunks l k]
    simp only [List.flatMap_cons, List.flatMap_nil, List.append_nil]
    rw [show 128 * (k + 1) = 128 * k + 128 by omega, List.take_add]
/-- What is taken is put. -/
theorem itake_back {l : Bs} (h : inoOk l = true) : allMay (inoT l) = true ∧ blkB (inoT l) = l := by
  have hl := inoOk_long h
  have ht : inoT l = inoL l := by unfold inoT; rw [if_pos h]
  rw [ht]
  constructor
  · unfold allMay
    rw [List.all_eq_true]
    intro p hp
    simp only [inoL, List.mem_map, List.mem_range] at hp
    obtain ⟨j, h1, rfl⟩ := hp
    exact (inoOk_at h h1).2
  · have e : blkB (inoL l) = (List.range 4).flatMap (fun j => (l.drop (128 * j)).take 128) := by
      unfold blkB inoL
      rw [List.flatMap_map]
      rw [List.flatMap_def, List.flatMap_def]
      refine congrArg List.flatten (List.map_congr_left fun j hm => ?_)
      have h8 := List.mem_range.1 hm
      rw [← ino_take]
      exact (inoB_ino (by rw [List.length_take, List.length_drop, hl]; omega)).2 (by rw [quietI_take]; exact (inoOk_at h h8).1)
    rw [e, ichunks]
    exact List.take_of_length_le (by omega)
end Go.Proofs.YtecngehkdjmjmaaDoor
