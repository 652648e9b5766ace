/- A space as plain data; the memory that holds it; what stays where a call turns only some blocks. -/
import Derived.Test.YtjfedhaafdfibaaMem
namespace Go.Proofs.Ytjfedhaafdfibaa
open Go.RowKit

/-- All but the blocks of F is as it was. -/
structure Chg (F : Nat → Prop) (w w' : World) : Prop where
  os : w'.os = w.os
  tape : w'.tape = w.tape
  output : w'.output = w.output
  size : w.heap.size ≤ w'.heap.size
  block : ∀ k, k < w.heap.size → ¬ F k → w'.heap[k]? = w.heap[k]?
theorem Chg.refl (F : Nat → Prop) (w : World) : Chg F w w := ⟨rfl, rfl, rfl, Nat.le_refl _, fun _ _ _ => rfl⟩
theorem Chg.trans {F G : Nat → Prop} {a b c : World} (h : Chg F a b) (k : Chg G b c) (hG : ∀ i, G i → F i ∨ a.heap.size ≤ i) : Chg F a c :=
  ⟨k.os.trans h.os, k.tape.trans h.tape, k.output.trans h.output, Nat.le_trans h.size k.size, fun i hi hn => (k.block i (Nat.lt_of_lt_of_le hi h.size) (fun hg => by rcases hG i hg with h1 | h1; exact hn h1; omega)).trans (h.block i hi hn)⟩
theorem Chg.trans' {F : Nat → Prop} {a b c : World} (h : Chg F a b) (k : Chg F b c) : Chg F a c := h.trans k (fun _ h => .inl h)
theorem Chg.mono {F G : Nat → Prop} {a b : World} (h : Chg F a b) (hG : ∀ i, F i → G i) : Chg G a b := (Chg.refl G a).trans h (fun i hi => .inl (hG i hi))
theorem Chg.of_below {F : Nat → Prop} {a b : World} (h : Below a.heap.size a b) : Chg F a b := ⟨h.os, h.tape, h.output, h.size, fun k hk _ => h.block k hk⟩
theorem Chg.below {F : Nat → Prop} {a b : World} (h : Chg F a b) {B : Nat} (hF : ∀ k, F k → B ≤ k) (hB : B ≤ a.heap.size) : Below B a b := ⟨h.os, h.tape, h.output, h.size, fun k hk => h.block k (by omega) (fun hf => by have := hF k hf; omega)⟩
theorem Chg.drew {F : Nat → Prop} {a b : World} (h : Chg F a b) : Chg F a b.drew := ⟨h.os, h.tape, h.output, h.size, h.block⟩
theorem Chg.drewN {F : Nat → Prop} {a b : World} (h : Chg F a b) (n : Nat) : Chg F a (b.drewN n) := ⟨h.os, h.tape, h.output, h.size, h.block⟩
theorem Chg.alloc {F : Nat → Prop} {a b : World} (h : Chg F a b) (o : Obj) : Chg F a (b.alloc o) := h.trans' (Chg.of_below ((Below.refl _ _).alloc (Nat.le_refl _) o))
theorem Chg.setRow {F : Nat → Prop} {a b : World} (h : Chg F a b) {g : Nat} (hg : F g ∨ a.heap.size ≤ g) (c : Array Value) : Chg F a (b.setRow g c) :=
  h.trans (G := fun k => k = g) ⟨rfl, rfl, rfl, by simp, fun k _ hn => setRow_other b g k c hn⟩ (fun i hi => by subst hi; exact hg)
theorem Chg.setCell {F : Nat → Prop} {a b : World} (h : Chg F a b) {g : Nat} (hg : F g ∨ a.heap.size ≤ g) (j : Nat) (v : Value) : Chg F a (b.setCell ⟨g, j, none⟩ v) :=
  h.trans (G := fun k => k = g) ⟨rfl, rfl, rfl, by simp [World.setCell], fun k _ hn => Below.heap_setCell _ _ _ _ hn⟩ (fun i hi => by subst hi; exact hg)
theorem Chg.grown {F : Nat → Prop} {a b c : World} (h : Chg F a b) {r : Option Nat} (hg : b.grownBy c r) (hr : ∀ k, r = some k → F k ∨ a.heap.size ≤ k) : Chg F a c :=
  h.trans (G := fun k => some k = r) ⟨hg.os, hg.tape, hg.output, hg.size, fun k hk hn => hg.block k hk hn⟩ (fun i hi => hr i hi.symm)
theorem Blk.chg {F : Nat → Prop} {w w' : World} {g : Nat} {cs : List Value} {t : TypeId} (h : Blk w g cs t) (hc : Chg F w w') (hn : ¬ F g) : Blk w' g cs t := by
  unfold Blk; rw [hc.block g h.lt hn]; exact h
theorem Blk.same {w : World} {g : Nat} {cs cs' : List Value} {t t' : TypeId} (h : Blk w g cs t) (h' : Blk w g cs' t') : t = t' := by
  unfold Blk at h h'; rw [h] at h'; cases h'; rfl
/-- A block of another type is another block. -/
theorem Blk.not {w : World} {g k : Nat} {cs cs' : List Value} {t t' : TypeId} (h : Blk w g cs t) (h' : Blk w k cs' t') (ht : t ≠ t') : ¬ g = k := fun e => by subst e; exact ht (h.same h')
theorem chg1 (w : World) (g j : Nat) (v : Value) : Chg (fun k => k = g) w (w.setCell ⟨g, j, none⟩ v) := (Chg.refl (fun k => k = g) w).setCell (.inl rfl) j v
theorem chgN (F : Nat → Prop) (w : World) (n : Nat) : Chg F w (w.drewN n) := (Chg.refl F w).drewN n
theorem set_same {α : Type} : ∀ (l : List α) (i : Nat) (a : α), l[i]? = some a → l.set i a = l
  | [], _, _, h => by simp at h
  | b :: l, 0, a, h => by simp at h; subst h; rfl
  | b :: l, i + 1, a, h => by rw [List.set_cons_succ, set_same l i a (by simpa using h)]
def fval (f : Nat) (caps : Array Value) : Value := .func (.func f) #[] caps

/-- What an address is: 0 free, 1 used, 2 held; and sick or not. -/
structure Ax where
  is : Nat
  sick : Bool
deriving DecidableEq
def acell (a : Ax) : List Value := [.int .u8 (a.is : Int), .bool a.sick]
def acells : List Ax → List Value
  | [] => []
  | a :: l => .int .u8 (a.is : Int) :: .bool a.sick :: acells l
theorem acells_length : ∀ l : List Ax, (acells l).length = l.length * 2
  | [] => rfl
  | a :: l => by simp [acells, acells_length l]; omega
theorem acells_get : ∀ (l : List Ax) (i : Nat) (a : Ax), l[i]? = some a → (acells l)[i * 2]? = some (.int .u8 (a.is : Int)) ∧ (acells l)[i * 2 + 1]? = some (.bool a.sick)
  | [], i, a, h => by simp at h
  | b :: l, 0, a, h => by simp at h; subst h; exact ⟨rfl, rfl⟩
  | b :: l, i + 1, a, h => by
    have := acells_get l i a (by simpa using h)
    have e : (i + 1) * 2 = i * 2 + 1 + 1 := by omega
    rw [e]
    simpa [acells] using this
theorem acells_is : ∀ (l : List Ax) (i : Nat) (a : Ax) (n : Nat), l[i]? = some a → (acells l).set (i * 2) (.int .u8 (n : Int)) = acells (l.set i { a with is := n })
  | [], i, a, n, h => by simp at h
  | b :: l, 0, a, n, h => by simp at h; subst h; rfl
  | b :: l, i + 1, a, n, h => by
    have := acells_is l i a n (by simpa using h)
    have e : (i + 1) * 2 = i * 2 + 1 + 1 := by omega
    rw [e]
    simpa [acells] using this
theorem acells_sick : ∀ (l : List Ax) (i : Nat) (a : Ax) (b : Bool), l[i]? = some a → (acells l).set (i * 2 + 1) (.bool b) = acells (l.set i { a with sick := b })
  | [], i, a, n, h => by simp at h
  | b :: l, 0, a, n, h => by simp at h; subst h; rfl
  | b :: l, i + 1, a, n, h => by
    have := acells_sick l i a n (by simpa using h)
    have e : (i + 1) * 2 = i * 2 + 1 + 1 := by omega
    rw [e]
    simpa [acells] using this
theorem acells_fresh : ∀ n : Nat, acells (List.replicate n ⟨0, false⟩) = (List.replicate n [Value.int .u8 0, .bool false]).flatten
  | 0 => rfl
  | n + 1 => by simp [List.replicate_succ, acells, acells_fresh n]

/-- What each disk's addresses are; the disks are 0 and 1. -/
abbrev Sp := Nat → List Ax
def put (sp : Sp) (d : Nat) (l : List Ax) : Sp := fun x => if x = d then l else sp x
theorem put_same (sp : Sp) (d : Nat) (l : List Ax) : put sp d l d = l := by simp [put]
theorem put_other (sp : Sp) {d x : Nat} (l : List Ax) (h : x ≠ d) : put sp d l x = sp x := by simp [put, h]
theorem put_self (sp : Sp) (d : Nat) : put sp d (sp d) = sp := by
  funext x; unfold put; split
  · rename_i h; rw [h]
  · rfl
def slv (B : Nat) (n : Nat) : Value := .slice (some ⟨B, 0, none⟩) n n
/-- Block D is a space; B says where each disk's addresses lie. -/
structure SpAt (w : World) (D : Nat) (B : Nat → Nat) (sp : Sp) : Prop where
  blk : Blk w D [slv (B 0) (sp 0).length, slv (B 1) (sp 1).length] 52
  ax : ∀ d, d < 2 → Blk w (B d) (acells (sp d)) 61
  apart : B 0 ≠ B 1
  len : ∀ d, d < 2 → (sp d).length ≤ 4095
/-- The blocks that a space's calls turn. -/
def Of (B : Nat → Nat) (k : Nat) : Prop := k = B 0 ∨ k = B 1
theorem of_at (B : Nat → Nat) {d : Nat} (hd : d < 2) : Of B (B d) := by
  obtain rfl | rfl : d = 0 ∨ d = 1 := by omega
  · exact .inl rfl
  · exact .inr rfl
theorem SpAt.cell {w : World} {D : Nat} {B : Nat → Nat} {sp : Sp} (h : SpAt w D B sp) {d : Nat} (hd : d < 2) : w.cell? ⟨D, d, none⟩ = some (.slice (some ⟨B d, 0, none⟩) (sp d).length (sp d).length) := by
  obtain rfl | rfl : d = 0 ∨ d = 1 := by omega
  · exact h.blk.cell rfl
  · exact h.blk.cell rfl
theorem SpAt.chg {F : Nat → Prop} {w w' : World} {D : Nat} {B : Nat → Nat} {sp : Sp} (h : SpAt w D B sp) (hc : Chg F w w') (hD : ¬ F D) (hF : ∀ d, d < 2 → ¬ F (B d)) : SpAt w' D B sp :=
  ⟨h.blk.chg hc hD, fun d hd => (h.ax d hd).chg hc (hF d hd), h.apart, h.len⟩
theorem SpAt.below {w w' : World} {D : Nat} {B : Nat → Nat} {sp : Sp} (h : SpAt w D B sp) (hc : Below w.heap.size w w') : SpAt w' D B sp := h.chg (Chg.of_below (F := fun _ => False) hc) (fun h => h) (fun _ _ h => h)
theorem SpAt.drew {w : World} {D : Nat} {B : Nat → Nat} {sp : Sp} (h : SpAt w D B sp) : SpAt w.drew D B sp := ⟨h.blk, h.ax, h.apart, h.len⟩
theorem SpAt.not {w : World} {D : Nat} {B : Nat → Nat} {sp : Sp} (h : SpAt w D B sp) : ¬ Of B D := fun hd => by
  rcases hd with hd | hd
  · exact (h.blk.not (h.ax 0 (by omega)) (by decide)) hd
  · exact (h.blk.not (h.ax 1 (by omega)) (by decide)) hd
/-- One disk's addresses are turned. -/
theorem SpAt.turned {w w' : World} {D : Nat} {B : Nat → Nat} {sp : Sp} (h : SpAt w D B sp) {d : Nat} (hd : d < 2) {l : List Ax} (hl : l.length = (sp d).length) (hb : Blk w' (B d) (acells l) 61) (hc : Chg (fun k => k = B d) w w') : SpAt w' D B (put sp d l) := by
  have hD : ¬ D = B d := h.blk.not (h.ax d hd) (by decide)
  have hlen : ∀ x, (put sp d l x).length = (sp x).length := fun x => by
    unfold put; split
    · rename_i e; rw [hl, e]
    · rfl
  refine ⟨?_, fun x hx => ?_, h.apart, fun x hx => by rw [hlen]; exact h.len x hx⟩
  · rw [hlen, hlen]
    exact h.blk.chg hc hD
  · by_cases e : x = d
    · subst e; rw [put_same]; exact hb
    · rw [put_other sp l e]
      refine (h.ax x hx).chg hc (fun e2 => ?_)
      have hxd : (x = 0 ∧ d = 1) ∨ (x = 1 ∧ d = 0) := by omega
      rcases hxd with ⟨rfl, rfl⟩ | ⟨rfl, rfl⟩
      · exact h.apart e2
      · exact h.apart e2.symm
theorem chg_of {B : Nat → Nat} {d : Nat} (hd : d < 2) {w w' : World} (h : Chg (fun k => k = B d) w w') : Chg (Of B) w w' := h.mono (fun k hk => by rw [hk]; exact of_at B hd)
theorem SpAt.lt {w : World} {D : Nat} {B : Nat → Nat} {sp : Sp} (h : SpAt w D B sp) : ∀ k, Of B k → k < w.heap.size := fun k hk => by
  rcases hk with rfl | rfl
  · exact (h.ax 0 (by omega)).lt
  · exact (h.ax 1 (by omega)).lt
end Go.Proofs.Ytjfedhaafdfibaa
