/- Power: plain, and in memory; its methods. -/
import Derived.Test.YtchbeaogbjmddaaSl
import Derived.Test.YtchbeaogbjmddaaSched
import Derived.OpenShut
namespace Go.Proofs.Ytchbeaogbjmddaa
open Go.RowKit

/-- All but the blocks of F is as it was. -/
structure Chg (F : Nat → Prop) (w w' : World) : Prop where
  os : w'.os = w.os
  tape : w'.tape = w.tape
  output : w'.output = w.output
  size : w.heap.size ≤ w'.heap.size
  block : ∀ k, k < w.heap.size → ¬ F k → w'.heap[k]? = w.heap[k]?
theorem Chg.refl (F : Nat → Prop) (w : World) : Chg F w w := ⟨rfl, rfl, rfl, Nat.le_refl _, fun _ _ _ => rfl⟩
theorem Chg.trans {F G : Nat → Prop} {a b c : World} (h : Chg F a b) (k : Chg G b c) (hG : ∀ i, G i → F i ∨ a.heap.size ≤ i) : Chg F a c :=
  ⟨k.os.trans h.os, k.tape.trans h.tape, k.output.trans h.output, Nat.le_trans h.size k.size, fun i hi hn => (k.block i (Nat.lt_of_lt_of_le hi h.size) (fun hg => by rcases hG i hg with h1 | h1; exact hn h1; omega)).trans (h.block i hi hn)⟩
theorem Chg.trans' {F : Nat → Prop} {a b c : World} (h : Chg F a b) (k : Chg F b c) : Chg F a c := h.trans k (fun _ h => .inl h)
theorem Chg.mono {F G : Nat → Prop} {a b : World} (h : Chg F a b) (hG : ∀ i, F i → G i) : Chg G a b := (Chg.refl G a).trans h (fun i hi => .inl (hG i hi))
theorem Chg.of_below {F : Nat → Prop} {a b : World} (h : Below a.heap.size a b) : Chg F a b := ⟨h.os, h.tape, h.output, h.size, fun k hk _ => h.block k hk⟩
theorem Chg.below {F : Nat → Prop} {a b : World} (h : Chg F a b) {B : Nat} (hF : ∀ k, F k → B ≤ k) (hB : B ≤ a.heap.size) : Below B a b := ⟨h.os, h.tape, h.output, h.size, fun k hk => h.block k (by omega) (fun hf => by have := hF k hf; omega)⟩
theorem Chg.drew {F : Nat → Prop} {a b : World} (h : Chg F a b) : Chg F a b.drew := ⟨h.os, h.tape, h.output, h.size, h.block⟩
theorem Chg.alloc {F : Nat → Prop} {a b : World} (h : Chg F a b) (o : Obj) : Chg F a (b.alloc o) := h.trans' (Chg.of_below ((Below.refl _ _).alloc (Nat.le_refl _) o))
theorem Chg.setRow {F : Nat → Prop} {a b : World} (h : Chg F a b) {g : Nat} (hg : F g ∨ a.heap.size ≤ g) (c : Array Value) : Chg F a (b.setRow g c) :=
  h.trans (G := fun k => k = g) ⟨rfl, rfl, rfl, by simp, fun k _ hn => setRow_other b g k c hn⟩ (fun i hi => by subst hi; exact hg)
theorem Chg.setCell {F : Nat → Prop} {a b : World} (h : Chg F a b) {g : Nat} (hg : F g ∨ a.heap.size ≤ g) (j : Nat) (v : Value) : Chg F a (b.setCell ⟨g, j, none⟩ v) :=
  h.trans (G := fun k => k = g) ⟨rfl, rfl, rfl, by simp [World.setCell], fun k _ hn => Below.heap_setCell _ _ _ _ hn⟩ (fun i hi => by subst hi; exact hg)
theorem Chg.grown {F : Nat → Prop} {a b c : World} (h : Chg F a b) {r : Option Nat} (hg : b.grownBy c r) (hr : ∀ k, r = some k → F k ∨ a.heap.size ≤ k) : Chg F a c :=
  h.trans (G := fun k => some k = r) ⟨hg.os, hg.tape, hg.output, hg.size, fun k hk hn => hg.block k hk hn⟩ (fun i hi => hr i hi.symm)
theorem Blk.chg {F : Nat → Prop} {w w' : World} {g : Nat} {cs : List Value} {t : TypeId} (h : Blk w g cs t) (hc : Chg F w w') (hn : ¬ F g) : Blk w' g cs t := by
  unfold Blk; rw [hc.block g h.lt hn]; exact h
theorem Blk.same {w : World} {g : Nat} {cs cs' : List Value} {t t' : TypeId} (h : Blk w g cs t) (h' : Blk w g cs' t') : t = t' := by
  unfold Blk at h h'; rw [h] at h'; cases h'; rfl

structure Pw where
  on : Bool
  fuse : Int
def Pw.step (p : Pw) : Bool × Pw :=
  if p.on = false then (false, p) else if p.fuse = 0 then (false, ⟨false, -1⟩) else if 0 < p.fuse then (true, ⟨true, p.fuse - 1⟩) else (true, p)
def Pw.set (p : Pw) (n : Int) : Pw := if p.on then ⟨true, max n (-1)⟩ else p
structure PwAt (w : World) (Q : Nat) (p : Pw) : Prop where
  blk : Blk w Q [.bool p.on, .int .i64 p.fuse] 63
  lo : -1 ≤ p.fuse
  hi : p.fuse ≤ 9223372036854775807
theorem PwAt.chg {F : Nat → Prop} {w w' : World} {Q : Nat} {p : Pw} (h : PwAt w Q p) (hc : Chg F w w') (hn : ¬ F Q) : PwAt w' Q p := ⟨h.blk.chg hc hn, h.lo, h.hi⟩
theorem PwAt.c0 {w : World} {Q : Nat} {p : Pw} (h : PwAt w Q p) : w.cell? ⟨Q, 0, none⟩ = some (.bool p.on) := h.blk.cell rfl
theorem PwAt.c1 {w : World} {Q : Nat} {p : Pw} (h : PwAt w Q p) : w.cell? ⟨Q, 1, none⟩ = some (.int .i64 p.fuse) := h.blk.cell rfl

theorem on_any (w : World) : Calls Try.prog 11 #[] w fun e w' => ∃ Q, e = .returned (.pointer (some ⟨Q, 0, none⟩)) ∧ w.heap.size ≤ Q ∧ Q < w'.heap.size ∧ PwAt w' Q ⟨true, -1⟩ ∧ Below w.heap.size w w' := by
  go_enter Try.func11, Try.ntmps11
  go_wp2
  go_ret
  exact ⟨_, rfl, Nat.le_refl _, by simp, ⟨Blk.new' _ _ _ _ _ rfl rfl, by simp, by simp⟩, (Below.refl _ _).alloc (Nat.le_refl _) _⟩
theorem is_nil (w : World) : Calls Try.prog 18 #[.pointer none] w fun e w' => e = .returned (.bool false) ∧ w = w' := by
  go_enter Try.func18, Try.ntmps18
  go_wp2
  go_ret
  exact ⟨rfl, rfl⟩
theorem is_any (Q : Nat) (p : Pw) (w : World) (h : PwAt w Q p) : Calls Try.prog 18 #[.pointer (some ⟨Q, 0, none⟩)] w fun e w' => e = .returned (.bool p.on) ∧ w = w' := by
  have c0 := h.c0
  clear h
  go_enter Try.func18, Try.ntmps18
  go_wp2
  go_ret
  exact ⟨rfl, rfl⟩
theorem fuse_nil (n : Int) (w : World) : Calls Try.prog 13 #[.pointer none, .int .i64 n] w fun e w' => e = .returned (.tuple #[]) ∧ w = w' := by
  go_enter Try.func13, Try.ntmps13
  go_wp2_with (go_at_call 18; refine (is_nil _).mono ?_; rintro e w' ⟨rfl, rfl⟩)
  go_end0
  exact ⟨rfl, rfl⟩
theorem back_nil (w : World) : Calls Try.prog 14 #[.pointer none] w fun e w' => e = .returned (.tuple #[]) ∧ w = w' := by
  go_enter Try.func14, Try.ntmps14
  go_wp2
  go_end0
  exact ⟨rfl, rfl⟩
theorem step_nil (w : World) : Calls Try.prog 26 #[.pointer none] w fun e w' => e = .returned (.bool false) ∧ w = w' := by
  go_enter Try.func26, Try.ntmps26
  go_wp2_with (go_at_call 18; refine (is_nil _).mono ?_; rintro e w' ⟨rfl, rfl⟩)
  go_ret
  exact ⟨rfl, rfl⟩
theorem PwAt.set1 {w : World} {Q : Nat} {p : Pw} (h : PwAt w Q p) (f : Int) (h1 : -1 ≤ f) (h2 : f ≤ 9223372036854775807) : PwAt (w.setCell ⟨Q, 1, none⟩ (.int .i64 f)) Q ⟨p.on, f⟩ := ⟨h.blk.set 1 _, h1, h2⟩
theorem PwAt.set01 {w : World} {Q : Nat} {p : Pw} (h : PwAt w Q p) (b : Bool) (f : Int) (h1 : -1 ≤ f) (h2 : f ≤ 9223372036854775807) : PwAt ((w.setCell ⟨Q, 0, none⟩ (.bool b)).setCell ⟨Q, 1, none⟩ (.int .i64 f)) Q ⟨b, f⟩ := ⟨(h.blk.set 0 _).set 1 _, h1, h2⟩
theorem chgQ {w : World} (Q : Nat) (j : Nat) (v : Value) : Chg (fun k => k = Q) w (w.setCell ⟨Q, j, none⟩ v) := (Chg.refl (fun k => k = Q) w).setCell (.inl rfl) j v
theorem fuse_any (Q : Nat) (p : Pw) (n : Int) (w : World) (h : PwAt w Q p) (hn : n ≤ 9223372036854775807) : Calls Try.prog 13 #[.pointer (some ⟨Q, 0, none⟩), .int .i64 n] w fun e w' => e = .returned (.tuple #[]) ∧ PwAt w' Q (p.set n) ∧ Chg (fun k => k = Q) w w' := by
  have H := Lib.hid h
  have c1 := h.c1
  have f1 := h.blk.free 1
  clear h
  obtain ⟨on, fu⟩ := p
  go_enter Try.func13, Try.ntmps13
  cases on
  · go_wp2_with (go_at_call 18; refine (is_any _ _ _ H.out).mono ?_; rintro e w' ⟨rfl, rfl⟩)
    go_end0
    exact ⟨rfl, H.out, Chg.refl _ _⟩
  · go_wp2_with (go_at_call 18; refine (is_any _ _ _ H.out).mono ?_; rintro e w' ⟨rfl, rfl⟩)
    all_goals
      go_end0
      refine ⟨rfl, ?_, chgQ Q 1 _⟩
      have h2 := H.out.set1 (max n (-1)) (by omega) (by omega)
      first
        | exact h2
        | (have e : max n (-1) = n := by omega
           rw [e] at h2
           unfold Pw.set
           rw [if_pos rfl, e]
           exact h2)
        | (have e : max n (-1) = -1 := by omega
           rw [e] at h2
           unfold Pw.set
           rw [if_pos rfl, e]
           exact h2)
theorem back_any (Q : Nat) (p : Pw) (w : World) (h : PwAt w Q p) : Calls Try.prog 14 #[.pointer (some ⟨Q, 0, none⟩)] w fun e w' => e = .returned (.tuple #[]) ∧ PwAt w' Q ⟨true, -1⟩ ∧ Chg (fun k => k = Q) w w' := by
  have H := Lib.hid h
  have c0 := h.c0
  have c1 := h.c1
  have f0 := h.blk.free 0
  have f1 := h.blk.free 1
  clear h
  go_enter Try.func14, Try.ntmps14
  go_wp2
  go_end0
  exact ⟨rfl, H.out.set01 true (-1) (by omega) (by omega), (chgQ Q 0 _).trans' (chgQ Q 1 _)⟩
theorem step_any (Q : Nat) (p : Pw) (w : World) (h : PwAt w Q p) : Calls Try.prog 26 #[.pointer (some ⟨Q, 0, none⟩)] w fun e w' => e = .returned (.bool p.step.1) ∧ PwAt w' Q p.step.2 ∧ Chg (fun k => k = Q) w w' := by
  have H := Lib.hid h
  have c0 := h.c0
  have c1 := h.c1
  have f0 := h.blk.free 0
  have f1 := h.blk.free 1
  have hlo := h.lo
  have hhi := h.hi
  clear h
  obtain ⟨on, fu⟩ := p
  simp only at c0 c1 hlo hhi
  unfold Pw.step
  simp only
  cases on
  · rw [if_pos rfl]
    go_enter Try.func26, Try.ntmps26
    go_wp2_with (go_at_call 18; refine (is_any _ _ _ H.out).mono ?_; rintro e w' ⟨rfl, rfl⟩)
    go_ret
    exact ⟨rfl, H.out, Chg.refl _ _⟩
  · rw [if_neg (by simp)]
    by_cases h0 : fu = 0
    · rw [if_pos h0]
      subst h0
      go_enter Try.func26, Try.ntmps26
      go_wp2_with (go_at_call 18; refine (is_any _ _ _ H.out).mono ?_; rintro e w' ⟨rfl, rfl⟩)
      go_ret
      exact ⟨rfl, H.out.set01 false (-1) (by omega) (by omega), (chgQ Q 0 _).trans' (chgQ Q 1 _)⟩
    · rw [if_neg h0]
      by_cases h1 : 0 < fu
      · rw [if_pos h1]
        have hw := IntWalk.i64_in (fu - 1) (by omega)
        go_enter Try.func26, Try.ntmps26
        go_wp2_with (go_at_call 18; refine (is_any _ _ _ H.out).mono ?_; rintro e w' ⟨rfl, rfl⟩)
        go_ret
        exact ⟨rfl, H.out.set1 (fu - 1) (by omega) (by omega), chgQ Q 1 _⟩
      · rw [if_neg h1]
        go_enter Try.func26, Try.ntmps26
        go_wp2_with (go_at_call 18; refine (is_any _ _ _ H.out).mono ?_; rintro e w' ⟨rfl, rfl⟩)
        go_ret
        exact ⟨rfl, H.out, Chg.refl _ _⟩

end Go.Proofs.Ytchbeaogbjmddaa
