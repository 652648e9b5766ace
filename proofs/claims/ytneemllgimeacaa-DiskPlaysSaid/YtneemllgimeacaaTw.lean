/- Two disks that share power. -/
import Derived.Test.YtneemllgimeacaaWk
namespace Go.Proofs.Ytneemllgimeacaa
open Go.RowKit

structure Two (B : Nat) (w0 w : World) (C D Q : Nat) (SC SD : Nat → Prop) (sc sd : Dsk) (p : Pw) : Prop where
  dc : DkAt w C Q SC sc
  dd : DkAt w D Q SD sd
  pw : PwAt w Q p
  dis : ∀ k, SC k → ¬ SD k
  bc : ∀ k, SC k → B ≤ k
  bd : ∀ k, SD k → B ≤ k
  bq : B ≤ Q
  bb : B ≤ w0.heap.size
  bel : Below B w0 w
theorem Two.swap {B : Nat} {w0 w : World} {C D Q : Nat} {SC SD : Nat → Prop} {sc sd : Dsk} {p : Pw} (h : Two B w0 w C D Q SC SD sc sd p) : Two B w0 w D C Q SD SC sd sc p :=
  ⟨h.dd, h.dc, h.pw, fun k hd hc => h.dis k hc hd, h.bd, h.bc, h.bq, h.bb, h.bel⟩
theorem Two.grown {B : Nat} {w0 w w' : World} {C D Q : Nat} {SC SD : Nat → Prop} {sc sd : Dsk} {p : Pw} (h : Two B w0 w C D Q SC SD sc sd p) (hb : Below w.heap.size w w') : Two B w0 w' C D Q SC SD sc sd p :=
  ⟨h.dc.chg (Chg.of_below (F := fun _ => False) hb) (fun _ _ h => h), h.dd.chg (Chg.of_below (F := fun _ => False) hb) (fun _ _ h => h), h.pw.chg (Chg.of_below (F := fun _ => False) hb) (fun h => h), h.dis, h.bc, h.bd, h.bq, h.bb, h.bel.trans (hb.mono (Nat.le_trans h.bb h.bel.size))⟩
/-- The first disk, and the power, have turned. -/
theorem Two.stepE {B : Nat} {w0 w w' : World} {C D Q : Nat} {SC SD : Nat → Prop} {sc sd s' : Dsk} {p p' : Pw} (h : Two B w0 w C D Q SC SD sc sd p) (hd : DkAt w' C Q (Ext SC w w') s') (hp : PwAt w' Q p') (hc : Chg (Fo SC Q) w w') : Two B w0 w' C D Q (Ext SC w w') SD s' sd p' :=
  ⟨hd, h.dd.chg hc (fun k hk hf => by rcases hf with hf | rfl; exact h.dis k hf hk; exact h.dd.nq hk), hp, fun k hk hsd => by rcases hk with hk | hk; exact h.dis k hk hsd; have := h.dd.lt k hsd; omega,
    fun k hk => by rcases hk with hk | hk; exact h.bc k hk; exact Nat.le_trans (Nat.le_trans h.bb h.bel.size) hk.1, h.bd, h.bq, h.bb, h.bel.trans (hc.below (fun k hk => by rcases hk with hk | rfl; exact h.bc k hk; exact h.bq) (Nat.le_trans h.bb h.bel.size))⟩
theorem Two.stayE {B : Nat} {w0 w w' : World} {C D Q : Nat} {SC SD : Nat → Prop} {sc sd s' : Dsk} {p p' : Pw} (h : Two B w0 w C D Q SC SD sc sd p) (hd : DkAt w' C Q SC s') (hp : PwAt w' Q p') (hc : Chg (Fo SC Q) w w') : Two B w0 w' C D Q SC SD s' sd p' :=
  ⟨hd, h.dd.chg hc (fun k hk hf => by rcases hf with hf | rfl; exact h.dis k hf hk; exact h.dd.nq hk), hp, h.dis, h.bc, h.bd, h.bq, h.bb, h.bel.trans (hc.below (fun k hk => by rcases hk with hk | rfl; exact h.bc k hk; exact h.bq) (Nat.le_trans h.bb h.bel.size))⟩
/-- The power alone has turned. -/
theorem Two.power {B : Nat} {w0 w w' : World} {C D Q : Nat} {SC SD : Nat → Prop} {sc sd : Dsk} {p p' : Pw} (h : Two B w0 w C D Q SC SD sc sd p) (hp : PwAt w' Q p') (hc : Chg (fun k => k = Q) w w') : Two B w0 w' C D Q SC SD sc sd p' :=
  h.stayE (h.dc.power hc) hp (hc.mono (fun _ h => .inr h))
theorem Two.fo {B : Nat} {w0 w : World} {C D Q : Nat} {SC SD : Nat → Prop} {sc sd : Dsk} {p : Pw} (h : Two B w0 w C D Q SC SD sc sd p) : ∀ k, Fo SC Q k → k < w.heap.size := fun k hk => by rcases hk with hk | rfl; exact h.dc.lt k hk; exact h.pw.blk.lt

def m00 : Nat → Bk := fun _ => blank
def pd (l : List (Nat × Bs)) : Dsk := ⟨4, m00, l, false, false, none⟩
def pwAt (k f : Nat) : Pw := if k ≤ f then ⟨true, (f : Int) - (k : Int)⟩ else ⟨false, -1⟩
def okI (k f : Nat) : Int := if k < f then 0 else 3
theorem pd_wrote (l : List (Nat × Bs)) (k f a : Nat) (b : Bs) (ha : a < 4) (hb : b.length = 512) : wrote (pd l) (pwAt k f) a b = (okI k f, pd (if k < f then l ++ [(a, b)] else l), pwAt (k + 1) f) := by
  unfold wrote okI
  rcases Nat.lt_trichotomy k f with h | h | h
  · have e : pwAt k f = ⟨true, (f : Int) - (k : Int)⟩ := by unfold pwAt; rw [if_pos (by omega)]
    have e2 : pwAt (k + 1) f = ⟨true, (f : Int) - (k : Int) - 1⟩ := by unfold pwAt; rw [if_pos (by omega)]; simp; omega
    have e3 : ¬ ((f : Int) - (k : Int) = 0) := by omega
    have e4 : (k : Int) < (f : Int) := by omega
    rw [e, e2]
    simp [idle, pd, Pw.step, ha, hb, kept, h, e3, e4]
  · subst h
    have e : pwAt k k = ⟨true, 0⟩ := by unfold pwAt; rw [if_pos (Nat.le_refl _)]; simp
    have e2 : pwAt (k + 1) k = ⟨false, -1⟩ := by unfold pwAt; rw [if_neg (by omega)]
    rw [e, e2]
    simp [idle, pd, Pw.step, ha, hb]
  · have e : pwAt k f = ⟨false, -1⟩ := by unfold pwAt; rw [if_neg (by omega)]
    have e2 : pwAt (k + 1) f = ⟨false, -1⟩ := by unfold pwAt; rw [if_neg (by omega)]
    rw [e, e2]
    have h' : ¬ k < f := by omega
    simp [idle, pd, h']
def Wrote2 (B : Nat) (w0 : World) (C D Q : Nat) (SD : Nat → Prop) (lc : List (Nat × Bs)) (sd : Dsk) (k f : Nat) (e : Ending) (w' : World) : Prop :=
  ∃ SC' lc', Two B w0 w' C D Q SC' SD (pd lc') sd (pwAt (k + 1) f) ∧ lc'.length = lc.length + (if k < f then 1 else 0) ∧ e = .returned (.int .i64 (okI k f))
theorem two_write {B : Nat} {w0 w : World} {C D Q : Nat} {SC SD : Nat → Prop} {lc : List (Nat × Bs)} {sd : Dsk} {k f : Nat} (h : Two B w0 w C D Q SC SD (pd lc) sd (pwAt k f)) (a : Nat) (ha : a < 4) (b : Bs) (hb : b.length = 512) (sp : Option Addr) (cap : Nat) (hS : SrcA w sp b) (hl : lc.length < 1000000) :
    Calls Try.prog 25 #[.pointer (some ⟨C, 0, none⟩), .int .u16 (a : Int), .slice sp 512 cap] w (Wrote2 B w0 C D Q SD lc sd k f) := by
  refine (write_any C Q SC (pd lc) (pwAt k f) a b sp 512 cap (by omega) hb w hS h.dc h.pw hl).mono ?_
  rintro e w' hh
  unfold Wrote at hh
  rw [pd_wrote lc k f a b ha hb] at hh
  obtain ⟨rfl, hd, hp, hc⟩ := hh
  refine ⟨_, _, h.stepE hd hp hc, ?_, rfl⟩
  split <;> simp
end Go.Proofs.Ytneemllgimeacaa
