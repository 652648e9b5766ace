/- What a law knows of a disk, of power, and of bytes of its own. -/
import Derived.Test.YtneemllgimeacaaFu
namespace Go.Proofs.Ytneemllgimeacaa
open Go.RowKit

/-- Bytes of the law's own, out of F. -/
def Mine (w : World) (F : Nat → Prop) (v : Value) (b : Bs) : Prop :=
  ∃ X cap, v = .slice (some ⟨X, 0, none⟩) b.length cap ∧ b.length ≤ cap ∧ cap ≤ maxLen ∧ SrcA w (some ⟨X, 0, none⟩) b ∧ ¬ F X ∧ X < w.heap.size
theorem SrcA.at {w w' : World} {X : Nat} {b : Bs} (h : SrcA w (some ⟨X, 0, none⟩) b) (hs : w.heap.size ≤ w'.heap.size) (hb : w'.heap[X]? = w.heap[X]?) : SrcA w' (some ⟨X, 0, none⟩) b := fun h0 => by
  obtain ⟨g, o, e, hg, hc⟩ := h h0
  cases e
  exact ⟨_, _, rfl, Nat.lt_of_lt_of_le hg hs, fun j hj => (World.cell?_of_block (w := w) hb).trans (hc j hj)⟩
theorem Mine.next {w w' : World} {F F' : Nat → Prop} {v : Value} {b : Bs} (h : Mine w F v b) (hc : Chg F w w') (hF : ∀ k, F' k → F k ∨ w.heap.size ≤ k) : Mine w' F' v b := by
  obtain ⟨X, cap, e, h1, h2, h3, h4, h5⟩ := h
  exact ⟨X, cap, e, h1, h2, h3.at hc.size (hc.block X h5 h4), fun hf => by rcases hF X hf with h | h; exact h4 h; omega, Nat.lt_of_lt_of_le h5 hc.size⟩
theorem Mine.grown {w w' : World} {F : Nat → Prop} {v : Value} {b : Bs} (h : Mine w F v b) (hc : Below w.heap.size w w') : Mine w' F v b := h.next (Chg.of_below hc) (fun _ h => .inl h)
theorem Mine.of_own {w : World} {F : Nat → Prop} {B : Nat} {v : Value} {b : Bs} (h : OwnB w B v b) (hb : 0 < b.length) (hF : ∀ k, F k → k < B) : Mine w F v b := by
  obtain ⟨sp, cap, rfl, h1, h2, h3, h4, h5⟩ := h.form
  obtain ⟨g, o, rfl, hg, hc⟩ := h3 hb
  have ho : o = 0 := by
    rcases h.2 with ⟨e, h0⟩ | ⟨g', cap', cur, e, _⟩
    · omega
    · cases e; rfl
  subst ho
  have h6 : B ≤ g := (h5 _ rfl).1
  exact ⟨g, cap, rfl, h1, h2, h3, fun hf => by have := hF _ hf; omega, hg⟩
structure Lw (B : Nat) (w0 w : World) (D Q : Nat) (S : Nat → Prop) (s : Dsk) (p : Pw) : Prop where
  dk : DkAt w D Q S s
  pw : PwAt w Q p
  bs : ∀ k, S k → B ≤ k
  bq : B ≤ Q
  bb : B ≤ w0.heap.size
  bel : Below B w0 w
def Fo (S : Nat → Prop) (Q : Nat) (k : Nat) : Prop := S k ∨ k = Q
theorem Lw.step {B : Nat} {w0 w w' : World} {D Q : Nat} {S : Nat → Prop} {s s' : Dsk} {p p' : Pw} (h : Lw B w0 w D Q S s p) (hd : DkAt w' D Q (Ext S w w') s') (hp : PwAt w' Q p') (hc : Chg (Fo S Q) w w') : Lw B w0 w' D Q (Ext S w w') s' p' :=
  ⟨hd, hp, fun k hk => by rcases hk with hk | hk; exact h.bs k hk; exact Nat.le_trans (Nat.le_trans h.bb h.bel.size) hk.1, h.bq, h.bb, h.bel.trans (hc.below (fun k hk => by rcases hk with hk | rfl; exact h.bs k hk; exact h.bq) (Nat.le_trans h.bb h.bel.size))⟩
theorem Lw.stay {B : Nat} {w0 w w' : World} {D Q : Nat} {S : Nat → Prop} {s s' : Dsk} {p p' : Pw} (h : Lw B w0 w D Q S s p) (hd : DkAt w' D Q S s') (hp : PwAt w' Q p') (hc : Chg (Fo S Q) w w') : Lw B w0 w' D Q S s' p' :=
  ⟨hd, hp, h.bs, h.bq, h.bb, h.bel.trans (hc.below (fun k hk => by rcases hk with hk | rfl; exact h.bs k hk; exact h.bq) (Nat.le_trans h.bb h.bel.size))⟩
theorem Lw.grown {B : Nat} {w0 w w' : World} {D Q : Nat} {S : Nat → Prop} {s : Dsk} {p : Pw} (h : Lw B w0 w D Q S s p) (hb : Below w.heap.size w w') : Lw B w0 w' D Q S s p :=
  ⟨h.dk.chg (Chg.of_below (F := fun _ => False) hb) (fun _ _ h => h), h.pw.chg (Chg.of_below (F := fun _ => False) hb) (fun h => h), h.bs, h.bq, h.bb, h.bel.trans (hb.mono (Nat.le_trans h.bb h.bel.size))⟩
theorem Lw.fo {B : Nat} {w0 w : World} {D Q : Nat} {S : Nat → Prop} {s : Dsk} {p : Pw} (h : Lw B w0 w D Q S s p) : ∀ k, Fo S Q k → k < w.heap.size := fun k hk => by rcases hk with hk | rfl; exact h.dk.lt k hk; exact h.pw.blk.lt
theorem fo_ext {S : Nat → Prop} {Q : Nat} {w w' : World} : ∀ k, Fo (Ext S w w') Q k → Fo S Q k ∨ w.heap.size ≤ k := fun k hk => by
  rcases hk with hk | hk
  · rcases hk with hk | hk
    · exact .inl (.inl hk)
    · exact .inr hk.1
  · exact .inl (.inr hk)
def p0 : Pw := ⟨true, -1⟩
theorem p0_step : p0.step = (true, p0) := by simp [p0, Pw.step]

/-- What the waking disk comes to. -/
def wk1 (A : Bs) : Dsk := (wrote (fresh 9) p0 3 A).2.1
def wk2 (A : Bs) : Dsk := (flushed (wk1 A) p0).2.1
def wk3 (A B : Bs) : Dsk := (wrote (wk2 A) p0 3 B).2.1
def wk4 (A B : Bs) : Dsk := crashed (wk3 A B) [6]
theorem wk1_is {A : Bs} (h : A.length = 512) : wrote (fresh 9) p0 3 A = (0, ⟨9, fun _ => blank, [(3, A)], false, false, none⟩, p0) := by
  simp [wrote, idle, fresh, p0, Pw.step, kept, h]
theorem wk2_is {A : Bs} (h : A.length = 512) : flushed (wk1 A) p0 = (0, ⟨9, Upd (fun _ => blank) 3 ⟨A, false, false⟩, [], false, false, none⟩, p0) := by
  have e : wk1 A = ⟨9, fun _ => blank, [(3, A)], false, false, none⟩ := by unfold wk1; rw [wk1_is h]
  rw [e]
  simp [flushed, idle, p0, Pw.step, settled, come1, blank, List.take_of_length_le (Nat.le_of_eq h), zeros_length, List.drop_of_length_le]
theorem wk3_is {A B : Bs} (h : A.length = 512) (h' : B.length = 512) : wrote (wk2 A) p0 3 B = (0, ⟨9, Upd (fun _ => blank) 3 ⟨A, false, false⟩, [(3, B)], false, false, none⟩, p0) := by
  have e : wk2 A = ⟨9, Upd (fun _ => blank) 3 ⟨A, false, false⟩, [], false, false, none⟩ := by unfold wk2; rw [wk2_is h]
  rw [e]
  simp [wrote, idle, p0, Pw.step, kept, h']
theorem wk4_is {A B : Bs} (h : A.length = 512) (h' : B.length = 512) : wk4 A B = ⟨9, Upd (Upd (fun _ => blank) 3 ⟨A, false, false⟩) 3 ⟨B.take 4 ++ A.drop 4, false, false⟩, [], false, false, none⟩ := by
  have e : wk3 A B = ⟨9, Upd (fun _ => blank) 3 ⟨A, false, false⟩, [(3, B)], false, false, none⟩ := by unfold wk3; rw [wk3_is h h']
  unfold wk4
  rw [e]
  simp [crashed, settled, come1, pickOf, left, Upd]
theorem wk4_reads {A B : Bs} (h : A.length = 512) (h' : B.length = 512) : readE (wk4 A B) p0 3 = 0 ∧ readB (wk4 A B) p0 3 = some (B.take 4 ++ A.drop 4) ∧ readE (wk4 A B) p0 9 = 1 ∧ readB (wk4 A B) p0 9 = none := by
  rw [wk4_is h h']
  simp [readE, readB, idle, p0, tells, lastOf, Upd]

section
variable {ops : Array Oper} {Q : Exit → Act → World → Prop}
theorem ex_cv {ρ : Operand → Value} {o : Oper} {x : Operand} {sp : Option Addr} {n cap : Nat} {l : Bs} {w : World} (ho : o.op = .convert 42 9 x) (hx : ρ x = .slice sp n cap) (hn : l.length = n) (hs : SrcA w sp l) : (execOp ρ o).run Try.prog w = .ok (.value (.string (bstr l))) w := by
  subst hn
  have hr := conv_str (cap := cap) hs
  unfold execOp
  simp only [ho]
  simp [hx, hr, Result.andThen]
end
theorem SrcA.take {w : World} {sp : Option Addr} {l : Bs} (h : SrcA w sp l) (k : Nat) : SrcA w sp (l.take k) := fun h0 => by
  have hl : 0 < l.length := by simp at h0; omega
  obtain ⟨g, o, e, hg, hc⟩ := h hl
  refine ⟨g, o, e, hg, fun j hj => ?_⟩
  have hj' : j < l.length := by simp at hj; omega
  rw [hc j hj']
  have hjk : j < k := by simp at hj; omega
  simp [List.getD_eq_getElem?_getD, List.getElem?_take, hjk]
theorem SrcA.drop {w : World} {g : Nat} {l : Bs} (h : SrcA w (some ⟨g, 0, none⟩) l) (k : Nat) : SrcA w (some ⟨g, k, none⟩) (l.drop k) := fun h0 => by
  have hl : 0 < l.length := by simp at h0; omega
  obtain ⟨g', o, e, hg, hc⟩ := h hl
  cases e
  refine ⟨_, _, rfl, hg, fun j hj => ?_⟩
  have hj' : k + j < l.length := by simp at hj; omega
  have := hc (k + j) hj'
  rw [Nat.zero_add] at this
  rw [this]
  simp [List.getD_eq_getElem?_getD]
end Go.Proofs.Ytneemllgimeacaa
