/- What the document says of an act: what does what it says. -/
import Derived.Test.YtneemllgimeacaaSy
import Derived.Test.YtneemllgimeacaaGr
import Derived.Test.YtneemllgimeacaaTx
namespace Go.Proofs.Ytneemllgimeacaa
open Go.RowKit

/-- What the document says of an act: its answer, its error, its disk, its power. -/
def said (t : Rsk) (p : Pw) (a : Ac) : Bs × Int × Rsk × Pw :=
  match a.act with
  | 0 => ([], rwrote t p a.addr (abytes a))
  | 1 => (rreadB t p a.addr, rreadE t p a.addr, t, p)
  | 2 => ([], rflushed t p)
  | 3 => ([], 0, rcrashed t a.z, p)
  | 4 => ([], (rfault t 0 a.addr (abytes a)).1, (rfault t 0 a.addr (abytes a)).2, p)
  | 5 => ([], (rfault t 1 a.addr (abytes a)).1, (rfault t 1 a.addr (abytes a)).2, p)
  | 6 => ([], (rfault t 2 a.addr (abytes a)).1, (rfault t 2 a.addr (abytes a)).2, p)
  | 7 => ([], 0, { t with lose := true }, p)
  | 8 => ([], 0, { t with astray := some a.addr }, p)
  | 9 => ([], 0, { t with dead := true }, p)
  | 10 => ([], 0, t, p.set a.n)
  | 11 => ([], 0, t, ⟨true, -1⟩)
  | _ => ([], if p.step.1 then 0 else 3, t, p.step.2)
/-- What is left behind an act that the document speaks of. -/
def Spoke (R q : Nat) (T : Nat → Prop) (r : Bs × Int × Rsk × Pw) (w : World) (e : Ending) (w' : World) : Prop :=
  e = .returned (.tuple #[.string (bstr r.1), .int .i64 r.2.1]) ∧ RkAt w' R q (Ext T w w') r.2.2.1 ∧ RpAt w' q r.2.2.2 ∧ Chg (fun k => T k ∨ k = q) w w'
/-- What is asked ahead of it. -/
structure Asks (w : World) (R q : Nat) (T : Nat → Prop) (t : Rsk) (p : Pw) (a : Ac) : Prop where
  rk : RkAt w R q T t
  rp : RpAt w q p
  room : Room t
  ok : AcOK w a
  len : a.b.length ≤ 600
  al : ∀ x, t.astray = some x → x < 65536
  sp : 0 < a.z.length → ∀ ad, a.spz = some ad → ¬ T ad.block
  bp : 0 < a.b.length → ∀ ad, a.spb = some ad → ¬ T ad.block ∧ ad.block ≠ q
theorem Asks.grown {w w' : World} {R q : Nat} {T : Nat → Prop} {t : Rsk} {p : Pw} {a : Ac} (h : Asks w R q T t p a) (hb : Below w.heap.size w w') : Asks w' R q T t p a :=
  ⟨h.rk.chg (Chg.of_below (F := fun _ => False) hb) (fun _ _ h => h), h.rp.chg (Chg.of_below (F := fun _ => False) hb) (fun h => h), h.room, h.ok.below hb (Nat.le_refl _), h.len, h.al, h.sp, h.bp⟩
theorem Asks.drew {w : World} {R q : Nat} {T : Nat → Prop} {t : Rsk} {p : Pw} {a : Ac} (h : Asks w R q T t p a) : Asks w.drew R q T t p a := h.grown (Below.refl _ _).drew
theorem Spoke.since {R q : Nat} {T : Nat → Prop} {r : Bs × Int × Rsk × Pw} {w w1 : World} {e : Ending} {w' : World} (h : Spoke R q T r w1 e w') (hb : Below w.heap.size w w1) (hq : q < w.heap.size) : Spoke R q T r w e w' := by
  obtain ⟨h1, h2, h3, h4⟩ := h
  exact ⟨h1, h2.ext2 hb.size hq, h3, ((Chg.of_below (F := fun _ => False) hb).mono (fun _ h => h.elim)).trans' h4⟩
/-- Bytes that lie out of what turns stay. -/
theorem SrcA.stays {F : Nat → Prop} {w w' : World} {sp : Option Addr} {b : Bs} (h : SrcA w sp b) (hc : Chg F w w') (hn : 0 < b.length → ∀ ad, sp = some ad → ¬ F ad.block) : SrcA w' sp b := fun h0 => by
  obtain ⟨g, o, rfl, hg, hcl⟩ := h h0
  exact ⟨g, o, rfl, Nat.lt_of_lt_of_le hg hc.size, fun j hj => (World.cell?_of_block (w := w) (hc.block g hg (hn h0 _ rfl))).trans (hcl j hj)⟩
/-- An act's bytes, and where they lie. -/
def Abs3 (w : World) (a : Ac) (u : Value) (w' : World) : Prop := ∃ sp cap, u = .slice sp (abytes a).length cap ∧ SrcA w' sp (abytes a) ∧ Below w.heap.size w w' ∧ ((a.short = true ∧ sp = a.spb) ∨ (∀ ad, sp = some ad → w.heap.size ≤ ad.block))
set_option maxRecDepth 100000 in
theorem bytes3_any (a : Ac) (w : World) (h : AcOK w a) (hb : a.b.length ≤ 600) : Calls Try.prog 33 #[aval a] w fun e w' => ∃ u, e = .returned u ∧ Abs3 w a u w' := by
  obtain ⟨act, d, addr, b, spb, capb, short, n, z, spz, capz⟩ := a
  have H := Lib.hid h
  unfold aval Abs3 abytes
  simp only at hb ⊢
  clear h
  cases short
  · simp only [Bool.false_eq_true, if_false]
    go_enter Try.func33, Try.ntmps33
    go_wp2_with (first | (go_at_call 34; refine (full_any b spb b.length capb rfl (by omega) _ (H.out.b.grown ((Below.refl _ _).alloc (Nat.le_refl _) _))).mono ?_; rintro e w1 ⟨v, rfl, ho, hw⟩; have HO := Lib.hid ho; have HW := Lib.hid hw; clear ho hw) | fail)
    go_ret
    obtain ⟨sp, cap, rfl, h1, h2, h3, _, h5⟩ := HO.out.form
    exact ⟨_, rfl, sp, cap, rfl, h3, ((Below.refl _ _).alloc (Nat.le_refl _) _).trans (HW.out.mono (by simp)), .inr (fun ad e => by have := (h5 ad e).1; simp at this; omega)⟩
  · simp only [if_true]
    go_enter Try.func33, Try.ntmps33
    go_wp2_with fail
    go_ret
    exact ⟨_, rfl, spb, capb, rfl, H.out.b.grown ((Below.refl _ _).alloc (Nat.le_refl _) _), (Below.refl _ _).alloc (Nat.le_refl _) _, .inl ⟨trivial, rfl⟩⟩
theorem ex_conv42 {ρ : Operand → Value} {o : Oper} {x : Operand} {sp : Option Addr} {l : Bs} {cap : Nat} {w : World} (ho : o.op = .convert 42 9 x) (hx : ρ x = .slice sp l.length cap) (hs : SrcA w sp l) : (execOp ρ o).run Try.prog w = .ok (.value (.string (bstr l))) w := by
  have hr := conv_str (cap := cap) hs
  unfold execOp
  simp only [ho, hx, Sem.run_bind, hr, Result.andThen_ok, Sem.run_pure]
/-- The act's box. -/
def Boxed (g : Nat) (a : Ac) (X : World) : Prop := ∀ j, j < 7 → X.cell? ⟨g, j, none⟩ = some (a.cell j)
theorem Boxed.stays {F : Nat → Prop} {w w' : World} {g : Nat} {a : Ac} (h : Boxed g a w) (hc : Chg F w w') (hg : g < w.heap.size) (hn : ¬ F g) : Boxed g a w' := fun j hj => (World.cell?_of_block (a := ⟨g, j, none⟩) (hc.block g hg hn)).trans (h j hj)
theorem Boxed.drew {w : World} {g : Nat} {a : Ac} (h : Boxed g a w) : Boxed g a w.drew := h
theorem Boxed.new (a : Ac) (w : World) : Boxed w.heap.size a (w.alloc (.cells #[a.cell 0, a.cell 1, a.cell 2, a.cell 3, a.cell 4, a.cell 5, a.cell 6] 45)) := fun j hj => by
  have hb : Blk (w.alloc (.cells #[a.cell 0, a.cell 1, a.cell 2, a.cell 3, a.cell 4, a.cell 5, a.cell 6] 45)) w.heap.size [a.cell 0, a.cell 1, a.cell 2, a.cell 3, a.cell 4, a.cell 5, a.cell 6] 45 := Blk.new w _ 45
  match j, hj with
  | 0, _ | 1, _ | 2, _ | 3, _ | 4, _ | 5, _ | 6, _ => exact hb.cell rfl
theorem Boxed.load {g : Nat} {a : Ac} {X : World} (h : Boxed g a X) {ρ : Operand → Value} {o : Oper} {x : Operand} (ho : o.op = .load 45 x) (hx : ρ x = .pointer (some ⟨g, 0, none⟩)) : (execOp ρ o).run Try.prog X = .ok (.value (aval a)) X :=
  ex_ld45 ho hx (fun j hj => by rw [Nat.zero_add]; exact h j hj)
end Go.Proofs.Ytneemllgimeacaa
