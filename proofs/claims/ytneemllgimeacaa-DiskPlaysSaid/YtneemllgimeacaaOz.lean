/- The law's own blocks; operations by their values. -/
import Derived.Test.YtneemllgimeacaaGz
import Derived.Deep.DeepCutAuto
namespace Go.Proofs.Ytneemllgimeacaa
open Go.RowKit

theorem Sys.drew {B n : Nat} {w0 w : World} {C R : Nat → Nat} {Q q gd gw : Nat} {S T : Nat → Nat → Prop} {s : Nat → Dsk} {t : Nat → Rsk} {p r : Pw} {k : Nat} {own : Nat → Nat} (h : Sys B n w0 w C R Q q gd gw S T s t p r k own) : Sys B n w0 w.drew C R Q q gd gw S T s t p r k own := by
  have hc : Chg (fun _ => False) w w.drew := Chg.of_below (Below.refl _ _).drew
  exact ⟨fun i hi => (h.dk i hi).chg hc (fun _ _ h => h), fun i hi => (h.rk i hi).chg hc (fun _ _ h => h), h.pw.chg hc (fun h => h), h.rp.chg hc (fun h => h), h.bd, h.nn, h.cd, h.cw, h.os, h.ot, h.oQ, h.oq, h.od, h.ow, h.ld, h.lw, h.lb, h.bb, h.bel.drew⟩
theorem ex_ix30 {ρ : Operand → Value} {o : Oper} {x y : Operand} {g n cap k : Nat} {w : World} (ho : o.op = .indexAddr 30 x y) (hx : ρ x = .slice (some ⟨g, 0, none⟩) n cap) (hy : ρ y = .int .i64 (k : Int)) (hk : k < n) : (execOp ρ o).run Try.prog w = .ok (.value (.pointer (some ⟨g, k, none⟩))) w := by
  have hk' : (k : Int) < (n : Int) := by omega
  unfold execOp
  simp only [ho]
  go_simp
theorem ex_ix31 {ρ : Operand → Value} {o : Oper} {x y : Operand} {g n cap k : Nat} {w : World} (ho : o.op = .indexAddr 31 x y) (hx : ρ x = .slice (some ⟨g, 0, none⟩) n cap) (hy : ρ y = .int .i64 (k : Int)) (hk : k < n) : (execOp ρ o).run Try.prog w = .ok (.value (.pointer (some ⟨g, k, none⟩))) w := by
  have hk' : (k : Int) < (n : Int) := by omega
  unfold execOp
  simp only [ho]
  go_simp
theorem ex_ld32 {ρ : Operand → Value} {o : Oper} {x : Operand} {ad : Addr} {v : Value} {w : World} (ho : o.op = .load 32 x) (hx : ρ x = .pointer (some ad)) (hc : w.cell? ad = some v) : (execOp ρ o).run Try.prog w = .ok (.value v) w := by
  unfold execOp
  simp only [ho]
  go_simp
theorem ex_ld36 {ρ : Operand → Value} {o : Oper} {x : Operand} {ad : Addr} {v : Value} {w : World} (ho : o.op = .load 36 x) (hx : ρ x = .pointer (some ad)) (hc : w.cell? ad = some v) : (execOp ρ o).run Try.prog w = .ok (.value v) w := by
  unfold execOp
  simp only [ho]
  go_simp
theorem ex_neT9 {ρ : Operand → Value} {o : Oper} {x y : Operand} {l : Bs} {w : World} (ho : o.op = .binOp .neq 9 x y 9) (hx : ρ x = .string (bstr l)) (hy : ρ y = .string (bstr l)) : (execOp ρ o).run Try.prog w = .ok (.value (.bool false)) w := by
  unfold execOp
  simp only [ho]
  go_simp
theorem ex_neE {ρ : Operand → Value} {o : Oper} {x y : Operand} {z : Int} {w : World} (ho : o.op = .binOp .neq 33 x y 33) (hx : ρ x = .int .i64 z) (hy : ρ y = .int .i64 z) : (execOp ρ o).run Try.prog w = .ok (.value (.bool false)) w := by
  unfold execOp
  simp only [ho]
  go_simp
theorem ex_eqB {ρ : Operand → Value} {o : Oper} {x y : Operand} {b : Bool} {w : World} (ho : o.op = .binOp .eql 4 x y 4) (hx : ρ x = .bool b) (hy : ρ y = .bool (!b)) : (execOp ρ o).run Try.prog w = .ok (.value (.bool false)) w := by
  unfold execOp
  simp only [ho]
  cases b <;> go_simp
theorem ex_fa29z {ρ : Operand → Value} {o : Oper} {x : Operand} {g : Nat} {w : World} (ho : o.op = .fieldAddr 29 x 0) (hx : ρ x = .pointer (some ⟨g, 0, none⟩)) : (execOp ρ o).run Try.prog w = .ok (.value (.pointer (some ⟨g, 0, none⟩))) w := by
  unfold execOp
  simp only [ho]
  go_simp
theorem Boxed.of_blk {w : World} {g : Nat} {a : Ac} (h : Blk w g (alist a) 45) : Boxed g a w := fun j hj => by
  match j, hj with
  | 0, _ | 1, _ | 2, _ | 3, _ | 4, _ | 5, _ | 6, _ => exact h.cell rfl
/-- The copied act. -/
structure Cop (wr w : World) (a a7 : Ac) (gb : Nat) : Prop where
  e1 : a7.act = a.act
  e2 : a7.addr = a.addr
  e3 : abytes a7 = abytes a
  e4 : a7.n = a.n
  e5 : a7.z = a.z
  e6 : a7.spz = a.spz
  eb : a7.b = a.b
  blk : Blk w gb (alist a7) 45
  ok : AcOK w a7
  gbn : wr.heap.size ≤ gb
  own : 0 < a.b.length → ∃ gc ys, a7.spb = some ⟨gc, 0, none⟩ ∧ Blk w gc ys 5 ∧ a.b.length ≤ ys.length ∧ wr.heap.size ≤ gc ∧ gc ≠ gb
  bel : Below wr.heap.size wr w
theorem copied {wr w5 w6 : World} {a : Ac} {gb : Nat} {spc : Option Addr} {capc : Nat} (hgb : wr.heap.size = gb) (h5 : Blk w5 gb (alist a) 45) (hb5 : Below wr.heap.size wr w5) (hown : OwnB w6 w5.heap.size (.slice spc a.b.length capc) a.b) (hb6 : Below w5.heap.size w5 w6) (hok : AcOK wr a) :
    Cop wr (w6.setCell ⟨gb, 3, none⟩ (.slice spc a.b.length capc)) a { a with spb := spc, capb := capc } gb := by
  have h6 : Blk w6 gb (alist a) 45 := h5.below hb6 h5.lt
  have hc : Chg (fun k => k = gb) w6 (w6.setCell ⟨gb, 3, none⟩ (.slice spc a.b.length capc)) := chg1 3 _
  have hne : ∀ g, (Value.slice spc a.b.length capc).ownBlock = some g → g ≠ gb := fun g hg e => by
    have := (hown.lt g hg).1
    have := h5.lt
    omega
  have hown7 : OwnB (w6.setCell ⟨gb, 3, none⟩ (.slice spc a.b.length capc)) w5.heap.size (.slice spc a.b.length capc) a.b := owns_chg hown hc hne
  obtain ⟨sp', cap', e, q1, q2, q3, q4, q5⟩ := OwnB.form hown7
  cases e
  have hbel : Below wr.heap.size wr (w6.setCell ⟨gb, 3, none⟩ (.slice spc a.b.length capc)) := by
    have h1 : Chg (fun _ => False) wr w6 := Chg.of_below (hb5.trans (hb6.mono hb5.size))
    exact (h1.setCell (.inr (by omega)) 3 _).below (fun _ h => h.elim) (Nat.le_refl _)
  refine ⟨rfl, rfl, rfl, rfl, rfl, rfl, rfl, h6.set 3 _, ⟨hok.act, hok.d, hok.addr, q3, q1, q2, hok.n1, hok.n2, hok.z.below hbel (Nat.le_refl _), hok.cz, hok.mz, q4⟩, by omega, fun h0 => ?_, hbel⟩
  rcases hown7.2 with ⟨e, hz⟩ | ⟨g, cap, cur, e, hB, hg, hcap, hmx, hcs, _⟩
  · omega
  · cases e
    have h1 := hb5.size
    have h2 := h5.lt
    exact ⟨g, cur.toList, rfl, by unfold Blk; simpa using hg, by simp; omega, by omega, by omega⟩
/-- The copied act's own blocks: nobody's. -/
structure Free (w : World) (own : Nat → Nat) (a a7 : Ac) (gb : Nat) : Prop where
  blk : Blk w gb (alist a7) 45
  ogb : own gb = 0
  cp : 0 < a.b.length → ∃ gc ys, a7.spb = some ⟨gc, 0, none⟩ ∧ Blk w gc ys 5 ∧ a.b.length ≤ ys.length ∧ own gc = 0 ∧ gc ≠ gb
theorem Cop.free {wr w : World} {a a7 : Ac} {gb : Nat} (h : Cop wr w a a7 gb) (own : Nat → Nat) : Free w (lab own wr 0) a a7 gb :=
  ⟨h.blk, lab_new h.gbn, fun h0 => by
    obtain ⟨gc, ys, h1, h2, h3, h4, h5⟩ := h.own h0
    exact ⟨gc, ys, h1, h2, h3, lab_new h4, h5⟩⟩
theorem Free.chg {w w' : World} {own : Nat → Nat} {a a7 : Ac} {gb : Nat} (h : Free w own a a7 gb) {F : Nat → Prop} (hc : Chg F w w') (hF : ∀ g, own g = 0 → ¬ F g) (L : Nat) : Free w' (lab own w L) a a7 gb :=
  ⟨h.blk.chg hc (hF _ h.ogb), (lab_old h.blk.lt).trans h.ogb, fun h0 => by
    obtain ⟨gc, ys, h1, h2, h3, h4, h5⟩ := h.cp h0
    exact ⟨gc, ys, h1, h2.chg hc (hF _ h4), h3, (lab_old h2.lt).trans h4, h5⟩⟩
theorem Free.drew {w : World} {own : Nat → Nat} {a a7 : Ac} {gb : Nat} (h : Free w own a a7 gb) : Free w.drew own a a7 gb := ⟨h.blk, h.ogb, h.cp⟩
/-- A byte of the copy is put anew. -/
theorem Free.byte {w : World} {own : Nat → Nat} {a a7 : Ac} {gb gc m : Nat} (h : Free w own a a7 gb) (e : a7.spb = some ⟨gc, 0, none⟩) (h0 : 0 < a.b.length) (v : Value) : Free (w.setCell ⟨gc, m, none⟩ v) (lab own w 0) a a7 gb ∧ own gc = 0 := by
  obtain ⟨gc', ys, h1, h2, h3, h4, h5⟩ := h.cp h0
  rw [e] at h1
  cases h1
  have hc : Chg (fun k => k = gc) w (w.setCell ⟨gc, m, none⟩ v) := chg1 m v
  exact ⟨⟨h.blk.chg hc (fun hh => h5 hh.symm), (lab_old h.blk.lt).trans h.ogb, fun _ => ⟨gc, ys.set m v, e, h2.set m v, by simpa using h3, (lab_old h2.lt).trans h4, h5⟩⟩, h4⟩
theorem fo_own {B n : Nat} {w0 w : World} {C R : Nat → Nat} {Q q gd gw : Nat} {S T : Nat → Nat → Prop} {s : Nat → Dsk} {t : Nat → Rsk} {p r : Pw} {k : Nat} {own : Nat → Nat} (h : Sys B n w0 w C R Q q gd gw S T s t p r k own) {j : Nat} (hj : j < 2) : ∀ g, own g = 0 → ¬ Fo (S j) Q g := fun g h0 he => by
  rcases he with he | he
  · have := h.os j hj g he; omega
  · have := h.oQ; rw [he] at h0; omega
theorem to_own {B n : Nat} {w0 w : World} {C R : Nat → Nat} {Q q gd gw : Nat} {S T : Nat → Nat → Prop} {s : Nat → Dsk} {t : Nat → Rsk} {p r : Pw} {k : Nat} {own : Nat → Nat} (h : Sys B n w0 w C R Q q gd gw S T s t p r k own) {j : Nat} (hj : j < 2) : ∀ g, own g = 0 → ¬ (T j g ∨ g = q) := fun g h0 he => by
  rcases he with he | he
  · have := h.ot j hj g he; omega
  · have := h.oq; rw [he] at h0; omega
theorem fo_gd {B n : Nat} {w0 w : World} {C R : Nat → Nat} {Q q gd gw : Nat} {S T : Nat → Nat → Prop} {s : Nat → Dsk} {t : Nat → Rsk} {p r : Pw} {k : Nat} {own : Nat → Nat} (h : Sys B n w0 w C R Q q gd gw S T s t p r k own) {j : Nat} (hj : j < 2) : ¬ Fo (S j) Q gd := fun he => by
  have h7 := h.od
  rcases he with he | he
  · have := h.os j hj _ he; omega
  · have := h.oQ; rw [he] at h7; omega
theorem to_gw {B n : Nat} {w0 w : World} {C R : Nat → Nat} {Q q gd gw : Nat} {S T : Nat → Nat → Prop} {s : Nat → Dsk} {t : Nat → Rsk} {p r : Pw} {k : Nat} {own : Nat → Nat} (h : Sys B n w0 w C R Q q gd gw S T s t p r k own) {j : Nat} (hj : j < 2) : ¬ (T j gw ∨ gw = q) := fun he => by
  have h7 := h.ow
  rcases he with he | he
  · have := h.ot j hj _ he; omega
  · have := h.oq; rw [he] at h7; omega
theorem to_low {B n : Nat} {w0 w : World} {C R : Nat → Nat} {Q q gd gw : Nat} {S T : Nat → Nat → Prop} {s : Nat → Dsk} {t : Nat → Rsk} {p r : Pw} {k : Nat} {own : Nat → Nat} (h : Sys B n w0 w C R Q q gd gw S T s t p r k own) {j : Nat} (hj : j < 2) {g : Nat} (hg : g < B) : ¬ (T j g ∨ g = q) := fun he => by
  have h7 := h.lb g hg
  rcases he with he | he
  · have := h.ot j hj _ he; omega
  · have := h.oq; rw [he] at h7; omega
theorem Sims.up {s : Nat → Dsk} {t : Nat → Rsk} (h : ∀ i, i < 2 → Sim (s i) (t i)) {j : Nat} {s' : Dsk} {t' : Rsk} (hs : Sim s' t') : ∀ i, i < 2 → Sim (up1 s j s' i) (up1 t j t' i) := fun i hi => by
  by_cases hij : i = j
  · subst hij
    rw [up1_same, up1_same]
    exact hs
  · rw [up1_other _ _ hij, up1_other _ _ hij]
    exact h i hi
/-- Behind an act, on both sides. -/
def After (W : World) (nb : Nat) (C R : Nat → Nat) (Q q gd gw k : Nat) (a a7 : Ac) (gb : Nat) (w : World) : Prop :=
  ∃ S T s t p own, Sys W.heap.size nb W w C R Q q gd gw S T s t p p (k + 1) own ∧ (∀ j, j < 2 → Sim (s j) (t j)) ∧ Free w own a a7 gb
theorem Sys.acts {B n : Nat} {w0 w : World} {C R : Nat → Nat} {Q q gd gw : Nat} {S T : Nat → Nat → Prop} {s : Nat → Dsk} {t : Nat → Rsk} {p r : Pw} {k : Nat} {own : Nat → Nat} (h : Sys B n w0 w C R Q q gd gw S T s t p r k own) {j : Nat} (hj : j < 2) (hsim : Sim (s j) (t j)) (hk : k ≤ 100) {a : Ac} (hok : AcOK w a) (hb : a.b.length ≤ 600) (hz : 0 < a.z.length → ∀ ad, a.spz = some ad → ad.block < B) : Acts w (C j) Q (S j) (s j) p a :=
  ⟨h.dk j hj, h.pw, by rw [← hsim.cache]; have := (h.bd j hj).m; omega, hok, hb, fun h0 ad e hh => by have h1 := h.os j hj _ hh; have h2 := h.lb _ (hz h0 ad e); omega⟩
theorem Sys.asks {B n : Nat} {w0 w : World} {C R : Nat → Nat} {Q q gd gw : Nat} {S T : Nat → Nat → Prop} {s : Nat → Dsk} {t : Nat → Rsk} {p r : Pw} {k : Nat} {own : Nat → Nat} (h : Sys B n w0 w C R Q q gd gw S T s t p r k own) {j : Nat} (hj : j < 2) (hk : k ≤ 100) {a : Ac} (hok : AcOK w a) (hb : a.b.length ≤ 600) (hz : 0 < a.z.length → ∀ ad, a.spz = some ad → ad.block < B) (hbb : 0 < a.b.length → ∀ ad, a.spb = some ad → ad.block < B) : Asks w (R j) q (T j) (t j) r a :=
  ⟨h.rk j hj, h.rp, (h.bd j hj).room (by omega), hok, hb, (h.bd j hj).al, fun h0 ad e hh => by have h1 := h.ot j hj _ hh; have h2 := h.lb _ (hz h0 ad e); omega,
    fun h0 ad e => ⟨fun hh => by have h1 := h.ot j hj _ hh; have h2 := h.lb _ (hbb h0 ad e); omega, fun hh => by have h1 := h.oq; have h2 := h.lb _ (hbb h0 ad e); rw [hh] at h2; omega⟩⟩
theorem low_z {W : World} {a : Ac} (h : AcOK W a) : 0 < a.z.length → ∀ ad, a.spz = some ad → ad.block < W.heap.size := fun h0 ad e => by
  obtain ⟨g, o, e', hg, _⟩ := h.z.2 h0
  rw [e'] at e
  cases e
  exact hg
theorem low_b {W : World} {a : Ac} (h : AcOK W a) : 0 < a.b.length → ∀ ad, a.spb = some ad → ad.block < W.heap.size := fun h0 ad e => by
  obtain ⟨g, o, e', hg, _⟩ := h.b h0
  rw [e'] at e
  cases e
  exact hg
end Go.Proofs.Ytneemllgimeacaa
