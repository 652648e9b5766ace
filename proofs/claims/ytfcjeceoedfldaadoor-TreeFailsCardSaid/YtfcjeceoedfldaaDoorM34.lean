/- TreeMaps: the law's walk. -/
import Derived.Test.YtfcjeceoedfldaaDoorM33
import Derived.Test.YtfcjeceoedfldaaDoorM30
namespace Go.Proofs.YtfcjeceoedfldaaDoor
open Go.RowKit

attribute [local go_sem] Oper.semAt_some

/-- A map of the law's, that lies in boxes. -/
def MapB (K : Bxs) (v : Value) (h : List Pt) : Prop := h.length = 64 ∧ ∃ b, RowB 37 41 b v 64 (prows h) ∧ ∀ y ∈ b, y ∈ K
theorem MapB.mono {K K' : Bxs} {v : Value} {h : List Pt} (m : MapB K v h) (hs : ∀ y ∈ K, y ∈ K') : MapB K' v h := by
  obtain ⟨h1, b, h2, h3⟩ := m
  exact ⟨h1, b, h2, fun y hy => hs y (h3 y hy)⟩
theorem MapB.form {K : Bxs} {v : Value} {h : List Pt} (m : MapB K v h) : ∃ g c, v = .slice (some ⟨g, 0, none⟩) 64 c ∧ 64 ≤ c := by
  obtain ⟨_, b, ⟨_, h2⟩, _⟩ := m
  rcases h2 with ⟨_, h3, _⟩ | ⟨g, cap, cs, e, _, hc, _⟩
  · omega
  · exact ⟨g, cap, e, hc⟩
theorem MapB.src {w X : World} {D : Nat} {s : Sh} {bs K : Bxs} {v : Value} {h : List Pt} (m : MapB K v h) (hF : Fr w D s bs X) (hs : ∀ y ∈ K, y ∈ bs) (hok : ∀ p ∈ h, p.OK) : SrcM X v h := by
  obtain ⟨h1, b, h2, h3⟩ := m
  rw [← h1] at h2
  exact OwnM.src (hF.row h2 (fun y hy => hs y (h3 y hy))) hok
end Go.Proofs.YtfcjeceoedfldaaDoor
/- The law's turned. -/
namespace Go.Proofs.YtfcjeceoedfldaaDoor
open Go.RowKit

attribute [local go_sem] Oper.semAt_some

/-- What turned looks at. -/
structure TdS (vw vn vh vx mdv gnv : Value) (was now h hN made gone : List Pt) (D : Nat) (w X : World) : Prop where
  fw : SrcM X vw was
  fn : SrcM X vn now
  fh : SrcM X vh h
  fx : SrcM X vx hN
  md : X.cell? ⟨D, 2, none⟩ = some mdv
  gn : X.cell? ⟨D, 3, none⟩ = some gnv
  fm : SrcM X mdv made
  fg : SrcM X gnv gone
  D : D < X.heap.size
  bel : Below w.heap.size w X
theorem TdS.grown {vw vn vh vx mdv gnv : Value} {was now h hN made gone : List Pt} {D : Nat} {w X Y : World} (s : TdS vw vn vh vx mdv gnv was now h hN made gone D w X) (hb : Below X.heap.size X Y) : TdS vw vn vh vx mdv gnv was now h hN made gone D w Y :=
  ⟨s.fw.grown hb, s.fn.grown hb, s.fh.grown hb, s.fx.grown hb, (hb.cell (p := ⟨D, 2, none⟩) s.D).trans s.md, (hb.cell (p := ⟨D, 3, none⟩) s.D).trans s.gn, s.fm.grown hb, s.fg.grown hb, Nat.lt_of_lt_of_le s.D hb.size, s.bel.trans (hb.mono s.bel.size)⟩
end Go.Proofs.YtfcjeceoedfldaaDoor
/- TreeMaps: the law's walk. -/
namespace Go.Proofs.YtfcjeceoedfldaaDoor
open Go.RowKit

attribute [local go_sem] Oper.semAt_some

theorem fr_add {w X Y : World} {D : Nat} {s : Sh} {b bs : Bxs} (h : Fr w D s bs X) (hb : Below X.heap.size X Y) (hn : ∀ y ∈ b, Blk Y y.1 y.2.1 y.2.2 ∧ X.heap.size ≤ y.1) : Fr w D s (b ++ bs) Y :=
  h.turn (F := fun _ => False) (Chg.of_below hb) (fun g hf => hf.elim) (fun y hy => by
    rcases List.mem_append.1 hy with hy | hy
    · exact ⟨(hn y hy).1, .inl (hn y hy).2⟩
    · exact ⟨(h.bx y hy).below hb (h.bx y hy).lt, .inr ⟨y, hy, rfl⟩⟩)
theorem ex_iaPu {ρ : Operand → Value} {o : Oper} {x y : Operand} {g n cap k : Nat} {w : World} (ho : o.op = .indexAddr 28 x y) (hx : ρ x = .slice (some ⟨g, 0, none⟩) n cap) (hy : ρ y = .int .u32 (k : Int)) (hk : k < n ∧ n ≤ cap) :
    (execOp ρ o).run Tryd.prog w = .ok (.value (.pointer (some ⟨g, k * 41, none⟩))) w := by
  have h1 : ¬ n ≤ k := by omega
  unfold execOp
  simp only [ho]
  go_simp
theorem ex_mk64h {h0 : List Pt} (hh : h0 = List.replicate 64 zeroP) {ρ : Operand → Value} {o : Oper} {w : World} (ho : o.op = .makeSlice 28 (.const (.int .i64 64)) (.const (.int .i64 64))) (hx : ρ (.const (.int .i64 64)) = .int .i64 64) : (execOp ρ o).run Tryd.prog w = .ok (.value (.slice (some ⟨w.heap.size, 0, none⟩) 64 64)) (w.alloc (.cells (prows h0).toArray 37)) := by
  subst hh
  exact ex_mk64 ho hx
theorem ex_ldSl {ρ : Operand → Value} {o : Oper} {x : Operand} {ad : Addr} {v : Value} {w : World} (ho : o.op = .load 28 x) (hx : ρ x = .pointer (some ad)) (hc : w.cell? ad = some v) : (execOp ρ o).run Tryd.prog w = .ok (.value v) w := by
  unfold execOp; simp only [ho]; go_simp
end Go.Proofs.YtfcjeceoedfldaaDoor
