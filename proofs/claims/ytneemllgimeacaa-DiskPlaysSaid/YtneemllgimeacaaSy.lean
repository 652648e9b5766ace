/- Lose, Astray, Die on both. -/
import Derived.Test.YtneemllgimeacaaAk
namespace Go.Proofs.Ytneemllgimeacaa
open Go.RowKit

theorem Sim.loses {s : Dsk} {t : Rsk} (h : Sim s t) : Sim { s with lose := true } { t with lose := true } := ⟨h.n, h.b, h.bad, h.stuck, h.cache, h.dead, rfl, h.astray⟩
theorem Sim.strays {s : Dsk} {t : Rsk} (h : Sim s t) (x : Nat) : Sim { s with astray := some x } { t with astray := some x } := ⟨h.n, h.b, h.bad, h.stuck, h.cache, h.dead, h.lose, rfl⟩
theorem Sim.dies {s : Dsk} {t : Rsk} (h : Sim s t) : Sim { s with dead := true } { t with dead := true } := ⟨h.n, h.b, h.bad, h.stuck, h.cache, rfl, h.lose, h.astray⟩
theorem own_one (w : World) (x : Nat) : OwnN (w.alloc (.cells #[.int .u16 (x : Int)] 41)) w.heap.size (.slice (some ⟨w.heap.size, 0, none⟩) 1 1) [x] :=
  ⟨rfl, .inr ⟨w.heap.size, 1, #[.int .u16 (x : Int)], rfl, Nat.le_refl _, heap_alloc_new w _, Nat.le_refl _, by unfold maxLen; omega, rfl, rfl⟩⟩
/-- The next write goes astray. -/
theorem stray_put {w : World} {D q : Nat} {vm vc vb vs va : Value} {S : Nat → Prop} {t : Rsk} (h : RkIn w D q vm vc vb vs va S t) (hq : q < w.heap.size) (x : Nat) :
    (w.alloc (.cells #[.int .u16 (x : Int)] 41)).cell? ⟨D, 8, none⟩ = some va ∧ (w.alloc (.cells #[.int .u16 (x : Int)] 41)).frozen? ⟨D, 8, none⟩ = false ∧
      RkAt ((w.alloc (.cells #[.int .u16 (x : Int)] 41)).setCell ⟨D, 8, none⟩ (.slice (some ⟨w.heap.size, 0, none⟩) 1 1)) D q (Ext S w ((w.alloc (.cells #[.int .u16 (x : Int)] 41)).setCell ⟨D, 8, none⟩ (.slice (some ⟨w.heap.size, 0, none⟩) 1 1))) { t with astray := some x } ∧
      Chg (fun k => k = D) w ((w.alloc (.cells #[.int .u16 (x : Int)] 41)).setCell ⟨D, 8, none⟩ (.slice (some ⟨w.heap.size, 0, none⟩) 1 1)) := by
  have hz : Below w.heap.size w (w.alloc (.cells #[.int .u16 (x : Int)] 41)) := (Below.refl _ _).alloc (Nat.le_refl _) _
  have ho := own_one w x
  generalize w.alloc (.cells #[.int .u16 (x : Int)] 41) = Z at hz ho ⊢
  have hc : Chg (fun _ => False) w Z := Chg.of_below hz
  have hbD : Blk Z D (rcells q vm vc vb vs va t) 40 := h.blk.chg hc id
  obtain ⟨h1, h2⟩ := h.put (j := 8) (u := .slice (some ⟨w.heap.size, 0, none⟩) 1 1) (vm' := vm) (vc' := vc) (vb' := vb) (vs' := vs) (va' := .slice (some ⟨w.heap.size, 0, none⟩) 1 1) (t' := { t with astray := some x }) hq hc id rfl h.nlt (owns_chg h.om hc (fun _ _ h => h)) (owns_chg h.oc hc (fun _ _ h => h)) (owns_chg h.ob hc (fun _ _ h => h)) (owns_chg h.os hc (fun _ _ h => h)) (own0 ho)
    (fun g hg => .inl (h.sm g hg)) (fun g hg => .inl (h.sc g hg)) (fun g hg => .inl (h.sb g hg)) (fun g hg => .inl (h.ss g hg)) (own_new ho (Nat.le_refl _)) h.ap
  exact ⟨hbD.cell rfl, hbD.free 8, ⟨_, _, _, _, _, h1⟩, h2.mono (fun k hk => by rcases hk with hk | hk; exact hk.elim; exact hk)⟩
end Go.Proofs.Ytneemllgimeacaa
