/- Pointers that came in; the tables as they are laid. -/
import Derived.Test.YtecngehkdjmjmaaDoorM05
import Derived.Deep.QuietTactic
import Derived.BigQuiet
import Derived.StillTailTactics
import Derived.WalkKit
import Derived.Lib.Hide
import Derived.Test.YtecngehkdjmjmaaDoorM02
import Derived.Test.YtecngehkdjmjmaaDoorM14
import Derived.ProofKit
import Derived.LaidMore
import Derived.OpenShut
import Derived.Stop.Joined
import Derived.Test.YtecngehkdjmjmaaDoorM10
namespace Go.Proofs.YtecngehkdjmjmaaDoor
open Go.ChangeShapes Go.WideShapes Go.ChangeAt Go.WideMaps Go.WideElems Go.RowKit

theorem tRu : (Tryd.prog.globals[0]?).map (·.type) = some 98 := by kernel_rfl
theorem cellsRu : Tryd.prog.cellsOf 89 = 3 := by kernel_rfl
theorem cellsRus : Tryd.prog.cellsOf 98 = 18 := by kernel_rfl
theorem cellsInt : Tryd.prog.cellsOf 3 = 1 := by kernel_rfl
section
variable {H : Type} {enc : TypeId × Value → H} {W : World} {spare : Nat → Bool} {held : Bool} {b' : Nat}
set_option maxRecDepth 100000 in
theorem open_u8 {b : Nat} {v : Value} {d : DataW H} {p : List MemPlace} (ho : Value.okWide Tryd.prog W .any b 5 v) (h : DataW.Trod enc Tryd.prog W b' spare held 5 v d p) : ∃ m : Nat, m < 256 ∧ v = .int .u8 (m : Int) := by
  obtain ⟨z, e, _, _, hw⟩ := open_int Tryd.underlying5 ho h
  have hb := bounds_u8 hw
  exact ⟨z.toNat, by omega, by rw [e, show ((z.toNat : Nat) : Int) = z by omega]⟩
theorem three {α : Type} : ∀ cs : List α, cs.length = 3 → ∃ a b c, cs = [a, b, c]
  | [a, b, c], _ => ⟨a, b, c, rfl⟩
set_option maxRecDepth 100000 in
theorem trod_rule {fuel : Nat} {cs : List Value} {x : DataW H × List MemPlace} (h : DataW.trod enc Tryd.prog W b' spare held fuel 89 cs = some x) : ∃ a b c, cs = [.int .i64 a, .int .u8 b, .int .u8 c] ∧ x.1 = .agg [.lit (.int .i64 a), .lit (.int .u8 b), .lit (.int .u8 c)] := by
  obtain ⟨xs, k, _, rfl, hl, hxl, hfl⟩ := DataW.trod_struct Tryd.underlying89 h
  rw [cellsRu] at hl
  obtain ⟨c0, c1, c2, rfl⟩ := three cs hl
  match xs, hxl with
  | [y0, y1, y2], _ =>
    have g0 := hfl 0 _ rfl
    have g1 := hfl 1 _ rfl
    have g2 := hfl 2 _ rfl
    simp [cellsB, cellsInt] at g0 g1 g2
    obtain ⟨z0, e0, f0, _⟩ := DataW.trod_int Tryd.underlying3 g0
    obtain ⟨z1, e1, f1, _⟩ := DataW.trod_int Tryd.underlying5 g1
    obtain ⟨z2, e2, f2, _⟩ := DataW.trod_int Tryd.underlying5 g2
    refine ⟨z0, z1, z2, ?_, ?_⟩
    · simp at e0 e1 e2
      rw [e0, e1, e2]
    · rw [f0, f1, f2]; rfl
theorem cut18 (cs : List Value) (hl : cs.length = 18) : cs = cs.take 3 ++ ((cs.drop 3).take 3 ++ ((cs.drop 6).take 3 ++ ((cs.drop 9).take 3 ++ ((cs.drop 12).take 3 ++ (cs.drop 15).take 3)))) := by
  have g : ∀ n m, (cs.drop n).take m ++ cs.drop (n + m) = cs.drop n := fun n m => by rw [← List.drop_drop, List.take_append_drop]
  have h1 : (cs.drop 15).take 3 = cs.drop 15 := List.take_of_length_le (by simp [hl])
  rw [h1, g 12 3, g 9 3, g 6 3, g 3 3, List.take_append_drop]
set_option maxRecDepth 100000 in
theorem trod_rules {fuel : Nat} {cs : List Value} {x : DataW H × List MemPlace} (h : DataW.trod enc Tryd.prog W b' spare held fuel 98 cs = some x) (hx : x.1 = Rows.laid_kintsugi_ptr_rules) : cs = (List.range 6).flatMap rcell := by
  obtain ⟨xs, m, rfl, rfl, hl, hn, hel⟩ := DataW.trod_array Tryd.underlying98 h
  rw [cellsRus] at hl
  rw [cellsRu] at hel
  match xs, hn with
  | [y0, y1, y2, y3, y4, y5], _ =>
    obtain ⟨a0, b0, c0, e0, f0⟩ := trod_rule (x := y0) (hel 0 (by omega))
    obtain ⟨a1, b1, c1, e1, f1⟩ := trod_rule (x := y1) (hel 1 (by omega))
    obtain ⟨a2, b2, c2, e2, f2⟩ := trod_rule (x := y2) (hel 2 (by omega))
    obtain ⟨a3, b3, c3, e3, f3⟩ := trod_rule (x := y3) (hel 3 (by omega))
    obtain ⟨a4, b4, c4, e4, f4⟩ := trod_rule (x := y4) (hel 4 (by omega))
    obtain ⟨a5, b5, c5, e5, f5⟩ := trod_rule (x := y5) (hel 5 (by omega))
    simp only [List.map_cons, List.map_nil, f0, f1, f2, f3, f4, f5, Rows.laid_kintsugi_ptr_rules, DataW.agg.injEq, List.cons.injEq, DataW.lit.injEq, Lit.int.injEq, true_and, and_true] at hx
    rw [cut18 cs hl]
    simp only [Nat.zero_mul, List.drop_zero] at e0
    rw [e0, e1, e2, e3, e4, e5]
    obtain ⟨⟨rfl, rfl, rfl⟩, ⟨rfl, rfl, rfl⟩, ⟨rfl, rfl, rfl⟩, ⟨rfl, rfl, rfl⟩, ⟨rfl, rfl, rfl⟩, ⟨rfl, rfl, rfl⟩⟩ := hx
    rfl
end
theorem row_of {W : World} {n : String} {g : Nat} {cs : Array Value} (hg : Tryd.prog.globalNamed n = some g) (hv : W.var? Tryd.prog n = some cs) : ∃ t fr, W.heap[g]? = some (.cells cs t fr) := by
  unfold World.var? at hv
  rw [hg] at hv
  simp only [Option.bind_some] at hv
  split at hv
  · rename_i cs' t fr hh
    obtain rfl := Option.some.inj hv
    exact ⟨t, fr, hh⟩
  · cases hv
end Go.Proofs.YtecngehkdjmjmaaDoor
/- Inodes that came in; the table of kinds as it is laid. -/
namespace Go.Proofs.YtecngehkdjmjmaaDoor
open Go.ChangeShapes Go.WideShapes Go.ChangeAt Go.WideMaps Go.WideElems Go.RowKit

def laidK : List (String × DataW Unit) := [("kintsugi/ptr.rules", Rows.laid_kintsugi_ptr_rules)]
theorem gK : (laidK.map fun x => Tryd.prog.globalNamed x.1) = [some 0] := by kernel_rfl
theorem door_met (os : Os) (args : Array Value) : laidMetH Tryd.prog laidK ((World.doorLaid Tryd.prog 400 os).forCall (fun _ _ => 0) ⟨#[], args, []⟩).memory :=
  laidMetH_of_parts3 (fuel := 8) (laidMet_of_run' 8 (by kernel_rfl) (by kernel_rfl)) (by kernel_rfl) (by kernel_rfl)
theorem of_laid {W : World} (h : laidMetH Tryd.prog laidK W) : RTab W := by
  rw [MakeChecks.laidMetH_plain _ _ _ (by kernel_rfl)] at h
  obtain ⟨ps, ⟨g1, t1, cs1, f1, p1, q1, hg1, ht1, hv1, hd1, _, _⟩, _, _⟩ := h
  have hgg : [some g1] = [some 0] := by rw [← gK]; show _ = [Tryd.prog.globalNamed _]; rw [← hg1]
  simp only [List.cons.injEq, Option.some.injEq, and_true] at hgg
  obtain rfl := hgg
  obtain rfl := Option.some.inj (tRu.symm.trans ht1)
  have hc := trod_rules hd1 rfl
  obtain ⟨t, fr, hh⟩ := row_of hg1 hv1
  refine ⟨t, fr, ?_⟩
  rw [hh, ← hc]
section
variable {H : Type} {enc : TypeId × Value → H} {W : World} {b' : Nat} {spare : Nat → Bool} {held : Bool}
set_option maxRecDepth 100000 in
theorem open_u32 {b : Nat} {v : Value} {d : DataW H} {p : List MemPlace} (ho : Value.okWide Tryd.prog W .any b 23 v) (h : DataW.Trod enc Tryd.prog W b' spare held 23 v d p) : ∃ m : Nat, m < 4294967296 ∧ v = .int .u32 (m : Int) := by
  obtain ⟨z, e, _, _, hw⟩ := open_int Tryd.underlying23 ho h
  have hb := bounds_u32 hw
  exact ⟨z.toNat, by omega, by rw [e, show ((z.toNat : Nat) : Int) = z by omega]⟩
end
end Go.Proofs.YtecngehkdjmjmaaDoor
