/- TableTops, whatever came in. -/
import Derived.Test.YtjgjohdeeeoeoaaGreatDoorM42
import Derived.Test.YtjgjohdeeeoeoaaGreatDoorM12
import Derived.Test.YtjgjohdeeeoeoaaGreatDoorM09
namespace Go.Proofs.YtjgjohdeeeoeoaaGreatDoor
open Go.RowKit
attribute [local go_sem] Oper.semAt_some
set_option maxRecDepth 100000 in
theorem tableTops_walk (g : Nat) (hg : g < 18446744073709551616) (p : Pt) (hp : p.OK) (l : Bs) (sp : Option Addr) (cap : Nat) (w : World) (hc : l.length ≤ cap) (_hm : cap ≤ maxLen) (hz : sp = none → cap = 0) (hS : SrcA w sp l) (hT : RTab w) :
    Calls Tryz.prog 3 #[.int .u64 (g : Int), .agg (pcells p).toArray, .slice sp l.length cap] w fun e w' => e = .returned (.bool true) ∧ Below w.heap.size w w' := by
  by_cases hl : l.length ≤ 600
  · exact tableTops_go (g, p) ⟨hg, hp⟩ l sp cap hc hz hl w hS hT
  · have HT : Hid (RTab (w.alloc (.cells (pcells p).toArray 28))) := Lib.hid (hT.alloc _)
    have HB : Hid (Below w.heap.size w (w.alloc (.cells (pcells p).toArray 28))) := Lib.hid ((Below.refl _ _).alloc (Nat.le_refl _) _)
    obtain ⟨L, hL⟩ : ∃ L, l.length = L := ⟨_, rfl⟩
    rw [hL] at hl ⊢
    have i1 : (600 : Int) < (L : Int) := by omega
    clear hp hg hL hl hc hz hS hT
    go_enter Tryz.func3, Tryz.ntmps3
    go_wp2_with fail
    generalize (w.alloc (.cells (pcells p).toArray 28)) = W at HT HB ⊢
    refine (ulwakes_any W HT.out).mono ?_
    rintro e w2 ⟨rfl, hb2⟩
    have HE := Lib.hid (HB.out.trans (hb2.mono HB.out.size))
    clear hb2
    go_wp2_with fail
    go_ret
    exact ⟨rfl, HE.out⟩
end Go.Proofs.YtjgjohdeeeoeoaaGreatDoor
namespace Go.Proofs.YtjgjohdeeeoeoaaGreatDoor
open Go.ChangeShapes Go.WideShapes Go.ChangeAt Go.WideMaps Go.WideElems Go.RowKit
def laidK : List (String × DataW Unit) := [("kintsugi/ptr.rules", Rows.laid_kintsugi_ptr_rules)]
theorem gK : (laidK.map fun x => Tryz.prog.globalNamed x.1) = [some 0] := by kernel_rfl
theorem door_met (os : Os) (args : Array Value) : laidMetH Tryz.prog laidK ((World.doorLaid Tryz.prog 400 os).forCall (fun _ _ => 0) ⟨#[], args, []⟩).memory :=
  laidMetH_of_parts3 (fuel := 8) (laidMet_of_run' 8 (by kernel_rfl) (by kernel_rfl)) (by kernel_rfl) (by kernel_rfl)
theorem of_laid {W : World} (h : laidMetH Tryz.prog laidK W) : RTab W := by
  rw [MakeChecks.laidMetH_plain _ _ _ (by kernel_rfl)] at h
  obtain ⟨ps, ⟨g1, t1, cs1, f1, p1, q1, hg1, ht1, hv1, hd1, _, _⟩, _, _⟩ := h
  have hgg : [some g1] = [some 0] := by rw [← gK]; show _ = [Tryz.prog.globalNamed _]; rw [← hg1]
  simp only [List.cons.injEq, Option.some.injEq, and_true] at hgg
  obtain rfl := hgg
  obtain rfl := Option.some.inj (tRu.symm.trans ht1)
  have hc := trod_rules hd1 rfl
  obtain ⟨t, fr, hh⟩ := row_of hg1 hv1
  refine ⟨t, fr, ?_⟩
  rw [hh, ← hc]
section
variable {H : Type} {enc : TypeId × Value → H} {W : World} {b' : Nat} {spare : Nat → Bool} {held : Bool}
set_option maxRecDepth 100000 in
theorem open_u64 {b : Nat} {v : Value} {d : DataW H} {p : List MemPlace} (ho : Value.okWide Tryz.prog W .any b 22 v) (h : DataW.Trod enc Tryz.prog W b' spare held 22 v d p) : ∃ m : Nat, m < 18446744073709551616 ∧ v = .int .u64 (m : Int) := by
  obtain ⟨z, e, _, _, hw⟩ := open_int Tryz.underlying22 ho h
  have hb := bounds_u64 hw
  exact ⟨z.toNat, by omega, by rw [e, show ((z.toNat : Nat) : Int) = z by omega]⟩
end
end Go.Proofs.YtjgjohdeeeoeoaaGreatDoor
