/- Pointers that came in; the tables as they are laid. -/
import Derived.Test.YtmgagalhpkieoaaGreatDoorM15
import Derived.Test.YtmgagalhpkieoaaGreatDoorM17
import Derived.Test.YtmgagalhpkieoaaGreatDoorM37
import Derived.ProofKit
import Derived.LaidMore
import Derived.OpenShut
import Derived.Stop.Joined
import Derived.Test.YtmgagalhpkieoaaGreatDoorM28
import Derived.Test.YtmgagalhpkieoaaGreatDoorM27
import Derived.Test.YtmgagalhpkieoaaGreatDoorM33
import Derived.Test.YtmgagalhpkieoaaGreatDoorM36
import Derived.Test.YtmgagalhpkieoaaGreatDoorM24
import Derived.Laws.CopyOwn
namespace Go.Proofs.YtmgagalhpkieoaaGreatDoor
open Go.ChangeShapes Go.WideShapes Go.ChangeAt Go.WideMaps Go.WideElems Go.RowKit

def laidK : List (String × DataW Unit) := [("kintsugi/sha.constants", Rows.laid_kintsugi_sha_constants), ("kintsugi/ptr.rules", Rows.laid_kintsugi_ptr_rules)]
theorem gK : (laidK.map fun x => Tryz.prog.globalNamed x.1) = [some 1, some 0] := by kernel_rfl
theorem tK : (Tryz.prog.globals[1]?).map (·.type) = some 208 := by kernel_rfl
theorem tRu : (Tryz.prog.globals[0]?).map (·.type) = some 179 := by kernel_rfl
theorem cells36 : Tryz.prog.cellsOf 53 = 1 := by kernel_rfl
theorem cells52 : Tryz.prog.cellsOf 208 = 64 := by kernel_rfl
theorem cellsRu : Tryz.prog.cellsOf 136 = 3 := by kernel_rfl
theorem cellsRus : Tryz.prog.cellsOf 179 = 18 := by kernel_rfl
theorem cellsInt : Tryz.prog.cellsOf 3 = 1 := by kernel_rfl
theorem door_met (os : Os) (args : Array Value) : laidMetH Tryz.prog laidK ((World.doorLaid Tryz.prog 400 os).forCall (fun _ _ => 0) ⟨#[], args, []⟩).memory :=
  laidMetH_of_parts3 (fuel := 8) (laidMet_of_run' 8 (by kernel_rfl) (by kernel_rfl)) (by kernel_rfl) (by kernel_rfl)
theorem exists_list (P : Nat → Int → Prop) : ∀ n : Nat, (∀ i, i < n → ∃ m, P i m) → ∃ ns : List Int, ns.length = n ∧ ∀ i, i < n → P i (ns.getD i 0)
  | 0, _ => ⟨[], rfl, fun i hi => by omega⟩
  | n + 1, h => by
    obtain ⟨ns, hl, hp⟩ := exists_list P n (fun i hi => h i (by omega))
    obtain ⟨m, hm⟩ := h n (by omega)
    refine ⟨ns ++ [m], by simp [hl], fun i hi => ?_⟩
    by_cases hin : i < n
    · have := hp i hin
      rw [List.getD_eq_getElem?_getD, List.getElem?_append_left (by omega), ← List.getD_eq_getElem?_getD]
      exact this
    · obtain rfl : i = n := by omega
      rw [List.getD_eq_getElem?_getD, List.getElem?_append_right (by omega)]
      simpa [hl] using hm
theorem trod_int_array {H : Type} {enc : TypeId × Value → H} {P : Program} {w : World} {base fuel : Nat} {spare : Nat → Bool} {held : Bool} {t e n : Nat} {k : IntKind} {cs : List Value} {x : DataW H × List MemPlace}
    (ht : P.underlying t = some (.array n e)) (he : P.underlying e = some (.int k)) (hc : P.cellsOf e = 1) (hct : P.cellsOf t = n) (h : DataW.trod enc P w base spare held fuel t cs = some x) :
    ∃ ns : List Int, ns.length = n ∧ cs = ns.map (Value.int k) ∧ x.1 = .agg (ns.map fun m => .lit (.int k m)) ∧ ∀ i, i < n → (Lit.int k (ns.getD i 0)).wf = true := by
  obtain ⟨xs, m, rfl, rfl, hl, hn, hel⟩ := DataW.trod_array ht h
  obtain ⟨ns, hnl, hns⟩ := exists_list (fun i m => cs[i]? = some (.int k m) ∧ (xs[i]?).map (·.1) = some (.lit (.int k m)) ∧ (Lit.int k m).wf = true) n (fun i hi => by
    have h1 := hel i hi
    rw [hc, Nat.mul_one] at h1
    have hxi : xs[i]? = some xs[i] := List.getElem?_eq_getElem (by omega)
    rw [hxi] at h1
    obtain ⟨q, e1, e2, e3⟩ := DataW.trod_int he h1
    refine ⟨q, ?_, by rw [hxi]; simp [e2], e3⟩
    have hci : i < cs.length := by omega
    have e4 : (cs.drop i).take 1 = [cs[i]] := by
      rw [List.drop_eq_getElem_cons hci]; rfl
    rw [e4] at e1
    rw [List.getElem?_eq_getElem hci]
    simpa using e1)
  refine ⟨ns, hnl, ?_, ?_, fun i hi => (hns i hi).2.2⟩
  · apply List.ext_getElem?
    intro i
    by_cases hi : i < n
    · rw [(hns i hi).1, List.getElem?_map, List.getElem?_eq_getElem (by omega)]
      simp [List.getD_eq_getElem?_getD, List.getElem?_eq_getElem (show i < ns.length by omega)]
    · rw [List.getElem?_eq_none (by omega), List.getElem?_eq_none (by simp; omega)]
  · show DataW.agg _ = DataW.agg _
    refine congrArg DataW.agg ?_
    apply List.ext_getElem?
    intro i
    by_cases hi : i < n
    · rw [List.getElem?_map, (hns i hi).2.1, List.getElem?_map, List.getElem?_eq_getElem (by omega)]
      simp [List.getD_eq_getElem?_getD, List.getElem?_eq_getElem (show i < ns.length by omega)]
    · rw [List.getElem?_eq_none (by simp; omega), List.getElem?_eq_none (by simp; omega)]
theorem lits_inj {H : Type} {k : IntKind} : ∀ (a b : List Int), (a.map fun m => (DataW.lit (.int k m) : DataW H)) = b.map (fun m => .lit (.int k m)) → a = b
  | [], [], _ => rfl
  | [], _ :: _, h => by simp at h
  | _ :: _, [], h => by simp at h
  | x :: a, y :: b, h => by
    simp only [List.map_cons, List.cons.injEq, DataW.lit.injEq, Lit.int.injEq, true_and] at h
    rw [h.1, lits_inj a b h.2]
section
variable {H : Type} {enc : TypeId × Value → H} {W : World} {spare : Nat → Bool} {held : Bool} {b' : Nat}
theorem bytes_of {n : Nat} {ns : List Int} (hl : ns.length = n) (hw : ∀ i, i < n → (Lit.int .u8 (ns.getD i 0)).wf = true) : ns.map (Value.int .u8) = (ns.map fun m => BitVec.ofNat 8 m.toNat).map V8 := by
  rw [List.map_map]
  apply List.map_congr_left
  intro m hm
  obtain ⟨i, hi, rfl⟩ := List.mem_iff_getElem.1 hm
  have hbd := bounds_u8 (hw i (by omega))
  rw [List.getD_eq_getElem?_getD, List.getElem?_eq_getElem hi] at hbd
  simp only [Option.getD_some] at hbd
  simp only [Function.comp_apply, V8, N8, BitVec.toNat_ofNat]
  congr 1
  omega
theorem u16_of {n : Nat} {ns : List Int} (hl : ns.length = n) (hw : ∀ i, i < n → (Lit.int .u16 (ns.getD i 0)).wf = true) : ns.map (Value.int .u16) = (ns.map Int.toNat).map U16 ∧ ∀ x ∈ ns.map Int.toNat, x < 65536 := by
  have hb : ∀ m ∈ ns, 0 ≤ m ∧ m < 65536 := fun m hm => by
    obtain ⟨i, hi, rfl⟩ := List.mem_iff_getElem.1 hm
    have hbd := bounds_u16 (hw i (by omega))
    rw [List.getD_eq_getElem?_getD, List.getElem?_eq_getElem hi] at hbd
    simp only [Option.getD_some] at hbd
    omega
  constructor
  · rw [List.map_map]
    apply List.map_congr_left
    intro m hm
    have := hb m hm
    simp only [Function.comp_apply, U16]
    congr 1
    omega
  · intro x hx
    obtain ⟨m, hm, rfl⟩ := List.mem_map.1 hx
    have := hb m hm
    omega
theorem cellsU16 : Tryz.prog.cellsOf 52 = 1 := by kernel_rfl
theorem cellsU32 : Tryz.prog.cellsOf 53 = 1 := by kernel_rfl
theorem cellsU64 : Tryz.prog.cellsOf 54 = 1 := by kernel_rfl
theorem cellsA32 : Tryz.prog.cellsOf 55 = 32 := by kernel_rfl
theorem cellsAts : Tryz.prog.cellsOf 56 = 4 := by kernel_rfl
theorem cellsP : Tryz.prog.cellsOf 58 = 41 := by kernel_rfl
theorem cut_parts (cs : List Value) (hl : cs.length = 41) : cs = cs.take 1 ++ ((cs.drop 1).take 1 ++ ((cs.drop 2).take 1 ++ ((cs.drop 3).take 1 ++ ((cs.drop 4).take 1 ++ ((cs.drop 5).take 32 ++ (cs.drop 37).take 4))))) := by
  have g : ∀ n m, (cs.drop n).take m ++ cs.drop (n + m) = cs.drop n := fun n m => by rw [← List.drop_drop, List.take_append_drop]
  have h1 : (cs.drop 37).take 4 = cs.drop 37 := List.take_of_length_le (by simp [hl])
  rw [h1, g 5 32, g 4 1, g 3 1, g 2 1, g 1 1, List.take_append_drop]
theorem cells_ptr {fuel : Nat} {cs : List Value} {x : DataW H × List MemPlace} (h : DataW.trod enc Tryz.prog W b' spare held fuel 58 cs = some x) : ∃ p : Pt, p.OK ∧ cs = pcells p := by
  obtain ⟨xs, k, _, _, hl, hxl, hfl⟩ := DataW.trod_struct Tryz.underlying58 h
  rw [cellsP] at hl
  match xs, hxl with
  | [y0, y1, y2, y3, y4, y5, y6], _ =>
    have g0 := hfl 0 _ rfl
    have g1 := hfl 1 _ rfl
    have g2 := hfl 2 _ rfl
    have g3 := hfl 3 _ rfl
    have g4 := hfl 4 _ rfl
    have g5 := hfl 5 _ rfl
    have g6 := hfl 6 _ rfl
    simp [cellsB, cellsU16, cellsU32, cellsU64, cellsA32, cellsAts] at g0 g1 g2 g3 g4 g5 g6
    obtain ⟨z0, e0, _, w0⟩ := DataW.trod_int Tryz.underlying5 g0
    obtain ⟨z1, e1, _, w1⟩ := DataW.trod_int Tryz.underlying5 g1
    obtain ⟨z2, e2, _, w2⟩ := DataW.trod_int Tryz.underlying52 g2
    obtain ⟨z3, e3, _, w3⟩ := DataW.trod_int Tryz.underlying53 g3
    obtain ⟨z4, e4, _, w4⟩ := DataW.trod_int Tryz.underlying54 g4
    obtain ⟨n5, l5, e5, _, w5⟩ := trod_int_array Tryz.underlying55 Tryz.underlying5 cellsB cellsA32 g5
    obtain ⟨n6, l6, e6, _, w6⟩ := trod_int_array Tryz.underlying56 Tryz.underlying52 cellsU16 cellsAts g6
    have b0 := bounds_u8 w0
    have b1 := bounds_u8 w1
    have b2 := bounds_u16 w2
    have b3 := bounds_u32 w3
    have b4 := bounds_u64 w4
    obtain ⟨u1, u2⟩ := u16_of l6 w6
    refine ⟨⟨z0.toNat, z1.toNat, z2.toNat, z3.toNat, z4.toNat, n5.map fun m => BitVec.ofNat 8 m.toNat, n6.map Int.toNat⟩, ⟨by simp only; omega, by simp only; omega, by simp only; omega, by simp only; omega, by simp only; omega, by simp [l5], by simp [l6], u2⟩, ?_⟩
    rw [bytes_of l5 w5] at e5
    rw [u1] at e6
    have hcp := cut_parts cs hl
    have tl : (cs.drop 1).take 1 = cs.tail.take 1 := by rw [List.drop_one]
    rw [tl] at hcp
    rw [hcp]
    first | rw [e0, e1, e2, e3, e4, e5, e6] | rw [List.drop_one, e0, e1, e2, e3, e4, e5, e6]
    simp only [pcells, pnums]
    rw [show ((z0.toNat : Nat) : Int) = z0 by omega, show ((z1.toNat : Nat) : Int) = z1 by omega, show ((z2.toNat : Nat) : Int) = z2 by omega, show ((z3.toNat : Nat) : Int) = z3 by omega, show ((z4.toNat : Nat) : Int) = z4 by omega]
    rfl
set_option maxRecDepth 100000 in
theorem open_u8 {b : Nat} {v : Value} {d : DataW H} {p : List MemPlace} (ho : Value.okWide Tryz.prog W .any b 5 v) (h : DataW.Trod enc Tryz.prog W b' spare held 5 v d p) : ∃ m : Nat, m < 256 ∧ v = .int .u8 (m : Int) := by
  obtain ⟨z, e, _, _, hw⟩ := open_int Tryz.underlying5 ho h
  have hb := bounds_u8 hw
  exact ⟨z.toNat, by omega, by rw [e, show ((z.toNat : Nat) : Int) = z by omega]⟩
theorem three {α : Type} : ∀ cs : List α, cs.length = 3 → ∃ a b c, cs = [a, b, c]
  | [a, b, c], _ => ⟨a, b, c, rfl⟩
set_option maxRecDepth 100000 in
theorem trod_rule {fuel : Nat} {cs : List Value} {x : DataW H × List MemPlace} (h : DataW.trod enc Tryz.prog W b' spare held fuel 136 cs = some x) : ∃ a b c, cs = [.int .i64 a, .int .u8 b, .int .u8 c] ∧ x.1 = .agg [.lit (.int .i64 a), .lit (.int .u8 b), .lit (.int .u8 c)] := by
  obtain ⟨xs, k, _, rfl, hl, hxl, hfl⟩ := DataW.trod_struct Tryz.underlying136 h
  rw [cellsRu] at hl
  obtain ⟨c0, c1, c2, rfl⟩ := three cs hl
  match xs, hxl with
  | [y0, y1, y2], _ =>
    have g0 := hfl 0 _ rfl
    have g1 := hfl 1 _ rfl
    have g2 := hfl 2 _ rfl
    simp [cellsB, cellsInt] at g0 g1 g2
    obtain ⟨z0, e0, f0, _⟩ := DataW.trod_int Tryz.underlying3 g0
    obtain ⟨z1, e1, f1, _⟩ := DataW.trod_int Tryz.underlying5 g1
    obtain ⟨z2, e2, f2, _⟩ := DataW.trod_int Tryz.underlying5 g2
    refine ⟨z0, z1, z2, ?_, ?_⟩
    · simp at e0 e1 e2
      rw [e0, e1, e2]
    · rw [f0, f1, f2]; rfl
theorem cut18 (cs : List Value) (hl : cs.length = 18) : cs = cs.take 3 ++ ((cs.drop 3).take 3 ++ ((cs.drop 6).take 3 ++ ((cs.drop 9).take 3 ++ ((cs.drop 12).take 3 ++ (cs.drop 15).take 3)))) := by
  have g : ∀ n m, (cs.drop n).take m ++ cs.drop (n + m) = cs.drop n := fun n m => by rw [← List.drop_drop, List.take_append_drop]
  have h1 : (cs.drop 15).take 3 = cs.drop 15 := List.take_of_length_le (by simp [hl])
  rw [h1, g 12 3, g 9 3, g 6 3, g 3 3, List.take_append_drop]
set_option maxRecDepth 100000 in
theorem trod_rules {fuel : Nat} {cs : List Value} {x : DataW H × List MemPlace} (h : DataW.trod enc Tryz.prog W b' spare held fuel 179 cs = some x) (hx : x.1 = Rows.laid_kintsugi_ptr_rules) : cs = (List.range 6).flatMap rcell := by
  obtain ⟨xs, m, rfl, rfl, hl, hn, hel⟩ := DataW.trod_array Tryz.underlying179 h
  rw [cellsRus] at hl
  rw [cellsRu] at hel
  match xs, hn with
  | [y0, y1, y2, y3, y4, y5], _ =>
    obtain ⟨a0, b0, c0, e0, f0⟩ := trod_rule (x := y0) (hel 0 (by omega))
    obtain ⟨a1, b1, c1, e1, f1⟩ := trod_rule (x := y1) (hel 1 (by omega))
    obtain ⟨a2, b2, c2, e2, f2⟩ := trod_rule (x := y2) (hel 2 (by omega))
    obtain ⟨a3, b3, c3, e3, f3⟩ := trod_rule (x := y3) (hel 3 (by omega))
    obtain ⟨a4, b4, c4, e4, f4⟩ := trod_rule (x := y4) (hel 4 (by omega))
    obtain ⟨a5, b5, c5, e5, f5⟩ := trod_rule (x := y5) (hel 5 (by omega))
    simp only [List.map_cons, List.map_nil, f0, f1, f2, f3, f4, f5, Rows.laid_kintsugi_ptr_rules, DataW.agg.injEq, List.cons.injEq, DataW.lit.injEq, Lit.int.injEq, true_and, and_true] at hx
    rw [cut18 cs hl]
    simp only [Nat.zero_mul, List.drop_zero] at e0
    rw [e0, e1, e2, e3, e4, e5]
    obtain ⟨⟨rfl, rfl, rfl⟩, ⟨rfl, rfl, rfl⟩, ⟨rfl, rfl, rfl⟩, ⟨rfl, rfl, rfl⟩, ⟨rfl, rfl, rfl⟩, ⟨rfl, rfl, rfl⟩⟩ := hx
    rfl
end
theorem row_of {W : World} {n : String} {g : Nat} {cs : Array Value} (hg : Tryz.prog.globalNamed n = some g) (hv : W.var? Tryz.prog n = some cs) : ∃ t fr, W.heap[g]? = some (.cells cs t fr) := by
  unfold World.var? at hv
  rw [hg] at hv
  simp only [Option.bind_some] at hv
  split at hv
  · rename_i cs' t fr hh
    obtain rfl := Option.some.inj hv
    exact ⟨t, fr, hh⟩
  · cases hv
theorem of_laid {W : World} (h : laidMetH Tryz.prog laidK W) : Tab W ∧ RTab W := by
  rw [MakeChecks.laidMetH_plain _ _ _ (by kernel_rfl)] at h
  obtain ⟨ps, ⟨g0, t0, cs0, f0, p0, q0, hg0, ht0, hv0, hd0, ⟨g1, t1, cs1, f1, p1, q1, hg1, ht1, hv1, hd1, _, _⟩, _⟩, _, _⟩ := h
  have hgg : [some g0, some g1] = [some 1, some 0] := by rw [← gK]; show _ = [Tryz.prog.globalNamed _, Tryz.prog.globalNamed _]; rw [← hg0, ← hg1]
  simp only [List.cons.injEq, Option.some.injEq, and_true] at hgg
  obtain ⟨rfl, rfl⟩ := hgg
  obtain rfl := Option.some.inj (tK.symm.trans ht0)
  obtain rfl := Option.some.inj (tRu.symm.trans ht1)
  constructor
  · obtain ⟨ns, _, h2, h3, _⟩ := trod_int_array Tryz.underlying208 Tryz.underlying53 cells36 cells52 hd0
    have hn : ns = KC.map N32 := by
      refine lits_inj (H := Unit) (k := .u32) _ _ ?_
      have h4 := (DataW.agg.inj h3).symm
      rw [h4]
      rfl
    subst hn
    obtain ⟨t, fr, hh⟩ := row_of hg0 hv0
    refine ⟨t, fr, ?_⟩
    rw [hh]
    have : cs0 = (KC.map V32).toArray := by
      apply Array.toList_inj.1
      rw [h2, List.map_map]
      rfl
    rw [this]
  · have hc := trod_rules hd1 rfl
    obtain ⟨t, fr, hh⟩ := row_of hg1 hv1
    refine ⟨t, fr, ?_⟩
    rw [hh, ← hc]
end Go.Proofs.YtmgagalhpkieoaaGreatDoor
/- Acts on a mirror that came in; whether they are great. -/
namespace Go.Proofs.YtmgagalhpkieoaaGreatDoor
open Go.ChangeShapes Go.WideShapes Go.ChangeAt Go.RowKit Go.Deep

structure Ma where
  d : Nat
  p : Pt
  b : Bs
  sp : Option Addr
  cap : Nat
  wr : Bool
  a : Ac
def acs (a : Ac) : List Value := (List.range 7).map a.cell
theorem acs_len (a : Ac) : (acs a).length = 7 := by simp [acs]
theorem acs_at (a : Ac) {j : Nat} (hj : j < 7) : (acs a)[j]? = some (a.cell j) := by simp [acs, hj]
def Ma.cells (m : Ma) : List Value := actC (m.d : Int) m.p (.slice m.sp m.b.length m.cap) m.wr (acs m.a)
structure MaOK (w : World) (m : Ma) : Prop where
  d : m.d < 256
  p : m.p.OK
  b : SrcA w m.sp m.b
  cb : m.b.length ≤ m.cap
  mb : m.cap ≤ maxLen
  zb : m.sp = none → m.cap = 0
  a : AcOK w m.a
theorem MaOK.below {w W : World} {m : Ma} (h : MaOK w m) {B : Nat} (hb : Below B w W) (hB : w.heap.size ≤ B) : MaOK W m := ⟨h.d, h.p, h.b.below hb hB, h.cb, h.mb, h.zb, h.a.below hb hB⟩
theorem MaOK.len {w : World} {m : Ma} (h : MaOK w m) : m.cells.length = 51 := actC_len h.p (acs_len _)
def MActsAt (w : World) (sp : Option Addr) (l : List Ma) : Prop :=
  (∀ m ∈ l, MaOK w m) ∧ (0 < l.length → ∃ g o, sp = some ⟨g, o, none⟩ ∧ g < w.heap.size ∧ ∀ i m, l[i]? = some m → w.rangeAt g (o + i * 51) m.cells)
theorem range_below {w W : World} {g o : Nat} {cs : List Value} (h : w.rangeAt g o cs) {B : Nat} (hb : Below B w W) (hg : g < B) : W.rangeAt g o cs := fun j v hv => (hb.cell (p := ⟨g, o + j, none⟩) hg).trans (h j v hv)
theorem MActsAt.below {w W : World} {sp : Option Addr} {l : List Ma} (h : MActsAt w sp l) {B : Nat} (hb : Below B w W) (hB : w.heap.size ≤ B) : MActsAt W sp l :=
  ⟨fun m hm => (h.1 m hm).below hb hB, fun h0 => by
    obtain ⟨g, o, rfl, hg, hc⟩ := h.2 h0
    exact ⟨g, o, rfl, Nat.lt_of_lt_of_le hg hb.size, fun i m hi => range_below (hc i m hi) hb (Nat.lt_of_lt_of_le hg hB)⟩⟩
theorem MActsAt.nil (w : World) (sp : Option Addr) : MActsAt w sp [] := ⟨fun m hm => by simp at hm, fun h => absurd h (by simp)⟩
theorem q_take1 (cs : List Value) (n : Nat) (h : n < cs.length) : ∃ v, (cs.drop n).take 1 = [v] := ⟨cs[n], by rw [List.drop_eq_getElem_cons h]; rfl⟩
theorem cellsDA : Tryz.prog.cellsOf 63 = 7 := by kernel_rfl
theorem cellsMA : Tryz.prog.cellsOf 65 = 51 := by kernel_rfl
theorem cellsPt : Tryz.prog.cellsOf 58 = 41 := by kernel_rfl
section
variable {H : Type} {enc : TypeId × Value → H} {W : World} {spare : Nat → Bool} {held : Bool} {b' : Nat}
set_option maxRecDepth 100000 in
theorem cells_ac {fuel : Nat} {cs : List Value} {x : DataW H × List MemPlace} (h : DataW.trod enc Tryz.prog W b' spare held fuel 63 cs = some x) : ∃ q : Ac, AcOK W q ∧ cs = acs q := by
  obtain ⟨xs, k, _, _, hl, hxl, hfl⟩ := DataW.trod_struct Tryz.underlying63 h
  rw [cellsDA] at hl
  match xs, hxl, cs, hl with
  | [y0, y1, y2, y3, y4, y5, y6], _, [v0, v1, v2, v3, v4, v5, v6], _ =>
    have g0 := hfl 0 _ rfl
    have g1 := hfl 1 _ rfl
    have g2 := hfl 2 _ rfl
    have g3 := hfl 3 _ rfl
    have g4 := hfl 4 _ rfl
    have g5 := hfl 5 _ rfl
    have g6 := hfl 6 _ rfl
    simp [cellsB, cells41, cells42, cells4, cells3, cells43] at g0 g1 g2 g3 g4 g5 g6
    obtain ⟨z0, e0, _, w0⟩ := DataW.trod_int Tryz.underlying5 g0
    obtain ⟨z1, e1, _, w1⟩ := DataW.trod_int Tryz.underlying5 g1
    obtain ⟨z2, e2, _, w2⟩ := DataW.trod_int Tryz.underlying52 g2
    obtain ⟨l3, sp3, c3, e3, k3, m3, s3, zb3⟩ := field_bytes g3
    obtain ⟨b4, e4, _⟩ := DataW.trod_bool Tryz.underlying4 g4
    obtain ⟨z5, e5, _, w5⟩ := DataW.trod_int Tryz.underlying3 g5
    obtain ⟨l6, sp6, c6, e6, k6, m6, s6⟩ := field_ints g6
    simp at e0 e1 e2 e4 e5
    subst e0 e1 e2 e3 e4 e5 e6
    have b0 := bounds_u8 w0
    have b1 := bounds_u8 w1
    have b2 := bounds_u16 w2
    have b5 := bounds_i64 w5
    refine ⟨⟨z0.toNat, z1.toNat, z2.toNat, l3, sp3, c3, b4, z5, l6, sp6, c6⟩, ⟨by simp; omega, by simp; omega, by simp; omega, s3, k3, m3, b5.1, b5.2, s6, k6, m6, zb3⟩, ?_⟩
    show _ = [_, _, _, _, _, _, _]
    simp only [Ac.cell]
    rw [Int.toNat_of_nonneg b0.1, Int.toNat_of_nonneg b1.1, Int.toNat_of_nonneg b2.1]
set_option maxRecDepth 100000 in
theorem cells_ma {fuel : Nat} {cs : List Value} {x : DataW H × List MemPlace} (h : DataW.trod enc Tryz.prog W b' spare held fuel 65 cs = some x) : ∃ m : Ma, MaOK W m ∧ cs = m.cells := by
  obtain ⟨xs, k, _, _, hl, hxl, hfl⟩ := DataW.trod_struct Tryz.underlying65 h
  rw [cellsMA] at hl
  match xs, hxl with
  | [y0, y1, y2, y3, y4], _ =>
    have g0 := hfl 0 _ rfl
    have g1 := hfl 1 _ rfl
    have g2 := hfl 2 _ rfl
    have g3 := hfl 3 _ rfl
    have g4 := hfl 4 _ rfl
    simp [cellsB, cellsPt, cells42, cells4, cellsDA] at g0 g1 g2 g3 g4
    obtain ⟨v0, e0⟩ := q_take1 cs 0 (by omega)
    obtain ⟨v2, e2⟩ := q_take1 cs 42 (by omega)
    obtain ⟨v3, e3⟩ := q_take1 cs 43 (by omega)
    rw [List.drop_zero] at e0
    rw [e0] at g0
    rw [e2] at g2
    rw [e3] at g3
    obtain ⟨z0, f0, _, w0⟩ := DataW.trod_int Tryz.underlying5 g0
    obtain ⟨p1, hp1, f1⟩ := cells_ptr g1
    obtain ⟨l2, sp2, c2, f2, k2, m2, s2, zb2⟩ := field_bytes g2
    obtain ⟨b3, f3, _⟩ := DataW.trod_bool Tryz.underlying4 g3
    obtain ⟨q4, h4, f4⟩ := cells_ac g4
    have b0 := bounds_u8 w0
    simp only [List.cons.injEq, and_true] at f0 f3
    refine ⟨⟨z0.toNat, p1, l2, sp2, c2, b3, q4⟩, ⟨by simp only; omega, hp1, s2, k2, m2, zb2, h4⟩, ?_⟩
    have g : ∀ n m, (cs.drop n).take m ++ cs.drop (n + m) = cs.drop n := fun n m => by rw [← List.drop_drop, List.take_append_drop]
    have hd : cs.drop 44 = (cs.drop 44).take 7 := (List.take_of_length_le (by simp [hl])).symm
    have tl : (cs.drop 1).take 41 = cs.tail.take 41 := by rw [List.drop_one]
    have hcs : cs = cs.take 1 ++ (cs.tail.take 41 ++ ((cs.drop 42).take 1 ++ ((cs.drop 43).take 1 ++ (cs.drop 44).take 7))) := by
      rw [← hd, g 43 1, g 42 1, ← tl, g 1 41, List.take_append_drop]
    rw [hcs, e0, f1, e2, e3, f4]
    unfold Ma.cells actC
    simp only [Int.toNat_of_nonneg b0.1]
    rw [f0, f2, f3]
    rfl
set_option maxRecDepth 100000 in
theorem open_macts {b : Nat} {v : Value} {d : DataW H} {p : List MemPlace} (ho : Value.okWide Tryz.prog W .any b 22 v) (h : DataW.Trod enc Tryz.prog W b' spare held 22 v d p) :
    ∃ (l : List Ma) (sp : Option Addr) (cap : Nat), v = .slice sp l.length cap ∧ l.length ≤ cap ∧ cap ≤ maxLen ∧ MActsAt W sp l := by
  obtain ⟨a0, len, cap, rfl⟩ := okWide_slice Tryz.underlying22 ho
  obtain ⟨fuel, hf⟩ := h
  rcases open_slice Tryz.underlying22 hf with ⟨hcs, hx⟩ | ⟨a, len', cap', m, n, D, Pl, hcs, _, hl, hm, hmm, hx, hcell⟩
  · simp [Value.cells] at hcs
    obtain ⟨rfl, rfl, rfl⟩ := hcs
    exact ⟨[], none, 0, rfl, by simp, by unfold maxLen; omega, MActsAt.nil _ _⟩
  · simp [Value.cells] at hcs
    obtain ⟨rfl, rfl, rfl⟩ := hcs
    have hlm : len ≤ m := by rw [hmm]; split <;> omega
    have each : ∀ i, i < m → ∃ q : Ma, MaOK W q ∧ ∀ j v, q.cells[j]? = some v → W.cell? (a.add (i * 51 + j)) = some v := by
      intro i hi
      obtain ⟨cs', h1, h2⟩ := hcell i hi
      rw [cellsMA] at h1
      obtain ⟨_, hlen, hcl⟩ := World.cells?_some h1
      obtain ⟨q, hq, e⟩ := cells_ma h2
      refine ⟨q, hq, fun j v hj => ?_⟩
      rw [← e] at hj
      have hjl : j < cs'.length := (List.getElem?_eq_some_iff.1 hj).1
      have hc := hcl j (by omega)
      rw [add_add, hj] at hc
      exact hc
    have : Inhabited Ma := ⟨⟨0, zeroP, [], none, 0, false, default⟩⟩
    obtain ⟨q, hq⟩ := choose_lt each
    refine ⟨(List.range len).map q, some a, cap, by simp, by simpa using hl, hm, fun x hx => ?_, fun h0 => ?_⟩
    · obtain ⟨i, hi, rfl⟩ := List.mem_map.1 hx
      exact (hq i (by have := List.mem_range.1 hi; omega)).1
    · have h0' : 0 < len := by simpa using h0
      have h00 : (q 0).cells[0]? = some (.int .u8 ((q 0).d : Int)) := rfl
      obtain ⟨g, o, spot⟩ := a
      have hspot : spot = none := by simpa [Addr.add] using World.cell?_spot ((hq 0 (by omega)).2 0 _ h00)
      subst hspot
      refine ⟨g, o, rfl, ?_, fun i x hi j v hj => ?_⟩
      · have := (hq 0 (by omega)).2 0 _ h00
        rw [Addr.add_mid] at this
        exact lt_of_cell this
      · obtain ⟨hi1, hi2⟩ := List.getElem?_eq_some_iff.1 hi
        have hi' : i < len := by simpa using hi1
        have e : x = q i := by rw [← hi2]; simp
        subst e
        have hc := (hq i (by omega)).2 j v hj
        rw [Addr.add_mid] at hc
        rw [Nat.add_assoc]
        exact hc
end
def mbig (m : Ma) : Bool := decide (600 < m.b.length) || great [m.a]
def mgreat (l : List Ma) : Bool := decide (60 < l.length) || l.any mbig
theorem mgreat_small {l : List Ma} (h : mgreat l = false) : l.length ≤ 60 ∧ ∀ m ∈ l, m.b.length ≤ 600 ∧ m.a.b.length ≤ 600 ∧ m.a.z.length ≤ 200 := by
  unfold mgreat mbig great big at h
  simp at h
  refine ⟨by omega, fun m hm => ?_⟩
  have := h.2 m hm
  omega
end Go.Proofs.YtmgagalhpkieoaaGreatDoor
/- Acts on a mirror: Great. -/
namespace Go.Proofs.YtmgagalhpkieoaaGreatDoor
open Go.RowKit

theorem sizeDA : (Tryz.prog.info? 63).map (·.size) = some 7 := by kernel_rfl
theorem infoDA : (Tryz.prog.info? 63).map (fun i => (i.zero.map (·.cells.size), i.size, decide (i.bytes ≤ 1000))) = some (some 7, 7, true) := by kernel_rfl
theorem info_partsDA : ∃ i z, Tryz.prog.info? 63 = some i ∧ i.zero = some z ∧ z.cells.size = 7 ∧ i.size = 7 ∧ i.bytes ≤ 1000 := by
  obtain ⟨i, h1, h2⟩ := Option.map_eq_some_iff.1 infoDA
  simp only [Prod.mk.injEq] at h2
  obtain ⟨z, hz, hz2⟩ := Option.map_eq_some_iff.1 h2.1
  exact ⟨i, z, h1, hz, hz2, h2.2.1, of_decide_eq_true h2.2.2⟩
theorem q_oneA (a : Ac) {ρ : Operand → Value} {o : Oper} {x : Operand} {w : World} (ho : o.op = .buildSlice 90 1 #[(0, x)]) (hx : ρ x = .agg (acs a).toArray) :
    (execOp ρ o).run Tryz.prog w = .ok (.value (.slice (some ⟨w.heap.size, 0, none⟩) 1 1)) (w.alloc (.cells (acs a).toArray 63)) := by
  obtain ⟨i, z, hi, hz, hzs, his, hib⟩ := info_partsDA
  have hr := run_buildSlice (P := Tryz.prog) w 90 63 1 #[(0, .agg (acs a).toArray)] (acs a).toArray i z Tryz.underlying90 hi hz (by rw [his]; omega) (by rw [his]; omega)
    (fill_whole (size := 7) (by simp [his]) (by simp [Value.cells, acs_len]) (by simp [his]))
  unfold execOp
  simp only [ho]
  rw [show (Array.map (fun x : Nat × Operand => (x.1, ρ x.2)) #[(0, x)]) = #[(0, .agg (acs a).toArray)] by simp [hx]]
  simp only [Sem.run_bind, hr, Result.andThen_ok]
  rfl
theorem actC_44 {d : Int} {p : Pt} (hp : p.OK) {v : Value} {wr : Bool} {D : List Value} : actC d p v wr D = (actC d p v wr D).take 44 ++ (D ++ []) := by
  have h := pcells_length hp
  have e : actC d p v wr D = (.int .u8 d :: (pcells p ++ [v, .bool wr])) ++ D := by simp [actC]
  rw [List.append_nil]
  conv => lhs; rw [e]
  rw [e, List.take_left' (by simp [h])]
theorem Ma.row44 {w W : World} {m : Ma} (h : MaOK w m) {g o : Nat} (hr : W.rangeAt g o m.cells) : W.rangeAt g (o + 44) (acs m.a) := fun j v hv => by
  have hj : j < 7 := by have := (List.getElem?_eq_some_iff.1 hv).1; rw [acs_len] at this; exact this
  have e : m.cells[44 + j]? = some v := by
    have h1 := h.len
    unfold Ma.cells at h1 ⊢
    rw [actC_44 h.p, List.append_nil, List.getElem?_append_right (by rw [List.length_take, h1]; omega), List.length_take, h1]
    rw [show 44 + j - min 44 51 = j by omega]
    exact hv
  have := hr (44 + j) v e
  rw [← Nat.add_assoc] at this
  exact this
theorem acts_one {W : World} {a : Ac} (h : AcOK W a) {g : Nat} (hb : Blk W g (acs a) 63) : ActsAt W (some ⟨g, 0, none⟩) [a] :=
  ⟨fun x hx => by simp at hx; subst hx; exact h, fun _ => ⟨g, 0, rfl, hb.lt, fun i x hi j hj => by
    match i, hi with
    | 0, hi =>
      simp only [List.getElem?_cons_zero, Option.some.injEq] at hi
      subst hi
      have := hb.cell (acs_at a hj)
      simpa using this⟩⟩
theorem many_drop {l : List Ma} {k : Nat} {a : Ma} (h : l[k]? = some a) : (l.drop k).any mbig = (mbig a || (l.drop (k + 1)).any mbig) := by
  obtain ⟨h1, h2⟩ := List.getElem?_eq_some_iff.1 h
  rw [List.drop_eq_getElem_cons h1, List.any_cons, h2]
def GrRel8 (l : List Ma) (w : World) (i : Value) (wr : World) : Prop := ∃ k : Nat, k ≤ l.length ∧ i = .int .i64 (k : Int) ∧ (l.drop k).any mbig = l.any mbig ∧ Below w.heap.size w wr
set_option maxRecDepth 100000 in
set_option maxHeartbeats 4000000 in
theorem mgreat_any (l : List Ma) (sp : Option Addr) (n cap : Nat) (hn : l.length = n) (hc : n ≤ cap) (hm : cap ≤ maxLen) (w : World) (h : MActsAt w sp l) : Calls Tryz.prog 5 #[.slice sp n cap] w fun e w' => e = .returned (.bool (mgreat l)) ∧ Below w.heap.size w w' := by
  have HN := Lib.hid hn
  by_cases h1 : (60 : Int) < (n : Int)
  · have hg : mgreat l = true := by unfold mgreat; rw [decide_eq_true (by omega : 60 < l.length)]; rfl
    rw [hg]
    clear hn h hg
    go_enter Tryz.func5, Tryz.ntmps5
    go_wp2_with fail
    go_ret
    exact ⟨rfl, Below.refl _ _⟩
  · have hn60 : n ≤ 60 := by omega
    have HA := Lib.hid h
    obtain ⟨G, hG⟩ : ∃ G, mgreat l = G := ⟨_, rfl⟩
    have HG : Hid (l.any mbig = G) := Lib.hid (by rw [← hG]; unfold mgreat; rw [decide_eq_false (by omega : ¬ 60 < l.length)]; rfl)
    rw [hG]
    clear h hn hG
    go_enter Tryz.func5, Tryz.ntmps5
    go_wp2_with fail
    have HR := Lib.hid (show GrRel8 l w (.int .i64 0) w from ⟨0, Nat.zero_le _, rfl, by simp, Below.refl _ _⟩)
    go_loopw [3] (fun i wr => GrRel8 l w i wr) (fun i _ => n - (intOf i).toNat)
    case atStart => exact HR.out
    case round =>
      clear HR
      obtain ⟨k, hk, rfl, hany, hb⟩ := hrel
      have HANY := Lib.hid hany
      have HB := Lib.hid hb
      rw [HN.out] at hk
      clear hany hb
      have hwk := IntWalk.i64_in ((k : Int) + 1) (by omega)
      by_cases hlt : k < n
      · have hkL : k < l.length := by have := HN.out; omega
        obtain ⟨a, ha⟩ : ∃ a, l[k]? = some a := ⟨_, List.getElem?_eq_getElem hkL⟩
        obtain ⟨g, o, rfl, hg, hcl⟩ := HA.out.2 (by omega)
        have hok := HA.out.1 a (List.mem_of_getElem? ha)
        have hrg := range_below (hcl k a ha) HB.out hg
        have c42 := hrg 42 _ (actC_42 hok.p)
        have HRW := Lib.hid (Ma.row44 hok hrg)
        have HOK := Lib.hid (hok.a.below HB.out (Nat.le_refl _))
        have HX := Lib.hid ha
        clear hcl ha hkL hg hrg hok
        by_cases hbig : (600 : Int) < (a.b.length : Int)
        · obtain rfl : G = true := by
            rw [← HG.out, ← HANY.out, many_drop HX.out]
            unfold mbig
            rw [decide_eq_true (by omega : 600 < a.b.length)]
            rfl
          go_wp2_with fail
          go_ret
          exact ⟨rfl, HB.out⟩
        · have hz := great_any [a.a] (some ⟨wr.heap.size, 0, none⟩) 1 1 rfl (by omega) (by unfold maxLen; omega) (wr.alloc (.cells (acs a.a).toArray 63)) (acts_one (HOK.out.below ((Below.refl _ _).alloc (Nat.le_refl _) _) (Nat.le_refl _)) (Blk.new _ _ _))
          obtain ⟨z, hz2⟩ : ∃ z, great [a.a] = z := ⟨_, rfl⟩
          rw [hz2] at hz
          have HZ := Lib.hid hz
          have HE : Hid (mbig a = z) := Lib.hid (by unfold mbig; rw [decide_eq_false (by omega : ¬ 600 < a.b.length), hz2]; rfl)
          have HB2 : Hid (Below w.heap.size w (wr.alloc (.cells (acs a.a).toArray 63))) := Lib.hid (HB.out.alloc HB.out.size _)
          clear hz hz2 HOK
          go_wp2_with (first | (refine q_valG (by rfl) (ex_ld (ty := 63) (cs := acs a.a) rfl rfl HRW.out Tryz.underlying63 rfl (by rw [sizeDA, acs_len])) ?_) | (refine q_valG (by rfl) (q_oneA a.a rfl rfl) ?_) | fail)
          refine HZ.out.mono ?_
          rintro e w6 ⟨rfl, rfl⟩
          cases z
          · go_wp2_with fail
            go_roundw
            case rel => exact ⟨k + 1, by have := HN.out; omega, by go_num, by rw [← HANY.out, many_drop HX.out, HE.out]; rfl, HB2.out⟩
            case measure => simp [intOf]; omega
          · obtain rfl : G = true := by
              rw [← HG.out, ← HANY.out, many_drop HX.out, HE.out]
              rfl
            go_wp2_with fail
            go_ret
            exact ⟨rfl, HB2.out⟩
      · obtain rfl : k = n := by omega
        obtain rfl : G = false := by
          rw [← HG.out, ← HANY.out, List.drop_of_length_le (by rw [HN.out]; exact Nat.le_refl _)]
          rfl
        clear hk
        go_wp2_with fail
        go_ret
        exact ⟨rfl, HB.out⟩
end Go.Proofs.YtmgagalhpkieoaaGreatDoor
/- A pair of disks under a mirror; how many of a pointer's copies are good. -/
namespace Go.Proofs.YtmgagalhpkieoaaGreatDoor
open Go.RowKit

structure PrS (w0 W : World) (lab : Nat → Nat) (X : Nat) (P : Pl) (x : Mi Dsk Sp) : Prop where
  mi : MiAt W lab P x
  pr : Blk W X [.pointer (some ⟨P.Q, 0, none⟩), .pointer (some ⟨P.D 0, 0, none⟩), .pointer (some ⟨P.D 1, 0, none⟩), .pointer (some ⟨P.K, 0, none⟩), .pointer (some ⟨P.M, 0, none⟩)] 33
  lx : lab X = 0
  xw : w0.heap.size ≤ X
  own : ∀ b, lab b ≠ 0 → lab b ≠ 8 → w0.heap.size ≤ b
  bel : Below w0.heap.size w0 W
section
variable {w0 W W' : World} {lab lab' : Nat → Nat} {X : Nat} {P : Pl} {x y : Mi Dsk Sp}
theorem PrS.stp (h : PrS w0 W lab X P x) (hm : MiAt W' lab' P y) (hs : Stp W lab W' lab') : PrS w0 W' lab' X P y := by
  refine ⟨hm, hs.blk h.pr h.lx, hs.lab0 h.pr.lt h.lx, h.xw, fun b h1 h2 => ?_, h.bel.trans (hs.chg.below (fun k hk => h.own k hk.1 hk.2) h.bel.size)⟩
  by_cases hb : b < W.heap.size
  · rcases hs.eq b hb with e | e
    · rw [e] at h1 h2; exact h.own b h1 h2
    · exact absurd e h1
  · have := h.bel.size; omega
theorem PrS.below (h : PrS w0 W lab X P x) (hb : Below W.heap.size W W') : PrS w0 W' lab X P x := h.stp (h.mi.below hb) (Stp.below hb)
theorem PrS.new (h : PrS w0 W lab X P x) {g : Nat} (hg : W.heap.size ≤ g) : lab g = 0 := by
  by_cases e : lab g = 0
  · exact e
  · have := h.mi.lt g e; omega
theorem PrS.old (h : PrS w0 W lab X P x) {g : Nat} (hg : g < w0.heap.size) {k : Nat} (hk : k ≠ 0) (hk8 : k ≠ 8) : lab g ≠ k := fun e => by
  have := h.own g (by rw [e]; exact hk) (by rw [e]; exact hk8)
  omega
theorem PrS.cp (h : PrS w0 W lab X P x) : W.cell? ⟨X, 0, none⟩ = some (.pointer (some ⟨P.Q, 0, none⟩)) := h.pr.cell rfl
theorem PrS.cs (h : PrS w0 W lab X P x) : W.cell? ⟨X, 3, none⟩ = some (.pointer (some ⟨P.K, 0, none⟩)) := h.pr.cell rfl
theorem PrS.cm (h : PrS w0 W lab X P x) : W.cell? ⟨X, 4, none⟩ = some (.pointer (some ⟨P.M, 0, none⟩)) := h.pr.cell rfl
theorem PrS.cd (h : PrS w0 W lab X P x) {k : Nat} (hk : k < 2) : W.cell? ⟨X, 1 + k, none⟩ = some (.pointer (some ⟨P.D k, 0, none⟩)) := by
  match k, hk with
  | 0, _ => exact h.pr.cell rfl
  | 1, _ => exact h.pr.cell rfl
end
theorem beg_prs {w w' : World} {X : Nat} {P : Pl} {lab : Nat → Nat} {n : Nat} (h : Beg w w' X P lab n) : PrS w w' lab X P (start n) := ⟨h.mi, h.pr, h.lx, h.xw, h.own, h.bel⟩
theorem ex_ldPq {ρ : Operand → Value} {o : Oper} {x : Operand} {w : World} {p : Pt} (hp : p.OK) {g : Nat} {t' : TypeId} (hB : Blk w g (pcells p) t') (ho : o.op = .load 58 x) (hx : ρ x = .pointer (some ⟨g, 0, none⟩)) : (execOp ρ o).run Tryz.prog w = .ok (.value (.agg (pcells p).toArray)) w :=
  ex_ld (ty := 58) (cs := pcells p) ho hx (rng_all hB) Tryz.underlying58 rfl (by rw [sizeP, pcells_length hp])
theorem q_told_src {w0 w : World} {v : Value} {b : Bs} (h : ToldB w0 w v (some b)) : ∃ g, v = .slice (some ⟨g, 0, none⟩) 512 512 ∧ b.length = 512 ∧ SrcA w (some ⟨g, 0, none⟩) b := by
  obtain ⟨g, e, hl, hb, _⟩ := h
  exact ⟨g, e, hl, fun _ => ⟨g, 0, rfl, hb.lt, fun j hj => by rw [Nat.zero_add]; exact hb.cell (get_map V8 b j hj 0)⟩⟩
end Go.Proofs.YtmgagalhpkieoaaGreatDoor
/- Take: what a reader reads as a pointer. -/
namespace Go.Proofs.YtmgagalhpkieoaaGreatDoor
open Go.RowKit

section
variable {ops : Array Oper} {Q : Exit → Act → World → Prop} {S : World → Prop}
end
end Go.Proofs.YtmgagalhpkieoaaGreatDoor
/- Pointers that are known. -/
namespace Go.Proofs.YtmgagalhpkieoaaGreatDoor
open Go.RowKit

def k1 : Pt := ⟨1, 0, 7, 3, 9, List.replicate 32 0#8, [5, 0, 6, 0]⟩
def zs : Bs := List.replicate 512 0#8
def k2 : Pt := sealP k1 zs
theorem may_seal (p : Pt) (bs : Bs) : mayP (sealP p bs) = mayP p := rfl
theorem ex_eqPs {ρ : Operand → Value} {o : Oper} {x y : Operand} {p : Pt} {w : World} (ho : o.op = .binOp .eql 58 x y 58) (hx : ρ x = .agg (pcells p).toArray) (hy : ρ y = .agg (pcells p).toArray) (hp : p.OK) : (execOp ρ o).run Tryz.prog w = .ok (.value (.bool true)) w := by
  have h := ex_eqP (w := w) ho hx hy hp hp
  rw [eqP_same] at h
  exact h
theorem fits_seal (p : Pt) (bs cs : Bs) : fitsP (sealP p bs) cs = (decide (cs.length = 512) && decide (digest (tagB p ++ cs) = digest (tagB p ++ bs))) := rfl
end Go.Proofs.YtmgagalhpkieoaaGreatDoor
