/- The document's digest of a pointer's tag and a block. -/
import Derived.Test.YtkbkmfmekjpleaaDoorM15
import Derived.Test.YtkbkmfmekjpleaaDoorM10
import Derived.Test.YtkbkmfmekjpleaaDoorM02
import Derived.ProofKit
import Derived.OpenShut
import Derived.Test.YtkbkmfmekjpleaaDoorM07
import Derived.Test.YtkbkmfmekjpleaaDoorM11
import Derived.LaidMore
import Derived.Stop.Joined
namespace Go.Proofs.YtkbkmfmekjpleaaDoor
open Go.RowKit

theorem padB_tag (p : Pt) : (padB p).take 16 = tagB p := by
  unfold padB bodyB
  rw [List.append_assoc, List.append_assoc, List.take_left' (tagB_length p)]
theorem SrcA.take {w : World} {sp : Option Addr} {bs : Bs} (h : SrcA w sp bs) (n : Nat) : SrcA w sp (bs.take n) := fun h0 => by
  obtain ⟨g, o, e, hg, hc⟩ := h (by simp at h0; omega)
  refine ⟨g, o, e, hg, fun j hj => ?_⟩
  have hj2 : j < n ∧ j < bs.length := by simp at hj; omega
  rw [hc j hj2.2]
  simp [List.getD_eq_getElem?_getD, hj2.1]
structure QdW (p : Pt) (w : World) (W : World) : Prop where
  box : Blk W w.heap.size (pcells p) 37
  res : Blk W (w.heap.size + 1) (List.replicate 32 (Value.int .u8 0)) 34
  bel : Below w.heap.size w W
theorem QdW.grown {p : Pt} {w W W' : World} (h : QdW p w W) {B : Nat} (hb : Below B W W') (h1 : w.heap.size + 2 ≤ B) : QdW p w W' :=
  ⟨h.box.below hb (by omega), h.res.below hb (by omega), h.bel.trans (hb.mono (by omega))⟩
theorem qdw_start (p : Pt) (w : World) (z : Array Value) (hz : z = (List.replicate 32 (Value.int .u8 0)).toArray) : QdW p w ((w.alloc (.cells (pcells p).toArray 37)).alloc (.cells z 34)) := by
  subst hz
  exact ⟨(Blk.new _ _ _).alloc _, Blk.new' _ _ _ _ _ (by simp) rfl, ((Below.refl _ _).alloc (Nat.le_refl _) _).alloc (by simp) _⟩
set_option maxRecDepth 100000 in
set_option maxHeartbeats 4000000 in
theorem qdigest_any (p : Pt) (hp : p.OK) (bs : Bs) (sp : Option Addr) (cap : Nat) (w : World) (hl : bs.length ≤ 4000) (hz : sp = none → cap = 0) (hS : SrcA w sp bs) :
    Calls Tryd.prog 97 #[.agg (pcells p).toArray, .slice sp bs.length cap] w fun e w' => e = .returned (.agg ((digest (tagB p ++ bs)).map V8).toArray) ∧ Below w.heap.size w w' := by
  have HP := Lib.hid hp
  have HS := Lib.hid hS
  have HLP := Lib.hid (pcells_length hp)
  have HSD := Lib.hid (size24d (tagB p ++ bs))
  have HDL : Hid (((List.replicate 32 (Value.int .u8 0)).toArray).size = ((digest (tagB p ++ bs)).map V8).toArray.size) := Lib.hid (by simp [digest_length])
  obtain ⟨L, hL⟩ : ∃ L, bs.length = L := ⟨_, rfl⟩
  have HL := Lib.hid hL
  have HLL : Hid (L ≤ 4000) := Lib.hid (by omega)
  have HZ := Lib.hid hz
  rw [hL]
  clear hp hS hl hz hL
  go_enter Tryd.func97, Tryd.ntmps97
  go_upto_region 1 with fail
  refine (fun (k : ∀ W, QdW p w W → W.heap.size = w.heap.size + 2 → Code.wp _ _ _ _ W) => k _ (qdw_start p w _ rfl) (by simp)) ?_
  intro W1 hW1 hs1
  have HW1 := Lib.hid hW1
  have HS1 := Lib.hid hs1
  clear hW1 hs1
  go_wp2_with (first | (refine wpL_val rfl (ex_ld (ty := 37) (cs := pcells p) rfl rfl (rng_all HW1.out.box) Tryd.underlying37 rfl (by rw [sizeP, HLP.out])) ?_) | fail)
  refine (qbytes_any p HP.out W1).mono ?_
  rintro e2 W2 ⟨v2, rfl, ho2, hb2⟩
  obtain ⟨sp2, cap2, e, q1, q2, q3, q4, q5⟩ := OwnB.form ho2
  rw [padB_length HP.out] at e q1
  subst e
  have HW2 := Lib.hid (HW1.out.grown hb2 (by rw [HS1.out]; exact Nat.le_refl _))
  have h2s := hb2.size
  have h1s := HS1.out
  have hS2 := q3.take 16
  rw [padB_tag] at hS2
  obtain ⟨v3, w3, hr3, ho3, hb3⟩ := ownB_src (m := tagB p) (l := []) (w := W2) (B := W2.heap.size) (World.ownsRow_nil _ _ _ _) (Nat.le_refl _) (by simp [tagB_length]) hS2 q4 41
  rw [tagB_length] at hr3
  rw [List.nil_append] at ho3
  have hS3 := (HS.out.below HW2.out.bel (Nat.le_refl _)).below hb3 (Nat.le_refl _)
  obtain ⟨v4, w4, hr4, ho4, hb4⟩ := ownB_src (m := bs) (l := tagB p) (w := w3) (B := W2.heap.size) ho3 hb3.size (by have := HLL.out; have := HL.out; simp [tagB_length]; omega) hS3 HZ.out 41
  rw [HL.out] at hr4
  obtain ⟨sp4, cap4, e4, s1, s2, s3, s4, s5⟩ := OwnB.form ho4
  have HR3 := Lib.hid hr3
  have HR4 := Lib.hid hr4
  have HW4 := Lib.hid (HW2.out.grown (hb3.trans hb4) (by omega))
  have hsum := refSum_any (tagB p ++ bs) sp4 cap4 w4 (by have := HLL.out; have := HL.out; simp [tagB_length]; omega) s1 s4 s3
  have hlen : (tagB p ++ bs).length = 16 + L := by rw [List.length_append, tagB_length, HL.out]
  rw [hlen] at hsum e4
  have HSUM := Lib.hid hsum
  have hsl : ∀ W : World, (Instr.sliceAt 41 (.slice sp2 64 cap2) none (some (.int .i64 16)) none).run Tryd.prog W = .ok (.slice sp2 16 cap2) W := sliceTo sp2 64 cap2 16 (by omega)
  obtain ⟨sp3, cap3, e3, _⟩ := OwnB.form ho3
  rw [tagB_length] at e3
  subst e3 e4
  clear ho2 hb2 q1 q2 q3 q4 q5 h2s h1s hS2 hr3 ho3 hb3 hS3 hr4 ho4 hb4 s1 s2 s3 s4 s5 hsum HW1 HW2 hlen
  go_wp2_with (first | (at_builtin; refine wpL_val rfl (ex_appB rfl rfl rfl HR3.out) ?_) | (at_builtin; refine wpL_val rfl (ex_appB rfl rfl rfl HR4.out) ?_) | (go_at_call 98; refine HSUM.out.mono ?_; rintro e5 w5 ⟨rfl, hb5⟩; have HW5 := Lib.hid (HW4.out.grown hb5 (by have := HW4.out.res.lt; omega)); clear hb5; have HRS := Lib.hid HW5.out.res) | (refine wpList_store_row rfl 34 (.tmp 4) (.tmp 11) rfl (w.heap.size + 1) _ rfl rfl 34 _ HRS.out HSD.out HDL.out (one_ints V8 (fun _ => rfl) _) ?_) | fail)
  exact bodyPost_ret (results_cell_row Tryd.results97 _ _ (w.heap.size + 1) 34 _ _ _ rfl (HRS.out.row _) Tryd.underlying34 rfl HSD.out) rfl ⟨rfl, below_row HW5.out.bel (by omega) _⟩
end Go.Proofs.YtkbkmfmekjpleaaDoor
/- What the rows need: bytes that came in, opened. -/
namespace Go.Proofs.YtkbkmfmekjpleaaDoor
open Go.ChangeShapes Go.WideShapes Go.ChangeAt Go.RowKit

theorem own : ownKnob Tryd.prog.godebug = none := by kernel_rfl
theorem laidOut : laidOutB Tryd.prog = true := by kernel_rfl
theorem cellsB : Tryd.prog.cellsOf 5 = 1 := by kernel_rfl
theorem lt_of_cell {w : World} {g o : Nat} {v : Value} (h : w.cell? ⟨g, o, none⟩ = some v) : g < w.heap.size := by
  rcases Nat.lt_or_ge g w.heap.size with h1 | h1
  · exact h1
  · simp [World.cell?, Array.getElem?_eq_none h1] at h
set_option maxRecDepth 100000 in
/-- A slice of bytes that came in. -/
theorem open_bytes {H : Type} {enc : TypeId × Value → H} {W : World} {spare : Nat → Bool} {held : Bool} {b b' : Nat} {v : Value} {d : DataW H} {p : List MemPlace}
    (ho : Value.okWide Tryd.prog W .any b 41 v) (h : DataW.Trod enc Tryd.prog W b' spare held 41 v d p) :
    ∃ (l : List (BitVec 8)) (sp : Option Addr) (cap : Nat), v = .slice sp l.length cap ∧ l.length ≤ cap ∧ cap ≤ maxLen ∧ (sp = none → cap = 0) ∧ SrcA W sp l := by
  obtain ⟨a0, len, cap, rfl⟩ := okWide_slice Tryd.underlying41 ho
  obtain ⟨fuel, hf⟩ := h
  rcases open_ints Tryd.underlying41 Tryd.underlying5 cellsB hf with ⟨hcs, hx⟩ | ⟨a, len', cap', zs, hcs, _, hl, hm, hz, hx, hcell, hwz⟩
  · simp [Value.cells] at hcs
    obtain ⟨rfl, rfl, rfl⟩ := hcs
    exact ⟨[], none, 0, rfl, by simp, by unfold maxLen; omega, fun _ => rfl, SrcA.nil _ _⟩
  · simp [Value.cells] at hcs
    obtain ⟨rfl, rfl, rfl⟩ := hcs
    have hlz : len ≤ zs.length := by rw [hz]; split <;> omega
    have hlen : ((zs.take len).map (fun m => BitVec.ofNat 8 m.toNat)).length = len := by simp; omega
    refine ⟨(zs.take len).map (fun m => BitVec.ofNat 8 m.toNat), some a, cap, by rw [hlen], by omega, hm, (fun h0 => by cases h0), fun h0 => ?_⟩
    rw [hlen] at h0
    obtain ⟨g, o, rfl, hc⟩ := ints_at hcell (by omega)
    have hcl : ∀ j, j < len → W.cell? ⟨g, o + j, none⟩ = some (V8 (((zs.take len).map (fun m => BitVec.ofNat 8 m.toNat)).getD j 0)) := fun j hj => by
      have hj' : j < zs.length := by omega
      have hb := bounds_u8 (hwz _ (List.getElem_mem hj'))
      rw [hc j hj']
      simp only [List.getD_eq_getElem?_getD, List.getElem?_map, List.getElem?_take, if_pos hj, List.getElem?_eq_getElem hj', Option.map_some, Option.getD_some, V8, N8, BitVec.toNat_ofNat]
      congr 2
      omega
    exact ⟨g, o, rfl, lt_of_cell (hc 0 (by omega)), fun j hj => hcl j (by rw [hlen] at hj; exact hj)⟩
end Go.Proofs.YtkbkmfmekjpleaaDoor
/- Pointers that came in; the tables as they are laid. -/
namespace Go.Proofs.YtkbkmfmekjpleaaDoor
open Go.ChangeShapes Go.WideShapes Go.ChangeAt Go.WideMaps Go.WideElems Go.RowKit

theorem tRu : (Tryd.prog.globals[0]?).map (·.type) = some 92 := by kernel_rfl
theorem cellsRu : Tryd.prog.cellsOf 83 = 3 := by kernel_rfl
theorem cellsRus : Tryd.prog.cellsOf 92 = 18 := by kernel_rfl
theorem cellsInt : Tryd.prog.cellsOf 3 = 1 := by kernel_rfl
theorem exists_list (P : Nat → Int → Prop) : ∀ n : Nat, (∀ i, i < n → ∃ m, P i m) → ∃ ns : List Int, ns.length = n ∧ ∀ i, i < n → P i (ns.getD i 0)
  | 0, _ => ⟨[], rfl, fun i hi => by omega⟩
  | n + 1, h => by
    obtain ⟨ns, hl, hp⟩ := exists_list P n (fun i hi => h i (by omega))
    obtain ⟨m, hm⟩ := h n (by omega)
    refine ⟨ns ++ [m], by simp [hl], fun i hi => ?_⟩
    by_cases hin : i < n
    · have := hp i hin
      rw [List.getD_eq_getElem?_getD, List.getElem?_append_left (by omega), ← List.getD_eq_getElem?_getD]
      exact this
    · obtain rfl : i = n := by omega
      rw [List.getD_eq_getElem?_getD, List.getElem?_append_right (by omega)]
      simpa [hl] using hm
theorem trod_int_array {H : Type} {enc : TypeId × Value → H} {P : Program} {w : World} {base fuel : Nat} {spare : Nat → Bool} {held : Bool} {t e n : Nat} {k : IntKind} {cs : List Value} {x : DataW H × List MemPlace}
    (ht : P.underlying t = some (.array n e)) (he : P.underlying e = some (.int k)) (hc : P.cellsOf e = 1) (hct : P.cellsOf t = n) (h : DataW.trod enc P w base spare held fuel t cs = some x) :
    ∃ ns : List Int, ns.length = n ∧ cs = ns.map (Value.int k) ∧ x.1 = .agg (ns.map fun m => .lit (.int k m)) ∧ ∀ i, i < n → (Lit.int k (ns.getD i 0)).wf = true := by
  obtain ⟨xs, m, rfl, rfl, hl, hn, hel⟩ := DataW.trod_array ht h
  obtain ⟨ns, hnl, hns⟩ := exists_list (fun i m => cs[i]? = some (.int k m) ∧ (xs[i]?).map (·.1) = some (.lit (.int k m)) ∧ (Lit.int k m).wf = true) n (fun i hi => by
    have h1 := hel i hi
    rw [hc, Nat.mul_one] at h1
    have hxi : xs[i]? = some xs[i] := List.getElem?_eq_getElem (by omega)
    rw [hxi] at h1
    obtain ⟨q, e1, e2, e3⟩ := DataW.trod_int he h1
    refine ⟨q, ?_, by rw [hxi]; simp [e2], e3⟩
    have hci : i < cs.length := by omega
    have e4 : (cs.drop i).take 1 = [cs[i]] := by
      rw [List.drop_eq_getElem_cons hci]; rfl
    rw [e4] at e1
    rw [List.getElem?_eq_getElem hci]
    simpa using e1)
  refine ⟨ns, hnl, ?_, ?_, fun i hi => (hns i hi).2.2⟩
  · apply List.ext_getElem?
    intro i
    by_cases hi : i < n
    · rw [(hns i hi).1, List.getElem?_map, List.getElem?_eq_getElem (by omega)]
      simp [List.getD_eq_getElem?_getD, List.getElem?_eq_getElem (show i < ns.length by omega)]
    · rw [List.getElem?_eq_none (by omega), List.getElem?_eq_none (by simp; omega)]
  · show DataW.agg _ = DataW.agg _
    refine congrArg DataW.agg ?_
    apply List.ext_getElem?
    intro i
    by_cases hi : i < n
    · rw [List.getElem?_map, (hns i hi).2.1, List.getElem?_map, List.getElem?_eq_getElem (by omega)]
      simp [List.getD_eq_getElem?_getD, List.getElem?_eq_getElem (show i < ns.length by omega)]
    · rw [List.getElem?_eq_none (by simp; omega), List.getElem?_eq_none (by simp; omega)]
section
variable {H : Type} {enc : TypeId × Value → H} {W : World} {spare : Nat → Bool} {held : Bool} {b' : Nat}
theorem bytes_of {n : Nat} {ns : List Int} (hl : ns.length = n) (hw : ∀ i, i < n → (Lit.int .u8 (ns.getD i 0)).wf = true) : ns.map (Value.int .u8) = (ns.map fun m => BitVec.ofNat 8 m.toNat).map V8 := by
  rw [List.map_map]
  apply List.map_congr_left
  intro m hm
  obtain ⟨i, hi, rfl⟩ := List.mem_iff_getElem.1 hm
  have hbd := bounds_u8 (hw i (by omega))
  rw [List.getD_eq_getElem?_getD, List.getElem?_eq_getElem hi] at hbd
  simp only [Option.getD_some] at hbd
  simp only [Function.comp_apply, V8, N8, BitVec.toNat_ofNat]
  congr 1
  omega
theorem u16_of {n : Nat} {ns : List Int} (hl : ns.length = n) (hw : ∀ i, i < n → (Lit.int .u16 (ns.getD i 0)).wf = true) : ns.map (Value.int .u16) = (ns.map Int.toNat).map U16 ∧ ∀ x ∈ ns.map Int.toNat, x < 65536 := by
  have hb : ∀ m ∈ ns, 0 ≤ m ∧ m < 65536 := fun m hm => by
    obtain ⟨i, hi, rfl⟩ := List.mem_iff_getElem.1 hm
    have hbd := bounds_u16 (hw i (by omega))
    rw [List.getD_eq_getElem?_getD, List.getElem?_eq_getElem hi] at hbd
    simp only [Option.getD_some] at hbd
    omega
  constructor
  · rw [List.map_map]
    apply List.map_congr_left
    intro m hm
    have := hb m hm
    simp only [Function.comp_apply, U16]
    congr 1
    omega
  · intro x hx
    obtain ⟨m, hm, rfl⟩ := List.mem_map.1 hx
    have := hb m hm
    omega
theorem cellsU16 : Tryd.prog.cellsOf 31 = 1 := by kernel_rfl
theorem cellsU32 : Tryd.prog.cellsOf 32 = 1 := by kernel_rfl
theorem cellsU64 : Tryd.prog.cellsOf 33 = 1 := by kernel_rfl
theorem cellsA32 : Tryd.prog.cellsOf 34 = 32 := by kernel_rfl
theorem cellsAts : Tryd.prog.cellsOf 35 = 4 := by kernel_rfl
theorem cellsP : Tryd.prog.cellsOf 37 = 41 := by kernel_rfl
theorem cut_parts (cs : List Value) (hl : cs.length = 41) : cs = cs.take 1 ++ ((cs.drop 1).take 1 ++ ((cs.drop 2).take 1 ++ ((cs.drop 3).take 1 ++ ((cs.drop 4).take 1 ++ ((cs.drop 5).take 32 ++ (cs.drop 37).take 4))))) := by
  have g : ∀ n m, (cs.drop n).take m ++ cs.drop (n + m) = cs.drop n := fun n m => by rw [← List.drop_drop, List.take_append_drop]
  have h1 : (cs.drop 37).take 4 = cs.drop 37 := List.take_of_length_le (by simp [hl])
  rw [h1, g 5 32, g 4 1, g 3 1, g 2 1, g 1 1, List.take_append_drop]
theorem cells_ptr {fuel : Nat} {cs : List Value} {x : DataW H × List MemPlace} (h : DataW.trod enc Tryd.prog W b' spare held fuel 37 cs = some x) : ∃ p : Pt, p.OK ∧ cs = pcells p := by
  obtain ⟨xs, k, _, _, hl, hxl, hfl⟩ := DataW.trod_struct Tryd.underlying37 h
  rw [cellsP] at hl
  match xs, hxl with
  | [y0, y1, y2, y3, y4, y5, y6], _ =>
    have g0 := hfl 0 _ rfl
    have g1 := hfl 1 _ rfl
    have g2 := hfl 2 _ rfl
    have g3 := hfl 3 _ rfl
    have g4 := hfl 4 _ rfl
    have g5 := hfl 5 _ rfl
    have g6 := hfl 6 _ rfl
    simp [cellsB, cellsU16, cellsU32, cellsU64, cellsA32, cellsAts] at g0 g1 g2 g3 g4 g5 g6
    obtain ⟨z0, e0, _, w0⟩ := DataW.trod_int Tryd.underlying5 g0
    obtain ⟨z1, e1, _, w1⟩ := DataW.trod_int Tryd.underlying5 g1
    obtain ⟨z2, e2, _, w2⟩ := DataW.trod_int Tryd.underlying31 g2
    obtain ⟨z3, e3, _, w3⟩ := DataW.trod_int Tryd.underlying32 g3
    obtain ⟨z4, e4, _, w4⟩ := DataW.trod_int Tryd.underlying33 g4
    obtain ⟨n5, l5, e5, _, w5⟩ := trod_int_array Tryd.underlying34 Tryd.underlying5 cellsB cellsA32 g5
    obtain ⟨n6, l6, e6, _, w6⟩ := trod_int_array Tryd.underlying35 Tryd.underlying31 cellsU16 cellsAts g6
    have b0 := bounds_u8 w0
    have b1 := bounds_u8 w1
    have b2 := bounds_u16 w2
    have b3 := bounds_u32 w3
    have b4 := bounds_u64 w4
    obtain ⟨u1, u2⟩ := u16_of l6 w6
    refine ⟨⟨z0.toNat, z1.toNat, z2.toNat, z3.toNat, z4.toNat, n5.map fun m => BitVec.ofNat 8 m.toNat, n6.map Int.toNat⟩, ⟨by simp only; omega, by simp only; omega, by simp only; omega, by simp only; omega, by simp only; omega, by simp [l5], by simp [l6], u2⟩, ?_⟩
    rw [bytes_of l5 w5] at e5
    rw [u1] at e6
    have hcp := cut_parts cs hl
    have tl : (cs.drop 1).take 1 = cs.tail.take 1 := by rw [List.drop_one]
    rw [tl] at hcp
    rw [hcp]
    first | rw [e0, e1, e2, e3, e4, e5, e6] | rw [List.drop_one, e0, e1, e2, e3, e4, e5, e6]
    simp only [pcells, pnums]
    rw [show ((z0.toNat : Nat) : Int) = z0 by omega, show ((z1.toNat : Nat) : Int) = z1 by omega, show ((z2.toNat : Nat) : Int) = z2 by omega, show ((z3.toNat : Nat) : Int) = z3 by omega, show ((z4.toNat : Nat) : Int) = z4 by omega]
    rfl
set_option maxRecDepth 100000 in
theorem open_ptr {b : Nat} {v : Value} {d : DataW H} {p : List MemPlace} (ho : Value.okWide Tryd.prog W .any b 37 v) (h : DataW.Trod enc Tryd.prog W b' spare held 37 v d p) : ∃ a : Pt, a.OK ∧ v = .agg (pcells a).toArray := by
  unfold Value.okWide at ho
  rw [Tryd.underlying37] at ho
  obtain ⟨cs, rfl, _⟩ := ho
  obtain ⟨fuel, hf⟩ := h
  obtain ⟨a, h1, h2⟩ := cells_ptr hf
  refine ⟨a, h1, ?_⟩
  congr 1
  apply Array.toList_inj.1
  simpa [Value.cells] using h2
theorem three {α : Type} : ∀ cs : List α, cs.length = 3 → ∃ a b c, cs = [a, b, c]
  | [a, b, c], _ => ⟨a, b, c, rfl⟩
set_option maxRecDepth 100000 in
theorem trod_rule {fuel : Nat} {cs : List Value} {x : DataW H × List MemPlace} (h : DataW.trod enc Tryd.prog W b' spare held fuel 83 cs = some x) : ∃ a b c, cs = [.int .i64 a, .int .u8 b, .int .u8 c] ∧ x.1 = .agg [.lit (.int .i64 a), .lit (.int .u8 b), .lit (.int .u8 c)] := by
  obtain ⟨xs, k, _, rfl, hl, hxl, hfl⟩ := DataW.trod_struct Tryd.underlying83 h
  rw [cellsRu] at hl
  obtain ⟨c0, c1, c2, rfl⟩ := three cs hl
  match xs, hxl with
  | [y0, y1, y2], _ =>
    have g0 := hfl 0 _ rfl
    have g1 := hfl 1 _ rfl
    have g2 := hfl 2 _ rfl
    simp [cellsB, cellsInt] at g0 g1 g2
    obtain ⟨z0, e0, f0, _⟩ := DataW.trod_int Tryd.underlying3 g0
    obtain ⟨z1, e1, f1, _⟩ := DataW.trod_int Tryd.underlying5 g1
    obtain ⟨z2, e2, f2, _⟩ := DataW.trod_int Tryd.underlying5 g2
    refine ⟨z0, z1, z2, ?_, ?_⟩
    · simp at e0 e1 e2
      rw [e0, e1, e2]
    · rw [f0, f1, f2]; rfl
theorem cut18 (cs : List Value) (hl : cs.length = 18) : cs = cs.take 3 ++ ((cs.drop 3).take 3 ++ ((cs.drop 6).take 3 ++ ((cs.drop 9).take 3 ++ ((cs.drop 12).take 3 ++ (cs.drop 15).take 3)))) := by
  have g : ∀ n m, (cs.drop n).take m ++ cs.drop (n + m) = cs.drop n := fun n m => by rw [← List.drop_drop, List.take_append_drop]
  have h1 : (cs.drop 15).take 3 = cs.drop 15 := List.take_of_length_le (by simp [hl])
  rw [h1, g 12 3, g 9 3, g 6 3, g 3 3, List.take_append_drop]
set_option maxRecDepth 100000 in
theorem trod_rules {fuel : Nat} {cs : List Value} {x : DataW H × List MemPlace} (h : DataW.trod enc Tryd.prog W b' spare held fuel 92 cs = some x) (hx : x.1 = Rows.laid_kintsugi_ptr_rules) : cs = (List.range 6).flatMap rcell := by
  obtain ⟨xs, m, rfl, rfl, hl, hn, hel⟩ := DataW.trod_array Tryd.underlying92 h
  rw [cellsRus] at hl
  rw [cellsRu] at hel
  match xs, hn with
  | [y0, y1, y2, y3, y4, y5], _ =>
    obtain ⟨a0, b0, c0, e0, f0⟩ := trod_rule (x := y0) (hel 0 (by omega))
    obtain ⟨a1, b1, c1, e1, f1⟩ := trod_rule (x := y1) (hel 1 (by omega))
    obtain ⟨a2, b2, c2, e2, f2⟩ := trod_rule (x := y2) (hel 2 (by omega))
    obtain ⟨a3, b3, c3, e3, f3⟩ := trod_rule (x := y3) (hel 3 (by omega))
    obtain ⟨a4, b4, c4, e4, f4⟩ := trod_rule (x := y4) (hel 4 (by omega))
    obtain ⟨a5, b5, c5, e5, f5⟩ := trod_rule (x := y5) (hel 5 (by omega))
    simp only [List.map_cons, List.map_nil, f0, f1, f2, f3, f4, f5, Rows.laid_kintsugi_ptr_rules, DataW.agg.injEq, List.cons.injEq, DataW.lit.injEq, Lit.int.injEq, true_and, and_true] at hx
    rw [cut18 cs hl]
    simp only [Nat.zero_mul, List.drop_zero] at e0
    rw [e0, e1, e2, e3, e4, e5]
    obtain ⟨⟨rfl, rfl, rfl⟩, ⟨rfl, rfl, rfl⟩, ⟨rfl, rfl, rfl⟩, ⟨rfl, rfl, rfl⟩, ⟨rfl, rfl, rfl⟩, ⟨rfl, rfl, rfl⟩⟩ := hx
    rfl
end
theorem row_of {W : World} {n : String} {g : Nat} {cs : Array Value} (hg : Tryd.prog.globalNamed n = some g) (hv : W.var? Tryd.prog n = some cs) : ∃ t fr, W.heap[g]? = some (.cells cs t fr) := by
  unfold World.var? at hv
  rw [hg] at hv
  simp only [Option.bind_some] at hv
  split at hv
  · rename_i cs' t fr hh
    obtain rfl := Option.some.inj hv
    exact ⟨t, fr, hh⟩
  · cases hv
end Go.Proofs.YtkbkmfmekjpleaaDoor
