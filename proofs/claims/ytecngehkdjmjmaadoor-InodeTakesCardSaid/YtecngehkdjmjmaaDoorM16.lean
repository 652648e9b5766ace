/- InodeBack, walked. -/
import Derived.Test.YtecngehkdjmjmaaDoorM13
import Derived.Test.YtecngehkdjmjmaaDoorM10
import Derived.Test.YtecngehkdjmjmaaDoorM07
import Derived.Test.YtecngehkdjmjmaaDoorM15
import Derived.Test.YtecngehkdjmjmaaDoorM01
import Derived.ProofKit
import Derived.OpenShut
import Derived.Test.YtecngehkdjmjmaaDoorM04
import Derived.Deep.QuietTactic
import Derived.BigQuiet
import Derived.StillTailTactics
import Derived.WalkKit
import Derived.Lib.Hide
import Derived.Test.YtecngehkdjmjmaaDoorM02
import Derived.LaidMore
import Derived.Stop.Joined
import Derived.Test.YtecngehkdjmjmaaDoorM09
namespace Go.Proofs.YtecngehkdjmjmaaDoor
open Go.RowKit

theorem ex_eqBz {ρ : Operand → Value} {o : Oper} {x y : Operand} {w : World} {ns : List Ino} (hz : ns = zeros4) (h : BOK ns) (ho : o.op = .binOp .eql 34 x y 34) (hx : ρ x = .agg (bcells ns).toArray) (hy : ρ y = .agg (bcells zeros4).toArray) : (execOp ρ o).run Tryd.prog w = .ok (.value (.bool true)) w := by
  have h := ex_eqBn (w := w) h zeros4_ok ho hx hy
  rw [decide_eq_true hz] at h
  exact h
structure IbW (ns xs : List Ino) (l : Bs) (sp : Option Addr) (w W : World) : Prop where
  a : Blk W w.heap.size (bcells ns) 31
  x : Blk W (w.heap.size + 1) (bcells xs) 34
  src : SrcA W sp l
  tab : RTab W
  bel : Below w.heap.size w W
theorem IbW.grown {ns xs : List Ino} {l : Bs} {sp : Option Addr} {w W W' : World} (h : IbW ns xs l sp w W) (hb : Below W.heap.size W W') : IbW ns xs l sp w W' :=
  ⟨h.a.below hb h.a.lt, h.x.below hb h.x.lt, h.src.grown hb, h.tab.grown hb, h.bel.trans (hb.mono h.bel.size)⟩
theorem IbW.put {ns xs : List Ino} {l : Bs} {sp : Option Addr} {w W : World} (h : IbW ns xs l sp w W) (hS : SrcA w sp l) (hT : RTab w) (hn : BOK xs) {k : Nat} (hk : k < 4) {q : Ino} (hq : q.OK) : IbW ns (xs.set k q) l sp w (W.setCells (w.heap.size + 1) (k * 44) (icells q)) :=
  have hb : Below w.heap.size w (W.setCells (w.heap.size + 1) (k * 44) (icells q)) := below_setsI _ _ _ h.bel (by omega)
  ⟨blk_setCells_other (by omega) _ _ _ _ h.a, blk_setI hn h.x hk (Nat.mul_comm k 44) hq, hS.grown hb, hT.grown hb, hb⟩
end Go.Proofs.YtecngehkdjmjmaaDoor
/- InodeTakes, walked. -/
namespace Go.Proofs.YtecngehkdjmjmaaDoor
open Go.RowKit

structure ItW (ns : List Ino) (g B : Nat) (v : Value) (m : List Ino) (w W : World) : Prop where
  g : Blk W g (bcells ns) 34
  o : OwnI W B v m
  tab : RTab W
  bel : Below w.heap.size w W
theorem ItW.grown {ns : List Ino} {g B : Nat} {v : Value} {m : List Ino} {w W W' : World} (h : ItW ns g B v m w W) (hb : Below W.heap.size W W') : ItW ns g B v m w W' := ⟨h.g.below hb h.g.lt, h.o.keep hb, h.tab.grown hb, h.bel.trans (hb.mono h.bel.size)⟩
theorem ItW.row {ns : List Ino} {g B : Nat} {sp : Option Addr} {c : Nat} {m : List Ino} {w W : World} {k : Nat} {n : Ino} (h : ItW ns g B (.slice sp 4 c) m w W) (hm : BOK m) (hk : m[k]? = some n) {gw : Nat} (hs : sp = some ⟨gw, 0, none⟩) : W.rangeAt gw (k * 44) (icells n) := by
  obtain ⟨g', c', e, -, -, -, h6⟩ := h.o.at (by rw [hm.len]; omega) hm.ok
  injection e with e1 e2 e3
  rw [hs] at e1
  injection e1 with e1
  injection e1 with e1
  subst e1
  have := h6 k n hk
  rw [Nat.mul_comm] at this
  exact this
theorem ex_ldRr {ρ : Operand → Value} {o : Oper} {x : Operand} {w : World} {n : Ino} (hn : n.OK) {g off : Nat} (hr : w.rangeAt g off (icells n)) (ho : o.op = .load 30 x) (hx : ρ x = .pointer (some ⟨g, off, none⟩)) : (execOp ρ o).run Tryd.prog w = .ok (.value (.agg (icells n).toArray)) w :=
  ex_ld (ty := 30) (cs := icells n) ho hx hr Tryd.underlying30 rfl (by rw [sizeRn, icells_length hn])
set_option maxRecDepth 100000 in
set_option maxHeartbeats 16000000 in
theorem inodeTakes_go (l : Bs) (sp : Option Addr) (cap : Nat) (w : World) (hl : l.length ≤ 600) (hc : l.length ≤ cap) (hz : sp = none → cap = 0) (hS : SrcA w sp l) (hT : RTab w) :
    Calls Tryd.prog 4 #[.slice sp l.length cap] w fun e w' => e = .returned (.bool true) ∧ Below w.heap.size w w' := by
  have HT := Lib.hid hT
  have HTK := Lib.hid (itake_any l sp cap w (by omega) hz hc hS hT)
  have HRT : Hid (∀ W, Below w.heap.size w W → Calls Tryd.prog 14 #[.slice sp l.length cap] W (RTakePost l W)) := Lib.hid fun W hb => ritake_any l sp cap W hc (hS.grown hb)
  obtain ⟨L, hL⟩ : ∃ L, l.length = L := ⟨_, rfl⟩
  rw [hL] at HTK HRT ⊢
  have i1 : ¬ ((600 : Int) < (L : Int)) := by omega
  have HTO := Lib.hid (inoT_ok l)
  have HST := Lib.hid (size_bcB HTO.out)
  have HSC : Hid ((bcells (inoT l)).toArray.size = 176) := Lib.hid HTO.out.size
  have HOT := Lib.hid (bcells_one (inoT l))
  have HE05 : Hid ((inoOk l = true ∧ inoE l = 0 ∧ inoT l = inoL l) ∨ (inoOk l = false ∧ inoE l = 5 ∧ inoT l = zeros4)) := Lib.hid (by
    unfold inoE inoT
    cases hh : inoOk l
    · exact .inr ⟨rfl, rfl, rfl⟩
    · exact .inl ⟨rfl, rfl, rfl⟩)
  have HWK : Hid (∀ W, Below w.heap.size w W → RTab W → Calls Tryd.prog 11 #[] W fun e w' => e = .returned (.bool true) ∧ Below w.heap.size w w') := Lib.hid fun W hb ht => (iwakes_any W ht).mono fun e w' ⟨h1, h2⟩ => ⟨h1, hb.trans (h2.mono hb.size)⟩
  generalize hPost : (fun e w' => e = Ending.returned (.bool true) ∧ Below w.heap.size w w') = Post
  have HPP : Hid (∀ w', Below w.heap.size w w' → Post (.returned (.bool true)) w') := Lib.hid fun w' h => by rw [← hPost]; exact ⟨rfl, h⟩
  clear hl hc hz hS hT hL hPost
  go_enter Tryd.func4, Tryd.ntmps4
  go_wp2_with fail
  refine HTK.out.mono ?_
  rintro e W1 ⟨rfl, hb1⟩
  have HB1 := Lib.hid hb1
  clear hb1 HTK
  go_upto_region 4 with (first | (refine wpList_store_row rfl 34 (.tmp 3) (.tmp 15) rfl W1.heap.size (bcells (inoT l)).toArray rfl rfl 34 _ (heap_alloc_new W1 _) HST.out (by rw [HSC.out]; rfl) HOT.out ?_) | fail)
  refine (fun (k : ∀ W, Blk W W1.heap.size (bcells (inoT l)) 34 → Below W1.heap.size W1 W → Code.wp _ _ _ _ W) => k _ (blk_row1 W1 _ (bcells (inoT l)) 34).1 (blk_row1 W1 _ (bcells (inoT l)) 34).2) ?_
  intro W2 ha2 hb2
  have HA2 := Lib.hid ha2
  have HB2 := Lib.hid (HB1.out.trans (hb2.mono HB1.out.size))
  obtain ⟨g3, hg3⟩ : ∃ g, W1.heap.size = g := ⟨_, rfl⟩
  rw [hg3] at HA2 ⊢
  clear ha2 hb2 hg3 HB1
  go_wp2_with fail
  refine (HRT.out W2 HB2.out).mono ?_
  rintro e W3 ⟨v, rfl, hown, hb3, sp3, n3, c3, rfl⟩
  have HA3 := Lib.hid (HA2.out.below hb3 HA2.out.lt)
  have HB3 := Lib.hid (HB2.out.trans (hb3.mono HB2.out.size))
  rcases HE05.out with ⟨a1, a2, a3⟩ | ⟨a1, a2, a3⟩
  · have ho := hown a1
    rw [a1, a2, show ((0 : Nat) : Int) = (0 : Int) from rfl]
    obtain ⟨ns, hns⟩ : ∃ n, inoT l = n := ⟨_, rfl⟩
    rw [← a3, hns] at ho
    rw [hns] at HA3 HTO
    obtain ⟨gw, cw, e1, hcw, -, -, -⟩ := ho.at (by rw [HTO.out.len]; omega) HTO.out.ok
    rw [HTO.out.len] at e1 hcw
    injection e1 with e2 e3 e4
    subst e2 e3 e4
    have HX : Hid (ItW ns g3 W2.heap.size (.slice (some ⟨gw, 0, none⟩) 4 c3) ns w W3) := Lib.hid ⟨HA3.out, ho, HT.out.grown HB3.out, HB3.out⟩
    have HCW := Lib.hid hcw
    clear hown hb3 ho a1 a2 a3 hns hcw HA3 HB3 HA2 HB2 HRT HE05 HST HSC HOT
    go_wp2_with fail
    go_loopw [7] (fun i wr => ∃ k : Nat, k ≤ 4 ∧ i = .int .i64 (k : Int) ∧ ItW ns g3 W2.heap.size (.slice (some ⟨gw, 0, none⟩) 4 c3) ns w wr) (fun i _ => 4 - (intOf i).toNat)
    case atStart => exact ⟨0, by omega, rfl, HX.out⟩
    case round =>
      clear HX
      obtain ⟨k, hk, rfl, hx⟩ := hrel
      have HX := Lib.hid hx
      clear hx
      have wk1 := IntWalk.i64_in ((k : Int) + 1) (by omega)
      by_cases hlt : k < 4
      · obtain ⟨n, hn⟩ := HTO.out.get hlt
        have HNO := Lib.hid (HTO.out.at hn)
        have HAT := Lib.hid hn
        have HLT := Lib.hid hlt
        have HKC : Hid (k < 4 ∧ 4 ≤ c3) := Lib.hid ⟨hlt, HCW.out⟩
        clear hn
        go_upto_region 10 with fail
        have hs0 := HX.out.grown (Below.refl _ _).drew
        refine wp_region_sched (.take 0 (.take 1 (.take 2 (.take 3 (.take 4 (.take 5 (.take 6 (.step 7 (.take 8 (.nil)))))))))) (by kernel_rfl) (by kernel_rfl) (fun d _ _ _ _ h => by cases d <;> exact h) (ItW ns g3 W2.heap.size (.slice (some ⟨gw, 0, none⟩) 4 c3) ns w) (hs0) ?_
        refine wpG_take _ (.int .i64 (k : Int)) rfl (by rfl) (fun X hX => by first | rfl | go_simp) ?_
        (try simp only [Act.put, List.setIfInBounds_toArray, List.set_cons_zero, List.set_cons_succ])
        refine wpG_take _ (.pointer (some ⟨g3, k * 44, none⟩)) rfl (by rfl) (fun X hX => ex_iaB HLT.out rfl rfl rfl) ?_
        (try simp only [Act.put, List.setIfInBounds_toArray, List.set_cons_zero, List.set_cons_succ])
        refine wpG_take _ (.agg (icells n).toArray) rfl (by rfl) (fun X hX => ex_ldEI HTO.out hX.g HAT.out (Nat.mul_comm k 44) rfl rfl) ?_
        (try simp only [Act.put, List.setIfInBounds_toArray, List.set_cons_zero, List.set_cons_succ])
        refine wpG_take _ (.slice (some ⟨gw, 0, none⟩) 4 c3) rfl (by rfl) (fun X hX => by first | rfl | go_simp) ?_
        (try simp only [Act.put, List.setIfInBounds_toArray, List.set_cons_zero, List.set_cons_succ])
        refine wpG_take _ (.int .i64 (k : Int)) rfl (by rfl) (fun X hX => by first | rfl | go_simp) ?_
        (try simp only [Act.put, List.setIfInBounds_toArray, List.set_cons_zero, List.set_cons_succ])
        refine wpG_take _ (.pointer (some ⟨gw, k * 44, none⟩)) rfl (by rfl) (fun X hX => ex_iaS HKC.out rfl rfl rfl) ?_
        (try simp only [Act.put, List.setIfInBounds_toArray, List.set_cons_zero, List.set_cons_succ])
        refine wpG_take _ (.agg (icells n).toArray) rfl (by rfl) (fun X hX => ex_ldRr HNO.out (hX.row HTO.out HAT.out rfl) rfl rfl) ?_
        (try simp only [Act.put, List.setIfInBounds_toArray, List.set_cons_zero, List.set_cons_succ])
        refine wpG_call _ rfl (by rfl) 7 #[.agg (icells n).toArray] (fun X => by go_simp) (fun u X => u = .agg (icells n).toArray) ((of_any n HNO.out _).mono fun e X ⟨e1, e2⟩ => ⟨_, e1, hs0.grown e2, rfl⟩) ?_
        rintro u Y1 hs1 rfl
        refine ⟨ItW ns g3 W2.heap.size (.slice (some ⟨gw, 0, none⟩) 4 c3) ns w, fun _ h => h, hs1, ?_⟩
        (try simp only [Act.put, List.setIfInBounds_toArray, List.set_cons_zero, List.set_cons_succ])
        refine wpG_take _ (.bool false) rfl (by rfl) (fun X hX => (ex_neIn HNO.out HNO.out rfl rfl rfl).trans (by rw [eqI_same]; rfl)) ?_
        (try simp only [Act.put, List.setIfInBounds_toArray, List.set_cons_zero, List.set_cons_succ])
        refine wpG_nil ?_
        have HX6 := Lib.hid hs1
        clear hs0 hs1 HX
        go_wp2_with fail
        go_roundw
        case rel => exact ⟨k + 1, by omega, by go_num, HX6.out⟩
        case measure => simp [intOf]; omega
      · obtain rfl : k = 4 := by omega
        rw [show ((4 : Nat) : Int) = (4 : Int) from rfl]
        clear hlt hk wk1
        go_wp2_with fail
        refine (HWK.out _ HX.out.bel HX.out.tab).mono ?_
        rintro e W8 ⟨rfl, hb8⟩
        have HE := Lib.hid (HPP.out _ hb8)
        clear hb8
        go_wp2_with fail
        first | exact HE.out | (go_ret; exact HE.out)
  · rw [a1, a2, show ((5 : Nat) : Int) = (5 : Int) from rfl]
    have HIZ := Lib.hid a3
    clear hown hb3 a1 a2 a3 HE05 HST HSC HOT HRT
    go_wp2_with (first | (refine wpL_valG (by rfl) (ex_ldBn HTO.out HA3.out rfl rfl) ?_) | (refine wpL_valG (by rfl) (ex_bldB0 rfl) ?_) | (refine wpL_valG (by rfl) (ex_eqBz HIZ.out HTO.out rfl rfl rfl) ?_) | fail)
    refine (HWK.out _ HB3.out (HT.out.grown HB3.out)).mono ?_
    rintro e W8 ⟨rfl, hb8⟩
    have HE := Lib.hid (HPP.out _ hb8)
    clear hb8
    go_wp2_with fail
    first | exact HE.out | (go_ret; exact HE.out)
theorem inodeTakes_walk (l : Bs) (sp : Option Addr) (cap : Nat) (w : World) (hc : l.length ≤ cap) (_hm : cap ≤ maxLen) (hz : sp = none → cap = 0) (hS : SrcA w sp l) (hT : RTab w) :
    Calls Tryd.prog 4 #[.slice sp l.length cap] w fun e w' => e = .returned (.bool true) ∧ Below w.heap.size w w' := by
  by_cases hl : l.length ≤ 600
  · exact inodeTakes_go l sp cap w hl hc hz hS hT
  · have HT := Lib.hid hT
    obtain ⟨L, hL⟩ : ∃ L, l.length = L := ⟨_, rfl⟩
    rw [hL] at hl ⊢
    have i1 : (600 : Int) < (L : Int) := by omega
    clear hL hl hc hz hS hT
    go_enter Tryd.func4, Tryd.ntmps4
    go_wp2_with fail
    refine (iwakes_any w HT.out).mono ?_
    rintro e w2 ⟨rfl, hb2⟩
    have HE := Lib.hid hb2
    clear hb2
    go_wp2_with fail
    go_ret
    exact ⟨rfl, HE.out⟩
end Go.Proofs.YtecngehkdjmjmaaDoor
/- What the rows need: bytes that came in, opened. -/
namespace Go.Proofs.YtecngehkdjmjmaaDoor
open Go.ChangeShapes Go.WideShapes Go.ChangeAt Go.RowKit

theorem own : ownKnob Tryd.prog.godebug = none := by kernel_rfl
theorem laidOut : laidOutB Tryd.prog = true := by kernel_rfl
theorem cellsB : Tryd.prog.cellsOf 5 = 1 := by kernel_rfl
theorem lt_of_cell {w : World} {g o : Nat} {v : Value} (h : w.cell? ⟨g, o, none⟩ = some v) : g < w.heap.size := by
  rcases Nat.lt_or_ge g w.heap.size with h1 | h1
  · exact h1
  · simp [World.cell?, Array.getElem?_eq_none h1] at h
set_option maxRecDepth 100000 in
/-- A slice of bytes that came in. -/
theorem open_bytes {H : Type} {enc : TypeId × Value → H} {W : World} {spare : Nat → Bool} {held : Bool} {b b' : Nat} {v : Value} {d : DataW H} {p : List MemPlace}
    (ho : Value.okWide Tryd.prog W .any b 38 v) (h : DataW.Trod enc Tryd.prog W b' spare held 38 v d p) :
    ∃ (l : List (BitVec 8)) (sp : Option Addr) (cap : Nat), v = .slice sp l.length cap ∧ l.length ≤ cap ∧ cap ≤ maxLen ∧ (sp = none → cap = 0) ∧ SrcA W sp l := by
  obtain ⟨a0, len, cap, rfl⟩ := okWide_slice Tryd.underlying38 ho
  obtain ⟨fuel, hf⟩ := h
  rcases open_ints Tryd.underlying38 Tryd.underlying5 cellsB hf with ⟨hcs, hx⟩ | ⟨a, len', cap', zs, hcs, _, hl, hm, hz, hx, hcell, hwz⟩
  · simp [Value.cells] at hcs
    obtain ⟨rfl, rfl, rfl⟩ := hcs
    exact ⟨[], none, 0, rfl, by simp, by unfold maxLen; omega, fun _ => rfl, SrcA.nil _ _⟩
  · simp [Value.cells] at hcs
    obtain ⟨rfl, rfl, rfl⟩ := hcs
    have hlz : len ≤ zs.length := by rw [hz]; split <;> omega
    have hlen : ((zs.take len).map (fun m => BitVec.ofNat 8 m.toNat)).length = len := by simp; omega
    refine ⟨(zs.take len).map (fun m => BitVec.ofNat 8 m.toNat), some a, cap, by rw [hlen], by omega, hm, (fun h0 => by cases h0), fun h0 => ?_⟩
    rw [hlen] at h0
    obtain ⟨g, o, rfl, hc⟩ := ints_at hcell (by omega)
    have hcl : ∀ j, j < len → W.cell? ⟨g, o + j, none⟩ = some (V8 (((zs.take len).map (fun m => BitVec.ofNat 8 m.toNat)).getD j 0)) := fun j hj => by
      have hj' : j < zs.length := by omega
      have hb := bounds_u8 (hwz _ (List.getElem_mem hj'))
      rw [hc j hj']
      simp only [List.getD_eq_getElem?_getD, List.getElem?_map, List.getElem?_take, if_pos hj, List.getElem?_eq_getElem hj', Option.map_some, Option.getD_some, V8, N8, BitVec.toNat_ofNat]
      congr 2
      omega
    exact ⟨g, o, rfl, lt_of_cell (hc 0 (by omega)), fun j hj => hcl j (by rw [hlen] at hj; exact hj)⟩
end Go.Proofs.YtecngehkdjmjmaaDoor
/- Pointers that came in; the tables as they are laid. -/
namespace Go.Proofs.YtecngehkdjmjmaaDoor
open Go.ChangeShapes Go.WideShapes Go.ChangeAt Go.WideMaps Go.WideElems Go.RowKit

theorem tRu : (Tryd.prog.globals[0]?).map (·.type) = some 98 := by kernel_rfl
theorem cellsRu : Tryd.prog.cellsOf 89 = 3 := by kernel_rfl
theorem cellsRus : Tryd.prog.cellsOf 98 = 18 := by kernel_rfl
theorem cellsInt : Tryd.prog.cellsOf 3 = 1 := by kernel_rfl
section
variable {H : Type} {enc : TypeId × Value → H} {W : World} {spare : Nat → Bool} {held : Bool} {b' : Nat}
theorem three {α : Type} : ∀ cs : List α, cs.length = 3 → ∃ a b c, cs = [a, b, c]
  | [a, b, c], _ => ⟨a, b, c, rfl⟩
set_option maxRecDepth 100000 in
theorem trod_rule {fuel : Nat} {cs : List Value} {x : DataW H × List MemPlace} (h : DataW.trod enc Tryd.prog W b' spare held fuel 89 cs = some x) : ∃ a b c, cs = [.int .i64 a, .int .u8 b, .int .u8 c] ∧ x.1 = .agg [.lit (.int .i64 a), .lit (.int .u8 b), .lit (.int .u8 c)] := by
  obtain ⟨xs, k, _, rfl, hl, hxl, hfl⟩ := DataW.trod_struct Tryd.underlying89 h
  rw [cellsRu] at hl
  obtain ⟨c0, c1, c2, rfl⟩ := three cs hl
  match xs, hxl with
  | [y0, y1, y2], _ =>
    have g0 := hfl 0 _ rfl
    have g1 := hfl 1 _ rfl
    have g2 := hfl 2 _ rfl
    simp [cellsB, cellsInt] at g0 g1 g2
    obtain ⟨z0, e0, f0, _⟩ := DataW.trod_int Tryd.underlying3 g0
    obtain ⟨z1, e1, f1, _⟩ := DataW.trod_int Tryd.underlying5 g1
    obtain ⟨z2, e2, f2, _⟩ := DataW.trod_int Tryd.underlying5 g2
    refine ⟨z0, z1, z2, ?_, ?_⟩
    · simp at e0 e1 e2
      rw [e0, e1, e2]
    · rw [f0, f1, f2]; rfl
theorem cut18 (cs : List Value) (hl : cs.length = 18) : cs = cs.take 3 ++ ((cs.drop 3).take 3 ++ ((cs.drop 6).take 3 ++ ((cs.drop 9).take 3 ++ ((cs.drop 12).take 3 ++ (cs.drop 15).take 3)))) := by
  have g : ∀ n m, (cs.drop n).take m ++ cs.drop (n + m) = cs.drop n := fun n m => by rw [← List.drop_drop, List.take_append_drop]
  have h1 : (cs.drop 15).take 3 = cs.drop 15 := List.take_of_length_le (by simp [hl])
  rw [h1, g 12 3, g 9 3, g 6 3, g 3 3, List.take_append_drop]
set_option maxRecDepth 100000 in
theorem trod_rules {fuel : Nat} {cs : List Value} {x : DataW H × List MemPlace} (h : DataW.trod enc Tryd.prog W b' spare held fuel 98 cs = some x) (hx : x.1 = Rows.laid_kintsugi_ptr_rules) : cs = (List.range 6).flatMap rcell := by
  obtain ⟨xs, m, rfl, rfl, hl, hn, hel⟩ := DataW.trod_array Tryd.underlying98 h
  rw [cellsRus] at hl
  rw [cellsRu] at hel
  match xs, hn with
  | [y0, y1, y2, y3, y4, y5], _ =>
    obtain ⟨a0, b0, c0, e0, f0⟩ := trod_rule (x := y0) (hel 0 (by omega))
    obtain ⟨a1, b1, c1, e1, f1⟩ := trod_rule (x := y1) (hel 1 (by omega))
    obtain ⟨a2, b2, c2, e2, f2⟩ := trod_rule (x := y2) (hel 2 (by omega))
    obtain ⟨a3, b3, c3, e3, f3⟩ := trod_rule (x := y3) (hel 3 (by omega))
    obtain ⟨a4, b4, c4, e4, f4⟩ := trod_rule (x := y4) (hel 4 (by omega))
    obtain ⟨a5, b5, c5, e5, f5⟩ := trod_rule (x := y5) (hel 5 (by omega))
    simp only [List.map_cons, List.map_nil, f0, f1, f2, f3, f4, f5, Rows.laid_kintsugi_ptr_rules, DataW.agg.injEq, List.cons.injEq, DataW.lit.injEq, Lit.int.injEq, true_and, and_true] at hx
    rw [cut18 cs hl]
    simp only [Nat.zero_mul, List.drop_zero] at e0
    rw [e0, e1, e2, e3, e4, e5]
    obtain ⟨⟨rfl, rfl, rfl⟩, ⟨rfl, rfl, rfl⟩, ⟨rfl, rfl, rfl⟩, ⟨rfl, rfl, rfl⟩, ⟨rfl, rfl, rfl⟩, ⟨rfl, rfl, rfl⟩⟩ := hx
    rfl
end
theorem row_of {W : World} {n : String} {g : Nat} {cs : Array Value} (hg : Tryd.prog.globalNamed n = some g) (hv : W.var? Tryd.prog n = some cs) : ∃ t fr, W.heap[g]? = some (.cells cs t fr) := by
  unfold World.var? at hv
  rw [hg] at hv
  simp only [Option.bind_some] at hv
  split at hv
  · rename_i cs' t fr hh
    obtain rfl := Option.some.inj hv
    exact ⟨t, fr, hh⟩
  · cases hv
end Go.Proofs.YtecngehkdjmjmaaDoor
/- Inodes that came in; the table of kinds as it is laid. -/
namespace Go.Proofs.YtecngehkdjmjmaaDoor
open Go.ChangeShapes Go.WideShapes Go.ChangeAt Go.WideMaps Go.WideElems Go.RowKit

def laidK : List (String × DataW Unit) := [("kintsugi/ptr.rules", Rows.laid_kintsugi_ptr_rules)]
theorem gK : (laidK.map fun x => Tryd.prog.globalNamed x.1) = [some 0] := by kernel_rfl
theorem door_met (os : Os) (args : Array Value) : laidMetH Tryd.prog laidK ((World.doorLaid Tryd.prog 400 os).forCall (fun _ _ => 0) ⟨#[], args, []⟩).memory :=
  laidMetH_of_parts3 (fuel := 8) (laidMet_of_run' 8 (by kernel_rfl) (by kernel_rfl)) (by kernel_rfl) (by kernel_rfl)
theorem of_laid {W : World} (h : laidMetH Tryd.prog laidK W) : RTab W := by
  rw [MakeChecks.laidMetH_plain _ _ _ (by kernel_rfl)] at h
  obtain ⟨ps, ⟨g1, t1, cs1, f1, p1, q1, hg1, ht1, hv1, hd1, _, _⟩, _, _⟩ := h
  have hgg : [some g1] = [some 0] := by rw [← gK]; show _ = [Tryd.prog.globalNamed _]; rw [← hg1]
  simp only [List.cons.injEq, Option.some.injEq, and_true] at hgg
  obtain rfl := hgg
  obtain rfl := Option.some.inj (tRu.symm.trans ht1)
  have hc := trod_rules hd1 rfl
  obtain ⟨t, fr, hh⟩ := row_of hg1 hv1
  refine ⟨t, fr, ?_⟩
  rw [hh, ← hc]
section
variable {H : Type} {enc : TypeId × Value → H} {W : World} {b' : Nat} {spare : Nat → Bool} {held : Bool}
end
end Go.Proofs.YtecngehkdjmjmaaDoor
