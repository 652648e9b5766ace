/- TreeFails: the law's walk. -/
import Derived.Test.YtfcjeceoedfldaaDoorM33
import Derived.Test.YtfcjeceoedfldaaDoorM34
namespace Go.Proofs.YtfcjeceoedfldaaDoor
open Go.RowKit

attribute [local go_sem] Oper.semAt_some

/-- What stands at the head of the first loop. -/
structure TfS (w : World) (D gR gH : Nat) (s : Sh) (k : Nat) (root : Pt) (h mids : List Pt) (cs : List Value) (X : World) : Prop where
  fr : Fr w D s [(gR, pcells root, 37), (gH, cs, 37)] X
  row : RowB 37 41 [(gH, cs, 37)] (.slice (some ⟨gH, 0, none⟩) 64 64) 64 (prows h)
  it : IsT s.blocks root h mids
  ok : root.OK
  bad : s.bad = []
  room : s.room = -1
  bl : s.blocks.length ≤ 9 * k
  lim : Lim (715 * k) s
  fine : ∀ p ∈ h, p.OK ∧ fineP p = true
  inv : LInv h
theorem tf_start {w X : World} {D gR gH : Nat} {h0 : List Pt} (hh : h0 = List.replicate 64 zeroP) (hF : Fr w D sh0 [(gH, prows h0, 37), (gR, pcells zeroP, 37)] X) : TfS w D gR gH sh0 0 zeroP h0 holes (prows h0) X := by
  have hz := pcells_length zeroP_ok
  have hl : (prows h0).length = 64 * 41 := by
    rw [hh]
    show ((List.replicate 64 zeroP).flatMap pcells).length = _
    rw [List.length_flatMap, List.map_replicate, hz]
    simp
  exact ⟨hF.sub (fun y hy => by simp at hy ⊢; rcases hy with e | e <;> simp [e]), ⟨hl, .inr ⟨gH, 64, _, rfl, rfl, Nat.le_refl _, by unfold maxLen; omega, hl, List.take_of_length_le (by omega)⟩⟩, by rw [hh]; exact tree_zero _, zeroP_ok, rfl, rfl, Nat.le_refl _, lim0, fun p hp => by
    rw [hh] at hp
    rw [List.eq_of_mem_replicate hp]; exact ⟨zeroP_ok, fine_zero⟩, by rw [hh]; exact inv_zero⟩
theorem infoAc : (Tryd.prog.info? 43).map (fun i => (i.zero.map (·.cells.size), i.size, i.bytes)) = some (some 3, 3, 40) := by kernel_rfl
theorem ex_oneA {ρ : Operand → Value} {o : Oper} {x : Operand} {w : World} {a : AcT} {lc : List Value} (hlc : tacells a = lc) (ho : o.op = .buildSlice 22 1 #[(0, x)]) (hx : ρ x = .agg lc.toArray) :
    (execOp ρ o).run Tryd.prog w = .ok (.value (.slice (some ⟨w.heap.size, 0, none⟩) 1 1)) (w.alloc (.cells lc.toArray 43)) := by
  subst hlc
  obtain ⟨i, hi, h2⟩ := Option.map_eq_some_iff.1 infoAc
  simp only [Prod.mk.injEq] at h2
  obtain ⟨z, hz0, hz1⟩ := Option.map_eq_some_iff.1 h2.1
  have hr := run_buildSlice (P := Tryd.prog) w 22 43 1 #[(0, .agg (tacells a).toArray)] (tacells a).toArray i z Tryd.underlying22 hi hz0 (by rw [h2.2.1]; omega) (by rw [h2.2.1]; omega)
    (fill_whole (size := 3) (by simp [h2.2.1]) (by simp [Value.cells, tacells]) (by simp [h2.2.1]))
  unfold execOp
  simp only [ho]
  rw [show (Array.map (fun x : Nat × Operand => (x.1, ρ x.2)) #[(0, x)]) = #[(0, .agg (tacells a).toArray)] by simp [hx]]
  simp only [Sem.run_bind, hr, Result.andThen_ok]
  rfl
theorem ex_ldAl {ρ : Operand → Value} {o : Oper} {x : Operand} {w : World} {g : Nat} {a : AcT} {lc : List Value} (hlc : tacells a = lc) (hB : Blk w g lc 43) (ho : o.op = .load 43 x) (hx : ρ x = .pointer (some ⟨g, 0, none⟩)) : (execOp ρ o).run Tryd.prog w = .ok (.value (.agg lc.toArray)) w := by
  subst hlc
  exact ex_ldAc (fun j v hj => by rw [Nat.zero_add]; exact hB.cell hj) ho hx
theorem ex_gtrB {ρ : Operand → Value} {o : Oper} {x y : Operand} {a b : Int} {m : Bool} {t : TypeId} {w : World} (hm : decide (b < a) = m) (ho : o.op = .binOp .gtr 3 x y t) (hx : ρ x = .int .i64 a) (hy : ρ y = .int .i64 b) : (execOp ρ o).run Tryd.prog w = .ok (.value (.bool m)) w := by
  subst hm
  unfold execOp
  simp only [ho]
  go_simp
theorem acts_one {w W : World} {a : AcT} {lc : List Value} (hlc : tacells a = lc) (h : AcOKT w a) (hb : Below w.heap.size w W) {g : Nat} (hB : Blk W g lc 43) : ActsT W (some ⟨g, 0, none⟩) [a] := by
  subst hlc
  refine ⟨fun x hx => ?_, fun _ => ⟨g, 0, rfl, hB.lt, fun i x hx => ?_⟩⟩
  · simp only [List.mem_singleton] at hx
    subst hx
    exact ⟨srcA_grown h.1 hb, h.2⟩
  · cases i with
    | zero =>
      simp only [List.getElem?_cons_zero, Option.some.injEq] at hx
      subst hx
      exact fun j v hj => by rw [show 0 + 0 * 3 + j = j by omega]; exact hB.cell hj
    | succ i => simp at hx
theorem SrcU.grown {w W : World} {sp : Option Addr} {l : List Nat} (h : SrcU w sp l) (hb : Below w.heap.size w W) : SrcU W sp l := fun h0 => by
  obtain ⟨g, o, e, hg, hc⟩ := h h0
  refine ⟨g, o, e, Nat.lt_of_lt_of_le hg hb.size, fun i x hx => ?_⟩
  rw [World.cell?_of_block (w := w) (a := ⟨g, o + i, none⟩) (hb.block g hg)]
  exact hc i x hx
/-- Is one of the first addresses bad that a pointer has? -/
def hitL (bl : List Nat) (q : Pt) : Bool := bl.any (fun x => x == at0 q)
theorem any_take_succ {α : Type} (f : α → Bool) {l : List α} {k : Nat} {x : α} (h : l[k]? = some x) : (l.take (k + 1)).any f = ((l.take k).any f || f x) := by
  rw [take_snoc h, List.any_append]
  simp
theorem tl_mk {ops : Array Oper} {rest : List Oper} {o : Oper} {a : Act} {Q : Exit → Act → World → Prop} {w : World} (v : Value) (w1 : World) (hw : Region.wanted o (yielded ops a.tmps) = true) (hrun : (execOp a.eval o).run Tryd.prog w = .ok (.value v) w1)
    (hK : wpList Tryd.prog ops Q rest (a.put o.dst v) w1) : wpList Tryd.prog ops Q (o :: rest) a w := by
  unfold wpList
  rw [if_pos hw]
  refine .inl ?_
  unfold Oper.wp
  rw [hrun]
  exact hK
theorem ex_alPt {ρ : Operand → Value} {o : Oper} {w : World} (ho : o.op = .alloc 37) : (execOp ρ o).run Tryd.prog w = .ok (.value (.pointer (some ⟨w.heap.size, 0, none⟩))) (w.alloc (.cells (pcells zeroP).toArray 37)) := by
  unfold execOp
  simp only [ho]
  go_simp
  rfl
theorem ex_iaU {ρ : Operand → Value} {o : Oper} {x y : Operand} {g o' n cap k : Nat} {w : World} (ho : o.op = .indexAddr 27 x y) (hx : ρ x = .slice (some ⟨g, o', none⟩) n cap) (hy : ρ y = .int .i64 (k : Int)) (hk : k < n ∧ n ≤ cap) :
    (execOp ρ o).run Tryd.prog w = .ok (.value (.pointer (some ⟨g, o' + k, none⟩))) w := by
  have h1 : ¬ n ≤ k := by omega
  unfold execOp
  simp only [ho]
  go_simp
theorem ex_eq16b {ρ : Operand → Value} {o : Oper} {x y : Operand} {a b : Int} {m : Bool} {t : TypeId} {w : World} (hm : decide (a = b) = m) (ho : o.op = .binOp .eql 31 x y t) (hx : ρ x = .int .u16 a) (hy : ρ y = .int .u16 b) : (execOp ρ o).run Tryd.prog w = .ok (.value (.bool m)) w := by
  subst hm
  have e : (a == b) = decide (a = b) := rfl
  unfold execOp
  simp only [ho]
  go_simp
theorem cell_at0 {q : Pt} (h : q.OK) : (pcells q)[37]? = some (U16 (at0 q)) := by
  have hl := h.len
  unfold pcells at0
  rw [List.getElem?_append_right (by simp [pnums]), List.getElem?_append_right (by simp [pnums, h.hash]), List.getElem?_map, List.getD_eq_getElem?_getD]
  simp only [pnums, List.length_cons, List.length_nil, List.length_map, h.hash]
  rw [List.getElem?_eq_getElem (by omega)]
  rfl
theorem ex_ld16 {ρ : Operand → Value} {o : Oper} {x : Operand} {ad : Addr} {n : Nat} {w : World} (ho : o.op = .load 31 x) (hx : ρ x = .pointer (some ad)) (hc : w.cell? ad = some (.int .u16 (n : Int))) : (execOp ρ o).run Tryd.prog w = .ok (.value (.int .u16 (n : Int))) w := ex_ld1 Tryd.underlying31 ho hx hc
set_option maxRecDepth 100000 in
set_option maxHeartbeats 32000000 in
theorem treeFails_go (l : List AcT) (sp : Option Addr) (cap : Nat) (hc : l.length ≤ cap) (bl : List Nat) (spb : Option Addr) (capb : Nat) (hcb : bl.length ≤ capb) (hzb : spb = none → capb = 0) (hbl : ∀ x ∈ bl, x < 65536) (room off : Nat) (hroom : room < 256) (hoff : off < 4294967296) (last : AcT) (w : World) (hA : ActsT w sp l) (hLa : AcOKT w last) (hB : SrcU w spb bl) (hltb : ∀ a, spb = some a → a.block < w.heap.size) (hT : RTab w) :
    Calls Tryd.prog 4 #[.slice sp l.length cap, .slice spb bl.length capb, .int .u8 (room : Int), .int .u32 (off : Int), .agg (tacells last).toArray] w fun e w' => e = .returned (.bool true) ∧ Below w.heap.size w w' := by
  obtain ⟨lc, hlc⟩ : ∃ a, tacells last = a := ⟨_, rfl⟩
  have HLC := Lib.hid hlc
  have HA := Lib.hid hA; have HT := Lib.hid hT; have HC := Lib.hid hc; have HCB := Lib.hid hcb; have HZB := Lib.hid hzb; have HBL := Lib.hid hbl; have HRO := Lib.hid hroom; have HOF := Lib.hid hoff; have HLA := Lib.hid hLa; have HB := Lib.hid hB; have HLTB := Lib.hid hltb
  obtain ⟨N, hN⟩ : ∃ N, l.length = N := ⟨_, rfl⟩
  obtain ⟨NB, hNB⟩ : ∃ N, bl.length = N := ⟨_, rfl⟩
  rw [hN, hNB, hlc]
  have HN := Lib.hid hN; have HNB := Lib.hid hNB
  generalize hPost : (fun e w' => e = Ending.returned (.bool true) ∧ Below w.heap.size w w') = Post
  have HP : Hid (∀ w', Below w.heap.size w w' → Post (.returned (.bool true)) w') := Lib.hid fun w' h => by rw [← hPost]; exact ⟨rfl, h⟩
  have HSZ := Lib.hid (size_pc zeroP_ok)
  have HLZ : Hid ((pcells zeroP).toArray.size = 41) := Lib.hid (by rw [List.size_toArray, pcells_length zeroP_ok])
  obtain ⟨G, hG⟩ : ∃ g, w.heap.size = g := ⟨_, rfl⟩
  have HG := Lib.hid hG
  have HW0 : Hid (Blk (w.alloc (.cells lc.toArray 43)) G lc 43 ∧ Below w.heap.size w (w.alloc (.cells lc.toArray 43))) := Lib.hid ⟨by rw [← hG]; exact Blk.new _ _ _, (Below.refl _ _).alloc (Nat.le_refl _) _⟩
  obtain ⟨U, hU⟩ : ∃ u, u = undef := ⟨_, rfl⟩
  have HU := Lib.hid hU
  clear hA hT hc hcb hzb hbl hroom hoff hLa hB hltb hN hNB hPost hlc hG hU
  go_enter Tryd.func4, Tryd.ntmps4
  go_upto_region 1 with fail
  refine (fun (k : ∀ W, (Blk W G lc 43 ∧ Below w.heap.size w W) → Code.wp _ _ _ _ W) => k _ HW0.out) ?_
  intro W0 hW0
  have HS0 := Lib.hid hW0
  rw [HG.out]
  have hx0 : (fun X => Blk X G lc 43 ∧ Below w.heap.size w X) W0 := hW0
  clear hW0 HW0
  obtain ⟨z, hz⟩ : ∃ b, greatB l = b := ⟨_, rfl⟩
  have HZ1 := Lib.hid hz
  cases z
  case true =>
    obtain ⟨z, hzt⟩ : ∃ b : Bool, b = true := ⟨_, rfl⟩
    have HZT := Lib.hid hzt
    clear hz hzt
    refine wp_region_list ?_
    refine tl_val (S := fun X => Blk X G lc 43 ∧ Below w.heap.size w X) (.slice sp N cap) (by rfl) hx0 (fun X hX => by first | rfl | go_simp) ?_
    (try simp only [Act.put, List.setIfInBounds_toArray, List.set_cons_zero, List.set_cons_succ])
    refine tl_call (by rfl) 5 #[.slice sp N cap] (by go_simp) (fun u X => u = .bool z ∧ Blk X G lc 43 ∧ Below w.heap.size w X) ((by have h := great_go l sp cap HC.out W0 (HA.out.grown hx0.2); rw [HN.out, HZ1.out] at h; exact h : Calls Tryd.prog 5 #[.slice sp N cap] W0 fun e w' => e = .returned (.bool true) ∧ Below W0.heap.size W0 w').mono fun e Y ⟨e1, hb⟩ => ⟨_, e1, by rw [HZT.out], hx0.1.below hb hx0.1.lt, hx0.2.trans (hb.mono hx0.2.size)⟩) ?_
    rintro u Wg1 ⟨rfl, hg1⟩
    (try simp only [Act.put, List.setIfInBounds_toArray, List.set_cons_zero, List.set_cons_succ])
    refine tl_val (S := fun X => Blk X G lc 43 ∧ Below w.heap.size w X) (.bool z) (by rfl) hg1 (fun X hX => by first | rfl | go_simp) ?_
    (try simp only [Act.put, List.setIfInBounds_toArray, List.set_cons_zero, List.set_cons_succ])
    refine tl_skip (by first | rfl | (rw [HZT.out]; rfl)) ?_
    (try simp only [Act.put, List.setIfInBounds_toArray, List.set_cons_zero, List.set_cons_succ])
    refine tl_skip (by first | rfl | (rw [HZT.out]; rfl)) ?_
    (try simp only [Act.put, List.setIfInBounds_toArray, List.set_cons_zero, List.set_cons_succ])
    refine tl_skip (by first | rfl | (rw [HZT.out]; rfl)) ?_
    (try simp only [Act.put, List.setIfInBounds_toArray, List.set_cons_zero, List.set_cons_succ])
    refine tl_val (S := fun X => Blk X G lc 43 ∧ Below w.heap.size w X) (.bool z) (by rfl) hg1 (fun X hX => by rw [HZT.out]; first | rfl | go_simp) ?_
    (try simp only [Act.put, List.setIfInBounds_toArray, List.set_cons_zero, List.set_cons_succ])
    refine tl_val (S := fun X => Blk X G lc 43 ∧ Below w.heap.size w X) (.bool z) (by rfl) hg1 (fun X hX => by first | rfl | go_simp) ?_
    (try simp only [Act.put, List.setIfInBounds_toArray, List.set_cons_zero, List.set_cons_succ])
    refine tl_skip (by first | rfl | (rw [HZT.out]; rfl)) ?_
    (try simp only [Act.put, List.setIfInBounds_toArray, List.set_cons_zero, List.set_cons_succ])
    refine tl_skip (by first | rfl | (rw [HZT.out]; rfl)) ?_
    (try simp only [Act.put, List.setIfInBounds_toArray, List.set_cons_zero, List.set_cons_succ])
    refine tl_skip (by first | rfl | (rw [HZT.out]; rfl)) ?_
    (try simp only [Act.put, List.setIfInBounds_toArray, List.set_cons_zero, List.set_cons_succ])
    refine tl_val (S := fun X => Blk X G lc 43 ∧ Below w.heap.size w X) (.bool true) (by rfl) hg1 (fun X hX => by rw [HZT.out]; first | rfl | go_simp) ?_
    (try simp only [Act.put, List.setIfInBounds_toArray, List.set_cons_zero, List.set_cons_succ])
    refine wpList_nil ?_
    have hxe := hg1
    have HT9 := Lib.hid (HT.out.grown hxe.2)
    have HX9 := Lib.hid hxe.2
    go_wp2_with fail
    refine (twakes_any _ HT9.out).mono ?_
    rintro e W9 ⟨rfl, hb9⟩
    have HE := Lib.hid (HP.out _ (HX9.out.trans (hb9.mono HX9.out.size)))
    go_wp2_with fail
    first | exact HE.out | (go_ret; exact HE.out)
  case false =>
  clear hz
  obtain ⟨z, hz⟩ : ∃ b, greatB [last] = b := ⟨_, rfl⟩
  have HZ2 := Lib.hid hz
  cases z
  case true =>
    obtain ⟨z, hzt⟩ : ∃ b : Bool, b = true := ⟨_, rfl⟩
    have HZT := Lib.hid hzt
    clear hz hzt
    refine wp_region_list ?_
    refine tl_val (S := fun X => Blk X G lc 43 ∧ Below w.heap.size w X) (.slice sp N cap) (by rfl) hx0 (fun X hX => by first | rfl | go_simp) ?_
    (try simp only [Act.put, List.setIfInBounds_toArray, List.set_cons_zero, List.set_cons_succ])
    refine tl_call (by rfl) 5 #[.slice sp N cap] (by go_simp) (fun u X => u = .bool false ∧ Blk X G lc 43 ∧ Below w.heap.size w X) ((by have h := great_go l sp cap HC.out W0 (HA.out.grown hx0.2); rw [HN.out, HZ1.out] at h; exact h : Calls Tryd.prog 5 #[.slice sp N cap] W0 fun e w' => e = .returned (.bool false) ∧ Below W0.heap.size W0 w').mono fun e Y ⟨e1, hb⟩ => ⟨_, e1, rfl, hx0.1.below hb hx0.1.lt, hx0.2.trans (hb.mono hx0.2.size)⟩) ?_
    rintro u Wg1 ⟨rfl, hg1⟩
    (try simp only [Act.put, List.setIfInBounds_toArray, List.set_cons_zero, List.set_cons_succ])
    refine tl_val (S := fun X => Blk X G lc 43 ∧ Below w.heap.size w X) (.bool false) (by rfl) hg1 (fun X hX => by first | rfl | go_simp) ?_
    (try simp only [Act.put, List.setIfInBounds_toArray, List.set_cons_zero, List.set_cons_succ])
    refine tl_val (S := fun X => Blk X G lc 43 ∧ Below w.heap.size w X) (.agg lc.toArray) (by rfl) hg1 (fun X hX => ex_ldAl HLC.out hX.1 rfl rfl) ?_
    (try simp only [Act.put, List.setIfInBounds_toArray, List.set_cons_zero, List.set_cons_succ])
    refine tl_mk (.slice (some ⟨Wg1.heap.size, 0, none⟩) 1 1) (Wg1.alloc (.cells lc.toArray 43)) (by rfl) (ex_oneA HLC.out rfl rfl) ?_
    (try simp only [Act.put, List.setIfInBounds_toArray, List.set_cons_zero, List.set_cons_succ])
    have hnw : Blk (Wg1.alloc (.cells lc.toArray 43)) Wg1.heap.size lc 43 := Blk.new _ _ _
    have hg2 : Blk (Wg1.alloc (.cells lc.toArray 43)) G lc 43 ∧ Below w.heap.size w (Wg1.alloc (.cells lc.toArray 43)) := ⟨hg1.1.below ((Below.refl _ _).alloc (Nat.le_refl _) _) hg1.1.lt, hg1.2.alloc hg1.2.size _⟩
    refine tl_call (by rfl) 5 #[.slice (some ⟨Wg1.heap.size, 0, none⟩) 1 1] (by go_simp) (fun u X => u = .bool z ∧ Blk X G lc 43 ∧ Below w.heap.size w X) ((by have h := great_go [last] (some ⟨Wg1.heap.size, 0, none⟩) 1 (Nat.le_refl _) (Wg1.alloc (.cells lc.toArray 43)) (acts_one HLC.out HLA.out hg2.2 hnw); rw [HZ2.out] at h; exact h : Calls Tryd.prog 5 #[.slice (some ⟨Wg1.heap.size, 0, none⟩) 1 1] (Wg1.alloc (.cells lc.toArray 43)) fun e w' => e = .returned (.bool true) ∧ Below (Wg1.alloc (.cells lc.toArray 43)).heap.size (Wg1.alloc (.cells lc.toArray 43)) w').mono fun e Y ⟨e1, hb⟩ => ⟨_, e1, by rw [HZT.out], hg2.1.below hb hg2.1.lt, hg2.2.trans (hb.mono hg2.2.size)⟩) ?_
    rintro u Wg3 ⟨rfl, hg3⟩
    (try simp only [Act.put, List.setIfInBounds_toArray, List.set_cons_zero, List.set_cons_succ])
    refine tl_val (S := fun X => Blk X G lc 43 ∧ Below w.heap.size w X) (.bool z) (by rfl) hg3 (fun X hX => by first | rfl | go_simp) ?_
    (try simp only [Act.put, List.setIfInBounds_toArray, List.set_cons_zero, List.set_cons_succ])
    refine tl_val (S := fun X => Blk X G lc 43 ∧ Below w.heap.size w X) (.bool z) (by rfl) hg3 (fun X hX => by first | rfl | go_simp) ?_
    (try simp only [Act.put, List.setIfInBounds_toArray, List.set_cons_zero, List.set_cons_succ])
    refine tl_skip (by first | rfl | (rw [HZT.out]; rfl)) ?_
    (try simp only [Act.put, List.setIfInBounds_toArray, List.set_cons_zero, List.set_cons_succ])
    refine tl_skip (by first | rfl | (rw [HZT.out]; rfl)) ?_
    (try simp only [Act.put, List.setIfInBounds_toArray, List.set_cons_zero, List.set_cons_succ])
    refine tl_skip (by first | rfl | (rw [HZT.out]; rfl)) ?_
    (try simp only [Act.put, List.setIfInBounds_toArray, List.set_cons_zero, List.set_cons_succ])
    refine tl_val (S := fun X => Blk X G lc 43 ∧ Below w.heap.size w X) (.bool true) (by rfl) hg3 (fun X hX => by rw [HZT.out]; first | rfl | go_simp) ?_
    (try simp only [Act.put, List.setIfInBounds_toArray, List.set_cons_zero, List.set_cons_succ])
    refine wpList_nil ?_
    have hxe := hg3
    have HT9 := Lib.hid (HT.out.grown hxe.2)
    have HX9 := Lib.hid hxe.2
    go_wp2_with fail
    refine (twakes_any _ HT9.out).mono ?_
    rintro e W9 ⟨rfl, hb9⟩
    have HE := Lib.hid (HP.out _ (HX9.out.trans (hb9.mono HX9.out.size)))
    go_wp2_with fail
    first | exact HE.out | (go_ret; exact HE.out)
  case false =>
  clear hz
  obtain ⟨m, hm⟩ : ∃ b, decide ((20 : Int) < (NB : Int)) = b := ⟨_, rfl⟩
  have HM := Lib.hid hm
  clear hm
  refine wp_region_list ?_
  refine tl_val (S := fun X => Blk X G lc 43 ∧ Below w.heap.size w X) (.slice sp N cap) (by rfl) hx0 (fun X hX => by first | rfl | go_simp) ?_
  (try simp only [Act.put, List.setIfInBounds_toArray, List.set_cons_zero, List.set_cons_succ])
  refine tl_call (by rfl) 5 #[.slice sp N cap] (by go_simp) (fun u X => u = .bool false ∧ Blk X G lc 43 ∧ Below w.heap.size w X) ((by have h := great_go l sp cap HC.out W0 (HA.out.grown hx0.2); rw [HN.out, HZ1.out] at h; exact h : Calls Tryd.prog 5 #[.slice sp N cap] W0 fun e w' => e = .returned (.bool false) ∧ Below W0.heap.size W0 w').mono fun e Y ⟨e1, hb⟩ => ⟨_, e1, rfl, hx0.1.below hb hx0.1.lt, hx0.2.trans (hb.mono hx0.2.size)⟩) ?_
  rintro u Wg1 ⟨rfl, hg1⟩
  (try simp only [Act.put, List.setIfInBounds_toArray, List.set_cons_zero, List.set_cons_succ])
  refine tl_val (S := fun X => Blk X G lc 43 ∧ Below w.heap.size w X) (.bool false) (by rfl) hg1 (fun X hX => by first | rfl | go_simp) ?_
  (try simp only [Act.put, List.setIfInBounds_toArray, List.set_cons_zero, List.set_cons_succ])
  refine tl_val (S := fun X => Blk X G lc 43 ∧ Below w.heap.size w X) (.agg lc.toArray) (by rfl) hg1 (fun X hX => ex_ldAl HLC.out hX.1 rfl rfl) ?_
  (try simp only [Act.put, List.setIfInBounds_toArray, List.set_cons_zero, List.set_cons_succ])
  refine tl_mk (.slice (some ⟨Wg1.heap.size, 0, none⟩) 1 1) (Wg1.alloc (.cells lc.toArray 43)) (by rfl) (ex_oneA HLC.out rfl rfl) ?_
  (try simp only [Act.put, List.setIfInBounds_toArray, List.set_cons_zero, List.set_cons_succ])
  have hnw : Blk (Wg1.alloc (.cells lc.toArray 43)) Wg1.heap.size lc 43 := Blk.new _ _ _
  have hg2 : Blk (Wg1.alloc (.cells lc.toArray 43)) G lc 43 ∧ Below w.heap.size w (Wg1.alloc (.cells lc.toArray 43)) := ⟨hg1.1.below ((Below.refl _ _).alloc (Nat.le_refl _) _) hg1.1.lt, hg1.2.alloc hg1.2.size _⟩
  refine tl_call (by rfl) 5 #[.slice (some ⟨Wg1.heap.size, 0, none⟩) 1 1] (by go_simp) (fun u X => u = .bool false ∧ Blk X G lc 43 ∧ Below w.heap.size w X) ((by have h := great_go [last] (some ⟨Wg1.heap.size, 0, none⟩) 1 (Nat.le_refl _) (Wg1.alloc (.cells lc.toArray 43)) (acts_one HLC.out HLA.out hg2.2 hnw); rw [HZ2.out] at h; exact h : Calls Tryd.prog 5 #[.slice (some ⟨Wg1.heap.size, 0, none⟩) 1 1] (Wg1.alloc (.cells lc.toArray 43)) fun e w' => e = .returned (.bool false) ∧ Below (Wg1.alloc (.cells lc.toArray 43)).heap.size (Wg1.alloc (.cells lc.toArray 43)) w').mono fun e Y ⟨e1, hb⟩ => ⟨_, e1, rfl, hg2.1.below hb hg2.1.lt, hg2.2.trans (hb.mono hg2.2.size)⟩) ?_
  rintro u Wg3 ⟨rfl, hg3⟩
  (try simp only [Act.put, List.setIfInBounds_toArray, List.set_cons_zero, List.set_cons_succ])
  refine tl_val (S := fun X => Blk X G lc 43 ∧ Below w.heap.size w X) (.bool false) (by rfl) hg3 (fun X hX => by first | rfl | go_simp) ?_
  (try simp only [Act.put, List.setIfInBounds_toArray, List.set_cons_zero, List.set_cons_succ])
  refine tl_val (S := fun X => Blk X G lc 43 ∧ Below w.heap.size w X) (.bool false) (by rfl) hg3 (fun X hX => by first | rfl | go_simp) ?_
  (try simp only [Act.put, List.setIfInBounds_toArray, List.set_cons_zero, List.set_cons_succ])
  refine tl_val (S := fun X => Blk X G lc 43 ∧ Below w.heap.size w X) (.slice spb NB capb) (by rfl) hg3 (fun X hX => by first | rfl | go_simp) ?_
  (try simp only [Act.put, List.setIfInBounds_toArray, List.set_cons_zero, List.set_cons_succ])
  refine tl_val (S := fun X => Blk X G lc 43 ∧ Below w.heap.size w X) (.int .i64 (NB : Int)) (by rfl) hg3 (fun X hX => by first | rfl | go_simp) ?_
  (try simp only [Act.put, List.setIfInBounds_toArray, List.set_cons_zero, List.set_cons_succ])
  refine tl_val (S := fun X => Blk X G lc 43 ∧ Below w.heap.size w X) (.bool m) (by rfl) hg3 (fun X hX => ex_gtrB HM.out rfl rfl rfl) ?_
  (try simp only [Act.put, List.setIfInBounds_toArray, List.set_cons_zero, List.set_cons_succ])
  refine tl_val (S := fun X => Blk X G lc 43 ∧ Below w.heap.size w X) (.bool m) (by rfl) hg3 (fun X hX => by first | rfl | go_simp) ?_
  (try simp only [Act.put, List.setIfInBounds_toArray, List.set_cons_zero, List.set_cons_succ])
  refine wpList_nil ?_
  have hxe := hg3
  obtain ⟨W1, hW1⟩ : ∃ w1, Wg3 = w1 := ⟨_, rfl⟩
  rw [hW1] at hxe ⊢
  have HW1 := Lib.hid hxe
  clear hxe hx0 hW1 hg3
  cases m
  case true =>
    have HT9 := Lib.hid (HT.out.grown HW1.out.2)
    have HX9 := Lib.hid HW1.out.2
    go_wp2_with fail
    refine (twakes_any _ HT9.out).mono ?_
    rintro e W9 ⟨rfl, hb9⟩
    have HE := Lib.hid (HP.out _ (HX9.out.trans (hb9.mono HX9.out.size)))
    go_wp2_with fail
    first | exact HE.out | (go_ret; exact HE.out)
  case false =>
  have HNB20 : Hid (NB ≤ 20) := Lib.hid (by have := of_decide_eq_false HM.out; omega)
  have HLB : Hid (last.b.length ≤ 64 ∧ N ≤ 60 ∧ ∀ a ∈ l, a.b.length ≤ 64) := Lib.hid (by
    have h1 := HZ1.out
    have h2 := HZ2.out
    unfold greatB at h1 h2
    rw [Bool.or_eq_false_iff] at h1 h2
    rw [HN.out] at h1
    refine ⟨by simpa using h2.2, by simpa using h1.1, fun a ha => ?_⟩
    have := List.any_eq_false.1 h1.2 a ha
    simpa using this)
  have HGB : Hid (Blk W1 G lc 43) := Lib.hid HW1.out.1
  have HB1 : Hid (Below w.heap.size w W1) := Lib.hid HW1.out.2
  have HT1 := Lib.hid (HT.out.grown HB1.out)
  have HA1 := Lib.hid (HA.out.grown HB1.out)
  have HLA1 : Hid (AcOKT W1 last) := Lib.hid ⟨srcA_grown HLA.out.1 HB1.out, HLA.out.2⟩
  have HBU1 := Lib.hid (HB.out.grown HB1.out)
  have HFN := Lib.hid (fr_new W1 HT1.out)
  clear HW1 HZ1 HZ2 HM
  go_upto_region 4 with fail
  refine (fun (k : ∀ W, Fr W1 W1.heap.size sh0 [] W → Code.wp _ _ _ _ W) => k _ HFN.out) ?_
  intro W2 hW2
  obtain ⟨D, hD⟩ : ∃ d, W1.heap.size = d := ⟨_, rfl⟩
  rw [hD] at hW2 ⊢
  have HF2 := Lib.hid hW2
  clear hW2 hD HFN
  go_upto_region 5 with (first | (refine wpL_val rfl (ex_bld0 rfl) ?_) | (refine wpList_store_row rfl 37 (.tmp 12) (.tmp 46) rfl W2.heap.size (pcells zeroP).toArray rfl rfl 37 _ (heap_alloc_new W2 _) HSZ.out (by rw [HLZ.out]; rfl) (one_pc zeroP) ?_) | fail)
  refine (fun (k : ∀ W, Fr W1 D sh0 [(W2.heap.size, pcells zeroP, 37)] W → Code.wp _ _ _ _ W) => k _ (HF2.out.add (blk_row1 W2 _ (pcells zeroP) 37).2 (Nat.le_refl _) (blk_row1 W2 _ (pcells zeroP) 37).1)) ?_
  intro W3 hW3
  obtain ⟨gR, hgR⟩ : ∃ g, W2.heap.size = g := ⟨_, rfl⟩
  rw [hgR] at hW3 ⊢
  have q1 : W1.heap.size ≤ gR := by rw [← hgR]; exact HF2.out.bel.size
  have q2 : gR < W3.heap.size := (hW3.at (g := gR) (cs := pcells zeroP) (t := 37) (by simp)).lt
  obtain ⟨h0, hh0⟩ : ∃ h, h = List.replicate 64 zeroP := ⟨_, rfl⟩
  have HH0 := Lib.hid hh0
  have hadd := hW3.add (g := W3.heap.size) (cs := prows h0) (t := 37) ((Below.refl _ _).alloc (Nat.le_refl _) (.cells (prows h0).toArray 37)) (Nat.le_refl _) (Blk.new W3 (prows h0) 37)
  have HF4 := Lib.hid hadd
  clear hW3 hgR HF2 hadd hh0
  go_upto_region 6 with (first | (refine wpL_val rfl (ex_mk64h HH0.out rfl rfl) ?_) | fail)
  refine (fun (k : ∀ W, Fr W1 D sh0 [(W3.heap.size, prows h0, 37), (gR, pcells zeroP, 37)] W → Code.wp _ _ _ _ W) => k _ HF4.out) ?_
  intro W4 hW4
  obtain ⟨gH, hgH⟩ : ∃ g, W3.heap.size = g := ⟨_, rfl⟩
  rw [hgH] at hW4 q2 ⊢
  have HGG : Hid (W1.heap.size ≤ gR ∧ gR < gH) := Lib.hid ⟨q1, q2⟩
  have HST := Lib.hid (tf_start HH0.out hW4)
  clear hW4 hgH HF4 q1 q2
  go_wp2_with fail
  go_loopw [14] (fun i wr => ∃ (k : Nat) (s : Sh) (root : Pt) (h mids : List Pt) (cs : List Value), k ≤ N ∧ i = .int .i64 (k : Int) ∧ TfS W1 D gR gH s k root h mids cs wr) (fun i _ => N - (intOf i).toNat)
  case atStart => exact ⟨0, sh0, zeroP, h0, holes, _, by omega, rfl, HST.out⟩
  case round =>
    clear HST HH0
    obtain ⟨k, s, root, h, mids, cs, hk, rfl, hst⟩ := hrel
    have HST := Lib.hid hst
    clear hst
    have wk1 := IntWalk.i64_in ((k : Int) + 1) (by have := HLB.out.2.1; omega)
    have HRK : Hid root.OK := Lib.hid HST.out.ok
    have HFI : Hid (∀ p ∈ h, p.OK ∧ fineP p = true) := Lib.hid HST.out.fine
    have HMB : Hid (MapB [(gH, cs, 37)] (.slice (some ⟨gH, 0, none⟩) 64 64) h) := Lib.hid ⟨HST.out.it.1, _, HST.out.row, fun y hy => hy⟩
    by_cases hlt : k < N
    · obtain ⟨a, ha⟩ : ∃ a, l[k]? = some a := ⟨_, List.getElem?_eq_getElem (by have := HN.out; omega)⟩
      obtain ⟨ga, oa, rfl, hga, hacts⟩ := HA1.out.2 (by have := HN.out; omega)
      have HAO : Hid (AcOKT W1 a) := Lib.hid (HA1.out.1 a (List.mem_of_getElem? ha))
      have HAL : Hid (a.b.length ≤ 64) := Lib.hid (HLB.out.2.2 a (List.mem_of_getElem? ha))
      have HKC : Hid (k < N ∧ N ≤ cap) := Lib.hid ⟨hlt, by have := HC.out; rw [HN.out] at this; exact this⟩
      have HRA : Hid (∀ X, Below W1.heap.size W1 X → X.rangeAt ga (oa + k * 3) (tacells a)) := Lib.hid fun X hX => rng_below (hacts k a ha) hX hga
      have HF2 := Lib.hid HST.out.fr
      have HM2 : Hid (SrcM wr (.slice (some ⟨gH, 0, none⟩) 64 64) h) := Lib.hid (HMB.out.src HF2.out (fun y hy => by simp at hy; subst hy; simp) (fun p hp => (HFI.out p hp).1))
      clear ha hga hacts
      go_wp2_with (first | (refine wpL_val rfl (ex_iaAc rfl rfl rfl HKC.out) ?_) | (refine wpL_val rfl (ex_ldAc (HRA.out _ HF2.out.bel) rfl rfl) ?_) | fail)
      refine (leaves_go a.b a.sp a.b.length a.cap ⟨rfl, HAO.out.2⟩ (by have := HAL.out; omega) a.H a.sm k (by have := HLB.out.2.1; omega) h HMB.out.1 (fun p hp => (HFI.out p hp).1) gH 64 (Nat.le_refl _) wr (srcA_grown HAO.out.1 HF2.out.bel) HM2.out).mono ?_
      rintro e X3 ⟨ov, ls, rfl, hb3, ho3, hll⟩
      obtain ⟨lb, hlb1, hlb2⟩ := RowB.of ho3
      have HLL := Lib.hid hll
      have HLB1 := Lib.hid hlb1
      have HF3 := Lib.hid (fr_add HF2.out hb3 (fun y hy => ⟨(hlb2 y hy).1, (ho3.lt _ (hlb2 y hy).2).1⟩))
      have HXA : Hid (W1.heap.size ≤ gH ∧ (∀ z ∈ lb, z.1 ≠ gH) ∧ (∀ z ∈ lb, z.1 ≠ gR) ∧ ∀ z ∈ lb, W1.heap.size ≤ z.1) := Lib.hid (by
        have h1 : gH < wr.heap.size := (HF2.out.at (g := gH) (cs := cs) (t := 37) (by simp)).lt
        have h2 := HGG.out
        have h3 := HF2.out.bel.size
        have h4 : ∀ z ∈ lb, wr.heap.size ≤ z.1 := fun z hz => (ho3.lt _ (hlb2 z hz).2).1
        exact ⟨by omega, fun z hz => by have := h4 z hz; omega, fun z hz => by have := h4 z hz; omega, fun z hz => by have := h4 z hz; omega⟩)
      obtain ⟨spl, capl, rfl⟩ := hlb1.form
      have HASC : Hid (Asc ls) := Lib.hid (lv_asc HLL.out (by have := HLB.out.2.1; omega) HFI.out)
      obtain ⟨M, hM⟩ : ∃ M, ls.length = M := ⟨_, rfl⟩
      have HM := Lib.hid hM
      have HM64 : Hid (M ≤ 64) := Lib.hid (by rw [← hM]; exact HLL.out.len)
      have HLO : Hid (∀ x ∈ ls, Lf.OK x) := Lib.hid fun x hx => ⟨by have := HASC.out.lt x hx; omega, (HASC.out.ok x hx).1⟩
      have st := set_tree (s := s) HST.out.it HASC.out (by have := HST.out.bl; have := HLB.out.2.1; omega)
      obtain ⟨e0, e1, mids', t1, -⟩ := st.full HST.out.bad HST.out.room
      have hset := fr_setB HF3.out root HRK.out ls HLO.out HLL.out.len HLB1.out (fun y hy => by simp [hy]) HST.out.lim (by have := HLB.out.2.1; omega)
      have hbd := st.bd.trans HST.out.bad
      have hln := st.len
      obtain ⟨s2, hs2⟩ : ∃ x, (setR s root 9 ls).s = x := ⟨_, rfl⟩
      obtain ⟨p2, hp2⟩ : ∃ x, (setR s root 9 ls).p = x := ⟨_, rfl⟩
      rw [hs2, hp2, e0] at hset
      rw [hs2] at e1 t1 hbd hln
      rw [hp2] at t1
      rw [hM] at HLB1 hset ⊢
      have HSET := Lib.hid hset; have HRM2 := Lib.hid e1; have HBD2 := Lib.hid hbd; have HIT2 := Lib.hid t1; have HLN2 := Lib.hid hln
      have HBR := Lib.hid (HF3.out.at (g := gR) (cs := pcells root) (t := 37) (by simp))
      have HHN : Hid (∀ p ∈ updH h ls, p.OK ∧ fineP p = true) := Lib.hid (lv_fine HLL.out (by have := HLB.out.2.1; omega) HFI.out)
      have HIN : Hid (LInv (updH h ls)) := Lib.hid (lv_inv HLL.out HST.out.inv)
      have HX0 : Hid (RowB 37 41 [(gH, cs, 37)] (.slice (some ⟨gH, 0, none⟩) 64 64) 64 (prows (updH h (ls.take 0)))) := Lib.hid HST.out.row
      clear hb3 ho3 hll hlb1 hlb2 hM st e0 e1 t1 hset hbd hln hs2 hp2
      go_upto_region 10 with fail
      go_wp2_with (first | (refine wpL_val rfl (ex_ldP HRK.out HBR.out rfl rfl) ?_) | fail)
      refine HSET.out.mono ?_
      rintro e X7 ⟨rfl, hf7, hl7, hp7⟩
      have HF7 := Lib.hid hf7; have HL7 := Lib.hid hl7; have HP2 := Lib.hid hp7
      have HSQ := Lib.hid (size_pc HP2.out)
      have HLQ : Hid ((pcells p2).toArray.size = 41) := Lib.hid (by rw [List.size_toArray, pcells_length HP2.out])
      clear hf7 hl7 hp7 HSET HF3 HF2 HBR HM2
      go_upto_region 11 with (first | (refine wpList_store_row rfl 37 (.tmp 16) (.tmp 67) rfl X7.heap.size (pcells p2).toArray rfl rfl 37 _ (heap_alloc_new X7 _) HSQ.out (by rw [HLQ.out]; rfl) (one_pc p2) ?_) | fail)
      refine (fun (k' : ∀ W, Fr W1 D s2 ((X7.heap.size, pcells p2, 37) :: (lb ++ [(gR, pcells root, 37), (gH, cs, 37)])) W → Code.wp _ _ _ _ W) => k' _ (HF7.out.add (blk_row1 X7 _ (pcells p2) 37).2 (Nat.le_refl _) (blk_row1 X7 _ (pcells p2) 37).1)) ?_
      intro X8 hX8
      obtain ⟨g16, hg16⟩ : ∃ g, X7.heap.size = g := ⟨_, rfl⟩
      have HNB6 : Hid (gR < g16 ∧ gH < g16 ∧ ∀ z ∈ lb, z.1 < g16) := Lib.hid (by rw [← hg16]; exact ⟨(HF7.out.bx (gR, pcells root, 37) (by simp)).lt, (HF7.out.bx (gH, cs, 37) (by simp)).lt, fun z hz => (HF7.out.bx z (by simp [hz])).lt⟩)
      rw [hg16] at hX8 ⊢
      have HF8 : Hid (Fr W1 D s2 ((gH, cs, 37) :: (g16, pcells p2, 37) :: (lb ++ [(gR, pcells root, 37)])) X8) := Lib.hid (hX8.sub (fun y hy => by
        simp only [List.mem_cons, List.mem_append, List.mem_nil_iff, or_false] at hy ⊢
        rcases hy with h | h | h | h
        · exact .inr (.inr (.inr h))
        · exact .inl h
        · exact .inr (.inl h)
        · exact .inr (.inr (.inl h))))
      have HAPT : Hid (∀ z ∈ (g16, pcells p2, 37) :: (lb ++ [(gR, pcells root, 37)]), z.1 ≠ gH) := Lib.hid fun z hz => by
        have h1 := HNB6.out
        have h2 := HGG.out
        simp only [List.mem_cons, List.mem_append, List.mem_nil_iff, or_false] at hz
        rcases hz with h | h | h
        · subst h; simp only; omega
        · exact HXA.out.2.1 z h
        · subst h; simp only; omega
      clear hX8 hg16 HF7
      go_wp2_with fail
      go_loopw [18] (fun j wr => ∃ (k2 : Nat) (cs : List Value), k2 ≤ M ∧ j = .int .i64 (k2 : Int) ∧ RowB 37 41 [(gH, cs, 37)] (.slice (some ⟨gH, 0, none⟩) 64 64) 64 (prows (updH h (ls.take k2))) ∧ Fr W1 D s2 ((gH, cs, 37) :: (g16, pcells p2, 37) :: (lb ++ [(gR, pcells root, 37)])) wr) (fun j _ => M - (intOf j).toNat)
      case atStart => exact ⟨0, cs, by omega, rfl, HX0.out, HF8.out⟩
      case round =>
        have HL0 : Hid (h.length = 64) := Lib.hid HMB.out.1
        clear HX0 HF8 HMB
        obtain ⟨k2, cs, hk2, rfl, hrow, hfr⟩ := hrel
        have HRW := Lib.hid hrow; have HF5 := Lib.hid hfr
        clear hrow hfr
        have wk2 := IntWalk.i64_in ((k2 : Int) + 1) (by have := HM64.out; omega)
        by_cases hlm : k2 < M
        · obtain ⟨⟨xo, xp⟩, hx⟩ : ∃ x, ls[k2]? = some x := ⟨_, List.getElem?_eq_getElem (by have := HM.out; omega)⟩
          have hxm := List.mem_of_getElem? hx
          have HXP : Hid xp.OK := Lib.hid (HLO.out _ hxm).2
          have HXO : Hid (xo < 64 ∧ 64 ≤ 64) := Lib.hid ⟨HASC.out.lt _ hxm, Nat.le_refl _⟩
          have HLB2 := HLB1.out
          rw [← HM.out] at HLB2
          have hown := HF5.out.row HLB2 (fun y hy => by simp [hy])
          obtain ⟨gL, cL, e1, hcl, hrng⟩ := OwnL.at hown HLO.out (by have := HM.out; omega)
          injection e1 with e2 _ e3
          subst e2 e3
          have HKM : Hid (k2 < M ∧ M ≤ capl) := Lib.hid ⟨hlm, by have := HM.out; omega⟩
          have hs0 : wr.drew.rangeAt gL (k2 * 42) (lcells (xo, xp)) := hrng k2 _ hx
          obtain ⟨hcs, hrow2⟩ := HRW.out.put (by rw [updH_len]; exact HL0.out) (updH_ok (fun p hp => (HFI.out p hp).1) (HASC.out.take k2)) HXO.out.1 HXP.out
          have HRW2 := Lib.hid hrow2
          rw [← updH_take hx] at HRW2
          have hfd := HF5.out.drew
          have HF6 := Lib.hid (fr_cells hfd HXA.out.1 HAPT.out hcs)
          have hbx := hfd.at (g := gH) (cs := cs) (t := 37) (by simp)
          have hthere : wr.drew.there gH (xo * 41) (pcells xp).toArray.size := hbx.there _ _ (by rw [List.size_toArray]; exact hcs)
          have hs1 : (wr.drew.setCells gH (xo * 41) (pcells xp).toArray.toList).rangeAt gL (k2 * 42) (lcells (xo, xp)) := by
            have h6 := HF6.out.row HLB2 (fun y hy => by simp [hy])
            obtain ⟨g', c', e', _, h'⟩ := OwnL.at h6 HLO.out (by have := HM.out; omega)
            injection e' with e4 _ _
            injection e4 with e5
            injection e5 with e6
            rw [e6]
            exact h' k2 _ hx
          clear hx hxm hown hrng hcl hcs hrow2 hfd hbx HLB2
          go_upto_region 16 with fail
          refine wp_region_sched (.take 0 (.take 1 (.take 2 (.take 3 (.take 4 (.take 5 (.take 6 (.take 7 (.take 8 (.take 9 (.take 10 (.take 11 (.step 12 (.nil)))))))))))))) (by kernel_rfl) (by kernel_rfl) (fun d _ _ _ _ h => by cases d <;> exact h) (fun X => X.rangeAt gL (k2 * 42) (lcells (xo, xp))) (hs0) ?_
          refine wpG_take _ (.slice (some ⟨gH, 0, none⟩) 64 64) rfl (by rfl) (fun X hX => by first | rfl | go_simp) ?_
          (try simp only [Act.put, List.setIfInBounds_toArray, List.set_cons_zero, List.set_cons_succ])
          refine wpG_take _ (.slice (some ⟨gL, 0, none⟩) M capl) rfl (by rfl) (fun X hX => by first | rfl | go_simp) ?_
          (try simp only [Act.put, List.setIfInBounds_toArray, List.set_cons_zero, List.set_cons_succ])
          refine wpG_take _ (.int .i64 (k2 : Int)) rfl (by rfl) (fun X hX => by first | rfl | go_simp) ?_
          (try simp only [Act.put, List.setIfInBounds_toArray, List.set_cons_zero, List.set_cons_succ])
          refine wpG_take _ (.pointer (some ⟨gL, k2 * 42, none⟩)) rfl (by rfl) (fun X hX => ex_iaL2 rfl rfl rfl HKM.out) ?_
          (try simp only [Act.put, List.setIfInBounds_toArray, List.set_cons_zero, List.set_cons_succ])
          refine wpG_take _ (.pointer (some ⟨gL, k2 * 42, none⟩)) rfl (by rfl) (fun X hX => by first | rfl | go_simp) ?_
          (try simp only [Act.put, List.setIfInBounds_toArray, List.set_cons_zero, List.set_cons_succ])
          refine wpG_take _ (.int .u32 (xo : Int)) rfl (by rfl) (fun X hX => ex_ld1 Tryd.underlying32 rfl rfl (rng_cell hX)) ?_
          (try simp only [Act.put, List.setIfInBounds_toArray, List.set_cons_zero, List.set_cons_succ])
          refine wpG_take _ (.slice (some ⟨gL, 0, none⟩) M capl) rfl (by rfl) (fun X hX => by first | rfl | go_simp) ?_
          (try simp only [Act.put, List.setIfInBounds_toArray, List.set_cons_zero, List.set_cons_succ])
          refine wpG_take _ (.int .i64 (k2 : Int)) rfl (by rfl) (fun X hX => by first | rfl | go_simp) ?_
          (try simp only [Act.put, List.setIfInBounds_toArray, List.set_cons_zero, List.set_cons_succ])
          refine wpG_take _ (.pointer (some ⟨gL, k2 * 42, none⟩)) rfl (by rfl) (fun X hX => ex_iaL2 rfl rfl rfl HKM.out) ?_
          (try simp only [Act.put, List.setIfInBounds_toArray, List.set_cons_zero, List.set_cons_succ])
          refine wpG_take _ (.pointer (some ⟨gL, k2 * 42 + 1, none⟩)) rfl (by rfl) (fun X hX => by first | rfl | go_simp) ?_
          (try simp only [Act.put, List.setIfInBounds_toArray, List.set_cons_zero, List.set_cons_succ])
          refine wpG_take _ (.agg (pcells xp).toArray) rfl (by rfl) (fun X hX => ex_ldR HXP.out (rng_ptr hX) rfl rfl) ?_
          (try simp only [Act.put, List.setIfInBounds_toArray, List.set_cons_zero, List.set_cons_succ])
          refine wpG_take _ (.pointer (some ⟨gH, xo * 41, none⟩)) rfl (by rfl) (fun X hX => ex_iaPu rfl rfl rfl HXO.out) ?_
          (try simp only [Act.put, List.setIfInBounds_toArray, List.set_cons_zero, List.set_cons_succ])
          refine wpG_mid _ rfl (by rfl) 37 (.tmp 88) (.tmp 87) rfl gH (xo * 41) (pcells xp).toArray rfl rfl hthere (size_pc HXP.out) (one_pc xp) (fun X => X.rangeAt gL (k2 * 42) (lcells (xo, xp))) (fun _ h => h) hs1 ?_
          (try simp only [Act.put, List.setIfInBounds_toArray, List.set_cons_zero, List.set_cons_succ])
          refine wpG_nil ?_
          clear hs0 hs1 hthere HF5 HRW
          go_wp2_with fail
          go_roundw
          case rel => exact ⟨k2 + 1, _, by omega, by go_num, HRW2.out, HF6.out⟩
          case measure => simp [intOf]; omega
        · obtain rfl : M = k2 := by omega
          clear hlm hk2 wk2
          have HX5 : Hid (RowB 37 41 [(gH, cs, 37)] (.slice (some ⟨gH, 0, none⟩) 64 64) 64 (prows (updH h ls))) := Lib.hid (by have := HRW.out; rw [List.take_of_length_le (by rw [HM.out]; exact Nat.le_refl _)] at this; exact this)
          have HB16 := Lib.hid (HF5.out.at (g := g16) (cs := pcells p2) (t := 37) (by simp))
          have HBR := Lib.hid (HF5.out.at (g := gR) (cs := pcells root) (t := 37) (by simp))
          have HLR : Hid ((pcells root).toArray.size = 41) := Lib.hid (by rw [List.size_toArray, pcells_length HRK.out])
          have hf1 : Fr W1 D s2 [(gR, pcells root, 37), (gH, cs, 37)] wr := HF5.out.sub (fun y hy => by simp at hy; rcases hy with h | h <;> simp [h])
          have HF9 := Lib.hid (fr_row (cs' := pcells p2) hf1 HGG.out.1 (fun z hz => by simp at hz; subst hz; have := HGG.out; simp only; omega))
          have HFIN : Hid (∀ X, Fr W1 D s2 [(gR, pcells p2, 37), (gH, cs, 37)] X → TfS W1 D gR gH s2 (k + 1) p2 (updH h ls) mids' cs X) := Lib.hid fun X hX =>
            ⟨hX, HX5.out, HIT2.out, HP2.out, HBD2.out, HRM2.out, by have h1 := HLN2.out; have h2 := HST.out.bl; omega, by rw [show 715 * (k + 1) = 715 * k + 715 by omega]; exact HL7.out, HHN.out, HIN.out⟩
          clear hf1 HRW HF5
          go_wp2_with (first | (refine wpL_val rfl (ex_ldP HP2.out HB16.out rfl rfl) ?_) | (refine wpList_store_row rfl 37 (.tmp 12) (.tmp 89) rfl gR (pcells p2).toArray rfl rfl 37 _ HBR.out HSQ.out (by rw [HLQ.out, HLR.out]) (one_pc p2) ?_) | fail)
          go_roundw
          case rel => exact ⟨k + 1, s2, p2, updH h ls, mids', cs, by omega, by go_num, HFIN.out _ HF9.out⟩
          case measure => simp [intOf]; omega
    · obtain rfl : N = k := by omega
      clear hlt hk wk1
      have HF := Lib.hid HST.out.fr
      have HIT := Lib.hid HST.out.it
      have HBL9 : Hid (s.blocks.length ≤ 9 * N) := Lib.hid HST.out.bl
      have hN60 := HLB.out.2.1
      obtain ⟨⟨rs0, hrs0⟩, ae, al, an⟩ := all_tree HST.out.it HST.out.bad
      have hall := fr_all HF.out root HRK.out HST.out.lim (by omega)
      rw [ae, an] at hall
      obtain ⟨s1, hs1⟩ : ∃ x, allS s root = x := ⟨_, rfl⟩
      rw [hs1] at hall hrs0
      have HALL := Lib.hid hall
      have HS1 : Hid (s1.blocks = s.blocks ∧ s1.room = -1) := Lib.hid ⟨hrs0.bl.1, by unfold More at hrs0; rw [hrs0]; exact HST.out.room⟩
      have HBR := Lib.hid (HF.out.at (g := gR) (cs := pcells root) (t := 37) (by simp))
      clear ae al an hall hs1 hrs0 hN60
      go_upto_region 18 with fail
      go_wp2_with (first | (refine wpL_val rfl (ex_ldP HRK.out HBR.out rfl rfl) ?_) | fail)
      refine HALL.out.mono ?_
      rintro e X1 ⟨lv, nv, lb, nb, rfl, hf1, hl1, r1, r2, ok1, ok2, hfr⟩
      obtain ⟨spl, capl, rfl⟩ := r1.form
      obtain ⟨spn, capn, rfl⟩ := r2.form
      have HBX : Hid (∀ y ∈ lb ++ (nb ++ [(gR, pcells root, 37), (gH, cs, 37)]), W1.heap.size ≤ y.1) := Lib.hid fun y hy => by
        have h1 := HF.out.bel.size
        have h2 := HGG.out
        simp only [List.mem_append, List.mem_cons, List.mem_nil_iff, or_false] at hy
        rcases hy with h | h | h | h
        · have := hfr y (by simp [h]); omega
        · have := hfr y (by simp [h]); omega
        · subst h; exact h2.1
        · subst h; simp only; omega
      obtain ⟨BS, hBS⟩ : ∃ b, lb ++ (nb ++ [(gR, pcells root, 37), (gH, cs, 37)]) = b := ⟨_, rfl⟩
      rw [hBS] at hf1 HBX
      have HBS : Hid ((∀ y ∈ nb, y ∈ BS) ∧ (gR, pcells root, 37) ∈ BS ∧ (gH, cs, 37) ∈ BS) := Lib.hid (by rw [← hBS]; exact ⟨fun y hy => by simp [hy], by simp, by simp⟩)
      have HF1 := Lib.hid hf1; have HL1 := Lib.hid hl1; have HRN := Lib.hid r2; have HOKN := Lib.hid ok2
      obtain ⟨⟨u1, c1⟩, f1⟩ := hf1.stay (j := 1) (by omega)
      have hfb := fr_bad hf1 bl spb capb HCB.out HZB.out HBU1.out (fun a ha => by have := HLTB.out a ha; have := HB1.out.size; omega) HBX.out
      rw [HNB.out] at hfb
      have HFB := Lib.hid hfb
      clear hf1 hl1 r1 r2 ok1 ok2 hfr hBS hfb HALL HF HBR
      go_upto_region 22 with fail
      refine (fun (k' : ∀ W, Fr W1 D { s1 with bad := bl } BS W → Code.wp _ _ _ _ W) => k' _ HFB.out) ?_
      intro X2 hX2
      have hfr0 := fr_rd0 hX2
      obtain ⟨⟨u5, c5⟩, f5⟩ := hX2.stay (j := 5) (by omega)
      obtain ⟨s2, hs2⟩ : ∃ x : Sh, { s1 with bad := bl, read0 := [] } = x := ⟨_, rfl⟩
      have hS2 : s2.blocks = s.blocks ∧ s2.bad = bl ∧ s2.read0 = [] ∧ s2.room = -1 ∧ Lim (715 * N + 73) s2 := by
        rw [← hs2]
        have hl := HL1.out
        exact ⟨HS1.out.1, rfl, rfl, HS1.out.2, ⟨Nat.zero_le _, hl.md, hl.gn, hl.n, hl.bl, by have := HNB20.out; have := HNB.out; show bl.length ≤ 1000; omega, hl.rm⟩⟩
      have hfr0' : Fr W1 D s2 BS (X2.setCell ⟨D, 5, none⟩ (.slice none 0 0)) := by rw [← hs2]; exact hfr0
      have HFR0 := Lib.hid hfr0'; have HS2 := Lib.hid hS2
      clear hX2 hfr0 hs2 hS2 hfr0' HFB HF1 c1 f1 HS1 HL1
      go_upto_region 23 with fail
      refine (fun (k' : ∀ W, Fr W1 D s2 BS W → Code.wp _ _ _ _ W) => k' _ HFR0.out) ?_
      intro X3 hX3
      have HF3 := Lib.hid hX3
      have HBR := Lib.hid (hX3.at HBS.out.2.1)
      have hget := hX3.get root HRK.out off HOF.out HS2.out.2.2.2.2 (by have := HLB.out.2.1; omega)
      obtain ⟨s3, hs3⟩ : ∃ x, getS s2 root off = x := ⟨_, rfl⟩
      obtain ⟨e3, he3⟩ : ∃ x, getE s2 root off = x := ⟨_, rfl⟩
      obtain ⟨p3, hp3⟩ : ∃ x, getP s2 root off = x := ⟨_, rfl⟩
      have HP3 : Hid p3.OK := Lib.hid (by rw [← hp3]; exact getP_ok s2 off HRK.out)
      rw [hs3, he3, hp3] at hget
      have HGET := Lib.hid hget
      have HE3 := Lib.hid he3; have HQ3 := Lib.hid hp3; have HS3 := Lib.hid hs3
      have HSQ := Lib.hid (size_pc HP3.out)
      have HLQ : Hid ((pcells p3).toArray.size = 41) := Lib.hid (by rw [List.size_toArray, pcells_length HP3.out])
      clear hX3 hget hs3 he3 hp3 c5 f5
      go_wp2_with (first | (refine wpL_val rfl (ex_ldP HRK.out HBR.out rfl rfl) ?_) | fail)
      refine HGET.out.mono ?_
      rintro e X4 ⟨rfl, hf4, hl4⟩
      have HF4 := Lib.hid hf4; have HL4 := Lib.hid hl4
      clear hf4 hl4 HGET HFR0
      go_upto_region 24 with (first | (refine wpList_store_row rfl 37 (.tmp 22) (.tmp 113) rfl X4.heap.size (pcells p3).toArray rfl rfl 37 _ (heap_alloc_new X4 _) HSQ.out (by rw [HLQ.out]; rfl) (one_pc p3) ?_) | fail)
      refine (fun (k' : ∀ W, Fr W1 D s3 ((X4.heap.size, pcells p3, 37) :: BS) W → Code.wp _ _ _ _ W) => k' _ (HF4.out.add (blk_row1 X4 _ (pcells p3) 37).2 (Nat.le_refl _) (blk_row1 X4 _ (pcells p3) 37).1)) ?_
      intro X5 hX5
      obtain ⟨g22, hg22⟩ : ∃ g, X4.heap.size = g := ⟨_, rfl⟩
      have HG22 : Hid (W1.heap.size ≤ g22) := Lib.hid (by rw [← hg22]; exact HF4.out.bel.size)
      rw [hg22] at hX5 ⊢
      have HF5 := Lib.hid hX5
      have HB22 := Lib.hid (hX5.at (g := g22) (cs := pcells p3) (t := 37) (by simp))
      clear hX5 hg22 HF4 HF3 HBR
      by_cases h64 : 64 ≤ off
      · have j1 : (64 : Int) ≤ (off : Int) := by omega
        have he1 : e3 = 1 := by rw [← HE3.out]; exact (getE_one s2 root off).2 (.inr h64)
        have hp1 : p3 = zeroP := by rw [← HQ3.out]; unfold getP; rw [if_pos (.inr (.inl h64))]
        have HEQ : Hid (eqP p3 zeroP = true) := Lib.hid (by rw [hp1]; exact eqP_same _)
        have HT5 := Lib.hid HF5.out.tab
        have hx0 : (fun X => Blk X g22 (pcells p3) 37 ∧ Below w.heap.size w X) X5 := ⟨HB22.out, HB1.out.trans (HF5.out.bel.mono HB1.out.size)⟩
        subst he1
        clear hp1 h64
        go_upto_region 25 with fail
        refine wp_region_list ?_
        refine tl_val (S := fun X => Blk X g22 (pcells p3) 37 ∧ Below w.heap.size w X) (.int .i64 1) (by rfl) hx0 (fun X hX => by first | rfl | go_simp) ?_
        (try simp only [Act.put, List.setIfInBounds_toArray, List.set_cons_zero, List.set_cons_succ])
        refine tl_val (S := fun X => Blk X g22 (pcells p3) 37 ∧ Below w.heap.size w X) (.bool true) (by rfl) hx0 (fun X hX => by first | rfl | go_simp) ?_
        (try simp only [Act.put, List.setIfInBounds_toArray, List.set_cons_zero, List.set_cons_succ])
        refine tl_val (S := fun X => Blk X g22 (pcells p3) 37 ∧ Below w.heap.size w X) (.bool true) (by rfl) hx0 (fun X hX => by first | rfl | go_simp) ?_
        (try simp only [Act.put, List.setIfInBounds_toArray, List.set_cons_zero, List.set_cons_succ])
        refine tl_val (S := fun X => Blk X g22 (pcells p3) 37 ∧ Below w.heap.size w X) (.agg (pcells p3).toArray) (by rfl) hx0 (fun X hX => ex_ldP HP3.out hX.1 rfl rfl) ?_
        (try simp only [Act.put, List.setIfInBounds_toArray, List.set_cons_zero, List.set_cons_succ])
        refine tl_val (S := fun X => Blk X g22 (pcells p3) 37 ∧ Below w.heap.size w X) (.agg (pcells zeroP).toArray) (by rfl) hx0 (fun X hX => ex_bld0 rfl) ?_
        (try simp only [Act.put, List.setIfInBounds_toArray, List.set_cons_zero, List.set_cons_succ])
        refine tl_val (S := fun X => Blk X g22 (pcells p3) 37 ∧ Below w.heap.size w X) (.bool true) (by rfl) hx0 (fun X hX => (ex_eqP rfl rfl rfl HP3.out zeroP_ok).trans (by rw [HEQ.out])) ?_
        (try simp only [Act.put, List.setIfInBounds_toArray, List.set_cons_zero, List.set_cons_succ])
        refine tl_val (S := fun X => Blk X g22 (pcells p3) 37 ∧ Below w.heap.size w X) (.bool true) (by rfl) hx0 (fun X hX => by first | rfl | go_simp) ?_
        (try simp only [Act.put, List.setIfInBounds_toArray, List.set_cons_zero, List.set_cons_succ])
        refine tl_val (S := fun X => Blk X g22 (pcells p3) 37 ∧ Below w.heap.size w X) (.bool true) (by rfl) hx0 (fun X hX => by first | rfl | go_simp) ?_
        (try simp only [Act.put, List.setIfInBounds_toArray, List.set_cons_zero, List.set_cons_succ])
        refine tl_call (by rfl) 6 #[] (by go_simp) (fun u X => u = .bool true ∧ Blk X g22 (pcells p3) 37 ∧ Below w.heap.size w X) ((twakes_any _ HT5.out).mono fun e Y ⟨e1, hb⟩ => ⟨_, e1, rfl, hx0.1.below hb hx0.1.lt, hx0.2.trans (hb.mono hx0.2.size)⟩) ?_
        rintro u X6 ⟨rfl, hx6⟩
        (try simp only [Act.put, List.setIfInBounds_toArray, List.set_cons_zero, List.set_cons_succ])
        refine tl_val (S := fun X => Blk X g22 (pcells p3) 37 ∧ Below w.heap.size w X) (.bool true) (by rfl) hx6 (fun X hX => by first | rfl | go_simp) ?_
        (try simp only [Act.put, List.setIfInBounds_toArray, List.set_cons_zero, List.set_cons_succ])
        refine tl_val (S := fun X => Blk X g22 (pcells p3) 37 ∧ Below w.heap.size w X) (.bool true) (by rfl) hx6 (fun X hX => by first | rfl | go_simp) ?_
        (try simp only [Act.put, List.setIfInBounds_toArray, List.set_cons_zero, List.set_cons_succ])
        refine wpList_nil ?_
        have hxe := hx6
        have HE := Lib.hid (HP.out _ hxe.2)
        go_wp2_with fail
        first | exact HE.out | (go_ret; exact HE.out)
      have j1 : ¬ (64 : Int) ≤ (off : Int) := by omega
      obtain ⟨rs, hmo, hnod, hres⟩ := get_tree (s := s2) (root := root) (h := h) (mids := mids) (by rw [HS2.out.1]; exact HIT.out) (by omega : off < 64)
      rw [HS3.out] at hmo
      rw [HE3.out, HQ3.out] at hres
      have hs3f : s3.blocks = s.blocks ∧ s3.bad = bl ∧ s3.read0 = rs ∧ s3.room = -1 := by
        unfold More at hmo
        rw [hmo]
        exact ⟨HS2.out.1, HS2.out.2.1, by show s2.read0 ++ rs = rs; rw [HS2.out.2.2.1]; rfl, HS2.out.2.2.2.1⟩
      have hany : rs.any (hitP s2) = rs.any (hitL bl) := by
        congr 1
        funext q
        unfold hitP hitL
        rw [HS2.out.2.1]
      rw [hany] at hres
      obtain ⟨R, hR⟩ : ∃ n, rs.length = n := ⟨_, rfl⟩
      have HR := Lib.hid hR
      have HRM6 : Hid (R < 1000000) := Lib.hid (by have h1 := HL4.out.rd; have h2 := HL4.out.n; rw [hs3f.2.2.1] at h1; omega)
      have HS3F := Lib.hid hs3f; have HNOD := Lib.hid hnod; have HRES := Lib.hid hres
      have HROK : Hid (∀ q ∈ rs, q.OK) := Lib.hid fun q hq => HOKN.out q (hnod q hq)
      have HO64 : Hid (off < 64) := Lib.hid (by omega)
      obtain ⟨BS5, hBS5⟩ : ∃ b, (g22, pcells p3, 37) :: BS = b := ⟨_, rfl⟩
      rw [hBS5] at HF5
      have HBS5 : Hid ((∀ y ∈ nb, y ∈ BS5) ∧ (gR, pcells root, 37) ∈ BS5 ∧ (gH, cs, 37) ∈ BS5 ∧ (g22, pcells p3, 37) ∈ BS5 ∧ ∀ y ∈ BS5, W1.heap.size ≤ y.1) := Lib.hid (by
        rw [← hBS5]
        have h := HBS.out
        refine ⟨fun y hy => by simp [h.1 y hy], by simp [h.2.1], by simp [h.2.2], by simp, fun y hy => ?_⟩
        rcases List.mem_cons.1 hy with h1 | h1
        · rw [h1]; exact HG22.out
        · exact HBX.out y h1)
      clear hmo hnod hres hs3f hany hR h64 hBS5 HST
      go_wp2_with fail
      go_loopw [24, 25] (fun fv i wr => ∃ (j : Nat), j ≤ R ∧ i = .int .i64 (j : Int) ∧ fv = .bool ((rs.take j).any (hitL bl)) ∧ Fr W1 D s3 BS5 wr) (fun _ i _ => R - (intOf i).toNat)
      case atStart => exact ⟨0, by omega, rfl, rfl, HF5.out⟩
      case round =>
        clear HF5
        obtain ⟨j, hj, rfl, rfl, hf⟩ := hrel
        have HF := Lib.hid hf
        have wk2 := IntWalk.i64_in ((j : Int) + 1) (by have := HRM6.out; omega)
        obtain ⟨vS, hbS, hsrc⟩ := hf.look
        rw [HS3F.out.2.2.1] at hsrc
        obtain ⟨spr, capr, erd, -⟩ := hsrc
        have c5 : wr.cell? ⟨D, 5, none⟩ = some (.slice spr R capr) := by rw [← HR.out, ← erd]; exact hbS.cell (j := 5) rfl
        obtain ⟨fa, hfa⟩ : ∃ b, (rs.take j).any (hitL bl) = b := ⟨_, rfl⟩
        have HFA := Lib.hid hfa
        rw [hfa]
        clear hf hbS erd hfa
        by_cases hlt : j < R
        · obtain ⟨q, hq⟩ : ∃ q, rs[j]? = some q := ⟨_, List.getElem?_eq_getElem (by have := HR.out; omega)⟩
          have HQ : Hid (rs[j]? = some q) := Lib.hid hq
          have HQO : Hid q.OK := Lib.hid (HROK.out q (List.mem_of_getElem? hq))
          have HQN : Hid (q ∈ nodesOf root mids) := Lib.hid (HNOD.out q (List.mem_of_getElem? hq))
          clear hq
          go_wp2_with fail
          go_loopw [24, 26] (fun fv i wr => ∃ (k : Nat), k ≤ NB ∧ i = .int .i64 (k : Int) ∧ fv = .bool (fa || (bl.take k).any (fun x => x == at0 q)) ∧ Fr W1 D s3 BS5 wr) (fun _ i _ => NB - (intOf i).toNat)
          case atStart => exact ⟨0, by omega, rfl, by simp, HF.out⟩
          case round =>
            clear HF c5
            obtain ⟨k, hk, rfl, rfl, hf⟩ := hrel
            have HF := Lib.hid hf
            have wk3 := IntWalk.i64_in ((k : Int) + 1) (by have := HNB20.out; omega)
            obtain ⟨fk, hfk⟩ : ∃ b, (fa || (bl.take k).any (fun x => x == at0 q)) = b := ⟨_, rfl⟩
            have HFK := Lib.hid hfk
            rw [hfk]
            clear hf hfk
            by_cases hlk : k < NB
            · obtain ⟨x, hx⟩ : ∃ x, bl[k]? = some x := ⟨_, List.getElem?_eq_getElem (by have := HNB.out; omega)⟩
              obtain ⟨gb, ob, rfl, hgb, hcb⟩ := HBU1.out (by have := HNB.out; omega)
              have hstep := any_take_succ (fun x => x == at0 q) hx
              have HSTEP : Hid ((fa || (bl.take (k + 1)).any (fun x => x == at0 q)) = (fk || (x == at0 q))) := Lib.hid (by rw [hstep, ← Bool.or_assoc, HFK.out])
              have HXB : Hid (∀ X, Fr W1 D s3 BS5 X → X.cell? ⟨gb, ob + k, none⟩ = some (.int .u16 (x : Int))) := Lib.hid fun X hX => by
                rw [World.cell?_of_block (w := W1) (a := ⟨gb, ob + k, none⟩) (hX.bel.block gb hgb)]
                exact hcb k x hx
              have HKB : Hid (k < NB ∧ NB ≤ capb) := Lib.hid ⟨hlk, by have := HCB.out; rw [HNB.out] at this; exact this⟩
              have hfd := HF.out.drew
              obtain ⟨vS, hbS, hsrc⟩ := hfd.look
              rw [HS3F.out.2.2.1] at hsrc
              obtain ⟨g5, cap5, hv5, hc5, sp5, hv5'⟩ := hsrc.form
              have hv5 := hv5 (by have := HR.out; omega)
              rw [hv5] at hsrc
              have HSX : Hid (wr.drew.rangeAt g5 (j * 41) (pcells q)) := Lib.hid (hsrc.at HQ.out)
              have HC5 : Hid (wr.drew.cell? ⟨D, 5, none⟩ = some (.slice (some ⟨g5, 0, none⟩) R cap5)) := Lib.hid (by rw [← HR.out, ← hv5]; exact hbS.cell (j := 5) rfl)
              have HJR : Hid (j < R ∧ R ≤ cap5) := Lib.hid ⟨hlt, by have := HR.out; omega⟩
              have hs0 : (fun X => X = wr.drew ∨ ∃ n, X = wr.drew.drewN n) wr.drew := .inl rfl
              clear hx hgb hcb hstep hbS hsrc hv5 hv5' hc5
              cases fk
              case true =>
                obtain ⟨z, hzt⟩ : ∃ b : Bool, b = true := ⟨_, rfl⟩
                have HZT := Lib.hid hzt
                have HFX := Lib.hid hfd
                have HNX : Hid ((fa || (bl.take (k + 1)).any (fun x => x == at0 q)) = true) := Lib.hid (by rw [HSTEP.out]; rfl)
                clear hzt hfd hs0
                go_upto_region 33 with fail
                refine wp_region_sched (.take 0 (.take 1 (.take 2 (.take 3 (.take 4 (.take 5 (.take 6 (.take 7 (.take 8 (.take 9 (.take 10 (.take 11 (.take 12 (.take 13 (.take 14 (.take 15 (.take 16 (.take 17 (.nil))))))))))))))))))) (by kernel_rfl) (by kernel_rfl) (fun d _ _ _ _ h => by cases d <;> exact h) (fun X => X = wr.drew) (rfl) ?_
                refine wpG_take _ (.bool true) rfl (by rfl) (fun X hX => by first | rfl | go_simp) ?_
                (try simp only [Act.put, List.setIfInBounds_toArray, List.set_cons_zero, List.set_cons_succ])
                refine wpG_take _ (.bool true) rfl (by rfl) (fun X hX => by first | rfl | go_simp) ?_
                (try simp only [Act.put, List.setIfInBounds_toArray, List.set_cons_zero, List.set_cons_succ])
                refine wpG_pass _ rfl (by rfl) ?_
                (try simp only [Act.put, List.setIfInBounds_toArray, List.set_cons_zero, List.set_cons_succ])
                refine wpG_pass _ rfl (by rfl) ?_
                (try simp only [Act.put, List.setIfInBounds_toArray, List.set_cons_zero, List.set_cons_succ])
                refine wpG_pass _ rfl (by rfl) ?_
                (try simp only [Act.put, List.setIfInBounds_toArray, List.set_cons_zero, List.set_cons_succ])
                refine wpG_pass _ rfl (by rfl) ?_
                (try simp only [Act.put, List.setIfInBounds_toArray, List.set_cons_zero, List.set_cons_succ])
                refine wpG_pass _ rfl (by rfl) ?_
                (try simp only [Act.put, List.setIfInBounds_toArray, List.set_cons_zero, List.set_cons_succ])
                refine wpG_pass _ rfl (by rfl) ?_
                (try simp only [Act.put, List.setIfInBounds_toArray, List.set_cons_zero, List.set_cons_succ])
                refine wpG_pass _ rfl (by rfl) ?_
                (try simp only [Act.put, List.setIfInBounds_toArray, List.set_cons_zero, List.set_cons_succ])
                refine wpG_pass _ rfl (by rfl) ?_
                (try simp only [Act.put, List.setIfInBounds_toArray, List.set_cons_zero, List.set_cons_succ])
                refine wpG_pass _ rfl (by rfl) ?_
                (try simp only [Act.put, List.setIfInBounds_toArray, List.set_cons_zero, List.set_cons_succ])
                refine wpG_pass _ rfl (by rfl) ?_
                (try simp only [Act.put, List.setIfInBounds_toArray, List.set_cons_zero, List.set_cons_succ])
                refine wpG_pass _ rfl (by rfl) ?_
                (try simp only [Act.put, List.setIfInBounds_toArray, List.set_cons_zero, List.set_cons_succ])
                refine wpG_pass _ rfl (by rfl) ?_
                (try simp only [Act.put, List.setIfInBounds_toArray, List.set_cons_zero, List.set_cons_succ])
                refine wpG_pass _ rfl (by rfl) ?_
                (try simp only [Act.put, List.setIfInBounds_toArray, List.set_cons_zero, List.set_cons_succ])
                refine wpG_pass _ rfl (by rfl) ?_
                (try simp only [Act.put, List.setIfInBounds_toArray, List.set_cons_zero, List.set_cons_succ])
                refine wpG_take _ (.bool true) rfl (by rfl) (fun X hX => by first | rfl | go_simp) ?_
                (try simp only [Act.put, List.setIfInBounds_toArray, List.set_cons_zero, List.set_cons_succ])
                refine wpG_take _ (.bool true) rfl (by rfl) (fun X hX => by first | rfl | go_simp) ?_
                (try simp only [Act.put, List.setIfInBounds_toArray, List.set_cons_zero, List.set_cons_succ])
                refine wpG_nil ?_
                go_wp2_with fail
                go_roundw
                case rel => exact ⟨k + 1, by omega, by go_num, by rw [HNX.out], HFX.out⟩
                case measure => simp [intOf]; omega
              case false =>
                obtain ⟨y, hy⟩ : ∃ b, (x == at0 q) = b := ⟨_, rfl⟩
                have HY : Hid (decide ((x : Int) = (at0 q : Int)) = y) := Lib.hid (by rw [← hy, Bool.eq_iff_iff]; simp; omega)
                have HFX := Lib.hid hfd
                have HNX : Hid ((fa || (bl.take (k + 1)).any (fun x => x == at0 q)) = y) := Lib.hid (by rw [HSTEP.out, hy]; rfl)
                clear hy hfd hs0
                go_upto_region 33 with fail
                refine wp_region_sched (.take 0 (.take 1 (.take 2 (.take 3 (.take 4 (.take 5 (.take 6 (.take 7 (.take 8 (.take 9 (.take 10 (.take 11 (.take 12 (.take 13 (.take 14 (.take 15 (.take 16 (.take 17 (.nil))))))))))))))))))) (by kernel_rfl) (by kernel_rfl) (fun d _ _ _ _ h => by cases d <;> exact h) (fun X => X = wr.drew) (rfl) ?_
                refine wpG_take _ (.bool false) rfl (by rfl) (fun X hX => by first | rfl | go_simp) ?_
                (try simp only [Act.put, List.setIfInBounds_toArray, List.set_cons_zero, List.set_cons_succ])
                refine wpG_take _ (.bool false) rfl (by rfl) (fun X hX => by first | rfl | go_simp) ?_
                (try simp only [Act.put, List.setIfInBounds_toArray, List.set_cons_zero, List.set_cons_succ])
                refine wpG_take _ (.slice (some ⟨gb, ob, none⟩) NB capb) rfl (by rfl) (fun X hX => by first | rfl | go_simp) ?_
                (try simp only [Act.put, List.setIfInBounds_toArray, List.set_cons_zero, List.set_cons_succ])
                refine wpG_take _ (.int .i64 (k : Int)) rfl (by rfl) (fun X hX => by first | rfl | go_simp) ?_
                (try simp only [Act.put, List.setIfInBounds_toArray, List.set_cons_zero, List.set_cons_succ])
                refine wpG_take _ (.pointer (some ⟨gb, (ob + k), none⟩)) rfl (by rfl) (fun X hX => ex_iaU rfl rfl rfl HKB.out) ?_
                (try simp only [Act.put, List.setIfInBounds_toArray, List.set_cons_zero, List.set_cons_succ])
                refine wpG_take _ (.int .u16 (x : Int)) rfl (by rfl) (fun X hX => ex_ld16 rfl rfl (by rw [hX]; exact HXB.out _ HFX.out)) ?_
                (try simp only [Act.put, List.setIfInBounds_toArray, List.set_cons_zero, List.set_cons_succ])
                refine wpG_take _ (.pointer (some ⟨D, 0, none⟩)) rfl (by rfl) (fun X hX => by first | rfl | go_simp) ?_
                (try simp only [Act.put, List.setIfInBounds_toArray, List.set_cons_zero, List.set_cons_succ])
                refine wpG_take _ (.pointer (some ⟨D, 0, none⟩)) rfl (by rfl) (fun X hX => by first | rfl | go_simp) ?_
                (try simp only [Act.put, List.setIfInBounds_toArray, List.set_cons_zero, List.set_cons_succ])
                refine wpG_take _ (.pointer (some ⟨D, 5, none⟩)) rfl (by rfl) (fun X hX => by first | rfl | go_simp) ?_
                (try simp only [Act.put, List.setIfInBounds_toArray, List.set_cons_zero, List.set_cons_succ])
                refine wpG_take _ (.slice (some ⟨g5, 0, none⟩) R cap5) rfl (by rfl) (fun X hX => ex_ldSl rfl rfl (by rw [hX]; exact HC5.out)) ?_
                (try simp only [Act.put, List.setIfInBounds_toArray, List.set_cons_zero, List.set_cons_succ])
                refine wpG_take _ (.int .i64 (j : Int)) rfl (by rfl) (fun X hX => by first | rfl | go_simp) ?_
                (try simp only [Act.put, List.setIfInBounds_toArray, List.set_cons_zero, List.set_cons_succ])
                refine wpG_take _ (.pointer (some ⟨g5, j * 41, none⟩)) rfl (by rfl) (fun X hX => q_iaP rfl rfl rfl HJR.out) ?_
                (try simp only [Act.put, List.setIfInBounds_toArray, List.set_cons_zero, List.set_cons_succ])
                refine wpG_take _ (.pointer (some ⟨g5, (j * 41 + 37), none⟩)) rfl (by rfl) (fun X hX => by first | rfl | go_simp) ?_
                (try simp only [Act.put, List.setIfInBounds_toArray, List.set_cons_zero, List.set_cons_succ])
                refine wpG_take _ (.pointer (some ⟨g5, (j * 41 + 37), none⟩)) rfl (by rfl) (fun X hX => by first | rfl | go_simp) ?_
                (try simp only [Act.put, List.setIfInBounds_toArray, List.set_cons_zero, List.set_cons_succ])
                refine wpG_take _ (.int .u16 (at0 q : Int)) rfl (by rfl) (fun X hX => ex_ld16 rfl rfl (by rw [hX]; exact HSX.out 37 _ (cell_at0 HQO.out))) ?_
                (try simp only [Act.put, List.setIfInBounds_toArray, List.set_cons_zero, List.set_cons_succ])
                refine wpG_take _ (.bool y) rfl (by rfl) (fun X hX => ex_eq16b HY.out rfl rfl rfl) ?_
                (try simp only [Act.put, List.setIfInBounds_toArray, List.set_cons_zero, List.set_cons_succ])
                refine wpG_take _ (.bool y) rfl (by rfl) (fun X hX => by first | rfl | go_simp) ?_
                (try simp only [Act.put, List.setIfInBounds_toArray, List.set_cons_zero, List.set_cons_succ])
                refine wpG_take _ (.bool y) rfl (by rfl) (fun X hX => by first | rfl | go_simp) ?_
                (try simp only [Act.put, List.setIfInBounds_toArray, List.set_cons_zero, List.set_cons_succ])
                refine wpG_nil ?_
                go_wp2_with fail
                go_roundw
                case rel => exact ⟨k + 1, by omega, by go_num, by rw [HNX.out], HFX.out⟩
                case measure => simp [intOf]; omega
            · obtain rfl : NB = k := by omega
              clear hlk hk wk3
              have HNX : Hid ((rs.take (j + 1)).any (hitL bl) = fk) := Lib.hid (by
                rw [any_take_succ (hitL bl) HQ.out, HFA.out, ← HFK.out]
                rw [List.take_of_length_le (by rw [HNB.out]; exact Nat.le_refl _)]
                rfl)
              obtain ⟨vS, hbS, hsrc⟩ := HF.out.look
              rw [HS3F.out.2.2.1] at hsrc
              obtain ⟨g5, cap5, hv5, hc5, sp5, hv5'⟩ := hsrc.form
              have hv5 := hv5 (by have := HR.out; omega)
              rw [hv5] at hsrc
              have HSX : Hid (wr.rangeAt g5 (j * 41) (pcells q)) := Lib.hid (hsrc.at HQ.out)
              have c5 : wr.cell? ⟨D, 5, none⟩ = some (.slice (some ⟨g5, 0, none⟩) R cap5) := by rw [← HR.out, ← hv5]; exact hbS.cell (j := 5) rfl
              have HJR : Hid (j < R ∧ R ≤ cap5) := Lib.hid ⟨hlt, by have := HR.out; omega⟩
              have hsn : SrcM wr (.slice spn (nodesOf root mids).length capn) (nodesOf root mids) := OwnM.src (HF.out.row HRN.out HBS5.out.1) HOKN.out
              have hhas := has_any (nodesOf root mids) _ q HQO.out HOKN.out (by
                have hl := HIT.out.2.2.1.1.len
                unfold nodesOf
                split
                · simp
                · have := List.length_filter_le (fun q => !eqP q zeroP) mids
                  simp only [List.length_cons]
                  omega) wr hsn
              rw [isIn_mem.2 HQN.out] at hhas
              have HHAS := Lib.hid hhas
              clear hbS hsrc hv5 hv5' hc5 hsn hhas
              go_wp2_with (first | (refine wpL_val rfl (q_iaP rfl rfl rfl HJR.out) ?_) | (refine wpL_val rfl (ex_ldR HQO.out HSX.out rfl rfl) ?_) | fail)
              refine HHAS.out.mono ?_
              rintro e X6 ⟨rfl, hb6⟩
              have HF6 := Lib.hid (HF.out.below hb6)
              clear hb6 HHAS HF
              go_wp2_with fail
              go_roundw
              case rel => exact ⟨j + 1, by omega, by go_num, by rw [HNX.out], HF6.out⟩
              case measure => simp [intOf]; omega
        · obtain rfl : R = j := by omega
          have hfa2 : rs.any (hitL bl) = fa := by rw [← HFA.out, List.take_of_length_le (by rw [HR.out]; exact Nat.le_refl _)]
          have hres2 := HRES.out
          rw [hfa2] at hres2
          have HRES2 := Lib.hid hres2
          clear hlt hj wk2 hfa2 hres2
          rcases HRES2.out with ⟨ha, he, hp⟩ | ⟨ha, he, hp⟩
          · subst ha he
            have HB22 : Hid (Blk wr.drew g22 (pcells p3) 37) := Lib.hid (HF.out.drew.at HBS5.out.2.2.2.1)
            have HO6 : Hid (off < 64 ∧ 64 ≤ 64) := Lib.hid ⟨HO64.out, Nat.le_refl _⟩
            have HHX : Hid (wr.drew.rangeAt gH (off * 41) (pcells p3)) := Lib.hid ((HMB.out.src HF.out.drew (fun y hy => by simp at hy; subst hy; exact HBS5.out.2.2.1) (fun p hp => (HFI.out p hp).1)).at hp.symm)
            clear hp
            go_upto_region 36 with fail
            refine wp_region_sched (.take 0 (.take 1 (.take 2 (.take 3 (.take 4 (.take 5 (.take 6 (.take 7 (.take 8 (.take 9 (.take 10 (.take 11 (.take 12 (.take 13 (.take 14 (.take 15 (.take 16 (.take 17 (.take 18 (.take 19 (.take 20 (.take 21 (.take 22 (.take 23 (.take 24 (.take 25 (.take 26 (.take 27 (.nil))))))))))))))))))))))))))))) (by kernel_rfl) (by kernel_rfl) (fun d _ _ _ _ h => by cases d <;> exact h) (fun X => X = wr.drew) (rfl) ?_
            refine wpG_take _ (.bool false) rfl (by rfl) (fun X hX => by first | rfl | go_simp) ?_
            (try simp only [Act.put, List.setIfInBounds_toArray, List.set_cons_zero, List.set_cons_succ])
            refine wpG_take _ (.int .i64 0) rfl (by rfl) (fun X hX => by first | rfl | go_simp) ?_
            (try simp only [Act.put, List.setIfInBounds_toArray, List.set_cons_zero, List.set_cons_succ])
            refine wpG_take _ (.bool false) rfl (by rfl) (fun X hX => by first | rfl | go_simp) ?_
            (try simp only [Act.put, List.setIfInBounds_toArray, List.set_cons_zero, List.set_cons_succ])
            refine wpG_take _ (.bool false) rfl (by rfl) (fun X hX => by first | rfl | go_simp) ?_
            (try simp only [Act.put, List.setIfInBounds_toArray, List.set_cons_zero, List.set_cons_succ])
            refine wpG_take _ (.bool false) rfl (by rfl) (fun X hX => by first | rfl | go_simp) ?_
            (try simp only [Act.put, List.setIfInBounds_toArray, List.set_cons_zero, List.set_cons_succ])
            refine wpG_take _ (.bool false) rfl (by rfl) (fun X hX => by first | rfl | go_simp) ?_
            (try simp only [Act.put, List.setIfInBounds_toArray, List.set_cons_zero, List.set_cons_succ])
            refine wpG_take _ (.bool true) rfl (by rfl) (fun X hX => by first | rfl | go_simp) ?_
            (try simp only [Act.put, List.setIfInBounds_toArray, List.set_cons_zero, List.set_cons_succ])
            refine wpG_take _ (.bool true) rfl (by rfl) (fun X hX => by first | rfl | go_simp) ?_
            (try simp only [Act.put, List.setIfInBounds_toArray, List.set_cons_zero, List.set_cons_succ])
            refine wpG_take _ (.int .i64 0) rfl (by rfl) (fun X hX => by first | rfl | go_simp) ?_
            (try simp only [Act.put, List.setIfInBounds_toArray, List.set_cons_zero, List.set_cons_succ])
            refine wpG_take _ (.bool false) rfl (by rfl) (fun X hX => by first | rfl | go_simp) ?_
            (try simp only [Act.put, List.setIfInBounds_toArray, List.set_cons_zero, List.set_cons_succ])
            refine wpG_take _ (.bool false) rfl (by rfl) (fun X hX => by first | rfl | go_simp) ?_
            (try simp only [Act.put, List.setIfInBounds_toArray, List.set_cons_zero, List.set_cons_succ])
            refine wpG_take _ (.agg (pcells p3).toArray) rfl (by rfl) (fun X hX => ex_ldP (t' := 37) HP3.out (by rw [hX]; exact HB22.out) rfl rfl) ?_
            (try simp only [Act.put, List.setIfInBounds_toArray, List.set_cons_zero, List.set_cons_succ])
            refine wpG_take _ (.slice (some ⟨gH, 0, none⟩) 64 64) rfl (by rfl) (fun X hX => by first | rfl | go_simp) ?_
            (try simp only [Act.put, List.setIfInBounds_toArray, List.set_cons_zero, List.set_cons_succ])
            refine wpG_take _ (.int .u32 (off : Int)) rfl (by rfl) (fun X hX => by first | rfl | go_simp) ?_
            (try simp only [Act.put, List.setIfInBounds_toArray, List.set_cons_zero, List.set_cons_succ])
            refine wpG_take _ (.pointer (some ⟨gH, off * 41, none⟩)) rfl (by rfl) (fun X hX => ex_iaPu rfl rfl rfl HO6.out) ?_
            (try simp only [Act.put, List.setIfInBounds_toArray, List.set_cons_zero, List.set_cons_succ])
            refine wpG_take _ (.agg (pcells p3).toArray) rfl (by rfl) (fun X hX => ex_ldR HP3.out (by rw [hX]; exact HHX.out) rfl rfl) ?_
            (try simp only [Act.put, List.setIfInBounds_toArray, List.set_cons_zero, List.set_cons_succ])
            refine wpG_take _ (.bool false) rfl (by rfl) (fun X hX => (ex_neP rfl rfl rfl HP3.out HP3.out).trans (by rw [eqP_same]; rfl)) ?_
            (try simp only [Act.put, List.setIfInBounds_toArray, List.set_cons_zero, List.set_cons_succ])
            refine wpG_take _ (.bool false) rfl (by rfl) (fun X hX => by first | rfl | go_simp) ?_
            (try simp only [Act.put, List.setIfInBounds_toArray, List.set_cons_zero, List.set_cons_succ])
            refine wpG_take _ (.bool false) rfl (by rfl) (fun X hX => by first | rfl | go_simp) ?_
            (try simp only [Act.put, List.setIfInBounds_toArray, List.set_cons_zero, List.set_cons_succ])
            refine wpG_take _ (.bool false) rfl (by rfl) (fun X hX => by first | rfl | go_simp) ?_
            (try simp only [Act.put, List.setIfInBounds_toArray, List.set_cons_zero, List.set_cons_succ])
            refine wpG_take _ (.bool false) rfl (by rfl) (fun X hX => by first | rfl | go_simp) ?_
            (try simp only [Act.put, List.setIfInBounds_toArray, List.set_cons_zero, List.set_cons_succ])
            refine wpG_take _ (.bool false) rfl (by rfl) (fun X hX => by first | rfl | go_simp) ?_
            (try simp only [Act.put, List.setIfInBounds_toArray, List.set_cons_zero, List.set_cons_succ])
            refine wpG_take _ (.bool false) rfl (by rfl) (fun X hX => by first | rfl | go_simp) ?_
            (try simp only [Act.put, List.setIfInBounds_toArray, List.set_cons_zero, List.set_cons_succ])
            refine wpG_pass _ rfl (by rfl) ?_
            (try simp only [Act.put, List.setIfInBounds_toArray, List.set_cons_zero, List.set_cons_succ])
            refine wpG_pass _ rfl (by rfl) ?_
            (try simp only [Act.put, List.setIfInBounds_toArray, List.set_cons_zero, List.set_cons_succ])
            refine wpG_pass _ rfl (by rfl) ?_
            (try simp only [Act.put, List.setIfInBounds_toArray, List.set_cons_zero, List.set_cons_succ])
            refine wpG_take _ (.bool false) rfl (by rfl) (fun X hX => by first | rfl | go_simp) ?_
            (try simp only [Act.put, List.setIfInBounds_toArray, List.set_cons_zero, List.set_cons_succ])
            refine wpG_take _ (.bool false) rfl (by rfl) (fun X hX => by first | rfl | go_simp) ?_
            (try simp only [Act.put, List.setIfInBounds_toArray, List.set_cons_zero, List.set_cons_succ])
            refine wpG_nil ?_
            have hfd := HF.out.drew
            obtain ⟨⟨u4, c4⟩, f4⟩ := hfd.stay (j := 4) (by omega)
            have HFR := Lib.hid (fr_room hfd (room : Int))
            have wkr := IntWalk.i64_in (room : Int) (by have := HRO.out; omega)
            clear hfd
            go_upto_region 39 with fail
            refine (fun (k' : ∀ W, Fr W1 D { s3 with room := (room : Int) } BS5 W → Code.wp _ _ _ _ W) => k' _ HFR.out) ?_
            intro X7 hX7
            have HF7 := Lib.hid hX7
            clear hX7 c4 f4 c5 HFR HB22 HO6 HHX
            have HLV : Hid (∀ (Y : World) {s' : Sh} {bs : Bxs}, Fr W1 D s' bs Y → (gH, cs, 37) ∈ bs → Calls Tryd.prog 7 #[.agg lc.toArray, .int .i64 99, .slice (some ⟨gH, 0, none⟩) 64 64] Y (LvPost Y 99 h)) := Lib.hid fun Y s' bs hY hm => by
              have := leaves_go last.b last.sp last.b.length last.cap ⟨rfl, HLA1.out.2⟩ (by have := HLB.out.1; omega) last.H last.sm 99 (by omega) h HMB.out.1 (fun p hp => (HFI.out p hp).1) gH 64 (Nat.le_refl _) Y (srcA_grown HLA1.out.1 hY.bel) (HMB.out.src hY (fun y hy => by simp at hy; subst hy; exact hm) (fun p hp => (HFI.out p hp).1))
              rw [← HLC.out]
              exact this
            have HIT3 : Hid (IsT s3.blocks root h mids) := Lib.hid (by rw [HS3F.out.1]; exact HIT.out)
            have HSETF : Hid (∀ (bs : Bxs) (Y : World) (ls : List Lf), LvL 99 h 64 ls → ∀ (v : Value) (lb : Bxs), Fr W1 D { s3 with room := (room : Int) } bs Y → RowB 45 42 lb v ls.length (lrows ls) → (∀ y ∈ lb, y ∈ bs) → Calls Tryd.prog 8 #[shI D, .agg (pcells root).toArray, .int .u16 9, v] Y fun e X => ∃ s6 p6 e6, e = .returned (.tuple #[.agg (pcells p6).toArray, .int .i64 ((e6 : Nat) : Int)]) ∧ (e6 = 0 ∨ e6 = 21 ∨ e6 = 30) ∧ Pt.OK p6 ∧ (∀ (k : Nat) (b : Bs), s.blocks[k]? = some b → s6.blocks[k]? = some b) ∧ Lim (715 * N + 73 + 73 + 715) s6 ∧ Fr W1 D s6 bs X) := Lib.hid fun bs Y ls hll v lb hY hr hs => by
              have ha := lv_asc hll (by omega) HFI.out
              have hlo : ∀ x ∈ ls, Lf.OK x := fun x hx => ⟨by have := ha.lt x hx; omega, (ha.ok x hx).1⟩
              have hl4 := HL4.out
              have st := set_tree (s := { s3 with room := (room : Int) }) HIT3.out ha (by have h1 := HBL9.out; have h2 := HLB.out.2.1; show s3.blocks.length + 9 < 30000; rw [HS3F.out.1]; omega)
              have hc := fr_setB hY root HRK.out ls hlo hll.len hr hs (m := 715 * N + 73 + 73) ⟨hl4.rd, hl4.md, hl4.gn, hl4.n, hl4.bl, hl4.bd, by have := HRO.out; show (-1 : Int) ≤ (room : Int) ∧ (room : Int) ≤ 1000; omega⟩ (by have := HLB.out.2.1; omega)
              refine hc.mono fun e X ⟨e1, e2, e3, e4⟩ => ⟨_, _, _, e1, st.e, e4, fun k b hb => st.pre k b (by show s3.blocks[k]? = some b; rw [HS3F.out.1]; exact hb), e3, e2⟩
            have HGX : Hid (∀ X, Below W1.heap.size W1 X → Blk X G lc 43) := Lib.hid fun X hX => HGB.out.below hX HGB.out.lt
            go_upto_region 39 with fail
            refine wp_region_sched (.take 0 (.take 1 (.take 2 (.take 3 (.take 4 (.fork 5 (.fork 6 (.take 7 (.take 8 (.take 9 (.step 10 (.step 11 (.take 12 (.nil))))))) 10 (.step 6 (.take 7 (.take 8 (.take 9 (.step 11 (.take 12 (.nil)))))))) 10 (.step 5 (.step 6 (.take 7 (.take 8 (.take 9 (.step 11 (.take 12 (.nil)))))))))))))) (by kernel_rfl) (by kernel_rfl) (fun d _ _ _ _ h => by cases d <;> exact h) (fun X => ∃ s2, Fr W1 D s2 BS5 X) (⟨_, HF7.out.drew⟩) ?_
            refine wpG_take _ (.pointer (some ⟨D, 0, none⟩)) rfl (by rfl) (fun X hX => by first | rfl | go_simp) ?_
            (try simp only [Act.put, List.setIfInBounds_toArray, List.set_cons_zero, List.set_cons_succ])
            refine wpG_take _ (shI D) rfl (by rfl) (fun X hX => by first | rfl | go_simp) ?_
            (try simp only [Act.put, List.setIfInBounds_toArray, List.set_cons_zero, List.set_cons_succ])
            refine wpG_take _ (.agg (pcells root).toArray) rfl (by rfl) (fun X hX => ex_ldP HRK.out (hX.choose_spec.at HBS5.out.2.1) rfl rfl) ?_
            (try simp only [Act.put, List.setIfInBounds_toArray, List.set_cons_zero, List.set_cons_succ])
            refine wpG_take _ (.agg lc.toArray) rfl (by rfl) (fun X hX => ex_ldAl HLC.out (HGX.out _ hX.choose_spec.bel) rfl rfl) ?_
            (try simp only [Act.put, List.setIfInBounds_toArray, List.set_cons_zero, List.set_cons_succ])
            refine wpG_take _ (.slice (some ⟨gH, 0, none⟩) 64 64) rfl (by rfl) (fun X hX => by first | rfl | go_simp) ?_
            (try simp only [Act.put, List.setIfInBounds_toArray, List.set_cons_zero, List.set_cons_succ])
            refine wpG_fork ?_ ?_
            · refine wpG_call _ rfl (by rfl) 7 #[.agg lc.toArray, .int .i64 99, .slice (some ⟨gH, 0, none⟩) 64 64] (fun X => by go_simp) (fun u X => LvPost X7.drew 99 h (.returned u) X) ((HLV.out X7.drew HF7.out.drew (by simp [HBS5.out.2.2.1])).mono fun e X he => by
                obtain ⟨ov, ls, e1, h2, h3, h4⟩ := he
                exact ⟨_, e1, ⟨_, ((HF7.out.drew).below h2).sub (fun y hy => by simp [hy])⟩, ov, ls, rfl, h2, h3, h4⟩) ?_
              rintro u Y1 hy1 ⟨ov, ls, e3, hbl, hol, hll⟩
              injection e3 with e4
              subst e4
              obtain ⟨lb2, hlb1, hlb2⟩ := RowB.of hol
              obtain ⟨spl2, capl2, rfl⟩ := hlb1.form
              have hfl := fr_add (HF7.out.drew) hbl (fun y hy => ⟨(hlb2 y hy).1, (hol.lt _ (hlb2 y hy).2).1⟩)
              refine ⟨_, fun _ h => h, hy1, ?_⟩
              (try simp only [Act.put, List.setIfInBounds_toArray, List.set_cons_zero, List.set_cons_succ])
              refine wpG_fork ?_ ?_
              · as_aux_lemma =>
                have hset1 := HSETF.out (lb2 ++ BS5) Y1 ls hll (.slice spl2 ls.length capl2) lb2 hfl hlb1 (fun y hy => by simp [hy])
                refine wpG_call _ rfl (by rfl) 8 #[shI D, .agg (pcells root).toArray, .int .u16 9, .slice spl2 ls.length capl2] (fun X => by go_simp) (fun u X => ∃ s6 p6 e6, u = .tuple #[.agg (pcells p6).toArray, .int .i64 ((e6 : Nat) : Int)] ∧ (e6 = 0 ∨ e6 = 21 ∨ e6 = 30) ∧ Pt.OK p6 ∧ (∀ (k : Nat) (b : Bs), s.blocks[k]? = some b → s6.blocks[k]? = some b) ∧ Lim (715 * N + 73 + 73 + 715) s6 ∧ Fr W1 D s6 (lb2 ++ BS5) X) (hset1.mono fun e X ⟨s6, p6, e6, e1, a1, a2, a3, a4, a5⟩ => ⟨_, e1, ⟨s6, a5.sub (fun y hy => by simp [hy])⟩, s6, p6, e6, rfl, a1, a2, a3, a4, a5⟩) ?_
                rintro u Z1 hz1 ⟨s6, p6, e6, rfl, ha1, ha2, ha3, ha4, ha5⟩
                refine ⟨_, fun _ h => h, hz1, ?_⟩
                (try simp only [Act.put, List.setIfInBounds_toArray, List.set_cons_zero, List.set_cons_succ])
                refine wpG_take _ (.tuple #[.agg (pcells p6).toArray, .int .i64 ((e6 : Nat) : Int)]) rfl (by rfl) (fun X hX => by first | rfl | go_simp) ?_
                (try simp only [Act.put, List.setIfInBounds_toArray, List.set_cons_zero, List.set_cons_succ])
                refine wpG_take _ (.agg (pcells p6).toArray) rfl (by rfl) (fun X hX => by first | rfl | go_simp) ?_
                (try simp only [Act.put, List.setIfInBounds_toArray, List.set_cons_zero, List.set_cons_succ])
                refine wpG_take _ (.int .i64 ((e6 : Nat) : Int)) rfl (by rfl) (fun X hX => by first | rfl | go_simp) ?_
                (try simp only [Act.put, List.setIfInBounds_toArray, List.set_cons_zero, List.set_cons_succ])
                have hfA := (ha5).add (g := Z1.heap.size) (cs := pcells zeroP) (t := 37) ((Below.refl _ _).alloc (Nat.le_refl _) (.cells (pcells zeroP).toArray 37)) (Nat.le_refl _) (Blk.new Z1 (pcells zeroP) 37)
                refine wpG_mk _ rfl (by rfl) (.pointer (some ⟨Z1.heap.size, 0, none⟩)) (Z1.alloc (.cells (pcells zeroP).toArray 37)) (ex_alPt rfl) (fun X => ∃ s2, Fr W1 D s2 BS5 X) ⟨_, hfA.sub (fun y hy => by simp [hy])⟩ (fun _ h => h) ?_
                (try simp only [Act.put, List.setIfInBounds_toArray, List.set_cons_zero, List.set_cons_succ])
                have hgA : W1.heap.size ≤ Z1.heap.size := ha5.bel.size
                have hgB : ∀ z ∈ lb2 ++ BS5, z.1 ≠ Z1.heap.size := fun z hz e => by have := (ha5.bx z hz).lt; omega
                have hfB := hfA
                have hfe : Fr W1 D s6 BS5 (((Z1.alloc (.cells (pcells zeroP).toArray 37))).setRow Z1.heap.size (pcells p6).toArray) := (fr_row (cs' := pcells p6) hfB hgA hgB).sub (fun y hy => by simp [hy])
                refine wpG_row _ rfl (by rfl) 37 (.tmp 27) (.tmp 210) rfl Z1.heap.size (pcells p6).toArray rfl rfl (hfB.at (g := Z1.heap.size) (cs := pcells zeroP) (t := 37) (by simp)) (size_pc ha2) (by rw [List.size_toArray, pcells_length ha2, pcells_length zeroP_ok]) (one_pc p6) (fun X => ∃ s2, Fr W1 D s2 BS5 X) (fun _ h => h) ⟨_, hfe⟩ ?_
                (try simp only [Act.put, List.setIfInBounds_toArray, List.set_cons_zero, List.set_cons_succ])
                refine wpG_take _ (.int .i64 ((e6 : Nat) : Int)) rfl (by rfl) (fun X hX => by first | rfl | go_simp) ?_
                (try simp only [Act.put, List.setIfInBounds_toArray, List.set_cons_zero, List.set_cons_succ])
                refine wpG_nil ?_
                obtain ⟨Z9, hZ9⟩ : ∃ z, z = ((Z1.alloc (.cells (pcells zeroP).toArray 37))).setRow Z1.heap.size (pcells p6).toArray := ⟨_, rfl⟩
                rw [← hZ9] at hfe ⊢
                have HF9 := Lib.hid hfe
                have HIT9 : Hid (IsT s6.blocks root h mids) := Lib.hid ((by rw [← HS3F.out.1]; exact HIT3.out : IsT s.blocks root h mids).mono ha3)
                have HL9 := Lib.hid ha4
                obtain ⟨⟨u1, c1⟩, f1⟩ := hfe.stay (j := 1) (by omega)
                have hnb := fr_nobad hfe
                obtain ⟨⟨u4, c4⟩, f4⟩ := hnb.stay (j := 4) (by omega)
                have HF10 := Lib.hid (fr_room hnb (-1))
                clear hZ9 hfe ha3 ha4 ha5 hnb HF7 HF
                rcases ha1 with rfl | rfl | rfl
                · have hx0 : (fun _ : World => True) Z9 := trivial
                  go_upto_region 40 with fail
                  refine wp_region_list ?_
                  refine tl_val (S := fun _ => True) (.int .i64 0) (by rfl) hx0 (fun X hX => by first | rfl | go_simp) ?_
                  (try simp only [Act.put, List.setIfInBounds_toArray, List.set_cons_zero, List.set_cons_succ])
                  refine tl_val (S := fun _ => True) (.bool false) (by rfl) hx0 (fun X hX => by first | rfl | go_simp) ?_
                  (try simp only [Act.put, List.setIfInBounds_toArray, List.set_cons_zero, List.set_cons_succ])
                  refine tl_val (S := fun _ => True) (.bool false) (by rfl) hx0 (fun X hX => by first | rfl | go_simp) ?_
                  (try simp only [Act.put, List.setIfInBounds_toArray, List.set_cons_zero, List.set_cons_succ])
                  refine tl_skip (by rfl) ?_
                  (try simp only [Act.put, List.setIfInBounds_toArray, List.set_cons_zero, List.set_cons_succ])
                  refine tl_skip (by rfl) ?_
                  (try simp only [Act.put, List.setIfInBounds_toArray, List.set_cons_zero, List.set_cons_succ])
                  refine tl_val (S := fun _ => True) (.bool false) (by rfl) hx0 (fun X hX => by first | rfl | go_simp) ?_
                  (try simp only [Act.put, List.setIfInBounds_toArray, List.set_cons_zero, List.set_cons_succ])
                  refine tl_val (S := fun _ => True) (.bool false) (by rfl) hx0 (fun X hX => by first | rfl | go_simp) ?_
                  (try simp only [Act.put, List.setIfInBounds_toArray, List.set_cons_zero, List.set_cons_succ])
                  refine tl_skip (by rfl) ?_
                  (try simp only [Act.put, List.setIfInBounds_toArray, List.set_cons_zero, List.set_cons_succ])
                  refine tl_skip (by rfl) ?_
                  (try simp only [Act.put, List.setIfInBounds_toArray, List.set_cons_zero, List.set_cons_succ])
                  refine tl_val (S := fun _ => True) (.bool false) (by rfl) hx0 (fun X hX => by first | rfl | go_simp) ?_
                  (try simp only [Act.put, List.setIfInBounds_toArray, List.set_cons_zero, List.set_cons_succ])
                  refine wpList_nil ?_
                  clear hx0
                  go_upto_region 43 with fail
                  refine (fun (k' : ∀ W, Fr W1 D { s6 with bad := [], room := -1 } BS5 W → Code.wp _ _ _ _ W) => k' _ HF10.out) ?_
                  intro X9 hX9
                  have HBR9 := Lib.hid (hX9.at HBS5.out.2.1)
                  have HTE := Lib.hid (tells_go (h := h) (mids := mids) hX9 HIT9.out rfl HRK.out gH 64 (Nat.le_refl _) (fun s2 bs' Y hY hsub => HMB.out.src hY (fun y hy => hsub y (by simp at hy; subst hy; exact HBS5.out.2.2.1)) (fun p hp => (HFI.out p hp).1)) (m := 715 * N + 73 + 73 + 715) ⟨HL9.out.rd, HL9.out.md, HL9.out.gn, HL9.out.n, HL9.out.bl, Nat.zero_le _, by show (-1 : Int) ≤ -1 ∧ (-1 : Int) ≤ 1000; omega⟩ (by have := HLB.out.2.1; omega))
                  clear hX9 c1 f1 c4 f4 HF10 HF9
                  go_wp2_with (first | (refine wpL_val rfl (ex_ldP HRK.out HBR9.out rfl rfl) ?_) | fail)
                  refine HTE.out.mono ?_
                  rintro e X10 ⟨nv3, nb3, s10, rs10, rfl, -, hf10, -, -⟩
                  have HT10 := Lib.hid hf10.tab
                  have HB10 := Lib.hid (HB1.out.trans (hf10.bel.mono HB1.out.size))
                  have hx0 : (fun _ : World => True) X10 := trivial
                  clear hf10 HTE HBR9
                  go_upto_region 44 with fail
                  refine wp_region_list ?_
                  refine tl_val (S := fun _ => True) (.bool true) (by rfl) hx0 (fun X hX => by first | rfl | go_simp) ?_
                  (try simp only [Act.put, List.setIfInBounds_toArray, List.set_cons_zero, List.set_cons_succ])
                  refine tl_val (S := fun _ => True) (.bool true) (by rfl) hx0 (fun X hX => by first | rfl | go_simp) ?_
                  (try simp only [Act.put, List.setIfInBounds_toArray, List.set_cons_zero, List.set_cons_succ])
                  refine tl_call (by rfl) 6 #[] (by go_simp) (fun u X => u = .bool true ∧ Below w.heap.size w X) ((twakes_any _ HT10.out).mono fun e Y ⟨e1, hb⟩ => ⟨_, e1, rfl, HB10.out.trans (hb.mono HB10.out.size)⟩) ?_
                  rintro u X11 ⟨rfl, hb11⟩
                  (try simp only [Act.put, List.setIfInBounds_toArray, List.set_cons_zero, List.set_cons_succ])
                  refine tl_val (S := fun _ => True) (.bool true) (by rfl) trivial (fun X hX => by first | rfl | go_simp) ?_
                  (try simp only [Act.put, List.setIfInBounds_toArray, List.set_cons_zero, List.set_cons_succ])
                  refine tl_val (S := fun _ => True) (.bool true) (by rfl) trivial (fun X hX => by first | rfl | go_simp) ?_
                  (try simp only [Act.put, List.setIfInBounds_toArray, List.set_cons_zero, List.set_cons_succ])
                  refine wpList_nil ?_
                  have HE := Lib.hid (HP.out _ hb11)
                  go_wp2_with fail
                  first | exact HE.out | (go_ret; exact HE.out)
                · have hx0 : (fun _ : World => True) Z9 := trivial
                  go_upto_region 40 with fail
                  refine wp_region_list ?_
                  refine tl_val (S := fun _ => True) (.int .i64 21) (by rfl) hx0 (fun X hX => by first | rfl | go_simp) ?_
                  (try simp only [Act.put, List.setIfInBounds_toArray, List.set_cons_zero, List.set_cons_succ])
                  refine tl_val (S := fun _ => True) (.bool true) (by rfl) hx0 (fun X hX => by first | rfl | go_simp) ?_
                  (try simp only [Act.put, List.setIfInBounds_toArray, List.set_cons_zero, List.set_cons_succ])
                  refine tl_val (S := fun _ => True) (.bool true) (by rfl) hx0 (fun X hX => by first | rfl | go_simp) ?_
                  (try simp only [Act.put, List.setIfInBounds_toArray, List.set_cons_zero, List.set_cons_succ])
                  refine tl_val (S := fun _ => True) (.int .i64 21) (by rfl) hx0 (fun X hX => by first | rfl | go_simp) ?_
                  (try simp only [Act.put, List.setIfInBounds_toArray, List.set_cons_zero, List.set_cons_succ])
                  refine tl_val (S := fun _ => True) (.bool false) (by rfl) hx0 (fun X hX => by first | rfl | go_simp) ?_
                  (try simp only [Act.put, List.setIfInBounds_toArray, List.set_cons_zero, List.set_cons_succ])
                  refine tl_val (S := fun _ => True) (.bool false) (by rfl) hx0 (fun X hX => by first | rfl | go_simp) ?_
                  (try simp only [Act.put, List.setIfInBounds_toArray, List.set_cons_zero, List.set_cons_succ])
                  refine tl_val (S := fun _ => True) (.bool false) (by rfl) hx0 (fun X hX => by first | rfl | go_simp) ?_
                  (try simp only [Act.put, List.setIfInBounds_toArray, List.set_cons_zero, List.set_cons_succ])
                  refine tl_skip (by rfl) ?_
                  (try simp only [Act.put, List.setIfInBounds_toArray, List.set_cons_zero, List.set_cons_succ])
                  refine tl_skip (by rfl) ?_
                  (try simp only [Act.put, List.setIfInBounds_toArray, List.set_cons_zero, List.set_cons_succ])
                  refine tl_val (S := fun _ => True) (.bool false) (by rfl) hx0 (fun X hX => by first | rfl | go_simp) ?_
                  (try simp only [Act.put, List.setIfInBounds_toArray, List.set_cons_zero, List.set_cons_succ])
                  refine wpList_nil ?_
                  clear hx0
                  go_upto_region 43 with fail
                  refine (fun (k' : ∀ W, Fr W1 D { s6 with bad := [], room := -1 } BS5 W → Code.wp _ _ _ _ W) => k' _ HF10.out) ?_
                  intro X9 hX9
                  have HBR9 := Lib.hid (hX9.at HBS5.out.2.1)
                  have HTE := Lib.hid (tells_go (h := h) (mids := mids) hX9 HIT9.out rfl HRK.out gH 64 (Nat.le_refl _) (fun s2 bs' Y hY hsub => HMB.out.src hY (fun y hy => hsub y (by simp at hy; subst hy; exact HBS5.out.2.2.1)) (fun p hp => (HFI.out p hp).1)) (m := 715 * N + 73 + 73 + 715) ⟨HL9.out.rd, HL9.out.md, HL9.out.gn, HL9.out.n, HL9.out.bl, Nat.zero_le _, by show (-1 : Int) ≤ -1 ∧ (-1 : Int) ≤ 1000; omega⟩ (by have := HLB.out.2.1; omega))
                  clear hX9 c1 f1 c4 f4 HF10 HF9
                  go_wp2_with (first | (refine wpL_val rfl (ex_ldP HRK.out HBR9.out rfl rfl) ?_) | fail)
                  refine HTE.out.mono ?_
                  rintro e X10 ⟨nv3, nb3, s10, rs10, rfl, -, hf10, -, -⟩
                  have HT10 := Lib.hid hf10.tab
                  have HB10 := Lib.hid (HB1.out.trans (hf10.bel.mono HB1.out.size))
                  have hx0 : (fun _ : World => True) X10 := trivial
                  clear hf10 HTE HBR9
                  go_upto_region 44 with fail
                  refine wp_region_list ?_
                  refine tl_val (S := fun _ => True) (.bool true) (by rfl) hx0 (fun X hX => by first | rfl | go_simp) ?_
                  (try simp only [Act.put, List.setIfInBounds_toArray, List.set_cons_zero, List.set_cons_succ])
                  refine tl_val (S := fun _ => True) (.bool true) (by rfl) hx0 (fun X hX => by first | rfl | go_simp) ?_
                  (try simp only [Act.put, List.setIfInBounds_toArray, List.set_cons_zero, List.set_cons_succ])
                  refine tl_call (by rfl) 6 #[] (by go_simp) (fun u X => u = .bool true ∧ Below w.heap.size w X) ((twakes_any _ HT10.out).mono fun e Y ⟨e1, hb⟩ => ⟨_, e1, rfl, HB10.out.trans (hb.mono HB10.out.size)⟩) ?_
                  rintro u X11 ⟨rfl, hb11⟩
                  (try simp only [Act.put, List.setIfInBounds_toArray, List.set_cons_zero, List.set_cons_succ])
                  refine tl_val (S := fun _ => True) (.bool true) (by rfl) trivial (fun X hX => by first | rfl | go_simp) ?_
                  (try simp only [Act.put, List.setIfInBounds_toArray, List.set_cons_zero, List.set_cons_succ])
                  refine tl_val (S := fun _ => True) (.bool true) (by rfl) trivial (fun X hX => by first | rfl | go_simp) ?_
                  (try simp only [Act.put, List.setIfInBounds_toArray, List.set_cons_zero, List.set_cons_succ])
                  refine wpList_nil ?_
                  have HE := Lib.hid (HP.out _ hb11)
                  go_wp2_with fail
                  first | exact HE.out | (go_ret; exact HE.out)
                · have hx0 : (fun _ : World => True) Z9 := trivial
                  go_upto_region 40 with fail
                  refine wp_region_list ?_
                  refine tl_val (S := fun _ => True) (.int .i64 30) (by rfl) hx0 (fun X hX => by first | rfl | go_simp) ?_
                  (try simp only [Act.put, List.setIfInBounds_toArray, List.set_cons_zero, List.set_cons_succ])
                  refine tl_val (S := fun _ => True) (.bool true) (by rfl) hx0 (fun X hX => by first | rfl | go_simp) ?_
                  (try simp only [Act.put, List.setIfInBounds_toArray, List.set_cons_zero, List.set_cons_succ])
                  refine tl_val (S := fun _ => True) (.bool true) (by rfl) hx0 (fun X hX => by first | rfl | go_simp) ?_
                  (try simp only [Act.put, List.setIfInBounds_toArray, List.set_cons_zero, List.set_cons_succ])
                  refine tl_val (S := fun _ => True) (.int .i64 30) (by rfl) hx0 (fun X hX => by first | rfl | go_simp) ?_
                  (try simp only [Act.put, List.setIfInBounds_toArray, List.set_cons_zero, List.set_cons_succ])
                  refine tl_val (S := fun _ => True) (.bool true) (by rfl) hx0 (fun X hX => by first | rfl | go_simp) ?_
                  (try simp only [Act.put, List.setIfInBounds_toArray, List.set_cons_zero, List.set_cons_succ])
                  refine tl_val (S := fun _ => True) (.bool true) (by rfl) hx0 (fun X hX => by first | rfl | go_simp) ?_
                  (try simp only [Act.put, List.setIfInBounds_toArray, List.set_cons_zero, List.set_cons_succ])
                  refine tl_val (S := fun _ => True) (.bool true) (by rfl) hx0 (fun X hX => by first | rfl | go_simp) ?_
                  (try simp only [Act.put, List.setIfInBounds_toArray, List.set_cons_zero, List.set_cons_succ])
                  refine tl_val (S := fun _ => True) (.int .i64 30) (by rfl) hx0 (fun X hX => by first | rfl | go_simp) ?_
                  (try simp only [Act.put, List.setIfInBounds_toArray, List.set_cons_zero, List.set_cons_succ])
                  refine tl_val (S := fun _ => True) (.bool false) (by rfl) hx0 (fun X hX => by first | rfl | go_simp) ?_
                  (try simp only [Act.put, List.setIfInBounds_toArray, List.set_cons_zero, List.set_cons_succ])
                  refine tl_val (S := fun _ => True) (.bool false) (by rfl) hx0 (fun X hX => by first | rfl | go_simp) ?_
                  (try simp only [Act.put, List.setIfInBounds_toArray, List.set_cons_zero, List.set_cons_succ])
                  refine wpList_nil ?_
                  clear hx0
                  go_upto_region 43 with fail
                  refine (fun (k' : ∀ W, Fr W1 D { s6 with bad := [], room := -1 } BS5 W → Code.wp _ _ _ _ W) => k' _ HF10.out) ?_
                  intro X9 hX9
                  have HBR9 := Lib.hid (hX9.at HBS5.out.2.1)
                  have HTE := Lib.hid (tells_go (h := h) (mids := mids) hX9 HIT9.out rfl HRK.out gH 64 (Nat.le_refl _) (fun s2 bs' Y hY hsub => HMB.out.src hY (fun y hy => hsub y (by simp at hy; subst hy; exact HBS5.out.2.2.1)) (fun p hp => (HFI.out p hp).1)) (m := 715 * N + 73 + 73 + 715) ⟨HL9.out.rd, HL9.out.md, HL9.out.gn, HL9.out.n, HL9.out.bl, Nat.zero_le _, by show (-1 : Int) ≤ -1 ∧ (-1 : Int) ≤ 1000; omega⟩ (by have := HLB.out.2.1; omega))
                  clear hX9 c1 f1 c4 f4 HF10 HF9
                  go_wp2_with (first | (refine wpL_val rfl (ex_ldP HRK.out HBR9.out rfl rfl) ?_) | fail)
                  refine HTE.out.mono ?_
                  rintro e X10 ⟨nv3, nb3, s10, rs10, rfl, -, hf10, -, -⟩
                  have HT10 := Lib.hid hf10.tab
                  have HB10 := Lib.hid (HB1.out.trans (hf10.bel.mono HB1.out.size))
                  have hx0 : (fun _ : World => True) X10 := trivial
                  clear hf10 HTE HBR9
                  go_upto_region 44 with fail
                  refine wp_region_list ?_
                  refine tl_val (S := fun _ => True) (.bool true) (by rfl) hx0 (fun X hX => by first | rfl | go_simp) ?_
                  (try simp only [Act.put, List.setIfInBounds_toArray, List.set_cons_zero, List.set_cons_succ])
                  refine tl_val (S := fun _ => True) (.bool true) (by rfl) hx0 (fun X hX => by first | rfl | go_simp) ?_
                  (try simp only [Act.put, List.setIfInBounds_toArray, List.set_cons_zero, List.set_cons_succ])
                  refine tl_call (by rfl) 6 #[] (by go_simp) (fun u X => u = .bool true ∧ Below w.heap.size w X) ((twakes_any _ HT10.out).mono fun e Y ⟨e1, hb⟩ => ⟨_, e1, rfl, HB10.out.trans (hb.mono HB10.out.size)⟩) ?_
                  rintro u X11 ⟨rfl, hb11⟩
                  (try simp only [Act.put, List.setIfInBounds_toArray, List.set_cons_zero, List.set_cons_succ])
                  refine tl_val (S := fun _ => True) (.bool true) (by rfl) trivial (fun X hX => by first | rfl | go_simp) ?_
                  (try simp only [Act.put, List.setIfInBounds_toArray, List.set_cons_zero, List.set_cons_succ])
                  refine tl_val (S := fun _ => True) (.bool true) (by rfl) trivial (fun X hX => by first | rfl | go_simp) ?_
                  (try simp only [Act.put, List.setIfInBounds_toArray, List.set_cons_zero, List.set_cons_succ])
                  refine wpList_nil ?_
                  have HE := Lib.hid (HP.out _ hb11)
                  go_wp2_with fail
                  first | exact HE.out | (go_ret; exact HE.out)
              · as_aux_lemma =>
                have hfA := (hfl).add (g := Y1.heap.size) (cs := pcells zeroP) (t := 37) ((Below.refl _ _).alloc (Nat.le_refl _) (.cells (pcells zeroP).toArray 37)) (Nat.le_refl _) (Blk.new Y1 (pcells zeroP) 37)
                refine wpG_mk _ rfl (by rfl) (.pointer (some ⟨Y1.heap.size, 0, none⟩)) (Y1.alloc (.cells (pcells zeroP).toArray 37)) (ex_alPt rfl) (fun X => ∃ s2, Fr W1 D s2 BS5 X) ⟨_, hfA.sub (fun y hy => by simp [hy])⟩ (fun _ h => h) ?_
                (try simp only [Act.put, List.setIfInBounds_toArray, List.set_cons_zero, List.set_cons_succ])
                have hset1 := HSETF.out ((Y1.heap.size, pcells zeroP, 37) :: (lb2 ++ BS5)) (Y1.alloc (.cells (pcells zeroP).toArray 37)) ls hll (.slice spl2 ls.length capl2) lb2 hfA hlb1 (fun y hy => by simp [hy])
                refine wpG_call _ rfl (by rfl) 8 #[shI D, .agg (pcells root).toArray, .int .u16 9, .slice spl2 ls.length capl2] (fun X => by go_simp) (fun u X => ∃ s6 p6 e6, u = .tuple #[.agg (pcells p6).toArray, .int .i64 ((e6 : Nat) : Int)] ∧ (e6 = 0 ∨ e6 = 21 ∨ e6 = 30) ∧ Pt.OK p6 ∧ (∀ (k : Nat) (b : Bs), s.blocks[k]? = some b → s6.blocks[k]? = some b) ∧ Lim (715 * N + 73 + 73 + 715) s6 ∧ Fr W1 D s6 ((Y1.heap.size, pcells zeroP, 37) :: (lb2 ++ BS5)) X) (hset1.mono fun e X ⟨s6, p6, e6, e1, a1, a2, a3, a4, a5⟩ => ⟨_, e1, ⟨s6, a5.sub (fun y hy => by simp [hy])⟩, s6, p6, e6, rfl, a1, a2, a3, a4, a5⟩) ?_
                rintro u Z1 hz1 ⟨s6, p6, e6, rfl, ha1, ha2, ha3, ha4, ha5⟩
                refine ⟨_, fun _ h => h, hz1, ?_⟩
                (try simp only [Act.put, List.setIfInBounds_toArray, List.set_cons_zero, List.set_cons_succ])
                refine wpG_take _ (.tuple #[.agg (pcells p6).toArray, .int .i64 ((e6 : Nat) : Int)]) rfl (by rfl) (fun X hX => by first | rfl | go_simp) ?_
                (try simp only [Act.put, List.setIfInBounds_toArray, List.set_cons_zero, List.set_cons_succ])
                refine wpG_take _ (.agg (pcells p6).toArray) rfl (by rfl) (fun X hX => by first | rfl | go_simp) ?_
                (try simp only [Act.put, List.setIfInBounds_toArray, List.set_cons_zero, List.set_cons_succ])
                refine wpG_take _ (.int .i64 ((e6 : Nat) : Int)) rfl (by rfl) (fun X hX => by first | rfl | go_simp) ?_
                (try simp only [Act.put, List.setIfInBounds_toArray, List.set_cons_zero, List.set_cons_succ])
                have hgA : W1.heap.size ≤ Y1.heap.size := hfl.bel.size
                have hgB : ∀ z ∈ lb2 ++ BS5, z.1 ≠ Y1.heap.size := fun z hz e => by have := (hfl.bx z hz).lt; omega
                have hfB := ha5
                have hfe : Fr W1 D s6 BS5 ((Z1).setRow Y1.heap.size (pcells p6).toArray) := (fr_row (cs' := pcells p6) hfB hgA hgB).sub (fun y hy => by simp [hy])
                refine wpG_row _ rfl (by rfl) 37 (.tmp 27) (.tmp 210) rfl Y1.heap.size (pcells p6).toArray rfl rfl (hfB.at (g := Y1.heap.size) (cs := pcells zeroP) (t := 37) (by simp)) (size_pc ha2) (by rw [List.size_toArray, pcells_length ha2, pcells_length zeroP_ok]) (one_pc p6) (fun X => ∃ s2, Fr W1 D s2 BS5 X) (fun _ h => h) ⟨_, hfe⟩ ?_
                (try simp only [Act.put, List.setIfInBounds_toArray, List.set_cons_zero, List.set_cons_succ])
                refine wpG_take _ (.int .i64 ((e6 : Nat) : Int)) rfl (by rfl) (fun X hX => by first | rfl | go_simp) ?_
                (try simp only [Act.put, List.setIfInBounds_toArray, List.set_cons_zero, List.set_cons_succ])
                refine wpG_nil ?_
                obtain ⟨Z9, hZ9⟩ : ∃ z, z = (Z1).setRow Y1.heap.size (pcells p6).toArray := ⟨_, rfl⟩
                rw [← hZ9] at hfe ⊢
                have HF9 := Lib.hid hfe
                have HIT9 : Hid (IsT s6.blocks root h mids) := Lib.hid ((by rw [← HS3F.out.1]; exact HIT3.out : IsT s.blocks root h mids).mono ha3)
                have HL9 := Lib.hid ha4
                obtain ⟨⟨u1, c1⟩, f1⟩ := hfe.stay (j := 1) (by omega)
                have hnb := fr_nobad hfe
                obtain ⟨⟨u4, c4⟩, f4⟩ := hnb.stay (j := 4) (by omega)
                have HF10 := Lib.hid (fr_room hnb (-1))
                clear hZ9 hfe ha3 ha4 ha5 hnb HF7 HF
                rcases ha1 with rfl | rfl | rfl
                · have hx0 : (fun _ : World => True) Z9 := trivial
                  go_upto_region 40 with fail
                  refine wp_region_list ?_
                  refine tl_val (S := fun _ => True) (.int .i64 0) (by rfl) hx0 (fun X hX => by first | rfl | go_simp) ?_
                  (try simp only [Act.put, List.setIfInBounds_toArray, List.set_cons_zero, List.set_cons_succ])
                  refine tl_val (S := fun _ => True) (.bool false) (by rfl) hx0 (fun X hX => by first | rfl | go_simp) ?_
                  (try simp only [Act.put, List.setIfInBounds_toArray, List.set_cons_zero, List.set_cons_succ])
                  refine tl_val (S := fun _ => True) (.bool false) (by rfl) hx0 (fun X hX => by first | rfl | go_simp) ?_
                  (try simp only [Act.put, List.setIfInBounds_toArray, List.set_cons_zero, List.set_cons_succ])
                  refine tl_skip (by rfl) ?_
                  (try simp only [Act.put, List.setIfInBounds_toArray, List.set_cons_zero, List.set_cons_succ])
                  refine tl_skip (by rfl) ?_
                  (try simp only [Act.put, List.setIfInBounds_toArray, List.set_cons_zero, List.set_cons_succ])
                  refine tl_val (S := fun _ => True) (.bool false) (by rfl) hx0 (fun X hX => by first | rfl | go_simp) ?_
                  (try simp only [Act.put, List.setIfInBounds_toArray, List.set_cons_zero, List.set_cons_succ])
                  refine tl_val (S := fun _ => True) (.bool false) (by rfl) hx0 (fun X hX => by first | rfl | go_simp) ?_
                  (try simp only [Act.put, List.setIfInBounds_toArray, List.set_cons_zero, List.set_cons_succ])
                  refine tl_skip (by rfl) ?_
                  (try simp only [Act.put, List.setIfInBounds_toArray, List.set_cons_zero, List.set_cons_succ])
                  refine tl_skip (by rfl) ?_
                  (try simp only [Act.put, List.setIfInBounds_toArray, List.set_cons_zero, List.set_cons_succ])
                  refine tl_val (S := fun _ => True) (.bool false) (by rfl) hx0 (fun X hX => by first | rfl | go_simp) ?_
                  (try simp only [Act.put, List.setIfInBounds_toArray, List.set_cons_zero, List.set_cons_succ])
                  refine wpList_nil ?_
                  clear hx0
                  go_upto_region 43 with fail
                  refine (fun (k' : ∀ W, Fr W1 D { s6 with bad := [], room := -1 } BS5 W → Code.wp _ _ _ _ W) => k' _ HF10.out) ?_
                  intro X9 hX9
                  have HBR9 := Lib.hid (hX9.at HBS5.out.2.1)
                  have HTE := Lib.hid (tells_go (h := h) (mids := mids) hX9 HIT9.out rfl HRK.out gH 64 (Nat.le_refl _) (fun s2 bs' Y hY hsub => HMB.out.src hY (fun y hy => hsub y (by simp at hy; subst hy; exact HBS5.out.2.2.1)) (fun p hp => (HFI.out p hp).1)) (m := 715 * N + 73 + 73 + 715) ⟨HL9.out.rd, HL9.out.md, HL9.out.gn, HL9.out.n, HL9.out.bl, Nat.zero_le _, by show (-1 : Int) ≤ -1 ∧ (-1 : Int) ≤ 1000; omega⟩ (by have := HLB.out.2.1; omega))
                  clear hX9 c1 f1 c4 f4 HF10 HF9
                  go_wp2_with (first | (refine wpL_val rfl (ex_ldP HRK.out HBR9.out rfl rfl) ?_) | fail)
                  refine HTE.out.mono ?_
                  rintro e X10 ⟨nv3, nb3, s10, rs10, rfl, -, hf10, -, -⟩
                  have HT10 := Lib.hid hf10.tab
                  have HB10 := Lib.hid (HB1.out.trans (hf10.bel.mono HB1.out.size))
                  have hx0 : (fun _ : World => True) X10 := trivial
                  clear hf10 HTE HBR9
                  go_upto_region 44 with fail
                  refine wp_region_list ?_
                  refine tl_val (S := fun _ => True) (.bool true) (by rfl) hx0 (fun X hX => by first | rfl | go_simp) ?_
                  (try simp only [Act.put, List.setIfInBounds_toArray, List.set_cons_zero, List.set_cons_succ])
                  refine tl_val (S := fun _ => True) (.bool true) (by rfl) hx0 (fun X hX => by first | rfl | go_simp) ?_
                  (try simp only [Act.put, List.setIfInBounds_toArray, List.set_cons_zero, List.set_cons_succ])
                  refine tl_call (by rfl) 6 #[] (by go_simp) (fun u X => u = .bool true ∧ Below w.heap.size w X) ((twakes_any _ HT10.out).mono fun e Y ⟨e1, hb⟩ => ⟨_, e1, rfl, HB10.out.trans (hb.mono HB10.out.size)⟩) ?_
                  rintro u X11 ⟨rfl, hb11⟩
                  (try simp only [Act.put, List.setIfInBounds_toArray, List.set_cons_zero, List.set_cons_succ])
                  refine tl_val (S := fun _ => True) (.bool true) (by rfl) trivial (fun X hX => by first | rfl | go_simp) ?_
                  (try simp only [Act.put, List.setIfInBounds_toArray, List.set_cons_zero, List.set_cons_succ])
                  refine tl_val (S := fun _ => True) (.bool true) (by rfl) trivial (fun X hX => by first | rfl | go_simp) ?_
                  (try simp only [Act.put, List.setIfInBounds_toArray, List.set_cons_zero, List.set_cons_succ])
                  refine wpList_nil ?_
                  have HE := Lib.hid (HP.out _ hb11)
                  go_wp2_with fail
                  first | exact HE.out | (go_ret; exact HE.out)
                · have hx0 : (fun _ : World => True) Z9 := trivial
                  go_upto_region 40 with fail
                  refine wp_region_list ?_
                  refine tl_val (S := fun _ => True) (.int .i64 21) (by rfl) hx0 (fun X hX => by first | rfl | go_simp) ?_
                  (try simp only [Act.put, List.setIfInBounds_toArray, List.set_cons_zero, List.set_cons_succ])
                  refine tl_val (S := fun _ => True) (.bool true) (by rfl) hx0 (fun X hX => by first | rfl | go_simp) ?_
                  (try simp only [Act.put, List.setIfInBounds_toArray, List.set_cons_zero, List.set_cons_succ])
                  refine tl_val (S := fun _ => True) (.bool true) (by rfl) hx0 (fun X hX => by first | rfl | go_simp) ?_
                  (try simp only [Act.put, List.setIfInBounds_toArray, List.set_cons_zero, List.set_cons_succ])
                  refine tl_val (S := fun _ => True) (.int .i64 21) (by rfl) hx0 (fun X hX => by first | rfl | go_simp) ?_
                  (try simp only [Act.put, List.setIfInBounds_toArray, List.set_cons_zero, List.set_cons_succ])
                  refine tl_val (S := fun _ => True) (.bool false) (by rfl) hx0 (fun X hX => by first | rfl | go_simp) ?_
                  (try simp only [Act.put, List.setIfInBounds_toArray, List.set_cons_zero, List.set_cons_succ])
                  refine tl_val (S := fun _ => True) (.bool false) (by rfl) hx0 (fun X hX => by first | rfl | go_simp) ?_
                  (try simp only [Act.put, List.setIfInBounds_toArray, List.set_cons_zero, List.set_cons_succ])
                  refine tl_val (S := fun _ => True) (.bool false) (by rfl) hx0 (fun X hX => by first | rfl | go_simp) ?_
                  (try simp only [Act.put, List.setIfInBounds_toArray, List.set_cons_zero, List.set_cons_succ])
                  refine tl_skip (by rfl) ?_
                  (try simp only [Act.put, List.setIfInBounds_toArray, List.set_cons_zero, List.set_cons_succ])
                  refine tl_skip (by rfl) ?_
                  (try simp only [Act.put, List.setIfInBounds_toArray, List.set_cons_zero, List.set_cons_succ])
                  refine tl_val (S := fun _ => True) (.bool false) (by rfl) hx0 (fun X hX => by first | rfl | go_simp) ?_
                  (try simp only [Act.put, List.setIfInBounds_toArray, List.set_cons_zero, List.set_cons_succ])
                  refine wpList_nil ?_
                  clear hx0
                  go_upto_region 43 with fail
                  refine (fun (k' : ∀ W, Fr W1 D { s6 with bad := [], room := -1 } BS5 W → Code.wp _ _ _ _ W) => k' _ HF10.out) ?_
                  intro X9 hX9
                  have HBR9 := Lib.hid (hX9.at HBS5.out.2.1)
                  have HTE := Lib.hid (tells_go (h := h) (mids := mids) hX9 HIT9.out rfl HRK.out gH 64 (Nat.le_refl _) (fun s2 bs' Y hY hsub => HMB.out.src hY (fun y hy => hsub y (by simp at hy; subst hy; exact HBS5.out.2.2.1)) (fun p hp => (HFI.out p hp).1)) (m := 715 * N + 73 + 73 + 715) ⟨HL9.out.rd, HL9.out.md, HL9.out.gn, HL9.out.n, HL9.out.bl, Nat.zero_le _, by show (-1 : Int) ≤ -1 ∧ (-1 : Int) ≤ 1000; omega⟩ (by have := HLB.out.2.1; omega))
                  clear hX9 c1 f1 c4 f4 HF10 HF9
                  go_wp2_with (first | (refine wpL_val rfl (ex_ldP HRK.out HBR9.out rfl rfl) ?_) | fail)
                  refine HTE.out.mono ?_
                  rintro e X10 ⟨nv3, nb3, s10, rs10, rfl, -, hf10, -, -⟩
                  have HT10 := Lib.hid hf10.tab
                  have HB10 := Lib.hid (HB1.out.trans (hf10.bel.mono HB1.out.size))
                  have hx0 : (fun _ : World => True) X10 := trivial
                  clear hf10 HTE HBR9
                  go_upto_region 44 with fail
                  refine wp_region_list ?_
                  refine tl_val (S := fun _ => True) (.bool true) (by rfl) hx0 (fun X hX => by first | rfl | go_simp) ?_
                  (try simp only [Act.put, List.setIfInBounds_toArray, List.set_cons_zero, List.set_cons_succ])
                  refine tl_val (S := fun _ => True) (.bool true) (by rfl) hx0 (fun X hX => by first | rfl | go_simp) ?_
                  (try simp only [Act.put, List.setIfInBounds_toArray, List.set_cons_zero, List.set_cons_succ])
                  refine tl_call (by rfl) 6 #[] (by go_simp) (fun u X => u = .bool true ∧ Below w.heap.size w X) ((twakes_any _ HT10.out).mono fun e Y ⟨e1, hb⟩ => ⟨_, e1, rfl, HB10.out.trans (hb.mono HB10.out.size)⟩) ?_
                  rintro u X11 ⟨rfl, hb11⟩
                  (try simp only [Act.put, List.setIfInBounds_toArray, List.set_cons_zero, List.set_cons_succ])
                  refine tl_val (S := fun _ => True) (.bool true) (by rfl) trivial (fun X hX => by first | rfl | go_simp) ?_
                  (try simp only [Act.put, List.setIfInBounds_toArray, List.set_cons_zero, List.set_cons_succ])
                  refine tl_val (S := fun _ => True) (.bool true) (by rfl) trivial (fun X hX => by first | rfl | go_simp) ?_
                  (try simp only [Act.put, List.setIfInBounds_toArray, List.set_cons_zero, List.set_cons_succ])
                  refine wpList_nil ?_
                  have HE := Lib.hid (HP.out _ hb11)
                  go_wp2_with fail
                  first | exact HE.out | (go_ret; exact HE.out)
                · have hx0 : (fun _ : World => True) Z9 := trivial
                  go_upto_region 40 with fail
                  refine wp_region_list ?_
                  refine tl_val (S := fun _ => True) (.int .i64 30) (by rfl) hx0 (fun X hX => by first | rfl | go_simp) ?_
                  (try simp only [Act.put, List.setIfInBounds_toArray, List.set_cons_zero, List.set_cons_succ])
                  refine tl_val (S := fun _ => True) (.bool true) (by rfl) hx0 (fun X hX => by first | rfl | go_simp) ?_
                  (try simp only [Act.put, List.setIfInBounds_toArray, List.set_cons_zero, List.set_cons_succ])
                  refine tl_val (S := fun _ => True) (.bool true) (by rfl) hx0 (fun X hX => by first | rfl | go_simp) ?_
                  (try simp only [Act.put, List.setIfInBounds_toArray, List.set_cons_zero, List.set_cons_succ])
                  refine tl_val (S := fun _ => True) (.int .i64 30) (by rfl) hx0 (fun X hX => by first | rfl | go_simp) ?_
                  (try simp only [Act.put, List.setIfInBounds_toArray, List.set_cons_zero, List.set_cons_succ])
                  refine tl_val (S := fun _ => True) (.bool true) (by rfl) hx0 (fun X hX => by first | rfl | go_simp) ?_
                  (try simp only [Act.put, List.setIfInBounds_toArray, List.set_cons_zero, List.set_cons_succ])
                  refine tl_val (S := fun _ => True) (.bool true) (by rfl) hx0 (fun X hX => by first | rfl | go_simp) ?_
                  (try simp only [Act.put, List.setIfInBounds_toArray, List.set_cons_zero, List.set_cons_succ])
                  refine tl_val (S := fun _ => True) (.bool true) (by rfl) hx0 (fun X hX => by first | rfl | go_simp) ?_
                  (try simp only [Act.put, List.setIfInBounds_toArray, List.set_cons_zero, List.set_cons_succ])
                  refine tl_val (S := fun _ => True) (.int .i64 30) (by rfl) hx0 (fun X hX => by first | rfl | go_simp) ?_
                  (try simp only [Act.put, List.setIfInBounds_toArray, List.set_cons_zero, List.set_cons_succ])
                  refine tl_val (S := fun _ => True) (.bool false) (by rfl) hx0 (fun X hX => by first | rfl | go_simp) ?_
                  (try simp only [Act.put, List.setIfInBounds_toArray, List.set_cons_zero, List.set_cons_succ])
                  refine tl_val (S := fun _ => True) (.bool false) (by rfl) hx0 (fun X hX => by first | rfl | go_simp) ?_
                  (try simp only [Act.put, List.setIfInBounds_toArray, List.set_cons_zero, List.set_cons_succ])
                  refine wpList_nil ?_
                  clear hx0
                  go_upto_region 43 with fail
                  refine (fun (k' : ∀ W, Fr W1 D { s6 with bad := [], room := -1 } BS5 W → Code.wp _ _ _ _ W) => k' _ HF10.out) ?_
                  intro X9 hX9
                  have HBR9 := Lib.hid (hX9.at HBS5.out.2.1)
                  have HTE := Lib.hid (tells_go (h := h) (mids := mids) hX9 HIT9.out rfl HRK.out gH 64 (Nat.le_refl _) (fun s2 bs' Y hY hsub => HMB.out.src hY (fun y hy => hsub y (by simp at hy; subst hy; exact HBS5.out.2.2.1)) (fun p hp => (HFI.out p hp).1)) (m := 715 * N + 73 + 73 + 715) ⟨HL9.out.rd, HL9.out.md, HL9.out.gn, HL9.out.n, HL9.out.bl, Nat.zero_le _, by show (-1 : Int) ≤ -1 ∧ (-1 : Int) ≤ 1000; omega⟩ (by have := HLB.out.2.1; omega))
                  clear hX9 c1 f1 c4 f4 HF10 HF9
                  go_wp2_with (first | (refine wpL_val rfl (ex_ldP HRK.out HBR9.out rfl rfl) ?_) | fail)
                  refine HTE.out.mono ?_
                  rintro e X10 ⟨nv3, nb3, s10, rs10, rfl, -, hf10, -, -⟩
                  have HT10 := Lib.hid hf10.tab
                  have HB10 := Lib.hid (HB1.out.trans (hf10.bel.mono HB1.out.size))
                  have hx0 : (fun _ : World => True) X10 := trivial
                  clear hf10 HTE HBR9
                  go_upto_region 44 with fail
                  refine wp_region_list ?_
                  refine tl_val (S := fun _ => True) (.bool true) (by rfl) hx0 (fun X hX => by first | rfl | go_simp) ?_
                  (try simp only [Act.put, List.setIfInBounds_toArray, List.set_cons_zero, List.set_cons_succ])
                  refine tl_val (S := fun _ => True) (.bool true) (by rfl) hx0 (fun X hX => by first | rfl | go_simp) ?_
                  (try simp only [Act.put, List.setIfInBounds_toArray, List.set_cons_zero, List.set_cons_succ])
                  refine tl_call (by rfl) 6 #[] (by go_simp) (fun u X => u = .bool true ∧ Below w.heap.size w X) ((twakes_any _ HT10.out).mono fun e Y ⟨e1, hb⟩ => ⟨_, e1, rfl, HB10.out.trans (hb.mono HB10.out.size)⟩) ?_
                  rintro u X11 ⟨rfl, hb11⟩
                  (try simp only [Act.put, List.setIfInBounds_toArray, List.set_cons_zero, List.set_cons_succ])
                  refine tl_val (S := fun _ => True) (.bool true) (by rfl) trivial (fun X hX => by first | rfl | go_simp) ?_
                  (try simp only [Act.put, List.setIfInBounds_toArray, List.set_cons_zero, List.set_cons_succ])
                  refine tl_val (S := fun _ => True) (.bool true) (by rfl) trivial (fun X hX => by first | rfl | go_simp) ?_
                  (try simp only [Act.put, List.setIfInBounds_toArray, List.set_cons_zero, List.set_cons_succ])
                  refine wpList_nil ?_
                  have HE := Lib.hid (HP.out _ hb11)
                  go_wp2_with fail
                  first | exact HE.out | (go_ret; exact HE.out)
            · as_aux_lemma =>
              have hfA := (HF7.out.drew).add (g := X7.drew.heap.size) (cs := pcells zeroP) (t := 37) ((Below.refl _ _).alloc (Nat.le_refl _) (.cells (pcells zeroP).toArray 37)) (Nat.le_refl _) (Blk.new X7.drew (pcells zeroP) 37)
              refine wpG_mk _ rfl (by rfl) (.pointer (some ⟨X7.drew.heap.size, 0, none⟩)) (X7.drew.alloc (.cells (pcells zeroP).toArray 37)) (ex_alPt rfl) (fun X => ∃ s2, Fr W1 D s2 BS5 X) ⟨_, hfA.sub (fun y hy => by simp [hy])⟩ (fun _ h => h) ?_
              (try simp only [Act.put, List.setIfInBounds_toArray, List.set_cons_zero, List.set_cons_succ])
              refine wpG_call _ rfl (by rfl) 7 #[.agg lc.toArray, .int .i64 99, .slice (some ⟨gH, 0, none⟩) 64 64] (fun X => by go_simp) (fun u X => LvPost (X7.drew.alloc (.cells (pcells zeroP).toArray 37)) 99 h (.returned u) X) ((HLV.out (X7.drew.alloc (.cells (pcells zeroP).toArray 37)) hfA (by simp [HBS5.out.2.2.1])).mono fun e X he => by
                obtain ⟨ov, ls, e1, h2, h3, h4⟩ := he
                exact ⟨_, e1, ⟨_, ((hfA).below h2).sub (fun y hy => by simp [hy])⟩, ov, ls, rfl, h2, h3, h4⟩) ?_
              rintro u Y1 hy1 ⟨ov, ls, e3, hbl, hol, hll⟩
              injection e3 with e4
              subst e4
              obtain ⟨lb2, hlb1, hlb2⟩ := RowB.of hol
              obtain ⟨spl2, capl2, rfl⟩ := hlb1.form
              have hfl := fr_add (hfA) hbl (fun y hy => ⟨(hlb2 y hy).1, (hol.lt _ (hlb2 y hy).2).1⟩)
              refine ⟨_, fun _ h => h, hy1, ?_⟩
              (try simp only [Act.put, List.setIfInBounds_toArray, List.set_cons_zero, List.set_cons_succ])
              have hset1 := HSETF.out (lb2 ++ ((X7.drew.heap.size, pcells zeroP, 37) :: BS5)) Y1 ls hll (.slice spl2 ls.length capl2) lb2 hfl hlb1 (fun y hy => by simp [hy])
              refine wpG_call _ rfl (by rfl) 8 #[shI D, .agg (pcells root).toArray, .int .u16 9, .slice spl2 ls.length capl2] (fun X => by go_simp) (fun u X => ∃ s6 p6 e6, u = .tuple #[.agg (pcells p6).toArray, .int .i64 ((e6 : Nat) : Int)] ∧ (e6 = 0 ∨ e6 = 21 ∨ e6 = 30) ∧ Pt.OK p6 ∧ (∀ (k : Nat) (b : Bs), s.blocks[k]? = some b → s6.blocks[k]? = some b) ∧ Lim (715 * N + 73 + 73 + 715) s6 ∧ Fr W1 D s6 (lb2 ++ ((X7.drew.heap.size, pcells zeroP, 37) :: BS5)) X) (hset1.mono fun e X ⟨s6, p6, e6, e1, a1, a2, a3, a4, a5⟩ => ⟨_, e1, ⟨s6, a5.sub (fun y hy => by simp [hy])⟩, s6, p6, e6, rfl, a1, a2, a3, a4, a5⟩) ?_
              rintro u Z1 hz1 ⟨s6, p6, e6, rfl, ha1, ha2, ha3, ha4, ha5⟩
              refine ⟨_, fun _ h => h, hz1, ?_⟩
              (try simp only [Act.put, List.setIfInBounds_toArray, List.set_cons_zero, List.set_cons_succ])
              refine wpG_take _ (.tuple #[.agg (pcells p6).toArray, .int .i64 ((e6 : Nat) : Int)]) rfl (by rfl) (fun X hX => by first | rfl | go_simp) ?_
              (try simp only [Act.put, List.setIfInBounds_toArray, List.set_cons_zero, List.set_cons_succ])
              refine wpG_take _ (.agg (pcells p6).toArray) rfl (by rfl) (fun X hX => by first | rfl | go_simp) ?_
              (try simp only [Act.put, List.setIfInBounds_toArray, List.set_cons_zero, List.set_cons_succ])
              refine wpG_take _ (.int .i64 ((e6 : Nat) : Int)) rfl (by rfl) (fun X hX => by first | rfl | go_simp) ?_
              (try simp only [Act.put, List.setIfInBounds_toArray, List.set_cons_zero, List.set_cons_succ])
              have hgA : W1.heap.size ≤ X7.drew.heap.size := (HF7.out.drew).bel.size
              have hgB : ∀ z ∈ lb2 ++ BS5, z.1 ≠ X7.drew.heap.size := fun z hz e => by
                rcases List.mem_append.1 hz with h | h
                · have h1 := (hol.lt _ (hlb2 z h).2).1
                  have h2 : (X7.drew.alloc (.cells (pcells zeroP).toArray 37)).heap.size = X7.drew.heap.size + 1 := Array.size_push _
                  omega
                · have := ((HF7.out.drew).bx z h).lt
                  omega
              have hfB := (ha5.sub (bs' := (X7.drew.heap.size, pcells zeroP, 37) :: (lb2 ++ BS5)) (fun y hy => by simp only [List.mem_cons, List.mem_append] at hy ⊢; rcases hy with h | h | h <;> simp [h]))
              have hfe : Fr W1 D s6 BS5 ((Z1).setRow X7.drew.heap.size (pcells p6).toArray) := (fr_row (cs' := pcells p6) hfB hgA hgB).sub (fun y hy => by simp [hy])
              refine wpG_row _ rfl (by rfl) 37 (.tmp 27) (.tmp 210) rfl X7.drew.heap.size (pcells p6).toArray rfl rfl (hfB.at (g := X7.drew.heap.size) (cs := pcells zeroP) (t := 37) (by simp)) (size_pc ha2) (by rw [List.size_toArray, pcells_length ha2, pcells_length zeroP_ok]) (one_pc p6) (fun X => ∃ s2, Fr W1 D s2 BS5 X) (fun _ h => h) ⟨_, hfe⟩ ?_
              (try simp only [Act.put, List.setIfInBounds_toArray, List.set_cons_zero, List.set_cons_succ])
              refine wpG_take _ (.int .i64 ((e6 : Nat) : Int)) rfl (by rfl) (fun X hX => by first | rfl | go_simp) ?_
              (try simp only [Act.put, List.setIfInBounds_toArray, List.set_cons_zero, List.set_cons_succ])
              refine wpG_nil ?_
              obtain ⟨Z9, hZ9⟩ : ∃ z, z = (Z1).setRow X7.drew.heap.size (pcells p6).toArray := ⟨_, rfl⟩
              rw [← hZ9] at hfe ⊢
              have HF9 := Lib.hid hfe
              have HIT9 : Hid (IsT s6.blocks root h mids) := Lib.hid ((by rw [← HS3F.out.1]; exact HIT3.out : IsT s.blocks root h mids).mono ha3)
              have HL9 := Lib.hid ha4
              obtain ⟨⟨u1, c1⟩, f1⟩ := hfe.stay (j := 1) (by omega)
              have hnb := fr_nobad hfe
              obtain ⟨⟨u4, c4⟩, f4⟩ := hnb.stay (j := 4) (by omega)
              have HF10 := Lib.hid (fr_room hnb (-1))
              clear hZ9 hfe ha3 ha4 ha5 hnb HF7 HF
              rcases ha1 with rfl | rfl | rfl
              · have hx0 : (fun _ : World => True) Z9 := trivial
                go_upto_region 40 with fail
                refine wp_region_list ?_
                refine tl_val (S := fun _ => True) (.int .i64 0) (by rfl) hx0 (fun X hX => by first | rfl | go_simp) ?_
                (try simp only [Act.put, List.setIfInBounds_toArray, List.set_cons_zero, List.set_cons_succ])
                refine tl_val (S := fun _ => True) (.bool false) (by rfl) hx0 (fun X hX => by first | rfl | go_simp) ?_
                (try simp only [Act.put, List.setIfInBounds_toArray, List.set_cons_zero, List.set_cons_succ])
                refine tl_val (S := fun _ => True) (.bool false) (by rfl) hx0 (fun X hX => by first | rfl | go_simp) ?_
                (try simp only [Act.put, List.setIfInBounds_toArray, List.set_cons_zero, List.set_cons_succ])
                refine tl_skip (by rfl) ?_
                (try simp only [Act.put, List.setIfInBounds_toArray, List.set_cons_zero, List.set_cons_succ])
                refine tl_skip (by rfl) ?_
                (try simp only [Act.put, List.setIfInBounds_toArray, List.set_cons_zero, List.set_cons_succ])
                refine tl_val (S := fun _ => True) (.bool false) (by rfl) hx0 (fun X hX => by first | rfl | go_simp) ?_
                (try simp only [Act.put, List.setIfInBounds_toArray, List.set_cons_zero, List.set_cons_succ])
                refine tl_val (S := fun _ => True) (.bool false) (by rfl) hx0 (fun X hX => by first | rfl | go_simp) ?_
                (try simp only [Act.put, List.setIfInBounds_toArray, List.set_cons_zero, List.set_cons_succ])
                refine tl_skip (by rfl) ?_
                (try simp only [Act.put, List.setIfInBounds_toArray, List.set_cons_zero, List.set_cons_succ])
                refine tl_skip (by rfl) ?_
                (try simp only [Act.put, List.setIfInBounds_toArray, List.set_cons_zero, List.set_cons_succ])
                refine tl_val (S := fun _ => True) (.bool false) (by rfl) hx0 (fun X hX => by first | rfl | go_simp) ?_
                (try simp only [Act.put, List.setIfInBounds_toArray, List.set_cons_zero, List.set_cons_succ])
                refine wpList_nil ?_
                clear hx0
                go_upto_region 43 with fail
                refine (fun (k' : ∀ W, Fr W1 D { s6 with bad := [], room := -1 } BS5 W → Code.wp _ _ _ _ W) => k' _ HF10.out) ?_
                intro X9 hX9
                have HBR9 := Lib.hid (hX9.at HBS5.out.2.1)
                have HTE := Lib.hid (tells_go (h := h) (mids := mids) hX9 HIT9.out rfl HRK.out gH 64 (Nat.le_refl _) (fun s2 bs' Y hY hsub => HMB.out.src hY (fun y hy => hsub y (by simp at hy; subst hy; exact HBS5.out.2.2.1)) (fun p hp => (HFI.out p hp).1)) (m := 715 * N + 73 + 73 + 715) ⟨HL9.out.rd, HL9.out.md, HL9.out.gn, HL9.out.n, HL9.out.bl, Nat.zero_le _, by show (-1 : Int) ≤ -1 ∧ (-1 : Int) ≤ 1000; omega⟩ (by have := HLB.out.2.1; omega))
                clear hX9 c1 f1 c4 f4 HF10 HF9
                go_wp2_with (first | (refine wpL_val rfl (ex_ldP HRK.out HBR9.out rfl rfl) ?_) | fail)
                refine HTE.out.mono ?_
                rintro e X10 ⟨nv3, nb3, s10, rs10, rfl, -, hf10, -, -⟩
                have HT10 := Lib.hid hf10.tab
                have HB10 := Lib.hid (HB1.out.trans (hf10.bel.mono HB1.out.size))
                have hx0 : (fun _ : World => True) X10 := trivial
                clear hf10 HTE HBR9
                go_upto_region 44 with fail
                refine wp_region_list ?_
                refine tl_val (S := fun _ => True) (.bool true) (by rfl) hx0 (fun X hX => by first | rfl | go_simp) ?_
                (try simp only [Act.put, List.setIfInBounds_toArray, List.set_cons_zero, List.set_cons_succ])
                refine tl_val (S := fun _ => True) (.bool true) (by rfl) hx0 (fun X hX => by first | rfl | go_simp) ?_
                (try simp only [Act.put, List.setIfInBounds_toArray, List.set_cons_zero, List.set_cons_succ])
                refine tl_call (by rfl) 6 #[] (by go_simp) (fun u X => u = .bool true ∧ Below w.heap.size w X) ((twakes_any _ HT10.out).mono fun e Y ⟨e1, hb⟩ => ⟨_, e1, rfl, HB10.out.trans (hb.mono HB10.out.size)⟩) ?_
                rintro u X11 ⟨rfl, hb11⟩
                (try simp only [Act.put, List.setIfInBounds_toArray, List.set_cons_zero, List.set_cons_succ])
                refine tl_val (S := fun _ => True) (.bool true) (by rfl) trivial (fun X hX => by first | rfl | go_simp) ?_
                (try simp only [Act.put, List.setIfInBounds_toArray, List.set_cons_zero, List.set_cons_succ])
                refine tl_val (S := fun _ => True) (.bool true) (by rfl) trivial (fun X hX => by first | rfl | go_simp) ?_
                (try simp only [Act.put, List.setIfInBounds_toArray, List.set_cons_zero, List.set_cons_succ])
                refine wpList_nil ?_
                have HE := Lib.hid (HP.out _ hb11)
                go_wp2_with fail
                first | exact HE.out | (go_ret; exact HE.out)
              · have hx0 : (fun _ : World => True) Z9 := trivial
                go_upto_region 40 with fail
                refine wp_region_list ?_
                refine tl_val (S := fun _ => True) (.int .i64 21) (by rfl) hx0 (fun X hX => by first | rfl | go_simp) ?_
                (try simp only [Act.put, List.setIfInBounds_toArray, List.set_cons_zero, List.set_cons_succ])
                refine tl_val (S := fun _ => True) (.bool true) (by rfl) hx0 (fun X hX => by first | rfl | go_simp) ?_
                (try simp only [Act.put, List.setIfInBounds_toArray, List.set_cons_zero, List.set_cons_succ])
                refine tl_val (S := fun _ => True) (.bool true) (by rfl) hx0 (fun X hX => by first | rfl | go_simp) ?_
                (try simp only [Act.put, List.setIfInBounds_toArray, List.set_cons_zero, List.set_cons_succ])
                refine tl_val (S := fun _ => True) (.int .i64 21) (by rfl) hx0 (fun X hX => by first | rfl | go_simp) ?_
                (try simp only [Act.put, List.setIfInBounds_toArray, List.set_cons_zero, List.set_cons_succ])
                refine tl_val (S := fun _ => True) (.bool false) (by rfl) hx0 (fun X hX => by first | rfl | go_simp) ?_
                (try simp only [Act.put, List.setIfInBounds_toArray, List.set_cons_zero, List.set_cons_succ])
                refine tl_val (S := fun _ => True) (.bool false) (by rfl) hx0 (fun X hX => by first | rfl | go_simp) ?_
                (try simp only [Act.put, List.setIfInBounds_toArray, List.set_cons_zero, List.set_cons_succ])
                refine tl_val (S := fun _ => True) (.bool false) (by rfl) hx0 (fun X hX => by first | rfl | go_simp) ?_
                (try simp only [Act.put, List.setIfInBounds_toArray, List.set_cons_zero, List.set_cons_succ])
                refine tl_skip (by rfl) ?_
                (try simp only [Act.put, List.setIfInBounds_toArray, List.set_cons_zero, List.set_cons_succ])
                refine tl_skip (by rfl) ?_
                (try simp only [Act.put, List.setIfInBounds_toArray, List.set_cons_zero, List.set_cons_succ])
                refine tl_val (S := fun _ => True) (.bool false) (by rfl) hx0 (fun X hX => by first | rfl | go_simp) ?_
                (try simp only [Act.put, List.setIfInBounds_toArray, List.set_cons_zero, List.set_cons_succ])
                refine wpList_nil ?_
                clear hx0
                go_upto_region 43 with fail
                refine (fun (k' : ∀ W, Fr W1 D { s6 with bad := [], room := -1 } BS5 W → Code.wp _ _ _ _ W) => k' _ HF10.out) ?_
                intro X9 hX9
                have HBR9 := Lib.hid (hX9.at HBS5.out.2.1)
                have HTE := Lib.hid (tells_go (h := h) (mids := mids) hX9 HIT9.out rfl HRK.out gH 64 (Nat.le_refl _) (fun s2 bs' Y hY hsub => HMB.out.src hY (fun y hy => hsub y (by simp at hy; subst hy; exact HBS5.out.2.2.1)) (fun p hp => (HFI.out p hp).1)) (m := 715 * N + 73 + 73 + 715) ⟨HL9.out.rd, HL9.out.md, HL9.out.gn, HL9.out.n, HL9.out.bl, Nat.zero_le _, by show (-1 : Int) ≤ -1 ∧ (-1 : Int) ≤ 1000; omega⟩ (by have := HLB.out.2.1; omega))
                clear hX9 c1 f1 c4 f4 HF10 HF9
                go_wp2_with (first | (refine wpL_val rfl (ex_ldP HRK.out HBR9.out rfl rfl) ?_) | fail)
                refine HTE.out.mono ?_
                rintro e X10 ⟨nv3, nb3, s10, rs10, rfl, -, hf10, -, -⟩
                have HT10 := Lib.hid hf10.tab
                have HB10 := Lib.hid (HB1.out.trans (hf10.bel.mono HB1.out.size))
                have hx0 : (fun _ : World => True) X10 := trivial
                clear hf10 HTE HBR9
                go_upto_region 44 with fail
                refine wp_region_list ?_
                refine tl_val (S := fun _ => True) (.bool true) (by rfl) hx0 (fun X hX => by first | rfl | go_simp) ?_
                (try simp only [Act.put, List.setIfInBounds_toArray, List.set_cons_zero, List.set_cons_succ])
                refine tl_val (S := fun _ => True) (.bool true) (by rfl) hx0 (fun X hX => by first | rfl | go_simp) ?_
                (try simp only [Act.put, List.setIfInBounds_toArray, List.set_cons_zero, List.set_cons_succ])
                refine tl_call (by rfl) 6 #[] (by go_simp) (fun u X => u = .bool true ∧ Below w.heap.size w X) ((twakes_any _ HT10.out).mono fun e Y ⟨e1, hb⟩ => ⟨_, e1, rfl, HB10.out.trans (hb.mono HB10.out.size)⟩) ?_
                rintro u X11 ⟨rfl, hb11⟩
                (try simp only [Act.put, List.setIfInBounds_toArray, List.set_cons_zero, List.set_cons_succ])
                refine tl_val (S := fun _ => True) (.bool true) (by rfl) trivial (fun X hX => by first | rfl | go_simp) ?_
                (try simp only [Act.put, List.setIfInBounds_toArray, List.set_cons_zero, List.set_cons_succ])
                refine tl_val (S := fun _ => True) (.bool true) (by rfl) trivial (fun X hX => by first | rfl | go_simp) ?_
                (try simp only [Act.put, List.setIfInBounds_toArray, List.set_cons_zero, List.set_cons_succ])
                refine wpList_nil ?_
                have HE := Lib.hid (HP.out _ hb11)
                go_wp2_with fail
                first | exact HE.out | (go_ret; exact HE.out)
              · have hx0 : (fun _ : World => True) Z9 := trivial
                go_upto_region 40 with fail
                refine wp_region_list ?_
                refine tl_val (S := fun _ => True) (.int .i64 30) (by rfl) hx0 (fun X hX => by first | rfl | go_simp) ?_
                (try simp only [Act.put, List.setIfInBounds_toArray, List.set_cons_zero, List.set_cons_succ])
                refine tl_val (S := fun _ => True) (.bool true) (by rfl) hx0 (fun X hX => by first | rfl | go_simp) ?_
                (try simp only [Act.put, List.setIfInBounds_toArray, List.set_cons_zero, List.set_cons_succ])
                refine tl_val (S := fun _ => True) (.bool true) (by rfl) hx0 (fun X hX => by first | rfl | go_simp) ?_
                (try simp only [Act.put, List.setIfInBounds_toArray, List.set_cons_zero, List.set_cons_succ])
                refine tl_val (S := fun _ => True) (.int .i64 30) (by rfl) hx0 (fun X hX => by first | rfl | go_simp) ?_
                (try simp only [Act.put, List.setIfInBounds_toArray, List.set_cons_zero, List.set_cons_succ])
                refine tl_val (S := fun _ => True) (.bool true) (by rfl) hx0 (fun X hX => by first | rfl | go_simp) ?_
                (try simp only [Act.put, List.setIfInBounds_toArray, List.set_cons_zero, List.set_cons_succ])
                refine tl_val (S := fun _ => True) (.bool true) (by rfl) hx0 (fun X hX => by first | rfl | go_simp) ?_
                (try simp only [Act.put, List.setIfInBounds_toArray, List.set_cons_zero, List.set_cons_succ])
                refine tl_val (S := fun _ => True) (.bool true) (by rfl) hx0 (fun X hX => by first | rfl | go_simp) ?_
                (try simp only [Act.put, List.setIfInBounds_toArray, List.set_cons_zero, List.set_cons_succ])
                refine tl_val (S := fun _ => True) (.int .i64 30) (by rfl) hx0 (fun X hX => by first | rfl | go_simp) ?_
                (try simp only [Act.put, List.setIfInBounds_toArray, List.set_cons_zero, List.set_cons_succ])
                refine tl_val (S := fun _ => True) (.bool false) (by rfl) hx0 (fun X hX => by first | rfl | go_simp) ?_
                (try simp only [Act.put, List.setIfInBounds_toArray, List.set_cons_zero, List.set_cons_succ])
                refine tl_val (S := fun _ => True) (.bool false) (by rfl) hx0 (fun X hX => by first | rfl | go_simp) ?_
                (try simp only [Act.put, List.setIfInBounds_toArray, List.set_cons_zero, List.set_cons_succ])
                refine wpList_nil ?_
                clear hx0
                go_upto_region 43 with fail
                refine (fun (k' : ∀ W, Fr W1 D { s6 with bad := [], room := -1 } BS5 W → Code.wp _ _ _ _ W) => k' _ HF10.out) ?_
                intro X9 hX9
                have HBR9 := Lib.hid (hX9.at HBS5.out.2.1)
                have HTE := Lib.hid (tells_go (h := h) (mids := mids) hX9 HIT9.out rfl HRK.out gH 64 (Nat.le_refl _) (fun s2 bs' Y hY hsub => HMB.out.src hY (fun y hy => hsub y (by simp at hy; subst hy; exact HBS5.out.2.2.1)) (fun p hp => (HFI.out p hp).1)) (m := 715 * N + 73 + 73 + 715) ⟨HL9.out.rd, HL9.out.md, HL9.out.gn, HL9.out.n, HL9.out.bl, Nat.zero_le _, by show (-1 : Int) ≤ -1 ∧ (-1 : Int) ≤ 1000; omega⟩ (by have := HLB.out.2.1; omega))
                clear hX9 c1 f1 c4 f4 HF10 HF9
                go_wp2_with (first | (refine wpL_val rfl (ex_ldP HRK.out HBR9.out rfl rfl) ?_) | fail)
                refine HTE.out.mono ?_
                rintro e X10 ⟨nv3, nb3, s10, rs10, rfl, -, hf10, -, -⟩
                have HT10 := Lib.hid hf10.tab
                have HB10 := Lib.hid (HB1.out.trans (hf10.bel.mono HB1.out.size))
                have hx0 : (fun _ : World => True) X10 := trivial
                clear hf10 HTE HBR9
                go_upto_region 44 with fail
                refine wp_region_list ?_
                refine tl_val (S := fun _ => True) (.bool true) (by rfl) hx0 (fun X hX => by first | rfl | go_simp) ?_
                (try simp only [Act.put, List.setIfInBounds_toArray, List.set_cons_zero, List.set_cons_succ])
                refine tl_val (S := fun _ => True) (.bool true) (by rfl) hx0 (fun X hX => by first | rfl | go_simp) ?_
                (try simp only [Act.put, List.setIfInBounds_toArray, List.set_cons_zero, List.set_cons_succ])
                refine tl_call (by rfl) 6 #[] (by go_simp) (fun u X => u = .bool true ∧ Below w.heap.size w X) ((twakes_any _ HT10.out).mono fun e Y ⟨e1, hb⟩ => ⟨_, e1, rfl, HB10.out.trans (hb.mono HB10.out.size)⟩) ?_
                rintro u X11 ⟨rfl, hb11⟩
                (try simp only [Act.put, List.setIfInBounds_toArray, List.set_cons_zero, List.set_cons_succ])
                refine tl_val (S := fun _ => True) (.bool true) (by rfl) trivial (fun X hX => by first | rfl | go_simp) ?_
                (try simp only [Act.put, List.setIfInBounds_toArray, List.set_cons_zero, List.set_cons_succ])
                refine tl_val (S := fun _ => True) (.bool true) (by rfl) trivial (fun X hX => by first | rfl | go_simp) ?_
                (try simp only [Act.put, List.setIfInBounds_toArray, List.set_cons_zero, List.set_cons_succ])
                refine wpList_nil ?_
                have HE := Lib.hid (HP.out _ hb11)
                go_wp2_with fail
                first | exact HE.out | (go_ret; exact HE.out)
          · subst ha he
            have HB22 : Hid (Blk wr.drew g22 (pcells p3) 37) := Lib.hid (HF.out.drew.at HBS5.out.2.2.2.1)
            have HEQ : Hid (eqP p3 zeroP = true) := Lib.hid (by rw [hp]; exact eqP_same _)
            clear hp
            go_upto_region 36 with fail
            refine wp_region_sched (.take 0 (.take 1 (.take 2 (.take 3 (.take 4 (.take 5 (.take 6 (.take 7 (.take 8 (.take 9 (.take 10 (.take 11 (.take 12 (.take 13 (.take 14 (.take 15 (.take 16 (.take 17 (.take 18 (.take 19 (.take 20 (.take 21 (.take 22 (.take 23 (.take 24 (.take 25 (.take 26 (.take 27 (.nil))))))))))))))))))))))))))))) (by kernel_rfl) (by kernel_rfl) (fun d _ _ _ _ h => by cases d <;> exact h) (fun X => X = wr.drew) (rfl) ?_
            refine wpG_take _ (.bool true) rfl (by rfl) (fun X hX => by first | rfl | go_simp) ?_
            (try simp only [Act.put, List.setIfInBounds_toArray, List.set_cons_zero, List.set_cons_succ])
            refine wpG_take _ (.int .i64 21) rfl (by rfl) (fun X hX => by first | rfl | go_simp) ?_
            (try simp only [Act.put, List.setIfInBounds_toArray, List.set_cons_zero, List.set_cons_succ])
            refine wpG_take _ (.bool true) rfl (by rfl) (fun X hX => by first | rfl | go_simp) ?_
            (try simp only [Act.put, List.setIfInBounds_toArray, List.set_cons_zero, List.set_cons_succ])
            refine wpG_take _ (.bool false) rfl (by rfl) (fun X hX => by first | rfl | go_simp) ?_
            (try simp only [Act.put, List.setIfInBounds_toArray, List.set_cons_zero, List.set_cons_succ])
            refine wpG_take _ (.bool false) rfl (by rfl) (fun X hX => by first | rfl | go_simp) ?_
            (try simp only [Act.put, List.setIfInBounds_toArray, List.set_cons_zero, List.set_cons_succ])
            refine wpG_take _ (.bool true) rfl (by rfl) (fun X hX => by first | rfl | go_simp) ?_
            (try simp only [Act.put, List.setIfInBounds_toArray, List.set_cons_zero, List.set_cons_succ])
            refine wpG_take _ (.bool false) rfl (by rfl) (fun X hX => by first | rfl | go_simp) ?_
            (try simp only [Act.put, List.setIfInBounds_toArray, List.set_cons_zero, List.set_cons_succ])
            refine wpG_take _ (.bool false) rfl (by rfl) (fun X hX => by first | rfl | go_simp) ?_
            (try simp only [Act.put, List.setIfInBounds_toArray, List.set_cons_zero, List.set_cons_succ])
            refine wpG_pass _ rfl (by rfl) ?_
            (try simp only [Act.put, List.setIfInBounds_toArray, List.set_cons_zero, List.set_cons_succ])
            refine wpG_pass _ rfl (by rfl) ?_
            (try simp only [Act.put, List.setIfInBounds_toArray, List.set_cons_zero, List.set_cons_succ])
            refine wpG_pass _ rfl (by rfl) ?_
            (try simp only [Act.put, List.setIfInBounds_toArray, List.set_cons_zero, List.set_cons_succ])
            refine wpG_pass _ rfl (by rfl) ?_
            (try simp only [Act.put, List.setIfInBounds_toArray, List.set_cons_zero, List.set_cons_succ])
            refine wpG_pass _ rfl (by rfl) ?_
            (try simp only [Act.put, List.setIfInBounds_toArray, List.set_cons_zero, List.set_cons_succ])
            refine wpG_pass _ rfl (by rfl) ?_
            (try simp only [Act.put, List.setIfInBounds_toArray, List.set_cons_zero, List.set_cons_succ])
            refine wpG_pass _ rfl (by rfl) ?_
            (try simp only [Act.put, List.setIfInBounds_toArray, List.set_cons_zero, List.set_cons_succ])
            refine wpG_pass _ rfl (by rfl) ?_
            (try simp only [Act.put, List.setIfInBounds_toArray, List.set_cons_zero, List.set_cons_succ])
            refine wpG_pass _ rfl (by rfl) ?_
            (try simp only [Act.put, List.setIfInBounds_toArray, List.set_cons_zero, List.set_cons_succ])
            refine wpG_pass _ rfl (by rfl) ?_
            (try simp only [Act.put, List.setIfInBounds_toArray, List.set_cons_zero, List.set_cons_succ])
            refine wpG_take _ (.bool false) rfl (by rfl) (fun X hX => by first | rfl | go_simp) ?_
            (try simp only [Act.put, List.setIfInBounds_toArray, List.set_cons_zero, List.set_cons_succ])
            refine wpG_take _ (.bool false) rfl (by rfl) (fun X hX => by first | rfl | go_simp) ?_
            (try simp only [Act.put, List.setIfInBounds_toArray, List.set_cons_zero, List.set_cons_succ])
            refine wpG_take _ (.bool false) rfl (by rfl) (fun X hX => by first | rfl | go_simp) ?_
            (try simp only [Act.put, List.setIfInBounds_toArray, List.set_cons_zero, List.set_cons_succ])
            refine wpG_take _ (.bool true) rfl (by rfl) (fun X hX => by first | rfl | go_simp) ?_
            (try simp only [Act.put, List.setIfInBounds_toArray, List.set_cons_zero, List.set_cons_succ])
            refine wpG_take _ (.bool true) rfl (by rfl) (fun X hX => by first | rfl | go_simp) ?_
            (try simp only [Act.put, List.setIfInBounds_toArray, List.set_cons_zero, List.set_cons_succ])
            refine wpG_take _ (.agg (pcells p3).toArray) rfl (by rfl) (fun X hX => ex_ldP (t' := 37) HP3.out (by rw [hX]; exact HB22.out) rfl rfl) ?_
            (try simp only [Act.put, List.setIfInBounds_toArray, List.set_cons_zero, List.set_cons_succ])
            refine wpG_take _ (.agg (pcells zeroP).toArray) rfl (by rfl) (fun X hX => ex_bld0 rfl) ?_
            (try simp only [Act.put, List.setIfInBounds_toArray, List.set_cons_zero, List.set_cons_succ])
            refine wpG_take _ (.bool false) rfl (by rfl) (fun X hX => (ex_neP rfl rfl rfl HP3.out zeroP_ok).trans (by rw [HEQ.out]; rfl)) ?_
            (try simp only [Act.put, List.setIfInBounds_toArray, List.set_cons_zero, List.set_cons_succ])
            refine wpG_take _ (.bool false) rfl (by rfl) (fun X hX => by first | rfl | go_simp) ?_
            (try simp only [Act.put, List.setIfInBounds_toArray, List.set_cons_zero, List.set_cons_succ])
            refine wpG_take _ (.bool false) rfl (by rfl) (fun X hX => by first | rfl | go_simp) ?_
            (try simp only [Act.put, List.setIfInBounds_toArray, List.set_cons_zero, List.set_cons_succ])
            refine wpG_nil ?_
            have hfd := HF.out.drew
            obtain ⟨⟨u4, c4⟩, f4⟩ := hfd.stay (j := 4) (by omega)
            have HFR := Lib.hid (fr_room hfd (room : Int))
            have wkr := IntWalk.i64_in (room : Int) (by have := HRO.out; omega)
            clear hfd
            go_upto_region 39 with fail
            refine (fun (k' : ∀ W, Fr W1 D { s3 with room := (room : Int) } BS5 W → Code.wp _ _ _ _ W) => k' _ HFR.out) ?_
            intro X7 hX7
            have HF7 := Lib.hid hX7
            clear hX7 c4 f4 c5 HFR HB22 HEQ
            have HLV : Hid (∀ (Y : World) {s' : Sh} {bs : Bxs}, Fr W1 D s' bs Y → (gH, cs, 37) ∈ bs → Calls Tryd.prog 7 #[.agg lc.toArray, .int .i64 99, .slice (some ⟨gH, 0, none⟩) 64 64] Y (LvPost Y 99 h)) := Lib.hid fun Y s' bs hY hm => by
              have := leaves_go last.b last.sp last.b.length last.cap ⟨rfl, HLA1.out.2⟩ (by have := HLB.out.1; omega) last.H last.sm 99 (by omega) h HMB.out.1 (fun p hp => (HFI.out p hp).1) gH 64 (Nat.le_refl _) Y (srcA_grown HLA1.out.1 hY.bel) (HMB.out.src hY (fun y hy => by simp at hy; subst hy; exact hm) (fun p hp => (HFI.out p hp).1))
              rw [← HLC.out]
              exact this
            have HIT3 : Hid (IsT s3.blocks root h mids) := Lib.hid (by rw [HS3F.out.1]; exact HIT.out)
            have HSETF : Hid (∀ (bs : Bxs) (Y : World) (ls : List Lf), LvL 99 h 64 ls → ∀ (v : Value) (lb : Bxs), Fr W1 D { s3 with room := (room : Int) } bs Y → RowB 45 42 lb v ls.length (lrows ls) → (∀ y ∈ lb, y ∈ bs) → Calls Tryd.prog 8 #[shI D, .agg (pcells root).toArray, .int .u16 9, v] Y fun e X => ∃ s6 p6 e6, e = .returned (.tuple #[.agg (pcells p6).toArray, .int .i64 ((e6 : Nat) : Int)]) ∧ (e6 = 0 ∨ e6 = 21 ∨ e6 = 30) ∧ Pt.OK p6 ∧ (∀ (k : Nat) (b : Bs), s.blocks[k]? = some b → s6.blocks[k]? = some b) ∧ Lim (715 * N + 73 + 73 + 715) s6 ∧ Fr W1 D s6 bs X) := Lib.hid fun bs Y ls hll v lb hY hr hs => by
              have ha := lv_asc hll (by omega) HFI.out
              have hlo : ∀ x ∈ ls, Lf.OK x := fun x hx => ⟨by have := ha.lt x hx; omega, (ha.ok x hx).1⟩
              have hl4 := HL4.out
              have st := set_tree (s := { s3 with room := (room : Int) }) HIT3.out ha (by have h1 := HBL9.out; have h2 := HLB.out.2.1; show s3.blocks.length + 9 < 30000; rw [HS3F.out.1]; omega)
              have hc := fr_setB hY root HRK.out ls hlo hll.len hr hs (m := 715 * N + 73 + 73) ⟨hl4.rd, hl4.md, hl4.gn, hl4.n, hl4.bl, hl4.bd, by have := HRO.out; show (-1 : Int) ≤ (room : Int) ∧ (room : Int) ≤ 1000; omega⟩ (by have := HLB.out.2.1; omega)
              refine hc.mono fun e X ⟨e1, e2, e3, e4⟩ => ⟨_, _, _, e1, st.e, e4, fun k b hb => st.pre k b (by show s3.blocks[k]? = some b; rw [HS3F.out.1]; exact hb), e3, e2⟩
            have HGX : Hid (∀ X, Below W1.heap.size W1 X → Blk X G lc 43) := Lib.hid fun X hX => HGB.out.below hX HGB.out.lt
            go_upto_region 39 with fail
            refine wp_region_sched (.take 0 (.take 1 (.take 2 (.take 3 (.take 4 (.fork 5 (.fork 6 (.take 7 (.take 8 (.take 9 (.step 10 (.step 11 (.take 12 (.nil))))))) 10 (.step 6 (.take 7 (.take 8 (.take 9 (.step 11 (.take 12 (.nil)))))))) 10 (.step 5 (.step 6 (.take 7 (.take 8 (.take 9 (.step 11 (.take 12 (.nil)))))))))))))) (by kernel_rfl) (by kernel_rfl) (fun d _ _ _ _ h => by cases d <;> exact h) (fun X => ∃ s2, Fr W1 D s2 BS5 X) (⟨_, HF7.out.drew⟩) ?_
            refine wpG_take _ (.pointer (some ⟨D, 0, none⟩)) rfl (by rfl) (fun X hX => by first | rfl | go_simp) ?_
            (try simp only [Act.put, List.setIfInBounds_toArray, List.set_cons_zero, List.set_cons_succ])
            refine wpG_take _ (shI D) rfl (by rfl) (fun X hX => by first | rfl | go_simp) ?_
            (try simp only [Act.put, List.setIfInBounds_toArray, List.set_cons_zero, List.set_cons_succ])
            refine wpG_take _ (.agg (pcells root).toArray) rfl (by rfl) (fun X hX => ex_ldP HRK.out (hX.choose_spec.at HBS5.out.2.1) rfl rfl) ?_
            (try simp only [Act.put, List.setIfInBounds_toArray, List.set_cons_zero, List.set_cons_succ])
            refine wpG_take _ (.agg lc.toArray) rfl (by rfl) (fun X hX => ex_ldAl HLC.out (HGX.out _ hX.choose_spec.bel) rfl rfl) ?_
            (try simp only [Act.put, List.setIfInBounds_toArray, List.set_cons_zero, List.set_cons_succ])
            refine wpG_take _ (.slice (some ⟨gH, 0, none⟩) 64 64) rfl (by rfl) (fun X hX => by first | rfl | go_simp) ?_
            (try simp only [Act.put, List.setIfInBounds_toArray, List.set_cons_zero, List.set_cons_succ])
            refine wpG_fork ?_ ?_
            · refine wpG_call _ rfl (by rfl) 7 #[.agg lc.toArray, .int .i64 99, .slice (some ⟨gH, 0, none⟩) 64 64] (fun X => by go_simp) (fun u X => LvPost X7.drew 99 h (.returned u) X) ((HLV.out X7.drew HF7.out.drew (by simp [HBS5.out.2.2.1])).mono fun e X he => by
                obtain ⟨ov, ls, e1, h2, h3, h4⟩ := he
                exact ⟨_, e1, ⟨_, ((HF7.out.drew).below h2).sub (fun y hy => by simp [hy])⟩, ov, ls, rfl, h2, h3, h4⟩) ?_
              rintro u Y1 hy1 ⟨ov, ls, e3, hbl, hol, hll⟩
              injection e3 with e4
              subst e4
              obtain ⟨lb2, hlb1, hlb2⟩ := RowB.of hol
              obtain ⟨spl2, capl2, rfl⟩ := hlb1.form
              have hfl := fr_add (HF7.out.drew) hbl (fun y hy => ⟨(hlb2 y hy).1, (hol.lt _ (hlb2 y hy).2).1⟩)
              refine ⟨_, fun _ h => h, hy1, ?_⟩
              (try simp only [Act.put, List.setIfInBounds_toArray, List.set_cons_zero, List.set_cons_succ])
              refine wpG_fork ?_ ?_
              · as_aux_lemma =>
                have hset1 := HSETF.out (lb2 ++ BS5) Y1 ls hll (.slice spl2 ls.length capl2) lb2 hfl hlb1 (fun y hy => by simp [hy])
                refine wpG_call _ rfl (by rfl) 8 #[shI D, .agg (pcells root).toArray, .int .u16 9, .slice spl2 ls.length capl2] (fun X => by go_simp) (fun u X => ∃ s6 p6 e6, u = .tuple #[.agg (pcells p6).toArray, .int .i64 ((e6 : Nat) : Int)] ∧ (e6 = 0 ∨ e6 = 21 ∨ e6 = 30) ∧ Pt.OK p6 ∧ (∀ (k : Nat) (b : Bs), s.blocks[k]? = some b → s6.blocks[k]? = some b) ∧ Lim (715 * N + 73 + 73 + 715) s6 ∧ Fr W1 D s6 (lb2 ++ BS5) X) (hset1.mono fun e X ⟨s6, p6, e6, e1, a1, a2, a3, a4, a5⟩ => ⟨_, e1, ⟨s6, a5.sub (fun y hy => by simp [hy])⟩, s6, p6, e6, rfl, a1, a2, a3, a4, a5⟩) ?_
                rintro u Z1 hz1 ⟨s6, p6, e6, rfl, ha1, ha2, ha3, ha4, ha5⟩
                refine ⟨_, fun _ h => h, hz1, ?_⟩
                (try simp only [Act.put, List.setIfInBounds_toArray, List.set_cons_zero, List.set_cons_succ])
                refine wpG_take _ (.tuple #[.agg (pcells p6).toArray, .int .i64 ((e6 : Nat) : Int)]) rfl (by rfl) (fun X hX => by first | rfl | go_simp) ?_
                (try simp only [Act.put, List.setIfInBounds_toArray, List.set_cons_zero, List.set_cons_succ])
                refine wpG_take _ (.agg (pcells p6).toArray) rfl (by rfl) (fun X hX => by first | rfl | go_simp) ?_
                (try simp only [Act.put, List.setIfInBounds_toArray, List.set_cons_zero, List.set_cons_succ])
                refine wpG_take _ (.int .i64 ((e6 : Nat) : Int)) rfl (by rfl) (fun X hX => by first | rfl | go_simp) ?_
                (try simp only [Act.put, List.setIfInBounds_toArray, List.set_cons_zero, List.set_cons_succ])
                have hfA := (ha5).add (g := Z1.heap.size) (cs := pcells zeroP) (t := 37) ((Below.refl _ _).alloc (Nat.le_refl _) (.cells (pcells zeroP).toArray 37)) (Nat.le_refl _) (Blk.new Z1 (pcells zeroP) 37)
                refine wpG_mk _ rfl (by rfl) (.pointer (some ⟨Z1.heap.size, 0, none⟩)) (Z1.alloc (.cells (pcells zeroP).toArray 37)) (ex_alPt rfl) (fun X => ∃ s2, Fr W1 D s2 BS5 X) ⟨_, hfA.sub (fun y hy => by simp [hy])⟩ (fun _ h => h) ?_
                (try simp only [Act.put, List.setIfInBounds_toArray, List.set_cons_zero, List.set_cons_succ])
                have hgA : W1.heap.size ≤ Z1.heap.size := ha5.bel.size
                have hgB : ∀ z ∈ lb2 ++ BS5, z.1 ≠ Z1.heap.size := fun z hz e => by have := (ha5.bx z hz).lt; omega
                have hfB := hfA
                have hfe : Fr W1 D s6 BS5 (((Z1.alloc (.cells (pcells zeroP).toArray 37))).setRow Z1.heap.size (pcells p6).toArray) := (fr_row (cs' := pcells p6) hfB hgA hgB).sub (fun y hy => by simp [hy])
                refine wpG_row _ rfl (by rfl) 37 (.tmp 27) (.tmp 210) rfl Z1.heap.size (pcells p6).toArray rfl rfl (hfB.at (g := Z1.heap.size) (cs := pcells zeroP) (t := 37) (by simp)) (size_pc ha2) (by rw [List.size_toArray, pcells_length ha2, pcells_length zeroP_ok]) (one_pc p6) (fun X => ∃ s2, Fr W1 D s2 BS5 X) (fun _ h => h) ⟨_, hfe⟩ ?_
                (try simp only [Act.put, List.setIfInBounds_toArray, List.set_cons_zero, List.set_cons_succ])
                refine wpG_take _ (.int .i64 ((e6 : Nat) : Int)) rfl (by rfl) (fun X hX => by first | rfl | go_simp) ?_
                (try simp only [Act.put, List.setIfInBounds_toArray, List.set_cons_zero, List.set_cons_succ])
                refine wpG_nil ?_
                obtain ⟨Z9, hZ9⟩ : ∃ z, z = ((Z1.alloc (.cells (pcells zeroP).toArray 37))).setRow Z1.heap.size (pcells p6).toArray := ⟨_, rfl⟩
                rw [← hZ9] at hfe ⊢
                have HF9 := Lib.hid hfe
                have HIT9 : Hid (IsT s6.blocks root h mids) := Lib.hid ((by rw [← HS3F.out.1]; exact HIT3.out : IsT s.blocks root h mids).mono ha3)
                have HL9 := Lib.hid ha4
                obtain ⟨⟨u1, c1⟩, f1⟩ := hfe.stay (j := 1) (by omega)
                have hnb := fr_nobad hfe
                obtain ⟨⟨u4, c4⟩, f4⟩ := hnb.stay (j := 4) (by omega)
                have HF10 := Lib.hid (fr_room hnb (-1))
                clear hZ9 hfe ha3 ha4 ha5 hnb HF7 HF
                rcases ha1 with rfl | rfl | rfl
                · have hx0 : (fun _ : World => True) Z9 := trivial
                  go_upto_region 40 with fail
                  refine wp_region_list ?_
                  refine tl_val (S := fun _ => True) (.int .i64 0) (by rfl) hx0 (fun X hX => by first | rfl | go_simp) ?_
                  (try simp only [Act.put, List.setIfInBounds_toArray, List.set_cons_zero, List.set_cons_succ])
                  refine tl_val (S := fun _ => True) (.bool false) (by rfl) hx0 (fun X hX => by first | rfl | go_simp) ?_
                  (try simp only [Act.put, List.setIfInBounds_toArray, List.set_cons_zero, List.set_cons_succ])
                  refine tl_val (S := fun _ => True) (.bool false) (by rfl) hx0 (fun X hX => by first | rfl | go_simp) ?_
                  (try simp only [Act.put, List.setIfInBounds_toArray, List.set_cons_zero, List.set_cons_succ])
                  refine tl_skip (by rfl) ?_
                  (try simp only [Act.put, List.setIfInBounds_toArray, List.set_cons_zero, List.set_cons_succ])
                  refine tl_skip (by rfl) ?_
                  (try simp only [Act.put, List.setIfInBounds_toArray, List.set_cons_zero, List.set_cons_succ])
                  refine tl_val (S := fun _ => True) (.bool false) (by rfl) hx0 (fun X hX => by first | rfl | go_simp) ?_
                  (try simp only [Act.put, List.setIfInBounds_toArray, List.set_cons_zero, List.set_cons_succ])
                  refine tl_val (S := fun _ => True) (.bool false) (by rfl) hx0 (fun X hX => by first | rfl | go_simp) ?_
                  (try simp only [Act.put, List.setIfInBounds_toArray, List.set_cons_zero, List.set_cons_succ])
                  refine tl_skip (by rfl) ?_
                  (try simp only [Act.put, List.setIfInBounds_toArray, List.set_cons_zero, List.set_cons_succ])
                  refine tl_skip (by rfl) ?_
                  (try simp only [Act.put, List.setIfInBounds_toArray, List.set_cons_zero, List.set_cons_succ])
                  refine tl_val (S := fun _ => True) (.bool false) (by rfl) hx0 (fun X hX => by first | rfl | go_simp) ?_
                  (try simp only [Act.put, List.setIfInBounds_toArray, List.set_cons_zero, List.set_cons_succ])
                  refine wpList_nil ?_
                  clear hx0
                  go_upto_region 43 with fail
                  refine (fun (k' : ∀ W, Fr W1 D { s6 with bad := [], room := -1 } BS5 W → Code.wp _ _ _ _ W) => k' _ HF10.out) ?_
                  intro X9 hX9
                  have HBR9 := Lib.hid (hX9.at HBS5.out.2.1)
                  have HTE := Lib.hid (tells_go (h := h) (mids := mids) hX9 HIT9.out rfl HRK.out gH 64 (Nat.le_refl _) (fun s2 bs' Y hY hsub => HMB.out.src hY (fun y hy => hsub y (by simp at hy; subst hy; exact HBS5.out.2.2.1)) (fun p hp => (HFI.out p hp).1)) (m := 715 * N + 73 + 73 + 715) ⟨HL9.out.rd, HL9.out.md, HL9.out.gn, HL9.out.n, HL9.out.bl, Nat.zero_le _, by show (-1 : Int) ≤ -1 ∧ (-1 : Int) ≤ 1000; omega⟩ (by have := HLB.out.2.1; omega))
                  clear hX9 c1 f1 c4 f4 HF10 HF9
                  go_wp2_with (first | (refine wpL_val rfl (ex_ldP HRK.out HBR9.out rfl rfl) ?_) | fail)
                  refine HTE.out.mono ?_
                  rintro e X10 ⟨nv3, nb3, s10, rs10, rfl, -, hf10, -, -⟩
                  have HT10 := Lib.hid hf10.tab
                  have HB10 := Lib.hid (HB1.out.trans (hf10.bel.mono HB1.out.size))
                  have hx0 : (fun _ : World => True) X10 := trivial
                  clear hf10 HTE HBR9
                  go_upto_region 44 with fail
                  refine wp_region_list ?_
                  refine tl_val (S := fun _ => True) (.bool true) (by rfl) hx0 (fun X hX => by first | rfl | go_simp) ?_
                  (try simp only [Act.put, List.setIfInBounds_toArray, List.set_cons_zero, List.set_cons_succ])
                  refine tl_val (S := fun _ => True) (.bool true) (by rfl) hx0 (fun X hX => by first | rfl | go_simp) ?_
                  (try simp only [Act.put, List.setIfInBounds_toArray, List.set_cons_zero, List.set_cons_succ])
                  refine tl_call (by rfl) 6 #[] (by go_simp) (fun u X => u = .bool true ∧ Below w.heap.size w X) ((twakes_any _ HT10.out).mono fun e Y ⟨e1, hb⟩ => ⟨_, e1, rfl, HB10.out.trans (hb.mono HB10.out.size)⟩) ?_
                  rintro u X11 ⟨rfl, hb11⟩
                  (try simp only [Act.put, List.setIfInBounds_toArray, List.set_cons_zero, List.set_cons_succ])
                  refine tl_val (S := fun _ => True) (.bool true) (by rfl) trivial (fun X hX => by first | rfl | go_simp) ?_
                  (try simp only [Act.put, List.setIfInBounds_toArray, List.set_cons_zero, List.set_cons_succ])
                  refine tl_val (S := fun _ => True) (.bool true) (by rfl) trivial (fun X hX => by first | rfl | go_simp) ?_
                  (try simp only [Act.put, List.setIfInBounds_toArray, List.set_cons_zero, List.set_cons_succ])
                  refine wpList_nil ?_
                  have HE := Lib.hid (HP.out _ hb11)
                  go_wp2_with fail
                  first | exact HE.out | (go_ret; exact HE.out)
                · have hx0 : (fun _ : World => True) Z9 := trivial
                  go_upto_region 40 with fail
                  refine wp_region_list ?_
                  refine tl_val (S := fun _ => True) (.int .i64 21) (by rfl) hx0 (fun X hX => by first | rfl | go_simp) ?_
                  (try simp only [Act.put, List.setIfInBounds_toArray, List.set_cons_zero, List.set_cons_succ])
                  refine tl_val (S := fun _ => True) (.bool true) (by rfl) hx0 (fun X hX => by first | rfl | go_simp) ?_
                  (try simp only [Act.put, List.setIfInBounds_toArray, List.set_cons_zero, List.set_cons_succ])
                  refine tl_val (S := fun _ => True) (.bool true) (by rfl) hx0 (fun X hX => by first | rfl | go_simp) ?_
                  (try simp only [Act.put, List.setIfInBounds_toArray, List.set_cons_zero, List.set_cons_succ])
                  refine tl_val (S := fun _ => True) (.int .i64 21) (by rfl) hx0 (fun X hX => by first | rfl | go_simp) ?_
                  (try simp only [Act.put, List.setIfInBounds_toArray, List.set_cons_zero, List.set_cons_succ])
                  refine tl_val (S := fun _ => True) (.bool false) (by rfl) hx0 (fun X hX => by first | rfl | go_simp) ?_
                  (try simp only [Act.put, List.setIfInBounds_toArray, List.set_cons_zero, List.set_cons_succ])
                  refine tl_val (S := fun _ => True) (.bool false) (by rfl) hx0 (fun X hX => by first | rfl | go_simp) ?_
                  (try simp only [Act.put, List.setIfInBounds_toArray, List.set_cons_zero, List.set_cons_succ])
                  refine tl_val (S := fun _ => True) (.bool false) (by rfl) hx0 (fun X hX => by first | rfl | go_simp) ?_
                  (try simp only [Act.put, List.setIfInBounds_toArray, List.set_cons_zero, List.set_cons_succ])
                  refine tl_skip (by rfl) ?_
                  (try simp only [Act.put, List.setIfInBounds_toArray, List.set_cons_zero, List.set_cons_succ])
                  refine tl_skip (by rfl) ?_
                  (try simp only [Act.put, List.setIfInBounds_toArray, List.set_cons_zero, List.set_cons_succ])
                  refine tl_val (S := fun _ => True) (.bool false) (by rfl) hx0 (fun X hX => by first | rfl | go_simp) ?_
                  (try simp only [Act.put, List.setIfInBounds_toArray, List.set_cons_zero, List.set_cons_succ])
                  refine wpList_nil ?_
                  clear hx0
                  go_upto_region 43 with fail
                  refine (fun (k' : ∀ W, Fr W1 D { s6 with bad := [], room := -1 } BS5 W → Code.wp _ _ _ _ W) => k' _ HF10.out) ?_
                  intro X9 hX9
                  have HBR9 := Lib.hid (hX9.at HBS5.out.2.1)
                  have HTE := Lib.hid (tells_go (h := h) (mids := mids) hX9 HIT9.out rfl HRK.out gH 64 (Nat.le_refl _) (fun s2 bs' Y hY hsub => HMB.out.src hY (fun y hy => hsub y (by simp at hy; subst hy; exact HBS5.out.2.2.1)) (fun p hp => (HFI.out p hp).1)) (m := 715 * N + 73 + 73 + 715) ⟨HL9.out.rd, HL9.out.md, HL9.out.gn, HL9.out.n, HL9.out.bl, Nat.zero_le _, by show (-1 : Int) ≤ -1 ∧ (-1 : Int) ≤ 1000; omega⟩ (by have := HLB.out.2.1; omega))
                  clear hX9 c1 f1 c4 f4 HF10 HF9
                  go_wp2_with (first | (refine wpL_val rfl (ex_ldP HRK.out HBR9.out rfl rfl) ?_) | fail)
                  refine HTE.out.mono ?_
                  rintro e X10 ⟨nv3, nb3, s10, rs10, rfl, -, hf10, -, -⟩
                  have HT10 := Lib.hid hf10.tab
                  have HB10 := Lib.hid (HB1.out.trans (hf10.bel.mono HB1.out.size))
                  have hx0 : (fun _ : World => True) X10 := trivial
                  clear hf10 HTE HBR9
                  go_upto_region 44 with fail
                  refine wp_region_list ?_
                  refine tl_val (S := fun _ => True) (.bool true) (by rfl) hx0 (fun X hX => by first | rfl | go_simp) ?_
                  (try simp only [Act.put, List.setIfInBounds_toArray, List.set_cons_zero, List.set_cons_succ])
                  refine tl_val (S := fun _ => True) (.bool true) (by rfl) hx0 (fun X hX => by first | rfl | go_simp) ?_
                  (try simp only [Act.put, List.setIfInBounds_toArray, List.set_cons_zero, List.set_cons_succ])
                  refine tl_call (by rfl) 6 #[] (by go_simp) (fun u X => u = .bool true ∧ Below w.heap.size w X) ((twakes_any _ HT10.out).mono fun e Y ⟨e1, hb⟩ => ⟨_, e1, rfl, HB10.out.trans (hb.mono HB10.out.size)⟩) ?_
                  rintro u X11 ⟨rfl, hb11⟩
                  (try simp only [Act.put, List.setIfInBounds_toArray, List.set_cons_zero, List.set_cons_succ])
                  refine tl_val (S := fun _ => True) (.bool true) (by rfl) trivial (fun X hX => by first | rfl | go_simp) ?_
                  (try simp only [Act.put, List.setIfInBounds_toArray, List.set_cons_zero, List.set_cons_succ])
                  refine tl_val (S := fun _ => True) (.bool true) (by rfl) trivial (fun X hX => by first | rfl | go_simp) ?_
                  (try simp only [Act.put, List.setIfInBounds_toArray, List.set_cons_zero, List.set_cons_succ])
                  refine wpList_nil ?_
                  have HE := Lib.hid (HP.out _ hb11)
                  go_wp2_with fail
                  first | exact HE.out | (go_ret; exact HE.out)
                · have hx0 : (fun _ : World => True) Z9 := trivial
                  go_upto_region 40 with fail
                  refine wp_region_list ?_
                  refine tl_val (S := fun _ => True) (.int .i64 30) (by rfl) hx0 (fun X hX => by first | rfl | go_simp) ?_
                  (try simp only [Act.put, List.setIfInBounds_toArray, List.set_cons_zero, List.set_cons_succ])
                  refine tl_val (S := fun _ => True) (.bool true) (by rfl) hx0 (fun X hX => by first | rfl | go_simp) ?_
                  (try simp only [Act.put, List.setIfInBounds_toArray, List.set_cons_zero, List.set_cons_succ])
                  refine tl_val (S := fun _ => True) (.bool true) (by rfl) hx0 (fun X hX => by first | rfl | go_simp) ?_
                  (try simp only [Act.put, List.setIfInBounds_toArray, List.set_cons_zero, List.set_cons_succ])
                  refine tl_val (S := fun _ => True) (.int .i64 30) (by rfl) hx0 (fun X hX => by first | rfl | go_simp) ?_
                  (try simp only [Act.put, List.setIfInBounds_toArray, List.set_cons_zero, List.set_cons_succ])
                  refine tl_val (S := fun _ => True) (.bool true) (by rfl) hx0 (fun X hX => by first | rfl | go_simp) ?_
                  (try simp only [Act.put, List.setIfInBounds_toArray, List.set_cons_zero, List.set_cons_succ])
                  refine tl_val (S := fun _ => True) (.bool true) (by rfl) hx0 (fun X hX => by first | rfl | go_simp) ?_
                  (try simp only [Act.put, List.setIfInBounds_toArray, List.set_cons_zero, List.set_cons_succ])
                  refine tl_val (S := fun _ => True) (.bool true) (by rfl) hx0 (fun X hX => by first | rfl | go_simp) ?_
                  (try simp only [Act.put, List.setIfInBounds_toArray, List.set_cons_zero, List.set_cons_succ])
                  refine tl_val (S := fun _ => True) (.int .i64 30) (by rfl) hx0 (fun X hX => by first | rfl | go_simp) ?_
                  (try simp only [Act.put, List.setIfInBounds_toArray, List.set_cons_zero, List.set_cons_succ])
                  refine tl_val (S := fun _ => True) (.bool false) (by rfl) hx0 (fun X hX => by first | rfl | go_simp) ?_
                  (try simp only [Act.put, List.setIfInBounds_toArray, List.set_cons_zero, List.set_cons_succ])
                  refine tl_val (S := fun _ => True) (.bool false) (by rfl) hx0 (fun X hX => by first | rfl | go_simp) ?_
                  (try simp only [Act.put, List.setIfInBounds_toArray, List.set_cons_zero, List.set_cons_succ])
                  refine wpList_nil ?_
                  clear hx0
                  go_upto_region 43 with fail
                  refine (fun (k' : ∀ W, Fr W1 D { s6 with bad := [], room := -1 } BS5 W → Code.wp _ _ _ _ W) => k' _ HF10.out) ?_
                  intro X9 hX9
                  have HBR9 := Lib.hid (hX9.at HBS5.out.2.1)
                  have HTE := Lib.hid (tells_go (h := h) (mids := mids) hX9 HIT9.out rfl HRK.out gH 64 (Nat.le_refl _) (fun s2 bs' Y hY hsub => HMB.out.src hY (fun y hy => hsub y (by simp at hy; subst hy; exact HBS5.out.2.2.1)) (fun p hp => (HFI.out p hp).1)) (m := 715 * N + 73 + 73 + 715) ⟨HL9.out.rd, HL9.out.md, HL9.out.gn, HL9.out.n, HL9.out.bl, Nat.zero_le _, by show (-1 : Int) ≤ -1 ∧ (-1 : Int) ≤ 1000; omega⟩ (by have := HLB.out.2.1; omega))
                  clear hX9 c1 f1 c4 f4 HF10 HF9
                  go_wp2_with (first | (refine wpL_val rfl (ex_ldP HRK.out HBR9.out rfl rfl) ?_) | fail)
                  refine HTE.out.mono ?_
                  rintro e X10 ⟨nv3, nb3, s10, rs10, rfl, -, hf10, -, -⟩
                  have HT10 := Lib.hid hf10.tab
                  have HB10 := Lib.hid (HB1.out.trans (hf10.bel.mono HB1.out.size))
                  have hx0 : (fun _ : World => True) X10 := trivial
                  clear hf10 HTE HBR9
                  go_upto_region 44 with fail
                  refine wp_region_list ?_
                  refine tl_val (S := fun _ => True) (.bool true) (by rfl) hx0 (fun X hX => by first | rfl | go_simp) ?_
                  (try simp only [Act.put, List.setIfInBounds_toArray, List.set_cons_zero, List.set_cons_succ])
                  refine tl_val (S := fun _ => True) (.bool true) (by rfl) hx0 (fun X hX => by first | rfl | go_simp) ?_
                  (try simp only [Act.put, List.setIfInBounds_toArray, List.set_cons_zero, List.set_cons_succ])
                  refine tl_call (by rfl) 6 #[] (by go_simp) (fun u X => u = .bool true ∧ Below w.heap.size w X) ((twakes_any _ HT10.out).mono fun e Y ⟨e1, hb⟩ => ⟨_, e1, rfl, HB10.out.trans (hb.mono HB10.out.size)⟩) ?_
                  rintro u X11 ⟨rfl, hb11⟩
                  (try simp only [Act.put, List.setIfInBounds_toArray, List.set_cons_zero, List.set_cons_succ])
                  refine tl_val (S := fun _ => True) (.bool true) (by rfl) trivial (fun X hX => by first | rfl | go_simp) ?_
                  (try simp only [Act.put, List.setIfInBounds_toArray, List.set_cons_zero, List.set_cons_succ])
                  refine tl_val (S := fun _ => True) (.bool true) (by rfl) trivial (fun X hX => by first | rfl | go_simp) ?_
                  (try simp only [Act.put, List.setIfInBounds_toArray, List.set_cons_zero, List.set_cons_succ])
                  refine wpList_nil ?_
                  have HE := Lib.hid (HP.out _ hb11)
                  go_wp2_with fail
                  first | exact HE.out | (go_ret; exact HE.out)
              · as_aux_lemma =>
                have hfA := (hfl).add (g := Y1.heap.size) (cs := pcells zeroP) (t := 37) ((Below.refl _ _).alloc (Nat.le_refl _) (.cells (pcells zeroP).toArray 37)) (Nat.le_refl _) (Blk.new Y1 (pcells zeroP) 37)
                refine wpG_mk _ rfl (by rfl) (.pointer (some ⟨Y1.heap.size, 0, none⟩)) (Y1.alloc (.cells (pcells zeroP).toArray 37)) (ex_alPt rfl) (fun X => ∃ s2, Fr W1 D s2 BS5 X) ⟨_, hfA.sub (fun y hy => by simp [hy])⟩ (fun _ h => h) ?_
                (try simp only [Act.put, List.setIfInBounds_toArray, List.set_cons_zero, List.set_cons_succ])
                have hset1 := HSETF.out ((Y1.heap.size, pcells zeroP, 37) :: (lb2 ++ BS5)) (Y1.alloc (.cells (pcells zeroP).toArray 37)) ls hll (.slice spl2 ls.length capl2) lb2 hfA hlb1 (fun y hy => by simp [hy])
                refine wpG_call _ rfl (by rfl) 8 #[shI D, .agg (pcells root).toArray, .int .u16 9, .slice spl2 ls.length capl2] (fun X => by go_simp) (fun u X => ∃ s6 p6 e6, u = .tuple #[.agg (pcells p6).toArray, .int .i64 ((e6 : Nat) : Int)] ∧ (e6 = 0 ∨ e6 = 21 ∨ e6 = 30) ∧ Pt.OK p6 ∧ (∀ (k : Nat) (b : Bs), s.blocks[k]? = some b → s6.blocks[k]? = some b) ∧ Lim (715 * N + 73 + 73 + 715) s6 ∧ Fr W1 D s6 ((Y1.heap.size, pcells zeroP, 37) :: (lb2 ++ BS5)) X) (hset1.mono fun e X ⟨s6, p6, e6, e1, a1, a2, a3, a4, a5⟩ => ⟨_, e1, ⟨s6, a5.sub (fun y hy => by simp [hy])⟩, s6, p6, e6, rfl, a1, a2, a3, a4, a5⟩) ?_
                rintro u Z1 hz1 ⟨s6, p6, e6, rfl, ha1, ha2, ha3, ha4, ha5⟩
                refine ⟨_, fun _ h => h, hz1, ?_⟩
                (try simp only [Act.put, List.setIfInBounds_toArray, List.set_cons_zero, List.set_cons_succ])
                refine wpG_take _ (.tuple #[.agg (pcells p6).toArray, .int .i64 ((e6 : Nat) : Int)]) rfl (by rfl) (fun X hX => by first | rfl | go_simp) ?_
                (try simp only [Act.put, List.setIfInBounds_toArray, List.set_cons_zero, List.set_cons_succ])
                refine wpG_take _ (.agg (pcells p6).toArray) rfl (by rfl) (fun X hX => by first | rfl | go_simp) ?_
                (try simp only [Act.put, List.setIfInBounds_toArray, List.set_cons_zero, List.set_cons_succ])
                refine wpG_take _ (.int .i64 ((e6 : Nat) : Int)) rfl (by rfl) (fun X hX => by first | rfl | go_simp) ?_
                (try simp only [Act.put, List.setIfInBounds_toArray, List.set_cons_zero, List.set_cons_succ])
                have hgA : W1.heap.size ≤ Y1.heap.size := hfl.bel.size
                have hgB : ∀ z ∈ lb2 ++ BS5, z.1 ≠ Y1.heap.size := fun z hz e => by have := (hfl.bx z hz).lt; omega
                have hfB := ha5
                have hfe : Fr W1 D s6 BS5 ((Z1).setRow Y1.heap.size (pcells p6).toArray) := (fr_row (cs' := pcells p6) hfB hgA hgB).sub (fun y hy => by simp [hy])
                refine wpG_row _ rfl (by rfl) 37 (.tmp 27) (.tmp 210) rfl Y1.heap.size (pcells p6).toArray rfl rfl (hfB.at (g := Y1.heap.size) (cs := pcells zeroP) (t := 37) (by simp)) (size_pc ha2) (by rw [List.size_toArray, pcells_length ha2, pcells_length zeroP_ok]) (one_pc p6) (fun X => ∃ s2, Fr W1 D s2 BS5 X) (fun _ h => h) ⟨_, hfe⟩ ?_
                (try simp only [Act.put, List.setIfInBounds_toArray, List.set_cons_zero, List.set_cons_succ])
                refine wpG_take _ (.int .i64 ((e6 : Nat) : Int)) rfl (by rfl) (fun X hX => by first | rfl | go_simp) ?_
                (try simp only [Act.put, List.setIfInBounds_toArray, List.set_cons_zero, List.set_cons_succ])
                refine wpG_nil ?_
                obtain ⟨Z9, hZ9⟩ : ∃ z, z = (Z1).setRow Y1.heap.size (pcells p6).toArray := ⟨_, rfl⟩
                rw [← hZ9] at hfe ⊢
                have HF9 := Lib.hid hfe
                have HIT9 : Hid (IsT s6.blocks root h mids) := Lib.hid ((by rw [← HS3F.out.1]; exact HIT3.out : IsT s.blocks root h mids).mono ha3)
                have HL9 := Lib.hid ha4
                obtain ⟨⟨u1, c1⟩, f1⟩ := hfe.stay (j := 1) (by omega)
                have hnb := fr_nobad hfe
                obtain ⟨⟨u4, c4⟩, f4⟩ := hnb.stay (j := 4) (by omega)
                have HF10 := Lib.hid (fr_room hnb (-1))
                clear hZ9 hfe ha3 ha4 ha5 hnb HF7 HF
                rcases ha1 with rfl | rfl | rfl
                · have hx0 : (fun _ : World => True) Z9 := trivial
                  go_upto_region 40 with fail
                  refine wp_region_list ?_
                  refine tl_val (S := fun _ => True) (.int .i64 0) (by rfl) hx0 (fun X hX => by first | rfl | go_simp) ?_
                  (try simp only [Act.put, List.setIfInBounds_toArray, List.set_cons_zero, List.set_cons_succ])
                  refine tl_val (S := fun _ => True) (.bool false) (by rfl) hx0 (fun X hX => by first | rfl | go_simp) ?_
                  (try simp only [Act.put, List.setIfInBounds_toArray, List.set_cons_zero, List.set_cons_succ])
                  refine tl_val (S := fun _ => True) (.bool false) (by rfl) hx0 (fun X hX => by first | rfl | go_simp) ?_
                  (try simp only [Act.put, List.setIfInBounds_toArray, List.set_cons_zero, List.set_cons_succ])
                  refine tl_skip (by rfl) ?_
                  (try simp only [Act.put, List.setIfInBounds_toArray, List.set_cons_zero, List.set_cons_succ])
                  refine tl_skip (by rfl) ?_
                  (try simp only [Act.put, List.setIfInBounds_toArray, List.set_cons_zero, List.set_cons_succ])
                  refine tl_val (S := fun _ => True) (.bool false) (by rfl) hx0 (fun X hX => by first | rfl | go_simp) ?_
                  (try simp only [Act.put, List.setIfInBounds_toArray, List.set_cons_zero, List.set_cons_succ])
                  refine tl_val (S := fun _ => True) (.bool false) (by rfl) hx0 (fun X hX => by first | rfl | go_simp) ?_
                  (try simp only [Act.put, List.setIfInBounds_toArray, List.set_cons_zero, List.set_cons_succ])
                  refine tl_skip (by rfl) ?_
                  (try simp only [Act.put, List.setIfInBounds_toArray, List.set_cons_zero, List.set_cons_succ])
                  refine tl_skip (by rfl) ?_
                  (try simp only [Act.put, List.setIfInBounds_toArray, List.set_cons_zero, List.set_cons_succ])
                  refine tl_val (S := fun _ => True) (.bool false) (by rfl) hx0 (fun X hX => by first | rfl | go_simp) ?_
                  (try simp only [Act.put, List.setIfInBounds_toArray, List.set_cons_zero, List.set_cons_succ])
                  refine wpList_nil ?_
                  clear hx0
                  go_upto_region 43 with fail
                  refine (fun (k' : ∀ W, Fr W1 D { s6 with bad := [], room := -1 } BS5 W → Code.wp _ _ _ _ W) => k' _ HF10.out) ?_
                  intro X9 hX9
                  have HBR9 := Lib.hid (hX9.at HBS5.out.2.1)
                  have HTE := Lib.hid (tells_go (h := h) (mids := mids) hX9 HIT9.out rfl HRK.out gH 64 (Nat.le_refl _) (fun s2 bs' Y hY hsub => HMB.out.src hY (fun y hy => hsub y (by simp at hy; subst hy; exact HBS5.out.2.2.1)) (fun p hp => (HFI.out p hp).1)) (m := 715 * N + 73 + 73 + 715) ⟨HL9.out.rd, HL9.out.md, HL9.out.gn, HL9.out.n, HL9.out.bl, Nat.zero_le _, by show (-1 : Int) ≤ -1 ∧ (-1 : Int) ≤ 1000; omega⟩ (by have := HLB.out.2.1; omega))
                  clear hX9 c1 f1 c4 f4 HF10 HF9
                  go_wp2_with (first | (refine wpL_val rfl (ex_ldP HRK.out HBR9.out rfl rfl) ?_) | fail)
                  refine HTE.out.mono ?_
                  rintro e X10 ⟨nv3, nb3, s10, rs10, rfl, -, hf10, -, -⟩
                  have HT10 := Lib.hid hf10.tab
                  have HB10 := Lib.hid (HB1.out.trans (hf10.bel.mono HB1.out.size))
                  have hx0 : (fun _ : World => True) X10 := trivial
                  clear hf10 HTE HBR9
                  go_upto_region 44 with fail
                  refine wp_region_list ?_
                  refine tl_val (S := fun _ => True) (.bool true) (by rfl) hx0 (fun X hX => by first | rfl | go_simp) ?_
                  (try simp only [Act.put, List.setIfInBounds_toArray, List.set_cons_zero, List.set_cons_succ])
                  refine tl_val (S := fun _ => True) (.bool true) (by rfl) hx0 (fun X hX => by first | rfl | go_simp) ?_
                  (try simp only [Act.put, List.setIfInBounds_toArray, List.set_cons_zero, List.set_cons_succ])
                  refine tl_call (by rfl) 6 #[] (by go_simp) (fun u X => u = .bool true ∧ Below w.heap.size w X) ((twakes_any _ HT10.out).mono fun e Y ⟨e1, hb⟩ => ⟨_, e1, rfl, HB10.out.trans (hb.mono HB10.out.size)⟩) ?_
                  rintro u X11 ⟨rfl, hb11⟩
                  (try simp only [Act.put, List.setIfInBounds_toArray, List.set_cons_zero, List.set_cons_succ])
                  refine tl_val (S := fun _ => True) (.bool true) (by rfl) trivial (fun X hX => by first | rfl | go_simp) ?_
                  (try simp only [Act.put, List.setIfInBounds_toArray, List.set_cons_zero, List.set_cons_succ])
                  refine tl_val (S := fun _ => True) (.bool true) (by rfl) trivial (fun X hX => by first | rfl | go_simp) ?_
                  (try simp only [Act.put, List.setIfInBounds_toArray, List.set_cons_zero, List.set_cons_succ])
                  refine wpList_nil ?_
                  have HE := Lib.hid (HP.out _ hb11)
                  go_wp2_with fail
                  first | exact HE.out | (go_ret; exact HE.out)
                · have hx0 : (fun _ : World => True) Z9 := trivial
                  go_upto_region 40 with fail
                  refine wp_region_list ?_
                  refine tl_val (S := fun _ => True) (.int .i64 21) (by rfl) hx0 (fun X hX => by first | rfl | go_simp) ?_
                  (try simp only [Act.put, List.setIfInBounds_toArray, List.set_cons_zero, List.set_cons_succ])
                  refine tl_val (S := fun _ => True) (.bool true) (by rfl) hx0 (fun X hX => by first | rfl | go_simp) ?_
                  (try simp only [Act.put, List.setIfInBounds_toArray, List.set_cons_zero, List.set_cons_succ])
                  refine tl_val (S := fun _ => True) (.bool true) (by rfl) hx0 (fun X hX => by first | rfl | go_simp) ?_
                  (try simp only [Act.put, List.setIfInBounds_toArray, List.set_cons_zero, List.set_cons_succ])
                  refine tl_val (S := fun _ => True) (.int .i64 21) (by rfl) hx0 (fun X hX => by first | rfl | go_simp) ?_
                  (try simp only [Act.put, List.setIfInBounds_toArray, List.set_cons_zero, List.set_cons_succ])
                  refine tl_val (S := fun _ => True) (.bool false) (by rfl) hx0 (fun X hX => by first | rfl | go_simp) ?_
                  (try simp only [Act.put, List.setIfInBounds_toArray, List.set_cons_zero, List.set_cons_succ])
                  refine tl_val (S := fun _ => True) (.bool false) (by rfl) hx0 (fun X hX => by first | rfl | go_simp) ?_
                  (try simp only [Act.put, List.setIfInBounds_toArray, List.set_cons_zero, List.set_cons_succ])
                  refine tl_val (S := fun _ => True) (.bool false) (by rfl) hx0 (fun X hX => by first | rfl | go_simp) ?_
                  (try simp only [Act.put, List.setIfInBounds_toArray, List.set_cons_zero, List.set_cons_succ])
                  refine tl_skip (by rfl) ?_
                  (try simp only [Act.put, List.setIfInBounds_toArray, List.set_cons_zero, List.set_cons_succ])
                  refine tl_skip (by rfl) ?_
                  (try simp only [Act.put, List.setIfInBounds_toArray, List.set_cons_zero, List.set_cons_succ])
                  refine tl_val (S := fun _ => True) (.bool false) (by rfl) hx0 (fun X hX => by first | rfl | go_simp) ?_
                  (try simp only [Act.put, List.setIfInBounds_toArray, List.set_cons_zero, List.set_cons_succ])
                  refine wpList_nil ?_
                  clear hx0
                  go_upto_region 43 with fail
                  refine (fun (k' : ∀ W, Fr W1 D { s6 with bad := [], room := -1 } BS5 W → Code.wp _ _ _ _ W) => k' _ HF10.out) ?_
                  intro X9 hX9
                  have HBR9 := Lib.hid (hX9.at HBS5.out.2.1)
                  have HTE := Lib.hid (tells_go (h := h) (mids := mids) hX9 HIT9.out rfl HRK.out gH 64 (Nat.le_refl _) (fun s2 bs' Y hY hsub => HMB.out.src hY (fun y hy => hsub y (by simp at hy; subst hy; exact HBS5.out.2.2.1)) (fun p hp => (HFI.out p hp).1)) (m := 715 * N + 73 + 73 + 715) ⟨HL9.out.rd, HL9.out.md, HL9.out.gn, HL9.out.n, HL9.out.bl, Nat.zero_le _, by show (-1 : Int) ≤ -1 ∧ (-1 : Int) ≤ 1000; omega⟩ (by have := HLB.out.2.1; omega))
                  clear hX9 c1 f1 c4 f4 HF10 HF9
                  go_wp2_with (first | (refine wpL_val rfl (ex_ldP HRK.out HBR9.out rfl rfl) ?_) | fail)
                  refine HTE.out.mono ?_
                  rintro e X10 ⟨nv3, nb3, s10, rs10, rfl, -, hf10, -, -⟩
                  have HT10 := Lib.hid hf10.tab
                  have HB10 := Lib.hid (HB1.out.trans (hf10.bel.mono HB1.out.size))
                  have hx0 : (fun _ : World => True) X10 := trivial
                  clear hf10 HTE HBR9
                  go_upto_region 44 with fail
                  refine wp_region_list ?_
                  refine tl_val (S := fun _ => True) (.bool true) (by rfl) hx0 (fun X hX => by first | rfl | go_simp) ?_
                  (try simp only [Act.put, List.setIfInBounds_toArray, List.set_cons_zero, List.set_cons_succ])
                  refine tl_val (S := fun _ => True) (.bool true) (by rfl) hx0 (fun X hX => by first | rfl | go_simp) ?_
                  (try simp only [Act.put, List.setIfInBounds_toArray, List.set_cons_zero, List.set_cons_succ])
                  refine tl_call (by rfl) 6 #[] (by go_simp) (fun u X => u = .bool true ∧ Below w.heap.size w X) ((twakes_any _ HT10.out).mono fun e Y ⟨e1, hb⟩ => ⟨_, e1, rfl, HB10.out.trans (hb.mono HB10.out.size)⟩) ?_
                  rintro u X11 ⟨rfl, hb11⟩
                  (try simp only [Act.put, List.setIfInBounds_toArray, List.set_cons_zero, List.set_cons_succ])
                  refine tl_val (S := fun _ => True) (.bool true) (by rfl) trivial (fun X hX => by first | rfl | go_simp) ?_
                  (try simp only [Act.put, List.setIfInBounds_toArray, List.set_cons_zero, List.set_cons_succ])
                  refine tl_val (S := fun _ => True) (.bool true) (by rfl) trivial (fun X hX => by first | rfl | go_simp) ?_
                  (try simp only [Act.put, List.setIfInBounds_toArray, List.set_cons_zero, List.set_cons_succ])
                  refine wpList_nil ?_
                  have HE := Lib.hid (HP.out _ hb11)
                  go_wp2_with fail
                  first | exact HE.out | (go_ret; exact HE.out)
                · have hx0 : (fun _ : World => True) Z9 := trivial
                  go_upto_region 40 with fail
                  refine wp_region_list ?_
                  refine tl_val (S := fun _ => True) (.int .i64 30) (by rfl) hx0 (fun X hX => by first | rfl | go_simp) ?_
                  (try simp only [Act.put, List.setIfInBounds_toArray, List.set_cons_zero, List.set_cons_succ])
                  refine tl_val (S := fun _ => True) (.bool true) (by rfl) hx0 (fun X hX => by first | rfl | go_simp) ?_
                  (try simp only [Act.put, List.setIfInBounds_toArray, List.set_cons_zero, List.set_cons_succ])
                  refine tl_val (S := fun _ => True) (.bool true) (by rfl) hx0 (fun X hX => by first | rfl | go_simp) ?_
                  (try simp only [Act.put, List.setIfInBounds_toArray, List.set_cons_zero, List.set_cons_succ])
                  refine tl_val (S := fun _ => True) (.int .i64 30) (by rfl) hx0 (fun X hX => by first | rfl | go_simp) ?_
                  (try simp only [Act.put, List.setIfInBounds_toArray, List.set_cons_zero, List.set_cons_succ])
                  refine tl_val (S := fun _ => True) (.bool true) (by rfl) hx0 (fun X hX => by first | rfl | go_simp) ?_
                  (try simp only [Act.put, List.setIfInBounds_toArray, List.set_cons_zero, List.set_cons_succ])
                  refine tl_val (S := fun _ => True) (.bool true) (by rfl) hx0 (fun X hX => by first | rfl | go_simp) ?_
                  (try simp only [Act.put, List.setIfInBounds_toArray, List.set_cons_zero, List.set_cons_succ])
                  refine tl_val (S := fun _ => True) (.bool true) (by rfl) hx0 (fun X hX => by first | rfl | go_simp) ?_
                  (try simp only [Act.put, List.setIfInBounds_toArray, List.set_cons_zero, List.set_cons_succ])
                  refine tl_val (S := fun _ => True) (.int .i64 30) (by rfl) hx0 (fun X hX => by first | rfl | go_simp) ?_
                  (try simp only [Act.put, List.setIfInBounds_toArray, List.set_cons_zero, List.set_cons_succ])
                  refine tl_val (S := fun _ => True) (.bool false) (by rfl) hx0 (fun X hX => by first | rfl | go_simp) ?_
                  (try simp only [Act.put, List.setIfInBounds_toArray, List.set_cons_zero, List.set_cons_succ])
                  refine tl_val (S := fun _ => True) (.bool false) (by rfl) hx0 (fun X hX => by first | rfl | go_simp) ?_
                  (try simp only [Act.put, List.setIfInBounds_toArray, List.set_cons_zero, List.set_cons_succ])
                  refine wpList_nil ?_
                  clear hx0
                  go_upto_region 43 with fail
                  refine (fun (k' : ∀ W, Fr W1 D { s6 with bad := [], room := -1 } BS5 W → Code.wp _ _ _ _ W) => k' _ HF10.out) ?_
                  intro X9 hX9
                  have HBR9 := Lib.hid (hX9.at HBS5.out.2.1)
                  have HTE := Lib.hid (tells_go (h := h) (mids := mids) hX9 HIT9.out rfl HRK.out gH 64 (Nat.le_refl _) (fun s2 bs' Y hY hsub => HMB.out.src hY (fun y hy => hsub y (by simp at hy; subst hy; exact HBS5.out.2.2.1)) (fun p hp => (HFI.out p hp).1)) (m := 715 * N + 73 + 73 + 715) ⟨HL9.out.rd, HL9.out.md, HL9.out.gn, HL9.out.n, HL9.out.bl, Nat.zero_le _, by show (-1 : Int) ≤ -1 ∧ (-1 : Int) ≤ 1000; omega⟩ (by have := HLB.out.2.1; omega))
                  clear hX9 c1 f1 c4 f4 HF10 HF9
                  go_wp2_with (first | (refine wpL_val rfl (ex_ldP HRK.out HBR9.out rfl rfl) ?_) | fail)
                  refine HTE.out.mono ?_
                  rintro e X10 ⟨nv3, nb3, s10, rs10, rfl, -, hf10, -, -⟩
                  have HT10 := Lib.hid hf10.tab
                  have HB10 := Lib.hid (HB1.out.trans (hf10.bel.mono HB1.out.size))
                  have hx0 : (fun _ : World => True) X10 := trivial
                  clear hf10 HTE HBR9
                  go_upto_region 44 with fail
                  refine wp_region_list ?_
                  refine tl_val (S := fun _ => True) (.bool true) (by rfl) hx0 (fun X hX => by first | rfl | go_simp) ?_
                  (try simp only [Act.put, List.setIfInBounds_toArray, List.set_cons_zero, List.set_cons_succ])
                  refine tl_val (S := fun _ => True) (.bool true) (by rfl) hx0 (fun X hX => by first | rfl | go_simp) ?_
                  (try simp only [Act.put, List.setIfInBounds_toArray, List.set_cons_zero, List.set_cons_succ])
                  refine tl_call (by rfl) 6 #[] (by go_simp) (fun u X => u = .bool true ∧ Below w.heap.size w X) ((twakes_any _ HT10.out).mono fun e Y ⟨e1, hb⟩ => ⟨_, e1, rfl, HB10.out.trans (hb.mono HB10.out.size)⟩) ?_
                  rintro u X11 ⟨rfl, hb11⟩
                  (try simp only [Act.put, List.setIfInBounds_toArray, List.set_cons_zero, List.set_cons_succ])
                  refine tl_val (S := fun _ => True) (.bool true) (by rfl) trivial (fun X hX => by first | rfl | go_simp) ?_
                  (try simp only [Act.put, List.setIfInBounds_toArray, List.set_cons_zero, List.set_cons_succ])
                  refine tl_val (S := fun _ => True) (.bool true) (by rfl) trivial (fun X hX => by first | rfl | go_simp) ?_
                  (try simp only [Act.put, List.setIfInBounds_toArray, List.set_cons_zero, List.set_cons_succ])
                  refine wpList_nil ?_
                  have HE := Lib.hid (HP.out _ hb11)
                  go_wp2_with fail
                  first | exact HE.out | (go_ret; exact HE.out)
            · as_aux_lemma =>
              have hfA := (HF7.out.drew).add (g := X7.drew.heap.size) (cs := pcells zeroP) (t := 37) ((Below.refl _ _).alloc (Nat.le_refl _) (.cells (pcells zeroP).toArray 37)) (Nat.le_refl _) (Blk.new X7.drew (pcells zeroP) 37)
              refine wpG_mk _ rfl (by rfl) (.pointer (some ⟨X7.drew.heap.size, 0, none⟩)) (X7.drew.alloc (.cells (pcells zeroP).toArray 37)) (ex_alPt rfl) (fun X => ∃ s2, Fr W1 D s2 BS5 X) ⟨_, hfA.sub (fun y hy => by simp [hy])⟩ (fun _ h => h) ?_
              (try simp only [Act.put, List.setIfInBounds_toArray, List.set_cons_zero, List.set_cons_succ])
              refine wpG_call _ rfl (by rfl) 7 #[.agg lc.toArray, .int .i64 99, .slice (some ⟨gH, 0, none⟩) 64 64] (fun X => by go_simp) (fun u X => LvPost (X7.drew.alloc (.cells (pcells zeroP).toArray 37)) 99 h (.returned u) X) ((HLV.out (X7.drew.alloc (.cells (pcells zeroP).toArray 37)) hfA (by simp [HBS5.out.2.2.1])).mono fun e X he => by
                obtain ⟨ov, ls, e1, h2, h3, h4⟩ := he
                exact ⟨_, e1, ⟨_, ((hfA).below h2).sub (fun y hy => by simp [hy])⟩, ov, ls, rfl, h2, h3, h4⟩) ?_
              rintro u Y1 hy1 ⟨ov, ls, e3, hbl, hol, hll⟩
              injection e3 with e4
              subst e4
              obtain ⟨lb2, hlb1, hlb2⟩ := RowB.of hol
              obtain ⟨spl2, capl2, rfl⟩ := hlb1.form
              have hfl := fr_add (hfA) hbl (fun y hy => ⟨(hlb2 y hy).1, (hol.lt _ (hlb2 y hy).2).1⟩)
              refine ⟨_, fun _ h => h, hy1, ?_⟩
              (try simp only [Act.put, List.setIfInBounds_toArray, List.set_cons_zero, List.set_cons_succ])
              have hset1 := HSETF.out (lb2 ++ ((X7.drew.heap.size, pcells zeroP, 37) :: BS5)) Y1 ls hll (.slice spl2 ls.length capl2) lb2 hfl hlb1 (fun y hy => by simp [hy])
              refine wpG_call _ rfl (by rfl) 8 #[shI D, .agg (pcells root).toArray, .int .u16 9, .slice spl2 ls.length capl2] (fun X => by go_simp) (fun u X => ∃ s6 p6 e6, u = .tuple #[.agg (pcells p6).toArray, .int .i64 ((e6 : Nat) : Int)] ∧ (e6 = 0 ∨ e6 = 21 ∨ e6 = 30) ∧ Pt.OK p6 ∧ (∀ (k : Nat) (b : Bs), s.blocks[k]? = some b → s6.blocks[k]? = some b) ∧ Lim (715 * N + 73 + 73 + 715) s6 ∧ Fr W1 D s6 (lb2 ++ ((X7.drew.heap.size, pcells zeroP, 37) :: BS5)) X) (hset1.mono fun e X ⟨s6, p6, e6, e1, a1, a2, a3, a4, a5⟩ => ⟨_, e1, ⟨s6, a5.sub (fun y hy => by simp [hy])⟩, s6, p6, e6, rfl, a1, a2, a3, a4, a5⟩) ?_
              rintro u Z1 hz1 ⟨s6, p6, e6, rfl, ha1, ha2, ha3, ha4, ha5⟩
              refine ⟨_, fun _ h => h, hz1, ?_⟩
              (try simp only [Act.put, List.setIfInBounds_toArray, List.set_cons_zero, List.set_cons_succ])
              refine wpG_take _ (.tuple #[.agg (pcells p6).toArray, .int .i64 ((e6 : Nat) : Int)]) rfl (by rfl) (fun X hX => by first | rfl | go_simp) ?_
              (try simp only [Act.put, List.setIfInBounds_toArray, List.set_cons_zero, List.set_cons_succ])
              refine wpG_take _ (.agg (pcells p6).toArray) rfl (by rfl) (fun X hX => by first | rfl | go_simp) ?_
              (try simp only [Act.put, List.setIfInBounds_toArray, List.set_cons_zero, List.set_cons_succ])
              refine wpG_take _ (.int .i64 ((e6 : Nat) : Int)) rfl (by rfl) (fun X hX => by first | rfl | go_simp) ?_
              (try simp only [Act.put, List.setIfInBounds_toArray, List.set_cons_zero, List.set_cons_succ])
              have hgA : W1.heap.size ≤ X7.drew.heap.size := (HF7.out.drew).bel.size
              have hgB : ∀ z ∈ lb2 ++ BS5, z.1 ≠ X7.drew.heap.size := fun z hz e => by
                rcases List.mem_append.1 hz with h | h
                · have h1 := (hol.lt _ (hlb2 z h).2).1
                  have h2 : (X7.drew.alloc (.cells (pcells zeroP).toArray 37)).heap.size = X7.drew.heap.size + 1 := Array.size_push _
                  omega
                · have := ((HF7.out.drew).bx z h).lt
                  omega
              have hfB := (ha5.sub (bs' := (X7.drew.heap.size, pcells zeroP, 37) :: (lb2 ++ BS5)) (fun y hy => by simp only [List.mem_cons, List.mem_append] at hy ⊢; rcases hy with h | h | h <;> simp [h]))
              have hfe : Fr W1 D s6 BS5 ((Z1).setRow X7.drew.heap.size (pcells p6).toArray) := (fr_row (cs' := pcells p6) hfB hgA hgB).sub (fun y hy => by simp [hy])
              refine wpG_row _ rfl (by rfl) 37 (.tmp 27) (.tmp 210) rfl X7.drew.heap.size (pcells p6).toArray rfl rfl (hfB.at (g := X7.drew.heap.size) (cs := pcells zeroP) (t := 37) (by simp)) (size_pc ha2) (by rw [List.size_toArray, pcells_length ha2, pcells_length zeroP_ok]) (one_pc p6) (fun X => ∃ s2, Fr W1 D s2 BS5 X) (fun _ h => h) ⟨_, hfe⟩ ?_
              (try simp only [Act.put, List.setIfInBounds_toArray, List.set_cons_zero, List.set_cons_succ])
              refine wpG_take _ (.int .i64 ((e6 : Nat) : Int)) rfl (by rfl) (fun X hX => by first | rfl | go_simp) ?_
              (try simp only [Act.put, List.setIfInBounds_toArray, List.set_cons_zero, List.set_cons_succ])
              refine wpG_nil ?_
              obtain ⟨Z9, hZ9⟩ : ∃ z, z = (Z1).setRow X7.drew.heap.size (pcells p6).toArray := ⟨_, rfl⟩
              rw [← hZ9] at hfe ⊢
              have HF9 := Lib.hid hfe
              have HIT9 : Hid (IsT s6.blocks root h mids) := Lib.hid ((by rw [← HS3F.out.1]; exact HIT3.out : IsT s.blocks root h mids).mono ha3)
              have HL9 := Lib.hid ha4
              obtain ⟨⟨u1, c1⟩, f1⟩ := hfe.stay (j := 1) (by omega)
              have hnb := fr_nobad hfe
              obtain ⟨⟨u4, c4⟩, f4⟩ := hnb.stay (j := 4) (by omega)
              have HF10 := Lib.hid (fr_room hnb (-1))
              clear hZ9 hfe ha3 ha4 ha5 hnb HF7 HF
              rcases ha1 with rfl | rfl | rfl
              · have hx0 : (fun _ : World => True) Z9 := trivial
                go_upto_region 40 with fail
                refine wp_region_list ?_
                refine tl_val (S := fun _ => True) (.int .i64 0) (by rfl) hx0 (fun X hX => by first | rfl | go_simp) ?_
                (try simp only [Act.put, List.setIfInBounds_toArray, List.set_cons_zero, List.set_cons_succ])
                refine tl_val (S := fun _ => True) (.bool false) (by rfl) hx0 (fun X hX => by first | rfl | go_simp) ?_
                (try simp only [Act.put, List.setIfInBounds_toArray, List.set_cons_zero, List.set_cons_succ])
                refine tl_val (S := fun _ => True) (.bool false) (by rfl) hx0 (fun X hX => by first | rfl | go_simp) ?_
                (try simp only [Act.put, List.setIfInBounds_toArray, List.set_cons_zero, List.set_cons_succ])
                refine tl_skip (by rfl) ?_
                (try simp only [Act.put, List.setIfInBounds_toArray, List.set_cons_zero, List.set_cons_succ])
                refine tl_skip (by rfl) ?_
                (try simp only [Act.put, List.setIfInBounds_toArray, List.set_cons_zero, List.set_cons_succ])
                refine tl_val (S := fun _ => True) (.bool false) (by rfl) hx0 (fun X hX => by first | rfl | go_simp) ?_
                (try simp only [Act.put, List.setIfInBounds_toArray, List.set_cons_zero, List.set_cons_succ])
                refine tl_val (S := fun _ => True) (.bool false) (by rfl) hx0 (fun X hX => by first | rfl | go_simp) ?_
                (try simp only [Act.put, List.setIfInBounds_toArray, List.set_cons_zero, List.set_cons_succ])
                refine tl_skip (by rfl) ?_
                (try simp only [Act.put, List.setIfInBounds_toArray, List.set_cons_zero, List.set_cons_succ])
                refine tl_skip (by rfl) ?_
                (try simp only [Act.put, List.setIfInBounds_toArray, List.set_cons_zero, List.set_cons_succ])
                refine tl_val (S := fun _ => True) (.bool false) (by rfl) hx0 (fun X hX => by first | rfl | go_simp) ?_
                (try simp only [Act.put, List.setIfInBounds_toArray, List.set_cons_zero, List.set_cons_succ])
                refine wpList_nil ?_
                clear hx0
                go_upto_region 43 with fail
                refine (fun (k' : ∀ W, Fr W1 D { s6 with bad := [], room := -1 } BS5 W → Code.wp _ _ _ _ W) => k' _ HF10.out) ?_
                intro X9 hX9
                have HBR9 := Lib.hid (hX9.at HBS5.out.2.1)
                have HTE := Lib.hid (tells_go (h := h) (mids := mids) hX9 HIT9.out rfl HRK.out gH 64 (Nat.le_refl _) (fun s2 bs' Y hY hsub => HMB.out.src hY (fun y hy => hsub y (by simp at hy; subst hy; exact HBS5.out.2.2.1)) (fun p hp => (HFI.out p hp).1)) (m := 715 * N + 73 + 73 + 715) ⟨HL9.out.rd, HL9.out.md, HL9.out.gn, HL9.out.n, HL9.out.bl, Nat.zero_le _, by show (-1 : Int) ≤ -1 ∧ (-1 : Int) ≤ 1000; omega⟩ (by have := HLB.out.2.1; omega))
                clear hX9 c1 f1 c4 f4 HF10 HF9
                go_wp2_with (first | (refine wpL_val rfl (ex_ldP HRK.out HBR9.out rfl rfl) ?_) | fail)
                refine HTE.out.mono ?_
                rintro e X10 ⟨nv3, nb3, s10, rs10, rfl, -, hf10, -, -⟩
                have HT10 := Lib.hid hf10.tab
                have HB10 := Lib.hid (HB1.out.trans (hf10.bel.mono HB1.out.size))
                have hx0 : (fun _ : World => True) X10 := trivial
                clear hf10 HTE HBR9
                go_upto_region 44 with fail
                refine wp_region_list ?_
                refine tl_val (S := fun _ => True) (.bool true) (by rfl) hx0 (fun X hX => by first | rfl | go_simp) ?_
                (try simp only [Act.put, List.setIfInBounds_toArray, List.set_cons_zero, List.set_cons_succ])
                refine tl_val (S := fun _ => True) (.bool true) (by rfl) hx0 (fun X hX => by first | rfl | go_simp) ?_
                (try simp only [Act.put, List.setIfInBounds_toArray, List.set_cons_zero, List.set_cons_succ])
                refine tl_call (by rfl) 6 #[] (by go_simp) (fun u X => u = .bool true ∧ Below w.heap.size w X) ((twakes_any _ HT10.out).mono fun e Y ⟨e1, hb⟩ => ⟨_, e1, rfl, HB10.out.trans (hb.mono HB10.out.size)⟩) ?_
                rintro u X11 ⟨rfl, hb11⟩
                (try simp only [Act.put, List.setIfInBounds_toArray, List.set_cons_zero, List.set_cons_succ])
                refine tl_val (S := fun _ => True) (.bool true) (by rfl) trivial (fun X hX => by first | rfl | go_simp) ?_
                (try simp only [Act.put, List.setIfInBounds_toArray, List.set_cons_zero, List.set_cons_succ])
                refine tl_val (S := fun _ => True) (.bool true) (by rfl) trivial (fun X hX => by first | rfl | go_simp) ?_
                (try simp only [Act.put, List.setIfInBounds_toArray, List.set_cons_zero, List.set_cons_succ])
                refine wpList_nil ?_
                have HE := Lib.hid (HP.out _ hb11)
                go_wp2_with fail
                first | exact HE.out | (go_ret; exact HE.out)
              · have hx0 : (fun _ : World => True) Z9 := trivial
                go_upto_region 40 with fail
                refine wp_region_list ?_
                refine tl_val (S := fun _ => True) (.int .i64 21) (by rfl) hx0 (fun X hX => by first | rfl | go_simp) ?_
                (try simp only [Act.put, List.setIfInBounds_toArray, List.set_cons_zero, List.set_cons_succ])
                refine tl_val (S := fun _ => True) (.bool true) (by rfl) hx0 (fun X hX => by first | rfl | go_simp) ?_
                (try simp only [Act.put, List.setIfInBounds_toArray, List.set_cons_zero, List.set_cons_succ])
                refine tl_val (S := fun _ => True) (.bool true) (by rfl) hx0 (fun X hX => by first | rfl | go_simp) ?_
                (try simp only [Act.put, List.setIfInBounds_toArray, List.set_cons_zero, List.set_cons_succ])
                refine tl_val (S := fun _ => True) (.int .i64 21) (by rfl) hx0 (fun X hX => by first | rfl | go_simp) ?_
                (try simp only [Act.put, List.setIfInBounds_toArray, List.set_cons_zero, List.set_cons_succ])
                refine tl_val (S := fun _ => True) (.bool false) (by rfl) hx0 (fun X hX => by first | rfl | go_simp) ?_
                (try simp only [Act.put, List.setIfInBounds_toArray, List.set_cons_zero, List.set_cons_succ])
                refine tl_val (S := fun _ => True) (.bool false) (by rfl) hx0 (fun X hX => by first | rfl | go_simp) ?_
                (try simp only [Act.put, List.setIfInBounds_toArray, List.set_cons_zero, List.set_cons_succ])
                refine tl_val (S := fun _ => True) (.bool false) (by rfl) hx0 (fun X hX => by first | rfl | go_simp) ?_
                (try simp only [Act.put, List.setIfInBounds_toArray, List.set_cons_zero, List.set_cons_succ])
                refine tl_skip (by rfl) ?_
                (try simp only [Act.put, List.setIfInBounds_toArray, List.set_cons_zero, List.set_cons_succ])
                refine tl_skip (by rfl) ?_
                (try simp only [Act.put, List.setIfInBounds_toArray, List.set_cons_zero, List.set_cons_succ])
                refine tl_val (S := fun _ => True) (.bool false) (by rfl) hx0 (fun X hX => by first | rfl | go_simp) ?_
                (try simp only [Act.put, List.setIfInBounds_toArray, List.set_cons_zero, List.set_cons_succ])
                refine wpList_nil ?_
                clear hx0
                go_upto_region 43 with fail
                refine (fun (k' : ∀ W, Fr W1 D { s6 with bad := [], room := -1 } BS5 W → Code.wp _ _ _ _ W) => k' _ HF10.out) ?_
                intro X9 hX9
                have HBR9 := Lib.hid (hX9.at HBS5.out.2.1)
                have HTE := Lib.hid (tells_go (h := h) (mids := mids) hX9 HIT9.out rfl HRK.out gH 64 (Nat.le_refl _) (fun s2 bs' Y hY hsub => HMB.out.src hY (fun y hy => hsub y (by simp at hy; subst hy; exact HBS5.out.2.2.1)) (fun p hp => (HFI.out p hp).1)) (m := 715 * N + 73 + 73 + 715) ⟨HL9.out.rd, HL9.out.md, HL9.out.gn, HL9.out.n, HL9.out.bl, Nat.zero_le _, by show (-1 : Int) ≤ -1 ∧ (-1 : Int) ≤ 1000; omega⟩ (by have := HLB.out.2.1; omega))
                clear hX9 c1 f1 c4 f4 HF10 HF9
                go_wp2_with (first | (refine wpL_val rfl (ex_ldP HRK.out HBR9.out rfl rfl) ?_) | fail)
                refine HTE.out.mono ?_
                rintro e X10 ⟨nv3, nb3, s10, rs10, rfl, -, hf10, -, -⟩
                have HT10 := Lib.hid hf10.tab
                have HB10 := Lib.hid (HB1.out.trans (hf10.bel.mono HB1.out.size))
                have hx0 : (fun _ : World => True) X10 := trivial
                clear hf10 HTE HBR9
                go_upto_region 44 with fail
                refine wp_region_list ?_
                refine tl_val (S := fun _ => True) (.bool true) (by rfl) hx0 (fun X hX => by first | rfl | go_simp) ?_
                (try simp only [Act.put, List.setIfInBounds_toArray, List.set_cons_zero, List.set_cons_succ])
                refine tl_val (S := fun _ => True) (.bool true) (by rfl) hx0 (fun X hX => by first | rfl | go_simp) ?_
                (try simp only [Act.put, List.setIfInBounds_toArray, List.set_cons_zero, List.set_cons_succ])
                refine tl_call (by rfl) 6 #[] (by go_simp) (fun u X => u = .bool true ∧ Below w.heap.size w X) ((twakes_any _ HT10.out).mono fun e Y ⟨e1, hb⟩ => ⟨_, e1, rfl, HB10.out.trans (hb.mono HB10.out.size)⟩) ?_
                rintro u X11 ⟨rfl, hb11⟩
                (try simp only [Act.put, List.setIfInBounds_toArray, List.set_cons_zero, List.set_cons_succ])
                refine tl_val (S := fun _ => True) (.bool true) (by rfl) trivial (fun X hX => by first | rfl | go_simp) ?_
                (try simp only [Act.put, List.setIfInBounds_toArray, List.set_cons_zero, List.set_cons_succ])
                refine tl_val (S := fun _ => True) (.bool true) (by rfl) trivial (fun X hX => by first | rfl | go_simp) ?_
                (try simp only [Act.put, List.setIfInBounds_toArray, List.set_cons_zero, List.set_cons_succ])
                refine wpList_nil ?_
                have HE := Lib.hid (HP.out _ hb11)
                go_wp2_with fail
                first | exact HE.out | (go_ret; exact HE.out)
              · have hx0 : (fun _ : World => True) Z9 := trivial
                go_upto_region 40 with fail
                refine wp_region_list ?_
                refine tl_val (S := fun _ => True) (.int .i64 30) (by rfl) hx0 (fun X hX => by first | rfl | go_simp) ?_
                (try simp only [Act.put, List.setIfInBounds_toArray, List.set_cons_zero, List.set_cons_succ])
                refine tl_val (S := fun _ => True) (.bool true) (by rfl) hx0 (fun X hX => by first | rfl | go_simp) ?_
                (try simp only [Act.put, List.setIfInBounds_toArray, List.set_cons_zero, List.set_cons_succ])
                refine tl_val (S := fun _ => True) (.bool true) (by rfl) hx0 (fun X hX => by first | rfl | go_simp) ?_
                (try simp only [Act.put, List.setIfInBounds_toArray, List.set_cons_zero, List.set_cons_succ])
                refine tl_val (S := fun _ => True) (.int .i64 30) (by rfl) hx0 (fun X hX => by first | rfl | go_simp) ?_
                (try simp only [Act.put, List.setIfInBounds_toArray, List.set_cons_zero, List.set_cons_succ])
                refine tl_val (S := fun _ => True) (.bool true) (by rfl) hx0 (fun X hX => by first | rfl | go_simp) ?_
                (try simp only [Act.put, List.setIfInBounds_toArray, List.set_cons_zero, List.set_cons_succ])
                refine tl_val (S := fun _ => True) (.bool true) (by rfl) hx0 (fun X hX => by first | rfl | go_simp) ?_
                (try simp only [Act.put, List.setIfInBounds_toArray, List.set_cons_zero, List.set_cons_succ])
                refine tl_val (S := fun _ => True) (.bool true) (by rfl) hx0 (fun X hX => by first | rfl | go_simp) ?_
                (try simp only [Act.put, List.setIfInBounds_toArray, List.set_cons_zero, List.set_cons_succ])
                refine tl_val (S := fun _ => True) (.int .i64 30) (by rfl) hx0 (fun X hX => by first | rfl | go_simp) ?_
                (try simp only [Act.put, List.setIfInBounds_toArray, List.set_cons_zero, List.set_cons_succ])
                refine tl_val (S := fun _ => True) (.bool false) (by rfl) hx0 (fun X hX => by first | rfl | go_simp) ?_
                (try simp only [Act.put, List.setIfInBounds_toArray, List.set_cons_zero, List.set_cons_succ])
                refine tl_val (S := fun _ => True) (.bool false) (by rfl) hx0 (fun X hX => by first | rfl | go_simp) ?_
                (try simp only [Act.put, List.setIfInBounds_toArray, List.set_cons_zero, List.set_cons_succ])
                refine wpList_nil ?_
                clear hx0
                go_upto_region 43 with fail
                refine (fun (k' : ∀ W, Fr W1 D { s6 with bad := [], room := -1 } BS5 W → Code.wp _ _ _ _ W) => k' _ HF10.out) ?_
                intro X9 hX9
                have HBR9 := Lib.hid (hX9.at HBS5.out.2.1)
                have HTE := Lib.hid (tells_go (h := h) (mids := mids) hX9 HIT9.out rfl HRK.out gH 64 (Nat.le_refl _) (fun s2 bs' Y hY hsub => HMB.out.src hY (fun y hy => hsub y (by simp at hy; subst hy; exact HBS5.out.2.2.1)) (fun p hp => (HFI.out p hp).1)) (m := 715 * N + 73 + 73 + 715) ⟨HL9.out.rd, HL9.out.md, HL9.out.gn, HL9.out.n, HL9.out.bl, Nat.zero_le _, by show (-1 : Int) ≤ -1 ∧ (-1 : Int) ≤ 1000; omega⟩ (by have := HLB.out.2.1; omega))
                clear hX9 c1 f1 c4 f4 HF10 HF9
                go_wp2_with (first | (refine wpL_val rfl (ex_ldP HRK.out HBR9.out rfl rfl) ?_) | fail)
                refine HTE.out.mono ?_
                rintro e X10 ⟨nv3, nb3, s10, rs10, rfl, -, hf10, -, -⟩
                have HT10 := Lib.hid hf10.tab
                have HB10 := Lib.hid (HB1.out.trans (hf10.bel.mono HB1.out.size))
                have hx0 : (fun _ : World => True) X10 := trivial
                clear hf10 HTE HBR9
                go_upto_region 44 with fail
                refine wp_region_list ?_
                refine tl_val (S := fun _ => True) (.bool true) (by rfl) hx0 (fun X hX => by first | rfl | go_simp) ?_
                (try simp only [Act.put, List.setIfInBounds_toArray, List.set_cons_zero, List.set_cons_succ])
                refine tl_val (S := fun _ => True) (.bool true) (by rfl) hx0 (fun X hX => by first | rfl | go_simp) ?_
                (try simp only [Act.put, List.setIfInBounds_toArray, List.set_cons_zero, List.set_cons_succ])
                refine tl_call (by rfl) 6 #[] (by go_simp) (fun u X => u = .bool true ∧ Below w.heap.size w X) ((twakes_any _ HT10.out).mono fun e Y ⟨e1, hb⟩ => ⟨_, e1, rfl, HB10.out.trans (hb.mono HB10.out.size)⟩) ?_
                rintro u X11 ⟨rfl, hb11⟩
                (try simp only [Act.put, List.setIfInBounds_toArray, List.set_cons_zero, List.set_cons_succ])
                refine tl_val (S := fun _ => True) (.bool true) (by rfl) trivial (fun X hX => by first | rfl | go_simp) ?_
                (try simp only [Act.put, List.setIfInBounds_toArray, List.set_cons_zero, List.set_cons_succ])
                refine tl_val (S := fun _ => True) (.bool true) (by rfl) trivial (fun X hX => by first | rfl | go_simp) ?_
                (try simp only [Act.put, List.setIfInBounds_toArray, List.set_cons_zero, List.set_cons_succ])
                refine wpList_nil ?_
                have HE := Lib.hid (HP.out _ hb11)
                go_wp2_with fail
                first | exact HE.out | (go_ret; exact HE.out)
end Go.Proofs.YtfcjeceoedfldaaDoor
