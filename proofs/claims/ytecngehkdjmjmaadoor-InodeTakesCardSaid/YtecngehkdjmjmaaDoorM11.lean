/- Inodes: the document's May. -/
import Derived.Test.YtecngehkdjmjmaaDoorM10
namespace Go.Proofs.YtecngehkdjmjmaaDoor
open Go.RowKit

theorem tl_val {ops : Array Oper} {rest : List Oper} {o : Oper} {a : Act} {Q : Exit → Act → World → Prop} {S : World → Prop} {w : World} (v : Value) (hw : Region.wanted o (yielded ops a.tmps) = true) (hS : S w) (hrun : ∀ w, S w → (execOp a.eval o).run Tryd.prog w = .ok (.value v) w)
    (hK : wpList Tryd.prog ops Q rest (a.put o.dst v) w) : wpList Tryd.prog ops Q (o :: rest) a w := wpL_valG hw (hrun w hS) hK
theorem tl_skip {ops : Array Oper} {rest : List Oper} {o : Oper} {a : Act} {Q : Exit → Act → World → Prop} {w : World} (hw : Region.wanted o (yielded ops a.tmps) = false)
    (hK : wpList Tryd.prog ops Q rest (a.put o.dst undef) w) : wpList Tryd.prog ops Q (o :: rest) a w := by
  unfold wpList
  rw [if_neg (by simp [hw])]
  exact hK
theorem tl_call {ops : Array Oper} {rest : List Oper} {o : Oper} {a : Act} {Q : Exit → Act → World → Prop} {w : World} (hw : Region.wanted o (yielded ops a.tmps) = true) (f : FuncId) (args : Array Value) (hrun : (execOp a.eval o).run Tryd.prog w = .ok (.enter f args) w)
    (C : Value → World → Prop) (hc : Calls Tryd.prog f args w fun e w' => ∃ v, e = .returned v ∧ C v w') (hK : ∀ v w', C v w' → wpList Tryd.prog ops Q rest (a.put o.dst v) w') : wpList Tryd.prog ops Q (o :: rest) a w := by
  unfold wpList
  rw [if_pos hw]
  refine .inl ?_
  unfold Oper.wp
  rw [hrun]
  exact hc.mono fun e w' ⟨v, e1, h1⟩ => by subst e1; exact hK v w' h1

theorem tl_skipU {ops : Array Oper} {rest : List Oper} {o : Oper} {a : Act} {Q : Exit → Act → World → Prop} {w : World} {u : Value} (hu : u = undef) (hw : Region.wanted o (yielded ops a.tmps) = false)
    (hK : wpList Tryd.prog ops Q rest (a.put o.dst u) w) : wpList Tryd.prog ops Q (o :: rest) a w := by subst hu; exact tl_skip hw hK
def okI (n : Ino) : Bool := decide (1 ≤ n.kind ∧ n.kind ≤ 3) && decide (n.size ≤ 32768) && decide (n.kind = 3 → 1 ≤ n.size ∧ n.size ≤ 128)
set_option maxRecDepth 100000 in
set_option maxHeartbeats 8000000 in
theorem rimay_any (n : Ino) (h : n.OK) (w : World) : Calls Tryd.prog 8 #[.agg (icells n).toArray] w fun e w' => e = .returned (.bool (mayI n)) ∧ Below w.heap.size w w' := by
  have HN := Lib.hid h; have HPO := Lib.hid h.root
  have HB0 := Lib.hid (Blk.new w (icells n) 30)
  have HW : Hid (Below w.heap.size w (w.alloc (.cells (icells n).toArray 30))) := Lib.hid ((Below.refl _ _).alloc (Nat.le_refl _) _)
  obtain ⟨b, hb⟩ : ∃ b, mayI n = b := ⟨_, rfl⟩
  have HRB : Hid (b = (eqI n zeroI || (okI n && rootI n.root))) := Lib.hid hb.symm
  rw [hb]
  generalize hPost : (fun e w' => e = Ending.returned (.bool b) ∧ Below w.heap.size w w') = Post
  have HP : Hid (∀ c, b = c → ∀ w', Below w.heap.size w w' → Post (.returned (.bool c)) w') := Lib.hid fun c hc w' h => by rw [← hPost, hc]; exact ⟨rfl, h⟩
  have HQM : Hid (∀ W, Calls Tryd.prog 17 #[.agg (pcells n.root).toArray] W fun e w' => e = .returned (.bool (mayP n.root)) ∧ Below W.heap.size W w') := Lib.hid (fun W => by rw [mayP_eq h.root.len]; exact qmay_any n.root h.root W)
  clear h hb hPost
  go_enter Tryd.func8, Tryd.ntmps8
  go_upto_region 1 with fail
  obtain ⟨G, hG⟩ : ∃ G, w.heap.size = G := ⟨_, rfl⟩
  rw [hG] at HB0 ⊢
  generalize (w.alloc (.cells (icells n).toArray 30)) = W at HB0 HW ⊢
  have HB : Hid (∀ X, X = W → Blk X G (icells n) 30) := Lib.hid (fun X hX => hX ▸ HB0.out)
  have HC : Hid (∀ {w2}, Below W.heap.size W w2 → Below w.heap.size w w2) := Lib.hid (fun hb => HW.out.trans (hb.mono HW.out.size))
  obtain ⟨z0, hz0⟩ : ∃ z, eqI n zeroI = z := ⟨_, rfl⟩
  have HZ0 := Lib.hid hz0
  have HOK : Hid (okI n = (decide (1 ≤ n.kind ∧ n.kind ≤ 3) && decide (n.size ≤ 32768) && decide (n.kind = 3 → 1 ≤ n.size ∧ n.size ≤ 128))) := Lib.hid rfl
  have HRI : Hid (rootI n.root = (eqP n.root zeroP || (decide (n.root.kind = 3) && decide (n.root.level = 2) && mayP n.root))) := Lib.hid rfl
  have hC0 : ∀ X, X = W → X.cell? ⟨G, 0, none⟩ = some (.int .u8 (n.kind : Int)) := fun X hX => (HB.out X hX).cell (j := 0) rfl
  have hC2 : ∀ X, X = W → X.cell? ⟨G, 2, none⟩ = some (.int .u32 (n.size : Int)) := fun X hX => (HB.out X hX).cell (j := 2) rfl
  have hC3 : ∀ X, X = W → X.cell? ⟨G, 3, none⟩ = some (.int .u8 (n.root.kind : Int)) := fun X hX => (HB.out X hX).cell (j := 3) rfl
  have hC4 : ∀ X, X = W → X.cell? ⟨G, 4, none⟩ = some (.int .u8 (n.root.level : Int)) := fun X hX => (HB.out X hX).cell (j := 4) rfl
  obtain ⟨kk, hkk⟩ : ∃ k, n.kind = k := ⟨_, rfl⟩
  obtain ⟨ss, hss⟩ : ∃ k, n.size = k := ⟨_, rfl⟩
  obtain ⟨pk, hpk⟩ : ∃ k, n.root.kind = k := ⟨_, rfl⟩
  obtain ⟨pl, hpl⟩ : ∃ k, n.root.level = k := ⟨_, rfl⟩
  obtain ⟨oo, hoo⟩ : ∃ k, okI n = k := ⟨_, rfl⟩
  obtain ⟨rr, hrr⟩ : ∃ k, rootI n.root = k := ⟨_, rfl⟩
  obtain ⟨mm, hmm⟩ : ∃ k, mayP n.root = k := ⟨_, rfl⟩
  obtain ⟨zp, hzp⟩ : ∃ k, eqP n.root zeroP = k := ⟨_, rfl⟩
  have HZ := Lib.hid hzp
  rw [hkk] at hC0 HOK
  rw [hss] at hC2 HOK
  rw [hpk] at hC3 HRI
  rw [hpl] at hC4 HRI
  rw [hoo] at HOK HRB
  rw [hrr] at HRI HRB
  rw [hmm] at HRI HQM
  rw [hzp] at HRI
  rw [hz0] at HRB
  have HC0 := Lib.hid hC0; have HC2 := Lib.hid hC2; have HC3 := Lib.hid hC3; have HC4 := Lib.hid hC4
  clear hkk hss hpk hpl hoo hrr hmm hzp hz0 hG hC0 hC2 hC3 hC4 HB0
  obtain ⟨U, hU⟩ : ∃ u, u = undef := ⟨_, rfl⟩
  have HU := Lib.hid hU
  clear hU
  cases z0
  · have HRB2 : Hid (b = (oo && rr)) := Lib.hid (by rw [HRB.out]; rfl)
    clear HRB
    go_upto_region 3 with (first | (refine wpL_valG (by rfl) (ex_ldRn HN.out (HB.out _ rfl) rfl rfl) ?_) | (refine wpL_valG (by rfl) (ex_bldR0 rfl) ?_) | (refine wpL_valG (by rfl) (ex_eqRb HZ0.out rfl rfl rfl HN.out zeroI_ok) ?_) | fail)
    simp only [Act.put, List.setIfInBounds_toArray, List.set_cons_zero, List.set_cons_succ]
    go_cut [33] (fun v wx => v = .bool (!oo) ∧ wx = W)
    case first =>
      have hx0 : W = W := rfl
      by_cases k1 : kk < 1
      · obtain ⟨z, hz⟩ : ∃ z, decide ((kk : Int) < 1) = z := ⟨_, rfl⟩
        have HZ1 := Lib.hid hz
        have HZT : Hid (z = true) := Lib.hid (by rw [← hz]; simp; omega)
        have HO : Hid (z = !oo) := Lib.hid (by rw [HZT.out, HOK.out, decide_eq_false (by omega : ¬ (1 ≤ kk ∧ kk ≤ 3))]; simp)
        clear hz
        refine wp_region_list ?_
        refine tl_val (S := fun X => X = W) (.pointer (some ⟨G, 0, none⟩)) (by rfl) hx0 (fun X hX => by first | rfl | go_simp) ?_
        (try simp only [Act.put, List.setIfInBounds_toArray, List.set_cons_zero, List.set_cons_succ])
        refine tl_val (S := fun X => X = W) (.int .u8 (kk : Int)) (by rfl) hx0 (fun X hX => ex_ld1 Tryd.underlying5 rfl rfl (HC0.out X hX)) ?_
        (try simp only [Act.put, List.setIfInBounds_toArray, List.set_cons_zero, List.set_cons_succ])
        refine tl_val (S := fun X => X = W) (.bool z) (by rfl) hx0 (fun X hX => (by rw [← HZ1.out]; first | rfl | go_simp)) ?_
        (try simp only [Act.put, List.setIfInBounds_toArray, List.set_cons_zero, List.set_cons_succ])
        refine tl_val (S := fun X => X = W) (.bool z) (by rfl) hx0 (fun X hX => by first | rfl | go_simp) ?_
        (try simp only [Act.put, List.setIfInBounds_toArray, List.set_cons_zero, List.set_cons_succ])
        refine tl_skipU HU.out (by first | (rw [HU.out]; rfl) | (rw [HZT.out]; rfl) | rfl) ?_
        (try simp only [Act.put, List.setIfInBounds_toArray, List.set_cons_zero, List.set_cons_succ])
        refine tl_skipU HU.out (by first | (rw [HU.out]; rfl) | (rw [HZT.out]; rfl) | rfl) ?_
        (try simp only [Act.put, List.setIfInBounds_toArray, List.set_cons_zero, List.set_cons_succ])
        refine tl_skipU HU.out (by first | (rw [HU.out]; rfl) | (rw [HZT.out]; rfl) | rfl) ?_
        (try simp only [Act.put, List.setIfInBounds_toArray, List.set_cons_zero, List.set_cons_succ])
        refine tl_val (S := fun X => X = W) (.bool z) (by rfl) hx0 (fun X hX => (by rw [HZT.out]; first | rfl | go_simp)) ?_
        (try simp only [Act.put, List.setIfInBounds_toArray, List.set_cons_zero, List.set_cons_succ])
        refine tl_val (S := fun X => X = W) (.bool z) (by rfl) hx0 (fun X hX => by first | rfl | go_simp) ?_
        (try simp only [Act.put, List.setIfInBounds_toArray, List.set_cons_zero, List.set_cons_succ])
        refine tl_skipU HU.out (by first | (rw [HU.out]; rfl) | (rw [HZT.out]; rfl) | rfl) ?_
        (try simp only [Act.put, List.setIfInBounds_toArray, List.set_cons_zero, List.set_cons_succ])
        refine tl_skipU HU.out (by first | (rw [HU.out]; rfl) | (rw [HZT.out]; rfl) | rfl) ?_
        (try simp only [Act.put, List.setIfInBounds_toArray, List.set_cons_zero, List.set_cons_succ])
        refine tl_skipU HU.out (by first | (rw [HU.out]; rfl) | (rw [HZT.out]; rfl) | rfl) ?_
        (try simp only [Act.put, List.setIfInBounds_toArray, List.set_cons_zero, List.set_cons_succ])
        refine tl_val (S := fun X => X = W) (.bool z) (by rfl) hx0 (fun X hX => (by rw [HZT.out]; first | rfl | go_simp)) ?_
        (try simp only [Act.put, List.setIfInBounds_toArray, List.set_cons_zero, List.set_cons_succ])
        refine tl_val (S := fun X => X = W) (.bool z) (by rfl) hx0 (fun X hX => by first | rfl | go_simp) ?_
        (try simp only [Act.put, List.setIfInBounds_toArray, List.set_cons_zero, List.set_cons_succ])
        refine tl_skipU HU.out (by first | (rw [HU.out]; rfl) | (rw [HZT.out]; rfl) | rfl) ?_
        (try simp only [Act.put, List.setIfInBounds_toArray, List.set_cons_zero, List.set_cons_succ])
        refine tl_skipU HU.out (by first | (rw [HU.out]; rfl) | (rw [HZT.out]; rfl) | rfl) ?_
        (try simp only [Act.put, List.setIfInBounds_toArray, List.set_cons_zero, List.set_cons_succ])
        refine tl_skipU HU.out (by first | (rw [HU.out]; rfl) | (rw [HZT.out]; rfl) | rfl) ?_
        (try simp only [Act.put, List.setIfInBounds_toArray, List.set_cons_zero, List.set_cons_succ])
        refine tl_skipU HU.out (by first | (rw [HU.out]; rfl) | (rw [HZT.out]; rfl) | rfl) ?_
        (try simp only [Act.put, List.setIfInBounds_toArray, List.set_cons_zero, List.set_cons_succ])
        refine tl_skipU HU.out (by first | (rw [HU.out]; rfl) | (rw [HZT.out]; rfl) | rfl) ?_
        (try simp only [Act.put, List.setIfInBounds_toArray, List.set_cons_zero, List.set_cons_succ])
        refine tl_skipU HU.out (by first | (rw [HU.out]; rfl) | (rw [HZT.out]; rfl) | rfl) ?_
        (try simp only [Act.put, List.setIfInBounds_toArray, List.set_cons_zero, List.set_cons_succ])
        refine tl_skipU HU.out (by first | (rw [HU.out]; rfl) | (rw [HZT.out]; rfl) | rfl) ?_
        (try simp only [Act.put, List.setIfInBounds_toArray, List.set_cons_zero, List.set_cons_succ])
        refine tl_skipU HU.out (by first | (rw [HU.out]; rfl) | (rw [HZT.out]; rfl) | rfl) ?_
        (try simp only [Act.put, List.setIfInBounds_toArray, List.set_cons_zero, List.set_cons_succ])
        refine tl_skipU HU.out (by first | (rw [HU.out]; rfl) | (rw [HZT.out]; rfl) | rfl) ?_
        (try simp only [Act.put, List.setIfInBounds_toArray, List.set_cons_zero, List.set_cons_succ])
        refine tl_skipU HU.out (by first | (rw [HU.out]; rfl) | (rw [HZT.out]; rfl) | rfl) ?_
        (try simp only [Act.put, List.setIfInBounds_toArray, List.set_cons_zero, List.set_cons_succ])
        refine tl_skipU HU.out (by first | (rw [HU.out]; rfl) | (rw [HZT.out]; rfl) | rfl) ?_
        (try simp only [Act.put, List.setIfInBounds_toArray, List.set_cons_zero, List.set_cons_succ])
        refine tl_skipU HU.out (by first | (rw [HU.out]; rfl) | (rw [HZT.out]; rfl) | rfl) ?_
        (try simp only [Act.put, List.setIfInBounds_toArray, List.set_cons_zero, List.set_cons_succ])
        refine tl_skipU HU.out (by first | (rw [HU.out]; rfl) | (rw [HZT.out]; rfl) | rfl) ?_
        (try simp only [Act.put, List.setIfInBounds_toArray, List.set_cons_zero, List.set_cons_succ])
        refine tl_val (S := fun X => X = W) (.bool z) (by rfl) hx0 (fun X hX => (by rw [HZT.out]; first | rfl | go_simp)) ?_
        (try simp only [Act.put, List.setIfInBounds_toArray, List.set_cons_zero, List.set_cons_succ])
        refine wpList_nil ?_
        go_wp2_with fail
        go_meet
        case rel => exact ⟨by rw [HO.out], rfl⟩
      by_cases k2 : 3 < kk
      · obtain ⟨z, hz⟩ : ∃ z, decide ((3 : Int) < (kk : Int)) = z := ⟨_, rfl⟩
        have HZ1 := Lib.hid hz
        have HZT : Hid (z = true) := Lib.hid (by rw [← hz]; simp; omega)
        have HO : Hid (z = !oo) := Lib.hid (by rw [HZT.out, HOK.out, decide_eq_false (by omega : ¬ (1 ≤ kk ∧ kk ≤ 3))]; simp)
        have H1 : Hid (decide ((kk : Int) < 1) = false) := Lib.hid (decide_eq_false (by omega))
        clear hz
        refine wp_region_list ?_
        refine tl_val (S := fun X => X = W) (.pointer (some ⟨G, 0, none⟩)) (by rfl) hx0 (fun X hX => by first | rfl | go_simp) ?_
        (try simp only [Act.put, List.setIfInBounds_toArray, List.set_cons_zero, List.set_cons_succ])
        refine tl_val (S := fun X => X = W) (.int .u8 (kk : Int)) (by rfl) hx0 (fun X hX => ex_ld1 Tryd.underlying5 rfl rfl (HC0.out X hX)) ?_
        (try simp only [Act.put, List.setIfInBounds_toArray, List.set_cons_zero, List.set_cons_succ])
        refine tl_val (S := fun X => X = W) (.bool false) (by rfl) hx0 (fun X hX => (by have h0 := H1.out; go_simp)) ?_
        (try simp only [Act.put, List.setIfInBounds_toArray, List.set_cons_zero, List.set_cons_succ])
        refine tl_val (S := fun X => X = W) (.bool false) (by rfl) hx0 (fun X hX => by first | rfl | go_simp) ?_
        (try simp only [Act.put, List.setIfInBounds_toArray, List.set_cons_zero, List.set_cons_succ])
        refine tl_val (S := fun X => X = W) (.pointer (some ⟨G, 0, none⟩)) (by rfl) hx0 (fun X hX => by first | rfl | go_simp) ?_
        (try simp only [Act.put, List.setIfInBounds_toArray, List.set_cons_zero, List.set_cons_succ])
        refine tl_val (S := fun X => X = W) (.int .u8 (kk : Int)) (by rfl) hx0 (fun X hX => ex_ld1 Tryd.underlying5 rfl rfl (HC0.out X hX)) ?_
        (try simp only [Act.put, List.setIfInBounds_toArray, List.set_cons_zero, List.set_cons_succ])
        refine tl_val (S := fun X => X = W) (.bool z) (by rfl) hx0 (fun X hX => (by rw [← HZ1.out]; first | rfl | go_simp)) ?_
        (try simp only [Act.put, List.setIfInBounds_toArray, List.set_cons_zero, List.set_cons_succ])
        refine tl_val (S := fun X => X = W) (.bool z) (by rfl) hx0 (fun X hX => by first | rfl | go_simp) ?_
        (try simp only [Act.put, List.setIfInBounds_toArray, List.set_cons_zero, List.set_cons_succ])
        refine tl_val (S := fun X => X = W) (.bool z) (by rfl) hx0 (fun X hX => by first | rfl | go_simp) ?_
        (try simp only [Act.put, List.setIfInBounds_toArray, List.set_cons_zero, List.set_cons_succ])
        refine tl_skipU HU.out (by first | (rw [HU.out]; rfl) | (rw [HZT.out]; rfl) | rfl) ?_
        (try simp only [Act.put, List.setIfInBounds_toArray, List.set_cons_zero, List.set_cons_succ])
        refine tl_skipU HU.out (by first | (rw [HU.out]; rfl) | (rw [HZT.out]; rfl) | rfl) ?_
        (try simp only [Act.put, List.setIfInBounds_toArray, List.set_cons_zero, List.set_cons_succ])
        refine tl_skipU HU.out (by first | (rw [HU.out]; rfl) | (rw [HZT.out]; rfl) | rfl) ?_
        (try simp only [Act.put, List.setIfInBounds_toArray, List.set_cons_zero, List.set_cons_succ])
        refine tl_val (S := fun X => X = W) (.bool z) (by rfl) hx0 (fun X hX => (by rw [HZT.out]; first | rfl | go_simp)) ?_
        (try simp only [Act.put, List.setIfInBounds_toArray, List.set_cons_zero, List.set_cons_succ])
        refine tl_val (S := fun X => X = W) (.bool z) (by rfl) hx0 (fun X hX => by first | rfl | go_simp) ?_
        (try simp only [Act.put, List.setIfInBounds_toArray, List.set_cons_zero, List.set_cons_succ])
        refine tl_skipU HU.out (by first | (rw [HU.out]; rfl) | (rw [HZT.out]; rfl) | rfl) ?_
        (try simp only [Act.put, List.setIfInBounds_toArray, List.set_cons_zero, List.set_cons_succ])
        refine tl_skipU HU.out (by first | (rw [HU.out]; rfl) | (rw [HZT.out]; rfl) | rfl) ?_
        (try simp only [Act.put, List.setIfInBounds_toArray, List.set_cons_zero, List.set_cons_succ])
        refine tl_skipU HU.out (by first | (rw [HU.out]; rfl) | (rw [HZT.out]; rfl) | rfl) ?_
        (try simp only [Act.put, List.setIfInBounds_toArray, List.set_cons_zero, List.set_cons_succ])
        refine tl_skipU HU.out (by first | (rw [HU.out]; rfl) | (rw [HZT.out]; rfl) | rfl) ?_
        (try simp only [Act.put, List.setIfInBounds_toArray, List.set_cons_zero, List.set_cons_succ])
        refine tl_skipU HU.out (by first | (rw [HU.out]; rfl) | (rw [HZT.out]; rfl) | rfl) ?_
        (try simp only [Act.put, List.setIfInBounds_toArray, List.set_cons_zero, List.set_cons_succ])
        refine tl_skipU HU.out (by first | (rw [HU.out]; rfl) | (rw [HZT.out]; rfl) | rfl) ?_
        (try simp only [Act.put, List.setIfInBounds_toArray, List.set_cons_zero, List.set_cons_succ])
        refine tl_skipU HU.out (by first | (rw [HU.out]; rfl) | (rw [HZT.out]; rfl) | rfl) ?_
        (try simp only [Act.put, List.setIfInBounds_toArray, List.set_cons_zero, List.set_cons_succ])
        refine tl_skipU HU.out (by first | (rw [HU.out]; rfl) | (rw [HZT.out]; rfl) | rfl) ?_
        (try simp only [Act.put, List.setIfInBounds_toArray, List.set_cons_zero, List.set_cons_succ])
        refine tl_skipU HU.out (by first | (rw [HU.out]; rfl) | (rw [HZT.out]; rfl) | rfl) ?_
        (try simp only [Act.put, List.setIfInBounds_toArray, List.set_cons_zero, List.set_cons_succ])
        refine tl_skipU HU.out (by first | (rw [HU.out]; rfl) | (rw [HZT.out]; rfl) | rfl) ?_
        (try simp only [Act.put, List.setIfInBounds_toArray, List.set_cons_zero, List.set_cons_succ])
        refine tl_skipU HU.out (by first | (rw [HU.out]; rfl) | (rw [HZT.out]; rfl) | rfl) ?_
        (try simp only [Act.put, List.setIfInBounds_toArray, List.set_cons_zero, List.set_cons_succ])
        refine tl_skipU HU.out (by first | (rw [HU.out]; rfl) | (rw [HZT.out]; rfl) | rfl) ?_
        (try simp only [Act.put, List.setIfInBounds_toArray, List.set_cons_zero, List.set_cons_succ])
        refine tl_skipU HU.out (by first | (rw [HU.out]; rfl) | (rw [HZT.out]; rfl) | rfl) ?_
        (try simp only [Act.put, List.setIfInBounds_toArray, List.set_cons_zero, List.set_cons_succ])
        refine tl_val (S := fun X => X = W) (.bool z) (by rfl) hx0 (fun X hX => (by rw [HZT.out]; first | rfl | go_simp)) ?_
        (try simp only [Act.put, List.setIfInBounds_toArray, List.set_cons_zero, List.set_cons_succ])
        refine wpList_nil ?_
        go_wp2_with fail
        go_meet
        case rel => exact ⟨by rw [HO.out], rfl⟩
      by_cases k3 : 32768 < ss
      · obtain ⟨z, hz⟩ : ∃ z, decide ((32768 : Int) < (ss : Int)) = z := ⟨_, rfl⟩
        have HZ1 := Lib.hid hz
        have HZT : Hid (z = true) := Lib.hid (by rw [← hz]; simp; omega)
        have HO : Hid (z = !oo) := Lib.hid (by rw [HZT.out, HOK.out, decide_eq_false (by omega : ¬ (ss ≤ 32768))]; simp)
        have H1 : Hid (decide ((kk : Int) < 1) = false) := Lib.hid (decide_eq_false (by omega))
        have H2 : Hid (decide ((3 : Int) < (kk : Int)) = false) := Lib.hid (decide_eq_false (by omega))
        clear hz
        refine wp_region_list ?_
        refine tl_val (S := fun X => X = W) (.pointer (some ⟨G, 0, none⟩)) (by rfl) hx0 (fun X hX => by first | rfl | go_simp) ?_
        (try simp only [Act.put, List.setIfInBounds_toArray, List.set_cons_zero, List.set_cons_succ])
        refine tl_val (S := fun X => X = W) (.int .u8 (kk : Int)) (by rfl) hx0 (fun X hX => ex_ld1 Tryd.underlying5 rfl rfl (HC0.out X hX)) ?_
        (try simp only [Act.put, List.setIfInBounds_toArray, List.set_cons_zero, List.set_cons_succ])
        refine tl_val (S := fun X => X = W) (.bool false) (by rfl) hx0 (fun X hX => (by have h0 := H1.out; go_simp)) ?_
        (try simp only [Act.put, List.setIfInBounds_toArray, List.set_cons_zero, List.set_cons_succ])
        refine tl_val (S := fun X => X = W) (.bool false) (by rfl) hx0 (fun X hX => by first | rfl | go_simp) ?_
        (try simp only [Act.put, List.setIfInBounds_toArray, List.set_cons_zero, List.set_cons_succ])
        refine tl_val (S := fun X => X = W) (.pointer (some ⟨G, 0, none⟩)) (by rfl) hx0 (fun X hX => by first | rfl | go_simp) ?_
        (try simp only [Act.put, List.setIfInBounds_toArray, List.set_cons_zero, List.set_cons_succ])
        refine tl_val (S := fun X => X = W) (.int .u8 (kk : Int)) (by rfl) hx0 (fun X hX => ex_ld1 Tryd.underlying5 rfl rfl (HC0.out X hX)) ?_
        (try simp only [Act.put, List.setIfInBounds_toArray, List.set_cons_zero, List.set_cons_succ])
        refine tl_val (S := fun X => X = W) (.bool false) (by rfl) hx0 (fun X hX => (by have h0 := H2.out; go_simp)) ?_
        (try simp only [Act.put, List.setIfInBounds_toArray, List.set_cons_zero, List.set_cons_succ])
        refine tl_val (S := fun X => X = W) (.bool false) (by rfl) hx0 (fun X hX => by first | rfl | go_simp) ?_
        (try simp only [Act.put, List.setIfInBounds_toArray, List.set_cons_zero, List.set_cons_succ])
        refine tl_val (S := fun X => X = W) (.bool false) (by rfl) hx0 (fun X hX => by first | rfl | go_simp) ?_
        (try simp only [Act.put, List.setIfInBounds_toArray, List.set_cons_zero, List.set_cons_succ])
        refine tl_val (S := fun X => X = W) (.pointer (some ⟨G, 2, none⟩)) (by rfl) hx0 (fun X hX => by first | rfl | go_simp) ?_
        (try simp only [Act.put, List.setIfInBounds_toArray, List.set_cons_zero, List.set_cons_succ])
        refine tl_val (S := fun X => X = W) (.int .u32 (ss : Int)) (by rfl) hx0 (fun X hX => ex_ld1 Tryd.underlying23 rfl rfl (HC2.out X hX)) ?_
        (try simp only [Act.put, List.setIfInBounds_toArray, List.set_cons_zero, List.set_cons_succ])
        refine tl_val (S := fun X => X = W) (.bool z) (by rfl) hx0 (fun X hX => (by rw [← HZ1.out]; first | rfl | go_simp)) ?_
        (try simp only [Act.put, List.setIfInBounds_toArray, List.set_cons_zero, List.set_cons_succ])
        refine tl_val (S := fun X => X = W) (.bool z) (by rfl) hx0 (fun X hX => by first | rfl | go_simp) ?_
        (try simp only [Act.put, List.setIfInBounds_toArray, List.set_cons_zero, List.set_cons_succ])
        refine tl_val (S := fun X => X = W) (.bool z) (by rfl) hx0 (fun X hX => by first | rfl | go_simp) ?_
        (try simp only [Act.put, List.setIfInBounds_toArray, List.set_cons_zero, List.set_cons_succ])
        refine tl_skipU HU.out (by first | (rw [HU.out]; rfl) | (rw [HZT.out]; rfl) | rfl) ?_
        (try simp only [Act.put, List.setIfInBounds_toArray, List.set_cons_zero, List.set_cons_succ])
        refine tl_skipU HU.out (by first | (rw [HU.out]; rfl) | (rw [HZT.out]; rfl) | rfl) ?_
        (try simp only [Act.put, List.setIfInBounds_toArray, List.set_cons_zero, List.set_cons_succ])
        refine tl_skipU HU.out (by first | (rw [HU.out]; rfl) | (rw [HZT.out]; rfl) | rfl) ?_
        (try simp only [Act.put, List.setIfInBounds_toArray, List.set_cons_zero, List.set_cons_succ])
        refine tl_skipU HU.out (by first | (rw [HU.out]; rfl) | (rw [HZT.out]; rfl) | rfl) ?_
        (try simp only [Act.put, List.setIfInBounds_toArray, List.set_cons_zero, List.set_cons_succ])
        refine tl_skipU HU.out (by first | (rw [HU.out]; rfl) | (rw [HZT.out]; rfl) | rfl) ?_
        (try simp only [Act.put, List.setIfInBounds_toArray, List.set_cons_zero, List.set_cons_succ])
        refine tl_skipU HU.out (by first | (rw [HU.out]; rfl) | (rw [HZT.out]; rfl) | rfl) ?_
        (try simp only [Act.put, List.setIfInBounds_toArray, List.set_cons_zero, List.set_cons_succ])
        refine tl_skipU HU.out (by first | (rw [HU.out]; rfl) | (rw [HZT.out]; rfl) | rfl) ?_
        (try simp only [Act.put, List.setIfInBounds_toArray, List.set_cons_zero, List.set_cons_succ])
        refine tl_skipU HU.out (by first | (rw [HU.out]; rfl) | (rw [HZT.out]; rfl) | rfl) ?_
        (try simp only [Act.put, List.setIfInBounds_toArray, List.set_cons_zero, List.set_cons_succ])
        refine tl_skipU HU.out (by first | (rw [HU.out]; rfl) | (rw [HZT.out]; rfl) | rfl) ?_
        (try simp only [Act.put, List.setIfInBounds_toArray, List.set_cons_zero, List.set_cons_succ])
        refine tl_skipU HU.out (by first | (rw [HU.out]; rfl) | (rw [HZT.out]; rfl) | rfl) ?_
        (try simp only [Act.put, List.setIfInBounds_toArray, List.set_cons_zero, List.set_cons_succ])
        refine tl_skipU HU.out (by first | (rw [HU.out]; rfl) | (rw [HZT.out]; rfl) | rfl) ?_
        (try simp only [Act.put, List.setIfInBounds_toArray, List.set_cons_zero, List.set_cons_succ])
        refine tl_skipU HU.out (by first | (rw [HU.out]; rfl) | (rw [HZT.out]; rfl) | rfl) ?_
        (try simp only [Act.put, List.setIfInBounds_toArray, List.set_cons_zero, List.set_cons_succ])
        refine tl_skipU HU.out (by first | (rw [HU.out]; rfl) | (rw [HZT.out]; rfl) | rfl) ?_
        (try simp only [Act.put, List.setIfInBounds_toArray, List.set_cons_zero, List.set_cons_succ])
        refine tl_val (S := fun X => X = W) (.bool z) (by rfl) hx0 (fun X hX => (by rw [HZT.out]; first | rfl | go_simp)) ?_
        (try simp only [Act.put, List.setIfInBounds_toArray, List.set_cons_zero, List.set_cons_succ])
        refine wpList_nil ?_
        go_wp2_with fail
        go_meet
        case rel => exact ⟨by rw [HO.out], rfl⟩
      have H1 : Hid (decide ((kk : Int) < 1) = false) := Lib.hid (decide_eq_false (by omega))
      have H2 : Hid (decide ((3 : Int) < (kk : Int)) = false) := Lib.hid (decide_eq_false (by omega))
      have H3 : Hid (decide ((32768 : Int) < (ss : Int)) = false) := Lib.hid (decide_eq_false (by omega))
      have HOO : Hid (oo = decide (kk = 3 → 1 ≤ ss ∧ ss ≤ 128)) := Lib.hid (by rw [HOK.out, decide_eq_true (by omega : 1 ≤ kk ∧ kk ≤ 3), decide_eq_true (by omega : ss ≤ 32768)]; rfl)
      by_cases k4 : kk = 3
      · have H4 : Hid (decide ((kk : Int) = 3) = true) := Lib.hid (decide_eq_true (by omega))
        by_cases k5 : ss < 1
        · obtain ⟨z, hz⟩ : ∃ z, decide ((ss : Int) < 1) = z := ⟨_, rfl⟩
          have HZ1 := Lib.hid hz
          have HZT : Hid (z = true) := Lib.hid (by rw [← hz]; simp; omega)
          have HO : Hid (z = !oo) := Lib.hid (by rw [HZT.out, HOO.out, decide_eq_false (by omega : ¬ (kk = 3 → 1 ≤ ss ∧ ss ≤ 128))]; rfl)
          clear hz
          refine wp_region_list ?_
          refine tl_val (S := fun X => X = W) (.pointer (some ⟨G, 0, none⟩)) (by rfl) hx0 (fun X hX => by first | rfl | go_simp) ?_
          (try simp only [Act.put, List.setIfInBounds_toArray, List.set_cons_zero, List.set_cons_succ])
          refine tl_val (S := fun X => X = W) (.int .u8 (kk : Int)) (by rfl) hx0 (fun X hX => ex_ld1 Tryd.underlying5 rfl rfl (HC0.out X hX)) ?_
          (try simp only [Act.put, List.setIfInBounds_toArray, List.set_cons_zero, List.set_cons_succ])
          refine tl_val (S := fun X => X = W) (.bool false) (by rfl) hx0 (fun X hX => (by have h0 := H1.out; go_simp)) ?_
          (try simp only [Act.put, List.setIfInBounds_toArray, List.set_cons_zero, List.set_cons_succ])
          refine tl_val (S := fun X => X = W) (.bool false) (by rfl) hx0 (fun X hX => by first | rfl | go_simp) ?_
          (try simp only [Act.put, List.setIfInBounds_toArray, List.set_cons_zero, List.set_cons_succ])
          refine tl_val (S := fun X => X = W) (.pointer (some ⟨G, 0, none⟩)) (by rfl) hx0 (fun X hX => by first | rfl | go_simp) ?_
          (try simp only [Act.put, List.setIfInBounds_toArray, List.set_cons_zero, List.set_cons_succ])
          refine tl_val (S := fun X => X = W) (.int .u8 (kk : Int)) (by rfl) hx0 (fun X hX => ex_ld1 Tryd.underlying5 rfl rfl (HC0.out X hX)) ?_
          (try simp only [Act.put, List.setIfInBounds_toArray, List.set_cons_zero, List.set_cons_succ])
          refine tl_val (S := fun X => X = W) (.bool false) (by rfl) hx0 (fun X hX => (by have h0 := H2.out; go_simp)) ?_
          (try simp only [Act.put, List.setIfInBounds_toArray, List.set_cons_zero, List.set_cons_succ])
          refine tl_val (S := fun X => X = W) (.bool false) (by rfl) hx0 (fun X hX => by first | rfl | go_simp) ?_
          (try simp only [Act.put, List.setIfInBounds_toArray, List.set_cons_zero, List.set_cons_succ])
          refine tl_val (S := fun X => X = W) (.bool false) (by rfl) hx0 (fun X hX => by first | rfl | go_simp) ?_
          (try simp only [Act.put, List.setIfInBounds_toArray, List.set_cons_zero, List.set_cons_succ])
          refine tl_val (S := fun X => X = W) (.pointer (some ⟨G, 2, none⟩)) (by rfl) hx0 (fun X hX => by first | rfl | go_simp) ?_
          (try simp only [Act.put, List.setIfInBounds_toArray, List.set_cons_zero, List.set_cons_succ])
          refine tl_val (S := fun X => X = W) (.int .u32 (ss : Int)) (by rfl) hx0 (fun X hX => ex_ld1 Tryd.underlying23 rfl rfl (HC2.out X hX)) ?_
          (try simp only [Act.put, List.setIfInBounds_toArray, List.set_cons_zero, List.set_cons_succ])
          refine tl_val (S := fun X => X = W) (.bool false) (by rfl) hx0 (fun X hX => (by have h0 := H3.out; go_simp)) ?_
          (try simp only [Act.put, List.setIfInBounds_toArray, List.set_cons_zero, List.set_cons_succ])
          refine tl_val (S := fun X => X = W) (.bool false) (by rfl) hx0 (fun X hX => by first | rfl | go_simp) ?_
          (try simp only [Act.put, List.setIfInBounds_toArray, List.set_cons_zero, List.set_cons_succ])
          refine tl_val (S := fun X => X = W) (.bool false) (by rfl) hx0 (fun X hX => by first | rfl | go_simp) ?_
          (try simp only [Act.put, List.setIfInBounds_toArray, List.set_cons_zero, List.set_cons_succ])
          refine tl_val (S := fun X => X = W) (.pointer (some ⟨G, 0, none⟩)) (by rfl) hx0 (fun X hX => by first | rfl | go_simp) ?_
          (try simp only [Act.put, List.setIfInBounds_toArray, List.set_cons_zero, List.set_cons_succ])
          refine tl_val (S := fun X => X = W) (.int .u8 (kk : Int)) (by rfl) hx0 (fun X hX => ex_ld1 Tryd.underlying5 rfl rfl (HC0.out X hX)) ?_
          (try simp only [Act.put, List.setIfInBounds_toArray, List.set_cons_zero, List.set_cons_succ])
          refine tl_val (S := fun X => X = W) (.bool true) (by rfl) hx0 (fun X hX => (by have h0 := H4.out; go_simp)) ?_
          (try simp only [Act.put, List.setIfInBounds_toArray, List.set_cons_zero, List.set_cons_succ])
          refine tl_val (S := fun X => X = W) (.bool true) (by rfl) hx0 (fun X hX => by first | rfl | go_simp) ?_
          (try simp only [Act.put, List.setIfInBounds_toArray, List.set_cons_zero, List.set_cons_succ])
          refine tl_val (S := fun X => X = W) (.pointer (some ⟨G, 2, none⟩)) (by rfl) hx0 (fun X hX => by first | rfl | go_simp) ?_
          (try simp only [Act.put, List.setIfInBounds_toArray, List.set_cons_zero, List.set_cons_succ])
          refine tl_val (S := fun X => X = W) (.int .u32 (ss : Int)) (by rfl) hx0 (fun X hX => ex_ld1 Tryd.underlying23 rfl rfl (HC2.out X hX)) ?_
          (try simp only [Act.put, List.setIfInBounds_toArray, List.set_cons_zero, List.set_cons_succ])
          refine tl_val (S := fun X => X = W) (.bool z) (by rfl) hx0 (fun X hX => (by rw [← HZ1.out]; first | rfl | go_simp)) ?_
          (try simp only [Act.put, List.setIfInBounds_toArray, List.set_cons_zero, List.set_cons_succ])
          refine tl_val (S := fun X => X = W) (.bool z) (by rfl) hx0 (fun X hX => by first | rfl | go_simp) ?_
          (try simp only [Act.put, List.setIfInBounds_toArray, List.set_cons_zero, List.set_cons_succ])
          refine tl_skipU HU.out (by first | (rw [HU.out]; rfl) | (rw [HZT.out]; rfl) | rfl) ?_
          (try simp only [Act.put, List.setIfInBounds_toArray, List.set_cons_zero, List.set_cons_succ])
          refine tl_skipU HU.out (by first | (rw [HU.out]; rfl) | (rw [HZT.out]; rfl) | rfl) ?_
          (try simp only [Act.put, List.setIfInBounds_toArray, List.set_cons_zero, List.set_cons_succ])
          refine tl_skipU HU.out (by first | (rw [HU.out]; rfl) | (rw [HZT.out]; rfl) | rfl) ?_
          (try simp only [Act.put, List.setIfInBounds_toArray, List.set_cons_zero, List.set_cons_succ])
          refine tl_val (S := fun X => X = W) (.bool z) (by rfl) hx0 (fun X hX => (by rw [HZT.out]; first | rfl | go_simp)) ?_
          (try simp only [Act.put, List.setIfInBounds_toArray, List.set_cons_zero, List.set_cons_succ])
          refine tl_val (S := fun X => X = W) (.bool z) (by rfl) hx0 (fun X hX => by first | rfl | go_simp) ?_
          (try simp only [Act.put, List.setIfInBounds_toArray, List.set_cons_zero, List.set_cons_succ])
          refine tl_val (S := fun X => X = W) (.bool z) (by rfl) hx0 (fun X hX => by first | rfl | go_simp) ?_
          (try simp only [Act.put, List.setIfInBounds_toArray, List.set_cons_zero, List.set_cons_succ])
          refine wpList_nil ?_
          go_wp2_with fail
          go_meet
          case rel => exact ⟨by rw [HO.out], rfl⟩
        · obtain ⟨z, hz⟩ : ∃ z, decide ((128 : Int) < (ss : Int)) = z := ⟨_, rfl⟩
          have HZ1 := Lib.hid hz
          have H5 : Hid (decide ((ss : Int) < 1) = false) := Lib.hid (decide_eq_false (by omega))
          have HO : Hid (z = !oo) := Lib.hid (by rw [← hz, HOO.out, Bool.eq_iff_iff]; simp; omega)
          clear hz
          refine wp_region_list ?_
          refine tl_val (S := fun X => X = W) (.pointer (some ⟨G, 0, none⟩)) (by rfl) hx0 (fun X hX => by first | rfl | go_simp) ?_
          (try simp only [Act.put, List.setIfInBounds_toArray, List.set_cons_zero, List.set_cons_succ])
          refine tl_val (S := fun X => X = W) (.int .u8 (kk : Int)) (by rfl) hx0 (fun X hX => ex_ld1 Tryd.underlying5 rfl rfl (HC0.out X hX)) ?_
          (try simp only [Act.put, List.setIfInBounds_toArray, List.set_cons_zero, List.set_cons_succ])
          refine tl_val (S := fun X => X = W) (.bool false) (by rfl) hx0 (fun X hX => (by have h0 := H1.out; go_simp)) ?_
          (try simp only [Act.put, List.setIfInBounds_toArray, List.set_cons_zero, List.set_cons_succ])
          refine tl_val (S := fun X => X = W) (.bool false) (by rfl) hx0 (fun X hX => by first | rfl | go_simp) ?_
          (try simp only [Act.put, List.setIfInBounds_toArray, List.set_cons_zero, List.set_cons_succ])
          refine tl_val (S := fun X => X = W) (.pointer (some ⟨G, 0, none⟩)) (by rfl) hx0 (fun X hX => by first | rfl | go_simp) ?_
          (try simp only [Act.put, List.setIfInBounds_toArray, List.set_cons_zero, List.set_cons_succ])
          refine tl_val (S := fun X => X = W) (.int .u8 (kk : Int)) (by rfl) hx0 (fun X hX => ex_ld1 Tryd.underlying5 rfl rfl (HC0.out X hX)) ?_
          (try simp only [Act.put, List.setIfInBounds_toArray, List.set_cons_zero, List.set_cons_succ])
          refine tl_val (S := fun X => X = W) (.bool false) (by rfl) hx0 (fun X hX => (by have h0 := H2.out; go_simp)) ?_
          (try simp only [Act.put, List.setIfInBounds_toArray, List.set_cons_zero, List.set_cons_succ])
          refine tl_val (S := fun X => X = W) (.bool false) (by rfl) hx0 (fun X hX => by first | rfl | go_simp) ?_
          (try simp only [Act.put, List.setIfInBounds_toArray, List.set_cons_zero, List.set_cons_succ])
          refine tl_val (S := fun X => X = W) (.bool false) (by rfl) hx0 (fun X hX => by first | rfl | go_simp) ?_
          (try simp only [Act.put, List.setIfInBounds_toArray, List.set_cons_zero, List.set_cons_succ])
          refine tl_val (S := fun X => X = W) (.pointer (some ⟨G, 2, none⟩)) (by rfl) hx0 (fun X hX => by first | rfl | go_simp) ?_
          (try simp only [Act.put, List.setIfInBounds_toArray, List.set_cons_zero, List.set_cons_succ])
          refine tl_val (S := fun X => X = W) (.int .u32 (ss : Int)) (by rfl) hx0 (fun X hX => ex_ld1 Tryd.underlying23 rfl rfl (HC2.out X hX)) ?_
          (try simp only [Act.put, List.setIfInBounds_toArray, List.set_cons_zero, List.set_cons_succ])
          refine tl_val (S := fun X => X = W) (.bool false) (by rfl) hx0 (fun X hX => (by have h0 := H3.out; go_simp)) ?_
          (try simp only [Act.put, List.setIfInBounds_toArray, List.set_cons_zero, List.set_cons_succ])
          refine tl_val (S := fun X => X = W) (.bool false) (by rfl) hx0 (fun X hX => by first | rfl | go_simp) ?_
          (try simp only [Act.put, List.setIfInBounds_toArray, List.set_cons_zero, List.set_cons_succ])
          refine tl_val (S := fun X => X = W) (.bool false) (by rfl) hx0 (fun X hX => by first | rfl | go_simp) ?_
          (try simp only [Act.put, List.setIfInBounds_toArray, List.set_cons_zero, List.set_cons_succ])
          refine tl_val (S := fun X => X = W) (.pointer (some ⟨G, 0, none⟩)) (by rfl) hx0 (fun X hX => by first | rfl | go_simp) ?_
          (try simp only [Act.put, List.setIfInBounds_toArray, List.set_cons_zero, List.set_cons_succ])
          refine tl_val (S := fun X => X = W) (.int .u8 (kk : Int)) (by rfl) hx0 (fun X hX => ex_ld1 Tryd.underlying5 rfl rfl (HC0.out X hX)) ?_
          (try simp only [Act.put, List.setIfInBounds_toArray, List.set_cons_zero, List.set_cons_succ])
          refine tl_val (S := fun X => X = W) (.bool true) (by rfl) hx0 (fun X hX => (by have h0 := H4.out; go_simp)) ?_
          (try simp only [Act.put, List.setIfInBounds_toArray, List.set_cons_zero, List.set_cons_succ])
          refine tl_val (S := fun X => X = W) (.bool true) (by rfl) hx0 (fun X hX => by first | rfl | go_simp) ?_
          (try simp only [Act.put, List.setIfInBounds_toArray, List.set_cons_zero, List.set_cons_succ])
          refine tl_val (S := fun X => X = W) (.pointer (some ⟨G, 2, none⟩)) (by rfl) hx0 (fun X hX => by first | rfl | go_simp) ?_
          (try simp only [Act.put, List.setIfInBounds_toArray, List.set_cons_zero, List.set_cons_succ])
          refine tl_val (S := fun X => X = W) (.int .u32 (ss : Int)) (by rfl) hx0 (fun X hX => ex_ld1 Tryd.underlying23 rfl rfl (HC2.out X hX)) ?_
          (try simp only [Act.put, List.setIfInBounds_toArray, List.set_cons_zero, List.set_cons_succ])
          refine tl_val (S := fun X => X = W) (.bool false) (by rfl) hx0 (fun X hX => (by have h0 := H5.out; go_simp)) ?_
          (try simp only [Act.put, List.setIfInBounds_toArray, List.set_cons_zero, List.set_cons_succ])
          refine tl_val (S := fun X => X = W) (.bool false) (by rfl) hx0 (fun X hX => by first | rfl | go_simp) ?_
          (try simp only [Act.put, List.setIfInBounds_toArray, List.set_cons_zero, List.set_cons_succ])
          refine tl_val (S := fun X => X = W) (.pointer (some ⟨G, 2, none⟩)) (by rfl) hx0 (fun X hX => by first | rfl | go_simp) ?_
          (try simp only [Act.put, List.setIfInBounds_toArray, List.set_cons_zero, List.set_cons_succ])
          refine tl_val (S := fun X => X = W) (.int .u32 (ss : Int)) (by rfl) hx0 (fun X hX => ex_ld1 Tryd.underlying23 rfl rfl (HC2.out X hX)) ?_
          (try simp only [Act.put, List.setIfInBounds_toArray, List.set_cons_zero, List.set_cons_succ])
          refine tl_val (S := fun X => X = W) (.bool z) (by rfl) hx0 (fun X hX => (by rw [← HZ1.out]; first | rfl | go_simp)) ?_
          (try simp only [Act.put, List.setIfInBounds_toArray, List.set_cons_zero, List.set_cons_succ])
          refine tl_val (S := fun X => X = W) (.bool z) (by rfl) hx0 (fun X hX => by first | rfl | go_simp) ?_
          (try simp only [Act.put, List.setIfInBounds_toArray, List.set_cons_zero, List.set_cons_succ])
          refine tl_val (S := fun X => X = W) (.bool z) (by rfl) hx0 (fun X hX => by first | rfl | go_simp) ?_
          (try simp only [Act.put, List.setIfInBounds_toArray, List.set_cons_zero, List.set_cons_succ])
          refine tl_val (S := fun X => X = W) (.bool z) (by rfl) hx0 (fun X hX => by first | rfl | go_simp) ?_
          (try simp only [Act.put, List.setIfInBounds_toArray, List.set_cons_zero, List.set_cons_succ])
          refine wpList_nil ?_
          go_wp2_with fail
          go_meet
          case rel => exact ⟨by rw [HO.out], rfl⟩
      · obtain ⟨z, hz⟩ : ∃ z, decide ((kk : Int) = 3) = z := ⟨_, rfl⟩
        have HZ1 := Lib.hid hz
        have HZT : Hid (z = false) := Lib.hid (by rw [← hz]; simp; omega)
        have HO : Hid (z = !oo) := Lib.hid (by rw [HZT.out, HOO.out, decide_eq_true (fun h => absurd h k4)]; rfl)
        clear hz
        refine wp_region_list ?_
        refine tl_val (S := fun X => X = W) (.pointer (some ⟨G, 0, none⟩)) (by rfl) hx0 (fun X hX => by first | rfl | go_simp) ?_
        (try simp only [Act.put, List.setIfInBounds_toArray, List.set_cons_zero, List.set_cons_succ])
        refine tl_val (S := fun X => X = W) (.int .u8 (kk : Int)) (by rfl) hx0 (fun X hX => ex_ld1 Tryd.underlying5 rfl rfl (HC0.out X hX)) ?_
        (try simp only [Act.put, List.setIfInBounds_toArray, List.set_cons_zero, List.set_cons_succ])
        refine tl_val (S := fun X => X = W) (.bool false) (by rfl) hx0 (fun X hX => (by have h0 := H1.out; go_simp)) ?_
        (try simp only [Act.put, List.setIfInBounds_toArray, List.set_cons_zero, List.set_cons_succ])
        refine tl_val (S := fun X => X = W) (.bool false) (by rfl) hx0 (fun X hX => by first | rfl | go_simp) ?_
        (try simp only [Act.put, List.setIfInBounds_toArray, List.set_cons_zero, List.set_cons_succ])
        refine tl_val (S := fun X => X = W) (.pointer (some ⟨G, 0, none⟩)) (by rfl) hx0 (fun X hX => by first | rfl | go_simp) ?_
        (try simp only [Act.put, List.setIfInBounds_toArray, List.set_cons_zero, List.set_cons_succ])
        refine tl_val (S := fun X => X = W) (.int .u8 (kk : Int)) (by rfl) hx0 (fun X hX => ex_ld1 Tryd.underlying5 rfl rfl (HC0.out X hX)) ?_
        (try simp only [Act.put, List.setIfInBounds_toArray, List.set_cons_zero, List.set_cons_succ])
        refine tl_val (S := fun X => X = W) (.bool false) (by rfl) hx0 (fun X hX => (by have h0 := H2.out; go_simp)) ?_
        (try simp only [Act.put, List.setIfInBounds_toArray, List.set_cons_zero, List.set_cons_succ])
        refine tl_val (S := fun X => X = W) (.bool false) (by rfl) hx0 (fun X hX => by first | rfl | go_simp) ?_
        (try simp only [Act.put, List.setIfInBounds_toArray, List.set_cons_zero, List.set_cons_succ])
        refine tl_val (S := fun X => X = W) (.bool false) (by rfl) hx0 (fun X hX => by first | rfl | go_simp) ?_
        (try simp only [Act.put, List.setIfInBounds_toArray, List.set_cons_zero, List.set_cons_succ])
        refine tl_val (S := fun X => X = W) (.pointer (some ⟨G, 2, none⟩)) (by rfl) hx0 (fun X hX => by first | rfl | go_simp) ?_
        (try simp only [Act.put, List.setIfInBounds_toArray, List.set_cons_zero, List.set_cons_succ])
        refine tl_val (S := fun X => X = W) (.int .u32 (ss : Int)) (by rfl) hx0 (fun X hX => ex_ld1 Tryd.underlying23 rfl rfl (HC2.out X hX)) ?_
        (try simp only [Act.put, List.setIfInBounds_toArray, List.set_cons_zero, List.set_cons_succ])
        refine tl_val (S := fun X => X = W) (.bool false) (by rfl) hx0 (fun X hX => (by have h0 := H3.out; go_simp)) ?_
        (try simp only [Act.put, List.setIfInBounds_toArray, List.set_cons_zero, List.set_cons_succ])
        refine tl_val (S := fun X => X = W) (.bool false) (by rfl) hx0 (fun X hX => by first | rfl | go_simp) ?_
        (try simp only [Act.put, List.setIfInBounds_toArray, List.set_cons_zero, List.set_cons_succ])
        refine tl_val (S := fun X => X = W) (.bool false) (by rfl) hx0 (fun X hX => by first | rfl | go_simp) ?_
        (try simp only [Act.put, List.setIfInBounds_toArray, List.set_cons_zero, List.set_cons_succ])
        refine tl_val (S := fun X => X = W) (.pointer (some ⟨G, 0, none⟩)) (by rfl) hx0 (fun X hX => by first | rfl | go_simp) ?_
        (try simp only [Act.put, List.setIfInBounds_toArray, List.set_cons_zero, List.set_cons_succ])
        refine tl_val (S := fun X => X = W) (.int .u8 (kk : Int)) (by rfl) hx0 (fun X hX => ex_ld1 Tryd.underlying5 rfl rfl (HC0.out X hX)) ?_
        (try simp only [Act.put, List.setIfInBounds_toArray, List.set_cons_zero, List.set_cons_succ])
        refine tl_val (S := fun X => X = W) (.bool z) (by rfl) hx0 (fun X hX => (by rw [← HZ1.out]; first | rfl | go_simp)) ?_
        (try simp only [Act.put, List.setIfInBounds_toArray, List.set_cons_zero, List.set_cons_succ])
        refine tl_val (S := fun X => X = W) (.bool z) (by rfl) hx0 (fun X hX => by first | rfl | go_simp) ?_
        (try simp only [Act.put, List.setIfInBounds_toArray, List.set_cons_zero, List.set_cons_succ])
        refine tl_skipU HU.out (by first | (rw [HU.out]; rfl) | (rw [HZT.out]; rfl) | rfl) ?_
        (try simp only [Act.put, List.setIfInBounds_toArray, List.set_cons_zero, List.set_cons_succ])
        refine tl_skipU HU.out (by first | (rw [HU.out]; rfl) | (rw [HZT.out]; rfl) | rfl) ?_
        (try simp only [Act.put, List.setIfInBounds_toArray, List.set_cons_zero, List.set_cons_succ])
        refine tl_skipU HU.out (by first | (rw [HU.out]; rfl) | (rw [HZT.out]; rfl) | rfl) ?_
        (try simp only [Act.put, List.setIfInBounds_toArray, List.set_cons_zero, List.set_cons_succ])
        refine tl_skipU HU.out (by first | (rw [HU.out]; rfl) | (rw [HZT.out]; rfl) | rfl) ?_
        (try simp only [Act.put, List.setIfInBounds_toArray, List.set_cons_zero, List.set_cons_succ])
        refine tl_skipU HU.out (by first | (rw [HU.out]; rfl) | (rw [HZT.out]; rfl) | rfl) ?_
        (try simp only [Act.put, List.setIfInBounds_toArray, List.set_cons_zero, List.set_cons_succ])
        refine tl_skipU HU.out (by first | (rw [HU.out]; rfl) | (rw [HZT.out]; rfl) | rfl) ?_
        (try simp only [Act.put, List.setIfInBounds_toArray, List.set_cons_zero, List.set_cons_succ])
        refine tl_skipU HU.out (by first | (rw [HU.out]; rfl) | (rw [HZT.out]; rfl) | rfl) ?_
        (try simp only [Act.put, List.setIfInBounds_toArray, List.set_cons_zero, List.set_cons_succ])
        refine tl_skipU HU.out (by first | (rw [HU.out]; rfl) | (rw [HZT.out]; rfl) | rfl) ?_
        (try simp only [Act.put, List.setIfInBounds_toArray, List.set_cons_zero, List.set_cons_succ])
        refine tl_val (S := fun X => X = W) (.bool z) (by rfl) hx0 (fun X hX => (by rw [HZT.out]; first | rfl | go_simp)) ?_
        (try simp only [Act.put, List.setIfInBounds_toArray, List.set_cons_zero, List.set_cons_succ])
        refine tl_val (S := fun X => X = W) (.bool z) (by rfl) hx0 (fun X hX => by first | rfl | go_simp) ?_
        (try simp only [Act.put, List.setIfInBounds_toArray, List.set_cons_zero, List.set_cons_succ])
        refine wpList_nil ?_
        go_wp2_with fail
        go_meet
        case rel => exact ⟨by rw [HO.out], rfl⟩
    case rest =>
    obtain ⟨rfl, rfl⟩ := hcut
    cases oo
    · have hv : b = false := by rw [HRB2.out]; rfl
      have HE := Lib.hid (HP.out _ hv _ HW.out)
      clear hv HRB2 HRI HQM
      go_wp2_with fail
      first | exact HE.out | (go_ret; exact HE.out)
    have HV : Hid (b = rr) := Lib.hid (by rw [HRB2.out]; rfl)
    clear HRB2 HOK
    go_upto_region 5 with fail
    have hx0 : wc = wc := rfl
    cases zp
    · by_cases h3 : pk = 3
      · have H3 : Hid (decide ((pk : Int) = 3) = true) := Lib.hid (decide_eq_true (by omega))
        obtain ⟨z, hz⟩ : ∃ z, decide ((pl : Int) = 2) = z := ⟨_, rfl⟩
        have HZ1 := Lib.hid hz
        have hr : rr = (z && mm) := by
          have e2 : decide (pl = 2) = decide ((pl : Int) = 2) := by rw [Bool.eq_iff_iff]; simp; omega
          rw [HRI.out, decide_eq_true h3, e2, hz]
          simp
        have HR := Lib.hid hr
        clear hz hr
        cases z
        · obtain ⟨z, hz⟩ : ∃ z, false = z := ⟨_, rfl⟩
          rw [hz] at HZ1
          have HZT := Lib.hid hz.symm
          clear hz
          have HE := Lib.hid (HP.out z (by rw [HV.out, HR.out, HZT.out]; rfl) _ HW.out)
          refine wp_region_list ?_
          refine tl_val (S := fun X => X = wc) (.pointer (some ⟨G, 3, none⟩)) (by rfl) hx0 (fun X hX => by first | rfl | go_simp) ?_
          (try simp only [Act.put, List.setIfInBounds_toArray, List.set_cons_zero, List.set_cons_succ])
          refine tl_val (S := fun X => X = wc) (.agg (pcells n.root).toArray) (by rfl) hx0 (fun X hX => ex_ldRtR HN.out (HB.out X hX) rfl rfl) ?_
          (try simp only [Act.put, List.setIfInBounds_toArray, List.set_cons_zero, List.set_cons_succ])
          refine tl_val (S := fun X => X = wc) (.agg (pcells zeroP).toArray) (by rfl) hx0 (fun X hX => ex_bld0 rfl) ?_
          (try simp only [Act.put, List.setIfInBounds_toArray, List.set_cons_zero, List.set_cons_succ])
          refine tl_val (S := fun X => X = wc) (.bool false) (by rfl) hx0 (fun X hX => ex_eqPb HZ.out rfl rfl rfl HPO.out zeroP_ok) ?_
          (try simp only [Act.put, List.setIfInBounds_toArray, List.set_cons_zero, List.set_cons_succ])
          refine tl_val (S := fun X => X = wc) (.bool false) (by rfl) hx0 (fun X hX => by first | rfl | go_simp) ?_
          (try simp only [Act.put, List.setIfInBounds_toArray, List.set_cons_zero, List.set_cons_succ])
          refine tl_val (S := fun X => X = wc) (.pointer (some ⟨G, 3, none⟩)) (by rfl) hx0 (fun X hX => by first | rfl | go_simp) ?_
          (try simp only [Act.put, List.setIfInBounds_toArray, List.set_cons_zero, List.set_cons_succ])
          refine tl_val (S := fun X => X = wc) (.pointer (some ⟨G, 3, none⟩)) (by rfl) hx0 (fun X hX => by first | rfl | go_simp) ?_
          (try simp only [Act.put, List.setIfInBounds_toArray, List.set_cons_zero, List.set_cons_succ])
          refine tl_val (S := fun X => X = wc) (.int .u8 (pk : Int)) (by rfl) hx0 (fun X hX => ex_ld1 Tryd.underlying5 rfl rfl (HC3.out X hX)) ?_
          (try simp only [Act.put, List.setIfInBounds_toArray, List.set_cons_zero, List.set_cons_succ])
          refine tl_val (S := fun X => X = wc) (.bool true) (by rfl) hx0 (fun X hX => (by have h0 := H3.out; go_simp)) ?_
          (try simp only [Act.put, List.setIfInBounds_toArray, List.set_cons_zero, List.set_cons_succ])
          refine tl_val (S := fun X => X = wc) (.bool true) (by rfl) hx0 (fun X hX => by first | rfl | go_simp) ?_
          (try simp only [Act.put, List.setIfInBounds_toArray, List.set_cons_zero, List.set_cons_succ])
          refine tl_val (S := fun X => X = wc) (.pointer (some ⟨G, 3, none⟩)) (by rfl) hx0 (fun X hX => by first | rfl | go_simp) ?_
          (try simp only [Act.put, List.setIfInBounds_toArray, List.set_cons_zero, List.set_cons_succ])
          refine tl_val (S := fun X => X = wc) (.pointer (some ⟨G, 4, none⟩)) (by rfl) hx0 (fun X hX => by first | rfl | go_simp) ?_
          (try simp only [Act.put, List.setIfInBounds_toArray, List.set_cons_zero, List.set_cons_succ])
          refine tl_val (S := fun X => X = wc) (.int .u8 (pl : Int)) (by rfl) hx0 (fun X hX => ex_ld1 Tryd.underlying5 rfl rfl (HC4.out X hX)) ?_
          (try simp only [Act.put, List.setIfInBounds_toArray, List.set_cons_zero, List.set_cons_succ])
          refine tl_val (S := fun X => X = wc) (.bool z) (by rfl) hx0 (fun X hX => (by rw [← HZ1.out]; first | rfl | go_simp)) ?_
          (try simp only [Act.put, List.setIfInBounds_toArray, List.set_cons_zero, List.set_cons_succ])
          refine tl_val (S := fun X => X = wc) (.bool z) (by rfl) hx0 (fun X hX => by first | rfl | go_simp) ?_
          (try simp only [Act.put, List.setIfInBounds_toArray, List.set_cons_zero, List.set_cons_succ])
          refine tl_val (S := fun X => X = wc) (.bool z) (by rfl) hx0 (fun X hX => by first | rfl | go_simp) ?_
          (try simp only [Act.put, List.setIfInBounds_toArray, List.set_cons_zero, List.set_cons_succ])
          refine tl_skipU HU.out (by first | (rw [HU.out]; rfl) | (rw [HZT.out]; rfl) | rfl) ?_
          (try simp only [Act.put, List.setIfInBounds_toArray, List.set_cons_zero, List.set_cons_succ])
          refine tl_skipU HU.out (by first | (rw [HU.out]; rfl) | (rw [HZT.out]; rfl) | rfl) ?_
          (try simp only [Act.put, List.setIfInBounds_toArray, List.set_cons_zero, List.set_cons_succ])
          refine tl_skipU HU.out (by first | (rw [HU.out]; rfl) | (rw [HZT.out]; rfl) | rfl) ?_
          (try simp only [Act.put, List.setIfInBounds_toArray, List.set_cons_zero, List.set_cons_succ])
          refine tl_val (S := fun X => X = wc) (.bool z) (by rfl) hx0 (fun X hX => (by rw [HZT.out]; first | rfl | go_simp)) ?_
          (try simp only [Act.put, List.setIfInBounds_toArray, List.set_cons_zero, List.set_cons_succ])
          refine tl_val (S := fun X => X = wc) (.bool z) (by rfl) hx0 (fun X hX => by first | rfl | go_simp) ?_
          (try simp only [Act.put, List.setIfInBounds_toArray, List.set_cons_zero, List.set_cons_succ])
          refine tl_val (S := fun X => X = wc) (.bool z) (by rfl) hx0 (fun X hX => by first | rfl | go_simp) ?_
          (try simp only [Act.put, List.setIfInBounds_toArray, List.set_cons_zero, List.set_cons_succ])
          refine wpList_nil ?_
          go_wp2_with fail
          first | exact HE.out | (go_ret; exact HE.out)
        · refine wp_region_list ?_
          refine tl_val (S := fun X => X = wc) (.pointer (some ⟨G, 3, none⟩)) (by rfl) hx0 (fun X hX => by first | rfl | go_simp) ?_
          (try simp only [Act.put, List.setIfInBounds_toArray, List.set_cons_zero, List.set_cons_succ])
          refine tl_val (S := fun X => X = wc) (.agg (pcells n.root).toArray) (by rfl) hx0 (fun X hX => ex_ldRtR HN.out (HB.out X hX) rfl rfl) ?_
          (try simp only [Act.put, List.setIfInBounds_toArray, List.set_cons_zero, List.set_cons_succ])
          refine tl_val (S := fun X => X = wc) (.agg (pcells zeroP).toArray) (by rfl) hx0 (fun X hX => ex_bld0 rfl) ?_
          (try simp only [Act.put, List.setIfInBounds_toArray, List.set_cons_zero, List.set_cons_succ])
          refine tl_val (S := fun X => X = wc) (.bool false) (by rfl) hx0 (fun X hX => ex_eqPb HZ.out rfl rfl rfl HPO.out zeroP_ok) ?_
          (try simp only [Act.put, List.setIfInBounds_toArray, List.set_cons_zero, List.set_cons_succ])
          refine tl_val (S := fun X => X = wc) (.bool false) (by rfl) hx0 (fun X hX => by first | rfl | go_simp) ?_
          (try simp only [Act.put, List.setIfInBounds_toArray, List.set_cons_zero, List.set_cons_succ])
          refine tl_val (S := fun X => X = wc) (.pointer (some ⟨G, 3, none⟩)) (by rfl) hx0 (fun X hX => by first | rfl | go_simp) ?_
          (try simp only [Act.put, List.setIfInBounds_toArray, List.set_cons_zero, List.set_cons_succ])
          refine tl_val (S := fun X => X = wc) (.pointer (some ⟨G, 3, none⟩)) (by rfl) hx0 (fun X hX => by first | rfl | go_simp) ?_
          (try simp only [Act.put, List.setIfInBounds_toArray, List.set_cons_zero, List.set_cons_succ])
          refine tl_val (S := fun X => X = wc) (.int .u8 (pk : Int)) (by rfl) hx0 (fun X hX => ex_ld1 Tryd.underlying5 rfl rfl (HC3.out X hX)) ?_
          (try simp only [Act.put, List.setIfInBounds_toArray, List.set_cons_zero, List.set_cons_succ])
          refine tl_val (S := fun X => X = wc) (.bool true) (by rfl) hx0 (fun X hX => (by have h0 := H3.out; go_simp)) ?_
          (try simp only [Act.put, List.setIfInBounds_toArray, List.set_cons_zero, List.set_cons_succ])
          refine tl_val (S := fun X => X = wc) (.bool true) (by rfl) hx0 (fun X hX => by first | rfl | go_simp) ?_
          (try simp only [Act.put, List.setIfInBounds_toArray, List.set_cons_zero, List.set_cons_succ])
          refine tl_val (S := fun X => X = wc) (.pointer (some ⟨G, 3, none⟩)) (by rfl) hx0 (fun X hX => by first | rfl | go_simp) ?_
          (try simp only [Act.put, List.setIfInBounds_toArray, List.set_cons_zero, List.set_cons_succ])
          refine tl_val (S := fun X => X = wc) (.pointer (some ⟨G, 4, none⟩)) (by rfl) hx0 (fun X hX => by first | rfl | go_simp) ?_
          (try simp only [Act.put, List.setIfInBounds_toArray, List.set_cons_zero, List.set_cons_succ])
          refine tl_val (S := fun X => X = wc) (.int .u8 (pl : Int)) (by rfl) hx0 (fun X hX => ex_ld1 Tryd.underlying5 rfl rfl (HC4.out X hX)) ?_
          (try simp only [Act.put, List.setIfInBounds_toArray, List.set_cons_zero, List.set_cons_succ])
          refine tl_val (S := fun X => X = wc) (.bool true) (by rfl) hx0 (fun X hX => (by have h0 := of_decide_eq_true HZ1.out; go_simp)) ?_
          (try simp only [Act.put, List.setIfInBounds_toArray, List.set_cons_zero, List.set_cons_succ])
          refine tl_val (S := fun X => X = wc) (.bool true) (by rfl) hx0 (fun X hX => by first | rfl | go_simp) ?_
          (try simp only [Act.put, List.setIfInBounds_toArray, List.set_cons_zero, List.set_cons_succ])
          refine tl_val (S := fun X => X = wc) (.bool true) (by rfl) hx0 (fun X hX => by first | rfl | go_simp) ?_
          (try simp only [Act.put, List.setIfInBounds_toArray, List.set_cons_zero, List.set_cons_succ])
          refine tl_val (S := fun X => X = wc) (.pointer (some ⟨G, 3, none⟩)) (by rfl) hx0 (fun X hX => by first | rfl | go_simp) ?_
          (try simp only [Act.put, List.setIfInBounds_toArray, List.set_cons_zero, List.set_cons_succ])
          refine tl_val (S := fun X => X = wc) (.agg (pcells n.root).toArray) (by rfl) hx0 (fun X hX => ex_ldRtR HN.out (HB.out X hX) rfl rfl) ?_
          (try simp only [Act.put, List.setIfInBounds_toArray, List.set_cons_zero, List.set_cons_succ])
          refine tl_call (by rfl) 17 #[.agg (pcells n.root).toArray] (by go_simp) (fun u X => u = .bool mm ∧ Below wc.heap.size wc X) ((HQM.out wc).mono fun e Y ⟨e1, hb⟩ => ⟨_, e1, rfl, hb⟩) ?_
          rintro u Xb ⟨rfl, hb⟩
          (try simp only [Act.put, List.setIfInBounds_toArray, List.set_cons_zero, List.set_cons_succ])
          have HE := Lib.hid (HP.out mm (by rw [HV.out, HR.out]; rfl) _ (HC.out hb))
          refine tl_val (S := fun X => X = Xb) (.bool mm) (by rfl) (rfl : Xb = Xb) (fun X hX => by first | rfl | go_simp) ?_
          (try simp only [Act.put, List.setIfInBounds_toArray, List.set_cons_zero, List.set_cons_succ])
          refine tl_val (S := fun X => X = Xb) (.bool mm) (by rfl) (rfl : Xb = Xb) (fun X hX => by first | rfl | go_simp) ?_
          (try simp only [Act.put, List.setIfInBounds_toArray, List.set_cons_zero, List.set_cons_succ])
          refine tl_val (S := fun X => X = Xb) (.bool mm) (by rfl) (rfl : Xb = Xb) (fun X hX => by first | rfl | go_simp) ?_
          (try simp only [Act.put, List.setIfInBounds_toArray, List.set_cons_zero, List.set_cons_succ])
          refine wpList_nil ?_
          go_wp2_with fail
          first | exact HE.out | (go_ret; exact HE.out)
      · obtain ⟨z, hz⟩ : ∃ z, decide ((pk : Int) = 3) = z := ⟨_, rfl⟩
        have HZ1 := Lib.hid hz
        have HZT : Hid (z = false) := Lib.hid (by rw [← hz]; simp; omega)
        have HE := Lib.hid (HP.out z (by rw [HV.out, HRI.out, decide_eq_false h3, HZT.out]; simp) _ HW.out)
        clear hz
        refine wp_region_list ?_
        refine tl_val (S := fun X => X = wc) (.pointer (some ⟨G, 3, none⟩)) (by rfl) hx0 (fun X hX => by first | rfl | go_simp) ?_
        (try simp only [Act.put, List.setIfInBounds_toArray, List.set_cons_zero, List.set_cons_succ])
        refine tl_val (S := fun X => X = wc) (.agg (pcells n.root).toArray) (by rfl) hx0 (fun X hX => ex_ldRtR HN.out (HB.out X hX) rfl rfl) ?_
        (try simp only [Act.put, List.setIfInBounds_toArray, List.set_cons_zero, List.set_cons_succ])
        refine tl_val (S := fun X => X = wc) (.agg (pcells zeroP).toArray) (by rfl) hx0 (fun X hX => ex_bld0 rfl) ?_
        (try simp only [Act.put, List.setIfInBounds_toArray, List.set_cons_zero, List.set_cons_succ])
        refine tl_val (S := fun X => X = wc) (.bool false) (by rfl) hx0 (fun X hX => ex_eqPb HZ.out rfl rfl rfl HPO.out zeroP_ok) ?_
        (try simp only [Act.put, List.setIfInBounds_toArray, List.set_cons_zero, List.set_cons_succ])
        refine tl_val (S := fun X => X = wc) (.bool false) (by rfl) hx0 (fun X hX => by first | rfl | go_simp) ?_
        (try simp only [Act.put, List.setIfInBounds_toArray, List.set_cons_zero, List.set_cons_succ])
        refine tl_val (S := fun X => X = wc) (.pointer (some ⟨G, 3, none⟩)) (by rfl) hx0 (fun X hX => by first | rfl | go_simp) ?_
        (try simp only [Act.put, List.setIfInBounds_toArray, List.set_cons_zero, List.set_cons_succ])
        refine tl_val (S := fun X => X = wc) (.pointer (some ⟨G, 3, none⟩)) (by rfl) hx0 (fun X hX => by first | rfl | go_simp) ?_
        (try simp only [Act.put, List.setIfInBounds_toArray, List.set_cons_zero, List.set_cons_succ])
        refine tl_val (S := fun X => X = wc) (.int .u8 (pk : Int)) (by rfl) hx0 (fun X hX => ex_ld1 Tryd.underlying5 rfl rfl (HC3.out X hX)) ?_
        (try simp only [Act.put, List.setIfInBounds_toArray, List.set_cons_zero, List.set_cons_succ])
        refine tl_val (S := fun X => X = wc) (.bool z) (by rfl) hx0 (fun X hX => (by rw [← HZ1.out]; first | rfl | go_simp)) ?_
        (try simp only [Act.put, List.setIfInBounds_toArray, List.set_cons_zero, List.set_cons_succ])
        refine tl_val (S := fun X => X = wc) (.bool z) (by rfl) hx0 (fun X hX => by first | rfl | go_simp) ?_
        (try simp only [Act.put, List.setIfInBounds_toArray, List.set_cons_zero, List.set_cons_succ])
        refine tl_skipU HU.out (by first | (rw [HU.out]; rfl) | (rw [HZT.out]; rfl) | rfl) ?_
        (try simp only [Act.put, List.setIfInBounds_toArray, List.set_cons_zero, List.set_cons_succ])
        refine tl_skipU HU.out (by first | (rw [HU.out]; rfl) | (rw [HZT.out]; rfl) | rfl) ?_
        (try simp only [Act.put, List.setIfInBounds_toArray, List.set_cons_zero, List.set_cons_succ])
        refine tl_skipU HU.out (by first | (rw [HU.out]; rfl) | (rw [HZT.out]; rfl) | rfl) ?_
        (try simp only [Act.put, List.setIfInBounds_toArray, List.set_cons_zero, List.set_cons_succ])
        refine tl_skipU HU.out (by first | (rw [HU.out]; rfl) | (rw [HZT.out]; rfl) | rfl) ?_
        (try simp only [Act.put, List.setIfInBounds_toArray, List.set_cons_zero, List.set_cons_succ])
        refine tl_val (S := fun X => X = wc) (.bool z) (by rfl) hx0 (fun X hX => (by rw [HZT.out]; first | rfl | go_simp)) ?_
        (try simp only [Act.put, List.setIfInBounds_toArray, List.set_cons_zero, List.set_cons_succ])
        refine tl_val (S := fun X => X = wc) (.bool z) (by rfl) hx0 (fun X hX => by first | rfl | go_simp) ?_
        (try simp only [Act.put, List.setIfInBounds_toArray, List.set_cons_zero, List.set_cons_succ])
        refine tl_skipU HU.out (by first | (rw [HU.out]; rfl) | (rw [HZT.out]; rfl) | rfl) ?_
        (try simp only [Act.put, List.setIfInBounds_toArray, List.set_cons_zero, List.set_cons_succ])
        refine tl_skipU HU.out (by first | (rw [HU.out]; rfl) | (rw [HZT.out]; rfl) | rfl) ?_
        (try simp only [Act.put, List.setIfInBounds_toArray, List.set_cons_zero, List.set_cons_succ])
        refine tl_skipU HU.out (by first | (rw [HU.out]; rfl) | (rw [HZT.out]; rfl) | rfl) ?_
        (try simp only [Act.put, List.setIfInBounds_toArray, List.set_cons_zero, List.set_cons_succ])
        refine tl_val (S := fun X => X = wc) (.bool z) (by rfl) hx0 (fun X hX => (by rw [HZT.out]; first | rfl | go_simp)) ?_
        (try simp only [Act.put, List.setIfInBounds_toArray, List.set_cons_zero, List.set_cons_succ])
        refine tl_val (S := fun X => X = wc) (.bool z) (by rfl) hx0 (fun X hX => by first | rfl | go_simp) ?_
        (try simp only [Act.put, List.setIfInBounds_toArray, List.set_cons_zero, List.set_cons_succ])
        refine tl_val (S := fun X => X = wc) (.bool z) (by rfl) hx0 (fun X hX => by first | rfl | go_simp) ?_
        (try simp only [Act.put, List.setIfInBounds_toArray, List.set_cons_zero, List.set_cons_succ])
        refine wpList_nil ?_
        go_wp2_with fail
        first | exact HE.out | (go_ret; exact HE.out)
    · obtain ⟨z, hz⟩ : ∃ z, true = z := ⟨_, rfl⟩
      rw [hz] at HZ
      have HZT := Lib.hid hz.symm
      clear hz
      have HE := Lib.hid (HP.out z (by rw [HV.out, HRI.out, HZT.out]; rfl) _ HW.out)
      refine wp_region_list ?_
      refine tl_val (S := fun X => X = wc) (.pointer (some ⟨G, 3, none⟩)) (by rfl) hx0 (fun X hX => by first | rfl | go_simp) ?_
      (try simp only [Act.put, List.setIfInBounds_toArray, List.set_cons_zero, List.set_cons_succ])
      refine tl_val (S := fun X => X = wc) (.agg (pcells n.root).toArray) (by rfl) hx0 (fun X hX => ex_ldRtR HN.out (HB.out X hX) rfl rfl) ?_
      (try simp only [Act.put, List.setIfInBounds_toArray, List.set_cons_zero, List.set_cons_succ])
      refine tl_val (S := fun X => X = wc) (.agg (pcells zeroP).toArray) (by rfl) hx0 (fun X hX => ex_bld0 rfl) ?_
      (try simp only [Act.put, List.setIfInBounds_toArray, List.set_cons_zero, List.set_cons_succ])
      refine tl_val (S := fun X => X = wc) (.bool z) (by rfl) hx0 (fun X hX => ex_eqPb HZ.out rfl rfl rfl HPO.out zeroP_ok) ?_
      (try simp only [Act.put, List.setIfInBounds_toArray, List.set_cons_zero, List.set_cons_succ])
      refine tl_val (S := fun X => X = wc) (.bool z) (by rfl) hx0 (fun X hX => by first | rfl | go_simp) ?_
      (try simp only [Act.put, List.setIfInBounds_toArray, List.set_cons_zero, List.set_cons_succ])
      refine tl_skipU HU.out (by first | (rw [HU.out]; rfl) | (rw [HZT.out]; rfl) | rfl) ?_
      (try simp only [Act.put, List.setIfInBounds_toArray, List.set_cons_zero, List.set_cons_succ])
      refine tl_skipU HU.out (by first | (rw [HU.out]; rfl) | (rw [HZT.out]; rfl) | rfl) ?_
      (try simp only [Act.put, List.setIfInBounds_toArray, List.set_cons_zero, List.set_cons_succ])
      refine tl_skipU HU.out (by first | (rw [HU.out]; rfl) | (rw [HZT.out]; rfl) | rfl) ?_
      (try simp only [Act.put, List.setIfInBounds_toArray, List.set_cons_zero, List.set_cons_succ])
      refine tl_skipU HU.out (by first | (rw [HU.out]; rfl) | (rw [HZT.out]; rfl) | rfl) ?_
      (try simp only [Act.put, List.setIfInBounds_toArray, List.set_cons_zero, List.set_cons_succ])
      refine tl_skipU HU.out (by first | (rw [HU.out]; rfl) | (rw [HZT.out]; rfl) | rfl) ?_
      (try simp only [Act.put, List.setIfInBounds_toArray, List.set_cons_zero, List.set_cons_succ])
      refine tl_skipU HU.out (by first | (rw [HU.out]; rfl) | (rw [HZT.out]; rfl) | rfl) ?_
      (try simp only [Act.put, List.setIfInBounds_toArray, List.set_cons_zero, List.set_cons_succ])
      refine tl_skipU HU.out (by first | (rw [HU.out]; rfl) | (rw [HZT.out]; rfl) | rfl) ?_
      (try simp only [Act.put, List.setIfInBounds_toArray, List.set_cons_zero, List.set_cons_succ])
      refine tl_skipU HU.out (by first | (rw [HU.out]; rfl) | (rw [HZT.out]; rfl) | rfl) ?_
      (try simp only [Act.put, List.setIfInBounds_toArray, List.set_cons_zero, List.set_cons_succ])
      refine tl_skipU HU.out (by first | (rw [HU.out]; rfl) | (rw [HZT.out]; rfl) | rfl) ?_
      (try simp only [Act.put, List.setIfInBounds_toArray, List.set_cons_zero, List.set_cons_succ])
      refine tl_skipU HU.out (by first | (rw [HU.out]; rfl) | (rw [HZT.out]; rfl) | rfl) ?_
      (try simp only [Act.put, List.setIfInBounds_toArray, List.set_cons_zero, List.set_cons_succ])
      refine tl_skipU HU.out (by first | (rw [HU.out]; rfl) | (rw [HZT.out]; rfl) | rfl) ?_
      (try simp only [Act.put, List.setIfInBounds_toArray, List.set_cons_zero, List.set_cons_succ])
      refine tl_skipU HU.out (by first | (rw [HU.out]; rfl) | (rw [HZT.out]; rfl) | rfl) ?_
      (try simp only [Act.put, List.setIfInBounds_toArray, List.set_cons_zero, List.set_cons_succ])
      refine tl_skipU HU.out (by first | (rw [HU.out]; rfl) | (rw [HZT.out]; rfl) | rfl) ?_
      (try simp only [Act.put, List.setIfInBounds_toArray, List.set_cons_zero, List.set_cons_succ])
      refine tl_skipU HU.out (by first | (rw [HU.out]; rfl) | (rw [HZT.out]; rfl) | rfl) ?_
      (try simp only [Act.put, List.setIfInBounds_toArray, List.set_cons_zero, List.set_cons_succ])
      refine tl_skipU HU.out (by first | (rw [HU.out]; rfl) | (rw [HZT.out]; rfl) | rfl) ?_
      (try simp only [Act.put, List.setIfInBounds_toArray, List.set_cons_zero, List.set_cons_succ])
      refine tl_val (S := fun X => X = wc) (.bool z) (by rfl) hx0 (fun X hX => (by rw [HZT.out]; first | rfl | go_simp)) ?_
      (try simp only [Act.put, List.setIfInBounds_toArray, List.set_cons_zero, List.set_cons_succ])
      refine tl_val (S := fun X => X = wc) (.bool z) (by rfl) hx0 (fun X hX => by first | rfl | go_simp) ?_
      (try simp only [Act.put, List.setIfInBounds_toArray, List.set_cons_zero, List.set_cons_succ])
      refine wpList_nil ?_
      go_wp2_with fail
      first | exact HE.out | (go_ret; exact HE.out)
  · have hv : b = true := by rw [HRB.out]; rfl
    have HE := Lib.hid (HP.out _ hv _ HW.out)
    clear hv HRB HQM HRI HOK
    go_wp2_with (first | (refine wpL_valG (by rfl) (ex_ldRn HN.out (HB.out _ rfl) rfl rfl) ?_) | (refine wpL_valG (by rfl) (ex_bldR0 rfl) ?_) | (refine wpL_valG (by rfl) (ex_eqRb HZ0.out rfl rfl rfl HN.out zeroI_ok) ?_) | fail)
    first | exact HE.out | (go_ret; exact HE.out)
end Go.Proofs.YtecngehkdjmjmaaDoor
