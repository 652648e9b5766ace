/- Charge: whole numbers, in times and rest; what a tally is charged. -/
import Derived.Test.YtoceedfjfjobdaaRows
import Derived.Test.YtoceedfjfjobdaaGa
import Derived.Test.YtoceedfjfjobdaaSched
import Derived.Test.YtoceedfjfjobdaaChg
import Derived.ProofKit
import Derived.OpenShut
import Derived.Laws.BitsAllLaws
import Derived.Handy
import Derived.Deep.Cut
import Derived.Deep.DeepCutAuto
namespace Go.Proofs.Ytoceedfjfjobdaa
open Go.RowKit

attribute [local go_sem] Oper.semAt_some

theorem own : ownKnob Try.prog.godebug = none := by kernel_rfl
theorem laidOut : laidOutB Try.prog = true := by kernel_rfl
theorem lt_of_cell {w : World} {g o : Nat} {v : Value} (h : w.cell? ⟨g, o, none⟩ = some v) : g < w.heap.size := by
  rcases Nat.lt_or_ge g w.heap.size with h1 | h1
  · exact h1
  · simp [World.cell?, Array.getElem?_eq_none h1] at h
theorem rng_below {w w' : World} {g o : Nat} {cs : List Value} (h : w.rangeAt g o cs) (hb : Below w.heap.size w w') (hg : g < w.heap.size) : w'.rangeAt g o cs := fun j v hv => by
  have := h j v hv
  rw [hb.cell (p := ⟨g, o + j, none⟩) hg]
  exact this
theorem c_val {ops : Array Oper} {rest : List Oper} {o : Oper} {a : Act} {Q : Exit → Act → World → Prop} {w w' : World} {v : Value} (hg : o.guard = none) (hrun : (execOp a.eval o).run Try.prog w = .ok (.value v) w')
    (hK : wpList Try.prog ops Q rest (a.put o.dst v) w') : wpList Try.prog ops Q (o :: rest) a w := by
  refine wpList_plain hg fun K' hK' => ?_
  unfold Oper.wp
  rw [hrun]
  exact hK' _ _ hK
theorem and_mask (x : Int) : bits .and .i64 x 4294967295 = x % 4294967296 := by
  have h2 : (BitVec.ofInt 64 4294967295).toNat = 4294967295 := by decide
  show IntKind.i64.wrap ((BitVec.ofInt 64 x &&& BitVec.ofInt 64 4294967295).toNat : Int) = _
  have h3 : (BitVec.ofInt 64 x).toNat &&& 4294967295 = (BitVec.ofInt 64 x).toNat % 4294967296 := Nat.and_two_pow_sub_one_eq_mod _ 32
  rw [BitVec.toNat_and, h2, h3, BitVec.toNat_ofInt, IntKind.wrap_i64]
  omega
/-- A whole number in memory: so many times 2^32, and a rest. -/
abbrev wcs (x : Int) : List Value := [.int .i64 (x / 4294967296), .int .i64 (x % 4294967296)]
abbrev wv (x : Int) : Value := .agg #[.int .i64 (x / 4294967296), .int .i64 (x % 4294967296)]
def Ret (w : World) (v : Value) (e : Ending) (w' : World) : Prop := e = .returned v ∧ Below w.heap.size w w'
set_option maxRecDepth 100000 in
theorem exact_any (n : Int) (w : World) : Calls Try.prog 14 #[.int .i64 n] w (Ret w (wv n)) := by
  have hb := and_mask n
  go_enter Try.func14, Try.ntmps14
  go_wp2_with fail
  exact bodyPost_ret (results_cell_row Try.results14 _ _ w.heap.size 42 _ _ _ rfl (heap_alloc_new _ _) Try.underlying42 rfl (by kernel_rfl)) rfl ⟨rfl, (Below.refl _ _).alloc (Nat.le_refl _) _⟩
theorem infoW : (Try.prog.info? 42).map (·.size) = some 2 := by kernel_rfl
theorem c_ld {ρ : Operand → Value} {o : Oper} {x : Operand} {ty : TypeId} {b off : Nat} {cs : List Value} {d : TypeDesc} {w : World} (ho : o.op = .load ty x) (hx : ρ x = .pointer (some ⟨b, off, none⟩)) (hc : w.rangeAt b off cs) (hu : Try.prog.underlying ty = some d) (hd : d.isRow = true) (hi : (Try.prog.info? ty).map (·.size) = some cs.length) : (execOp ρ o).run Try.prog w = .ok (.value (.agg cs.toArray)) w := by
  have hr := run_loadAt_mid (P := Try.prog) w b off ty cs d hc hu hd hi
  unfold execOp
  simp only [ho, hx]
  simp only [Sem.run_bind, hr, Result.andThen_ok, Sem.run_pure]
theorem c_rng {w : World} {g : Nat} {cs : List Value} {t : TypeId} (h : Blk w g cs t) : w.rangeAt g 0 cs := h.range _ _ fun j v hv => by simpa using hv
theorem c_ldW {ρ : Operand → Value} {o : Oper} {a : Operand} {w : World} {g : Nat} {x : Int} (hb : Blk w g (wcs x) 42) (ho : o.op = .load 42 a) (hx : ρ a = .pointer (some ⟨g, 0, none⟩)) : (execOp ρ o).run Try.prog w = .ok (.value (wv x)) w :=
  c_ld ho hx (c_rng hb) Try.underlying42 rfl infoW
theorem c_stR {ops : Array Oper} {rest : List Oper} {o : Oper} {a : Act} {Q : Exit → Act → World → Prop} {w : World} {ty t : TypeId} {x y : Operand} {b : Nat} {old cs : List Value} (hB : Blk w b old t) (hg : o.guard = none) (ho : o.op = .store ty x y) (hx : a.eval x = .pointer (some ⟨b, 0, none⟩)) (hy : a.eval y = .agg cs.toArray)
    (hs : (Try.prog.info? ty).map (·.size) = some cs.length) (hl : old.length = cs.length) (h1 : cs.all (·.oneCell') = true) (hK : ∀ W, Blk W b cs t → Chg (fun k => k = b) w W → wpList Try.prog ops Q rest (a.put o.dst undef) W) : wpList Try.prog ops Q (o :: rest) a w :=
  wpList_store_row hg ty x y ho b cs.toArray hx hy t old.toArray hB (by rw [hs]; simp) (by simpa using hl) (by simpa using h1) (hK _ (hB.row cs) (Chg.setRow (F := fun k => k = b) (Chg.refl _ w) (.inl rfl) _))
section
variable {ops : Array Oper} {Q : Exit → Act → World → Prop}
/-- A call that makes memory alone. -/
theorem g_call {F : Nat → Prop} {W0 : World} {i : Nat} {r : Tr} {a : Act} {w : World} (o : Oper) (hi : ops.toList[i]? = some o) (hw : Region.wanted o (yielded ops a.tmps) = true) (f : FuncId) (args : Array Value) (hrun : ∀ w, (execOp a.eval o).run Try.prog w = .ok (.enter f args) w) (v : Value)
    (hc : Calls Try.prog f args w (Ret w v)) (h0 : Chg F W0 w) (h : ∀ W, Chg F W0 W → Below w.heap.size w W → wpG Try.prog ops Q r (fun X => Chg F W0 X) (a.put o.dst v) W) : wpG Try.prog ops Q (.step i r) (fun X => Chg F W0 X) a w :=
  wpG_call o hi hw f args hrun (fun u X => u = v ∧ Chg F W0 X ∧ Below w.heap.size w X) (hc.mono fun e X he => ⟨v, he.1, h0.trans' (Chg.of_below he.2), rfl, h0.trans' (Chg.of_below he.2), he.2⟩) fun u X _ hu => by
    obtain ⟨rfl, hb, hc⟩ := hu
    exact ⟨_, fun _ h => h, hb, h X hb hc⟩
theorem g_st {F : Nat → Prop} {W0 : World} {i : Nat} {r : Tr} {a : Act} {w : World} {ty t : TypeId} {x y : Operand} {b : Nat} {old cs : List Value} (hB : Blk w b old t) (o : Oper) (hi : ops.toList[i]? = some o) (hw : Region.wanted o (yielded ops a.tmps) = true) (ho : o.op = .store ty x y) (hx : a.eval x = .pointer (some ⟨b, 0, none⟩)) (hy : a.eval y = .agg cs.toArray)
    (hs : (Try.prog.info? ty).map (·.size) = some cs.length) (hl : old.length = cs.length) (h1 : cs.all (·.oneCell') = true) (h0 : Chg F W0 w) (hF : F b ∨ W0.heap.size ≤ b) (h : ∀ W, Blk W b cs t → Chg F W0 W → wpG Try.prog ops Q r (fun X => Chg F W0 X) (a.put o.dst undef) W) : wpG Try.prog ops Q (.step i r) (fun X => Chg F W0 X) a w := by
  refine wpG_bare o hi hw fun K hK => ?_
  have hc := h0.setRow hF cs.toArray
  refine wpList_store_row rfl ty x y ho b cs.toArray hx hy t old.toArray hB (by rw [hs]; simp) (by simpa using hl) (by simpa using h1) (wpG_list_nil (hK _ _ (fun X => Chg F W0 X) (fun _ h => h) hc (h _ (hB.row cs) hc)))
end
set_option maxRecDepth 100000 in
set_option maxHeartbeats 4000000 in
theorem plus_any (x n k : Int) (hx : -1125899906842624 ≤ x ∧ x ≤ 1125899906842624) (hn : -8589934592 ≤ n ∧ n ≤ 8589934592) (hk : k = 1 ∨ k = 3 ∨ k = 4) (w : World) : Calls Try.prog 15 #[wv x, .int .i64 n, .int .i64 k] w (Ret w (wv (x + n * k))) := by
  have e : wv (x + n * k) = .agg #[.int .i64 ((x + n * k) / 4294967296), .int .i64 ((x + n * k) % 4294967296)] := rfl
  obtain ⟨X, hX⟩ : ∃ X, x / 4294967296 = X := ⟨_, rfl⟩
  obtain ⟨r, hr⟩ : ∃ r, x % 4294967296 = r := ⟨_, rfl⟩
  obtain ⟨q, hq⟩ : ∃ q, n / 4294967296 = q := ⟨_, rfl⟩
  obtain ⟨m, hm⟩ : ∃ m, n % 4294967296 = m := ⟨_, rfl⟩
  obtain ⟨mk, hmk⟩ : ∃ y, m * k = y := ⟨_, rfl⟩
  obtain ⟨qk, hqk⟩ : ∃ y, q * k = y := ⟨_, rfl⟩
  have b1 : 0 ≤ mk ∧ mk ≤ 17179869184 ∧ -16 ≤ qk ∧ qk ≤ 16 ∧ n * k = qk * 4294967296 + mk := by
    rcases hk with rfl | rfl | rfl <;> omega
  have w1 : IntKind.i64.wrap (m * k) = mk := by rw [hmk]; exact IntWalk.i64_in _ (by omega)
  have w2 : IntKind.i64.wrap (r + mk) = r + mk := IntWalk.i64_in _ (by omega)
  have w3 : IntKind.i64.wrap (q * k) = qk := by rw [hqk]; exact IntWalk.i64_in _ (by omega)
  have w4 : IntKind.i64.wrap (X + qk) = X + qk := IntWalk.i64_in _ (by omega)
  have hs : 0 ≤ (r + mk) / 4294967296 ∧ (r + mk) / 4294967296 ≤ 8 := by omega
  have w5 : IntKind.i64.wrap (X + qk + (r + mk) / 4294967296) = (x + n * k) / 4294967296 := by rw [IntWalk.i64_in _ (by omega)]; omega
  have hb : bits .and .i64 (r + mk) 4294967295 = (x + n * k) % 4294967296 := by rw [and_mask]; omega
  obtain ⟨z1, hz1⟩ : ∃ y, (x + n * k) / 4294967296 = y := ⟨_, rfl⟩
  obtain ⟨z2, hz2⟩ : ∃ y, (x + n * k) % 4294967296 = y := ⟨_, rfl⟩
  rw [e]
  unfold wv
  rw [hX, hr, hz1, hz2]
  rw [hz1] at w5
  rw [hz2] at hb
  have HEX := Lib.hid (exact_any n)
  unfold wv at HEX
  rw [hq, hm] at HEX
  clear e hX hr hz1 hz2 hx hn hk b1 hs hq hm hmk hqk
  go_enter Try.func15, Try.ntmps15
  go_upto_region 1 with fail
  refine (fun (k' : ∀ W, Blk W w.heap.size [.int .i64 X, .int .i64 r] 42 → Blk W (w.heap.size + 1) [.int .i64 0, .int .i64 0] 42 → Below w.heap.size w W → Code.wp _ _ _ _ W) => k' _ ((Blk.new' _ _ _ _ _ rfl rfl).alloc _) (Blk.new' _ _ _ _ _ (by simp) rfl) (((Below.refl _ _).alloc (Nat.le_refl _) _).alloc (by simp) _)) ?_
  intro W1 hA hR hb1
  obtain ⟨g, hg⟩ : ∃ g, w.heap.size = g := ⟨_, rfl⟩
  have hlo : w.heap.size ≤ g := by omega
  rw [hg] at hA hR ⊢
  clear hg
  go_wp2_with fail
  refine (HEX.out _).mono ?_
  rintro e W2 ⟨rfl, hb2⟩
  have hA2 := hA.below hb2 hA.lt
  have hR2 := hR.below hb2 hR.lt
  have HB2 := Lib.hid (hb1.trans (hb2.mono hb1.size))
  clear hA hR hb1 hb2 HEX
  go_upto_region 2 with fail
  refine (fun (k' : ∀ W, Blk W g [.int .i64 X, .int .i64 r] 42 → Blk W (g + 1) [.int .i64 0, .int .i64 0] 42 → Blk W W2.heap.size [.int .i64 q, .int .i64 m] 42 → Below w.heap.size w W → Code.wp _ _ _ _ W) => k' _ (hA2.alloc _) (hR2.alloc _) (Blk.new' _ _ _ _ _ rfl rfl) (HB2.out.alloc HB2.out.size _)) ?_
  intro W3 hA3 hR3 hM3 hb3
  have a0 := hA3.cell (j := 0) rfl
  have a1 := hA3.cell (j := 1) rfl
  have m0 := hM3.cell (j := 0) rfl
  have m1 := hM3.cell (j := 1) rfl
  have HR3 := Lib.hid hR3
  have HB3 := Lib.hid hb3
  have HLO := Lib.hid hlo
  clear hA2 hR2 HB2 hA3 hR3 hM3 hb3 hlo
  go_wp2_with (first | (refine c_stR (cs := [.int .i64 z1, .int .i64 z2]) HR3.out rfl rfl rfl rfl infoW rfl rfl ?_; intro W4 hR4 hc4) | fail)
  exact bodyPost_ret (results_cell_row Try.results15 _ _ (g + 1) 42 _ _ _ rfl hR4 Try.underlying42 rfl infoW) rfl ⟨rfl, HB3.out.trans (hc4.below (fun k e => by have := HLO.out; omega) HB3.out.size)⟩
set_option maxRecDepth 100000 in
set_option maxHeartbeats 4000000 in
theorem above_any (x y : Int) (w : World) : Calls Try.prog 18 #[wv x, wv y] w (Ret w (.bool (decide (y < x)))) := by
  obtain ⟨X, hX⟩ : ∃ X, x / 4294967296 = X := ⟨_, rfl⟩
  obtain ⟨r, hr⟩ : ∃ r, x % 4294967296 = r := ⟨_, rfl⟩
  obtain ⟨Y, hY⟩ : ∃ X, y / 4294967296 = X := ⟨_, rfl⟩
  obtain ⟨s, hs⟩ : ∃ r, y % 4294967296 = r := ⟨_, rfl⟩
  have hd : (y < x) ↔ (Y < X ∨ X = Y ∧ s < r) := by omega
  unfold wv
  rw [hX, hr, hY, hs]
  have HBL : Hid (∀ o1 o2 : Obj, Below w.heap.size w ((w.alloc o1).alloc o2)) := Lib.hid fun o1 o2 => ((Below.refl _ _).alloc (Nat.le_refl _) _).alloc (by simp) _
  clear hX hr hY hs
  by_cases h1 : Y < X
  · rw [decide_eq_true (hd.2 (.inl h1))]
    clear hd
    go_enter Try.func18, Try.ntmps18
    go_wp2_with fail
    first | exact ⟨rfl, HBL.out _ _⟩ | (go_ret; exact ⟨rfl, HBL.out _ _⟩)
  · by_cases h2 : X = Y
    · by_cases h3 : s < r
      · rw [decide_eq_true (hd.2 (.inr ⟨h2, h3⟩))]
        subst h2
        clear hd
        go_enter Try.func18, Try.ntmps18
        go_wp2_with fail
        first | exact ⟨rfl, HBL.out _ _⟩ | (go_ret; exact ⟨rfl, HBL.out _ _⟩)
      · rw [decide_eq_false (fun h => by rcases hd.1 h with h | h; exact h1 h; exact h3 h.2)]
        subst h2
        clear hd
        go_enter Try.func18, Try.ntmps18
        go_wp2_with fail
        first | exact ⟨rfl, HBL.out _ _⟩ | (go_ret; exact ⟨rfl, HBL.out _ _⟩)
    · rw [decide_eq_false (fun h => by rcases hd.1 h with h | h; exact h1 h; exact h2 h.1)]
      clear hd
      go_enter Try.func18, Try.ntmps18
      go_wp2_with fail
      first | exact ⟨rfl, HBL.out _ _⟩ | (go_ret; exact ⟨rfl, HBL.out _ _⟩)
theorem above_b {x y : Int} {b : Bool} (h : decide (y < x) = b) (w : World) : Calls Try.prog 18 #[wv x, wv y] w (Ret w (.bool b)) := h ▸ above_any x y w

set_option maxRecDepth 100000 in
set_option maxHeartbeats 4000000 in
theorem near_any (x : Int) (hx : -4611686018427387904 ≤ x ∧ x ≤ 4611686018427387903) (w : World) : Calls Try.prog 16 #[wv x] w (Ret w (.int .i64 x)) := by
  have e1 : decide (9223372036854775807 < x) = false := decide_eq_false (by omega)
  have e2 : decide (x < -9223372036854775808) = false := decide_eq_false (by omega)
  have HF1 := Lib.hid e1; have HF2 := Lib.hid e2
  have w1 : IntKind.i64.wrap (x / 4294967296 * 4294967296) = x / 4294967296 * 4294967296 := IntWalk.i64_in _ (by omega)
  have w2 : IntKind.i64.wrap (x / 4294967296 * 4294967296 + x % 4294967296) = x := by rw [IntKind.wrap_i64]; omega
  have W12 := Lib.hid (And.intro w1 w2)
  clear e1 e2 w1 w2
  go_enter Try.func16, Try.ntmps16
  go_upto_region 1 with fail
  refine (fun (k : ∀ W, Blk W w.heap.size (wcs x) 42 → Below w.heap.size w W → Code.wp _ _ _ _ W) => k _ (Blk.new' _ _ _ _ _ rfl rfl) ((Below.refl _ _).alloc (Nat.le_refl _) _)) ?_
  intro W1 hB1 hb1
  obtain ⟨g, hg⟩ : ∃ g, w.heap.size = g := ⟨_, rfl⟩
  rw [hg] at hB1 ⊢
  have HB1 := Lib.hid hB1; have Hb1 := Lib.hid hb1
  clear hB1 hb1
  refine wp_region_sched ((.take 0 (.step 1 (.step 2 (.take 3 (.nil)))))) (by kernel_rfl) (by kernel_rfl) (fun d _ _ _ _ h => by cases d <;> exact h) (fun X => Chg (fun _ => False) W1 X) ((Chg.refl _ _).drew) ?_
  refine wpG_take _ (wv x) rfl (by rfl) (fun X hX => c_ldW (HB1.out.chg hX id) rfl rfl) ?_
  (try simp only [Act.put, List.setIfInBounds_toArray, List.set_cons_zero, List.set_cons_succ])
  refine g_call _ rfl (by rfl) 14 (#[.int .i64 9223372036854775807]) (fun X => by go_simp) (wv 9223372036854775807) (exact_any 9223372036854775807 _) (by first | exact (Chg.refl _ _).drew | exact HBW.out) ?_
  intro W hbW hbl
  (try clear HBW)
  have HBW := Lib.hid hbW
  clear hbW hbl
  (try simp only [Act.put, List.setIfInBounds_toArray, List.set_cons_zero, List.set_cons_succ])
  refine g_call _ rfl (by rfl) 18 (#[wv x, wv 9223372036854775807]) (fun X => by go_simp) (.bool false) (above_b HF1.out _) (by first | exact (Chg.refl _ _).drew | exact HBW.out) ?_
  intro W hbW hbl
  (try clear HBW)
  have HBW := Lib.hid hbW
  clear hbW hbl
  (try simp only [Act.put, List.setIfInBounds_toArray, List.set_cons_zero, List.set_cons_succ])
  refine wpG_take _ (.bool false) rfl (by rfl) (fun X hX => by first | rfl | go_simp) ?_
  (try simp only [Act.put, List.setIfInBounds_toArray, List.set_cons_zero, List.set_cons_succ])
  refine wpG_nil ?_
  go_upto_region 3 with fail
  obtain ⟨W2, hW2⟩ : ∃ X, X = W := ⟨_, rfl⟩
  rw [← hW2]
  have HB2 := Lib.hid (show Blk W2 g (wcs x) 42 by rw [hW2]; exact HB1.out.chg HBW.out id)
  have Hb2 := Lib.hid (show Below w.heap.size w W2 by rw [hW2]; exact Hb1.out.trans (HBW.out.below (fun _ h => h.elim) Hb1.out.size))
  clear hW2 HBW HB1 Hb1
  refine wp_region_sched ((.take 1 (.step 0 (.step 2 (.take 3 (.nil)))))) (by kernel_rfl) (by kernel_rfl) (fun d _ _ _ _ h => by cases d <;> exact h) (fun X => Chg (fun _ => False) W2 X) ((Chg.refl _ _).drew) ?_
  refine wpG_take _ (wv x) rfl (by rfl) (fun X hX => c_ldW (HB2.out.chg hX id) rfl rfl) ?_
  (try simp only [Act.put, List.setIfInBounds_toArray, List.set_cons_zero, List.set_cons_succ])
  refine g_call _ rfl (by rfl) 14 (#[.int .i64 (-9223372036854775808)]) (fun X => by go_simp) (wv (-9223372036854775808)) (exact_any (-9223372036854775808) _) (by first | exact (Chg.refl _ _).drew | exact HBW.out) ?_
  intro W hbW hbl
  (try clear HBW)
  have HBW := Lib.hid hbW
  clear hbW hbl
  (try simp only [Act.put, List.setIfInBounds_toArray, List.set_cons_zero, List.set_cons_succ])
  refine g_call _ rfl (by rfl) 18 (#[wv (-9223372036854775808), wv x]) (fun X => by go_simp) (.bool false) (above_b HF2.out _) (by first | exact (Chg.refl _ _).drew | exact HBW.out) ?_
  intro W hbW hbl
  (try clear HBW)
  have HBW := Lib.hid hbW
  clear hbW hbl
  (try simp only [Act.put, List.setIfInBounds_toArray, List.set_cons_zero, List.set_cons_succ])
  refine wpG_take _ (.bool false) rfl (by rfl) (fun X hX => by first | rfl | go_simp) ?_
  (try simp only [Act.put, List.setIfInBounds_toArray, List.set_cons_zero, List.set_cons_succ])
  refine wpG_nil ?_
  have HB3 := Lib.hid (HB2.out.chg HBW.out id)
  have HE := Lib.hid (Hb2.out.trans (HBW.out.below (fun _ h => h.elim) Hb2.out.size))
  clear HB2 HBW Hb2
  have c0 := HB3.out.cell (j := 0) rfl
  have c1 := HB3.out.cell (j := 1) rfl
  have w1 := W12.out.1
  have w2 := W12.out.2
  go_wp2_with fail
  first | exact ⟨rfl, HE.out⟩ | (go_ret; exact ⟨rfl, HE.out⟩)
/-- A tally in memory. -/
abbrev tls (f m o : Int) : List Value := [.int .i64 f, .int .i64 m, .int .i64 o]
abbrev tlv (f m o : Int) : Value := .agg #[.int .i64 f, .int .i64 m, .int .i64 o]
def pr (f m o : Int) : Int := 20 + f * 3 + m * 4 + o * 4
def In33 (f m o : Int) : Prop := (-8589934592 ≤ f ∧ f ≤ 8589934592) ∧ (-8589934592 ≤ m ∧ m ≤ 8589934592) ∧ (-8589934592 ≤ o ∧ o ≤ 8589934592)
theorem infoT : (Try.prog.info? 23).map (·.size) = some 3 := by kernel_rfl
theorem c_ldN {ρ : Operand → Value} {o : Oper} {x : Operand} {w : World} {ad : Addr} {v : Value} (hc : w.cell? ad = some v) (ho : o.op = .load 3 x) (hx : ρ x = .pointer (some ad)) : (execOp ρ o).run Try.prog w = .ok (.value v) w := by
  unfold execOp; simp only [ho]; go_simp
theorem c_ldT {ρ : Operand → Value} {o : Oper} {a : Operand} {w : World} {g : Nat} {f m k : Int} {t : TypeId} (hb : Blk w g (tls f m k) t) (ho : o.op = .load 23 a) (hx : ρ a = .pointer (some ⟨g, 0, none⟩)) : (execOp ρ o).run Try.prog w = .ok (.value (tlv f m k)) w :=
  c_ld ho hx (c_rng hb) Try.underlying23 rfl infoT
set_option maxRecDepth 100000 in
set_option maxHeartbeats 4000000 in
theorem price_any (f m o : Int) (h : In33 f m o) (w : World) : Calls Try.prog 17 #[tlv f m o] w (Ret w (wv (pr f m o))) := by
  have HR : Hid ((-8589934592 ≤ f ∧ f ≤ 8589934592) ∧ (-8589934592 ≤ m ∧ m ≤ 8589934592) ∧ (-8589934592 ≤ o ∧ o ≤ 8589934592) ∧ (-1125899906842624 ≤ 20 + f * 3 ∧ 20 + f * 3 ≤ 1125899906842624) ∧ (-1125899906842624 ≤ 20 + f * 3 + m * 4 ∧ 20 + f * 3 + m * 4 ≤ 1125899906842624)) := Lib.hid (by
    obtain ⟨h1, h2, h3⟩ := h
    exact ⟨h1, h2, h3, by omega, by omega⟩)
  unfold pr
  clear h
  go_enter Try.func17, Try.ntmps17
  go_upto_region 1 with fail
  refine (fun (k' : ∀ W, Blk W w.heap.size (tls f m o) 23 → Blk W (w.heap.size + 1) [.int .i64 0, .int .i64 0] 42 → Below w.heap.size w W → Code.wp _ _ _ _ W) => k' _ ((Blk.new' _ _ _ _ _ rfl rfl).alloc _) (Blk.new' _ _ _ _ _ (by simp) rfl) (((Below.refl _ _).alloc (Nat.le_refl _) _).alloc (by simp) _)) ?_
  intro W1 hA hR hb1
  obtain ⟨g, hg⟩ : ∃ g, w.heap.size = g := ⟨_, rfl⟩
  have hlo : w.heap.size ≤ g := by omega
  rw [hg] at hA hR ⊢
  have HB1 := Lib.hid hA; have HR1 := Lib.hid hR; have Hb1 := Lib.hid hb1; have HLO := Lib.hid hlo
  clear hg hA hR hb1 hlo
  have HR1 := Lib.hid HR1.out.drew
  refine wp_region_sched ((.take 1 (.take 2 (.take 4 (.take 5 (.take 7 (.take 8 (.step 0 (.step 3 (.step 6 (.step 9 (.step 10 (.nil))))))))))))) (by kernel_rfl) (by kernel_rfl) (fun d _ _ _ _ h => by cases d <;> exact h) (fun X => Chg (fun k => k = g + 1) W1 X) ((Chg.refl _ _).drew) ?_
  refine wpG_take _ (.pointer (some ⟨g, 0, none⟩)) rfl (by rfl) (fun X hX => by first | rfl | go_simp) ?_
  (try simp only [Act.put, List.setIfInBounds_toArray, List.set_cons_zero, List.set_cons_succ])
  refine wpG_take _ (.int .i64 f) rfl (by rfl) (fun X hX => c_ldN ((HB1.out.chg hX (by show ¬ g = g + 1; omega)).cell (j := 0) rfl) rfl rfl) ?_
  (try simp only [Act.put, List.setIfInBounds_toArray, List.set_cons_zero, List.set_cons_succ])
  refine wpG_take _ (.pointer (some ⟨g, 1, none⟩)) rfl (by rfl) (fun X hX => by first | rfl | go_simp) ?_
  (try simp only [Act.put, List.setIfInBounds_toArray, List.set_cons_zero, List.set_cons_succ])
  refine wpG_take _ (.int .i64 m) rfl (by rfl) (fun X hX => c_ldN ((HB1.out.chg hX (by show ¬ g = g + 1; omega)).cell (j := 1) rfl) rfl rfl) ?_
  (try simp only [Act.put, List.setIfInBounds_toArray, List.set_cons_zero, List.set_cons_succ])
  refine wpG_take _ (.pointer (some ⟨g, 2, none⟩)) rfl (by rfl) (fun X hX => by first | rfl | go_simp) ?_
  (try simp only [Act.put, List.setIfInBounds_toArray, List.set_cons_zero, List.set_cons_succ])
  refine wpG_take _ (.int .i64 o) rfl (by rfl) (fun X hX => c_ldN ((HB1.out.chg hX (by show ¬ g = g + 1; omega)).cell (j := 2) rfl) rfl rfl) ?_
  (try simp only [Act.put, List.setIfInBounds_toArray, List.set_cons_zero, List.set_cons_succ])
  refine g_call _ rfl (by rfl) 14 (#[.int .i64 20]) (fun X => by go_simp) (wv 20) (exact_any 20 _) (by first | exact (Chg.refl _ _).drew | exact HBW.out) ?_
  intro W hbW hbl
  (try clear HBW)
  have HBW := Lib.hid hbW
  replace HR1 := Lib.hid (HR1.out.below hbl HR1.out.lt)
  clear hbW hbl
  (try simp only [Act.put, List.setIfInBounds_toArray, List.set_cons_zero, List.set_cons_succ])
  refine g_call _ rfl (by rfl) 15 (#[wv 20, .int .i64 f, .int .i64 3]) (fun X => by go_simp) (wv (20 + f * 3)) (plus_any 20 f 3 (by omega) HR.out.1 (.inr (.inl rfl)) _) (by first | exact (Chg.refl _ _).drew | exact HBW.out) ?_
  intro W hbW hbl
  (try clear HBW)
  have HBW := Lib.hid hbW
  replace HR1 := Lib.hid (HR1.out.below hbl HR1.out.lt)
  clear hbW hbl
  (try simp only [Act.put, List.setIfInBounds_toArray, List.set_cons_zero, List.set_cons_succ])
  refine g_call _ rfl (by rfl) 15 (#[wv (20 + f * 3), .int .i64 m, .int .i64 4]) (fun X => by go_simp) (wv (20 + f * 3 + m * 4)) (plus_any (20 + f * 3) m 4 HR.out.2.2.2.1 HR.out.2.1 (.inr (.inr rfl)) _) (by first | exact (Chg.refl _ _).drew | exact HBW.out) ?_
  intro W hbW hbl
  (try clear HBW)
  have HBW := Lib.hid hbW
  replace HR1 := Lib.hid (HR1.out.below hbl HR1.out.lt)
  clear hbW hbl
  (try simp only [Act.put, List.setIfInBounds_toArray, List.set_cons_zero, List.set_cons_succ])
  refine g_call _ rfl (by rfl) 15 (#[wv (20 + f * 3 + m * 4), .int .i64 o, .int .i64 4]) (fun X => by go_simp) (wv (20 + f * 3 + m * 4 + o * 4)) (plus_any (20 + f * 3 + m * 4) o 4 HR.out.2.2.2.2 HR.out.2.2.1 (.inr (.inr rfl)) _) (by first | exact (Chg.refl _ _).drew | exact HBW.out) ?_
  intro W hbW hbl
  (try clear HBW)
  have HBW := Lib.hid hbW
  replace HR1 := Lib.hid (HR1.out.below hbl HR1.out.lt)
  clear hbW hbl
  (try simp only [Act.put, List.setIfInBounds_toArray, List.set_cons_zero, List.set_cons_succ])
  refine g_st (cs := wcs (20 + f * 3 + m * 4 + o * 4)) HR1.out _ rfl (by rfl) rfl rfl rfl infoW rfl rfl HBW.out (.inl rfl) ?_
  intro W hRW hcW
  (try simp only [Act.put, List.setIfInBounds_toArray, List.set_cons_zero, List.set_cons_succ])
  refine wpG_nil ?_
  go_wp2_with fail
  exact bodyPost_ret (results_cell_row Try.results17 _ _ (g + 1) 42 _ _ _ rfl hRW Try.underlying42 rfl infoW) rfl ⟨rfl, Hb1.out.trans (hcW.below (fun k e => by have := HLO.out; omega) Hb1.out.size)⟩
set_option maxRecDepth 100000 in
set_option maxHeartbeats 4000000 in
theorem charge_any (f m o : Int) (h : In33 f m o) (w : World) : Calls Try.prog 6 #[tlv f m o] w (Ret w (.int .i64 (pr f m o))) := by
  have HP := Lib.hid (price_any f m o h)
  have HN := Lib.hid (near_any (pr f m o) (by obtain ⟨h1, h2, h3⟩ := h; unfold pr; omega))
  clear h
  obtain ⟨p, hp⟩ : ∃ p, pr f m o = p := ⟨_, rfl⟩
  rw [hp] at HP HN ⊢
  clear hp
  go_enter Try.func6, Try.ntmps6
  go_upto_region 1 with fail
  refine (fun (k' : ∀ W, Blk W w.heap.size (tls f m o) 23 → Below w.heap.size w W → Code.wp _ _ _ _ W) => k' _ (Blk.new' _ _ _ _ _ rfl rfl) ((Below.refl _ _).alloc (Nat.le_refl _) _)) ?_
  intro W1 hA hb1
  go_wp2_with (first | (refine c_val rfl (c_ldT hA rfl rfl) ?_) | fail)
  refine (HP.out _).mono ?_
  rintro e W2 ⟨rfl, hb2⟩
  go_wp2_with fail
  refine (HN.out _).mono ?_
  rintro e W3 ⟨rfl, hb3⟩
  have HE := Lib.hid ((hb1.trans (hb2.mono hb1.size)).trans (hb3.mono (Nat.le_trans hb1.size hb2.size)))
  clear hb1 hb2 hb3 hA
  go_wp2_with fail
  first | exact ⟨rfl, HE.out⟩ | (go_ret; exact ⟨rfl, HE.out⟩)
set_option maxRecDepth 100000 in
set_option maxHeartbeats 4000000 in
theorem fits_any (f m o b : Int) (h : In33 f m o) (hb : -8589934592 ≤ b ∧ b ≤ 8589934592) (w : World) : Calls Try.prog 7 #[tlv f m o, .int .i64 b] w (Ret w (.bool (decide (pr f m o + 320 ≤ b - 1)))) := by
  have HP := Lib.hid (price_any f m o h)
  have hpb : -1125899906842624 ≤ pr f m o ∧ pr f m o ≤ 1125899906842624 := by obtain ⟨h1, h2, h3⟩ := h; unfold pr; omega
  clear h
  obtain ⟨p, hp⟩ : ∃ p, pr f m o = p := ⟨_, rfl⟩
  rw [hp] at HP hpb ⊢
  have HQ := Lib.hid (plus_any p 320 1 hpb (by omega) (.inl rfl))
  have HX := Lib.hid (exact_any b)
  have HY := Lib.hid (plus_any b (-1) 1 (by omega) (by omega) (.inl rfl))
  have e1 : p + 320 * 1 = p + 320 := by omega
  have e2 : b + -1 * 1 = b - 1 := by omega
  rw [e1] at HQ
  rw [e2] at HY
  have hD : (!decide (b - 1 < p + 320)) = decide (p + 320 ≤ b - 1) := by by_cases h : b - 1 < p + 320 <;> simp [h] <;> omega
  rw [← hD]
  clear hD
  obtain ⟨d, hd⟩ : ∃ d, decide (b - 1 < p + 320) = d := ⟨_, rfl⟩
  have HA := Lib.hid (above_b hd)
  rw [hd]
  clear hp hpb hb e1 e2 hd
  go_enter Try.func7, Try.ntmps7
  go_upto_region 1 with fail
  refine (fun (k' : ∀ W, Blk W w.heap.size (tls f m o) 23 → Below w.heap.size w W → Code.wp _ _ _ _ W) => k' _ (Blk.new' _ _ _ _ _ rfl rfl) ((Below.refl _ _).alloc (Nat.le_refl _) _)) ?_
  intro W1 hA hb1
  go_wp2_with (first | (refine c_val rfl (c_ldT hA rfl rfl) ?_) | fail)
  refine (HP.out _).mono ?_
  rintro e W2 ⟨rfl, hb2⟩
  go_wp2_with fail
  refine (HQ.out _).mono ?_
  rintro e W3 ⟨rfl, hb3⟩
  go_wp2_with fail
  refine (HX.out _).mono ?_
  rintro e W4 ⟨rfl, hb4⟩
  go_wp2_with fail
  refine (HY.out _).mono ?_
  rintro e W5 ⟨rfl, hb5⟩
  go_wp2_with fail
  refine (HA.out _).mono ?_
  rintro e W6 ⟨rfl, hb6⟩
  have hz := hb1.trans (hb2.mono hb1.size)
  have hz := hz.trans (hb3.mono hz.size)
  have hz := hz.trans (hb4.mono hz.size)
  have hz := hz.trans (hb5.mono hz.size)
  have HE := Lib.hid (hz.trans (hb6.mono hz.size))
  clear hb1 hb2 hb3 hb4 hb5 hb6 hA hz
  go_wp2_with fail
  first | exact ⟨rfl, HE.out⟩ | (go_ret; exact ⟨rfl, HE.out⟩)
end Go.Proofs.Ytoceedfjfjobdaa
