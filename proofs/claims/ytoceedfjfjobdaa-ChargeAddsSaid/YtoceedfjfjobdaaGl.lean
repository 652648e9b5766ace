/- Charge: Takes. -/
import Derived.Test.YtoceedfjfjobdaaGk
namespace Go.Proofs.Ytoceedfjfjobdaa
open Go.RowKit Go.Shelf

attribute [local go_sem] Oper.semAt_some

theorem c_callX {ops : Array Oper} {rest : List Oper} {o : Oper} {a : Act} {Q : Exit → Act → World → Prop} {w : World} {R : World → Prop} (f : FuncId) (args : Array Value) (v : Value) (hg : o.guard = none) (hrun : (execOp a.eval o).run Try.prog w = .ok (.enter f args) w)
    (hc : Calls Try.prog f args w fun e W => e = .returned v ∧ R W) (hK : ∀ W, R W → wpList Try.prog ops Q rest (a.put o.dst v) W) : wpList Try.prog ops Q (o :: rest) a w := by
  refine wpList_plain hg fun K' hK' => ?_
  unfold Oper.wp
  rw [hrun]
  refine hc.mono ?_
  rintro e W ⟨rfl, hb⟩
  exact hK' _ _ (hK W hb)
theorem run_stN {ρ : Operand → Value} {o : Oper} {x y : Operand} {w : World} {ad : Addr} {z : Int} {u : Value} (ho : o.op = .store 3 x y) (hx : ρ x = .pointer (some ad)) (hy : ρ y = .int .i64 z) (hc : w.cell? ad = some u) (hf : w.frozen? ad = false) :
    (execOp ρ o).run Try.prog w = .ok .skip (w.setCell ad (.int .i64 z)) := by
  unfold execOp; simp only [ho]; go_simp
theorem c_stN {ops : Array Oper} {rest : List Oper} {o : Oper} {a : Act} {Q : Exit → Act → World → Prop} {w : World} {x y : Operand} {g : Nat} {z : Int} {u : Value} {t : TypeId} (hB : Blk w g [u] t) (hg : o.guard = none) (ho : o.op = .store 3 x y) (hx : a.eval x = .pointer (some ⟨g, 0, none⟩)) (hy : a.eval y = .int .i64 z)
    (hK : ∀ W, Blk W g [.int .i64 z] t → Chg (fun k => k = g) w W → wpList Try.prog ops Q rest (a.put o.dst undef) W) : wpList Try.prog ops Q (o :: rest) a w := by
  refine wpList_plain hg fun K' hK' => ?_
  unfold Oper.wp
  rw [run_stN ho hx hy (hB.cell (j := 0) rfl) (hB.free 0)]
  exact hK' _ _ (hK _ (hB.set 0 _) (chg1 w g 0 _))
theorem wpG_stC {ops : Array Oper} {Q : Exit → Act → World → Prop} {S : World → Prop} {i : Nat} {r : Tr} {a : Act} {w : World} {z : Int} {x y : Operand} {ad : Addr} {u : Value} (_ : World → Prop) (o : Oper) (hi : ops.toList[i]? = some o) (hw : Region.wanted o (yielded ops a.tmps) = true) (ho : o.op = .store 3 x y) (hx : a.eval x = .pointer (some ad)) (hy : a.eval y = .int .i64 z)
    (hc : w.cell? ad = some u) (hf : w.frozen? ad = false) (hS : S (w.setCell ad (.int .i64 z))) (h : wpG Try.prog ops Q r S (a.put o.dst undef) (w.setCell ad (.int .i64 z))) : wpG Try.prog ops Q (.step i r) S a w := by
  show wpOp Try.prog ops Q i _ a w
  unfold wpOp
  simp only [of_list hi]
  rw [if_pos hw]
  refine .inl ?_
  unfold Oper.wp
  rw [run_stN ho hx hy hc hf]
  exact ⟨hS, S, fun _ h => h, hS, h⟩
theorem chg_stN {g : Nat} {W0 w : World} {v : Value} (h : Chg (fun k => k = g) W0 w) : Chg (fun k => k = g) W0 (w.setCell ⟨g, 0, none⟩ v) := h.setCell (.inl rfl) 0 v
theorem c_joinP {F : Fence} {n : Nat} {P : Program} {c : Code} {Q : Exit → Act → World → Prop} {a : Act} {w : World} (G : World → Prop) (h : ∃ A, c.wpIn F n P (fun e a w => e = .normal ∧ a = A ∧ G w) a w ∧ ∀ W, G W → Q .normal A W) : c.wpIn F n P Q a w := by
  obtain ⟨A, h1, h2⟩ := h
  exact wpIn_mono h1 (fun e a w ⟨e1, e2, e3⟩ => by subst e1 e2; exact h2 w e3)
theorem w_joinP {P : Program} {c : Code} {Q : Exit → Act → World → Prop} {a : Act} {w : World} (G : World → Prop) (h : ∃ A, c.wp P (fun e a w => e = .normal ∧ a = A ∧ G w) a w ∧ ∀ W, G W → Q .normal A W) : c.wp P Q a w := by
  obtain ⟨A, h1, h2⟩ := h
  exact wp_mono h1 (fun e a w ⟨e1, e2, e3⟩ => by subst e1 e2; exact h2 w e3)
theorem w_seq {P : Program} {x y : Code} {Q : Exit → Act → World → Prop} {a : Act} {w : World} (h : x.wp P (Exit.then (y.wp P Q) Q) a w) : (Code.seq x y).wp P Q a w := wp_seq h
section
variable {ρ : Operand → Value} {o : Oper} {x y : Operand} {w : World}
theorem ex_cv16 {k : Nat} (hk : k < 65536) (ho : o.op = .convert 30 47 x) (hx : ρ x = .int .u16 (k : Int)) : (execOp ρ o).run Try.prog w = .ok (.value (.int .u32 (k : Int))) w := by
  have w1 : IntKind.u32.wrap (k : Int) = (k : Int) := by rw [IntKind.wrap_u32]; omega
  unfold execOp; simp only [ho]; go_simp
theorem ex_quo4 {k : Nat} (hk : k < 65536) {t : TypeId} (ho : o.op = .binOp .quo 47 x (.const (.int .u32 4)) t) (hx : ρ x = .int .u32 (k : Int)) (hy : ρ (.const (.int .u32 4)) = .int .u32 4) : (execOp ρ o).run Try.prog w = .ok (.value (.int .u32 ((k / 4 : Nat) : Int))) w := by
  obtain ⟨q, hq⟩ : ∃ q, k / 4 = q := ⟨_, rfl⟩
  have e1 : (k : Int) / 4 = (q : Int) := by omega
  have w1 : IntKind.u32.wrap (q : Int) = (q : Int) := by rw [IntKind.wrap_u32]; omega
  rw [hq]
  clear hq
  unfold execOp; simp only [ho]; go_simp
theorem ex_add2 {k : Nat} (hk : k < 1000000000) {t : TypeId} (ho : o.op = .binOp .add 3 x (.const (.int .i64 2)) t) (hx : ρ x = .int .i64 (k : Int)) (hy : ρ (.const (.int .i64 2)) = .int .i64 2) : (execOp ρ o).run Try.prog w = .ok (.value (.int .i64 ((k + 2 : Nat) : Int))) w := by
  have w1 : IntKind.i64.wrap ((k : Int) + 2) = ((k + 2 : Nat) : Int) := IntWalk.i64_in _ (by omega)
  unfold execOp; simp only [ho]; go_simp
end
theorem eqFields_dec (d : Nat) (xs ys : Array Value) (W : World) (B : TypeId × Nat → Bool) : ∀ fs : List Field, (∀ f ∈ fs, f.name ≠ "_" ∧ ∃ x y, (Go.part f.type xs f.offset).run Try.prog W = .ok x W ∧ (Go.part f.type ys f.offset).run Try.prog W = .ok y W ∧ (Op.equalIn d f.type x y).run Try.prog W = .ok (B (f.type, f.offset)) W) →
    (Op.eqFields d xs ys fs).run Try.prog W = .ok ((fs.map fun f => (f.type, f.offset)).all B) W
  | [], _ => by simp [Op.eqFields]
  | f :: fs, h => by
    obtain ⟨hn, x, y, h1, h2, h3⟩ := h f (by simp)
    have ih := eqFields_dec d xs ys W B fs (fun g hg => h g (by simp [hg]))
    unfold Op.eqFields
    rw [if_pos hn]
    simp only [Sem.run_bind, h1, h2, h3, Result.andThen_ok]
    cases hB : B (f.type, f.offset)
    · simp [hB]
    · simpa [hB] using ih
theorem isAgg_int {t : TypeId} {k : IntKind} (h : Try.prog.underlying t = some (.int k)) (W : World) : (isAgg t).run Try.prog W = .ok false W := by
  unfold isAgg
  rw [Sem.run_bind, run_underlying h W]; rfl
theorem part_one {t : TypeId} {k : IntKind} (h : Try.prog.underlying t = some (.int k)) {xs : Array Value} {off : Nat} {v : Value} (hv : xs[off]? = some v) (W : World) : (Go.part t xs off).run Try.prog W = .ok v W := by
  unfold Go.part
  simp only [Sem.run_bind, isAgg_int h W, Result.andThen_ok, hv]
  rfl
theorem fieldsT : (Try.prog.fieldsOf 23).toList.map (fun f => (f.type, f.offset)) = [(3, 0), (3, 1), (3, 2)] := by kernel_rfl
theorem namesT : ((Try.prog.fieldsOf 23).toList.all fun f => f.name != "_") = true := by kernel_rfl
def eqAt (a b c a2 b2 c2 : Int) (f : TypeId × Nat) : Bool := if f.2 = 0 then decide (a = a2) else if f.2 = 1 then decide (b = b2) else decide (c = c2)
theorem run_eqT (a b c a2 b2 c2 : Int) (W : World) : (Op.equalIn 10000 23 (tlv a b c) (tlv a2 b2 c2)).run Try.prog W = .ok (decide (a = a2) && decide (b = b2) && decide (c = c2)) W := by
  rw [run_equalIn_struct W 9999 23 _ _ (by kernel_rfl) (by kernel_rfl)]
  have e : (decide (a = a2) && decide (b = b2) && decide (c = c2)) = (((Try.prog.fieldsOf 23).toList.map fun f => (f.type, f.offset)).all (eqAt a b c a2 b2 c2)) := by
    rw [fieldsT]
    simp [eqAt, Bool.and_assoc]
  rw [e]
  refine eqFields_dec _ _ _ W _ _ (fun f hm => ⟨?_, ?_⟩)
  · have := List.all_eq_true.1 namesT f hm
    simpa using this
  have h1 : (f.type, f.offset) ∈ (Try.prog.fieldsOf 23).toList.map (fun f => (f.type, f.offset)) := List.mem_map.2 ⟨f, hm, rfl⟩
  rw [fieldsT] at h1
  simp only [List.mem_cons, Prod.mk.injEq, List.not_mem_nil, or_false] at h1
  have hi : ∀ (a b : Int), (Op.equalIn 9999 3 (.int .i64 a) (.int .i64 b)).run Try.prog W = .ok (decide (a = b)) W := fun a b => by
    rw [run_equalIn_int W 9998 3 .i64 .i64 _ _ Try.underlying3]
    refine congrArg (fun b => Result.ok b W) ?_
    rw [Bool.eq_iff_iff]
    simp
  rcases h1 with ⟨e1, e2⟩ | ⟨e1, e2⟩ | ⟨e1, e2⟩ <;> rw [e1, e2]
  · exact ⟨_, _, part_one Try.underlying3 (v := .int .i64 a) rfl W, part_one Try.underlying3 (v := .int .i64 a2) rfl W, hi _ _⟩
  · exact ⟨_, _, part_one Try.underlying3 (v := .int .i64 b) rfl W, part_one Try.underlying3 (v := .int .i64 b2) rfl W, hi _ _⟩
  · exact ⟨_, _, part_one Try.underlying3 (v := .int .i64 c) rfl W, part_one Try.underlying3 (v := .int .i64 c2) rfl W, hi _ _⟩
section
variable {ρ : Operand → Value} {o : Oper} {x y : Operand} {w : World}
theorem ex_eqT {a b c a2 b2 c2 : Int} {z : Bool} (hz : (decide (a = a2) && decide (b = b2) && decide (c = c2)) = z) (ho : o.op = .binOp .eql 23 x y 23) (hx : ρ x = tlv a b c) (hy : ρ y = tlv a2 b2 c2) : (execOp ρ o).run Try.prog w = .ok (.value (.bool z)) w := by
  have h := run_eqT a b c a2 b2 c2 w
  have hg := run_eqGuard_agg (P := Try.prog) w .eql 23 x y #[.int .i64 a, .int .i64 b, .int .i64 c] #[.int .i64 a2, .int .i64 b2, .int .i64 c2] (by kernel_rfl)
  subst hz
  unfold execOp
  simp only [ho, hx, hy, Sem.run_bind, hg, run_eql_struct, h, Result.andThen_ok, Sem.run_pure]
theorem ex_neT {a b c a2 b2 c2 : Int} {z : Bool} (hz : (!(decide (a = a2) && decide (b = b2) && decide (c = c2))) = z) (ho : o.op = .binOp .neq 23 x y 23) (hx : ρ x = tlv a b c) (hy : ρ y = tlv a2 b2 c2) : (execOp ρ o).run Try.prog w = .ok (.value (.bool z)) w := by
  have h := run_eqT a b c a2 b2 c2 w
  have hg := run_eqGuard_agg (P := Try.prog) w .neq 23 x y #[.int .i64 a, .int .i64 b, .int .i64 c] #[.int .i64 a2, .int .i64 b2, .int .i64 c2] (by kernel_rfl)
  subst hz
  unfold execOp
  simp only [ho, hx, hy, Sem.run_bind, hg, run_neq_struct, h, Result.andThen_ok, Sem.run_pure]
theorem ex_bldT0 (ho : o.op = .build 23 #[]) : (execOp ρ o).run Try.prog w = .ok (.value (tlv 0 0 0)) w := by
  have hr : (Instr.build 23 #[]).run Try.prog w = .ok (tlv 0 0 0) w := run_build w 23 _ _ (by kernel_rfl)
  unfold execOp
  simp only [ho]
  simp only [List.map_toArray, List.map_nil, Sem.run_bind, hr, Result.andThen_ok, Sem.run_pure]
end
theorem takes_le {t : List Bool} {wd : Nat} (h : wd ≤ 2) : takesT t wd ≤ 144 := by
  have h1 := leaves_le t
  have h2 := nodes_eight t
  have h3 : leavesT t * wd ≤ 64 * 2 := Nat.mul_le_mul h1 h
  unfold takesT
  omega
theorem width_le (k : Nat) : widthG k ≤ 2 := by unfold widthG; split <;> omega
theorem body_bound : ∀ ys : List Yo, bodyL ys ≤ 146 * ys.length
  | [] => by simp [bodyL]
  | y :: ys => by
    have := body_bound ys
    have h1 := takes_le (t := y.2) (width_le y.1.kind)
    have h2 : rootT y.2 ≤ 2 := by unfold rootT; split <;> omega
    rw [bodyL_cons, List.length_cons]
    omega
def TkK (gN gT : Nat) (pre : List Yi) (A : World) : Prop := Blk A gN [.int .i64 ((2 + bodyL (pre.map Yi.yo) : Nat) : Int)] 3 ∧ Blk A gT (bcs (tableL (pre.map Yi.yo))) 51
theorem tkK_keeps {nS gN gT : Nat} (h1 : gN < nS) (h2 : gT < nS) : KpB nS (TkK gN gT) := fun _ _ _ h hb _ => ⟨h.1.below hb h1, h.2.below hb h2⟩
set_option maxRecDepth 100000 in
set_option maxHeartbeats 16000000 in
theorem takes_go (l : List Oi) (sp : Option Addr) (cap : Nat) (hc : l.length ≤ cap) (hl : l.length < 1000) (hO : ∀ o ∈ l, o.offs.length < 1000000) (w : World) (hs : SrcO w sp l) (hk : ∀ o ∈ l, o.OK w) :
    Calls Try.prog 11 #[.slice sp l.length cap] w (Ret w (.int .i64 (takesL (eachL seen0 (l.map Oi.ob)) : Int))) := by
  have HS := Lib.hid hs; have HKK := Lib.hid hk; have HL := Lib.hid hl; have HC := Lib.hid hc; have HO := Lib.hid hO
  have HOF := Lib.hid (of_tally l sp cap hc hl hO)
  rw [← each_map] at HOF ⊢
  generalize hPost : Ret w (.int .i64 (takesL ((eachI seen0 l).map Yi.yo) : Int)) = Post
  have HP : Hid (∀ W, Below w.heap.size w W → Post (.returned (.int .i64 (takesL ((eachI seen0 l).map Yi.yo) : Int))) W) := Lib.hid fun W h => by rw [← hPost]; exact ⟨rfl, h⟩
  obtain ⟨N, hN⟩ : ∃ N, l.length = N := ⟨_, rfl⟩
  have HN := Lib.hid hN
  rw [hN] at HOF ⊢
  clear hs hk hl hc hO hPost hN
  refine callsIn_wide.1 (callsIn_of_wp_marks (F := Fence.wide) (n := 5) Try.func11 rfl trivial ?_ rfl)
  refine wpIn_wide.2 ?_
  simp only [Try.ntmps11, List.size_toArray, List.length_cons, List.length_nil, Nat.reduceAdd, Nat.reduceSub, Array.replicate_succ, Array.replicate_zero, List.push_toArray, List.append_toArray, List.nil_append, List.cons_append]
  go_upto_region 2 with fail
  refine (fun (k' : ∀ W, Blk W w.heap.size [.int .i64 2] 3 → Below w.heap.size w W → Code.wp _ _ _ _ W) => k' _ (Blk.new' _ _ _ _ _ rfl rfl) ((Below.refl _ _).alloc (Nat.le_refl _) _)) ?_
  intro W0 hN0 hb0
  have HT0 : Hid (Blk (W0.alloc (.cells (bcs zeroT).toArray 51)) W0.heap.size (bcs zeroT) 51 ∧ Blk (W0.alloc (.cells (bcs zeroT).toArray 51)) w.heap.size [.int .i64 2] 3 ∧ Below w.heap.size w (W0.alloc (.cells (bcs zeroT).toArray 51))) :=
    Lib.hid ⟨Blk.new' _ _ _ _ _ rfl rfl, hN0.alloc _, hb0.alloc hb0.size _⟩
  have hNl := hN0.lt
  clear hN0 hb0
  go_upto_region 3 with (first | (refine c_val rfl (ex_al zeroTr rfl) ?_) | fail)
  refine (fun (k' : ∀ W, Blk W W0.heap.size (bcs zeroT) 51 → Blk W w.heap.size [.int .i64 2] 3 → Below w.heap.size w W → Code.wp _ _ _ _ W) => k' _ HT0.out.1 HT0.out.2.1 HT0.out.2.2) ?_
  intro W1 hT hR hb1
  obtain ⟨gN, hgN⟩ : ∃ g, w.heap.size = g := ⟨_, rfl⟩
  obtain ⟨gT, hgT⟩ : ∃ g, W0.heap.size = g := ⟨_, rfl⟩
  have HGR : Hid (w.heap.size = gN ∧ gN < gT) := Lib.hid ⟨hgN, by omega⟩
  rw [hgN] at hR ⊢
  rw [hgT] at hT ⊢
  go_wp2_with fail
  refine (each_any sp N cap W1).mono ?_
  rintro e wS ⟨rfl, hG, hbS⟩
  obtain ⟨G, hGG⟩ : ∃ G, W1.heap.size = G := ⟨_, rfl⟩
  have hR2 := hR.below hbS hR.lt
  have hT2 := hT.below hbS hT.lt
  have hGl := hG.lt
  have hTl := hT.lt
  have hsz := hb1.size
  rw [hGG] at hG hGl hTl
  have HB : Hid (w.heap.size ≤ wS.heap.size ∧ G < wS.heap.size ∧ gN < wS.heap.size ∧ gT < wS.heap.size) := Lib.hid (by have := HGR.out; omega)
  have HLP : Hid (LpI w wS.heap.size G sp cap l (TkK gN gT) [] wS) := Lib.hid ⟨hb1.trans (hbS.mono hb1.size), by rw [HN.out]; exact hG, Nat.le_refl _, hR2, hT2⟩
  rw [hGG]
  clear hR hT hb1 hgN hgT hG hbS hGG hR2 hT2 hGl hTl hsz HT0 hNl
  have HOWN := Lib.hid (tkK_keeps HB.out.2.2.1 HB.out.2.2.2)
  unfold eachV
  go_wp2_with fail
  refine (wpIn_wide (n := 5)).1 ?_
  apply (wpIn_rangeFunc_k (n := 5) (w := wS) (α := Yi) rfl (by omega) (gf := 24) (lb := #[.pointer (some ⟨G, 0, none⟩)]) rfl trivial (enters_of Try.func24 (by kernel_rfl) rfl)
    (encs := yiE) (fun _ => rfl)
    (LpI w wS.heap.size G sp cap l (TkK gN gT))
    (fun pre x A => LpI w wS.heap.size G sp cap l (TkK gN gT) pre A ∧ ∃ r, eachI seen0 l = pre ++ x :: r)
    (Lp2 w wS.heap.size G sp cap l (TkK gN gT) _)
    (fun _ _ _ => False)
    (lp_own HB.out.1 HB.out.2.1 HOWN.out) (lp2_own HB.out.1 HB.out.2.1 HOWN.out _) (fun _ => fun _ _ _ _ h _ _ => h.elim) HLP.out
    (each_in 4 (by omega) HC.out (by have := HL.out; omega) HO.out _ (fun pre A h => h.hd HS.out HKK.out) (fun pre A A' h hb => h.below HB.out.1 HB.out.2.1 HOWN.out hb) (fun pre A h => h.sz)) ?assign ?body ?done ?stop)
  case assign =>
    rintro lb pre x W K ⟨hI, hr⟩ hKf
    have HI := Lib.hid hI; have HR := Lib.hid hr; have HKF := Lib.hid hKf
    have hx2 : x.2.length = 64 := by
      obtain ⟨r, hr⟩ := hr
      obtain ⟨-, h2, -⟩ := eachI_ok l seen0 x (by rw [hr]; simp)
      rw [h2]; exact ownT_length _
    have HX2 := Lib.hid hx2
    clear hI hr hKf hx2
    unfold yiE
    refine wpIn_seq ?_
    refine c_regionL 4 (by kernel_rfl) (fun ⟨_, _, h⟩ => h) ?_
    simp only [List.zip_toArray, List.zip_cons_cons, List.zip_nil_right, List.foldl_toArray, List.foldl_cons, List.foldl_nil, List.setIfInBounds_toArray, List.set_cons_succ, List.set_cons_zero]
    refine c_val rfl (ex_al zeroGO rfl) ?_
    simp only [Act.put, List.setIfInBounds_toArray, List.set_cons_succ, List.set_cons_zero]
    refine c_stR (cs := ocells x.1) (Blk.new W (ocells zeroOi) 48) rfl rfl rfl rfl sizeO rfl rfl ?_
    intro W4 hR4 hc4
    refine c_nil (c_then ?_)
    simp only [Act.put, List.setIfInBounds_toArray, List.set_cons_succ, List.set_cons_zero]
    refine c_regionL 5 (by kernel_rfl) (fun ⟨_, _, h⟩ => h) ?_
    refine c_val rfl (ex_al zeroTr rfl) ?_
    simp only [Act.put, List.setIfInBounds_toArray, List.set_cons_succ, List.set_cons_zero]
    refine c_stR (cs := bcs x.2) (Blk.new W4 (bcs zeroT) 51) rfl rfl rfl rfl (by rw [List.length_map, HX2.out]; exact sizeTr) (by rw [List.length_map, List.length_map, HX2.out]; rfl) (one_bcs _) ?_
    intro W5 hR5 hc5
    refine c_nil (c_then ?_)
    simp only [Act.put, List.setIfInBounds_toArray, List.set_cons_succ, List.set_cons_zero]
    have b4 : Below W.heap.size W W4 := ((Below.refl _ _).alloc (Nat.le_refl _) _).trans (hc4.below (fun k e => by omega) (by simp))
    have b5 : Below W4.heap.size W4 W5 := ((Below.refl _ _).alloc (Nat.le_refl _) _).trans (hc5.below (fun k e => by omega) (by simp))
    have b6 := b4.trans (b5.mono b4.size)
    have hsz := HI.out.sz
    have h1 := hR4.below b5 hR4.lt
    have h4 := b4.size
    obtain ⟨g1, hg1⟩ : ∃ g, W.heap.size = g := ⟨_, rfl⟩
    obtain ⟨g2, hg2⟩ : ∃ g, W4.heap.size = g := ⟨_, rfl⟩
    have HIn := HI.out.below HB.out.1 HB.out.2.1 HOWN.out (b6.mono hsz)
    refine HKF.out _ _ (KA.of_below b6) ?_
    rw [hg1] at h1
    rw [hg2] at hR5
    rw [hg1, hg2]
    exact ⟨g1, g2, rfl, by omega, by omega, h1, hR5, HIn, HR.out⟩
  case body =>
    rintro lb pre x a' W ⟨g1, g2, rfl, hg1, hg2, hb1, hb2, hI, r, hr⟩
    obtain ⟨hmx, hxo, hlf, hn1, hn2⟩ := eachI_ok l seen0 x (by rw [hr]; simp)
    have hpx : pre.length < l.length := by
      have h1 := eachI_le l seen0
      rw [hr] at h1
      simp at h1
      omega
    have hbb := body_bound (pre.map Yi.yo)
    rw [List.length_map] at hbb
    have HX2 : Hid (x.2.length = 64) := Lib.hid (by rw [hxo]; exact ownT_length _)
    have HG12 : Hid (wS.heap.size ≤ g1 ∧ wS.heap.size ≤ g2) := Lib.hid ⟨hg1, hg2⟩
    obtain ⟨n0, hn0⟩ : ∃ n, 2 + bodyL (pre.map Yi.yo) = n := ⟨_, rfl⟩
    obtain ⟨tk, htk⟩ : ∃ n, takesT x.2 (widthG x.1.kind) = n := ⟨_, rfl⟩
    have HTK := Lib.hid htk
    have htb := takes_le (t := x.2) (width_le x.1.kind)
    rw [htk] at htb
    have HNB : Hid (n0 < 1000000 ∧ tk ≤ 144 ∧ x.1.num < 65536) := Lib.hid (by have := HL.out; omega)
    have HW1 : Hid (IntKind.i64.wrap ((n0 : Int) + (tk : Int)) = ((n0 + tk : Nat) : Int)) := Lib.hid (IntWalk.i64_in _ (by have := HNB.out; omega))
    have hN0 := hI.k.1
    rw [hn0] at hN0
    have hT0 := hI.k.2
    have HN0 := Lib.hid hN0
    have HM := Lib.hid (mark_any (tableL (pre.map Yi.yo)) (table_length _) (x.1.num / 4) (by have := HNB.out; omega) gT W hT0)
    have HTS := Lib.hid (table_snoc (pre.map Yi.yo) x.yo)
    have HBS := Lib.hid (bodyL_snoc (pre.map Yi.yo) x.yo)
    have HNE : Hid (¬ gN = gT ∧ ¬ g1 = gT ∧ ¬ g2 = gT ∧ ¬ G = gT ∧ ¬ g1 = gN ∧ ¬ g2 = gN ∧ ¬ G = gN) := Lib.hid (by have := HB.out; have := HGR.out; exact ⟨by omega, by omega, by omega, hI.box.not hT0 (by decide), by omega, by omega, hI.box.not hN0 (by decide)⟩)
    have HI := Lib.hid hI; have HB1 := Lib.hid hb1; have HB2 := Lib.hid hb2; have HE0 := Lib.hid hn0
    clear hg1 hg2 hb1 hb2 hI hr hmx hxo hlf hn1 hn2 hpx hbb hn0 htk htb hN0 hT0
    dsimp only
    refine wpIn_block ?_
    refine wpIn_seq ?_
    refine c_regionL 6 (by kernel_rfl) (fun ⟨_, _, h⟩ => h) ?_
    refine c_val rfl (ex_faG (a := 0) (j := 0) (by decide) rfl rfl) ?_
    simp only [Act.put, List.setIfInBounds_toArray, List.set_cons_succ, List.set_cons_zero]
    refine c_val rfl (ex_ld16 rfl rfl (HB1.out.cell (j := 0) rfl)) ?_
    simp only [Act.put, List.setIfInBounds_toArray, List.set_cons_succ, List.set_cons_zero]
    refine c_val rfl (ex_cv16 HNB.out.2.2 rfl rfl) ?_
    simp only [Act.put, List.setIfInBounds_toArray, List.set_cons_succ, List.set_cons_zero]
    refine c_val rfl (ex_quo4 (k := x.1.num) HNB.out.2.2 rfl rfl rfl) ?_
    simp only [Act.put, List.setIfInBounds_toArray, List.set_cons_succ, List.set_cons_zero]
    refine c_callX 20 (#[.pointer (some ⟨gT, 0, none⟩), .int .u32 ((x.1.num / 4 : Nat) : Int)]) (.tuple #[]) rfl (by go_simp) HM.out ?_
    rintro W2 ⟨ht2, hc2⟩
    simp only [Act.put, List.setIfInBounds_toArray, List.set_cons_succ, List.set_cons_zero]
    refine c_nil (c_then ?_)
    have ht2' : Blk W2 gT (bcs (tableL (pre.map Yi.yo ++ [x.yo]))) 51 := by rw [HTS.out]; exact ht2
    have HT2 := Lib.hid ht2'
    have HN2 := Lib.hid (HN0.out.chg hc2 HNE.out.1)
    replace HB1 := Lib.hid (HB1.out.chg hc2 HNE.out.2.1)
    replace HB2 := Lib.hid (HB2.out.chg hc2 HNE.out.2.2.1)
    have HC2 := Lib.hid hc2
    have HGN : Hid (¬ g1 = gN ∧ ¬ g2 = gN) := Lib.hid ⟨HNE.out.2.2.2.2.1, HNE.out.2.2.2.2.2.1⟩
    clear ht2 ht2' hc2
    refine wpIn_seq ?_
    refine c_joinP (fun V => Blk V gN [.int .i64 ((n0 + tk : Nat) : Int)] 3 ∧ Chg (fun k => k = gN) W2 V) ⟨{ tmps := #[.slice sp N cap, undef, .int .i64 0, .pointer (some ⟨gN, 0, none⟩), .pointer (some ⟨gT, 0, none⟩), .pointer (some ⟨g1, 0, none⟩), .pointer (some ⟨g2, 0, none⟩), .slice sp N cap, .func (.func 24) #[] #[.pointer (some ⟨G, 0, none⟩)], .agg (ocells x.1).toArray, .agg (bcs x.2).toArray, .pointer (some ⟨g1, 0 + 0, none⟩), .int .u16 (x.1.num : Int), .int .u32 (x.1.num : Int), .int .u32 ((x.1.num / 4 : Nat) : Int), .tuple #[], .int .i64 (n0 : Int), .agg (bcs x.2).toArray, .pointer (some ⟨g1, 0 + 1, none⟩), .int .u8 (x.1.kind : Int), .int .i64 (widthG x.1.kind : Int), .int .i64 (tk : Int), .int .i64 ((n0 + tk : Nat) : Int), undef, undef, undef, undef, undef, undef, undef, undef, undef, undef, undef, undef, undef, undef, undef, undef], defers := [] }, ?r1, ?r2⟩
    case r1 =>
      refine c_regionS (.take 1 (.take 2 (.take 3 (.fork 0 (.step 4 (.step 5 (.take 6 (.step 7 (.nil))))) 4 (.fork 0 (.step 5 (.take 6 (.step 7 (.nil)))) 5 (.step 0 (.take 6 (.step 7 (.nil))))))))) (by kernel_rfl) (by kernel_rfl) (by kernel_rfl) (fun _ _ _ _ _ h => by cases h.1) (fun h => by obtain ⟨_, _, h⟩ := h; cases h.1) (fun X => Chg (fun k => k = gN) W2 X) ((Chg.refl _ _).drew) ?_
      replace HN2 := Lib.hid HN2.out.drew
      have HBW : Hid (Chg (fun k => k = gN) W2 W2.drew) := Lib.hid (Chg.refl _ _).drew
      refine wpG_take _ (.agg (bcs x.2).toArray) rfl (by rfl) (fun X hX => c_ldTr HX2.out (HB2.out.chg hX HGN.out.2) rfl rfl) ?_
      (try simp only [Act.put, List.setIfInBounds_toArray, List.set_cons_zero, List.set_cons_succ])
      refine wpG_take _ (.pointer (some ⟨g1, 0 + 1, none⟩)) rfl (by rfl) (fun X hX => ex_faG (by decide) rfl rfl) ?_
      (try simp only [Act.put, List.setIfInBounds_toArray, List.set_cons_zero, List.set_cons_succ])
      refine wpG_take _ (.int .u8 (x.1.kind : Int)) rfl (by rfl) (fun X hX => ex_ldB8 rfl rfl ((HB1.out.chg hX HGN.out.1).cell (j := 1) rfl)) ?_
      (try simp only [Act.put, List.setIfInBounds_toArray, List.set_cons_zero, List.set_cons_succ])
      refine wpG_fork ?_ ?_
      · refine wpG_mkE _ rfl (by rfl) (.int .i64 (n0 : Int)) _ (c_ldN (HN2.out.cell (j := 0) rfl) rfl rfl) (fun X => Chg (fun k => k = gN) W2 X) (by first | exact (Chg.refl _ _).drew | exact HBW.out) (fun _ h => h) ?_
        (try simp only [Act.put, List.setIfInBounds_toArray, List.set_cons_zero, List.set_cons_succ])
        refine g_call _ rfl (by rfl) 22 (#[.int .u8 (x.1.kind : Int)]) (fun X => by go_simp) (.int .i64 (widthG x.1.kind : Int)) ((width_any x.1.kind _).mono fun e X he => ⟨he.1, by rw [he.2]; exact Below.refl _ _⟩) (by first | exact (Chg.refl _ _).drew | exact HBW.out) ?_
        intro V hbW hbl
        (try clear HBW)
        have HBW := Lib.hid hbW
        replace HN2 := Lib.hid (HN2.out.below hbl HN2.out.lt)
        clear hbW hbl
        (try simp only [Act.put, List.setIfInBounds_toArray, List.set_cons_zero, List.set_cons_succ])
        refine g_call _ rfl (by rfl) 21 (#[.agg (bcs x.2).toArray, .int .i64 (widthG x.1.kind : Int)]) (fun X => by go_simp) (.int .i64 (tk : Int)) (by rw [← HTK.out]; exact tree_any x.2 HX2.out (widthG x.1.kind) (by unfold widthG; split <;> omega) _) (by first | exact (Chg.refl _ _).drew | exact HBW.out) ?_
        intro V hbW hbl
        (try clear HBW)
        have HBW := Lib.hid hbW
        replace HN2 := Lib.hid (HN2.out.below hbl HN2.out.lt)
        clear hbW hbl
        (try simp only [Act.put, List.setIfInBounds_toArray, List.set_cons_zero, List.set_cons_succ])
        refine wpG_take _ (.int .i64 ((n0 + tk : Nat) : Int)) rfl (by rfl) (fun X hX => by have w1 := HW1.out; first | rfl | go_simp) ?_
        (try simp only [Act.put, List.setIfInBounds_toArray, List.set_cons_zero, List.set_cons_succ])
        refine wpG_stC (z := ((n0 + tk : Nat) : Int)) (S := fun X => Chg (fun k => k = gN) W2 X) (fun X => X = X) _ rfl (by rfl) rfl rfl rfl (HN2.out.cell (j := 0) rfl) (HN2.out.free 0) (chg_stN HBW.out) ?_
        (try simp only [Act.put, List.setIfInBounds_toArray, List.set_cons_zero, List.set_cons_succ])
        refine wpG_nil ?_
        exact ⟨rfl, rfl, HN2.out.set 0 _, chg_stN HBW.out⟩
      · refine g_call _ rfl (by rfl) 22 (#[.int .u8 (x.1.kind : Int)]) (fun X => by go_simp) (.int .i64 (widthG x.1.kind : Int)) ((width_any x.1.kind _).mono fun e X he => ⟨he.1, by rw [he.2]; exact Below.refl _ _⟩) (by first | exact (Chg.refl _ _).drew | exact HBW.out) ?_
        intro V hbW hbl
        (try clear HBW)
        have HBW := Lib.hid hbW
        replace HN2 := Lib.hid (HN2.out.below hbl HN2.out.lt)
        clear hbW hbl
        (try simp only [Act.put, List.setIfInBounds_toArray, List.set_cons_zero, List.set_cons_succ])
        refine wpG_fork ?_ ?_
        · refine wpG_mkE _ rfl (by rfl) (.int .i64 (n0 : Int)) _ (c_ldN (HN2.out.cell (j := 0) rfl) rfl rfl) (fun X => Chg (fun k => k = gN) W2 X) (by first | exact (Chg.refl _ _).drew | exact HBW.out) (fun _ h => h) ?_
          (try simp only [Act.put, List.setIfInBounds_toArray, List.set_cons_zero, List.set_cons_succ])
          refine g_call _ rfl (by rfl) 21 (#[.agg (bcs x.2).toArray, .int .i64 (widthG x.1.kind : Int)]) (fun X => by go_simp) (.int .i64 (tk : Int)) (by rw [← HTK.out]; exact tree_any x.2 HX2.out (widthG x.1.kind) (by unfold widthG; split <;> omega) _) (by first | exact (Chg.refl _ _).drew | exact HBW.out) ?_
          intro V hbW hbl
          (try clear HBW)
          have HBW := Lib.hid hbW
          replace HN2 := Lib.hid (HN2.out.below hbl HN2.out.lt)
          clear hbW hbl
          (try simp only [Act.put, List.setIfInBounds_toArray, List.set_cons_zero, List.set_cons_succ])
          refine wpG_take _ (.int .i64 ((n0 + tk : Nat) : Int)) rfl (by rfl) (fun X hX => by have w1 := HW1.out; first | rfl | go_simp) ?_
          (try simp only [Act.put, List.setIfInBounds_toArray, List.set_cons_zero, List.set_cons_succ])
          refine wpG_stC (z := ((n0 + tk : Nat) : Int)) (S := fun X => Chg (fun k => k = gN) W2 X) (fun X => X = X) _ rfl (by rfl) rfl rfl rfl (HN2.out.cell (j := 0) rfl) (HN2.out.free 0) (chg_stN HBW.out) ?_
          (try simp only [Act.put, List.setIfInBounds_toArray, List.set_cons_zero, List.set_cons_succ])
          refine wpG_nil ?_
          exact ⟨rfl, rfl, HN2.out.set 0 _, chg_stN HBW.out⟩
        · refine g_call _ rfl (by rfl) 21 (#[.agg (bcs x.2).toArray, .int .i64 (widthG x.1.kind : Int)]) (fun X => by go_simp) (.int .i64 (tk : Int)) (by rw [← HTK.out]; exact tree_any x.2 HX2.out (widthG x.1.kind) (by unfold widthG; split <;> omega) _) (by first | exact (Chg.refl _ _).drew | exact HBW.out) ?_
          intro V hbW hbl
          (try clear HBW)
          have HBW := Lib.hid hbW
          replace HN2 := Lib.hid (HN2.out.below hbl HN2.out.lt)
          clear hbW hbl
          (try simp only [Act.put, List.setIfInBounds_toArray, List.set_cons_zero, List.set_cons_succ])
          refine wpG_mkE _ rfl (by rfl) (.int .i64 (n0 : Int)) _ (c_ldN (HN2.out.cell (j := 0) rfl) rfl rfl) (fun X => Chg (fun k => k = gN) W2 X) (by first | exact (Chg.refl _ _).drew | exact HBW.out) (fun _ h => h) ?_
          (try simp only [Act.put, List.setIfInBounds_toArray, List.set_cons_zero, List.set_cons_succ])
          refine wpG_take _ (.int .i64 ((n0 + tk : Nat) : Int)) rfl (by rfl) (fun X hX => by have w1 := HW1.out; first | rfl | go_simp) ?_
          (try simp only [Act.put, List.setIfInBounds_toArray, List.set_cons_zero, List.set_cons_succ])
          refine wpG_stC (z := ((n0 + tk : Nat) : Int)) (S := fun X => Chg (fun k => k = gN) W2 X) (fun X => X = X) _ rfl (by rfl) rfl rfl rfl (HN2.out.cell (j := 0) rfl) (HN2.out.free 0) (chg_stN HBW.out) ?_
          (try simp only [Act.put, List.setIfInBounds_toArray, List.set_cons_zero, List.set_cons_succ])
          refine wpG_nil ?_
          exact ⟨rfl, rfl, HN2.out.set 0 _, chg_stN HBW.out⟩
    case r2 =>
    rintro W3 ⟨hn3, hc3⟩
    have HN3 := Lib.hid hn3
    have HT3 := Lib.hid (HT2.out.chg hc3 (fun e => HNE.out.1 e.symm))
    replace HB1 := Lib.hid (HB1.out.chg hc3 HGN.out.1)
    replace HB2 := Lib.hid (HB2.out.chg hc3 HGN.out.2)
    have HC3 := Lib.hid hc3
    clear hn3 hc3 HN2
    refine c_then ?_
    obtain ⟨z, hz⟩ : ∃ z, (!decide (x.2 = zeroT)) = z := ⟨_, rfl⟩
    have HZ := Lib.hid hz
    clear hz
    refine wpIn_seq ?_
    refine c_regionL 8 (by kernel_rfl) (fun ⟨_, _, h⟩ => h) ?_
    refine c_val rfl (c_ldTr HX2.out HB2.out rfl rfl) ?_
    simp only [Act.put, List.setIfInBounds_toArray, List.set_cons_succ, List.set_cons_zero]
    refine c_val rfl (ex_bldTr rfl) ?_
    simp only [Act.put, List.setIfInBounds_toArray, List.set_cons_succ, List.set_cons_zero]
    refine c_val rfl (ex_neTr HX2.out (by simp [zeroT]) HZ.out rfl rfl rfl) ?_
    simp only [Act.put, List.setIfInBounds_toArray, List.set_cons_succ, List.set_cons_zero]
    refine c_nil (c_then ?_)
    cases z
    case false =>
      have hroot : rootT x.2 = 0 := by
        have := HZ.out
        unfold rootT
        rw [if_pos (by simpa using this)]
      refine wpIn_cond_false rfl ?_
      refine wpIn_skip ?_
      have hC := (HC2.out.mono (G := fun k => k = gT ∨ k = gN) (fun k e => .inl e)).trans' (HC3.out.mono (fun k e => .inr e))
      have hF : ∀ k, k = gT ∨ k = gN → w.heap.size ≤ k := fun k e => by have := HGR.out; omega
      refine ⟨KA.of_chg hC (fun k e => by have := HB.out; omega), HI.out.bel.trans (hC.below hF HI.out.bel.size), HI.out.box.chg hC (fun e => e.elim HNE.out.2.2.2.1 HNE.out.2.2.2.2.2.2), Nat.le_trans HI.out.sz hC.size, ?_, ?_⟩
      · rw [List.map_append, List.map_cons, List.map_nil, HBS.out]
        have e : 2 + (bodyL (pre.map Yi.yo) + (takesT x.yo.2 (widthG x.yo.1.kind) + rootT x.yo.2)) = n0 + tk := by
          have h1 := HE0.out
          have h2 := HTK.out
          show 2 + (_ + (takesT x.2 (widthG x.1.kind) + rootT x.2)) = _
          omega
        rw [e]
        exact HN3.out
      · rw [List.map_append]
        exact HT3.out
    case true =>
      have hroot : rootT x.2 = 2 := by
        have := HZ.out
        unfold rootT
        rw [if_neg (by simpa using this)]
      refine wpIn_cond_true rfl ?_
      refine c_regionL 9 (by kernel_rfl) (fun ⟨_, _, h⟩ => h) ?_
      refine c_val rfl (c_ldN (HN3.out.cell (j := 0) rfl) rfl rfl) ?_
      simp only [Act.put, List.setIfInBounds_toArray, List.set_cons_succ, List.set_cons_zero]
      refine c_val rfl (ex_add2 (k := n0 + tk) (by have := HNB.out; omega) rfl rfl rfl) ?_
      simp only [Act.put, List.setIfInBounds_toArray, List.set_cons_succ, List.set_cons_zero]
      refine c_stN HN3.out rfl rfl rfl rfl ?_
      intro W4 hn4 hc4
      refine c_nil ?_
      have hT4 := HT3.out.chg hc4 (fun e => HNE.out.1 e.symm)
      have hC := (HC2.out.mono (G := fun k => k = gT ∨ k = gN) (fun k e => .inl e)).trans' ((HC3.out.trans' hc4).mono (fun k e => .inr e))
      have hF : ∀ k, k = gT ∨ k = gN → w.heap.size ≤ k := fun k e => by have := HGR.out; omega
      refine ⟨KA.of_chg hC (fun k e => by have := HB.out; omega), HI.out.bel.trans (hC.below hF HI.out.bel.size), HI.out.box.chg hC (fun e => e.elim HNE.out.2.2.2.1 HNE.out.2.2.2.2.2.2), Nat.le_trans HI.out.sz hC.size, ?_, ?_⟩
      · rw [List.map_append, List.map_cons, List.map_nil, HBS.out]
        have e : 2 + (bodyL (pre.map Yi.yo) + (takesT x.yo.2 (widthG x.yo.1.kind) + rootT x.yo.2)) = n0 + tk + 2 := by
          have h1 := HE0.out
          have h2 := HTK.out
          show 2 + (_ + (takesT x.2 (widthG x.1.kind) + rootT x.2)) = _
          omega
        rw [e]
        exact hn4
      · rw [List.map_append]
        exact hT4
  case done =>
    intro Dd ys W hD hS hI hK
    subst hS
    obtain ⟨ys, hys⟩ : ∃ ys, (eachI seen0 l).map Yi.yo = ys := ⟨_, rfl⟩
    have h1 := hI.k.1
    have h2 := hI.k.2
    rw [hys] at h1 h2
    rw [hys] at HP HOF
    have hlen : ys.length ≤ l.length := by
      have := eachI_le l seen0
      rw [← hys, List.length_map]
      exact this
    have hbb := body_bound ys
    obtain ⟨n1, hn1⟩ : ∃ n, 2 + bodyL ys = n := ⟨_, rfl⟩
    obtain ⟨tb, htb⟩ : ∃ t, tableL ys = t := ⟨_, rfl⟩
    obtain ⟨tk, htk⟩ : ∃ n, takesT tb 2 = n := ⟨_, rfl⟩
    have htl := table_length ys
    have htt := takes_le (t := tb) (wd := 2) (by omega)
    rw [htk] at htt
    rw [hn1] at h1
    rw [htb] at h2 htl
    have HTL := Lib.hid htl; have HTK := Lib.hid htk
    have HNB : Hid (n1 < 1000000 ∧ tk ≤ 144) := Lib.hid (by have := HL.out; omega)
    have HW1 : Hid (IntKind.i64.wrap ((n1 : Int) + (tk : Int)) = ((n1 + tk : Nat) : Int)) := Lib.hid (IntWalk.i64_in _ (by have := HNB.out; omega))
    have HRES : Hid (takesL ys = n1 + tk + (if ys = [] then 0 else 2)) := Lib.hid (by unfold takesL; rw [htb, htk, ← hn1])
    have HNT : Hid (¬ gT = gN) := Lib.hid (by have := HGR.out; omega)
    have HT := Lib.hid h2; have HN2 := Lib.hid h1; have HBL := Lib.hid hI.bel; have HK := Lib.hid hK
    clear hI h1 h2 hys hlen hbb hn1 htb htk htl htt
    go_upto_region 10 with fail
    refine w_joinP (fun V => Blk V gN [.int .i64 ((n1 + tk : Nat) : Int)] 3 ∧ Chg (fun k => k = gN) W V) ⟨{ tmps := #[.slice sp N cap, undef, .int .i64 0, .pointer (some ⟨gN, 0, none⟩), .pointer (some ⟨gT, 0, none⟩), undef, undef, .slice sp N cap, .func (.func 24) #[] #[.pointer (some ⟨G, 0, none⟩)], undef, undef, undef, undef, undef, undef, undef, undef, undef, undef, undef, undef, undef, undef, undef, undef, undef, undef, undef, .int .i64 (n1 : Int), .agg (bcs tb).toArray, .int .i64 (tk : Int), .int .i64 ((n1 + tk : Nat) : Int), undef, undef, undef, undef, undef, undef, undef], defers := [{ target := .collected Dd, args := #[] }] }, ?r1, ?r2⟩
    case r1 =>
      refine wp_region_sched (.take 1 (.fork 0 (.step 2 (.take 3 (.step 4 (.nil)))) 2 (.step 0 (.take 3 (.step 4 (.nil)))))) (by kernel_rfl) (by kernel_rfl) (fun _ _ _ _ _ h => by cases h.1) (fun X => Chg (fun k => k = gN) W X) ((Chg.refl _ _).drew) ?_
      replace HN2 := Lib.hid HN2.out.drew
      have HBW : Hid (Chg (fun k => k = gN) W W.drew) := Lib.hid (Chg.refl _ _).drew
      refine wpG_take _ (.agg (bcs tb).toArray) rfl (by rfl) (fun X hX => c_ldTr HTL.out (HT.out.chg hX HNT.out) rfl rfl) ?_
      (try simp only [Act.put, List.setIfInBounds_toArray, List.set_cons_zero, List.set_cons_succ])
      refine wpG_fork ?_ ?_
      · refine wpG_mkE _ rfl (by rfl) (.int .i64 (n1 : Int)) _ (c_ldN (HN2.out.cell (j := 0) rfl) rfl rfl) (fun X => Chg (fun k => k = gN) W X) (by first | exact (Chg.refl _ _).drew | exact HBW.out) (fun _ h => h) ?_
        (try simp only [Act.put, List.setIfInBounds_toArray, List.set_cons_zero, List.set_cons_succ])
        refine g_call _ rfl (by rfl) 21 (#[.agg (bcs tb).toArray, .int .i64 2]) (fun X => by go_simp) (.int .i64 (tk : Int)) (by rw [← HTK.out]; exact tree_any tb HTL.out 2 (by omega) _) (by first | exact (Chg.refl _ _).drew | exact HBW.out) ?_
        intro V hbW hbl
        (try clear HBW)
        have HBW := Lib.hid hbW
        replace HN2 := Lib.hid (HN2.out.below hbl HN2.out.lt)
        clear hbW hbl
        (try simp only [Act.put, List.setIfInBounds_toArray, List.set_cons_zero, List.set_cons_succ])
        refine wpG_take _ (.int .i64 ((n1 + tk : Nat) : Int)) rfl (by rfl) (fun X hX => by have w1 := HW1.out; first | rfl | go_simp) ?_
        (try simp only [Act.put, List.setIfInBounds_toArray, List.set_cons_zero, List.set_cons_succ])
        refine wpG_stC (z := ((n1 + tk : Nat) : Int)) (S := fun X => Chg (fun k => k = gN) W X) (fun X => X = X) _ rfl (by rfl) rfl rfl rfl (HN2.out.cell (j := 0) rfl) (HN2.out.free 0) (chg_stN HBW.out) ?_
        (try simp only [Act.put, List.setIfInBounds_toArray, List.set_cons_zero, List.set_cons_succ])
        refine wpG_nil ?_
        exact ⟨rfl, rfl, HN2.out.set 0 _, chg_stN HBW.out⟩
      · refine g_call _ rfl (by rfl) 21 (#[.agg (bcs tb).toArray, .int .i64 2]) (fun X => by go_simp) (.int .i64 (tk : Int)) (by rw [← HTK.out]; exact tree_any tb HTL.out 2 (by omega) _) (by first | exact (Chg.refl _ _).drew | exact HBW.out) ?_
        intro V hbW hbl
        (try clear HBW)
        have HBW := Lib.hid hbW
        replace HN2 := Lib.hid (HN2.out.below hbl HN2.out.lt)
        clear hbW hbl
        (try simp only [Act.put, List.setIfInBounds_toArray, List.set_cons_zero, List.set_cons_succ])
        refine wpG_mkE _ rfl (by rfl) (.int .i64 (n1 : Int)) _ (c_ldN (HN2.out.cell (j := 0) rfl) rfl rfl) (fun X => Chg (fun k => k = gN) W X) (by first | exact (Chg.refl _ _).drew | exact HBW.out) (fun _ h => h) ?_
        (try simp only [Act.put, List.setIfInBounds_toArray, List.set_cons_zero, List.set_cons_succ])
        refine wpG_take _ (.int .i64 ((n1 + tk : Nat) : Int)) rfl (by rfl) (fun X hX => by have w1 := HW1.out; first | rfl | go_simp) ?_
        (try simp only [Act.put, List.setIfInBounds_toArray, List.set_cons_zero, List.set_cons_succ])
        refine wpG_stC (z := ((n1 + tk : Nat) : Int)) (S := fun X => Chg (fun k => k = gN) W X) (fun X => X = X) _ rfl (by rfl) rfl rfl rfl (HN2.out.cell (j := 0) rfl) (HN2.out.free 0) (chg_stN HBW.out) ?_
        (try simp only [Act.put, List.setIfInBounds_toArray, List.set_cons_zero, List.set_cons_succ])
        refine wpG_nil ?_
        exact ⟨rfl, rfl, HN2.out.set 0 _, chg_stN HBW.out⟩
    case r2 =>
    rintro W3 ⟨hn3, hc3⟩
    have hbl3 : Below w.heap.size w W3 := HBL.out.trans (hc3.below (fun k e => by have := HGR.out; omega) HBL.out.size)
    have hk3 : W3.heap[Dd]? = some (.deferred (some [])) := by
      rw [hc3.block Dd (Array.getElem?_eq_some_iff.1 HK.out).1 (fun e => by have := HB.out; omega)]
      exact HK.out
    have HN3 := Lib.hid hn3; have HBL3 := Lib.hid hbl3; have HK3 := Lib.hid hk3
    have HDD : Hid (wS.heap.size ≤ Dd) := Lib.hid hD
    clear hn3 hc3 hbl3 hk3 hD HBL HK HN2 HT
    refine c_then ?_
    go_wp2_with fail
    refine (HOF.out _ (HS.out.grown HBL3.out) (fun o ho => (HKK.out o ho).grown HBL3.out)).mono ?_
    rintro e W4 ⟨rfl, hb4⟩
    have HN4 := Lib.hid (HN3.out.below hb4 HN3.out.lt)
    have HBL4 := Lib.hid (HBL3.out.trans (hb4.mono HBL3.out.size))
    have hk4 : W4.heap[Dd]? = some (.deferred (some [])) := by
      rw [hb4.block Dd (Array.getElem?_eq_some_iff.1 HK3.out).1]
      exact HK3.out
    have HK4 := Lib.hid hk4
    clear hb4 hk4 HN3 HBL3 HK3
    obtain ⟨z, hz⟩ : ∃ z, (!(decide ((filesL ys : Int) = 0) && decide ((metasL ys : Int) = 0) && decide ((ys.length : Int) = 0))) = z := ⟨_, rfl⟩
    have HZ := Lib.hid hz
    have hzy : z = !decide (ys = []) := by
      rw [← hz]
      cases ys with
      | nil => simp [filesL, metasL]
      | cons a r =>
        have e : decide (((a :: r).length : Int) = 0) = false := decide_eq_false (by simp; omega)
        rw [e, Bool.and_false]
        simp
    have HZY := Lib.hid hzy
    clear hz hzy
    obtain ⟨m, hm⟩ : ∃ m, n1 + tk = m := ⟨_, rfl⟩
    rw [hm] at HN4 HRES
    have HMB : Hid (m < 1000000000) := Lib.hid (by have := HNB.out; omega)
    clear hm
    cases z
    case false =>
      have hr := HRES.out
      have hy : ys = [] := by simpa using HZY.out
      rw [if_pos hy, Nat.add_zero] at hr
      have HR9 := Lib.hid hr
      clear hr hy
      go_wp2_with (first | (refine c_val rfl (ex_bldT0 rfl) ?_) | (refine c_val rfl (ex_neT HZ.out rfl rfl rfl) ?_) | (refine c_val rfl (c_ldN (HN4.out.cell (j := 0) rfl) rfl rfl) ?_) | fail)
      have hg := grownBy_putObj' W4 Dd (.deferred none)
      have hr : ∀ r, some Dd = some r → wS.heap.size ≤ r ∧ ∃ o : Obj, W4.heap[r]? = some o ∧ o.isCells = false := fun r e => by cases e; exact ⟨HDD.out, _, HK4.out, rfl⟩
      have hbl2 := HBL4.out.trans (below_grown hg (fun r e => Nat.le_trans HB.out.1 (hr r e).1) HBL4.out.size)
      refine ⟨by simp, .inl ⟨_, _, rfl, run_takeDeferred HK4.out, ?_⟩⟩
      refine ⟨.int .i64 (m : Int), ?_, ?_⟩
      · simp [results, Try.f11, go_sem]
      · have h9 := HP.out _ hbl2
        rw [HR9.out] at h9
        exact h9
    case true =>
      have hr := HRES.out
      have hy : ¬ ys = [] := by simpa using HZY.out
      rw [if_neg hy] at hr
      have HR9 := Lib.hid hr
      clear hr hy
      go_wp2_with (first | (refine c_val rfl (ex_bldT0 rfl) ?_) | (refine c_val rfl (ex_neT HZ.out rfl rfl rfl) ?_) | (refine c_val rfl (c_ldN (HN4.out.cell (j := 0) rfl) rfl rfl) ?_) | (refine c_val rfl (c_ldN (hn5.cell (j := 0) rfl) rfl rfl) ?_) | (refine c_val rfl (ex_add2 (k := m) HMB.out rfl rfl rfl) ?_) | (refine c_stN HN4.out rfl rfl rfl rfl ?_; intro W5 hn5 hc5) | fail)
      have hk5 : W5.heap[Dd]? = some (.deferred (some [])) := by
        rw [hc5.block Dd (Array.getElem?_eq_some_iff.1 HK4.out).1 (fun e => by have := HB.out; have := HDD.out; omega)]
        exact HK4.out
      have hbl5 := HBL4.out.trans (hc5.below (fun k e => by have := HGR.out; omega) HBL4.out.size)
      have hg := grownBy_putObj' W5 Dd (.deferred none)
      have hr : ∀ r, some Dd = some r → wS.heap.size ≤ r ∧ ∃ o : Obj, W5.heap[r]? = some o ∧ o.isCells = false := fun r e => by cases e; exact ⟨HDD.out, _, hk5, rfl⟩
      have hbl2 := hbl5.trans (below_grown hg (fun r e => Nat.le_trans HB.out.1 (hr r e).1) hbl5.size)
      refine ⟨by simp, .inl ⟨_, _, rfl, run_takeDeferred hk5, ?_⟩⟩
      refine ⟨.int .i64 ((m + 2 : Nat) : Int), ?_, ?_⟩
      · simp [results, Try.f11, go_sem]
      · have h9 := HP.out _ hbl2
        rw [HR9.out] at h9
        exact h9
  case stop => rintro Dd c pre W hD - h; exact h.elim
end Go.Proofs.Ytoceedfjfjobdaa
