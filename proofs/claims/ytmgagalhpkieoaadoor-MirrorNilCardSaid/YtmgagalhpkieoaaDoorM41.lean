/- No mirror, no disks, no space: the law's walk. -/
import Derived.Test.YtmgagalhpkieoaaDoorM40
namespace Go.Proofs.YtmgagalhpkieoaaDoor
open Go.RowKit

attribute [local go_sem] Oper.semAt_some

theorem read_nil8 (p : Pt) (hp : p.OK) (w : World) : Calls Tryd.prog 8 #[.pointer none, .agg (pcells p).toArray] w fun e w' => e = .returned (.tuple #[.slice none 0 0, .int .i64 2]) ∧ Below w.heap.size w w' := by
  have hb0 : Below w.heap.size w (w.alloc (.cells (pcells p).toArray 28)) := (Below.refl _ _).alloc (Nat.le_refl _) _
  have HB0 := Lib.hid hb0
  have HG0 : Hid ((w.alloc (.cells (pcells p).toArray 28)).heap[w.heap.size]? = some (.cells (pcells p).toArray 28 (0, 0))) := Lib.hid (Blk.new _ _ _)
  have HZ : Hid ((Tryd.prog.info? 28).map (·.size) = some (pcells p).toArray.size) := Lib.hid (size_pc hp)
  clear hb0 hp
  go_enter Tryd.func8, Tryd.ntmps8
  go_wp2_with (first | (refine wpList_load_row rfl 28 (.tmp 3) rfl w.heap.size rfl 28 _ _ _ HG0.out Tryd.underlying28 rfl HZ.out ?_) | (go_at_call 25; refine (refuse_nil _ _).mono ?_; rintro e w' ⟨rfl, hb⟩) | fail)
  go_ret2
  exact ⟨rfl, HB0.out.trans (hb.mono HB0.out.size)⟩
theorem check_nil8 (p : Pt) (hp : p.OK) (w : World) : Calls Tryd.prog 9 #[.pointer none, .agg (pcells p).toArray] w fun e w' => e = .returned (.int .i64 2) ∧ Below w.heap.size w w' := by
  have hb0 : Below w.heap.size w (w.alloc (.cells (pcells p).toArray 28)) := (Below.refl _ _).alloc (Nat.le_refl _) _
  have HB0 := Lib.hid hb0
  have HG0 : Hid (Blk (w.alloc (.cells (pcells p).toArray 28)) w.heap.size (pcells p) 28) := Lib.hid (Blk.new _ _ _)
  have HZ : Hid ((Tryd.prog.info? 28).map (·.size) = some (pcells p).length) := Lib.hid (by rw [sizeP, pcells_length hp])
  clear hb0 hp
  go_enter Tryd.func9, Tryd.ntmps9
  go_wp2_with (first | (refine q_valG (by rfl) (ex_ld (ty := 28) (cs := pcells p) rfl rfl (rng_all HG0.out) Tryd.underlying28 rfl HZ.out) ?_) | (go_at_call 25; refine (refuse_nil _ _).mono ?_; rintro e w' ⟨rfl, hb⟩) | fail)
  go_ret
  exact ⟨rfl, HB0.out.trans (hb.mono HB0.out.size)⟩
theorem write_nil8 (p : Pt) (hp : p.OK) (sp : Option Addr) (k cap : Nat) (w : World) : Calls Tryd.prog 10 #[.pointer none, .agg (pcells p).toArray, .slice sp k cap] w fun e w' => e = .returned (.int .i64 2) ∧ Below w.heap.size w w' := by
  obtain ⟨W0, hW0⟩ : ∃ W, W = ((w.alloc (.cells #[.pointer none] 33)).alloc (.cells (pcells p).toArray 28)).alloc (.cells #[.slice sp k cap] 29) := ⟨_, rfl⟩
  have hb0 : Below w.heap.size w W0 := by rw [hW0]; exact (((Below.refl _ _).alloc (Nat.le_refl _) _).alloc (by simp) _).alloc (by simp; omega) _
  have hbm : Blk W0 w.heap.size [.pointer none] 33 := by rw [hW0]; exact ((Blk.new' _ _ [_] _ _ rfl rfl).alloc _).alloc _
  have hbp : Blk W0 (w.heap.size + 1) (pcells p) 28 := by rw [hW0]; exact (Blk.new' _ _ (pcells p) _ _ (by simp) rfl).alloc _
  have HW0 := Lib.hid hW0; have HB0 := Lib.hid hb0; have HBP := Lib.hid hbp
  have HZ : Hid ((Tryd.prog.info? 28).map (·.size) = some (pcells p).length) := Lib.hid (by rw [sizeP, pcells_length hp])
  have c0 := hbm.cell (j := 0) rfl
  clear hp hW0 hb0 hbm hbp
  go_enter Tryd.func10, Tryd.ntmps10
  go_upto_region 1 with fail
  rw [← HW0.out]
  go_wp2_with (first | (refine q_valG (by rfl) (ex_ld (ty := 28) (cs := pcells p) rfl rfl (rng_all HBP.out) Tryd.underlying28 rfl HZ.out) ?_) | (go_at_call 25; refine (refuse_nil _ _).mono ?_; rintro e w' ⟨rfl, hb⟩) | fail)
  go_ret
  exact ⟨rfl, HB0.out.trans (hb.mono HB0.out.size)⟩
theorem q_valS {ops : Array Oper} {rest : List Oper} {o : Oper} {a : Act} {Q : Exit → Act → World → Prop} {w : World} (v : Value) (hw : Region.wanted o (yielded ops a.tmps) = true) (hrun : (execOp a.eval o).run Tryd.prog w = .ok (.value v) w)
    (hK : wpList Tryd.prog ops Q rest (a.put o.dst v) w) : wpList Tryd.prog ops Q (o :: rest) a w := q_valG hw hrun hK
theorem q_callG {ops : Array Oper} {rest : List Oper} {o : Oper} {a : Act} {Q : Exit → Act → World → Prop} {w : World} (hw : Region.wanted o (yielded ops a.tmps) = true) (f : FuncId) (args : Array Value) (hrun : (execOp a.eval o).run Tryd.prog w = .ok (.enter f args) w)
    (C : Value → World → Prop) (hc : Calls Tryd.prog f args w fun e w' => ∃ v, e = .returned v ∧ C v w') (hK : ∀ v w', C v w' → wpList Tryd.prog ops Q rest (a.put o.dst v) w') : wpList Tryd.prog ops Q (o :: rest) a w := by
  unfold wpList
  rw [if_pos hw]
  refine .inl ?_
  unfold Oper.wp
  rw [hrun]
  exact hc.mono fun e w' ⟨v, e1, h1⟩ => by subst e1; exact hK v w' h1
theorem q_eqC0 {ρ : Operand → Value} {o : Oper} {x y : Operand} {w : World} (ho : o.op = .binOp .eql 52 x y 52) (hx : ρ x = .agg #[.int .i64 0, .int .i64 0]) (hy : ρ y = .agg #[.int .i64 0, .int .i64 0]) : (execOp ρ o).run Tryd.prog w = .ok (.value (.bool true)) w := by
  have h : ∀ w, (binOp .eql 52 (.agg #[.int .i64 0, .int .i64 0]) (.agg #[.int .i64 0, .int .i64 0])).run Tryd.prog w = .ok (.bool true) w := fun _ => by kernel_rfl
  unfold execOp
  simp only [ho, hx, hy]
  go_simp
theorem q_buildC0 {ρ : Operand → Value} {o : Oper} {w : World} (ho : o.op = .build 52 #[]) : (execOp ρ o).run Tryd.prog w = .ok (.value (.agg #[.int .i64 0, .int .i64 0])) w := by
  unfold execOp
  simp only [ho]
  go_simp
/-- What the law holds. -/
structure NiS (w0 : World) (X : Nat) (P : Pl) (p : Pt) (W : World) : Prop where
  pr : Blk W X [.pointer (some ⟨P.Q, 0, none⟩), .pointer (some ⟨P.D 0, 0, none⟩), .pointer (some ⟨P.D 1, 0, none⟩), .pointer (some ⟨P.K, 0, none⟩), .pointer (some ⟨P.M, 0, none⟩)] 42
  box : Blk W w0.heap.size (pcells p) 28
  tab : Tab W
  rt : RTab W
  bel : Below w0.heap.size w0 W
theorem NiS.below {w0 W W' : World} {X : Nat} {P : Pl} {p : Pt} (h : NiS w0 X P p W) (hb : Below W.heap.size W W') : NiS w0 X P p W' :=
  ⟨h.pr.below hb h.pr.lt, h.box.below hb h.box.lt, h.tab.below hb (Nat.le_refl _), h.rt.below hb (Nat.le_refl _), h.bel.trans (hb.mono h.bel.size)⟩
theorem NiS.same {w0 W W' : World} {X : Nat} {P : Pl} {p : Pt} (h : NiS w0 X P p W) (hb : W = W') : NiS w0 X P p W' := hb ▸ h
/-- What its lines look at. -/
structure NiF (w0 : World) (X : Nat) (P : Pl) (p : Pt) (Z : World) : Prop where
  c1 : Z.cell? ⟨X, 1, none⟩ = some (.pointer (some ⟨P.D 0, 0, none⟩))
  c2 : Z.cell? ⟨X, 2, none⟩ = some (.pointer (some ⟨P.D 1, 0, none⟩))
  c3 : Z.cell? ⟨X, 3, none⟩ = some (.pointer (some ⟨P.K, 0, none⟩))
  c4 : Z.cell? ⟨X, 4, none⟩ = some (.pointer (some ⟨P.M, 0, none⟩))
  box : Blk Z w0.heap.size (pcells p) 28
theorem NiS.f {w0 W : World} {X : Nat} {P : Pl} {p : Pt} (h : NiS w0 X P p W) : NiF w0 X P p W := ⟨h.pr.cell rfl, h.pr.cell rfl, h.pr.cell rfl, h.pr.cell rfl, h.box⟩
set_option maxRecDepth 100000 in
set_option maxHeartbeats 8000000 in
theorem mirrorNil_body (p : Pt) (hp : p.OK) (sp : Option Addr) (n cap : Nat) (k : Int) (w : World) (ht : Tab w) (hr : RTab w) :
    Calls Tryd.prog 3 #[.agg (pcells p).toArray, .slice sp n cap, .int .i64 k] w fun e w' => e = .returned (.bool true) ∧ Below w.heap.size w w' := by
  have hb0 : Below w.heap.size w (w.alloc (.cells (pcells p).toArray 28)) := (Below.refl _ _).alloc (Nat.le_refl _) _
  have HT : Hid (Tab (w.alloc (.cells (pcells p).toArray 28))) := Lib.hid (ht.below hb0 (Nat.le_refl _))
  have HR : Hid (RTab (w.alloc (.cells (pcells p).toArray 28))) := Lib.hid (hr.below hb0 (Nat.le_refl _))
  have HP := Lib.hid hp
  have HB0 := Lib.hid hb0
  have HBX : Hid (Blk (w.alloc (.cells (pcells p).toArray 28)) w.heap.size (pcells p) 28) := Lib.hid (Blk.new _ _ _)
  have HZQ : Hid ((Tryd.prog.info? 28).map (·.size) = some (pcells p).length) := Lib.hid (by rw [sizeP, pcells_length hp])
  clear ht hr hp hb0
  by_cases h6 : 600 < (n : Int)
  · go_enter Tryd.func3, Tryd.ntmps3
    go_wp2_with (first | (go_at_call 4; refine (mwakes_any _ HT.out HR.out).mono ?_; rintro e w' ⟨rfl, hb⟩) | fail)
    go_ret
    exact ⟨rfl, HB0.out.trans (hb.mono HB0.out.size)⟩
  go_enter Tryd.func3, Tryd.ntmps3
  go_wp2_with fail
  refine (begun_any 3 (by omega) (by omega) _ HT.out HR.out).mono ?_
  rintro e Wn0 ⟨X, P, lab, rfl, hbeg⟩
  have HS0 : Hid (NiS w X P p Wn0) := Lib.hid ⟨hbeg.pr, HBX.out.below hbeg.bel HBX.out.lt, HT.out.below hbeg.bel (Nat.le_refl _), HR.out.below hbeg.bel (Nat.le_refl _), HB0.out.trans (hbeg.bel.mono HB0.out.size)⟩
  clear hbeg HT HR HBX HB0 h6
  go_upto_region 5 with fail
  have HSd0 := Lib.hid (HS0.out.below (Below.refl _ _).drew)
  clear HS0
  refine wp_region_sched (.take 0 (.take 1 (.take 2 (.take 3 (.take 4 (.take 5 (.take 6 (.take 7 (.take 8 (.step 9 (.take 10 (.take 11 (.take 12 (.take 13 (.take 14 (.nil)))))))))))))))) (by kernel_rfl) (by kernel_rfl) (fun d _ _ _ _ h => by cases d <;> exact h) (NiF w X P p) HSd0.out.f ?_
  refine wpG_take _ (.pointer (some ⟨X, 0, none⟩)) rfl (by rfl) (fun X hX => by first | rfl | go_simp) ?_
  (try simp only [Act.put, List.setIfInBounds_toArray, List.set_cons_zero, List.set_cons_succ])
  refine wpG_take _ (.pointer (some ⟨X, 0, none⟩)) rfl (by rfl) (fun X hX => ex_nc rfl rfl) ?_
  (try simp only [Act.put, List.setIfInBounds_toArray, List.set_cons_zero, List.set_cons_succ])
  refine wpG_take _ (.pointer (some ⟨X, 1, none⟩)) rfl (by rfl) (fun X hX => by first | rfl | go_simp) ?_
  (try simp only [Act.put, List.setIfInBounds_toArray, List.set_cons_zero, List.set_cons_succ])
  refine wpG_take _ (.pointer (some ⟨X, 2, none⟩)) rfl (by rfl) (fun X hX => by first | rfl | go_simp) ?_
  (try simp only [Act.put, List.setIfInBounds_toArray, List.set_cons_zero, List.set_cons_succ])
  refine wpG_take _ (.pointer (some ⟨P.D 1, 0, none⟩)) rfl (by rfl) (fun X hX => q_ldD rfl rfl hX.c2) ?_
  (try simp only [Act.put, List.setIfInBounds_toArray, List.set_cons_zero, List.set_cons_succ])
  refine wpG_take _ (.pointer (some ⟨X, 0, none⟩)) rfl (by rfl) (fun X hX => by first | rfl | go_simp) ?_
  (try simp only [Act.put, List.setIfInBounds_toArray, List.set_cons_zero, List.set_cons_succ])
  refine wpG_take _ (.pointer (some ⟨X, 0, none⟩)) rfl (by rfl) (fun X hX => ex_nc rfl rfl) ?_
  (try simp only [Act.put, List.setIfInBounds_toArray, List.set_cons_zero, List.set_cons_succ])
  refine wpG_take _ (.pointer (some ⟨X, 3, none⟩)) rfl (by rfl) (fun X hX => by first | rfl | go_simp) ?_
  (try simp only [Act.put, List.setIfInBounds_toArray, List.set_cons_zero, List.set_cons_succ])
  refine wpG_take _ (.pointer (some ⟨P.K, 0, none⟩)) rfl (by rfl) (fun X hX => q_ldK rfl rfl hX.c3) ?_
  (try simp only [Act.put, List.setIfInBounds_toArray, List.set_cons_zero, List.set_cons_succ])
  refine wpG_call _ rfl (by rfl) 6 #[.pointer none, .pointer (some ⟨P.D 1, 0, none⟩), .pointer (some ⟨P.K, 0, none⟩)] (fun _ => by go_simp) (fun u w' => u = .tuple #[.pointer none, .int .i64 2] ∧ NiS w X P p w')
    ((qnew_nil0 _ _ Wn0.drew).mono fun e w' hh => by
      obtain ⟨e1, hb⟩ := hh
      have h' := HSd0.out.same hb
      exact ⟨_, e1, h'.f, rfl, h'⟩) ?_
  rintro u Wn1 hs1 ⟨rfl, hn1⟩
  refine ⟨_, fun _ h => h, hs1, ?_⟩
  (try simp only [Act.put, List.setIfInBounds_toArray, List.set_cons_zero, List.set_cons_succ])
  have HS1 := Lib.hid hn1
  clear hn1 hs1 HSd0
  refine wpG_take _ (.tuple #[.pointer none, .int .i64 2]) rfl (by rfl) (fun X hX => by first | rfl | go_simp) ?_
  (try simp only [Act.put, List.setIfInBounds_toArray, List.set_cons_zero, List.set_cons_succ])
  refine wpG_take _ (.pointer none) rfl (by rfl) (fun X hX => by first | rfl | go_simp) ?_
  (try simp only [Act.put, List.setIfInBounds_toArray, List.set_cons_zero, List.set_cons_succ])
  refine wpG_take _ (.int .i64 2) rfl (by rfl) (fun X hX => by first | rfl | go_simp) ?_
  (try simp only [Act.put, List.setIfInBounds_toArray, List.set_cons_zero, List.set_cons_succ])
  refine wpG_take _ (.pointer none) rfl (by rfl) (fun X hX => by first | rfl | go_simp) ?_
  (try simp only [Act.put, List.setIfInBounds_toArray, List.set_cons_zero, List.set_cons_succ])
  refine wpG_take _ (.int .i64 2) rfl (by rfl) (fun X hX => by first | rfl | go_simp) ?_
  (try simp only [Act.put, List.setIfInBounds_toArray, List.set_cons_zero, List.set_cons_succ])
  refine wpG_nil ?_
  go_upto_region 6 with fail
  have HSd1 := Lib.hid (HS1.out.below (Below.refl _ _).drew)
  clear HS1
  refine wp_region_sched (.take 0 (.take 1 (.take 2 (.take 3 (.take 4 (.take 5 (.take 6 (.take 7 (.take 8 (.step 9 (.take 10 (.take 11 (.take 12 (.take 13 (.take 14 (.nil)))))))))))))))) (by kernel_rfl) (by kernel_rfl) (fun d _ _ _ _ h => by cases d <;> exact h) (NiF w X P p) HSd1.out.f ?_
  refine wpG_take _ (.pointer (some ⟨X, 0, none⟩)) rfl (by rfl) (fun X hX => by first | rfl | go_simp) ?_
  (try simp only [Act.put, List.setIfInBounds_toArray, List.set_cons_zero, List.set_cons_succ])
  refine wpG_take _ (.pointer (some ⟨X, 0, none⟩)) rfl (by rfl) (fun X hX => ex_nc rfl rfl) ?_
  (try simp only [Act.put, List.setIfInBounds_toArray, List.set_cons_zero, List.set_cons_succ])
  refine wpG_take _ (.pointer (some ⟨X, 1, none⟩)) rfl (by rfl) (fun X hX => by first | rfl | go_simp) ?_
  (try simp only [Act.put, List.setIfInBounds_toArray, List.set_cons_zero, List.set_cons_succ])
  refine wpG_take _ (.pointer (some ⟨X, 1, none⟩)) rfl (by rfl) (fun X hX => by first | rfl | go_simp) ?_
  (try simp only [Act.put, List.setIfInBounds_toArray, List.set_cons_zero, List.set_cons_succ])
  refine wpG_take _ (.pointer (some ⟨P.D 0, 0, none⟩)) rfl (by rfl) (fun X hX => q_ldD rfl rfl hX.c1) ?_
  (try simp only [Act.put, List.setIfInBounds_toArray, List.set_cons_zero, List.set_cons_succ])
  refine wpG_take _ (.pointer (some ⟨X, 0, none⟩)) rfl (by rfl) (fun X hX => by first | rfl | go_simp) ?_
  (try simp only [Act.put, List.setIfInBounds_toArray, List.set_cons_zero, List.set_cons_succ])
  refine wpG_take _ (.pointer (some ⟨X, 0, none⟩)) rfl (by rfl) (fun X hX => ex_nc rfl rfl) ?_
  (try simp only [Act.put, List.setIfInBounds_toArray, List.set_cons_zero, List.set_cons_succ])
  refine wpG_take _ (.pointer (some ⟨X, 3, none⟩)) rfl (by rfl) (fun X hX => by first | rfl | go_simp) ?_
  (try simp only [Act.put, List.setIfInBounds_toArray, List.set_cons_zero, List.set_cons_succ])
  refine wpG_take _ (.pointer (some ⟨P.K, 0, none⟩)) rfl (by rfl) (fun X hX => q_ldK rfl rfl hX.c3) ?_
  (try simp only [Act.put, List.setIfInBounds_toArray, List.set_cons_zero, List.set_cons_succ])
  refine wpG_call _ rfl (by rfl) 6 #[.pointer (some ⟨P.D 0, 0, none⟩), .pointer none, .pointer (some ⟨P.K, 0, none⟩)] (fun _ => by go_simp) (fun u w' => u = .tuple #[.pointer none, .int .i64 2] ∧ NiS w X P p w')
    ((qnew_nil1 _ _ Wn1.drew).mono fun e w' hh => by
      obtain ⟨e1, hb⟩ := hh
      have h' := HSd1.out.same hb
      exact ⟨_, e1, h'.f, rfl, h'⟩) ?_
  rintro u Wn2 hs2 ⟨rfl, hn2⟩
  refine ⟨_, fun _ h => h, hs2, ?_⟩
  (try simp only [Act.put, List.setIfInBounds_toArray, List.set_cons_zero, List.set_cons_succ])
  have HS2 := Lib.hid hn2
  clear hn2 hs2 HSd1
  refine wpG_take _ (.tuple #[.pointer none, .int .i64 2]) rfl (by rfl) (fun X hX => by first | rfl | go_simp) ?_
  (try simp only [Act.put, List.setIfInBounds_toArray, List.set_cons_zero, List.set_cons_succ])
  refine wpG_take _ (.pointer none) rfl (by rfl) (fun X hX => by first | rfl | go_simp) ?_
  (try simp only [Act.put, List.setIfInBounds_toArray, List.set_cons_zero, List.set_cons_succ])
  refine wpG_take _ (.int .i64 2) rfl (by rfl) (fun X hX => by first | rfl | go_simp) ?_
  (try simp only [Act.put, List.setIfInBounds_toArray, List.set_cons_zero, List.set_cons_succ])
  refine wpG_take _ (.pointer none) rfl (by rfl) (fun X hX => by first | rfl | go_simp) ?_
  (try simp only [Act.put, List.setIfInBounds_toArray, List.set_cons_zero, List.set_cons_succ])
  refine wpG_take _ (.int .i64 2) rfl (by rfl) (fun X hX => by first | rfl | go_simp) ?_
  (try simp only [Act.put, List.setIfInBounds_toArray, List.set_cons_zero, List.set_cons_succ])
  refine wpG_nil ?_
  go_upto_region 7 with fail
  have HSd2 := Lib.hid (HS2.out.below (Below.refl _ _).drew)
  clear HS2
  refine wp_region_sched (.take 0 (.take 1 (.take 2 (.take 3 (.take 4 (.take 5 (.take 6 (.take 7 (.take 8 (.take 9 (.step 10 (.take 11 (.take 12 (.take 13 (.take 14 (.take 15 (.nil))))))))))))))))) (by kernel_rfl) (by kernel_rfl) (fun d _ _ _ _ h => by cases d <;> exact h) (NiF w X P p) HSd2.out.f ?_
  refine wpG_take _ (.pointer (some ⟨X, 0, none⟩)) rfl (by rfl) (fun X hX => by first | rfl | go_simp) ?_
  (try simp only [Act.put, List.setIfInBounds_toArray, List.set_cons_zero, List.set_cons_succ])
  refine wpG_take _ (.pointer (some ⟨X, 0, none⟩)) rfl (by rfl) (fun X hX => ex_nc rfl rfl) ?_
  (try simp only [Act.put, List.setIfInBounds_toArray, List.set_cons_zero, List.set_cons_succ])
  refine wpG_take _ (.pointer (some ⟨X, 1, none⟩)) rfl (by rfl) (fun X hX => by first | rfl | go_simp) ?_
  (try simp only [Act.put, List.setIfInBounds_toArray, List.set_cons_zero, List.set_cons_succ])
  refine wpG_take _ (.pointer (some ⟨X, 1, none⟩)) rfl (by rfl) (fun X hX => by first | rfl | go_simp) ?_
  (try simp only [Act.put, List.setIfInBounds_toArray, List.set_cons_zero, List.set_cons_succ])
  refine wpG_take _ (.pointer (some ⟨P.D 0, 0, none⟩)) rfl (by rfl) (fun X hX => q_ldD rfl rfl hX.c1) ?_
  (try simp only [Act.put, List.setIfInBounds_toArray, List.set_cons_zero, List.set_cons_succ])
  refine wpG_take _ (.pointer (some ⟨X, 0, none⟩)) rfl (by rfl) (fun X hX => by first | rfl | go_simp) ?_
  (try simp only [Act.put, List.setIfInBounds_toArray, List.set_cons_zero, List.set_cons_succ])
  refine wpG_take _ (.pointer (some ⟨X, 0, none⟩)) rfl (by rfl) (fun X hX => ex_nc rfl rfl) ?_
  (try simp only [Act.put, List.setIfInBounds_toArray, List.set_cons_zero, List.set_cons_succ])
  refine wpG_take _ (.pointer (some ⟨X, 1, none⟩)) rfl (by rfl) (fun X hX => by first | rfl | go_simp) ?_
  (try simp only [Act.put, List.setIfInBounds_toArray, List.set_cons_zero, List.set_cons_succ])
  refine wpG_take _ (.pointer (some ⟨X, 2, none⟩)) rfl (by rfl) (fun X hX => by first | rfl | go_simp) ?_
  (try simp only [Act.put, List.setIfInBounds_toArray, List.set_cons_zero, List.set_cons_succ])
  refine wpG_take _ (.pointer (some ⟨P.D 1, 0, none⟩)) rfl (by rfl) (fun X hX => q_ldD rfl rfl hX.c2) ?_
  (try simp only [Act.put, List.setIfInBounds_toArray, List.set_cons_zero, List.set_cons_succ])
  refine wpG_call _ rfl (by rfl) 6 #[.pointer (some ⟨P.D 0, 0, none⟩), .pointer (some ⟨P.D 1, 0, none⟩), .pointer none] (fun _ => by go_simp) (fun u w' => u = .tuple #[.pointer none, .int .i64 2] ∧ NiS w X P p w')
    ((qnew_nil2 _ _ Wn2.drew).mono fun e w' hh => by
      obtain ⟨e1, hb⟩ := hh
      have h' := HSd2.out.same hb
      exact ⟨_, e1, h'.f, rfl, h'⟩) ?_
  rintro u Wn3 hs3 ⟨rfl, hn3⟩
  refine ⟨_, fun _ h => h, hs3, ?_⟩
  (try simp only [Act.put, List.setIfInBounds_toArray, List.set_cons_zero, List.set_cons_succ])
  have HS3 := Lib.hid hn3
  clear hn3 hs3 HSd2
  refine wpG_take _ (.tuple #[.pointer none, .int .i64 2]) rfl (by rfl) (fun X hX => by first | rfl | go_simp) ?_
  (try simp only [Act.put, List.setIfInBounds_toArray, List.set_cons_zero, List.set_cons_succ])
  refine wpG_take _ (.pointer none) rfl (by rfl) (fun X hX => by first | rfl | go_simp) ?_
  (try simp only [Act.put, List.setIfInBounds_toArray, List.set_cons_zero, List.set_cons_succ])
  refine wpG_take _ (.int .i64 2) rfl (by rfl) (fun X hX => by first | rfl | go_simp) ?_
  (try simp only [Act.put, List.setIfInBounds_toArray, List.set_cons_zero, List.set_cons_succ])
  refine wpG_take _ (.pointer none) rfl (by rfl) (fun X hX => by first | rfl | go_simp) ?_
  (try simp only [Act.put, List.setIfInBounds_toArray, List.set_cons_zero, List.set_cons_succ])
  refine wpG_take _ (.int .i64 2) rfl (by rfl) (fun X hX => by first | rfl | go_simp) ?_
  (try simp only [Act.put, List.setIfInBounds_toArray, List.set_cons_zero, List.set_cons_succ])
  refine wpG_nil ?_
  go_wp2_with fail
  refine (clear_nil8 _).mono ?_
  rintro e w' ⟨rfl, rfl⟩
  go_wp2_with (first | (refine q_valG (by rfl) (ex_ld (ty := 28) (cs := pcells p) rfl rfl (rng_all HS3.out.box) Tryd.underlying28 rfl HZQ.out) ?_) | fail)
  refine (read_nil8 p HP.out _).mono ?_
  rintro e Wr ⟨rfl, hbr⟩
  have HSr := Lib.hid (HS3.out.below hbr)
  clear hbr HS3
  go_upto_region 10 with fail
  refine wp_region_list ?_
  refine q_valS (.pointer none) (by rfl) (by first | rfl | go_simp) ?_
  (try simp only [Act.put, List.setIfInBounds_toArray, List.set_cons_zero, List.set_cons_succ])
  refine q_valS (.bool true) (by rfl) (by first | rfl | go_simp) ?_
  (try simp only [Act.put, List.setIfInBounds_toArray, List.set_cons_zero, List.set_cons_succ])
  refine q_valS (.bool true) (by rfl) (by first | rfl | go_simp) ?_
  (try simp only [Act.put, List.setIfInBounds_toArray, List.set_cons_zero, List.set_cons_succ])
  refine q_valS (.pointer none) (by rfl) (by first | rfl | go_simp) ?_
  (try simp only [Act.put, List.setIfInBounds_toArray, List.set_cons_zero, List.set_cons_succ])
  refine q_valS (.bool true) (by rfl) (by first | rfl | go_simp) ?_
  (try simp only [Act.put, List.setIfInBounds_toArray, List.set_cons_zero, List.set_cons_succ])
  refine q_valS (.bool true) (by rfl) (by first | rfl | go_simp) ?_
  (try simp only [Act.put, List.setIfInBounds_toArray, List.set_cons_zero, List.set_cons_succ])
  refine q_valS (.bool true) (by rfl) (by first | rfl | go_simp) ?_
  (try simp only [Act.put, List.setIfInBounds_toArray, List.set_cons_zero, List.set_cons_succ])
  refine q_valS (.pointer none) (by rfl) (by first | rfl | go_simp) ?_
  (try simp only [Act.put, List.setIfInBounds_toArray, List.set_cons_zero, List.set_cons_succ])
  refine q_valS (.bool true) (by rfl) (by first | rfl | go_simp) ?_
  (try simp only [Act.put, List.setIfInBounds_toArray, List.set_cons_zero, List.set_cons_succ])
  refine q_valS (.bool true) (by rfl) (by first | rfl | go_simp) ?_
  (try simp only [Act.put, List.setIfInBounds_toArray, List.set_cons_zero, List.set_cons_succ])
  refine q_valS (.bool true) (by rfl) (by first | rfl | go_simp) ?_
  (try simp only [Act.put, List.setIfInBounds_toArray, List.set_cons_zero, List.set_cons_succ])
  refine q_valS (.int .i64 2) (by rfl) (by first | rfl | go_simp) ?_
  (try simp only [Act.put, List.setIfInBounds_toArray, List.set_cons_zero, List.set_cons_succ])
  refine q_valS (.bool true) (by rfl) (q_eqT Tryd.underlying34 rfl rfl rfl) ?_
  (try simp only [Act.put, List.setIfInBounds_toArray, List.set_cons_zero, List.set_cons_succ])
  refine q_valS (.bool true) (by rfl) (by first | rfl | go_simp) ?_
  (try simp only [Act.put, List.setIfInBounds_toArray, List.set_cons_zero, List.set_cons_succ])
  refine q_valS (.bool true) (by rfl) (by first | rfl | go_simp) ?_
  (try simp only [Act.put, List.setIfInBounds_toArray, List.set_cons_zero, List.set_cons_succ])
  refine q_valS (.int .i64 2) (by rfl) (by first | rfl | go_simp) ?_
  (try simp only [Act.put, List.setIfInBounds_toArray, List.set_cons_zero, List.set_cons_succ])
  refine q_valS (.bool true) (by rfl) (q_eqT Tryd.underlying34 rfl rfl rfl) ?_
  (try simp only [Act.put, List.setIfInBounds_toArray, List.set_cons_zero, List.set_cons_succ])
  refine q_valS (.bool true) (by rfl) (by first | rfl | go_simp) ?_
  (try simp only [Act.put, List.setIfInBounds_toArray, List.set_cons_zero, List.set_cons_succ])
  refine q_valS (.bool true) (by rfl) (by first | rfl | go_simp) ?_
  (try simp only [Act.put, List.setIfInBounds_toArray, List.set_cons_zero, List.set_cons_succ])
  refine q_valS (.int .i64 2) (by rfl) (by first | rfl | go_simp) ?_
  (try simp only [Act.put, List.setIfInBounds_toArray, List.set_cons_zero, List.set_cons_succ])
  refine q_valS (.bool true) (by rfl) (q_eqT Tryd.underlying34 rfl rfl rfl) ?_
  (try simp only [Act.put, List.setIfInBounds_toArray, List.set_cons_zero, List.set_cons_succ])
  refine q_valS (.bool true) (by rfl) (by first | rfl | go_simp) ?_
  (try simp only [Act.put, List.setIfInBounds_toArray, List.set_cons_zero, List.set_cons_succ])
  refine q_valS (.bool true) (by rfl) (by first | rfl | go_simp) ?_
  (try simp only [Act.put, List.setIfInBounds_toArray, List.set_cons_zero, List.set_cons_succ])
  refine q_valS (.slice none 0 0) (by rfl) (by first | rfl | go_simp) ?_
  (try simp only [Act.put, List.setIfInBounds_toArray, List.set_cons_zero, List.set_cons_succ])
  refine q_valS (.int .i64 0) (by rfl) (by first | rfl | go_simp) ?_
  (try simp only [Act.put, List.setIfInBounds_toArray, List.set_cons_zero, List.set_cons_succ])
  refine q_valS (.bool true) (by rfl) (q_eqT Tryd.underlying3 rfl rfl rfl) ?_
  (try simp only [Act.put, List.setIfInBounds_toArray, List.set_cons_zero, List.set_cons_succ])
  refine q_valS (.bool true) (by rfl) (by first | rfl | go_simp) ?_
  (try simp only [Act.put, List.setIfInBounds_toArray, List.set_cons_zero, List.set_cons_succ])
  refine q_valS (.bool true) (by rfl) (by first | rfl | go_simp) ?_
  (try simp only [Act.put, List.setIfInBounds_toArray, List.set_cons_zero, List.set_cons_succ])
  refine q_valS (.int .i64 2) (by rfl) (by first | rfl | go_simp) ?_
  (try simp only [Act.put, List.setIfInBounds_toArray, List.set_cons_zero, List.set_cons_succ])
  refine q_valS (.bool true) (by rfl) (q_eqT Tryd.underlying34 rfl rfl rfl) ?_
  (try simp only [Act.put, List.setIfInBounds_toArray, List.set_cons_zero, List.set_cons_succ])
  refine q_valS (.bool true) (by rfl) (by first | rfl | go_simp) ?_
  (try simp only [Act.put, List.setIfInBounds_toArray, List.set_cons_zero, List.set_cons_succ])
  refine q_valS (.bool true) (by rfl) (by first | rfl | go_simp) ?_
  (try simp only [Act.put, List.setIfInBounds_toArray, List.set_cons_zero, List.set_cons_succ])
  refine q_valS (.pointer none) (by rfl) (by first | rfl | go_simp) ?_
  (try simp only [Act.put, List.setIfInBounds_toArray, List.set_cons_zero, List.set_cons_succ])
  refine q_valS (.agg (pcells p).toArray) (by rfl) (ex_ld (ty := 28) (cs := pcells p) rfl rfl (rng_all HSr.out.f.box) Tryd.underlying28 rfl HZQ.out) ?_
  (try simp only [Act.put, List.setIfInBounds_toArray, List.set_cons_zero, List.set_cons_succ])
  refine q_callG (by rfl) 9 #[.pointer none, .agg (pcells p).toArray] (by go_simp) (fun u w' => u = .int .i64 2 ∧ NiS w X P p w')
    ((check_nil8 p HP.out Wr).mono fun e w' hh => by
      obtain ⟨e1, hb⟩ := hh
      exact ⟨_, e1, rfl, HSr.out.below hb⟩) ?_
  rintro u Wn4 ⟨rfl, hn4⟩
  (try simp only [Act.put, List.setIfInBounds_toArray, List.set_cons_zero, List.set_cons_succ])
  have HS4 := Lib.hid hn4
  clear hn4 HSr
  refine q_valS (.bool true) (by rfl) (q_eqT Tryd.underlying34 rfl rfl rfl) ?_
  (try simp only [Act.put, List.setIfInBounds_toArray, List.set_cons_zero, List.set_cons_succ])
  refine q_valS (.bool true) (by rfl) (by first | rfl | go_simp) ?_
  (try simp only [Act.put, List.setIfInBounds_toArray, List.set_cons_zero, List.set_cons_succ])
  refine q_valS (.bool true) (by rfl) (by first | rfl | go_simp) ?_
  (try simp only [Act.put, List.setIfInBounds_toArray, List.set_cons_zero, List.set_cons_succ])
  refine q_valS (.pointer none) (by rfl) (by first | rfl | go_simp) ?_
  (try simp only [Act.put, List.setIfInBounds_toArray, List.set_cons_zero, List.set_cons_succ])
  refine q_valS (.agg (pcells p).toArray) (by rfl) (ex_ld (ty := 28) (cs := pcells p) rfl rfl (rng_all HS4.out.f.box) Tryd.underlying28 rfl HZQ.out) ?_
  (try simp only [Act.put, List.setIfInBounds_toArray, List.set_cons_zero, List.set_cons_succ])
  refine q_valS (.slice sp n cap) (by rfl) (by first | rfl | go_simp) ?_
  (try simp only [Act.put, List.setIfInBounds_toArray, List.set_cons_zero, List.set_cons_succ])
  refine q_callG (by rfl) 10 #[.pointer none, .agg (pcells p).toArray, .slice sp n cap] (by go_simp) (fun u w' => u = .int .i64 2 ∧ NiS w X P p w')
    ((write_nil8 p HP.out sp n cap Wn4).mono fun e w' hh => by
      obtain ⟨e1, hb⟩ := hh
      exact ⟨_, e1, rfl, HS4.out.below hb⟩) ?_
  rintro u Wn5 ⟨rfl, hn5⟩
  (try simp only [Act.put, List.setIfInBounds_toArray, List.set_cons_zero, List.set_cons_succ])
  have HS5 := Lib.hid hn5
  clear hn5 HS4
  refine q_valS (.bool true) (by rfl) (q_eqT Tryd.underlying34 rfl rfl rfl) ?_
  (try simp only [Act.put, List.setIfInBounds_toArray, List.set_cons_zero, List.set_cons_succ])
  refine q_valS (.bool true) (by rfl) (by first | rfl | go_simp) ?_
  (try simp only [Act.put, List.setIfInBounds_toArray, List.set_cons_zero, List.set_cons_succ])
  refine q_valS (.bool true) (by rfl) (by first | rfl | go_simp) ?_
  (try simp only [Act.put, List.setIfInBounds_toArray, List.set_cons_zero, List.set_cons_succ])
  refine q_valS (.pointer none) (by rfl) (by first | rfl | go_simp) ?_
  (try simp only [Act.put, List.setIfInBounds_toArray, List.set_cons_zero, List.set_cons_succ])
  refine q_callG (by rfl) 11 #[.pointer none] (by go_simp) (fun u w' => u = .int .i64 2 ∧ NiS w X P p w')
    ((flush_nil8 Wn5).mono fun e w' hh => by
      obtain ⟨e1, hb⟩ := hh
      exact ⟨_, e1, rfl, HS5.out.same hb⟩) ?_
  rintro u Wn6 ⟨rfl, hn6⟩
  (try simp only [Act.put, List.setIfInBounds_toArray, List.set_cons_zero, List.set_cons_succ])
  have HS6 := Lib.hid hn6
  clear hn6 HS5
  refine q_valS (.bool true) (by rfl) (q_eqT Tryd.underlying34 rfl rfl rfl) ?_
  (try simp only [Act.put, List.setIfInBounds_toArray, List.set_cons_zero, List.set_cons_succ])
  refine q_valS (.bool true) (by rfl) (by first | rfl | go_simp) ?_
  (try simp only [Act.put, List.setIfInBounds_toArray, List.set_cons_zero, List.set_cons_succ])
  refine q_valS (.bool true) (by rfl) (by first | rfl | go_simp) ?_
  (try simp only [Act.put, List.setIfInBounds_toArray, List.set_cons_zero, List.set_cons_succ])
  refine q_valS (.pointer none) (by rfl) (by first | rfl | go_simp) ?_
  (try simp only [Act.put, List.setIfInBounds_toArray, List.set_cons_zero, List.set_cons_succ])
  refine q_callG (by rfl) 12 #[.pointer none] (by go_simp) (fun u w' => u = .slice none 0 0 ∧ NiS w X P p w')
    ((moves_nil8 Wn6).mono fun e w' hh => by
      obtain ⟨e1, hb⟩ := hh
      exact ⟨_, e1, rfl, HS6.out.same hb⟩) ?_
  rintro u Wn7 ⟨rfl, hn7⟩
  (try simp only [Act.put, List.setIfInBounds_toArray, List.set_cons_zero, List.set_cons_succ])
  have HS7 := Lib.hid hn7
  clear hn7 HS6
  refine q_valS (.int .i64 0) (by rfl) (by first | rfl | go_simp) ?_
  (try simp only [Act.put, List.setIfInBounds_toArray, List.set_cons_zero, List.set_cons_succ])
  refine q_valS (.bool true) (by rfl) (q_eqT Tryd.underlying3 rfl rfl rfl) ?_
  (try simp only [Act.put, List.setIfInBounds_toArray, List.set_cons_zero, List.set_cons_succ])
  refine q_valS (.bool true) (by rfl) (by first | rfl | go_simp) ?_
  (try simp only [Act.put, List.setIfInBounds_toArray, List.set_cons_zero, List.set_cons_succ])
  refine q_valS (.bool true) (by rfl) (by first | rfl | go_simp) ?_
  (try simp only [Act.put, List.setIfInBounds_toArray, List.set_cons_zero, List.set_cons_succ])
  refine q_valS (.pointer none) (by rfl) (by first | rfl | go_simp) ?_
  (try simp only [Act.put, List.setIfInBounds_toArray, List.set_cons_zero, List.set_cons_succ])
  refine q_valS (.int .i64 k) (by rfl) (by first | rfl | go_simp) ?_
  (try simp only [Act.put, List.setIfInBounds_toArray, List.set_cons_zero, List.set_cons_succ])
  refine q_callG (by rfl) 13 #[.pointer none, .int .i64 k] (by go_simp) (fun u w' => u = .int .u8 2 ∧ NiS w X P p w')
    ((health_nil8 k Wn7).mono fun e w' hh => by
      obtain ⟨e1, hb⟩ := hh
      exact ⟨_, e1, rfl, HS7.out.same hb⟩) ?_
  rintro u Wn8 ⟨rfl, hn8⟩
  (try simp only [Act.put, List.setIfInBounds_toArray, List.set_cons_zero, List.set_cons_succ])
  have HS8 := Lib.hid hn8
  clear hn8 HS7
  refine q_valS (.bool true) (by rfl) (q_eqT Tryd.underlying5 rfl rfl rfl) ?_
  (try simp only [Act.put, List.setIfInBounds_toArray, List.set_cons_zero, List.set_cons_succ])
  refine q_valS (.bool true) (by rfl) (by first | rfl | go_simp) ?_
  (try simp only [Act.put, List.setIfInBounds_toArray, List.set_cons_zero, List.set_cons_succ])
  refine q_valS (.bool true) (by rfl) (by first | rfl | go_simp) ?_
  (try simp only [Act.put, List.setIfInBounds_toArray, List.set_cons_zero, List.set_cons_succ])
  refine q_valS (.pointer none) (by rfl) (by first | rfl | go_simp) ?_
  (try simp only [Act.put, List.setIfInBounds_toArray, List.set_cons_zero, List.set_cons_succ])
  refine q_valS (.int .i64 k) (by rfl) (by first | rfl | go_simp) ?_
  (try simp only [Act.put, List.setIfInBounds_toArray, List.set_cons_zero, List.set_cons_succ])
  refine q_callG (by rfl) 14 #[.pointer none, .int .i64 k] (by go_simp) (fun u w' => u = .agg #[.int .i64 0, .int .i64 0] ∧ NiS w X P p w')
    ((count_nil8 k Wn8).mono fun e w' hh => by
      obtain ⟨e1, hb⟩ := hh
      exact ⟨_, e1, rfl, HS8.out.below hb⟩) ?_
  rintro u Wn9 ⟨rfl, hn9⟩
  (try simp only [Act.put, List.setIfInBounds_toArray, List.set_cons_zero, List.set_cons_succ])
  have HS9 := Lib.hid hn9
  clear hn9 HS8
  refine q_valS (.agg #[.int .i64 0, .int .i64 0]) (by rfl) (q_buildC0 rfl) ?_
  (try simp only [Act.put, List.setIfInBounds_toArray, List.set_cons_zero, List.set_cons_succ])
  refine q_valS (.bool true) (by rfl) (q_eqC0 rfl rfl rfl) ?_
  (try simp only [Act.put, List.setIfInBounds_toArray, List.set_cons_zero, List.set_cons_succ])
  refine q_valS (.bool true) (by rfl) (by first | rfl | go_simp) ?_
  (try simp only [Act.put, List.setIfInBounds_toArray, List.set_cons_zero, List.set_cons_succ])
  refine q_valS (.bool true) (by rfl) (by first | rfl | go_simp) ?_
  (try simp only [Act.put, List.setIfInBounds_toArray, List.set_cons_zero, List.set_cons_succ])
  refine q_valS (.pointer (some ⟨X, 0, none⟩)) (by rfl) (by first | rfl | go_simp) ?_
  (try simp only [Act.put, List.setIfInBounds_toArray, List.set_cons_zero, List.set_cons_succ])
  refine q_valS (.pointer (some ⟨X, 0, none⟩)) (by rfl) (ex_nc rfl rfl) ?_
  (try simp only [Act.put, List.setIfInBounds_toArray, List.set_cons_zero, List.set_cons_succ])
  refine q_valS (.pointer (some ⟨X, 4, none⟩)) (by rfl) (by first | rfl | go_simp) ?_
  (try simp only [Act.put, List.setIfInBounds_toArray, List.set_cons_zero, List.set_cons_succ])
  refine q_valS (.pointer (some ⟨P.M, 0, none⟩)) (by rfl) (q_ldM rfl rfl HS9.out.f.c4) ?_
  (try simp only [Act.put, List.setIfInBounds_toArray, List.set_cons_zero, List.set_cons_succ])
  refine q_callG (by rfl) 13 #[.pointer (some ⟨P.M, 0, none⟩), .int .i64 2] (by go_simp) (fun u w' => u = .int .u8 2 ∧ NiS w X P p w')
    ((health_no8 2 P.M (by omega) Wn9).mono fun e w' hh => by
      obtain ⟨e1, hb⟩ := hh
      exact ⟨_, e1, rfl, HS9.out.same hb⟩) ?_
  rintro u Wn10 ⟨rfl, hn10⟩
  (try simp only [Act.put, List.setIfInBounds_toArray, List.set_cons_zero, List.set_cons_succ])
  have HS10 := Lib.hid hn10
  clear hn10 HS9
  refine q_valS (.bool true) (by rfl) (q_eqT Tryd.underlying5 rfl rfl rfl) ?_
  (try simp only [Act.put, List.setIfInBounds_toArray, List.set_cons_zero, List.set_cons_succ])
  refine q_valS (.bool true) (by rfl) (by first | rfl | go_simp) ?_
  (try simp only [Act.put, List.setIfInBounds_toArray, List.set_cons_zero, List.set_cons_succ])
  refine q_valS (.bool true) (by rfl) (by first | rfl | go_simp) ?_
  (try simp only [Act.put, List.setIfInBounds_toArray, List.set_cons_zero, List.set_cons_succ])
  refine q_valS (.pointer (some ⟨X, 0, none⟩)) (by rfl) (by first | rfl | go_simp) ?_
  (try simp only [Act.put, List.setIfInBounds_toArray, List.set_cons_zero, List.set_cons_succ])
  refine q_valS (.pointer (some ⟨X, 0, none⟩)) (by rfl) (ex_nc rfl rfl) ?_
  (try simp only [Act.put, List.setIfInBounds_toArray, List.set_cons_zero, List.set_cons_succ])
  refine q_valS (.pointer (some ⟨X, 4, none⟩)) (by rfl) (by first | rfl | go_simp) ?_
  (try simp only [Act.put, List.setIfInBounds_toArray, List.set_cons_zero, List.set_cons_succ])
  refine q_valS (.pointer (some ⟨P.M, 0, none⟩)) (by rfl) (q_ldM rfl rfl HS10.out.f.c4) ?_
  (try simp only [Act.put, List.setIfInBounds_toArray, List.set_cons_zero, List.set_cons_succ])
  refine q_callG (by rfl) 14 #[.pointer (some ⟨P.M, 0, none⟩), .int .i64 (-1)] (by go_simp) (fun u w' => u = .agg #[.int .i64 0, .int .i64 0] ∧ NiS w X P p w')
    ((count_no8 (-1) P.M (by omega) Wn10).mono fun e w' hh => by
      obtain ⟨e1, hb⟩ := hh
      exact ⟨_, e1, rfl, HS10.out.below hb⟩) ?_
  rintro u Wn11 ⟨rfl, hn11⟩
  (try simp only [Act.put, List.setIfInBounds_toArray, List.set_cons_zero, List.set_cons_succ])
  have HS11 := Lib.hid hn11
  clear hn11 HS10
  refine q_valS (.agg #[.int .i64 0, .int .i64 0]) (by rfl) (q_buildC0 rfl) ?_
  (try simp only [Act.put, List.setIfInBounds_toArray, List.set_cons_zero, List.set_cons_succ])
  refine q_valS (.bool true) (by rfl) (q_eqC0 rfl rfl rfl) ?_
  (try simp only [Act.put, List.setIfInBounds_toArray, List.set_cons_zero, List.set_cons_succ])
  refine q_valS (.bool true) (by rfl) (by first | rfl | go_simp) ?_
  (try simp only [Act.put, List.setIfInBounds_toArray, List.set_cons_zero, List.set_cons_succ])
  refine q_valS (.bool true) (by rfl) (by first | rfl | go_simp) ?_
  (try simp only [Act.put, List.setIfInBounds_toArray, List.set_cons_zero, List.set_cons_succ])
  refine q_callG (by rfl) 15 #[.int .u8 0] (by go_simp) (fun u w' => u = .int .i64 0 ∧ NiS w X P p w')
    ((wide_any 0 (by omega) Wn11 HS11.out.rt).mono fun e w' hh => by
      obtain ⟨e1, hb⟩ := hh
      exact ⟨_, e1, rfl, HS11.out.below hb⟩) ?_
  rintro u Wn12 ⟨rfl, hn12⟩
  (try simp only [Act.put, List.setIfInBounds_toArray, List.set_cons_zero, List.set_cons_succ])
  have HS12 := Lib.hid hn12
  clear hn12 HS11
  refine q_valS (.bool true) (by rfl) (q_eqT Tryd.underlying3 rfl rfl rfl) ?_
  (try simp only [Act.put, List.setIfInBounds_toArray, List.set_cons_zero, List.set_cons_succ])
  refine q_valS (.bool true) (by rfl) (by first | rfl | go_simp) ?_
  (try simp only [Act.put, List.setIfInBounds_toArray, List.set_cons_zero, List.set_cons_succ])
  refine q_valS (.bool true) (by rfl) (by first | rfl | go_simp) ?_
  (try simp only [Act.put, List.setIfInBounds_toArray, List.set_cons_zero, List.set_cons_succ])
  refine q_callG (by rfl) 4 #[] (by go_simp) (fun u w' => u = .bool true ∧ NiS w X P p w')
    ((mwakes_any Wn12 HS12.out.tab HS12.out.rt).mono fun e w' hh => by
      obtain ⟨e1, hb⟩ := hh
      exact ⟨_, e1, rfl, HS12.out.below hb⟩) ?_
  rintro u Wn13 ⟨rfl, hn13⟩
  (try simp only [Act.put, List.setIfInBounds_toArray, List.set_cons_zero, List.set_cons_succ])
  have HS13 := Lib.hid hn13
  clear hn13 HS12
  refine q_valS (.bool true) (by rfl) (by first | rfl | go_simp) ?_
  (try simp only [Act.put, List.setIfInBounds_toArray, List.set_cons_zero, List.set_cons_succ])
  refine q_valS (.bool true) (by rfl) (by first | rfl | go_simp) ?_
  (try simp only [Act.put, List.setIfInBounds_toArray, List.set_cons_zero, List.set_cons_succ])
  go_wp2_with fail
  go_ret
  exact ⟨rfl, HS13.out.bel⟩
theorem mirrorNil_walk (p : Pt) (hp : p.OK) (l : Bs) (sp : Option Addr) (cap : Nat) (k : Int) (w : World) (_ : l.length ≤ cap) (_ : cap ≤ maxLen) (_ : sp = none → cap = 0) (_ : SrcA w sp l) (ht : Tab w) (hr : RTab w) :
    Calls Tryd.prog 3 #[.agg (pcells p).toArray, .slice sp l.length cap, .int .i64 k] w fun e w' => e = .returned (.bool true) ∧ Below w.heap.size w w' := mirrorNil_body p hp sp l.length cap k w ht hr
end Go.Proofs.YtmgagalhpkieoaaDoor
