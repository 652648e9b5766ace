/- AnchorWhole: the law, walked. -/
import Derived.Test.YtchbeaogbjmddaaBu
namespace Go.Proofs.Ytchbeaogbjmddaa
open Go.RowKit

/-- An act of the law. -/
structure A5 where
  act : Nat
  n : Int
  an : An
def A5.cells (a : A5) : List Value := Value.int .u8 (a.act : Int) :: Value.int .i64 a.n :: acells a.an
structure A5.OK (a : A5) : Prop where
  act : a.act < 256
  n1 : -9223372036854775808 ≤ a.n
  n2 : a.n ≤ 9223372036854775807
  an : a.an.OK
def Acts5 (w : World) (sp : Option Addr) (l : List A5) : Prop :=
  (∀ a ∈ l, a.OK) ∧ (0 < l.length → ∃ g o, sp = some ⟨g, o, none⟩ ∧ g < w.heap.size ∧ ∀ i a, l[i]? = some a → w.rangeAt g (o + i * 39) a.cells)
theorem rng_sub {w : World} {g off : Nat} {cs : List Value} (h : w.rangeAt g off cs) (A M Z : List Value) (e : cs = A ++ (M ++ Z)) : w.rangeAt g (off + A.length) M := fun j v hv => by
  subst e
  have hj := (List.getElem?_eq_some_iff.1 hv).1
  have := h (A.length + j) v (by rw [List.getElem?_append_right (by omega), List.getElem?_append_left (by omega), show A.length + j - A.length = j by omega]; exact hv)
  rwa [← Nat.add_assoc] at this
theorem rng_below {W X : World} {g off : Nat} {cs : List Value} (h : W.rangeAt g off cs) (hb : Below W.heap.size W X) (hg : g < W.heap.size) : X.rangeAt g off cs := fun j v hv => (hb.cell (p := ⟨g, off + j, none⟩) hg).trans (h j v hv)
theorem ex_ix39 {ρ : Operand → Value} {o : Oper} {x y : Operand} {g off n cap k : Nat} {w : World} (ho : o.op = .indexAddr 39 x y) (hx : ρ x = .slice (some ⟨g, off, none⟩) n cap) (hy : ρ y = .int .i64 (k : Int)) (hk : k < n) : (execOp ρ o).run Try.prog w = .ok (.value (.pointer (some ⟨g, off + k * 39, none⟩))) w := by
  have hk' : (k : Int) < (n : Int) := by omega
  unfold execOp
  simp only [ho]
  go_simp
theorem ex_fa46 {ρ : Operand → Value} {o : Oper} {x : Operand} {g off : Nat} {w : World} (ho : o.op = .fieldAddr 46 x 2) (hx : ρ x = .pointer (some ⟨g, off, none⟩)) : (execOp ρ o).run Try.prog w = .ok (.value (.pointer (some ⟨g, off + 2, none⟩))) w := by
  unfold execOp
  simp only [ho]
  go_simp
theorem ex_alloc29 {ρ : Operand → Value} {o : Oper} {w : World} (ho : o.op = .alloc 29) : (execOp ρ o).run Try.prog w = .ok (.value (.pointer (some ⟨w.heap.size, 0, none⟩))) (w.alloc (.cells (acells zeroA).toArray 29)) := by
  unfold execOp
  simp only [ho]
  go_simp
  rfl
theorem ex_ne28s {ρ : Operand → Value} {o : Oper} {x y : Operand} {a : Bs} {w : World} (ho : o.op = .binOp .neq 28 x y 28) (hx : ρ x = .agg (a.map V8).toArray) (hy : ρ y = .agg (a.map V8).toArray) (ha : a.length = 64) : (execOp ρ o).run Try.prog w = .ok (.value (.bool false)) w := by
  have := ex_ne28 ho hx hy ha ha (w := w)
  rwa [decide_eq_true rfl] at this
theorem ex_neB {ρ : Operand → Value} {o : Oper} {x y : Operand} {b : Bool} {w : World} (ho : o.op = .binOp .neq 4 x y 4) (hx : ρ x = .bool b) (hy : ρ y = .bool b) : (execOp ρ o).run Try.prog w = .ok (.value (.bool false)) w := by
  unfold execOp
  simp only [ho]
  go_simp
theorem ex_max3 {ρ : Operand → Value} {o : Oper} {x : Operand} {z : Int} {w : World} (ho : o.op = .call { callee := .builtin .max, args := #[x, .const (.int .i64 (-1))], argTypes := #[3, 3] }) (hx : ρ x = .int .i64 z) (hc : ρ (.const (.int .i64 (-1))) = .int .i64 (-1)) : (execOp ρ o).run Try.prog w = .ok (.value (.int .i64 (max z (-1)))) w := by
  unfold execOp
  simp only [ho]
  by_cases h : z < -1
  · have e : max z (-1) = -1 := by omega
    rw [e]
    go_simp
  · have e : max z (-1) = z := by omega
    rw [e]
    go_simp
theorem blkT5 (w : World) (a : An) : Blk ((w.alloc (.cells (acells zeroA).toArray 29)).setRow w.heap.size (acells a).toArray) w.heap.size (acells a) 29 ∧ Below w.heap.size w ((w.alloc (.cells (acells zeroA).toArray 29)).setRow w.heap.size (acells a).toArray) := blkA w _ a
/-- What the law holds. -/
structure Wst (W : World) (D Q gl : Nat) (last : An) (p : Pw) (w : World) : Prop where
  ok : last.OK
  cel : CelAt w D Q (pad last)
  pw : PwAt w Q p
  lst : Blk w gl (acells last) 29
  bel : Below W.heap.size W w
  hd : W.heap.size ≤ D
  hq : W.heap.size ≤ Q
  hl : W.heap.size ≤ gl
  dq : D ≠ Q
  dl : D ≠ gl
  ql : Q ≠ gl
theorem Wst.below {W w w' : World} {D Q gl : Nat} {last : An} {p : Pw} (h : Wst W D Q gl last p w) (hb : Below w.heap.size w w') : Wst W D Q gl last p w' :=
  ⟨h.ok, h.cel.chg (F := fun _ => False) (Chg.of_below hb) (fun h => h), h.pw.chg (F := fun _ => False) (Chg.of_below hb) (fun h => h), h.lst.below hb h.lst.lt, h.bel.trans (hb.mono h.bel.size), h.hd, h.hq, h.hl, h.dq, h.dl, h.ql⟩
theorem Wst.power {W w w' : World} {D Q gl : Nat} {last : An} {p p' : Pw} (h : Wst W D Q gl last p w) (hp : PwAt w' Q p') (hc : Chg (fun k => k = Q) w w') : Wst W D Q gl last p' w' :=
  ⟨h.ok, h.cel.chg hc h.dq, hp, h.lst.chg hc (fun e => h.ql e.symm), h.bel.trans (hc.below (fun k hk => by have := h.hq; omega) h.bel.size), h.hd, h.hq, h.hl, h.dq, h.dl, h.ql⟩
/-- Stored: the same, or nothing but the power. -/
theorem Wst.stored {W w w' : World} {D Q gl : Nat} {last : An} {p p' : Pw} {m : Bs} (h : Wst W D Q gl last p w) (hc : CelAt w' D Q m) (hp : PwAt w' Q p') (hch : Chg (fun k => k = D ∨ k = Q) w w') : CelAt w' D Q m ∧ PwAt w' Q p' ∧ Blk w' gl (acells last) 29 ∧ Below W.heap.size W w' :=
  ⟨hc, hp, h.lst.chg hch (fun e => by rcases e with e | e; exact h.dl e.symm; exact h.ql e.symm), h.bel.trans (hch.below (fun k hk => by have := h.hq; have := h.hd; omega) h.bel.size)⟩
/-- Another anchor kept. -/
theorem Wst.row {W w0 w : World} {D Q gl : Nat} {last b : An} {p p' : Pw} (h : Wst W D Q gl last p w0) (hb : b.OK) (k1 : CelAt w D Q (pad b)) (k2 : PwAt w Q p') (k3 : Blk w gl (acells last) 29) (k4 : Below W.heap.size W w) : Wst W D Q gl b p' (w.setRow gl (acells b).toArray) :=
  have hc : Chg (fun k => k = gl) w (w.setRow gl (acells b).toArray) := (Chg.refl (fun k => k = gl) w).setRow (.inl rfl) _
  ⟨hb, k1.chg hc h.dl, k2.chg hc h.ql, k3.row _, below_row k4 h.hl _, h.hd, h.hq, h.hl, h.dq, h.dl, h.ql⟩
def W5Rel (W : World) (D Q gl n1 : Nat) (lf on i : Value) (wr : World) : Prop :=
  ∃ k : Nat, k ≤ n1 ∧ i = .int .i64 (k : Int) ∧ ∃ last p z, lf = .int .i64 z ∧ on = .bool p.on ∧ (p.on = true → z = p.fuse) ∧ Wst W D Q gl last p wr
set_option maxRecDepth 100000 in
set_option maxHeartbeats 16000000 in
theorem whole_body (n1 c1 : Nat) (l : List A5) (sp : Option Addr) (W : World) (hl : l.length = n1) (hn : n1 ≤ 100) (hA : Acts5 W sp l) : Calls Try.prog 4 #[.slice sp n1 c1] W fun e w' => e = .returned (.bool true) ∧ Below W.heap.size W w' := by
  have HL := Lib.hid hl
  have HA := Lib.hid hA
  have hn' : ¬ ((100 : Int) < (n1 : Int)) := by omega
  clear hl hA
  go_enter Try.func4, Try.ntmps4
  go_wp2_with fail
  refine (on_any W).mono ?_
  rintro e w1 ⟨Q, rfl, hQ1, hQ2, hp1, hb1⟩
  have HP1 := Lib.hid hp1
  have HB1 := Lib.hid hb1
  clear hp1 hb1
  go_wp2_with fail
  refine (newc_any Q ⟨true, -1⟩ w1 HP1.out rfl).mono ?_
  rintro e w2 ⟨D, rfl, hc2, hD, hb2⟩
  have HC2 := Lib.hid hc2
  have HP2 := Lib.hid (HP1.out.chg (F := fun _ => False) (Chg.of_below hb2) (fun h => h))
  have HB2 := Lib.hid (HB1.out.trans (hb2.mono HB1.out.size))
  have hwD : W.heap.size ≤ D := Nat.le_trans HB1.out.size hD
  have hD2 := hc2.blk.lt
  clear hc2 hb2 HP1 HB1
  have hst : ∀ z : Array Value, z = (acells zeroA).toArray → Wst W D Q w2.heap.size zeroA ⟨true, -1⟩ (w2.alloc (.cells z 29)) := by
    rintro z rfl
    have hz : Below w2.heap.size w2 (w2.alloc (.cells (acells zeroA).toArray 29)) := (Below.refl _ _).alloc (Nat.le_refl _) _
    have hq2 := HP2.out.blk.lt
    exact ⟨zeroA_ok, by rw [pad_zero]; exact HC2.out.chg (F := fun _ => False) (Chg.of_below hz) (fun h => h), HP2.out.chg (F := fun _ => False) (Chg.of_below hz) (fun h => h), Blk.new _ _ _, HB2.out.trans (hz.mono HB2.out.size), hwD, hQ1, HB2.out.size, by omega, by omega, by omega⟩
  have HST := Lib.hid hst
  clear hst HC2 HP2 HB2
  go_wp2_with fail
  refine (fun (k : ∀ W3, Wst W D Q w2.heap.size zeroA ⟨true, -1⟩ W3 → Code.wp _ _ _ _ W3) => k _ (HST.out _ rfl)) ?_
  intro w3 h3
  obtain ⟨gl, hgl⟩ : ∃ g, w2.heap.size = g := ⟨_, rfl⟩
  rw [hgl] at h3 ⊢
  have HR := Lib.hid (show W5Rel W D Q gl n1 (.int .i64 (-1)) (.bool true) (.int .i64 0) w3 from ⟨0, Nat.zero_le _, rfl, zeroA, ⟨true, -1⟩, -1, rfl, rfl, fun _ => rfl, h3⟩)
  clear h3 hgl HST hwD hD2 hD hQ1 hQ2
  go_loopw [7, 8, 9] (fun lf on i wr => W5Rel W D Q gl n1 lf on i wr) (fun _ _ i _ => n1 - (intOf i).toNat)
  case atStart => exact HR.out
  case round =>
    clear HR
    obtain ⟨k, hk, rfl, last, p, z, rfl, rfl, hz, hS⟩ := hrel
    have HS := Lib.hid hS
    have HZ := Lib.hid hz
    clear hS hz
    have wk1 := IntWalk.i64_in ((k : Int) + 1) (by omega)
    by_cases hlt : k < n1
    · obtain ⟨a, ha⟩ : ∃ a, l[k]? = some a := ⟨_, List.getElem?_eq_getElem (by have := HL.out; omega)⟩
      obtain ⟨g, og, rfl, hg, hcl⟩ := HA.out.2 (by have := HL.out; omega)
      have hra := hcl k a ha
      have hok := HA.out.1 a (List.mem_of_getElem? ha)
      have HRA : Hid (∀ X : World, Below W.heap.size W X → X.rangeAt g (og + k * 39) a.cells) := Lib.hid (fun X hX => rng_below hra hX hg)
      have HOK := Lib.hid hok
      have q0 : wr.cell? ⟨g, og + k * 39, none⟩ = some (.int .u8 (a.act : Int)) := HRA.out wr HS.out.bel 0 _ rfl
      have q1 : wr.cell? ⟨g, og + k * 39 + 1, none⟩ = some (.int .i64 a.n) := HRA.out wr HS.out.bel 1 _ rfl
      clear hcl hra hok ha
      obtain ⟨onp, fu⟩ := p
      have hlo := HS.out.pw.lo
      have hhi := HS.out.pw.hi
      simp only at hlo hhi
      have hn1 := HOK.out.n1
      have hn2 := HOK.out.n2
      by_cases h0 : a.act = 0
      · have t0 : ((a.act : Int) == 0) = true := by simp [h0]
        clear h0
        cases onp
        · go_wp2_with fail
          refine (fuse_any Q ⟨false, fu⟩ a.n wr HS.out.pw hn2).mono ?_
          rintro e w4 ⟨rfl, hp4, hc4⟩
          rw [show Pw.set ⟨false, fu⟩ a.n = ⟨false, fu⟩ by simp [Pw.set]] at hp4
          have H4 := Lib.hid (HS.out.power hp4 hc4)
          clear hp4 hc4 HS q0 q1
          go_wp2_with fail
          refine wp_region_sched (.take 0 (.take 2 (.step 1 (.take 3 (.take 4 (.take 5 (.take 7 (.step 6 (.step 8 (.take 9 (.take 10 (.take 11 (.take 12 (.take 14 (.step 13 (.take 15 (.take 16 (.nil)))))))))))))))))) (by kernel_rfl) (by kernel_rfl) (fun d _ _ _ _ h => by cases d <;> exact h) (fun X => Blk X gl (acells last) 29) H4.out.lst.drew ?_
          refine wpG_take _ (.pointer (some ⟨D, 0, none⟩)) rfl (by rfl) (fun X hX => by first | rfl | go_simp) ?_
          (try simp only [Act.put, List.setIfInBounds_toArray, List.set_cons_zero, List.set_cons_succ])
          refine wpG_take _ (.agg (acells last).toArray) rfl (by rfl) (fun X hX => ex_ld rfl rfl (rng_all hX) Try.underlying29 rfl (by rw [size29, acells_length H4.out.ok])) ?_
          (try simp only [Act.put, List.setIfInBounds_toArray, List.set_cons_zero, List.set_cons_succ])
          refine wpG_call _ rfl (by rfl) 16 #[.pointer (some ⟨D, 0, none⟩)] (fun _ => by go_simp) (fun u w' => u = .agg (acells last).toArray ∧ Below w4.heap.size w4 w') ((load_any D Q (pad last) w4.drew (H4.out.cel.chg (F := fun _ => False) (Chg.of_below (Below.refl _ _).drew) (fun h => h))).mono fun e w' hh => by rw [(tkA_pad H4.out.ok).1] at hh; obtain ⟨e1, e2⟩ := hh; exact ⟨_, e1, H4.out.lst.drew.below e2 H4.out.lst.lt, rfl, (Below.refl _ _).drew.trans e2⟩) ?_
          rintro u x7 hs7 ⟨rfl, hb7⟩
          refine ⟨_, fun _ h => h, hs7, ?_⟩
          (try simp only [Act.put, List.setIfInBounds_toArray, List.set_cons_zero, List.set_cons_succ])
          refine wpG_take _ (.bool false) rfl (by rfl) (fun X hX => ex_ne29 rfl rfl rfl H4.out.ok) ?_
          (try simp only [Act.put, List.setIfInBounds_toArray, List.set_cons_zero, List.set_cons_succ])
          refine wpG_take _ (.bool false) rfl (by rfl) (fun X hX => by first | rfl | go_simp) ?_
          (try simp only [Act.put, List.setIfInBounds_toArray, List.set_cons_zero, List.set_cons_succ])
          refine wpG_take _ (.pointer (some ⟨D, 0, none⟩)) rfl (by rfl) (fun X hX => by first | rfl | go_simp) ?_
          (try simp only [Act.put, List.setIfInBounds_toArray, List.set_cons_zero, List.set_cons_succ])
          refine wpG_take _ (.agg (acells last).toArray) rfl (by rfl) (fun X hX => ex_ld rfl rfl (rng_all hX) Try.underlying29 rfl (by rw [size29, acells_length H4.out.ok])) ?_
          (try simp only [Act.put, List.setIfInBounds_toArray, List.set_cons_zero, List.set_cons_succ])
          refine wpG_call _ rfl (by rfl) 17 #[.pointer (some ⟨D, 0, none⟩)] (fun _ => by go_simp) (fun u w' => u = .agg ((pad last).map V8).toArray ∧ Below w4.heap.size w4 w') ((bytes_any D Q (pad last) x7 (H4.out.cel.chg (F := fun _ => False) (Chg.of_below hb7) (fun h => h))).mono fun e w' ⟨e1, e2⟩ => ⟨_, e1, hs7.below e2 hs7.lt, rfl, hb7.trans (e2.mono hb7.size)⟩) ?_
          rintro u x8 hs8 ⟨rfl, hb8⟩
          refine ⟨_, fun _ h => h, hs8, ?_⟩
          (try simp only [Act.put, List.setIfInBounds_toArray, List.set_cons_zero, List.set_cons_succ])
          refine wpG_call _ rfl (by rfl) 8 #[.agg (acells last).toArray] (fun _ => by go_simp) (fun u w' => u = .agg ((pad last).map V8).toArray ∧ Below w4.heap.size w4 w') ((put_any last H4.out.ok x8).mono fun e w' ⟨e1, e2⟩ => ⟨_, e1, hs8.below e2 hs8.lt, rfl, hb8.trans (e2.mono hb8.size)⟩) ?_
          rintro u x9 hs9 ⟨rfl, hb9⟩
          refine ⟨_, fun _ h => h, hs9, ?_⟩
          (try simp only [Act.put, List.setIfInBounds_toArray, List.set_cons_zero, List.set_cons_succ])
          refine wpG_take _ (.bool false) rfl (by rfl) (fun X hX => ex_ne28s rfl rfl rfl (pad_length H4.out.ok)) ?_
          (try simp only [Act.put, List.setIfInBounds_toArray, List.set_cons_zero, List.set_cons_succ])
          refine wpG_take _ (.bool false) rfl (by rfl) (fun X hX => by first | rfl | go_simp) ?_
          (try simp only [Act.put, List.setIfInBounds_toArray, List.set_cons_zero, List.set_cons_succ])
          refine wpG_take _ (.bool false) rfl (by rfl) (fun X hX => by first | rfl | go_simp) ?_
          (try simp only [Act.put, List.setIfInBounds_toArray, List.set_cons_zero, List.set_cons_succ])
          refine wpG_take _ (.pointer (some ⟨Q, 0, none⟩)) rfl (by rfl) (fun X hX => by first | rfl | go_simp) ?_
          (try simp only [Act.put, List.setIfInBounds_toArray, List.set_cons_zero, List.set_cons_succ])
          refine wpG_take _ (.bool false) rfl (by rfl) (fun X hX => by first | rfl | go_simp) ?_
          (try simp only [Act.put, List.setIfInBounds_toArray, List.set_cons_zero, List.set_cons_succ])
          have hp9 := H4.out.pw.chg (F := fun _ => False) (Chg.of_below hb9) (fun h => h)
          refine wpG_call _ rfl (by rfl) 18 #[.pointer (some ⟨Q, 0, none⟩)] (fun _ => by go_simp) (fun u w' => u = .bool false ∧ x9 = w') ((is_any Q _ x9 hp9).mono fun e w' ⟨e1, e2⟩ => ⟨_, e1, by rw [← e2]; exact hs9, rfl, e2⟩) ?_
          rintro u x10 hs10 ⟨rfl, e10⟩
          subst e10
          refine ⟨_, fun _ h => h, hs10, ?_⟩
          (try simp only [Act.put, List.setIfInBounds_toArray, List.set_cons_zero, List.set_cons_succ])
          refine wpG_take _ (.bool false) rfl (by rfl) (fun X hX => ex_neB rfl rfl rfl) ?_
          (try simp only [Act.put, List.setIfInBounds_toArray, List.set_cons_zero, List.set_cons_succ])
          refine wpG_take _ (.bool false) rfl (by rfl) (fun X hX => by first | rfl | go_simp) ?_
          (try simp only [Act.put, List.setIfInBounds_toArray, List.set_cons_zero, List.set_cons_succ])
          refine wpG_nil ?_
          have HN := Lib.hid (H4.out.below hb9)
          clear hs7 hs8 hs9 hs10 hb7 hb8 hb9 hp9 H4
          go_wp2_with fail
          go_roundw
          case rel => exact ⟨k + 1, by omega, by go_num, last, ⟨false, fu⟩, _, rfl, rfl, (fun h => by cases h), HN.out⟩
          case measure => simp [intOf]; omega
        · go_wp2_with fail
          refine (fuse_any Q ⟨true, fu⟩ a.n wr HS.out.pw hn2).mono ?_
          rintro e w4 ⟨rfl, hp4, hc4⟩
          rw [show Pw.set ⟨true, fu⟩ a.n = ⟨true, max a.n (-1)⟩ by simp [Pw.set]] at hp4
          have h4 := HS.out.power hp4 hc4
          have H4 := Lib.hid h4
          have q4 : w4.cell? ⟨g, og + k * 39 + 1, none⟩ = some (.int .i64 a.n) := HRA.out w4 h4.bel 1 _ rfl
          clear hp4 hc4 HS q0 q1 h4
          go_wp2_with (first | (refine wpL_val rfl (ex_max3 rfl rfl rfl) ?_) | fail)
          refine wp_region_sched (.take 0 (.take 2 (.step 1 (.take 3 (.take 4 (.take 5 (.take 7 (.step 6 (.step 8 (.take 9 (.take 10 (.take 11 (.take 12 (.take 14 (.step 13 (.take 15 (.take 16 (.nil)))))))))))))))))) (by kernel_rfl) (by kernel_rfl) (fun d _ _ _ _ h => by cases d <;> exact h) (fun X => Blk X gl (acells last) 29) H4.out.lst.drew ?_
          refine wpG_take _ (.pointer (some ⟨D, 0, none⟩)) rfl (by rfl) (fun X hX => by first | rfl | go_simp) ?_
          (try simp only [Act.put, List.setIfInBounds_toArray, List.set_cons_zero, List.set_cons_succ])
          refine wpG_take _ (.agg (acells last).toArray) rfl (by rfl) (fun X hX => ex_ld rfl rfl (rng_all hX) Try.underlying29 rfl (by rw [size29, acells_length H4.out.ok])) ?_
          (try simp only [Act.put, List.setIfInBounds_toArray, List.set_cons_zero, List.set_cons_succ])
          refine wpG_call _ rfl (by rfl) 16 #[.pointer (some ⟨D, 0, none⟩)] (fun _ => by go_simp) (fun u w' => u = .agg (acells last).toArray ∧ Below w4.heap.size w4 w') ((load_any D Q (pad last) w4.drew (H4.out.cel.chg (F := fun _ => False) (Chg.of_below (Below.refl _ _).drew) (fun h => h))).mono fun e w' hh => by rw [(tkA_pad H4.out.ok).1] at hh; obtain ⟨e1, e2⟩ := hh; exact ⟨_, e1, H4.out.lst.drew.below e2 H4.out.lst.lt, rfl, (Below.refl _ _).drew.trans e2⟩) ?_
          rintro u x7 hs7 ⟨rfl, hb7⟩
          refine ⟨_, fun _ h => h, hs7, ?_⟩
          (try simp only [Act.put, List.setIfInBounds_toArray, List.set_cons_zero, List.set_cons_succ])
          refine wpG_take _ (.bool false) rfl (by rfl) (fun X hX => ex_ne29 rfl rfl rfl H4.out.ok) ?_
          (try simp only [Act.put, List.setIfInBounds_toArray, List.set_cons_zero, List.set_cons_succ])
          refine wpG_take _ (.bool false) rfl (by rfl) (fun X hX => by first | rfl | go_simp) ?_
          (try simp only [Act.put, List.setIfInBounds_toArray, List.set_cons_zero, List.set_cons_succ])
          refine wpG_take _ (.pointer (some ⟨D, 0, none⟩)) rfl (by rfl) (fun X hX => by first | rfl | go_simp) ?_
          (try simp only [Act.put, List.setIfInBounds_toArray, List.set_cons_zero, List.set_cons_succ])
          refine wpG_take _ (.agg (acells last).toArray) rfl (by rfl) (fun X hX => ex_ld rfl rfl (rng_all hX) Try.underlying29 rfl (by rw [size29, acells_length H4.out.ok])) ?_
          (try simp only [Act.put, List.setIfInBounds_toArray, List.set_cons_zero, List.set_cons_succ])
          refine wpG_call _ rfl (by rfl) 17 #[.pointer (some ⟨D, 0, none⟩)] (fun _ => by go_simp) (fun u w' => u = .agg ((pad last).map V8).toArray ∧ Below w4.heap.size w4 w') ((bytes_any D Q (pad last) x7 (H4.out.cel.chg (F := fun _ => False) (Chg.of_below hb7) (fun h => h))).mono fun e w' ⟨e1, e2⟩ => ⟨_, e1, hs7.below e2 hs7.lt, rfl, hb7.trans (e2.mono hb7.size)⟩) ?_
          rintro u x8 hs8 ⟨rfl, hb8⟩
          refine ⟨_, fun _ h => h, hs8, ?_⟩
          (try simp only [Act.put, List.setIfInBounds_toArray, List.set_cons_zero, List.set_cons_succ])
          refine wpG_call _ rfl (by rfl) 8 #[.agg (acells last).toArray] (fun _ => by go_simp) (fun u w' => u = .agg ((pad last).map V8).toArray ∧ Below w4.heap.size w4 w') ((put_any last H4.out.ok x8).mono fun e w' ⟨e1, e2⟩ => ⟨_, e1, hs8.below e2 hs8.lt, rfl, hb8.trans (e2.mono hb8.size)⟩) ?_
          rintro u x9 hs9 ⟨rfl, hb9⟩
          refine ⟨_, fun _ h => h, hs9, ?_⟩
          (try simp only [Act.put, List.setIfInBounds_toArray, List.set_cons_zero, List.set_cons_succ])
          refine wpG_take _ (.bool false) rfl (by rfl) (fun X hX => ex_ne28s rfl rfl rfl (pad_length H4.out.ok)) ?_
          (try simp only [Act.put, List.setIfInBounds_toArray, List.set_cons_zero, List.set_cons_succ])
          refine wpG_take _ (.bool false) rfl (by rfl) (fun X hX => by first | rfl | go_simp) ?_
          (try simp only [Act.put, List.setIfInBounds_toArray, List.set_cons_zero, List.set_cons_succ])
          refine wpG_take _ (.bool false) rfl (by rfl) (fun X hX => by first | rfl | go_simp) ?_
          (try simp only [Act.put, List.setIfInBounds_toArray, List.set_cons_zero, List.set_cons_succ])
          refine wpG_take _ (.pointer (some ⟨Q, 0, none⟩)) rfl (by rfl) (fun X hX => by first | rfl | go_simp) ?_
          (try simp only [Act.put, List.setIfInBounds_toArray, List.set_cons_zero, List.set_cons_succ])
          refine wpG_take _ (.bool true) rfl (by rfl) (fun X hX => by first | rfl | go_simp) ?_
          (try simp only [Act.put, List.setIfInBounds_toArray, List.set_cons_zero, List.set_cons_succ])
          have hp9 := H4.out.pw.chg (F := fun _ => False) (Chg.of_below hb9) (fun h => h)
          refine wpG_call _ rfl (by rfl) 18 #[.pointer (some ⟨Q, 0, none⟩)] (fun _ => by go_simp) (fun u w' => u = .bool true ∧ x9 = w') ((is_any Q _ x9 hp9).mono fun e w' ⟨e1, e2⟩ => ⟨_, e1, by rw [← e2]; exact hs9, rfl, e2⟩) ?_
          rintro u x10 hs10 ⟨rfl, e10⟩
          subst e10
          refine ⟨_, fun _ h => h, hs10, ?_⟩
          (try simp only [Act.put, List.setIfInBounds_toArray, List.set_cons_zero, List.set_cons_succ])
          refine wpG_take _ (.bool false) rfl (by rfl) (fun X hX => ex_neB rfl rfl rfl) ?_
          (try simp only [Act.put, List.setIfInBounds_toArray, List.set_cons_zero, List.set_cons_succ])
          refine wpG_take _ (.bool false) rfl (by rfl) (fun X hX => by first | rfl | go_simp) ?_
          (try simp only [Act.put, List.setIfInBounds_toArray, List.set_cons_zero, List.set_cons_succ])
          refine wpG_nil ?_
          have HN := Lib.hid (H4.out.below hb9)
          clear hs7 hs8 hs9 hs10 hb7 hb8 hb9 hp9 H4
          go_wp2_with fail
          go_roundw
          case rel => exact ⟨k + 1, by omega, by go_num, last, ⟨true, max a.n (-1)⟩, _, rfl, rfl, (fun _ => rfl), HN.out⟩
          case measure => simp [intOf]; omega
      · have t0 : ((a.act : Int) == 0) = false := by simp [h0]
        by_cases h1 : a.act = 1
        · have t1 : ((a.act : Int) == 1) = true := by simp [h1]
          clear h0 h1
          go_wp2_with fail
          refine (back_any Q ⟨onp, fu⟩ wr HS.out.pw).mono ?_
          rintro e w4 ⟨rfl, hp4, hc4⟩
          have H4 := Lib.hid (HS.out.power hp4 hc4)
          clear hp4 hc4 HS q0 q1
          go_wp2_with fail
          refine wp_region_sched (.take 0 (.take 2 (.step 1 (.take 3 (.take 4 (.take 5 (.take 7 (.step 6 (.step 8 (.take 9 (.take 10 (.take 11 (.take 12 (.take 14 (.step 13 (.take 15 (.take 16 (.nil)))))))))))))))))) (by kernel_rfl) (by kernel_rfl) (fun d _ _ _ _ h => by cases d <;> exact h) (fun X => Blk X gl (acells last) 29) H4.out.lst.drew ?_
          refine wpG_take _ (.pointer (some ⟨D, 0, none⟩)) rfl (by rfl) (fun X hX => by first | rfl | go_simp) ?_
          (try simp only [Act.put, List.setIfInBounds_toArray, List.set_cons_zero, List.set_cons_succ])
          refine wpG_take _ (.agg (acells last).toArray) rfl (by rfl) (fun X hX => ex_ld rfl rfl (rng_all hX) Try.underlying29 rfl (by rw [size29, acells_length H4.out.ok])) ?_
          (try simp only [Act.put, List.setIfInBounds_toArray, List.set_cons_zero, List.set_cons_succ])
          refine wpG_call _ rfl (by rfl) 16 #[.pointer (some ⟨D, 0, none⟩)] (fun _ => by go_simp) (fun u w' => u = .agg (acells last).toArray ∧ Below w4.heap.size w4 w') ((load_any D Q (pad last) w4.drew (H4.out.cel.chg (F := fun _ => False) (Chg.of_below (Below.refl _ _).drew) (fun h => h))).mono fun e w' hh => by rw [(tkA_pad H4.out.ok).1] at hh; obtain ⟨e1, e2⟩ := hh; exact ⟨_, e1, H4.out.lst.drew.below e2 H4.out.lst.lt, rfl, (Below.refl _ _).drew.trans e2⟩) ?_
          rintro u x7 hs7 ⟨rfl, hb7⟩
          refine ⟨_, fun _ h => h, hs7, ?_⟩
          (try simp only [Act.put, List.setIfInBounds_toArray, List.set_cons_zero, List.set_cons_succ])
          refine wpG_take _ (.bool false) rfl (by rfl) (fun X hX => ex_ne29 rfl rfl rfl H4.out.ok) ?_
          (try simp only [Act.put, List.setIfInBounds_toArray, List.set_cons_zero, List.set_cons_succ])
          refine wpG_take _ (.bool false) rfl (by rfl) (fun X hX => by first | rfl | go_simp) ?_
          (try simp only [Act.put, List.setIfInBounds_toArray, List.set_cons_zero, List.set_cons_succ])
          refine wpG_take _ (.pointer (some ⟨D, 0, none⟩)) rfl (by rfl) (fun X hX => by first | rfl | go_simp) ?_
          (try simp only [Act.put, List.setIfInBounds_toArray, List.set_cons_zero, List.set_cons_succ])
          refine wpG_take _ (.agg (acells last).toArray) rfl (by rfl) (fun X hX => ex_ld rfl rfl (rng_all hX) Try.underlying29 rfl (by rw [size29, acells_length H4.out.ok])) ?_
          (try simp only [Act.put, List.setIfInBounds_toArray, List.set_cons_zero, List.set_cons_succ])
          refine wpG_call _ rfl (by rfl) 17 #[.pointer (some ⟨D, 0, none⟩)] (fun _ => by go_simp) (fun u w' => u = .agg ((pad last).map V8).toArray ∧ Below w4.heap.size w4 w') ((bytes_any D Q (pad last) x7 (H4.out.cel.chg (F := fun _ => False) (Chg.of_below hb7) (fun h => h))).mono fun e w' ⟨e1, e2⟩ => ⟨_, e1, hs7.below e2 hs7.lt, rfl, hb7.trans (e2.mono hb7.size)⟩) ?_
          rintro u x8 hs8 ⟨rfl, hb8⟩
          refine ⟨_, fun _ h => h, hs8, ?_⟩
          (try simp only [Act.put, List.setIfInBounds_toArray, List.set_cons_zero, List.set_cons_succ])
          refine wpG_call _ rfl (by rfl) 8 #[.agg (acells last).toArray] (fun _ => by go_simp) (fun u w' => u = .agg ((pad last).map V8).toArray ∧ Below w4.heap.size w4 w') ((put_any last H4.out.ok x8).mono fun e w' ⟨e1, e2⟩ => ⟨_, e1, hs8.below e2 hs8.lt, rfl, hb8.trans (e2.mono hb8.size)⟩) ?_
          rintro u x9 hs9 ⟨rfl, hb9⟩
          refine ⟨_, fun _ h => h, hs9, ?_⟩
          (try simp only [Act.put, List.setIfInBounds_toArray, List.set_cons_zero, List.set_cons_succ])
          refine wpG_take _ (.bool false) rfl (by rfl) (fun X hX => ex_ne28s rfl rfl rfl (pad_length H4.out.ok)) ?_
          (try simp only [Act.put, List.setIfInBounds_toArray, List.set_cons_zero, List.set_cons_succ])
          refine wpG_take _ (.bool false) rfl (by rfl) (fun X hX => by first | rfl | go_simp) ?_
          (try simp only [Act.put, List.setIfInBounds_toArray, List.set_cons_zero, List.set_cons_succ])
          refine wpG_take _ (.bool false) rfl (by rfl) (fun X hX => by first | rfl | go_simp) ?_
          (try simp only [Act.put, List.setIfInBounds_toArray, List.set_cons_zero, List.set_cons_succ])
          refine wpG_take _ (.pointer (some ⟨Q, 0, none⟩)) rfl (by rfl) (fun X hX => by first | rfl | go_simp) ?_
          (try simp only [Act.put, List.setIfInBounds_toArray, List.set_cons_zero, List.set_cons_succ])
          refine wpG_take _ (.bool true) rfl (by rfl) (fun X hX => by first | rfl | go_simp) ?_
          (try simp only [Act.put, List.setIfInBounds_toArray, List.set_cons_zero, List.set_cons_succ])
          have hp9 := H4.out.pw.chg (F := fun _ => False) (Chg.of_below hb9) (fun h => h)
          refine wpG_call _ rfl (by rfl) 18 #[.pointer (some ⟨Q, 0, none⟩)] (fun _ => by go_simp) (fun u w' => u = .bool true ∧ x9 = w') ((is_any Q _ x9 hp9).mono fun e w' ⟨e1, e2⟩ => ⟨_, e1, by rw [← e2]; exact hs9, rfl, e2⟩) ?_
          rintro u x10 hs10 ⟨rfl, e10⟩
          subst e10
          refine ⟨_, fun _ h => h, hs10, ?_⟩
          (try simp only [Act.put, List.setIfInBounds_toArray, List.set_cons_zero, List.set_cons_succ])
          refine wpG_take _ (.bool false) rfl (by rfl) (fun X hX => ex_neB rfl rfl rfl) ?_
          (try simp only [Act.put, List.setIfInBounds_toArray, List.set_cons_zero, List.set_cons_succ])
          refine wpG_take _ (.bool false) rfl (by rfl) (fun X hX => by first | rfl | go_simp) ?_
          (try simp only [Act.put, List.setIfInBounds_toArray, List.set_cons_zero, List.set_cons_succ])
          refine wpG_nil ?_
          have HN := Lib.hid (H4.out.below hb9)
          clear hs7 hs8 hs9 hs10 hb7 hb8 hb9 hp9 H4
          go_wp2_with fail
          go_roundw
          case rel => exact ⟨k + 1, by omega, by go_num, last, ⟨true, -1⟩, _, rfl, rfl, (fun _ => rfl), HN.out⟩
          case measure => simp [intOf]; omega
        · have t1 : ((a.act : Int) == 1) = false := by
            rw [beq_eq_false_iff_ne]
            omega
          have hra1 : ∀ X : World, Below W.heap.size W X → X.cell? ⟨g, og + k * 39 + 2, none⟩ = some (.int .u64 (a.an.gen : Int)) := fun X hX => HRA.out X hX 2 _ rfl
          have hra2 : ∀ X : World, Below W.heap.size W X → X.rangeAt g (og + k * 39 + 2 + 1) (a.an.hash.map V8) := fun X hX => rng_sub (HRA.out X hX) [.int .u8 (a.act : Int), .int .i64 a.n, .int .u64 (a.an.gen : Int)] (a.an.hash.map V8) (a.an.ats.map U16) rfl
          have hra3 : ∀ X : World, Below W.heap.size W X → X.rangeAt g (og + k * 39 + 2 + 33) (a.an.ats.map U16) := fun X hX => by
            have := rng_sub (HRA.out X hX) (.int .u8 (a.act : Int) :: .int .i64 a.n :: .int .u64 (a.an.gen : Int) :: a.an.hash.map V8) (a.an.ats.map U16) [] (by simp [A5.cells, acells])
            have e : (Value.int .u8 (a.act : Int) :: Value.int .i64 a.n :: Value.int .u64 (a.an.gen : Int) :: a.an.hash.map V8).length = 35 := by simp [HOK.out.an.hash]
            rw [e] at this
            exact this
          have HR1 := Lib.hid hra1
          have HR2 := Lib.hid hra2
          have HR3 := Lib.hid hra3
          clear hra1 hra2 hra3 h0 h1
          go_wp2_with fail
          refine wp_region_sched (.take 0 (.take 1 (.take 2 (.take 3 (.take 4 (.take 5 (.take 6 (.take 7 (.take 8 (.take 9 (.take 10 (.take 11 (.take 12 (.take 13 (.take 14 (.take 15 (.take 16 (.take 17 (.take 18 (.step 19 (.step 20 (.nil)))))))))))))))))))))) (by kernel_rfl) (by kernel_rfl) (fun d _ _ _ _ h => by cases d <;> exact h) (fun X => Below W.heap.size W X) HS.out.bel.drew ?_
          refine wpG_take _ (.slice (some ⟨g, og, none⟩) n1 c1) rfl (by rfl) (fun X hX => by first | rfl | go_simp) ?_
          (try simp only [Act.put, List.setIfInBounds_toArray, List.set_cons_zero, List.set_cons_succ])
          refine wpG_take _ (.int .i64 (k : Int)) rfl (by rfl) (fun X hX => by first | rfl | go_simp) ?_
          (try simp only [Act.put, List.setIfInBounds_toArray, List.set_cons_zero, List.set_cons_succ])
          refine wpG_take _ (.pointer (some ⟨g, og + k * 39, none⟩)) rfl (by rfl) (fun X hX => ex_ix39 rfl rfl rfl hlt) ?_
          (try simp only [Act.put, List.setIfInBounds_toArray, List.set_cons_zero, List.set_cons_succ])
          refine wpG_take _ (.pointer (some ⟨g, og + k * 39 + 2, none⟩)) rfl (by rfl) (fun X hX => ex_fa46 rfl rfl) ?_
          (try simp only [Act.put, List.setIfInBounds_toArray, List.set_cons_zero, List.set_cons_succ])
          refine wpG_take _ (.pointer (some ⟨g, og + k * 39 + 2 + 0, none⟩)) rfl (by rfl) (fun X hX => ex_fa27 0 0 (by omega) rfl rfl) ?_
          (try simp only [Act.put, List.setIfInBounds_toArray, List.set_cons_zero, List.set_cons_succ])
          refine wpG_take _ (.int .u64 (a.an.gen : Int)) rfl (by rfl) (fun X hX => ex_ld22 rfl rfl (HR1.out X hX)) ?_
          (try simp only [Act.put, List.setIfInBounds_toArray, List.set_cons_zero, List.set_cons_succ])
          refine wpG_take _ (.slice (some ⟨g, og, none⟩) n1 c1) rfl (by rfl) (fun X hX => by first | rfl | go_simp) ?_
          (try simp only [Act.put, List.setIfInBounds_toArray, List.set_cons_zero, List.set_cons_succ])
          refine wpG_take _ (.int .i64 (k : Int)) rfl (by rfl) (fun X hX => by first | rfl | go_simp) ?_
          (try simp only [Act.put, List.setIfInBounds_toArray, List.set_cons_zero, List.set_cons_succ])
          refine wpG_take _ (.pointer (some ⟨g, og + k * 39, none⟩)) rfl (by rfl) (fun X hX => ex_ix39 rfl rfl rfl hlt) ?_
          (try simp only [Act.put, List.setIfInBounds_toArray, List.set_cons_zero, List.set_cons_succ])
          refine wpG_take _ (.pointer (some ⟨g, og + k * 39 + 2, none⟩)) rfl (by rfl) (fun X hX => ex_fa46 rfl rfl) ?_
          (try simp only [Act.put, List.setIfInBounds_toArray, List.set_cons_zero, List.set_cons_succ])
          refine wpG_take _ (.pointer (some ⟨g, og + k * 39 + 2 + 1, none⟩)) rfl (by rfl) (fun X hX => ex_fa27 1 1 (by omega) rfl rfl) ?_
          (try simp only [Act.put, List.setIfInBounds_toArray, List.set_cons_zero, List.set_cons_succ])
          refine wpG_take _ (.agg (a.an.hash.map V8).toArray) rfl (by rfl) (fun X hX => ex_ld rfl rfl (HR2.out X hX) Try.underlying23 rfl (by rw [size23]; simp [HOK.out.an.hash])) ?_
          (try simp only [Act.put, List.setIfInBounds_toArray, List.set_cons_zero, List.set_cons_succ])
          refine wpG_take _ (.slice (some ⟨g, og, none⟩) n1 c1) rfl (by rfl) (fun X hX => by first | rfl | go_simp) ?_
          (try simp only [Act.put, List.setIfInBounds_toArray, List.set_cons_zero, List.set_cons_succ])
          refine wpG_take _ (.int .i64 (k : Int)) rfl (by rfl) (fun X hX => by first | rfl | go_simp) ?_
          (try simp only [Act.put, List.setIfInBounds_toArray, List.set_cons_zero, List.set_cons_succ])
          refine wpG_take _ (.pointer (some ⟨g, og + k * 39, none⟩)) rfl (by rfl) (fun X hX => ex_ix39 rfl rfl rfl hlt) ?_
          (try simp only [Act.put, List.setIfInBounds_toArray, List.set_cons_zero, List.set_cons_succ])
          refine wpG_take _ (.pointer (some ⟨g, og + k * 39 + 2, none⟩)) rfl (by rfl) (fun X hX => ex_fa46 rfl rfl) ?_
          (try simp only [Act.put, List.setIfInBounds_toArray, List.set_cons_zero, List.set_cons_succ])
          refine wpG_take _ (.pointer (some ⟨g, og + k * 39 + 2 + 33, none⟩)) rfl (by rfl) (fun X hX => ex_fa27 2 33 (by omega) rfl rfl) ?_
          (try simp only [Act.put, List.setIfInBounds_toArray, List.set_cons_zero, List.set_cons_succ])
          refine wpG_take _ (.agg (a.an.ats.map U16).toArray) rfl (by rfl) (fun X hX => ex_ld rfl rfl (HR3.out X hX) Try.underlying25 rfl (by rw [size25]; simp [HOK.out.an.len])) ?_
          (try simp only [Act.put, List.setIfInBounds_toArray, List.set_cons_zero, List.set_cons_succ])
          refine wpG_take _ (.agg (acells a.an).toArray) rfl (by rfl) (fun X hX => ex_build29 rfl rfl rfl rfl HOK.out.an) ?_
          (try simp only [Act.put, List.setIfInBounds_toArray, List.set_cons_zero, List.set_cons_succ])
          have hbk := blkT5 wr.drew a.an
          refine wpG_mk _ rfl (by rfl) (.pointer (some ⟨wr.drew.heap.size, 0, none⟩)) _ (ex_alloc29 rfl) _ (HS.out.bel.drew.alloc HS.out.bel.drew.size _) (fun _ h => h) ?_
          (try simp only [Act.put, List.setIfInBounds_toArray, List.set_cons_zero, List.set_cons_succ])
          refine wpG_bare _ rfl (by rfl) fun K hK => wpList_store_row rfl 29 (.tmp 10) (.tmp 58) rfl wr.drew.heap.size (acells a.an).toArray rfl rfl 29 _ (heap_alloc_new wr.drew (.cells (acells zeroA).toArray 29)) (size29a HOK.out.an) (by rw [zlen]; simp [acells_length HOK.out.an]) (one29 _) (wpG_list_nil (hK _ _ _ (fun _ h => h) (HS.out.bel.drew.trans (hbk.2.mono HS.out.bel.drew.size)) ?_))
          (try simp only [Act.put, List.setIfInBounds_toArray, List.set_cons_zero, List.set_cons_succ])
          refine wpG_nil ?_
          obtain ⟨w5, hw5⟩ : ∃ x, ((wr.drew.alloc (.cells (acells zeroA).toArray 29)).setRow wr.drew.heap.size (acells a.an).toArray) = x := ⟨_, rfl⟩
          rw [hw5] at hbk ⊢
          clear hw5
          obtain ⟨hb5, hbl5⟩ := hbk
          have HG5 := Lib.hid hb5
          have h5 := HS.out.below ((Below.refl wr.heap.size wr).drew.trans hbl5)
          have H5 := Lib.hid h5
          obtain ⟨ga, hga⟩ : ∃ x, wr.drew.heap.size = x := ⟨_, rfl⟩
          have hgD : D < ga := by rw [← hga]; exact HS.out.cel.blk.lt
          have hgQ : Q < ga := by rw [← hga]; exact HS.out.pw.blk.lt
          have hgl : gl < ga := by rw [← hga]; exact HS.out.lst.lt
          rw [hga] at HG5 ⊢
          clear hb5 hbl5 h5 hga HR1 HR2 HR3 HS q0 q1
          go_wp2_with (first | (refine wpL_val rfl (ex_ld (ty := 29) (cs := acells a.an) rfl rfl (rng_all HG5.out) Try.underlying29 rfl (by rw [size29, acells_length HOK.out.an])) ?_) | fail)
          refine (store_any D Q H5.out.dq (pad last) ⟨onp, fu⟩ a.an HOK.out.an w5 H5.out.cel H5.out.pw).mono ?_
          intro e w6 hh
          unfold Stored storeR at hh
          rw [(tkA_pad H5.out.ok).1] at hh
          by_cases hge : a.an.gen ≤ last.gen
          · rw [if_pos hge] at hh
            obtain ⟨rfl, hc6, hp6, hch6⟩ := hh
            obtain ⟨k1, k2, k3, k4⟩ := H5.out.stored hc6 hp6 hch6
            have H6 := Lib.hid (show Wst W D Q gl last ⟨onp, fu⟩ w6 from ⟨H5.out.ok, k1, k2, k3, k4, H5.out.hd, H5.out.hq, H5.out.hl, H5.out.dq, H5.out.dl, H5.out.ql⟩)
            have hg6 := HG5.out.chg hch6 (by omega)
            have ca : w6.cell? ⟨ga, 0, none⟩ = some (.int .u64 (a.an.gen : Int)) := hg6.cell rfl
            have cl : w6.cell? ⟨gl, 0, none⟩ = some (.int .u64 (last.gen : Int)) := k3.cell rfl
            have hd1 : decide (a.an.gen ≤ last.gen) = true := decide_eq_true hge
            clear hc6 hp6 hch6 k1 k2 k3 k4 hg6 HG5 H5
            go_wp2_with fail
            refine wp_region_sched (.take 0 (.take 2 (.step 1 (.take 3 (.take 4 (.take 5 (.take 7 (.step 6 (.step 8 (.take 9 (.take 10 (.take 11 (.take 12 (.take 14 (.step 13 (.take 15 (.take 16 (.nil)))))))))))))))))) (by kernel_rfl) (by kernel_rfl) (fun d _ _ _ _ h => by cases d <;> exact h) (fun X => Blk X gl (acells last) 29) H6.out.lst.drew ?_
            refine wpG_take _ (.pointer (some ⟨D, 0, none⟩)) rfl (by rfl) (fun X hX => by first | rfl | go_simp) ?_
            (try simp only [Act.put, List.setIfInBounds_toArray, List.set_cons_zero, List.set_cons_succ])
            refine wpG_take _ (.agg (acells last).toArray) rfl (by rfl) (fun X hX => ex_ld rfl rfl (rng_all hX) Try.underlying29 rfl (by rw [size29, acells_length H6.out.ok])) ?_
            (try simp only [Act.put, List.setIfInBounds_toArray, List.set_cons_zero, List.set_cons_succ])
            refine wpG_call _ rfl (by rfl) 16 #[.pointer (some ⟨D, 0, none⟩)] (fun _ => by go_simp) (fun u w' => u = .agg (acells last).toArray ∧ Below w6.heap.size w6 w') ((load_any D Q (pad last) w6.drew (H6.out.cel.chg (F := fun _ => False) (Chg.of_below (Below.refl _ _).drew) (fun h => h))).mono fun e w' hh => by rw [(tkA_pad H6.out.ok).1] at hh; obtain ⟨e1, e2⟩ := hh; exact ⟨_, e1, H6.out.lst.drew.below e2 H6.out.lst.lt, rfl, (Below.refl _ _).drew.trans e2⟩) ?_
            rintro u x7 hs7 ⟨rfl, hb7⟩
            refine ⟨_, fun _ h => h, hs7, ?_⟩
            (try simp only [Act.put, List.setIfInBounds_toArray, List.set_cons_zero, List.set_cons_succ])
            refine wpG_take _ (.bool false) rfl (by rfl) (fun X hX => ex_ne29 rfl rfl rfl H6.out.ok) ?_
            (try simp only [Act.put, List.setIfInBounds_toArray, List.set_cons_zero, List.set_cons_succ])
            refine wpG_take _ (.bool false) rfl (by rfl) (fun X hX => by first | rfl | go_simp) ?_
            (try simp only [Act.put, List.setIfInBounds_toArray, List.set_cons_zero, List.set_cons_succ])
            refine wpG_take _ (.pointer (some ⟨D, 0, none⟩)) rfl (by rfl) (fun X hX => by first | rfl | go_simp) ?_
            (try simp only [Act.put, List.setIfInBounds_toArray, List.set_cons_zero, List.set_cons_succ])
            refine wpG_take _ (.agg (acells last).toArray) rfl (by rfl) (fun X hX => ex_ld rfl rfl (rng_all hX) Try.underlying29 rfl (by rw [size29, acells_length H6.out.ok])) ?_
            (try simp only [Act.put, List.setIfInBounds_toArray, List.set_cons_zero, List.set_cons_succ])
            refine wpG_call _ rfl (by rfl) 17 #[.pointer (some ⟨D, 0, none⟩)] (fun _ => by go_simp) (fun u w' => u = .agg ((pad last).map V8).toArray ∧ Below w6.heap.size w6 w') ((bytes_any D Q (pad last) x7 (H6.out.cel.chg (F := fun _ => False) (Chg.of_below hb7) (fun h => h))).mono fun e w' ⟨e1, e2⟩ => ⟨_, e1, hs7.below e2 hs7.lt, rfl, hb7.trans (e2.mono hb7.size)⟩) ?_
            rintro u x8 hs8 ⟨rfl, hb8⟩
            refine ⟨_, fun _ h => h, hs8, ?_⟩
            (try simp only [Act.put, List.setIfInBounds_toArray, List.set_cons_zero, List.set_cons_succ])
            refine wpG_call _ rfl (by rfl) 8 #[.agg (acells last).toArray] (fun _ => by go_simp) (fun u w' => u = .agg ((pad last).map V8).toArray ∧ Below w6.heap.size w6 w') ((put_any last H6.out.ok x8).mono fun e w' ⟨e1, e2⟩ => ⟨_, e1, hs8.below e2 hs8.lt, rfl, hb8.trans (e2.mono hb8.size)⟩) ?_
            rintro u x9 hs9 ⟨rfl, hb9⟩
            refine ⟨_, fun _ h => h, hs9, ?_⟩
            (try simp only [Act.put, List.setIfInBounds_toArray, List.set_cons_zero, List.set_cons_succ])
            refine wpG_take _ (.bool false) rfl (by rfl) (fun X hX => ex_ne28s rfl rfl rfl (pad_length H6.out.ok)) ?_
            (try simp only [Act.put, List.setIfInBounds_toArray, List.set_cons_zero, List.set_cons_succ])
            refine wpG_take _ (.bool false) rfl (by rfl) (fun X hX => by first | rfl | go_simp) ?_
            (try simp only [Act.put, List.setIfInBounds_toArray, List.set_cons_zero, List.set_cons_succ])
            refine wpG_take _ (.bool false) rfl (by rfl) (fun X hX => by first | rfl | go_simp) ?_
            (try simp only [Act.put, List.setIfInBounds_toArray, List.set_cons_zero, List.set_cons_succ])
            refine wpG_take _ (.pointer (some ⟨Q, 0, none⟩)) rfl (by rfl) (fun X hX => by first | rfl | go_simp) ?_
            (try simp only [Act.put, List.setIfInBounds_toArray, List.set_cons_zero, List.set_cons_succ])
            refine wpG_take _ (.bool onp) rfl (by rfl) (fun X hX => by first | rfl | go_simp) ?_
            (try simp only [Act.put, List.setIfInBounds_toArray, List.set_cons_zero, List.set_cons_succ])
            have hp9 := H6.out.pw.chg (F := fun _ => False) (Chg.of_below hb9) (fun h => h)
            refine wpG_call _ rfl (by rfl) 18 #[.pointer (some ⟨Q, 0, none⟩)] (fun _ => by go_simp) (fun u w' => u = .bool onp ∧ x9 = w') ((is_any Q _ x9 hp9).mono fun e w' ⟨e1, e2⟩ => ⟨_, e1, by rw [← e2]; exact hs9, rfl, e2⟩) ?_
            rintro u x10 hs10 ⟨rfl, e10⟩
            subst e10
            refine ⟨_, fun _ h => h, hs10, ?_⟩
            (try simp only [Act.put, List.setIfInBounds_toArray, List.set_cons_zero, List.set_cons_succ])
            refine wpG_take _ (.bool false) rfl (by rfl) (fun X hX => ex_neB rfl rfl rfl) ?_
            (try simp only [Act.put, List.setIfInBounds_toArray, List.set_cons_zero, List.set_cons_succ])
            refine wpG_take _ (.bool false) rfl (by rfl) (fun X hX => by first | rfl | go_simp) ?_
            (try simp only [Act.put, List.setIfInBounds_toArray, List.set_cons_zero, List.set_cons_succ])
            refine wpG_nil ?_
            have HN := Lib.hid (H6.out.below hb9)
            clear hs7 hs8 hs9 hs10 hb7 hb8 hb9 hp9 H6
            go_wp2_with fail
            go_roundw
            case rel => exact ⟨k + 1, by omega, by go_num, last, ⟨onp, fu⟩, _, rfl, rfl, HZ.out, HN.out⟩
            case measure => simp [intOf]; omega
          · rw [if_neg hge] at hh
            have hd1 : decide (a.an.gen ≤ last.gen) = false := decide_eq_false hge
            clear hge
            cases onp
            · rw [show Pw.step ⟨false, fu⟩ = (false, ⟨false, fu⟩) by simp [Pw.step], if_pos rfl] at hh
              obtain ⟨rfl, hc6, hp6, hch6⟩ := hh
              obtain ⟨k1, k2, k3, k4⟩ := H5.out.stored hc6 hp6 hch6
              have H6 := Lib.hid (show Wst W D Q gl last ⟨false, fu⟩ w6 from ⟨H5.out.ok, k1, k2, k3, k4, H5.out.hd, H5.out.hq, H5.out.hl, H5.out.dq, H5.out.dl, H5.out.ql⟩)
              have hg6 := HG5.out.chg hch6 (by omega)
              have ca : w6.cell? ⟨ga, 0, none⟩ = some (.int .u64 (a.an.gen : Int)) := hg6.cell rfl
              have cl : w6.cell? ⟨gl, 0, none⟩ = some (.int .u64 (last.gen : Int)) := k3.cell rfl
              clear hc6 hp6 hch6 k1 k2 k3 k4 hg6 HG5 H5
              go_wp2_with fail
              refine wp_region_sched (.take 0 (.take 2 (.step 1 (.take 3 (.take 4 (.take 5 (.take 7 (.step 6 (.step 8 (.take 9 (.take 10 (.take 11 (.take 12 (.take 14 (.step 13 (.take 15 (.take 16 (.nil)))))))))))))))))) (by kernel_rfl) (by kernel_rfl) (fun d _ _ _ _ h => by cases d <;> exact h) (fun X => Blk X gl (acells last) 29) H6.out.lst.drew ?_
              refine wpG_take _ (.pointer (some ⟨D, 0, none⟩)) rfl (by rfl) (fun X hX => by first | rfl | go_simp) ?_
              (try simp only [Act.put, List.setIfInBounds_toArray, List.set_cons_zero, List.set_cons_succ])
              refine wpG_take _ (.agg (acells last).toArray) rfl (by rfl) (fun X hX => ex_ld rfl rfl (rng_all hX) Try.underlying29 rfl (by rw [size29, acells_length H6.out.ok])) ?_
              (try simp only [Act.put, List.setIfInBounds_toArray, List.set_cons_zero, List.set_cons_succ])
              refine wpG_call _ rfl (by rfl) 16 #[.pointer (some ⟨D, 0, none⟩)] (fun _ => by go_simp) (fun u w' => u = .agg (acells last).toArray ∧ Below w6.heap.size w6 w') ((load_any D Q (pad last) w6.drew (H6.out.cel.chg (F := fun _ => False) (Chg.of_below (Below.refl _ _).drew) (fun h => h))).mono fun e w' hh => by rw [(tkA_pad H6.out.ok).1] at hh; obtain ⟨e1, e2⟩ := hh; exact ⟨_, e1, H6.out.lst.drew.below e2 H6.out.lst.lt, rfl, (Below.refl _ _).drew.trans e2⟩) ?_
              rintro u x7 hs7 ⟨rfl, hb7⟩
              refine ⟨_, fun _ h => h, hs7, ?_⟩
              (try simp only [Act.put, List.setIfInBounds_toArray, List.set_cons_zero, List.set_cons_succ])
              refine wpG_take _ (.bool false) rfl (by rfl) (fun X hX => ex_ne29 rfl rfl rfl H6.out.ok) ?_
              (try simp only [Act.put, List.setIfInBounds_toArray, List.set_cons_zero, List.set_cons_succ])
              refine wpG_take _ (.bool false) rfl (by rfl) (fun X hX => by first | rfl | go_simp) ?_
              (try simp only [Act.put, List.setIfInBounds_toArray, List.set_cons_zero, List.set_cons_succ])
              refine wpG_take _ (.pointer (some ⟨D, 0, none⟩)) rfl (by rfl) (fun X hX => by first | rfl | go_simp) ?_
              (try simp only [Act.put, List.setIfInBounds_toArray, List.set_cons_zero, List.set_cons_succ])
              refine wpG_take _ (.agg (acells last).toArray) rfl (by rfl) (fun X hX => ex_ld rfl rfl (rng_all hX) Try.underlying29 rfl (by rw [size29, acells_length H6.out.ok])) ?_
              (try simp only [Act.put, List.setIfInBounds_toArray, List.set_cons_zero, List.set_cons_succ])
              refine wpG_call _ rfl (by rfl) 17 #[.pointer (some ⟨D, 0, none⟩)] (fun _ => by go_simp) (fun u w' => u = .agg ((pad last).map V8).toArray ∧ Below w6.heap.size w6 w') ((bytes_any D Q (pad last) x7 (H6.out.cel.chg (F := fun _ => False) (Chg.of_below hb7) (fun h => h))).mono fun e w' ⟨e1, e2⟩ => ⟨_, e1, hs7.below e2 hs7.lt, rfl, hb7.trans (e2.mono hb7.size)⟩) ?_
              rintro u x8 hs8 ⟨rfl, hb8⟩
              refine ⟨_, fun _ h => h, hs8, ?_⟩
              (try simp only [Act.put, List.setIfInBounds_toArray, List.set_cons_zero, List.set_cons_succ])
              refine wpG_call _ rfl (by rfl) 8 #[.agg (acells last).toArray] (fun _ => by go_simp) (fun u w' => u = .agg ((pad last).map V8).toArray ∧ Below w6.heap.size w6 w') ((put_any last H6.out.ok x8).mono fun e w' ⟨e1, e2⟩ => ⟨_, e1, hs8.below e2 hs8.lt, rfl, hb8.trans (e2.mono hb8.size)⟩) ?_
              rintro u x9 hs9 ⟨rfl, hb9⟩
              refine ⟨_, fun _ h => h, hs9, ?_⟩
              (try simp only [Act.put, List.setIfInBounds_toArray, List.set_cons_zero, List.set_cons_succ])
              refine wpG_take _ (.bool false) rfl (by rfl) (fun X hX => ex_ne28s rfl rfl rfl (pad_length H6.out.ok)) ?_
              (try simp only [Act.put, List.setIfInBounds_toArray, List.set_cons_zero, List.set_cons_succ])
              refine wpG_take _ (.bool false) rfl (by rfl) (fun X hX => by first | rfl | go_simp) ?_
              (try simp only [Act.put, List.setIfInBounds_toArray, List.set_cons_zero, List.set_cons_succ])
              refine wpG_take _ (.bool false) rfl (by rfl) (fun X hX => by first | rfl | go_simp) ?_
              (try simp only [Act.put, List.setIfInBounds_toArray, List.set_cons_zero, List.set_cons_succ])
              refine wpG_take _ (.pointer (some ⟨Q, 0, none⟩)) rfl (by rfl) (fun X hX => by first | rfl | go_simp) ?_
              (try simp only [Act.put, List.setIfInBounds_toArray, List.set_cons_zero, List.set_cons_succ])
              refine wpG_take _ (.bool false) rfl (by rfl) (fun X hX => by first | rfl | go_simp) ?_
              (try simp only [Act.put, List.setIfInBounds_toArray, List.set_cons_zero, List.set_cons_succ])
              have hp9 := H6.out.pw.chg (F := fun _ => False) (Chg.of_below hb9) (fun h => h)
              refine wpG_call _ rfl (by rfl) 18 #[.pointer (some ⟨Q, 0, none⟩)] (fun _ => by go_simp) (fun u w' => u = .bool false ∧ x9 = w') ((is_any Q _ x9 hp9).mono fun e w' ⟨e1, e2⟩ => ⟨_, e1, by rw [← e2]; exact hs9, rfl, e2⟩) ?_
              rintro u x10 hs10 ⟨rfl, e10⟩
              subst e10
              refine ⟨_, fun _ h => h, hs10, ?_⟩
              (try simp only [Act.put, List.setIfInBounds_toArray, List.set_cons_zero, List.set_cons_succ])
              refine wpG_take _ (.bool false) rfl (by rfl) (fun X hX => ex_neB rfl rfl rfl) ?_
              (try simp only [Act.put, List.setIfInBounds_toArray, List.set_cons_zero, List.set_cons_succ])
              refine wpG_take _ (.bool false) rfl (by rfl) (fun X hX => by first | rfl | go_simp) ?_
              (try simp only [Act.put, List.setIfInBounds_toArray, List.set_cons_zero, List.set_cons_succ])
              refine wpG_nil ?_
              have HN := Lib.hid (H6.out.below hb9)
              clear hs7 hs8 hs9 hs10 hb7 hb8 hb9 hp9 H6
              go_wp2_with fail
              go_roundw
              case rel => exact ⟨k + 1, by omega, by go_num, last, ⟨false, fu⟩, _, rfl, rfl, (fun h => by cases h), HN.out⟩
              case measure => simp [intOf]; omega
            · obtain rfl : fu = z := (HZ.out rfl).symm
              clear HZ
              by_cases hf : fu = 0
              · subst hf
                rw [show Pw.step ⟨true, 0⟩ = (false, ⟨false, -1⟩) by simp [Pw.step], if_pos rfl] at hh
                obtain ⟨rfl, hc6, hp6, hch6⟩ := hh
                obtain ⟨k1, k2, k3, k4⟩ := H5.out.stored hc6 hp6 hch6
                have H6 := Lib.hid (show Wst W D Q gl last ⟨false, -1⟩ w6 from ⟨H5.out.ok, k1, k2, k3, k4, H5.out.hd, H5.out.hq, H5.out.hl, H5.out.dq, H5.out.dl, H5.out.ql⟩)
                have hg6 := HG5.out.chg hch6 (by omega)
                have ca : w6.cell? ⟨ga, 0, none⟩ = some (.int .u64 (a.an.gen : Int)) := hg6.cell rfl
                have cl : w6.cell? ⟨gl, 0, none⟩ = some (.int .u64 (last.gen : Int)) := k3.cell rfl
                clear hc6 hp6 hch6 k1 k2 k3 k4 hg6 HG5 H5
                go_wp2_with fail
                refine wp_region_sched (.take 0 (.take 2 (.step 1 (.take 3 (.take 4 (.take 5 (.take 7 (.step 6 (.step 8 (.take 9 (.take 10 (.take 11 (.take 12 (.take 14 (.step 13 (.take 15 (.take 16 (.nil)))))))))))))))))) (by kernel_rfl) (by kernel_rfl) (fun d _ _ _ _ h => by cases d <;> exact h) (fun X => Blk X gl (acells last) 29) H6.out.lst.drew ?_
                refine wpG_take _ (.pointer (some ⟨D, 0, none⟩)) rfl (by rfl) (fun X hX => by first | rfl | go_simp) ?_
                (try simp only [Act.put, List.setIfInBounds_toArray, List.set_cons_zero, List.set_cons_succ])
                refine wpG_take _ (.agg (acells last).toArray) rfl (by rfl) (fun X hX => ex_ld rfl rfl (rng_all hX) Try.underlying29 rfl (by rw [size29, acells_length H6.out.ok])) ?_
                (try simp only [Act.put, List.setIfInBounds_toArray, List.set_cons_zero, List.set_cons_succ])
                refine wpG_call _ rfl (by rfl) 16 #[.pointer (some ⟨D, 0, none⟩)] (fun _ => by go_simp) (fun u w' => u = .agg (acells last).toArray ∧ Below w6.heap.size w6 w') ((load_any D Q (pad last) w6.drew (H6.out.cel.chg (F := fun _ => False) (Chg.of_below (Below.refl _ _).drew) (fun h => h))).mono fun e w' hh => by rw [(tkA_pad H6.out.ok).1] at hh; obtain ⟨e1, e2⟩ := hh; exact ⟨_, e1, H6.out.lst.drew.below e2 H6.out.lst.lt, rfl, (Below.refl _ _).drew.trans e2⟩) ?_
                rintro u x7 hs7 ⟨rfl, hb7⟩
                refine ⟨_, fun _ h => h, hs7, ?_⟩
                (try simp only [Act.put, List.setIfInBounds_toArray, List.set_cons_zero, List.set_cons_succ])
                refine wpG_take _ (.bool false) rfl (by rfl) (fun X hX => ex_ne29 rfl rfl rfl H6.out.ok) ?_
                (try simp only [Act.put, List.setIfInBounds_toArray, List.set_cons_zero, List.set_cons_succ])
                refine wpG_take _ (.bool false) rfl (by rfl) (fun X hX => by first | rfl | go_simp) ?_
                (try simp only [Act.put, List.setIfInBounds_toArray, List.set_cons_zero, List.set_cons_succ])
                refine wpG_take _ (.pointer (some ⟨D, 0, none⟩)) rfl (by rfl) (fun X hX => by first | rfl | go_simp) ?_
                (try simp only [Act.put, List.setIfInBounds_toArray, List.set_cons_zero, List.set_cons_succ])
                refine wpG_take _ (.agg (acells last).toArray) rfl (by rfl) (fun X hX => ex_ld rfl rfl (rng_all hX) Try.underlying29 rfl (by rw [size29, acells_length H6.out.ok])) ?_
                (try simp only [Act.put, List.setIfInBounds_toArray, List.set_cons_zero, List.set_cons_succ])
                refine wpG_call _ rfl (by rfl) 17 #[.pointer (some ⟨D, 0, none⟩)] (fun _ => by go_simp) (fun u w' => u = .agg ((pad last).map V8).toArray ∧ Below w6.heap.size w6 w') ((bytes_any D Q (pad last) x7 (H6.out.cel.chg (F := fun _ => False) (Chg.of_below hb7) (fun h => h))).mono fun e w' ⟨e1, e2⟩ => ⟨_, e1, hs7.below e2 hs7.lt, rfl, hb7.trans (e2.mono hb7.size)⟩) ?_
                rintro u x8 hs8 ⟨rfl, hb8⟩
                refine ⟨_, fun _ h => h, hs8, ?_⟩
                (try simp only [Act.put, List.setIfInBounds_toArray, List.set_cons_zero, List.set_cons_succ])
                refine wpG_call _ rfl (by rfl) 8 #[.agg (acells last).toArray] (fun _ => by go_simp) (fun u w' => u = .agg ((pad last).map V8).toArray ∧ Below w6.heap.size w6 w') ((put_any last H6.out.ok x8).mono fun e w' ⟨e1, e2⟩ => ⟨_, e1, hs8.below e2 hs8.lt, rfl, hb8.trans (e2.mono hb8.size)⟩) ?_
                rintro u x9 hs9 ⟨rfl, hb9⟩
                refine ⟨_, fun _ h => h, hs9, ?_⟩
                (try simp only [Act.put, List.setIfInBounds_toArray, List.set_cons_zero, List.set_cons_succ])
                refine wpG_take _ (.bool false) rfl (by rfl) (fun X hX => ex_ne28s rfl rfl rfl (pad_length H6.out.ok)) ?_
                (try simp only [Act.put, List.setIfInBounds_toArray, List.set_cons_zero, List.set_cons_succ])
                refine wpG_take _ (.bool false) rfl (by rfl) (fun X hX => by first | rfl | go_simp) ?_
                (try simp only [Act.put, List.setIfInBounds_toArray, List.set_cons_zero, List.set_cons_succ])
                refine wpG_take _ (.bool false) rfl (by rfl) (fun X hX => by first | rfl | go_simp) ?_
                (try simp only [Act.put, List.setIfInBounds_toArray, List.set_cons_zero, List.set_cons_succ])
                refine wpG_take _ (.pointer (some ⟨Q, 0, none⟩)) rfl (by rfl) (fun X hX => by first | rfl | go_simp) ?_
                (try simp only [Act.put, List.setIfInBounds_toArray, List.set_cons_zero, List.set_cons_succ])
                refine wpG_take _ (.bool false) rfl (by rfl) (fun X hX => by first | rfl | go_simp) ?_
                (try simp only [Act.put, List.setIfInBounds_toArray, List.set_cons_zero, List.set_cons_succ])
                have hp9 := H6.out.pw.chg (F := fun _ => False) (Chg.of_below hb9) (fun h => h)
                refine wpG_call _ rfl (by rfl) 18 #[.pointer (some ⟨Q, 0, none⟩)] (fun _ => by go_simp) (fun u w' => u = .bool false ∧ x9 = w') ((is_any Q _ x9 hp9).mono fun e w' ⟨e1, e2⟩ => ⟨_, e1, by rw [← e2]; exact hs9, rfl, e2⟩) ?_
                rintro u x10 hs10 ⟨rfl, e10⟩
                subst e10
                refine ⟨_, fun _ h => h, hs10, ?_⟩
                (try simp only [Act.put, List.setIfInBounds_toArray, List.set_cons_zero, List.set_cons_succ])
                refine wpG_take _ (.bool false) rfl (by rfl) (fun X hX => ex_neB rfl rfl rfl) ?_
                (try simp only [Act.put, List.setIfInBounds_toArray, List.set_cons_zero, List.set_cons_succ])
                refine wpG_take _ (.bool false) rfl (by rfl) (fun X hX => by first | rfl | go_simp) ?_
                (try simp only [Act.put, List.setIfInBounds_toArray, List.set_cons_zero, List.set_cons_succ])
                refine wpG_nil ?_
                have HN := Lib.hid (H6.out.below hb9)
                clear hs7 hs8 hs9 hs10 hb7 hb8 hb9 hp9 H6
                go_wp2_with fail
                go_roundw
                case rel => exact ⟨k + 1, by omega, by go_num, last, ⟨false, -1⟩, _, rfl, rfl, (fun h => by cases h), HN.out⟩
                case measure => simp [intOf]; omega
              · have hst : Pw.step ⟨true, fu⟩ = (true, ⟨true, max (fu - 1) (-1)⟩) := by
                  unfold Pw.step
                  by_cases hp : 0 < fu
                  · simp only [hf, if_neg, if_pos hp]
                    simp
                    omega
                  · obtain rfl : fu = -1 := by omega
                    first | rfl | decide
                rw [hst, if_neg (by simp)] at hh
                have tf : (fu == 0) = false := by simp [hf]
                have wf1 := IntWalk.i64_in (fu - 1) (by omega)
                clear hst hf
                obtain ⟨rfl, hc6, hp6, hch6⟩ := hh
                obtain ⟨k1, k2, k3, k4⟩ := H5.out.stored hc6 hp6 hch6
                have H6 := Lib.hid (show CelAt w6 D Q (pad a.an) ∧ PwAt w6 Q ⟨true, max (fu - 1) (-1)⟩ ∧ Blk w6 gl (acells last) 29 ∧ Below W.heap.size W w6 from ⟨k1, k2, k3, k4⟩)
                have hg6 := HG5.out.chg hch6 (by omega)
                have ca : w6.cell? ⟨ga, 0, none⟩ = some (.int .u64 (a.an.gen : Int)) := hg6.cell rfl
                have cl : w6.cell? ⟨gl, 0, none⟩ = some (.int .u64 (last.gen : Int)) := k3.cell rfl
                have HG6 := Lib.hid hg6
                have h7 : Wst W D Q gl a.an ⟨true, max (fu - 1) (-1)⟩ (w6.setRow gl (acells a.an).toArray) := (Wst.row H5.out HOK.out.an H6.out.1 H6.out.2.1 H6.out.2.2.1 H6.out.2.2.2)
                have H7 := Lib.hid h7
                have hsz : (acells last).toArray.size = (acells a.an).toArray.size := by simp [acells_length H5.out.ok, acells_length HOK.out.an]
                clear hc6 hp6 hch6 k1 k2 k3 k4 hg6 HG5 H5 h7
                go_wp2_with (first | (refine wpL_val rfl (ex_max3 rfl rfl rfl) ?_) | (refine wpL_val rfl (ex_ld (ty := 29) (cs := acells a.an) rfl rfl (rng_all HG6.out) Try.underlying29 rfl (by rw [size29, acells_length HOK.out.an])) ?_) | (refine wpList_store_row rfl 29 (.tmp 6) (.tmp 73) rfl gl (acells a.an).toArray rfl rfl 29 (acells last).toArray H6.out.2.2.1 (size29a HOK.out.an) hsz (one29 _) ?_; refine (fun (k : ∀ X, Wst W D Q gl a.an ⟨true, max (fu - 1) (-1)⟩ X → wpList _ _ _ _ _ X) => k _ H7.out) ?_; intro w7 h7; have H8 := Lib.hid h7; clear h7 ca cl) | fail)
                refine wp_region_sched (.take 0 (.take 2 (.step 1 (.take 3 (.take 4 (.take 5 (.take 7 (.step 6 (.step 8 (.take 9 (.take 10 (.take 11 (.take 12 (.take 14 (.step 13 (.take 15 (.take 16 (.nil)))))))))))))))))) (by kernel_rfl) (by kernel_rfl) (fun d _ _ _ _ h => by cases d <;> exact h) (fun X => Blk X gl (acells a.an) 29) H8.out.lst.drew ?_
                refine wpG_take _ (.pointer (some ⟨D, 0, none⟩)) rfl (by rfl) (fun X hX => by first | rfl | go_simp) ?_
                (try simp only [Act.put, List.setIfInBounds_toArray, List.set_cons_zero, List.set_cons_succ])
                refine wpG_take _ (.agg (acells a.an).toArray) rfl (by rfl) (fun X hX => ex_ld rfl rfl (rng_all hX) Try.underlying29 rfl (by rw [size29, acells_length H8.out.ok])) ?_
                (try simp only [Act.put, List.setIfInBounds_toArray, List.set_cons_zero, List.set_cons_succ])
                refine wpG_call _ rfl (by rfl) 16 #[.pointer (some ⟨D, 0, none⟩)] (fun _ => by go_simp) (fun u w' => u = .agg (acells a.an).toArray ∧ Below w7.heap.size w7 w') ((load_any D Q (pad a.an) w7.drew (H8.out.cel.chg (F := fun _ => False) (Chg.of_below (Below.refl _ _).drew) (fun h => h))).mono fun e w' hh => by rw [(tkA_pad H8.out.ok).1] at hh; obtain ⟨e1, e2⟩ := hh; exact ⟨_, e1, H8.out.lst.drew.below e2 H8.out.lst.lt, rfl, (Below.refl _ _).drew.trans e2⟩) ?_
                rintro u x7 hs7 ⟨rfl, hb7⟩
                refine ⟨_, fun _ h => h, hs7, ?_⟩
                (try simp only [Act.put, List.setIfInBounds_toArray, List.set_cons_zero, List.set_cons_succ])
                refine wpG_take _ (.bool false) rfl (by rfl) (fun X hX => ex_ne29 rfl rfl rfl H8.out.ok) ?_
                (try simp only [Act.put, List.setIfInBounds_toArray, List.set_cons_zero, List.set_cons_succ])
                refine wpG_take _ (.bool false) rfl (by rfl) (fun X hX => by first | rfl | go_simp) ?_
                (try simp only [Act.put, List.setIfInBounds_toArray, List.set_cons_zero, List.set_cons_succ])
                refine wpG_take _ (.pointer (some ⟨D, 0, none⟩)) rfl (by rfl) (fun X hX => by first | rfl | go_simp) ?_
                (try simp only [Act.put, List.setIfInBounds_toArray, List.set_cons_zero, List.set_cons_succ])
                refine wpG_take _ (.agg (acells a.an).toArray) rfl (by rfl) (fun X hX => ex_ld rfl rfl (rng_all hX) Try.underlying29 rfl (by rw [size29, acells_length H8.out.ok])) ?_
                (try simp only [Act.put, List.setIfInBounds_toArray, List.set_cons_zero, List.set_cons_succ])
                refine wpG_call _ rfl (by rfl) 17 #[.pointer (some ⟨D, 0, none⟩)] (fun _ => by go_simp) (fun u w' => u = .agg ((pad a.an).map V8).toArray ∧ Below w7.heap.size w7 w') ((bytes_any D Q (pad a.an) x7 (H8.out.cel.chg (F := fun _ => False) (Chg.of_below hb7) (fun h => h))).mono fun e w' ⟨e1, e2⟩ => ⟨_, e1, hs7.below e2 hs7.lt, rfl, hb7.trans (e2.mono hb7.size)⟩) ?_
                rintro u x8 hs8 ⟨rfl, hb8⟩
                refine ⟨_, fun _ h => h, hs8, ?_⟩
                (try simp only [Act.put, List.setIfInBounds_toArray, List.set_cons_zero, List.set_cons_succ])
                refine wpG_call _ rfl (by rfl) 8 #[.agg (acells a.an).toArray] (fun _ => by go_simp) (fun u w' => u = .agg ((pad a.an).map V8).toArray ∧ Below w7.heap.size w7 w') ((put_any a.an H8.out.ok x8).mono fun e w' ⟨e1, e2⟩ => ⟨_, e1, hs8.below e2 hs8.lt, rfl, hb8.trans (e2.mono hb8.size)⟩) ?_
                rintro u x9 hs9 ⟨rfl, hb9⟩
                refine ⟨_, fun _ h => h, hs9, ?_⟩
                (try simp only [Act.put, List.setIfInBounds_toArray, List.set_cons_zero, List.set_cons_succ])
                refine wpG_take _ (.bool false) rfl (by rfl) (fun X hX => ex_ne28s rfl rfl rfl (pad_length H8.out.ok)) ?_
                (try simp only [Act.put, List.setIfInBounds_toArray, List.set_cons_zero, List.set_cons_succ])
                refine wpG_take _ (.bool false) rfl (by rfl) (fun X hX => by first | rfl | go_simp) ?_
                (try simp only [Act.put, List.setIfInBounds_toArray, List.set_cons_zero, List.set_cons_succ])
                refine wpG_take _ (.bool false) rfl (by rfl) (fun X hX => by first | rfl | go_simp) ?_
                (try simp only [Act.put, List.setIfInBounds_toArray, List.set_cons_zero, List.set_cons_succ])
                refine wpG_take _ (.pointer (some ⟨Q, 0, none⟩)) rfl (by rfl) (fun X hX => by first | rfl | go_simp) ?_
                (try simp only [Act.put, List.setIfInBounds_toArray, List.set_cons_zero, List.set_cons_succ])
                refine wpG_take _ (.bool true) rfl (by rfl) (fun X hX => by first | rfl | go_simp) ?_
                (try simp only [Act.put, List.setIfInBounds_toArray, List.set_cons_zero, List.set_cons_succ])
                have hp9 := H8.out.pw.chg (F := fun _ => False) (Chg.of_below hb9) (fun h => h)
                refine wpG_call _ rfl (by rfl) 18 #[.pointer (some ⟨Q, 0, none⟩)] (fun _ => by go_simp) (fun u w' => u = .bool true ∧ x9 = w') ((is_any Q _ x9 hp9).mono fun e w' ⟨e1, e2⟩ => ⟨_, e1, by rw [← e2]; exact hs9, rfl, e2⟩) ?_
                rintro u x10 hs10 ⟨rfl, e10⟩
                subst e10
                refine ⟨_, fun _ h => h, hs10, ?_⟩
                (try simp only [Act.put, List.setIfInBounds_toArray, List.set_cons_zero, List.set_cons_succ])
                refine wpG_take _ (.bool false) rfl (by rfl) (fun X hX => ex_neB rfl rfl rfl) ?_
                (try simp only [Act.put, List.setIfInBounds_toArray, List.set_cons_zero, List.set_cons_succ])
                refine wpG_take _ (.bool false) rfl (by rfl) (fun X hX => by first | rfl | go_simp) ?_
                (try simp only [Act.put, List.setIfInBounds_toArray, List.set_cons_zero, List.set_cons_succ])
                refine wpG_nil ?_
                have HN := Lib.hid (H8.out.below hb9)
                clear hs7 hs8 hs9 hs10 hb7 hb8 hb9 hp9 H8
                go_wp2_with fail
                go_roundw
                case rel => exact ⟨k + 1, by omega, by go_num, a.an, ⟨true, max (fu - 1) (-1)⟩, _, rfl, rfl, (fun _ => rfl), HN.out⟩
                case measure => simp [intOf]; omega
    · have em : (k : Int) = (n1 : Int) := by omega
      have hn1 : ¬ ((k : Int) < (n1 : Int)) := by omega
      go_wp2_with fail
      refine (wakes_any wr).mono ?_
      rintro e w9 ⟨rfl, hb9⟩
      have HB9 := Lib.hid (HS.out.bel.trans (hb9.mono HS.out.bel.size))
      clear hb9 HS
      go_wp2_with fail
      go_ret
      exact ⟨rfl, HB9.out⟩
end Go.Proofs.Ytchbeaogbjmddaa
