/- Put: an anchor's bytes. -/
import Derived.Test.YtchbeaogbjmddaaAn
namespace Go.Proofs.Ytchbeaogbjmddaa
open Go.RowKit

section
variable {ops : Array Oper} {Q : Exit → Act → World → Prop} {S : World → Prop}
/-- It makes memory. -/
theorem wpG_mk {i : Nat} {r : Tr} {a : Act} {w : World} (o : Oper) (hi : ops.toList[i]? = some o) (hw : Region.wanted o (yielded ops a.tmps) = true) (v : Value) (w1 : World) (hrun : (execOp a.eval o).run Try.prog w = .ok (.value v) w1)
    (S' : World → Prop) (hS : S' w1) (hSS : ∀ w, S' w → S w) (h : wpG Try.prog ops Q r S' (a.put o.dst v) w1) : wpG Try.prog ops Q (.step i r) S a w := by
  show wpOp Try.prog ops Q i _ a w
  unfold wpOp
  simp only [of_list hi]
  rw [if_pos hw]
  refine .inl ?_
  unfold Oper.wp
  rw [hrun]
  exact ⟨hSS _ hS, S', hSS, hS, h⟩
theorem wpG_st {i : Nat} {r : Tr} {a : Act} {w : World} (o : Oper) (hi : ops.toList[i]? = some o) (hw : Region.wanted o (yielded ops a.tmps) = true) (w1 : World) (hrun : (execOp a.eval o).run Try.prog w = .ok .skip w1)
    (S' : World → Prop) (hS : S' w1) (hSS : S w1) (hS2 : ∀ w, S' w → S w) (h : wpG Try.prog ops Q r S' (a.put o.dst undef) w1) : wpG Try.prog ops Q (.step i r) S a w := by
  show wpOp Try.prog ops Q i _ a w
  unfold wpOp
  simp only [of_list hi]
  rw [if_pos hw]
  refine .inl ?_
  unfold Oper.wp
  rw [hrun]
  exact ⟨hSS, S', hS2, hS, h⟩
end
theorem wpL_val {ops : Array Oper} {rest : List Oper} {o : Oper} {a : Act} {Q : Exit → Act → World → Prop} {w w' : World} {v : Value} (hg : o.guard = none) (hrun : (execOp a.eval o).run Try.prog w = .ok (.value v) w')
    (hK : wpList Try.prog ops Q rest (a.put o.dst v) w') : wpList Try.prog ops Q (o :: rest) a w := by
  refine wpList_plain hg fun K' hK' => ?_
  unfold Oper.wp
  rw [hrun]
  exact hK' _ _ hK
theorem ex_ld {ρ : Operand → Value} {o : Oper} {x : Operand} {ty : TypeId} {b off : Nat} {cs : List Value} {d : TypeDesc} {w : World} (ho : o.op = .load ty x) (hx : ρ x = .pointer (some ⟨b, off, none⟩)) (hc : w.rangeAt b off cs) (hu : Try.prog.underlying ty = some d) (hd : d.isRow = true) (hi : (Try.prog.info? ty).map (·.size) = some cs.length) : (execOp ρ o).run Try.prog w = .ok (.value (.agg cs.toArray)) w := by
  have hr := run_loadAt_mid (P := Try.prog) w b off ty cs d hc hu hd hi
  unfold execOp
  simp only [ho, hx]
  simp only [Sem.run_bind, hr, Result.andThen_ok, Sem.run_pure]
theorem size29 : (Try.prog.info? 29).map (·.size) = some 37 := by kernel_rfl
theorem size27 : (Try.prog.info? 27).map (·.size) = some 37 := by kernel_rfl
theorem size28 : (Try.prog.info? 28).map (·.size) = some 64 := by kernel_rfl
theorem size25 : (Try.prog.info? 25).map (·.size) = some 4 := by kernel_rfl
theorem size23 : (Try.prog.info? 23).map (·.size) = some 32 := by kernel_rfl
theorem size24 : (Try.prog.info? 24).map (·.size) = some 1 := by kernel_rfl
theorem ex_fa29 {ρ : Operand → Value} {o : Oper} {x : Operand} {g : Nat} {w : World} (j k : Nat) (hj : (j = 0 ∧ k = 0) ∨ (j = 1 ∧ k = 1) ∨ (j = 2 ∧ k = 33)) (ho : o.op = .fieldAddr 29 x j) (hx : ρ x = .pointer (some ⟨g, 0, none⟩)) : (execOp ρ o).run Try.prog w = .ok (.value (.pointer (some ⟨g, k, none⟩))) w := by
  unfold execOp
  simp only [ho]
  rcases hj with ⟨rfl, rfl⟩ | ⟨rfl, rfl⟩ | ⟨rfl, rfl⟩ <;> go_simp
theorem ex_fa27 {ρ : Operand → Value} {o : Oper} {x : Operand} {g off : Nat} {w : World} (j k : Nat) (hj : (j = 0 ∧ k = 0) ∨ (j = 1 ∧ k = 1) ∨ (j = 2 ∧ k = 33)) (ho : o.op = .fieldAddr 27 x j) (hx : ρ x = .pointer (some ⟨g, off, none⟩)) : (execOp ρ o).run Try.prog w = .ok (.value (.pointer (some ⟨g, off + k, none⟩))) w := by
  unfold execOp
  simp only [ho]
  rcases hj with ⟨rfl, rfl⟩ | ⟨rfl, rfl⟩ | ⟨rfl, rfl⟩ <;> go_simp
theorem ex_ld22 {ρ : Operand → Value} {o : Oper} {x : Operand} {ad : Addr} {v : Value} {w : World} (ho : o.op = .load 22 x) (hx : ρ x = .pointer (some ad)) (hc : w.cell? ad = some v) : (execOp ρ o).run Try.prog w = .ok (.value v) w := by
  unfold execOp
  simp only [ho]
  go_simp
theorem ex_sl23 {ρ : Operand → Value} {o : Oper} {x : Operand} {b : Nat} {w : World} (ho : o.op = .slice 23 x none none none) (hx : ρ x = .pointer (some ⟨b, 1, none⟩)) : (execOp ρ o).run Try.prog w = .ok (.value (.slice (some ⟨b, 1, none⟩) 32 32)) w := by
  unfold execOp
  simp only [ho]
  go_simp
theorem ex_app55 {ρ : Operand → Value} {o : Oper} {x y : Operand} {v u v' : Value} {w w' : World} (ho : o.op = .call { callee := .builtin .append, args := #[x, y], argTypes := #[55, 55] }) (hx : ρ x = v) (hy : ρ y = u)
    (hr : (Builtin.append_ #[55, 55] o.type #[v, u]).run Try.prog w = .ok v' w') : (execOp ρ o).run Try.prog w = .ok (.value v') w' := by
  unfold execOp
  simp only [ho, resolve, invoke, builtin, Sem.run_bind, Sem.run_pure, Result.andThen_ok, List.map_toArray, List.map_cons, List.map_nil, hx, hy, hr]
/-- Bytes more. -/
theorem ownB_app {w : World} {B : Nat} {v : Value} {l m : Bs} (h : OwnB w B v l) (hB : B ≤ w.heap.size) (hl : l.length + m.length ≤ 1000000) {g off c : Nat} (hsrc : w.rangeAt g off (m.map V8)) (ty : TypeId) :
    ∃ v' w', (Builtin.append_ #[55, 55] ty #[v, .slice (some ⟨g, off, none⟩) m.length c]).run Try.prog w = .ok v' w' ∧ OwnB w' B v' (l ++ m) ∧ Below B w w' := by
  obtain ⟨i0, hi, hz0, hz1, hz2⟩ := info_parts infoB
  obtain ⟨v', w', hr, h2, h3, _, h5⟩ := run_append_own_at (P := Try.prog) w B 55 ty 5 i0 (.int .u8 0) 1 1 Try.underlying55 hi hz0 hz1 hz2 rfl (by decide) v l.length (l.map V8) h ⟨g, off, none⟩ m.length c (m.map V8) (by simp) (fun j u hj => by rw [Addr.add_mid]; exact hsrc j u hj) (one_v8 m) (by unfold maxLen; omega) (by omega) hB
  refine ⟨v', w', hr, ?_, (Below.refl _ _).grown h3 hB (fun k hk => (h.lt k hk).1)⟩
  unfold OwnB
  rw [List.map_append, List.length_append]
  exact h2
theorem Blk.rng {w : World} {g : Nat} {cs : List Value} {t : TypeId} (h : Blk w g cs t) (A M Z : List Value) (e : cs = A ++ (M ++ Z)) : w.rangeAt g A.length M := h.range _ _ fun j v hv => by
  subst e
  have hj := (List.getElem?_eq_some_iff.1 hv).1
  rw [List.getElem?_append_right (by omega), List.getElem?_append_left (by omega)]
  rw [show A.length + j - A.length = j by omega]
  exact hv
theorem rng_hash {w : World} {g : Nat} {a : An} {t : TypeId} (h : Blk w g (acells a) t) : w.rangeAt g 1 (a.hash.map V8) := h.rng [.int .u64 (a.gen : Int)] (a.hash.map V8) (a.ats.map U16) rfl
theorem rng_ats {w : World} {g : Nat} {a : An} {t : TypeId} (h : Blk w g (acells a) t) (ha : a.hash.length = 32) : w.rangeAt g 33 (a.ats.map U16) := by
  have := h.rng (.int .u64 (a.gen : Int) :: a.hash.map V8) (a.ats.map U16) [] (by simp [acells])
  simpa [ha] using this
theorem rng_all {w : World} {g : Nat} {cs : List Value} {t : TypeId} (h : Blk w g cs t) : w.rangeAt g 0 cs := h.range _ _ fun j v hv => by simpa using hv
theorem val_take_one {l : List Nat} {k x : Nat} (h : l[k]? = some x) : l.take (k + 1) = l.take k ++ [x] := by
  obtain ⟨h2, h3⟩ := List.getElem?_eq_some_iff.1 h
  rw [List.take_succ_eq_append_getElem h2, h3]
/-- What Put begins with. -/
def PutW (a : An) (t : TypeId) (w W1 : World) : Prop := Below w.heap.size w W1 ∧ Blk W1 w.heap.size (acells a) t ∧ Blk W1 (w.heap.size + 1) (List.replicate 64 (Value.int .u8 0)) 28 ∧ W1.heap.size = w.heap.size + 2
theorem putw_start (a : An) (t : TypeId) (w : World) (z : Array Value) (hz : z = (List.replicate 64 (Value.int .u8 0)).toArray) : PutW a t w ((w.alloc (.cells (acells a).toArray t)).alloc (.cells z 28)) := by
  subst hz
  exact ⟨((Below.refl _ _).alloc (Nat.le_refl _) _).alloc (by simp) _, (Blk.new _ _ _).alloc _, Blk.new' _ _ _ _ _ (by simp) rfl, by simp⟩
def PuRel (a : An) (w : World) (v i : Value) (wr : World) : Prop :=
  ∃ k : Nat, k ≤ 4 ∧ i = .int .i64 (k : Int) ∧ OwnB wr (w.heap.size + 2) v (leb a.gen 8 ++ a.hash ++ tail (a.ats.take k)) ∧ Below w.heap.size w wr ∧ Blk wr (w.heap.size + 1) (List.replicate 64 (Value.int .u8 0)) 28
set_option maxRecDepth 100000 in
set_option maxHeartbeats 4000000 in
theorem put_any (a : An) (ha : a.OK) (w : World) : Calls Try.prog 8 #[.agg (acells a).toArray] w fun e w' => e = .returned (.agg ((pad a).map V8).toArray) ∧ Below w.heap.size w w' := by
  have HA := Lib.hid ha
  have hgen := ha.gen
  clear ha
  go_enter Try.func8, Try.ntmps8
  go_wp2_with fail
  refine (fun (k : ∀ W1, PutW a 29 w W1 → Code.wp _ _ _ _ W1) => k _ (putw_start a 29 w _ rfl)) ?_
  intro W1 hF
  have HF := Lib.hid hF
  obtain ⟨hb1, hB, hZ, hs1⟩ := hF
  clear hb1 hZ
  have HB := Lib.hid hB
  clear hB
  refine wp_region_sched (.take 0 (.take 1 (.take 3 (.take 4 (.step 2 (.step 5 (.take 6 (.nil)))))))) (by kernel_rfl) (by kernel_rfl) (fun d _ _ _ _ h => by cases d <;> exact h) (fun X => Blk X w.heap.size (acells a) 29) HB.out.drew ?_
  refine wpG_take _ (.pointer (some ⟨w.heap.size, 0, none⟩)) rfl (by rfl) (fun X hX => ex_fa29 0 0 (by omega) rfl rfl) ?_
  (try simp only [Act.put, List.setIfInBounds_toArray, List.set_cons_zero, List.set_cons_succ])
  refine wpG_take _ (.int .u64 (a.gen : Int)) rfl (by rfl) (fun X hX => ex_ld22 rfl rfl (hX.cell rfl)) ?_
  (try simp only [Act.put, List.setIfInBounds_toArray, List.set_cons_zero, List.set_cons_succ])
  refine wpG_take _ (.pointer (some ⟨w.heap.size, 1, none⟩)) rfl (by rfl) (fun X hX => ex_fa29 1 1 (by omega) rfl rfl) ?_
  (try simp only [Act.put, List.setIfInBounds_toArray, List.set_cons_zero, List.set_cons_succ])
  refine wpG_take _ (.slice (some ⟨w.heap.size, 1, none⟩) 32 32) rfl (by rfl) (fun X hX => ex_sl23 rfl rfl) ?_
  (try simp only [Act.put, List.setIfInBounds_toArray, List.set_cons_zero, List.set_cons_succ])
  refine wpG_call _ rfl (by rfl) 23 #[.slice none 0 0, .int .u64 (a.gen : Int)] (fun _ => by go_simp) (fun u w' => OwnB w' W1.heap.size u (leb a.gen 8) ∧ Below W1.heap.size W1 w') ((pu64_any [] none 0 a.gen W1.drew (by simp) hgen (SrcA.nil _ _)).mono fun e w' ⟨e1, e2, e3⟩ => ⟨_, e1, HB.out.drew.below e3 HB.out.lt, by simpa [leb_length] using e2, (Below.refl _ _).drew.trans e3⟩) ?_
  rintro u w2 hs2 ⟨ho2, hb2⟩
  refine ⟨_, fun _ h => h, hs2, ?_⟩
  (try simp only [Act.put, List.setIfInBounds_toArray, List.set_cons_zero, List.set_cons_succ])
  obtain ⟨v3, w3, hr3, ho3, hb3⟩ := ownB_app (m := a.hash) ho2 hb2.size (by rw [leb_length, HA.out.hash]; omega) (g := w.heap.size) (off := 1) (c := 32) (rng_hash hs2) 55
  rw [HA.out.hash] at hr3
  refine wpG_mk _ rfl (by rfl) v3 w3 (ex_app55 rfl rfl rfl hr3) _ (hs2.below hb3 HB.out.lt) (fun _ h => h) ?_
  (try simp only [Act.put, List.setIfInBounds_toArray, List.set_cons_zero, List.set_cons_succ])
  refine wpG_take _ (v3) rfl (by rfl) (fun X hX => by rfl) ?_
  (try simp only [Act.put, List.setIfInBounds_toArray, List.set_cons_zero, List.set_cons_succ])
  refine wpG_nil ?_
  have hs3 := hs2.below hb3 HB.out.lt
  have HS3 := Lib.hid hs3
  have HO3 := Lib.hid ho3
  have HB3 := Lib.hid (hb2.trans hb3)
  clear hs2 ho2 hb2 hr3 ho3 hb3 hs3
  have hats : (a.ats.map U16).length = 4 := by simp [HA.out.len]
  have HATS := Lib.hid hats
  clear hats
  obtain ⟨sp3, n3, c3, rfl⟩ : ∃ sp n c, v3 = .slice sp n c := by
    obtain ⟨sp, c, e, _⟩ := OwnB.form HO3.out
    exact ⟨sp, _, c, e⟩
  go_wp2_with (first | (refine wpL_val rfl (ex_ld (cs := a.ats.map U16) rfl rfl (rng_ats HS3.out HA.out.hash) Try.underlying25 rfl (by rw [size25, HATS.out])) ?_) | fail)
  have HR := Lib.hid (show PuRel a w (.slice sp3 n3 c3) (.int .i64 0) w3 from ⟨0, by omega, rfl, by have := HO3.out; rw [hs1] at this; simpa [tail] using this, HF.out.1.trans (HB3.out.mono HF.out.1.size), HF.out.2.2.1.below HB3.out HF.out.2.2.1.lt⟩)
  clear HS3 HB3 HO3 HF HB
  go_loopw [3, 15] (fun v i wr => PuRel a w v i wr) (fun _ i _ => 4 - (intOf i).toNat)
  case atStart => exact HR.out
  case round =>
    clear HR
    obtain ⟨k, hk, rfl, hO, hB, hZ⟩ := hrel
    have HO := Lib.hid hO
    have HB := Lib.hid hB
    have HZ := Lib.hid hZ
    obtain ⟨sp, cap, e, q1, q2, q3, q4, q5⟩ := OwnB.form hO
    have HS := Lib.hid q3
    have hbs := hB.size
    have hzl := hZ.lt
    have hlen : (leb a.gen 8 ++ a.hash ++ tail (a.ats.take k)).length = 40 + 2 * k := by
      have := HA.out.len
      simp [leb_length, HA.out.hash, tail_length]
      omega
    have HL := Lib.hid hlen
    rw [hlen] at e
    subst e
    clear hO hB hZ q1 q2 q3 q4 q5
    have wk1 := IntWalk.i64_in ((k : Int) + 1) (by omega)
    by_cases hlt : k < 4
    · obtain ⟨x, hx⟩ : ∃ x, a.ats[k]? = some x := ⟨_, List.getElem?_eq_getElem (by have := HA.out.len; omega)⟩
      have hxl : x < 65536 := HA.out.ats x (List.mem_of_getElem? hx)
      have hix : ∀ W : World, (Instr.index 25 (.agg (a.ats.map U16).toArray) (.int .i64 (k : Int))).run Try.prog W = .ok (.int .u16 (x : Int)) W := fun W => run_index_cells 25 24 4 _ k _ W Try.underlying25 Try.underlying24 hlt size24 (by simp [hx, U16])
      have HX := Lib.hid hx
      have hc := pu16_any (leb a.gen 8 ++ a.hash ++ tail (a.ats.take k)) sp cap x wr (by omega) hxl HS.out
      rw [hlen] at hc
      have HC := Lib.hid hc
      clear hx hc hlen
      go_wp2_with fail
      refine HC.out.mono ?_
      rintro e w4 ⟨rfl, ho4, hb4⟩
      have HO4 := Lib.hid ho4
      have HB4 := Lib.hid hb4
      clear ho4 hb4
      go_wp2_with fail
      go_roundw
      case rel =>
        refine ⟨k + 1, by omega, by go_num, ?_, HB.out.trans (HB4.out.mono HB.out.size), HZ.out.below HB4.out HZ.out.lt⟩
        have h1 := HO4.out
        rw [List.append_assoc, ← tail_snoc, ← val_take_one HX.out] at h1
        have h2 : (leb a.gen 8 ++ a.hash ++ tail (a.ats.take (k + 1))).length = 40 + 2 * k + 2 := by
          have := HA.out.len
          simp [leb_length, HA.out.hash, tail_length]
          omega
        rw [h2] at h1
        exact h1.mono (by omega)
      case measure => simp [intOf]; omega
    · obtain rfl : k = 4 := by omega
      clear hlt hk
      have e4 : a.ats.take 4 = a.ats := List.take_of_length_le (by have := HA.out.len; omega)
      rw [e4] at HS hlen HL
      have hbody : leb a.gen 8 ++ a.hash ++ tail a.ats = body a := rfl
      rw [hbody] at HS hlen HL
      have hl48 : (body a).length = 48 := hlen
      rw [show 40 + 2 * 4 = 48 from rfl]
      clear hlen e4 hbody
      obtain ⟨P, hP⟩ : ∃ P, (pad a).map V8 = P := ⟨_, rfl⟩
      have hPl : P.length = 64 := by rw [← hP]; simp [pad_length HA.out]
      have HPA := Lib.hid hP
      have HPL := Lib.hid hPl
      have HONE : Hid (P.toArray.all (·.oneCell') = true) := Lib.hid (by rw [← hP]; exact one_ints V8 (fun _ => rfl) _)
      have HSZ : Hid ((Try.prog.info? 28).map (·.size) = some P.toArray.size) := Lib.hid (by rw [size28]; simp [hPl])
      clear hP hPl
      go_wp2_with (first | (refine wpList_copy_splice rfl (.tmp 22) (.tmp 23) 55 55 rfl 5 Try.underlying55 sizeB (some ⟨wr.heap.size, 0, none⟩) sp 64 64 48 cap rfl rfl wr.heap.size 0 (List.replicate 64 (Value.int .u8 0)) 28 (Blk.new' wr _ _ 28 wr.heap.size rfl rfl) ((body a).map V8) (by simp [hl48]) (fun h0 => src_pos (HS.out.grown ((Below.refl _ _).alloc (Nat.le_refl _) _)) (g := wr.heap.size) h0) (by simp [hl48]) (one_v8 _) wr.heap.size wr ((Below.refl _ _).alloc (Nat.le_refl _) _) (Nat.le_refl _) ?_; intro w5 hg5 hb5; have hg6 : Blk w5 wr.heap.size P 28 := (by have h6 := hg5.out; rw [splice_fill, hl48] at h6; rw [← HPA.out]; exact h6); have HG6 := Lib.hid hg6; have HZ6 := Lib.hid (HZ.out.below hb5 HZ.out.lt); have HB6 := Lib.hid (HB.out.trans (hb5.mono hbs)); clear hg5 hg6 hb5) | (refine wpL_val rfl (ex_ld (ty := 28) (cs := P) rfl rfl (rng_all HG6.out) Try.underlying28 rfl (by rw [size28, HPL.out])) ?_) | (refine wpList_store_row rfl 28 (.tmp 2) (.tmp 25) rfl (w.heap.size + 1) _ rfl rfl 28 _ HZ6.out HSZ.out (by simp [HPL.out]) HONE.out ?_) | fail)
      refine bodyPost_ret (results_cell_row Try.results8 _ _ (w.heap.size + 1) 28 _ _ _ rfl (HZ6.out.row _) Try.underlying28 rfl HSZ.out) rfl ⟨?_, below_row HB6.out (by omega) _⟩
      rw [HPA.out]
end Go.Proofs.Ytchbeaogbjmddaa
