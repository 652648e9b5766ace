/- The document's Take. -/
import Derived.Test.YtchbeaogbjmddaaWk
namespace Go.Proofs.Ytchbeaogbjmddaa
open Go.RowKit

/-- While the document's Take reads. -/
structure TrW (l : Bs) (w : World) (a : An) (wr : World) : Prop where
  bel : Below w.heap.size w wr
  box : Blk wr w.heap.size (l.map V8) 28
  res : Blk wr (w.heap.size + 1) (acells zeroA) 27
  an : Blk wr (w.heap.size + 2) (acells a) 27
theorem TrW.put {l : Bs} {w wr : World} {a a' : An} (h : TrW l w a wr) (j : Nat) (v : Value) (e : (acells a).set j v = acells a') : TrW l w a' (wr.setCell ⟨w.heap.size + 2, j, none⟩ v) := by
  have hb : ButFor (w.heap.size + 2) wr (wr.setCell ⟨w.heap.size + 2, j, none⟩ v) := (ButFor.refl _ _).set _ _
  have h1 := h.an.set j v
  rw [e] at h1
  exact ⟨h.bel.trans (hb.below (by omega) h.bel.size), hb.blk h.box (by omega), hb.blk h.res (by omega), h1⟩
theorem trw_start (l : Bs) (w : World) (z : Array Value) (hz : z = (acells zeroA).toArray) : TrW l w zeroA (((w.alloc (.cells (l.map V8).toArray 28)).alloc (.cells z 27)).alloc (.cells z 27)) := by
  subst hz
  exact ⟨(((Below.refl _ _).alloc (Nat.le_refl _) _).alloc (by simp) _).alloc (by simp; omega) _, ((Blk.new _ _ _).alloc _).alloc _, (Blk.new' _ _ _ _ _ (by simp) rfl).alloc _, Blk.new' _ _ _ _ _ (by simp) rfl⟩
theorem box_cell {l : Bs} {w : World} {g j : Nat} {t : TypeId} (h : Blk w g (l.map V8) t) (hj : j < l.length) : w.cell? ⟨g, j, none⟩ = some (V8 (l.getD j 0)) := h.cell (get_map V8 l j hj 0)
theorem v8_nat (x : BitVec 8) : V8 x = .int .u8 (x.toNat : Int) := rfl
theorem ex_ld5 {ρ : Operand → Value} {o : Oper} {x : Operand} {ad : Addr} {v : Value} {w : World} (ho : o.op = .load 5 x) (hx : ρ x = .pointer (some ad)) (hc : w.cell? ad = some v) : (execOp ρ o).run Try.prog w = .ok (.value v) w := by
  unfold execOp
  simp only [ho]
  go_simp
theorem ex_ix28 {ρ : Operand → Value} {o : Oper} {x y : Operand} {g k : Nat} {w : World} (ho : o.op = .indexAddr 28 x y) (hx : ρ x = .pointer (some ⟨g, 0, none⟩)) (hy : ρ y = .int .i64 (k : Int)) (hk : k < 64) : (execOp ρ o).run Try.prog w = .ok (.value (.pointer (some ⟨g, k, none⟩))) w := by
  have hk' : (k : Int) < 64 := by omega
  unfold execOp
  simp only [ho]
  go_simp
theorem ex_ix25 {ρ : Operand → Value} {o : Oper} {x y : Operand} {g k : Nat} {w : World} (ho : o.op = .indexAddr 25 x y) (hx : ρ x = .pointer (some ⟨g, 33, none⟩)) (hy : ρ y = .int .i64 (k : Int)) (hk : k < 4) : (execOp ρ o).run Try.prog w = .ok (.value (.pointer (some ⟨g, 33 + k, none⟩))) w := by
  have hk' : (k : Int) < 4 := by omega
  unfold execOp
  simp only [ho]
  go_simp
theorem ex_cv64 {ρ : Operand → Value} {o : Oper} {x : Operand} {n : Nat} {w : World} (ho : o.op = .convert 5 22 x) (hx : ρ x = .int .u8 (n : Int)) (hn : n < 256) : (execOp ρ o).run Try.prog w = .ok (.value (.int .u64 (n : Int))) w := by
  have h := u64_in n (by omega)
  unfold execOp
  simp only [ho]
  go_simp
theorem u16_in (n : Nat) (h : n < 65536) : IntKind.u16.wrap (n : Int) = n := by simp only [IntKind.wrap_u16]; omega
theorem ex_cv16 {ρ : Operand → Value} {o : Oper} {x : Operand} {n : Nat} {w : World} (ho : o.op = .convert 5 24 x) (hx : ρ x = .int .u8 (n : Int)) (hn : n < 256) : (execOp ρ o).run Try.prog w = .ok (.value (.int .u16 (n : Int))) w := by
  have h := u16_in n (by omega)
  unfold execOp
  simp only [ho]
  go_simp
theorem ex_mul64 {ρ : Operand → Value} {o : Oper} {x : Operand} {n : Nat} {w : World} (ho : o.op = .binOp .mul 22 x (.const (.int .u64 256)) 22) (hx : ρ x = .int .u64 (n : Int)) (hc : ρ (.const (.int .u64 256)) = .int .u64 256) (hn : n * 256 < 18446744073709551616) : (execOp ρ o).run Try.prog w = .ok (.value (.int .u64 ((n * 256 : Nat) : Int))) w := by
  have h := u64_in (n * 256) hn
  have e : ((n * 256 : Nat) : Int) = (n : Int) * 256 := by simp
  rw [e] at h ⊢
  unfold execOp
  simp only [ho]
  go_simp
theorem ex_add64 {ρ : Operand → Value} {o : Oper} {x y : Operand} {m n : Nat} {w : World} (ho : o.op = .binOp .add 22 x y 22) (hx : ρ x = .int .u64 (m : Int)) (hy : ρ y = .int .u64 (n : Int)) (hn : m + n < 18446744073709551616) : (execOp ρ o).run Try.prog w = .ok (.value (.int .u64 ((m + n : Nat) : Int))) w := by
  have h := u64_in (m + n) hn
  have e : ((m + n : Nat) : Int) = (m : Int) + (n : Int) := by simp
  rw [e] at h ⊢
  unfold execOp
  simp only [ho]
  go_simp
theorem ex_mul16 {ρ : Operand → Value} {o : Oper} {x : Operand} {n : Nat} {w : World} (ho : o.op = .binOp .mul 24 (.const (.int .u16 256)) x 24) (hx : ρ x = .int .u16 (n : Int)) (hc : ρ (.const (.int .u16 256)) = .int .u16 256) (hn : 256 * n < 65536) : (execOp ρ o).run Try.prog w = .ok (.value (.int .u16 ((256 * n : Nat) : Int))) w := by
  have h := u16_in (256 * n) hn
  have e : ((256 * n : Nat) : Int) = 256 * (n : Int) := by simp
  rw [e] at h ⊢
  unfold execOp
  simp only [ho]
  go_simp
theorem ex_add16 {ρ : Operand → Value} {o : Oper} {x y : Operand} {m n : Nat} {w : World} (ho : o.op = .binOp .add 24 x y 24) (hx : ρ x = .int .u16 (m : Int)) (hy : ρ y = .int .u16 (n : Int)) (hn : m + n < 65536) : (execOp ρ o).run Try.prog w = .ok (.value (.int .u16 ((m + n : Nat) : Int))) w := by
  have h := u16_in (m + n) hn
  have e : ((m + n : Nat) : Int) = (m : Int) + (n : Int) := by simp
  rw [e] at h ⊢
  unfold execOp
  simp only [ho]
  go_simp
theorem ex_mul2 {ρ : Operand → Value} {o : Oper} {x : Operand} {n : Nat} {w : World} (ho : o.op = .binOp .mul 3 (.const (.int .i64 2)) x 3) (hx : ρ x = .int .i64 (n : Int)) (hc : ρ (.const (.int .i64 2)) = .int .i64 2) (hn : n < 1000) : (execOp ρ o).run Try.prog w = .ok (.value (.int .i64 ((2 * n : Nat) : Int))) w := by
  have h := IntWalk.i64_in (2 * (n : Int)) (by omega)
  have e : ((2 * n : Nat) : Int) = 2 * (n : Int) := by simp
  rw [e]
  unfold execOp
  simp only [ho]
  go_simp
theorem ex_addc {ρ : Operand → Value} {o : Oper} {x : Operand} {n : Nat} (c : Nat) {w : World} (ho : o.op = .binOp .add 3 (.const (.int .i64 (c : Int))) x 3) (hx : ρ x = .int .i64 (n : Int)) (hc : ρ (.const (.int .i64 (c : Int))) = .int .i64 (c : Int)) (hn : c + n < 1000) : (execOp ρ o).run Try.prog w = .ok (.value (.int .i64 ((c + n : Nat) : Int))) w := by
  have h := IntWalk.i64_in ((c : Int) + (n : Int)) (by omega)
  have e : ((c + n : Nat) : Int) = (c : Int) + (n : Int) := by simp
  rw [e]
  unfold execOp
  simp only [ho]
  go_simp
theorem ex_st22 {ρ : Operand → Value} {o : Oper} {x y : Operand} {b j : Nat} {z : Int} {w : World} (ho : o.op = .store 22 x y) (hx : ρ x = .pointer (some ⟨b, j, none⟩)) (hy : ρ y = .int .u64 z) {u : Value} (hc : w.cell? ⟨b, j, none⟩ = some u) (hf : w.frozen? ⟨b, j, none⟩ = false) :
    (execOp ρ o).run Try.prog w = .ok .skip (w.setCell ⟨b, j, none⟩ (.int .u64 z)) := by
  unfold execOp
  simp only [ho]
  go_simp
theorem ex_st24 {ρ : Operand → Value} {o : Oper} {x y : Operand} {b j : Nat} {z : Int} {w : World} (ho : o.op = .store 24 x y) (hx : ρ x = .pointer (some ⟨b, j, none⟩)) (hy : ρ y = .int .u16 z) {u : Value} (hc : w.cell? ⟨b, j, none⟩ = some u) (hf : w.frozen? ⟨b, j, none⟩ = false) :
    (execOp ρ o).run Try.prog w = .ok .skip (w.setCell ⟨b, j, none⟩ (.int .u16 z)) := by
  unfold execOp
  simp only [ho]
  go_simp
theorem set_gen (n m : Nat) (h : Bs) (t : List Nat) : (acells ⟨n, h, t⟩).set 0 (.int .u64 (m : Int)) = acells ⟨m, h, t⟩ := rfl
/-- So many bytes of the digest read. -/
def hpart (l : Bs) (k : Nat) : Bs := ((l.drop 8).take 32).take k ++ List.replicate (32 - k) 0#8
theorem set_hash (l : Bs) (n k : Nat) (t : List Nat) (hl : l.length = 64) (hk : k < 32) : (acells ⟨n, hpart l k, t⟩).set (1 + k) (V8 (l.getD (8 + k) 0)) = acells ⟨n, hpart l (k + 1), t⟩ := by
  have e : ∀ h : Bs, acells ⟨n, h, t⟩ = [Value.int .u64 (n : Int)] ++ (h.map V8 ++ t.map U16) := fun _ => rfl
  have hhl : (hpart l k).length = 32 := by simp [hpart, hl]; omega
  rw [e, e, List.set_append_right _ _ (by simp), show 1 + k - [Value.int .u64 (n : Int)].length = k by simp, List.set_append_left _ _ (by simp [hhl, hk])]
  congr 2
  have hx : ((l.drop 8).take 32).getD k 0 = l.getD (8 + k) 0 := by simp [List.getD_eq_getElem?_getD, List.getElem?_take, List.getElem?_drop, hk]
  unfold hpart
  rw [← List.map_set, set_next' (((l.drop 8).take 32).take k) (32 - k) (32 - (k + 1)) 0#8 _ k (by simp [hl]; omega) (by omega), val_take_succ _ k (by simp [hl]; omega), hx]
theorem hpart_all (l : Bs) (hl : l.length = 64) : hpart l 32 = (tk l).hash := by
  unfold hpart tk
  rw [List.take_of_length_le (by simp [hl])]
  simp
theorem size27z : (Try.prog.info? 27).map (·.size) = some (acells zeroA).toArray.size := by rw [size27]; rfl
theorem ex_build27z {ρ : Operand → Value} {o : Oper} {w : World} (ho : o.op = .build 27 #[]) : (execOp ρ o).run Try.prog w = .ok (.value (.agg (acells zeroA).toArray)) w := by
  have hr : (Instr.build 27 #[]).run Try.prog w = .ok (.agg (acells zeroA).toArray) w := by kernel_rfl
  unfold execOp
  simp only [ho]
  rw [show (Array.map (fun x : Nat × Operand => (x.1, ρ x.2)) #[]) = #[] by simp]
  simp only [Sem.run_bind, hr, Result.andThen_ok, Sem.run_pure]
theorem val_two (l : Bs) (n : Nat) (hn : n + 1 < l.length) : val ((l.drop n).take 2) = (l.getD n 0).toNat + 256 * (l.getD (n + 1) 0).toNat := by
  have e : (l.drop n).take 2 = [l[n], l[n + 1]] := by
    rw [List.drop_eq_getElem_cons (by omega), List.drop_eq_getElem_cons hn]
    rfl
  rw [e]
  simp [val, List.getD_eq_getElem?_getD, hn, show n < l.length by omega]
theorem l8_lt (l : Bs) (k : Nat) : ((l.getD k 0).toNat : Nat) < 256 := (l.getD k 0).isLt
set_option maxRecDepth 100000 in
set_option maxHeartbeats 8000000 in
theorem rtake_any (l : Bs) (hl : l.length = 64) (w : World) : Calls Try.prog 7 #[.agg (l.map V8).toArray] w fun e w' => e = .returned (.tuple #[.agg (acells (tkA l)).toArray, .int .i64 (tkE l)]) ∧ Below w.heap.size w w' := by
  have HL := Lib.hid hl
  clear hl
  go_enter Try.func7, Try.ntmps7
  go_wp2_with fail
  refine (fun (k : ∀ W1, TrW l w zeroA W1 → Code.wp _ _ _ _ W1) => k _ (trw_start l w _ rfl)) ?_
  intro W1 hF
  have e8 : val ((l.take 8).drop 8) = 0 := by rw [List.drop_of_length_le (by simp; omega)]; rfl
  have HF := Lib.hid (show TrW l w ⟨val ((l.take 8).drop 8), List.replicate 32 0#8, [0, 0, 0, 0]⟩ W1 from by rw [e8]; exact hF)
  clear hF e8
  go_loopw [5] (fun i wr => ∃ k : Nat, k ≤ 8 ∧ i = .int .i64 ((k : Int) - 1) ∧ TrW l w ⟨val ((l.take 8).drop k), List.replicate 32 0#8, [0, 0, 0, 0]⟩ wr) (fun i _ => (intOf i + 1).toNat)
  case atStart => exact ⟨8, by omega, rfl, HF.out⟩
  case round =>
    clear HF
    obtain ⟨k, hk, rfl, hT⟩ := hrel
    have HT := Lib.hid hT
    clear hT
    by_cases h0 : k = 0
    · subst h0
      rw [show (((0 : Nat) : Int) - 1) = -1 from rfl]
      have HT2 := Lib.hid (show TrW l w ⟨(tk l).gen, hpart l 0, [0, 0, 0, 0]⟩ wr from HT.out)
      clear HT hk
      go_wp2_with fail
      go_loopw [6] (fun i wr => ∃ k : Nat, k ≤ 32 ∧ i = .int .i64 (k : Int) ∧ TrW l w ⟨(tk l).gen, hpart l k, [0, 0, 0, 0]⟩ wr) (fun i _ => 32 - (intOf i).toNat)
      case atStart => exact ⟨0, by omega, rfl, HT2.out⟩
      case round =>
        clear HT2
        obtain ⟨k, hk, rfl, hT⟩ := hrel
        have HT := Lib.hid hT
        have wk1 := IntWalk.i64_in ((k : Int) + 1) (by omega)
        have wk8 := IntWalk.i64_in (8 + (k : Int)) (by omega)
        by_cases hlt : k < 32
        · have cx : wr.cell? ⟨w.heap.size, 8 + k, none⟩ = some (V8 (l.getD (8 + k) 0)) := box_cell hT.box (by rw [HL.out]; omega)
          have hal : (acells ⟨(tk l).gen, hpart l k, [0, 0, 0, 0]⟩).length = 37 := by simp [acells, hpart, HL.out]; omega
          obtain ⟨y, hy⟩ := hT.an.has (1 + k) (by rw [hal]; omega)
          have fy := hT.an.free (1 + k)
          have HN := Lib.hid (hT.put (1 + k) (V8 (l.getD (8 + k) 0)) (set_hash l _ k _ HL.out hlt))
          have t8 : (8 + (k : Int)).toNat = 8 + k := by omega
          obtain ⟨x, hx⟩ : ∃ x, l.getD (8 + k) 0 = x := ⟨_, rfl⟩
          rw [hx] at cx HN
          have p8 : 0 ≤ 8 + (k : Int) := by omega
          have q8 : 8 + (k : Int) < 64 := by omega
          clear hT hal hx
          go_wp2_with fail
          go_roundw
          case rel => exact ⟨k + 1, by omega, by go_num, HN.out⟩
          case measure => simp [intOf]; omega
        · have em : (k : Int) = 32 := by omega
          rw [em]
          obtain rfl : k = 32 := by omega
          clear em
          have HT3 := Lib.hid (show TrW l w (part (tk l).gen (tk l).hash (tk l).ats 0) wr from by rw [← hpart_all l HL.out]; exact HT.out)
          clear HT hT hlt hk
          go_wp2_with fail
          go_loopw [7] (fun i wr => ∃ k : Nat, k ≤ 4 ∧ i = .int .i64 (k : Int) ∧ TrW l w (part (tk l).gen (tk l).hash (tk l).ats k) wr) (fun i _ => 4 - (intOf i).toNat)
          case atStart => exact ⟨0, by omega, rfl, HT3.out⟩
          case round =>
            clear HT3
            obtain ⟨k, hk, rfl, hT⟩ := hrel
            have HT := Lib.hid hT
            have wk1 := IntWalk.i64_in ((k : Int) + 1) (by omega)
            by_cases hlt : k < 4
            · have hx := ats_at l k hlt
              rw [val_two l (40 + 2 * k) (by rw [HL.out]; omega)] at hx
              have x0l := l8_lt l (40 + 2 * k)
              have x1l := l8_lt l (40 + 2 * k + 1)
              have hc0 : ∀ X : World, Blk X w.heap.size (l.map V8) 28 → X.cell? ⟨w.heap.size, 40 + 2 * k, none⟩ = some (.int .u8 ((l.getD (40 + 2 * k) 0).toNat : Int)) := fun X hX => box_cell hX (by rw [HL.out]; omega)
              have hc1 : ∀ X : World, Blk X w.heap.size (l.map V8) 28 → X.cell? ⟨w.heap.size, 41 + 2 * k, none⟩ = some (.int .u8 ((l.getD (40 + 2 * k + 1) 0).toNat : Int)) := fun X hX => by rw [show 41 + 2 * k = 40 + 2 * k + 1 by omega]; exact box_cell hX (by rw [HL.out]; omega)
              obtain ⟨x0, hx0⟩ : ∃ x, (l.getD (40 + 2 * k) 0).toNat = x := ⟨_, rfl⟩
              obtain ⟨x1, hx1⟩ : ∃ x, (l.getD (40 + 2 * k + 1) 0).toNat = x := ⟨_, rfl⟩
              rw [hx0] at hx hc0 x0l
              rw [hx1] at hx hc1 x1l
              have HC0 := Lib.hid hc0
              have HC1 := Lib.hid hc1
              have hhl : (tk l).hash.length = 32 := (tk_ok HL.out).hash
              have hset := part_set (tk l).gen (tk l).hash (tk l).ats k _ hhl hlt hx
              have hal : (acells (part (tk l).gen (tk l).hash (tk l).ats k)).length = 37 := by
                simp only [acells, part, List.length_cons, List.length_append, List.length_map, List.length_take, List.length_replicate]
                rw [hhl, (tk_ok HL.out).len]
                omega
              obtain ⟨y, hy⟩ := hT.an.has (33 + k) (by rw [hal]; omega)
              have fy := hT.an.free (33 + k)
              have hT2 : TrW l w (part (tk l).gen (tk l).hash (tk l).ats (k + 1)) (wr.drew.setCell ⟨w.heap.size + 2, 33 + k, none⟩ (.int .u16 ((x0 + 256 * x1 : Nat) : Int))) := TrW.put (wr := wr.drew) ⟨HT.out.bel.drew, HT.out.box, HT.out.res, HT.out.an⟩ (33 + k) _ hset
              have HT2 := Lib.hid hT2
              have HY := Lib.hid hy
              have HFY := Lib.hid fy
              have hb2 := hT2.box
              have HB2 := Lib.hid hb2
              clear hx0 hx1 hc0 hc1 hx hset hal hy fy hT hT2 hb2 hhl
              go_wp2_with fail
              refine wp_region_sched (.take 0 (.take 1 (.take 2 (.take 3 (.take 4 (.take 5 (.take 6 (.take 7 (.take 8 (.take 9 (.take 10 (.take 11 (.take 12 (.take 13 (.take 14 (.take 15 (.take 16 (.step 17 (.nil))))))))))))))))))) (by kernel_rfl) (by kernel_rfl) (fun d _ _ _ _ h => by cases d <;> exact h) (fun X => Blk X w.heap.size (l.map V8) 28) HT.out.box.drew ?_
              refine wpG_take _ (.int .i64 (k : Int)) rfl (by rfl) (fun X hX => by first | rfl | go_simp) ?_
              (try simp only [Act.put, List.setIfInBounds_toArray, List.set_cons_zero, List.set_cons_succ])
              refine wpG_take _ (.int .i64 (k : Int)) rfl (by rfl) (fun X hX => by first | rfl | go_simp) ?_
              (try simp only [Act.put, List.setIfInBounds_toArray, List.set_cons_zero, List.set_cons_succ])
              refine wpG_take _ (.int .i64 ((2 * k : Nat) : Int)) rfl (by rfl) (fun X hX => ex_mul2 rfl rfl rfl (by omega)) ?_
              (try simp only [Act.put, List.setIfInBounds_toArray, List.set_cons_zero, List.set_cons_succ])
              refine wpG_take _ (.int .i64 ((40 + 2 * k : Nat) : Int)) rfl (by rfl) (fun X hX => ex_addc 40 rfl rfl rfl (by omega)) ?_
              (try simp only [Act.put, List.setIfInBounds_toArray, List.set_cons_zero, List.set_cons_succ])
              refine wpG_take _ (.pointer (some ⟨w.heap.size, 40 + 2 * k, none⟩)) rfl (by rfl) (fun X hX => ex_ix28 rfl rfl rfl (by omega)) ?_
              (try simp only [Act.put, List.setIfInBounds_toArray, List.set_cons_zero, List.set_cons_succ])
              refine wpG_take _ (.int .u8 (x0 : Int)) rfl (by rfl) (fun X hX => ex_ld5 rfl rfl (HC0.out X hX)) ?_
              (try simp only [Act.put, List.setIfInBounds_toArray, List.set_cons_zero, List.set_cons_succ])
              refine wpG_take _ (.int .u16 (x0 : Int)) rfl (by rfl) (fun X hX => ex_cv16 rfl rfl x0l) ?_
              (try simp only [Act.put, List.setIfInBounds_toArray, List.set_cons_zero, List.set_cons_succ])
              refine wpG_take _ (.int .i64 (k : Int)) rfl (by rfl) (fun X hX => by first | rfl | go_simp) ?_
              (try simp only [Act.put, List.setIfInBounds_toArray, List.set_cons_zero, List.set_cons_succ])
              refine wpG_take _ (.int .i64 ((2 * k : Nat) : Int)) rfl (by rfl) (fun X hX => ex_mul2 rfl rfl rfl (by omega)) ?_
              (try simp only [Act.put, List.setIfInBounds_toArray, List.set_cons_zero, List.set_cons_succ])
              refine wpG_take _ (.int .i64 ((41 + 2 * k : Nat) : Int)) rfl (by rfl) (fun X hX => ex_addc 41 rfl rfl rfl (by omega)) ?_
              (try simp only [Act.put, List.setIfInBounds_toArray, List.set_cons_zero, List.set_cons_succ])
              refine wpG_take _ (.pointer (some ⟨w.heap.size, 41 + 2 * k, none⟩)) rfl (by rfl) (fun X hX => ex_ix28 rfl rfl rfl (by omega)) ?_
              (try simp only [Act.put, List.setIfInBounds_toArray, List.set_cons_zero, List.set_cons_succ])
              refine wpG_take _ (.int .u8 (x1 : Int)) rfl (by rfl) (fun X hX => ex_ld5 rfl rfl (HC1.out X hX)) ?_
              (try simp only [Act.put, List.setIfInBounds_toArray, List.set_cons_zero, List.set_cons_succ])
              refine wpG_take _ (.int .u16 (x1 : Int)) rfl (by rfl) (fun X hX => ex_cv16 rfl rfl x1l) ?_
              (try simp only [Act.put, List.setIfInBounds_toArray, List.set_cons_zero, List.set_cons_succ])
              refine wpG_take _ (.int .u16 ((256 * x1 : Nat) : Int)) rfl (by rfl) (fun X hX => ex_mul16 rfl rfl rfl (by omega)) ?_
              (try simp only [Act.put, List.setIfInBounds_toArray, List.set_cons_zero, List.set_cons_succ])
              refine wpG_take _ (.int .u16 ((x0 + 256 * x1 : Nat) : Int)) rfl (by rfl) (fun X hX => ex_add16 rfl rfl rfl (by omega)) ?_
              (try simp only [Act.put, List.setIfInBounds_toArray, List.set_cons_zero, List.set_cons_succ])
              refine wpG_take _ (.pointer (some ⟨w.heap.size + 2, 33, none⟩)) rfl (by rfl) (fun X hX => ex_fa27 2 33 (by omega) rfl rfl) ?_
              (try simp only [Act.put, List.setIfInBounds_toArray, List.set_cons_zero, List.set_cons_succ])
              refine wpG_take _ (.pointer (some ⟨w.heap.size + 2, 33 + k, none⟩)) rfl (by rfl) (fun X hX => ex_ix25 rfl rfl rfl hlt) ?_
              (try simp only [Act.put, List.setIfInBounds_toArray, List.set_cons_zero, List.set_cons_succ])
              refine wpG_st _ rfl (by rfl) _ (ex_st24 rfl rfl rfl HY.out HFY.out) _ HB2.out HB2.out (fun _ h => h) ?_
              (try simp only [Act.put, List.setIfInBounds_toArray, List.set_cons_zero, List.set_cons_succ])
              refine wpG_nil ?_
              clear HT HY HFY
              go_wp2_with fail
              go_roundw
              case rel => exact ⟨k + 1, by omega, by go_num, HT2.out⟩
              case measure => simp [intOf]; omega
            · have em : (k : Int) = 4 := by omega
              rw [em]
              obtain rfl : k = 4 := by omega
              have HT4 := Lib.hid (show TrW l w (tk l) wr from hT)
              clear em HT hT hlt hk
              go_wp2_with fail
              go_loopw [8] (fun i wr => ∃ k : Nat, k ≤ 16 ∧ i = .int .i64 ((48 + k : Nat) : Int) ∧ ((l.drop 48).take k).all (· == 0#8) = true ∧ TrW l w (tk l) wr) (fun i _ => 64 - (intOf i).toNat)
              case atStart => exact ⟨0, by omega, rfl, rfl, HT4.out⟩
              case round =>
                clear HT4
                obtain ⟨k, hk, rfl, hall, hT⟩ := hrel
                have HT := Lib.hid hT
                have HALL := Lib.hid hall
                have HOK := Lib.hid (tk_ok HL.out)
                have HRES := Lib.hid hT.res
                have HBEL := Lib.hid hT.bel
                have HAN : Hid (Blk wr (w.heap.size + 1 + 1) (acells (tk l)) 27) := Lib.hid hT.an
                have HLT : Hid ((acells (tk l)).length = 37) := Lib.hid (acells_length (tk_ok HL.out))
                have HSZ : Hid ((Try.prog.info? 27).map (·.size) = some (acells (tk l)).toArray.size) := Lib.hid (by rw [size27]; simp [acells_length (tk_ok HL.out)])
                have HLZ : Hid ((acells zeroA).length = 37) := Lib.hid rfl
                have hd : (l.drop 48).length = 16 := by simp [HL.out]
                have HD := Lib.hid hd
                have wk1 := IntWalk.i64_in (((48 + k : Nat) : Int) + 1) (by omega)
                have hgx : ∀ i, (l.drop 48).getD i 0 = l.getD (48 + i) 0 := fun i => by simp [List.getD_eq_getElem?_getD]
                have HGX := Lib.hid hgx
                obtain ⟨p, hp⟩ : ∃ p, 48 + k = p := ⟨_, rfl⟩
                rw [hp] at wk1 ⊢
                have HP := Lib.hid hp
                by_cases hlt : p < 64
                · have cx : wr.cell? ⟨w.heap.size, p, none⟩ = some (V8 (l.getD p 0)) := box_cell hT.box (by rw [HL.out]; exact hlt)
                  obtain ⟨x, hx⟩ : ∃ x, l.getD p 0 = x := ⟨_, rfl⟩
                  rw [hx] at cx
                  have HX := Lib.hid hx
                  by_cases h0 : x = 0#8
                  · subst h0
                    have cx0 : wr.cell? ⟨w.heap.size, p, none⟩ = some (.int .u8 0) := cx
                    clear hT hall hd hx hgx hp cx
                    go_wp2_with fail
                    go_roundw
                    case rel => exact ⟨k + 1, by have := HP.out; omega, by have := HP.out; go_num, all_take _ k (by rw [HD.out]; have := HP.out; omega) HALL.out (by rw [HGX.out, HP.out]; exact HX.out), HT.out⟩
                    case measure => simp [intOf]; omega
                  · have hne : ((x.toNat : Int) != 0) = true := by
                      rw [bne_iff_ne]
                      intro e
                      exact h0 (BitVec.eq_of_toNat_eq (by simp; omega))
                    have hne2 : ((x.toNat : Int) == 0) = false := by
                      rw [beq_eq_false_iff_ne]
                      intro e
                      exact h0 (BitVec.eq_of_toNat_eq (by simp; omega))
                    have cx0 : wr.cell? ⟨w.heap.size, p, none⟩ = some (.int .u8 (x.toNat : Int)) := cx
                    have hq : quiet l = false := all_no _ k (by rw [hd]; omega) (by rw [hgx, hp, hx]; exact h0)
                    have hE : tkE l = 5 := by unfold tkE; rw [hq]; rfl
                    have hA : tkA l = zeroA := by unfold tkA; rw [hq]; rfl
                    have HE := Lib.hid hE
                    have HAq := Lib.hid hA
                    generalize x.toNat = xn at hne hne2 cx0
                    clear hT hall hd hx hgx hp cx h0 hq hE hA HX HALL
                    go_wp2_with (first | (refine wpL_valG (by rfl) (ex_build27z rfl) ?_) | (refine wpList_store_row rfl 27 (.tmp 2) (.tmp 62) rfl (w.heap.size + 1) (acells zeroA).toArray rfl rfl 27 _ HRES.out size27z rfl (one29 _) ?_) | fail)
                    refine bodyPost_ret (results_two Try.results7 _ _ (w.heap.size + 1) 27 (acells zeroA) rfl (HRES.out.row _) Try.underlying27 (by rw [size27, HLZ.out])) rfl ⟨?_, below_row HBEL.out (by omega) _⟩
                    rw [HE.out, HAq.out]
                    rfl
                · have em : (p : Int) = 64 := by omega
                  have hk16 : k = 16 := by omega
                  have hq : quiet l = true := by
                    have := hall
                    rw [hk16, List.take_of_length_le (by rw [hd]; omega)] at this
                    exact this
                  have hE : tkE l = 0 := by unfold tkE; rw [hq]; rfl
                  have hA : tkA l = tk l := by unfold tkA; rw [hq]; rfl
                  have HE := Lib.hid hE
                  have HAq := Lib.hid hA
                  rw [em]
                  clear hT hall hd hgx hp hq hE hA HALL em hk16 hlt
                  go_wp2_with (first | (refine wpL_val rfl (ex_ld (ty := 27) (cs := acells (tk l)) rfl rfl (rng_all HAN.out) Try.underlying27 rfl (by rw [size27, HLT.out])) ?_) | (refine wpList_store_row rfl 27 (.tmp 2) (.tmp 63) rfl (w.heap.size + 1) (acells (tk l)).toArray rfl rfl 27 _ HRES.out HSZ.out (by simp [HLZ.out, HLT.out]) (one29 _) ?_) | fail)
                  refine bodyPost_ret (results_two Try.results7 _ _ (w.heap.size + 1) 27 (acells (tk l)) rfl (HRES.out.row _) Try.underlying27 (by rw [size27, HLT.out])) rfl ⟨?_, below_row HBEL.out (by omega) _⟩
                  rw [HE.out, HAq.out]
                  rfl
    · obtain ⟨j, rfl⟩ : ∃ j, k = j + 1 := ⟨k - 1, by omega⟩
      have wj1 := IntWalk.i64_in ((j : Int) - 1) (by omega)
      have ej : (((j + 1 : Nat) : Int) - 1) = (j : Int) := by omega
      rw [ej]
      have hjl : j < (l.take 8).length := by simp [HL.out]; omega
      have hval := val_drop (l.take 8) j hjl
      have hgd : (l.take 8).getD j 0 = l.getD j 0 := by simp [List.getD_eq_getElem?_getD, List.getElem?_take, show j < 8 by omega]
      rw [hgd] at hval
      have hm := val_lt ((l.take 8).drop (j + 1))
      have hm2 : (2 : Nat) ^ (8 * ((l.take 8).drop (j + 1)).length) ≤ 2 ^ 56 := Nat.pow_le_pow_right (by omega) (by simp [HL.out]; omega)
      obtain ⟨m, hmm⟩ : ∃ m, val ((l.take 8).drop (j + 1)) = m := ⟨_, rfl⟩
      obtain ⟨x, hx⟩ : ∃ x, (l.getD j 0).toNat = x := ⟨_, rfl⟩
      have hxl : x < 256 := by rw [← hx]; exact l8_lt l j
      rw [hmm] at HT hval hm
      rw [hx] at hval
      have hm7 : m < 72057594037927936 := by omega
      have hcx : ∀ X : World, Blk X w.heap.size (l.map V8) 28 → X.cell? ⟨w.heap.size, j, none⟩ = some (.int .u8 (x : Int)) := fun X hX => by rw [← hx]; exact box_cell hX (by rw [HL.out]; omega)
      have HCX := Lib.hid hcx
      have HVAL := Lib.hid hval
      clear hm hm2 hmm hx hcx hval hgd
      go_wp2_with fail
      refine wp_region_sched (.take 0 (.take 3 (.take 4 (.take 5 (.take 6 (.step 1 (.take 2 (.take 7 (.take 8 (.step 9 (.nil))))))))))) (by kernel_rfl) (by kernel_rfl) (fun d _ _ _ _ h => by cases d <;> exact h) (fun X => Blk X w.heap.size (l.map V8) 28) HT.out.box.drew ?_
      refine wpG_take _ (.pointer (some ⟨w.heap.size + 2, 0, none⟩)) rfl (by rfl) (fun X hX => ex_fa27 0 0 (by omega) rfl rfl) ?_
      (try simp only [Act.put, List.setIfInBounds_toArray, List.set_cons_zero, List.set_cons_succ])
      refine wpG_take _ (.int .i64 (j : Int)) rfl (by rfl) (fun X hX => by first | rfl | go_simp) ?_
      (try simp only [Act.put, List.setIfInBounds_toArray, List.set_cons_zero, List.set_cons_succ])
      refine wpG_take _ (.pointer (some ⟨w.heap.size, j, none⟩)) rfl (by rfl) (fun X hX => ex_ix28 rfl rfl rfl (by omega)) ?_
      (try simp only [Act.put, List.setIfInBounds_toArray, List.set_cons_zero, List.set_cons_succ])
      refine wpG_take _ (.int .u8 (x : Int)) rfl (by rfl) (fun X hX => ex_ld5 rfl rfl (HCX.out X hX)) ?_
      (try simp only [Act.put, List.setIfInBounds_toArray, List.set_cons_zero, List.set_cons_succ])
      refine wpG_take _ (.int .u64 (x : Int)) rfl (by rfl) (fun X hX => ex_cv64 rfl rfl hxl) ?_
      (try simp only [Act.put, List.setIfInBounds_toArray, List.set_cons_zero, List.set_cons_succ])
      refine wpG_mk _ rfl (by rfl) (.int .u64 (m : Int)) wr.drew (ex_ld22 rfl rfl (HT.out.an.drew.cell rfl)) _ HT.out.box.drew (fun _ h => h) ?_
      (try simp only [Act.put, List.setIfInBounds_toArray, List.set_cons_zero, List.set_cons_succ])
      refine wpG_take _ (.int .u64 ((m * 256 : Nat) : Int)) rfl (by rfl) (fun X hX => ex_mul64 rfl rfl rfl (by omega)) ?_
      (try simp only [Act.put, List.setIfInBounds_toArray, List.set_cons_zero, List.set_cons_succ])
      refine wpG_take _ (.int .u64 ((m * 256 + x : Nat) : Int)) rfl (by rfl) (fun X hX => ex_add64 rfl rfl rfl (by omega)) ?_
      (try simp only [Act.put, List.setIfInBounds_toArray, List.set_cons_zero, List.set_cons_succ])
      refine wpG_take _ (.pointer (some ⟨w.heap.size + 2, 0, none⟩)) rfl (by rfl) (fun X hX => ex_fa27 0 0 (by omega) rfl rfl) ?_
      (try simp only [Act.put, List.setIfInBounds_toArray, List.set_cons_zero, List.set_cons_succ])
      have hT2 : TrW l w ⟨m * 256 + x, List.replicate 32 0#8, [0, 0, 0, 0]⟩ (wr.drew.setCell ⟨w.heap.size + 2, 0, none⟩ (.int .u64 ((m * 256 + x : Nat) : Int))) := TrW.put (wr := wr.drew) ⟨HT.out.bel.drew, HT.out.box, HT.out.res, HT.out.an⟩ 0 _ (set_gen _ _ _ _)
      have HT2 := Lib.hid hT2
      refine wpG_st _ rfl (by rfl) _ (ex_st22 rfl rfl rfl (HT.out.an.drew.cell rfl) (HT.out.an.drew.free 0)) _ hT2.box hT2.box (fun _ h => h) ?_
      (try simp only [Act.put, List.setIfInBounds_toArray, List.set_cons_zero, List.set_cons_succ])
      refine wpG_nil ?_
      clear hT2 HT
      go_wp2_with fail
      go_roundw
      case rel => exact ⟨j, by omega, rfl, by rw [HVAL.out]; exact HT2.out⟩
      case measure => simp [intOf]
end Go.Proofs.Ytchbeaogbjmddaa
