/- New. -/
import Derived.Test.YtmgagalhpkieoaaGreatDoorM21
import Derived.Test.YtmgagalhpkieoaaGreatDoorM01
import Derived.Laws.MakeOwn
import Derived.Deep.Light
import Derived.Laws.AppendOwnNone
import Derived.Maps.AppendAt
import Derived.Deep.RegionLaw
import Derived.Deep.DeepCutAuto
import Derived.Deep.CutBlock
namespace Go.Proofs.YtmgagalhpkieoaaGreatDoor
open Go.RowKit

def freshS (a b : Nat) : Sp := fun d => List.replicate (if d = 0 then a else b) ⟨0, false⟩
theorem infoAx : (Tryz.prog.info? 150).map (fun i => (i.zero, i.size, i.bytes)) = some (some (.agg #[.int .u8 0, .bool false]), 2, 2) := by kernel_rfl
theorem made_ax (n : Nat) : madeCells #[Value.int .u8 0, .bool false] (n * 2) = (acells (List.replicate n ⟨0, false⟩)).toArray := by
  apply Array.ext
  · rw [size_madeCells, List.size_toArray, acells_length, List.length_replicate]
  · intro i h1 h2
    rw [size_madeCells] at h1
    have e : (acells (List.replicate n ⟨0, false⟩)).toArray[i] = (acells (List.replicate n ⟨0, false⟩))[i]'(by simpa using h2) := by simp
    rw [e]
    have hq : (List.replicate n (⟨0, false⟩ : Ax))[i / 2]? = some ⟨0, false⟩ := by rw [List.getElem?_replicate, if_pos (by omega)]
    obtain ⟨g1, g2⟩ := acells_get _ _ _ hq
    have hi : i < (acells (List.replicate n ⟨0, false⟩)).length := by simpa using h2
    rcases Nat.mod_two_eq_zero_or_one i with h | h
    · have ei : i / 2 * 2 = i := by omega
      rw [ei, List.getElem?_eq_getElem hi] at g1
      rw [Option.some.inj g1]
      simp [madeCells, h]
    · have ei : i / 2 * 2 + 1 = i := by omega
      rw [ei, List.getElem?_eq_getElem hi] at g2
      rw [Option.some.inj g2]
      simp [madeCells, h]
section
variable {ρ : Operand → Value} {o : Oper} {x y : Operand} {w : World}
theorem exk_make {n : Nat} (ho : o.op = .makeSlice 160 x x) (hx : ρ x = .int .i64 (n : Int)) (hn : n ≤ 5000) : (execOp ρ o).run Tryz.prog w = .ok (.value (slv w.heap.size n)) (w.alloc (.cells (acells (List.replicate n ⟨0, false⟩)).toArray 150)) := by
  obtain ⟨i, hi, h⟩ := Option.map_eq_some_iff.1 infoAx
  simp only [Prod.mk.injEq] at h
  have hr := run_make (P := Tryz.prog) w 160 150 i _ Tryz.underlying160 hi h.1 .i64 .i64 (n : Int) (n : Int) (by omega) (by omega) (by rw [h.2.2]; omega) (by omega)
  rw [Int.toNat_natCast, h.2.1] at hr
  rw [show (Value.agg #[.int .u8 0, .bool false]).cells = #[.int .u8 0, .bool false] from rfl, made_ax] at hr
  unfold execOp
  simp only [ho, hx, Sem.run_bind, hr, Result.andThen_ok, Sem.run_pure]
  rfl
theorem exk_sub {k : TypeId} {a n : Int} (ho : o.op = .binOp .sub 3 x y k) (hx : ρ x = .int .i64 a) (hy : ρ y = .int .i64 1) (h : IntKind.i64.wrap (a - 1) = n) : (execOp ρ o).run Tryz.prog w = .ok (.value (.int .i64 n)) w := by
  unfold execOp
  simp only [ho]
  go_simp
theorem exk_nc {b j : Nat} (ho : o.op = .nilCheck x) (hx : ρ x = .pointer (some ⟨b, j, none⟩)) : (execOp ρ o).run Tryz.prog w = .ok (.value (.pointer (some ⟨b, j, none⟩))) w := by
  unfold execOp
  simp only [ho]
  go_simp
theorem exk_fa {b : Nat} (ho : o.op = .fieldAddr 163 x 0) (hx : ρ x = .pointer (some ⟨b, 0, none⟩)) : (execOp ρ o).run Tryz.prog w = .ok (.value (.pointer (some ⟨b, 0, none⟩))) w := by
  unfold execOp
  simp only [ho]
  go_simp
theorem exk_ia {b k : Nat} (hk : k < 2) (ho : o.op = .indexAddr 161 x y) (hx : ρ x = .pointer (some ⟨b, 0, none⟩)) (hy : ρ y = .int .i64 (k : Int)) : (execOp ρ o).run Tryz.prog w = .ok (.value (.pointer (some ⟨b, k, none⟩))) w := by
  have hk2 : ¬ 2 ≤ (k : Int) := by omega
  unfold execOp
  simp only [ho]
  go_simp
theorem exk_st {b k : Nat} {u : Value} {sp : Option Addr} {n c : Nat} (ho : o.op = .store 160 x y) (hx : ρ x = .pointer (some ⟨b, k, none⟩)) (hy : ρ y = .slice sp n c) (hc : w.cell? ⟨b, k, none⟩ = some u) (hf : w.frozen? ⟨b, k, none⟩ = false) : (execOp ρ o).run Tryz.prog w = .ok .skip (w.setCell ⟨b, k, none⟩ (.slice sp n c)) := by
  unfold execOp
  simp only [ho]
  go_simp
variable {ops : Array Oper} {Q : Exit → Act → World → Prop} {S : World → Prop}
/-- An operation that turns memory; what is known of its world, told anew. -/
theorem wpK_mk {i : Nat} {r : Tr} {a : Act} {w : World} (o : Oper) (hi : ops.toList[i]? = some o) (hw : Region.wanted o (yielded ops a.tmps) = true) (v : Value) (w1 : World) (hrun : (execOp a.eval o).run Tryz.prog w = .ok (.value v) w1)
    (S' : World → Prop) (hS : S' w1) (hSS : ∀ w, S' w → S w) (h : wpG Tryz.prog ops Q r S' (a.put o.dst v) w1) : wpG Tryz.prog ops Q (.step i r) S a w := by
  show wpOp Tryz.prog ops Q i _ a w
  unfold wpOp
  simp only [of_list hi]
  rw [if_pos hw]
  refine .inl ?_
  unfold Oper.wp
  rw [hrun]
  exact ⟨hSS _ hS, S', hSS, hS, h⟩
/-- A store. -/
theorem wpK_st {i : Nat} {r : Tr} {a : Act} {w : World} (o : Oper) (hi : ops.toList[i]? = some o) (hw : Region.wanted o (yielded ops a.tmps) = true) (w1 : World) (hrun : (execOp a.eval o).run Tryz.prog w = .ok .skip w1)
    (S' : World → Prop) (hS : S' w1) (hS2 : ∀ w, S' w → S w) (h : wpG Tryz.prog ops Q r S' (a.put o.dst undef) w1) : wpG Tryz.prog ops Q (.step i r) S a w := by
  show wpOp Tryz.prog ops Q i _ a w
  unfold wpOp
  simp only [of_list hi]
  rw [if_pos hw]
  refine .inl ?_
  unfold Oper.wp
  rw [hrun]
  exact ⟨hS2 _ hS, S', hS2, hS, h⟩
end
def okN (a : Int) : Prop := 1 ≤ a ∧ a ≤ 4096
/-- What New answers. -/
structure NewPost (a b : Int) (w : World) (e : Ending) (w' : World) : Prop where
  bel : Below w.heap.size w w'
  no : ¬ (okN a ∧ okN b) → e = .returned (.tuple #[.pointer none, .int .i64 1])
  yes : okN a ∧ okN b → ∃ B, e = .returned (.tuple #[.pointer (some ⟨w.heap.size, 0, none⟩), .int .i64 0]) ∧ SpAt w' w.heap.size B (freshS (a - 1).toNat (b - 1).toNat) ∧ ∀ k, Of B k → w.heap.size ≤ k
/-- What the loop of New keeps. -/
def New0 (w w' : World) : Prop := Blk w' w.heap.size [.slice none 0 0, .slice none 0 0] 163 ∧ Below w.heap.size w w'
def New1 (w w' : World) (n B0 : Nat) : Prop := Blk w' w.heap.size [slv B0 n, .slice none 0 0] 163 ∧ Blk w' B0 (acells (List.replicate n ⟨0, false⟩)) 150 ∧ w.heap.size < B0 ∧ Below w.heap.size w w'
def New2 (w w' : World) (n m B0 B1 : Nat) : Prop := Blk w' w.heap.size [slv B0 n, slv B1 m] 163 ∧ Blk w' B0 (acells (List.replicate n ⟨0, false⟩)) 150 ∧ Blk w' B1 (acells (List.replicate m ⟨0, false⟩)) 150 ∧ w.heap.size < B0 ∧ B0 < B1 ∧ Below w.heap.size w w'
def NewAt (a b : Int) (w : World) (k : Nat) (w' : World) : Prop :=
  (k = 0 ∧ New0 w w') ∨ (k = 1 ∧ okN a ∧ ∃ B0, New1 w w' (a - 1).toNat B0) ∨ (k = 2 ∧ okN a ∧ okN b ∧ ∃ B0 B1, New2 w w' (a - 1).toNat (b - 1).toNat B0 B1)
theorem New2.sp {w w' : World} {n m B0 B1 : Nat} (h : New2 w w' n m B0 B1) (hn : n ≤ 4095) (hm : m ≤ 4095) : ∃ B : Nat → Nat, SpAt w' w.heap.size B (freshS n m) ∧ ∀ k, Of B k → w.heap.size ≤ k := by
  obtain ⟨h1, h2, h3, h4, h5, _⟩ := h
  refine ⟨fun d => if d = 0 then B0 else B1, ⟨?_, ?_, ?_, ?_⟩, ?_⟩
  · simpa [freshS] using h1
  · intro d hd
    obtain rfl | rfl : d = 0 ∨ d = 1 := by omega
    · simpa [freshS] using h2
    · simpa [freshS] using h3
  · simp; omega
  · intro d hd
    obtain rfl | rfl : d = 0 ∨ d = 1 := by omega
    · simpa [freshS] using hn
    · simpa [freshS] using hm
  · intro k hk
    rcases hk with hk | hk <;> simp at hk <;> omega
set_option maxRecDepth 100000 in
set_option maxHeartbeats 4000000 in
theorem k_new_any (a b : Int) (w : World) : Calls Tryz.prog 39 #[.int .i64 a, .int .i64 b] w (NewPost a b w) := by
  have H0 : Hid (NewAt a b w 0 (w.alloc (.cells #[.slice none 0 0, .slice none 0 0] 163))) := Lib.hid (.inl ⟨rfl, Blk.new w [.slice none 0 0, .slice none 0 0] 163, (Below.refl _ _).alloc (Nat.le_refl _) _⟩)
  have i0 : ∀ w, (Instr.index 42 (.agg #[.int .i64 a, .int .i64 b]) (.int .i64 0)).run Tryz.prog w = .ok (.int .i64 a) w := fun _ => by kernel_rfl
  have i1 : ∀ w, (Instr.index 42 (.agg #[.int .i64 a, .int .i64 b]) (.int .i64 1)).run Tryz.prog w = .ok (.int .i64 b) w := fun _ => by kernel_rfl
  go_enter Tryz.func39, Tryz.ntmps39
  go_wp2_with fail
  obtain ⟨D, hD⟩ : ∃ D, w.heap.size = D := ⟨_, rfl⟩
  have HD := Lib.hid hD
  rw [hD]
  clear hD
  go_loopw [14] (fun i wr => ∃ k : Nat, i = .int .i64 (k : Int) ∧ NewAt a b w k wr) (fun i _ => 2 - (intOf i).toNat)
  case atStart => exact ⟨0, rfl, H0.out⟩
  case round =>
    clear H0
    obtain ⟨k, rfl, hk⟩ := hrel
    rcases hk with ⟨rfl, hN⟩ | ⟨rfl, ha, B0, hN⟩ | ⟨rfl, ha, hb, B0, B1, hN⟩
    · rw [show ((0 : Nat) : Int) = (0 : Int) from rfl]
      have HN := Lib.hid hN
      clear hN
      by_cases ha : okN a
      · skip
        obtain ⟨n, hn⟩ : ∃ n : Nat, a = (n : Int) + 1 := ⟨(a - 1).toNat, by have := ha.1; omega⟩
        have hn2 : n ≤ 4095 := by have := ha.2; omega
        have HX := Lib.hid ha
        subst hn
        have h1 : ¬ ((n : Int) + 1) < 1 := by omega
        have h2 : ¬ 4096 < ((n : Int) + 1) := by omega
        have WK : Hid (IntKind.i64.wrap ((n : Int) + 1 - 1) = (n : Int)) := Lib.hid (by rw [IntWalk.i64_in _ (by omega)]; omega)
        clear ha
        have hlt := HN.out.1.lt
        go_wp2_with fail
        have HBK : Hid (Blk (wr.drew.alloc (.cells (acells (List.replicate n ⟨0, false⟩)).toArray 150)) D [.slice none 0 0, .slice none 0 0] 163) := Lib.hid (by have := (HN.out.1.drew).alloc (.cells (acells (List.replicate n ⟨0, false⟩)).toArray 150); rw [HD.out] at this; exact this)
        refine wp_region_sched (.take 0 (.take 1 (.take 2 (.take 3 (.take 5 (.take 6 (.step 4 (.take 7 (.step 8 (.nil)))))))))) (by kernel_rfl) (by kernel_rfl) (fun d _ _ _ _ h => by cases d <;> exact h) (fun _ => True) trivial ?_
        refine wpG_take _ (.pointer (some ⟨D, 0, none⟩)) rfl (by rfl) (fun Y hY => by rfl) ?_
        (try simp only [Act.put, List.setIfInBounds_toArray, List.set_cons_zero, List.set_cons_succ])
        refine wpG_take _ (.int .i64 ((0 : Nat) : Int)) rfl (by rfl) (fun Y hY => by rfl) ?_
        (try simp only [Act.put, List.setIfInBounds_toArray, List.set_cons_zero, List.set_cons_succ])
        refine wpG_take _ (.int .i64 ((n : Int) + 1)) rfl (by rfl) (fun Y hY => by rfl) ?_
        (try simp only [Act.put, List.setIfInBounds_toArray, List.set_cons_zero, List.set_cons_succ])
        refine wpG_take _ (.int .i64 (n : Int)) rfl (by rfl) (fun Y hY => exk_sub rfl rfl rfl WK.out) ?_
        (try simp only [Act.put, List.setIfInBounds_toArray, List.set_cons_zero, List.set_cons_succ])
        refine wpG_take _ (.pointer (some ⟨D, 0, none⟩)) rfl (by rfl) (fun Y hY => exk_nc rfl rfl) ?_
        (try simp only [Act.put, List.setIfInBounds_toArray, List.set_cons_zero, List.set_cons_succ])
        refine wpG_take _ (.pointer (some ⟨D, 0, none⟩)) rfl (by rfl) (fun Y hY => exk_fa rfl rfl) ?_
        (try simp only [Act.put, List.setIfInBounds_toArray, List.set_cons_zero, List.set_cons_succ])
        refine wpK_mk _ rfl (by rfl) (slv wr.drew.heap.size n) (wr.drew.alloc (.cells (acells (List.replicate n ⟨0, false⟩)).toArray 150)) (exk_make rfl rfl (by omega)) (fun _ => True) trivial (fun _ h => h) ?_
        (try simp only [Act.put, List.setIfInBounds_toArray, List.set_cons_zero, List.set_cons_succ])
        refine wpG_take _ (.pointer (some ⟨D, 0, none⟩)) rfl (by rfl) (fun Y hY => exk_ia (by omega) rfl rfl rfl) ?_
        (try simp only [Act.put, List.setIfInBounds_toArray, List.set_cons_zero, List.set_cons_succ])
        refine wpK_st _ rfl (by rfl) ((wr.drew.alloc (.cells (acells (List.replicate n ⟨0, false⟩)).toArray 150)).setCell ⟨D, 0, none⟩ (slv wr.drew.heap.size n)) (exk_st rfl rfl rfl (HBK.out.cell rfl) (HBK.out.free _)) (fun _ => True) trivial (fun _ h => h) ?_
        refine wpG_nil ?_
        have HW : Hid (NewAt ((n : Int) + 1) b w 1 ((wr.drew.alloc (.cells (acells (List.replicate n ⟨0, false⟩)).toArray 150)).setCell ⟨D, 0, none⟩ (slv wr.drew.heap.size n))) := Lib.hid ?hw
        generalize ((wr.drew.alloc (.cells (acells (List.replicate n ⟨0, false⟩)).toArray 150)).setCell ⟨D, 0, none⟩ (slv wr.drew.heap.size n)) = W2 at HW ⊢
        go_wp2_with fail
        go_roundw
        case rel => exact ⟨1, by go_num, HW.out⟩
        case measure => simp [intOf]
        case hw =>
          rw [HD.out] at hlt
          have e1 : ((n : Int) + 1 - 1).toNat = n := by omega
          have hnew := Blk.new wr.drew (acells (List.replicate n ⟨0, false⟩)) 150
          refine .inr (.inl ⟨rfl, HX.out, wr.heap.size, ?_⟩)
          rw [e1]
          refine ⟨?_, hnew.other (a := ⟨D, 0, none⟩) (by show wr.heap.size ≠ D; omega) _, by rw [HD.out]; exact hlt, ((HN.out.2.drew).alloc (HN.out.2.size) _).setCell (Nat.le_of_eq HD.out) _⟩
          rw [HD.out]
          exact HBK.out.set 0 _
      · skip
        have HA := Lib.hid ha
        have e : a < 1 ∨ 4096 < a := by unfold okN at ha; omega
        clear ha
        rcases e with e | e
        · go_wp2_with fail
          go_ret2
          exact ⟨HN.out.2, fun _ => rfl, fun h => absurd h.1 HA.out⟩
        · have e2 : ¬ a < 1 := by omega
          go_wp2_with fail
          go_ret2
          exact ⟨HN.out.2, fun _ => rfl, fun h => absurd h.1 HA.out⟩
    · rw [show ((1 : Nat) : Int) = (1 : Int) from rfl]
      have HN := Lib.hid hN
      have HAA := Lib.hid ha
      clear hN ha
      by_cases hb : okN b
      · skip
        obtain ⟨n, hn⟩ : ∃ n : Nat, b = (n : Int) + 1 := ⟨(b - 1).toNat, by have := hb.1; omega⟩
        have hn2 : n ≤ 4095 := by have := hb.2; omega
        have HX := Lib.hid hb
        subst hn
        have h1 : ¬ ((n : Int) + 1) < 1 := by omega
        have h2 : ¬ 4096 < ((n : Int) + 1) := by omega
        have WK : Hid (IntKind.i64.wrap ((n : Int) + 1 - 1) = (n : Int)) := Lib.hid (by rw [IntWalk.i64_in _ (by omega)]; omega)
        clear hb
        have hlt := HN.out.1.lt
        go_wp2_with fail
        have HBK : Hid (Blk (wr.drew.alloc (.cells (acells (List.replicate n ⟨0, false⟩)).toArray 150)) D [slv B0 (a - 1).toNat, .slice none 0 0] 163) := Lib.hid (by have := (HN.out.1.drew).alloc (.cells (acells (List.replicate n ⟨0, false⟩)).toArray 150); rw [HD.out] at this; exact this)
        refine wp_region_sched (.take 0 (.take 1 (.take 2 (.take 3 (.take 5 (.take 6 (.step 4 (.take 7 (.step 8 (.nil)))))))))) (by kernel_rfl) (by kernel_rfl) (fun d _ _ _ _ h => by cases d <;> exact h) (fun _ => True) trivial ?_
        refine wpG_take _ (.pointer (some ⟨D, 0, none⟩)) rfl (by rfl) (fun Y hY => by rfl) ?_
        (try simp only [Act.put, List.setIfInBounds_toArray, List.set_cons_zero, List.set_cons_succ])
        refine wpG_take _ (.int .i64 ((1 : Nat) : Int)) rfl (by rfl) (fun Y hY => by rfl) ?_
        (try simp only [Act.put, List.setIfInBounds_toArray, List.set_cons_zero, List.set_cons_succ])
        refine wpG_take _ (.int .i64 ((n : Int) + 1)) rfl (by rfl) (fun Y hY => by rfl) ?_
        (try simp only [Act.put, List.setIfInBounds_toArray, List.set_cons_zero, List.set_cons_succ])
        refine wpG_take _ (.int .i64 (n : Int)) rfl (by rfl) (fun Y hY => exk_sub rfl rfl rfl WK.out) ?_
        (try simp only [Act.put, List.setIfInBounds_toArray, List.set_cons_zero, List.set_cons_succ])
        refine wpG_take _ (.pointer (some ⟨D, 0, none⟩)) rfl (by rfl) (fun Y hY => exk_nc rfl rfl) ?_
        (try simp only [Act.put, List.setIfInBounds_toArray, List.set_cons_zero, List.set_cons_succ])
        refine wpG_take _ (.pointer (some ⟨D, 0, none⟩)) rfl (by rfl) (fun Y hY => exk_fa rfl rfl) ?_
        (try simp only [Act.put, List.setIfInBounds_toArray, List.set_cons_zero, List.set_cons_succ])
        refine wpK_mk _ rfl (by rfl) (slv wr.drew.heap.size n) (wr.drew.alloc (.cells (acells (List.replicate n ⟨0, false⟩)).toArray 150)) (exk_make rfl rfl (by omega)) (fun _ => True) trivial (fun _ h => h) ?_
        (try simp only [Act.put, List.setIfInBounds_toArray, List.set_cons_zero, List.set_cons_succ])
        refine wpG_take _ (.pointer (some ⟨D, 1, none⟩)) rfl (by rfl) (fun Y hY => exk_ia (by omega) rfl rfl rfl) ?_
        (try simp only [Act.put, List.setIfInBounds_toArray, List.set_cons_zero, List.set_cons_succ])
        refine wpK_st _ rfl (by rfl) ((wr.drew.alloc (.cells (acells (List.replicate n ⟨0, false⟩)).toArray 150)).setCell ⟨D, 1, none⟩ (slv wr.drew.heap.size n)) (exk_st rfl rfl rfl (HBK.out.cell rfl) (HBK.out.free _)) (fun _ => True) trivial (fun _ h => h) ?_
        refine wpG_nil ?_
        have HW : Hid (NewAt a ((n : Int) + 1) w 2 ((wr.drew.alloc (.cells (acells (List.replicate n ⟨0, false⟩)).toArray 150)).setCell ⟨D, 1, none⟩ (slv wr.drew.heap.size n))) := Lib.hid ?hw
        generalize ((wr.drew.alloc (.cells (acells (List.replicate n ⟨0, false⟩)).toArray 150)).setCell ⟨D, 1, none⟩ (slv wr.drew.heap.size n)) = W2 at HW ⊢
        go_wp2_with fail
        go_roundw
        case rel => exact ⟨2, by go_num, HW.out⟩
        case measure => simp [intOf]
        case hw =>
          rw [HD.out] at hlt
          have e1 : ((n : Int) + 1 - 1).toNat = n := by omega
          have hnew := Blk.new wr.drew (acells (List.replicate n ⟨0, false⟩)) 150
          have hb0 := HN.out.2.1.lt
          have hlt0 := HN.out.2.2.1
          rw [HD.out] at hlt0
          refine .inr (.inr ⟨rfl, HAA.out, HX.out, B0, wr.heap.size, ?_⟩)
          rw [e1]
          refine ⟨?_, ((HN.out.2.1.drew).alloc _).other (a := ⟨D, 1, none⟩) (by show B0 ≠ D; omega) _, hnew.other (a := ⟨D, 1, none⟩) (by show wr.heap.size ≠ D; omega) _, by rw [HD.out]; exact hlt0, hb0, ((HN.out.2.2.2.drew).alloc (HN.out.2.2.2.size) _).setCell (Nat.le_of_eq HD.out) _⟩
          rw [HD.out]
          exact HBK.out.set 1 _
      · skip
        have HA := Lib.hid hb
        have e : b < 1 ∨ 4096 < b := by unfold okN at hb; omega
        clear hb
        rcases e with e | e
        · go_wp2_with fail
          go_ret2
          exact ⟨HN.out.2.2.2, fun _ => rfl, fun h => absurd h.2 HA.out⟩
        · have e2 : ¬ b < 1 := by omega
          go_wp2_with fail
          go_ret2
          exact ⟨HN.out.2.2.2, fun _ => rfl, fun h => absurd h.2 HA.out⟩
    · rw [show ((2 : Nat) : Int) = (2 : Int) from rfl]
      have HN := Lib.hid hN
      have HAA := Lib.hid ha
      have HBB := Lib.hid hb
      clear hN ha hb
      go_wp2_with fail
      go_ret2
      refine ⟨HN.out.2.2.2.2.2, fun h => absurd ⟨HAA.out, HBB.out⟩ h, fun _ => ?_⟩
      obtain ⟨B, h1, h2⟩ := HN.out.sp (by have := HAA.out.1; have := HAA.out.2; omega) (by have := HBB.out.1; have := HBB.out.2; omega)
      refine ⟨B, ?_, h1, h2⟩
      rw [HD.out]
      rfl
end Go.Proofs.YtmgagalhpkieoaaGreatDoor
/- The space that is known. -/
namespace Go.Proofs.YtmgagalhpkieoaaGreatDoor
open Go.RowKit

/-- A space that the call made. -/
structure Live (w0 w : World) (D : Nat) (B : Nat → Nat) (sp : Sp) : Prop where
  at' : SpAt w D B sp
  own : ∀ k, Of B k → w0.heap.size ≤ k
  bel : Below w0.heap.size w0 w
theorem Live.step {w0 w w' : World} {D : Nat} {B : Nat → Nat} {sp sp' : Sp} (h : Live w0 w D B sp) (h1 : SpAt w' D B sp' ∧ Chg (Of B) w w') : Live w0 w' D B sp' :=
  ⟨h1.1, h.own, h.bel.trans (h1.2.below h.own h.bel.size)⟩
theorem Live.below {w0 w w' : World} {D : Nat} {B : Nat → Nat} {sp : Sp} (h : Live w0 w D B sp) (h1 : Below w.heap.size w w') : Live w0 w' D B sp :=
  ⟨h.at'.below h1, h.own, h.bel.trans (h1.mono h.bel.size)⟩
end Go.Proofs.YtmgagalhpkieoaaGreatDoor
/- Slices of addresses that the call made: what they hold; Has, without. -/
namespace Go.Proofs.YtmgagalhpkieoaaGreatDoor
open Go.RowKit

def U (a : Nat) : Value := .int .u16 (a : Int)
abbrev OwnU (w : World) (B : Nat) (v : Value) (l : List Nat) : Prop := w.ownsRow B 52 1 v l.length (l.map U)
/-- The addresses l lie where the slice begins. -/
def SrcU (w : World) (sp : Option Addr) (l : List Nat) : Prop := 0 < l.length → ∃ g, sp = some ⟨g, 0, none⟩ ∧ ∀ j a, l[j]? = some a → w.cell? ⟨g, j, none⟩ = some (U a)
theorem OwnU.form {w : World} {B : Nat} {v : Value} {l : List Nat} (h : OwnU w B v l) : ∃ sp cap, v = .slice sp l.length cap ∧ l.length ≤ cap ∧ cap ≤ maxLen ∧ SrcU w sp l ∧ (sp = none → cap = 0) := by
  rcases h.2 with ⟨rfl, hn⟩ | ⟨g, cap, cur, rfl, hb, hg, hc, hm, _, _⟩
  · exact ⟨none, 0, by rw [hn], by omega, by unfold maxLen; omega, fun h0 => by omega, fun _ => rfl⟩
  · refine ⟨some ⟨g, 0, none⟩, cap, rfl, hc, hm, fun _ => ⟨g, rfl, fun j a hj => ?_⟩, fun hh => by cases hh⟩
    have hlt := (List.getElem?_eq_some_iff.1 hj).1
    rw [h.cellAt j (by omega), List.getElem?_map, hj]
    rfl
theorem OwnU.chg {F : Nat → Prop} {w W : World} {B : Nat} {v : Value} {l : List Nat} (h : OwnU w B v l) (hc : Chg F w W) (hn : ∀ g, v.ownBlock = some g → ¬ F g) : OwnU W B v l := by
  refine ⟨h.1, ?_⟩
  rcases h.2 with hn | ⟨g, cap, cur, rfl, hbg, hg, rest⟩
  · exact .inl hn
  · exact .inr ⟨g, cap, cur, rfl, hbg, by rw [hc.block g (Array.getElem?_eq_some_iff.1 hg).1 (hn g rfl)]; exact hg, rest⟩
theorem OwnU.below {w W : World} {B : Nat} {v : Value} {l : List Nat} (h : OwnU w B v l) (hb : Below w.heap.size w W) : OwnU W B v l := h.chg (Chg.of_below (F := fun _ => False) hb) (fun _ _ h => h)
theorem OwnU.blk {w : World} {B g : Nat} {v : Value} {l : List Nat} (h : OwnU w B v l) (hg : v.ownBlock = some g) : B ≤ g ∧ g < w.heap.size ∧ ∃ cs, Blk w g cs 52 := by
  rcases h.2 with ⟨rfl, _⟩ | ⟨g', cap, cur, rfl, hb, hgg, _⟩
  · simp [Value.ownBlock] at hg
  · simp [Value.ownBlock] at hg
    subst hg
    exact ⟨hb, (Array.getElem?_eq_some_iff.1 hgg).1, cur.toList, by unfold Blk; simpa using hgg⟩
theorem ownU_nil (w : World) (B : Nat) : OwnU w B (.slice none 0 0) [] := World.ownsRow_nil _ _ _ _
def hasB (l : List Nat) (a : Nat) : Bool := l.contains a
theorem hasB_iff (l : List Nat) (a : Nat) : hasB l a = true ↔ a ∈ l := by simp [hasB]
def wo (l : List Nat) (a : Nat) : List Nat := l.filter fun b => b != a
end Go.Proofs.YtmgagalhpkieoaaGreatDoor
/- The document's disk: in memory; what becomes of it. -/
namespace Go.Proofs.YtmgagalhpkieoaaGreatDoor
open Go.RowKit

/-- A disk of the document: how many blocks; which addresses are used (0), held (1), sick (2). -/
structure Rdk where
  n : Nat
  l : Nat → List Nat
def Rdk.set (rd : Rdk) (i : Nat) (m : List Nat) : Rdk := ⟨rd.n, fun x => if x = i then m else rd.l x⟩
def upV (v : Nat → Value) (i : Nat) (u : Value) : Nat → Value := fun x => if x = i then u else v x
/-- .. lies at R; lab tells whose a block is. -/
structure RdIn (w : World) (lo : Nat) (lab : Nat → Nat) (b R : Nat) (v : Nat → Value) (rd : Rdk) : Prop where
  blk : Blk w R [.int .i64 (rd.n : Int), v 0, v 1, v 2] 51
  row : ∀ i, i < 3 → OwnU w lo (v i) (rd.l i) ∧ ∀ g, (v i).ownBlock = some g → lab g = b + i
  loR : lo ≤ R
/-- What its calls turn. -/
def Foot (w : World) (lo : Nat) (lab : Nat → Nat) (b R : Nat) (g : Nat) : Prop := g = R ∨ (lo ≤ g ∧ b ≤ lab g ∧ lab g < b + 3 ∧ ∃ cs, Blk w g cs 52)
theorem RdIn.lo {w : World} {lo : Nat} {lab : Nat → Nat} {b R : Nat} {v : Nat → Value} {rd : Rdk} (h : RdIn w lo lab b R v rd) : lo ≤ w.heap.size := Nat.le_of_lt (Nat.lt_of_le_of_lt h.loR h.blk.lt)
theorem RdIn.chg {F : Nat → Prop} {w w' : World} {lo : Nat} {lab lab' : Nat → Nat} {b R : Nat} {v : Nat → Value} {rd : Rdk} (h : RdIn w lo lab b R v rd) (hc : Chg F w w') (hl : ∀ g, g < w.heap.size → lab' g = lab g) (hF : ∀ g, F g → ¬ Foot w lo lab b R g) : RdIn w' lo lab' b R v rd :=
  ⟨h.blk.chg hc (fun hf => hF _ hf (.inl rfl)), fun i hi => ⟨(h.row i hi).1.chg hc (fun g hg hf => hF g hf (.inr (by
    obtain ⟨h1, h2, h3⟩ := (h.row i hi).1.blk hg
    exact ⟨h1, by rw [(h.row i hi).2 g hg]; omega, by rw [(h.row i hi).2 g hg]; omega, h3⟩))), fun g hg => by rw [hl g ((h.row i hi).1.blk hg).2.1]; exact (h.row i hi).2 g hg⟩, h.loR⟩
theorem RdIn.below {w w' : World} {lo : Nat} {lab : Nat → Nat} {b R : Nat} {v : Nat → Value} {rd : Rdk} (h : RdIn w lo lab b R v rd) (hc : Below w.heap.size w w') : RdIn w' lo lab b R v rd :=
  h.chg (Chg.of_below (F := fun _ => False) hc) (fun _ _ => rfl) (fun _ h => h.elim)
def labs (w : World) (lab : Nat → Nat) (c : Nat) : Nat → Nat := fun g => if g < w.heap.size then lab g else c
theorem cells_R (n : Int) (v : Nat → Value) (i : Nat) (hi : i < 3) (u : Value) : [.int .i64 n, v 0, v 1, v 2].set (i + 1) u = [.int .i64 n, upV v i u 0, upV v i u 1, upV v i u 2] := by
  obtain rfl | rfl | rfl : i = 0 ∨ i = 1 ∨ i = 2 := by omega
  · rfl
  · rfl
  · rfl
/-- One row is another one, and the disk is told of it. -/
theorem RdIn.put {F : Nat → Prop} {w w' : World} {lo : Nat} {lab lab' : Nat → Nat} {b R : Nat} {v : Nat → Value} {rd : Rdk} (h : RdIn w lo lab b R v rd) {i : Nat} (hi : i < 3) {v' : Value} {l' : List Nat} (hlab : ∀ g, g < w.heap.size → lab' g = lab g)
    (hc : Chg F w w') (hF : ∀ g, F g → (v i).ownBlock = some g) (ho : OwnU w' lo v' l') (hl : ∀ g, v'.ownBlock = some g → lab' g = b + i) :
    RdIn (w'.setCell ⟨R, i + 1, none⟩ v') lo lab' b R (upV v i v') (rd.set i l') ∧ Chg (Foot w lo lab b R) w (w'.setCell ⟨R, i + 1, none⟩ v') := by
  have hFR : ¬ F R := fun hf => by
    obtain ⟨_, _, cs, hb⟩ := (h.row i hi).1.blk (hF R hf)
    exact absurd (h.blk.same hb) (by decide)
  have hb := (h.blk.chg hc hFR).set (i + 1) v'
  have hRo : ∀ (u : Value) (m : List Nat), OwnU w' lo u m → OwnU (w'.setCell ⟨R, i + 1, none⟩ v') lo u m := fun u m hu => hu.chg (chg1 w' R (i + 1) v') (fun g hg e => by
    subst e
    obtain ⟨_, _, cs, hb2⟩ := hu.blk hg
    exact absurd ((h.blk.chg hc hFR).same hb2) (by decide))
  refine ⟨⟨?_, fun j hj => ?_, h.loR⟩, ?_⟩
  · rw [cells_R _ v i hi v'] at hb
    exact hb
  · unfold upV Rdk.set
    by_cases e : j = i
    · subst e
      simp only [if_pos]
      exact ⟨hRo _ _ ho, hl⟩
    · simp only [if_neg e]
      refine ⟨hRo _ _ ((h.row j hj).1.chg hc (fun g hg hf => ?_)), fun g hg => ?_⟩
      · have h1 := (h.row j hj).2 g hg
        have h2 := (h.row i hi).2 g (hF g hf)
        omega
      · rw [hlab g ((h.row j hj).1.blk hg).2.1]
        exact (h.row j hj).2 g hg
  · refine (Chg.trans (F := Foot w lo lab b R) (G := F) (Chg.refl _ w) hc (fun g hf => ?_)).trans (chg1 w' R (i + 1) v') (fun g hg => .inl (.inl hg))
    obtain ⟨h1, h2, h3⟩ := (h.row i hi).1.blk (hF g hf)
    have h4 := (h.row i hi).2 g (hF g hf)
    exact .inl (.inr ⟨h1, by omega, by omega, h3⟩)
/-- What is known behind a call. -/
def RdPost (w : World) (lo : Nat) (lab : Nat → Nat) (b R : Nat) (rd : Rdk) (w' : World) : Prop := ∃ lab' v, (∀ g, g < w.heap.size → lab' g = lab g) ∧ RdIn w' lo lab' b R v rd ∧ Chg (Foot w lo lab b R) w w'
theorem foot_below {w w' : World} {lo : Nat} {lab lab' : Nat → Nat} {b R : Nat} (hl : ∀ g, g < w.heap.size → lab' g = lab g) (_ : R < w.heap.size) (hc : Chg (Foot w lo lab b R) w w') : ∀ g, Foot w' lo lab' b R g → Foot w lo lab b R g ∨ w.heap.size ≤ g := fun g hg => by
  by_cases hlt : g < w.heap.size
  · left
    rcases hg with hg | ⟨h1, h2, h3, cs, hb⟩
    · exact .inl hg
    · rw [hl g hlt] at h2 h3
      refine Classical.byContradiction fun hn => hn (.inr ⟨h1, h2, h3, cs, ?_⟩)
      unfold Blk at hb ⊢
      rw [← hc.block g hlt hn]
      exact hb
  · exact .inr (by omega)
theorem RdPost.trans {w w' w2 : World} {lo : Nat} {lab : Nat → Nat} {b R : Nat} {rd2 : Rdk} (hR : R < w.heap.size) {lab' : Nat → Nat} (hl : ∀ g, g < w.heap.size → lab' g = lab g) (hc : Chg (Foot w lo lab b R) w w') (h : RdPost w' lo lab' b R rd2 w2) : RdPost w lo lab b R rd2 w2 := by
  obtain ⟨lab2, v2, h1, h2, h3⟩ := h
  exact ⟨lab2, v2, fun g hg => by rw [h1 g (Nat.lt_of_lt_of_le hg hc.size), hl g hg], h2, hc.trans h3 (foot_below hl hR hc)⟩
section
variable {w : World} {lo : Nat} {lab : Nat → Nat} {b R : Nat} {v : Nat → Value} {rd : Rdk}
/-- 'd.X = ..' of new memory, or of none. -/
theorem RdIn.new (h : RdIn w lo lab b R v rd) {i : Nat} (hi : i < 3) {w' : World} (hb : Below w.heap.size w w') {v' : Value} {l' : List Nat} (ho : OwnU w' w.heap.size v' l') :
    w'.cell? ⟨R, i + 1, none⟩ = some (v i) ∧ w'.frozen? ⟨R, i + 1, none⟩ = false ∧ RdPost w lo lab b R (rd.set i l') (w'.setCell ⟨R, i + 1, none⟩ v') := by
  have ho' : OwnU w' lo v' l' := by
    refine ⟨ho.1, ?_⟩
    rcases ho.2 with hn | ⟨g, cap, cur, e, hg, rest⟩
    · exact .inl hn
    · exact .inr ⟨g, cap, cur, e, Nat.le_trans h.lo hg, rest⟩
  have := h.put hi (lab' := labs w lab (b + i)) (v' := v') (l' := l') (fun g hg => by simp [labs, hg]) (Chg.of_below (F := fun _ => False) hb) (fun g hg => hg.elim) ho' (fun g hg => by
    have := (ho.blk hg).1
    simp only [labs, if_neg (Nat.not_lt.2 this)])
  have hbR := h.blk.below hb h.blk.lt
  refine ⟨hbR.cell ?_, hbR.free _, _, _, fun g hg => by simp [labs, hg], this.1, this.2⟩
  obtain rfl | rfl | rfl : i = 0 ∨ i = 1 ∨ i = 2 := by omega
  all_goals rfl
theorem RdIn.nil (h : RdIn w lo lab b R v rd) {i : Nat} (hi : i < 3) : RdPost w lo lab b R (rd.set i []) (w.setCell ⟨R, i + 1, none⟩ (.slice none 0 0)) := (h.new hi (Below.refl _ _) (ownU_nil _ _)).2.2
end
end Go.Proofs.YtmgagalhpkieoaaGreatDoor
/- The document's Alloc. -/
namespace Go.Proofs.YtmgagalhpkieoaaGreatDoor
open Go.RowKit

def rfree (rd : Rdk) (a : Nat) : Bool := !hasB (rd.l 0) a && !hasB (rd.l 1) a && !hasB (rd.l 2) a
/-- What is looked at, as slots hold it. -/
structure RdLook (w : World) (R : Nat) (rd : Rdk) (s0 s1 s2 : Option Addr) (c0 c1 c2 : Nat) : Prop where
  n : w.cell? ⟨R, 0, none⟩ = some (.int .i64 (rd.n : Int))
  u : w.cell? ⟨R, 1, none⟩ = some (.slice s0 (rd.l 0).length c0)
  h : w.cell? ⟨R, 2, none⟩ = some (.slice s1 (rd.l 1).length c1)
  s : w.cell? ⟨R, 3, none⟩ = some (.slice s2 (rd.l 2).length c2)
  su : SrcU w s0 (rd.l 0)
  sh : SrcU w s1 (rd.l 1)
  ss : SrcU w s2 (rd.l 2)
theorem RdIn.look {w : World} {lo : Nat} {lab : Nat → Nat} {b R : Nat} {v : Nat → Value} {rd : Rdk} (h : RdIn w lo lab b R v rd) : ∃ s0 s1 s2 c0 c1 c2, v 0 = .slice s0 (rd.l 0).length c0 ∧ v 1 = .slice s1 (rd.l 1).length c1 ∧ v 2 = .slice s2 (rd.l 2).length c2 ∧ RdLook w R rd s0 s1 s2 c0 c1 c2 := by
  obtain ⟨s0, c0, e0, _, _, h0, _⟩ := (h.row 0 (by omega)).1.form
  obtain ⟨s1, c1, e1, _, _, h1, _⟩ := (h.row 1 (by omega)).1.form
  obtain ⟨s2, c2, e2, _, _, h2, _⟩ := (h.row 2 (by omega)).1.form
  exact ⟨s0, s1, s2, c0, c1, c2, e0, e1, e2, h.blk.cell rfl, e0 ▸ h.blk.cell rfl, e1 ▸ h.blk.cell rfl, e2 ▸ h.blk.cell rfl, h0, h1, h2⟩
end Go.Proofs.YtmgagalhpkieoaaGreatDoor
/- The document's Act. -/
namespace Go.Proofs.YtmgagalhpkieoaaGreatDoor
open Go.RowKit

end Go.Proofs.YtmgagalhpkieoaaGreatDoor
