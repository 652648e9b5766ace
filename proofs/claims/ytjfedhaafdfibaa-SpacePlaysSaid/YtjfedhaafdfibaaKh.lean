/- New. -/
import Derived.Test.YtjfedhaafdfibaaKe
import Derived.Test.YtjfedhaafdfibaaSched
import Derived.Laws.MakeOwn
namespace Go.Proofs.Ytjfedhaafdfibaa
open Go.RowKit

def freshS (a b : Nat) : Sp := fun d => List.replicate (if d = 0 then a else b) ⟨0, false⟩
theorem infoAx : (Try.prog.info? 61).map (fun i => (i.zero, i.size, i.bytes)) = some (some (.agg #[.int .u8 0, .bool false]), 2, 2) := by kernel_rfl
theorem made_ax (n : Nat) : madeCells #[Value.int .u8 0, .bool false] (n * 2) = (acells (List.replicate n ⟨0, false⟩)).toArray := by
  apply Array.ext
  · rw [size_madeCells, List.size_toArray, acells_length, List.length_replicate]
  · intro i h1 h2
    rw [size_madeCells] at h1
    have e : (acells (List.replicate n ⟨0, false⟩)).toArray[i] = (acells (List.replicate n ⟨0, false⟩))[i]'(by simpa using h2) := by simp
    rw [e]
    have hq : (List.replicate n (⟨0, false⟩ : Ax))[i / 2]? = some ⟨0, false⟩ := by rw [List.getElem?_replicate, if_pos (by omega)]
    obtain ⟨g1, g2⟩ := acells_get _ _ _ hq
    have hi : i < (acells (List.replicate n ⟨0, false⟩)).length := by simpa using h2
    rcases Nat.mod_two_eq_zero_or_one i with h | h
    · have ei : i / 2 * 2 = i := by omega
      rw [ei, List.getElem?_eq_getElem hi] at g1
      rw [Option.some.inj g1]
      simp [madeCells, h]
    · have ei : i / 2 * 2 + 1 = i := by omega
      rw [ei, List.getElem?_eq_getElem hi] at g2
      rw [Option.some.inj g2]
      simp [madeCells, h]
section
variable {ρ : Operand → Value} {o : Oper} {x y : Operand} {w : World}
theorem exk_make {n : Nat} (ho : o.op = .makeSlice 49 x x) (hx : ρ x = .int .i64 (n : Int)) (hn : n ≤ 5000) : (execOp ρ o).run Try.prog w = .ok (.value (slv w.heap.size n)) (w.alloc (.cells (acells (List.replicate n ⟨0, false⟩)).toArray 61)) := by
  obtain ⟨i, hi, h⟩ := Option.map_eq_some_iff.1 infoAx
  simp only [Prod.mk.injEq] at h
  have hr := run_make (P := Try.prog) w 49 61 i _ Try.underlying49 hi h.1 .i64 .i64 (n : Int) (n : Int) (by omega) (by omega) (by rw [h.2.2]; omega) (by omega)
  rw [Int.toNat_natCast, h.2.1] at hr
  rw [show (Value.agg #[.int .u8 0, .bool false]).cells = #[.int .u8 0, .bool false] from rfl, made_ax] at hr
  unfold execOp
  simp only [ho, hx, Sem.run_bind, hr, Result.andThen_ok, Sem.run_pure]
  rfl
theorem exk_sub {k : TypeId} {a n : Int} (ho : o.op = .binOp .sub 3 x y k) (hx : ρ x = .int .i64 a) (hy : ρ y = .int .i64 1) (h : IntKind.i64.wrap (a - 1) = n) : (execOp ρ o).run Try.prog w = .ok (.value (.int .i64 n)) w := by
  unfold execOp
  simp only [ho]
  go_simp
theorem exk_nc {b j : Nat} (ho : o.op = .nilCheck x) (hx : ρ x = .pointer (some ⟨b, j, none⟩)) : (execOp ρ o).run Try.prog w = .ok (.value (.pointer (some ⟨b, j, none⟩))) w := by
  unfold execOp
  simp only [ho]
  go_simp
theorem exk_fa {b : Nat} (ho : o.op = .fieldAddr 52 x 0) (hx : ρ x = .pointer (some ⟨b, 0, none⟩)) : (execOp ρ o).run Try.prog w = .ok (.value (.pointer (some ⟨b, 0, none⟩))) w := by
  unfold execOp
  simp only [ho]
  go_simp
theorem exk_ia {b k : Nat} (hk : k < 2) (ho : o.op = .indexAddr 50 x y) (hx : ρ x = .pointer (some ⟨b, 0, none⟩)) (hy : ρ y = .int .i64 (k : Int)) : (execOp ρ o).run Try.prog w = .ok (.value (.pointer (some ⟨b, k, none⟩))) w := by
  have hk2 : ¬ 2 ≤ (k : Int) := by omega
  unfold execOp
  simp only [ho]
  go_simp
theorem exk_st {b k : Nat} {u : Value} {sp : Option Addr} {n c : Nat} (ho : o.op = .store 49 x y) (hx : ρ x = .pointer (some ⟨b, k, none⟩)) (hy : ρ y = .slice sp n c) (hc : w.cell? ⟨b, k, none⟩ = some u) (hf : w.frozen? ⟨b, k, none⟩ = false) : (execOp ρ o).run Try.prog w = .ok .skip (w.setCell ⟨b, k, none⟩ (.slice sp n c)) := by
  unfold execOp
  simp only [ho]
  go_simp
variable {ops : Array Oper} {Q : Exit → Act → World → Prop} {S : World → Prop}
/-- An operation that turns memory; what is known of its world, told anew. -/
theorem wpK_mk {i : Nat} {r : Tr} {a : Act} {w : World} (o : Oper) (hi : ops.toList[i]? = some o) (hw : Region.wanted o (yielded ops a.tmps) = true) (v : Value) (w1 : World) (hrun : (execOp a.eval o).run Try.prog w = .ok (.value v) w1)
    (S' : World → Prop) (hS : S' w1) (hSS : ∀ w, S' w → S w) (h : wpG Try.prog ops Q r S' (a.put o.dst v) w1) : wpG Try.prog ops Q (.step i r) S a w := by
  show wpOp Try.prog ops Q i _ a w
  unfold wpOp
  simp only [of_list hi]
  rw [if_pos hw]
  refine .inl ?_
  unfold Oper.wp
  rw [hrun]
  exact ⟨hSS _ hS, S', hSS, hS, h⟩
/-- A store. -/
theorem wpK_st {i : Nat} {r : Tr} {a : Act} {w : World} (o : Oper) (hi : ops.toList[i]? = some o) (hw : Region.wanted o (yielded ops a.tmps) = true) (w1 : World) (hrun : (execOp a.eval o).run Try.prog w = .ok .skip w1)
    (S' : World → Prop) (hS : S' w1) (hS2 : ∀ w, S' w → S w) (h : wpG Try.prog ops Q r S' (a.put o.dst undef) w1) : wpG Try.prog ops Q (.step i r) S a w := by
  show wpOp Try.prog ops Q i _ a w
  unfold wpOp
  simp only [of_list hi]
  rw [if_pos hw]
  refine .inl ?_
  unfold Oper.wp
  rw [hrun]
  exact ⟨hS2 _ hS, S', hS2, hS, h⟩
end
def okN (a : Int) : Prop := 1 ≤ a ∧ a ≤ 4096
/-- What New answers. -/
structure NewPost (a b : Int) (w : World) (e : Ending) (w' : World) : Prop where
  bel : Below w.heap.size w w'
  no : ¬ (okN a ∧ okN b) → e = .returned (.tuple #[.pointer none, .int .i64 1])
  yes : okN a ∧ okN b → ∃ B, e = .returned (.tuple #[.pointer (some ⟨w.heap.size, 0, none⟩), .int .i64 0]) ∧ SpAt w' w.heap.size B (freshS (a - 1).toNat (b - 1).toNat) ∧ ∀ k, Of B k → w.heap.size ≤ k
/-- What the loop of New keeps. -/
def New0 (w w' : World) : Prop := Blk w' w.heap.size [.slice none 0 0, .slice none 0 0] 52 ∧ Below w.heap.size w w'
def New1 (w w' : World) (n B0 : Nat) : Prop := Blk w' w.heap.size [slv B0 n, .slice none 0 0] 52 ∧ Blk w' B0 (acells (List.replicate n ⟨0, false⟩)) 61 ∧ w.heap.size < B0 ∧ Below w.heap.size w w'
def New2 (w w' : World) (n m B0 B1 : Nat) : Prop := Blk w' w.heap.size [slv B0 n, slv B1 m] 52 ∧ Blk w' B0 (acells (List.replicate n ⟨0, false⟩)) 61 ∧ Blk w' B1 (acells (List.replicate m ⟨0, false⟩)) 61 ∧ w.heap.size < B0 ∧ B0 < B1 ∧ Below w.heap.size w w'
def NewAt (a b : Int) (w : World) (k : Nat) (w' : World) : Prop :=
  (k = 0 ∧ New0 w w') ∨ (k = 1 ∧ okN a ∧ ∃ B0, New1 w w' (a - 1).toNat B0) ∨ (k = 2 ∧ okN a ∧ okN b ∧ ∃ B0 B1, New2 w w' (a - 1).toNat (b - 1).toNat B0 B1)
theorem New2.sp {w w' : World} {n m B0 B1 : Nat} (h : New2 w w' n m B0 B1) (hn : n ≤ 4095) (hm : m ≤ 4095) : ∃ B : Nat → Nat, SpAt w' w.heap.size B (freshS n m) ∧ ∀ k, Of B k → w.heap.size ≤ k := by
  obtain ⟨h1, h2, h3, h4, h5, _⟩ := h
  refine ⟨fun d => if d = 0 then B0 else B1, ⟨?_, ?_, ?_, ?_⟩, ?_⟩
  · simpa [freshS] using h1
  · intro d hd
    obtain rfl | rfl : d = 0 ∨ d = 1 := by omega
    · simpa [freshS] using h2
    · simpa [freshS] using h3
  · simp; omega
  · intro d hd
    obtain rfl | rfl : d = 0 ∨ d = 1 := by omega
    · simpa [freshS] using hn
    · simpa [freshS] using hm
  · intro k hk
    rcases hk with hk | hk <;> simp at hk <;> omega
set_option maxRecDepth 100000 in
set_option maxHeartbeats 4000000 in
theorem new_any (a b : Int) (w : World) : Calls Try.prog 7 #[.int .i64 a, .int .i64 b] w (NewPost a b w) := by
  have H0 : Hid (NewAt a b w 0 (w.alloc (.cells #[.slice none 0 0, .slice none 0 0] 52))) := Lib.hid (.inl ⟨rfl, Blk.new w [.slice none 0 0, .slice none 0 0] 52, (Below.refl _ _).alloc (Nat.le_refl _) _⟩)
  have i0 : ∀ w, (Instr.index 53 (.agg #[.int .i64 a, .int .i64 b]) (.int .i64 0)).run Try.prog w = .ok (.int .i64 a) w := fun _ => by kernel_rfl
  have i1 : ∀ w, (Instr.index 53 (.agg #[.int .i64 a, .int .i64 b]) (.int .i64 1)).run Try.prog w = .ok (.int .i64 b) w := fun _ => by kernel_rfl
  go_enter Try.func7, Try.ntmps7
  go_wp2_with fail
  obtain ⟨D, hD⟩ : ∃ D, w.heap.size = D := ⟨_, rfl⟩
  have HD := Lib.hid hD
  rw [hD]
  clear hD
  go_loopw [14] (fun i wr => ∃ k : Nat, i = .int .i64 (k : Int) ∧ NewAt a b w k wr) (fun i _ => 2 - (intOf i).toNat)
  case atStart => exact ⟨0, rfl, H0.out⟩
  case round =>
    clear H0
    obtain ⟨k, rfl, hk⟩ := hrel
    rcases hk with ⟨rfl, hN⟩ | ⟨rfl, ha, B0, hN⟩ | ⟨rfl, ha, hb, B0, B1, hN⟩
    · rw [show ((0 : Nat) : Int) = (0 : Int) from rfl]
      have HN := Lib.hid hN
      clear hN
      by_cases ha : okN a
      · skip
        obtain ⟨n, hn⟩ : ∃ n : Nat, a = (n : Int) + 1 := ⟨(a - 1).toNat, by have := ha.1; omega⟩
        have hn2 : n ≤ 4095 := by have := ha.2; omega
        have HX := Lib.hid ha
        subst hn
        have h1 : ¬ ((n : Int) + 1) < 1 := by omega
        have h2 : ¬ 4096 < ((n : Int) + 1) := by omega
        have WK : Hid (IntKind.i64.wrap ((n : Int) + 1 - 1) = (n : Int)) := Lib.hid (by rw [IntWalk.i64_in _ (by omega)]; omega)
        clear ha
        have hlt := HN.out.1.lt
        go_wp2_with fail
        have HBK : Hid (Blk (wr.drew.alloc (.cells (acells (List.replicate n ⟨0, false⟩)).toArray 61)) D [.slice none 0 0, .slice none 0 0] 52) := Lib.hid (by have := (HN.out.1.drew).alloc (.cells (acells (List.replicate n ⟨0, false⟩)).toArray 61); rw [HD.out] at this; exact this)
        refine wp_region_sched (.take 0 (.take 1 (.take 2 (.take 3 (.take 5 (.take 6 (.step 4 (.take 7 (.step 8 (.nil)))))))))) (by kernel_rfl) (by kernel_rfl) (fun d _ _ _ _ h => by cases d <;> exact h) (fun _ => True) trivial ?_
        refine wpG_take _ (.pointer (some ⟨D, 0, none⟩)) rfl (by rfl) (fun Y hY => by rfl) ?_
        (try simp only [Act.put, List.setIfInBounds_toArray, List.set_cons_zero, List.set_cons_succ])
        refine wpG_take _ (.int .i64 ((0 : Nat) : Int)) rfl (by rfl) (fun Y hY => by rfl) ?_
        (try simp only [Act.put, List.setIfInBounds_toArray, List.set_cons_zero, List.set_cons_succ])
        refine wpG_take _ (.int .i64 ((n : Int) + 1)) rfl (by rfl) (fun Y hY => by rfl) ?_
        (try simp only [Act.put, List.setIfInBounds_toArray, List.set_cons_zero, List.set_cons_succ])
        refine wpG_take _ (.int .i64 (n : Int)) rfl (by rfl) (fun Y hY => exk_sub rfl rfl rfl WK.out) ?_
        (try simp only [Act.put, List.setIfInBounds_toArray, List.set_cons_zero, List.set_cons_succ])
        refine wpG_take _ (.pointer (some ⟨D, 0, none⟩)) rfl (by rfl) (fun Y hY => exk_nc rfl rfl) ?_
        (try simp only [Act.put, List.setIfInBounds_toArray, List.set_cons_zero, List.set_cons_succ])
        refine wpG_take _ (.pointer (some ⟨D, 0, none⟩)) rfl (by rfl) (fun Y hY => exk_fa rfl rfl) ?_
        (try simp only [Act.put, List.setIfInBounds_toArray, List.set_cons_zero, List.set_cons_succ])
        refine wpK_mk _ rfl (by rfl) (slv wr.drew.heap.size n) (wr.drew.alloc (.cells (acells (List.replicate n ⟨0, false⟩)).toArray 61)) (exk_make rfl rfl (by omega)) (fun _ => True) trivial (fun _ h => h) ?_
        (try simp only [Act.put, List.setIfInBounds_toArray, List.set_cons_zero, List.set_cons_succ])
        refine wpG_take _ (.pointer (some ⟨D, 0, none⟩)) rfl (by rfl) (fun Y hY => exk_ia (by omega) rfl rfl rfl) ?_
        (try simp only [Act.put, List.setIfInBounds_toArray, List.set_cons_zero, List.set_cons_succ])
        refine wpK_st _ rfl (by rfl) ((wr.drew.alloc (.cells (acells (List.replicate n ⟨0, false⟩)).toArray 61)).setCell ⟨D, 0, none⟩ (slv wr.drew.heap.size n)) (exk_st rfl rfl rfl (HBK.out.cell rfl) (HBK.out.free _)) (fun _ => True) trivial (fun _ h => h) ?_
        refine wpG_nil ?_
        have HW : Hid (NewAt ((n : Int) + 1) b w 1 ((wr.drew.alloc (.cells (acells (List.replicate n ⟨0, false⟩)).toArray 61)).setCell ⟨D, 0, none⟩ (slv wr.drew.heap.size n))) := Lib.hid ?hw
        generalize ((wr.drew.alloc (.cells (acells (List.replicate n ⟨0, false⟩)).toArray 61)).setCell ⟨D, 0, none⟩ (slv wr.drew.heap.size n)) = W2 at HW ⊢
        go_wp2_with fail
        go_roundw
        case rel => exact ⟨1, by go_num, HW.out⟩
        case measure => simp [intOf]
        case hw =>
          rw [HD.out] at hlt
          have e1 : ((n : Int) + 1 - 1).toNat = n := by omega
          have hnew := Blk.new wr.drew (acells (List.replicate n ⟨0, false⟩)) 61
          refine .inr (.inl ⟨rfl, HX.out, wr.heap.size, ?_⟩)
          rw [e1]
          refine ⟨?_, hnew.other (a := ⟨D, 0, none⟩) (by show wr.heap.size ≠ D; omega) _, by rw [HD.out]; exact hlt, ((HN.out.2.drew).alloc (HN.out.2.size) _).setCell (Nat.le_of_eq HD.out) _⟩
          rw [HD.out]
          exact HBK.out.set 0 _
      · skip
        have HA := Lib.hid ha
        have e : a < 1 ∨ 4096 < a := by unfold okN at ha; omega
        clear ha
        rcases e with e | e
        · go_wp2_with fail
          go_ret2
          exact ⟨HN.out.2, fun _ => rfl, fun h => absurd h.1 HA.out⟩
        · have e2 : ¬ a < 1 := by omega
          go_wp2_with fail
          go_ret2
          exact ⟨HN.out.2, fun _ => rfl, fun h => absurd h.1 HA.out⟩
    · rw [show ((1 : Nat) : Int) = (1 : Int) from rfl]
      have HN := Lib.hid hN
      have HAA := Lib.hid ha
      clear hN ha
      by_cases hb : okN b
      · skip
        obtain ⟨n, hn⟩ : ∃ n : Nat, b = (n : Int) + 1 := ⟨(b - 1).toNat, by have := hb.1; omega⟩
        have hn2 : n ≤ 4095 := by have := hb.2; omega
        have HX := Lib.hid hb
        subst hn
        have h1 : ¬ ((n : Int) + 1) < 1 := by omega
        have h2 : ¬ 4096 < ((n : Int) + 1) := by omega
        have WK : Hid (IntKind.i64.wrap ((n : Int) + 1 - 1) = (n : Int)) := Lib.hid (by rw [IntWalk.i64_in _ (by omega)]; omega)
        clear hb
        have hlt := HN.out.1.lt
        go_wp2_with fail
        have HBK : Hid (Blk (wr.drew.alloc (.cells (acells (List.replicate n ⟨0, false⟩)).toArray 61)) D [slv B0 (a - 1).toNat, .slice none 0 0] 52) := Lib.hid (by have := (HN.out.1.drew).alloc (.cells (acells (List.replicate n ⟨0, false⟩)).toArray 61); rw [HD.out] at this; exact this)
        refine wp_region_sched (.take 0 (.take 1 (.take 2 (.take 3 (.take 5 (.take 6 (.step 4 (.take 7 (.step 8 (.nil)))))))))) (by kernel_rfl) (by kernel_rfl) (fun d _ _ _ _ h => by cases d <;> exact h) (fun _ => True) trivial ?_
        refine wpG_take _ (.pointer (some ⟨D, 0, none⟩)) rfl (by rfl) (fun Y hY => by rfl) ?_
        (try simp only [Act.put, List.setIfInBounds_toArray, List.set_cons_zero, List.set_cons_succ])
        refine wpG_take _ (.int .i64 ((1 : Nat) : Int)) rfl (by rfl) (fun Y hY => by rfl) ?_
        (try simp only [Act.put, List.setIfInBounds_toArray, List.set_cons_zero, List.set_cons_succ])
        refine wpG_take _ (.int .i64 ((n : Int) + 1)) rfl (by rfl) (fun Y hY => by rfl) ?_
        (try simp only [Act.put, List.setIfInBounds_toArray, List.set_cons_zero, List.set_cons_succ])
        refine wpG_take _ (.int .i64 (n : Int)) rfl (by rfl) (fun Y hY => exk_sub rfl rfl rfl WK.out) ?_
        (try simp only [Act.put, List.setIfInBounds_toArray, List.set_cons_zero, List.set_cons_succ])
        refine wpG_take _ (.pointer (some ⟨D, 0, none⟩)) rfl (by rfl) (fun Y hY => exk_nc rfl rfl) ?_
        (try simp only [Act.put, List.setIfInBounds_toArray, List.set_cons_zero, List.set_cons_succ])
        refine wpG_take _ (.pointer (some ⟨D, 0, none⟩)) rfl (by rfl) (fun Y hY => exk_fa rfl rfl) ?_
        (try simp only [Act.put, List.setIfInBounds_toArray, List.set_cons_zero, List.set_cons_succ])
        refine wpK_mk _ rfl (by rfl) (slv wr.drew.heap.size n) (wr.drew.alloc (.cells (acells (List.replicate n ⟨0, false⟩)).toArray 61)) (exk_make rfl rfl (by omega)) (fun _ => True) trivial (fun _ h => h) ?_
        (try simp only [Act.put, List.setIfInBounds_toArray, List.set_cons_zero, List.set_cons_succ])
        refine wpG_take _ (.pointer (some ⟨D, 1, none⟩)) rfl (by rfl) (fun Y hY => exk_ia (by omega) rfl rfl rfl) ?_
        (try simp only [Act.put, List.setIfInBounds_toArray, List.set_cons_zero, List.set_cons_succ])
        refine wpK_st _ rfl (by rfl) ((wr.drew.alloc (.cells (acells (List.replicate n ⟨0, false⟩)).toArray 61)).setCell ⟨D, 1, none⟩ (slv wr.drew.heap.size n)) (exk_st rfl rfl rfl (HBK.out.cell rfl) (HBK.out.free _)) (fun _ => True) trivial (fun _ h => h) ?_
        refine wpG_nil ?_
        have HW : Hid (NewAt a ((n : Int) + 1) w 2 ((wr.drew.alloc (.cells (acells (List.replicate n ⟨0, false⟩)).toArray 61)).setCell ⟨D, 1, none⟩ (slv wr.drew.heap.size n))) := Lib.hid ?hw
        generalize ((wr.drew.alloc (.cells (acells (List.replicate n ⟨0, false⟩)).toArray 61)).setCell ⟨D, 1, none⟩ (slv wr.drew.heap.size n)) = W2 at HW ⊢
        go_wp2_with fail
        go_roundw
        case rel => exact ⟨2, by go_num, HW.out⟩
        case measure => simp [intOf]
        case hw =>
          rw [HD.out] at hlt
          have e1 : ((n : Int) + 1 - 1).toNat = n := by omega
          have hnew := Blk.new wr.drew (acells (List.replicate n ⟨0, false⟩)) 61
          have hb0 := HN.out.2.1.lt
          have hlt0 := HN.out.2.2.1
          rw [HD.out] at hlt0
          refine .inr (.inr ⟨rfl, HAA.out, HX.out, B0, wr.heap.size, ?_⟩)
          rw [e1]
          refine ⟨?_, ((HN.out.2.1.drew).alloc _).other (a := ⟨D, 1, none⟩) (by show B0 ≠ D; omega) _, hnew.other (a := ⟨D, 1, none⟩) (by show wr.heap.size ≠ D; omega) _, by rw [HD.out]; exact hlt0, hb0, ((HN.out.2.2.2.drew).alloc (HN.out.2.2.2.size) _).setCell (Nat.le_of_eq HD.out) _⟩
          rw [HD.out]
          exact HBK.out.set 1 _
      · skip
        have HA := Lib.hid hb
        have e : b < 1 ∨ 4096 < b := by unfold okN at hb; omega
        clear hb
        rcases e with e | e
        · go_wp2_with fail
          go_ret2
          exact ⟨HN.out.2.2.2, fun _ => rfl, fun h => absurd h.2 HA.out⟩
        · have e2 : ¬ b < 1 := by omega
          go_wp2_with fail
          go_ret2
          exact ⟨HN.out.2.2.2, fun _ => rfl, fun h => absurd h.2 HA.out⟩
    · rw [show ((2 : Nat) : Int) = (2 : Int) from rfl]
      have HN := Lib.hid hN
      have HAA := Lib.hid ha
      have HBB := Lib.hid hb
      clear hN ha hb
      go_wp2_with fail
      go_ret2
      refine ⟨HN.out.2.2.2.2.2, fun h => absurd ⟨HAA.out, HBB.out⟩ h, fun _ => ?_⟩
      obtain ⟨B, h1, h2⟩ := HN.out.sp (by have := HAA.out.1; have := HAA.out.2; omega) (by have := HBB.out.1; have := HBB.out.2; omega)
      refine ⟨B, ?_, h1, h2⟩
      rw [HD.out]
      rfl
end Go.Proofs.Ytjfedhaafdfibaa
