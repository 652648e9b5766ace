/- Count. -/
import Derived.Test.YtmgagalhpkieoaaGreatDoorM24
import Derived.Test.YtmgagalhpkieoaaGreatDoorM01
import Derived.Laws.MakeOwn
import Derived.Deep.Light
import Derived.Laws.AppendOwnNone
import Derived.Maps.AppendAt
import Derived.Deep.RegionLaw
namespace Go.Proofs.YtmgagalhpkieoaaGreatDoor
open Go.RowKit

def cnt (p : Ax → Bool) : List Ax → Nat
  | [] => 0
  | a :: l => (if p a then 1 else 0) + cnt p l
theorem cnt_set (p : Ax → Bool) : ∀ (l : List Ax) (i : Nat) (a b : Ax), l[i]? = some a → cnt p (l.set i b) + (if p a then 1 else 0) = cnt p l + if p b then 1 else 0
  | [], _, _, _, h => by simp at h
  | c :: l, 0, a, b, h => by simp at h; subst h; simp [cnt]; omega
  | c :: l, i + 1, a, b, h => by
    have := cnt_set p l i a b (by simpa using h)
    simp only [List.set_cons_succ, cnt]
    omega
def isB (k : Nat) (a : Ax) : Bool := a.is == k
def sickB (a : Ax) : Bool := a.sick
end Go.Proofs.YtmgagalhpkieoaaGreatDoor
/- New. -/
namespace Go.Proofs.YtmgagalhpkieoaaGreatDoor
open Go.RowKit

def freshS (a b : Nat) : Sp := fun d => List.replicate (if d = 0 then a else b) ⟨0, false⟩
theorem infoAx : (Tryz.prog.info? 150).map (fun i => (i.zero, i.size, i.bytes)) = some (some (.agg #[.int .u8 0, .bool false]), 2, 2) := by kernel_rfl
theorem made_ax (n : Nat) : madeCells #[Value.int .u8 0, .bool false] (n * 2) = (acells (List.replicate n ⟨0, false⟩)).toArray := by
  apply Array.ext
  · rw [size_madeCells, List.size_toArray, acells_length, List.length_replicate]
  · intro i h1 h2
    rw [size_madeCells] at h1
    have e : (acells (List.replicate n ⟨0, false⟩)).toArray[i] = (acells (List.replicate n ⟨0, false⟩))[i]'(by simpa using h2) := by simp
    rw [e]
    have hq : (List.replicate n (⟨0, false⟩ : Ax))[i / 2]? = some ⟨0, false⟩ := by rw [List.getElem?_replicate, if_pos (by omega)]
    obtain ⟨g1, g2⟩ := acells_get _ _ _ hq
    have hi : i < (acells (List.replicate n ⟨0, false⟩)).length := by simpa using h2
    rcases Nat.mod_two_eq_zero_or_one i with h | h
    · have ei : i / 2 * 2 = i := by omega
      rw [ei, List.getElem?_eq_getElem hi] at g1
      rw [Option.some.inj g1]
      simp [madeCells, h]
    · have ei : i / 2 * 2 + 1 = i := by omega
      rw [ei, List.getElem?_eq_getElem hi] at g2
      rw [Option.some.inj g2]
      simp [madeCells, h]
section
variable {ρ : Operand → Value} {o : Oper} {x y : Operand} {w : World}
theorem exk_make {n : Nat} (ho : o.op = .makeSlice 160 x x) (hx : ρ x = .int .i64 (n : Int)) (hn : n ≤ 5000) : (execOp ρ o).run Tryz.prog w = .ok (.value (slv w.heap.size n)) (w.alloc (.cells (acells (List.replicate n ⟨0, false⟩)).toArray 150)) := by
  obtain ⟨i, hi, h⟩ := Option.map_eq_some_iff.1 infoAx
  simp only [Prod.mk.injEq] at h
  have hr := run_make (P := Tryz.prog) w 160 150 i _ Tryz.underlying160 hi h.1 .i64 .i64 (n : Int) (n : Int) (by omega) (by omega) (by rw [h.2.2]; omega) (by omega)
  rw [Int.toNat_natCast, h.2.1] at hr
  rw [show (Value.agg #[.int .u8 0, .bool false]).cells = #[.int .u8 0, .bool false] from rfl, made_ax] at hr
  unfold execOp
  simp only [ho, hx, Sem.run_bind, hr, Result.andThen_ok, Sem.run_pure]
  rfl
theorem exk_sub {k : TypeId} {a n : Int} (ho : o.op = .binOp .sub 3 x y k) (hx : ρ x = .int .i64 a) (hy : ρ y = .int .i64 1) (h : IntKind.i64.wrap (a - 1) = n) : (execOp ρ o).run Tryz.prog w = .ok (.value (.int .i64 n)) w := by
  unfold execOp
  simp only [ho]
  go_simp
theorem exk_nc {b j : Nat} (ho : o.op = .nilCheck x) (hx : ρ x = .pointer (some ⟨b, j, none⟩)) : (execOp ρ o).run Tryz.prog w = .ok (.value (.pointer (some ⟨b, j, none⟩))) w := by
  unfold execOp
  simp only [ho]
  go_simp
theorem exk_fa {b : Nat} (ho : o.op = .fieldAddr 163 x 0) (hx : ρ x = .pointer (some ⟨b, 0, none⟩)) : (execOp ρ o).run Tryz.prog w = .ok (.value (.pointer (some ⟨b, 0, none⟩))) w := by
  unfold execOp
  simp only [ho]
  go_simp
theorem exk_ia {b k : Nat} (hk : k < 2) (ho : o.op = .indexAddr 161 x y) (hx : ρ x = .pointer (some ⟨b, 0, none⟩)) (hy : ρ y = .int .i64 (k : Int)) : (execOp ρ o).run Tryz.prog w = .ok (.value (.pointer (some ⟨b, k, none⟩))) w := by
  have hk2 : ¬ 2 ≤ (k : Int) := by omega
  unfold execOp
  simp only [ho]
  go_simp
theorem exk_st {b k : Nat} {u : Value} {sp : Option Addr} {n c : Nat} (ho : o.op = .store 160 x y) (hx : ρ x = .pointer (some ⟨b, k, none⟩)) (hy : ρ y = .slice sp n c) (hc : w.cell? ⟨b, k, none⟩ = some u) (hf : w.frozen? ⟨b, k, none⟩ = false) : (execOp ρ o).run Tryz.prog w = .ok .skip (w.setCell ⟨b, k, none⟩ (.slice sp n c)) := by
  unfold execOp
  simp only [ho]
  go_simp
variable {ops : Array Oper} {Q : Exit → Act → World → Prop} {S : World → Prop}
theorem wpK_mk {i : Nat} {r : Tr} {a : Act} {w : World} (o : Oper) (hi : ops.toList[i]? = some o) (hw : Region.wanted o (yielded ops a.tmps) = true) (v : Value) (w1 : World) (hrun : (execOp a.eval o).run Tryz.prog w = .ok (.value v) w1)
    (S' : World → Prop) (hS : S' w1) (hSS : ∀ w, S' w → S w) (h : wpG Tryz.prog ops Q r S' (a.put o.dst v) w1) : wpG Tryz.prog ops Q (.step i r) S a w := by
  show wpOp Tryz.prog ops Q i _ a w
  unfold wpOp
  simp only [of_list hi]
  rw [if_pos hw]
  refine .inl ?_
  unfold Oper.wp
  rw [hrun]
  exact ⟨hSS _ hS, S', hSS, hS, h⟩
theorem wpK_st {i : Nat} {r : Tr} {a : Act} {w : World} (o : Oper) (hi : ops.toList[i]? = some o) (hw : Region.wanted o (yielded ops a.tmps) = true) (w1 : World) (hrun : (execOp a.eval o).run Tryz.prog w = .ok .skip w1)
    (S' : World → Prop) (hS : S' w1) (hS2 : ∀ w, S' w → S w) (h : wpG Tryz.prog ops Q r S' (a.put o.dst undef) w1) : wpG Tryz.prog ops Q (.step i r) S a w := by
  show wpOp Tryz.prog ops Q i _ a w
  unfold wpOp
  simp only [of_list hi]
  rw [if_pos hw]
  refine .inl ?_
  unfold Oper.wp
  rw [hrun]
  exact ⟨hS2 _ hS, S', hS2, hS, h⟩
end
def okN (a : Int) : Prop := 1 ≤ a ∧ a ≤ 4096
structure NewPost (a b : Int) (w : World) (e : Ending) (w' : World) : Prop where
  bel : Below w.heap.size w w'
  no : ¬ (okN a ∧ okN b) → e = .returned (.tuple #[.pointer none, .int .i64 1])
  yes : okN a ∧ okN b → ∃ B, e = .returned (.tuple #[.pointer (some ⟨w.heap.size, 0, none⟩), .int .i64 0]) ∧ SpAt w' w.heap.size B (freshS (a - 1).toNat (b - 1).toNat) ∧ ∀ k, Of B k → w.heap.size ≤ k
def New0 (w w' : World) : Prop := Blk w' w.heap.size [.slice none 0 0, .slice none 0 0] 163 ∧ Below w.heap.size w w'
def New1 (w w' : World) (n B0 : Nat) : Prop := Blk w' w.heap.size [slv B0 n, .slice none 0 0] 163 ∧ Blk w' B0 (acells (List.replicate n ⟨0, false⟩)) 150 ∧ w.heap.size < B0 ∧ Below w.heap.size w w'
def New2 (w w' : World) (n m B0 B1 : Nat) : Prop := Blk w' w.heap.size [slv B0 n, slv B1 m] 163 ∧ Blk w' B0 (acells (List.replicate n ⟨0, false⟩)) 150 ∧ Blk w' B1 (acells (List.replicate m ⟨0, false⟩)) 150 ∧ w.heap.size < B0 ∧ B0 < B1 ∧ Below w.heap.size w w'
def NewAt (a b : Int) (w : World) (k : Nat) (w' : World) : Prop :=
  (k = 0 ∧ New0 w w') ∨ (k = 1 ∧ okN a ∧ ∃ B0, New1 w w' (a - 1).toNat B0) ∨ (k = 2 ∧ okN a ∧ okN b ∧ ∃ B0 B1, New2 w w' (a - 1).toNat (b - 1).toNat B0 B1)
theorem New2.sp {w w' : World} {n m B0 B1 : Nat} (h : New2 w w' n m B0 B1) (hn : n ≤ 4095) (hm : m ≤ 4095) : ∃ B : Nat → Nat, SpAt w' w.heap.size B (freshS n m) ∧ ∀ k, Of B k → w.heap.size ≤ k := by
  obtain ⟨h1, h2, h3, h4, h5, _⟩ := h
  refine ⟨fun d => if d = 0 then B0 else B1, ⟨?_, ?_, ?_, ?_⟩, ?_⟩
  · simpa [freshS] using h1
  · intro d hd
    obtain rfl | rfl : d = 0 ∨ d = 1 := by omega
    · simpa [freshS] using h2
    · simpa [freshS] using h3
  · simp; omega
  · intro d hd
    obtain rfl | rfl : d = 0 ∨ d = 1 := by omega
    · simpa [freshS] using hn
    · simpa [freshS] using hm
  · intro k hk
    rcases hk with hk | hk <;> simp at hk <;> omega
set_option maxRecDepth 100000 in
set_option maxHeartbeats 4000000 in
theorem k_new_any (a b : Int) (w : World) : Calls Tryz.prog 39 #[.int .i64 a, .int .i64 b] w (NewPost a b w) := by
  have H0 : Hid (NewAt a b w 0 (w.alloc (.cells #[.slice none 0 0, .slice none 0 0] 163))) := Lib.hid (.inl ⟨rfl, Blk.new w [.slice none 0 0, .slice none 0 0] 163, (Below.refl _ _).alloc (Nat.le_refl _) _⟩)
  have i0 : ∀ w, (Instr.index 42 (.agg #[.int .i64 a, .int .i64 b]) (.int .i64 0)).run Tryz.prog w = .ok (.int .i64 a) w := fun _ => by kernel_rfl
  have i1 : ∀ w, (Instr.index 42 (.agg #[.int .i64 a, .int .i64 b]) (.int .i64 1)).run Tryz.prog w = .ok (.int .i64 b) w := fun _ => by kernel_rfl
  go_enter Tryz.func39, Tryz.ntmps39
  go_wp2_with fail
  obtain ⟨D, hD⟩ : ∃ D, w.heap.size = D := ⟨_, rfl⟩
  have HD := Lib.hid hD
  rw [hD]
  clear hD
  go_loopw [14] (fun i wr => ∃ k : Nat, i = .int .i64 (k : Int) ∧ NewAt a b w k wr) (fun i _ => 2 - (intOf i).toNat)
  case atStart => exact ⟨0, rfl, H0.out⟩
  case round =>
    clear H0
    obtain ⟨k, rfl, hk⟩ := hrel
    rcases hk with ⟨rfl, hN⟩ | ⟨rfl, ha, B0, hN⟩ | ⟨rfl, ha, hb, B0, B1, hN⟩
    · rw [show ((0 : Nat) : Int) = (0 : Int) from rfl]
      have HN := Lib.hid hN
      clear hN
      by_cases ha : okN a
      · skip
        obtain ⟨n, hn⟩ : ∃ n : Nat, a = (n : Int) + 1 := ⟨(a - 1).toNat, by have := ha.1; omega⟩
        have hn2 : n ≤ 4095 := by have := ha.2; omega
        have HX := Lib.hid ha
        subst hn
        have h1 : ¬ ((n : Int) + 1) < 1 := by omega
        have h2 : ¬ 4096 < ((n : Int) + 1) := by omega
        have WK : Hid (IntKind.i64.wrap ((n : Int) + 1 - 1) = (n : Int)) := Lib.hid (by rw [IntWalk.i64_in _ (by omega)]; omega)
        clear ha
        have hlt := HN.out.1.lt
        go_wp2_with fail
        have HBK : Hid (Blk (wr.drew.alloc (.cells (acells (List.replicate n ⟨0, false⟩)).toArray 150)) D [.slice none 0 0, .slice none 0 0] 163) := Lib.hid (by have := (HN.out.1.drew).alloc (.cells (acells (List.replicate n ⟨0, false⟩)).toArray 150); rw [HD.out] at this; exact this)
        refine gS (.take 0 (.take 1 (.take 2 (.take 3 (.take 5 (.take 6 (.step 4 (.take 7 (.step 8 (.nil)))))))))) (fun _ => True) trivial ?_
        refine wpG_take _ (.pointer (some ⟨D, 0, none⟩)) rfl (by rfl) (fun Y hY => by rfl) ?_; try simp only [pS]
        refine wpG_take _ (.int .i64 ((0 : Nat) : Int)) rfl (by rfl) (fun Y hY => by rfl) ?_; try simp only [pS]
        refine wpG_take _ (.int .i64 ((n : Int) + 1)) rfl (by rfl) (fun Y hY => by rfl) ?_; try simp only [pS]
        refine wpG_take _ (.int .i64 (n : Int)) rfl (by rfl) (fun Y hY => exk_sub rfl rfl rfl WK.out) ?_; try simp only [pS]
        refine wpG_take _ (.pointer (some ⟨D, 0, none⟩)) rfl (by rfl) (fun Y hY => exk_nc rfl rfl) ?_; try simp only [pS]
        refine wpG_take _ (.pointer (some ⟨D, 0, none⟩)) rfl (by rfl) (fun Y hY => exk_fa rfl rfl) ?_; try simp only [pS]
        refine wpK_mk _ rfl (by rfl) (slv wr.drew.heap.size n) (wr.drew.alloc (.cells (acells (List.replicate n ⟨0, false⟩)).toArray 150)) (exk_make rfl rfl (by omega)) (fun _ => True) trivial (fun _ h => h) ?_; try simp only [pS]
        refine wpG_take _ (.pointer (some ⟨D, 0, none⟩)) rfl (by rfl) (fun Y hY => exk_ia (by omega) rfl rfl rfl) ?_; try simp only [pS]
        refine wpK_st _ rfl (by rfl) ((wr.drew.alloc (.cells (acells (List.replicate n ⟨0, false⟩)).toArray 150)).setCell ⟨D, 0, none⟩ (slv wr.drew.heap.size n)) (exk_st rfl rfl rfl (HBK.out.cell rfl) (HBK.out.free _)) (fun _ => True) trivial (fun _ h => h) ?_
        refine wpG_nil ?_
        have HW : Hid (NewAt ((n : Int) + 1) b w 1 ((wr.drew.alloc (.cells (acells (List.replicate n ⟨0, false⟩)).toArray 150)).setCell ⟨D, 0, none⟩ (slv wr.drew.heap.size n))) := Lib.hid ?hw
        generalize ((wr.drew.alloc (.cells (acells (List.replicate n ⟨0, false⟩)).toArray 150)).setCell ⟨D, 0, none⟩ (slv wr.drew.heap.size n)) = W2 at HW ⊢
        go_wp2_with fail
        go_roundw
        case rel => exact ⟨1, by go_num, HW.out⟩
        case measure => simp [intOf]
        case hw =>
          rw [HD.out] at hlt
          have e1 : ((n : Int) + 1 - 1).toNat = n := by omega
          have hnew := Blk.new wr.drew (acells (List.replicate n ⟨0, false⟩)) 150
          refine .inr (.inl ⟨rfl, HX.out, wr.heap.size, ?_⟩)
          rw [e1]
          refine ⟨?_, hnew.other (a := ⟨D, 0, none⟩) (by show wr.heap.size ≠ D; omega) _, by rw [HD.out]; exact hlt, ((HN.out.2.drew).alloc (HN.out.2.size) _).setCell (Nat.le_of_eq HD.out) _⟩
          rw [HD.out]
          exact HBK.out.set 0 _
      · skip
        have HA := Lib.hid ha
        have e : a < 1 ∨ 4096 < a := by unfold okN at ha; omega
        clear ha
        rcases e with e | e
        · go_wp2_with fail
          go_ret2
          exact ⟨HN.out.2, fun _ => rfl, fun h => absurd h.1 HA.out⟩
        · have e2 : ¬ a < 1 := by omega
          go_wp2_with fail
          go_ret2
          exact ⟨HN.out.2, fun _ => rfl, fun h => absurd h.1 HA.out⟩
    · rw [show ((1 : Nat) : Int) = (1 : Int) from rfl]
      have HN := Lib.hid hN
      have HAA := Lib.hid ha
      clear hN ha
      by_cases hb : okN b
      · skip
        obtain ⟨n, hn⟩ : ∃ n : Nat, b = (n : Int) + 1 := ⟨(b - 1).toNat, by have := hb.1; omega⟩
        have hn2 : n ≤ 4095 := by have := hb.2; omega
        have HX := Lib.hid hb
        subst hn
        have h1 : ¬ ((n : Int) + 1) < 1 := by omega
        have h2 : ¬ 4096 < ((n : Int) + 1) := by omega
        have WK : Hid (IntKind.i64.wrap ((n : Int) + 1 - 1) = (n : Int)) := Lib.hid (by rw [IntWalk.i64_in _ (by omega)]; omega)
        clear hb
        have hlt := HN.out.1.lt
        go_wp2_with fail
        have HBK : Hid (Blk (wr.drew.alloc (.cells (acells (List.replicate n ⟨0, false⟩)).toArray 150)) D [slv B0 (a - 1).toNat, .slice none 0 0] 163) := Lib.hid (by have := (HN.out.1.drew).alloc (.cells (acells (List.replicate n ⟨0, false⟩)).toArray 150); rw [HD.out] at this; exact this)
        refine gS (.take 0 (.take 1 (.take 2 (.take 3 (.take 5 (.take 6 (.step 4 (.take 7 (.step 8 (.nil)))))))))) (fun _ => True) trivial ?_
        refine wpG_take _ (.pointer (some ⟨D, 0, none⟩)) rfl (by rfl) (fun Y hY => by rfl) ?_; try simp only [pS]
        refine wpG_take _ (.int .i64 ((1 : Nat) : Int)) rfl (by rfl) (fun Y hY => by rfl) ?_; try simp only [pS]
        refine wpG_take _ (.int .i64 ((n : Int) + 1)) rfl (by rfl) (fun Y hY => by rfl) ?_; try simp only [pS]
        refine wpG_take _ (.int .i64 (n : Int)) rfl (by rfl) (fun Y hY => exk_sub rfl rfl rfl WK.out) ?_; try simp only [pS]
        refine wpG_take _ (.pointer (some ⟨D, 0, none⟩)) rfl (by rfl) (fun Y hY => exk_nc rfl rfl) ?_; try simp only [pS]
        refine wpG_take _ (.pointer (some ⟨D, 0, none⟩)) rfl (by rfl) (fun Y hY => exk_fa rfl rfl) ?_; try simp only [pS]
        refine wpK_mk _ rfl (by rfl) (slv wr.drew.heap.size n) (wr.drew.alloc (.cells (acells (List.replicate n ⟨0, false⟩)).toArray 150)) (exk_make rfl rfl (by omega)) (fun _ => True) trivial (fun _ h => h) ?_; try simp only [pS]
        refine wpG_take _ (.pointer (some ⟨D, 1, none⟩)) rfl (by rfl) (fun Y hY => exk_ia (by omega) rfl rfl rfl) ?_; try simp only [pS]
        refine wpK_st _ rfl (by rfl) ((wr.drew.alloc (.cells (acells (List.replicate n ⟨0, false⟩)).toArray 150)).setCell ⟨D, 1, none⟩ (slv wr.drew.heap.size n)) (exk_st rfl rfl rfl (HBK.out.cell rfl) (HBK.out.free _)) (fun _ => True) trivial (fun _ h => h) ?_
        refine wpG_nil ?_
        have HW : Hid (NewAt a ((n : Int) + 1) w 2 ((wr.drew.alloc (.cells (acells (List.replicate n ⟨0, false⟩)).toArray 150)).setCell ⟨D, 1, none⟩ (slv wr.drew.heap.size n))) := Lib.hid ?hw
        generalize ((wr.drew.alloc (.cells (acells (List.replicate n ⟨0, false⟩)).toArray 150)).setCell ⟨D, 1, none⟩ (slv wr.drew.heap.size n)) = W2 at HW ⊢
        go_wp2_with fail
        go_roundw
        case rel => exact ⟨2, by go_num, HW.out⟩
        case measure => simp [intOf]
        case hw =>
          rw [HD.out] at hlt
          have e1 : ((n : Int) + 1 - 1).toNat = n := by omega
          have hnew := Blk.new wr.drew (acells (List.replicate n ⟨0, false⟩)) 150
          have hb0 := HN.out.2.1.lt
          have hlt0 := HN.out.2.2.1
          rw [HD.out] at hlt0
          refine .inr (.inr ⟨rfl, HAA.out, HX.out, B0, wr.heap.size, ?_⟩)
          rw [e1]
          refine ⟨?_, ((HN.out.2.1.drew).alloc _).other (a := ⟨D, 1, none⟩) (by show B0 ≠ D; omega) _, hnew.other (a := ⟨D, 1, none⟩) (by show wr.heap.size ≠ D; omega) _, by rw [HD.out]; exact hlt0, hb0, ((HN.out.2.2.2.drew).alloc (HN.out.2.2.2.size) _).setCell (Nat.le_of_eq HD.out) _⟩
          rw [HD.out]
          exact HBK.out.set 1 _
      · skip
        have HA := Lib.hid hb
        have e : b < 1 ∨ 4096 < b := by unfold okN at hb; omega
        clear hb
        rcases e with e | e
        · go_wp2_with fail
          go_ret2
          exact ⟨HN.out.2.2.2, fun _ => rfl, fun h => absurd h.2 HA.out⟩
        · have e2 : ¬ b < 1 := by omega
          go_wp2_with fail
          go_ret2
          exact ⟨HN.out.2.2.2, fun _ => rfl, fun h => absurd h.2 HA.out⟩
    · rw [show ((2 : Nat) : Int) = (2 : Int) from rfl]
      have HN := Lib.hid hN
      have HAA := Lib.hid ha
      have HBB := Lib.hid hb
      clear hN ha hb
      go_wp2_with fail
      go_ret2
      refine ⟨HN.out.2.2.2.2.2, fun h => absurd ⟨HAA.out, HBB.out⟩ h, fun _ => ?_⟩
      obtain ⟨B, h1, h2⟩ := HN.out.sp (by have := HAA.out.1; have := HAA.out.2; omega) (by have := HBB.out.1; have := HBB.out.2; omega)
      refine ⟨B, ?_, h1, h2⟩
      rw [HD.out]
      rfl
end Go.Proofs.YtmgagalhpkieoaaGreatDoor
/- The space that is known. -/
namespace Go.Proofs.YtmgagalhpkieoaaGreatDoor
open Go.RowKit

end Go.Proofs.YtmgagalhpkieoaaGreatDoor
/- Slices of addresses that the call made: what they hold; Has, without. -/
namespace Go.Proofs.YtmgagalhpkieoaaGreatDoor
open Go.RowKit

def U (a : Nat) : Value := .int .u16 (a : Int)
theorem infoU : (Tryz.prog.info? 52).map (fun i => (i.zero, i.size, i.bytes)) = some (some (.int .u16 0), 1, 2) := by kernel_rfl
abbrev OwnU (w : World) (B : Nat) (v : Value) (l : List Nat) : Prop := w.ownsRow B 52 1 v l.length (l.map U)
def SrcU (w : World) (sp : Option Addr) (l : List Nat) : Prop := 0 < l.length → ∃ g, sp = some ⟨g, 0, none⟩ ∧ ∀ j a, l[j]? = some a → w.cell? ⟨g, j, none⟩ = some (U a)
theorem OwnU.form {w : World} {B : Nat} {v : Value} {l : List Nat} (h : OwnU w B v l) : ∃ sp cap, v = .slice sp l.length cap ∧ l.length ≤ cap ∧ cap ≤ maxLen ∧ SrcU w sp l ∧ (sp = none → cap = 0) := by
  rcases h.2 with ⟨rfl, hn⟩ | ⟨g, cap, cur, rfl, hb, hg, hc, hm, _, _⟩
  · exact ⟨none, 0, by rw [hn], by omega, by unfold maxLen; omega, fun h0 => by omega, fun _ => rfl⟩
  · refine ⟨some ⟨g, 0, none⟩, cap, rfl, hc, hm, fun _ => ⟨g, rfl, fun j a hj => ?_⟩, fun hh => by cases hh⟩
    have hlt := (List.getElem?_eq_some_iff.1 hj).1
    rw [h.cellAt j (by omega), List.getElem?_map, hj]
    rfl
theorem OwnU.chg {F : Nat → Prop} {w W : World} {B : Nat} {v : Value} {l : List Nat} (h : OwnU w B v l) (hc : Chg F w W) (hn : ∀ g, v.ownBlock = some g → ¬ F g) : OwnU W B v l := by
  refine ⟨h.1, ?_⟩
  rcases h.2 with hn | ⟨g, cap, cur, rfl, hbg, hg, rest⟩
  · exact .inl hn
  · exact .inr ⟨g, cap, cur, rfl, hbg, by rw [hc.block g (Array.getElem?_eq_some_iff.1 hg).1 (hn g rfl)]; exact hg, rest⟩
theorem OwnU.below {w W : World} {B : Nat} {v : Value} {l : List Nat} (h : OwnU w B v l) (hb : Below w.heap.size w W) : OwnU W B v l := h.chg (Chg.of_below (F := fun _ => False) hb) (fun _ _ h => h)
theorem OwnU.blk {w : World} {B g : Nat} {v : Value} {l : List Nat} (h : OwnU w B v l) (hg : v.ownBlock = some g) : B ≤ g ∧ g < w.heap.size ∧ ∃ cs, Blk w g cs 52 := by
  rcases h.2 with ⟨rfl, _⟩ | ⟨g', cap, cur, rfl, hb, hgg, _⟩
  · simp [Value.ownBlock] at hg
  · simp [Value.ownBlock] at hg
    subst hg
    exact ⟨hb, (Array.getElem?_eq_some_iff.1 hgg).1, cur.toList, by unfold Blk; simpa using hgg⟩
theorem ownU_nil (w : World) (B : Nat) : OwnU w B (.slice none 0 0) [] := World.ownsRow_nil _ _ _ _
theorem ownU_app {w : World} {B : Nat} {v : Value} {l m : List Nat} (h : OwnU w B v l) (hB : B ≤ w.heap.size) (hl : l.length ≤ 1000) (hm : m.length ≤ 1000) {sp : Option Addr} {c : Nat} (hsrc : SrcU w sp m) (hz : sp = none → m.length = 0 ∧ c = 0) (ty : TypeId) :
    ∃ v' w', (Builtin.append_ #[47, 47] ty #[v, .slice sp m.length c]).run Tryz.prog w = .ok v' w' ∧ OwnU w' B v' (l ++ m) ∧ w.grownBy w' v.ownBlock ∧ (v'.ownBlock = v.ownBlock ∨ v'.ownBlock = some w.heap.size) := by
  obtain ⟨i0, hi, hz0, hz1, hz2⟩ := info_parts infoU
  cases sp with
  | none =>
    obtain ⟨h1, h2⟩ := hz rfl
    obtain rfl := List.eq_nil_of_length_eq_zero h1
    subst h2
    refine ⟨v, w, run_append_owned_none (P := Tryz.prog) (w := w) B 47 ty 52 i0 1 Tryz.underlying47 hi v l.length (l.map U) h, by rw [List.append_nil]; exact h, ⟨rfl, rfl, rfl, Nat.le_refl _, fun _ _ _ => rfl⟩, .inl rfl⟩
  | some ad =>
    obtain ⟨v', w', hr, h2, h3, _, h5⟩ := run_append_own_at (P := Tryz.prog) w B 47 ty 52 i0 (.int .u16 0) 1 2 Tryz.underlying47 hi hz0 hz1 hz2 rfl (by decide) v l.length (l.map U) h ad m.length c (m.map U) (by simp) (fun j u hj => by
      have hjl := (List.getElem?_eq_some_iff.1 hj).1
      rw [List.length_map] at hjl
      obtain ⟨g, e, hc⟩ := hsrc (by omega)
      cases e
      rw [List.getElem?_map] at hj
      obtain ⟨a, ha, rfl⟩ := Option.map_eq_some_iff.1 hj
      rw [Addr.add_mid, Nat.zero_add]
      exact hc j a ha) (fun u hu => by obtain ⟨a, _, rfl⟩ := List.mem_map.1 hu; rfl) (by unfold maxLen; omega) (by omega) hB
    refine ⟨v', w', hr, ?_, h3, h5⟩
    unfold OwnU
    rw [List.map_append, List.length_append]
    exact h2
theorem ex_appU {ρ : Operand → Value} {o : Oper} {x y : Operand} {v u v' : Value} {w w' : World} (ho : o.op = .call { callee := .builtin .append, args := #[x, y], argTypes := #[47, 47] }) (hx : ρ x = v) (hy : ρ y = u)
    (hr : (Builtin.append_ #[47, 47] o.type #[v, u]).run Tryz.prog w = .ok v' w') : (execOp ρ o).run Tryz.prog w = .ok (.value v') w' := by
  unfold execOp
  simp only [ho, resolve, invoke, builtin, Sem.run_bind, Sem.run_pure, Result.andThen_ok, List.map_toArray, List.map_cons, List.map_nil, hx, hy, hr]
theorem k_wpL_val {ops : Array Oper} {rest : List Oper} {o : Oper} {a : Act} {Q : Exit → Act → World → Prop} {w w' : World} {v : Value} (hg : o.guard = none) (hrun : (execOp a.eval o).run Tryz.prog w = .ok (.value v) w')
    (hK : wpList Tryz.prog ops Q rest (a.put o.dst v) w') : wpList Tryz.prog ops Q (o :: rest) a w := by
  refine wpList_plain hg fun K' hK' => ?_
  unfold Oper.wp
  rw [hrun]
  exact hK' _ _ hK
theorem k_src_one (w : World) (a : Nat) : SrcU (w.alloc (.cells #[.int .u16 (a : Int)] 52)) (some ⟨w.heap.size, 0, none⟩) [a] := fun _ => ⟨w.heap.size, rfl, fun j b hj => by
  cases j with
  | zero => simp at hj; subst hj; exact (Blk.new w [U a] 52).cell rfl
  | succ j => simp at hj⟩
def hasB (l : List Nat) (a : Nat) : Bool := l.contains a
theorem hasB_iff (l : List Nat) (a : Nat) : hasB l a = true ↔ a ∈ l := by simp [hasB]
set_option maxRecDepth 100000 in
set_option maxHeartbeats 4000000 in
theorem has_any (sp : Option Addr) (cap : Nat) (l : List Nat) (a : Nat) (w : World) (hl : l.length ≤ 1000) (h : SrcU w sp l) : Calls Tryz.prog 61 #[.slice sp l.length cap, .int .u16 (a : Int)] w fun e w' => e = .returned (.bool (hasB l a)) ∧ w = w' := by
  obtain ⟨n, hn⟩ : ∃ n, l.length = n := ⟨_, rfl⟩
  have HN := Lib.hid hn
  have H := Lib.hid h
  rw [hn] at hl ⊢
  clear hn h
  go_enter Tryz.func61, Tryz.ntmps61
  go_wp2_with fail
  go_loop [5] (fun i => ∃ k : Nat, k ≤ n ∧ i = .int .i64 (k : Int) ∧ Hid (∀ (j b : Nat), j < k → l[j]? = some b → b ≠ a)) (fun i => n - (intOf i).toNat)
  case atStart => exact ⟨0, by omega, rfl, Lib.hid fun j b hj => by omega⟩
  case round =>
    obtain ⟨k, hk, rfl, HK⟩ := hrel
    have wk := IntWalk.i64_in ((k : Int) + 1) (by omega)
    by_cases hlt : k < n
    · obtain ⟨b, hb⟩ : ∃ b, l[k]? = some b := ⟨_, List.getElem?_eq_getElem (by rw [HN.out]; exact hlt)⟩
      obtain ⟨g, rfl, hc⟩ := H.out (by rw [HN.out]; omega)
      have c0 : w.cell? ⟨g, k, none⟩ = some (.int .u16 (b : Int)) := hc k b hb
      have HB := Lib.hid hb
      clear hc hb
      by_cases hba : b = a
      · have ht : ((b : Int) == (a : Int)) = true := by simp; omega
        have HT : Hid (hasB l a = true) := Lib.hid (by rw [hasB_iff, ← hba]; exact List.mem_of_getElem? HB.out)
        clear hba
        go_wp2_with fail
        go_ret
        rw [HT.out]
        exact ⟨rfl, rfl⟩
      · have ht : ((b : Int) == (a : Int)) = false := by simp; omega
        have HK2 : Hid (∀ (j b : Nat), j < k + 1 → l[j]? = some b → b ≠ a) := Lib.hid fun j c hj hc => by
          by_cases e : j = k
          · subst e; rw [HB.out] at hc; cases hc; exact hba
          · exact HK.out j c (by omega) hc
        clear hba
        go_wp2_with fail
        go_round
        case rel => exact ⟨k + 1, by omega, by go_num, HK2⟩
        case measure => simp [intOf]; omega
    · obtain rfl : k = n := by omega
      have HT : Hid (hasB l a = false) := Lib.hid (by
        cases hh : hasB l a with
        | false => rfl
        | true =>
          obtain ⟨j, hj⟩ := List.getElem?_of_mem ((hasB_iff l a).1 hh)
          have hjl := (List.getElem?_eq_some_iff.1 hj).1
          exact absurd rfl (HK.out j a (by rw [HN.out] at hjl; exact hjl) hj))
      go_wp2_with fail
      go_ret
      rw [HT.out]
      exact ⟨rfl, rfl⟩
def wo (l : List Nat) (a : Nat) : List Nat := l.filter fun b => b != a
theorem wo_snoc {l : List Nat} {k b : Nat} (a : Nat) (h : l[k]? = some b) : wo (l.take (k + 1)) a = wo (l.take k) a ++ if b != a then [b] else [] := by
  obtain ⟨h1, h2⟩ := List.getElem?_eq_some_iff.1 h
  unfold wo
  rw [List.take_succ_eq_append_getElem h1, List.filter_append, h2]
  simp [List.filter_cons]
theorem wo_len (l : List Nat) (a k : Nat) : (wo (l.take k) a).length ≤ l.length := Nat.le_trans (List.length_filter_le _ _) (by simp; omega)
def WoAt (w0 w : World) (v : Value) (l : List Nat) (a k : Nat) : Prop := OwnU w w0.heap.size v (wo (l.take k) a) ∧ Below w0.heap.size w0 w
set_option maxRecDepth 100000 in
set_option maxHeartbeats 4000000 in
theorem without_any (sp : Option Addr) (cap : Nat) (l : List Nat) (a : Nat) (w : World) (hl : l.length ≤ 1000) (h : SrcU w sp l) (hlt : ∀ g o s, sp = some ⟨g, o, s⟩ → g < w.heap.size) : Calls Tryz.prog 112 #[.slice sp l.length cap, .int .u16 (a : Int)] w fun e w' => ∃ v, e = .returned v ∧ OwnU w' w.heap.size v (wo l a) ∧ Below w.heap.size w w' := by
  obtain ⟨n, hn⟩ : ∃ n, l.length = n := ⟨_, rfl⟩
  have HN := Lib.hid hn
  have H := Lib.hid h
  have HLT := Lib.hid hlt
  have H0 : Hid (WoAt w w (.slice none 0 0) l a 0) := Lib.hid ⟨ownU_nil _ _, Below.refl _ _⟩
  rw [hn] at hl ⊢
  clear hn h hlt
  go_enter Tryz.func112, Tryz.ntmps112
  go_wp2_with fail
  go_loopw [5, 6] (fun v i wr => ∃ k : Nat, k ≤ n ∧ i = .int .i64 (k : Int) ∧ WoAt w wr v l a k) (fun _ i _ => n - (intOf i).toNat)
  case atStart => exact ⟨0, by omega, rfl, H0.out⟩
  case round =>
    clear H0
    obtain ⟨k, hk, rfl, hW⟩ := hrel
    have wk := IntWalk.i64_in ((k : Int) + 1) (by omega)
    obtain ⟨spv, capv, rfl, _⟩ := hW.1.form
    have hll := wo_len l a k
    have hsz := hW.2.size
    rw [HN.out] at hll
    have HW := Lib.hid hW
    clear hW
    by_cases hlt : k < n
    · obtain ⟨b, hb⟩ : ∃ b, l[k]? = some b := ⟨_, List.getElem?_eq_getElem (by rw [HN.out]; exact hlt)⟩
      obtain ⟨g, rfl, hc⟩ := H.out (by rw [HN.out]; omega)
      have c0 : wr.cell? ⟨g, k, none⟩ = some (.int .u16 (b : Int)) := (HW.out.2.cell (p := ⟨g, k, none⟩) (HLT.out g 0 none rfl)).trans (hc k b hb)
      have HSN := Lib.hid (wo_snoc a hb)
      clear hc hb
      by_cases hba : b = a
      · have ht : ((b : Int) != (a : Int)) = false := by simp; omega
        have HE : Hid (wo (l.take (k + 1)) a = wo (l.take k) a) := Lib.hid (by rw [HSN.out]; simp [hba])
        clear hba
        go_wp2_with fail
        go_roundw
        case rel => exact ⟨k + 1, by omega, by go_num, by unfold WoAt; rw [HE.out]; exact HW.out⟩
        case measure => simp [intOf]; omega
      · have ht : ((b : Int) != (a : Int)) = true := by simp; omega
        have HE : Hid (wo (l.take (k + 1)) a = wo (l.take k) a ++ [b]) := Lib.hid (by rw [HSN.out]; simp [hba])
        clear hba
        have hb1 : Below wr.heap.size wr (wr.alloc (.cells #[.int .u16 (b : Int)] 52)) := (Below.refl _ _).alloc (Nat.le_refl _) _
        obtain ⟨v3, w3, hr3, ho3, hg3, hg4⟩ := ownU_app (HW.out.1.below hb1) (Nat.le_trans hsz hb1.size) (by omega) (m := [b]) (by simp) (c := 1) (k_src_one wr b) (by simp) 47
        have hb3 : Below w.heap.size w w3 := (HW.out.2.trans (hb1.mono hsz)).grown hg3 (Nat.le_trans hsz hb1.size) (fun q hq => (HW.out.1.blk hq).1)
        have HR3 := Lib.hid hr3
        have HN3 : Hid (WoAt w w3 v3 l a (k + 1)) := Lib.hid ⟨by rw [HE.out]; exact ho3, hb3⟩
        obtain ⟨sp3, cap3, e3, _⟩ := ho3.form
        rw [List.length_append, List.length_singleton] at e3
        clear hr3 ho3 hg3 hg4 hb3 hb1
        subst e3
        go_wp2_with (first | (at_builtin; refine k_wpL_val rfl (ex_appU rfl rfl rfl HR3.out) ?_) | fail)
        go_roundw
        case rel => exact ⟨k + 1, by omega, by go_num, HN3.out⟩
        case measure => simp [intOf]; omega
    · obtain rfl : k = n := by omega
      have hall : wo (l.take k) a = wo l a := by rw [List.take_of_length_le (by rw [HN.out]; exact Nat.le_refl _)]
      have HALL := Lib.hid hall
      clear hall hlt hll
      go_wp2_with fail
      go_ret
      exact ⟨_, rfl, by rw [← HALL.out]; exact HW.out.1, HW.out.2⟩
end Go.Proofs.YtmgagalhpkieoaaGreatDoor
/- The document's disk: in memory; what becomes of it. -/
namespace Go.Proofs.YtmgagalhpkieoaaGreatDoor
open Go.RowKit

structure Rdk where
  n : Nat
  l : Nat → List Nat
def Rdk.set (rd : Rdk) (i : Nat) (m : List Nat) : Rdk := ⟨rd.n, fun x => if x = i then m else rd.l x⟩
def upV (v : Nat → Value) (i : Nat) (u : Value) : Nat → Value := fun x => if x = i then u else v x
structure RdIn (w : World) (lo : Nat) (lab : Nat → Nat) (b R : Nat) (v : Nat → Value) (rd : Rdk) : Prop where
  blk : Blk w R [.int .i64 (rd.n : Int), v 0, v 1, v 2] 51
  row : ∀ i, i < 3 → OwnU w lo (v i) (rd.l i) ∧ ∀ g, (v i).ownBlock = some g → lab g = b + i
  loR : lo ≤ R
def Foot (w : World) (lo : Nat) (lab : Nat → Nat) (b R : Nat) (g : Nat) : Prop := g = R ∨ (lo ≤ g ∧ b ≤ lab g ∧ lab g < b + 3 ∧ ∃ cs, Blk w g cs 52)
theorem RdIn.lo {w : World} {lo : Nat} {lab : Nat → Nat} {b R : Nat} {v : Nat → Value} {rd : Rdk} (h : RdIn w lo lab b R v rd) : lo ≤ w.heap.size := Nat.le_of_lt (Nat.lt_of_le_of_lt h.loR h.blk.lt)
theorem RdIn.chg {F : Nat → Prop} {w w' : World} {lo : Nat} {lab lab' : Nat → Nat} {b R : Nat} {v : Nat → Value} {rd : Rdk} (h : RdIn w lo lab b R v rd) (hc : Chg F w w') (hl : ∀ g, g < w.heap.size → lab' g = lab g) (hF : ∀ g, F g → ¬ Foot w lo lab b R g) : RdIn w' lo lab' b R v rd :=
  ⟨h.blk.chg hc (fun hf => hF _ hf (.inl rfl)), fun i hi => ⟨(h.row i hi).1.chg hc (fun g hg hf => hF g hf (.inr (by
    obtain ⟨h1, h2, h3⟩ := (h.row i hi).1.blk hg
    exact ⟨h1, by rw [(h.row i hi).2 g hg]; omega, by rw [(h.row i hi).2 g hg]; omega, h3⟩))), fun g hg => by rw [hl g ((h.row i hi).1.blk hg).2.1]; exact (h.row i hi).2 g hg⟩, h.loR⟩
def labs (w : World) (lab : Nat → Nat) (c : Nat) : Nat → Nat := fun g => if g < w.heap.size then lab g else c
theorem cells_R (n : Int) (v : Nat → Value) (i : Nat) (hi : i < 3) (u : Value) : [.int .i64 n, v 0, v 1, v 2].set (i + 1) u = [.int .i64 n, upV v i u 0, upV v i u 1, upV v i u 2] := by
  obtain rfl | rfl | rfl : i = 0 ∨ i = 1 ∨ i = 2 := by omega
  · rfl
  · rfl
  · rfl
theorem RdIn.put {F : Nat → Prop} {w w' : World} {lo : Nat} {lab lab' : Nat → Nat} {b R : Nat} {v : Nat → Value} {rd : Rdk} (h : RdIn w lo lab b R v rd) {i : Nat} (hi : i < 3) {v' : Value} {l' : List Nat} (hlab : ∀ g, g < w.heap.size → lab' g = lab g)
    (hc : Chg F w w') (hF : ∀ g, F g → (v i).ownBlock = some g) (ho : OwnU w' lo v' l') (hl : ∀ g, v'.ownBlock = some g → lab' g = b + i) :
    RdIn (w'.setCell ⟨R, i + 1, none⟩ v') lo lab' b R (upV v i v') (rd.set i l') ∧ Chg (Foot w lo lab b R) w (w'.setCell ⟨R, i + 1, none⟩ v') := by
  have hFR : ¬ F R := fun hf => by
    obtain ⟨_, _, cs, hb⟩ := (h.row i hi).1.blk (hF R hf)
    exact absurd (h.blk.same hb) (by decide)
  have hb := (h.blk.chg hc hFR).set (i + 1) v'
  have hRo : ∀ (u : Value) (m : List Nat), OwnU w' lo u m → OwnU (w'.setCell ⟨R, i + 1, none⟩ v') lo u m := fun u m hu => hu.chg (chg1 w' R (i + 1) v') (fun g hg e => by
    subst e
    obtain ⟨_, _, cs, hb2⟩ := hu.blk hg
    exact absurd ((h.blk.chg hc hFR).same hb2) (by decide))
  refine ⟨⟨?_, fun j hj => ?_, h.loR⟩, ?_⟩
  · rw [cells_R _ v i hi v'] at hb
    exact hb
  · unfold upV Rdk.set
    by_cases e : j = i
    · subst e
      simp only [if_pos]
      exact ⟨hRo _ _ ho, hl⟩
    · simp only [if_neg e]
      refine ⟨hRo _ _ ((h.row j hj).1.chg hc (fun g hg hf => ?_)), fun g hg => ?_⟩
      · have h1 := (h.row j hj).2 g hg
        have h2 := (h.row i hi).2 g (hF g hf)
        omega
      · rw [hlab g ((h.row j hj).1.blk hg).2.1]
        exact (h.row j hj).2 g hg
  · refine (Chg.trans (F := Foot w lo lab b R) (G := F) (Chg.refl _ w) hc (fun g hf => ?_)).trans (chg1 w' R (i + 1) v') (fun g hg => .inl (.inl hg))
    obtain ⟨h1, h2, h3⟩ := (h.row i hi).1.blk (hF g hf)
    have h4 := (h.row i hi).2 g (hF g hf)
    exact .inl (.inr ⟨h1, by omega, by omega, h3⟩)
def RdPost (w : World) (lo : Nat) (lab : Nat → Nat) (b R : Nat) (rd : Rdk) (w' : World) : Prop := ∃ lab' v, (∀ g, g < w.heap.size → lab' g = lab g) ∧ RdIn w' lo lab' b R v rd ∧ Chg (Foot w lo lab b R) w w'
section
variable {w : World} {lo : Nat} {lab : Nat → Nat} {b R : Nat} {v : Nat → Value} {rd : Rdk}
theorem RdIn.new (h : RdIn w lo lab b R v rd) {i : Nat} (hi : i < 3) {w' : World} (hb : Below w.heap.size w w') {v' : Value} {l' : List Nat} (ho : OwnU w' w.heap.size v' l') :
    w'.cell? ⟨R, i + 1, none⟩ = some (v i) ∧ w'.frozen? ⟨R, i + 1, none⟩ = false ∧ RdPost w lo lab b R (rd.set i l') (w'.setCell ⟨R, i + 1, none⟩ v') := by
  have ho' : OwnU w' lo v' l' := by
    refine ⟨ho.1, ?_⟩
    rcases ho.2 with hn | ⟨g, cap, cur, e, hg, rest⟩
    · exact .inl hn
    · exact .inr ⟨g, cap, cur, e, Nat.le_trans h.lo hg, rest⟩
  have := h.put hi (lab' := labs w lab (b + i)) (v' := v') (l' := l') (fun g hg => by simp [labs, hg]) (Chg.of_below (F := fun _ => False) hb) (fun g hg => hg.elim) ho' (fun g hg => by
    have := (ho.blk hg).1
    simp only [labs, if_neg (Nat.not_lt.2 this)])
  have hbR := h.blk.below hb h.blk.lt
  refine ⟨hbR.cell ?_, hbR.free _, _, _, fun g hg => by simp [labs, hg], this.1, this.2⟩
  obtain rfl | rfl | rfl : i = 0 ∨ i = 1 ∨ i = 2 := by omega
  all_goals rfl
end
end Go.Proofs.YtmgagalhpkieoaaGreatDoor
