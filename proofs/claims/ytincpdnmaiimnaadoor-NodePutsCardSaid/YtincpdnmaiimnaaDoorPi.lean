/- A pointer's copies, gone through by a function: the iterator; that no two are at one place. -/
import Derived.Test.YtincpdnmaiimnaaDoorPc
import Derived.RangeFuncNested
import Derived.RangeFuncBound
import Derived.RangeFuncCalls
import Derived.RangeFuncLeaves
import Derived.Shelf.Abstract
import Derived.Shelf.RegionOpen
import Derived.OwnWalkIn
import Derived.TacticsInMore
import Derived.LoopNIn
import Derived.LoopIn
namespace Go.Proofs.YtincpdnmaiimnaaDoor
open Go.RowKit Go.Shelf

attribute [local go_sem] Oper.semAt_some

/-- A copy: its disk, its address. -/
abbrev Cp := { x : Nat × Nat // x.1 < 2 ∧ 0 < x.2 ∧ x.2 < 65536 }
def encC (x : Cp) : Array Value := #[.int .i64 (x.1.1 : Int), .int .u16 (x.1.2 : Int)]
def cpsFrom : Nat → List Nat → List Cp
  | _, [] => []
  | i, a :: l => if h : i < 4 ∧ 0 < a ∧ a < 65536 then ⟨(i / 2, a), by simp only; omega, h.2⟩ :: cpsFrom (i + 1) l else cpsFrom (i + 1) l
theorem cpsFrom_val : ∀ (l : List Nat) (i : Nat), i + l.length ≤ 4 → (∀ x ∈ l, x < 65536) → (cpsFrom i l).map (·.1) = copiesFrom i l
  | [], _, _, _ => rfl
  | a :: l, i, hi, hx => by
    have ha := hx a (by simp)
    have ih := cpsFrom_val l (i + 1) (by simp at hi; omega) (fun x h => hx x (by simp [h]))
    simp only [List.length_cons] at hi
    by_cases h : a = 0
    · simp [cpsFrom, copiesFrom, h, ih]
    · have h2 : i < 4 ∧ 0 < a ∧ a < 65536 := ⟨by omega, by omega, ha⟩
      simp [cpsFrom, copiesFrom, h, h2, ih]
theorem cpsFrom_append : ∀ (l m : List Nat) (i : Nat), cpsFrom i (l ++ m) = cpsFrom i l ++ cpsFrom (i + l.length) m
  | [], m, i => by simp [cpsFrom]
  | a :: l, m, i => by
    have ih := cpsFrom_append l m (i + 1)
    simp only [List.cons_append, cpsFrom, List.length_cons]
    rw [ih, show i + 1 + l.length = i + (l.length + 1) by omega]
    split <;> simp
def cps (p : Pt) : List Cp := cpsFrom 0 p.ats
theorem cps_val {p : Pt} (hp : p.OK) : (cps p).map (·.1) = copiesP p := cpsFrom_val _ _ (by rw [hp.len]; omega) hp.ats
/-- What has come when k places have been looked at. -/
def upto (p : Pt) (k : Nat) : List Cp := cpsFrom 0 (p.ats.take k)
theorem upto_all {p : Pt} (hp : p.OK) : upto p 4 = cps p := by unfold upto cps; rw [List.take_of_length_le (by rw [hp.len]; omega)]
theorem upto_step {p : Pt} (hp : p.OK) {k a : Nat} (ha : p.ats[k]? = some a) : upto p (k + 1) = upto p k ++ cpsFrom k [a] := by
  have hk := (List.getElem?_eq_some_iff.1 ha).1
  have h2 : p.ats[k] = a := (List.getElem?_eq_some_iff.1 ha).2
  unfold upto
  rw [List.take_succ_eq_append_getElem hk, h2, cpsFrom_append]
  congr 2
  simp
  omega
theorem upto_skip {p : Pt} (hp : p.OK) {k : Nat} (ha : p.ats[k]? = some 0) : upto p (k + 1) = upto p k := by
  rw [upto_step hp ha]; simp [cpsFrom]
theorem upto_prefix {p : Pt} (hp : p.OK) (k : Nat) : upto p k <+: cps p := by
  refine ⟨cpsFrom (0 + (p.ats.take k).length) (p.ats.drop k), ?_⟩
  unfold upto cps
  rw [← cpsFrom_append, List.take_append_drop]
theorem cpsFrom_length : ∀ (l : List Nat) (i : Nat), (cpsFrom i l).length ≤ l.length
  | [], _ => by simp [cpsFrom]
  | a :: l, i => by
    have ih := cpsFrom_length l (i + 1)
    unfold cpsFrom
    split <;> simp <;> omega
theorem upto_length (p : Pt) (k : Nat) : (upto p k).length ≤ k := Nat.le_trans (cpsFrom_length _ _) (by simp; omega)
theorem index_ats (p : Pt) {k a : Nat} (ha : p.ats[k]? = some a) (hk : k < 4) (W : World) : (Instr.index 26 (.agg (p.ats.map U16).toArray) (.int .i64 (k : Int))).run Tryd.prog W = .ok (.int .u16 (a : Int)) W :=
  run_index_cells 26 22 4 _ k _ W Tryd.underlying26 Tryd.underlying22 hk sizeU16 (by simp [ha, U16])
theorem copies_any (p : Pt) (w : World) : Calls Tryd.prog 45 #[.agg (pcells p).toArray] w fun e w' => e = .returned (.func (.func 57) #[] #[.pointer (some ⟨w.heap.size, 0, none⟩)]) ∧ w' = w.alloc (.cells (pcells p).toArray 28) := by
  go_enter Tryd.func45, Tryd.ntmps45
  go_wp2
  go_ret
  exact ⟨rfl, rfl⟩
theorem run_equalIn_nilF {t : TypeId} (ht : ∃ a b c, Tryd.prog.underlying t = some (.func a b c)) (f : Fn) (ts xs : Array Value) (d : Nat) (W : World) : (Op.equalIn (d + 1) t (.func f ts xs) .nilFunc).run Tryd.prog W = .ok false W := by
  obtain ⟨a, b, c, ht⟩ := ht
  simp [Op.equalIn, run_underlying ht]
theorem run_nilF {t : TypeId} (ht : ∃ a b c, Tryd.prog.underlying t = some (.func a b c)) (f : Fn) (ts xs : Array Value) (W : World) : (binOp .eql t (.func f ts xs) .nilFunc).run Tryd.prog W = .ok (.bool false) W := by
  simp only [binOp]
  simp [Op.equal, Op.maxDepth, run_equalIn_nilF ht f ts xs 9999]
/-- No more than any world. -/
def NoKp (_ _ : World) : Prop := True
set_option maxRecDepth 100000 in
set_option maxHeartbeats 4000000 in
theorem copies1_in (F : Fence) (n : Nat) (h7 : F.fn 57) (hro : F.round = none) (hn : 1 ≤ n) (l B : Nat) (p : Pt) (hp : p.OK) (J Jx : List Cp → World → Prop)
    (hY : ∀ pre x W, J pre W → pre.length < 4 → YieldAt F (n - 1) Tryd.prog l (encC x) W fun e W' =>
      (e = .returned (.bool true) ∧ J (pre ++ [x]) W' ∧ NoKp W W') ∨ (e = .returned (.bool false) ∧ Jx (pre ++ [x]) W'))
    (W : World) (hB : Blk W B (pcells p) 28) (h0 : J [] W) :
    CallsIn F n Tryd.prog 57 #[.func (.yield l) #[] #[], .pointer (some ⟨B, 0, none⟩)] W fun e W' => (∃ v, e = .returned v) ∧ ((∃ ys, ys = cps p ∧ J ys W') ∨ (∃ pre, pre <+: cps p ∧ Jx pre W')) := by
  have hh := hp.hash
  have HP := Lib.hid hp
  obtain ⟨a0, a1, a2, a3, hats⟩ : ∃ a0 a1 a2 a3, p.ats = [a0, a1, a2, a3] := by
    have := hp.len
    match h : p.ats, this with
    | [a, b, c, d], _ => exact ⟨a, b, c, d, rfl⟩
  have c37 : W.cell? ⟨B, 37, none⟩ = some (.int .u16 (a0 : Int)) := cell_ats hB hh (k := 0) (by rw [hats]; rfl)
  have c38 : W.cell? ⟨B, 38, none⟩ = some (.int .u16 (a1 : Int)) := cell_ats hB hh (k := 1) (by rw [hats]; rfl)
  have c39 : W.cell? ⟨B, 39, none⟩ = some (.int .u16 (a2 : Int)) := cell_ats hB hh (k := 2) (by rw [hats]; rfl)
  have c40 : W.cell? ⟨B, 40, none⟩ = some (.int .u16 (a3 : Int)) := cell_ats hB hh (k := 3) (by rw [hats]; rfl)
  have HAT := Lib.hid hats
  clear hp hB hats hh
  refine callsIn_of_wp Tryd.func57 rfl h7 ?_ hro
  simp only [Tryd.ntmps57, List.size_toArray, List.length_cons, List.length_nil, Nat.reduceAdd, Nat.reduceSub, Array.replicate_succ, Array.replicate_zero, List.push_toArray, List.append_toArray, List.nil_append, List.cons_append]
  gi_wp2
  gi_loopw [7] (fun i wr => ∃ k : Nat, k ≤ 4 ∧ i = .int .i64 k ∧ J (upto p k) wr) (fun i _ => 4 - (intOf i).toNat)
  case atStart => exact ⟨0, Nat.zero_le _, rfl, h0⟩
  case round =>
    clear c37 c38 c39 c40
    obtain ⟨k, hk, rfl, hJs⟩ := hrel
    by_cases hlt : k < 4
    · obtain ⟨x, hx⟩ : ∃ x, p.ats[k]? = some x := ⟨_, List.getElem?_eq_getElem (by rw [HP.out.len]; exact hlt)⟩
      have hix : ∀ W : World, (Instr.index 26 (.agg #[.int .u16 (a0 : Int), .int .u16 (a1 : Int), .int .u16 (a2 : Int), .int .u16 (a3 : Int)]) (.int .i64 (k : Int))).run Tryd.prog W = .ok (.int .u16 (x : Int)) W := fun W => by
        have := index_ats p hx hlt W
        rw [HAT.out] at this
        exact this
      have hxl : x < 65536 := HP.out.ats x (List.mem_of_getElem? hx)
      have q : (k : Int) < 4 := by omega
      by_cases h00 : x = 0
      · subst h00
        have hJ2 : J (upto p (k + 1)) wr := by rw [upto_skip HP.out hx]; exact hJs
        have HX := Lib.hid hx
        clear hx
        gi_wp2
        go_roundw
        case rel => exact ⟨k + 1, by omega, by go_num, hJ2⟩
        case measure => simp [intOf]; omega
      · have hxz : ¬ (x : Int) = 0 := by omega
        obtain ⟨cp, hc1, hst⟩ : ∃ cp : Cp, cp.1 = (k / 2, x) ∧ upto p (k + 1) = upto p k ++ [cp] := by
          have hcp : k / 2 < 2 ∧ 0 < x ∧ x < 65536 := ⟨by omega, by omega, hxl⟩
          refine ⟨⟨(k / 2, x), hcp⟩, rfl, ?_⟩
          rw [upto_step HP.out hx]
          simp [cpsFrom, hlt, hcp.2]
        obtain ⟨fn, tmps, assign, body, hy, hR⟩ := hY _ cp wr hJs (by have := upto_length p k; omega)
        have he : encC cp = #[.int .i64 ((k : Int) / 2), .int .u16 (x : Int)] := by unfold encC; rw [hc1]; rfl
        rw [he] at hy
        have HX := Lib.hid hx
        have HST := Lib.hid hst
        clear hx hst he
        have hnf := fun W => run_nilF (t := 92) ⟨_, _, _, Tryd.underlying92⟩ (Fn.yield l) #[] #[] W
        gi_wp2
        refine hR.mono ?_
        rintro e W3 (⟨rfl, hJ3, _⟩ | ⟨rfl, hJx3⟩)
        · gi_wp2
          go_roundw
          case rel => exact ⟨k + 1, by omega, by go_num, by rw [HST.out]; exact hJ3⟩
          case measure => simp [intOf]; omega
        · gi_wp2
          refine bodyPost_ret (results_none rfl _ _ _) rfl ?_
          exact ⟨⟨_, rfl⟩, .inr ⟨_, by rw [← HST.out]; exact upto_prefix HP.out (k + 1), hJx3⟩⟩
    · obtain rfl : k = 4 := by omega
      gi_wp2
      go_end0
      exact ⟨⟨_, rfl⟩, .inl ⟨_, (upto_all HP.out), hJs⟩⟩
theorem copies_stops (F : Fence) (n : Nat) (h7 : F.fn 57) (hro : F.round = none) (hn : 1 ≤ n) (B : Nat) (p : Pt) (hp : p.OK) (w : World) (hB : Blk w B (pcells p) 28) :
    SeqStopsK F n Tryd.prog 57 #[.pointer (some ⟨B, 0, none⟩)] encC NoKp (fun ys => ys = cps p) (fun pre => pre <+: cps p) 4 w := fun l J Jx W hW _ _ hY h0 =>
  copies1_in F n h7 hro hn l B p hp J Jx hY W (hB.below hW hB.lt) h0
end Go.Proofs.YtincpdnmaiimnaaDoor
