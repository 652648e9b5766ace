/- What a kind asks; how many copies it has; whether a pointer may be, as the document says it. -/
import Derived.Test.YtjgjohdeeeoeoaaGreatDoorM04
import Derived.RangeFuncNested
import Derived.RangeFuncBound
import Derived.RangeFuncCalls
import Derived.RangeFuncLeaves
import Derived.Shelf.Abstract
import Derived.Shelf.RegionOpen
import Derived.OwnWalkIn
import Derived.TacticsInMore
import Derived.LoopNIn
import Derived.LoopIn
import Derived.Deep.DeepCutAuto
namespace Go.Proofs.YtjgjohdeeeoeoaaGreatDoor
open Go.RowKit
def rcell (k : Nat) : List Value := [.int .i64 (wideN k : Int), .int .u8 (lowN k : Int), .int .u8 (highN k : Int)]
def RTab (w : World) : Prop := ∃ t fr, w.heap[0]? = some (.cells ((List.range 6).flatMap rcell).toArray t fr)
theorem RTab.lt {w : World} (h : RTab w) : 0 < w.heap.size := by
  obtain ⟨t, fr, h⟩ := h
  exact (Array.getElem?_eq_some_iff.1 h).1
theorem RTab.of_heap {w w' : World} (h : RTab w) (he : w'.heap[0]? = w.heap[0]?) : RTab w' := by
  obtain ⟨t, fr, h⟩ := h
  exact ⟨t, fr, by rw [he]; exact h⟩
theorem RTab.below {B : Nat} {w w' : World} (h : RTab w) (hb : Below B w w') (hB : w.heap.size ≤ B) : RTab w' := h.of_heap (hb.block 0 (Nat.lt_of_lt_of_le h.lt hB))
theorem RTab.grown {w w' : World} (h : RTab w) (hb : Below w.heap.size w w') : RTab w' := h.below hb (Nat.le_refl _)
theorem RTab.alloc {w : World} (h : RTab w) (o : Obj) : RTab (w.alloc o) := h.of_heap (Below.heap_alloc w o 0 h.lt)
theorem RTab.range {w : World} (h : RTab w) {k : Nat} (hk : k < 6) : w.rangeAt 0 (k * 3) (rcell k) := by
  obtain ⟨t, fr, h⟩ := h
  intro j v hv
  rw [cell_of_row w 0 (k * 3 + j) _ t fr h]
  have hj : j < 3 := by
    have := (List.getElem?_eq_some_iff.1 hv).1
    simpa [rcell] using this
  match k, hk with
  | 0, _ | 1, _ | 2, _ | 3, _ | 4, _ | 5, _ =>
    match j, hj with
    | 0, _ | 1, _ | 2, _ => exact hv
theorem one_rule (k : Nat) : (rcell k).toArray.all (·.oneCell') = true := by simp [rcell, Value.oneCell']
theorem blk_row1 (w : World) (z : Array Value) (cs : List Value) (t : TypeId) : Blk ((w.alloc (.cells z t)).setRow w.heap.size cs.toArray) w.heap.size cs t ∧ Below w.heap.size w ((w.alloc (.cells z t)).setRow w.heap.size cs.toArray) :=
  ⟨Blk.row (Blk.new' w z z.toList t _ rfl (by simp)) _, below_row ((Below.refl _ _).alloc (Nat.le_refl _) _) (Nat.le_refl _) _⟩
theorem rcell_none {k : Nat} (h : ¬ k < 6) : rcell k = [.int .i64 0, .int .u8 0, .int .u8 0] := by
  unfold rcell wideN lowN highN
  rw [if_pos (by omega), if_neg (by omega), if_neg (by omega)]
  rfl
set_option maxRecDepth 100000 in
theorem rule_any (k : Nat) (hk : k < 256) (w : World) (hT : RTab w) : Calls Tryz.prog 84 #[.int .u8 (k : Int)] w fun e w' => e = .returned (.agg (rcell k).toArray) ∧ Below w.heap.size w w' := by
  have HT := Lib.hid hT
  clear hT
  have e1 := IntWalk.i64_in (k : Int) (by omega)
  obtain ⟨r, hr⟩ : ∃ r, rcell k = r := ⟨_, rfl⟩
  have hr3 : r.length = 3 := by rw [← hr]; rfl
  have HR3 := Lib.hid hr3
  have HSZ : Hid ((Tryz.prog.info? 158).map (·.size) = some r.toArray.size) := Lib.hid (by rw [sizeRule]; simp [hr3])
  have HONE : Hid (r.toArray.all (·.oneCell') = true) := Lib.hid (by rw [← hr]; exact one_rule k)
  have HB := Lib.hid (blk_row1 w #[.int .i64 0, .int .u8 0, .int .u8 0] r 158)
  go_enter Tryz.func84, Tryz.ntmps84
  by_cases h6 : k < 6
  · have HG : Hid ((w.alloc (.cells #[.int .i64 0, .int .u8 0, .int .u8 0] 158)).rangeAt 0 (k * 3) r) := Lib.hid (by rw [← hr]; exact (HT.out.alloc _).range h6)
    have hk6 : (k : Int) < 6 := by omega
    rw [hr]
    clear hr hr3
    go_wp2_with (first | (refine wpL_val rfl (ex_ld (ty := 158) (cs := r) (off := k * 3) rfl rfl HG.out Tryz.underlying158 rfl (by rw [sizeRule, HR3.out])) ?_) | (refine wpList_store_row rfl 158 (.tmp 2) (.tmp 8) rfl w.heap.size _ rfl rfl 158 _ (heap_alloc_new _ _) HSZ.out (by simp [HR3.out]) HONE.out ?_) | fail)
    exact bodyPost_ret (results_cell_row Tryz.results84 _ _ w.heap.size 158 _ _ _ rfl HB.out.1 Tryz.underlying158 rfl HSZ.out) rfl ⟨rfl, HB.out.2⟩
  · have hk6 : ¬ (k : Int) < 6 := by omega
    have h0 := rcell_none h6
    rw [hr] at h0
    rw [hr, h0]
    rw [h0] at HB
    clear hr hr3 h0 HR3 HSZ HONE h6
    go_wp2
    exact bodyPost_ret (results_cell_row Tryz.results84 _ _ w.heap.size 158 _ _ _ rfl (heap_alloc_new _ _) Tryz.underlying158 rfl sizeRule) rfl ⟨rfl, (Below.refl _ _).alloc (Nat.le_refl _) _⟩
end Go.Proofs.YtjgjohdeeeoeoaaGreatDoor
namespace Go.Proofs.YtjgjohdeeeoeoaaGreatDoor
open Go.RowKit Go.Shelf
attribute [local go_sem] Oper.semAt_some
abbrev Cp := { x : Nat × Nat // x.1 < 2 ∧ 0 < x.2 ∧ x.2 < 65536 }
def encC (x : Cp) : Array Value := #[.int .i64 (x.1.1 : Int), .int .u16 (x.1.2 : Int)]
def cpsFrom : Nat → List Nat → List Cp
  | _, [] => []
  | i, a :: l => if h : i < 4 ∧ 0 < a ∧ a < 65536 then ⟨(i / 2, a), by simp only; omega, h.2⟩ :: cpsFrom (i + 1) l else cpsFrom (i + 1) l
theorem cpsFrom_val : ∀ (l : List Nat) (i : Nat), i + l.length ≤ 4 → (∀ x ∈ l, x < 65536) → (cpsFrom i l).map (·.1) = copiesFrom i l
  | [], _, _, _ => rfl
  | a :: l, i, hi, hx => by
    have ha := hx a (by simp)
    have ih := cpsFrom_val l (i + 1) (by simp at hi; omega) (fun x h => hx x (by simp [h]))
    simp only [List.length_cons] at hi
    by_cases h : a = 0
    · simp [cpsFrom, copiesFrom, h, ih]
    · have h2 : i < 4 ∧ 0 < a ∧ a < 65536 := ⟨by omega, by omega, ha⟩
      simp [cpsFrom, copiesFrom, h, h2, ih]
theorem cpsFrom_append : ∀ (l m : List Nat) (i : Nat), cpsFrom i (l ++ m) = cpsFrom i l ++ cpsFrom (i + l.length) m
  | [], m, i => by simp [cpsFrom]
  | a :: l, m, i => by
    have ih := cpsFrom_append l m (i + 1)
    simp only [List.cons_append, cpsFrom, List.length_cons]
    rw [ih, show i + 1 + l.length = i + (l.length + 1) by omega]
    split <;> simp
def cps (p : Pt) : List Cp := cpsFrom 0 p.ats
theorem cps_val {p : Pt} (hp : p.OK) : (cps p).map (·.1) = copiesP p := cpsFrom_val _ _ (by rw [hp.len]; omega) hp.ats
def upto (p : Pt) (k : Nat) : List Cp := cpsFrom 0 (p.ats.take k)
theorem upto_all {p : Pt} (hp : p.OK) : upto p 4 = cps p := by unfold upto cps; rw [List.take_of_length_le (by rw [hp.len]; omega)]
theorem upto_step {p : Pt} (hp : p.OK) {k a : Nat} (ha : p.ats[k]? = some a) : upto p (k + 1) = upto p k ++ cpsFrom k [a] := by
  have hk := (List.getElem?_eq_some_iff.1 ha).1
  have h2 : p.ats[k] = a := (List.getElem?_eq_some_iff.1 ha).2
  unfold upto
  rw [List.take_succ_eq_append_getElem hk, h2, cpsFrom_append]
  congr 2
  simp
  omega
theorem upto_skip {p : Pt} (hp : p.OK) {k : Nat} (ha : p.ats[k]? = some 0) : upto p (k + 1) = upto p k := by
  rw [upto_step hp ha]; simp [cpsFrom]
theorem upto_prefix {p : Pt} (hp : p.OK) (k : Nat) : upto p k <+: cps p := by
  refine ⟨cpsFrom (0 + (p.ats.take k).length) (p.ats.drop k), ?_⟩
  unfold upto cps
  rw [← cpsFrom_append, List.take_append_drop]
theorem cpsFrom_length : ∀ (l : List Nat) (i : Nat), (cpsFrom i l).length ≤ l.length
  | [], _ => by simp [cpsFrom]
  | a :: l, i => by
    have ih := cpsFrom_length l (i + 1)
    unfold cpsFrom
    split <;> simp <;> omega
theorem upto_length (p : Pt) (k : Nat) : (upto p k).length ≤ k := Nat.le_trans (cpsFrom_length _ _) (by simp; omega)
theorem index_ats (p : Pt) {k a : Nat} (ha : p.ats[k]? = some a) (hk : k < 4) (W : World) : (Instr.index 26 (.agg (p.ats.map U16).toArray) (.int .i64 (k : Int))).run Tryz.prog W = .ok (.int .u16 (a : Int)) W :=
  run_index_cells 26 23 4 _ k _ W Tryz.underlying26 Tryz.underlying23 hk sizeU16 (by simp [ha, U16])
theorem copies_any (p : Pt) (w : World) : Calls Tryz.prog 106 #[.agg (pcells p).toArray] w fun e w' => e = .returned (.func (.func 121) #[] #[.pointer (some ⟨w.heap.size, 0, none⟩)]) ∧ w' = w.alloc (.cells (pcells p).toArray 28) := by
  go_enter Tryz.func106, Tryz.ntmps106
  go_wp2
  go_ret
  exact ⟨rfl, rfl⟩
theorem run_equalIn_nilF {t : TypeId} (ht : ∃ a b c, Tryz.prog.underlying t = some (.func a b c)) (f : Fn) (ts xs : Array Value) (d : Nat) (W : World) : (Op.equalIn (d + 1) t (.func f ts xs) .nilFunc).run Tryz.prog W = .ok false W := by
  obtain ⟨a, b, c, ht⟩ := ht
  simp [Op.equalIn, run_underlying ht]
theorem run_nilF {t : TypeId} (ht : ∃ a b c, Tryz.prog.underlying t = some (.func a b c)) (f : Fn) (ts xs : Array Value) (W : World) : (binOp .eql t (.func f ts xs) .nilFunc).run Tryz.prog W = .ok (.bool false) W := by
  simp only [binOp]
  simp [Op.equal, Op.maxDepth, run_equalIn_nilF ht f ts xs 9999]
def NoKp (_ _ : World) : Prop := True
set_option maxRecDepth 100000 in
set_option maxHeartbeats 4000000 in
theorem copies1_in (F : Fence) (n : Nat) (h7 : F.fn 121) (hro : F.round = none) (hn : 1 ≤ n) (l B : Nat) (p : Pt) (hp : p.OK) (J Jx : List Cp → World → Prop)
    (hY : ∀ pre x W, J pre W → pre.length < 4 → YieldAt F (n - 1) Tryz.prog l (encC x) W fun e W' =>
      (e = .returned (.bool true) ∧ J (pre ++ [x]) W' ∧ NoKp W W') ∨ (e = .returned (.bool false) ∧ Jx (pre ++ [x]) W'))
    (W : World) (hB : Blk W B (pcells p) 28) (h0 : J [] W) :
    CallsIn F n Tryz.prog 121 #[.func (.yield l) #[] #[], .pointer (some ⟨B, 0, none⟩)] W fun e W' => (∃ v, e = .returned v) ∧ ((∃ ys, ys = cps p ∧ J ys W') ∨ (∃ pre, pre <+: cps p ∧ Jx pre W')) := by
  have hh := hp.hash
  have HP := Lib.hid hp
  obtain ⟨a0, a1, a2, a3, hats⟩ : ∃ a0 a1 a2 a3, p.ats = [a0, a1, a2, a3] := by
    have := hp.len
    match h : p.ats, this with
    | [a, b, c, d], _ => exact ⟨a, b, c, d, rfl⟩
  have c37 : W.cell? ⟨B, 37, none⟩ = some (.int .u16 (a0 : Int)) := cell_ats hB hh (k := 0) (by rw [hats]; rfl)
  have c38 : W.cell? ⟨B, 38, none⟩ = some (.int .u16 (a1 : Int)) := cell_ats hB hh (k := 1) (by rw [hats]; rfl)
  have c39 : W.cell? ⟨B, 39, none⟩ = some (.int .u16 (a2 : Int)) := cell_ats hB hh (k := 2) (by rw [hats]; rfl)
  have c40 : W.cell? ⟨B, 40, none⟩ = some (.int .u16 (a3 : Int)) := cell_ats hB hh (k := 3) (by rw [hats]; rfl)
  have HAT := Lib.hid hats
  clear hp hB hats hh
  refine callsIn_of_wp Tryz.func121 rfl h7 ?_ hro
  simp only [Tryz.ntmps121, List.size_toArray, List.length_cons, List.length_nil, Nat.reduceAdd, Nat.reduceSub, Array.replicate_succ, Array.replicate_zero, List.push_toArray, List.append_toArray, List.nil_append, List.cons_append]
  gi_wp2
  gi_loopw [7] (fun i wr => ∃ k : Nat, k ≤ 4 ∧ i = .int .i64 k ∧ J (upto p k) wr) (fun i _ => 4 - (intOf i).toNat)
  case atStart => exact ⟨0, Nat.zero_le _, rfl, h0⟩
  case round =>
    clear c37 c38 c39 c40
    obtain ⟨k, hk, rfl, hJs⟩ := hrel
    by_cases hlt : k < 4
    · obtain ⟨x, hx⟩ : ∃ x, p.ats[k]? = some x := ⟨_, List.getElem?_eq_getElem (by rw [HP.out.len]; exact hlt)⟩
      have hix : ∀ W : World, (Instr.index 26 (.agg #[.int .u16 (a0 : Int), .int .u16 (a1 : Int), .int .u16 (a2 : Int), .int .u16 (a3 : Int)]) (.int .i64 (k : Int))).run Tryz.prog W = .ok (.int .u16 (x : Int)) W := fun W => by
        have := index_ats p hx hlt W
        rw [HAT.out] at this
        exact this
      have hxl : x < 65536 := HP.out.ats x (List.mem_of_getElem? hx)
      have q : (k : Int) < 4 := by omega
      by_cases h00 : x = 0
      · subst h00
        have hJ2 : J (upto p (k + 1)) wr := by rw [upto_skip HP.out hx]; exact hJs
        have HX := Lib.hid hx
        clear hx
        gi_wp2
        go_roundw
        case rel => exact ⟨k + 1, by omega, by go_num, hJ2⟩
        case measure => simp [intOf]; omega
      · have hxz : ¬ (x : Int) = 0 := by omega
        obtain ⟨cp, hc1, hst⟩ : ∃ cp : Cp, cp.1 = (k / 2, x) ∧ upto p (k + 1) = upto p k ++ [cp] := by
          have hcp : k / 2 < 2 ∧ 0 < x ∧ x < 65536 := ⟨by omega, by omega, hxl⟩
          refine ⟨⟨(k / 2, x), hcp⟩, rfl, ?_⟩
          rw [upto_step HP.out hx]
          simp [cpsFrom, hlt, hcp.2]
        obtain ⟨fn, tmps, assign, body, hy, hR⟩ := hY _ cp wr hJs (by have := upto_length p k; omega)
        have he : encC cp = #[.int .i64 ((k : Int) / 2), .int .u16 (x : Int)] := by unfold encC; rw [hc1]; rfl
        rw [he] at hy
        have HX := Lib.hid hx
        have HST := Lib.hid hst
        clear hx hst he
        have hnf := fun W => run_nilF (t := 197) ⟨_, _, _, Tryz.underlying197⟩ (Fn.yield l) #[] #[] W
        gi_wp2
        refine hR.mono ?_
        rintro e W3 (⟨rfl, hJ3, _⟩ | ⟨rfl, hJx3⟩)
        · gi_wp2
          go_roundw
          case rel => exact ⟨k + 1, by omega, by go_num, by rw [HST.out]; exact hJ3⟩
          case measure => simp [intOf]; omega
        · gi_wp2
          refine bodyPost_ret (results_none rfl _ _ _) rfl ?_
          exact ⟨⟨_, rfl⟩, .inr ⟨_, by rw [← HST.out]; exact upto_prefix HP.out (k + 1), hJx3⟩⟩
    · obtain rfl : k = 4 := by omega
      gi_wp2
      go_end0
      exact ⟨⟨_, rfl⟩, .inl ⟨_, (upto_all HP.out), hJs⟩⟩
theorem copies_stops (F : Fence) (n : Nat) (h7 : F.fn 121) (hro : F.round = none) (hn : 1 ≤ n) (B : Nat) (p : Pt) (hp : p.OK) (w : World) (hB : Blk w B (pcells p) 28) :
    SeqStopsK F n Tryz.prog 121 #[.pointer (some ⟨B, 0, none⟩)] encC NoKp (fun ys => ys = cps p) (fun pre => pre <+: cps p) 4 w := fun l J Jx W hW _ _ hY h0 =>
  copies1_in F n h7 hro hn l B p hp J Jx hY W (hB.below hW hB.lt) h0
theorem Blk.kept {A W : World} {row : Option Nat} {g : Nat} {cs : List Value} {t : TypeId} (h : Blk A g cs t) (hg : A.grownBy W row) (hr : ∀ r, row = some r → ∃ o : Obj, A.heap[r]? = some o ∧ o.isCells = false) : Blk W g cs t := by
  unfold Blk
  rw [hg.block g h.lt (fun e => ?_)]
  · exact h
  · obtain ⟨o, h1, h2⟩ := hr g e.symm
    have h' : A.heap[g]? = some (.cells cs.toArray t (0, 0)) := h
    rw [h'] at h1
    cases h1
    cases h2
structure ApI (w : World) (pre : List Cp) (W : World) : Prop where
  h : ∃ f x y, sweep (pre.map (·.1)) (false, 0, 0) = some (f, x, y) ∧ Blk W (w.heap.size + 1 + 1) [.bool f] 4 ∧ Blk W (w.heap.size + 1 + 1 + 1) [.int .u16 (x : Int), .int .u16 (y : Int)] 181
  r : Blk W (w.heap.size + 1) [.bool false] 4
  b : Below w.heap.size w W
structure ApX (w : World) (c : Code) (pre : List Cp) (W : World) : Prop where
  c : c = .ret
  h : sweep (pre.map (·.1)) (false, 0, 0) = none
  r : Blk W (w.heap.size + 1) [.bool false] 4
  b : Below w.heap.size w W
theorem apI_own (w W0 : World) (hs : w.heap.size ≤ W0.heap.size) : OwnFrom W0.heap.size (ApI w) := fun s A B row hs0 hg hr => by
  have hr' : ∀ r, row = some r → ∃ o : Obj, A.heap[r]? = some o ∧ o.isCells = false := fun r e => (hr r e).2
  obtain ⟨f, x, y, h1, h2, h3⟩ := hs0.h
  exact ⟨⟨f, x, y, h1, h2.kept hg hr', h3.kept hg hr'⟩, hs0.r.kept hg hr', hs0.b.grown hg hs0.b.size (fun k e => by have := (hr k e).1; omega)⟩
theorem apX_own (w W0 : World) (hs : w.heap.size ≤ W0.heap.size) (c : Code) : OwnFrom W0.heap.size (ApX w c) := fun s A B row hs0 hg hr => by
  have hr' : ∀ r, row = some r → ∃ o : Obj, A.heap[r]? = some o ∧ o.isCells = false := fun r e => (hr r e).2
  exact ⟨hs0.c, hs0.h, hs0.r.kept hg hr', hs0.b.grown hg hs0.b.size (fun k e => by have := (hr k e).1; omega)⟩
def ApW (p : Pt) (w W : World) : Prop := Blk W w.heap.size (pcells p) 28 ∧ Blk W (w.heap.size + 1) [.bool false] 4 ∧ Blk W (w.heap.size + 1 + 1) [.bool false] 4 ∧ Blk W (w.heap.size + 1 + 1 + 1) [.int .u16 0, .int .u16 0] 181 ∧ Below w.heap.size w W ∧ W.heap.size = w.heap.size + 4
theorem apW_start (p : Pt) (w : World) : ApW p w ((((w.alloc (.cells (pcells p).toArray 28)).alloc (.cells #[.bool false] 4)).alloc (.cells #[.bool false] 4)).alloc (.cells #[.int .u16 0, .int .u16 0] 181)) :=
  ⟨(((Blk.new _ _ _).alloc _).alloc _).alloc _, ((Blk.new' _ _ [.bool false] _ _ (by simp) rfl).alloc _).alloc _, (Blk.new' _ _ [.bool false] _ _ (by simp) rfl).alloc _, Blk.new' _ _ [.int .u16 0, .int .u16 0] _ _ (by simp) rfl,
    (((((Below.refl _ _).alloc (Nat.le_refl _) _).alloc (by simp) _).alloc (by simp; omega) _).alloc (by simp; omega) _), by simp⟩
set_option maxRecDepth 100000 in
set_option maxHeartbeats 4000000 in
theorem apart_any (p : Pt) (hp : p.OK) (w : World) : Calls Tryz.prog 85 #[.agg (pcells p).toArray] w fun e w' => e = .returned (.bool (apartP p)) ∧ Below w.heap.size w w' := by
  have HP := Lib.hid hp
  obtain ⟨m, hm⟩ : ∃ m, apartP p = m := ⟨_, rfl⟩
  rw [hm]
  have HM := Lib.hid hm
  obtain ⟨P, hPP⟩ : ∃ P, (pcells p).toArray = P := ⟨_, rfl⟩
  have HPP := Lib.hid hPP
  have HSP : Hid ((Tryz.prog.info? 28).map (·.size) = some P.size) := Lib.hid (by rw [← hPP, sizeP]; simp [pcells_length hp])
  rw [hPP]
  clear hm hp hPP
  refine callsIn_wide.1 (callsIn_of_wp_marks (F := Fence.wide) (n := 5) Tryz.func85 rfl trivial ?_ rfl)
  refine wpIn_wide.2 ?_
  simp only [Tryz.ntmps85, List.size_toArray, List.length_cons, List.length_nil, Nat.reduceAdd, Nat.reduceSub, Array.replicate_succ, Array.replicate_zero, List.push_toArray, List.append_toArray, List.nil_append, List.cons_append]
  go_upto_region 3 with fail
  refine (fun (k : ∀ W1, ApW p w W1 → Code.wp _ _ _ _ W1) => k _ (by rw [← HPP.out]; exact apW_start p w)) ?_
  intro W1 hW
  have HW := Lib.hid hW
  have HC : Hid (Calls Tryz.prog 106 #[.agg P] W1 fun e w' => e = .returned (.func (.func 121) #[] #[.pointer (some ⟨W1.heap.size, 0, none⟩)]) ∧ w' = W1.alloc (.cells P 28)) := Lib.hid (by rw [← HPP.out]; exact copies_any p W1)
  have HG : Hid (W1.heap[w.heap.size]? = some (.cells P 28 (0, 0))) := Lib.hid (by rw [← HPP.out]; exact hW.1)
  clear hW
  go_wp2_with (first | (refine wpList_load_row rfl 28 (.tmp 1) rfl w.heap.size rfl 28 _ _ _ HG.out Tryz.underlying28 rfl HSP.out ?_) | (go_at_call 106; refine HC.out.mono ?_; rintro e w' ⟨rfl, rfl⟩) | fail)
  have hsz : W1.heap.size = w.heap.size + 4 := HW.out.2.2.2.2.2
  have hB5 : Blk (W1.alloc (.cells P 28)) W1.heap.size (pcells p) 28 := Blk.new' W1 P (pcells p) 28 _ rfl HPP.out.symm
  have HSZ := Lib.hid hsz
  clear hsz
  refine wpIn_wide.1 (wpIn_rangeFunc_ownF (n := 5) (w := W1.alloc (.cells P 28)) rfl (by omega) (gf := 121) (lb := #[.pointer (some ⟨W1.heap.size, 0, none⟩)]) rfl trivial (enters_of Tryz.func121 (by kernel_rfl) rfl)
    (copies_stops Fence.wide 4 trivial rfl (by omega) W1.heap.size p HP.out _ hB5) (fun _ _ => trivial) (fun _ _ _ _ _ _ _ _ => trivial) (Below.refl _ _) (fun _ => rfl)
    (ApI w) (ApX w) (apI_own w _ (by have := HSZ.out; simp; omega)) (apX_own w _ (by have := HSZ.out; simp; omega)) ⟨⟨false, 0, 0, rfl, HW.out.2.2.1.alloc _, HW.out.2.2.2.1.alloc _⟩, HW.out.2.1.alloc _, HW.out.2.2.2.2.1.alloc (by have := HSZ.out; omega) _⟩
    (fun x => { tmps := #[.agg P, .pointer (some ⟨w.heap.size, 0, none⟩), .pointer (some ⟨w.heap.size + 1, 0, none⟩), .pointer (some ⟨w.heap.size + 1 + 1, 0, none⟩), .pointer (some ⟨w.heap.size + 1 + 1 + 1, 0, none⟩), .int .i64 (x.1.1 : Int), .int .u16 (x.1.2 : Int), .agg P, .func (.func 121) #[] #[.pointer (some ⟨W1.heap.size, 0, none⟩)], .int .i64 (x.1.1 : Int), .int .u16 (x.1.2 : Int), undef, undef, undef, undef, undef, undef, undef, undef, undef], defers := [] }) ?assign ?body ?done ?stop)
  case assign =>
    intro l x W K hK
    unfold encC
    gi_wp2
    exact hK
  case body =>
    rintro l pre ⟨⟨d, a⟩, hd, ha0, hal⟩ W hI _
    have HI := Lib.hid hI
    obtain ⟨⟨f, x, y, hsw, hb2, hb3⟩, hr, hb⟩ := hI
    simp only at hd ha0 hal
    have c3 := hb3.cell (j := 0) rfl
    have c4 := hb3.cell (j := 1) rfl
    have f3 := hb3.free 0
    have f4 := hb3.free 1
    have c2 := hb2.cell (j := 0) rfl
    have f2 := hb2.free 0
    have c1 := hr.cell (j := 0) rfl
    have f1 := hr.free 0
    have HSW := Lib.hid hsw
    clear hb2 hb3 hr hb hsw
    have hcl : a = (if d = 0 then x else y) → ApX w .ret (pre ++ [⟨(d, a), hd, ha0, hal⟩]) (W.setCell ⟨w.heap.size + 1, 0, none⟩ (.bool false)) := fun e =>
      ⟨rfl, by rw [List.map_append, sweep_append, HSW.out]; show sweep [(d, a)] (f, x, y) = none; show (if _ then _ else _) = _; rw [if_pos e], HI.out.r.set 0 (.bool false), HI.out.b.setCell (by simp) _⟩
    have hgo : ¬ a = (if d = 0 then x else y) → ApI w (pre ++ [⟨(d, a), hd, ha0, hal⟩]) ((W.setCell ⟨w.heap.size + 1 + 1, 0, none⟩ (.bool true)).setCell ⟨w.heap.size + 1 + 1 + 1, d, none⟩ (.int .u16 (a : Int))) := fun e => by
      obtain ⟨⟨f', x', y', hsw, hb2, hb3⟩, hr, hb⟩ := HI.out
      rw [HSW.out] at hsw
      cases hsw
      have h2 := (hb2.set 0 (.bool true)).other (a := ⟨w.heap.size + 1 + 1 + 1, d, none⟩) (by simp) (.int .u16 (a : Int))
      have h3 := (hb3.other (a := ⟨w.heap.size + 1 + 1, 0, none⟩) (by simp) (.bool true)).set d (.int .u16 (a : Int))
      have hs : sweep ((pre ++ [(⟨(d, a), hd, ha0, hal⟩ : Cp)]).map (fun z => z.1)) (false, 0, 0) = some (if d = 0 then (true, a, y) else (true, x, a)) := by
        rw [List.map_append, sweep_append, HSW.out]
        show sweep [(d, a)] (f, x, y) = _
        show (if _ then _ else _) = _
        rw [if_neg e]
        rfl
      have hr' := (hr.other (a := ⟨w.heap.size + 1 + 1, 0, none⟩) (by simp) (.bool true)).other (a := ⟨w.heap.size + 1 + 1 + 1, d, none⟩) (by first | (simp; done) | (simp; omega)) (.int .u16 (a : Int))
      have hbb := (hb.setCell (p := ⟨w.heap.size + 1 + 1, 0, none⟩) (by first | (simp; done) | (simp; omega)) (.bool true)).setCell (p := ⟨w.heap.size + 1 + 1 + 1, d, none⟩) (by first | (simp; done) | (simp; omega)) (.int .u16 (a : Int))
      have hd' : d = 0 ∨ d = 1 := by omega
      rcases hd' with rfl | rfl
      · exact ⟨⟨true, a, y, hs, h2, h3⟩, hr', hbb⟩
      · exact ⟨⟨true, x, a, hs, h2, h3⟩, hr', hbb⟩
    have HCL := Lib.hid hcl; have HGO := Lib.hid hgo
    clear hcl hgo
    have hd' : d = 0 ∨ d = 1 := by omega
    rcases hd' with rfl | rfl
    · by_cases hc : a = x
      · have hci : (a : Int) = (x : Int) := by omega
        have HR := Lib.hid (HCL.out (by simp [hc]))
        clear hc HCL HGO
        gi_wp2
        exact ⟨KeepsOthers.setCell _ _ _, HR.out⟩
      · have hci : ¬ (a : Int) = (x : Int) := by omega
        have HR := Lib.hid (HGO.out (by simp [hc]))
        clear hc HCL HGO
        gi_wp2
        exact ⟨(KeepsOthers.setCell _ _ _).trans (KeepsOthers.setCell _ _ _), trivial, HR.out⟩
    · by_cases hc : a = y
      · have hci : (a : Int) = (y : Int) := by omega
        have HR := Lib.hid (HCL.out (by simp [hc]))
        clear hc HCL HGO
        gi_wp2
        exact ⟨KeepsOthers.setCell _ _ _, HR.out⟩
      · have hci : ¬ (a : Int) = (y : Int) := by omega
        have HR := Lib.hid (HGO.out (by simp [hc]))
        clear hc HCL HGO
        gi_wp2
        exact ⟨(KeepsOthers.setCell _ _ _).trans (KeepsOthers.setCell _ _ _), trivial, HR.out⟩
  case done =>
    rintro D ys W hD rfl hI hK
    have hI0 := hI
    obtain ⟨⟨f, x, y, hsw, hb2, -⟩, hr, -⟩ := hI
    have c2 := hb2.cell (j := 0) rfl
    have c1 := hr.cell (j := 0) rfl
    have f1 := hr.free 0
    have hmf : m = f := by
      rw [← HM.out]
      unfold apartP
      rw [← cps_val HP.out, hsw]
    subst hmf
    have HI := Lib.hid hI0
    clear hI0 hb2 hr hsw
    go_wp2
    have hK' := (KeepsOthers.setCell W ⟨w.heap.size + 1, 0, none⟩ (.bool m)).same D _ hK rfl
    refine ⟨by simp, .inl ⟨_, _, rfl, run_takeDeferred hK', ?_⟩⟩
    have hc5 := cell_kept (World.cell?_setCell_same' W ⟨w.heap.size + 1, 0, none⟩ (.bool m) (by rw [c1]; rfl)) (grownBy_putObj' _ D (.deferred none)) (fun r e => by cases e; exact ⟨_, hK', rfl⟩)
    refine ⟨.bool m, ?_, rfl, (HI.out.b.setCell (p := ⟨w.heap.size + 1, 0, none⟩) (by simp) _).trans (belowK_b (w := w) (Nat.le_refl _) _ D _ _ (by have := HSZ.out; simp at hD; omega) hK' rfl rfl)⟩
    simp [results, Tryz.f85, go_sem, hc5]
  case stop =>
    rintro D c pre W hD hpre hX hK
    obtain ⟨rfl, hsw, hr, hb⟩ := hX
    have hmf : m = false := by
      rw [← HM.out]
      unfold apartP
      obtain ⟨r, hr⟩ := hpre
      rw [← cps_val HP.out, ← hr, List.map_append, sweep_append, hsw]
      rfl
    subst hmf
    have c1 := hr.cell (j := 0) rfl
    refine wpIn_wide.2 ?_
    go_wp2
    refine ⟨by simp, .inl ⟨_, _, rfl, run_takeDeferred hK, ?_⟩⟩
    have hc5 := cell_kept c1 (grownBy_putObj' _ D (.deferred none)) (fun r e => by cases e; exact ⟨_, hK, rfl⟩)
    refine ⟨.bool false, ?_, rfl, hb.trans (belowK_b (w := w) (Nat.le_refl _) _ D _ _ (by have := HSZ.out; simp at hD; omega) hK rfl rfl)⟩
    simp [results, Tryz.f85, go_sem, hc5]
end Go.Proofs.YtjgjohdeeeoeoaaGreatDoor
namespace Go.Proofs.YtjgjohdeeeoeoaaGreatDoor
open Go.RowKit
structure MyW (p : Pt) (w : World) (g : Nat) (W : World) : Prop where
  a : Blk W w.heap.size (pcells p) 28
  r : Blk W g (rcell p.kind) 158
  b : Below w.heap.size w W
theorem myW_start {p : Pt} {w w1 : World} (h : Blk w1 w.heap.size (pcells p) 28) (hb : Below w.heap.size w w1) (z : Array Value) : MyW p w w1.heap.size ((w1.alloc (.cells z 158)).setRow w1.heap.size (rcell p.kind).toArray) := by
  obtain ⟨h1, h2⟩ := blk_row1 w1 z (rcell p.kind) 158
  exact ⟨h.below h2 h.lt, h1, hb.trans (h2.mono hb.size)⟩
set_option maxRecDepth 100000 in
set_option maxHeartbeats 4000000 in
theorem may_any (p : Pt) (hp : p.OK) (w : World) (hT : RTab w) : Calls Tryz.prog 58 #[.agg (pcells p).toArray] w fun e w' => e = .returned (.bool (mayP p)) ∧ Below w.heap.size w w' := by
  have HP := Lib.hid hp
  have hk := hp.kind
  obtain ⟨m, hm⟩ : ∃ m, mayP p = m := ⟨_, rfl⟩
  rw [hm]
  have HM := Lib.hid hm
  have HG0 : Hid (Blk (w.alloc (.cells (pcells p).toArray 28)) w.heap.size (pcells p) 28) := Lib.hid (Blk.new _ _ _)
  have HB0 : Hid (Below w.heap.size w (w.alloc (.cells (pcells p).toArray 28))) := Lib.hid ((Below.refl _ _).alloc (Nat.le_refl _) _)
  have HT : Hid (RTab (w.alloc (.cells (pcells p).toArray 28))) := Lib.hid (hT.alloc _)
  have cK := HG0.out.cell (j := 0) rfl
  have HK := Lib.hid hk
  obtain ⟨P, hPP⟩ : ∃ P, (pcells p).toArray = P := ⟨_, rfl⟩
  have HPP := Lib.hid hPP
  have HSP : Hid ((Tryz.prog.info? 28).map (·.size) = some P.size) := Lib.hid (by rw [← hPP, sizeP]; simp [pcells_length hp])
  rw [hPP] at HG0 HB0 HT cK ⊢
  clear hm hp hT hPP hk
  go_enter Tryz.func58, Tryz.ntmps58
  go_upto_region 1 with fail
  generalize (w.alloc (.cells P 28)) = W0 at HG0 HB0 HT cK ⊢
  go_upto_region 2 with (first | (go_at_call 84; refine (rule_any p.kind HK.out _ HT.out).mono ?_; rintro e w1 ⟨rfl, hb1⟩; have HG1 := Lib.hid (HG0.out.below hb1 HG0.out.lt); have HB1 := Lib.hid (HB0.out.trans (hb1.mono HB0.out.size)); clear hb1) | (refine wpList_store_row rfl 158 (.tmp 3) (.tmp 8) rfl w1.heap.size _ rfl rfl 158 _ (heap_alloc_new _ _) (by rw [sizeRule]; rfl) rfl (one_rule _) ?_) | fail)
  refine (fun (k : ∀ W1, MyW p w w1.heap.size W1 → Code.wp _ _ _ _ W1) => k _ (myW_start HG1.out HB1.out _)) ?_
  intro W hW
  have HW := Lib.hid hW
  obtain ⟨ha, hr, hb⟩ := hW
  have cL := ha.cell (j := 1) rfl
  have cw := hr.cell (j := 0) rfl
  have cl := hr.cell (j := 1) rfl
  have ch := hr.cell (j := 2) rfl
  have HB := Lib.hid hb
  have HA : Hid (W.heap[w.heap.size]? = some (.cells P 28 (0, 0))) := Lib.hid (by rw [← HPP.out]; exact ha)
  have HAT := Lib.hid (rng_ats ha HP.out.hash)
  obtain ⟨g, hg⟩ : ∃ g, w1.heap.size = g := ⟨_, rfl⟩
  rw [hg] at cw cl ch ⊢
  clear ha hr hb HW HG1 HB1 hg cK HG0 HB0 HT
  by_cases hl : p.level < lowN p.kind
  · have : (p.level : Int) < (lowN p.kind : Int) := by omega
    obtain rfl : m = false := by rw [← HM.out]; unfold mayP; rw [decide_eq_false (by omega)]; rfl
    go_wp2
    go_ret
    exact ⟨rfl, HB.out⟩
  have il : ¬ (p.level : Int) < (lowN p.kind : Int) := by omega
  by_cases hh : highN p.kind < p.level
  · have : (highN p.kind : Int) < (p.level : Int) := by omega
    obtain rfl : m = false := by rw [← HM.out]; unfold mayP; rw [decide_eq_false (by omega)]; rfl
    go_wp2
    go_ret
    exact ⟨rfl, HB.out⟩
  have ih : ¬ (highN p.kind : Int) < (p.level : Int) := by omega
  have HLV : Hid (decide (lowN p.kind ≤ p.level ∧ p.level ≤ highN p.kind) = true) := Lib.hid (decide_eq_true (by omega))
  clear hl hh
  go_wp2_with (first | (refine wpL_val rfl (ex_ld (ty := 26) (cs := p.ats.map U16) rfl rfl HAT.out Tryz.underlying26 rfl (by rw [sizeAts]; simp [HP.out.len])) ?_) | fail)
  clear il ih cl ch cL
  go_loop [23] (fun i => ∃ k : Nat, k ≤ 4 ∧ i = .int .i64 k ∧ ∀ j, j < k → p.ats.getD j 0 = 0 ∨ j % 2 < wideN p.kind) (fun i => 4 - (intOf i).toNat)
  case atStart => exact ⟨0, by omega, rfl, fun j hj => by omega⟩
  case round =>
    obtain ⟨k, hk, rfl, hall⟩ := hrel
    have HALL := Lib.hid hall
    clear hall
    by_cases hlt : k < 4
    · obtain ⟨x, hx⟩ : ∃ x, p.ats[k]? = some x := ⟨_, List.getElem?_eq_getElem (by rw [HP.out.len]; exact hlt)⟩
      have hix : ∀ W : World, (Instr.index 26 (.agg (p.ats.map U16).toArray) (.int .i64 (k : Int))).run Tryz.prog W = .ok (.int .u16 (x : Int)) W := fun W => index_ats p hx hlt W
      have hgx : p.ats.getD k 0 = x := by rw [List.getD_eq_getElem?_getD, hx]; rfl
      have HX := Lib.hid hgx
      have q : (k : Int) < 4 := by omega
      clear hx hgx
      by_cases h00 : x = 0
      · have ix : (x : Int) = 0 := by omega
        have HN : Hid (∀ j, j < k + 1 → p.ats.getD j 0 = 0 ∨ j % 2 < wideN p.kind) := Lib.hid (fun j hj => by
          rcases Nat.lt_or_eq_of_le (Nat.lt_succ_iff.1 hj) with h | rfl
          · exact HALL.out j h
          · exact .inl (by rw [HX.out]; exact h00))
        clear h00
        go_wp2
        go_round
        case rel => exact ⟨k + 1, by omega, by go_num, HN.out⟩
        case measure => simp [intOf]; omega
      · have ix : ¬ (x : Int) = 0 := by omega
        have hmod : (k : Int).tmod 2 = (k : Int) % 2 := Int.tmod_eq_emod_of_nonneg (by omega)
        by_cases hw : k % 2 < wideN p.kind
        · have iw : ¬ (wideN p.kind : Int) ≤ (k : Int) % 2 := by omega
          have HN : Hid (∀ j, j < k + 1 → p.ats.getD j 0 = 0 ∨ j % 2 < wideN p.kind) := Lib.hid (fun j hj => by
            rcases Nat.lt_or_eq_of_le (Nat.lt_succ_iff.1 hj) with h | rfl
            · exact HALL.out j h
            · exact .inr hw)
          clear h00 hw
          go_wp2
          go_round
          case rel => exact ⟨k + 1, by omega, by go_num, HN.out⟩
          case measure => simp [intOf]; omega
        · have iw : (wideN p.kind : Int) ≤ (k : Int) % 2 := by omega
          obtain rfl : m = false := by
            rw [← HM.out]
            have : placedP p = false := by
              unfold placedP
              rw [List.all_eq_false]
              exact ⟨k, List.mem_range.2 hlt, by rw [HX.out]; simp; omega⟩
            unfold mayP
            rw [this]
            simp
          clear h00 hw
          go_wp2
          go_ret
          exact ⟨rfl, HB.out⟩
    · obtain rfl : k = 4 := by omega
      have hmm : m = apartP p := by
        rw [← HM.out]
        have : placedP p = true := by
          unfold placedP
          rw [List.all_eq_true]
          exact fun j hj => decide_eq_true (HALL.out j (List.mem_range.1 hj))
        unfold mayP
        rw [HLV.out, this]
        rfl
      subst hmm
      have HC : Hid (Calls Tryz.prog 85 #[.agg P] W fun e w' => e = .returned (.bool (apartP p)) ∧ Below W.heap.size W w') := Lib.hid (by rw [← HPP.out]; exact apart_any p HP.out W)
      clear hlt hk
      go_wp2_with (first | (refine wpList_load_row rfl 28 (.tmp 1) rfl w.heap.size rfl 28 _ _ _ HA.out Tryz.underlying28 rfl HSP.out ?_) | (go_at_call 85; refine HC.out.mono ?_; rintro e w3 ⟨rfl, hb3⟩; have HB3 := Lib.hid (HB.out.trans (hb3.mono HB.out.size)); clear hb3) | fail)
      go_ret
      exact ⟨rfl, HB3.out⟩
theorem u8_cell {n : Nat} (h : n < 256) : Value.int .u8 (n : Int) = V8 (lb n 0) := by
  unfold V8 N8
  rw [lb_nat]
  simp
  omega
theorem src_new (w : World) (l : Bs) (cs : Array Value) (h : cs = (l.map V8).toArray) : SrcA (w.alloc (.cells cs 5)) (some ⟨w.heap.size, 0, none⟩) l := fun _ => by
  refine ⟨w.heap.size, 0, rfl, by simp, fun j hj => ?_⟩
  rw [Nat.zero_add]
  exact (Blk.new' w cs (l.map V8) 5 _ rfl h).cell (get_map V8 l j hj 0)
theorem val_take_one {l : List Nat} {k x : Nat} (h : l[k]? = some x) : l.take (k + 1) = l.take k ++ [x] := by
  obtain ⟨h2, h3⟩ := List.getElem?_eq_some_iff.1 h
  rw [List.take_succ_eq_append_getElem h2, h3]
set_option maxRecDepth 100000 in
set_option maxHeartbeats 4000000 in
theorem tag_any (p : Pt) (hp : p.OK) (w : World) : Calls Tryz.prog 48 #[.agg (pcells p).toArray] w fun e w' => ∃ v, e = .returned v ∧ OwnB w' w.heap.size v (tagB p) ∧ Below w.heap.size w w' := by
  have HP := Lib.hid hp
  have HG0 : Hid (Blk (w.alloc (.cells (pcells p).toArray 28)) w.heap.size (pcells p) 28) := Lib.hid (Blk.new _ _ _)
  have HB0 : Hid (Below w.heap.size w (w.alloc (.cells (pcells p).toArray 28))) := Lib.hid ((Below.refl _ _).alloc (Nat.le_refl _) _)
  have cK := HG0.out.cell (j := 0) rfl
  have cL := HG0.out.cell (j := 1) rfl
  have cO := HG0.out.cell (j := 2) rfl
  clear hp
  go_enter Tryz.func48, Tryz.ntmps48
  go_upto_region 1 with fail
  generalize (w.alloc (.cells (pcells p).toArray 28)) = W0 at HG0 HB0 cK cL cO ⊢
  have cO2 : ∀ o, (W0.alloc o).cell? ⟨w.heap.size, 2, none⟩ = some (.int .u16 (p.obj : Int)) := fun o => (HG0.out.alloc o).cell rfl
  have hc := pu16_any (leb p.kind 1 ++ leb p.level 1) (some ⟨W0.heap.size, 0, none⟩) 2 p.obj (W0.alloc (.cells #[.int .u8 (p.kind : Int), .int .u8 (p.level : Int)] 5)) (by simp [leb_length]) HP.out.obj (src_new W0 _ _ (by rw [u8_cell HP.out.kind, u8_cell HP.out.level]; rfl))
  rw [show (leb p.kind 1 ++ leb p.level 1).length = 2 by simp [leb_length]] at hc
  have HC := Lib.hid hc
  clear hc
  go_upto_region 2 with (first | (go_at_call 49; refine HC.out.mono ?_; rintro e w1 ⟨rfl, ho1, hb1⟩; have HO1 := Lib.hid ho1; have HB1 := Lib.hid hb1; clear ho1 hb1) | fail)
  obtain ⟨g1, hg1⟩ : ∃ g, (W0.alloc (.cells #[.int .u8 (p.kind : Int), .int .u8 (p.level : Int)] 5)).heap.size = g := ⟨_, rfl⟩
  rw [hg1] at HO1 HB1
  have hg2 : W0.heap.size + 1 = g1 := by rw [← hg1]; simp
  try rw [hg2]
  try rw [hg1]
  have hw0 := HB0.out.size
  have hs1 : SrcA w1 (some ⟨g1, 0, none⟩) (leb p.kind 1 ++ leb p.level 1 ++ leb p.obj 2) := by
    obtain ⟨sp, cap, e, _, _, h, _⟩ := OwnB.form HO1.out
    cases e
    exact h
  have hgg := HG0.out.lt
  have hA1 : Blk w1 w.heap.size (pcells p) 28 := (HG0.out.alloc _).below HB1.out (by omega)
  have hBB : Below w.heap.size w w1 := (HB0.out.alloc hw0 _).trans (HB1.out.mono (by omega))
  have HA1 := Lib.hid hA1; have HS1 := Lib.hid hs1; have HBB := Lib.hid hBB
  clear hA1 hs1 hBB hg1 hg2 HO1 HB1 HC cO2 cK cL cO
  refine gS (.take 0 (.take 1 (.take 2 (.take 4 (.take 5 (.step 3 (.step 6 (.take 7 (.nil))))))))) (fun X => Blk X w.heap.size (pcells p) 28 ∧ Below w.heap.size w X) ⟨HA1.out.drew, HBB.out.drew⟩ ?_
  refine gT (.slice (some ⟨g1, 0, none⟩) (2 + 2) (2 + 2)) ?_; try simp only [pS]
  refine wpG_take _ (.pointer (some ⟨w.heap.size, 3, none⟩)) rfl (by rfl) (fun X hX => ex_faP 3 3 (by omega) rfl rfl) ?_; try simp only [pS]
  refine wpG_take _ (.int .u32 (p.off : Int)) rfl (by rfl) (fun X hX => ex_ld1 Tryz.underlying24 rfl rfl (hX.1.cell rfl)) ?_; try simp only [pS]
  refine wpG_take _ (.pointer (some ⟨w.heap.size, 4, none⟩)) rfl (by rfl) (fun X hX => ex_faP 4 4 (by omega) rfl rfl) ?_; try simp only [pS]
  refine wpG_take _ (.int .u64 (p.birth : Int)) rfl (by rfl) (fun X hX => ex_ld1 Tryz.underlying22 rfl rfl (hX.1.cell rfl)) ?_; try simp only [pS]
  have hc2 := pu32_any (leb p.kind 1 ++ leb p.level 1 ++ leb p.obj 2) (some ⟨g1, 0, none⟩) (2 + 2) p.off w1.drew (by simp [leb_length]) HP.out.off HS1.out
  rw [show (leb p.kind 1 ++ leb p.level 1 ++ leb p.obj 2).length = 2 + 2 by simp [leb_length]] at hc2
  refine wpG_call _ rfl (by rfl) 77 #[.slice (some ⟨g1, 0, none⟩) (2 + 2) (2 + 2), .int .u32 (p.off : Int)] (fun _ => by go_simp) (fun u w' => u = .slice (some ⟨w1.drew.heap.size, 0, none⟩) (2 + 2 + 4) (2 + 2 + 4) ∧ SrcA w' (some ⟨w1.drew.heap.size, 0, none⟩) (leb p.kind 1 ++ leb p.level 1 ++ leb p.obj 2 ++ leb p.off 4)) (hc2.mono fun e w' ⟨e1, e2, e3⟩ => ⟨_, e1, ⟨HA1.out.drew.below e3 HA1.out.lt, HBB.out.drew.trans (e3.mono HBB.out.size)⟩, rfl, by
    obtain ⟨sp, cap, e, _, _, h, _⟩ := OwnB.form e2
    cases e
    exact h⟩) ?_
  rintro u w2 hs2 ⟨rfl, hsrc2⟩
  refine ⟨_, fun _ h => h, hs2, ?_⟩; try simp only [pS]
  have hc3 := pu64_any (leb p.kind 1 ++ leb p.level 1 ++ leb p.obj 2 ++ leb p.off 4) (some ⟨w1.drew.heap.size, 0, none⟩) (2 + 2 + 4) p.birth w2 (by simp [leb_length]) HP.out.birth hsrc2
  rw [show (leb p.kind 1 ++ leb p.level 1 ++ leb p.obj 2 ++ leb p.off 4).length = 2 + 2 + 4 by simp [leb_length]] at hc3
  refine wpG_call _ rfl (by rfl) 25 #[.slice (some ⟨w1.drew.heap.size, 0, none⟩) (2 + 2 + 4) (2 + 2 + 4), .int .u64 (p.birth : Int)] (fun _ => by go_simp) (fun u w' => u = .slice (some ⟨w2.heap.size, 0, none⟩) (2 + 2 + 4 + 8) (2 + 2 + 4 + 8) ∧ OwnB w' w2.heap.size u (tagB p)) (hc3.mono fun e w' ⟨e1, e2, e3⟩ => ⟨_, e1, ⟨hs2.1.below e3 hs2.1.lt, hs2.2.trans (e3.mono hs2.2.size)⟩, rfl, by
    have e : (leb p.kind 1 ++ leb p.level 1 ++ leb p.obj 2 ++ leb p.off 4 ++ leb p.birth 8).length = 2 + 2 + 4 + 8 := by simp [leb_length]
    rw [e] at e2
    exact e2⟩) ?_
  rintro u w3 hs3 ⟨rfl, ho3⟩
  refine ⟨_, fun _ h => h, hs3, ?_⟩; try simp only [pS]
  refine gT (.slice (some ⟨w2.heap.size, 0, none⟩) (2 + 2 + 4 + 8) (2 + 2 + 4 + 8)) ?_; try simp only [pS]
  refine wpG_nil ?_
  have HO3 := Lib.hid (ho3.mono (B' := w.heap.size) hs2.2.size)
  have HB3 := Lib.hid hs3.2
  clear ho3 hs3 hs2 hsrc2 hc2 hc3
  go_wp2_with fail
  go_ret
  exact ⟨_, rfl, HO3.out, HB3.out⟩
end Go.Proofs.YtjgjohdeeeoeoaaGreatDoor
