/- Whether a pointer may be, its bytes behind some, its copies, how many a kind has: the law, walked. -/
import Derived.Test.YtlibdcgpjglcpaaDoorPcq
import Derived.Test.YtlibdcgpjglcpaaDoorPqa
import Derived.Deep.DeepCutAuto
namespace Go.Proofs.YtlibdcgpjglcpaaDoor
open Go.RowKit Go.Shelf

attribute [local go_sem] Oper.semAt_some

theorem ex_neb {ρ : Operand → Value} {o : Oper} {x y : Operand} {a : Bool} {w : World} (ho : o.op = .binOp .neq 4 x y 4) (hx : ρ x = .bool a) (hy : ρ y = .bool a) : (execOp ρ o).run Tryd.prog w = .ok (.value (.bool false)) w := by
  unfold execOp
  simp only [ho]
  cases a <;> go_simp
theorem ex_nei' {ρ : Operand → Value} {o : Oper} {x y : Operand} {k : IntKind} {a b : Int} {w : World} {ty : TypeId} (hab : a = b) (hu : Tryd.prog.underlying ty = some (.int k)) (ho : o.op = .binOp .neq ty x y ty) (hx : ρ x = .int k a) (hy : ρ y = .int k b) : (execOp ρ o).run Tryd.prog w = .ok (.value (.bool false)) w := by
  have h := ex_nei (w := w) hu ho hx hy
  rw [decide_eq_true hab] at h
  exact h
/-- No way out by a panic is gone. -/
def Calm (Q : Exit → Act → World → Prop) (e : Exit) (a : Act) (w : World) : Prop := match e with | .panic _ => False | e => Q e a w
theorem calm_le {Q : Exit → Act → World → Prop} : ∀ (e : Exit) (a : Act) (w : World), Calm Q e a w → Q e a w
  | .panic _, _, _, h => h.elim
  | .normal, _, _, h | .ret, _, _, h | .exit _, _, _, h | .goto _, _, _, h | .outgrown, _, _, h => h
theorem wp_region_schedM {P : Program} {ops : Array Oper} {Q : Exit → Act → World → Prop} {id : Nat} {a : Act} {w : World} (l : Tr) (hm : P.follows .mixedOrders = true) (hB : schedB ops l = true) (S : World → Prop) (hS : S w.drew) (h : wpG P ops (Calm Q) l S a w.drew) : (Code.region id ops true).wp P Q a w :=
  Code.wp_mono calm_le (wp_region_sched l hm hB (fun _ _ _ _ _ h => h) S hS h)
theorem wpG_nilM {P : Program} {ops : Array Oper} {Q : Exit → Act → World → Prop} {S : World → Prop} {a : Act} {w : World} (h : Q .normal a w) : wpG P ops (Calm Q) .nil S a w := h
theorem ex_neSs {ρ : Operand → Value} {o : Oper} {x y : Operand} {k : TypeId} {a : Bs} {w : World} (ho : o.op = .binOp .neq 9 x y k) (hx : ρ x = .string (bstr a)) (hy : ρ y = .string (bstr a)) : (execOp ρ o).run Tryd.prog w = .ok (.value (.bool false)) w := by
  have h := ex_neq (w := w) ho hx hy
  rw [decide_eq_true rfl] at h
  exact h
structure TeS (p : Pt) (m : Nat) (l : Bs) (sp : Option Addr) (w : World) (X : World) : Prop where
  p : Blk X w.heap.size (pcells p) 28
  mo : Blk X (w.heap.size + 1) [.int .u8 (m : Int)] 5
  re : Blk X (w.heap.size + 1 + 1) [.bool false] 4
  src : SrcA X sp l
  tab : Tab X
  rt : RTab X
  bel : Below w.heap.size w X
section
variable {p : Pt} {m : Nat} {l : Bs} {sp : Option Addr} {w X Y : World}
theorem TeS.grown (h : TeS p m l sp w X) {B : Nat} (hb : Below B X Y) (hB : X.heap.size ≤ B) : TeS p m l sp w Y :=
  have hb' := hb.mono hB
  ⟨h.p.below hb' h.p.lt, h.mo.below hb' h.mo.lt, h.re.below hb' h.re.lt, h.src.grown hb', h.tab.below hb' (Nat.le_refl _), h.rt.grown hb', h.bel.trans (hb'.mono h.bel.size)⟩
theorem TeS.drew (h : TeS p m l sp w X) : TeS p m l sp w X.drew := h.grown (Below.refl _ _).drew (Nat.le_refl _)
end
theorem fieldsC : (Tryd.prog.fieldsOf 41).toList.map (fun f => (f.type, f.offset)) = [(3, 0), (22, 1)] := by kernel_rfl
theorem namesC : ((Tryd.prog.fieldsOf 41).toList.all fun f => f.name != "_") = true := by kernel_rfl
theorem run_eqC (d1 a1 d2 a2 : Nat) (W : World) : (Op.equalIn 10000 41 (.agg #[.int .i64 (d1 : Int), .int .u16 (a1 : Int)]) (.agg #[.int .i64 (d2 : Int), .int .u16 (a2 : Int)])).run Tryd.prog W = .ok (decide (d1 = d2 ∧ a1 = a2)) W := by
  rw [run_equalIn_struct W 9999 41 _ _ (by kernel_rfl) (by kernel_rfl)]
  have e : decide (d1 = d2 ∧ a1 = a2) = (((Tryd.prog.fieldsOf 41).toList.map fun f => (f.type, f.offset)).all fun f => if f.2 = 0 then decide (d1 = d2) else decide (a1 = a2)) := by
    rw [fieldsC]
    simp
  rw [e]
  refine eqFields_dec _ _ _ W _ _ (fun f hm => ⟨?_, ?_⟩)
  · have := List.all_eq_true.1 namesC f hm
    simpa using this
  have h1 : (f.type, f.offset) ∈ (Tryd.prog.fieldsOf 41).toList.map (fun f => (f.type, f.offset)) := List.mem_map.2 ⟨f, hm, rfl⟩
  rw [fieldsC] at h1
  simp only [List.mem_cons, Prod.mk.injEq, List.not_mem_nil, or_false] at h1
  have hi : ∀ (t : TypeId) (k : IntKind) (a b : Nat), Tryd.prog.underlying t = some (.int k) → (Op.equalIn 9999 t (.int k (a : Int)) (.int k (b : Int))).run Tryd.prog W = .ok (decide (a = b)) W := fun t k a b ht => by
    rw [run_equalIn_int W 9998 t k k _ _ ht]
    refine congrArg (fun b => Result.ok b W) ?_
    rw [Bool.eq_iff_iff]
    simp
    omega
  rcases h1 with ⟨e1, e2⟩ | ⟨e1, e2⟩ <;> rw [e1, e2]
  · exact ⟨_, _, part_one Tryd.underlying3 (v := .int .i64 (d1 : Int)) rfl W, part_one Tryd.underlying3 (v := .int .i64 (d2 : Int)) rfl W, hi _ _ _ _ Tryd.underlying3⟩
  · exact ⟨_, _, part_one Tryd.underlying22 (v := .int .u16 (a1 : Int)) rfl W, part_one Tryd.underlying22 (v := .int .u16 (a2 : Int)) rfl W, hi _ _ _ _ Tryd.underlying22⟩
/-- What is wanted, in memory. -/
def Want (W : World) (g8 : Nat) (sp : Option Addr) (cn : Nat) (cs : List (Nat × Nat)) : Prop := cs.length = cn ∧ (cn = 0 ∨ ∃ g cur, sp = some ⟨g, 0, none⟩ ∧ g < g8 ∧ Blk W g cur 41 ∧ cur.take (cn * 2) = cpcells cs)
theorem want_of {W : World} {B g8 cn cap : Nat} {sp : Option Addr} {cs : List (Nat × Nat)} (h : OwnC W B (.slice sp cn cap) cs) (hn : cs.length = cn) (hg : ∀ g cur, W.heap[g]? = some (.cells cur 41 (0, 0)) → sp = some ⟨g, 0, none⟩ → g < g8) : Want W g8 sp cn cs := by
  refine ⟨hn, ?_⟩
  obtain ⟨_, h2⟩ := h
  rcases h2 with ⟨_, h3⟩ | ⟨g, cap', cur, e, _, hh, _, _, _, ht⟩
  · exact .inl (by omega)
  · injection e with e1 e2 e3
    refine .inr ⟨g, cur.toList, e1, hg g cur hh e1, ?_, ?_⟩
    · unfold Blk; simpa using hh
    · rw [← hn]; exact ht
theorem Want.alloc {W : World} {g8 cn : Nat} {sp : Option Addr} {cs : List (Nat × Nat)} (h : Want W g8 sp cn cs) (o : Obj) : Want (W.alloc o) g8 sp cn cs := by
  obtain ⟨h1, h2⟩ := h
  refine ⟨h1, ?_⟩
  rcases h2 with h2 | ⟨g, cur, e, hg, hb, ht⟩
  · exact .inl h2
  · exact .inr ⟨g, cur, e, hg, hb.alloc o, ht⟩
theorem Want.other {W : World} {g8 cn : Nat} {sp : Option Addr} {cs : List (Nat × Nat)} (h : Want W g8 sp cn cs) {a : Addr} (ha : g8 ≤ a.block) (v : Value) : Want (W.setCell a v) g8 sp cn cs := by
  obtain ⟨h1, h2⟩ := h
  refine ⟨h1, ?_⟩
  rcases h2 with h2 | ⟨g, cur, e, hg, hb, ht⟩
  · exact .inl h2
  · exact .inr ⟨g, cur, e, hg, hb.other (by omega) v, ht⟩
theorem cpcells_get : ∀ (l : List (Nat × Nat)) (i : Nat) (x : Nat × Nat), l[i]? = some x → (cpcells l)[i * 2]? = some (.int .i64 (x.1 : Int)) ∧ (cpcells l)[i * 2 + 1]? = some (.int .u16 (x.2 : Int))
  | [], i, x, h => by simp at h
  | y :: l, 0, x, h => by
    simp only [List.getElem?_cons_zero, Option.some.injEq] at h
    subst h
    exact ⟨rfl, rfl⟩
  | y :: l, i + 1, x, h => by
    simp only [List.getElem?_cons_succ] at h
    obtain ⟨h1, h2⟩ := cpcells_get l i x h
    have e : cpcells (y :: l) = .int .i64 (y.1 : Int) :: .int .u16 (y.2 : Int) :: cpcells l := rfl
    rw [e, show (i + 1) * 2 = i * 2 + 1 + 1 by omega, show i * 2 + 1 + 1 + 1 = (i * 2 + 1) + 1 + 1 by omega]
    exact ⟨h1, h2⟩
theorem Want.get {W : World} {g8 cn : Nat} {sp : Option Addr} {cs : List (Nat × Nat)} (h : Want W g8 sp cn cs) {i : Nat} (hi : i < cn) : ∃ g d a, sp = some ⟨g, 0, none⟩ ∧ W.cell? ⟨g, i * 2, none⟩ = some (.int .i64 ((d : Nat) : Int)) ∧ W.cell? ⟨g, i * 2 + 1, none⟩ = some (.int .u16 ((a : Nat) : Int)) ∧ cs[i]? = some (d, a) := by
  obtain ⟨h1, h2⟩ := h
  rcases h2 with h2 | ⟨g, cur, e, hg, hb, ht⟩
  · omega
  obtain ⟨⟨d, a⟩, hx⟩ : ∃ x, cs[i]? = some x := ⟨_, List.getElem?_eq_getElem (by omega)⟩
  obtain ⟨c1, c2⟩ := cpcells_get cs i _ hx
  rw [← ht] at c1 c2
  refine ⟨g, d, a, e, hb.cell ?_, hb.cell ?_, hx⟩
  · rw [List.getElem?_take] at c1; rw [if_pos (by omega)] at c1; exact c1
  · rw [List.getElem?_take] at c2; rw [if_pos (by omega)] at c2; exact c2
/-- While the copies are gone through. -/
structure TgI (w : World) (m : Nat) (sp8 : Option Addr) (cn cap8 g8 : Nat) (cs : List (Nat × Nat)) (pre : List Cp) (W : World) : Prop where
  mo : Blk W (w.heap.size + 1) [.int .u8 (m : Int)] 5
  re : Blk W (w.heap.size + 1 + 1) [.bool false] 4
  h8 : Blk W g8 [.slice sp8 cn cap8] 35
  h9 : Blk W (g8 + 1) [.int .i64 (pre.length : Int)] 3
  le : pre.length ≤ m
  wa : Want W g8 sp8 cn cs
  bel : Below w.heap.size w W
  o : w.heap.size + 1 + 1 < g8
def TgX (w : World) (m : Nat) (sp8 : Option Addr) (cn cap8 g8 : Nat) (cs : List (Nat × Nat)) (c : Code) (pre : List Cp) (W : World) : Prop :=
  (c = .ret ∧ ¬ (pre.map (fun z => z.1) <+: cs)) ∨ (c = .exit 0 ∧ m < pre.length ∧ Blk W (w.heap.size + 1) [.int .u8 (m : Int)] 5 ∧ Blk W (w.heap.size + 1 + 1) [.bool false] 4 ∧ Blk W g8 [.slice sp8 cn cap8] 35 ∧ Blk W (g8 + 1) [.int .i64 (pre.length : Int)] 3 ∧ Want W g8 sp8 cn cs ∧ Below w.heap.size w W)
theorem TgI.next {w W W' : World} {m : Nat} {sp8 : Option Addr} {cn cap8 g8 : Nat} {cs : List (Nat × Nat)} {pre : List Cp} (h : TgI w m sp8 cn cap8 g8 cs pre W) {x : Cp} (e : W' = W.setCell ⟨g8 + 1, 0, none⟩ (.int .i64 ((pre.length : Int) + 1))) :
    Blk W' (w.heap.size + 1) [.int .u8 (m : Int)] 5 ∧ Blk W' (w.heap.size + 1 + 1) [.bool false] 4 ∧ Blk W' g8 [.slice sp8 cn cap8] 35 ∧ Blk W' (g8 + 1) [.int .i64 ((pre ++ [x]).length : Int)] 3 ∧ Want W' g8 sp8 cn cs ∧ Below w.heap.size w W' := by
  subst e
  have o := h.o
  refine ⟨h.mo.other (by simp; omega) _, h.re.other (by simp; omega) _, h.h8.other (by simp) _, ?_, h.wa.other (by simp) _, h.bel.setCell (by simp; omega) _⟩
  have h1 := h.h9.set 0 (.int .i64 ((pre.length : Int) + 1))
  simpa using h1
theorem Want.kept {A W : World} {row : Option Nat} {g8 cn : Nat} {sp : Option Addr} {cs : List (Nat × Nat)} (h : Want A g8 sp cn cs) (hg : A.grownBy W row) (hr : ∀ r, row = some r → ∃ o : Obj, A.heap[r]? = some o ∧ o.isCells = false) : Want W g8 sp cn cs := by
  obtain ⟨h1, h2⟩ := h
  refine ⟨h1, ?_⟩
  rcases h2 with h2 | ⟨g, cur, e, hlt, hb, ht⟩
  · exact .inl h2
  · exact .inr ⟨g, cur, e, hlt, hb.kept hg hr, ht⟩
theorem tgI_own (w : World) (m : Nat) (sp8 : Option Addr) (cn cap8 g8 : Nat) (cs : List (Nat × Nat)) (W0 : World) (hs : w.heap.size ≤ W0.heap.size) : OwnFrom W0.heap.size (TgI w m sp8 cn cap8 g8 cs) := fun s A B row h hg hr => by
  have hr' : ∀ r, row = some r → ∃ o : Obj, A.heap[r]? = some o ∧ o.isCells = false := fun r e => (hr r e).2
  exact ⟨h.mo.kept hg hr', h.re.kept hg hr', h.h8.kept hg hr', h.h9.kept hg hr', h.le, h.wa.kept hg hr', h.bel.grown hg h.bel.size (fun k e => by have := (hr k e).1; omega), h.o⟩
theorem tgX_own (w : World) (m : Nat) (sp8 : Option Addr) (cn cap8 g8 : Nat) (cs : List (Nat × Nat)) (c : Code) (W0 : World) (hs : w.heap.size ≤ W0.heap.size) : OwnFrom W0.heap.size (TgX w m sp8 cn cap8 g8 cs c) := fun s A B row h hg hr => by
  have hr' : ∀ r, row = some r → ∃ o : Obj, A.heap[r]? = some o ∧ o.isCells = false := fun r e => (hr r e).2
  rcases h with h | ⟨hc, hm, h1, h2, h3, h4, h5, h6⟩
  · exact .inl h
  · exact .inr ⟨hc, hm, h1.kept hg hr', h2.kept hg hr', h3.kept hg hr', h4.kept hg hr', h5.kept hg hr', h6.grown hg h6.size (fun k e => by have := (hr k e).1; omega)⟩
set_option maxRecDepth 100000 in
set_option maxHeartbeats 16000000 in
theorem ptrTells_go (p : Pt) (hp : p.OK) (l : Bs) (sp : Option Addr) (cap m : Nat) (w : World) (hm8 : m < 256) (hl : l.length ≤ 200) (hc : l.length ≤ cap) (hz : sp = none → cap = 0) (hS : SrcA w sp l) (hT : Tab w) (hR : RTab w) :
    Calls Tryd.prog 3 #[.agg (pcells p).toArray, .slice sp l.length cap, .int .u8 (m : Int)] w fun e w' => e = .returned (.bool true) ∧ Below w.heap.size w w' := by
  have HP := Lib.hid hp; have HC := Lib.hid hc; have HZ := Lib.hid hz; have HM8 := Lib.hid hm8
  have HLP := Lib.hid (pcells_length hp)
  have HST : Hid (∀ X, X = ((w.alloc (.cells (pcells p).toArray 28)).alloc (.cells #[.int .u8 (m : Int)] 5)).alloc (.cells #[.bool false] 4) → TeS p m l sp w X) := Lib.hid (fun X e => by
    have hb : Below w.heap.size w X := by rw [e]; exact (((Below.refl _ _).alloc (Nat.le_refl _) _).alloc (by simp) _).alloc (by simp; omega) _
    refine ⟨?_, ?_, ?_, hS.grown hb, hT.below hb (Nat.le_refl _), hR.grown hb, hb⟩
    · rw [e]; exact ((Blk.new _ _ _).alloc _).alloc _
    · rw [e]; exact (Blk.new' _ _ [.int .u8 (m : Int)] _ _ (by simp) rfl).alloc _
    · rw [e]; exact Blk.new' _ _ [.bool false] _ _ (by simp) rfl)
  obtain ⟨L, hL⟩ : ∃ L, l.length = L := ⟨_, rfl⟩
  have HL := Lib.hid hL
  have HLL : Hid (L ≤ 200) := Lib.hid (by omega)
  have i1 : ¬ ((200 : Int) < (L : Int)) := by omega
  obtain ⟨P, hPP⟩ : ∃ P, (pcells p).toArray = P := ⟨_, rfl⟩
  have HPP := Lib.hid hPP
  rw [hL, hPP]
  rw [hPP] at HST
  have HTT := Lib.hid hT; have HRR := Lib.hid hR
  clear hp hc hz hm8 hl hS hT hR hL hPP
  refine callsIn_wide.1 (callsIn_of_wp_marks (F := Fence.wide) (n := 5) Tryd.func3 rfl trivial ?_ rfl)
  refine wpIn_wide.2 ?_
  simp only [Tryd.ntmps3, List.size_toArray, List.length_cons, List.length_nil, Nat.reduceAdd, Nat.reduceSub, Array.replicate_succ, Array.replicate_zero, List.push_toArray, List.append_toArray, List.nil_append, List.cons_append]
  go_upto_region 3 with fail
  refine (fun (k : ∀ X, TeS p m l sp w X → Code.wp _ _ _ _ X) => k _ (HST.out _ rfl)) ?_
  intro X0 hX0
  have HX0 := Lib.hid hX0
  clear hX0 HST
  go_upto_region 4 with (first | (refine wpL_val rfl (ex_cvs rfl HL.out rfl HX0.out.src) ?_) | fail)
  obtain ⟨mb, hmb⟩ : ∃ b, mayP p = b := ⟨_, rfl⟩
  have HMB := Lib.hid hmb
  have HMR : Hid (mayR p = mb) := Lib.hid (by rw [← mayP_eq HP.out.len]; exact hmb)
  clear hmb
  have hmay : ∀ X, RTab X → Calls Tryd.prog 7 #[.agg P] X fun e w' => e = .returned (.bool mb) ∧ Below X.heap.size X w' := fun X hr => by
    have h := may_any p HP.out X hr
    rw [HPP.out, HMB.out] at h
    exact h
  have hqmay : ∀ X, Calls Tryd.prog 8 #[.agg P] X fun e w' => e = .returned (.bool mb) ∧ Below X.heap.size X w' := fun X => by
    have h := qmay_any p HP.out X
    rw [HPP.out, HMR.out] at h
    exact h
  have HMAY := Lib.hid hmay; have HQMAY := Lib.hid hqmay
  clear hmay hqmay
  refine wp_region_schedM (.take 0 (.take 2 (.step 1 (.step 3 (.take 4 (.take 5 (.take 6 (.take 8 (.take 11 (.take 12 (.step 7 (.step 9 (.take 10 (.step 13 (.take 14 (.take 15 (.take 16 (.take 17 (.take 18 (.take 19 (.take 20 (.take 22 (.take 23 (.step 21 (.step 24 (.take 25 (.take 26 (.nil)))))))))))))))))))))))))))) (by kernel_rfl) (by kernel_rfl) (TeS p m l sp w) HX0.out.drew ?_
  refine wpG_take _ (.agg P) rfl (by rfl) (fun X hX => by rw [← HPP.out]; exact ex_ld (ty := 28) (cs := pcells p) rfl rfl (rng_all hX.p) Tryd.underlying28 rfl (by rw [sizeP, HLP.out])) ?_
  (try simp only [Act.put, List.setIfInBounds_toArray, List.set_cons_zero, List.set_cons_succ])
  refine wpG_take _ (.agg P) rfl (by rfl) (fun X hX => by rw [← HPP.out]; exact ex_ld (ty := 28) (cs := pcells p) rfl rfl (rng_all hX.p) Tryd.underlying28 rfl (by rw [sizeP, HLP.out])) ?_
  (try simp only [Act.put, List.setIfInBounds_toArray, List.set_cons_zero, List.set_cons_succ])
  refine wpG_call _ rfl (by rfl) 7 #[.agg P] (fun _ => by go_simp) (fun u _ => u = .bool mb) ((HMAY.out X0.drew HX0.out.drew.rt).mono fun e w' ⟨e1, e2⟩ => ⟨_, e1, HX0.out.drew.grown e2 (Nat.le_refl _), rfl⟩) ?_
  rintro u X1 hs1 rfl
  refine ⟨_, fun _ h => h, hs1, ?_⟩
  (try simp only [Act.put, List.setIfInBounds_toArray, List.set_cons_zero, List.set_cons_succ])
  refine wpG_call _ rfl (by rfl) 8 #[.agg P] (fun _ => by go_simp) (fun u _ => u = .bool mb) ((HQMAY.out X1).mono fun e w' ⟨e1, e2⟩ => ⟨_, e1, hs1.grown e2 (Nat.le_refl _), rfl⟩) ?_
  rintro u X2 hs2 rfl
  refine ⟨_, fun _ h => h, hs2, ?_⟩
  (try simp only [Act.put, List.setIfInBounds_toArray, List.set_cons_zero, List.set_cons_succ])
  refine wpG_take _ (.bool false) rfl (by rfl) (fun X hX => ex_neb rfl rfl rfl) ?_
  (try simp only [Act.put, List.setIfInBounds_toArray, List.set_cons_zero, List.set_cons_succ])
  refine wpG_take _ (.bool false) rfl (by rfl) (fun X hX => by first | rfl | go_simp) ?_
  (try simp only [Act.put, List.setIfInBounds_toArray, List.set_cons_zero, List.set_cons_succ])
  refine wpG_take _ (.slice sp L cap) rfl (by rfl) (fun X hX => by first | rfl | go_simp) ?_
  (try simp only [Act.put, List.setIfInBounds_toArray, List.set_cons_zero, List.set_cons_succ])
  refine wpG_take _ (.agg P) rfl (by rfl) (fun X hX => by rw [← HPP.out]; exact ex_ld (ty := 28) (cs := pcells p) rfl rfl (rng_all hX.p) Tryd.underlying28 rfl (by rw [sizeP, HLP.out])) ?_
  (try simp only [Act.put, List.setIfInBounds_toArray, List.set_cons_zero, List.set_cons_succ])
  refine wpG_take _ (.string (bstr l)) rfl (by rfl) (fun X hX => by first | rfl | go_simp) ?_
  (try simp only [Act.put, List.setIfInBounds_toArray, List.set_cons_zero, List.set_cons_succ])
  refine wpG_take _ (.agg P) rfl (by rfl) (fun X hX => by rw [← HPP.out]; exact ex_ld (ty := 28) (cs := pcells p) rfl rfl (rng_all hX.p) Tryd.underlying28 rfl (by rw [sizeP, HLP.out])) ?_
  (try simp only [Act.put, List.setIfInBounds_toArray, List.set_cons_zero, List.set_cons_succ])
  obtain ⟨v3, X3, hr3, ho3, hb3⟩ := ownB_src (m := l) (l := []) (w := X2) (B := X2.heap.size) (World.ownsRow_nil _ _ _ _) (Nat.le_refl _) (by have := HLL.out; have := HL.out; simp; omega) hs2.src HZ.out 29
  rw [HL.out] at hr3
  rw [List.nil_append] at ho3
  have hs3 := hs2.grown hb3 (Nat.le_refl _)
  refine wpG_mk _ rfl (by rfl) v3 X3 (ex_appB rfl rfl rfl hr3) _ hs3 (fun _ h => h) ?_
  (try simp only [Act.put, List.setIfInBounds_toArray, List.set_cons_zero, List.set_cons_succ])
  obtain ⟨sp3, cap3, e3, _, _, hq3, hz3, _⟩ := OwnB.form ho3
  rw [HL.out] at e3
  subst e3
  have hput : Calls Tryd.prog 9 #[.slice sp3 L cap3, .agg P] X3 fun e w' => ∃ v, e = .returned v ∧ OwnB w' X3.heap.size v (l ++ padB p) ∧ Below X3.heap.size X3 w' := by
    have h := ptrPut_any p HP.out l sp3 cap3 X3 (by have := HLL.out; have := HL.out; omega) hq3 hz3
    rw [HL.out, HPP.out] at h
    exact h
  refine wpG_call _ rfl (by rfl) 9 #[.slice sp3 L cap3, .agg P] (fun _ => by go_simp) (fun u w' => ∃ sp4 cap4, u = .slice sp4 (L + 64) cap4 ∧ SrcA w' sp4 (l ++ padB p)) (hput.mono fun e w' ⟨v, e1, e2, e3⟩ => ⟨_, e1, hs3.grown e3 (Nat.le_refl _), by
    obtain ⟨sp4, cap4, e4, _, _, hq4, _⟩ := OwnB.form e2
    rw [List.length_append, HL.out, padB_length HP.out] at e4
    exact ⟨sp4, cap4, e4, hq4⟩⟩) ?_
  rintro u X4 hs4 ⟨sp4, cap4, rfl, hq4⟩
  refine ⟨fun X => TeS p m l sp w X ∧ SrcA X sp4 (l ++ padB p), fun _ h => h.1, ⟨hs4, hq4⟩, ?_⟩
  (try simp only [Act.put, List.setIfInBounds_toArray, List.set_cons_zero, List.set_cons_succ])
  refine wpG_take _ (.string (bstr (l ++ padB p))) rfl (by rfl) (fun X hX => ex_cvs rfl (by rw [List.length_append, HL.out, padB_length HP.out]) rfl hX.2) ?_
  (try simp only [Act.put, List.setIfInBounds_toArray, List.set_cons_zero, List.set_cons_succ])
  have hqb : Calls Tryd.prog 10 #[.agg P] X4 fun e w' => ∃ v, e = .returned v ∧ OwnB w' X4.heap.size v (padB p) ∧ Below X4.heap.size X4 w' := by
    have h := qbytes_any p HP.out X4
    rw [HPP.out] at h
    exact h
  refine wpG_call _ rfl (by rfl) 10 #[.agg P] (fun _ => by go_simp) (fun u w' => ∃ sp5 cap5, u = .slice sp5 64 cap5 ∧ SrcA w' sp5 (padB p)) (hqb.mono fun e w' ⟨v, e1, e2, e3⟩ => ⟨_, e1, ⟨hs4.grown e3 (Nat.le_refl _), hq4.grown e3⟩, by
    obtain ⟨sp5, cap5, e5, _, _, hq5, _⟩ := OwnB.form e2
    rw [padB_length HP.out] at e5
    exact ⟨sp5, cap5, e5, hq5⟩⟩) ?_
  rintro u X5 hs5 ⟨sp5, cap5, rfl, hq5⟩
  refine ⟨fun X => (TeS p m l sp w X ∧ SrcA X sp4 (l ++ padB p)) ∧ SrcA X sp5 (padB p), fun _ h => h.1, ⟨hs5, hq5⟩, ?_⟩
  (try simp only [Act.put, List.setIfInBounds_toArray, List.set_cons_zero, List.set_cons_succ])
  refine wpG_take _ (.string (bstr (padB p))) rfl (by rfl) (fun X hX => ex_cvs rfl (padB_length HP.out) rfl hX.2) ?_
  (try simp only [Act.put, List.setIfInBounds_toArray, List.set_cons_zero, List.set_cons_succ])
  refine wpG_take _ (.string (bstr (l ++ padB p))) rfl (by rfl) (fun X hX => ex_add rfl rfl rfl (by have := HLL.out; rw [HL.out, padB_length HP.out]; omega)) ?_
  (try simp only [Act.put, List.setIfInBounds_toArray, List.set_cons_zero, List.set_cons_succ])
  refine wpG_take _ (.bool false) rfl (by rfl) (fun X hX => ex_neSs rfl rfl rfl) ?_
  (try simp only [Act.put, List.setIfInBounds_toArray, List.set_cons_zero, List.set_cons_succ])
  refine wpG_take _ (.bool false) rfl (by rfl) (fun X hX => by first | rfl | go_simp) ?_
  (try simp only [Act.put, List.setIfInBounds_toArray, List.set_cons_zero, List.set_cons_succ])
  refine wpG_take _ (.bool false) rfl (by rfl) (fun X hX => by first | rfl | go_simp) ?_
  (try simp only [Act.put, List.setIfInBounds_toArray, List.set_cons_zero, List.set_cons_succ])
  refine wpG_take _ (.pointer (some ⟨w.heap.size, 0, none⟩)) rfl (by rfl) (fun X hX => ex_faP 0 0 (by omega) rfl rfl) ?_
  (try simp only [Act.put, List.setIfInBounds_toArray, List.set_cons_zero, List.set_cons_succ])
  refine wpG_take _ (.int .u8 (p.kind : Int)) rfl (by rfl) (fun X hX => ex_ld1 Tryd.underlying5 rfl rfl (hX.1.1.p.cell rfl)) ?_
  (try simp only [Act.put, List.setIfInBounds_toArray, List.set_cons_zero, List.set_cons_succ])
  refine wpG_take _ (.pointer (some ⟨w.heap.size, 0, none⟩)) rfl (by rfl) (fun X hX => ex_faP 0 0 (by omega) rfl rfl) ?_
  (try simp only [Act.put, List.setIfInBounds_toArray, List.set_cons_zero, List.set_cons_succ])
  refine wpG_take _ (.int .u8 (p.kind : Int)) rfl (by rfl) (fun X hX => ex_ld1 Tryd.underlying5 rfl rfl (hX.1.1.p.cell rfl)) ?_
  (try simp only [Act.put, List.setIfInBounds_toArray, List.set_cons_zero, List.set_cons_succ])
  refine wpG_call _ rfl (by rfl) 11 #[.int .u8 (p.kind : Int)] (fun _ => by go_simp) (fun u _ => u = .int .i64 (wideN p.kind : Int)) ((wide_any p.kind HP.out.kind X5 hs5.1.rt).mono fun e w' ⟨e1, e2⟩ => ⟨_, e1, ⟨⟨hs5.1.grown e2 (Nat.le_refl _), hs5.2.grown e2⟩, hq5.grown e2⟩, rfl⟩) ?_
  rintro u X6 hs6 rfl
  refine ⟨_, fun _ h => h, hs6, ?_⟩
  (try simp only [Act.put, List.setIfInBounds_toArray, List.set_cons_zero, List.set_cons_succ])
  refine wpG_call _ rfl (by rfl) 12 #[.int .u8 (p.kind : Int)] (fun _ => by go_simp) (fun u _ => u = .int .i64 (wideN p.kind : Int)) ((qwide_any p.kind HP.out.kind X6).mono fun e w' ⟨e1, e2⟩ => ⟨_, e1, by rw [← e2]; exact hs6, rfl⟩) ?_
  rintro u X7 hs7 rfl
  refine ⟨_, fun _ h => h, hs7, ?_⟩
  (try simp only [Act.put, List.setIfInBounds_toArray, List.set_cons_zero, List.set_cons_succ])
  refine wpG_take _ (.bool false) rfl (by rfl) (fun X hX => ex_nei' rfl Tryd.underlying3 rfl rfl rfl) ?_
  (try simp only [Act.put, List.setIfInBounds_toArray, List.set_cons_zero, List.set_cons_succ])
  refine wpG_take _ (.bool false) rfl (by rfl) (fun X hX => by first | rfl | go_simp) ?_
  (try simp only [Act.put, List.setIfInBounds_toArray, List.set_cons_zero, List.set_cons_succ])
  refine wpG_nilM ?_
  have HX7 := Lib.hid hs7.1.1
  clear hs1 hs2 hs3 hs4 hs5 hs6 hs7 hr3 ho3 hb3 hq3 hz3 hq4 hq5 hput hqb HX0 HMAY HQMAY HMB HMR
  have hqc : Calls Tryd.prog 13 #[.agg P] X7 fun e w' => ∃ v, e = .returned v ∧ OwnC w' (X7.heap.size + 1) v (copiesP p) ∧ Below X7.heap.size X7 w' := by
    have h := qcopies_any p HP.out X7
    rw [HPP.out] at h
    exact h
  have HQC := Lib.hid hqc
  have HLD : Hid (Blk X7 w.heap.size (pcells p) 28) := Lib.hid HX7.out.p
  have HSP : Hid ((Tryd.prog.info? 28).map (·.size) = some P.size) := Lib.hid (by rw [← HPP.out]; exact size_pc HP.out)
  have HG7 : Hid (X7.heap[w.heap.size]? = some (.cells P 28 (0, 0))) := Lib.hid (by rw [← HPP.out]; exact HX7.out.p)
  clear hqc
  go_wp2_with (first | (refine wpList_load_row rfl 28 (.tmp 3) rfl w.heap.size rfl 28 _ _ _ HG7.out Tryd.underlying28 rfl HSP.out ?_) | fail)
  refine HQC.out.mono ?_
  rintro e8 X8 ⟨v8, rfl, ho8, hb8⟩
  obtain ⟨sp8, cap8, e8⟩ := OwnC.form ho8
  obtain ⟨cn, hcn⟩ : ∃ n, (copiesP p).length = n := ⟨_, rfl⟩
  rw [hcn] at e8
  subst e8
  have HCN := Lib.hid hcn
  have HO8 := Lib.hid ho8
  have HX8 := Lib.hid (HX7.out.grown hb8 (Nat.le_refl _))
  clear ho8 hb8 hcn HQC HLD HG7
  go_upto_region 8 with fail
  obtain ⟨Z, hZ⟩ : ∃ Z, Z = (X8.alloc (.cells #[.slice sp8 cn cap8] 35)).alloc (.cells #[.int .i64 0] 3) := ⟨_, rfl⟩
  rw [← hZ]
  have hbz : Below X8.heap.size X8 Z := by rw [hZ]; exact ((Below.refl _ _).alloc (Nat.le_refl _) _).alloc (by simp) _
  have HXZ := Lib.hid (HX8.out.grown hbz (Nat.le_refl _))
  have HOZ := Lib.hid (HO8.out.below hbz (Nat.le_refl _))
  have hwa : Want Z X8.heap.size sp8 cn (copiesP p) := want_of HOZ.out HCN.out (fun g cur _ e => by
    obtain ⟨_, h2⟩ := HO8.out
    rcases h2 with ⟨h3, _⟩ | ⟨g', _, _, e2, _, h4, _⟩
    · injection h3 with h5; rw [h5] at e; cases e
    · injection e2 with e3; rw [e3] at e; cases e; exact (Array.getElem?_eq_some_iff.1 h4).1)
  have h8 : Blk Z X8.heap.size [.slice sp8 cn cap8] 35 := by rw [hZ]; exact (Blk.new' _ _ [.slice sp8 cn cap8] _ _ rfl rfl).alloc _
  have h9 : Blk Z (X8.heap.size + 1) [.int .i64 ((0 : Nat) : Int)] 3 := by rw [hZ]; exact Blk.new' _ _ [.int .i64 ((0 : Nat) : Int)] _ _ (by simp) rfl
  have hzs : Z.heap.size = X8.heap.size + 2 := by rw [hZ]; simp
  have h7s := HX8.out.re.lt
  obtain ⟨g8, hg8⟩ : ∃ g, X8.heap.size = g := ⟨_, rfl⟩
  rw [hg8] at h8 h9 hzs h7s hwa ⊢
  have HWA := Lib.hid hwa
  have H8 := Lib.hid h8; have H9 := Lib.hid h9; have HZS := Lib.hid hzs; have H7S := Lib.hid h7s
  have HGZ : Hid (Z.heap[w.heap.size]? = some (.cells P 28 (0, 0))) := Lib.hid (by rw [← HPP.out]; exact HXZ.out.p)
  have hcp : Calls Tryd.prog 14 #[.agg P] Z fun e w' => e = .returned (.func (.func 31) #[] #[.pointer (some ⟨Z.heap.size, 0, none⟩)]) ∧ w' = Z.alloc (.cells P 28) := by
    have h := copies_any p Z
    rw [HPP.out] at h
    exact h
  have HCP := Lib.hid hcp
  have hnf := fun W => run_nilF (t := 38) ⟨_, _, _, Tryd.underlying38⟩ (Fn.func 31) #[] #[.pointer (some ⟨Z.heap.size, 0, none⟩)] W
  clear h8 h9 hzs h7s hwa hbz hZ hg8 hcp HX8 HO8 HX7
  go_wp2_with (first | (refine wpList_load_row rfl 28 (.tmp 3) rfl w.heap.size rfl 28 _ _ _ HGZ.out Tryd.underlying28 rfl HSP.out ?_) | (go_at_call 14; refine HCP.out.mono ?_; rintro e w' ⟨rfl, rfl⟩) | fail)
  have hB5 : Blk (Z.alloc (.cells P 28)) Z.heap.size (pcells p) 28 := Blk.new' Z P (pcells p) 28 _ rfl HPP.out.symm
  have hI0 : TgI w m sp8 cn cap8 g8 (copiesP p) [] (Z.alloc (.cells P 28)) :=
    ⟨HXZ.out.mo.alloc _, HXZ.out.re.alloc _, H8.out.alloc _, H9.out.alloc _, Nat.zero_le _, (HWA.out).alloc _, HXZ.out.bel.alloc HXZ.out.bel.size _, H7S.out⟩
  have HI0 := Lib.hid hI0
  have HSS := Lib.hid (show w.heap.size ≤ Z.heap.size from HXZ.out.bel.size)
  clear hI0 HXZ HOZ H8 H9 HGZ HCP
  refine wpIn_wide.1 (wpIn_rangeFunc_ownF (n := 5) (w := Z.alloc (.cells P 28)) rfl (by omega) (gf := 31) (lb := #[.pointer (some ⟨Z.heap.size, 0, none⟩)]) rfl trivial (enters_of Tryd.func31 (by kernel_rfl) rfl)
    (copies_stops Fence.wide 4 trivial rfl (by omega) Z.heap.size p HP.out _ hB5) (fun _ _ => trivial) (fun _ _ _ _ _ _ _ _ => trivial) (Below.refl _ _) (fun _ => rfl)
    (TgI w m sp8 cn cap8 g8 (copiesP p)) (TgX w m sp8 cn cap8 g8 (copiesP p)) (tgI_own w m sp8 cn cap8 g8 (copiesP p) _ (by have := HSS.out; simp; omega)) (fun c => tgX_own w m sp8 cn cap8 g8 (copiesP p) c _ (by have := HSS.out; simp; omega)) HI0.out
    (fun x => { tmps := #[Value.agg P, Value.slice sp L cap, Value.int IntKind.u8 (m : Int), Value.pointer (some { block := w.heap.size, off := 0 }), undef, Value.pointer (some { block := w.heap.size + 1, off := 0 }), Value.pointer (some { block := w.heap.size + 1 + 1, off := 0 }), Value.string (bstr l), Value.pointer (some { block := g8, off := 0 }), Value.pointer (some { block := g8 + 1, off := 0 }), Value.func (Fn.func 31) #[] #[Value.pointer (some { block := Z.heap.size, off := 0 })], .int .i64 (x.1.1 : Int), .int .u16 (x.1.2 : Int), Value.slice sp L cap, Value.int IntKind.i64 (L : Int), Value.bool false, undef, Value.slice sp L cap, Value.string (bstr l), Value.agg P, Value.bool mb, Value.agg P, Value.bool mb, Value.bool false, Value.bool false, Value.slice sp L cap, Value.slice sp3 L cap3, Value.agg P, Value.slice sp4 (L + 64) cap4, Value.string (bstr (l ++ padB p)), Value.string (bstr l), Value.agg P, Value.slice sp5 64 cap5, Value.string (bstr (padB p)), Value.string (bstr (l ++ padB p)), Value.bool false, Value.bool false, Value.bool false, Value.pointer (some { block := w.heap.size, off := 0 }), Value.int IntKind.u8 (p.kind : Int), Value.int IntKind.i64 (wideN p.kind : Int), Value.pointer (some { block := w.heap.size, off := 0 }), Value.int IntKind.u8 (p.kind : Int), Value.int IntKind.i64 (wideN p.kind : Int), Value.bool false, Value.bool false, Value.agg P, Value.slice sp8 cn cap8, Value.agg P, Value.func (Fn.func 31) #[] #[Value.pointer (some { block := Z.heap.size, off := 0 })], Value.func (Fn.func 31) #[] #[Value.pointer (some { block := Z.heap.size, off := 0 })], Value.bool false, Value.func (Fn.func 31) #[] #[Value.pointer (some { block := Z.heap.size, off := 0 })], .int .i64 (x.1.1 : Int), .int .u16 (x.1.2 : Int), undef, undef, undef, undef, undef, undef, undef, undef, undef, undef, undef, undef, undef, undef, undef, undef, undef, undef, undef, undef, undef, undef, undef, undef, undef, undef, undef, undef, undef, undef, undef, undef, undef], defers := [] }) ?assign ?body ?done ?stop)
  case assign =>
    intro l x W K hK
    unfold encC
    gi_wp2
    exact hK
  case body =>
    rintro l pre ⟨⟨d, a⟩, hd, ha0, hal⟩ W hI _
    have HI := Lib.hid hI
    have c9 : W.cell? ⟨g8 + 1, 0, none⟩ = some (.int .i64 (pre.length : Int)) := hI.h9.cell (j := 0) rfl
    have f9 := hI.h9.free 0
    have c8 : W.cell? ⟨g8, 0, none⟩ = some (.slice sp8 cn cap8) := hI.h8.cell (j := 0) rfl
    have c5 : W.cell? ⟨w.heap.size + 1, 0, none⟩ = some (.int .u8 (m : Int)) := hI.mo.cell (j := 0) rfl
    have c6 : W.cell? ⟨w.heap.size + 1 + 1, 0, none⟩ = some (.bool false) := hI.re.cell (j := 0) rfl
    have f6 := hI.re.free 0
    have hne1 : ¬ g8 = w.heap.size := by have := hI.o; omega
    have hne2 : ¬ w.heap.size = g8 := by have := hI.o; omega
    clear hI
    obtain ⟨n, hn⟩ : ∃ n, pre.length = n := ⟨_, rfl⟩
    have HN := Lib.hid hn
    rw [hn] at c9
    clear hn
    simp only at hd ha0 hal
    by_cases hge : cn ≤ n
    · have q : (cn : Int) ≤ (n : Int) := by omega
      have HX : Hid (TgX w m sp8 cn cap8 g8 (copiesP p) .ret (pre ++ [⟨(d, a), hd, ha0, hal⟩]) (W.setCell ⟨w.heap.size + 1 + 1, 0, none⟩ (.bool false))) := Lib.hid (.inl ⟨rfl, fun hpre => by
        have h1 := hpre.length_le
        have h2 := HI.out.wa.1
        simp at h1
        have := HN.out
        omega⟩)
      clear hge
      gi_wp2
      exact ⟨KeepsOthers.setCell _ _ _, HX.out⟩
    · have q : ¬ ((cn : Int) ≤ (n : Int)) := by omega
      have q2 : (n : Int) < (cn : Int) := by omega
      obtain ⟨g, d', a', hsp, cA, cB, hget⟩ := HI.out.wa.get (i := n) (by omega)
      subst hsp
      have HGET := Lib.hid hget
      have HNL : Hid (n < cn) := Lib.hid (by omega)
      have hcl : n ≤ 4 := by
        have h2 := HI.out.wa.1
        have h3 : (copiesP p).length ≤ p.ats.length := copiesFrom_len _ _
        have := HP.out.len
        omega
      have wk := IntWalk.i64_in ((n : Int) + 1) (by omega)
      have wm := IntWalk.i64_in (m : Int) (by have := HM8.out; omega)
      have hcmp : ∀ W, (Op.equalIn 10000 41 (.agg #[.int .i64 (d' : Int), .int .u16 (a' : Int)]) (.agg #[.int .i64 (d : Int), .int .u16 (a : Int)])).run Tryd.prog W = .ok (decide (d' = d ∧ a' = a)) W := fun W => run_eqC d' a' d a W
      have hgd : Tryd.prog.eqGuardType Tryd.prog.depth 41 = false := by kernel_rfl
      clear hge hget
      by_cases hda : d' = d ∧ a' = a
      · rw [decide_eq_true hda] at hcmp
        have HDA := Lib.hid hda
        have HJ : Hid (∀ Y, Y = W.setCell ⟨g8 + 1, 0, none⟩ (.int .i64 ((n : Int) + 1)) → KeepsOthers W Y ∧ (n + 1 ≤ m → TgI w m (some ⟨g, 0, none⟩) cn cap8 g8 (copiesP p) (pre ++ [⟨(d, a), hd, ha0, hal⟩]) Y) ∧ (m < n + 1 → TgX w m (some ⟨g, 0, none⟩) cn cap8 g8 (copiesP p) (.exit 0) (pre ++ [⟨(d, a), hd, ha0, hal⟩]) Y)) := Lib.hid (fun Y e => by
          have hst := HI.out.next (x := ⟨(d, a), hd, ha0, hal⟩) (W' := Y) (by rw [e, HN.out])
          refine ⟨by rw [e]; exact KeepsOthers.setCell _ _ _, fun h => ⟨hst.1, hst.2.1, hst.2.2.1, hst.2.2.2.1, by simp [HN.out]; omega, hst.2.2.2.2.1, hst.2.2.2.2.2, HI.out.o⟩, fun h => .inr ⟨rfl, by simp [HN.out]; omega, hst.1, hst.2.1, hst.2.2.1, hst.2.2.2.1, hst.2.2.2.2.1, hst.2.2.2.2.2⟩⟩)
        clear hda HI HGET
        by_cases hm : m < n + 1
        · have q3 : (m : Int) < (n : Int) + 1 := by omega
          have HJ2 := Lib.hid (HJ.out _ rfl)
          have hm2 := Lib.hid hm
          clear hm HJ
          gi_wp2
          exact ⟨HJ2.out.1, HJ2.out.2.2 hm2.out⟩
        · have q3 : ¬ ((m : Int) < (n : Int) + 1) := by omega
          have q4 : (n : Int) < (m : Int) := by omega
          have q5 : ¬ ((m : Int) ≤ (n : Int)) := by omega
          have HJ2 := Lib.hid (HJ.out _ rfl)
          have hm2 := Lib.hid hm
          clear hm HJ
          gi_wp2
          exact ⟨HJ2.out.1, trivial, HJ2.out.2.1 (by have := hm2.out; omega)⟩
      · rw [decide_eq_false hda] at hcmp
        have HX : Hid (TgX w m (some ⟨g, 0, none⟩) cn cap8 g8 (copiesP p) .ret (pre ++ [⟨(d, a), hd, ha0, hal⟩]) (W.setCell ⟨w.heap.size + 1 + 1, 0, none⟩ (.bool false))) := Lib.hid (.inl ⟨rfl, fun hpre => by
          obtain ⟨r, hr⟩ := hpre
          have h1 := HGET.out
          rw [← hr, List.map_append, List.append_assoc, List.getElem?_append_right (by simp [HN.out])] at h1
          simp [HN.out] at h1
          exact hda ⟨h1.1.symm, h1.2.symm⟩⟩)
        clear hda HGET HI
        gi_wp2
        exact ⟨KeepsOthers.setCell _ _ _, HX.out⟩
  case done =>
    rintro D ys W hD rfl hI hK
    have HI := Lib.hid hI
    have hlen : (cps p).length = cn := by rw [← HI.out.wa.1, ← cps_val HP.out]; simp
    have HLE := Lib.hid hlen
    have c9 : W.cell? ⟨g8 + 1, 0, none⟩ = some (.int .i64 ((cps p).length : Int)) := hI.h9.cell (j := 0) rfl
    have c8 : W.cell? ⟨g8, 0, none⟩ = some (.slice sp8 cn cap8) := hI.h8.cell (j := 0) rfl
    rw [hlen] at c9
    have HWK : Hid (Calls Tryd.prog 6 #[] W fun e w' => e = .returned (.bool true) ∧ Below W.heap.size W w') := Lib.hid (wakes_any W (HTT.out.below hI.bel (Nat.le_refl _)) (HRR.out.below hI.bel (Nat.le_refl _)) (by decide))
    have HK := Lib.hid hK
    clear hI hK hlen
    go_wp2_with fail
    refine HWK.out.mono ?_
    rintro e W9 ⟨rfl, hb9⟩
    have hre := HI.out.re.below hb9 HI.out.re.lt
    have c6 : W9.cell? ⟨w.heap.size + 1 + 1, 0, none⟩ = some (.bool false) := hre.cell (j := 0) rfl
    have f6 := hre.free 0
    have HRE := Lib.hid hre
    have HB9 := Lib.hid (HI.out.bel.trans (hb9.mono HI.out.bel.size))
    have HK9 : Hid (W9.heap[D]? = some (.deferred (some []))) := Lib.hid ((hb9.block D (Array.getElem?_eq_some_iff.1 HK.out).1).trans HK.out)
    clear hre hb9 HWK
    go_wp2_with fail
    have hK' := (KeepsOthers.setCell W9 ⟨w.heap.size + 1 + 1, 0, none⟩ (.bool true)).same D _ HK9.out rfl
    refine ⟨by simp, .inl ⟨_, _, rfl, run_takeDeferred hK', ?_⟩⟩
    have hc5 := cell_kept (World.cell?_setCell_same' W9 ⟨w.heap.size + 1 + 1, 0, none⟩ (.bool true) (by rw [c6]; rfl)) (grownBy_putObj' _ D (.deferred none)) (fun r e => by cases e; exact ⟨_, hK', rfl⟩)
    refine ⟨.bool true, ?_, rfl, (HB9.out.setCell (p := ⟨w.heap.size + 1 + 1, 0, none⟩) (by simp; omega) _).trans (belowK_b (w := w) (Nat.le_refl _) _ D _ _ (by have := HSS.out; simp at hD; omega) hK' rfl rfl)⟩
    simp [results, Tryd.f3, go_sem, hc5]
  case stop =>
    rintro D c pre W hD hpre hX hK
    rcases hX with ⟨_, hno⟩ | ⟨rfl, hmn, hmo, hre, h8, h9, hwa, hbel⟩
    · exfalso
      obtain ⟨r, hr⟩ := hpre
      refine hno ⟨r.map (fun z => z.1), ?_⟩
      rw [← List.map_append, hr, cps_val HP.out]
    have HRE0 := Lib.hid hre
    have HBL := Lib.hid hbel
    obtain ⟨n, hn⟩ : ∃ n, pre.length = n := ⟨_, rfl⟩
    rw [hn] at hmn h9
    have hcl : n ≤ 4 := by
      have h1 := hpre.length_le
      have h2 : (cps p).length ≤ p.ats.length := cpsFrom_length _ _
      have := HP.out.len
      omega
    have c9 : W.cell? ⟨g8 + 1, 0, none⟩ = some (.int .i64 (n : Int)) := h9.cell (j := 0) rfl
    have c8 : W.cell? ⟨g8, 0, none⟩ = some (.slice sp8 cn cap8) := h8.cell (j := 0) rfl
    have c5 : W.cell? ⟨w.heap.size + 1, 0, none⟩ = some (.int .u8 (m : Int)) := hmo.cell (j := 0) rfl
    have wm := IntWalk.i64_in (m : Int) (by have := HM8.out; omega)
    have q3 : (m : Int) < (n : Int) := by omega
    have HWK : Hid (Calls Tryd.prog 6 #[] W fun e w' => e = .returned (.bool true) ∧ Below W.heap.size W w') := Lib.hid (wakes_any W (HTT.out.below hbel (Nat.le_refl _)) (HRR.out.below hbel (Nat.le_refl _)) (by decide))
    have HK := Lib.hid hK
    refine wpIn_wide.2 ?_
    clear hpre hmo hre h8 h9 hwa hbel hK hmn hn
    by_cases hnc : n = cn
    · have hnci : (n : Int) = (cn : Int) := by omega
      go_wp2_with fail
      refine HWK.out.mono ?_
      rintro e W9 ⟨rfl, hb9⟩
      have hre := HRE0.out.below hb9 HRE0.out.lt
      have c6 : W9.cell? ⟨w.heap.size + 1 + 1, 0, none⟩ = some (.bool false) := hre.cell (j := 0) rfl
      have f6 := hre.free 0
      have HB9 := Lib.hid (HBL.out.trans (hb9.mono HBL.out.size))
      have HK9 : Hid (W9.heap[D]? = some (.deferred (some []))) := Lib.hid ((hb9.block D (Array.getElem?_eq_some_iff.1 HK.out).1).trans HK.out)
      clear hre hb9 HWK
      go_wp2_with fail
      have hK' := (KeepsOthers.setCell W9 ⟨w.heap.size + 1 + 1, 0, none⟩ (.bool true)).same D _ HK9.out rfl
      refine ⟨by simp, .inl ⟨_, _, rfl, run_takeDeferred hK', ?_⟩⟩
      have hc5 := cell_kept (World.cell?_setCell_same' W9 ⟨w.heap.size + 1 + 1, 0, none⟩ (.bool true) (by rw [c6]; rfl)) (grownBy_putObj' _ D (.deferred none)) (fun r e => by cases e; exact ⟨_, hK', rfl⟩)
      refine ⟨.bool true, ?_, rfl, (HB9.out.setCell (p := ⟨w.heap.size + 1 + 1, 0, none⟩) (by simp; omega) _).trans (belowK_b (w := w) (Nat.le_refl _) _ D _ _ (by have := HSS.out; simp at hD; omega) hK' rfl rfl)⟩
      simp [results, Tryd.f3, go_sem, hc5]
    · have hnci : ¬ ((n : Int) = (cn : Int)) := by omega
      go_wp2_with fail
      refine HWK.out.mono ?_
      rintro e W9 ⟨rfl, hb9⟩
      have hre := HRE0.out.below hb9 HRE0.out.lt
      have c6 : W9.cell? ⟨w.heap.size + 1 + 1, 0, none⟩ = some (.bool false) := hre.cell (j := 0) rfl
      have f6 := hre.free 0
      have HB9 := Lib.hid (HBL.out.trans (hb9.mono HBL.out.size))
      have HK9 : Hid (W9.heap[D]? = some (.deferred (some []))) := Lib.hid ((hb9.block D (Array.getElem?_eq_some_iff.1 HK.out).1).trans HK.out)
      clear hre hb9 HWK
      go_wp2_with fail
      have hK' := (KeepsOthers.setCell W9 ⟨w.heap.size + 1 + 1, 0, none⟩ (.bool true)).same D _ HK9.out rfl
      refine ⟨by simp, .inl ⟨_, _, rfl, run_takeDeferred hK', ?_⟩⟩
      have hc5 := cell_kept (World.cell?_setCell_same' W9 ⟨w.heap.size + 1 + 1, 0, none⟩ (.bool true) (by rw [c6]; rfl)) (grownBy_putObj' _ D (.deferred none)) (fun r e => by cases e; exact ⟨_, hK', rfl⟩)
      refine ⟨.bool true, ?_, rfl, (HB9.out.setCell (p := ⟨w.heap.size + 1 + 1, 0, none⟩) (by simp; omega) _).trans (belowK_b (w := w) (Nat.le_refl _) _ D _ _ (by have := HSS.out; simp at hD; omega) hK' rfl rfl)⟩
      simp [results, Tryd.f3, go_sem, hc5]
set_option maxRecDepth 100000 in
set_option maxHeartbeats 4000000 in
theorem ptrTells_walk (p : Pt) (hp : p.OK) (l : Bs) (sp : Option Addr) (cap m : Nat) (w : World) (hc : l.length ≤ cap) (hm : cap ≤ maxLen) (hz : sp = none → cap = 0) (hS : SrcA w sp l) (hm8 : m < 256) (hT : Tab w) (hR : RTab w) :
    Calls Tryd.prog 3 #[.agg (pcells p).toArray, .slice sp l.length cap, .int .u8 (m : Int)] w fun e w' => e = .returned (.bool true) ∧ Below w.heap.size w w' := by
  by_cases h : l.length ≤ 200
  · exact ptrTells_go p hp l sp cap m w hm8 h hc hz hS hT hR
  · obtain ⟨L, hL⟩ : ∃ L, l.length = L := ⟨_, rfl⟩
    have HST : Hid (∀ X, X = ((w.alloc (.cells (pcells p).toArray 28)).alloc (.cells #[.int .u8 (m : Int)] 5)).alloc (.cells #[.bool false] 4) → TeS p m l sp w X) := Lib.hid (fun X e => by
      have hb : Below w.heap.size w X := by rw [e]; exact (((Below.refl _ _).alloc (Nat.le_refl _) _).alloc (by simp) _).alloc (by simp; omega) _
      refine ⟨?_, ?_, ?_, hS.grown hb, hT.below hb (Nat.le_refl _), hR.grown hb, hb⟩
      · rw [e]; exact ((Blk.new _ _ _).alloc _).alloc _
      · rw [e]; exact (Blk.new' _ _ [.int .u8 (m : Int)] _ _ (by simp) rfl).alloc _
      · rw [e]; exact Blk.new' _ _ [.bool false] _ _ (by simp) rfl)
    have i1 : (200 : Int) < (L : Int) := by omega
    obtain ⟨P, hPP⟩ : ∃ P, (pcells p).toArray = P := ⟨_, rfl⟩
    rw [hL, hPP]
    rw [hPP] at HST
    clear hc hm hz hS hT hR h hL hPP hm8
    refine callsIn_wide.1 (callsIn_of_wp_marks (F := Fence.wide) (n := 5) Tryd.func3 rfl trivial ?_ rfl)
    refine wpIn_wide.2 ?_
    simp only [Tryd.ntmps3, List.size_toArray, List.length_cons, List.length_nil, Nat.reduceAdd, Nat.reduceSub, Array.replicate_succ, Array.replicate_zero, List.push_toArray, List.append_toArray, List.nil_append, List.cons_append]
    go_upto_region 2 with fail
    refine (fun (k : ∀ X, TeS p m l sp w X → Code.wp _ _ _ _ X) => k _ (HST.out _ rfl)) ?_
    intro X0 hX0
    have HX0 := Lib.hid hX0
    clear hX0 HST
    go_wp2_with fail
    refine (wakes_any X0 HX0.out.tab HX0.out.rt (by decide)).mono ?_
    rintro e W9 ⟨rfl, hb9⟩
    have hre := HX0.out.re.below hb9 HX0.out.re.lt
    have c6 : W9.cell? ⟨w.heap.size + 1 + 1, 0, none⟩ = some (.bool false) := hre.cell (j := 0) rfl
    have f6 := hre.free 0
    have HB9 := Lib.hid (HX0.out.bel.trans (hb9.mono HX0.out.bel.size))
    clear hre hb9
    go_wp2_with fail
    have hc5 : (W9.setCell ⟨w.heap.size + 1 + 1, 0, none⟩ (.bool true)).cell? ⟨w.heap.size + 1 + 1, 0, none⟩ = some (.bool true) := World.cell?_setCell_same' W9 ⟨w.heap.size + 1 + 1, 0, none⟩ (.bool true) (by rw [c6]; rfl)
    refine ⟨.bool true, ?_, rfl, HB9.out.setCell (p := ⟨w.heap.size + 1 + 1, 0, none⟩) (by simp; omega) _⟩
    simp [results, Tryd.f3, go_sem, hc5]
end Go.Proofs.YtlibdcgpjglcpaaDoor
