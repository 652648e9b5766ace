/- Read and Check. -/
import Derived.Test.YtmgagalhpkieoaaGreatDoorM32
namespace Go.Proofs.YtmgagalhpkieoaaGreatDoor
open Go.RowKit Go.Shelf

attribute [local go_sem] Oper.semAt_some

theorem run_storeFn {P : Program} {w : World} {a : Addr} {m : Mode} (f : Fn) (ts C : Array Value) : (store a (.func f ts C) m).run P w = stored P w a (.func f ts C) m := run_store P w a _ m rfl
attribute [local go_sem] run_storeFn
abbrev cpv (l : List Cp) : List Cpy := l.map fun z => z.1
theorem ill_snoc (x : Mi Dsk Sp) (p : Pt) (l : List Cpy) (c : Cpy) : ill kinD x p (l ++ [c]) = lkb x p c (ill kinD x p l) := by
  unfold ill lkb
  rw [List.filter_append]
  cases h1 : gd kinD x p c with
  | some b => simp [h1]
  | none =>
    cases h2 : (x.d c.1).dead with
    | true => simp [show kinD.dead (x.d c.1) = true from h2]
    | false => simp [h1, show kinD.dead (x.d c.1) = false from h2]
theorem founds_snoc (x : Mi Dsk Sp) (l : List Cpy) (c : Cpy) : founds x (l ++ [c]) = { founds x l with f := upk (founds x l).f c.1 ((founds x l).f c.1 + 1) } := by
  unfold founds
  simp only [Mi.mk.injEq, true_and, and_true]
  funext k
  unfold upk cntC
  rw [List.countP_append]
  by_cases e : k = c.1
  · subst e; simp; omega
  · rw [if_neg e]
    simp [show (c.1 == k) = false by simp; omega]
theorem look_x (x : Mi Dsk Sp) (p : Pt) (l : List Cpy) (c : Cpy) : lkx (founds x (ill kinD x p l)) p c = founds x (ill kinD x p (l ++ [c])) := by
  rw [ill_snoc]
  unfold lkx lkb
  show (if (gd kinD x p c).isSome || (x.d c.1).dead then _ else _) = founds x (if (gd kinD x p c).isSome || (x.d c.1).dead then _ else _)
  split
  · rfl
  · rw [founds_snoc]
theorem look_b (x : Mi Dsk Sp) (p : Pt) (l : List Cpy) (c : Cpy) : lkb (founds x (ill kinD x p l)) p c (ill kinD x p l) = ill kinD x p (l ++ [c]) := by
  rw [ill_snoc]
  rfl
theorem look_t (x : Mi Dsk Sp) (p : Pt) (l m : List Cpy) (c : Cpy) : lkt (founds x m) p c (firstG kinD x p l) = firstG kinD x p (l ++ [c]) := by
  unfold lkt firstG
  rw [List.findSome?_append]
  show orE _ (gd kinD x p c) = _
  cases h : List.findSome? (gd kinD x p) l with
  | none => simp [orE, List.findSome?]; cases gd kinD x p c <;> rfl
  | some b => simp [orE]
theorem till_all {g : Cpy → Bool} : ∀ {l : List Cpy}, (∀ c ∈ l, g c = false) → till g l = l
  | [], _ => rfl
  | a :: l, h => by
    unfold till
    rw [if_neg (by rw [h a (by simp)]; simp), till_all (fun c hc => h c (by simp [hc]))]
theorem till_stop {g : Cpy → Bool} : ∀ {q : List Cpy} {c : Cpy} {r : List Cpy}, (∀ y ∈ q, g y = false) → g c = true → till g (q ++ c :: r) = q ++ [c]
  | [], c, r, _, h => by simp [till, h]
  | a :: q, c, r, hq, h => by
    simp only [List.cons_append]
    unfold till
    rw [if_neg (by rw [hq a (by simp)]; simp), till_stop (fun y hy => hq y (by simp [hy])) h]
theorem end_is (x : Mi Dsk Sp) (p : Pt) (l : List Cpy) : endX (founds x (ill kinD x p l)) p (firstG kinD x p l) (ill kinD x p l) = endS kinD x p l := by
  unfold endX endS
  cases firstG kinD x p l <;> rfl
theorem ill_len4 {x : Mi Dsk Sp} {p : Pt} {l : List Cpy} : (ill kinD x p l).length ≤ l.length := List.length_filter_le _ _
structure RdI (all : Bool) (W4 : World) (lab : Nat → Nat) (g g7 : Nat) (lkv : Value) (P : Pl) (x : Mi Dsk Sp) (p : Pt) (pre : List Cp) (W : World) : Prop where
  lk : LkPost W4.heap.size g W4 lab P (founds x (ill kinD x p (cpv pre))) p (firstG kinD x p (cpv pre)) (ill kinD x p (cpv pre)) W
  no : all = false → ∀ c ∈ cpv pre, (gd kinD x p c).isSome = false
  fb : Blk W g7 [lkv] 107
structure RdX (all : Bool) (W4 : World) (lab : Nat → Nat) (g g7 : Nat) (lkv : Value) (P : Pl) (x : Mi Dsk Sp) (p : Pt) (c : Code) (pre : List Cp) (W : World) : Prop where
  c : c = .exit 0
  a : all = false
  lk : LkPost W4.heap.size g W4 lab P (founds x (ill kinD x p (cpv pre))) p (firstG kinD x p (cpv pre)) (ill kinD x p (cpv pre)) W
  no : ∃ q y, cpv pre = q ++ [y] ∧ (∀ c ∈ q, (gd kinD x p c).isSome = false) ∧ (gd kinD x p y).isSome = true
theorem LkPost.grown {g : Nat} {W4 W W' : World} {lab : Nat → Nat} {P : Pl} {x : Mi Dsk Sp} {p : Pt} {t : Option Bs} {bad : List Cpy} (h : LkPost W4.heap.size g W4 lab P x p t bad W) {row : Option Nat} (hg : W.grownBy W' row) (hr : ∀ r, row = some r → W4.heap.size ≤ r ∧ ∃ o : Obj, W.heap[r]? = some o ∧ o.isCells = false) : LkPost W4.heap.size g W4 lab P x p t bad W' := by
  have hr' : ∀ r, row = some r → ∃ o : Obj, W.heap[r]? = some o ∧ o.isCells = false := fun r e => (hr r e).2
  refine ⟨h.mi.grown hg hr, h.se.grown hg hr', h.chg.grown hg (fun k hk => .inr (hr k hk).1), ⟨Nat.le_trans h.kp.size hg.size, fun k o hk ho _ => ?_⟩, fun k cs ty a b c d e => (h.kb k cs ty a b c d e).kept hg hr'⟩
  have := (Array.getElem?_eq_some_iff.1 ho).1
  omega
theorem rdI_own (all : Bool) (W4 : World) (lab : Nat → Nat) (g g7 : Nat) (lkv : Value) (P : Pl) (x : Mi Dsk Sp) (p : Pt) : OwnFrom W4.heap.size (RdI all W4 lab g g7 lkv P x p) := fun s A B row h hg hr =>
  ⟨h.lk.grown hg hr, h.no, h.fb.kept hg (fun r e => (hr r e).2)⟩
theorem rdX_own (all : Bool) (W4 : World) (lab : Nat → Nat) (g g7 : Nat) (lkv : Value) (P : Pl) (x : Mi Dsk Sp) (p : Pt) (c : Code) : OwnFrom W4.heap.size (RdX all W4 lab g g7 lkv P x p c) := fun s A B row h hg hr => ⟨h.c, h.a, h.lk.grown hg hr, h.no⟩
structure RdPost8 (all : Bool) (w : World) (lab : Nat → Nat) (P : Pl) (x : Mi Dsk Sp) (p : Pt) (v : Value) (w' : World) : Prop where
  ok : ∃ lab', MiAt w' lab' P (healS kinD x p all) ∧ Stp w lab w' lab' ∧ TolB w' lab' w.heap.size v (healB kinD x p all)
structure SnPost (all : Bool) (w : World) (lab : Nat → Nat) (g : Nat) (P : Pl) (x : Mi Dsk Sp) (p : Pt) (D : Nat) (W : World) : Prop where
  ok : ∃ lab', MiAt W lab' P (founds x (ill kinD x p (seen kinD x p all))) ∧ SeAt g lab' P p (firstG kinD x p (seen kinD x p all)) (ill kinD x p (seen kinD x p all)) W ∧ Stp w lab W lab' ∧ lab' D = 0
theorem snPost_of {all : Bool} {w W4 W : World} {lab labT : Nat → Nat} {g D : Nat} {P : Pl} {x : Mi Dsk Sp} {p : Pt} {l : List Cpy} (hst : Stp w lab W4 labT) (hm : MiAt W4 labT P x) (hg : w.heap.size ≤ g) (hD : W4.heap.size ≤ D) (h : LkPost W4.heap.size g W4 labT P (founds x (ill kinD x p l)) p (firstG kinD x p l) (ill kinD x p l) W) (hl : l = seen kinD x p all) : SnPost all w lab g P x p D W := by
  subst hl
  refine ⟨labT, h.mi.at', h.se, ⟨hst.chg.trans h.chg (fun i hi => ?_), fun b hb => hst.eq b hb⟩, hm.lab0 hD⟩
  by_cases hs : i < w.heap.size
  · left
    rcases hi with hi | hi
    · rcases hst.eq i hs with e | e
      · rw [hi] at e; exact ⟨by omega, by omega⟩
      · omega
    · omega
  · right; omega
theorem Stp.putNew {w W : World} {lab lab' : Nat → Nat} (h : Stp w lab W lab') {D : Nat} (hD : w.heap.size ≤ D) (o : Obj) : Stp w lab (W.putObj D o) lab' :=
  ⟨h.chg.grown (grownBy_putObj' W D o) (fun k e => by cases e; exact .inr hD), h.eq⟩
theorem MiAt.putObj {W : World} {lab : Nat → Nat} {P : Pl} {x : Mi Dsk Sp} (h : MiAt W lab P x) {D : Nat} (hD : lab D = 0) (o : Obj) : MiAt (W.putObj D o) lab P x :=
  h.out (F := fun b => b = D) ((Chg.refl _ W).grown (grownBy_putObj' W D o) (fun k e => by cases e; exact .inl rfl)) (fun b e => by subst e; exact hD)
theorem TolB.le {X : World} {lab : Nat → Nat} {g g' : Nat} {v : Value} {t : Option Bs} (h : TolB X lab g v t) (hg : g' ≤ g) : TolB X lab g' v t := by
  unfold TolB at *
  cases t with
  | none => exact h
  | some b =>
    obtain ⟨gb, e, hl, hb, h0, h1⟩ := h
    exact ⟨gb, e, hl, hb, h0, Nat.le_trans hg h1⟩
theorem TolB.putObj {X : World} {lab : Nat → Nat} {g D : Nat} {v : Value} {t : Option Bs} (h : TolB X lab g v t) {o : Obj} (ho : X.heap[D]? = some o) (hn : o.isCells = false) (o' : Obj) : TolB (X.putObj D o') lab g v t := by
  unfold TolB at *
  cases t with
  | none => exact h
  | some b =>
    obtain ⟨gb, e, hl, hb, h0⟩ := h
    exact ⟨gb, e, hl, hb.kept (grownBy_putObj' X D o') (fun r e => by cases e; exact ⟨o, ho, hn⟩), h0⟩
theorem rd_fin {all : Bool} {w W W9 : World} {lab lab' lab2 : Nat → Nat} {g D : Nat} {P : Pl} {x y : Mi Dsk Sp} {p : Pt} {v : Value} {t : Option Bs} (hst : Stp w lab W lab') (hD0 : lab' D = 0) (hDw : w.heap.size ≤ D) (hg : w.heap.size ≤ g) (hK : W.heap[D]? = some (.deferred (some [])))
    (hm : MiAt W9 lab2 P y) (hst2 : Stp W lab' W9 lab2) (ht : TolB W9 lab2 g v t) (hy : healS kinD x p all = y) (hb : healB kinD x p all = t) : W9.heap[D]? = some (.deferred (some [])) ∧ RdPost8 all w lab P x p v (W9.putObj D (.deferred none)) := by
  have hDs : D < W.heap.size := (Array.getElem?_eq_some_iff.1 hK).1
  have hK9 : W9.heap[D]? = some (.deferred (some [])) := by rw [hst2.chg.block D hDs (fun hf => hf.1 hD0)]; exact hK
  refine ⟨hK9, lab2, ?_, (hst.trans hst2).putNew hDw _, ?_⟩
  · rw [hy]; exact hm.putObj (hst2.lab0 hDs hD0) _
  · rw [hb]; exact (ht.putObj hK9 rfl _).le hg
theorem seen_done {x : Mi Dsk Sp} {p : Pt} (hp : p.OK) (all : Bool) (h : all = false → ∀ c ∈ cpv (cps p), (gd kinD x p c).isSome = false) : cpv (cps p) = seen kinD x p all := by
  have e : cpv (cps p) = copiesP p := cps_val hp
  unfold seen
  cases all with
  | true => rw [if_pos rfl]; exact e
  | false => rw [if_neg (by simp), ← e, till_all (h rfl)]
theorem seen_stop {x : Mi Dsk Sp} {p : Pt} (hp : p.OK) {pre : List Cp} (hpre : pre <+: cps p) (h : ∃ q y, cpv pre = q ++ [y] ∧ (∀ c ∈ q, (gd kinD x p c).isSome = false) ∧ (gd kinD x p y).isSome = true) : cpv pre = seen kinD x p false := by
  obtain ⟨q, y, e, hq, hy⟩ := h
  obtain ⟨r, hr⟩ := hpre
  unfold seen
  rw [if_neg (by simp), ← cps_val hp, ← hr]
  have e2 : cpv (pre ++ r) = q ++ y :: cpv r := by
    show List.map (fun z : Cp => z.1) (pre ++ r) = _
    rw [List.map_append, show List.map (fun z : Cp => z.1) pre = q ++ [y] from e]
    simp
  show cpv pre = till _ (cpv (pre ++ r))
  rw [e, e2]
  exact (till_stop hq hy).symm
set_option maxRecDepth 100000 in
set_option maxHeartbeats 16000000 in
theorem read_any8 (p : Pt) (hp : p.OK) (w : World) (lab : Nat → Nat) (P : Pl) (x : Mi Dsk Sp) (n : Nat) (h : MiAt w lab P x) (hl : Lim x n) (hn : n < 600000) :
    Calls Tryz.prog 9 #[.pointer (some ⟨P.M, 0, none⟩), .agg (pcells p).toArray] w fun e w' => ∃ v, e = .returned (.tuple #[v, .int .i64 (healE kinD x p false)]) ∧ RdPost8 false w lab P x p v w' := by
  have HP := Lib.hid hp; have HL := Lib.hid hl; have HN := Lib.hid hn
  have hb0 : Below w.heap.size w (w.alloc (.cells (pcells p).toArray 58)) := (Below.refl _ _).alloc (Nat.le_refl _) _
  have HB0 := Lib.hid hb0
  have HG0 : Hid ((w.alloc (.cells (pcells p).toArray 58)).heap[w.heap.size]? = some (.cells (pcells p).toArray 58 (0, 0))) := Lib.hid (Blk.new _ _ _)
  have HZ : Hid ((Tryz.prog.info? 58).map (·.size) = some (pcells p).toArray.size) := Lib.hid (size_pc hp)
  have HM0 := Lib.hid (h.below hb0)
  have hst0 : Stp w lab (w.alloc (.cells (pcells p).toArray 58)) lab := Stp.below hb0
  have HST0 := Lib.hid hst0
  cases hmay : mayP p with
  | false =>
    have hE : healE kinD x p false = 1 := by unfold healE; rw [if_neg (by rw [hmay]; simp)]
    have hS : healS kinD x p false = x := by unfold healS; rw [if_neg (by rw [hmay]; simp)]
    have hB : healB kinD x p false = none := by unfold healB; rw [if_neg (by rw [hmay]; simp)]
    have hR : refuseE p = 1 := by unfold refuseE; rw [if_neg (by rw [hmay]; simp)]
    have HF : Hid (∀ W, Below (w.alloc (.cells (pcells p).toArray 58)).heap.size (w.alloc (.cells (pcells p).toArray 58)) W → RdPost8 false w lab P x p (.slice none 0 0) W) := Lib.hid (fun W hb => ⟨lab, by rw [hS]; exact (h.below hb0).below hb, hst0.trans (Stp.below hb), by rw [hB]; rfl⟩)
    have HR := Lib.hid hR
    rw [hE]
    clear hp hl hn h hb0 hst0 hmay hE hS hB hR
    go_enter Tryz.func9, Tryz.ntmps9
    go_wp2_with (first | (refine wpList_load_row rfl 58 (.tmp 3) rfl w.heap.size rfl 58 _ _ _ HG0.out Tryz.underlying58 rfl HZ.out ?_) | (go_at_call 42; refine (refuse_any p HP.out P.M _ HM0.out.rt).mono ?_; rintro e w' ⟨rfl, hb⟩; rw [HR.out]) | fail)
    go_ret2
    exact ⟨_, rfl, HF.out _ hb⟩
  | true =>
    have hE : healE kinD x p false = endE (firstG kinD x p (seen kinD x p false)) := by unfold healE endE; rw [if_pos hmay]
    have hS : healS kinD x p false = endS kinD x p (seen kinD x p false) := by unfold healS; rw [if_pos hmay]
    have hB : healB kinD x p false = firstG kinD x p (seen kinD x p false) := by unfold healB; rw [if_pos hmay]
    have hR : refuseE p = 0 := by unfold refuseE; rw [if_pos hmay]
    obtain ⟨eE, heE⟩ : ∃ z, endE (firstG kinD x p (seen kinD x p false)) = z := ⟨_, rfl⟩
    have HEE := Lib.hid heE
    rw [hE, heE]
    clear heE
    have HS := Lib.hid hS; have HB := Lib.hid hB; have HR := Lib.hid hR
    clear hp hl hn h hb0 hst0 hmay hE hS hB hR
    refine callsIn_wide.1 (callsIn_of_wp_marks (F := Fence.wide) (n := 5) Tryz.func9 rfl trivial ?_ rfl)
    refine wpIn_wide.2 ?_
    simp only [Tryz.ntmps9, List.size_toArray, List.length_cons, List.length_nil, Nat.reduceAdd, Nat.reduceSub, Array.replicate_succ, Array.replicate_zero, List.push_toArray, List.append_toArray, List.nil_append, List.cons_append]
    go_upto_region 1 with fail
    generalize (w.alloc (.cells (pcells p).toArray 58)) = W0 at HB0 HG0 HM0 HST0 ⊢
    go_wp2_with (first | (refine wpList_load_row rfl 58 (.tmp 3) rfl w.heap.size rfl 58 _ _ _ HG0.out Tryz.underlying58 rfl HZ.out ?_) | fail)
    refine (refuse_any p HP.out P.M W0 HM0.out.rt).mono ?_
    rintro e W1 ⟨rfl, hb1⟩
    rw [HR.out]
    have HM1 := Lib.hid (HM0.out.below hb1)
    have HST1 := Lib.hid (HST0.out.trans (Stp.below hb1))
    have HG1 : Hid (W1.heap[w.heap.size]? = some (.cells (pcells p).toArray 58 (0, 0))) := Lib.hid (Blk.below (show Blk W0 w.heap.size (pcells p) 58 from HG0.out) hb1 (Blk.lt (show Blk W0 w.heap.size (pcells p) 58 from HG0.out)))
    have HW1 : Hid (w.heap.size ≤ W1.heap.size) := Lib.hid (Nat.le_trans HB0.out.size hb1.size)
    clear hb1 HM0 HST0 HG0 HB0
    go_wp2_with (first | (refine wpList_load_row rfl 58 (.tmp 3) rfl w.heap.size rfl 58 _ _ _ HG1.out Tryz.underlying58 rfl HZ.out ?_) | fail)
    refine (search_any p HP.out W1 lab P x HM1.out).mono ?_
    rintro e W2 ⟨rfl, hse, hb2⟩
    obtain ⟨C, hC⟩ : ∃ C : Array Value, #[.pointer (some ⟨W1.heap.size, 0, none⟩), .pointer (some ⟨W1.heap.size + 1, 0, none⟩), .pointer (some ⟨W1.heap.size + 1 + 1, 0, none⟩), .pointer (some ⟨W1.heap.size + 1 + 1 + 1, 0, none⟩)] = C := ⟨_, rfl⟩
    obtain ⟨E, hE⟩ : ∃ C : Array Value, #[.pointer (some ⟨W1.heap.size + 1 + 1, 0, none⟩), .pointer (some ⟨W1.heap.size + 1 + 1 + 1, 0, none⟩), .pointer (some ⟨W1.heap.size, 0, none⟩), .pointer (some ⟨W1.heap.size + 1, 0, none⟩)] = C := ⟨_, rfl⟩
    rw [hC, hE]
    unfold fval
    have HC := Lib.hid hC; have HE := Lib.hid hE
    have HSL : Hid (W1.heap.size + 4 ≤ W2.heap.size) := Lib.hid (by obtain ⟨v, hb, _⟩ := hse.bd; have := hb.lt; omega)
    have HM2 := Lib.hid (HM1.out.below hb2)
    have HST2 := Lib.hid (HST1.out.trans (Stp.below hb2))
    have HSE := Lib.hid hse
    have HG2 : Hid (Blk W2 w.heap.size (pcells p) 58) := Lib.hid (Blk.below (show Blk W1 w.heap.size (pcells p) 58 from HG1.out) hb2 (Blk.lt (show Blk W1 w.heap.size (pcells p) 58 from HG1.out)))
    clear hC hE hse hb2 HM1 HST1 HG1
    go_upto_region 5 with fail
    obtain ⟨W3, hW3⟩ : ∃ W3, W3 = W2.alloc (.cells #[.func (.func 82) #[] C] 107) := ⟨_, rfl⟩
    rw [← hW3]
    have hb3 : Below W2.heap.size W2 W3 := by rw [hW3]; exact (Below.refl _ _).alloc (Nat.le_refl _) _
    have hfb : Blk W3 W2.heap.size [.func (.func 82) #[] C] 107 := by rw [hW3]; exact Blk.new _ [_] _
    have hb4 : Below W3.heap.size W3 (W3.alloc (.cells (pcells p).toArray 58)) := (Below.refl _ _).alloc (Nat.le_refl _) _
    have hB5 : Blk (W3.alloc (.cells (pcells p).toArray 58)) W3.heap.size (pcells p) 58 := Blk.new _ _ _
    obtain ⟨labT, hti, hstT⟩ := ((HM2.out.below hb3).below hb4).tidy
    have HST4 := Lib.hid (((HST2.out.trans (Stp.below hb3)).trans (Stp.below hb4)).trans hstT)
    have HSE4 : Hid (SeAt W1.heap.size labT P p none [] (W3.alloc (.cells (pcells p).toArray 58))) := Lib.hid (((HSE.out.below hb3).below hb4).stp hstT)
    have HFB := Lib.hid (hfb.below hb4 hfb.lt)
    have HB5 := Lib.hid hB5
    have HTI := Lib.hid hti
    have HG3 : Hid (W3.heap[w.heap.size]? = some (.cells (pcells p).toArray 58 (0, 0))) := Lib.hid (HG2.out.below hb3 HG2.out.lt)
    have HL7 : Hid (labT W2.heap.size = 0 ∧ W1.heap.size + 4 ≤ W2.heap.size) := Lib.hid ⟨by
      have h1 := HM2.out.lab0 (Nat.le_refl _)
      have h2 : W2.heap.size < (W3.alloc (.cells (pcells p).toArray 58)).heap.size := (hfb.below hb4 hfb.lt).lt
      exact hstT.lab0 h2 h1, HSL.out⟩
    clear hW3 hb3 hfb hb4 hB5 hti hstT HM2 HST2 HSE HG2 HSL
    go_wp2_with (first | (refine wpList_load_row rfl 58 (.tmp 3) rfl w.heap.size rfl 58 _ _ _ HG3.out Tryz.underlying58 rfl HZ.out ?_) | (go_at_call 44; refine (copies_any p W3).mono ?_; rintro e w' ⟨rfl, rfl⟩) | fail)
    refine wpIn_wide.1 (wpIn_rangeFunc_ownG (n := 5) (w := W3.alloc (.cells (pcells p).toArray 58)) rfl (by omega) (gf := 86) (lb := #[.pointer (some ⟨W3.heap.size, 0, none⟩)]) rfl trivial (enters_of Tryz.func86 (by kernel_rfl) rfl)
      (copies_stops Fence.wide 4 trivial rfl (by omega) W3.heap.size p HP.out _ HB5.out) (fun _ _ => trivial) (fun _ _ _ _ _ _ _ _ => trivial) (Below.refl _ _) (fun _ => rfl)
      (RdI false (W3.alloc (.cells (pcells p).toArray 58)) labT W1.heap.size W2.heap.size (.func (.func 82) #[] C) P x p) (RdX false (W3.alloc (.cells (pcells p).toArray 58)) labT W1.heap.size W2.heap.size (.func (.func 82) #[] C) P x p) (rdI_own _ _ _ _ _ _ _ _ _) (rdX_own _ _ _ _ _ _ _ _ _) ⟨LkPost.refl HTI.out HSE4.out, fun _ c hc => by simp at hc, HFB.out⟩
      (fun x => { tmps := #[.pointer (some ⟨P.M, 0, none⟩), .agg (pcells p).toArray, undef, .pointer (some ⟨w.heap.size, 0, none⟩), .slice none 0 0, .int .i64 0, .int .i64 0, .pointer (some ⟨W2.heap.size, 0, none⟩), .func (.func 84) #[] E, .int .i64 (x.1.1 : Int), .int .u16 (x.1.2 : Int), .pointer (some ⟨P.M, 0, none⟩), .agg (pcells p).toArray, .int .i64 0, .int .i64 0, .bool false, undef, .tuple #[.func (.func 82) #[] C, .func (.func 84) #[] E], .pointer (some ⟨P.M, 0, none⟩), .agg (pcells p).toArray, .tuple #[.func (.func 82) #[] C, .func (.func 84) #[] E], .func (.func 82) #[] C, .func (.func 84) #[] E, .agg (pcells p).toArray, .func (.func 86) #[] #[.pointer (some ⟨W3.heap.size, 0, none⟩)], .int .i64 (x.1.1 : Int), .int .u16 (x.1.2 : Int), undef, undef, undef, undef, undef, undef, undef, undef, undef], defers := [] }) ?assign ?body ?done ?stop)
    case assign =>
      intro l y W K hK
      unfold encC
      gi_wp2
      exact hK
    case body =>
      rintro l pre ⟨⟨d, a⟩, hd, ha0, hal⟩ W hI hpre
      simp only at hd ha0 hal
      have HI := Lib.hid hI
      have c7 := hI.fb.cell (j := 0) rfl
      have hlim : Lim (founds x (ill kinD x p (cpv pre))) (n + 4) := (HL.out.founds _).mono (by have := ill_len4 (x := x) (p := p) (l := cpv pre); simp at this; omega)
      have hcall := qlook_any p HP.out (d, a) hd hal _ W1.heap.size W labT P _ (n + 4) _ _ hI.lk.mi hI.lk.se hlim (by have := HN.out; omega) (by have := ill_len4 (x := x) (p := p) (l := cpv pre); simp at this; omega)
      rw [look_x, look_b, look_t] at hcall
      have hg : gd kinD (founds x (ill kinD x p (cpv pre))) p (d, a) = gd kinD x p (d, a) := rfl
      rw [hg] at hcall
      have HCL : Hid (Calls Tryz.prog 82 (#[.agg (plc (d, a)).toArray] ++ C) W fun e w' => e = .returned (.bool (gd kinD x p (d, a)).isSome) ∧ LkPost (W3.alloc (.cells (pcells p).toArray 58)).heap.size W1.heap.size W labT P (founds x (ill kinD x p (cpv pre ++ [(d, a)]))) p (firstG kinD x p (cpv pre ++ [(d, a)])) (ill kinD x p (cpv pre ++ [(d, a)])) w') := Lib.hid (by rw [← HC.out]; exact hcall)
      have hcf : ∀ (args : Array Value) (w : World), (callFunc 82 args).run Tryz.prog w = .ok (.enter 82 args) w := enters_of Tryz.func82 (by kernel_rfl) rfl
      clear hI hlim hcall hg
      obtain ⟨m, hm⟩ : ∃ m, (gd kinD x p (d, a)).isSome = m := ⟨_, rfl⟩
      rw [hm] at HCL
      have HMM := Lib.hid hm
      clear hm
      dsimp only
      cases m with
      | false =>
        gi_wp2_with fail
        refine ⟨trivial, (CallsIn.inRound l (callsIn_wide.2 HCL.out)).mono ?_⟩
        rintro e w' ⟨rfl, hlk⟩
        gi_wp2_with fail
        refine ⟨hlk.kp, trivial, ?_⟩
        refine ⟨?_, fun _ c hc => ?_, hlk.kb _ _ _ (by decide) (by have := HL7.out; omega) (by have := HL7.out; omega) HL7.out.1 HI.out.fb⟩
        · have := HI.out.lk.trans hlk
          simpa using this
        · simp only [List.map_append, List.map_cons, List.map_nil, List.mem_append, List.mem_singleton] at hc
          rcases hc with hc | rfl
          · exact HI.out.no rfl c hc
          · exact HMM.out
      | true =>
        gi_wp2_with fail
        refine ⟨trivial, (CallsIn.inRound l (callsIn_wide.2 HCL.out)).mono ?_⟩
        rintro e w' ⟨rfl, hlk⟩
        gi_wp2_with fail
        refine ⟨hlk.kp, rfl, rfl, ?_, cpv pre, (d, a), by simp, HI.out.no rfl, HMM.out⟩
        have := HI.out.lk.trans hlk
        simpa using this
    case done =>
      rintro D ys W hD rfl hI hK
      have hD0 := hD
      have hsn := snPost_of (all := false) (D := D) HST4.out HTI.out.at' HW1.out hD hI.lk (seen_done HP.out false hI.no)
      obtain ⟨lab9, hm9, hse9, hst9, hz9⟩ := hsn
      clear hI hD0
      have HEND : Hid (Calls Tryz.prog 84 E W (EnPost W1.heap.size W lab9 P (endX (founds x (ill kinD x p (seen kinD x p false))) p (firstG kinD x p (seen kinD x p false)) (ill kinD x p (seen kinD x p false))) (firstG kinD x p (seen kinD x p false)))) := Lib.hid (by
        have h4 := ill_len kinD x HP.out false
        have := end_any8 p HP.out W1.heap.size W lab9 P _ (n + 4) _ _ hm9 hse9 ((HL.out.founds (ill kinD x p (seen kinD x p false))).mono (by omega)) (by have := HN.out; omega) (by omega) (fun c hc => by
          have := cps_ok HP.out c (seen_mem (List.mem_filter.1 hc).1)
          exact ⟨this.1, this.2.2⟩)
        rw [HE.out] at this
        exact this)
      have HFIN : Hid (∀ v W9 lab2, MiAt W9 lab2 P (endX (founds x (ill kinD x p (seen kinD x p false))) p (firstG kinD x p (seen kinD x p false)) (ill kinD x p (seen kinD x p false))) → Stp W lab9 W9 lab2 → TolB W9 lab2 W1.heap.size v (firstG kinD x p (seen kinD x p false)) →
          W9.heap[D]? = some (.deferred (some [])) ∧ RdPost8 false w lab P x p v (W9.putObj D (.deferred none))) := Lib.hid (fun v W9 lab2 h1 h2 h3 => rd_fin hst9 hz9 (by have := HST4.out.chg.size; omega) HW1.out hK h1 h2 h3 (by rw [HS.out, end_is]) HB.out)
      have hcf : ∀ (args : Array Value) (w : World), (callFunc 84 args).run Tryz.prog w = .ok (.enter 84 args) w := enters_of Tryz.func84 (by kernel_rfl) rfl
      clear hm9 hse9 hst9 hz9 hK hD
      go_wp2_with fail
      refine HEND.out.mono ?_
      rintro e W9 ⟨v, lab2, rfl, hm2, hst2, htb2⟩
      rw [HEE.out]
      obtain ⟨hK9, hfin⟩ := HFIN.out v W9 lab2 hm2 hst2 htb2
      clear hm2 hst2 htb2 HEND HFIN
      go_wp2_with fail
      refine ⟨by simp, .inl ⟨_, _, rfl, run_takeDeferred hK9, ?_⟩⟩
      refine ⟨.tuple #[v, .int .i64 eE], ?_, v, rfl, hfin⟩
      simp [results, Tryz.f9, go_sem]
    case stop =>
      rintro D c pre W hD hpre hX hK
      obtain ⟨rfl, -, hlk, hno⟩ := hX
      have hsn := snPost_of (all := false) (D := D) HST4.out HTI.out.at' HW1.out hD hlk (seen_stop HP.out hpre hno)
      obtain ⟨lab9, hm9, hse9, hst9, hz9⟩ := hsn
      clear hlk hno hpre
      have HEND : Hid (Calls Tryz.prog 84 E W (EnPost W1.heap.size W lab9 P (endX (founds x (ill kinD x p (seen kinD x p false))) p (firstG kinD x p (seen kinD x p false)) (ill kinD x p (seen kinD x p false))) (firstG kinD x p (seen kinD x p false)))) := Lib.hid (by
        have h4 := ill_len kinD x HP.out false
        have := end_any8 p HP.out W1.heap.size W lab9 P _ (n + 4) _ _ hm9 hse9 ((HL.out.founds (ill kinD x p (seen kinD x p false))).mono (by omega)) (by have := HN.out; omega) (by omega) (fun c hc => by
          have := cps_ok HP.out c (seen_mem (List.mem_filter.1 hc).1)
          exact ⟨this.1, this.2.2⟩)
        rw [HE.out] at this
        exact this)
      have HFIN : Hid (∀ v W9 lab2, MiAt W9 lab2 P (endX (founds x (ill kinD x p (seen kinD x p false))) p (firstG kinD x p (seen kinD x p false)) (ill kinD x p (seen kinD x p false))) → Stp W lab9 W9 lab2 → TolB W9 lab2 W1.heap.size v (firstG kinD x p (seen kinD x p false)) →
          W9.heap[D]? = some (.deferred (some [])) ∧ RdPost8 false w lab P x p v (W9.putObj D (.deferred none))) := Lib.hid (fun v W9 lab2 h1 h2 h3 => rd_fin hst9 hz9 (by have := HST4.out.chg.size; omega) HW1.out hK h1 h2 h3 (by rw [HS.out, end_is]) HB.out)
      have hcf : ∀ (args : Array Value) (w : World), (callFunc 84 args).run Tryz.prog w = .ok (.enter 84 args) w := enters_of Tryz.func84 (by kernel_rfl) rfl
      clear hm9 hse9 hst9 hz9 hK hD
      refine wpIn_wide.2 ?_
      go_wp2_with fail
      refine HEND.out.mono ?_
      rintro e W9 ⟨v, lab2, rfl, hm2, hst2, htb2⟩
      rw [HEE.out]
      obtain ⟨hK9, hfin⟩ := HFIN.out v W9 lab2 hm2 hst2 htb2
      clear hm2 hst2 htb2 HEND HFIN
      go_wp2_with fail
      refine ⟨by simp, .inl ⟨_, _, rfl, run_takeDeferred hK9, ?_⟩⟩
      refine ⟨.tuple #[v, .int .i64 eE], ?_, v, rfl, hfin⟩
      simp [results, Tryz.f9, go_sem]
set_option maxRecDepth 100000 in
set_option maxHeartbeats 16000000 in
theorem check_any8 (p : Pt) (hp : p.OK) (w : World) (lab : Nat → Nat) (P : Pl) (x : Mi Dsk Sp) (n : Nat) (h : MiAt w lab P x) (hl : Lim x n) (hn : n < 600000) :
    Calls Tryz.prog 11 #[.pointer (some ⟨P.M, 0, none⟩), .agg (pcells p).toArray] w fun e w' => e = .returned (.int .i64 (healE kinD x p true)) ∧ ∃ v, RdPost8 true w lab P x p v w' := by
  have HP := Lib.hid hp; have HL := Lib.hid hl; have HN := Lib.hid hn
  have hb0 : Below w.heap.size w (w.alloc (.cells (pcells p).toArray 58)) := (Below.refl _ _).alloc (Nat.le_refl _) _
  have HB0 := Lib.hid hb0
  have HG0 : Hid ((w.alloc (.cells (pcells p).toArray 58)).heap[w.heap.size]? = some (.cells (pcells p).toArray 58 (0, 0))) := Lib.hid (Blk.new _ _ _)
  have HZ : Hid ((Tryz.prog.info? 58).map (·.size) = some (pcells p).toArray.size) := Lib.hid (size_pc hp)
  have HM0 := Lib.hid (h.below hb0)
  have hst0 : Stp w lab (w.alloc (.cells (pcells p).toArray 58)) lab := Stp.below hb0
  have HST0 := Lib.hid hst0
  cases hmay : mayP p with
  | false =>
    have hE : healE kinD x p true = 1 := by unfold healE; rw [if_neg (by rw [hmay]; simp)]
    have hS : healS kinD x p true = x := by unfold healS; rw [if_neg (by rw [hmay]; simp)]
    have hB : healB kinD x p true = none := by unfold healB; rw [if_neg (by rw [hmay]; simp)]
    have hR : refuseE p = 1 := by unfold refuseE; rw [if_neg (by rw [hmay]; simp)]
    have HF : Hid (∀ W, Below (w.alloc (.cells (pcells p).toArray 58)).heap.size (w.alloc (.cells (pcells p).toArray 58)) W → RdPost8 true w lab P x p (.slice none 0 0) W) := Lib.hid (fun W hb => ⟨lab, by rw [hS]; exact (h.below hb0).below hb, hst0.trans (Stp.below hb), by rw [hB]; rfl⟩)
    have HR := Lib.hid hR
    rw [hE]
    clear hp hl hn h hb0 hst0 hmay hE hS hB hR
    go_enter Tryz.func11, Tryz.ntmps11
    go_wp2_with (first | (refine wpList_load_row rfl 58 (.tmp 3) rfl w.heap.size rfl 58 _ _ _ HG0.out Tryz.underlying58 rfl HZ.out ?_) | (go_at_call 42; refine (refuse_any p HP.out P.M _ HM0.out.rt).mono ?_; rintro e w' ⟨rfl, hb⟩; rw [HR.out]) | fail)
    go_ret
    exact ⟨rfl, _, HF.out _ hb⟩
  | true =>
    have hE : healE kinD x p true = endE (firstG kinD x p (seen kinD x p true)) := by unfold healE endE; rw [if_pos hmay]
    have hS : healS kinD x p true = endS kinD x p (seen kinD x p true) := by unfold healS; rw [if_pos hmay]
    have hB : healB kinD x p true = firstG kinD x p (seen kinD x p true) := by unfold healB; rw [if_pos hmay]
    have hR : refuseE p = 0 := by unfold refuseE; rw [if_pos hmay]
    obtain ⟨eE, heE⟩ : ∃ z, endE (firstG kinD x p (seen kinD x p true)) = z := ⟨_, rfl⟩
    have HEE := Lib.hid heE
    rw [hE, heE]
    clear heE
    have HS := Lib.hid hS; have HB := Lib.hid hB; have HR := Lib.hid hR
    clear hp hl hn h hb0 hst0 hmay hE hS hB hR
    refine callsIn_wide.1 (callsIn_of_wp_marks (F := Fence.wide) (n := 5) Tryz.func11 rfl trivial ?_ rfl)
    refine wpIn_wide.2 ?_
    simp only [Tryz.ntmps11, List.size_toArray, List.length_cons, List.length_nil, Nat.reduceAdd, Nat.reduceSub, Array.replicate_succ, Array.replicate_zero, List.push_toArray, List.append_toArray, List.nil_append, List.cons_append]
    go_upto_region 1 with fail
    generalize (w.alloc (.cells (pcells p).toArray 58)) = W0 at HB0 HG0 HM0 HST0 ⊢
    go_wp2_with (first | (refine wpList_load_row rfl 58 (.tmp 3) rfl w.heap.size rfl 58 _ _ _ HG0.out Tryz.underlying58 rfl HZ.out ?_) | fail)
    refine (refuse_any p HP.out P.M W0 HM0.out.rt).mono ?_
    rintro e W1 ⟨rfl, hb1⟩
    rw [HR.out]
    have HM1 := Lib.hid (HM0.out.below hb1)
    have HST1 := Lib.hid (HST0.out.trans (Stp.below hb1))
    have HG1 : Hid (W1.heap[w.heap.size]? = some (.cells (pcells p).toArray 58 (0, 0))) := Lib.hid (Blk.below (show Blk W0 w.heap.size (pcells p) 58 from HG0.out) hb1 (Blk.lt (show Blk W0 w.heap.size (pcells p) 58 from HG0.out)))
    have HW1 : Hid (w.heap.size ≤ W1.heap.size) := Lib.hid (Nat.le_trans HB0.out.size hb1.size)
    clear hb1 HM0 HST0 HG0 HB0
    go_wp2_with (first | (refine wpList_load_row rfl 58 (.tmp 3) rfl w.heap.size rfl 58 _ _ _ HG1.out Tryz.underlying58 rfl HZ.out ?_) | fail)
    refine (search_any p HP.out W1 lab P x HM1.out).mono ?_
    rintro e W2 ⟨rfl, hse, hb2⟩
    obtain ⟨C, hC⟩ : ∃ C : Array Value, #[.pointer (some ⟨W1.heap.size, 0, none⟩), .pointer (some ⟨W1.heap.size + 1, 0, none⟩), .pointer (some ⟨W1.heap.size + 1 + 1, 0, none⟩), .pointer (some ⟨W1.heap.size + 1 + 1 + 1, 0, none⟩)] = C := ⟨_, rfl⟩
    obtain ⟨E, hE⟩ : ∃ C : Array Value, #[.pointer (some ⟨W1.heap.size + 1 + 1, 0, none⟩), .pointer (some ⟨W1.heap.size + 1 + 1 + 1, 0, none⟩), .pointer (some ⟨W1.heap.size, 0, none⟩), .pointer (some ⟨W1.heap.size + 1, 0, none⟩)] = C := ⟨_, rfl⟩
    rw [hC, hE]
    unfold fval
    have HC := Lib.hid hC; have HE := Lib.hid hE
    have HSL : Hid (W1.heap.size + 4 ≤ W2.heap.size) := Lib.hid (by obtain ⟨v, hb, _⟩ := hse.bd; have := hb.lt; omega)
    have HM2 := Lib.hid (HM1.out.below hb2)
    have HST2 := Lib.hid (HST1.out.trans (Stp.below hb2))
    have HSE := Lib.hid hse
    have HG2 : Hid (Blk W2 w.heap.size (pcells p) 58) := Lib.hid (Blk.below (show Blk W1 w.heap.size (pcells p) 58 from HG1.out) hb2 (Blk.lt (show Blk W1 w.heap.size (pcells p) 58 from HG1.out)))
    clear hC hE hse hb2 HM1 HST1 HG1
    go_upto_region 5 with fail
    obtain ⟨W3, hW3⟩ : ∃ W3, W3 = W2.alloc (.cells #[.func (.func 82) #[] C] 107) := ⟨_, rfl⟩
    rw [← hW3]
    have hb3 : Below W2.heap.size W2 W3 := by rw [hW3]; exact (Below.refl _ _).alloc (Nat.le_refl _) _
    have hfb : Blk W3 W2.heap.size [.func (.func 82) #[] C] 107 := by rw [hW3]; exact Blk.new _ [_] _
    have hb4 : Below W3.heap.size W3 (W3.alloc (.cells (pcells p).toArray 58)) := (Below.refl _ _).alloc (Nat.le_refl _) _
    have hB5 : Blk (W3.alloc (.cells (pcells p).toArray 58)) W3.heap.size (pcells p) 58 := Blk.new _ _ _
    obtain ⟨labT, hti, hstT⟩ := ((HM2.out.below hb3).below hb4).tidy
    have HST4 := Lib.hid (((HST2.out.trans (Stp.below hb3)).trans (Stp.below hb4)).trans hstT)
    have HSE4 : Hid (SeAt W1.heap.size labT P p none [] (W3.alloc (.cells (pcells p).toArray 58))) := Lib.hid (((HSE.out.below hb3).below hb4).stp hstT)
    have HFB := Lib.hid (hfb.below hb4 hfb.lt)
    have HB5 := Lib.hid hB5
    have HTI := Lib.hid hti
    have HG3 : Hid (W3.heap[w.heap.size]? = some (.cells (pcells p).toArray 58 (0, 0))) := Lib.hid (HG2.out.below hb3 HG2.out.lt)
    have HL7 : Hid (labT W2.heap.size = 0 ∧ W1.heap.size + 4 ≤ W2.heap.size) := Lib.hid ⟨by
      have h1 := HM2.out.lab0 (Nat.le_refl _)
      have h2 : W2.heap.size < (W3.alloc (.cells (pcells p).toArray 58)).heap.size := (hfb.below hb4 hfb.lt).lt
      exact hstT.lab0 h2 h1, HSL.out⟩
    clear hW3 hb3 hfb hb4 hB5 hti hstT HM2 HST2 HSE HG2 HSL
    go_wp2_with (first | (refine wpList_load_row rfl 58 (.tmp 3) rfl w.heap.size rfl 58 _ _ _ HG3.out Tryz.underlying58 rfl HZ.out ?_) | (go_at_call 44; refine (copies_any p W3).mono ?_; rintro e w' ⟨rfl, rfl⟩) | fail)
    refine wpIn_wide.1 (wpIn_rangeFunc_ownG (n := 5) (w := W3.alloc (.cells (pcells p).toArray 58)) rfl (by omega) (gf := 86) (lb := #[.pointer (some ⟨W3.heap.size, 0, none⟩)]) rfl trivial (enters_of Tryz.func86 (by kernel_rfl) rfl)
      (copies_stops Fence.wide 4 trivial rfl (by omega) W3.heap.size p HP.out _ HB5.out) (fun _ _ => trivial) (fun _ _ _ _ _ _ _ _ => trivial) (Below.refl _ _) (fun _ => rfl)
      (RdI true (W3.alloc (.cells (pcells p).toArray 58)) labT W1.heap.size W2.heap.size (.func (.func 82) #[] C) P x p) (RdX true (W3.alloc (.cells (pcells p).toArray 58)) labT W1.heap.size W2.heap.size (.func (.func 82) #[] C) P x p) (rdI_own _ _ _ _ _ _ _ _ _) (rdX_own _ _ _ _ _ _ _ _ _) ⟨LkPost.refl HTI.out HSE4.out, fun hf => (by cases hf), HFB.out⟩
      (fun x => { tmps := #[.pointer (some ⟨P.M, 0, none⟩), .agg (pcells p).toArray, undef, .pointer (some ⟨w.heap.size, 0, none⟩), .int .i64 0, .int .i64 0, .pointer (some ⟨W2.heap.size, 0, none⟩), .func (.func 84) #[] E, .int .i64 (x.1.1 : Int), .int .u16 (x.1.2 : Int), undef, undef, .pointer (some ⟨P.M, 0, none⟩), .agg (pcells p).toArray, .int .i64 0, .int .i64 0, .bool false, undef, .tuple #[.func (.func 82) #[] C, .func (.func 84) #[] E], .pointer (some ⟨P.M, 0, none⟩), .agg (pcells p).toArray, .tuple #[.func (.func 82) #[] C, .func (.func 84) #[] E], .func (.func 82) #[] C, .func (.func 84) #[] E, .agg (pcells p).toArray, .func (.func 86) #[] #[.pointer (some ⟨W3.heap.size, 0, none⟩)], .int .i64 (x.1.1 : Int), .int .u16 (x.1.2 : Int), undef, undef, undef, undef, undef, undef, undef, undef, undef, undef, undef], defers := [] }) ?assign ?body ?done ?stop)
    case assign =>
      intro l y W K hK
      unfold encC
      gi_wp2
      exact hK
    case body =>
      rintro l pre ⟨⟨d, a⟩, hd, ha0, hal⟩ W hI hpre
      simp only at hd ha0 hal
      have HI := Lib.hid hI
      have c7 := hI.fb.cell (j := 0) rfl
      have hlim : Lim (founds x (ill kinD x p (cpv pre))) (n + 4) := (HL.out.founds _).mono (by have := ill_len4 (x := x) (p := p) (l := cpv pre); simp at this; omega)
      have hcall := qlook_any p HP.out (d, a) hd hal _ W1.heap.size W labT P _ (n + 4) _ _ hI.lk.mi hI.lk.se hlim (by have := HN.out; omega) (by have := ill_len4 (x := x) (p := p) (l := cpv pre); simp at this; omega)
      rw [look_x, look_b, look_t] at hcall
      have hg : gd kinD (founds x (ill kinD x p (cpv pre))) p (d, a) = gd kinD x p (d, a) := rfl
      rw [hg] at hcall
      have HCL : Hid (Calls Tryz.prog 82 (#[.agg (plc (d, a)).toArray] ++ C) W fun e w' => e = .returned (.bool (gd kinD x p (d, a)).isSome) ∧ LkPost (W3.alloc (.cells (pcells p).toArray 58)).heap.size W1.heap.size W labT P (founds x (ill kinD x p (cpv pre ++ [(d, a)]))) p (firstG kinD x p (cpv pre ++ [(d, a)])) (ill kinD x p (cpv pre ++ [(d, a)])) w') := Lib.hid (by rw [← HC.out]; exact hcall)
      have hcf : ∀ (args : Array Value) (w : World), (callFunc 82 args).run Tryz.prog w = .ok (.enter 82 args) w := enters_of Tryz.func82 (by kernel_rfl) rfl
      clear hI hlim hcall hg
      obtain ⟨m, hm⟩ : ∃ m, (gd kinD x p (d, a)).isSome = m := ⟨_, rfl⟩
      rw [hm] at HCL
      have HMM := Lib.hid hm
      clear hm
      dsimp only
      gi_wp2_with fail
      refine ⟨trivial, (CallsIn.inRound l (callsIn_wide.2 HCL.out)).mono ?_⟩
      rintro e w' ⟨rfl, hlk⟩
      gi_wp2_with fail
      refine ⟨hlk.kp, trivial, ?_⟩
      refine ⟨?_, fun hf => (by cases hf), hlk.kb _ _ _ (by decide) (by have := HL7.out; omega) (by have := HL7.out; omega) HL7.out.1 HI.out.fb⟩
      have := HI.out.lk.trans hlk
      simpa using this
    case done =>
      rintro D ys W hD rfl hI hK
      have hD0 := hD
      have hsn := snPost_of (all := true) (D := D) HST4.out HTI.out.at' HW1.out hD hI.lk (seen_done HP.out true hI.no)
      obtain ⟨lab9, hm9, hse9, hst9, hz9⟩ := hsn
      clear hI hD0
      have HEND : Hid (Calls Tryz.prog 84 E W (EnPost W1.heap.size W lab9 P (endX (founds x (ill kinD x p (seen kinD x p true))) p (firstG kinD x p (seen kinD x p true)) (ill kinD x p (seen kinD x p true))) (firstG kinD x p (seen kinD x p true)))) := Lib.hid (by
        have h4 := ill_len kinD x HP.out true
        have := end_any8 p HP.out W1.heap.size W lab9 P _ (n + 4) _ _ hm9 hse9 ((HL.out.founds (ill kinD x p (seen kinD x p true))).mono (by omega)) (by have := HN.out; omega) (by omega) (fun c hc => by
          have := cps_ok HP.out c (seen_mem (List.mem_filter.1 hc).1)
          exact ⟨this.1, this.2.2⟩)
        rw [HE.out] at this
        exact this)
      have HFIN : Hid (∀ v W9 lab2, MiAt W9 lab2 P (endX (founds x (ill kinD x p (seen kinD x p true))) p (firstG kinD x p (seen kinD x p true)) (ill kinD x p (seen kinD x p true))) → Stp W lab9 W9 lab2 → TolB W9 lab2 W1.heap.size v (firstG kinD x p (seen kinD x p true)) →
          W9.heap[D]? = some (.deferred (some [])) ∧ RdPost8 true w lab P x p v (W9.putObj D (.deferred none))) := Lib.hid (fun v W9 lab2 h1 h2 h3 => rd_fin hst9 hz9 (by have := HST4.out.chg.size; omega) HW1.out hK h1 h2 h3 (by rw [HS.out, end_is]) HB.out)
      have hcf : ∀ (args : Array Value) (w : World), (callFunc 84 args).run Tryz.prog w = .ok (.enter 84 args) w := enters_of Tryz.func84 (by kernel_rfl) rfl
      clear hm9 hse9 hst9 hz9 hK hD
      go_wp2_with fail
      refine HEND.out.mono ?_
      rintro e W9 ⟨v, lab2, rfl, hm2, hst2, htb2⟩
      rw [HEE.out]
      obtain ⟨hK9, hfin⟩ := HFIN.out v W9 lab2 hm2 hst2 htb2
      clear hm2 hst2 htb2 HEND HFIN
      go_wp2_with fail
      refine ⟨by simp, .inl ⟨_, _, rfl, run_takeDeferred hK9, ?_⟩⟩
      refine ⟨.int .i64 eE, ?_, rfl, v, hfin⟩
      simp [results, Tryz.f11, go_sem]
    case stop =>
      rintro D c pre W hD hpre hX hK
      exact absurd hX.a (by simp)
end Go.Proofs.YtmgagalhpkieoaaGreatDoor
