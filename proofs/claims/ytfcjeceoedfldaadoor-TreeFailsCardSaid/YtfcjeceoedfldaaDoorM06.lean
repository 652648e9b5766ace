/- That no two copies are at one place: a range over the iterator. -/
import Derived.Test.YtfcjeceoedfldaaDoorM05
import Derived.Deep.DeepCutAuto
import Derived.Lib.AppendZerosOnto
import Derived.Lib.Walk
import Derived.Laws.OwnMore
namespace Go.Proofs.YtfcjeceoedfldaaDoor
open Go.RowKit Go.Shelf

attribute [local go_sem] Oper.semAt_some

theorem Blk.kept {A W : World} {row : Option Nat} {g : Nat} {cs : List Value} {t : TypeId} (h : Blk A g cs t) (hg : A.grownBy W row) (hr : ∀ r, row = some r → ∃ o : Obj, A.heap[r]? = some o ∧ o.isCells = false) : Blk W g cs t := by
  unfold Blk
  rw [hg.block g h.lt (fun e => ?_)]
  · exact h
  · obtain ⟨o, h1, h2⟩ := hr g e.symm
    have h' : A.heap[g]? = some (.cells cs.toArray t (0, 0)) := h
    rw [h'] at h1
    cases h1
    cases h2
/-- While the copies are gone through. -/
structure ApI (w : World) (pre : List Cp) (W : World) : Prop where
  h : ∃ f x y, sweep (pre.map (·.1)) (false, 0, 0) = some (f, x, y) ∧ Blk W (w.heap.size + 1 + 1) [.bool f] 4 ∧ Blk W (w.heap.size + 1 + 1 + 1) [.int .u16 (x : Int), .int .u16 (y : Int)] 92
  r : Blk W (w.heap.size + 1) [.bool false] 4
  b : Below w.heap.size w W
structure ApX (w : World) (c : Code) (pre : List Cp) (W : World) : Prop where
  c : c = .ret
  h : sweep (pre.map (·.1)) (false, 0, 0) = none
  r : Blk W (w.heap.size + 1) [.bool false] 4
  b : Below w.heap.size w W
theorem apI_own (w W0 : World) (hs : w.heap.size ≤ W0.heap.size) : OwnFrom W0.heap.size (ApI w) := fun s A B row hs0 hg hr => by
  have hr' : ∀ r, row = some r → ∃ o : Obj, A.heap[r]? = some o ∧ o.isCells = false := fun r e => (hr r e).2
  obtain ⟨f, x, y, h1, h2, h3⟩ := hs0.h
  exact ⟨⟨f, x, y, h1, h2.kept hg hr', h3.kept hg hr'⟩, hs0.r.kept hg hr', hs0.b.grown hg hs0.b.size (fun k e => by have := (hr k e).1; omega)⟩
theorem apX_own (w W0 : World) (hs : w.heap.size ≤ W0.heap.size) (c : Code) : OwnFrom W0.heap.size (ApX w c) := fun s A B row hs0 hg hr => by
  have hr' : ∀ r, row = some r → ∃ o : Obj, A.heap[r]? = some o ∧ o.isCells = false := fun r e => (hr r e).2
  exact ⟨hs0.c, hs0.h, hs0.r.kept hg hr', hs0.b.grown hg hs0.b.size (fun k e => by have := (hr k e).1; omega)⟩
def ApW (p : Pt) (w W : World) : Prop := Blk W w.heap.size (pcells p) 37 ∧ Blk W (w.heap.size + 1) [.bool false] 4 ∧ Blk W (w.heap.size + 1 + 1) [.bool false] 4 ∧ Blk W (w.heap.size + 1 + 1 + 1) [.int .u16 0, .int .u16 0] 92 ∧ Below w.heap.size w W ∧ W.heap.size = w.heap.size + 4
theorem apW_start (p : Pt) (w : World) : ApW p w ((((w.alloc (.cells (pcells p).toArray 37)).alloc (.cells #[.bool false] 4)).alloc (.cells #[.bool false] 4)).alloc (.cells #[.int .u16 0, .int .u16 0] 92)) :=
  ⟨(((Blk.new _ _ _).alloc _).alloc _).alloc _, ((Blk.new' _ _ [.bool false] _ _ (by simp) rfl).alloc _).alloc _, (Blk.new' _ _ [.bool false] _ _ (by simp) rfl).alloc _, Blk.new' _ _ [.int .u16 0, .int .u16 0] _ _ (by simp) rfl,
    (((((Below.refl _ _).alloc (Nat.le_refl _) _).alloc (by simp) _).alloc (by simp; omega) _).alloc (by simp; omega) _), by simp⟩
set_option maxRecDepth 100000 in
set_option maxHeartbeats 4000000 in
theorem apart_any (p : Pt) (hp : p.OK) (w : World) : Calls Tryd.prog 29 #[.agg (pcells p).toArray] w fun e w' => e = .returned (.bool (apartP p)) ∧ Below w.heap.size w w' := by
  have HP := Lib.hid hp
  obtain ⟨m, hm⟩ : ∃ m, apartP p = m := ⟨_, rfl⟩
  rw [hm]
  have HM := Lib.hid hm
  obtain ⟨P, hPP⟩ : ∃ P, (pcells p).toArray = P := ⟨_, rfl⟩
  have HPP := Lib.hid hPP
  have HSP : Hid ((Tryd.prog.info? 37).map (·.size) = some P.size) := Lib.hid (by rw [← hPP, sizeP]; simp [pcells_length hp])
  rw [hPP]
  clear hm hp hPP
  refine callsIn_wide.1 (callsIn_of_wp_marks (F := Fence.wide) (n := 5) Tryd.func29 rfl trivial ?_ rfl)
  refine wpIn_wide.2 ?_
  simp only [Tryd.ntmps29, List.size_toArray, List.length_cons, List.length_nil, Nat.reduceAdd, Nat.reduceSub, Array.replicate_succ, Array.replicate_zero, List.push_toArray, List.append_toArray, List.nil_append, List.cons_append]
  go_upto_region 3 with fail
  refine (fun (k : ∀ W1, ApW p w W1 → Code.wp _ _ _ _ W1) => k _ (by rw [← HPP.out]; exact apW_start p w)) ?_
  intro W1 hW
  have HW := Lib.hid hW
  have HC : Hid (Calls Tryd.prog 34 #[.agg P] W1 fun e w' => e = .returned (.func (.func 43) #[] #[.pointer (some ⟨W1.heap.size, 0, none⟩)]) ∧ w' = W1.alloc (.cells P 37)) := Lib.hid (by rw [← HPP.out]; exact copies_any p W1)
  have HG : Hid (W1.heap[w.heap.size]? = some (.cells P 37 (0, 0))) := Lib.hid (by rw [← HPP.out]; exact hW.1)
  clear hW
  go_wp2_with (first | (refine wpList_load_row rfl 37 (.tmp 1) rfl w.heap.size rfl 37 _ _ _ HG.out Tryd.underlying37 rfl HSP.out ?_) | (go_at_call 34; refine HC.out.mono ?_; rintro e w' ⟨rfl, rfl⟩) | fail)
  have hsz : W1.heap.size = w.heap.size + 4 := HW.out.2.2.2.2.2
  have hB5 : Blk (W1.alloc (.cells P 37)) W1.heap.size (pcells p) 37 := Blk.new' W1 P (pcells p) 37 _ rfl HPP.out.symm
  have HSZ := Lib.hid hsz
  clear hsz
  refine wpIn_wide.1 (wpIn_rangeFunc_ownF (n := 5) (w := W1.alloc (.cells P 37)) rfl (by omega) (gf := 43) (lb := #[.pointer (some ⟨W1.heap.size, 0, none⟩)]) rfl trivial (enters_of Tryd.func43 (by kernel_rfl) rfl)
    (copies_stops Fence.wide 4 trivial rfl (by omega) W1.heap.size p HP.out _ hB5) (fun _ _ => trivial) (fun _ _ _ _ _ _ _ _ => trivial) (Below.refl _ _) (fun _ => rfl)
    (ApI w) (ApX w) (apI_own w _ (by have := HSZ.out; simp; omega)) (apX_own w _ (by have := HSZ.out; simp; omega)) ⟨⟨false, 0, 0, rfl, HW.out.2.2.1.alloc _, HW.out.2.2.2.1.alloc _⟩, HW.out.2.1.alloc _, HW.out.2.2.2.2.1.alloc (by have := HSZ.out; omega) _⟩
    (fun x => { tmps := #[.agg P, .pointer (some ⟨w.heap.size, 0, none⟩), .pointer (some ⟨w.heap.size + 1, 0, none⟩), .pointer (some ⟨w.heap.size + 1 + 1, 0, none⟩), .pointer (some ⟨w.heap.size + 1 + 1 + 1, 0, none⟩), .int .i64 (x.1.1 : Int), .int .u16 (x.1.2 : Int), .agg P, .func (.func 43) #[] #[.pointer (some ⟨W1.heap.size, 0, none⟩)], .int .i64 (x.1.1 : Int), .int .u16 (x.1.2 : Int), undef, undef, undef, undef, undef, undef, undef, undef, undef], defers := [] }) ?assign ?body ?done ?stop)
  case assign =>
    intro l x W K hK
    unfold encC
    gi_wp2
    exact hK
  case body =>
    rintro l pre ⟨⟨d, a⟩, hd, ha0, hal⟩ W hI _
    have HI := Lib.hid hI
    obtain ⟨⟨f, x, y, hsw, hb2, hb3⟩, hr, hb⟩ := hI
    simp only at hd ha0 hal
    have c3 := hb3.cell (j := 0) rfl
    have c4 := hb3.cell (j := 1) rfl
    have f3 := hb3.free 0
    have f4 := hb3.free 1
    have c2 := hb2.cell (j := 0) rfl
    have f2 := hb2.free 0
    have c1 := hr.cell (j := 0) rfl
    have f1 := hr.free 0
    have HSW := Lib.hid hsw
    clear hb2 hb3 hr hb hsw
    have hcl : a = (if d = 0 then x else y) → ApX w .ret (pre ++ [⟨(d, a), hd, ha0, hal⟩]) (W.setCell ⟨w.heap.size + 1, 0, none⟩ (.bool false)) := fun e =>
      ⟨rfl, by rw [List.map_append, sweep_append, HSW.out]; show sweep [(d, a)] (f, x, y) = none; show (if _ then _ else _) = _; rw [if_pos e], HI.out.r.set 0 (.bool false), HI.out.b.setCell (by simp) _⟩
    have hgo : ¬ a = (if d = 0 then x else y) → ApI w (pre ++ [⟨(d, a), hd, ha0, hal⟩]) ((W.setCell ⟨w.heap.size + 1 + 1, 0, none⟩ (.bool true)).setCell ⟨w.heap.size + 1 + 1 + 1, d, none⟩ (.int .u16 (a : Int))) := fun e => by
      obtain ⟨⟨f', x', y', hsw, hb2, hb3⟩, hr, hb⟩ := HI.out
      rw [HSW.out] at hsw
      cases hsw
      have h2 := (hb2.set 0 (.bool true)).other (a := ⟨w.heap.size + 1 + 1 + 1, d, none⟩) (by simp) (.int .u16 (a : Int))
      have h3 := (hb3.other (a := ⟨w.heap.size + 1 + 1, 0, none⟩) (by simp) (.bool true)).set d (.int .u16 (a : Int))
      have hs : sweep ((pre ++ [(⟨(d, a), hd, ha0, hal⟩ : Cp)]).map (fun z => z.1)) (false, 0, 0) = some (if d = 0 then (true, a, y) else (true, x, a)) := by
        rw [List.map_append, sweep_append, HSW.out]
        show sweep [(d, a)] (f, x, y) = _
        show (if _ then _ else _) = _
        rw [if_neg e]
        rfl
      have hr' := (hr.other (a := ⟨w.heap.size + 1 + 1, 0, none⟩) (by simp) (.bool true)).other (a := ⟨w.heap.size + 1 + 1 + 1, d, none⟩) (by first | (simp; done) | (simp; omega)) (.int .u16 (a : Int))
      have hbb := (hb.setCell (p := ⟨w.heap.size + 1 + 1, 0, none⟩) (by first | (simp; done) | (simp; omega)) (.bool true)).setCell (p := ⟨w.heap.size + 1 + 1 + 1, d, none⟩) (by first | (simp; done) | (simp; omega)) (.int .u16 (a : Int))
      have hd' : d = 0 ∨ d = 1 := by omega
      rcases hd' with rfl | rfl
      · exact ⟨⟨true, a, y, hs, h2, h3⟩, hr', hbb⟩
      · exact ⟨⟨true, x, a, hs, h2, h3⟩, hr', hbb⟩
    have HCL := Lib.hid hcl; have HGO := Lib.hid hgo
    clear hcl hgo
    have hd' : d = 0 ∨ d = 1 := by omega
    rcases hd' with rfl | rfl
    · by_cases hc : a = x
      · have hci : (a : Int) = (x : Int) := by omega
        have HR := Lib.hid (HCL.out (by simp [hc]))
        clear hc HCL HGO
        gi_wp2
        exact ⟨KeepsOthers.setCell _ _ _, HR.out⟩
      · have hci : ¬ (a : Int) = (x : Int) := by omega
        have HR := Lib.hid (HGO.out (by simp [hc]))
        clear hc HCL HGO
        gi_wp2
        exact ⟨(KeepsOthers.setCell _ _ _).trans (KeepsOthers.setCell _ _ _), trivial, HR.out⟩
    · by_cases hc : a = y
      · have hci : (a : Int) = (y : Int) := by omega
        have HR := Lib.hid (HCL.out (by simp [hc]))
        clear hc HCL HGO
        gi_wp2
        exact ⟨KeepsOthers.setCell _ _ _, HR.out⟩
      · have hci : ¬ (a : Int) = (y : Int) := by omega
        have HR := Lib.hid (HGO.out (by simp [hc]))
        clear hc HCL HGO
        gi_wp2
        exact ⟨(KeepsOthers.setCell _ _ _).trans (KeepsOthers.setCell _ _ _), trivial, HR.out⟩
  case done =>
    rintro D ys W hD rfl hI hK
    have hI0 := hI
    obtain ⟨⟨f, x, y, hsw, hb2, -⟩, hr, -⟩ := hI
    have c2 := hb2.cell (j := 0) rfl
    have c1 := hr.cell (j := 0) rfl
    have f1 := hr.free 0
    have hmf : m = f := by
      rw [← HM.out]
      unfold apartP
      rw [← cps_val HP.out, hsw]
    subst hmf
    have HI := Lib.hid hI0
    clear hI0 hb2 hr hsw
    go_wp2
    have hK' := (KeepsOthers.setCell W ⟨w.heap.size + 1, 0, none⟩ (.bool m)).same D _ hK rfl
    refine ⟨by simp, .inl ⟨_, _, rfl, run_takeDeferred hK', ?_⟩⟩
    have hc5 := cell_kept (World.cell?_setCell_same' W ⟨w.heap.size + 1, 0, none⟩ (.bool m) (by rw [c1]; rfl)) (grownBy_putObj' _ D (.deferred none)) (fun r e => by cases e; exact ⟨_, hK', rfl⟩)
    refine ⟨.bool m, ?_, rfl, (HI.out.b.setCell (p := ⟨w.heap.size + 1, 0, none⟩) (by simp) _).trans (belowK_b (w := w) (Nat.le_refl _) _ D _ _ (by have := HSZ.out; simp at hD; omega) hK' rfl rfl)⟩
    simp [results, Tryd.f29, go_sem, hc5]
  case stop =>
    rintro D c pre W hD hpre hX hK
    obtain ⟨rfl, hsw, hr, hb⟩ := hX
    have hmf : m = false := by
      rw [← HM.out]
      unfold apartP
      obtain ⟨r, hr⟩ := hpre
      rw [← cps_val HP.out, ← hr, List.map_append, sweep_append, hsw]
      rfl
    subst hmf
    have c1 := hr.cell (j := 0) rfl
    refine wpIn_wide.2 ?_
    go_wp2
    refine ⟨by simp, .inl ⟨_, _, rfl, run_takeDeferred hK, ?_⟩⟩
    have hc5 := cell_kept c1 (grownBy_putObj' _ D (.deferred none)) (fun r e => by cases e; exact ⟨_, hK, rfl⟩)
    refine ⟨.bool false, ?_, rfl, hb.trans (belowK_b (w := w) (Nat.le_refl _) _ D _ _ (by have := HSZ.out; simp at hD; omega) hK rfl rfl)⟩
    simp [results, Tryd.f29, go_sem, hc5]
end Go.Proofs.YtfcjeceoedfldaaDoor
/- Whether a pointer may be, as the program says it. -/
namespace Go.Proofs.YtfcjeceoedfldaaDoor
open Go.RowKit

structure MyW (p : Pt) (w : World) (g : Nat) (W : World) : Prop where
  a : Blk W w.heap.size (pcells p) 37
  r : Blk W g (rcell p.kind) 82
  b : Below w.heap.size w W
theorem myW_start {p : Pt} {w w1 : World} (h : Blk w1 w.heap.size (pcells p) 37) (hb : Below w.heap.size w w1) (z : Array Value) : MyW p w w1.heap.size ((w1.alloc (.cells z 82)).setRow w1.heap.size (rcell p.kind).toArray) := by
  obtain ⟨h1, h2⟩ := blk_row1 w1 z (rcell p.kind) 82
  exact ⟨h.below h2 h.lt, h1, hb.trans (h2.mono hb.size)⟩
set_option maxRecDepth 100000 in
set_option maxHeartbeats 4000000 in
theorem may_any (p : Pt) (hp : p.OK) (w : World) (hT : RTab w) : Calls Tryd.prog 22 #[.agg (pcells p).toArray] w fun e w' => e = .returned (.bool (mayP p)) ∧ Below w.heap.size w w' := by
  have HP := Lib.hid hp
  have hk := hp.kind
  obtain ⟨m, hm⟩ : ∃ m, mayP p = m := ⟨_, rfl⟩
  rw [hm]
  have HM := Lib.hid hm
  have HG0 : Hid (Blk (w.alloc (.cells (pcells p).toArray 37)) w.heap.size (pcells p) 37) := Lib.hid (Blk.new _ _ _)
  have HB0 : Hid (Below w.heap.size w (w.alloc (.cells (pcells p).toArray 37))) := Lib.hid ((Below.refl _ _).alloc (Nat.le_refl _) _)
  have HT : Hid (RTab (w.alloc (.cells (pcells p).toArray 37))) := Lib.hid (hT.alloc _)
  have cK := HG0.out.cell (j := 0) rfl
  have HK := Lib.hid hk
  obtain ⟨P, hPP⟩ : ∃ P, (pcells p).toArray = P := ⟨_, rfl⟩
  have HPP := Lib.hid hPP
  have HSP : Hid ((Tryd.prog.info? 37).map (·.size) = some P.size) := Lib.hid (by rw [← hPP, sizeP]; simp [pcells_length hp])
  rw [hPP] at HG0 HB0 HT cK ⊢
  clear hm hp hT hPP hk
  go_enter Tryd.func22, Tryd.ntmps22
  go_upto_region 1 with fail
  generalize (w.alloc (.cells P 37)) = W0 at HG0 HB0 HT cK ⊢
  go_upto_region 2 with (first | (go_at_call 28; refine (rule_any p.kind HK.out _ HT.out).mono ?_; rintro e w1 ⟨rfl, hb1⟩; have HG1 := Lib.hid (HG0.out.below hb1 HG0.out.lt); have HB1 := Lib.hid (HB0.out.trans (hb1.mono HB0.out.size)); clear hb1) | (refine wpList_store_row rfl 82 (.tmp 3) (.tmp 8) rfl w1.heap.size _ rfl rfl 82 _ (heap_alloc_new _ _) (by rw [sizeRule]; rfl) rfl (one_rule _) ?_) | fail)
  refine (fun (k : ∀ W1, MyW p w w1.heap.size W1 → Code.wp _ _ _ _ W1) => k _ (myW_start HG1.out HB1.out _)) ?_
  intro W hW
  have HW := Lib.hid hW
  obtain ⟨ha, hr, hb⟩ := hW
  have cL := ha.cell (j := 1) rfl
  have cw := hr.cell (j := 0) rfl
  have cl := hr.cell (j := 1) rfl
  have ch := hr.cell (j := 2) rfl
  have HB := Lib.hid hb
  have HA : Hid (W.heap[w.heap.size]? = some (.cells P 37 (0, 0))) := Lib.hid (by rw [← HPP.out]; exact ha)
  have HAT := Lib.hid (rng_ats ha HP.out.hash)
  obtain ⟨g, hg⟩ : ∃ g, w1.heap.size = g := ⟨_, rfl⟩
  rw [hg] at cw cl ch ⊢
  clear ha hr hb HW HG1 HB1 hg cK HG0 HB0 HT
  by_cases hl : p.level < lowN p.kind
  · have : (p.level : Int) < (lowN p.kind : Int) := by omega
    obtain rfl : m = false := by rw [← HM.out]; unfold mayP; rw [decide_eq_false (by omega)]; rfl
    go_wp2
    go_ret
    exact ⟨rfl, HB.out⟩
  have il : ¬ (p.level : Int) < (lowN p.kind : Int) := by omega
  by_cases hh : highN p.kind < p.level
  · have : (highN p.kind : Int) < (p.level : Int) := by omega
    obtain rfl : m = false := by rw [← HM.out]; unfold mayP; rw [decide_eq_false (by omega)]; rfl
    go_wp2
    go_ret
    exact ⟨rfl, HB.out⟩
  have ih : ¬ (highN p.kind : Int) < (p.level : Int) := by omega
  have HLV : Hid (decide (lowN p.kind ≤ p.level ∧ p.level ≤ highN p.kind) = true) := Lib.hid (decide_eq_true (by omega))
  clear hl hh
  go_wp2_with (first | (refine wpL_val rfl (ex_ld (ty := 35) (cs := p.ats.map U16) rfl rfl HAT.out Tryd.underlying35 rfl (by rw [sizeAts]; simp [HP.out.len])) ?_) | fail)
  clear il ih cl ch cL
  go_loop [23] (fun i => ∃ k : Nat, k ≤ 4 ∧ i = .int .i64 k ∧ ∀ j, j < k → p.ats.getD j 0 = 0 ∨ j % 2 < wideN p.kind) (fun i => 4 - (intOf i).toNat)
  case atStart => exact ⟨0, by omega, rfl, fun j hj => by omega⟩
  case round =>
    obtain ⟨k, hk, rfl, hall⟩ := hrel
    have HALL := Lib.hid hall
    clear hall
    by_cases hlt : k < 4
    · obtain ⟨x, hx⟩ : ∃ x, p.ats[k]? = some x := ⟨_, List.getElem?_eq_getElem (by rw [HP.out.len]; exact hlt)⟩
      have hix : ∀ W : World, (Instr.index 35 (.agg (p.ats.map U16).toArray) (.int .i64 (k : Int))).run Tryd.prog W = .ok (.int .u16 (x : Int)) W := fun W => index_ats p hx hlt W
      have hgx : p.ats.getD k 0 = x := by rw [List.getD_eq_getElem?_getD, hx]; rfl
      have HX := Lib.hid hgx
      have q : (k : Int) < 4 := by omega
      clear hx hgx
      by_cases h00 : x = 0
      · have ix : (x : Int) = 0 := by omega
        have HN : Hid (∀ j, j < k + 1 → p.ats.getD j 0 = 0 ∨ j % 2 < wideN p.kind) := Lib.hid (fun j hj => by
          rcases Nat.lt_or_eq_of_le (Nat.lt_succ_iff.1 hj) with h | rfl
          · exact HALL.out j h
          · exact .inl (by rw [HX.out]; exact h00))
        clear h00
        go_wp2
        go_round
        case rel => exact ⟨k + 1, by omega, by go_num, HN.out⟩
        case measure => simp [intOf]; omega
      · have ix : ¬ (x : Int) = 0 := by omega
        have hmod : (k : Int).tmod 2 = (k : Int) % 2 := Int.tmod_eq_emod_of_nonneg (by omega)
        by_cases hw : k % 2 < wideN p.kind
        · have iw : ¬ (wideN p.kind : Int) ≤ (k : Int) % 2 := by omega
          have HN : Hid (∀ j, j < k + 1 → p.ats.getD j 0 = 0 ∨ j % 2 < wideN p.kind) := Lib.hid (fun j hj => by
            rcases Nat.lt_or_eq_of_le (Nat.lt_succ_iff.1 hj) with h | rfl
            · exact HALL.out j h
            · exact .inr hw)
          clear h00 hw
          go_wp2
          go_round
          case rel => exact ⟨k + 1, by omega, by go_num, HN.out⟩
          case measure => simp [intOf]; omega
        · have iw : (wideN p.kind : Int) ≤ (k : Int) % 2 := by omega
          obtain rfl : m = false := by
            rw [← HM.out]
            have : placedP p = false := by
              unfold placedP
              rw [List.all_eq_false]
              exact ⟨k, List.mem_range.2 hlt, by rw [HX.out]; simp; omega⟩
            unfold mayP
            rw [this]
            simp
          clear h00 hw
          go_wp2
          go_ret
          exact ⟨rfl, HB.out⟩
    · obtain rfl : k = 4 := by omega
      have hmm : m = apartP p := by
        rw [← HM.out]
        have : placedP p = true := by
          unfold placedP
          rw [List.all_eq_true]
          exact fun j hj => decide_eq_true (HALL.out j (List.mem_range.1 hj))
        unfold mayP
        rw [HLV.out, this]
        rfl
      subst hmm
      have HC : Hid (Calls Tryd.prog 29 #[.agg P] W fun e w' => e = .returned (.bool (apartP p)) ∧ Below W.heap.size W w') := Lib.hid (by rw [← HPP.out]; exact apart_any p HP.out W)
      clear hlt hk
      go_wp2_with (first | (refine wpList_load_row rfl 37 (.tmp 1) rfl w.heap.size rfl 37 _ _ _ HA.out Tryd.underlying37 rfl HSP.out ?_) | (go_at_call 29; refine HC.out.mono ?_; rintro e w3 ⟨rfl, hb3⟩; have HB3 := Lib.hid (HB.out.trans (hb3.mono HB.out.size)); clear hb3) | fail)
      go_ret
      exact ⟨rfl, HB3.out⟩
end Go.Proofs.YtfcjeceoedfldaaDoor
/- A pointer's tag, and its bytes behind some. -/
namespace Go.Proofs.YtfcjeceoedfldaaDoor
open Go.RowKit

theorem u8_cell {n : Nat} (h : n < 256) : Value.int .u8 (n : Int) = V8 (lb n 0) := by
  unfold V8 N8
  rw [lb_nat]
  simp
  omega
theorem src_new (w : World) (l : Bs) (cs : Array Value) (h : cs = (l.map V8).toArray) : SrcA (w.alloc (.cells cs 5)) (some ⟨w.heap.size, 0, none⟩) l := fun _ => by
  refine ⟨w.heap.size, 0, rfl, by simp, fun j hj => ?_⟩
  rw [Nat.zero_add]
  exact (Blk.new' w cs (l.map V8) 5 _ rfl h).cell (get_map V8 l j hj 0)
theorem val_take_one {l : List Nat} {k x : Nat} (h : l[k]? = some x) : l.take (k + 1) = l.take k ++ [x] := by
  obtain ⟨h2, h3⟩ := List.getElem?_eq_some_iff.1 h
  rw [List.take_succ_eq_append_getElem h2, h3]
set_option maxRecDepth 100000 in
set_option maxHeartbeats 4000000 in
theorem tag_any (p : Pt) (hp : p.OK) (w : World) : Calls Tryd.prog 55 #[.agg (pcells p).toArray] w fun e w' => ∃ v, e = .returned v ∧ OwnB w' w.heap.size v (tagB p) ∧ Below w.heap.size w w' := by
  have HP := Lib.hid hp
  have HG0 : Hid (Blk (w.alloc (.cells (pcells p).toArray 37)) w.heap.size (pcells p) 37) := Lib.hid (Blk.new _ _ _)
  have HB0 : Hid (Below w.heap.size w (w.alloc (.cells (pcells p).toArray 37))) := Lib.hid ((Below.refl _ _).alloc (Nat.le_refl _) _)
  have cK := HG0.out.cell (j := 0) rfl
  have cL := HG0.out.cell (j := 1) rfl
  have cO := HG0.out.cell (j := 2) rfl
  clear hp
  go_enter Tryd.func55, Tryd.ntmps55
  go_upto_region 1 with fail
  generalize (w.alloc (.cells (pcells p).toArray 37)) = W0 at HG0 HB0 cK cL cO ⊢
  have cO2 : ∀ o, (W0.alloc o).cell? ⟨w.heap.size, 2, none⟩ = some (.int .u16 (p.obj : Int)) := fun o => (HG0.out.alloc o).cell rfl
  have hc := pu16_any (leb p.kind 1 ++ leb p.level 1) (some ⟨W0.heap.size, 0, none⟩) 2 p.obj (W0.alloc (.cells #[.int .u8 (p.kind : Int), .int .u8 (p.level : Int)] 5)) (by simp [leb_length]) HP.out.obj (src_new W0 _ _ (by rw [u8_cell HP.out.kind, u8_cell HP.out.level]; rfl))
  rw [show (leb p.kind 1 ++ leb p.level 1).length = 2 by simp [leb_length]] at hc
  have HC := Lib.hid hc
  clear hc
  go_upto_region 2 with (first | (go_at_call 56; refine HC.out.mono ?_; rintro e w1 ⟨rfl, ho1, hb1⟩; have HO1 := Lib.hid ho1; have HB1 := Lib.hid hb1; clear ho1 hb1) | fail)
  obtain ⟨g1, hg1⟩ : ∃ g, (W0.alloc (.cells #[.int .u8 (p.kind : Int), .int .u8 (p.level : Int)] 5)).heap.size = g := ⟨_, rfl⟩
  rw [hg1] at HO1 HB1
  have hg2 : W0.heap.size + 1 = g1 := by rw [← hg1]; simp
  try rw [hg2]
  try rw [hg1]
  have hw0 := HB0.out.size
  have hs1 : SrcA w1 (some ⟨g1, 0, none⟩) (leb p.kind 1 ++ leb p.level 1 ++ leb p.obj 2) := by
    obtain ⟨sp, cap, e, _, _, h, _⟩ := OwnB.form HO1.out
    cases e
    exact h
  have hgg := HG0.out.lt
  have hA1 : Blk w1 w.heap.size (pcells p) 37 := (HG0.out.alloc _).below HB1.out (by omega)
  have hBB : Below w.heap.size w w1 := (HB0.out.alloc hw0 _).trans (HB1.out.mono (by omega))
  have HA1 := Lib.hid hA1; have HS1 := Lib.hid hs1; have HBB := Lib.hid hBB
  clear hA1 hs1 hBB hg1 hg2 HO1 HB1 HC cO2 cK cL cO
  refine wp_region_sched (.take 0 (.take 1 (.take 2 (.take 4 (.take 5 (.step 3 (.step 6 (.take 7 (.nil))))))))) (by kernel_rfl) (by kernel_rfl) (fun d _ _ _ _ h => by cases d <;> exact h) (fun X => Blk X w.heap.size (pcells p) 37 ∧ Below w.heap.size w X) ⟨HA1.out.drew, HBB.out.drew⟩ ?_
  refine wpG_take _ (.slice (some ⟨g1, 0, none⟩) (2 + 2) (2 + 2)) rfl (by rfl) (fun X hX => by first | rfl | go_simp) ?_
  (try simp only [Act.put, List.setIfInBounds_toArray, List.set_cons_zero, List.set_cons_succ])
  refine wpG_take _ (.pointer (some ⟨w.heap.size, 3, none⟩)) rfl (by rfl) (fun X hX => ex_faP 3 3 (by omega) rfl rfl) ?_
  (try simp only [Act.put, List.setIfInBounds_toArray, List.set_cons_zero, List.set_cons_succ])
  refine wpG_take _ (.int .u32 (p.off : Int)) rfl (by rfl) (fun X hX => ex_ld1 Tryd.underlying32 rfl rfl (hX.1.cell rfl)) ?_
  (try simp only [Act.put, List.setIfInBounds_toArray, List.set_cons_zero, List.set_cons_succ])
  refine wpG_take _ (.pointer (some ⟨w.heap.size, 4, none⟩)) rfl (by rfl) (fun X hX => ex_faP 4 4 (by omega) rfl rfl) ?_
  (try simp only [Act.put, List.setIfInBounds_toArray, List.set_cons_zero, List.set_cons_succ])
  refine wpG_take _ (.int .u64 (p.birth : Int)) rfl (by rfl) (fun X hX => ex_ld1 Tryd.underlying33 rfl rfl (hX.1.cell rfl)) ?_
  (try simp only [Act.put, List.setIfInBounds_toArray, List.set_cons_zero, List.set_cons_succ])
  have hc2 := pu32_any (leb p.kind 1 ++ leb p.level 1 ++ leb p.obj 2) (some ⟨g1, 0, none⟩) (2 + 2) p.off w1.drew (by simp [leb_length]) HP.out.off HS1.out
  rw [show (leb p.kind 1 ++ leb p.level 1 ++ leb p.obj 2).length = 2 + 2 by simp [leb_length]] at hc2
  refine wpG_call _ rfl (by rfl) 67 #[.slice (some ⟨g1, 0, none⟩) (2 + 2) (2 + 2), .int .u32 (p.off : Int)] (fun _ => by go_simp) (fun u w' => u = .slice (some ⟨w1.drew.heap.size, 0, none⟩) (2 + 2 + 4) (2 + 2 + 4) ∧ SrcA w' (some ⟨w1.drew.heap.size, 0, none⟩) (leb p.kind 1 ++ leb p.level 1 ++ leb p.obj 2 ++ leb p.off 4)) (hc2.mono fun e w' ⟨e1, e2, e3⟩ => ⟨_, e1, ⟨HA1.out.drew.below e3 HA1.out.lt, HBB.out.drew.trans (e3.mono HBB.out.size)⟩, rfl, by
    obtain ⟨sp, cap, e, _, _, h, _⟩ := OwnB.form e2
    cases e
    exact h⟩) ?_
  rintro u w2 hs2 ⟨rfl, hsrc2⟩
  refine ⟨_, fun _ h => h, hs2, ?_⟩
  (try simp only [Act.put, List.setIfInBounds_toArray, List.set_cons_zero, List.set_cons_succ])
  have hc3 := pu64_any (leb p.kind 1 ++ leb p.level 1 ++ leb p.obj 2 ++ leb p.off 4) (some ⟨w1.drew.heap.size, 0, none⟩) (2 + 2 + 4) p.birth w2 (by simp [leb_length]) HP.out.birth hsrc2
  rw [show (leb p.kind 1 ++ leb p.level 1 ++ leb p.obj 2 ++ leb p.off 4).length = 2 + 2 + 4 by simp [leb_length]] at hc3
  refine wpG_call _ rfl (by rfl) 66 #[.slice (some ⟨w1.drew.heap.size, 0, none⟩) (2 + 2 + 4) (2 + 2 + 4), .int .u64 (p.birth : Int)] (fun _ => by go_simp) (fun u w' => u = .slice (some ⟨w2.heap.size, 0, none⟩) (2 + 2 + 4 + 8) (2 + 2 + 4 + 8) ∧ OwnB w' w2.heap.size u (tagB p)) (hc3.mono fun e w' ⟨e1, e2, e3⟩ => ⟨_, e1, ⟨hs2.1.below e3 hs2.1.lt, hs2.2.trans (e3.mono hs2.2.size)⟩, rfl, by
    have e : (leb p.kind 1 ++ leb p.level 1 ++ leb p.obj 2 ++ leb p.off 4 ++ leb p.birth 8).length = 2 + 2 + 4 + 8 := by simp [leb_length]
    rw [e] at e2
    exact e2⟩) ?_
  rintro u w3 hs3 ⟨rfl, ho3⟩
  refine ⟨_, fun _ h => h, hs3, ?_⟩
  (try simp only [Act.put, List.setIfInBounds_toArray, List.set_cons_zero, List.set_cons_succ])
  refine wpG_take _ (.slice (some ⟨w2.heap.size, 0, none⟩) (2 + 2 + 4 + 8) (2 + 2 + 4 + 8)) rfl (by rfl) (fun X hX => by first | rfl | go_simp) ?_
  (try simp only [Act.put, List.setIfInBounds_toArray, List.set_cons_zero, List.set_cons_succ])
  refine wpG_nil ?_
  have HO3 := Lib.hid (ho3.mono (B' := w.heap.size) hs2.2.size)
  have HB3 := Lib.hid hs3.2
  clear ho3 hs3 hs2 hsrc2 hc2 hc3
  go_wp2_with fail
  go_ret
  exact ⟨_, rfl, HO3.out, HB3.out⟩
end Go.Proofs.YtfcjeceoedfldaaDoor
/- slices.Grow of nil; slices.Concat of two slices of bytes. -/
namespace Go.Proofs.YtfcjeceoedfldaaDoor
open Go.RowKit

/-- Bytes more, out of whatever slice. -/
theorem ownB_src {w : World} {B : Nat} {v : Value} {l m : Bs} {sp : Option Addr} {cap : Nat} (h : OwnB w B v l) (hB : B ≤ w.heap.size) (hl : l.length + m.length ≤ 1000000) (hS : SrcA w sp m) (hz : sp = none → cap = 0) (ty : TypeId) :
    ∃ v' w', (Builtin.append_ #[41, 41] ty #[v, .slice sp m.length cap]).run Tryd.prog w = .ok v' w' ∧ OwnB w' B v' (l ++ m) ∧ Below B w w' := by
  obtain ⟨i0, hi, hz0, hz1, hz2⟩ := info_parts infoB
  cases sp with
  | none =>
    have hm : m = [] := by
      rcases Nat.eq_zero_or_pos m.length with h0 | h0
      · exact List.eq_nil_of_length_eq_zero h0
      · obtain ⟨_, _, he, _⟩ := hS h0; cases he
    subst hm
    obtain rfl := hz rfl
    exact ⟨v, w, run_append_owned_none (P := Tryd.prog) (w := w) B 41 ty 5 i0 1 Tryd.underlying41 hi v l.length (l.map V8) h, by rw [List.append_nil]; exact h, Below.refl _ _⟩
  | some ad =>
    obtain ⟨v', w', hr, h2, h3, _, h5⟩ := run_append_own_at (P := Tryd.prog) w B 41 ty 5 i0 (.int .u8 0) 1 1 Tryd.underlying41 hi hz0 hz1 hz2 rfl (by decide) v l.length (l.map V8) h ad m.length cap (m.map V8) (by simp) (fun j u hj => by
      have hj2 : 0 < m.length := by
        have := (List.getElem?_eq_some_iff.1 hj).1
        simp at this; omega
      obtain ⟨g, o, e, _, hc⟩ := hS hj2
      cases e
      exact src_cell hc j u hj) (one_v8 m) (by unfold maxLen; omega) (by omega) hB
    refine ⟨v', w', hr, ?_, (Below.refl _ _).grown h3 hB (fun k hk => (h.lt k hk).1)⟩
    unfold OwnB
    rw [List.map_append, List.length_append]
    exact h2
theorem zeroCells_one (n : Nat) : (Builtin.zeroCells #[Value.int .u8 0] n).size = n := by simp [Builtin.zeroCells]
set_option maxRecDepth 100000 in
set_option maxHeartbeats 2000000 in
theorem grow_any (n : Nat) (h0 : 0 < n) (hn : n ≤ 200000) (w : World) : Calls Tryd.prog 69 #[.slice none 0 0, .int .i64 (n : Int)] w fun e w' => ∃ v, e = .returned v ∧ OwnB w' w.heap.size v [] ∧ Below w.heap.size w w' := by
  obtain ⟨i0, hi, hz0, hz1, hz2⟩ := info_parts infoB
  have hold : (Builtin.firstCells i0.size 0 (.slice none 0 0)).run Tryd.prog w.drew = .ok ([] : List Value).toArray w.drew := by rw [hz1]; exact run_firstCells_none w.drew 1 0 0 0
  have hrz : ∀ ty, (Builtin.append_ #[41, 3] ty #[.slice none 0 0, .int .i64 (n : Int)]).run Tryd.prog w = .ok (.slice (some ⟨w.heap.size, 0, none⟩) (0 + n) (grownCap w (0 + n) 0 5)) (w.drew.alloc (.cells (([] : List Value).toArray ++ Builtin.zeroCells (Value.int .u8 0).cells n ++ Builtin.zeroCells (Value.int .u8 0).cells (grownCap w (0 + n) 0 5 - (0 + n))) 5)) := fun ty =>
    Lib.run_append_grow_zeros w 41 3 ty 5 i0 (.int .u8 0) .i64 .i64 Tryd.underlying41 Tryd.underlying3 hi hz0 none 0 0 [] hold n h0 (by omega) (by omega) (by omega) (by rw [hz2]; omega) (growslice_fits (by omega) (by rw [hz2]; omega))
  have hge : 0 + n ≤ grownCap w (0 + n) 0 5 := grownCap_ge w _ _ _
  have hle := grownCap_le_maxLen w (0 + n) 0 5 (by unfold maxLen; omega)
  obtain ⟨G, hG⟩ : ∃ G, grownCap w (0 + n) 0 5 = G := ⟨_, rfl⟩
  rw [hG] at hrz hge hle
  rw [Nat.zero_add] at hrz hge
  obtain ⟨cs, hcs⟩ : ∃ cs : Array Value, (([] : List Value).toArray ++ Builtin.zeroCells (Value.int .u8 0).cells n ++ Builtin.zeroCells (Value.int .u8 0).cells (G - n)) = cs := ⟨_, rfl⟩
  have hsz : cs.size = G * 1 := by
    rw [← hcs, Array.size_append, Array.size_append]
    have e : (Value.int .u8 0).cells = #[Value.int .u8 0] := rfl
    rw [e, zeroCells_one, zeroCells_one]
    simp
    omega
  rw [hcs] at hrz
  have hO : OwnB (w.drew.alloc (.cells cs 5)) w.heap.size (.slice (some ⟨w.heap.size, 0, none⟩) 0 G) [] := World.ownsRow_made w.drew cs G (Nat.le_refl _) hle hsz
  have HO := Lib.hid hO
  have HRZ := Lib.hid hrz
  have hG63 : G ≤ 9223372036854775807 := by unfold maxLen at hle; omega
  clear hcs hsz hO hrz hold hG hle hi hz0 hz1 hz2
  have q : (0 : Int) < (n : Int) := by omega
  have qn : ¬ (n : Int) < 0 := by omega
  have e0 := IntWalk.i64_in ((n : Int) - 0) (by omega)
  go_enter Tryd.func69, Tryd.ntmps69
  go_wp2_with (first | (at_builtin; refine Lib.wpList_append_run _ rfl _ _ _ _ rfl _ _ rfl rfl _ _ (HRZ.out _) ?_) | fail)
  go_ret
  exact ⟨_, rfl, HO.out, (Below.refl _ _).drew.alloc (Nat.le_refl _) _⟩
def CcI (a b : Bs) (k : Nat) : Bs := if k = 0 then [] else if k = 1 then a else a ++ b
set_option maxRecDepth 100000 in
set_option maxHeartbeats 2000000 in
theorem conc_any (a b : Bs) (sp0 sp1 : Option Addr) (c0 c1 g : Nat) (w : World) (h0 : 0 < a.length + b.length) (hl : a.length + b.length ≤ 100000) (hg : g < w.heap.size)
    (x0 : w.cell? ⟨g, 0, none⟩ = some (.slice sp0 a.length c0)) (x1 : w.cell? ⟨g, 1, none⟩ = some (.slice sp1 b.length c1)) (hS0 : SrcA w sp0 a) (hS1 : SrcA w sp1 b) (hz0 : sp0 = none → c0 = 0) (hz1 : sp1 = none → c1 = 0) :
    Calls Tryd.prog 57 #[.slice (some ⟨g, 0, none⟩) 2 2] w fun e w' => ∃ v, e = .returned v ∧ OwnB w' w.heap.size v (a ++ b) ∧ Below w.heap.size w w' := by
  obtain ⟨A, hA⟩ : ∃ A, a.length = A := ⟨_, rfl⟩
  obtain ⟨B, hB⟩ : ∃ B, b.length = B := ⟨_, rfl⟩
  have HA := Lib.hid hA; have HB := Lib.hid hB; have HS0 := Lib.hid hS0; have HS1 := Lib.hid hS1; have HZ0 := Lib.hid hz0; have HZ1 := Lib.hid hz1
  have HX0 := Lib.hid x0; have HX1 := Lib.hid x1
  rw [hA] at x0 h0 hl; rw [hB] at x1 h0 hl
  have e1 := IntWalk.i64_in ((A : Int) + (B : Int)) (by omega)
  have e2 := IntWalk.i64_in (0 + (A : Int)) (by omega)
  have qa : ¬ (A : Int) < 0 := by omega
  have qb : ¬ (A : Int) + (B : Int) < 0 := by omega
  clear hA hB hS0 hS1 hz0 hz1
  go_enter Tryd.func57, Tryd.ntmps57
  go_wp2
  go_loop [3, 11] (fun s i => (s = .int .i64 0 ∧ i = .int .i64 0) ∨ (s = .int .i64 (A : Int) ∧ i = .int .i64 1) ∨ (s = .int .i64 ((A : Int) + (B : Int)) ∧ i = .int .i64 2)) (fun _ i => 2 - (intOf i).toNat)
  case atStart => exact .inl ⟨rfl, rfl⟩
  case round =>
    rcases hrel with ⟨rfl, rfl⟩ | ⟨rfl, rfl⟩ | ⟨rfl, rfl⟩
    · go_wp2
      go_round
      case rel => exact .inr (.inl ⟨rfl, rfl⟩)
      case measure => simp [intOf]
    · go_wp2
      go_round
      case rel => exact .inr (.inr ⟨rfl, rfl⟩)
      case measure => simp [intOf]
    · clear e1 e2 qa qb x0 x1
      have hc := grow_any (A + B) h0 (by omega) w
      rw [show ((A + B : Nat) : Int) = (A : Int) + (B : Int) by omega] at hc
      have HC := Lib.hid hc
      clear hc
      go_wp2_with (first | (go_at_call 69; refine HC.out.mono ?_; rintro e w1 ⟨v1, rfl, ho1, hb1⟩; have HO1 := Lib.hid ho1; have HB1 := Lib.hid hb1; clear ho1 hb1) | fail)
      go_loopw [6, 27] (fun v i wr => ∃ k : Nat, k ≤ 2 ∧ i = .int .i64 (k : Int) ∧ OwnB wr w.heap.size v (CcI a b k) ∧ Below w.heap.size w wr) (fun _ i _ => 2 - (intOf i).toNat)
      case atStart => exact ⟨0, by omega, rfl, HO1.out, HB1.out⟩
      case round =>
        clear HO1 HB1 HC
        obtain ⟨k, hk, rfl, ho, hb⟩ := hrel
        have hk3 : k = 0 ∨ k = 1 ∨ k = 2 := by omega
        have y0 : wr.cell? ⟨g, 0, none⟩ = some (.slice sp0 A c0) := (hb.cell (p := ⟨g, 0, none⟩) hg).trans (by rw [HX0.out, HA.out])
        have y1 : wr.cell? ⟨g, 1, none⟩ = some (.slice sp1 B c1) := (hb.cell (p := ⟨g, 1, none⟩) hg).trans (by rw [HX1.out, HB.out])
        rcases hk3 with rfl | rfl | rfl
        · obtain ⟨v', w', hr, ho', hb'⟩ := ownB_src (m := a) ho hb.size (by rw [HA.out]; simp [CcI]; omega) (HS0.out.below hb (Nat.le_refl _)) HZ0.out 41
          rw [HA.out] at hr
          have HR := Lib.hid hr
          have HN : Hid (OwnB w' w.heap.size v' (CcI a b 1) ∧ Below w.heap.size w w') := Lib.hid ⟨by simpa [CcI] using ho', hb.trans hb'⟩
          obtain ⟨sp', n', c', rfl⟩ : ∃ sp n c, v' = .slice sp n c := by
            obtain ⟨sp, c, e, _⟩ := OwnB.form ho'
            exact ⟨sp, _, c, e⟩
          clear hr ho' hb' ho hb
          go_wp2_with (first | (at_builtin; refine wpL_val rfl (ex_appB rfl rfl rfl HR.out) ?_) | fail)
          go_roundw
          case rel => exact ⟨1, by omega, rfl, HN.out⟩
          case measure => simp [intOf]
        · obtain ⟨v', w', hr, ho', hb'⟩ := ownB_src (m := b) ho hb.size (by rw [HB.out]; simp [CcI, HA.out]; omega) (HS1.out.below hb (Nat.le_refl _)) HZ1.out 41
          rw [HB.out] at hr
          have HR := Lib.hid hr
          have HN : Hid (OwnB w' w.heap.size v' (CcI a b 2) ∧ Below w.heap.size w w') := Lib.hid ⟨by simpa [CcI] using ho', hb.trans hb'⟩
          obtain ⟨sp', n', c', rfl⟩ : ∃ sp n c, v' = .slice sp n c := by
            obtain ⟨sp, c, e, _⟩ := OwnB.form ho'
            exact ⟨sp, _, c, e⟩
          clear hr ho' hb' ho hb
          go_wp2_with (first | (at_builtin; refine wpL_val rfl (ex_appB rfl rfl rfl HR.out) ?_) | fail)
          go_roundw
          case rel => exact ⟨2, by omega, rfl, HN.out⟩
          case measure => simp [intOf]
        · have HN := Lib.hid (And.intro ho hb)
          clear ho hb
          go_wp2
          go_ret
          exact ⟨_, rfl, by simpa [CcI] using HN.out.1, HN.out.2⟩
end Go.Proofs.YtfcjeceoedfldaaDoor
