/- That no two copies are at one place: a range over the iterator. -/
import Derived.Test.YtincpdnmaiimnaaDoorPi
import Derived.Deep.DeepCutAuto
namespace Go.Proofs.YtincpdnmaiimnaaDoor
open Go.RowKit Go.Shelf

attribute [local go_sem] Oper.semAt_some

theorem Blk.kept {A W : World} {row : Option Nat} {g : Nat} {cs : List Value} {t : TypeId} (h : Blk A g cs t) (hg : A.grownBy W row) (hr : ∀ r, row = some r → ∃ o : Obj, A.heap[r]? = some o ∧ o.isCells = false) : Blk W g cs t := by
  unfold Blk
  rw [hg.block g h.lt (fun e => ?_)]
  · exact h
  · obtain ⟨o, h1, h2⟩ := hr g e.symm
    have h' : A.heap[g]? = some (.cells cs.toArray t (0, 0)) := h
    rw [h'] at h1
    cases h1
    cases h2
theorem grownBy_setB (W : World) (g j : Nat) (v : Value) : KeepsOthers W (W.setCell ⟨g, j, none⟩ v) := KeepsOthers.setCell W ⟨g, j, none⟩ v
/-- While the copies are gone through. -/
structure ApI (w : World) (pre : List Cp) (W : World) : Prop where
  h : ∃ f x y, sweep (pre.map (·.1)) (false, 0, 0) = some (f, x, y) ∧ Blk W (w.heap.size + 1 + 1) [.bool f] 4 ∧ Blk W (w.heap.size + 1 + 1 + 1) [.int .u16 (x : Int), .int .u16 (y : Int)] 80
  r : Blk W (w.heap.size + 1) [.bool false] 4
  b : Below w.heap.size w W
structure ApX (w : World) (c : Code) (pre : List Cp) (W : World) : Prop where
  c : c = .ret
  h : sweep (pre.map (·.1)) (false, 0, 0) = none
  r : Blk W (w.heap.size + 1) [.bool false] 4
  b : Below w.heap.size w W
theorem apI_own (w W0 : World) (hs : w.heap.size ≤ W0.heap.size) : OwnFrom W0.heap.size (ApI w) := fun s A B row hs0 hg hr => by
  have hr' : ∀ r, row = some r → ∃ o : Obj, A.heap[r]? = some o ∧ o.isCells = false := fun r e => (hr r e).2
  obtain ⟨f, x, y, h1, h2, h3⟩ := hs0.h
  exact ⟨⟨f, x, y, h1, h2.kept hg hr', h3.kept hg hr'⟩, hs0.r.kept hg hr', hs0.b.grown hg hs0.b.size (fun k e => by have := (hr k e).1; omega)⟩
theorem apX_own (w W0 : World) (hs : w.heap.size ≤ W0.heap.size) (c : Code) : OwnFrom W0.heap.size (ApX w c) := fun s A B row hs0 hg hr => by
  have hr' : ∀ r, row = some r → ∃ o : Obj, A.heap[r]? = some o ∧ o.isCells = false := fun r e => (hr r e).2
  exact ⟨hs0.c, hs0.h, hs0.r.kept hg hr', hs0.b.grown hg hs0.b.size (fun k e => by have := (hr k e).1; omega)⟩
def ApW (p : Pt) (w W : World) : Prop := Blk W w.heap.size (pcells p) 28 ∧ Blk W (w.heap.size + 1) [.bool false] 4 ∧ Blk W (w.heap.size + 1 + 1) [.bool false] 4 ∧ Blk W (w.heap.size + 1 + 1 + 1) [.int .u16 0, .int .u16 0] 80 ∧ Below w.heap.size w W ∧ W.heap.size = w.heap.size + 4
theorem apW_start (p : Pt) (w : World) : ApW p w ((((w.alloc (.cells (pcells p).toArray 28)).alloc (.cells #[.bool false] 4)).alloc (.cells #[.bool false] 4)).alloc (.cells #[.int .u16 0, .int .u16 0] 80)) :=
  ⟨(((Blk.new _ _ _).alloc _).alloc _).alloc _, ((Blk.new' _ _ [.bool false] _ _ (by simp) rfl).alloc _).alloc _, (Blk.new' _ _ [.bool false] _ _ (by simp) rfl).alloc _, Blk.new' _ _ [.int .u16 0, .int .u16 0] _ _ (by simp) rfl,
    (((((Below.refl _ _).alloc (Nat.le_refl _) _).alloc (by simp) _).alloc (by simp; omega) _).alloc (by simp; omega) _), by simp⟩
set_option maxRecDepth 100000 in
set_option maxHeartbeats 4000000 in
theorem apart_any (p : Pt) (hp : p.OK) (w : World) : Calls Tryd.prog 30 #[.agg (pcells p).toArray] w fun e w' => e = .returned (.bool (apartP p)) ∧ Below w.heap.size w w' := by
  have HP := Lib.hid hp
  obtain ⟨m, hm⟩ : ∃ m, apartP p = m := ⟨_, rfl⟩
  rw [hm]
  have HM := Lib.hid hm
  obtain ⟨P, hPP⟩ : ∃ P, (pcells p).toArray = P := ⟨_, rfl⟩
  have HPP := Lib.hid hPP
  have HSP : Hid ((Tryd.prog.info? 28).map (·.size) = some P.size) := Lib.hid (by rw [← hPP, sizeP]; simp [pcells_length hp])
  rw [hPP]
  clear hm hp hPP
  refine callsIn_wide.1 (callsIn_of_wp_marks (F := Fence.wide) (n := 5) Tryd.func30 rfl trivial ?_ rfl)
  refine wpIn_wide.2 ?_
  simp only [Tryd.ntmps30, List.size_toArray, List.length_cons, List.length_nil, Nat.reduceAdd, Nat.reduceSub, Array.replicate_succ, Array.replicate_zero, List.push_toArray, List.append_toArray, List.nil_append, List.cons_append]
  go_upto_region 3 with fail
  refine (fun (k : ∀ W1, ApW p w W1 → Code.wp _ _ _ _ W1) => k _ (by rw [← HPP.out]; exact apW_start p w)) ?_
  intro W1 hW
  have HW := Lib.hid hW
  have HC : Hid (Calls Tryd.prog 45 #[.agg P] W1 fun e w' => e = .returned (.func (.func 57) #[] #[.pointer (some ⟨W1.heap.size, 0, none⟩)]) ∧ w' = W1.alloc (.cells P 28)) := Lib.hid (by rw [← HPP.out]; exact copies_any p W1)
  have HG : Hid (W1.heap[w.heap.size]? = some (.cells P 28 (0, 0))) := Lib.hid (by rw [← HPP.out]; exact hW.1)
  clear hW
  go_wp2_with (first | (refine wpList_load_row rfl 28 (.tmp 1) rfl w.heap.size rfl 28 _ _ _ HG.out Tryd.underlying28 rfl HSP.out ?_) | (go_at_call 45; refine HC.out.mono ?_; rintro e w' ⟨rfl, rfl⟩) | fail)
  have hsz : W1.heap.size = w.heap.size + 4 := HW.out.2.2.2.2.2
  have hB5 : Blk (W1.alloc (.cells P 28)) W1.heap.size (pcells p) 28 := Blk.new' W1 P (pcells p) 28 _ rfl HPP.out.symm
  have HSZ := Lib.hid hsz
  clear hsz
  refine wpIn_wide.1 (wpIn_rangeFunc_ownF (n := 5) (w := W1.alloc (.cells P 28)) rfl (by omega) (gf := 57) (lb := #[.pointer (some ⟨W1.heap.size, 0, none⟩)]) rfl trivial (enters_of Tryd.func57 (by kernel_rfl) rfl)
    (copies_stops Fence.wide 4 trivial rfl (by omega) W1.heap.size p HP.out _ hB5) (fun _ _ => trivial) (fun _ _ _ _ _ _ _ _ => trivial) (Below.refl _ _) (fun _ => rfl)
    (ApI w) (ApX w) (apI_own w _ (by have := HSZ.out; simp; omega)) (apX_own w _ (by have := HSZ.out; simp; omega)) ⟨⟨false, 0, 0, rfl, HW.out.2.2.1.alloc _, HW.out.2.2.2.1.alloc _⟩, HW.out.2.1.alloc _, HW.out.2.2.2.2.1.alloc (by have := HSZ.out; omega) _⟩
    (fun x => { tmps := #[.agg P, .pointer (some ⟨w.heap.size, 0, none⟩), .pointer (some ⟨w.heap.size + 1, 0, none⟩), .pointer (some ⟨w.heap.size + 1 + 1, 0, none⟩), .pointer (some ⟨w.heap.size + 1 + 1 + 1, 0, none⟩), .int .i64 (x.1.1 : Int), .int .u16 (x.1.2 : Int), .agg P, .func (.func 57) #[] #[.pointer (some ⟨W1.heap.size, 0, none⟩)], .int .i64 (x.1.1 : Int), .int .u16 (x.1.2 : Int), undef, undef, undef, undef, undef, undef, undef, undef, undef], defers := [] }) ?assign ?body ?done ?stop)
  case assign =>
    intro l x W K hK
    unfold encC
    gi_wp2
    exact hK
  case body =>
    rintro l pre ⟨⟨d, a⟩, hd, ha0, hal⟩ W hI _
    have HI := Lib.hid hI
    obtain ⟨⟨f, x, y, hsw, hb2, hb3⟩, hr, hb⟩ := hI
    simp only at hd ha0 hal
    have c3 := hb3.cell (j := 0) rfl
    have c4 := hb3.cell (j := 1) rfl
    have f3 := hb3.free 0
    have f4 := hb3.free 1
    have c2 := hb2.cell (j := 0) rfl
    have f2 := hb2.free 0
    have c1 := hr.cell (j := 0) rfl
    have f1 := hr.free 0
    have HSW := Lib.hid hsw
    clear hb2 hb3 hr hb hsw
    have hcl : a = (if d = 0 then x else y) → ApX w .ret (pre ++ [⟨(d, a), hd, ha0, hal⟩]) (W.setCell ⟨w.heap.size + 1, 0, none⟩ (.bool false)) := fun e =>
      ⟨rfl, by rw [List.map_append, sweep_append, HSW.out]; show sweep [(d, a)] (f, x, y) = none; show (if _ then _ else _) = _; rw [if_pos e], HI.out.r.set 0 (.bool false), HI.out.b.setCell (by simp) _⟩
    have hgo : ¬ a = (if d = 0 then x else y) → ApI w (pre ++ [⟨(d, a), hd, ha0, hal⟩]) ((W.setCell ⟨w.heap.size + 1 + 1, 0, none⟩ (.bool true)).setCell ⟨w.heap.size + 1 + 1 + 1, d, none⟩ (.int .u16 (a : Int))) := fun e => by
      obtain ⟨⟨f', x', y', hsw, hb2, hb3⟩, hr, hb⟩ := HI.out
      rw [HSW.out] at hsw
      cases hsw
      have h2 := (hb2.set 0 (.bool true)).other (a := ⟨w.heap.size + 1 + 1 + 1, d, none⟩) (by simp) (.int .u16 (a : Int))
      have h3 := (hb3.other (a := ⟨w.heap.size + 1 + 1, 0, none⟩) (by simp) (.bool true)).set d (.int .u16 (a : Int))
      have hs : sweep ((pre ++ [(⟨(d, a), hd, ha0, hal⟩ : Cp)]).map (fun z => z.1)) (false, 0, 0) = some (if d = 0 then (true, a, y) else (true, x, a)) := by
        rw [List.map_append, sweep_append, HSW.out]
        show sweep [(d, a)] (f, x, y) = _
        show (if _ then _ else _) = _
        rw [if_neg e]
        rfl
      have hr' := (hr.other (a := ⟨w.heap.size + 1 + 1, 0, none⟩) (by simp) (.bool true)).other (a := ⟨w.heap.size + 1 + 1 + 1, d, none⟩) (by first | (simp; done) | (simp; omega)) (.int .u16 (a : Int))
      have hbb := (hb.setCell (p := ⟨w.heap.size + 1 + 1, 0, none⟩) (by first | (simp; done) | (simp; omega)) (.bool true)).setCell (p := ⟨w.heap.size + 1 + 1 + 1, d, none⟩) (by first | (simp; done) | (simp; omega)) (.int .u16 (a : Int))
      have hd' : d = 0 ∨ d = 1 := by omega
      rcases hd' with rfl | rfl
      · exact ⟨⟨true, a, y, hs, h2, h3⟩, hr', hbb⟩
      · exact ⟨⟨true, x, a, hs, h2, h3⟩, hr', hbb⟩
    have HCL := Lib.hid hcl; have HGO := Lib.hid hgo
    clear hcl hgo
    have hd' : d = 0 ∨ d = 1 := by omega
    rcases hd' with rfl | rfl
    · by_cases hc : a = x
      · have hci : (a : Int) = (x : Int) := by omega
        have HR := Lib.hid (HCL.out (by simp [hc]))
        clear hc HCL HGO
        gi_wp2
        exact ⟨KeepsOthers.setCell _ _ _, HR.out⟩
      · have hci : ¬ (a : Int) = (x : Int) := by omega
        have HR := Lib.hid (HGO.out (by simp [hc]))
        clear hc HCL HGO
        gi_wp2
        exact ⟨(KeepsOthers.setCell _ _ _).trans (KeepsOthers.setCell _ _ _), trivial, HR.out⟩
    · by_cases hc : a = y
      · have hci : (a : Int) = (y : Int) := by omega
        have HR := Lib.hid (HCL.out (by simp [hc]))
        clear hc HCL HGO
        gi_wp2
        exact ⟨KeepsOthers.setCell _ _ _, HR.out⟩
      · have hci : ¬ (a : Int) = (y : Int) := by omega
        have HR := Lib.hid (HGO.out (by simp [hc]))
        clear hc HCL HGO
        gi_wp2
        exact ⟨(KeepsOthers.setCell _ _ _).trans (KeepsOthers.setCell _ _ _), trivial, HR.out⟩
  case done =>
    rintro D ys W hD rfl hI hK
    have hI0 := hI
    obtain ⟨⟨f, x, y, hsw, hb2, -⟩, hr, -⟩ := hI
    have c2 := hb2.cell (j := 0) rfl
    have c1 := hr.cell (j := 0) rfl
    have f1 := hr.free 0
    have hmf : m = f := by
      rw [← HM.out]
      unfold apartP
      rw [← cps_val HP.out, hsw]
    subst hmf
    have HI := Lib.hid hI0
    clear hI0 hb2 hr hsw
    go_wp2
    have hK' := (KeepsOthers.setCell W ⟨w.heap.size + 1, 0, none⟩ (.bool m)).same D _ hK rfl
    refine ⟨by simp, .inl ⟨_, _, rfl, run_takeDeferred hK', ?_⟩⟩
    have hc5 := cell_kept (World.cell?_setCell_same' W ⟨w.heap.size + 1, 0, none⟩ (.bool m) (by rw [c1]; rfl)) (grownBy_putObj' _ D (.deferred none)) (fun r e => by cases e; exact ⟨_, hK', rfl⟩)
    refine ⟨.bool m, ?_, rfl, (HI.out.b.setCell (p := ⟨w.heap.size + 1, 0, none⟩) (by simp) _).trans (belowK_b (w := w) (Nat.le_refl _) _ D _ _ (by have := HSZ.out; simp at hD; omega) hK' rfl rfl)⟩
    simp [results, Tryd.f30, go_sem, hc5]
  case stop =>
    rintro D c pre W hD hpre hX hK
    obtain ⟨rfl, hsw, hr, hb⟩ := hX
    have hmf : m = false := by
      rw [← HM.out]
      unfold apartP
      obtain ⟨r, hr⟩ := hpre
      rw [← cps_val HP.out, ← hr, List.map_append, sweep_append, hsw]
      rfl
    subst hmf
    have c1 := hr.cell (j := 0) rfl
    refine wpIn_wide.2 ?_
    go_wp2
    refine ⟨by simp, .inl ⟨_, _, rfl, run_takeDeferred hK, ?_⟩⟩
    have hc5 := cell_kept c1 (grownBy_putObj' _ D (.deferred none)) (fun r e => by cases e; exact ⟨_, hK, rfl⟩)
    refine ⟨.bool false, ?_, rfl, hb.trans (belowK_b (w := w) (Nat.le_refl _) _ D _ _ (by have := HSZ.out; simp at hD; omega) hK rfl rfl)⟩
    simp [results, Tryd.f30, go_sem, hc5]
end Go.Proofs.YtincpdnmaiimnaaDoor
