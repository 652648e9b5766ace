/- NodeBack, walked. -/
import Derived.Test.YtincpdnmaiimnaaDoorNw
namespace Go.Proofs.YtincpdnmaiimnaaDoor
open Go.RowKit

structure NbW (ns : List Pt) (l : Bs) (sp : Option Addr) (p : Pt) (w : World) (W : World) : Prop where
  a : Blk W w.heap.size (ncells ns) 29
  b : Blk W (w.heap.size + 1) (pcells p) 28
  src : SrcA W sp l
  tab : RTab W
  bel : Below w.heap.size w W
theorem NbW.grown {ns : List Pt} {l : Bs} {sp : Option Addr} {p : Pt} {w W W' : World} (h : NbW ns l sp p w W) (hb : Below W.heap.size W W') : NbW ns l sp p w W' :=
  ⟨h.a.below hb h.a.lt, h.b.below hb h.b.lt, h.src.grown hb, h.tab.grown hb, h.bel.trans (hb.mono h.bel.size)⟩
theorem nbW_start {ns : List Pt} {l : Bs} {sp : Option Addr} {p : Pt} {w : World} (hS : SrcA w sp l) (hT : RTab w) : NbW ns l sp p w ((w.alloc (.cells (ncells ns).toArray 29)).alloc (.cells (pcells p).toArray 28)) := by
  have hb : Below w.heap.size w ((w.alloc (.cells (ncells ns).toArray 29)).alloc (.cells (pcells p).toArray 28)) := ((Below.refl _ _).alloc (Nat.le_refl _) _).alloc (by simp) _
  exact ⟨(Blk.new _ _ _).alloc _, Blk.new' _ _ _ _ _ (by simp) rfl, hS.grown hb, hT.grown hb, hb⟩
theorem ex_neNs {ρ : Operand → Value} {o : Oper} {x y : Operand} {w : World} {ns : List Pt} (h : NOK ns) (ho : o.op = .binOp .neq 35 x y 35) (hx : ρ x = .agg (ncells ns).toArray) (hy : ρ y = .agg (ncells ns).toArray) : (execOp ρ o).run Tryd.prog w = .ok (.value (.bool false)) w := by
  have h := ex_neN (w := w) h h ho hx hy
  rw [decide_eq_true rfl] at h
  exact h
theorem ex_neSt {ρ : Operand → Value} {o : Oper} {x y : Operand} {k : TypeId} {a : Bs} {w : World} (ho : o.op = .binOp .neq 9 x y k) (hx : ρ x = .string (bstr a)) (hy : ρ y = .string (bstr a)) : (execOp ρ o).run Tryd.prog w = .ok (.value (.bool false)) w := by
  have h := ex_neq (w := w) ho hx hy
  rw [decide_eq_true rfl] at h
  exact h
theorem ex_neP1 {ρ : Operand → Value} {o : Oper} {x y : Operand} {p : Pt} {w : World} (ho : o.op = .binOp .neq 28 x y 28) (hx : ρ x = .agg (pcells p).toArray) (hy : ρ y = .agg (pcells p).toArray) (hp : p.OK) : (execOp ρ o).run Tryd.prog w = .ok (.value (.bool false)) w := by
  have h := ex_neP (w := w) ho hx hy hp hp
  rw [eqP_same] at h
  exact h
theorem ex_ldAE {ρ : Operand → Value} {o : Oper} {x : Operand} {w : World} {ns : List Pt} (h : NOK ns) {g : Nat} {t' : TypeId} (hB : Blk w g (ncells ns) t') (ho : o.op = .load 29 x) (hx : ρ x = .pointer (some ⟨g, 0, none⟩)) : (execOp ρ o).run Tryd.prog w = .ok (.value (.agg (ncells ns).toArray)) w := ex_ldT Tryd.underlying29 size_a8 h hB ho hx
theorem withN_at {ns : List Pt} (h : NOK ns) {k : Nat} (hk : k < 8) (p : Pt) : (withN ns (k : Int) p)[k]? = some p := by
  unfold withN
  rw [if_pos ⟨by omega, by omega⟩, Int.toNat_natCast, List.getElem?_set_self (by rw [h.len]; exact hk)]
theorem withN_not {ns : List Pt} {k : Nat} {i : Int} (hi : ¬ (k : Int) = i) (p : Pt) : (withN ns i p)[k]? = ns[k]? := by
  unfold withN
  split
  · rw [List.getElem?_set_ne (by omega)]
  · rfl
structure LbW (ns ms : List Pt) (p : Pt) (w : World) (g : Nat) (W : World) : Prop where
  a : Blk W w.heap.size (ncells ns) 29
  b : Blk W (w.heap.size + 1) (pcells p) 28
  c : Blk W g (ncells ms) 35
  tab : RTab W
  bel : Below w.heap.size w W
theorem LbW.drew {ns ms : List Pt} {p : Pt} {w W : World} {g : Nat} (h : LbW ns ms p w g W) : LbW ns ms p w g W.drew :=
  have hb : Below W.heap.size W W.drew := (Below.refl _ _).drew
  ⟨h.a.below hb h.a.lt, h.b.below hb h.b.lt, h.c.below hb h.c.lt, h.tab.grown hb, h.bel.trans (hb.mono h.bel.size)⟩
def LbRel (ns : List Pt) (i : Int) (p : Pt) (w : World) (g : Nat) (v : Value) (W : World) : Prop := ∃ k : Nat, k ≤ 8 ∧ v = .int .i64 (k : Int) ∧ LbW ns (withN ns i p) p w g W
set_option maxRecDepth 100000 in
set_option maxHeartbeats 8000000 in
theorem nodeBack_go (ns : List Pt) (h : NOK ns) (l : Bs) (sp : Option Addr) (cap : Nat) (i : Int) (p : Pt) (hp : p.OK) (w : World) (hl : l.length ≤ 600) (hc : l.length ≤ cap) (hz : sp = none → cap = 0) (hS : SrcA w sp l) (hT : RTab w) :
    Calls Tryd.prog 5 #[.agg (ncells ns).toArray, .slice sp l.length cap, .int .i64 i, .agg (pcells p).toArray] w fun e w' => e = .returned (.bool true) ∧ Below w.heap.size w w' := by
  have HP := Lib.hid h
  have HPO := Lib.hid hp
  have HX := Lib.hid (nbW_start (ns := ns) (p := p) hS hT)
  have HTK : Hid (∀ W, SrcA W sp l → RTab W → Calls Tryd.prog 12 #[.slice sp l.length cap] W (NTakePost l W)) := Lib.hid fun W h1 h2 => nodeTake_any l sp cap W hz hc h1 h2
  obtain ⟨L, hL⟩ : ∃ L, l.length = L := ⟨_, rfl⟩
  have HL := Lib.hid hL
  rw [hL] at HTK ⊢
  have i1 : ¬ ((600 : Int) < (L : Int)) := by omega
  have HSN := Lib.hid (size_nc h)
  have HSA : Hid ((ncells ns).toArray.size = 328) := Lib.hid h.size
  have HON := Lib.hid (ncells_one h.ok)
  have HWO := Lib.hid (withN_ok h i hp)
  have HSW := Lib.hid (size_nc HWO.out)
  have HSB : Hid ((ncells (withN ns i p)).toArray.size = 328) := Lib.hid HWO.out.size
  have HOW := Lib.hid (ncells_one HWO.out.ok)
  have HTO := Lib.hid (nodeT_ok l)
  have HST := Lib.hid (size_nc HTO.out)
  have HSC : Hid ((ncells (nodeT l)).toArray.size = 328) := Lib.hid HTO.out.size
  have HOT := Lib.hid (ncells_one HTO.out.ok)
  have HWK : Hid (∀ W, Below w.heap.size w W → RTab W → Calls Tryd.prog 9 #[] W fun e w' => e = .returned (.bool true) ∧ Below w.heap.size w w') := Lib.hid fun W hb ht => (nwakes_any W ht).mono fun e w' ⟨h1, h2⟩ => ⟨h1, hb.trans (h2.mono hb.size)⟩
  clear h hp hl hc hz hS hT hL
  go_enter Tryd.func5, Tryd.ntmps5
  go_upto_region 3 with fail
  refine (fun (k : ∀ W, NbW ns l sp p w W → Code.wp _ _ _ _ W) => k _ HX.out) ?_
  intro W0 h0
  have HX0 := Lib.hid h0
  clear h0 HX
  go_upto_region 4 with (first | (refine wpL_val rfl (ex_ldAE HP.out HX0.out.a rfl rfl) ?_) | (refine wpList_store_row rfl 35 (.tmp 9) (.tmp 24) rfl W0.heap.size (ncells ns).toArray rfl rfl 35 _ (heap_alloc_new W0 _) HSN.out (by rw [HSA.out]; rfl) HON.out ?_) | fail)
  refine (fun (k : ∀ W, Blk W W0.heap.size (ncells ns) 35 → Below W0.heap.size W0 W → Code.wp _ _ _ _ W) => k _ (blk_row1 W0 _ (ncells ns) 35).1 (blk_row1 W0 _ (ncells ns) 35).2) ?_
  intro W1 hn1 hb1
  obtain ⟨g1, hg1⟩ : ∃ g, W0.heap.size = g := ⟨_, rfl⟩
  have HX1 := Lib.hid (HX0.out.grown hb1)
  rw [hg1] at hn1 ⊢
  have HN1 := Lib.hid hn1
  clear hn1 hb1 hg1 HX0
  have HPU := Lib.hid (nodePut_any ns HP.out W1 HX1.out.tab)
  go_wp2_with (first | (refine wpL_val rfl (ex_ldN HP.out HN1.out rfl rfl) ?_) | fail)
  refine HPU.out.mono ?_
  rintro e W2 ⟨h5 | h5, hb2⟩
  · obtain ⟨hok, v5, rfl, ho5⟩ := h5
    obtain ⟨hE, hT⟩ := put_back HP.out hok
    obtain ⟨sp5, cap5, rfl, r1, r2, r3, r4, r5⟩ := OwnB.form ho5
    have HX2 := Lib.hid (HX1.out.grown hb2)
    have HN2 := Lib.hid (HN1.out.below hb2 HN1.out.lt)
    have htk := nodeTake_any (nodeB ns) sp5 cap5 W2 r4 r1 r3 HX2.out.tab
    unfold NTakePost at htk
    rw [hE, hT] at htk
    obtain ⟨m5, hm5⟩ : ∃ m, (nodeB ns).length = m := ⟨_, rfl⟩
    rw [hm5] at htk ⊢
    have HT5 := Lib.hid htk
    clear hok hE hT ho5 r1 r2 r3 r4 r5 hb2 htk hm5 HX1 HN1 HPU
    go_wp2_with fail
    refine HT5.out.mono ?_
    rintro e W3 ⟨rfl, hb3⟩
    have HX3 := Lib.hid (HX2.out.grown hb3)
    have HN3 := Lib.hid (HN2.out.below hb3 HN2.out.lt)
    rw [show ((0 : Nat) : Int) = (0 : Int) from rfl]
    clear hb3 HX2 HN2 HT5
    go_upto_region 7 with (first | (refine wpList_store_row rfl 35 (.tmp 12) (.tmp 35) rfl W3.heap.size (ncells ns).toArray rfl rfl 35 _ (heap_alloc_new W3 _) HSN.out (by rw [HSA.out]; rfl) HON.out ?_) | fail)
    refine (fun (k : ∀ W, Blk W W3.heap.size (ncells ns) 35 → Below W3.heap.size W3 W → Code.wp _ _ _ _ W) => k _ (blk_row1 W3 _ (ncells ns) 35).1 (blk_row1 W3 _ (ncells ns) 35).2) ?_
    intro W4 hn4 hb4
    obtain ⟨g4, hg4⟩ : ∃ g, W3.heap.size = g := ⟨_, rfl⟩
    have HXy := Lib.hid (HX3.out.grown hb4)
    have HNy := Lib.hid (HN3.out.below hb4 HN3.out.lt)
    rw [hg4] at hn4 ⊢
    have HM4 := Lib.hid hn4
    clear hn4 hb4 hg4 HX3 HN3
    go_upto_region 9 with (first | (refine wpL_valG (by rfl) (ex_ldN HP.out HM4.out rfl rfl) ?_) | (refine wpL_valG (by rfl) (ex_ldN HP.out HNy.out rfl rfl) ?_) | (refine wpL_valG (by rfl) (ex_neNs HP.out rfl rfl rfl) ?_) | fail)
    have HXz := Lib.hid HXy.out; have HNz := Lib.hid HNy.out
    clear HXy HNy HM4
    go_wp2_with fail
    refine (HTK.out _ HXz.out.src HXz.out.tab).mono ?_
    rintro e W5 ⟨rfl, hb5⟩
    have HX5 := Lib.hid (HXz.out.grown hb5)
    have HN5 := Lib.hid (HNz.out.below hb5 HNz.out.lt)
    clear hb5 HXz HNz HTK
    go_upto_region 10 with (first | (refine wpList_store_row rfl 35 (.tmp 14) (.tmp 47) rfl W5.heap.size (ncells (nodeT l)).toArray rfl rfl 35 _ (heap_alloc_new W5 _) HST.out (by rw [HSC.out]; rfl) HOT.out ?_) | fail)
    refine (fun (k : ∀ W, Blk W W5.heap.size (ncells (nodeT l)) 35 → Below W5.heap.size W5 W → Code.wp _ _ _ _ W) => k _ (blk_row1 W5 _ (ncells (nodeT l)) 35).1 (blk_row1 W5 _ (ncells (nodeT l)) 35).2) ?_
    intro W6 hn6 hb6
    obtain ⟨g6, hg6⟩ : ∃ g, W5.heap.size = g := ⟨_, rfl⟩
    have HX6 := Lib.hid (HX5.out.grown hb6)
    have HN6 := Lib.hid (HN5.out.below hb6 HN5.out.lt)
    rw [hg6] at hn6 ⊢
    have HM6 := Lib.hid hn6
    clear hn6 hb6 hg6 HX5 HN5
    by_cases h0 : nodeE l = 0
    · have htb := take_back h0
      have HTB := Lib.hid htb
      rw [h0, show ((0 : Nat) : Int) = (0 : Int) from rfl]
      clear htb h0
      have HP7 := Lib.hid (nodePut_any (nodeT l) HTO.out W6 HX6.out.tab)
      go_wp2_with (first | (refine wpL_val rfl (ex_ldN HTO.out HM6.out rfl rfl) ?_) | fail)
      refine HP7.out.mono ?_
      rintro e W7 ⟨h7 | h7, hb7⟩
      rotate_left
      · exact absurd (h7.1.symm.trans HTB.out.1) (by decide)
      obtain ⟨-, v7, rfl, ho7⟩ := h7
      rw [HTB.out.2] at ho7
      obtain ⟨sp7, cap7, rfl, -, -, r3, -, -⟩ := OwnB.form ho7
      have HS7 := Lib.hid r3
      have HX7 := Lib.hid (HX6.out.grown hb7)
      have HN7 := Lib.hid (HN6.out.below hb7 HN6.out.lt)
      rw [HL.out]
      clear ho7 r3 hb7 HX6 HN6 HM6 HP7
      go_wp2_with (first | (refine wpL_valG (by rfl) (ex_cvs rfl HL.out rfl HS7.out) ?_) | (refine wpL_valG (by rfl) (ex_cvs rfl HL.out rfl HX7.out.src) ?_) | (refine wpL_valG (by rfl) (ex_neSt rfl rfl rfl) ?_) | (refine wpL_val rfl (ex_ldN HP.out HN7.out rfl rfl) ?_) | (refine wpL_val rfl (ex_ldP HPO.out HX7.out.b rfl rfl) ?_) | fail)
      refine (with_any ns HP.out i p HPO.out W7).mono ?_
      rintro e W8 ⟨rfl, hb8⟩
      have HX8 := Lib.hid (HX7.out.grown hb8)
      clear hb8 HX7 HN7
      go_upto_region 15 with (first | (refine wpList_store_row rfl 35 (.tmp 18) (.tmp 68) rfl W8.heap.size (ncells (withN ns i p)).toArray rfl rfl 35 _ (heap_alloc_new W8 _) HSW.out (by rw [HSB.out]; rfl) HOW.out ?_) | fail)
      refine (fun (k : ∀ W, Blk W W8.heap.size (ncells (withN ns i p)) 35 → Below W8.heap.size W8 W → Code.wp _ _ _ _ W) => k _ (blk_row1 W8 _ (ncells (withN ns i p)) 35).1 (blk_row1 W8 _ (ncells (withN ns i p)) 35).2) ?_
      intro W9 hn9 hb9
      obtain ⟨g9, hg9⟩ : ∃ g, W8.heap.size = g := ⟨_, rfl⟩
      have hx9 := HX8.out.grown hb9
      rw [hg9] at hn9 ⊢
      have HR : Hid (LbRel ns i p w g9 (.int .i64 0) W9) := Lib.hid ⟨0, by omega, rfl, hx9.a, hx9.b, hn9, hx9.tab, hx9.bel⟩
      clear hx9 hn9 hb9 hg9 HX8 HTO HST HSC HOT HSN HSA HON HSW HSB HOW
      go_wp2_with fail
      go_loopw [19] (fun v wr => LbRel ns i p w g9 v wr) (fun v _ => 8 - (intOf v).toNat)
      case atStart => exact HR.out
      case round =>
        clear HR
        obtain ⟨k, hk, rfl, hW⟩ := hrel
        have HW := Lib.hid hW
        clear hW
        have wk1 := IntWalk.i64_in ((k : Int) + 1) (by omega)
        by_cases hlt : k < 8
        · obtain ⟨q, hq⟩ := HP.out.get hlt
          have HQO := Lib.hid (HP.out.at hq)
          have HAT := Lib.hid hq
          clear hq
          have h0k : (0 : Int) ≤ (k : Int) := by omega
          have hk8 : (k : Int) < 8 := by omega
          by_cases hik : (k : Int) = i
          · subst hik
            have HWA := Lib.hid (withN_at HP.out hlt p)
            go_upto_region 18 with fail
            refine wp_region_sched (.take 0 (.take 1 (.take 2 (.take 3 (.take 4 (.take 5 (.take 6 (.take 7 (.take 8 (.take 9 (.take 10 (.take 11 (.take 12 (.take 13 (.take 14 (.take 15 (.take 16 (.take 17 (.take 18 (.take 19 (.take 20 (.take 21 (.take 22 (.take 23 (.nil))))))))))))))))))))))))) (by kernel_rfl) (by kernel_rfl) (fun d _ _ _ _ h => by cases d <;> exact h) (LbW ns (withN ns (k : Int) p) p w g9) HW.out.drew ?_
            refine wpG_take _ (.int .i64 (k : Int)) rfl (by rfl) (fun X hX => by first | rfl | go_simp) ?_
            (try simp only [Act.put, List.setIfInBounds_toArray, List.set_cons_zero, List.set_cons_succ])
            refine wpG_take _ (.int .i64 (k : Int)) rfl (by rfl) (fun X hX => by first | rfl | go_simp) ?_
            (try simp only [Act.put, List.setIfInBounds_toArray, List.set_cons_zero, List.set_cons_succ])
            refine wpG_take _ (.bool true) rfl (by rfl) (fun X hX => by first | rfl | go_simp) ?_
            (try simp only [Act.put, List.setIfInBounds_toArray, List.set_cons_zero, List.set_cons_succ])
            refine wpG_take _ (.bool true) rfl (by rfl) (fun X hX => by first | rfl | go_simp) ?_
            (try simp only [Act.put, List.setIfInBounds_toArray, List.set_cons_zero, List.set_cons_succ])
            refine wpG_take _ (.int .i64 (k : Int)) rfl (by rfl) (fun X hX => by first | rfl | go_simp) ?_
            (try simp only [Act.put, List.setIfInBounds_toArray, List.set_cons_zero, List.set_cons_succ])
            refine wpG_take _ (.pointer (some ⟨g9, k * 41, none⟩)) rfl (by rfl) (fun X hX => by first | rfl | go_simp) ?_
            (try simp only [Act.put, List.setIfInBounds_toArray, List.set_cons_zero, List.set_cons_succ])
            refine wpG_take _ (.agg (pcells p).toArray) rfl (by rfl) (fun X hX => ex_ldE HWO.out hX.c HWA.out (Nat.mul_comm k 41) rfl rfl) ?_
            (try simp only [Act.put, List.setIfInBounds_toArray, List.set_cons_zero, List.set_cons_succ])
            refine wpG_take _ (.agg (pcells p).toArray) rfl (by rfl) (fun X hX => ex_ldP HPO.out hX.b rfl rfl) ?_
            (try simp only [Act.put, List.setIfInBounds_toArray, List.set_cons_zero, List.set_cons_succ])
            refine wpG_take _ (.bool false) rfl (by rfl) (fun X hX => ex_neP1 rfl rfl rfl HPO.out) ?_
            (try simp only [Act.put, List.setIfInBounds_toArray, List.set_cons_zero, List.set_cons_succ])
            refine wpG_take _ (.bool false) rfl (by rfl) (fun X hX => by first | rfl | go_simp) ?_
            (try simp only [Act.put, List.setIfInBounds_toArray, List.set_cons_zero, List.set_cons_succ])
            refine wpG_take _ (.bool false) rfl (by rfl) (fun X hX => by first | rfl | go_simp) ?_
            (try simp only [Act.put, List.setIfInBounds_toArray, List.set_cons_zero, List.set_cons_succ])
            refine wpG_take _ (.int .i64 (k : Int)) rfl (by rfl) (fun X hX => by first | rfl | go_simp) ?_
            (try simp only [Act.put, List.setIfInBounds_toArray, List.set_cons_zero, List.set_cons_succ])
            refine wpG_take _ (.int .i64 (k : Int)) rfl (by rfl) (fun X hX => by first | rfl | go_simp) ?_
            (try simp only [Act.put, List.setIfInBounds_toArray, List.set_cons_zero, List.set_cons_succ])
            refine wpG_take _ (.bool false) rfl (by rfl) (fun X hX => by first | rfl | go_simp) ?_
            (try simp only [Act.put, List.setIfInBounds_toArray, List.set_cons_zero, List.set_cons_succ])
            refine wpG_take _ (.bool false) rfl (by rfl) (fun X hX => by first | rfl | go_simp) ?_
            (try simp only [Act.put, List.setIfInBounds_toArray, List.set_cons_zero, List.set_cons_succ])
            refine wpG_pass _ rfl (by rfl) ?_
            (try simp only [Act.put, List.setIfInBounds_toArray, List.set_cons_zero, List.set_cons_succ])
            refine wpG_pass _ rfl (by rfl) ?_
            (try simp only [Act.put, List.setIfInBounds_toArray, List.set_cons_zero, List.set_cons_succ])
            refine wpG_pass _ rfl (by rfl) ?_
            (try simp only [Act.put, List.setIfInBounds_toArray, List.set_cons_zero, List.set_cons_succ])
            refine wpG_pass _ rfl (by rfl) ?_
            (try simp only [Act.put, List.setIfInBounds_toArray, List.set_cons_zero, List.set_cons_succ])
            refine wpG_pass _ rfl (by rfl) ?_
            (try simp only [Act.put, List.setIfInBounds_toArray, List.set_cons_zero, List.set_cons_succ])
            refine wpG_pass _ rfl (by rfl) ?_
            (try simp only [Act.put, List.setIfInBounds_toArray, List.set_cons_zero, List.set_cons_succ])
            refine wpG_pass _ rfl (by rfl) ?_
            (try simp only [Act.put, List.setIfInBounds_toArray, List.set_cons_zero, List.set_cons_succ])
            refine wpG_take _ (.bool false) rfl (by rfl) (fun X hX => by first | rfl | go_simp) ?_
            (try simp only [Act.put, List.setIfInBounds_toArray, List.set_cons_zero, List.set_cons_succ])
            refine wpG_take _ (.bool false) rfl (by rfl) (fun X hX => by first | rfl | go_simp) ?_
            (try simp only [Act.put, List.setIfInBounds_toArray, List.set_cons_zero, List.set_cons_succ])
            refine wpG_nil ?_
            have HWD := Lib.hid HW.out.drew
            clear HW HWA HAT HQO
            go_wp2_with fail
            go_roundw
            case rel => exact ⟨k + 1, by omega, by go_num, HWD.out⟩
            case measure => simp [intOf]; omega
          · have HWA : Hid ((withN ns i p)[k]? = some q) := Lib.hid ((withN_not hik p).trans HAT.out)
            have hik2 : ((k : Int) == i) = false := by rw [beq_eq_false_iff_ne]; exact hik
            have hik3 : ((k : Int) != i) = true := by rw [bne_iff_ne]; exact hik
            go_upto_region 18 with fail
            refine wp_region_sched (.take 0 (.take 1 (.take 2 (.take 3 (.take 4 (.take 5 (.take 6 (.take 7 (.take 8 (.take 9 (.take 10 (.take 11 (.take 12 (.take 13 (.take 14 (.take 15 (.take 16 (.take 17 (.take 18 (.take 19 (.take 20 (.take 21 (.take 22 (.take 23 (.nil))))))))))))))))))))))))) (by kernel_rfl) (by kernel_rfl) (fun d _ _ _ _ h => by cases d <;> exact h) (LbW ns (withN ns i p) p w g9) HW.out.drew ?_
            refine wpG_take _ (.int .i64 (k : Int)) rfl (by rfl) (fun X hX => by first | rfl | go_simp) ?_
            (try simp only [Act.put, List.setIfInBounds_toArray, List.set_cons_zero, List.set_cons_succ])
            refine wpG_take _ (.int .i64 i) rfl (by rfl) (fun X hX => by first | rfl | go_simp) ?_
            (try simp only [Act.put, List.setIfInBounds_toArray, List.set_cons_zero, List.set_cons_succ])
            refine wpG_take _ (.bool false) rfl (by rfl) (fun X hX => by first | rfl | go_simp) ?_
            (try simp only [Act.put, List.setIfInBounds_toArray, List.set_cons_zero, List.set_cons_succ])
            refine wpG_take _ (.bool false) rfl (by rfl) (fun X hX => by first | rfl | go_simp) ?_
            (try simp only [Act.put, List.setIfInBounds_toArray, List.set_cons_zero, List.set_cons_succ])
            refine wpG_pass _ rfl (by rfl) ?_
            (try simp only [Act.put, List.setIfInBounds_toArray, List.set_cons_zero, List.set_cons_succ])
            refine wpG_pass _ rfl (by rfl) ?_
            (try simp only [Act.put, List.setIfInBounds_toArray, List.set_cons_zero, List.set_cons_succ])
            refine wpG_pass _ rfl (by rfl) ?_
            (try simp only [Act.put, List.setIfInBounds_toArray, List.set_cons_zero, List.set_cons_succ])
            refine wpG_pass _ rfl (by rfl) ?_
            (try simp only [Act.put, List.setIfInBounds_toArray, List.set_cons_zero, List.set_cons_succ])
            refine wpG_pass _ rfl (by rfl) ?_
            (try simp only [Act.put, List.setIfInBounds_toArray, List.set_cons_zero, List.set_cons_succ])
            refine wpG_take _ (.bool false) rfl (by rfl) (fun X hX => by first | rfl | go_simp) ?_
            (try simp only [Act.put, List.setIfInBounds_toArray, List.set_cons_zero, List.set_cons_succ])
            refine wpG_take _ (.bool false) rfl (by rfl) (fun X hX => by first | rfl | go_simp) ?_
            (try simp only [Act.put, List.setIfInBounds_toArray, List.set_cons_zero, List.set_cons_succ])
            refine wpG_take _ (.int .i64 (k : Int)) rfl (by rfl) (fun X hX => by first | rfl | go_simp) ?_
            (try simp only [Act.put, List.setIfInBounds_toArray, List.set_cons_zero, List.set_cons_succ])
            refine wpG_take _ (.int .i64 i) rfl (by rfl) (fun X hX => by first | rfl | go_simp) ?_
            (try simp only [Act.put, List.setIfInBounds_toArray, List.set_cons_zero, List.set_cons_succ])
            refine wpG_take _ (.bool true) rfl (by rfl) (fun X hX => by first | rfl | go_simp) ?_
            (try simp only [Act.put, List.setIfInBounds_toArray, List.set_cons_zero, List.set_cons_succ])
            refine wpG_take _ (.bool true) rfl (by rfl) (fun X hX => by first | rfl | go_simp) ?_
            (try simp only [Act.put, List.setIfInBounds_toArray, List.set_cons_zero, List.set_cons_succ])
            refine wpG_take _ (.int .i64 (k : Int)) rfl (by rfl) (fun X hX => by first | rfl | go_simp) ?_
            (try simp only [Act.put, List.setIfInBounds_toArray, List.set_cons_zero, List.set_cons_succ])
            refine wpG_take _ (.pointer (some ⟨g9, k * 41, none⟩)) rfl (by rfl) (fun X hX => by first | rfl | go_simp) ?_
            (try simp only [Act.put, List.setIfInBounds_toArray, List.set_cons_zero, List.set_cons_succ])
            refine wpG_take _ (.agg (pcells q).toArray) rfl (by rfl) (fun X hX => ex_ldE HWO.out hX.c HWA.out (Nat.mul_comm k 41) rfl rfl) ?_
            (try simp only [Act.put, List.setIfInBounds_toArray, List.set_cons_zero, List.set_cons_succ])
            refine wpG_take _ (.int .i64 (k : Int)) rfl (by rfl) (fun X hX => by first | rfl | go_simp) ?_
            (try simp only [Act.put, List.setIfInBounds_toArray, List.set_cons_zero, List.set_cons_succ])
            refine wpG_take _ (.pointer (some ⟨w.heap.size, k * 41, none⟩)) rfl (by rfl) (fun X hX => by first | rfl | go_simp) ?_
            (try simp only [Act.put, List.setIfInBounds_toArray, List.set_cons_zero, List.set_cons_succ])
            refine wpG_take _ (.agg (pcells q).toArray) rfl (by rfl) (fun X hX => ex_ldE HP.out hX.a HAT.out (Nat.mul_comm k 41) rfl rfl) ?_
            (try simp only [Act.put, List.setIfInBounds_toArray, List.set_cons_zero, List.set_cons_succ])
            refine wpG_take _ (.bool false) rfl (by rfl) (fun X hX => ex_neP1 rfl rfl rfl HQO.out) ?_
            (try simp only [Act.put, List.setIfInBounds_toArray, List.set_cons_zero, List.set_cons_succ])
            refine wpG_take _ (.bool false) rfl (by rfl) (fun X hX => by first | rfl | go_simp) ?_
            (try simp only [Act.put, List.setIfInBounds_toArray, List.set_cons_zero, List.set_cons_succ])
            refine wpG_take _ (.bool false) rfl (by rfl) (fun X hX => by first | rfl | go_simp) ?_
            (try simp only [Act.put, List.setIfInBounds_toArray, List.set_cons_zero, List.set_cons_succ])
            refine wpG_nil ?_
            have HWD := Lib.hid HW.out.drew
            clear HW HWA HAT HQO
            go_wp2_with fail
            go_roundw
            case rel => exact ⟨k + 1, by omega, by go_num, HWD.out⟩
            case measure => simp [intOf]; omega
        · obtain rfl : k = 8 := by omega
          rw [show ((8 : Nat) : Int) = (8 : Int) from rfl]
          clear hk hlt
          go_wp2_with fail
          refine (HWK.out _ HW.out.bel HW.out.tab).mono ?_
          rintro e w6 ⟨rfl, hb6⟩
          have HB6 := Lib.hid hb6
          clear hb6 HW
          go_wp2_with fail
          go_ret
          exact ⟨rfl, HB6.out⟩
    · have hE5 : nodeE l = 5 := (nodeE_five l).resolve_left h0
      rw [hE5, show ((5 : Nat) : Int) = (5 : Int) from rfl]
      clear hE5 h0
      have HX7 := Lib.hid HX6.out; have HN7 := Lib.hid HN6.out
      obtain ⟨W7, eW⟩ : ∃ W, W = W6 := ⟨_, rfl⟩
      rw [← eW] at HX7 HN7 ⊢
      clear eW HX6 HN6 HM6
      go_wp2_with (first | (refine wpL_val rfl (ex_ldN HP.out HN7.out rfl rfl) ?_) | (refine wpL_val rfl (ex_ldP HPO.out HX7.out.b rfl rfl) ?_) | fail)
      refine (with_any ns HP.out i p HPO.out W7).mono ?_
      rintro e W8 ⟨rfl, hb8⟩
      have HX8 := Lib.hid (HX7.out.grown hb8)
      clear hb8 HX7 HN7
      go_upto_region 15 with (first | (refine wpList_store_row rfl 35 (.tmp 18) (.tmp 68) rfl W8.heap.size (ncells (withN ns i p)).toArray rfl rfl 35 _ (heap_alloc_new W8 _) HSW.out (by rw [HSB.out]; rfl) HOW.out ?_) | fail)
      refine (fun (k : ∀ W, Blk W W8.heap.size (ncells (withN ns i p)) 35 → Below W8.heap.size W8 W → Code.wp _ _ _ _ W) => k _ (blk_row1 W8 _ (ncells (withN ns i p)) 35).1 (blk_row1 W8 _ (ncells (withN ns i p)) 35).2) ?_
      intro W9 hn9 hb9
      obtain ⟨g9, hg9⟩ : ∃ g, W8.heap.size = g := ⟨_, rfl⟩
      have hx9 := HX8.out.grown hb9
      rw [hg9] at hn9 ⊢
      have HR : Hid (LbRel ns i p w g9 (.int .i64 0) W9) := Lib.hid ⟨0, by omega, rfl, hx9.a, hx9.b, hn9, hx9.tab, hx9.bel⟩
      clear hx9 hn9 hb9 hg9 HX8 HTO HST HSC HOT HSN HSA HON HSW HSB HOW
      go_wp2_with fail
      go_loopw [19] (fun v wr => LbRel ns i p w g9 v wr) (fun v _ => 8 - (intOf v).toNat)
      case atStart => exact HR.out
      case round =>
        clear HR
        obtain ⟨k, hk, rfl, hW⟩ := hrel
        have HW := Lib.hid hW
        clear hW
        have wk1 := IntWalk.i64_in ((k : Int) + 1) (by omega)
        by_cases hlt : k < 8
        · obtain ⟨q, hq⟩ := HP.out.get hlt
          have HQO := Lib.hid (HP.out.at hq)
          have HAT := Lib.hid hq
          clear hq
          have h0k : (0 : Int) ≤ (k : Int) := by omega
          have hk8 : (k : Int) < 8 := by omega
          by_cases hik : (k : Int) = i
          · subst hik
            have HWA := Lib.hid (withN_at HP.out hlt p)
            go_upto_region 18 with fail
            refine wp_region_sched (.take 0 (.take 1 (.take 2 (.take 3 (.take 4 (.take 5 (.take 6 (.take 7 (.take 8 (.take 9 (.take 10 (.take 11 (.take 12 (.take 13 (.take 14 (.take 15 (.take 16 (.take 17 (.take 18 (.take 19 (.take 20 (.take 21 (.take 22 (.take 23 (.nil))))))))))))))))))))))))) (by kernel_rfl) (by kernel_rfl) (fun d _ _ _ _ h => by cases d <;> exact h) (LbW ns (withN ns (k : Int) p) p w g9) HW.out.drew ?_
            refine wpG_take _ (.int .i64 (k : Int)) rfl (by rfl) (fun X hX => by first | rfl | go_simp) ?_
            (try simp only [Act.put, List.setIfInBounds_toArray, List.set_cons_zero, List.set_cons_succ])
            refine wpG_take _ (.int .i64 (k : Int)) rfl (by rfl) (fun X hX => by first | rfl | go_simp) ?_
            (try simp only [Act.put, List.setIfInBounds_toArray, List.set_cons_zero, List.set_cons_succ])
            refine wpG_take _ (.bool true) rfl (by rfl) (fun X hX => by first | rfl | go_simp) ?_
            (try simp only [Act.put, List.setIfInBounds_toArray, List.set_cons_zero, List.set_cons_succ])
            refine wpG_take _ (.bool true) rfl (by rfl) (fun X hX => by first | rfl | go_simp) ?_
            (try simp only [Act.put, List.setIfInBounds_toArray, List.set_cons_zero, List.set_cons_succ])
            refine wpG_take _ (.int .i64 (k : Int)) rfl (by rfl) (fun X hX => by first | rfl | go_simp) ?_
            (try simp only [Act.put, List.setIfInBounds_toArray, List.set_cons_zero, List.set_cons_succ])
            refine wpG_take _ (.pointer (some ⟨g9, k * 41, none⟩)) rfl (by rfl) (fun X hX => by first | rfl | go_simp) ?_
            (try simp only [Act.put, List.setIfInBounds_toArray, List.set_cons_zero, List.set_cons_succ])
            refine wpG_take _ (.agg (pcells p).toArray) rfl (by rfl) (fun X hX => ex_ldE HWO.out hX.c HWA.out (Nat.mul_comm k 41) rfl rfl) ?_
            (try simp only [Act.put, List.setIfInBounds_toArray, List.set_cons_zero, List.set_cons_succ])
            refine wpG_take _ (.agg (pcells p).toArray) rfl (by rfl) (fun X hX => ex_ldP HPO.out hX.b rfl rfl) ?_
            (try simp only [Act.put, List.setIfInBounds_toArray, List.set_cons_zero, List.set_cons_succ])
            refine wpG_take _ (.bool false) rfl (by rfl) (fun X hX => ex_neP1 rfl rfl rfl HPO.out) ?_
            (try simp only [Act.put, List.setIfInBounds_toArray, List.set_cons_zero, List.set_cons_succ])
            refine wpG_take _ (.bool false) rfl (by rfl) (fun X hX => by first | rfl | go_simp) ?_
            (try simp only [Act.put, List.setIfInBounds_toArray, List.set_cons_zero, List.set_cons_succ])
            refine wpG_take _ (.bool false) rfl (by rfl) (fun X hX => by first | rfl | go_simp) ?_
            (try simp only [Act.put, List.setIfInBounds_toArray, List.set_cons_zero, List.set_cons_succ])
            refine wpG_take _ (.int .i64 (k : Int)) rfl (by rfl) (fun X hX => by first | rfl | go_simp) ?_
            (try simp only [Act.put, List.setIfInBounds_toArray, List.set_cons_zero, List.set_cons_succ])
            refine wpG_take _ (.int .i64 (k : Int)) rfl (by rfl) (fun X hX => by first | rfl | go_simp) ?_
            (try simp only [Act.put, List.setIfInBounds_toArray, List.set_cons_zero, List.set_cons_succ])
            refine wpG_take _ (.bool false) rfl (by rfl) (fun X hX => by first | rfl | go_simp) ?_
            (try simp only [Act.put, List.setIfInBounds_toArray, List.set_cons_zero, List.set_cons_succ])
            refine wpG_take _ (.bool false) rfl (by rfl) (fun X hX => by first | rfl | go_simp) ?_
            (try simp only [Act.put, List.setIfInBounds_toArray, List.set_cons_zero, List.set_cons_succ])
            refine wpG_pass _ rfl (by rfl) ?_
            (try simp only [Act.put, List.setIfInBounds_toArray, List.set_cons_zero, List.set_cons_succ])
            refine wpG_pass _ rfl (by rfl) ?_
            (try simp only [Act.put, List.setIfInBounds_toArray, List.set_cons_zero, List.set_cons_succ])
            refine wpG_pass _ rfl (by rfl) ?_
            (try simp only [Act.put, List.setIfInBounds_toArray, List.set_cons_zero, List.set_cons_succ])
            refine wpG_pass _ rfl (by rfl) ?_
            (try simp only [Act.put, List.setIfInBounds_toArray, List.set_cons_zero, List.set_cons_succ])
            refine wpG_pass _ rfl (by rfl) ?_
            (try simp only [Act.put, List.setIfInBounds_toArray, List.set_cons_zero, List.set_cons_succ])
            refine wpG_pass _ rfl (by rfl) ?_
            (try simp only [Act.put, List.setIfInBounds_toArray, List.set_cons_zero, List.set_cons_succ])
            refine wpG_pass _ rfl (by rfl) ?_
            (try simp only [Act.put, List.setIfInBounds_toArray, List.set_cons_zero, List.set_cons_succ])
            refine wpG_take _ (.bool false) rfl (by rfl) (fun X hX => by first | rfl | go_simp) ?_
            (try simp only [Act.put, List.setIfInBounds_toArray, List.set_cons_zero, List.set_cons_succ])
            refine wpG_take _ (.bool false) rfl (by rfl) (fun X hX => by first | rfl | go_simp) ?_
            (try simp only [Act.put, List.setIfInBounds_toArray, List.set_cons_zero, List.set_cons_succ])
            refine wpG_nil ?_
            have HWD := Lib.hid HW.out.drew
            clear HW HWA HAT HQO
            go_wp2_with fail
            go_roundw
            case rel => exact ⟨k + 1, by omega, by go_num, HWD.out⟩
            case measure => simp [intOf]; omega
          · have HWA : Hid ((withN ns i p)[k]? = some q) := Lib.hid ((withN_not hik p).trans HAT.out)
            have hik2 : ((k : Int) == i) = false := by rw [beq_eq_false_iff_ne]; exact hik
            have hik3 : ((k : Int) != i) = true := by rw [bne_iff_ne]; exact hik
            go_upto_region 18 with fail
            refine wp_region_sched (.take 0 (.take 1 (.take 2 (.take 3 (.take 4 (.take 5 (.take 6 (.take 7 (.take 8 (.take 9 (.take 10 (.take 11 (.take 12 (.take 13 (.take 14 (.take 15 (.take 16 (.take 17 (.take 18 (.take 19 (.take 20 (.take 21 (.take 22 (.take 23 (.nil))))))))))))))))))))))))) (by kernel_rfl) (by kernel_rfl) (fun d _ _ _ _ h => by cases d <;> exact h) (LbW ns (withN ns i p) p w g9) HW.out.drew ?_
            refine wpG_take _ (.int .i64 (k : Int)) rfl (by rfl) (fun X hX => by first | rfl | go_simp) ?_
            (try simp only [Act.put, List.setIfInBounds_toArray, List.set_cons_zero, List.set_cons_succ])
            refine wpG_take _ (.int .i64 i) rfl (by rfl) (fun X hX => by first | rfl | go_simp) ?_
            (try simp only [Act.put, List.setIfInBounds_toArray, List.set_cons_zero, List.set_cons_succ])
            refine wpG_take _ (.bool false) rfl (by rfl) (fun X hX => by first | rfl | go_simp) ?_
            (try simp only [Act.put, List.setIfInBounds_toArray, List.set_cons_zero, List.set_cons_succ])
            refine wpG_take _ (.bool false) rfl (by rfl) (fun X hX => by first | rfl | go_simp) ?_
            (try simp only [Act.put, List.setIfInBounds_toArray, List.set_cons_zero, List.set_cons_succ])
            refine wpG_pass _ rfl (by rfl) ?_
            (try simp only [Act.put, List.setIfInBounds_toArray, List.set_cons_zero, List.set_cons_succ])
            refine wpG_pass _ rfl (by rfl) ?_
            (try simp only [Act.put, List.setIfInBounds_toArray, List.set_cons_zero, List.set_cons_succ])
            refine wpG_pass _ rfl (by rfl) ?_
            (try simp only [Act.put, List.setIfInBounds_toArray, List.set_cons_zero, List.set_cons_succ])
            refine wpG_pass _ rfl (by rfl) ?_
            (try simp only [Act.put, List.setIfInBounds_toArray, List.set_cons_zero, List.set_cons_succ])
            refine wpG_pass _ rfl (by rfl) ?_
            (try simp only [Act.put, List.setIfInBounds_toArray, List.set_cons_zero, List.set_cons_succ])
            refine wpG_take _ (.bool false) rfl (by rfl) (fun X hX => by first | rfl | go_simp) ?_
            (try simp only [Act.put, List.setIfInBounds_toArray, List.set_cons_zero, List.set_cons_succ])
            refine wpG_take _ (.bool false) rfl (by rfl) (fun X hX => by first | rfl | go_simp) ?_
            (try simp only [Act.put, List.setIfInBounds_toArray, List.set_cons_zero, List.set_cons_succ])
            refine wpG_take _ (.int .i64 (k : Int)) rfl (by rfl) (fun X hX => by first | rfl | go_simp) ?_
            (try simp only [Act.put, List.setIfInBounds_toArray, List.set_cons_zero, List.set_cons_succ])
            refine wpG_take _ (.int .i64 i) rfl (by rfl) (fun X hX => by first | rfl | go_simp) ?_
            (try simp only [Act.put, List.setIfInBounds_toArray, List.set_cons_zero, List.set_cons_succ])
            refine wpG_take _ (.bool true) rfl (by rfl) (fun X hX => by first | rfl | go_simp) ?_
            (try simp only [Act.put, List.setIfInBounds_toArray, List.set_cons_zero, List.set_cons_succ])
            refine wpG_take _ (.bool true) rfl (by rfl) (fun X hX => by first | rfl | go_simp) ?_
            (try simp only [Act.put, List.setIfInBounds_toArray, List.set_cons_zero, List.set_cons_succ])
            refine wpG_take _ (.int .i64 (k : Int)) rfl (by rfl) (fun X hX => by first | rfl | go_simp) ?_
            (try simp only [Act.put, List.setIfInBounds_toArray, List.set_cons_zero, List.set_cons_succ])
            refine wpG_take _ (.pointer (some ⟨g9, k * 41, none⟩)) rfl (by rfl) (fun X hX => by first | rfl | go_simp) ?_
            (try simp only [Act.put, List.setIfInBounds_toArray, List.set_cons_zero, List.set_cons_succ])
            refine wpG_take _ (.agg (pcells q).toArray) rfl (by rfl) (fun X hX => ex_ldE HWO.out hX.c HWA.out (Nat.mul_comm k 41) rfl rfl) ?_
            (try simp only [Act.put, List.setIfInBounds_toArray, List.set_cons_zero, List.set_cons_succ])
            refine wpG_take _ (.int .i64 (k : Int)) rfl (by rfl) (fun X hX => by first | rfl | go_simp) ?_
            (try simp only [Act.put, List.setIfInBounds_toArray, List.set_cons_zero, List.set_cons_succ])
            refine wpG_take _ (.pointer (some ⟨w.heap.size, k * 41, none⟩)) rfl (by rfl) (fun X hX => by first | rfl | go_simp) ?_
            (try simp only [Act.put, List.setIfInBounds_toArray, List.set_cons_zero, List.set_cons_succ])
            refine wpG_take _ (.agg (pcells q).toArray) rfl (by rfl) (fun X hX => ex_ldE HP.out hX.a HAT.out (Nat.mul_comm k 41) rfl rfl) ?_
            (try simp only [Act.put, List.setIfInBounds_toArray, List.set_cons_zero, List.set_cons_succ])
            refine wpG_take _ (.bool false) rfl (by rfl) (fun X hX => ex_neP1 rfl rfl rfl HQO.out) ?_
            (try simp only [Act.put, List.setIfInBounds_toArray, List.set_cons_zero, List.set_cons_succ])
            refine wpG_take _ (.bool false) rfl (by rfl) (fun X hX => by first | rfl | go_simp) ?_
            (try simp only [Act.put, List.setIfInBounds_toArray, List.set_cons_zero, List.set_cons_succ])
            refine wpG_take _ (.bool false) rfl (by rfl) (fun X hX => by first | rfl | go_simp) ?_
            (try simp only [Act.put, List.setIfInBounds_toArray, List.set_cons_zero, List.set_cons_succ])
            refine wpG_nil ?_
            have HWD := Lib.hid HW.out.drew
            clear HW HWA HAT HQO
            go_wp2_with fail
            go_roundw
            case rel => exact ⟨k + 1, by omega, by go_num, HWD.out⟩
            case measure => simp [intOf]; omega
        · obtain rfl : k = 8 := by omega
          rw [show ((8 : Nat) : Int) = (8 : Int) from rfl]
          clear hk hlt
          go_wp2_with fail
          refine (HWK.out _ HW.out.bel HW.out.tab).mono ?_
          rintro e w6 ⟨rfl, hb6⟩
          have HB6 := Lib.hid hb6
          clear hb6 HW
          go_wp2_with fail
          go_ret
          exact ⟨rfl, HB6.out⟩
  · obtain ⟨hok, rfl⟩ := h5
    have HXz := Lib.hid (HX1.out.grown hb2)
    have HNz := Lib.hid (HN1.out.below hb2 HN1.out.lt)
    clear hok hb2 HX1 HN1 HPU
    go_upto_region 9 with fail
    go_wp2_with fail
    refine (HTK.out _ HXz.out.src HXz.out.tab).mono ?_
    rintro e W5 ⟨rfl, hb5⟩
    have HX5 := Lib.hid (HXz.out.grown hb5)
    have HN5 := Lib.hid (HNz.out.below hb5 HNz.out.lt)
    clear hb5 HXz HNz HTK
    go_upto_region 10 with (first | (refine wpList_store_row rfl 35 (.tmp 14) (.tmp 47) rfl W5.heap.size (ncells (nodeT l)).toArray rfl rfl 35 _ (heap_alloc_new W5 _) HST.out (by rw [HSC.out]; rfl) HOT.out ?_) | fail)
    refine (fun (k : ∀ W, Blk W W5.heap.size (ncells (nodeT l)) 35 → Below W5.heap.size W5 W → Code.wp _ _ _ _ W) => k _ (blk_row1 W5 _ (ncells (nodeT l)) 35).1 (blk_row1 W5 _ (ncells (nodeT l)) 35).2) ?_
    intro W6 hn6 hb6
    obtain ⟨g6, hg6⟩ : ∃ g, W5.heap.size = g := ⟨_, rfl⟩
    have HX6 := Lib.hid (HX5.out.grown hb6)
    have HN6 := Lib.hid (HN5.out.below hb6 HN5.out.lt)
    rw [hg6] at hn6 ⊢
    have HM6 := Lib.hid hn6
    clear hn6 hb6 hg6 HX5 HN5
    by_cases h0 : nodeE l = 0
    · have htb := take_back h0
      have HTB := Lib.hid htb
      rw [h0, show ((0 : Nat) : Int) = (0 : Int) from rfl]
      clear htb h0
      have HP7 := Lib.hid (nodePut_any (nodeT l) HTO.out W6 HX6.out.tab)
      go_wp2_with (first | (refine wpL_val rfl (ex_ldN HTO.out HM6.out rfl rfl) ?_) | fail)
      refine HP7.out.mono ?_
      rintro e W7 ⟨h7 | h7, hb7⟩
      rotate_left
      · exact absurd (h7.1.symm.trans HTB.out.1) (by decide)
      obtain ⟨-, v7, rfl, ho7⟩ := h7
      rw [HTB.out.2] at ho7
      obtain ⟨sp7, cap7, rfl, -, -, r3, -, -⟩ := OwnB.form ho7
      have HS7 := Lib.hid r3
      have HX7 := Lib.hid (HX6.out.grown hb7)
      have HN7 := Lib.hid (HN6.out.below hb7 HN6.out.lt)
      rw [HL.out]
      clear ho7 r3 hb7 HX6 HN6 HM6 HP7
      go_wp2_with (first | (refine wpL_valG (by rfl) (ex_cvs rfl HL.out rfl HS7.out) ?_) | (refine wpL_valG (by rfl) (ex_cvs rfl HL.out rfl HX7.out.src) ?_) | (refine wpL_valG (by rfl) (ex_neSt rfl rfl rfl) ?_) | (refine wpL_val rfl (ex_ldN HP.out HN7.out rfl rfl) ?_) | (refine wpL_val rfl (ex_ldP HPO.out HX7.out.b rfl rfl) ?_) | fail)
      refine (with_any ns HP.out i p HPO.out W7).mono ?_
      rintro e W8 ⟨rfl, hb8⟩
      have HX8 := Lib.hid (HX7.out.grown hb8)
      clear hb8 HX7 HN7
      go_upto_region 15 with (first | (refine wpList_store_row rfl 35 (.tmp 18) (.tmp 68) rfl W8.heap.size (ncells (withN ns i p)).toArray rfl rfl 35 _ (heap_alloc_new W8 _) HSW.out (by rw [HSB.out]; rfl) HOW.out ?_) | fail)
      refine (fun (k : ∀ W, Blk W W8.heap.size (ncells (withN ns i p)) 35 → Below W8.heap.size W8 W → Code.wp _ _ _ _ W) => k _ (blk_row1 W8 _ (ncells (withN ns i p)) 35).1 (blk_row1 W8 _ (ncells (withN ns i p)) 35).2) ?_
      intro W9 hn9 hb9
      obtain ⟨g9, hg9⟩ : ∃ g, W8.heap.size = g := ⟨_, rfl⟩
      have hx9 := HX8.out.grown hb9
      rw [hg9] at hn9 ⊢
      have HR : Hid (LbRel ns i p w g9 (.int .i64 0) W9) := Lib.hid ⟨0, by omega, rfl, hx9.a, hx9.b, hn9, hx9.tab, hx9.bel⟩
      clear hx9 hn9 hb9 hg9 HX8 HTO HST HSC HOT HSN HSA HON HSW HSB HOW
      go_wp2_with fail
      go_loopw [19] (fun v wr => LbRel ns i p w g9 v wr) (fun v _ => 8 - (intOf v).toNat)
      case atStart => exact HR.out
      case round =>
        clear HR
        obtain ⟨k, hk, rfl, hW⟩ := hrel
        have HW := Lib.hid hW
        clear hW
        have wk1 := IntWalk.i64_in ((k : Int) + 1) (by omega)
        by_cases hlt : k < 8
        · obtain ⟨q, hq⟩ := HP.out.get hlt
          have HQO := Lib.hid (HP.out.at hq)
          have HAT := Lib.hid hq
          clear hq
          have h0k : (0 : Int) ≤ (k : Int) := by omega
          have hk8 : (k : Int) < 8 := by omega
          by_cases hik : (k : Int) = i
          · subst hik
            have HWA := Lib.hid (withN_at HP.out hlt p)
            go_upto_region 18 with fail
            refine wp_region_sched (.take 0 (.take 1 (.take 2 (.take 3 (.take 4 (.take 5 (.take 6 (.take 7 (.take 8 (.take 9 (.take 10 (.take 11 (.take 12 (.take 13 (.take 14 (.take 15 (.take 16 (.take 17 (.take 18 (.take 19 (.take 20 (.take 21 (.take 22 (.take 23 (.nil))))))))))))))))))))))))) (by kernel_rfl) (by kernel_rfl) (fun d _ _ _ _ h => by cases d <;> exact h) (LbW ns (withN ns (k : Int) p) p w g9) HW.out.drew ?_
            refine wpG_take _ (.int .i64 (k : Int)) rfl (by rfl) (fun X hX => by first | rfl | go_simp) ?_
            (try simp only [Act.put, List.setIfInBounds_toArray, List.set_cons_zero, List.set_cons_succ])
            refine wpG_take _ (.int .i64 (k : Int)) rfl (by rfl) (fun X hX => by first | rfl | go_simp) ?_
            (try simp only [Act.put, List.setIfInBounds_toArray, List.set_cons_zero, List.set_cons_succ])
            refine wpG_take _ (.bool true) rfl (by rfl) (fun X hX => by first | rfl | go_simp) ?_
            (try simp only [Act.put, List.setIfInBounds_toArray, List.set_cons_zero, List.set_cons_succ])
            refine wpG_take _ (.bool true) rfl (by rfl) (fun X hX => by first | rfl | go_simp) ?_
            (try simp only [Act.put, List.setIfInBounds_toArray, List.set_cons_zero, List.set_cons_succ])
            refine wpG_take _ (.int .i64 (k : Int)) rfl (by rfl) (fun X hX => by first | rfl | go_simp) ?_
            (try simp only [Act.put, List.setIfInBounds_toArray, List.set_cons_zero, List.set_cons_succ])
            refine wpG_take _ (.pointer (some ⟨g9, k * 41, none⟩)) rfl (by rfl) (fun X hX => by first | rfl | go_simp) ?_
            (try simp only [Act.put, List.setIfInBounds_toArray, List.set_cons_zero, List.set_cons_succ])
            refine wpG_take _ (.agg (pcells p).toArray) rfl (by rfl) (fun X hX => ex_ldE HWO.out hX.c HWA.out (Nat.mul_comm k 41) rfl rfl) ?_
            (try simp only [Act.put, List.setIfInBounds_toArray, List.set_cons_zero, List.set_cons_succ])
            refine wpG_take _ (.agg (pcells p).toArray) rfl (by rfl) (fun X hX => ex_ldP HPO.out hX.b rfl rfl) ?_
            (try simp only [Act.put, List.setIfInBounds_toArray, List.set_cons_zero, List.set_cons_succ])
            refine wpG_take _ (.bool false) rfl (by rfl) (fun X hX => ex_neP1 rfl rfl rfl HPO.out) ?_
            (try simp only [Act.put, List.setIfInBounds_toArray, List.set_cons_zero, List.set_cons_succ])
            refine wpG_take _ (.bool false) rfl (by rfl) (fun X hX => by first | rfl | go_simp) ?_
            (try simp only [Act.put, List.setIfInBounds_toArray, List.set_cons_zero, List.set_cons_succ])
            refine wpG_take _ (.bool false) rfl (by rfl) (fun X hX => by first | rfl | go_simp) ?_
            (try simp only [Act.put, List.setIfInBounds_toArray, List.set_cons_zero, List.set_cons_succ])
            refine wpG_take _ (.int .i64 (k : Int)) rfl (by rfl) (fun X hX => by first | rfl | go_simp) ?_
            (try simp only [Act.put, List.setIfInBounds_toArray, List.set_cons_zero, List.set_cons_succ])
            refine wpG_take _ (.int .i64 (k : Int)) rfl (by rfl) (fun X hX => by first | rfl | go_simp) ?_
            (try simp only [Act.put, List.setIfInBounds_toArray, List.set_cons_zero, List.set_cons_succ])
            refine wpG_take _ (.bool false) rfl (by rfl) (fun X hX => by first | rfl | go_simp) ?_
            (try simp only [Act.put, List.setIfInBounds_toArray, List.set_cons_zero, List.set_cons_succ])
            refine wpG_take _ (.bool false) rfl (by rfl) (fun X hX => by first | rfl | go_simp) ?_
            (try simp only [Act.put, List.setIfInBounds_toArray, List.set_cons_zero, List.set_cons_succ])
            refine wpG_pass _ rfl (by rfl) ?_
            (try simp only [Act.put, List.setIfInBounds_toArray, List.set_cons_zero, List.set_cons_succ])
            refine wpG_pass _ rfl (by rfl) ?_
            (try simp only [Act.put, List.setIfInBounds_toArray, List.set_cons_zero, List.set_cons_succ])
            refine wpG_pass _ rfl (by rfl) ?_
            (try simp only [Act.put, List.setIfInBounds_toArray, List.set_cons_zero, List.set_cons_succ])
            refine wpG_pass _ rfl (by rfl) ?_
            (try simp only [Act.put, List.setIfInBounds_toArray, List.set_cons_zero, List.set_cons_succ])
            refine wpG_pass _ rfl (by rfl) ?_
            (try simp only [Act.put, List.setIfInBounds_toArray, List.set_cons_zero, List.set_cons_succ])
            refine wpG_pass _ rfl (by rfl) ?_
            (try simp only [Act.put, List.setIfInBounds_toArray, List.set_cons_zero, List.set_cons_succ])
            refine wpG_pass _ rfl (by rfl) ?_
            (try simp only [Act.put, List.setIfInBounds_toArray, List.set_cons_zero, List.set_cons_succ])
            refine wpG_take _ (.bool false) rfl (by rfl) (fun X hX => by first | rfl | go_simp) ?_
            (try simp only [Act.put, List.setIfInBounds_toArray, List.set_cons_zero, List.set_cons_succ])
            refine wpG_take _ (.bool false) rfl (by rfl) (fun X hX => by first | rfl | go_simp) ?_
            (try simp only [Act.put, List.setIfInBounds_toArray, List.set_cons_zero, List.set_cons_succ])
            refine wpG_nil ?_
            have HWD := Lib.hid HW.out.drew
            clear HW HWA HAT HQO
            go_wp2_with fail
            go_roundw
            case rel => exact ⟨k + 1, by omega, by go_num, HWD.out⟩
            case measure => simp [intOf]; omega
          · have HWA : Hid ((withN ns i p)[k]? = some q) := Lib.hid ((withN_not hik p).trans HAT.out)
            have hik2 : ((k : Int) == i) = false := by rw [beq_eq_false_iff_ne]; exact hik
            have hik3 : ((k : Int) != i) = true := by rw [bne_iff_ne]; exact hik
            go_upto_region 18 with fail
            refine wp_region_sched (.take 0 (.take 1 (.take 2 (.take 3 (.take 4 (.take 5 (.take 6 (.take 7 (.take 8 (.take 9 (.take 10 (.take 11 (.take 12 (.take 13 (.take 14 (.take 15 (.take 16 (.take 17 (.take 18 (.take 19 (.take 20 (.take 21 (.take 22 (.take 23 (.nil))))))))))))))))))))))))) (by kernel_rfl) (by kernel_rfl) (fun d _ _ _ _ h => by cases d <;> exact h) (LbW ns (withN ns i p) p w g9) HW.out.drew ?_
            refine wpG_take _ (.int .i64 (k : Int)) rfl (by rfl) (fun X hX => by first | rfl | go_simp) ?_
            (try simp only [Act.put, List.setIfInBounds_toArray, List.set_cons_zero, List.set_cons_succ])
            refine wpG_take _ (.int .i64 i) rfl (by rfl) (fun X hX => by first | rfl | go_simp) ?_
            (try simp only [Act.put, List.setIfInBounds_toArray, List.set_cons_zero, List.set_cons_succ])
            refine wpG_take _ (.bool false) rfl (by rfl) (fun X hX => by first | rfl | go_simp) ?_
            (try simp only [Act.put, List.setIfInBounds_toArray, List.set_cons_zero, List.set_cons_succ])
            refine wpG_take _ (.bool false) rfl (by rfl) (fun X hX => by first | rfl | go_simp) ?_
            (try simp only [Act.put, List.setIfInBounds_toArray, List.set_cons_zero, List.set_cons_succ])
            refine wpG_pass _ rfl (by rfl) ?_
            (try simp only [Act.put, List.setIfInBounds_toArray, List.set_cons_zero, List.set_cons_succ])
            refine wpG_pass _ rfl (by rfl) ?_
            (try simp only [Act.put, List.setIfInBounds_toArray, List.set_cons_zero, List.set_cons_succ])
            refine wpG_pass _ rfl (by rfl) ?_
            (try simp only [Act.put, List.setIfInBounds_toArray, List.set_cons_zero, List.set_cons_succ])
            refine wpG_pass _ rfl (by rfl) ?_
            (try simp only [Act.put, List.setIfInBounds_toArray, List.set_cons_zero, List.set_cons_succ])
            refine wpG_pass _ rfl (by rfl) ?_
            (try simp only [Act.put, List.setIfInBounds_toArray, List.set_cons_zero, List.set_cons_succ])
            refine wpG_take _ (.bool false) rfl (by rfl) (fun X hX => by first | rfl | go_simp) ?_
            (try simp only [Act.put, List.setIfInBounds_toArray, List.set_cons_zero, List.set_cons_succ])
            refine wpG_take _ (.bool false) rfl (by rfl) (fun X hX => by first | rfl | go_simp) ?_
            (try simp only [Act.put, List.setIfInBounds_toArray, List.set_cons_zero, List.set_cons_succ])
            refine wpG_take _ (.int .i64 (k : Int)) rfl (by rfl) (fun X hX => by first | rfl | go_simp) ?_
            (try simp only [Act.put, List.setIfInBounds_toArray, List.set_cons_zero, List.set_cons_succ])
            refine wpG_take _ (.int .i64 i) rfl (by rfl) (fun X hX => by first | rfl | go_simp) ?_
            (try simp only [Act.put, List.setIfInBounds_toArray, List.set_cons_zero, List.set_cons_succ])
            refine wpG_take _ (.bool true) rfl (by rfl) (fun X hX => by first | rfl | go_simp) ?_
            (try simp only [Act.put, List.setIfInBounds_toArray, List.set_cons_zero, List.set_cons_succ])
            refine wpG_take _ (.bool true) rfl (by rfl) (fun X hX => by first | rfl | go_simp) ?_
            (try simp only [Act.put, List.setIfInBounds_toArray, List.set_cons_zero, List.set_cons_succ])
            refine wpG_take _ (.int .i64 (k : Int)) rfl (by rfl) (fun X hX => by first | rfl | go_simp) ?_
            (try simp only [Act.put, List.setIfInBounds_toArray, List.set_cons_zero, List.set_cons_succ])
            refine wpG_take _ (.pointer (some ⟨g9, k * 41, none⟩)) rfl (by rfl) (fun X hX => by first | rfl | go_simp) ?_
            (try simp only [Act.put, List.setIfInBounds_toArray, List.set_cons_zero, List.set_cons_succ])
            refine wpG_take _ (.agg (pcells q).toArray) rfl (by rfl) (fun X hX => ex_ldE HWO.out hX.c HWA.out (Nat.mul_comm k 41) rfl rfl) ?_
            (try simp only [Act.put, List.setIfInBounds_toArray, List.set_cons_zero, List.set_cons_succ])
            refine wpG_take _ (.int .i64 (k : Int)) rfl (by rfl) (fun X hX => by first | rfl | go_simp) ?_
            (try simp only [Act.put, List.setIfInBounds_toArray, List.set_cons_zero, List.set_cons_succ])
            refine wpG_take _ (.pointer (some ⟨w.heap.size, k * 41, none⟩)) rfl (by rfl) (fun X hX => by first | rfl | go_simp) ?_
            (try simp only [Act.put, List.setIfInBounds_toArray, List.set_cons_zero, List.set_cons_succ])
            refine wpG_take _ (.agg (pcells q).toArray) rfl (by rfl) (fun X hX => ex_ldE HP.out hX.a HAT.out (Nat.mul_comm k 41) rfl rfl) ?_
            (try simp only [Act.put, List.setIfInBounds_toArray, List.set_cons_zero, List.set_cons_succ])
            refine wpG_take _ (.bool false) rfl (by rfl) (fun X hX => ex_neP1 rfl rfl rfl HQO.out) ?_
            (try simp only [Act.put, List.setIfInBounds_toArray, List.set_cons_zero, List.set_cons_succ])
            refine wpG_take _ (.bool false) rfl (by rfl) (fun X hX => by first | rfl | go_simp) ?_
            (try simp only [Act.put, List.setIfInBounds_toArray, List.set_cons_zero, List.set_cons_succ])
            refine wpG_take _ (.bool false) rfl (by rfl) (fun X hX => by first | rfl | go_simp) ?_
            (try simp only [Act.put, List.setIfInBounds_toArray, List.set_cons_zero, List.set_cons_succ])
            refine wpG_nil ?_
            have HWD := Lib.hid HW.out.drew
            clear HW HWA HAT HQO
            go_wp2_with fail
            go_roundw
            case rel => exact ⟨k + 1, by omega, by go_num, HWD.out⟩
            case measure => simp [intOf]; omega
        · obtain rfl : k = 8 := by omega
          rw [show ((8 : Nat) : Int) = (8 : Int) from rfl]
          clear hk hlt
          go_wp2_with fail
          refine (HWK.out _ HW.out.bel HW.out.tab).mono ?_
          rintro e w6 ⟨rfl, hb6⟩
          have HB6 := Lib.hid hb6
          clear hb6 HW
          go_wp2_with fail
          go_ret
          exact ⟨rfl, HB6.out⟩
    · have hE5 : nodeE l = 5 := (nodeE_five l).resolve_left h0
      rw [hE5, show ((5 : Nat) : Int) = (5 : Int) from rfl]
      clear hE5 h0
      have HX7 := Lib.hid HX6.out; have HN7 := Lib.hid HN6.out
      obtain ⟨W7, eW⟩ : ∃ W, W = W6 := ⟨_, rfl⟩
      rw [← eW] at HX7 HN7 ⊢
      clear eW HX6 HN6 HM6
      go_wp2_with (first | (refine wpL_val rfl (ex_ldN HP.out HN7.out rfl rfl) ?_) | (refine wpL_val rfl (ex_ldP HPO.out HX7.out.b rfl rfl) ?_) | fail)
      refine (with_any ns HP.out i p HPO.out W7).mono ?_
      rintro e W8 ⟨rfl, hb8⟩
      have HX8 := Lib.hid (HX7.out.grown hb8)
      clear hb8 HX7 HN7
      go_upto_region 15 with (first | (refine wpList_store_row rfl 35 (.tmp 18) (.tmp 68) rfl W8.heap.size (ncells (withN ns i p)).toArray rfl rfl 35 _ (heap_alloc_new W8 _) HSW.out (by rw [HSB.out]; rfl) HOW.out ?_) | fail)
      refine (fun (k : ∀ W, Blk W W8.heap.size (ncells (withN ns i p)) 35 → Below W8.heap.size W8 W → Code.wp _ _ _ _ W) => k _ (blk_row1 W8 _ (ncells (withN ns i p)) 35).1 (blk_row1 W8 _ (ncells (withN ns i p)) 35).2) ?_
      intro W9 hn9 hb9
      obtain ⟨g9, hg9⟩ : ∃ g, W8.heap.size = g := ⟨_, rfl⟩
      have hx9 := HX8.out.grown hb9
      rw [hg9] at hn9 ⊢
      have HR : Hid (LbRel ns i p w g9 (.int .i64 0) W9) := Lib.hid ⟨0, by omega, rfl, hx9.a, hx9.b, hn9, hx9.tab, hx9.bel⟩
      clear hx9 hn9 hb9 hg9 HX8 HTO HST HSC HOT HSN HSA HON HSW HSB HOW
      go_wp2_with fail
      go_loopw [19] (fun v wr => LbRel ns i p w g9 v wr) (fun v _ => 8 - (intOf v).toNat)
      case atStart => exact HR.out
      case round =>
        clear HR
        obtain ⟨k, hk, rfl, hW⟩ := hrel
        have HW := Lib.hid hW
        clear hW
        have wk1 := IntWalk.i64_in ((k : Int) + 1) (by omega)
        by_cases hlt : k < 8
        · obtain ⟨q, hq⟩ := HP.out.get hlt
          have HQO := Lib.hid (HP.out.at hq)
          have HAT := Lib.hid hq
          clear hq
          have h0k : (0 : Int) ≤ (k : Int) := by omega
          have hk8 : (k : Int) < 8 := by omega
          by_cases hik : (k : Int) = i
          · subst hik
            have HWA := Lib.hid (withN_at HP.out hlt p)
            go_upto_region 18 with fail
            refine wp_region_sched (.take 0 (.take 1 (.take 2 (.take 3 (.take 4 (.take 5 (.take 6 (.take 7 (.take 8 (.take 9 (.take 10 (.take 11 (.take 12 (.take 13 (.take 14 (.take 15 (.take 16 (.take 17 (.take 18 (.take 19 (.take 20 (.take 21 (.take 22 (.take 23 (.nil))))))))))))))))))))))))) (by kernel_rfl) (by kernel_rfl) (fun d _ _ _ _ h => by cases d <;> exact h) (LbW ns (withN ns (k : Int) p) p w g9) HW.out.drew ?_
            refine wpG_take _ (.int .i64 (k : Int)) rfl (by rfl) (fun X hX => by first | rfl | go_simp) ?_
            (try simp only [Act.put, List.setIfInBounds_toArray, List.set_cons_zero, List.set_cons_succ])
            refine wpG_take _ (.int .i64 (k : Int)) rfl (by rfl) (fun X hX => by first | rfl | go_simp) ?_
            (try simp only [Act.put, List.setIfInBounds_toArray, List.set_cons_zero, List.set_cons_succ])
            refine wpG_take _ (.bool true) rfl (by rfl) (fun X hX => by first | rfl | go_simp) ?_
            (try simp only [Act.put, List.setIfInBounds_toArray, List.set_cons_zero, List.set_cons_succ])
            refine wpG_take _ (.bool true) rfl (by rfl) (fun X hX => by first | rfl | go_simp) ?_
            (try simp only [Act.put, List.setIfInBounds_toArray, List.set_cons_zero, List.set_cons_succ])
            refine wpG_take _ (.int .i64 (k : Int)) rfl (by rfl) (fun X hX => by first | rfl | go_simp) ?_
            (try simp only [Act.put, List.setIfInBounds_toArray, List.set_cons_zero, List.set_cons_succ])
            refine wpG_take _ (.pointer (some ⟨g9, k * 41, none⟩)) rfl (by rfl) (fun X hX => by first | rfl | go_simp) ?_
            (try simp only [Act.put, List.setIfInBounds_toArray, List.set_cons_zero, List.set_cons_succ])
            refine wpG_take _ (.agg (pcells p).toArray) rfl (by rfl) (fun X hX => ex_ldE HWO.out hX.c HWA.out (Nat.mul_comm k 41) rfl rfl) ?_
            (try simp only [Act.put, List.setIfInBounds_toArray, List.set_cons_zero, List.set_cons_succ])
            refine wpG_take _ (.agg (pcells p).toArray) rfl (by rfl) (fun X hX => ex_ldP HPO.out hX.b rfl rfl) ?_
            (try simp only [Act.put, List.setIfInBounds_toArray, List.set_cons_zero, List.set_cons_succ])
            refine wpG_take _ (.bool false) rfl (by rfl) (fun X hX => ex_neP1 rfl rfl rfl HPO.out) ?_
            (try simp only [Act.put, List.setIfInBounds_toArray, List.set_cons_zero, List.set_cons_succ])
            refine wpG_take _ (.bool false) rfl (by rfl) (fun X hX => by first | rfl | go_simp) ?_
            (try simp only [Act.put, List.setIfInBounds_toArray, List.set_cons_zero, List.set_cons_succ])
            refine wpG_take _ (.bool false) rfl (by rfl) (fun X hX => by first | rfl | go_simp) ?_
            (try simp only [Act.put, List.setIfInBounds_toArray, List.set_cons_zero, List.set_cons_succ])
            refine wpG_take _ (.int .i64 (k : Int)) rfl (by rfl) (fun X hX => by first | rfl | go_simp) ?_
            (try simp only [Act.put, List.setIfInBounds_toArray, List.set_cons_zero, List.set_cons_succ])
            refine wpG_take _ (.int .i64 (k : Int)) rfl (by rfl) (fun X hX => by first | rfl | go_simp) ?_
            (try simp only [Act.put, List.setIfInBounds_toArray, List.set_cons_zero, List.set_cons_succ])
            refine wpG_take _ (.bool false) rfl (by rfl) (fun X hX => by first | rfl | go_simp) ?_
            (try simp only [Act.put, List.setIfInBounds_toArray, List.set_cons_zero, List.set_cons_succ])
            refine wpG_take _ (.bool false) rfl (by rfl) (fun X hX => by first | rfl | go_simp) ?_
            (try simp only [Act.put, List.setIfInBounds_toArray, List.set_cons_zero, List.set_cons_succ])
            refine wpG_pass _ rfl (by rfl) ?_
            (try simp only [Act.put, List.setIfInBounds_toArray, List.set_cons_zero, List.set_cons_succ])
            refine wpG_pass _ rfl (by rfl) ?_
            (try simp only [Act.put, List.setIfInBounds_toArray, List.set_cons_zero, List.set_cons_succ])
            refine wpG_pass _ rfl (by rfl) ?_
            (try simp only [Act.put, List.setIfInBounds_toArray, List.set_cons_zero, List.set_cons_succ])
            refine wpG_pass _ rfl (by rfl) ?_
            (try simp only [Act.put, List.setIfInBounds_toArray, List.set_cons_zero, List.set_cons_succ])
            refine wpG_pass _ rfl (by rfl) ?_
            (try simp only [Act.put, List.setIfInBounds_toArray, List.set_cons_zero, List.set_cons_succ])
            refine wpG_pass _ rfl (by rfl) ?_
            (try simp only [Act.put, List.setIfInBounds_toArray, List.set_cons_zero, List.set_cons_succ])
            refine wpG_pass _ rfl (by rfl) ?_
            (try simp only [Act.put, List.setIfInBounds_toArray, List.set_cons_zero, List.set_cons_succ])
            refine wpG_take _ (.bool false) rfl (by rfl) (fun X hX => by first | rfl | go_simp) ?_
            (try simp only [Act.put, List.setIfInBounds_toArray, List.set_cons_zero, List.set_cons_succ])
            refine wpG_take _ (.bool false) rfl (by rfl) (fun X hX => by first | rfl | go_simp) ?_
            (try simp only [Act.put, List.setIfInBounds_toArray, List.set_cons_zero, List.set_cons_succ])
            refine wpG_nil ?_
            have HWD := Lib.hid HW.out.drew
            clear HW HWA HAT HQO
            go_wp2_with fail
            go_roundw
            case rel => exact ⟨k + 1, by omega, by go_num, HWD.out⟩
            case measure => simp [intOf]; omega
          · have HWA : Hid ((withN ns i p)[k]? = some q) := Lib.hid ((withN_not hik p).trans HAT.out)
            have hik2 : ((k : Int) == i) = false := by rw [beq_eq_false_iff_ne]; exact hik
            have hik3 : ((k : Int) != i) = true := by rw [bne_iff_ne]; exact hik
            go_upto_region 18 with fail
            refine wp_region_sched (.take 0 (.take 1 (.take 2 (.take 3 (.take 4 (.take 5 (.take 6 (.take 7 (.take 8 (.take 9 (.take 10 (.take 11 (.take 12 (.take 13 (.take 14 (.take 15 (.take 16 (.take 17 (.take 18 (.take 19 (.take 20 (.take 21 (.take 22 (.take 23 (.nil))))))))))))))))))))))))) (by kernel_rfl) (by kernel_rfl) (fun d _ _ _ _ h => by cases d <;> exact h) (LbW ns (withN ns i p) p w g9) HW.out.drew ?_
            refine wpG_take _ (.int .i64 (k : Int)) rfl (by rfl) (fun X hX => by first | rfl | go_simp) ?_
            (try simp only [Act.put, List.setIfInBounds_toArray, List.set_cons_zero, List.set_cons_succ])
            refine wpG_take _ (.int .i64 i) rfl (by rfl) (fun X hX => by first | rfl | go_simp) ?_
            (try simp only [Act.put, List.setIfInBounds_toArray, List.set_cons_zero, List.set_cons_succ])
            refine wpG_take _ (.bool false) rfl (by rfl) (fun X hX => by first | rfl | go_simp) ?_
            (try simp only [Act.put, List.setIfInBounds_toArray, List.set_cons_zero, List.set_cons_succ])
            refine wpG_take _ (.bool false) rfl (by rfl) (fun X hX => by first | rfl | go_simp) ?_
            (try simp only [Act.put, List.setIfInBounds_toArray, List.set_cons_zero, List.set_cons_succ])
            refine wpG_pass _ rfl (by rfl) ?_
            (try simp only [Act.put, List.setIfInBounds_toArray, List.set_cons_zero, List.set_cons_succ])
            refine wpG_pass _ rfl (by rfl) ?_
            (try simp only [Act.put, List.setIfInBounds_toArray, List.set_cons_zero, List.set_cons_succ])
            refine wpG_pass _ rfl (by rfl) ?_
            (try simp only [Act.put, List.setIfInBounds_toArray, List.set_cons_zero, List.set_cons_succ])
            refine wpG_pass _ rfl (by rfl) ?_
            (try simp only [Act.put, List.setIfInBounds_toArray, List.set_cons_zero, List.set_cons_succ])
            refine wpG_pass _ rfl (by rfl) ?_
            (try simp only [Act.put, List.setIfInBounds_toArray, List.set_cons_zero, List.set_cons_succ])
            refine wpG_take _ (.bool false) rfl (by rfl) (fun X hX => by first | rfl | go_simp) ?_
            (try simp only [Act.put, List.setIfInBounds_toArray, List.set_cons_zero, List.set_cons_succ])
            refine wpG_take _ (.bool false) rfl (by rfl) (fun X hX => by first | rfl | go_simp) ?_
            (try simp only [Act.put, List.setIfInBounds_toArray, List.set_cons_zero, List.set_cons_succ])
            refine wpG_take _ (.int .i64 (k : Int)) rfl (by rfl) (fun X hX => by first | rfl | go_simp) ?_
            (try simp only [Act.put, List.setIfInBounds_toArray, List.set_cons_zero, List.set_cons_succ])
            refine wpG_take _ (.int .i64 i) rfl (by rfl) (fun X hX => by first | rfl | go_simp) ?_
            (try simp only [Act.put, List.setIfInBounds_toArray, List.set_cons_zero, List.set_cons_succ])
            refine wpG_take _ (.bool true) rfl (by rfl) (fun X hX => by first | rfl | go_simp) ?_
            (try simp only [Act.put, List.setIfInBounds_toArray, List.set_cons_zero, List.set_cons_succ])
            refine wpG_take _ (.bool true) rfl (by rfl) (fun X hX => by first | rfl | go_simp) ?_
            (try simp only [Act.put, List.setIfInBounds_toArray, List.set_cons_zero, List.set_cons_succ])
            refine wpG_take _ (.int .i64 (k : Int)) rfl (by rfl) (fun X hX => by first | rfl | go_simp) ?_
            (try simp only [Act.put, List.setIfInBounds_toArray, List.set_cons_zero, List.set_cons_succ])
            refine wpG_take _ (.pointer (some ⟨g9, k * 41, none⟩)) rfl (by rfl) (fun X hX => by first | rfl | go_simp) ?_
            (try simp only [Act.put, List.setIfInBounds_toArray, List.set_cons_zero, List.set_cons_succ])
            refine wpG_take _ (.agg (pcells q).toArray) rfl (by rfl) (fun X hX => ex_ldE HWO.out hX.c HWA.out (Nat.mul_comm k 41) rfl rfl) ?_
            (try simp only [Act.put, List.setIfInBounds_toArray, List.set_cons_zero, List.set_cons_succ])
            refine wpG_take _ (.int .i64 (k : Int)) rfl (by rfl) (fun X hX => by first | rfl | go_simp) ?_
            (try simp only [Act.put, List.setIfInBounds_toArray, List.set_cons_zero, List.set_cons_succ])
            refine wpG_take _ (.pointer (some ⟨w.heap.size, k * 41, none⟩)) rfl (by rfl) (fun X hX => by first | rfl | go_simp) ?_
            (try simp only [Act.put, List.setIfInBounds_toArray, List.set_cons_zero, List.set_cons_succ])
            refine wpG_take _ (.agg (pcells q).toArray) rfl (by rfl) (fun X hX => ex_ldE HP.out hX.a HAT.out (Nat.mul_comm k 41) rfl rfl) ?_
            (try simp only [Act.put, List.setIfInBounds_toArray, List.set_cons_zero, List.set_cons_succ])
            refine wpG_take _ (.bool false) rfl (by rfl) (fun X hX => ex_neP1 rfl rfl rfl HQO.out) ?_
            (try simp only [Act.put, List.setIfInBounds_toArray, List.set_cons_zero, List.set_cons_succ])
            refine wpG_take _ (.bool false) rfl (by rfl) (fun X hX => by first | rfl | go_simp) ?_
            (try simp only [Act.put, List.setIfInBounds_toArray, List.set_cons_zero, List.set_cons_succ])
            refine wpG_take _ (.bool false) rfl (by rfl) (fun X hX => by first | rfl | go_simp) ?_
            (try simp only [Act.put, List.setIfInBounds_toArray, List.set_cons_zero, List.set_cons_succ])
            refine wpG_nil ?_
            have HWD := Lib.hid HW.out.drew
            clear HW HWA HAT HQO
            go_wp2_with fail
            go_roundw
            case rel => exact ⟨k + 1, by omega, by go_num, HWD.out⟩
            case measure => simp [intOf]; omega
        · obtain rfl : k = 8 := by omega
          rw [show ((8 : Nat) : Int) = (8 : Int) from rfl]
          clear hk hlt
          go_wp2_with fail
          refine (HWK.out _ HW.out.bel HW.out.tab).mono ?_
          rintro e w6 ⟨rfl, hb6⟩
          have HB6 := Lib.hid hb6
          clear hb6 HW
          go_wp2_with fail
          go_ret
          exact ⟨rfl, HB6.out⟩
theorem nodeBack_walk (ns : List Pt) (h : NOK ns) (l : Bs) (sp : Option Addr) (cap : Nat) (i : Int) (p : Pt) (hp : p.OK) (w : World) (hc : l.length ≤ cap) (_hm : cap ≤ maxLen) (hz : sp = none → cap = 0) (hS : SrcA w sp l) (hT : RTab w) :
    Calls Tryd.prog 5 #[.agg (ncells ns).toArray, .slice sp l.length cap, .int .i64 i, .agg (pcells p).toArray] w fun e w' => e = .returned (.bool true) ∧ Below w.heap.size w w' := by
  by_cases hl : l.length ≤ 600
  · exact nodeBack_go ns h l sp cap i p hp w hl hc hz hS hT
  · have HX := Lib.hid (nbW_start (ns := ns) (p := p) hS hT)
    obtain ⟨L, hL⟩ : ∃ L, l.length = L := ⟨_, rfl⟩
    rw [hL] at hl ⊢
    have i1 : (600 : Int) < (L : Int) := by omega
    have HWK : Hid (∀ W, Below w.heap.size w W → RTab W → Calls Tryd.prog 9 #[] W fun e w' => e = .returned (.bool true) ∧ Below w.heap.size w w') := Lib.hid fun W hb ht => (nwakes_any W ht).mono fun e w' ⟨h1, h2⟩ => ⟨h1, hb.trans (h2.mono hb.size)⟩
    clear h hp hl hc hz hS hT hL
    go_enter Tryd.func5, Tryd.ntmps5
    go_wp2_with fail
    refine (HWK.out _ HX.out.bel HX.out.tab).mono ?_
    rintro e w6 ⟨rfl, hb6⟩
    have HB6 := Lib.hid hb6
    clear hb6 HWK HX
    go_wp2_with fail
    go_ret
    exact ⟨rfl, HB6.out⟩
end Go.Proofs.YtincpdnmaiimnaaDoor
