/- Whatever bytes, what is read as a pointer is what the document says: the law, walked. -/
import Derived.Test.YtlibdcgpjglcpaaDoorPvb
import Derived.Test.YtlibdcgpjglcpaaDoorPun
import Derived.Test.YtlibdcgpjglcpaaDoorPqd
namespace Go.Proofs.YtlibdcgpjglcpaaDoor
open Go.RowKit

structure TaS (tp : Pt) (e' n : Nat) (sp' : Option Addr) (cap' : Nat) (rest1 : Bs) (H : Nat) (K : Nat → Prop) (w : World) (g4 g5 g6 : Nat) (X : World) : Prop where
  a : Blk X g4 (pcells tp) 28
  b : Blk X g5 (pcells tp) 28
  r : Blk X g6 [.slice sp' n cap', .int .i64 (e' : Int)] 48
  rd : RdAt X H K rest1 e'
  tab : Tab X
  rt : RTab X
  bel : Below w.heap.size w X
theorem TaS.grown {tp : Pt} {e' n : Nat} {sp' : Option Addr} {cap' : Nat} {rest1 : Bs} {H : Nat} {K : Nat → Prop} {w X Y : World} {g4 g5 g6 : Nat} (h : TaS tp e' n sp' cap' rest1 H K w g4 g5 g6 X) (hb : Below X.heap.size X Y) : TaS tp e' n sp' cap' rest1 H K w g4 g5 g6 Y :=
  ⟨h.a.below hb h.a.lt, h.b.below hb h.b.lt, h.r.below hb h.r.lt, h.rd.below hb (Nat.le_refl _), h.tab.below hb (Nat.le_refl _), h.rt.grown hb, h.bel.trans (hb.mono h.bel.size)⟩
theorem TaS.drew {tp : Pt} {e' n : Nat} {sp' : Option Addr} {cap' : Nat} {rest1 : Bs} {H : Nat} {K : Nat → Prop} {w X : World} {g4 g5 g6 : Nat} (h : TaS tp e' n sp' cap' rest1 H K w g4 g5 g6 X) : TaS tp e' n sp' cap' rest1 H K w g4 g5 g6 X.drew := h.grown (Below.refl _ _).drew
theorem ex_fa48 {ρ : Operand → Value} {o : Oper} {x : Operand} {g : Nat} {w : World} (j : Nat) (hj : j = 0 ∨ j = 1) (ho : o.op = .fieldAddr 48 x j) (hx : ρ x = .pointer (some ⟨g, 0, none⟩)) : (execOp ρ o).run Tryd.prog w = .ok (.value (.pointer (some ⟨g, j, none⟩))) w := by
  unfold execOp
  simp only [ho]
  rcases hj with rfl | rfl <;> go_simp
theorem isAgg_sl {t e : TypeId} (h : Tryd.prog.underlying t = some (.slice e)) (W : World) : (isAgg t).run Tryd.prog W = .ok false W := by
  unfold isAgg
  rw [Sem.run_bind, run_underlying h W]; rfl
theorem ex_ldS {ρ : Operand → Value} {o : Oper} {x : Operand} {ad : Addr} {v : Value} {w : World} {ty e : TypeId} (hu : Tryd.prog.underlying ty = some (.slice e)) (ho : o.op = .load ty x) (hx : ρ x = .pointer (some ad)) (hc : w.cell? ad = some v) : (execOp ρ o).run Tryd.prog w = .ok (.value v) w := by
  have h := isAgg_sl hu w
  unfold execOp
  simp only [ho]
  go_simp
theorem ex_eqi' {ρ : Operand → Value} {o : Oper} {x y : Operand} {k : IntKind} {a b : Int} {w : World} {ty : TypeId} (hab : a = b) (hu : Tryd.prog.underlying ty = some (.int k)) (ho : o.op = .binOp .eql ty x y ty) (hx : ρ x = .int k a) (hy : ρ y = .int k b) : (execOp ρ o).run Tryd.prog w = .ok (.value (.bool true)) w := by
  have h := ex_eqi (w := w) hu ho hx hy
  rw [decide_eq_true hab] at h
  exact h
set_option maxRecDepth 100000 in
set_option maxHeartbeats 8000000 in
theorem ptrTakes_go (l : Bs) (sp : Option Addr) (cap : Nat) (w : World) (hl : l.length ≤ 200) (hc : l.length ≤ cap) (hm : cap ≤ maxLen) (hz : sp = none → cap = 0) (hS : SrcA w sp l) (hT : Tab w) (hR : RTab w) :
    Calls Tryd.prog 4 #[.slice sp l.length cap] w fun e w' => e = .returned (.bool true) ∧ Below w.heap.size w w' := by
  have HS := Lib.hid hS; have HT := Lib.hid hT; have HR := Lib.hid hR; have HC := Lib.hid hc; have HM := Lib.hid hm; have HZ := Lib.hid hz
  obtain ⟨L, hL⟩ : ∃ L, l.length = L := ⟨_, rfl⟩
  have HL := Lib.hid hL
  have HLL : Hid (L ≤ 200) := Lib.hid (by omega)
  have hnw := new_any l sp cap w (by omega) hz hc hS
  rw [hL] at hnw ⊢
  have HNW := Lib.hid hnw
  have i1 : ¬ ((200 : Int) < (L : Int)) := by omega
  clear hS hT hR hc hm hz hl hnw hL
  go_enter Tryd.func4, Tryd.ntmps4
  go_wp2_with fail
  refine HNW.out.mono ?_
  rintro e1 W1 ⟨H, rfl, hrd, hH, hb1⟩
  have HRD := Lib.hid hrd; have HH := Lib.hid hH; have HB1 := Lib.hid hb1
  have htk := ptrTake_any l 0 H W1 hrd (fun g hg => Nat.lt_trans hg.2 hrd.lt) (by have := HLL.out; have := HL.out; omega) (HR.out.below hb1 (Nat.le_refl _)) (by have := HR.out.lt; omega)
  have HTK := Lib.hid htk
  clear hrd hH hb1 htk HNW
  go_wp2_with fail
  refine HTK.out.mono ?_
  rintro e2 W2 ⟨rfl, ⟨rest1, hrd2, hrest1⟩, hbf2⟩
  obtain ⟨tp, htp⟩ : ∃ tp, takenP l 0 = tp := ⟨_, rfl⟩
  have hto : tp.OK := by rw [← htp]; exact takenP_ok l 0
  have HTP := Lib.hid htp; have HTO := Lib.hid hto
  have HSP := Lib.hid (size_pc hto)
  have HLP : Hid ((pcells tp).toArray.size = 41) := Lib.hid (by rw [List.size_toArray, pcells_length hto])
  obtain ⟨e', he'⟩ : ∃ e', takeE l 0 = e' := ⟨_, rfl⟩
  have HE := Lib.hid he'
  rw [htp]
  rw [he'] at hrd2 hrest1
  have HRD2 := Lib.hid hrd2; have HRE := Lib.hid hrest1
  have HB2 := Lib.hid (HB1.out.trans (hbf2.below HH.out HB1.out.size))
  have HW12 := Lib.hid hbf2.size
  clear htp hto he' hrd2 hrest1 hbf2 HTK
  go_upto_region 5 with (first | (refine wpList_store_row rfl 28 (.tmp 4) (.tmp 14) rfl W2.heap.size (pcells tp).toArray rfl rfl 28 _ (heap_alloc_new W2 _) HSP.out (by rw [HLP.out]; rfl) (one_pc tp) ?_) | fail)
  refine (fun (k : ∀ W, Blk W W2.heap.size (pcells tp) 28 → Below W2.heap.size W2 W → Code.wp _ _ _ _ W) => k _ (blk_row1 W2 _ (pcells tp) 28).1 (blk_row1 W2 _ (pcells tp) 28).2) ?_
  intro W3 ha hb3
  obtain ⟨g4, hg4⟩ : ∃ g, W2.heap.size = g := ⟨_, rfl⟩
  have HRD3 := Lib.hid (HRD2.out.below hb3 (Nat.le_refl _))
  have HB3 := Lib.hid (HB2.out.trans (hb3.mono HB2.out.size))
  rw [hg4] at ha ⊢
  have HA3 := Lib.hid ha
  have hq := qtake_any l sp cap 0 W3 (K := fun _ => True) (by have := HLL.out; have := HL.out; omega) ⟨HC.out, HZ.out, fun h0 => by
    obtain ⟨g, o, e, h1, h2⟩ := HS.out.below HB3.out (Nat.le_refl _) h0
    exact ⟨g, o, e, trivial, h1, h2⟩⟩
  rw [HL.out] at hq
  have HQ : Hid (Calls Tryd.prog 17 #[.agg #[.slice sp L cap, .int .i64 0]] W3 (QtPost l 0 (fun _ => True) W3)) := Lib.hid hq
  clear ha hb3 hg4 hq HRD2 HB2 HRD HB1
  go_wp2_with fail
  refine HQ.out.mono ?_
  rintro e4 W4 ⟨sp', cap', rest2, rfl, _, hr2, hr2', hb4⟩
  rw [HTP.out, HE.out]
  obtain ⟨n, hn⟩ : ∃ n, rest2.length = n := ⟨_, rfl⟩
  have hleft : leftOf rest1 e' = n := by
    rw [HE.out] at hr2 hr2'
    unfold leftOf
    by_cases h0 : e' = 0
    · rw [if_pos h0, HRE.out h0, ← hr2 h0, hn]
    · rw [if_neg h0, ← hn, hr2' rfl h0]; rfl
  have HLF := Lib.hid hleft
  rw [hn]
  have HRD4 := Lib.hid (HRD3.out.below hb4 (Nat.le_refl _)); have HB4 := Lib.hid (HB3.out.trans (hb4.mono HB3.out.size)); have HA4 := Lib.hid (HA3.out.below hb4 HA3.out.lt)
  clear hr2 hr2' hb4 hn hleft HQ HRD3 HB3 HA3
  have HZZ : Hid (∀ (z1 z2 : Array Value) W, W = (((W4.alloc (.cells z1 28)).alloc (.cells z2 48)).setRow W4.heap.size (pcells tp).toArray).setRow (W4.heap.size + 1) #[.slice sp' n cap', .int .i64 (e' : Int)] → TaS tp e' n sp' cap' rest1 H (fun g => w.heap.size ≤ g ∧ g < H) w g4 W4.heap.size (W4.heap.size + 1) W) := Lib.hid (fun z1 z2 W e => by
    have hb : Below W4.heap.size W4 W := by rw [e]; exact below_row (below_row (((Below.refl _ _).alloc (Nat.le_refl _) _).alloc (by simp) _) (Nat.le_refl _) _) (by omega) _
    have hbw := HB4.out.trans (hb.mono HB4.out.size)
    refine ⟨HA4.out.below hb HA4.out.lt, ?_, ?_, HRD4.out.below hb (Nat.le_refl _), HT.out.below hbw (Nat.le_refl _), HR.out.below hbw (Nat.le_refl _), hbw⟩
    · rw [e]; exact (((Blk.new' W4 z1 z1.toList 28 _ rfl (by simp)).alloc _).row (pcells tp)).rowOther (by omega) _
    · rw [e]; exact ((Blk.new' (W4.alloc (.cells z1 28)) z2 z2.toList 48 _ (by simp) (by simp)).rowOther (by omega) _).row [.slice sp' n cap', .int .i64 (e' : Int)])
  have H1 : ∀ z1 z2 : Array Value, ((W4.alloc (.cells z1 28)).alloc (.cells z2 48)).heap[W4.heap.size]? = some (.cells z1 28 (0, 0)) := fun z1 z2 => ((Blk.new' W4 z1 z1.toList 28 _ rfl (by simp)).alloc (.cells z2 48) : Blk _ _ _ _)
  have H2 : ∀ (z1 z2 c : Array Value), (((W4.alloc (.cells z1 28)).alloc (.cells z2 48)).setRow W4.heap.size c).heap[W4.heap.size + 1]? = some (.cells z2 48 (0, 0)) := fun z1 z2 c => ((Blk.new' (W4.alloc (.cells z1 28)) z2 z2.toList 48 (W4.heap.size + 1) (by simp) (by simp)).rowOther (by omega) c : Blk _ _ _ _)
  have HH1 := Lib.hid H1; have HH2 := Lib.hid H2
  clear H1 H2
  go_upto_region 6 with (first | (refine wpList_store_row rfl 28 (.tmp 5) (.tmp 19) rfl W4.heap.size (pcells tp).toArray rfl rfl 28 _ (HH1.out _ _) HSP.out (by rw [HLP.out]; rfl) (one_pc tp) ?_) | (refine wpList_store_row rfl 48 (.tmp 6) (.tmp 20) rfl (W4.heap.size + 1) #[.slice sp' n cap', .int .i64 (e' : Int)] rfl rfl 48 _ (HH2.out _ _ _) sizeRef rfl (one_ref _ _ _ _) ?_) | fail)
  refine (fun (k : ∀ W, TaS tp e' n sp' cap' rest1 H (fun g => w.heap.size ≤ g ∧ g < H) w g4 W4.heap.size (W4.heap.size + 1) W → Code.wp _ _ _ _ W) => k _ (HZZ.out _ _ _ rfl)) ?_
  intro X hX
  have HX := Lib.hid hX
  obtain ⟨g5, hg5⟩ : ∃ g, W4.heap.size = g := ⟨_, rfl⟩
  rw [hg5] at HX ⊢
  have HLQ := Lib.hid (pcells_length HTO.out)
  clear hX hg5 HZZ HH1 HH2 HRD4 HB4 HA4
  refine wp_region_sched (.take 0 (.take 1 (.take 2 (.take 3 (.take 4 (.take 6 (.take 7 (.step 5 (.take 8 (.take 9 (.take 10 (.take 11 (.take 13 (.take 14 (.take 15 (.step 12 (.take 16 (.take 17 (.take 18 (.take 20 (.step 19 (.take 21 (.take 22 (.take 23 (.step 24 (.take 25 (.take 26 (.nil)))))))))))))))))))))))))))) (by kernel_rfl) (by kernel_rfl) (fun d _ _ _ _ h => by cases d <;> exact h) (TaS tp e' n sp' cap' rest1 H (fun g => w.heap.size ≤ g ∧ g < H) w g4 g5 (g5 + 1)) HX.out.drew ?_
  refine wpG_take _ (.agg (pcells tp).toArray) rfl (by rfl) (fun X hX => ex_ld (ty := 28) (cs := pcells tp) rfl rfl (rng_all hX.a) Tryd.underlying28 rfl (by rw [sizeP, HLQ.out])) ?_
  (try simp only [Act.put, List.setIfInBounds_toArray, List.set_cons_zero, List.set_cons_succ])
  refine wpG_take _ (.agg (pcells tp).toArray) rfl (by rfl) (fun X hX => ex_ld (ty := 28) (cs := pcells tp) rfl rfl (rng_all hX.b) Tryd.underlying28 rfl (by rw [sizeP, HLQ.out])) ?_
  (try simp only [Act.put, List.setIfInBounds_toArray, List.set_cons_zero, List.set_cons_succ])
  refine wpG_take _ (.bool true) rfl (by rfl) (fun X hX => ex_eqPs (p := tp) rfl rfl rfl HTO.out) ?_
  (try simp only [Act.put, List.setIfInBounds_toArray, List.set_cons_zero, List.set_cons_succ])
  refine wpG_take _ (.bool true) rfl (by rfl) (fun X hX => by first | rfl | go_simp) ?_
  (try simp only [Act.put, List.setIfInBounds_toArray, List.set_cons_zero, List.set_cons_succ])
  refine wpG_take _ (.pointer (some ⟨H, 0, none⟩)) rfl (by rfl) (fun X hX => by first | rfl | go_simp) ?_
  (try simp only [Act.put, List.setIfInBounds_toArray, List.set_cons_zero, List.set_cons_succ])
  refine wpG_take _ (.pointer (some ⟨g5 + 1, 1, none⟩)) rfl (by rfl) (fun X hX => ex_fa48 1 (by omega) rfl rfl) ?_
  (try simp only [Act.put, List.setIfInBounds_toArray, List.set_cons_zero, List.set_cons_succ])
  refine wpG_take _ (.int .i64 (e' : Int)) rfl (by rfl) (fun X hX => ex_ld1 Tryd.underlying46 rfl rfl (hX.r.cell rfl)) ?_
  (try simp only [Act.put, List.setIfInBounds_toArray, List.set_cons_zero, List.set_cons_succ])
  refine wpG_call _ rfl (by rfl) 18 #[.pointer (some ⟨H, 0, none⟩)] (fun _ => by go_simp) (fun u _ => u = .int .i64 (e' : Int)) ((err_any H rest1 e' X.drew HX.out.drew.rd).mono fun x w' ⟨e1, e2⟩ => ⟨_, e1, by rw [← e2]; exact HX.out.drew, rfl⟩) ?_
  rintro u X1 hs1 rfl
  refine ⟨_, fun _ h => h, hs1, ?_⟩
  (try simp only [Act.put, List.setIfInBounds_toArray, List.set_cons_zero, List.set_cons_succ])
  refine wpG_take _ (.bool true) rfl (by rfl) (fun X hX => ex_eqi' rfl Tryd.underlying46 rfl rfl rfl) ?_
  (try simp only [Act.put, List.setIfInBounds_toArray, List.set_cons_zero, List.set_cons_succ])
  refine wpG_take _ (.bool true) rfl (by rfl) (fun X hX => by first | rfl | go_simp) ?_
  (try simp only [Act.put, List.setIfInBounds_toArray, List.set_cons_zero, List.set_cons_succ])
  refine wpG_take _ (.bool true) rfl (by rfl) (fun X hX => by first | rfl | go_simp) ?_
  (try simp only [Act.put, List.setIfInBounds_toArray, List.set_cons_zero, List.set_cons_succ])
  refine wpG_take _ (.pointer (some ⟨H, 0, none⟩)) rfl (by rfl) (fun X hX => by first | rfl | go_simp) ?_
  (try simp only [Act.put, List.setIfInBounds_toArray, List.set_cons_zero, List.set_cons_succ])
  refine wpG_take _ (.pointer (some ⟨g5 + 1, 0, none⟩)) rfl (by rfl) (fun X hX => ex_fa48 0 (by omega) rfl rfl) ?_
  (try simp only [Act.put, List.setIfInBounds_toArray, List.set_cons_zero, List.set_cons_succ])
  refine wpG_take _ (.slice sp' n cap') rfl (by rfl) (fun X hX => ex_ldS Tryd.underlying29 rfl rfl (hX.r.cell rfl)) ?_
  (try simp only [Act.put, List.setIfInBounds_toArray, List.set_cons_zero, List.set_cons_succ])
  refine wpG_take _ (.int .i64 (n : Int)) rfl (by rfl) (fun X hX => by first | rfl | go_simp) ?_
  (try simp only [Act.put, List.setIfInBounds_toArray, List.set_cons_zero, List.set_cons_succ])
  refine wpG_call _ rfl (by rfl) 19 #[.pointer (some ⟨H, 0, none⟩)] (fun _ => by go_simp) (fun u _ => u = .int .i64 (n : Int)) ((left_any H rest1 e' X1 hs1.rd).mono fun x w' ⟨e1, e2⟩ => ⟨_, e1, by rw [← e2]; exact hs1, by rw [HLF.out]⟩) ?_
  rintro u X2 hs2 rfl
  refine ⟨_, fun _ h => h, hs2, ?_⟩
  (try simp only [Act.put, List.setIfInBounds_toArray, List.set_cons_zero, List.set_cons_succ])
  refine wpG_take _ (.bool true) rfl (by rfl) (fun X hX => ex_eqi' rfl Tryd.underlying3 rfl rfl rfl) ?_
  (try simp only [Act.put, List.setIfInBounds_toArray, List.set_cons_zero, List.set_cons_succ])
  refine wpG_take _ (.bool true) rfl (by rfl) (fun X hX => by first | rfl | go_simp) ?_
  (try simp only [Act.put, List.setIfInBounds_toArray, List.set_cons_zero, List.set_cons_succ])
  refine wpG_take _ (.bool true) rfl (by rfl) (fun X hX => by first | rfl | go_simp) ?_
  (try simp only [Act.put, List.setIfInBounds_toArray, List.set_cons_zero, List.set_cons_succ])
  refine wpG_take _ (.agg (pcells zeroP).toArray) rfl (by rfl) (fun X hX => ex_bld0 rfl) ?_
  (try simp only [Act.put, List.setIfInBounds_toArray, List.set_cons_zero, List.set_cons_succ])
  refine wpG_call _ rfl (by rfl) 16 #[.pointer none] (fun _ => by go_simp) (fun u _ => u = .agg (pcells zeroP).toArray) ((ptrTake_nil X2).mono fun x w' ⟨e1, e2⟩ => ⟨_, e1, hs2.grown e2, rfl⟩) ?_
  rintro u X3 hs3 rfl
  refine ⟨_, fun _ h => h, hs3, ?_⟩
  (try simp only [Act.put, List.setIfInBounds_toArray, List.set_cons_zero, List.set_cons_succ])
  refine wpG_take _ (.bool true) rfl (by rfl) (fun X hX => ex_eqPs (p := zeroP) rfl rfl rfl zeroP_ok) ?_
  (try simp only [Act.put, List.setIfInBounds_toArray, List.set_cons_zero, List.set_cons_succ])
  refine wpG_take _ (.bool true) rfl (by rfl) (fun X hX => by first | rfl | go_simp) ?_
  (try simp only [Act.put, List.setIfInBounds_toArray, List.set_cons_zero, List.set_cons_succ])
  refine wpG_take _ (.bool true) rfl (by rfl) (fun X hX => by first | rfl | go_simp) ?_
  (try simp only [Act.put, List.setIfInBounds_toArray, List.set_cons_zero, List.set_cons_succ])
  refine wpG_call _ rfl (by rfl) 6 #[] (fun _ => by go_simp) (fun u _ => u = .bool true) ((wakes_any X3 hs3.tab hs3.rt (by decide)).mono fun x w' ⟨e1, e2⟩ => ⟨_, e1, hs3.grown e2, rfl⟩) ?_
  rintro u X4 hs4 rfl
  refine ⟨_, fun _ h => h, hs4, ?_⟩
  (try simp only [Act.put, List.setIfInBounds_toArray, List.set_cons_zero, List.set_cons_succ])
  refine wpG_take _ (.bool true) rfl (by rfl) (fun X hX => by first | rfl | go_simp) ?_
  (try simp only [Act.put, List.setIfInBounds_toArray, List.set_cons_zero, List.set_cons_succ])
  refine wpG_take _ (.bool true) rfl (by rfl) (fun X hX => by first | rfl | go_simp) ?_
  (try simp only [Act.put, List.setIfInBounds_toArray, List.set_cons_zero, List.set_cons_succ])
  refine wpG_nil ?_
  have HB := Lib.hid hs4.bel
  clear hs1 hs2 hs3 hs4 HX
  go_wp2_with fail
  go_ret
  exact ⟨rfl, HB.out⟩
set_option maxRecDepth 100000 in
theorem ptrTakes_walk (l : Bs) (sp : Option Addr) (cap : Nat) (w : World) (hc : l.length ≤ cap) (hm : cap ≤ maxLen) (hz : sp = none → cap = 0) (hS : SrcA w sp l) (hT : Tab w) (hR : RTab w) :
    Calls Tryd.prog 4 #[.slice sp l.length cap] w fun e w' => e = .returned (.bool true) ∧ Below w.heap.size w w' := by
  by_cases h : l.length ≤ 200
  · exact ptrTakes_go l sp cap w h hc hm hz hS hT hR
  · obtain ⟨L, hL⟩ : ∃ L, l.length = L := ⟨_, rfl⟩
    have HWK := Lib.hid (wakes_any w hT hR (by decide))
    have i1 : (200 : Int) < (L : Int) := by omega
    rw [hL]
    clear hc hm hz hS hT hR h hL
    go_enter Tryd.func4, Tryd.ntmps4
    go_wp2_with fail
    refine HWK.out.mono ?_
    rintro e w1 ⟨rfl, hb1⟩
    have HB := Lib.hid hb1
    clear hb1 HWK
    go_wp2_with fail
    go_ret
    exact ⟨rfl, HB.out⟩
end Go.Proofs.YtlibdcgpjglcpaaDoor
