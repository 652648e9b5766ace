/- AnchorBytes: the law, walked. -/
import Derived.Test.YtchbeaogbjmddaaBu
import Derived.Test.YtchbeaogbjmddaaRp
import Derived.Test.YtchbeaogbjmddaaRk
namespace Go.Proofs.Ytchbeaogbjmddaa
open Go.RowKit

/-- What the law has made so far. -/
structure Ab (a : An) (l : Bs) (w W : World) : Prop where
  bel : Below w.heap.size w W
  ga : Blk W w.heap.size (acells a) 27
  gl : Blk W (w.heap.size + 1) (l.map V8) 28
theorem Ab.next {a : An} {l : Bs} {w W W' : World} (h : Ab a l w W) (hb : Below W.heap.size W W') : Ab a l w W' := ⟨h.bel.trans (hb.mono h.bel.size), h.ga.below hb h.ga.lt, h.gl.below hb h.gl.lt⟩
theorem ab_start (a : An) (l : Bs) (w : World) : Ab a l w ((w.alloc (.cells (acells a).toArray 27)).alloc (.cells (l.map V8).toArray 28)) :=
  ⟨((Below.refl _ _).alloc (Nat.le_refl _) _).alloc (by simp) _, (Blk.new _ _ _).alloc _, Blk.new' _ _ _ _ _ (by simp) rfl⟩
theorem blkT (w : World) (z : Array Value) (a : An) (t : TypeId) : Blk ((w.alloc (.cells z t)).setRow w.heap.size (acells a).toArray) w.heap.size (acells a) t ∧ Below w.heap.size w ((w.alloc (.cells z t)).setRow w.heap.size (acells a).toArray) :=
  ⟨Blk.row (Blk.new' w z z.toList t _ rfl (by simp)) _, below_row ((Below.refl _ _).alloc (Nat.le_refl _) _) (Nat.le_refl _) _⟩
theorem ab_store {a : An} {l : Bs} {w W0 : World} (h : Ab a l w W0) (hs : W0.heap.size = w.heap.size + 2) (z : Array Value) (x : An) : Ab a l w ((W0.alloc (.cells z 29)).setRow (w.heap.size + 1 + 1) (acells x).toArray) ∧ Blk ((W0.alloc (.cells z 29)).setRow (w.heap.size + 1 + 1) (acells x).toArray) (w.heap.size + 1 + 1) (acells x) 29 := by
  have hb := blkT W0 z x 29
  rw [hs] at hb
  have hn := h.next (by rw [hs]; exact hb.2)
  exact ⟨hn, hb.1⟩
/-- What the law's last row reads. -/
structure S5 (a : An) (T : An) (l : Bs) (g2 g3 g5 g6 g8 g10 : Nat) (X : World) : Prop where
  b2 : Blk X g2 (acells a) 27
  b3 : Blk X g3 (l.map V8) 28
  b5 : Blk X g5 (acells a) 29
  b6 : Blk X g6 (acells T) 29
  b8 : Blk X g8 (acells T) 27
  b10 : Blk X g10 (acells a) 29
theorem S5.below {a T : An} {l : Bs} {g2 g3 g5 g6 g8 g10 : Nat} {X Y : World} (h : S5 a T l g2 g3 g5 g6 g8 g10 X) (hb : Below X.heap.size X Y) : S5 a T l g2 g3 g5 g6 g8 g10 Y :=
  ⟨h.b2.below hb h.b2.lt, h.b3.below hb h.b3.lt, h.b5.below hb h.b5.lt, h.b6.below hb h.b6.lt, h.b8.below hb h.b8.lt, h.b10.below hb h.b10.lt⟩
theorem ex_eq30 {ρ : Operand → Value} {o : Oper} {x y : Operand} {z : Int} {w : World} (ho : o.op = .binOp .eql 30 x y 30) (hx : ρ x = .int .i64 z) (hy : ρ y = .int .i64 z) : (execOp ρ o).run Try.prog w = .ok (.value (.bool true)) w := by
  unfold execOp
  simp only [ho]
  go_simp
theorem size27a {a : An} (h : a.OK) : (Try.prog.info? 27).map (·.size) = some (acells a).toArray.size := by rw [size27]; simp [acells_length h]
set_option maxRecDepth 100000 in
set_option maxHeartbeats 8000000 in
theorem bytes_walk (a : An) (ha : a.OK) (l : Bs) (hl : l.length = 64) (w : World) : Calls Try.prog 3 #[.agg (acells a).toArray, .agg (l.map V8).toArray] w fun e w' => e = .returned (.bool true) ∧ Below w.heap.size w w' := by
  have HA := Lib.hid ha
  have HL := Lib.hid hl
  have HOKL := Lib.hid (tkA_ok hl)
  have hab := ab_start a l w
  have HAB := Lib.hid hab
  have c0 : ((w.alloc (.cells (acells a).toArray 27)).alloc (.cells (l.map V8).toArray 28)).cell? ⟨w.heap.size, 0, none⟩ = some (.int .u64 (a.gen : Int)) := hab.ga.cell rfl
  have hs0 : ((w.alloc (.cells (acells a).toArray 27)).alloc (.cells (l.map V8).toArray 28)).heap.size = w.heap.size + 2 := by simp
  have HS0 := Lib.hid hs0
  clear ha hl hab hs0
  go_enter Try.func3, Try.ntmps3
  go_wp2_with (first | (refine wpL_val rfl (ex_ld (ty := 23) (cs := a.hash.map V8) rfl rfl (rng_hash HAB.out.ga) Try.underlying23 rfl (by rw [size23]; simp [HA.out.hash])) ?_) | (refine wpL_val rfl (ex_ld (ty := 25) (cs := a.ats.map U16) rfl rfl (rng_ats HAB.out.ga HA.out.hash) Try.underlying25 rfl (by rw [size25]; simp [HA.out.len])) ?_) | (refine wpL_val rfl (ex_build29 (a := a) rfl rfl rfl rfl HA.out) ?_) | (refine wpList_store_row rfl 29 (.tmp 5) (.tmp 18) rfl (w.heap.size + 1 + 1) (acells a).toArray rfl rfl 29 _ (by have := heap_alloc_new ((w.alloc (.cells (acells a).toArray 27)).alloc (.cells (l.map V8).toArray 28)) (.cells (acells zeroA).toArray 29); rw [HS0.out] at this; exact this) (size29a HA.out) (by rw [zlen]; simp [acells_length HA.out]) (one29 _) ?_; refine (fun (q : ∀ W, Ab a l w W ∧ Blk W (w.heap.size + 1 + 1) (acells a) 29 → wpList _ _ _ _ _ W) => q _ (ab_store HAB.out HS0.out _ a)) ?_; intro W5 hW5; have HW5 := Lib.hid hW5; clear hW5) | (refine wpL_val rfl (ex_ld (ty := 28) (cs := l.map V8) rfl rfl (rng_all HW5.out.1.gl) Try.underlying28 rfl (by rw [size28]; simp [HL.out])) ?_) | fail)
  clear c0 HAB HS0
  obtain ⟨g5, hg5⟩ : ∃ g, w.heap.size + 1 + 1 = g := ⟨_, rfl⟩
  rw [hg5] at HW5 ⊢
  clear hg5
  refine (take_any l HL.out W5).mono ?_
  rintro e w6 ⟨rfl, hb6⟩
  have A6 := Lib.hid (HW5.out.1.next hb6)
  have X6 := Lib.hid (HW5.out.2.below hb6 HW5.out.2.lt)
  clear hb6 HW5
  go_wp2_with (first | (refine wpList_store_row rfl 29 (.tmp 6) (.tmp 22) rfl w6.heap.size (acells (tkA l)).toArray rfl rfl 29 _ (heap_alloc_new w6 (.cells (acells zeroA).toArray 29)) (size29a HOKL.out) (by rw [zlen]; simp [acells_length HOKL.out]) (one29 _) ?_; refine (fun (q : ∀ W, Blk W w6.heap.size (acells (tkA l)) 29 ∧ Below w6.heap.size w6 W → wpList _ _ _ _ _ W) => q _ (blkT w6 _ (tkA l) 29)) ?_; intro W7 hW7; have HW7 := Lib.hid hW7; clear hW7) | (refine wpL_val rfl (ex_ld (ty := 28) (cs := l.map V8) rfl rfl (rng_all (A6.out.next HW7.out.2).gl) Try.underlying28 rfl (by rw [size28]; simp [HL.out])) ?_) | fail)
  obtain ⟨g6, hg6⟩ : ∃ g, w6.heap.size = g := ⟨_, rfl⟩
  have A7 := Lib.hid (A6.out.next HW7.out.2)
  have X7 := Lib.hid (X6.out.below HW7.out.2 X6.out.lt)
  have Y7 := Lib.hid HW7.out.1
  rw [hg6] at Y7 ⊢
  clear hg6 A6 X6 HW7
  refine (rtake_any l HL.out W7).mono ?_
  rintro e w8 ⟨rfl, hb8⟩
  have A8 := Lib.hid (A7.out.next hb8)
  have X8 := Lib.hid (X7.out.below hb8 X7.out.lt)
  have Y8 := Lib.hid (Y7.out.below hb8 Y7.out.lt)
  clear hb8 A7 X7 Y7
  go_wp2_with (first | (refine wpList_store_row rfl 27 (.tmp 8) (.tmp 27) rfl w8.heap.size (acells (tkA l)).toArray rfl rfl 27 _ (heap_alloc_new w8 (.cells (acells zeroA).toArray 27)) (size27a HOKL.out) (by rw [zlen]; simp [acells_length HOKL.out]) (one29 _) ?_; refine (fun (q : ∀ W, Blk W w8.heap.size (acells (tkA l)) 27 ∧ Below w8.heap.size w8 W → wpList _ _ _ _ _ W) => q _ (blkT w8 _ (tkA l) 27)) ?_; intro W9 hW9; have HW9 := Lib.hid hW9; clear hW9) | (refine wpL_val rfl (ex_ld (ty := 29) (cs := acells a) rfl rfl (rng_all (X8.out.below HW9.out.2 X8.out.lt)) Try.underlying29 rfl (by rw [size29, acells_length HA.out])) ?_) | fail)
  obtain ⟨g8, hg8⟩ : ∃ g, w8.heap.size = g := ⟨_, rfl⟩
  have A9 := Lib.hid (A8.out.next HW9.out.2)
  have X9 := Lib.hid (X8.out.below HW9.out.2 X8.out.lt)
  have Y9 := Lib.hid (Y8.out.below HW9.out.2 Y8.out.lt)
  have Z9 := Lib.hid HW9.out.1
  rw [hg8] at Z9 ⊢
  clear hg8 A8 X8 Y8 HW9
  refine (put_any a HA.out W9).mono ?_
  rintro e w10 ⟨rfl, hb10⟩
  have A10 := Lib.hid (A9.out.next hb10)
  have X10 := Lib.hid (X9.out.below hb10 X9.out.lt)
  have Y10 := Lib.hid (Y9.out.below hb10 Y9.out.lt)
  have Z10 := Lib.hid (Z9.out.below hb10 Z9.out.lt)
  clear hb10 A9 X9 Y9 Z9
  go_wp2_with fail
  refine (take_any (pad a) (pad_length HA.out) w10).mono ?_
  rw [(tkA_pad HA.out).1, (tkA_pad HA.out).2]
  rintro e w11 ⟨rfl, hb11⟩
  have A11 := Lib.hid (A10.out.next hb11)
  have X11 := Lib.hid (X10.out.below hb11 X10.out.lt)
  have Y11 := Lib.hid (Y10.out.below hb11 Y10.out.lt)
  have Z11 := Lib.hid (Z10.out.below hb11 Z10.out.lt)
  clear hb11 A10 X10 Y10 Z10
  go_wp2_with (first | (refine wpList_store_row rfl 29 (.tmp 10) (.tmp 33) rfl w11.heap.size (acells a).toArray rfl rfl 29 _ (heap_alloc_new w11 (.cells (acells zeroA).toArray 29)) (size29a HA.out) (by rw [zlen]; simp [acells_length HA.out]) (one29 _) ?_; refine (fun (q : ∀ W, Blk W w11.heap.size (acells a) 29 ∧ Below w11.heap.size w11 W → wpList _ _ _ _ _ W) => q _ (blkT w11 _ a 29)) ?_; intro W12 hW12; have HW12 := Lib.hid hW12; clear hW12) | fail)
  obtain ⟨g10, hg10⟩ : ∃ g, w11.heap.size = g := ⟨_, rfl⟩
  have A12 := Lib.hid (A11.out.next HW12.out.2)
  have X12 := Lib.hid (X11.out.below HW12.out.2 X11.out.lt)
  have Y12 := Lib.hid (Y11.out.below HW12.out.2 Y11.out.lt)
  have Z12 := Lib.hid (Z11.out.below HW12.out.2 Z11.out.lt)
  have V12 := Lib.hid HW12.out.1
  rw [hg10] at V12 ⊢
  clear hg10 A11 X11 Y11 Z11 HW12
  obtain ⟨T, hT⟩ : ∃ T, tkA l = T := ⟨_, rfl⟩
  have HPT : Hid (quiet l = true → pad T = l) := Lib.hid (fun hq => by rw [← hT]; unfold tkA; rw [if_pos hq]; exact (pad_tk HL.out).2 hq)
  rw [hT] at HOKL Y12 Z12
  have HT := Lib.hid HOKL.out
  have HS : Hid (S5 a T l w.heap.size (w.heap.size + 1) g5 g6 g8 g10 W12) := Lib.hid ⟨A12.out.ga, A12.out.gl, X12.out, Y12.out, Z12.out, V12.out⟩
  have HB12 := Lib.hid A12.out.bel
  clear A12 X12 Y12 Z12 V12 hT
  by_cases hq : quiet l = true
  · have hE : tkE l = 0 := by unfold tkE; rw [if_pos hq]
    rw [hE]
    have HPT := Lib.hid (HPT.out hq)
    clear hE hq
    refine wp_region_sched (.take 0 (.take 2 (.step 1 (.step 3 (.take 4 (.take 5 (.take 6 (.take 7 (.take 8 (.take 9 (.take 10 (.take 11 (.take 12 (.take 13 (.take 14 (.take 15 (.take 16 (.take 17 (.take 18 (.take 19 (.take 20 (.take 21 (.take 22 (.take 23 (.take 24 (.take 25 (.take 26 (.take 27 (.take 28 (.take 29 (.take 30 (.take 31 (.take 32 (.take 33 (.take 34 (.take 36 (.step 35 (.take 37 (.take 38 (.take 39 (.take 40 (.step 41 (.take 42 (.take 43 (.nil))))))))))))))))))))))))))))))))))))))))))))) (by kernel_rfl) (by kernel_rfl) (fun d _ _ _ _ h => by cases d <;> exact h) (fun X => S5 a T l w.heap.size (w.heap.size + 1) g5 g6 g8 g10 X) (HS.out.below (Below.refl _ _).drew) ?_
    refine wpG_take _ (.agg (acells a).toArray) rfl (by rfl) (fun X hX => ex_ld rfl rfl (rng_all hX.b5) Try.underlying29 rfl (by rw [size29, acells_length HA.out])) ?_
    (try simp only [Act.put, List.setIfInBounds_toArray, List.set_cons_zero, List.set_cons_succ])
    refine wpG_take _ (.agg (acells a).toArray) rfl (by rfl) (fun X hX => ex_ld rfl rfl (rng_all hX.b2) Try.underlying27 rfl (by rw [size27, acells_length HA.out])) ?_
    (try simp only [Act.put, List.setIfInBounds_toArray, List.set_cons_zero, List.set_cons_succ])
    refine wpG_call _ rfl (by rfl) 8 #[.agg (acells a).toArray] (fun _ => by go_simp) (fun u w' => u = .agg ((pad a).map V8).toArray ∧ Below W12.heap.size W12 w') ((put_any a HA.out W12.drew).mono fun e w' ⟨e1, e2⟩ => ⟨_, e1, HS.out.below ((Below.refl _ _).drew.trans e2), rfl, (Below.refl _ _).drew.trans e2⟩) ?_
    rintro u v1 hs1 ⟨rfl, hb1⟩
    refine ⟨_, fun _ h => h, hs1, ?_⟩
    (try simp only [Act.put, List.setIfInBounds_toArray, List.set_cons_zero, List.set_cons_succ])
    refine wpG_call _ rfl (by rfl) 9 #[.agg (acells a).toArray] (fun _ => by go_simp) (fun u w' => u = .agg ((pad a).map V8).toArray ∧ Below W12.heap.size W12 w') ((rput_any a HA.out v1).mono fun e w' ⟨e1, e2⟩ => ⟨_, e1, hs1.below e2, rfl, hb1.trans (e2.mono hb1.size)⟩) ?_
    rintro u v2 hs2 ⟨rfl, hb2⟩
    refine ⟨_, fun _ h => h, hs2, ?_⟩
    (try simp only [Act.put, List.setIfInBounds_toArray, List.set_cons_zero, List.set_cons_succ])
    refine wpG_take _ (.bool true) rfl (by rfl) (fun X hX => ex_eq28 rfl rfl rfl (pad_length HA.out)) ?_
    (try simp only [Act.put, List.setIfInBounds_toArray, List.set_cons_zero, List.set_cons_succ])
    refine wpG_take _ (.bool true) rfl (by rfl) (fun X hX => by first | rfl | go_simp) ?_
    (try simp only [Act.put, List.setIfInBounds_toArray, List.set_cons_zero, List.set_cons_succ])
    refine wpG_take _ (.pointer (some ⟨g6, 0, none⟩)) rfl (by rfl) (fun X hX => ex_fa29 0 0 (by omega) rfl rfl) ?_
    (try simp only [Act.put, List.setIfInBounds_toArray, List.set_cons_zero, List.set_cons_succ])
    refine wpG_take _ (.int .u64 (T.gen : Int)) rfl (by rfl) (fun X hX => ex_ld22 rfl rfl (hX.b6.cell rfl)) ?_
    (try simp only [Act.put, List.setIfInBounds_toArray, List.set_cons_zero, List.set_cons_succ])
    refine wpG_take _ (.pointer (some ⟨g6, 1, none⟩)) rfl (by rfl) (fun X hX => ex_fa29 1 1 (by omega) rfl rfl) ?_
    (try simp only [Act.put, List.setIfInBounds_toArray, List.set_cons_zero, List.set_cons_succ])
    refine wpG_take _ (.agg (T.hash.map V8).toArray) rfl (by rfl) (fun X hX => ex_ld rfl rfl (rng_hash hX.b6) Try.underlying23 rfl (by rw [size23]; simp [HT.out.hash])) ?_
    (try simp only [Act.put, List.setIfInBounds_toArray, List.set_cons_zero, List.set_cons_succ])
    refine wpG_take _ (.pointer (some ⟨g6, 33, none⟩)) rfl (by rfl) (fun X hX => ex_fa29 2 33 (by omega) rfl rfl) ?_
    (try simp only [Act.put, List.setIfInBounds_toArray, List.set_cons_zero, List.set_cons_succ])
    refine wpG_take _ (.agg (T.ats.map U16).toArray) rfl (by rfl) (fun X hX => ex_ld rfl rfl (rng_ats hX.b6 HT.out.hash) Try.underlying25 rfl (by rw [size25]; simp [HT.out.len])) ?_
    (try simp only [Act.put, List.setIfInBounds_toArray, List.set_cons_zero, List.set_cons_succ])
    refine wpG_take _ (.agg (acells T).toArray) rfl (by rfl) (fun X hX => ex_build27 rfl rfl rfl rfl HT.out) ?_
    (try simp only [Act.put, List.setIfInBounds_toArray, List.set_cons_zero, List.set_cons_succ])
    refine wpG_take _ (.agg (acells T).toArray) rfl (by rfl) (fun X hX => ex_ld rfl rfl (rng_all hX.b8) Try.underlying27 rfl (by rw [size27, acells_length HT.out])) ?_
    (try simp only [Act.put, List.setIfInBounds_toArray, List.set_cons_zero, List.set_cons_succ])
    refine wpG_take _ (.bool true) rfl (by rfl) (fun X hX => ex_eq27 rfl rfl rfl HT.out) ?_
    (try simp only [Act.put, List.setIfInBounds_toArray, List.set_cons_zero, List.set_cons_succ])
    refine wpG_take _ (.bool true) rfl (by rfl) (fun X hX => by first | rfl | go_simp) ?_
    (try simp only [Act.put, List.setIfInBounds_toArray, List.set_cons_zero, List.set_cons_succ])
    refine wpG_take _ (.bool true) rfl (by rfl) (fun X hX => by first | rfl | go_simp) ?_
    (try simp only [Act.put, List.setIfInBounds_toArray, List.set_cons_zero, List.set_cons_succ])
    refine wpG_take _ (.int .i64 0) rfl (by rfl) (fun X hX => by first | rfl | go_simp) ?_
    (try simp only [Act.put, List.setIfInBounds_toArray, List.set_cons_zero, List.set_cons_succ])
    refine wpG_take _ (.int .i64 0) rfl (by rfl) (fun X hX => by first | rfl | go_simp) ?_
    (try simp only [Act.put, List.setIfInBounds_toArray, List.set_cons_zero, List.set_cons_succ])
    refine wpG_take _ (.bool true) rfl (by rfl) (fun X hX => ex_eq30 rfl rfl rfl) ?_
    (try simp only [Act.put, List.setIfInBounds_toArray, List.set_cons_zero, List.set_cons_succ])
    refine wpG_take _ (.bool true) rfl (by rfl) (fun X hX => by first | rfl | go_simp) ?_
    (try simp only [Act.put, List.setIfInBounds_toArray, List.set_cons_zero, List.set_cons_succ])
    refine wpG_take _ (.bool true) rfl (by rfl) (fun X hX => by first | rfl | go_simp) ?_
    (try simp only [Act.put, List.setIfInBounds_toArray, List.set_cons_zero, List.set_cons_succ])
    refine wpG_take _ (.int .i64 0) rfl (by rfl) (fun X hX => by first | rfl | go_simp) ?_
    (try simp only [Act.put, List.setIfInBounds_toArray, List.set_cons_zero, List.set_cons_succ])
    refine wpG_take _ (.bool true) rfl (by rfl) (fun X hX => by first | rfl | go_simp) ?_
    (try simp only [Act.put, List.setIfInBounds_toArray, List.set_cons_zero, List.set_cons_succ])
    refine wpG_take _ (.bool true) rfl (by rfl) (fun X hX => by first | rfl | go_simp) ?_
    (try simp only [Act.put, List.setIfInBounds_toArray, List.set_cons_zero, List.set_cons_succ])
    refine wpG_take _ (.bool true) rfl (by rfl) (fun X hX => by first | rfl | go_simp) ?_
    (try simp only [Act.put, List.setIfInBounds_toArray, List.set_cons_zero, List.set_cons_succ])
    refine wpG_take _ (.agg (acells a).toArray) rfl (by rfl) (fun X hX => ex_ld rfl rfl (rng_all hX.b10) Try.underlying29 rfl (by rw [size29, acells_length HA.out])) ?_
    (try simp only [Act.put, List.setIfInBounds_toArray, List.set_cons_zero, List.set_cons_succ])
    refine wpG_take _ (.agg (acells a).toArray) rfl (by rfl) (fun X hX => ex_ld rfl rfl (rng_all hX.b5) Try.underlying29 rfl (by rw [size29, acells_length HA.out])) ?_
    (try simp only [Act.put, List.setIfInBounds_toArray, List.set_cons_zero, List.set_cons_succ])
    refine wpG_take _ (.bool true) rfl (by rfl) (fun X hX => ex_eq29 rfl rfl rfl HA.out) ?_
    (try simp only [Act.put, List.setIfInBounds_toArray, List.set_cons_zero, List.set_cons_succ])
    refine wpG_take _ (.bool true) rfl (by rfl) (fun X hX => by first | rfl | go_simp) ?_
    (try simp only [Act.put, List.setIfInBounds_toArray, List.set_cons_zero, List.set_cons_succ])
    refine wpG_take _ (.bool true) rfl (by rfl) (fun X hX => by first | rfl | go_simp) ?_
    (try simp only [Act.put, List.setIfInBounds_toArray, List.set_cons_zero, List.set_cons_succ])
    refine wpG_take _ (.int .i64 0) rfl (by rfl) (fun X hX => by first | rfl | go_simp) ?_
    (try simp only [Act.put, List.setIfInBounds_toArray, List.set_cons_zero, List.set_cons_succ])
    refine wpG_take _ (.bool false) rfl (by rfl) (fun X hX => by first | rfl | go_simp) ?_
    (try simp only [Act.put, List.setIfInBounds_toArray, List.set_cons_zero, List.set_cons_succ])
    refine wpG_take _ (.bool false) rfl (by rfl) (fun X hX => by first | rfl | go_simp) ?_
    (try simp only [Act.put, List.setIfInBounds_toArray, List.set_cons_zero, List.set_cons_succ])
    refine wpG_take _ (.agg (acells T).toArray) rfl (by rfl) (fun X hX => ex_ld rfl rfl (rng_all hX.b6) Try.underlying29 rfl (by rw [size29, acells_length HT.out])) ?_
    (try simp only [Act.put, List.setIfInBounds_toArray, List.set_cons_zero, List.set_cons_succ])
    refine wpG_take _ (.agg (l.map V8).toArray) rfl (by rfl) (fun X hX => ex_ld rfl rfl (rng_all hX.b3) Try.underlying28 rfl (by rw [size28]; simp [HL.out])) ?_
    (try simp only [Act.put, List.setIfInBounds_toArray, List.set_cons_zero, List.set_cons_succ])
    refine wpG_call _ rfl (by rfl) 8 #[.agg (acells T).toArray] (fun _ => by go_simp) (fun u w' => u = .agg (l.map V8).toArray ∧ Below W12.heap.size W12 w') ((put_any T HT.out v2).mono fun e w' hh => by rw [HPT.out] at hh; obtain ⟨e1, e2⟩ := hh; exact ⟨_, e1, hs2.below e2, rfl, hb2.trans (e2.mono hb2.size)⟩) ?_
    rintro u v3 hs3 ⟨rfl, hb3⟩
    refine ⟨_, fun _ h => h, hs3, ?_⟩
    (try simp only [Act.put, List.setIfInBounds_toArray, List.set_cons_zero, List.set_cons_succ])
    refine wpG_take _ (.bool true) rfl (by rfl) (fun X hX => ex_eq28 rfl rfl rfl HL.out) ?_
    (try simp only [Act.put, List.setIfInBounds_toArray, List.set_cons_zero, List.set_cons_succ])
    refine wpG_take _ (.bool true) rfl (by rfl) (fun X hX => by first | rfl | go_simp) ?_
    (try simp only [Act.put, List.setIfInBounds_toArray, List.set_cons_zero, List.set_cons_succ])
    refine wpG_take _ (.bool true) rfl (by rfl) (fun X hX => by first | rfl | go_simp) ?_
    (try simp only [Act.put, List.setIfInBounds_toArray, List.set_cons_zero, List.set_cons_succ])
    refine wpG_take _ (.bool true) rfl (by rfl) (fun X hX => by first | rfl | go_simp) ?_
    (try simp only [Act.put, List.setIfInBounds_toArray, List.set_cons_zero, List.set_cons_succ])
    refine wpG_call _ rfl (by rfl) 10 #[] (fun _ => by go_simp) (fun u w' => u = .bool true ∧ Below W12.heap.size W12 w') ((wakes_any v3).mono fun e w' ⟨e1, e2⟩ => ⟨_, e1, hs3.below e2, rfl, hb3.trans (e2.mono hb3.size)⟩) ?_
    rintro u v4 hs4 ⟨rfl, hb4⟩
    refine ⟨_, fun _ h => h, hs4, ?_⟩
    (try simp only [Act.put, List.setIfInBounds_toArray, List.set_cons_zero, List.set_cons_succ])
    refine wpG_take _ (.bool true) rfl (by rfl) (fun X hX => by first | rfl | go_simp) ?_
    (try simp only [Act.put, List.setIfInBounds_toArray, List.set_cons_zero, List.set_cons_succ])
    refine wpG_take _ (.bool true) rfl (by rfl) (fun X hX => by first | rfl | go_simp) ?_
    (try simp only [Act.put, List.setIfInBounds_toArray, List.set_cons_zero, List.set_cons_succ])
    refine wpG_nil ?_
    have HB4 := Lib.hid (HB12.out.trans (hb4.mono HB12.out.size))
    clear hs1 hs2 hs4 hb1 hb2 hb4 HS
    go_wp2_with fail
    go_ret
    exact ⟨rfl, HB4.out⟩
  · have hE : tkE l = 5 := by unfold tkE; rw [if_neg hq]
    rw [hE]
    clear hE hq HPT
    refine wp_region_sched (.take 0 (.take 2 (.step 1 (.step 3 (.take 4 (.take 5 (.take 6 (.take 7 (.take 8 (.take 9 (.take 10 (.take 11 (.take 12 (.take 13 (.take 14 (.take 15 (.take 16 (.take 17 (.take 18 (.take 19 (.take 20 (.take 21 (.take 22 (.take 23 (.take 24 (.take 25 (.take 26 (.take 27 (.take 28 (.take 29 (.take 30 (.take 31 (.take 32 (.take 33 (.take 34 (.take 36 (.step 35 (.take 37 (.take 38 (.take 39 (.take 40 (.step 41 (.take 42 (.take 43 (.nil))))))))))))))))))))))))))))))))))))))))))))) (by kernel_rfl) (by kernel_rfl) (fun d _ _ _ _ h => by cases d <;> exact h) (fun X => S5 a T l w.heap.size (w.heap.size + 1) g5 g6 g8 g10 X) (HS.out.below (Below.refl _ _).drew) ?_
    refine wpG_take _ (.agg (acells a).toArray) rfl (by rfl) (fun X hX => ex_ld rfl rfl (rng_all hX.b5) Try.underlying29 rfl (by rw [size29, acells_length HA.out])) ?_
    (try simp only [Act.put, List.setIfInBounds_toArray, List.set_cons_zero, List.set_cons_succ])
    refine wpG_take _ (.agg (acells a).toArray) rfl (by rfl) (fun X hX => ex_ld rfl rfl (rng_all hX.b2) Try.underlying27 rfl (by rw [size27, acells_length HA.out])) ?_
    (try simp only [Act.put, List.setIfInBounds_toArray, List.set_cons_zero, List.set_cons_succ])
    refine wpG_call _ rfl (by rfl) 8 #[.agg (acells a).toArray] (fun _ => by go_simp) (fun u w' => u = .agg ((pad a).map V8).toArray ∧ Below W12.heap.size W12 w') ((put_any a HA.out W12.drew).mono fun e w' ⟨e1, e2⟩ => ⟨_, e1, HS.out.below ((Below.refl _ _).drew.trans e2), rfl, (Below.refl _ _).drew.trans e2⟩) ?_
    rintro u v1 hs1 ⟨rfl, hb1⟩
    refine ⟨_, fun _ h => h, hs1, ?_⟩
    (try simp only [Act.put, List.setIfInBounds_toArray, List.set_cons_zero, List.set_cons_succ])
    refine wpG_call _ rfl (by rfl) 9 #[.agg (acells a).toArray] (fun _ => by go_simp) (fun u w' => u = .agg ((pad a).map V8).toArray ∧ Below W12.heap.size W12 w') ((rput_any a HA.out v1).mono fun e w' ⟨e1, e2⟩ => ⟨_, e1, hs1.below e2, rfl, hb1.trans (e2.mono hb1.size)⟩) ?_
    rintro u v2 hs2 ⟨rfl, hb2⟩
    refine ⟨_, fun _ h => h, hs2, ?_⟩
    (try simp only [Act.put, List.setIfInBounds_toArray, List.set_cons_zero, List.set_cons_succ])
    refine wpG_take _ (.bool true) rfl (by rfl) (fun X hX => ex_eq28 rfl rfl rfl (pad_length HA.out)) ?_
    (try simp only [Act.put, List.setIfInBounds_toArray, List.set_cons_zero, List.set_cons_succ])
    refine wpG_take _ (.bool true) rfl (by rfl) (fun X hX => by first | rfl | go_simp) ?_
    (try simp only [Act.put, List.setIfInBounds_toArray, List.set_cons_zero, List.set_cons_succ])
    refine wpG_take _ (.pointer (some ⟨g6, 0, none⟩)) rfl (by rfl) (fun X hX => ex_fa29 0 0 (by omega) rfl rfl) ?_
    (try simp only [Act.put, List.setIfInBounds_toArray, List.set_cons_zero, List.set_cons_succ])
    refine wpG_take _ (.int .u64 (T.gen : Int)) rfl (by rfl) (fun X hX => ex_ld22 rfl rfl (hX.b6.cell rfl)) ?_
    (try simp only [Act.put, List.setIfInBounds_toArray, List.set_cons_zero, List.set_cons_succ])
    refine wpG_take _ (.pointer (some ⟨g6, 1, none⟩)) rfl (by rfl) (fun X hX => ex_fa29 1 1 (by omega) rfl rfl) ?_
    (try simp only [Act.put, List.setIfInBounds_toArray, List.set_cons_zero, List.set_cons_succ])
    refine wpG_take _ (.agg (T.hash.map V8).toArray) rfl (by rfl) (fun X hX => ex_ld rfl rfl (rng_hash hX.b6) Try.underlying23 rfl (by rw [size23]; simp [HT.out.hash])) ?_
    (try simp only [Act.put, List.setIfInBounds_toArray, List.set_cons_zero, List.set_cons_succ])
    refine wpG_take _ (.pointer (some ⟨g6, 33, none⟩)) rfl (by rfl) (fun X hX => ex_fa29 2 33 (by omega) rfl rfl) ?_
    (try simp only [Act.put, List.setIfInBounds_toArray, List.set_cons_zero, List.set_cons_succ])
    refine wpG_take _ (.agg (T.ats.map U16).toArray) rfl (by rfl) (fun X hX => ex_ld rfl rfl (rng_ats hX.b6 HT.out.hash) Try.underlying25 rfl (by rw [size25]; simp [HT.out.len])) ?_
    (try simp only [Act.put, List.setIfInBounds_toArray, List.set_cons_zero, List.set_cons_succ])
    refine wpG_take _ (.agg (acells T).toArray) rfl (by rfl) (fun X hX => ex_build27 rfl rfl rfl rfl HT.out) ?_
    (try simp only [Act.put, List.setIfInBounds_toArray, List.set_cons_zero, List.set_cons_succ])
    refine wpG_take _ (.agg (acells T).toArray) rfl (by rfl) (fun X hX => ex_ld rfl rfl (rng_all hX.b8) Try.underlying27 rfl (by rw [size27, acells_length HT.out])) ?_
    (try simp only [Act.put, List.setIfInBounds_toArray, List.set_cons_zero, List.set_cons_succ])
    refine wpG_take _ (.bool true) rfl (by rfl) (fun X hX => ex_eq27 rfl rfl rfl HT.out) ?_
    (try simp only [Act.put, List.setIfInBounds_toArray, List.set_cons_zero, List.set_cons_succ])
    refine wpG_take _ (.bool true) rfl (by rfl) (fun X hX => by first | rfl | go_simp) ?_
    (try simp only [Act.put, List.setIfInBounds_toArray, List.set_cons_zero, List.set_cons_succ])
    refine wpG_take _ (.bool true) rfl (by rfl) (fun X hX => by first | rfl | go_simp) ?_
    (try simp only [Act.put, List.setIfInBounds_toArray, List.set_cons_zero, List.set_cons_succ])
    refine wpG_take _ (.int .i64 5) rfl (by rfl) (fun X hX => by first | rfl | go_simp) ?_
    (try simp only [Act.put, List.setIfInBounds_toArray, List.set_cons_zero, List.set_cons_succ])
    refine wpG_take _ (.int .i64 5) rfl (by rfl) (fun X hX => by first | rfl | go_simp) ?_
    (try simp only [Act.put, List.setIfInBounds_toArray, List.set_cons_zero, List.set_cons_succ])
    refine wpG_take _ (.bool true) rfl (by rfl) (fun X hX => ex_eq30 rfl rfl rfl) ?_
    (try simp only [Act.put, List.setIfInBounds_toArray, List.set_cons_zero, List.set_cons_succ])
    refine wpG_take _ (.bool true) rfl (by rfl) (fun X hX => by first | rfl | go_simp) ?_
    (try simp only [Act.put, List.setIfInBounds_toArray, List.set_cons_zero, List.set_cons_succ])
    refine wpG_take _ (.bool true) rfl (by rfl) (fun X hX => by first | rfl | go_simp) ?_
    (try simp only [Act.put, List.setIfInBounds_toArray, List.set_cons_zero, List.set_cons_succ])
    refine wpG_take _ (.int .i64 0) rfl (by rfl) (fun X hX => by first | rfl | go_simp) ?_
    (try simp only [Act.put, List.setIfInBounds_toArray, List.set_cons_zero, List.set_cons_succ])
    refine wpG_take _ (.bool true) rfl (by rfl) (fun X hX => by first | rfl | go_simp) ?_
    (try simp only [Act.put, List.setIfInBounds_toArray, List.set_cons_zero, List.set_cons_succ])
    refine wpG_take _ (.bool true) rfl (by rfl) (fun X hX => by first | rfl | go_simp) ?_
    (try simp only [Act.put, List.setIfInBounds_toArray, List.set_cons_zero, List.set_cons_succ])
    refine wpG_take _ (.bool true) rfl (by rfl) (fun X hX => by first | rfl | go_simp) ?_
    (try simp only [Act.put, List.setIfInBounds_toArray, List.set_cons_zero, List.set_cons_succ])
    refine wpG_take _ (.agg (acells a).toArray) rfl (by rfl) (fun X hX => ex_ld rfl rfl (rng_all hX.b10) Try.underlying29 rfl (by rw [size29, acells_length HA.out])) ?_
    (try simp only [Act.put, List.setIfInBounds_toArray, List.set_cons_zero, List.set_cons_succ])
    refine wpG_take _ (.agg (acells a).toArray) rfl (by rfl) (fun X hX => ex_ld rfl rfl (rng_all hX.b5) Try.underlying29 rfl (by rw [size29, acells_length HA.out])) ?_
    (try simp only [Act.put, List.setIfInBounds_toArray, List.set_cons_zero, List.set_cons_succ])
    refine wpG_take _ (.bool true) rfl (by rfl) (fun X hX => ex_eq29 rfl rfl rfl HA.out) ?_
    (try simp only [Act.put, List.setIfInBounds_toArray, List.set_cons_zero, List.set_cons_succ])
    refine wpG_take _ (.bool true) rfl (by rfl) (fun X hX => by first | rfl | go_simp) ?_
    (try simp only [Act.put, List.setIfInBounds_toArray, List.set_cons_zero, List.set_cons_succ])
    refine wpG_take _ (.bool true) rfl (by rfl) (fun X hX => by first | rfl | go_simp) ?_
    (try simp only [Act.put, List.setIfInBounds_toArray, List.set_cons_zero, List.set_cons_succ])
    refine wpG_take _ (.int .i64 5) rfl (by rfl) (fun X hX => by first | rfl | go_simp) ?_
    (try simp only [Act.put, List.setIfInBounds_toArray, List.set_cons_zero, List.set_cons_succ])
    refine wpG_take _ (.bool true) rfl (by rfl) (fun X hX => by first | rfl | go_simp) ?_
    (try simp only [Act.put, List.setIfInBounds_toArray, List.set_cons_zero, List.set_cons_succ])
    refine wpG_take _ (.bool true) rfl (by rfl) (fun X hX => by first | rfl | go_simp) ?_
    (try simp only [Act.put, List.setIfInBounds_toArray, List.set_cons_zero, List.set_cons_succ])
    refine wpG_pass _ rfl (by rfl) ?_
    (try simp only [Act.put, List.setIfInBounds_toArray, List.set_cons_zero, List.set_cons_succ])
    refine wpG_pass _ rfl (by rfl) ?_
    (try simp only [Act.put, List.setIfInBounds_toArray, List.set_cons_zero, List.set_cons_succ])
    refine wpG_skip _ rfl (by rfl) hs2 ?_
    (try simp only [Act.put, List.setIfInBounds_toArray, List.set_cons_zero, List.set_cons_succ])
    refine wpG_pass _ rfl (by rfl) ?_
    (try simp only [Act.put, List.setIfInBounds_toArray, List.set_cons_zero, List.set_cons_succ])
    refine wpG_take _ (.bool true) rfl (by rfl) (fun X hX => by first | rfl | go_simp) ?_
    (try simp only [Act.put, List.setIfInBounds_toArray, List.set_cons_zero, List.set_cons_succ])
    refine wpG_take _ (.bool true) rfl (by rfl) (fun X hX => by first | rfl | go_simp) ?_
    (try simp only [Act.put, List.setIfInBounds_toArray, List.set_cons_zero, List.set_cons_succ])
    refine wpG_take _ (.bool true) rfl (by rfl) (fun X hX => by first | rfl | go_simp) ?_
    (try simp only [Act.put, List.setIfInBounds_toArray, List.set_cons_zero, List.set_cons_succ])
    refine wpG_call _ rfl (by rfl) 10 #[] (fun _ => by go_simp) (fun u w' => u = .bool true ∧ Below W12.heap.size W12 w') ((wakes_any v2).mono fun e w' ⟨e1, e2⟩ => ⟨_, e1, hs2.below e2, rfl, hb2.trans (e2.mono hb2.size)⟩) ?_
    rintro u v4 hs4 ⟨rfl, hb4⟩
    refine ⟨_, fun _ h => h, hs4, ?_⟩
    (try simp only [Act.put, List.setIfInBounds_toArray, List.set_cons_zero, List.set_cons_succ])
    refine wpG_take _ (.bool true) rfl (by rfl) (fun X hX => by first | rfl | go_simp) ?_
    (try simp only [Act.put, List.setIfInBounds_toArray, List.set_cons_zero, List.set_cons_succ])
    refine wpG_take _ (.bool true) rfl (by rfl) (fun X hX => by first | rfl | go_simp) ?_
    (try simp only [Act.put, List.setIfInBounds_toArray, List.set_cons_zero, List.set_cons_succ])
    refine wpG_nil ?_
    have HB4 := Lib.hid (HB12.out.trans (hb4.mono HB12.out.size))
    clear hs1 hs2 hs4 hb1 hb2 hb4 HS
    go_wp2_with fail
    go_ret
    exact ⟨rfl, HB4.out⟩
end Go.Proofs.Ytchbeaogbjmddaa
