/- Inodes that are known: wakes. -/
import Derived.Test.YtecngehkdjmjmaaDoorM14
import Derived.Test.YtecngehkdjmjmaaDoorM11
import Derived.Test.YtecngehkdjmjmaaDoorM09
namespace Go.Proofs.YtecngehkdjmjmaaDoor
open Go.RowKit

def kI : Ino := ⟨1, 1, 513, zeroP⟩
def kL : Ino := ⟨3, 0, 0, zeroP⟩
def kI4 : List Ino := [kI, zeroI, zeroI, zeroI]
theorem kI_ok : kI.OK := ⟨by simp [kI], by simp [kI], by simp [kI], zeroP_ok⟩
theorem kL_ok : kL.OK := ⟨by simp [kL], by simp [kL], by simp [kL], zeroP_ok⟩
theorem kI4_ok : BOK kI4 := ⟨rfl, fun p hp => by
  simp only [kI4, List.mem_cons, List.not_mem_nil, or_false] at hp
  rcases hp with rfl | rfl | rfl | rfl
  · exact kI_ok
  · exact zeroI_ok
  · exact zeroI_ok
  · exact zeroI_ok⟩
theorem kI_may : mayI kI = true := by decide
theorem kL_may : mayI kL = false := by decide
theorem kI4_may : allMay kI4 = true := by
  unfold allMay kI4
  simp only [List.all_cons, List.all_nil, kI_may, mayI_zero, Bool.and_self]
def kB4 : Bs := blkB kI4
theorem kB4_len : kB4.length = 512 := by unfold kB4; rw [blkB_length kI4_ok.ok, kI4_ok.len]
theorem kB4_E : inoE kB4 = 0 := by unfold inoE kB4; rw [if_pos (iput_back kI4_ok kI4_may).1]
theorem kB4_T : inoT kB4 = kI4 := (iput_back kI4_ok kI4_may).2
theorem kB4_0 : kB4.getD 0 0 = 1#8 := by kernel_rfl
theorem kB4_2 : kB4.getD 2 0 = 1#8 := by kernel_rfl
theorem kB4_4 : kB4.getD 4 0 = 1#8 := by kernel_rfl
theorem kB4_5 : kB4.getD 5 0 = 2#8 := by kernel_rfl
theorem ex_bldKI {ρ : Operand → Value} {o : Oper} {x y z : Operand} {w : World} (ho : o.op = .build 32 #[(0, x), (1, y), (2, z)]) (hx : ρ x = .int .u8 1) (hy : ρ y = .int .u16 1) (hz : ρ z = .int .u32 513) : (execOp ρ o).run Tryd.prog w = .ok (.value (.agg (icells kI).toArray)) w := by
  have hr : (Instr.build 32 #[(0, .int .u8 1), (1, .int .u16 1), (2, .int .u32 513)]).run Tryd.prog w = .ok (.agg (icells kI).toArray) w := run_build w 32 _ _ (by kernel_rfl)
  unfold execOp
  simp only [ho]
  rw [show (Array.map (fun x : Nat × Operand => (x.1, ρ x.2)) #[(0, x), (1, y), (2, z)]) = #[(0, .int .u8 1), (1, .int .u16 1), (2, .int .u32 513)] by simp [hx, hy, hz]]
  simp only [Sem.run_bind, hr, Result.andThen_ok, Sem.run_pure]
theorem ex_bldKL {ρ : Operand → Value} {o : Oper} {x : Operand} {w : World} (ho : o.op = .build 32 #[(0, x)]) (hx : ρ x = .int .u8 3) : (execOp ρ o).run Tryd.prog w = .ok (.value (.agg (icells kL).toArray)) w := by
  have hr : (Instr.build 32 #[(0, .int .u8 3)]).run Tryd.prog w = .ok (.agg (icells kL).toArray) w := run_build w 32 _ _ (by kernel_rfl)
  unfold execOp
  simp only [ho]
  rw [show (Array.map (fun x : Nat × Operand => (x.1, ρ x.2)) #[(0, x)]) = #[(0, .int .u8 3)] by simp [hx]]
  simp only [Sem.run_bind, hr, Result.andThen_ok, Sem.run_pure]
theorem ex_bldKB {ρ : Operand → Value} {o : Oper} {x : Operand} {w : World} (ho : o.op = .build 34 #[(0, x)]) (hx : ρ x = .agg (icells kI).toArray) : (execOp ρ o).run Tryd.prog w = .ok (.value (.agg (bcells kI4).toArray)) w := by
  have hr : (Instr.build 34 #[(0, .agg (icells kI).toArray)]).run Tryd.prog w = .ok (.agg (bcells kI4).toArray) w := run_build w 34 _ _ (by kernel_rfl)
  unfold execOp
  simp only [ho]
  rw [show (Array.map (fun x : Nat × Operand => (x.1, ρ x.2)) #[(0, x)]) = #[(0, .agg (icells kI).toArray)] by simp [hx]]
  simp only [Sem.run_bind, hr, Result.andThen_ok, Sem.run_pure]
structure WkI (w : World) (kk : Ino) (k4 : List Ino) (g1 g4 g o : Nat) (W : World) : Prop where
  a : Blk W g1 (icells kk) 32
  b : Blk W g4 (bcells k4) 34
  gg : g < W.heap.size
  c0 : W.cell? ⟨g, o, none⟩ = some (.int .u8 1)
  c2 : W.cell? ⟨g, o + 2, none⟩ = some (.int .u8 1)
  c4 : W.cell? ⟨g, o + 4, none⟩ = some (.int .u8 1)
  c5 : W.cell? ⟨g, o + 5, none⟩ = some (.int .u8 2)
  tab : RTab W
  bel : Below w.heap.size w W
theorem WkI.grown {w W W' : World} {kk : Ino} {k4 : List Ino} {g1 g4 g o : Nat} (h : WkI w kk k4 g1 g4 g o W) (hb : Below W.heap.size W W') : WkI w kk k4 g1 g4 g o W' :=
  have hc : ∀ j, W'.cell? ⟨g, j, none⟩ = W.cell? ⟨g, j, none⟩ := fun j => World.cell?_of_block (w := W) (a := ⟨g, j, none⟩) (hb.block g h.gg)
  ⟨h.a.below hb h.a.lt, h.b.below hb h.b.lt, Nat.lt_of_lt_of_le h.gg hb.size, (hc _).trans h.c0, (hc _).trans h.c2, (hc _).trans h.c4, (hc _).trans h.c5, h.tab.grown hb, h.bel.trans (hb.mono h.bel.size)⟩
set_option maxRecDepth 100000 in
set_option maxHeartbeats 8000000 in
theorem iwakes_any (w : World) (hT : RTab w) : Calls Tryd.prog 11 #[] w fun e w' => e = .returned (.bool true) ∧ Below w.heap.size w w' := by
  have HT := Lib.hid hT
  obtain ⟨kk, hkk⟩ : ∃ k, kI = k := ⟨_, rfl⟩
  obtain ⟨k4, hk4⟩ : ∃ k, kI4 = k := ⟨_, rfl⟩
  obtain ⟨kl, hkl⟩ : ∃ k, kL = k := ⟨_, rfl⟩
  have HKK := Lib.hid hkk; have HK4 := Lib.hid hk4; have HKL := Lib.hid hkl
  have HKO : Hid kk.OK := Lib.hid (by rw [← hkk]; exact kI_ok)
  have HKB : Hid (BOK k4) := Lib.hid (by rw [← hk4]; exact kI4_ok)
  have HLO : Hid kl.OK := Lib.hid (by rw [← hkl]; exact kL_ok)
  have HBK : Hid (∀ {ρ : Operand → Value} {o : Oper} {x y z : Operand} {w : World}, o.op = .build 32 #[(0, x), (1, y), (2, z)] → ρ x = .int .u8 1 → ρ y = .int .u16 1 → ρ z = .int .u32 513 → (execOp ρ o).run Tryd.prog w = .ok (.value (.agg (icells kk).toArray)) w) := Lib.hid (by rw [← hkk]; exact fun h1 h2 h3 h4 => ex_bldKI h1 h2 h3 h4)
  have HBL : Hid (∀ {ρ : Operand → Value} {o : Oper} {x : Operand} {w : World}, o.op = .build 32 #[(0, x)] → ρ x = .int .u8 3 → (execOp ρ o).run Tryd.prog w = .ok (.value (.agg (icells kl).toArray)) w) := Lib.hid (by rw [← hkl]; exact fun h1 h2 => ex_bldKL h1 h2)
  have HBB : Hid (∀ {ρ : Operand → Value} {o : Oper} {x : Operand} {w : World}, o.op = .build 34 #[(0, x)] → ρ x = .agg (icells kk).toArray → (execOp ρ o).run Tryd.prog w = .ok (.value (.agg (bcells k4).toArray)) w) := Lib.hid (by rw [← hkk, ← hk4]; exact fun h1 h2 => ex_bldKB h1 h2)
  have HPU : Hid (∀ W, RTab W → Calls Tryd.prog 10 #[.agg (bcells k4).toArray] W fun e w' => (∃ v, e = .returned (.tuple #[v, .int .i64 0]) ∧ OwnB w' W.heap.size v kB4) ∧ Below W.heap.size W w') := Lib.hid (fun W h => (iput_any k4 HKB.out W h).mono fun e w' ⟨h1, h2⟩ => ⟨(by
    rcases h1 with ⟨-, h1⟩ | ⟨h1, -⟩
    · rw [← hk4] at h1; exact h1
    · rw [← hk4, kI4_may] at h1; cases h1), h2⟩)
  have HMA : Hid (∀ W, RTab W → Calls Tryd.prog 9 #[.agg (icells kk).toArray] W fun e w' => e = .returned (.bool true) ∧ Below W.heap.size W w') := Lib.hid (fun W h => (imay_any kk HKO.out W h).mono fun e w' ⟨h1, h2⟩ => ⟨by rw [h1, ← hkk, kI_may], h2⟩)
  have HML : Hid (∀ W, RTab W → Calls Tryd.prog 9 #[.agg (icells kl).toArray] W fun e w' => e = .returned (.bool false) ∧ Below W.heap.size W w') := Lib.hid (fun W h => (imay_any kl HLO.out W h).mono fun e w' ⟨h1, h2⟩ => ⟨by rw [h1, ← hkl, kL_may], h2⟩)
  have HK0 : Hid (k4[0]? = some kk) := Lib.hid (by rw [← hk4, ← hkk]; rfl)
  have HSK := Lib.hid (size_icI HKO.out)
  have HSB := Lib.hid (size_bcB HKB.out)
  have HLK : Hid ((icells kk).toArray.size = 44) := Lib.hid (by rw [List.size_toArray, icells_length HKO.out])
  have HLB : Hid ((bcells k4).toArray.size = 176) := Lib.hid HKB.out.size
  have HON := Lib.hid (bcells_one k4)
  clear hT hkk hk4 hkl
  go_enter Tryd.func11, Tryd.ntmps11
  go_upto_region 2 with (first | (refine wpL_valG (by rfl) (HBK.out rfl rfl rfl rfl) ?_) | (refine wpList_store_row rfl 32 (.tmp 1) (.tmp 6) rfl w.heap.size (icells kk).toArray rfl rfl 32 _ (heap_alloc_new w _) HSK.out (by rw [HLK.out]; rfl) (one_ic kk) ?_) | fail)
  refine (fun (k : ∀ W, Blk W w.heap.size (icells kk) 32 → Below w.heap.size w W → Code.wp _ _ _ _ W) => k _ (blk_row1 w _ (icells kk) 32).1 (blk_row1 w _ (icells kk) 32).2) ?_
  intro W1 ha1 hb1
  obtain ⟨g1, hg1⟩ : ∃ g, w.heap.size = g := ⟨_, rfl⟩
  have HB1 := Lib.hid hb1
  rw [hg1] at ha1 ⊢
  have HA1 := Lib.hid ha1
  clear ha1 hb1 hg1
  go_wp2_with (first | (refine wpL_valG (by rfl) (ex_ldIn HKO.out HA1.out rfl rfl) ?_) | (refine wpL_valG (by rfl) (HBB.out rfl rfl) ?_) | fail)
  refine (HPU.out W1 (HT.out.grown HB1.out)).mono ?_
  rintro e W2 ⟨⟨v2, rfl, ho2⟩, hb2⟩
  obtain ⟨sp2, cap2, rfl, q1, q2, q3, q4, q5⟩ := OwnB.form ho2
  have htk := itake_any kB4 sp2 cap2 W2 (by rw [kB4_len]; omega) q4 q1 q3 ((HT.out.grown HB1.out).grown hb2)
  unfold ITakePost at htk
  rw [kB4_len, kB4_E, kB4_T, HK4.out] at htk
  rw [kB4_len]
  obtain ⟨g, o, rfl, hg, hcell⟩ := q3 (by rw [kB4_len]; omega)
  have hA2 := HA1.out.below hb2 HA1.out.lt
  have HB2 := Lib.hid (HB1.out.trans (hb2.mono HB1.out.size))
  have hc0 : W2.cell? ⟨g, o, none⟩ = some (.int .u8 1) := by have := hcell 0 (by rw [kB4_len]; omega); rw [kB4_0] at this; exact this
  have hc2 : W2.cell? ⟨g, o + 2, none⟩ = some (.int .u8 1) := by have := hcell 2 (by rw [kB4_len]; omega); rw [kB4_2] at this; exact this
  have hc4 : W2.cell? ⟨g, o + 4, none⟩ = some (.int .u8 1) := by have := hcell 4 (by rw [kB4_len]; omega); rw [kB4_4] at this; exact this
  have hc5 : W2.cell? ⟨g, o + 5, none⟩ = some (.int .u8 2) := by have := hcell 5 (by rw [kB4_len]; omega); rw [kB4_5] at this; exact this
  have HCC := Lib.hid (And.intro hg (And.intro hc0 (And.intro hc2 (And.intro hc4 hc5))))
  have HTK := Lib.hid htk; have HA2 := Lib.hid hA2; have HQ1 := Lib.hid q1
  clear ho2 hb2 q1 q2 q4 q5 q3 hcell htk hA2 hc0 hc2 hc4 hc5 hg HA1 HPU HBB HBK
  go_wp2_with fail
  refine HTK.out.mono ?_
  rintro e W3 ⟨rfl, hb3⟩
  have HA3 := Lib.hid (HA2.out.below hb3 HA2.out.lt)
  have HB3 := Lib.hid (HB2.out.trans (hb3.mono HB2.out.size))
  have hc3 : ∀ j, W3.cell? ⟨g, j, none⟩ = W2.cell? ⟨g, j, none⟩ := fun j => World.cell?_of_block (w := W2) (a := ⟨g, j, none⟩) (hb3.block g HCC.out.1)
  have HC3 : Hid (g < W3.heap.size ∧ W3.cell? ⟨g, o, none⟩ = some (.int .u8 1) ∧ W3.cell? ⟨g, o + 2, none⟩ = some (.int .u8 1) ∧ W3.cell? ⟨g, o + 4, none⟩ = some (.int .u8 1) ∧ W3.cell? ⟨g, o + 5, none⟩ = some (.int .u8 2)) := Lib.hid (by
    obtain ⟨h1, h2, h3, h4, h5⟩ := HCC.out
    exact ⟨Nat.lt_of_lt_of_le h1 hb3.size, (hc3 _).trans h2, (hc3 _).trans h3, (hc3 _).trans h4, (hc3 _).trans h5⟩)
  rw [show ((0 : Nat) : Int) = (0 : Int) from rfl]
  clear hb3 hc3 HCC HA2 HB2 HTK HB1
  go_upto_region 4 with (first | (refine wpList_store_row rfl 34 (.tmp 4) (.tmp 16) rfl W3.heap.size (bcells k4).toArray rfl rfl 34 _ (heap_alloc_new W3 _) HSB.out (by rw [HLB.out]; rfl) HON.out ?_) | fail)
  have hx4 : ∀ {W4}, Blk W4 W3.heap.size (bcells k4) 34 → Below W3.heap.size W3 W4 → WkI w kk k4 g1 W3.heap.size g o W4 := fun hb hw => by
    obtain ⟨h1, h2, h3, h4, h5⟩ := HC3.out
    have hc4 : ∀ j, _ := fun j => World.cell?_of_block (w := W3) (a := ⟨g, j, none⟩) (hw.block g h1)
    have hbel := HB3.out.trans (hw.mono HB3.out.size)
    exact ⟨HA3.out.below hw HA3.out.lt, hb, Nat.lt_of_lt_of_le h1 hw.size, (hc4 _).trans h2, (hc4 _).trans h3, (hc4 _).trans h4, (hc4 _).trans h5, HT.out.grown hbel, hbel⟩
  refine (fun (k : ∀ W, WkI w kk k4 g1 W3.heap.size g o W → Code.wp _ _ _ _ W) => k _ (hx4 (blk_row1 W3 _ (bcells k4) 34).1 (blk_row1 W3 _ (bcells k4) 34).2)) ?_
  intro W4 hx
  obtain ⟨g4, hg4⟩ : ∃ g, W3.heap.size = g := ⟨_, rfl⟩
  rw [hg4] at hx ⊢
  have hcap := HQ1.out
  rw [kB4_len] at hcap
  have HCP := Lib.hid hcap
  clear hx4 HA3 HB3 HC3 hg4 hcap HQ1
  refine wp_region_list ?_
  refine tl_val (S := fun X => WkI w kk k4 g1 g4 g o X) (.agg (icells kk).toArray) (by rfl) hx (fun X hX => ex_ldIn HKO.out hX.a rfl rfl) ?_
  (try simp only [Act.put, List.setIfInBounds_toArray, List.set_cons_zero, List.set_cons_succ])
  refine tl_call (by rfl) 9 #[.agg (icells kk).toArray] (by go_simp) (fun u X => u = .bool true ∧ WkI w kk k4 g1 g4 g o X) ((HMA.out _ hx.tab).mono fun e Y ⟨e1, hb⟩ => ⟨_, e1, rfl, hx.grown hb⟩) ?_
  rintro u X1 ⟨rfl, hx1⟩
  (try simp only [Act.put, List.setIfInBounds_toArray, List.set_cons_zero, List.set_cons_succ])
  refine tl_val (S := fun X => WkI w kk k4 g1 g4 g o X) (.bool true) (by rfl) hx1 (fun X hX => by first | rfl | go_simp) ?_
  (try simp only [Act.put, List.setIfInBounds_toArray, List.set_cons_zero, List.set_cons_succ])
  refine tl_val (S := fun X => WkI w kk k4 g1 g4 g o X) (.agg (icells kl).toArray) (by rfl) hx1 (fun X hX => HBL.out rfl rfl) ?_
  (try simp only [Act.put, List.setIfInBounds_toArray, List.set_cons_zero, List.set_cons_succ])
  refine tl_call (by rfl) 9 #[.agg (icells kl).toArray] (by go_simp) (fun u X => u = .bool false ∧ WkI w kk k4 g1 g4 g o X) ((HML.out _ hx1.tab).mono fun e Y ⟨e1, hb⟩ => ⟨_, e1, rfl, hx1.grown hb⟩) ?_
  rintro u X2 ⟨rfl, hx2⟩
  (try simp only [Act.put, List.setIfInBounds_toArray, List.set_cons_zero, List.set_cons_succ])
  refine tl_val (S := fun X => WkI w kk k4 g1 g4 g o X) (.bool true) (by rfl) hx2 (fun X hX => by first | rfl | go_simp) ?_
  (try simp only [Act.put, List.setIfInBounds_toArray, List.set_cons_zero, List.set_cons_succ])
  refine tl_val (S := fun X => WkI w kk k4 g1 g4 g o X) (.bool true) (by rfl) hx2 (fun X hX => by first | rfl | go_simp) ?_
  (try simp only [Act.put, List.setIfInBounds_toArray, List.set_cons_zero, List.set_cons_succ])
  refine tl_val (S := fun X => WkI w kk k4 g1 g4 g o X) (.bool true) (by rfl) hx2 (fun X hX => by first | rfl | go_simp) ?_
  (try simp only [Act.put, List.setIfInBounds_toArray, List.set_cons_zero, List.set_cons_succ])
  refine tl_val (S := fun X => WkI w kk k4 g1 g4 g o X) (.int .i64 0) (by rfl) hx2 (fun X hX => by first | rfl | go_simp) ?_
  (try simp only [Act.put, List.setIfInBounds_toArray, List.set_cons_zero, List.set_cons_succ])
  refine tl_val (S := fun X => WkI w kk k4 g1 g4 g o X) (.bool true) (by rfl) hx2 (fun X hX => by first | rfl | go_simp) ?_
  (try simp only [Act.put, List.setIfInBounds_toArray, List.set_cons_zero, List.set_cons_succ])
  refine tl_val (S := fun X => WkI w kk k4 g1 g4 g o X) (.bool true) (by rfl) hx2 (fun X hX => by first | rfl | go_simp) ?_
  (try simp only [Act.put, List.setIfInBounds_toArray, List.set_cons_zero, List.set_cons_succ])
  refine tl_val (S := fun X => WkI w kk k4 g1 g4 g o X) (.bool true) (by rfl) hx2 (fun X hX => by first | rfl | go_simp) ?_
  (try simp only [Act.put, List.setIfInBounds_toArray, List.set_cons_zero, List.set_cons_succ])
  refine tl_val (S := fun X => WkI w kk k4 g1 g4 g o X) (.slice (some ⟨g, o, none⟩) 512 cap2) (by rfl) hx2 (fun X hX => by first | rfl | go_simp) ?_
  (try simp only [Act.put, List.setIfInBounds_toArray, List.set_cons_zero, List.set_cons_succ])
  refine tl_val (S := fun X => WkI w kk k4 g1 g4 g o X) (.int .i64 512) (by rfl) hx2 (fun X hX => by first | rfl | go_simp) ?_
  (try simp only [Act.put, List.setIfInBounds_toArray, List.set_cons_zero, List.set_cons_succ])
  refine tl_val (S := fun X => WkI w kk k4 g1 g4 g o X) (.bool true) (by rfl) hx2 (fun X hX => by first | rfl | go_simp) ?_
  (try simp only [Act.put, List.setIfInBounds_toArray, List.set_cons_zero, List.set_cons_succ])
  refine tl_val (S := fun X => WkI w kk k4 g1 g4 g o X) (.bool true) (by rfl) hx2 (fun X hX => by first | rfl | go_simp) ?_
  (try simp only [Act.put, List.setIfInBounds_toArray, List.set_cons_zero, List.set_cons_succ])
  refine tl_val (S := fun X => WkI w kk k4 g1 g4 g o X) (.bool true) (by rfl) hx2 (fun X hX => by first | rfl | go_simp) ?_
  (try simp only [Act.put, List.setIfInBounds_toArray, List.set_cons_zero, List.set_cons_succ])
  refine tl_val (S := fun X => WkI w kk k4 g1 g4 g o X) (.slice (some ⟨g, o, none⟩) 512 cap2) (by rfl) hx2 (fun X hX => by first | rfl | go_simp) ?_
  (try simp only [Act.put, List.setIfInBounds_toArray, List.set_cons_zero, List.set_cons_succ])
  refine tl_val (S := fun X => WkI w kk k4 g1 g4 g o X) (.pointer (some ⟨g, o, none⟩)) (by rfl) hx2 (fun X hX => (by have := HCP.out; first | rfl | go_simp)) ?_
  (try simp only [Act.put, List.setIfInBounds_toArray, List.set_cons_zero, List.set_cons_succ])
  refine tl_val (S := fun X => WkI w kk k4 g1 g4 g o X) (.int .u8 1) (by rfl) hx2 (fun X hX => ex_ld1 Tryd.underlying5 rfl rfl hX.c0) ?_
  (try simp only [Act.put, List.setIfInBounds_toArray, List.set_cons_zero, List.set_cons_succ])
  refine tl_val (S := fun X => WkI w kk k4 g1 g4 g o X) (.bool true) (by rfl) hx2 (fun X hX => by first | rfl | go_simp) ?_
  (try simp only [Act.put, List.setIfInBounds_toArray, List.set_cons_zero, List.set_cons_succ])
  refine tl_val (S := fun X => WkI w kk k4 g1 g4 g o X) (.bool true) (by rfl) hx2 (fun X hX => by first | rfl | go_simp) ?_
  (try simp only [Act.put, List.setIfInBounds_toArray, List.set_cons_zero, List.set_cons_succ])
  refine tl_val (S := fun X => WkI w kk k4 g1 g4 g o X) (.bool true) (by rfl) hx2 (fun X hX => by first | rfl | go_simp) ?_
  (try simp only [Act.put, List.setIfInBounds_toArray, List.set_cons_zero, List.set_cons_succ])
  refine tl_val (S := fun X => WkI w kk k4 g1 g4 g o X) (.slice (some ⟨g, o, none⟩) 512 cap2) (by rfl) hx2 (fun X hX => by first | rfl | go_simp) ?_
  (try simp only [Act.put, List.setIfInBounds_toArray, List.set_cons_zero, List.set_cons_succ])
  refine tl_val (S := fun X => WkI w kk k4 g1 g4 g o X) (.pointer (some ⟨g, o + 2, none⟩)) (by rfl) hx2 (fun X hX => (by have := HCP.out; first | rfl | go_simp)) ?_
  (try simp only [Act.put, List.setIfInBounds_toArray, List.set_cons_zero, List.set_cons_succ])
  refine tl_val (S := fun X => WkI w kk k4 g1 g4 g o X) (.int .u8 1) (by rfl) hx2 (fun X hX => ex_ld1 Tryd.underlying5 rfl rfl hX.c2) ?_
  (try simp only [Act.put, List.setIfInBounds_toArray, List.set_cons_zero, List.set_cons_succ])
  refine tl_val (S := fun X => WkI w kk k4 g1 g4 g o X) (.bool true) (by rfl) hx2 (fun X hX => by first | rfl | go_simp) ?_
  (try simp only [Act.put, List.setIfInBounds_toArray, List.set_cons_zero, List.set_cons_succ])
  refine tl_val (S := fun X => WkI w kk k4 g1 g4 g o X) (.bool true) (by rfl) hx2 (fun X hX => by first | rfl | go_simp) ?_
  (try simp only [Act.put, List.setIfInBounds_toArray, List.set_cons_zero, List.set_cons_succ])
  refine tl_val (S := fun X => WkI w kk k4 g1 g4 g o X) (.bool true) (by rfl) hx2 (fun X hX => by first | rfl | go_simp) ?_
  (try simp only [Act.put, List.setIfInBounds_toArray, List.set_cons_zero, List.set_cons_succ])
  refine tl_val (S := fun X => WkI w kk k4 g1 g4 g o X) (.slice (some ⟨g, o, none⟩) 512 cap2) (by rfl) hx2 (fun X hX => by first | rfl | go_simp) ?_
  (try simp only [Act.put, List.setIfInBounds_toArray, List.set_cons_zero, List.set_cons_succ])
  refine tl_val (S := fun X => WkI w kk k4 g1 g4 g o X) (.pointer (some ⟨g, o + 4, none⟩)) (by rfl) hx2 (fun X hX => (by have := HCP.out; first | rfl | go_simp)) ?_
  (try simp only [Act.put, List.setIfInBounds_toArray, List.set_cons_zero, List.set_cons_succ])
  refine tl_val (S := fun X => WkI w kk k4 g1 g4 g o X) (.int .u8 1) (by rfl) hx2 (fun X hX => ex_ld1 Tryd.underlying5 rfl rfl hX.c4) ?_
  (try simp only [Act.put, List.setIfInBounds_toArray, List.set_cons_zero, List.set_cons_succ])
  refine tl_val (S := fun X => WkI w kk k4 g1 g4 g o X) (.bool true) (by rfl) hx2 (fun X hX => by first | rfl | go_simp) ?_
  (try simp only [Act.put, List.setIfInBounds_toArray, List.set_cons_zero, List.set_cons_succ])
  refine tl_val (S := fun X => WkI w kk k4 g1 g4 g o X) (.bool true) (by rfl) hx2 (fun X hX => by first | rfl | go_simp) ?_
  (try simp only [Act.put, List.setIfInBounds_toArray, List.set_cons_zero, List.set_cons_succ])
  refine tl_val (S := fun X => WkI w kk k4 g1 g4 g o X) (.bool true) (by rfl) hx2 (fun X hX => by first | rfl | go_simp) ?_
  (try simp only [Act.put, List.setIfInBounds_toArray, List.set_cons_zero, List.set_cons_succ])
  refine tl_val (S := fun X => WkI w kk k4 g1 g4 g o X) (.slice (some ⟨g, o, none⟩) 512 cap2) (by rfl) hx2 (fun X hX => by first | rfl | go_simp) ?_
  (try simp only [Act.put, List.setIfInBounds_toArray, List.set_cons_zero, List.set_cons_succ])
  refine tl_val (S := fun X => WkI w kk k4 g1 g4 g o X) (.pointer (some ⟨g, o + 5, none⟩)) (by rfl) hx2 (fun X hX => (by have := HCP.out; first | rfl | go_simp)) ?_
  (try simp only [Act.put, List.setIfInBounds_toArray, List.set_cons_zero, List.set_cons_succ])
  refine tl_val (S := fun X => WkI w kk k4 g1 g4 g o X) (.int .u8 2) (by rfl) hx2 (fun X hX => ex_ld1 Tryd.underlying5 rfl rfl hX.c5) ?_
  (try simp only [Act.put, List.setIfInBounds_toArray, List.set_cons_zero, List.set_cons_succ])
  refine tl_val (S := fun X => WkI w kk k4 g1 g4 g o X) (.bool true) (by rfl) hx2 (fun X hX => by first | rfl | go_simp) ?_
  (try simp only [Act.put, List.setIfInBounds_toArray, List.set_cons_zero, List.set_cons_succ])
  refine tl_val (S := fun X => WkI w kk k4 g1 g4 g o X) (.bool true) (by rfl) hx2 (fun X hX => by first | rfl | go_simp) ?_
  (try simp only [Act.put, List.setIfInBounds_toArray, List.set_cons_zero, List.set_cons_succ])
  refine tl_val (S := fun X => WkI w kk k4 g1 g4 g o X) (.bool true) (by rfl) hx2 (fun X hX => by first | rfl | go_simp) ?_
  (try simp only [Act.put, List.setIfInBounds_toArray, List.set_cons_zero, List.set_cons_succ])
  refine tl_val (S := fun X => WkI w kk k4 g1 g4 g o X) (.int .i64 0) (by rfl) hx2 (fun X hX => by first | rfl | go_simp) ?_
  (try simp only [Act.put, List.setIfInBounds_toArray, List.set_cons_zero, List.set_cons_succ])
  refine tl_val (S := fun X => WkI w kk k4 g1 g4 g o X) (.bool true) (by rfl) hx2 (fun X hX => by first | rfl | go_simp) ?_
  (try simp only [Act.put, List.setIfInBounds_toArray, List.set_cons_zero, List.set_cons_succ])
  refine tl_val (S := fun X => WkI w kk k4 g1 g4 g o X) (.bool true) (by rfl) hx2 (fun X hX => by first | rfl | go_simp) ?_
  (try simp only [Act.put, List.setIfInBounds_toArray, List.set_cons_zero, List.set_cons_succ])
  refine tl_val (S := fun X => WkI w kk k4 g1 g4 g o X) (.bool true) (by rfl) hx2 (fun X hX => by first | rfl | go_simp) ?_
  (try simp only [Act.put, List.setIfInBounds_toArray, List.set_cons_zero, List.set_cons_succ])
  refine tl_val (S := fun X => WkI w kk k4 g1 g4 g o X) (.pointer (some ⟨g4, 0, none⟩)) (by rfl) hx2 (fun X hX => (ex_iaB (k := 0) (by omega) rfl rfl rfl)) ?_
  (try simp only [Act.put, List.setIfInBounds_toArray, List.set_cons_zero, List.set_cons_succ])
  refine tl_val (S := fun X => WkI w kk k4 g1 g4 g o X) (.agg (icells kk).toArray) (by rfl) hx2 (fun X hX => ex_ldEI HKB.out hX.b HK0.out rfl rfl rfl) ?_
  (try simp only [Act.put, List.setIfInBounds_toArray, List.set_cons_zero, List.set_cons_succ])
  refine tl_val (S := fun X => WkI w kk k4 g1 g4 g o X) (.agg (icells kk).toArray) (by rfl) hx2 (fun X hX => ex_ldIn HKO.out hX.a rfl rfl) ?_
  (try simp only [Act.put, List.setIfInBounds_toArray, List.set_cons_zero, List.set_cons_succ])
  refine tl_val (S := fun X => WkI w kk k4 g1 g4 g o X) (.bool true) (by rfl) hx2 (fun X hX => ex_eqIb (eqI_same kk) rfl rfl rfl HKO.out HKO.out) ?_
  (try simp only [Act.put, List.setIfInBounds_toArray, List.set_cons_zero, List.set_cons_succ])
  refine tl_val (S := fun X => WkI w kk k4 g1 g4 g o X) (.bool true) (by rfl) hx2 (fun X hX => by first | rfl | go_simp) ?_
  (try simp only [Act.put, List.setIfInBounds_toArray, List.set_cons_zero, List.set_cons_succ])
  refine tl_val (S := fun X => WkI w kk k4 g1 g4 g o X) (.bool true) (by rfl) hx2 (fun X hX => by first | rfl | go_simp) ?_
  (try simp only [Act.put, List.setIfInBounds_toArray, List.set_cons_zero, List.set_cons_succ])
  refine tl_call (by rfl) 15 #[.int .u32 513] (by go_simp) (fun u X => u = .int .i64 ((2 : Nat) : Int) ∧ WkI w kk k4 g1 g4 g o X) ((count_any 513 (by omega) _).mono fun e Y ⟨e1, hb⟩ => ⟨_, e1, rfl, by rw [hb]; exact hx2⟩) ?_
  rintro u X3 ⟨rfl, hx3⟩
  (try simp only [Act.put, List.setIfInBounds_toArray, List.set_cons_zero, List.set_cons_succ])
  refine tl_val (S := fun X => WkI w kk k4 g1 g4 g o X) (.bool true) (by rfl) hx3 (fun X hX => by first | rfl | go_simp) ?_
  (try simp only [Act.put, List.setIfInBounds_toArray, List.set_cons_zero, List.set_cons_succ])
  refine tl_val (S := fun X => WkI w kk k4 g1 g4 g o X) (.bool true) (by rfl) hx3 (fun X hX => by first | rfl | go_simp) ?_
  (try simp only [Act.put, List.setIfInBounds_toArray, List.set_cons_zero, List.set_cons_succ])
  refine tl_val (S := fun X => WkI w kk k4 g1 g4 g o X) (.bool true) (by rfl) hx3 (fun X hX => by first | rfl | go_simp) ?_
  (try simp only [Act.put, List.setIfInBounds_toArray, List.set_cons_zero, List.set_cons_succ])
  refine tl_call (by rfl) 16 #[.int .u8 2] (by go_simp) (fun u X => u = .int .u8 ((2 : Nat) : Int) ∧ WkI w kk k4 g1 g4 g o X) ((leaf11_any 2 _).mono fun e Y ⟨e1, hb⟩ => ⟨_, e1, rfl, by rw [hb]; exact hx3⟩) ?_
  rintro u X4 ⟨rfl, hx4⟩
  (try simp only [Act.put, List.setIfInBounds_toArray, List.set_cons_zero, List.set_cons_succ])
  refine tl_val (S := fun X => WkI w kk k4 g1 g4 g o X) (.bool true) (by rfl) hx4 (fun X hX => by first | rfl | go_simp) ?_
  (try simp only [Act.put, List.setIfInBounds_toArray, List.set_cons_zero, List.set_cons_succ])
  refine tl_val (S := fun X => WkI w kk k4 g1 g4 g o X) (.bool true) (by rfl) hx4 (fun X hX => by first | rfl | go_simp) ?_
  (try simp only [Act.put, List.setIfInBounds_toArray, List.set_cons_zero, List.set_cons_succ])
  refine tl_val (S := fun X => WkI w kk k4 g1 g4 g o X) (.bool true) (by rfl) hx4 (fun X hX => by first | rfl | go_simp) ?_
  (try simp only [Act.put, List.setIfInBounds_toArray, List.set_cons_zero, List.set_cons_succ])
  refine wpList_nil ?_
  have HX := hx4
  have HE := Lib.hid HX.bel
  clear HX
  go_wp2_with fail
  go_ret
  exact ⟨rfl, HE.out⟩
end Go.Proofs.YtecngehkdjmjmaaDoor
/- InodeBack, walked. -/
namespace Go.Proofs.YtecngehkdjmjmaaDoor
open Go.RowKit

theorem ex_eqSt {ρ : Operand → Value} {o : Oper} {x y : Operand} {k : TypeId} {a : Bs} {w : World} (ho : o.op = .binOp .eql 9 x y k) (hx : ρ x = .string (bstr a)) (hy : ρ y = .string (bstr a)) : (execOp ρ o).run Tryd.prog w = .ok (.value (.bool true)) w := by
  have h := ex_eql (w := w) ho hx hy
  rw [decide_eq_true rfl] at h
  exact h
/-- So many inodes copied. -/
def cpyI (k : Nat) (ns : List Ino) : List Ino := ns.take k ++ zeros4.drop k
theorem cpyI_ok {ns : List Ino} (h : BOK ns) {k : Nat} (hk : k ≤ 4) : BOK (cpyI k ns) := ⟨by simp [cpyI, zeros4, h.len]; omega, fun p hp => by
  simp only [cpyI, List.mem_append] at hp
  rcases hp with hp | hp
  · exact h.ok p (List.mem_of_mem_take hp)
  · exact zeros4_ok.ok p (List.mem_of_mem_drop hp)⟩
theorem cpyI_next {ns : List Ino} (h : BOK ns) {k : Nat} (hk : k < 4) {n : Ino} (hn : ns[k]? = some n) : cpyI (k + 1) ns = (cpyI k ns).set k n := by
  have e3 : (ns.take k).length = k := by rw [List.length_take, h.len]; omega
  have hz : k < zeros4.length := by simp [zeros4]; omega
  unfold cpyI
  have e4 : zeros4.drop k = zeros4[k] :: zeros4.drop (k + 1) := List.drop_eq_getElem_cons hz
  rw [itake_snoc hn, List.set_append_right _ _ (by omega), e3, Nat.sub_self, e4, List.set_cons_zero, List.append_assoc]
  rfl
theorem cpyI_four {ns : List Ino} (h : BOK ns) : cpyI 4 ns = ns := by
  unfold cpyI
  rw [List.take_of_length_le (by rw [h.len]; omega), List.drop_of_length_le (by simp [zeros4]), List.append_nil]
structure IbW (ns xs : List Ino) (l : Bs) (sp : Option Addr) (w W : World) : Prop where
  a : Blk W w.heap.size (bcells ns) 31
  x : Blk W (w.heap.size + 1) (bcells xs) 34
  src : SrcA W sp l
  tab : RTab W
  bel : Below w.heap.size w W
theorem IbW.grown {ns xs : List Ino} {l : Bs} {sp : Option Addr} {w W W' : World} (h : IbW ns xs l sp w W) (hb : Below W.heap.size W W') : IbW ns xs l sp w W' :=
  ⟨h.a.below hb h.a.lt, h.x.below hb h.x.lt, h.src.grown hb, h.tab.grown hb, h.bel.trans (hb.mono h.bel.size)⟩
theorem IbW.put {ns xs : List Ino} {l : Bs} {sp : Option Addr} {w W : World} (h : IbW ns xs l sp w W) (hS : SrcA w sp l) (hT : RTab w) (hn : BOK xs) {k : Nat} (hk : k < 4) {q : Ino} (hq : q.OK) : IbW ns (xs.set k q) l sp w (W.setCells (w.heap.size + 1) (k * 44) (icells q)) :=
  have hb : Below w.heap.size w (W.setCells (w.heap.size + 1) (k * 44) (icells q)) := below_setsI _ _ _ h.bel (by omega)
  ⟨blk_setCells_other (by omega) _ _ _ _ h.a, blk_setI hn h.x hk (Nat.mul_comm k 44) hq, hS.grown hb, hT.grown hb, hb⟩
end Go.Proofs.YtecngehkdjmjmaaDoor
/- Inodes: the document's Bytes, Block. -/
namespace Go.Proofs.YtecngehkdjmjmaaDoor
open Go.RowKit

/-- While the document's Bytes goes. -/
def QiRel (n : Ino) (w : World) (v : Value) (l : Bs) (wr : World) : Prop := OwnB wr (w.heap.size + 1) v l ∧ Below w.heap.size w wr ∧ Blk wr w.heap.size (icells n) 30
theorem QiRel.next {n : Ino} {w wr w' : World} {v v' : Value} {l l' : Bs} (h : QiRel n w v l wr) (ho : OwnB w' (w.heap.size + 1) v' l') (hb : Below (w.heap.size + 1) wr w') : QiRel n w v' l' w' :=
  have h1 := h.2.2.lt
  ⟨ho, h.2.1.trans (hb.mono (by omega)), h.2.2.below hb (by omega)⟩
theorem QiRel.app {n : Ino} {w wr w4 : World} {v u : Value} {l m : Bs} {k : Nat} (h : QiRel n w v l wr) (hl : l.length ≤ 100) (hm : m.length = k) (hk : k ≤ 100) (ho4 : OwnB w4 wr.heap.size u m) (hb4 : Below wr.heap.size wr w4) :
    ∃ sp n' c v5 w5, (∃ sp4 cap4, u = .slice sp4 k cap4) ∧ v5 = .slice sp n' c ∧ (∀ ty, (Builtin.append_ #[38, 38] ty #[v, u]).run Tryd.prog w4 = .ok v5 w5) ∧ QiRel n w v5 (l ++ m) w5 := by
  obtain ⟨sp4, cap4, e4, q1, q2, q3, q4, q5⟩ := OwnB.form ho4
  subst hm e4
  have h1 := h.2.2.lt
  obtain ⟨v5, w5, hr5, ho5, hb5⟩ := ownB_src (m := m) (h.1.below hb4 (Nat.le_refl _)) (by have := hb4.size; omega) (by omega) q3 q4 38
  obtain ⟨sp, c, e, _⟩ := OwnB.form ho5
  exact ⟨sp, _, c, v5, w5, ⟨_, _, rfl⟩, e, fun _ => hr5, h.next ho5 ((hb4.mono (by omega)).trans hb5)⟩
theorem qi_start {n : Ino} (h : n.OK) (w : World) : QiRel n w (.slice (some ⟨w.heap.size + 1, 0, none⟩) 2 2) (leb n.kind 1 ++ [0#8]) ((w.alloc (.cells (icells n).toArray 30)).alloc (.cells #[.int .u8 (n.kind : Int), .int .u8 0] 5)) := by
  have h : Blk ((w.alloc (.cells (icells n).toArray 30)).alloc (.cells #[.int .u8 (n.kind : Int), .int .u8 0] 5)) (w.heap.size + 1) [V8 (lb n.kind 0), V8 0#8] 5 := Blk.new' _ _ _ _ _ (by simp) (by rw [u8_cell h.kind]; rfl)
  have ho := h.owns (base := w.heap.size + 1) (n := 2) (Nat.le_refl _) (Nat.le_refl _) (by unfold maxLen; simp)
  exact ⟨ho, ((Below.refl _ _).alloc (Nat.le_refl _) _).alloc (by simp) _, (Blk.new _ _ _).alloc _⟩
set_option maxRecDepth 100000 in
set_option maxHeartbeats 8000000 in
theorem ribytes_any (n : Ino) (h : n.OK) (w : World) : Calls Tryd.prog 21 #[.agg (icells n).toArray] w fun e w' => ∃ v, e = .returned v ∧ OwnB w' w.heap.size v (inoB n) ∧ Below w.heap.size w w' := by
  have HN := Lib.hid h
  have HG0 : Hid (Blk (w.alloc (.cells (icells n).toArray 30)) w.heap.size (icells n) 30) := Lib.hid (Blk.new _ _ _)
  have cK := HG0.out.cell (j := 0) rfl
  have b1 := h.links; have b2 := h.size
  have HB1 := Lib.hid b1; have HB2 := Lib.hid b2
  generalize hPost : (fun e w' => ∃ v, e = Ending.returned v ∧ OwnB w' w.heap.size v (inoB n) ∧ Below w.heap.size w w') = Post
  have HP : Hid (∀ v w', OwnB w' w.heap.size v (inoB n) → Below w.heap.size w w' → Post (.returned v) w') := Lib.hid fun v w' h1 h2 => by rw [← hPost]; exact ⟨v, rfl, h1, h2⟩
  clear h b1 b2 hPost
  go_enter Tryd.func21, Tryd.ntmps21
  go_upto_region 2 with fail
  refine (fun (k : ∀ W1, QiRel n w (.slice (some ⟨w.heap.size + 1, 0, none⟩) 2 2) (leb n.kind 1 ++ [0#8]) W1 → Code.wp _ _ _ _ W1) => k _ (qi_start HN.out w)) ?_
  intro W1 hR1
  have HR1 := Lib.hid hR1
  clear cK HG0 hR1
  have c1 : W1.cell? ⟨w.heap.size, 1, none⟩ = some (.int .u16 (n.links : Int)) := HR1.out.2.2.cell rfl
  have e1 := u64_in n.links (by have := HB1.out; omega)
  go_wp2_with fail
  refine (wNum_any n.links 2 W1 (by omega) (by have := HB1.out; omega)).mono ?_
  rintro e w2 ⟨u2, rfl, ho2, hb2⟩
  obtain ⟨sp2, n2, k2, v3, w3, ⟨_, _, rfl⟩, rfl, hr3, hq3⟩ := HR1.out.app (by simp [leb_length]) (leb_length _ _) (by omega) ho2 hb2
  have HA2 := Lib.hid hr3; have HR2 := Lib.hid hq3
  clear ho2 hb2 hr3 hq3 HR1 c1 e1
  have c2 : w3.cell? ⟨w.heap.size, 2, none⟩ = some (.int .u32 (n.size : Int)) := HR2.out.2.2.cell rfl
  have e2 := u64_in n.size (by have := HB2.out; omega)
  go_wp2_with (first | (at_builtin; refine wpL_val rfl (ex_appB rfl rfl rfl (HA2.out _)) ?_) | fail)
  refine (wNum_any n.size 4 w3 (by omega) (by have := HB2.out; omega)).mono ?_
  rintro e w4 ⟨u4, rfl, ho4, hb4⟩
  obtain ⟨sp4, n4, k4, v5, w5, ⟨_, _, rfl⟩, rfl, hr5, hq5⟩ := HR2.out.app (by simp [leb_length]) (leb_length _ _) (by omega) ho4 hb4
  have HA3 := Lib.hid hr5; have HR3 := Lib.hid hq5
  clear ho4 hb4 hr5 hq5 HR2 HA2 c2 e2
  go_wp2_with (first | (at_builtin; refine wpL_val rfl (ex_appB rfl rfl rfl (HA3.out _)) ?_) | (refine wpL_valG (by rfl) (ex_ldRtR HN.out HR3.out.2.2 rfl rfl) ?_) | fail)
  refine (qbytes_any n.root HN.out.root w5).mono ?_
  rintro e w6 ⟨u6, rfl, ho6, hb6⟩
  obtain ⟨sp6, n6, k6, v7, w7, ⟨_, _, rfl⟩, rfl, hr7, hq7⟩ := HR3.out.app (by simp [leb_length]) (padB_length HN.out.root) (by omega) ho6 hb6
  have HA4 := Lib.hid hr7
  obtain ⟨l4, hl4⟩ : ∃ l, leb n.kind 1 ++ [0#8] ++ leb n.links 2 ++ leb n.size 4 ++ padB n.root = l := ⟨_, rfl⟩
  rw [hl4] at hq7
  have hn4 : l4.length = 72 := by rw [← hl4]; simp [leb_length, padB_length HN.out.root]
  have HR4 := Lib.hid hq7; have HL4 := Lib.hid hl4
  obtain ⟨sp8, cap8, e8, q1, q2, q3, q4, q5⟩ := OwnB.form hq7.1
  rw [hn4] at e8
  injection e8 with e9 e10 e11
  subst e9 e10 e11
  have HF := Lib.hid (wFillR_any l4 sp6 k6 128 w7 (by omega) (by omega) q1 q4 q3)
  rw [hn4, fill72 hn4 128 rfl] at HF
  clear ho6 hb6 hr7 hq7 hl4 hn4 q1 q2 q3 q4 q5 HR3 HA3
  go_wp2_with (first | (at_builtin; refine wpL_val rfl (ex_appB rfl rfl rfl (HA4.out _)) ?_) | fail)
  refine HF.out.mono ?_
  rintro e W5 ⟨v5, rfl, ho5, hb5⟩
  have HE := Lib.hid (HP.out v5 W5 (by
    rw [show inoB n = l4 ++ List.replicate 56 0#8 by rw [← HL4.out]; simp [inoB]]
    exact ho5.mono HR4.out.2.1.size) (HR4.out.2.1.trans (hb5.mono HR4.out.2.1.size)))
  clear ho5 hb5
  go_wp2_with fail
  first | exact HE.out | (go_ret; exact HE.out)
theorem ex_iaS {ρ : Operand → Value} {o : Oper} {x y : Operand} {g n cap k : Nat} {w : World} (hk : k < n ∧ n ≤ cap) (ho : o.op = .indexAddr 43 x y) (hx : ρ x = .slice (some ⟨g, 0, none⟩) n cap) (hy : ρ y = .int .i64 (k : Int)) : (execOp ρ o).run Tryd.prog w = .ok (.value (.pointer (some ⟨g, k * 44, none⟩))) w := by
  have h1 : ¬ n ≤ k := by omega
  unfold execOp
  simp only [ho]
  go_simp
set_option maxRecDepth 100000 in
set_option maxHeartbeats 8000000 in
theorem riblock_any (ns : List Ino) (h : BOK ns) (g : Nat) (w : World) (hB : Blk w g (bcells ns) 31) : Calls Tryd.prog 12 #[.slice (some ⟨g, 0, none⟩) 4 4] w fun e w' => ∃ v, e = .returned v ∧ OwnB w' w.heap.size v (blkB ns) ∧ Below w.heap.size w w' := by
  have HP := Lib.hid h; have HB := Lib.hid hB
  generalize hPost : (fun e w' => ∃ v, e = Ending.returned v ∧ OwnB w' w.heap.size v (blkB ns) ∧ Below w.heap.size w w') = Post
  have HQ : Hid (∀ v w', OwnB w' w.heap.size v (blkB ns) → Below w.heap.size w w' → Post (.returned v) w') := Lib.hid fun v w' h1 h2 => by rw [← hPost]; exact ⟨v, rfl, h1, h2⟩
  clear h hB hPost
  go_enter Tryd.func12, Tryd.ntmps12
  go_wp2_with fail
  go_loopw [3, 4] (fun v i wr => ∃ k : Nat, k ≤ 4 ∧ i = .int .i64 (k : Int) ∧ OwnB wr w.heap.size v (blkB (ns.take k)) ∧ Below w.heap.size w wr) (fun _ i _ => 4 - (intOf i).toNat)
  case atStart => exact ⟨0, by omega, rfl, iownB_none _ _, Below.refl _ _⟩
  case round =>
    obtain ⟨k, hk, rfl, hO, hBe⟩ := hrel
    obtain ⟨sp4, cap4, e, -⟩ := OwnB.form hO
    rw [len_blkB HP.out hk] at e
    subst e
    have HBE := Lib.hid hBe
    have HO := Lib.hid hO
    clear hBe hO
    have wk1 := IntWalk.i64_in ((k : Int) + 1) (by omega)
    by_cases hlt : k < 4
    · obtain ⟨n, hn⟩ := HP.out.get hlt
      have HNO := Lib.hid (HP.out.at hn)
      have HAT := Lib.hid hn
      have HLT : Hid (k < 4 ∧ 4 ≤ 4) := Lib.hid ⟨hlt, by omega⟩
      have HBW := Lib.hid (HB.out.below HBE.out HB.out.lt)
      clear hn
      go_wp2_with (first | (refine wpL_valG (by rfl) (ex_iaS HLT.out rfl rfl rfl) ?_) | (refine wpL_valG (by rfl) (ex_ldER HP.out HBW.out HAT.out (Nat.mul_comm k 44) rfl rfl) ?_) | fail)
      refine (ribytes_any n HNO.out wr).mono ?_
      rintro e w6 ⟨v6, rfl, ho6, hb6⟩
      obtain ⟨v7, w7, hr7, ho7, hb7⟩ := own_app2 (HO.out.below hb6 (Nat.le_refl _)) ho6 (Nat.le_trans HBE.out.size hb6.size) (by rw [len_blkB HP.out hk, inoB_length HNO.out]; omega) 38
      rw [← blkB_take HAT.out] at ho7
      obtain ⟨sp7, n7, cap7, rfl⟩ : ∃ sp n c, v7 = .slice sp n c := by
        obtain ⟨sp, c, e, _⟩ := OwnB.form ho7
        exact ⟨sp, _, c, e⟩
      obtain ⟨sp6, n6, cap6, rfl⟩ : ∃ sp n c, v6 = .slice sp n c := by
        obtain ⟨sp, c, e, _⟩ := OwnB.form ho6
        exact ⟨sp, _, c, e⟩
      have HR7 := Lib.hid hr7; have HO7 := Lib.hid ho7
      have HB7 : Hid (Below w.heap.size w w7) := Lib.hid ((HBE.out.trans (hb6.mono HBE.out.size)).trans hb7)
      clear hr7 ho7 hb7 ho6 hb6 HO HBE HBW
      go_wp2_with (first | (at_builtin; refine wpL_val rfl (ex_appB rfl rfl rfl HR7.out) ?_) | fail)
      go_roundw
      case rel => exact ⟨k + 1, by omega, by go_num, HO7.out, HB7.out⟩
      case measure => simp [intOf]; omega
    · obtain rfl : k = 4 := by omega
      rw [List.take_of_length_le (by rw [HP.out.len]; omega)] at HO
      have HE := Lib.hid (HQ.out _ _ HO.out HBE.out)
      clear hlt hk
      go_wp2_with fail
      first | exact HE.out | (go_ret; exact HE.out)
end Go.Proofs.YtecngehkdjmjmaaDoor
