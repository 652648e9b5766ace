/- The cell: made, loaded, told. -/
import Derived.Test.YtchbeaogbjmddaaTa
import Derived.Test.YtchbeaogbjmddaaPw
namespace Go.Proofs.Ytchbeaogbjmddaa
open Go.RowKit

def zero64 : Bs := List.replicate 64 0#8
def ccells (Q : Nat) (l : Bs) : List Value := Value.pointer (some ⟨Q, 0, none⟩) :: l.map V8
/-- A cell of these bytes. -/
structure CelAt (w : World) (D Q : Nat) (l : Bs) : Prop where
  blk : Blk w D (ccells Q l) 65
  len : l.length = 64
theorem CelAt.chg {F : Nat → Prop} {w w' : World} {D Q : Nat} {l : Bs} (h : CelAt w D Q l) (hc : Chg F w w') (hn : ¬ F D) : CelAt w' D Q l := ⟨h.blk.chg hc hn, h.len⟩
theorem CelAt.c0 {w : World} {D Q : Nat} {l : Bs} (h : CelAt w D Q l) : w.cell? ⟨D, 0, none⟩ = some (.pointer (some ⟨Q, 0, none⟩)) := h.blk.cell rfl
theorem CelAt.rng {w : World} {D Q : Nat} {l : Bs} (h : CelAt w D Q l) : w.rangeAt D 1 (l.map V8) := h.blk.rng [Value.pointer (some ⟨Q, 0, none⟩)] (l.map V8) [] (by simp [ccells])
theorem size65 : (Try.prog.info? 65).map (·.size) = some 65 := by kernel_rfl
theorem size64 {l : Bs} (h : l.length = 64) : (Try.prog.info? 28).map (·.size) = some (l.map V8).toArray.size := by rw [size28]; simp [h]
theorem one64 (l : Bs) : (l.map V8).toArray.all (·.oneCell') = true := one_ints V8 (fun _ => rfl) _
theorem blk64 (w : World) (z : Array Value) (hz : z = (zero64.map V8).toArray) : Blk (w.alloc (.cells z 28)) w.heap.size (zero64.map V8) 28 ∧ Below w.heap.size w (w.alloc (.cells z 28)) := by
  subst hz
  exact ⟨Blk.new _ _ _, (Below.refl _ _).alloc (Nat.le_refl _) _⟩
theorem bytes_nil (w : World) : Calls Try.prog 17 #[.pointer none] w fun e w' => e = .returned (.agg (zero64.map V8).toArray) ∧ Below w.heap.size w w' := by
  obtain ⟨h1, h2⟩ := blk64 w _ rfl
  have H1 := Lib.hid h1
  have H2 := Lib.hid h2
  clear h1 h2
  go_enter Try.func17, Try.ntmps17
  go_wp2_with (first | (refine wpList_store_row rfl 28 (.tmp 2) (.tmp 5) rfl w.heap.size (zero64.map V8).toArray rfl rfl 28 _ H1.out (size64 (l := zero64) rfl) rfl (one64 _) ?_) | fail)
  exact bodyPost_ret (results_cell_row Try.results17 _ _ w.heap.size 28 _ _ _ rfl (H1.out.row _) Try.underlying28 rfl (size64 (l := zero64) rfl)) rfl ⟨rfl, below_row H2.out (Nat.le_refl _) _⟩
set_option maxRecDepth 100000 in
theorem bytes_any (D Q : Nat) (l : Bs) (w : World) (h : CelAt w D Q l) : Calls Try.prog 17 #[.pointer (some ⟨D, 0, none⟩)] w fun e w' => e = .returned (.agg (l.map V8).toArray) ∧ Below w.heap.size w w' := by
  obtain ⟨h1, h2⟩ := blk64 w _ rfl
  have H1 := Lib.hid h1
  have H2 := Lib.hid h2
  have HC := Lib.hid (h.chg (F := fun _ => False) (Chg.of_below h2) (fun h => h))
  have HLL := Lib.hid h.len
  clear h1 h2 h
  go_enter Try.func17, Try.ntmps17
  go_wp2_with (first | (refine wpL_val rfl (ex_ld (ty := 28) (cs := l.map V8) rfl rfl HC.out.rng Try.underlying28 rfl (by rw [size28]; simp [HLL.out])) ?_) | (refine wpList_store_row rfl 28 (.tmp 2) (.tmp 9) rfl w.heap.size (l.map V8).toArray rfl rfl 28 _ H1.out (size64 HLL.out) (by simp [HLL.out, zero64]) (one64 _) ?_) | fail)
  exact bodyPost_ret (results_cell_row Try.results17 _ _ w.heap.size 28 _ _ _ rfl (H1.out.row _) Try.underlying28 rfl (size64 HLL.out)) rfl ⟨rfl, below_row H2.out (Nat.le_refl _) _⟩
theorem blk29 (w : World) (z : Array Value) (hz : z = (acells zeroA).toArray) : Blk (w.alloc (.cells z 29)) w.heap.size (acells zeroA) 29 ∧ Below w.heap.size w (w.alloc (.cells z 29)) := by
  subst hz
  exact ⟨Blk.new _ _ _, (Below.refl _ _).alloc (Nat.le_refl _) _⟩
theorem size29a {a : An} (h : a.OK) : (Try.prog.info? 29).map (·.size) = some (acells a).toArray.size := by rw [size29]; simp [acells_length h]
theorem zlen : (acells zeroA).toArray.size = 37 := rfl
set_option maxRecDepth 100000 in
set_option maxHeartbeats 4000000 in
theorem load_nil (w : World) : Calls Try.prog 16 #[.pointer none] w fun e w' => e = .returned (.agg (acells (tkA zero64)).toArray) ∧ Below w.heap.size w w' := by
  obtain ⟨h1, h2⟩ := blk29 w _ rfl
  have H1 := Lib.hid h1
  have H2 := Lib.hid h2
  have HLL : Hid (zero64.length = 64) := Lib.hid rfl
  have HOK := Lib.hid (tkA_ok HLL.out)
  clear h1 h2
  go_enter Try.func16, Try.ntmps16
  go_wp2_with fail
  refine (bytes_nil _).mono ?_
  rintro e w1 ⟨rfl, hb1⟩
  have H3 := Lib.hid (H1.out.below hb1 H1.out.lt)
  have H4 := Lib.hid (H2.out.trans (hb1.mono H2.out.size))
  clear hb1
  go_wp2_with fail
  refine (take_any zero64 HLL.out w1).mono ?_
  rintro e w2 ⟨rfl, hb2⟩
  have H5 := Lib.hid (H3.out.below hb2 H3.out.lt)
  have H6 := Lib.hid (H4.out.trans (hb2.mono H4.out.size))
  have hw2 : w.heap.size < w2.heap.size := H5.out.lt
  obtain ⟨a, ha⟩ : ∃ a, tkA zero64 = a := ⟨_, rfl⟩
  have HAA := Lib.hid ha
  rw [ha] at HOK ⊢
  obtain ⟨k7, k8⟩ := blk29 w2 _ rfl
  have H7 := Lib.hid (k7.row (acells a))
  have K7 := Lib.hid k7
  have H8 : Hid (Blk ((w2.alloc (.cells (acells zeroA).toArray 29)).setRow w2.heap.size (acells a).toArray) (w.heap.size) (acells zeroA) 29) := Lib.hid ((H5.out.below k8 H5.out.lt).rowOther (by omega) _)
  have H9 : Hid (Below w.heap.size w ((w2.alloc (.cells (acells zeroA).toArray 29)).setRow w2.heap.size (acells a).toArray)) := Lib.hid (below_row (H6.out.trans (k8.mono H6.out.size)) (by omega) _)
  clear hb2 ha k7 k8 H3 H4
  go_wp2_with (first | (refine wpList_store_row rfl 29 (.tmp 3) (.tmp 9) rfl w2.heap.size (acells a).toArray rfl rfl 29 _ K7.out (size29a HOK.out) (by rw [zlen]; simp [acells_length HOK.out]) (one29 _) ?_) | (refine wpL_val rfl (ex_ld (ty := 29) (cs := acells a) rfl rfl (rng_all H7.out) Try.underlying29 rfl (by rw [size29, acells_length HOK.out])) ?_) | (refine wpList_store_row rfl 29 (.tmp 2) (.tmp 11) rfl w.heap.size (acells a).toArray rfl rfl 29 _ H8.out (size29a HOK.out) (by rw [zlen]; simp [acells_length HOK.out]) (one29 _) ?_) | fail)
  exact bodyPost_ret (results_cell_row Try.results16 _ _ w.heap.size 29 _ _ _ rfl (H8.out.row _) Try.underlying29 rfl (size29a HOK.out)) rfl ⟨by rw [HAA.out], below_row H9.out (Nat.le_refl _) _⟩
set_option maxRecDepth 100000 in
set_option maxHeartbeats 4000000 in
theorem load_any (D Q : Nat) (l : Bs) (w : World) (h : CelAt w D Q l) : Calls Try.prog 16 #[.pointer (some ⟨D, 0, none⟩)] w fun e w' => e = .returned (.agg (acells (tkA l)).toArray) ∧ Below w.heap.size w w' := by
  obtain ⟨h1, h2⟩ := blk29 w _ rfl
  have H1 := Lib.hid h1
  have H2 := Lib.hid h2
  have HC := Lib.hid (h.chg (F := fun _ => False) (Chg.of_below h2) (fun h => h))
  have HLL := Lib.hid h.len
  clear h
  have HOK := Lib.hid (tkA_ok HLL.out)
  clear h1 h2
  go_enter Try.func16, Try.ntmps16
  go_wp2_with fail
  refine (bytes_any D Q l _ HC.out).mono ?_
  rintro e w1 ⟨rfl, hb1⟩
  have H3 := Lib.hid (H1.out.below hb1 H1.out.lt)
  have H4 := Lib.hid (H2.out.trans (hb1.mono H2.out.size))
  clear hb1
  go_wp2_with fail
  refine (take_any l HLL.out w1).mono ?_
  rintro e w2 ⟨rfl, hb2⟩
  have H5 := Lib.hid (H3.out.below hb2 H3.out.lt)
  have H6 := Lib.hid (H4.out.trans (hb2.mono H4.out.size))
  have hw2 : w.heap.size < w2.heap.size := H5.out.lt
  obtain ⟨a, ha⟩ : ∃ a, tkA l = a := ⟨_, rfl⟩
  have HAA := Lib.hid ha
  rw [ha] at HOK ⊢
  obtain ⟨k7, k8⟩ := blk29 w2 _ rfl
  have H7 := Lib.hid (k7.row (acells a))
  have K7 := Lib.hid k7
  have H8 : Hid (Blk ((w2.alloc (.cells (acells zeroA).toArray 29)).setRow w2.heap.size (acells a).toArray) (w.heap.size) (acells zeroA) 29) := Lib.hid ((H5.out.below k8 H5.out.lt).rowOther (by omega) _)
  have H9 : Hid (Below w.heap.size w ((w2.alloc (.cells (acells zeroA).toArray 29)).setRow w2.heap.size (acells a).toArray)) := Lib.hid (below_row (H6.out.trans (k8.mono H6.out.size)) (by omega) _)
  clear hb2 ha k7 k8 H3 H4
  go_wp2_with (first | (refine wpList_store_row rfl 29 (.tmp 3) (.tmp 9) rfl w2.heap.size (acells a).toArray rfl rfl 29 _ K7.out (size29a HOK.out) (by rw [zlen]; simp [acells_length HOK.out]) (one29 _) ?_) | (refine wpL_val rfl (ex_ld (ty := 29) (cs := acells a) rfl rfl (rng_all H7.out) Try.underlying29 rfl (by rw [size29, acells_length HOK.out])) ?_) | (refine wpList_store_row rfl 29 (.tmp 2) (.tmp 11) rfl w.heap.size (acells a).toArray rfl rfl 29 _ H8.out (size29a HOK.out) (by rw [zlen]; simp [acells_length HOK.out]) (one29 _) ?_) | fail)
  exact bodyPost_ret (results_cell_row Try.results16 _ _ w.heap.size 29 _ _ _ rfl (H8.out.row _) Try.underlying29 rfl (size29a HOK.out)) rfl ⟨by rw [HAA.out], below_row H9.out (Nat.le_refl _) _⟩
theorem new_nil (w : World) : Calls Try.prog 12 #[.pointer none] w fun e w' => e = .returned (.tuple #[.pointer none, .int .i64 2]) ∧ w = w' := by
  go_enter Try.func12, Try.ntmps12
  go_wp2
  go_ret2
  exact ⟨rfl, rfl⟩
theorem cel_new (w : World) (Q : Nat) (z : Array Value) (hz : z = (ccells Q zero64).toArray) : CelAt (w.alloc (.cells z 65)) w.heap.size Q zero64 ∧ Below w.heap.size w (w.alloc (.cells z 65)) := by
  subst hz
  exact ⟨⟨Blk.new _ _ _, rfl⟩, (Below.refl _ _).alloc (Nat.le_refl _) _⟩
theorem newc_any (Q : Nat) (p : Pw) (w : World) (h : PwAt w Q p) (hon : p.on = true) : Calls Try.prog 12 #[.pointer (some ⟨Q, 0, none⟩)] w fun e w' => ∃ D, e = .returned (.tuple #[.pointer (some ⟨D, 0, none⟩), .int .i64 0]) ∧ CelAt w' D Q zero64 ∧ w.heap.size ≤ D ∧ Below w.heap.size w w' := by
  have H := Lib.hid h
  have HON := Lib.hid hon
  obtain ⟨h1, h2⟩ := cel_new w Q _ rfl
  have H1 := Lib.hid h1
  have H2 := Lib.hid h2
  clear h hon h1 h2
  go_enter Try.func12, Try.ntmps12
  go_wp2_with (first | (go_at_call 18; refine (is_any Q p _ H.out).mono ?_; rw [HON.out]; rintro e w' ⟨rfl, rfl⟩) | (refine wpList_build' rfl 65 #[(0, .tmp 11)] rfl (ccells Q zero64).toArray (by first | rfl | kernel_rfl) ?_) | fail)
  go_ret2
  exact ⟨w.heap.size, rfl, H1.out, Nat.le_refl _, H2.out⟩
end Go.Proofs.Ytchbeaogbjmddaa
