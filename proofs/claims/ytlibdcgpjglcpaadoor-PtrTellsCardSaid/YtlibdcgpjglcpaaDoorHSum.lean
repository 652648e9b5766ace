/- The digest of a hash, and of bytes. -/
import Derived.Test.YtlibdcgpjglcpaaDoorHWrite
namespace Go.Proofs.YtlibdcgpjglcpaaDoor
open Go.RowKit

def full (m : List (BitVec 8)) : List (BitVec 8) := m ++ fill m.length
def digest (m : List (BitVec 8)) : List (BitVec 8) := outBytes (absorb ((full m).length / 64) (full m)).list
theorem digest_length (m : List (BitVec 8)) : (digest m).length = 32 := outBytes_length _
theorem info45 : (Tryd.prog.info? 100).map (·.size) = some 73 := by kernel_rfl
theorem hcells_length (s : St) (rest : List (BitVec 8)) (n : Nat) (h : rest.length = 64) : (hcells s rest n).length = 73 := by simp [hcells, St.list, h]

def zero45 : Array Value := (hcells ⟨0#32, 0#32, 0#32, 0#32, 0#32, 0#32, 0#32, 0#32⟩ (List.replicate 64 0#8) 0).toArray
theorem zero45_size : zero45.size = 73 := rfl
theorem zero45_run (W : World) : (zeroValue 100).run Tryd.prog W = .ok (.agg zero45) W := by kernel_rfl
theorem hcells_one (s : St) (rest : List (BitVec 8)) (n : Nat) : (hcells s rest n).toArray.all (·.oneCell') = true := by
  rw [Array.all_eq_true_iff_forall_mem]
  intro v hv
  simp only [hcells, List.mem_toArray, List.mem_append, List.mem_map, List.mem_singleton] at hv
  rcases hv with (⟨x, _, rfl⟩ | ⟨x, _, rfl⟩) | rfl <;> rfl
/-- Behind the copy of the hash. -/
def SumRel (m rest : List (BitVec 8)) (w W : World) : Prop :=
  Blk W (w.heap.size + 1) (hcells (absorb (m.length / 64) m) rest m.length) 100 ∧ Blk W w.heap.size (List.replicate 32 Z8) 25 ∧ Below w.heap.size w W ∧ Tab W ∧ W.heap.size = w.heap.size + 2
theorem sum_start {m rest : List (BitVec 8)} {w : World} (hh : Holds m rest) (ht : Tab w) (z zs : Array Value) (hz : z = (List.replicate 32 Z8).toArray) :
    SumRel m rest w (((w.alloc (.cells z 25)).alloc (.cells zs 100)).setRow (w.heap.size + 1) (hcells (absorb (m.length / 64) m) rest m.length).toArray) := by
  subst hz
  have hb : Below w.heap.size w (((w.alloc (.cells (List.replicate 32 Z8).toArray 25)).alloc (.cells zs 100)).setRow (w.heap.size + 1) (hcells (absorb (m.length / 64) m) rest m.length).toArray) :=
    below_row (((Below.refl _ _).alloc (Nat.le_refl _) _).alloc (by simp) _) (by omega) _
  refine ⟨setRow_heap _ _ _ _ _ _ (heap_alloc2_new _ _ _), ?_, hb, Tab.below ht hb (Nat.le_refl _), by simp⟩
  exact Blk.rowOther ((Blk.new _ _ _).alloc _) (by omega) _

/-- Behind the filling. -/
def FillW (m : List (BitVec 8)) (w w2 : World) (sp : Option Addr) : Prop :=
  HashAt w2 (w.heap.size + 1) m ∧ Src w2 (w.heap.size + 1) sp (fill m.length) ∧ Tab w2 ∧ Blk w2 w.heap.size (List.replicate 32 Z8) 25 ∧ Below w.heap.size w w2 ∧ w.heap.size + 1 < w2.heap.size
theorem sum_fill {m rest : List (BitVec 8)} {w W w2 : World} (h : SumRel m rest w W) (hh : Holds m rest) (hown : w2.ownsRow W.heap.size 5 1 (.slice (some ⟨W.heap.size, 0, none⟩) (fill m.length).length 128) (fill m.length).length ((fill m.length).map V8))
    (hb : Below W.heap.size W w2) : FillW m w w2 (some ⟨W.heap.size, 0, none⟩) := by
  obtain ⟨h1, h2, h3, h4, h5⟩ := h
  refine ⟨⟨rest, hh, h1.below hb (by omega)⟩, fun _ => ⟨W.heap.size, 0, rfl, by omega, (hown.lt _ rfl).2, fun j hj => ?_⟩, h4.below hb (Nat.le_refl _), h2.below hb (by omega), h3.trans (hb.mono (by omega)), by have := hb.size; omega⟩
  rw [Nat.zero_add, hown.cellAt j (by omega)]
  exact get_map V8 _ j hj 0
/-- Behind the writing. -/
def WrittenW (m : List (BitVec 8)) (w w3 : World) : Prop :=
  HashAt w3 (w.heap.size + 1) (full m) ∧ Blk w3 w.heap.size (List.replicate 32 Z8) 25 ∧ Below w.heap.size w w3 ∧ w.heap.size + 1 < w3.heap.size
theorem sum_written {m : List (BitVec 8)} {w w2 w3 : World} {sp : Option Addr} (h : FillW m w w2 sp) (hh : HashAt w3 (w.heap.size + 1) (m ++ fill m.length)) (hb : ButFor (w.heap.size + 1) w2 w3) : WrittenW m w w3 := by
  obtain ⟨_, _, _, h4, h5, h6⟩ := h
  exact ⟨hh, hb.blk h4 (by omega), h5.trans (hb.below (by omega) h5.size), by have := hb.size; omega⟩

theorem written_cells {m : List (BitVec 8)} {w w3 : World} (h : WrittenW m w w3) : ∃ sa sb sc sd se sf sg sh, absorb ((full m).length / 64) (full m) = ⟨sa, sb, sc, sd, se, sf, sg, sh⟩ ∧
    w3.cell? ⟨w.heap.size + 1, 0, none⟩ = some (V32 sa) ∧ w3.cell? ⟨w.heap.size + 1, 1, none⟩ = some (V32 sb) ∧ w3.cell? ⟨w.heap.size + 1, 2, none⟩ = some (V32 sc) ∧ w3.cell? ⟨w.heap.size + 1, 3, none⟩ = some (V32 sd) ∧
    w3.cell? ⟨w.heap.size + 1, 4, none⟩ = some (V32 se) ∧ w3.cell? ⟨w.heap.size + 1, 5, none⟩ = some (V32 sf) ∧ w3.cell? ⟨w.heap.size + 1, 6, none⟩ = some (V32 sg) ∧ w3.cell? ⟨w.heap.size + 1, 7, none⟩ = some (V32 sh) := by
  obtain ⟨⟨rest, _, hb⟩, _⟩ := h
  exact ⟨_, _, _, _, _, _, _, _, rfl, hb.cell rfl, hb.cell rfl, hb.cell rfl, hb.cell rfl, hb.cell rfl, hb.cell rfl, hb.cell rfl, hb.cell rfl⟩

set_option maxRecDepth 100000 in
set_option maxHeartbeats 1000000 in
theorem hashSum_any (H : Nat) (m : List (BitVec 8)) (w : World) (hl : m.length < 900000000) (hH : HashAt w H m) (hT : Tab w) :
    Calls Tryd.prog 45 #[.pointer (some ⟨H, 0, none⟩)] w fun e w' => e = .returned (.agg ((digest m).map V8).toArray) ∧ Below w.heap.size w w' := by
  obtain ⟨rest, hho, hbk⟩ := hH
  have HHo := Lib.hid hho
  have HBk := Lib.hid hbk
  have HT := Lib.hid hT
  have hHs : H < w.heap.size := hbk.lt
  have cC : w.cell? ⟨H, 72, none⟩ = some (.int .u64 (m.length : Int)) := hbk.cell (hcells_count _ _ _ hho.len)
  have HS1 : Hid ((Tryd.prog.info? 100).map (·.size) = some (hcells (absorb (m.length / 64) m) rest m.length).toArray.size) := Lib.hid (by rw [info45]; simp [hcells, St.list, hho.len])
  clear hho hbk hT
  have hz45 := zero45_run
  go_enter Tryd.func45, Tryd.ntmps45
  go_wp2_with (first
    | (refine wpList_load_row rfl 100 (.tmp 8) rfl H rfl 100 _ _ _ (HBk.out.alloc _) Tryd.underlying100 rfl HS1.out ?_)
    | (refine wpList_store_row rfl 100 (.tmp 3) (.tmp 9) rfl (w.heap.size + 1) _ rfl rfl 100 _ (heap_alloc2_new _ _ _) HS1.out (by rw [zero45_size]; simp [hcells, St.list, HHo.out.len]) (hcells_one _ _ _) ?_; refine (fun (q : ∀ W, SumRel m rest w W → wpList _ _ _ _ _ W) => q _ (sum_start HHo.out HT.out _ _ rfl)) ?_; intro W hW; have HW := Lib.hid hW; have cC2 : W.cell? ⟨H, 72, none⟩ = some (.int .u64 (m.length : Int)) := (hW.2.2.1.cell (by exact hHs)).trans cC; have hHs2 : H < W.heap.size := Nat.lt_of_lt_of_le hHs hW.2.2.1.size; clear hW)
    | fail)
  clear hz45 cC2 hHs2
  refine (filling_any m.length (by omega) W).mono ?_
  rintro e0 w2 ⟨rfl, hown, hb2⟩
  have HW2 := Lib.hid (sum_fill HW.out HHo.out hown hb2)
  have hfl : (fill m.length).length ≤ 128 := by unfold fill; rw [fillK_length]; have := noughts_lt m.length; omega
  clear hown hb2 HW
  go_wp2_with (first
    | (go_at_call 44; refine (write_any (w.heap.size + 1) m (fill m.length) _ 128 w2 (by omega) hfl (by omega) HW2.out.1 HW2.out.2.1 HW2.out.2.2.1 (by omega)).mono ?_; rintro e1 w3 ⟨rfl, hh3, hbf, ht3⟩; have HW3 := Lib.hid (sum_written HW2.out hh3 hbf); obtain ⟨sa, sb, sc, sd, se, sf, sg, sh, hst, c0, c1, c2, c3, c4, c5, c6, c7⟩ := written_cells HW3.out; have HST := Lib.hid hst; clear hh3 hbf ht3 hst)
    | fail)
  clear c0 c1 c2 c3 c4 c5 c6 c7
  refine (bytesOf_any [sa, sb, sc, sd, se, sf, sg, sh] rfl w3).mono ?_
  rintro e2 w4 ⟨rfl, hb4⟩
  have HZ : Hid (Blk w4 w.heap.size (List.replicate 32 Z8) 25) := Lib.hid (HW3.out.2.1.below hb4 (by have := HW3.out.2.2.2; omega))
  have HB : Hid (Below w.heap.size w w4) := Lib.hid (HW3.out.2.2.1.trans (hb4.mono (by have := HW3.out.2.2.2; omega)))
  have HD : Hid (outBytes [sa, sb, sc, sd, se, sf, sg, sh] = digest m) := Lib.hid (by unfold digest; rw [HST.out]; rfl)
  rw [HD.out]
  have HSZ : Hid ((Tryd.prog.info? 25).map (·.size) = some ((digest m).map V8).toArray.size) := Lib.hid (by rw [info24]; simp [digest_length])
  clear hb4 HW3 HW2 HST HD
  go_wp2_with (first
    | (refine wpList_store_row rfl 25 (.tmp 2) (.tmp 18) rfl w.heap.size _ rfl rfl 25 _ HZ.out HSZ.out (by simp [digest_length]) (one_ints V8 (fun _ => rfl) _) ?_)
    | fail)
  exact bodyPost_ret (results_cell_row Tryd.results45 _ _ w.heap.size 25 _ _ _ rfl (HZ.out.row _) Tryd.underlying25 rfl HSZ.out) rfl ⟨rfl, below_row HB.out (Nat.le_refl _) _⟩

theorem SrcA.src {w W : World} {sp : Option Addr} {bs : List (BitVec 8)} (h : SrcA w sp bs) {H : Nat} (hb : Below w.heap.size w W) (hH : w.heap.size ≤ H) : Src W H sp bs := fun h0 => by
  obtain ⟨g, o, rfl, hg, hc⟩ := h h0
  exact ⟨g, o, rfl, by omega, Nat.lt_of_lt_of_le hg hb.size, fun j hj => (hb.cell (p := ⟨g, o + j, none⟩) hg).trans (hc j hj)⟩
def NewW (w W : World) : Prop :=
  HashAt W (w.heap.size + 1) [] ∧ Blk W w.heap.size (List.replicate 32 Z8) 25 ∧ Below w.heap.size w W ∧ W.heap.size = w.heap.size + 2
theorem new_start (w : World) (z : Array Value) (hz : z = (List.replicate 32 Z8).toArray) : NewW w ((w.alloc (.cells z 25)).alloc (.cells (hcells H0 (List.replicate 64 0#8) 0).toArray 100)) := by
  subst hz
  refine ⟨⟨List.replicate 64 0#8, ⟨rfl, rfl⟩, ?_⟩, (Blk.new _ _ _).alloc _, ((Below.refl _ _).alloc (Nat.le_refl _) _).alloc (by simp) _, by simp⟩
  exact Blk.new' _ _ _ _ _ (by simp) rfl

theorem new_written {bs : List (BitVec 8)} {w W w2 : World} (h : NewW w W) (hh : HashAt w2 (w.heap.size + 1) ([] ++ bs)) (hb : ButFor (w.heap.size + 1) W w2) :
    HashAt w2 (w.heap.size + 1) bs ∧ Blk w2 w.heap.size (List.replicate 32 Z8) 25 ∧ Below w.heap.size w w2 := by
  obtain ⟨_, h2, h3, h4⟩ := h
  exact ⟨by simpa using hh, hb.blk h2 (by omega), h3.trans (hb.below (by omega) (by omega))⟩
theorem size24d (m : List (BitVec 8)) : (Tryd.prog.info? 25).map (·.size) = some ((digest m).map V8).toArray.size := by rw [info24]; simp [digest_length]

set_option maxRecDepth 100000 in
set_option maxHeartbeats 1000000 in
theorem shaSum_any (bs : List (BitVec 8)) (sp : Option Addr) (cap : Nat) (w : World) (hl : bs.length < 900000000) (hc : bs.length ≤ cap) (hc2 : cap ≤ 9223372036854775807) (hS : SrcA w sp bs) (hT : Tab w) :
    Calls Tryd.prog 58 #[.slice sp bs.length cap] w fun e w' => e = .returned (.agg ((digest bs).map V8).toArray) ∧ Below w.heap.size w w' := by
  have HS := Lib.hid hS
  have HT := Lib.hid hT
  clear hS hT
  go_enter Tryd.func58, Tryd.ntmps58
  go_wp2_with fail
  refine (shaNew_any _).mono ?_
  rintro e0 W ⟨rfl, hw1⟩
  have hN : NewW w W := by rw [hw1]; exact new_start w _ rfl
  clear hw1
  simp only [World.size_alloc]
  have HN := Lib.hid hN
  have hT1 : Tab W := HT.out.below hN.2.2.1 (Nat.le_refl _)
  have HT1 := Lib.hid hT1
  have HS1 := Lib.hid (HS.out.src hN.2.2.1 (H := w.heap.size + 1) (by omega))
  clear hN hT1
  go_wp2_with (first
    | (go_at_call 44; refine (write_any (w.heap.size + 1) [] bs sp cap W (by simp; omega) hc hc2 HN.out.1 HS1.out HT1.out (by have := HT.out.lt; omega)).mono ?_; rintro e1 w2 ⟨rfl, hh2, hbf, ht2⟩; have HW2 := Lib.hid (new_written HN.out hh2 hbf); have HT2 := Lib.hid ht2; clear hh2 hbf ht2)
    | (go_at_call 45; refine (hashSum_any (w.heap.size + 1) bs w2 hl HW2.out.1 HT2.out).mono ?_; rintro e2 w3 ⟨rfl, hb3⟩; have HZ : Hid (Blk w3 w.heap.size (List.replicate 32 Z8) 25) := Lib.hid (HW2.out.2.1.below hb3 HW2.out.2.1.lt); have HB : Hid (Below w.heap.size w w3) := Lib.hid (HW2.out.2.2.trans (hb3.mono HW2.out.2.2.size)); clear hb3 HW2 HT2)
    | (refine wpList_store_row rfl 25 (.tmp 2) (.tmp 9) rfl w.heap.size _ rfl rfl 25 _ HZ.out (size24d bs) (by simp [digest_length]) (one_ints V8 (fun _ => rfl) _) ?_)
    | fail)
  exact bodyPost_ret (results_cell_row Tryd.results58 _ _ w.heap.size 25 _ _ _ rfl (HZ.out.row _) Tryd.underlying25 rfl (size24d bs)) rfl ⟨rfl, below_row HB.out (Nat.le_refl _) _⟩

end Go.Proofs.YtlibdcgpjglcpaaDoor
