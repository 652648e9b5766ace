/- A hash: made, written, asked. -/
import Derived.Test.YtmgagalhpkieoaaGreatDoorM17
namespace Go.Proofs.YtmgagalhpkieoaaGreatDoor
open Go.RowKit

def hcells (s : St) (rest : List (BitVec 8)) (n : Nat) : List Value := s.list.map V32 ++ rest.map V8 ++ [.int .u64 (n : Int)]


def noughts (n : Nat) : Nat := (64 - (n + 9) % 64) % 64
def lenb (n i : Nat) : BitVec 8 := BitVec.ofNat 8 (8 * n / 2 ^ (56 - 8 * i))
def fillHead (n : Nat) : List (BitVec 8) := 128#8 :: List.replicate (noughts n) 0#8
def fillK (n k : Nat) : List (BitVec 8) := fillHead n ++ (List.range k).map (lenb n)
def fill (n : Nat) : List (BitVec 8) := fillK n 8
theorem fillK_length (n k : Nat) : (fillK n k).length = 1 + noughts n + k := by simp [fillK, fillHead]; omega
theorem fillK_succ (n k : Nat) : fillK n (k + 1) = fillK n k ++ [lenb n k] := by simp [fillK, List.range_succ]
theorem noughts_lt (n : Nat) : noughts n < 64 := Nat.mod_lt _ (by omega)
theorem noughts_int (n : Nat) : (64 - ((n : Int) + 1 + 8) % 64) % 64 = (noughts n : Int) := by unfold noughts; omega
theorem lenb_eq (n i : Nat) : IntKind.u8.wrap ((8 * (n : Int)) / 2 ^ (56 - 8 * i)) = N8 (lenb n i) := by
  unfold N8 lenb
  rw [IntKind.wrap_u8', BitVec.toNat_ofNat]
  simp
theorem info5 : (Tryz.prog.info? 5).map (fun i => (i.zero, i.size, i.bytes)) = some (some (.int .u8 0), 1, 1) := by kernel_rfl

def FillRel (n z B : Nat) (w : World) (k : Nat) (s : Value) (wr : World) : Prop :=
  s = .slice (some ⟨B, 0, none⟩) (z + 1 + k) 128 ∧ wr.ownsRow B 5 1 (.slice (some ⟨B, 0, none⟩) (z + 1 + k) 128) (z + 1 + k) ((fillK n k).map V8) ∧ Below B w wr
theorem fill_start (n z : Nat) (w w1 : World) (hz : noughts n = z) (h : Blk w1 w.heap.size (List.replicate 128 (.int .u8 0)) 5) (hb : Below w.heap.size w w1) :
    FillRel n z w.heap.size w 0 (.slice (some ⟨w.heap.size, 0, none⟩) (z + 1) 128) (w1.setCell ⟨w.heap.size, 0, none⟩ (.int .u8 128)) := by
  subst hz
  have hl := noughts_lt n
  refine ⟨rfl, ?_, hb.setCell (by simp) _⟩
  have h2 := h.set 0 (.int .u8 128)
  have h3 := h2.owns (base := w.heap.size) (n := noughts n + 1) (Nat.le_refl _) (by simp; omega) (by simp [maxLen])
  have e : (((List.replicate 128 (Value.int .u8 0)).set 0 (.int .u8 128)).take (noughts n + 1)) = (fillK n 0).map V8 := by
    simp only [fillK, fillHead, List.range_zero, List.map_nil, List.append_nil, List.map_cons, List.map_replicate]
    show ((.int .u8 128 :: List.replicate 127 (Value.int .u8 0)).take (noughts n + 1)) = _
    rw [List.take_succ_cons, List.take_replicate, show min (noughts n) 127 = noughts n by omega]
    rfl
  rw [e] at h3
  simpa using h3
theorem built45 : Tryz.prog.built 197 [(0, Value.agg #[.int .u32 1779033703, .int .u32 3144134277, .int .u32 1013904242, .int .u32 2773480762, .int .u32 1359893119, .int .u32 2600822924, .int .u32 528734635, .int .u32 1541459225])] = some (hcells H0 (List.replicate 64 0#8) 0).toArray := by kernel_rfl
set_option maxRecDepth 100000 in
theorem shaNew_any (w : World) :
    Calls Tryz.prog 98 #[] w fun e w' => e = .returned (.pointer (some ⟨w.heap.size, 0, none⟩)) ∧ w' = w.alloc (.cells (hcells H0 (List.replicate 64 0#8) 0).toArray 197) := by
  go_enter Tryz.func98, Tryz.ntmps98
  go_wp2_with (first
    | (refine wpList_build' rfl 197 #[(0, .tmp 1)] rfl (hcells H0 (List.replicate 64 0#8) 0).toArray (by rw [Array.toList_map]; exact built45) ?_)
    | fail)
  go_ret
  exact ⟨rfl, rfl⟩

set_option maxRecDepth 100000 in
set_option maxHeartbeats 1000000 in
theorem filling_any (n : Nat) (hn : n < 1100000000) (w : World) :
    Calls Tryz.prog 118 #[.int .u64 (n : Int)] w fun e w' => e = .returned (.slice (some ⟨w.heap.size, 0, none⟩) (fill n).length 128) ∧
      w'.ownsRow w.heap.size 5 1 (.slice (some ⟨w.heap.size, 0, none⟩) (fill n).length 128) (fill n).length ((fill n).map V8) ∧ Below w.heap.size w w' := by
  obtain ⟨i0, hi, hz0, hz1, hz2⟩ := info_parts info5
  have hz := noughts_int n
  have hzl := noughts_lt n
  obtain ⟨z, hzz⟩ : ∃ z, noughts n = z := ⟨_, rfl⟩
  rw [hzz] at hz hzl
  have HZ := Lib.hid hzz
  clear hzz
  go_enter Tryz.func118, Tryz.ntmps118
  go_wp2_with (first
    | (at_make; refine wpList_makeLC rfl (.tmp 13) _ 59 rfl 5 i0 (.int .u8 0) Tryz.underlying59 hi hz0 rfl hz1 .u64 .i64 _ _ (z + 1) 128 rfl rfl (by omega) rfl (by omega) (by rw [hz2]; omega) (by unfold maxLen; omega) ?_; intro w1 hb1 hb2; have HB1 := Lib.hid hb1; have HB2 := Lib.hid hb2; have c0 : w1.cell? ⟨w.heap.size, 0, none⟩ = some (.int .u8 0) := hb1.cell rfl; have f0 := hb1.free 0; have hs0 := hb1.lt; clear hb1 hb2)
    | fail)
  have hF : FillRel n z w.heap.size w 0 (.slice (some ⟨w.heap.size, 0, none⟩) (z + 1) 128) (w1.setCell ⟨w.heap.size, 0, none⟩ (.int .u8 128)) := fill_start n z w w1 HZ.out HB1.out HB2.out
  have HF := Lib.hid hF
  clear hF c0 f0 hs0 HB1
  go_loopw [4, 17] (fun s i wr => ∃ k : Nat, k ≤ 8 ∧ i = .int .i64 k ∧ FillRel n z w.heap.size w k s wr) (fun _ i _ => 8 - (intOf i).toNat)
  case atStart => exact ⟨0, by omega, rfl, HF.out⟩
  case round =>
    clear HF
    obtain ⟨k, hk, rfl, hR⟩ := hrel
    obtain ⟨rfl, hown, hbel⟩ := hR
    have HO := Lib.hid hown
    have HW := Lib.hid hbel
    have hsz : w.heap.size < wr.heap.size := (hown.lt _ rfl).2
    clear hown hbel
    by_cases hlt : k < 8
    · have e2 := IntWalk.i64_in (8 * (k : Int)) (by omega)
      have e3 := IntWalk.i64_in (56 - 8 * (k : Int)) (by omega)
      have p3 : 0 ≤ 56 - 8 * (k : Int) := by omega
      have p3' : 8 * (k : Int) ≤ 56 := by omega
      have r3 : (56 - 8 * (k : Int)).toNat = 56 - 8 * k := by omega
      have m3 : min (56 - 8 * k) 64 = 56 - 8 * k := by omega
      have l3 := lenb_eq n k
      have z1 := hz1
      clear hz1
      have HZ1 := Lib.hid z1
      clear z1
      go_wp2_with (first
        | (at_builtin; refine wpList_append_fits _ rfl (.tmp 20) (.tmp 28) 59 rfl w.heap.size 5 i0 1 Tryz.underlying59 hi HZ1.out w.heap.size (z + 1 + k) 128 _ rfl (HO.out.alloc _) ⟨wr.heap.size, 0, none⟩ 1 1 [V8 (lenb n k)] rfl rfl (one_at _ _ _) (one_cell8 _) (by omega) ?_; intro w2 ho hg)
        | fail)
      go_roundw
      case rel =>
        refine ⟨k + 1, by omega, by go_num, rfl, ?_, ?_⟩
        · rw [fillK_succ, List.map_append]; exact ho
        · exact (HW.out.alloc (by omega) _).grown hg (by simp; omega) (fun j hj => by cases hj; exact Nat.le_refl _)
      case measure => simp [intOf]; omega
    · obtain rfl : k = 8 := by omega
      clear hlt hk
      go_wp2
      go_ret
      have e : (fill n).length = z + 1 + 8 := by unfold fill; rw [fillK_length, HZ.out]; omega
      refine ⟨?_, ?_, HW.out⟩
      · rw [e]; rfl
      · rw [e]; exact HO.out

end Go.Proofs.YtmgagalhpkieoaaGreatDoor
