/- The faults' states, one behind the other. -/
import Derived.Test.YtneemllgimeacaaWk
import Derived.Lib.ConvBytes
namespace Go.Proofs.Ytneemllgimeacaa
open Go.RowKit

theorem full_nil : full [] = zeros := by
  unfold full fullN zeros
  rw [List.eq_replicate_iff]
  refine ⟨by simp, fun b hb => ?_⟩
  obtain ⟨i, _, rfl⟩ := List.mem_map.1 hb
  rfl
def badF (k : Bk) : Bk := { k with bad := true }
def stickF (k : Bk) : Bk := { k with stuck := true }
def m0 : Nat → Bk := fun _ => blank
def m6 : Nat → Bk := Upd (Upd m0 5 ⟨A2, false, false⟩) 3 ⟨A1, false, false⟩
def m7 : Nat → Bk := Upd m6 3 ⟨A2, false, false⟩
def m8 : Nat → Bk := Upd m7 3 ⟨A2, true, false⟩
def m12 : Nat → Bk := Upd m8 3 ⟨A1, false, false⟩
def m13 : Nat → Bk := Upd m12 3 ⟨A1, false, true⟩
def m15 : Nat → Bk := Upd m13 3 ⟨A2, false, true⟩
theorem take512 {A : Bs} (h : A.length = 512) : A.take 512 = A := List.take_of_length_le (by omega)
theorem drop512 {A : Bs} (h : A.length = 512) : A.drop 512 = [] := List.drop_of_length_le (by omega)
def g2 : Dsk := ⟨9, m0, [], false, true, some 5⟩
def g3 : Dsk := ⟨9, m0, [], false, false, some 5⟩
def g4 : Dsk := ⟨9, m0, [(5, A2)], false, false, none⟩
def g5 : Dsk := ⟨9, m0, [(5, A2), (3, A1)], false, false, none⟩
def g6 : Dsk := ⟨9, m6, [], false, false, none⟩
def g7 : Dsk := ⟨9, m7, [], false, false, none⟩
def g8 : Dsk := ⟨9, m8, [], false, false, none⟩
def g9 : Dsk := ⟨9, m8, [(3, A1)], false, false, none⟩
def g12 : Dsk := ⟨9, m12, [], false, false, none⟩
def g13 : Dsk := ⟨9, m13, [], false, false, none⟩
def g14 : Dsk := ⟨9, m13, [(3, A2)], false, false, none⟩
def g15 : Dsk := ⟨9, m15, [], false, false, none⟩
def g16 : Dsk := ⟨9, m15, [], false, false, some 100⟩
def g20 : Dsk := ⟨9, m15, [], true, false, none⟩
theorem g3_is : wrote g2 p0 3 A1 = (0, g3, p0) := by simp [wrote, idle, g2, g3, p0, Pw.step, A1_length]
theorem g4_is : wrote g3 p0 4 A2 = (0, g4, p0) := by simp [wrote, idle, g3, g4, p0, Pw.step, kept, A2_length]
theorem g5_is : wrote g4 p0 3 A1 = (0, g5, p0) := by simp [wrote, idle, g4, g5, p0, Pw.step, kept, A1_length]
theorem g6_is : flushed g5 p0 = (0, g6, p0) := by
  simp [flushed, idle, g5, g6, m6, p0, Pw.step, settled, come1, m0, blank, take512 A1_length, take512 A2_length, drop512 zeros_length, Upd]
theorem g7_is : ailed g6 3 512 (rotK A2) = (0, g7) := by
  simp [ailed, g6, g7, m7, rotK, A2_length, m6, Upd, others]
theorem g8_is : ailed g7 3 512 badF = (0, g8) := by
  simp [ailed, g7, g8, m8, badF, m7, Upd, others]
theorem g9_is : wrote g8 p0 3 A1 = (0, g9, p0) := by simp [wrote, idle, g8, g9, p0, Pw.step, kept, A1_length]
theorem g10_is : crashed g9 [] = g8 := by simp [crashed, g9, g8, settled, come1, pickOf]
theorem g12_is : flushed g9 p0 = (0, g12, p0) := by
  simp [flushed, idle, g9, g12, m12, p0, Pw.step, settled, come1, m8, take512 A1_length, drop512 A2_length, Upd]
theorem g13_is : ailed g12 3 512 stickF = (0, g13) := by
  simp [ailed, g12, g13, m13, stickF, m12, Upd, others]
theorem g14_is : wrote g13 p0 3 A2 = (0, g14, p0) := by simp [wrote, idle, g13, g14, p0, Pw.step, kept, A2_length]
theorem g15_is : flushed g14 p0 = (0, g15, p0) := by
  simp [flushed, idle, g14, g15, m15, p0, Pw.step, settled, come1, m13, take512 A2_length, drop512 A1_length, Upd]
theorem g17_is : wrote g16 p0 6 A1 = (0, g15, p0) := by simp [wrote, idle, g16, g15, p0, Pw.step, kept, A1_length]
theorem g18_is (f : Bk → Bk) : ailed g15 9 512 f = (1, g15) := by simp [ailed, g15]
theorem g19_is (f : Bk → Bk) : ailed g15 1 0 f = (1, g15) := by simp [ailed, g15]
theorem g21_is : wrote g20 p0 5 A1 = (3, g20, p0) := by simp [wrote, idle, g20]
theorem g22_is : flushed g20 p0 = (3, g20, p0) := by simp [flushed, idle, g20]
def badS : ByteArray := { data := #[98, 97, 100] }
/-- What is told of an address. -/
def telS (s : Dsk) (p : Pw) (a : Nat) : ByteArray := if readE s p a = 6 then badS else bstr ((readB s p a).getD [])
theorem t3 : telS g3 p0 3 = bstr zeros := by simp [telS, readE, readB, idle, g3, p0, tells, lastOf, m0, blank]
theorem t4 : telS g4 p0 4 = bstr zeros := by simp [telS, readE, readB, idle, g4, p0, tells, lastOf, m0, blank]
theorem t45 : telS g4 p0 5 = bstr A2 := by simp [telS, readE, readB, idle, g4, p0, tells, lastOf, m0, blank]
theorem t5 : telS g5 p0 3 = bstr A1 := by simp [telS, readE, readB, idle, g5, p0, tells, lastOf, m0, blank]
theorem t7 : telS g7 p0 3 = bstr A2 := by simp [telS, readE, readB, idle, g7, p0, tells, lastOf, m7, Upd]
theorem t8 : telS g8 p0 3 = { data := #[98, 97, 100] } := by simp [badS, telS, readE, readB, idle, g8, p0, tells, lastOf, m8, Upd]
theorem t9 : telS g9 p0 3 = bstr A1 := by simp [telS, readE, readB, idle, g9, p0, tells, lastOf, m8, Upd]
theorem t12 : telS g12 p0 3 = bstr A1 := by simp [telS, readE, readB, idle, g12, p0, tells, lastOf, m12, Upd]
theorem t15 : telS g15 p0 3 = { data := #[98, 97, 100] } := by simp [badS, telS, readE, readB, idle, g15, p0, tells, lastOf, m15, Upd]
theorem t17 : telS g15 p0 6 = bstr zeros := by simp [telS, readE, readB, idle, g15, p0, tells, lastOf, m15, m13, m12, m8, m7, m6, m0, blank, Upd]
theorem r20 : readE g20 p0 5 = 3 ∧ readB g20 p0 5 = none ∧ look g20 5 = none := by simp [readE, readB, idle, g20, look]

/-- A string's bytes in new memory. -/
theorem conv_bytes (A : Bs) (h : A.length = 512) (W : World) : (convert 9 42 (.string (bstr A))).run Try.prog W = .ok (.slice (some ⟨W.heap.size, 0, none⟩) 512 (grownCap W 512 0 5)) (Lib.bytesWorld W 5 (bstr A)) := by
  have := Lib.run_convert_string_bytes (P := Try.prog) W 9 42 5 (bstr A) Try.underlying9 Try.underlying42 Try.underlying5
  rw [bstr_size, h] at this
  exact this
theorem bytes_below (W : World) (s : ByteArray) : Below W.heap.size W (Lib.bytesWorld W 5 s) := by
  refine ⟨?_, ?_, ?_, by rw [Lib.bytesWorld_size]; omega, fun k hk => Lib.bytesWorld_at_old W 5 s k hk⟩ <;> rfl
theorem bytes_src (A : Bs) (W : World) : SrcA (Lib.bytesWorld W 5 (bstr A)) (some ⟨W.heap.size, 0, none⟩) A := fun _ => by
  refine ⟨W.heap.size, 0, rfl, by rw [Lib.bytesWorld_size]; omega, fun j hj => ?_⟩
  rw [Nat.zero_add, Lib.bytesWorld_cell W 5 (bstr A) j (by rw [bstr_size]; exact hj)]
  rw [← u8v]
  simp [bstr, List.getD_eq_getElem?_getD, List.getElem?_map, hj]
end Go.Proofs.Ytneemllgimeacaa
