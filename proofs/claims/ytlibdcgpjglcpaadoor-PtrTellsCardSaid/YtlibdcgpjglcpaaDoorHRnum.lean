/- The constants and the 64 numbers of a piece, as the reference reckons them. -/
import Derived.Test.YtlibdcgpjglcpaaDoorHQuiet
namespace Go.Proofs.YtlibdcgpjglcpaaDoor
open Go.RowKit

/-- A slice of the call's own that holds these numbers. -/
def Own32 (w : World) (base : Nat) (v : Value) (l : List (BitVec 32)) : Prop := ∃ g cap, v = .slice (some ⟨g, 0, none⟩) l.length cap ∧ base ≤ g ∧ w.ownsRow base 23 1 v l.length (l.map V32)

set_option maxRecDepth 100000 in
theorem constants_any (w : World) :
    Calls Tryd.prog 73 #[] w fun e w' => ∃ v, e = .returned v ∧ Own32 w' w.heap.size v KC ∧ Below w.heap.size w w' := by
  go_enter Tryd.func73, Tryd.ntmps73
  go_wp2
  go_ret
  refine ⟨_, rfl, ⟨w.heap.size, 64, rfl, Nat.le_refl _, ?_⟩, (Below.refl _ _).alloc (Nat.le_refl _) _⟩
  have h : Blk (w.alloc (.cells (KC.map V32).toArray 23)) w.heap.size (KC.map V32) 23 := Blk.new _ _ _
  exact h.owns (n := 64) (Nat.le_refl _) (Nat.le_refl _) (by unfold maxLen; decide)

theorem info36 : (Tryd.prog.info? 23).map (fun i => (i.zero, i.size, i.bytes)) = some (some (.int .u32 0), 1, 4) := by kernel_rfl
/-- The first k bytes of a number that is put together, the highest first. -/
def part (pb : List (BitVec 8)) (i : Nat) : Nat → BitVec 32
  | 0 => 0#32
  | k + 1 => part pb i k * 256#32 + up (pb.getD (4 * i + k) 0)
theorem part_word (pb : List (BitVec 8)) (i : Nat) : part pb i 4 = word pb i := by
  simp only [part, word, be]
  generalize pb.getD (4 * i) 0 = b0
  generalize pb.getD (4 * i + 1) 0 = b1
  generalize pb.getD (4 * i + 2) 0 = b2
  generalize pb.getD (4 * i + 3) 0 = b3
  have u (b : BitVec 8) : (up b).toNat = b.toNat := by unfold up; rw [BitVec.toNat_ofNat]; exact Nat.mod_eq_of_lt (by have := b.isLt; omega)
  have h0 := b0.isLt; have h1 := b1.isLt; have h2 := b2.isLt; have h3 := b3.isLt
  apply BitVec.eq_of_toNat_eq
  simp only [BitVec.toNat_add, BitVec.toNat_mul, BitVec.toNat_or, BitVec.toNat_shiftLeft, BitVec.toNat_ofNat, u, Nat.shiftLeft_eq]
  have e1 : b0.toNat * 2 ^ 24 % 2 ^ 32 ||| b1.toNat * 2 ^ 16 % 2 ^ 32 = b0.toNat * 2 ^ 24 + b1.toNat * 2 ^ 16 := by
    rw [Nat.mod_eq_of_lt (by omega), Nat.mod_eq_of_lt (by omega)]
    exact nat_join 24 _ _ (Nat.mul_mod_left _ _) (by omega)
  have e2 : (b0.toNat * 2 ^ 24 + b1.toNat * 2 ^ 16) ||| b2.toNat * 2 ^ 8 % 2 ^ 32 = b0.toNat * 2 ^ 24 + b1.toNat * 2 ^ 16 + b2.toNat * 2 ^ 8 := by
    rw [Nat.mod_eq_of_lt (by omega)]
    exact nat_join 16 _ _ (by omega) (by omega)
  have e3 : (b0.toNat * 2 ^ 24 + b1.toNat * 2 ^ 16 + b2.toNat * 2 ^ 8) ||| b3.toNat = b0.toNat * 2 ^ 24 + b1.toNat * 2 ^ 16 + b2.toNat * 2 ^ 8 + b3.toNat :=
    nat_join 8 _ _ (by omega) (by omega)
  rw [e1, e2, e3]
  omega
theorem part_step (pb : List (BitVec 8)) (i k : Nat) (b : BitVec 8) (hb : pb.getD (4 * i + k) 0 = b) : IntKind.u32.wrap (N32 (part pb i k * 256#32) + N32 (up b)) = N32 (part pb i (k + 1)) := by
  rw [add32, ← hb]; rfl
theorem mul256 (x : BitVec 32) : IntKind.u32.wrap (N32 x * (256 : Int)) = N32 (x * 256#32) := by
  unfold N32
  rw [IntKind.wrap_u32', BitVec.toNat_mul]
  simp

def RelN (B : Nat) (w : World) (l : List (BitVec 32)) (v : Value) (wr : World) : Prop := wr.ownsRow B 23 1 v l.length (l.map V32) ∧ Below B w wr
theorem relN_step {B : Nat} {w wr w1 : World} {l : List (BitVec 32)} {v v' : Value} {o : Obj} {x : BitVec 32} (h : RelN B w l v wr) (ho : w1.ownsRow B 23 1 v' (l.length + 1) (l.map V32 ++ [V32 x])) (hg : (wr.alloc o).grownBy w1 v.ownBlock) (hB : B ≤ wr.heap.size := by omega) : RelN B w (l ++ [x]) v' w1 := by
  refine ⟨by simpa using ho, (h.2.alloc hB o).grown hg (by simp; omega) (fun j hj => ?_)⟩
  exact (h.1.lt j hj).1
theorem one_cell32 (x : BitVec 32) : ∀ u ∈ [V32 x], u.oneCell' = true := by
  intro u hu; simp at hu; subst hu; rfl



end Go.Proofs.YtlibdcgpjglcpaaDoor
