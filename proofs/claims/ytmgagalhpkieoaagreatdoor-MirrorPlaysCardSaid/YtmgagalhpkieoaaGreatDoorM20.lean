/- The digest of a hash, and of bytes. -/
import Derived.Test.YtmgagalhpkieoaaGreatDoorM19
import Derived.Stop.BytesEq
import Derived.Deep.Quiet
import Derived.Test.YtmgagalhpkieoaaGreatDoorM14
import Derived.Deep.RegionLaw
import Derived.WalkSpells
namespace Go.Proofs.YtmgagalhpkieoaaGreatDoor
open Go.RowKit

def full (m : List (BitVec 8)) : List (BitVec 8) := m ++ fill m.length
def digest (m : List (BitVec 8)) : List (BitVec 8) := outBytes (absorb ((full m).length / 64) (full m)).list
theorem digest_length (m : List (BitVec 8)) : (digest m).length = 32 := outBytes_length _
theorem info45 : (Tryz.prog.info? 197).map (·.size) = some 73 := by kernel_rfl
def zero45 : Array Value := (hcells ⟨0#32, 0#32, 0#32, 0#32, 0#32, 0#32, 0#32, 0#32⟩ (List.replicate 64 0#8) 0).toArray
theorem zero45_size : zero45.size = 73 := rfl
theorem zero45_run (W : World) : (zeroValue 197).run Tryz.prog W = .ok (.agg zero45) W := by kernel_rfl
theorem hcells_one (s : St) (rest : List (BitVec 8)) (n : Nat) : (hcells s rest n).toArray.all (·.oneCell') = true := by
  rw [Array.all_eq_true_iff_forall_mem]
  intro v hv
  simp only [hcells, List.mem_toArray, List.mem_append, List.mem_map, List.mem_singleton] at hv
  rcases hv with (⟨x, _, rfl⟩ | ⟨x, _, rfl⟩) | rfl <;> rfl
def SumRel (m rest : List (BitVec 8)) (w W : World) : Prop :=
  Blk W (w.heap.size + 1) (hcells (absorb (m.length / 64) m) rest m.length) 197 ∧ Blk W w.heap.size (List.replicate 32 Z8) 55 ∧ Below w.heap.size w W ∧ Tab W ∧ W.heap.size = w.heap.size + 2
theorem sum_start {m rest : List (BitVec 8)} {w : World} (hh : Holds m rest) (ht : Tab w) (z zs : Array Value) (hz : z = (List.replicate 32 Z8).toArray) :
    SumRel m rest w (((w.alloc (.cells z 55)).alloc (.cells zs 197)).setRow (w.heap.size + 1) (hcells (absorb (m.length / 64) m) rest m.length).toArray) := by
  subst hz
  have hb : Below w.heap.size w (((w.alloc (.cells (List.replicate 32 Z8).toArray 55)).alloc (.cells zs 197)).setRow (w.heap.size + 1) (hcells (absorb (m.length / 64) m) rest m.length).toArray) :=
    below_row (((Below.refl _ _).alloc (Nat.le_refl _) _).alloc (by simp) _) (by omega) _
  refine ⟨setRow_heap _ _ _ _ _ _ (heap_alloc2_new _ _ _), ?_, hb, Tab.below ht hb (Nat.le_refl _), by simp⟩
  exact Blk.rowOther ((Blk.new _ _ _).alloc _) (by omega) _

def FillW (m : List (BitVec 8)) (w w2 : World) (sp : Option Addr) : Prop :=
  HashAt w2 (w.heap.size + 1) m ∧ Src w2 (w.heap.size + 1) sp (fill m.length) ∧ Tab w2 ∧ Blk w2 w.heap.size (List.replicate 32 Z8) 55 ∧ Below w.heap.size w w2 ∧ w.heap.size + 1 < w2.heap.size
theorem sum_fill {m rest : List (BitVec 8)} {w W w2 : World} (h : SumRel m rest w W) (hh : Holds m rest) (hown : w2.ownsRow W.heap.size 5 1 (.slice (some ⟨W.heap.size, 0, none⟩) (fill m.length).length 128) (fill m.length).length ((fill m.length).map V8))
    (hb : Below W.heap.size W w2) : FillW m w w2 (some ⟨W.heap.size, 0, none⟩) := by
  obtain ⟨h1, h2, h3, h4, h5⟩ := h
  refine ⟨⟨rest, hh, h1.below hb (by omega)⟩, fun _ => ⟨W.heap.size, 0, rfl, by omega, (hown.lt _ rfl).2, fun j hj => ?_⟩, h4.below hb (Nat.le_refl _), h2.below hb (by omega), h3.trans (hb.mono (by omega)), by have := hb.size; omega⟩
  rw [Nat.zero_add, hown.cellAt j (by omega)]
  exact get_map V8 _ j hj 0
def WrittenW (m : List (BitVec 8)) (w w3 : World) : Prop :=
  HashAt w3 (w.heap.size + 1) (full m) ∧ Blk w3 w.heap.size (List.replicate 32 Z8) 55 ∧ Below w.heap.size w w3 ∧ w.heap.size + 1 < w3.heap.size
theorem sum_written {m : List (BitVec 8)} {w w2 w3 : World} {sp : Option Addr} (h : FillW m w w2 sp) (hh : HashAt w3 (w.heap.size + 1) (m ++ fill m.length)) (hb : ButFor (w.heap.size + 1) w2 w3) : WrittenW m w w3 := by
  obtain ⟨_, _, _, h4, h5, h6⟩ := h
  exact ⟨hh, hb.blk h4 (by omega), h5.trans (hb.below (by omega) h5.size), by have := hb.size; omega⟩

theorem written_cells {m : List (BitVec 8)} {w w3 : World} (h : WrittenW m w w3) : ∃ sa sb sc sd se sf sg sh, absorb ((full m).length / 64) (full m) = ⟨sa, sb, sc, sd, se, sf, sg, sh⟩ ∧
    w3.cell? ⟨w.heap.size + 1, 0, none⟩ = some (V32 sa) ∧ w3.cell? ⟨w.heap.size + 1, 1, none⟩ = some (V32 sb) ∧ w3.cell? ⟨w.heap.size + 1, 2, none⟩ = some (V32 sc) ∧ w3.cell? ⟨w.heap.size + 1, 3, none⟩ = some (V32 sd) ∧
    w3.cell? ⟨w.heap.size + 1, 4, none⟩ = some (V32 se) ∧ w3.cell? ⟨w.heap.size + 1, 5, none⟩ = some (V32 sf) ∧ w3.cell? ⟨w.heap.size + 1, 6, none⟩ = some (V32 sg) ∧ w3.cell? ⟨w.heap.size + 1, 7, none⟩ = some (V32 sh) := by
  obtain ⟨⟨rest, _, hb⟩, _⟩ := h
  exact ⟨_, _, _, _, _, _, _, _, rfl, hb.cell rfl, hb.cell rfl, hb.cell rfl, hb.cell rfl, hb.cell rfl, hb.cell rfl, hb.cell rfl, hb.cell rfl⟩

set_option maxRecDepth 100000 in
set_option maxHeartbeats 1000000 in
theorem hashSum_any (H : Nat) (m : List (BitVec 8)) (w : World) (hl : m.length < 900000000) (hH : HashAt w H m) (hT : Tab w) :
    Calls Tryz.prog 101 #[.pointer (some ⟨H, 0, none⟩)] w fun e w' => e = .returned (.agg ((digest m).map V8).toArray) ∧ Below w.heap.size w w' := by
  obtain ⟨rest, hho, hbk⟩ := hH
  have HHo := Lib.hid hho
  have HBk := Lib.hid hbk
  have HT := Lib.hid hT
  have hHs : H < w.heap.size := hbk.lt
  have cC : w.cell? ⟨H, 72, none⟩ = some (.int .u64 (m.length : Int)) := hbk.cell (hcells_count _ _ _ hho.len)
  have HS1 : Hid ((Tryz.prog.info? 197).map (·.size) = some (hcells (absorb (m.length / 64) m) rest m.length).toArray.size) := Lib.hid (by rw [info45]; simp [hcells, St.list, hho.len])
  clear hho hbk hT
  have hz45 := zero45_run
  go_enter Tryz.func101, Tryz.ntmps101
  go_wp2_with (first
    | (refine wpList_load_row rfl 197 (.tmp 8) rfl H rfl 197 _ _ _ (HBk.out.alloc _) Tryz.underlying197 rfl HS1.out ?_)
    | (refine wpList_store_row rfl 197 (.tmp 3) (.tmp 9) rfl (w.heap.size + 1) _ rfl rfl 197 _ (heap_alloc2_new _ _ _) HS1.out (by rw [zero45_size]; simp [hcells, St.list, HHo.out.len]) (hcells_one _ _ _) ?_; refine (fun (q : ∀ W, SumRel m rest w W → wpList _ _ _ _ _ W) => q _ (sum_start HHo.out HT.out _ _ rfl)) ?_; intro W hW; have HW := Lib.hid hW; have cC2 : W.cell? ⟨H, 72, none⟩ = some (.int .u64 (m.length : Int)) := (hW.2.2.1.cell (by exact hHs)).trans cC; have hHs2 : H < W.heap.size := Nat.lt_of_lt_of_le hHs hW.2.2.1.size; clear hW)
    | fail)
  clear hz45 cC2 hHs2
  refine (filling_any m.length (by omega) W).mono ?_
  rintro e0 w2 ⟨rfl, hown, hb2⟩
  have HW2 := Lib.hid (sum_fill HW.out HHo.out hown hb2)
  have hfl : (fill m.length).length ≤ 128 := by unfold fill; rw [fillK_length]; have := noughts_lt m.length; omega
  clear hown hb2 HW
  go_wp2_with (first
    | (go_at_call 99; refine (write_any (w.heap.size + 1) m (fill m.length) _ 128 w2 (by omega) hfl (by omega) HW2.out.1 HW2.out.2.1 HW2.out.2.2.1 (by omega)).mono ?_; rintro e1 w3 ⟨rfl, hh3, hbf, ht3⟩; have HW3 := Lib.hid (sum_written HW2.out hh3 hbf); obtain ⟨sa, sb, sc, sd, se, sf, sg, sh, hst, c0, c1, c2, c3, c4, c5, c6, c7⟩ := written_cells HW3.out; have HST := Lib.hid hst; clear hh3 hbf ht3 hst)
    | fail)
  clear c0 c1 c2 c3 c4 c5 c6 c7
  refine (bytesOf_any [sa, sb, sc, sd, se, sf, sg, sh] rfl w3).mono ?_
  rintro e2 w4 ⟨rfl, hb4⟩
  have HZ : Hid (Blk w4 w.heap.size (List.replicate 32 Z8) 55) := Lib.hid (HW3.out.2.1.below hb4 (by have := HW3.out.2.2.2; omega))
  have HB : Hid (Below w.heap.size w w4) := Lib.hid (HW3.out.2.2.1.trans (hb4.mono (by have := HW3.out.2.2.2; omega)))
  have HD : Hid (outBytes [sa, sb, sc, sd, se, sf, sg, sh] = digest m) := Lib.hid (by unfold digest; rw [HST.out]; rfl)
  rw [HD.out]
  have HSZ : Hid ((Tryz.prog.info? 55).map (·.size) = some ((digest m).map V8).toArray.size) := Lib.hid (by rw [info24]; simp [digest_length])
  clear hb4 HW3 HW2 HST HD
  go_wp2_with (first
    | (refine wpList_store_row rfl 55 (.tmp 2) (.tmp 18) rfl w.heap.size _ rfl rfl 55 _ HZ.out HSZ.out (by simp [digest_length]) (one_ints V8 (fun _ => rfl) _) ?_)
    | fail)
  exact bodyPost_ret (results_cell_row Tryz.results101 _ _ w.heap.size 55 _ _ _ rfl (HZ.out.row _) Tryz.underlying55 rfl HSZ.out) rfl ⟨rfl, below_row HB.out (Nat.le_refl _) _⟩

theorem size24d (m : List (BitVec 8)) : (Tryz.prog.info? 55).map (·.size) = some ((digest m).map V8).toArray.size := by rw [info24]; simp [digest_length]

end Go.Proofs.YtmgagalhpkieoaaGreatDoor
/- Digits of unlike digests are unlike. -/
namespace Go.Proofs.YtmgagalhpkieoaaGreatDoor
open Go.RowKit

end Go.Proofs.YtmgagalhpkieoaaGreatDoor
/- A region that draws its order, whose operations each yield one value in every world of a class: walked once, in the order of the text. -/
namespace Go.Proofs.YtmgagalhpkieoaaGreatDoor
open Go.RowKit
section
variable {P : Program} {ops : Array Oper} {C : World → Prop} {Q : Act → Prop} {rest : List Oper} {a : Act} {o : Oper}
end
end Go.Proofs.YtmgagalhpkieoaaGreatDoor
/- The constants and the 64 numbers of a piece, as the reference reckons them. -/
namespace Go.Proofs.YtmgagalhpkieoaaGreatDoor
open Go.RowKit

def Own32 (w : World) (base : Nat) (v : Value) (l : List (BitVec 32)) : Prop := ∃ g cap, v = .slice (some ⟨g, 0, none⟩) l.length cap ∧ base ≤ g ∧ w.ownsRow base 53 1 v l.length (l.map V32)

set_option maxRecDepth 100000 in
theorem constants_any (w : World) :
    Calls Tryz.prog 121 #[] w fun e w' => ∃ v, e = .returned v ∧ Own32 w' w.heap.size v KC ∧ Below w.heap.size w w' := by
  go_enter Tryz.func121, Tryz.ntmps121
  go_wp2
  go_ret
  refine ⟨_, rfl, ⟨w.heap.size, 64, rfl, Nat.le_refl _, ?_⟩, (Below.refl _ _).alloc (Nat.le_refl _) _⟩
  have h : Blk (w.alloc (.cells (KC.map V32).toArray 53)) w.heap.size (KC.map V32) 53 := Blk.new _ _ _
  exact h.owns (n := 64) (Nat.le_refl _) (Nat.le_refl _) (by unfold maxLen; decide)

theorem info36 : (Tryz.prog.info? 53).map (fun i => (i.zero, i.size, i.bytes)) = some (some (.int .u32 0), 1, 4) := by kernel_rfl
def part (pb : List (BitVec 8)) (i : Nat) : Nat → BitVec 32
  | 0 => 0#32
  | k + 1 => part pb i k * 256#32 + up (pb.getD (4 * i + k) 0)
theorem part_word (pb : List (BitVec 8)) (i : Nat) : part pb i 4 = word pb i := by
  simp only [part, word, be]
  generalize pb.getD (4 * i) 0 = b0
  generalize pb.getD (4 * i + 1) 0 = b1
  generalize pb.getD (4 * i + 2) 0 = b2
  generalize pb.getD (4 * i + 3) 0 = b3
  have u (b : BitVec 8) : (up b).toNat = b.toNat := by unfold up; rw [BitVec.toNat_ofNat]; exact Nat.mod_eq_of_lt (by have := b.isLt; omega)
  have h0 := b0.isLt; have h1 := b1.isLt; have h2 := b2.isLt; have h3 := b3.isLt
  apply BitVec.eq_of_toNat_eq
  simp only [BitVec.toNat_add, BitVec.toNat_mul, BitVec.toNat_or, BitVec.toNat_shiftLeft, BitVec.toNat_ofNat, u, Nat.shiftLeft_eq]
  have e1 : b0.toNat * 2 ^ 24 % 2 ^ 32 ||| b1.toNat * 2 ^ 16 % 2 ^ 32 = b0.toNat * 2 ^ 24 + b1.toNat * 2 ^ 16 := by
    rw [Nat.mod_eq_of_lt (by omega), Nat.mod_eq_of_lt (by omega)]
    exact nat_join 24 _ _ (Nat.mul_mod_left _ _) (by omega)
  have e2 : (b0.toNat * 2 ^ 24 + b1.toNat * 2 ^ 16) ||| b2.toNat * 2 ^ 8 % 2 ^ 32 = b0.toNat * 2 ^ 24 + b1.toNat * 2 ^ 16 + b2.toNat * 2 ^ 8 := by
    rw [Nat.mod_eq_of_lt (by omega)]
    exact nat_join 16 _ _ (by omega) (by omega)
  have e3 : (b0.toNat * 2 ^ 24 + b1.toNat * 2 ^ 16 + b2.toNat * 2 ^ 8) ||| b3.toNat = b0.toNat * 2 ^ 24 + b1.toNat * 2 ^ 16 + b2.toNat * 2 ^ 8 + b3.toNat :=
    nat_join 8 _ _ (by omega) (by omega)
  rw [e1, e2, e3]
  omega
theorem part_step (pb : List (BitVec 8)) (i k : Nat) (b : BitVec 8) (hb : pb.getD (4 * i + k) 0 = b) : IntKind.u32.wrap (N32 (part pb i k * 256#32) + N32 (up b)) = N32 (part pb i (k + 1)) := by
  rw [add32, ← hb]; rfl
theorem mul256 (x : BitVec 32) : IntKind.u32.wrap (N32 x * (256 : Int)) = N32 (x * 256#32) := by
  unfold N32
  rw [IntKind.wrap_u32', BitVec.toNat_mul]
  simp

def RelN (B : Nat) (w : World) (l : List (BitVec 32)) (v : Value) (wr : World) : Prop := wr.ownsRow B 53 1 v l.length (l.map V32) ∧ Below B w wr
theorem relN_step {B : Nat} {w wr w1 : World} {l : List (BitVec 32)} {v v' : Value} {o : Obj} {x : BitVec 32} (h : RelN B w l v wr) (ho : w1.ownsRow B 53 1 v' (l.length + 1) (l.map V32 ++ [V32 x])) (hg : (wr.alloc o).grownBy w1 v.ownBlock) (hB : B ≤ wr.heap.size := by omega) : RelN B w (l ++ [x]) v' w1 := by
  refine ⟨by simpa using ho, (h.2.alloc hB o).grown hg (by simp; omega) (fun j hj => ?_)⟩
  exact (h.1.lt j hj).1
theorem one_cell32 (x : BitVec 32) : ∀ u ∈ [V32 x], u.oneCell' = true := by
  intro u hu; simp at hu; subst hu; rfl



end Go.Proofs.YtmgagalhpkieoaaGreatDoor
/- The reference's regions that draw their order: operations on numbers of 32 bits, each by its value; loads; calls that leave the world; a slice that is made; appends of one number. -/
namespace Go.Proofs.YtmgagalhpkieoaaGreatDoor
open Go.RowKit

theorem HashAt.lt {w : World} {H : Nat} {m : List (BitVec 8)} (h : HashAt w H m) : H < w.heap.size := by obtain ⟨_, _, h⟩ := h; exact h.lt
theorem HashAt.below {w W : World} {H B : Nat} {m : List (BitVec 8)} (h : HashAt w H m) (hb : Below B w W) (hB : H < B) : HashAt W H m := by
  obtain ⟨r, h1, h2⟩ := h; exact ⟨r, h1, h2.below hb hB⟩
theorem slice_mid (sp : Option Addr) (L cap a n : Nat) (h : a + n ≤ L) (hc : L ≤ cap) : ∃ sp2, (∀ W : World, (Instr.sliceAt 59 (.slice sp L cap) (some (.int .i64 (a : Int))) (some (.int .i64 ((a : Int) + (n : Int)))) none).run Tryz.prog W = .ok (.slice sp2 n (cap - a)) W) ∧ (a < cap → sp2 = sp.map (·.add a)) ∧ (sp2 = none → sp = none) := by
  refine ⟨if cap = a then sp else sp.map (·.add a), fun W => ?_, fun h => if_neg (by omega), fun h => ?_⟩
  · rw [run_sliceAt_slice W 59 _ _ _ _ elem22, run_slice_lh W 59 sp L cap elem22 .i64 .i64 (a : Int) ((a : Int) + (n : Int)) (by omega) (by omega) (by omega), elem22', sizeOf5]
    have e1 : ((a : Int)).toNat = a := by omega
    have e2 : ((a : Int) + (n : Int)).toNat = a + n := by omega
    simp only [Result.andThen, sliced, e1, e2, Nat.mul_one]
    rw [show a + n - a = n by omega]
  · split at h
    · exact h
    · cases sp <;> simp at h ⊢
section
variable {ρ : Operand → Value} {o : Oper} {x y : Operand} {w : World}
theorem ex_xor32 {k : TypeId} {a b : BitVec 32} (ho : o.op = .binOp .xor 53 x y k) (hx : ρ x = V32 a) (hy : ρ y = V32 b) : (execOp ρ o).run Tryz.prog w = .ok (.value (V32 (a ^^^ b))) w := by
  have e := xor32 a b
  unfold execOp
  simp [go_sem, ho, hx, hy, e]
theorem ex_and32 {k : TypeId} {a b : BitVec 32} (ho : o.op = .binOp .and 53 x y k) (hx : ρ x = V32 a) (hy : ρ y = V32 b) : (execOp ρ o).run Tryz.prog w = .ok (.value (V32 (a &&& b))) w := by
  have e := and32 a b
  unfold execOp
  simp [go_sem, ho, hx, hy, e]
theorem ex_add32 {k : TypeId} {a b : BitVec 32} (ho : o.op = .binOp .add 53 x y k) (hx : ρ x = V32 a) (hy : ρ y = V32 b) : (execOp ρ o).run Tryz.prog w = .ok (.value (V32 (a + b))) w := by
  have e := add32 a b
  unfold execOp
  simp [go_sem, ho, hx, hy, e]
theorem ex_not32 {a : BitVec 32} (ho : o.op = .unOp .xor 53 x) (hx : ρ x = V32 a) : (execOp ρ o).run Tryz.prog w = .ok (.value (V32 (~~~ a))) w := by
  have e := not32 a
  unfold execOp
  have e0 : (if IntKind.u32.signed = true then (-1 : Int) else IntKind.u32.max) = 4294967295 := by decide
  simp [go_sem, ho, hx, e0, e]
theorem ex_subN {t : TypeId} {j c m : Nat} (ho : o.op = .binOp .sub 3 x y t) (hx : ρ x = .int .i64 (j : Int)) (hy : ρ y = .int .i64 (c : Int)) (hj : j ≤ 1000000) (hm : j = m + c) : (execOp ρ o).run Tryz.prog w = .ok (.value (.int .i64 (m : Int))) w := by
  have e := IntWalk.i64_in ((j : Int) - (c : Int)) (by omega)
  have e2 : (j : Int) - (c : Int) = (m : Int) := by omega
  rw [e2] at e
  unfold execOp
  simp [go_sem, ho, hx, hy, e2, e]
theorem ex_idx {sp : Addr} {n c j g o1 : Nat} (ho : o.op = .indexAddr 188 x y) (hx : ρ x = .slice (some sp) n c) (hs : sp = ⟨g, o1, none⟩) (hy : ρ y = .int .i64 (j : Int)) (hj : j < n) (_hn : n ≤ 1000000) : (execOp ρ o).run Tryz.prog w = .ok (.value (.pointer (some ⟨g, o1 + j, none⟩))) w := by
  subst hs
  have h1 : (j : Int) < (n : Int) := by omega
  unfold execOp
  simp only [ho]
  go_simp
theorem ex_load32 {ad : Addr} {z : BitVec 32} (ho : o.op = .load 53 x) (hx : ρ x = .pointer (some ad)) (hc : w.cell? ad = some (V32 z)) : (execOp ρ o).run Tryz.prog w = .ok (.value (V32 z)) w := by
  unfold execOp
  simp only [ho]
  go_simp
theorem ex_slice8 {a b c d e f g h : Operand} {x1 x2 x3 x4 x5 x6 x7 x8 : BitVec 32} (ho : o.op = .buildSlice 188 8 #[(0, a), (1, b), (2, c), (3, d), (4, e), (5, f), (6, g), (7, h)]) (h1 : ρ a = V32 x1) (h2 : ρ b = V32 x2) (h3 : ρ c = V32 x3) (h4 : ρ d = V32 x4) (h5 : ρ e = V32 x5) (h6 : ρ f = V32 x6) (h7 : ρ g = V32 x7) (h8 : ρ h = V32 x8) :
    (execOp ρ o).run Tryz.prog w = .ok (.value (.slice (some ⟨w.heap.size, 0, none⟩) 8 8)) (w.alloc (.cells #[V32 x1, V32 x2, V32 x3, V32 x4, V32 x5, V32 x6, V32 x7, V32 x8] 53)) := by
  unfold execOp
  simp only [ho]
  go_simp
theorem ex_slice1 {a : Operand} {x1 : BitVec 32} (ho : o.op = .buildSlice 188 1 #[(0, a)]) (h1 : ρ a = V32 x1) :
    (execOp ρ o).run Tryz.prog w = .ok (.value (.slice (some ⟨w.heap.size, 0, none⟩) 1 1)) (w.alloc (.cells #[V32 x1] 53)) := by
  unfold execOp
  simp only [ho]
  go_simp
end
section
variable {ops : Array Oper} {Q : Exit → Act → World → Prop} {S : World → Prop}
theorem wpG_same {i : Nat} {r : Tr} {a : Act} {w : World} (o : Oper) (hi : ops.toList[i]? = some o) (hw : Region.wanted o (yielded ops a.tmps) = true) (f : FuncId) (args : Array Value) (hrun : ∀ w, (execOp a.eval o).run Tryz.prog w = .ok (.enter f args) w)
    (hS : S w) (v : Value) (hc : Calls Tryz.prog f args w fun e w' => e = .returned v ∧ w = w')
    (h : wpG Tryz.prog ops Q r S (a.put o.dst v) w) : wpG Tryz.prog ops Q (.step i r) S a w :=
  wpG_call o hi hw f args hrun (fun u w' => u = v ∧ w = w') (hc.mono fun _ w' ⟨e1, e2⟩ => ⟨v, e1, e2 ▸ hS, rfl, e2⟩) fun u w' hS' ⟨hu, hw⟩ => by
    subst hu; subst hw
    exact ⟨S, fun _ h => h, hS', h⟩
end
def Words (g o : Nat) (l : List (BitVec 32)) (W : World) : Prop := ∀ j, j < l.length → W.cell? ⟨g, o + j, none⟩ = some (V32 (l.getD j 0))
theorem Words.block {g o : Nat} {l : List (BitVec 32)} {w W : World} (h : Words g o l w) (hb : W.heap[g]? = w.heap[g]?) : Words g o l W := fun j hj => (World.cell?_of_block (a := ⟨g, o + j, none⟩) hb).trans (h j hj)
theorem Words.below {g o : Nat} {l : List (BitVec 32)} {w W : World} {B : Nat} (h : Words g o l w) (hb : Below B w W) (hg : g < B) : Words g o l W := h.block (hb.block g hg)
theorem Words.alloc {g o : Nat} {l : List (BitVec 32)} {w : World} (h : Words g o l w) (hg : g < w.heap.size) (b : Obj) : Words g o l (w.alloc b) := h.block (Below.heap_alloc w b g hg)
theorem own_words {w : World} {B g n cap : Nat} {l : List (BitVec 32)} (h : w.ownsRow B 53 1 (.slice (some ⟨g, 0, none⟩) n cap) l.length (l.map V32)) : Words g 0 l w := fun j hj => by
  have hn : n = l.length := by rcases h.2 with ⟨e, _⟩ | ⟨_, _, _, e, _⟩ <;> simp at e; omega
  subst hn
  rw [Nat.zero_add, h.cellAt j (by omega)]
  exact get_map V32 _ j hj 0
theorem own_form {w : World} {B : Nat} {v : Value} {l : List (BitVec 32)} (h : w.ownsRow B 53 1 v l.length (l.map V32)) (h0 : 0 < l.length) : ∃ g cap, v = .slice (some ⟨g, 0, none⟩) l.length cap ∧ l.length ≤ cap ∧ B ≤ g ∧ g < w.heap.size := by
  rcases h.2 with ⟨rfl, hn⟩ | ⟨g, cap, cur, rfl, hb, hg, hc, hm, _, _⟩
  · omega
  · exact ⟨g, cap, rfl, hc, hb, (Array.getElem?_eq_some_iff.1 hg).1⟩

theorem run_append_kept {w : World} (B : Nat) (ty : TypeId) (v : Value) (l : List (BitVec 32)) (hown : w.ownsRow B 53 1 v l.length (l.map V32)) (ad : Addr) (c : Nat) (b : BitVec 32) (hcell : w.cell? (ad.add 0) = some (V32 b)) (hl : l.length ≤ 1000000) (hB : B ≤ w.heap.size) :
    ∃ v' w', (Builtin.append_ #[188, 188] ty #[v, .slice (some ad) 1 c]).run Tryz.prog w = .ok v' w' ∧ w'.ownsRow B 53 1 v' (l ++ [b]).length ((l ++ [b]).map V32) ∧ w.grownBy w' v.ownBlock ∧ (∀ g n cap, v = .slice (some ⟨g, 0, none⟩) n cap → Words g 0 l w') := by
  obtain ⟨i0, hi, hz0, hz1, hz2⟩ := info_parts info36
  have hn : ∀ j u, [V32 b][j]? = some u → w.cell? (ad.add j) = some u := fun j u hj => by
    match j, hj with
    | 0, hj => simp at hj; subst hj; exact hcell
  obtain ⟨v', w', hr, h2, h3, h4⟩ := run_append_own (P := Tryz.prog) w B 188 ty 53 i0 (.int .u32 0) 1 4 Tryz.underlying188 hi hz0 hz1 hz2 rfl (by decide) v l.length (l.map V32) hown ad 1 c [V32 b] rfl hn (one_cell32 _) (by unfold maxLen; omega) (by omega) hB
  refine ⟨v', w', hr, by rw [List.map_append, List.length_append]; exact h2, h3, ?_⟩
  rintro g n cap rfl
  have hnn : n = l.length := by rcases hown.2 with ⟨e, _⟩ | ⟨_, _, _, e, _⟩ <;> simp at e; omega
  subst hnn
  have hw := own_words hown
  rcases hown.2 with ⟨e, _⟩ | ⟨g', cap', cur, e, hbg, hg, hnc, hcm, hcs, htake⟩
  · simp at e
  · simp at e
    obtain ⟨rfl, rfl⟩ := e
    by_cases hroom : l.length + 1 ≤ cap
    · have hr2 := run_append_room (P := Tryz.prog) w 188 ty 53 i0 Tryz.underlying188 hi g l.length cap cur hg ad 1 c [V32 b] (by rw [hz1]; rfl) hn (one_cell32 _) hroom (by rw [hz1, hcs]; simp; omega)
      rw [hr] at hr2
      injection hr2 with e1 e2
      subst e1
      have h2' : w'.ownsRow B 53 1 (.slice (some ⟨g, 0, none⟩) (l.length + 1) cap) (l ++ [b]).length ((l ++ [b]).map V32) := by rw [List.map_append, List.length_append]; exact h2
      intro j hj
      have := own_words h2' j (by simp; omega)
      rw [this]
      simp [List.getD_eq_getElem?_getD, List.getElem?_append_left hj]
    · have holds := hown.cells (g := g) rfl
      have hr2 := run_append_grow (P := Tryz.prog) w 188 ty 53 i0 (.int .u32 0) Tryz.underlying188 hi hz0 ⟨g, 0, none⟩ l.length cap (l.map V32) (by rw [hz1]; simp) holds ad 1 c [V32 b] (by rw [hz1]; rfl) hn (by omega) (by omega) (growslice_fits (by omega) (by rw [hz2]; omega))
      rw [hr] at hr2
      injection hr2 with e1 e2
      subst e2
      exact Words.alloc (w := w.drew) hw (Array.getElem?_eq_some_iff.1 hg).1 _
section
variable {ops : Array Oper} {Q : Exit → Act → World → Prop} {S : World → Prop}
theorem wpG_app32 {i : Nat} {r : Tr} {a : Act} {w : World} (o : Oper) (hi : ops.toList[i]? = some o) (hw : Region.wanted o (yielded ops a.tmps) = true) (s x : Operand)
    (ho : o.op = .call { callee := .builtin .append, args := #[s, x], argTypes := #[188, 188] }) (v : Value) (hs : a.eval s = v) (B : Nat) (l : List (BitVec 32)) (hown : w.ownsRow B 53 1 v l.length (l.map V32)) (b : BitVec 32) (ad : Addr) (c : Nat) (hx : a.eval x = .slice (some ad) 1 c) (hcell : w.cell? (ad.add 0) = some (V32 b))
    (hl : l.length ≤ 1000000) (hB : B ≤ w.heap.size)
    (h : ∀ v' w', w'.ownsRow B 53 1 v' (l ++ [b]).length ((l ++ [b]).map V32) → w.grownBy w' v.ownBlock → (∀ g n cap, v = .slice (some ⟨g, 0, none⟩) n cap → Words g 0 l w') → S w' ∧ wpG Tryz.prog ops Q r S (a.put o.dst v') w') : wpG Tryz.prog ops Q (.step i r) S a w := by
  obtain ⟨v', w', hr, h2, h3, h4⟩ := run_append_kept (w := w) B o.type v l hown ad c b hcell hl hB
  obtain ⟨h5, h6⟩ := h v' w' h2 h3 h4
  refine wpG_mk o hi hw v' w' ?_ S h5 (fun _ h => h) h6
  unfold execOp
  simp only [ho, resolve, invoke, builtin, Sem.run_bind, Sem.run_pure, Result.andThen_ok, List.map_toArray, List.map_cons, List.map_nil, hs, hx, hr]
end
end Go.Proofs.YtmgagalhpkieoaaGreatDoor
