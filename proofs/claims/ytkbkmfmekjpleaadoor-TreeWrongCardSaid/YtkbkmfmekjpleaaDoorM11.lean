/- A state that takes in a piece, as the program reckons it. -/
import Derived.Test.YtkbkmfmekjpleaaDoorM10
import Derived.Deep.RegionWith
import Derived.Deep.RegionHeld3
import Derived.Deep.MidRow
import Derived.Stop.BytesEq
import Derived.Deep.Quiet
import Derived.Test.YtkbkmfmekjpleaaDoorM07
import Derived.Deep.RegionLaw
import Derived.WalkSpells
namespace Go.Proofs.YtkbkmfmekjpleaaDoor
open Go.RowKit

def KC : List (BitVec 32) := [1116352408#32, 1899447441#32, 3049323471#32, 3921009573#32, 961987163#32, 1508970993#32, 2453635748#32, 2870763221#32, 3624381080#32, 310598401#32, 607225278#32, 1426881987#32, 1925078388#32, 2162078206#32, 2614888103#32, 3248222580#32, 3835390401#32, 4022224774#32, 264347078#32, 604807628#32, 770255983#32, 1249150122#32, 1555081692#32, 1996064986#32, 2554220882#32, 2821834349#32, 2952996808#32, 3210313671#32, 3336571891#32, 3584528711#32, 113926993#32, 338241895#32, 666307205#32, 773529912#32, 1294757372#32, 1396182291#32, 1695183700#32, 1986661051#32, 2177026350#32, 2456956037#32, 2730485921#32, 2820302411#32, 3259730800#32, 3345764771#32, 3516065817#32, 3600352804#32, 4094571909#32, 275423344#32, 430227734#32, 506948616#32, 659060556#32, 883997877#32, 958139571#32, 1322822218#32, 1537002063#32, 1747873779#32, 1955562222#32, 2024104815#32, 2227730452#32, 2361852424#32, 2428436474#32, 2756734187#32, 3204031479#32, 3329325298#32]
structure St where
  a : BitVec 32
  b : BitVec 32
  c : BitVec 32
  d : BitVec 32
  e : BitVec 32
  f : BitVec 32
  g : BitVec 32
  h : BitVec 32
def St.list (s : St) : List (BitVec 32) := [s.a, s.b, s.c, s.d, s.e, s.f, s.g, s.h]
def S1 (x : BitVec 32) : BitVec 32 := rot x 6 ^^^ rot x 11 ^^^ rot x 25
def S0 (x : BitVec 32) : BitVec 32 := rot x 2 ^^^ rot x 13 ^^^ rot x 22
def ch (e f g : BitVec 32) : BitVec 32 := (e &&& f) ^^^ (~~~ e &&& g)
def maj (a b c : BitVec 32) : BitVec 32 := (a &&& b) ^^^ (a &&& c) ^^^ (b &&& c)
def rt (s : St) (k w : BitVec 32) : BitVec 32 := s.h + S1 s.e + ch s.e s.f s.g + k + w
def ru (s : St) : BitVec 32 := S0 s.a + maj s.a s.b s.c
def rnd (s : St) (k w : BitVec 32) : St := ⟨rt s k w + ru s, s.a, s.b, s.c, s.d + rt s k w, s.e, s.f, s.g⟩
def runs (s : St) (ws : List (BitVec 32)) : Nat → St
  | 0 => s
  | i + 1 => rnd (runs s ws i) (KC.getD i 0) (ws.getD i 0)
def plus (s t : St) : St := ⟨s.a + t.a, s.b + t.b, s.c + t.c, s.d + t.d, s.e + t.e, s.f + t.f, s.g + t.g, s.h + t.h⟩
def take (s : St) (pb : List (BitVec 8)) : St := plus s (runs s (sched pb) 64)

end Go.Proofs.YtkbkmfmekjpleaaDoor
/- A state's numbers as bytes. -/
namespace Go.Proofs.YtkbkmfmekjpleaaDoor
open Go.RowKit

def Z8 : Value := .int .u8 0
def lo8 (x : BitVec 32) : BitVec 8 := BitVec.ofNat 8 x.toNat
theorem lo8_eq (x : BitVec 32) : IntKind.u8.wrap (N32 x) = N8 (lo8 x) := by
  unfold N32 N8 lo8
  rw [IntKind.wrap_u8', BitVec.toNat_ofNat]
  simp
def wb (x : BitVec 32) (i : Nat) : BitVec 8 := lo8 (x >>> (24 - 8 * i))
def wbs (x : BitVec 32) (k : Nat) : List (BitVec 8) := (List.range k).map (wb x)
theorem wbs_length (x : BitVec 32) (k : Nat) : (wbs x k).length = k := by simp [wbs]
def outBytes (l : List (BitVec 32)) : List (BitVec 8) := l.flatMap (wbs · 4)

theorem info24 : (Tryd.prog.info? 34).map (·.size) = some 32 := by kernel_rfl
theorem outBytes_length (l : List (BitVec 32)) : (outBytes l).length = 4 * l.length := by
  induction l with
  | nil => rfl
  | cons x l ih => simp only [outBytes, List.flatMap_cons, List.length_append, wbs_length, List.length_cons] at ih ⊢; omega
theorem outBytes_snoc (l : List (BitVec 32)) (j : Nat) (hj : j < l.length) : outBytes (l.take (j + 1)) = outBytes (l.take j) ++ wbs (l.getD j 0) 4 := by
  have e : l.getD j 0 = l[j] := by simp [List.getD_eq_getElem?_getD, hj]
  rw [List.take_succ_eq_append_getElem hj, e]
  unfold outBytes
  rw [List.flatMap_append]
  simp
theorem size24 (l : List (BitVec 32)) (h : l.length = 8) : (Tryd.prog.info? 34).map (·.size) = some ((outBytes l).map V8).toArray.size := by
  rw [info24]; simp [outBytes_length, h]

end Go.Proofs.YtkbkmfmekjpleaaDoor
/- What a hash holds behind so many bytes: plain lemmas on lists. -/
namespace Go.Proofs.YtkbkmfmekjpleaaDoor

def H0 : St := ⟨0x6a09e667#32, 0xbb67ae85#32, 0x3c6ef372#32, 0xa54ff53a#32, 0x510e527f#32, 0x9b05688c#32, 0x1f83d9ab#32, 0x5be0cd19#32⟩
def chunk (m : List (BitVec 8)) (i : Nat) : List (BitVec 8) := (m.drop (64 * i)).take 64
def absorb : Nat → List (BitVec 8) → St
  | 0, _ => H0
  | i + 1, m => take (absorb i m) (chunk m i)

/-- The buffer behind a copy of cs to its place k. -/
def laid (rest : List (BitVec 8)) (k : Nat) (cs : List (BitVec 8)) : List (BitVec 8) := rest.take k ++ (cs ++ rest.drop (k + cs.length))
end Go.Proofs.YtkbkmfmekjpleaaDoor
/- A hash: made, written, asked. -/
namespace Go.Proofs.YtkbkmfmekjpleaaDoor
open Go.RowKit

/-- How many noughts stand between the byte 128 and the number of bits. -/
def noughts (n : Nat) : Nat := (64 - (n + 9) % 64) % 64
def lenb (n i : Nat) : BitVec 8 := BitVec.ofNat 8 (8 * n / 2 ^ (56 - 8 * i))
def fillHead (n : Nat) : List (BitVec 8) := 128#8 :: List.replicate (noughts n) 0#8
def fillK (n k : Nat) : List (BitVec 8) := fillHead n ++ (List.range k).map (lenb n)
def fill (n : Nat) : List (BitVec 8) := fillK n 8
theorem fillK_length (n k : Nat) : (fillK n k).length = 1 + noughts n + k := by simp [fillK, fillHead]; omega
theorem noughts_lt (n : Nat) : noughts n < 64 := Nat.mod_lt _ (by omega)
end Go.Proofs.YtkbkmfmekjpleaaDoor
/- Bytes that are written into a hash. -/
namespace Go.Proofs.YtkbkmfmekjpleaaDoor
open Go.RowKit

def lenOf : Value → Nat | .slice _ l _ => l | _ => 0

theorem size5 : (Tryd.prog.info? 5).map (·.size) = some 1 := by kernel_rfl
theorem elem22 : Tryd.prog.underlying 41 = some (.slice (Tryd.prog.elem 41)) := by kernel_rfl
theorem elem22' : Tryd.prog.elem 41 = 5 := by kernel_rfl
theorem sizeOf5 (W : World) : (sizeOf 5).run Tryd.prog W = .ok 1 W := by
  obtain ⟨i, h1, h2⟩ := Option.map_eq_some_iff.1 size5
  simp [sizeOf, typeInfo, h1, h2]
end Go.Proofs.YtkbkmfmekjpleaaDoor
/- The digest of a hash, and of bytes. -/
namespace Go.Proofs.YtkbkmfmekjpleaaDoor
open Go.RowKit

def full (m : List (BitVec 8)) : List (BitVec 8) := m ++ fill m.length
def digest (m : List (BitVec 8)) : List (BitVec 8) := outBytes (absorb ((full m).length / 64) (full m)).list
theorem digest_length (m : List (BitVec 8)) : (digest m).length = 32 := outBytes_length _
theorem size24d (m : List (BitVec 8)) : (Tryd.prog.info? 34).map (·.size) = some ((digest m).map V8).toArray.size := by rw [info24]; simp [digest_length]

end Go.Proofs.YtkbkmfmekjpleaaDoor
/- Digits of unlike digests are unlike. -/
namespace Go.Proofs.YtkbkmfmekjpleaaDoor
open Go.RowKit

end Go.Proofs.YtkbkmfmekjpleaaDoor
/- A region that draws its order, whose operations each yield one value in every world of a class: walked once, in the order of the text. -/
namespace Go.Proofs.YtkbkmfmekjpleaaDoor
open Go.RowKit
section
variable {P : Program} {ops : Array Oper} {C : World → Prop} {Q : Act → Prop} {rest : List Oper} {a : Act} {o : Oper}
end
end Go.Proofs.YtkbkmfmekjpleaaDoor
/- The constants and the 64 numbers of a piece, as the reference reckons them. -/
namespace Go.Proofs.YtkbkmfmekjpleaaDoor
open Go.RowKit

/-- A slice of the call's own that holds these numbers. -/
def Own32 (w : World) (base : Nat) (v : Value) (l : List (BitVec 32)) : Prop := ∃ g cap, v = .slice (some ⟨g, 0, none⟩) l.length cap ∧ base ≤ g ∧ w.ownsRow base 32 1 v l.length (l.map V32)

set_option maxRecDepth 100000 in
theorem constants_any (w : World) :
    Calls Tryd.prog 105 #[] w fun e w' => ∃ v, e = .returned v ∧ Own32 w' w.heap.size v KC ∧ Below w.heap.size w w' := by
  go_enter Tryd.func105, Tryd.ntmps105
  go_wp2
  go_ret
  refine ⟨_, rfl, ⟨w.heap.size, 64, rfl, Nat.le_refl _, ?_⟩, (Below.refl _ _).alloc (Nat.le_refl _) _⟩
  have h : Blk (w.alloc (.cells (KC.map V32).toArray 32)) w.heap.size (KC.map V32) 32 := Blk.new _ _ _
  exact h.owns (n := 64) (Nat.le_refl _) (Nat.le_refl _) (by unfold maxLen; decide)

theorem info36 : (Tryd.prog.info? 32).map (fun i => (i.zero, i.size, i.bytes)) = some (some (.int .u32 0), 1, 4) := by kernel_rfl
/-- The first k bytes of a number that is put together, the highest first. -/
def part (pb : List (BitVec 8)) (i : Nat) : Nat → BitVec 32
  | 0 => 0#32
  | k + 1 => part pb i k * 256#32 + up (pb.getD (4 * i + k) 0)
theorem part_word (pb : List (BitVec 8)) (i : Nat) : part pb i 4 = word pb i := by
  simp only [part, word, be]
  generalize pb.getD (4 * i) 0 = b0
  generalize pb.getD (4 * i + 1) 0 = b1
  generalize pb.getD (4 * i + 2) 0 = b2
  generalize pb.getD (4 * i + 3) 0 = b3
  have u (b : BitVec 8) : (up b).toNat = b.toNat := by unfold up; rw [BitVec.toNat_ofNat]; exact Nat.mod_eq_of_lt (by have := b.isLt; omega)
  have h0 := b0.isLt; have h1 := b1.isLt; have h2 := b2.isLt; have h3 := b3.isLt
  apply BitVec.eq_of_toNat_eq
  simp only [BitVec.toNat_add, BitVec.toNat_mul, BitVec.toNat_or, BitVec.toNat_shiftLeft, BitVec.toNat_ofNat, u, Nat.shiftLeft_eq]
  have e1 : b0.toNat * 2 ^ 24 % 2 ^ 32 ||| b1.toNat * 2 ^ 16 % 2 ^ 32 = b0.toNat * 2 ^ 24 + b1.toNat * 2 ^ 16 := by
    rw [Nat.mod_eq_of_lt (by omega), Nat.mod_eq_of_lt (by omega)]
    exact nat_join 24 _ _ (Nat.mul_mod_left _ _) (by omega)
  have e2 : (b0.toNat * 2 ^ 24 + b1.toNat * 2 ^ 16) ||| b2.toNat * 2 ^ 8 % 2 ^ 32 = b0.toNat * 2 ^ 24 + b1.toNat * 2 ^ 16 + b2.toNat * 2 ^ 8 := by
    rw [Nat.mod_eq_of_lt (by omega)]
    exact nat_join 16 _ _ (by omega) (by omega)
  have e3 : (b0.toNat * 2 ^ 24 + b1.toNat * 2 ^ 16 + b2.toNat * 2 ^ 8) ||| b3.toNat = b0.toNat * 2 ^ 24 + b1.toNat * 2 ^ 16 + b2.toNat * 2 ^ 8 + b3.toNat :=
    nat_join 8 _ _ (by omega) (by omega)
  rw [e1, e2, e3]
  omega
theorem part_step (pb : List (BitVec 8)) (i k : Nat) (b : BitVec 8) (hb : pb.getD (4 * i + k) 0 = b) : IntKind.u32.wrap (N32 (part pb i k * 256#32) + N32 (up b)) = N32 (part pb i (k + 1)) := by
  rw [add32, ← hb]; rfl
theorem mul256 (x : BitVec 32) : IntKind.u32.wrap (N32 x * (256 : Int)) = N32 (x * 256#32) := by
  unfold N32
  rw [IntKind.wrap_u32', BitVec.toNat_mul]
  simp

def RelN (B : Nat) (w : World) (l : List (BitVec 32)) (v : Value) (wr : World) : Prop := wr.ownsRow B 32 1 v l.length (l.map V32) ∧ Below B w wr
theorem relN_step {B : Nat} {w wr w1 : World} {l : List (BitVec 32)} {v v' : Value} {o : Obj} {x : BitVec 32} (h : RelN B w l v wr) (ho : w1.ownsRow B 32 1 v' (l.length + 1) (l.map V32 ++ [V32 x])) (hg : (wr.alloc o).grownBy w1 v.ownBlock) (hB : B ≤ wr.heap.size := by omega) : RelN B w (l ++ [x]) v' w1 := by
  refine ⟨by simpa using ho, (h.2.alloc hB o).grown hg (by simp; omega) (fun j hj => ?_)⟩
  exact (h.1.lt j hj).1
theorem one_cell32 (x : BitVec 32) : ∀ u ∈ [V32 x], u.oneCell' = true := by
  intro u hu; simp at hu; subst hu; rfl



end Go.Proofs.YtkbkmfmekjpleaaDoor
/- The reference's regions that draw their order: operations on numbers of 32 bits, each by its value; loads; calls that leave the world; a slice that is made; appends of one number. -/
namespace Go.Proofs.YtkbkmfmekjpleaaDoor
open Go.RowKit

theorem slice_mid (sp : Option Addr) (L cap a n : Nat) (h : a + n ≤ L) (hc : L ≤ cap) : ∃ sp2, (∀ W : World, (Instr.sliceAt 41 (.slice sp L cap) (some (.int .i64 (a : Int))) (some (.int .i64 ((a : Int) + (n : Int)))) none).run Tryd.prog W = .ok (.slice sp2 n (cap - a)) W) ∧ (a < cap → sp2 = sp.map (·.add a)) ∧ (sp2 = none → sp = none) := by
  refine ⟨if cap = a then sp else sp.map (·.add a), fun W => ?_, fun h => if_neg (by omega), fun h => ?_⟩
  · rw [run_sliceAt_slice W 41 _ _ _ _ elem22, run_slice_lh W 41 sp L cap elem22 .i64 .i64 (a : Int) ((a : Int) + (n : Int)) (by omega) (by omega) (by omega), elem22', sizeOf5]
    have e1 : ((a : Int)).toNat = a := by omega
    have e2 : ((a : Int) + (n : Int)).toNat = a + n := by omega
    simp only [Result.andThen, sliced, e1, e2, Nat.mul_one]
    rw [show a + n - a = n by omega]
  · split at h
    · exact h
    · cases sp <;> simp at h ⊢
section
variable {ρ : Operand → Value} {o : Oper} {x y : Operand} {w : World}
theorem ex_xor32 {k : TypeId} {a b : BitVec 32} (ho : o.op = .binOp .xor 32 x y k) (hx : ρ x = V32 a) (hy : ρ y = V32 b) : (execOp ρ o).run Tryd.prog w = .ok (.value (V32 (a ^^^ b))) w := by
  have e := xor32 a b
  unfold execOp
  simp [go_sem, ho, hx, hy, e]
theorem ex_and32 {k : TypeId} {a b : BitVec 32} (ho : o.op = .binOp .and 32 x y k) (hx : ρ x = V32 a) (hy : ρ y = V32 b) : (execOp ρ o).run Tryd.prog w = .ok (.value (V32 (a &&& b))) w := by
  have e := and32 a b
  unfold execOp
  simp [go_sem, ho, hx, hy, e]
theorem ex_add32 {k : TypeId} {a b : BitVec 32} (ho : o.op = .binOp .add 32 x y k) (hx : ρ x = V32 a) (hy : ρ y = V32 b) : (execOp ρ o).run Tryd.prog w = .ok (.value (V32 (a + b))) w := by
  have e := add32 a b
  unfold execOp
  simp [go_sem, ho, hx, hy, e]
theorem ex_not32 {a : BitVec 32} (ho : o.op = .unOp .xor 32 x) (hx : ρ x = V32 a) : (execOp ρ o).run Tryd.prog w = .ok (.value (V32 (~~~ a))) w := by
  have e := not32 a
  unfold execOp
  have e0 : (if IntKind.u32.signed = true then (-1 : Int) else IntKind.u32.max) = 4294967295 := by decide
  simp [go_sem, ho, hx, e0, e]
theorem ex_subN {t : TypeId} {j c m : Nat} (ho : o.op = .binOp .sub 3 x y t) (hx : ρ x = .int .i64 (j : Int)) (hy : ρ y = .int .i64 (c : Int)) (hj : j ≤ 1000000) (hm : j = m + c) : (execOp ρ o).run Tryd.prog w = .ok (.value (.int .i64 (m : Int))) w := by
  have e := IntWalk.i64_in ((j : Int) - (c : Int)) (by omega)
  have e2 : (j : Int) - (c : Int) = (m : Int) := by omega
  rw [e2] at e
  unfold execOp
  simp [go_sem, ho, hx, hy, e2, e]
theorem ex_idx {sp : Addr} {n c j g o1 : Nat} (ho : o.op = .indexAddr 148 x y) (hx : ρ x = .slice (some sp) n c) (hs : sp = ⟨g, o1, none⟩) (hy : ρ y = .int .i64 (j : Int)) (hj : j < n) (_hn : n ≤ 1000000) : (execOp ρ o).run Tryd.prog w = .ok (.value (.pointer (some ⟨g, o1 + j, none⟩))) w := by
  subst hs
  have h1 : (j : Int) < (n : Int) := by omega
  unfold execOp
  simp only [ho]
  go_simp
theorem ex_load32 {ad : Addr} {z : BitVec 32} (ho : o.op = .load 32 x) (hx : ρ x = .pointer (some ad)) (hc : w.cell? ad = some (V32 z)) : (execOp ρ o).run Tryd.prog w = .ok (.value (V32 z)) w := by
  unfold execOp
  simp only [ho]
  go_simp
theorem ex_slice8 {a b c d e f g h : Operand} {x1 x2 x3 x4 x5 x6 x7 x8 : BitVec 32} (ho : o.op = .buildSlice 148 8 #[(0, a), (1, b), (2, c), (3, d), (4, e), (5, f), (6, g), (7, h)]) (h1 : ρ a = V32 x1) (h2 : ρ b = V32 x2) (h3 : ρ c = V32 x3) (h4 : ρ d = V32 x4) (h5 : ρ e = V32 x5) (h6 : ρ f = V32 x6) (h7 : ρ g = V32 x7) (h8 : ρ h = V32 x8) :
    (execOp ρ o).run Tryd.prog w = .ok (.value (.slice (some ⟨w.heap.size, 0, none⟩) 8 8)) (w.alloc (.cells #[V32 x1, V32 x2, V32 x3, V32 x4, V32 x5, V32 x6, V32 x7, V32 x8] 32)) := by
  unfold execOp
  simp only [ho]
  go_simp
theorem ex_slice1 {a : Operand} {x1 : BitVec 32} (ho : o.op = .buildSlice 148 1 #[(0, a)]) (h1 : ρ a = V32 x1) :
    (execOp ρ o).run Tryd.prog w = .ok (.value (.slice (some ⟨w.heap.size, 0, none⟩) 1 1)) (w.alloc (.cells #[V32 x1] 32)) := by
  unfold execOp
  simp only [ho]
  go_simp
end
section
variable {ops : Array Oper} {Q : Exit → Act → World → Prop} {S : World → Prop}
/-- A call that leaves the world as it is. -/
theorem wpG_same {i : Nat} {r : Tr} {a : Act} {w : World} (o : Oper) (hi : ops.toList[i]? = some o) (hw : Region.wanted o (yielded ops a.tmps) = true) (f : FuncId) (args : Array Value) (hrun : ∀ w, (execOp a.eval o).run Tryd.prog w = .ok (.enter f args) w)
    (hS : S w) (v : Value) (hc : Calls Tryd.prog f args w fun e w' => e = .returned v ∧ w = w')
    (h : wpG Tryd.prog ops Q r S (a.put o.dst v) w) : wpG Tryd.prog ops Q (.step i r) S a w :=
  wpG_call o hi hw f args hrun (fun u w' => u = v ∧ w = w') (hc.mono fun _ w' ⟨e1, e2⟩ => ⟨v, e1, e2 ▸ hS, rfl, e2⟩) fun u w' hS' ⟨hu, hw⟩ => by
    subst hu; subst hw
    exact ⟨S, fun _ h => h, hS', h⟩
end
/-- The words of a slice, in whatever world meets it. -/
def Words (g o : Nat) (l : List (BitVec 32)) (W : World) : Prop := ∀ j, j < l.length → W.cell? ⟨g, o + j, none⟩ = some (V32 (l.getD j 0))
theorem Words.block {g o : Nat} {l : List (BitVec 32)} {w W : World} (h : Words g o l w) (hb : W.heap[g]? = w.heap[g]?) : Words g o l W := fun j hj => (World.cell?_of_block (a := ⟨g, o + j, none⟩) hb).trans (h j hj)
theorem Words.below {g o : Nat} {l : List (BitVec 32)} {w W : World} {B : Nat} (h : Words g o l w) (hb : Below B w W) (hg : g < B) : Words g o l W := h.block (hb.block g hg)
theorem Words.alloc {g o : Nat} {l : List (BitVec 32)} {w : World} (h : Words g o l w) (hg : g < w.heap.size) (b : Obj) : Words g o l (w.alloc b) := h.block (Below.heap_alloc w b g hg)
theorem own_words {w : World} {B g n cap : Nat} {l : List (BitVec 32)} (h : w.ownsRow B 32 1 (.slice (some ⟨g, 0, none⟩) n cap) l.length (l.map V32)) : Words g 0 l w := fun j hj => by
  have hn : n = l.length := by rcases h.2 with ⟨e, _⟩ | ⟨_, _, _, e, _⟩ <;> simp at e; omega
  subst hn
  rw [Nat.zero_add, h.cellAt j (by omega)]
  exact get_map V32 _ j hj 0
theorem own_form {w : World} {B : Nat} {v : Value} {l : List (BitVec 32)} (h : w.ownsRow B 32 1 v l.length (l.map V32)) (h0 : 0 < l.length) : ∃ g cap, v = .slice (some ⟨g, 0, none⟩) l.length cap ∧ l.length ≤ cap ∧ B ≤ g ∧ g < w.heap.size := by
  rcases h.2 with ⟨rfl, hn⟩ | ⟨g, cap, cur, rfl, hb, hg, hc, hm, _, _⟩
  · omega
  · exact ⟨g, cap, rfl, hc, hb, (Array.getElem?_eq_some_iff.1 hg).1⟩

theorem run_append_kept {w : World} (B : Nat) (ty : TypeId) (v : Value) (l : List (BitVec 32)) (hown : w.ownsRow B 32 1 v l.length (l.map V32)) (ad : Addr) (c : Nat) (b : BitVec 32) (hcell : w.cell? (ad.add 0) = some (V32 b)) (hl : l.length ≤ 1000000) (hB : B ≤ w.heap.size) :
    ∃ v' w', (Builtin.append_ #[148, 148] ty #[v, .slice (some ad) 1 c]).run Tryd.prog w = .ok v' w' ∧ w'.ownsRow B 32 1 v' (l ++ [b]).length ((l ++ [b]).map V32) ∧ w.grownBy w' v.ownBlock ∧ (∀ g n cap, v = .slice (some ⟨g, 0, none⟩) n cap → Words g 0 l w') := by
  obtain ⟨i0, hi, hz0, hz1, hz2⟩ := info_parts info36
  have hn : ∀ j u, [V32 b][j]? = some u → w.cell? (ad.add j) = some u := fun j u hj => by
    match j, hj with
    | 0, hj => simp at hj; subst hj; exact hcell
  obtain ⟨v', w', hr, h2, h3, h4⟩ := run_append_own (P := Tryd.prog) w B 148 ty 32 i0 (.int .u32 0) 1 4 Tryd.underlying148 hi hz0 hz1 hz2 rfl (by decide) v l.length (l.map V32) hown ad 1 c [V32 b] rfl hn (one_cell32 _) (by unfold maxLen; omega) (by omega) hB
  refine ⟨v', w', hr, by rw [List.map_append, List.length_append]; exact h2, h3, ?_⟩
  rintro g n cap rfl
  have hnn : n = l.length := by rcases hown.2 with ⟨e, _⟩ | ⟨_, _, _, e, _⟩ <;> simp at e; omega
  subst hnn
  have hw := own_words hown
  rcases hown.2 with ⟨e, _⟩ | ⟨g', cap', cur, e, hbg, hg, hnc, hcm, hcs, htake⟩
  · simp at e
  · simp at e
    obtain ⟨rfl, rfl⟩ := e
    by_cases hroom : l.length + 1 ≤ cap
    · have hr2 := run_append_room (P := Tryd.prog) w 148 ty 32 i0 Tryd.underlying148 hi g l.length cap cur hg ad 1 c [V32 b] (by rw [hz1]; rfl) hn (one_cell32 _) hroom (by rw [hz1, hcs]; simp; omega)
      rw [hr] at hr2
      injection hr2 with e1 e2
      subst e1
      have h2' : w'.ownsRow B 32 1 (.slice (some ⟨g, 0, none⟩) (l.length + 1) cap) (l ++ [b]).length ((l ++ [b]).map V32) := by rw [List.map_append, List.length_append]; exact h2
      intro j hj
      have := own_words h2' j (by simp; omega)
      rw [this]
      simp [List.getD_eq_getElem?_getD, List.getElem?_append_left hj]
    · have holds := hown.cells (g := g) rfl
      have hr2 := run_append_grow (P := Tryd.prog) w 148 ty 32 i0 (.int .u32 0) Tryd.underlying148 hi hz0 ⟨g, 0, none⟩ l.length cap (l.map V32) (by rw [hz1]; simp) holds ad 1 c [V32 b] (by rw [hz1]; rfl) hn (by omega) (by omega) (growslice_fits (by omega) (by rw [hz2]; omega))
      rw [hr] at hr2
      injection hr2 with e1 e2
      subst e2
      exact Words.alloc (w := w.drew) hw (Array.getElem?_eq_some_iff.1 hg).1 _
section
variable {ops : Array Oper} {Q : Exit → Act → World → Prop} {S : World → Prop}
/-- 'append(v, x)' of one number, v the call's own: what v held stays to be read at its place, whether it grew or not. -/
theorem wpG_app32 {i : Nat} {r : Tr} {a : Act} {w : World} (o : Oper) (hi : ops.toList[i]? = some o) (hw : Region.wanted o (yielded ops a.tmps) = true) (s x : Operand)
    (ho : o.op = .call { callee := .builtin .append, args := #[s, x], argTypes := #[148, 148] }) (v : Value) (hs : a.eval s = v) (B : Nat) (l : List (BitVec 32)) (hown : w.ownsRow B 32 1 v l.length (l.map V32)) (b : BitVec 32) (ad : Addr) (c : Nat) (hx : a.eval x = .slice (some ad) 1 c) (hcell : w.cell? (ad.add 0) = some (V32 b))
    (hl : l.length ≤ 1000000) (hB : B ≤ w.heap.size)
    (h : ∀ v' w', w'.ownsRow B 32 1 v' (l ++ [b]).length ((l ++ [b]).map V32) → w.grownBy w' v.ownBlock → (∀ g n cap, v = .slice (some ⟨g, 0, none⟩) n cap → Words g 0 l w') → S w' ∧ wpG Tryd.prog ops Q r S (a.put o.dst v') w') : wpG Tryd.prog ops Q (.step i r) S a w := by
  obtain ⟨v', w', hr, h2, h3, h4⟩ := run_append_kept (w := w) B o.type v l hown ad c b hcell hl hB
  obtain ⟨h5, h6⟩ := h v' w' h2 h3 h4
  refine wpG_mk o hi hw v' w' ?_ S h5 (fun _ h => h) h6
  unfold execOp
  simp only [ho, resolve, invoke, builtin, Sem.run_bind, Sem.run_pure, Result.andThen_ok, List.map_toArray, List.map_cons, List.map_nil, hs, hx, hr]
end
end Go.Proofs.YtkbkmfmekjpleaaDoor
