/- The constants and the 64 numbers of a piece, as the reference reckons them. -/
import Derived.Test.YtjgjohdeeeoeoaaGreatDoorM06
import Derived.Test.YtjgjohdeeeoeoaaGreatDoorM04
import Derived.Deep.RegionLaw
import Derived.WalkSpells
namespace Go.Proofs.YtjgjohdeeeoeoaaGreatDoor
open Go.RowKit
def Own32 (w : World) (base : Nat) (v : Value) (l : List (BitVec 32)) : Prop := ∃ g cap, v = .slice (some ⟨g, 0, none⟩) l.length cap ∧ base ≤ g ∧ w.ownsRow base 24 1 v l.length (l.map V32)
set_option maxRecDepth 100000 in
theorem constants_any (w : World) :
    Calls Tryz.prog 158 #[] w fun e w' => ∃ v, e = .returned v ∧ Own32 w' w.heap.size v KC ∧ Below w.heap.size w w' := by
  go_enter Tryz.func158, Tryz.ntmps158
  go_wp2
  go_ret
  refine ⟨_, rfl, ⟨w.heap.size, 64, rfl, Nat.le_refl _, ?_⟩, (Below.refl _ _).alloc (Nat.le_refl _) _⟩
  have h : Blk (w.alloc (.cells (KC.map V32).toArray 24)) w.heap.size (KC.map V32) 24 := Blk.new _ _ _
  exact h.owns (n := 64) (Nat.le_refl _) (Nat.le_refl _) (by unfold maxLen; decide)
theorem info36 : (Tryz.prog.info? 24).map (fun i => (i.zero, i.size, i.bytes)) = some (some (.int .u32 0), 1, 4) := by kernel_rfl
def part (pb : List (BitVec 8)) (i : Nat) : Nat → BitVec 32
  | 0 => 0#32
  | k + 1 => part pb i k * 256#32 + up (pb.getD (4 * i + k) 0)
theorem part_word (pb : List (BitVec 8)) (i : Nat) : part pb i 4 = word pb i := by
  simp only [part, word, be]
  generalize pb.getD (4 * i) 0 = b0
  generalize pb.getD (4 * i + 1) 0 = b1
  generalize pb.getD (4 * i + 2) 0 = b2
  generalize pb.getD (4 * i + 3) 0 = b3
  have u (b : BitVec 8) : (up b).toNat = b.toNat := by unfold up; rw [BitVec.toNat_ofNat]; exact Nat.mod_eq_of_lt (by have := b.isLt; omega)
  have h0 := b0.isLt; have h1 := b1.isLt; have h2 := b2.isLt; have h3 := b3.isLt
  apply BitVec.eq_of_toNat_eq
  simp only [BitVec.toNat_add, BitVec.toNat_mul, BitVec.toNat_or, BitVec.toNat_shiftLeft, BitVec.toNat_ofNat, u, Nat.shiftLeft_eq]
  have e1 : b0.toNat * 2 ^ 24 % 2 ^ 32 ||| b1.toNat * 2 ^ 16 % 2 ^ 32 = b0.toNat * 2 ^ 24 + b1.toNat * 2 ^ 16 := by
    rw [Nat.mod_eq_of_lt (by omega), Nat.mod_eq_of_lt (by omega)]
    exact nat_join 24 _ _ (Nat.mul_mod_left _ _) (by omega)
  have e2 : (b0.toNat * 2 ^ 24 + b1.toNat * 2 ^ 16) ||| b2.toNat * 2 ^ 8 % 2 ^ 32 = b0.toNat * 2 ^ 24 + b1.toNat * 2 ^ 16 + b2.toNat * 2 ^ 8 := by
    rw [Nat.mod_eq_of_lt (by omega)]
    exact nat_join 16 _ _ (by omega) (by omega)
  have e3 : (b0.toNat * 2 ^ 24 + b1.toNat * 2 ^ 16 + b2.toNat * 2 ^ 8) ||| b3.toNat = b0.toNat * 2 ^ 24 + b1.toNat * 2 ^ 16 + b2.toNat * 2 ^ 8 + b3.toNat :=
    nat_join 8 _ _ (by omega) (by omega)
  rw [e1, e2, e3]
  omega
theorem part_step (pb : List (BitVec 8)) (i k : Nat) (b : BitVec 8) (hb : pb.getD (4 * i + k) 0 = b) : IntKind.u32.wrap (N32 (part pb i k * 256#32) + N32 (up b)) = N32 (part pb i (k + 1)) := by
  rw [add32, ← hb]; rfl
theorem mul256 (x : BitVec 32) : IntKind.u32.wrap (N32 x * (256 : Int)) = N32 (x * 256#32) := by
  unfold N32
  rw [IntKind.wrap_u32', BitVec.toNat_mul]
  simp
def RelN (B : Nat) (w : World) (l : List (BitVec 32)) (v : Value) (wr : World) : Prop := wr.ownsRow B 24 1 v l.length (l.map V32) ∧ Below B w wr
theorem relN_step {B : Nat} {w wr w1 : World} {l : List (BitVec 32)} {v v' : Value} {o : Obj} {x : BitVec 32} (h : RelN B w l v wr) (ho : w1.ownsRow B 24 1 v' (l.length + 1) (l.map V32 ++ [V32 x])) (hg : (wr.alloc o).grownBy w1 v.ownBlock) (hB : B ≤ wr.heap.size := by omega) : RelN B w (l ++ [x]) v' w1 := by
  refine ⟨by simpa using ho, (h.2.alloc hB o).grown hg (by simp; omega) (fun j hj => ?_)⟩
  exact (h.1.lt j hj).1
theorem one_cell32 (x : BitVec 32) : ∀ u ∈ [V32 x], u.oneCell' = true := by
  intro u hu; simp at hu; subst hu; rfl
theorem slice_mid (sp : Option Addr) (L cap a n : Nat) (h : a + n ≤ L) (hc : L ≤ cap) : ∃ sp2, (∀ W : World, (Instr.sliceAt 29 (.slice sp L cap) (some (.int .i64 (a : Int))) (some (.int .i64 ((a : Int) + (n : Int)))) none).run Tryz.prog W = .ok (.slice sp2 n (cap - a)) W) ∧ (a < cap → sp2 = sp.map (·.add a)) ∧ (sp2 = none → sp = none) := by
  refine ⟨if cap = a then sp else sp.map (·.add a), fun W => ?_, fun h => if_neg (by omega), fun h => ?_⟩
  · rw [run_sliceAt_slice W 29 _ _ _ _ elem22, run_slice_lh W 29 sp L cap elem22 .i64 .i64 (a : Int) ((a : Int) + (n : Int)) (by omega) (by omega) (by omega), elem22', sizeOf5]
    have e1 : ((a : Int)).toNat = a := by omega
    have e2 : ((a : Int) + (n : Int)).toNat = a + n := by omega
    simp only [Result.andThen, sliced, e1, e2, Nat.mul_one]
    rw [show a + n - a = n by omega]
  · split at h
    · exact h
    · cases sp <;> simp at h ⊢
section
variable {ρ : Operand → Value} {o : Oper} {x y : Operand} {w : World}
theorem ex_xor32 {k : TypeId} {a b : BitVec 32} (ho : o.op = .binOp .xor 24 x y k) (hx : ρ x = V32 a) (hy : ρ y = V32 b) : (execOp ρ o).run Tryz.prog w = .ok (.value (V32 (a ^^^ b))) w := by
  have e := xor32 a b
  unfold execOp
  simp [go_sem, ho, hx, hy, e]
theorem ex_and32 {k : TypeId} {a b : BitVec 32} (ho : o.op = .binOp .and 24 x y k) (hx : ρ x = V32 a) (hy : ρ y = V32 b) : (execOp ρ o).run Tryz.prog w = .ok (.value (V32 (a &&& b))) w := by
  have e := and32 a b
  unfold execOp
  simp [go_sem, ho, hx, hy, e]
theorem ex_add32 {k : TypeId} {a b : BitVec 32} (ho : o.op = .binOp .add 24 x y k) (hx : ρ x = V32 a) (hy : ρ y = V32 b) : (execOp ρ o).run Tryz.prog w = .ok (.value (V32 (a + b))) w := by
  have e := add32 a b
  unfold execOp
  simp [go_sem, ho, hx, hy, e]
theorem ex_not32 {a : BitVec 32} (ho : o.op = .unOp .xor 24 x) (hx : ρ x = V32 a) : (execOp ρ o).run Tryz.prog w = .ok (.value (V32 (~~~ a))) w := by
  have e := not32 a
  unfold execOp
  have e0 : (if IntKind.u32.signed = true then (-1 : Int) else IntKind.u32.max) = 4294967295 := by decide
  simp [go_sem, ho, hx, e0, e]
theorem ex_subN {t : TypeId} {j c m : Nat} (ho : o.op = .binOp .sub 3 x y t) (hx : ρ x = .int .i64 (j : Int)) (hy : ρ y = .int .i64 (c : Int)) (hj : j ≤ 1000000) (hm : j = m + c) : (execOp ρ o).run Tryz.prog w = .ok (.value (.int .i64 (m : Int))) w := by
  have e := IntWalk.i64_in ((j : Int) - (c : Int)) (by omega)
  have e2 : (j : Int) - (c : Int) = (m : Int) := by omega
  rw [e2] at e
  unfold execOp
  simp [go_sem, ho, hx, hy, e2, e]
theorem ex_idx {sp : Addr} {n c j g o1 : Nat} (ho : o.op = .indexAddr 98 x y) (hx : ρ x = .slice (some sp) n c) (hs : sp = ⟨g, o1, none⟩) (hy : ρ y = .int .i64 (j : Int)) (hj : j < n) (_hn : n ≤ 1000000) : (execOp ρ o).run Tryz.prog w = .ok (.value (.pointer (some ⟨g, o1 + j, none⟩))) w := by
  subst hs
  have h1 : (j : Int) < (n : Int) := by omega
  unfold execOp
  simp only [ho]
  go_simp
theorem ex_load32 {ad : Addr} {z : BitVec 32} (ho : o.op = .load 24 x) (hx : ρ x = .pointer (some ad)) (hc : w.cell? ad = some (V32 z)) : (execOp ρ o).run Tryz.prog w = .ok (.value (V32 z)) w := by
  unfold execOp
  simp only [ho]
  go_simp
theorem ex_slice8 {a b c d e f g h : Operand} {x1 x2 x3 x4 x5 x6 x7 x8 : BitVec 32} (ho : o.op = .buildSlice 98 8 #[(0, a), (1, b), (2, c), (3, d), (4, e), (5, f), (6, g), (7, h)]) (h1 : ρ a = V32 x1) (h2 : ρ b = V32 x2) (h3 : ρ c = V32 x3) (h4 : ρ d = V32 x4) (h5 : ρ e = V32 x5) (h6 : ρ f = V32 x6) (h7 : ρ g = V32 x7) (h8 : ρ h = V32 x8) :
    (execOp ρ o).run Tryz.prog w = .ok (.value (.slice (some ⟨w.heap.size, 0, none⟩) 8 8)) (w.alloc (.cells #[V32 x1, V32 x2, V32 x3, V32 x4, V32 x5, V32 x6, V32 x7, V32 x8] 24)) := by
  unfold execOp
  simp only [ho]
  go_simp
theorem ex_slice1 {a : Operand} {x1 : BitVec 32} (ho : o.op = .buildSlice 98 1 #[(0, a)]) (h1 : ρ a = V32 x1) :
    (execOp ρ o).run Tryz.prog w = .ok (.value (.slice (some ⟨w.heap.size, 0, none⟩) 1 1)) (w.alloc (.cells #[V32 x1] 24)) := by
  unfold execOp
  simp only [ho]
  go_simp
end
section
variable {ops : Array Oper} {Q : Exit → Act → World → Prop} {S : World → Prop}
theorem wpG_same {i : Nat} {r : Tr} {a : Act} {w : World} (o : Oper) (hi : ops.toList[i]? = some o) (hw : Region.wanted o (yielded ops a.tmps) = true) (f : FuncId) (args : Array Value) (hrun : ∀ w, (execOp a.eval o).run Tryz.prog w = .ok (.enter f args) w)
    (hS : S w) (v : Value) (hc : Calls Tryz.prog f args w fun e w' => e = .returned v ∧ w = w')
    (h : wpG Tryz.prog ops Q r S (a.put o.dst v) w) : wpG Tryz.prog ops Q (.step i r) S a w :=
  wpG_call o hi hw f args hrun (fun u w' => u = v ∧ w = w') (hc.mono fun _ w' ⟨e1, e2⟩ => ⟨v, e1, e2 ▸ hS, rfl, e2⟩) fun u w' hS' ⟨hu, hw⟩ => by
    subst hu; subst hw
    exact ⟨S, fun _ h => h, hS', h⟩
end
def Words (g o : Nat) (l : List (BitVec 32)) (W : World) : Prop := ∀ j, j < l.length → W.cell? ⟨g, o + j, none⟩ = some (V32 (l.getD j 0))
theorem Words.block {g o : Nat} {l : List (BitVec 32)} {w W : World} (h : Words g o l w) (hb : W.heap[g]? = w.heap[g]?) : Words g o l W := fun j hj => (World.cell?_of_block (a := ⟨g, o + j, none⟩) hb).trans (h j hj)
theorem Words.below {g o : Nat} {l : List (BitVec 32)} {w W : World} {B : Nat} (h : Words g o l w) (hb : Below B w W) (hg : g < B) : Words g o l W := h.block (hb.block g hg)
theorem Words.alloc {g o : Nat} {l : List (BitVec 32)} {w : World} (h : Words g o l w) (hg : g < w.heap.size) (b : Obj) : Words g o l (w.alloc b) := h.block (Below.heap_alloc w b g hg)
theorem own_words {w : World} {B g n cap : Nat} {l : List (BitVec 32)} (h : w.ownsRow B 24 1 (.slice (some ⟨g, 0, none⟩) n cap) l.length (l.map V32)) : Words g 0 l w := fun j hj => by
  have hn : n = l.length := by rcases h.2 with ⟨e, _⟩ | ⟨_, _, _, e, _⟩ <;> simp at e; omega
  subst hn
  rw [Nat.zero_add, h.cellAt j (by omega)]
  exact get_map V32 _ j hj 0
theorem own_form {w : World} {B : Nat} {v : Value} {l : List (BitVec 32)} (h : w.ownsRow B 24 1 v l.length (l.map V32)) (h0 : 0 < l.length) : ∃ g cap, v = .slice (some ⟨g, 0, none⟩) l.length cap ∧ l.length ≤ cap ∧ B ≤ g ∧ g < w.heap.size := by
  rcases h.2 with ⟨rfl, hn⟩ | ⟨g, cap, cur, rfl, hb, hg, hc, hm, _, _⟩
  · omega
  · exact ⟨g, cap, rfl, hc, hb, (Array.getElem?_eq_some_iff.1 hg).1⟩
theorem run_append_kept {w : World} (B : Nat) (ty : TypeId) (v : Value) (l : List (BitVec 32)) (hown : w.ownsRow B 24 1 v l.length (l.map V32)) (ad : Addr) (c : Nat) (b : BitVec 32) (hcell : w.cell? (ad.add 0) = some (V32 b)) (hl : l.length ≤ 1000000) (hB : B ≤ w.heap.size) :
    ∃ v' w', (Builtin.append_ #[98, 98] ty #[v, .slice (some ad) 1 c]).run Tryz.prog w = .ok v' w' ∧ w'.ownsRow B 24 1 v' (l ++ [b]).length ((l ++ [b]).map V32) ∧ w.grownBy w' v.ownBlock ∧ (∀ g n cap, v = .slice (some ⟨g, 0, none⟩) n cap → Words g 0 l w') := by
  obtain ⟨i0, hi, hz0, hz1, hz2⟩ := info_parts info36
  have hn : ∀ j u, [V32 b][j]? = some u → w.cell? (ad.add j) = some u := fun j u hj => by
    match j, hj with
    | 0, hj => simp at hj; subst hj; exact hcell
  obtain ⟨v', w', hr, h2, h3, h4⟩ := run_append_own (P := Tryz.prog) w B 98 ty 24 i0 (.int .u32 0) 1 4 Tryz.underlying98 hi hz0 hz1 hz2 rfl (by decide) v l.length (l.map V32) hown ad 1 c [V32 b] rfl hn (one_cell32 _) (by unfold maxLen; omega) (by omega) hB
  refine ⟨v', w', hr, by rw [List.map_append, List.length_append]; exact h2, h3, ?_⟩
  rintro g n cap rfl
  have hnn : n = l.length := by rcases hown.2 with ⟨e, _⟩ | ⟨_, _, _, e, _⟩ <;> simp at e; omega
  subst hnn
  have hw := own_words hown
  rcases hown.2 with ⟨e, _⟩ | ⟨g', cap', cur, e, hbg, hg, hnc, hcm, hcs, htake⟩
  · simp at e
  · simp at e
    obtain ⟨rfl, rfl⟩ := e
    by_cases hroom : l.length + 1 ≤ cap
    · have hr2 := run_append_room (P := Tryz.prog) w 98 ty 24 i0 Tryz.underlying98 hi g l.length cap cur hg ad 1 c [V32 b] (by rw [hz1]; rfl) hn (one_cell32 _) hroom (by rw [hz1, hcs]; simp; omega)
      rw [hr] at hr2
      injection hr2 with e1 e2
      subst e1
      have h2' : w'.ownsRow B 24 1 (.slice (some ⟨g, 0, none⟩) (l.length + 1) cap) (l ++ [b]).length ((l ++ [b]).map V32) := by rw [List.map_append, List.length_append]; exact h2
      intro j hj
      have := own_words h2' j (by simp; omega)
      rw [this]
      simp [List.getD_eq_getElem?_getD, List.getElem?_append_left hj]
    · have holds := hown.cells (g := g) rfl
      have hr2 := run_append_grow (P := Tryz.prog) w 98 ty 24 i0 (.int .u32 0) Tryz.underlying98 hi hz0 ⟨g, 0, none⟩ l.length cap (l.map V32) (by rw [hz1]; simp) holds ad 1 c [V32 b] (by rw [hz1]; rfl) hn (by omega) (by omega) (growslice_fits (by omega) (by rw [hz2]; omega))
      rw [hr] at hr2
      injection hr2 with e1 e2
      subst e2
      exact Words.alloc (w := w.drew) hw (Array.getElem?_eq_some_iff.1 hg).1 _
section
variable {ops : Array Oper} {Q : Exit → Act → World → Prop} {S : World → Prop}
theorem wpG_app32 {i : Nat} {r : Tr} {a : Act} {w : World} (o : Oper) (hi : ops.toList[i]? = some o) (hw : Region.wanted o (yielded ops a.tmps) = true) (s x : Operand)
    (ho : o.op = .call { callee := .builtin .append, args := #[s, x], argTypes := #[98, 98] }) (v : Value) (hs : a.eval s = v) (B : Nat) (l : List (BitVec 32)) (hown : w.ownsRow B 24 1 v l.length (l.map V32)) (b : BitVec 32) (ad : Addr) (c : Nat) (hx : a.eval x = .slice (some ad) 1 c) (hcell : w.cell? (ad.add 0) = some (V32 b))
    (hl : l.length ≤ 1000000) (hB : B ≤ w.heap.size)
    (h : ∀ v' w', w'.ownsRow B 24 1 v' (l ++ [b]).length ((l ++ [b]).map V32) → w.grownBy w' v.ownBlock → (∀ g n cap, v = .slice (some ⟨g, 0, none⟩) n cap → Words g 0 l w') → S w' ∧ wpG Tryz.prog ops Q r S (a.put o.dst v') w') : wpG Tryz.prog ops Q (.step i r) S a w := by
  obtain ⟨v', w', hr, h2, h3, h4⟩ := run_append_kept (w := w) B o.type v l hown ad c b hcell hl hB
  obtain ⟨h5, h6⟩ := h v' w' h2 h3 h4
  refine wpG_mk o hi hw v' w' ?_ S h5 (fun _ h => h) h6
  unfold execOp
  simp only [ho, resolve, invoke, builtin, Sem.run_bind, Sem.run_pure, Result.andThen_ok, List.map_toArray, List.map_cons, List.map_nil, hs, hx, hr]
end
theorem relN_next {w wr w1 : World} {l : List (BitVec 32)} {v v' : Value} {o : Obj} {x : BitVec 32} (h : RelN w.heap.size w l v wr) (ho : w1.ownsRow w.heap.size 24 1 v' (l ++ [x]).length ((l ++ [x]).map V32)) (hg : (wr.alloc o).grownBy w1 v.ownBlock) : RelN w.heap.size w (l ++ [x]) v' w1 :=
  ⟨ho, (h.2.alloc h.2.size o).grown hg (by have := h.2.size; simp; omega) (fun j hj => (h.1.lt j hj).1)⟩
set_option maxRecDepth 100000 in
set_option maxHeartbeats 1000000 in
theorem numbers_any (pb : List (BitVec 8)) (hps : pb.length = 64) (g o cap : Nat) (w : World) (hg : g < w.heap.size) (hc : ∀ j, j < 64 → w.cell? ⟨g, o + j, none⟩ = some (V8 (pb.getD j 0))) :
    Calls Tryz.prog 157 #[.slice (some ⟨g, o, none⟩) 64 cap] w fun e w' => ∃ v, e = .returned v ∧ RelN w.heap.size w (sched pb) v w' := by
  obtain ⟨i0, hi, hz0, hz1, hz2⟩ := info_parts info36
  have HI := Lib.hid hi; have HZ0 := Lib.hid hz0; have HZ1 := Lib.hid hz1; have HZ2 := Lib.hid hz2
  have HC := Lib.hid hc
  clear hi hz0 hz1 hz2 hc
  go_enter Tryz.func157, Tryz.ntmps157
  go_wp2
  go_loopw [3, 4] (fun v i wr => ∃ k : Nat, k ≤ 16 ∧ i = .int .i64 k ∧ RelN w.heap.size w (Wp pb k) v wr) (fun _ i _ => 16 - (intOf i).toNat)
  case atStart => exact ⟨0, by omega, rfl, World.ownsRow_nil _ _ _ _, Below.refl _ _⟩
  case round =>
    obtain ⟨k, hk, rfl, hR⟩ := hrel
    have HR := Lib.hid hR
    clear hR
    by_cases hlt : k < 16
    · go_wp2
      go_loop [5, 6] (fun x i => ∃ j : Nat, j ≤ 4 ∧ i = .int .i64 j ∧ x = V32 (part pb k j)) (fun _ i => 4 - (intOf i).toNat)
      case atStart => exact ⟨0, by omega, rfl, rfl⟩
      case round =>
        obtain ⟨j, hj, rfl, rfl⟩ := hrel
        by_cases hlj : j < 4
        · have cx : wr.cell? ⟨g, o + (4 * k + j), none⟩ = some (V8 (pb.getD (4 * k + j) 0)) := (HR.out.2.cell (p := ⟨g, o + (4 * k + j), none⟩) hg).trans (HC.out (4 * k + j) (by omega))
          obtain ⟨b, hb⟩ : ∃ b, pb.getD (4 * k + j) 0 = b := ⟨_, rfl⟩
          rw [hb] at cx
          have m1 := mul256 (part pb k j)
          have c1 := cv32 b
          have a1 := part_step pb k j b hb
          clear hb
          go_wp2
          go_round
          case rel => exact ⟨j + 1, by omega, by go_num, rfl⟩
          case measure => simp [intOf]; omega
        · obtain rfl : j = 4 := by omega
          rw [part_word]
          go_wp2_with (first
            | (at_builtin; refine wpList_append_own _ rfl (.tmp 29) (.tmp 31) 98 rfl w.heap.size 24 i0 (.int .u32 0) 1 4 Tryz.underlying98 HI.out HZ0.out HZ1.out HZ2.out rfl (by decide) _ _ _ rfl (HR.out.1.alloc _) ⟨wr.heap.size, 0, none⟩ 1 1 [V32 (word pb k)] rfl rfl (one_at _ _ _) (one_cell32 _) (by rw [Wp_length]; unfold maxLen; omega) (by rw [Wp_length]; omega) (by have := HR.out.2.size; simp; omega) ?_; intro v' w1 ho hgr _; have HN := Lib.hid (relN_step HR.out ho hgr HR.out.2.size); clear ho hgr)
            | fail)
          go_roundw
          case rel =>
            refine ⟨k + 1, by omega, by go_num, ?_⟩
            rw [Wp_succ]; exact HN.out
          case measure => simp [intOf]; omega
    · obtain rfl : k = 16 := by omega
      go_wp2
      rw [show ((16 : Nat) : Int) = (16 : Int) from rfl]
      have HR0 := HR
      clear HR
      go_loopw [3, 7] (fun v i wr => ∃ k : Nat, 16 ≤ k ∧ k ≤ 64 ∧ i = .int .i64 k ∧ RelN w.heap.size w (Wx pb (k - 16)) v wr) (fun _ i _ => 64 - (intOf i).toNat)
      case atStart => exact ⟨16, by omega, by omega, rfl, HR0.out⟩
      case round =>
        clear HR0
        obtain ⟨k, hk16, hk, rfl, hR⟩ := hrel
        by_cases hlt : k < 64
        · have hlen : (Wx pb (k - 16)).length = k := by rw [Wx_length]; omega
          obtain ⟨g2, cap2, rfl, hc, hbg, hg2⟩ := own_form hR.1 (by omega)
          rw [hlen] at hR hc ⊢
          have HR := Lib.hid hR
          have HL := Lib.hid hlen
          obtain ⟨a15, h15⟩ : ∃ b, (Wx pb (k - 16)).getD (k - 15) 0 = b := ⟨_, rfl⟩
          obtain ⟨a2, h2⟩ : ∃ b, (Wx pb (k - 16)).getD (k - 2) 0 = b := ⟨_, rfl⟩
          obtain ⟨a16, h16⟩ : ∃ b, (Wx pb (k - 16)).getD (k - 16) 0 = b := ⟨_, rfl⟩
          obtain ⟨a7, h7⟩ : ∃ b, (Wx pb (k - 16)).getD (k - 7) 0 = b := ⟨_, rfl⟩
          have H15 : Hid (∀ W, Words g2 0 (Wx pb (k - 16)) W → W.cell? ⟨g2, 0 + (k - 15), none⟩ = some (V32 a15)) := Lib.hid (fun W hW => by rw [← h15]; exact hW _ (by omega))
          have H2 : Hid (∀ W, Words g2 0 (Wx pb (k - 16)) W → W.cell? ⟨g2, 0 + (k - 2), none⟩ = some (V32 a2)) := Lib.hid (fun W hW => by rw [← h2]; exact hW _ (by omega))
          have H16 : Hid (∀ W, Words g2 0 (Wx pb (k - 16)) W → W.cell? ⟨g2, 0 + (k - 16), none⟩ = some (V32 a16)) := Lib.hid (fun W hW => by rw [← h16]; exact hW _ (by omega))
          have H7 : Hid (∀ W, Words g2 0 (Wx pb (k - 16)) W → W.cell? ⟨g2, 0 + (k - 7), none⟩ = some (V32 a7)) := Lib.hid (fun W hW => by rw [← h7]; exact hW _ (by omega))
          have HNX : Hid (nextW (Wx pb (k - 16)) k = a16 + s0 a15 + a7 + s1 a2) := by
            show nextW (Wx pb (k - 16)) k = a16 + s0 a15 + a7 + s1 a2
            rw [← h15, ← h2, ← h16, ← h7]; rfl
          clear h15 h2 h16 h7 hlen hR
          go_wp2
          refine gS (.take 0 (.take 1 (.take 2 (.take 3 (.take 4 (.take 5 (.take 6 (.take 7 (.take 8 (.take 9 (.take 10 (.take 11 (.nil))))))))))))) (Words g2 0 (Wx pb (k - 16))) (own_words HR.out.1) ?_
          refine wpG_take _ (Value.slice (some ⟨g2, 0, none⟩) k cap2) rfl (by rfl) (fun _ _ => rfl) ?_; try simp only [pS]
          refine wpG_take _ (.int .i64 ((k : Nat) : Int)) rfl (by rfl) (fun _ _ => rfl) ?_; try simp only [pS]
          refine wpG_take _ (.int .i64 ((k - 15 : Nat) : Int)) rfl (by rfl) (fun _ _ => ex_subN (c := 15) rfl rfl rfl (by omega) (by omega)) ?_; try simp only [pS]
          refine wpG_take _ (.pointer (some ⟨g2, 0 + (k - 15), none⟩)) rfl (by rfl) (fun _ _ => ex_idx rfl rfl rfl rfl (by omega) (by omega)) ?_; try simp only [pS]
          refine wpG_take _ (V32 (a15)) rfl (by rfl) (fun W hW => ex_load32 rfl rfl (H15.out W hW)) ?_; try simp only [pS]
          refine wpG_take _ (Value.slice (some ⟨g2, 0, none⟩) k cap2) rfl (by rfl) (fun _ _ => rfl) ?_; try simp only [pS]
          refine wpG_take _ (.int .i64 ((k : Nat) : Int)) rfl (by rfl) (fun _ _ => rfl) ?_; try simp only [pS]
          refine wpG_take _ (.int .i64 ((k - 2 : Nat) : Int)) rfl (by rfl) (fun _ _ => ex_subN (c := 2) rfl rfl rfl (by omega) (by omega)) ?_; try simp only [pS]
          refine wpG_take _ (.pointer (some ⟨g2, 0 + (k - 2), none⟩)) rfl (by rfl) (fun _ _ => ex_idx rfl rfl rfl rfl (by omega) (by omega)) ?_; try simp only [pS]
          refine wpG_take _ (V32 (a2)) rfl (by rfl) (fun W hW => ex_load32 rfl rfl (H2.out W hW)) ?_; try simp only [pS]
          refine wpG_take _ (V32 (a15)) rfl (by rfl) (fun _ _ => rfl) ?_; try simp only [pS]
          refine wpG_take _ (V32 (a2)) rfl (by rfl) (fun _ _ => rfl) ?_; try simp only [pS]
          refine wpG_nil ?_
          go_wp2
          have HQ : Hid (RelN w.heap.size w (Wx pb (k - 16)) (.slice (some ⟨g2, 0, none⟩) k cap2) wr.drew.drew) := Lib.hid ⟨HR.out.1, HR.out.2.drew.drew⟩
          have hgq : g2 < wr.drew.drew.heap.size := hg2
          clear HR hg2
          refine gS (.take 0 (.take 1 (.take 2 (.take 3 (.take 4 (.take 5 (.take 6 (.take 8 (.take 11 (.take 15 (.take 16 (.take 17 (.take 18 (.take 19 (.take 21 (.take 23 (.take 26 (.step 7 (.step 9 (.take 10 (.step 12 (.take 13 (.take 14 (.take 20 (.step 22 (.step 24 (.take 25 (.step 27 (.take 28 (.take 29 (.step 30 (.step 31 (.take 32 (.nil)))))))))))))))))))))))))))))))))) (Words g2 0 (Wx pb (k - 16))) (own_words HQ.out.1) ?_
          refine wpG_take _ (Value.slice (some ⟨g2, 0, none⟩) k cap2) rfl (by rfl) (fun _ _ => rfl) ?_; try simp only [pS]
          refine wpG_take _ (Value.slice (some ⟨g2, 0, none⟩) k cap2) rfl (by rfl) (fun _ _ => rfl) ?_; try simp only [pS]
          refine wpG_take _ (.int .i64 ((k : Nat) : Int)) rfl (by rfl) (fun _ _ => rfl) ?_; try simp only [pS]
          refine wpG_take _ (.int .i64 ((k - 16 : Nat) : Int)) rfl (by rfl) (fun _ _ => ex_subN (c := 16) rfl rfl rfl (by omega) (by omega)) ?_; try simp only [pS]
          refine wpG_take _ (.pointer (some ⟨g2, 0 + (k - 16), none⟩)) rfl (by rfl) (fun _ _ => ex_idx rfl rfl rfl rfl (by omega) (by omega)) ?_; try simp only [pS]
          refine wpG_take _ (V32 (a16)) rfl (by rfl) (fun W hW => ex_load32 rfl rfl (H16.out W hW)) ?_; try simp only [pS]
          refine wpG_take _ (V32 (a15)) rfl (by rfl) (fun _ _ => rfl) ?_; try simp only [pS]
          refine wpG_take _ (V32 (a15)) rfl (by rfl) (fun _ _ => rfl) ?_; try simp only [pS]
          refine wpG_take _ (V32 (a15)) rfl (by rfl) (fun _ _ => rfl) ?_; try simp only [pS]
          refine wpG_take _ (Value.slice (some ⟨g2, 0, none⟩) k cap2) rfl (by rfl) (fun _ _ => rfl) ?_; try simp only [pS]
          refine wpG_take _ (.int .i64 ((k : Nat) : Int)) rfl (by rfl) (fun _ _ => rfl) ?_; try simp only [pS]
          refine wpG_take _ (.int .i64 ((k - 7 : Nat) : Int)) rfl (by rfl) (fun _ _ => ex_subN (c := 7) rfl rfl rfl (by omega) (by omega)) ?_; try simp only [pS]
          refine wpG_take _ (.pointer (some ⟨g2, 0 + (k - 7), none⟩)) rfl (by rfl) (fun _ _ => ex_idx rfl rfl rfl rfl (by omega) (by omega)) ?_; try simp only [pS]
          refine wpG_take _ (V32 (a7)) rfl (by rfl) (fun W hW => ex_load32 rfl rfl (H7.out W hW)) ?_; try simp only [pS]
          refine wpG_take _ (V32 (a2)) rfl (by rfl) (fun _ _ => rfl) ?_; try simp only [pS]
          refine wpG_take _ (V32 (a2)) rfl (by rfl) (fun _ _ => rfl) ?_; try simp only [pS]
          refine wpG_take _ (V32 (a2)) rfl (by rfl) (fun _ _ => rfl) ?_; try simp only [pS]
          refine wpG_same _ rfl (by rfl) 159 #[V32 (a15), .int .i64 ((7 : Nat) : Int)] (fun _ => by go_simp) (own_words HQ.out.1) (V32 (rot (a15) 7)) (refTurned_any _ 7 (by decide) _) ?_; try simp only [pS]
          refine wpG_same _ rfl (by rfl) 159 #[V32 (a15), .int .i64 ((18 : Nat) : Int)] (fun _ => by go_simp) (own_words HQ.out.1) (V32 (rot (a15) 18)) (refTurned_any _ 18 (by decide) _) ?_; try simp only [pS]
          refine wpG_take _ (V32 ((rot (a15) 7) ^^^ (rot (a15) 18))) rfl (by rfl) (fun _ _ => ex_xor32 rfl rfl rfl) ?_; try simp only [pS]
          refine wpG_same _ rfl (by rfl) 160 #[V32 (a15), .int .i64 ((3 : Nat) : Int)] (fun _ => by go_simp) (own_words HQ.out.1) (V32 (sh (a15) 3)) (refMoved_any _ 3 (by decide) _) ?_; try simp only [pS]
          refine wpG_take _ (V32 (((rot (a15) 7) ^^^ (rot (a15) 18)) ^^^ (sh (a15) 3))) rfl (by rfl) (fun _ _ => ex_xor32 rfl rfl rfl) ?_; try simp only [pS]
          refine wpG_take _ (V32 ((a16) + (((rot (a15) 7) ^^^ (rot (a15) 18)) ^^^ (sh (a15) 3)))) rfl (by rfl) (fun _ _ => ex_add32 rfl rfl rfl) ?_; try simp only [pS]
          refine wpG_take _ (V32 (((a16) + (((rot (a15) 7) ^^^ (rot (a15) 18)) ^^^ (sh (a15) 3))) + (a7))) rfl (by rfl) (fun _ _ => ex_add32 rfl rfl rfl) ?_; try simp only [pS]
          refine wpG_same _ rfl (by rfl) 159 #[V32 (a2), .int .i64 ((17 : Nat) : Int)] (fun _ => by go_simp) (own_words HQ.out.1) (V32 (rot (a2) 17)) (refTurned_any _ 17 (by decide) _) ?_; try simp only [pS]
          refine wpG_same _ rfl (by rfl) 159 #[V32 (a2), .int .i64 ((19 : Nat) : Int)] (fun _ => by go_simp) (own_words HQ.out.1) (V32 (rot (a2) 19)) (refTurned_any _ 19 (by decide) _) ?_; try simp only [pS]
          refine wpG_take _ (V32 ((rot (a2) 17) ^^^ (rot (a2) 19))) rfl (by rfl) (fun _ _ => ex_xor32 rfl rfl rfl) ?_; try simp only [pS]
          refine wpG_same _ rfl (by rfl) 160 #[V32 (a2), .int .i64 ((10 : Nat) : Int)] (fun _ => by go_simp) (own_words HQ.out.1) (V32 (sh (a2) 10)) (refMoved_any _ 10 (by decide) _) ?_; try simp only [pS]
          refine wpG_take _ (V32 (((rot (a2) 17) ^^^ (rot (a2) 19)) ^^^ (sh (a2) 10))) rfl (by rfl) (fun _ _ => ex_xor32 rfl rfl rfl) ?_; try simp only [pS]
          refine wpG_take _ (V32 ((((a16) + (((rot (a15) 7) ^^^ (rot (a15) 18)) ^^^ (sh (a15) 3))) + (a7)) + (((rot (a2) 17) ^^^ (rot (a2) 19)) ^^^ (sh (a2) 10)))) rfl (by rfl) (fun _ _ => ex_add32 rfl rfl rfl) ?_; try simp only [pS]
          obtain ⟨X, hX⟩ : ∃ X : BitVec 32, (((a16) + (((rot (a15) 7) ^^^ (rot (a15) 18)) ^^^ (sh (a15) 3))) + (a7)) + (((rot (a2) 17) ^^^ (rot (a2) 19)) ^^^ (sh (a2) 10)) = X := ⟨_, rfl⟩
          have HX := Lib.hid hX
          rw [hX]
          clear hX
          refine wpG_mk _ rfl (by rfl) _ _ (ex_slice1 rfl rfl) (Words g2 0 (Wx pb (k - 16))) ((own_words HQ.out.1).alloc hgq _) (fun _ h => h) ?_; try simp only [pS]
          refine wpG_app32 _ rfl (by rfl) (.tmp 47) (.tmp 77) rfl _ rfl w.heap.size (Wx pb (k - 16)) (HQ.out.1.alloc _) X ⟨wr.drew.drew.heap.size, 0, none⟩ 1 rfl (one_at _ _ _ 0 _ rfl) (by rw [HL.out]; omega) (by have h1 : w.heap.size ≤ wr.heap.size := HQ.out.2.size; simp; omega) ?_
          intro v' w1 ho hgr hkp
          refine ⟨hkp _ _ _ rfl, ?_⟩
          have HN := Lib.hid (relN_next HQ.out ho hgr)
          clear ho hgr hkp; try simp only [pS]
          refine wpG_take _ (v') rfl (by rfl) (fun _ _ => rfl) ?_; try simp only [pS]
          refine wpG_nil ?_
          go_wp2
          go_roundw
          case rel =>
            refine ⟨k + 1, by omega, by omega, by go_num, ?_⟩
            rw [show k + 1 - 16 = k - 16 + 1 by omega, Wx, show 16 + (k - 16) = k by omega, HNX.out]
            rw [← HX.out] at HN
            exact HN.out
          case measure => simp [intOf]; omega
        · obtain rfl : k = 64 := by omega
          have HR := Lib.hid hR
          clear hR hlt hk hk16
          go_wp2
          go_ret
          exact ⟨_, rfl, HR.out⟩
end Go.Proofs.YtjgjohdeeeoeoaaGreatDoor
