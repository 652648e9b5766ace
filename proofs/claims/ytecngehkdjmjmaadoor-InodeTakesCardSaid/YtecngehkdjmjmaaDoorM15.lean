/- Inodes: the document's Take. -/
import Derived.Test.YtecngehkdjmjmaaDoorM14
namespace Go.Proofs.YtecngehkdjmjmaaDoor
open Go.RowKit

section
variable {ops : Array Oper} {Q : Exit → Act → World → Prop} {S : World → Prop}
theorem wpG_st {i : Nat} {r : Tr} {a : Act} {w : World} (o : Oper) (hi : ops.toList[i]? = some o) (hw : Region.wanted o (yielded ops a.tmps) = true) (w1 : World) (hrun : (execOp a.eval o).run Tryd.prog w = .ok .skip w1)
    (S' : World → Prop) (hS : S' w1) (hS2 : ∀ w, S' w → S w) (h : wpG Tryd.prog ops Q r S' (a.put o.dst undef) w1) : wpG Tryd.prog ops Q (.step i r) S a w := by
  show wpOp Tryd.prog ops Q i _ a w
  unfold wpOp
  simp only [of_list hi]
  rw [if_pos hw]
  refine .inl ?_
  unfold Oper.wp
  rw [hrun]
  exact ⟨hS2 _ hS, S', hS2, hS, h⟩
theorem wpG_row {i : Nat} {r : Tr} {a : Act} {w : World} (o : Oper) (hi : ops.toList[i]? = some o) (hw : Region.wanted o (yielded ops a.tmps) = true) (ty : TypeId) (x y : Operand) (ho : o.op = .store ty x y) (b : Nat) (cells : Array Value) (hx : a.eval x = .pointer (some ⟨b, 0, none⟩)) (hy : a.eval y = .agg cells) {t : TypeId} {old : List Value} (hg : Blk w b old t) (hs : (Tryd.prog.info? ty).map (·.size) = some cells.size) (hl : old.length = cells.size) (h1 : cells.all (·.oneCell') = true)
    (S' : World → Prop) (hSS : ∀ w, S' w → S w) (hS : S' (w.setRow b cells)) (h : wpG Tryd.prog ops Q r S' (a.put o.dst undef) (w.setRow b cells)) : wpG Tryd.prog ops Q (.step i r) S a w := by
  refine wpG_bare o hi hw fun K hK => ?_
  exact wpList_store_row rfl ty x y ho b cells hx hy t old.toArray hg hs (by simpa using hl) h1 (wpG_list_nil (hK _ _ S' hSS hS h))
end
theorem ex_st32 {ρ : Operand → Value} {o : Oper} {x y : Operand} {ad : Addr} {z : Int} {w : World} (ho : o.op = .store 23 x y) (hx : ρ x = .pointer (some ad)) (hy : ρ y = .int .u32 z) {u : Value} (hc : w.cell? ad = some u) (hf : w.frozen? ad = false) :
    (execOp ρ o).run Tryd.prog w = .ok .skip (w.setCell ad (.int .u32 z)) := by
  unfold execOp
  simp only [ho]
  go_simp
theorem ex_alR {ρ : Operand → Value} {o : Oper} {w : World} (ho : o.op = .alloc 30) : (execOp ρ o).run Tryd.prog w = .ok (.value (.pointer (some ⟨w.heap.size, 0, none⟩))) (w.alloc (.cells (icells zeroI).toArray 30)) := by
  unfold execOp
  simp only [ho]
  go_simp
  rfl
theorem ex_ldPt {ρ : Operand → Value} {o : Oper} {x : Operand} {w : World} {p : Pt} (hp : p.OK) {g : Nat} {t' : TypeId} (hB : Blk w g (pcells p) t') (ho : o.op = .load 28 x) (hx : ρ x = .pointer (some ⟨g, 0, none⟩)) : (execOp ρ o).run Tryd.prog w = .ok (.value (.agg (pcells p).toArray)) w :=
  ex_ld (ty := 28) (cs := pcells p) ho hx (rng_all hB) Tryd.underlying28 rfl (by rw [sizeP, pcells_length hp])
theorem ex_slN {ρ : Operand → Value} {o : Oper} {x y z : Operand} {g f a b n cap f' n' c' : Nat} {w : World} (hf : f + a = f') (hn : b - a = n') (hc : cap - a = c') (hab : a ≤ b ∧ b ≤ cap ∧ a < cap) (ho : o.op = .slice 38 x (some y) (some z) none) (hx : ρ x = .slice (some ⟨g, f, none⟩) n cap) (hy : ρ y = .int .i64 (a : Int)) (hz : ρ z = .int .i64 (b : Int)) :
    (execOp ρ o).run Tryd.prog w = .ok (.value (.slice (some ⟨g, f', none⟩) n' c')) w := by
  subst hf hn hc
  exact ex_slM ho hx hy hz hab.1 hab.2.1 hab.2.2
theorem ex_ldEr {ρ : Operand → Value} {o : Oper} {x : Operand} {ad : Addr} {v : Value} {w : World} (ho : o.op = .load 39 x) (hx : ρ x = .pointer (some ad)) (hc : w.cell? ad = some v) : (execOp ρ o).run Tryd.prog w = .ok (.value v) w := by
  unfold execOp; simp only [ho]; go_simp
def RTakePost (l : Bs) (w : World) (x : Ending) (w' : World) : Prop := ∃ v, x = .returned (.tuple #[v, .bool (inoOk l)]) ∧ (inoOk l = true → OwnI w' w.heap.size v (inoL l)) ∧ Below w.heap.size w w' ∧ ∃ sp n c, v = .slice sp n c
theorem ritake_bad (l : Bs) (sp : Option Addr) (cap : Nat) (w : World) (hl : l.length ≠ 512) : Calls Tryd.prog 14 #[.slice sp l.length cap] w (RTakePost l w) := by
  have h0 := inoOk_len hl
  have HP : Hid (RTakePost l w (.returned (.tuple #[.slice none 0 0, .bool false])) w) := Lib.hid ⟨_, by rw [h0], fun h => (by rw [h0] at h; cases h), Below.refl _ _, _, _, _, rfl⟩
  obtain ⟨L, hL⟩ : ∃ L, l.length = L := ⟨_, rfl⟩
  rw [hL] at hl ⊢
  have hl' : ¬ (L : Int) = 512 := by omega
  generalize RTakePost l w = Post at HP ⊢
  clear hL hl h0
  go_enter Tryd.func14, Tryd.ntmps14
  go_wp2_with fail
  first | exact HP.out | (go_ret2; exact HP.out)
/-- While a round goes: the bytes, the gathered inodes. -/
structure RtW (w : World) (G O : Nat) (l : Bs) (v : Value) (m : List Ino) (W : World) : Prop where
  by_ : ∀ j, j < l.length → W.cell? ⟨G, O + j, none⟩ = some (V8 (l.getD j 0))
  gg : G < w.heap.size
  own : OwnI W w.heap.size v m
  bel : Below w.heap.size w W
theorem RtW.grown {w W W' : World} {G O : Nat} {l : Bs} {v : Value} {m : List Ino} (h : RtW w G O l v m W) (hb : Below W.heap.size W W') : RtW w G O l v m W' :=
  ⟨fun j hj => (hb.cell (p := ⟨G, O + j, none⟩) (Nat.lt_of_lt_of_le h.gg h.bel.size)).trans (h.by_ j hj), h.gg, h.own.keep hb, h.bel.trans (hb.mono h.bel.size)⟩
theorem RtW.drew {w W : World} {G O : Nat} {l : Bs} {v : Value} {m : List Ino} (h : RtW w G O l v m W) : RtW w G O l v m W.drew := h.grown (Below.refl _ _).drew
/-- .. and the inode that is being read, in a block of its own. -/
structure RnW (w : World) (G O : Nat) (l : Bs) (v : Value) (m : List Ino) (B g : Nat) (n : Ino) (W : World) : Prop where
  r : ∃ V, RtW w G O l v m V ∧ V.heap.size = B ∧ Below B V W
  n : Blk W g (icells n) 30
  hg : B ≤ g
theorem RnW.rt {w W : World} {G O : Nat} {l : Bs} {v : Value} {m : List Ino} {B g : Nat} {n : Ino} (h : RnW w G O l v m B g n W) : RtW w G O l v m W := by
  obtain ⟨V, h1, h2, h3⟩ := h.r
  subst h2
  exact h1.grown h3
theorem RnW.grown {w W W' : World} {G O : Nat} {l : Bs} {v : Value} {m : List Ino} {B g : Nat} {n : Ino} (h : RnW w G O l v m B g n W) (hb : Below W.heap.size W W') : RnW w G O l v m B g n W' := by
  obtain ⟨V, h1, h2, h3⟩ := h.r
  exact ⟨⟨V, h1, h2, h3.trans (hb.mono h3.size |> fun h => h.mono (by have := h3.size; omega))⟩, h.n.below hb h.n.lt, h.hg⟩
theorem RnW.put {w W W' : World} {G O : Nat} {l : Bs} {v : Value} {m : List Ino} {B g : Nat} {n n' : Ino} (h : RnW w G O l v m B g n W) (hn : Blk W' g (icells n') 30) (hb : Below B W W') : RnW w G O l v m B g n' W' := by
  obtain ⟨V, h1, h2, h3⟩ := h.r
  exact ⟨⟨V, h1, h2, h3.trans hb⟩, hn, h.hg⟩
theorem RnW.drew {w W : World} {G O : Nat} {l : Bs} {v : Value} {m : List Ino} {B g : Nat} {n : Ino} (h : RnW w G O l v m B g n W) : RnW w G O l v m B g n W.drew := h.grown (Below.refl _ _).drew
theorem val2 {x : Bs} {a b : BitVec 8} (h2 : x[2]? = some a) (h3 : x[3]? = some b) : val ((x.drop 2).take 2) = a.toNat + 256 * b.toNat := by
  rw [val_from (m := 1) h2, val_from (m := 0) h3]
  simp [val]
theorem val1 {x : Bs} {a : BitVec 8} (h : x[0]? = some a) : val (x.take 1) = a.toNat := by
  have := val_from (m := 0) h
  simpa [val] using this
set_option maxRecDepth 100000 in
set_option maxHeartbeats 16000000 in
theorem ritake_512 (l : Bs) (sp : Option Addr) (cap : Nat) (w : World) (hl : l.length = 512) (hc : l.length ≤ cap) (hS : SrcA w sp l) : Calls Tryd.prog 14 #[.slice sp 512 cap] w (RTakePost l w) := by
  obtain ⟨G, O, rfl, hG, hcell⟩ := hS (by omega)
  have HX : Hid (RtW w G O l (.slice none 0 0) [] w) := Lib.hid ⟨hcell, hG, ownI_none _ _, Below.refl _ _⟩
  have HL := Lib.hid hl
  have HC : Hid (512 ≤ cap) := Lib.hid (by omega)
  have HLO := Lib.hid (inoL_ok hl)
  obtain ⟨ok, hok⟩ : ∃ b, inoOk l = b := ⟨_, rfl⟩
  have HOK := Lib.hid hok
  have HPN : Hid (∀ W, ok = false → Below w.heap.size w W → RTakePost l w (.returned (.tuple #[.slice none 0 0, .bool false])) W) := Lib.hid (fun W h0 hb => ⟨_, by rw [hok, h0], fun h => (by rw [hok, h0] at h; cases h), hb, _, _, _, rfl⟩)
  have HPY : Hid (∀ W sp n c, ok = true → OwnI W w.heap.size (.slice sp n c) (inoL l) → Below w.heap.size w W → RTakePost l w (.returned (.tuple #[.slice sp n c, .bool true])) W) := Lib.hid (fun W sp n c h0 ho hb => ⟨_, by rw [hok, h0], fun _ => ho, hb, _, _, _, rfl⟩)
  generalize hPost : RTakePost l w = Post at HPN HPY ⊢
  clear hl hc hS hG hcell hok hPost
  go_enter Tryd.func14, Tryd.ntmps14
  go_wp2_with fail
  go_loopw [4, 5] (fun v i wr => ∃ k : Nat, k ≤ 4 ∧ i = .int .i64 (k : Int) ∧ (∀ j, j < k → fineI (l.drop (128 * j)) = true) ∧ RtW w G O l v ((inoL l).take k) wr) (fun _ i _ => 4 - (intOf i).toNat)
  case atStart => exact ⟨0, by omega, rfl, fun j hj => by omega, HX.out⟩
  case round =>
    clear HX
    obtain ⟨k, hk, rfl, hfine, hx⟩ := hrel
    obtain ⟨spv, nv, cv, rfl⟩ := hx.own.form
    have HXk := Lib.hid hx
    have HFI := Lib.hid hfine
    clear hx hfine
    have wk1 := IntWalk.i64_in ((k : Int) + 1) (by omega)
    by_cases hlt : k < 4
    · obtain ⟨x, hxx⟩ : ∃ x, l.drop (128 * k) = x := ⟨_, rfl⟩
      have hx128 : 128 ≤ x.length := by rw [← hxx, List.length_drop, HL.out]; omega
      obtain ⟨A, hA⟩ : ∃ A, 128 * k = A := ⟨_, rfl⟩
      obtain ⟨F, hF⟩ : ∃ F, O + A = F := ⟨_, rfl⟩
      obtain ⟨C, hC⟩ : ∃ C, cap - A = C := ⟨_, rfl⟩
      have hC128 : 128 ≤ C := by have := HC.out; omega
      have e1 : IntKind.i64.wrap ((128 : Int) * (k : Int)) = (A : Int) := by rw [IntWalk.i64_in _ (by omega)]; omega
      have e2 : IntKind.i64.wrap ((A : Int) + 128) = ((A + 128 : Nat) : Int) := by rw [IntWalk.i64_in _ (by omega)]; omega
      obtain ⟨A2, hA2⟩ : ∃ A2, A + 128 = A2 := ⟨_, rfl⟩
      rw [hA2] at e2
      have HSL : Hid (O + A = F ∧ A2 - A = 128 ∧ cap - A = C ∧ (A ≤ A2 ∧ A2 ≤ cap ∧ A < cap)) := Lib.hid (by have := HC.out; omega)
      have HBY : Hid (∀ (W : World) (j : Nat) (y : BitVec 8), RtW w G O l (.slice spv nv cv) ((inoL l).take k) W → x[j]? = some y → W.cell? ⟨G, F + j, none⟩ = some (V8 y)) := Lib.hid (fun W j y h hy => by
        have h1 := cell_at h.by_ (j := A + j) (x := y) (by rw [← hA, ← List.getElem?_drop, hxx]; exact hy)
        rw [← hF, Nat.add_assoc]; exact h1)
      have HSR : Hid (∀ (W : World) (a n : Nat), RtW w G O l (.slice spv nv cv) ((inoL l).take k) W → SrcA W (some ⟨G, F + a, none⟩) ((x.drop a).take n)) := Lib.hid (fun W a n h => by
        have h1 := srcA_mid (w := W) (Nat.lt_of_lt_of_le h.gg h.bel.size) h.by_ (A + a) n
        rw [← Nat.add_assoc, hF, ← hA, ← List.drop_drop, hxx] at h1
        exact h1)
      have HX128 := Lib.hid hx128
      have HXX : Hid (l.drop (128 * k) = x) := Lib.hid (by rw [hA, ← hA]; exact hxx)
      have HC128 := Lib.hid hC128
      obtain ⟨b0, hb0⟩ : ∃ b, x[0]? = some b := ⟨_, List.getElem?_eq_getElem (by omega)⟩
      obtain ⟨b2, hb2⟩ : ∃ b, x[2]? = some b := ⟨_, List.getElem?_eq_getElem (by omega)⟩
      obtain ⟨b3, hb3⟩ : ∃ b, x[3]? = some b := ⟨_, List.getElem?_eq_getElem (by omega)⟩
      obtain ⟨n0, hn0⟩ : ∃ n, b0.toNat = n := ⟨_, rfl⟩
      obtain ⟨n2, hn2⟩ : ∃ n, b2.toNat = n := ⟨_, rfl⟩
      obtain ⟨n3, hn3⟩ : ∃ n, b3.toNat = n := ⟨_, rfl⟩
      have l0 := b0.isLt; have l2 := b2.isLt; have l3 := b3.isLt
      obtain ⟨lk, hlk⟩ : ∃ n, n2 + 256 * n3 = n := ⟨_, rfl⟩
      obtain ⟨m3, hm3⟩ : ∃ n, 256 * n3 = n := ⟨_, rfl⟩
      have HKI : Hid ((ino x).kind = n0 ∧ (ino x).links = lk) := Lib.hid ⟨by show val (x.take 1) = _; rw [val1 hb0, hn0], by show val ((x.drop 2).take 2) = _; rw [val2 hb2 hb3, hn2, hn3, hlk]⟩
      have HLB : Hid (n0 < 256 ∧ lk < 65536) := Lib.hid (by omega)
      have u1 : IntKind.u16.wrap (n2 : Int) = (n2 : Int) := by rw [IntKind.wrap_u16]; omega
      have u2 : IntKind.u16.wrap (n3 : Int) = (n3 : Int) := by rw [IntKind.wrap_u16]; omega
      have u3 : IntKind.u16.wrap ((256 : Int) * (n3 : Int)) = (m3 : Int) := by rw [IntKind.wrap_u16]; omega
      have u4 : IntKind.u16.wrap ((n2 : Int) + (m3 : Int)) = (lk : Int) := by rw [IntKind.wrap_u16]; omega
      have HB0 : Hid (∀ W, RtW w G O l (.slice spv nv cv) ((inoL l).take k) W → W.cell? ⟨G, F, none⟩ = some (.int .u8 (n0 : Int)) ∧ W.cell? ⟨G, F + 2, none⟩ = some (.int .u8 (n2 : Int)) ∧ W.cell? ⟨G, F + 3, none⟩ = some (.int .u8 (n3 : Int))) := Lib.hid (fun W h => ⟨by have := HBY.out _ _ _ h hb0; rw [← hn0]; exact this, by have := HBY.out _ _ _ h hb2; rw [← hn2]; exact this, by have := HBY.out _ _ _ h hb3; rw [← hn3]; exact this⟩)
      have HLT := Lib.hid hlt
      clear hxx hx128 hA hF hC hA2 hC128 hb0 hb2 hb3 hn0 hn2 hn3 l0 l2 l3 hlk hm3
      go_upto_region 8 with (first | (refine wpL_val rfl (ex_slN HSL.out.1 HSL.out.2.1 HSL.out.2.2.1 HSL.out.2.2.2 rfl rfl rfl rfl) ?_) | fail)
      have hs0 : RtW w G O l (.slice spv nv cv) ((inoL l).take k) wr.drew := HXk.out.drew
      refine wp_region_sched (.take 0 (.take 1 (.take 2 (.take 3 (.take 4 (.take 5 (.take 6 (.take 7 (.take 8 (.take 9 (.take 10 (.take 11 (.take 12 (.take 13 (.step 14 (.step 15 (.nil))))))))))))))))) (by kernel_rfl) (by kernel_rfl) (fun d _ _ _ _ h => by cases d <;> exact h) (RtW w G O l (.slice spv nv cv) ((inoL l).take k)) (hs0) ?_
      refine wpG_take _ (.slice (some ⟨G, F, none⟩) 128 C) rfl (by rfl) (fun X hX => by first | rfl | go_simp) ?_
      (try simp only [Act.put, List.setIfInBounds_toArray, List.set_cons_zero, List.set_cons_succ])
      refine wpG_take _ (.pointer (some ⟨G, F, none⟩)) rfl (by rfl) (fun X hX => (by have := HC128.out; first | rfl | go_simp)) ?_
      (try simp only [Act.put, List.setIfInBounds_toArray, List.set_cons_zero, List.set_cons_succ])
      refine wpG_take _ (.int .u8 (n0 : Int)) rfl (by rfl) (fun X hX => ex_ld1 Tryd.underlying5 rfl rfl (HB0.out X hX).1) ?_
      (try simp only [Act.put, List.setIfInBounds_toArray, List.set_cons_zero, List.set_cons_succ])
      refine wpG_take _ (.slice (some ⟨G, F, none⟩) 128 C) rfl (by rfl) (fun X hX => by first | rfl | go_simp) ?_
      (try simp only [Act.put, List.setIfInBounds_toArray, List.set_cons_zero, List.set_cons_succ])
      refine wpG_take _ (.pointer (some ⟨G, F + 2, none⟩)) rfl (by rfl) (fun X hX => (by have := HC128.out; first | rfl | go_simp)) ?_
      (try simp only [Act.put, List.setIfInBounds_toArray, List.set_cons_zero, List.set_cons_succ])
      refine wpG_take _ (.int .u8 (n2 : Int)) rfl (by rfl) (fun X hX => ex_ld1 Tryd.underlying5 rfl rfl (HB0.out X hX).2.1) ?_
      (try simp only [Act.put, List.setIfInBounds_toArray, List.set_cons_zero, List.set_cons_succ])
      refine wpG_take _ (.int .u16 (n2 : Int)) rfl (by rfl) (fun X hX => by first | rfl | go_simp) ?_
      (try simp only [Act.put, List.setIfInBounds_toArray, List.set_cons_zero, List.set_cons_succ])
      refine wpG_take _ (.slice (some ⟨G, F, none⟩) 128 C) rfl (by rfl) (fun X hX => by first | rfl | go_simp) ?_
      (try simp only [Act.put, List.setIfInBounds_toArray, List.set_cons_zero, List.set_cons_succ])
      refine wpG_take _ (.pointer (some ⟨G, F + 3, none⟩)) rfl (by rfl) (fun X hX => (by have := HC128.out; first | rfl | go_simp)) ?_
      (try simp only [Act.put, List.setIfInBounds_toArray, List.set_cons_zero, List.set_cons_succ])
      refine wpG_take _ (.int .u8 (n3 : Int)) rfl (by rfl) (fun X hX => ex_ld1 Tryd.underlying5 rfl rfl (HB0.out X hX).2.2) ?_
      (try simp only [Act.put, List.setIfInBounds_toArray, List.set_cons_zero, List.set_cons_succ])
      refine wpG_take _ (.int .u16 (n3 : Int)) rfl (by rfl) (fun X hX => by first | rfl | go_simp) ?_
      (try simp only [Act.put, List.setIfInBounds_toArray, List.set_cons_zero, List.set_cons_succ])
      refine wpG_take _ (.int .u16 (m3 : Int)) rfl (by rfl) (fun X hX => by first | rfl | go_simp) ?_
      (try simp only [Act.put, List.setIfInBounds_toArray, List.set_cons_zero, List.set_cons_succ])
      refine wpG_take _ (.int .u16 (lk : Int)) rfl (by rfl) (fun X hX => by first | rfl | go_simp) ?_
      (try simp only [Act.put, List.setIfInBounds_toArray, List.set_cons_zero, List.set_cons_succ])
      refine wpG_take _ (.agg (icells ⟨n0, lk, 0, zeroP⟩).toArray) rfl (by rfl) (fun X hX => ex_bldR2 rfl rfl rfl) ?_
      (try simp only [Act.put, List.setIfInBounds_toArray, List.set_cons_zero, List.set_cons_succ])
      have hal : Below wr.drew.heap.size wr.drew (wr.drew.alloc (.cells (icells zeroI).toArray 30)) := (Below.refl _ _).alloc (Nat.le_refl _) _
      have hs1 := hs0.grown hal
      refine wpG_mk _ rfl (by rfl) (.pointer (some ⟨wr.drew.heap.size, 0, none⟩)) _ (ex_alR rfl) (RtW w G O l (.slice spv nv cv) ((inoL l).take k)) hs1 (fun _ h => h) ?_
      (try simp only [Act.put, List.setIfInBounds_toArray, List.set_cons_zero, List.set_cons_succ])
      have hbk : Blk (wr.drew.alloc (.cells (icells zeroI).toArray 30)) wr.drew.heap.size (icells zeroI) 30 := Blk.new _ _ _
      have hX8 : Below wr.drew.heap.size wr.drew ((wr.drew.alloc (.cells (icells zeroI).toArray 30)).setRow wr.drew.heap.size (icells ⟨n0, lk, 0, zeroP⟩).toArray) := below_row hal (Nat.le_refl _) _
      have hno : (⟨n0, lk, 0, zeroP⟩ : Ino).OK := ⟨HLB.out.1, HLB.out.2, by show (0 : Nat) < _; omega, zeroP_ok⟩
      refine wpG_row _ rfl (by rfl) 30 (.tmp 7) (.tmp 38) rfl wr.drew.heap.size (icells ⟨n0, lk, 0, zeroP⟩).toArray rfl rfl hbk (size_icR hno) (by rw [List.size_toArray, icells_length hno, icells_length zeroI_ok]) (one_ic _) (RtW w G O l (.slice spv nv cv) ((inoL l).take k)) (fun _ h => h) (hs0.grown hX8) ?_
      (try simp only [Act.put, List.setIfInBounds_toArray, List.set_cons_zero, List.set_cons_succ])
      refine wpG_nil ?_
      have hrn : RnW w G O l (.slice spv nv cv) ((inoL l).take k) wr.drew.heap.size wr.drew.heap.size ⟨n0, lk, val ((x.drop (7 + 1)).take (7 - 7)), zeroP⟩ ((wr.drew.alloc (.cells (icells zeroI).toArray 30)).setRow wr.drew.heap.size (icells ⟨n0, lk, 0, zeroP⟩).toArray) := ⟨⟨wr.drew, hs0, rfl, hX8⟩, hbk.row (icells ⟨n0, lk, 0, zeroP⟩), Nat.le_refl _⟩
      clear hbk hno hal
      generalize ((wr.drew.alloc (.cells (icells zeroI).toArray 30)).setRow wr.drew.heap.size (icells ⟨n0, lk, 0, zeroP⟩).toArray) = W9 at hrn hX8 ⊢
      obtain ⟨B, g, hB, hg⟩ : ∃ B g, wr.drew.heap.size = B ∧ wr.drew.heap.size = g := ⟨_, _, rfl, rfl⟩
      have hrn2 : RnW w G O l (.slice spv nv cv) ((inoL l).take k) B g ⟨n0, lk, val ((x.drop (7 + 1)).take (7 - 7)), zeroP⟩ W9 := by rw [← hg, ← hB] at *; exact hrn
      clear hrn
      rw [hg]
      have hrn := hrn2
      clear hrn2 hg hB
      have HRN := Lib.hid hrn
      clear hrn u1 u2 u3 u4 HB0 e1 e2 HSL hs0 hs1 hX8
      go_wp2_with fail
      go_loopw [8] (fun i wr => ∃ q : Nat, 3 ≤ q ∧ q ≤ 7 ∧ i = .int .i64 (q : Int) ∧ RnW w G O l (.slice spv nv cv) ((inoL l).take k) B g ⟨n0, lk, val ((x.drop (q + 1)).take (7 - q)), zeroP⟩ wr) (fun i _ => (intOf i).toNat)
      case atStart => exact ⟨7, by omega, by omega, rfl, HRN.out⟩
      case round =>
        clear HRN
        obtain ⟨q, hq3, hq7, rfl, hrn⟩ := hrel
        have HRN := Lib.hid hrn
        clear hrn
        by_cases hq : 4 ≤ q
        · obtain ⟨bq, hbq⟩ : ∃ b, x[q]? = some b := ⟨_, List.getElem?_eq_getElem (by have := HX128.out; omega)⟩
          obtain ⟨nq, hnq⟩ : ∃ n, bq.toNat = n := ⟨_, rfl⟩
          obtain ⟨sz, hsz⟩ : ∃ n, val ((x.drop (q + 1)).take (7 - q)) = n := ⟨_, rfl⟩
          obtain ⟨sz2, hsz2⟩ : ∃ n, val ((x.drop ((q - 1) + 1)).take (7 - (q - 1))) = n := ⟨_, rfl⟩
          have hstep : sz2 = nq + 256 * sz := by
            rw [← hsz2, ← hsz, ← hnq, show q - 1 + 1 = q by omega, show 7 - (q - 1) = (7 - q) + 1 by omega]
            exact val_from hbq
          have hb1 : sz < 16777216 := by
            have h1 := val_take_lt (x.drop (q + 1)) (7 - q)
            rw [hsz] at h1
            exact Nat.lt_of_lt_of_le h1 (Nat.le_trans (Nat.pow_le_pow_right (by omega) (show 8 * (7 - q) ≤ 24 by omega)) (by decide))
          have hl8 := bq.isLt
          have v1 : IntKind.u32.wrap ((sz : Int) * 256) = (sz : Int) * 256 := by rw [IntKind.wrap_u32]; omega
          have v2 : IntKind.u32.wrap (nq : Int) = (nq : Int) := by rw [IntKind.wrap_u32]; omega
          have v3 : IntKind.u32.wrap ((sz : Int) * 256 + (nq : Int)) = (sz2 : Int) := by rw [IntKind.wrap_u32]; omega
          have i4 : (4 : Int) ≤ (q : Int) := by omega
          have wq : IntKind.i64.wrap ((q : Int) - 1) = ((q - 1 : Nat) : Int) := by rw [IntWalk.i64_in _ (by omega)]; omega
          rw [hsz] at HRN
          have HBQ : Hid (∀ W, RtW w G O l (.slice spv nv cv) ((inoL l).take k) W → W.cell? ⟨G, F + q, none⟩ = some (.int .u8 (nq : Int))) := Lib.hid (fun W h => by have := HBY.out _ _ _ h hbq; rw [← hnq]; exact this)
          have HQB : Hid (q < 128) := Lib.hid (by omega)
          have HSZ2 := Lib.hid hsz2
          have HQQ : Hid (3 ≤ q - 1 ∧ q - 1 ≤ 7) := Lib.hid (by omega)
          have HQL : Hid ((q - 1 : Nat) < q) := Lib.hid (by omega)
          clear hbq hnq hsz hsz2 hstep hb1 hl8 hq3 hq7 hq
          go_upto_region 12 with fail
          have hs0 : RnW w G O l (.slice spv nv cv) ((inoL l).take k) B g ⟨n0, lk, sz, zeroP⟩ wr.drew := HRN.out.drew
          refine wp_region_sched (.take 0 (.take 3 (.take 4 (.take 5 (.take 6 (.take 7 (.step 1 (.take 2 (.take 8 (.take 9 (.step 10 (.nil)))))))))))) (by kernel_rfl) (by kernel_rfl) (fun d _ _ _ _ h => by cases d <;> exact h) (RtW w G O l (.slice spv nv cv) ((inoL l).take k)) (hs0.rt) ?_
          refine wpG_take _ (.pointer (some ⟨g, 2, none⟩)) rfl (by rfl) (fun X hX => by first | rfl | go_simp) ?_
          (try simp only [Act.put, List.setIfInBounds_toArray, List.set_cons_zero, List.set_cons_succ])
          refine wpG_take _ (.slice (some ⟨G, F, none⟩) 128 C) rfl (by rfl) (fun X hX => by first | rfl | go_simp) ?_
          (try simp only [Act.put, List.setIfInBounds_toArray, List.set_cons_zero, List.set_cons_succ])
          refine wpG_take _ (.int .i64 (q : Int)) rfl (by rfl) (fun X hX => by first | rfl | go_simp) ?_
          (try simp only [Act.put, List.setIfInBounds_toArray, List.set_cons_zero, List.set_cons_succ])
          refine wpG_take _ (.pointer (some ⟨G, F + q, none⟩)) rfl (by rfl) (fun X hX => (by have := HC128.out; have := HQB.out; have h5 : (q : Int) < 128 := (by omega); have h6 : ¬ (128 : Int) ≤ (q : Int) := (by omega); first | rfl | go_simp)) ?_
          (try simp only [Act.put, List.setIfInBounds_toArray, List.set_cons_zero, List.set_cons_succ])
          refine wpG_take _ (.int .u8 (nq : Int)) rfl (by rfl) (fun X hX => ex_ld1 Tryd.underlying5 rfl rfl (HBQ.out X hX)) ?_
          (try simp only [Act.put, List.setIfInBounds_toArray, List.set_cons_zero, List.set_cons_succ])
          refine wpG_take _ (.int .u32 (nq : Int)) rfl (by rfl) (fun X hX => by first | rfl | go_simp) ?_
          (try simp only [Act.put, List.setIfInBounds_toArray, List.set_cons_zero, List.set_cons_succ])
          refine wpG_mk _ rfl (by rfl) (.int .u32 (sz : Int)) wr.drew (ex_ld1 Tryd.underlying23 rfl rfl (hs0.n.cell (j := 2) rfl)) (RtW w G O l (.slice spv nv cv) ((inoL l).take k)) hs0.rt (fun _ h => h) ?_
          (try simp only [Act.put, List.setIfInBounds_toArray, List.set_cons_zero, List.set_cons_succ])
          refine wpG_take _ (.int .u32 ((sz : Int) * 256)) rfl (by rfl) (fun X hX => by first | rfl | go_simp) ?_
          (try simp only [Act.put, List.setIfInBounds_toArray, List.set_cons_zero, List.set_cons_succ])
          refine wpG_take _ (.int .u32 (sz2 : Int)) rfl (by rfl) (fun X hX => by first | rfl | go_simp) ?_
          (try simp only [Act.put, List.setIfInBounds_toArray, List.set_cons_zero, List.set_cons_succ])
          refine wpG_take _ (.pointer (some ⟨g, 2, none⟩)) rfl (by rfl) (fun X hX => by first | rfl | go_simp) ?_
          (try simp only [Act.put, List.setIfInBounds_toArray, List.set_cons_zero, List.set_cons_succ])
          obtain ⟨u2, hu2⟩ := hs0.n.has 2 (by simp [icells, inums])
          have hst : RnW w G O l (.slice spv nv cv) ((inoL l).take k) B g ⟨n0, lk, sz2, zeroP⟩ (wr.drew.setCell ⟨g, 2, none⟩ (.int .u32 (sz2 : Int))) := hs0.put (hs0.n.set 2 (.int .u32 (sz2 : Int))) ((Below.refl _ _).setCell hs0.hg _)
          refine wpG_st _ rfl (by rfl) (wr.drew.setCell ⟨g, 2, none⟩ (.int .u32 (sz2 : Int))) (ex_st32 rfl rfl rfl hu2 (hs0.n.free 2)) (RtW w G O l (.slice spv nv cv) ((inoL l).take k)) hst.rt (fun _ h => h) ?_
          refine wpG_nil ?_
          have hrn2 := hst
          clear hst hu2
          generalize (wr.drew.setCell ⟨g, 2, none⟩ (.int .u32 (sz2 : Int))) = W12 at hrn2 ⊢
          have HR2 := Lib.hid hrn2
          clear hrn2 hs0 v1 v2 v3 HBQ HRN
          obtain ⟨q1, hq1⟩ : ∃ a, q - 1 = a := ⟨_, rfl⟩
          rw [hq1] at wq HQQ HQL HSZ2
          clear hq1
          go_wp2_with fail
          go_roundw
          case rel => exact ⟨q1, HQQ.out.1, HQQ.out.2, by go_num, by rw [HSZ2.out]; exact HR2.out⟩
          case measure => have := HQL.out; simp [intOf]; omega
        · obtain rfl : q = 3 := by omega
          rw [show ((3 : Nat) : Int) = (3 : Int) from rfl]
          rw [show val ((x.drop (3 + 1)).take (7 - 3)) = (ino x).size from rfl] at HRN
          clear hq hq3 hq7
          obtain ⟨s3, hs3⟩ : ∃ n, (ino x).size = n := ⟨_, rfl⟩
          have HS3 := Lib.hid hs3
          rw [hs3] at HRN
          have HSB : Hid (s3 < 4294967296) := Lib.hid (by rw [← hs3]; exact val_take_lt _ 4)
          obtain ⟨y, hy⟩ : ∃ y, (x.drop 8).take 64 = y := ⟨_, rfl⟩
          have hy64 : y.length = 64 := by rw [← hy, List.length_take, List.length_drop]; have := HX128.out; omega
          obtain ⟨F8, hF8⟩ : ∃ f, F + 8 = f := ⟨_, rfl⟩
          obtain ⟨C8, hC8⟩ : ∃ f, C - 8 = f := ⟨_, rfl⟩
          have hsy := HSR.out _ 8 64 HRN.out.rt
          rw [hy, hF8] at hsy
          have hqt := qtake_any y (some ⟨G, F8, none⟩) C8 0 wr (K := fun _ => True) (by omega) ⟨by have := HC128.out; omega, fun h => (by cases h), fun h0 => (by
            obtain ⟨g', o', e', h1, h2⟩ := hsy h0
            exact ⟨g', o', e', trivial, h1, h2⟩)⟩
          rw [hy64] at hqt
          obtain ⟨te, hte⟩ : ∃ t, takeE y 0 = t := ⟨_, rfl⟩
          obtain ⟨p, hp⟩ : ∃ t, takenP y 0 = t := ⟨_, rfl⟩
          have HPO : Hid p.OK := Lib.hid (by rw [← hp]; exact takenP_ok _ _)
          have HQT := Lib.hid hqt
          have HTE : Hid (takeE ((x.drop 8).take 64) 0 = te) := Lib.hid (by rw [hy]; exact hte)
          have HTP : Hid (takenP ((x.drop 8).take 64) 0 = p) := Lib.hid (by rw [hy]; exact hp)
          have HTE2 := Lib.hid hte; have HTP2 := Lib.hid hp
          have HS8 : Hid (F + 8 = F8 ∧ 72 - 8 = 64 ∧ C - 8 = C8 ∧ (8 ≤ 72 ∧ 72 ≤ C ∧ 8 < C)) := Lib.hid (by have := HC128.out; omega)
          have HSP := Lib.hid (size_pc HPO.out)
          have HLP : Hid ((pcells p).toArray.size = 41) := Lib.hid (by rw [List.size_toArray, pcells_length HPO.out])
          clear hs3 hy hy64 hF8 hC8 hsy hqt hte hp
          go_wp2_with (first | (refine wpL_val rfl (ex_slN (a := 8) (b := 72) HS8.out.1 HS8.out.2.1 HS8.out.2.2.1 HS8.out.2.2.2 rfl rfl rfl rfl) ?_) | fail)
          refine HQT.out.mono ?_
          rintro e4 W4 ⟨sp', cap', rest2, rfl, -, -, -, hb4⟩
          rw [HTP2.out, HTE2.out]
          obtain ⟨nn, hnn⟩ : ∃ n, rest2.length = n := ⟨_, rfl⟩
          rw [hnn]
          have HRN4 := Lib.hid (HRN.out.grown hb4)
          clear hnn hb4 HQT HRN HTP2 HTE2 HS8
          have H1 : ∀ z1 z2 : Array Value, ((W4.alloc (.cells z1 28)).alloc (.cells z2 64)).heap[W4.heap.size]? = some (.cells z1 28 (0, 0)) := fun z1 z2 => ((Blk.new' W4 z1 z1.toList 28 _ rfl (by simp)).alloc (.cells z2 64) : Blk _ _ _ _)
          have H2 : ∀ (z1 z2 c : Array Value), (((W4.alloc (.cells z1 28)).alloc (.cells z2 64)).setRow W4.heap.size c).heap[W4.heap.size + 1]? = some (.cells z2 64 (0, 0)) := fun z1 z2 c => ((Blk.new' (W4.alloc (.cells z1 28)) z2 z2.toList 64 (W4.heap.size + 1) (by simp) (by simp)).rowOther (by omega) c : Blk _ _ _ _)
          have HH1 := Lib.hid H1; have HH2 := Lib.hid H2
          have HZ5 : Hid (∀ (z1 z2 : Array Value) W, W = (((W4.alloc (.cells z1 28)).alloc (.cells z2 64)).setRow W4.heap.size (pcells p).toArray).setRow (W4.heap.size + 1) #[.slice sp' nn cap', .int .i64 (te : Int)] → Blk W W4.heap.size (pcells p) 28 ∧ Blk W (W4.heap.size + 1) [.slice sp' nn cap', .int .i64 (te : Int)] 64 ∧ Below W4.heap.size W4 W) := Lib.hid fun z1 z2 W eW => by
            subst eW
            refine ⟨(((Blk.new' W4 z1 z1.toList 28 _ rfl (by simp)).alloc _).row (pcells p)).rowOther (by omega) _, ((Blk.new' (W4.alloc (.cells z1 28)) z2 z2.toList 64 _ (by simp) (by simp)).rowOther (by omega) _).row [.slice sp' nn cap', .int .i64 (te : Int)], below_row (below_row (((Below.refl _ _).alloc (Nat.le_refl _) _).alloc (by simp) _) (Nat.le_refl _) _) (by omega) _⟩
          clear H1 H2
          go_upto_region 14 with (first | (refine wpList_store_row rfl 28 (.tmp 9) (.tmp 58) rfl W4.heap.size (pcells p).toArray rfl rfl 28 _ (HH1.out _ _) HSP.out (by rw [HLP.out]; rfl) (one_pc p) ?_) | (refine wpList_store_row rfl 64 (.tmp 10) (.tmp 59) rfl (W4.heap.size + 1) #[.slice sp' nn cap', .int .i64 (te : Int)] rfl rfl 64 _ (HH2.out _ _ _) sizeRef rfl (one_ref _ _ _ _) ?_) | fail)
          refine (fun (k : ∀ W, Blk W W4.heap.size (pcells p) 28 ∧ Blk W (W4.heap.size + 1) [.slice sp' nn cap', .int .i64 (te : Int)] 64 ∧ Below W4.heap.size W4 W → Code.wp _ _ _ _ W) => k _ (HZ5.out _ _ _ rfl)) ?_
          rintro W5 ⟨hx1, hx2, hx3⟩
          obtain ⟨g9, hg9⟩ : ∃ a, W4.heap.size = a := ⟨_, rfl⟩
          have HGL : Hid (g < g9) := Lib.hid (by rw [← hg9]; exact HRN4.out.n.lt)
          have HBG : Hid (B ≤ g9) := Lib.hid (by have := HGL.out; have := HRN4.out.hg; omega)
          have hrn5 := HRN4.out.grown hx3
          rw [hg9] at hx1 hx2 ⊢
          clear hx3 hg9 HRN4 HH1 HH2 HZ5
          have hno5 : (⟨n0, lk, s3, zeroP⟩ : Ino).OK := ⟨HLB.out.1, HLB.out.2, HSB.out, zeroP_ok⟩
          obtain ⟨n, hn⟩ : ∃ n : Ino, ⟨n0, lk, s3, p⟩ = n := ⟨_, rfl⟩
          have hno : n.OK := by rw [← hn]; exact ⟨HLB.out.1, HLB.out.2, HSB.out, HPO.out⟩
          have HTH : Hid (W5.there g 3 (pcells p).toArray.size) := Lib.hid (hrn5.n.there _ _ (by rw [HLP.out, icells_length hno5]; omega))
          have hset : Blk (W5.setCells g 3 (pcells p)) g (icells n) 30 := by
            have h1 := blk_setCells g 30 (pcells p) 3 W5 _ hrn5.n (by rw [icells_length hno5, pcells_length HPO.out]; omega)
            have e : (icells ⟨n0, lk, s3, zeroP⟩).take 3 ++ pcells p ++ (icells ⟨n0, lk, s3, zeroP⟩).drop (3 + (pcells p).length) = icells n := by
              unfold icells
              rw [List.take_left' (by rfl), List.drop_of_length_le (by rw [List.length_append, pcells_length HPO.out, pcells_length zeroP_ok]; simp [inums]), List.append_nil, ← hn]
              rfl
            rw [e] at h1
            exact h1
          have hrn6 : RnW w G O l (.slice spv nv cv) ((inoL l).take k) B g n (W5.setCells g 3 (pcells p)) := hrn5.put hset (below_setsI _ _ _ (Below.refl _ _) hrn5.hg)
          have hp6 : Blk (W5.setCells g 3 (pcells p)) g9 (pcells p) 28 := blk_setCells_other (by have := HGL.out; omega) _ _ _ _ hx1
          have hr6 : Blk (W5.setCells g 3 (pcells p)) (g9 + 1) [.slice sp' nn cap', .int .i64 (te : Int)] 64 := blk_setCells_other (by have := HGL.out; omega) _ _ _ _ hx2
          have HX1 := Lib.hid hx1
          have HR6 := Lib.hid hrn6; have HF6 := Lib.hid hr6
          have HNO := Lib.hid hno
          have HFR := Lib.hid (fineI_ref (x := x) HX128.out HTE.out HTP.out (n := n) (by rw [← hn]; exact HKI.out.1.symm) (by rw [← hn]; exact HKI.out.2.symm) (by rw [← hn]; exact HS3.out.symm) (by rw [← hn]))
          have HNOK : Hid (fineI x = false → ok = false) := Lib.hid (fun h => by rw [← HOK.out]; exact inoOk_no HLT.out (by rw [HXX.out]; exact h))
          clear hx1 hx2 hrn5 hno5 hn hno hset hrn6 hp6 hr6 HTE HTP HKI
          go_upto_region 15 with (first | (refine wpL_val rfl (ex_ldPt HPO.out HX1.out rfl rfl) ?_) | (refine wpList_store_mid rfl 28 (.tmp 61) (.tmp 60) rfl g 3 (pcells p).toArray rfl rfl HTH.out HSP.out (one_pc p) ?_) | fail)
          generalize (W5.setCells g 3 (pcells p)) = W6 at HR6 HF6 ⊢
          clear HX1 HTH
          have hs0 : RnW w G O l (.slice spv nv cv) ((inoL l).take k) B g n W6.drew ∧ Blk W6.drew (g9 + 1) [.slice sp' nn cap', .int .i64 (te : Int)] 64 := ⟨HR6.out.drew, HF6.out.drew⟩
          by_cases ht0 : te = 0
          · subst ht0
            obtain ⟨hnx, hf1, hf2⟩ := HFR.out.2 rfl
            have HNX := Lib.hid hnx; have HF2 := Lib.hid hf2
            obtain ⟨mb, hmb⟩ : ∃ b, mayI n = b := ⟨_, rfl⟩
            have HMB := Lib.hid hmb
            rw [hmb] at hf1
            have HF1 := Lib.hid hf1
            clear hnx hf1 hf2 hmb
            cases mb
            · have hno := HNOK.out (HF1.out rfl)
              refine wp_region_sched (.take 0 (.take 1 (.take 2 (.take 3 (.take 4 (.step 5 (.take 6 (.take 7 (.take 8 (.take 9 (.take 12 (.take 13 (.step 10 (.take 11 (.take 14 (.take 15 (.nil))))))))))))))))) (by kernel_rfl) (by kernel_rfl) (fun d _ _ _ _ h => by cases d <;> exact h) (fun X => RnW w G O l (.slice spv nv cv) ((inoL l).take k) B g n X ∧ Blk X (g9 + 1) [.slice sp' nn cap', .int .i64 ((0 : Nat) : Int)] 64) (hs0) ?_
              refine wpG_take _ (.pointer (some ⟨g9 + 1, 1, none⟩)) rfl (by rfl) (fun X hX => by first | rfl | go_simp) ?_
              (try simp only [Act.put, List.setIfInBounds_toArray, List.set_cons_zero, List.set_cons_succ])
              refine wpG_take _ (.int .i64 ((0 : Nat) : Int)) rfl (by rfl) (fun X hX => ex_ldEr rfl rfl (hX.2.cell (j := 1) rfl)) ?_
              (try simp only [Act.put, List.setIfInBounds_toArray, List.set_cons_zero, List.set_cons_succ])
              refine wpG_take _ (.bool false) rfl (by rfl) (fun X hX => by first | rfl | go_simp) ?_
              (try simp only [Act.put, List.setIfInBounds_toArray, List.set_cons_zero, List.set_cons_succ])
              refine wpG_take _ (.bool false) rfl (by rfl) (fun X hX => by first | rfl | go_simp) ?_
              (try simp only [Act.put, List.setIfInBounds_toArray, List.set_cons_zero, List.set_cons_succ])
              refine wpG_take _ (.agg (icells n).toArray) rfl (by rfl) (fun X hX => ex_ldRn HNO.out hX.1.n rfl rfl) ?_
              (try simp only [Act.put, List.setIfInBounds_toArray, List.set_cons_zero, List.set_cons_succ])
              refine wpG_call _ rfl (by rfl) 8 #[.agg (icells n).toArray] (fun X => by go_simp) (fun u X => u = .bool false) ((rimay_any n HNO.out W6.drew).mono fun e X ⟨e1, e2⟩ => ⟨_, e1, ⟨hs0.1.grown e2, hs0.2.below e2 hs0.2.lt⟩, by rw [HMB.out]⟩) ?_
              rintro u Y1 hs1 rfl
              refine ⟨fun X => RnW w G O l (.slice spv nv cv) ((inoL l).take k) B g n X ∧ Blk X (g9 + 1) [.slice sp' nn cap', .int .i64 ((0 : Nat) : Int)] 64, fun _ h => h, hs1, ?_⟩
              (try simp only [Act.put, List.setIfInBounds_toArray, List.set_cons_zero, List.set_cons_succ])
              refine wpG_take _ (.bool true) rfl (by rfl) (fun X hX => by first | rfl | go_simp) ?_
              (try simp only [Act.put, List.setIfInBounds_toArray, List.set_cons_zero, List.set_cons_succ])
              refine wpG_take _ (.bool true) rfl (by rfl) (fun X hX => by first | rfl | go_simp) ?_
              (try simp only [Act.put, List.setIfInBounds_toArray, List.set_cons_zero, List.set_cons_succ])
              refine wpG_take _ (.bool true) rfl (by rfl) (fun X hX => by first | rfl | go_simp) ?_
              (try simp only [Act.put, List.setIfInBounds_toArray, List.set_cons_zero, List.set_cons_succ])
              refine wpG_pass _ rfl (by rfl) ?_
              (try simp only [Act.put, List.setIfInBounds_toArray, List.set_cons_zero, List.set_cons_succ])
              refine wpG_pass _ rfl (by rfl) ?_
              (try simp only [Act.put, List.setIfInBounds_toArray, List.set_cons_zero, List.set_cons_succ])
              refine wpG_pass _ rfl (by rfl) ?_
              (try simp only [Act.put, List.setIfInBounds_toArray, List.set_cons_zero, List.set_cons_succ])
              refine wpG_skip _ rfl (by rfl) hs1 ?_
              (try simp only [Act.put, List.setIfInBounds_toArray, List.set_cons_zero, List.set_cons_succ])
              refine wpG_pass _ rfl (by rfl) ?_
              (try simp only [Act.put, List.setIfInBounds_toArray, List.set_cons_zero, List.set_cons_succ])
              refine wpG_pass _ rfl (by rfl) ?_
              (try simp only [Act.put, List.setIfInBounds_toArray, List.set_cons_zero, List.set_cons_succ])
              refine wpG_take _ (.bool true) rfl (by rfl) (fun X hX => by first | rfl | go_simp) ?_
              (try simp only [Act.put, List.setIfInBounds_toArray, List.set_cons_zero, List.set_cons_succ])
              refine wpG_nil ?_
              have HE := Lib.hid (HPN.out _ hno hs1.1.rt.bel)
              clear hs0 hs1 hno
              go_wp2_with fail
              first | exact HE.out | (go_ret2; exact HE.out)
            · obtain ⟨eb, heb⟩ : ∃ b, decide (inoB n = x.take 128) = b := ⟨_, rfl⟩
              have HEB := Lib.hid heb
              have HTL : Hid ((x.take 128).length = 128) := Lib.hid (by rw [List.length_take]; have := HX128.out; omega)
              have HBL : Hid ((inoB n).length = 128) := Lib.hid (inoB_length HNO.out)
              clear heb
              refine wp_region_sched (.take 0 (.take 1 (.take 2 (.take 3 (.take 4 (.step 5 (.take 6 (.take 7 (.take 8 (.take 9 (.take 12 (.take 13 (.step 10 (.take 11 (.take 14 (.take 15 (.nil))))))))))))))))) (by kernel_rfl) (by kernel_rfl) (fun d _ _ _ _ h => by cases d <;> exact h) (fun X => RnW w G O l (.slice spv nv cv) ((inoL l).take k) B g n X ∧ Blk X (g9 + 1) [.slice sp' nn cap', .int .i64 ((0 : Nat) : Int)] 64) (hs0) ?_
              refine wpG_take _ (.pointer (some ⟨g9 + 1, 1, none⟩)) rfl (by rfl) (fun X hX => by first | rfl | go_simp) ?_
              (try simp only [Act.put, List.setIfInBounds_toArray, List.set_cons_zero, List.set_cons_succ])
              refine wpG_take _ (.int .i64 ((0 : Nat) : Int)) rfl (by rfl) (fun X hX => ex_ldEr rfl rfl (hX.2.cell (j := 1) rfl)) ?_
              (try simp only [Act.put, List.setIfInBounds_toArray, List.set_cons_zero, List.set_cons_succ])
              refine wpG_take _ (.bool false) rfl (by rfl) (fun X hX => by first | rfl | go_simp) ?_
              (try simp only [Act.put, List.setIfInBounds_toArray, List.set_cons_zero, List.set_cons_succ])
              refine wpG_take _ (.bool false) rfl (by rfl) (fun X hX => by first | rfl | go_simp) ?_
              (try simp only [Act.put, List.setIfInBounds_toArray, List.set_cons_zero, List.set_cons_succ])
              refine wpG_take _ (.agg (icells n).toArray) rfl (by rfl) (fun X hX => ex_ldRn HNO.out hX.1.n rfl rfl) ?_
              (try simp only [Act.put, List.setIfInBounds_toArray, List.set_cons_zero, List.set_cons_succ])
              refine wpG_call _ rfl (by rfl) 8 #[.agg (icells n).toArray] (fun X => by go_simp) (fun u X => u = .bool true) ((rimay_any n HNO.out W6.drew).mono fun e X ⟨e1, e2⟩ => ⟨_, e1, ⟨hs0.1.grown e2, hs0.2.below e2 hs0.2.lt⟩, by rw [HMB.out]⟩) ?_
              rintro u Y1 hs1 rfl
              refine ⟨fun X => RnW w G O l (.slice spv nv cv) ((inoL l).take k) B g n X ∧ Blk X (g9 + 1) [.slice sp' nn cap', .int .i64 ((0 : Nat) : Int)] 64, fun _ h => h, hs1, ?_⟩
              (try simp only [Act.put, List.setIfInBounds_toArray, List.set_cons_zero, List.set_cons_succ])
              refine wpG_take _ (.bool false) rfl (by rfl) (fun X hX => by first | rfl | go_simp) ?_
              (try simp only [Act.put, List.setIfInBounds_toArray, List.set_cons_zero, List.set_cons_succ])
              refine wpG_take _ (.bool false) rfl (by rfl) (fun X hX => by first | rfl | go_simp) ?_
              (try simp only [Act.put, List.setIfInBounds_toArray, List.set_cons_zero, List.set_cons_succ])
              refine wpG_take _ (.bool false) rfl (by rfl) (fun X hX => by first | rfl | go_simp) ?_
              (try simp only [Act.put, List.setIfInBounds_toArray, List.set_cons_zero, List.set_cons_succ])
              refine wpG_take _ (.agg (icells n).toArray) rfl (by rfl) (fun X hX => ex_ldRn HNO.out hX.1.n rfl rfl) ?_
              (try simp only [Act.put, List.setIfInBounds_toArray, List.set_cons_zero, List.set_cons_succ])
              refine wpG_take _ (.slice (some ⟨G, F, none⟩) 128 C) rfl (by rfl) (fun X hX => by first | rfl | go_simp) ?_
              (try simp only [Act.put, List.setIfInBounds_toArray, List.set_cons_zero, List.set_cons_succ])
              refine wpG_take _ (.string (bstr (x.take 128))) rfl (by rfl) (fun X hX => ex_cvs rfl HTL.out rfl (by have h := HSR.out _ 0 128 hX.1.rt; rw [Nat.add_zero, List.drop_zero] at h; exact h)) ?_
              (try simp only [Act.put, List.setIfInBounds_toArray, List.set_cons_zero, List.set_cons_succ])
              refine wpG_call _ rfl (by rfl) 21 #[.agg (icells n).toArray] (fun X => by go_simp) (fun u X => OwnB X Y1.heap.size u (inoB n)) ((ribytes_any n HNO.out Y1).mono fun e X ⟨v, e1, e2, e3⟩ => ⟨v, e1, ⟨hs1.1.grown e3, hs1.2.below e3 hs1.2.lt⟩, e2⟩) ?_
              rintro u Y2 hs2 ho6
              obtain ⟨sp6, cap6, rfl, -, -, q3, -, -⟩ := OwnB.form ho6
              rw [HBL.out]
              refine ⟨fun X => RnW w G O l (.slice spv nv cv) ((inoL l).take k) B g n X ∧ Blk X (g9 + 1) [.slice sp' nn cap', .int .i64 ((0 : Nat) : Int)] 64 ∧ SrcA X sp6 (inoB n), fun _ h => ⟨h.1, h.2.1⟩, ⟨hs2.1, hs2.2, q3⟩, ?_⟩
              (try simp only [Act.put, List.setIfInBounds_toArray, List.set_cons_zero, List.set_cons_succ])
              refine wpG_take _ (.string (bstr (inoB n))) rfl (by rfl) (fun X hX => ex_cvs rfl HBL.out rfl hX.2.2) ?_
              (try simp only [Act.put, List.setIfInBounds_toArray, List.set_cons_zero, List.set_cons_succ])
              refine wpG_take _ (.bool (!eb)) rfl (by rfl) (fun X hX => (ex_neq rfl rfl rfl).trans (by rw [HEB.out])) ?_
              (try simp only [Act.put, List.setIfInBounds_toArray, List.set_cons_zero, List.set_cons_succ])
              refine wpG_take _ (.bool (!eb)) rfl (by rfl) (fun X hX => by first | rfl | go_simp) ?_
              (try simp only [Act.put, List.setIfInBounds_toArray, List.set_cons_zero, List.set_cons_succ])
              refine wpG_nil ?_
              cases eb
              · have hff : fineI x = false := by
                  rw [Bool.eq_false_iff]
                  intro h
                  exact of_decide_eq_false HEB.out ((HF2.out HMB.out).2 h)
                have HE := Lib.hid (HPN.out _ (HNOK.out hff) hs2.1.rt.bel)
                clear hs0 hs1 hs2 hff q3 ho6
                go_wp2_with fail
                first | exact HE.out | (go_ret2; exact HE.out)
              · have hft : fineI x = true := (HF2.out HMB.out).1 (of_decide_eq_true HEB.out)
                have hat : (inoL l)[k]? = some n := by rw [HNX.out, ← HXX.out]; simp [inoL, HLT.out]
                have hb9 : Below Y2.heap.size Y2 (Y2.alloc (.cells (icells n).toArray 30)) := (Below.refl _ _).alloc (Nat.le_refl _) _
                have hrn9 := hs2.1.grown hb9
                obtain ⟨v10, w10, hr10, ho10, hb10⟩ := ownI_app hrn9.rt.own hrn9.rt.bel.size (by rw [List.length_take]; have := HLT.out; omega) HNO.out (Blk.new Y2 (icells n) 30) 43
                rw [← itake_snoc hat] at ho10
                obtain ⟨sp10, n10, c10, rfl⟩ := ho10.form
                have hbw : Below w.heap.size w w10 := hrn9.rt.bel.trans hb10
                have hrt : RtW w G O l (.slice sp10 n10 c10) ((inoL l).take (k + 1)) w10 := ⟨fun j hj => (hb10.cell (p := ⟨G, O + j, none⟩) hrn9.rt.gg).trans (hrn9.rt.by_ j hj), hrn9.rt.gg, ho10, hbw⟩
                have HRT := Lib.hid hrt; have HR10 := Lib.hid hr10
                have HRY := Lib.hid hs2.1
                have HFN : Hid (∀ j, j < k + 1 → fineI (l.drop (128 * j)) = true) := Lib.hid (fun j hj => by
                  by_cases e : j = k
                  · subst e; rw [HXX.out]; exact hft
                  · exact HFI.out j (by omega))
                have HK4 : Hid (k + 1 ≤ 4) := Lib.hid (by have := HLT.out; omega)
                clear hs0 hs1 hs2 hft hat hb9 hrn9 hr10 ho10 hb10 hbw hrt q3 ho6
                go_wp2_with (first | (refine wpL_valG (by rfl) (ex_ldRn HNO.out HRY.out.n rfl rfl) ?_) | (refine wpL_val rfl (ex_oneR HNO.out rfl rfl) ?_) | (at_builtin; refine wpL_val rfl (ex_appR rfl rfl rfl HR10.out) ?_) | fail)
                go_roundw
                case rel => exact ⟨k + 1, HK4.out, by go_num, HFN.out, HRT.out⟩
                case measure => have := HLT.out; simp [intOf]; omega
          · have i0 : ¬ (te : Int) = 0 := by omega
            have hno := HNOK.out (HFR.out.1 ht0)
            refine wp_region_sched (.take 0 (.take 1 (.take 2 (.take 3 (.take 4 (.step 5 (.take 6 (.take 7 (.take 8 (.take 9 (.take 12 (.take 13 (.step 10 (.take 11 (.take 14 (.take 15 (.nil))))))))))))))))) (by kernel_rfl) (by kernel_rfl) (fun d _ _ _ _ h => by cases d <;> exact h) (fun X => RnW w G O l (.slice spv nv cv) ((inoL l).take k) B g n X ∧ Blk X (g9 + 1) [.slice sp' nn cap', .int .i64 (te : Int)] 64) (hs0) ?_
            refine wpG_take _ (.pointer (some ⟨g9 + 1, 1, none⟩)) rfl (by rfl) (fun X hX => by first | rfl | go_simp) ?_
            (try simp only [Act.put, List.setIfInBounds_toArray, List.set_cons_zero, List.set_cons_succ])
            refine wpG_take _ (.int .i64 (te : Int)) rfl (by rfl) (fun X hX => ex_ldEr rfl rfl (hX.2.cell (j := 1) rfl)) ?_
            (try simp only [Act.put, List.setIfInBounds_toArray, List.set_cons_zero, List.set_cons_succ])
            refine wpG_take _ (.bool true) rfl (by rfl) (fun X hX => by first | rfl | go_simp) ?_
            (try simp only [Act.put, List.setIfInBounds_toArray, List.set_cons_zero, List.set_cons_succ])
            refine wpG_take _ (.bool true) rfl (by rfl) (fun X hX => by first | rfl | go_simp) ?_
            (try simp only [Act.put, List.setIfInBounds_toArray, List.set_cons_zero, List.set_cons_succ])
            refine wpG_pass _ rfl (by rfl) ?_
            (try simp only [Act.put, List.setIfInBounds_toArray, List.set_cons_zero, List.set_cons_succ])
            refine wpG_skip _ rfl (by rfl) hs0 ?_
            (try simp only [Act.put, List.setIfInBounds_toArray, List.set_cons_zero, List.set_cons_succ])
            refine wpG_pass _ rfl (by rfl) ?_
            (try simp only [Act.put, List.setIfInBounds_toArray, List.set_cons_zero, List.set_cons_succ])
            refine wpG_take _ (.bool true) rfl (by rfl) (fun X hX => by first | rfl | go_simp) ?_
            (try simp only [Act.put, List.setIfInBounds_toArray, List.set_cons_zero, List.set_cons_succ])
            refine wpG_take _ (.bool true) rfl (by rfl) (fun X hX => by first | rfl | go_simp) ?_
            (try simp only [Act.put, List.setIfInBounds_toArray, List.set_cons_zero, List.set_cons_succ])
            refine wpG_pass _ rfl (by rfl) ?_
            (try simp only [Act.put, List.setIfInBounds_toArray, List.set_cons_zero, List.set_cons_succ])
            refine wpG_pass _ rfl (by rfl) ?_
            (try simp only [Act.put, List.setIfInBounds_toArray, List.set_cons_zero, List.set_cons_succ])
            refine wpG_pass _ rfl (by rfl) ?_
            (try simp only [Act.put, List.setIfInBounds_toArray, List.set_cons_zero, List.set_cons_succ])
            refine wpG_skip _ rfl (by rfl) hs0 ?_
            (try simp only [Act.put, List.setIfInBounds_toArray, List.set_cons_zero, List.set_cons_succ])
            refine wpG_pass _ rfl (by rfl) ?_
            (try simp only [Act.put, List.setIfInBounds_toArray, List.set_cons_zero, List.set_cons_succ])
            refine wpG_pass _ rfl (by rfl) ?_
            (try simp only [Act.put, List.setIfInBounds_toArray, List.set_cons_zero, List.set_cons_succ])
            refine wpG_take _ (.bool true) rfl (by rfl) (fun X hX => by first | rfl | go_simp) ?_
            (try simp only [Act.put, List.setIfInBounds_toArray, List.set_cons_zero, List.set_cons_succ])
            refine wpG_nil ?_
            have HE := Lib.hid (HPN.out _ hno hs0.1.rt.bel)
            clear hs0 hno
            go_wp2_with fail
            first | exact HE.out | (go_ret2; exact HE.out)
    · obtain rfl : k = 4 := by omega
      have hok : ok = true := by
        rw [← HOK.out]
        unfold inoOk
        rw [decide_eq_true HL.out, Bool.true_and, List.all_eq_true]
        exact fun j hj => HFI.out j (List.mem_range.1 hj)
      have ho := HXk.out.own
      rw [List.take_of_length_le (by rw [HLO.out.len]; omega)] at ho
      have HE := Lib.hid (HPY.out wr _ _ _ hok ho HXk.out.bel)
      rw [show ((4 : Nat) : Int) = (4 : Int) from rfl]
      clear hlt hk hok ho
      go_wp2_with fail
      first | exact HE.out | (go_ret2; exact HE.out)
theorem ritake_any (l : Bs) (sp : Option Addr) (cap : Nat) (w : World) (hc : l.length ≤ cap) (hS : SrcA w sp l) : Calls Tryd.prog 14 #[.slice sp l.length cap] w (RTakePost l w) := by
  by_cases h : l.length = 512
  · have h1 := ritake_512 l sp cap w h hc hS
    rw [h]
    exact h1
  · exact ritake_bad l sp cap w h
end Go.Proofs.YtecngehkdjmjmaaDoor
