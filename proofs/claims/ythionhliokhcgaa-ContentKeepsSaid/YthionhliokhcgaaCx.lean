/- ContentKeeps: the walk. -/
import Derived.Test.YthionhliokhcgaaCw
import Derived.Deep.CutBlock
import Derived.Deep.LoopGhost
import Derived.BigFrame
namespace Go.Proofs.Ythionhliokhcgaa
open Go.RowKit Go.Shelf

attribute [local go_sem] Oper.semAt_some

section
variable {ρ : Operand → Value} {o : Oper} {x y : Operand} {w : World}
theorem c_iaBo {g p n cap k : Nat} (ho : o.op = .indexAddr 24 x y) (hx : ρ x = .slice (some ⟨g, p, none⟩) n cap) (hy : ρ y = .int .i64 (k : Int)) (hk : k < n ∧ n ≤ cap) :
    (execOp ρ o).run Try.prog w = .ok (.value (.pointer (some ⟨g, p + k, none⟩))) w := by
  have h1 : ¬ n ≤ k := by omega
  unfold execOp
  simp only [ho]
  go_simp
theorem c_faA {g j k : Nat} (hj : (j = 0 ∧ k = 0) ∨ (j = 1 ∧ k = 1) ∨ (j = 3 ∧ k = 3)) (ho : o.op = .fieldAddr 26 x j) (hx : ρ x = .pointer (some ⟨g, 0, none⟩)) : (execOp ρ o).run Try.prog w = .ok (.value (.pointer (some ⟨g, k, none⟩))) w := by
  unfold execOp
  simp only [ho]
  rcases hj with ⟨rfl, rfl⟩ | ⟨rfl, rfl⟩ | ⟨rfl, rfl⟩ <;> go_simp
theorem c_cvU {z : Nat} (ho : o.op = .convert 34 3 x) (hx : ρ x = .int .u32 (z : Int)) (hz : z < 1000000) : (execOp ρ o).run Try.prog w = .ok (.value (.int .i64 (z : Int))) w := by
  have wz := IntWalk.i64_in (z : Int) (by omega)
  unfold execOp
  simp only [ho]
  go_simp
theorem c_eqU8 {a b : Int} {k : TypeId} {r : Bool} (ho : o.op = .binOp .eql 5 x y k) (hx : ρ x = .int .u8 a) (hy : ρ y = .int .u8 b) (hr : (a == b) = r) : (execOp ρ o).run Try.prog w = .ok (.value (.bool r)) w := by
  subst hr
  unfold execOp
  simp only [ho]
  go_simp
theorem c_gtU8 {a b : Int} {k : TypeId} {r : Bool} (ho : o.op = .binOp .gtr 5 x y k) (hx : ρ x = .int .u8 a) (hy : ρ y = .int .u8 b) (hr : decide (b < a) = r) : (execOp ρ o).run Try.prog w = .ok (.value (.bool r)) w := by
  subst hr
  unfold execOp
  simp only [ho]
  go_simp
theorem c_eqI {a b : Int} {k : TypeId} {r : Bool} (ho : o.op = .binOp .eql 3 x y k) (hx : ρ x = .int .i64 a) (hy : ρ y = .int .i64 b) (hr : (a == b) = r) : (execOp ρ o).run Try.prog w = .ok (.value (.bool r)) w := by
  subst hr
  unfold execOp
  simp only [ho]
  go_simp
theorem c_geI {a b : Int} {k : TypeId} {r : Bool} (ho : o.op = .binOp .geq 3 x y k) (hx : ρ x = .int .i64 a) (hy : ρ y = .int .i64 b) (hr : decide (b ≤ a) = r) : (execOp ρ o).run Try.prog w = .ok (.value (.bool r)) w := by
  subst hr
  unfold execOp
  simp only [ho]
  go_simp
theorem c_ltI {a b : Int} {k : TypeId} {r : Bool} (ho : o.op = .binOp .lss 3 x y k) (hx : ρ x = .int .i64 a) (hy : ρ y = .int .i64 b) (hr : decide (a < b) = r) : (execOp ρ o).run Try.prog w = .ok (.value (.bool r)) w := by
  subst hr
  unfold execOp
  simp only [ho]
  go_simp
theorem c_addI {a b : Nat} {k : TypeId} (ho : o.op = .binOp .add 3 x y k) (hx : ρ x = .int .i64 (a : Int)) (hy : ρ y = .int .i64 (b : Int)) (h : a + b < 1000000) : (execOp ρ o).run Try.prog w = .ok (.value (.int .i64 ((a + b : Nat) : Int))) w := by
  have e : IntKind.i64.wrap ((a : Int) + (b : Int)) = ((a + b : Nat) : Int) := by rw [IntKind.wrap_i64]; omega
  unfold execOp
  simp only [ho]
  simp only [hx, hy, binOp]
  simp [e, go_sem]
theorem c_subI {a b : Nat} {k : TypeId} (ho : o.op = .binOp .sub 3 x y k) (hx : ρ x = .int .i64 (a : Int)) (hy : ρ y = .int .i64 (b : Int)) (h : b ≤ a ∧ a < 1000000) : (execOp ρ o).run Try.prog w = .ok (.value (.int .i64 ((a - b : Nat) : Int))) w := by
  have e : IntKind.i64.wrap ((a : Int) - (b : Int)) = ((a - b : Nat) : Int) := by rw [IntKind.wrap_i64]; omega
  unfold execOp
  simp only [ho]
  simp only [hx, hy, binOp]
  simp [e, go_sem]
theorem c_maxI {a b c : Int} (ho : o.op = .call { callee := .builtin .max, args := #[x, y], argTypes := #[3, 3] }) (hx : ρ x = .int .i64 a) (hy : ρ y = .int .i64 b) (h : (if a < b then b else a) = c) : (execOp ρ o).run Try.prog w = .ok (.value (.int .i64 c)) w := by
  subst h
  unfold execOp
  simp only [ho]
  go_simp
theorem c_quo {p : Nat} {k : TypeId} (ho : o.op = .binOp .quo 3 x (.const (.int .i64 512)) k) (hx : ρ x = .int .i64 (p : Int)) (hy : ρ (.const (.int .i64 512)) = .int .i64 512) (hp : p < 1000000) : (execOp ρ o).run Try.prog w = .ok (.value (.int .i64 ((p / 512 : Nat) : Int))) w := by
  have hm : Int.tdiv (p : Int) 512 = ((p / 512 : Nat) : Int) := by rw [Int.tdiv_eq_ediv_of_nonneg (by omega)]; omega
  have hw := IntWalk.i64_in ((p / 512 : Nat) : Int) (by omega)
  unfold execOp
  simp only [ho]
  go_simp
  first | done | (rw [IntKind.wrap_i64]; omega)
theorem c_rem {p : Nat} {k : TypeId} (ho : o.op = .binOp .rem 3 x (.const (.int .i64 512)) k) (hx : ρ x = .int .i64 (p : Int)) (hy : ρ (.const (.int .i64 512)) = .int .i64 512) (hp : p < 1000000) : (execOp ρ o).run Try.prog w = .ok (.value (.int .i64 ((p % 512 : Nat) : Int))) w := by
  have hm : Int.tmod (p : Int) 512 = ((p % 512 : Nat) : Int) := by rw [Int.tmod_eq_emod_of_nonneg (by omega)]; omega
  have hw := IntWalk.i64_in ((p % 512 : Nat) : Int) (by omega)
  unfold execOp
  simp only [ho]
  go_simp
  first | done | (rw [IntKind.wrap_i64]; omega)
theorem c_neU8 {a : Int} {k : TypeId} (ho : o.op = .binOp .neq 5 x y k) (hx : ρ x = .int .u8 a) (hy : ρ y = .int .u8 a) : (execOp ρ o).run Try.prog w = .ok (.value (.bool false)) w := by
  unfold execOp
  simp only [ho]
  go_simp
theorem c_lenB {sp : Option Addr} {n cap : Nat} (ho : o.op = .call { callee := .builtin .len, args := #[x], argTypes := #[24] }) (hx : ρ x = .slice sp n cap) : (execOp ρ o).run Try.prog w = .ok (.value (.int .i64 (n : Int))) w := by
  unfold execOp
  simp only [ho]
  go_simp
end
theorem rng_at (m : List B8) {z j : Nat} (h : j < z) : (rng m 0 z).getD j 0 = byt m j := by
  rw [List.getD_eq_getElem?_getD, rng_get m 0 z j (by omega), Nat.zero_add]; rfl
theorem n8_0 : V8 (0 : BitVec 8) = .int .u8 0 := rfl
/-- Between acts. -/
structure KeepK (w : World) (D g3 g4 : Nat) (vs : List Value) (m : List B8) (av : Value) (aq : List Nat) (sz Q : Nat) (wr : World) : Prop where
  sh : ShW wr w.heap.size D vs m 0 av aq
  fil : Fil m sz
  b3 : Blk wr g3 [.pointer (some ⟨D, 0, none⟩)] 29
  b4 : Blk wr g4 [.int .u32 (sz : Int)] 34
  ne : av.ownBlock ≠ some g4
  lo : w.heap.size ≤ g4
  bel : Below w.heap.size w wr
  q : aq.length ≤ Q
section
variable {w : World} {D g3 g4 : Nat} {vs : List Value} {m : List B8} {av : Value} {aq : List Nat} {sz Q : Nat} {wr W : World}
theorem KeepK.below (h : KeepK w D g3 g4 vs m av aq sz Q wr) (hb : Below wr.heap.size wr W) : KeepK w D g3 g4 vs m av aq sz Q W :=
  ⟨h.sh.below hb, h.fil, h.b3.below hb h.b3.lt, h.b4.below hb h.b4.lt, h.ne, h.lo, h.bel.trans (hb.mono h.bel.size), h.q⟩
theorem KeepK.mono (h : KeepK w D g3 g4 vs m av aq sz Q wr) {Q' : Nat} (hq : Q ≤ Q') : KeepK w D g3 g4 vs m av aq sz Q' wr :=
  ⟨h.sh, h.fil, h.b3, h.b4, h.ne, h.lo, h.bel, Nat.le_trans h.q hq⟩
theorem KeepK.neD (h : KeepK w D g3 g4 vs m av aq sz Q wr) : g4 ≠ D := fun e => by
  have := h.b4
  rw [e] at this
  exact absurd (this.same h.sh.d) (by decide)
theorem KeepK.mv (h : KeepK w D g3 g4 vs m av aq sz Q wr) {av' : Value} {aq' : List Nat} (hs : ShW W w.heap.size D vs m 0 av' aq') (hm : CMv D av wr av' W) (hq : aq'.length ≤ aq.length + 100) : KeepK w D g3 g4 vs m av' aq' sz (Q + 100) W :=
  ⟨hs, h.fil, h.sh.keep hm h.b3 (by decide) (by decide), hm.blk h.b4 h.neD h.ne, fun e => by
    rcases hm.own g4 e with e2 | e2
    · exact h.ne e2
    · have := h.b4.lt; omega, h.lo, h.bel.trans (hm.chg.below (fun k hk => by
      rcases hk with e | e
      · have := h.sh.lo; omega
      · exact c_owns_lo h.sh.q e) h.bel.size), by have := h.q; omega⟩
/-- Changes went in, and the size. -/
theorem KeepK.went (h : KeepK w D g3 g4 vs m av aq sz Q wr) {vs' : List Value} {m' : List B8} {z : Nat} (hs : ShW W w.heap.size D vs' m' 0 av aq) (hc : Chg (fun g => g = D) wr W) (hf : Fil m' z) : KeepK w D g3 g4 vs' m' av aq z Q (W.setCell ⟨g4, 0, none⟩ (.int .u32 (z : Int))) ∧ Chg (fun g => g = D ∨ g = g4) wr (W.setCell ⟨g4, 0, none⟩ (.int .u32 (z : Int))) := by
  have h4 := h.b4.chg hc h.neD
  have h3 : Blk W g3 _ _ := h.b3.chg hc (fun e => by
    have := h.b3
    rw [e] at this
    exact absurd (this.same h.sh.d) (by decide))
  have hc2 : Chg (fun g => g = g4) W (W.setCell ⟨g4, 0, none⟩ (.int .u32 (z : Int))) := Chg.setCell (F := fun g => g = g4) (Chg.refl _ _) (.inl rfl) _ _
  have hne34 : ¬ g3 = g4 := fun e => by
    rw [e] at h3
    exact absurd (h3.same h4) (by decide)
  have hcc : Chg (fun g => g = D ∨ g = g4) wr (W.setCell ⟨g4, 0, none⟩ (.int .u32 (z : Int))) := (hc.mono (fun i hi => .inl hi)).trans hc2 (fun i hi => .inl (.inr hi))
  refine ⟨⟨hs.out hc2 (fun e => h.neD e.symm) (fun g hg e => h.ne (e ▸ hg)) (hs.row_ne h4 (by decide)), hf, h3.chg hc2 hne34, h4.set 0 _, h.ne, h.lo, h.bel.trans (hcc.below (fun k hk => by
      rcases hk with e | e
      · have := h.sh.lo; omega
      · have := h.lo; omega) h.bel.size), h.q⟩, hcc⟩
end
theorem cfA (args : Array Value) (w : World) : (callFunc 12 args).run Try.prog w = .ok (.enter 12 args) w := by go_simp
set_option maxRecDepth 100000 in
set_option maxHeartbeats 16000000 in
theorem keeps_go (l : List AcT) (sp : Option Addr) (cap : Nat) (hc : l.length ≤ cap) (w : World) (hA : ActsT w sp l) (hg : greatB l = false) : Calls Try.prog 5 #[.slice sp l.length cap] w fun e w' => e = .returned (.bool true) ∧ Below w.heap.size w w' := by
  have hgr := great_go l sp cap hc w hA
  rw [hg] at hgr
  obtain ⟨N, hN⟩ : ∃ N, l.length = N := ⟨_, rfl⟩
  rw [hN] at hc hgr ⊢
  have HN := Lib.hid hN; have HC := Lib.hid hc; have HA := Lib.hid hA; have HGR := Lib.hid hgr
  have hN40 : N ≤ 40 := by
    unfold greatB at hg
    rw [Bool.or_eq_false_iff, hN] at hg
    simpa using hg.1
  have hbl : ∀ q ∈ l, q.b.length ≤ 2100 := fun q hq => by
    unfold greatB at hg
    rw [Bool.or_eq_false_iff] at hg
    have := List.any_eq_false.1 hg.2 q hq
    simpa using this
  have HN40 := Lib.hid hN40; have HBL := Lib.hid hbl
  generalize hPost : (fun (e : Ending) (w' : World) => e = .returned (.bool true) ∧ Below w.heap.size w w') = Post
  have HP : Hid (∀ w', Below w.heap.size w w' → Post (.returned (.bool true)) w') := Lib.hid fun w' h => by rw [← hPost]; exact ⟨rfl, h⟩
  obtain ⟨Z, hZ⟩ : ∃ Z, zsh.toArray = Z := ⟨_, rfl⟩
  have HZ := Lib.hid hZ
  clear hN hc hA hg hgr hN40 hbl hPost hZ
  go_enter Try.func5, Try.ntmps5
  go_upto_region 1 with fail
  go_wp2_with fail
  refine HGR.out.mono ?_
  rintro e W0 ⟨rfl, hb0⟩
  go_upto_region 3 with fail
  have HB0 := Lib.hid hb0
  clear hb0
  refine wp_region_list ?_
  refine wpList_build' rfl 33 #[] rfl Z (by simp only [List.map_toArray, List.map_nil]; rw [← HZ.out]; exact built_sh) ?_
  go_upto_region 7 with fail
  have hk0 : KeepK w W0.heap.size (W0.heap.size + 1) (W0.heap.size + 1 + 1) (List.replicate 64 (.slice none 0 0)) km0 (.slice none 0 0) [] 0 0 (((W0.alloc (.cells Z 33)).alloc (.cells #[.pointer (some ⟨W0.heap.size, 0, none⟩)] 29)).alloc (.cells #[.int .u32 0] 34)) := by
    have hs := shW_new W0 w.heap.size HB0.out.size
    rw [HZ.out] at hs
    have hb2 : Below (W0.alloc (.cells Z 33)).heap.size (W0.alloc (.cells Z 33)) (((W0.alloc (.cells Z 33)).alloc (.cells #[.pointer (some ⟨W0.heap.size, 0, none⟩)] 29)).alloc (.cells #[.int .u32 0] 34)) := ((Below.refl _ _).alloc (Nat.le_refl _) _).alloc (by simp) _
    have h1 := HB0.out.size
    refine ⟨hs.below hb2, Fil.new, ?_, ?_, (fun e => by cases e), by have := h1; omega, (((HB0.out.alloc h1 _).alloc (by simp; omega) _).alloc (by simp; omega) _), by simp⟩
    · exact (Blk.new' _ _ _ _ _ (by simp) rfl).alloc _
    · exact Blk.new' _ _ _ _ _ (by simp) rfl
  obtain ⟨D, hD⟩ : ∃ D, W0.heap.size = D := ⟨_, rfl⟩
  rw [hD] at hk0 ⊢
  obtain ⟨g3, hg3⟩ : ∃ g, D + 1 = g := ⟨_, rfl⟩
  rw [hg3] at hk0 ⊢
  obtain ⟨g4, hg4⟩ : ∃ g, g3 + 1 = g := ⟨_, rfl⟩
  rw [hg4] at hk0 ⊢
  generalize ((W0.alloc (.cells Z 33)).alloc (.cells #[.pointer (some ⟨D, 0, none⟩)] 29)).alloc (.cells #[.int .u32 0] 34) = WA at hk0 ⊢
  have HK0 := Lib.hid hk0
  clear hk0 hD hg3 hg4 HB0
  go_loopg [6] N (fun r i wr => ∃ (k : Nat) (vs : List Value) (m : List B8) (av : Value) (aq : List Nat) (sz : Nat), i = .int .i64 (k : Int) ∧ r + k = N ∧ KeepK w D g3 g4 vs m av aq sz (1000 * k) wr)
  case atStart => exact ⟨0, _, _, _, _, _, rfl, by omega, HK0.out⟩
  case round =>
    as_aux_lemma =>
      clear HK0
      obtain ⟨k, vs, m, av, aq, sz, rfl, hgk, hkk⟩ := hrel
      have HKK := Lib.hid hkk
      clear hkk
      by_cases hlt : k < N
      · have hlt' : (k : Int) < (N : Int) := by omega
        obtain ⟨q, hq⟩ : ∃ q, l[k]? = some q := ⟨_, List.getElem?_eq_getElem (by have := HN.out; omega)⟩
        have hqm := List.mem_of_getElem? hq
        have hqo := (HA.out.1 q hqm).grown HKK.out.bel
        have hql := HBL.out q hqm
        obtain ⟨g, o, rfl, hgl, hcl⟩ := HA.out.2 (by have := HN.out; omega)
        have HKC : Hid (k < N ∧ N ≤ cap) := Lib.hid ⟨hlt, HC.out⟩
        have HRG := Lib.hid (rng_below (hcl k q hq) HKK.out.bel hgl)
        have HSRC : Hid (∀ W, Below w.heap.size w W → 0 < q.b.length → ∃ g o, q.sp = some ⟨g, o, none⟩ ∧ g < w.heap.size ∧ ∀ j, j < q.b.length → W.cell? ⟨g, o + j, none⟩ = some (V8 (q.b.getD j 0))) := Lib.hid (fun W hW h0 => by
          obtain ⟨g', o', e, h1, h2⟩ := (HA.out.1 q hqm).s h0
          exact ⟨g', o', e, h1, fun j hj => (hW.cell (p := ⟨g', o' + j, none⟩) h1).trans (h2 j hj)⟩)
        have HQO := Lib.hid hqo; have HQL := Lib.hid hql
        clear hq hqm hqo hql hgl hcl
        go_upto_region 10 with (first | (refine c_val rfl (c_iaAc rfl rfl rfl HKC.out) ?_) | (refine c_val rfl (c_ldAc HRG.out rfl rfl) ?_) | fail)
        have hb1 : Below wr.heap.size wr (wr.alloc (.cells #[.int .u8 (q.d : Int), .int .i64 q.x, .int .i64 q.n, .slice q.sp q.b.length q.cap] 26)) := (Below.refl _ _).alloc (Nat.le_refl _) _
        have hb7 : Blk (wr.alloc (.cells #[.int .u8 (q.d : Int), .int .i64 q.x, .int .i64 q.n, .slice q.sp q.b.length q.cap] 26)) wr.heap.size (tacells q) 26 := Blk.new' _ _ _ _ _ rfl rfl
        obtain ⟨g7, hg7⟩ : ∃ g, wr.heap.size = g := ⟨_, rfl⟩
        rw [hg7] at hb7
        generalize wr.alloc (.cells #[.int .u8 (q.d : Int), .int .i64 q.x, .int .i64 q.n, .slice q.sp q.b.length q.cap] 26) = W1 at hb1 hb7 ⊢
        rw [hg7]
        have f0 := hb7.cell (j := 0) rfl
        have f1 := hb7.cell (j := 1) rfl
        have f3 := hb7.cell (j := 3) rfl
        have HB1 := Lib.hid hb1; have HB7 := Lib.hid hb7; have HG7 := Lib.hid hg7
        clear hb1 hb7 hg7
        have wk1 := IntWalk.i64_in ((k : Int) + 1) (by have := HN40.out; omega)
        by_cases hd0 : q.d = 0
        · have z0 : ((q.d : Int) == 0) = true := by rw [hd0]; rfl
          clear hd0
          go_wp2_with fail
          go_roundg (N - (k + 1))
          case measure => omega
          case rel => exact ⟨k + 1, _, _, _, _, _, by go_num, by omega, (HKK.out.below HB1.out).mono (by omega)⟩
        · have z0 : ((q.d : Int) == 0) = false := by simp; omega
          have hcf := cfA
          have HQ0 : Hid (1000 * k + 700 ≤ 100000) := Lib.hid (by have := HN40.out; omega)
          go_wp2_with fail
          have hk1 := HKK.out.below HB1.out
          refine (call_any hk1.sh hk1.fil hk1.bel.size (by have := hk1.q; have := HQ0.out; omega) hk1.b3 hk1.b4 hk1.ne).mono ?_
          rintro e W2 ⟨v8, av2, aq2, rfl, hown8, hsh2, hmv2, hq2⟩
          have hk2 := hk1.mv hsh2 hmv2 hq2
          have c4 := hk2.b4.cell (j := 0) rfl
          have c3 := hk2.b3.cell (j := 0) rfl
          have hb72 := hk1.sh.keep hmv2 HB7.out (by decide) (by decide)
          have f0 := hb72.cell (j := 0) rfl
          have f1 := hb72.cell (j := 1) rfl
          have f3 := hb72.cell (j := 3) rfl
          have HK2 := Lib.hid hk2; have HB72 := Lib.hid hb72; have HOWN8 := Lib.hid hown8
          have HS2 := Lib.hid (HSRC.out W2 hk2.bel)
          have HD0 := Lib.hid hd0
          clear hk1 hk2 hb72 hown8 hsh2 hmv2 hq2 HKK HB1 HB7 z0 hd0
          go_upto_if 41 with fail
          go_cut [9, 10, 11] from 23 to 206 (fun s9 s10 s11 wx => ∃ (v : Value) (z er : Nat) (av' : Value) (aq' : List Nat), v = s9 ∧ s10 = .int .u32 (z : Int) ∧ s11 = .int .i64 (er : Int) ∧ KeepK w D g3 g4 vs m av' aq' sz (1000 * k + 100 + 100) wx ∧ CMv D av2 W2 av' wx ∧ (er ≠ 0 ∨ er = 0 ∧ ∃ cs X, ChAt wx W2.heap.size v cs ∧ Kept m sz q cs X z))
          case first =>
            as_aux_lemma =>
              by_cases hd1 : q.d = 1
              · have z1 : ((q.d : Int) == 1) = true := by rw [hd1]; rfl
                have HD1 := Lib.hid hd1
                clear hd1
                go_wp2_with fail
                refine (keep_write HK2.out.sh HK2.out.fil HK2.out.bel.size (by have := HK2.out.q; have := HQ0.out; omega) HD1.out HQO.out.c HQO.out.m HQO.out.x.2 HS2.out).mono ?_
                rintro e W3 ⟨v, z, er, av', aq', rfl, h1, h2, h3, h4⟩
                have HE : Hid (_ ∧ _ ∧ _) := Lib.hid ⟨HK2.out.mv h1 h2 h3, h2, h4⟩
                clear h1 h2 h3 h4
                go_wp2_with fail
                go_meet
                exact ⟨v, z, er, av', aq', rfl, rfl, rfl, HE.out.1, HE.out.2.1, HE.out.2.2⟩
              · have z1 : ((q.d : Int) == 1) = false := by simp; omega
                have HD1 := Lib.hid hd1
                clear hd1
                go_wp2_with fail
                refine (keep_trunc HK2.out.sh HK2.out.fil HK2.out.bel.size (by have := HK2.out.q; have := HQ0.out; omega) HD1.out HQO.out.x.2).mono ?_
                rintro e W3 ⟨v, z, er, av', aq', rfl, h1, h2, h3, h4⟩
                have HE : Hid (_ ∧ _ ∧ _) := Lib.hid ⟨HK2.out.mv h1 h2 h3, h2, h4⟩
                clear h1 h2 h3 h4
                go_wp2_with fail
                go_meet
                exact ⟨v, z, er, av', aq', rfl, rfl, rfl, HE.out.1, HE.out.2.1, HE.out.2.2⟩
          case rest =>
            obtain ⟨v9, z, er, av3, aq3, rfl, rfl, rfl, hk3, hmv3, hw3⟩ := hcut
            have HK3 := Lib.hid hk3; have HMV3 := Lib.hid hmv3; have HW3 := Lib.hid hw3
            clear hk3 hmv3 hw3 c3 c4 f0 f1 f3
            by_cases her : er = 0
            · subst her
              have z2 : (((0 : Nat) : Int) != 0) = false := rfl
              rcases HW3.out with h | ⟨-, cs, X, hch, hkp⟩
              · exact absurd rfl h
              obtain ⟨sp9, cap9, rfl, hcap9, hrd⟩ := hch.rd
              have htk := ctakes_any HK3.out.sh cs hkp.ok (by have := hkp.len; omega) sp9 cap9 hcap9 hrd
              have HKP := Lib.hid hkp; have HTK := Lib.hid htk
              clear hch hcap9 hrd htk hkp HW3
              have c3 := HK3.out.b3.cell (j := 0) rfl
              go_wp2_with fail
              refine HTK.out.mono ?_
              rintro e W4 ⟨rfl, vs4, hs4, hc4⟩
              obtain ⟨hk5, hcc⟩ := HK3.out.went hs4 hc4 HKP.out.fil
              have hown5 := c_owns_chg (HK2.out.sh.own HMV3.out HOWN8.out (by decide) (by decide)) hcc (fun g hg hf => by
                rcases hf with e | e
                · subst e; exact c_own_ne (HK2.out.sh.own HMV3.out HOWN8.out (by decide) (by decide)) HK3.out.sh.d (by decide) hg
                · subst e; exact c_own_ne (HK2.out.sh.own HMV3.out HOWN8.out (by decide) (by decide)) HK3.out.b4 (by decide) hg)
              have hb7c := HK2.out.sh.keep HMV3.out HB72.out (by decide) (by decide)
              have hb75 := hb7c.chg hcc (fun hf => by
                rcases hf with e | e
                · subst e; exact absurd (hb7c.same HK3.out.sh.d) (by decide)
                · subst e; exact absurd (hb7c.same HK3.out.b4) (by decide))
              have hb44 := HK3.out.b4.chg hc4 HK3.out.neD
              have c4 := hb44.cell (j := 0) rfl
              have f4 := hb44.free 0
              have HK5 := Lib.hid hk5; have HOWN5 := Lib.hid hown5; have HB75 := Lib.hid hb75
              clear hk5 hcc hown5 hb7c hb75 hb44 hs4 hc4 HTK c3 z2
              go_upto_region 21 with fail
              obtain ⟨W5, hW5⟩ : ∃ W, W4.setCell ⟨g4, 0, none⟩ (.int .u32 (z : Int)) = W := ⟨_, rfl⟩
              rw [hW5] at HK5 HOWN5 HB75 ⊢
              clear hW5 c4 f4
              go_wp2_with fail
              refine (call_any HK5.out.sh HK5.out.fil HK5.out.bel.size (by have := HK5.out.q; have := HQ0.out; omega) HK5.out.b3 HK5.out.b4 HK5.out.ne).mono ?_
              rintro e W6 ⟨v12, av6, aq6, rfl, hown12, hsh6, hmv6, hq6⟩
              have hk6 := HK5.out.mv hsh6 hmv6 hq6
              have hown8 := HK5.out.sh.own hmv6 HOWN5.out (by decide) (by decide)
              have hb76 := HK5.out.sh.keep hmv6 HB75.out (by decide) (by decide)
              obtain ⟨sp8, cap8, e8, hc8, -, hs8, -⟩ := OwnB.form hown8
              obtain ⟨sp12, cap12, e12, hc12, -, hs12, -⟩ := OwnB.form hown12
              rw [rng_length, Nat.sub_zero] at e8 hc8 e12 hc12
              subst e8 e12
              have HK6 := Lib.hid hk6; have HB76 := Lib.hid hb76; have HS8 := Lib.hid hs8; have HS12 := Lib.hid hs12; have HC8 := Lib.hid hc8; have HC12 := Lib.hid hc12
              have HX := Lib.hid HKP.out.x
              have hzt := HKP.out.fil.top
              have hst := HK2.out.fil.top
              have hxt := HKP.out.hx
              have wz := IntWalk.i64_in (z : Int) (by omega)
              have c4 := hk6.b4.cell (j := 0) rfl
              have j1 : ¬ (32768 : Int) < (sz : Int) := by omega
              have j2 : ((z : Int) != (z : Int)) = false := by simp
              clear hk6 hown8 hb76 hs8 hs12 hc8 hc12 hown12 hsh6 hmv6 hq6 HK5 HB75 HOWN5 HK3 HMV3 HB72 HOWN8 HS2
              go_upto_region 25 with fail
              clear c4 j1 j2
              have HZT := Lib.hid hzt; have HST := Lib.hid hst; have HXT := Lib.hid hxt
              go_loopg [13] z (fun r i wx => ∃ j : Nat, i = .int .i64 (j : Int) ∧ r + j = z ∧ Below W6.heap.size W6 wx)
              case atStart => exact ⟨0, rfl, by omega, Below.refl _ _⟩
              case round =>
                as_aux_lemma =>
                  obtain ⟨j, rfl, hgj, hbx⟩ := hrel
                  have HBX := Lib.hid hbx
                  clear hbx
                  have wk2 := IntWalk.i64_in ((j : Int) + 1) (by omega)
                  by_cases hj : j < z
                  · have hj' : (j : Int) < (z : Int) := by omega
                    have HJ := Lib.hid hj
                    obtain ⟨g12, o12, rfl, hg12, hcl12⟩ := HS12.out (by rw [rng_length]; omega)
                    have e12 : wr.cell? ⟨g12, o12 + j, none⟩ = some (V8 (wantB m sz q X j)) := by
                      rw [HBX.out.cell (p := ⟨g12, o12 + j, none⟩) hg12, hcl12 j (by rw [rng_length]; omega), rng_at _ hj, HKP.out.by_ j hj]
                    have HI12 : Hid (j < z ∧ z ≤ cap12) := Lib.hid ⟨hj, HC12.out⟩
                    have HE12 := Lib.hid e12
                    clear hg12 hcl12 e12 hj
                    obtain ⟨xb, hxb⟩ : ∃ xb, (if j < sz then byt m j else 0) = xb := ⟨_, rfl⟩
                    have HXB := Lib.hid hxb
                    clear hxb
                    go_upto_if 92 with fail
                    go_cut [14] from 83 to 129 (fun s wy => s = V8 xb ∧ wr = wy)
                    case first =>
                      as_aux_lemma =>
                        by_cases hs : j < sz
                        · have hs' : (j : Int) < (sz : Int) := by omega
                          have HSS := Lib.hid hs
                          obtain ⟨g8, o8, rfl, hg8, hcl8⟩ := HS8.out (by rw [rng_length]; omega)
                          have e8 : wr.cell? ⟨g8, o8 + j, none⟩ = some (V8 (byt m j)) := by
                            rw [HBX.out.cell (p := ⟨g8, o8 + j, none⟩) hg8, hcl8 j (by rw [rng_length]; omega), rng_at _ hs]
                          have HI8 : Hid (j < sz ∧ sz ≤ cap8) := Lib.hid ⟨hs, HC8.out⟩
                          have HE8 := Lib.hid e8
                          clear hg8 hcl8 e8 hs
                          go_wp2_with (first | (refine c_val rfl (c_iaBo rfl rfl rfl HI8.out) ?_) | (refine c_val rfl (c_ldU8 rfl rfl HE8.out) ?_) | fail)
                          go_meet
                          exact ⟨congrArg V8 ((if_pos HSS.out).symm.trans HXB.out), rfl⟩
                        · have hs' : ¬ (j : Int) < (sz : Int) := by omega
                          have HSS := Lib.hid hs
                          clear hs
                          go_wp2_with fail
                          go_meet
                          exact ⟨congrArg V8 ((if_neg HSS.out).symm.trans HXB.out), rfl⟩
                    case rest =>
                      obtain ⟨rfl, rfl⟩ := hcut
                      go_upto_region 30 with fail
                      obtain ⟨tt, htt⟩ : ∃ tt, decide (q.d = 1 ∧ X ≤ j ∧ j - X < q.b.length) = tt := ⟨_, rfl⟩
                      have HTT := Lib.hid htt
                      have hb7 := HB76.out.below HBX.out HB76.out.lt
                      have f0 := hb7.cell (j := 0) rfl
                      have f1 := hb7.cell (j := 1) rfl
                      have f3 := hb7.cell (j := 3) rfl
                      rw [HX.out] at f1
                      clear hb7
                      go_cut [115] from 83 to 129 (fun s wy => s = .bool tt ∧ wr = wy)
                      case first =>
                        as_aux_lemma =>
                          by_cases hd1 : q.d = 1
                          · have z1 : ((q.d : Int) == 1) = true := by rw [hd1]; rfl
                            by_cases hxj : X ≤ j
                            · have wk4 := IntWalk.i64_in ((j : Int) - (X : Int)) (by omega)
                              have hx1 : (X : Int) ≤ (j : Int) := by omega
                              by_cases hlt : j - X < q.b.length
                              · obtain rfl : tt = true := by rw [← htt]; exact decide_eq_true ⟨hd1, hxj, hlt⟩
                                have hl1 : (j : Int) - (X : Int) < (q.b.length : Int) := by omega
                                clear hlt hxj htt hd1
                                go_wp2_with fail
                                go_meet
                                exact ⟨rfl, rfl⟩
                              · obtain rfl : tt = false := by rw [← htt]; exact decide_eq_false (fun h => hlt h.2.2)
                                have hl1 : ¬ (j : Int) - (X : Int) < (q.b.length : Int) := by omega
                                clear hlt hxj htt hd1
                                go_wp2_with fail
                                go_meet
                                exact ⟨rfl, rfl⟩
                            · obtain rfl : tt = false := by rw [← htt]; exact decide_eq_false (fun h => hxj h.2.1)
                              have hx1 : ¬ (X : Int) ≤ (j : Int) := by omega
                              clear hxj htt hd1
                              go_wp2_with fail
                              go_meet
                              exact ⟨rfl, rfl⟩
                          · have z1 : ((q.d : Int) == 1) = false := by simp; omega
                            obtain rfl : tt = false := by rw [← htt]; exact decide_eq_false (fun h => hd1 h.1)
                            clear htt hd1
                            go_wp2_with fail
                            go_meet
                            exact ⟨rfl, rfl⟩
                      case rest =>
                        obtain ⟨rfl, rfl⟩ := hcut
                        clear htt
                        go_upto_if 115 with fail
                        go_cut [14] from 83 to 129 (fun s wy => s = V8 (wantB m sz q X j) ∧ wr = wy)
                        case first =>
                          as_aux_lemma =>
                            cases tt with
                            | true =>
                              have h := of_decide_eq_true HTT.out
                              obtain ⟨gs, os, hsp, hgs, hcs⟩ := HSRC.out wr (HK6.out.bel.trans (HBX.out.mono HK6.out.bel.size)) (by omega)
                              have es : wr.cell? ⟨gs, os + (j - X), none⟩ = some (V8 (wantB m sz q X j)) := by
                                rw [hcs (j - X) (by omega)]
                                unfold wantB
                                rw [if_pos h]
                              rw [hsp] at f3
                              have HIS : Hid (j - X < q.b.length ∧ q.b.length ≤ q.cap) := Lib.hid ⟨h.2.2, HQO.out.c⟩
                              have HES := Lib.hid es
                              have HSB : Hid (X ≤ j ∧ j < 1000000) := Lib.hid ⟨h.2.1, by have := HJ.out; have := HZT.out; omega⟩
                              clear h hsp hgs hcs es
                              go_wp2_with (first | (refine c_val rfl (c_iaBo rfl rfl rfl HIS.out) ?_) | (refine c_val rfl (c_ldU8 rfl rfl HES.out) ?_) | (refine c_val rfl (c_subI rfl rfl rfl HSB.out) ?_) | fail)
                              go_meet
                              exact ⟨rfl, rfl⟩
                            | false =>
                              have h := of_decide_eq_false HTT.out
                              have e : wantB m sz q X j = xb := by unfold wantB; rw [if_neg h]; exact HXB.out
                              have HE := Lib.hid e
                              clear h e
                              go_wp2_with fail
                              go_meet
                              exact ⟨congrArg V8 HE.out.symm, rfl⟩
                        case rest =>
                          obtain ⟨rfl, rfl⟩ := hcut
                          clear f0 f1 f3
                          go_wp2_with (first | (refine c_val rfl (c_iaBo rfl rfl rfl HI12.out) ?_) | (refine c_val rfl (c_ldU8 rfl rfl HE12.out) ?_) | (refine c_val rfl (c_neU8 rfl rfl rfl) ?_) | fail)
                          go_roundg (z - (j + 1))
                          case measure => have := HJ.out; omega
                          case rel => exact ⟨j + 1, by go_num, by have := HJ.out; omega, HBX.out⟩
                  · have hj' : ¬ (j : Int) < (z : Int) := by omega
                    have hb7 := HB76.out.below HBX.out HB76.out.lt
                    have f0 := hb7.cell (j := 0) rfl
                    have f1 := hb7.cell (j := 1) rfl
                    have f3 := hb7.cell (j := 3) rfl
                    have c4 := (HK6.out.b4.below HBX.out HK6.out.b4.lt).cell (j := 0) rfl
                    rw [HX.out] at f1
                    clear hb7
                    go_upto_region 34 with fail
                    go_cut [182] from 23 to 206 (fun s wy => s = .bool false ∧ wr = wy)
                    case first =>
                      as_aux_lemma =>
                        by_cases hd1 : q.d = 1
                        · have z1 : ((q.d : Int) == 1) = true := by rw [hd1]; rfl
                          have y2 : ¬ (1 : Int) < (q.d : Int) := by omega
                          by_cases hl : q.b.length = 0
                          · have hz := HKP.out.w1 hd1 hl
                            have e0 : ¬ (0 : Int) < (q.b.length : Int) := by omega
                            have e3 : ((q.b.length : Int) == 0) = true := beq_iff_eq.2 (by omega)
                            have e1 : ((z : Int) != (sz : Int)) = false := by simp; omega
                            clear hz hl hd1
                            go_wp2_with fail
                            go_meet
                            exact ⟨rfl, rfl⟩
                          · have hz := HKP.out.w0 hd1 (by omega)
                            have hqb := HQL.out
                            have e0 : (0 : Int) < (q.b.length : Int) := by omega
                            have e3 : ((q.b.length : Int) == 0) = false := beq_eq_false_iff_ne.2 (by omega)
                            have wk4 := IntWalk.i64_in ((X : Int) + (q.b.length : Int)) (by omega)
                            have HMX : Hid ((if (sz : Int) < (X : Int) + (q.b.length : Int) then (X : Int) + (q.b.length : Int) else (sz : Int)) = (z : Int)) := Lib.hid (by split <;> omega)
                            clear hz hl hd1 hqb
                            go_wp2_with (first | (refine c_valG (by rfl) (c_maxI rfl rfl rfl HMX.out) ?_) | fail)
                            go_meet
                            exact ⟨rfl, rfl⟩
                        · have z1 : ((q.d : Int) == 1) = false := by simp; omega
                          have hz := HKP.out.t hd1
                          have hdz := HD0.out
                          have e1 : ((z : Int) != (X : Int)) = false := by simp; omega
                          have e2 : (1 : Int) < (q.d : Int) := by omega
                          clear hz hdz hd1
                          go_wp2_with fail
                          go_meet
                          exact ⟨rfl, rfl⟩
                    case rest =>
                      obtain ⟨rfl, rfl⟩ := hcut
                      clear f0 f1 f3
                      go_upto_region 37 with fail
                      clear c4
                      go_loopg [15] (32768 - z) (fun r i wx => ∃ p : Nat, i = .int .i64 (p : Int) ∧ z ≤ p ∧ r + p = 32768 ∧ Below W6.heap.size W6 wx)
                      case atStart => exact ⟨z, rfl, by omega, by omega, HBX.out⟩
                      case round =>
                        as_aux_lemma =>
                          clear HBX
                          obtain ⟨p, rfl, hzp, hgp, hbx⟩ := hrel
                          have HBX := Lib.hid hbx
                          clear hbx
                          have wk3 := IntWalk.i64_in ((p : Int) + 1) (by omega)
                          by_cases hp : p < 32768
                          · have hp' : (p : Int) < 32768 := by omega
                            have HPP := Lib.hid (And.intro hzp hp)
                            have hsh := HK6.out.sh.below HBX.out
                            obtain ⟨v, hv⟩ : ∃ v, vs4[p / 512]? = some v := ⟨_, List.getElem?_eq_getElem (by rw [hsh.vl]; omega)⟩
                            obtain ⟨lr, hlr⟩ : ∃ l, (appC m cs)[p / 512]? = some l := ⟨_, List.getElem?_eq_getElem (by rw [hsh.ml]; omega)⟩
                            have ho := hsh.row _ v lr hv hlr
                            have cr := hsh.cell hv
                            have hl := HKP.out.fil.row lr (List.mem_of_getElem? hlr)
                            have hz0 := HKP.out.fil.nil p hzp
                            unfold byt at hz0
                            rw [List.getD_eq_getElem?_getD (l := appC m cs), hlr] at hz0
                            obtain ⟨spr, capr, rfl, hcr, -, hsr, -⟩ := OwnB.form ho
                            have c3 := (HK6.out.b3.below HBX.out HK6.out.b3.lt).cell (j := 0) rfl
                            have HCR := Lib.hid cr
                            have HKD : Hid (p / 512 < 64) := Lib.hid (by omega)
                            have HPM : Hid (p < 1000000) := Lib.hid (by omega)
                            clear cr hsh hv hlr ho hp
                            by_cases hl0 : lr.length = 0
                            · rw [hl0] at HCR
                              clear hsr hcr hz0 hl hl0
                              go_upto_region 40 with (first | (refine c_val rfl (c_quo rfl rfl rfl HPM.out) ?_) | (refine c_val rfl (c_iaR (k := p / 512) (kd := .i64) rfl rfl rfl HKD.out) ?_) | (refine c_val rfl (c_ldB rfl rfl HCR.out) ?_) | fail)
                              go_wp2_with fail
                              go_roundg (32768 - (p + 1))
                              case measure => have := HPP.out; omega
                              case rel => exact ⟨p + 1, by go_num, by have := HPP.out; omega, by have := HPP.out; omega, HBX.out⟩
                            · have h5 : lr.length = 512 := by omega
                              rw [h5] at HCR hcr
                              obtain ⟨gr, orr, rfl, hgr, hcl⟩ := hsr (by omega)
                              have er : wr.cell? ⟨gr, orr + p % 512, none⟩ = some (.int .u8 0) := by
                                rw [hcl (p % 512) (by omega)]
                                have e : lr.getD (p % 512) 0 = 0 := hz0
                                rw [e]
                                rfl
                              have HER := Lib.hid er
                              have HIR : Hid (p % 512 < 512 ∧ 512 ≤ capr) := Lib.hid ⟨by omega, hcr⟩
                              clear hsr hcr hz0 hl hl0 h5 er hgr hcl
                              go_upto_region 40 with (first | (refine c_val rfl (c_quo rfl rfl rfl HPM.out) ?_) | (refine c_val rfl (c_iaR (k := p / 512) (kd := .i64) rfl rfl rfl HKD.out) ?_) | (refine c_val rfl (c_ldB rfl rfl HCR.out) ?_) | fail)
                              go_wp2_with (first | (refine c_valG (by rfl) (c_rem rfl rfl rfl HPM.out) ?_) | (refine c_valG (by rfl) (c_iaBo rfl rfl rfl HIR.out) ?_) | (refine c_valG (by rfl) (c_ldU8 rfl rfl HER.out) ?_) | (refine c_valG (by rfl) (c_neU8 rfl rfl rfl) ?_) | fail)
                              go_roundg (32768 - (p + 1))
                              case measure => have := HPP.out; omega
                              case rel => exact ⟨p + 1, by go_num, by have := HPP.out; omega, by have := HPP.out; omega, HBX.out⟩
                          · have hp' : ¬ (p : Int) < 32768 := by omega
                            clear hp
                            go_wp2_with fail
                            go_roundg (N - (k + 1))
                            case measure => omega
                            case rel => exact ⟨k + 1, _, _, _, _, _, by go_num, by omega, (HK6.out.below HBX.out).mono (by omega)⟩
            · have z2 : ((er : Int) != 0) = true := by simp; omega
              clear her
              go_wp2_with fail
              go_roundg (N - (k + 1))
              case measure => omega
              case rel => exact ⟨k + 1, _, _, _, _, _, by go_num, by omega, HK3.out.mono (by omega)⟩
      · obtain rfl : N = k := by omega
        have hlt' : ¬ (N : Int) < (N : Int) := by omega
        go_wp2_with fail
        refine (cwakes_any _).mono ?_
        rintro e W2 ⟨rfl, hb2⟩
        have HE := Lib.hid (HP.out W2 (HKK.out.bel.trans (hb2.mono HKK.out.bel.size)))
        go_wp2_with fail
        first | exact HE.out | (go_ret; exact HE.out)
end Go.Proofs.Ythionhliokhcgaa
