/- ContentAsks: the walk. -/
import Derived.Test.YthionhliokhcgaaCza
import Derived.Deep.CutBlock
import Derived.Deep.LoopGhost
import Derived.BigFrame
import Derived.Deep.QuietTactic
import Derived.BigQuiet
import Derived.StillTailTactics
namespace Go.Proofs.Ythionhliokhcgaa
open Go.RowKit Go.Shelf

attribute [local go_sem] Oper.semAt_some

section
variable {ρ : Operand → Value} {o : Oper} {x y : Operand} {w : World}
theorem c_faT {g a j : Nat} (hj : j = 1 ∨ j = 3) (ho : o.op = .fieldAddr 26 x j) (hx : ρ x = .pointer (some ⟨g, a, none⟩)) : (execOp ρ o).run Try.prog w = .ok (.value (.pointer (some ⟨g, a + j, none⟩))) w := by
  unfold execOp
  simp only [ho]
  rcases hj with rfl | rfl <;> go_simp
theorem c_cvU {z : Nat} (ho : o.op = .convert 34 3 x) (hx : ρ x = .int .u32 (z : Int)) (hz : z < 1000000) : (execOp ρ o).run Try.prog w = .ok (.value (.int .i64 (z : Int))) w := by
  have wz := IntWalk.i64_in (z : Int) (by omega)
  unfold execOp
  simp only [ho]
  go_simp
theorem c_remA {a : Int} {p R : Nat} {k : TypeId} (ho : o.op = .binOp .rem 3 x (.const (.int .i64 512)) k) (hx : ρ x = .int .i64 a) (hy : ρ (.const (.int .i64 512)) = .int .i64 512) (h : a = (p : Int) ∧ p < 1000000 ∧ p % 512 = R) : (execOp ρ o).run Try.prog w = .ok (.value (.int .i64 (R : Int))) w := by
  obtain ⟨rfl, hp, rfl⟩ := h
  have hm : Int.tmod (p : Int) 512 = ((p % 512 : Nat) : Int) := by rw [Int.tmod_eq_emod_of_nonneg (by omega)]; omega
  have hw := IntWalk.i64_in ((p % 512 : Nat) : Int) (by omega)
  unfold execOp
  simp only [ho]
  go_simp
  first | done | (rw [IntKind.wrap_i64]; omega)
theorem c_quoA {a : Int} {p R : Nat} {k : TypeId} (ho : o.op = .binOp .quo 3 x (.const (.int .i64 512)) k) (hx : ρ x = .int .i64 a) (hy : ρ (.const (.int .i64 512)) = .int .i64 512) (h : a = (p : Int) ∧ p < 1000000 ∧ p / 512 = R) : (execOp ρ o).run Try.prog w = .ok (.value (.int .i64 (R : Int))) w := by
  obtain ⟨rfl, hp, rfl⟩ := h
  have hm : Int.tdiv (p : Int) 512 = ((p / 512 : Nat) : Int) := by rw [Int.tdiv_eq_ediv_of_nonneg (by omega)]; omega
  have hw := IntWalk.i64_in ((p / 512 : Nat) : Int) (by omega)
  unfold execOp
  simp only [ho]
  go_simp
  first | done | (rw [IntKind.wrap_i64]; omega)
theorem c_ltI {a b : Int} {k : TypeId} {r : Bool} (ho : o.op = .binOp .lss 3 x y k) (hx : ρ x = .int .i64 a) (hy : ρ y = .int .i64 b) (hr : decide (a < b) = r) : (execOp ρ o).run Try.prog w = .ok (.value (.bool r)) w := by
  subst hr
  unfold execOp
  simp only [ho]
  go_simp
theorem c_geI {a b : Int} {k : TypeId} {r : Bool} (ho : o.op = .binOp .geq 3 x y k) (hx : ρ x = .int .i64 a) (hy : ρ y = .int .i64 b) (hr : decide (b ≤ a) = r) : (execOp ρ o).run Try.prog w = .ok (.value (.bool r)) w := by
  subst hr
  unfold execOp
  simp only [ho]
  go_simp
theorem c_geU32 {a b : Int} {k : TypeId} {r : Bool} (ho : o.op = .binOp .geq 34 x y k) (hx : ρ x = .int .u32 a) (hy : ρ y = .int .u32 b) (hr : decide (b ≤ a) = r) : (execOp ρ o).run Try.prog w = .ok (.value (.bool r)) w := by
  subst hr
  unfold execOp
  simp only [ho]
  go_simp
theorem c_mulI {b : Nat} {k : TypeId} (ho : o.op = .binOp .mul 3 x y k) (hx : ρ x = .int .i64 512) (hy : ρ y = .int .i64 (b : Int)) (h : b < 1000000) : (execOp ρ o).run Try.prog w = .ok (.value (.int .i64 ((512 * b : Nat) : Int))) w := by
  have e : IntKind.i64.wrap (512 * (b : Int)) = ((512 * b : Nat) : Int) := by rw [IntKind.wrap_i64]; omega
  unfold execOp
  simp only [ho]
  simp only [hx, hy, binOp]
  simp [e, go_sem]
theorem c_subI {a b : Nat} {k : TypeId} (ho : o.op = .binOp .sub 3 x y k) (hx : ρ x = .int .i64 (a : Int)) (hy : ρ y = .int .i64 (b : Int)) (h : b ≤ a ∧ a < 1000000) : (execOp ρ o).run Try.prog w = .ok (.value (.int .i64 ((a - b : Nat) : Int))) w := by
  have e : IntKind.i64.wrap ((a : Int) - (b : Int)) = ((a - b : Nat) : Int) := by rw [IntKind.wrap_i64]; omega
  unfold execOp
  simp only [ho]
  simp only [hx, hy, binOp]
  simp [e, go_sem]
theorem c_iaQ {g n cap k : Nat} (ho : o.op = .indexAddr 31 x y) (hx : ρ x = .slice (some ⟨g, 0, none⟩) n cap) (hy : ρ y = .int .i64 (k : Int)) (hk : k < n ∧ n ≤ cap) :
    (execOp ρ o).run Try.prog w = .ok (.value (.pointer (some ⟨g, k, none⟩))) w := by
  have h1 : ¬ n ≤ k := by omega
  unfold execOp
  simp only [ho]
  go_simp
theorem c_ldU32 {ad : Addr} {z : Int} (ho : o.op = .load 34 x) (hx : ρ x = .pointer (some ad)) (hc : w.cell? ad = some (.int .u32 z)) : (execOp ρ o).run Try.prog w = .ok (.value (.int .u32 z)) w := by
  unfold execOp
  simp only [ho]
  go_simp
theorem c_ldQ {ad : Addr} {v : Value} (ho : o.op = .load 31 x) (hx : ρ x = .pointer (some ad)) (hc : w.cell? ad = some v) : (execOp ρ o).run Try.prog w = .ok (.value v) w := by
  unfold execOp
  simp only [ho]
  go_simp
theorem c_faS2 {g : Nat} (ho : o.op = .fieldAddr 33 x 2) (hx : ρ x = .pointer (some ⟨g, 0, none⟩)) : (execOp ρ o).run Try.prog w = .ok (.value (.pointer (some ⟨g, 65, none⟩))) w := by
  unfold execOp
  simp only [ho]
  go_simp
theorem ownQ_at {B : Nat} {v : Value} {l : List Nat} (h : OwnQ w B v l) : ∃ sp cap, v = .slice sp l.length cap ∧ l.length ≤ cap ∧ (0 < l.length → ∃ g, sp = some ⟨g, 0, none⟩ ∧ ∀ (j u : Nat), l[j]? = some u → w.cell? ⟨g, j, none⟩ = some (.int .u32 (u : Int)) ∧ True) := by
  rcases h.2 with ⟨rfl, hn⟩ | ⟨g, cap, cur, rfl, _, hgg, q3, q4, q5, q6⟩
  · exact ⟨none, 0, by rw [hn], by omega, fun h0 => by omega⟩
  · refine ⟨_, cap, rfl, q3, fun _ => ⟨g, rfl, fun j u hj => ⟨?_, trivial⟩⟩⟩
    have hb : Blk w g cur.toList 34 := by unfold Blk; simpa using hgg
    have h1 : (l.map U32v)[j]? = some (U32v u) := by rw [List.getElem?_map, hj]; rfl
    rw [← q6, List.getElem?_take] at h1
    split at h1
    · exact hb.cell h1
    · cases h1
theorem c_minI {a b c : Int} (ho : o.op = .call { callee := .builtin .min, args := #[x, y], argTypes := #[3, 3] }) (hx : ρ x = .int .i64 a) (hy : ρ y = .int .i64 b) (h : (if b < a then b else a) = c) : (execOp ρ o).run Try.prog w = .ok (.value (.int .i64 c)) w := by
  subst h
  unfold execOp
  simp only [ho]
  go_simp
theorem c_quo {p : Nat} {k : TypeId} (ho : o.op = .binOp .quo 3 x (.const (.int .i64 512)) k) (hx : ρ x = .int .i64 (p : Int)) (hy : ρ (.const (.int .i64 512)) = .int .i64 512) (hp : p < 1000000) : (execOp ρ o).run Try.prog w = .ok (.value (.int .i64 ((p / 512 : Nat) : Int))) w := by
  have hm : Int.tdiv (p : Int) 512 = ((p / 512 : Nat) : Int) := by rw [Int.tdiv_eq_ediv_of_nonneg (by omega)]; omega
  have hw := IntWalk.i64_in ((p / 512 : Nat) : Int) (by omega)
  unfold execOp
  simp only [ho]
  go_simp
  first | done | (rw [IntKind.wrap_i64]; omega)
end
theorem below_drewNc {B : Nat} {a b : World} (h : Below B a b) (n : Nat) : Below B a (b.drewN n) := ⟨h.os, h.tape, h.output, h.size, h.block⟩
/-- Between acts. -/
structure AskK (w : World) (D g5 : Nat) (last : AcT) (vs : List Value) (m : List B8) (bad : Nat) (av : Value) (aq : List Nat) (sz Q : Nat) (wr : World) : Prop where
  sh : ShW wr w.heap.size D vs m bad av aq
  fil : Fil m sz
  b5 : Blk wr g5 (tacells last) 26
  bel : Below w.heap.size w wr
  q : aq.length ≤ Q
section
variable {w : World} {D g5 : Nat} {last : AcT} {vs : List Value} {m : List B8} {bad : Nat} {av : Value} {aq : List Nat} {sz Q : Nat} {wr W : World}
theorem AskK.below (h : AskK w D g5 last vs m bad av aq sz Q wr) (hb : Below wr.heap.size wr W) : AskK w D g5 last vs m bad av aq sz Q W :=
  ⟨h.sh.below hb, h.fil, h.b5.below hb h.b5.lt, h.bel.trans (hb.mono h.bel.size), h.q⟩
theorem AskK.mono (h : AskK w D g5 last vs m bad av aq sz Q wr) {Q' : Nat} (hq : Q ≤ Q') : AskK w D g5 last vs m bad av aq sz Q' wr :=
  ⟨h.sh, h.fil, h.b5, h.bel, Nat.le_trans h.q hq⟩
theorem AskK.mv (h : AskK w D g5 last vs m bad av aq sz Q wr) {av' : Value} {aq' : List Nat} (hs : ShW W w.heap.size D vs m bad av' aq') (hm : CMv D av wr av' W) {Q' : Nat} (hq : aq'.length ≤ Q') : AskK w D g5 last vs m bad av' aq' sz Q' W :=
  ⟨hs, h.fil, h.sh.keep hm h.b5 (by decide) (by decide), h.bel.trans (hm.chg.below (fun k hk => by
      rcases hk with e | e
      · have := h.sh.lo; omega
      · exact c_owns_lo h.sh.q e) h.bel.size), hq⟩
theorem AskK.went (h : AskK w D g5 last vs m bad av aq sz Q wr) {vs' : List Value} {m' : List B8} {z : Nat} (hs : ShW W w.heap.size D vs' m' bad av aq) (hc : Chg (fun g => g = D) wr W) (hf : Fil m' z) : AskK w D g5 last vs' m' bad av aq z Q W :=
  ⟨hs, hf, h.b5.chg hc (fun e => by
      have := h.b5
      rw [e] at this
      exact absurd (this.same h.sh.d) (by decide)), h.bel.trans (hc.below (fun k hk => by
      have := h.sh.lo; omega) h.bel.size), h.q⟩
/-- None was asked for yet, others can't be read. -/
theorem AskK.anew (h : AskK w D g5 last vs m 0 av aq sz Q wr) (bad : Nat) (hb : bad < 18446744073709551616) : AskK w D g5 last vs m bad (.slice none 0 0) [] sz 0 ((wr.setCell ⟨D, 64, none⟩ (.int .u64 (bad : Int))).setCell ⟨D, 65, none⟩ (.slice none 0 0)) := by
  have hd1 := (h.sh.d.set 64 (.int .u64 (bad : Int))).set 65 (.slice none 0 0)
  have e : ((vs ++ [.int .u64 ((0 : Nat) : Int), av]).set 64 (.int .u64 (bad : Int))).set 65 (.slice none 0 0) = vs ++ [.int .u64 (bad : Int), .slice none 0 0] := by
    rw [List.set_append_right _ _ (by rw [h.sh.vl]; omega), h.sh.vl, List.set_append_right _ _ (by rw [h.sh.vl]; omega), h.sh.vl]; rfl
  rw [e] at hd1
  have hc : Chg (fun g => g = D) wr ((wr.setCell ⟨D, 64, none⟩ (.int .u64 (bad : Int))).setCell ⟨D, 65, none⟩ (.slice none 0 0)) := (chg1 wr D 64 _).trans (chg1 _ D 65 _) (fun i hi => .inl hi)
  have hk : AskK w D g5 last vs m 0 av aq sz Q wr := h
  refine ⟨⟨hd1, h.sh.vl, h.sh.ml, fun k v l hv hl => c_owns_chg (h.sh.row k v l hv hl) hc (fun g hg e => by subst e; exact c_own_ne (h.sh.row k v l hv hl) h.sh.d (by decide) hg), ⟨rfl, .inl ⟨rfl, rfl⟩⟩, h.sh.lo, hb⟩, h.fil, h.b5.chg hc (fun e => by
      have := h.b5
      rw [e] at this
      exact absurd (this.same h.sh.d) (by decide)), h.bel.trans (hc.below (fun k hk => by
      have := h.sh.lo; omega) h.bel.size), by simp⟩
end
set_option maxRecDepth 100000 in
set_option maxHeartbeats 16000000 in
theorem asks_go (l : List AcT) (sp : Option Addr) (cap : Nat) (hc : l.length ≤ cap) (bad : Nat) (hbad : bad < 18446744073709551616) (last : AcT) (w : World) (hA : ActsT w sp l) (hL : AcOKT w last) (hg : greatB l = false) (hg2 : greatB [last] = false) : Calls Try.prog 3 #[.slice sp l.length cap, .int .u64 (bad : Int), .agg (tacells last).toArray] w fun e w' => e = .returned (.bool true) ∧ Below w.heap.size w w' := by
  have hb5 : Below w.heap.size w (w.alloc (.cells (tacells last).toArray 26)) := (Below.refl _ _).alloc (Nat.le_refl _) _
  have hgr := great_go l sp cap hc (w.alloc (.cells (tacells last).toArray 26)) (hA.grown hb5)
  rw [hg] at hgr
  have h5 : Blk (w.alloc (.cells (tacells last).toArray 26)) w.heap.size (tacells last) 26 := Blk.new' _ _ _ _ _ rfl rfl
  obtain ⟨W0, hW0⟩ : ∃ W, w.alloc (.cells (tacells last).toArray 26) = W := ⟨_, rfl⟩
  obtain ⟨g5, hg5⟩ : ∃ g, w.heap.size = g := ⟨_, rfl⟩
  rw [hW0] at hb5 hgr h5
  obtain ⟨N, hN⟩ : ∃ N, l.length = N := ⟨_, rfl⟩
  rw [hN] at hc hgr ⊢
  have HN := Lib.hid hN; have HC := Lib.hid hc; have HA := Lib.hid hA; have HGR := Lib.hid hgr; have HL := Lib.hid hL; have HB5 := Lib.hid hb5
  have hN40 : N ≤ 40 := by
    unfold greatB at hg
    rw [Bool.or_eq_false_iff, hN] at hg
    simpa using hg.1
  have hbl : ∀ q ∈ l, q.b.length ≤ 2100 := fun q hq => by
    unfold greatB at hg
    rw [Bool.or_eq_false_iff] at hg
    have := List.any_eq_false.1 hg.2 q hq
    simpa using this
  have hbl0 : last.b.length ≤ 2100 := by
    unfold greatB at hg2
    rw [Bool.or_eq_false_iff] at hg2
    have := List.any_eq_false.1 hg2.2 last (by simp)
    simpa using this
  have HBL0 := Lib.hid hbl0
  clear hbl0
  have HN40 := Lib.hid hN40; have HBL := Lib.hid hbl; have HBAD := Lib.hid hbad; have HG2 := Lib.hid hg2
  generalize hPost : (fun (e : Ending) (w' : World) => e = .returned (.bool true) ∧ Below w.heap.size w w') = Post
  have HP : Hid (∀ w', Below w.heap.size w w' → Post (.returned (.bool true)) w') := Lib.hid fun w' h => by rw [← hPost]; exact ⟨rfl, h⟩
  obtain ⟨Z, hZ⟩ : ∃ Z, zsh.toArray = Z := ⟨_, rfl⟩
  have HZ := Lib.hid hZ
  rw [hg5] at h5
  have HG5 := Lib.hid hg5; have H5 := Lib.hid h5; have HW0 := Lib.hid hW0
  clear hN hc hA hg hgr hN40 hbl hPost hZ hL hb5 hbad hg2 hg5 h5 hW0
  go_enter Try.func3, Try.ntmps3
  go_upto_region 1 with fail
  rw [show w.alloc (.cells #[.int .u8 (last.d : Int), .int .i64 last.x, .int .i64 last.n, .slice last.sp last.b.length last.cap] 26) = W0 from HW0.out, HG5.out]
  go_wp2_with fail
  refine HGR.out.mono ?_
  rintro e W1 ⟨rfl, hb1⟩
  have hk5 := H5.out.below hb1 H5.out.lt
  have hr5 : W1.rangeAt g5 0 (tacells last) := fun j v hv => by rw [Nat.zero_add]; exact hk5.cell hv
  have HR5 := Lib.hid hr5; have HK5 := Lib.hid hk5
  have HB1 : Hid (Below w.heap.size w W1) := Lib.hid (HB5.out.trans (hb1.mono HB5.out.size))
  clear hr5 hk5 hb1 HGR HB5 H5
  have hgr2 := great_go [last] (some ⟨W1.heap.size, 0, none⟩) 1 (by simp) (W1.alloc (.cells (tacells last).toArray 26)) (by
    have hb : Below W1.heap.size W1 (W1.alloc (.cells (tacells last).toArray 26)) := (Below.refl _ _).alloc (Nat.le_refl _) _
    refine ⟨fun a ha => ?_, fun _ => ⟨W1.heap.size, 0, rfl, by simp, fun i a hi j v hv => ?_⟩⟩
    · rw [List.mem_singleton] at ha
      subst ha
      exact (HL.out.grown HB1.out).grown hb
    · have h7 : Blk (W1.alloc (.cells (tacells last).toArray 26)) W1.heap.size (tacells last) 26 := Blk.new' _ _ _ _ _ rfl rfl
      have hi1 : i < 1 := (List.getElem?_eq_some_iff.1 hi).1
      obtain rfl : i = 0 := by omega
      obtain rfl : last = a := by simpa using hi
      rw [Nat.zero_mul, Nat.zero_add]
      exact h7.cell hv)
  rw [HG2.out] at hgr2
  have HGR2 := Lib.hid hgr2
  clear hgr2
  go_wp2_with (first | (refine c_valG (by rfl) (c_ldAc HR5.out rfl rfl) ?_) | fail)
  refine HGR2.out.mono ?_
  rintro e W2 ⟨rfl, hb2⟩
  go_upto_region 3 with fail
  have hb12 : Below W1.heap.size W1 W2 := ((Below.refl _ _).alloc (Nat.le_refl _) _).trans (hb2.mono (by simp))
  have HK52 := Lib.hid (HK5.out.below hb12 HK5.out.lt)
  have HB2 : Hid (Below w.heap.size w W2) := Lib.hid (HB1.out.trans (hb12.mono HB1.out.size))
  clear hb2 hb12 HK5 HR5 HB1 HGR2 HG2
  refine wp_region_list ?_
  refine wpList_build' rfl 33 #[] rfl Z (by simp only [List.map_toArray, List.map_nil]; rw [← HZ.out]; exact built_sh) ?_
  go_upto_region 7 with fail
  have hk0 : AskK w W2.heap.size g5 last (List.replicate 64 (.slice none 0 0)) km0 0 (.slice none 0 0) [] 0 0 (W2.alloc (.cells Z 33)) := by
    have hs := shW_new W2 w.heap.size HB2.out.size
    rw [HZ.out] at hs
    have h1 := HB2.out.size
    exact ⟨hs, Fil.new, HK52.out.alloc _, HB2.out.alloc h1 _, by simp⟩
  obtain ⟨D, hD⟩ : ∃ D, W2.heap.size = D := ⟨_, rfl⟩
  rw [hD] at hk0 ⊢
  generalize W2.alloc (.cells Z 33) = WA at hk0 ⊢
  have HK0 := Lib.hid hk0
  clear hk0 hD HB2 HK52
  go_loopg [8, 9] N (fun r s8 i wr => ∃ (k : Nat) (vs : List Value) (m : List B8) (av : Value) (aq : List Nat) (sz : Nat), s8 = .int .u32 (sz : Int) ∧ i = .int .i64 (k : Int) ∧ r + k = N ∧ AskK w D g5 last vs m 0 av aq sz (1000 * k) wr)
  case atStart => exact ⟨0, _, _, _, _, 0, rfl, rfl, by omega, HK0.out⟩
  case round =>
    as_aux_lemma =>
      clear HK0
      obtain ⟨k, vs, m, av, aq, sz, rfl, rfl, hgk, hkk⟩ := hrel
      have HKK := Lib.hid hkk
      clear hkk
      by_cases hlt : k < N
      · have hlt' : (k : Int) < (N : Int) := by omega
        obtain ⟨q, hq⟩ : ∃ q, l[k]? = some q := ⟨_, List.getElem?_eq_getElem (by have := HN.out; omega)⟩
        have hqm := List.mem_of_getElem? hq
        have hqo := (HA.out.1 q hqm).grown HKK.out.bel
        have hql := HBL.out q hqm
        obtain ⟨g, o, rfl, hgl, hcl⟩ := HA.out.2 (by have := HN.out; omega)
        have HKC : Hid (k < N ∧ N ≤ cap) := Lib.hid ⟨hlt, HC.out⟩
        have hrg := rng_below (hcl k q hq) HKK.out.bel hgl
        have f0 : wr.cell? ⟨g, o + k * 4, none⟩ = some (.int .u8 (q.d : Int)) := hrg 0 _ rfl
        have f1 : wr.cell? ⟨g, o + k * 4 + 1, none⟩ = some (.int .i64 q.x) := hrg 1 _ rfl
        have f3 : wr.cell? ⟨g, o + k * 4 + 3, none⟩ = some (.slice q.sp q.b.length q.cap) := hrg 3 _ rfl
        have HSRC : Hid (∀ W, Below w.heap.size w W → 0 < q.b.length → ∃ g o, q.sp = some ⟨g, o, none⟩ ∧ g < w.heap.size ∧ ∀ j, j < q.b.length → W.cell? ⟨g, o + j, none⟩ = some (V8 (q.b.getD j 0))) := Lib.hid (fun W hW h0 => by
          obtain ⟨g', o', e, h1, h2⟩ := (HA.out.1 q hqm).s h0
          exact ⟨g', o', e, h1, fun j hj => (hW.cell (p := ⟨g', o' + j, none⟩) h1).trans (h2 j hj)⟩)
        have HF13 : Hid (wr.drew.cell? ⟨g, o + k * 4 + 1, none⟩ = some (.int .i64 q.x) ∧ wr.drew.cell? ⟨g, o + k * 4 + 3, none⟩ = some (.slice q.sp q.b.length q.cap)) := Lib.hid ⟨f1, f3⟩
        have HFS : Hid (∀ W, Below w.heap.size w W → W.cell? ⟨g, o + k * 4 + 1, none⟩ = some (.int .i64 q.x) ∧ W.cell? ⟨g, o + k * 4 + 3, none⟩ = some (.slice q.sp q.b.length q.cap)) := Lib.hid (fun W hW => by
          have hr := rng_below (hcl k q hq) hW hgl
          exact ⟨hr 1 _ rfl, hr 3 _ rfl⟩)
        have HKD : Hid (AskK w D g5 last vs m 0 av aq sz (1000 * k) wr.drew) := Lib.hid (HKK.out.below (Below.refl _ _).drew)
        have HQO := Lib.hid hqo; have HQL := Lib.hid hql
        clear hq hqm hqo hql hgl hcl hrg
        have wk1 := IntWalk.i64_in ((k : Int) + 1) (by have := HN40.out; omega)
        go_upto_if 44 with (first | (refine c_val rfl (c_iaAc rfl rfl rfl HKC.out) ?_) | fail)
        go_cut [10, 11, 12] from 32 to 88 (fun s10 s11 s12 wx => ∃ (v : Value) (z er : Nat) (av' : Value) (aq' : List Nat), v = s10 ∧ s11 = .int .u32 (z : Int) ∧ s12 = .int .i64 (er : Int) ∧ AskK w D g5 last vs m 0 av' aq' sz (1000 * k + 100) wx ∧ (er ≠ 0 ∨ er = 0 ∧ ∃ cs, ChAt wx wr.heap.size v cs ∧ Fil (appC m cs) z ∧ OkCs cs ∧ cs.length ≤ 100))
        case first =>
          as_aux_lemma =>
            by_cases hd1 : q.d = 1
            · have z1 : ((q.d : Int) == 1) = true := by rw [hd1]; rfl
              have HD1 := Lib.hid hd1
              clear hd1
              go_upto_region 11 with fail
              refine wp_region_sched (.take 0 (.take 1 (.take 2 (.take 3 (.take 4 (.take 5 (.take 6 (.take 7 (.take 8 (.take 9 (.take 10 (.take 11 (.take 12 (.step 13 (.take 14 (.take 15 (.take 16 (.take 17 (.take 18 (.take 19 (.take 20 (.nil)))))))))))))))))))))) (by kernel_rfl) (by kernel_rfl) (fun d _ _ _ _ h => by cases d <;> exact h) (fun X => X.cell? ⟨g, o + k * 4 + 1, none⟩ = some (.int .i64 q.x) ∧ X.cell? ⟨g, o + k * 4 + 3, none⟩ = some (.slice q.sp q.b.length q.cap)) HF13.out ?_
              refine wpG_take _ (.pointer (some ⟨D, 0, none⟩)) rfl (by rfl) (fun X hX => by first | rfl | go_simp) ?_
              (try simp only [Act.put, List.setIfInBounds_toArray, List.set_cons_zero, List.set_cons_succ])
              refine wpG_take _ (shC D) rfl (by rfl) (fun X hX => by first | rfl | go_simp) ?_
              (try simp only [Act.put, List.setIfInBounds_toArray, List.set_cons_zero, List.set_cons_succ])
              refine wpG_take _ (.int .u32 (sz : Int)) rfl (by rfl) (fun X hX => by first | rfl | go_simp) ?_
              (try simp only [Act.put, List.setIfInBounds_toArray, List.set_cons_zero, List.set_cons_succ])
              refine wpG_take _ (.slice (some ⟨g, o, none⟩) N cap) rfl (by rfl) (fun X hX => by first | rfl | go_simp) ?_
              (try simp only [Act.put, List.setIfInBounds_toArray, List.set_cons_zero, List.set_cons_succ])
              refine wpG_take _ (.int .i64 (k : Int)) rfl (by rfl) (fun X hX => by first | rfl | go_simp) ?_
              (try simp only [Act.put, List.setIfInBounds_toArray, List.set_cons_zero, List.set_cons_succ])
              refine wpG_take _ (.pointer (some ⟨g, o + k * 4, none⟩)) rfl (by rfl) (fun X hX => c_iaAc rfl rfl rfl HKC.out) ?_
              (try simp only [Act.put, List.setIfInBounds_toArray, List.set_cons_zero, List.set_cons_succ])
              refine wpG_take _ (.pointer (some ⟨g, o + k * 4 + 1, none⟩)) rfl (by rfl) (fun X hX => c_faT (by decide) rfl rfl) ?_
              (try simp only [Act.put, List.setIfInBounds_toArray, List.set_cons_zero, List.set_cons_succ])
              refine wpG_take _ (.int .i64 q.x) rfl (by rfl) (fun X hX => c_ldI rfl rfl hX.1) ?_
              (try simp only [Act.put, List.setIfInBounds_toArray, List.set_cons_zero, List.set_cons_succ])
              refine wpG_take _ (.slice (some ⟨g, o, none⟩) N cap) rfl (by rfl) (fun X hX => by first | rfl | go_simp) ?_
              (try simp only [Act.put, List.setIfInBounds_toArray, List.set_cons_zero, List.set_cons_succ])
              refine wpG_take _ (.int .i64 (k : Int)) rfl (by rfl) (fun X hX => by first | rfl | go_simp) ?_
              (try simp only [Act.put, List.setIfInBounds_toArray, List.set_cons_zero, List.set_cons_succ])
              refine wpG_take _ (.pointer (some ⟨g, o + k * 4, none⟩)) rfl (by rfl) (fun X hX => c_iaAc rfl rfl rfl HKC.out) ?_
              (try simp only [Act.put, List.setIfInBounds_toArray, List.set_cons_zero, List.set_cons_succ])
              refine wpG_take _ (.pointer (some ⟨g, o + k * 4 + 3, none⟩)) rfl (by rfl) (fun X hX => c_faT (by decide) rfl rfl) ?_
              (try simp only [Act.put, List.setIfInBounds_toArray, List.set_cons_zero, List.set_cons_succ])
              refine wpG_take _ (.slice q.sp q.b.length q.cap) rfl (by rfl) (fun X hX => c_ldB rfl rfl hX.2) ?_
              (try simp only [Act.put, List.setIfInBounds_toArray, List.set_cons_zero, List.set_cons_succ])
              refine wpG_call _ rfl (by rfl) 8 (#[shC D, .int .u32 (sz : Int), .int .i64 q.x, .slice q.sp q.b.length q.cap]) (fun X => by first | rfl | go_simp) (fun v W3 => ∃ (v9 : Value) (z er : Nat) (av9 : Value) (aq9 : List Nat), v = .tuple #[v9, .int .u32 (z : Int), .int .i64 (er : Int)] ∧ AskK w D g5 last vs m 0 av9 aq9 sz (1000 * k + 100) W3 ∧ (er ≠ 0 ∨ er = 0 ∧ ∃ cs, ChAt W3 wr.heap.size v9 cs ∧ Fil (appC m cs) z ∧ OkCs cs ∧ cs.length ≤ 100)) ?_ ?_
              · have hkd := HKD.out
                refine (keep_write hkd.sh hkd.fil hkd.bel.size (by have := hkd.q; have := HN40.out; omega) HD1.out HQO.out.c HQO.out.m HQO.out.x.2 (HSRC.out _ hkd.bel)).mono ?_
                rintro e W3 ⟨v9, z, er, av9, aq9, rfl, h1, h2, h3, h4⟩
                have hk9 := hkd.mv h1 h2 (Q' := 1000 * k + 100) (by have := hkd.q; omega)
                exact ⟨_, rfl, HFS.out W3 hk9.bel, v9, z, er, av9, aq9, rfl, hk9, h4.imp id (fun ⟨a, cs, X, b, c⟩ => ⟨a, cs, b, c.fil, c.ok, c.len⟩)⟩
              · rintro v W3 hS3 ⟨v9, z, er, av9, aq9, rfl, hk9, h9⟩
                refine ⟨fun X => X.cell? ⟨g, o + k * 4 + 1, none⟩ = some (.int .i64 q.x) ∧ X.cell? ⟨g, o + k * 4 + 3, none⟩ = some (.slice q.sp q.b.length q.cap), fun _ h => h, hS3, ?_⟩
                refine wpG_take _ (.tuple #[v9, .int .u32 (z : Int), .int .i64 (er : Int)]) rfl (by rfl) (fun X hX => by first | rfl | go_simp) ?_
                (try simp only [Act.put, List.setIfInBounds_toArray, List.set_cons_zero, List.set_cons_succ])
                refine wpG_take _ (v9) rfl (by rfl) (fun X hX => by first | rfl | go_simp) ?_
                (try simp only [Act.put, List.setIfInBounds_toArray, List.set_cons_zero, List.set_cons_succ])
                refine wpG_take _ (.int .u32 (z : Int)) rfl (by rfl) (fun X hX => by first | rfl | go_simp) ?_
                (try simp only [Act.put, List.setIfInBounds_toArray, List.set_cons_zero, List.set_cons_succ])
                refine wpG_take _ (.int .i64 (er : Int)) rfl (by rfl) (fun X hX => by first | rfl | go_simp) ?_
                (try simp only [Act.put, List.setIfInBounds_toArray, List.set_cons_zero, List.set_cons_succ])
                refine wpG_take _ (v9) rfl (by rfl) (fun X hX => by first | rfl | go_simp) ?_
                (try simp only [Act.put, List.setIfInBounds_toArray, List.set_cons_zero, List.set_cons_succ])
                refine wpG_take _ (.int .u32 (z : Int)) rfl (by rfl) (fun X hX => by first | rfl | go_simp) ?_
                (try simp only [Act.put, List.setIfInBounds_toArray, List.set_cons_zero, List.set_cons_succ])
                refine wpG_take _ (.int .i64 (er : Int)) rfl (by rfl) (fun X hX => by first | rfl | go_simp) ?_
                (try simp only [Act.put, List.setIfInBounds_toArray, List.set_cons_zero, List.set_cons_succ])
                refine wpG_nil ?_
                go_wp2_with fail
                go_meet
                exact ⟨v9, z, er, av9, aq9, rfl, rfl, rfl, hk9, h9⟩
            · have z1 : ((q.d : Int) == 1) = false := by simp; omega
              by_cases hd2 : 1 < q.d
              · have z2 : (1 : Int) < (q.d : Int) := by omega
                have HD1 := Lib.hid hd1
                clear hd1 hd2
                go_wp2_with (first | (refine c_val rfl (c_iaAc rfl rfl rfl HKC.out) ?_) | fail)
                refine (keep_trunc HKK.out.sh HKK.out.fil HKK.out.bel.size (by have := HKK.out.q; have := HN40.out; omega) HD1.out HQO.out.x.2).mono ?_
                rintro e W3 ⟨v9, z, er, av9, aq9, rfl, h1, h2, h3, h4⟩
                have hk9 := HKK.out.mv h1 h2 (Q' := 1000 * k + 100) (by have := HKK.out.q; omega)
                have H9 : Hid (_ ∧ _) := Lib.hid ⟨hk9, h4⟩
                clear h1 h2 h3 h4 hk9
                go_wp2_with fail
                go_meet
                exact ⟨v9, z, er, av9, aq9, rfl, rfl, rfl, H9.out.1, H9.out.2.imp id (fun ⟨a, cs, X, b, c⟩ => ⟨a, cs, b, c.fil, c.ok, c.len⟩)⟩
              · have z2 : ¬ (1 : Int) < (q.d : Int) := by omega
                clear hd1 hd2
                go_wp2_with (first | (refine c_val rfl (c_iaAc rfl rfl rfl HKC.out) ?_) | fail)
                go_meet
                exact ⟨_, sz, 0, _, _, rfl, rfl, rfl, HKK.out.mono (by omega), .inr ⟨rfl, [], ChAt.nil _ _, HKK.out.fil, okNil, by simp⟩⟩
        case rest =>
          obtain ⟨v9, z, er, av3, aq3, rfl, rfl, rfl, hk3, hw3⟩ := hcut
          have HK3 := Lib.hid hk3; have HW3 := Lib.hid hw3
          clear hk3 hw3 f0 f1 f3
          by_cases her : er = 0
          · subst her
            have z2 : (((0 : Nat) : Int) == 0) = true := rfl
            rcases HW3.out with h | ⟨-, cs, hch, hfl, hok, hln⟩
            · exact absurd rfl h
            obtain ⟨sp9, cap9, rfl, hcap9, hrd⟩ := hch.rd
            have htk := ctakes_any HK3.out.sh cs hok (by omega) sp9 cap9 hcap9 hrd
            have HTK := Lib.hid htk; have HFL := Lib.hid hfl
            clear hch hcap9 hrd htk hfl hok hln HW3
            go_wp2_with fail
            refine HTK.out.mono ?_
            rintro e W4 ⟨rfl, vs4, hs4, hc4⟩
            have hk5 := HK3.out.went hs4 hc4 HFL.out
            have HK5 := Lib.hid hk5
            clear hk5 hs4 hc4 HTK
            go_wp2_with fail
            go_roundg (N - (k + 1))
            case measure => omega
            case rel => exact ⟨k + 1, _, _, _, _, z, rfl, by go_num, by omega, HK5.out.mono (by omega)⟩
          · have z2 : ((er : Int) == 0) = false := by simp; omega
            clear her
            go_wp2_with fail
            go_roundg (N - (k + 1))
            case measure => omega
            case rel => exact ⟨k + 1, _, _, _, _, sz, rfl, by go_num, by omega, HK3.out.mono (by omega)⟩
      · obtain rfl : N = k := by omega
        have hlt' : ¬ (N : Int) < (N : Int) := by omega
        as_aux_lemma =>
          have hq0 := HKK.out.q
          have c64 := HKK.out.sh.cell64
          have c65 := HKK.out.sh.cell65
          have fz : ∀ j, wr.frozen? ⟨D, j, none⟩ = false := fun j => HKK.out.sh.d.free j
          have fz1 := fz 64
          have fz2 := fz 65
          have hk6 := HKK.out.anew bad HBAD.out
          have HK6 := Lib.hid hk6
          clear hk6 fz hq0
          go_upto_region 22 with fail
          obtain ⟨W6, hW6⟩ : ∃ W, (wr.setCell ⟨D, 64, none⟩ (.int .u64 (bad : Int))).setCell ⟨D, 65, none⟩ (.slice none 0 0) = W := ⟨_, rfl⟩
          rw [hW6] at HK6 ⊢
          clear hW6 c64 c65 fz1 fz2
          have f1 := HK6.out.b5.cell (j := 1) rfl
          go_quiet (fail)
          have hk7 : AskK w D g5 last vs m bad (.slice none 0 0) [] sz 0 (W6.drewN nq) := HK6.out.below (below_drewNc (Below.refl _ _) nq)
          generalize W6.drewN nq = W7 at hk7 ⊢
          have HK7 := Lib.hid hk7
          have f0 := hk7.b5.cell (j := 0) rfl
          have f1 := hk7.b5.cell (j := 1) rfl
          have f2 := hk7.b5.cell (j := 2) rfl
          have f3 := hk7.b5.cell (j := 3) rfl
          clear hk7 HK6
          go_upto_block 2 with fail
          go_cut [13, 14, 15, 17] from 100 to 280 (fun s13 s14 s15 s17 wx => ∃ (sp13 : Option Addr) (n13 c13 : Nat) (sp14 : Option Addr) (n14 c14 er : Nat) (tq : Int) (av : Value) (A : List Nat), s13 = .slice sp13 n13 c13 ∧ s14 = .slice sp14 n14 c14 ∧ s15 = .int .i64 (er : Int) ∧ s17 = .int .i64 tq ∧ AskK w D g5 last vs m bad av A sz 100 wx ∧ AskGood bad last.d last.x tq A er ∧ (er ≠ 0 → n13 = 0 ∧ n14 = 0))
          case first =>
            as_aux_lemma =>
              by_cases hd0 : last.d = 0
              · have z0 : ((last.d : Int) == 0) = true := by rw [hd0]; rfl
                have HD0 := Lib.hid hd0
                clear hd0
                go_wp2_with fail
                refine (last_read HK7.out.sh HK7.out.fil HK7.out.bel.size last.x last.n HL.out.x.2).mono ?_
                rintro e W8 ⟨sp9, ng, cap9, er, rfl, hlk⟩
                obtain ⟨av9, A9, hsh, hmv, hgd⟩ := hlk.ex
                have hk8 := HK7.out.mv hsh hmv (Q' := 100) hgd.len
                have HK8 := Lib.hid hk8
                have g2 := hk8.b5.cell (j := 2) rfl
                have HGD := Lib.hid hgd; have HNO := Lib.hid hlk.none
                clear hsh hmv hk8 hgd hlk f0 f1 f2 f3
                by_cases h0 : er = 0
                · subst h0
                  have y0 : (((0 : Nat) : Int) == 0) = true := rfl
                  obtain ⟨T, hT⟩ : ∃ T, toV 0 sz last.x last.n 0 0 = T := ⟨_, rfl⟩
                  have HT := Lib.hid hT
                  rw [hT] at HGD
                  have HD : Hid ((if RowKit.wrap64 (last.x + last.n) < (sz : Int) then RowKit.wrap64 (last.x + last.n) else (sz : Int)) = T) := Lib.hid ((toV_rd _ _ _ _ (.inl rfl)).symm.trans hT)
                  have HSZ : Hid (sz < 1000000) := Lib.hid (by have := HK8.out.fil.top; omega)
                  clear hT
                  go_wp2_with (first | (refine c_val rfl (c_minI rfl rfl rfl HD.out) ?_) | (refine c_val rfl (c_cvU rfl rfl HSZ.out) ?_) | fail)
                  go_meet
                  exact ⟨sp9, ng, cap9, none, 0, 0, 0, T, av9, A9, rfl, rfl, rfl, rfl, HK8.out, by rw [HD0.out]; exact HGD.out, fun h => absurd rfl h⟩
                · have y0 : ((er : Int) == 0) = false := by simp; omega
                  have HNG := Lib.hid (HNO.out h0)
                  by_cases h1 : er = 21
                  · subst h1
                    have y1 : (((21 : Nat) : Int) == 21) = true := rfl
                    obtain ⟨T, hT⟩ : ∃ T, toV 0 sz last.x last.n 0 21 = T := ⟨_, rfl⟩
                    rw [hT] at HGD
                    have HD : Hid ((if RowKit.wrap64 (last.x + last.n) < (sz : Int) then RowKit.wrap64 (last.x + last.n) else (sz : Int)) = T) := Lib.hid ((toV_rd _ _ _ _ (.inr rfl)).symm.trans hT)
                    have HSZ : Hid (sz < 1000000) := Lib.hid (by have := HK8.out.fil.top; omega)
                    clear hT h0
                    go_wp2_with (first | (refine c_val rfl (c_minI rfl rfl rfl HD.out) ?_) | (refine c_val rfl (c_cvU rfl rfl HSZ.out) ?_) | fail)
                    go_meet
                    exact ⟨sp9, ng, cap9, none, 0, 0, 21, T, av9, A9, rfl, rfl, rfl, rfl, HK8.out, by rw [HD0.out]; exact HGD.out, fun _ => ⟨HNG.out, rfl⟩⟩
                  · have y1 : ((er : Int) == 21) = false := by simp; omega
                    have HD : Hid (toV 0 sz last.x last.n 0 er = last.x) := Lib.hid (by unfold toV; rw [if_pos rfl, if_neg (by omega)])
                    clear h0 h1
                    go_wp2_with fail
                    go_meet
                    exact ⟨sp9, ng, cap9, none, 0, 0, er, last.x, av9, A9, rfl, rfl, rfl, rfl, HK8.out, by rw [HD0.out]; have := HGD.out; rw [HD.out] at this; exact this, fun _ => ⟨HNG.out, rfl⟩⟩
              · have z0 : ((last.d : Int) == 0) = false := by simp; omega
                by_cases hd1 : last.d = 1
                · have z1 : ((last.d : Int) == 1) = true := by rw [hd1]; rfl
                  have HD1 := Lib.hid hd1
                  have HS : Hid (0 < last.b.length → ∃ g o, last.sp = some ⟨g, o, none⟩ ∧ g < w.heap.size ∧ ∀ j, j < last.b.length → W7.cell? ⟨g, o + j, none⟩ = some (V8 (last.b.getD j 0))) := Lib.hid (fun h0 => by
                    obtain ⟨g', o', e, h1, h2⟩ := HL.out.s h0
                    exact ⟨g', o', e, h1, fun j hj => (HK7.out.bel.cell (p := ⟨g', o' + j, none⟩) h1).trans (h2 j hj)⟩)
                  clear hd0 hd1
                  go_wp2_with fail
                  refine (last_write HK7.out.sh HK7.out.fil HK7.out.bel.size last.x last.n last.b last.sp last.cap HL.out.c HL.out.m HL.out.x.2 HS.out).mono ?_
                  rintro e W8 ⟨sp9, ng, cap9, er, z, rfl, hlk⟩
                  obtain ⟨av9, A9, hsh, hmv, hgd⟩ := hlk.ex
                  have hk8 := HK7.out.mv hsh hmv (Q' := 100) hgd.len
                  have HK8 := Lib.hid hk8
                  have g3 := hk8.b5.cell (j := 3) rfl
                  have HGD := Lib.hid hgd; have HNO := Lib.hid hlk.none; have HTP := Lib.hid (hlk.top (by decide))
                  clear hsh hmv hk8 hgd hlk f0 f1 f2 f3
                  by_cases h0 : er = 0
                  · subst h0
                    have y0 : (((0 : Nat) : Int) == 0) = true := rfl
                    have wx := IntWalk.i64_in (last.x + (last.b.length : Int)) (by have := HTP.out (.inl rfl); have := HBL0.out; omega)
                    have HD : Hid (toV 1 sz last.x last.n last.b.length 0 = last.x + (last.b.length : Int)) := Lib.hid (by unfold toV; rw [if_neg (by decide), if_pos rfl, if_pos (.inl rfl)])
                    go_wp2_with fail
                    go_meet
                    exact ⟨none, 0, 0, sp9, ng, cap9, 0, _, av9, A9, rfl, rfl, rfl, rfl, HK8.out, by rw [HD1.out]; have := HGD.out; rw [HD.out] at this; exact this, fun h => absurd rfl h⟩
                  · have y0 : ((er : Int) == 0) = false := by simp; omega
                    have HNG := Lib.hid (HNO.out h0)
                    by_cases h1 : er = 21
                    · subst h1
                      have y1 : (((21 : Nat) : Int) == 21) = true := rfl
                      have wx := IntWalk.i64_in (last.x + (last.b.length : Int)) (by have := HTP.out (.inr rfl); have := HBL0.out; omega)
                      have HD : Hid (toV 1 sz last.x last.n last.b.length 21 = last.x + (last.b.length : Int)) := Lib.hid (by unfold toV; rw [if_neg (by decide), if_pos rfl, if_pos (.inr rfl)])
                      clear h0
                      go_wp2_with fail
                      go_meet
                      exact ⟨none, 0, 0, sp9, ng, cap9, 21, _, av9, A9, rfl, rfl, rfl, rfl, HK8.out, by rw [HD1.out]; have := HGD.out; rw [HD.out] at this; exact this, fun _ => ⟨rfl, HNG.out⟩⟩
                    · have y1 : ((er : Int) == 21) = false := by simp; omega
                      have HD : Hid (toV 1 sz last.x last.n last.b.length er = last.x) := Lib.hid (by unfold toV; rw [if_neg (by decide), if_pos rfl, if_neg (by omega)])
                      clear h0 h1
                      go_wp2_with fail
                      go_meet
                      exact ⟨none, 0, 0, sp9, ng, cap9, er, last.x, av9, A9, rfl, rfl, rfl, rfl, HK8.out, by rw [HD1.out]; have := HGD.out; rw [HD.out] at this; exact this, fun _ => ⟨rfl, HNG.out⟩⟩
                · have z1 : ((last.d : Int) == 1) = false := by simp; omega
                  have HDD : Hid (last.d ≠ 0 ∧ last.d ≠ 1) := Lib.hid ⟨hd0, hd1⟩
                  clear hd0 hd1
                  go_wp2_with fail
                  refine (last_trunc HK7.out.sh HK7.out.fil HK7.out.bel.size last.d HDD.out.1 HDD.out.2 last.x last.n 0 HL.out.x.2).mono ?_
                  rintro e W8 ⟨sp9, ng, cap9, er, z, rfl, hlk⟩
                  obtain ⟨av9, A9, hsh, hmv, hgd⟩ := hlk.ex
                  have hk8 := HK7.out.mv hsh hmv (Q' := 100) hgd.len
                  have HK8 := Lib.hid hk8
                  have HGD := Lib.hid hgd; have HNO := Lib.hid hlk.none; have HTP := Lib.hid (hlk.top HDD.out.1)
                  clear hsh hmv hk8 hgd hlk f0 f1 f2 f3
                  by_cases h0 : er = 0
                  · subst h0
                    have y0 : (((0 : Nat) : Int) == 0) = true := rfl
                    have y1 : (((0 : Nat) : Int) == 21) = false := rfl
                    have htp := HTP.out (.inl rfl)
                    obtain ⟨x, hx⟩ := Int.eq_ofNat_of_zero_le htp.1
                    have hXM : x < 1000000 := by omega
                    obtain ⟨R, hR⟩ : ∃ R, x % 512 = R := ⟨_, rfl⟩
                    have HXM : Hid (last.x = (x : Int) ∧ x < 1000000 ∧ x % 512 = R) := Lib.hid ⟨hx, hXM, hR⟩
                    have HSZ : Hid (sz < 1000000) := Lib.hid (by have := HK8.out.fil.top; omega)
                    have wx := IntWalk.i64_in (last.x + 1) (by omega)
                    by_cases hr : R = 0
                    · have e1 : ((R : Int) != 0) = false := by simp; omega
                      have HD : Hid (toV last.d sz last.x last.n 0 0 = last.x) := Lib.hid (by unfold toV; rw [if_neg HDD.out.1, if_neg HDD.out.2, if_neg (by rw [hx]; omega)])
                      clear hx htp hr hXM hR
                      go_wp2_with (first | (refine c_valG (by rfl) (c_remA rfl rfl rfl HXM.out) ?_) | fail)
                      go_meet
                      exact ⟨none, 0, 0, sp9, ng, cap9, 0, last.x, av9, A9, rfl, rfl, rfl, rfl, HK8.out, by have := HGD.out; rw [HD.out] at this; exact this, fun h => absurd rfl h⟩
                    · have e1 : ((R : Int) != 0) = true := by simp; omega
                      by_cases hlz : x < sz
                      · have e2 : last.x < (sz : Int) := by omega
                        have HD : Hid (toV last.d sz last.x last.n 0 0 = last.x + 1) := Lib.hid (by unfold toV; rw [if_neg HDD.out.1, if_neg HDD.out.2, if_pos (by rw [hx]; omega)])
                        clear hx htp hr hlz hXM hR
                        go_wp2_with (first | (refine c_valG (by rfl) (c_remA rfl rfl rfl HXM.out) ?_) | (refine c_valG (by rfl) (c_cvU rfl rfl HSZ.out) ?_) | fail)
                        go_meet
                        exact ⟨none, 0, 0, sp9, ng, cap9, 0, last.x + 1, av9, A9, rfl, rfl, rfl, rfl, HK8.out, by have := HGD.out; rw [HD.out] at this; exact this, fun h => absurd rfl h⟩
                      · have e2 : ¬ last.x < (sz : Int) := by omega
                        have HD : Hid (toV last.d sz last.x last.n 0 0 = last.x) := Lib.hid (by unfold toV; rw [if_neg HDD.out.1, if_neg HDD.out.2, if_neg (by rw [hx]; omega)])
                        clear hx htp hr hlz hXM hR
                        go_wp2_with (first | (refine c_valG (by rfl) (c_remA rfl rfl rfl HXM.out) ?_) | (refine c_valG (by rfl) (c_cvU rfl rfl HSZ.out) ?_) | fail)
                        go_meet
                        exact ⟨none, 0, 0, sp9, ng, cap9, 0, last.x, av9, A9, rfl, rfl, rfl, rfl, HK8.out, by have := HGD.out; rw [HD.out] at this; exact this, fun h => absurd rfl h⟩
                  · have y0 : ((er : Int) == 0) = false := by simp; omega
                    have HNG := Lib.hid (HNO.out h0)
                    by_cases h1 : er = 21
                    · subst h1
                      have y1 : (((21 : Nat) : Int) == 21) = true := rfl
                      have wx := IntWalk.i64_in (last.x + 1) (by have := HTP.out (.inr rfl); omega)
                      have HD : Hid (toV last.d sz last.x last.n 0 21 = last.x + 1) := Lib.hid (by unfold toV; rw [if_neg HDD.out.1, if_neg HDD.out.2, if_pos (.inr rfl)])
                      clear h0
                      go_wp2_with fail
                      go_meet
                      exact ⟨none, 0, 0, sp9, ng, cap9, 21, _, av9, A9, rfl, rfl, rfl, rfl, HK8.out, by have := HGD.out; rw [HD.out] at this; exact this, fun _ => ⟨rfl, HNG.out⟩⟩
                    · have y1 : ((er : Int) == 21) = false := by simp; omega
                      have HD : Hid (toV last.d sz last.x last.n 0 er = last.x) := Lib.hid (by unfold toV; rw [if_neg HDD.out.1, if_neg HDD.out.2, if_neg (by omega)])
                      clear h0 h1
                      go_wp2_with fail
                      go_meet
                      exact ⟨none, 0, 0, sp9, ng, cap9, er, last.x, av9, A9, rfl, rfl, rfl, rfl, HK8.out, by have := HGD.out; rw [HD.out] at this; exact this, fun _ => ⟨rfl, HNG.out⟩⟩
          case rest =>
            obtain ⟨sp13, n13, c13, sp14, n14, c14, er, tq, av, A, rfl, rfl, rfl, rfl, hk8, hgd, hno⟩ := hcut
            have HK8 := Lib.hid hk8; have HGD := Lib.hid hgd; have HNO := Lib.hid hno
            clear hk8 hgd hno f0 f1 f2 f3 HK7
            obtain ⟨spq, capq, rfl, hcq, hqc⟩ := ownQ_at HK8.out.sh.q
            obtain ⟨n, hn⟩ : ∃ n, A.length = n := ⟨_, rfl⟩
            rw [hn] at hcq hqc
            have HAN := Lib.hid hn; have HCQ := Lib.hid hcq; have HQC := Lib.hid hqc
            have HN100 : Hid (n ≤ 100) := Lib.hid (by have := HGD.out.len; omega)
            have hk9 := HK8.out
            rw [hn] at hk9
            have HK9 := Lib.hid hk9
            clear hn hcq hqc hk9 HK8
            go_upto_region 38 with fail
            go_loopg [18, 19] n (fun r s18 s19 wx => ∃ k : Nat, s18 = .bool ((A.take k).any (badAt bad)) ∧ s19 = .int .i64 (k : Int) ∧ r + k = n ∧ Below wc.heap.size wc wx)
            case atStart => exact ⟨0, rfl, rfl, by omega, Below.refl _ _⟩
            case round =>
              as_aux_lemma =>
                obtain ⟨k, rfl, rfl, hgk, hbw⟩ := hrel
                have HBW := Lib.hid hbw
                have c65 := (HK9.out.sh.below hbw).cell65
                clear hbw
                have wk1 := IntWalk.i64_in ((k : Int) + 1) (by have := HN100.out; omega)
                by_cases hlt : k < n
                · have hlt' : (k : Int) < (n : Int) := by omega
                  obtain ⟨a, ha⟩ : ∃ a, A[k]? = some a := ⟨_, List.getElem?_eq_getElem (by have := HAN.out; omega)⟩
                  obtain ⟨ga, rfl, hcl⟩ := HQC.out (by omega)
                  obtain ⟨ha64, ⟨x, hx, hx2, hxa⟩, hto, hwh⟩ := HGD.out.mem a (List.mem_of_getElem? ha)
                  have hca := (hcl k a ha).1
                  have hca' : wr.cell? ⟨ga, k, none⟩ = some (.int .u32 (a : Int)) := (HBW.out.cell (p := ⟨ga, k, none⟩) (lt_of_cell hca)).trans hca
                  have HCA := Lib.hid hca'
                  have HPW : Hid (∀ j, j + 1 = k → ∃ b, wr.cell? ⟨ga, j, none⟩ = some (.int .u32 ((b : Nat) : Int)) ∧ b < a) := Lib.hid (fun j hj => by
                    have hjn : j < A.length := by have := HAN.out; omega
                    have hb : A[j]? = some A[j] := List.getElem?_eq_getElem hjn
                    have h1 := (hcl j _ hb).1
                    refine ⟨A[j], (HBW.out.cell (p := ⟨ga, j, none⟩) (lt_of_cell h1)).trans h1, ?_⟩
                    obtain ⟨hkl, rfl⟩ := List.getElem?_eq_some_iff.1 ha
                    exact List.pairwise_iff_getElem.1 HGD.out.pw j k hjn hkl (by omega))
                  have HKC : Hid (k < n ∧ n ≤ capq) := Lib.hid ⟨hlt, HCQ.out⟩
                  have HA64 := Lib.hid ha64
                  have HAM : Hid (a < 1000000) := Lib.hid (by omega)
                  obtain ⟨Q, hQ⟩ : ∃ Q, x / 512 = Q := ⟨_, rfl⟩
                  have HQQ : Hid (last.x = (x : Int) ∧ x < 1000000 ∧ x / 512 = Q) := Lib.hid ⟨hx, by omega, hQ⟩
                  have HAQ : Hid (decide ((a : Int) < (Q : Int)) = false) := Lib.hid (decide_eq_false (by omega))
                  have HTQ : Hid (decide (tq ≤ ((512 * a : Nat) : Int)) = false) := Lib.hid (decide_eq_false (by omega))
                  have HWH := Lib.hid hwh
                  have HTK := Lib.hid (c_take_snoc ha)
                  have wm : IntKind.i64.wrap (512 * (a : Int)) = 512 * (a : Int) := IntWalk.i64_in _ (by omega)
                  have wm2 : IntKind.i64.wrap (512 * (a : Int) + 512) = 512 * (a : Int) + 512 := IntWalk.i64_in _ (by omega)
                  clear ha hcl ha64 hx hx2 hxa hto hwh hca hca' hQ
                  have f0 := (HK9.out.b5.below HBW.out HK9.out.b5.lt).cell (j := 0) rfl
                  go_upto_region 40 with (first | (refine c_val rfl (c_iaQ rfl rfl rfl HKC.out) ?_) | (refine c_val rfl (c_ldU32 rfl rfl HCA.out) ?_) | (refine c_val rfl (c_cvU rfl rfl HAM.out) ?_) | fail)
                  go_cut [21] from 182 to 261 (fun s wx => s = .bool false ∧ wr = wx)
                  case first =>
                    as_aux_lemma =>
                      by_cases hd : last.d = 1
                      · have z1 : ((last.d : Int) == 1) = true := by rw [hd]; rfl
                        by_cases hle : last.x ≤ 512 * (a : Int)
                        · have e2 : ¬ 512 * (a : Int) + 512 ≤ tq := fun h => HWH.out ⟨hd, by omega, by omega⟩
                          clear hd c65
                          go_wp2_with fail
                          go_meet
                          exact ⟨rfl, rfl⟩
                        · clear hd c65
                          go_wp2_with fail
                          go_meet
                          exact ⟨rfl, rfl⟩
                      · have z1 : ((last.d : Int) == 1) = false := by simp; omega
                        clear hd c65
                        go_wp2_with fail
                        go_meet
                        exact ⟨rfl, rfl⟩
                  case rest =>
                    obtain ⟨rfl, rfl⟩ := hcut
                    clear f0
                    go_upto_region 41 with fail
                    go_cut [249] from 182 to 261 (fun s wx => s = .bool false ∧ wr.drew = wx)
                    case first =>
                      as_aux_lemma =>
                        have hc65 : wr.drew.cell? ⟨D, 65, none⟩ = some (.slice (some ⟨ga, 0, none⟩) n capq) := c65
                        cases k with
                        | zero =>
                          have HGT : Hid (decide ((0 : Int) < ((0 : Nat) : Int)) = false) := Lib.hid rfl
                          refine wp_region_sched (.take 0 (.take 1 (.take 2 (.take 3 (.take 4 (.take 5 (.take 6 (.take 7 (.take 8 (.take 9 (.take 10 (.take 11 (.take 12 (.take 13 (.take 14 (.take 15 (.take 16 (.take 17 (.take 18 (.take 19 (.take 20 (.take 21 (.take 22 (.take 23 (.take 24 (.take 25 (.take 26 (.take 27 (.take 28 (.take 29 (.take 30 (.take 31 (.take 32 (.take 33 (.take 34 (.nil)))))))))))))))))))))))))))))))))))) (by kernel_rfl) (by kernel_rfl) (fun d _ _ _ _ h => by cases d <;> exact h) (fun _ => True) (trivial) ?_
                          refine wpG_take _ (.int .i64 (a : Int)) rfl (by rfl) (fun X hX => by first | rfl | go_simp) ?_
                          (try simp only [Act.put, List.setIfInBounds_toArray, List.set_cons_zero, List.set_cons_succ])
                          refine wpG_take _ (.int .i64 last.x) rfl (by rfl) (fun X hX => by first | rfl | go_simp) ?_
                          (try simp only [Act.put, List.setIfInBounds_toArray, List.set_cons_zero, List.set_cons_succ])
                          refine wpG_take _ (.int .i64 (Q : Int)) rfl (by rfl) (fun X hX => c_quoA rfl rfl rfl HQQ.out) ?_
                          (try simp only [Act.put, List.setIfInBounds_toArray, List.set_cons_zero, List.set_cons_succ])
                          refine wpG_take _ (.bool false) rfl (by rfl) (fun X hX => c_ltI rfl rfl rfl HAQ.out) ?_
                          (try simp only [Act.put, List.setIfInBounds_toArray, List.set_cons_zero, List.set_cons_succ])
                          refine wpG_take _ (.bool false) rfl (by rfl) (fun X hX => by first | rfl | go_simp) ?_
                          (try simp only [Act.put, List.setIfInBounds_toArray, List.set_cons_zero, List.set_cons_succ])
                          refine wpG_take _ (.int .i64 (a : Int)) rfl (by rfl) (fun X hX => by first | rfl | go_simp) ?_
                          (try simp only [Act.put, List.setIfInBounds_toArray, List.set_cons_zero, List.set_cons_succ])
                          refine wpG_take _ (.int .i64 ((512 * a : Nat) : Int)) rfl (by rfl) (fun X hX => c_mulI rfl rfl rfl HAM.out) ?_
                          (try simp only [Act.put, List.setIfInBounds_toArray, List.set_cons_zero, List.set_cons_succ])
                          refine wpG_take _ (.int .i64 tq) rfl (by rfl) (fun X hX => by first | rfl | go_simp) ?_
                          (try simp only [Act.put, List.setIfInBounds_toArray, List.set_cons_zero, List.set_cons_succ])
                          refine wpG_take _ (.bool false) rfl (by rfl) (fun X hX => c_geI rfl rfl rfl HTQ.out) ?_
                          (try simp only [Act.put, List.setIfInBounds_toArray, List.set_cons_zero, List.set_cons_succ])
                          refine wpG_take _ (.bool false) rfl (by rfl) (fun X hX => by first | rfl | go_simp) ?_
                          (try simp only [Act.put, List.setIfInBounds_toArray, List.set_cons_zero, List.set_cons_succ])
                          refine wpG_take _ (.bool false) rfl (by rfl) (fun X hX => by first | rfl | go_simp) ?_
                          (try simp only [Act.put, List.setIfInBounds_toArray, List.set_cons_zero, List.set_cons_succ])
                          refine wpG_take _ (.bool false) rfl (by rfl) (fun X hX => by first | rfl | go_simp) ?_
                          (try simp only [Act.put, List.setIfInBounds_toArray, List.set_cons_zero, List.set_cons_succ])
                          refine wpG_take _ (.bool false) rfl (by rfl) (fun X hX => by first | rfl | go_simp) ?_
                          (try simp only [Act.put, List.setIfInBounds_toArray, List.set_cons_zero, List.set_cons_succ])
                          refine wpG_take _ (.bool false) rfl (by rfl) (fun X hX => by first | rfl | go_simp) ?_
                          (try simp only [Act.put, List.setIfInBounds_toArray, List.set_cons_zero, List.set_cons_succ])
                          refine wpG_take _ (.int .i64 ((0 : Nat) : Int)) rfl (by rfl) (fun X hX => by first | rfl | go_simp) ?_
                          (try simp only [Act.put, List.setIfInBounds_toArray, List.set_cons_zero, List.set_cons_succ])
                          refine wpG_take _ (.bool false) rfl (by rfl) (fun X hX => c_gtI rfl rfl rfl HGT.out) ?_
                          (try simp only [Act.put, List.setIfInBounds_toArray, List.set_cons_zero, List.set_cons_succ])
                          refine wpG_take _ (.bool false) rfl (by rfl) (fun X hX => by first | rfl | go_simp) ?_
                          (try simp only [Act.put, List.setIfInBounds_toArray, List.set_cons_zero, List.set_cons_succ])
                          refine wpG_pass _ rfl (by rfl) ?_
                          (try simp only [Act.put, List.setIfInBounds_toArray, List.set_cons_zero, List.set_cons_succ])
                          refine wpG_pass _ rfl (by rfl) ?_
                          (try simp only [Act.put, List.setIfInBounds_toArray, List.set_cons_zero, List.set_cons_succ])
                          refine wpG_pass _ rfl (by rfl) ?_
                          (try simp only [Act.put, List.setIfInBounds_toArray, List.set_cons_zero, List.set_cons_succ])
                          refine wpG_pass _ rfl (by rfl) ?_
                          (try simp only [Act.put, List.setIfInBounds_toArray, List.set_cons_zero, List.set_cons_succ])
                          refine wpG_pass _ rfl (by rfl) ?_
                          (try simp only [Act.put, List.setIfInBounds_toArray, List.set_cons_zero, List.set_cons_succ])
                          refine wpG_pass _ rfl (by rfl) ?_
                          (try simp only [Act.put, List.setIfInBounds_toArray, List.set_cons_zero, List.set_cons_succ])
                          refine wpG_pass _ rfl (by rfl) ?_
                          (try simp only [Act.put, List.setIfInBounds_toArray, List.set_cons_zero, List.set_cons_succ])
                          refine wpG_pass _ rfl (by rfl) ?_
                          (try simp only [Act.put, List.setIfInBounds_toArray, List.set_cons_zero, List.set_cons_succ])
                          refine wpG_pass _ rfl (by rfl) ?_
                          (try simp only [Act.put, List.setIfInBounds_toArray, List.set_cons_zero, List.set_cons_succ])
                          refine wpG_pass _ rfl (by rfl) ?_
                          (try simp only [Act.put, List.setIfInBounds_toArray, List.set_cons_zero, List.set_cons_succ])
                          refine wpG_pass _ rfl (by rfl) ?_
                          (try simp only [Act.put, List.setIfInBounds_toArray, List.set_cons_zero, List.set_cons_succ])
                          refine wpG_pass _ rfl (by rfl) ?_
                          (try simp only [Act.put, List.setIfInBounds_toArray, List.set_cons_zero, List.set_cons_succ])
                          refine wpG_pass _ rfl (by rfl) ?_
                          (try simp only [Act.put, List.setIfInBounds_toArray, List.set_cons_zero, List.set_cons_succ])
                          refine wpG_pass _ rfl (by rfl) ?_
                          (try simp only [Act.put, List.setIfInBounds_toArray, List.set_cons_zero, List.set_cons_succ])
                          refine wpG_pass _ rfl (by rfl) ?_
                          (try simp only [Act.put, List.setIfInBounds_toArray, List.set_cons_zero, List.set_cons_succ])
                          refine wpG_pass _ rfl (by rfl) ?_
                          (try simp only [Act.put, List.setIfInBounds_toArray, List.set_cons_zero, List.set_cons_succ])
                          refine wpG_take _ (.bool false) rfl (by rfl) (fun X hX => by first | rfl | go_simp) ?_
                          (try simp only [Act.put, List.setIfInBounds_toArray, List.set_cons_zero, List.set_cons_succ])
                          refine wpG_take _ (.bool false) rfl (by rfl) (fun X hX => by first | rfl | go_simp) ?_
                          (try simp only [Act.put, List.setIfInBounds_toArray, List.set_cons_zero, List.set_cons_succ])
                          refine wpG_nil ?_
                          go_wp2_with fail
                          go_meet
                          exact ⟨rfl, rfl⟩
                        | succ j =>
                          obtain ⟨b, hcb, hba⟩ := HPW.out j rfl
                          have HGT : Hid (decide ((0 : Int) < ((j + 1 : Nat) : Int)) = true) := Lib.hid (decide_eq_true (by omega))
                          have HSB : Hid (1 ≤ j + 1 ∧ j + 1 < 1000000) := Lib.hid ⟨by omega, by have := HN100.out; omega⟩
                          have HKJ : Hid (j < n ∧ n ≤ capq) := Lib.hid ⟨by omega, HCQ.out⟩
                          have HGE : Hid (decide ((a : Int) ≤ (b : Int)) = false) := Lib.hid (decide_eq_false (by omega))
                          have HS3 : Hid (wr.drew.cell? ⟨D, 65, none⟩ = some (.slice (some ⟨ga, 0, none⟩) n capq) ∧ wr.drew.cell? ⟨ga, j, none⟩ = some (.int .u32 (b : Int)) ∧ wr.drew.cell? ⟨ga, j + 1, none⟩ = some (.int .u32 (a : Int))) := Lib.hid ⟨hc65, hcb, HCA.out⟩
                          refine wp_region_sched (.take 0 (.take 1 (.take 2 (.take 3 (.take 4 (.take 5 (.take 6 (.take 7 (.take 8 (.take 9 (.take 10 (.take 11 (.take 12 (.take 13 (.take 14 (.take 15 (.take 16 (.take 17 (.take 18 (.take 19 (.take 20 (.take 21 (.take 22 (.take 23 (.take 24 (.take 25 (.take 26 (.take 27 (.take 28 (.take 29 (.take 30 (.take 31 (.take 32 (.take 33 (.take 34 (.nil)))))))))))))))))))))))))))))))))))) (by kernel_rfl) (by kernel_rfl) (fun d _ _ _ _ h => by cases d <;> exact h) (fun X => X.cell? ⟨D, 65, none⟩ = some (.slice (some ⟨ga, 0, none⟩) n capq) ∧ X.cell? ⟨ga, j, none⟩ = some (.int .u32 (b : Int)) ∧ X.cell? ⟨ga, j + 1, none⟩ = some (.int .u32 (a : Int))) (HS3.out) ?_
                          refine wpG_take _ (.int .i64 (a : Int)) rfl (by rfl) (fun X hX => by first | rfl | go_simp) ?_
                          (try simp only [Act.put, List.setIfInBounds_toArray, List.set_cons_zero, List.set_cons_succ])
                          refine wpG_take _ (.int .i64 last.x) rfl (by rfl) (fun X hX => by first | rfl | go_simp) ?_
                          (try simp only [Act.put, List.setIfInBounds_toArray, List.set_cons_zero, List.set_cons_succ])
                          refine wpG_take _ (.int .i64 (Q : Int)) rfl (by rfl) (fun X hX => c_quoA rfl rfl rfl HQQ.out) ?_
                          (try simp only [Act.put, List.setIfInBounds_toArray, List.set_cons_zero, List.set_cons_succ])
                          refine wpG_take _ (.bool false) rfl (by rfl) (fun X hX => c_ltI rfl rfl rfl HAQ.out) ?_
                          (try simp only [Act.put, List.setIfInBounds_toArray, List.set_cons_zero, List.set_cons_succ])
                          refine wpG_take _ (.bool false) rfl (by rfl) (fun X hX => by first | rfl | go_simp) ?_
                          (try simp only [Act.put, List.setIfInBounds_toArray, List.set_cons_zero, List.set_cons_succ])
                          refine wpG_take _ (.int .i64 (a : Int)) rfl (by rfl) (fun X hX => by first | rfl | go_simp) ?_
                          (try simp only [Act.put, List.setIfInBounds_toArray, List.set_cons_zero, List.set_cons_succ])
                          refine wpG_take _ (.int .i64 ((512 * a : Nat) : Int)) rfl (by rfl) (fun X hX => c_mulI rfl rfl rfl HAM.out) ?_
                          (try simp only [Act.put, List.setIfInBounds_toArray, List.set_cons_zero, List.set_cons_succ])
                          refine wpG_take _ (.int .i64 tq) rfl (by rfl) (fun X hX => by first | rfl | go_simp) ?_
                          (try simp only [Act.put, List.setIfInBounds_toArray, List.set_cons_zero, List.set_cons_succ])
                          refine wpG_take _ (.bool false) rfl (by rfl) (fun X hX => c_geI rfl rfl rfl HTQ.out) ?_
                          (try simp only [Act.put, List.setIfInBounds_toArray, List.set_cons_zero, List.set_cons_succ])
                          refine wpG_take _ (.bool false) rfl (by rfl) (fun X hX => by first | rfl | go_simp) ?_
                          (try simp only [Act.put, List.setIfInBounds_toArray, List.set_cons_zero, List.set_cons_succ])
                          refine wpG_take _ (.bool false) rfl (by rfl) (fun X hX => by first | rfl | go_simp) ?_
                          (try simp only [Act.put, List.setIfInBounds_toArray, List.set_cons_zero, List.set_cons_succ])
                          refine wpG_take _ (.bool false) rfl (by rfl) (fun X hX => by first | rfl | go_simp) ?_
                          (try simp only [Act.put, List.setIfInBounds_toArray, List.set_cons_zero, List.set_cons_succ])
                          refine wpG_take _ (.bool false) rfl (by rfl) (fun X hX => by first | rfl | go_simp) ?_
                          (try simp only [Act.put, List.setIfInBounds_toArray, List.set_cons_zero, List.set_cons_succ])
                          refine wpG_take _ (.bool false) rfl (by rfl) (fun X hX => by first | rfl | go_simp) ?_
                          (try simp only [Act.put, List.setIfInBounds_toArray, List.set_cons_zero, List.set_cons_succ])
                          refine wpG_take _ (.int .i64 ((j + 1 : Nat) : Int)) rfl (by rfl) (fun X hX => by first | rfl | go_simp) ?_
                          (try simp only [Act.put, List.setIfInBounds_toArray, List.set_cons_zero, List.set_cons_succ])
                          refine wpG_take _ (.bool true) rfl (by rfl) (fun X hX => c_gtI rfl rfl rfl HGT.out) ?_
                          (try simp only [Act.put, List.setIfInBounds_toArray, List.set_cons_zero, List.set_cons_succ])
                          refine wpG_take _ (.bool true) rfl (by rfl) (fun X hX => by first | rfl | go_simp) ?_
                          (try simp only [Act.put, List.setIfInBounds_toArray, List.set_cons_zero, List.set_cons_succ])
                          refine wpG_take _ (.pointer (some ⟨D, 0, none⟩)) rfl (by rfl) (fun X hX => by first | rfl | go_simp) ?_
                          (try simp only [Act.put, List.setIfInBounds_toArray, List.set_cons_zero, List.set_cons_succ])
                          refine wpG_take _ (.pointer (some ⟨D, 0, none⟩)) rfl (by rfl) (fun X hX => c_nc rfl rfl) ?_
                          (try simp only [Act.put, List.setIfInBounds_toArray, List.set_cons_zero, List.set_cons_succ])
                          refine wpG_take _ (.pointer (some ⟨D, 65, none⟩)) rfl (by rfl) (fun X hX => c_faS2 rfl rfl) ?_
                          (try simp only [Act.put, List.setIfInBounds_toArray, List.set_cons_zero, List.set_cons_succ])
                          refine wpG_take _ (.slice (some ⟨ga, 0, none⟩) n capq) rfl (by rfl) (fun X hX => c_ldQ rfl rfl hX.1) ?_
                          (try simp only [Act.put, List.setIfInBounds_toArray, List.set_cons_zero, List.set_cons_succ])
                          refine wpG_take _ (.int .i64 ((j + 1 : Nat) : Int)) rfl (by rfl) (fun X hX => by first | rfl | go_simp) ?_
                          (try simp only [Act.put, List.setIfInBounds_toArray, List.set_cons_zero, List.set_cons_succ])
                          refine wpG_take _ (.int .i64 ((j + 1 - 1 : Nat) : Int)) rfl (by rfl) (fun X hX => c_subI (b := 1) rfl rfl rfl HSB.out) ?_
                          (try simp only [Act.put, List.setIfInBounds_toArray, List.set_cons_zero, List.set_cons_succ])
                          refine wpG_take _ (.pointer (some ⟨ga, j, none⟩)) rfl (by rfl) (fun X hX => c_iaQ (k := j) rfl rfl rfl HKJ.out) ?_
                          (try simp only [Act.put, List.setIfInBounds_toArray, List.set_cons_zero, List.set_cons_succ])
                          refine wpG_take _ (.int .u32 (b : Int)) rfl (by rfl) (fun X hX => c_ldU32 rfl rfl hX.2.1) ?_
                          (try simp only [Act.put, List.setIfInBounds_toArray, List.set_cons_zero, List.set_cons_succ])
                          refine wpG_take _ (.pointer (some ⟨D, 0, none⟩)) rfl (by rfl) (fun X hX => by first | rfl | go_simp) ?_
                          (try simp only [Act.put, List.setIfInBounds_toArray, List.set_cons_zero, List.set_cons_succ])
                          refine wpG_take _ (.pointer (some ⟨D, 0, none⟩)) rfl (by rfl) (fun X hX => c_nc rfl rfl) ?_
                          (try simp only [Act.put, List.setIfInBounds_toArray, List.set_cons_zero, List.set_cons_succ])
                          refine wpG_take _ (.pointer (some ⟨D, 65, none⟩)) rfl (by rfl) (fun X hX => c_faS2 rfl rfl) ?_
                          (try simp only [Act.put, List.setIfInBounds_toArray, List.set_cons_zero, List.set_cons_succ])
                          refine wpG_take _ (.slice (some ⟨ga, 0, none⟩) n capq) rfl (by rfl) (fun X hX => c_ldQ rfl rfl hX.1) ?_
                          (try simp only [Act.put, List.setIfInBounds_toArray, List.set_cons_zero, List.set_cons_succ])
                          refine wpG_take _ (.int .i64 ((j + 1 : Nat) : Int)) rfl (by rfl) (fun X hX => by first | rfl | go_simp) ?_
                          (try simp only [Act.put, List.setIfInBounds_toArray, List.set_cons_zero, List.set_cons_succ])
                          refine wpG_take _ (.pointer (some ⟨ga, j + 1, none⟩)) rfl (by rfl) (fun X hX => c_iaQ rfl rfl rfl HKC.out) ?_
                          (try simp only [Act.put, List.setIfInBounds_toArray, List.set_cons_zero, List.set_cons_succ])
                          refine wpG_take _ (.int .u32 (a : Int)) rfl (by rfl) (fun X hX => c_ldU32 rfl rfl hX.2.2) ?_
                          (try simp only [Act.put, List.setIfInBounds_toArray, List.set_cons_zero, List.set_cons_succ])
                          refine wpG_take _ (.bool false) rfl (by rfl) (fun X hX => c_geU32 rfl rfl rfl HGE.out) ?_
                          (try simp only [Act.put, List.setIfInBounds_toArray, List.set_cons_zero, List.set_cons_succ])
                          refine wpG_take _ (.bool false) rfl (by rfl) (fun X hX => by first | rfl | go_simp) ?_
                          (try simp only [Act.put, List.setIfInBounds_toArray, List.set_cons_zero, List.set_cons_succ])
                          refine wpG_take _ (.bool false) rfl (by rfl) (fun X hX => by first | rfl | go_simp) ?_
                          (try simp only [Act.put, List.setIfInBounds_toArray, List.set_cons_zero, List.set_cons_succ])
                          refine wpG_nil ?_
                          go_wp2_with fail
                          go_meet
                          exact ⟨rfl, rfl⟩
                    case rest =>
                      obtain ⟨rfl, rfl⟩ := hcut
                      clear c65
                      have hbt := bad_bits bad a HBAD.out
                      have a64 : (a : Int) < 64 := by have := HA64.out; omega
                      cases hany : (A.take k).any (badAt bad)
                      · cases hbk : badAt bad a
                        · rw [hbk, if_neg (by simp)] at hbt
                          have HE : Hid ((A.take (k + 1)).any (badAt bad) = false) := Lib.hid (by rw [HTK.out, List.any_append, hany]; simp [hbk])
                          clear hany hbk
                          go_wp2_with fail
                          go_roundg (n - (k + 1))
                          case measure => omega
                          case rel => exact ⟨k + 1, by rw [HE.out], by go_num, by omega, HBW.out.drew⟩
                        · rw [hbk, if_pos rfl] at hbt
                          have HE : Hid ((A.take (k + 1)).any (badAt bad) = true) := Lib.hid (by rw [HTK.out, List.any_append, hany]; simp [hbk])
                          clear hany hbk
                          go_wp2_with fail
                          go_roundg (n - (k + 1))
                          case measure => omega
                          case rel => exact ⟨k + 1, by rw [HE.out], by go_num, by omega, HBW.out.drew⟩
                      · have HE : Hid ((A.take (k + 1)).any (badAt bad) = true) := Lib.hid (by rw [HTK.out, List.any_append, hany]; simp)
                        clear hany hbt
                        go_wp2_with fail
                        go_roundg (n - (k + 1))
                        case measure => omega
                        case rel => exact ⟨k + 1, by rw [HE.out], by go_num, by omega, HBW.out.drew⟩
                · obtain rfl : n = k := by omega
                  have hlt' : ¬ (n : Int) < (n : Int) := by omega
                  have HE : Hid ((A.take n).any (badAt bad) = decide (er = 21)) := Lib.hid (by rw [← HAN.out, List.take_length]; exact HGD.out.any)
                  rw [HE.out]
                  have HBE : Hid (Below w.heap.size w wr) := Lib.hid (HK9.out.bel.trans (HBW.out.mono HK9.out.bel.size))
                  by_cases h0 : er = 0
                  · subst h0
                    rw [decide_eq_false (by decide : ¬ (0 : Nat) = 21)]
                    clear hlt
                    go_wp2_with fail
                    refine (cwakes_any _).mono ?_
                    rintro e W9 ⟨rfl, hb9⟩
                    have HE9 := Lib.hid (HP.out W9 (HBE.out.trans (hb9.mono HBE.out.size)))
                    clear hb9
                    go_wp2_with fail
                    first | exact HE9.out | (go_ret; exact HE9.out)
                  · obtain ⟨hz13, hz14⟩ := HNO.out h0
                    subst hz13 hz14
                    have y0 : ((er : Int) == 0) = false := by simp; omega
                    by_cases h1 : er = 21
                    · subst h1
                      rw [decide_eq_true rfl]
                      clear h0 hlt y0
                      go_wp2_with fail
                      refine (cwakes_any _).mono ?_
                      rintro e W9 ⟨rfl, hb9⟩
                      have HE9 := Lib.hid (HP.out W9 (HBE.out.trans (hb9.mono HBE.out.size)))
                      clear hb9
                      go_wp2_with fail
                      first | exact HE9.out | (go_ret; exact HE9.out)
                    · have y1 : ((er : Int) == 21) = false := by simp; omega
                      rw [decide_eq_false h1]
                      clear h0 h1 hlt
                      go_wp2_with fail
                      refine (cwakes_any _).mono ?_
                      rintro e W9 ⟨rfl, hb9⟩
                      have HE9 := Lib.hid (HP.out W9 (HBE.out.trans (hb9.mono HBE.out.size)))
                      clear hb9
                      go_wp2_with fail
                      first | exact HE9.out | (go_ret; exact HE9.out)
end Go.Proofs.Ythionhliokhcgaa
