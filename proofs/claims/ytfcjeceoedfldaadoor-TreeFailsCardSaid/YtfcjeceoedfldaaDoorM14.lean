/- What stays where a call turns only some blocks; a function value. -/
import Derived.Test.YtfcjeceoedfldaaDoorM01
import Derived.Test.YtfcjeceoedfldaaDoorM13
import Derived.Maps.AppendAt
import Derived.Handy
import Derived.Test.YtfcjeceoedfldaaDoorM10
import Derived.Test.YtfcjeceoedfldaaDoorM07
import Derived.ProofKit
import Derived.OpenShut
import Derived.Test.YtfcjeceoedfldaaDoorM05
import Derived.LaidMore
import Derived.Stop.Joined
namespace Go.Proofs.YtfcjeceoedfldaaDoor
open Go.RowKit

/-- All but the blocks of F is as it was. -/
structure Chg (F : Nat → Prop) (w w' : World) : Prop where
  os : w'.os = w.os
  tape : w'.tape = w.tape
  output : w'.output = w.output
  size : w.heap.size ≤ w'.heap.size
  block : ∀ k, k < w.heap.size → ¬ F k → w'.heap[k]? = w.heap[k]?
theorem Chg.refl (F : Nat → Prop) (w : World) : Chg F w w := ⟨rfl, rfl, rfl, Nat.le_refl _, fun _ _ _ => rfl⟩
theorem Chg.trans {F G : Nat → Prop} {a b c : World} (h : Chg F a b) (k : Chg G b c) (hG : ∀ i, G i → F i ∨ a.heap.size ≤ i) : Chg F a c :=
  ⟨k.os.trans h.os, k.tape.trans h.tape, k.output.trans h.output, Nat.le_trans h.size k.size, fun i hi hn => (k.block i (Nat.lt_of_lt_of_le hi h.size) (fun hg => by rcases hG i hg with h1 | h1; exact hn h1; omega)).trans (h.block i hi hn)⟩
theorem Chg.trans' {F : Nat → Prop} {a b c : World} (h : Chg F a b) (k : Chg F b c) : Chg F a c := h.trans k (fun _ h => .inl h)
theorem Chg.mono {F G : Nat → Prop} {a b : World} (h : Chg F a b) (hG : ∀ i, F i → G i) : Chg G a b := (Chg.refl G a).trans h (fun i hi => .inl (hG i hi))
theorem Chg.of_below {F : Nat → Prop} {a b : World} (h : Below a.heap.size a b) : Chg F a b := ⟨h.os, h.tape, h.output, h.size, fun k hk _ => h.block k hk⟩
theorem Chg.below {F : Nat → Prop} {a b : World} (h : Chg F a b) {B : Nat} (hF : ∀ k, F k → B ≤ k) (hB : B ≤ a.heap.size) : Below B a b := ⟨h.os, h.tape, h.output, h.size, fun k hk => h.block k (by omega) (fun hf => by have := hF k hf; omega)⟩
theorem Chg.drew {F : Nat → Prop} {a b : World} (h : Chg F a b) : Chg F a b.drew := ⟨h.os, h.tape, h.output, h.size, h.block⟩
theorem Chg.drewN {F : Nat → Prop} {a b : World} (h : Chg F a b) (n : Nat) : Chg F a (b.drewN n) := ⟨h.os, h.tape, h.output, h.size, h.block⟩
theorem Chg.alloc {F : Nat → Prop} {a b : World} (h : Chg F a b) (o : Obj) : Chg F a (b.alloc o) := h.trans' (Chg.of_below ((Below.refl _ _).alloc (Nat.le_refl _) o))
theorem Chg.setRow {F : Nat → Prop} {a b : World} (h : Chg F a b) {g : Nat} (hg : F g ∨ a.heap.size ≤ g) (c : Array Value) : Chg F a (b.setRow g c) :=
  h.trans (G := fun k => k = g) ⟨rfl, rfl, rfl, by simp, fun k _ hn => setRow_other b g k c hn⟩ (fun i hi => by subst hi; exact hg)
theorem Chg.setCell {F : Nat → Prop} {a b : World} (h : Chg F a b) {g : Nat} (hg : F g ∨ a.heap.size ≤ g) (j : Nat) (v : Value) : Chg F a (b.setCell ⟨g, j, none⟩ v) :=
  h.trans (G := fun k => k = g) ⟨rfl, rfl, rfl, by simp [World.setCell], fun k _ hn => Below.heap_setCell _ _ _ _ hn⟩ (fun i hi => by subst hi; exact hg)
theorem Chg.grown {F : Nat → Prop} {a b c : World} (h : Chg F a b) {r : Option Nat} (hg : b.grownBy c r) (hr : ∀ k, r = some k → F k ∨ a.heap.size ≤ k) : Chg F a c :=
  h.trans (G := fun k => some k = r) ⟨hg.os, hg.tape, hg.output, hg.size, fun k hk hn => hg.block k hk hn⟩ (fun i hi => hr i hi.symm)
theorem Blk.chg {F : Nat → Prop} {w w' : World} {g : Nat} {cs : List Value} {t : TypeId} (h : Blk w g cs t) (hc : Chg F w w') (hn : ¬ F g) : Blk w' g cs t := by
  unfold Blk; rw [hc.block g h.lt hn]; exact h
theorem Blk.same {w : World} {g : Nat} {cs cs' : List Value} {t t' : TypeId} (h : Blk w g cs t) (h' : Blk w g cs' t') : t = t' := by
  unfold Blk at h h'; rw [h] at h'; cases h'; rfl
/-- A block of another type is another block. -/
theorem Blk.not {w : World} {g k : Nat} {cs cs' : List Value} {t t' : TypeId} (h : Blk w g cs t) (h' : Blk w k cs' t') (ht : t ≠ t') : ¬ g = k := fun e => by subst e; exact ht (h.same h')
theorem chg1 (w : World) (g j : Nat) (v : Value) : Chg (fun k => k = g) w (w.setCell ⟨g, j, none⟩ v) := (Chg.refl (fun k => k = g) w).setCell (.inl rfl) j v
def fval (f : Nat) (caps : Array Value) : Value := .func (.func f) #[] caps
end Go.Proofs.YtfcjeceoedfldaaDoor
/- Slices of pointers: a call's own, and such as lie in memory; whether a pointer is among some. -/
namespace Go.Proofs.YtfcjeceoedfldaaDoor
open Go.RowKit

attribute [local go_sem] Oper.semAt_some

theorem owns_chg {F : Nat → Prop} {w w' : World} {B e k n : Nat} {v : Value} {xs : List Value} (h : w.ownsRow B e k v n xs) (hc : Chg F w w') (hn : ∀ g, v.ownBlock = some g → ¬ F g) : w'.ownsRow B e k v n xs := by
  refine ⟨h.1, ?_⟩
  rcases h.2 with hx | ⟨g, cap, cur, rfl, hb, hgg, rest⟩
  · exact .inl hx
  · refine .inr ⟨g, cap, cur, rfl, hb, ?_, rest⟩
    rw [hc.block g (Array.getElem?_eq_some_iff.1 hgg).1 (hn g rfl)]
    exact hgg
def prows (l : List Pt) : List Value := l.flatMap pcells
theorem prows_snoc (l : List Pt) (p : Pt) : prows (l ++ [p]) = prows l ++ pcells p := by simp [prows]
theorem prows_at : ∀ (l : List Pt) (i : Nat) (p : Pt), (∀ q ∈ l, q.OK) → l[i]? = some p → ∀ j, j < 41 → (prows l)[i * 41 + j]? = (pcells p)[j]?
  | [], i, p, _, h, _, _ => by simp at h
  | q :: l, 0, p, hq, h, j, hj => by
    simp only [List.getElem?_cons_zero, Option.some.injEq] at h
    subst h
    have := pcells_length (hq q (by simp))
    show (pcells q ++ prows l)[0 * 41 + j]? = _
    rw [Nat.zero_mul, Nat.zero_add, List.getElem?_append_left (by omega)]
  | q :: l, i + 1, p, hq, h, j, hj => by
    have := pcells_length (hq q (by simp))
    have ih := prows_at l i p (fun x hx => hq x (by simp [hx])) (by simpa using h) j hj
    show (pcells q ++ prows l)[(i + 1) * 41 + j]? = _
    rw [List.getElem?_append_right (by omega), ← ih]
    congr 1
    omega
abbrev OwnM (w : World) (B : Nat) (v : Value) (l : List Pt) : Prop := w.ownsRow B 37 41 v l.length (prows l)
theorem infoPt : (Tryd.prog.info? 37).map (fun i => (i.zero.map (·.cells.size), i.size, i.bytes)) = some (some 41, 41, 56) := by kernel_rfl
theorem info_partsPt : ∃ i z, Tryd.prog.info? 37 = some i ∧ i.zero = some z ∧ z.cells.size = 41 ∧ i.size = 41 ∧ i.bytes = 56 := by
  obtain ⟨i, h1, h2⟩ := Option.map_eq_some_iff.1 infoPt
  simp only [Prod.mk.injEq] at h2
  obtain ⟨z, hz, hz2⟩ := Option.map_eq_some_iff.1 h2.1
  exact ⟨i, z, h1, hz, hz2, h2.2.1, h2.2.2⟩
theorem one_pcells (p : Pt) : ∀ u ∈ pcells p, u.oneCell' = true := fun u hu => by
  have := one_pc p
  rw [Array.all_eq_true'] at this
  exact this u (by simpa using hu)
theorem ownM_app {w : World} {B : Nat} {v : Value} {l : List Pt} (h : OwnM w B v l) (hB : B ≤ w.heap.size) (hl : l.length < 1000000) {p : Pt} (hp : p.OK) {adr : Addr} {c : Nat} (hnews : ∀ j u, (pcells p)[j]? = some u → w.cell? (adr.add j) = some u) (ty : TypeId) :
    ∃ v' w', (Builtin.append_ #[28, 28] ty #[v, .slice (some adr) 1 c]).run Tryd.prog w = .ok v' w' ∧ OwnM w' B v' (l ++ [p]) ∧ w.grownBy w' v.ownBlock ∧ (v'.ownBlock = v.ownBlock ∨ v'.ownBlock = some w.heap.size) := by
  obtain ⟨i0, z, hi, hz0, hz1, hz2, hz3⟩ := info_partsPt
  obtain ⟨v', w', hr, h2, h3, _, h5⟩ := run_append_own_at (P := Tryd.prog) w B 28 ty 37 i0 z 41 56 Tryd.underlying28 hi hz0 hz2 hz3 hz1 (by decide) v l.length (prows l) h adr 1 c (pcells p) (by rw [pcells_length hp]) hnews (one_pcells p) (by unfold maxLen; omega) (by omega) hB
  refine ⟨v', w', hr, ?_, h3, h5⟩
  unfold OwnM
  rw [prows_snoc, List.length_append]
  exact h2
/-- Pointers that lie in memory. -/
def SrcM (w : World) (v : Value) (l : List Pt) : Prop :=
  ∃ sp cap, v = .slice sp l.length cap ∧ l.length ≤ cap ∧ cap ≤ maxLen ∧ (sp = none → cap = 0) ∧ (0 < l.length → ∃ g, sp = some ⟨g, 0, none⟩ ∧ g < w.heap.size ∧ ∀ i q, l[i]? = some q → w.rangeAt g (i * 41) (pcells q))
theorem rng_below {w w' : World} {g o : Nat} {cs : List Value} (h : w.rangeAt g o cs) (hb : Below w.heap.size w w') (hg : g < w.heap.size) : w'.rangeAt g o cs := fun j v hv => by
  have := h j v hv
  rw [hb.cell (p := ⟨g, o + j, none⟩) hg]
  exact this
theorem SrcM.grown {w w' : World} {v : Value} {l : List Pt} (h : SrcM w v l) (hb : Below w.heap.size w w') : SrcM w' v l := by
  obtain ⟨sp, cap, e, h1, h2, h4, h3⟩ := h
  refine ⟨sp, cap, e, h1, h2, h4, fun h0 => ?_⟩
  obtain ⟨g, e1, hg, hr⟩ := h3 h0
  exact ⟨g, e1, Nat.lt_of_lt_of_le hg hb.size, fun i q hq => rng_below (hr i q hq) hb hg⟩
theorem OwnM.src {w : World} {B : Nat} {v : Value} {l : List Pt} (h : OwnM w B v l) (hok : ∀ q ∈ l, q.OK) : SrcM w v l := by
  rcases h.2 with ⟨rfl, hn⟩ | ⟨g, cap, cur, rfl, hb, hg, hc, hm, hs, ht⟩
  · exact ⟨none, 0, by rw [hn], by omega, by unfold maxLen; omega, fun _ => rfl, fun h0 => by omega⟩
  · have hlt : g < w.heap.size := (Array.getElem?_eq_some_iff.1 hg).1
    refine ⟨some ⟨g, 0, none⟩, cap, rfl, hc, hm, (fun e => by cases e), fun _ => ⟨g, rfl, hlt, fun i q hq j u hj => ?_⟩⟩
    have hj41 : j < 41 := by have := (List.getElem?_eq_some_iff.1 hj).1; rw [pcells_length (hok q (List.mem_of_getElem? hq))] at this; exact this
    have h1 := prows_at l i q hok hq j hj41
    rw [hj, ← ht, List.getElem?_take] at h1
    rw [if_pos (by have := (List.getElem?_eq_some_iff.1 hq).1; omega)] at h1
    have hblk : Blk w g cur.toList 37 := by unfold Blk; simpa using hg
    exact hblk.cell h1
theorem any_take {l : List Pt} {p q : Pt} {k : Nat} (h : l[k]? = some q) (h0 : (l.take k).any (fun q => eqP p q) = false) (h1 : eqP p q = false) : (l.take (k + 1)).any (fun q => eqP p q) = false := by
  rw [take_snoc h, List.any_append, h0]
  simp [h1]
theorem any_at {l : List Pt} {p q : Pt} {k : Nat} (h : l[k]? = some q) (h1 : eqP p q = true) : l.any (fun q => eqP p q) = true := List.any_eq_true.2 ⟨q, List.mem_of_getElem? h, h1⟩
def IdxS (w : World) (p : Pt) (v : Value) (l : List Pt) (X : World) : Prop := Blk X w.heap.size (pcells p) 37 ∧ SrcM X v l ∧ Below w.heap.size w X
theorem IdxS.grown {w X Y : World} {p : Pt} {v : Value} {l : List Pt} (h : IdxS w p v l X) (hb : Below X.heap.size X Y) : IdxS w p v l Y := ⟨h.1.below hb h.1.lt, h.2.1.grown hb, h.2.2.trans (hb.mono h.2.2.size)⟩
def IdxR (l : List Pt) (p : Pt) (r : Int) : Prop := (r = -1 ∧ l.any (fun q => eqP p q) = false) ∨ (0 ≤ r ∧ l.any (fun q => eqP p q) = true)
theorem q_iaP {ρ : Operand → Value} {o : Oper} {x y : Operand} {g n cap k : Nat} {w : World} (ho : o.op = .indexAddr 28 x y) (hx : ρ x = .slice (some ⟨g, 0, none⟩) n cap) (hy : ρ y = .int .i64 (k : Int)) (hk : k < n ∧ n ≤ cap) :
    (execOp ρ o).run Tryd.prog w = .ok (.value (.pointer (some ⟨g, k * 41, none⟩))) w := by
  have h1 : ¬ n ≤ k := by omega
  unfold execOp
  simp only [ho]
  go_simp
set_option maxRecDepth 100000 in
set_option maxHeartbeats 4000000 in
theorem index_any (l : List Pt) (v : Value) (p : Pt) (hp : p.OK) (hok : ∀ q ∈ l, q.OK) (hl : l.length < 1000000) (w : World) (h : SrcM w v l) : Calls Tryd.prog 54 #[v, .agg (pcells p).toArray] w fun e w' => ∃ r, e = .returned (.int .i64 r) ∧ IdxR l p r ∧ Below w.heap.size w w' := by
  have HP := Lib.hid hp; have HOK := Lib.hid hok; have HL := Lib.hid hl; have HLP := Lib.hid (pcells_length hp)
  have hb0 : Below w.heap.size w (w.alloc (.cells (pcells p).toArray 37)) := (Below.refl _ _).alloc (Nat.le_refl _) _
  have HS : Hid (IdxS w p v l (w.alloc (.cells (pcells p).toArray 37))) := Lib.hid ⟨Blk.new _ _ _, h.grown hb0, hb0⟩
  obtain ⟨sp, cap, rfl, hc, hm, -, hr⟩ := h
  obtain ⟨N, hN⟩ : ∃ N, l.length = N := ⟨_, rfl⟩
  rw [hN] at HS hc hr ⊢
  have HN := Lib.hid hN; have HC := Lib.hid hc; have HR := Lib.hid hr; have HN2 : Hid (N < 1000000) := Lib.hid (by omega)
  clear hp hok hl hb0 hc hm hr hN
  go_enter Tryd.func54, Tryd.ntmps54
  go_wp2_with fail
  generalize (w.alloc (.cells (pcells p).toArray 37)) = W0 at HS ⊢
  go_loopw [8] (fun i wr => ∃ k : Nat, k ≤ N ∧ i = .int .i64 (k : Int) ∧ (l.take k).any (fun q => eqP p q) = false ∧ IdxS w p (.slice sp N cap) l wr) (fun i _ => N - (intOf i).toNat)
  case atStart => exact ⟨0, by omega, rfl, by simp, HS.out⟩
  case round =>
    clear HS
    obtain ⟨k, hk, rfl, hno, hs⟩ := hrel
    have HNO := Lib.hid hno; have HS := Lib.hid hs
    clear hno hs
    have wk1 := IntWalk.i64_in ((k : Int) + 1) (by have := HN2.out; omega)
    by_cases hlt : k < N
    · obtain ⟨q, hq⟩ : ∃ q, l[k]? = some q := ⟨_, List.getElem?_eq_getElem (by have := HN.out; omega)⟩
      obtain ⟨g, rfl, hg, -⟩ := HR.out (by omega)
      have HQ : Hid q.OK := Lib.hid (HOK.out q (List.mem_of_getElem? hq))
      have HLQ := Lib.hid (pcells_length HQ.out)
      have HRG : Hid (∀ X, IdxS w p (.slice (some ⟨g, 0, none⟩) N cap) l X → X.rangeAt g (k * 41) (pcells q)) := Lib.hid (fun X hX => by
        obtain ⟨sp', cap', e, _, _, _, h3⟩ := hX.2.1
        obtain ⟨g', e2, _, h4⟩ := h3 (by have := HN.out; omega)
        injection e with e3 _ _
        rw [e2] at e3
        injection e3 with e4
        injection e4 with e5 _ _
        rw [e5]
        exact h4 k q hq)
      have HKN : Hid (k < N ∧ N ≤ cap) := Lib.hid ⟨hlt, HC.out⟩
      have HQK := Lib.hid hq
      clear hg hq
      go_upto_region 4 with fail
      refine wp_region_sched (.take 0 (.take 1 (.take 2 (.take 3 (.take 4 (.take 5 (.nil))))))) (by kernel_rfl) (by kernel_rfl) (fun d _ _ _ _ h => by cases d <;> exact h) (IdxS w p (.slice (some ⟨g, 0, none⟩) N cap) l) (HS.out.grown (Below.refl _ _).drew) ?_
      refine wpG_take _ (.agg (pcells p).toArray) rfl (by rfl) (fun X hX => ex_ld (ty := 37) (cs := pcells p) rfl rfl (rng_all hX.1) Tryd.underlying37 rfl (by rw [sizeP, HLP.out])) ?_
      (try simp only [Act.put, List.setIfInBounds_toArray, List.set_cons_zero, List.set_cons_succ])
      refine wpG_take _ (.slice (some ⟨g, 0, none⟩) N cap) rfl (by rfl) (fun X hX => by first | rfl | go_simp) ?_
      (try simp only [Act.put, List.setIfInBounds_toArray, List.set_cons_zero, List.set_cons_succ])
      refine wpG_take _ (.int .i64 (k : Int)) rfl (by rfl) (fun X hX => by first | rfl | go_simp) ?_
      (try simp only [Act.put, List.setIfInBounds_toArray, List.set_cons_zero, List.set_cons_succ])
      refine wpG_take _ (.pointer (some ⟨g, k * 41, none⟩)) rfl (by rfl) (fun X hX => q_iaP rfl rfl rfl HKN.out) ?_
      (try simp only [Act.put, List.setIfInBounds_toArray, List.set_cons_zero, List.set_cons_succ])
      refine wpG_take _ (.agg (pcells q).toArray) rfl (by rfl) (fun X hX => ex_ld (ty := 37) (cs := pcells q) rfl rfl (HRG.out X hX) Tryd.underlying37 rfl (by rw [sizeP, HLQ.out])) ?_
      (try simp only [Act.put, List.setIfInBounds_toArray, List.set_cons_zero, List.set_cons_succ])
      refine wpG_take _ (.bool (eqP p q)) rfl (by rfl) (fun X hX => ex_eqP rfl rfl rfl HP.out HQ.out) ?_
      (try simp only [Act.put, List.setIfInBounds_toArray, List.set_cons_zero, List.set_cons_succ])
      refine wpG_nil ?_
      cases hcase : eqP p q with
      | false =>
        have HN3 : Hid ((l.take (k + 1)).any (fun q => eqP p q) = false) := Lib.hid (any_take HQK.out HNO.out hcase)
        go_wp2_with fail
        go_roundw
        case rel => exact ⟨k + 1, by omega, by go_num, HN3.out, HS.out.grown (Below.refl _ _).drew⟩
        case measure => simp [intOf]; omega
      | true =>
        have HN3 : Hid (l.any (fun q => eqP p q) = true) := Lib.hid (any_at HQK.out hcase)
        go_wp2_with fail
        go_ret
        exact ⟨_, rfl, .inr ⟨by omega, HN3.out⟩, (HS.out.grown (Below.refl _ _).drew).2.2⟩
    · obtain rfl : k = N := by omega
      have HN3 : Hid (l.any (fun q => eqP p q) = false) := Lib.hid (by have := HNO.out; rw [List.take_of_length_le (by have := HN.out; omega)] at this; exact this)
      go_wp2_with fail
      go_ret
      exact ⟨_, rfl, .inl ⟨rfl, HN3.out⟩, HS.out.2.2⟩
set_option maxRecDepth 100000 in
set_option maxHeartbeats 4000000 in
theorem contains_any (l : List Pt) (v : Value) (p : Pt) (hp : p.OK) (hok : ∀ q ∈ l, q.OK) (hl : l.length < 1000000) (w : World) (h : SrcM w v l) : Calls Tryd.prog 40 #[v, .agg (pcells p).toArray] w fun e w' => e = .returned (.bool (l.any (fun q => eqP p q))) ∧ Below w.heap.size w w' := by
  have hb0 : Below w.heap.size w (w.alloc (.cells (pcells p).toArray 37)) := (Below.refl _ _).alloc (Nat.le_refl _) _
  have HS : Hid (IdxS w p v l (w.alloc (.cells (pcells p).toArray 37))) := Lib.hid ⟨Blk.new _ _ _, h.grown hb0, hb0⟩
  have HZ : Hid ((Tryd.prog.info? 37).map (·.size) = some (pcells p).toArray.size) := Lib.hid (size_pc hp)
  obtain ⟨m, hm⟩ : ∃ m, l.any (fun q => eqP p q) = m := ⟨_, rfl⟩
  rw [hm]
  have HM := Lib.hid hm; have HP := Lib.hid hp; have HOK := Lib.hid hok; have HL := Lib.hid hl
  obtain ⟨sp, cap, rfl, -⟩ := h
  clear hb0 hm hp hok hl
  go_enter Tryd.func40, Tryd.ntmps40
  go_upto_region 1 with fail
  generalize (w.alloc (.cells (pcells p).toArray 37)) = W0 at HS ⊢
  have HG : Hid (W0.heap[w.heap.size]? = some (.cells (pcells p).toArray 37 (0, 0))) := Lib.hid HS.out.1
  go_wp2_with (first | (refine wpList_load_row rfl 37 (.tmp 3) rfl w.heap.size rfl 37 _ _ _ HG.out Tryd.underlying37 rfl HZ.out ?_) | fail)
  refine (index_any l _ p HP.out HOK.out HL.out W0 HS.out.2.1).mono ?_
  rintro e w' ⟨r, rfl, hr, hb⟩
  have HB : Hid (Below w.heap.size w w') := Lib.hid (HS.out.2.2.trans (hb.mono HS.out.2.2.size))
  rcases hr with ⟨rfl, hr⟩ | ⟨h0, hr⟩
  · obtain rfl : m = false := by rw [← HM.out]; exact hr
    clear hb hr
    go_wp2_with fail
    go_ret
    exact ⟨rfl, HB.out⟩
  · obtain rfl : m = true := by rw [← HM.out]; exact hr
    clear hb hr
    go_wp2_with fail
    go_ret
    exact ⟨rfl, HB.out⟩
end Go.Proofs.YtfcjeceoedfldaaDoor
/- The document's digest of a pointer's tag and a block. -/
namespace Go.Proofs.YtfcjeceoedfldaaDoor
open Go.RowKit

theorem padB_tag (p : Pt) : (padB p).take 16 = tagB p := by
  unfold padB bodyB
  rw [List.append_assoc, List.append_assoc, List.take_left' (tagB_length p)]
theorem SrcA.take {w : World} {sp : Option Addr} {bs : Bs} (h : SrcA w sp bs) (n : Nat) : SrcA w sp (bs.take n) := fun h0 => by
  obtain ⟨g, o, e, hg, hc⟩ := h (by simp at h0; omega)
  refine ⟨g, o, e, hg, fun j hj => ?_⟩
  have hj2 : j < n ∧ j < bs.length := by simp at hj; omega
  rw [hc j hj2.2]
  simp [List.getD_eq_getElem?_getD, hj2.1]
structure QdW (p : Pt) (w : World) (W : World) : Prop where
  box : Blk W w.heap.size (pcells p) 37
  res : Blk W (w.heap.size + 1) (List.replicate 32 (Value.int .u8 0)) 34
  bel : Below w.heap.size w W
theorem QdW.grown {p : Pt} {w W W' : World} (h : QdW p w W) {B : Nat} (hb : Below B W W') (h1 : w.heap.size + 2 ≤ B) : QdW p w W' :=
  ⟨h.box.below hb (by omega), h.res.below hb (by omega), h.bel.trans (hb.mono (by omega))⟩
theorem qdw_start (p : Pt) (w : World) (z : Array Value) (hz : z = (List.replicate 32 (Value.int .u8 0)).toArray) : QdW p w ((w.alloc (.cells (pcells p).toArray 37)).alloc (.cells z 34)) := by
  subst hz
  exact ⟨(Blk.new _ _ _).alloc _, Blk.new' _ _ _ _ _ (by simp) rfl, ((Below.refl _ _).alloc (Nat.le_refl _) _).alloc (by simp) _⟩
set_option maxRecDepth 100000 in
set_option maxHeartbeats 4000000 in
theorem qdigest_any (p : Pt) (hp : p.OK) (bs : Bs) (sp : Option Addr) (cap : Nat) (w : World) (hl : bs.length ≤ 4000) (hz : sp = none → cap = 0) (hS : SrcA w sp bs) :
    Calls Tryd.prog 95 #[.agg (pcells p).toArray, .slice sp bs.length cap] w fun e w' => e = .returned (.agg ((digest (tagB p ++ bs)).map V8).toArray) ∧ Below w.heap.size w w' := by
  have HP := Lib.hid hp
  have HS := Lib.hid hS
  have HLP := Lib.hid (pcells_length hp)
  have HSD := Lib.hid (size24d (tagB p ++ bs))
  have HDL : Hid (((List.replicate 32 (Value.int .u8 0)).toArray).size = ((digest (tagB p ++ bs)).map V8).toArray.size) := Lib.hid (by simp [digest_length])
  obtain ⟨L, hL⟩ : ∃ L, bs.length = L := ⟨_, rfl⟩
  have HL := Lib.hid hL
  have HLL : Hid (L ≤ 4000) := Lib.hid (by omega)
  have HZ := Lib.hid hz
  rw [hL]
  clear hp hS hl hz hL
  go_enter Tryd.func95, Tryd.ntmps95
  go_upto_region 1 with fail
  refine (fun (k : ∀ W, QdW p w W → W.heap.size = w.heap.size + 2 → Code.wp _ _ _ _ W) => k _ (qdw_start p w _ rfl) (by simp)) ?_
  intro W1 hW1 hs1
  have HW1 := Lib.hid hW1
  have HS1 := Lib.hid hs1
  clear hW1 hs1
  go_wp2_with (first | (refine wpL_val rfl (ex_ld (ty := 37) (cs := pcells p) rfl rfl (rng_all HW1.out.box) Tryd.underlying37 rfl (by rw [sizeP, HLP.out])) ?_) | fail)
  refine (qbytes_any p HP.out W1).mono ?_
  rintro e2 W2 ⟨v2, rfl, ho2, hb2⟩
  obtain ⟨sp2, cap2, e, q1, q2, q3, q4, q5⟩ := OwnB.form ho2
  rw [padB_length HP.out] at e q1
  subst e
  have HW2 := Lib.hid (HW1.out.grown hb2 (by rw [HS1.out]; exact Nat.le_refl _))
  have h2s := hb2.size
  have h1s := HS1.out
  have hS2 := q3.take 16
  rw [padB_tag] at hS2
  obtain ⟨v3, w3, hr3, ho3, hb3⟩ := ownB_src (m := tagB p) (l := []) (w := W2) (B := W2.heap.size) (World.ownsRow_nil _ _ _ _) (Nat.le_refl _) (by simp [tagB_length]) hS2 q4 41
  rw [tagB_length] at hr3
  rw [List.nil_append] at ho3
  have hS3 := (HS.out.below HW2.out.bel (Nat.le_refl _)).below hb3 (Nat.le_refl _)
  obtain ⟨v4, w4, hr4, ho4, hb4⟩ := ownB_src (m := bs) (l := tagB p) (w := w3) (B := W2.heap.size) ho3 hb3.size (by have := HLL.out; have := HL.out; simp [tagB_length]; omega) hS3 HZ.out 41
  rw [HL.out] at hr4
  obtain ⟨sp4, cap4, e4, s1, s2, s3, s4, s5⟩ := OwnB.form ho4
  have HR3 := Lib.hid hr3
  have HR4 := Lib.hid hr4
  have HW4 := Lib.hid (HW2.out.grown (hb3.trans hb4) (by omega))
  have hsum := refSum_any (tagB p ++ bs) sp4 cap4 w4 (by have := HLL.out; have := HL.out; simp [tagB_length]; omega) s1 s4 s3
  have hlen : (tagB p ++ bs).length = 16 + L := by rw [List.length_append, tagB_length, HL.out]
  rw [hlen] at hsum e4
  have HSUM := Lib.hid hsum
  have hsl : ∀ W : World, (Instr.sliceAt 41 (.slice sp2 64 cap2) none (some (.int .i64 16)) none).run Tryd.prog W = .ok (.slice sp2 16 cap2) W := sliceTo sp2 64 cap2 16 (by omega)
  obtain ⟨sp3, cap3, e3, _⟩ := OwnB.form ho3
  rw [tagB_length] at e3
  subst e3 e4
  clear ho2 hb2 q1 q2 q3 q4 q5 h2s h1s hS2 hr3 ho3 hb3 hS3 hr4 ho4 hb4 s1 s2 s3 s4 s5 hsum HW1 HW2 hlen
  go_wp2_with (first | (at_builtin; refine wpL_val rfl (ex_appB rfl rfl rfl HR3.out) ?_) | (at_builtin; refine wpL_val rfl (ex_appB rfl rfl rfl HR4.out) ?_) | (go_at_call 96; refine HSUM.out.mono ?_; rintro e5 w5 ⟨rfl, hb5⟩; have HW5 := Lib.hid (HW4.out.grown hb5 (by have := HW4.out.res.lt; omega)); clear hb5; have HRS := Lib.hid HW5.out.res) | (refine wpList_store_row rfl 34 (.tmp 4) (.tmp 11) rfl (w.heap.size + 1) _ rfl rfl 34 _ HRS.out HSD.out HDL.out (one_ints V8 (fun _ => rfl) _) ?_) | fail)
  exact bodyPost_ret (results_cell_row Tryd.results95 _ _ (w.heap.size + 1) 34 _ _ _ rfl (HRS.out.row _) Tryd.underlying34 rfl HSD.out) rfl ⟨rfl, below_row HW5.out.bel (by omega) _⟩
end Go.Proofs.YtfcjeceoedfldaaDoor
/- What the rows need: bytes that came in, opened. -/
namespace Go.Proofs.YtfcjeceoedfldaaDoor
open Go.ChangeShapes Go.WideShapes Go.ChangeAt Go.RowKit

theorem own : ownKnob Tryd.prog.godebug = none := by kernel_rfl
theorem laidOut : laidOutB Tryd.prog = true := by kernel_rfl
theorem cellsB : Tryd.prog.cellsOf 5 = 1 := by kernel_rfl
theorem lt_of_cell {w : World} {g o : Nat} {v : Value} (h : w.cell? ⟨g, o, none⟩ = some v) : g < w.heap.size := by
  rcases Nat.lt_or_ge g w.heap.size with h1 | h1
  · exact h1
  · simp [World.cell?, Array.getElem?_eq_none h1] at h
end Go.Proofs.YtfcjeceoedfldaaDoor
/- Pointers that came in; the tables as they are laid. -/
namespace Go.Proofs.YtfcjeceoedfldaaDoor
open Go.ChangeShapes Go.WideShapes Go.ChangeAt Go.WideMaps Go.WideElems Go.RowKit

theorem tRu : (Tryd.prog.globals[0]?).map (·.type) = some 91 := by kernel_rfl
theorem cellsRu : Tryd.prog.cellsOf 82 = 3 := by kernel_rfl
theorem cellsRus : Tryd.prog.cellsOf 91 = 18 := by kernel_rfl
theorem cellsInt : Tryd.prog.cellsOf 3 = 1 := by kernel_rfl
section
variable {H : Type} {enc : TypeId × Value → H} {W : World} {spare : Nat → Bool} {held : Bool} {b' : Nat}
set_option maxRecDepth 100000 in
theorem open_u8 {b : Nat} {v : Value} {d : DataW H} {p : List MemPlace} (ho : Value.okWide Tryd.prog W .any b 5 v) (h : DataW.Trod enc Tryd.prog W b' spare held 5 v d p) : ∃ m : Nat, m < 256 ∧ v = .int .u8 (m : Int) := by
  obtain ⟨z, e, _, _, hw⟩ := open_int Tryd.underlying5 ho h
  have hb := bounds_u8 hw
  exact ⟨z.toNat, by omega, by rw [e, show ((z.toNat : Nat) : Int) = z by omega]⟩
theorem three {α : Type} : ∀ cs : List α, cs.length = 3 → ∃ a b c, cs = [a, b, c]
  | [a, b, c], _ => ⟨a, b, c, rfl⟩
set_option maxRecDepth 100000 in
theorem trod_rule {fuel : Nat} {cs : List Value} {x : DataW H × List MemPlace} (h : DataW.trod enc Tryd.prog W b' spare held fuel 82 cs = some x) : ∃ a b c, cs = [.int .i64 a, .int .u8 b, .int .u8 c] ∧ x.1 = .agg [.lit (.int .i64 a), .lit (.int .u8 b), .lit (.int .u8 c)] := by
  obtain ⟨xs, k, _, rfl, hl, hxl, hfl⟩ := DataW.trod_struct Tryd.underlying82 h
  rw [cellsRu] at hl
  obtain ⟨c0, c1, c2, rfl⟩ := three cs hl
  match xs, hxl with
  | [y0, y1, y2], _ =>
    have g0 := hfl 0 _ rfl
    have g1 := hfl 1 _ rfl
    have g2 := hfl 2 _ rfl
    simp [cellsB, cellsInt] at g0 g1 g2
    obtain ⟨z0, e0, f0, _⟩ := DataW.trod_int Tryd.underlying3 g0
    obtain ⟨z1, e1, f1, _⟩ := DataW.trod_int Tryd.underlying5 g1
    obtain ⟨z2, e2, f2, _⟩ := DataW.trod_int Tryd.underlying5 g2
    refine ⟨z0, z1, z2, ?_, ?_⟩
    · simp at e0 e1 e2
      rw [e0, e1, e2]
    · rw [f0, f1, f2]; rfl
theorem cut18 (cs : List Value) (hl : cs.length = 18) : cs = cs.take 3 ++ ((cs.drop 3).take 3 ++ ((cs.drop 6).take 3 ++ ((cs.drop 9).take 3 ++ ((cs.drop 12).take 3 ++ (cs.drop 15).take 3)))) := by
  have g : ∀ n m, (cs.drop n).take m ++ cs.drop (n + m) = cs.drop n := fun n m => by rw [← List.drop_drop, List.take_append_drop]
  have h1 : (cs.drop 15).take 3 = cs.drop 15 := List.take_of_length_le (by simp [hl])
  rw [h1, g 12 3, g 9 3, g 6 3, g 3 3, List.take_append_drop]
set_option maxRecDepth 100000 in
theorem trod_rules {fuel : Nat} {cs : List Value} {x : DataW H × List MemPlace} (h : DataW.trod enc Tryd.prog W b' spare held fuel 91 cs = some x) (hx : x.1 = Rows.laid_kintsugi_ptr_rules) : cs = (List.range 6).flatMap rcell := by
  obtain ⟨xs, m, rfl, rfl, hl, hn, hel⟩ := DataW.trod_array Tryd.underlying91 h
  rw [cellsRus] at hl
  rw [cellsRu] at hel
  match xs, hn with
  | [y0, y1, y2, y3, y4, y5], _ =>
    obtain ⟨a0, b0, c0, e0, f0⟩ := trod_rule (x := y0) (hel 0 (by omega))
    obtain ⟨a1, b1, c1, e1, f1⟩ := trod_rule (x := y1) (hel 1 (by omega))
    obtain ⟨a2, b2, c2, e2, f2⟩ := trod_rule (x := y2) (hel 2 (by omega))
    obtain ⟨a3, b3, c3, e3, f3⟩ := trod_rule (x := y3) (hel 3 (by omega))
    obtain ⟨a4, b4, c4, e4, f4⟩ := trod_rule (x := y4) (hel 4 (by omega))
    obtain ⟨a5, b5, c5, e5, f5⟩ := trod_rule (x := y5) (hel 5 (by omega))
    simp only [List.map_cons, List.map_nil, f0, f1, f2, f3, f4, f5, Rows.laid_kintsugi_ptr_rules, DataW.agg.injEq, List.cons.injEq, DataW.lit.injEq, Lit.int.injEq, true_and, and_true] at hx
    rw [cut18 cs hl]
    simp only [Nat.zero_mul, List.drop_zero] at e0
    rw [e0, e1, e2, e3, e4, e5]
    obtain ⟨⟨rfl, rfl, rfl⟩, ⟨rfl, rfl, rfl⟩, ⟨rfl, rfl, rfl⟩, ⟨rfl, rfl, rfl⟩, ⟨rfl, rfl, rfl⟩, ⟨rfl, rfl, rfl⟩⟩ := hx
    rfl
end
theorem row_of {W : World} {n : String} {g : Nat} {cs : Array Value} (hg : Tryd.prog.globalNamed n = some g) (hv : W.var? Tryd.prog n = some cs) : ∃ t fr, W.heap[g]? = some (.cells cs t fr) := by
  unfold World.var? at hv
  rw [hg] at hv
  simp only [Option.bind_some] at hv
  split at hv
  · rename_i cs' t fr hh
    obtain rfl := Option.some.inj hv
    exact ⟨t, fr, hh⟩
  · cases hv
end Go.Proofs.YtfcjeceoedfldaaDoor
