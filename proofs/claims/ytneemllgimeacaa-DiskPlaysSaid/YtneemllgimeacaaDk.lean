/- A disk as plain data, and the memory that holds it. -/
import Derived.Test.YtneemllgimeacaaSl
import Derived.Maps.OwnSet
import Derived.Maps.Views
import Derived.OpenShut
namespace Go.Proofs.Ytneemllgimeacaa
open Go.RowKit

abbrev Bs := List (BitVec 8)
def zeros : Bs := List.replicate 512 0
theorem zeros_length : zeros.length = 512 := List.length_replicate

/-- All but the blocks of F is as it was. -/
structure Chg (F : Nat → Prop) (w w' : World) : Prop where
  os : w'.os = w.os
  tape : w'.tape = w.tape
  output : w'.output = w.output
  size : w.heap.size ≤ w'.heap.size
  block : ∀ k, k < w.heap.size → ¬ F k → w'.heap[k]? = w.heap[k]?
theorem Chg.refl (F : Nat → Prop) (w : World) : Chg F w w := ⟨rfl, rfl, rfl, Nat.le_refl _, fun _ _ _ => rfl⟩
theorem Chg.trans {F G : Nat → Prop} {a b c : World} (h : Chg F a b) (k : Chg G b c) (hG : ∀ i, G i → F i ∨ a.heap.size ≤ i) : Chg F a c :=
  ⟨k.os.trans h.os, k.tape.trans h.tape, k.output.trans h.output, Nat.le_trans h.size k.size, fun i hi hn => (k.block i (Nat.lt_of_lt_of_le hi h.size) (fun hg => by rcases hG i hg with h1 | h1; exact hn h1; omega)).trans (h.block i hi hn)⟩
theorem Chg.trans' {F : Nat → Prop} {a b c : World} (h : Chg F a b) (k : Chg F b c) : Chg F a c := h.trans k (fun _ h => .inl h)
theorem Chg.mono {F G : Nat → Prop} {a b : World} (h : Chg F a b) (hG : ∀ i, F i → G i) : Chg G a b := (Chg.refl G a).trans h (fun i hi => .inl (hG i hi))
theorem Chg.of_below {F : Nat → Prop} {a b : World} (h : Below a.heap.size a b) : Chg F a b := ⟨h.os, h.tape, h.output, h.size, fun k hk _ => h.block k hk⟩
theorem Chg.below {F : Nat → Prop} {a b : World} (h : Chg F a b) {B : Nat} (hF : ∀ k, F k → B ≤ k) (hB : B ≤ a.heap.size) : Below B a b := ⟨h.os, h.tape, h.output, h.size, fun k hk => h.block k (by omega) (fun hf => by have := hF k hf; omega)⟩
theorem Chg.drew {F : Nat → Prop} {a b : World} (h : Chg F a b) : Chg F a b.drew := ⟨h.os, h.tape, h.output, h.size, h.block⟩
theorem Chg.alloc {F : Nat → Prop} {a b : World} (h : Chg F a b) (o : Obj) : Chg F a (b.alloc o) := h.trans' (Chg.of_below ((Below.refl _ _).alloc (Nat.le_refl _) o))
theorem Chg.setRow {F : Nat → Prop} {a b : World} (h : Chg F a b) {g : Nat} (hg : F g ∨ a.heap.size ≤ g) (c : Array Value) : Chg F a (b.setRow g c) :=
  h.trans (G := fun k => k = g) ⟨rfl, rfl, rfl, by simp, fun k _ hn => setRow_other b g k c hn⟩ (fun i hi => by subst hi; exact hg)
theorem Chg.setCell {F : Nat → Prop} {a b : World} (h : Chg F a b) {g : Nat} (hg : F g ∨ a.heap.size ≤ g) (j : Nat) (v : Value) : Chg F a (b.setCell ⟨g, j, none⟩ v) :=
  h.trans (G := fun k => k = g) ⟨rfl, rfl, rfl, by simp [World.setCell], fun k _ hn => Below.heap_setCell _ _ _ _ hn⟩ (fun i hi => by subst hi; exact hg)
theorem Chg.grown {F : Nat → Prop} {a b c : World} (h : Chg F a b) {r : Option Nat} (hg : b.grownBy c r) (hr : ∀ k, r = some k → F k ∨ a.heap.size ≤ k) : Chg F a c :=
  h.trans (G := fun k => some k = r) ⟨hg.os, hg.tape, hg.output, hg.size, fun k hk hn => hg.block k hk hn⟩ (fun i hi => hr i hi.symm)
theorem Blk.chg {F : Nat → Prop} {w w' : World} {g : Nat} {cs : List Value} {t : TypeId} (h : Blk w g cs t) (hc : Chg F w w') (hn : ¬ F g) : Blk w' g cs t := by
  unfold Blk; rw [hc.block g h.lt hn]; exact h
theorem Blk.same {w : World} {g : Nat} {cs cs' : List Value} {t t' : TypeId} (h : Blk w g cs t) (h' : Blk w g cs' t') : t = t' := by
  unfold Blk at h h'; rw [h] at h'; cases h'; rfl

/-- What an address has. -/
structure Bk where
  b : Bs
  bad : Bool
  stuck : Bool
theorem Bk.ext' {x y : Bk} (h1 : x.b = y.b) (h2 : x.bad = y.bad) (h3 : x.stuck = y.stuck) : x = y := by cases x; cases y; simp_all
def blank : Bk := ⟨zeros, false, false⟩
def bcells (k : Bk) : List Value := k.b.map V8 ++ [Value.bool k.bad, Value.bool k.stuck]
def BV (k : Bk) : Value := .agg (bcells k).toArray
def DT (k : Bk) : DataW Unit := .agg [.lit (.string (bstr k.b).data.toList), .lit (.bool k.bad), .lit (.bool k.stuck)]
theorem v8_inj {l m : Bs} (h : l.map V8 = m.map V8) : l = m := by
  refine (List.map_inj_right (f := V8) fun x y hxy => ?_).1 h
  simp at hxy
  exact n8_inj hxy
theorem BV_inj {k k' : Bk} (h : k.b.length = 512) (h' : k'.b.length = 512) (e : BV k = BV k') : k = k' := by
  unfold BV at e
  have e0 : bcells k = bcells k' := by
    have := Value.agg.inj e
    simpa using congrArg Array.toList this
  unfold bcells at e0
  have := List.append_inj e0 (by simp [h, h'])
  obtain ⟨e1, e2⟩ := this
  simp at e2
  exact Bk.ext' (v8_inj e1) e2.1 e2.2
theorem DT_inj {k k' : Bk} (e : DT k = DT k') : k = k' := by
  unfold DT at e
  simp only [DataW.agg.injEq, List.cons.injEq, DataW.lit.injEq, Lit.string.injEq, Lit.bool.injEq, and_true] at e
  refine Bk.ext' (bstr_inj _ _ ?_) e.2.1 e.2.2
  exact ByteArray.ext (Array.toList_inj.1 e.1)
open Classical in
noncomputable def RB (v : Value) : Option (DataW Unit × List MemPlace) :=
  if h : ∃ k : Bk, k.b.length = 512 ∧ v = BV k then some (DT h.choose, []) else none
theorem RB_mk {k : Bk} (h : k.b.length = 512) : RB (BV k) = some (DT k, []) := by
  have hx : ∃ k' : Bk, k'.b.length = 512 ∧ BV k = BV k' := ⟨k, h, rfl⟩
  unfold RB
  rw [dif_pos hx]
  rw [← BV_inj h hx.choose_spec.1 hx.choose_spec.2]
theorem RB_inv {v : Value} {z : DataW Unit × List MemPlace} (h : RB v = some z) : ∃ k : Bk, k.b.length = 512 ∧ v = BV k ∧ z = (DT k, []) := by
  unfold RB at h
  split at h
  · rename_i hx
    cases h
    exact ⟨_, hx.choose_spec.1, hx.choose_spec.2, rfl⟩
  · cases h

theorem zero89 (w : World) : (zeroValue 89).run Try.prog w = .ok (BV blank) w := by kernel_rfl
theorem keyed41 : Maps.Keyed Try.prog 41 := Maps.int_keyed Try.underlying41
def Upd (m : Nat → Bk) (a : Nat) (k : Bk) : Nat → Bk := fun x => if x = a then k else m x

theorem len_of_nodup {l m : List Int} (hd : l.Pairwise (· ≠ ·)) (hs : ∀ x ∈ l, x ∈ m) : l.length ≤ m.length := by
  induction l generalizing m with
  | nil => simp
  | cons x l ih =>
    obtain ⟨h1, h2⟩ := List.pairwise_cons.1 hd
    have hx : x ∈ m := hs x (by simp)
    have := ih (m := m.erase x) h2 (fun y hy => (List.mem_erase_of_ne (fun e => h1 y hy e.symm)).2 (hs y (by simp [hy])))
    have hlen := List.length_erase_of_mem hx
    have hpos : 0 < m.length := List.length_pos_of_mem hx
    simp only [List.length_cons]
    omega
theorem owns_bound {w : World} {M n : Nat} {D : DataW Unit} (h : w.ownsMap Try.prog 41 RB M n D) : w.ownsMap Try.prog 41 RB M 65536 D := by
  obtain ⟨es, clock, hb, F, hs, hD⟩ := h
  refine ⟨es, clock, hb, F, ?_, hD⟩
  have hn : es.toList.Pairwise (fun x y => x.key ≠ y.key) := ((Go.MapKept.stamped_iff es clock).1 F.stamped).2.2
  have hk : ∀ x ∈ es.toList, ∃ a : Int, x.key = .int .u16 a ∧ 0 ≤ a ∧ a < 65536 := by
    intro x hx
    obtain ⟨y, hy⟩ := F.reads x hx
    have h1 := Go.WideElems.rd_key hy
    generalize x.key = kv at h1
    cases kv <;> simp [keyOf, Try.underlying41, mapKey] at h1
    rename_i q a
    obtain ⟨⟨rfl, hw⟩, _⟩ := h1
    refine ⟨a, rfl, ?_⟩
    have := bounds_u16 hw
    omega
  have hl := len_of_nodup (l := es.toList.map (fun x => match x.key with | .int _ a => a | _ => 0)) (m := (List.range 65536).map (fun i : Nat => (i : Int))) (by
    rw [List.pairwise_map]
    refine (List.Pairwise.imp_of_mem (R := fun x y => x.key ≠ y.key) ?_ hn)
    intro x y hx hy hne e
    obtain ⟨a, ha, _⟩ := hk x hx
    obtain ⟨b, hb, _⟩ := hk y hy
    rw [ha, hb] at hne e
    simp only at e
    exact hne (by rw [e])) (by
    intro z hz
    obtain ⟨x, hx, rfl⟩ := List.mem_map.1 hz
    obtain ⟨a, ha, h0, h1⟩ := hk x hx
    rw [ha]
    exact List.mem_map.2 ⟨a.toNat, by simp; omega, by simp; omega⟩)
  simpa using hl

/-- Block M is a map of what the addresses have. -/
def MapAt (w : World) (M : Nat) (m : Nat → Bk) : Prop :=
  ∃ D : DataW Unit, w.ownsMap Try.prog 41 RB M 65536 D ∧ (∀ a : Nat, a < 65536 → D.atKey (.int .u16 a) (DT blank) = DT (m a)) ∧ ∀ a, (m a).b.length = 512
theorem MapAt.lt {w : World} {M : Nat} {m : Nat → Bk} (h : MapAt w M m) : M < w.heap.size := by obtain ⟨_, h, _⟩ := h; exact h.lt
theorem MapAt.noBlk {w : World} {M : Nat} {m : Nat → Bk} (h : MapAt w M m) {cs : List Value} {t : TypeId} : ¬ Blk w M cs t := by
  obtain ⟨_, ⟨es, c, hb, _⟩, _⟩ := h
  unfold Blk
  rw [hb]
  intro e; cases e
theorem MapAt.kept {w w' : World} {M : Nat} {m : Nat → Bk} (h : MapAt w M m) (hb : w'.heap[M]? = w.heap[M]?) : MapAt w' M m := by
  obtain ⟨D, ⟨es, c, h1, h2⟩, h3⟩ := h
  exact ⟨D, ⟨es, c, hb.trans h1, h2⟩, h3⟩
theorem MapAt.chg {F : Nat → Prop} {w w' : World} {M : Nat} {m : Nat → Bk} (h : MapAt w M m) (hc : Chg F w w') (hn : ¬ F M) : MapAt w' M m := h.kept (hc.block M h.lt hn)
theorem MapAt.made (w : World) : MapAt (w.alloc (.map #[] 0)) w.heap.size (fun _ => blank) :=
  ⟨.map [], (World.ownsMap_made w _ _ _).mono (Nat.zero_le _), fun _ _ => rfl, fun _ => zeros_length⟩
theorem wf16 {a : Nat} (h : a < 65536) : (Lit.int .u16 (a : Int)).wf = true := by
  simp [Lit.wf, IntKind.min, IntKind.max, IntKind.signed, IntKind.bits]; omega
theorem MapAt.look {w : World} {M a : Nat} {m : Nat → Bk} (h : MapAt w M m) (ha : a < 65536) : (Instr.lookup 72 (.map (some M)) (.int .u16 (a : Int)) false).run Try.prog w = .ok (BV (m a)) w := by
  obtain ⟨D, h1, h2, h3⟩ := h
  obtain ⟨v, ps, hrun, hv⟩ := h1.lookup keyed41 Try.underlying72 (zero89 w) (RB_mk zeros_length) (Maps.keyOf_int_mk Try.underlying41 (wf16 ha))
  obtain ⟨k, hk, rfl, hz⟩ := RB_inv hv
  rw [h2 a ha] at hz
  simp only [Prod.mk.injEq] at hz
  rw [hrun, ← DT_inj hz.1]
theorem MapAt.put {w : World} {M a : Nat} {m : Nat → Bk} (h : MapAt w M m) (ha : a < 65536) {k : Bk} (hk : k.b.length = 512) :
    ∃ w', (Instr.mapUpdate 72 (.map (some M)) (.int .u16 (a : Int)) (BV k)).run Try.prog w = .ok () w' ∧ MapAt w' M (Upd m a k) ∧ w.grownBy w' (some M) := by
  obtain ⟨D, h1, h2, h3⟩ := h
  obtain ⟨w', hrun, ho, hg⟩ := h1.update keyed41 Try.underlying72 (by unfold maxLen; omega) (Maps.keyOf_int_mk Try.underlying41 (wf16 ha)) (RB_mk hk)
  have hm : Maps.IsMap D := by obtain ⟨es, c, _, _, _, rfl⟩ := h1; exact ⟨_, rfl⟩
  refine ⟨w', hrun, ⟨_, owns_bound ho, fun x hx => ?_, fun x => ?_⟩, hg⟩
  · unfold Upd
    by_cases e : x = a
    · subst e
      rw [if_pos rfl, Maps.atKey_put_same hm (keyed41.key (Maps.keyOf_int_mk Try.underlying41 (wf16 ha)))]
    · rw [if_neg e, Maps.atKey_put_other (by intro e1; simp at e1; omega)]
      exact h2 x hx
  · unfold Upd; split
    · exact hk
    · exact h3 x
end Go.Proofs.Ytneemllgimeacaa
